/- SchCommas: the walk. -/
import Derived.Test.YtclphhpcgledoaaGreatDoorSLawA
import Derived.Test.YtclphhpcgledoaaGreatDoorSComP
namespace Go.Proofs.YtclphhpcgledoaaGreatDoor
open Go.RowKit
namespace Sh
open Sc

theorem cz0 (S : ByteArray) (h : S.size ≤ 1000) : (⟨#[123]⟩ : ByteArray).size + S.size ≤ 9223372036854775807 := by
  have h' : S.data.size ≤ 1000 := h
  have e : ∀ x : ByteArray, x.size = x.data.toList.length := fun _ => rfl
  rw [e, e]
  simp [ByteArray.data_append]
  omega
theorem cz1 (S : ByteArray) (h : S.size ≤ 1000) : ((⟨#[123]⟩ : ByteArray) ++ S).size + (⟨#[125]⟩ : ByteArray).size ≤ 9223372036854775807 := by
  have h' : S.data.size ≤ 1000 := h
  have e : ∀ x : ByteArray, x.size = x.data.toList.length := fun _ => rfl
  rw [e, e]
  simp [ByteArray.data_append]
  omega
theorem cz2 (S : ByteArray) (h : S.size ≤ 1000) : ((⟨#[123]⟩ : ByteArray) ++ S).size + (⟨#[44, 125]⟩ : ByteArray).size ≤ 9223372036854775807 := by
  have h' : S.data.size ≤ 1000 := h
  have e : ∀ x : ByteArray, x.size = x.data.toList.length := fun _ => rfl
  rw [e, e]
  simp [ByteArray.data_append]
  omega
theorem cz3 (S : ByteArray) (h : S.size ≤ 1000) : (⟨#[123, 44]⟩ : ByteArray).size + S.size ≤ 9223372036854775807 := by
  have h' : S.data.size ≤ 1000 := h
  have e : ∀ x : ByteArray, x.size = x.data.toList.length := fun _ => rfl
  rw [e, e]
  simp [ByteArray.data_append]
  omega
theorem cz4 (S : ByteArray) (h : S.size ≤ 1000) : ((⟨#[123, 44]⟩ : ByteArray) ++ S).size + (⟨#[125]⟩ : ByteArray).size ≤ 9223372036854775807 := by
  have h' : S.data.size ≤ 1000 := h
  have e : ∀ x : ByteArray, x.size = x.data.toList.length := fun _ => rfl
  rw [e, e]
  simp [ByteArray.data_append]
  omega
theorem cz5 (S : ByteArray) (h : S.size ≤ 1000) : S.size + (⟨#[125]⟩ : ByteArray).size ≤ 9223372036854775807 := by
  have h' : S.data.size ≤ 1000 := h
  have e : ∀ x : ByteArray, x.size = x.data.toList.length := fun _ => rfl
  rw [e, e]
  simp [ByteArray.data_append]
  omega
theorem cz6 (S : ByteArray) (h : S.size ≤ 1000) : ((⟨#[123]⟩ : ByteArray) ++ S).size + (⟨#[125, 125]⟩ : ByteArray).size ≤ 9223372036854775807 := by
  have h' : S.data.size ≤ 1000 := h
  have e : ∀ x : ByteArray, x.size = x.data.toList.length := fun _ => rfl
  rw [e, e]
  simp [ByteArray.data_append]
  omega
theorem cz7 (S : ByteArray) (h : S.size ≤ 1000) : ((⟨#[123]⟩ : ByteArray) ++ S).size + (⟨#[32, 122, 58, 32, 73, 110, 116, 125]⟩ : ByteArray).size ≤ 9223372036854775807 := by
  have h' : S.data.size ≤ 1000 := h
  have e : ∀ x : ByteArray, x.size = x.data.toList.length := fun _ => rfl
  rw [e, e]
  simp [ByteArray.data_append]
  omega
theorem cz8 (S : ByteArray) (h : S.size ≤ 1000) : ((⟨#[123]⟩ : ByteArray) ++ S).size + (⟨#[44, 32, 122, 125]⟩ : ByteArray).size ≤ 9223372036854775807 := by
  have h' : S.data.size ≤ 1000 := h
  have e : ∀ x : ByteArray, x.size = x.data.toList.length := fun _ => rfl
  rw [e, e]
  simp [ByteArray.data_append]
  omega
theorem cz9 (S : ByteArray) (h : S.size ≤ 1000) : ((⟨#[123]⟩ : ByteArray) ++ S).size + (⟨#[44, 32, 122, 58, 125]⟩ : ByteArray).size ≤ 9223372036854775807 := by
  have h' : S.data.size ≤ 1000 := h
  have e : ∀ x : ByteArray, x.size = x.data.toList.length := fun _ => rfl
  rw [e, e]
  simp [ByteArray.data_append]
  omega
theorem cz10 (S : ByteArray) (h : S.size ≤ 1000) : ((⟨#[123]⟩ : ByteArray) ++ S).size + (⟨#[44, 32, 122, 58, 32, 76, 105, 115, 116, 60, 73, 110, 116, 125]⟩ : ByteArray).size ≤ 9223372036854775807 := by
  have h' : S.data.size ≤ 1000 := h
  have e : ∀ x : ByteArray, x.size = x.data.toList.length := fun _ => rfl
  rw [e, e]
  simp [ByteArray.data_append]
  omega
theorem cz11 (S : ByteArray) (h : S.size ≤ 1000) : ((⟨#[123]⟩ : ByteArray) ++ S).size + (⟨#[44, 32, 122, 58, 32, 76, 105, 115, 116, 32, 73, 110, 116, 125]⟩ : ByteArray).size ≤ 9223372036854775807 := by
  have h' : S.data.size ≤ 1000 := h
  have e : ∀ x : ByteArray, x.size = x.data.toList.length := fun _ => rfl
  rw [e, e]
  simp [ByteArray.data_append]
  omega
theorem cz12 (S : ByteArray) (h : S.size ≤ 1000) : (⟨#[85, 110, 105, 111, 110, 32]⟩ : ByteArray).size + S.size ≤ 9223372036854775807 := by
  have h' : S.data.size ≤ 1000 := h
  have e : ∀ x : ByteArray, x.size = x.data.toList.length := fun _ => rfl
  rw [e, e]
  simp [ByteArray.data_append]
  omega
theorem cz13 (S : ByteArray) (h : S.size ≤ 1000) : (⟨#[85, 110, 105, 111, 110, 32, 123]⟩ : ByteArray).size + S.size ≤ 9223372036854775807 := by
  have h' : S.data.size ≤ 1000 := h
  have e : ∀ x : ByteArray, x.size = x.data.toList.length := fun _ => rfl
  rw [e, e]
  simp [ByteArray.data_append]
  omega
theorem cz14 (S : ByteArray) (h : S.size ≤ 1000) : ((⟨#[85, 110, 105, 111, 110, 32, 123]⟩ : ByteArray) ++ S).size + (⟨#[125]⟩ : ByteArray).size ≤ 9223372036854775807 := by
  have h' : S.data.size ≤ 1000 := h
  have e : ∀ x : ByteArray, x.size = x.data.toList.length := fun _ => rfl
  rw [e, e]
  simp [ByteArray.data_append]
  omega
def comV (S : ByteArray) : List ByteArray := [((⟨#[123]⟩ : ByteArray) ++ S) ++ (⟨#[125]⟩ : ByteArray), ((⟨#[123]⟩ : ByteArray) ++ S) ++ (⟨#[44, 125]⟩ : ByteArray), ((⟨#[123, 44]⟩ : ByteArray) ++ S) ++ (⟨#[125]⟩ : ByteArray), (⟨#[123]⟩ : ByteArray) ++ S, S ++ (⟨#[125]⟩ : ByteArray), ((⟨#[123]⟩ : ByteArray) ++ S) ++ (⟨#[125, 125]⟩ : ByteArray), ((⟨#[123]⟩ : ByteArray) ++ S) ++ (⟨#[32, 122, 58, 32, 73, 110, 116, 125]⟩ : ByteArray), ((⟨#[123]⟩ : ByteArray) ++ S) ++ (⟨#[44, 32, 122, 125]⟩ : ByteArray), ((⟨#[123]⟩ : ByteArray) ++ S) ++ (⟨#[44, 32, 122, 58, 125]⟩ : ByteArray), ((⟨#[123]⟩ : ByteArray) ++ S) ++ (⟨#[44, 32, 122, 58, 32, 76, 105, 115, 116, 60, 73, 110, 116, 125]⟩ : ByteArray), ((⟨#[123]⟩ : ByteArray) ++ S) ++ (⟨#[44, 32, 122, 58, 32, 76, 105, 115, 116, 32, 73, 110, 116, 125]⟩ : ByteArray), (⟨#[85, 110, 105, 111, 110, 32]⟩ : ByteArray) ++ S, ((⟨#[85, 110, 105, 111, 110, 32, 123]⟩ : ByteArray) ++ S) ++ (⟨#[125]⟩ : ByteArray)]
theorem bcat (l m : List UInt8) : (⟨l.toArray⟩ : ByteArray) ++ ⟨m.toArray⟩ = ⟨(l ++ m).toArray⟩ := by apply ByteArray.ext; simp [ByteArray.data_append]
theorem comV_len (S : ByteArray) : (comV S).length = 13 := rfl
theorem comV_at (S : ByteArray) (k : Nat) (hk : k < 13) : ((comV S).getD k ⟨#[]⟩).data.toList = (comRows S.data.toList).getD k [] := by
  match k, hk with
  | 0, _ => simp [comV, comRows, ByteArray.data_append]
  | 1, _ => simp [comV, comRows, ByteArray.data_append]
  | 2, _ => simp [comV, comRows, ByteArray.data_append]
  | 3, _ => simp [comV, comRows, ByteArray.data_append]
  | 4, _ => simp [comV, comRows, ByteArray.data_append]
  | 5, _ => simp [comV, comRows, ByteArray.data_append]
  | 6, _ => simp [comV, comRows, ByteArray.data_append]
  | 7, _ => simp [comV, comRows, ByteArray.data_append]
  | 8, _ => simp [comV, comRows, ByteArray.data_append]
  | 9, _ => simp [comV, comRows, ByteArray.data_append]
  | 10, _ => simp [comV, comRows, ByteArray.data_append]
  | 11, _ => simp [comV, comRows, ByteArray.data_append]
  | 12, _ => simp [comV, comRows, ByteArray.data_append]
  | k + 13, hk => exact absurd hk (by omega)
theorem comV_size (S : ByteArray) (h : S.size ≤ 1000) (k : Nat) (hk : k < 13) : ((comV S).getD k ⟨#[]⟩).size ≤ maxLen := by
  have e : ∀ x : ByteArray, x.size = x.data.toList.length := fun _ => rfl
  rw [e, comV_at S k hk]
  have hs : S.data.toList.length ≤ 1000 := h
  unfold maxLen
  match k, hk with
  | 0, _ => simp [comRows]; omega
  | 1, _ => simp [comRows]; omega
  | 2, _ => simp [comRows]; omega
  | 3, _ => simp [comRows]; omega
  | 4, _ => simp [comRows]; omega
  | 5, _ => simp [comRows]; omega
  | 6, _ => simp [comRows]; omega
  | 7, _ => simp [comRows]; omega
  | 8, _ => simp [comRows]; omega
  | 9, _ => simp [comRows]; omega
  | 10, _ => simp [comRows]; omega
  | 11, _ => simp [comRows]; omega
  | 12, _ => simp [comRows]; omega
  | k + 13, hk => exact absurd hk (by omega)

theorem ty_names {w : World} {S : Nat → Prop} {t : Ty} {c : C4} (h : TyV w S t c) (hn : namesOf t ≠ 1000) : c.ln = namesOf t := by
  cases h with
  | any c => exact absurd rfl hn
  | mk => rfl

theorem byte_conv (w : World) (k : Nat) (hk : k ≤ 6) : (convert 60 9 (.slice (some ⟨w.heap.size, 0, none⟩) 1 1)).run Tryz.prog (w.alloc (.cells #[.int .u8 (97 + (k : Int))] 5)) = .ok (.string ⟨#[UInt8.ofNat (97 + k)]⟩) (w.alloc (.cells #[.int .u8 (97 + (k : Int))] 5)) := by
  have h := run_convert_bytes_arg (P := Tryz.prog) (w.alloc (.cells #[.int .u8 (97 + (k : Int))] 5)) 60 5 Tryz.underlying60 Tryz.underlying5 w.heap.size 0 1 1 [97 + (k : Int)] rfl
    (fun i hi => by
      obtain rfl : i = 0 := by simpa using hi
      simp) 9 Tryz.underlying9
  rw [h]
  congr 2

def ComRel (w0 : World) (N : Nat) (sv iv : Value) (wr : World) (k : Nat) : Prop := k ≤ N ∧ iv = .int .i64 k ∧ sv = .string ⟨(comS k).toArray⟩ ∧ Below w0.heap.size w0 wr

set_option maxRecDepth 100000 in
set_option maxHeartbeats 4000000 in
theorem SchCommas_any (a b : Int) (w : World) (hT : Tab3 w) (ha1 : -9223372036854775808 ≤ a) (ha2 : a ≤ 9223372036854775807) (hb1 : -9223372036854775808 ≤ b) (hb2 : b ≤ 9223372036854775807) :
    Calls Tryz.prog 8 #[.int .i64 a, .int .i64 b] w fun e w' => e = .returned (.bool true) ∧ Below w.heap.size w w' := by
  have CK := known_any w hT
  obtain ⟨n, hn⟩ : ∃ n : Nat, a % 6 = n := ⟨(a % 6).toNat, by omega⟩
  obtain ⟨kk, hkk⟩ : ∃ k : Nat, b % 13 = k := ⟨(b % 13).toNat, by omega⟩
  have hn6 : n < 6 := by omega
  have hk13 : kk < 13 := by omega
  have CA := fun w => within_any a 6 w (by omega) (by omega) ha1 ha2
  have CB := fun w => within_any b 13 w (by omega) (by omega) hb1 hb2
  simp only [hn] at CA
  simp only [hkk] at CB
  have HK := Lib.hid CK; have HA := Lib.hid CA; have HB := Lib.hid CB; have HT := Lib.hid hT
  clear CK CA CB hT hn hkk ha1 ha2 hb1 hb2
  go_enter Tryz.func8, Tryz.ntmps8
  go_wp2_with (first
    | (go_at_call 11; (with_reducible refine HK.out.mono ?_); rintro e w1 ⟨rfl, b1⟩; have B1 := Lib.hid b1; clear b1)
    | (go_at_call 19; (with_reducible refine (HA.out _).mono ?_); rintro e w2 ⟨rfl, rfl⟩))
  go_loopw [5, 6] (fun sv iv wr => ∃ k, ComRel w (n + 1) sv iv wr k) (fun _ i _ => n + 1 - (intOf i).toNat)
  case atStart => exact ⟨0, Nat.zero_le _, rfl, rfl, B1.out⟩
  case round =>
    obtain ⟨k, hk, rfl, rfl, hb⟩ := hrel
    have HBw := Lib.hid hb
    have hws := hb.size
    clear hb
    by_cases hlt : k < n + 1
    · have hlz : (k : Int) < 1 + (n : Int) := by omega
      have hcv := byte_conv wr k (by omega)
      have hcl := comS_len k
      have hs0 : (⟨(comS k).toArray⟩ : ByteArray).size = (comS k).length := rfl
      have b0 := HBw.out
      by_cases hk0 : k = 0
      · subst hk0
        have e2 := fun w : World => run_string_add_sum (P := Tryz.prog) w ⟨(comS 0).toArray⟩ ⟨#[UInt8.ofNat (97 + 0)]⟩ (by decide)
        have e3 := fun w : World => run_string_add_sum (P := Tryz.prog) w (⟨(comS 0).toArray⟩ ++ ⟨#[UInt8.ofNat (97 + 0)]⟩) ⟨#[58, 32, 76, 105, 115, 116, 60, 73, 110, 116, 62]⟩ (by decide)
        have hcv0 : (convert 60 9 (.slice (some ⟨wr.heap.size, 0, none⟩) 1 1)).run Tryz.prog (wr.alloc (.cells #[.int .u8 97] 5)) = .ok (.string ⟨#[UInt8.ofNat (97 + 0)]⟩) (wr.alloc (.cells #[.int .u8 97] 5)) := hcv
        have hlz0 : (0 : Int) < 1 + (n : Int) := by omega
        clear hs0 hcl b0 hcv hlz hlt
        go_wp2
        go_roundw
        case rel => exact ⟨1, by omega, rfl, rfl, HBw.out.alloc hws _⟩
        case measure => simp [intOf]; try omega
      · have hkp : (0 : Int) < (k : Int) := by omega
        have hk5 : (k : Int) ≤ 5 := by omega
        have hcl2 : (comS k).length ≤ 200 := by omega
        obtain ⟨bt, hbt⟩ : ∃ bt, UInt8.ofNat (97 + k) = bt := ⟨_, rfl⟩
        rw [hbt] at hcv
        have HBT := Lib.hid hbt
        clear hs0 hcl b0 hbt
        go_wp2
        go_roundw
        case rel =>
          refine ⟨k + 1, by omega, by go_num, ?_, HBw.out.alloc hws _⟩
          rw [bcat, bcat, bcat]
          rw [comS, if_neg hk0, HBT.out]
        case measure => simp [intOf]; omega
    · obtain rfl : k = n + 1 := by omega
      obtain ⟨S, hS0⟩ : ∃ S : ByteArray, (⟨(comS (n + 1)).toArray⟩ : ByteArray) = S := ⟨_, rfl⟩
      have hSl : S.data.toList = comS (n + 1) := by rw [← hS0]
      have hS : S.size ≤ 1000 := by
        have h1 := comS_len (n + 1)
        have h2 : S.size = S.data.toList.length := rfl
        rw [h2, hSl]; omega
      have hat := comV_at S kk hk13
      have hsz := comV_size S hS kk hk13
      rw [hSl] at hat
      have hcell : (wr.alloc (.cells #[.string (((⟨#[123]⟩ : ByteArray) ++ S) ++ (⟨#[125]⟩ : ByteArray)), .string (((⟨#[123]⟩ : ByteArray) ++ S) ++ (⟨#[44, 125]⟩ : ByteArray)), .string (((⟨#[123, 44]⟩ : ByteArray) ++ S) ++ (⟨#[125]⟩ : ByteArray)), .string ((⟨#[123]⟩ : ByteArray) ++ S), .string (S ++ (⟨#[125]⟩ : ByteArray)), .string (((⟨#[123]⟩ : ByteArray) ++ S) ++ (⟨#[125, 125]⟩ : ByteArray)), .string (((⟨#[123]⟩ : ByteArray) ++ S) ++ (⟨#[32, 122, 58, 32, 73, 110, 116, 125]⟩ : ByteArray)), .string (((⟨#[123]⟩ : ByteArray) ++ S) ++ (⟨#[44, 32, 122, 125]⟩ : ByteArray)), .string (((⟨#[123]⟩ : ByteArray) ++ S) ++ (⟨#[44, 32, 122, 58, 125]⟩ : ByteArray)), .string (((⟨#[123]⟩ : ByteArray) ++ S) ++ (⟨#[44, 32, 122, 58, 32, 76, 105, 115, 116, 60, 73, 110, 116, 125]⟩ : ByteArray)), .string (((⟨#[123]⟩ : ByteArray) ++ S) ++ (⟨#[44, 32, 122, 58, 32, 76, 105, 115, 116, 32, 73, 110, 116, 125]⟩ : ByteArray)), .string ((⟨#[85, 110, 105, 111, 110, 32]⟩ : ByteArray) ++ S), .string (((⟨#[85, 110, 105, 111, 110, 32, 123]⟩ : ByteArray) ++ S) ++ (⟨#[125]⟩ : ByteArray))] 9)).cell? ⟨wr.heap.size, kk, none⟩ = some (.string ((comV S).getD kk ⟨#[]⟩)) := by
        match kk, hk13 with
        | 0, _ => simp [comV]
        | 1, _ => simp [comV]
        | 2, _ => simp [comV]
        | 3, _ => simp [comV]
        | 4, _ => simp [comV]
        | 5, _ => simp [comV]
        | 6, _ => simp [comV]
        | 7, _ => simp [comV]
        | 8, _ => simp [comV]
        | 9, _ => simp [comV]
        | 10, _ => simp [comV]
        | 11, _ => simp [comV]
        | 12, _ => simp [comV]
        | kk + 13, hk => exact absurd hk (by omega)
      have CT := Type_any ((comV S).getD kk ⟨#[]⟩) (wr.alloc (.cells #[.string (((⟨#[123]⟩ : ByteArray) ++ S) ++ (⟨#[125]⟩ : ByteArray)), .string (((⟨#[123]⟩ : ByteArray) ++ S) ++ (⟨#[44, 125]⟩ : ByteArray)), .string (((⟨#[123, 44]⟩ : ByteArray) ++ S) ++ (⟨#[125]⟩ : ByteArray)), .string ((⟨#[123]⟩ : ByteArray) ++ S), .string (S ++ (⟨#[125]⟩ : ByteArray)), .string (((⟨#[123]⟩ : ByteArray) ++ S) ++ (⟨#[125, 125]⟩ : ByteArray)), .string (((⟨#[123]⟩ : ByteArray) ++ S) ++ (⟨#[32, 122, 58, 32, 73, 110, 116, 125]⟩ : ByteArray)), .string (((⟨#[123]⟩ : ByteArray) ++ S) ++ (⟨#[44, 32, 122, 125]⟩ : ByteArray)), .string (((⟨#[123]⟩ : ByteArray) ++ S) ++ (⟨#[44, 32, 122, 58, 125]⟩ : ByteArray)), .string (((⟨#[123]⟩ : ByteArray) ++ S) ++ (⟨#[44, 32, 122, 58, 32, 76, 105, 115, 116, 60, 73, 110, 116, 125]⟩ : ByteArray)), .string (((⟨#[123]⟩ : ByteArray) ++ S) ++ (⟨#[44, 32, 122, 58, 32, 76, 105, 115, 116, 32, 73, 110, 116, 125]⟩ : ByteArray)), .string ((⟨#[85, 110, 105, 111, 110, 32]⟩ : ByteArray) ++ S), .string (((⟨#[85, 110, 105, 111, 110, 32, 123]⟩ : ByteArray) ++ S) ++ (⟨#[125]⟩ : ByteArray))] 9)) hsz (HT.out.below (HBw.out.alloc hws _)).two (HT.out.below (HBw.out.alloc hws _)).look
      rw [hat] at CT
      have hok := com_all (n + 1) kk (by omega) (by omega) hk13
      unfold comOk at hok
      have HB2 := Lib.hid (HBw.out.alloc hws (.cells #[.string (((⟨#[123]⟩ : ByteArray) ++ S) ++ (⟨#[125]⟩ : ByteArray)), .string (((⟨#[123]⟩ : ByteArray) ++ S) ++ (⟨#[44, 125]⟩ : ByteArray)), .string (((⟨#[123, 44]⟩ : ByteArray) ++ S) ++ (⟨#[125]⟩ : ByteArray)), .string ((⟨#[123]⟩ : ByteArray) ++ S), .string (S ++ (⟨#[125]⟩ : ByteArray)), .string (((⟨#[123]⟩ : ByteArray) ++ S) ++ (⟨#[125, 125]⟩ : ByteArray)), .string (((⟨#[123]⟩ : ByteArray) ++ S) ++ (⟨#[32, 122, 58, 32, 73, 110, 116, 125]⟩ : ByteArray)), .string (((⟨#[123]⟩ : ByteArray) ++ S) ++ (⟨#[44, 32, 122, 125]⟩ : ByteArray)), .string (((⟨#[123]⟩ : ByteArray) ++ S) ++ (⟨#[44, 32, 122, 58, 125]⟩ : ByteArray)), .string (((⟨#[123]⟩ : ByteArray) ++ S) ++ (⟨#[44, 32, 122, 58, 32, 76, 105, 115, 116, 60, 73, 110, 116, 125]⟩ : ByteArray)), .string (((⟨#[123]⟩ : ByteArray) ++ S) ++ (⟨#[44, 32, 122, 58, 32, 76, 105, 115, 116, 32, 73, 110, 116, 125]⟩ : ByteArray)), .string ((⟨#[85, 110, 105, 111, 110, 32]⟩ : ByteArray) ++ S), .string (((⟨#[85, 110, 105, 111, 110, 32, 123]⟩ : ByteArray) ++ S) ++ (⟨#[125]⟩ : ByteArray))] 9))
      generalize (comV S).getD kk ⟨#[]⟩ = r at *
      generalize typeL ((comRows (comS (n + 1))).getD kk []) = x at *
      rw [hS0]
      have s0 := fun w : World => run_string_add_sum (P := Tryz.prog) w (⟨#[123]⟩ : ByteArray) S (cz0 S hS)
      have s1 := fun w : World => run_string_add_sum (P := Tryz.prog) w ((⟨#[123]⟩ : ByteArray) ++ S) (⟨#[125]⟩ : ByteArray) (cz1 S hS)
      have s2 := fun w : World => run_string_add_sum (P := Tryz.prog) w ((⟨#[123]⟩ : ByteArray) ++ S) (⟨#[44, 125]⟩ : ByteArray) (cz2 S hS)
      have s3 := fun w : World => run_string_add_sum (P := Tryz.prog) w (⟨#[123, 44]⟩ : ByteArray) S (cz3 S hS)
      have s4 := fun w : World => run_string_add_sum (P := Tryz.prog) w ((⟨#[123, 44]⟩ : ByteArray) ++ S) (⟨#[125]⟩ : ByteArray) (cz4 S hS)
      have s5 := fun w : World => run_string_add_sum (P := Tryz.prog) w S (⟨#[125]⟩ : ByteArray) (cz5 S hS)
      have s6 := fun w : World => run_string_add_sum (P := Tryz.prog) w ((⟨#[123]⟩ : ByteArray) ++ S) (⟨#[125, 125]⟩ : ByteArray) (cz6 S hS)
      have s7 := fun w : World => run_string_add_sum (P := Tryz.prog) w ((⟨#[123]⟩ : ByteArray) ++ S) (⟨#[32, 122, 58, 32, 73, 110, 116, 125]⟩ : ByteArray) (cz7 S hS)
      have s8 := fun w : World => run_string_add_sum (P := Tryz.prog) w ((⟨#[123]⟩ : ByteArray) ++ S) (⟨#[44, 32, 122, 125]⟩ : ByteArray) (cz8 S hS)
      have s9 := fun w : World => run_string_add_sum (P := Tryz.prog) w ((⟨#[123]⟩ : ByteArray) ++ S) (⟨#[44, 32, 122, 58, 125]⟩ : ByteArray) (cz9 S hS)
      have s10 := fun w : World => run_string_add_sum (P := Tryz.prog) w ((⟨#[123]⟩ : ByteArray) ++ S) (⟨#[44, 32, 122, 58, 32, 76, 105, 115, 116, 60, 73, 110, 116, 125]⟩ : ByteArray) (cz10 S hS)
      have s11 := fun w : World => run_string_add_sum (P := Tryz.prog) w ((⟨#[123]⟩ : ByteArray) ++ S) (⟨#[44, 32, 122, 58, 32, 76, 105, 115, 116, 32, 73, 110, 116, 125]⟩ : ByteArray) (cz11 S hS)
      have s12 := fun w : World => run_string_add_sum (P := Tryz.prog) w (⟨#[85, 110, 105, 111, 110, 32]⟩ : ByteArray) S (cz12 S hS)
      have s13 := fun w : World => run_string_add_sum (P := Tryz.prog) w (⟨#[85, 110, 105, 111, 110, 32, 123]⟩ : ByteArray) S (cz13 S hS)
      have s14 := fun w : World => run_string_add_sum (P := Tryz.prog) w ((⟨#[85, 110, 105, 111, 110, 32, 123]⟩ : ByteArray) ++ S) (⟨#[125]⟩ : ByteArray) (cz14 S hS)
      clear hat hSl hS hsz hS0
      obtain ⟨t, er⟩ := x
      simp only at hok
      have HCT := Lib.hid CT
      clear CT
      by_cases h012 : kk = 0 ∨ kk = 12
      · rw [if_pos h012, Bool.and_eq_true, decide_eq_true_eq, decide_eq_true_eq] at hok
        obtain ⟨rfl, hnm⟩ := hok
        have HNM := Lib.hid hnm; clear hnm
        have tn : (((n + 1 : Nat) : Int) == 1 + (n : Int)) = true := by simp; omega
        have tn2 : ((n : Int) + 1 == 1 + (n : Int)) = true := by simp; omega
        rcases h012 with rfl | rfl
        all_goals
          go_wp2_with (first
            | (go_at_call 19; (with_reducible refine (HB.out _).mono ?_); rintro e w2 ⟨rfl, rfl⟩)
            | (go_at_call 17; (refine HCT.out.mono ?_); rintro e w3 ⟨c, rfl, b3, hv⟩; have hln := ty_names hv (by rw [HNM.out]; omega); rw [HNM.out] at hln; obtain ⟨kd, nm, an, ln, cn, ak, lk, ck⟩ := c; simp only at hln; subst hln; have B3 := Lib.hid (HB2.out.trans (b3.mono HB2.out.size)); clear b3 hv; simp only [C4.val]))
          go_ret
          exact ⟨rfl, B3.out.alloc B3.out.size _⟩
      · rw [if_neg h012, Bool.and_eq_true, decide_eq_true_eq, decide_eq_true_eq] at hok
        obtain ⟨rfl, hnm⟩ := hok
        have HNM := Lib.hid hnm; clear hnm
        have t0 : ((kk : Int) == 0) = false := by simp; omega
        have t12 : ((kk : Int) == 12) = false := by simp; omega
        clear h012
        go_wp2_with (first
          | (go_at_call 19; (with_reducible refine (HB.out _).mono ?_); rintro e w2 ⟨rfl, rfl⟩)
          | (go_at_call 17; (refine HCT.out.mono ?_); rintro e w3 ⟨c, rfl, b3, hv⟩; have hln := ty_names hv (by rw [HNM.out]; omega); rw [HNM.out] at hln; obtain ⟨kd, nm, an, ln, cn, ak, lk, ck⟩ := c; simp only at hln; subst hln; have B3 := Lib.hid (HB2.out.trans (b3.mono HB2.out.size)); clear b3 hv; simp only [C4.val]))
        go_ret
        exact ⟨rfl, B3.out.alloc B3.out.size _⟩
end Sh
end Go.Proofs.YtclphhpcgledoaaGreatDoor
