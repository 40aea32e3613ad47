/- SchDeep: the walk. -/
import Derived.Test.YtclphhpcgledoaaGreatDoorSLawA
import Derived.Test.YtclphhpcgledoaaGreatDoorSDeepP
import Derived.Deep.RegionHeld3
namespace Go.Proofs.YtclphhpcgledoaaGreatDoor
open Go.RowKit
namespace Sh
open Sc

/-- Which way down at a number: of a sum that may go round. -/
def chI (b : Int) (k : Nat) : Int := IntKind.i64.wrap (b + k)
def ch (b : Int) (k : Nat) : Nat := (chI b k % 5).toNat
def chs (b : Int) : Nat → List Nat
  | 0 => []
  | k + 1 => ch b (k + 1) :: chs b k
theorem chs_len (b : Int) (k : Nat) : (chs b k).length = k := by
  induction k with
  | zero => rfl
  | succ k ih => rw [chs, List.length_cons, ih]
theorem ch_lt (b : Int) (k : Nat) : ch b k < 5 := by unfold ch; omega
theorem ch_cast (b : Int) (k : Nat) : chI b k % 5 = (ch b k : Int) := by unfold ch; omega
theorem chI_lo (b : Int) (k : Nat) : -9223372036854775808 ≤ chI b k := by unfold chI; rw [IntKind.wrap_i64]; omega
theorem chI_hi (b : Int) (k : Nat) : chI b k ≤ 9223372036854775807 := by unfold chI; rw [IntKind.wrap_i64]; omega
theorem bcat' (l m : List UInt8) : (⟨l.toArray⟩ : ByteArray) ++ ⟨m.toArray⟩ = ⟨(l ++ m).toArray⟩ := by apply ByteArray.ext; simp [ByteArray.data_append]

theorem opn_len (c : Nat) : (opn c).length ≤ 10 := by rcases opn5 c with rfl | rfl | rfl | rfl | ⟨n, rfl⟩ <;> simp [opn]
theorem cls_len (c : Nat) : (cls c).length ≤ 1 := by rcases opn5 c with rfl | rfl | rfl | rfl | ⟨n, rfl⟩ <;> simp [cls]
theorem arr_opn (c : Nat) (h : c < 5) : (#[.string ⟨#[76, 105, 115, 116, 60]⟩, .string ⟨#[123, 97, 58, 32]⟩, .string ⟨#[85, 110, 105, 111, 110, 32, 123, 97, 58, 32]⟩, .string ⟨#[77, 97, 112, 60]⟩, .string ⟨#[79, 112, 116, 60]⟩] : Array Value)[c]? = some (.string ⟨(opn c).toArray⟩) := by
  match c, h with
  | 0, _ => rfl
  | 1, _ => rfl
  | 2, _ => rfl
  | 3, _ => rfl
  | 4, _ => rfl
theorem arr_cls (c : Nat) (h : c < 5) : (#[.string ⟨#[62]⟩, .string ⟨#[125]⟩, .string ⟨#[125]⟩, .string ⟨#[62]⟩, .string ⟨#[62]⟩] : Array Value)[c]? = some (.string ⟨(cls c).toArray⟩) := by
  match c, h with
  | 0, _ => rfl
  | 1, _ => rfl
  | 2, _ => rfl
  | 3, _ => rfl
  | 4, _ => rfl

theorem lst_opn (c : Nat) (h : c < 5) : ([.string ⟨#[76, 105, 115, 116, 60]⟩, .string ⟨#[123, 97, 58, 32]⟩, .string ⟨#[85, 110, 105, 111, 110, 32, 123, 97, 58, 32]⟩, .string ⟨#[77, 97, 112, 60]⟩, .string ⟨#[79, 112, 116, 60]⟩] : List Value)[c]'h = .string ⟨(opn c).toArray⟩ := by
  match c, h with
  | 0, _ => rfl
  | 1, _ => rfl
  | 2, _ => rfl
  | 3, _ => rfl
  | 4, _ => rfl
theorem lst_cls (c : Nat) (h : c < 5) : ([.string ⟨#[62]⟩, .string ⟨#[125]⟩, .string ⟨#[125]⟩, .string ⟨#[62]⟩, .string ⟨#[62]⟩] : List Value)[c]'h = .string ⟨(cls c).toArray⟩ := by
  match c, h with
  | 0, _ => rfl
  | 1, _ => rfl
  | 2, _ => rfl
  | 3, _ => rfl
  | 4, _ => rfl

def DRel (w0 : World) (b : Int) (N : Nat) (sv iv : Value) (wr : World) (k : Nat) : Prop := k + 1 ≤ N ∧ iv = .int .i64 ((k + 1 : Nat) : Int) ∧ sv = .string ⟨(deepS (chs b k)).toArray⟩ ∧ Below w0.heap.size w0 wr

set_option maxRecDepth 100000 in
set_option maxHeartbeats 8000000 in
theorem SchDeep_any (a b : Int) (w : World) (hT : Tab3 w) (ha1 : -9223372036854775808 ≤ a) (ha2 : a ≤ 9223372036854775807) (hb1 : -9223372036854775808 ≤ b) (hb2 : b ≤ 9223372036854775807) :
    Calls Tryz.prog 6 #[.int .i64 a, .int .i64 b] w fun e w' => e = .returned (.bool true) ∧ Below w.heap.size w w' := by
  have CK := known_any w hT
  obtain ⟨n, hn⟩ : ∃ n : Nat, a % 15 = n := ⟨(a % 15).toNat, by omega⟩
  have hn15 : n < 15 := by omega
  have CA := fun w => within_any a 15 w (by omega) (by omega) ha1 ha2
  simp only [hn] at CA
  have HK := Lib.hid CK; have HA := Lib.hid CA; have HT := Lib.hid hT
  clear CK CA hT hn ha1 ha2
  go_enter Tryz.func6, Tryz.ntmps6
  go_wp2_with (first
    | (go_at_call 11; (with_reducible refine HK.out.mono ?_); rintro e w1 ⟨rfl, b1⟩; have B1 := Lib.hid b1; clear b1)
    | (go_at_call 19; (with_reducible refine (HA.out _).mono ?_); rintro e w2 ⟨rfl, rfl⟩))
  go_loopw [5, 6] (fun sv iv wr => ∃ k, DRel w b (n + 1) sv iv wr k) (fun _ i _ => n + 1 - (intOf i).toNat)
  case atStart => exact ⟨0, by omega, rfl, rfl, B1.out⟩
  case round =>
    obtain ⟨k, hk, rfl, rfl, hb⟩ := hrel
    have HBw := Lib.hid hb
    have hws := hb.size
    clear hb
    by_cases hlt : k < n
    · have hlz : (k : Int) < (n : Int) := by omega
      have CB : ∀ (W : World) (q : Int), q = chI b (k + 1) → Calls Tryz.prog 19 #[.int .i64 q, .int .i64 5] W fun e w' => e = .returned (.int .i64 (ch b (k + 1) : Nat)) ∧ W = w' := by
        intro W q hq
        subst hq
        have := within_any (chI b (k + 1)) 5 W (by omega) (by omega) (chI_lo b (k + 1)) (chI_hi b (k + 1))
        rwa [ch_cast] at this
      have hcs : chs b (k + 1) = ch b (k + 1) :: chs b k := rfl
      have h5 := ch_lt b (k + 1)
      have hq : IntKind.i64.wrap (b + ((k : Int) + 1)) = chI b (k + 1) := by unfold chI; rw [Int.natCast_add]; rfl
      rw [← hq] at CB
      clear hq
      have hop := opn_len (ch b (k + 1))
      have hcls := cls_len (ch b (k + 1))
      have hO : (#[.string ⟨#[76, 105, 115, 116, 60]⟩, .string ⟨#[123, 97, 58, 32]⟩, .string ⟨#[85, 110, 105, 111, 110, 32, 123, 97, 58, 32]⟩, .string ⟨#[77, 97, 112, 60]⟩, .string ⟨#[79, 112, 116, 60]⟩] : Array Value)[ch b (k + 1)]? = some (.string ⟨(opn (ch b (k + 1))).toArray⟩) := arr_opn _ h5
      have hC : (#[.string ⟨#[62]⟩, .string ⟨#[125]⟩, .string ⟨#[125]⟩, .string ⟨#[62]⟩, .string ⟨#[62]⟩] : Array Value)[ch b (k + 1)]? = some (.string ⟨(cls (ch b (k + 1))).toArray⟩) := arr_cls _ h5
      have hO2 := lst_opn (ch b (k + 1)) h5
      have hC2 := lst_cls (ch b (k + 1)) h5
      have hsl : (deepS (chs b k)).length ≤ 200 := by have := deepS_len (chs b k); rw [chs_len] at this; omega
      have e1 := fun W : World => run_string_add_sum (P := Tryz.prog) W ⟨(opn (ch b (k + 1))).toArray⟩ ⟨(deepS (chs b k)).toArray⟩ (by show (opn (ch b (k + 1))).length + (deepS (chs b k)).length ≤ _; omega)
      have e2 := fun W : World => run_string_add_sum (P := Tryz.prog) W (⟨(opn (ch b (k + 1))).toArray⟩ ++ ⟨(deepS (chs b k)).toArray⟩) ⟨(cls (ch b (k + 1))).toArray⟩ (by rw [ByteArray.size_append]; show (opn (ch b (k + 1))).length + (deepS (chs b k)).length + (cls (ch b (k + 1))).length ≤ _; omega)
      have hdn : (⟨(opn (ch b (k + 1))).toArray⟩ : ByteArray) ++ ⟨(deepS (chs b k)).toArray⟩ ++ ⟨(cls (ch b (k + 1))).toArray⟩ = ⟨(deepS (chs b (k + 1))).toArray⟩ := by
        rw [bcat', bcat', hcs, deepS, List.append_assoc]
      have HDN := Lib.hid hdn
      have h5z : ((ch b (k + 1) : Nat) : Int) < 5 := by omega
      have HB := Lib.hid CB
      clear CB hcs hop hcls hdn hsl
      generalize ch b (k + 1) = c at *
      generalize opn c = oc at *
      generalize cls c = cc at *
      generalize deepS (chs b k) = sk at *
      go_wp2_with fail
      go_region_with (first | (go_at_call 19; refine (HB.out _ _ (by first | rfl | (unfold wrap64; rfl))).mono ?_; rintro e w' ⟨rfl, rfl⟩))
      all_goals
        go_wp2
        go_roundw
        case rel => exact ⟨k + 1, by omega, by go_num, by rw [HDN.out], by first | exact (HBw.out.alloc hws _).alloc (by simp; omega) _ | exact (HBw.out.drew.alloc hws _).alloc (by simp; omega) _⟩
        case measure => simp [intOf]; omega
    · obtain rfl : k = n := by omega
      have hty := deep_type (chs b k) (by rw [chs_len]; omega)
      rw [chs_len] at hty
      have hsl : (⟨(deepS (chs b k)).toArray⟩ : ByteArray).size ≤ maxLen := by
        have h1 := deepS_len (chs b k)
        rw [chs_len] at h1
        unfold maxLen
        show (deepS (chs b k)).length ≤ _
        omega
      have CT := Type_any ⟨(deepS (chs b k)).toArray⟩ wr hsl (HT.out.below HBw.out).two (HT.out.below HBw.out).look
      rw [show (⟨(deepS (chs b k)).toArray⟩ : ByteArray).data.toList = deepS (chs b k) from rfl] at CT
      generalize typeL (deepS (chs b k)) = x at *
      obtain ⟨t, er⟩ := x
      have hty : er = if k < 12 then 0 else 13 := hty
      by_cases h12 : k < 12
      · rw [if_pos h12] at hty
        subst hty
        have HCT := Lib.hid CT; clear CT
        have k12 : 1 + (k : Int) ≤ 12 := by omega
        go_wp2_with (go_at_call 17; (refine HCT.out.mono ?_); rintro e w3 ⟨c, rfl, b3, hv⟩; obtain ⟨kd, nm, an, ln, cn, ak, lk, ck⟩ := c; have B3 := Lib.hid (HBw.out.trans (b3.mono hws)); clear b3 hv; simp only [C4.val])
        go_ret
        exact ⟨rfl, B3.out.alloc B3.out.size _⟩
      · rw [if_neg h12] at hty
        subst hty
        have HCT := Lib.hid CT; clear CT
        have k12 : 12 < 1 + (k : Int) := by omega
        go_wp2_with (go_at_call 17; (refine HCT.out.mono ?_); rintro e w3 ⟨c, rfl, b3, hv⟩; obtain ⟨kd, nm, an, ln, cn, ak, lk, ck⟩ := c; have B3 := Lib.hid (HBw.out.trans (b3.mono hws)); clear b3 hv; simp only [C4.val])
        go_ret
        exact ⟨rfl, B3.out.alloc B3.out.size _⟩
end Sh
end Go.Proofs.YtclphhpcgledoaaGreatDoor
