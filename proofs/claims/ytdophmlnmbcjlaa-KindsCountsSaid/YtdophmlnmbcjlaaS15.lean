/- namesThatEnd, Finite. -/
import Derived.Test.YtdophmlnmbcjlaaS14
import Derived.Deep.LoopGhost
namespace Go.Proofs.Ytdophmlnmbcjlaa
open Go.RowKit
namespace Sp
open Sc
/-- How many of a row's names are not known. -/
def unk (l : List NT) (Z : List NT) : Nat := (l.filter fun x => !hasZ Z x.1).length
theorem filter_le {α : Type} (p q : α → Bool) (h : ∀ x, q x = true → p x = true) : ∀ l : List α, (l.filter q).length ≤ (l.filter p).length
  | [] => Nat.le_refl _
  | x :: l => by
    have ih := filter_le p q h l
    rw [List.filter_cons, List.filter_cons]
    by_cases hq : q x = true
    · rw [if_pos hq, if_pos (h x hq)]; simp only [List.length_cons]; omega
    · rw [if_neg hq]; split
      · simp only [List.length_cons]; omega
      · exact ih
theorem filter_lt {α : Type} (p q : α → Bool) (h : ∀ x, q x = true → p x = true) (y : α) (hp : p y = true) (hq : q y = false) : ∀ l : List α, y ∈ l → (l.filter q).length < (l.filter p).length
  | [], hy => by cases hy
  | x :: l, hy => by
    rw [List.filter_cons, List.filter_cons]
    rcases List.mem_cons.1 hy with rfl | hy
    · rw [if_pos hp, if_neg (by rw [hq]; decide)]
      have := filter_le p q h l
      simp only [List.length_cons]; omega
    · have ih := filter_lt p q h y hp hq l hy
      by_cases hqx : q x = true
      · rw [if_pos hqx, if_pos (h x hqx)]; simp only [List.length_cons]; omega
      · rw [if_neg hqx]; split
        · simp only [List.length_cons]; omega
        · exact ih
theorem unk_snoc (l Z : List NT) (x : NT) (hx : x ∈ l) (hn : hasZ Z x.1 = false) : unk l (Z ++ [x]) < unk l Z := by
  unfold unk
  refine filter_lt _ _ (fun y hy => ?_) x (by simp [hn]) (by rw [hasZ_snoc]; simp) l hx
  rw [hasZ_snoc] at hy
  simp only [Bool.not_or, Bool.and_eq_true] at hy
  exact hy.1
theorem round_unk (l : List NT) : ∀ (s : List NT) (Z : List NT) (n : Nat), (∀ x ∈ s, x ∈ l) → Z.length + unk l Z ≤ l.length → (roundZ Z n s).1.length + unk l (roundZ Z n s).1 ≤ l.length
  | [], Z, n, _, h => h
  | x :: s, Z, n, hs, h => by
    unfold roundZ
    split
    · exact round_unk l s Z n (fun y hy => hs y (List.mem_cons_of_mem _ hy)) h
    · rename_i hn
      split
      · refine round_unk l s _ _ (fun y hy => hs y (List.mem_cons_of_mem _ hy)) ?_
        have := unk_snoc l Z x (hs x List.mem_cons_self) (by simpa using hn)
        rw [List.length_append, List.length_singleton]; omega
      · exact round_unk l s _ _ (fun y hy => hs y (List.mem_cons_of_mem _ hy)) h
theorem roundZ_le : ∀ (l : List NT) (Z : List NT) (n : Nat), (roundZ Z n l).2 ≤ n
  | [], _, _ => Nat.le_refl _
  | x :: l, Z, n => by
    unfold roundZ
    split
    · exact roundZ_le l Z n
    · split
      · exact Nat.le_trans (roundZ_le l _ _) (finZ_le _ _ _)
      · exact Nat.le_trans (roundZ_le l _ _) (finZ_le _ _ _)
/-- What namesThatEnd leaves. -/
def EndsP (w : World) (l : List NT) (w' : World) (fb : Nat) : Prop :=
  ∃ mb K, w.heap.size ≤ mb ∧ mb < fb ∧ FnE w' fb mb (endsZ l).2 ∧ MapV w' mb K ∧ once K ∧ K.map (·.1) = (endsZ l).1.map (·.1) ∧ (endsZ l).1.length ≤ l.length ∧ (endsZ l).2 ≤ 65536 ∧ Below w.heap.size w w'
set_option maxRecDepth 100000 in
set_option maxHeartbeats 16000000 in
theorem ends_any (S : Nat → Prop) (l : List NT) (us : List (List UInt8 × C4)) (a : Option Addr) (c : Nat) (w : World)
    (hS : ∀ g, S g → g < w.heap.size) (hf : ∀ i (h : i < l.length), l[i].1.length ≤ maxLen ∧ fitZ l[i].2 = true) (hlen : us.length = l.length) (hll : l.length + l.length < maxLen)
    (hr : RowV w S a 5 (us.map encZ)) (hu : ∀ i (h : i < l.length) (h' : i < us.length), us[i].1 = l[i].1 ∧ TzV w S l[i].2 us[i].2) :
    Calls Try.prog 44 #[.slice a l.length c] w fun e w' => ∃ fb, e = .returned (.pointer (some ⟨fb, 0, none⟩)) ∧ EndsP w l w' fb := by
  obtain ⟨W0, hW0⟩ : ∃ W0, W0 = (w.alloc (.map #[] 0)).alloc (.cells #[.map (some w.heap.size), .int .i64 65536] 115) := ⟨_, rfl⟩
  have hs1 : (w.alloc (.map #[] 0)).heap.size = w.heap.size + 1 := by simp
  have hs0 : W0.heap.size = w.heap.size + 2 := by rw [hW0]; simp
  have hb1 : Below w.heap.size w (w.alloc (.map #[] 0)) := (Below.refl _ _).alloc (Nat.le_refl _) _
  have hb01 : Below (w.alloc (.map #[] 0)).heap.size (w.alloc (.map #[] 0)) W0 := by rw [hW0]; exact (Below.refl _ _).alloc (Nat.le_refl _) _
  have hb0 : Below w.heap.size w W0 := hb1.trans (hb01.mono (by omega))
  have hC : FnE W0 (w.heap.size + 1) w.heap.size 65536 := by
    unfold FnE
    rw [hW0]
    have := heap_alloc_new (w.alloc (.map #[] 0)) (.cells #[.map (some w.heap.size), .int .i64 65536] 115)
    rw [hs1] at this
    exact this
  have hM : MapV W0 w.heap.size [] := (MapV.made w).below hb01
  have HS := Lib.hid hS; have HF := Lib.hid hf; have HR := Lib.hid hr; have HU := Lib.hid hu; have HB0 := Lib.hid hb0; have HC := Lib.hid hC; have HM := Lib.hid hM; have HW0 := Lib.hid hW0; have HLL := Lib.hid hll; have HLEN := Lib.hid hlen
  have hmm := @run_makeMap Try.prog
  clear hS hf hr hu hb0 hC hM hW0 hs1 hb1 hb01 hll hlen
  go_enter Try.func44, Try.ntmps44
  go_wp2
  rw [← HW0.out]
  go_loopg [4] (l.length + 2) (fun gg mv wr => ∃ b f Z K n, mv = .bool b ∧ n ≤ 65536 ∧ Hid (b = true → f + 1 ≤ gg ∧ endsZ l = endsGo l f Z n ∧ l.length + 1 ≤ f + Z.length) ∧ Hid (b = false → endsZ l = (Z, n)) ∧ Hid (Z.length + unk l Z ≤ l.length) ∧ Hid (FnE wr (w.heap.size + 1) w.heap.size n) ∧ Hid (MapV wr w.heap.size K) ∧ Hid (once K) ∧ Hid (K.map (·.1) = Z.map (·.1)) ∧ Hid (Two (w.heap.size + 1) w.heap.size W0 wr))
  case atStart => exact ⟨true, l.length + 1, [], [], 65536, rfl, Nat.le_refl _, (fun _ => ⟨Nat.le_refl _, rfl, by simp⟩), (fun h => by cases h), (by show 0 + (l.filter fun x => !hasZ [] x.1).length ≤ l.length; rw [Nat.zero_add]; exact List.length_filter_le _ _), HC.out, HM.out, List.nodup_nil, rfl, Two.refl _ _ _⟩
  case round =>
    obtain ⟨b, f, Z, K, n, rfl, hn, hb1, hb2, hu, hCk, hMk, hOk, hKk, hT⟩ := hrel
    have hws := hT.out.size
    cases b
    · have he := hb2.out rfl
      have hZl : Z.length ≤ l.length := by have := hu.out; omega
      have HE : Hid (EndsP w l wr (w.heap.size + 1)) := ⟨w.heap.size, K, Nat.le_refl _, Nat.lt_succ_self _, by rw [he]; exact hCk.out, hMk.out, hOk.out, by rw [he]; exact hKk.out, by rw [he]; exact hZl, by rw [he]; exact hn, HB0.out.trans (hT.out.below (by omega) (Nat.le_refl _) (by omega))⟩
      clear hb1 hb2 he hu
      go_wp2
      go_ret
      exact ⟨_, rfl, HE.out⟩
    · obtain ⟨hg, he, hfz⟩ := hb1.out rfl
      have hZl : Z.length ≤ l.length := by have := hu.out; omega
      obtain ⟨f, rfl⟩ : ∃ f', f = f' + 1 := ⟨f - 1, by omega⟩
      have kb : ∀ g, S g → wr.heap[g]? = w.heap[g]? := fun g hg => by have := HS.out g hg; exact (hT.out.block g (by omega) (by omega) (by omega)).trans (HB0.out.block g this)
      have CR := round_any (w.heap.size + 1) w.heap.size S l us a c K Z n wr (fun g hg => by have := HS.out g hg; omega) (by omega) HF.out HLEN.out (by have h1 := HLL.out; have h2 := congrArg List.length hKk.out; rw [List.length_map, List.length_map] at h2; omega)
        (HR.out.keep (fun _ h => h) kb) (fun i h h' => ⟨(HU.out i h h').1, (HU.out i h h').2.keep (fun _ h => h) kb⟩) hn hCk.out hMk.out hOk.out hKk.out
      have hun : endsGo l (f + 1) Z n = if Z.length < (roundZ Z n l).1.length then endsGo l f (roundZ Z n l).1 (roundZ Z n l).2 else roundZ Z n l := rfl
      rw [hun] at he
      have hu2 := round_unk l l Z n (fun _ h => h) hu.out
      have hle := roundZ_le l Z n
      have HCR := Lib.hid CR; have HE := Lib.hid he; have HU2 := Lib.hid hu2; have HT0 := Lib.hid hT.out
      clear CR hun he hu2 hb1 hb2 kb hu hCk hMk hOk hKk hT
      generalize roundZ Z n l = r at *
      obtain ⟨Z', n'⟩ := r
      dsimp only at *
      by_cases hgt : Z.length < Z'.length
      · have h1 := HE.out
        rw [if_pos hgt] at h1
        have C1 := HCR.out
        rw [decide_eq_true hgt] at C1
        have HCR := Lib.hid C1; have HE := Lib.hid h1
        clear C1 h1
        go_wp2_with (go_at_call 70; (with_reducible refine HCR.out.mono ?_); rintro e w1 ⟨rfl, k1, ⟨K', m1, m2, m3, m4⟩, t1⟩; have A1 := Lib.hid k1; have A2 := Lib.hid m1; have A3 := Lib.hid m2; have A4 := Lib.hid m3; have A5 := Lib.hid t1; clear k1 m1 m2 m3 m4 t1)
        go_roundg (f + 1)
        case measure => omega
        case rel => exact ⟨true, f, Z', K', n', rfl, by omega, (fun _ => ⟨Nat.le_refl _, HE.out, by omega⟩), (fun h => by cases h), HU2.out, A1.out, A2.out, A3.out, A4.out, HT0.out.trans A5.out⟩
      · have h1 := HE.out
        rw [if_neg hgt] at h1
        have C1 := HCR.out
        rw [decide_eq_false hgt] at C1
        have HCR := Lib.hid C1; have HE := Lib.hid h1
        clear C1 h1
        go_wp2_with (go_at_call 70; (with_reducible refine HCR.out.mono ?_); rintro e w1 ⟨rfl, k1, ⟨K', m1, m2, m3, m4⟩, t1⟩; have A1 := Lib.hid k1; have A2 := Lib.hid m1; have A3 := Lib.hid m2; have A4 := Lib.hid m3; have A5 := Lib.hid t1; clear k1 m1 m2 m3 m4 t1)
        go_roundg (f + 1)
        case measure => omega
        case rel => exact ⟨false, f, Z', K', n', rfl, by omega, (fun h => by cases h), (fun _ => HE.out), HU2.out, A1.out, A2.out, A3.out, A4.out, HT0.out.trans A5.out⟩
end Sp
end Go.Proofs.Ytdophmlnmbcjlaa
