/- ConsShares: a type within lists and maps, as plain functions. No program is named here. -/
import Derived.Test.YtmhihnpimanhfaaC36
import Derived.Test.YtmhihnpimanhfaaC44
import Derived.Deep.RegionHeld3
namespace Go.Proofs.Ytmhihnpimanhfaa
namespace Sp
open Sc
/-- x within k lists and maps, by turns. -/
def shT (x : Tz) : Nat → Tz
  | 0 => x
  | k + 1 => .mk (4 + k % 2 : Nat) [] [] [shT x k]
theorem shT_size (x : Tz) : ∀ k, sizeZ (shT x k) = sizeZ x + k
  | 0 => rfl
  | k + 1 => by rw [shT, sizeZ, sizeZs, sizeZs, shT_size x k]; omega
theorem shT_ok {has : List UInt8 → Bool} {x : Tz} (h : okK has x = true) : ∀ k, okK has (shT x k) = true
  | 0 => h
  | k + 1 => by
    rw [shT, okK, okKs, okKs, shT_ok h k]
    have : ownC has ((4 + k % 2 : Nat) : Int) [] [] [shT x k].length = 0 := by
      unfold ownC
      rw [List.length_singleton, if_neg (by omega), if_neg (by omega)]
      have hf : formB ((4 + k % 2 : Nat) : Int) [] [] 1 = true := by unfold formB kidsN; simp; omega
      rw [if_neg (by rw [hf]; decide), if_neg (by omega)]
    rw [this]; rfl
theorem shT_fit {x : Tz} (h : fitZ x = true) : ∀ k, fitZ (shT x k) = true
  | 0 => h
  | k + 1 => by rw [shT, fitZ, fitZs, fitZs, shT_fit h k]; simp; unfold maxLen; omega
theorem shT_short {x : Tz} (h : shortZ x = true) : ∀ k, shortZ (shT x k) = true
  | 0 => h
  | k + 1 => by rw [shT, shortZ, shortZs, shortZs, shT_short h k]; simp
/-- The table's type of the k-th number; what was there stays; at most k more. -/
structure ShI (T : List Kz) (x : Tz) (k : Nat) : Prop where
  grow : T <+: (treeK T (shT x k)).2.2
  few : (treeK T (shT x k)).2.2.length ≤ T.length + k
theorem shK_step (T : List Kz) (x : Tz) (k : Nat) : treeK T (shT x (k + 1)) = if (treeK T (shT x k)).2.1 = 0 then numK (treeK T (shT x k)).2.2 ⟨(4 + k % 2 : Nat), [], [], [(treeK T (shT x k)).1]⟩ else (0, (treeK T (shT x k)).2) := by
  rw [shT, treeK, kidsK, kidsK]
  by_cases h : (treeK T (shT x k)).2.1 = 0
  · rw [if_pos h, if_pos h]; rfl
  · rw [if_neg h, if_neg h]
    dsimp only
    rw [if_neg h]
theorem numK_few (T : List Kz) (k : Kz) : (numK T k).2.2.length ≤ T.length + 1 := by
  unfold numK
  split
  · dsimp only; omega
  · split
    · dsimp only; omega
    · simp
theorem shI {T : List Kz} {x : Tz} (hm : ∃ m, treeK T x = (m, 0, T)) : ∀ k, ShI T x k
  | 0 => by obtain ⟨m, hm⟩ := hm; exact ⟨by rw [shT, hm]; exact List.prefix_refl _, by rw [shT, hm]; exact Nat.le_refl _⟩
  | k + 1 => by
    obtain ⟨a, b⟩ := shI hm k
    refine ⟨?_, ?_⟩
    · rw [shK_step]
      split
      · exact a.trans (numK_grow _ _)
      · exact a
    · rw [shK_step]
      split
      · have := numK_few (treeK T (shT x k)).2.2 ⟨(4 + k % 2 : Nat), [], [], [(treeK T (shT x k)).1]⟩
        omega
      · dsimp only; omega
theorem shK_down {T : List Kz} {x : Tz} {n : Nat} : ∀ d k, k + d = n → (treeK T (shT x n)).2.1 = 0 → (treeK T (shT x k)).2.1 = 0 ∧ (treeK T (shT x k)).2.2 <+: (treeK T (shT x n)).2.2
  | 0, k, e, h => by
    obtain rfl : k = n := (by omega)
    exact ⟨h, List.prefix_refl _⟩
  | d + 1, k, e, h => by
    obtain ⟨a, b⟩ := shK_down d (k + 1) (by omega) h
    rw [shK_step] at a b
    by_cases h0 : (treeK T (shT x k)).2.1 = 0
    · rw [if_pos h0] at b
      exact ⟨h0, (numK_grow _ _).trans b⟩
    · rw [if_neg h0] at a
      exact absurd a h0
/-- Down from the last number: each has the one below as its one kid. -/
theorem shK_kid {T : List Kz} {x : Tz} {n k : Nat} (hk : k < n) (h : (treeK T (shT x n)).2.1 = 0) : (treeK T (shT x n)).2.2[(treeK T (shT x (k + 1))).1]? = some ⟨(4 + k % 2 : Nat), [], [], [(treeK T (shT x k)).1]⟩ := by
  obtain ⟨a, b⟩ := shK_down (T := T) (x := x) (n := n) (n - (k + 1)) (k + 1) (by omega) h
  obtain ⟨a0, -⟩ := shK_down (T := T) (x := x) (n := n) (n - k) k (by omega) h
  have e := shK_step T x k
  rw [if_pos a0] at e
  obtain ⟨⟨i, er, T'⟩, hq⟩ : ∃ q, treeK T (shT x (k + 1)) = q := ⟨_, rfl⟩
  rw [hq] at a b e ⊢
  dsimp only at a b ⊢
  subst a
  obtain ⟨c1, c2, -⟩ := numK_ok e.symm
  obtain ⟨d1, d2⟩ := get_idx c1
  rw [← c2] at d1
  obtain ⟨d3, d4⟩ := get_prefix b d1
  have d5 : T'[i] = ⟨(4 + k % 2 : Nat), [], [], [(treeK T (shT x k)).1]⟩ := by subst c2; exact d2
  rw [List.getElem?_eq_getElem d3, d4, d5]
end Sp
end Go.Proofs.Ytmhihnpimanhfaa
namespace Go.Proofs.Ytmhihnpimanhfaa
open Go.RowKit
namespace Sp
open Sc
set_option maxRecDepth 100000
/-- Len. -/
theorem len_any (w : World) (tb rb nb mb sb m : Nat) (ty nu : Value) (T : List Kz) (hT : TabV w tb rb nb mb sb m ty nu T) :
    Calls Try.prog 28 #[.pointer (some ⟨tb, 0, none⟩)] w fun e w' => e = .returned (.int .i64 (T.length : Nat)) ∧ Below w.heap.size w w' := by
  obtain ⟨ta, tc, hty⟩ : ∃ ta tc, ty = .slice ta T.length tc := by
    rcases hT.row with ⟨rfl, rfl, -⟩ | ⟨cap, rfl⟩
    · exact ⟨none, 0, rfl⟩
    · exact ⟨_, _, rfl⟩
  obtain ⟨⟨t0, -⟩, -⟩ := five_blkF hT.box
  rw [hty] at t0
  clear hT hty
  generalize T.length = n at *
  go_enter Try.func28, Try.ntmps28
  go_wp2
  go_ret
  exact ⟨rfl, Below.refl _ _⟩
/-- Main. -/
theorem main_any (w : World) (tb rb nb mb sb m : Nat) (ty nu : Value) (T : List Kz) (hT : TabV w tb rb nb mb sb m ty nu T) :
    Calls Try.prog 32 #[.pointer (some ⟨tb, 0, none⟩)] w fun e w' => e = .returned (.int .i64 (m : Nat)) ∧ Below w.heap.size w w' := by
  obtain ⟨⟨-, -, -, -, t4⟩, -⟩ := five_blkF hT.box
  clear hT
  go_enter Try.func32, Try.ntmps32
  go_wp2
  go_ret
  exact ⟨rfl, Below.refl _ _⟩
/-- has. -/
theorem thas_any (id : Int) (w : World) (tb rb nb mb sb m : Nat) (ty nu : Value) (T : List Kz) (hT : TabV w tb rb nb mb sb m ty nu T) :
    Calls Try.prog 59 #[.pointer (some ⟨tb, 0, none⟩), .int .i64 id] w fun e w' => e = .returned (.bool (decide (0 ≤ id) && decide (id < (T.length : Nat)))) ∧ Below w.heap.size w w' := by
  obtain ⟨ta, tc, hty⟩ : ∃ ta tc, ty = .slice ta T.length tc := by
    rcases hT.row with ⟨rfl, rfl, -⟩ | ⟨cap, rfl⟩
    · exact ⟨none, 0, rfl⟩
    · exact ⟨_, _, rfl⟩
  obtain ⟨⟨t0, -⟩, -⟩ := five_blkF hT.box
  rw [hty] at t0
  clear hT hty
  generalize T.length = n at *
  by_cases h0 : 0 ≤ id
  · rw [decide_eq_true h0]
    go_enter Try.func59, Try.ntmps59
    go_wp2
    go_ret
    exact ⟨by simp, Below.refl _ _⟩
  · rw [decide_eq_false h0]
    go_enter Try.func59, Try.ntmps59
    go_wp2
    go_ret
    exact ⟨by simp, Below.refl _ _⟩
set_option maxHeartbeats 1600000 in
/-- stand. -/
theorem stand_any (s : List UInt8) (id : Nat) (w : World) (tb rb nb mb sb m : Nat) (ty nu : Value) (T : List Kz) (N : List NN) (hT : TabV w tb rb nb mb sb m ty nu T) (hN : TxtV w mb (encNN N)) (hs : s.length ≤ 1000) (hl : N.length < 1000000) :
    Calls Try.prog 93 #[.pointer (some ⟨tb, 0, none⟩), .string ⟨s.toArray⟩, .int .i64 (id : Nat)] w fun e w' => e = .returned (.tuple #[]) ∧ TxtV w' mb (encNN (N ++ [(s, id)])) ∧ Keeps (fun g => g = mb) w w' := by
  obtain ⟨⟨-, -, t2, -, -⟩, -⟩ := five_blkF hT.box
  have t2d : w.drew.cell? ⟨tb, 2, none⟩ = some (.map (some mb)) := t2
  have htl := hT.tlt
  have HNE : Hid (tb ≠ mb) := fun e => by
    obtain ⟨es, c, h⟩ := hN.isMap
    rw [← e, hT.box] at h; cases h
  have HC := Lib.hid (clone_any s w.drew hs)
  have HN := Lib.hid hN
  clear hT hN
  go_enter Try.func93, Try.ntmps93
  go_region_held3 (fun w' => w'.cell? ⟨tb, 2, none⟩ = some (.map (some mb))) (go_keep) (first
    | (go_at_call 94; (refine HC.out.mono ?_); rintro e w1 ⟨rfl, x1⟩; obtain ⟨w2, hrun, hN2, hg2⟩ := (HN.out.same (x1.block mb HN.out.lt)).put (w := w1) Try.underlying95 s (.int .i64 (id : Nat)) (le_max hs) (by unfold encNN; rw [List.length_map]; unfold maxLen; omega); have s1 := (x1.cell (p := ⟨tb, 2, none⟩) htl).trans t2d; have s2 : w2.cell? ⟨tb, 2, none⟩ = some (.map (some mb)) := (hg2.cell_far ⟨tb, 2, none⟩ (Nat.lt_of_lt_of_le htl x1.size) (by simpa using HNE.out)).trans s1; have HN2 := Lib.hid hN2; have HG2 := Lib.hid hg2; have HX1 := Lib.hid x1; clear hN2 hg2 x1))
  go_wp2
  go_end0
  exact ⟨rfl, by rw [show encNN (N ++ [(s, id)]) = encNN N ++ [(s, .int .i64 (id : Nat))] by simp [encNN]]; exact HN2.out, (Keeps.of_below (O := fun g => g = mb) (show Below w.heap.size w w1 from ⟨HX1.out.os, HX1.out.tape, HX1.out.output, HX1.out.size, HX1.out.block⟩)).trans (Keeps.of_grown (O := fun g => g = mb) HG2.out (fun g e => by cases e; rfl)) (fun g h => .inl h)⟩
set_option maxHeartbeats 8000000 in
/-- Add. -/
theorem add_any (t : Tz) (hf : fitZ t = true) (hs : shortZ t = true) (w : World) (tb rb nb mb sb m : Nat) (ty nu : Value) (T : List Kz) (N : List NN) (S : Nat → Prop) (c : C4) (hT : TabV w tb rb nb mb sb m ty nu T) (hN : TxtV w mb (encNN N)) (hV : TzV w S t c) (hS : ∀ g, S g → g < w.heap.size ∧ ¬ Own tb rb nb g) :
    Calls Try.prog 30 #[.pointer (some ⟨tb, 0, none⟩), .agg #[.int .i64 c.k, .string c.n, .slice c.an c.ln c.cn, .slice c.ak c.lk c.ck]] w fun e w' => ∃ rb' nb' ty' nu', e = .returned (.tuple #[.int .i64 ((addK (hasZ N) T t).1 : Nat), .int .i64 ((addK (hasZ N) T t).2.1 : Nat)]) ∧ Added w w' tb rb nb mb sb m (addK (hasZ N) T t).2.2 rb' nb' ty' nu' := by
  obtain ⟨W1, hW1⟩ : ∃ W1, W1 = (w.alloc (.cells #[.int .i64 c.k, .string c.n, .slice c.an c.ln c.cn, .slice c.ak c.lk c.ck] 25)).alloc (.cells #[.map (some mb), .int .i64 0] 109) := ⟨_, rfl⟩
  have hz1 : W1.heap.size = w.heap.size + 2 := by rw [hW1]; simp
  have hb1 : Below w.heap.size w W1 := by rw [hW1]; exact ((Below.refl _ _).alloc (Nat.le_refl _) _).alloc (by simp) _
  have hx1 : W1.heap[w.heap.size]? = some (.cells #[.int .i64 c.k, .string c.n, .slice c.an c.ln c.cn, .slice c.ak c.lk c.ck] 25 (0, 0)) := by rw [hW1, blk_if, if_neg (by simp), blk_if, if_pos rfl]
  have hc1 : CcE W1 (w.heap.size + 1) mb 0 := by unfold CcE; rw [hW1, blk_if, if_pos (by simp)]; rfl
  have hV1 : TzV W1 S t c := hV.keep (fun _ h => h) fun g hg => hb1.block g (hS g hg).1
  have hN1 := hN.below hb1
  have hmne : mb ≠ w.heap.size + 1 := by have := hN.lt; omega
  have C1 := oneK_all (w.heap.size + 1) mb N S (fun g hg => by have := (hS g hg).1; omega) hmne _ t (Nat.le_refl _) hf 0 W1 c (by omega) hV1 hc1 hN1
  obtain ⟨⟨-, -, t2, -, -⟩, -⟩ := five_blkF hT.box
  have htl := hT.tlt
  obtain ⟨v, hv⟩ : ∃ v, v = addK (hasZ N) T t := ⟨_, rfl⟩
  rw [← hv]
  unfold addK at hv
  obtain ⟨⟨q, qn⟩, hq⟩ : ∃ q, oneC (hasZ N) 0 t = q := ⟨_, rfl⟩
  have hok := oneC_ok (hasZ N) t 0
  rw [hq] at hv C1 hok
  dsimp only at hv C1 hok
  have HW1 := Lib.hid hW1; have HB1 := Lib.hid hb1; have HX1 := Lib.hid hx1; have HC1 := Lib.hid C1; have HT := Lib.hid hT; have HN := Lib.hid hN; have HV := Lib.hid hV; have HS := Lib.hid hS; have HVV := Lib.hid hv; have HOK := Lib.hid hok; have HSH := Lib.hid hs
  clear hW1 hb1 hx1 hc1 hV1 hN1 C1 hT hN hV hS hv hq hok hf hs
  by_cases h0 : q = 0
  · subst h0
    have hvv := HVV.out
    rw [if_neg (by decide)] at hvv
    have hkk := (HOK.out rfl).1
    have C2 := fun W rb nb (hT : TabV W tb rb nb mb sb m ty nu T) hV hS => tree_any (has := hasZ N) _ t (Nat.le_refl _) hkk HSH.out W tb rb nb mb sb m ty nu T S c hT hV hS
    rw [← hvv] at C2
    have HC2 := Lib.hid C2
    clear hvv hkk C2
    go_enter Try.func30, Try.ntmps30
    go_upto_region 2 with fail
    rw [← HW1.out]
    obtain ⟨⟨p0, p1, p2, p3⟩, _⟩ := four_blk HX1.out
    go_wp2_with (first
      | (go_at_call 57; (with_reducible refine HC1.out.mono ?_); rintro e w2 ⟨rfl, -, o2⟩; have hb2 := HB1.out.trans (o2.below (B := w.heap.size) (by omega) (by omega)); have hx2 := o2.blk HX1.out (by omega); obtain ⟨⟨r0, r1, r2, r3⟩, _⟩ := four_blk hx2; have HB2 := Lib.hid hb2; clear o2 hb2 hx2 p0 p1 p2 p3)
      | (go_at_call 58; (refine (HC2.out _ rb nb (HT.out.below HB2.out) (HV.out.keep (fun _ h => h) fun g hg => HB2.out.block g (HS.out g hg).1) (fun g hg => ⟨Nat.lt_of_lt_of_le (HS.out g hg).1 HB2.out.size, (HS.out g hg).2⟩)).mono ?_); rintro e w3 ⟨rb2, nb2, ty2, nu2, rfl, ha⟩; have HA := Lib.hid ha; clear ha))
    go_ret2
    exact ⟨rb2, nb2, ty2, nu2, rfl, HA.out.tab, (Keeps.of_below HB2.out).trans HA.out.keeps (fun g h => .inl h), HA.out.grew.older HB2.out.size⟩
  · have hvv := HVV.out
    rw [if_pos h0] at hvv
    have HVW := Lib.hid hvv
    clear hvv
    have t0 : ((q : Nat) == (0 : Int)) = false := by simp; omega
    have hne : (q : Int) ≠ 0 := by omega
    go_enter Try.func30, Try.ntmps30
    go_upto_region 2 with fail
    rw [← HW1.out]
    obtain ⟨⟨p0, p1, p2, p3⟩, _⟩ := four_blk HX1.out
    go_wp2_with (go_at_call 57; (with_reducible refine HC1.out.mono ?_); rintro e w2 ⟨rfl, -, o2⟩; have hb2 := HB1.out.trans (o2.below (B := w.heap.size) (by omega) (by omega)); have HB2 := Lib.hid hb2; clear o2 hb2 p0 p1 p2 p3)
    go_ret2
    rw [HVW.out]
    exact ⟨rb, nb, ty, nu, rfl, HT.out.below HB2.out, Keeps.of_below HB2.out, Grew.refl _ _ _ _⟩
end Sp
end Go.Proofs.Ytmhihnpimanhfaa
