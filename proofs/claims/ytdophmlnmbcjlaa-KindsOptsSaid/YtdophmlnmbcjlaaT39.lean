/- Add, Base, Len, Main, stand: a table's plain methods. -/
import Derived.Test.YtdophmlnmbcjlaaT30
import Derived.Test.YtdophmlnmbcjlaaT38
import Derived.Deep.RegionHeld3
namespace Go.Proofs.Ytdophmlnmbcjlaa
open Go.RowKit
namespace Sp
open Sc
/-- Main. -/
theorem main_any (w : World) (tb rb nb mb sb m : Nat) (ty nu : Value) (T : List Kz) (hT : TabV w tb rb nb mb sb m ty nu T) :
    Calls Try.prog 17 #[.pointer (some ⟨tb, 0, none⟩)] w fun e w' => e = .returned (.int .i64 (m : Nat)) ∧ Below w.heap.size w w' := by
  obtain ⟨⟨-, -, -, -, t4⟩, -⟩ := five_blkF hT.box
  clear hT
  go_enter Try.func17, Try.ntmps17
  go_wp2
  go_ret
  exact ⟨rfl, Below.refl _ _⟩
/-- has. -/
theorem thas_any (id : Int) (w : World) (tb rb nb mb sb m : Nat) (ty nu : Value) (T : List Kz) (hT : TabV w tb rb nb mb sb m ty nu T) :
    Calls Try.prog 36 #[.pointer (some ⟨tb, 0, none⟩), .int .i64 id] w fun e w' => e = .returned (.bool (decide (0 ≤ id) && decide (id < (T.length : Nat)))) ∧ Below w.heap.size w w' := by
  obtain ⟨ta, tc, hty⟩ : ∃ ta tc, ty = .slice ta T.length tc := by
    rcases hT.row with ⟨rfl, rfl, -⟩ | ⟨cap, rfl⟩
    · exact ⟨none, 0, rfl⟩
    · exact ⟨_, _, rfl⟩
  obtain ⟨⟨t0, -⟩, -⟩ := five_blkF hT.box
  rw [hty] at t0
  clear hT hty
  generalize T.length = n at *
  by_cases h0 : 0 ≤ id
  · rw [decide_eq_true h0]
    go_enter Try.func36, Try.ntmps36
    go_wp2
    go_ret
    exact ⟨by simp, Below.refl _ _⟩
  · rw [decide_eq_false h0]
    go_enter Try.func36, Try.ntmps36
    go_wp2
    go_ret
    exact ⟨by simp, Below.refl _ _⟩
set_option maxHeartbeats 1600000 in
/-- stand. -/
theorem stand_any (s : List UInt8) (id : Nat) (w : World) (tb rb nb mb sb m : Nat) (ty nu : Value) (T : List Kz) (N : List NN) (hT : TabV w tb rb nb mb sb m ty nu T) (hN : TxtV w mb (encNN N)) (hs : s.length ≤ 1000) (hl : N.length < 1000000) :
    Calls Try.prog 73 #[.pointer (some ⟨tb, 0, none⟩), .string ⟨s.toArray⟩, .int .i64 (id : Nat)] w fun e w' => e = .returned (.tuple #[]) ∧ TxtV w' mb (encNN (N ++ [(s, id)])) ∧ Keeps (fun g => g = mb) w w' := by
  obtain ⟨⟨-, -, t2, -, -⟩, -⟩ := five_blkF hT.box
  have t2d : w.drew.cell? ⟨tb, 2, none⟩ = some (.map (some mb)) := t2
  have htl := hT.tlt
  have HNE : Hid (tb ≠ mb) := fun e => by
    obtain ⟨es, c, h⟩ := hN.isMap
    rw [← e, hT.box] at h; cases h
  have HC := Lib.hid (clone_any s w.drew hs)
  have HN := Lib.hid hN
  clear hT hN
  go_enter Try.func73, Try.ntmps73
  go_region_held3 (fun w' => w'.cell? ⟨tb, 2, none⟩ = some (.map (some mb))) (go_keep) (first
    | (go_at_call 74; (refine HC.out.mono ?_); rintro e w1 ⟨rfl, x1⟩; obtain ⟨w2, hrun, hN2, hg2⟩ := (HN.out.same (x1.block mb HN.out.lt)).put (w := w1) Try.underlying70 s (.int .i64 (id : Nat)) (le_max hs) (by unfold encNN; rw [List.length_map]; unfold maxLen; omega); have s1 := (x1.cell (p := ⟨tb, 2, none⟩) htl).trans t2d; have s2 : w2.cell? ⟨tb, 2, none⟩ = some (.map (some mb)) := (hg2.cell_far ⟨tb, 2, none⟩ (Nat.lt_of_lt_of_le htl x1.size) (by simpa using HNE.out)).trans s1; have HN2 := Lib.hid hN2; have HG2 := Lib.hid hg2; have HX1 := Lib.hid x1; clear hN2 hg2 x1))
  go_wp2
  go_end0
  exact ⟨rfl, by rw [show encNN (N ++ [(s, id)]) = encNN N ++ [(s, .int .i64 (id : Nat))] by simp [encNN]]; exact HN2.out, (Keeps.of_below (O := fun g => g = mb) (show Below w.heap.size w w1 from ⟨HX1.out.os, HX1.out.tape, HX1.out.output, HX1.out.size, HX1.out.block⟩)).trans (Keeps.of_grown (O := fun g => g = mb) HG2.out (fun g e => by cases e; rfl)) (fun g h => .inl h)⟩
set_option maxHeartbeats 8000000 in
/-- Add. -/
theorem add_any (t : Tz) (hf : fitZ t = true) (hs : shortZ t = true) (w : World) (tb rb nb mb sb m : Nat) (ty nu : Value) (T : List Kz) (N : List NN) (S : Nat → Prop) (c : C4) (hT : TabV w tb rb nb mb sb m ty nu T) (hN : TxtV w mb (encNN N)) (hV : TzV w S t c) (hS : ∀ g, S g → g < w.heap.size ∧ ¬ Own tb rb nb g) :
    Calls Try.prog 20 #[.pointer (some ⟨tb, 0, none⟩), .agg #[.int .i64 c.k, .string c.n, .slice c.an c.ln c.cn, .slice c.ak c.lk c.ck]] w fun e w' => ∃ rb' nb' ty' nu', e = .returned (.tuple #[.int .i64 ((addK (hasZ N) T t).1 : Nat), .int .i64 ((addK (hasZ N) T t).2.1 : Nat)]) ∧ Added w w' tb rb nb mb sb m (addK (hasZ N) T t).2.2 rb' nb' ty' nu' := by
  obtain ⟨W1, hW1⟩ : ∃ W1, W1 = (w.alloc (.cells #[.int .i64 c.k, .string c.n, .slice c.an c.ln c.cn, .slice c.ak c.lk c.ck] 30)).alloc (.cells #[.map (some mb), .int .i64 0] 85) := ⟨_, rfl⟩
  have hz1 : W1.heap.size = w.heap.size + 2 := by rw [hW1]; simp
  have hb1 : Below w.heap.size w W1 := by rw [hW1]; exact ((Below.refl _ _).alloc (Nat.le_refl _) _).alloc (by simp) _
  have hx1 : W1.heap[w.heap.size]? = some (.cells #[.int .i64 c.k, .string c.n, .slice c.an c.ln c.cn, .slice c.ak c.lk c.ck] 30 (0, 0)) := by rw [hW1, blk_if, if_neg (by simp), blk_if, if_pos rfl]
  have hc1 : CcE W1 (w.heap.size + 1) mb 0 := by unfold CcE; rw [hW1, blk_if, if_pos (by simp)]; rfl
  have hV1 : TzV W1 S t c := hV.keep (fun _ h => h) fun g hg => hb1.block g (hS g hg).1
  have hN1 := hN.below hb1
  have hmne : mb ≠ w.heap.size + 1 := by have := hN.lt; omega
  have C1 := oneK_all (w.heap.size + 1) mb N S (fun g hg => by have := (hS g hg).1; omega) hmne _ t (Nat.le_refl _) hf 0 W1 c (by omega) hV1 hc1 hN1
  obtain ⟨⟨-, -, t2, -, -⟩, -⟩ := five_blkF hT.box
  have htl := hT.tlt
  obtain ⟨v, hv⟩ : ∃ v, v = addK (hasZ N) T t := ⟨_, rfl⟩
  rw [← hv]
  unfold addK at hv
  obtain ⟨⟨q, qn⟩, hq⟩ : ∃ q, oneC (hasZ N) 0 t = q := ⟨_, rfl⟩
  have hok := oneC_ok (hasZ N) t 0
  rw [hq] at hv C1 hok
  dsimp only at hv C1 hok
  have HW1 := Lib.hid hW1; have HB1 := Lib.hid hb1; have HX1 := Lib.hid hx1; have HC1 := Lib.hid C1; have HT := Lib.hid hT; have HN := Lib.hid hN; have HV := Lib.hid hV; have HS := Lib.hid hS; have HVV := Lib.hid hv; have HOK := Lib.hid hok; have HSH := Lib.hid hs
  clear hW1 hb1 hx1 hc1 hV1 hN1 C1 hT hN hV hS hv hq hok hf hs
  by_cases h0 : q = 0
  · subst h0
    have hvv := HVV.out
    rw [if_neg (by decide)] at hvv
    have hkk := (HOK.out rfl).1
    have C2 := fun W rb nb (hT : TabV W tb rb nb mb sb m ty nu T) hV hS => tree_any (has := hasZ N) _ t (Nat.le_refl _) hkk HSH.out W tb rb nb mb sb m ty nu T S c hT hV hS
    rw [← hvv] at C2
    have HC2 := Lib.hid C2
    clear hvv hkk C2
    go_enter Try.func20, Try.ntmps20
    go_upto_region 2 with fail
    rw [← HW1.out]
    obtain ⟨⟨p0, p1, p2, p3⟩, _⟩ := four_blk HX1.out
    go_wp2_with (first
      | (go_at_call 34; (with_reducible refine HC1.out.mono ?_); rintro e w2 ⟨rfl, -, o2⟩; have hb2 := HB1.out.trans (o2.below (B := w.heap.size) (by omega) (by omega)); have hx2 := o2.blk HX1.out (by omega); obtain ⟨⟨r0, r1, r2, r3⟩, _⟩ := four_blk hx2; have HB2 := Lib.hid hb2; clear o2 hb2 hx2 p0 p1 p2 p3)
      | (go_at_call 35; (refine (HC2.out _ rb nb (HT.out.below HB2.out) (HV.out.keep (fun _ h => h) fun g hg => HB2.out.block g (HS.out g hg).1) (fun g hg => ⟨Nat.lt_of_lt_of_le (HS.out g hg).1 HB2.out.size, (HS.out g hg).2⟩)).mono ?_); rintro e w3 ⟨rb2, nb2, ty2, nu2, rfl, ha⟩; have HA := Lib.hid ha; clear ha))
    go_ret2
    exact ⟨rb2, nb2, ty2, nu2, rfl, HA.out.tab, (Keeps.of_below HB2.out).trans HA.out.keeps (fun g h => .inl h), HA.out.grew.older HB2.out.size⟩
  · have hvv := HVV.out
    rw [if_pos h0] at hvv
    have HVW := Lib.hid hvv
    clear hvv
    have t0 : ((q : Nat) == (0 : Int)) = false := by simp; omega
    have hne : (q : Int) ≠ 0 := by omega
    go_enter Try.func20, Try.ntmps20
    go_upto_region 2 with fail
    rw [← HW1.out]
    obtain ⟨⟨p0, p1, p2, p3⟩, _⟩ := four_blk HX1.out
    go_wp2_with (go_at_call 34; (with_reducible refine HC1.out.mono ?_); rintro e w2 ⟨rfl, -, o2⟩; have hb2 := HB1.out.trans (o2.below (B := w.heap.size) (by omega) (by omega)); have HB2 := Lib.hid hb2; clear o2 hb2 p0 p1 p2 p3)
    go_ret2
    rw [HVW.out]
    exact ⟨rb, nb, ty, nu, rfl, HT.out.below HB2.out, Keeps.of_below HB2.out, Grew.refl _ _ _ _⟩
/-- A plain type's key. -/
def baseK (k : Int) : Kz := ⟨k, [], [], []⟩
theorem base_fit {k : Int} (h1 : 1 ≤ k) (h2 : k ≤ 3) : KFit (baseK k) :=
  ⟨⟨⟨h1, by show k ≤ 9; omega⟩, by simp [baseK], by show (0 : Nat) = if k = 7 ∨ k = 8 then 0 else 0; split <;> rfl⟩, by simp [baseK], (fun n h => by simp [baseK] at h), (fun j h => by simp [baseK] at h)⟩
theorem build_base (k : Int) (w : World) : (Instr.build 91 #[(0, .int .i64 k)]).run Try.prog w = .ok (.agg (baseK k).cells.toArray) w := by kernel_rfl
theorem exec_build0 {P : Program} {b : Act} {o : Oper} {v v' : World} {t : TypeId} {x : Operand} {p u : Value} (ho : o.op = .build t #[(0, x)]) (hx : b.eval x = p) (hr : (Instr.build t #[(0, p)]).run P v = .ok u v') :
    (execOp b.eval o).run P v = .ok (.value u) v' := by
  unfold execOp
  simp only [ho, List.map_toArray, List.map_cons, List.map_nil, hx, Sem.run_bind, hr, Result.andThen_ok, Sem.run_pure]
set_option maxHeartbeats 4000000 in
/-- Base. -/
theorem base_any (k : Int) (h1 : 1 ≤ k) (h2 : k ≤ 3) (w : World) (tb rb nb mb sb m : Nat) (ty nu : Value) (T : List Kz) (hT : TabV w tb rb nb mb sb m ty nu T) :
    Calls Try.prog 77 #[.pointer (some ⟨tb, 0, none⟩), .int .i64 k] w fun e w' => ∃ rb' nb' ty' nu', e = .returned (.tuple #[.int .i64 ((numK T (baseK k)).1 : Nat), .int .i64 ((numK T (baseK k)).2.1 : Nat)]) ∧ Added w w' tb rb nb mb sb m (numK T (baseK k)).2.2 rb' nb' ty' nu' := by
  have C := number_any (baseK k) (base_fit h1 h2) w tb rb nb mb sb m ty nu T hT (fun j h => by simp [baseK] at h)
  obtain ⟨v, hv⟩ : ∃ v, v = numK T (baseK k) := ⟨_, rfl⟩
  rw [← hv] at C ⊢
  have hk1 : ¬ k < 1 := by omega
  have hk3 : ¬ 3 < k := by omega
  have HC := Lib.hid C
  clear C hv hT
  go_enter Try.func77, Try.ntmps77
  go_upto_region 3 with fail
  refine wp_region_lit ?_
  refine wpList_runV (w' := w) rfl (.pointer (some ⟨tb, 0, none⟩)) (by simp [execOp, go_sem]) ?_
  refine wpList_runV (w' := w) rfl (.int .i64 k) (by simp [execOp, go_sem]) ?_
  simp only [Act.put, List.setIfInBounds_toArray, List.set_cons_zero, List.set_cons_succ]
  refine wpList_runV (w' := w) rfl _ (exec_build0 rfl rfl (build_base k w)) ?_
  simp only [Act.put, List.setIfInBounds_toArray, List.set_cons_zero, List.set_cons_succ]
  refine wpList_enter (f := 55) (args := #[.pointer (some ⟨tb, 0, none⟩), .agg (baseK k).cells.toArray]) rfl (by simp [go_sem]) HC.out ?_
  rintro e w5 ⟨rb2, nb2, ty2, nu2, rfl, ha⟩
  refine ⟨_, rfl, ?_⟩
  have HA := Lib.hid ha
  clear ha
  simp only [Act.put, List.setIfInBounds_toArray, List.set_cons_zero, List.set_cons_succ]
  go_wp2
  go_ret2
  exact ⟨rfl, rb2, nb2, ty2, nu2, HA.out⟩
end Sp
end Go.Proofs.Ytdophmlnmbcjlaa
