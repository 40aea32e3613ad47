/- outerType, end, whole, Type. -/
import Derived.Test.YtnnnjonodnkccaaGreatDoorSTypB
namespace Go.Proofs.YtnnnjonodnkccaaGreatDoor
open Go.RowKit
namespace Sh
open Sc

set_option maxHeartbeats 1000000 in
theorem outer_any (w : World) (rb : Nat) (r : R) (h : RdE w rb r) (hL : LookTab w) (hg : 0 ≠ rb) (hw : r.words.length ≤ 1000) :
    Calls Tryz.prog 19 #[.pointer (some ⟨rb, 0, none⟩)] w (TyP w rb (outer r)) := by
  have hrb := h.lt
  have hb := heap_alloc_new w (.cells z4 29)
  have hbl : Below w.heap.size w (w.alloc (.cells z4 29)) := (Below.refl _ _).alloc (Nat.le_refl _) _
  have C : Calls Tryz.prog 29 #[.pointer (some ⟨rb, 0, none⟩), .int .i64 1] (w.alloc (.cells z4 29)) (TyP (w.alloc (.cells z4 29)) rb (outer r)) := typ_any 12 _ rb 1 r rfl (h.keep hbl) (hL.below hbl) hg hw
  have HC := Lib.hid C; have HB := Lib.hid hb
  clear C hb hbl h hL
  unfold z4 at *
  generalize outer r = x at *
  go_enter Tryz.func19, Tryz.ntmps19
  go_wp2_with (go_at_call 29; (with_reducible refine HC.out.mono ?_); rintro e w1 ⟨c, rfl, h1, o1, hv⟩; have hs1 := o1.size; simp at hs1; obtain ⟨⟨q0, q1, q2, q3⟩, z0, z1, z2, z3⟩ := four_blk (o1.blk HB.out (by omega)); have H1 := Lib.hid h1; have O1 := Lib.hid o1; have HV := Lib.hid hv; clear h1 o1 hv; obtain ⟨kd, nm, an, ln, cn, ak, lk, ck⟩ := c; simp only [C4.val])
  have hlt : w.heap.size < w1.heap.size := by omega
  refine bodyPost_ret (v := C4.val ⟨kd, nm, an, ln, cn, ak, lk, ck⟩) (by simp [results, Tryz.results19, go_sem, C4.val, q0, q1, q2, q3, hlt]) rfl ?_
  have hv := HV.out
  have he : ∀ o, (w.alloc o).heap.size = w.heap.size + 1 := fun o => by simp
  rw [he] at hv
  have hf := TyV.fin ((Only.alloc rb w _).trans O1.out) H1.out hv (Nat.lt_succ_self _) (Nat.le_refl w.heap.size) hrb (((((Only.refl _ w1).setCell 0 (.int .i64 kd)).setCell 1 (.string nm)).setCell 2 (.slice an ln cn)).setCell 3 (.slice ak lk ck))
  exact ⟨_, rfl, hf.1, hf.2.1, hf.2.2⟩

set_option maxHeartbeats 1000000 in
theorem end_any (w : World) (rb : Nat) (r : R) (h : RdE w rb r) :
    Calls Tryz.prog 28 #[.pointer (some ⟨rb, 0, none⟩)] w fun e w' => e = .returned (.int .i64 r.over) ∧ Only rb w w' := by
  have CF := fail_any w rb r h 12
  obtain ⟨a, c, h⟩ := h
  have hb := h.blk
  obtain ⟨⟨c0, c1, c2⟩, f0, f1, f2⟩ := three_blk h.blk
  clear h
  by_cases hw : r.words.length = 0
  · have ho : r.over = (if r.err = 0 then (if r.twice then 6 else 0) else r.err) := by unfold R.over; rw [if_pos hw]
    rw [ho]
    have hw0 : decide (0 < r.words.length) = false := by simp [hw]
    rw [hw] at c0
    clear hw ho CF hb hw0
    by_cases he : r.err = 0
    · rw [if_pos he]
      have t0 : ((r.err : Int) == 0) = true := by simp [he]
      rw [he] at c1
      clear he t0
      cases ht : r.twice
      · rw [ht] at c2
        clear ht
        go_enter Tryz.func28, Tryz.ntmps28
        go_wp2
        go_ret
        exact ⟨rfl, Only.refl _ _⟩
      · rw [ht] at c2
        clear ht
        go_enter Tryz.func28, Tryz.ntmps28
        go_wp2
        go_ret
        exact ⟨rfl, Only.refl _ _⟩
    · rw [if_neg he]
      have t0 : ((r.err : Int) == 0) = false := by simp; omega
      clear he
      go_enter Tryz.func28, Tryz.ntmps28
      go_wp2
      go_ret
      exact ⟨rfl, Only.refl _ _⟩
  · have ho : r.over = (r.fail 12).err := by unfold R.over; rw [if_neg hw]; rfl
    have hne : (r.fail 12).err ≠ 0 := by
      show (if r.err = 0 then 12 else r.err) ≠ 0
      split
      · decide
      · assumption
    rw [ho]
    have hw0 : 0 < r.words.length := by omega
    have HF := Lib.hid CF
    clear hw ho CF hb
    generalize r.fail 12 = r2 at *
    have t0 : ((r2.err : Int) == 0) = false := by simp; omega
    clear hne
    go_enter Tryz.func28, Tryz.ntmps28
    go_wp2_with (go_at_call 43; (refine HF.out.mono ?_); rintro e w1 ⟨rfl, ⟨a1, n1, h1⟩, o1⟩; obtain ⟨⟨p0, p1, p2⟩, g0, g1, g2⟩ := three_blk h1.blk; have O1 := Lib.hid o1; clear h1 o1)
    go_ret
    exact ⟨rfl, O1.out⟩

theorem toks_le (l : List UInt8) (h : (toks l).1 = 0) : (toks l).2.length ≤ 400 := by
  unfold toks at h ⊢
  split
  · simp
  · rename_i h1
    rw [if_neg h1] at h
    split
    · rename_i h2
      rw [if_pos h2] at h
      split
      · simp
      · omega
    · simp

/-- A reader that begins. -/
theorem rd_start {w1 : World} {base : Nat} {v : Value} {ts : List T} (hown : w1.ownsRow base 96 4 v ts.length (ts.flatMap tokCells)) {a : Option Addr} {c : Nat} (hv : v = .slice a ts.length c) :
    RdE (w1.alloc (.cells #[.slice a ts.length c, .int .i64 0, .bool false] 78)) w1.heap.size (rd ts) := by
  subst hv
  refine ⟨a, c, heap_alloc_new w1 _, ?_, ?_, ?_⟩
  · rcases hown.2 with ⟨hv, h0⟩ | ⟨g, cap, cur, hv, hb, hg, hc, hm, _⟩
    · show ts.length ≤ c; omega
    · cases hv; exact hc
  · rcases hown.2 with ⟨hv, h0⟩ | ⟨g, cap, cur, hv, hb, hg, hc, hm, _⟩
    · obtain ⟨_, _, rfl⟩ : a = none ∧ ts.length = 0 ∧ c = 0 := by simpa using hv
      unfold maxLen; omega
    · cases hv; exact hm
  · by_cases h0 : ts = []
    · exact .inl h0
    · have hpos : 0 < ts.length := by cases ts with | nil => exact absurd rfl h0 | cons _ _ => simp
      obtain ⟨g, cap, hv, hb, hlt⟩ := row_some hown hpos
      cases hv
      refine .inr ⟨g, 0, rfl, hlt, by simp; omega, fun i hi => ?_⟩
      have hr := row_at hown i hi
      have hold : ∀ o, (w1.alloc (.cells #[.slice (some ⟨g, 0, none⟩) ts.length c, .int .i64 0, .bool false] 78)).cell? ⟨g, o, none⟩ = w1.cell? ⟨g, o, none⟩ := fun o => World.cell?_of_block (Below.heap_alloc _ _ _ hlt)
      rw [hold, hold, Nat.zero_add, Nat.zero_add]
      exact ⟨hr.1, hr.2.1⟩

/-- What whole leaves: a type, an error. -/
def WholeP (w : World) (x : Ty × Nat) (e : Ending) (w' : World) : Prop :=
  ∃ c : C4, e = .returned (.tuple #[c.val, .int .i64 x.2]) ∧ Below w.heap.size w w' ∧ TyV w' (Span w.heap.size w'.heap.size) x.1 c

theorem whole_fin {w w1 w2 w3 w5 : World} {R X : Obj} {t : Ty} {c : C4} (hb : Below w.heap.size w w1) (o2 : Only w1.heap.size (w1.alloc R) w2) (hv : TyV w2 (Span (w1.alloc R).heap.size w2.heap.size) t c)
    (o3 : Only w1.heap.size (w2.alloc X) w3) (o5 : Only w.heap.size w3 w5) (hlt : w.heap.size < w1.heap.size) : Below w.heap.size w w5 ∧ TyV w5 (Span w.heap.size w5.heap.size) t c := by
  have s2 := o2.size; have s3 := o3.size; have s5 := o5.size
  simp at s2 s3
  refine ⟨?_, ?_⟩
  · exact (hb.alloc (by omega) R).trans ((o2.below (by omega) (by simp; omega)).trans (((Below.refl _ w2).alloc (by omega) X).trans ((o3.below (by omega) (by simp; omega)).trans (o5.below (Nat.le_refl _) (by omega)))))
  · refine hv.keep (Span.in (by simp; omega) (by omega)) fun g hg => ?_
    have h1 := hg.1; have h2 := hg.2
    simp at h1
    rw [o5.block g (by omega) (fun e => by cases e; omega), o3.block g (by simp; omega) (fun e => by cases e; omega), Below.heap_alloc _ _ _ h2]

set_option maxRecDepth 100000 in
set_option maxHeartbeats 2000000 in
theorem wholeT_ok (s : ByteArray) (w : World) (hs : s.size ≤ maxLen) (hT : Tabs w) (hL : LookTab w) (ts : List T) (htk : toks s.data.toList = (0, ts)) (h4 : ts.length ≤ 400) (xt : Ty) (xr : R) (hx : outer (rd ts) = (xt, xr)) (ho : xr.over = 0) :
    Calls Tryz.prog 18 #[.string s, .func (.func 19) #[] #[]] w (WholeP w (xt, 0)) := by
  have hgl := hL.lt
  have hbl : Below w.heap.size w ((w.alloc (.cells z4 29)).alloc (.cells z4 29)) := ((Below.refl _ _).alloc (Nat.le_refl _) _).alloc (by simp) _
  have CT := Tokens_any s _ hs (hT.below hbl).1 (hT.below hbl).2
  unfold ToksPost at CT
  rw [htk] at CT
  have hl1 := hL.below hbl
  have HT := Lib.hid CT; have HL := Lib.hid hl1; have HB := Lib.hid hbl; have Y0 := Lib.hid (Lay2.start w w.heap.size ⟨0, ⟨#[]⟩, none, 0, 0, none, 0, 0⟩); have HX := Lib.hid hx; have HO := Lib.hid ho
  clear CT hT hL hl1 hbl htk hx ho
  unfold z4 C4.cells at *
  go_enter Tryz.func18, Tryz.ntmps18
  go_wp2_with (first
    | (go_at_call 27; (refine HT.out.mono ?_); rintro e w1 ⟨hb1, v, rfl, ho⟩; obtain ⟨a, c, rfl⟩ := own_slice ho; have hb2 := HB.out.trans (hb1.mono (by simp; omega)); have r4 := (hb1.block w.heap.size (by simp; omega)).trans Y0.out.res; have r6 := (hb1.block (w.heap.size + 1) (by simp)).trans Y0.out.ty; unfold z4 at r4; have hlt : w.heap.size + 1 < w1.heap.size := (Array.getElem?_eq_some_iff.1 r6).1; have R1 := Lib.hid (rd_start ho rfl); have L1 := Lib.hid ((HL.out.below hb1).below ((Below.refl _ _).alloc (Nat.le_refl _) (.cells #[.slice a ts.length c, .int .i64 0, .bool false] 78))); have C1 := Lib.hid (outer_any _ w1.heap.size (rd ts) R1.out L1.out (by omega) (Nat.le_trans h4 (by omega))); rw [HX.out] at C1; have P4 := Lib.hid ((Below.heap_alloc w1 (.cells #[.slice a ts.length c, .int .i64 0, .bool false] 78) _ (by omega)).trans r4); have P6 := Lib.hid ((Below.heap_alloc w1 (.cells #[.slice a ts.length c, .int .i64 0, .bool false] 78) _ (by omega)).trans r6); have HB2 := Lib.hid hb2; clear hb1 hb2 ho r4 r6)
    | (go_at_call 19; (refine C1.out.mono ?_); rintro e w2 ⟨c2, rfl, h2, o2, hv⟩; obtain ⟨kd, nm, an, ln, cn, ak, lk, ck⟩ := c2; have hs2 := o2.size; simp at hs2; have P4b := Lib.hid ((Below.heap_alloc w2 (.cells #[.int .i64 kd, .string nm, .slice an ln cn, .slice ak lk ck] 29) _ (by omega)).trans (o2.blk P4.out (by omega))); have P6b := Lib.hid ((Below.heap_alloc w2 (.cells #[.int .i64 kd, .string nm, .slice an ln cn, .slice ak lk ck] 29) _ (by omega)).trans (o2.blk P6.out (by omega))); have C2 := Lib.hid (end_any _ _ _ (h2.keep ((Below.refl _ _).alloc (Nat.le_refl _) (.cells #[.int .i64 kd, .string nm, .slice an ln cn, .slice ak lk ck] 29)))); rw [HO.out] at C2; have O2 := Lib.hid o2; have HV := Lib.hid hv; clear h2 o2 hv; simp only [C4.val])
    | (go_at_call 28; (refine C2.out.mono ?_); rintro e w3 ⟨rfl, o3⟩; have hs3 := o3.size; simp at hs3; obtain ⟨⟨p0, p1, p2, p3⟩, y0, y1, y2, y3⟩ := four_blk (o3.blk P4b.out (by omega)); obtain ⟨⟨q0, q1, q2, q3⟩, z0, z1, z2, z3⟩ := four_blk (o3.blk P6b.out (by omega)); obtain ⟨⟨u0, u1, u2, u3⟩, _, _, _, _⟩ := four_blk (o3.blk (heap_alloc_new w2 (.cells #[.int .i64 kd, .string nm, .slice an ln cn, .slice ak lk ck] 29)) (by omega)); have O3 := Lib.hid o3; clear o3))
  have hlt3 : w.heap.size < w3.heap.size := by omega
  refine bodyPost_ret (v := .tuple #[C4.val ⟨kd, nm, an, ln, cn, ak, lk, ck⟩, .int .i64 0]) (by simp [results, Tryz.results18, go_sem, C4.val, p0, p1, p2, p3, hlt3]) rfl ?_
  have hf := whole_fin HB2.out O2.out HV.out O3.out (((((Only.refl w.heap.size w3).setCell 0 (.int .i64 kd)).setCell 1 (.string nm)).setCell 2 (.slice an ln cn)).setCell 3 (.slice ak lk ck)) (by omega)
  exact ⟨_, rfl, hf.1, hf.2⟩

set_option maxRecDepth 100000 in
set_option maxHeartbeats 2000000 in
theorem wholeT_bad (s : ByteArray) (w : World) (hs : s.size ≤ maxLen) (hT : Tabs w) (hL : LookTab w) (ts : List T) (htk : toks s.data.toList = (0, ts)) (h4 : ts.length ≤ 400) (xt : Ty) (xr : R) (hx : outer (rd ts) = (xt, xr)) (n : Nat) (ho : xr.over = n) (hn : ((n : Int) != 0) = true) :
    Calls Tryz.prog 18 #[.string s, .func (.func 19) #[] #[]] w (WholeP w (.zero, n)) := by
  have hgl := hL.lt
  have hbl : Below w.heap.size w ((w.alloc (.cells z4 29)).alloc (.cells z4 29)) := ((Below.refl _ _).alloc (Nat.le_refl _) _).alloc (by simp) _
  have CT := Tokens_any s _ hs (hT.below hbl).1 (hT.below hbl).2
  unfold ToksPost at CT
  rw [htk] at CT
  have hl1 := hL.below hbl
  have HT := Lib.hid CT; have HL := Lib.hid hl1; have HB := Lib.hid hbl; have Y0 := Lib.hid (Lay2.start w w.heap.size ⟨0, ⟨#[]⟩, none, 0, 0, none, 0, 0⟩); have HX := Lib.hid hx; have HO := Lib.hid ho
  clear CT hT hL hl1 hbl htk hx ho
  unfold z4 C4.cells at *
  go_enter Tryz.func18, Tryz.ntmps18
  go_wp2_with (first
    | (go_at_call 27; (refine HT.out.mono ?_); rintro e w1 ⟨hb1, v, rfl, ho⟩; obtain ⟨a, c, rfl⟩ := own_slice ho; have hb2 := HB.out.trans (hb1.mono (by simp; omega)); have r4 := (hb1.block w.heap.size (by simp; omega)).trans Y0.out.res; have r6 := (hb1.block (w.heap.size + 1) (by simp)).trans Y0.out.ty; unfold z4 at r4; have hlt : w.heap.size + 1 < w1.heap.size := (Array.getElem?_eq_some_iff.1 r6).1; have R1 := Lib.hid (rd_start ho rfl); have L1 := Lib.hid ((HL.out.below hb1).below ((Below.refl _ _).alloc (Nat.le_refl _) (.cells #[.slice a ts.length c, .int .i64 0, .bool false] 78))); have C1 := Lib.hid (outer_any _ w1.heap.size (rd ts) R1.out L1.out (by omega) (Nat.le_trans h4 (by omega))); rw [HX.out] at C1; have P4 := Lib.hid ((Below.heap_alloc w1 (.cells #[.slice a ts.length c, .int .i64 0, .bool false] 78) _ (by omega)).trans r4); have P6 := Lib.hid ((Below.heap_alloc w1 (.cells #[.slice a ts.length c, .int .i64 0, .bool false] 78) _ (by omega)).trans r6); have HB2 := Lib.hid hb2; clear hb1 hb2 ho r4 r6)
    | (go_at_call 19; (refine C1.out.mono ?_); rintro e w2 ⟨c2, rfl, h2, o2, hv⟩; obtain ⟨kd, nm, an, ln, cn, ak, lk, ck⟩ := c2; have hs2 := o2.size; simp at hs2; have P4b := Lib.hid ((Below.heap_alloc w2 (.cells #[.int .i64 kd, .string nm, .slice an ln cn, .slice ak lk ck] 29) _ (by omega)).trans (o2.blk P4.out (by omega))); have P6b := Lib.hid ((Below.heap_alloc w2 (.cells #[.int .i64 kd, .string nm, .slice an ln cn, .slice ak lk ck] 29) _ (by omega)).trans (o2.blk P6.out (by omega))); have C2 := Lib.hid (end_any _ _ _ (h2.keep ((Below.refl _ _).alloc (Nat.le_refl _) (.cells #[.int .i64 kd, .string nm, .slice an ln cn, .slice ak lk ck] 29)))); rw [HO.out] at C2; have O2 := Lib.hid o2; have HV := Lib.hid hv; clear h2 o2 hv; simp only [C4.val])
    | (go_at_call 28; (refine C2.out.mono ?_); rintro e w3 ⟨rfl, o3⟩; have hs3 := o3.size; simp at hs3; obtain ⟨⟨p0, p1, p2, p3⟩, y0, y1, y2, y3⟩ := four_blk (o3.blk P4b.out (by omega)); obtain ⟨⟨q0, q1, q2, q3⟩, z0, z1, z2, z3⟩ := four_blk (o3.blk P6b.out (by omega)); obtain ⟨⟨u0, u1, u2, u3⟩, _, _, _, _⟩ := four_blk (o3.blk (heap_alloc_new w2 (.cells #[.int .i64 kd, .string nm, .slice an ln cn, .slice ak lk ck] 29)) (by omega)); have O3 := Lib.hid o3; clear o3))
  have hlt3 : w.heap.size < w3.heap.size := by omega
  refine bodyPost_ret (v := .tuple #[C4.zero.val, .int .i64 n]) (by simp [results, Tryz.results18, go_sem, C4.val, C4.zero, p0, p1, p2, p3, hlt3]) rfl ?_
  have hf := whole_fin HB2.out O2.out HV.out O3.out (((((Only.refl w.heap.size w3).setCell 0 (.int .i64 0)).setCell 1 (.string ⟨#[]⟩)).setCell 2 (.slice none 0 0)).setCell 3 (.slice none 0 0)) (by omega)
  exact ⟨.zero, rfl, hf.1, TyV.zero _ _⟩

set_option maxRecDepth 100000 in
set_option maxHeartbeats 2000000 in
theorem wholeT_no (s : ByteArray) (w : World) (hs : s.size ≤ maxLen) (hT : Tabs w) (n : Nat) (ts : List T) (htk : toks s.data.toList = (n, ts)) (hz2 : ((n : Int) != 0) = true) :
    Calls Tryz.prog 18 #[.string s, .func (.func 19) #[] #[]] w (WholeP w (.zero, n)) := by
  have hbl : Below w.heap.size w ((w.alloc (.cells z4 29)).alloc (.cells z4 29)) := ((Below.refl _ _).alloc (Nat.le_refl _) _).alloc (by simp) _
  have CT := Tokens_any s _ hs (hT.below hbl).1 (hT.below hbl).2
  unfold ToksPost at CT
  rw [htk] at CT
  have HT := Lib.hid CT; have HB := Lib.hid hbl; have Y0 := Lib.hid (Lay2.start w w.heap.size ⟨0, ⟨#[]⟩, none, 0, 0, none, 0, 0⟩)
  clear CT hT hbl htk
  unfold z4 C4.cells at *
  go_enter Tryz.func18, Tryz.ntmps18
  go_wp2_with (go_at_call 27; (refine HT.out.mono ?_); rintro e w1 ⟨hb1, v, rfl, ho⟩; obtain ⟨a, c, rfl⟩ := own_slice ho; have hb2 := HB.out.trans (hb1.mono (by simp; omega)); have r4 := (hb1.block w.heap.size (by simp; omega)).trans Y0.out.res; have r6 := (hb1.block (w.heap.size + 1) (by simp)).trans Y0.out.ty; unfold z4 at r4; obtain ⟨⟨p0, p1, p2, p3⟩, y0, y1, y2, y3⟩ := four_blk r4; obtain ⟨⟨q0, q1, q2, q3⟩, z0, z1, z2, z3⟩ := four_blk r6; have hlt : w.heap.size < w1.heap.size := (Array.getElem?_eq_some_iff.1 r4).1; have HB2 := Lib.hid hb2; clear hb1 hb2 ho r4 r6)
  refine bodyPost_ret (v := .tuple #[C4.zero.val, .int .i64 n]) (by simp [results, Tryz.results18, go_sem, C4.val, C4.zero, p0, p1, p2, p3, hlt]) rfl ⟨.zero, rfl, ?_, TyV.zero _ _⟩
  exact (((HB2.out.setCell (Nat.le_refl _) _).setCell (Nat.le_refl _) _).setCell (Nat.le_refl _) _).setCell (Nat.le_refl _) _

theorem nz {n : Nat} (h : n ≠ 0) : ((n : Int) != 0) = true := by simp; omega

theorem wholeT_any (s : ByteArray) (w : World) (hs : s.size ≤ maxLen) (hT : Tabs w) (hL : LookTab w) :
    Calls Tryz.prog 18 #[.string s, .func (.func 19) #[] #[]] w (WholeP w (typeL s.data.toList)) := by
  have h400 := toks_le s.data.toList
  unfold typeL
  by_cases h0 : (toks s.data.toList).1 = 0
  · rw [if_pos h0]
    have htk : toks s.data.toList = (0, (toks s.data.toList).2) := by rw [← h0]
    by_cases h1 : (outer (rd (toks s.data.toList).2)).2.over = 0
    · rw [if_pos h1]; exact wholeT_ok s w hs hT hL _ htk (h400 h0) _ _ rfl h1
    · rw [if_neg h1]; exact wholeT_bad s w hs hT hL _ htk (h400 h0) _ _ rfl _ rfl (nz h1)
  · rw [if_neg h0]
    exact wholeT_no s w hs hT _ _ rfl (nz h0)

set_option maxHeartbeats 1000000 in
/-- Type: what it answers. -/
theorem Type_any (s : ByteArray) (w : World) (hs : s.size ≤ maxLen) (hT : Tabs w) (hL : LookTab w) :
    Calls Tryz.prog 9 #[.string s] w (WholeP w (typeL s.data.toList)) := by
  have hb := heap_alloc_new w (.cells z4 29)
  have hbl : Below w.heap.size w (w.alloc (.cells z4 29)) := (Below.refl _ _).alloc (Nat.le_refl _) _
  have C := wholeT_any s _ hs (hT.below hbl) (hL.below hbl)
  have HC := Lib.hid C; have HB := Lib.hid hb; have HL := Lib.hid hbl
  clear C hb hbl hT hL
  unfold z4 at *
  generalize typeL s.data.toList = x at *
  go_enter Tryz.func9, Tryz.ntmps9
  go_wp2_with (go_at_call 18; (with_reducible refine HC.out.mono ?_); rintro e w1 ⟨c, rfl, b1, hv⟩; have hs1 := b1.size; simp at hs1; obtain ⟨⟨q0, q1, q2, q3⟩, z0, z1, z2, z3⟩ := four_blk ((b1.block w.heap.size (by simp)).trans HB.out); have B1 := Lib.hid b1; have HV := Lib.hid hv; clear b1 hv; obtain ⟨kd, nm, an, ln, cn, ak, lk, ck⟩ := c; simp only [C4.val])
  have hlt : w.heap.size < w1.heap.size := by omega
  refine bodyPost_ret (v := .tuple #[C4.val ⟨kd, nm, an, ln, cn, ak, lk, ck⟩, .int .i64 x.2]) (by simp [results, Tryz.results9, go_sem, C4.val, q0, q1, q2, q3, hlt]) rfl ⟨_, rfl, ?_, ?_⟩
  · exact ((((HL.out.trans (B1.out.mono (by simp))).setCell (Nat.le_refl _) _).setCell (Nat.le_refl _) _).setCell (Nat.le_refl _) _).setCell (Nat.le_refl _) _
  · have o5 := ((((Only.refl w.heap.size w1).setCell 0 (.int .i64 kd)).setCell 1 (.string nm)).setCell 2 (.slice an ln cn)).setCell 3 (.slice ak lk ck)
    refine HV.out.keep (Span.in (by simp) o5.size) fun g hg => ?_
    have h1 := hg.1; have h2 := hg.2
    simp at h1
    exact o5.block g h2 (fun e => by cases e; omega)
end Sh
end Go.Proofs.YtnnnjonodnkccaaGreatDoor
