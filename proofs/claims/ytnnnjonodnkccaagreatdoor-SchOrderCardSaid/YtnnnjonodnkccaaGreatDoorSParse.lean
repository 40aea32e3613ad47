/- Parse: what it answers, but for the schema itself. -/
import Derived.Test.YtnnnjonodnkccaaGreatDoorSSch
namespace Go.Proofs.YtnnnjonodnkccaaGreatDoor
open Go.RowKit
namespace Sh
open Sc

/-- What Parse leaves: some schema, an error. -/
def ParsP (w : World) (n : Nat) (e : Ending) (w' : World) : Prop :=
  ∃ (c : C4) (a1 : Option Addr) (n1 c1 : Nat) (a2 : Option Addr) (n2 c2 : Nat), e = .returned (.tuple #[.agg #[.int .i64 c.k, .string c.n, .slice c.an c.ln c.cn, .slice c.ak c.lk c.ck, .slice a1 n1 c1, .slice a2 n2 c2], .int .i64 n]) ∧ Below w.heap.size w w'

theorem whole_finB {w w1 w2 w3 w5 : World} {R X : Obj} (hb : Below w.heap.size w w1) (o2 : Only w1.heap.size (w1.alloc R) w2) (o3 : Only w1.heap.size (w2.alloc X) w3) (o5 : Only w.heap.size w3 w5) (hlt : w.heap.size < w1.heap.size) : Below w.heap.size w w5 := by
  have s2 := o2.size; have s3 := o3.size; have s5 := o5.size
  simp at s2 s3
  exact (hb.alloc (by omega) R).trans ((o2.below (by omega) (by simp; omega)).trans (((Below.refl _ w2).alloc (by omega) X).trans ((o3.below (by omega) (by simp; omega)).trans (o5.below (Nat.le_refl _) (by omega)))))

set_option maxRecDepth 100000 in
set_option maxHeartbeats 2000000 in
theorem wholeS_ok (s : ByteArray) (w : World) (hs : s.size ≤ maxLen) (hT : Tabs w) (hL : LookTab w) (ts : List T) (htk : toks s.data.toList = (0, ts)) (h4 : ts.length ≤ 400) (ho : (schemaR (rd ts)).2.over = 0) :
    Calls Tryz.prog 20 #[.string s, .func (.func 21) #[] #[]] w (ParsP w 0) := by
  have hgl := hL.lt
  have hbl : Below w.heap.size w ((w.alloc (.cells #[.int .i64 0, .string ⟨#[]⟩, .slice none 0 0, .slice none 0 0, .slice none 0 0, .slice none 0 0] 36)).alloc (.cells #[.int .i64 0, .string ⟨#[]⟩, .slice none 0 0, .slice none 0 0, .slice none 0 0, .slice none 0 0] 36)) := ((Below.refl _ _).alloc (Nat.le_refl _) _).alloc (by simp) _
  obtain ⟨r0, r1⟩ := two_new w (.cells #[.int .i64 0, .string ⟨#[]⟩, .slice none 0 0, .slice none 0 0, .slice none 0 0, .slice none 0 0] 36) (.cells #[.int .i64 0, .string ⟨#[]⟩, .slice none 0 0, .slice none 0 0, .slice none 0 0, .slice none 0 0] 36)
  have CT := Tokens_any s _ hs (hT.below hbl).1 (hT.below hbl).2
  unfold ToksPost at CT
  rw [htk] at CT
  have hl1 := hL.below hbl
  have HT := Lib.hid CT; have HL := Lib.hid hl1; have HB := Lib.hid hbl; have R0 := Lib.hid r0; have R1 := Lib.hid r1; have HO := Lib.hid ho
  clear CT hT hL hl1 hbl htk ho r0 r1
  go_enter Tryz.func20, Tryz.ntmps20
  go_wp2_with (first
    | (go_at_call 27; (refine HT.out.mono ?_); rintro e w1 ⟨hb1, v, rfl, ho⟩; obtain ⟨a, c, rfl⟩ := own_slice ho; have hb2 := HB.out.trans (hb1.mono (by simp; omega)); have r4 := (hb1.block w.heap.size (by simp; omega)).trans R0.out; have r6 := (hb1.block (w.heap.size + 1) (by simp)).trans R1.out; have hlt : w.heap.size + 1 < w1.heap.size := (Array.getElem?_eq_some_iff.1 r6).1; have RR := Lib.hid (rd_start ho rfl); have L1 := Lib.hid ((HL.out.below hb1).below ((Below.refl _ _).alloc (Nat.le_refl _) (.cells #[.slice a ts.length c, .int .i64 0, .bool false] 78))); have C1 := Lib.hid (schema_any _ w1.heap.size (rd ts) RR.out L1.out (by omega) (Nat.le_trans h4 (by omega))); have P4 := Lib.hid ((Below.heap_alloc w1 (.cells #[.slice a ts.length c, .int .i64 0, .bool false] 78) _ (by omega)).trans r4); have P6 := Lib.hid ((Below.heap_alloc w1 (.cells #[.slice a ts.length c, .int .i64 0, .bool false] 78) _ (by omega)).trans r6); have HB2 := Lib.hid hb2; clear hb1 hb2 ho r4 r6)
    | (go_at_call 21; (refine C1.out.mono ?_); rintro e w2 ⟨c2, a1, n1, c1, a2, n2, c2', rfl, h2, o2⟩; obtain ⟨kd, nm, an, ln, cn, ak, lk, ck⟩ := c2; have hs2 := o2.size; simp at hs2; have P4b := Lib.hid ((Below.heap_alloc w2 (.cells #[.int .i64 kd, .string nm, .slice an ln cn, .slice ak lk ck, .slice a1 n1 c1, .slice a2 n2 c2'] 36) _ (by omega)).trans (o2.blk P4.out (by omega))); have P6b := Lib.hid ((Below.heap_alloc w2 (.cells #[.int .i64 kd, .string nm, .slice an ln cn, .slice ak lk ck, .slice a1 n1 c1, .slice a2 n2 c2'] 36) _ (by omega)).trans (o2.blk P6.out (by omega))); have C2 := Lib.hid (end_any _ _ _ (h2.keep ((Below.refl _ _).alloc (Nat.le_refl _) (.cells #[.int .i64 kd, .string nm, .slice an ln cn, .slice ak lk ck, .slice a1 n1 c1, .slice a2 n2 c2'] 36)))); rw [HO.out] at C2; have O2 := Lib.hid o2; clear h2 o2)
    | (go_at_call 28; (refine C2.out.mono ?_); rintro e w3 ⟨rfl, o3⟩; have hs3 := o3.size; simp at hs3; obtain ⟨⟨p0, p1, p2, p3, p4, p5⟩, ⟨y0, y1, y2, y3, y4, y5⟩, _⟩ := six_blk (o3.blk P4b.out (by omega)); obtain ⟨⟨q0, q1, q2, q3, q4, q5⟩, ⟨z0, z1, z2, z3, z4, z5⟩, _⟩ := six_blk (o3.blk P6b.out (by omega)); obtain ⟨⟨u0, u1, u2, u3, u4, u5⟩, _, _⟩ := six_blk (o3.blk (heap_alloc_new w2 (.cells #[.int .i64 kd, .string nm, .slice an ln cn, .slice ak lk ck, .slice a1 n1 c1, .slice a2 n2 c2'] 36)) (by omega)); have O3 := Lib.hid o3; clear o3))
  have hlt3 : w.heap.size < w3.heap.size := by omega
  refine bodyPost_ret (v := .tuple #[.agg #[.int .i64 kd, .string nm, .slice an ln cn, .slice ak lk ck, .slice a1 n1 c1, .slice a2 n2 c2'], .int .i64 0]) (by simp [results, Tryz.results20, go_sem, p0, p1, p2, p3, p4, p5, hlt3]) rfl ?_
  exact ⟨⟨kd, nm, an, ln, cn, ak, lk, ck⟩, a1, n1, c1, a2, n2, c2', rfl, whole_finB HB2.out O2.out O3.out ((((((((Only.refl w.heap.size w3).setCell 0 (.int .i64 kd)).setCell 1 (.string nm)).setCell 2 (.slice an ln cn)).setCell 3 (.slice ak lk ck)).setCell 4 (.slice a1 n1 c1)).setCell 5 (.slice a2 n2 c2'))) (by omega)⟩

set_option maxRecDepth 100000 in
set_option maxHeartbeats 2000000 in
theorem wholeS_bad (s : ByteArray) (w : World) (hs : s.size ≤ maxLen) (hT : Tabs w) (hL : LookTab w) (ts : List T) (htk : toks s.data.toList = (0, ts)) (h4 : ts.length ≤ 400) (n : Nat) (ho : (schemaR (rd ts)).2.over = n) (hn : ((n : Int) != 0) = true) :
    Calls Tryz.prog 20 #[.string s, .func (.func 21) #[] #[]] w (ParsP w n) := by
  have hgl := hL.lt
  have hbl : Below w.heap.size w ((w.alloc (.cells #[.int .i64 0, .string ⟨#[]⟩, .slice none 0 0, .slice none 0 0, .slice none 0 0, .slice none 0 0] 36)).alloc (.cells #[.int .i64 0, .string ⟨#[]⟩, .slice none 0 0, .slice none 0 0, .slice none 0 0, .slice none 0 0] 36)) := ((Below.refl _ _).alloc (Nat.le_refl _) _).alloc (by simp) _
  obtain ⟨r0, r1⟩ := two_new w (.cells #[.int .i64 0, .string ⟨#[]⟩, .slice none 0 0, .slice none 0 0, .slice none 0 0, .slice none 0 0] 36) (.cells #[.int .i64 0, .string ⟨#[]⟩, .slice none 0 0, .slice none 0 0, .slice none 0 0, .slice none 0 0] 36)
  have CT := Tokens_any s _ hs (hT.below hbl).1 (hT.below hbl).2
  unfold ToksPost at CT
  rw [htk] at CT
  have hl1 := hL.below hbl
  have HT := Lib.hid CT; have HL := Lib.hid hl1; have HB := Lib.hid hbl; have R0 := Lib.hid r0; have R1 := Lib.hid r1; have HO := Lib.hid ho
  clear CT hT hL hl1 hbl htk ho r0 r1
  go_enter Tryz.func20, Tryz.ntmps20
  go_wp2_with (first
    | (go_at_call 27; (refine HT.out.mono ?_); rintro e w1 ⟨hb1, v, rfl, ho⟩; obtain ⟨a, c, rfl⟩ := own_slice ho; have hb2 := HB.out.trans (hb1.mono (by simp; omega)); have r4 := (hb1.block w.heap.size (by simp; omega)).trans R0.out; have r6 := (hb1.block (w.heap.size + 1) (by simp)).trans R1.out; have hlt : w.heap.size + 1 < w1.heap.size := (Array.getElem?_eq_some_iff.1 r6).1; have RR := Lib.hid (rd_start ho rfl); have L1 := Lib.hid ((HL.out.below hb1).below ((Below.refl _ _).alloc (Nat.le_refl _) (.cells #[.slice a ts.length c, .int .i64 0, .bool false] 78))); have C1 := Lib.hid (schema_any _ w1.heap.size (rd ts) RR.out L1.out (by omega) (Nat.le_trans h4 (by omega))); have P4 := Lib.hid ((Below.heap_alloc w1 (.cells #[.slice a ts.length c, .int .i64 0, .bool false] 78) _ (by omega)).trans r4); have P6 := Lib.hid ((Below.heap_alloc w1 (.cells #[.slice a ts.length c, .int .i64 0, .bool false] 78) _ (by omega)).trans r6); have HB2 := Lib.hid hb2; clear hb1 hb2 ho r4 r6)
    | (go_at_call 21; (refine C1.out.mono ?_); rintro e w2 ⟨c2, a1, n1, c1, a2, n2, c2', rfl, h2, o2⟩; obtain ⟨kd, nm, an, ln, cn, ak, lk, ck⟩ := c2; have hs2 := o2.size; simp at hs2; have P4b := Lib.hid ((Below.heap_alloc w2 (.cells #[.int .i64 kd, .string nm, .slice an ln cn, .slice ak lk ck, .slice a1 n1 c1, .slice a2 n2 c2'] 36) _ (by omega)).trans (o2.blk P4.out (by omega))); have P6b := Lib.hid ((Below.heap_alloc w2 (.cells #[.int .i64 kd, .string nm, .slice an ln cn, .slice ak lk ck, .slice a1 n1 c1, .slice a2 n2 c2'] 36) _ (by omega)).trans (o2.blk P6.out (by omega))); have C2 := Lib.hid (end_any _ _ _ (h2.keep ((Below.refl _ _).alloc (Nat.le_refl _) (.cells #[.int .i64 kd, .string nm, .slice an ln cn, .slice ak lk ck, .slice a1 n1 c1, .slice a2 n2 c2'] 36)))); rw [HO.out] at C2; have O2 := Lib.hid o2; clear h2 o2)
    | (go_at_call 28; (refine C2.out.mono ?_); rintro e w3 ⟨rfl, o3⟩; have hs3 := o3.size; simp at hs3; obtain ⟨⟨p0, p1, p2, p3, p4, p5⟩, ⟨y0, y1, y2, y3, y4, y5⟩, _⟩ := six_blk (o3.blk P4b.out (by omega)); obtain ⟨⟨q0, q1, q2, q3, q4, q5⟩, ⟨z0, z1, z2, z3, z4, z5⟩, _⟩ := six_blk (o3.blk P6b.out (by omega)); obtain ⟨⟨u0, u1, u2, u3, u4, u5⟩, _, _⟩ := six_blk (o3.blk (heap_alloc_new w2 (.cells #[.int .i64 kd, .string nm, .slice an ln cn, .slice ak lk ck, .slice a1 n1 c1, .slice a2 n2 c2'] 36)) (by omega)); have O3 := Lib.hid o3; clear o3))
  have hlt3 : w.heap.size < w3.heap.size := by omega
  refine bodyPost_ret (v := .tuple #[.agg #[.int .i64 0, .string ⟨#[]⟩, .slice none 0 0, .slice none 0 0, .slice none 0 0, .slice none 0 0], .int .i64 n]) (by simp [results, Tryz.results20, go_sem, p0, p1, p2, p3, p4, p5, hlt3]) rfl ?_
  exact ⟨⟨0, ⟨#[]⟩, none, 0, 0, none, 0, 0⟩, none, 0, 0, none, 0, 0, rfl, whole_finB HB2.out O2.out O3.out ((((((((Only.refl w.heap.size w3).setCell 0 (.int .i64 0)).setCell 1 (.string ⟨#[]⟩)).setCell 2 (.slice none 0 0)).setCell 3 (.slice none 0 0)).setCell 4 (.slice none 0 0)).setCell 5 (.slice none 0 0))) (by omega)⟩

set_option maxRecDepth 100000 in
set_option maxHeartbeats 2000000 in
theorem wholeS_no (s : ByteArray) (w : World) (hs : s.size ≤ maxLen) (hT : Tabs w) (n : Nat) (ts : List T) (htk : toks s.data.toList = (n, ts)) (hz2 : ((n : Int) != 0) = true) :
    Calls Tryz.prog 20 #[.string s, .func (.func 21) #[] #[]] w (ParsP w n) := by
  have hbl : Below w.heap.size w ((w.alloc (.cells #[.int .i64 0, .string ⟨#[]⟩, .slice none 0 0, .slice none 0 0, .slice none 0 0, .slice none 0 0] 36)).alloc (.cells #[.int .i64 0, .string ⟨#[]⟩, .slice none 0 0, .slice none 0 0, .slice none 0 0, .slice none 0 0] 36)) := ((Below.refl _ _).alloc (Nat.le_refl _) _).alloc (by simp) _
  obtain ⟨r0, r1⟩ := two_new w (.cells #[.int .i64 0, .string ⟨#[]⟩, .slice none 0 0, .slice none 0 0, .slice none 0 0, .slice none 0 0] 36) (.cells #[.int .i64 0, .string ⟨#[]⟩, .slice none 0 0, .slice none 0 0, .slice none 0 0, .slice none 0 0] 36)
  have CT := Tokens_any s _ hs (hT.below hbl).1 (hT.below hbl).2
  unfold ToksPost at CT
  rw [htk] at CT
  have HT := Lib.hid CT; have HB := Lib.hid hbl; have R0 := Lib.hid r0; have R1 := Lib.hid r1
  clear CT hT hbl htk r0 r1
  go_enter Tryz.func20, Tryz.ntmps20
  go_wp2_with (go_at_call 27; (refine HT.out.mono ?_); rintro e w1 ⟨hb1, v, rfl, ho⟩; obtain ⟨a, c, rfl⟩ := own_slice ho; have hb2 := HB.out.trans (hb1.mono (by simp; omega)); have r4 := (hb1.block w.heap.size (by simp; omega)).trans R0.out; have r6 := (hb1.block (w.heap.size + 1) (by simp)).trans R1.out; have hlt : w.heap.size + 1 < w1.heap.size := (Array.getElem?_eq_some_iff.1 r6).1; obtain ⟨⟨p0, p1, p2, p3, p4, p5⟩, ⟨y0, y1, y2, y3, y4, y5⟩, _⟩ := six_blk r4; obtain ⟨⟨q0, q1, q2, q3, q4, q5⟩, ⟨z0, z1, z2, z3, z4, z5⟩, _⟩ := six_blk r6; have HB2 := Lib.hid hb2; clear hb1 hb2 ho r4 r6)
  have hlt3 : w.heap.size < w1.heap.size := by omega
  refine bodyPost_ret (v := .tuple #[.agg #[.int .i64 0, .string ⟨#[]⟩, .slice none 0 0, .slice none 0 0, .slice none 0 0, .slice none 0 0], .int .i64 n]) (by simp [results, Tryz.results20, go_sem, p0, p1, p2, p3, p4, p5, hlt3]) rfl ⟨⟨0, ⟨#[]⟩, none, 0, 0, none, 0, 0⟩, none, 0, 0, none, 0, 0, rfl, ?_⟩
  exact (((((HB2.out.setCell (Nat.le_refl _) _).setCell (Nat.le_refl _) _).setCell (Nat.le_refl _) _).setCell (Nat.le_refl _) _).setCell (Nat.le_refl _) _).setCell (Nat.le_refl _) _

theorem wholeS_any (s : ByteArray) (w : World) (hs : s.size ≤ maxLen) (hT : Tabs w) (hL : LookTab w) :
    Calls Tryz.prog 20 #[.string s, .func (.func 21) #[] #[]] w (ParsP w (parseE s.data.toList)) := by
  have h400 := toks_le s.data.toList
  unfold parseE
  by_cases h0 : (toks s.data.toList).1 = 0
  · rw [if_pos h0]
    have htk : toks s.data.toList = (0, (toks s.data.toList).2) := by rw [← h0]
    by_cases h1 : (schemaR (rd (toks s.data.toList).2)).2.over = 0
    · rw [h1]; exact wholeS_ok s w hs hT hL _ htk (h400 h0) h1
    · exact wholeS_bad s w hs hT hL _ htk (h400 h0) _ rfl (nz h1)
  · rw [if_neg h0]
    exact wholeS_no s w hs hT _ _ rfl (nz h0)

set_option maxRecDepth 100000 in
set_option maxHeartbeats 1000000 in
/-- Parse: what it answers. -/
theorem Parse_any (s : ByteArray) (w : World) (hs : s.size ≤ maxLen) (hT : Tabs w) (hL : LookTab w) :
    Calls Tryz.prog 10 #[.string s] w (ParsP w (parseE s.data.toList)) := by
  have hb := heap_alloc_new w (.cells #[.int .i64 0, .string ⟨#[]⟩, .slice none 0 0, .slice none 0 0, .slice none 0 0, .slice none 0 0] 36)
  have hbl : Below w.heap.size w (w.alloc (.cells #[.int .i64 0, .string ⟨#[]⟩, .slice none 0 0, .slice none 0 0, .slice none 0 0, .slice none 0 0] 36)) := (Below.refl _ _).alloc (Nat.le_refl _) _
  have C := wholeS_any s _ hs (hT.below hbl) (hL.below hbl)
  have HC := Lib.hid C; have HB := Lib.hid hb; have HL := Lib.hid hbl
  clear C hb hbl hT hL
  generalize parseE s.data.toList = x at *
  go_enter Tryz.func10, Tryz.ntmps10
  go_wp2_with (go_at_call 20; (with_reducible refine HC.out.mono ?_); rintro e w1 ⟨c, a1, n1, c1, a2, n2, c2, rfl, b1⟩; have hs1 := b1.size; simp at hs1; obtain ⟨⟨q0, q1, q2, q3, q4, q5⟩, ⟨z0, z1, z2, z3, z4, z5⟩, _⟩ := six_blk ((b1.block w.heap.size (by simp)).trans HB.out); have B1 := Lib.hid b1; clear b1; obtain ⟨kd, nm, an, ln, cn, ak, lk, ck⟩ := c)
  have hlt : w.heap.size < w1.heap.size := by omega
  refine bodyPost_ret (v := .tuple #[.agg #[.int .i64 kd, .string nm, .slice an ln cn, .slice ak lk ck, .slice a1 n1 c1, .slice a2 n2 c2], .int .i64 x]) (by simp [results, Tryz.results10, go_sem, q0, q1, q2, q3, q4, q5, hlt]) rfl ⟨⟨kd, nm, an, ln, cn, ak, lk, ck⟩, a1, n1, c1, a2, n2, c2, rfl, ?_⟩
  exact ((((((HL.out.trans (B1.out.mono (by simp))).setCell (Nat.le_refl _) _).setCell (Nat.le_refl _) _).setCell (Nat.le_refl _) _).setCell (Nat.le_refl _) _).setCell (Nat.le_refl _) _).setCell (Nat.le_refl _) _
end Sh
end Go.Proofs.YtnnnjonodnkccaaGreatDoor
