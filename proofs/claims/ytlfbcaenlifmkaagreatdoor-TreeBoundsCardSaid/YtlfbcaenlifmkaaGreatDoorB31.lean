/- actionOf: a source that is an action and nothing else. -/
import Derived.Test.YtlfbcaenlifmkaaGreatDoorB20
import Derived.Test.YtlfbcaenlifmkaaGreatDoorB30
namespace Go.Proofs.YtlfbcaenlifmkaaGreatDoor
open Go.RowKit
namespace Tr
open Sc Sh Sp
theorem results_cell_two {P : Program} {fn : Func} {p u : Tmp} {ty : TypeId} (h : fn.results = #[.cell p ty, .tmp u]) (tmps : Array Value) (w : World) (g : Nat) (t : TypeId) (cs : Array Value) (fr : Nat × Nat) (d : TypeDesc) {v : Value}
    (hp : tmps.getD p undef = .pointer (some ⟨g, 0, none⟩)) (hg : w.heap[g]? = some (.cells cs t fr))
    (hu : P.underlying ty = some d) (hd : (match d with | .struct _ | .array _ _ => true | _ => false) = true) (hi : (P.info? ty).map (·.size) = some cs.size) (hv : tmps.getD u undef = v) :
    (results fn tmps).run P w = .ok (.tuple #[.agg cs, v]) w := by
  have hp' : tmps[p]?.getD undef = .pointer (some ⟨g, 0, none⟩) := by simpa using hp
  have hv' : tmps[u]?.getD undef = v := by simpa using hv
  simp [results, h, hp', hv', asAddr, run_loadVar_row w g t ty cs fr d hg hu hd hi]
/-- What actionOf leaves. -/
def AofP (w : World) (x : Act × Nat) (e : Ending) (w' : World) : Prop :=
  ∃ c : C9, e = .returned (.tuple #[c.val, .int .i64 x.2]) ∧ Below w.heap.size w w' ∧ ActV w' (Span w.heap.size w'.heap.size) x.1 c
theorem ActV.zero {w : World} {S : Nat → Prop} : ActV w S .zero ⟨0, 0, ⟨#[]⟩, ⟨#[]⟩, none, 0, 0, none, 0, 0, none, 0, 0, false, none, 0, 0⟩ := ⟨none, 0, [], rfl, PipeV.none⟩
def c90 : C9 := ⟨0, 0, ⟨#[]⟩, ⟨#[]⟩, none, 0, 0, none, 0, 0, none, 0, 0, false, none, 0, 0⟩
/-- The two blocks that a call lays first. -/
structure LayT (w w1 : World) : Prop where
  below : Below w.heap.size w w1
  res : w1.heap[w.heap.size]? = some (.cells #[.int .i64 0, .int .i64 0, .string ⟨#[]⟩, .string ⟨#[]⟩, .slice none 0 0, .slice none 0 0, .slice none 0 0, .bool false, .slice none 0 0] 56 (0, 0))
  nul : w1.heap[w.heap.size + 1]? = some (.cells #[.int .i64 0, .int .i64 0, .string ⟨#[]⟩, .string ⟨#[]⟩, .slice none 0 0, .slice none 0 0, .slice none 0 0, .bool false, .slice none 0 0] 56 (0, 0))
theorem LayT.start (w : World) : LayT w ((w.alloc (.cells z9 56)).alloc (.cells z9 56)) := by
  refine ⟨((Below.refl _ _).alloc (Nat.le_refl _) _).alloc (by simp) _, ?_, ?_⟩
  · rw [Below.heap_alloc _ _ _ (by simp)]; exact heap_alloc_new w _
  · have := heap_alloc_new (w.alloc (.cells z9 56)) (.cells z9 56)
    rwa [show (w.alloc (.cells z9 56)).heap.size = w.heap.size + 1 by simp] at this
theorem LayT.keep {w w1 w2 : World} {rb : Nat} (h : LayT w w1) (ho : Only rb w1 w2) (hrb : w.heap.size + 1 < rb) : LayT w w2 := by
  have h1 := (Array.getElem?_eq_some_iff.1 h.nul).1
  exact ⟨h.below.trans (ho.below (by omega) (by omega)), ho.blk h.res (by omega), ho.blk h.nul (by omega)⟩
theorem LayT.keepB {w w1 w2 : World} (h : LayT w w1) (ho : Below w1.heap.size w1 w2) : LayT w w2 := by
  have h1 := (Array.getElem?_eq_some_iff.1 h.nul).1
  exact ⟨h.below.trans (ho.mono (by omega)), (ho.block _ (by omega)).trans h.res, (ho.block _ h1).trans h.nul⟩
theorem LayT.drew {w w1 : World} (h : LayT w w1) : LayT w w1.drew := ⟨h.below.drew, h.res, h.nul⟩
theorem setRow_only (w : World) (b : Nat) (vs : Array Value) : Only b w (w.setRow b vs) := ⟨rfl, rfl, rfl, by simp, fun k _ hk => setRow_other w b k _ (fun e => hk (by rw [e]))⟩
theorem setRow_at {w : World} {b : Nat} {cur : Array Value} {t : TypeId} {fr : Nat × Nat} (h : w.heap[b]? = some (.cells cur t fr)) (vs : Array Value) : (w.setRow b vs).heap[b]? = some (.cells vs t fr) := setRow_heap w b cur vs t fr h
theorem exec_store_row {P : Program} {w : World} {ρ : Operand → Value} {o : Oper} (ty : TypeId) (x y : Operand) (ho : o.op = .store ty x y) (g : Nat) (cells : Array Value) (hx : ρ x = .pointer (some ⟨g, 0, none⟩)) (hy : ρ y = .agg cells)
    (t : TypeId) (old : Array Value) (hg : w.heap[g]? = some (.cells old t (0, 0))) (hi : (P.info? ty).map (·.size) = some cells.size) (hold : old.size = cells.size) (h1 : cells.all (·.oneCell') = true) : (execOp ρ o).run P w = .ok .skip (w.setRow g cells) := by
  unfold execOp
  simp only [ho, hx, hy, Instr.storeAt, Instr.sureAddr, Sem.run_bind, Sem.run_pure, Result.andThen_ok, run_storeVar_row w g t ty old cells hg hi hold h1]
theorem AofP.none9 {w w1 : World} (h : LayT w w1) (e : Nat) : AofP w (.zero, e) (.returned (.tuple #[c90.val, .int .i64 e])) (w1.setRow w.heap.size z9) :=
  ⟨c90, rfl, h.below.trans ((setRow_only w1 w.heap.size z9).below (Nat.le_refl _) h.below.size), ActV.zero⟩
theorem AofP.none {w w1 : World} (h : LayT w w1) (e : Nat) : AofP w (.zero, e) (.returned (.tuple #[c90.val, .int .i64 e])) (put9 w1 w.heap.size c90) :=
  ⟨c90, rfl, h.below.trans ((put9_only w1 w.heap.size c90).below (Nat.le_refl _) h.below.size), ActV.zero⟩
set_option maxRecDepth 100000 in
set_option maxHeartbeats 4000000 in
theorem aln_bad (s : ByteArray) (w : World) (hs : s.size ≤ maxLen) (hL : Lean w) (he : (toks s.data.toList).1 ≠ 0) :
    Calls Tryz.prog 106 #[.string s, .func (.func 107) #[] #[]] w (AofP w (actionL s.data.toList)) := by
  have hp : actionL s.data.toList = (.zero, (toks s.data.toList).1) := by unfold actionL allR; rw [if_neg he]
  obtain ⟨W0, hW0⟩ : ∃ W0, W0 = (w.alloc (.cells z9 56)).alloc (.cells z9 56) := ⟨_, rfl⟩
  have hY0 : LayT w W0 := by rw [hW0]; exact LayT.start w
  have CT := Tokens_any s W0 hs (hL.tabs.below hY0.below).1 (hL.tabs.below hY0.below).2
  rw [hp]
  unfold ToksPost at CT
  generalize toks s.data.toList = x at *
  obtain ⟨te, ts⟩ := x
  simp only at he CT ⊢
  have tn : ((te : Int) != 0) = true := by simp; omega
  have HT := Lib.hid CT; have HW0 := Lib.hid hW0; have HY0 := Lib.hid hY0
  clear CT hp hW0 hY0 hL
  unfold z9 at HW0
  go_enter Tryz.func106, Tryz.ntmps106
  go_upto_region 2 with fail
  rw [← HW0.out]
  go_upto_region 4 with (go_at_call 51; (refine HT.out.mono ?_); rintro e w1 ⟨b1, v, rfl, hv⟩; have Y1 := Lib.hid (HY0.out.keepB b1); clear b1 hv)
  obtain ⟨⟨q0, q1, q2, q3, q4, q5, q6, q7, q8⟩, ⟨f0, f1, f2, f3, f4, f5, f6, f7, f8⟩⟩ := nine_blk Y1.out.res
  obtain ⟨⟨y0, y1, y2, y3, y4, y5, y6, y7, y8⟩, -⟩ := nine_blk Y1.out.nul
  have hl1 := (Array.getElem?_eq_some_iff.1 Y1.out.nul).1
  go_wp2
  exact bodyPost_ret (results_cell_two (p := 4) (u := 5) (v := .int .i64 te) rfl _ _ w.heap.size 56 _ (0, 0) _ rfl (put9_at Y1.out.res c90) Tryz.underlying56 rfl (by kernel_rfl) rfl) rfl (AofP.none Y1.out te)
theorem AofP.some {w w4 w5 : World} {a : Act} {c : C9} (h : LayT w w4) (hv : ActV w4 (Span (w.heap.size + 1) w4.heap.size) a c) (h5 : w5 = put9 w4 w.heap.size c) : AofP w (a, 0) (.returned (.tuple #[c.val, .int .i64 0])) w5 := by
  have ho := put9_only w4 w.heap.size c
  subst h5
  exact ⟨c, rfl, h.below.trans (ho.below (Nat.le_refl _) h.below.size), hv.keep (Span.in (by omega) ho.size) (fun g hg => ho.block g hg.2 (fun e => by have := hg.1; cases e; omega))⟩
set_option maxRecDepth 100000 in
set_option maxHeartbeats 8000000 in
theorem aln_in (s : ByteArray) (w : World) (hs : s.size ≤ maxLen) (hL : Lean w) (he : (toks s.data.toList).1 = 0) :
    Calls Tryz.prog 106 #[.string s, .func (.func 107) #[] #[]] w (AofP w (actionL s.data.toList)) := by
  have hp : actionL s.data.toList = (if overE (actionR ⟨(toks s.data.toList).2, 0, 0⟩).2 = 0 then ((actionR ⟨(toks s.data.toList).2, 0, 0⟩).1, 0) else (.zero, overE (actionR ⟨(toks s.data.toList).2, 0, 0⟩).2)) := by unfold actionL allR; rw [if_pos he]
  obtain ⟨W0, hW0⟩ : ∃ W0, W0 = (w.alloc (.cells z9 56)).alloc (.cells z9 56) := ⟨_, rfl⟩
  have hY0 : LayT w W0 := by rw [hW0]; exact LayT.start w
  have CT := Tokens_any s W0 hs (hL.tabs.below hY0.below).1 (hL.tabs.below hY0.below).2
  have hsh := toks_short s.data.toList
  have hst := fun (w1 : World) a c => Rd.start (w0 := W0) (w := w1) (a := a) (c := c) (l := s.data.toList)
  obtain ⟨full, hfull⟩ : ∃ full, full = actionL s.data.toList := ⟨_, rfl⟩
  rw [← hfull] at hp ⊢
  unfold ToksPost at CT
  generalize toks s.data.toList = x at *
  obtain ⟨te, ts⟩ := x
  simp only at he CT hp hsh hst
  obtain rfl := he
  have hz0 : W0.heap.size = w.heap.size + 2 := by rw [hW0]; simp
  have HT := Lib.hid CT; have HP := Lib.hid hp; have HST := Lib.hid hst; have HL := Lib.hid hL; have HW0 := Lib.hid hW0; have HY0 := Lib.hid hY0
  clear CT hp hfull hst hL hW0 hY0
  unfold z9 at HW0
  go_enter Tryz.func106, Tryz.ntmps106
  go_upto_region 2 with fail
  rw [← HW0.out]
  go_upto_region 6 with (go_at_call 51; (refine HT.out.mono ?_); rintro e w1 ⟨b1, v, rfl, hv⟩; obtain ⟨a, c, rfl⟩ := own_slice hv; have B1 := Lib.hid b1; have HV1 := Lib.hid hv; clear b1 hv)
  obtain ⟨W2, hW2⟩ : ∃ W2, W2 = w1.alloc (.cells #[.slice a ts.length c, .int .i64 0, .int .i64 0, .int .i64 0] 122) := ⟨_, rfl⟩
  have hR2 : RdE W2 w1.heap.size ⟨ts, 0, 0⟩ 0 := by rw [hW2]; exact ⟨a, c, HST.out w1 a c HV1.out⟩
  have hY2 : LayT w W2 := by rw [hW2]; exact (HY0.out.keepB B1.out).keepB ((Below.refl _ _).alloc (Nat.le_refl _) _)
  have hsz := B1.out.size
  have hE2 : Env W2 w1.heap.size := ⟨HL.out.verb.below hY2.below, by have := HL.out.verb.lt; omega⟩
  rw [← hW2]
  clear hW2
  generalize w1.heap.size = rb at *
  have hrb2 : w.heap.size + 1 < rb := by omega
  have CP := action_any W2 rb ⟨ts, 0, 0⟩ hR2 hE2 (by simp only; omega)
  generalize actionR ⟨ts, 0, 0⟩ = y at *
  obtain ⟨act, r2⟩ := y
  have HP' : Hid (full = if overE r2 = 0 then (act, 0) else (.zero, overE r2)) := HP
  have HC := Lib.hid CP; have HY2 := Lib.hid hY2
  have hz2 := hR2.lt
  clear CP HP hE2 hR2 hY2
  go_upto_region 7 with (go_at_call 107; (refine HC.out.mono ?_); rintro e w3 ⟨cc, rfl, h3, o3, hv⟩; unfold C9.val; have H3 := Lib.hid h3; have O3 := Lib.hid o3; have HV3 := Lib.hid hv; have hw3 := o3.size; clear h3 o3 hv)
  obtain ⟨W4, hW4⟩ : ∃ W4, W4 = w3.alloc (.cells #[.int .i64 cc.k, .int .i64 cc.at_, .string cc.s, .string cc.name, .slice cc.pa cc.pl cc.pc, .slice cc.ba cc.bl cc.bc, .slice cc.ea cc.el cc.ec, .bool cc.h, .slice cc.ca cc.cl cc.cc] 56) := ⟨_, rfl⟩
  have hb4 : Below w3.heap.size w3 W4 := by rw [hW4]; exact (Below.refl _ _).alloc (Nat.le_refl _) _
  have hx4 : W4.heap[w3.heap.size]? = some (.cells #[.int .i64 cc.k, .int .i64 cc.at_, .string cc.s, .string cc.name, .slice cc.pa cc.pl cc.pc, .slice cc.ba cc.bl cc.bc, .slice cc.ea cc.el cc.ec, .bool cc.h, .slice cc.ca cc.cl cc.cc] 56 (0, 0)) := by rw [hW4]; exact heap_alloc_new w3 _
  have hY4 : LayT w W4 := (HY2.out.keep O3.out hrb2).keepB hb4
  have hR4 : RdE W4 rb r2 0 := H3.out.keep hb4
  have hv4 : ActV W4 (Span (w.heap.size + 1) W4.heap.size) act cc := HV3.out.keep (Span.in (by omega) hb4.size) (fun g hg => hb4.block g hg.2)
  rw [← hW4]
  have hxl : rb < w3.heap.size := H3.out.lt
  clear hW4 hb4
  generalize w3.heap.size = ab at *
  have HX4 := Lib.hid hx4; have HY4 := Lib.hid hY4; have HR4 := Lib.hid hR4; have HV4 := Lib.hid hv4
  obtain ⟨⟨u0, u1, u2, u3, u4, u5, u6, u7, u8⟩, -⟩ := nine_blk hx4
  obtain ⟨⟨p0, p1, p2, p3, p4, p5, p6, p7, p8⟩, ⟨f0, f1, f2, f3, f4, f5, f6, f7, f8⟩⟩ := nine_blk hY4.res
  obtain ⟨⟨n0, n1, n2, n3, n4, n5, n6, n7, n8⟩, -⟩ := nine_blk hY4.nul
  have hl4 := (Array.getElem?_eq_some_iff.1 hY4.nul).1
  have hlx := (Array.getElem?_eq_some_iff.1 hx4).1
  clear hx4 hY4 hv4
  have hrd := hR4
  obtain ⟨a4, c4, hrd⟩ := hrd
  obtain ⟨⟨q0, q1, q2, q3⟩, -⟩ := four_blk hrd.blk
  have hlr := hrd.lt
  have CE := ended_any W4 rb r2 0 hR4
  clear hrd hR4 q0 q1 q3
  by_cases h0 : r2.ws.length = 0
  · rw [decide_eq_true h0] at CE
    have hov : overE r2 = r2.err := by unfold overE; rw [if_pos h0]
    have HE := Lib.hid CE
    clear CE
    by_cases hr : r2.err = 0
    · have tn : ((r2.err : Int) != 0) = false := by simp [hr]
      have HFL := Lib.hid (show full = (act, 0) by rw [HP'.out, hov, if_pos hr])
      clear hov hr h0
      go_wp2_with (go_at_call 52; (refine HE.out.mono ?_); rintro e w5 ⟨rfl, rfl⟩)
      refine bodyPost_ret (results_cell_two (p := 4) (u := 5) (v := .int .i64 0) rfl _ _ w.heap.size 56 _ (0, 0) _ rfl (put9_at HY4.out.res cc) Tryz.underlying56 rfl (by kernel_rfl) rfl) rfl ?_
      rw [HFL.out]
      exact AofP.some HY4.out HV4.out rfl
    · have tn : ((r2.err : Int) != 0) = true := by simp; omega
      have HFL := Lib.hid (show full = (.zero, r2.err) by rw [HP'.out, hov, if_neg hr])
      clear hov hr h0
      go_upto_region 10 with (go_at_call 52; (refine HE.out.mono ?_); rintro e w5 ⟨rfl, rfl⟩)
      obtain ⟨D0, hD0⟩ : ∃ D0, D0 = W4.drew := ⟨_, rfl⟩
      have hdn : D0.heap[w.heap.size + 1]? = some (.cells #[.int .i64 0, .int .i64 0, .string ⟨#[]⟩, .string ⟨#[]⟩, .slice none 0 0, .slice none 0 0, .slice none 0 0, .bool false, .slice none 0 0] 56 (0, 0)) := by rw [hD0]; exact HY4.out.nul
      have hdr : D0.heap[w.heap.size]? = some (.cells #[.int .i64 0, .int .i64 0, .string ⟨#[]⟩, .string ⟨#[]⟩, .slice none 0 0, .slice none 0 0, .slice none 0 0, .bool false, .slice none 0 0] 56 (0, 0)) := by rw [hD0]; exact HY4.out.res
      have hdl : rb < D0.heap.size := by rw [hD0]; exact hlr
      have hdq : D0.cell? ⟨rb, 2, none⟩ = some (.int .i64 r2.err) := by rw [hD0]; exact q2
      have hdy : LayT w D0 := by rw [hD0]; exact HY4.out.drew
      refine wp_region_by (QJ (fun (_ : Unit) qq => match qq with | 0 => .agg #[.int .i64 0, .int .i64 0, .string ⟨#[]⟩, .string ⟨#[]⟩, .slice none 0 0, .slice none 0 0, .slice none 0 0, .bool false, .slice none 0 0] | 1 => .pointer (some ⟨rb, 0, none⟩) | 2 => .pointer (some ⟨rb, 2, none⟩) | 3 => .int .i64 r2.err | 5 => .int .i64 r2.err | _ => undef) (fun _ listed v => v = (if listed.getD 4 false = true then D0.setRow w.heap.size z9 else D0))) (by kernel_rfl) ?_ ?_ ?_
      · exact ⟨by simp, Closed.start _, (), Fr.start _ _ _, by rw [rep_getDL, if_neg (by decide)]; exact hD0.symm⟩
      · intro listed b v q hJ hi
        obtain ⟨hsz, hC, x, hF, hM⟩ := hJ
        obtain ⟨hl1, hiN⟩ := not_up hsz hi
        obtain ⟨_, o, ho, hdeps⟩ := mem_ready.1 hi
        have hiN : q < 6 := hiN
        obtain rfl | rfl | rfl | rfl | rfl | rfl : q = 0 ∨ q = 1 ∨ q = 2 ∨ q = 3 ∨ q = 4 ∨ q = 5 := by omega
        · cases ho
          have l4 : listed.getD 4 false = false := by
            cases hh : listed.getD 4 false
            · rfl
            · have y0 := hC 4 _ rfl hh ⟨0, .data⟩ (by simp) rfl; rw [hl1] at y0; cases y0
          have hv : v = D0 := by have h := hM; rw [l4, if_neg (by decide)] at h; exact h
          have hdnv : v.heap[w.heap.size + 1]? = some (.cells #[.int .i64 0, .int .i64 0, .string ⟨#[]⟩, .string ⟨#[]⟩, .slice none 0 0, .slice none 0 0, .slice none 0 0, .bool false, .slice none 0 0] 56 (0, 0)) := by rw [hv]; exact hdn
          obtain ⟨⟨z0, z1, z2, z3, z4, z5, z6, z7, z8⟩, -⟩ := nine_blk hdnv
          clear hv hdnv
          have e6 := hF.old_is 6 (by rfl) rfl
          refine QJ.quiet (x := x) hsz hC hi hF (Slots.of (by rfl)) rfl (wanted_none rfl) (show v = (if (listed.setIfInBounds 0 true).getD 4 false = true then D0.setRow w.heap.size z9 else D0) by rw [getD_setN (show 0 ≠ 4 by decide)]; exact hM) ?_
          show _ = Result.ok (Next.value (.agg #[.int .i64 0, .int .i64 0, .string ⟨#[]⟩, .string ⟨#[]⟩, .slice none 0 0, .slice none 0 0, .slice none 0 0, .bool false, .slice none 0 0])) v
          simp [execOp, go_sem, e6, z0, z1, z2, z3, z4, z5, z6, z7, z8]
        · cases ho
          have e9 := hF.old_is 9 (by rfl) rfl
          refine QJ.quiet (x := x) hsz hC hi hF (Slots.of (by rfl)) rfl (wanted_none rfl) (show v = (if (listed.setIfInBounds 1 true).getD 4 false = true then D0.setRow w.heap.size z9 else D0) by rw [getD_setN (show 1 ≠ 4 by decide)]; exact hM) ?_
          show _ = Result.ok (Next.value (.pointer (some ⟨rb, 0, none⟩))) v
          simp [execOp, go_sem, e9]
        · cases ho
          have e35 : b.tmps[35]? = some (.pointer (some ⟨rb, 0, none⟩)) := hF.up 1 35 rfl (hdeps ⟨1, .data⟩ (by simp) rfl)
          refine QJ.quiet (x := x) hsz hC hi hF (Slots.of (by rfl)) rfl (wanted_none rfl) (show v = (if (listed.setIfInBounds 2 true).getD 4 false = true then D0.setRow w.heap.size z9 else D0) by rw [getD_setN (show 2 ≠ 4 by decide)]; exact hM) ?_
          show _ = Result.ok (Next.value (.pointer (some ⟨rb, 2, none⟩))) v
          simp [execOp, go_sem, e35]
        · cases ho
          have n1 : v.cell? ⟨rb, 2, none⟩ = some (.int .i64 r2.err) := by
            have hm : v = (if listed.getD 4 false = true then D0.setRow w.heap.size z9 else D0) := hM
            rw [hm]; split
            · exact ((setRow_only D0 w.heap.size z9).cell hdl (by omega)).trans hdq
            · exact hdq
          have e36 : b.tmps[36]? = some (.pointer (some ⟨rb, 2, none⟩)) := hF.up 2 36 rfl (hdeps ⟨2, .data⟩ (by simp) rfl)
          refine QJ.quiet (x := x) hsz hC hi hF (Slots.of (by rfl)) rfl (wanted_none rfl) (show v = (if (listed.setIfInBounds 3 true).getD 4 false = true then D0.setRow w.heap.size z9 else D0) by rw [getD_setN (show 3 ≠ 4 by decide)]; exact hM) ?_
          show _ = Result.ok (Next.value (.int .i64 r2.err)) v
          simp [execOp, go_sem, e36, n1]
        · cases ho
          have hv : v = D0 := by have h : v = (if listed.getD 4 false = true then D0.setRow w.heap.size z9 else D0) := hM; rw [hl1, if_neg (by decide)] at h; exact h
          have e4 := hF.old_is 4 (by rfl) rfl
          have e34 : b.tmps[34]? = some (.agg #[.int .i64 0, .int .i64 0, .string ⟨#[]⟩, .string ⟨#[]⟩, .slice none 0 0, .slice none 0 0, .slice none 0 0, .bool false, .slice none 0 0]) := hF.up 0 34 rfl (hdeps ⟨0, .data⟩ (by simp) rfl)
          refine QJ.store (v' := D0.setRow w.heap.size z9) (x := x) hsz hC hi hF (Slots.of (by rfl)) rfl rfl (wanted_none rfl) (show D0.setRow w.heap.size z9 = (if (listed.setIfInBounds 4 true).getD 4 false = true then D0.setRow w.heap.size z9 else D0) by rw [getD_setS (by rw [hsz]; decide), if_pos rfl]) ?_
          rw [hv]
          exact exec_store_row (ρ := b.eval) 56 (.tmp 4) (.tmp 34) rfl w.heap.size z9 (by simp [Act.eval, e4]) (by simp [Act.eval, e34]; rfl) 56 _ hdr (by kernel_rfl) rfl (by kernel_rfl)
        · cases ho
          have e37 : b.tmps[37]? = some (.int .i64 r2.err) := hF.up 3 37 rfl (hdeps ⟨3, .data⟩ (by simp) rfl)
          refine QJ.quiet (x := x) hsz hC hi hF (Slots.of (by rfl)) rfl (wanted_none rfl) (show v = (if (listed.setIfInBounds 5 true).getD 4 false = true then D0.setRow w.heap.size z9 else D0) by rw [getD_setN (show 5 ≠ 4 by decide)]; exact hM) ?_
          show _ = Result.ok (Next.value (.int .i64 r2.err)) v
          simp [execOp, go_sem, e37]
      intro listed b W8 hJ hr'
      obtain ⟨hsz, hC, xx, hF, hM⟩ := hJ
      have hall := all_upB2 (by rfl) hsz hr'
      have hb : b = putAll _ _ _ 6 := hF.done (Slots.of (by rfl)) hall
      subst hb
      rw [hall 4 (by decide), if_pos rfl] at hM
      subst W8
      simp only [putAll]
      simp [dstOf, Act.put]
      clear hF hC hall hr' hsz
      go_wp2
      refine bodyPost_ret (results_cell_two (p := 4) (u := 5) (v := .int .i64 r2.err) rfl _ _ w.heap.size 56 _ (0, 0) _ rfl (setRow_at hdr z9) Tryz.underlying56 rfl (by kernel_rfl) rfl) rfl ?_
      rw [HFL.out]
      exact AofP.none9 hdy r2.err
  · rw [decide_eq_false h0] at CE
    have hov : overE r2 = (r2.fail 12).err := by unfold overE R.fail; rw [if_neg h0]
    have hne : (r2.fail 12).err ≠ 0 := fail_err r2 12 (by decide)
    have hfl : full = (.zero, (r2.fail 12).err) := by rw [HP'.out, hov, if_neg hne]
    have CF := fun w' (h' : RdE w' rb r2 0) => fail_any w' rb r2 0 h' 12
    generalize r2.fail 12 = r3 at *
    have tn : ((r3.err : Int) != 0) = true := by simp; omega
    have HE := Lib.hid CE; have HF := Lib.hid CF; have HFL := Lib.hid hfl
    clear CE CF hfl hov hne h0 q2 u0 u1 u2 u3 u4 u5 u6 u7 u8 p0 p1 p2 p3 p4 p5 p6 p7 p8 f0 f1 f2 f3 f4 f5 f6 f7 f8 n0 n1 n2 n3 n4 n5 n6 n7 n8
    go_upto_region 10 with (first
      | (go_at_call 52; (refine HE.out.mono ?_); rintro e w5 ⟨rfl, rfl⟩)
      | (go_at_call 53; (refine (HF.out W4 HR4.out).mono ?_); rintro e w5 ⟨rfl, h5, o5⟩; obtain ⟨a5, c5, hrd5⟩ := h5; obtain ⟨⟨q0, q1, q2, q3⟩, -⟩ := four_blk hrd5.blk; have hl5 := hrd5.lt; have Y5 := Lib.hid (HY4.out.keep o5 hrb2); clear q0 q1 q3 hrd5 o5))
    obtain ⟨D0, hD0⟩ : ∃ D0, D0 = w5.drew := ⟨_, rfl⟩
    have hdn : D0.heap[w.heap.size + 1]? = some (.cells #[.int .i64 0, .int .i64 0, .string ⟨#[]⟩, .string ⟨#[]⟩, .slice none 0 0, .slice none 0 0, .slice none 0 0, .bool false, .slice none 0 0] 56 (0, 0)) := by rw [hD0]; exact Y5.out.nul
    have hdr : D0.heap[w.heap.size]? = some (.cells #[.int .i64 0, .int .i64 0, .string ⟨#[]⟩, .string ⟨#[]⟩, .slice none 0 0, .slice none 0 0, .slice none 0 0, .bool false, .slice none 0 0] 56 (0, 0)) := by rw [hD0]; exact Y5.out.res
    have hdl : rb < D0.heap.size := by rw [hD0]; exact hl5
    have hdq : D0.cell? ⟨rb, 2, none⟩ = some (.int .i64 r3.err) := by rw [hD0]; exact q2
    have hdy : LayT w D0 := by rw [hD0]; exact Y5.out.drew
    refine wp_region_by (QJ (fun (_ : Unit) qq => match qq with | 0 => .agg #[.int .i64 0, .int .i64 0, .string ⟨#[]⟩, .string ⟨#[]⟩, .slice none 0 0, .slice none 0 0, .slice none 0 0, .bool false, .slice none 0 0] | 1 => .pointer (some ⟨rb, 0, none⟩) | 2 => .pointer (some ⟨rb, 2, none⟩) | 3 => .int .i64 r3.err | 5 => .int .i64 r3.err | _ => undef) (fun _ listed v => v = (if listed.getD 4 false = true then D0.setRow w.heap.size z9 else D0))) (by kernel_rfl) ?_ ?_ ?_
    · exact ⟨by simp, Closed.start _, (), Fr.start _ _ _, by rw [rep_getDL, if_neg (by decide)]; exact hD0.symm⟩
    · intro listed b v q hJ hi
      obtain ⟨hsz, hC, x, hF, hM⟩ := hJ
      obtain ⟨hl1, hiN⟩ := not_up hsz hi
      obtain ⟨_, o, ho, hdeps⟩ := mem_ready.1 hi
      have hiN : q < 6 := hiN
      obtain rfl | rfl | rfl | rfl | rfl | rfl : q = 0 ∨ q = 1 ∨ q = 2 ∨ q = 3 ∨ q = 4 ∨ q = 5 := by omega
      · cases ho
        have l4 : listed.getD 4 false = false := by
          cases hh : listed.getD 4 false
          · rfl
          · have y0 := hC 4 _ rfl hh ⟨0, .data⟩ (by simp) rfl; rw [hl1] at y0; cases y0
        have hv : v = D0 := by have h := hM; rw [l4, if_neg (by decide)] at h; exact h
        have hdnv : v.heap[w.heap.size + 1]? = some (.cells #[.int .i64 0, .int .i64 0, .string ⟨#[]⟩, .string ⟨#[]⟩, .slice none 0 0, .slice none 0 0, .slice none 0 0, .bool false, .slice none 0 0] 56 (0, 0)) := by rw [hv]; exact hdn
        obtain ⟨⟨z0, z1, z2, z3, z4, z5, z6, z7, z8⟩, -⟩ := nine_blk hdnv
        clear hv hdnv
        have e6 := hF.old_is 6 (by rfl) rfl
        refine QJ.quiet (x := x) hsz hC hi hF (Slots.of (by rfl)) rfl (wanted_none rfl) (show v = (if (listed.setIfInBounds 0 true).getD 4 false = true then D0.setRow w.heap.size z9 else D0) by rw [getD_setN (show 0 ≠ 4 by decide)]; exact hM) ?_
        show _ = Result.ok (Next.value (.agg #[.int .i64 0, .int .i64 0, .string ⟨#[]⟩, .string ⟨#[]⟩, .slice none 0 0, .slice none 0 0, .slice none 0 0, .bool false, .slice none 0 0])) v
        simp [execOp, go_sem, e6, z0, z1, z2, z3, z4, z5, z6, z7, z8]
      · cases ho
        have e9 := hF.old_is 9 (by rfl) rfl
        refine QJ.quiet (x := x) hsz hC hi hF (Slots.of (by rfl)) rfl (wanted_none rfl) (show v = (if (listed.setIfInBounds 1 true).getD 4 false = true then D0.setRow w.heap.size z9 else D0) by rw [getD_setN (show 1 ≠ 4 by decide)]; exact hM) ?_
        show _ = Result.ok (Next.value (.pointer (some ⟨rb, 0, none⟩))) v
        simp [execOp, go_sem, e9]
      · cases ho
        have e35 : b.tmps[35]? = some (.pointer (some ⟨rb, 0, none⟩)) := hF.up 1 35 rfl (hdeps ⟨1, .data⟩ (by simp) rfl)
        refine QJ.quiet (x := x) hsz hC hi hF (Slots.of (by rfl)) rfl (wanted_none rfl) (show v = (if (listed.setIfInBounds 2 true).getD 4 false = true then D0.setRow w.heap.size z9 else D0) by rw [getD_setN (show 2 ≠ 4 by decide)]; exact hM) ?_
        show _ = Result.ok (Next.value (.pointer (some ⟨rb, 2, none⟩))) v
        simp [execOp, go_sem, e35]
      · cases ho
        have n1 : v.cell? ⟨rb, 2, none⟩ = some (.int .i64 r3.err) := by
          have hm : v = (if listed.getD 4 false = true then D0.setRow w.heap.size z9 else D0) := hM
          rw [hm]; split
          · exact ((setRow_only D0 w.heap.size z9).cell hdl (by omega)).trans hdq
          · exact hdq
        have e36 : b.tmps[36]? = some (.pointer (some ⟨rb, 2, none⟩)) := hF.up 2 36 rfl (hdeps ⟨2, .data⟩ (by simp) rfl)
        refine QJ.quiet (x := x) hsz hC hi hF (Slots.of (by rfl)) rfl (wanted_none rfl) (show v = (if (listed.setIfInBounds 3 true).getD 4 false = true then D0.setRow w.heap.size z9 else D0) by rw [getD_setN (show 3 ≠ 4 by decide)]; exact hM) ?_
        show _ = Result.ok (Next.value (.int .i64 r3.err)) v
        simp [execOp, go_sem, e36, n1]
      · cases ho
        have hv : v = D0 := by have h : v = (if listed.getD 4 false = true then D0.setRow w.heap.size z9 else D0) := hM; rw [hl1, if_neg (by decide)] at h; exact h
        have e4 := hF.old_is 4 (by rfl) rfl
        have e34 : b.tmps[34]? = some (.agg #[.int .i64 0, .int .i64 0, .string ⟨#[]⟩, .string ⟨#[]⟩, .slice none 0 0, .slice none 0 0, .slice none 0 0, .bool false, .slice none 0 0]) := hF.up 0 34 rfl (hdeps ⟨0, .data⟩ (by simp) rfl)
        refine QJ.store (v' := D0.setRow w.heap.size z9) (x := x) hsz hC hi hF (Slots.of (by rfl)) rfl rfl (wanted_none rfl) (show D0.setRow w.heap.size z9 = (if (listed.setIfInBounds 4 true).getD 4 false = true then D0.setRow w.heap.size z9 else D0) by rw [getD_setS (by rw [hsz]; decide), if_pos rfl]) ?_
        rw [hv]
        exact exec_store_row (ρ := b.eval) 56 (.tmp 4) (.tmp 34) rfl w.heap.size z9 (by simp [Act.eval, e4]) (by simp [Act.eval, e34]; rfl) 56 _ hdr (by kernel_rfl) rfl (by kernel_rfl)
      · cases ho
        have e37 : b.tmps[37]? = some (.int .i64 r3.err) := hF.up 3 37 rfl (hdeps ⟨3, .data⟩ (by simp) rfl)
        refine QJ.quiet (x := x) hsz hC hi hF (Slots.of (by rfl)) rfl (wanted_none rfl) (show v = (if (listed.setIfInBounds 5 true).getD 4 false = true then D0.setRow w.heap.size z9 else D0) by rw [getD_setN (show 5 ≠ 4 by decide)]; exact hM) ?_
        show _ = Result.ok (Next.value (.int .i64 r3.err)) v
        simp [execOp, go_sem, e37]
    intro listed b W8 hJ hr'
    obtain ⟨hsz, hC, xx, hF, hM⟩ := hJ
    have hall := all_upB2 (by rfl) hsz hr'
    have hb : b = putAll _ _ _ 6 := hF.done (Slots.of (by rfl)) hall
    subst hb
    rw [hall 4 (by decide), if_pos rfl] at hM
    subst W8
    simp only [putAll]
    simp [dstOf, Act.put]
    clear hF hC hall hr' hsz
    go_wp2
    refine bodyPost_ret (results_cell_two (p := 4) (u := 5) (v := .int .i64 r3.err) rfl _ _ w.heap.size 56 _ (0, 0) _ rfl (setRow_at hdr z9) Tryz.underlying56 rfl (by kernel_rfl) rfl) rfl ?_
    rw [HFL.out]
    exact AofP.none9 hdy r3.err
/-- actionOf. -/
theorem all_node (s : ByteArray) (w : World) (hs : s.size ≤ maxLen) (hL : Lean w) :
    Calls Tryz.prog 106 #[.string s, .func (.func 107) #[] #[]] w (AofP w (actionL s.data.toList)) := by
  by_cases he : (toks s.data.toList).1 = 0
  · exact aln_in s w hs hL he
  · exact aln_bad s w hs hL he
set_option maxHeartbeats 4000000 in
theorem actionOf_any (s : ByteArray) (w : World) (hs : s.size ≤ maxLen) (hL : Lean w) : Calls Tryz.prog 67 #[.string s] w (AofP w (actionL s.data.toList)) := by
  obtain ⟨W0, hW0⟩ : ∃ W0, W0 = w.alloc (.cells z9 56) := ⟨_, rfl⟩
  have hb0 : Below w.heap.size w W0 := by rw [hW0]; exact (Below.refl _ _).alloc (Nat.le_refl _) _
  have hr0 : W0.heap[w.heap.size]? = some (.cells z9 56 (0, 0)) := by rw [hW0]; exact heap_alloc_new w _
  have hz0 : W0.heap.size = w.heap.size + 1 := by rw [hW0]; simp
  have C := all_node s W0 hs (hL.below hb0)
  generalize actionL s.data.toList = x at *
  obtain ⟨act, er⟩ := x
  have HC := Lib.hid C; have HW0 := Lib.hid hW0; have HB0 := Lib.hid hb0; have HR0 := Lib.hid hr0; clear C hL hW0 hb0 hr0
  unfold z9 at HW0
  go_enter Tryz.func67, Tryz.ntmps67
  go_upto_region 1 with fail
  rw [← HW0.out]
  go_wp2_with (go_at_call 106; (refine HC.out.mono ?_); rintro e w1 ⟨c, rfl, b1, hv⟩; have hr1 := (b1.block _ (by omega)).trans HR0.out; have hl1 := (Array.getElem?_eq_some_iff.1 hr1).1; unfold z9 at hr1; obtain ⟨⟨q0, q1, q2, q3, q4, q5, q6, q7, q8⟩, ⟨f0, f1, f2, f3, f4, f5, f6, f7, f8⟩⟩ := nine_blk hr1; have B1 := Lib.hid (HB0.out.trans (b1.mono (by omega))); have HV := Lib.hid hv; have HR1 := Lib.hid hr1; unfold C9.val; clear b1 hv hr1)
  refine bodyPost_ret (results_cell_two (p := 2) (u := 3) (v := .int .i64 er) rfl _ _ w.heap.size 56 _ (0, 0) _ rfl (put9_at HR1.out c) Tryz.underlying56 rfl (by kernel_rfl) rfl) rfl ?_
  have ho := put9_only w1 w.heap.size c
  exact ⟨c, rfl, B1.out.trans (ho.below (Nat.le_refl _) B1.out.size), HV.out.keep (Span.in (by omega) ho.size) (fun g hg => ho.block g hg.2 (fun e => by have := hg.1; cases e; omega))⟩
end Tr
end Go.Proofs.YtlfbcaenlifmkaaGreatDoor
