/- schema: what it reads, in memory. -/
import Derived.Test.YtnnnjonodnkccaaGreatDoorSSch
namespace Go.Proofs.YtnnnjonodnkccaaGreatDoor
open Go.RowKit
namespace Sh
open Sc

/-- Named types, functions, in memory. -/
def NamV (w : World) (S : Nat → Prop) (l : List (List UInt8 × Ty)) (a : Option Addr) : Prop :=
  ∃ us : List NE, (us.map fun y => (y.1, y.2.2)) = l ∧ Cells w S a (us.flatMap encN) ∧ ∀ y ∈ us, TyV w S y.2.2 y.2.1
def SgsV (w : World) (S : Nat → Prop) (l : List (List UInt8 × Sig)) (a : Option Addr) : Prop :=
  ∃ us : List SE, (us.map fun y => (y.1, y.2.2)) = l ∧ Cells w S a (us.flatMap encS) ∧ ∀ y ∈ us, SigV w S y.2.2 y.2.1
/-- A schema in memory. -/
def SchV (w : World) (S : Nat → Prop) (s : Sch) (c : C4) (a1 : Option Addr) (n1 : Nat) (a2 : Option Addr) (n2 : Nat) : Prop :=
  TyV w S s.main c ∧ n1 = s.types.length ∧ NamV w S s.types a1 ∧ n2 = s.sigs.length ∧ SgsV w S s.sigs a2
theorem SchV.keep {w w' : World} {S S' : Nat → Prop} {s : Sch} {c : C4} {a1 a2 : Option Addr} {n1 n2 : Nat} (h : SchV w S s c a1 n1 a2 n2) (hS : ∀ g, S g → S' g) (hk : ∀ g, S g → w'.heap[g]? = w.heap[g]?) : SchV w' S' s c a1 n1 a2 n2 := by
  obtain ⟨h1, h2, ⟨us, u1, u2, u3⟩, h4, ⟨vs, v1, v2, v3⟩⟩ := h
  exact ⟨h1.keep hS hk, h2, ⟨us, u1, u2.keep hS hk, fun y hy => (u3 y hy).keep hS hk⟩, h4, ⟨vs, v1, v2.keep hS hk, fun y hy => (v3 y hy).keep hS hk⟩⟩
theorem SchV.zero (w : World) (S : Nat → Prop) : SchV w S ⟨.zero, [], []⟩ .zero none 0 none 0 := ⟨TyV.zero _ _, rfl, ⟨[], rfl, .inl rfl, fun _ h => by cases h⟩, rfl, ⟨[], rfl, .inl rfl, fun _ h => by cases h⟩⟩

/-- What schema leaves: the reader's state; the schema in memory, where no name stands twice. -/
def SchPV (w : World) (rb : Nat) (x : Sch × R) (e : Ending) (w' : World) : Prop :=
  ∃ (c : C4) (a1 : Option Addr) (n1 c1 : Nat) (a2 : Option Addr) (n2 c2 : Nat), e = .returned (.agg #[.int .i64 c.k, .string c.n, .slice c.an c.ln c.cn, .slice c.ak c.lk c.ck, .slice a1 n1 c1, .slice a2 n2 c2]) ∧ RdE w' rb x.2 ∧ Only rb w w' ∧
    (dup (x.1.types.map (·.1)) = false → dup (x.1.sigs.map (·.1)) = false → SchV w' (Span w.heap.size w'.heap.size) x.1 c a1 n1 a2 n2)

theorem sch_fin {w w1 w2 w3 wr w5 w6 w' : World} {rb b1 b0 : Nat} {tm : Ty} {c : C4} {a1 a2 : Option Addr} {c1 c2 : Nat} {l1 l1' : List NE} {l2 l2' : List SE}
    (hm : TyV w2 (Span w1.heap.size w2.heap.size) tm c) (h23 : ∀ g, w1.heap.size ≤ g → g < w2.heap.size → w3.heap[g]? = w2.heap[g]?)
    (sm : SM w3 wr rb b1 (.slice a1 l1.length c1) l1 (.slice a2 l2.length c2) l2) (k5 : But rb (Value.slice a1 l1.length c1).ownBlock wr w5) (hp1 : l1'.Perm l1) (hr1 : Rises l1') (own1 : w5.ownsRow w3.heap.size 59 5 (.slice a1 l1.length c1) l1.length (l1'.flatMap encN))
    (k6 : But rb (Value.slice a2 l2.length c2).ownBlock w5 w6) (hp2 : l2'.Perm l2) (hr2 : Rises l2') (own2 : w6.ownsRow w3.heap.size 61 6 (.slice a2 l2.length c2) l2.length (l2'.flatMap encS))
    (o7 : Only b0 w6 w') (h12 : w1.heap.size ≤ w2.heap.size) (hw : w.heap.size ≤ w1.heap.size) (hrb : rb < w1.heap.size) (hb1 : b1 < w1.heap.size) (hb0 : b0 < w1.heap.size) (h3 : w2.heap.size ≤ w3.heap.size)
    (hd1 : dup ((isort (l1.map fun y => (y.1, y.2.2))).map (·.1)) = false) (hd2 : dup ((isort (l2.map fun y => (y.1, y.2.2))).map (·.1)) = false) :
    SchV w' (Span w.heap.size w'.heap.size) ⟨tm, isort (l1.map fun y => (y.1, y.2.2)), isort (l2.map fun y => (y.1, y.2.2))⟩ c a1 l1.length a2 l2.length := by
  have s3 := sm.only.size; have s5 := k5.size; have s6 := k6.size; have s7 := o7.size
  have lt1 := sm.ty.lt; have lt2 := sm.fn.lt
  obtain ⟨S, f1, f2, f3, f4, f5⟩ := sm.far
  rw [dup_perm ((isort_perm _).map (·.1))] at hd1 hd2
  have q1 := isort_uniq (l1.map fun y => (y.1, y.2.2)) (l1'.map fun y => (y.1, y.2.2)) hd1 (hp1.map _) (by unfold Rises at hr1 ⊢; rw [List.pairwise_map]; exact hr1)
  have q2 := isort_uniq (l2.map fun y => (y.1, y.2.2)) (l2'.map fun y => (y.1, y.2.2)) hd2 (hp2.map _) (by unfold Rises at hr2 ⊢; rw [List.pairwise_map]; exact hr2)
  · have kS : ∀ g, S g → w'.heap[g]? = wr.heap[g]? := fun g hg => by
      have h1 := (f1 g hg).1; have h2 := (f1 g hg).2
      rw [o7.block g (by omega) (fun e => by cases e; omega), k6.block g (by omega) (by omega) (fun e => f3 g e.symm hg), k5.block g h2 (by omega) (fun e => f2 g e.symm hg)]
    have inS : ∀ g, S g → Span w.heap.size w'.heap.size g := fun g hg => ⟨by have := (f1 g hg).1; omega, by have := (f1 g hg).2; omega⟩
    have ow1 : w'.ownsRow w3.heap.size 59 5 (.slice a1 l1.length c1) l1.length (l1'.flatMap encN) := own_same own1 fun g e => by
      have h1 := (lt1 g e).1; have h2 := (lt1 g e).2
      rw [o7.block g (by omega) (fun e => by cases e; omega), k6.block g (by omega) (by omega) (fun e' => sm.apart g e e'.symm)]
    have ow2 : w'.ownsRow w3.heap.size 61 6 (.slice a2 l2.length c2) l2.length (l2'.flatMap encS) := own_same own2 fun g e => by
      have h1 := (lt2 g e).1; have h2 := (lt2 g e).2
      rw [o7.block g (by omega) (fun e => by cases e; omega)]
    refine ⟨?_, ?_, ⟨l1', q1, own_cells ow1 (fun g h1 h2 => ⟨by omega, h2⟩), fun y hy => (f4 y (hp1.mem_iff.1 hy)).keep inS kS⟩, ?_, ⟨l2', q2, own_cells ow2 (fun g h1 h2 => ⟨by omega, h2⟩), fun y hy => (f5 y (hp2.mem_iff.1 hy)).keep inS kS⟩⟩
    · refine hm.keep (Span.in hw (by omega)) fun g hg => ?_
      have h1 := hg.1; have h2 := hg.2
      have n1' : ∀ {v : Value}, v.ownBlock = some g → (∀ k, v.ownBlock = some k → w3.heap.size ≤ k ∧ k < wr.heap.size) → False := fun e hl => by have := (hl g e).1; omega
      rw [o7.block g (by omega) (fun e => by cases e; omega), k6.block g (by omega) (by omega) (fun e => n1' e.symm lt2), k5.block g (by omega) (by omega) (fun e => n1' e.symm lt1),
        sm.only.block g (by omega) (by omega) (fun e => by have := Option.some.inj e; omega), h23 g h1 h2]
    · show _ = (isort _).length
      rw [(isort_perm _).length_eq, List.length_map]
    · show _ = (isort _).length
      rw [(isort_perm _).length_eq, List.length_map]

set_option maxRecDepth 100000 in
set_option maxHeartbeats 8000000 in
theorem schemaV_any (w : World) (rb : Nat) (r : R) (h : RdE w rb r) (hL : LookTab w) (hg : 0 ≠ rb) (hw : r.words.length ≤ 900) :
    Calls Tryz.prog 21 #[.pointer (some ⟨rb, 0, none⟩)] w (SchPV w rb (schemaR r)) := by
  have hrb := h.lt
  have hgl := hL.lt
  have hb0 : Below w.heap.size w ((w.alloc (.cells #[.int .i64 0, .string ⟨#[]⟩, .slice none 0 0, .slice none 0 0, .slice none 0 0, .slice none 0 0] 36)).alloc (.cells #[.int .i64 0, .string ⟨#[]⟩, .slice none 0 0, .slice none 0 0, .slice none 0 0, .slice none 0 0] 36)) := ((Below.refl _ _).alloc (Nat.le_refl _) _).alloc (by simp) _
  obtain ⟨r0, r1⟩ := two_new w (.cells #[.int .i64 0, .string ⟨#[]⟩, .slice none 0 0, .slice none 0 0, .slice none 0 0, .slice none 0 0] 36) (.cells #[.int .i64 0, .string ⟨#[]⟩, .slice none 0 0, .slice none 0 0, .slice none 0 0, .slice none 0 0] 36)
  have CN : Calls Tryz.prog 30 #[.pointer (some ⟨rb, 0, none⟩), .int .i64 1, .string ⟨#[100, 97, 116, 97]⟩] _ _ := need_any _ rb r (h.keep hb0) 1 [100, 97, 116, 97]
  have hl1 := need_le r 1 [100, 97, 116, 97]
  have hm : mainR r = ((outer (r.need 1 [100, 97, 116, 97])).1, (outer (r.need 1 [100, 97, 116, 97])).2.need 4 [59]) := rfl
  have hl2 := outer_le (r.need 1 [100, 97, 116, 97])
  have hl3 := need_le (outer (r.need 1 [100, 97, 116, 97])).2 4 [59]
  have HN := Lib.hid CN; have HL := Lib.hid (hL.below hb0); have HO := Lib.hid (Only.of_below hb0 : Only rb w _); have R0 := Lib.hid r0; have R1 := Lib.hid r1; have HM := Lib.hid hm
  clear CN hb0 r0 r1 hm h hL
  generalize r.need 1 [100, 97, 116, 97] = ra at *
  obtain ⟨tm, rm, hou⟩ : ∃ t r', outer ra = (t, r') := ⟨_, _, rfl⟩
  rw [hou] at hl2 hl3
  have HOU := Lib.hid hou; clear hou
  simp only at hl2 hl3
  obtain ⟨full, hfull⟩ : ∃ full, schGo ((rm.need 4 [59]).words.length + 1) (rm.need 4 [59]) [] [] = full := ⟨_, rfl⟩
  have hsr : (schemaR r).2 = (full.2.both (dup (full.1.1.map (·.1)))).both (dup (full.1.2.map (·.1))) := by
    unfold schemaR
    rw [HM.out, HOU.out]
    simp only
    rw [hfull]
  have hsr1 : (schemaR r).1 = ⟨tm, isort full.1.1, isort full.1.2⟩ := by
    unfold schemaR
    rw [HM.out, HOU.out]
    simp only
    rw [hfull]
  have HF := Lib.hid hfull; have HSR := Lib.hid hsr; have HSR1 := Lib.hid hsr1
  clear hfull hsr hsr1
  go_enter Tryz.func21, Tryz.ntmps21
  go_wp2_with (first
    | (go_at_call 30; (with_reducible refine HN.out.mono ?_); rintro e w1 ⟨rfl, h1, o1⟩; have O1 := Lib.hid (HO.out.trans o1); have hs1 := (HO.out.trans o1).size; have hs1b := o1.size; simp at hs1b; have B0 := Lib.hid (o1.blk R0.out (by omega)); have B1 := Lib.hid (o1.blk R1.out (by omega)); have L1 := Lib.hid (HL.out.only o1 hg); have T1 := Lib.hid (outer_any w1 rb ra h1 L1.out hg (by omega)); rw [HOU.out] at T1; clear o1 h1)
    | (go_at_call 19; (refine T1.out.mono ?_); rintro e w2 ⟨c, rfl, h2, o2, hv⟩; obtain ⟨kd, nm2, an, ln, cn, ak, lk, ck⟩ := c; have O2 := Lib.hid (O1.out.trans o2); have HV2 := Lib.hid hv; have hs2 := o2.size; have C0 := Lib.hid (o2.blk B0.out (by omega)); have C1 := Lib.hid (o2.blk B1.out (by omega)); have L2 := Lib.hid (L1.out.only o2 hg); obtain ⟨⟨q0, q1, q2, q3, q4, q5⟩, ⟨z0, z1, z2, z3, z4, z5⟩, hlt⟩ := six_blk C1.out; have S2 := Lib.hid (((((Only.refl (w.heap.size + 1) w2).setCell 0 (.int .i64 kd)).setCell 1 (.string nm2)).setCell 2 (.slice an ln cn)).setCell 3 (.slice ak lk ck)); have N2 : Hid (Calls Tryz.prog 30 #[.pointer (some ⟨rb, 0, none⟩), .int .i64 4, .string ⟨#[59]⟩] _ _) := need_any _ rb rm (h2.row S2.out (fun k e => by cases e; omega)) 4 [59]; clear o2 h2 hv; simp only [C4.val])
    | (go_at_call 30; (with_reducible refine N2.out.mono ?_); rintro e w3 ⟨rfl, h3, o3⟩; have O3 := Lib.hid ((O2.out.own S2.out (by omega)).trans o3); have D0 := Lib.hid (o3.blk (S2.out.blk C0.out (by omega)) (by omega)); have D1 := Lib.hid (o3.blk (six_main C1.out _ _ _ _) (by omega)); have L3 := Lib.hid ((L2.out.only S2.out (by omega)).only o3 hg); have H3 := Lib.hid h3; have X3 := Lib.hid o3; clear o3 h3))
  have hb1 := (Array.getElem?_eq_some_iff.1 D1.out).1
  clear q0 q1 q2 q3 q4 q5 z0 z1 z2 z3 z4 z5
  go_loopg [11] ((rm.need 4 [59]).words.length) (fun gk _ wr => ∃ v1 l1 v2 l2 r', ScRel w3 rb w.heap.size ⟨kd, nm2, an, ln, cn, ak, lk, ck⟩ full gk wr v1 l1 v2 l2 r')
  case atStart => exact ⟨.slice none 0 0, [], .slice none 0 0, [], rm.need 4 [59], SM.start w3 rb _, D1.out, H3.out, rfl, by simp only [List.length_nil]; omega, HF.out⟩
  case round =>
    obtain ⟨v1, l1, v2, l2, r', hsm, hbk, hR, hgk, hlen, hgo⟩ := hrel
    obtain ⟨a1, c1, rfl⟩ := own_slice hsm.ty
    obtain ⟨a2, c2, rfl⟩ := own_slice hsm.fn
    obtain ⟨⟨q0, q1, q2, q3, q4, q5⟩, ⟨z0, z1, z2, z3, z4, z5⟩, hlt⟩ := six_blk hbk
    obtain ⟨ra', rc', hRd⟩ := hR
    obtain ⟨⟨x0, x1, x2⟩, y0, y1, y2⟩ := three_blk hRd.blk
    have HSM := Lib.hid hsm; have HBK := Lib.hid hbk; have HRD := Lib.hid (⟨ra', rc', hRd⟩ : RdE wr rb r'); have HGO := Lib.hid hgo; have HGK := Lib.hid hgk
    clear hsm hbk hRd hgo hgk
    have hwl := HSM.out.only.size
    have hLr : LookTab wr := by
      obtain ⟨t, fr, hl⟩ := L3.out
      exact ⟨t, fr, (HSM.out.only.block _ (by have := L3.out.lt; exact this) hg (by intro e; cases e; try omega)).trans hl⟩
    have HLR := Lib.hid hLr; clear hLr
    by_cases h0 : r'.words.length = 0
    · have hgo := HGO.out
      rw [schGo, if_pos h0] at hgo
      have HG0 := Lib.hid hgo
      clear hgo HGO
      have h0z : (r'.words.length : Int) = 0 := by omega
      have ef1 : ∀ args w, (callFunc 35 args).run Tryz.prog w = .ok (.enter 35 args) w := enters_of Tryz.func35 (by kernel_rfl) rfl
      have ef2 : ∀ args w, (callFunc 37 args).run Tryz.prog w = .ok (.enter 37 args) w := enters_of Tryz.func37 (by kernel_rfl) rfl
      have F0 := Lib.hid ((HSM.out.only.block w.heap.size (by omega) (by omega) (fun e => by have := Option.some.inj e; omega)).trans D0.out)
      have NS := Lib.hid (sortNamesN 35 ef1 key_schema1 wr rb r' HRD.out w3.heap.size (by omega) hwl (.slice a1 l1.length c1) l1 HSM.out.ty (by omega))
      have lt1 := HSM.out.ty.lt
      have lt2 := HSM.out.fn.lt
      have LT1 := Lib.hid lt1; have LT2 := Lib.hid lt2
      clear lt1 lt2 ef1
      have EF2 := Lib.hid ef2; clear ef2
      go_wp2_with (first
        | (go_at_call 34; (refine NS.out.mono ?_); rintro e w5 ⟨rfl, l1', hp1, hr1, hown1, hR5, hbut1⟩; have B5 := Lib.hid hbut1; have HP1 := Lib.hid hp1; have HR1 := Lib.hid hr1; have OW1 := Lib.hid hown1; have hw5 := hbut1.size; have G1 := Lib.hid ((hbut1.block (w.heap.size + 1) (by omega) (by omega) (fun e => by have := (LT1.out _ e.symm).1; omega)).trans HBK.out); have G0 := Lib.hid ((hbut1.block w.heap.size (by omega) (by omega) (fun e => by have := (LT1.out _ e.symm).1; omega)).trans F0.out); have NS2 := Lib.hid (sortNamesS 37 EF2.out key_schema2 w5 rb _ hR5 w3.heap.size (by omega) (by omega) (.slice a2 l2.length c2) l2 (own_same HSM.out.fn (fun g e => hbut1.block g (LT2.out g e).2 (by have := (LT2.out g e).1; omega) (fun e' => HSM.out.apart g e'.symm e))) (by omega)); clear hp1 hr1 hown1 hR5 hbut1 q0 q1 q2 q3 q4 q5 z0 z1 z2 z3 z4 z5 hlt x0 x1 x2 y0 y1 y2; obtain ⟨⟨q0, q1, q2, q3, q4, q5⟩, ⟨z0, z1, z2, z3, z4, z5⟩, hlt⟩ := six_blk G1.out)
        | (go_at_call 36; (refine NS2.out.mono ?_); rintro e w6 ⟨rfl, l2', hp2, hr2, hown2, hR6, hbut2⟩; have B6 := Lib.hid hbut2; have HP2 := Lib.hid hp2; have HR2 := Lib.hid hr2; have OW2 := Lib.hid hown2; have hw6 := hbut2.size; have I1 := Lib.hid ((hbut2.block (w.heap.size + 1) (by omega) (by omega) (fun e => by have := (LT2.out _ e.symm).1; omega)).trans G1.out); have I0 := Lib.hid ((hbut2.block w.heap.size (by omega) (by omega) (fun e => by have := (LT2.out _ e.symm).1; omega)).trans G0.out); have R6 := Lib.hid hR6; clear hp2 hr2 hown2 hR6 hbut2 q0 q1 q2 q3 q4 q5 z0 z1 z2 z3 z4 z5 hlt; obtain ⟨⟨q0, q1, q2, q3, q4, q5⟩, ⟨z0, z1, z2, z3, z4, z5⟩, hlt⟩ := six_blk I1.out; obtain ⟨⟨p0, p1, p2, p3, p4, p5⟩, ⟨y0, y1, y2, y3, y4, y5⟩, hlt0⟩ := six_blk I0.out))
      refine bodyPost_ret (v := .agg #[.int .i64 kd, .string nm2, .slice an ln cn, .slice ak lk ck, .slice a1 l1.length c1, .slice a2 l2.length c2]) (by simp [results, Tryz.results21, go_sem, p0, p1, p2, p3, p4, p5, hlt0]) rfl ?_
      have o7 := (((((((Only.refl w.heap.size w6).setCell 0 (.int .i64 kd)).setCell 1 (.string nm2)).setCell 2 (.slice an ln cn)).setCell 3 (.slice ak lk ck)).setCell 4 (.slice a1 l1.length c1)).setCell 5 (.slice a2 l2.length c2))
      have o4 : Only rb w wr := HSM.out.only.only O3.out (fun k e => by have := Option.some.inj e; omega)
      have o5 : Only rb w w5 := B5.out.only o4 (fun k e => by have := (LT1.out k e).1; omega)
      have o6 : Only rb w w6 := B6.out.only o5 (fun k e => by have := (LT2.out k e).1; omega)
      have e1 : ((l1.map fun y => (y.1, y.2.2)).map (·.1)) = l1.map (·.1) := by rw [List.map_map]; rfl
      have e2 : ((l2.map fun y => (y.1, y.2.2)).map (·.1)) = l2.map (·.1) := by rw [List.map_map]; rfl
      refine ⟨⟨kd, nm2, an, ln, cn, ak, lk, ck⟩, a1, l1.length, c1, a2, l2.length, c2, rfl, ?_, o6.own o7 (Nat.le_refl _), ?_⟩
      · rw [HSR.out, ← HG0.out]
        simp only
        rw [e1, e2]
        exact R6.out.row o7 (fun k e => by cases e; omega)
      · rw [HSR1.out, ← HG0.out]
        refine sch_fin (w1 := w1) HV2.out (fun g h1 h2 => ?_) HSM.out B5.out HP1.out HR1.out OW1.out B6.out HP2.out HR2.out OW2.out o7 hs2 (by omega) (by omega) (by omega) (by omega) (by have := X3.out.size; have := S2.out.size; omega)
        rw [X3.out.block g (by have := S2.out.size; omega) (fun e => by cases e; omega), S2.out.block g h2 (fun e => by cases e; omega)]
    · have h0z : (0 : Int) < (r'.words.length : Int) := by omega
      have hgo := HGO.out
      rw [schGo, if_neg h0] at hgo
      cases hb : r'.isAt 1 [116, 121, 112, 101]
      · rw [hb, if_neg (by decide)] at hgo
        have hn := sigR_lt r' (by omega)
        have hn2 := need_le (sigR r').2 4 [59]
        have TY : Hid (Calls Tryz.prog 31 #[.pointer (some ⟨rb, 0, none⟩), .int .i64 1, .string ⟨#[116, 121, 112, 101]⟩] wr (Post wr rb r' (.bool false))) := by
          have h := take_any wr rb r' HRD.out 1 [116, 121, 112, 101]
          rw [hb, show r'.take 1 [116, 121, 112, 101] = r' from by unfold R.take; rw [hb]; rfl] at h
          exact h
        have hgo2 : schGo (((sigR r').2.need 4 [59]).words.length + 1) ((sigR r').2.need 4 [59]) (l1.map fun y => (y.1, y.2.2)) ((l2.map fun y => (y.1, y.2.2)) ++ [(sigR r').1]) = full := by
          rw [← hgo]; exact (schGo_more _ _ _ _ _ (by omega) (by omega)).symm
        have HG2 := Lib.hid hgo2
        clear hgo hgo2 hb HGO
        generalize hx : sigR r' = x at *
        have HXX := Lib.hid hx; clear hx
        obtain ⟨xp, xr⟩ := x
        obtain ⟨i0, hi, hz0', hz1', hz2'⟩ := info_parts infoSg
        go_wp2_with (go_at_call 31; (with_reducible refine TY.out.mono ?_); rintro e w4 ⟨rfl, h4, o4⟩; have SM4 := Lib.hid (HSM.out.keep o4 (.inl rfl) (by omega) hb1); have E1 := Lib.hid (o4.blk HBK.out (by omega)); clear q0 q1 q2 q3 q4 q5 z0 z1 z2 z3 z4 z5 hlt x0 x1 x2 y0 y1 y2; obtain ⟨⟨q0, q1, q2, q3, q4, q5⟩, ⟨z0, z1, z2, z3, z4, z5⟩, hlt⟩ := six_blk E1.out; have N4 := Lib.hid (function_any w4.drew rb r' (h4.keep (Below.drew (Below.refl _ _))) ((HLR.out.only o4 hg).below (Below.drew (Below.refl _ _))) hg (by omega)); rw [HXX.out] at N4; have O4 := Lib.hid o4; have hw4 := o4.size; clear h4 o4)
        have qd : w4.drew.cell? ⟨w.heap.size + 1, 5, none⟩ = some (.slice a2 l2.length c2) := q5
        go_region_law (first
          | (go_simp; go_at_call 33; (refine N4.out.mono ?_); rintro e w5 ⟨y, rfl, h5, o5, hy, hv⟩; have O5 := Lib.hid ((Only.of_below ((Below.refl _ _).drew) : Only rb w4 w4.drew).trans o5); have SM5 := Lib.hid (SM4.out.keep O5.out (.inl rfl) (by omega) hb1); have E5 := Lib.hid (O5.out.blk E1.out (by omega)); have H5 := Lib.hid h5; have HY := Lib.hid hy; have HV := Lib.hid hv; have hw5 := O5.out.size; clear h5 o5 hy hv qd q0 q1 q2 q3 q4 q5 z0 z1 z2 z3 z4 z5 hlt; obtain ⟨⟨q0, q1, q2, q3, q4, q5⟩, ⟨z0, z1, z2, z3, z4, z5⟩, hlt⟩ := six_blk E5.out; obtain ⟨n5, ⟨ap5, lp5, cp5, ⟨kd5, nm5, an5, ln5, cn5, ak5, lk5, ck5⟩⟩, tt5⟩ := y; simp only [encS, C4.cells, str])
          | ((refine step_append_lies _ (by rfl) _ _ 34 (by rfl) w3.heap.size 61 i0 (.agg #[.string ⟨#[]⟩, .slice none 0 0, .int .i64 0, .string ⟨#[]⟩, .slice none 0 0, .slice none 0 0]) 6 112 Tryz.underlying34 hi hz0' hz1' hz2' rfl (by decide) (.slice a2 l2.length c2) l2.length (l2.flatMap encS) (by rfl) (SM5.out.fn.alloc _) ⟨w5.heap.size, 0, none⟩ 1 1 [.string ⟨n5.toArray⟩, .slice ap5 lp5 cp5, .int .i64 kd5, .string nm5, .slice an5 ln5 cn5, .slice ak5 lk5 ck5] (by rfl) (by rfl) (cells_new _ _ _) (fun x hx => by simp at hx; rcases hx with rfl | rfl | rfl | rfl | rfl | rfl <;> rfl) (by decide) (by unfold maxLen; omega) (by omega) (by simp; omega) (w5.heap.size + 1) (by simp) ?_); intro g cap w6 hown hgrow hat hlt6; have HOW := Lib.hid hown; have HGR := Lib.hid hgrow; have HAT := Lib.hid hat; have hgs := hgrow.size; simp at hgs; have E6 := Lib.hid ((hgrow.block (w.heap.size + 1) (by simp; omega) (fun e => by have := (SM5.out.fn.lt _ e.symm).1; omega)).trans ((Below.heap_alloc _ _ _ (by omega)).trans E5.out)); clear q0 q1 q2 q3 q4 q5 z0 z1 z2 z3 z4 z5 hlt; obtain ⟨⟨q0, q1, q2, q3, q4, q5⟩, ⟨z0, z1, z2, z3, z4, z5⟩, hlt⟩ := six_blk E6.out; clear hown hgrow hat))
        all_goals
          have SM6 := SM.growS (y := (n5, ⟨ap5, lp5, cp5, ⟨kd5, nm5, an5, ln5, cn5, ak5, lk5, ck5⟩⟩, tt5)) SM4.out O5.out (by omega) hb1 HV.out HOW.out HGR.out (fun k e => by obtain rfl : g = k := Option.some.inj e; rcases HAT.out with e | e; exact .inl e; exact .inr (by simp; omega))
          have S7 := (Only.refl (w.heap.size + 1) w6).setCell 5 (.slice (some ⟨g, 0, none⟩) (l2.length + 1) cap)
          have SM7 := Lib.hid (SM6.keep S7 (.inr rfl) (by omega) hb1)
          have E7 := Lib.hid (six_set5 E6.out (.slice (some ⟨g, 0, none⟩) (l2.length + 1) cap))
          have RD6 : RdE w6 rb xr := (H5.out.keep ((Below.refl _ _).alloc (Nat.le_refl _) _)).row HGR.out (fun k e => by have := (SM5.out.fn.lt k e).1; omega)
          have N7 := Lib.hid (need_any _ rb xr (RD6.row S7 (fun k e => by cases e; omega)) 4 [59])
          clear S7 SM6 RD6
          go_wp2_with (go_at_call 30; (refine N7.out.mono ?_); rintro e w7 ⟨rfl, h7, o7⟩)
          have SM8 := SM7.out.keep o7 (.inl rfl) (by omega) hb1
          have E8 := o7.blk E7.out (by omega)
          have hn : xr.words.length < r'.words.length := hn
          have hn2 : (xr.need 4 [59]).words.length ≤ xr.words.length := hn2
          go_roundg (xr.need 4 [59]).words.length
          case rel =>
            refine ⟨.slice a1 l1.length c1, l1, .slice (some ⟨g, 0, none⟩) (l2.length + 1) cap, l2 ++ [(n5, ⟨ap5, lp5, cp5, ⟨kd5, nm5, an5, ln5, cn5, ak5, lk5, ck5⟩⟩, tt5)], xr.need 4 [59], SM8, E8, h7, rfl, by simp; omega, ?_⟩
            have e : _ = xp := HY.out
            have hg2 := HG2.out
            rw [List.map_append]
            rw [← e] at hg2
            exact hg2
          case measure => have := HGK.out; omega
      · rw [hb, if_pos rfl] at hgo
        have ht := isAt_tail hb
        have hn := namedR_le r'.tail
        have hn2 := need_le (namedR r'.tail).2 4 [59]
        have TY : Hid (Calls Tryz.prog 31 #[.pointer (some ⟨rb, 0, none⟩), .int .i64 1, .string ⟨#[116, 121, 112, 101]⟩] wr (Post wr rb r'.tail (.bool true))) := take_yes wr rb r' HRD.out 1 [116, 121, 112, 101] hb
        have hgo2 : schGo (((namedR r'.tail).2.need 4 [59]).words.length + 1) ((namedR r'.tail).2.need 4 [59]) ((l1.map fun y => (y.1, y.2.2)) ++ [(namedR r'.tail).1]) (l2.map fun y => (y.1, y.2.2)) = full := by
          rw [← hgo]; exact (schGo_more _ _ _ _ _ (by omega) (by omega)).symm
        have HG2 := Lib.hid hgo2
        clear hgo hgo2 hb HGO
        generalize hx : namedR r'.tail = x at *
        have HXX := Lib.hid hx; clear hx
        obtain ⟨xp, xr⟩ := x
        obtain ⟨i0, hi, hz0', hz1', hz2'⟩ := info_parts infoNm
        go_wp2_with (go_at_call 31; (with_reducible refine TY.out.mono ?_); rintro e w4 ⟨rfl, h4, o4⟩; have SM4 := Lib.hid (HSM.out.keep o4 (.inl rfl) (by omega) hb1); have E1 := Lib.hid (o4.blk HBK.out (by omega)); clear q0 q1 q2 q3 q4 q5 z0 z1 z2 z3 z4 z5 hlt x0 x1 x2 y0 y1 y2; obtain ⟨⟨q0, q1, q2, q3, q4, q5⟩, ⟨z0, z1, z2, z3, z4, z5⟩, hlt⟩ := six_blk E1.out; have N4 := Lib.hid (named_any w4.drew rb r'.tail (h4.keep (Below.drew (Below.refl _ _))) ((HLR.out.only o4 hg).below (Below.drew (Below.refl _ _))) hg (by omega)); rw [HXX.out] at N4; have O4 := Lib.hid o4; have hw4 := o4.size; clear h4 o4)
        have qd : w4.drew.cell? ⟨w.heap.size + 1, 4, none⟩ = some (.slice a1 l1.length c1) := q4
        go_region_law (first
          | (go_simp; go_at_call 32; (refine N4.out.mono ?_); rintro e w5 ⟨y, rfl, h5, o5, hy, hv⟩; have O5 := Lib.hid ((Only.of_below ((Below.refl _ _).drew) : Only rb w4 w4.drew).trans o5); have SM5 := Lib.hid (SM4.out.keep O5.out (.inl rfl) (by omega) hb1); have E5 := Lib.hid (O5.out.blk E1.out (by omega)); have H5 := Lib.hid h5; have HY := Lib.hid hy; have HV := Lib.hid hv; have hw5 := O5.out.size; clear h5 o5 hy hv qd q0 q1 q2 q3 q4 q5 z0 z1 z2 z3 z4 z5 hlt; obtain ⟨⟨q0, q1, q2, q3, q4, q5⟩, ⟨z0, z1, z2, z3, z4, z5⟩, hlt⟩ := six_blk E5.out; obtain ⟨n5, ⟨kd5, nm5, an5, ln5, cn5, ak5, lk5, ck5⟩, tt5⟩ := y; simp only [encN, C4.cells, str])
          | ((refine step_append_lies _ (by rfl) _ _ 33 (by rfl) w3.heap.size 59 i0 (.agg #[.string ⟨#[]⟩, .int .i64 0, .string ⟨#[]⟩, .slice none 0 0, .slice none 0 0]) 5 88 Tryz.underlying33 hi hz0' hz1' hz2' rfl (by decide) (.slice a1 l1.length c1) l1.length (l1.flatMap encN) (by rfl) (SM5.out.ty.alloc _) ⟨w5.heap.size, 0, none⟩ 1 1 [.string ⟨n5.toArray⟩, .int .i64 kd5, .string nm5, .slice an5 ln5 cn5, .slice ak5 lk5 ck5] (by rfl) (by rfl) (cells_new _ _ _) (fun x hx => by simp at hx; rcases hx with rfl | rfl | rfl | rfl | rfl <;> rfl) (by decide) (by unfold maxLen; omega) (by omega) (by simp; omega) (w5.heap.size + 1) (by simp) ?_); intro g cap w6 hown hgrow hat hlt6; have HOW := Lib.hid hown; have HGR := Lib.hid hgrow; have HAT := Lib.hid hat; have hgs := hgrow.size; simp at hgs; have E6 := Lib.hid ((hgrow.block (w.heap.size + 1) (by simp; omega) (fun e => by have := (SM5.out.ty.lt _ e.symm).1; omega)).trans ((Below.heap_alloc _ _ _ (by omega)).trans E5.out)); clear q0 q1 q2 q3 q4 q5 z0 z1 z2 z3 z4 z5 hlt; obtain ⟨⟨q0, q1, q2, q3, q4, q5⟩, ⟨z0, z1, z2, z3, z4, z5⟩, hlt⟩ := six_blk E6.out; clear hown hgrow hat))
        all_goals
          have SM6 := SM.growT (y := (n5, ⟨kd5, nm5, an5, ln5, cn5, ak5, lk5, ck5⟩, tt5)) SM4.out O5.out (by omega) hb1 HV.out HOW.out HGR.out (fun k e => by obtain rfl : g = k := Option.some.inj e; rcases HAT.out with e | e; exact .inl e; exact .inr (by simp; omega))
          have S7 := (Only.refl (w.heap.size + 1) w6).setCell 4 (.slice (some ⟨g, 0, none⟩) (l1.length + 1) cap)
          have SM7 := Lib.hid (SM6.keep S7 (.inr rfl) (by omega) hb1)
          have E7 := Lib.hid (six_set4 E6.out (.slice (some ⟨g, 0, none⟩) (l1.length + 1) cap))
          have RD6 : RdE w6 rb xr := (H5.out.keep ((Below.refl _ _).alloc (Nat.le_refl _) _)).row HGR.out (fun k e => by have := (SM5.out.ty.lt k e).1; omega)
          have N7 := Lib.hid (need_any _ rb xr (RD6.row S7 (fun k e => by cases e; omega)) 4 [59])
          clear S7 SM6 RD6
          go_wp2_with (go_at_call 30; (refine N7.out.mono ?_); rintro e w7 ⟨rfl, h7, o7⟩)
          have SM8 := SM7.out.keep o7 (.inl rfl) (by omega) hb1
          have E8 := o7.blk E7.out (by omega)
          have hn : xr.words.length ≤ r'.tail.words.length := hn
          have hn2 : (xr.need 4 [59]).words.length ≤ xr.words.length := hn2
          go_roundg (xr.need 4 [59]).words.length
          case rel =>
            refine ⟨.slice (some ⟨g, 0, none⟩) (l1.length + 1) cap, l1 ++ [(n5, ⟨kd5, nm5, an5, ln5, cn5, ak5, lk5, ck5⟩, tt5)], .slice a2 l2.length c2, l2, xr.need 4 [59], SM8, E8, h7, rfl, by simp; omega, ?_⟩
            have e : _ = xp := HY.out
            have hg2 := HG2.out
            rw [List.map_append]
            rw [← e] at hg2
            exact hg2
          case measure => have := HGK.out; omega
end Sh
end Go.Proofs.YtnnnjonodnkccaaGreatDoor
