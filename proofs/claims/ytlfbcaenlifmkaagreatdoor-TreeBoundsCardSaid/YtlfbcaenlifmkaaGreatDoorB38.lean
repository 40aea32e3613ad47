/- The innermost block is shut. Written by gen_qend.py. -/
import Derived.Test.YtlfbcaenlifmkaaGreatDoorB37
namespace Go.Proofs.YtlfbcaenlifmkaaGreatDoor
open Go.RowKit
namespace Tr
open Sc Sh Sp
theorem Row9.cells {w : World} {base : Nat} {c : Nat → Nat} {q : Nat} {a : Option Addr} {n k : Nat} {l : List (Nd × C9)} (h : Row9 w base c q (.slice a n k) l) : Cells w (fun g => base ≤ g ∧ g < w.heap.size ∧ c g = q) a (l.flatMap enc9) := by
  rcases h.own.2 with ⟨e1, e2⟩ | ⟨g, cap, cur, e1, hbg, hg, hnc, hcm, hcs, htake⟩
  · have e3 : l = [] := List.eq_nil_of_length_eq_zero e2
    subst e3; exact .inl rfl
  · have ha : a = some ⟨g, 0, none⟩ := by injection e1
    refine .inr ⟨g, ha, ⟨hbg, (Array.getElem?_eq_some_iff.1 hg).1, h.col g (by rw [ha]; rfl)⟩, fun j u hu => ?_⟩
    have := h.own.cells (g := g) (by rw [ha]; rfl) j u hu
    rwa [addr_add] at this
theorem ownc_cells {w : World} {base n sz k : Nat} {e : TypeId} {a : Option Addr} {xs : List Value} (_hsz : 0 < sz) (h : w.ownsRow base e sz (.slice a n k) n xs) : Cells w (fun g => base ≤ g ∧ g < w.heap.size ∧ (Value.slice a n k).ownBlock = some g) a xs := by
  rcases h.2 with ⟨e1, e2⟩ | ⟨g, cap, cur, e1, hbg, hg, hnc, hcm, hcs, htake⟩
  · have := h.1; rw [e2, Nat.zero_mul] at this; exact .inl (List.eq_nil_of_length_eq_zero this)
  · have ha : a = some ⟨g, 0, none⟩ := by injection e1
    refine .inr ⟨g, ha, ⟨hbg, (Array.getElem?_eq_some_iff.1 hg).1, by rw [ha]; rfl⟩, fun j u hu => ?_⟩
    have := h.cells (g := g) (by rw [ha]; rfl) j u hu
    rwa [addr_add] at this
/-- An open node that is shut: nothing writes what it has any more. -/
theorem OpnV.shut {w : World} {base : Nat} {c : Nat → Nat} {i : Nat} {d : Nd} {x : C9} (h : OpnV w base c i d x) : NdV w (fun g => base ≤ g ∧ g < w.heap.size ∧ (c g = 0 ∨ (5 * i + 3 ≤ c g ∧ c g ≤ 5 * i + 6))) d x := by
  have hz : ∀ g, Fz base w c g → (base ≤ g ∧ g < w.heap.size ∧ (c g = 0 ∨ (5 * i + 3 ≤ c g ∧ c g ≤ 5 * i + 6))) := fun g hg => ⟨hg.1, hg.2.1, .inl hg.2.2⟩
  have hq : ∀ q, 5 * i + 3 ≤ q → q ≤ 5 * i + 6 → ∀ g, (base ≤ g ∧ g < w.heap.size ∧ c g = q) → (base ≤ g ∧ g < w.heap.size ∧ (c g = 0 ∨ (5 * i + 3 ≤ c g ∧ c g ≤ 5 * i + 6))) := fun q h1 h2 g hg => ⟨hg.1, hg.2.1, .inr ⟨by omega, by omega⟩⟩
  obtain ⟨us, p1, p2⟩ := h.pipe
  obtain ⟨bs, b1, b2, b3⟩ := h.body
  obtain ⟨es, e1, e2, e3⟩ := h.els
  obtain ⟨cs, c1, c2, c3, c4, c5, c6⟩ := h.cases
  have hcs : ∀ u ∈ cs, Cells w (fun g => base ≤ g ∧ g < w.heap.size ∧ (c g = 0 ∨ (5 * i + 3 ≤ c g ∧ c g ≤ 5 * i + 6))) u.a (u.l.flatMap enc9) ∧ ∀ y ∈ u.l, NdV w (fun g => base ≤ g ∧ g < w.heap.size ∧ (c g = 0 ∨ (5 * i + 3 ≤ c g ∧ c g ≤ 5 * i + 6))) y.1 y.2 := by
    intro u hu
    by_cases hd : u ∈ cs.dropLast
    · exact ⟨(c5 u hd).1.keep hz (fun _ _ => rfl), fun y hy => ((c5 u hd).2 y hy).keep hz (fun _ _ => rfl)⟩
    · have hl : cs.getLast? = some u := by
        rcases List.eq_nil_or_concat cs with rfl | ⟨cs', v, hcc⟩
        · cases hu
        · rw [List.concat_eq_append] at hcc
          subst hcc
          rw [List.dropLast_concat] at hd
          rw [List.getLast?_concat]
          rcases List.mem_append.1 hu with hu | hu
          · exact absurd hu hd
          · rw [List.mem_singleton.1 hu]
      have h6 := c6 u hl
      exact ⟨h6.cells.keep (hq _ (by omega) (by omega)) (fun _ _ => rfl), fun y hy => (h6.el y hy).keep hz (fun _ _ => rfl)⟩
  exact .mk d x h.hk h.ht h.hs h.hn h.hh us (p1.keep hz (fun _ _ => rfl)) p2 bs b1 b2 (b3.cells.keep (hq _ (by omega) (by omega)) (fun _ _ => rfl)) (fun y hy => (b3.el y hy).keep hz (fun _ _ => rfl))
    es e1 e2 (e3.cells.keep (hq _ (by omega) (by omega)) (fun _ _ => rfl)) (fun y hy => (e3.el y hy).keep hz (fun _ _ => rfl)) cs c1 c2
    ((ownc_cells (by decide) (show w.ownsRow base 59 2 (.slice x.ca cs.length x.cc) cs.length (cs.flatMap CsU.cells) from c2 ▸ c3)).keep (fun g hg => hq (5 * i + 5) (by omega) (by omega) g ⟨hg.1, hg.2.1, c4 g (by rw [c2]; exact hg.2.2)⟩) (fun _ _ => rfl)) (fun u hu => (hcs u hu).1) (fun u hu => (hcs u hu).2)
section
variable {w w' : World} {base bb : Nat} {b : B} {c : Nat → Nat} {oa oc : Nat} {ys : List (Nd × C9)} {x : C9} {da : Option Addr} {dc : Nat} {ds : List TpU}
/-- The innermost is taken away. -/
theorem BV.pop (h : BV w base bb b c oa oc ys x da dc ds) {d : Nd} {l : List Nd} (hb : b.outer = d :: l) (hw : w' = w.setCell ⟨bb, 0, none⟩ (.slice (some ⟨oa, 0, none⟩) ys.length oc)) :
    ∃ c' zs x', ys = zs ++ [(d, x')] ∧ BV w' base bb ⟨d, l, b.defined⟩ c' oa oc zs x' da dc ds ∧ NdV w' (Fz base w' c') b.inner x ∧ Below base w w' := by
  have ho : Only bb w w' := by rw [hw]; exact (Only.refl bb w).setCell 0 _
  obtain ⟨zs, z, rfl⟩ : ∃ zs z, ys = zs ++ [z] := by
    rcases List.eq_nil_or_concat ys with rfl | ⟨zs, z, hz⟩
    · have := h.opens; rw [hb] at this; simp at this
    · exact ⟨zs, z, by rw [hz, List.concat_eq_append]⟩
  have hop := h.opens
  rw [hb, List.map_append, List.reverse_cons] at hop
  have hop1 := (List.append_inj' hop rfl).1
  have hop2 : z.1 = d := by have := (List.append_inj' hop rfl).2; simpa using this
  obtain ⟨zd, x'⟩ := z
  simp only at hop2
  subst hop2
  have hlen : (zs ++ [(zd, x')]).length = zs.length + 1 := by simp
  rw [hlen] at hw
  have hz : w'.heap.size = w.heap.size := by rw [hw]; simp
  have hbk : w'.heap[bb]? = some (.cells #[.slice (some ⟨oa, 0, none⟩) (zs.length + 1) oc, .slice da ds.length dc] 97 (0, 0)) := by
    rw [hw]; unfold World.setCell; have := h.blk; rw [hlen] at this; simp [Array.getElem?_modify, this]
  have hkp : Kp base w c w' (fun m => if 5 * (zs.length + 1) + 3 ≤ c m ∧ c m ≤ 5 * (zs.length + 1) + 6 then 0 else c m) (fun q => q ≠ 1 ∧ ¬ (5 * (zs.length + 1) + 3 ≤ q ∧ q ≤ 5 * (zs.length + 1) + 6)) := by
    refine ⟨ho.size, fun g _ hg hq => ⟨ho.block g hg (fun e => hq.1 (by cases e; exact h.bcol)), ?_⟩⟩
    show (if _ then _ else _) = _; rw [if_neg hq.2]
  have q0 : (0 : Nat) ≠ 1 ∧ ¬ (5 * (zs.length + 1) + 3 ≤ 0 ∧ 0 ≤ 5 * (zs.length + 1) + 6) := ⟨by omega, by omega⟩
  have hin := Fz.in hkp q0
  have hsm := Fz.same hkp q0
  have hd := fun m hm => hkp.blk m (h.down.lt m hm).1 (h.down.lt m hm).2 (by rw [h.dcol m hm]; exact ⟨by omega, by omega⟩)
  have hob : oa ≠ bb := fun e => by have := h.ocol; rw [e, h.bcol] at this; omega
  have hnodes := fun i (hi : i < zs.length) => (show OpnV w base c i zs[i].1 zs[i].2 by have := h.nodes i (by rw [hlen]; omega); rwa [List.getElem_append_left hi] at this)
  have hlast : OpnV w base c zs.length zd x' := by have := h.nodes zs.length (by rw [hlen]; omega); rw [List.getElem_append_right (Nat.le_refl _)] at this; simpa using this
  refine ⟨_, zs, x', rfl, ⟨by rw [hz]; exact h.le, hbk, h.bbase, ?_, ?_, ?_, hop1, fun i hi => (hnodes i hi).keep hkp q0 (fun k k1 k2 => ⟨by omega, by omega⟩), ?_, ownsRow_same h.down (fun m hm => (hd m hm).1), fun m hm => by rw [(hd m hm).2]; exact h.dcol m hm, h.dis, fun u hu => (h.dv u hu).keep hin hsm, fun g hg => ?_⟩, ?_, ho.below h.bbase h.le⟩
  · show (if _ then _ else _) = _; rw [if_neg (by rw [h.bcol]; omega)]; exact h.bcol
  · have how : w'.ownsRow base 143 9 (.slice (some ⟨oa, 0, none⟩) (zs.length + 1 + 1) oc) (zs.length + 1 + 1) ((zs ++ [(zd, x')]).flatMap enc9 ++ x.cells) := ownsRow_same (hlen ▸ h.own) (fun g hg => by cases hg; exact ho.blk_same hob h.olt.2)
    have := own_less how (m := zs.length + 1) (by omega) (by omega)
    rw [List.flatMap_append] at this
    rw [show ((zs.flatMap enc9 ++ [(zd, x')].flatMap enc9) ++ x.cells).take ((zs.length + 1) * 9) = zs.flatMap enc9 ++ x'.cells from by
      rw [List.take_append_of_le_length (by rw [List.length_append, enc9_len]; show _ ≤ _ + 9; omega), List.take_of_length_le (by rw [List.length_append, enc9_len]; show _ + 9 ≤ _; omega)]
      show zs.flatMap enc9 ++ (x'.cells ++ []) = _; rw [List.append_nil]] at this
    exact this
  · show (if _ then _ else _) = _; rw [if_neg (by rw [h.ocol]; omega)]; exact h.ocol
  · exact hlast.keep hkp q0 (fun k k1 k2 => ⟨by omega, by omega⟩)
  · show (if _ then _ else _) = _
    rw [h.new g (by omega), if_neg (by omega)]
  · have hl := h.last
    rw [hlen] at hl
    refine hl.shut.keep (fun g hg => ⟨hg.1, by rw [hz]; exact hg.2.1, ?_⟩) (fun g hg => ho.block g hg.2.1 (fun e => ?_))
    · show (if _ then _ else _) = _
      rcases hg.2.2 with h0 | h1
      · rw [h0, if_neg (by omega)]
      · rw [if_pos h1]
    · cases e
      have := hg.2.2
      rw [h.bcol] at this
      omega
end
set_option maxRecDepth 100000 in
set_option maxHeartbeats 8000000 in
theorem end_plain {w : World} {base bb : Nat} {bd : B} {c : Nat → Nat} {oa oc : Nat} {ys : List (Nd × C9)} {xn : C9} {da : Option Addr} {dc : Nat} {ds : List TpU} (h : BV w base bb bd c oa oc ys xn da dc ds) {d : Nd} {l : List Nd} (hb : bd.outer = d :: l) (hk : bd.inner.kind ≠ -4) (hdl : bd.outer.length ≤ 100) (hfw : FewN 2000 d) :
    Calls Tryz.prog 109 #[.pointer (some ⟨bb, 0, none⟩)] w fun e w' => e = .returned (.tuple #[]) ∧ BVE w' base bb bd.close ∧ Below base w w' := by
  have hcl : bd.close = B.putB bd.inner ⟨d, l, bd.defined⟩ := by unfold B.close B.putB; rw [hb]; simp only; rw [if_neg hk]
  have hn : ys.length ≤ 2000 := by have := h.depth; omega
  obtain ⟨⟨c0, -⟩, f0, -⟩ := two_blk h.blk
  have i0 := h.cell 0 (by omega); have i1 := h.cell 1 (by omega); have i2 := h.cell 2 (by omega); have i3 := h.cell 3 (by omega); have i4 := h.cell 4 (by omega); have i5 := h.cell 5 (by omega); have i6 := h.cell 6 (by omega); have i7 := h.cell 7 (by omega); have i8 := h.cell 8 (by omega)
  simp only [C9.cells, List.getElem?_cons_succ, List.getElem?_cons_zero, Nat.add_zero] at i0 i1 i2 i3 i4 i5 i6 i7 i8
  have tk : (xn.k == -4) = false := by rw [h.last.hk]; simp [hk]
  have CI := inner_cell w bb oa ys.length oc hn c0
  have HCI := Lib.hid CI; have HBV := Lib.hid h; have HCL := Lib.hid hcl; have HFW := Lib.hid hfw; have HOB := Lib.hid hb
  clear CI hcl hfw hb
  go_enter Tryz.func109, Tryz.ntmps109
  go_upto_region 1 with (go_at_call 68; (refine HCI.out.mono ?_); rintro e w1 ⟨rfl, rfl⟩)
  obtain ⟨W1, hW1⟩ : ∃ W1, W1 = (w.alloc (.cells #[.int .i64 xn.k, .int .i64 xn.at_, .string xn.s, .string xn.name, .slice xn.pa xn.pl xn.pc, .slice xn.ba xn.bl xn.bc, .slice xn.ea xn.el xn.ec, .bool xn.h, .slice xn.ca xn.cl xn.cc] 56)).drew := ⟨_, rfl⟩
  have hb1 : Below w.heap.size w W1 := by rw [hW1]; exact ((Below.refl w.heap.size w).alloc (Nat.le_refl _) _).drew
  have hx1 : W1.heap[w.heap.size]? = some (.cells #[.int .i64 xn.k, .int .i64 xn.at_, .string xn.s, .string xn.name, .slice xn.pa xn.pl xn.pc, .slice xn.ba xn.bl xn.bc, .slice xn.ea xn.el xn.ec, .bool xn.h, .slice xn.ca xn.cl xn.cc] 56 (0, 0)) := by rw [hW1]; exact heap_alloc_new w _
  rw [← hW1]
  clear hW1
  obtain ⟨D1, hD1⟩ : ∃ D1, D1 = W1.drew := ⟨_, rfl⟩
  have hbd : Below w.heap.size w D1 := by rw [hD1]; exact hb1.drew
  have hxd : D1.heap[w.heap.size]? = some (.cells #[.int .i64 xn.k, .int .i64 xn.at_, .string xn.s, .string xn.name, .slice xn.pa xn.pl xn.pc, .slice xn.ba xn.bl xn.bc, .slice xn.ea xn.el xn.ec, .bool xn.h, .slice xn.ca xn.cl xn.cc] 56 (0, 0)) := by rw [hD1]; exact hx1
  have hvd := HBV.out.below hbd
  obtain ⟨⟨d0, -⟩, df0, -⟩ := two_blk hvd.blk
  have hsl1 : (0 : Int) ≤ (ys.length : Int) := by omega
  obtain ⟨bx, hbx⟩ : ∃ bx, bx = w.heap.size := ⟨_, rfl⟩
  rw [← hbx] at hxd hx1 ⊢
  have HBE := Lib.hid hbx; clear hbx
  have hcapL := own_cap HBV.out.own
  have hsl2 : (ys.length : Int) ≤ (oc : Int) := by omega
  refine wp_region_by (QJ (fun (_ : Unit) qq => match qq with | 0 => .pointer (some ⟨bb, 0, none⟩) | 1 => .pointer (some ⟨bb, 0, none⟩) | 2 => .pointer (some ⟨bb, 0, none⟩) | 3 => .pointer (some ⟨bb, 0, none⟩) | 4 => .slice (some ⟨oa, 0, none⟩) (ys.length + 1) oc | 5 => .pointer (some ⟨bb, 0, none⟩) | 6 => .int .i64 ys.length | 7 => .slice (some ⟨oa, 0, none⟩) ys.length oc | 8 => .pointer (some ⟨bb, 0, none⟩) | 9 => .pointer (some ⟨bb, 0, none⟩) | _ => undef) (fun _ listed v => v = if listed.getD 10 false = true then D1.setCell ⟨bb, 0, none⟩ (.slice (some ⟨oa, 0, none⟩) ys.length oc) else D1)) (by kernel_rfl) ?_ ?_ ?_
  · exact ⟨by simp, Closed.start _, (), Fr.start _ _ _, by rw [rep_getDL, if_neg (by decide)]; exact hD1.symm⟩
  · intro listed b v q hJ hi
    obtain ⟨hsz, hC, x, hF, hM⟩ := hJ
    obtain ⟨hl1, hiN⟩ := not_up hsz hi
    obtain ⟨_, o, ho, hdeps⟩ := mem_ready.1 hi
    have hiN : q < 11 := hiN
    obtain rfl | rfl | rfl | rfl | rfl | rfl | rfl | rfl | rfl | rfl | rfl : q = 0 ∨ q = 1 ∨ q = 2 ∨ q = 3 ∨ q = 4 ∨ q = 5 ∨ q = 6 ∨ q = 7 ∨ q = 8 ∨ q = 9 ∨ q = 10 := by omega
    · cases ho
      have e0 := hF.old_is 0 (by rfl) rfl
      refine QJ.quiet (x := x) hsz hC hi hF (Slots.of (by rfl)) rfl (wanted_none rfl) (show (v = if (listed.setIfInBounds 0 true).getD 10 false = true then D1.setCell ⟨bb, 0, none⟩ (.slice (some ⟨oa, 0, none⟩) ys.length oc) else D1) by rw [getD_setN (show 0 ≠ 10 by decide)]; exact hM) ?_
      show _ = Result.ok (Next.value (.pointer (some ⟨bb, 0, none⟩))) v
      simp [execOp, go_sem, e0]
    · cases ho
      have e0 := hF.old_is 0 (by rfl) rfl
      refine QJ.quiet (x := x) hsz hC hi hF (Slots.of (by rfl)) rfl (wanted_none rfl) (show (v = if (listed.setIfInBounds 1 true).getD 10 false = true then D1.setCell ⟨bb, 0, none⟩ (.slice (some ⟨oa, 0, none⟩) ys.length oc) else D1) by rw [getD_setN (show 1 ≠ 10 by decide)]; exact hM) ?_
      show _ = Result.ok (Next.value (.pointer (some ⟨bb, 0, none⟩))) v
      simp [execOp, go_sem, e0]
    · cases ho
      have e9 : b.tmps[9]? = some (.pointer (some ⟨bb, 0, none⟩)) := hF.up 1 9 rfl (hdeps ⟨1, .data⟩ (by simp) rfl)
      refine QJ.quiet (x := x) hsz hC hi hF (Slots.of (by rfl)) rfl (wanted_none rfl) (show (v = if (listed.setIfInBounds 2 true).getD 10 false = true then D1.setCell ⟨bb, 0, none⟩ (.slice (some ⟨oa, 0, none⟩) ys.length oc) else D1) by rw [getD_setN (show 2 ≠ 10 by decide)]; exact hM) ?_
      show _ = Result.ok (Next.value (.pointer (some ⟨bb, 0, none⟩))) v
      simp [execOp, go_sem, e9]
    · cases ho
      have e10 : b.tmps[10]? = some (.pointer (some ⟨bb, 0, none⟩)) := hF.up 2 10 rfl (hdeps ⟨2, .data⟩ (by simp) rfl)
      refine QJ.quiet (x := x) hsz hC hi hF (Slots.of (by rfl)) rfl (wanted_none rfl) (show (v = if (listed.setIfInBounds 3 true).getD 10 false = true then D1.setCell ⟨bb, 0, none⟩ (.slice (some ⟨oa, 0, none⟩) ys.length oc) else D1) by rw [getD_setN (show 3 ≠ 10 by decide)]; exact hM) ?_
      show _ = Result.ok (Next.value (.pointer (some ⟨bb, 0, none⟩))) v
      simp [execOp, go_sem, e10]
    · cases ho
      have l10 : listed.getD 10 false = false := by
        cases hh : listed.getD 10 false
        · rfl
        · have y0 := hC 10 _ rfl hh ⟨4, .phase⟩ (by simp) rfl; rw [hl1] at y0; cases y0
      have hv : v = D1 := by have h : v = (if listed.getD 10 false = true then D1.setCell ⟨bb, 0, none⟩ (.slice (some ⟨oa, 0, none⟩) ys.length oc) else D1) := hM; rw [l10, if_neg (by decide)] at h; exact h
      have k0 : v.cell? ⟨bb, 0, none⟩ = some (.slice (some ⟨oa, 0, none⟩) (ys.length + 1) oc) := by rw [hv]; exact d0
      have e11 : b.tmps[11]? = some (.pointer (some ⟨bb, 0, none⟩)) := hF.up 3 11 rfl (hdeps ⟨3, .data⟩ (by simp) rfl)
      refine QJ.quiet (x := x) hsz hC hi hF (Slots.of (by rfl)) rfl (wanted_none rfl) (show (v = if (listed.setIfInBounds 4 true).getD 10 false = true then D1.setCell ⟨bb, 0, none⟩ (.slice (some ⟨oa, 0, none⟩) ys.length oc) else D1) by rw [getD_setN (show 4 ≠ 10 by decide)]; exact hM) ?_
      show _ = Result.ok (Next.value (.slice (some ⟨oa, 0, none⟩) (ys.length + 1) oc)) v
      simp [execOp, go_sem, e11, k0]
    · cases ho
      have e0 := hF.old_is 0 (by rfl) rfl
      refine QJ.quiet (x := x) hsz hC hi hF (Slots.of (by rfl)) rfl (wanted_none rfl) (show (v = if (listed.setIfInBounds 5 true).getD 10 false = true then D1.setCell ⟨bb, 0, none⟩ (.slice (some ⟨oa, 0, none⟩) ys.length oc) else D1) by rw [getD_setN (show 5 ≠ 10 by decide)]; exact hM) ?_
      show _ = Result.ok (Next.value (.pointer (some ⟨bb, 0, none⟩))) v
      simp [execOp, go_sem, e0]
    · cases ho
      have l10 : listed.getD 10 false = false := by
        cases hh : listed.getD 10 false
        · rfl
        · have y0 := hC 10 _ rfl hh ⟨6, .chain⟩ (by simp) rfl; rw [hl1] at y0; cases y0
      have hv : v = D1 := by have h : v = (if listed.getD 10 false = true then D1.setCell ⟨bb, 0, none⟩ (.slice (some ⟨oa, 0, none⟩) ys.length oc) else D1) := hM; rw [l10, if_neg (by decide)] at h; exact h
      have k0 : v.cell? ⟨bb, 0, none⟩ = some (.slice (some ⟨oa, 0, none⟩) (ys.length + 1) oc) := by rw [hv]; exact d0
      have e13 : b.tmps[13]? = some (.pointer (some ⟨bb, 0, none⟩)) := hF.up 5 13 rfl (hdeps ⟨5, .data⟩ (by simp) rfl)
      refine QJ.call (x := x) (f := 42) (args := #[.pointer (some ⟨bb, 0, none⟩)]) hsz hC hi hF (Slots.of (by rfl)) rfl (wanted_none rfl) (by simp [execOp, go_sem, e13]) (depth_cell v bb oa ys.length oc hn k0) ?_
      rintro e w' ⟨rfl, hw⟩
      exact ⟨(), rfl, fun _ _ => rfl, (show (w' = if (listed.setIfInBounds 6 true).getD 10 false = true then D1.setCell ⟨bb, 0, none⟩ (.slice (some ⟨oa, 0, none⟩) ys.length oc) else D1) by rw [getD_setN (show 6 ≠ 10 by decide), ← hw]; exact hM)⟩
    · cases ho
      have e12 : b.tmps[12]? = some (.slice (some ⟨oa, 0, none⟩) (ys.length + 1) oc) := hF.up 4 12 rfl (hdeps ⟨4, .data⟩ (by simp) rfl)
      have e14 : b.tmps[14]? = some (.int .i64 ys.length) := hF.up 6 14 rfl (hdeps ⟨6, .data⟩ (by simp) rfl)
      refine QJ.quiet (x := x) hsz hC hi hF (Slots.of (by rfl)) rfl (wanted_none rfl) (show (v = if (listed.setIfInBounds 7 true).getD 10 false = true then D1.setCell ⟨bb, 0, none⟩ (.slice (some ⟨oa, 0, none⟩) ys.length oc) else D1) by rw [getD_setN (show 7 ≠ 10 by decide)]; exact hM) ?_
      show _ = Result.ok (Next.value (.slice (some ⟨oa, 0, none⟩) ys.length oc)) v
      simp [execOp, go_sem, e12, e14, hsl1, hsl2]
    · cases ho
      have e8 : b.tmps[8]? = some (.pointer (some ⟨bb, 0, none⟩)) := hF.up 0 8 rfl (hdeps ⟨0, .data⟩ (by simp) rfl)
      refine QJ.quiet (x := x) hsz hC hi hF (Slots.of (by rfl)) rfl (wanted_none rfl) (show (v = if (listed.setIfInBounds 8 true).getD 10 false = true then D1.setCell ⟨bb, 0, none⟩ (.slice (some ⟨oa, 0, none⟩) ys.length oc) else D1) by rw [getD_setN (show 8 ≠ 10 by decide)]; exact hM) ?_
      show _ = Result.ok (Next.value (.pointer (some ⟨bb, 0, none⟩))) v
      simp [execOp, go_sem, e8]
    · cases ho
      have e16 : b.tmps[16]? = some (.pointer (some ⟨bb, 0, none⟩)) := hF.up 8 16 rfl (hdeps ⟨8, .data⟩ (by simp) rfl)
      refine QJ.quiet (x := x) hsz hC hi hF (Slots.of (by rfl)) rfl (wanted_none rfl) (show (v = if (listed.setIfInBounds 9 true).getD 10 false = true then D1.setCell ⟨bb, 0, none⟩ (.slice (some ⟨oa, 0, none⟩) ys.length oc) else D1) by rw [getD_setN (show 9 ≠ 10 by decide)]; exact hM) ?_
      show _ = Result.ok (Next.value (.pointer (some ⟨bb, 0, none⟩))) v
      simp [execOp, go_sem, e16]
    · cases ho
      have hv : v = D1 := by have h : v = (if listed.getD 10 false = true then D1.setCell ⟨bb, 0, none⟩ (.slice (some ⟨oa, 0, none⟩) ys.length oc) else D1) := hM; rw [hl1, if_neg (by decide)] at h; exact h
      have k0 : v.cell? ⟨bb, 0, none⟩ = some (.slice (some ⟨oa, 0, none⟩) (ys.length + 1) oc) := by rw [hv]; exact d0
      have k1 : v.frozen? ⟨bb, 0, none⟩ = false := by rw [hv]; exact df0
      have e17 : b.tmps[17]? = some (.pointer (some ⟨bb, 0, none⟩)) := hF.up 9 17 rfl (hdeps ⟨9, .data⟩ (by simp) rfl)
      have e15 : b.tmps[15]? = some (.slice (some ⟨oa, 0, none⟩) ys.length oc) := hF.up 7 15 rfl (hdeps ⟨7, .data⟩ (by simp) rfl)
      refine QJ.store (v' := D1.setCell ⟨bb, 0, none⟩ (.slice (some ⟨oa, 0, none⟩) ys.length oc)) (x := x) hsz hC hi hF (Slots.of (by rfl)) rfl rfl (wanted_none rfl) (show D1.setCell ⟨bb, 0, none⟩ (.slice (some ⟨oa, 0, none⟩) ys.length oc) = (if (listed.setIfInBounds 10 true).getD 10 false = true then D1.setCell ⟨bb, 0, none⟩ (.slice (some ⟨oa, 0, none⟩) ys.length oc) else D1) by rw [getD_setS (by rw [hsz]; decide), if_pos rfl]) ?_
      rw [← hv]
      simp [execOp, go_sem, e17, e15, k0, k1]
  intro listed b5 W5 hJ hr'
  obtain ⟨hsz, hC, xx, hF, hM⟩ := hJ
  have hall := all_upB2 (by rfl) hsz hr'
  have hb : b5 = putAll _ _ _ 11 := hF.done (Slots.of (by rfl)) hall
  subst hb
  rw [hall 10 (by decide), if_pos rfl] at hM
  simp only [putAll]
  simp [dstOf, Act.put]
  clear hF hC hall hr' hsz
  obtain ⟨c', zs, x', hys, hv5, hn5, hb5⟩ := hvd.pop HOB.out hM
  have hlz : ys.length = zs.length + 1 := by rw [hys]; simp
  have hx5 : W5.heap[bx]? = some (.cells #[.int .i64 xn.k, .int .i64 xn.at_, .string xn.s, .string xn.name, .slice xn.pa xn.pl xn.pc, .slice xn.ba xn.bl xn.bc, .slice xn.ea xn.el xn.ec, .bool xn.h, .slice xn.ca xn.cl xn.cc] 56 (0, 0)) := by
    rw [hM]
    exact ((Only.refl bb D1).setCell 0 _).blk hxd (fun e => by have := HBV.out.bblt; have := HBE.out; omega)
  have HV5 := Lib.hid hv5; have HN5 := Lib.hid hn5; have HBX := Lib.hid hx5
  have HB5 := Lib.hid ((hbd.mono HBV.out.le).trans hb5)
  have HBL := Lib.hid (Array.getElem?_eq_some_iff.1 hx5).1
  obtain ⟨⟨m0, m1, m2, m3, m4, m5, m6, m7, m8⟩, -⟩ := nine_blk hx5
  clear hM hv5 hn5 hx5 hb5 hvd hbd hxd hb1 hx1 hD1 d0 df0 c0 f0
  have hml := HBL.out
  go_upto_region 4 with fail
  refine wp_region_by (QJ (fun (_ : Unit) qq => match qq with | 0 => .pointer (some ⟨bb, 0, none⟩) | 1 => .pointer (some ⟨oa, zs.length * 9, none⟩) | 2 => .agg #[.int .i64 xn.k, .int .i64 xn.at_, .string xn.s, .string xn.name, .slice xn.pa xn.pl xn.pc, .slice xn.ba xn.bl xn.bc, .slice xn.ea xn.el xn.ec, .bool xn.h, .slice xn.ca xn.cl xn.cc] | 3 => .tuple #[] | _ => undef) (fun _ listed v => ((listed.getD 3 false = false → Below W5.heap.size W5 v) ∧ (listed.getD 3 false = true → (BVE v base bb (B.putB bd.inner ⟨d, l, bd.defined⟩) ∧ Below base w v))))) (by kernel_rfl) ?_ ?_ ?_
  · exact ⟨by simp, Closed.start _, (), Fr.start _ _ _, by rw [rep_getDL]; exact ⟨fun _ => (Below.refl W5.heap.size W5).drew, fun e => by cases e⟩⟩
  · intro listed b v q hJ hi
    obtain ⟨hsz, hC, x, hF, hM⟩ := hJ
    obtain ⟨hl1, hiN⟩ := not_up hsz hi
    obtain ⟨_, o, ho, hdeps⟩ := mem_ready.1 hi
    have hiN : q < 4 := hiN
    obtain rfl | rfl | rfl | rfl : q = 0 ∨ q = 1 ∨ q = 2 ∨ q = 3 := by omega
    · cases ho
      have e0 := hF.old_is 0 (by rfl) rfl
      refine QJ.quiet (x := x) hsz hC hi hF (Slots.of (by rfl)) rfl (wanted_none rfl) (show (((listed.setIfInBounds 0 true).getD 3 false = false → Below W5.heap.size W5 v) ∧ ((listed.setIfInBounds 0 true).getD 3 false = true → (BVE v base bb (B.putB bd.inner ⟨d, l, bd.defined⟩) ∧ Below base w v))) by rw [getD_setN (show 0 ≠ 3 by decide)]; exact hM) ?_
      show _ = Result.ok (Next.value (.pointer (some ⟨bb, 0, none⟩))) v
      simp [execOp, go_sem, e0]
    · cases ho
      have l3 : listed.getD 3 false = false := by
        cases hh : listed.getD 3 false
        · rfl
        · have y0 := hC 3 _ rfl hh ⟨1, .data⟩ (by simp) rfl; rw [hl1] at y0; cases y0
      have hb0 := hM.1 l3
      have e35 : b.tmps[35]? = some (.pointer (some ⟨bb, 0, none⟩)) := hF.up 0 35 rfl (hdeps ⟨0, .data⟩ (by simp) rfl)
      refine QJ.call (x := x) (f := 68) (args := #[.pointer (some ⟨bb, 0, none⟩)]) hsz hC hi hF (Slots.of (by rfl)) rfl (wanted_none rfl) (by simp [execOp, go_sem, e35]) (inner_cell v bb oa zs.length oc (by omega) ((hb0.cell (p := ⟨bb, 0, none⟩) HV5.out.bblt).trans (two_blk HV5.out.blk).1.1)) ?_
      rintro e w' ⟨rfl, hw⟩
      exact ⟨(), rfl, fun _ _ => rfl, (show (((listed.setIfInBounds 1 true).getD 3 false = false → Below W5.heap.size W5 w') ∧ ((listed.setIfInBounds 1 true).getD 3 false = true → (BVE w' base bb (B.putB bd.inner ⟨d, l, bd.defined⟩) ∧ Below base w w'))) by rw [getD_setN (show 1 ≠ 3 by decide), l3, hw]; exact ⟨fun _ => hb0.drew, fun e => by cases e⟩)⟩
    · cases ho
      have l3 : listed.getD 3 false = false := by
        cases hh : listed.getD 3 false
        · rfl
        · have y0 := hC 3 _ rfl hh ⟨2, .data⟩ (by simp) rfl; rw [hl1] at y0; cases y0
      obtain ⟨⟨z0, z1, z2, z3, z4, z5, z6, z7, z8⟩, -⟩ := nine_blk (((hM.1 l3).block bx HBL.out).trans HBX.out)
      have e2 := hF.old_is 2 (by rfl) rfl
      refine QJ.quiet (x := x) hsz hC hi hF (Slots.of (by rfl)) rfl (wanted_none rfl) (show (((listed.setIfInBounds 2 true).getD 3 false = false → Below W5.heap.size W5 v) ∧ ((listed.setIfInBounds 2 true).getD 3 false = true → (BVE v base bb (B.putB bd.inner ⟨d, l, bd.defined⟩) ∧ Below base w v))) by rw [getD_setN (show 2 ≠ 3 by decide)]; exact hM) ?_
      show _ = Result.ok (Next.value (.agg #[.int .i64 xn.k, .int .i64 xn.at_, .string xn.s, .string xn.name, .slice xn.pa xn.pl xn.pc, .slice xn.ba xn.bl xn.bc, .slice xn.ea xn.el xn.ec, .bool xn.h, .slice xn.ca xn.cl xn.cc])) v
      simp [execOp, go_sem, e2, z0, z1, z2, z3, z4, z5, z6, z7, z8]
    · cases ho
      have hb0 := hM.1 hl1
      have e36 : b.tmps[36]? = some (.pointer (some ⟨oa, zs.length * 9, none⟩)) := hF.up 1 36 rfl (hdeps ⟨1, .data⟩ (by simp) rfl)
      have e37 : b.tmps[37]? = some (.agg #[.int .i64 xn.k, .int .i64 xn.at_, .string xn.s, .string xn.name, .slice xn.pa xn.pl xn.pc, .slice xn.ba xn.bl xn.bc, .slice xn.ea xn.el xn.ec, .bool xn.h, .slice xn.ca xn.cl xn.cc]) := hF.up 2 37 rfl (hdeps ⟨2, .data⟩ (by simp) rfl)
      refine QJ.call (x := x) (f := 104) (args := #[.pointer (some ⟨oa, zs.length * 9, none⟩), .agg #[.int .i64 xn.k, .int .i64 xn.at_, .string xn.s, .string xn.name, .slice xn.pa xn.pl xn.pc, .slice xn.ba xn.bl xn.bc, .slice xn.ea xn.el xn.ec, .bool xn.h, .slice xn.ca xn.cl xn.cc]]) hsz hC hi hF (Slots.of (by rfl)) rfl (wanted_none rfl) (by simp [execOp, go_sem, e36, e37]) (put_into (HV5.out.below hb0) (bd.inner, xn) (HN5.out.keep (Fz.belowIn hb0) (fun g hg => hb0.block g hg.2.1)) HFW.out) ?_
      rintro e w' ⟨rfl, hw, hbw⟩
      exact ⟨(), rfl, fun _ _ => rfl, (show (((listed.setIfInBounds 3 true).getD 3 false = false → Below W5.heap.size W5 w') ∧ ((listed.setIfInBounds 3 true).getD 3 false = true → (BVE w' base bb (B.putB bd.inner ⟨d, l, bd.defined⟩) ∧ Below base w w'))) by rw [getD_setS (by rw [hsz]; decide)]; exact ⟨(fun e => by cases e), fun _ => ⟨hw, (HB5.out.trans (hb0.mono HV5.out.le)).trans hbw⟩⟩)⟩
  intro listed b6 W6 hJ hr'
  obtain ⟨hsz, hC, xx, hF, hM⟩ := hJ
  have hall := all_upB2 (by rfl) hsz hr'
  have hb : b6 = putAll _ _ _ 4 := hF.done (Slots.of (by rfl)) hall
  subst hb
  have HFIN := Lib.hid (hM.2 (hall 3 (by decide)))
  simp only [putAll]
  simp [dstOf, Act.put]
  clear hF hC hall hr' hsz hM
  go_wp2
  go_end0
  exact ⟨rfl, by rw [HCL.out]; exact HFIN.out.1, HFIN.out.2⟩
end Tr
end Go.Proofs.YtlfbcaenlifmkaaGreatDoor
