/- A node is put into the innermost block, wherever that has it. -/
import Derived.Test.YtlfbcaenlifmkaaGreatDoorB34
namespace Go.Proofs.YtlfbcaenlifmkaaGreatDoor
open Go.RowKit
namespace Tr
open Sc Sh Sp
section
variable {w w' : World} {base bb : Nat} {b : B} {c c' : Nat → Nat} {oa oc : Nat} {ys : List (Nd × C9)} {x x' : C9} {da : Option Addr} {dc : Nat} {ds : List TpU}
theorem BV.put_els (h : BV w base bb b c oa oc ys x da dc ds) {y : Nd × C9} (hy : NdV w (Fz base w c) y.1 y.2) (he : b.inner.hasElse = true) {g k : Nat} {bs : List (Nd × C9)}
    (b1 : bs.map (·.1) = b.inner.els) (b2 : x.el = bs.length) (b3 : Row9 w base c (5 * ys.length + 4) (.slice x.ea x.el x.ec) bs)
    (hp : PutW base 56 9 oa (ys.length * 9 + 6) (.slice x.ea x.el x.ec) x.el (bs.flatMap enc9 ++ y.2.cells) w w' g k) : BVE w' base bb (b.putB y.1) := by
  have hkp := hp.kp (c := c) (5 * ys.length + 4) 2 b3.col h.ocol
  have hog : oa ≠ g := fun e => by
    rcases hp.new with hn | hn
    · have := b3.col g hn; rw [← e, h.ocol] at this; omega
    · have := h.olt.2; omega
  obtain ⟨r1, r2, r3, r4, r5, r6⟩ := h.rest hkp ⟨by omega, by omega⟩ ⟨by omega, by omega⟩ ⟨by omega, by omega⟩ (fun i k hi k1 k2 => ⟨by omega, by omega⟩)
  have hin := Fz.in hkp (⟨by omega, by omega⟩ : (0 : Nat) ≠ 5 * ys.length + 4 ∧ (0 : Nat) ≠ 2)
  have hsm := Fz.same hkp (⟨by omega, by omega⟩ : (0 : Nat) ≠ 5 * ys.length + 4 ∧ (0 : Nat) ≠ 2)
  refine ⟨fun m => if m = g then 5 * ys.length + 4 else c m, oa, oc, ys, { x with ea := some ⟨g, 0, none⟩, el := x.el + 1, ec := k }, da, dc, ds,
    ⟨Nat.le_trans h.le hp.size, r1.trans h.blk, h.bbase, r2, h.own_set hp.slot rfl, by show (if oa = g then _ else _) = _; rw [if_neg hog]; exact h.ocol, h.opens, r3, ?_, r4, r5, h.dis, r6, hp.fresh _ h.new⟩⟩
  have hl := h.last
  have hin' : (b.putB y.1).inner = .mk b.inner.kind b.inner.at_ b.inner.s b.inner.name b.inner.pipe b.inner.body (b.inner.els ++ [y.1]) b.inner.hasElse b.inner.cases := by
    unfold B.putB
    simp only
    revert he
    cases b.inner with
    | mk q a s nm p bd es hh cs => intro he; cases he; rfl
  rw [hin']
  refine ⟨hl.hk, hl.ht, hl.hs, hl.hn, hl.hh, ?_, ?_, ⟨bs ++ [y], by simp [b1, Nd.els], by simp [b2], ?_⟩, ?_⟩
  · obtain ⟨us, h1, h2⟩ := hl.pipe; exact ⟨us, h1.keep hin hsm, h2⟩
  · obtain ⟨es, h1, h2, h3⟩ := hl.body; exact ⟨es, h1, h2, h3.keep hkp ⟨by omega, by omega⟩ ⟨by omega, by omega⟩⟩
  · have hown := hp.own
    rw [b2] at hown
    refine b3.snoc ?_ (fun m hm => ?_) hin hsm hy
    · rw [b2]; exact hown
    · cases hm; show (if g = g then _ else _) = _; rw [if_pos rfl]
  · obtain ⟨cs, h1, h2, h3, h4, h5, h6⟩ := hl.cases
    have hbk := fun m hm => hkp.blk m (h3.lt m hm).1 (h3.lt m hm).2 (by rw [h4 m hm]; exact ⟨by omega, by omega⟩)
    exact ⟨cs, h1, h2, ownsRow_same h3 (fun m hm => (hbk m hm).1), fun m hm => by rw [(hbk m hm).2]; exact h4 m hm, fun u hu => ⟨(h5 u hu).1.keep hin hsm, fun z hz => ((h5 u hu).2 z hz).keep hin hsm⟩, fun u hu => (h6 u hu).keep hkp ⟨by omega, by omega⟩ ⟨by omega, by omega⟩⟩
theorem cases_len (cs : List CsU) : (cs.flatMap CsU.cells).length = cs.length * 2 := by
  induction cs with
  | nil => rfl
  | cons y ys ih => rw [List.flatMap_cons, List.length_append, ih, List.length_cons]; show 2 + _ = _; omega
theorem lastCase_snoc (x : Nd) : ∀ (l : List (List UInt8 × List Nd)) (t : List UInt8) (m : List Nd), Nd.lastCase x (l ++ [(t, m)]) = l ++ [(t, m ++ [x])]
  | [], t, m => rfl
  | [d], t, m => rfl
  | d :: e :: l, t, m => by
    show d :: Nd.lastCase x (e :: l ++ [(t, m)]) = _
    have := lastCase_snoc x (e :: l) t m
    rw [this]; rfl
theorem put_mk (k : Int) (a : Nat) (s n : List UInt8) (p : List (List Op)) (b e : List Nd) (h : Bool) (c : List (List UInt8 × List Nd)) (x : Nd) : (Nd.mk k a s n p b e h c).put x =
    (if h then .mk k a s n p b (e ++ [x]) h c else if 0 < c.length then .mk k a s n p b e h (Nd.lastCase x c) else .mk k a s n p (b ++ [x]) e h c) := rfl
/-- A node more in the last case. -/
theorem BV.put_cas (h : BV w base bb b c oa oc ys x da dc ds) {y : Nd × C9} (hy : NdV w (Fz base w c) y.1 y.2) (he : b.inner.hasElse = false) {cs : List CsU} {u : CsU} (hcs : (cs ++ [u]).map CsU.is = b.inner.cases) (hxl : x.cl = cs.length + 1) {cg : Nat} (hca : x.ca = some ⟨cg, 0, none⟩)
    (h3 : w.ownsRow base 59 2 (.slice x.ca x.cl x.cc) (cs.length + 1) ((cs ++ [u]).flatMap CsU.cells)) (h4 : c cg = 5 * ys.length + 5) (h5 : ∀ v ∈ cs, Cells w (Fz base w c) v.a (v.l.flatMap enc9) ∧ ∀ z ∈ v.l, NdV w (Fz base w c) z.1 z.2)
    (h6 : Row9 w base c (5 * ys.length + 6) (.slice u.a u.l.length u.c) u.l) {g k : Nat}
    (hp : PutW base 56 9 cg (cs.length * 2 + 1) (.slice u.a u.l.length u.c) u.l.length (u.l.flatMap enc9 ++ y.2.cells) w w' g k) : BVE w' base bb (b.putB y.1) := by
  have hkp := hp.kp (c := c) (5 * ys.length + 6) (5 * ys.length + 5) h6.col h4
  have hcl := h3.lt cg (by rw [hca]; rfl)
  have hog : oa ≠ g := fun e => by
    rcases hp.new with hn | hn
    · have := h6.col g hn; rw [← e, h.ocol] at this; omega
    · have := h.olt.2; omega
  have hcg : cg ≠ g := fun e => by
    rcases hp.new with hn | hn
    · have := h6.col g hn; rw [← e, h4] at this; omega
    · omega
  obtain ⟨r1, r2, r3, r4, r5, r6⟩ := h.rest hkp ⟨by omega, by omega⟩ ⟨by omega, by omega⟩ ⟨by omega, by omega⟩ (fun i k hi k1 k2 => ⟨by omega, by omega⟩)
  have hin := Fz.in hkp (⟨by omega, by omega⟩ : (0 : Nat) ≠ 5 * ys.length + 6 ∧ (0 : Nat) ≠ 5 * ys.length + 5)
  have hsm := Fz.same hkp (⟨by omega, by omega⟩ : (0 : Nat) ≠ 5 * ys.length + 6 ∧ (0 : Nat) ≠ 5 * ys.length + 5)
  have hob := hkp.blk oa h.olt.1 h.olt.2 (by rw [h.ocol]; exact ⟨by omega, by omega⟩)
  refine ⟨fun m => if m = g then 5 * ys.length + 6 else c m, oa, oc, ys, x, da, dc, ds,
    ⟨Nat.le_trans h.le hp.size, r1.trans h.blk, h.bbase, r2, ownsRow_same h.own (fun m hm => by cases hm; exact hob.1), by show (if oa = g then _ else _) = _; rw [if_neg hog]; exact h.ocol, h.opens, r3, ?_, r4, r5, h.dis, r6, hp.fresh _ h.new⟩⟩
  have hl := h.last
  have hin' : (b.putB y.1).inner = .mk b.inner.kind b.inner.at_ b.inner.s b.inner.name b.inner.pipe b.inner.body b.inner.els b.inner.hasElse (cs.map CsU.is ++ [(u.tag, u.l.map (·.1) ++ [y.1])]) := by
    unfold B.putB
    simp only
    rw [List.map_append] at hcs
    revert he hcs
    cases b.inner with
    | mk q a s nm p bd es hh ks =>
      intro he hcs; cases he
      have hcs : cs.map CsU.is ++ [(u.tag, u.l.map (·.1))] = ks := hcs
      subst hcs
      rw [put_mk, if_neg (by decide), if_pos (by simp), lastCase_snoc]; rfl
  rw [hin']
  refine ⟨hl.hk, hl.ht, hl.hs, hl.hn, hl.hh, ?_, ?_, ?_, ?_⟩
  · obtain ⟨us, h1, h2⟩ := hl.pipe; exact ⟨us, h1.keep hin hsm, h2⟩
  · obtain ⟨es, h1, h2, h3⟩ := hl.body; exact ⟨es, h1, h2, h3.keep hkp ⟨by omega, by omega⟩ ⟨by omega, by omega⟩⟩
  · obtain ⟨es, h1, h2, h3⟩ := hl.els; exact ⟨es, h1, h2, h3.keep hkp ⟨by omega, by omega⟩ ⟨by omega, by omega⟩⟩
  · obtain ⟨u', hu'⟩ : ∃ u' : CsU, u' = ⟨u.tag, some ⟨g, 0, none⟩, k, u.l ++ [y]⟩ := ⟨_, rfl⟩
    have hset : ((cs ++ [u]).flatMap CsU.cells).set (cs.length * 2 + 1) (.slice (some ⟨g, 0, none⟩) (u.l.length + 1) k) = (cs ++ [u']).flatMap CsU.cells := by
      rw [List.flatMap_append, List.flatMap_append, List.set_append_right _ _ (by rw [cases_len]; omega), cases_len, Nat.add_sub_cancel_left, hu']
      show _ ++ [str u.tag, .slice (some ⟨g, 0, none⟩) (u.l.length + 1) k] = _ ++ [str u.tag, .slice (some ⟨g, 0, none⟩) (u.l ++ [y]).length k]
      rw [List.length_append]; rfl
    have hst := h3
    rw [hca, hxl] at hst
    have hst2 := (hst.stored (cs.length * 2 + 1) (.slice (some ⟨g, 0, none⟩) (u.l.length + 1) k)).1
    rw [hset] at hst2
    refine ⟨cs ++ [u'], by rw [List.map_append, hu']; show _ = cs.map CsU.is ++ [_]; simp [CsU.is], by rw [hxl]; simp, ?_, fun m hm => ?_, fun v hv => ?_, fun v hv => ?_⟩
    · rw [hca, hxl, List.length_append]
      exact ownsRow_same hst2 (fun m hm => by cases hm; exact hp.slot)
    · rw [hca] at hm; cases hm; show (if cg = g then _ else _) = _; rw [if_neg hcg]; exact h4
    · rw [List.dropLast_concat] at hv
      exact ⟨(h5 v hv).1.keep hin hsm, fun z hz => ((h5 v hv).2 z hz).keep hin hsm⟩
    · rw [List.getLast?_concat] at hv
      obtain rfl : u' = v := Option.some.inj hv
      subst hu'
      simp only [List.length_append, List.length_cons, List.length_nil]
      exact h6.snoc hp.own (fun m hm => by cases hm; show (if g = g then _ else _) = _; rw [if_pos rfl]) hin hsm hy
end
theorem PutW.below {base : Nat} {e : TypeId} {sz pb po n g k : Nat} {v : Value} {zs : List Value} {w w' : World} (h : PutW base e sz pb po v n zs w w' g k) (hb : base ≤ w.heap.size) (hpb : base ≤ pb) (hv : ∀ m, v.ownBlock = some m → base ≤ m) : Below base w w' :=
  ⟨h.os, h.tape, h.output, h.size, fun m hm => h.chg m (by omega) (by omega) (fun e => by have := hv m e.symm; omega)⟩
/-- How long rows are, at most. -/
structure FewN (n : Nat) (d : Nd) : Prop where
  body : d.body.length ≤ n
  els : d.els.length ≤ n
  cases : d.cases.length ≤ n
  each : ∀ q ∈ d.cases, q.2.length ≤ n
/-- Where the innermost node lies: its cells. -/
theorem put_into {w : World} {base bb : Nat} {b : B} {c : Nat → Nat} {oa oc : Nat} {ys : List (Nd × C9)} {x : C9} {da : Option Addr} {dc : Nat} {ds : List TpU} (h : BV w base bb b c oa oc ys x da dc ds) (y : Nd × C9) (hy : NdV w (Fz base w c) y.1 y.2) (hf : FewN 2000 b.inner) :
    Calls Tryz.prog 104 #[.pointer (some ⟨oa, ys.length * 9, none⟩), y.2.val] w fun e w' => e = .returned (.tuple #[]) ∧ BVE w' base bb (b.putB y.1) ∧ Below base w w' := by
  have hl := h.last
  have c5 := h.cell 5 (by omega); have c6 := h.cell 6 (by omega); have c7 := h.cell 7 (by omega); have c8 := h.cell 8 (by omega)
  simp only [C9.cells, List.getElem?_cons_succ, List.getElem?_cons_zero] at c5 c6 c7 c8
  rw [hl.hh] at c7
  cases he : b.inner.hasElse
  · rw [he] at c7
    obtain ⟨cs, k1, k2, k3, k4, k5, k6⟩ := hl.cases
    rcases List.eq_nil_or_concat cs with rfl | ⟨cs', u, hcs⟩
    · have hc0 : b.inner.cases = [] := by rw [← k1]; rfl
      have hcl : x.cl = 0 := k2
      rw [hcl] at c8
      obtain ⟨bs, b1, b2, b3⟩ := hl.body
      have hbn : x.bl ≤ 2000 := by rw [b2]; have := hf.body; rw [← b1] at this; simpa using this
      have how := b3.own
      rw [← b2] at how
      refine (put_body w base oa (ys.length * 9) h.le y.2 h.olt.2 c7 x.ca x.cc c8 x.ba x.bl x.bc _ c5 (h.frz _) how hbn (fun e => by have := b3.col oa e; rw [h.ocol] at this; omega)).mono ?_
      rintro e w' ⟨rfl, g, k, hp⟩
      exact ⟨rfl, h.put_body hy he hc0 b1 b2 b3 hp, hp.below h.le h.olt.1 (fun m hm => (b3.own.lt m hm).1)⟩
    · rw [List.concat_eq_append] at hcs
      subst hcs
      have hcl : x.cl = cs'.length + 1 := by rw [k2]; simp
      have k3' := k3
      rw [hcl] at k3' c8
      obtain ⟨cg, cc', hcg⟩ := own_some (show w.ownsRow base 59 2 (.slice x.ca (cs'.length + 1) x.cc) (cs'.length + 1) ((cs' ++ [u]).flatMap CsU.cells) from by simpa using k3')
      simp only [Value.slice.injEq] at hcg
      obtain ⟨hca, -, rfl⟩ := hcg
      rw [hca] at c8
      have k3'' : w.ownsRow base 59 2 (.slice (some ⟨cg, 0, none⟩) (cs'.length + 1) x.cc) (cs'.length + 1) ((cs' ++ [u]).flatMap CsU.cells) := by rw [← hca]; simpa using k3'
      have hcgl := k3''.lt cg rfl
      have hu6 := k6 u (by rw [List.getLast?_concat])
      have hck : c cg = 5 * ys.length + 5 := k4 cg (by rw [hca]; rfl)
      have hcell : w.cell? ⟨cg, cs'.length * 2 + 1, none⟩ = some (.slice u.a u.l.length u.c) := by
        rw [k3''.cellAt (cs'.length * 2 + 1) (by omega), List.flatMap_append, List.getElem?_append_right (by rw [cases_len]; omega), cases_len, Nat.add_sub_cancel_left]; rfl
      have hbn : u.l.length ≤ 2000 := by
        have := hf.each (CsU.is u) (by rw [← k1]; simp)
        simpa [CsU.is] using this
      have hkn : cs'.length ≤ 2000 := by have := hf.cases; rw [← k1] at this; simp at this; omega
      refine (put_case w base oa (ys.length * 9) h.le y.2 h.olt.2 c7 cg cs'.length x.cc hkn hcgl.2 c8 u.a u.l.length u.c _ hcell (k3''.frozenAt _) hu6.own hbn (fun e => by have := hu6.col cg e; rw [hck] at this; omega)).mono ?_
      rintro e w' ⟨rfl, g, k, hp⟩
      refine ⟨rfl, h.put_cas hy he k1 hcl hca (by rw [hca, hcl]; exact k3'') hck (fun v hv => k5 v (by rw [List.dropLast_concat]; exact hv)) hu6 hp, hp.below h.le hcgl.1 (fun m hm => (hu6.own.lt m hm).1)⟩
  · rw [he] at c7
    obtain ⟨bs, b1, b2, b3⟩ := hl.els
    have hbn : x.el ≤ 2000 := by rw [b2]; have := hf.els; rw [← b1] at this; simpa using this
    have how := b3.own
    rw [← b2] at how
    refine (put_else w base oa (ys.length * 9) h.le y.2 h.olt.2 c7 x.ea x.el x.ec _ c6 (h.frz _) how hbn (fun e => by have := b3.col oa e; rw [h.ocol] at this; omega)).mono ?_
    rintro e w' ⟨rfl, g, k, hp⟩
    exact ⟨rfl, h.put_els hy he b1 b2 b3 hp, hp.below h.le h.olt.1 (fun m hm => (b3.own.lt m hm).1)⟩
end Tr
end Go.Proofs.YtlfbcaenlifmkaaGreatDoor
