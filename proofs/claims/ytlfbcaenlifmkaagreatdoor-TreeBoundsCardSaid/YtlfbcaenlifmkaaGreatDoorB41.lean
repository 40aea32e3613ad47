/- The templates of a builder: the whole, and what is defined. Written by gen_qtpl.py. -/
import Derived.Test.YtlfbcaenlifmkaaGreatDoorB40
namespace Go.Proofs.YtlfbcaenlifmkaaGreatDoor
open Go.RowKit
namespace Tr
open Sc Sh Sp
theorem infoT9 : (Tryz.prog.info? 52).map (fun i => (i.zero, i.size, i.bytes)) = some (some (.agg #[.string ⟨#[]⟩, .slice none 0 0]), 2, 40) := by kernel_rfl
/-- Templates, from an address on. -/
structure TpsV (w : World) (S : Nat → Prop) (l : List (List UInt8 × List Nd)) (a : Option Addr) (us : List TpU) : Prop where
  is : us.map TpU.is = l
  cells : Cells w S a (us.flatMap TpU.cells)
  each : ∀ u ∈ us, TpV w S u
theorem TpsV.keep {w w' : World} {S S' : Nat → Prop} {l : List (List UInt8 × List Nd)} {a : Option Addr} {us : List TpU} (h : TpsV w S l a us) (hS : ∀ g, S g → S' g) (hk : ∀ g, S g → w'.heap[g]? = w.heap[g]?) : TpsV w' S' l a us := ⟨h.is, h.cells.keep hS hk, fun u hu => (h.each u hu).keep hS hk⟩
theorem tpu_len (ds : List TpU) : (ds.flatMap TpU.cells).length = ds.length * 2 := by
  induction ds with
  | nil => rfl
  | cons y ys ih => rw [List.flatMap_cons, List.length_append, ih, List.length_cons]; show 2 + _ = _; omega
theorem tpu_one (ds : List TpU) : ∀ u ∈ ds.flatMap TpU.cells, u.oneCell' = true := by
  intro u hu
  obtain ⟨y, _, hy⟩ := List.mem_flatMap.1 hu
  simp [TpU.cells, str] at hy
  rcases hy with rfl | rfl <;> rfl
theorem own_nilT {w : World} {base n sz k : Nat} {e : TypeId} {a : Option Addr} {xs : List Value} (h : w.ownsRow base e sz (.slice a n k) n xs) : a = none → n = 0 ∧ k = 0 := by
  intro ha
  subst ha
  rcases h.2 with ⟨h1, h2⟩ | ⟨g, cap, cur, h1, _⟩
  · cases h1; exact ⟨h2, rfl⟩
  · cases h1
theorem own_readT {w : World} {base n sz k : Nat} {e : TypeId} {a : Option Addr} {xs : List Value} (h : w.ownsRow base e sz (.slice a n k) n xs) : ∀ b, a = some b → ∀ j u, xs[j]? = some u → w.cell? (b.add j) = some u := by
  intro b hb j u hu
  subst hb
  rcases h.2 with ⟨h1, _⟩ | ⟨g, cap, cur, h1, _⟩
  · cases h1
  · cases h1; exact h.cells rfl j u hu
theorem own_someT {w : World} {base n sz : Nat} {e : TypeId} {xs : List Value} {v : Value} (h : w.ownsRow base e sz v (1 + n) xs) : ∃ g c, v = .slice (some ⟨g, 0, none⟩) (1 + n) c := by
  rw [Nat.add_comm] at h ⊢; exact own_some h
theorem lit_own {w w0 : World} {b : Nat} {vs : Array Value} (h : w.heap[b]? = some (.cells vs 52 (0, 0))) (hb : w0.heap.size ≤ b) (hs : vs.size = 2 := by rfl) : w.ownsRow w0.heap.size 52 2 (.slice (some ⟨b, 0, none⟩) 1 1) 1 vs.toList :=
  ⟨by simp [hs], .inr ⟨b, 1, vs, rfl, hb, h, Nat.le_refl _, by unfold maxLen; omega, by simp [hs], List.take_of_length_le (by simp [hs])⟩⟩
/-- The law of append where what is put behind may be nil, as one step. -/
theorem wp_append_opt {P : Program} {o : Oper} {a : Go.Act} {w : World} {K : Go.Act → World → Prop} {Q : Exit → Go.Act → World → Prop} (s x : Operand) (t : TypeId)
    (ho : o.op = .call { callee := .builtin .append, args := #[s, x], argTypes := #[t, t] })
    (base : Nat) (e : TypeId) (i : TypeInfo) (z : Value) (size bytes : Nat) (ht : P.underlying t = some (.slice e)) (hi : P.info? e = some i) (hz : i.zero = some z)
    (hsize : i.size = size) (hby : i.bytes = bytes) (hzs : z.cells.size = size) (hsz : 0 < size)
    (v : Value) (n : Nat) (xs : List Value) (hs : a.eval s = v) (hown : w.ownsRow base e size v n xs)
    (ad : Option Addr) (m c : Nat) (news : List Value) (hx : a.eval x = .slice ad m c) (hl : news.length = m * size) (hnil : ad = none → m = 0 ∧ c = 0) (hnews : ∀ b, ad = some b → ∀ j u, news[j]? = some u → w.cell? (b.add j) = some u) (h1 : ∀ u ∈ news, u.oneCell' = true)
    (h63 : n + m ≤ maxLen) (hbytes : (n + m) * bytes ≤ 140737488355328) (hbase : base ≤ w.heap.size)
    (h : ∀ v' w', w'.ownsRow base e size v' (n + m) (xs ++ news) → w.grownBy w' v.ownBlock → (∀ k, v'.ownBlock = some k → v.ownBlock = some k ∨ w.heap.size ≤ k) → K (a.put o.dst v') w') : o.wp P a w K Q := by
  cases ad with
  | none =>
    obtain ⟨rfl, rfl⟩ := hnil rfl
    obtain rfl : news = [] := List.eq_nil_of_length_eq_zero (by omega)
    have hgo := h v w (by rw [List.append_nil]; exact hown) ⟨rfl, rfl, rfl, Nat.le_refl _, fun _ _ _ => rfl⟩ (fun k hk => .inl hk)
    have hr := run_append_owned_none (P := P) w base t o.type e i size ht hi v n xs hown
    simp only [Oper.wp, execOp, ho, resolve, invoke, builtin, Sem.run_bind, Sem.run_pure, Result.andThen_ok, List.map_toArray, List.map_cons, List.map_nil, hs, hx, hr]
    exact hgo
  | some b => exact wp_append_fresh s x t ho base e i z size bytes ht hi hz hsize hby hzs hsz v n xs hs hown b m c news hx hl (hnews b rfl) h1 h63 hbytes hbase h
/-- What memory holds while the row is made. -/
structure TeM (w : World) (vs : Array Value) (ds : List TpU) (l7 l12 : Bool) (x : Nat × Nat × Nat) (v : World) : Prop where
  below : Below w.heap.size w v
  lit : l7 = true → l12 = false → v.heap[x.1]? = some (.cells vs 52 (0, 0)) ∧ w.heap.size ≤ x.1
  own : l12 = true → v.ownsRow w.heap.size 52 2 (.slice (some ⟨x.2.1, 0, none⟩) (1 + ds.length) x.2.2) (1 + ds.length) (vs.toList ++ ds.flatMap TpU.cells)
theorem TeM.start {w : World} {vs : Array Value} {ds : List TpU} {x : Nat × Nat × Nat} : TeM w vs ds false false x w.drew := ⟨(Below.refl w.heap.size w).drew, (fun h => by cases h), (fun h => by cases h)⟩
theorem TeM.drew {w v : World} {vs : Array Value} {ds : List TpU} {l7 l12 : Bool} {x : Nat × Nat × Nat} (h : TeM w vs ds l7 l12 x v) : TeM w vs ds l7 l12 x v.drew := ⟨h.below.drew, h.lit, h.own⟩
theorem TeM.lay {w v : World} {vs : Array Value} {ds : List TpU} {x : Nat × Nat × Nat} (h : TeM w vs ds false false x v) : TeM w vs ds true false (v.heap.size, x.2) (v.alloc (.cells vs 52)) :=
  ⟨h.below.alloc h.below.size _, fun _ _ => ⟨heap_alloc_new v _, h.below.size⟩, (fun h => by cases h)⟩
theorem TeM.app {w v v2 : World} {vs : Array Value} {ds : List TpU} {x : Nat × Nat × Nat} {g k : Nat} (h : TeM w vs ds true false x v) (h1 : v2.ownsRow w.heap.size 52 2 (.slice (some ⟨g, 0, none⟩) (1 + ds.length) k) (1 + ds.length) (vs.toList ++ ds.flatMap TpU.cells))
    (h2 : v.grownBy v2 (Value.slice (some ⟨x.1, 0, none⟩) 1 1).ownBlock) (hx : w.heap.size ≤ x.1) : TeM w vs ds true true (x.1, g, k) v2 :=
  ⟨⟨h2.os.trans h.below.os, h2.tape.trans h.below.tape, h2.output.trans h.below.output, Nat.le_trans h.below.size h2.size, fun m hm => (h2.block m (Nat.lt_of_lt_of_le hm h.below.size) (fun e => by simp [Value.ownBlock] at e; omega)).trans (h.below.block m hm)⟩, (fun _ h => by cases h), fun _ => h1⟩
set_option maxRecDepth 100000 in
set_option maxHeartbeats 4000000 in
theorem templates_any {w : World} {base bb : Nat} {bd : B} {c : Nat → Nat} {oa oc : Nat} {ys : List (Nd × C9)} {xn : C9} {da : Option Addr} {dc : Nat} {ds : List TpU} (h : BV w base bb bd c oa oc ys xn da dc ds) (hd : bd.outer.length ≤ 100) (hdd : ds.length ≤ 100) :
    Calls Tryz.prog 43 #[.pointer (some ⟨bb, 0, none⟩)] w fun e w' => ∃ a us k, e = .returned (.slice a (1 + bd.defined.length) k) ∧ Below base w w' ∧ TpsV w' (fun g => base ≤ g ∧ g < w'.heap.size) (([], bd.inner.body) :: bd.defined) a us := by
  have hdep : ys.length ≤ 100 := by have := h.depth; omega
  have i5 := h.cell 5 (by omega)
  simp only [C9.cells, List.getElem?_cons_succ, List.getElem?_cons_zero] at i5
  obtain ⟨i0, hi0, hz0', hz1', hz2'⟩ := info_parts infoT9
  have HV := Lib.hid h; have HC5 := Lib.hid i5
  clear h i5
  go_enter Tryz.func43, Tryz.ntmps43
  go_upto_region 1 with fail
  refine wp_region_by (QJ (fun (x : Nat × Nat × Nat) qq => match qq with | 0 => .pointer (some ⟨bb, 0, none⟩) | 1 => .pointer (some ⟨oa, ys.length * 9, none⟩) | 2 => .pointer (some ⟨oa, ys.length * 9, none⟩) | 3 => .pointer (some ⟨oa, ys.length * 9, none⟩) | 4 => .pointer (some ⟨oa, ys.length * 9 + 5, none⟩) | 5 => .slice xn.ba xn.bl xn.bc | 6 => .agg #[.string ⟨#[]⟩, .slice xn.ba xn.bl xn.bc] | 7 => .slice (some ⟨x.1, 0, none⟩) 1 1 | 8 => .pointer (some ⟨bb, 0, none⟩) | 9 => .pointer (some ⟨bb, 0, none⟩) | 10 => .pointer (some ⟨bb, 1, none⟩) | 11 => .slice da ds.length dc | 12 => .slice (some ⟨x.2.1, 0, none⟩) (1 + ds.length) x.2.2 | 13 => .slice (some ⟨x.2.1, 0, none⟩) (1 + ds.length) x.2.2 | _ => undef) (fun x listed v => TeM w (#[.string ⟨#[]⟩, .slice xn.ba xn.bl xn.bc]) ds (listed.getD 7 false) (listed.getD 12 false) x v)) (by kernel_rfl) ?_ ?_ ?_
  · exact ⟨by simp, Closed.start _, (0, 0, 0), Fr.start _ _ _, by simp only [rep_getDL]; exact TeM.start⟩
  · intro listed b v q hJ hi
    obtain ⟨hsz, hC, x, hF, hM⟩ := hJ
    have hMb : TeM w (#[.string ⟨#[]⟩, .slice xn.ba xn.bl xn.bc]) ds (listed.getD 7 false) (listed.getD 12 false) x v := hM
    obtain ⟨hl1, hiN⟩ := not_up hsz hi
    obtain ⟨_, o, ho, hdeps⟩ := mem_ready.1 hi
    have hiN : q < 14 := hiN
    obtain rfl | rfl | rfl | rfl | rfl | rfl | rfl | rfl | rfl | rfl | rfl | rfl | rfl | rfl : q = 0 ∨ q = 1 ∨ q = 2 ∨ q = 3 ∨ q = 4 ∨ q = 5 ∨ q = 6 ∨ q = 7 ∨ q = 8 ∨ q = 9 ∨ q = 10 ∨ q = 11 ∨ q = 12 ∨ q = 13 := by omega
    · cases ho
      have e0 := hF.old_is 0 (by rfl) rfl
      refine QJ.quiet (x := x) hsz hC hi hF (Slots.of (by rfl)) rfl (wanted_none rfl) (show TeM w (#[.string ⟨#[]⟩, .slice xn.ba xn.bl xn.bc]) ds ((listed.setIfInBounds 0 true).getD 7 false) ((listed.setIfInBounds 0 true).getD 12 false) x v by rw [getD_setN (show 0 ≠ 7 by decide), getD_setN (show 0 ≠ 12 by decide)]; exact hMb) ?_
      show _ = Result.ok (Next.value (.pointer (some ⟨bb, 0, none⟩))) v
      simp [execOp, go_sem, e0]
    · cases ho
      have e3 : b.tmps[3]? = some (.pointer (some ⟨bb, 0, none⟩)) := hF.up 0 3 rfl (hdeps ⟨0, .data⟩ (by simp) rfl)
      refine QJ.call (x := x) (f := 68) (args := #[.pointer (some ⟨bb, 0, none⟩)]) hsz hC hi hF (Slots.of (by rfl)) rfl (wanted_none rfl) (by simp [execOp, go_sem, e3]) (inner_cell v bb oa ys.length oc (by omega) ((hMb.below.cell (p := ⟨bb, 0, none⟩) HV.out.bblt).trans (two_blk HV.out.blk).1.1)) ?_
      rintro e w' ⟨rfl, hw⟩
      exact ⟨x, rfl, fun _ _ => rfl, (show TeM w (#[.string ⟨#[]⟩, .slice xn.ba xn.bl xn.bc]) ds ((listed.setIfInBounds 1 true).getD 7 false) ((listed.setIfInBounds 1 true).getD 12 false) x w' by rw [getD_setN (show 1 ≠ 7 by decide), getD_setN (show 1 ≠ 12 by decide), hw]; exact hMb.drew)⟩
    · cases ho
      have e4 : b.tmps[4]? = some (.pointer (some ⟨oa, ys.length * 9, none⟩)) := hF.up 1 4 rfl (hdeps ⟨1, .data⟩ (by simp) rfl)
      refine QJ.quiet (x := x) hsz hC hi hF (Slots.of (by rfl)) rfl (wanted_none rfl) (show TeM w (#[.string ⟨#[]⟩, .slice xn.ba xn.bl xn.bc]) ds ((listed.setIfInBounds 2 true).getD 7 false) ((listed.setIfInBounds 2 true).getD 12 false) x v by rw [getD_setN (show 2 ≠ 7 by decide), getD_setN (show 2 ≠ 12 by decide)]; exact hMb) ?_
      show _ = Result.ok (Next.value (.pointer (some ⟨oa, ys.length * 9, none⟩))) v
      simp [execOp, go_sem, e4]
    · cases ho
      have e5 : b.tmps[5]? = some (.pointer (some ⟨oa, ys.length * 9, none⟩)) := hF.up 2 5 rfl (hdeps ⟨2, .data⟩ (by simp) rfl)
      refine QJ.quiet (x := x) hsz hC hi hF (Slots.of (by rfl)) rfl (wanted_none rfl) (show TeM w (#[.string ⟨#[]⟩, .slice xn.ba xn.bl xn.bc]) ds ((listed.setIfInBounds 3 true).getD 7 false) ((listed.setIfInBounds 3 true).getD 12 false) x v by rw [getD_setN (show 3 ≠ 7 by decide), getD_setN (show 3 ≠ 12 by decide)]; exact hMb) ?_
      show _ = Result.ok (Next.value (.pointer (some ⟨oa, ys.length * 9, none⟩))) v
      simp [execOp, go_sem, e5]
    · cases ho
      have e6 : b.tmps[6]? = some (.pointer (some ⟨oa, ys.length * 9, none⟩)) := hF.up 3 6 rfl (hdeps ⟨3, .data⟩ (by simp) rfl)
      refine QJ.quiet (x := x) hsz hC hi hF (Slots.of (by rfl)) rfl (wanted_none rfl) (show TeM w (#[.string ⟨#[]⟩, .slice xn.ba xn.bl xn.bc]) ds ((listed.setIfInBounds 4 true).getD 7 false) ((listed.setIfInBounds 4 true).getD 12 false) x v by rw [getD_setN (show 4 ≠ 7 by decide), getD_setN (show 4 ≠ 12 by decide)]; exact hMb) ?_
      show _ = Result.ok (Next.value (.pointer (some ⟨oa, ys.length * 9 + 5, none⟩))) v
      simp [execOp, go_sem, e6]
    · cases ho
      have n5 : v.cell? ⟨oa, ys.length * 9 + 5, none⟩ = some (.slice xn.ba xn.bl xn.bc) := (hMb.below.cell (p := ⟨oa, ys.length * 9 + 5, none⟩) HV.out.olt.2).trans HC5.out
      have e7 : b.tmps[7]? = some (.pointer (some ⟨oa, ys.length * 9 + 5, none⟩)) := hF.up 4 7 rfl (hdeps ⟨4, .data⟩ (by simp) rfl)
      refine QJ.quiet (x := x) hsz hC hi hF (Slots.of (by rfl)) rfl (wanted_none rfl) (show TeM w (#[.string ⟨#[]⟩, .slice xn.ba xn.bl xn.bc]) ds ((listed.setIfInBounds 5 true).getD 7 false) ((listed.setIfInBounds 5 true).getD 12 false) x v by rw [getD_setN (show 5 ≠ 7 by decide), getD_setN (show 5 ≠ 12 by decide)]; exact hMb) ?_
      show _ = Result.ok (Next.value (.slice xn.ba xn.bl xn.bc)) v
      simp [execOp, go_sem, e7, n5]
    · cases ho
      have e8 : b.tmps[8]? = some (.slice xn.ba xn.bl xn.bc) := hF.up 5 8 rfl (hdeps ⟨5, .data⟩ (by simp) rfl)
      refine QJ.quiet (x := x) hsz hC hi hF (Slots.of (by rfl)) rfl (wanted_none rfl) (show TeM w (#[.string ⟨#[]⟩, .slice xn.ba xn.bl xn.bc]) ds ((listed.setIfInBounds 6 true).getD 7 false) ((listed.setIfInBounds 6 true).getD 12 false) x v by rw [getD_setN (show 6 ≠ 7 by decide), getD_setN (show 6 ≠ 12 by decide)]; exact hMb) ?_
      show _ = Result.ok (Next.value (.agg #[.string ⟨#[]⟩, .slice xn.ba xn.bl xn.bc])) v
      simp [execOp, go_sem, e8]
    · cases ho
      have e9 : b.tmps[9]? = some (.agg #[.string ⟨#[]⟩, .slice xn.ba xn.bl xn.bc]) := hF.up 6 9 rfl (hdeps ⟨6, .data⟩ (by simp) rfl)
      have l12 : listed.getD 12 false = false := by
        cases hh : listed.getD 12 false
        · rfl
        · have y0 := hC 12 _ rfl hh ⟨7, .data⟩ (by simp) rfl; rw [hl1] at y0; cases y0
      have m := hMb
      rw [hl1, l12] at m
      refine QJ.make (v' := v.alloc (.cells #[.string ⟨#[]⟩, .slice xn.ba xn.bl xn.bc] 52)) (x := x) (x' := (v.heap.size, x.2)) hsz hC hi hF (Slots.of (by rfl)) rfl (wanted_none rfl) (fun q hq => match q, (show q ≠ 7 by rintro rfl; rw [hl1] at hq; cases hq) with | 0, _ => rfl | 1, _ => rfl | 2, _ => rfl | 3, _ => rfl | 4, _ => rfl | 5, _ => rfl | 6, _ => rfl | 7, h => absurd rfl h | 8, _ => rfl | 9, _ => rfl | 10, _ => rfl | 11, _ => rfl | 12, _ => rfl | 13, _ => rfl | _ + 14, _ => rfl) (show TeM w (#[.string ⟨#[]⟩, .slice xn.ba xn.bl xn.bc]) ds ((listed.setIfInBounds 7 true).getD 7 false) ((listed.setIfInBounds 7 true).getD 12 false) (v.heap.size, x.2) (v.alloc (.cells #[.string ⟨#[]⟩, .slice xn.ba xn.bl xn.bc] 52)) by rw [getD_setS (by rw [hsz]; decide), getD_setN (show 7 ≠ 12 by decide), l12]; exact m.lay) ?_
      show _ = Result.ok (Next.value (.slice (some ⟨v.heap.size, 0, none⟩) 1 1)) _
      simp [execOp, go_sem, e9]
    · cases ho
      have e0 := hF.old_is 0 (by rfl) rfl
      refine QJ.quiet (x := x) hsz hC hi hF (Slots.of (by rfl)) rfl (wanted_none rfl) (show TeM w (#[.string ⟨#[]⟩, .slice xn.ba xn.bl xn.bc]) ds ((listed.setIfInBounds 8 true).getD 7 false) ((listed.setIfInBounds 8 true).getD 12 false) x v by rw [getD_setN (show 8 ≠ 7 by decide), getD_setN (show 8 ≠ 12 by decide)]; exact hMb) ?_
      show _ = Result.ok (Next.value (.pointer (some ⟨bb, 0, none⟩))) v
      simp [execOp, go_sem, e0]
    · cases ho
      have e11 : b.tmps[11]? = some (.pointer (some ⟨bb, 0, none⟩)) := hF.up 8 11 rfl (hdeps ⟨8, .data⟩ (by simp) rfl)
      refine QJ.quiet (x := x) hsz hC hi hF (Slots.of (by rfl)) rfl (wanted_none rfl) (show TeM w (#[.string ⟨#[]⟩, .slice xn.ba xn.bl xn.bc]) ds ((listed.setIfInBounds 9 true).getD 7 false) ((listed.setIfInBounds 9 true).getD 12 false) x v by rw [getD_setN (show 9 ≠ 7 by decide), getD_setN (show 9 ≠ 12 by decide)]; exact hMb) ?_
      show _ = Result.ok (Next.value (.pointer (some ⟨bb, 0, none⟩))) v
      simp [execOp, go_sem, e11]
    · cases ho
      have e12 : b.tmps[12]? = some (.pointer (some ⟨bb, 0, none⟩)) := hF.up 9 12 rfl (hdeps ⟨9, .data⟩ (by simp) rfl)
      refine QJ.quiet (x := x) hsz hC hi hF (Slots.of (by rfl)) rfl (wanted_none rfl) (show TeM w (#[.string ⟨#[]⟩, .slice xn.ba xn.bl xn.bc]) ds ((listed.setIfInBounds 10 true).getD 7 false) ((listed.setIfInBounds 10 true).getD 12 false) x v by rw [getD_setN (show 10 ≠ 7 by decide), getD_setN (show 10 ≠ 12 by decide)]; exact hMb) ?_
      show _ = Result.ok (Next.value (.pointer (some ⟨bb, 1, none⟩))) v
      simp [execOp, go_sem, e12]
    · cases ho
      have n11 : v.cell? ⟨bb, 1, none⟩ = some (.slice da ds.length dc) := (hMb.below.cell (p := ⟨bb, 1, none⟩) HV.out.bblt).trans (two_blk HV.out.blk).1.2
      have e13 : b.tmps[13]? = some (.pointer (some ⟨bb, 1, none⟩)) := hF.up 10 13 rfl (hdeps ⟨10, .data⟩ (by simp) rfl)
      refine QJ.quiet (x := x) hsz hC hi hF (Slots.of (by rfl)) rfl (wanted_none rfl) (show TeM w (#[.string ⟨#[]⟩, .slice xn.ba xn.bl xn.bc]) ds ((listed.setIfInBounds 11 true).getD 7 false) ((listed.setIfInBounds 11 true).getD 12 false) x v by rw [getD_setN (show 11 ≠ 7 by decide), getD_setN (show 11 ≠ 12 by decide)]; exact hMb) ?_
      show _ = Result.ok (Next.value (.slice da ds.length dc)) v
      simp [execOp, go_sem, e13, n11]
    · cases ho
      have l13 : listed.getD 13 false = false := by
        cases hh : listed.getD 13 false
        · rfl
        · have y0 := hC 13 _ rfl hh ⟨12, .data⟩ (by simp) rfl; rw [hl1] at y0; cases y0
      have l7 := hdeps ⟨7, .data⟩ (by simp) rfl
      have m := hMb
      rw [hl1, l7] at m
      obtain ⟨hlit, hlx⟩ := m.lit rfl rfl
      have e10 : b.tmps[10]? = some (.slice (some ⟨x.1, 0, none⟩) 1 1) := hF.up 7 10 rfl (hdeps ⟨7, .data⟩ (by simp) rfl)
      have e14 : b.tmps[14]? = some (.slice da ds.length dc) := hF.up 11 14 rfl (hdeps ⟨11, .data⟩ (by simp) rfl)
      refine wpOp_wpG rfl (wanted_none rfl) ?_
      refine wp_append_opt (.tmp 10) (.tmp 14) 36 rfl w.heap.size 52 i0 (.agg #[.string ⟨#[]⟩, .slice none 0 0]) 2 40 Tryz.underlying36 hi0 hz0' hz1' hz2' rfl (by decide) (.slice (some ⟨x.1, 0, none⟩) 1 1) 1 (#[.string ⟨#[]⟩, .slice xn.ba xn.bl xn.bc] : Array Value).toList (by simp [Act.eval, e10]) (lit_own hlit hlx) da ds.length dc (ds.flatMap TpU.cells) (by simp [Act.eval, e14]) (tpu_len ds) (own_nilT HV.out.down) (own_readT (HV.out.below m.below).down) (tpu_one ds) (by simp [maxLen]; omega) (by omega) m.below.size ?_
      intro v2 w2 h1 h2 h3
      obtain ⟨g2, c2, rfl⟩ := own_someT h1
      exact ⟨by simp [hsz], hC.put hi, (x.1, g2, c2), (hF.congr (fun q hq => match q, (show q ≠ 12 by rintro rfl; rw [hl1] at hq; cases hq), (show q ≠ 13 by rintro rfl; rw [l13] at hq; cases hq) with | 0, _, _ => rfl | 1, _, _ => rfl | 2, _, _ => rfl | 3, _, _ => rfl | 4, _, _ => rfl | 5, _, _ => rfl | 6, _, _ => rfl | 7, _, _ => rfl | 8, _, _ => rfl | 9, _, _ => rfl | 10, _, _ => rfl | 11, _, _ => rfl | 12, h, _ => absurd rfl h | 13, _, h => absurd rfl h | _ + 14, _, _ => rfl)).put (Slots.of (by rfl)) hsz rfl, (show TeM w (#[.string ⟨#[]⟩, .slice xn.ba xn.bl xn.bc]) ds ((listed.setIfInBounds 12 true).getD 7 false) ((listed.setIfInBounds 12 true).getD 12 false) (x.1, g2, c2) w2 by rw [getD_setS (by rw [hsz]; decide), getD_setN (show 12 ≠ 7 by decide), l7]; exact m.app h1 h2 hlx)⟩
    · cases ho
      have e15 : b.tmps[15]? = some (.slice (some ⟨x.2.1, 0, none⟩) (1 + ds.length) x.2.2) := hF.up 12 15 rfl (hdeps ⟨12, .data⟩ (by simp) rfl)
      refine QJ.quiet (x := x) hsz hC hi hF (Slots.of (by rfl)) rfl (wanted_none rfl) (show TeM w (#[.string ⟨#[]⟩, .slice xn.ba xn.bl xn.bc]) ds ((listed.setIfInBounds 13 true).getD 7 false) ((listed.setIfInBounds 13 true).getD 12 false) x v by rw [getD_setN (show 13 ≠ 7 by decide), getD_setN (show 13 ≠ 12 by decide)]; exact hMb) ?_
      show _ = Result.ok (Next.value (.slice (some ⟨x.2.1, 0, none⟩) (1 + ds.length) x.2.2)) v
      simp [execOp, go_sem, e15]
  intro listed b6 W6 hJ hr'
  obtain ⟨hsz, hC, xx, hF, hM⟩ := hJ
  have hall := all_upB2 (by rfl) hsz hr'
  have hMb : TeM w (#[.string ⟨#[]⟩, .slice xn.ba xn.bl xn.bc]) ds (true) (true) xx W6 := by
    have h : TeM w (#[.string ⟨#[]⟩, .slice xn.ba xn.bl xn.bc]) ds (listed.getD 7 false) (listed.getD 12 false) xx W6 := hM
    rw [hall 7 (by decide), hall 12 (by decide)] at h
    exact h
  have hb : b6 = putAll _ _ _ 14 := hF.done (Slots.of (by rfl)) hall
  subst hb
  simp only [putAll]
  have HFIN := Lib.hid hMb
  obtain ⟨x1, g, k⟩ := xx
  simp [dstOf, Act.put]
  clear hF hC hall hr' hsz hM hMb
  go_wp2
  go_ret
  obtain ⟨bs, b1, b2, b3⟩ := HV.out.last.body
  have hb := HFIN.out.below
  have how := HFIN.out.own rfl
  have hfz : ∀ g, Fz base w c g → (base ≤ g ∧ g < W6.heap.size) := fun g hg => ⟨hg.1, Nat.lt_of_lt_of_le hg.2.1 hb.size⟩
  have hfs : ∀ g, Fz base w c g → W6.heap[g]? = w.heap[g]? := fun g hg => hb.block g hg.2.1
  have hdl : bd.defined.length = ds.length := by rw [← HV.out.dis, List.length_map]
  refine ⟨some ⟨g, 0, none⟩, ⟨[], xn.ba, xn.bc, bs⟩ :: ds, k, by rw [hdl]; rfl, hb.mono HV.out.le, ?_, ?_, fun u hu => ?_⟩
  · rw [List.map_cons, HV.out.dis]; show ([], bs.map (·.1)) :: _ = _; rw [b1]
  · have hg := how.lt g rfl
    refine .inr ⟨g, rfl, ⟨Nat.le_trans HV.out.le hg.1, hg.2⟩, fun j u hu => ?_⟩
    have := how.cells (g := g) rfl j u (by rw [b2]; exact hu)
    rwa [addr_add] at this
  · rcases List.mem_cons.1 hu with rfl | hu
    · exact ⟨b3.cells.keep (fun g hg => ⟨hg.1, Nat.lt_of_lt_of_le hg.2.1 hb.size⟩) (fun g hg => hb.block g hg.2.1), fun y hy => (b3.el y hy).keep hfz hfs⟩
    · exact (HV.out.dv u hu).keep hfz hfs
end Tr
end Go.Proofs.YtlfbcaenlifmkaaGreatDoor
