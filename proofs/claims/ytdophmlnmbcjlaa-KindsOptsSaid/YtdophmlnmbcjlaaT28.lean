/- number: that of the type that is there, or the next one. -/
import Derived.Test.YtdophmlnmbcjlaaT21
import Derived.Deep.QuietTactic
import Derived.BigQuiet
import Derived.Carry
import Derived.RegionTactic
import Derived.Test.YtdophmlnmbcjlaaT23
import Derived.Test.YtdophmlnmbcjlaaT27
namespace Go.Proofs.Ytdophmlnmbcjlaa
open Go.RowKit
namespace Sp
open Sc
set_option maxRecDepth 100000
theorem own_kz (k : Kz) (hk : KFit k) (w : World) : Calls Try.prog 80 #[.agg k.cells.toArray] w fun e w' => e = .returned (.agg k.cells.toArray) ∧ Below w.heap.size w w' :=
  own_key k.kind k.kids.length k.name (fun j => k.names.getD j []) (fun j => (k.kids.getD j 0 : Nat)) w hk.nm fun j => by
    show (k.names.getD j []).length ≤ 1000
    rw [List.getD]
    cases e : k.names[j]? with
    | none => simp
    | some x => exact hk.nms x (List.mem_of_getElem? e)
set_option maxHeartbeats 400000 in
/-- A type that is there. -/
theorem number_there (k : Kz) (hk : KFit k) (w : World) (tb rb nb mb sb m : Nat) (ty nu : Value) (T : List Kz) (hT : TabV w tb rb nb mb sb m ty nu T) (hin : k ∈ T) :
    Calls Try.prog 55 #[.pointer (some ⟨tb, 0, none⟩), .agg k.cells.toArray] w fun e w' => e = .returned (.tuple #[.int .i64 (T.idxOf k : Nat), .int .i64 0]) ∧ Below w.heap.size w w' := by
  obtain ⟨A, hA⟩ : ∃ A, A = k.cells.toArray := ⟨_, rfl⟩
  have hlen : k.cells.length = 19 := rfl
  obtain ⟨W0, hW0⟩ : ∃ W0, W0 = w.alloc (.cells A 91) := ⟨_, rfl⟩
  have hb0 : Below w.heap.size w W0 := by rw [hW0]; exact (Below.refl _ _).alloc (Nat.le_refl _) _
  have ha0 : W0.heap[w.heap.size]? = some (.cells k.cells.toArray 91 (0, 0)) := by rw [hW0, ← hA]; exact heap_alloc_new w _
  have hT0 := hT.below hb0
  rcases hT0.num with ⟨rfl, -, -⟩ | ⟨rfl, hN⟩
  · cases hin
  · obtain ⟨⟨t0, t1, t2, t3, t4⟩, -⟩ := five_blkF hT0.box
    have hlk : ∀ n, (Instr.lookup 73 (.map (some nb)) (.agg A) true).run Try.prog (W0.drewN n) = .ok (.tuple #[.int .i64 (T.idxOf k : Nat), .bool true]) (W0.drewN n) := fun n => by
      have := (show NumV (W0.drewN n) nb T from hN.same rfl).at_ok hk hT0.fit hT0.wf.nd
      rw [if_pos hin, show decide (k ∈ T) = true by simpa using hin] at this
      rw [hA]; exact this
    have hld : ∀ n, (Instr.loadAt 91 (.pointer (some ⟨w.heap.size, 0, none⟩))).run Try.prog (W0.drewN n) = .ok (.agg A) (W0.drewN n) := fun n => by
      rw [hA]
      exact run_loadAt_mid (W0.drewN n) w.heap.size 0 91 k.cells _ (rangeAt_blk (w := W0.drewN n) ha0) Try.underlying91 rfl (by rw [hlen]; exact infoKey)
    rw [← hA]
    have HB0 := Lib.hid hb0
    have HW0 := Lib.hid hW0
    generalize T.idxOf k = q at *
    clear hb0 ha0 hT0 hN hT hW0 hA hk hin hlen
    go_enter Try.func55, Try.ntmps55
    go_upto_region 1 with fail
    rw [← HW0.out]
    refine wp_region_quiet_lit (by kernel_rfl) (by kernel_rfl) ?_
    iterate 4 (quiet_step (fail))
    refine wpQuiet_load rfl 91 _ rfl rfl (.agg A) (by rintro w' ⟨n, rfl⟩; exact hld n) ?_
    simp only [Act.put]
    repeat (quiet_step (fail))
    refine wpQuiet_nil ?_
    rintro _ ⟨nq, rfl⟩
    go_wp2
    go_ret2
    exact ⟨rfl, HB0.out.os, HB0.out.tape, HB0.out.output, HB0.out.size, HB0.out.block⟩
-- NEW
theorem eval_of {b : Act} {i : Nat} {v : Value} (h : b.tmps[i]? = some v) : b.eval (.tmp i) = v := by simp [Act.eval, h]
theorem QJ.skipU {P : Program} {Q : Exit → Act → World → Prop} {α : Type} {ops : Array Oper} {vals : α → Nat → Value} {M : α → Array Bool → World → Prop} {a0 b : Act} {listed : Array Bool} {v v' : World} {i : Nat} {o : Oper} {x : α} (hz : listed.size = ops.size) (hC : Closed ops listed) (hi : i ∈ Region.ready .any ops listed) (hF : Fr ops a0 (vals x) listed b) (hs : Slots ops a0.tmps.size) (ho : ops[i]? = some o) (hg : Region.wanted o (yielded ops b.tmps) = true)
    (hM : M x (listed.setIfInBounds i true) v') (hu : vals x i = undef) (hr : (execOp b.eval o).run P v = .ok .skip v') : wpOp P ops Q i (fun b' v' => QJ vals M ops a0 (listed.setIfInBounds i true) b' v') b v := by
  refine wpOp_wpG ho hg ?_
  unfold Oper.wp
  rw [hr]
  exact ⟨by simp [hz], hC.put hi, x, hu ▸ hF.put hs hz ho, hM⟩
theorem build_key (A : Array Value) (hA : A.size = 19) (w : World) : (Instr.buildSlice 72 1 #[(0, .agg A)]).run Try.prog w = .ok (.slice (some ⟨w.heap.size, 0, none⟩) 1 1) (w.alloc (.cells A 91)) := by
  obtain ⟨l⟩ := A
  match l, hA with
  | [a0, a1, a2, a3, a4, a5, a6, a7, a8, a9, a10, a11, a12, a13, a14, a15, a16, a17, a18], _ => simp [Instr.buildSlice, go_sem]
def ZK : Value := .agg #[.int .i64 0, .string ⟨#[]⟩, .int .i64 0, .string ⟨#[]⟩, .string ⟨#[]⟩, .string ⟨#[]⟩, .string ⟨#[]⟩, .string ⟨#[]⟩, .string ⟨#[]⟩, .string ⟨#[]⟩, .string ⟨#[]⟩, .int .i64 0, .int .i64 0, .int .i64 0, .int .i64 0, .int .i64 0, .int .i64 0, .int .i64 0, .int .i64 0]
theorem infoKeyZ : (Try.prog.info? 91).map (fun i => (i.zero, i.size, i.bytes)) = some (some ZK, 19, 224) := by kernel_rfl
/-- What the append leaves. -/
def AppP (W : World) (A : Array Value) (ty : Value) (n : Nat) (xs : List Value) (v : World) (y : Value) : Prop :=
  ∃ g cap, y = .slice (some ⟨g, 0, none⟩) (n + 1) cap ∧ v.ownsRow 0 91 19 (.slice (some ⟨g, 0, none⟩) (n + 1) cap) (n + 1) (xs ++ A.toList) ∧ (W.alloc (.cells A 91)).grownBy v ty.ownBlock ∧ (ty.ownBlock = some g ∨ g = W.heap.size + 1) ∧ g < v.heap.size
def NumM (W : World) (tb : Nat) (A : Array Value) (ty : Value) (n : Nat) (xs : List Value) (x : Nat × Value) (listed : Array Bool) (v : World) : Prop :=
  match listed.getD 6 false, listed.getD 7 false, listed.getD 10 false with
  | false, false, false => v = W
  | true, false, false => v = W.alloc (.cells A 91) ∧ x.1 = W.heap.size
  | true, true, false => AppP W A ty n xs v x.2
  | true, true, true => ∃ w3, AppP W A ty n xs w3 x.2 ∧ v = w3.setCell ⟨tb, 0, none⟩ x.2
  | _, _, _ => False
section
variable {W v : World} {tb : Nat} {A : Array Value} {ty : Value} {n : Nat} {xs : List Value} {x : Nat × Value} {listed : Array Bool}
theorem NumM.at0 (h : NumM W tb A ty n xs x listed v) (h6 : listed.getD 6 false = false) (h7 : listed.getD 7 false = false) (h10 : listed.getD 10 false = false) : v = W := by
  unfold NumM at h; rw [h6, h7, h10] at h; exact h
theorem NumM.at1 (h : NumM W tb A ty n xs x listed v) (h6 : listed.getD 6 false = true) (h7 : listed.getD 7 false = false) (h10 : listed.getD 10 false = false) : v = W.alloc (.cells A 91) ∧ x.1 = W.heap.size := by
  unfold NumM at h; rw [h6, h7, h10] at h; exact h
theorem NumM.at2 (h : NumM W tb A ty n xs x listed v) (h6 : listed.getD 6 false = true) (h7 : listed.getD 7 false = true) (h10 : listed.getD 10 false = false) : AppP W A ty n xs v x.2 := by
  unfold NumM at h; rw [h6, h7, h10] at h; exact h
theorem NumM.at3 (h : NumM W tb A ty n xs x listed v) (h6 : listed.getD 6 false = true) (h7 : listed.getD 7 false = true) (h10 : listed.getD 10 false = true) : ∃ w3, AppP W A ty n xs w3 x.2 ∧ v = w3.setCell ⟨tb, 0, none⟩ x.2 := by
  unfold NumM at h; rw [h6, h7, h10] at h; exact h
theorem NumM.same (h : NumM W tb A ty n xs x listed v) (i : Nat) (h6 : i ≠ 6) (h7 : i ≠ 7) (h10 : i ≠ 10) : NumM W tb A ty n xs x (listed.setIfInBounds i true) v := by
  unfold NumM at h ⊢; rw [getD_setN h6, getD_setN h7, getD_setN h10]; exact h
theorem AppP.far {y : Value} (h : AppP W A ty n xs v y) {g : Nat} (hg : g < W.heap.size) (hx : ty.ownBlock ≠ some g) : v.heap[g]? = W.heap[g]? := by
  obtain ⟨g', cap, -, -, h3, -⟩ := h
  exact (h3.block g (by simp; omega) (fun e => hx e.symm)).trans (Below.heap_alloc _ _ _ hg)
theorem NumM.far (h : NumM W tb A ty n xs x listed v) {g : Nat} (hg : g < W.heap.size) (hx : ty.ownBlock ≠ some g) (hn : g ≠ tb ∨ listed.getD 10 false = false) : v.heap[g]? = W.heap[g]? := by
  unfold NumM at h
  generalize listed.getD 6 false = b6 at h
  generalize listed.getD 7 false = b7 at h
  generalize listed.getD 10 false = b10 at h hn
  match b6, b7, b10, h with
  | false, false, false, h => rw [show v = W from h]
  | true, false, false, h => rw [show v = _ from h.1]; exact Below.heap_alloc _ _ _ hg
  | true, true, false, h => exact AppP.far h hg hx
  | true, true, true, ⟨w3, hp, e⟩ =>
    rcases hn with hn | hn
    · rw [e, RowKit.Below.heap_setCell _ _ _ _ hn]; exact hp.far hg hx
    · cases hn
end
/-- Behind the map's making. -/
structure NumR (w : World) (tb nb mb sb m : Nat) (ty : Value) (A : Array Value) (T : List Kz) (wx : World) (nb2 : Nat) : Prop where
  box : wx.heap[tb]? = some (.cells #[ty, .map (some nb2), .map (some mb), .map (some sb), .int .i64 m] 75 (0, 0))
  num : NumV wx nb2 T
  key : wx.heap[w.heap.size]? = some (.cells A 91 (0, 0))
  keeps : Keeps (fun g => g = tb) w wx
  nb : (nb2 = nb ∧ nb ≠ tb) ∨ w.heap.size < nb2
  grown : w.heap.size < wx.heap.size
theorem set_five0 {w : World} {b : Nat} {t : TypeId} {v0 v1 v2 v3 v4 : Value} (h : w.heap[b]? = some (.cells #[v0, v1, v2, v3, v4] t (0, 0))) (v : Value) : (w.setCell ⟨b, 0, none⟩ v).heap[b]? = some (.cells #[v, v1, v2, v3, v4] t (0, 0)) := by
  unfold World.setCell; simp [Array.getElem?_modify, h]
theorem set_five1 {w : World} {b : Nat} {t : TypeId} {v0 v1 v2 v3 v4 : Value} (h : w.heap[b]? = some (.cells #[v0, v1, v2, v3, v4] t (0, 0))) (v : Value) : (w.setCell ⟨b, 1, none⟩ v).heap[b]? = some (.cells #[v0, v, v2, v3, v4] t (0, 0)) := by
  unfold World.setCell; simp [Array.getElem?_modify, h]
theorem set_five4 {w : World} {b : Nat} {t : TypeId} {v0 v1 v2 v3 v4 : Value} (h : w.heap[b]? = some (.cells #[v0, v1, v2, v3, v4] t (0, 0))) (v : Value) : (w.setCell ⟨b, 4, none⟩ v).heap[b]? = some (.cells #[v0, v1, v2, v3, v] t (0, 0)) := by
  unfold World.setCell; simp [Array.getElem?_modify, h]
/-- A row that is owned lies in a block of keys. -/
theorem own_key_blk {w : World} {v : Value} {n : Nat} {xs : List Value} (h : w.ownsRow 0 91 19 v n xs) {g : Nat} (hg : v.ownBlock = some g) : ∃ cs, w.heap[g]? = some (.cells cs 91 (0, 0)) := by
  obtain ⟨-, h2⟩ := h
  rcases h2 with ⟨rfl, -⟩ | ⟨g', cap, cur, rfl, -, e3, -⟩
  · cases hg
  · cases hg; exact ⟨_, e3⟩
theorem TabV.rowIs {w : World} {tb rb nb mb sb m : Nat} {ty nu : Value} {T : List Kz} (h : TabV w tb rb nb mb sb m ty nu T) {g : Nat} (hg : ty.ownBlock = some g) : g = rb := by
  rcases h.row with ⟨-, rfl, -⟩ | ⟨cap, rfl⟩
  · cases hg
  · cases hg; rfl
theorem TabV.notT {w : World} {tb rb nb mb sb m : Nat} {ty nu : Value} {T : List Kz} (h : TabV w tb rb nb mb sb m ty nu T) : ty.ownBlock ≠ some tb := fun e => by
  obtain ⟨cs, hc⟩ := own_key_blk h.own e
  rw [h.box] at hc
  simp only [Option.some.injEq, Obj.cells.injEq] at hc
  exact absurd hc.2.1 (by decide)
theorem TabV.rowLt {w : World} {tb rb nb mb sb m : Nat} {ty nu : Value} {T : List Kz} (h : TabV w tb rb nb mb sb m ty nu T) {g : Nat} (hg : ty.ownBlock = some g) : g < w.heap.size := by
  obtain ⟨cs, hc⟩ := own_key_blk h.own hg
  exact (Array.getElem?_eq_some_iff.1 hc).1
theorem own_same {w w' : World} {v : Value} {n : Nat} {xs : List Value} (h : w.ownsRow 0 91 19 v n xs) (hk : ∀ g, v.ownBlock = some g → w'.heap[g]? = w.heap[g]?) : w'.ownsRow 0 91 19 v n xs := by
  obtain ⟨h1, h2⟩ := h
  refine ⟨h1, ?_⟩
  rcases h2 with h2 | ⟨g, cap, cur, rfl, e2, e3, e4⟩
  · exact .inl h2
  · exact .inr ⟨g, cap, cur, rfl, e2, (hk g rfl).trans e3, e4⟩
theorem NumR.own {w wx : World} {tb rb nb mb sb m : Nat} {ty nu : Value} {A : Array Value} {T : List Kz} {nb2 : Nat} (h : NumR w tb nb mb sb m ty A T wx nb2) (hT : TabV w tb rb nb mb sb m ty nu T) : wx.ownsRow 0 91 19 ty T.length (T.flatMap Kz.cells) :=
  own_same hT.own fun g hg => h.keeps.block g (hT.rowLt hg) (fun e => hT.notT (e ▸ hg))
theorem NumV.isMap {w : World} {b : Nat} {T : List Kz} (h : NumV w b T) : ∃ es clock, w.heap[b]? = some (.map es clock) := by
  obtain ⟨es, clock, h1, h2⟩ := h
  exact ⟨es, clock, h1⟩
theorem num_done {w wc w2 w3 w5 : World} {tb rb nb mb sb m nb2 g cap : Nat} {ty nu : Value} {A : Array Value} {T : List Kz} {k : Kz} (hT : TabV w tb rb nb mb sb m ty nu T) (H : NumR w tb nb mb sb m ty A T wc nb2) (x2 : Below wc.heap.size wc w2) (hA : A.toList = k.cells)
    (hap : AppP w2.drew A ty T.length (T.flatMap Kz.cells) w3 (.slice (some ⟨g, 0, none⟩) (T.length + 1) cap)) (h5 : (w3.setCell ⟨tb, 0, none⟩ (.slice (some ⟨g, 0, none⟩) (T.length + 1) cap)).grownBy w5 (some nb2)) (hN5 : NumV w5 nb2 (T ++ [k]))
    (hk : KFit k) (hj : ∀ j ∈ k.kids, j < T.length) (hin : ¬ k ∈ T) (h120 : ¬ 120 ≤ T.length) : Added w w5 tb rb nb mb sb m (T ++ [k]) g nb2 (.slice (some ⟨g, 0, none⟩) (T.length + 1) cap) (.map (some nb2)) := by
  have hap' := hap
  obtain ⟨g', cap', hy, h2, h3, h4, h5'⟩ := hap
  cases hy
  have htl := hT.tlt
  have s1 := H.keeps.size
  have s2 := x2.size
  have s3 := h3.size
  simp at s3
  have s5 := h5.size
  simp at s5
  have hx0 : ∀ g, g < wc.heap.size → ty.ownBlock ≠ some g → w3.heap[g]? = wc.heap[g]? := fun g hg hx => (hap'.far (show g < w2.heap.size by omega) hx).trans (x2.block g hg)
  have hbx : w3.heap[tb]? = some (.cells #[ty, .map (some nb2), .map (some mb), .map (some sb), .int .i64 m] 75 (0, 0)) := (hx0 tb (by omega) hT.notT).trans H.box
  obtain ⟨es, cl, hm5⟩ := hN5.isMap
  have hnt : nb2 ≠ tb := by
    rcases H.nb with ⟨rfl, h⟩ | h
    · exact h
    · omega
  obtain ⟨cs, hgk⟩ := own_key_blk h2 (g := g) rfl
  have hgt : g ≠ tb := fun e => by
    rw [e, hbx] at hgk
    simp only [Option.some.injEq, Obj.cells.injEq] at hgk
    exact absurd hgk.2.1 (by decide)
  have hgn : g ≠ nb2 := fun e => by
    have hl : nb2 < wc.heap.size := H.num.lt
    obtain ⟨es', cl', hm⟩ := H.num.isMap
    rcases h4 with h4 | h4
    · obtain ⟨cs', hc⟩ := own_key_blk (H.own hT) h4
      rw [e, hm] at hc; cases hc
    · simp at h4; omega
  have hset : ∀ b, b ≠ tb → (w3.setCell ⟨tb, 0, none⟩ (.slice (some ⟨g, 0, none⟩) (T.length + 1) cap)).heap[b]? = w3.heap[b]? := fun b hb => RowKit.Below.heap_setCell _ _ _ _ hb
  refine ⟨⟨?_, ?_, .inr ⟨cap, by simp⟩, .inr ⟨rfl, hN5⟩, fun x hx => ?_, ?_, by have := hT.mlt; omega, by have := hT.slt; omega, ?_, ?_⟩, ?_, ?_⟩
  · rw [h5.block tb (by simp; omega) (by simpa using fun e => hnt e.symm)]
    exact set_five0 hbx _
  · have := own_same (w' := w5) h2 fun b hb => by
      cases hb
      rw [h5.block g (by simp; exact h5') (by simpa using hgn)]
      exact hset g hgt
    rw [hA] at this
    simpa using this
  · rcases List.mem_append.1 hx with hx | hx
    · exact hT.fit x hx
    · rw [List.mem_singleton.1 hx]; exact hk
  · have := numK_wf hT.wf hk.toWfK hj
    unfold numK at this
    rwa [if_neg hin, if_neg h120] at this
  · rcases H.nb with ⟨rfl, -⟩ | h
    · exact hT.nm
    · have := hT.mlt; omega
  · rcases H.nb with ⟨rfl, -⟩ | h
    · exact hT.ns
    · have := hT.slt; omega
  · refine ⟨h5.os.trans (h3.os.trans (x2.os.trans H.keeps.os)), h5.tape.trans (h3.tape.trans (x2.tape.trans H.keeps.tape)), h5.output.trans (h3.output.trans (x2.output.trans H.keeps.output)), by omega, fun b hb hn => ?_⟩
    have hbt : b ≠ tb := fun e => hn (.inl e)
    rw [h5.block b (by simp; omega) (by
      simp only [ne_eq, Option.some.injEq]
      rintro rfl
      rcases H.nb with ⟨rfl, -⟩ | h
      · exact hn (.inr (.inr rfl))
      · omega), hset b hbt, hx0 b (by omega) (fun e => hn (.inr (.inl (hT.rowIs e))))]
    exact H.keeps.block b hb hbt
  · refine ⟨?_, ?_⟩
    · rcases h4 with h4 | h4
      · exact .inl (hT.rowIs h4)
      · simp at h4; exact .inr (by omega)
    · rcases H.nb with ⟨rfl, -⟩ | h
      · exact .inl rfl
      · exact .inr (by omega)
set_option maxHeartbeats 8000000 in
/-- A type that is not there. -/
theorem number_new (k : Kz) (hk : KFit k) (w : World) (tb rb nb mb sb m : Nat) (ty nu : Value) (T : List Kz) (hT : TabV w tb rb nb mb sb m ty nu T) (hin : ¬ k ∈ T) (hj : ∀ j ∈ k.kids, j < T.length) :
    Calls Try.prog 55 #[.pointer (some ⟨tb, 0, none⟩), .agg k.cells.toArray] w fun e w' => ∃ rb' nb' ty' nu', e = .returned (.tuple #[.int .i64 ((numK T k).1 : Nat), .int .i64 ((numK T k).2.1 : Nat)]) ∧ Added w w' tb rb nb mb sb m (numK T k).2.2 rb' nb' ty' nu' := by
  obtain ⟨A, hA⟩ : ∃ A, A = k.cells.toArray := ⟨_, rfl⟩
  have hlen : k.cells.length = 19 := rfl
  have hal : A.size = 19 := by rw [hA]; rfl
  obtain ⟨W0, hW0⟩ : ∃ W0, W0 = w.alloc (.cells A 91) := ⟨_, rfl⟩
  have hb0 : Below w.heap.size w W0 := by rw [hW0]; exact (Below.refl _ _).alloc (Nat.le_refl _) _
  have ha0 : W0.heap[w.heap.size]? = some (.cells k.cells.toArray 91 (0, 0)) := by rw [hW0, ← hA]; exact heap_alloc_new w _
  have hz0 : W0.heap.size = w.heap.size + 1 := by rw [hW0]; simp
  have hT0 := hT.below hb0
  obtain ⟨ta, tc, hty⟩ : ∃ ta tc, ty = .slice ta T.length tc := by
    rcases hT.row with ⟨rfl, rfl, -⟩ | ⟨cap, rfl⟩
    · exact ⟨none, 0, rfl⟩
    · exact ⟨_, _, rfl⟩
  obtain ⟨mv, hmv⟩ : ∃ mv, nu = .map mv := by
    rcases hT.num with ⟨-, rfl, -⟩ | ⟨rfl, -⟩
    · exact ⟨_, rfl⟩
    · exact ⟨_, rfl⟩
  have hlk : ∀ n, (Instr.lookup 73 nu (.agg A) true).run Try.prog (W0.drewN n) = .ok (.tuple #[.int .i64 0, .bool false]) (W0.drewN n) := fun n => by
    rw [hA]
    rcases hT0.num with ⟨-, rfl, -⟩ | ⟨rfl, hN⟩
    · exact num_nil _ hk
    · have := (show NumV (W0.drewN n) nb T from hN.same rfl).at_ok hk hT0.fit hT0.wf.nd
      rw [if_neg hin, show decide (k ∈ T) = false by simpa using hin] at this
      exact this
  have hld : ∀ n, (Instr.loadAt 91 (.pointer (some ⟨w.heap.size, 0, none⟩))).run Try.prog (W0.drewN n) = .ok (.agg A) (W0.drewN n) := fun n => by
    rw [hA]
    exact run_loadAt_mid (W0.drewN n) w.heap.size 0 91 k.cells _ (rangeAt_blk (w := W0.drewN n) ha0) Try.underlying91 rfl (by rw [hlen]; exact infoKey)
  have hown80 : ∀ W, Calls Try.prog 80 #[.agg A] W fun e w' => e = .returned (.agg A) ∧ Below W.heap.size W w' := fun W => by rw [hA]; exact own_kz k hk W
  have hone : ∀ u ∈ A.toList, u.oneCell' = true := by rw [hA]; simpa using k.one
  have hal2 : A.toList = k.cells := by rw [hA]
  have hTlen := hT.wf.len
  have hlt := hT.tlt
  obtain ⟨⟨t0, t1, t2, t3, t4⟩, ⟨-, f1, -⟩⟩ := five_blkF hT0.box
  obtain ⟨p, hp⟩ : ∃ p, p = numK T k := ⟨_, rfl⟩
  have HV : Hid (p = if 120 ≤ T.length then (0, 20, T) else (T.length, 0, T ++ [k])) := by unfold Hid; rw [hp]; unfold numK; rw [if_neg hin]
  rw [← hp]
  clear hp
  rw [← hA]
  rw [← hA] at ha0
  have HB0 := Lib.hid hb0; have HW0 := Lib.hid hW0; have HA0 := Lib.hid ha0; have HT := Lib.hid hT; have HTY := Lib.hid hty; have HK := Lib.hid hk; have HJ := Lib.hid hj; have HIN := Lib.hid hin; have HO80 := Lib.hid hown80; have HONE := Lib.hid hone; have HAL := Lib.hid hal; have HAL2 := Lib.hid hal2; have HMV := Lib.hid hmv
  rw [hty] at t0
  rw [hmv] at t1
  rw [hmv] at hlk
  clear hb0 ha0 hT hT0 hW0 hA hk hin hlen hty hj hown80 hone hal hal2 hmv
  go_enter Try.func55, Try.ntmps55
  go_upto_region 1 with fail
  rw [← HW0.out]
  refine wp_region_quiet_lit (by kernel_rfl) (by kernel_rfl) ?_
  iterate 4 (quiet_step (fail))
  refine wpQuiet_load rfl 91 _ rfl rfl (.agg A) (by rintro w' ⟨n, rfl⟩; exact hld n) ?_
  simp only [Act.put]
  repeat (quiet_step (fail))
  refine wpQuiet_nil ?_
  rintro _ ⟨nq, rfl⟩
  clear hlk hld
  by_cases h120 : 120 ≤ T.length
  · have h120z : (120 : Int) ≤ (T.length : Int) := by omega
    have hB : Below w.heap.size w (W0.drewN nq) := ⟨HB0.out.os, HB0.out.tape, HB0.out.output, HB0.out.size, HB0.out.block⟩
    have HBB := Lib.hid hB
    clear hB
    go_wp2
    go_ret2
    rw [HV.out, if_pos h120]
    exact ⟨rb, nb, ty, nu, rfl, HT.out.below HBB.out, Keeps.of_below HBB.out, Grew.refl _ _ _ _⟩
  · have h120z : ¬ (120 : Int) ≤ (T.length : Int) := by omega
    obtain ⟨W1, hW1⟩ : ∃ W1, W1 = W0.drewN nq := ⟨_, rfl⟩
    have hB1 : Below w.heap.size w W1 := by rw [hW1]; exact ⟨HB0.out.os, HB0.out.tape, HB0.out.output, HB0.out.size, HB0.out.block⟩
    have ha1 : W1.heap[w.heap.size]? = some (.cells A 91 (0, 0)) := by rw [hW1]; exact HA0.out
    have hz1 : W1.heap.size = w.heap.size + 1 := by rw [hW1]; exact hz0
    have hT1 := HT.out.below hB1
    clear t0 t1 t2 t3 t4 f1
    obtain ⟨⟨t0, t1, t2, t3, t4⟩, ⟨-, f1, -⟩⟩ := five_blkF hT1.box
    rw [HTY.out] at t0
    rw [HMV.out] at t1
    rw [← hW1]
    have HB1 := Lib.hid hB1; have HA1 := Lib.hid ha1; have HT1 := Lib.hid hT1
    clear hW1 hB1 ha1 hT1
    have hmm := @run_makeMap Try.prog
    have hbo : (binOp BinOp.eql 73 (.map mv) (.map none)).run Try.prog W1 = .ok (.bool mv.isNone) W1 := by cases mv <;> rfl
    go_upto_if 31 with fail
    go_cut [] (fun wx => ∃ nb2, NumR w tb nb mb sb m ty A T wx nb2)
    case first =>
      rcases HT.out.num with ⟨e1, e2, e3⟩ | ⟨e2, hN⟩
      · rw [HMV.out] at e2
        cases e2
        have HE1 := Lib.hid e1; have HE3 := Lib.hid e3
        clear e1 e3
        go_wp2
        go_meet
        case rel =>
          refine ⟨w.heap.size + 1, ?_, ?_, ?_, ?_, .inr (by omega), by simp; omega⟩
          · rw [Below.heap_alloc _ _ _ (by simp; omega)]
            exact set_five1 HT1.out.box _
          · have hm0 := NumV.made (W1.setCell ⟨tb, 1, none⟩ (.map (some (w.heap.size + 1))))
            rw [show (W1.setCell ⟨tb, 1, none⟩ (.map (some (w.heap.size + 1)))).heap.size = w.heap.size + 1 by simp; omega] at hm0
            rw [HE1.out]; exact hm0
          · rw [Below.heap_alloc _ _ _ (by simp; omega), RowKit.Below.heap_setCell _ _ _ _ (by show w.heap.size ≠ tb; omega)]
            exact HA1.out
          · exact (Keeps.setCell (O := fun g => g = tb) (Keeps.of_below HB1.out) 1 _ rfl).alloc _
      · rw [HMV.out] at e2
        cases e2
        have HN := Lib.hid hN
        clear hN
        go_wp2
        go_meet
        case rel =>
          have hN1 : NumV W1 nb T := HN.out.same (HB1.out.block nb HN.out.lt)
          obtain ⟨es, cl, hm⟩ := HN.out.isMap
          refine ⟨nb, ?_, hN1, HA1.out, Keeps.of_below HB1.out, .inl ⟨rfl, fun e => ?_⟩, by omega⟩
          · have := HT1.out.box; rwa [HMV.out] at this
          · rw [e, HT.out.box] at hm; cases hm
    case rest =>
      obtain ⟨nb2, h⟩ := hcut
      clear t0 t1 t2 t3 t4 f1
      have hkl0 := h.grown
      have H := Lib.hid h
      clear h
      have RA := Lib.hid (rangeAt_blk (cs := A.toList) (by simpa using H.out.key))
      go_upto_region 9 with fail
      refine wp_region_lit ?_
      refine wpList_load_mid rfl 91 _ rfl w.heap.size 0 rfl A.toList _ RA.out Try.underlying91 rfl (by rw [Array.length_toList, HAL.out]; exact infoKey) ?_
      rw [Array.toArray_toList]
      refine wpList_enter (f := 80) (args := #[.agg A]) rfl (by simp [go_sem]) (HO80.out _) ?_
      rintro e w2 ⟨rfl, x2⟩
      refine ⟨_, rfl, ?_⟩
      have kb2 := (x2.block w.heap.size hkl0).trans H.out.key
      refine wpList_store_mid rfl 91 _ _ rfl w.heap.size 0 A rfl rfl (by have := there_blk (w := w2) (cs := A.toList) (by simpa using kb2); simpa using this) (by rw [HAL.out]; exact infoKey) (by have := all_oneCell_toArray HONE.out; simpa using this) ?_
      rw [setCells_keep (by simpa using kb2)]
      refine wpList_nil ?_
      simp only [Act.put]
      have X2 := Lib.hid x2
      have hbx2 := (x2.block tb (by have := H.out.keeps.size; omega)).trans H.out.box
      have hs2 := x2.size
      obtain ⟨W, hW⟩ : ∃ W, W = w2.drew := ⟨_, rfl⟩
      have hzW : W.heap.size = w2.heap.size := by rw [hW]; rfl
      have htl : tb < W.heap.size := by have := H.out.keeps.size; omega
      have hkl : w.heap.size < W.heap.size := by omega
      have HNE : Hid (ty.ownBlock ≠ some tb) := HT.out.notT
      have HNK : Hid (ty.ownBlock ≠ some w.heap.size) := fun e => by have := HT.out.rowLt e; omega
      have HKT : Hid (w.heap.size ≠ tb) := by unfold Hid; omega
      have HBX : Hid (W.heap[tb]? = some (.cells #[ty, .map (some nb2), .map (some mb), .map (some sb), .int .i64 m] 75 (0, 0))) := by rw [hW]; exact hbx2
      have HKB : Hid (W.heap[w.heap.size]? = some (.cells A 91 (0, 0))) := by rw [hW]; exact kb2
      have HOWN : Hid (W.ownsRow 0 91 19 ty T.length (T.flatMap Kz.cells)) := by
        rw [hW]
        exact own_same (H.out.own HT.out) fun g hg => x2.block g (by have := HT.out.rowLt hg; have := H.out.keeps.size; omega)
      obtain ⟨i0, hi, hz0', hz1', hz2'⟩ := info_parts infoKeyZ
      have HI := Lib.hid hi; have HI0 := Lib.hid hz0'; have HI1 := Lib.hid hz1'; have HI2 := Lib.hid hz2'
      have HW := Lib.hid hW
      clear hi hz0' hz1' hz2' hbx2 kb2 x2 hW RA
      obtain ⟨n, hn⟩ : ∃ n, n = T.length := ⟨_, rfl⟩
      obtain ⟨xs, hxs⟩ : ∃ xs, xs = T.flatMap Kz.cells := ⟨_, rfl⟩
      obtain ⟨kb, hkb⟩ : ∃ kb, kb = w.heap.size := ⟨_, rfl⟩
      rw [← hn, ← hxs] at HOWN
      rw [← hkb] at HKB HKT HNK hkl
      have hn120 : n ≤ 120 := by omega
      rw [← hkb, ← hn]
      have HNN := Lib.hid hn; have HXS := Lib.hid hxs; have HKBB := Lib.hid hkb
      clear hn hxs hkb
      go_upto_region 10 with fail
      refine wp_region_by (QJ (fun (x : Nat × Value) i => match i with | 0 => .pointer (some ⟨tb, 0, none⟩) | 1 => .pointer (some ⟨tb, 0, none⟩) | 2 => .pointer (some ⟨tb, 0, none⟩) | 3 => .pointer (some ⟨tb, 0, none⟩) | 4 => ty | 5 => .agg A | 6 => .slice (some ⟨x.1, 0, none⟩) 1 1 | 7 => x.2 | 8 => .pointer (some ⟨tb, 0, none⟩) | 9 => .pointer (some ⟨tb, 0, none⟩) | 10 => undef | _ => undef) (NumM W tb A ty n xs)) (by kernel_rfl) ?_ ?_ ?_
      · exact ⟨by simp, Closed.start _, (0, undef), Fr.start _ _ _, HW.out.symm⟩
      · intro listed b v q hJ hi
        obtain ⟨hsz, hC, x, hF, hM⟩ := hJ
        obtain ⟨hl1, hiN⟩ := not_up hsz hi
        obtain ⟨_, o, ho, hdeps⟩ := mem_ready.1 hi
        have hiN : q < 11 := hiN
        obtain rfl | rfl | rfl | rfl | rfl | rfl | rfl | rfl | rfl | rfl | rfl : q = 0 ∨ q = 1 ∨ q = 2 ∨ q = 3 ∨ q = 4 ∨ q = 5 ∨ q = 6 ∨ q = 7 ∨ q = 8 ∨ q = 9 ∨ q = 10 := by omega
        · cases ho
          have e0 := hF.old_is 0 (by rfl) rfl
          refine QJ.quiet (x := x) hsz hC hi hF (Slots.of (by rfl)) rfl (wanted_none rfl) (hM.same 0 (by decide) (by decide) (by decide)) ?_
          show _ = Result.ok (Next.value (.pointer (some ⟨tb, 0, none⟩))) v
          simp [execOp, go_sem, e0]
        · cases ho
          have e0 := hF.old_is 0 (by rfl) rfl
          refine QJ.quiet (x := x) hsz hC hi hF (Slots.of (by rfl)) rfl (wanted_none rfl) (hM.same 1 (by decide) (by decide) (by decide)) ?_
          show _ = Result.ok (Next.value (.pointer (some ⟨tb, 0, none⟩))) v
          simp [execOp, go_sem, e0]
        · cases ho
          have e39 : b.tmps[39]? = some (.pointer (some ⟨tb, 0, none⟩)) := hF.up 1 39 rfl (hdeps ⟨1, .data⟩ (by simp) rfl)
          refine QJ.quiet (x := x) hsz hC hi hF (Slots.of (by rfl)) rfl (wanted_none rfl) (hM.same 2 (by decide) (by decide) (by decide)) ?_
          show _ = Result.ok (Next.value (.pointer (some ⟨tb, 0, none⟩))) v
          simp [execOp, go_sem, e39]
        · cases ho
          have e40 : b.tmps[40]? = some (.pointer (some ⟨tb, 0, none⟩)) := hF.up 2 40 rfl (hdeps ⟨2, .data⟩ (by simp) rfl)
          refine QJ.quiet (x := x) hsz hC hi hF (Slots.of (by rfl)) rfl (wanted_none rfl) (hM.same 3 (by decide) (by decide) (by decide)) ?_
          show _ = Result.ok (Next.value (.pointer (some ⟨tb, 0, none⟩))) v
          simp [execOp, go_sem, e40]
        · cases ho
          have l10 : listed.getD 10 false = false := by
            cases hh : listed.getD 10 false
            · rfl
            · have y0 := hC 10 _ rfl hh ⟨4, .phase⟩ (by simp) rfl; rw [hl1] at y0; cases y0
          obtain ⟨⟨y0, y1, y2, y3, y4⟩, -⟩ := five_blkF ((hM.far (g := tb) htl HNE.out (.inr l10)).trans HBX.out)
          have e41 : b.tmps[41]? = some (.pointer (some ⟨tb, 0, none⟩)) := hF.up 3 41 rfl (hdeps ⟨3, .data⟩ (by simp) rfl)
          refine QJ.quiet (x := x) hsz hC hi hF (Slots.of (by rfl)) rfl (wanted_none rfl) (hM.same 4 (by decide) (by decide) (by decide)) ?_
          show _ = Result.ok (Next.value (ty)) v
          simp [execOp, go_sem, e41, y0]
        · cases ho
          have kb1 := (hM.far (g := kb) hkl HNK.out (.inl HKT.out)).trans HKB.out
          have yk := run_loadAt_mid (P := Try.prog) v kb 0 91 A.toList _ (rangeAt_blk (by simpa using kb1)) Try.underlying91 rfl (by rw [Array.length_toList, HAL.out]; exact infoKey)
          rw [Array.toArray_toList] at yk
          have e3 := hF.old_is 3 (by rfl) rfl
          refine QJ.quiet (x := x) hsz hC hi hF (Slots.of (by rfl)) rfl (wanted_none rfl) (hM.same 5 (by decide) (by decide) (by decide)) ?_
          show _ = Result.ok (Next.value (.agg A)) v
          have ev : b.eval (.tmp 3) = .pointer (some ⟨kb, 0, none⟩) := eval_of e3
          exact exec_load rfl ev yk
        · cases ho
          have l7 : listed.getD 7 false = false := by
            cases hh : listed.getD 7 false
            · rfl
            · have y0 := hC 7 _ rfl hh ⟨6, .data⟩ (by simp) rfl; rw [hl1] at y0; cases y0
          have l10 : listed.getD 10 false = false := by
            cases hh : listed.getD 10 false
            · rfl
            · have y0 := hC 10 _ rfl hh ⟨6, .phase⟩ (by simp) rfl; rw [hl1] at y0; cases y0
          obtain rfl : v = W := hM.at0 hl1 l7 l10
          have e43 : b.tmps[43]? = some (.agg A) := hF.up 5 43 rfl (hdeps ⟨5, .data⟩ (by simp) rfl)
          refine QJ.make (v' := v.alloc (.cells A 91)) (x := x) (x' := (v.heap.size, x.2)) hsz hC hi hF (Slots.of (by rfl)) rfl (wanted_none rfl) (fun q hq => by
            match q, (show q ≠ 6 by rintro rfl; rw [hl1] at hq; cases hq) with
            | 0, _ => rfl
            | 1, _ => rfl
            | 2, _ => rfl
            | 3, _ => rfl
            | 4, _ => rfl
            | 5, _ => rfl
            | 7, _ => rfl
            | 8, _ => rfl
            | 9, _ => rfl
            | 10, _ => rfl
            | 6, h => exact absurd rfl h
            | _ + 11, _ => rfl) (by
            unfold NumM
            rw [getD_setE (i := 6) (by simp [hsz]), getD_setN (show 6 ≠ 7 by decide), getD_setN (show 6 ≠ 10 by decide), l7, l10]
            exact ⟨rfl, rfl⟩) ?_
          have ev : b.eval (.tmp 43) = .agg A := eval_of e43
          exact exec_build1 rfl ev (build_key A HAL.out v)
        · cases ho
          have l10 : listed.getD 10 false = false := by
            cases hh : listed.getD 10 false
            · rfl
            · have y0 := hC 10 _ rfl hh ⟨7, .data⟩ (by simp) rfl; rw [hl1] at y0; cases y0
          have l6 := hdeps ⟨6, .data⟩ (by simp) rfl
          obtain ⟨rfl, hx1⟩ := hM.at1 l6 hl1 l10
          have e42 : b.tmps[42]? = some (ty) := hF.up 4 42 rfl (hdeps ⟨4, .data⟩ (by simp) rfl)
          have e44 : b.tmps[44]? = some (.slice (some ⟨x.1, 0, none⟩) 1 1) := hF.up 6 44 rfl (hdeps ⟨6, .data⟩ (by simp) rfl)
          have hbk : (W.alloc (.cells A 91)).heap[x.1]? = some (.cells A 91 (0, 0)) := by rw [hx1]; exact heap_alloc_new W _
          obtain ⟨g, cap, w3, hr, h2, h3, h4, h5⟩ := run_append_lies (P := Try.prog) (W.alloc (.cells A 91)) 72 72 0 91 i0 ZK 19 224 Try.underlying72 HI.out HI0.out HI1.out HI2.out rfl (by decide) ty n xs (HOWN.out.alloc _) ⟨x.1, 0, none⟩ 1 1 A.toList (by rw [Array.length_toList, HAL.out]) (World.news_of_block hbk) HONE.out (by decide) (by unfold maxLen; omega) (by omega) (Nat.zero_le _) (W.heap.size + 1) (by simp)
          refine QJ.make (v' := w3) (x := x) (x' := (x.1, .slice (some ⟨g, 0, none⟩) (n + 1) cap)) hsz hC hi hF (Slots.of (by rfl)) rfl (wanted_none rfl) (fun q hq => by
            match q, (show q ≠ 7 by rintro rfl; rw [hl1] at hq; cases hq) with
            | 0, _ => rfl
            | 1, _ => rfl
            | 2, _ => rfl
            | 3, _ => rfl
            | 4, _ => rfl
            | 5, _ => rfl
            | 6, _ => rfl
            | 8, _ => rfl
            | 9, _ => rfl
            | 10, _ => rfl
            | 7, h => exact absurd rfl h
            | _ + 11, _ => rfl) (by
            unfold NumM
            rw [getD_setE (i := 7) (by simp [hsz]), getD_setN (show 7 ≠ 6 by decide), getD_setN (show 7 ≠ 10 by decide), l6, l10]
            exact ⟨g, cap, rfl, h2, h3, h4, h5⟩) ?_
          have ea : b.eval (.tmp 42) = ty := eval_of e42
          have eb : b.eval (.tmp 44) = .slice (some ⟨x.1, 0, none⟩) 1 1 := eval_of e44
          exact exec_append rfl ea eb hr
        · cases ho
          have e38 : b.tmps[38]? = some (.pointer (some ⟨tb, 0, none⟩)) := hF.up 0 38 rfl (hdeps ⟨0, .data⟩ (by simp) rfl)
          refine QJ.quiet (x := x) hsz hC hi hF (Slots.of (by rfl)) rfl (wanted_none rfl) (hM.same 8 (by decide) (by decide) (by decide)) ?_
          show _ = Result.ok (Next.value (.pointer (some ⟨tb, 0, none⟩))) v
          simp [execOp, go_sem, e38]
        · cases ho
          have e46 : b.tmps[46]? = some (.pointer (some ⟨tb, 0, none⟩)) := hF.up 8 46 rfl (hdeps ⟨8, .data⟩ (by simp) rfl)
          refine QJ.quiet (x := x) hsz hC hi hF (Slots.of (by rfl)) rfl (wanted_none rfl) (hM.same 9 (by decide) (by decide) (by decide)) ?_
          show _ = Result.ok (Next.value (.pointer (some ⟨tb, 0, none⟩))) v
          simp [execOp, go_sem, e46]
        · cases ho
          have l6 := hdeps ⟨6, .phase⟩ (by simp) rfl
          have l7 := hdeps ⟨7, .phase⟩ (by simp) rfl
          obtain ⟨g, cap, hy, h2, h3, h4, h5⟩ := hM.at2 l6 l7 hl1
          have e47 : b.tmps[47]? = some (.pointer (some ⟨tb, 0, none⟩)) := hF.up 9 47 rfl (hdeps ⟨9, .data⟩ (by simp) rfl)
          have e45 : b.tmps[45]? = some (x.2) := hF.up 7 45 rfl (hdeps ⟨7, .data⟩ (by simp) rfl)
          have hfb : v.heap[tb]? = W.heap[tb]? := hM.far (g := tb) htl HNE.out (.inr hl1)
          obtain ⟨-, ⟨f0, -⟩⟩ := five_blkF (hfb.trans HBX.out)
          obtain ⟨⟨y0, -⟩, -⟩ := five_blkF (hfb.trans HBX.out)
          rw [hy] at e45
          refine QJ.skipU (v' := v.setCell ⟨tb, 0, none⟩ (.slice (some ⟨g, 0, none⟩) (n + 1) cap)) (x := x) hsz hC hi hF (Slots.of (by rfl)) rfl (wanted_none rfl) (by
            unfold NumM
            rw [getD_setE (i := 10) (by simp [hsz]), getD_setN (show 10 ≠ 6 by decide), getD_setN (show 10 ≠ 7 by decide), l6, l7]
            exact ⟨v, ⟨g, cap, hy, h2, h3, h4, h5⟩, by rw [hy]⟩) rfl ?_
          simp [execOp, go_sem, e47, e45, y0, f0]
      · intro listed b v hJ hr
        obtain ⟨hsz, hC, x, hF, hM⟩ := hJ
        have hall := all_upB (by rfl) hsz hr
        have hb : b = putAll _ _ _ 11 := hF.done (Slots.of (by rfl)) hall
        subst hb
        obtain ⟨w3, ⟨g, cap, hy, h2, h3, h4, h5⟩, rfl⟩ := hM.at3 (hall 6 (by decide)) (hall 7 (by decide)) (hall 10 (by decide))
        simp only [putAll]
        simp [dstOf, Act.put]
        rw [hy]
        have hap : AppP w2.drew A ty T.length (T.flatMap Kz.cells) w3 (.slice (some ⟨g, 0, none⟩) (T.length + 1) cap) := by
          rw [← HW.out, ← HNN.out, ← HXS.out]; exact ⟨g, cap, rfl, h2, h3, h4, h5⟩
        have hx0 : ∀ b, b < W.heap.size → ty.ownBlock ≠ some b → w3.heap[b]? = W.heap[b]? := fun b hb hx => hap.far (show b < w2.heap.size by omega) hx |>.trans (by rw [HW.out])
        have hz3 : W.heap.size ≤ w3.heap.size := by have := h3.size; simp at this; omega
        have hkt := HKT.out
        obtain ⟨W4, hW4⟩ : ∃ W4, W4 = w3.setCell ⟨tb, 0, none⟩ (.slice (some ⟨g, 0, none⟩) (n + 1) cap) := ⟨_, rfl⟩
        have hoth : ∀ b, b ≠ tb → W4.heap[b]? = w3.heap[b]? := fun b hb => by rw [hW4]; exact RowKit.Below.heap_setCell _ _ _ _ hb
        have hz4 : W4.heap.size = w3.heap.size := by rw [hW4]; simp
        have hb4 : W4.heap[tb]? = some (.cells #[.slice (some ⟨g, 0, none⟩) (n + 1) cap, .map (some nb2), .map (some mb), .map (some sb), .int .i64 m] 75 (0, 0)) := by
          rw [hW4]; exact set_five0 ((hx0 tb htl HNE.out).trans HBX.out) _
        have hk4 : W4.heap[kb]? = some (.cells A 91 (0, 0)) := (hoth kb hkt).trans ((hx0 kb hkl HNK.out).trans HKB.out)
        have hN2 : NumV w2 nb2 T := H.out.num.same (X2.out.block nb2 H.out.num.lt)
        obtain ⟨es, cl, hm⟩ := hN2.isMap
        have hN4 : NumV W4 nb2 T := hN2.same (by
          rw [hoth nb2 (fun e => by rw [e] at hm; have := HBX.out; rw [HW.out] at this; rw [show w2.drew.heap = w2.heap from rfl, hm] at this; cases this),
            hx0 nb2 (by rw [hzW]; exact hN2.lt) (fun e => by
              have h0 := HOWN.out
              rw [HW.out] at h0
              obtain ⟨cs, hc⟩ := own_key_blk h0 e
              rw [show w2.drew.heap = w2.heap from rfl, hm] at hc; cases hc), HW.out]
          rfl)
        obtain ⟨w5, hrun, hN5, hg5⟩ := (show NumV W4.drew nb2 T from hN4.same rfl).put HK.out (by unfold maxLen; omega)
        rw [show k.val = .agg A by unfold Kz.val; rw [← HAL2.out, Array.toArray_toList], ← HNN.out] at hrun
        have yk := run_loadAt_mid (P := Try.prog) W4.drew kb 0 91 A.toList _ (rangeAt_blk (w := W4.drew) (show W4.heap[kb]? = _ by simpa using hk4)) Try.underlying91 rfl (by rw [Array.length_toList, HAL.out]; exact infoKey)
        rw [Array.toArray_toList] at yk
        have hDone := num_done HT.out H.out X2.out HAL2.out hap (w5 := w5) (nb2 := nb2) (by
          rw [← HNN.out, ← hW4]
          exact ⟨hg5.os, hg5.tape, hg5.output, hg5.size, hg5.block⟩) hN5 HK.out HJ.out HIN.out h120
        obtain ⟨⟨s0, s1, s2, s3, s4⟩, -⟩ := five_blkF hb4
        rw [← hW4]
        have HD := Lib.hid hDone
        clear hDone hap hx0 hoth hb4 hk4 hN2 hm hN4 hN5 hg5 hW4 h2 h3 h4 h5 hy hM hF hC hall hr hsz
        go_upto_region 11 with fail
        refine wp_region_still_tail 6 (by kernel_rfl) (by kernel_rfl) ?_
        simp only [List.take_succ_cons, List.take_zero, List.drop_succ_cons, List.drop_zero]
        iterate 4 still_step
        refine wpStill_run rfl (.agg A) (exec_load rfl rfl yk) ?_
        simp only [Act.put]
        still_step
        refine wpStill_nil ?_
        refine wpList_runU (w' := w5) rfl (exec_mapUpdate rfl rfl rfl rfl hrun) ?_
        refine wpList_nil ?_
        simp only [Act.put]
        go_wp2
        go_ret2
        rw [HV.out, if_neg h120]
        refine ⟨?_, g, nb2, _, _, HD.out⟩
        rw [← HNN.out]
        rfl
/-- The number of a type, new or not. -/
theorem number_any (k : Kz) (hk : KFit k) (w : World) (tb rb nb mb sb m : Nat) (ty nu : Value) (T : List Kz) (hT : TabV w tb rb nb mb sb m ty nu T) (hj : ∀ j ∈ k.kids, j < T.length) :
    Calls Try.prog 55 #[.pointer (some ⟨tb, 0, none⟩), .agg k.cells.toArray] w fun e w' => ∃ rb' nb' ty' nu', e = .returned (.tuple #[.int .i64 ((numK T k).1 : Nat), .int .i64 ((numK T k).2.1 : Nat)]) ∧ Added w w' tb rb nb mb sb m (numK T k).2.2 rb' nb' ty' nu' := by
  by_cases hin : k ∈ T
  · refine (number_there k hk w tb rb nb mb sb m ty nu T hT hin).mono ?_
    rintro e w' ⟨rfl, hb⟩
    rw [numK_there hin]
    exact ⟨rb, nb, ty, nu, rfl, hT.below hb, Keeps.of_below hb, Grew.refl _ _ _ _⟩
  · exact number_new k hk w tb rb nb mb sb m ty nu T hT hin hj
end Sp
end Go.Proofs.Ytdophmlnmbcjlaa
