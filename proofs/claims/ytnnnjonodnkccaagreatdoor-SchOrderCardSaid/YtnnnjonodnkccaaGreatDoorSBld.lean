/- The writer's builder, a field of it: WriteString, String. -/
import Derived.Test.YtnnnjonodnkccaaGreatDoorSMem
import Derived.Lib.Builder
import Derived.Lib.AppendStr
import Derived.Lib.UnsafeStr
import Derived.Lib.Walk
import Derived.Laws.Externs
import Derived.RegionTactic
import Derived.KernelRfl
namespace Go.Proofs.YtnnnjonodnkccaaGreatDoor
open Go.RowKit
namespace Sh
open Sc

/-- The writer's block: what is written so far, how many types are left. -/
def Wt (w : World) (wb : Nat) (bs : List UInt8) (left : Int) : Prop :=
  ∃ p v, (p = .pointer none ∨ p = .pointer (some ⟨wb, 0, none⟩)) ∧ w.heap[wb]? = some (.cells #[p, v, .int .i64 left] 67 (0, 0)) ∧ w.ownsRow (wb + 1) 5 1 v bs.length (bs.map B)

theorem Wt.lt {w : World} {wb : Nat} {bs : List UInt8} {left : Int} (h : Wt w wb bs left) : wb < w.heap.size := by obtain ⟨p, v, _, h, _⟩ := h; exact (Array.getElem?_eq_some_iff.1 h).1

def notB (o : Obj) : Prop := ∀ c fz, o ≠ .cells c 5 fz

/-- What writing turns: the writer's block, rows of bytes behind it. -/
structure Eff (wb : Nat) (w w' : World) : Prop where
  bel : Below wb w w'
  oth : ∀ k o, k ≠ wb → w.heap[k]? = some o → notB o → w'.heap[k]? = some o

theorem Eff.refl (wb : Nat) (w : World) : Eff wb w w := ⟨Below.refl _ _, fun _ _ _ h _ => h⟩
theorem Eff.trans {wb : Nat} {a b c : World} (h : Eff wb a b) (k : Eff wb b c) : Eff wb a c := ⟨h.bel.trans k.bel, fun i o hn ho hb => k.oth i o hn (h.oth i o hn ho hb) hb⟩
theorem Eff.alloc {wb : Nat} {w w' : World} (h : Eff wb w w') (o : Obj) (hb : wb ≤ w'.heap.size) : Eff wb w (w'.alloc o) :=
  ⟨h.bel.alloc hb o, fun i x hn ho hx => (Below.heap_alloc w' o i (Array.getElem?_eq_some_iff.1 (h.oth i x hn ho hx)).1).trans (h.oth i x hn ho hx)⟩
theorem Eff.setCell {wb : Nat} {w w' : World} (h : Eff wb w w') (o : Nat) (v : Value) : Eff wb w (w'.setCell ⟨wb, o, none⟩ v) := by
  refine ⟨h.bel.setCell (Nat.le_refl _) v, fun i x hn ho hx => ?_⟩
  rw [← h.oth i x hn ho hx]
  unfold World.setCell
  simp only [Array.getElem?_modify]
  rw [if_neg (fun e => hn e.symm)]
theorem Eff.grown {wb : Nat} {w w' w'' : World} (h : Eff wb w w') {v : Value} {n : Nat} {xs : List Value} (hown : w'.ownsRow (wb + 1) 5 1 v n xs) (hg : w'.grownBy w'' v.ownBlock) (hb : wb ≤ w'.heap.size) : Eff wb w w'' := by
  refine ⟨h.bel.grown hg hb (fun k e => by have := (hown.lt k e).1; omega), fun i x hn ho hx => ?_⟩
  have h1 := h.oth i x hn ho hx
  rw [hg.block i (Array.getElem?_eq_some_iff.1 h1).1 (fun e => ?_)]
  · exact h1
  · rcases hown.2 with ⟨hv, _⟩ | ⟨g, cap, cur, hv, _, hgg, _⟩
    · rw [hv] at e; simp [Value.ownBlock] at e
    · rw [hv] at e; simp only [Value.ownBlock, Option.some.injEq] at e
      subst e
      rw [h1] at hgg
      exact hx _ _ (Option.some.inj hgg)

theorem infoBld : (Tryz.prog.info? 65).map (·.size) = some 2 := by kernel_rfl
theorem liesBld : liesAt Tryz.prog Tryz.prog.depth 67 (3 / Tryz.prog.cellsOf 67) 0 65 1 = true := by kernel_rfl

set_option maxHeartbeats 1000000 in
set_option maxRecDepth 100000 in
theorem copy_used (wb : Nat) (w : World) (h0 : w.cell? ⟨wb, 0, none⟩ = some (.pointer (some ⟨wb, 0, none⟩))) :
    Calls Tryz.prog 105 #[.pointer (some ⟨wb, 0, none⟩)] w fun e w' => e = .returned (.tuple #[]) ∧ w' = w := by
  obtain ⟨j, hj, _⟩ := Option.map_eq_some_iff.1 infoBld
  go_enter Tryz.func105, Tryz.ntmps105
  go_wp2
  rw [Lib.run_neq_ptr_same w _ Tryz.underlying62 hj]
  go_wp2
  go_end0
  exact ⟨rfl, rfl⟩

set_option maxHeartbeats 1000000 in
set_option maxRecDepth 100000 in
theorem copy_fresh (wb : Nat) (w : World) (v l : Value) (hb : w.heap[wb]? = some (.cells #[.pointer none, v, l] 67 (0, 0))) :
    Calls Tryz.prog 105 #[.pointer (some ⟨wb, 0, none⟩)] w fun e w' => e = .returned (.tuple #[]) ∧ w' = w.setCell ⟨wb, 0, none⟩ (.pointer (some ⟨wb, 0, none⟩)) := by
  obtain ⟨j, hj, hjs⟩ := Option.map_eq_some_iff.1 infoBld
  obtain ⟨⟨h0, _, _⟩, hfz, _, _⟩ := three_blk hb
  have hsh : w.shape? wb = some (67, 3) := by simp [World.shape?, hb]
  clear hb
  go_enter Tryz.func105, Tryz.ntmps105
  go_wp2
  rw [Lib.run_to_unsafe w ⟨wb, 0, none⟩ Tryz.underlying62 Tryz.underlying170 hj (by rw [hjs]; decide) hsh (Nat.zero_lt_succ 2)]
  simp only [Result.andThen]
  rw [Oper.upon_value]
  go_wp2
  rw [run_callFunc_extern Tryz.func122 (by kernel_rfl) (by kernel_rfl) (by kernel_rfl) (e := Extern.AbiNoEscape.same) (by kernel_rfl)]
  rw [Lib.run_noEscape]
  simp only [Result.andThen]
  rw [Oper.upon_value]
  go_wp2
  rw [Lib.run_from_unsafe w ⟨wb, 0, none⟩ Tryz.underlying170 Tryz.underlying62 hj hsh liesBld]
  simp only [Result.andThen]
  rw [Oper.upon_value]
  go_wp2
  go_end0
  exact ⟨rfl, rfl⟩

/-- What copyCheck leaves: a builder in use. -/
theorem copy_any (wb : Nat) (w : World) (bs : List UInt8) (left : Int) (h : Wt w wb bs left) :
    Calls Tryz.prog 105 #[.pointer (some ⟨wb, 0, none⟩)] w fun e w' => e = .returned (.tuple #[]) ∧ ∃ v, w'.heap[wb]? = some (.cells #[.pointer (some ⟨wb, 0, none⟩), v, .int .i64 left] 67 (0, 0)) ∧ w'.ownsRow (wb + 1) 5 1 v bs.length (bs.map B) ∧ Eff wb w w' := by
  obtain ⟨p, v, hp, hb, hown⟩ := h
  rcases hp with rfl | rfl
  · refine (copy_fresh wb w v _ hb).mono ?_
    rintro e w' ⟨rfl, rfl⟩
    refine ⟨rfl, v, set_blk0 hb _, hown.kept ((Only.refl wb w).setCell 0 _) ?_, (Eff.refl _ _).setCell _ _⟩
    cases hv : v.ownBlock with
    | none => exact .inl rfl
    | some g => refine .inr fun e => ?_; cases e; have := (hown.lt _ hv).1; omega
  · refine (copy_used wb w (three_blk hb).1.1).mono ?_
    rintro e w' ⟨rfl, rfl⟩
    exact ⟨rfl, v, hb, hown, Eff.refl _ _⟩

theorem infoU8 : (Tryz.prog.info? 5).map (fun i => (i.zero, i.size, i.bytes)) = some (some (.int .u8 0), 1, 1) := by kernel_rfl

set_option maxHeartbeats 1000000 in
set_option maxRecDepth 100000 in
theorem WriteString_any (wb : Nat) (w : World) (bs s : List UInt8) (left : Int) (h : Wt w wb bs left) (hl : bs.length + s.length ≤ 100000000) :
    Calls Tryz.prog 74 #[.pointer (some ⟨wb, 0, none⟩), .string ⟨s.toArray⟩] w fun e w' => (∃ v, e = .returned v) ∧ Wt w' wb (bs ++ s) left ∧ Eff wb w w' := by
  have hsz : (⟨s.toArray⟩ : ByteArray).size = s.length := rfl
  have hwb := h.lt
  have HC := Lib.hid (copy_any wb w bs left h)
  obtain ⟨i0, hi, hz0, hz1, hz2⟩ := info_parts infoU8
  clear h
  go_enter Tryz.func74, Tryz.ntmps74
  go_wp2_with (first
    | (go_at_call 105; (refine HC.out.mono ?_); rintro e w1 ⟨rfl, v, hb1, hown, e1⟩; obtain ⟨⟨c0, c1, c2⟩, f0, f1, f2⟩ := three_blk hb1; have hs1 := e1.bel.size; have HB := Lib.hid hb1; have HO := Lib.hid hown; have HE := Lib.hid e1; clear hb1 hown e1)
    | (at_builtin; refine Lib.wpList_append_own_string _ rfl _ _ 63 9 rfl (wb + 1) 5 i0 Tryz.underlying63 Tryz.underlying9 hi hz0 hz1 hz2 _ _ _ rfl HO.out ⟨s.toArray⟩ rfl (by rw [hsz]; unfold maxLen; omega) (by rw [hsz]; omega) (by omega) ?_; intro v' w2 hown' hgrow _; have hb2 := (hgrow.block wb (by omega) (fun e => by have := (HO.out.lt wb e.symm).1; omega)).trans HB.out; obtain ⟨⟨d0, d1, d2⟩, g0, g1, g2⟩ := three_blk hb2; have HB2 := Lib.hid hb2; have HO2 := Lib.hid hown'; have HE2 := Lib.hid (HE.out.grown HO.out hgrow (by omega)); obtain ⟨va, vc, hv'⟩ := own_slice hown'; rw [hsz] at hv'; subst hv'; clear hb2 hown' hgrow))
  go_ret2
  refine ⟨⟨_, rfl⟩, ⟨_, _, .inr rfl, set_blk1 HB2.out _, ?_⟩, HE2.out.setCell _ _⟩
  have ho := HO2.out
  rw [hsz] at ho
  rw [List.length_append, List.map_append]
  refine World.ownsRow.kept ho ((Only.refl wb w2).setCell 1 _) ?_
  cases hv : (Value.slice va (bs.length + s.length) vc).ownBlock with
  | none => exact .inl rfl
  | some g => refine .inr fun e => ?_; cases e; have := (ho.lt _ hv).1; omega

set_option maxHeartbeats 1000000 in
set_option maxRecDepth 100000 in
/-- String: what is written. -/
theorem String_any (wb : Nat) (w : World) (bs : List UInt8) (left : Int) (h : Wt w wb bs left) (h0 : bs ≠ []) :
    Calls Tryz.prog 23 #[.pointer (some ⟨wb, 0, none⟩)] w fun e w' => e = .returned (.string ⟨bs.toArray⟩) ∧ Below wb w w' := by
  obtain ⟨p, v, hp, hb, hown⟩ := h
  have hl0 : bs.length ≠ 0 := by simpa using h0
  obtain ⟨g, cap, cur, rfl, hbg, hg, hnc, hcm, hcs, htake⟩ : ∃ g cap cur, v = .slice (some ⟨g, 0, none⟩) bs.length cap ∧ wb + 1 ≤ g ∧ w.heap[g]? = some (.cells cur 5 (0, 0)) ∧ bs.length ≤ cap ∧ cap ≤ maxLen ∧ cur.size = cap * 1 ∧ cur.toList.take (bs.length * 1) = bs.map B := by
    rcases hown.2 with ⟨_, hz⟩ | ⟨g, cap, cur, hv, r⟩
    · exact absurd hz hl0
    · exact ⟨g, cap, cur, hv, r⟩
  have c1 : w.drew.cell? ⟨wb, 1, none⟩ = some (.slice (some ⟨g, 0, none⟩) bs.length cap) := (three_blk (w := w.drew) hb).1.2.1
  have hSD : (Builtin.unsafeSliceData_ #[63] 90 #[.slice (some ⟨g, 0, none⟩) bs.length cap]).run Tryz.prog w.drew = .ok (.pointer (some ⟨g, 0, none⟩)) w.drew :=
    Lib.run_unsafeSliceData_row _ _ _ _ _ _ (by omega)
  have hUS : (Builtin.unsafeString_ #[90, 3] 9 #[.pointer (some ⟨g, 0, none⟩), .int .i64 bs.length]).run Tryz.prog w.drew = .ok (.string ⟨bs.toArray⟩) (w.drew.freeze ⟨g, 0, none⟩ bs.length) := by
    refine Lib.run_unsafeString_row w.drew 90 3 9 5 Tryz.underlying90 (by kernel_rfl) g cur.size (by have hg' : w.drew.heap[g]? = some (.cells cur 5 (0, 0)) := hg; simp [World.shape?, hg']) bs h0 (by omega) (by unfold maxLen at hcm; omega) ?_
    intro j x hx
    have := hown.cells (g := g) rfl j (.int .u8 x.toNat) (by rw [List.getElem?_map, hx]; rfl)
    exact this
  clear hb hown htake hcs hg
  go_enter Tryz.func23, Tryz.ntmps23
  go_wp2
  go_region
  all_goals (go_wp2; go_ret; exact ⟨rfl, Lib.below_freeze (Below.drew (Below.refl wb w)) (p := ⟨g, 0, none⟩) (by show wb ≤ g; omega) _⟩)
end Sh
end Go.Proofs.YtnnnjonodnkccaaGreatDoor
