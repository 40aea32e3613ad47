/- The library's contracts at this program's numbers: the kit's laying, in plain words, cut to what is used. -/
import Derived.Shelf.LaysM
import Derived.Shelf.Strconv.Clone
import Derived.Ground.Names2Prog
import Derived.Shelf.Slices.Clone
import Derived.Test.YtdophmlnmbcjlaaProg
import Derived.Test.YtdophmlnmbcjlaaRows
import Derived.WalkKit
import Derived.Deep.MidRow
import Derived.Laws.CopyRow
import Derived.Deep.QuietTactic
import Derived.StillTailTactics
namespace Go.Proofs
open Go.Shelf
open Go.Shelf
def Try.laysM316_ren : Go.Shelf.Ren := ⟨fun | 316 => 94 | n => n, fun | 9 => 9 | 3 => 3 | 4 => 4 | 37 => 174 | 0 => 0 | 127 => 175 | 5 => 5 | n => n, fun | n => n⟩
theorem Try.laysM316 : Go.Proofs.LaysM.n316 Try.prog Try.laysM316_ren := {
  mixed := by kernel_rfl
  f316 := Try.func94.trans (congrArg some (by kernel_rfl))
  t0 := Try.underlying0
  a0 := Try.isAgg0
  z0 := Try.sizeOf0
  v0 := Try.zeroValue0
  t3 := Try.underlying3
  a3 := Try.isAgg3
  z3 := Try.sizeOf3
  v3 := Try.zeroValue3
  t4 := Try.underlying4
  a4 := Try.isAgg4
  z4 := Try.sizeOf4
  v4 := Try.zeroValue4
  t9 := Try.underlying9
  a9 := Try.isAgg9
  z9 := Try.sizeOf9
  v9 := Try.zeroValue9
  t37 := Try.underlying174
  a37 := Try.isAgg174
  z37 := Try.sizeOf174
  v37 := Try.zeroValue174
  t127 := Try.underlying175
  a127 := Try.isAgg175
  z127 := Try.sizeOf175
  v127 := Try.zeroValue175
  t5 := Try.underlying5
  a5 := Try.isAgg5
  z5 := Try.sizeOf5
  v5 := Try.zeroValue5
  i0 := by kernel_rfl
  i3 := by kernel_rfl
  i4 := by kernel_rfl
  i5 := by kernel_rfl
  i9 := by kernel_rfl
  i37 := by kernel_rfl
  i127 := by kernel_rfl }
open Go.RowKit in
theorem Try.stringslite_Clone (s : ByteArray) (w : World) (hlim : s.size ≤ 281474976710656) :
    Calls Try.prog 94 #[.string s] w fun e w' => e = .returned (.string s) ∧ Below w.heap.size w w' := Any.stringslite_Clone Try.laysM316 s w hlim
def Try.laysNm215_ren : Go.Shelf.Ren := ⟨fun | 15 => 29 | n => n, fun | 22 => 39 | 3 => 3 | 4 => 4 | n => n, fun | n => n⟩
theorem Try.laysNm215 : Go.Proofs.Lays2.n15 Try.prog Try.laysNm215_ren := {
  mixed := by kernel_rfl
  f15 := Try.func29.trans (congrArg some (by kernel_rfl))
  t3 := Try.underlying3
  a3 := Try.isAgg3
  z3 := Try.sizeOf3
  v3 := Try.zeroValue3
  t4 := Try.underlying4
  a4 := Try.isAgg4
  z4 := Try.sizeOf4
  v4 := Try.zeroValue4
  t22 := Try.underlying39
  a22 := Try.isAgg39
  z22 := Try.sizeOf39
  v22 := Try.zeroValue39
  i3 := by kernel_rfl }
open Go.RowKit Go.Lib in
theorem Try.slices_Clone_int (b off n c : Nat) (zs : List Int) (w : World) (hz : n ≤ zs.length) (hbig : n * 8 ≤ 140737488355328) (hc : ∀ j, j < zs.length → w.cell? ⟨b, off + j, none⟩ = some (.int .i64 (zs.getD j 0))) :
    Calls Try.prog 29 #[.slice (some ⟨b, off, none⟩) n c] w fun e w' => ∃ v', e = .returned v' ∧ w'.ownsRow w.heap.size 3 1 v' n ((zs.take n).map (Value.int .i64)) ∧ v' ≠ .slice none 0 0 ∧ Below w.heap.size w w' := Any.slices_Clone_int Try.laysNm215 b off n c zs w hz hbig hc
open Go.RowKit Go.Lib in
theorem Try.slices_Clone_int_nil (n c : Nat) (w : World) :
    Calls Try.prog 29 #[.slice none n c] w fun e w' => e = .returned (.slice none 0 0) ∧ w' = w := Any.slices_Clone_int_nil Try.laysNm215 n c w
end Go.Proofs
namespace Go.Proofs.Ytdophmlnmbcjlaa
open Go.RowKit
namespace Sp
theorem rangeAt_blk {w : World} {b : Nat} {cs : List Value} {t : TypeId} {fr : Nat × Nat} (h : w.heap[b]? = some (.cells cs.toArray t fr)) : w.rangeAt b 0 cs := fun j v hv => by
  rw [Nat.zero_add]; simp [World.cell?, h, hv]
theorem there_blk {w : World} {b : Nat} {cs : List Value} {t : TypeId} (h : w.heap[b]? = some (.cells cs.toArray t (0, 0))) : w.there b 0 cs.length := fun j hj => by
  rw [Nat.zero_add]
  exact ⟨by simp [World.cell?, h, hj], by simp [World.frozen?, h]⟩
theorem setCells_row (b : Nat) (t : TypeId) : ∀ (cs : List Value) (o : Nat) (w : World) (pre old post : List Value), pre.length = o → old.length = cs.length → w.heap[b]? = some (.cells (pre ++ old ++ post).toArray t (0, 0)) →
    (w.setCells b o cs).heap[b]? = some (.cells (pre ++ cs ++ post).toArray t (0, 0))
  | [], o, w, pre, old, post, hp, ho, h => by
    have : old = [] := List.length_eq_zero_iff.1 ho
    subst this
    exact h
  | v :: cs, o, w, pre, [], post, hp, ho, h => by simp at ho
  | v :: cs, o, w, pre, x :: old, post, hp, ho, h => by
    have ih := setCells_row b t cs (o + 1) (w.setCell ⟨b, o, none⟩ v) (pre ++ [v]) old post (by simp [hp]) (by simpa using ho) (by
      rw [Go.setCell_eq_setRow w b o _ t (0, 0) v h, setRow_heap w b _ _ t _ h]
      congr 2
      subst hp
      simp)
    have e : w.setCells b o (v :: cs) = (w.setCell ⟨b, o, none⟩ v).setCells b (o + 1) cs := rfl
    rw [e, ih]; simp
/-- A block that is written whole. -/
theorem setCells_blk {w : World} {b : Nat} {t : TypeId} {old cs : List Value} (h : w.heap[b]? = some (.cells old.toArray t (0, 0))) (hl : old.length = cs.length) : (w.setCells b 0 cs).heap[b]? = some (.cells cs.toArray t (0, 0)) := by
  have := setCells_row b t cs 0 w [] old [] rfl hl (by simpa using h)
  simpa using this
theorem setCells_other (b : Nat) : ∀ (cs : List Value) (o : Nat) (w : World) (g : Nat), g ≠ b → (w.setCells b o cs).heap[g]? = w.heap[g]?
  | [], _, _, _, _ => rfl
  | v :: cs, o, w, g, h => by
    rw [show w.setCells b o (v :: cs) = (w.setCell ⟨b, o, none⟩ v).setCells b (o + 1) cs from rfl, setCells_other b cs (o + 1) _ g h]
    exact RowKit.Below.heap_setCell _ _ _ _ h
theorem setCells_size (b : Nat) : ∀ (cs : List Value) (o : Nat) (w : World), (w.setCells b o cs).heap.size = w.heap.size
  | [], _, _ => rfl
  | v :: cs, o, w => by
    rw [show w.setCells b o (v :: cs) = (w.setCell ⟨b, o, none⟩ v).setCells b (o + 1) cs from rfl, setCells_size b cs (o + 1)]
    simp
theorem setCells_below {B : Nat} {w : World} (b : Nat) (hb : B ≤ b) : ∀ (cs : List Value) (o : Nat) (w' : World), Below B w w' → Below B w (w'.setCells b o cs)
  | [], _, _, h => h
  | v :: cs, o, w', h => by
    rw [show w'.setCells b o (v :: cs) = (w'.setCell ⟨b, o, none⟩ v).setCells b (o + 1) cs from rfl]
    exact setCells_below b hb cs (o + 1) _ (h.setCell hb v)
/-- A block whose cells are written as they were. -/
theorem setCells_same (b : Nat) : ∀ (cs : List Value) (o : Nat) (w : World), (∀ j v, cs[j]? = some v → w.cell? ⟨b, o + j, none⟩ = some v) → (∀ (a : Nat) (v : Value), w.cell? ⟨b, a, none⟩ = some v → w.setCell ⟨b, a, none⟩ v = w) → w.setCells b o cs = w
  | [], _, _, _, _ => rfl
  | v :: cs, o, w, h, hs => by
    rw [show w.setCells b o (v :: cs) = (w.setCell ⟨b, o, none⟩ v).setCells b (o + 1) cs from rfl, hs o v (h 0 v rfl)]
    exact setCells_same b cs (o + 1) w (fun j u hu => by rw [show o + 1 + j = o + (j + 1) by omega]; exact h (j + 1) u hu) hs
/-- A cell that is written as it was. -/
theorem setCell_same {w : World} {b o : Nat} {v : Value} (h : w.cell? ⟨b, o, none⟩ = some v) : w.setCell ⟨b, o, none⟩ v = w := by
  cases hg : w.heap[b]? with
  | none => unfold World.cell? at h; simp [hg] at h
  | some x =>
    unfold World.cell? at h
    simp only [hg] at h
    cases x with
    | cells cs t fr =>
      rw [Go.setCell_eq_setRow w b o cs t fr v hg]
      have : cs.setIfInBounds o v = cs := by
        apply Array.ext_getElem?
        intro i
        rw [Array.getElem?_setIfInBounds]
        simp at h
        split
        · rename_i e; subst e
          split
          · exact h.symm
          · rename_i h2; rw [Array.getElem?_eq_none (by omega)] at h; cases h
        · rfl
      rw [this]
      exact Go.setRow_self w b cs t fr hg
    | _ => simp at h
theorem setCells_keep {w : World} {b : Nat} {cs : List Value} {t : TypeId} {fr : Nat × Nat} (h : w.heap[b]? = some (.cells cs.toArray t fr)) : w.setCells b 0 cs = w :=
  setCells_same b cs 0 w (fun j v hv => rangeAt_blk h j v hv) (fun _ _ h => setCell_same h)
/-- A variable of many cells that is read in a region that only reads. -/
theorem wpQuiet_load {P : Program} {ops : Array Oper} {C : World → Prop} {Q : Act → Prop} {a : Act} {o : Oper} {rest : List Oper} (hgd : o.guard = none) (ty : TypeId) (x : Operand) (ho : o.op = .load ty x) {p : Value} (hx : a.eval x = p) (v : Value)
    (hr : ∀ w, C w → (Instr.loadAt ty p).run P w = .ok v w) (h : wpQuiet P ops C Q rest (a.put o.dst v)) : wpQuiet P ops C Q (o :: rest) a := by
  refine wpQuiet_step fun K hK => ?_
  rw [if_pos (by simp [Region.wanted, hgd])]
  refine ⟨v, fun w hw => ?_, hK _ h⟩
  unfold Oper.quietAt execOp
  simp only [ho, hx, Sem.run_bind, hr w hw, Result.andThen_ok, Sem.run_pure]
  exact ⟨rfl, rfl⟩
/-- An operation by its run. -/
theorem wpStill_run {P : Program} {ops : Array Oper} {w : World} {Q : Act → Prop} {a : Act} {o : Oper} {rest : List Oper} (hgd : o.guard = none) (v : Value) (hr : (execOp a.eval o).run P w = .ok (.value v) w) (h : wpStill P ops w Q rest (a.put o.dst v)) : wpStill P ops w Q (o :: rest) a := by
  refine wpStill_step fun K hK => ?_
  rw [if_pos (by simp [Region.wanted, hgd])]
  unfold Oper.still
  rw [hr]
  exact ⟨rfl, hK _ h⟩
theorem wpList_runV {P : Program} {ops : Array Oper} {w w' : World} {Q : Exit → Act → World → Prop} {a : Act} {o : Oper} {rest : List Oper} (hgd : o.guard = none) (v : Value) (hr : (execOp a.eval o).run P w = .ok (.value v) w') (h : wpList P ops Q rest (a.put o.dst v) w') : wpList P ops Q (o :: rest) a w :=
  wpList_plain hgd fun K hK => by
    unfold Oper.wp
    rw [hr]
    exact hK _ _ h
theorem wpList_runU {P : Program} {ops : Array Oper} {w w' : World} {Q : Exit → Act → World → Prop} {a : Act} {o : Oper} {rest : List Oper} (hgd : o.guard = none) (hr : (execOp a.eval o).run P w = .ok .skip w') (h : wpList P ops Q rest (a.put o.dst undef) w') : wpList P ops Q (o :: rest) a w :=
  wpList_plain hgd fun K hK => by
    unfold Oper.wp
    rw [hr]
    exact hK _ _ h
theorem wpList_enter {P : Program} {ops : Array Oper} {w : World} {Q : Exit → Act → World → Prop} {a : Act} {o : Oper} {rest : List Oper} {f : FuncId} {args : Array Value} {R : Ending → World → Prop} (hgd : o.guard = none) (hr : (execOp a.eval o).run P w = .ok (.enter f args) w) (hR : Calls P f args w R)
    (h : ∀ e w', R e w' → ∃ v, e = .returned v ∧ wpList P ops Q rest (a.put o.dst v) w') : wpList P ops Q (o :: rest) a w :=
  wpList_plain hgd fun K hK => by
    unfold Oper.wp
    rw [hr]
    refine hR.mono fun e w' hh => ?_
    obtain ⟨v, rfl, hv⟩ := h e w' hh
    exact hK _ _ hv
theorem exec_load {P : Program} {b : Act} {o : Oper} {v : World} {t : TypeId} {x : Operand} {p u : Value} (ho : o.op = .load t x) (hx : b.eval x = p) (hr : (Instr.loadAt t p).run P v = .ok u v) : (execOp b.eval o).run P v = .ok (.value u) v := by
  unfold execOp
  simp only [ho, hx, Sem.run_bind, hr, Result.andThen_ok, Sem.run_pure]
theorem exec_build1 {P : Program} {b : Act} {o : Oper} {v v' : World} {t : TypeId} {n i : Nat} {x : Operand} {p u : Value} (ho : o.op = .buildSlice t n #[(i, x)]) (hx : b.eval x = p) (hr : (Instr.buildSlice t n #[(i, p)]).run P v = .ok u v') : (execOp b.eval o).run P v = .ok (.value u) v' := by
  unfold execOp
  simp only [ho, List.map_toArray, List.map_cons, List.map_nil, hx, Sem.run_bind, hr, Result.andThen_ok, Sem.run_pure]
theorem exec_append {P : Program} {b : Act} {o : Oper} {v v' : World} {t : TypeId} {x y : Operand} {p q u : Value} (ho : o.op = .call { callee := .builtin .append, args := #[x, y], argTypes := #[t, t] }) (hx : b.eval x = p) (hy : b.eval y = q) (hr : (Builtin.append_ #[t, t] o.type #[p, q]).run P v = .ok u v') :
    (execOp b.eval o).run P v = .ok (.value u) v' := by
  unfold execOp
  simp only [ho, resolve, invoke, builtin, Sem.run_bind, Sem.run_pure, Result.andThen_ok, List.map_toArray, List.map_cons, List.map_nil, hx, hy, hr]
theorem exec_mapUpdate {P : Program} {b : Act} {o : Oper} {v v' : World} {t : TypeId} {m k x : Operand} {pm pk px : Value} (ho : o.op = .mapUpdate t m k x) (hm : b.eval m = pm) (hk : b.eval k = pk) (hx : b.eval x = px) (hr : (Instr.mapUpdate t pm pk px).run P v = .ok () v') : (execOp b.eval o).run P v = .ok .skip v' := by
  unfold execOp
  simp only [ho, hm, hk, hx, Sem.run_bind, hr, Result.andThen_ok, Sem.run_pure]
end Sp
end Go.Proofs.Ytdophmlnmbcjlaa
