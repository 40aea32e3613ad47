/- row.node: what a number is, names gone through. -/
import Derived.Test.YtdophmlnmbcjlaaS3
import Derived.Test.YtdophmlnmbcjlaaS5
import Derived.Test.YtdophmlnmbcjlaaS6
import Derived.Test.YtdophmlnmbcjlaaS21
import Derived.ProofKit
import Derived.OpenShut
import Derived.ChangeOld
import Derived.ChangeArms
import Derived.Test.YtdophmlnmbcjlaaS39
import Derived.Test.YtdophmlnmbcjlaaS33
namespace Go.Proofs.Ytdophmlnmbcjlaa
open Go.RowKit
namespace Sp
open Sc
set_option maxRecDepth 100000
/-- A table whose names lead somewhere; whose lists, maps and Opts have one kid. -/
structure OpL (T : List Kz) (N : List NN) : Prop where
  lt : ∀ i, i < T.length → openK T N 13 i < T.length
  ne : ∀ i, i < T.length → (T.getD (openK T N 13 i) default).kind ≠ 9
  look : ∀ k ∈ T, k.kind = 9 → lookN N k.name < T.length
  one : ∀ k ∈ T, k.kind = 4 ∨ k.kind = 5 ∨ k.kind = 6 → k.kids.length = 1
theorem getD_at {T : List Kz} {i : Nat} (h : i < T.length) : T.getD i default = T[i] := by rw [List.getD, List.getElem?_eq_getElem h]; rfl
end Sp
end Go.Proofs.Ytdophmlnmbcjlaa
namespace Go.Proofs.Ytdophmlnmbcjlaa
open Go.RowKit
namespace Sp
open Sc
set_option maxRecDepth 100000
/-- An Opt's key. -/
def optK (i : Nat) : Kz := ⟨6, [], [], [i]⟩
theorem opt_fit {i : Nat} (h : i < 120) : KFit (optK i) :=
  ⟨⟨⟨by show (1 : Int) ≤ 6; omega, by show (6 : Int) ≤ 9; omega⟩, by simp [optK], rfl⟩, by simp [optK], (fun n h => by simp [optK] at h), (fun j hj => by simp [optK] at hj; omega)⟩
theorem exec_build2c {P : Program} {b : Act} {o : Oper} {v v' : World} {t : TypeId} {x y : Operand} {p q u : Value} (ho : o.op = .build t #[(0, x), (2, y)]) (hx : b.eval x = p) (hy : b.eval y = q) (hr : (Instr.build t #[(0, p), (2, q)]).run P v = .ok u v') :
    (execOp b.eval o).run P v = .ok (.value u) v' := by
  unfold execOp
  simp only [ho, List.map_toArray, List.map_cons, List.map_nil, hx, hy, Sem.run_bind, hr, Result.andThen_ok, Sem.run_pure]
theorem build_opt (w : World) : (Instr.build 91 #[(0, .int .i64 6), (2, .int .i64 1)]).run Try.prog w = .ok (.agg (keyL 6 [] 1 [] []).toArray) w := by kernel_rfl
set_option maxHeartbeats 4000000 in
theorem topt_any (i : Nat) (w : World) (tb rb nb mb sb m : Nat) (ty nu : Value) (T : List Kz) (hT : TabV w tb rb nb mb sb m ty nu T) (hi : i < T.length) :
    Calls Try.prog 76 #[.pointer (some ⟨tb, 0, none⟩), .int .i64 (i : Nat)] w fun e w' => ∃ rb' nb' ty' nu', e = .returned (.tuple #[.int .i64 ((numK T (optK i)).1 : Nat), .int .i64 ((numK T (optK i)).2.1 : Nat)]) ∧ Added w w' tb rb nb mb sb m (numK T (optK i)).2.2 rb' nb' ty' nu' := by
  have h120 := hT.wf.len
  have CH := thas_any i w tb rb nb mb sb m ty nu T hT
  have htr : (decide (0 ≤ (i : Int)) && decide ((i : Int) < (T.length : Nat))) = true := by simp; omega
  rw [htr] at CH
  obtain ⟨v, hv⟩ : ∃ v, v = numK T (optK i) := ⟨_, rfl⟩
  have CN := fun W (hW : TabV W tb rb nb mb sb m ty nu T) => number_any (optK i) (opt_fit (by omega)) W tb rb nb mb sb m ty nu T hW (fun j hj => by simp [optK] at hj; omega)
  rw [← hv] at CN ⊢
  have HT := Lib.hid hT; have HCH := Lib.hid CH; have HCN := Lib.hid CN
  clear hT CH CN hv htr
  go_enter Try.func76, Try.ntmps76
  go_upto_region 3 with (go_at_call 36; (refine HCH.out.mono ?_); rintro e w1 ⟨rfl, b1⟩; have hz1 := b1.size; have HB1 := Lib.hid b1; clear b1)
  obtain ⟨WA, hWA⟩ : ∃ WA, WA = w1.alloc (.cells #[.int .i64 0, .string ⟨#[]⟩, .int .i64 0, .string ⟨#[]⟩, .string ⟨#[]⟩, .string ⟨#[]⟩, .string ⟨#[]⟩, .string ⟨#[]⟩, .string ⟨#[]⟩, .string ⟨#[]⟩, .string ⟨#[]⟩, .int .i64 0, .int .i64 0, .int .i64 0, .int .i64 0, .int .i64 0, .int .i64 0, .int .i64 0, .int .i64 0] 91) := ⟨_, rfl⟩
  have hzA : WA.heap.size = w1.heap.size + 1 := by rw [hWA]; simp
  have hkA : WA.heap[w1.heap.size]? = some (.cells ([.int .i64 0, .string ⟨#[]⟩, .int .i64 0, .string ⟨#[]⟩, .string ⟨#[]⟩, .string ⟨#[]⟩, .string ⟨#[]⟩, .string ⟨#[]⟩, .string ⟨#[]⟩, .string ⟨#[]⟩, .string ⟨#[]⟩, .int .i64 0, .int .i64 0, .int .i64 0, .int .i64 0, .int .i64 0, .int .i64 0, .int .i64 0, .int .i64 0] : List Value).toArray 91 (0, 0)) := by rw [hWA]; exact heap_alloc_new w1 _
  have hbA : Below w1.heap.size w1 WA := by rw [hWA]; exact (Below.refl _ _).alloc (Nat.le_refl _) _
  obtain ⟨W1, hW1⟩ : ∃ W1, W1 = WA.setCells w1.heap.size 0 (keyL 6 [] 1 [] []) := ⟨_, rfl⟩
  have hz2 : W1.heap.size = w1.heap.size + 1 := by rw [hW1, setCells_size]; exact hzA
  have hb2 : Below w1.heap.size w1 W1 := by rw [hW1]; exact setCells_below _ (Nat.le_refl _) _ 0 WA hbA
  have hk2 : W1.heap[w1.heap.size]? = some (.cells (keyL 6 [] 1 [] []).toArray 91 (0, 0)) := by rw [hW1]; exact setCells_blk hkA rfl
  refine wp_region_lit ?_
  refine wpList_runV (w' := w1) rfl _ (exec_build2c rfl rfl rfl (build_opt w1)) ?_
  simp only [Act.put, List.setIfInBounds_toArray, List.set_cons_zero, List.set_cons_succ]
  refine wpList_runV (w' := WA) rfl (.pointer (some ⟨w1.heap.size, 0, none⟩)) (by rw [hWA]; exact exec_alloc rfl (alloc_key w1)) ?_
  simp only [Act.put, List.setIfInBounds_toArray, List.set_cons_zero, List.set_cons_succ]
  refine wpList_store_mid rfl 91 _ _ rfl w1.heap.size 0 (keyL 6 [] 1 [] []).toArray rfl rfl (show WA.there w1.heap.size 0 19 from there_blk (cs := [.int .i64 0, .string ⟨#[]⟩, .int .i64 0, .string ⟨#[]⟩, .string ⟨#[]⟩, .string ⟨#[]⟩, .string ⟨#[]⟩, .string ⟨#[]⟩, .string ⟨#[]⟩, .string ⟨#[]⟩, .string ⟨#[]⟩, .int .i64 0, .int .i64 0, .int .i64 0, .int .i64 0, .int .i64 0, .int .i64 0, .int .i64 0, .int .i64 0]) hkA) infoKey (all_oneCell_toArray (keyL_one 6 [] 1 [] [])) ?_
  rw [show (keyL 6 [] 1 [] []).toArray.toList = keyL 6 [] 1 [] [] from rfl, ← hW1]
  refine wpList_nil ?_
  simp only [Act.put]
  obtain ⟨⟨dv, d0⟩, d1⟩ := kid_cell hk2 0 (by omega)
  clear hW1 hWA hkA hbA hzA
  have hset : (W1.setCell ⟨w1.heap.size, 11, none⟩ (.int .i64 (i : Nat))).heap[w1.heap.size]? = some (.cells (Kz.cells (optK i)).toArray 91 (0, 0)) := by
    rw [Go.setCell_eq_setRow W1 w1.heap.size 11 _ 91 (0, 0) _ hk2, setRow_heap W1 _ _ _ _ _ hk2]
    rfl
  have hb3 : Below w1.heap.size w1 (W1.setCell ⟨w1.heap.size, 11, none⟩ (.int .i64 (i : Nat))) := hb2.trans (below_set 11 _ (Nat.le_refl _) (by omega))
  have HB3 := Lib.hid hb3; have HSET := Lib.hid hset; have HB2 := Lib.hid hb2
  clear hb3 hset hk2 hb2
  go_upto_region 5 with fail
  obtain ⟨W2, hW2⟩ : ∃ W2, W2 = W1.setCell ⟨w1.heap.size, 11, none⟩ (.int .i64 (i : Nat)) := ⟨_, rfl⟩
  rw [← hW2]
  rw [← hW2] at HB3 HSET
  clear hW2 d0 d1
  have hcl : (Kz.cells (optK i)).length = 19 := rfl
  have RA := rangeAt_blk (cs := Kz.cells (optK i)) HSET.out
  refine wp_region_lit ?_
  refine wpList_runV (w' := W2) rfl (.pointer (some ⟨tb, 0, none⟩)) (by simp [execOp, go_sem]) ?_
  refine wpList_load_mid rfl 91 _ rfl w1.heap.size 0 rfl (Kz.cells (optK i)) _ RA Try.underlying91 rfl (by rw [hcl]; exact infoKey) ?_
  simp only [Act.put, List.setIfInBounds_toArray, List.set_cons_zero, List.set_cons_succ]
  have hb4 := HB1.out.trans (HB3.out.mono (by omega))
  refine wpList_enter (f := 55) (args := #[.pointer (some ⟨tb, 0, none⟩), .agg (Kz.cells (optK i)).toArray]) rfl (by simp [go_sem]) (HCN.out W2 (HT.out.below hb4)) ?_
  rintro e w5 ⟨rb2, nb2, ty2, nu2, rfl, ha⟩
  refine ⟨_, rfl, ?_⟩
  have HA := Lib.hid ha
  clear ha
  simp only [Act.put, List.setIfInBounds_toArray, List.set_cons_zero, List.set_cons_succ]
  go_wp2
  go_ret2
  exact ⟨rb2, nb2, ty2, nu2, rfl, HA.out.tab, (Keeps.of_below hb4).trans HA.out.keeps (fun g h => .inl h), HA.out.grew.older hb4.size⟩
end Sp
end Go.Proofs.Ytdophmlnmbcjlaa
