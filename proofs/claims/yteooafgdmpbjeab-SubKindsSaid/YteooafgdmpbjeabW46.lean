/- row.node: what a number is, names gone through. -/
import Derived.Test.YteooafgdmpbjeabW19
import Derived.Test.YteooafgdmpbjeabW45
import Derived.Test.YteooafgdmpbjeabW39
import Derived.Test.YteooafgdmpbjeabW18
import Derived.Test.YteooafgdmpbjeabW40
namespace Go.Proofs.Yteooafgdmpbjeab
open Go.RowKit
namespace Sp
open Sc
set_option maxRecDepth 100000
/-- A table whose names lead somewhere; whose lists, maps and Opts have one kid. -/
structure OpL (T : List Kz) (N : List NN) : Prop where
  lt : ∀ i, i < T.length → openK T N 13 i < T.length
  ne : ∀ i, i < T.length → (T.getD (openK T N 13 i) default).kind ≠ 9
  look : ∀ k ∈ T, k.kind = 9 → lookN N k.name < T.length
  one : ∀ k ∈ T, k.kind = 4 ∨ k.kind = 5 ∨ k.kind = 6 → k.kids.length = 1
/-- The row of the pairs that were opened: its block qb, its map ob; the table. -/
structure RwL (w : World) (qb ob tb rb nb mb sb m : Nat) (ty nu : Value) (T : List Kz) (N : List NN) (S : List (Nat × Nat)) : Prop where
  box : w.heap[qb]? = some (.cells #[.pointer (some ⟨tb, 0, none⟩), .map (some ob)] 81 (0, 0))
  tab : TabV w tb rb nb mb sb m ty nu T
  names : TxtV w mb (encNN N)
  prs : PrsV w ob S
  far : ¬ Own tb rb nb ob
  fm : mb ≠ ob
theorem RwL.qo {w : World} {qb ob tb rb nb mb sb m : Nat} {ty nu : Value} {T : List Kz} {N : List NN} {S : List (Nat × Nat)} (h : RwL w qb ob tb rb nb mb sb m ty nu T N S) : qb ≠ ob := fun e => by
  obtain ⟨es, c, hm⟩ := h.prs.isMap
  rw [← e, h.box] at hm; cases hm
theorem RwL.step {w w' : World} {qb ob tb rb nb mb sb m : Nat} {ty nu : Value} {T : List Kz} {N : List NN} {S S' : List (Nat × Nat)} (h : RwL w qb ob tb rb nb mb sb m ty nu T N S) (hk : Keeps (fun g => g = ob) w w') (hp : PrsV w' ob S') : RwL w' qb ob tb rb nb mb sb m ty nu T N S' :=
  ⟨(hk.block qb (Array.getElem?_eq_some_iff.1 h.box).1 h.qo).trans h.box, h.tab.keep (fun g hg => hk.block g (h.tab.lt hg) (fun e => h.far (e ▸ hg))) hk.size, h.names.same (hk.block mb h.names.lt h.fm), hp, h.far, h.fm⟩
theorem RwL.below {w w' : World} {qb ob tb rb nb mb sb m : Nat} {ty nu : Value} {T : List Kz} {N : List NN} {S : List (Nat × Nat)} (h : RwL w qb ob tb rb nb mb sb m ty nu T N S) (hb : Below w.heap.size w w') : RwL w' qb ob tb rb nb mb sb m ty nu T N S :=
  h.step (Keeps.of_below hb) (h.prs.same (hb.block ob h.prs.lt))
theorem two_blkR {w : World} {b : Nat} {t : TypeId} {v0 v1 : Value} (h : w.heap[b]? = some (.cells #[v0, v1] t (0, 0))) : w.cell? ⟨b, 0, none⟩ = some v0 ∧ w.cell? ⟨b, 1, none⟩ = some v1 := by
  refine ⟨?_, ?_⟩ <;> simp [World.cell?, h]
theorem getD_at {T : List Kz} {i : Nat} (h : i < T.length) : T.getD i default = T[i] := by rw [List.getD, List.getElem?_eq_getElem h]; rfl
theorem results_tmp_cell {fn : Func} {p u : Tmp} {ty : TypeId} (h : fn.results = #[.tmp u, .cell p ty]) (tmps : Array Value) (P : Program) (w : World) :
    (results fn tmps).run P w =
      ((asAddr (tmps.getD p undef)).run P w).andThen fun a w₁ => ((loadVar ty a).run P w₁).andThen fun v w₂ => .ok (.tuple #[tmps.getD u undef, v]) w₂ := by
  simp only [results, h]
  simp [Sem.run_bind, Result.andThen]
/-- What is told of a number: its type's node, in rows made since. -/
def NodV (w w' : World) (x : Kz) (an ak : Option Addr) : Prop :=
  RowV w' (fun g => w.heap.size ≤ g ∧ g < w'.heap.size) an 1 (x.names.map fun n => [str n]) ∧ RowV w' (fun g => w.heap.size ≤ g ∧ g < w'.heap.size) ak 1 (x.kids.map fun (j : Nat) => [Value.int .i64 (j : Nat)])
set_option maxHeartbeats 4000000 in
theorem node_any (i : Nat) (w : World) (qb ob tb rb nb mb sb m : Nat) (ty nu : Value) (T : List Kz) (N : List NN) (S : List (Nat × Nat)) (H : RwL w qb ob tb rb nb mb sb m ty nu T N S) (hO : OpL T N) (hi : i < T.length) :
    Calls Try.prog 69 #[.pointer (some ⟨qb, 0, none⟩), .int .i64 i] w fun e w' => ∃ an cn ak ck, e = .returned (.tuple #[.int .i64 (openK T N 13 i : Nat), .agg #[.int .i64 (T.getD (openK T N 13 i) default).kind, .string ⟨(T.getD (openK T N 13 i) default).name.toArray⟩, .slice an (T.getD (openK T N 13 i) default).names.length cn, .slice ak (T.getD (openK T N 13 i) default).kids.length ck]]) ∧
      NodV w w' (T.getD (openK T N 13 i) default) an ak ∧ Below w.heap.size w w' := by
  obtain ⟨W0, hW0⟩ : ∃ W0, W0 = w.alloc (.cells nodZ 95) := ⟨_, rfl⟩
  have hz0 : W0.heap.size = w.heap.size + 1 := by rw [hW0]; simp
  have hb0 : Below w.heap.size w W0 := by rw [hW0]; exact (Below.refl _ _).alloc (Nat.le_refl _) _
  have hn0 : W0.heap[w.heap.size]? = some (.cells nodZ 95 (0, 0)) := by rw [hW0]; exact heap_alloc_new w _
  have H0 := H.below hb0
  have hlt := hO.lt i hi
  have C1 := topen_any i 13 (openK T N 13 i) W0 tb rb nb mb sb m ty nu T N H0.tab H0.names hi rfl (hO.ne i hi) hO.look
  have C2 : ∀ W, Below W0.heap.size W0 W → Calls Try.prog 39 #[.pointer (some ⟨tb, 0, none⟩), .int .i64 (openK T N 13 i)] W _ := fun W hW => tnode_in (openK T N 13 i) W tb rb nb mb sb m ty nu T (H0.below hW).tab hlt
  rw [getD_at hlt]
  generalize T[openK T N 13 i] = k at *
  generalize openK T N 13 i = r at *
  obtain ⟨q0, q1⟩ := two_blkR H0.box
  have hqb := (Array.getElem?_eq_some_iff.1 H0.box).1
  have HB : Hid (∀ W, Below W0.heap.size W0 W → W.cell? ⟨qb, 0, none⟩ = some (.pointer (some ⟨tb, 0, none⟩))) := fun W hW => (two_blkR (H0.below hW).box).1
  have HC1 := Lib.hid C1; have HC2 := Lib.hid C2; have HN0 := Lib.hid hn0; have HB0 := Lib.hid hb0; have HW0 := Lib.hid hW0
  clear C1 C2 hn0 hb0 hW0 H0 H hO hlt
  go_enter Try.func69, Try.ntmps69
  go_upto_region 1 with fail
  rw [show w.alloc (.cells #[.int .i64 0, .string ⟨#[]⟩, .slice none 0 0, .slice none 0 0] 95) = W0 from HW0.out.symm]
  go_upto_region 2 with (go_at_call 50; (refine HC1.out.mono ?_); rintro e w1 ⟨rfl, b1⟩; have hz1 := b1.size; have p0 := HB.out w1 b1; have HB1 := Lib.hid b1; clear b1)
  go_upto_region 3 with (go_at_call 39; (refine (HC2.out w1 HB1.out).mono ?_); rintro e w2 ⟨an, cn, ak, ck, rfl, r1, r2, b2⟩; have hz2 := b2.size; obtain ⟨⟨y0, y1, y2, y3⟩, ⟨f0, f1, f2, f3⟩⟩ := four_blk ((b2.block w.heap.size (by omega)).trans ((HB1.out.block w.heap.size (by omega)).trans HN0.out)); have HR1 := Lib.hid r1; have HR2 := Lib.hid r2; have HB2 := Lib.hid b2; clear r1 r2 b2)
  go_upto_region 3 with fail
  obtain ⟨W3, hW3⟩ : ∃ W3, W3 = w2.alloc (.cells #[.int .i64 k.kind, .string ⟨k.name.toArray⟩, .slice an k.names.length cn, .slice ak k.kids.length ck] 95) := ⟨_, rfl⟩
  have hz3 : W3.heap.size = w2.heap.size + 1 := by rw [hW3]; simp
  have hb3 : Below w2.heap.size w2 W3 := by rw [hW3]; exact (Below.refl _ _).alloc (Nat.le_refl _) _
  have hr3 : W3.heap[w.heap.size]? = some (.cells nodZ 95 (0, 0)) := (hb3.block _ (by omega)).trans ((HB2.out.block w.heap.size (by omega)).trans ((HB1.out.block w.heap.size (by omega)).trans HN0.out))
  have hn3 : W3.heap[w2.heap.size]? = some (.cells #[.int .i64 k.kind, .string ⟨k.name.toArray⟩, .slice an k.names.length cn, .slice ak k.kids.length ck] 95 (0, 0)) := by rw [hW3]; exact heap_alloc_new w2 _
  rw [← hW3]
  clear y0 y1 y2 y3 f0 f1 f2 f3
  obtain ⟨⟨y0, y1, y2, y3⟩, ⟨f0, f1, f2, f3⟩⟩ := four_blk hr3
  obtain ⟨⟨z0, z1, z2, z3⟩, -⟩ := four_blk hn3
  have HW3 := Lib.hid hW3; have HB3 := Lib.hid hb3; have HR3 := Lib.hid hr3
  clear hW3 hb3 hn3 hr3
  refine wp_region_still_tail 3 (by kernel_rfl) (by kernel_rfl) ?_
  simp only [List.take_succ_cons, List.take_zero, List.drop_succ_cons, List.drop_zero]
  iterate 3 still_step
  refine wpStill_nil ?_
  go_wp2
  obtain ⟨W4, hW4⟩ : ∃ W4, W4 = ((((W3.setCell ⟨w.heap.size, 0, none⟩ (.int .i64 k.kind)).setCell ⟨w.heap.size, 1, none⟩ (.string ⟨k.name.toArray⟩)).setCell ⟨w.heap.size, 2, none⟩ (.slice an k.names.length cn)).setCell ⟨w.heap.size, 3, none⟩ (.slice ak k.kids.length ck)).drew := ⟨_, rfl⟩
  have hx4 : W4.heap[w.heap.size]? = some (.cells #[.int .i64 k.kind, .string ⟨k.name.toArray⟩, .slice an k.names.length cn, .slice ak k.kids.length ck] 95 (0, 0)) := by
    rw [hW4]
    exact set_four HR3.out
  have hk4' : Keeps (fun g => g = w.heap.size) W3 W4 := by rw [hW4]; exact (((((Keeps.refl (fun g => g = w.heap.size) _).setCell 0 _ rfl).setCell 1 _ rfl).setCell 2 _ rfl).setCell 3 _ rfl).drew
  rw [← hW4]
  have hl := run_loadVar_row (P := Try.prog) W4 w.heap.size 95 95 _ (0, 0) _ hx4 Try.underlying95 rfl (by kernel_rfl)
  have hz4 := hk4'.size
  refine bodyPost_ret (v := .tuple #[.int .i64 r, .agg #[.int .i64 k.kind, .string ⟨k.name.toArray⟩, .slice an k.names.length cn, .slice ak k.kids.length ck]]) (by rw [results_tmp_cell rfl]; simp [asAddr, hl]) rfl ?_
  have hb24 : ∀ g, w1.heap.size ≤ g → g < w2.heap.size → W4.heap[g]? = w2.heap[g]? := fun g h1 h2 => (hk4'.block g (by omega) (by omega)).trans (HB3.out.block g h2)
  exact ⟨an, cn, ak, ck, rfl, ⟨HR1.out.keep (fun g hg => ⟨by have := hg.1; omega, by have := hg.2; omega⟩) (fun g hg => hb24 g hg.1 hg.2), HR2.out.keep (fun g hg => ⟨by have := hg.1; omega, by have := hg.2; omega⟩) (fun g hg => hb24 g hg.1 hg.2)⟩,
    HB0.out.trans ((HB1.out.mono (by omega)).trans ((HB2.out.mono (by omega)).trans ((HB3.out.mono (by omega)).trans (hk4'.below (by omega) (fun g e => by omega)))))⟩
end Sp
end Go.Proofs.Yteooafgdmpbjeab
namespace Go.Proofs.Yteooafgdmpbjeab
open Go.RowKit
namespace Sp
open Sc
set_option maxRecDepth 100000
/-- An Opt's key. -/
def optK (i : Nat) : Kz := ⟨6, [], [], [i]⟩
theorem opt_fit {i : Nat} (h : i < 120) : KFit (optK i) :=
  ⟨⟨⟨by show (1 : Int) ≤ 6; omega, by show (6 : Int) ≤ 9; omega⟩, by simp [optK], rfl⟩, by simp [optK], (fun n h => by simp [optK] at h), (fun j hj => by simp [optK] at hj; omega)⟩
theorem exec_build2c {P : Program} {b : Act} {o : Oper} {v v' : World} {t : TypeId} {x y : Operand} {p q u : Value} (ho : o.op = .build t #[(0, x), (2, y)]) (hx : b.eval x = p) (hy : b.eval y = q) (hr : (Instr.build t #[(0, p), (2, q)]).run P v = .ok u v') :
    (execOp b.eval o).run P v = .ok (.value u) v' := by
  unfold execOp
  simp only [ho, List.map_toArray, List.map_cons, List.map_nil, hx, hy, Sem.run_bind, hr, Result.andThen_ok, Sem.run_pure]
theorem build_opt (w : World) : (Instr.build 76 #[(0, .int .i64 6), (2, .int .i64 1)]).run Try.prog w = .ok (.agg (keyL 6 [] 1 [] []).toArray) w := by kernel_rfl
set_option maxHeartbeats 4000000 in
theorem topt_any (i : Nat) (w : World) (tb rb nb mb sb m : Nat) (ty nu : Value) (T : List Kz) (hT : TabV w tb rb nb mb sb m ty nu T) (hi : i < T.length) :
    Calls Try.prog 12 #[.pointer (some ⟨tb, 0, none⟩), .int .i64 (i : Nat)] w fun e w' => ∃ rb' nb' ty' nu', e = .returned (.tuple #[.int .i64 ((numK T (optK i)).1 : Nat), .int .i64 ((numK T (optK i)).2.1 : Nat)]) ∧ Added w w' tb rb nb mb sb m (numK T (optK i)).2.2 rb' nb' ty' nu' := by
  have h120 := hT.wf.len
  have CH := thas_any i w tb rb nb mb sb m ty nu T hT
  have htr : (decide (0 ≤ (i : Int)) && decide ((i : Int) < (T.length : Nat))) = true := by simp; omega
  rw [htr] at CH
  obtain ⟨v, hv⟩ : ∃ v, v = numK T (optK i) := ⟨_, rfl⟩
  have CN := fun W (hW : TabV W tb rb nb mb sb m ty nu T) => number_any (optK i) (opt_fit (by omega)) W tb rb nb mb sb m ty nu T hW (fun j hj => by simp [optK] at hj; omega)
  rw [← hv] at CN ⊢
  have HT := Lib.hid hT; have HCH := Lib.hid CH; have HCN := Lib.hid CN
  clear hT CH CN hv htr
  go_enter Try.func12, Try.ntmps12
  go_upto_region 3 with (go_at_call 28; (refine HCH.out.mono ?_); rintro e w1 ⟨rfl, b1⟩; have hz1 := b1.size; have HB1 := Lib.hid b1; clear b1)
  obtain ⟨WA, hWA⟩ : ∃ WA, WA = w1.alloc (.cells #[.int .i64 0, .string ⟨#[]⟩, .int .i64 0, .string ⟨#[]⟩, .string ⟨#[]⟩, .string ⟨#[]⟩, .string ⟨#[]⟩, .string ⟨#[]⟩, .string ⟨#[]⟩, .string ⟨#[]⟩, .string ⟨#[]⟩, .int .i64 0, .int .i64 0, .int .i64 0, .int .i64 0, .int .i64 0, .int .i64 0, .int .i64 0, .int .i64 0] 76) := ⟨_, rfl⟩
  have hzA : WA.heap.size = w1.heap.size + 1 := by rw [hWA]; simp
  have hkA : WA.heap[w1.heap.size]? = some (.cells ([.int .i64 0, .string ⟨#[]⟩, .int .i64 0, .string ⟨#[]⟩, .string ⟨#[]⟩, .string ⟨#[]⟩, .string ⟨#[]⟩, .string ⟨#[]⟩, .string ⟨#[]⟩, .string ⟨#[]⟩, .string ⟨#[]⟩, .int .i64 0, .int .i64 0, .int .i64 0, .int .i64 0, .int .i64 0, .int .i64 0, .int .i64 0, .int .i64 0] : List Value).toArray 76 (0, 0)) := by rw [hWA]; exact heap_alloc_new w1 _
  have hbA : Below w1.heap.size w1 WA := by rw [hWA]; exact (Below.refl _ _).alloc (Nat.le_refl _) _
  obtain ⟨W1, hW1⟩ : ∃ W1, W1 = WA.setCells w1.heap.size 0 (keyL 6 [] 1 [] []) := ⟨_, rfl⟩
  have hz2 : W1.heap.size = w1.heap.size + 1 := by rw [hW1, setCells_size]; exact hzA
  have hb2 : Below w1.heap.size w1 W1 := by rw [hW1]; exact setCells_below _ (Nat.le_refl _) _ 0 WA hbA
  have hk2 : W1.heap[w1.heap.size]? = some (.cells (keyL 6 [] 1 [] []).toArray 76 (0, 0)) := by rw [hW1]; exact setCells_blk hkA rfl
  refine wp_region_lit ?_
  refine wpList_runV (w' := w1) rfl _ (exec_build2c rfl rfl rfl (build_opt w1)) ?_
  simp only [Act.put, List.setIfInBounds_toArray, List.set_cons_zero, List.set_cons_succ]
  refine wpList_runV (w' := WA) rfl (.pointer (some ⟨w1.heap.size, 0, none⟩)) (by rw [hWA]; exact exec_alloc rfl (alloc_key w1)) ?_
  simp only [Act.put, List.setIfInBounds_toArray, List.set_cons_zero, List.set_cons_succ]
  refine wpList_store_mid rfl 76 _ _ rfl w1.heap.size 0 (keyL 6 [] 1 [] []).toArray rfl rfl (show WA.there w1.heap.size 0 19 from there_blk (cs := [.int .i64 0, .string ⟨#[]⟩, .int .i64 0, .string ⟨#[]⟩, .string ⟨#[]⟩, .string ⟨#[]⟩, .string ⟨#[]⟩, .string ⟨#[]⟩, .string ⟨#[]⟩, .string ⟨#[]⟩, .string ⟨#[]⟩, .int .i64 0, .int .i64 0, .int .i64 0, .int .i64 0, .int .i64 0, .int .i64 0, .int .i64 0, .int .i64 0]) hkA) infoKey (all_oneCell_toArray (keyL_one 6 [] 1 [] [])) ?_
  rw [show (keyL 6 [] 1 [] []).toArray.toList = keyL 6 [] 1 [] [] from rfl, ← hW1]
  refine wpList_nil ?_
  simp only [Act.put]
  obtain ⟨⟨dv, d0⟩, d1⟩ := kid_cell hk2 0 (by omega)
  clear hW1 hWA hkA hbA hzA
  have hset : (W1.setCell ⟨w1.heap.size, 11, none⟩ (.int .i64 (i : Nat))).heap[w1.heap.size]? = some (.cells (Kz.cells (optK i)).toArray 76 (0, 0)) := by
    rw [Go.setCell_eq_setRow W1 w1.heap.size 11 _ 76 (0, 0) _ hk2, setRow_heap W1 _ _ _ _ _ hk2]
    rfl
  have hb3 : Below w1.heap.size w1 (W1.setCell ⟨w1.heap.size, 11, none⟩ (.int .i64 (i : Nat))) := hb2.trans (below_set 11 _ (Nat.le_refl _) (by omega))
  have HB3 := Lib.hid hb3; have HSET := Lib.hid hset; have HB2 := Lib.hid hb2
  clear hb3 hset hk2 hb2
  go_upto_region 5 with fail
  obtain ⟨W2, hW2⟩ : ∃ W2, W2 = W1.setCell ⟨w1.heap.size, 11, none⟩ (.int .i64 (i : Nat)) := ⟨_, rfl⟩
  rw [← hW2]
  rw [← hW2] at HB3 HSET
  clear hW2 d0 d1
  have hcl : (Kz.cells (optK i)).length = 19 := rfl
  have RA := rangeAt_blk (cs := Kz.cells (optK i)) HSET.out
  refine wp_region_lit ?_
  refine wpList_runV (w' := W2) rfl (.pointer (some ⟨tb, 0, none⟩)) (by simp [execOp, go_sem]) ?_
  refine wpList_load_mid rfl 76 _ rfl w1.heap.size 0 rfl (Kz.cells (optK i)) _ RA Try.underlying76 rfl (by rw [hcl]; exact infoKey) ?_
  simp only [Act.put, List.setIfInBounds_toArray, List.set_cons_zero, List.set_cons_succ]
  have hb4 := HB1.out.trans (HB3.out.mono (by omega))
  refine wpList_enter (f := 29) (args := #[.pointer (some ⟨tb, 0, none⟩), .agg (Kz.cells (optK i)).toArray]) rfl (by simp [go_sem]) (HCN.out W2 (HT.out.below hb4)) ?_
  rintro e w5 ⟨rb2, nb2, ty2, nu2, rfl, ha⟩
  refine ⟨_, rfl, ?_⟩
  have HA := Lib.hid ha
  clear ha
  simp only [Act.put, List.setIfInBounds_toArray, List.set_cons_zero, List.set_cons_succ]
  go_wp2
  go_ret2
  exact ⟨rb2, nb2, ty2, nu2, rfl, HA.out.tab, (Keeps.of_below hb4).trans HA.out.keeps (fun g h => .inl h), HA.out.grew.older hb4.size⟩
end Sp
end Go.Proofs.Yteooafgdmpbjeab
namespace Go.Proofs.Yteooafgdmpbjeab
open Go.RowKit
namespace Sp
open Sc
theorem fitZs_of {ks : List Tz} (h : ∀ t ∈ ks, fitZ t = true ∧ shortZ t = true) : fitZs ks = true ∧ shortZs ks = true := by
  induction ks with
  | nil => exact ⟨rfl, rfl⟩
  | cons t ks ih =>
    obtain ⟨a, b⟩ := ih fun x hx => h x (List.mem_cons_of_mem _ hx)
    obtain ⟨c, d⟩ := h t List.mem_cons_self
    exact ⟨by rw [fitZs, a, c]; rfl, by rw [shortZs, b, d]; rfl⟩
theorem typT_fit {T : List Kz} (hT : ∀ i (h : i < T.length), ∀ j ∈ T[i].kids, j < i) (hf : ∀ k ∈ T, KFit k) : ∀ (n i : Nat), i < n → i < T.length → fitZ (typT T i) = true ∧ shortZ (typT T i) = true
  | 0, _, h, _ => absurd h (Nat.not_lt_zero _)
  | n + 1, i, h, hi => by
    have hk := hf T[i] (List.getElem_mem hi)
    rw [typT_at hT hi]
    obtain ⟨a, b⟩ := fitZs_of (ks := T[i].kids.map (typT T)) fun t ht => by
      obtain ⟨j, hj, rfl⟩ := List.mem_map.1 ht
      have := hT i hi j hj
      exact typT_fit hT hf n j (by omega) (by omega)
    have h8 := hk.toWfK.names8
    have hf8 := hk.toWfK.few
    refine ⟨?_, ?_⟩
    · rw [fitZ, a]
      simp only [Bool.and_true, Bool.and_eq_true, decide_eq_true_eq, List.all_eq_true, List.length_map]
      exact ⟨le_max hk.nm, ⟨le_max (by omega), fun x hx => le_max (hk.nms x hx)⟩, le_max (by omega)⟩
    · rw [shortZ, b]
      simp only [Bool.and_true, Bool.and_eq_true, decide_eq_true_eq, List.all_eq_true]
      exact ⟨hk.nm, fun x hx => hk.nms x hx⟩
theorem trees_pure {has : List UInt8 → Bool} {T : List Kz} (hT : TabG has 400 T) {i : Nat} (hi : i < T.length) : addK has T (typT T i) = (i, 0, T) := by
  obtain ⟨a, b⟩ := hT.ok i hi
  rw [(addK_g hT ⟨a, b⟩).1]
  exact typT_again hT.toTabW (i + 1) i (Nat.lt_succ_self _) hi
end Sp
end Go.Proofs.Yteooafgdmpbjeab
