/- Le: whether a type fits where another is asked, and how many pairs were opened. -/
import Derived.Test.YteooafgdmpbjeabS48
import Derived.Test.YteooafgdmpbjeabS37
namespace Go.Proofs.Yteooafgdmpbjeab
open Go.RowKit
namespace Sp
open Sc
set_option maxRecDepth 100000
set_option maxHeartbeats 4000000 in
theorem shas_any (i : Nat) (w : World) (tb rb nb mb sb m : Nat) (ty nu : Value) (T : List Kz) (N : List NN) (hT : TabV w tb rb nb mb sb m ty nu T) (hN : TxtV w mb (encNN N)) (hO : OpL T N) (hi : i < T.length) :
    Calls Try.prog 30 #[.pointer (some ⟨tb, 0, none⟩), .int .i64 (i : Nat)] w fun e w' => e = .returned (.bool true) ∧ Below w.heap.size w w' := by
  have HC := Lib.hid (topen_any i 13 _ w tb rb nb mb sb m ty nu T N hT hN hi rfl (hO.ne i hi) hO.look)
  clear hT hN hO hi
  go_enter Try.func30, Try.ntmps30
  go_wp2_with (go_at_call 50; (refine HC.out.mono ?_); rintro e w1 ⟨rfl, b1⟩; have HB1 := Lib.hid b1; clear b1)
  go_ret
  exact ⟨rfl, HB1.out⟩
set_option maxHeartbeats 4000000 in
theorem le_any (a b : Nat) (w : World) (tb rb nb mb sb m : Nat) (ty nu : Value) (T : List Kz) (N : List NN) (hT : TabV w tb rb nb mb sb m ty nu T) (hN : TxtV w mb (encNN N)) (hO : OpL T N) (ha : a < T.length) (hb : b < T.length) :
    Calls Try.prog 13 #[.pointer (some ⟨tb, 0, none⟩), .int .i64 (a : Nat), .int .i64 (b : Nat)] w fun e w' => e = .returned (.tuple #[.bool (leL T (openK T N 13) a b).1, .int .i64 ((leL T (openK T N 13) a b).2.length : Nat)]) ∧ Below w.heap.size w w' := by
  have HA := Lib.hid (fun W (hW : Below w.heap.size w W) => shas_any a W tb rb nb mb sb m ty nu T N (hT.below hW) (hN.below hW) hO ha)
  have HB := Lib.hid (fun W (hW : Below w.heap.size w W) => shas_any b W tb rb nb mb sb m ty nu T N (hT.below hW) (hN.below hW) hO hb)
  have CH := fun (qb ob : Nat) W (H : RwL W qb ob tb rb nb mb sb m ty nu T N []) => hold_all qb ob tb rb nb mb sb m ty nu T N hT.wf hO (T.length * T.length + 1) [] a b W H ha hb (PrG.nil _) (by simp)
  have hg := (holdsL_g hT.wf hO.lt (T.length * T.length + 1)).ok [] a b (PrG.nil _) ha hb
  obtain ⟨q, hq⟩ : ∃ q, q = leL T (openK T N 13) a b := ⟨_, rfl⟩
  rw [← hq]
  unfold leL at hq
  rw [← hq] at hg CH
  have HT := Lib.hid hT; have HN := Lib.hid hN; have HCH := Lib.hid CH; have HG := Lib.hid hg
  have hlt := hT.tlt; have hml := hN.lt
  clear hT hN hO ha hb CH hg hq
  have hmm := @run_makeMap Try.prog
  go_enter Try.func13, Try.ntmps13
  go_upto_region 3 with (first
    | (go_at_call 30; (with_reducible refine (HA.out _ (Below.refl _ _)).mono ?_); rintro e w1 ⟨rfl, b1⟩; have hz1 := b1.size; have HB1 := Lib.hid b1; clear b1)
    | (go_at_call 30; (with_reducible refine (HB.out _ HB1.out).mono ?_); rintro e w2 ⟨rfl, b2⟩; have hz2 := b2.size; have HB2 := Lib.hid b2; clear b2))
  go_upto_region 4 with fail
  obtain ⟨W3, hW3⟩ : ∃ W3, W3 = (w2.alloc (.map #[] 0)).alloc (.cells #[.pointer (some ⟨tb, 0, none⟩), .map (some w2.heap.size)] 81) := ⟨_, rfl⟩
  have hz3 : W3.heap.size = w2.heap.size + 2 := by rw [hW3]; simp
  have hb3 : Below w2.heap.size w2 W3 := by rw [hW3]; exact ((Below.refl _ _).alloc (Nat.le_refl _) _).alloc (by simp) _
  have hq3 : W3.heap[w2.heap.size + 1]? = some (.cells #[.pointer (some ⟨tb, 0, none⟩), .map (some w2.heap.size)] 81 (0, 0)) := by rw [hW3, blk_if, if_pos (by simp)]
  have hp3 : PrsV W3 w2.heap.size [] := by
    refine (PrsV.made w2).same ?_
    rw [hW3, Below.heap_alloc _ _ _ (by simp)]
  have hb03 : Below w.heap.size w W3 := HB1.out.trans ((HB2.out.mono (by omega)).trans (hb3.mono (by omega)))
  rw [← hW3]
  have CH := HCH.out (w2.heap.size + 1) w2.heap.size W3 ⟨hq3, HT.out.below hb03, HN.out.below hb03, hp3, (fun ho => by have := HT.out.lt ho; omega), by omega⟩
  have HCH2 := Lib.hid CH; have HB03 := Lib.hid hb03; have HQ3 := Lib.hid hq3
  clear CH hb03 hq3 hb3 hp3 hW3 HCH
  go_upto_region 5 with (go_at_call 31; (with_reducible refine HCH2.out.mono ?_); rintro e w4 ⟨rfl, hp4, hk4⟩; have HP4 := Lib.hid hp4; have HK4 := Lib.hid hk4; clear hp4 hk4)
  obtain ⟨y0, y1⟩ := two_blkR ((HK4.out.block (w2.heap.size + 1) (by omega) (by omega)).trans HQ3.out)
  have hlen := fun ty => HP4.out.len HG.out.1.nd ty
  go_wp2
  go_ret2
  exact ⟨rfl, HB03.out.trans (HK4.out.below (B := w.heap.size) (by omega) (fun g e => by omega))⟩
end Sp
end Go.Proofs.Yteooafgdmpbjeab
namespace Go.Proofs.Yteooafgdmpbjeab
open Go.RowKit
namespace Sp
open Sc
set_option maxRecDepth 100000
/-- An Opt's key. -/
def optK (i : Nat) : Kz := ⟨6, [], [], [i]⟩
theorem opt_fit {i : Nat} (h : i < 120) : KFit (optK i) :=
  ⟨⟨⟨by show (1 : Int) ≤ 6; omega, by show (6 : Int) ≤ 9; omega⟩, by simp [optK], rfl⟩, by simp [optK], (fun n h => by simp [optK] at h), (fun j hj => by simp [optK] at hj; omega)⟩
theorem exec_build2c {P : Program} {b : Act} {o : Oper} {v v' : World} {t : TypeId} {x y : Operand} {p q u : Value} (ho : o.op = .build t #[(0, x), (2, y)]) (hx : b.eval x = p) (hy : b.eval y = q) (hr : (Instr.build t #[(0, p), (2, q)]).run P v = .ok u v') :
    (execOp b.eval o).run P v = .ok (.value u) v' := by
  unfold execOp
  simp only [ho, List.map_toArray, List.map_cons, List.map_nil, hx, hy, Sem.run_bind, hr, Result.andThen_ok, Sem.run_pure]
theorem build_opt (w : World) : (Instr.build 76 #[(0, .int .i64 6), (2, .int .i64 1)]).run Try.prog w = .ok (.agg (keyL 6 [] 1 [] []).toArray) w := by kernel_rfl
set_option maxHeartbeats 4000000 in
theorem topt_any (i : Nat) (w : World) (tb rb nb mb sb m : Nat) (ty nu : Value) (T : List Kz) (hT : TabV w tb rb nb mb sb m ty nu T) (hi : i < T.length) :
    Calls Try.prog 12 #[.pointer (some ⟨tb, 0, none⟩), .int .i64 (i : Nat)] w fun e w' => ∃ rb' nb' ty' nu', e = .returned (.tuple #[.int .i64 ((numK T (optK i)).1 : Nat), .int .i64 ((numK T (optK i)).2.1 : Nat)]) ∧ Added w w' tb rb nb mb sb m (numK T (optK i)).2.2 rb' nb' ty' nu' := by
  have h120 := hT.wf.len
  have CH := thas_any i w tb rb nb mb sb m ty nu T hT
  have htr : (decide (0 ≤ (i : Int)) && decide ((i : Int) < (T.length : Nat))) = true := by simp; omega
  rw [htr] at CH
  obtain ⟨v, hv⟩ : ∃ v, v = numK T (optK i) := ⟨_, rfl⟩
  have CN := fun W (hW : TabV W tb rb nb mb sb m ty nu T) => number_any (optK i) (opt_fit (by omega)) W tb rb nb mb sb m ty nu T hW (fun j hj => by simp [optK] at hj; omega)
  rw [← hv] at CN ⊢
  have HT := Lib.hid hT; have HCH := Lib.hid CH; have HCN := Lib.hid CN
  clear hT CH CN hv htr
  go_enter Try.func12, Try.ntmps12
  go_upto_region 3 with (go_at_call 28; (refine HCH.out.mono ?_); rintro e w1 ⟨rfl, b1⟩; have hz1 := b1.size; have HB1 := Lib.hid b1; clear b1)
  obtain ⟨WA, hWA⟩ : ∃ WA, WA = w1.alloc (.cells #[.int .i64 0, .string ⟨#[]⟩, .int .i64 0, .string ⟨#[]⟩, .string ⟨#[]⟩, .string ⟨#[]⟩, .string ⟨#[]⟩, .string ⟨#[]⟩, .string ⟨#[]⟩, .string ⟨#[]⟩, .string ⟨#[]⟩, .int .i64 0, .int .i64 0, .int .i64 0, .int .i64 0, .int .i64 0, .int .i64 0, .int .i64 0, .int .i64 0] 76) := ⟨_, rfl⟩
  have hzA : WA.heap.size = w1.heap.size + 1 := by rw [hWA]; simp
  have hkA : WA.heap[w1.heap.size]? = some (.cells ([.int .i64 0, .string ⟨#[]⟩, .int .i64 0, .string ⟨#[]⟩, .string ⟨#[]⟩, .string ⟨#[]⟩, .string ⟨#[]⟩, .string ⟨#[]⟩, .string ⟨#[]⟩, .string ⟨#[]⟩, .string ⟨#[]⟩, .int .i64 0, .int .i64 0, .int .i64 0, .int .i64 0, .int .i64 0, .int .i64 0, .int .i64 0, .int .i64 0] : List Value).toArray 76 (0, 0)) := by rw [hWA]; exact heap_alloc_new w1 _
  have hbA : Below w1.heap.size w1 WA := by rw [hWA]; exact (Below.refl _ _).alloc (Nat.le_refl _) _
  obtain ⟨W1, hW1⟩ : ∃ W1, W1 = WA.setCells w1.heap.size 0 (keyL 6 [] 1 [] []) := ⟨_, rfl⟩
  have hz2 : W1.heap.size = w1.heap.size + 1 := by rw [hW1, setCells_size]; exact hzA
  have hb2 : Below w1.heap.size w1 W1 := by rw [hW1]; exact setCells_below _ (Nat.le_refl _) _ 0 WA hbA
  have hk2 : W1.heap[w1.heap.size]? = some (.cells (keyL 6 [] 1 [] []).toArray 76 (0, 0)) := by rw [hW1]; exact setCells_blk hkA rfl
  refine wp_region_lit ?_
  refine wpList_runV (w' := w1) rfl _ (exec_build2c rfl rfl rfl (build_opt w1)) ?_
  simp only [Act.put, List.setIfInBounds_toArray, List.set_cons_zero, List.set_cons_succ]
  refine wpList_runV (w' := WA) rfl (.pointer (some ⟨w1.heap.size, 0, none⟩)) (by rw [hWA]; exact exec_alloc rfl (alloc_key w1)) ?_
  simp only [Act.put, List.setIfInBounds_toArray, List.set_cons_zero, List.set_cons_succ]
  refine wpList_store_mid rfl 76 _ _ rfl w1.heap.size 0 (keyL 6 [] 1 [] []).toArray rfl rfl (show WA.there w1.heap.size 0 19 from there_blk (cs := [.int .i64 0, .string ⟨#[]⟩, .int .i64 0, .string ⟨#[]⟩, .string ⟨#[]⟩, .string ⟨#[]⟩, .string ⟨#[]⟩, .string ⟨#[]⟩, .string ⟨#[]⟩, .string ⟨#[]⟩, .string ⟨#[]⟩, .int .i64 0, .int .i64 0, .int .i64 0, .int .i64 0, .int .i64 0, .int .i64 0, .int .i64 0, .int .i64 0]) hkA) infoKey (all_oneCell_toArray (keyL_one 6 [] 1 [] [])) ?_
  rw [show (keyL 6 [] 1 [] []).toArray.toList = keyL 6 [] 1 [] [] from rfl, ← hW1]
  refine wpList_nil ?_
  simp only [Act.put]
  obtain ⟨⟨dv, d0⟩, d1⟩ := kid_cell hk2 0 (by omega)
  clear hW1 hWA hkA hbA hzA
  have hset : (W1.setCell ⟨w1.heap.size, 11, none⟩ (.int .i64 (i : Nat))).heap[w1.heap.size]? = some (.cells (Kz.cells (optK i)).toArray 76 (0, 0)) := by
    rw [Go.setCell_eq_setRow W1 w1.heap.size 11 _ 76 (0, 0) _ hk2, setRow_heap W1 _ _ _ _ _ hk2]
    rfl
  have hb3 : Below w1.heap.size w1 (W1.setCell ⟨w1.heap.size, 11, none⟩ (.int .i64 (i : Nat))) := hb2.trans (below_set 11 _ (Nat.le_refl _) (by omega))
  have HB3 := Lib.hid hb3; have HSET := Lib.hid hset; have HB2 := Lib.hid hb2
  clear hb3 hset hk2 hb2
  go_upto_region 5 with fail
  obtain ⟨W2, hW2⟩ : ∃ W2, W2 = W1.setCell ⟨w1.heap.size, 11, none⟩ (.int .i64 (i : Nat)) := ⟨_, rfl⟩
  rw [← hW2]
  rw [← hW2] at HB3 HSET
  clear hW2 d0 d1
  have hcl : (Kz.cells (optK i)).length = 19 := rfl
  have RA := rangeAt_blk (cs := Kz.cells (optK i)) HSET.out
  refine wp_region_lit ?_
  refine wpList_runV (w' := W2) rfl (.pointer (some ⟨tb, 0, none⟩)) (by simp [execOp, go_sem]) ?_
  refine wpList_load_mid rfl 76 _ rfl w1.heap.size 0 rfl (Kz.cells (optK i)) _ RA Try.underlying76 rfl (by rw [hcl]; exact infoKey) ?_
  simp only [Act.put, List.setIfInBounds_toArray, List.set_cons_zero, List.set_cons_succ]
  have hb4 := HB1.out.trans (HB3.out.mono (by omega))
  refine wpList_enter (f := 29) (args := #[.pointer (some ⟨tb, 0, none⟩), .agg (Kz.cells (optK i)).toArray]) rfl (by simp [go_sem]) (HCN.out W2 (HT.out.below hb4)) ?_
  rintro e w5 ⟨rb2, nb2, ty2, nu2, rfl, ha⟩
  refine ⟨_, rfl, ?_⟩
  have HA := Lib.hid ha
  clear ha
  simp only [Act.put, List.setIfInBounds_toArray, List.set_cons_zero, List.set_cons_succ]
  go_wp2
  go_ret2
  exact ⟨rb2, nb2, ty2, nu2, rfl, HA.out.tab, (Keeps.of_below hb4).trans HA.out.keeps (fun g h => .inl h), HA.out.grew.older hb4.size⟩
end Sp
end Go.Proofs.Yteooafgdmpbjeab
