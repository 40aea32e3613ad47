/- Node, Open: what a table tells of a number. -/
import Derived.Test.YtdophmlnmbcjlaaT44
import Derived.Laws.ResultCell
import Derived.Test.YtdophmlnmbcjlaaT3
import Derived.Test.YtdophmlnmbcjlaaT4
import Derived.Test.YtdophmlnmbcjlaaT5
import Derived.Test.YtdophmlnmbcjlaaT18
import Derived.Test.YtdophmlnmbcjlaaT9
import Derived.Test.YtdophmlnmbcjlaaT39
namespace Go.Proofs.Ytdophmlnmbcjlaa
open Go.RowKit
namespace Sp
open Sc
set_option maxRecDepth 100000
theorem flat19 (T : List Kz) : T.flatMap Kz.cells = (T.map Kz.cells).flatten := by rw [List.flatMap_def]
theorem cells19 (T : List Kz) : ∀ x ∈ T.map Kz.cells, x.length = 19 := fun x hx => by obtain ⟨y, _, rfl⟩ := List.mem_map.1 hx; rfl
theorem TabV.at {w : World} {tb rb nb mb sb m : Nat} {ty nu : Value} {T : List Kz} (h : TabV w tb rb nb mb sb m ty nu T) {i : Nat} (hi : i < T.length) : ∃ cap, ty = .slice (some ⟨rb, 0, none⟩) T.length cap ∧ rb < w.heap.size ∧ KeyAt w rb (i * 19) T[i] := by
  rcases h.row with ⟨e, -, -⟩ | ⟨cap, e⟩
  · rw [e] at hi; cases hi
  · have ho := h.own
    rw [e, flat19] at ho
    refine ⟨cap, e, (ho.lt rb rfl).2, fun j v hv => ?_⟩
    have a := ho.cells (g := rb) rfl _ v (flat_at (T.map Kz.cells) (cells19 T) i (by simpa using hi) j v (by simpa using hv))
    have e2 : (⟨rb, 0, none⟩ : Addr).add (i * 19 + j) = ⟨rb, i * 19 + j, none⟩ := by unfold Addr.add; split <;> simp_all
    rw [e2] at a
    exact a
set_option maxHeartbeats 4000000 in
theorem tnode_in (i : Nat) (w : World) (tb rb nb mb sb m : Nat) (ty nu : Value) (T : List Kz) (hT : TabV w tb rb nb mb sb m ty nu T) (hi : i < T.length) :
    Calls Try.prog 21 #[.pointer (some ⟨tb, 0, none⟩), .int .i64 i] w fun e w' => ∃ an cn ak ck, e = .returned (.tuple #[.agg #[.int .i64 T[i].kind, .string ⟨T[i].name.toArray⟩, .slice an T[i].names.length cn, .slice ak T[i].kids.length ck], .bool true]) ∧
      RowV w' (fun g => w.heap.size ≤ g ∧ g < w'.heap.size) an 1 (T[i].names.map fun n => [str n]) ∧ RowV w' (fun g => w.heap.size ≤ g ∧ g < w'.heap.size) ak 1 (T[i].kids.map fun (j : Nat) => [Value.int .i64 (j : Nat)]) ∧ Below w.heap.size w w' := by
  obtain ⟨W0, hW0⟩ : ∃ W0, W0 = w.alloc (.cells nodZ 59) := ⟨_, rfl⟩
  have hz0 : W0.heap.size = w.heap.size + 1 := by rw [hW0]; simp
  have hb0 : Below w.heap.size w W0 := by rw [hW0]; exact (Below.refl _ _).alloc (Nat.le_refl _) _
  have hn0 : W0.heap[w.heap.size]? = some (.cells nodZ 59 (0, 0)) := by rw [hW0]; exact heap_alloc_new w _
  have hT0 := hT.below hb0
  have CH := thas_any i W0 tb rb nb mb sb m ty nu T hT0
  have htr : (decide (0 ≤ (i : Int)) && decide ((i : Int) < (T.length : Nat))) = true := by simp; omega
  rw [htr] at CH
  have hwf := (hT.fit T[i] (List.getElem_mem hi)).toWfK
  have htb := hT0.tlt
  have hti : (i : Int) < (T.length : Int) := by omega
  obtain ⟨cap, rfl, hrb, -⟩ := hT0.at hi
  have HKA : Hid (∀ W, Below W0.heap.size W0 W → KeyAt W rb (i * 19) T[i]) := fun W hW => by obtain ⟨_, _, _, h⟩ := (hT0.below hW).at hi; exact h
  have HWF := Lib.hid hwf; have HCH := Lib.hid CH; have HN0 := Lib.hid hn0; have HB0 := Lib.hid hb0; have HT0 := Lib.hid hT0; have HW0 := Lib.hid hW0
  generalize T[i] = k at *
  clear hwf CH hn0 hb0 hT0 hW0 hT htr
  go_enter Try.func21, Try.ntmps21
  go_upto_region 1 with fail
  rw [show w.alloc (.cells #[.int .i64 0, .string ⟨#[]⟩, .slice none 0 0, .slice none 0 0] 59) = W0 from HW0.out.symm]
  go_upto_region 3 with (go_at_call 36; (refine HCH.out.mono ?_); rintro e w1 ⟨rfl, b1⟩; have hz1 := b1.size; have HB1 := Lib.hid b1; clear b1)
  obtain ⟨⟨t0, -, -, -, -⟩, -⟩ := five_blkF (HT0.out.below HB1.out).box
  go_wp2_with (go_at_call 37; (refine (knode_any k w1 rb (i * 19) (by omega) (HKA.out w1 HB1.out) HWF.out).mono ?_); rintro e w2 ⟨an, cn, ak, ck, rfl, r1, r2, b2⟩; have hz2 := b2.size; obtain ⟨⟨y0, y1, y2, y3⟩, ⟨f0, f1, f2, f3⟩⟩ := four_blk ((b2.block w.heap.size (by omega)).trans ((HB1.out.block w.heap.size (by omega)).trans HN0.out)); have HR1 := Lib.hid r1; have HR2 := Lib.hid r2; have HB2 := Lib.hid b2; clear r1 r2 b2)
  obtain ⟨W2, hW2⟩ : ∃ W2, W2 = (((w2.setCell ⟨w.heap.size, 0, none⟩ (.int .i64 k.kind)).setCell ⟨w.heap.size, 1, none⟩ (.string ⟨k.name.toArray⟩)).setCell ⟨w.heap.size, 2, none⟩ (.slice an k.names.length cn)).setCell ⟨w.heap.size, 3, none⟩ (.slice ak k.kids.length ck) := ⟨_, rfl⟩
  have hx2 : W2.heap[w.heap.size]? = some (.cells #[.int .i64 k.kind, .string ⟨k.name.toArray⟩, .slice an k.names.length cn, .slice ak k.kids.length ck] 59 (0, 0)) := by
    rw [hW2]
    exact set_four ((HB2.out.block w.heap.size (by omega)).trans ((HB1.out.block w.heap.size (by omega)).trans HN0.out))
  have hk2 : Keeps (fun g => g = w.heap.size) w2 W2 := by rw [hW2]; exact ((((Keeps.refl (fun g => g = w.heap.size) _).setCell 0 _ rfl).setCell 1 _ rfl).setCell 2 _ rfl).setCell 3 _ rfl
  rw [← hW2]
  have hl := run_loadVar_row (P := Try.prog) W2 w.heap.size 59 59 _ (0, 0) _ hx2 Try.underlying59 rfl (by kernel_rfl)
  have hz2' := hk2.size
  refine bodyPost_ret (v := .tuple #[.agg #[.int .i64 k.kind, .string ⟨k.name.toArray⟩, .slice an k.names.length cn, .slice ak k.kids.length ck], .bool true]) (by rw [results_cell_tmp rfl]; simp [asAddr, hl]) rfl ?_
  exact ⟨an, cn, ak, ck, rfl, HR1.out.keep (fun g hg => ⟨by have := hg.1; omega, by have := hg.2; omega⟩) (fun g hg => hk2.block g hg.2 (by have := hg.1; omega)), HR2.out.keep (fun g hg => ⟨by have := hg.1; omega, by have := hg.2; omega⟩) (fun g hg => hk2.block g hg.2 (by have := hg.1; omega)),
    HB0.out.trans ((HB1.out.mono (by omega)).trans ((HB2.out.mono (by omega)).trans (hk2.below (by omega) (fun g e => by omega))))⟩
set_option maxHeartbeats 4000000 in
theorem topen_any (i f0 r : Nat) (w : World) (tb rb nb mb sb m : Nat) (ty nu : Value) (T : List Kz) (N : List NN) (hT : TabV w tb rb nb mb sb m ty nu T) (hN : TxtV w mb (encNN N)) (hi : i < T.length) (hr : openK T N f0 i = r) (hr9 : (T.getD r default).kind ≠ 9) (hL : ∀ k ∈ T, k.kind = 9 → lookN N k.name < T.length) :
    Calls Try.prog 75 #[.pointer (some ⟨tb, 0, none⟩), .int .i64 i] w fun e w' => e = .returned (.tuple #[.int .i64 r, .bool true]) ∧ Below w.heap.size w w' := by
  have CH := thas_any i w tb rb nb mb sb m ty nu T hT
  have htr : (decide (0 ≤ (i : Int)) && decide ((i : Int) < (T.length : Nat))) = true := by simp; omega
  rw [htr] at CH
  have htb := hT.tlt
  obtain ⟨cap, rfl, hrb, -⟩ := hT.at hi
  have HT := Lib.hid hT; have HN := Lib.hid hN; have HR := Lib.hid hr; have HR9 := Lib.hid hr9; have HL := Lib.hid hL; have HCH := Lib.hid CH
  clear CH hT hN hr hr9 hL htr
  go_enter Try.func75, Try.ntmps75
  go_wp2_with (go_at_call 36; (refine HCH.out.mono ?_); rintro e w1 ⟨rfl, b1⟩; have hz1 := b1.size; have HB1 := Lib.hid b1; clear b1)
  go_loopg [1] (f0 + 1) (fun gg iv wr => ∃ j f : Nat, iv = .int .i64 j ∧ f + 1 ≤ gg ∧ j < T.length ∧ Hid (openK T N f j = r) ∧ Below w.heap.size w wr)
  case atStart => exact ⟨i, f0, rfl, Nat.le_refl _, hi, HR, HB1.out⟩
  case round =>
    obtain ⟨j, f, rfl, hf, hj, hq, hb⟩ := hrel
    have hTr := HT.out.below hb
    obtain ⟨cap2, hty, -, hka⟩ := hTr.at hj
    cases hty
    obtain ⟨c0, c1, -⟩ := hka.three
    obtain ⟨⟨t0, -, t2, -, -⟩, -⟩ := five_blkF hTr.box
    have hkf := HT.out.fit T[j] (List.getElem_mem hj)
    have hlk : ∀ n, (Instr.lookup 70 (.map (some mb)) (.string ⟨T[j].name.toArray⟩) false).run Try.prog (wr.drewN n) = .ok (.int .i64 (lookN N T[j].name : Nat)) (wr.drewN n) := fun n => by
      have h := (show TxtV (wr.drewN n) mb (encNN N) from (HN.out.below hb).same rfl).at Try.underlying70 (zeroI _) T[j].name (le_max hkf.nm)
      rw [look_encNN] at h
      exact h
    have e : T.getD j default = T[j] := by rw [List.getD, List.getElem?_eq_getElem hj]; rfl
    have hjz : (j : Int) < (T.length : Int) := by omega
    by_cases h9 : T[j].kind = 9
    · have hlt := HL.out T[j] (List.getElem_mem hj) h9
      obtain ⟨f', rfl⟩ : ∃ f2, f = f2 + 1 := by
        cases f with
        | zero =>
          have h := hq.out
          rw [openK] at h
          rw [← h, e] at HR9
          exact absurd h9 HR9.out
        | succ f2 => exact ⟨f2, rfl⟩
      have hq2 : openK T N f' (lookN N T[j].name) = r := by
        have h := hq.out
        rw [openK_step T N f' j (by rw [e]; exact h9), e] at h
        exact h
      have HQ2 := Lib.hid hq2; have HB := Lib.hid hb
      rw [h9] at c0
      generalize T[j].name = nm at *
      generalize lookN N nm = l at *
      clear hTr hka hkf e h9 hq hq2 hb
      go_upto_region 4 with fail
      go_quiet (fail)
      go_wp2
      go_roundg (f' + 1)
      case measure => omega
      case rel => exact ⟨l, f', rfl, Nat.le_refl _, hlt, HQ2, HB.out.os, HB.out.tape, HB.out.output, HB.out.size, HB.out.block⟩
    · have hq2 : j = r := by rw [← hq.out]; exact (openK_stop T N f j (by rw [e]; exact h9)).symm
      have t9 : (T[j].kind == 9) = false := by simpa using h9
      generalize T[j].kind = kd at *
      have HB := Lib.hid hb; have HQ := Lib.hid hq2
      clear hTr hka hkf e hq hq2 hb
      go_wp2
      go_ret2
      exact ⟨by rw [HQ.out]; rfl, HB.out⟩
end Sp
end Go.Proofs.Ytdophmlnmbcjlaa
namespace Go.Proofs.Ytdophmlnmbcjlaa
open Go.RowKit
namespace Sp
open Sc
set_option maxRecDepth 100000
/-- A table whose names lead somewhere; whose lists, maps and Opts have one kid. -/
structure OpL (T : List Kz) (N : List NN) : Prop where
  lt : ∀ i, i < T.length → openK T N 13 i < T.length
  ne : ∀ i, i < T.length → (T.getD (openK T N 13 i) default).kind ≠ 9
  look : ∀ k ∈ T, k.kind = 9 → lookN N k.name < T.length
  one : ∀ k ∈ T, k.kind = 4 ∨ k.kind = 5 ∨ k.kind = 6 → k.kids.length = 1
theorem getD_at {T : List Kz} {i : Nat} (h : i < T.length) : T.getD i default = T[i] := by rw [List.getD, List.getElem?_eq_getElem h]; rfl
end Sp
end Go.Proofs.Ytdophmlnmbcjlaa
namespace Go.Proofs.Ytdophmlnmbcjlaa
open Go.RowKit
namespace Sp
open Sc
set_option maxRecDepth 100000
/-- An Opt's key. -/
def optK (i : Nat) : Kz := ⟨6, [], [], [i]⟩
theorem opt_fit {i : Nat} (h : i < 120) : KFit (optK i) :=
  ⟨⟨⟨by show (1 : Int) ≤ 6; omega, by show (6 : Int) ≤ 9; omega⟩, by simp [optK], rfl⟩, by simp [optK], (fun n h => by simp [optK] at h), (fun j hj => by simp [optK] at hj; omega)⟩
theorem exec_build2c {P : Program} {b : Act} {o : Oper} {v v' : World} {t : TypeId} {x y : Operand} {p q u : Value} (ho : o.op = .build t #[(0, x), (2, y)]) (hx : b.eval x = p) (hy : b.eval y = q) (hr : (Instr.build t #[(0, p), (2, q)]).run P v = .ok u v') :
    (execOp b.eval o).run P v = .ok (.value u) v' := by
  unfold execOp
  simp only [ho, List.map_toArray, List.map_cons, List.map_nil, hx, hy, Sem.run_bind, hr, Result.andThen_ok, Sem.run_pure]
theorem build_opt (w : World) : (Instr.build 91 #[(0, .int .i64 6), (2, .int .i64 1)]).run Try.prog w = .ok (.agg (keyL 6 [] 1 [] []).toArray) w := by kernel_rfl
set_option maxHeartbeats 4000000 in
theorem topt_any (i : Nat) (w : World) (tb rb nb mb sb m : Nat) (ty nu : Value) (T : List Kz) (hT : TabV w tb rb nb mb sb m ty nu T) (hi : i < T.length) :
    Calls Try.prog 76 #[.pointer (some ⟨tb, 0, none⟩), .int .i64 (i : Nat)] w fun e w' => ∃ rb' nb' ty' nu', e = .returned (.tuple #[.int .i64 ((numK T (optK i)).1 : Nat), .int .i64 ((numK T (optK i)).2.1 : Nat)]) ∧ Added w w' tb rb nb mb sb m (numK T (optK i)).2.2 rb' nb' ty' nu' := by
  have h120 := hT.wf.len
  have CH := thas_any i w tb rb nb mb sb m ty nu T hT
  have htr : (decide (0 ≤ (i : Int)) && decide ((i : Int) < (T.length : Nat))) = true := by simp; omega
  rw [htr] at CH
  obtain ⟨v, hv⟩ : ∃ v, v = numK T (optK i) := ⟨_, rfl⟩
  have CN := fun W (hW : TabV W tb rb nb mb sb m ty nu T) => number_any (optK i) (opt_fit (by omega)) W tb rb nb mb sb m ty nu T hW (fun j hj => by simp [optK] at hj; omega)
  rw [← hv] at CN ⊢
  have HT := Lib.hid hT; have HCH := Lib.hid CH; have HCN := Lib.hid CN
  clear hT CH CN hv htr
  go_enter Try.func76, Try.ntmps76
  go_upto_region 3 with (go_at_call 36; (refine HCH.out.mono ?_); rintro e w1 ⟨rfl, b1⟩; have hz1 := b1.size; have HB1 := Lib.hid b1; clear b1)
  obtain ⟨WA, hWA⟩ : ∃ WA, WA = w1.alloc (.cells #[.int .i64 0, .string ⟨#[]⟩, .int .i64 0, .string ⟨#[]⟩, .string ⟨#[]⟩, .string ⟨#[]⟩, .string ⟨#[]⟩, .string ⟨#[]⟩, .string ⟨#[]⟩, .string ⟨#[]⟩, .string ⟨#[]⟩, .int .i64 0, .int .i64 0, .int .i64 0, .int .i64 0, .int .i64 0, .int .i64 0, .int .i64 0, .int .i64 0] 91) := ⟨_, rfl⟩
  have hzA : WA.heap.size = w1.heap.size + 1 := by rw [hWA]; simp
  have hkA : WA.heap[w1.heap.size]? = some (.cells ([.int .i64 0, .string ⟨#[]⟩, .int .i64 0, .string ⟨#[]⟩, .string ⟨#[]⟩, .string ⟨#[]⟩, .string ⟨#[]⟩, .string ⟨#[]⟩, .string ⟨#[]⟩, .string ⟨#[]⟩, .string ⟨#[]⟩, .int .i64 0, .int .i64 0, .int .i64 0, .int .i64 0, .int .i64 0, .int .i64 0, .int .i64 0, .int .i64 0] : List Value).toArray 91 (0, 0)) := by rw [hWA]; exact heap_alloc_new w1 _
  have hbA : Below w1.heap.size w1 WA := by rw [hWA]; exact (Below.refl _ _).alloc (Nat.le_refl _) _
  obtain ⟨W1, hW1⟩ : ∃ W1, W1 = WA.setCells w1.heap.size 0 (keyL 6 [] 1 [] []) := ⟨_, rfl⟩
  have hz2 : W1.heap.size = w1.heap.size + 1 := by rw [hW1, setCells_size]; exact hzA
  have hb2 : Below w1.heap.size w1 W1 := by rw [hW1]; exact setCells_below _ (Nat.le_refl _) _ 0 WA hbA
  have hk2 : W1.heap[w1.heap.size]? = some (.cells (keyL 6 [] 1 [] []).toArray 91 (0, 0)) := by rw [hW1]; exact setCells_blk hkA rfl
  refine wp_region_lit ?_
  refine wpList_runV (w' := w1) rfl _ (exec_build2c rfl rfl rfl (build_opt w1)) ?_
  simp only [Act.put, List.setIfInBounds_toArray, List.set_cons_zero, List.set_cons_succ]
  refine wpList_runV (w' := WA) rfl (.pointer (some ⟨w1.heap.size, 0, none⟩)) (by rw [hWA]; exact exec_alloc rfl (alloc_key w1)) ?_
  simp only [Act.put, List.setIfInBounds_toArray, List.set_cons_zero, List.set_cons_succ]
  refine wpList_store_mid rfl 91 _ _ rfl w1.heap.size 0 (keyL 6 [] 1 [] []).toArray rfl rfl (show WA.there w1.heap.size 0 19 from there_blk (cs := [.int .i64 0, .string ⟨#[]⟩, .int .i64 0, .string ⟨#[]⟩, .string ⟨#[]⟩, .string ⟨#[]⟩, .string ⟨#[]⟩, .string ⟨#[]⟩, .string ⟨#[]⟩, .string ⟨#[]⟩, .string ⟨#[]⟩, .int .i64 0, .int .i64 0, .int .i64 0, .int .i64 0, .int .i64 0, .int .i64 0, .int .i64 0, .int .i64 0]) hkA) infoKey (all_oneCell_toArray (keyL_one 6 [] 1 [] [])) ?_
  rw [show (keyL 6 [] 1 [] []).toArray.toList = keyL 6 [] 1 [] [] from rfl, ← hW1]
  refine wpList_nil ?_
  simp only [Act.put]
  obtain ⟨⟨dv, d0⟩, d1⟩ := kid_cell hk2 0 (by omega)
  clear hW1 hWA hkA hbA hzA
  have hset : (W1.setCell ⟨w1.heap.size, 11, none⟩ (.int .i64 (i : Nat))).heap[w1.heap.size]? = some (.cells (Kz.cells (optK i)).toArray 91 (0, 0)) := by
    rw [Go.setCell_eq_setRow W1 w1.heap.size 11 _ 91 (0, 0) _ hk2, setRow_heap W1 _ _ _ _ _ hk2]
    rfl
  have hb3 : Below w1.heap.size w1 (W1.setCell ⟨w1.heap.size, 11, none⟩ (.int .i64 (i : Nat))) := hb2.trans (below_set 11 _ (Nat.le_refl _) (by omega))
  have HB3 := Lib.hid hb3; have HSET := Lib.hid hset; have HB2 := Lib.hid hb2
  clear hb3 hset hk2 hb2
  go_upto_region 5 with fail
  obtain ⟨W2, hW2⟩ : ∃ W2, W2 = W1.setCell ⟨w1.heap.size, 11, none⟩ (.int .i64 (i : Nat)) := ⟨_, rfl⟩
  rw [← hW2]
  rw [← hW2] at HB3 HSET
  clear hW2 d0 d1
  have hcl : (Kz.cells (optK i)).length = 19 := rfl
  have RA := rangeAt_blk (cs := Kz.cells (optK i)) HSET.out
  refine wp_region_lit ?_
  refine wpList_runV (w' := W2) rfl (.pointer (some ⟨tb, 0, none⟩)) (by simp [execOp, go_sem]) ?_
  refine wpList_load_mid rfl 91 _ rfl w1.heap.size 0 rfl (Kz.cells (optK i)) _ RA Try.underlying91 rfl (by rw [hcl]; exact infoKey) ?_
  simp only [Act.put, List.setIfInBounds_toArray, List.set_cons_zero, List.set_cons_succ]
  have hb4 := HB1.out.trans (HB3.out.mono (by omega))
  refine wpList_enter (f := 55) (args := #[.pointer (some ⟨tb, 0, none⟩), .agg (Kz.cells (optK i)).toArray]) rfl (by simp [go_sem]) (HCN.out W2 (HT.out.below hb4)) ?_
  rintro e w5 ⟨rb2, nb2, ty2, nu2, rfl, ha⟩
  refine ⟨_, rfl, ?_⟩
  have HA := Lib.hid ha
  clear ha
  simp only [Act.put, List.setIfInBounds_toArray, List.set_cons_zero, List.set_cons_succ]
  go_wp2
  go_ret2
  exact ⟨rb2, nb2, ty2, nu2, rfl, HA.out.tab, (Keeps.of_below hb4).trans HA.out.keeps (fun g h => .inl h), HA.out.grew.older hb4.size⟩
end Sp
end Go.Proofs.Ytdophmlnmbcjlaa
