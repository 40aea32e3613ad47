/- Le: whether a type fits where another is asked, and how many pairs were opened. -/
import Derived.Test.YteooafgdmpbjeabU47
namespace Go.Proofs.Yteooafgdmpbjeab
open Go.RowKit
namespace Sp
open Sc
set_option maxRecDepth 100000
set_option maxHeartbeats 4000000 in
theorem shas_any (i : Nat) (w : World) (tb rb nb mb sb m : Nat) (ty nu : Value) (T : List Kz) (N : List NN) (hT : TabV w tb rb nb mb sb m ty nu T) (hN : TxtV w mb (encNN N)) (hO : OpL T N) (hi : i < T.length) :
    Calls Try.prog 30 #[.pointer (some ⟨tb, 0, none⟩), .int .i64 (i : Nat)] w fun e w' => e = .returned (.bool true) ∧ Below w.heap.size w w' := by
  have HC := Lib.hid (topen_any i 13 _ w tb rb nb mb sb m ty nu T N hT hN hi rfl (hO.ne i hi) hO.look)
  clear hT hN hO hi
  go_enter Try.func30, Try.ntmps30
  go_wp2_with (go_at_call 50; (refine HC.out.mono ?_); rintro e w1 ⟨rfl, b1⟩; have HB1 := Lib.hid b1; clear b1)
  go_ret
  exact ⟨rfl, HB1.out⟩
set_option maxHeartbeats 4000000 in
theorem le_any (a b : Nat) (w : World) (tb rb nb mb sb m : Nat) (ty nu : Value) (T : List Kz) (N : List NN) (hT : TabV w tb rb nb mb sb m ty nu T) (hN : TxtV w mb (encNN N)) (hO : OpL T N) (ha : a < T.length) (hb : b < T.length) :
    Calls Try.prog 13 #[.pointer (some ⟨tb, 0, none⟩), .int .i64 (a : Nat), .int .i64 (b : Nat)] w fun e w' => e = .returned (.tuple #[.bool (leL T (openK T N 13) a b).1, .int .i64 ((leL T (openK T N 13) a b).2.length : Nat)]) ∧ Below w.heap.size w w' := by
  have HA := Lib.hid (fun W (hW : Below w.heap.size w W) => shas_any a W tb rb nb mb sb m ty nu T N (hT.below hW) (hN.below hW) hO ha)
  have HB := Lib.hid (fun W (hW : Below w.heap.size w W) => shas_any b W tb rb nb mb sb m ty nu T N (hT.below hW) (hN.below hW) hO hb)
  have CH := fun (qb ob : Nat) W (H : RwL W qb ob tb rb nb mb sb m ty nu T N []) => hold_all qb ob tb rb nb mb sb m ty nu T N hT.wf hO (T.length * T.length + 1) [] a b W H ha hb (PrG.nil _) (by simp)
  have hg := (holdsL_g hT.wf hO.lt (T.length * T.length + 1)).ok [] a b (PrG.nil _) ha hb
  obtain ⟨q, hq⟩ : ∃ q, q = leL T (openK T N 13) a b := ⟨_, rfl⟩
  rw [← hq]
  unfold leL at hq
  rw [← hq] at hg CH
  have HT := Lib.hid hT; have HN := Lib.hid hN; have HCH := Lib.hid CH; have HG := Lib.hid hg
  have hlt := hT.tlt; have hml := hN.lt
  clear hT hN hO ha hb CH hg hq
  have hmm := @run_makeMap Try.prog
  go_enter Try.func13, Try.ntmps13
  go_upto_region 3 with (first
    | (go_at_call 30; (with_reducible refine (HA.out _ (Below.refl _ _)).mono ?_); rintro e w1 ⟨rfl, b1⟩; have hz1 := b1.size; have HB1 := Lib.hid b1; clear b1)
    | (go_at_call 30; (with_reducible refine (HB.out _ HB1.out).mono ?_); rintro e w2 ⟨rfl, b2⟩; have hz2 := b2.size; have HB2 := Lib.hid b2; clear b2))
  go_upto_region 4 with fail
  obtain ⟨W3, hW3⟩ : ∃ W3, W3 = (w2.alloc (.map #[] 0)).alloc (.cells #[.pointer (some ⟨tb, 0, none⟩), .map (some w2.heap.size)] 81) := ⟨_, rfl⟩
  have hz3 : W3.heap.size = w2.heap.size + 2 := by rw [hW3]; simp
  have hb3 : Below w2.heap.size w2 W3 := by rw [hW3]; exact ((Below.refl _ _).alloc (Nat.le_refl _) _).alloc (by simp) _
  have hq3 : W3.heap[w2.heap.size + 1]? = some (.cells #[.pointer (some ⟨tb, 0, none⟩), .map (some w2.heap.size)] 81 (0, 0)) := by rw [hW3, blk_if, if_pos (by simp)]
  have hp3 : PrsV W3 w2.heap.size [] := by
    refine (PrsV.made w2).same ?_
    rw [hW3, Below.heap_alloc _ _ _ (by simp)]
  have hb03 : Below w.heap.size w W3 := HB1.out.trans ((HB2.out.mono (by omega)).trans (hb3.mono (by omega)))
  rw [← hW3]
  have CH := HCH.out (w2.heap.size + 1) w2.heap.size W3 ⟨hq3, HT.out.below hb03, HN.out.below hb03, hp3, (fun ho => by have := HT.out.lt ho; omega), by omega⟩
  have HCH2 := Lib.hid CH; have HB03 := Lib.hid hb03; have HQ3 := Lib.hid hq3
  clear CH hb03 hq3 hb3 hp3 hW3 HCH
  go_upto_region 5 with (go_at_call 31; (with_reducible refine HCH2.out.mono ?_); rintro e w4 ⟨rfl, hp4, hk4⟩; have HP4 := Lib.hid hp4; have HK4 := Lib.hid hk4; clear hp4 hk4)
  obtain ⟨y0, y1⟩ := two_blkR ((HK4.out.block (w2.heap.size + 1) (by omega) (by omega)).trans HQ3.out)
  have hlen := fun ty => HP4.out.len HG.out.1.nd ty
  go_wp2
  go_ret2
  exact ⟨rfl, HB03.out.trans (HK4.out.below (B := w.heap.size) (by omega) (fun g e => by omega))⟩
end Sp
end Go.Proofs.Yteooafgdmpbjeab
