/- row.holds, by the pairs that are left. Written by gen_lhold.py. -/
import Derived.Test.YteooafgdmpbjeabW49
import Derived.Test.YteooafgdmpbjeabW43
namespace Go.Proofs.Yteooafgdmpbjeab
open Go.RowKit
namespace Sp
open Sc
set_option maxRecDepth 100000
/-- Behind the block of holds' pair there is only one that holds nothing. -/
structure HlM (W0 : World) (up : Bool) (x : Nat) (v : World) : Prop where
  low : Below W0.heap.size W0 v
  at_ : up = true → v.heap[x]? = some (.cells #[] 117 (0, 0))
theorem HlM.make {W0 v : World} {up : Bool} {x : Nat} (h : HlM W0 up x v) : HlM W0 true v.heap.size (v.alloc (.cells #[] 117)) :=
  ⟨h.low.trans ((Below.refl _ _).alloc h.low.size _), fun _ => heap_alloc_new v _⟩
set_option maxHeartbeats 8000000 in
theorem hold_all (qb ob tb rb nb mb sb m : Nat) (ty nu : Value) (T : List Kz) (N : List NN) (hT : TabW T) (hO : OpL T N) : ∀ f, HoldP f qb ob tb rb nb mb sb m ty nu T N
  | 0 => fun S a b w H ha hb hS hf => by have := hS.few; omega
  | f + 1 => by
    have IH := lopen_any f qb ob tb rb nb mb sb m ty nu T N (hold_all qb ob tb rb nb mb sb m ty nu T N hT hO f) hT hO
    intro S a b w H ha hb hS hf
    obtain ⟨W0, hW0⟩ : ∃ W0, W0 = w.alloc (.cells #[.int .i64 (a : Nat), .int .i64 (b : Nat)] 84) := ⟨_, rfl⟩
    have hz0 : W0.heap.size = w.heap.size + 1 := by rw [hW0]; simp
    have hb0 : Below w.heap.size w W0 := by rw [hW0]; exact (Below.refl _ _).alloc (Nat.le_refl _) _
    have hn0 : W0.heap[w.heap.size]? = some (.cells #[.int .i64 (a : Nat), .int .i64 (b : Nat)] 84 (0, 0)) := by rw [hW0]; exact heap_alloc_new w _
    have hT120 := hT.len
    have hob := H.prs.lt
    have H0 := H.below hb0
    have hqo := H.qo
    obtain ⟨p0, p1⟩ := two_blkR hn0
    have hqb := (Array.getElem?_eq_some_iff.1 H.box).1
    rw [holdsL]
    by_cases hab : a = b
    · rw [if_pos (.inl hab)]
      subst hab
      have HW0 := Lib.hid hW0; have HB0 := Lib.hid hb0; have HH0 := Lib.hid H0
      clear hW0 hb0 H0 H hn0 IH hf hS hT hO
      go_enter Try.func31, Try.ntmps31
      go_upto_region 1 with fail
      rw [← HW0.out]
      go_wp2
      go_ret
      exact ⟨rfl, HH0.out.prs, Keeps.of_below HB0.out⟩
    · have tab : ((a : Int) == (b : Int)) = false := by simp; omega
      have hpf : PrFit (a, b) := ⟨by dsimp only; omega, by dsimp only; omega⟩
      have hlk : ∀ W : World, Below W0.heap.size W0 W → (Instr.lookup 79 (.map (some ob)) (prV a b) true).run Try.prog W = .ok (.tuple #[.agg #[], .bool (decide ((a, b) ∈ S))]) W := fun W hW => (H0.prs.same (hW.block ob (by omega))).look hpf
      have HBX := Lib.hid H0.box
      obtain ⟨PP, hP⟩ : ∃ PP, PP = (if a = b ∨ (a, b) ∈ S then (true, S) else openL (holdsL T (openK T N 13) f) (openK T N 13 a) (T.getD (openK T N 13 a) default) (T.getD (openK T N 13 b) default) (S ++ [(a, b)])) := ⟨_, rfl⟩
      rw [← hP]
      have HP := Lib.hid hP
      obtain ⟨dd, hdd⟩ : ∃ dd, decide ((a, b) ∈ S) = dd := ⟨_, rfl⟩
      rw [hdd] at hlk
      have HW0 := Lib.hid hW0; have HB0 := Lib.hid hb0; have HH0 := Lib.hid H0; have HN0 := Lib.hid hn0; have HLK := Lib.hid hlk; have HDD := Lib.hid hdd; have HIH := Lib.hid IH; have HS := Lib.hid hS; have HF := Lib.hid hf; have HPF := Lib.hid hpf
      have hsl := hS.few
      have hprg := fun hn => hS.snoc ha hb hn
      have HPRG := Lib.hid hprg
      have hsl2 : S.length ≤ 14400 := by have := Nat.mul_le_mul hT120 hT120; omega
      clear hW0 hb0 H0 H hn0 IH hf hS hlk hdd hT hO hpf hprg hsl hP
      go_enter Try.func31, Try.ntmps31
      go_upto_region 1 with fail
      rw [← HW0.out]
      clear HW0
      go_upto_region 3 with fail
      refine wp_region_by (QJ (fun (x : Nat) i => match i with | 0 => .pointer (some ⟨qb, 0, none⟩) | 1 => .pointer (some ⟨qb, 0, none⟩) | 2 => .pointer (some ⟨qb, 1, none⟩) | 3 => .map (some ob) | 4 => .agg #[.int .i64 (a : Nat), .int .i64 (b : Nat)] | 5 => .tuple #[.agg #[], .bool dd] | 6 => .tuple #[.agg #[], .bool dd] | 7 => .agg #[] | 8 => .bool dd | 9 => .pointer (some ⟨x, 0, none⟩) | 10 => undef | 11 => .bool dd | _ => undef) (fun x listed v => HlM W0 (listed.getD 9 false) x v)) (by kernel_rfl) ?_ ?_ ?_
      · exact ⟨by simp, Closed.start _, 0, Fr.start _ _ _, ⟨Below.drew (Below.refl _ _), (fun h => by simp at h)⟩⟩
      · intro listed bb v q hJ hi
        obtain ⟨hsz, hC, x, hF, hM⟩ := hJ
        have hMb : HlM W0 (listed.getD 9 false) x v := hM
        obtain ⟨hl1, hiN⟩ := not_up hsz hi
        obtain ⟨_, o, ho, hdeps⟩ := mem_ready.1 hi
        have hiN : q < 12 := hiN
        obtain rfl | rfl | rfl | rfl | rfl | rfl | rfl | rfl | rfl | rfl | rfl | rfl : q = 0 ∨ q = 1 ∨ q = 2 ∨ q = 3 ∨ q = 4 ∨ q = 5 ∨ q = 6 ∨ q = 7 ∨ q = 8 ∨ q = 9 ∨ q = 10 ∨ q = 11 := by omega
        · cases ho
          have e0 := hF.old_is 0 (by rfl) rfl
          refine QJ.quiet (x := x) hsz hC hi hF (Slots.of (by rfl)) rfl (wanted_none rfl) (show HlM W0 ((listed.setIfInBounds 0 true).getD 9 false) x v by rw [getD_setN (show 0 ≠ 9 by decide)]; exact hMb) ?_
          show _ = Result.ok (Next.value (.pointer (some ⟨qb, 0, none⟩))) v
          simp [execOp, go_sem, e0]
        · cases ho
          have e13 : bb.tmps[13]? = some (.pointer (some ⟨qb, 0, none⟩)) := hF.up 0 13 rfl (hdeps ⟨0, .data⟩ (by simp) rfl)
          refine QJ.quiet (x := x) hsz hC hi hF (Slots.of (by rfl)) rfl (wanted_none rfl) (show HlM W0 ((listed.setIfInBounds 1 true).getD 9 false) x v by rw [getD_setN (show 1 ≠ 9 by decide)]; exact hMb) ?_
          show _ = Result.ok (Next.value (.pointer (some ⟨qb, 0, none⟩))) v
          simp [execOp, go_sem, e13]
        · cases ho
          have e14 : bb.tmps[14]? = some (.pointer (some ⟨qb, 0, none⟩)) := hF.up 1 14 rfl (hdeps ⟨1, .data⟩ (by simp) rfl)
          refine QJ.quiet (x := x) hsz hC hi hF (Slots.of (by rfl)) rfl (wanted_none rfl) (show HlM W0 ((listed.setIfInBounds 2 true).getD 9 false) x v by rw [getD_setN (show 2 ≠ 9 by decide)]; exact hMb) ?_
          show _ = Result.ok (Next.value (.pointer (some ⟨qb, 1, none⟩))) v
          simp [execOp, go_sem, e14]
        · cases ho
          obtain ⟨z0, z1⟩ := two_blkR ((hMb.low.block qb (by omega)).trans HBX.out)
          have e15 : bb.tmps[15]? = some (.pointer (some ⟨qb, 1, none⟩)) := hF.up 2 15 rfl (hdeps ⟨2, .data⟩ (by simp) rfl)
          refine QJ.quiet (x := x) hsz hC hi hF (Slots.of (by rfl)) rfl (wanted_none rfl) (show HlM W0 ((listed.setIfInBounds 3 true).getD 9 false) x v by rw [getD_setN (show 3 ≠ 9 by decide)]; exact hMb) ?_
          show _ = Result.ok (Next.value (.map (some ob))) v
          simp [execOp, go_sem, e15, z1]
        · cases ho
          obtain ⟨z0, z1⟩ := two_blkR ((hMb.low.block w.heap.size (by omega)).trans HN0.out)
          have e3 := hF.old_is 3 (by rfl) rfl
          refine QJ.quiet (x := x) hsz hC hi hF (Slots.of (by rfl)) rfl (wanted_none rfl) (show HlM W0 ((listed.setIfInBounds 4 true).getD 9 false) x v by rw [getD_setN (show 4 ≠ 9 by decide)]; exact hMb) ?_
          show _ = Result.ok (Next.value (.agg #[.int .i64 (a : Nat), .int .i64 (b : Nat)])) v
          simp [execOp, go_sem, e3, z0, z1]
        · cases ho
          have z := HLK.out v hMb.low
          unfold prV at z
          have e16 : bb.tmps[16]? = some (.map (some ob)) := hF.up 3 16 rfl (hdeps ⟨3, .data⟩ (by simp) rfl)
          have e17 : bb.tmps[17]? = some (.agg #[.int .i64 (a : Nat), .int .i64 (b : Nat)]) := hF.up 4 17 rfl (hdeps ⟨4, .data⟩ (by simp) rfl)
          refine QJ.quiet (x := x) hsz hC hi hF (Slots.of (by rfl)) rfl (wanted_none rfl) (show HlM W0 ((listed.setIfInBounds 5 true).getD 9 false) x v by rw [getD_setN (show 5 ≠ 9 by decide)]; exact hMb) ?_
          show _ = Result.ok (Next.value (.tuple #[.agg #[], .bool dd])) v
          simp [execOp, go_sem, e16, e17, z]
        · cases ho
          have e18 : bb.tmps[18]? = some (.tuple #[.agg #[], .bool dd]) := hF.up 5 18 rfl (hdeps ⟨5, .data⟩ (by simp) rfl)
          refine QJ.quiet (x := x) hsz hC hi hF (Slots.of (by rfl)) rfl (wanted_none rfl) (show HlM W0 ((listed.setIfInBounds 6 true).getD 9 false) x v by rw [getD_setN (show 6 ≠ 9 by decide)]; exact hMb) ?_
          show _ = Result.ok (Next.value (.tuple #[.agg #[], .bool dd])) v
          simp [execOp, go_sem, e18]
        · cases ho
          have e12 : bb.tmps[12]? = some (.tuple #[.agg #[], .bool dd]) := hF.up 6 12 rfl (hdeps ⟨6, .data⟩ (by simp) rfl)
          refine QJ.quiet (x := x) hsz hC hi hF (Slots.of (by rfl)) rfl (wanted_none rfl) (show HlM W0 ((listed.setIfInBounds 7 true).getD 9 false) x v by rw [getD_setN (show 7 ≠ 9 by decide)]; exact hMb) ?_
          show _ = Result.ok (Next.value (.agg #[])) v
          simp [execOp, go_sem, e12]
        · cases ho
          have e12 : bb.tmps[12]? = some (.tuple #[.agg #[], .bool dd]) := hF.up 6 12 rfl (hdeps ⟨6, .data⟩ (by simp) rfl)
          refine QJ.quiet (x := x) hsz hC hi hF (Slots.of (by rfl)) rfl (wanted_none rfl) (show HlM W0 ((listed.setIfInBounds 8 true).getD 9 false) x v by rw [getD_setN (show 8 ≠ 9 by decide)]; exact hMb) ?_
          show _ = Result.ok (Next.value (.bool dd)) v
          simp [execOp, go_sem, e12]
        · cases ho
          refine QJ.make (v' := v.alloc (.cells #[] 117)) (x := x) (x' := v.heap.size) hsz hC hi hF (Slots.of (by rfl)) rfl (wanted_none rfl) (fun q hq => match q, (show q ≠ 9 by rintro rfl; rw [hl1] at hq; cases hq) with | 0, _ => rfl | 1, _ => rfl | 2, _ => rfl | 3, _ => rfl | 4, _ => rfl | 5, _ => rfl | 6, _ => rfl | 7, _ => rfl | 8, _ => rfl | 9, h => absurd rfl h | 10, _ => rfl | 11, _ => rfl | _ + 12, _ => rfl) (show HlM W0 ((listed.setIfInBounds 9 true).getD 9 false) v.heap.size (v.alloc (.cells #[] 117)) by rw [getD_setS (by rw [hsz]; decide)]; exact hMb.make) ?_
          show _ = Result.ok (Next.value (.pointer (some ⟨v.heap.size, 0, none⟩))) _
          simp [execOp, go_sem]
        · cases ho
          have e5 : bb.tmps[5]? = some (.pointer (some ⟨x, 0, none⟩)) := hF.up 9 5 rfl (hdeps ⟨9, .data⟩ (by simp) rfl)
          have e19 : bb.tmps[19]? = some (.agg #[]) := hF.up 7 19 rfl (hdeps ⟨7, .data⟩ (by simp) rfl)
          refine QJ.store (x := x) hsz hC hi hF (Slots.of (by rfl)) rfl rfl (wanted_none rfl) (show HlM W0 ((listed.setIfInBounds 10 true).getD 9 false) x v by rw [getD_setN (show 10 ≠ 9 by decide)]; exact hMb) ?_
          simp [execOp, go_sem, e5, e19]
        · cases ho
          have e20 : bb.tmps[20]? = some (.bool dd) := hF.up 8 20 rfl (hdeps ⟨8, .data⟩ (by simp) rfl)
          refine QJ.quiet (x := x) hsz hC hi hF (Slots.of (by rfl)) rfl (wanted_none rfl) (show HlM W0 ((listed.setIfInBounds 11 true).getD 9 false) x v by rw [getD_setN (show 11 ≠ 9 by decide)]; exact hMb) ?_
          show _ = Result.ok (Next.value (.bool dd)) v
          simp [execOp, go_sem, e20]
      · intro listed bb W3 hJ hr
        obtain ⟨hsz, hC, x, hF, hM⟩ := hJ
        have hall := all_upB2 (by rfl) hsz hr
        have hMb : HlM W0 (listed.getD 9 false) x W3 := hM
        have hlow := hMb.low
        have hb : bb = putAll _ _ _ 12 := hF.done (Slots.of (by rfl)) hall
        subst hb
        simp only [putAll]
        simp [dstOf, Act.put]
        have HLOW := Lib.hid hlow
        have hz3 := hlow.size
        clear hM hF hC hall hr hsz hMb hlow
        have HR3 := Lib.hid (HH0.out.below HLOW.out)
        obtain ⟨z0, z1⟩ := two_blkR ((HLOW.out.block w.heap.size (by omega)).trans HN0.out)
        obtain ⟨y0, y1⟩ := two_blkR HR3.out.box
        cases dd
        · have hn := of_decide_eq_false HDD.out
          have hp := HP.out
          rw [if_neg (fun e => e.elim hab hn)] at hp
          obtain ⟨w5, hrun, hp5, hg5⟩ := (HR3.out.prs.same (w' := W3.drew) rfl).put HPF.out (by unfold maxLen; omega)
          unfold prV at hrun
          have hk5 : Keeps (fun g => g = ob) W3 w5 := (Keeps.of_grown hg5 (fun g e => by cases e; rfl)).undrew
          have CO := HIH.out (S ++ [(a, b)]) a b w5 (HR3.out.step hk5 hp5) ha hb (HPRG.out hn) (by have := HF.out; rw [List.length_append, List.length_singleton]; omega)
          rw [← hp] at CO
          have hz5 := hk5.size
          have c0 := (World.cell?_of_block (a := ⟨w.heap.size, 0, none⟩) (hk5.block w.heap.size (by omega) (by omega))).trans z0
          have c1 := (World.cell?_of_block (a := ⟨w.heap.size, 1, none⟩) (hk5.block w.heap.size (by omega) (by omega))).trans z1
          have HCO := Lib.hid CO; have HK5 := Lib.hid hk5
          clear CO hk5 hp5 hg5 hn hp
          go_upto_region 6 with fail
          refine wp_region_still_tail 6 (by kernel_rfl) (by kernel_rfl) ?_
          simp only [List.take_succ_cons, List.take_zero, List.drop_succ_cons, List.drop_zero]
          iterate 6 still_step
          refine wpStill_nil ?_
          go_wp2_with (go_at_call 51; (with_reducible refine HCO.out.mono ?_); rintro e w6 ⟨rfl, hp6, hk6⟩; have HP6 := Lib.hid hp6; have HK6 := Lib.hid hk6; clear hp6 hk6)
          go_ret
          exact ⟨rfl, HP6.out, ((Keeps.of_below HB0.out).trans (Keeps.of_below HLOW.out) (fun g e => .inl e)).trans (HK5.out.trans HK6.out (fun g e => .inl e)) (fun g e => .inl e)⟩
        · have hm := of_decide_eq_true HDD.out
          have hp := HP.out
          rw [if_pos (.inr hm)] at hp
          have HPP := Lib.hid hp
          clear hm hp
          go_wp2
          go_ret
          exact ⟨ret_boolZ (by rw [HPP.out]), by rw [HPP.out]; exact HR3.out.prs, (Keeps.of_below HB0.out).trans (Keeps.of_below HLOW.out) (fun g e => .inl e)⟩
end Sp
end Go.Proofs.Yteooafgdmpbjeab
