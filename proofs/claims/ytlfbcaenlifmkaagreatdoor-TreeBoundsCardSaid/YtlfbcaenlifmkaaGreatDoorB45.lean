/- Split of package text: what each call returns; the parts lie in memory of the call's own; nothing that was there turns. -/
import Derived.Test.YtlfbcaenlifmkaaGreatDoorB44
import Derived.Lib.MinMax
namespace Go.Proofs.YtlfbcaenlifmkaaGreatDoor
open Go.RowKit
namespace Tx
def partCells (p : P) : List Value := [.bool p.act, .string ⟨p.s.toArray⟩, .int .i64 p.at_]
/-- What a call of Split leaves: a slice of its own that holds the parts (T: the parts' type). -/
def SplitPost (T : TypeId) (w : World) (l : List UInt8) (e : Ending) (w' : World) : Prop :=
  Below w.heap.size w w' ∧ ∃ v, e = .returned (.tuple #[v, .int .i64 (splitL l).1]) ∧ w'.ownsRow w.heap.size T 3 v (splitL l).2.length ((splitL l).2.flatMap partCells)
theorem own_slice {w : World} {base : Nat} {e : TypeId} {size : Nat} {v : Value} {n : Nat} {xs : List Value} (h : w.ownsRow base e size v n xs) : ∃ a c, v = .slice a n c := by
  rcases h.2 with ⟨rfl, rfl⟩ | ⟨g, cap, _, rfl, _⟩
  · exact ⟨none, 0, rfl⟩
  · exact ⟨_, _, rfl⟩
theorem info_part : (Tryz.prog.info? 100).map (fun i => (i.zero, i.size, i.bytes)) = some (some (.agg #[.bool false, .string ⟨#[]⟩, .int .i64 0]), 3, 32) := by kernel_rfl
theorem cell_three_new (w : World) (v0 v1 v2 : Value) (t : TypeId) : ∀ (j : Nat) (u : Value), [v0, v1, v2][j]? = some u → (w.alloc (.cells #[v0, v1, v2] t)).cell? ((⟨w.heap.size, 0, none⟩ : Addr).add j) = some u := by
  intro j u h
  match j with
  | 0 => simp at h; subst h; simp [Addr.add]
  | 1 => simp at h; subst h; simp [Addr.add]
  | 2 => simp at h; subst h; simp [Addr.add]
  | j + 3 => simp at h
theorem cell_three_new1 (w : World) (o : Obj) (v0 v1 v2 : Value) (t : TypeId) : ∀ (j : Nat) (u : Value), [v0, v1, v2][j]? = some u → ((w.alloc o).alloc (.cells #[v0, v1, v2] t)).cell? ((⟨w.heap.size + 1, 0, none⟩ : Addr).add j) = some u := by
  have h := cell_three_new (w.alloc o) v0 v1 v2 t
  rw [show (w.alloc o).heap.size = w.heap.size + 1 by simp] at h
  exact h
/-- The memory of a call that gathers parts. -/
structure PMem (T : TypeId) (w wr : World) (v : Value) (ps : List P) : Prop where
  own : wr.ownsRow w.heap.size T 3 v ps.length (ps.flatMap partCells)
  bel : Below w.heap.size w wr
theorem PMem.same {T : TypeId} {w wr w' : World} {v : Value} {ps : List P} (h : PMem T w wr v ps) (hb : Below wr.heap.size wr w') : PMem T w w' v ps where
  own := by
    refine h.own.kept (row := none) ⟨hb.os, hb.tape, hb.output, hb.size, fun k hk _ => hb.block k hk⟩ ?_
    rcases own_slice h.own with ⟨a, c, rfl⟩
    cases a <;> simp [Value.ownBlock]
  bel := h.bel.trans (hb.mono h.bel.size)
theorem PMem.grow {T : TypeId} {w wr w' : World} {v v' : Value} {ps : List P} (h : PMem T w wr v ps) (p : P)
    (hown : w'.ownsRow w.heap.size T 3 v' (ps.length + 1) (ps.flatMap partCells ++ partCells p)) (hg : wr.grownBy w' v.ownBlock) : PMem T w w' v' (ps ++ [p]) where
  own := by simpa [List.flatMap_append] using hown
  bel := by
    refine h.bel.grown hg h.bel.size ?_
    intro k hk
    rcases h.own.2 with ⟨rfl, _⟩ | ⟨g, cap, _, rfl, hg, _⟩
    · simp [Value.ownBlock] at hk
    · simp only [Value.ownBlock] at hk; cases hk; omega
def SRel (T : TypeId) (w : World) (s : ByteArray) (v i : Value) (wr : World) (k : Nat) (ps : List P) : Prop :=
  k ≤ s.size ∧ ps.length ≤ k ∧ i = .int .i64 k ∧ PMem T w wr v ps ∧ rawW s.data.toList 0 = (rawW (s.data.toList.drop k) k).map (ps ++ ·)
set_option maxRecDepth 100000 in
set_option maxHeartbeats 400000 in
theorem Split_long (s : ByteArray) (w : World) (hs : s.size ≤ maxLen) (h : 1500 < s.size) :
    Calls Tryz.prog 39 #[.string s] w (SplitPost 100 w s.data.toList) := by
  have hT : splitL s.data.toList = (4, []) := by unfold splitL; rw [if_pos (by rw [bytes_len]; exact h)]
  have HT := Lib.hid hT; clear hT
  unfold maxLen at hs
  go_enter Tryz.func39, Tryz.ntmps39
  go_wp2
  go_ret2
  refine ⟨Below.refl _ _, .slice none 0 0, ?_, ?_⟩
  · rw [HT.out]; rfl
  · rw [HT.out]; exact World.ownsRow_nil _ _ _ _
set_option maxRecDepth 100000 in
set_option maxHeartbeats 4000000 in
theorem Split_in (s : ByteArray) (w : World) (hs : s.size ≤ 1500) (hM : MaxTab w) :
    Calls Tryz.prog 39 #[.string s] w (SplitPost 100 w s.data.toList) := by
  have hT : splitL s.data.toList = splitOf (rawW s.data.toList 0) := by
    unfold splitL; rw [if_neg (by rw [bytes_len]; omega)]
  have HT := Lib.hid hT; clear hT
  have HX := Lib.hid hM; clear hM
  go_enter Tryz.func39, Tryz.ntmps39
  go_wp2
  go_loopw [4, 5] (fun v i wr => ∃ k ps, SRel 100 w s v i wr k ps) (fun _ i _ => s.size - (intOf i).toNat)
  case atStart => exact ⟨0, [], by omega, by simp, rfl, ⟨World.ownsRow_nil _ _ _ _, Below.refl _ _⟩, by simp⟩
  case round =>
    obtain ⟨k, ps, hk, hpk, rfl, hm, hq⟩ := hrel
    have HQ := Lib.hid hq; clear hq
    have HM := Lib.hid hm
    have hsw := hm.bel.size
    obtain ⟨a, c, rfl⟩ := own_slice hm.own
    by_cases hks : k < s.size
    · have hdl : (s.data.toList.drop k).length = s.size - k := by rw [List.length_drop, bytes_len]
      have hsk : (s.extract k s.size).size ≤ 4000 := by rw [ByteArray.size_extract]; omega
      have cW := part_any (s.extract k s.size) wr hsk (HX.out.below hm.bel)
      rw [drop_ext] at cW
      clear hsk
      cases hp : partL (s.data.toList.drop k) with
      | none =>
        have hqq := HQ.out
        rw [raw_none _ _ (by omega) hp] at hqq
        have hTT := HT.out; rw [hqq] at hTT
        rw [hp] at cW
        simp only [splitOf] at hTT
        unfold partV at cW
        have HTT := Lib.hid hTT; have HW := Lib.hid cW
        have hbw := hm.bel
        clear hqq hTT HQ HT cW hdl hp hm
        go_wp2_with (go_at_call 65; (with_reducible refine HW.out.mono ?_); rintro e w1 ⟨rfl, hb1⟩)
        go_ret2
        refine ⟨?_, .slice none 0 0, ?_, ?_⟩
        · have hb1' : Below wr.heap.size wr w1 := by assumption
          exact (hbw.trans (hb1'.mono hsw)).alloc (by have := hb1'.size; omega) _
        · rw [HTT.out]; rfl
        · rw [HTT.out]; exact World.ownsRow_nil _ _ _ _
      | some r =>
        obtain ⟨b, x, n⟩ := r
        have hsz := part_size _ _ _ _ (by omega) hp
        have hqq := HQ.out
        rw [raw_some _ _ (by omega) b x n hp, List.drop_drop, Option.map_map] at hqq
        have hz1 := hsz.1
        have hz2 := hsz.2.1
        rw [hdl] at hz2
        have hfin : rawW s.data.toList 0 = (rawW (s.data.toList.drop (k + n)) (k + n)).map ((ps ++ [⟨b, x, k⟩]) ++ ·) := by
          rw [hqq]; congr 1; funext t; simp
        rw [hp] at cW
        unfold partV at cW
        have HF := Lib.hid hfin; have HW := Lib.hid cW
        clear hfin cW hqq HQ hdl hp hsz hm
        obtain ⟨i0, hi, hz0', hz1', hz2'⟩ := info_parts info_part
        go_wp2_with (first
          | (go_at_call 65; (with_reducible refine HW.out.mono ?_); rintro e w1 ⟨rfl, hb1⟩; have HM1 := Lib.hid (HM.out.same hb1); have hb1s := hb1.size; clear hb1)
          | (at_builtin; (refine wpList_append_own _ rfl _ _ 92 rfl w.heap.size 100 i0 (.agg #[.bool false, .string ⟨#[]⟩, .int .i64 0]) 3 32 Tryz.underlying92 hi hz0' hz1' hz2' rfl (by decide) _ _ _ rfl ((HM1.out.own.alloc _).alloc _) ⟨w1.heap.size + 1, 0, none⟩ 1 1 [.bool b, .string ⟨x.toArray⟩, .int .i64 k] rfl rfl (cell_three_new1 _ _ _ _ _ _) (fun x hx => by simp at hx; rcases hx with rfl | rfl | rfl <;> rfl) (by unfold maxLen; omega) (by omega) (by simp; omega) ?_); intro v' w3 hown' hgrow _; have HOW := Lib.hid hown'; have HGR := Lib.hid hgrow; have hgs := hgrow.size; simp at hgs; clear hown' hgrow))
        go_roundw
        case rel =>
          have M := ((HM1.out.same ((Below.refl _ _).alloc (Nat.le_refl _) _)).same ((Below.refl _ _).alloc (Nat.le_refl _) _)).grow ⟨b, x, k⟩ HOW.out HGR.out
          exact ⟨k + n, ps ++ [⟨b, x, k⟩], by omega, by simp; omega, by go_num, M, HF.out⟩
        case measure => simp [intOf]; omega
    · obtain rfl : k = s.size := by omega
      have hqq : rawW s.data.toList 0 = some ps := by
        rw [HQ.out, List.drop_of_length_le (by rw [bytes_len]; exact Nat.le_refl _), raw_nil]; simp
      have hTT := HT.out; rw [hqq] at hTT
      simp only [splitOf] at hTT
      clear hm hqq HQ HT
      by_cases h4 : 200 < ps.length
      · rw [if_pos h4] at hTT
        have HTT := Lib.hid hTT; clear hTT
        go_wp2
        go_ret2
        refine ⟨HM.out.bel, .slice none 0 0, ?_, ?_⟩
        · rw [HTT.out]; rfl
        · rw [HTT.out]; exact World.ownsRow_nil _ _ _ _
      · rw [if_neg h4] at hTT
        have HTT := Lib.hid hTT; clear hTT
        go_wp2
        go_ret2
        refine ⟨HM.out.bel, .slice a ps.length c, ?_, ?_⟩
        · rw [HTT.out]; rfl
        · rw [HTT.out]; exact HM.out.own
theorem Split_any (s : ByteArray) (w : World) (hs : s.size ≤ maxLen) (hM : MaxTab w) :
    Calls Tryz.prog 39 #[.string s] w (SplitPost 100 w s.data.toList) := by
  by_cases h : 1500 < s.size
  · exact Split_long s w hs h
  · exact Split_in s w (by omega) hM
end Tx
end Go.Proofs.YtlfbcaenlifmkaaGreatDoor
