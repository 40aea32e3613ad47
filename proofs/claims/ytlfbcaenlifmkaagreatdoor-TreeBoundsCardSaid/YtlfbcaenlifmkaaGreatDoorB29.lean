/- Tokens: what each call returns; the words lie in memory of the call's own; nothing that was there turns. -/
import Derived.Test.YtlfbcaenlifmkaaGreatDoorB28
import Derived.Test.YtlfbcaenlifmkaaGreatDoorB1
namespace Go.Proofs.YtlfbcaenlifmkaaGreatDoor
open Go.RowKit
namespace Sc
def tokCells (t : T) : List Value := [.int .i64 t.kind, .string ⟨t.text.toArray⟩, .int .i64 t.n, .int .i64 t.at_]
/-- What a call of Tokens leaves: a slice of its own that holds the words. -/
def ToksPost (w : World) (l : List UInt8) (e : Ending) (w' : World) : Prop :=
  Below w.heap.size w w' ∧ ∃ v, e = .returned (.tuple #[v, .int .i64 (toks l).1]) ∧ w'.ownsRow w.heap.size 157 4 v (toks l).2.length ((toks l).2.flatMap tokCells)
theorem info_tok : (Tryz.prog.info? 157).map (fun i => (i.zero, i.size, i.bytes)) = some (some (.agg #[.int .i64 0, .string ⟨#[]⟩, .int .i64 0, .int .i64 0]), 4, 40) := by kernel_rfl
theorem cell_four_new (w : World) (v0 v1 v2 v3 : Value) (t : TypeId) : ∀ (j : Nat) (u : Value), [v0, v1, v2, v3][j]? = some u → (w.alloc (.cells #[v0, v1, v2, v3] t)).cell? ((⟨w.heap.size, 0, none⟩ : Addr).add j) = some u := by
  intro j u h
  match j with
  | 0 => simp at h; subst h; simp [Addr.add]
  | 1 => simp at h; subst h; simp [Addr.add]
  | 2 => simp at h; subst h; simp [Addr.add]
  | 3 => simp at h; subst h; simp [Addr.add]
  | j + 4 => simp at h
theorem cell_four_new1 (w : World) (o : Obj) (v0 v1 v2 v3 : Value) (t : TypeId) : ∀ (j : Nat) (u : Value), [v0, v1, v2, v3][j]? = some u → ((w.alloc o).alloc (.cells #[v0, v1, v2, v3] t)).cell? ((⟨w.heap.size + 1, 0, none⟩ : Addr).add j) = some u := by
  have h := cell_four_new (w.alloc o) v0 v1 v2 v3 t
  rw [show (w.alloc o).heap.size = w.heap.size + 1 by simp] at h
  exact h
structure TMem (w wr : World) (v : Value) (ts : List T) : Prop where
  own : wr.ownsRow w.heap.size 157 4 v ts.length (ts.flatMap tokCells)
  bel : Below w.heap.size w wr
theorem TMem.same {w wr w' : World} {v : Value} {ts : List T} (h : TMem w wr v ts) (hb : Below wr.heap.size wr w') : TMem w w' v ts where
  own := by
    refine h.own.kept (row := none) ⟨hb.os, hb.tape, hb.output, hb.size, fun k hk _ => hb.block k hk⟩ ?_
    rcases own_slice h.own with ⟨a, c, rfl⟩
    cases a <;> simp [Value.ownBlock]
  bel := h.bel.trans (hb.mono h.bel.size)
theorem TMem.grow {w wr w' : World} {v v' : Value} {ts : List T} (h : TMem w wr v ts) (t : T)
    (hown : w'.ownsRow w.heap.size 157 4 v' (ts.length + 1) (ts.flatMap tokCells ++ tokCells t)) (hg : wr.grownBy w' v.ownBlock) : TMem w w' v' (ts ++ [t]) where
  own := by simpa [List.flatMap_append] using hown
  bel := by
    refine h.bel.grown hg h.bel.size ?_
    intro k hk
    rcases h.own.2 with ⟨rfl, _⟩ | ⟨g, cap, _, rfl, hg, _⟩
    · simp [Value.ownBlock] at hk
    · simp only [Value.ownBlock] at hk; cases hk; omega
def TRel (w : World) (s : ByteArray) (v i : Value) (wr : World) (k f : Nat) (ts : List T) : Prop :=
  k ≤ s.size ∧ ts.length ≤ k ∧ s.size < f + k ∧ i = .int .i64 k ∧ TMem w wr v ts ∧ toksRaw s.data.toList = toksGo f (s.data.toList.drop k) k ts
set_option maxRecDepth 100000 in
set_option maxHeartbeats 4000000 in
theorem Tokens_in (s : ByteArray) (w : World) (hs : s.size ≤ 1500) (hS : SignTab w) (hE : ErrTab w) :
    Calls Tryz.prog 51 #[.string s] w (ToksPost w s.data.toList) := by
  have hmax : s.size ≤ maxLen := by unfold maxLen; omega
  have hT : toks s.data.toList = (if (toksRaw s.data.toList).1 = 0 then (if 400 < (toksRaw s.data.toList).2.length then (3, []) else toksRaw s.data.toList) else ((toksRaw s.data.toList).1, [])) := by
    unfold toks; rw [if_neg (by rw [bytes_len]; omega)]
  have HT := Lib.hid hT; clear hT
  have HS := Lib.hid hS; have HE := Lib.hid hE; clear hS hE
  have hb0 := bsz_le s.data.toList
  rw [bytes_len] at hb0
  have cB := blankSize_any s w hmax
  have hr0 : toksRaw s.data.toList = toksGo (s.size + 1) (s.data.toList.drop (bsz s.data.toList)) (bsz s.data.toList) [] := by unfold toksRaw; rw [bytes_len]
  generalize bsz s.data.toList = k0 at *
  have HC := Lib.hid cB; have HR := Lib.hid hr0; clear cB hr0
  go_enter Tryz.func51, Tryz.ntmps51
  go_wp2_with (go_at_call 82; (with_reducible refine HC.out.mono ?_); rintro e w1 ⟨rfl, hb1⟩)
  go_loopw [4, 5] (fun v i wr => ∃ k f ts, TRel w s v i wr k f ts) (fun _ i _ => s.size - (intOf i).toNat)
  case atStart => exact ⟨k0, s.size + 1, [], hb0, by simp, by omega, rfl, ⟨World.ownsRow_nil _ _ _ _, by assumption⟩, HR.out⟩
  case round =>
    obtain ⟨k, f, ts, hk, htk, hf, rfl, hm, hq⟩ := hrel
    have HQ := Lib.hid hq; clear hq HR HC
    have HM := Lib.hid hm
    have hbw := hm.bel
    have hsw := hm.bel.size
    by_cases hks : k < s.size
    · have hdl : (s.data.toList.drop k).length = s.size - k := by rw [List.length_drop, bytes_len]
      have hsk : (s.extract k s.size).size ≤ 2000 := by rw [ByteArray.size_extract]; omega
      have hsk1 : 1 ≤ (s.extract k s.size).size := by rw [ByteArray.size_extract]; omega
      have cW := word_any (s.extract k s.size) wr hsk hsk1 (HS.out.below hbw) (HE.out.below hbw)
      rw [drop_ext] at cW
      have hz := wordW_size (s.data.toList.drop k)
      rw [hdl] at hz
      obtain ⟨a, c, rfl⟩ := own_slice hm.own
      obtain ⟨f, rfl⟩ : ∃ g, f = g + 1 := ⟨f - 1, by omega⟩
      clear hsk hsk1 hm
      by_cases he : (wordW (s.data.toList.drop k)).e = 0
      · have hqq := toksGo_word f k ts (s.data.toList.drop k) (by omega) he
        have e1 : (s.data.toList.drop k).drop (wordW (s.data.toList.drop k)).size = s.data.toList.drop (k + (wordW (s.data.toList.drop k)).size) := List.drop_drop
        rw [← HQ.out, e1, List.drop_drop] at hqq
        obtain ⟨hz1, hz2⟩ := hz he
        have cB := fun w => blankSize_any (s.extract (k + (wordW (s.data.toList.drop k)).size) s.size) w (by rw [ByteArray.size_extract]; unfold maxLen; omega)
        rw [drop_ext] at cB
        have hbz := bsz_le (s.data.toList.drop (k + (wordW (s.data.toList.drop k)).size))
        rw [List.length_drop, bytes_len] at hbz
        unfold W.val at cW
        generalize bsz (s.data.toList.drop (k + (wordW (s.data.toList.drop k)).size)) = bz at *
        generalize wordW (s.data.toList.drop k) = r at *
        obtain ⟨kd, tx, n, sz, er⟩ := r
        dsimp only at he hqq hz1 hz2 cB hbz cW
        subst he
        have HF := Lib.hid hqq; have HW := Lib.hid cW; have HB := Lib.hid cB
        clear hqq cW cB hz HQ hdl e1
        obtain ⟨i0, hi, hz0', hz1', hz2'⟩ := info_parts info_tok
        go_wp2_with (first
          | (go_at_call 83; (with_reducible refine HW.out.mono ?_); rintro e w1 ⟨rfl, hb1⟩; have HM1 := Lib.hid (HM.out.same hb1); have hb1s := hb1.size; clear hb1)
          | (at_builtin; (refine wpList_append_own _ rfl _ _ 116 rfl w.heap.size 157 i0 (.agg #[.int .i64 0, .string ⟨#[]⟩, .int .i64 0, .int .i64 0]) 4 40 Tryz.underlying116 hi hz0' hz1' hz2' rfl (by decide) _ _ _ rfl ((HM1.out.own.alloc _).alloc _) ⟨w1.heap.size + 1, 0, none⟩ 1 1 [.int .i64 kd, .string ⟨tx.toArray⟩, .int .i64 n, .int .i64 k] rfl rfl (cell_four_new1 _ _ _ _ _ _ _) (fun x hx => by simp at hx; rcases hx with rfl | rfl | rfl | rfl <;> rfl) (by unfold maxLen; omega) (by omega) (by simp; omega) ?_); intro v' w3 hown' hgrow _; have HOW := Lib.hid hown'; have HGR := Lib.hid hgrow; have hgs := hgrow.size; simp at hgs; clear hown' hgrow)
          | (go_at_call 82; (with_reducible refine (HB.out _).mono ?_); rintro e w4 ⟨rfl, hb4⟩; have HB4 := Lib.hid hb4; clear hb4))
        go_roundw
        case rel =>
          have M := ((HM1.out.same ((Below.refl _ _).alloc (Nat.le_refl _) _)).same ((Below.refl _ _).alloc (Nat.le_refl _) _)).grow ⟨kd, tx, n, k⟩ HOW.out HGR.out
          exact ⟨k + sz + bz, f, ts ++ [⟨kd, tx, n, k⟩], by omega, by simp; omega, by omega, by go_num, M.same HB4.out, HF.out⟩
        case measure => simp [intOf]; omega
      · have t8 : (((wordW (s.data.toList.drop k)).e : Int) != 0) = true := by simp; omega
        have t8' : (((wordW (s.data.toList.drop k)).e : Int) == 0) = false := by simp; omega
        have hqq := toksGo_bad f k ts (s.data.toList.drop k) (by omega) he
        rw [← HQ.out] at hqq
        have hTT := HT.out; rw [hqq] at hTT
        simp only [if_neg he] at hTT
        unfold W.val at cW
        generalize wordW (s.data.toList.drop k) = r at *
        have HTT := Lib.hid hTT; have HW := Lib.hid cW
        clear hqq hTT HQ HT cW hz he hdl
        go_wp2_with (go_at_call 83; (with_reducible refine HW.out.mono ?_); rintro e w1 ⟨rfl, hb1⟩)
        go_ret2
        refine ⟨?_, .slice none 0 0, ?_, ?_⟩
        · have hb1' : Below wr.heap.size wr w1 := by assumption
          exact (hbw.trans (hb1'.mono hsw)).alloc (by have := hb1'.size; omega) _
        · rw [HTT.out]; rfl
        · rw [HTT.out]; exact World.ownsRow_nil _ _ _ _
    · obtain rfl : k = s.size := by omega
      have hqq : toksRaw s.data.toList = (0, ts) := by rw [HQ.out]; exact toksGo_nil _ _ _ _ (by simp)
      have hTT := HT.out; rw [hqq] at hTT
      simp only [if_true] at hTT
      obtain ⟨a, c, rfl⟩ := own_slice hm.own
      clear hm hqq HQ HT hbw
      by_cases h4 : 400 < ts.length
      · rw [if_pos h4] at hTT
        have HTT := Lib.hid hTT; clear hTT
        go_wp2
        go_ret2
        refine ⟨HM.out.bel, .slice none 0 0, ?_, ?_⟩
        · rw [HTT.out]; rfl
        · rw [HTT.out]; exact World.ownsRow_nil _ _ _ _
      · rw [if_neg h4] at hTT
        have HTT := Lib.hid hTT; clear hTT
        go_wp2
        go_ret2
        refine ⟨HM.out.bel, .slice a ts.length c, ?_, ?_⟩
        · rw [HTT.out]; rfl
        · rw [HTT.out]; exact HM.out.own
end Sc
end Go.Proofs.YtlfbcaenlifmkaaGreatDoor
