/- next and Tokens of package sprueref1: what each call returns; nothing that was there turns. -/
import Derived.Test.YtaillpnjknnhdaaDoorRefH
import Derived.Test.YtaillpnjknnhdaaDoorScanG
namespace Go.Proofs.YtaillpnjknnhdaaDoor
open Go.RowKit
namespace Sc

theorem next_any (s : ByteArray) (i : Nat) (w : World) (hs : s.size ≤ 2000) (hi : i < s.size) :
    Calls Tryd.prog 23 #[.string s, .int .i64 i] w (NextPost w i (wordW (s.data.toList.drop i))) := by
  cases hL : isL (s[i]'hi) with
  | true => exact next_name s i w hs hi hL
  | false =>
    cases hD : isD (s[i]'hi) with
    | true => exact next_num s i w hs hi hD
    | false =>
      by_cases h34 : s[i]'hi = 34
      · exact next_quot s i w hs hi h34
      · by_cases hN : ∃ h : i + 1 < s.size, s[i]'hi = 45 ∧ isD (s[i + 1]'h) = true
        · obtain ⟨h, ha, hb⟩ := hN
          exact next_neg s i w hs hi ha h hb
        · by_cases h2 : ∃ h : i + 1 < s.size, ((s[i]'hi = 45 ∧ s[i + 1]'h = 62) ∨ (s[i]'hi = 58 ∧ s[i + 1]'h = 61))
          · obtain ⟨h, h2⟩ := h2
            exact next_two s i w hs h h2
          · refine next_one s i w hs hi hL hD h34 (fun h e => h2 ⟨h, e⟩) (fun h e => ?_)
            cases hd : isD (s[i + 1]'h) with
            | false => rfl
            | true => exact absurd ⟨h, e, hd⟩ hN

theorem next_ok (s : ByteArray) (i : Nat) (w : World) (hs : s.size ≤ 2000) (hi : i < s.size) (he : (wordW (s.data.toList.drop i)).e = 0) :
    Calls Tryd.prog 23 #[.string s, .int .i64 i] w fun e w' => e = .returned (.tuple #[.agg #[.int .i64 (wordW (s.data.toList.drop i)).kind, .string ⟨(wordW (s.data.toList.drop i)).text.toArray⟩, .int .i64 (wordW (s.data.toList.drop i)).n, .int .i64 i], .int .i64 (i + (wordW (s.data.toList.drop i)).size : Nat), .int .i64 0]) ∧ Below w.heap.size w w' := by
  refine (next_any s i w hs hi).mono ?_
  rintro e w' ⟨hb, a, c, d, k, b, rfl, h⟩
  obtain ⟨rfl, rfl, rfl, rfl, rfl⟩ := h he
  exact ⟨by rw [he]; simp, hb⟩
theorem next_err (s : ByteArray) (i : Nat) (w : World) (hs : s.size ≤ 2000) (hi : i < s.size) :
    Calls Tryd.prog 23 #[.string s, .int .i64 i] w fun e w' => ∃ (a c d k : Int) (b : ByteArray), e = .returned (.tuple #[.agg #[.int .i64 a, .string b, .int .i64 c, .int .i64 d], .int .i64 k, .int .i64 (wordW (s.data.toList.drop i)).e]) ∧ Below w.heap.size w w' := by
  refine (next_any s i w hs hi).mono ?_
  rintro e w' ⟨hb, a, c, d, k, b, rfl, h⟩
  exact ⟨a, c, d, k, b, rfl, hb⟩
theorem bsz_step (l : List UInt8) (k : Nat) (h : k < l.length) (hd : isB l[k] = true) : bsz (l.drop k) = bsz (l.drop (k + 1)) + 1 := by
  rw [drop_at l k h]; simp [bsz, hd]
theorem bsz_stop (l : List UInt8) (k : Nat) (h : k < l.length) (hd : isB l[k] = false) : bsz (l.drop k) = 0 := by
  rw [drop_at l k h]; simp [bsz, hd]

theorem info_rtok : (Tryd.prog.info? 53).map (fun i => (i.zero, i.size, i.bytes)) = some (some (.agg #[.int .i64 0, .string ⟨#[]⟩, .int .i64 0, .int .i64 0]), 4, 40) := by kernel_rfl

/-- What a call of Tokens leaves: a slice of its own that holds the words. -/
def RToksPost (w : World) (l : List UInt8) (e : Ending) (w' : World) : Prop :=
  Below w.heap.size w w' ∧ ∃ v, e = .returned (.tuple #[v, .int .i64 (toks l).1]) ∧ w'.ownsRow w.heap.size 53 4 v (toks l).2.length ((toks l).2.flatMap tokCells)

structure RMem (w wr : World) (v : Value) (ts : List T) : Prop where
  own : wr.ownsRow w.heap.size 53 4 v ts.length (ts.flatMap tokCells)
  bel : Below w.heap.size w wr
theorem RMem.same {w wr w' : World} {v : Value} {ts : List T} (h : RMem w wr v ts) (hb : Below wr.heap.size wr w') : RMem w w' v ts where
  own := by
    refine h.own.kept (row := none) ⟨hb.os, hb.tape, hb.output, hb.size, fun k hk _ => hb.block k hk⟩ ?_
    rcases own_slice h.own with ⟨a, c, rfl⟩
    cases a <;> simp [Value.ownBlock]
  bel := h.bel.trans (hb.mono h.bel.size)
theorem RMem.grow {w wr w' : World} {v v' : Value} {ts : List T} (h : RMem w wr v ts) (t : T)
    (hown : w'.ownsRow w.heap.size 53 4 v' (ts.length + 1) (ts.flatMap tokCells ++ tokCells t)) (hg : wr.grownBy w' v.ownBlock) : RMem w w' v' (ts ++ [t]) where
  own := by simpa [List.flatMap_append] using hown
  bel := by
    refine h.bel.grown hg h.bel.size ?_
    intro k hk
    rcases h.own.2 with ⟨rfl, _⟩ | ⟨g, cap, _, rfl, hg, _⟩
    · simp [Value.ownBlock] at hk
    · simp only [Value.ownBlock] at hk; cases hk; omega

def RRel (w : World) (s : ByteArray) (v i : Value) (wr : World) (k f : Nat) (ts : List T) : Prop :=
  k ≤ s.size ∧ ts.length ≤ k ∧ s.size < f + k ∧ i = .int .i64 k ∧ RMem w wr v ts ∧ toksRaw s.data.toList = toksGo f ((s.data.toList.drop k).drop (bsz (s.data.toList.drop k))) (k + bsz (s.data.toList.drop k)) ts

set_option maxRecDepth 100000 in
set_option maxHeartbeats 4000000 in
theorem RTokens_in (s : ByteArray) (w : World) (hs : s.size ≤ 1500) :
    Calls Tryd.prog 16 #[.string s] w (RToksPost w s.data.toList) := by
  have hT : toks s.data.toList = (if (toksRaw s.data.toList).1 = 0 then (if 400 < (toksRaw s.data.toList).2.length then (3, []) else toksRaw s.data.toList) else ((toksRaw s.data.toList).1, [])) := by
    unfold toks; rw [if_neg (by rw [bytes_len]; omega)]
  have HT := Lib.hid hT; clear hT
  have hr0 : toksRaw s.data.toList = toksGo (s.size + 1) (s.data.toList.drop (bsz s.data.toList)) (bsz s.data.toList) [] := by unfold toksRaw; rw [bytes_len]
  have HR := Lib.hid hr0; clear hr0
  have HB := Lib.hid rblank_any
  go_enter Tryd.func16, Tryd.ntmps16
  go_wp2
  go_loopw [4, 5] (fun v i wr => ∃ k f ts, RRel w s v i wr k f ts) (fun _ i _ => s.size - (intOf i).toNat)
  case atStart => exact ⟨0, s.size + 1, [], Nat.zero_le _, by simp, by omega, rfl, ⟨World.ownsRow_nil _ _ _ _, Below.refl _ _⟩, by rw [HR.out]; simp⟩
  case round =>
    obtain ⟨k, f, ts, hk, htk, hf, rfl, hm, hq⟩ := hrel
    have HQ := Lib.hid hq; clear hq HR
    have HM := Lib.hid hm
    have hbw := hm.bel
    have hsw := hm.bel.size
    obtain ⟨a, c, rfl⟩ := own_slice hm.own
    by_cases hks : k < s.size
    · have hks' : (k : Int) < s.size := by omega
      cases hB : isB (s[k]'hks) with
      | true =>
        have hz := bsz_step s.data.toList k (lt_len hks) (by rw [bytes_at s k hks]; exact hB)
        have hqq := HQ.out
        rw [hz, List.drop_drop, show k + (bsz (s.data.toList.drop (k + 1)) + 1) = k + 1 + bsz (s.data.toList.drop (k + 1)) by omega, ← List.drop_drop] at hqq
        obtain ⟨x, hx⟩ : ∃ x, s[k]'hks = x := ⟨_, rfl⟩
        rw [hx] at hB
        have HF := Lib.hid hqq
        clear hz hqq HQ hm
        go_wp2_with (go_at_call 22; (with_reducible refine (HB.out _ _).mono ?_); rintro e w' ⟨rfl, rfl⟩)
        go_roundw
        case rel => exact ⟨k + 1, f, ts, by omega, by omega, by omega, by go_num, HM.out, HF.out⟩
        case measure => simp [intOf]; omega
      | false =>
        have hz := bsz_stop s.data.toList k (lt_len hks) (by rw [bytes_at s k hks]; exact hB)
        have hqq := HQ.out
        rw [hz, List.drop_zero, Nat.add_zero] at hqq
        obtain ⟨x, hx⟩ : ∃ x, s[k]'hks = x := ⟨_, rfl⟩
        rw [hx] at hB
        obtain ⟨f, rfl⟩ : ∃ g, f = g + 1 := ⟨f - 1, by omega⟩
        have hdl : (s.data.toList.drop k).length = s.size - k := by rw [List.length_drop, bytes_len]
        have hsz := wordW_size (s.data.toList.drop k)
        rw [hdl] at hsz
        by_cases he : (wordW (s.data.toList.drop k)).e = 0
        · have hw := toksGo_word f k ts (s.data.toList.drop k) (by omega) he
          have e1 : (s.data.toList.drop k).drop (wordW (s.data.toList.drop k)).size = s.data.toList.drop (k + (wordW (s.data.toList.drop k)).size) := List.drop_drop
          rw [← hqq, e1] at hw
          clear e1
          have cW := fun w => next_ok s k w (by omega) hks he
          obtain ⟨hz1, hz2⟩ := hsz he
          generalize wordW (s.data.toList.drop k) = r at *
          obtain ⟨kd, tx, n, sz, er⟩ := r
          dsimp only at he hw hz1 hz2 cW
          subst he
          have hcast : ((k + sz : Nat) : Int) = ((k + sz : Nat) : Int) := rfl
          obtain ⟨k2, hk2⟩ : ∃ k2, k + sz = k2 := ⟨_, rfl⟩
          rw [hk2] at hw cW
          have HF := Lib.hid hw; have HW := Lib.hid cW
          clear hw cW hz hqq HQ hdl hsz hcast hm
          obtain ⟨i0, hi, hz0', hz1', hz2'⟩ := info_parts info_rtok
          go_wp2_with (first
            | (go_at_call 22; (with_reducible refine (HB.out _ _).mono ?_); rintro e w' ⟨rfl, rfl⟩)
            | (go_at_call 23; (with_reducible refine (HW.out _).mono ?_); rintro e w1 ⟨rfl, hb1⟩; have HM1 := Lib.hid (HM.out.same hb1); have hb1s := hb1.size; clear hb1)
            | (at_builtin; (refine wpList_append_own _ rfl _ _ 31 rfl w.heap.size 53 i0 (.agg #[.int .i64 0, .string ⟨#[]⟩, .int .i64 0, .int .i64 0]) 4 40 Tryd.underlying31 hi hz0' hz1' hz2' rfl (by decide) _ _ _ rfl ((HM1.out.own.alloc _).alloc _) ⟨w1.heap.size + 1, 0, none⟩ 1 1 [.int .i64 kd, .string ⟨tx.toArray⟩, .int .i64 n, .int .i64 k] rfl rfl (cell_four_new1 _ _ _ _ _ _ _) (fun x hx => by simp at hx; rcases hx with rfl | rfl | rfl | rfl <;> rfl) (by unfold maxLen; omega) (by omega) (by simp; omega) ?_); intro v' w3 hown' hgrow _; have HOW := Lib.hid hown'; have HGR := Lib.hid hgrow; have hgs := hgrow.size; simp at hgs; clear hown' hgrow))
          go_roundw
          case rel =>
            have M := ((HM1.out.same ((Below.refl _ _).alloc (Nat.le_refl _) _)).same ((Below.refl _ _).alloc (Nat.le_refl _) _)).grow ⟨kd, tx, n, k⟩ HOW.out HGR.out
            exact ⟨k2, f, ts ++ [⟨kd, tx, n, k⟩], by omega, by simp; omega, by omega, by go_num, M, HF.out⟩
          case measure => simp [intOf]; omega
        · have t8 : (((wordW (s.data.toList.drop k)).e : Int) != 0) = true := by simp; omega
          have hw := toksGo_bad f k ts (s.data.toList.drop k) (by omega) he
          rw [← hqq] at hw
          have hTT := HT.out; rw [hw] at hTT
          simp only [if_neg he] at hTT
          have cW := fun w => next_err s k w (by omega) hks
          generalize wordW (s.data.toList.drop k) = r at *
          have HTT := Lib.hid hTT; have HW := Lib.hid cW
          clear hw hTT HQ HT cW hz hqq hsz he hdl hm
          go_wp2_with (first
            | (go_at_call 22; (with_reducible refine (HB.out _ _).mono ?_); rintro e w' ⟨rfl, rfl⟩)
            | (go_at_call 23; (with_reducible refine (HW.out _).mono ?_); rintro e w1 ⟨a2, c2, d2, k2, b2, rfl, hb1⟩))
          go_ret2
          refine ⟨?_, .slice none 0 0, ?_, ?_⟩
          · have hb1' : Below wr.heap.size wr w1 := by assumption
            exact (hbw.trans (hb1'.mono hsw)).alloc (by have := hb1'.size; omega) _
          · rw [HTT.out]; rfl
          · rw [HTT.out]; exact World.ownsRow_nil _ _ _ _
    · obtain rfl : k = s.size := by omega
      have hqq : toksRaw s.data.toList = (0, ts) := by
        rw [HQ.out]; exact toksGo_nil _ _ _ _ (by rw [List.length_drop, List.length_drop, bytes_len]; omega)
      have hTT := HT.out; rw [hqq] at hTT
      simp only [if_true] at hTT
      clear hm hqq HQ HT hbw
      by_cases h4 : 400 < ts.length
      · rw [if_pos h4] at hTT
        have HTT := Lib.hid hTT; clear hTT
        go_wp2
        go_ret2
        refine ⟨HM.out.bel, .slice none 0 0, ?_, ?_⟩
        · rw [HTT.out]; rfl
        · rw [HTT.out]; exact World.ownsRow_nil _ _ _ _
      · rw [if_neg h4] at hTT
        have HTT := Lib.hid hTT; clear hTT
        go_wp2
        go_ret2
        refine ⟨HM.out.bel, .slice a ts.length c, ?_, ?_⟩
        · rw [HTT.out]; rfl
        · rw [HTT.out]; exact HM.out.own
end Sc
end Go.Proofs.YtaillpnjknnhdaaDoor
