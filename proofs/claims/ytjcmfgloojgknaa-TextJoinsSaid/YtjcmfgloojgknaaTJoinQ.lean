/- TextJoins: the pure part: rows of pieces whose actions end, and what their parts come to. -/
import Derived.Test.YtjcmfgloojgknaaTJoinP
namespace Go.Proofs.Ytjcmfgloojgknaa
namespace Tx

def jpL (n : Nat) : List UInt8 := [[120], [10], [123, 123, 46, 125, 125], [123, 123, 32, 97, 32, 34, 125, 125, 34, 32, 125, 125], [125], [34], [123, 123, 125, 125]].getD n []
theorem jp_ok (n : Nat) (h : n < 7) (i : Nat) : (jpL n).length ≤ 12 ∧ (jpL n).getLast? ≠ some 123 ∧ (jpL n) ≠ [] ∧ ∃ p, rawW (jpL n) i = some [p] := by
  match n, h with
  | 0, _ => exact ⟨by decide, by decide, by decide, ⟨false, [120], i⟩, rfl⟩
  | 1, _ => exact ⟨by decide, by decide, by decide, ⟨false, [10], i⟩, rfl⟩
  | 2, _ => exact ⟨by decide, by decide, by decide, ⟨true, [46], i⟩, rfl⟩
  | 3, _ => exact ⟨by decide, by decide, by decide, ⟨true, [32, 97, 32, 34, 125, 125, 34, 32], i⟩, rfl⟩
  | 4, _ => exact ⟨by decide, by decide, by decide, ⟨false, [125], i⟩, rfl⟩
  | 5, _ => exact ⟨by decide, by decide, by decide, ⟨false, [34], i⟩, rfl⟩
  | 6, _ => exact ⟨by decide, by decide, by decide, ⟨true, [], i⟩, rfl⟩

theorem merge_len : ∀ xs ys : List P, (mergeP xs ys).length ≤ xs.length + ys.length
  | [], ys => by simp [mergeP]
  | [x], [] => by simp [mergeP]
  | [x], y :: ys => by unfold mergeP; split <;> simp <;> omega
  | x :: x2 :: xs, ys => by
    have := merge_len (x2 :: xs) ys
    unfold mergeP; simp at this ⊢; omega

/-- A row of at most j pieces: its parts. -/
def JOk (s : List UInt8) (j : Nat) : Prop := s.length ≤ 12 * j ∧ s.getLast? ≠ some 123 ∧ ∃ xs, rawW s 0 = some xs ∧ xs.length ≤ j
theorem jok_zero : JOk [] 0 := ⟨by simp, by simp, [], rfl, by simp⟩
theorem jok_step (s : List UInt8) (j n : Nat) (h : JOk s j) (hn : n < 7) : JOk (s ++ jpL n) (j + 1) := by
  obtain ⟨h1, h2, xs, h3, h4⟩ := h
  obtain ⟨p1, p2, p3, p, p4⟩ := jp_ok n hn (0 + s.length)
  refine ⟨by rw [List.length_append]; omega, ?_, mergeP xs [p], raw_append _ _ s 0 xs [p] (Nat.le_refl _) h2 h3 p4, ?_⟩
  · rw [List.getLast?_append]
    cases hg : (jpL n).getLast? with
    | none => rw [List.getLast?_eq_none_iff] at hg; exact absurd hg p3
    | some c => rw [hg] at p2; simpa using p2
  · have := merge_len xs [p]
    simp at this; omega

/-- Parts, moved up. -/
def sh (d : Nat) (p : P) : P := ⟨p.act, p.s, p.at_ + d⟩
theorem raw_shift (d : Nat) : ∀ (n : Nat) (l : List UInt8) (i : Nat), l.length ≤ n → rawW l (i + d) = (rawW l i).map (List.map (sh d))
  | n, l, i, hn => by
    by_cases h0 : l.length = 0
    · obtain rfl := List.eq_nil_of_length_eq_zero h0
      rfl
    · cases hp : partL l with
      | none => rw [raw_none l _ (by omega) hp, raw_none l _ (by omega) hp]; rfl
      | some r =>
        obtain ⟨a, x, m⟩ := r
        have h1 := part_size l a x m (by omega) hp
        cases n with
        | zero => omega
        | succ n =>
          have ih := raw_shift d n (l.drop m) (i + m) (by rw [List.length_drop]; omega)
          rw [raw_some l _ (by omega) a x m hp, raw_some l _ (by omega) a x m hp, show i + d + m = i + m + d by omega, ih, Option.map_map, Option.map_map]
          rfl

theorem split_of (l : List UInt8) (ps : List P) (h : rawW l 0 = some ps) (hl : l.length ≤ 1500) (hp : ps.length ≤ 200) : splitL l = (0, ps) := by
  unfold splitL
  rw [if_neg (by omega), h]
  simp only [splitOf]
  rw [if_neg (by omega)]

/-- Whether texts meet. -/
def meetB (xs ys : List P) : Bool := match xs.getLast?, ys.head? with
  | some x, some y => !x.act && !y.act
  | _, _ => false
theorem merge_no : ∀ xs ys : List P, meetB xs ys = false → mergeP xs ys = xs ++ ys
  | [], ys, _ => rfl
  | [x], [], _ => rfl
  | [x], y :: ys, h => by
    have h' : (!x.act && !y.act) = false := h
    unfold mergeP; rw [h']; rfl
  | x :: x2 :: xs, ys, h => by
    have h' : meetB (x2 :: xs) ys = false := by
      unfold meetB at h ⊢
      rwa [List.getLast?_cons_cons] at h
    have ih := merge_no (x2 :: xs) ys h'
    unfold mergeP; rw [ih]; rfl
theorem merge_yes : ∀ (xs : List P) (x y : P) (ys : List P), x.act = false → y.act = false → mergeP (xs ++ [x]) (y :: ys) = xs ++ ⟨false, x.s ++ y.s, x.at_⟩ :: ys
  | [], x, y, ys, hx, hy => by
    show mergeP [x] (y :: ys) = _
    unfold mergeP; rw [hx, hy]; rfl
  | a :: xs, x, y, ys, hx, hy => by
    have ih := merge_yes xs x y ys hx hy
    rw [List.cons_append, merge_cons _ _ _ (by simp), ih]; rfl

theorem join_le2 (ps : List P) (p : Nat) (h : p < ps.length) : (joinL (ps.take p)).length + (brace ps[p]).length ≤ (joinL ps).length := by
  have e : ps.take (p + 1) = ps.take p ++ [ps[p]] := by rw [List.take_succ_eq_append_getElem h]
  have e2 : joinL ps = joinL (ps.take (p + 1)) ++ joinL (ps.drop (p + 1)) := by
    unfold joinL; rw [← List.flatMap_append, List.take_append_drop]
  rw [e2, e, joinL_snoc, List.length_append, List.length_append]; omega
theorem part_small (l : List UInt8) (ps : List P) (h : rawW l 0 = some ps) (i : Nat) (hi : i < ps.length) : ps[i].at_ ≤ l.length ∧ ps[i].s.length ≤ l.length := by
  obtain ⟨h1, h2, _⟩ := raw_join _ l 0 ps (Nat.le_refl _) h
  have h3 := join_le2 ps i hi
  have h4 : ps[i].s.length ≤ (brace ps[i]).length := by
    unfold brace; split
    · simp; omega
    · exact Nat.le_refl _
  rw [h1] at h3
  rw [h2 i hi]
  omega

/-- What the law asks of the three rows of parts. -/
structure Join3 (d : Nat) (xs ys zs : List P) (meet : Bool) : Prop where
  len : zs.length + (if meet then 1 else 0) = xs.length + ys.length
  first : meet = true → ∃ (hx : 0 < xs.length) (hy : 0 < ys.length) (hz : zs.length - ys.length < zs.length), xs[xs.length - 1].act = false ∧ ys[0].act = false ∧
    zs[zs.length - ys.length].act = false ∧ zs[zs.length - ys.length].s = xs[xs.length - 1].s ++ ys[0].s
  rest : ∀ i (hi : i < ys.length), (meet = true → i ≠ 0) → ∃ hz : zs.length - ys.length + i < zs.length, zs[zs.length - ys.length + i].act = ys[i].act ∧ zs[zs.length - ys.length + i].s = ys[i].s ∧ zs[zs.length - ys.length + i].at_ = ys[i].at_ + d
  no : meet = false → 0 < xs.length → 0 < ys.length → ∃ (hx : xs.length - 1 < xs.length) (hy : 0 < ys.length), xs[xs.length - 1].act = true ∨ ys[0].act = true

theorem join3 (d : Nat) (xs ys : List P) : Join3 d xs ys (mergeP xs (ys.map (sh d))) (meetB xs ys) := by
  have hmm : meetB xs (ys.map (sh d)) = meetB xs ys := by
    unfold meetB
    cases xs.getLast? <;> cases ys <;> simp [sh]
  cases hb : meetB xs ys with
  | false =>
    rw [merge_no _ _ (by rw [hmm, hb])]
    refine ⟨by simp, (fun h => by cases h), fun i hi _ => ?_, fun _ h1 h2 => ⟨by omega, h2, ?_⟩⟩
    · have e : (xs ++ ys.map (sh d)).length - ys.length = xs.length := by simp
      refine ⟨by simp; omega, ?_⟩
      simp only [e]
      rw [List.getElem_append_right (by omega)]
      simp [sh]
    · unfold meetB at hb
      rw [List.getLast?_eq_getElem?, List.getElem?_eq_getElem (by omega : xs.length - 1 < xs.length)] at hb
      cases ys with
      | nil => simp at h2
      | cons y ys =>
        simp only [List.head?_cons] at hb
        simp only [List.getElem_cons_zero]
        cases h3 : xs[xs.length - 1].act with
        | true => exact Or.inl rfl
        | false => rw [h3] at hb; simp at hb; exact Or.inr hb
  | true =>
    unfold meetB at hb
    cases ys with
    | nil => cases xs.getLast? <;> simp at hb
    | cons y ys =>
      rcases List.eq_nil_or_concat xs with rfl | ⟨xs, x, rfl⟩
      · simp at hb
      · simp only [List.concat_eq_append] at hb ⊢
        rw [List.getLast?_append] at hb
        simp at hb
        rw [List.map_cons, merge_yes xs x (sh d y) _ hb.1 (by exact hb.2)]
        have e : (xs ++ (⟨false, x.s ++ (sh d y).s, x.at_⟩ :: ys.map (sh d))).length - (y :: ys).length = xs.length := by simp
        refine ⟨by simp; omega, fun _ => ⟨by simp, by simp, by simp, by simpa using hb.1, by simpa using hb.2, ?_, ?_⟩, fun i hi hi0 => ?_, (fun h => by cases h)⟩
        · simp only [e]; simp
        · simp only [e]; simp [sh]
        · cases i with
          | zero => exact absurd rfl (hi0 rfl)
          | succ i =>
            have hi' : i < ys.length := by simpa using hi
            refine ⟨by simp; omega, ?_⟩
            simp only [e]
            rw [List.getElem_append_right (by omega)]
            have e2 : xs.length + (i + 1) - xs.length = i + 1 := by omega
            simp only [e2, List.getElem_cons_succ, List.getElem_map]
            simp [sh]
end Tx
end Go.Proofs.Ytjcmfgloojgknaa
