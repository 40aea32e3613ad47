/- ScanSigns: what the words of its sources come to. -/
import Derived.Test.YtaillpnjknnhdaaDoorTk
import Derived.KernelRfl
namespace Go.Proofs.YtaillpnjknnhdaaDoor
namespace Sc

def Canon : List (List UInt8) → Prop
  | [] => True
  | x :: r => x ∈ signs ∧ (x = [58] → ∀ y, r.head? = some y → y.head? ≠ some 61) ∧ Canon r
theorem canon_snoc (ws : List (List UInt8)) (x : List UInt8) (h : Canon ws) (hx : x ∈ signs) (hl : ws.getLast? = some [58] → x.head? ≠ some 61) : Canon (ws ++ [x]) := by
  induction ws with
  | nil => exact ⟨hx, fun _ y hy => by simp at hy, trivial⟩
  | cons a r ih =>
    obtain ⟨h1, h2, h3⟩ := h
    refine ⟨h1, ?_, ih h3 ?_⟩
    · intro ha y hy
      cases r with
      | nil => simp at hy; subst hy; exact hl (by simp [ha])
      | cons b t => exact h2 ha y (by simpa using hy)
    · intro hr
      refine hl ?_
      cases r with
      | nil => simp at hr
      | cons b t => rw [List.getLast?_cons_cons]; exact hr
theorem canon_init (ws : List (List UInt8)) (x : List UInt8) (h : Canon (ws ++ [x])) : Canon ws ∧ x ∈ signs := by
  induction ws with
  | nil => exact ⟨trivial, h.1⟩
  | cons a r ih =>
    obtain ⟨h1, h2, h3⟩ := h
    obtain ⟨i1, i2⟩ := ih h3
    refine ⟨⟨h1, fun ha y hy => h2 ha y ?_, i1⟩, i2⟩
    cases r with
    | nil => simp at hy
    | cons b t => simpa using hy

theorem sw0 (r : List UInt8) : wordW ([45, 62] ++ ([] ++ r)) = ⟨4, [45, 62], 0, 2, 0⟩ := by kernel_rfl
theorem sw1 (r : List UInt8) : wordW ([58, 61] ++ ([] ++ r)) = ⟨4, [58, 61], 0, 2, 0⟩ := by kernel_rfl
theorem sw2 (r : List UInt8) : wordW ([123] ++ ([] ++ r)) = ⟨4, [123], 0, 1, 0⟩ := by kernel_rfl
theorem sw3 (r : List UInt8) : wordW ([125] ++ ([] ++ r)) = ⟨4, [125], 0, 1, 0⟩ := by kernel_rfl
theorem sw4 (r : List UInt8) : wordW ([60] ++ ([] ++ r)) = ⟨4, [60], 0, 1, 0⟩ := by kernel_rfl
theorem sw5 (r : List UInt8) : wordW ([62] ++ ([] ++ r)) = ⟨4, [62], 0, 1, 0⟩ := by kernel_rfl
theorem sw6 (r : List UInt8) : wordW ([44] ++ ([] ++ r)) = ⟨4, [44], 0, 1, 0⟩ := by kernel_rfl
theorem sw7 (r : List UInt8) (h : r.head? ≠ some 61) : wordW ([58] ++ ([] ++ r)) = ⟨4, [58], 0, 1, 0⟩ := by
  show signW (58 :: r) = _
  have e : signs.find? (fun x => Lib.hasPrefix (58 :: r) x) = some [58] := by
    unfold Lib.hasPrefix
    cases r with
    | nil => kernel_rfl
    | cons d t =>
      have hd : ((61 : UInt8) == d) = false := by
        rw [beq_eq_false_iff_ne]; intro e; exact h (by rw [← e]; rfl)
      simp [signs, List.find?_cons, List.isPrefixOf, hd]
  unfold signW; rw [e]; rfl
theorem sw8 (r : List UInt8) : wordW ([40] ++ ([] ++ r)) = ⟨4, [40], 0, 1, 0⟩ := by kernel_rfl
theorem sw9 (r : List UInt8) : wordW ([41] ++ ([] ++ r)) = ⟨4, [41], 0, 1, 0⟩ := by kernel_rfl
theorem sw10 (r : List UInt8) : wordW ([46] ++ ([] ++ r)) = ⟨4, [46], 0, 1, 0⟩ := by kernel_rfl
theorem sw11 (r : List UInt8) : wordW ([36] ++ ([] ++ r)) = ⟨4, [36], 0, 1, 0⟩ := by kernel_rfl
theorem sw12 (r : List UInt8) : wordW ([124] ++ ([] ++ r)) = ⟨4, [124], 0, 1, 0⟩ := by kernel_rfl
theorem sw13 (r : List UInt8) : wordW ([61] ++ ([] ++ r)) = ⟨4, [61], 0, 1, 0⟩ := by kernel_rfl
theorem sw14 (r : List UInt8) : wordW ([59] ++ ([] ++ r)) = ⟨4, [59], 0, 1, 0⟩ := by kernel_rfl

theorem sign_word (x r : List UInt8) (hx : x ∈ signs) (h : x = [58] → r.head? ≠ some 61) : wordW (x ++ ([] ++ r)) = ⟨4, x, 0, x.length, 0⟩ := by
  simp only [signs, List.mem_cons, List.mem_nil_iff, or_false] at hx
  rcases hx with rfl | rfl | rfl | rfl | rfl | rfl | rfl | rfl | rfl | rfl | rfl | rfl | rfl | rfl | rfl
  · exact sw0 r
  · exact sw1 r
  · exact sw2 r
  · exact sw3 r
  · exact sw4 r
  · exact sw5 r
  · exact sw6 r
  · exact sw7 r (h rfl)
  · exact sw8 r
  · exact sw9 r
  · exact sw10 r
  · exact sw11 r
  · exact sw12 r
  · exact sw13 r
  · exact sw14 r
theorem sign_head (x : List UInt8) (hx : x ∈ signs) : ∃ c t, x = c :: t ∧ isB c = false ∧ t.length ≤ 1 := by
  simp only [signs, List.mem_cons, List.mem_nil_iff, or_false] at hx
  rcases hx with rfl | rfl | rfl | rfl | rfl | rfl | rfl | rfl | rfl | rfl | rfl | rfl | rfl | rfl | rfl
  all_goals exact ⟨_, _, rfl, by decide, by decide⟩
theorem eq_only (x : List UInt8) (hx : x ∈ signs) (h : x.head? = some 61) : x = [61] := by
  simp only [signs, List.mem_cons, List.mem_nil_iff, or_false] at hx
  rcases hx with rfl | rfl | rfl | rfl | rfl | rfl | rfl | rfl | rfl | rfl | rfl | rfl | rfl | rfl | rfl
  all_goals first | rfl | (exfalso; revert h; decide)

def sgT : List (List UInt8) → Nat → List T
  | [], _ => []
  | x :: r, i => ⟨4, x, 0, i⟩ :: sgT r (i + x.length)
theorem sgT_len (ws : List (List UInt8)) : ∀ i, (sgT ws i).length = ws.length := by
  induction ws with
  | nil => intro i; rfl
  | cons x r ih => intro i; simp [sgT, ih]
/-- The place of the word after p words. -/
def sgAt (ws : List (List UInt8)) (p : Nat) : Nat := ((ws.take p).map List.length).sum
theorem sgT_get (ws : List (List UInt8)) : ∀ (i p : Nat) (h : p < ws.length), (sgT ws i)[p]'(by rw [sgT_len]; exact h) = ⟨4, ws[p], 0, i + sgAt ws p⟩ := by
  induction ws with
  | nil => intro i p h; simp at h
  | cons x r ih =>
    intro i p h
    cases p with
    | zero => simp [sgT, sgAt]
    | succ p =>
      simp only [sgT, List.getElem_cons_succ]
      rw [ih (i + x.length) p (by simpa using h)]
      simp [sgAt, Nat.add_assoc]
theorem sgAt_succ (ws : List (List UInt8)) (p : Nat) (h : p < ws.length) : sgAt ws (p + 1) = sgAt ws p + ws[p].length := by
  unfold sgAt
  rw [List.take_succ_eq_append_getElem h, List.map_append, List.sum_append]; simp
theorem sgAt_le (ws : List (List UInt8)) (h : ∀ x ∈ ws, x.length ≤ 2) (p : Nat) : sgAt ws p ≤ 2 * ws.length := by
  induction ws generalizing p with
  | nil => simp [sgAt]
  | cons x r ih =>
    cases p with
    | zero => simp [sgAt]
    | succ p =>
      have := ih (fun y hy => h y (by simp [hy])) p
      have hx := h x (by simp)
      simp only [sgAt, List.take_succ_cons, List.map_cons, List.sum_cons, List.length_cons] at this ⊢
      omega

theorem canon_mem (ws : List (List UInt8)) (h : Canon ws) : ∀ x ∈ ws, x ∈ signs := by
  induction ws with
  | nil => intro x hx; simp at hx
  | cons a r ih =>
    intro x hx
    rcases List.mem_cons.1 hx with rfl | hx
    · exact h.1
    · exact ih h.2.2 x hx
theorem sign_len2 (x : List UInt8) (hx : x ∈ signs) : 1 ≤ x.length ∧ x.length ≤ 2 := by
  obtain ⟨c, t, rfl, _, ht⟩ := sign_head x hx
  simp; omega
theorem flat_len (ws : List (List UInt8)) (h : Canon ws) : ws.flatten.length ≤ 2 * ws.length := by
  induction ws with
  | nil => simp
  | cons a r ih =>
    have := ih h.2.2
    have := (sign_len2 a h.1).2
    simp only [List.flatten_cons, List.length_append, List.length_cons]; omega
theorem flat_bsz (ws : List (List UInt8)) (h : Canon ws) : bsz ws.flatten = 0 := by
  cases ws with
  | nil => rfl
  | cons a r =>
    obtain ⟨c, t, rfl, hb, _⟩ := sign_head a h.1
    simp [bsz, hb]
theorem flat_head (ws : List (List UInt8)) (h : Canon ws) : ws.flatten.head? = some 61 → ∃ y, ws.head? = some y ∧ y.head? = some 61 := by
  intro hh
  cases ws with
  | nil => simp at hh
  | cons a r =>
    obtain ⟨c, t, rfl, _, _⟩ := sign_head a h.1
    refine ⟨_, rfl, ?_⟩
    simpa using hh
theorem sg_tk (ws : List (List UInt8)) : ∀ (h : Canon ws) (i : Nat) (acc : List T), tk ws.flatten i acc = (0, acc ++ sgT ws i) := by
  induction ws with
  | nil => intro _ i acc; simp [sgT, tk_nil]
  | cons a r ih =>
    intro h i acc
    have hw := sign_word a r.flatten h.1 (fun ha hh => by
      obtain ⟨y, hy1, hy2⟩ := flat_head r h.2.2 hh
      exact h.2.1 ha y hy1 hy2)
    have e := tk_word a [] r.flatten i acc 4 a 0 (by have := sign_len2 a h.1; omega) hw (flat_bsz r h.2.2)
    rw [List.flatten_cons]
    refine (show tk (a ++ ([] ++ r.flatten)) i acc = _ from e).trans ?_
    rw [ih h.2.2]
    simp [sgT]
theorem sg_toks (ws : List (List UInt8)) (h : Canon ws) (hl : ws.length ≤ 50) : toks ws.flatten = (0, sgT ws 0) := by
  refine toks_of _ _ (by have := flat_len ws h; omega) ?_ (by rw [sgT_len]; omega)
  rw [flat_bsz ws h, List.drop_zero, sg_tk ws h]; rfl
end Sc
end Go.Proofs.YtaillpnjknnhdaaDoor
