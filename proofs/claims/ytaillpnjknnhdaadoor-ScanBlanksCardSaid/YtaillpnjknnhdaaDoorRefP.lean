/- The document's words again, as package sprueref1 reads them: numbers, quoted texts, signs. No program is named here. -/
import Derived.Test.YtaillpnjknnhdaaDoorNumbersQ
import Derived.Test.YtaillpnjknnhdaaDoorSignsP
import Derived.Test.YtaillpnjknnhdaaDoorNamesP
namespace Go.Proofs.YtaillpnjknnhdaaDoor
namespace Sc

def numE (neg : Bool) (l : List UInt8) : Nat := if 19 < l.length then 4 else if neg then (if 9223372036854775808 < vl 0 l then 11 else 0) else (if 9223372036854775807 < vl 0 l then 11 else 0)
def numN (neg : Bool) (l : List UInt8) : Int := if numE neg l = 0 then numVal neg l else 0

theorem vl_snoc (l : List UInt8) (c : UInt8) : ∀ acc, vl acc (l ++ [c]) = vl acc l * 10 + (c.toNat - 48) := by
  induction l with
  | nil => intro acc; rfl
  | cons x r ih => intro acc; exact ih _
theorem vl_lt (l : List UInt8) (h : ∀ c ∈ l, isD c = true) : vl 0 l < 10 ^ l.length := by
  induction l with
  | nil => exact (by decide : 0 < 1)
  | cons c r ih =>
    have hc := h c (by simp)
    unfold isD at hc
    simp only [Bool.and_eq_true, decide_eq_true_eq] at hc
    have hr := ih fun x hx => h x (by simp [hx])
    show vl (0 * 10 + (c.toNat - 48)) r < 10 ^ (r.length + 1)
    rw [vl_acc, Nat.pow_succ]
    generalize 10 ^ r.length = p at *
    generalize vl 0 r = v at *
    have h9 : 0 * 10 + (c.toNat - 48) ≤ 9 := by omega
    generalize 0 * 10 + (c.toNat - 48) = d at *
    have := Nat.mul_le_mul_right p h9
    omega
theorem vl_take_lt (l : List UInt8) (k : Nat) (h : ∀ c ∈ l, isD c = true) (hk : k ≤ 18) : vl 0 (l.take k) < 1000000000000000000 := by
  have h1 := vl_lt (l.take k) (fun c hc => h c (List.mem_of_mem_take hc))
  have h2 : 10 ^ (l.take k).length ≤ 10 ^ 18 := Nat.pow_le_pow_right (by decide) (by rw [List.length_take]; omega)
  have h3 : (10 : Nat) ^ 18 = 1000000000000000000 := by decide
  omega
theorem vl_lt19 (l : List UInt8) (h : ∀ c ∈ l, isD c = true) (hk : l.length ≤ 19) : vl 0 l < 10000000000000000000 := by
  have h1 := vl_lt l h
  have h2 : 10 ^ l.length ≤ 10 ^ 19 := Nat.pow_le_pow_right (by decide) hk
  have h3 : (10 : Nat) ^ 19 = 10000000000000000000 := by decide
  omega

theorem bound_step19 (M acc d v : Nat) (hM : 10000000000000000000 ≤ M) (hv : v < 10000000000000000000) (hg : acc * 10 + d ≤ v) : ¬ 1844674407370955162 ≤ acc ∧ ¬ M < acc * 10 + d := by omega
theorem parse_vl19 (M : Nat) (hM : 10000000000000000000 ≤ M) : ∀ (l : List UInt8) (acc : Nat), (∀ c ∈ l, isD c = true) → vl acc l < 10000000000000000000 → Lib.parseUintM M acc l = .ok (vl acc l)
  | [], acc, _, _ => pU_nil M acc
  | c :: r, acc, hd, hv => by
    have hc := hd c (by simp)
    have hc' : 48 ≤ c.toNat ∧ c.toNat ≤ 57 := by
      unfold isD at hc
      simpa using hc
    rw [show vl acc (c :: r) = vl (acc * 10 + (c.toNat - 48)) r from rfl] at hv ⊢
    have hg := vl_ge r (acc * 10 + (c.toNat - 48))
    obtain ⟨e1, e2⟩ := bound_step19 M acc (c.toNat - 48) _ hM hv hg
    rw [parse_step M acc c r hc' e1 e2]
    exact parse_vl19 M hM r _ (fun x hx => hd x (by simp [hx])) hv

theorem dsz_take (l : List UInt8) : (∀ c ∈ l.take (dsz l), isD c = true) ∧ (l.take (dsz l)).length = dsz l := by
  refine ⟨?_, by rw [List.length_take]; have := dsz_le l; omega⟩
  induction l with
  | nil => intro c h; simp at h
  | cons x r ih =>
    intro c hc
    by_cases hx : isD x = true
    · simp only [dsz, hx, if_true, List.take_succ_cons, List.mem_cons] at hc
      rcases hc with rfl | hc
      · exact hx
      · exact ih c hc
    · simp only [dsz, hx, if_false, List.take_zero] at hc
      simp at hc

/-- What number comes to, without a sign ahead. -/
theorem numW_E (c : UInt8) (t : List UInt8) (hc : isD c = true) : (numW (c :: t)).e = numE false ((c :: t).take (dsz (c :: t))) ∧
    (numE false ((c :: t).take (dsz (c :: t))) = 0 → numW (c :: t) = ⟨3, [], numN false ((c :: t).take (dsz (c :: t))), dsz (c :: t), 0⟩) := by
  obtain ⟨n1, n2, n3, _⟩ := digit_not c hc
  obtain ⟨hd, hl⟩ := dsz_take (c :: t)
  have hpos : 1 ≤ dsz (c :: t) := by simp [dsz, hc]
  rw [numW_plain c t n2]
  have hform : ∃ r, (c :: t).take (dsz (c :: t)) = c :: r := by
    obtain ⟨k, hk⟩ : ∃ k, dsz (c :: t) = k + 1 := ⟨dsz (c :: t) - 1, by omega⟩
    rw [hk]; exact ⟨_, rfl⟩
  obtain ⟨r, hr⟩ := hform
  by_cases h19 : 19 < dsz (c :: t)
  · rw [if_pos h19]
    have hE : numE false ((c :: t).take (dsz (c :: t))) = 4 := by unfold numE; rw [if_pos (by omega)]
    rw [hE]
    exact ⟨rfl, fun h => by cases h⟩
  · rw [if_neg h19]
    have hv := vl_lt19 _ hd (by omega)
    have hp := parse_vl19 (2 ^ 64 - 1) (by decide) _ 0 hd hv
    have hpi : Lib.parseIntB 64 ((c :: t).take (dsz (c :: t))) = if 9223372036854775807 < vl 0 ((c :: t).take (dsz (c :: t))) then .range else .ok ((vl 0 ((c :: t).take (dsz (c :: t))) : Nat) : Int) := by
      rw [hr] at hp ⊢
      unfold Lib.parseIntB
      simp only [n2, n3, or_self, if_false]
      rw [Lib.parseUintB, if_neg (by simp), hp]
      simp only
      by_cases hb : 9223372036854775807 < vl 0 (c :: r)
      · rw [if_pos hb, if_pos (by simp; omega)]
      · rw [if_neg hb, if_neg (by simp; omega)]; simp
    rw [hpi]
    by_cases hb : 9223372036854775807 < vl 0 ((c :: t).take (dsz (c :: t)))
    · have hE : numE false ((c :: t).take (dsz (c :: t))) = 11 := by unfold numE; rw [if_neg (by omega), if_neg (by decide), if_pos hb]
      rw [if_pos hb, hE]
      exact ⟨rfl, fun h => by cases h⟩
    · have hE : numE false ((c :: t).take (dsz (c :: t))) = 0 := by unfold numE; rw [if_neg (by omega), if_neg (by decide), if_neg hb]
      rw [if_neg hb, hE]
      refine ⟨rfl, fun _ => ?_⟩
      unfold numN; rw [hE, if_pos rfl]; rfl

/-- .. and with a sign ahead. -/
theorem numW_M (t : List UInt8) (hc : 0 < dsz t) : (numW (45 :: t)).e = numE true (t.take (dsz t)) ∧
    (numE true (t.take (dsz t)) = 0 → numW (45 :: t) = ⟨3, [], numN true (t.take (dsz t)), 1 + dsz t, 0⟩) := by
  obtain ⟨hd, hl⟩ := dsz_take t
  rw [numW_minus 45 t (by decide)]
  by_cases h19 : 19 < dsz t
  · rw [if_pos h19]
    have hE : numE true (t.take (dsz t)) = 4 := by unfold numE; rw [if_pos (by omega)]
    rw [hE]
    exact ⟨rfl, fun h => by cases h⟩
  · rw [if_neg h19]
    have hv := vl_lt19 _ hd (by omega)
    have hp := parse_vl19 (2 ^ 64 - 1) (by decide) _ 0 hd hv
    have ht : (45 :: t).take (1 + dsz t) = 45 :: t.take (dsz t) := by rw [Nat.add_comm, List.take_succ_cons]
    have hpi : Lib.parseIntB 64 (45 :: t.take (dsz t)) = if 9223372036854775808 < vl 0 (t.take (dsz t)) then .range else .ok (-((vl 0 (t.take (dsz t)) : Nat) : Int)) := by
      unfold Lib.parseIntB
      simp only [show (45 : UInt8).toNat = 45 from rfl, or_true, if_true]
      rw [Lib.parseUintB, if_neg (by intro e; rw [e] at hl; simp at hl; omega), hp]
      simp only
      by_cases hb : 9223372036854775808 < vl 0 (t.take (dsz t))
      · rw [if_pos hb, if_neg (by simp), if_pos (by simp; omega)]
      · rw [if_neg hb, if_neg (by simp), if_neg (by simp; omega)]
    rw [ht, hpi]
    by_cases hb : 9223372036854775808 < vl 0 (t.take (dsz t))
    · have hE : numE true (t.take (dsz t)) = 11 := by unfold numE; rw [if_neg (by omega), if_pos rfl, if_pos hb]
      rw [if_pos hb, hE]
      exact ⟨rfl, fun h => by cases h⟩
    · have hE : numE true (t.take (dsz t)) = 0 := by unfold numE; rw [if_neg (by omega), if_pos rfl, if_neg hb]
      rw [if_neg hb, hE]
      refine ⟨rfl, fun _ => ?_⟩
      unfold numN; rw [hE, if_pos rfl]; rfl

theorem find_self (c : UInt8) : ∀ l : List UInt8, c ∈ l → l.find? (fun x => x == c) = some c
  | [], h => by cases h
  | x :: r, h => by
    by_cases e : x = c
    · subst e; simp
    · have hr : c ∈ r := by rcases List.mem_cons.1 h with h | h; exact absurd h.symm e; exact h
      rw [List.find?_cons, show (x == c) = false by simpa using e]
      exact find_self c r hr
/-- The signs of one byte. -/
def ones : List UInt8 := [123, 125, 60, 62, 44, 58, 40, 41, 46, 36, 124, 61, 59]
theorem signW_two (c d : UInt8) (t : List UInt8) (h : (c = 45 ∧ d = 62) ∨ (c = 58 ∧ d = 61)) : signW (c :: d :: t) = ⟨4, [c, d], 0, 2, 0⟩ := by
  rcases h with ⟨rfl, rfl⟩ | ⟨rfl, rfl⟩ <;> kernel_rfl
theorem signW_one (c : UInt8) (r : List UInt8) (h : ∀ d t, r = d :: t → ¬ ((c = 45 ∧ d = 62) ∨ (c = 58 ∧ d = 61))) : signW (c :: r) = if c ∈ ones then ⟨4, [c], 0, 1, 0⟩ else bad 11 := by
  have e1 : Lib.hasPrefix (c :: r) [45, 62] = false := by
    unfold Lib.hasPrefix
    cases r with
    | nil => by_cases hc : (45 : UInt8) = c <;> simp [List.isPrefixOf, hc]
    | cons d t =>
      by_cases hc : (45 : UInt8) = c
      · have : ¬ (62 : UInt8) = d := fun e => h d t rfl (Or.inl ⟨hc.symm, e.symm⟩)
        simp [List.isPrefixOf, this]
      · simp [List.isPrefixOf, hc]
  have e2 : Lib.hasPrefix (c :: r) [58, 61] = false := by
    unfold Lib.hasPrefix
    cases r with
    | nil => by_cases hc : (58 : UInt8) = c <;> simp [List.isPrefixOf, hc]
    | cons d t =>
      by_cases hc : (58 : UInt8) = c
      · have : ¬ (61 : UInt8) = d := fun e => h d t rfl (Or.inr ⟨hc.symm, e.symm⟩)
        simp [List.isPrefixOf, this]
      · simp [List.isPrefixOf, hc]
  have e3 : ∀ x : UInt8, Lib.hasPrefix (c :: r) [x] = (x == c) := by
    intro x; unfold Lib.hasPrefix; simp [List.isPrefixOf]
  have hs : signs = [45, 62] :: [58, 61] :: ones.map (fun x => [x]) := rfl
  unfold signW
  rw [hs, List.find?_cons, e1, List.find?_cons, e2]
  simp only
  rw [List.find?_map]
  have e4 : ((fun x => Lib.hasPrefix (c :: r) x) ∘ fun x => [x]) = fun x => x == c := by funext x; exact e3 x
  rw [e4]
  by_cases hm : c ∈ ones
  · rw [if_pos hm]
    have : ones.find? (fun x => x == c) = some c := find_self c ones hm
    rw [this]; rfl
  · rw [if_neg hm]
    have : ones.find? (fun x => x == c) = none := by
      rw [List.find?_eq_none]; intro x hx; simp; intro e; exact hm (e ▸ hx)
    rw [this]; rfl
end Sc
end Go.Proofs.YtaillpnjknnhdaaDoor
