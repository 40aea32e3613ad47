/- ScanNumbers: what the words of its sources come to. -/
import Derived.Test.YtaillpnjknnhdaaDoorTk
import Derived.KernelRfl
namespace Go.Proofs.YtaillpnjknnhdaaDoor
namespace Sc

def vl (acc : Nat) : List UInt8 → Nat
  | [] => acc
  | c :: r => vl (acc * 10 + (c.toNat - 48)) r
theorem vl_nil (acc : Nat) : vl acc [] = acc := rfl
theorem pU_nil (M acc : Nat) : Lib.parseUintM M acc [] = .ok acc := by unfold Lib.parseUintM; rfl
theorem vl_ge (l : List UInt8) : ∀ acc, acc ≤ vl acc l := by
  induction l with
  | nil => intro acc; exact Nat.le_refl _
  | cons c r ih => intro acc; exact Nat.le_trans (by omega) (ih _)
theorem vl_acc (l : List UInt8) : ∀ acc, vl acc l = acc * 10 ^ l.length + vl 0 l := by
  induction l with
  | nil => intro acc; show acc = acc * 10 ^ 0 + 0; rw [Nat.pow_zero, Nat.mul_one, Nat.add_zero]
  | cons c r ih =>
    intro acc
    show vl (acc * 10 + (c.toNat - 48)) r = acc * 10 ^ (r.length + 1) + vl (0 * 10 + (c.toNat - 48)) r
    rw [ih (acc * 10 + (c.toNat - 48)), ih (0 * 10 + (c.toNat - 48)), Nat.pow_succ]
    generalize 10 ^ r.length = p
    generalize c.toNat - 48 = d
    generalize vl 0 r = v
    rw [Nat.add_mul, Nat.add_mul, Nat.mul_comm p 10, ← Nat.mul_assoc, Nat.zero_mul]
    omega
/-- One digit more, in bounds. -/
theorem parse_step (M acc : Nat) (c : UInt8) (r : List UInt8) (hc : 48 ≤ c.toNat ∧ c.toNat ≤ 57) (e1 : ¬ 1844674407370955162 ≤ acc) (e2 : ¬ M < acc * 10 + (c.toNat - 48)) :
    Lib.parseUintM M acc (c :: r) = Lib.parseUintM M (acc * 10 + (c.toNat - 48)) r := by
  rw [Lib.parseUintM, if_pos hc, if_neg e1, if_neg e2]
theorem bound_step (M acc d v : Nat) (hM : 9223372036854775808 ≤ M) (hv : v ≤ 9223372036854775808) (hg : acc * 10 + d ≤ v) : ¬ 1844674407370955162 ≤ acc ∧ ¬ M < acc * 10 + d := by omega
theorem parse_vl (M : Nat) (hM : 9223372036854775808 ≤ M) : ∀ (l : List UInt8) (acc : Nat), (∀ c ∈ l, isD c = true) → vl acc l ≤ 9223372036854775808 → Lib.parseUintM M acc l = .ok (vl acc l)
  | [], acc, _, _ => pU_nil M acc
  | c :: r, acc, hd, hv => by
    have hc := hd c (by simp)
    have hc' : 48 ≤ c.toNat ∧ c.toNat ≤ 57 := by
      unfold isD at hc
      simpa using hc
    rw [show vl acc (c :: r) = vl (acc * 10 + (c.toNat - 48)) r from rfl] at hv ⊢
    have hg := vl_ge r (acc * 10 + (c.toNat - 48))
    obtain ⟨e1, e2⟩ := bound_step M acc (c.toNat - 48) _ hM hv hg
    rw [parse_step M acc c r hc' e1 e2]
    exact parse_vl M hM r _ (fun x hx => hd x (by simp [hx])) hv

theorem dsz_all (l b : List UInt8) (h : ∀ c ∈ l, isD c = true) (hb : dsz b = 0) : dsz (l ++ b) = l.length := by
  induction l with
  | nil => exact hb
  | cons c r ih =>
    simp only [List.cons_append, dsz, h c (by simp), if_true, List.length_cons]
    rw [ih fun x hx => h x (by simp [hx])]

theorem digit_not (c : UInt8) (h : isD c = true) : c.toNat ≠ 34 ∧ c.toNat ≠ 45 ∧ c.toNat ≠ 43 ∧ isB c = false := by
  unfold isD at h
  simp only [Bool.and_eq_true, decide_eq_true_eq] at h
  refine ⟨by omega, by omega, by omega, ?_⟩
  unfold isB; simp; omega

/-- A number without a sign ahead. -/
theorem num_plus (l b : List UInt8) (h : ∀ c ∈ l, isD c = true) (hb : dsz b = 0) (h1 : 0 < l.length) (h19 : l.length ≤ 19) (hv : vl 0 l ≤ 9223372036854775807) :
    wordW (l ++ b) = ⟨3, [], (vl 0 l : Nat), l.length, 0⟩ := by
  match l, h1 with
  | c :: r, _ =>
    have hc := h c (by simp)
    obtain ⟨n1, n2, n3, _⟩ := digit_not c hc
    have hds := dsz_all (c :: r) b h hb
    simp only [List.cons_append] at hds ⊢
    rw [show wordW (c :: (r ++ b)) = (if c.toNat = 34 then quotW (c :: (r ++ b)) else if c.toNat = 45 then (if dsz (r ++ b) = 0 then signW (c :: (r ++ b)) else numW (c :: (r ++ b)))
      else if isD c then numW (c :: (r ++ b)) else if isL c then nameW (c :: (r ++ b)) else signW (c :: (r ++ b))) from rfl]
    rw [if_neg n1, if_neg n2, if_pos hc, numW_plain c _ n2, hds, if_neg (by omega)]
    have ht : (c :: (r ++ b)).take (c :: r).length = c :: r := by
      rw [← List.cons_append, List.take_left]
    have hp := parse_vl (2 ^ 64 - 1) (by decide) (c :: r) 0 h (by omega)
    have hpi : Lib.parseIntB 64 (c :: r) = .ok ((vl 0 (c :: r) : Nat) : Int) := by
      unfold Lib.parseIntB
      simp only [n2, n3, or_self, if_false]
      rw [Lib.parseUintB, if_neg (by simp), hp]
      simp only
      rw [if_neg (by simp; omega)]
      simp
    rw [ht, hpi]

/-- A number with a sign ahead. -/
theorem num_minus (l b : List UInt8) (h : ∀ c ∈ l, isD c = true) (hb : dsz b = 0) (h1 : 0 < l.length) (h19 : l.length ≤ 19) (hv : vl 0 l ≤ 9223372036854775808) :
    wordW ((45 :: l) ++ b) = ⟨3, [], -((vl 0 l : Nat) : Int), (45 :: l).length, 0⟩ := by
  have hds := dsz_all l b h hb
  simp only [List.cons_append]
  rw [show wordW (45 :: (l ++ b)) = (if dsz (l ++ b) = 0 then signW (45 :: (l ++ b)) else numW (45 :: (l ++ b))) from rfl]
  rw [if_neg (by omega), numW_minus 45 _ (by decide), hds, if_neg (by omega)]
  have ht : (45 :: (l ++ b)).take (1 + l.length) = 45 :: l := by
    rw [Nat.add_comm, List.take_succ_cons, List.take_left]
  have hp := parse_vl (2 ^ 64 - 1) (by decide) l 0 h hv
  have hpi : Lib.parseIntB 64 (45 :: l) = .ok (-((vl 0 l : Nat) : Int)) := by
    unfold Lib.parseIntB
    simp only [show (45 : UInt8).toNat = 45 from rfl, or_true, if_true]
    rw [Lib.parseUintB, if_neg (by intro e; rw [e] at h1; simp at h1), hp]
    simp only
    rw [if_neg (by simp), if_neg (by simp; omega)]
  rw [ht, hpi]
  simp; omega
end Sc
end Go.Proofs.YtaillpnjknnhdaaDoor
