/- TextJoins: the pure part: the parts of two texts put together. -/
import Derived.Test.YtjcmfgloojgknaaTLaw
namespace Go.Proofs.Ytjcmfgloojgknaa
namespace Tx

theorem ins_append (t : List UInt8) : ∀ (l : List UInt8) (q e : Bool) (n : Nat), insF q e l = some n → insF q e (l ++ t) = some n
  | [], _, _, _, h => by simp [insF] at h
  | c :: r, q, e, n, h => by
    have hm : ∀ q e, (insF q e r).map (· + 1) = some n → (insF q e (r ++ t)).map (· + 1) = some n := by
      intro q e h
      cases hx : insF q e r with
      | none => rw [hx] at h; simp at h
      | some m => rw [hx] at h; rw [ins_append t r q e m hx]; exact h
    rw [List.cons_append]
    unfold insF at h ⊢
    split at h
    · rename_i h1; rw [if_pos h1]; exact hm _ _ h
    · rename_i h1
      rw [if_neg h1]
      split at h
      · rename_i h2; rw [if_pos h2]; exact hm _ _ h
      · rename_i h2
        rw [if_neg h2]
        split at h
        · rename_i h3; rw [if_pos h3]; exact hm _ _ h
        · rename_i h3
          rw [if_neg h3]
          split at h
          · rename_i h4
            have h5 : two 125 (c :: (r ++ t)) = true := by
              cases r with
              | nil => simp [two] at h4
              | cons d r => simpa [two] using h4
            rw [if_pos h5]; exact h
          · rename_i h4
            have hn := hm _ _ h
            by_cases h5 : two 125 (c :: (r ++ t)) = true
            · exfalso
              cases r with
              | nil => simp [insF] at h
              | cons d r => exact h4 (by simpa [two] using h5)
            · rw [if_neg h5]; exact hn

theorem two_append (b : Nat) (l t : List UInt8) (h : two b l = true) : two b (l ++ t) = true := by
  match l, h with
  | c :: d :: r, h => simpa [two] using h
theorem part_act_append (s t : List UInt8) (h : two 123 s = true) (a : Bool) (x : List UInt8) (n : Nat) (hp : partL s = some (a, x, n)) : partL (s ++ t) = some (a, x, n) ∧ a = true := by
  unfold partL at hp
  rw [if_pos h] at hp
  cases hi : insF false false (s.drop 2) with
  | none => rw [hi] at hp; simp at hp
  | some m =>
    rw [hi] at hp
    simp only [Option.some.injEq, Prod.mk.injEq] at hp
    obtain ⟨rfl, rfl, rfl⟩ := hp
    have h2 := two_len _ _ h
    have h3 := ins_lt _ _ _ _ hi
    have e : (s ++ t).drop 2 = s.drop 2 ++ t := List.drop_append_of_le_length h2
    rw [partL_some _ (two_append _ _ t h) m (by rw [e]; exact ins_append t _ _ _ _ hi), e, List.take_append_of_le_length (by omega)]
    exact ⟨rfl, rfl⟩
/-- Ahead of the end of the first text its first braces stand where they stood. -/
theorem idx_append (t : List UInt8) : ∀ s : List UInt8, idx2 s < s.length → idx2 (s ++ t) = idx2 s
  | [], h => by simp [idx2] at h
  | c :: r, h => by
    rw [List.cons_append]
    cases h2 : two 123 (c :: r) with
    | true => rw [idx_zero _ h2, idx_zero _ (by rw [← List.cons_append]; exact two_append _ _ t h2)]
    | false =>
      rw [idx_step c r h2] at h ⊢
      simp only [List.length_cons] at h
      have h3 : two 123 (c :: (r ++ t)) = false := by
        cases r with
        | nil => simp [idx2] at h
        | cons d r => simpa [two] using h2
      rw [idx_step _ _ h3, idx_append t r (by omega)]
/-- A text without braces, that ends with none, ahead of another one. -/
theorem idx_whole (t : List UInt8) : ∀ s : List UInt8, idx2 s = s.length → s.getLast? ≠ some 123 → idx2 (s ++ t) = s.length + idx2 t
  | [], _, _ => by simp
  | [c], h, hl => by
    have hc : c.toNat ≠ 123 := by
      intro e
      have : c = 123 := UInt8.toNat_inj.1 e
      exact hl (by simp [this])
    rw [List.singleton_append, idx_step _ _ (two_ne _ _ _ hc)]; simp; omega
  | c :: d :: r, h, hl => by
    have h2 : two 123 (c :: d :: r) = false := by
      cases hx : two 123 (c :: d :: r) with
      | false => rfl
      | true => rw [idx_zero _ hx] at h; simp at h
    rw [idx_step _ _ h2] at h
    have ih := idx_whole t (d :: r) (by simpa using h) (by simpa using hl)
    have h3 : two 123 (c :: ((d :: r) ++ t)) = false := by simpa [two] using h2
    rw [List.cons_append, idx_step _ _ h3, ih]
    simp; omega

/-- The parts of two texts, put together: texts that meet are one. -/
def mergeP : List P → List P → List P
  | [], ys => ys
  | [x], [] => [x]
  | [x], y :: ys => if !x.act && !y.act then ⟨false, x.s ++ y.s, x.at_⟩ :: ys else x :: y :: ys
  | x :: x2 :: xs, ys => x :: mergeP (x2 :: xs) ys
theorem merge_cons (x : P) (xs ys : List P) (h : 0 < xs.length) : mergeP (x :: xs) ys = x :: mergeP xs ys := by
  cases xs with
  | nil => simp at h
  | cons a b => rfl

theorem raw_append (t : List UInt8) : ∀ (n : Nat) (s : List UInt8) (i : Nat) (xs ys : List P), s.length ≤ n → s.getLast? ≠ some 123 →
    rawW s i = some xs → rawW t (i + s.length) = some ys → rawW (s ++ t) i = some (mergeP xs ys)
  | n, s, i, xs, ys, hn, hl, hx, hy => by
    by_cases h0 : s.length = 0
    · obtain rfl := List.eq_nil_of_length_eq_zero h0
      rw [raw_nil] at hx
      obtain rfl := (Option.some.inj hx).symm
      simpa [mergeP] using hy
    · cases hp : partL s with
      | none => rw [raw_none s i (by omega) hp] at hx; simp at hx
      | some r =>
        obtain ⟨a, x, m⟩ := r
        have h1 := part_size s a x m (by omega) hp
        rw [raw_some s i (by omega) a x m hp] at hx
        cases hr : rawW (s.drop m) (i + m) with
        | none => rw [hr] at hx; simp at hx
        | some zs =>
          rw [hr] at hx
          simp only [Option.map_some, Option.some.injEq] at hx
          subst hx
          have hap : 1 ≤ (s ++ t).length := by rw [List.length_append]; omega
          cases n with
          | zero => omega
          | succ n =>
            by_cases hm : m < s.length
            · -- something of s stands behind the part
              have hpart : partL (s ++ t) = some (a, x, m) := by
                cases h2 : two 123 s with
                | true => exact (part_act_append s t h2 a x m hp).1
                | false =>
                  rw [partL_text _ h2] at hp
                  simp only [Option.some.injEq, Prod.mk.injEq] at hp
                  obtain ⟨rfl, rfl, rfl⟩ := hp
                  have hi := idx_append t s hm
                  have h3 : two 123 (s ++ t) = false := idx_no _ (by rw [hi]; exact h1.1)
                  rw [partL_text _ h3, hi, List.take_append_of_le_length h1.2.1]
              rw [raw_some _ i hap _ _ _ hpart, List.drop_append_of_le_length h1.2.1]
              have hzl : 0 < zs.length := by
                cases zs with
                | nil =>
                  have := (raw_join _ _ _ _ (Nat.le_refl _) hr).1
                  have h4 : (s.drop m).length = s.length - m := List.length_drop
                  rw [← this] at h4
                  simp [joinL] at h4; omega
                | cons _ _ => simp
              have hgl : (s.drop m).getLast? = s.getLast? := by rw [List.getLast?_drop, if_neg (by omega)]
              rw [raw_append t n (s.drop m) (i + m) zs ys (by rw [List.length_drop]; omega) (by rw [hgl]; exact hl) hr (by rw [List.length_drop, show i + m + (s.length - m) = i + s.length by omega]; exact hy)]
              rw [merge_cons _ _ _ hzl]; rfl
            · have hms : m = s.length := by omega
              have hz : zs = [] := by
                rw [List.drop_of_length_le (by omega), raw_nil] at hr
                exact (Option.some.inj hr).symm
              subst hz
              cases h2 : two 123 s with
              | true =>
                obtain ⟨hpart, ha⟩ := part_act_append s t h2 a x m hp
                rw [raw_some _ i hap _ _ _ hpart, List.drop_append_of_le_length h1.2.1, List.drop_of_length_le (by omega), List.nil_append, hms, hy]
                subst ha
                cases ys with
                | nil => rfl
                | cons y ys => rfl
              | false =>
                rw [partL_text _ h2] at hp
                simp only [Option.some.injEq, Prod.mk.injEq] at hp
                obtain ⟨rfl, rfl, hi⟩ := hp
                rw [hms] at hi
                have hw := idx_whole t s hi hl
                have hxs : s.take (idx2 s) = s := by rw [hi]; exact List.take_length
                rw [hxs]
                by_cases ht : t.length = 0
                · obtain rfl := List.eq_nil_of_length_eq_zero ht
                  rw [raw_nil] at hy
                  obtain rfl := (Option.some.inj hy).symm
                  rw [List.append_nil, raw_some s i (by omega) false s s.length (by rw [partL_text _ h2, hxs, hi]), List.drop_length, raw_nil]
                  rfl
                · have h3 : two 123 (s ++ t) = false := idx_no _ (by rw [hw]; omega)
                  have hpart := partL_text _ h3
                  rw [hw] at hpart
                  have etake : (s ++ t).take (s.length + idx2 t) = s ++ t.take (idx2 t) := by rw [List.take_append, List.take_of_length_le (by omega), show s.length + idx2 t - s.length = idx2 t by omega]
                  have edrop : (s ++ t).drop (s.length + idx2 t) = t.drop (idx2 t) := by rw [List.drop_append, List.drop_of_length_le (by omega), show s.length + idx2 t - s.length = idx2 t by omega, List.nil_append]
                  rw [raw_some _ i hap _ _ _ hpart, etake, edrop]
                  cases h5 : two 123 t with
                  | true =>
                    rw [idx_zero _ h5, List.take_zero, List.append_nil, Nat.add_zero, List.drop_zero, hy]
                    cases ys with
                    | nil => rfl
                    | cons y ys =>
                      have : y.act = true := by
                        cases hpt : partL t with
                        | none => rw [raw_none t _ (by omega) hpt] at hy; simp at hy
                        | some r =>
                          obtain ⟨a2, x2, m2⟩ := r
                          rw [raw_some t _ (by omega) _ _ _ hpt] at hy
                          have ha2 := (part_act_append t [] h5 a2 x2 m2 hpt).2
                          cases hr2 : rawW (t.drop m2) (i + s.length + m2) with
                          | none => rw [hr2] at hy; simp at hy
                          | some q =>
                            rw [hr2] at hy
                            simp only [Option.map_some, Option.some.injEq, List.cons.injEq] at hy
                            rw [← hy.1]; exact ha2
                      simp [mergeP, this]
                  | false =>
                    have hpt := partL_text _ h5
                    rw [raw_some t _ (by omega) _ _ _ hpt] at hy
                    rw [← Nat.add_assoc]
                    cases hr2 : rawW (t.drop (idx2 t)) (i + s.length + idx2 t) with
                    | none => rw [hr2] at hy; simp at hy
                    | some q =>
                      rw [hr2] at hy
                      simp only [Option.map_some, Option.some.injEq] at hy
                      rw [← hy]
                      rfl
end Tx
end Go.Proofs.Ytjcmfgloojgknaa
