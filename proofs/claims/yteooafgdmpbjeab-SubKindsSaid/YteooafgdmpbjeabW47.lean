/- SubKinds: which types fit which, told by their sums; what is asked of two types, their lists and maps, an Opt. -/
import Derived.Test.YteooafgdmpbjeabW46
namespace Go.Proofs.Yteooafgdmpbjeab
open Go.RowKit
namespace Sp
open Sc
/-- What a pair asks of its two types; no pairs are noted. -/
def opF (h : Nat → Nat → Bool) (i : Nat) (x y : Kz) : Bool :=
  if y.kind = 6 ∧ x.kind ≠ 6 then h i (y.kids.getD 0 0)
  else if x.kind ≠ y.kind then false
  else if y.kind = 4 ∨ y.kind = 5 ∨ y.kind = 6 then h (x.kids.getD 0 0) (y.kids.getD 0 0)
  else if y.kind = 7 then y.names.all fun n => decide (n ∈ x.names ∧ n ∈ y.names) && h (x.kids.getD (x.names.idxOf n) 0) (y.kids.getD (y.names.idxOf n) 0)
  else if y.kind = 8 then x.names.all fun n => decide (n ∈ x.names ∧ n ∈ y.names) && h (x.kids.getD (x.names.idxOf n) 0) (y.kids.getD (y.names.idxOf n) 0)
  else true
def fitF (T : List Kz) : Nat → Nat → Nat → Bool
  | 0, _, _ => false
  | f + 1, a, b => decide (a = b) || opF (fitF T f) a (T.getD a default) (T.getD b default)
def fitT (T : List Kz) (a b : Nat) : Bool := fitF T (a + b + 1) a b
/-- Kids have lesser numbers; as many as their kind asks; no names. -/
structure NiceT (T : List Kz) : Prop where
  kids : ∀ i (h : i < T.length), ∀ j ∈ T[i].kids, j < i
  one : ∀ k ∈ T, k.kind = 4 ∨ k.kind = 5 ∨ k.kind = 6 → k.kids.length = 1
  named : ∀ k ∈ T, k.kind = 7 ∨ k.kind = 8 → k.names.length = k.kids.length
  k9 : ∀ k ∈ T, k.kind ≠ 9
theorem getD_atK {T : List Kz} {i : Nat} (h : i < T.length) : T.getD i default = T[i] := by rw [List.getD, List.getElem?_eq_getElem h]; rfl
section
variable {T : List Kz}
theorem NiceT.kid (h : NiceT T) {i j : Nat} (hi : i < T.length) (hj : j < T[i].kids.length) : T[i].kids.getD j 0 < i := by
  rw [List.getD, List.getElem?_eq_getElem hj]
  exact h.kids i hi _ (List.getElem_mem hj)
theorem NiceT.kid0 (h : NiceT T) {i : Nat} (hi : i < T.length) (hk : T[i].kind = 4 ∨ T[i].kind = 5 ∨ T[i].kind = 6) : T[i].kids.getD 0 0 < i :=
  h.kid hi (by have := h.one T[i] (List.getElem_mem hi) hk; omega)
theorem NiceT.kidN (h : NiceT T) {i : Nat} (hi : i < T.length) (hk : T[i].kind = 7 ∨ T[i].kind = 8) {n : List UInt8} (hn : n ∈ T[i].names) : T[i].kids.getD (T[i].names.idxOf n) 0 < i :=
  h.kid hi (by rw [← h.named T[i] (List.getElem_mem hi) hk]; exact List.idxOf_lt_length_of_mem hn)
theorem all_congr_mem {α : Type} {l : List α} {p q : α → Bool} (h : ∀ x ∈ l, p x = q x) : l.all p = l.all q := by
  induction l with
  | nil => rfl
  | cons a l ih => rw [List.all_cons, List.all_cons, h a List.mem_cons_self, ih fun x hx => h x (List.mem_cons_of_mem _ hx)]
/-- What a pair asks: pairs of lesser sums alone. -/
theorem opF_congr (hT : NiceT T) {h1 h2 : Nat → Nat → Bool} {a b : Nat} (ha : a < T.length) (hb : b < T.length) (hh : ∀ c d, c ≤ a → d ≤ b → c + d < a + b → h1 c d = h2 c d) : opF h1 a T[a] T[b] = opF h2 a T[a] T[b] := by
  unfold opF
  by_cases c1 : T[b].kind = 6 ∧ T[a].kind ≠ 6
  · rw [if_pos c1, if_pos c1]
    have := hT.kid0 hb (.inr (.inr c1.1))
    exact hh _ _ (Nat.le_refl _) (by omega) (by omega)
  · rw [if_neg c1, if_neg c1]
    by_cases c2 : T[a].kind ≠ T[b].kind
    · rw [if_pos c2, if_pos c2]
    · rw [if_neg c2, if_neg c2]
      have e : T[a].kind = T[b].kind := by simpa using c2
      by_cases c3 : T[b].kind = 4 ∨ T[b].kind = 5 ∨ T[b].kind = 6
      · rw [if_pos c3, if_pos c3]
        have k1 := hT.kid0 hb c3
        have k2 := hT.kid0 ha (by rw [e]; exact c3)
        exact hh _ _ (by omega) (by omega) (by omega)
      · rw [if_neg c3, if_neg c3]
        have key : ∀ n, (T[b].kind = 7 ∨ T[b].kind = 8) → (decide (n ∈ T[a].names ∧ n ∈ T[b].names) && h1 (T[a].kids.getD (T[a].names.idxOf n) 0) (T[b].kids.getD (T[b].names.idxOf n) 0)) = (decide (n ∈ T[a].names ∧ n ∈ T[b].names) && h2 (T[a].kids.getD (T[a].names.idxOf n) 0) (T[b].kids.getD (T[b].names.idxOf n) 0)) := fun n hk => by
          by_cases hn : n ∈ T[a].names ∧ n ∈ T[b].names
          · have k1 := hT.kidN ha (by rw [e]; exact hk) hn.1
            have k2 := hT.kidN hb hk hn.2
            rw [hh _ _ (by omega) (by omega) (by omega)]
          · rw [decide_eq_false hn, Bool.false_and, Bool.false_and]
        by_cases c4 : T[b].kind = 7
        · rw [if_pos c4, if_pos c4]
          exact all_congr_mem fun n _ => key n (.inl c4)
        · rw [if_neg c4, if_neg c4]
          by_cases c5 : T[b].kind = 8
          · rw [if_pos c5, if_pos c5]
            exact all_congr_mem fun n _ => key n (.inr c5)
          · rw [if_neg c5, if_neg c5]
theorem fitF_fuel (hT : NiceT T) : ∀ (f g a b : Nat), a < T.length → b < T.length → a + b < f → a + b < g → fitF T f a b = fitF T g a b
  | 0, _, _, _, _, _, h, _ => by omega
  | _ + 1, 0, _, _, _, _, _, h => by omega
  | f + 1, g + 1, a, b, ha, hb, hf, hg => by
    rw [fitF, fitF, getD_atK ha, getD_atK hb, opF_congr hT ha hb fun c d h1 h2 h3 => fitF_fuel hT f g c d (by omega) (by omega) (by omega) (by omega)]
theorem fitT_fuel (hT : NiceT T) {f a b : Nat} (ha : a < T.length) (hb : b < T.length) (hf : a + b < f) : fitF T f a b = fitT T a b := fitF_fuel hT _ _ a b ha hb hf (Nat.lt_succ_self _)
theorem fitF_grow {T' : List Kz} (hT : NiceT T) (hp : T <+: T') : ∀ (f a b : Nat), a < T.length → b < T.length → fitF T' f a b = fitF T f a b
  | 0, _, _, _, _ => rfl
  | f + 1, a, b, ha, hb => by
    have e : ∀ i (h : i < T.length), T'.getD i default = T[i] := fun i h => by
      obtain ⟨r, rfl⟩ := hp
      rw [List.getD, List.getElem?_append_left h, List.getElem?_eq_getElem h]; rfl
    rw [fitF, fitF, getD_atK ha, getD_atK hb, e a ha, e b hb, opF_congr hT ha hb fun c d h1 h2 _ => fitF_grow hT hp f c d (by omega) (by omega)]
theorem fitT_grow {T' : List Kz} (hT : NiceT T) (hp : T <+: T') {a b : Nat} (ha : a < T.length) (hb : b < T.length) : fitT T' a b = fitT T a b := fitF_grow hT hp _ a b ha hb
theorem fitT_same (a : Nat) : fitT T a a = true := by unfold fitT; rw [fitF]; simp
def FitP (T : List Kz) (p : Nat × Nat) : Prop := fitT T p.1 p.2 = true
def InvP (T : List Kz) (s : Nat) (S : List (Nat × Nat)) : Prop := ∀ p ∈ S, FitP T p ∨ s ≤ p.1 + p.2
/-- What a step answers of a pair of lesser sum. -/
def StepF (T : List Kz) (s : Nat) (h : List (Nat × Nat) → Nat → Nat → Bool × List (Nat × Nat)) (g : Nat → Nat → Bool) : Prop :=
  ∀ S c d, c < T.length → d < T.length → c + d < s → InvP T s S → (h S c d).1 = g c d ∧ ((h S c d).1 = true → ∀ p ∈ (h S c d).2, p ∈ S ∨ FitP T p)
theorem kidsL_fit {s : Nat} {h : List (Nat × Nat) → Nat → Nat → Bool × List (Nat × Nat)} {g : Nat → Nat → Bool} (hh : StepF T s h g) {x y : Kz} (hk : ∀ n, n ∈ x.names → n ∈ y.names → x.kids.getD (x.names.idxOf n) 0 < T.length ∧ y.kids.getD (y.names.idxOf n) 0 < T.length ∧ x.kids.getD (x.names.idxOf n) 0 + y.kids.getD (y.names.idxOf n) 0 < s) :
    ∀ (l : List (List UInt8)) (S : List (Nat × Nat)), InvP T s S → (kidsL h x y l S).1 = l.all (fun n => decide (n ∈ x.names ∧ n ∈ y.names) && g (x.kids.getD (x.names.idxOf n) 0) (y.kids.getD (y.names.idxOf n) 0)) ∧ ((kidsL h x y l S).1 = true → ∀ p ∈ (kidsL h x y l S).2, p ∈ S ∨ FitP T p)
  | [], S, _ => ⟨rfl, fun _ p hp => .inl hp⟩
  | n :: r, S, hS => by
    rw [kidsL, List.all_cons]
    by_cases hn : n ∈ x.names ∧ n ∈ y.names
    · rw [if_pos hn, decide_eq_true hn, Bool.true_and]
      obtain ⟨k1, k2, k3⟩ := hk n hn.1 hn.2
      obtain ⟨e1, e2⟩ := hh S _ _ k1 k2 k3 hS
      by_cases ht : (h S (x.kids.getD (x.names.idxOf n) 0) (y.kids.getD (y.names.idxOf n) 0)).1 = true
      · rw [if_pos ht]
        have e3 := e2 ht
        obtain ⟨i1, i2⟩ := kidsL_fit hh hk r (h S (x.kids.getD (x.names.idxOf n) 0) (y.kids.getD (y.names.idxOf n) 0)).2 (fun p hp => by
          rcases e3 p hp with q | q
          · exact hS p q
          · exact .inl q)
        rw [ht] at e1
        rw [← e1, Bool.true_and]
        exact ⟨i1, fun h2 p hp => by
          rcases i2 h2 p hp with q | q
          · exact e3 p q
          · exact .inr q⟩
      · rw [if_neg ht]
        have hf : (h S (x.kids.getD (x.names.idxOf n) 0) (y.kids.getD (y.names.idxOf n) 0)).1 = false := by simpa using ht
        rw [hf] at e1
        rw [← e1, Bool.false_and]
        exact ⟨rfl, fun h2 => by cases h2⟩
    · rw [if_neg hn, decide_eq_false hn, Bool.false_and, Bool.false_and]
      exact ⟨rfl, fun h2 => by cases h2⟩
theorem openL_fit (hT : NiceT T) {h : List (Nat × Nat) → Nat → Nat → Bool × List (Nat × Nat)} {g : Nat → Nat → Bool} {a b : Nat} (ha : a < T.length) (hb : b < T.length) (hh : StepF T (a + b) h g) (S : List (Nat × Nat)) (hS : InvP T (a + b) S) :
    (openL h a T[a] T[b] S).1 = opF g a T[a] T[b] ∧ ((openL h a T[a] T[b] S).1 = true → ∀ p ∈ (openL h a T[a] T[b] S).2, p ∈ S ∨ FitP T p) := by
  unfold openL opF
  by_cases c1 : T[b].kind = 6 ∧ T[a].kind ≠ 6
  · rw [if_pos c1, if_pos c1]
    have := hT.kid0 hb (.inr (.inr c1.1))
    exact hh S _ _ ha (by omega) (by omega) hS
  · rw [if_neg c1, if_neg c1]
    by_cases c2 : T[a].kind ≠ T[b].kind
    · rw [if_pos c2, if_pos c2]
      exact ⟨rfl, fun h2 => by cases h2⟩
    · rw [if_neg c2, if_neg c2]
      have e : T[a].kind = T[b].kind := by simpa using c2
      by_cases c3 : T[b].kind = 4 ∨ T[b].kind = 5 ∨ T[b].kind = 6
      · rw [if_pos c3, if_pos c3]
        have k1 := hT.kid0 hb c3
        have k2 := hT.kid0 ha (by rw [e]; exact c3)
        exact hh S _ _ (by omega) (by omega) (by omega) hS
      · rw [if_neg c3, if_neg c3]
        have key : (T[b].kind = 7 ∨ T[b].kind = 8) → ∀ n, n ∈ T[a].names → n ∈ T[b].names → T[a].kids.getD (T[a].names.idxOf n) 0 < T.length ∧ T[b].kids.getD (T[b].names.idxOf n) 0 < T.length ∧ T[a].kids.getD (T[a].names.idxOf n) 0 + T[b].kids.getD (T[b].names.idxOf n) 0 < a + b := fun hk n h1 h2 => by
          have k1 := hT.kidN ha (by rw [e]; exact hk) h1
          have k2 := hT.kidN hb hk h2
          omega
        by_cases c4 : T[b].kind = 7
        · rw [if_pos c4, if_pos c4]
          exact kidsL_fit hh (key (.inl c4)) _ S hS
        · rw [if_neg c4, if_neg c4]
          by_cases c5 : T[b].kind = 8
          · rw [if_pos c5, if_pos c5]
            exact kidsL_fit hh (key (.inr c5)) _ S hS
          · rw [if_neg c5, if_neg c5]
            exact ⟨rfl, fun _ p hp => .inl hp⟩
theorem open_id (hT : NiceT T) {i : Nat} (hi : i < T.length) : openK T [] 13 i = i := openK_stop T [] 13 i (by rw [getD_atK hi]; exact hT.k9 _ (List.getElem_mem hi))
theorem holds_fit (hT : NiceT T) : ∀ (f : Nat) (S : List (Nat × Nat)) (a b : Nat), a < T.length → b < T.length → a + b < f → InvP T (a + b + 1) S →
    (holdsL T (openK T [] 13) f S a b).1 = fitT T a b ∧ ((holdsL T (openK T [] 13) f S a b).1 = true → ∀ p ∈ (holdsL T (openK T [] 13) f S a b).2, p ∈ S ∨ FitP T p)
  | 0, _, _, _, _, _, h, _ => by omega
  | f + 1, S, a, b, ha, hb, hf, hS => by
    rw [holdsL]
    by_cases hab : a = b ∨ (a, b) ∈ S
    · rw [if_pos hab]
      refine ⟨?_, fun _ p hp => .inl hp⟩
      rcases hab with rfl | hab
      · exact (fitT_same a).symm
      · rcases hS _ hab with h | h
        · exact h.symm
        · simp only at h; omega
    · rw [if_neg hab, open_id hT ha, open_id hT hb, getD_atK ha, getD_atK hb]
      have hne : ¬ a = b := fun e => hab (.inl e)
      have hst : StepF T (a + b) (holdsL T (openK T [] 13) f) (fun c d => fitT T c d) := fun S' c d hc hd hs hI =>
        holds_fit hT f S' c d hc hd (by omega) (fun p hp => by rcases hI p hp with h | h; exact .inl h; exact .inr (by omega))
      have hS' : InvP T (a + b) (S ++ [(a, b)]) := fun p hp => by
        rcases List.mem_append.1 hp with hp | hp
        · rcases hS p hp with h | h
          · exact .inl h
          · exact .inr (by omega)
        · rw [List.mem_singleton.1 hp]; exact .inr (Nat.le_refl _)
      obtain ⟨e1, e2⟩ := openL_fit hT ha hb hst _ hS'
      have e0 : fitT T a b = opF (fun c d => fitT T c d) a T[a] T[b] := by
        unfold fitT
        rw [fitF, getD_atK ha, getD_atK hb, decide_eq_false hne, Bool.false_or]
        exact opF_congr hT ha hb fun c d _ _ h3 => fitT_fuel hT (by omega) (by omega) h3
      rw [← e0] at e1
      refine ⟨e1, fun ht p hp => ?_⟩
      rcases e2 ht p hp with h | h
      · rcases List.mem_append.1 h with h | h
        · exact .inl h
        · rw [List.mem_singleton.1 h]; exact .inr (by rw [e1] at ht; exact ht)
      · exact .inr h
theorem le_fit (hT : NiceT T) {a b : Nat} (ha : a < T.length) (hb : b < T.length) : (leL T (openK T [] 13) a b).1 = fitT T a b := by
  unfold leL
  have h1 : T.length ≤ T.length * T.length := Nat.le_mul_of_pos_left _ (by omega)
  have h2 : a + b < T.length * T.length + 1 := by
    by_cases hl : T.length = 1
    · rw [hl]; omega
    · have : 2 * T.length ≤ T.length * T.length := Nat.mul_le_mul_right _ (by omega)
      omega
  exact (holds_fit hT _ [] a b ha hb h2 (fun p hp => by cases hp)).1
theorem fit_kind {a b : Nat} (ha : a < T.length) (hb : b < T.length) (h : fitT T a b = true) : T[a].kind = T[b].kind ∨ T[b].kind = 6 := by
  unfold fitT at h
  rw [fitF, getD_atK ha, getD_atK hb, Bool.or_eq_true, decide_eq_true_eq] at h
  rcases h with rfl | h
  · exact .inl rfl
  · unfold opF at h
    split at h
    · rename_i c; exact .inr c.1
    · split at h
      · cases h
      · rename_i c; exact .inl (by simpa using c)
/-- Two lists, two maps, two Opts. -/
theorem fit_one (hT : NiceT T) {k : Int} (hk : k = 4 ∨ k = 5 ∨ k = 6) {p u i j : Nat} (hp : p < T.length) (hu : u < T.length) (hi : i < T.length) (hj : j < T.length) (ep : T[p].kind = k ∧ T[p].kids = [i]) (eu : T[u].kind = k ∧ T[u].kids = [j]) : fitT T p u = fitT T i j := by
  have k1 : i < p := hT.kids p hp i (by rw [ep.2]; simp)
  have k2 : j < u := hT.kids u hu j (by rw [eu.2]; simp)
  by_cases hpu : p = u
  · subst hpu
    have : [i] = [j] := ep.2.symm.trans eu.2
    injection this with h1
    subst h1
    rw [fitT_same, fitT_same]
  · show fitF T (p + u + 1) p u = _
    rw [fitF, getD_atK hp, getD_atK hu, decide_eq_false hpu, Bool.false_or]
    unfold opF
    rw [if_neg (fun c => c.2 (by rw [ep.1, ← eu.1]; exact c.1)), if_neg (fun c => c (ep.1.trans eu.1.symm)), if_pos (by rw [eu.1]; exact hk), ep.2, eu.2]
    show fitF T (p + u) i j = _
    exact fitT_fuel hT hi hj (by omega)
theorem fit_opt (hT : NiceT T) {i o j : Nat} (hi : i < T.length) (ho : o < T.length) (hj : j < T.length) (eo : T[o].kind = 6 ∧ T[o].kids = [j]) (h6 : T[i].kind ≠ 6) : fitT T i o = fitT T i j := by
  have k2 : j < o := hT.kids o ho j (by rw [eo.2]; simp)
  by_cases hio : i = o
  · subst hio; exact absurd eo.1 h6
  · show fitF T (i + o + 1) i o = _
    rw [fitF, getD_atK hi, getD_atK ho, decide_eq_false hio, Bool.false_or]
    unfold opF
    rw [if_pos ⟨eo.1, h6⟩, eo.2]
    show fitF T (i + o) i j = _
    exact fitT_fuel hT hi hj (by omega)
end
theorem form_one {k : Int} {nm : List UInt8} {ns : List (List UInt8)} {n : Nat} (h : formB k nm ns n = true) : (k = 4 ∨ k = 5 ∨ k = 6 → n = 1) ∧ (k = 7 ∨ k = 8 → ns.length = n) := by
  unfold formB kidsN at h
  simp only [Bool.and_eq_true, decide_eq_true_eq] at h
  obtain ⟨⟨h1, _⟩, _⟩ := h
  refine ⟨fun h4 => ?_, fun h7 => ?_⟩
  · rw [if_pos h4] at h1; exact h1
  · rw [if_neg (by omega), if_pos h7] at h1; exact h1.symm
theorem ok_form {has : List UInt8 → Bool} {k : Int} {nm : List UInt8} {ns : List (List UInt8)} {ks : List Tz} (h : okK has (.mk k nm ns ks) = true) : formB k nm ns ks.length = true ∧ (k = 9 → has nm = true) := by
  rw [okK, Bool.and_eq_true, decide_eq_true_eq] at h
  have h1 := h.1
  unfold ownC at h1
  split at h1
  · cases h1
  · split at h1
    · cases h1
    · split at h1
      · cases h1
      · rename_i c3
        split at h1
        · cases h1
        · rename_i c4
          refine ⟨by simpa using c3, fun e => ?_⟩
          cases hh : has nm with
          | true => rfl
          | false => exact absurd ⟨e, hh⟩ c4
theorem nice_of {T : List Kz} (hT : TabG (hasZ ([] : List NN)) 400 T) : NiceT T := by
  have key : ∀ k ∈ T, formB k.kind k.name k.names k.kids.length = true ∧ k.kind ≠ 9 := fun k hk => by
    obtain ⟨i, hi, rfl⟩ := List.mem_iff_getElem.1 hk
    have h := (hT.ok i hi).1
    rw [typT_at hT.kids hi] at h
    obtain ⟨h1, h2⟩ := ok_form h
    rw [List.length_map] at h1
    exact ⟨h1, fun e => by have := h2 e; simp [hasZ] at this⟩
  exact ⟨hT.kids, fun k hk => (form_one (key k hk).1).1, fun k hk => (form_one (key k hk).1).2, fun k hk => (key k hk).2⟩
theorem nice_op {T : List Kz} (hT : TabG (hasZ ([] : List NN)) 400 T) : OpL T [] := by
  have h := nice_of hT
  exact ⟨fun i hi => by rw [open_id h hi]; exact hi, fun i hi => by rw [open_id h hi, getD_atK hi]; exact h.k9 _ (List.getElem_mem hi), fun k hk e => absurd e (h.k9 k hk), h.one⟩
/-- A type that was added. -/
theorem add_is {has : List UInt8 → Bool} {T : List Kz} {t : Tz} (hT : TabG has 400 T) {i : Nat} {T' : List Kz} (h : addK has T t = (i, 0, T')) : okK has t = true ∧ sizeZ t ≤ 400 ∧ TabG has 400 T' ∧ T <+: T' ∧ i < T'.length ∧ typT T' i = t := by
  have h0 : (oneC has 0 t).1 = 0 := by
    unfold addK at h
    split at h
    · rename_i c; injection h with _ h; injection h
    · rename_i c; simpa using c
  obtain ⟨a, -, b⟩ := oneC_ok has t 0 h0
  obtain ⟨e1, e2, e3, e4⟩ := addK_g hT ⟨a, by omega⟩
  rw [h] at e2 e3 e4
  obtain ⟨e5, e6⟩ := e4 rfl
  exact ⟨a, by omega, e2, e3, e5, e6⟩
/-- One more list, map or Opt of a type that is there. -/
theorem add_one {T : List Kz} {t : Tz} (hT : TabG (hasZ ([] : List NN)) 400 T) {i : Nat} (hi : i < T.length) (ht : typT T i = t) (hs : sizeZ t ≤ 399) {k : Int} (hk : k = 4 ∨ k = 5) :
    ∃ p e T', addK (hasZ ([] : List NN)) T (.mk k [] [] [t]) = (p, e, T') ∧ (e = 0 ∨ e = 20) ∧ TabG (hasZ ([] : List NN)) 400 T' ∧ T <+: T' ∧ p < T'.length ∧ (e = 0 → ∃ h : p < T'.length, T'[p].kind = k ∧ T'[p].kids = [i]) := by
  have ok : okK (hasZ ([] : List NN)) (.mk k [] [] [t]) = true ∧ sizeZ (.mk k [] [] [t]) ≤ 400 := by
    have := (hT.ok i hi).1
    rw [ht] at this
    refine ⟨?_, by simp [sizeZ, sizeZs]; omega⟩
    rcases hk with rfl | rfl <;> simp [okK, okKs, ownC, formB, kidsN, this]
  obtain ⟨e1, e2, e3, e4⟩ := addK_g hT ok
  have ek : kidsK T [t] = ([i], 0, T) := by
    have := typT_again hT.toTabW (i + 1) i (Nat.lt_succ_self _) hi
    rw [ht] at this
    rw [kidsK, this, if_pos rfl, kidsK]
  have et : treeK T (.mk k [] [] [t]) = numK T ⟨k, [], [], [i]⟩ := by rw [treeK, ek, if_pos rfl]
  rw [et] at e1
  obtain ⟨⟨p, e, T'⟩, hq⟩ : ∃ q, addK (hasZ ([] : List NN)) T (.mk k [] [] [t]) = q := ⟨_, rfl⟩
  rw [hq] at e1 e2 e3 e4
  have hl : T.length ≤ T'.length := e3.length_le
  have hE : e = 0 ∨ e = 20 := by
    have := treeK_e (.mk k [] [] [t]) T
    rw [et, ← e1] at this
    exact this
  refine ⟨p, e, T', hq, hE, e2, e3, ?_, fun h0 => ?_⟩
  · rcases hE with rfl | rfl
    · exact (e4 rfl).1
    · have : p = 0 := by
        unfold numK at e1
        split at e1
        · injection e1 with _ e1; injection e1 with e1 _; cases e1
        · split at e1
          · injection e1
          · injection e1 with _ e1; injection e1 with e1 _; cases e1
      omega
  · subst h0
    obtain ⟨hp, htt⟩ := e4 rfl
    refine ⟨hp, ?_⟩
    have hpt : T'[p] = ⟨k, [], [], [i]⟩ := by
      unfold numK at e1
      split at e1
      · rename_i c
        injection e1 with e1 e5; injection e5 with _ e5
        subst e1 e5
        exact List.getElem_idxOf hp
      · split at e1
        · injection e1 with _ e1; injection e1 with e1 _; cases e1
        · injection e1 with e1 e5; injection e5 with _ e5
          subst e1 e5
          simp
    rw [hpt]; exact ⟨rfl, rfl⟩
theorem opt_one {T : List Kz} (hT : TabG (hasZ ([] : List NN)) 400 T) {j : Nat} (hj : j < T.length) (hs : sizeZ (typT T j) ≤ 399) :
    ∃ o e T', numK T (optK j) = (o, e, T') ∧ T <+: T' ∧ (e = 0 → TabG (hasZ ([] : List NN)) 400 T' ∧ ∃ h : o < T'.length, T'[o].kind = 6 ∧ T'[o].kids = [j]) := by
  have ek : kidsK T [typT T j] = ([j], 0, T) := by
    rw [kidsK, typT_again hT.toTabW (j + 1) j (Nat.lt_succ_self _) hj, if_pos rfl, kidsK]
  have et : treeK T (.mk 6 [] [] [typT T j]) = numK T (optK j) := by rw [treeK, ek, if_pos rfl]; rfl
  have ok : okK (hasZ ([] : List NN)) (.mk 6 [] [] [typT T j]) = true ∧ sizeZ (.mk 6 [] [] [typT T j]) ≤ 400 :=
    ⟨by simp [okK, okKs, ownC, formB, kidsN, (hT.ok j hj).1], by simp [sizeZ, sizeZs]; omega⟩
  obtain ⟨e1, e2, e3, e4⟩ := addK_g hT ok
  rw [e1, et] at e2 e3 e4
  obtain ⟨⟨o, e, T'⟩, hq⟩ : ∃ q, numK T (optK j) = q := ⟨_, rfl⟩
  rw [hq] at e2 e3 e4
  refine ⟨o, e, T', hq, e3, fun h0 => ⟨e2, ?_⟩⟩
  subst h0
  obtain ⟨ho, -⟩ := e4 rfl
  refine ⟨ho, ?_⟩
  have hot : T'[o] = optK j := by
    unfold numK at hq
    split at hq
    · injection hq with h1 h5; injection h5 with _ h5
      subst h1 h5
      exact List.getElem_idxOf ho
    · split at hq
      · injection hq with _ h1; injection h1 with h1 _; cases h1
      · injection hq with h1 h5; injection h5 with _ h5
        subst h1 h5
        simp
  rw [hot]; exact ⟨rfl, rfl⟩
end Sp
end Go.Proofs.Yteooafgdmpbjeab
