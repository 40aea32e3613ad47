/- Which named types have a value that ends: both ways of telling it agree. No program is named here. -/
import Derived.Test.YtdophmlnmbcjlaaT1
namespace Go.Proofs.Ytdophmlnmbcjlaa
namespace Sp
open Sc
mutual
/-- Whether a type has a value that ends, if these named ones have. -/
def endsR (K : List UInt8 → Bool) : Tz → Bool
  | .mk k nm _ ks => if k = 7 then endsAll K ks else if k = 8 then endsSome K ks else if k = 9 then K nm else true
def endsAll (K : List UInt8 → Bool) : List Tz → Bool
  | [] => true
  | t :: ks => if endsR K t = true then endsAll K ks else false
def endsSome (K : List UInt8 → Bool) : List Tz → Bool
  | [] => false
  | t :: ks => if endsR K t = true then true else endsSome K ks
end
mutual
/-- Every kind is one. -/
def kindsR : Tz → Bool
  | .mk k _ _ ks => decide (1 ≤ k ∧ k ≤ 9) && kindsRs ks
def kindsRs : List Tz → Bool
  | [] => true
  | t :: ks => kindsR t && kindsRs ks
end
mutual
theorem endsR_mono {K L : List UInt8 → Bool} (h : ∀ s, K s = true → L s = true) : ∀ t, endsR K t = true → endsR L t = true
  | .mk k nm ns ks, ht => by
    rw [endsR] at ht ⊢
    split
    · rename_i h7; rw [if_pos h7] at ht; exact endsAll_mono h ks ht
    · rename_i h7; rw [if_neg h7] at ht
      split
      · rename_i h8; rw [if_pos h8] at ht; exact endsSome_mono h ks ht
      · rename_i h8; rw [if_neg h8] at ht
        split
        · rename_i h9; rw [if_pos h9] at ht; exact h _ ht
        · rfl
theorem endsAll_mono {K L : List UInt8 → Bool} (h : ∀ s, K s = true → L s = true) : ∀ ks, endsAll K ks = true → endsAll L ks = true
  | [], _ => rfl
  | t :: ks, ht => by
    rw [endsAll] at ht ⊢
    split at ht
    · rename_i h1; rw [if_pos (endsR_mono h t h1)]; exact endsAll_mono h ks ht
    · cases ht
theorem endsSome_mono {K L : List UInt8 → Bool} (h : ∀ s, K s = true → L s = true) : ∀ ks, endsSome K ks = true → endsSome L ks = true
  | [], ht => by cases ht
  | t :: ks, ht => by
    rw [endsSome] at ht ⊢
    split at ht
    · rename_i h1; rw [if_pos (endsR_mono h t h1)]
    · split
      · rfl
      · exact endsSome_mono h ks ht
end
mutual
theorem finZ_ends (K : List UInt8 → Bool) : ∀ (t : Tz) (left : Nat), kindsR t = true → sizeZ t ≤ left → (finZ K left t).1 = endsR K t ∧ left ≤ (finZ K left t).2 + sizeZ t ∧ (finZ K left t).2 ≤ left
  | .mk k nm ns ks, left, hk, hs => by
    simp only [kindsR, Bool.and_eq_true, decide_eq_true_eq] at hk
    simp only [sizeZ] at hs ⊢
    rw [finZ, if_neg (by omega), endsR]
    by_cases h6 : 1 ≤ k ∧ k ≤ 6
    · rw [if_pos h6, if_neg (by omega), if_neg (by omega), if_neg (by omega)]; exact ⟨rfl, by simp only; omega, by simp only; omega⟩
    · rw [if_neg h6]
      by_cases h7 : k = 7
      · rw [if_pos h7, if_pos h7]
        obtain ⟨a, b, c⟩ := everyZ_ends K ks (left - 1) hk.2 (by omega)
        exact ⟨a, by omega, by omega⟩
      · rw [if_neg h7, if_neg h7]
        by_cases h8 : k = 8
        · rw [if_pos h8, if_pos h8]
          obtain ⟨a, b, c⟩ := someZ_ends K ks (left - 1) hk.2 (by omega)
          exact ⟨a, by omega, by omega⟩
        · rw [if_neg h8, if_neg h8, if_pos (by omega), if_pos (by omega)]; exact ⟨rfl, by simp only; omega, by simp only; omega⟩
theorem everyZ_ends (K : List UInt8 → Bool) : ∀ (ks : List Tz) (left : Nat), kindsRs ks = true → sizeZs ks ≤ left → (everyZ K left ks).1 = endsAll K ks ∧ left ≤ (everyZ K left ks).2 + sizeZs ks ∧ (everyZ K left ks).2 ≤ left
  | [], left, _, _ => by simp [everyZ, endsAll, sizeZs]
  | t :: ks, left, hk, hs => by
    simp only [kindsRs, Bool.and_eq_true] at hk
    simp only [sizeZs] at hs ⊢
    obtain ⟨a, b, c⟩ := finZ_ends K t left hk.1 (by omega)
    rw [everyZ, endsAll, a]
    split
    · obtain ⟨d, e, f⟩ := everyZ_ends K ks (finZ K left t).2 hk.2 (by omega)
      exact ⟨d, by omega, by omega⟩
    · exact ⟨rfl, by simp only; omega, c⟩
theorem someZ_ends (K : List UInt8 → Bool) : ∀ (ks : List Tz) (left : Nat), kindsRs ks = true → sizeZs ks ≤ left → (someZ K left ks).1 = endsSome K ks ∧ left ≤ (someZ K left ks).2 + sizeZs ks ∧ (someZ K left ks).2 ≤ left
  | [], left, _, _ => by simp [someZ, endsSome, sizeZs]
  | t :: ks, left, hk, hs => by
    simp only [kindsRs, Bool.and_eq_true] at hk
    simp only [sizeZs] at hs ⊢
    obtain ⟨a, b, c⟩ := finZ_ends K t left hk.1 (by omega)
    rw [someZ, endsSome, a]
    split
    · exact ⟨rfl, by simp only; omega, c⟩
    · split
      · rename_i h0
        match ks, hs, b with
        | [], _, _ => exact ⟨by rw [endsSome], by simp only [sizeZs]; omega, by simp only; omega⟩
        | u :: ks, hs, b => simp only [sizeZs] at hs; have := sizeZ_pos u; omega
      · obtain ⟨d, e, f⟩ := someZ_ends K ks (finZ K left t).2 hk.2 (by omega)
        exact ⟨d, by omega, by omega⟩
end
def inR (L : List (List UInt8)) (s : List UInt8) : Bool := L.any fun x => decide (x = s)
def stepR (l : List NT) (L : List (List UInt8)) : List (List UInt8) := (l.filter fun x => endsR (inR L) x.2).map (·.1)
def finR (l : List NT) : Nat → List (List UInt8)
  | 0 => []
  | k + 1 => stepR l (finR l k)
/-- The named types that have a value that ends. -/
def finiteR (l : List NT) : List (List UInt8) := finR l (l.length + 1)
theorem inR_iff {L : List (List UInt8)} {s : List UInt8} : inR L s = true ↔ s ∈ L := by simp [inR]
theorem filter_subl {α : Type} {p q : α → Bool} (h : ∀ x, p x = true → q x = true) : ∀ l : List α, (l.filter p).Sublist (l.filter q)
  | [] => .slnil
  | a :: l => by
    cases hp : p a
    · rw [List.filter_cons_of_neg (by simp [hp])]
      cases hq : q a
      · rw [List.filter_cons_of_neg (by simp [hq])]; exact filter_subl h l
      · rw [List.filter_cons_of_pos hq]; exact (filter_subl h l).cons _
    · rw [List.filter_cons_of_pos hp, List.filter_cons_of_pos (h a hp)]; exact (filter_subl h l).cons_cons _
theorem stepR_sub {l : List NT} {L M : List (List UInt8)} (h : ∀ s, inR L s = true → inR M s = true) : (stepR l L).Sublist (stepR l M) :=
  (filter_subl (fun x hx => endsR_mono h x.2 hx) l).map _
theorem finR_up (l : List NT) : ∀ k, (finR l k).Sublist (finR l (k + 1))
  | 0 => List.nil_sublist _
  | k + 1 => stepR_sub fun _ hs => inR_iff.2 ((finR_up l k).subset (inR_iff.1 hs))
theorem finR_len (l : List NT) (k : Nat) : (finR l k).length ≤ l.length := by
  cases k with
  | zero => exact Nat.zero_le _
  | succ k => unfold finR stepR; rw [List.length_map]; exact List.length_filter_le _ _
theorem finR_stuck (l : List NT) (k : Nat) (h : finR l (k + 1) = finR l k) : ∀ j, finR l (k + j) = finR l k
  | 0 => rfl
  | j + 1 => by
    have ih := finR_stuck l k h j
    show stepR l (finR l (k + j)) = _
    rw [ih]; exact h
theorem finR_grows (l : List NT) : ∀ k, (∃ j, j < k ∧ finR l (j + 1) = finR l j) ∨ k ≤ (finR l k).length
  | 0 => .inr (Nat.zero_le _)
  | k + 1 => by
    rcases finR_grows l k with ⟨j, hj, e⟩ | h
    · exact .inl ⟨j, by omega, e⟩
    · by_cases e : finR l (k + 1) = finR l k
      · exact .inl ⟨k, by omega, e⟩
      · have a := finR_up l k
        have b := a.length_le
        by_cases hl : (finR l k).length = (finR l (k + 1)).length
        · exact absurd (a.eq_of_length hl).symm e
        · exact .inr (by omega)
theorem finiteR_fix (l : List NT) : stepR l (finiteR l) = finiteR l := by
  rcases finR_grows l (l.length + 1) with ⟨j, hj, e⟩ | h
  · have a := finR_stuck l j e (l.length + 1 - j)
    have b := finR_stuck l j e (l.length + 2 - j)
    rw [show j + (l.length + 1 - j) = l.length + 1 by omega] at a
    rw [show j + (l.length + 2 - j) = l.length + 2 by omega] at b
    show finR l (l.length + 2) = finR l (l.length + 1)
    rw [a, b]
  · have := finR_len l (l.length + 1); omega
/-- Names that rise stand once. -/
def NoTwice (l : List NT) : Prop := ∀ i j (hi : i < l.length) (hj : j < l.length), l[i].1 = l[j].1 → i = j
theorem NoTwice.eq {l : List NT} (h : NoTwice l) {x y : NT} (hx : x ∈ l) (hy : y ∈ l) (e : x.1 = y.1) : x = y := by
  obtain ⟨i, hi, rfl⟩ := List.mem_iff_getElem.1 hx
  obtain ⟨j, hj, rfl⟩ := List.mem_iff_getElem.1 hy
  cases h i j hi hj e
  rfl
theorem mem_stepR {l : List NT} {L : List (List UInt8)} {x : NT} (hl : NoTwice l) (hx : x ∈ l) : x.1 ∈ stepR l L ↔ endsR (inR L) x.2 = true := by
  unfold stepR
  rw [List.mem_map]
  constructor
  · rintro ⟨y, hy, e⟩
    rw [List.mem_filter] at hy
    cases hl.eq hy.1 hx e
    exact hy.2
  · exact fun h => ⟨x, List.mem_filter.2 ⟨hx, h⟩, rfl⟩
theorem finiteR_iff {l : List NT} (hl : NoTwice l) {x : NT} (hx : x ∈ l) : inR (finiteR l) x.1 = endsR (inR (finiteR l)) x.2 := by
  rw [Bool.eq_iff_iff, inR_iff, ← mem_stepR hl hx, finiteR_fix]
theorem nodup_le {α : Type} [DecidableEq α] : ∀ (A B : List α), A.Nodup → (∀ s ∈ A, s ∈ B) → A.length ≤ B.length
  | [], _, _, _ => Nat.zero_le _
  | a :: A, B, hA, h => by
    obtain ⟨h1, h2⟩ := List.nodup_cons.1 hA
    have ih := nodup_le A (B.erase a) h2 (fun s hs => (List.mem_erase_of_ne (by rintro rfl; exact h1 hs)).2 (h s (List.mem_cons_of_mem _ hs)))
    have e := List.length_erase_of_mem (h a List.mem_cons_self)
    have : 0 < B.length := List.length_pos_of_mem (h a List.mem_cons_self)
    simp only [List.length_cons]
    omega
theorem NoTwice.nd {l : List NT} (h : NoTwice l) : (l.map (·.1)).Nodup := by
  rw [List.nodup_iff_pairwise_ne, List.pairwise_iff_getElem]
  intro i j hi hj hij e
  simp only [List.length_map] at hi hj
  simp only [List.getElem_map] at e
  have := h i j hi hj e; omega
structure Kin (l : List NT) (K : List NT) : Prop where
  sub : ∀ x ∈ K, x ∈ l ∧ inR (finiteR l) x.1 = true
  nd : NoTwice K
theorem hasZ_iff {l : List NT} {s : List UInt8} : hasZ l s = true ↔ ∃ x ∈ l, x.1 = s := by simp [hasZ]
theorem Kin.le {l K : List NT} (h : Kin l K) (s : List UInt8) (hs : hasZ K s = true) : inR (finiteR l) s = true := by
  obtain ⟨x, hx, rfl⟩ := hasZ_iff.1 hs
  exact (h.sub x hx).2
theorem Kin.snoc {l K : List NT} (hl : NoTwice l) (h : Kin l K) {x : NT} (hx : x ∈ l) (hn : ¬ hasZ K x.1 = true) (he : endsR (hasZ K) x.2 = true) : Kin l (K ++ [x]) := by
  refine ⟨fun y hy => ?_, fun i j hi hj e => ?_⟩
  · rcases List.mem_append.1 hy with hy | hy
    · exact h.sub y hy
    · obtain rfl := List.mem_singleton.1 hy
      exact ⟨hx, by rw [finiteR_iff hl hx]; exact endsR_mono h.le _ he⟩
  · simp only [List.length_append, List.length_singleton] at hi hj
    have no : ∀ k (hk : k < K.length), K[k].1 ≠ x.1 := fun k hk e => hn (hasZ_iff.2 ⟨K[k], List.getElem_mem hk, e⟩)
    by_cases h1 : i < K.length
    · by_cases h2 : j < K.length
      · rw [List.getElem_append_left h1, List.getElem_append_left h2] at e
        exact h.nd i j h1 h2 e
      · rw [List.getElem_append_left h1, List.getElem_append_right (by omega)] at e
        simp at e
        exact absurd e (no i h1)
    · by_cases h2 : j < K.length
      · rw [List.getElem_append_right (by omega), List.getElem_append_left h2] at e
        simp at e
        exact absurd e.symm (no j h2)
      · omega
theorem Kin.len {l K : List NT} (h : Kin l K) : K.length ≤ l.length := by
  have := nodup_le _ (l.map (·.1)) h.nd.nd (fun s hs => by
    obtain ⟨x, hx, rfl⟩ := List.mem_map.1 hs
    exact List.mem_map.2 ⟨x, (h.sub x hx).1, rfl⟩)
  simpa using this
def totZ (l : List NT) : Nat := sizeZs (l.map (·.2))
/-- One round: who comes, and that nobody could if nobody does. -/
theorem roundZ_ok {l0 : List NT} (hl : NoTwice l0) : ∀ (l K : List NT) (left : Nat), (∀ x ∈ l, x ∈ l0) → Kin l0 K → kindsRs (l.map (·.2)) = true → totZ l ≤ left →
    Kin l0 (roundZ K left l).1 ∧ left ≤ (roundZ K left l).2 + totZ l ∧ K.length ≤ (roundZ K left l).1.length ∧ ((roundZ K left l).1.length = K.length → (roundZ K left l).1 = K ∧ ∀ x ∈ l, hasZ K x.1 = true ∨ endsR (hasZ K) x.2 = false)
  | [], K, left, _, hK, _, _ => by rw [roundZ]; exact ⟨hK, by simp, Nat.le_refl _, fun _ => ⟨rfl, fun x hx => by cases hx⟩⟩
  | x :: l, K, left, hsub, hK, hk, hs => by
    simp only [List.map_cons, kindsRs, Bool.and_eq_true] at hk
    unfold totZ at hs ⊢
    simp only [List.map_cons, sizeZs] at hs ⊢
    rw [roundZ]
    have hx := hsub x List.mem_cons_self
    have hsub' := fun y hy => hsub y (List.mem_cons_of_mem _ hy)
    by_cases h1 : hasZ K x.1 = true
    · rw [if_pos h1]
      obtain ⟨a, b, c, d⟩ := roundZ_ok hl l K left hsub' hK hk.2 (by unfold totZ; omega)
      unfold totZ at b
      refine ⟨a, by omega, c, fun e => ⟨(d e).1, fun y hy => ?_⟩⟩
      rcases List.mem_cons.1 hy with rfl | hy
      · exact .inl h1
      · exact (d e).2 y hy
    · rw [if_neg h1]
      obtain ⟨p, q, r⟩ := finZ_ends (hasZ K) x.2 left hk.1 (by omega)
      rw [p]
      by_cases h2 : endsR (hasZ K) x.2 = true
      · rw [if_pos h2]
        obtain ⟨a, b, c, d⟩ := roundZ_ok hl l (K ++ [x]) (finZ (hasZ K) left x.2).2 hsub' (hK.snoc hl hx h1 h2) hk.2 (by unfold totZ; omega)
        unfold totZ at b
        rw [List.length_append, List.length_singleton] at c
        exact ⟨a, by omega, by omega, fun e => by omega⟩
      · rw [if_neg h2]
        obtain ⟨a, b, c, d⟩ := roundZ_ok hl l K (finZ (hasZ K) left x.2).2 hsub' hK hk.2 (by unfold totZ; omega)
        unfold totZ at b
        refine ⟨a, by omega, c, fun e => ⟨(d e).1, fun y hy => ?_⟩⟩
        rcases List.mem_cons.1 hy with rfl | hy
        · exact .inr (by simpa using h2)
        · exact (d e).2 y hy
theorem endsGo_ok {l : List NT} (hl : NoTwice l) (hk : kindsRs (l.map (·.2)) = true) : ∀ (f : Nat) (K : List NT) (left : Nat), l.length < f + K.length → Kin l K → f * totZ l ≤ left →
    Kin l (endsGo l f K left).1 ∧ left ≤ (endsGo l f K left).2 + f * totZ l ∧ ∀ x ∈ l, hasZ (endsGo l f K left).1 x.1 = true ∨ endsR (hasZ (endsGo l f K left).1) x.2 = false
  | 0, K, left, hf, hK, _ => by have := hK.len; omega
  | f + 1, K, left, hf, hK, hs => by
    rw [Nat.succ_mul] at hs ⊢
    obtain ⟨a, b, c, d⟩ := roundZ_ok hl l K left (fun _ h => h) hK hk (by omega)
    rw [endsGo]
    split
    · rename_i h1
      obtain ⟨p, q, r⟩ := endsGo_ok hl hk f (roundZ K left l).1 (roundZ K left l).2 (by omega) a (by omega)
      exact ⟨p, by omega, r⟩
    · obtain ⟨e1, e2⟩ := d (by omega)
      exact ⟨a, by have := Nat.zero_le (f * totZ l); omega, by rw [e1]; exact e2⟩
/-- Both tell the same names. -/
theorem endsZ_ok {l : List NT} (hl : NoTwice l) (hk : kindsRs (l.map (·.2)) = true) (hs : (l.length + 1) * totZ l ≤ 65536) :
    (∀ s, hasZ (endsZ l).1 s = inR (finiteR l) s) ∧ 65536 ≤ (endsZ l).2 + (l.length + 1) * totZ l ∧ Kin l (endsZ l).1 := by
  obtain ⟨a, b, c⟩ := endsGo_ok hl hk (l.length + 1) [] 65536 (by simp) ⟨(fun x hx => by cases hx), (fun i j hi => by cases hi)⟩ hs
  refine ⟨fun s => ?_, b, a⟩
  rw [Bool.eq_iff_iff]
  refine ⟨a.le s, fun h => ?_⟩
  have key : ∀ k s, s ∈ finR l k → hasZ (endsZ l).1 s = true := by
    intro k
    induction k with
    | zero => intro s hs; cases hs
    | succ k ih =>
      intro s hs
      obtain ⟨x, hx, rfl⟩ := List.mem_map.1 (show s ∈ stepR l (finR l k) from hs)
      rw [List.mem_filter] at hx
      rcases c x hx.1 with h | h
      · exact h
      · have := endsR_mono (fun s hs => ih s (inR_iff.1 hs)) x.2 hx.2
        exact absurd this (by rw [show hasZ (endsZ l).1 = hasZ (endsGo l (l.length + 1) [] 65536).1 from rfl, h]; simp)
  exact key _ s (inR_iff.1 h)
/-- Not all end: both tell it. -/
theorem endsZ_short {l : List NT} (hl : NoTwice l) (hk : kindsRs (l.map (·.2)) = true) (hs : (l.length + 1) * totZ l ≤ 65536) : (endsZ l).1.length < l.length ↔ (finiteR l).length ≠ l.length := by
  obtain ⟨a, b, c⟩ := endsZ_ok hl hk hs
  have h1 := c.len
  have h2 : (finiteR l).length ≤ l.length := finR_len l _
  have all1 : (finiteR l).length = l.length → ∀ x ∈ l, inR (finiteR l) x.1 = true := fun e x hx => by
    have e2 : (l.filter fun x => endsR (inR (finR l l.length)) x.2).length = l.length := by
      have := e; unfold finiteR at this; rw [show finR l (l.length + 1) = stepR l (finR l l.length) from rfl, stepR, List.length_map] at this; exact this
    have e3 := List.filter_eq_self.1 (List.filter_sublist.eq_of_length e2)
    rw [inR_iff]
    exact (mem_stepR hl hx).2 (e3 x hx)
  constructor
  · intro h e
    have := nodup_le (l.map (·.1)) ((endsZ l).1.map (·.1)) hl.nd (fun s hs => by
      obtain ⟨x, hx, rfl⟩ := List.mem_map.1 hs
      have h5 := all1 e x hx
      rw [← a] at h5
      obtain ⟨y, hy, e5⟩ := hasZ_iff.1 h5
      exact List.mem_map.2 ⟨y, hy, e5⟩)
    simp at this
    omega
  · intro h
    have : ¬ l.length ≤ (endsZ l).1.length := fun h3 => h (by
      have := nodup_le ((endsZ l).1.map (·.1)) (finiteR l) c.nd.nd (fun s hs => by
        obtain ⟨x, hx, rfl⟩ := List.mem_map.1 hs
        exact inR_iff.1 (c.sub x hx).2)
      simp at this
      omega)
    omega
end Sp
end Go.Proofs.Ytdophmlnmbcjlaa
