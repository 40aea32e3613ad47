/- Both ways of checking a schema agree: what the code's own check tells is what the chapter's tells. -/
import Derived.Test.YtdophmlnmbcjlaaT36
namespace Go.Proofs.Ytdophmlnmbcjlaa
namespace Sp
open Sc
theorem look_first {l : List NT} (hl : NoTwice l) (nm : List UInt8) : lookZ l nm = firstZ l nm := by
  unfold lookZ lastN firstZ
  cases h : l.reverse.find? (fun x => decide (x.1 = nm)) with
  | none =>
    have h1 : l.find? (fun x => decide (x.1 = nm)) = none := by
      rw [List.find?_eq_none] at h ⊢
      exact fun x hx => h x (List.mem_reverse.2 hx)
    rw [h1]; rfl
  | some x =>
    have hx := List.mem_reverse.1 (List.mem_of_find?_eq_some h)
    have hxn : x.1 = nm := by simpa using List.find?_some h
    cases h1 : l.find? (fun x => decide (x.1 = nm)) with
    | none =>
      rw [List.find?_eq_none] at h1
      exact absurd (by simpa using hxn) (h1 x hx)
    | some y =>
      have hy := List.mem_of_find?_eq_some h1
      have hyn : y.1 = nm := by simpa using List.find?_some h1
      cases hl.eq hx hy (hxn.trans hyn.symm)
      rfl
theorem lookZ_in {l : List NT} (hl : NoTwice l) {x : NT} (hx : x ∈ l) : lookZ l x.1 = x.2 := by
  rw [look_first hl]
  unfold firstZ
  cases h1 : l.find? (fun y => decide (y.1 = x.1)) with
  | none => rw [List.find?_eq_none] at h1; exact absurd (by simp) (h1 x hx)
  | some y =>
    have hyn : y.1 = x.1 := by simpa using List.find?_some h1
    cases hl.eq (List.mem_of_find?_eq_some h1) hx hyn
    rfl
theorem lookZ_no {l : List NT} {nm : List UInt8} (h : ∀ x ∈ l, x.1 ≠ nm) : lookZ l nm = .mk 0 [] [] [] := by
  unfold lookZ lastN
  rw [List.find?_eq_none.2 (fun x hx => by simpa using h x (List.mem_reverse.1 hx))]
  rfl
theorem openZ_not (l : List NT) (f : Nat) (t : Tz) (h : t.kind ≠ 9) : openZ l f t = t := by
  cases f with
  | zero => rfl
  | succ f => obtain ⟨k, nm, ns, ks⟩ := t; rw [openZ]; exact if_neg h
theorem openZ_mk (l : List NT) (f : Nat) {k : Int} (h : k ≠ 9) (nm : List UInt8) (ns : List (List UInt8)) (ks : List Tz) : openZ l f (.mk k nm ns ks) = .mk k nm ns ks := openZ_not l f _ h
theorem openZ_R {l : List NT} (hl : NoTwice l) : ∀ (f : Nat) (t : Tz), openR l f t = openZ l f t
  | 0, _ => rfl
  | f + 1, .mk k nm ns ks => by rw [openR, openZ, look_first hl, openZ_R hl f]
/-- A name that comes up within k rounds opens within k steps. -/
theorem open_rank {l : List NT} (hl : NoTwice l) : ∀ (k : Nat) (nm : List UInt8), nm ∈ finR l k → ∀ f, k ≤ f → (openZ l f (lookZ l nm)).kind ≠ 9 ∧ openZ l f (lookZ l nm) = openZ l k (lookZ l nm)
  | 0, _, h, _, _ => by cases h
  | k + 1, nm, h, f, hf => by
    obtain ⟨y, hy, rfl⟩ := List.mem_map.1 (show nm ∈ stepR l (finR l k) from h)
    rw [List.mem_filter] at hy
    rw [lookZ_in hl hy.1]
    obtain ⟨g, rfl⟩ : ∃ g, f = g + 1 := ⟨f - 1, by omega⟩
    obtain ⟨x, t⟩ := y
    obtain ⟨kd, m, ns, ks⟩ := t
    dsimp only at hy ⊢
    by_cases h9 : kd = 9
    · subst h9
      have hm : m ∈ finR l k := by
        have := hy.2
        rw [endsR, if_neg (by decide), if_neg (by decide), if_pos rfl] at this
        exact inR_iff.1 this
      have ih := open_rank hl k m hm
      rw [openZ, openZ, if_pos rfl, if_pos rfl]
      exact ⟨(ih g (by omega)).1, (ih g (by omega)).2⟩
    · rw [openZ_mk _ _ h9, openZ_mk _ _ h9]; exact ⟨h9, rfl⟩
/-- All named types end. -/
def AllEnd (l : List NT) : Prop := (finiteR l).length = l.length
theorem AllEnd.rank {l : List NT} (h : AllEnd l) (hl : NoTwice l) {x : NT} (hx : x ∈ l) : x.1 ∈ finR l l.length := by
  have e : finR l (l.length + 1) = finR l l.length := by
    rcases finR_grows l l.length with ⟨j, hj, e⟩ | h1
    · have a := finR_stuck l j e (l.length - j)
      have b := finR_stuck l j e (l.length + 1 - j)
      rw [show j + (l.length - j) = l.length by omega] at a
      rw [show j + (l.length + 1 - j) = l.length + 1 by omega] at b
      rw [a, b]
    · have a := finR_up l l.length
      have h2 : (finR l (l.length + 1)).length = l.length := h
      have h3 := finR_len l l.length
      exact (a.eq_of_length (by omega)).symm
  rw [← e]
  have h2 : (l.filter fun x => endsR (inR (finR l l.length)) x.2).length = l.length := by
    have := h; unfold AllEnd finiteR at this; rwa [show finR l (l.length + 1) = stepR l (finR l l.length) from rfl, stepR, List.length_map] at this
  have h3 := List.filter_eq_self.1 (List.filter_sublist.eq_of_length h2)
  exact (mem_stepR hl hx).2 (h3 x hx)
theorem open_all {l : List NT} (hl : NoTwice l) (h : AllEnd l) (f : Nat) (hf : l.length < f) (t : Tz) : (openZ l f t).kind ≠ 9 ∧ openZ l f t = openZ l (l.length + 1) t := by
  obtain ⟨g, rfl⟩ : ∃ g, f = g + 1 := ⟨f - 1, by omega⟩
  obtain ⟨kd, m, ns, ks⟩ := t
  by_cases h9 : kd = 9
  · subst h9
    rw [openZ, openZ, if_pos rfl, if_pos rfl]
    by_cases hm : ∃ x ∈ l, x.1 = m
    · obtain ⟨x, hx, rfl⟩ := hm
      exact open_rank hl _ _ (h.rank hl hx) g (by omega)
    · rw [lookZ_no (fun x hx e => hm ⟨x, hx, e⟩), openZ_not _ _ _ (by simp [Tz.kind]), openZ_not _ _ _ (by simp [Tz.kind])]
      exact ⟨by simp [Tz.kind], rfl⟩
  · rw [openZ_mk _ _ h9, openZ_mk _ _ h9]; exact ⟨h9, rfl⟩
mutual
theorem nest_same {l : List NT} (hl : NoTwice l) (h : AllEnd l) (h12 : l.length ≤ 12) : ∀ t, nestR l t = nestZ l t
  | .mk k nm ns ks => by rw [nestR, nestZ, openZ_R hl, ← (open_all hl h 13 (by omega) (kid0 ks)).2, nests_same hl h h12 ks]
theorem nests_same {l : List NT} (hl : NoTwice l) (h : AllEnd l) (h12 : l.length ≤ 12) : ∀ ks, nestsR l ks = nestsZ l ks
  | [] => rfl
  | t :: ks => by rw [nestsR, nestsZ, nest_same hl h h12 t, nests_same hl h h12 ks]
end
mutual
theorem opens_ok {l : List NT} (hl : NoTwice l) (h : AllEnd l) (h12 : l.length ≤ 12) : ∀ t, kidsOk t = true → opensZ l t = true
  | .mk k nm ns ks, hk => by
    rw [kidsOk, Bool.and_eq_true] at hk
    rw [opensZ, openss_ok hl h h12 ks hk.2, Bool.and_true]
    have := (open_all hl h 13 (by omega) (kid0 ks)).1
    have h1 := hk.1
    simp only [Bool.or_eq_true, Bool.not_eq_true', Bool.and_eq_true, decide_eq_true_eq, decide_eq_false_iff_not] at h1 ⊢
    rcases h1 with h1 | h1
    · exact .inl h1
    · exact .inr ⟨h1, this⟩
theorem openss_ok {l : List NT} (hl : NoTwice l) (h : AllEnd l) (h12 : l.length ≤ 12) : ∀ ks, kidsOks ks = true → opensZs l ks = true
  | [], _ => rfl
  | t :: ks, hk => by
    rw [kidsOks, Bool.and_eq_true] at hk
    rw [opensZs, opens_ok hl h h12 t hk.1, openss_ok hl h h12 ks hk.2]; rfl
end
theorem kidsOks_of {ks : List Tz} (h : ∀ t ∈ ks, kidsOk t = true) : kidsOks ks = true := by
  induction ks with
  | nil => rfl
  | cons t ks ih => rw [kidsOks, h t List.mem_cons_self, ih (fun x hx => h x (List.mem_cons_of_mem _ hx))]; rfl
theorem optOf_allT {s : Sz} : optOf s = (allT s).any (nestZ s.types) := by
  unfold optOf allT
  rw [List.any_append, List.any_append, nestsZ_any, List.any_flatMap]
  have e : (s.sigs.any fun g => nestZ s.types g.result || nestsZ s.types g.params) = s.sigs.any fun g => (sgT g).any (nestZ s.types) := by
    congr 1; funext g; unfold sgT; rw [List.any_append, nestsZ_any]; simp [Bool.or_comm]
  rw [e]
  simp only [List.any_cons, List.any_nil, Bool.or_false]
  cases List.any (List.map (fun x => x.snd) s.types) (nestZ s.types) <;> cases nestZ s.types s.main <;> simp
theorem told_kids {s : Sz} (h : schZ s = 0) : ∀ t ∈ allT s, kidsOk t = true := by
  obtain ⟨⟨e, n⟩, h1⟩ : ∃ p, allZ (hasZ s.types) 1 0 (s.types.map (·.2)) = p := ⟨_, rfl⟩
  have he : e = 0 := by
    by_cases he : e = 0
    · exact he
    · rw [schZ_bad1 h1 he] at h; exact absurd h he
  subst he
  obtain ⟨⟨e2, m⟩, h2⟩ : ∃ p, oneZ (hasZ s.types) 1 n s.main = p := ⟨_, rfl⟩
  have he2 : e2 = 0 := by
    by_cases he : e2 = 0
    · exact he
    · rw [schZ_bad2 h1 h2 he] at h; exact absurd h he
  subst he2
  rw [schZ_go h1 h2] at h
  exact all_kids h1 h2 (r := (fnsZ (hasZ s.types) m [] s.sigs).2) (Prod.ext h rfl)
/-- The code's check tells what the chapter's tells. -/
theorem check_same (s : Sz) : checkZ s = some (refC s) := by
  unfold checkZ
  by_cases h1 : 12 < s.types.length ∨ 12 < s.sigs.length
  · rw [if_pos h1]; unfold refC; rw [if_pos h1]
  · rw [if_neg h1]
    by_cases h2 : namesE wordB [] (s.types.map (·.1)) ≠ 0
    · rw [if_pos h2]; unfold refC; rw [if_neg h1, if_pos h2]
    · rw [if_neg h2]
      by_cases h3 : schZ s ≠ 0
      · rw [if_pos h3]; unfold refC; rw [if_neg h1, if_neg h2, if_pos h3]
      · rw [if_neg h3]
        have hr : refC s = if (finiteR s.types).length ≠ s.types.length then 14 else if (allT s).any (nestR s.types) = true then 17 else 0 := by
          unfold refC; rw [if_neg h1, if_neg h2, if_neg h3]
        have ht : Told s := told_of (by
          rw [hr]; split
          · exact .inr (.inl rfl)
          · split
            · exact .inr (.inr rfl)
            · exact .inl rfl)
        have hz := ht.size
        have hfew := ht.few
        have hm : (s.types.length + 1) * totZ s.types ≤ 13 * 400 := Nat.mul_le_mul (by omega) (by omega)
        have hsh := endsZ_short ht.once ht.kinds (by omega)
        rw [hr]
        by_cases h4 : (endsZ s.types).1.length < s.types.length
        · rw [if_pos h4, if_pos (hsh.1 h4)]
        · have h5 : AllEnd s.types := by
            unfold AllEnd
            by_cases e : (finiteR s.types).length = s.types.length
            · exact e
            · exact absurd (hsh.2 e) h4
          have e2 : (if (finiteR s.types).length ≠ s.types.length then 14 else if (allT s).any (nestR s.types) = true then 17 else 0) = if (allT s).any (nestR s.types) = true then 17 else 0 := if_neg (fun e => e h5)
          rw [if_neg h4, e2]
          have hk := told_kids (by simpa using h3)
          have ho : ∀ t ∈ allT s, opensZ s.types t = true := fun t htm => opens_ok ht.once h5 ht.few t (hk t htm)
          have hoo : ∀ ks : List Tz, (∀ t ∈ ks, t ∈ allT s) → opensZs s.types ks = true := fun ks hks => openss_ok ht.once h5 ht.few ks (kidsOks_of fun t htm => hk t (hks t htm))
          have hok : optOk s = true := by
            unfold optOk
            rw [Bool.and_eq_true, Bool.and_eq_true, List.all_eq_true]
            refine ⟨⟨hoo _ fun t htm => by unfold allT; simp only [List.mem_append]; exact .inl (.inl htm), fun g hg => ?_⟩, ho _ (by unfold allT; simp)⟩
            rw [Bool.and_eq_true]
            have hin : ∀ t, t ∈ sgT g → t ∈ allT s := fun t htm => by unfold allT; rw [List.mem_append]; exact .inr (List.mem_flatMap.2 ⟨g, hg, htm⟩)
            exact ⟨ho _ (hin _ (by unfold sgT; simp)), hoo _ fun t htm => hin t (by unfold sgT; simp [htm])⟩
          rw [if_pos hok, optOf_allT, show (allT s).any (nestR s.types) = (allT s).any (nestZ s.types) by congr 1; funext t; exact nest_same ht.once h5 ht.few t]
/-- A schema that may be. -/
structure GoodZ (s : Sz) : Prop extends Told s where
  ends : AllEnd s.types
theorem good_of {s : Sz} (h : refC s = 0) : GoodZ s := by
  refine ⟨told_of (.inl h), ?_⟩
  unfold refC at h
  split at h
  · cases h
  · split at h
    · rename_i h1; exact absurd h h1
    · split at h
      · rename_i h1; exact absurd h h1
      · split at h
        · cases h
        · rename_i h1; unfold AllEnd; omega
end Sp
end Go.Proofs.Ytdophmlnmbcjlaa
