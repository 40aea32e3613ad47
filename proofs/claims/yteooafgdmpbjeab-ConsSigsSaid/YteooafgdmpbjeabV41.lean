/- What a schema that passes is like: names that stand once, kinds, sizes; and of what Tree makes. -/
import Derived.Test.YteooafgdmpbjeabV40
namespace Go.Proofs.Yteooafgdmpbjeab
namespace Sp
open Sc
theorem bl_irrefl : ∀ a : List UInt8, Op.bytesLess a a = false
  | [] => rfl
  | a :: l => by simp [Op.bytesLess, bl_irrefl l]
theorem bl_trans : ∀ a b c : List UInt8, Op.bytesLess a b = true → Op.bytesLess b c = true → Op.bytesLess a c = true
  | [], [], _, h, _ => by simp [Op.bytesLess] at h
  | [], _ :: _, [], _, h => by simp [Op.bytesLess] at h
  | [], _ :: _, _ :: _, _, _ => by simp [Op.bytesLess]
  | _ :: _, [], _, h, _ => by simp [Op.bytesLess] at h
  | _ :: _, _ :: _, [], _, h => by simp [Op.bytesLess] at h
  | x :: a, y :: b, z :: c, h1, h2 => by
    have ih := bl_trans a b c
    simp only [Op.bytesLess] at h1 h2 ⊢
    simp only [Bool.or_eq_true, Bool.and_eq_true, decide_eq_true_eq, beq_iff_eq] at h1 h2 ⊢
    rcases h1 with h1 | ⟨rfl, h1⟩
    · rcases h2 with h2 | ⟨rfl, h2⟩
      · exact .inl (UInt8.lt_trans h1 h2)
      · exact .inl h1
    · rcases h2 with h2 | ⟨rfl, h2⟩
      · exact .inl h2
      · exact .inr ⟨rfl, ih h1 h2⟩
theorem bl_total : ∀ a b : List UInt8, Op.bytesLess a b = false → (a == b) = false → Op.bytesLess b a = true
  | [], [], _, h => by simp at h
  | [], _ :: _, h, _ => by simp [Op.bytesLess] at h
  | _ :: _, [], _, _ => by simp [Op.bytesLess]
  | x :: a, y :: b, h1, h2 => by
    have ih := bl_total a b
    simp only [Op.bytesLess] at h1 ⊢
    simp only [Bool.or_eq_false_iff, Bool.and_eq_false_imp, decide_eq_false_iff_not, beq_iff_eq] at h1
    simp only [Bool.or_eq_true, Bool.and_eq_true, decide_eq_true_eq, beq_iff_eq]
    by_cases e : x = y
    · subst e
      exact .inr ⟨rfl, ih (h1.2 rfl) (by simpa using h2)⟩
    · exact .inl (by
        have := h1.1
        rw [UInt8.lt_iff_toNat_lt] at this ⊢
        have : x.toNat ≠ y.toNat := fun h => e (UInt8.toNat_inj.1 h)
        omega)
theorem namesE_rise {tk : List UInt8 → Bool} : ∀ (ns : List (List UInt8)) (a : List UInt8), namesE tk a ns = 0 → (∀ x ∈ ns, Op.bytesLess a x = true) ∧ ns.Pairwise (fun x y => Op.bytesLess x y = true)
  | [], a, _ => ⟨(fun x hx => by cases hx), List.Pairwise.nil⟩
  | n :: ns, a, h => by
    rw [namesE] at h
    split at h
    · rename_i h1
      obtain ⟨k1, k2⟩ := namesE_rise ns n h
      have hl : Op.bytesLess a n = true := by
        unfold nameE at h1
        split at h1
        · cases h1
        · split at h1
          · cases h1
          · rename_i h2
            unfold leB at h2
            simp only [Bool.or_eq_true, not_or, Bool.not_eq_true] at h2
            exact bl_total n a h2.1 h2.2
      refine ⟨fun x hx => ?_, List.Pairwise.cons k1 k2⟩
      rcases List.mem_cons.1 hx with rfl | hx
      · exact hl
      · exact bl_trans a n x hl (k1 x hx)
    · rename_i h1; exact absurd h h1
theorem rise_once {tk : List UInt8 → Bool} {l : List NT} (h : namesE tk [] (l.map (·.1)) = 0) : NoTwice l := by
  have hp := (namesE_rise _ _ h).2
  rw [List.pairwise_iff_getElem] at hp
  intro i j hi hj e
  rcases Nat.lt_trichotomy i j with hlt | rfl | hlt
  · have := hp i j (by simpa using hi) (by simpa using hj) hlt
    simp only [List.getElem_map] at this
    rw [e, bl_irrefl] at this; cases this
  · rfl
  · have := hp j i (by simpa using hj) (by simpa using hi) hlt
    simp only [List.getElem_map] at this
    rw [e, bl_irrefl] at this; cases this
mutual
theorem oneZ_good (has : List UInt8 → Bool) : ∀ (t : Tz) (d n : Nat), (oneZ has d n t).1 = 0 → kindsR t = true ∧ (oneZ has d n t).2 = n + sizeZ t
  | .mk k nm ns ks, d, n, h0 => by
    rw [oneZ] at h0 ⊢
    split at h0
    · cases h0
    · rename_i c1
      split at h0
      · cases h0
      · rename_i c2
        split at h0
        · rename_i h3; exact absurd h0 h3
        · rename_i h3
          obtain ⟨k1, k2⟩ := allZ_good has ks (d + 1) (n + 1) h0
          rw [if_neg c1, if_neg c2, if_neg h3, kindsR, sizeZ]
          refine ⟨?_, by omega⟩
          rw [k1, Bool.and_true, decide_eq_true_eq]
          have h4 : ownE has k nm ns ks.length = 0 := by simpa using h3
          unfold ownE at h4
          split at h4
          · cases h4
          · omega
theorem allZ_good (has : List UInt8 → Bool) : ∀ (ks : List Tz) (d n : Nat), (allZ has d n ks).1 = 0 → kindsRs ks = true ∧ (allZ has d n ks).2 = n + sizeZs ks
  | [], _, n, _ => ⟨rfl, by simp [allZ, sizeZs]⟩
  | t :: ks, d, n, h0 => by
    rw [allZ] at h0 ⊢
    split at h0
    · rename_i h1
      obtain ⟨a1, a2⟩ := oneZ_good has t d n h1
      obtain ⟨b1, b2⟩ := allZ_good has ks d _ h0
      rw [if_pos h1, kindsRs, a1, b1, sizeZs]
      exact ⟨rfl, by omega⟩
    · rename_i h1; exact absurd h0 h1
end
/-- Answers that loops and Opts have for themselves. -/
def own14 (e : Nat) : Prop := e ≠ 14 ∧ e ≠ 17
theorem nameE_14 (a n : List UInt8) (b : Bool) : own14 (nameE a n b) := by
  unfold nameE own14; split
  · decide
  · split <;> decide
theorem namesE_14 {tk : List UInt8 → Bool} : ∀ (ns : List (List UInt8)) (a : List UInt8), own14 (namesE tk a ns)
  | [], _ => by rw [namesE]; unfold own14; decide
  | n :: ns, a => by
    rw [namesE]; split
    · exact namesE_14 ns n
    · exact nameE_14 _ _ _
theorem ownE_14 (has : List UInt8 → Bool) (k : Int) (nm : List UInt8) (ns : List (List UInt8)) (m : Nat) : own14 (ownE has k nm ns m) := by
  unfold ownE
  split
  · unfold own14; decide
  · split
    · unfold own14; decide
    · split
      · unfold own14; decide
      · unfold fieldE
        split
        · unfold own14; decide
        · split
          · exact namesE_14 _ _
          · split <;> (unfold own14; decide)
mutual
theorem oneZ_14 (has : List UInt8 → Bool) : ∀ (t : Tz) (d n : Nat), own14 (oneZ has d n t).1
  | .mk k nm ns ks, d, n => by
    rw [oneZ]
    split
    · unfold own14; simp
    · split
      · unfold own14; simp
      · split
        · exact ownE_14 _ _ _ _ _
        · exact allZ_14 has ks _ _
theorem allZ_14 (has : List UInt8 → Bool) : ∀ (ks : List Tz) (d n : Nat), own14 (allZ has d n ks).1
  | [], _, _ => by rw [allZ]; unfold own14; simp
  | t :: ks, d, n => by
    rw [allZ]; split
    · exact allZ_14 has ks _ _
    · exact oneZ_14 has t _ _
end
theorem fnsZ_14 (has : List UInt8 → Bool) : ∀ (l : List Sg) (a : List UInt8) (n : Nat), own14 (fnsZ has n a l).1
  | [], _, _ => by rw [fnsZ]; unfold own14; simp
  | g :: l, a, n => by
    rw [fnsZ]; split
    · exact fnsZ_14 has l _ _
    · unfold fnZ
      split
      · exact nameE_14 _ _ _
      · split
        · unfold own14; simp
        · split
          · exact allZ_14 _ _ _ _
          · exact oneZ_14 _ _ _ _
theorem schZ_14 (s : Sz) : own14 (schZ s) := by
  unfold schZ
  simp only
  split
  · exact allZ_14 _ _ _ _
  · split
    · exact oneZ_14 _ _ _ _
    · exact fnsZ_14 _ _ _ _
/-- A schema of which it is told at least whether each type ends. -/
structure Told (s : Sz) : Prop where
  once : NoTwice s.types
  kinds : kindsRs (s.types.map (·.2)) = true
  mkind : kindsR s.main = true
  few : s.types.length ≤ 12
  size : totZ s.types + sizeZ s.main ≤ 400
theorem told_of {s : Sz} (h : refC s = 0 ∨ refC s = 14 ∨ refC s = 17) : Told s := by
  unfold refC at h
  by_cases h1 : 12 < s.types.length ∨ 12 < s.sigs.length
  · rw [if_pos h1] at h; omega
  · rw [if_neg h1] at h
    by_cases h2 : namesE wordB [] (s.types.map (·.1)) = 0
    · rw [if_neg (by simpa using h2)] at h
      by_cases h3 : schZ s = 0
      · have a0 : (allZ (hasZ s.types) 1 0 (s.types.map (·.2))).1 = 0 := by
          cases hh : allZ (hasZ s.types) 1 0 (s.types.map (·.2)) with
          | mk e n =>
            by_cases he : e = 0
            · exact he
            · rw [schZ_bad1 hh he] at h3; exact absurd h3 he
        obtain ⟨k1, k2⟩ := allZ_good _ _ _ _ a0
        have m0 : (oneZ (hasZ s.types) 1 (allZ (hasZ s.types) 1 0 (s.types.map (·.2))).2 s.main).1 = 0 := by
          cases hh : oneZ (hasZ s.types) 1 (allZ (hasZ s.types) 1 0 (s.types.map (·.2))).2 s.main with
          | mk e n =>
            by_cases he : e = 0
            · exact he
            · have := schZ_bad2 (n := (allZ (hasZ s.types) 1 0 (s.types.map (·.2))).2) (show _ = (0, _) from Prod.ext a0 rfl) hh he
              rw [this] at h3; exact absurd h3 he
        obtain ⟨k3, k4⟩ := oneZ_good _ _ _ _ m0
        have hle := allZ_le (hasZ s.types) (s.types.map (·.2)) 1 0 (by omega) a0
        have hle2 := oneZ_le (hasZ s.types) s.main 1 _ hle m0
        exact ⟨rise_once h2, k1, k3, by omega, by unfold totZ; omega⟩
      · rw [if_pos h3] at h
        have := schZ_14 s; unfold own14 at this; omega
    · rw [if_pos (by simpa using h2)] at h
      have := namesE_14 (tk := wordB) (s.types.map (·.1)) []; unfold own14 at this; omega
end Sp
end Go.Proofs.Yteooafgdmpbjeab
namespace Go.Proofs.Yteooafgdmpbjeab
namespace Sp
open Sc
theorem look_first {l : List NT} (hl : NoTwice l) (nm : List UInt8) : lookZ l nm = firstZ l nm := by
  unfold lookZ lastN firstZ
  cases h : l.reverse.find? (fun x => decide (x.1 = nm)) with
  | none =>
    have h1 : l.find? (fun x => decide (x.1 = nm)) = none := by
      rw [List.find?_eq_none] at h ⊢
      exact fun x hx => h x (List.mem_reverse.2 hx)
    rw [h1]; rfl
  | some x =>
    have hx := List.mem_reverse.1 (List.mem_of_find?_eq_some h)
    have hxn : x.1 = nm := by simpa using List.find?_some h
    cases h1 : l.find? (fun x => decide (x.1 = nm)) with
    | none =>
      rw [List.find?_eq_none] at h1
      exact absurd (by simpa using hxn) (h1 x hx)
    | some y =>
      have hy := List.mem_of_find?_eq_some h1
      have hyn : y.1 = nm := by simpa using List.find?_some h1
      cases hl.eq hx hy (hxn.trans hyn.symm)
      rfl
theorem lookZ_in {l : List NT} (hl : NoTwice l) {x : NT} (hx : x ∈ l) : lookZ l x.1 = x.2 := by
  rw [look_first hl]
  unfold firstZ
  cases h1 : l.find? (fun y => decide (y.1 = x.1)) with
  | none => rw [List.find?_eq_none] at h1; exact absurd (by simp) (h1 x hx)
  | some y =>
    have hyn : y.1 = x.1 := by simpa using List.find?_some h1
    cases hl.eq (List.mem_of_find?_eq_some h1) hx hyn
    rfl
theorem lookZ_no {l : List NT} {nm : List UInt8} (h : ∀ x ∈ l, x.1 ≠ nm) : lookZ l nm = .mk 0 [] [] [] := by
  unfold lookZ lastN
  rw [List.find?_eq_none.2 (fun x hx => by simpa using h x (List.mem_reverse.1 hx))]
  rfl
theorem openZ_not (l : List NT) (f : Nat) (t : Tz) (h : t.kind ≠ 9) : openZ l f t = t := by
  cases f with
  | zero => rfl
  | succ f => obtain ⟨k, nm, ns, ks⟩ := t; rw [openZ]; exact if_neg h
theorem openZ_mk (l : List NT) (f : Nat) {k : Int} (h : k ≠ 9) (nm : List UInt8) (ns : List (List UInt8)) (ks : List Tz) : openZ l f (.mk k nm ns ks) = .mk k nm ns ks := openZ_not l f _ h
theorem openZ_R {l : List NT} (hl : NoTwice l) : ∀ (f : Nat) (t : Tz), openR l f t = openZ l f t
  | 0, _ => rfl
  | f + 1, .mk k nm ns ks => by rw [openR, openZ, look_first hl, openZ_R hl f]
/-- A name that comes up within k rounds opens within k steps. -/
theorem open_rank {l : List NT} (hl : NoTwice l) : ∀ (k : Nat) (nm : List UInt8), nm ∈ finR l k → ∀ f, k ≤ f → (openZ l f (lookZ l nm)).kind ≠ 9 ∧ openZ l f (lookZ l nm) = openZ l k (lookZ l nm)
  | 0, _, h, _, _ => by cases h
  | k + 1, nm, h, f, hf => by
    obtain ⟨y, hy, rfl⟩ := List.mem_map.1 (show nm ∈ stepR l (finR l k) from h)
    rw [List.mem_filter] at hy
    rw [lookZ_in hl hy.1]
    obtain ⟨g, rfl⟩ : ∃ g, f = g + 1 := ⟨f - 1, by omega⟩
    obtain ⟨x, t⟩ := y
    obtain ⟨kd, m, ns, ks⟩ := t
    dsimp only at hy ⊢
    by_cases h9 : kd = 9
    · subst h9
      have hm : m ∈ finR l k := by
        have := hy.2
        rw [endsR, if_neg (by decide), if_neg (by decide), if_pos rfl] at this
        exact inR_iff.1 this
      have ih := open_rank hl k m hm
      rw [openZ, openZ, if_pos rfl, if_pos rfl]
      exact ⟨(ih g (by omega)).1, (ih g (by omega)).2⟩
    · rw [openZ_mk _ _ h9, openZ_mk _ _ h9]; exact ⟨h9, rfl⟩
/-- All named types end. -/
def AllEnd (l : List NT) : Prop := (finiteR l).length = l.length
theorem AllEnd.rank {l : List NT} (h : AllEnd l) (hl : NoTwice l) {x : NT} (hx : x ∈ l) : x.1 ∈ finR l l.length := by
  have e : finR l (l.length + 1) = finR l l.length := by
    rcases finR_grows l l.length with ⟨j, hj, e⟩ | h1
    · have a := finR_stuck l j e (l.length - j)
      have b := finR_stuck l j e (l.length + 1 - j)
      rw [show j + (l.length - j) = l.length by omega] at a
      rw [show j + (l.length + 1 - j) = l.length + 1 by omega] at b
      rw [a, b]
    · have a := finR_up l l.length
      have h2 : (finR l (l.length + 1)).length = l.length := h
      have h3 := finR_len l l.length
      exact (a.eq_of_length (by omega)).symm
  rw [← e]
  have h2 : (l.filter fun x => endsR (inR (finR l l.length)) x.2).length = l.length := by
    have := h; unfold AllEnd finiteR at this; rwa [show finR l (l.length + 1) = stepR l (finR l l.length) from rfl, stepR, List.length_map] at this
  have h3 := List.filter_eq_self.1 (List.filter_sublist.eq_of_length h2)
  exact (mem_stepR hl hx).2 (h3 x hx)
theorem open_all {l : List NT} (hl : NoTwice l) (h : AllEnd l) (f : Nat) (hf : l.length < f) (t : Tz) : (openZ l f t).kind ≠ 9 ∧ openZ l f t = openZ l (l.length + 1) t := by
  obtain ⟨g, rfl⟩ : ∃ g, f = g + 1 := ⟨f - 1, by omega⟩
  obtain ⟨kd, m, ns, ks⟩ := t
  by_cases h9 : kd = 9
  · subst h9
    rw [openZ, openZ, if_pos rfl, if_pos rfl]
    by_cases hm : ∃ x ∈ l, x.1 = m
    · obtain ⟨x, hx, rfl⟩ := hm
      exact open_rank hl _ _ (h.rank hl hx) g (by omega)
    · rw [lookZ_no (fun x hx e => hm ⟨x, hx, e⟩), openZ_not _ _ _ (by simp [Tz.kind]), openZ_not _ _ _ (by simp [Tz.kind])]
      exact ⟨by simp [Tz.kind], rfl⟩
  · rw [openZ_mk _ _ h9, openZ_mk _ _ h9]; exact ⟨h9, rfl⟩
mutual
theorem nest_same {l : List NT} (hl : NoTwice l) (h : AllEnd l) (h12 : l.length ≤ 12) : ∀ t, nestR l t = nestZ l t
  | .mk k nm ns ks => by rw [nestR, nestZ, openZ_R hl, ← (open_all hl h 13 (by omega) (kid0 ks)).2, nests_same hl h h12 ks]
theorem nests_same {l : List NT} (hl : NoTwice l) (h : AllEnd l) (h12 : l.length ≤ 12) : ∀ ks, nestsR l ks = nestsZ l ks
  | [] => rfl
  | t :: ks => by rw [nestsR, nestsZ, nest_same hl h h12 t, nests_same hl h h12 ks]
end
mutual
theorem opens_ok {l : List NT} (hl : NoTwice l) (h : AllEnd l) (h12 : l.length ≤ 12) : ∀ t, kidsOk t = true → opensZ l t = true
  | .mk k nm ns ks, hk => by
    rw [kidsOk, Bool.and_eq_true] at hk
    rw [opensZ, openss_ok hl h h12 ks hk.2, Bool.and_true]
    have := (open_all hl h 13 (by omega) (kid0 ks)).1
    have h1 := hk.1
    simp only [Bool.or_eq_true, Bool.not_eq_true', Bool.and_eq_true, decide_eq_true_eq, decide_eq_false_iff_not] at h1 ⊢
    rcases h1 with h1 | h1
    · exact .inl h1
    · exact .inr ⟨h1, this⟩
theorem openss_ok {l : List NT} (hl : NoTwice l) (h : AllEnd l) (h12 : l.length ≤ 12) : ∀ ks, kidsOks ks = true → opensZs l ks = true
  | [], _ => rfl
  | t :: ks, hk => by
    rw [kidsOks, Bool.and_eq_true] at hk
    rw [opensZs, opens_ok hl h h12 t hk.1, openss_ok hl h h12 ks hk.2]; rfl
end
theorem kidsOks_of {ks : List Tz} (h : ∀ t ∈ ks, kidsOk t = true) : kidsOks ks = true := by
  induction ks with
  | nil => rfl
  | cons t ks ih => rw [kidsOks, h t List.mem_cons_self, ih (fun x hx => h x (List.mem_cons_of_mem _ hx))]; rfl
theorem optOf_allT {s : Sz} : optOf s = (allT s).any (nestZ s.types) := by
  unfold optOf allT
  rw [List.any_append, List.any_append, nestsZ_any, List.any_flatMap]
  have e : (s.sigs.any fun g => nestZ s.types g.result || nestsZ s.types g.params) = s.sigs.any fun g => (sgT g).any (nestZ s.types) := by
    congr 1; funext g; unfold sgT; rw [List.any_append, nestsZ_any]; simp [Bool.or_comm]
  rw [e]
  simp only [List.any_cons, List.any_nil, Bool.or_false]
  cases List.any (List.map (fun x => x.snd) s.types) (nestZ s.types) <;> cases nestZ s.types s.main <;> simp
theorem told_kids {s : Sz} (h : schZ s = 0) : ∀ t ∈ allT s, kidsOk t = true := by
  obtain ⟨⟨e, n⟩, h1⟩ : ∃ p, allZ (hasZ s.types) 1 0 (s.types.map (·.2)) = p := ⟨_, rfl⟩
  have he : e = 0 := by
    by_cases he : e = 0
    · exact he
    · rw [schZ_bad1 h1 he] at h; exact absurd h he
  subst he
  obtain ⟨⟨e2, m⟩, h2⟩ : ∃ p, oneZ (hasZ s.types) 1 n s.main = p := ⟨_, rfl⟩
  have he2 : e2 = 0 := by
    by_cases he : e2 = 0
    · exact he
    · rw [schZ_bad2 h1 h2 he] at h; exact absurd h he
  subst he2
  rw [schZ_go h1 h2] at h
  exact all_kids h1 h2 (r := (fnsZ (hasZ s.types) m [] s.sigs).2) (Prod.ext h rfl)
/-- The code's check tells what the chapter's tells. -/
theorem check_same (s : Sz) : checkZ s = some (refC s) := by
  unfold checkZ
  by_cases h1 : 12 < s.types.length ∨ 12 < s.sigs.length
  · rw [if_pos h1]; unfold refC; rw [if_pos h1]
  · rw [if_neg h1]
    by_cases h2 : namesE wordB [] (s.types.map (·.1)) ≠ 0
    · rw [if_pos h2]; unfold refC; rw [if_neg h1, if_pos h2]
    · rw [if_neg h2]
      by_cases h3 : schZ s ≠ 0
      · rw [if_pos h3]; unfold refC; rw [if_neg h1, if_neg h2, if_pos h3]
      · rw [if_neg h3]
        have hr : refC s = if (finiteR s.types).length ≠ s.types.length then 14 else if (allT s).any (nestR s.types) = true then 17 else 0 := by
          unfold refC; rw [if_neg h1, if_neg h2, if_neg h3]
        have ht : Told s := told_of (by
          rw [hr]; split
          · exact .inr (.inl rfl)
          · split
            · exact .inr (.inr rfl)
            · exact .inl rfl)
        have hz := ht.size
        have hfew := ht.few
        have hm : (s.types.length + 1) * totZ s.types ≤ 13 * 400 := Nat.mul_le_mul (by omega) (by omega)
        have hsh := endsZ_short ht.once ht.kinds (by omega)
        rw [hr]
        by_cases h4 : (endsZ s.types).1.length < s.types.length
        · rw [if_pos h4, if_pos (hsh.1 h4)]
        · have h5 : AllEnd s.types := by
            unfold AllEnd
            by_cases e : (finiteR s.types).length = s.types.length
            · exact e
            · exact absurd (hsh.2 e) h4
          have e2 : (if (finiteR s.types).length ≠ s.types.length then 14 else if (allT s).any (nestR s.types) = true then 17 else 0) = if (allT s).any (nestR s.types) = true then 17 else 0 := if_neg (fun e => e h5)
          rw [if_neg h4, e2]
          have hk := told_kids (by simpa using h3)
          have ho : ∀ t ∈ allT s, opensZ s.types t = true := fun t htm => opens_ok ht.once h5 ht.few t (hk t htm)
          have hoo : ∀ ks : List Tz, (∀ t ∈ ks, t ∈ allT s) → opensZs s.types ks = true := fun ks hks => openss_ok ht.once h5 ht.few ks (kidsOks_of fun t htm => hk t (hks t htm))
          have hok : optOk s = true := by
            unfold optOk
            rw [Bool.and_eq_true, Bool.and_eq_true, List.all_eq_true]
            refine ⟨⟨hoo _ fun t htm => by unfold allT; simp only [List.mem_append]; exact .inl (.inl htm), fun g hg => ?_⟩, ho _ (by unfold allT; simp)⟩
            rw [Bool.and_eq_true]
            have hin : ∀ t, t ∈ sgT g → t ∈ allT s := fun t htm => by unfold allT; rw [List.mem_append]; exact .inr (List.mem_flatMap.2 ⟨g, hg, htm⟩)
            exact ⟨ho _ (hin _ (by unfold sgT; simp)), hoo _ fun t htm => hin t (by unfold sgT; simp [htm])⟩
          rw [if_pos hok, optOf_allT, show (allT s).any (nestR s.types) = (allT s).any (nestZ s.types) by congr 1; funext t; exact nest_same ht.once h5 ht.few t]
/-- A schema that may be. -/
structure GoodZ (s : Sz) : Prop extends Told s where
  ends : AllEnd s.types
theorem good_of {s : Sz} (h : refC s = 0) : GoodZ s := by
  refine ⟨told_of (.inl h), ?_⟩
  unfold refC at h
  split at h
  · cases h
  · split at h
    · rename_i h1; exact absurd h h1
    · split at h
      · rename_i h1; exact absurd h h1
      · split at h
        · cases h
        · rename_i h1; unfold AllEnd; omega
end Sp
end Go.Proofs.Yteooafgdmpbjeab
