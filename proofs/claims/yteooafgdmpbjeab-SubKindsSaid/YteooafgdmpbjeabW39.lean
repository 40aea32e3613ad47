/- Both ways of checking a schema agree: what the code's own check tells is what the chapter's tells. -/
import Derived.Test.YteooafgdmpbjeabW38
import Derived.Test.YteooafgdmpbjeabW3
import Derived.Test.YteooafgdmpbjeabW32
import Derived.Deep.RegionHeld3
namespace Go.Proofs.Yteooafgdmpbjeab
namespace Sp
open Sc
theorem look_first {l : List NT} (hl : NoTwice l) (nm : List UInt8) : lookZ l nm = firstZ l nm := by
  unfold lookZ lastN firstZ
  cases h : l.reverse.find? (fun x => decide (x.1 = nm)) with
  | none =>
    have h1 : l.find? (fun x => decide (x.1 = nm)) = none := by
      rw [List.find?_eq_none] at h ⊢
      exact fun x hx => h x (List.mem_reverse.2 hx)
    rw [h1]; rfl
  | some x =>
    have hx := List.mem_reverse.1 (List.mem_of_find?_eq_some h)
    have hxn : x.1 = nm := by simpa using List.find?_some h
    cases h1 : l.find? (fun x => decide (x.1 = nm)) with
    | none =>
      rw [List.find?_eq_none] at h1
      exact absurd (by simpa using hxn) (h1 x hx)
    | some y =>
      have hy := List.mem_of_find?_eq_some h1
      have hyn : y.1 = nm := by simpa using List.find?_some h1
      cases hl.eq hx hy (hxn.trans hyn.symm)
      rfl
theorem lookZ_in {l : List NT} (hl : NoTwice l) {x : NT} (hx : x ∈ l) : lookZ l x.1 = x.2 := by
  rw [look_first hl]
  unfold firstZ
  cases h1 : l.find? (fun y => decide (y.1 = x.1)) with
  | none => rw [List.find?_eq_none] at h1; exact absurd (by simp) (h1 x hx)
  | some y =>
    have hyn : y.1 = x.1 := by simpa using List.find?_some h1
    cases hl.eq (List.mem_of_find?_eq_some h1) hx hyn
    rfl
theorem lookZ_no {l : List NT} {nm : List UInt8} (h : ∀ x ∈ l, x.1 ≠ nm) : lookZ l nm = .mk 0 [] [] [] := by
  unfold lookZ lastN
  rw [List.find?_eq_none.2 (fun x hx => by simpa using h x (List.mem_reverse.1 hx))]
  rfl
theorem openZ_not (l : List NT) (f : Nat) (t : Tz) (h : t.kind ≠ 9) : openZ l f t = t := by
  cases f with
  | zero => rfl
  | succ f => obtain ⟨k, nm, ns, ks⟩ := t; rw [openZ]; exact if_neg h
theorem openZ_mk (l : List NT) (f : Nat) {k : Int} (h : k ≠ 9) (nm : List UInt8) (ns : List (List UInt8)) (ks : List Tz) : openZ l f (.mk k nm ns ks) = .mk k nm ns ks := openZ_not l f _ h
theorem openZ_R {l : List NT} (hl : NoTwice l) : ∀ (f : Nat) (t : Tz), openR l f t = openZ l f t
  | 0, _ => rfl
  | f + 1, .mk k nm ns ks => by rw [openR, openZ, look_first hl, openZ_R hl f]
/-- A name that comes up within k rounds opens within k steps. -/
theorem open_rank {l : List NT} (hl : NoTwice l) : ∀ (k : Nat) (nm : List UInt8), nm ∈ finR l k → ∀ f, k ≤ f → (openZ l f (lookZ l nm)).kind ≠ 9 ∧ openZ l f (lookZ l nm) = openZ l k (lookZ l nm)
  | 0, _, h, _, _ => by cases h
  | k + 1, nm, h, f, hf => by
    obtain ⟨y, hy, rfl⟩ := List.mem_map.1 (show nm ∈ stepR l (finR l k) from h)
    rw [List.mem_filter] at hy
    rw [lookZ_in hl hy.1]
    obtain ⟨g, rfl⟩ : ∃ g, f = g + 1 := ⟨f - 1, by omega⟩
    obtain ⟨x, t⟩ := y
    obtain ⟨kd, m, ns, ks⟩ := t
    dsimp only at hy ⊢
    by_cases h9 : kd = 9
    · subst h9
      have hm : m ∈ finR l k := by
        have := hy.2
        rw [endsR, if_neg (by decide), if_neg (by decide), if_pos rfl] at this
        exact inR_iff.1 this
      have ih := open_rank hl k m hm
      rw [openZ, openZ, if_pos rfl, if_pos rfl]
      exact ⟨(ih g (by omega)).1, (ih g (by omega)).2⟩
    · rw [openZ_mk _ _ h9, openZ_mk _ _ h9]; exact ⟨h9, rfl⟩
/-- All named types end. -/
def AllEnd (l : List NT) : Prop := (finiteR l).length = l.length
theorem AllEnd.rank {l : List NT} (h : AllEnd l) (hl : NoTwice l) {x : NT} (hx : x ∈ l) : x.1 ∈ finR l l.length := by
  have e : finR l (l.length + 1) = finR l l.length := by
    rcases finR_grows l l.length with ⟨j, hj, e⟩ | h1
    · have a := finR_stuck l j e (l.length - j)
      have b := finR_stuck l j e (l.length + 1 - j)
      rw [show j + (l.length - j) = l.length by omega] at a
      rw [show j + (l.length + 1 - j) = l.length + 1 by omega] at b
      rw [a, b]
    · have a := finR_up l l.length
      have h2 : (finR l (l.length + 1)).length = l.length := h
      have h3 := finR_len l l.length
      exact (a.eq_of_length (by omega)).symm
  rw [← e]
  have h2 : (l.filter fun x => endsR (inR (finR l l.length)) x.2).length = l.length := by
    have := h; unfold AllEnd finiteR at this; rwa [show finR l (l.length + 1) = stepR l (finR l l.length) from rfl, stepR, List.length_map] at this
  have h3 := List.filter_eq_self.1 (List.filter_sublist.eq_of_length h2)
  exact (mem_stepR hl hx).2 (h3 x hx)
theorem open_all {l : List NT} (hl : NoTwice l) (h : AllEnd l) (f : Nat) (hf : l.length < f) (t : Tz) : (openZ l f t).kind ≠ 9 ∧ openZ l f t = openZ l (l.length + 1) t := by
  obtain ⟨g, rfl⟩ : ∃ g, f = g + 1 := ⟨f - 1, by omega⟩
  obtain ⟨kd, m, ns, ks⟩ := t
  by_cases h9 : kd = 9
  · subst h9
    rw [openZ, openZ, if_pos rfl, if_pos rfl]
    by_cases hm : ∃ x ∈ l, x.1 = m
    · obtain ⟨x, hx, rfl⟩ := hm
      exact open_rank hl _ _ (h.rank hl hx) g (by omega)
    · rw [lookZ_no (fun x hx e => hm ⟨x, hx, e⟩), openZ_not _ _ _ (by simp [Tz.kind]), openZ_not _ _ _ (by simp [Tz.kind])]
      exact ⟨by simp [Tz.kind], rfl⟩
  · rw [openZ_mk _ _ h9, openZ_mk _ _ h9]; exact ⟨h9, rfl⟩
mutual
theorem nest_same {l : List NT} (hl : NoTwice l) (h : AllEnd l) (h12 : l.length ≤ 12) : ∀ t, nestR l t = nestZ l t
  | .mk k nm ns ks => by rw [nestR, nestZ, openZ_R hl, ← (open_all hl h 13 (by omega) (kid0 ks)).2, nests_same hl h h12 ks]
theorem nests_same {l : List NT} (hl : NoTwice l) (h : AllEnd l) (h12 : l.length ≤ 12) : ∀ ks, nestsR l ks = nestsZ l ks
  | [] => rfl
  | t :: ks => by rw [nestsR, nestsZ, nest_same hl h h12 t, nests_same hl h h12 ks]
end
mutual
theorem opens_ok {l : List NT} (hl : NoTwice l) (h : AllEnd l) (h12 : l.length ≤ 12) : ∀ t, kidsOk t = true → opensZ l t = true
  | .mk k nm ns ks, hk => by
    rw [kidsOk, Bool.and_eq_true] at hk
    rw [opensZ, openss_ok hl h h12 ks hk.2, Bool.and_true]
    have := (open_all hl h 13 (by omega) (kid0 ks)).1
    have h1 := hk.1
    simp only [Bool.or_eq_true, Bool.not_eq_true', Bool.and_eq_true, decide_eq_true_eq, decide_eq_false_iff_not] at h1 ⊢
    rcases h1 with h1 | h1
    · exact .inl h1
    · exact .inr ⟨h1, this⟩
theorem openss_ok {l : List NT} (hl : NoTwice l) (h : AllEnd l) (h12 : l.length ≤ 12) : ∀ ks, kidsOks ks = true → opensZs l ks = true
  | [], _ => rfl
  | t :: ks, hk => by
    rw [kidsOks, Bool.and_eq_true] at hk
    rw [opensZs, opens_ok hl h h12 t hk.1, openss_ok hl h h12 ks hk.2]; rfl
end
theorem kidsOks_of {ks : List Tz} (h : ∀ t ∈ ks, kidsOk t = true) : kidsOks ks = true := by
  induction ks with
  | nil => rfl
  | cons t ks ih => rw [kidsOks, h t List.mem_cons_self, ih (fun x hx => h x (List.mem_cons_of_mem _ hx))]; rfl
theorem optOf_allT {s : Sz} : optOf s = (allT s).any (nestZ s.types) := by
  unfold optOf allT
  rw [List.any_append, List.any_append, nestsZ_any, List.any_flatMap]
  have e : (s.sigs.any fun g => nestZ s.types g.result || nestsZ s.types g.params) = s.sigs.any fun g => (sgT g).any (nestZ s.types) := by
    congr 1; funext g; unfold sgT; rw [List.any_append, nestsZ_any]; simp [Bool.or_comm]
  rw [e]
  simp only [List.any_cons, List.any_nil, Bool.or_false]
  cases List.any (List.map (fun x => x.snd) s.types) (nestZ s.types) <;> cases nestZ s.types s.main <;> simp
theorem told_kids {s : Sz} (h : schZ s = 0) : ∀ t ∈ allT s, kidsOk t = true := by
  obtain ⟨⟨e, n⟩, h1⟩ : ∃ p, allZ (hasZ s.types) 1 0 (s.types.map (·.2)) = p := ⟨_, rfl⟩
  have he : e = 0 := by
    by_cases he : e = 0
    · exact he
    · rw [schZ_bad1 h1 he] at h; exact absurd h he
  subst he
  obtain ⟨⟨e2, m⟩, h2⟩ : ∃ p, oneZ (hasZ s.types) 1 n s.main = p := ⟨_, rfl⟩
  have he2 : e2 = 0 := by
    by_cases he : e2 = 0
    · exact he
    · rw [schZ_bad2 h1 h2 he] at h; exact absurd h he
  subst he2
  rw [schZ_go h1 h2] at h
  exact all_kids h1 h2 (r := (fnsZ (hasZ s.types) m [] s.sigs).2) (Prod.ext h rfl)
/-- The code's check tells what the chapter's tells. -/
theorem check_same (s : Sz) : checkZ s = some (refC s) := by
  unfold checkZ
  by_cases h1 : 12 < s.types.length ∨ 12 < s.sigs.length
  · rw [if_pos h1]; unfold refC; rw [if_pos h1]
  · rw [if_neg h1]
    by_cases h2 : namesE wordB [] (s.types.map (·.1)) ≠ 0
    · rw [if_pos h2]; unfold refC; rw [if_neg h1, if_pos h2]
    · rw [if_neg h2]
      by_cases h3 : schZ s ≠ 0
      · rw [if_pos h3]; unfold refC; rw [if_neg h1, if_neg h2, if_pos h3]
      · rw [if_neg h3]
        have hr : refC s = if (finiteR s.types).length ≠ s.types.length then 14 else if (allT s).any (nestR s.types) = true then 17 else 0 := by
          unfold refC; rw [if_neg h1, if_neg h2, if_neg h3]
        have ht : Told s := told_of (by
          rw [hr]; split
          · exact .inr (.inl rfl)
          · split
            · exact .inr (.inr rfl)
            · exact .inl rfl)
        have hz := ht.size
        have hfew := ht.few
        have hm : (s.types.length + 1) * totZ s.types ≤ 13 * 400 := Nat.mul_le_mul (by omega) (by omega)
        have hsh := endsZ_short ht.once ht.kinds (by omega)
        rw [hr]
        by_cases h4 : (endsZ s.types).1.length < s.types.length
        · rw [if_pos h4, if_pos (hsh.1 h4)]
        · have h5 : AllEnd s.types := by
            unfold AllEnd
            by_cases e : (finiteR s.types).length = s.types.length
            · exact e
            · exact absurd (hsh.2 e) h4
          have e2 : (if (finiteR s.types).length ≠ s.types.length then 14 else if (allT s).any (nestR s.types) = true then 17 else 0) = if (allT s).any (nestR s.types) = true then 17 else 0 := if_neg (fun e => e h5)
          rw [if_neg h4, e2]
          have hk := told_kids (by simpa using h3)
          have ho : ∀ t ∈ allT s, opensZ s.types t = true := fun t htm => opens_ok ht.once h5 ht.few t (hk t htm)
          have hoo : ∀ ks : List Tz, (∀ t ∈ ks, t ∈ allT s) → opensZs s.types ks = true := fun ks hks => openss_ok ht.once h5 ht.few ks (kidsOks_of fun t htm => hk t (hks t htm))
          have hok : optOk s = true := by
            unfold optOk
            rw [Bool.and_eq_true, Bool.and_eq_true, List.all_eq_true]
            refine ⟨⟨hoo _ fun t htm => by unfold allT; simp only [List.mem_append]; exact .inl (.inl htm), fun g hg => ?_⟩, ho _ (by unfold allT; simp)⟩
            rw [Bool.and_eq_true]
            have hin : ∀ t, t ∈ sgT g → t ∈ allT s := fun t htm => by unfold allT; rw [List.mem_append]; exact .inr (List.mem_flatMap.2 ⟨g, hg, htm⟩)
            exact ⟨ho _ (hin _ (by unfold sgT; simp)), hoo _ fun t htm => hin t (by unfold sgT; simp [htm])⟩
          rw [if_pos hok, optOf_allT, show (allT s).any (nestR s.types) = (allT s).any (nestZ s.types) by congr 1; funext t; exact nest_same ht.once h5 ht.few t]
end Sp
end Go.Proofs.Yteooafgdmpbjeab
namespace Go.Proofs.Yteooafgdmpbjeab
namespace Sp
open Sc
/-- What the named types stand for, one by one. -/
def namK (has : List UInt8 → Bool) (T : List Kz) (N : List NN) : List NT → Nat × List Kz × List NN
  | [] => (0, T, N)
  | x :: l => if (addK has T x.2).2.1 = 0 then namK has (addK has T x.2).2.2 (N ++ [(x.1, (addK has T x.2).1)]) l else ((addK has T x.2).2.1, (addK has T x.2).2.2, N)
def parK (has : List UInt8 → Bool) (T : List Kz) : List Tz → List Nat × Nat × List Kz
  | [] => ([], 0, T)
  | t :: ks => if (addK has T t).2.1 = 0 then ((addK has T t).1 :: (parK has (addK has T t).2.2 ks).1, (parK has (addK has T t).2.2 ks).2) else ([], (addK has T t).2)
theorem parK_append (has : List UInt8 → Bool) : ∀ (T : List Kz) (a b : List Tz), parK has T (a ++ b) = if (parK has T a).2.1 = 0 then ((parK has T a).1 ++ (parK has (parK has T a).2.2 b).1, (parK has (parK has T a).2.2 b).2) else parK has T a
  | T, [], b => by simp [parK]
  | T, t :: a, b => by
    rw [List.cons_append, parK, parK]
    by_cases h : (addK has T t).2.1 = 0
    · rw [if_pos h, if_pos h, parK_append has _ a b]
      dsimp only
      split
      · rfl
      · rfl
    · rw [if_neg h, if_neg h, if_neg h]
theorem parK_snoc (has : List UInt8 → Bool) (T : List Kz) (a : List Tz) (t : Tz) : parK has T (a ++ [t]) = if (parK has T a).2.1 = 0 then (if (addK has (parK has T a).2.2 t).2.1 = 0 then ((parK has T a).1 ++ [(addK has (parK has T a).2.2 t).1], (0, (addK has (parK has T a).2.2 t).2.2)) else ((parK has T a).1, (addK has (parK has T a).2.2 t).2)) else parK has T a := by
  rw [parK_append]
  split
  · simp only [parK]
    by_cases h : (addK has (parK has T a).2.2 t).2.1 = 0
    · rw [if_pos h, if_pos h]
    · rw [if_neg h, if_neg h]; simp
  · rfl
theorem parK_bad {has : List UInt8 → Bool} {T : List Kz} {ks : List Tz} {i : Nat} (h : (parK has T (ks.take i)).2.1 ≠ 0) : parK has T ks = parK has T (ks.take i) := by
  have := parK_append has T (ks.take i) (ks.drop i)
  rwa [List.take_append_drop, if_neg h] at this
/-- A function: its numbers, the error, the types. -/
def fnK (has : List UInt8 → Bool) (T : List Kz) (g : Sg) : GN × Nat × List Kz :=
  if (parK has T g.params).2.1 = 0 then ((g.name, (parK has T g.params).1, (addK has (parK has T g.params).2.2 g.result).1), (addK has (parK has T g.params).2.2 g.result).2)
  else ((g.name, [], 0), (parK has T g.params).2)
def fnsK (has : List UInt8 → Bool) (T : List Kz) (G : List GN) : List Sg → Nat × List Kz × List GN
  | [] => (0, T, G)
  | g :: l => if (fnK has T g).2.1 = 0 then fnsK has (fnK has T g).2.2 (G ++ [(fnK has T g).1]) l else ((fnK has T g).2.1, (fnK has T g).2.2, G)
def zerosN (l : List NT) : List NN := l.map fun x => (x.1, 0)
/-- What New answers: an error, or a table. -/
def schemaK (s : Sz) : Nat × Tab :=
  let h := hasZ s.types
  let a := namK h [] (zerosN s.types) s.types
  if a.1 ≠ 0 then (a.1, ⟨a.2.1, a.2.2, [], 0⟩) else
  let b := addK h a.2.1 s.main
  if b.2.1 ≠ 0 then (b.2.1, ⟨b.2.2, a.2.2, [], 0⟩) else
  let c := fnsK h b.2.2 [] s.sigs
  (c.1, ⟨c.2.1, a.2.2, c.2.2, b.1⟩)
def newK (s : Sz) : Nat × Tab := if refC s ≠ 0 then (refC s, default) else schemaK s
theorem addK_g {has : List UInt8 → Bool} {T : List Kz} {t : Tz} (hT : TabG has 400 T) (h : okK has t = true ∧ sizeZ t ≤ 400) :
    addK has T t = treeK T t ∧ TabG has 400 (addK has T t).2.2 ∧ T <+: (addK has T t).2.2 ∧ ((addK has T t).2.1 = 0 → (addK has T t).1 < (addK has T t).2.2.length ∧ typT (addK has T t).2.2 (addK has T t).1 = t) := by
  rw [addK_ok h.1 h.2]
  exact ⟨rfl, treeK_g t T hT h.1 h.2, treeK_grow t T, (treeK_wf t T hT.toTabW h.1).2⟩
theorem namK_has {has : List UInt8 → Bool} (nm : List UInt8) : ∀ (l : List NT) (T : List Kz) (N : List NN), (∀ x ∈ l, hasZ N x.1 = true) → hasZ (namK has T N l).2.2 nm = hasZ N nm
  | [], T, N, _ => by rw [namK]
  | x :: l, T, N, h => by
    rw [namK]
    split
    · rw [namK_has nm l _ _ (fun y hy => by rw [hasZ_snoc, h y (List.mem_cons_of_mem _ hy)]; rfl), hasZ_snoc]
      by_cases e : x.1 = nm
      · rw [← e, h x List.mem_cons_self]; rfl
      · simp [e]
    · rfl
theorem hasZ_zeros (l : List NT) (nm : List UInt8) : hasZ (zerosN l) nm = hasZ l nm := hasZ_map l (fun _ => 0) nm
def openK (T : List Kz) (N : List NN) : Nat → Nat → Nat
  | 0, i => i
  | f + 1, i => if (T.getD i default).kind = 9 then openK T N f (lookN N (T.getD i default).name) else i
/-- What a number's kind is, its tree's is. -/
theorem typT_kind {T : List Kz} (hT : ∀ i (h : i < T.length), ∀ j ∈ T[i].kids, j < i) {i : Nat} (h : i < T.length) : (typT T i).kind = T[i].kind := by rw [typT_at hT h]; rfl
theorem openK_step (T : List Kz) (N : List NN) (f i : Nat) (h : (T.getD i default).kind = 9) : openK T N (f + 1) i = openK T N f (lookN N (T.getD i default).name) := by rw [openK, if_pos h]
theorem openK_stop (T : List Kz) (N : List NN) (f i : Nat) (h : (T.getD i default).kind ≠ 9) : openK T N f i = i := by
  cases f with
  | zero => rfl
  | succ f => rw [openK, if_neg h]
end Sp
end Go.Proofs.Yteooafgdmpbjeab
namespace Go.Proofs.Yteooafgdmpbjeab
open Go.RowKit
namespace Sp
open Sc
set_option maxRecDepth 100000
/-- Main. -/
theorem main_any (w : World) (tb rb nb mb sb m : Nat) (ty nu : Value) (T : List Kz) (hT : TabV w tb rb nb mb sb m ty nu T) :
    Calls Try.prog 16 #[.pointer (some ⟨tb, 0, none⟩)] w fun e w' => e = .returned (.int .i64 (m : Nat)) ∧ Below w.heap.size w w' := by
  obtain ⟨⟨-, -, -, -, t4⟩, -⟩ := five_blkF hT.box
  clear hT
  go_enter Try.func16, Try.ntmps16
  go_wp2
  go_ret
  exact ⟨rfl, Below.refl _ _⟩
/-- has. -/
theorem thas_any (id : Int) (w : World) (tb rb nb mb sb m : Nat) (ty nu : Value) (T : List Kz) (hT : TabV w tb rb nb mb sb m ty nu T) :
    Calls Try.prog 28 #[.pointer (some ⟨tb, 0, none⟩), .int .i64 id] w fun e w' => e = .returned (.bool (decide (0 ≤ id) && decide (id < (T.length : Nat)))) ∧ Below w.heap.size w w' := by
  obtain ⟨ta, tc, hty⟩ : ∃ ta tc, ty = .slice ta T.length tc := by
    rcases hT.row with ⟨rfl, rfl, -⟩ | ⟨cap, rfl⟩
    · exact ⟨none, 0, rfl⟩
    · exact ⟨_, _, rfl⟩
  obtain ⟨⟨t0, -⟩, -⟩ := five_blkF hT.box
  rw [hty] at t0
  clear hT hty
  generalize T.length = n at *
  by_cases h0 : 0 ≤ id
  · rw [decide_eq_true h0]
    go_enter Try.func28, Try.ntmps28
    go_wp2
    go_ret
    exact ⟨by simp, Below.refl _ _⟩
  · rw [decide_eq_false h0]
    go_enter Try.func28, Try.ntmps28
    go_wp2
    go_ret
    exact ⟨by simp, Below.refl _ _⟩
set_option maxHeartbeats 1600000 in
/-- stand. -/
theorem stand_any (s : List UInt8) (id : Nat) (w : World) (tb rb nb mb sb m : Nat) (ty nu : Value) (T : List Kz) (N : List NN) (hT : TabV w tb rb nb mb sb m ty nu T) (hN : TxtV w mb (encNN N)) (hs : s.length ≤ 1000) (hl : N.length < 1000000) :
    Calls Try.prog 67 #[.pointer (some ⟨tb, 0, none⟩), .string ⟨s.toArray⟩, .int .i64 (id : Nat)] w fun e w' => e = .returned (.tuple #[]) ∧ TxtV w' mb (encNN (N ++ [(s, id)])) ∧ Keeps (fun g => g = mb) w w' := by
  obtain ⟨⟨-, -, t2, -, -⟩, -⟩ := five_blkF hT.box
  have t2d : w.drew.cell? ⟨tb, 2, none⟩ = some (.map (some mb)) := t2
  have htl := hT.tlt
  have HNE : Hid (tb ≠ mb) := fun e => by
    obtain ⟨es, c, h⟩ := hN.isMap
    rw [← e, hT.box] at h; cases h
  have HC := Lib.hid (clone_any s w.drew hs)
  have HN := Lib.hid hN
  clear hT hN
  go_enter Try.func67, Try.ntmps67
  go_region_held3 (fun w' => w'.cell? ⟨tb, 2, none⟩ = some (.map (some mb))) (go_keep) (first
    | (go_at_call 68; (refine HC.out.mono ?_); rintro e w1 ⟨rfl, x1⟩; obtain ⟨w2, hrun, hN2, hg2⟩ := (HN.out.same (x1.block mb HN.out.lt)).put (w := w1) Try.underlying63 s (.int .i64 (id : Nat)) (le_max hs) (by unfold encNN; rw [List.length_map]; unfold maxLen; omega); have s1 := (x1.cell (p := ⟨tb, 2, none⟩) htl).trans t2d; have s2 : w2.cell? ⟨tb, 2, none⟩ = some (.map (some mb)) := (hg2.cell_far ⟨tb, 2, none⟩ (Nat.lt_of_lt_of_le htl x1.size) (by simpa using HNE.out)).trans s1; have HN2 := Lib.hid hN2; have HG2 := Lib.hid hg2; have HX1 := Lib.hid x1; clear hN2 hg2 x1))
  go_wp2
  go_end0
  exact ⟨rfl, by rw [show encNN (N ++ [(s, id)]) = encNN N ++ [(s, .int .i64 (id : Nat))] by simp [encNN]]; exact HN2.out, (Keeps.of_below (O := fun g => g = mb) (show Below w.heap.size w w1 from ⟨HX1.out.os, HX1.out.tape, HX1.out.output, HX1.out.size, HX1.out.block⟩)).trans (Keeps.of_grown (O := fun g => g = mb) HG2.out (fun g e => by cases e; rfl)) (fun g h => .inl h)⟩
set_option maxHeartbeats 8000000 in
/-- Add. -/
theorem add_any (t : Tz) (hf : fitZ t = true) (hs : shortZ t = true) (w : World) (tb rb nb mb sb m : Nat) (ty nu : Value) (T : List Kz) (N : List NN) (S : Nat → Prop) (c : C4) (hT : TabV w tb rb nb mb sb m ty nu T) (hN : TxtV w mb (encNN N)) (hV : TzV w S t c) (hS : ∀ g, S g → g < w.heap.size ∧ ¬ Own tb rb nb g) :
    Calls Try.prog 11 #[.pointer (some ⟨tb, 0, none⟩), .agg #[.int .i64 c.k, .string c.n, .slice c.an c.ln c.cn, .slice c.ak c.lk c.ck]] w fun e w' => ∃ rb' nb' ty' nu', e = .returned (.tuple #[.int .i64 ((addK (hasZ N) T t).1 : Nat), .int .i64 ((addK (hasZ N) T t).2.1 : Nat)]) ∧ Added w w' tb rb nb mb sb m (addK (hasZ N) T t).2.2 rb' nb' ty' nu' := by
  obtain ⟨W1, hW1⟩ : ∃ W1, W1 = (w.alloc (.cells #[.int .i64 c.k, .string c.n, .slice c.an c.ln c.cn, .slice c.ak c.lk c.ck] 31)).alloc (.cells #[.map (some mb), .int .i64 0] 70) := ⟨_, rfl⟩
  have hz1 : W1.heap.size = w.heap.size + 2 := by rw [hW1]; simp
  have hb1 : Below w.heap.size w W1 := by rw [hW1]; exact ((Below.refl _ _).alloc (Nat.le_refl _) _).alloc (by simp) _
  have hx1 : W1.heap[w.heap.size]? = some (.cells #[.int .i64 c.k, .string c.n, .slice c.an c.ln c.cn, .slice c.ak c.lk c.ck] 31 (0, 0)) := by rw [hW1, blk_if, if_neg (by simp), blk_if, if_pos rfl]
  have hc1 : CcE W1 (w.heap.size + 1) mb 0 := by unfold CcE; rw [hW1, blk_if, if_pos (by simp)]; rfl
  have hV1 : TzV W1 S t c := hV.keep (fun _ h => h) fun g hg => hb1.block g (hS g hg).1
  have hN1 := hN.below hb1
  have hmne : mb ≠ w.heap.size + 1 := by have := hN.lt; omega
  have C1 := oneK_all (w.heap.size + 1) mb N S (fun g hg => by have := (hS g hg).1; omega) hmne _ t (Nat.le_refl _) hf 0 W1 c (by omega) hV1 hc1 hN1
  obtain ⟨⟨-, -, t2, -, -⟩, -⟩ := five_blkF hT.box
  have htl := hT.tlt
  obtain ⟨v, hv⟩ : ∃ v, v = addK (hasZ N) T t := ⟨_, rfl⟩
  rw [← hv]
  unfold addK at hv
  obtain ⟨⟨q, qn⟩, hq⟩ : ∃ q, oneC (hasZ N) 0 t = q := ⟨_, rfl⟩
  have hok := oneC_ok (hasZ N) t 0
  rw [hq] at hv C1 hok
  dsimp only at hv C1 hok
  have HW1 := Lib.hid hW1; have HB1 := Lib.hid hb1; have HX1 := Lib.hid hx1; have HC1 := Lib.hid C1; have HT := Lib.hid hT; have HN := Lib.hid hN; have HV := Lib.hid hV; have HS := Lib.hid hS; have HVV := Lib.hid hv; have HOK := Lib.hid hok; have HSH := Lib.hid hs
  clear hW1 hb1 hx1 hc1 hV1 hN1 C1 hT hN hV hS hv hq hok hf hs
  by_cases h0 : q = 0
  · subst h0
    have hvv := HVV.out
    rw [if_neg (by decide)] at hvv
    have hkk := (HOK.out rfl).1
    have C2 := fun W rb nb (hT : TabV W tb rb nb mb sb m ty nu T) hV hS => tree_any (has := hasZ N) _ t (Nat.le_refl _) hkk HSH.out W tb rb nb mb sb m ty nu T S c hT hV hS
    rw [← hvv] at C2
    have HC2 := Lib.hid C2
    clear hvv hkk C2
    go_enter Try.func11, Try.ntmps11
    go_upto_region 2 with fail
    rw [← HW1.out]
    obtain ⟨⟨p0, p1, p2, p3⟩, _⟩ := four_blk HX1.out
    go_wp2_with (first
      | (go_at_call 26; (with_reducible refine HC1.out.mono ?_); rintro e w2 ⟨rfl, -, o2⟩; have hb2 := HB1.out.trans (o2.below (B := w.heap.size) (by omega) (by omega)); have hx2 := o2.blk HX1.out (by omega); obtain ⟨⟨r0, r1, r2, r3⟩, _⟩ := four_blk hx2; have HB2 := Lib.hid hb2; clear o2 hb2 hx2 p0 p1 p2 p3)
      | (go_at_call 27; (refine (HC2.out _ rb nb (HT.out.below HB2.out) (HV.out.keep (fun _ h => h) fun g hg => HB2.out.block g (HS.out g hg).1) (fun g hg => ⟨Nat.lt_of_lt_of_le (HS.out g hg).1 HB2.out.size, (HS.out g hg).2⟩)).mono ?_); rintro e w3 ⟨rb2, nb2, ty2, nu2, rfl, ha⟩; have HA := Lib.hid ha; clear ha))
    go_ret2
    exact ⟨rb2, nb2, ty2, nu2, rfl, HA.out.tab, (Keeps.of_below HB2.out).trans HA.out.keeps (fun g h => .inl h), HA.out.grew.older HB2.out.size⟩
  · have hvv := HVV.out
    rw [if_pos h0] at hvv
    have HVW := Lib.hid hvv
    clear hvv
    have t0 : ((q : Nat) == (0 : Int)) = false := by simp; omega
    have hne : (q : Int) ≠ 0 := by omega
    go_enter Try.func11, Try.ntmps11
    go_upto_region 2 with fail
    rw [← HW1.out]
    obtain ⟨⟨p0, p1, p2, p3⟩, _⟩ := four_blk HX1.out
    go_wp2_with (go_at_call 26; (with_reducible refine HC1.out.mono ?_); rintro e w2 ⟨rfl, -, o2⟩; have hb2 := HB1.out.trans (o2.below (B := w.heap.size) (by omega) (by omega)); have HB2 := Lib.hid hb2; clear o2 hb2 p0 p1 p2 p3)
    go_ret2
    rw [HVW.out]
    exact ⟨rb, nb, ty, nu, rfl, HT.out.below HB2.out, Keeps.of_below HB2.out, Grew.refl _ _ _ _⟩
end Sp
end Go.Proofs.Yteooafgdmpbjeab
