/- Parse: what stays true of the builder from part to part, for templates of a simple kind. -/
import Derived.Test.YtlfbcaenlifmkaaGreatDoorB41
namespace Go.Proofs.YtlfbcaenlifmkaaGreatDoor
open Go.RowKit
namespace Tr
open Sc Sh Sp
def SimpK (k : Int) : Prop := k = -2 ∨ k = 2 ∨ k = 3 ∨ k = 4 ∨ k = 5 ∨ k = 6 ∨ k = 7
def Chn : List Nd → Prop
  | [] => False
  | [d] => d.kind = 0
  | d :: l => (d.kind = 5 ∨ d.kind = 6 ∨ d.kind = 7) ∧ Chn l
structure Good (n : Nat) (b : B) : Prop where
  chn : Chn (b.inner :: b.outer)
  few : ∀ d ∈ b.inner :: b.outer, FewN n d
  dep : b.outer.length ≤ 12
  dfd : b.defined = []
theorem FewN.mono {n m : Nat} {d : Nd} (h : FewN n d) (hm : n ≤ m) : FewN m d := ⟨Nat.le_trans h.body hm, Nat.le_trans h.els hm, Nat.le_trans h.cases hm, fun q hq => Nat.le_trans (h.each q hq) hm⟩
theorem lastCase_few (x : Nd) (n : Nat) : ∀ l : List (List UInt8 × List Nd), (∀ q ∈ l, q.2.length ≤ n) → (Nd.lastCase x l).length = l.length ∧ ∀ q ∈ Nd.lastCase x l, q.2.length ≤ n + 1
  | [], _ => ⟨rfl, fun q hq => by cases hq⟩
  | [c], h => ⟨rfl, fun q hq => by
      have h1 := h c (by simp)
      rw [List.mem_singleton.1 hq]; simp only [List.length_append, List.length_cons, List.length_nil]; omega⟩
  | c :: d :: l, h => by
    obtain ⟨h1, h2⟩ := lastCase_few x n (d :: l) (fun q hq => h q (by simp only [List.mem_cons] at hq ⊢; exact .inr hq))
    refine ⟨by show (Nd.lastCase x (d :: l)).length + 1 = _; rw [h1]; rfl, fun q hq => ?_⟩
    have hq : q ∈ c :: Nd.lastCase x (d :: l) := hq
    rcases List.mem_cons.1 hq with rfl | hq
    · have := h q (by simp); omega
    · exact h2 q hq
theorem FewN.put {n : Nat} {d : Nd} (h : FewN n d) (x : Nd) : FewN (n + 1) (d.put x) := by
  cases d with
  | mk k a s nm p b e hh c =>
    obtain ⟨h1, h2, h3, h4⟩ := h
    simp only [Nd.body, Nd.els, Nd.cases] at h1 h2 h3 h4
    rw [put_mk]
    split
    · exact ⟨by simp only [Nd.body]; omega, by simp only [Nd.els, List.length_append, List.length_cons, List.length_nil]; omega, by simp only [Nd.cases]; omega, fun q hq => Nat.le_succ_of_le (h4 q hq)⟩
    split
    · obtain ⟨g1, g2⟩ := lastCase_few x n c h4
      exact ⟨by simp only [Nd.body]; omega, by simp only [Nd.els]; omega, by simp only [Nd.cases, g1]; omega, g2⟩
    · exact ⟨by simp only [Nd.body, List.length_append, List.length_cons, List.length_nil]; omega, by simp only [Nd.els]; omega, by simp only [Nd.cases]; omega, fun q hq => Nat.le_succ_of_le (h4 q hq)⟩
theorem put_kindQ (d x : Nd) : (d.put x).kind = d.kind := by
  cases d with
  | mk k a s n p b e h c => rw [put_mk]; split; rfl; split <;> rfl
theorem Chn.put {d : Nd} {l : List Nd} (h : Chn (d :: l)) (x : Nd) : Chn (d.put x :: l) := by
  cases l with
  | nil => show (d.put x).kind = 0; rw [put_kindQ]; exact h
  | cons e l => exact ⟨by rw [put_kindQ]; exact h.1, h.2⟩
theorem Chn.kind {d : Nd} {l : List Nd} (h : Chn (d :: l)) : d.kind = 0 ∨ d.kind = 5 ∨ d.kind = 6 ∨ d.kind = 7 := by
  cases l with
  | nil => exact .inl h
  | cons e l => rcases h.1 with h | h | h <;> simp [h]
theorem Chn.waits {d : Nd} {l : List Nd} (h : Chn (d :: l)) : d.waits = false := by
  unfold Nd.waits
  have := h.kind
  rw [decide_eq_false (by omega)]; rfl
theorem Good.putB {n : Nat} {b : B} (h : Good n b) (x : Nd) : Good (n + 1) (b.putB x) :=
  ⟨h.chn.put x, fun d hd => by
    rcases List.mem_cons.1 hd with rfl | hd
    · exact (h.few _ (by simp)).put x
    · exact (h.few d (List.mem_cons_of_mem _ hd)).mono (Nat.le_succ n), h.dep, h.dfd⟩
theorem nodeOf_few (a : Act) (p n : Nat) : FewN n (nodeOf a p) := ⟨Nat.zero_le _, Nat.zero_le _, Nat.zero_le _, fun q hq => by cases hq⟩
/-- Where an end may stand, something is open. -/
theorem Good.shut {n : Nat} {b : B} (h : Good n b) (hk : b.inner.kind ≠ 0) : ∃ d l, b.outer = d :: l := by
  have hc := h.chn
  cases ho : b.outer with
  | nil => rw [ho] at hc; exact absurd hc hk
  | cons d l => exact ⟨d, l, rfl⟩
theorem Good.close {n : Nat} {b : B} (h : Good n b) {d : Nd} {l : List Nd} (ho : b.outer = d :: l) : Good (n + 1) b.close := by
  have hk := h.chn.kind
  have hcl : b.close = B.putB b.inner ⟨d, l, b.defined⟩ := by unfold B.close B.putB; rw [ho]; simp only; rw [if_neg (by omega)]
  rw [hcl]
  have hc := h.chn
  have hf := h.few
  have hd := h.dep
  rw [ho] at hc hf hd
  have g : Good n (⟨d, l, b.defined⟩ : B) := ⟨hc.2, fun e he => hf e (List.mem_cons_of_mem _ he), by simp only [List.length_cons] at hd; simp only; omega, h.dfd⟩
  exact g.putB b.inner
theorem Good.enter {n : Nat} {b : B} (h : Good n b) (a : Act) (p : Nat) (ha : a.kind = 5 ∨ a.kind = 6 ∨ a.kind = 7) (hd : b.depth ≠ 12) : Good (n + 1) (b.enter (nodeOf a p)) :=
  ⟨⟨ha, h.chn⟩, fun d hd => by
    rcases List.mem_cons.1 hd with rfl | hd
    · exact nodeOf_few a p _
    · exact (h.few d hd).mono (Nat.le_succ n), by have := h.dep; unfold B.depth at hd; show (b.inner :: b.outer).length ≤ 12; rw [List.length_cons]; omega, h.dfd⟩
theorem actB_put (a : Act) (p : Nat) (b : B) (ha : a.kind = 2 ∨ a.kind = 3 ∨ a.kind = 4) : actB a p b = (0, b.putB (nodeOf a p)) := by
  unfold actB
  rw [if_neg (by omega), if_neg (by omega), if_neg (by omega), if_neg (by omega), if_neg (by omega), if_neg (by omega)]
theorem actB_end (a : Act) (p : Nat) (b : B) (ha : a.kind = -2) : actB a p b = (0, b.close) := by unfold actB; rw [if_pos ha]
theorem actB_in (a : Act) (p : Nat) (b : B) (ha : a.kind = 5 ∨ a.kind = 6 ∨ a.kind = 7 ∨ a.kind = 8) : actB a p b = (if b.depth = 12 then (13, b) else (0, b.enter (nodeOf a p))) := by
  unfold actB
  rw [if_neg (by omega), if_neg (by omega), if_neg (by omega), if_neg (by omega), if_pos ha]
theorem Good.step {n : Nat} {b : B} (h : Good n b) (p : Tx.P) (hs : p.act = true → (actionL p.s).2 = 0 → SimpK (actionL p.s).1.kind) (he : (partB p b).1 = 0) : Good (n + 1) (partB p b).2 := by
  unfold partB at he ⊢
  split at he
  · rename_i hact
    rw [if_pos hact]
    split at he
    · rename_i h0
      rw [if_pos h0]
      have hk := hs hact h0
      split at he
      · rename_i hal
        rw [if_pos hal]
        rcases hk with hk | hk | hk | hk | hk | hk | hk
        · rw [actB_end _ _ _ hk]
          obtain ⟨d, l, ho⟩ := h.shut (by rw [hk] at hal; unfold Nd.allows at hal; simpa using hal)
          exact h.close ho
        · rw [actB_put _ _ _ (by omega)]; exact h.putB _
        · rw [actB_put _ _ _ (by omega)]; exact h.putB _
        · rw [actB_put _ _ _ (by omega)]; exact h.putB _
        all_goals
          rw [actB_in _ _ _ (by omega)] at he ⊢
          by_cases hd : b.depth = 12
          · rw [if_pos hd] at he; cases he
          · rw [if_neg hd]; exact h.enter _ _ (by omega) hd
      · cases he
    · exact absurd he (by assumption)
  · rename_i hact
    rw [if_neg hact, h.chn.waits]
    exact h.putB _
/-- A part is taken. -/
theorem part_good {n : Nat} {b : B} (h : Good n b) (hn : n ≤ 2000) {w : World} {base bb : Nat} (hB : BVE w base bb b) (hL : Lean w) (p : Tx.P) (hsl : p.s.length ≤ 2000) (hs : p.act = true → (actionL p.s).2 = 0 → SimpK (actionL p.s).1.kind) :
    Calls Tryz.prog 41 #[.pointer (some ⟨bb, 0, none⟩), .agg #[.bool p.act, .string ⟨p.s.toArray⟩, .int .i64 p.at_]] w (BldP w base bb (partB p b)) := by
  obtain ⟨c, oa, oc, ys, x, da, dc, ds, hV⟩ := hB
  have hd : b.outer.length ≤ 100 := Nat.le_trans h.dep (by omega)
  have hf := (h.few b.inner (by simp)).mono hn
  cases ha : p.act
  · have := part_text hV p ha h.chn.waits hf hd
    rw [ha] at this; exact this
  · by_cases he : (actionL p.s).2 = 0
    · have hk := hs ha he
      have hC : b.inner.allows (actionL p.s).1.kind = true → ActC base bb b (actionL p.s).1 p.at_ := by
        intro hal W c' oa' oc' ys' xn' da' dc' ds' pa pc us hV' hp'
        rcases hk with hk | hk | hk | hk | hk | hk | hk
        · rw [actB_end _ _ _ hk]
          obtain ⟨d, l, ho⟩ := h.shut (by rw [hk] at hal; unfold Nd.allows at hal; simpa using hal)
          exact bld_end hV' (actionL p.s).1 p.at_ hk ho (by have := h.chn.kind; omega) hd ((h.few d (by rw [ho]; simp)).mono hn)
        · rw [actB_put _ _ _ (by omega)]; exact bld_put hV' _ _ (by omega) hp' hf hd
        · rw [actB_put _ _ _ (by omega)]; exact bld_put hV' _ _ (by omega) hp' hf hd
        · rw [actB_put _ _ _ (by omega)]; exact bld_put hV' _ _ (by omega) hp' hf hd
        all_goals
          rw [actB_in _ _ _ (by omega)]; exact bld_enter hV' _ _ _ (by omega) hk hp' hd
      have := part_act hV hL p hsl ha he hd hC
      rw [ha] at this; exact this
    · have := part_bad hV hL p hsl ha he hd
      rw [ha] at this; exact this
end Tr
end Go.Proofs.YtlfbcaenlifmkaaGreatDoor
