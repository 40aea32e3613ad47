/- Chapter 2's words as plain functions on bytes: where an action ends, the parts of a template, the place of a byte. No program is named here. -/
import Derived.WalkKit
import Derived.Lib.Index
import Derived.Lib.Strings
import Derived.Lib.LastIndexByte
namespace Go.Proofs.YtlfbcaenlifmkaaGreatDoor
namespace Tx
theorem lt_len {s : ByteArray} {k : Nat} (h : k < s.size) : k < s.data.toList.length := by simp only [Array.length_toList]; exact h
theorem bytes_at (s : ByteArray) (k : Nat) (h : k < s.size) : s.data.toList[k]'(lt_len h) = s[k]'h := by simp only [Array.getElem_toList]; rfl
theorem bytes_len (s : ByteArray) : s.data.toList.length = s.size := by simp only [Array.length_toList]; rfl
theorem drop_at (l : List UInt8) (k : Nat) (h : k < l.length) : l.drop k = l[k] :: l.drop (k + 1) := List.drop_eq_getElem_cons h
theorem drop_byte (s : ByteArray) (k : Nat) (h : k < s.size) : s.data.toList.drop k = s[k]'h :: s.data.toList.drop (k + 1) := by rw [drop_at _ k (lt_len h), bytes_at s k h]
theorem ret_int {k : IntKind} {a b : Int} (h : a = b) : Ending.returned (.int k a) = .returned (.int k b) := by rw [h]
theorem cat_bytes (a b : ByteArray) : (a ++ b).data.toList = a.data.toList ++ b.data.toList := by
  rw [ByteArray.data_append, Array.toList_append]
/-- Do two bytes b stand ahead? -/
def two (b : Nat) : List UInt8 → Bool
  | c :: d :: _ => decide (c.toNat = b) && decide (d.toNat = b)
  | _ => false
/-- Where the braces are that end an action; q: within quotes; e: right behind a backslash that counts. -/
def insF : Bool → Bool → List UInt8 → Option Nat
  | _, _, [] => none
  | q, e, c :: t =>
    if e then (insF q false t).map (· + 1)
    else if c.toNat = 34 then (insF (!q) false t).map (· + 1)
    else if q then (insF q (decide (c.toNat = 92)) t).map (· + 1)
    else if two 125 (c :: t) then some 0
    else (insF q false t).map (· + 1)
/-- The bytes ahead of the first braces that begin an action. -/
def idx2 : List UInt8 → Nat
  | [] => 0
  | c :: t => if two 123 (c :: t) then 0 else idx2 t + 1
def up (k : Nat) (o : Option Nat) : Option Nat := o.map (· + k)
theorem up_zero (o : Option Nat) : up 0 o = o := by cases o <;> rfl
theorem up_up (k j : Nat) (o : Option Nat) : up k (up j o) = up (k + j) o := by
  cases o with
  | none => rfl
  | some n => simp [up]; omega
theorem ins_esc (q : Bool) (c : UInt8) (t : List UInt8) : insF q true (c :: t) = up 1 (insF q false t) := by simp [insF, up]
theorem ins_quot (q : Bool) (c : UInt8) (t : List UInt8) (h : c.toNat = 34) : insF q false (c :: t) = up 1 (insF (!q) false t) := by simp [insF, up, h]
theorem ins_in (c : UInt8) (t : List UInt8) (h : c.toNat ≠ 34) : insF true false (c :: t) = up 1 (insF true (decide (c.toNat = 92)) t) := by simp [insF, up, h]
theorem ins_end (c : UInt8) (t : List UInt8) (h : two 125 (c :: t) = true) : insF false false (c :: t) = some 0 := by
  have : c.toNat ≠ 34 := by
    cases t with
    | nil => simp [two] at h
    | cons d t => simp [two] at h; omega
  simp [insF, h, this]
theorem ins_out (c : UInt8) (t : List UInt8) (h : c.toNat ≠ 34) (h2 : two 125 (c :: t) = false) : insF false false (c :: t) = up 1 (insF false false t) := by simp [insF, up, h, h2]
theorem two_ne (b : Nat) (c : UInt8) (t : List UInt8) (h : c.toNat ≠ b) : two b (c :: t) = false := by
  cases t <;> simp [two, h]
theorem ins_high (q e : Bool) (c : UInt8) (t : List UInt8) (h : 128 ≤ c.toNat) : insF q e (c :: t) = up 1 (insF q false t) := by
  cases e with
  | true => exact ins_esc q c t
  | false =>
    cases q with
    | true => rw [ins_in c t (by omega), decide_eq_false (by omega)]
    | false => exact ins_out c t (by omega) (two_ne _ _ _ (by omega))
theorem ins_highs : ∀ (n : Nat) (q e : Bool) (l : List UInt8), 1 ≤ n → n ≤ l.length → (∀ i (h : i < l.length), i < n → 128 ≤ (l[i]).toNat) → insF q e l = up n (insF q false (l.drop n))
  | 0, _, _, _, h, _, _ => by omega
  | 1, q, e, l, _, h, ha => by
    cases l with
    | nil => simp at h
    | cons c t => exact ins_high q e c t (ha 0 (by simp) (by omega))
  | n + 2, q, e, l, _, h, ha => by
    cases l with
    | nil => simp at h
    | cons c t =>
      have h' : n + 1 ≤ t.length := by simpa using h
      rw [ins_high q e c t (ha 0 (by simp) (by omega)), ins_highs (n + 1) q false t (by omega) h' (fun i hi hn => ha (i + 1) (by simpa using hi) (by omega)), up_up, List.drop_succ_cons]
      congr 1; omega
theorem ins_two : ∀ (l : List UInt8) (q e : Bool) (n : Nat), insF q e l = some n → two 125 (l.drop n) = true
  | [], _, _, _, h => by simp [insF] at h
  | c :: t, q, e, n, h => by
    have hm : ∀ q e, (insF q e t).map (· + 1) = some n → two 125 ((c :: t).drop n) = true := by
      intro q e h
      cases hx : insF q e t with
      | none => rw [hx] at h; simp at h
      | some m =>
        rw [hx] at h; simp at h; subst h
        exact ins_two t q e m hx
    unfold insF at h
    split at h
    · exact hm _ _ h
    · split at h
      · exact hm _ _ h
      · split at h
        · exact hm _ _ h
        · split at h
          · simp at h; subst h; assumption
          · exact hm _ _ h
theorem two_len (b : Nat) (l : List UInt8) (h : two b l = true) : 2 ≤ l.length := by
  match l, h with
  | c :: d :: t, _ => simp
theorem ins_lt (l : List UInt8) (q e : Bool) (n : Nat) (h : insF q e l = some n) : n + 2 ≤ l.length := by
  have := two_len _ _ (ins_two l q e n h)
  rw [List.length_drop] at this; omega
theorem two_eq (b : UInt8) (l : List UInt8) (h : two b.toNat l = true) : l = b :: b :: l.drop 2 := by
  match l, h with
  | c :: d :: t, h =>
    simp only [two, Bool.and_eq_true, decide_eq_true_eq, UInt8.toNat_inj] at h
    rw [h.1, h.2]; rfl
theorem idx_le (l : List UInt8) : idx2 l ≤ l.length := by
  induction l with
  | nil => simp [idx2]
  | cons c t ih => simp only [idx2, List.length_cons]; split <;> omega
theorem idx_zero (l : List UInt8) (h : two 123 l = true) : idx2 l = 0 := by
  cases l with
  | nil => rfl
  | cons c t => simp [idx2, h]
theorem idx_step (c : UInt8) (t : List UInt8) (h : two 123 (c :: t) = false) : idx2 (c :: t) = idx2 t + 1 := by simp [idx2, h]
theorem idx_pos (l : List UInt8) (h0 : 1 ≤ l.length) (h : two 123 l = false) : 1 ≤ idx2 l := by
  cases l with
  | nil => simp at h0
  | cons c t => rw [idx_step c t h]; omega
theorem hasP (b : UInt8) (l : List UInt8) : Lib.hasPrefix l [b, b] = two b.toNat l := by
  unfold Lib.hasPrefix
  match l with
  | [] => rfl
  | [c] => simp [two, List.isPrefixOf]
  | c :: d :: t =>
    simp only [two, List.isPrefixOf, Bool.and_true]
    have h : ∀ x y : UInt8, (x == y) = decide (y.toNat = x.toNat) := fun x y => by
      rw [Bool.eq_iff_iff]; simp only [beq_iff_eq, decide_eq_true_eq, UInt8.toNat_inj]; exact eq_comm
    rw [h, h]
theorem index_idx (l : List UInt8) : Lib.index l [123, 123] = if idx2 l = l.length then -1 else (idx2 l : Int) := by
  induction l with
  | nil => rfl
  | cons c t ih =>
    have hp : List.isPrefixOf [123, 123] (c :: t) = two 123 (c :: t) := hasP 123 (c :: t)
    rw [Lib.index, hp]
    cases h : two 123 (c :: t) with
    | true => rw [idx_zero _ h]; simp
    | false =>
      rw [idx_step c t h, ih]
      by_cases hl : idx2 t = t.length
      · simp [hl]
      · rw [if_neg hl]
        have : ((idx2 t : Int) == -1) = false := by rw [beq_eq_false_iff_ne]; omega
        simp [this, hl]
/-- A part: an action's inside, or a text; where it begins. -/
structure P where
  act : Bool
  s : List UInt8
  at_ : Nat
/-- The part at the front, and how many bytes it takes. -/
def partL (l : List UInt8) : Option (Bool × List UInt8 × Nat) :=
  if two 123 l then
    match insF false false (l.drop 2) with
    | none => none
    | some n => some (true, (l.drop 2).take n, n + 4)
  else some (false, l.take (idx2 l), idx2 l)
def rawF : Nat → List UInt8 → Nat → Option (List P)
  | 0, _, _ => some []
  | f + 1, l, i =>
    if l.length = 0 then some []
    else match partL l with
      | none => none
      | some (a, s, n) => (rawF f (l.drop n) (i + n)).map (⟨a, s, i⟩ :: ·)
def rawW (l : List UInt8) (i : Nat) : Option (List P) := rawF (l.length + 1) l i
/-- What Split answers. -/
def splitOf : Option (List P) → Nat × List P
  | none => (11, [])
  | some ps => if 200 < ps.length then (3, []) else (0, ps)
def splitL (l : List UInt8) : Nat × List P := if 1500 < l.length then (4, []) else splitOf (rawW l 0)
theorem part_size (l : List UInt8) (a : Bool) (s : List UInt8) (n : Nat) (h0 : 1 ≤ l.length) (h : partL l = some (a, s, n)) :
    1 ≤ n ∧ n ≤ l.length ∧ l = (if a then [123, 123] ++ s ++ [125, 125] else s) ++ l.drop n ∧ s.length + (if a then 4 else 0) = n := by
  unfold partL at h
  split at h
  · rename_i h2
    split at h
    · simp at h
    · rename_i m hm
      simp only [Option.some.injEq, Prod.mk.injEq] at h
      obtain ⟨rfl, rfl, rfl⟩ := h
      have h3 := ins_lt _ _ _ _ hm
      have e1 := two_eq 123 l h2
      have e2 := two_eq 125 _ (ins_two _ _ _ _ hm)
      have hl : (l.drop 2).length = l.length - 2 := List.length_drop
      refine ⟨by omega, by omega, ?_, ?_⟩
      · rw [if_pos rfl]
        have e3 : l.drop (m + 4) = ((l.drop 2).drop m).drop 2 := by rw [List.drop_drop, List.drop_drop]; congr 1; omega
        rw [e3]
        conv => lhs; rw [e1, ← List.take_append_drop m (l.drop 2), e2]
        simp
      · rw [List.length_take]; simp; omega
  · rename_i h2
    simp only [Option.some.injEq, Prod.mk.injEq] at h
    obtain ⟨rfl, rfl, rfl⟩ := h
    have := idx_le l
    have h2' : two 123 l = false := by simpa using h2
    exact ⟨idx_pos l h0 h2', this, by simp, by simp; omega⟩
theorem raw_fuel : ∀ (f g : Nat) (l : List UInt8) (i : Nat), l.length < f → l.length < g → rawF f l i = rawF g l i
  | 0, _, _, _, h, _ => by omega
  | _ + 1, 0, _, _, _, h => by omega
  | f + 1, g + 1, l, i, hf, hg => by
    unfold rawF
    by_cases h0 : l.length = 0
    · rw [if_pos h0, if_pos h0]
    · rw [if_neg h0, if_neg h0]
      cases hp : partL l with
      | none => rfl
      | some x =>
        obtain ⟨a, s, n⟩ := x
        have h1 := part_size l a s n (by omega) hp
        simp only
        rw [raw_fuel f g (l.drop n) (i + n) (by rw [List.length_drop]; omega) (by rw [List.length_drop]; omega)]
theorem raw_nil (i : Nat) : rawW [] i = some [] := rfl
theorem raw_none (l : List UInt8) (i : Nat) (h0 : 1 ≤ l.length) (h : partL l = none) : rawW l i = none := by
  unfold rawW rawF; rw [if_neg (by omega), h]
theorem raw_some (l : List UInt8) (i : Nat) (h0 : 1 ≤ l.length) (a : Bool) (s : List UInt8) (n : Nat) (h : partL l = some (a, s, n)) :
    rawW l i = (rawW (l.drop n) (i + n)).map (⟨a, s, i⟩ :: ·) := by
  have h1 := part_size l a s n h0 h
  unfold rawW
  conv => lhs; unfold rawF
  rw [if_neg (by omega), h]
  simp only
  rw [raw_fuel l.length ((l.drop n).length + 1) (l.drop n) (i + n) (by rw [List.length_drop]; omega) (by omega)]
/-- A part with its braces; all of them. -/
def brace (p : P) : List UInt8 := if p.act then [123, 123] ++ p.s ++ [125, 125] else p.s
def joinL (ps : List P) : List UInt8 := ps.flatMap brace
theorem raw_join : ∀ (n : Nat) (l : List UInt8) (i : Nat) (ps : List P), l.length ≤ n → rawW l i = some ps →
    joinL ps = l ∧ (∀ k (h : k < ps.length), ps[k].at_ = i + (joinL (ps.take k)).length) ∧ ps.length ≤ l.length
  | n, l, i, ps, hn, h => by
    by_cases h0 : l.length = 0
    · obtain rfl := List.eq_nil_of_length_eq_zero h0
      rw [raw_nil] at h
      obtain rfl := (Option.some.inj h).symm
      exact ⟨rfl, fun k h => by simp at h, by simp⟩
    · cases hp : partL l with
      | none => rw [raw_none l i (by omega) hp] at h; simp at h
      | some x =>
        obtain ⟨a, s, m⟩ := x
        have h1 := part_size l a s m (by omega) hp
        rw [raw_some l i (by omega) a s m hp] at h
        cases hr : rawW (l.drop m) (i + m) with
        | none => rw [hr] at h; simp at h
        | some qs =>
          rw [hr] at h
          simp only [Option.map_some, Option.some.injEq] at h
          subst h
          cases n with
          | zero => omega
          | succ n =>
            obtain ⟨g1, g2, g3⟩ := raw_join n (l.drop m) (i + m) qs (by rw [List.length_drop]; omega) hr
            have hb : (brace ⟨a, s, i⟩).length = m := by
              unfold brace
              have := h1.2.2.2
              cases a <;> simp at this ⊢ <;> omega
            refine ⟨?_, ?_, ?_⟩
            · show brace ⟨a, s, i⟩ ++ joinL qs = l
              rw [g1]; exact h1.2.2.1.symm
            · intro k hk
              cases k with
              | zero => simp [joinL]
              | succ k =>
                have hk' : k < qs.length := by simpa using hk
                rw [List.getElem_cons_succ, g2 k hk', List.take_succ_cons]
                show _ = i + (brace ⟨a, s, i⟩ ++ joinL (qs.take k)).length
                rw [List.length_append, hb]; omega
            · rw [List.length_drop] at g3
              simp; omega
end Tx
end Go.Proofs.YtlfbcaenlifmkaaGreatDoor
