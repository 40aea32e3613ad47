/- Tables: what they hold. No program is named here. -/
import Derived.Test.YteooafgdmpbjeabW2
import Derived.Test.YteooafgdmpbjeabRows
import Derived.Test.YteooafgdmpbjeabW1
import Derived.WalkKit
import Derived.WalkSpells
import Derived.WalkLawsBesides
import Derived.Lib.Hide
import Derived.BigQuiet
import Derived.Deep.QuietTactic
import Derived.Outline
namespace Go.Proofs.Yteooafgdmpbjeab
namespace Sp
open Sc
abbrev NN := List UInt8 × Nat
/-- A function: the numbers of what it takes and answers. -/
abbrev GN := List UInt8 × List Nat × Nat
structure Tab where
  T : List Kz
  N : List NN
  G : List GN
  m : Nat
deriving Inhabited
def addK (has : List UInt8 → Bool) (T : List Kz) (t : Tz) : Nat × Nat × List Kz := if (oneC has 0 t).1 ≠ 0 then (0, (oneC has 0 t).1, T) else treeK T t
theorem addK_ok {has : List UInt8 → Bool} {T : List Kz} {t : Tz} (h : okK has t = true) (hs : sizeZ t ≤ 400) : addK has T t = treeK T t := by
  unfold addK; rw [oneC_of has t 0 h (by omega), if_neg (by simp)]
def lookN (N : List NN) (nm : List UInt8) : Nat := (lastN N nm).getD 0
end Sp
end Go.Proofs.Yteooafgdmpbjeab
namespace Go.Proofs.Yteooafgdmpbjeab
namespace Sp
open Sc
/-- The kids of the names, one behind the other, while they hold. -/
def kidsL (h : List (Nat × Nat) → Nat → Nat → Bool × List (Nat × Nat)) (x y : Kz) : List (List UInt8) → List (Nat × Nat) → Bool × List (Nat × Nat)
  | [], S => (true, S)
  | n :: r, S => if n ∈ x.names ∧ n ∈ y.names then (if (h S (x.kids.getD (x.names.idxOf n) 0) (y.kids.getD (y.names.idxOf n) 0)).1 then kidsL h x y r (h S (x.kids.getD (x.names.idxOf n) 0) (y.kids.getD (y.names.idxOf n) 0)).2 else (false, (h S (x.kids.getD (x.names.idxOf n) 0) (y.kids.getD (y.names.idxOf n) 0)).2)) else (false, S)
/-- What a pair asks of its two types, names gone through. -/
def openL (h : List (Nat × Nat) → Nat → Nat → Bool × List (Nat × Nat)) (i : Nat) (x y : Kz) (S : List (Nat × Nat)) : Bool × List (Nat × Nat) :=
  if y.kind = 6 ∧ x.kind ≠ 6 then h S i (y.kids.getD 0 0)
  else if x.kind ≠ y.kind then (false, S)
  else if y.kind = 4 ∨ y.kind = 5 ∨ y.kind = 6 then h S (x.kids.getD 0 0) (y.kids.getD 0 0)
  else if y.kind = 7 then kidsL h x y y.names S
  else if y.kind = 8 then kidsL h x y x.names S
  else (true, S)
/-- Whether a pair holds, and the pairs that were opened. -/
def holdsL (T : List Kz) (op : Nat → Nat) : Nat → List (Nat × Nat) → Nat → Nat → Bool × List (Nat × Nat)
  | 0, S, _, _ => (false, S)
  | f + 1, S, a, b => if a = b ∨ (a, b) ∈ S then (true, S) else openL (holdsL T op f) (op a) (T.getD (op a) default) (T.getD (op b) default) (S ++ [(a, b)])
def leL (T : List Kz) (op : Nat → Nat) (a b : Nat) : Bool × List (Nat × Nat) := holdsL T op (T.length * T.length + 1) [] a b
/-- Pairs of numbers, each once. -/
structure PrG (n : Nat) (S : List (Nat × Nat)) : Prop where
  nd : S.Nodup
  lt : ∀ p ∈ S, p.1 < n ∧ p.2 < n
theorem PrG.nil (n : Nat) : PrG n [] := ⟨List.nodup_nil, fun p h => by cases h⟩
theorem PrG.snoc {n : Nat} {S : List (Nat × Nat)} (h : PrG n S) {a b : Nat} (ha : a < n) (hb : b < n) (hn : (a, b) ∉ S) : PrG n (S ++ [(a, b)]) := by
  refine ⟨?_, fun p hp => ?_⟩
  · rw [List.nodup_append]
    exact ⟨h.nd, by simp, fun x hx y hy e => hn (by rw [List.mem_singleton.1 hy] at e; exact e ▸ hx)⟩
  · rcases List.mem_append.1 hp with hp | hp
    · exact h.lt p hp
    · rw [List.mem_singleton.1 hp]; exact ⟨ha, hb⟩
theorem nodup_lt : ∀ (n : Nat) (l : List Nat), l.Nodup → (∀ x ∈ l, x < n) → l.length ≤ n
  | 0, [], _, _ => Nat.le_refl _
  | 0, x :: _, _, h => by have := h x List.mem_cons_self; omega
  | n + 1, l, hd, h => by
    have h1 := nodup_lt n (l.erase n) (hd.erase n) (fun x hx => by
      have h2 := h x (List.mem_of_mem_erase hx)
      have h3 : x ≠ n := fun e => by subst e; exact (List.Nodup.not_mem_erase hd) hx
      omega)
    have h2 := List.length_erase (a := n) (l := l)
    split at h2 <;> omega
theorem pair_num {n : Nat} : ∀ (S : List (Nat × Nat)), S.Nodup → (∀ p ∈ S, p.1 < n ∧ p.2 < n) → (S.map fun p => p.1 * n + p.2).Nodup
  | [], _, _ => List.nodup_nil
  | p :: S, hd, h => by
    rw [List.nodup_cons] at hd
    rw [List.map_cons, List.nodup_cons]
    refine ⟨fun hm => ?_, pair_num S hd.2 (fun q hq => h q (List.mem_cons_of_mem _ hq))⟩
    obtain ⟨q, hq, e⟩ := List.mem_map.1 hm
    have h1 := h p List.mem_cons_self
    have h2 := h q (List.mem_cons_of_mem _ hq)
    have h3 : q.1 = p.1 := by
      have a1 : (q.1 * n + q.2) / n = q.1 := by rw [Nat.mul_comm, Nat.mul_add_div (by omega), Nat.div_eq_of_lt h2.2]; rfl
      have a2 : (p.1 * n + p.2) / n = p.1 := by rw [Nat.mul_comm, Nat.mul_add_div (by omega), Nat.div_eq_of_lt h1.2]; rfl
      rw [← a1, ← a2, e]
    have h4 : q.2 = p.2 := by rw [h3] at e; omega
    exact hd.1 (by rw [← Prod.ext h3 h4]; exact hq)
theorem PrG.few {n : Nat} {S : List (Nat × Nat)} (h : PrG n S) : S.length ≤ n * n := by
  have := nodup_lt (n * n) _ (pair_num S h.nd h.lt) (fun x hx => by
    obtain ⟨p, hp, rfl⟩ := List.mem_map.1 hx
    have h1 := h.lt p hp
    have h2 : (p.1 + 1) * n ≤ n * n := Nat.mul_le_mul_right n h1.1
    rw [Nat.add_mul] at h2
    omega)
  simpa using this
/-- What a step may be. -/
structure StepL (n : Nat) (h : List (Nat × Nat) → Nat → Nat → Bool × List (Nat × Nat)) : Prop where
  ok : ∀ S a b, PrG n S → a < n → b < n → PrG n (h S a b).2 ∧ S.length ≤ (h S a b).2.length
theorem kidsL_g {n : Nat} {h : List (Nat × Nat) → Nat → Nat → Bool × List (Nat × Nat)} (hh : StepL n h) {x y : Kz} (hx : ∀ j, x.kids.getD j 0 < n) (hy : ∀ j, y.kids.getD j 0 < n) : ∀ (l : List (List UInt8)) (S : List (Nat × Nat)), PrG n S → PrG n (kidsL h x y l S).2 ∧ S.length ≤ (kidsL h x y l S).2.length
  | [], S, hS => ⟨hS, Nat.le_refl _⟩
  | m :: l, S, hS => by
    rw [kidsL]
    split
    · obtain ⟨h1, h2⟩ := hh.ok S _ _ hS (hx (x.names.idxOf m)) (hy (y.names.idxOf m))
      split
      · obtain ⟨h3, h4⟩ := kidsL_g hh hx hy l _ h1
        exact ⟨h3, Nat.le_trans h2 h4⟩
      · exact ⟨h1, h2⟩
    · exact ⟨hS, Nat.le_refl _⟩
theorem openL_g {n : Nat} {h : List (Nat × Nat) → Nat → Nat → Bool × List (Nat × Nat)} (hh : StepL n h) {i : Nat} {x y : Kz} (hi : i < n) (hx : ∀ j, x.kids.getD j 0 < n) (hy : ∀ j, y.kids.getD j 0 < n) (S : List (Nat × Nat)) (hS : PrG n S) : PrG n (openL h i x y S).2 ∧ S.length ≤ (openL h i x y S).2.length := by
  unfold openL
  split
  · exact hh.ok S _ _ hS hi (hy 0)
  · split
    · exact ⟨hS, Nat.le_refl _⟩
    · split
      · exact hh.ok S _ _ hS (hx 0) (hy 0)
      · split
        · exact kidsL_g hh hx hy _ S hS
        · split
          · exact kidsL_g hh hx hy _ S hS
          · exact ⟨hS, Nat.le_refl _⟩
theorem kid_lt {T : List Kz} (hT : TabW T) (hn : 0 < T.length) (i j : Nat) : (T.getD i default).kids.getD j 0 < T.length := by
  rw [List.getD]
  cases h : (T.getD i default).kids[j]? with
  | none => exact hn
  | some k =>
    have hk := List.mem_of_getElem? h
    by_cases hi : i < T.length
    · rw [List.getD, List.getElem?_eq_getElem hi] at hk
      have := hT.kids i hi k hk
      show k < T.length
      omega
    · rw [List.getD, List.getElem?_eq_none (by omega)] at hk
      cases hk
theorem holdsL_g {T : List Kz} (hT : TabW T) {op : Nat → Nat} (hop : ∀ i, i < T.length → op i < T.length) : ∀ f, StepL T.length (holdsL T op f)
  | 0 => ⟨fun S a b hS _ _ => ⟨hS, Nat.le_refl _⟩⟩
  | f + 1 => ⟨fun S a b hS ha hb => by
    rw [holdsL]
    split
    · exact ⟨hS, Nat.le_refl _⟩
    · rename_i h
      have h2 : (a, b) ∉ S := fun e => h (.inr e)
      obtain ⟨h3, h4⟩ := openL_g (holdsL_g hT hop f) (i := op a) (x := T.getD (op a) default) (y := T.getD (op b) default) (hop a ha) (kid_lt hT (by omega) _) (kid_lt hT (by omega) _) _ (hS.snoc ha hb h2)
      exact ⟨h3, by rw [List.length_append, List.length_singleton] at h4; omega⟩⟩
end Sp
end Go.Proofs.Yteooafgdmpbjeab
namespace Go.Proofs.Yteooafgdmpbjeab
open Go.RowKit
namespace Sc
def digB (r : Int) : Bool := decide (48 ≤ r) && decide (r ≤ 57)
def letB (r : Int) : Bool := decide (r = 95) || (decide (97 ≤ r) && decide (r ≤ 122)) || (decide (65 ≤ r) && decide (r ≤ 90))
theorem digit_any (r : Int) (w : World) :
    Calls Try.prog 93 #[.int .i32 r] w fun e w' => e = .returned (.bool (digB r)) ∧ w = w' := by
  by_cases h1 : 48 ≤ r
  · by_cases h2 : r ≤ 57
    · have e1 : digB r = true := by simp [digB, h1, h2]
      rw [e1]; clear e1
      go_enter Try.func93, Try.ntmps93
      go_wp2
      all_goals go_ret
      all_goals exact ⟨rfl, rfl⟩
    · have e1 : digB r = false := by simp [digB, h2]
      rw [e1]; clear e1
      go_enter Try.func93, Try.ntmps93
      go_wp2
      all_goals go_ret
      all_goals exact ⟨rfl, rfl⟩
  · have e1 : digB r = false := by simp [digB, h1]
    rw [e1]; clear e1
    go_enter Try.func93, Try.ntmps93
    go_wp2
    all_goals go_ret
    all_goals exact ⟨rfl, rfl⟩
theorem letter_any (r : Int) (w : World) :
    Calls Try.prog 92 #[.int .i32 r] w fun e w' => e = .returned (.bool (letB r)) ∧ w = w' := by
  obtain ⟨b, hb⟩ : ∃ b, letB r = b := ⟨_, rfl⟩
  rw [hb]
  have hb' : b = (decide (r = 95) || (decide (97 ≤ r) && decide (r ≤ 122)) || (decide (65 ≤ r) && decide (r ≤ 90))) := hb.symm
  clear hb
  by_cases h1 : r = 95
  · obtain rfl : b = true := by rw [hb']; simp [h1]
    clear hb'; subst h1
    go_enter Try.func92, Try.ntmps92
    go_wp2
    all_goals go_ret
    all_goals exact ⟨rfl, rfl⟩
  · have e1 : (r == 95) = false := by simp [h1]
    by_cases h2 : 97 ≤ r <;> by_cases h3 : r ≤ 122 <;> by_cases h4 : 65 ≤ r <;> by_cases h5 : r ≤ 90
    all_goals first
      | (exfalso; omega)
      | (simp only [h1, h2, h3, h4, h5, decide_true, decide_false, Bool.and_self, Bool.or_self, Bool.and_true, Bool.and_false, Bool.or_false, Bool.or_true] at hb'
         subst hb'; clear h1
         go_enter Try.func92, Try.ntmps92
         go_wp2
         all_goals go_ret
         all_goals exact ⟨rfl, rfl⟩)
/-- A letter among the first 128 is one of the bytes' letters; what is decoded of a byte beyond them is none. -/
theorem digB_byte (c : UInt8) : digB (c.toNat : Int) = isD c := by
  unfold digB isD
  congr 1 <;> apply decide_eq_decide.2 <;> omega
theorem letB_byte (c : UInt8) : letB (c.toNat : Int) = isL c := by
  unfold letB isL
  congr 1
  · congr 1
    · apply decide_eq_decide.2; omega
    · congr 1 <;> apply decide_eq_decide.2 <;> omega
  · congr 1 <;> apply decide_eq_decide.2 <;> omega
theorem digB_high (r : Int) (h : 128 ≤ r) : digB r = false := by
  unfold digB; rw [Bool.and_eq_false_iff]; right; simp; omega
theorem letB_high (r : Int) (h : 128 ≤ r) : letB r = false := by
  unfold letB; simp; omega
theorem isD_high (c : UInt8) (h : 128 ≤ c.toNat) : isD c = false := by
  unfold isD; simp; omega
theorem isL_high (c : UInt8) (h : 128 ≤ c.toNat) : isL c = false := by
  unfold isL; simp; omega
/-- THE ROUND's BYTE, read as a rune: the pair (a digit, a letter) is the byte's. -/
theorem rune_of (s : ByteArray) (pos : Nat) (h : pos < s.size) : digB (Utf8.decode s pos).1 = isD (s[pos]'h) ∧ letB (Utf8.decode s pos).1 = isL (s[pos]'h) ∧ (isD (s[pos]'h) = true ∨ isL (s[pos]'h) = true → (Utf8.decode s pos).2 = 1) := by
  by_cases ha : (s[pos]'h).toNat < 128
  · rw [decode_ascii s pos h ha]
    exact ⟨digB_byte _, letB_byte _, fun _ => rfl⟩
  · obtain ⟨h1, _⟩ := decode_high s pos h (by omega)
    rw [isD_high _ (by omega), isL_high _ (by omega)]
    exact ⟨digB_high _ (by omega), letB_high _ (by omega), by simp⟩
theorem lt_len {s : ByteArray} {k : Nat} (h : k < s.size) : k < s.data.toList.length := by simp only [Array.length_toList]; exact h
theorem bytes_at (s : ByteArray) (k : Nat) (h : k < s.size) : s.data.toList[k]'(lt_len h) = s[k]'h := by simp only [Array.getElem_toList]; rfl
theorem bytes_len (s : ByteArray) : s.data.toList.length = s.size := by simp only [Array.length_toList]; rfl
theorem toList_isEmpty (s : ByteArray) : s.toList.isEmpty = decide (s.size = 0) := by
  have h : s.toList = s.data.toList := ByteArray.toList_eq s
  rw [h]
  rcases hl : s.data.toList with _ | ⟨c, t⟩
  · have : s.size = 0 := by rw [← bytes_len, hl]; rfl
    simp [this]
  · have : s.size ≠ 0 := by rw [← bytes_len, hl]; simp
    simp [this]
set_option maxHeartbeats 800000 in
theorem nameSize_any (s : ByteArray) (w : World) (hs : s.size ≤ maxLen) :
    Calls Try.prog 89 #[.string s] w fun e w' => e = .returned (.int .i64 (nsz s.data.toList)) ∧ Below w.heap.size w w' := by
  have hs' := hs
  unfold maxLen at hs'
  go_enter Try.func89, Try.ntmps89
  go_wp2
  go_loopw [] (fun w' => ∃ k : Nat, k ≤ s.size ∧ w' = w.iter s k ∧ Hid (nsz s.data.toList = k + nszF (decide (k = 0)) (s.data.toList.drop k))) (fun w' => s.size - w'.iterPos w.heap.size)
  case atStart => exact ⟨0, Nat.zero_le _, rfl, by simp [Hid, nsz]⟩
  case round =>
    obtain ⟨k, hk, rfl, hd⟩ := hrel
    by_cases hlt : k < s.size
    · have hnx := fun ty => run_next_any (P := Try.prog) w s k ty hlt
      obtain ⟨h1, h2, h3⟩ := rune_of s k hlt
      have hle := decode_le s k
      generalize hr : (Utf8.decode s k).1 = r at *
      generalize hw : (Utf8.decode s k).2 = wd at *
      clear hr hw
      have cR := digit_any (r : Int)
      have cL := letter_any (r : Int)
      rw [h1] at cR; rw [h2] at cL
      clear h1 h2
      have hb := bytes_at s k hlt
      cases hL : isL (s[k]'hlt)
      · rw [hL] at cL
        have CL := Lib.hid cL; clear cL
        by_cases hk0 : k = 0
        · have HS := Lib.hid (nszF_stop s.data.toList k (decide (k = 0)) (lt_len hlt) (by rw [hb, hL]; simp [hk0]))
          have CR := Lib.hid cR; clear cR hb h3 hL
          subst hk0
          go_wp2_with (first | (go_at_call 92; refine (CL.out _).mono ?_; rintro e w' ⟨rfl, rfl⟩) | (go_at_call 93; refine (CR.out _).mono ?_; rintro e w' ⟨rfl, rfl⟩))
          go_ret
          refine ⟨?_, ?_⟩
          · have := hd.out; rw [HS.out] at this; rw [this]; rfl
          · exact (Below.refl _ _).alloc (Nat.le_refl _) _
        · have hkz : ((k : Int) == 0) = false := by simp; omega
          cases hD : isD (s[k]'hlt)
          · rw [hD] at cR
            have HS := Lib.hid (nszF_stop s.data.toList k (decide (k = 0)) (lt_len hlt) (by rw [hb, hL, hD]; simp))
            have CR := Lib.hid cR; clear cR hb h3 hL hD
            go_wp2_with (first | (go_at_call 92; refine (CL.out _).mono ?_; rintro e w' ⟨rfl, rfl⟩) | (go_at_call 93; refine (CR.out _).mono ?_; rintro e w' ⟨rfl, rfl⟩))
            go_ret
            refine ⟨?_, ?_⟩
            · have := hd.out; rw [HS.out] at this; rw [this]; rfl
            · exact (Below.refl _ _).alloc (Nat.le_refl _) _
          · rw [hD] at cR
            have HS := Lib.hid (nszF_step s.data.toList k (decide (k = 0)) (lt_len hlt) (by rw [hb, hL, hD]; simp [hk0]))
            obtain rfl : wd = 1 := h3 (Or.inl hD)
            have CR := Lib.hid cR; clear cR hb h3 hL hD
            go_wp2_with (first | (go_at_call 92; refine (CL.out _).mono ?_; rintro e w' ⟨rfl, rfl⟩) | (go_at_call 93; refine (CR.out _).mono ?_; rintro e w' ⟨rfl, rfl⟩))
            go_roundw
            case rel => exact ⟨k + 1, by omega, rfl, by have := hd.out; rw [HS.out] at this; unfold Hid; rw [show decide (k + 1 = 0) = false from by simp]; omega⟩
            case measure => simp; omega
      · rw [hL] at cL
        have HS := Lib.hid (nszF_step s.data.toList k (decide (k = 0)) (lt_len hlt) (by rw [hb, hL]; simp))
        obtain rfl : wd = 1 := h3 (Or.inr hL)
        have CL := Lib.hid cL; clear cL
        have CR := Lib.hid cR; clear cR hb h3 hL
        go_wp2_with (first | (go_at_call 92; refine (CL.out _).mono ?_; rintro e w' ⟨rfl, rfl⟩) | (go_at_call 93; refine (CR.out _).mono ?_; rintro e w' ⟨rfl, rfl⟩))
        go_roundw
        case rel => exact ⟨k + 1, by omega, rfl, by have := hd.out; rw [HS.out] at this; unfold Hid; rw [show decide (k + 1 = 0) = false from by simp]; omega⟩
        case measure => simp; omega
    · have hk' : k = s.size := by omega
      subst hk'
      have hnx := fun ty => run_next_end (P := Try.prog) w s s.size ty hlt
      go_wp2
      go_ret
      refine ⟨?_, ?_⟩
      · have := hd.out; rw [← bytes_len, nszF_end] at this; rw [this, bytes_len]; rfl
      · exact (Below.refl _ _).alloc (Nat.le_refl _) _
end Sc
end Go.Proofs.Yteooafgdmpbjeab
namespace Go.Proofs.Yteooafgdmpbjeab
open Go.RowKit
namespace Sp
open Sc
set_option maxHeartbeats 400000 in
theorem Ident_any (s : ByteArray) (w : World) (hs : s.size ≤ maxLen) :
    Calls Try.prog 76 #[.string s] w fun e w' => e = .returned (.bool (identB s.data.toList)) ∧ Below w.heap.size w w' := by
  have he := toList_isEmpty s
  have C := nameSize_any s
  have hle := nsz_le s.data.toList
  unfold identB
  rw [bytes_len] at hle ⊢
  have hs' := hs
  unfold maxLen at hs'
  by_cases h0 : s.size = 0
  · rw [decide_eq_true h0] at he
    rw [show decide (s.size ≠ 0) = false from decide_eq_false (by omega)]
    clear h0 C
    go_enter Try.func76, Try.ntmps76
    go_wp2_with fail
    go_ret
    exact ⟨rfl, Below.refl _ _⟩
  · rw [decide_eq_false h0] at he
    rw [show decide (s.size ≠ 0) = true from decide_eq_true h0]
    by_cases h16 : s.size ≤ 16
    · rw [decide_eq_true h16]
      generalize nsz s.data.toList = k at *
      have HC := Lib.hid C; clear C h0
      by_cases hk : k = s.size
      · rw [decide_eq_true hk]
        subst hk
        go_enter Try.func76, Try.ntmps76
        go_wp2_with (go_at_call 89; (with_reducible refine (HC.out _ hs).mono ?_); rintro e w1 ⟨rfl, hb⟩)
        go_ret
        exact ⟨rfl, by assumption⟩
      · rw [decide_eq_false hk]
        have tk : ((k : Int) == (s.size : Int)) = false := by simp; omega
        have tk' : (k == s.size) = false := by simp; omega
        clear hk
        go_enter Try.func76, Try.ntmps76
        go_wp2_with (go_at_call 89; (with_reducible refine (HC.out _ hs).mono ?_); rintro e w1 ⟨rfl, hb⟩)
        go_ret
        exact ⟨rfl, by assumption⟩
    · rw [decide_eq_false h16]
      have h16' : 16 < (s.size : Int) := by omega
      clear C
      go_enter Try.func76, Try.ntmps76
      go_wp2_with fail
      go_ret
      exact ⟨rfl, Below.refl _ _⟩
end Sp
end Go.Proofs.Yteooafgdmpbjeab
