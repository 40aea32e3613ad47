/- The reader of schemas as plain functions. No program is named here. -/
import Derived.Test.YtnnnjonodnkccaaGreatDoorToks
import Derived.Lib.Bytealg
namespace Go.Proofs.YtnnnjonodnkccaaGreatDoor
namespace Sh
open Sc

/-- A type: 'any' stands for one of whose memory nothing is said. -/
inductive Ty where
  | any : Ty
  | mk (kind : Nat) (name : List UInt8) (names : List (List UInt8)) (kids : List Ty) : Ty

def Ty.zero : Ty := .mk 0 [] [] []

structure R where
  words : List T
  err : Nat
  twice : Bool

namespace R
def fail (r : R) (e : Nat) : R := ⟨[], if r.err = 0 then e else r.err, r.twice⟩
def tail (r : R) : R := ⟨r.words.tail, r.err, r.twice⟩
def head (r : R) : List UInt8 := match r.words with | [] => [] | t :: _ => t.text
def isName (r : R) : Bool := match r.words with | [] => false | t :: _ => decide (t.kind = 1)
def isAt (r : R) (k : Nat) (s : List UInt8) : Bool := match r.words with | [] => false | t :: _ => decide (t.kind = k) && decide (t.text = s)
def take (r : R) (k : Nat) (s : List UInt8) : R := if r.isAt k s then r.tail else r
def need (r : R) (k : Nat) (s : List UInt8) : R := if r.isAt k s then r.tail else r.fail 12
def name (r : R) : List UInt8 × R := if r.isName then (r.head, r.tail) else ([], r.fail 12)
def both (r : R) (b : Bool) : R := ⟨r.words, r.err, r.twice || b⟩
/-- What 'end' tells. -/
def over (r : R) : Nat :=
  if r.words.length = 0 then (if r.err = 0 then (if r.twice then 6 else 0) else r.err) else (if r.err = 0 then 12 else r.err)
end R

def kindOf (s : List UInt8) : Nat :=
  if s = [] then 0
  else if s = [66, 111, 111, 108] then 1
  else if s = [73, 110, 116] then 2
  else if s = [84, 101, 120, 116] then 3
  else if s = [76, 105, 115, 116] then 4
  else if s = [77, 97, 112] then 5
  else if s = [79, 112, 116] then 6
  else if s = [85, 110, 105, 111, 110] then 8
  else 9

/-- What stands between commas, the state at the head of a thing; at most so many. -/
def listGo {α : Type} (read : R → α × R) : Nat → R → List α × R
  | 0, r => ([], r)
  | n + 1, r =>
    if (read r).2.isAt 4 [44] then ((read r).1 :: (listGo read n (read r).2.tail).1, (listGo read n (read r).2.tail).2)
    else ([(read r).1], (read r).2)

def listR {α : Type} (op cl : List UInt8) (read : R → α × R) (r : R) : List α × R :=
  if (r.need 4 op).isAt 4 cl then ([], (r.need 4 op).need 4 cl)
  else ((listGo read ((r.need 4 op).words.length + 1) (r.need 4 op)).1, (listGo read ((r.need 4 op).words.length + 1) (r.need 4 op)).2.need 4 cl)

def fieldR (read : R → Ty × R) (r : R) : (List UInt8 × Ty) × R := ((r.name.1, (read (r.name.2.need 4 [58])).1), (read (r.name.2.need 4 [58])).2)

def lessB (a b : List UInt8) : Bool := decide (Lib.compareBytes a b < 0)
def dup : List (List UInt8) → Bool
  | [] => false
  | a :: l => l.any (fun b => decide (a = b)) || dup l

def ins {β : Type} (x : List UInt8 × β) : List (List UInt8 × β) → List (List UInt8 × β)
  | [] => [x]
  | y :: l => if lessB x.1 y.1 then x :: y :: l else y :: ins x l
def isort {β : Type} : List (List UInt8 × β) → List (List UInt8 × β)
  | [] => []
  | x :: l => ins x (isort l)

def recOf (k : Nat) (l : List (List UInt8 × Ty)) : Ty := if dup (l.map (·.1)) then .any else .mk k [] ((isort l).map (·.1)) ((isort l).map (·.2))

def recordR (k : Nat) (read : R → Ty × R) (r : R) : Ty × R :=
  (recOf k (listR [123] [125] (fieldR read) r).1, (listR [123] [125] (fieldR read) r).2.both (dup ((listR [123] [125] (fieldR read) r).1.map (·.1))))

/-- A type that may be so many deep. -/
def typ : Nat → R → Ty × R
  | 0, r => (.zero, r.fail (if r.isAt 4 [123] || r.isName then 13 else 12))
  | f + 1, r =>
    if r.isAt 4 [123] then recordR 7 (typ f) r
    else if r.isName then
      if kindOf r.head = 4 ∨ kindOf r.head = 5 ∨ kindOf r.head = 6 then (.mk (kindOf r.head) [] [] [(typ f (r.tail.need 4 [60])).1], (typ f (r.tail.need 4 [60])).2.need 4 [62])
      else if kindOf r.head = 8 then recordR 8 (typ f) r.tail
      else if kindOf r.head = 9 then (.mk 9 r.head [] [], r.tail)
      else (.mk (kindOf r.head) [] [] [], r.tail)
    else (.zero, r.fail 12)

def outer (r : R) : Ty × R := typ 12 r

structure Sig where
  params : List Ty
  result : Ty

structure Sch where
  main : Ty
  types : List (List UInt8 × Ty)
  sigs : List (List UInt8 × Sig)

def namedR (r : R) : (List UInt8 × Ty) × R := ((r.name.1, (outer (r.name.2.need 4 [61])).1), (outer (r.name.2.need 4 [61])).2)
def sigR (r : R) : (List UInt8 × Sig) × R :=
  let a := (r.need 1 [102, 110]).name
  let p := listR [40] [41] outer a.2
  let t := outer (p.2.need 4 [45, 62])
  ((a.1, ⟨p.1, t.1⟩), t.2)

def schGo : Nat → R → List (List UInt8 × Ty) → List (List UInt8 × Sig) → (List (List UInt8 × Ty) × List (List UInt8 × Sig)) × R
  | 0, r, a, b => ((a, b), r)
  | n + 1, r, a, b =>
    if r.words.length = 0 then ((a, b), r)
    else if r.isAt 1 [116, 121, 112, 101] then schGo n ((namedR r.tail).2.need 4 [59]) (a ++ [(namedR r.tail).1]) b
    else schGo n ((sigR r).2.need 4 [59]) a (b ++ [(sigR r).1])

def mainR (r : R) : Ty × R := ((outer (r.need 1 [100, 97, 116, 97])).1, (outer (r.need 1 [100, 97, 116, 97])).2.need 4 [59])
def schemaR (r : R) : Sch × R :=
  let g := schGo ((mainR r).2.words.length + 1) (mainR r).2 [] []
  (⟨(mainR r).1, isort g.1.1, isort g.1.2⟩, (g.2.both (dup (g.1.1.map (·.1)))).both (dup (g.1.2.map (·.1))))

def rd (ts : List T) : R := ⟨ts, 0, false⟩
def typeL (l : List UInt8) : Ty × Nat :=
  if (toks l).1 = 0 then (if (outer (rd (toks l).2)).2.over = 0 then ((outer (rd (toks l).2)).1, 0) else (.zero, (outer (rd (toks l).2)).2.over)) else (.zero, (toks l).1)
def parseE (l : List UInt8) : Nat := if (toks l).1 = 0 then (schemaR (rd (toks l).2)).2.over else (toks l).1

/-- The word of a kind, and its form. -/
def lkw (k : Nat) : List UInt8 := [[], [66, 111, 111, 108], [73, 110, 116], [84, 101, 120, 116], [76, 105, 115, 116], [77, 97, 112], [79, 112, 116], [], [85, 110, 105, 111, 110], []].getD k []
def lkf (k : Nat) : Nat := [0, 0, 0, 0, 1, 1, 1, 2, 3, 0].getD k 0

/-! ### How a type is written -/
mutual
def textT : Ty → List UInt8
  | .any => []
  | .mk k n ns ks =>
    if lkf k = 1 then lkw k ++ [60] ++ kidsT true ns ks ++ [62]
    else if lkf k = 2 then lkw k ++ [123] ++ kidsT true ns ks ++ [125]
    else if lkf k = 3 then lkw k ++ [32] ++ [123] ++ kidsT true ns ks ++ [125]
    else lkw k ++ (if k = 9 then n else [])
def kidsT : Bool → List (List UInt8) → List Ty → List UInt8
  | _, _, [] => []
  | b, ns, t :: ks => (if b then [] else [44, 32]) ++ (if ns.length = 0 then [] else ns.headD [] ++ [58, 32]) ++ textT t ++ kidsT false ns.tail ks
end
mutual
def sizeT : Ty → Nat
  | .any => 1
  | .mk _ _ _ ks => 1 + sizeK ks
def sizeK : List Ty → Nat
  | [] => 0
  | t :: ks => sizeT t + sizeK ks
end
mutual
def goodT : Ty → Bool
  | .any => false
  | .mk k _ _ ks => decide (k ≤ 9) && (decide (lkf k ≠ 0) || ks.isEmpty) && goodK ks
def goodK : List Ty → Bool
  | [] => true
  | t :: ks => goodT t && goodK ks
end
theorem sizeT_pos (t : Ty) : 1 ≤ sizeT t := by cases t <;> simp [sizeT]
theorem len_sizeK : ∀ ks : List Ty, ks.length ≤ sizeK ks
  | [] => Nat.zero_le _
  | t :: ks => by have := sizeT_pos t; have := len_sizeK ks; simp only [List.length_cons, sizeK]; omega
theorem sizeK_drop (ks : List Ty) (k : Nat) (h : k < ks.length) : sizeK (ks.drop k) = sizeT ks[k] + sizeK (ks.drop (k + 1)) := by rw [List.drop_eq_getElem_cons h, sizeK]
theorem sizeT_mem : ∀ (ks : List Ty) (k : Nat) (h : k < ks.length), sizeT ks[k] ≤ sizeK ks
  | t :: ks, 0, _ => by simp only [List.getElem_cons_zero, sizeK]; omega
  | t :: ks, k + 1, h => by have := sizeT_mem ks k (by simpa using h); simp only [List.getElem_cons_succ, sizeK]; omega
theorem goodK_mem : ∀ (ks : List Ty), goodK ks = true → ∀ (k : Nat) (h : k < ks.length), goodT ks[k] = true
  | t :: ks, hg, 0, _ => by simp only [goodK, Bool.and_eq_true] at hg; exact hg.1
  | t :: ks, hg, k + 1, h => by simp only [goodK, Bool.and_eq_true] at hg; exact goodK_mem ks hg.2 k (by simpa using h)
theorem kidsT_drop (b : Bool) (ns : List (List UInt8)) (ks : List Ty) (k : Nat) (h : k < ks.length) :
    kidsT b (ns.drop k) (ks.drop k) = (if b then [] else [44, 32]) ++ (if h : k < ns.length then ns[k] ++ [58, 32] else []) ++ textT ks[k] ++ kidsT false (ns.drop (k + 1)) (ks.drop (k + 1)) := by
  rw [List.drop_eq_getElem_cons h, kidsT]
  by_cases hn : k < ns.length
  · rw [dif_pos hn, if_neg (show ¬ (ns.drop k).length = 0 by rw [List.length_drop]; omega), List.drop_eq_getElem_cons hn]; rfl
  · rw [dif_neg hn, if_pos (show (ns.drop k).length = 0 by rw [List.length_drop]; omega), List.drop_eq_nil_of_le (show ns.length ≤ k by omega), List.drop_eq_nil_of_le (show ns.length ≤ k + 1 by omega)]; rfl

/-! ### How words go -/
theorem tail_le (r : R) : r.tail.words.length ≤ r.words.length := by simp [R.tail]
theorem fail_le (r : R) (e : Nat) : (r.fail e).words.length ≤ r.words.length := by simp [R.fail]
theorem need_le (r : R) (k : Nat) (s : List UInt8) : (r.need k s).words.length ≤ r.words.length := by
  unfold R.need; split
  · exact tail_le r
  · exact fail_le r _
theorem name_le (r : R) : r.name.2.words.length ≤ r.words.length := by
  unfold R.name; split
  · exact tail_le r
  · exact fail_le r _
theorem isAt_pos {r : R} {k : Nat} {s : List UInt8} (h : r.isAt k s = true) : 1 ≤ r.words.length := by
  unfold R.isAt at h
  split at h
  · cases h
  · rename_i e; rw [e]; simp
theorem isName_pos {r : R} (h : r.isName = true) : 1 ≤ r.words.length := by
  unfold R.isName at h
  split at h
  · cases h
  · rename_i e; rw [e]; simp
theorem isAt_tail {r : R} {k : Nat} {s : List UInt8} (h : r.isAt k s = true) : r.tail.words.length + 1 = r.words.length := by
  have := isAt_pos h
  simp [R.tail]; omega

theorem listGo_le {α : Type} (read : R → α × R) (hr : ∀ r, (read r).2.words.length ≤ r.words.length) (n : Nat) : ∀ r, (listGo read n r).2.words.length ≤ r.words.length := by
  induction n with
  | zero => intro r; exact Nat.le_refl _
  | succ n ih =>
    intro r
    unfold listGo
    split
    · exact Nat.le_trans (ih _) (Nat.le_trans (tail_le _) (hr r))
    · exact hr r
theorem listR_le {α : Type} (op cl : List UInt8) (read : R → α × R) (hr : ∀ r, (read r).2.words.length ≤ r.words.length) (r : R) : (listR op cl read r).2.words.length ≤ r.words.length := by
  unfold listR
  split
  · exact Nat.le_trans (need_le _ _ _) (need_le _ _ _)
  · exact Nat.le_trans (need_le _ _ _) (Nat.le_trans (listGo_le read hr _ _) (need_le _ _ _))
theorem fieldR_le (read : R → Ty × R) (hr : ∀ r, (read r).2.words.length ≤ r.words.length) (r : R) : (fieldR read r).2.words.length ≤ r.words.length :=
  Nat.le_trans (hr _) (Nat.le_trans (need_le _ _ _) (name_le _))
theorem typ_le (f : Nat) : ∀ r, (typ f r).2.words.length ≤ r.words.length := by
  induction f with
  | zero => intro r; exact fail_le r _
  | succ f ih =>
    intro r
    unfold typ
    split
    · exact listR_le _ _ _ (fieldR_le _ ih) r
    · split
      · split
        · exact Nat.le_trans (need_le _ _ _) (Nat.le_trans (ih _) (Nat.le_trans (need_le _ _ _) (tail_le r)))
        · split
          · exact Nat.le_trans (listR_le _ _ _ (fieldR_le _ ih) r.tail) (tail_le r)
          · split
            · exact tail_le r
            · exact tail_le r
      · exact fail_le r _
theorem outer_le (r : R) : (outer r).2.words.length ≤ r.words.length := typ_le 12 r
theorem namedR_le (r : R) : (namedR r).2.words.length ≤ r.words.length := Nat.le_trans (outer_le _) (Nat.le_trans (need_le _ _ _) (name_le _))
theorem sigR_le (r : R) : (sigR r).2.words.length ≤ r.words.length :=
  Nat.le_trans (outer_le _) (Nat.le_trans (need_le _ _ _) (Nat.le_trans (listR_le _ _ _ outer_le _) (Nat.le_trans (name_le _) (need_le _ _ _))))

/-- More rounds than words: one more changes nothing. -/
theorem listGo_more {α : Type} (read : R → α × R) (hr : ∀ r, (read r).2.words.length ≤ r.words.length) (n : Nat) : ∀ m r, r.words.length < n → n ≤ m → listGo read m r = listGo read n r := by
  induction n with
  | zero => intro m r h; omega
  | succ n ih =>
    intro m r h hm
    obtain ⟨m, rfl⟩ : ∃ k, m = k + 1 := ⟨m - 1, by omega⟩
    unfold listGo
    by_cases hc : (read r).2.isAt 4 [44] = true
    · have h1 := isAt_tail hc
      have h2 := hr r
      rw [if_pos hc, if_pos hc, ih m (read r).2.tail (by omega) (by omega)]
    · rw [if_neg hc, if_neg hc]

/-! ### The order of names -/
theorem cmp_self (a : List UInt8) : Lib.compareBytes a a = 0 := by
  induction a with
  | nil => rfl
  | cons c a ih => simp [Lib.compareBytes, ih]
theorem cmp_zero : ∀ (a b : List UInt8), Lib.compareBytes a b = 0 → a = b
  | [], [], _ => rfl
  | [], _ :: _, h => by simp [Lib.compareBytes] at h
  | _ :: _, [], h => by simp [Lib.compareBytes] at h
  | c :: a, d :: b, h => by
    unfold Lib.compareBytes at h
    split at h
    · simp at h
    · split at h
      · simp at h
      · rename_i h1 h2
        have : c = d := by
          apply UInt8.toNat_inj.1
          have e1 : ¬ c.toNat < d.toNat := fun h => h1 (UInt8.lt_iff_toNat_lt.2 h)
          have e2 : ¬ d.toNat < c.toNat := fun h => h2 (UInt8.lt_iff_toNat_lt.2 h)
          omega
        rw [this, cmp_zero a b h]
theorem cmp_swap : ∀ (a b : List UInt8), Lib.compareBytes b a = - Lib.compareBytes a b
  | [], [] => rfl
  | [], _ :: _ => rfl
  | _ :: _, [] => rfl
  | c :: a, d :: b => by
    unfold Lib.compareBytes
    by_cases h1 : c < d
    · have h2 : ¬ d < c := fun h => by rw [UInt8.lt_iff_toNat_lt] at h h1; omega
      simp [h1, h2]
    · by_cases h2 : d < c
      · simp [h1, h2]
      · simp only [h1, h2, if_false]; exact cmp_swap a b
theorem cmp_trans : ∀ (a b c : List UInt8), Lib.compareBytes a b < 0 → Lib.compareBytes b c < 0 → Lib.compareBytes a c < 0
  | [], [], _, h, _ => by simp [Lib.compareBytes] at h
  | _ :: _, [], _, h, _ => by simp [Lib.compareBytes] at h
  | _, _ :: _, [], _, h => by simp [Lib.compareBytes] at h
  | [], _ :: _, _ :: _, _, _ => by simp [Lib.compareBytes]
  | x :: a, y :: b, z :: c, h1, h2 => by
    unfold Lib.compareBytes at h1 h2 ⊢
    by_cases xy : x < y
    · by_cases yz : y < z
      · have : x < z := by rw [UInt8.lt_iff_toNat_lt] at *; omega
        simp [this]
      · by_cases zy : z < y
        · simp [yz, zy] at h2
        · have : x < z := by rw [UInt8.lt_iff_toNat_lt] at *; omega
          simp [this]
    · by_cases yx : y < x
      · simp [xy, yx] at h1
      · simp only [xy, yx, if_false] at h1
        by_cases yz : y < z
        · have : x < z := by rw [UInt8.lt_iff_toNat_lt] at *; omega
          simp [this]
        · by_cases zy : z < y
          · simp [yz, zy] at h2
          · simp only [yz, zy, if_false] at h2
            have n1 : ¬ x < z := by rw [UInt8.lt_iff_toNat_lt] at *; omega
            have n2 : ¬ z < x := by rw [UInt8.lt_iff_toNat_lt] at *; omega
            simp only [n1, n2, if_false]
            exact cmp_trans a b c h1 h2

theorem lessB_irrefl (a : List UInt8) : lessB a a = false := by simp [lessB, cmp_self]
theorem lessB_trans {a b c : List UInt8} (h1 : lessB a b = true) (h2 : lessB b c = true) : lessB a c = true := by
  unfold lessB at *
  exact decide_eq_true (cmp_trans a b c (of_decide_eq_true h1) (of_decide_eq_true h2))
theorem lessB_tri {a b : List UInt8} (h1 : lessB a b = false) (h2 : lessB b a = false) : a = b := by
  unfold lessB at *
  have h1 := of_decide_eq_false h1
  have h2 := of_decide_eq_false h2
  rw [cmp_swap a b] at h2
  exact cmp_zero a b (by omega)
theorem lessB_asymm {a b : List UInt8} (h1 : lessB a b = true) : lessB b a = false := by
  cases h : lessB b a
  · rfl
  · have := lessB_trans h1 h; rw [lessB_irrefl] at this; cases this
theorem lessB_ntrans {a b c : List UInt8} (h1 : lessB a b = false) (h2 : lessB b c = false) : lessB a c = false := by
  cases h : lessB a c
  · rfl
  · exfalso
    cases h3 : lessB c b
    · have := lessB_tri h2 h3; subst this; rw [h1] at h; cases h
    · have := lessB_trans h h3; rw [h1] at this; cases this

/-! ### One sorted row -/
theorem ins_perm {β : Type} (x : List UInt8 × β) (l : List (List UInt8 × β)) : (ins x l).Perm (x :: l) := by
  induction l with
  | nil => exact List.Perm.refl _
  | cons y l ih =>
    unfold ins
    split
    · exact List.Perm.refl _
    · exact (ih.cons y).trans (List.Perm.swap x y l)
theorem isort_perm {β : Type} (l : List (List UInt8 × β)) : (isort l).Perm l := by
  induction l with
  | nil => exact List.Perm.refl _
  | cons x l ih => exact (ins_perm x (isort l)).trans (ih.cons x)

def Rises {β : Type} (l : List (List UInt8 × β)) : Prop := l.Pairwise fun x y => lessB y.1 x.1 = false

theorem ins_rises {β : Type} (x : List UInt8 × β) (l : List (List UInt8 × β)) (h : Rises l) : Rises (ins x l) := by
  induction l with
  | nil => exact List.pairwise_singleton _ _
  | cons y l ih =>
    obtain ⟨hy, hl⟩ := List.pairwise_cons.1 h
    unfold ins
    split
    · rename_i hxy
      refine List.pairwise_cons.2 ⟨fun z hz => ?_, h⟩
      rcases List.mem_cons.1 hz with rfl | hz
      · exact lessB_asymm hxy
      · cases hh : lessB z.1 x.1
        · rfl
        · have := lessB_trans hh hxy; rw [hy z hz] at this; cases this
    · rename_i hxy
      refine List.pairwise_cons.2 ⟨fun z hz => ?_, ih hl⟩
      rcases List.mem_cons.1 ((ins_perm x l).mem_iff.1 hz) with rfl | hz
      · exact Bool.eq_false_iff.2 hxy
      · exact hy z hz
theorem isort_rises {β : Type} (l : List (List UInt8 × β)) : Rises (isort l) := by
  induction l with
  | nil => exact List.Pairwise.nil
  | cons x l ih => exact ins_rises x _ ih

theorem dup_false {l : List (List UInt8)} (h : dup l = false) : l.Nodup := by
  induction l with
  | nil => exact List.nodup_nil
  | cons a l ih =>
    unfold dup at h
    rw [Bool.or_eq_false_iff] at h
    refine List.nodup_cons.2 ⟨fun hm => ?_, ih h.2⟩
    have := List.any_eq_false.1 h.1 a hm
    simp at this
theorem dup_true {l : List (List UInt8)} (h : dup l = true) : ¬ l.Nodup := by
  induction l with
  | nil => cases h
  | cons a l ih =>
    unfold dup at h
    rw [Bool.or_eq_true] at h
    intro hn
    obtain ⟨h1, h2⟩ := List.nodup_cons.1 hn
    rcases h with h | h
    · obtain ⟨b, hb, e⟩ := List.any_eq_true.1 h
      exact h1 (by rw [of_decide_eq_true e]; exact hb)
    · exact ih h h2
theorem dup_perm {a b : List (List UInt8)} (h : a.Perm b) : dup a = dup b := by
  cases ha : dup a <;> cases hb : dup b
  · rfl
  · exact absurd (h.nodup_iff.1 (dup_false ha)) (dup_true hb)
  · exact absurd (h.nodup_iff.2 (dup_false hb)) (dup_true ha)
  · rfl

theorem rises_uniq {β : Type} : ∀ (a b : List (List UInt8 × β)), (a.map (·.1)).Nodup → a.Perm b → Rises a → Rises b → a = b
  | [], b, _, hp, _, _ => (List.nil_perm.1 hp).symm
  | x :: a, [], _, hp, _, _ => by cases List.perm_nil.1 hp
  | x :: a, y :: b, hn, hp, ha, hb => by
    obtain ⟨hx, ha'⟩ := List.pairwise_cons.1 ha
    obtain ⟨hy, hb'⟩ := List.pairwise_cons.1 hb
    have hn' := hn
    rw [List.map_cons, List.nodup_cons] at hn
    have hxy : x = y := by
      rcases List.mem_cons.1 (hp.mem_iff.1 (List.mem_cons_self)) with e | hxb
      · exact e
      · rcases List.mem_cons.1 (hp.mem_iff.2 (List.mem_cons_self)) with e | hya
        · exact e.symm
        · exfalso
          have e := lessB_tri (hy x hxb) (hx y hya)
          exact hn.1 (by rw [e]; exact List.mem_map_of_mem hya)
    subst hxy
    rw [rises_uniq a b hn.2 (List.perm_cons x |>.1 hp) ha' hb']

theorem isort_uniq {β : Type} (l a : List (List UInt8 × β)) (hd : dup (l.map (·.1)) = false) (hp : a.Perm l) (hr : Rises a) : a = isort l :=
  rises_uniq a (isort l) ((hp.map _).nodup_iff.2 (dup_false hd)) (hp.trans (isort_perm l).symm) hr (isort_rises l)

/-- In a row that rises two of one name stand side by side. -/
theorem dup_near : ∀ (l : List (List UInt8)), (l.Pairwise fun x y => lessB y x = false) → dup l = (List.range (l.length - 1)).any fun i => decide (l[i]! = l[i + 1]!)
  | [], _ => rfl
  | [a], _ => rfl
  | a :: b :: l, h => by
    obtain ⟨ha, hl⟩ := List.pairwise_cons.1 h
    obtain ⟨hb, _⟩ := List.pairwise_cons.1 hl
    have ih := dup_near (b :: l) hl
    have e1 : dup (a :: b :: l) = (decide (a = b) || dup (b :: l)) := by
      rw [dup]
      cases hab : decide (a = b)
      · have hne := of_decide_eq_false hab
        rw [Bool.false_or]
        have : ((b :: l).any fun x => decide (a = x)) = false := by
          rw [List.any_eq_false]
          intro x hx he
          have he := of_decide_eq_true he
          subst he
          rcases List.mem_cons.1 hx with e | hxl
          · exact hne e
          · exact hne (lessB_tri (hb a hxl) (ha b List.mem_cons_self))
        rw [this, Bool.false_or]
      · have : ((b :: l).any fun x => decide (a = x)) = true := by
          rw [List.any_eq_true]; exact ⟨b, List.mem_cons_self, hab⟩
        rw [this]
    rw [e1, ih]
    show _ = (List.range (l.length + 1)).any _
    rw [List.range_succ_eq_map, List.any_cons, List.any_map]
    rfl
end Sh
end Go.Proofs.YtnnnjonodnkccaaGreatDoor
