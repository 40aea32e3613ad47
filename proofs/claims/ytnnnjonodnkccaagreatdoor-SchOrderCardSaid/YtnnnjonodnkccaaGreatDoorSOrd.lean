/- SchOrder: all but its walk (seven texts in one). -/
import Derived.Test.YtnnnjonodnkccaaGreatDoorSLawA
import Derived.Test.YtnnnjonodnkccaaGreatDoorSTk
import Derived.Test.YtnnnjonodnkccaaGreatDoorSDeepP
import Derived.Test.YtnnnjonodnkccaaGreatDoorSParseV
import Derived.Test.YtnnnjonodnkccaaGreatDoorRSchema
/- What order does not change: rows of names put in order, records of fields in any order. -/
namespace Go.Proofs.YtnnnjonodnkccaaGreatDoor
open Go.RowKit
namespace Sh
open Sc

theorem isort_of_perm {β : Type} (a b : List (List UInt8 × β)) (hp : a.Perm b) (hd : dup (b.map (·.1)) = false) : isort a = isort b :=
  isort_uniq b (isort a) hd ((isort_perm a).trans hp) (isort_rises a)
theorem recOf_perm (k : Nat) (a b : List (List UInt8 × Ty)) (hp : a.Perm b) : recOf k a = recOf k b := by
  unfold recOf
  rw [dup_perm (hp.map (·.1))]
  cases hd : dup (b.map (·.1))
  · rw [isort_of_perm a b hp hd]
  · rfl
/-- A row turned round by some places holds the same. -/
theorem rotate_perm {α : Type} (l : List α) (k : Nat) : (l.drop k ++ l.take k).Perm l := by
  have h := List.perm_append_comm (l₁ := l.drop k) (l₂ := l.take k)
  rwa [List.take_append_drop] at h
/-- The i-th of a row that is turned by k places. -/
theorem rotate_get {α : Type} (l : List α) (k i : Nat) (hk : k < l.length) (hi : i < l.length) : (l.drop k ++ l.take k)[i]? = l[(i + k) % l.length]? := by
  by_cases h : i + k < l.length
  · rw [Nat.mod_eq_of_lt h, List.getElem?_append_left (by rw [List.length_drop]; omega), List.getElem?_drop, Nat.add_comm]
  · have e : (i + k) % l.length = i + k - l.length := by
      rw [Nat.mod_eq_sub_mod (by omega), Nat.mod_eq_of_lt (by omega)]
    rw [e, List.getElem?_append_right (by rw [List.length_drop]; omega), List.length_drop, List.getElem?_take, if_pos (by omega)]
    congr 1
    omega
end Sh
end Go.Proofs.YtnnnjonodnkccaaGreatDoor

/- spruelaw3's Name: one of seven. -/
namespace Go.Proofs.YtnnnjonodnkccaaGreatDoor
open Go.RowKit
namespace Sh
open Sc

/-- The seven names. -/
def nameL (k : Nat) : List UInt8 := match k with
  | 0 => [97]
  | 1 => [98]
  | 2 => [99]
  | 3 => [110, 97, 109, 101]
  | 4 => [110]
  | 5 => [73, 110, 116]
  | 6 => [116, 121, 112, 101]
  | _ => []
theorem arr_names : ∀ (k : Nat), k < 7 → (#[.string ⟨#[97]⟩, .string ⟨#[98]⟩, .string ⟨#[99]⟩, .string ⟨#[110, 97, 109, 101]⟩, .string ⟨#[110]⟩, .string ⟨#[73, 110, 116]⟩, .string ⟨#[116, 121, 112, 101]⟩] : Array Value)[k]? = some (.string ⟨(nameL k).toArray⟩)
  | 0, _ => rfl
  | 1, _ => rfl
  | 2, _ => rfl
  | 3, _ => rfl
  | 4, _ => rfl
  | 5, _ => rfl
  | 6, _ => rfl
  | k + 7, h => absurd h (by omega)
theorem lst_names : ∀ (k : Nat) (h : k < 7), ([.string ⟨#[97]⟩, .string ⟨#[98]⟩, .string ⟨#[99]⟩, .string ⟨#[110, 97, 109, 101]⟩, .string ⟨#[110]⟩, .string ⟨#[73, 110, 116]⟩, .string ⟨#[116, 121, 112, 101]⟩] : List Value)[k]'h = .string ⟨(nameL k).toArray⟩
  | 0, _ => rfl
  | 1, _ => rfl
  | 2, _ => rfl
  | 3, _ => rfl
  | 4, _ => rfl
  | 5, _ => rfl
  | 6, _ => rfl
  | k + 7, h => absurd h (by omega)

set_option maxRecDepth 100000 in
set_option maxHeartbeats 2000000 in
theorem Name_any (a : Int) (w : World) (ha1 : -9223372036854775808 ≤ a) (ha2 : a ≤ 9223372036854775807) :
    Calls Tryz.prog 7 #[.int .i64 a] w fun e w' => e = .returned (.string ⟨(nameL (a % 7).toNat).toArray⟩) ∧ Below w.heap.size w w' := by
  obtain ⟨n, hn⟩ : ∃ n : Nat, a % 7 = n := ⟨(a % 7).toNat, by omega⟩
  have h7 : n < 7 := by omega
  have h7z : (n : Int) < 7 := by omega
  have CA := fun w => within_any a 7 w (by omega) (by omega) ha1 ha2
  simp only [hn] at CA
  rw [hn, show ((n : Int)).toNat = n from rfl]
  have hO := arr_names n h7
  have hO2 := lst_names n h7
  have HA := Lib.hid CA
  clear CA hn ha1 ha2
  generalize nameL n = x at *
  go_enter Tryz.func7, Tryz.ntmps7
  go_wp2_with (go_at_call 8; (with_reducible refine (HA.out _).mono ?_); rintro e w2 ⟨rfl, rfl⟩)
  go_ret
  exact ⟨rfl, (Below.refl _ _).alloc (Nat.le_refl _) _⟩
end Sh
end Go.Proofs.YtnnnjonodnkccaaGreatDoor

/- SchOrder: the words of a record's text, its names in any order. -/
namespace Go.Proofs.YtnnnjonodnkccaaGreatDoor
namespace Sh
open Sc

/-- Text, or Int. -/
def tyW (b : Bool) : List UInt8 := if b then [84, 101, 120, 116] else [73, 110, 116]
/-- Fields of type Int or Text, commas between. -/
def fldS : Bool → List (Nat × Bool) → List UInt8
  | _, [] => []
  | b, k :: ks => (if b then [] else [44]) ++ (nameL k.1 ++ (58 :: (tyW k.2 ++ fldS false ks)))
def fldT : Bool → List (Nat × Bool) → List (Nat × List UInt8)
  | _, [] => []
  | b, k :: ks => (if b then [] else [(4, [44])]) ++ ((1, nameL k.1) :: (4, [58]) :: (1, tyW k.2) :: fldT false ks)

/-- What may follow a field: a comma, a closing sign. -/
def FSep (r : List UInt8) : Prop := ∃ x, r = 125 :: x ∨ r = 44 :: x
theorem FSep.bsz {r : List UInt8} (h : FSep r) : bsz r = 0 := by
  obtain ⟨x, rfl | rfl⟩ := h <;> rfl
theorem fld_sep (ks : List (Nat × Bool)) (r : List UInt8) (h : FSep r) : FSep (fldS false ks ++ r) := by
  cases ks with
  | nil => exact h
  | cons k ks => exact ⟨_, .inr rfl⟩
theorem w_ty (b : Bool) (r : List UInt8) (h : FSep r) : wordW (tyW b ++ ([] ++ r)) = ⟨1, tyW b, 0, (tyW b).length, 0⟩ := by
  obtain ⟨x, rfl | rfl⟩ := h <;> cases b <;> rfl
theorem w_colon (b : Bool) (r : List UInt8) : wordW ([58] ++ ([] ++ (tyW b ++ r))) = ⟨4, [58], 0, 1, 0⟩ ∧ bsz (tyW b ++ r) = 0 ∧ 0 < (tyW b).length := by
  cases b <;> exact ⟨rfl, rfl, by decide⟩
theorem w_name (k : Nat) (hk : k < 7) (r : List UInt8) : wordW (nameL k ++ ([] ++ (58 :: r))) = ⟨1, nameL k, 0, (nameL k).length, 0⟩ := by
  match k, hk with
  | 0, _ => rfl
  | 1, _ => rfl
  | 2, _ => rfl
  | 3, _ => rfl
  | 4, _ => rfl
  | 5, _ => rfl
  | 6, _ => rfl
theorem w_comma (k : Nat) (hk : k < 7) (r : List UInt8) : wordW ([44] ++ ([] ++ (nameL k ++ r))) = ⟨4, [44], 0, 1, 0⟩ ∧ bsz (nameL k ++ r) = 0 ∧ 0 < (nameL k).length := by
  match k, hk with
  | 0, _ => exact ⟨rfl, rfl, by decide⟩
  | 1, _ => exact ⟨rfl, rfl, by decide⟩
  | 2, _ => exact ⟨rfl, rfl, by decide⟩
  | 3, _ => exact ⟨rfl, rfl, by decide⟩
  | 4, _ => exact ⟨rfl, rfl, by decide⟩
  | 5, _ => exact ⟨rfl, rfl, by decide⟩
  | 6, _ => exact ⟨rfl, rfl, by decide⟩

theorem fld_words (ks : List (Nat × Bool)) (hk : ∀ k ∈ ks, k.1 < 7) : ∀ (b : Bool) (r : List UInt8) (ws : List (Nat × List UInt8)), FSep r → TKs r ws → TKs (fldS b ks ++ r) (fldT b ks ++ ws) := by
  induction ks with
  | nil => intro b r ws _ h; exact h
  | cons k ks ih =>
    intro b r ws hr h
    have h7 := hk k List.mem_cons_self
    have h0 := ih (fun k h => hk k (List.mem_cons_of_mem _ h)) false r ws hr h
    have hs := fld_sep ks r hr
    have h1 := TKs.word (u := tyW k.2) (b := []) h0 1 (tyW k.2) 0 (w_colon k.2 []).2.2 (w_ty k.2 _ hs) (by rw [List.nil_append]; exact hs.bsz)
    have h2 := TKs.word (u := [58]) (b := []) h1 4 [58] 0 (by decide) (w_colon k.2 _).1 (by rw [List.nil_append]; exact (w_colon k.2 _).2.1)
    have h3 := TKs.word (u := nameL k.1) (b := []) h2 1 (nameL k.1) 0 (w_comma k.1 h7 []).2.2 (w_name k.1 h7 _) rfl
    cases b
    · have h4 := TKs.word (u := [44]) (b := []) h3 4 [44] 0 (by decide) (w_comma k.1 h7 _).1 (by rw [List.nil_append]; exact (w_comma k.1 h7 _).2.1)
      simpa [fldS, fldT, List.append_assoc] using h4
    · simpa [fldS, fldT, List.append_assoc] using h3
end Sh
end Go.Proofs.YtnnnjonodnkccaaGreatDoor

/- SchOrder: a record's fields, read in any order. -/
namespace Go.Proofs.YtnnnjonodnkccaaGreatDoor
namespace Sh
open Sc

/-- Text, or Int. -/
def tyT (b : Bool) : Ty := .mk (if b then 3 else 2) [] [] []

theorem fld_one (k : Nat × Bool) (t1 t2 t3 : T) (r2 : List T) (tw : Bool) (h1 : key t1 = (1, nameL k.1)) (h2 : key t2 = (4, [58])) (h3 : key t3 = (1, tyW k.2)) :
    fieldR (typ 11) ⟨t1 :: t2 :: t3 :: r2, 0, tw⟩ = ((nameL k.1, tyT k.2), ⟨r2, 0, tw⟩) := by
  unfold fieldR
  rw [name_key h1]
  simp only
  rw [need_key h2, typ_word 10 t3 r2 tw _ h3]
  obtain ⟨k, b⟩ := k
  cases b <;> rfl

theorem fld_read : ∀ (ks : List (Nat × Bool)) (k : Nat × Bool) (n : Nat) (ts : List T) (t : T) (rest : List T) (tw : Bool), ts.map key = fldT true (k :: ks) → key t = (4, [125]) → ks.length < n →
    listGo (fieldR (typ 11)) n ⟨ts ++ t :: rest, 0, tw⟩ = ((k :: ks).map fun k => (nameL k.1, tyT k.2), ⟨t :: rest, 0, tw⟩) := by
  intro ks
  induction ks with
  | nil =>
    intro k n ts t rest tw h ht hn
    obtain ⟨m, rfl⟩ : ∃ m, n = m + 1 := ⟨n - 1, by simp at hn; omega⟩
    obtain ⟨t1, t2, t3, rfl, h1, h2, h3⟩ := map3 (show ts.map key = [(1, nameL k.1), (4, [58]), (1, tyW k.2)] from h)
    have hf := fld_one k t1 t2 t3 (t :: rest) tw h1 h2 h3
    show listGo _ (m + 1) ⟨t1 :: t2 :: t3 :: t :: rest, 0, tw⟩ = _
    unfold listGo
    rw [hf]
    simp only
    rw [isAt_key (r := ⟨t :: rest, 0, tw⟩) rfl ht, if_neg (by decide)]
    rfl
  | cons k2 ks ih =>
    intro k n ts t rest tw h ht hn
    obtain ⟨m, rfl⟩ : ∃ m, n = m + 1 := ⟨n - 1, by simp at hn; omega⟩
    have h : ts.map key = (1, nameL k.1) :: (4, [58]) :: (1, tyW k.2) :: (4, [44]) :: fldT true (k2 :: ks) := h
    match ts, h with
    | [_], h => simp at h
    | [_, _], h => simp at h
    | [_, _, _], h => simp at h
    | t1 :: t2 :: t3 :: t4 :: ts', h =>
      simp only [List.map_cons, List.cons.injEq] at h
      obtain ⟨h1, h2, h3, h4, h5⟩ := h
      have hf := fld_one k t1 t2 t3 (t4 :: (ts' ++ t :: rest)) tw h1 h2 h3
      have hi := ih k2 m ts' t rest tw h5 ht (by simp at hn; omega)
      show listGo _ (m + 1) ⟨t1 :: t2 :: t3 :: t4 :: (ts' ++ t :: rest), 0, tw⟩ = _
      unfold listGo
      rw [hf]
      simp only
      rw [isAt_key (r := ⟨t4 :: (ts' ++ t :: rest), 0, tw⟩) rfl h4, if_pos (by decide)]
      have ht2 : (⟨t4 :: (ts' ++ t :: rest), 0, tw⟩ : R).tail = ⟨ts' ++ t :: rest, 0, tw⟩ := rfl
      rw [ht2, hi]
      rfl

/-- A record of such fields, read. -/
theorem fld_rec (ks : List (Nat × Bool)) (k : Nat × Bool) (t0 : T) (ts : List T) (t : T) (tw : Bool) (h0 : key t0 = (4, [123])) (h : ts.map key = fldT true (k :: ks)) (ht : key t = (4, [125])) :
    outer ⟨t0 :: (ts ++ [t]), 0, tw⟩ = (recOf 7 ((k :: ks).map fun k => (nameL k.1, tyT k.2)), ⟨[], 0, tw || dup ((k :: ks).map fun k => nameL k.1)⟩) := by
  have hl : listR [123] [125] (fieldR (typ 11)) ⟨t0 :: (ts ++ [t]), 0, tw⟩ = ((k :: ks).map fun k => (nameL k.1, tyT k.2), ⟨[], 0, tw⟩) := by
    unfold listR
    rw [need_key h0]
    have hlen : ks.length < ts.length + 1 + 1 := by
      have hl : (ts.map key).length = (fldT true (k :: ks)).length := by rw [h]
      have hf : ∀ (b : Bool) (l : List (Nat × Bool)), l.length ≤ (fldT b l).length := by
        intro b l
        induction l generalizing b with
        | nil => exact Nat.zero_le _
        | cons a l ih => have := ih false; unfold fldT; simp only [List.length_append, List.length_cons]; omega
      have := hf true (k :: ks)
      rw [List.length_map] at hl
      simp at this
      omega
    have hr := fld_read ks k ((⟨ts ++ [t], 0, tw⟩ : R).words.length + 1) ts t [] tw h ht (by show _ < (ts ++ [t]).length + 1; rw [List.length_append]; simpa using hlen)
    have hnot : (⟨ts ++ [t], 0, tw⟩ : R).isAt 4 [125] = false := by
      match ts, h with
      | t1 :: ts', h =>
        have h1 : key t1 = (1, nameL k.1) := by
          have := congrArg List.head? h
          simpa [fldT] using this
        rw [isAt_key (r := ⟨t1 :: ts' ++ [t], 0, tw⟩) rfl h1]
        simp
    rw [hnot, if_neg (by decide), hr]
    simp only
    rw [need_key ht]
  unfold outer
  rw [typ_brace 11 t0 _ tw h0]
  unfold recordR
  rw [hl]
  simp [R.both, List.map_map, Function.comp_def]
theorem fldS_len : ∀ (b : Bool) (l : List (Nat × Bool)), (∀ k ∈ l, k.1 < 7) → (fldS b l).length ≤ 10 * l.length ∧ (fldT b l).length ≤ 4 * l.length := by
  intro b l
  induction l generalizing b with
  | nil => intro _; exact ⟨Nat.zero_le _, Nat.zero_le _⟩
  | cons a l ih =>
    intro h
    have hi := ih false (fun k hk => h k (List.mem_cons_of_mem _ hk))
    have h7 : a.1 < 7 := h a List.mem_cons_self
    have hn : (nameL a.1).length ≤ 4 := by
      generalize a.1 = n at h7
      match n, h7 with
      | 0, _ => decide
      | 1, _ => decide
      | 2, _ => decide
      | 3, _ => decide
      | 4, _ => decide
      | 5, _ => decide
      | 6, _ => decide
    have hw : (tyW a.2).length ≤ 4 := by cases a.2 <;> decide
    unfold fldS fldT
    cases b <;> simp only [List.length_append, List.length_cons, List.length_nil, if_true, if_false, Bool.false_eq_true] <;> omega

/-- The record's text: what Type answers. -/
theorem ord_type (ks : List (Nat × Bool)) (k : Nat × Bool) (hk : ∀ x ∈ k :: ks, x.1 < 7) (hl : ks.length ≤ 20) :
    typeL ([123] ++ (fldS true (k :: ks) ++ [125])) = if dup ((k :: ks).map fun k => nameL k.1) = true then (.zero, 6) else (recOf 7 ((k :: ks).map fun k => (nameL k.1, tyT k.2)), 0) := by
  have h0 := TKs.word (u := [125]) (b := []) TKs.nil 4 [125] 0 (by decide) rfl rfl
  have h1 := fld_words (k :: ks) hk true [125] [(4, [125])] ⟨[], .inl rfl⟩ h0
  have hb : bsz (fldS true (k :: ks) ++ [125]) = 0 := by
    have := (w_comma k.1 (hk k List.mem_cons_self) (58 :: (tyW k.2 ++ (fldS false ks ++ [125])))).2.1
    simpa [fldS, List.append_assoc] using this
  have h2 := TKs.word (u := [123]) (b := []) h1 4 [123] 0 (by decide) rfl (by rw [List.nil_append]; exact hb)
  have hln := fldS_len true (k :: ks) hk
  simp only [List.length_cons] at hln
  obtain ⟨ts, ht, hm⟩ := TKs.toks h2 rfl (by simp only [List.length_append, List.length_cons, List.length_nil]; omega) (by simp only [List.length_append, List.length_cons, List.length_nil]; omega)
  have ht : toks ([123] ++ (fldS true (k :: ks) ++ [125])) = (0, ts) := ht
  obtain ⟨t0, t1, rfl, hk0, hm1⟩ : ∃ t0 t1, ts = t0 :: t1 ∧ key t0 = (4, [123]) ∧ t1.map key = fldT true (k :: ks) ++ [(4, [125])] := by
    match ts, hm with
    | t0 :: t1, hm => simp only [List.map_cons, List.cons.injEq] at hm; exact ⟨t0, t1, rfl, hm.1, hm.2⟩
  obtain ⟨tm, te, rfl, hm2, hm3⟩ := List.map_eq_append_iff.1 hm1
  obtain ⟨t, rfl, hkt⟩ := map1 hm3
  unfold typeL
  rw [ht]
  simp only [if_pos]
  rw [show rd (t0 :: (tm ++ [t])) = ⟨t0 :: (tm ++ [t]), 0, false⟩ from rfl, fld_rec ks k t0 tm t false hk0 hm2 hkt]
  cases hd : dup ((k :: ks).map fun k => nameL k.1)
  · simp [R.over]
  · simp [R.over]
end Sh
end Go.Proofs.YtnnnjonodnkccaaGreatDoor

/- SchOrder: a schema's text, its types and functions in any order, read. -/
namespace Go.Proofs.YtnnnjonodnkccaaGreatDoor
namespace Sh
open Sc

/-- Named types (false), functions (true). -/
def decS : List (Nat × Bool) → List UInt8
  | [] => []
  | (k, true) :: xs => [102, 110] ++ ([32] ++ (nameL k ++ ([40] ++ ([41] ++ ([45, 62] ++ ([73, 110, 116] ++ ([59] ++ decS xs)))))))
  | (k, false) :: xs => [116, 121, 112, 101] ++ ([32] ++ (nameL k ++ ([61] ++ ([66, 111, 111, 108] ++ ([59] ++ decS xs)))))
def decT : List (Nat × Bool) → List (Nat × List UInt8)
  | [] => []
  | (k, true) :: xs => (1, [102, 110]) :: (1, nameL k) :: (4, [40]) :: (4, [41]) :: (4, [45, 62]) :: (1, [73, 110, 116]) :: (4, [59]) :: decT xs
  | (k, false) :: xs => (1, [116, 121, 112, 101]) :: (1, nameL k) :: (4, [61]) :: (1, [66, 111, 111, 108]) :: (4, [59]) :: decT xs
def boolT : Ty := .mk 1 [] [] []
def tysOf : List (Nat × Bool) → List (List UInt8 × Ty)
  | [] => []
  | (_, true) :: xs => tysOf xs
  | (k, false) :: xs => (nameL k, boolT) :: tysOf xs
def fnsOf : List (Nat × Bool) → List (List UInt8 × Sig)
  | [] => []
  | (k, true) :: xs => (nameL k, ⟨[], tyT false⟩) :: fnsOf xs
  | (_, false) :: xs => fnsOf xs

theorem dec_b (xs : List (Nat × Bool)) : bsz (decS xs) = 0 := by
  match xs with
  | [] => rfl
  | (_, true) :: _ => rfl
  | (_, false) :: _ => rfl
theorem w_nm (k : Nat) (hk : k < 7) (r : List UInt8) : wordW (nameL k ++ ([] ++ (40 :: r))) = ⟨1, nameL k, 0, (nameL k).length, 0⟩ ∧ wordW (nameL k ++ ([] ++ (61 :: r))) = ⟨1, nameL k, 0, (nameL k).length, 0⟩ := by
  match k, hk with
  | 0, _ => exact ⟨rfl, rfl⟩
  | 1, _ => exact ⟨rfl, rfl⟩
  | 2, _ => exact ⟨rfl, rfl⟩
  | 3, _ => exact ⟨rfl, rfl⟩
  | 4, _ => exact ⟨rfl, rfl⟩
  | 5, _ => exact ⟨rfl, rfl⟩
  | 6, _ => exact ⟨rfl, rfl⟩
theorem bsz_sp (k : Nat) (hk : k < 7) (r : List UInt8) : bsz ([32] ++ (nameL k ++ r)) = 1 := by
  have := (w_comma k hk r).2.1
  show bsz (nameL k ++ r) + 1 = 1
  rw [this]

theorem dec_words (xs : List (Nat × Bool)) (hk : ∀ x ∈ xs, x.1 < 7) : TKs (decS xs) (decT xs) := by
  induction xs with
  | nil => exact TKs.nil
  | cons x xs ih =>
    have h := ih (fun k h => hk k (List.mem_cons_of_mem _ h))
    have h7 : x.1 < 7 := hk x List.mem_cons_self
    have h0 := TKs.word (u := [59]) (b := []) h 4 [59] 0 (by decide) rfl (by rw [List.nil_append]; exact dec_b xs)
    obtain ⟨k, b⟩ := x
    cases b
    · have h1 := TKs.word (u := [66, 111, 111, 108]) (b := []) h0 1 [66, 111, 111, 108] 0 (by decide) rfl rfl
      have h2 := TKs.word (u := [61]) (b := []) h1 4 [61] 0 (by decide) rfl rfl
      have h3 := TKs.word (u := nameL k) (b := []) h2 1 (nameL k) 0 (w_comma k h7 []).2.2 (w_nm k h7 _).2 rfl
      exact TKs.word (u := [116, 121, 112, 101]) (b := [32]) h3 1 [116, 121, 112, 101] 0 (by decide) rfl (bsz_sp k h7 _)
    · have h1 := TKs.word (u := [73, 110, 116]) (b := []) h0 1 [73, 110, 116] 0 (by decide) rfl rfl
      have h2 := TKs.word (u := [45, 62]) (b := []) h1 4 [45, 62] 0 (by decide) rfl rfl
      have h3 := TKs.word (u := [41]) (b := []) h2 4 [41] 0 (by decide) rfl rfl
      have h4 := TKs.word (u := [40]) (b := []) h3 4 [40] 0 (by decide) rfl rfl
      have h5 := TKs.word (u := nameL k) (b := []) h4 1 (nameL k) 0 (w_comma k h7 []).2.2 (w_nm k h7 _).1 rfl
      exact TKs.word (u := [102, 110]) (b := [32]) h5 1 [102, 110] 0 (by decide) rfl (bsz_sp k h7 _)

theorem named_read (k : Nat) (t1 t2 t3 : T) (rs : List T) (tw : Bool) (h1 : key t1 = (1, nameL k)) (h2 : key t2 = (4, [61])) (h3 : key t3 = (1, [66, 111, 111, 108])) :
    namedR ⟨t1 :: t2 :: t3 :: rs, 0, tw⟩ = ((nameL k, boolT), ⟨rs, 0, tw⟩) := by
  unfold namedR outer
  rw [name_key h1]
  simp only
  rw [need_key h2, typ_word 11 t3 rs tw _ h3]
  rfl
theorem sig_read (k : Nat) (t0 t1 t2 t3 t4 t5 : T) (rs : List T) (tw : Bool) (h0 : key t0 = (1, [102, 110])) (h1 : key t1 = (1, nameL k)) (h2 : key t2 = (4, [40])) (h3 : key t3 = (4, [41])) (h4 : key t4 = (4, [45, 62])) (h5 : key t5 = (1, [73, 110, 116])) :
    sigR ⟨t0 :: t1 :: t2 :: t3 :: t4 :: t5 :: rs, 0, tw⟩ = ((nameL k, ⟨[], tyT false⟩), ⟨rs, 0, tw⟩) := by
  have hl : listR [40] [41] outer ⟨t2 :: t3 :: t4 :: t5 :: rs, 0, tw⟩ = ([], ⟨t4 :: t5 :: rs, 0, tw⟩) := by
    unfold listR
    rw [need_key h2, isAt_key (r := ⟨t3 :: t4 :: t5 :: rs, 0, tw⟩) rfl h3, if_pos (by decide), need_key h3]
  unfold sigR
  rw [need_key h0, name_key h1]
  simp only
  rw [hl]
  simp only
  unfold outer
  rw [need_key h4, typ_word 11 t5 rs tw _ h5]
  rfl

theorem dec_read (xs : List (Nat × Bool)) : ∀ (n : Nat) (ts : List T) (tw : Bool) (a : List (List UInt8 × Ty)) (b : List (List UInt8 × Sig)), ts.map key = decT xs → xs.length < n →
    schGo n ⟨ts, 0, tw⟩ a b = ((a ++ tysOf xs, b ++ fnsOf xs), ⟨[], 0, tw⟩) := by
  induction xs with
  | nil =>
    intro n ts tw a b h hn
    obtain ⟨m, rfl⟩ : ∃ m, n = m + 1 := ⟨n - 1, by omega⟩
    have h0 : ts = [] := List.map_eq_nil_iff.1 h
    subst h0
    simp [schGo, tysOf, fnsOf]
  | cons x xs ih =>
    intro n ts tw a b h hn
    obtain ⟨m, rfl⟩ : ∃ m, n = m + 1 := ⟨n - 1, by simp at hn; omega⟩
    have hm : xs.length < m := by simp at hn; omega
    obtain ⟨k, f⟩ := x
    cases f
    · obtain ⟨t0, t1, t2, t3, t4, rs, rfl, h0, h1, h2, h3, h4, h5⟩ : ∃ t0 t1 t2 t3 t4 rs, ts = t0 :: t1 :: t2 :: t3 :: t4 :: rs ∧ key t0 = (1, [116, 121, 112, 101]) ∧ key t1 = (1, nameL k) ∧ key t2 = (4, [61]) ∧ key t3 = (1, [66, 111, 111, 108]) ∧ key t4 = (4, [59]) ∧ rs.map key = decT xs := by
        rcases ts with _ | ⟨t0, _ | ⟨t1, _ | ⟨t2, _ | ⟨t3, _ | ⟨t4, rs⟩⟩⟩⟩⟩ <;> simp [decT] at h
        exact ⟨t0, t1, t2, t3, t4, rs, rfl, h.1, h.2.1, h.2.2.1, h.2.2.2.1, h.2.2.2.2.1, h.2.2.2.2.2⟩
      unfold schGo
      rw [if_neg (by simp), isAt_key (r := ⟨t0 :: t1 :: t2 :: t3 :: t4 :: rs, 0, tw⟩) rfl h0, if_pos (by decide)]
      have e : (⟨t0 :: t1 :: t2 :: t3 :: t4 :: rs, 0, tw⟩ : R).tail = ⟨t1 :: t2 :: t3 :: t4 :: rs, 0, tw⟩ := rfl
      rw [e, named_read k t1 t2 t3 (t4 :: rs) tw h1 h2 h3]
      simp only
      rw [need_key h4, ih m rs tw _ b h5 hm]
      simp [tysOf, fnsOf]
    · obtain ⟨t0, t1, t2, t3, t4, t5, t6, rs, rfl, h0, h1, h2, h3, h4, h5, h6, h7⟩ : ∃ t0 t1 t2 t3 t4 t5 t6 rs, ts = t0 :: t1 :: t2 :: t3 :: t4 :: t5 :: t6 :: rs ∧ key t0 = (1, [102, 110]) ∧ key t1 = (1, nameL k) ∧ key t2 = (4, [40]) ∧ key t3 = (4, [41]) ∧ key t4 = (4, [45, 62]) ∧ key t5 = (1, [73, 110, 116]) ∧ key t6 = (4, [59]) ∧ rs.map key = decT xs := by
        rcases ts with _ | ⟨t0, _ | ⟨t1, _ | ⟨t2, _ | ⟨t3, _ | ⟨t4, _ | ⟨t5, _ | ⟨t6, rs⟩⟩⟩⟩⟩⟩⟩ <;> simp [decT] at h
        exact ⟨t0, t1, t2, t3, t4, t5, t6, rs, rfl, h.1, h.2.1, h.2.2.1, h.2.2.2.1, h.2.2.2.2.1, h.2.2.2.2.2.1, h.2.2.2.2.2.2.1, h.2.2.2.2.2.2.2⟩
      unfold schGo
      rw [if_neg (by simp), isAt_key (r := ⟨t0 :: t1 :: t2 :: t3 :: t4 :: t5 :: t6 :: rs, 0, tw⟩) rfl h0, if_neg (by decide), sig_read k t0 t1 t2 t3 t4 t5 (t6 :: rs) tw h0 h1 h2 h3 h4 h5]
      simp only
      rw [need_key h6, ih m rs tw a _ h7 hm]
      simp [tysOf, fnsOf]
theorem dec_len (xs : List (Nat × Bool)) (hk : ∀ x ∈ xs, x.1 < 7) : (decS xs).length ≤ 20 * xs.length ∧ (decT xs).length ≤ 7 * xs.length ∧ xs.length ≤ (decT xs).length := by
  induction xs with
  | nil => exact ⟨Nat.zero_le _, Nat.zero_le _, Nat.zero_le _⟩
  | cons x xs ih =>
    have hi := ih (fun k h => hk k (List.mem_cons_of_mem _ h))
    have h7 : x.1 < 7 := hk x List.mem_cons_self
    obtain ⟨k, f⟩ := x
    have hn : (nameL k).length ≤ 4 := by
      match k, h7 with
      | 0, _ => decide
      | 1, _ => decide
      | 2, _ => decide
      | 3, _ => decide
      | 4, _ => decide
      | 5, _ => decide
      | 6, _ => decide
    cases f <;> simp only [decS, decT, List.length_append, List.length_cons, List.length_nil] <;> omega

/-- The schema's text: what Parse answers. -/
theorem ord_parse (xs : List (Nat × Bool)) (hk : ∀ x ∈ xs, x.1 < 7) (hl : xs.length ≤ 50) :
    parseL ([100, 97, 116, 97] ++ ([32] ++ ([73, 110, 116] ++ ([59] ++ decS xs)))) =
      if (dup ((tysOf xs).map (·.1)) || dup ((fnsOf xs).map (·.1))) = true then (⟨.zero, [], []⟩, 6) else (⟨tyT false, isort (tysOf xs), isort (fnsOf xs)⟩, 0) := by
  have h := dec_words xs hk
  have h0 := TKs.word (u := [59]) (b := []) h 4 [59] 0 (by decide) rfl (by rw [List.nil_append]; exact dec_b xs)
  have h1 := TKs.word (u := [73, 110, 116]) (b := []) h0 1 [73, 110, 116] 0 (by decide) rfl rfl
  have h2 := TKs.word (u := [100, 97, 116, 97]) (b := [32]) h1 1 [100, 97, 116, 97] 0 (by decide) rfl rfl
  have hln := dec_len xs hk
  obtain ⟨ts, ht, hm⟩ := TKs.toks h2 rfl (by simp only [List.length_append, List.length_cons, List.length_nil]; omega) (by simp only [List.length_cons]; omega)
  have ht : toks ([100, 97, 116, 97] ++ ([32] ++ ([73, 110, 116] ++ ([59] ++ decS xs)))) = (0, ts) := ht
  obtain ⟨t0, t1, t2, rs, rfl, hk0, hk1, hk2, hm1⟩ : ∃ t0 t1 t2 rs, ts = t0 :: t1 :: t2 :: rs ∧ key t0 = (1, [100, 97, 116, 97]) ∧ key t1 = (1, [73, 110, 116]) ∧ key t2 = (4, [59]) ∧ rs.map key = decT xs := by
    rcases ts with _ | ⟨t0, _ | ⟨t1, _ | ⟨t2, rs⟩⟩⟩ <;> simp at hm
    exact ⟨t0, t1, t2, rs, rfl, hm.1, hm.2.1, hm.2.2.1, hm.2.2.2⟩
  have hM : mainR ⟨t0 :: t1 :: t2 :: rs, 0, false⟩ = (tyT false, ⟨rs, 0, false⟩) := by
    unfold mainR outer
    rw [need_key hk0, typ_word 11 t1 (t2 :: rs) false _ hk1]
    show (_, ((⟨t2 :: rs, 0, false⟩ : R).need 4 [59])) = _
    rw [need_key hk2]
    rfl
  have hrl : xs.length ≤ rs.length := by
    have := congrArg List.length hm1
    rw [List.length_map] at this
    omega
  have hS : schemaR ⟨t0 :: t1 :: t2 :: rs, 0, false⟩ = (⟨tyT false, isort (tysOf xs), isort (fnsOf xs)⟩, ⟨[], 0, dup ((tysOf xs).map (·.1)) || dup ((fnsOf xs).map (·.1))⟩) := by
    unfold schemaR
    rw [hM]
    simp only
    rw [dec_read xs _ rs false [] [] hm1 (by omega)]
    simp [R.both]
  unfold parseL
  rw [ht]
  simp only [if_pos]
  rw [show rd (t0 :: t1 :: t2 :: rs) = ⟨t0 :: t1 :: t2 :: rs, 0, false⟩ from rfl, hS]
  cases (dup ((tysOf xs).map (·.1)) || dup ((fnsOf xs).map (·.1)))
  · simp [R.over]
  · simp [R.over]
end Sh
end Go.Proofs.YtnnnjonodnkccaaGreatDoor

/- SchOrder: Same and SameSchema know what is read. -/
namespace Go.Proofs.YtnnnjonodnkccaaGreatDoor
namespace Sh
open Sc

theorem same_tyT (b : Bool) : SameT (tyT b) := rsame_any 1 (tyT b) (by cases b <;> decide) (by decide) (by cases b <;> decide) (by cases b <;> decide)
theorem same_bool : SameT boolT := rsame_any 1 boolT (by decide) (by decide) (by decide) (by decide)

theorem tys_mem (xs : List (Nat × Bool)) : (∀ y ∈ tysOf xs, y.2 = boolT) ∧ (tysOf xs).length ≤ xs.length := by
  induction xs with
  | nil => exact ⟨(fun y h => by cases h), Nat.zero_le _⟩
  | cons x xs ih =>
    obtain ⟨k, f⟩ := x
    cases f
    · refine ⟨fun y h => ?_, by simp only [tysOf, List.length_cons]; omega⟩
      rcases List.mem_cons.1 h with rfl | h
      · rfl
      · exact ih.1 y h
    · exact ⟨ih.1, by simp only [tysOf, List.length_cons]; omega⟩
theorem fns_mem (xs : List (Nat × Bool)) : (∀ y ∈ fnsOf xs, y.2 = ⟨[], tyT false⟩) ∧ (fnsOf xs).length ≤ xs.length := by
  induction xs with
  | nil => exact ⟨(fun y h => by cases h), Nat.zero_le _⟩
  | cons x xs ih =>
    obtain ⟨k, f⟩ := x
    cases f
    · exact ⟨ih.1, by simp only [fnsOf, List.length_cons]; omega⟩
    · refine ⟨fun y h => ?_, by simp only [fnsOf, List.length_cons]; omega⟩
      rcases List.mem_cons.1 h with rfl | h
      · rfl
      · exact ih.1 y h

theorem ord_schS (xs : List (Nat × Bool)) (hl : xs.length ≤ 50) : SchS ⟨tyT false, isort (tysOf xs), isort (fnsOf xs)⟩ := by
  have h1 := tys_mem xs
  have h2 := fns_mem xs
  refine ⟨same_tyT _, fun y hy => ?_, fun y hy => ?_, fun y hy p hp => ?_, ?_, ?_, fun y hy => ?_⟩
  · rw [h1.1 y ((isort_perm _).mem_iff.1 hy)]; exact same_bool
  · rw [h2.1 y ((isort_perm _).mem_iff.1 hy)]; exact same_tyT _
  · rw [h2.1 y ((isort_perm _).mem_iff.1 hy)] at hp; cases hp
  · show (isort _).length ≤ _
    rw [(isort_perm _).length_eq]; omega
  · show (isort _).length ≤ _
    rw [(isort_perm _).length_eq]; omega
  · rw [h2.1 y ((isort_perm _).mem_iff.1 hy)]; exact Nat.zero_le _

theorem all_tyT : ∀ (l : List Ty), (∀ t ∈ l, ∃ b, t = tyT b) → goodK l = true ∧ evenK l = true ∧ sizeK l = l.length := by
  intro l
  induction l with
  | nil => intro _; exact ⟨rfl, rfl, rfl⟩
  | cons t l ih =>
    intro h
    obtain ⟨b, rfl⟩ := h t List.mem_cons_self
    have hi := ih (fun t ht => h t (List.mem_cons_of_mem _ ht))
    have hs : sizeT (tyT b) = 1 := by cases b <;> rfl
    have hg : goodT (tyT b) = true := by cases b <;> rfl
    have he : evenT (tyT b) = true := by cases b <;> rfl
    refine ⟨by simp [goodK, hg, hi.1], by simp [evenK, he, hi.2.1], by simp only [sizeK, List.length_cons]; omega⟩

/-- A record of such fields, no name twice. -/
theorem same_rec (ks : List (Nat × Bool)) (hl : ks.length ≤ 50) (hd : dup (ks.map fun k => nameL k.1) = false) : SameT (recOf 7 (ks.map fun k => (nameL k.1, tyT k.2))) := by
  have hd2 : dup ((ks.map fun k => (nameL k.1, tyT k.2)).map (·.1)) = false := by rw [List.map_map]; exact hd
  unfold recOf
  rw [hd2, if_neg (by decide)]
  have hp := isort_perm (ks.map fun k => (nameL k.1, tyT k.2))
  have hm := all_tyT ((isort (ks.map fun k => (nameL k.1, tyT k.2))).map (·.2)) (fun t ht => by
    obtain ⟨y, hy, rfl⟩ := List.mem_map.1 ht
    obtain ⟨k, _, rfl⟩ := List.mem_map.1 (hp.mem_iff.1 hy)
    exact ⟨_, rfl⟩)
  have hlen : ((isort (ks.map fun k => (nameL k.1, tyT k.2))).map (·.2)).length = ks.length := by rw [List.length_map, hp.length_eq, List.length_map]
  refine rsame_any 51 _ ?_ (by decide) ?_ ?_
  · rw [sizeT, hm.2.2, hlen]; omega
  · rw [goodT, hm.1]; rfl
  · rw [evenT, hm.2.1, List.length_map, List.length_map]; simp
end Sh
end Go.Proofs.YtnnnjonodnkccaaGreatDoor

/- SchOrder: what is put together of the names, in both orders, and what is read of it. -/
namespace Go.Proofs.YtnnnjonodnkccaaGreatDoor
namespace Sh
open Sc

/-- Each name's type and function. -/
def prs : List Nat → List (Nat × Bool)
  | [] => []
  | c :: cs => (c, false) :: (c, true) :: prs cs
def fls (cs : List Nat) : List (Nat × Bool) := cs.map fun c => (c, false)
def rotL (cs : List Nat) (k : Nat) : List Nat := cs.drop k ++ cs.take k

theorem prs_append : ∀ (a b : List Nat), prs (a ++ b) = prs a ++ prs b
  | [], _ => rfl
  | c :: a, b => by show (c, false) :: (c, true) :: prs (a ++ b) = _; rw [prs_append a b]; rfl
theorem prs_len : ∀ (a : List Nat), (prs a).length = 2 * a.length
  | [] => rfl
  | c :: a => by show (prs a).length + 1 + 1 = _; rw [prs_len a]; simp only [List.length_cons]; omega
theorem tys_prs : ∀ (cs : List Nat) (xs : List (Nat × Bool)), tysOf (prs cs ++ xs) = (cs.map fun c => (nameL c, boolT)) ++ tysOf xs
  | [], _ => rfl
  | c :: cs, xs => by show (nameL c, boolT) :: tysOf (prs cs ++ xs) = _; rw [tys_prs cs xs]; rfl
theorem fns_prs : ∀ (cs : List Nat) (xs : List (Nat × Bool)), fnsOf (prs cs ++ xs) = (cs.map fun c => (nameL c, (⟨[], tyT false⟩ : Sig))) ++ fnsOf xs
  | [], _ => rfl
  | c :: cs, xs => by show (nameL c, _) :: fnsOf (prs cs ++ xs) = _; rw [fns_prs cs xs]; rfl
theorem prs_mem : ∀ (cs : List Nat), (∀ c ∈ cs, c < 7) → ∀ x ∈ prs cs, x.1 < 7
  | [], _, x, h => by cases h
  | c :: cs, h7, x, h => by
    rcases List.mem_cons.1 h with rfl | h
    · exact h7 c List.mem_cons_self
    · rcases List.mem_cons.1 h with rfl | h
      · exact h7 c List.mem_cons_self
      · exact prs_mem cs (fun c hc => h7 c (List.mem_cons_of_mem _ hc)) x h
theorem fls_mem (cs : List Nat) (h7 : ∀ c ∈ cs, c < 7) : ∀ x ∈ fls cs, x.1 < 7 := by
  intro x h
  obtain ⟨c, hc, rfl⟩ := List.mem_map.1 h
  exact h7 c hc

theorem nameL_fin : ∀ a b : Fin 7, nameL a = nameL b → a = b := by decide
theorem nameL_inj {a b : Nat} (ha : a < 7) (hb : b < 7) (h : nameL a = nameL b) : a = b := by
  have := nameL_fin ⟨a, ha⟩ ⟨b, hb⟩ h
  simpa using this
theorem nameL_len : ∀ (k : Nat), k < 7 → (nameL k).length ≤ 4
  | 0, _ => by decide
  | 1, _ => by decide
  | 2, _ => by decide
  | 3, _ => by decide
  | 4, _ => by decide
  | 5, _ => by decide
  | 6, _ => by decide
  | k + 7, h => absurd h (by omega)

theorem dup_names (cs : List Nat) (h7 : ∀ c ∈ cs, c < 7) (hn : cs.Nodup) : dup (cs.map nameL) = false := by
  cases h : dup (cs.map nameL)
  · rfl
  · exact absurd (List.pairwise_map.2 (List.Pairwise.imp_of_mem (fun ha hb hne e => hne (nameL_inj (h7 _ ha) (h7 _ hb) e)) hn)) (dup_true h)
theorem dup_more (cs : List Nat) (c : Nat) (h : c ∈ cs) : dup ((cs ++ [c]).map nameL) = true := by
  cases hd : dup ((cs ++ [c]).map nameL)
  · have hn := dup_false hd
    rw [List.map_append, List.nodup_append] at hn
    exact absurd rfl (hn.2.2 (nameL c) (List.mem_map_of_mem h) (nameL c) (by simp))
  · rfl

theorem rot_perm (cs : List Nat) (k : Nat) : (rotL cs k).Perm cs := rotate_perm cs k
theorem rot_len (cs : List Nat) (k : Nat) : (rotL cs k).length = cs.length := (rot_perm cs k).length_eq
theorem rot_7 (cs : List Nat) (k : Nat) (h7 : ∀ c ∈ cs, c < 7) : ∀ c ∈ rotL cs k, c < 7 := fun c h => h7 c ((rot_perm cs k).mem_iff.1 h)

/-- Another field behind those that are there. -/
theorem fld_snoc : ∀ (b : Bool) (ks : List (Nat × Bool)) (k : Nat × Bool), fldS b (ks ++ [k]) = fldS b ks ++ ((if (b && ks.isEmpty) = true then [] else [44]) ++ (nameL k.1 ++ (58 :: tyW k.2)))
  | b, [], k => by cases b <;> simp [fldS]
  | b, x :: ks, k => by
    show (if b then [] else [44]) ++ (nameL x.1 ++ (58 :: (tyW x.2 ++ fldS false (ks ++ [k])))) = (if b then [] else [44]) ++ (nameL x.1 ++ (58 :: (tyW x.2 ++ fldS false ks))) ++ _
    rw [fld_snoc false ks k]
    simp [List.append_assoc]
theorem dec_append : ∀ (a b : List (Nat × Bool)), decS (a ++ b) = decS a ++ decS b
  | [], _ => rfl
  | (k, true) :: a, b => by
    show [102, 110] ++ ([32] ++ (nameL k ++ ([40] ++ ([41] ++ ([45, 62] ++ ([73, 110, 116] ++ ([59] ++ decS (a ++ b)))))))) = ([102, 110] ++ ([32] ++ (nameL k ++ ([40] ++ ([41] ++ ([45, 62] ++ ([73, 110, 116] ++ ([59] ++ decS a)))))))) ++ decS b
    rw [dec_append a b]
    simp only [List.append_assoc]
  | (k, false) :: a, b => by
    show [116, 121, 112, 101] ++ ([32] ++ (nameL k ++ ([61] ++ ([66, 111, 111, 108] ++ ([59] ++ decS (a ++ b)))))) = ([116, 121, 112, 101] ++ ([32] ++ (nameL k ++ ([61] ++ ([66, 111, 111, 108] ++ ([59] ++ decS a)))))) ++ decS b
    rw [dec_append a b]
    simp only [List.append_assoc]

/-- The record that both texts say, the schema that both texts say. -/
def ordT (cs : List Nat) : Ty := recOf 7 ((fls cs).map fun k => (nameL k.1, tyT k.2))
def ordZ (cs : List Nat) : Sch := ⟨tyT false, isort (tysOf (prs cs)), isort (fnsOf (prs cs))⟩
/-- The texts. -/
def fldX (ks : List (Nat × Bool)) : List UInt8 := [123] ++ (fldS true ks ++ [125])
def decX (xs : List (Nat × Bool)) : List UInt8 := [100, 97, 116, 97, 32, 73, 110, 116, 59] ++ decS xs
theorem decX_eq (xs : List (Nat × Bool)) : decX xs = [100, 97, 116, 97] ++ ([32] ++ ([73, 110, 116] ++ ([59] ++ decS xs))) := rfl

theorem dup_fls (cs : List Nat) : dup ((fls cs).map fun k => nameL k.1) = dup (cs.map nameL) := by
  unfold fls
  rw [List.map_map]
  rfl
theorem ord_A (cs : List Nat) (h7 : ∀ c ∈ cs, c < 7) (hn : cs.Nodup) (hl : cs.length ≤ 8) (h0 : cs ≠ []) : typeL (fldX (fls cs)) = (ordT cs, 0) := by
  match cs, h0 with
  | c :: r, _ =>
    have h := ord_type (fls r) (c, false) (fls_mem (c :: r) h7) (by unfold fls; rw [List.length_map]; simp at hl; omega)
    have hd := dup_fls (c :: r)
    rw [dup_names _ h7 hn] at hd
    rw [show ((c, false) :: fls r) = fls (c :: r) from rfl, hd, if_neg (by decide)] at h
    exact h
theorem ord_B (cs : List Nat) (k : Nat) (h7 : ∀ c ∈ cs, c < 7) (hn : cs.Nodup) (hl : cs.length ≤ 8) (h0 : cs ≠ []) : typeL (fldX (fls (rotL cs k))) = (ordT cs, 0) := by
  have h := ord_A (rotL cs k) (rot_7 cs k h7) ((rot_perm cs k).nodup_iff.2 hn) (by rw [rot_len]; exact hl) (fun e => h0 (by have := rot_len cs k; rw [e] at this; exact List.length_eq_zero_iff.1 this.symm))
  rw [h]
  unfold ordT fls
  rw [recOf_perm 7 _ _ (((rot_perm cs k).map (fun c => (c, false))).map (fun k : Nat × Bool => (nameL k.1, tyT k.2)))]
theorem ord_B2 (cs : List Nat) (k c : Nat) (h7 : ∀ c ∈ cs, c < 7) (hl : cs.length ≤ 8) (hc : c ∈ cs) : typeL (fldX (fls (rotL cs k) ++ [(c, true)])) = (.zero, 6) := by
  have hr := rot_len cs k
  have h7r := rot_7 cs k h7
  have hcr : c ∈ rotL cs k := (rot_perm cs k).mem_iff.2 hc
  generalize rotL cs k = r at *
  match r, hcr with
  | x :: r, hcr =>
    have h := ord_type (fls r ++ [(c, true)]) (x, false) (fun y hy => by
      rcases List.mem_append.1 (show y ∈ fls (x :: r) ++ [(c, true)] from hy) with hy | hy
      · exact fls_mem _ h7r y hy
      · rw [List.mem_singleton.1 hy]; exact h7 c hc) (by rw [List.length_append]; unfold fls; rw [List.length_map]; simp at hr ⊢; omega)
    have hd : dup (((x, false) :: (fls r ++ [(c, true)])).map fun k => nameL k.1) = true := by
      have := dup_more (x :: r) c hcr
      rw [show ((x, false) :: (fls r ++ [(c, true)])).map (fun k => nameL k.1) = (x :: r ++ [c]).map nameL by simp [fls, List.map_map, Function.comp_def]]
      exact this
    rw [hd, if_pos rfl] at h
    exact h
theorem ord_C (cs : List Nat) (h7 : ∀ c ∈ cs, c < 7) (hn : cs.Nodup) (hl : cs.length ≤ 8) : parseL (decX (prs cs)) = (ordZ cs, 0) := by
  have h := ord_parse (prs cs) (prs_mem cs h7) (by rw [prs_len]; omega)
  have ht : (tysOf (prs cs)).map (·.1) = cs.map nameL := by
    have := tys_prs cs []
    rw [List.append_nil] at this
    rw [this]; simp [tysOf, List.map_map, Function.comp_def]
  have hf : (fnsOf (prs cs)).map (·.1) = cs.map nameL := by
    have := fns_prs cs []
    rw [List.append_nil] at this
    rw [this]; simp [fnsOf, List.map_map, Function.comp_def]
  rw [ht, hf, dup_names cs h7 hn, if_neg (by decide)] at h
  rw [decX_eq]
  exact h
theorem ord_D (cs : List Nat) (k : Nat) (h7 : ∀ c ∈ cs, c < 7) (hn : cs.Nodup) (hl : cs.length ≤ 8) : parseL (decX (prs (rotL cs k))) = (ordZ cs, 0) := by
  have h := ord_C (rotL cs k) (rot_7 cs k h7) ((rot_perm cs k).nodup_iff.2 hn) (by rw [rot_len]; exact hl)
  rw [h]
  unfold ordZ
  have e1 := fun xs => tys_prs xs []
  have e2 := fun xs => fns_prs xs []
  simp only [List.append_nil, tysOf, fnsOf] at e1 e2
  have hd : dup (cs.map nameL) = false := dup_names cs h7 hn
  rw [e1, e2, e1, e2, isort_of_perm _ _ ((rot_perm cs k).map fun c => (nameL c, boolT)) (by rw [List.map_map]; exact hd), isort_of_perm _ _ ((rot_perm cs k).map fun c => (nameL c, (⟨[], tyT false⟩ : Sig))) (by rw [List.map_map]; exact hd)]
theorem ord_D2 (cs : List Nat) (k c : Nat) (h7 : ∀ c ∈ cs, c < 7) (hl : cs.length ≤ 8) (hc : c ∈ cs) : parseL (decX (prs (rotL cs k) ++ [(c, true)])) = (⟨.zero, [], []⟩, 6) := by
  have h := ord_parse (prs (rotL cs k) ++ [(c, true)]) (fun y hy => by
    rcases List.mem_append.1 hy with hy | hy
    · exact prs_mem _ (rot_7 cs k h7) y hy
    · rw [List.mem_singleton.1 hy]; exact h7 c hc) (by rw [List.length_append, prs_len, rot_len]; simp; omega)
  have hf : (fnsOf (prs (rotL cs k) ++ [(c, true)])).map (·.1) = (rotL cs k ++ [c]).map nameL := by
    rw [fns_prs]; simp [fnsOf, List.map_map, Function.comp_def]
  rw [hf, dup_more _ c ((rot_perm cs k).mem_iff.2 hc), Bool.or_true, if_pos rfl] at h
  rw [decX_eq]
  exact h
theorem ord_sameT (cs : List Nat) (h7 : ∀ c ∈ cs, c < 7) (hn : cs.Nodup) (hl : cs.length ≤ 8) : SameT (ordT cs) :=
  same_rec (fls cs) (by unfold fls; rw [List.length_map]; omega) (by rw [dup_fls]; exact dup_names cs h7 hn)
theorem ord_sameZ (cs : List Nat) (hl : cs.length ≤ 8) : SchS (ordZ cs) := ord_schS (prs cs) (by rw [prs_len]; omega)

/-- How long the texts are. -/
theorem fldX_len (ks : List (Nat × Bool)) (h7 : ∀ k ∈ ks, k.1 < 7) : (fldX ks).length ≤ 10 * ks.length + 2 := by
  have := (fldS_len true ks h7).1
  unfold fldX
  simp only [List.length_append, List.length_cons, List.length_nil]; omega
theorem decX_len (xs : List (Nat × Bool)) (h7 : ∀ k ∈ xs, k.1 < 7) : (decX xs).length ≤ 20 * xs.length + 9 := by
  have := (dec_len xs h7).1
  unfold decX
  simp only [List.length_append, List.length_cons, List.length_nil]; omega

/-! What a round of the loop puts behind. -/
theorem take_rot (cs : List Nat) (k i : Nat) (hk : k < cs.length) (hi : i < cs.length) : (rotL cs k).take (i + 1) = (rotL cs k).take i ++ [cs[(i + k) % cs.length]'(Nat.mod_lt _ (by omega))] := by
  rw [List.take_add_one, show (rotL cs k)[i]? = cs[(i + k) % cs.length]? from rotate_get cs k i hk hi, List.getElem?_eq_getElem (Nat.mod_lt _ (by omega))]
  rfl
theorem take_own (cs : List Nat) (i : Nat) (hi : i < cs.length) : cs.take (i + 1) = cs.take i ++ [cs[i]] := by
  rw [List.take_add_one, List.getElem?_eq_getElem hi]
  rfl
def sepL (i : Nat) : List UInt8 := if 0 < i then [44] else []
theorem fld_next (cs : List Nat) (n : Nat) : fldS true (fls (cs ++ [n])) = fldS true (fls cs) ++ sepL cs.length ++ nameL n ++ [58, 73, 110, 116] := by
  unfold fls
  rw [List.map_append]
  show fldS true (List.map _ cs ++ [(n, false)]) = _
  rw [fld_snoc]
  unfold sepL
  cases cs with
  | nil => simp [tyW]
  | cons c cs => simp [tyW]
theorem dec_next (cs : List Nat) (n : Nat) : decX (prs (cs ++ [n])) = decX (prs cs) ++ [116, 121, 112, 101, 32] ++ nameL n ++ [61, 66, 111, 111, 108, 59, 102, 110, 32] ++ nameL n ++ [40, 41, 45, 62, 73, 110, 116, 59] := by
  rw [prs_append]
  unfold decX
  rw [dec_append]
  simp [prs, decS]
theorem fld_twice (cs : List Nat) (h0 : cs ≠ []) (n : Nat) : fldS true (fls cs ++ [(n, true)]) = fldS true (fls cs) ++ [44] ++ nameL n ++ [58, 84, 101, 120, 116] := by
  rw [fld_snoc]
  cases cs with
  | nil => exact absurd rfl h0
  | cons c cs => simp [tyW, fls]
theorem dec_twice (xs : List (Nat × Bool)) (n : Nat) : decX (xs ++ [(n, true)]) = decX xs ++ [102, 110, 32] ++ nameL n ++ [40, 41, 45, 62, 73, 110, 116, 59] := by
  unfold decX
  rw [dec_append]
  simp [decS]
end Sh
end Go.Proofs.YtnnnjonodnkccaaGreatDoor

