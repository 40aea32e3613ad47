/- Tables: what they hold. No program is named here. -/
import Derived.Test.YtdophmlnmbcjlaaT2
import Derived.Test.YtdophmlnmbcjlaaRows
import Derived.Test.YtdophmlnmbcjlaaT1
import Derived.WalkKit
import Derived.WalkSpells
import Derived.WalkLawsBesides
import Derived.Lib.Hide
import Derived.BigQuiet
import Derived.Deep.QuietTactic
import Derived.Outline
import Derived.Maps.OwnSet
import Derived.Deep.RegionHeld3
namespace Go.Proofs.Ytdophmlnmbcjlaa
namespace Sp
open Sc
abbrev NN := List UInt8 × Nat
/-- A function: the numbers of what it takes and answers. -/
abbrev GN := List UInt8 × List Nat × Nat
structure Tab where
  T : List Kz
  N : List NN
  G : List GN
  m : Nat
deriving Inhabited
def addK (has : List UInt8 → Bool) (T : List Kz) (t : Tz) : Nat × Nat × List Kz := if (oneC has 0 t).1 ≠ 0 then (0, (oneC has 0 t).1, T) else treeK T t
theorem addK_ok {has : List UInt8 → Bool} {T : List Kz} {t : Tz} (h : okK has t = true) (hs : sizeZ t ≤ 400) : addK has T t = treeK T t := by
  unfold addK; rw [oneC_of has t 0 h (by omega), if_neg (by simp)]
def lookN (N : List NN) (nm : List UInt8) : Nat := (lastN N nm).getD 0
end Sp
end Go.Proofs.Ytdophmlnmbcjlaa
namespace Go.Proofs.Ytdophmlnmbcjlaa
open Go.RowKit
namespace Sc
def digB (r : Int) : Bool := decide (48 ≤ r) && decide (r ≤ 57)
def letB (r : Int) : Bool := decide (r = 95) || (decide (97 ≤ r) && decide (r ≤ 122)) || (decide (65 ≤ r) && decide (r ≤ 90))
theorem digit_any (r : Int) (w : World) :
    Calls Try.prog 104 #[.int .i32 r] w fun e w' => e = .returned (.bool (digB r)) ∧ w = w' := by
  by_cases h1 : 48 ≤ r
  · by_cases h2 : r ≤ 57
    · have e1 : digB r = true := by simp [digB, h1, h2]
      rw [e1]; clear e1
      go_enter Try.func104, Try.ntmps104
      go_wp2
      all_goals go_ret
      all_goals exact ⟨rfl, rfl⟩
    · have e1 : digB r = false := by simp [digB, h2]
      rw [e1]; clear e1
      go_enter Try.func104, Try.ntmps104
      go_wp2
      all_goals go_ret
      all_goals exact ⟨rfl, rfl⟩
  · have e1 : digB r = false := by simp [digB, h1]
    rw [e1]; clear e1
    go_enter Try.func104, Try.ntmps104
    go_wp2
    all_goals go_ret
    all_goals exact ⟨rfl, rfl⟩
theorem letter_any (r : Int) (w : World) :
    Calls Try.prog 103 #[.int .i32 r] w fun e w' => e = .returned (.bool (letB r)) ∧ w = w' := by
  obtain ⟨b, hb⟩ : ∃ b, letB r = b := ⟨_, rfl⟩
  rw [hb]
  have hb' : b = (decide (r = 95) || (decide (97 ≤ r) && decide (r ≤ 122)) || (decide (65 ≤ r) && decide (r ≤ 90))) := hb.symm
  clear hb
  by_cases h1 : r = 95
  · obtain rfl : b = true := by rw [hb']; simp [h1]
    clear hb'; subst h1
    go_enter Try.func103, Try.ntmps103
    go_wp2
    all_goals go_ret
    all_goals exact ⟨rfl, rfl⟩
  · have e1 : (r == 95) = false := by simp [h1]
    by_cases h2 : 97 ≤ r <;> by_cases h3 : r ≤ 122 <;> by_cases h4 : 65 ≤ r <;> by_cases h5 : r ≤ 90
    all_goals first
      | (exfalso; omega)
      | (simp only [h1, h2, h3, h4, h5, decide_true, decide_false, Bool.and_self, Bool.or_self, Bool.and_true, Bool.and_false, Bool.or_false, Bool.or_true] at hb'
         subst hb'; clear h1
         go_enter Try.func103, Try.ntmps103
         go_wp2
         all_goals go_ret
         all_goals exact ⟨rfl, rfl⟩)
/-- A letter among the first 128 is one of the bytes' letters; what is decoded of a byte beyond them is none. -/
theorem digB_byte (c : UInt8) : digB (c.toNat : Int) = isD c := by
  unfold digB isD
  congr 1 <;> apply decide_eq_decide.2 <;> omega
theorem letB_byte (c : UInt8) : letB (c.toNat : Int) = isL c := by
  unfold letB isL
  congr 1
  · congr 1
    · apply decide_eq_decide.2; omega
    · congr 1 <;> apply decide_eq_decide.2 <;> omega
  · congr 1 <;> apply decide_eq_decide.2 <;> omega
theorem digB_high (r : Int) (h : 128 ≤ r) : digB r = false := by
  unfold digB; rw [Bool.and_eq_false_iff]; right; simp; omega
theorem letB_high (r : Int) (h : 128 ≤ r) : letB r = false := by
  unfold letB; simp; omega
theorem isD_high (c : UInt8) (h : 128 ≤ c.toNat) : isD c = false := by
  unfold isD; simp; omega
theorem isL_high (c : UInt8) (h : 128 ≤ c.toNat) : isL c = false := by
  unfold isL; simp; omega
/-- THE ROUND's BYTE, read as a rune: the pair (a digit, a letter) is the byte's. -/
theorem rune_of (s : ByteArray) (pos : Nat) (h : pos < s.size) : digB (Utf8.decode s pos).1 = isD (s[pos]'h) ∧ letB (Utf8.decode s pos).1 = isL (s[pos]'h) ∧ (isD (s[pos]'h) = true ∨ isL (s[pos]'h) = true → (Utf8.decode s pos).2 = 1) := by
  by_cases ha : (s[pos]'h).toNat < 128
  · rw [decode_ascii s pos h ha]
    exact ⟨digB_byte _, letB_byte _, fun _ => rfl⟩
  · obtain ⟨h1, _⟩ := decode_high s pos h (by omega)
    rw [isD_high _ (by omega), isL_high _ (by omega)]
    exact ⟨digB_high _ (by omega), letB_high _ (by omega), by simp⟩
theorem lt_len {s : ByteArray} {k : Nat} (h : k < s.size) : k < s.data.toList.length := by simp only [Array.length_toList]; exact h
theorem bytes_at (s : ByteArray) (k : Nat) (h : k < s.size) : s.data.toList[k]'(lt_len h) = s[k]'h := by simp only [Array.getElem_toList]; rfl
theorem bytes_len (s : ByteArray) : s.data.toList.length = s.size := by simp only [Array.length_toList]; rfl
theorem toList_isEmpty (s : ByteArray) : s.toList.isEmpty = decide (s.size = 0) := by
  have h : s.toList = s.data.toList := ByteArray.toList_eq s
  rw [h]
  rcases hl : s.data.toList with _ | ⟨c, t⟩
  · have : s.size = 0 := by rw [← bytes_len, hl]; rfl
    simp [this]
  · have : s.size ≠ 0 := by rw [← bytes_len, hl]; simp
    simp [this]
set_option maxHeartbeats 800000 in
theorem nameSize_any (s : ByteArray) (w : World) (hs : s.size ≤ maxLen) :
    Calls Try.prog 98 #[.string s] w fun e w' => e = .returned (.int .i64 (nsz s.data.toList)) ∧ Below w.heap.size w w' := by
  have hs' := hs
  unfold maxLen at hs'
  go_enter Try.func98, Try.ntmps98
  go_wp2
  go_loopw [] (fun w' => ∃ k : Nat, k ≤ s.size ∧ w' = w.iter s k ∧ Hid (nsz s.data.toList = k + nszF (decide (k = 0)) (s.data.toList.drop k))) (fun w' => s.size - w'.iterPos w.heap.size)
  case atStart => exact ⟨0, Nat.zero_le _, rfl, by simp [Hid, nsz]⟩
  case round =>
    obtain ⟨k, hk, rfl, hd⟩ := hrel
    by_cases hlt : k < s.size
    · have hnx := fun ty => run_next_any (P := Try.prog) w s k ty hlt
      obtain ⟨h1, h2, h3⟩ := rune_of s k hlt
      have hle := decode_le s k
      generalize hr : (Utf8.decode s k).1 = r at *
      generalize hw : (Utf8.decode s k).2 = wd at *
      clear hr hw
      have cR := digit_any (r : Int)
      have cL := letter_any (r : Int)
      rw [h1] at cR; rw [h2] at cL
      clear h1 h2
      have hb := bytes_at s k hlt
      cases hL : isL (s[k]'hlt)
      · rw [hL] at cL
        have CL := Lib.hid cL; clear cL
        by_cases hk0 : k = 0
        · have HS := Lib.hid (nszF_stop s.data.toList k (decide (k = 0)) (lt_len hlt) (by rw [hb, hL]; simp [hk0]))
          have CR := Lib.hid cR; clear cR hb h3 hL
          subst hk0
          go_wp2_with (first | (go_at_call 103; refine (CL.out _).mono ?_; rintro e w' ⟨rfl, rfl⟩) | (go_at_call 104; refine (CR.out _).mono ?_; rintro e w' ⟨rfl, rfl⟩))
          go_ret
          refine ⟨?_, ?_⟩
          · have := hd.out; rw [HS.out] at this; rw [this]; rfl
          · exact (Below.refl _ _).alloc (Nat.le_refl _) _
        · have hkz : ((k : Int) == 0) = false := by simp; omega
          cases hD : isD (s[k]'hlt)
          · rw [hD] at cR
            have HS := Lib.hid (nszF_stop s.data.toList k (decide (k = 0)) (lt_len hlt) (by rw [hb, hL, hD]; simp))
            have CR := Lib.hid cR; clear cR hb h3 hL hD
            go_wp2_with (first | (go_at_call 103; refine (CL.out _).mono ?_; rintro e w' ⟨rfl, rfl⟩) | (go_at_call 104; refine (CR.out _).mono ?_; rintro e w' ⟨rfl, rfl⟩))
            go_ret
            refine ⟨?_, ?_⟩
            · have := hd.out; rw [HS.out] at this; rw [this]; rfl
            · exact (Below.refl _ _).alloc (Nat.le_refl _) _
          · rw [hD] at cR
            have HS := Lib.hid (nszF_step s.data.toList k (decide (k = 0)) (lt_len hlt) (by rw [hb, hL, hD]; simp [hk0]))
            obtain rfl : wd = 1 := h3 (Or.inl hD)
            have CR := Lib.hid cR; clear cR hb h3 hL hD
            go_wp2_with (first | (go_at_call 103; refine (CL.out _).mono ?_; rintro e w' ⟨rfl, rfl⟩) | (go_at_call 104; refine (CR.out _).mono ?_; rintro e w' ⟨rfl, rfl⟩))
            go_roundw
            case rel => exact ⟨k + 1, by omega, rfl, by have := hd.out; rw [HS.out] at this; unfold Hid; rw [show decide (k + 1 = 0) = false from by simp]; omega⟩
            case measure => simp; omega
      · rw [hL] at cL
        have HS := Lib.hid (nszF_step s.data.toList k (decide (k = 0)) (lt_len hlt) (by rw [hb, hL]; simp))
        obtain rfl : wd = 1 := h3 (Or.inr hL)
        have CL := Lib.hid cL; clear cL
        have CR := Lib.hid cR; clear cR hb h3 hL
        go_wp2_with (first | (go_at_call 103; refine (CL.out _).mono ?_; rintro e w' ⟨rfl, rfl⟩) | (go_at_call 104; refine (CR.out _).mono ?_; rintro e w' ⟨rfl, rfl⟩))
        go_roundw
        case rel => exact ⟨k + 1, by omega, rfl, by have := hd.out; rw [HS.out] at this; unfold Hid; rw [show decide (k + 1 = 0) = false from by simp]; omega⟩
        case measure => simp; omega
    · have hk' : k = s.size := by omega
      subst hk'
      have hnx := fun ty => run_next_end (P := Try.prog) w s s.size ty hlt
      go_wp2
      go_ret
      refine ⟨?_, ?_⟩
      · have := hd.out; rw [← bytes_len, nszF_end] at this; rw [this, bytes_len]; rfl
      · exact (Below.refl _ _).alloc (Nat.le_refl _) _
end Sc
end Go.Proofs.Ytdophmlnmbcjlaa
namespace Go.Proofs.Ytdophmlnmbcjlaa
open Go.RowKit
namespace Sp
open Sc
set_option maxHeartbeats 400000 in
theorem Ident_any (s : ByteArray) (w : World) (hs : s.size ≤ maxLen) :
    Calls Try.prog 86 #[.string s] w fun e w' => e = .returned (.bool (identB s.data.toList)) ∧ Below w.heap.size w w' := by
  have he := toList_isEmpty s
  have C := nameSize_any s
  have hle := nsz_le s.data.toList
  unfold identB
  rw [bytes_len] at hle ⊢
  have hs' := hs
  unfold maxLen at hs'
  by_cases h0 : s.size = 0
  · rw [decide_eq_true h0] at he
    rw [show decide (s.size ≠ 0) = false from decide_eq_false (by omega)]
    clear h0 C
    go_enter Try.func86, Try.ntmps86
    go_wp2_with fail
    go_ret
    exact ⟨rfl, Below.refl _ _⟩
  · rw [decide_eq_false h0] at he
    rw [show decide (s.size ≠ 0) = true from decide_eq_true h0]
    by_cases h16 : s.size ≤ 16
    · rw [decide_eq_true h16]
      generalize nsz s.data.toList = k at *
      have HC := Lib.hid C; clear C h0
      by_cases hk : k = s.size
      · rw [decide_eq_true hk]
        subst hk
        go_enter Try.func86, Try.ntmps86
        go_wp2_with (go_at_call 98; (with_reducible refine (HC.out _ hs).mono ?_); rintro e w1 ⟨rfl, hb⟩)
        go_ret
        exact ⟨rfl, by assumption⟩
      · rw [decide_eq_false hk]
        have tk : ((k : Int) == (s.size : Int)) = false := by simp; omega
        have tk' : (k == s.size) = false := by simp; omega
        clear hk
        go_enter Try.func86, Try.ntmps86
        go_wp2_with (go_at_call 98; (with_reducible refine (HC.out _ hs).mono ?_); rintro e w1 ⟨rfl, hb⟩)
        go_ret
        exact ⟨rfl, by assumption⟩
    · rw [decide_eq_false h16]
      have h16' : 16 < (s.size : Int) := by omega
      clear C
      go_enter Try.func86, Try.ntmps86
      go_wp2_with fail
      go_ret
      exact ⟨rfl, Below.refl _ _⟩
end Sp
end Go.Proofs.Ytdophmlnmbcjlaa
namespace Go.Proofs.Ytdophmlnmbcjlaa
open Go.RowKit
namespace Sp
open Sc
/-- The blocks of w are as they were, but for block rb; there may be new ones. -/
abbrev Only (rb : Nat) (w w' : World) : Prop := w.grownBy w' (some rb)
theorem Only.refl (rb : Nat) (w : World) : Only rb w w := ⟨rfl, rfl, rfl, Nat.le_refl _, fun _ _ _ => rfl⟩
theorem Only.trans {rb : Nat} {a b c : World} (h : Only rb a b) (k : Only rb b c) : Only rb a c :=
  ⟨k.os.trans h.os, k.tape.trans h.tape, k.output.trans h.output, Nat.le_trans h.size k.size, fun i hi hn => (k.block i (Nat.lt_of_lt_of_le hi h.size) hn).trans (h.block i hi hn)⟩
theorem Only.of_below {rb : Nat} {w w' : World} (h : Below w.heap.size w w') : Only rb w w' := ⟨h.os, h.tape, h.output, h.size, fun k hk _ => h.block k hk⟩
theorem Only.below {rb B : Nat} {w w' : World} (h : Only rb w w') (hb : B ≤ rb) (hB : B ≤ w.heap.size) : Below B w w' :=
  ⟨h.os, h.tape, h.output, h.size, fun k hk => h.block k (Nat.lt_of_lt_of_le hk hB) (fun e => by cases e; omega)⟩
theorem Only.setCell {rb : Nat} {w w' : World} (h : Only rb w w') (o : Nat) (v : Value) : Only rb w (w'.setCell ⟨rb, o, none⟩ v) := by
  refine ⟨h.os, h.tape, h.output, by simpa using h.size, fun k hk hn => ?_⟩
  rw [← h.block k hk hn]
  unfold World.setCell
  simp only [Array.getElem?_modify]
  rw [if_neg (fun e => hn (by rw [e]))]
theorem Only.drew {rb : Nat} {w w' : World} (h : Only rb w w') : Only rb w w'.drew := ⟨h.os, h.tape, h.output, h.size, h.block⟩
theorem Only.cell {rb : Nat} {w w' : World} (h : Only rb w w') {b o : Nat} (hb : b < w.heap.size) (hn : b ≠ rb) : w'.cell? ⟨b, o, none⟩ = w.cell? ⟨b, o, none⟩ :=
  World.cell?_of_block (h.block b hb (fun e => hn (by cases e; rfl)))
theorem Only.blk {rb : Nat} {w w' : World} (h : Only rb w w') {b : Nat} {o : Obj} (hb : w.heap[b]? = some o) (hn : b ≠ rb) : w'.heap[b]? = some o :=
  (h.block b (Array.getElem?_eq_some_iff.1 hb).1 (fun e => hn (by cases e; rfl))).trans hb
def str (l : List UInt8) : Value := .string ⟨l.toArray⟩
/-- What a variable of the type api.Type holds. -/
structure C4 where
  k : Int
  n : ByteArray
  an : Option Addr
  ln : Nat
  cn : Nat
  ak : Option Addr
  lk : Nat
  ck : Nat
deriving Inhabited
def C4.cells (c : C4) : List Value := [.int .i64 c.k, .string c.n, .slice c.an c.ln c.cn, .slice c.ak c.lk c.ck]
def C4.val (c : C4) : Value := .agg #[.int .i64 c.k, .string c.n, .slice c.an c.ln c.cn, .slice c.ak c.lk c.ck]
theorem C4.one (c : C4) : ∀ v ∈ c.cells, v.oneCell' = true := by
  intro v hv; simp [C4.cells] at hv; rcases hv with rfl | rfl | rfl | rfl <;> rfl
/-- Things of k cells lie one behind the other from a slice's address on, in a block of S. -/
def RowV (w : World) (S : Nat → Prop) (a : Option Addr) (k : Nat) (l : List (List Value)) : Prop :=
  l = [] ∨ ∃ g o, a = some ⟨g, o, none⟩ ∧ S g ∧ ∀ i (h : i < l.length) j v, (l[i])[j]? = some v → w.cell? ⟨g, o + i * k + j, none⟩ = some v
theorem RowV.keep {w w' : World} {S S' : Nat → Prop} {a : Option Addr} {k : Nat} {l : List (List Value)} (h : RowV w S a k l) (hS : ∀ g, S g → S' g) (hk : ∀ g, S g → w'.heap[g]? = w.heap[g]?) : RowV w' S' a k l := by
  rcases h with h | ⟨g, o, ha, hg, hc⟩
  · exact .inl h
  · exact .inr ⟨g, o, ha, hS g hg, fun i hi j v hv => (World.cell?_of_block (a := ⟨g, o + i * k + j, none⟩) (hk g hg)).trans (hc i hi j v hv)⟩
/-- A type lies at these four cells; all that it leads to lies in blocks of S. -/
inductive TzV (w : World) (S : Nat → Prop) : Tz → C4 → Prop where
  | mk (k : Int) (n : List UInt8) (ns : List (List UInt8)) (ks : List Tz) (an : Option Addr) (cn : Nat) (ak : Option Addr) (ck : Nat) (us : List C4) (hl : us.length = ks.length)
      (hn : RowV w S an 1 (ns.map fun n => [str n])) (hk : RowV w S ak 4 (us.map C4.cells)) (hu : ∀ i (h : i < ks.length) (h' : i < us.length), TzV w S ks[i] us[i]) :
      TzV w S (.mk k n ns ks) ⟨k, ⟨n.toArray⟩, an, ns.length, cn, ak, ks.length, ck⟩
theorem TzV.keep {w w' : World} {S S' : Nat → Prop} {t : Tz} {c : C4} (h : TzV w S t c) (hS : ∀ g, S g → S' g) (hk : ∀ g, S g → w'.heap[g]? = w.heap[g]?) : TzV w' S' t c := by
  induction h with
  | mk k n ns ks an cn ak ck us hl hn hk' hu ih => exact .mk k n ns ks an cn ak ck us hl (hn.keep hS hk) (hk'.keep hS hk) ih
/-- All of S lies below rb: it stays while rb alone is written. -/
theorem TzV.only {w w' : World} {rb : Nat} {S : Nat → Prop} {t : Tz} {c : C4} (h : TzV w S t c) (hS : ∀ g, S g → g < rb) (hrb : rb ≤ w.heap.size) (ho : Only rb w w') : TzV w' S t c :=
  h.keep (fun _ h => h) fun g hg => ho.block g (Nat.lt_of_lt_of_le (hS g hg) hrb) (fun e => by cases e; exact Nat.lt_irrefl _ (hS _ hg))
theorem TzV.later {w w' : World} {S : Nat → Prop} {t : Tz} {c : C4} (h : TzV w S t c) (hS : ∀ g, S g → g < w.heap.size) (ho : Below w.heap.size w w') : TzV w' S t c :=
  h.keep (fun _ h => h) fun g hg => ho.block g (hS g hg)
/-- Two cells of a block. -/
theorem two_blk {w : World} {b : Nat} {t : TypeId} {v0 v1 : Value} (h : w.heap[b]? = some (.cells #[v0, v1] t (0, 0))) :
    (w.cell? ⟨b, 0, none⟩ = some v0 ∧ w.cell? ⟨b, 1, none⟩ = some v1) ∧ (w.frozen? ⟨b, 0, none⟩ = false ∧ w.frozen? ⟨b, 1, none⟩ = false) := by
  refine ⟨⟨?_, ?_⟩, ⟨?_, ?_⟩⟩ <;> simp [World.cell?, World.frozen?, h]
theorem four_blk {w : World} {b : Nat} {t : TypeId} {v0 v1 v2 v3 : Value} (h : w.heap[b]? = some (.cells #[v0, v1, v2, v3] t (0, 0))) :
    (w.cell? ⟨b, 0, none⟩ = some v0 ∧ w.cell? ⟨b, 1, none⟩ = some v1 ∧ w.cell? ⟨b, 2, none⟩ = some v2 ∧ w.cell? ⟨b, 3, none⟩ = some v3) ∧
    (w.frozen? ⟨b, 0, none⟩ = false ∧ w.frozen? ⟨b, 1, none⟩ = false ∧ w.frozen? ⟨b, 2, none⟩ = false ∧ w.frozen? ⟨b, 3, none⟩ = false) := by
  refine ⟨⟨?_, ?_, ?_, ?_⟩, ⟨?_, ?_, ?_, ?_⟩⟩ <;> simp [World.cell?, World.frozen?, h]
theorem set_two1 {w : World} {b : Nat} {t : TypeId} {v0 v1 : Value} (h : w.heap[b]? = some (.cells #[v0, v1] t (0, 0))) (v : Value) : (w.setCell ⟨b, 1, none⟩ v).heap[b]? = some (.cells #[v0, v] t (0, 0)) := by
  unfold World.setCell; simp [Array.getElem?_modify, h]
/-- How an element reads: as itself. -/
def heldR (v : Value) : Option (DataW Value × List MemPlace) := some (.held v, [])
theorem heldR_inv {v x : Value} {ps : List MemPlace} (h : heldR v = some (.held x, ps)) : v = x := by
  unfold heldR at h
  simp only [Option.some.injEq, Prod.mk.injEq, DataW.held.injEq] at h
  exact h.1
def mapD (l : List (List UInt8 × C4)) : DataW Value := l.foldl (fun D x => D.put (.string x.1) (.held x.2.val)) (.map [])
theorem mapD_snoc (l : List (List UInt8 × C4)) (x : List UInt8 × C4) : mapD (l ++ [x]) = (mapD l).put (.string x.1) (.held x.2.val) := by simp [mapD, List.foldl_append]
theorem mapD_ind {P : List (List UInt8 × C4) → Prop} (h0 : P []) (h1 : ∀ l x, P l → P (l ++ [x])) : ∀ l, P l := by
  intro l
  rw [← List.reverse_reverse l]
  induction l.reverse with
  | nil => exact h0
  | cons x r ih => rw [List.reverse_cons]; exact h1 _ _ ih
theorem tidy_mapD : ∀ l, Maps.Tidy (mapD l) := by
  apply mapD_ind
  · exact Maps.tidy_empty
  · intro l x h; rw [mapD_snoc]; exact h.put (k := .string x.1) trivial _
theorem has_mapD (s : List UInt8) : ∀ l, Maps.has (mapD l) (.string s) = hasZ l s := by
  apply mapD_ind
  · rfl
  · intro l x h
    rw [mapD_snoc, hasZ_snoc]
    by_cases e : x.1 = s
    · rw [e, Maps.has_put_same (tidy_mapD l).isMap (k := .string s) trivial]; simp
    · rw [Maps.has_put_other (by simpa using fun e' => e e'.symm), h]; simp [e]
theorem at_mapD (s : List UInt8) (z : DataW Value) : ∀ l, (mapD l).atKey (.string s) z = match lastN l s with | some c => .held c.val | none => z := by
  apply mapD_ind
  · rfl
  · intro l x h
    rw [mapD_snoc, lastN_snoc]
    by_cases e : x.1 = s
    · rw [e, Maps.atKey_put_same (tidy_mapD l).isMap (k := .string s) trivial]; simp
    · rw [Maps.atKey_put_other (by simpa using fun e' => e e'.symm), h]; simp [e]
theorem key_law : Maps.Keyed Try.prog 9 := Maps.string_keyed Try.underlying9
/-- Block mb is the map of these entries. -/
def MapV (w : World) (mb : Nat) (l : List (List UInt8 × C4)) : Prop := w.ownsMap Try.prog 9 heldR mb l.length (mapD l)
theorem MapV.keep {w w' : World} {mb : Nat} {l : List (List UInt8 × C4)} (h : MapV w mb l) {row : Option Nat} (hg : w.grownBy w' row) (hne : some mb ≠ row) : MapV w' mb l := World.ownsMap.kept h hg hne
theorem MapV.lt {w : World} {mb : Nat} {l : List (List UInt8 × C4)} (h : MapV w mb l) : mb < w.heap.size := World.ownsMap.lt h
theorem MapV.below {w w' : World} {mb : Nat} {l : List (List UInt8 × C4)} (h : MapV w mb l) (hb : Below w.heap.size w w') : MapV w' mb l :=
  h.keep (row := none) ⟨hb.os, hb.tape, hb.output, hb.size, fun k hk _ => hb.block k hk⟩ (by simp)
theorem MapV.drew {w : World} {mb : Nat} {l : List (List UInt8 × C4)} (h : MapV w mb l) : MapV w.drew mb l := World.ownsMap.drew h
theorem zeroT (w : World) : (zeroValue 30).run Try.prog w = .ok (.agg #[.int .i64 0, .string ⟨#[]⟩, .slice none 0 0, .slice none 0 0]) w := by kernel_rfl
def C4.zero : C4 := ⟨0, ⟨#[]⟩, none, 0, 0, none, 0, 0⟩
theorem key_of (s : List UInt8) (hs : s.length ≤ maxLen) : keyOf Try.prog 9 (.string ⟨s.toArray⟩) = some (.string s) := Go.WideMaps.keyOf_string_mk Try.underlying9 (s := ⟨s.toArray⟩) hs
/-- What a name stands for in memory: the zero type, if it is nobody's. -/
def lookC (l : List (List UInt8 × C4)) (s : List UInt8) : C4 := (lastN l s).getD .zero
theorem MapV.at {w : World} {mb : Nat} {l : List (List UInt8 × C4)} (h : MapV w mb l) (s : List UInt8) (hs : s.length ≤ maxLen) :
    (Instr.lookup 108 (.map (some mb)) (.string ⟨s.toArray⟩) false).run Try.prog w = .ok (lookC l s).val w := by
  obtain ⟨v, ps, hrun, hv⟩ := World.ownsMap.lookup h key_law Try.underlying108 (zeroT w) (zd := .held C4.zero.val) (zp := []) rfl (key_of s hs)
  rw [at_mapD] at hv
  have : v = (lookC l s).val := by
    unfold lookC
    cases hl : lastN l s with
    | none => rw [hl] at hv; exact heldR_inv hv
    | some c => rw [hl] at hv; exact heldR_inv hv
  rw [← this]; exact hrun
theorem MapV.at_ok {w : World} {mb : Nat} {l : List (List UInt8 × C4)} (h : MapV w mb l) (s : List UInt8) (hs : s.length ≤ maxLen) :
    (Instr.lookup 108 (.map (some mb)) (.string ⟨s.toArray⟩) true).run Try.prog w = .ok (.tuple #[(lookC l s).val, .bool (hasZ l s)]) w := by
  obtain ⟨v, ps, hrun, hv⟩ := World.ownsMap.look_ok h key_law Try.underlying108 (zeroT w) (zd := .held C4.zero.val) (zp := []) rfl (key_of s hs)
  rw [at_mapD] at hv
  rw [has_mapD] at hrun
  have : v = (lookC l s).val := by
    unfold lookC
    cases hl : lastN l s with
    | none => rw [hl] at hv; exact heldR_inv hv
    | some c => rw [hl] at hv; exact heldR_inv hv
  rw [← this]; exact hrun
theorem MapV.put {w : World} {mb : Nat} {l : List (List UInt8 × C4)} (h : MapV w mb l) (s : List UInt8) (c : C4) (hs : s.length ≤ maxLen) (hl : l.length < maxLen) :
    ∃ w', (Instr.mapUpdate 108 (.map (some mb)) (.string ⟨s.toArray⟩) c.val).run Try.prog w = .ok () w' ∧ MapV w' mb (l ++ [(s, c)]) ∧ w.grownBy w' (some mb) := by
  obtain ⟨w', hrun, h1, h2⟩ := World.ownsMap.update h key_law Try.underlying108 hl (val := c.val) (d := .held c.val) (ps := []) (key_of s hs) rfl
  exact ⟨w', hrun, by unfold MapV; rw [mapD_snoc, List.length_append]; exact h1, h2⟩
theorem MapV.made (w : World) : MapV (w.alloc (.map #[] 0)) w.heap.size [] := World.ownsMap_made _ _ _ _
/-- Names that stand there once. -/
def once (l : List (List UInt8 × C4)) : Prop := (l.map (·.1)).Nodup
theorem size_mapD : ∀ l, once l → Maps.size (mapD l) = l.length := by
  apply mapD_ind
  · intro _; rfl
  · intro l x ih h
    unfold once at h ih
    rw [List.map_append, List.nodup_append] at h
    have hn : hasZ l x.1 = false := by
      unfold hasZ
      rw [List.any_eq_false]
      intro y hy e
      simp only [decide_eq_true_eq] at e
      exact h.2.2 y.1 (List.mem_map_of_mem hy) x.1 (by simp) e
    rw [mapD_snoc, Maps.size_put (tidy_mapD l), has_mapD, hn, ih h.1, List.length_append]
    rfl
theorem MapV.len {w : World} {mb : Nat} {l : List (List UInt8 × C4)} (h : MapV w mb l) (ho : once l) (ty : TypeId) :
    (Builtin.len_ #[108] ty #[.map (some mb)]).run Try.prog w = .ok (.int .i64 l.length) w := by
  rw [World.ownsMap.len h Try.underlying108 ty, size_mapD l ho]
end Sp
end Go.Proofs.Ytdophmlnmbcjlaa
