/- Named types, functions and types that a law gathers, one behind the other. -/
import Derived.Test.YtjjpjkkaogfoaaaZGrow
namespace Go.Proofs.Ytjjpjkkaogfoaaa
open Go.RowKit
namespace Sp
open Sc

/-- Named types that are gathered: their row is the call's own, what they lead to stays. -/
structure GRow (w : World) (base : Nat) (X : List Nat) (v : Value) (l : List NT) (us : List (List UInt8 × C4)) : Prop where
  own : w.ownsRow base 44 5 v us.length (us.flatMap encZ)
  len : us.length = l.length
  val : ∀ i (h : i < l.length) (h' : i < us.length), us[i].1 = l[i].1 ∧ TzV w (Free w X [v]) l[i].2 us[i].2

theorem GRow.start (w : World) (base : Nat) (X : List Nat) : GRow w base X (.slice none 0 0) [] [] := ⟨World.ownsRow_nil _ _ _ _, rfl, fun i h => by cases h⟩
theorem GRow.below {w w' : World} {base : Nat} {X : List Nat} {v : Value} {l : List NT} {us : List (List UInt8 × C4)} (h : GRow w base X v l us) (hb : Below w.heap.size w w') : GRow w' base X v l us :=
  ⟨h.own.kept (row := none) ⟨hb.os, hb.tape, hb.output, hb.size, fun k hk _ => hb.block k hk⟩ (by cases v.ownBlock <;> simp), h.len, fun i h1 h2 => ⟨(h.val i h1 h2).1, (h.val i h1 h2).2.step (Step.below hb)⟩⟩
theorem GRow.alloc {w : World} {base : Nat} {X : List Nat} {v : Value} {l : List NT} {us : List (List UInt8 × C4)} (h : GRow w base X v l us) (o : Obj) : GRow (w.alloc o) base X v l us := h.below ((Below.refl _ _).alloc (Nat.le_refl _) o)
theorem GRow.only {w w' : World} {base b : Nat} {X : List Nat} {v : Value} {l : List NT} {us : List (List UInt8 × C4)} (h : GRow w base X v l us) (hb : b ∈ X) (hX : ∀ x ∈ X, x < base) (ho : Only b w w') : GRow w' base X v l us :=
  ⟨h.own.kept ho (by
      cases hv : v.ownBlock with
      | none => exact .inl rfl
      | some g => refine .inr fun e => ?_; cases e; have := (h.own.lt _ hv).1; have := hX _ hb; omega), h.len, fun i h1 h2 => ⟨(h.val i h1 h2).1, (h.val i h1 h2).2.step (Step.only hb ho)⟩⟩
theorem GRow.snoc {w w3 : World} {base : Nat} {X : List Nat} {v v' : Value} {l : List NT} {us : List (List UInt8 × C4)} {o : Obj} {n : List UInt8} {t : Tz} {c : C4} (h : GRow w base X v l us) (hV : TzV w (Free w X [v]) t c) (hown : w3.ownsRow base 44 5 v' (us.length + 1) (us.flatMap encZ ++ encZ (n, c)))
    (hg : (w.alloc o).grownBy w3 v.ownBlock) (hf : ∀ k, v'.ownBlock = some k → v.ownBlock = some k ∨ (w.alloc o).heap.size ≤ k) : GRow w3 base X v' (l ++ [(n, t)]) (us ++ [(n, c)]) ∧ Step X [v] [v'] w w3 := by
  have hs : Step X [v] [v'] w w3 := (Step.alloc w o).trans (Step.append hg (List.mem_singleton.2 rfl) hf (fun u hu => .inl (List.mem_singleton.1 hu)))
  refine ⟨⟨by simpa [List.flatMap_append] using hown, by simp [h.len], fun i h1 h2 => ?_⟩, hs⟩
  have hlen := h.len
  by_cases hi : i < us.length
  · rw [List.getElem_append_left hi, List.getElem_append_left (by omega)]
    exact ⟨(h.val i (by omega) hi).1, (h.val i (by omega) hi).2.step hs⟩
  · simp at h1 h2
    obtain rfl : i = us.length := by omega
    simp only [List.getElem_append_right (Nat.le_refl _), Nat.sub_self, List.getElem_cons_zero]
    rw [List.getElem_append_right (by omega)]
    simp only [hlen, Nat.sub_self, List.getElem_cons_zero]
    exact ⟨trivial, hV.step hs⟩
theorem GRow.nms {w : World} {base n c : Nat} {a : Option Addr} {X : List Nat} {l : List NT} {us : List (List UInt8 × C4)} (h : GRow w base X (.slice a n c) l us) : NmsV w (Any w) l a us :=
  NmsV.sl h.own h.len fun i h1 h2 => ⟨(h.val i h1 h2).1, (h.val i h1 h2).2.any⟩
theorem GRow.cut {w : World} {base : Nat} {X : List Nat} {v : Value} {l : List NT} {us : List (List UInt8 × C4)} (h : GRow w base X v l us) : ∃ a c, v = .slice a l.length c := by
  obtain ⟨a, c, e⟩ := own_sliceZ h.own
  exact ⟨a, c, by rw [e, h.len]⟩
theorem GRow.ne {w : World} {base b : Nat} {X : List Nat} {v : Value} {l : List NT} {us : List (List UInt8 × C4)} (h : GRow w base X v l us) (hb : b < base) : v.ownBlock ≠ some b := fun e => by have := (h.own.lt b e).1; omega

/-! ### Functions -/
theorem SgV.step {w w' : World} {S S' : Nat → Prop} {g : Sg} {x : List UInt8 × G6} (h : SgV w S g x) (hk : ∀ g, S g → S' g ∧ w'.heap[g]? = w.heap[g]?) : SgV w' S' g x :=
  ⟨h.name, h.len, h.par.elim fun ps hp => ⟨ps, hp.1, hp.2.1.keep (fun g hg => (hk g hg).1) (fun g hg => (hk g hg).2), fun i h1 h2 => (hp.2.2 i h1 h2).keep (fun g hg => (hk g hg).1) (fun g hg => (hk g hg).2)⟩, h.res.keep (fun g hg => (hk g hg).1) (fun g hg => (hk g hg).2)⟩
structure SRow (w : World) (base : Nat) (X : List Nat) (v : Value) (l : List Sg) (us : List (List UInt8 × G6)) : Prop where
  own : w.ownsRow base 46 6 v us.length (us.flatMap encG)
  len : us.length = l.length
  val : ∀ i (h : i < l.length) (h' : i < us.length), SgV w (Free w X [v]) l[i] us[i]
theorem SRow.start (w : World) (base : Nat) (X : List Nat) : SRow w base X (.slice none 0 0) [] [] := ⟨World.ownsRow_nil _ _ _ _, rfl, fun i h => by cases h⟩
theorem SRow.below {w w' : World} {base : Nat} {X : List Nat} {v : Value} {l : List Sg} {us : List (List UInt8 × G6)} (h : SRow w base X v l us) (hb : Below w.heap.size w w') : SRow w' base X v l us :=
  ⟨h.own.kept (row := none) ⟨hb.os, hb.tape, hb.output, hb.size, fun k hk _ => hb.block k hk⟩ (by cases v.ownBlock <;> simp), h.len, fun i h1 h2 => (h.val i h1 h2).step (Step.below hb)⟩
theorem SRow.alloc {w : World} {base : Nat} {X : List Nat} {v : Value} {l : List Sg} {us : List (List UInt8 × G6)} (h : SRow w base X v l us) (o : Obj) : SRow (w.alloc o) base X v l us := h.below ((Below.refl _ _).alloc (Nat.le_refl _) o)
theorem SRow.only {w w' : World} {base b : Nat} {X : List Nat} {v : Value} {l : List Sg} {us : List (List UInt8 × G6)} (h : SRow w base X v l us) (hb : b ∈ X) (hX : ∀ x ∈ X, x < base) (ho : Only b w w') : SRow w' base X v l us :=
  ⟨h.own.kept ho (by
      cases hv : v.ownBlock with
      | none => exact .inl rfl
      | some g => refine .inr fun e => ?_; cases e; have := (h.own.lt _ hv).1; have := hX _ hb; omega), h.len, fun i h1 h2 => (h.val i h1 h2).step (Step.only hb ho)⟩
theorem SRow.snoc {w w3 : World} {base : Nat} {X : List Nat} {v v' : Value} {l : List Sg} {us : List (List UInt8 × G6)} {o : Obj} {g : Sg} {x : List UInt8 × G6} (h : SRow w base X v l us) (hV : SgV w (Free w X [v]) g x) (hown : w3.ownsRow base 46 6 v' (us.length + 1) (us.flatMap encG ++ encG x))
    (hg : (w.alloc o).grownBy w3 v.ownBlock) (hf : ∀ k, v'.ownBlock = some k → v.ownBlock = some k ∨ (w.alloc o).heap.size ≤ k) : SRow w3 base X v' (l ++ [g]) (us ++ [x]) ∧ Step X [v] [v'] w w3 := by
  have hs : Step X [v] [v'] w w3 := (Step.alloc w o).trans (Step.append hg (List.mem_singleton.2 rfl) hf (fun u hu => .inl (List.mem_singleton.1 hu)))
  refine ⟨⟨by simpa [List.flatMap_append] using hown, by simp [h.len], fun i h1 h2 => ?_⟩, hs⟩
  have hlen := h.len
  by_cases hi : i < us.length
  · rw [List.getElem_append_left hi, List.getElem_append_left (by omega)]
    exact (h.val i (by omega) hi).step hs
  · simp at h1 h2
    obtain rfl : i = us.length := by omega
    simp only [List.getElem_append_right (Nat.le_refl _), Nat.sub_self, List.getElem_cons_zero]
    rw [List.getElem_append_right (by omega)]
    simp only [hlen, Nat.sub_self, List.getElem_cons_zero]
    exact hV.step hs
theorem SRow.sgs {w : World} {base n c : Nat} {a : Option Addr} {X : List Nat} {l : List Sg} {us : List (List UInt8 × G6)} (h : SRow w base X (.slice a n c) l us) : SgsV w (Any w) l a us :=
  SgsV.sl h.own h.len fun i h1 h2 => (h.val i h1 h2).step fun _ hg => ⟨hg.1, rfl⟩
theorem SRow.cut {w : World} {base : Nat} {X : List Nat} {v : Value} {l : List Sg} {us : List (List UInt8 × G6)} (h : SRow w base X v l us) : ∃ a c, v = .slice a l.length c := by
  obtain ⟨a, c, e⟩ := own_sliceZ h.own
  exact ⟨a, c, by rw [e, h.len]⟩
theorem SRow.ne {w : World} {base b : Nat} {X : List Nat} {v : Value} {l : List Sg} {us : List (List UInt8 × G6)} (h : SRow w base X v l us) (hb : b < base) : v.ownBlock ≠ some b := fun e => by have := (h.own.lt b e).1; omega
theorem one6 {n : List UInt8} {k : Int} {s : ByteArray} {p a b : Option Addr} {x y u v r t : Nat} : ∀ z ∈ ([.string ⟨n.toArray⟩, .slice p r t, .int .i64 k, .string s, .slice a x y, .slice b u v] : List Value), z.oneCell' = true := by
  intro z hz; simp at hz; rcases hz with rfl | rfl | rfl | rfl | rfl | rfl <;> rfl

/-! ### Types -/
structure TRow (w : World) (base : Nat) (X : List Nat) (vs : List Value) (v : Value) (l : List Tz) (us : List C4) : Prop where
  own : w.ownsRow base 25 4 v us.length (us.flatMap C4.cells)
  len : us.length = l.length
  val : ∀ i (h : i < l.length) (h' : i < us.length), TzV w (Free w X vs) l[i] us[i]
theorem TRow.start (w : World) (base : Nat) (X : List Nat) (vs : List Value) : TRow w base X vs (.slice none 0 0) [] [] := ⟨World.ownsRow_nil _ _ _ _, rfl, fun i h => by cases h⟩
theorem TRow.below {w w' : World} {base : Nat} {X : List Nat} {vs : List Value} {v : Value} {l : List Tz} {us : List C4} (h : TRow w base X vs v l us) (hb : Below w.heap.size w w') : TRow w' base X vs v l us :=
  ⟨h.own.kept (row := none) ⟨hb.os, hb.tape, hb.output, hb.size, fun k hk _ => hb.block k hk⟩ (by cases v.ownBlock <;> simp), h.len, fun i h1 h2 => (h.val i h1 h2).step (Step.below hb)⟩
theorem TRow.alloc {w : World} {base : Nat} {X : List Nat} {vs : List Value} {v : Value} {l : List Tz} {us : List C4} (h : TRow w base X vs v l us) (o : Obj) : TRow (w.alloc o) base X vs v l us := h.below ((Below.refl _ _).alloc (Nat.le_refl _) o)
theorem TRow.only {w w' : World} {base b : Nat} {X : List Nat} {vs : List Value} {v : Value} {l : List Tz} {us : List C4} (h : TRow w base X vs v l us) (hb : b ∈ X) (hX : ∀ x ∈ X, x < base) (ho : Only b w w') : TRow w' base X vs v l us :=
  ⟨h.own.kept ho (by
      cases hv : v.ownBlock with
      | none => exact .inl rfl
      | some g => refine .inr fun e => ?_; cases e; have := (h.own.lt _ hv).1; have := hX _ hb; omega), h.len, fun i h1 h2 => (h.val i h1 h2).step (Step.only hb ho)⟩
theorem TRow.snoc {w w3 : World} {base : Nat} {X : List Nat} {vs vs' : List Value} {v v' : Value} {l : List Tz} {us : List C4} {t : Tz} {c : C4} (h : TRow w base X vs v l us) (hV : TzV w (Free w X vs) t c) (hown : w3.ownsRow base 25 4 v' (us.length + 1) (us.flatMap C4.cells ++ c.cells))
    (hs : Step X vs vs' w w3) : TRow w3 base X vs' v' (l ++ [t]) (us ++ [c]) := by
  refine ⟨by simpa [List.flatMap_append] using hown, by simp [h.len], fun i h1 h2 => ?_⟩
  have hlen := h.len
  by_cases hi : i < us.length
  · rw [List.getElem_append_left hi, List.getElem_append_left (by omega)]
    exact (h.val i (by omega) hi).step hs
  · simp at h1 h2
    obtain rfl : i = us.length := by omega
    simp only [List.getElem_append_right (Nat.le_refl _), Nat.sub_self, List.getElem_cons_zero]
    rw [List.getElem_append_right (by omega)]
    simp only [hlen, Nat.sub_self, List.getElem_cons_zero]
    exact hV.step hs
theorem TRow.row {w : World} {base n c : Nat} {a : Option Addr} {X : List Nat} {vs : List Value} {l : List Tz} {us : List C4} (h : TRow w base X vs (.slice a n c) l us) (S : Nat → Prop) (hS : ∀ g, (Value.slice a n c).ownBlock = some g → S g) : RowV w S a 4 (us.map C4.cells) := by
  obtain ⟨a', c', e, hr⟩ := RowV.own (S := S) (l := us.map C4.cells) h.own (cells4_len us) (by simp) hS
  cases e
  exact hr
theorem TRow.cut {w : World} {base : Nat} {X : List Nat} {vs : List Value} {v : Value} {l : List Tz} {us : List C4} (h : TRow w base X vs v l us) : ∃ a c, v = .slice a l.length c := by
  obtain ⟨a, c, e⟩ := own_sliceZ h.own
  exact ⟨a, c, by rw [e, h.len]⟩
theorem TRow.ne {w : World} {base b : Nat} {X : List Nat} {vs : List Value} {v : Value} {l : List Tz} {us : List C4} (h : TRow w base X vs v l us) (hb : b < base) : v.ownBlock ≠ some b := fun e => by have := (h.own.lt b e).1; omega
theorem set_six1 {w : World} {b : Nat} {t : TypeId} {v0 v1 v2 v3 v4 v5 : Value} (h : w.heap[b]? = some (.cells #[v0, v1, v2, v3, v4, v5] t (0, 0))) (v : Value) : (w.setCell ⟨b, 1, none⟩ v).heap[b]? = some (.cells #[v0, v, v2, v3, v4, v5] t (0, 0)) := by
  unfold World.setCell; simp [Array.getElem?_modify, h]
end Sp
end Go.Proofs.Ytjjpjkkaogfoaaa
