/- Named types, functions and types that a law gathers, one behind the other. -/
import Derived.Test.YtnnnjonodnkccaaZGrow
namespace Go.Proofs.Ytnnnjonodnkccaa
open Go.RowKit
namespace Sp
open Sc

/-- Named types that are gathered: their row is the call's own, what they lead to stays. -/
structure GRow (w : World) (base : Nat) (X : List Nat) (v : Value) (l : List NT) (us : List (List UInt8 × C4)) : Prop where
  own : w.ownsRow base 44 5 v us.length (us.flatMap encZ)
  len : us.length = l.length
  val : ∀ i (h : i < l.length) (h' : i < us.length), us[i].1 = l[i].1 ∧ TzV w (Free w X [v]) l[i].2 us[i].2

theorem GRow.start (w : World) (base : Nat) (X : List Nat) : GRow w base X (.slice none 0 0) [] [] := ⟨World.ownsRow_nil _ _ _ _, rfl, fun i h => by cases h⟩
theorem GRow.below {w w' : World} {base : Nat} {X : List Nat} {v : Value} {l : List NT} {us : List (List UInt8 × C4)} (h : GRow w base X v l us) (hb : Below w.heap.size w w') : GRow w' base X v l us :=
  ⟨h.own.kept (row := none) ⟨hb.os, hb.tape, hb.output, hb.size, fun k hk _ => hb.block k hk⟩ (by cases v.ownBlock <;> simp), h.len, fun i h1 h2 => ⟨(h.val i h1 h2).1, (h.val i h1 h2).2.step (Step.below hb)⟩⟩
theorem GRow.alloc {w : World} {base : Nat} {X : List Nat} {v : Value} {l : List NT} {us : List (List UInt8 × C4)} (h : GRow w base X v l us) (o : Obj) : GRow (w.alloc o) base X v l us := h.below ((Below.refl _ _).alloc (Nat.le_refl _) o)
theorem GRow.only {w w' : World} {base b : Nat} {X : List Nat} {v : Value} {l : List NT} {us : List (List UInt8 × C4)} (h : GRow w base X v l us) (hb : b ∈ X) (hX : ∀ x ∈ X, x < base) (ho : Only b w w') : GRow w' base X v l us :=
  ⟨h.own.kept ho (by
      cases hv : v.ownBlock with
      | none => exact .inl rfl
      | some g => refine .inr fun e => ?_; cases e; have := (h.own.lt _ hv).1; have := hX _ hb; omega), h.len, fun i h1 h2 => ⟨(h.val i h1 h2).1, (h.val i h1 h2).2.step (Step.only hb ho)⟩⟩
theorem GRow.snoc {w w3 : World} {base : Nat} {X : List Nat} {v v' : Value} {l : List NT} {us : List (List UInt8 × C4)} {o : Obj} {n : List UInt8} {t : Tz} {c : C4} (h : GRow w base X v l us) (hV : TzV w (Free w X [v]) t c) (hown : w3.ownsRow base 44 5 v' (us.length + 1) (us.flatMap encZ ++ encZ (n, c)))
    (hg : (w.alloc o).grownBy w3 v.ownBlock) (hf : ∀ k, v'.ownBlock = some k → v.ownBlock = some k ∨ (w.alloc o).heap.size ≤ k) : GRow w3 base X v' (l ++ [(n, t)]) (us ++ [(n, c)]) ∧ Step X [v] [v'] w w3 := by
  have hs : Step X [v] [v'] w w3 := (Step.alloc w o).trans (Step.append hg (List.mem_singleton.2 rfl) hf (fun u hu => .inl (List.mem_singleton.1 hu)))
  refine ⟨⟨by simpa [List.flatMap_append] using hown, by simp [h.len], fun i h1 h2 => ?_⟩, hs⟩
  have hlen := h.len
  by_cases hi : i < us.length
  · rw [List.getElem_append_left hi, List.getElem_append_left (by omega)]
    exact ⟨(h.val i (by omega) hi).1, (h.val i (by omega) hi).2.step hs⟩
  · simp at h1 h2
    obtain rfl : i = us.length := by omega
    simp only [List.getElem_append_right (Nat.le_refl _), Nat.sub_self, List.getElem_cons_zero]
    rw [List.getElem_append_right (by omega)]
    simp only [hlen, Nat.sub_self, List.getElem_cons_zero]
    exact ⟨trivial, hV.step hs⟩
theorem GRow.nms {w : World} {base n c : Nat} {a : Option Addr} {X : List Nat} {l : List NT} {us : List (List UInt8 × C4)} (h : GRow w base X (.slice a n c) l us) : NmsV w (Any w) l a us :=
  NmsV.sl h.own h.len fun i h1 h2 => ⟨(h.val i h1 h2).1, (h.val i h1 h2).2.any⟩
theorem GRow.cut {w : World} {base : Nat} {X : List Nat} {v : Value} {l : List NT} {us : List (List UInt8 × C4)} (h : GRow w base X v l us) : ∃ a c, v = .slice a l.length c := by
  obtain ⟨a, c, e⟩ := own_sliceZ h.own
  exact ⟨a, c, by rw [e, h.len]⟩
theorem GRow.ne {w : World} {base b : Nat} {X : List Nat} {v : Value} {l : List NT} {us : List (List UInt8 × C4)} (h : GRow w base X v l us) (hb : b < base) : v.ownBlock ≠ some b := fun e => by have := (h.own.lt b e).1; omega
end Sp
end Go.Proofs.Ytnnnjonodnkccaa
