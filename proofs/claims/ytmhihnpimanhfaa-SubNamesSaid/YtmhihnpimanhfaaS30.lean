/- A region that draws its order, its operations' answers told as one function of what is chosen; guarded operations, calls. No program is named here. -/
import Derived.Test.YtmhihnpimanhfaaS29
import Derived.Test.YtmhihnpimanhfaaS24
import Derived.Test.YtmhihnpimanhfaaS23
import Derived.ProofKit
import Derived.OpenShut
import Derived.ChangeOld
import Derived.ChangeArms
import Derived.Deep.QuietTactic
import Derived.BigQuiet
import Derived.Deep.RegionHeld3
namespace Go.Proofs.Ytmhihnpimanhfaa
namespace Sp
variable {P : Program} {ops : Array Oper} {Q : Exit → Act → World → Prop}
theorem wanted_none {o : Oper} {y : Nat → Option Bool} (hg : o.guard = none) : Region.wanted o y = true := by unfold Region.wanted; rw [hg]
theorem wanted_of {o : Oper} {a : Act} {j d : Nat} {want b : Bool} (hg : o.guard = some (j, want)) (hd : dstOf ops j = some d) (ht : a.tmps[d]? = some (.bool b)) : Region.wanted o (yielded ops a.tmps) = (b == want) := by
  unfold Region.wanted yielded
  unfold dstOf at hd
  rw [hg]
  simp only [hd, Option.bind_some, ht]
  rfl
theorem wpOp_wpG {i : Nat} {o : Oper} {a : Act} {w : World} {K : Act → World → Prop} (hi : ops[i]? = some o) (hg : Region.wanted o (yielded ops a.tmps) = true) (h : o.wp P a w K Q) : wpOp P ops Q i K a w := by
  unfold wpOp
  rw [hi]
  simp only [hg, if_true]
  exact .inl h
theorem wpOp_skipG {i : Nat} {o : Oper} {a : Act} {w : World} {K : Act → World → Prop} (hi : ops[i]? = some o) (hg : Region.wanted o (yielded ops a.tmps) = false) (h : K (a.put o.dst undef) w) : wpOp P ops Q i K a w := by
  unfold wpOp
  rw [hi]
  simp only [hg, Bool.false_eq_true, if_false]
  exact h
structure QJ {α : Type} (vals : α → Nat → Value) (M : α → Array Bool → World → Prop) (ops : Array Oper) (a0 : Act) (listed : Array Bool) (b : Act) (v : World) : Prop where
  size : listed.size = ops.size
  closed : Closed ops listed
  rest : ∃ x, Fr ops a0 (vals x) listed b ∧ M x listed v
section
variable {α : Type} {vals : α → Nat → Value} {M : α → Array Bool → World → Prop} {a0 b : Act} {listed : Array Bool} {v : World} {i : Nat} {o : Oper} {x : α}
/-- An operation that only reads. -/
theorem QJ.quiet (hz : listed.size = ops.size) (hC : Closed ops listed) (hi : i ∈ Region.ready .any ops listed) (hF : Fr ops a0 (vals x) listed b) (hs : Slots ops a0.tmps.size) (ho : ops[i]? = some o) (hg : Region.wanted o (yielded ops b.tmps) = true) (hM : M x (listed.setIfInBounds i true) v)
    (hr : (execOp b.eval o).run P v = .ok (.value (vals x i)) v) : wpOp P ops Q i (fun b' v' => QJ vals M ops a0 (listed.setIfInBounds i true) b' v') b v := by
  refine wpOp_wpG ho hg ?_
  unfold Oper.wp
  rw [hr]
  exact ⟨by simp [hz], hC.put hi, x, hF.put hs hz ho, hM⟩
/-- One that is left out. -/
theorem QJ.skip (hz : listed.size = ops.size) (hC : Closed ops listed) (hi : i ∈ Region.ready .any ops listed) (hF : Fr ops a0 (vals x) listed b) (hs : Slots ops a0.tmps.size) (ho : ops[i]? = some o) (hg : Region.wanted o (yielded ops b.tmps) = false) (hM : M x (listed.setIfInBounds i true) v) (hu : vals x i = undef) :
    wpOp P ops Q i (fun b' v' => QJ vals M ops a0 (listed.setIfInBounds i true) b' v') b v :=
  wpOp_skipG ho hg ⟨by simp [hz], hC.put hi, x, hu ▸ hF.put hs hz ho, hM⟩
/-- One that makes memory. -/
theorem QJ.make {v' : World} {x' : α} (hz : listed.size = ops.size) (hC : Closed ops listed) (hi : i ∈ Region.ready .any ops listed) (hF : Fr ops a0 (vals x) listed b) (hs : Slots ops a0.tmps.size) (ho : ops[i]? = some o) (hg : Region.wanted o (yielded ops b.tmps) = true) (hx : ∀ j, listed.getD j false = true → vals x' j = vals x j) (hM : M x' (listed.setIfInBounds i true) v')
    (hr : (execOp b.eval o).run P v = .ok (.value (vals x' i)) v') : wpOp P ops Q i (fun b' v' => QJ vals M ops a0 (listed.setIfInBounds i true) b' v') b v := by
  refine wpOp_wpG ho hg ?_
  unfold Oper.wp
  rw [hr]
  exact ⟨by simp [hz], hC.put hi, x', (hF.congr hx).put hs hz ho, hM⟩
end
end Sp
end Go.Proofs.Ytmhihnpimanhfaa
namespace Go.Proofs.Ytmhihnpimanhfaa
open Go.RowKit
namespace Sp
open Sc
/-- Named types that are gathered: their row is the call's own, what they lead to stays. -/
structure GRow (w : World) (base : Nat) (X : List Nat) (v : Value) (l : List NT) (us : List (List UInt8 × C4)) : Prop where
  own : w.ownsRow base 44 5 v us.length (us.flatMap encZ)
  len : us.length = l.length
  val : ∀ i (h : i < l.length) (h' : i < us.length), us[i].1 = l[i].1 ∧ TzV w (Free w X [v]) l[i].2 us[i].2
theorem GRow.start (w : World) (base : Nat) (X : List Nat) : GRow w base X (.slice none 0 0) [] [] := ⟨World.ownsRow_nil _ _ _ _, rfl, fun i h => by cases h⟩
theorem GRow.below {w w' : World} {base : Nat} {X : List Nat} {v : Value} {l : List NT} {us : List (List UInt8 × C4)} (h : GRow w base X v l us) (hb : Below w.heap.size w w') : GRow w' base X v l us :=
  ⟨h.own.kept (row := none) ⟨hb.os, hb.tape, hb.output, hb.size, fun k hk _ => hb.block k hk⟩ (by cases v.ownBlock <;> simp), h.len, fun i h1 h2 => ⟨(h.val i h1 h2).1, (h.val i h1 h2).2.step (Step.below hb)⟩⟩
theorem GRow.alloc {w : World} {base : Nat} {X : List Nat} {v : Value} {l : List NT} {us : List (List UInt8 × C4)} (h : GRow w base X v l us) (o : Obj) : GRow (w.alloc o) base X v l us := h.below ((Below.refl _ _).alloc (Nat.le_refl _) o)
theorem GRow.only {w w' : World} {base b : Nat} {X : List Nat} {v : Value} {l : List NT} {us : List (List UInt8 × C4)} (h : GRow w base X v l us) (hb : b ∈ X) (hX : ∀ x ∈ X, x < base) (ho : Only b w w') : GRow w' base X v l us :=
  ⟨h.own.kept ho (by
      cases hv : v.ownBlock with
      | none => exact .inl rfl
      | some g => refine .inr fun e => ?_; cases e; have := (h.own.lt _ hv).1; have := hX _ hb; omega), h.len, fun i h1 h2 => ⟨(h.val i h1 h2).1, (h.val i h1 h2).2.step (Step.only hb ho)⟩⟩
theorem GRow.snoc {w w3 : World} {base : Nat} {X : List Nat} {v v' : Value} {l : List NT} {us : List (List UInt8 × C4)} {o : Obj} {n : List UInt8} {t : Tz} {c : C4} (h : GRow w base X v l us) (hV : TzV w (Free w X [v]) t c) (hown : w3.ownsRow base 44 5 v' (us.length + 1) (us.flatMap encZ ++ encZ (n, c)))
    (hg : (w.alloc o).grownBy w3 v.ownBlock) (hf : ∀ k, v'.ownBlock = some k → v.ownBlock = some k ∨ (w.alloc o).heap.size ≤ k) : GRow w3 base X v' (l ++ [(n, t)]) (us ++ [(n, c)]) ∧ Step X [v] [v'] w w3 := by
  have hs : Step X [v] [v'] w w3 := (Step.alloc w o).trans (Step.append hg (List.mem_singleton.2 rfl) hf (fun u hu => .inl (List.mem_singleton.1 hu)))
  refine ⟨⟨by simpa [List.flatMap_append] using hown, by simp [h.len], fun i h1 h2 => ?_⟩, hs⟩
  have hlen := h.len
  by_cases hi : i < us.length
  · rw [List.getElem_append_left hi, List.getElem_append_left (by omega)]
    exact ⟨(h.val i (by omega) hi).1, (h.val i (by omega) hi).2.step hs⟩
  · simp at h1 h2
    obtain rfl : i = us.length := by omega
    simp only [List.getElem_append_right (Nat.le_refl _), Nat.sub_self, List.getElem_cons_zero]
    rw [List.getElem_append_right (by omega)]
    simp only [hlen, Nat.sub_self, List.getElem_cons_zero]
    exact ⟨trivial, hV.step hs⟩
theorem GRow.nms {w : World} {base n c : Nat} {a : Option Addr} {X : List Nat} {l : List NT} {us : List (List UInt8 × C4)} (h : GRow w base X (.slice a n c) l us) : NmsV w (Any w) l a us :=
  NmsV.sl h.own h.len fun i h1 h2 => ⟨(h.val i h1 h2).1, (h.val i h1 h2).2.any⟩
theorem GRow.cut {w : World} {base : Nat} {X : List Nat} {v : Value} {l : List NT} {us : List (List UInt8 × C4)} (h : GRow w base X v l us) : ∃ a c, v = .slice a l.length c := by
  obtain ⟨a, c, e⟩ := own_sliceZ h.own
  exact ⟨a, c, by rw [e, h.len]⟩
theorem GRow.ne {w : World} {base b : Nat} {X : List Nat} {v : Value} {l : List NT} {us : List (List UInt8 × C4)} (h : GRow w base X v l us) (hb : b < base) : v.ownBlock ≠ some b := fun e => by have := (h.own.lt b e).1; omega
end Sp
end Go.Proofs.Ytmhihnpimanhfaa
namespace Go.Proofs.Ytmhihnpimanhfaa
open Go.RowKit
namespace Sp
open Sc
set_option maxRecDepth 100000 in
theorem conv_oneZ (w : World) (z : Int) (c : UInt8) (h : z = (c.toNat : Int)) : (convert 72 9 (.slice (some ⟨w.heap.size, 0, none⟩) 1 1)).run Try.prog (w.alloc (.cells #[.int .u8 z] 5)) = .ok (.string ⟨#[c]⟩) (w.alloc (.cells #[.int .u8 z] 5)) := by
  have e := run_convert_bytes_arg (P := Try.prog) (w.alloc (.cells #[.int .u8 z] 5)) 72 5 Try.underlying72 Try.underlying5 w.heap.size 0 1 1 [z] rfl
    (fun i hi => by
      obtain rfl : i = 0 := by simpa using hi
      simp) 9 Try.underlying9
  rw [e, h]
  congr 2
  apply ByteArray.ext
  simp [strOfNums]
theorem cells_atZ (w : World) (l : List Value) (t : TypeId) (g : Nat) (hg : g = w.heap.size) : ∀ (j : Nat) (u : Value), l[j]? = some u → (w.alloc (.cells l.toArray t)).cell? ((⟨g, 0, none⟩ : Addr).add j) = some u := hg ▸ cells_newZ w l t
end Sp
end Go.Proofs.Ytmhihnpimanhfaa
namespace Go.Proofs.Ytmhihnpimanhfaa
open Go.RowKit
namespace Sp
open Sc
def lower (k : Nat) : UInt8 := UInt8.ofNat (97 + k)
theorem lower_is (k : Nat) (h : k < 100) : (97 + (k : Int)) = ((lower k).toNat : Int) := by unfold lower; rw [UInt8.toNat_ofNat']; omega
theorem conv_atZ (z : Int) (c : UInt8) (h : z = (c.toNat : Int)) (w : World) (g : Nat) (hg : g = w.heap.size) : (convert 72 9 (.slice (some ⟨g, 0, none⟩) 1 1)).run Try.prog (w.alloc (.cells #[.int .u8 z] 5)) = .ok (.string ⟨#[c]⟩) (w.alloc (.cells #[.int .u8 z] 5)) := hg ▸ conv_oneZ w z c h
theorem catN (c : UInt8) : (⟨#[78]⟩ : ByteArray) ++ ⟨#[c]⟩ = ⟨#[78, c]⟩ := by
  apply ByteArray.ext
  simp [ByteArray.data_append]
end Sp
end Go.Proofs.Ytmhihnpimanhfaa
namespace Go.Proofs.Ytmhihnpimanhfaa
open Go.RowKit
namespace Sp
open Sc
def letB (k : Nat) : UInt8 := UInt8.ofNat (97 + k)
end Sp
end Go.Proofs.Ytmhihnpimanhfaa
namespace Go.Proofs.Ytmhihnpimanhfaa
open Go.RowKit
namespace Sp
open Sc
theorem set_four2 {w : World} {b : Nat} {t : TypeId} {v0 v1 v2 v3 : Value} (h : w.heap[b]? = some (.cells #[v0, v1, v2, v3] t (0, 0))) (v : Value) : (w.setCell ⟨b, 2, none⟩ v).heap[b]? = some (.cells #[v0, v1, v, v3] t (0, 0)) := by
  unfold World.setCell; simp [Array.getElem?_modify, h]
end Sp
end Go.Proofs.Ytmhihnpimanhfaa
namespace Go.Proofs.Ytmhihnpimanhfaa
open Go.RowKit
namespace Sp
open Sc
set_option maxRecDepth 100000
/-- A block of one byte, the statement's own. -/
def Lit (W0 : World) (z : Int) (x : Value) (v : World) : Prop := ∃ g, x = .slice (some ⟨g, 0, none⟩) 1 1 ∧ W0.heap.size ≤ g ∧ g < v.heap.size ∧ v.heap[g]? = some (.cells #[.int .u8 z] 5 (0, 0))
end Sp
end Go.Proofs.Ytmhihnpimanhfaa
namespace Go.Proofs.Ytmhihnpimanhfaa
open Go.RowKit
namespace Sp
open Sc
/-- The blocks that are there since b. -/
abbrev New (b : Nat) (w : World) (g : Nat) : Prop := b ≤ g ∧ g < w.heap.size
end Sp
end Go.Proofs.Ytmhihnpimanhfaa
namespace Go.Proofs.Ytmhihnpimanhfaa
open Go.RowKit
namespace Sp
open Sc
theorem getD_setE {listed : Array Bool} {i : Nat} (h : i < listed.size) : (listed.setIfInBounds i true).getD i false = true := by rw [getD_setF]; simp [h]
theorem getD_setN {listed : Array Bool} {i j : Nat} (h : i ≠ j) : (listed.setIfInBounds i true).getD j false = listed.getD j false := by rw [getD_setF]; simp [h]
end Sp
end Go.Proofs.Ytmhihnpimanhfaa
