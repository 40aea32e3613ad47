/- Tree: at any depth. -/
import Derived.Test.YteooafgdmpbjeabV29
import Derived.Test.YteooafgdmpbjeabV30
import Derived.Test.YteooafgdmpbjeabV31
import Derived.Test.YteooafgdmpbjeabV32
import Derived.Test.YteooafgdmpbjeabV28
namespace Go.Proofs.Yteooafgdmpbjeab
open Go.RowKit
namespace Sp
open Sc
theorem Tree_any : ∀ d : Nat, d ≤ 1000 → TreeC d
  | d, hd => by
    intro r c names na nc w hV hnm hnl
    obtain ⟨kd, n, ns, ks⟩ := r
    obtain h | h | h | h | h | h | h | h | h : kd % 9 = 0 ∨ kd % 9 = 1 ∨ kd % 9 = 2 ∨ kd % 9 = 3 ∨ kd % 9 = 4 ∨ kd % 9 = 5 ∨ kd % 9 = 6 ∨ kd % 9 = 7 ∨ kd % 9 = 8 := by omega
    · by_cases h1 : (d : Int) ≤ 1
      · exact tree_0a d hd kd n ns ks c names na nc w hV hnl h h1
      · exact tree_0b d hd kd n ns ks c names na nc w hV hnl h h1
    · by_cases h1 : (d : Int) ≤ 1
      · exact tree_1a d hd kd n ns ks c names na nc w hV hnl h h1
      · exact tree_1b d hd kd n ns ks c names na nc w hV hnl h h1
    · by_cases h1 : (d : Int) ≤ 1
      · exact tree_2a d hd kd n ns ks c names na nc w hV hnl h h1
      · exact tree_2b d hd kd n ns ks c names na nc w hV hnl h h1
    · by_cases h1 : (d : Int) ≤ 1
      · exact tree_3 d hd kd n ns ks c names na nc w hV hnl h h1
      · have ih := Tree_any (d - 1) (by omega)
        exact tree_3k d (d - 1) (by omega) ih (by omega) (by omega) kd n ns ks c names na nc w hV hnl hnm h
    · by_cases h1 : (d : Int) ≤ 1
      · exact tree_4 d hd kd n ns ks c names na nc w hV hnl h h1
      · have ih := Tree_any (d - 1) (by omega)
        exact tree_4k d (d - 1) (by omega) ih (by omega) (by omega) kd n ns ks c names na nc w hV hnl hnm h
    · by_cases h1 : (d : Int) ≤ 1
      · exact tree_5 d hd kd n ns ks c names na nc w hV hnl h h1
      · have ih := Tree_any (d - 1) (by omega)
        by_cases h6 : (treeR names (d - 1) (kidR (.mk kd n ns ks) 0)).kind = 6
        · exact tree_5y d (d - 1) (by omega) ih (by omega) (by omega) kd n ns ks c names na nc w hV hnl hnm h h6
        · exact tree_5n d (d - 1) (by omega) ih (by omega) (by omega) kd n ns ks c names na nc w hV hnl hnm h h6
    · by_cases h1 : (d : Int) ≤ 1
      · exact tree_6 d hd kd n ns ks c names na nc w hV hnl h h1
      · have ih := Tree_any (d - 1) (by omega)
        exact tree_6r d (d - 1) (by omega) ih (by omega) (by omega) kd n ns ks c names na nc w hV hnl hnm h
    · by_cases h1 : (d : Int) ≤ 1
      · exact tree_7 d hd kd n ns ks c names na nc w hV hnl h h1
      · have ih := Tree_any (d - 1) (by omega)
        exact tree_7r d (d - 1) (by omega) ih (by omega) (by omega) kd n ns ks c names na nc w hV hnl hnm h
    · by_cases h0 : names = []
      · exact tree_8n d hd kd n ns ks c names na nc w hV hnl h h0
      · by_cases h1 : (d : Int) ≤ 1
        · exact tree_8a d hd kd n ns ks c names na nc w hV hnl hnm h h0 h1
        · exact tree_8b d hd kd n ns ks c names na nc w hV hnl hnm h h0 h1
termination_by d => d
decreasing_by all_goals omega
end Sp
end Go.Proofs.Yteooafgdmpbjeab
namespace Go.Proofs.Yteooafgdmpbjeab
open Go.RowKit
namespace Sp
open Sc
def nm4 : List (List UInt8) := [[65], [66, 101, 101], [67, 97, 116], [68, 111, 103]]
def fn4 : List (List UInt8) := [[102, 97], [102, 98], [102, 99], [102, 100]]
/-- The names of the named types. -/
def namesR (types : List Rw) : List (List UInt8) := nm4.take types.length
def ntR (names : List (List UInt8)) (types : List Rw) (j : Nat) : List NT := (List.range j).map fun i => (names.getD i [], treeR names 5 (types.getD i default))
def parR (names : List (List UInt8)) (ks : List Rw) (k : Nat) : List Tz := (List.range k).map fun i => treeR names 4 (ks.getD i default)
def kidsR : Rw → List Rw | .mk _ _ _ ks => ks
def sgR (names : List (List UInt8)) (sigs : List Rw) (i : Nat) : Sg := ⟨fn4.getD i [], parR names (kidsR (sigs.getD i default)) (min (kidsR (sigs.getD i default)).length 3), treeR names 4 (sigs.getD i default)⟩
def sgsR (names : List (List UInt8)) (sigs : List Rw) (j : Nat) : List Sg := (List.range j).map fun i => sgR names sigs i
/-- What Schema answers. -/
def schR (main : Rw) (types sigs : List Rw) : Sz :=
  ⟨treeR (namesR types) 6 main, ntR (namesR types) types (namesR types).length, sgsR (namesR types) sigs (min sigs.length 4)⟩
theorem namesR_len (types : List Rw) : (namesR types).length = min types.length 4 := by unfold namesR nm4; simp
theorem ntR_succ (names : List (List UInt8)) (types : List Rw) (j : Nat) : ntR names types (j + 1) = ntR names types j ++ [(names.getD j [], treeR names 5 (types.getD j default))] := by simp [ntR, List.range_succ]
theorem parR_succ (names : List (List UInt8)) (ks : List Rw) (j : Nat) : parR names ks (j + 1) = parR names ks j ++ [treeR names 4 (ks.getD j default)] := by simp [parR, List.range_succ]
theorem sgsR_succ (names : List (List UInt8)) (sigs : List Rw) (j : Nat) : sgsR names sigs (j + 1) = sgsR names sigs j ++ [sgR names sigs j] := by simp [sgsR, List.range_succ]
theorem TzV.free {b : Nat} {X : List Nat} {vs : List Value} {w : World} {t : Tz} {c : C4} (h : TzV w (New b w) t c) (hX : ∀ x ∈ X, x < b) (hv : ∀ v ∈ vs, ∀ g, v.ownBlock = some g → g < b) : TzV w (Free w X vs) t c :=
  h.keep (fun g hg => ⟨hg.2, fun e => by have := hX g e; omega, fun v hm e => by have := hv v hm g e; omega⟩) (fun _ _ => rfl)
/-- What the append leaves. -/
structure AP (v0 : World) (base : Nat) (e : TypeId) (sz n : Nat) (xs new : List Value) (xv : Value) (v : World) (v' : Value) : Prop where
  own : v.ownsRow base e sz v' (n + 1) (xs ++ new)
  grown : (v0.alloc (.cells new.toArray e)).grownBy v xv.ownBlock
  fresh : ∀ g, v'.ownBlock = some g → xv.ownBlock = some g ∨ (v0.alloc (.cells new.toArray e)).heap.size ≤ g
/-- Memory by what has come up: the answer laid, appended, stored. -/
def AMs (v0 : World) (sb off base : Nat) (e : TypeId) (sz n : Nat) (xs new : List Value) (xv bs ap : Value) (v : World) : Bool → Bool → Bool → Prop
  | false, false, false => v = v0
  | true, false, false => v = v0.alloc (.cells new.toArray e) ∧ bs = .slice (some ⟨v0.heap.size, 0, none⟩) 1 1
  | true, true, false => AP v0 base e sz n xs new xv v ap
  | true, true, true => ∃ w3, AP v0 base e sz n xs new xv w3 ap ∧ v = w3.setCell ⟨sb, off, none⟩ ap
  | _, _, _ => False
structure AM (W0 : World) (sb off base : Nat) (e : TypeId) (sz n : Nat) (xs : List Value) (enc : C4 → List Value) (x : Tz) (xv : Value) (xc : C4) (bs ap : Value) (lc lb la ls : Bool) (v : World) : Prop where
  ex : ∃ v0 : World, Below W0.heap.size W0 v0 ∧ (lc = false → v0 = W0) ∧ (lc = true → TzV v0 (New W0.heap.size v0) x xc) ∧ AMs v0 sb off base e sz n xs (enc xc) xv bs ap v lb la ls
section
variable {W0 : World} {sb off base : Nat} {e : TypeId} {sz n : Nat} {xs : List Value} {enc : C4 → List Value} {x : Tz} {xv : Value} {xc xc' : C4} {bs ap bs' ap' : Value} {lc lb la ls : Bool} {v v' : World}
theorem AM.start : AM W0 sb off base e sz n xs enc x xv xc bs ap false false false false W0 := ⟨W0, Below.refl _ _, fun _ => rfl, (fun h => by cases h), rfl⟩
theorem AM.called (h : AM W0 sb off base e sz n xs enc x xv xc bs ap false false false false v) (hb : Below v.heap.size v v') (hV : TzV v' (New v.heap.size v') x xc') : AM W0 sb off base e sz n xs enc x xv xc' bs' ap' true false false false v' := by
  obtain ⟨v0, _, h1, _, h3⟩ := h.ex
  obtain rfl := h1 rfl
  obtain rfl : v = v0 := h3
  exact ⟨v', hb, (fun h => by cases h), fun _ => hV, rfl⟩
theorem AM.laid (h : AM W0 sb off base e sz n xs enc x xv xc bs ap true false false false v) : AM W0 sb off base e sz n xs enc x xv xc (.slice (some ⟨v.heap.size, 0, none⟩) 1 1) ap' true true false false (v.alloc (.cells (enc xc).toArray e)) := by
  obtain ⟨v0, h0, _, h2, h3⟩ := h.ex
  obtain rfl : v = v0 := h3
  exact ⟨v, h0, (fun h => by cases h), h2, rfl, rfl⟩
theorem AM.bs_at (h : AM W0 sb off base e sz n xs enc x xv xc bs ap true true false false v) : ∃ v0, Below W0.heap.size W0 v0 ∧ TzV v0 (New W0.heap.size v0) x xc ∧ v = v0.alloc (.cells (enc xc).toArray e) ∧ bs = .slice (some ⟨v0.heap.size, 0, none⟩) 1 1 := by
  obtain ⟨v0, h0, _, h2, h3⟩ := h.ex
  exact ⟨v0, h0, h2 rfl, h3.1, h3.2⟩
theorem AM.appended {v0 : World} (h0 : Below W0.heap.size W0 v0) (h2 : TzV v0 (New W0.heap.size v0) x xc) (hp : AP v0 base e sz n xs (enc xc) xv v' ap') : AM W0 sb off base e sz n xs enc x xv xc bs ap' true true true false v' :=
  ⟨v0, h0, (fun h => by cases h), fun _ => h2, hp⟩
theorem AM.stored (h : AM W0 sb off base e sz n xs enc x xv xc bs ap true true true false v) : AM W0 sb off base e sz n xs enc x xv xc bs ap true true true true (v.setCell ⟨sb, off, none⟩ ap) := by
  obtain ⟨v0, h0, _, h2, h3⟩ := h.ex
  exact ⟨v0, h0, (fun h => by cases h), h2, v, h3, rfl⟩
theorem AM.row_at (h : AM W0 sb off base e sz n xs enc x xv xc bs ap true true true false v) : ∃ a c, ap = .slice a (n + 1) c := by
  obtain ⟨v0, h0, _, h2, h3⟩ := h.ex
  exact own_sliceZ (AP.own h3)
/-- Blocks that were there stay. -/
theorem AM.far (h : AM W0 sb off base e sz n xs enc x xv xc bs ap lc lb la ls v) {g : Nat} (hg : g < W0.heap.size) (hx : xv.ownBlock ≠ some g) (hn : g ≠ sb ∨ ls = false) : v.heap[g]? = W0.heap[g]? := by
  obtain ⟨v0, h0, _, _, h3⟩ := h.ex
  have hs := h0.size
  have gr : ∀ {w3 : World} {y : Value}, AP v0 base e sz n xs (enc xc) xv w3 y → w3.heap[g]? = W0.heap[g]? := fun hp => ((hp.grown.block g (by simp; omega) (fun e => hx e.symm)).trans (Below.heap_alloc _ _ _ (by omega))).trans (h0.block g hg)
  match lb, la, ls, h3 with
  | false, false, false, h => rw [show v = v0 from h]; exact h0.block g hg
  | true, false, false, h => rw [show v = _ from h.1]; exact (Below.heap_alloc _ _ _ (by omega)).trans (h0.block g hg)
  | true, true, false, h => exact gr h
  | true, true, true, ⟨w3, hp, e⟩ =>
    rcases hn with hn | hn
    · rw [e, ← gr hp]
      exact ((Only.refl sb w3).setCell off _).block g (Nat.lt_of_lt_of_le (by simp; omega) hp.grown.size) (fun e => hn (by cases e; rfl))
    · cases hn
/-- Blocks that were there stay below, while nothing is stored. -/
theorem AM.below (h : AM W0 sb off base e sz n xs enc x xv xc bs ap lc false false false v) : Below W0.heap.size W0 v := by
  obtain ⟨v0, h0, _, _, h3⟩ := h.ex
  obtain rfl : v = v0 := h3
  exact h0
theorem AM.done (h : AM W0 sb off base e sz n xs enc x xv xc bs ap true true true true v) : ∃ v0 w3, Below W0.heap.size W0 v0 ∧ TzV v0 (New W0.heap.size v0) x xc ∧ AP v0 base e sz n xs (enc xc) xv w3 ap ∧ v = w3.setCell ⟨sb, off, none⟩ ap := by
  obtain ⟨v0, h0, _, h2, w3, h3, h4⟩ := h.ex
  exact ⟨v0, w3, h0, h2 rfl, h3, h4⟩
end
theorem row4_at {w : World} {l : List Rw} {a : Option Addr} {us : List R4} (h : RwsV w l a us) (j : Nat) (hj : j < l.length) : ∃ g o c, a = some ⟨g, o, none⟩ ∧ g < w.heap.size ∧ RwV w (l.getD j default) c ∧ (∀ W : World, W.heap[g]? = w.heap[g]? → W.cell? ⟨g, o + j * 4, none⟩ = some (.int .i64 c.k) ∧ W.cell? ⟨g, o + j * 4 + 1, none⟩ = some (.int .i64 c.n) ∧
      W.cell? ⟨g, o + j * 4 + 2, none⟩ = some (.slice c.an c.ln c.cn) ∧ W.cell? ⟨g, o + j * 4 + 3, none⟩ = some (.slice c.ak c.lk c.ck)) := by
  have hju : j < us.length := by rw [h.len]; exact hj
  obtain ⟨g, o, e, hg, hc⟩ := kid_at h.row j hju
  have hc := hc w (Below.refl _ _)
  refine ⟨g, o, us[j], e, hg, ?_, fun W hW => ?_⟩
  · rw [show l.getD j default = l[j] by simp [List.getD, hj]]
    exact h.val j hj hju
  · exact ⟨(World.cell?_of_block (a := ⟨g, o + j * 4, none⟩) hW).trans hc.1, (World.cell?_of_block (a := ⟨g, o + j * 4 + 1, none⟩) hW).trans hc.2.1, (World.cell?_of_block (a := ⟨g, o + j * 4 + 2, none⟩) hW).trans hc.2.2.1, (World.cell?_of_block (a := ⟨g, o + j * 4 + 3, none⟩) hW).trans hc.2.2.2⟩
/-- All but one block stay. -/
structure Kp (sb : Nat) (W wr : World) : Prop where
  size : W.heap.size ≤ wr.heap.size
  blk : ∀ g, g < W.heap.size → g ≠ sb → wr.heap[g]? = W.heap[g]?
theorem Kp.refl (sb : Nat) (W : World) : Kp sb W W := ⟨Nat.le_refl _, fun _ _ _ => rfl⟩
theorem Kp.below {sb : Nat} {W wr w' : World} (h : Kp sb W wr) (hb : Below wr.heap.size wr w') : Kp sb W w' :=
  ⟨Nat.le_trans h.size hb.size, fun g h1 h2 => (hb.block g (Nat.lt_of_lt_of_le h1 h.size)).trans (h.blk g h1 h2)⟩
theorem Kp.only {sb : Nat} {W wr w' : World} (h : Kp sb W wr) (ho : Only sb wr w') : Kp sb W w' :=
  ⟨Nat.le_trans h.size ho.size, fun g h1 h2 => (ho.block g (Nat.lt_of_lt_of_le h1 h.size) (fun e => h2 (by cases e; rfl))).trans (h.blk g h1 h2)⟩
theorem Kp.grown {sb : Nat} {W wr w' : World} {r : Option Nat} (h : Kp sb W wr) (hg : wr.grownBy w' r) (hr : ∀ g, r = some g → W.heap.size ≤ g) : Kp sb W w' :=
  ⟨Nat.le_trans h.size hg.size, fun g h1 h2 => (hg.block g (Nat.lt_of_lt_of_le h1 h.size) (fun e => by have := hr g e.symm; omega)).trans (h.blk g h1 h2)⟩
theorem AP.below {v0 v : World} {base : Nat} {e : TypeId} {sz n : Nat} {xs new : List Value} {xv v' : Value} {B : Nat} {w : World} (h : AP v0 base e sz n xs new xv v v') (hw : Below B w v0) (hB : ∀ g, xv.ownBlock = some g → B ≤ g) (hs : B ≤ v0.heap.size) : Below B w v :=
  (hw.alloc hs _).trans (below_grown h.grown hB (by simp; omega))
theorem AP.kp {v0 v : World} {base : Nat} {e : TypeId} {sz n : Nat} {xs new : List Value} {xv v' : Value} {sb : Nat} {W : World} (h : AP v0 base e sz n xs new xv v v') (hw : Kp sb W v0) (hB : ∀ g, xv.ownBlock = some g → W.heap.size ≤ g) : Kp sb W v :=
  (hw.below ((Below.refl _ _).alloc (Nat.le_refl _) _)).grown h.grown hB
theorem name_kp {w : World} {S : Nat → Prop} {a : Option Addr} {ns : List (List UInt8)} (h : RowV w S a 1 (ns.map fun n => [str n])) (j : Nat) (hj : j < ns.length) :
    ∃ g o, a = some ⟨g, o, none⟩ ∧ S g ∧ ∀ W : World, W.heap[g]? = w.heap[g]? → W.cell? ⟨g, o + j, none⟩ = some (.string ⟨(ns.getD j []).toArray⟩) := by
  rcases h with h | ⟨g, o, ha, hg, hc⟩
  · rw [List.map_eq_nil_iff.1 h] at hj; exact absurd hj (by simp)
  · refine ⟨g, o, ha, hg, fun W hW => ?_⟩
    have := hc j (by rw [List.length_map]; exact hj) 0 (str (ns.getD j [])) (by simp [List.getD, hj])
    rw [Nat.mul_one, Nat.add_zero] at this
    exact (World.cell?_of_block (a := ⟨g, o + j, none⟩) hW).trans this
/-- A schema that was made, in memory: its two rows are blocks of their own, made since z. -/
structure SchO (w : World) (z : Nat) (s : Sz) (c : C4) (v1 : Value) (us : List (List UInt8 × C4)) (v2 : Value) (gs : List (List UInt8 × G6)) : Prop where
  main : TzV w (Free w (List.range z) [v1, v2]) s.main c
  town : w.ownsRow z 120 5 v1 us.length (us.flatMap encZ)
  tlen : us.length = s.types.length
  tval : ∀ i (h : i < s.types.length) (h' : i < us.length), us[i].1 = s.types[i].1 ∧ TzV w (Free w (List.range z) [v1, v2]) s.types[i].2 us[i].2
  sown : w.ownsRow z 58 6 v2 gs.length (gs.flatMap encG)
  slen : gs.length = s.sigs.length
  sval : ∀ i (h : i < s.sigs.length) (h' : i < gs.length), SgV w (Free w (List.range z) [v1, v2]) s.sigs[i] gs[i]
  ap : ApartV v1 v2
/-- What a call of Schema leaves. -/
def SchP (s : Sz) (w : World) (e : Ending) (w' : World) : Prop := ∃ (c : C4) (a1 : Option Addr) (n1 : Nat) (us : List (List UInt8 × C4)) (a2 : Option Addr) (n2 : Nat) (gs : List (List UInt8 × G6)),
  e = .returned (.agg #[.int .i64 c.k, .string c.n, .slice c.an c.ln c.cn, .slice c.ak c.lk c.ck, .slice a1 s.types.length n1, .slice a2 s.sigs.length n2]) ∧ SchO w' w.heap.size s c (.slice a1 s.types.length n1) us (.slice a2 s.sigs.length n2) gs ∧ Below w.heap.size w w'
end Sp
end Go.Proofs.Yteooafgdmpbjeab
