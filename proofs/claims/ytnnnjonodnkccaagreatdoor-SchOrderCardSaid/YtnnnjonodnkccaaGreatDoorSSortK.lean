/- A row of structs that the library's sort has gone over: what lies in it, what else is as it was. -/
import Derived.Test.YtnnnjonodnkccaaGreatDoorSMem
import Derived.Test.YtnnnjonodnkccaaGreatDoorShelf
import Derived.Shelf.SlSortCmp.WholeK
import Derived.Shelf.SlSortCmp.NoneTotal
namespace Go.Proofs.YtnnnjonodnkccaaGreatDoor
open Go.RowKit Go.Sort Go.Lib
namespace Sh
open Sc

theorem flat_len {α : Type} (enc : α → List Value) (k : Nat) (hk : ∀ x, (enc x).length = k) (l : List α) : (l.flatMap enc).length = l.length * k := by
  induction l with
  | nil => simp
  | cons x l ih => rw [List.flatMap_cons, List.length_append, ih, hk, List.length_cons, Nat.succ_mul]; omega
theorem get_bang (x : List Value) (j : Nat) (h : j < x.length) : x[j]? = some x[j]! := by rw [List.getElem?_eq_getElem h, getElem!_pos x _ h]

section
variable {α : Type} [Inhabited α] (enc : α → List Value) (k : Nat)

theorem flat_get (hk : ∀ x, (enc x).length = k) : ∀ (l : List α) (i c : Nat), i < l.length → c < k → (l.flatMap enc)[i * k + c]? = (enc l[i]!)[c]? := by
  intro l
  induction l with
  | nil => intro i c hi; simp at hi
  | cons x l ih =>
    intro i c hi hc
    rw [List.flatMap_cons]
    cases i with
    | zero => rw [List.getElem?_append_left (by rw [hk]; omega)]; simp
    | succ i =>
      rw [List.getElem?_append_right (by rw [hk, Nat.succ_mul]; omega), hk, show (i + 1) * k + c - k = i * k + c by rw [Nat.succ_mul]; omega, ih i c (by simpa using hi) hc]
      simp

/-- A row that is owned is one that the sort may go over. -/
theorem holds_own (hk0 : 0 < k) (hk : ∀ x, (enc x).length = k) {w : World} {base : Nat} {e : TypeId} {g cap : Nat} {l : List α} (h : w.ownsRow base e k (.slice (some ⟨g, 0, none⟩) l.length cap) l.length (l.flatMap enc)) :
    HoldsK enc k w g 0 l.toArray := by
  intro j hj
  have hj' : j < l.length * k := by simpa [flatK] using hj
  have hd : j / k < l.length := (Nat.div_lt_iff_lt_mul hk0).2 hj'
  have hm : j % k < k := Nat.mod_lt _ hk0
  have hb : w.frozen? ⟨g, 0 + j, none⟩ = false ∧ w.cell? ⟨g, 0 + j, none⟩ = (l.flatMap enc)[j]? := by
    rw [Nat.zero_add]
    refine ⟨?_, h.cellAt j hj'⟩
    rcases h.2 with ⟨hv, _⟩ | ⟨g', cap', cur, hv, _, hg, _⟩
    · cases hv
    · cases hv; simp [World.frozen?, hg]
  refine ⟨?_, hb.1⟩
  rw [hb.2]
  have e1 := flat_get enc k hk l (j / k) (j % k) hd hm
  rw [Nat.div_add_mod'] at e1
  rw [e1, get_flatK enc k _ j (by simpa using hj')]
  have hlen := hk l[j / k]!
  rw [get_bang _ _ (by omega)]
  have e3 : l.toArray[j / k]! = l[j / k]! := by simp
  rw [e3]; rfl

theorem sort_blk (w : World) (g m : Nat) (d : Array α) (os : Array Obj) (b : Nat) (hb : b < w.heap.size) (hn : b ≠ g) : (sortWorldK enc k w g 0 m d os).heap[b]? = w.heap[b]? := by
  unfold sortWorldK
  rw [heap_grow_old _ _ (by rw [size_putRowK]; exact hb)]
  unfold putRowK putRow mapBlock
  simp only [Array.getElem?_modify]
  rw [if_neg (fun e => hn e.symm)]
  rfl
theorem sort_grown (w : World) (g m : Nat) (d : Array α) (os : Array Obj) : w.grownBy (sortWorldK enc k w g 0 m d os) (some g) :=
  ⟨rfl, rfl, rfl, size_sortWorldK_c enc k w g 0 m d os, fun b hb hn => sort_blk enc k w g m d os b hb (fun e => hn (by rw [e]))⟩

theorem sort_own (hk0 : 0 < k) (hk : ∀ x, (enc x).length = k) {w : World} {base : Nat} {e : TypeId} {g cap : Nat} {l : List α} (h : w.ownsRow base e k (.slice (some ⟨g, 0, none⟩) l.length cap) l.length (l.flatMap enc))
    (m : Nat) (d : Array α) (os : Array Obj) (hd : d.size = l.length) :
    (sortWorldK enc k w g 0 m d os).ownsRow base e k (.slice (some ⟨g, 0, none⟩) l.length cap) l.length (d.toList.flatMap enc) := by
  refine ⟨by rw [flat_len enc k hk]; simp [hd], ?_⟩
  rcases h.2 with ⟨hv, _⟩ | ⟨g', cap', cur, hv, hb, hg, hc1, hc2, hs, ht⟩
  · cases hv
  · cases hv
    have hlt : g < w.heap.size := (Array.getElem?_eq_some_iff.1 hg).1
    refine .inr ⟨g, cap, putCells id 0 (flatK enc k d) cur, rfl, hb, ?_, hc1, hc2, ?_, ?_⟩
    · unfold sortWorldK
      rw [heap_grow_old _ _ (by rw [size_putRowK]; exact hlt)]
      unfold putRowK putRow mapBlock
      simp only [Array.getElem?_modify, if_true]
      show Option.map _ (w.heap[g]?) = _
      rw [hg]; rfl
    · simp [putCells, hs]
    · apply List.ext_getElem?
      intro j
      have hfl : (flatK enc k d).size = l.length * k := by simp [flatK, hd]
      have hcs : l.length * k ≤ cur.size := by rw [hs]; exact Nat.mul_le_mul_right _ hc1
      by_cases hj : j < l.length * k
      · have hd1 : j / k < l.length := (Nat.div_lt_iff_lt_mul hk0).2 hj
        have hm : j % k < k := Nat.mod_lt _ hk0
        have e1 := flat_get enc k hk d.toList (j / k) (j % k) (by simpa [hd] using hd1) hm
        rw [Nat.div_add_mod'] at e1
        rw [e1, List.getElem?_take_of_lt hj]
        have hlen := hk d[j / k]!
        rw [Array.getElem?_toList]
        unfold putCells
        rw [Array.getElem?_mapIdx, Array.getElem?_eq_getElem (by omega), Option.map_some, if_pos ⟨Nat.zero_le _, by rw [hfl]; omega⟩, Nat.sub_zero, get_flatK enc k _ j (by rw [hd]; exact hj)]
        have e2 : d.toList[j / k]! = d[j / k]! := by rw [getElem!_pos d.toList _ (by simpa [hd] using hd1), getElem!_pos d _ (by omega)]; simp
        rw [e2, get_bang _ _ (by omega)]
        rfl
      · rw [List.getElem?_eq_none (by rw [List.length_take]; omega), List.getElem?_eq_none (by rw [flat_len enc k hk]; simp [hd]; omega)]

theorem perm_list {l : List α} {d : Array α} (h : PermIn 0 l.toArray.size l.toArray d) : d.toList.Perm l := by
  obtain ⟨h1, _, h3⟩ := h
  simp only [List.size_toArray] at h1 h3
  have e1 : d.extract 0 l.length = d := by rw [← h1]; exact Array.extract_size
  have e2 : l.toArray.extract 0 l.length = l.toArray := by rw [show l.length = l.toArray.size by simp]; exact Array.extract_size
  rw [e1, e2] at h3
  simpa using h3
end

theorem two_grow (W : World) (o1 o2 : Obj) (n : Nat) (os : Array Obj) : grow (((W.alloc o1).alloc o2).drewN n) os = grow (W.drewN n) (#[o1] ++ #[o2] ++ os) := by
  rw [alloc_eq_grow, alloc_eq_grow, grow_grow]
  exact grow_grow (W.drewN n) _ _

theorem below_grow (w : World) (n : Nat) (os : Array Obj) : Below w.heap.size w (grow (w.drewN n) os) :=
  ⟨rfl, rfl, rfl, by simp [grow], fun k hk => heap_grow_old (w.drewN n) os hk⟩

/-- By names. -/
def nameCmp {β : Type} (x y : List UInt8 × β) : Int := Lib.compareBytes x.1 y.1
theorem nameCmp_lt {β : Type} (x y : List UInt8 × β) : ltOf nameCmp x y = lessB x.1 y.1 := rfl
theorem nameCmp_swo {β : Type} [Inhabited β] : SWO (ltOf (nameCmp (β := β))) where
  irrefl x := lessB_irrefl x.1
  trans _ _ _ h1 h2 := lessB_trans h1 h2
  ntrans _ _ _ h1 h2 := lessB_ntrans h1 h2

theorem rises_list {β : Type} [Inhabited β] {n : Nat} {d : Array (List UInt8 × β)} (hs : d.size = n) (h : SortedIn (ltOf nameCmp) 0 n d) : Rises d.toList := by
  unfold Rises
  rw [List.pairwise_iff_getElem]
  intro i j hi hj hij
  have := h i j (Nat.zero_le _) hij (by rw [← hs]; simpa using hj)
  rw [nameCmp_lt] at this
  simp only [Array.length_toList] at hi hj
  rw [getElem!_pos d j hj, getElem!_pos d i hi] at this
  simpa using this
end Sh
end Go.Proofs.YtnnnjonodnkccaaGreatDoor
