/- sortNames at api.Named: the row is sorted by names, a name twice is noted; nothing else that was there turns. -/
import Derived.Test.YtnnnjonodnkccaaGreatDoorSRdB
import Derived.Test.YtnnnjonodnkccaaGreatDoorSSortK
namespace Go.Proofs.YtnnnjonodnkccaaGreatDoor
open Go.RowKit Go.Sort Go.Lib Go.Shelf
namespace Sh
open Sc

def encN (x : List UInt8 × (C4 × Ty)) : List Value := str x.1 :: x.2.1.cells
instance : Inhabited Ty := ⟨.any⟩

theorem encN_len (x : List UInt8 × (C4 × Ty)) : (encN x).length = 5 := rfl
theorem encN_one (x : List UInt8 × (C4 × Ty)) : ∀ v ∈ encN x, v.oneCell' = true := by
  intro v hv; simp [encN, C4.cells, str] at hv; rcases hv with rfl | rfl | rfl | rfl | rfl <;> rfl

/-- A function that tells a thing's name. -/
def KeyN (f : Nat) : Prop := ∀ (x : List UInt8 × (C4 × Ty)) (W : World), Calls Tryz.prog f #[.agg (encN x).toArray] W fun e w' => e = .returned (str x.1) ∧ ∃ q os, w' = grow (W.drewN q) os

theorem key_schema1 : KeyN 35 := by
  intro x W
  obtain ⟨n, ⟨kd, nm, an, ln, cn, ak, lk, ck⟩, t⟩ := x
  unfold str encN C4.cells str
  go_enter Tryz.func35, Tryz.ntmps35
  go_wp2
  go_ret
  exact ⟨rfl, 0, _, by rw [alloc_eq_grow]; rfl⟩

theorem key_record2 : KeyN 69 := by
  intro x W
  obtain ⟨n, ⟨kd, nm, an, ln, cn, ak, lk, ck⟩, t⟩ := x
  unfold str encN C4.cells str
  go_enter Tryz.func69, Tryz.ntmps69
  go_wp2
  go_ret
  exact ⟨rfl, 0, _, by rw [alloc_eq_grow]; rfl⟩

theorem addr_addN (b j : Nat) : (⟨b, 0, none⟩ : Addr).add j = ⟨b, j, none⟩ := by unfold Addr.add; split <;> simp_all
theorem cells_newN (W : World) (x : List UInt8 × (C4 × Ty)) (t : TypeId) (n : Nat) (os : Array Obj) : ∀ (j : Nat) (u : Value), (encN x)[j]? = some u → (grow ((W.alloc (.cells (encN x).toArray t)).drewN n) os).cell? ((⟨W.heap.size, 0, none⟩ : Addr).add j) = some u := by
  intro j u h
  rw [cell?_grow _ _ _ (by show _ < (W.alloc _).heap.size; unfold Addr.add; split <;> simp)]
  show (W.alloc _).cell? _ = _
  match j, h with
  | 0, h => simp [encN, C4.cells] at h; subst h; simp [Addr.add, encN, C4.cells]
  | 1, h => simp [encN, C4.cells] at h; subst h; simp [Addr.add, encN, C4.cells]
  | 2, h => simp [encN, C4.cells] at h; subst h; simp [Addr.add, encN, C4.cells]
  | 3, h => simp [encN, C4.cells] at h; subst h; simp [Addr.add, encN, C4.cells]
  | 4, h => simp [encN, C4.cells] at h; subst h; simp [Addr.add, encN, C4.cells]
  | j + 5, h => simp [encN, C4.cells] at h

set_option maxRecDepth 100000 in
set_option maxHeartbeats 1000000 in
/-- The comparison: by names. -/
theorem cmpN (f B : Nat) (ef : ∀ args w, (callFunc f args).run Tryz.prog w = .ok (.enter f args) w) (hK : KeyN f) (x y : List UInt8 × (C4 × Ty)) (W : World) (hB : B < W.heap.size) (hc : W.cell? ⟨B, 0, none⟩ = some (.func (.func f) #[] #[])) :
    Calls Tryz.prog 52 #[.agg (encN x).toArray, .agg (encN y).toArray, .pointer (some ⟨B, 0, none⟩)] W fun e w' => e = .returned (.int .i64 (Lib.compareBytes x.1 y.1)) ∧ ∃ q os, w' = grow (W.drewN q) os := by
  have kx := fun (W : World) n os => Calls.grown_of (w := W) (n := n) (os := os) (hK x (grow (W.drewN n) os))
  have ky := fun (W : World) n os => Calls.grown_of (w := W) (n := n) (os := os) (hK y (grow (W.drewN n) os))
  have kc := fun (W : World) n os => Calls.grown_of (w := W) (n := n) (os := os) ((Tryz.strings_Compare ⟨x.1.toArray⟩ ⟨y.1.toArray⟩ (grow (W.drewN n) os)).mono fun e w' ⟨he, hw⟩ => ⟨he, 0, #[], by rw [hw, grow_empty]; rfl⟩)
  have gx : ∀ n os j u, (encN x)[j]? = some u → (grow ((((W.alloc (.cells (encN x).toArray 59)).alloc (.cells (encN y).toArray 59))).drewN n) os).cell? ⟨W.heap.size, j, none⟩ = some u := fun n os j u hu => by
    have := cells_newN W x 59 n (#[.cells (encN y).toArray 59] ++ os) j u hu
    rw [← grow_grow, addr_addN] at this
    rw [alloc_eq_grow (W.alloc _)]
    exact this
  have gy : ∀ n os j u, (encN y)[j]? = some u → (grow ((((W.alloc (.cells (encN x).toArray 59)).alloc (.cells (encN y).toArray 59))).drewN n) os).cell? ⟨W.heap.size + 1, j, none⟩ = some u := fun n os j u hu => by
    have := cells_newN (W.alloc (.cells (encN x).toArray 59)) y 59 n os j u hu
    rw [show (W.alloc (.cells (encN x).toArray 59)).heap.size = W.heap.size + 1 by simp, addr_addN] at this
    exact this
  have gx0 := fun n os => gx n os 0 _ rfl
  have gx1 := fun n os => gx n os 1 _ rfl
  have gx2 := fun n os => gx n os 2 _ rfl
  have gx3 := fun n os => gx n os 3 _ rfl
  have gx4 := fun n os => gx n os 4 _ rfl
  have gy0 := fun n os => gy n os 0 _ rfl
  have gy1 := fun n os => gy n os 1 _ rfl
  have gy2 := fun n os => gy n os 2 _ rfl
  have gy3 := fun n os => gy n os 3 _ rfl
  have gy4 := fun n os => gy n os 4 _ rfl
  clear gx gy
  have hf : ∀ n os, (grow ((((W.alloc (.cells (encN x).toArray 59)).alloc (.cells (encN y).toArray 59))).drewN n) os).cell? ⟨B, 0, none⟩ = some (.func (.func f) #[] #[]) := fun n os => by
    refine cell_grown (by simp; omega) ?_ n os
    rw [World.cell?_alloc_past _ _ _ (by simp; omega), World.cell?_alloc_past _ _ _ (by simpa using hB)]; exact hc
  have hr : Lib.compareBytes (⟨x.1.toArray⟩ : ByteArray).data.toList (⟨y.1.toArray⟩ : ByteArray).data.toList = Lib.compareBytes x.1 y.1 := rfl
  rw [hr] at kc
  clear hr
  generalize Lib.compareBytes x.1 y.1 = r at *
  obtain ⟨n, ⟨kd, nm, an, ln, cn, ak, lk, ck⟩, t⟩ := x
  obtain ⟨n2, ⟨kd2, nm2, an2, ln2, cn2, ak2, lk2, ck2⟩, t2⟩ := y
  simp only [encN, C4.cells, str] at *
  have KX := Lib.hid kx; have KY := Lib.hid ky; have KC := Lib.hid kc
  clear kx ky kc hK hc
  go_enter Tryz.func52, Tryz.ntmps52
  go_wp2_with fail
  generalize hwq : (W.alloc _).alloc _ = wq at gx0 gx1 gx2 gx3 gx4 gy0 gy1 gy2 gy3 gy4 hf ⊢
  have KX := KX.out wq; have KY := KY.out wq; have KC := KC.out wq
  have mixed : Tryz.prog.follows .mixedOrders = true := by kernel_rfl
  go_quiet_grown (first | (go_at_fn f; first | exact KX _ _ | exact KY _ _) | (go_at_call 53; exact KC _ _))
  subst hwq
  go_wp2_with fail
  go_ret
  exact ⟨rfl, nq, _, two_grow _ _ _ _ _⟩

/-- What the sort leaves: the row by names; nothing else that was there turns. -/
def SortPostN (W : World) (base : Nat) (v : Value) (l : List (List UInt8 × (C4 × Ty))) (e : Ending) (w' : World) : Prop :=
  e = .returned (.tuple #[]) ∧ ∃ l' : List (List UInt8 × (C4 × Ty)), l'.Perm l ∧ Rises l' ∧ w'.ownsRow base 59 5 v l.length (l'.flatMap encN) ∧ W.grownBy w' v.ownBlock

theorem sortFuncN (f B : Nat) (ef : ∀ args w, (callFunc f args).run Tryz.prog w = .ok (.enter f args) w) (hK : KeyN f) (base : Nat) (v : Value) (l : List (List UInt8 × (C4 × Ty))) (W : World) (hB : B < W.heap.size)
    (hc : W.cell? ⟨B, 0, none⟩ = some (.func (.func f) #[] #[])) (hown : W.ownsRow base 59 5 v l.length (l.flatMap encN)) (hl : l.length ≤ 1000000) (hv : v.ownBlock ≠ some B) :
    Calls Tryz.prog 51 #[v, .func (.func 52) #[] #[.pointer (some ⟨B, 0, none⟩)]] W (SortPostN W base v l) := by
  have hrow := hown
  rcases hown.2 with ⟨rfl, h0⟩ | ⟨g, cap, cur, rfl, hb, hg, _⟩
  · obtain rfl := List.eq_nil_of_length_eq_zero h0
    have hcon := AnyF.slices_SortFunc_none Tryz.sortNamed none 0 (.func (.func 52) #[] #[.pointer (some ⟨B, 0, none⟩)]) W
    change Calls Tryz.prog 51 _ _ _ at hcon
    refine hcon.mono ?_
    rintro e w' ⟨rfl, rfl⟩
    exact ⟨rfl, [], List.Perm.refl _, List.Pairwise.nil, hrow, ⟨rfl, rfl, rfl, Nat.le_refl _, fun _ _ _ => rfl⟩⟩
  · have hlt : g < W.heap.size := (Array.getElem?_eq_some_iff.1 hg).1
    have hne : B ≠ g := fun e => hv (by rw [e]; rfl)
    have eg : ∀ args w, (callFunc 52 args).run Tryz.prog w = .ok (.enter 52 args) w := enters_of Tryz.func52 (by kernel_rfl) rfl
    have hcmp : CmpLays Tryz.prog 52 #[.pointer (some ⟨B, 0, none⟩)] encN 5 nameCmp g 0 l.toArray.size W := fun m os dk hdk x y => by
      refine cmpN f B ef hK x y _ (Nat.lt_of_lt_of_le hB (size_sortWorldK_c encN 5 W g 0 m dk os)) ?_
      rw [World.cell?_of_block (a := ⟨B, 0, none⟩) (sort_blk encN 5 W g m dk os B hB hne)]; exact hc
    have hcon := AnyQ.slices_SortFunc Tryz.sortNamed 5 (fun w => by kernel_rfl) (fun w => by kernel_rfl) encN encN_len encN_one nameCmp nameCmp_swo 52 #[.pointer (some ⟨B, 0, none⟩)] g 0 cap l.toArray W eg hcmp
      (holds_own encN 5 (by decide) encN_len hrow) hlt (by simp; omega)
    change Calls Tryz.prog 51 _ _ _ at hcon
    refine hcon.mono ?_
    rintro e w' ⟨rfl, d', n, os, hp, hs, rfl⟩
    have hd : d'.size = l.length := hp.1
    exact ⟨rfl, d'.toList, perm_list hp, rises_list hd hs, sort_own encN 5 (by decide) encN_len hrow n d' os hd, sort_grown encN 5 W g n d' os⟩

end Sh
end Go.Proofs.YtnnnjonodnkccaaGreatDoor
