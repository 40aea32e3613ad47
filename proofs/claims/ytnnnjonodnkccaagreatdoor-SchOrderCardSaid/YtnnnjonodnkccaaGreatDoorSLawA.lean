/- What the laws of chapter 3 share: within, known. -/
import Derived.Test.YtnnnjonodnkccaaGreatDoorSWhole
import Derived.Test.YtnnnjonodnkccaaGreatDoorSWrC
import Derived.KernelRfl
namespace Go.Proofs.YtnnnjonodnkccaaGreatDoor
open Go.RowKit
namespace Sh
open Sc

set_option maxHeartbeats 400000 in
/-- within: the remainder from 0 on. -/
theorem within_any (a n : Int) (w : World) (hn : 0 < n) (hn2 : n ≤ 1000000) (h1 : -9223372036854775808 ≤ a) (h2 : a ≤ 9223372036854775807) :
    Calls Tryz.prog 8 #[.int .i64 a, .int .i64 n] w fun e w' => e = .returned (.int .i64 (a % n)) ∧ w = w' := by
  have hb1 := Int.emod_nonneg a (show n ≠ 0 by omega)
  have hb2 := Int.emod_lt_of_pos a hn
  by_cases h0 : 0 ≤ a
  · go_enter Tryz.func8, Tryz.ntmps8
    go_wp2
    go_ret
    exact ⟨rfl, rfl⟩
  · have ht : a.tmod n = a % n - if 0 ≤ a ∨ n ∣ a then 0 else (n.natAbs : Int) := by rw [Int.tmod_eq_emod]; split <;> rfl
    by_cases hd : n ∣ a
    · have e0 : a % n = 0 := Int.emod_eq_zero_of_dvd hd
      rw [if_pos (Or.inr hd), e0] at ht
      rw [e0]
      clear hd e0
      have l1 : 0 ≤ a.tmod n := by omega
      have l2 : a.tmod n ≤ 0 := by omega
      clear hb1 hb2
      have HT := Lib.hid ht; clear ht
      go_enter Tryz.func8, Tryz.ntmps8
      go_wp2
      go_ret
      exact ⟨ret_int (by have := HT.out; omega), rfl⟩
    · rw [if_neg (fun h => h.elim h0 hd)] at ht
      have e0 : 0 < a % n := by
        rcases Int.lt_or_eq_of_le hb1 with h | h
        · exact h
        · exact absurd (Int.dvd_of_emod_eq_zero h.symm) hd
      have l1 : a.tmod n < 0 := by omega
      have l2 : -n < a.tmod n := by omega
      have l3 : a.tmod n + n = a % n := by omega
      clear hb1 hb2 ht hd e0
      have HT := Lib.hid l3; clear l3
      go_enter Tryz.func8, Tryz.ntmps8
      go_wp2
      go_ret
      exact ⟨ret_int (by have := HT.out; omega), rfl⟩


/-- The three tables. -/
structure Tab3 (w : World) : Prop where
  two : Tabs w
  look : LookTab w
theorem Tab3.below {w w' : World} (h : Tab3 w) (hb : Below w.heap.size w w') : Tab3 w' := ⟨h.two.below hb, h.look.below hb⟩

def kn : List UInt8 := [123, 98, 58, 32, 73, 110, 116, 44, 32, 97, 58, 32, 84, 101, 120, 116, 125]
def knT : Ty := .mk 7 [] [[97], [98]] [.mk 3 [] [] [], .mk 2 [] [] []]
theorem kn_type : typeL kn = (knT, 0) := by kernel_rfl
theorem kn_text : textT knT = [123, 97, 58, 32, 84, 101, 120, 116, 44, 32, 98, 58, 32, 73, 110, 116, 125] := by kernel_rfl

set_option maxHeartbeats 800000 in
theorem known_any (w : World) (hT : Tab3 w) :
    Calls Tryz.prog 6 #[] w fun e w' => e = .returned (.bool true) ∧ Below w.heap.size w w' := by
  have c1 := Type_any ⟨#[123, 98, 58, 32, 73, 110, 116, 44, 32, 97, 58, 32, 84, 101, 120, 116, 125]⟩ w (by decide) hT.two hT.look
  rw [show (⟨#[123, 98, 58, 32, 73, 110, 116, 44, 32, 97, 58, 32, 84, 101, 120, 116, 125]⟩ : ByteArray).data.toList = kn from rfl, kn_type] at c1
  have c2 := fun (w : World) (c : C4) (S : Nat → Prop) hv hS hL => TypeText_any knT (by kernel_rfl) (by decide) w c S hv hS hL (by rw [kn_text]; decide) (by rw [kn_text]; decide)
  rw [kn_text] at c2
  have C1 := Lib.hid c1; have C2 := Lib.hid c2; have HT := Lib.hid hT
  clear c1 c2 hT
  go_enter Tryz.func6, Tryz.ntmps6
  go_wp2_with (first
    | (go_at_call 9; (refine C1.out.mono ?_); rintro e w1 ⟨c, rfl, b1, hv⟩; obtain ⟨kd, nm, an, ln, cn, ak, lk, ck⟩ := c; have hb2 := b1.alloc b1.size (.cells #[.int .i64 kd, .string nm, .slice an ln cn, .slice ak lk ck] 29); have D2 := Lib.hid (C2.out (w1.alloc (.cells #[.int .i64 kd, .string nm, .slice an ln cn, .slice ak lk ck] 29)) ⟨kd, nm, an, ln, cn, ak, lk, ck⟩ (Span w.heap.size w1.heap.size) (hv.keep (fun _ h => h) (fun g hg => Below.heap_alloc _ _ _ hg.2)) (fun g hg => by simp; exact Nat.lt_succ_of_lt hg.2) (HT.out.look.below hb2)); have B2 := Lib.hid hb2; clear b1 hv hb2; simp only [C4.val])
    | (go_at_call 14; (refine D2.out.mono ?_); rintro e w2 ⟨rfl, b2⟩; have B3 := Lib.hid (B2.out.trans (b2.mono B2.out.size)); clear b2))
  go_ret
  exact ⟨rfl, B3.out⟩
end Sh
end Go.Proofs.YtnnnjonodnkccaaGreatDoor
