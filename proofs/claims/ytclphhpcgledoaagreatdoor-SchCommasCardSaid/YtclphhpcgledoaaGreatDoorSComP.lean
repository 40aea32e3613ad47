/- SchCommas: its rows, and what is read of them. No program is named here. -/
import Derived.Test.YtclphhpcgledoaaGreatDoorSPure
import Derived.KernelRfl
namespace Go.Proofs.YtclphhpcgledoaaGreatDoor
namespace Sh
open Sc

/-- So many names with a type, commas between. -/
def comS : Nat → List UInt8
  | 0 => []
  | k + 1 => comS k ++ (if k = 0 then [] else [44, 32]) ++ [UInt8.ofNat (97 + k)] ++ [58, 32, 76, 105, 115, 116, 60, 73, 110, 116, 62]

def comRows (s : List UInt8) : List (List UInt8) :=
  [[123] ++ s ++ [125], [123] ++ s ++ [44, 125], [123, 44] ++ s ++ [125], [123] ++ s, s ++ [125], [123] ++ s ++ [125, 125], [123] ++ s ++ [32, 122, 58, 32, 73, 110, 116, 125], [123] ++ s ++ [44, 32, 122, 125],
   [123] ++ s ++ [44, 32, 122, 58, 125], [123] ++ s ++ [44, 32, 122, 58, 32, 76, 105, 115, 116, 60, 73, 110, 116, 125], [123] ++ s ++ [44, 32, 122, 58, 32, 76, 105, 115, 116, 32, 73, 110, 116, 125],
   [85, 110, 105, 111, 110, 32] ++ s, [85, 110, 105, 111, 110, 32, 123] ++ s ++ [125]]

def namesOf : Ty → Nat
  | .any => 1000
  | .mk _ _ ns _ => ns.length

def comOk (n k : Nat) : Bool :=
  let x := typeL ((comRows (comS n)).getD k [])
  if k = 0 ∨ k = 12 then decide (x.2 = 0) && decide (namesOf x.1 = n) else decide (x.2 = 12) && decide (namesOf x.1 = 0)

theorem com1 : (List.range 13).all (comOk 1) = true := by kernel_rfl
theorem com2 : (List.range 13).all (comOk 2) = true := by kernel_rfl
theorem com3 : (List.range 13).all (comOk 3) = true := by kernel_rfl
theorem com4 : (List.range 13).all (comOk 4) = true := by kernel_rfl
theorem com5 : (List.range 13).all (comOk 5) = true := by kernel_rfl
theorem com6 : (List.range 13).all (comOk 6) = true := by kernel_rfl
theorem com_all (n k : Nat) (h1 : 1 ≤ n) (h6 : n ≤ 6) (hk : k < 13) : comOk n k = true := by
  have hm : k ∈ List.range 13 := List.mem_range.2 hk
  match n, h1, h6 with
  | 1, _, _ => exact List.all_eq_true.1 com1 k hm
  | 2, _, _ => exact List.all_eq_true.1 com2 k hm
  | 3, _, _ => exact List.all_eq_true.1 com3 k hm
  | 4, _, _ => exact List.all_eq_true.1 com4 k hm
  | 5, _, _ => exact List.all_eq_true.1 com5 k hm
  | 6, _, _ => exact List.all_eq_true.1 com6 k hm
  | n + 7, _, h => exact absurd h (by omega)
theorem comS_len (n : Nat) : (comS n).length ≤ n * 20 := by
  induction n with
  | zero => simp [comS]
  | succ n ih => unfold comS; simp only [List.length_append, List.length_cons, List.length_nil]; split <;> simp <;> omega
end Sh
end Go.Proofs.YtclphhpcgledoaaGreatDoor
