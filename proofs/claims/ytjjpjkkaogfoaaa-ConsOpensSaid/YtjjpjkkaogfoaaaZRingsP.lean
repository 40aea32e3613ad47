/- ShapeRings' walk. -/
import Derived.Test.YtjjpjkkaogfoaaaZOpts
namespace Go.Proofs.Ytjjpjkkaogfoaaa
open Go.RowKit
namespace Sp
open Sc

def lower (k : Nat) : UInt8 := UInt8.ofNat (97 + k)
theorem lower_is (k : Nat) (h : k < 100) : (97 + (k : Int)) = ((lower k).toNat : Int) := by unfold lower; rw [UInt8.toNat_ofNat']; omega
theorem conv_atZ (z : Int) (c : UInt8) (h : z = (c.toNat : Int)) (w : World) (g : Nat) (hg : g = w.heap.size) : (convert 72 9 (.slice (some ⟨g, 0, none⟩) 1 1)).run Try.prog (w.alloc (.cells #[.int .u8 z] 5)) = .ok (.string ⟨#[c]⟩) (w.alloc (.cells #[.int .u8 z] 5)) := hg ▸ conv_oneZ w z c h
theorem catN (c : UInt8) : (⟨#[78]⟩ : ByteArray) ++ ⟨#[c]⟩ = ⟨#[78, c]⟩ := by
  apply ByteArray.ext
  simp [ByteArray.data_append]
def ringT (n a q k : Nat) : Tz :=
  if k = a then
    (match q with
    | 1 => .mk 4 [] [] [zN [78, lower ((k + 1) % n)]]
    | 2 => .mk 7 [] [[120]] [.mk 6 [] [] [zN [78, lower ((k + 1) % n)]]]
    | 3 => .mk 8 [] [[120], [121]] [zN [78, lower ((k + 1) % n)], zI]
    | 4 => .mk 8 [] [[120]] [zN [78, lower ((k + 1) % n)]]
    | 5 => .mk 5 [] [] [zN [78, lower ((k + 1) % n)]]
    | 6 => zN [78, lower ((k + 1) % n)]
    | _ => .mk 7 [] [[120]] [zN [78, lower ((k + 1) % n)]])
  else .mk 7 [] [[120]] [zN [78, lower ((k + 1) % n)]]
def ringL (n a q k : Nat) : List NT := (List.range k).map fun i => ([78, lower i], ringT n a q i)
theorem ringL_succ (n a q k : Nat) : ringL n a q (k + 1) = ringL n a q k ++ [([78, lower k], ringT n a q k)] := by simp [ringL, List.range_succ]
def ringE (q : Nat) : Int := if q = 0 ∨ q = 4 ∨ q = 6 then 14 else 0
theorem ring_all : (List.range 7).all (fun n => (List.range n).all fun a => (List.range 7).all fun q => fitS ⟨zN [78, 97], ringL n a q n, []⟩ && decide ((checkZ ⟨zN [78, 97], ringL n a q n, []⟩).map Int.ofNat = some (ringE q)) && (finiteZ ⟨zN [78, 97], ringL n a q n, []⟩ (zN [78, 97]) == decide (ringE q = 0))) = true := by kernel_rfl
theorem ring_is {n a q : Nat} (hn : n < 7) (ha : a < n) (hq : q < 7) : fitS ⟨zN [78, 97], ringL n a q n, []⟩ = true ∧ (checkZ ⟨zN [78, 97], ringL n a q n, []⟩).map Int.ofNat = some (ringE q) ∧ finiteZ ⟨zN [78, 97], ringL n a q n, []⟩ (zN [78, 97]) = decide (ringE q = 0) := by
  have := List.all_eq_true.1 (List.all_eq_true.1 (List.all_eq_true.1 ring_all n (List.mem_range.2 hn)) a (List.mem_range.2 ha)) q (List.mem_range.2 hq)
  simp only [Bool.and_eq_true, decide_eq_true_eq, beq_iff_eq] at this
  exact ⟨this.1.1, this.1.2, this.2⟩
theorem ringL_len {n a q : Nat} (h : n < 7) : (decide ((ringL n a q n).length ≤ 1000000) && decide (([] : List Sg).length ≤ 1000000)) = true := by
  rw [show (ringL n a q n).length = n by simp [ringL]]
  simp
  omega
structure RRel (w0 : World) (sb n a q : Nat) (sv : Value) (wr : World) (k : Nat) (v : Value) (us : List (List UInt8 × C4)) : Prop where
  slot : sv = .int .i64 k
  le : k ≤ n
  sat : wr.heap[sb]? = some (.cells #[.int .i64 0, .string ⟨#[]⟩, .slice none 0 0, .slice none 0 0, v, .slice none 0 0] 29 (0, 0))
  row : GRow wr (sb + 1) [sb] v (ringL n a q k) us
  below : Below w0.heap.size w0 wr
end Sp
end Go.Proofs.Ytjjpjkkaogfoaaa
