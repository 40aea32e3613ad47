/- ConsBig: its turns, as a plain function. -/
import Derived.Test.YtjjpjkkaogfoaaaQ5
namespace Go.Proofs.Ytjjpjkkaogfoaaa
open Go.RowKit
namespace Sp
open Sc
set_option maxRecDepth 100000

/-- The name and the type of a turn. -/
def bigL (k : Nat) : UInt8 := UInt8.ofNat (97 + k % 26)
def bigH (k : Nat) : UInt8 := UInt8.ofNat (97 + k / 26)
def bigN (k : Nat) : List UInt8 := [102, bigL k, bigH k]
def bigX (n k : Nat) : Tz := if 1 < n then .mk 4 [] [] [.mk 7 [] [bigN k] [zI]] else .mk 7 [] [bigN k] [zI]
/-- The turns that are left end as the law asks. -/
def bigRun (n : Nat) : Nat → Nat → List Kz → Bool
  | 0, _, _ => false
  | f + 1, k, T =>
    let a := addK (hasZ ([] : List NN)) T (bigX n k)
    if a.2.1 = 0 then bigRun n f (k + 1) a.2.2
    else
      let b := addK (hasZ ([] : List NN)) a.2.2 zI
      decide (a.2.1 = 20) && decide (b.2.1 = 0) && decide ((numK b.2.2 (baseK 3)).2.1 = 20) && decide ((numK b.2.2 (baseK 3)).2.2.length = 120) && decide (50 ≤ k)
theorem big1 : bigRun 1 199 1 [⟨2, [], [], []⟩] = true := by kernel_rfl
theorem big2 : bigRun 2 199 1 [⟨2, [], [], []⟩] = true := by kernel_rfl
theorem big3 : bigRun 3 199 1 [⟨2, [], [], []⟩] = true := by kernel_rfl

theorem bigN_len (k : Nat) : (bigN k).length = 3 := rfl
theorem bigX_fit (n k : Nat) : fitZ (bigX n k) = true ∧ shortZ (bigX n k) = true := by
  unfold bigX
  split <;> exact ⟨rfl, rfl⟩
theorem byte_L (k : Nat) : (97 + (k : Int) % 26) = ((bigL k).toNat : Int) := by unfold bigL; rw [UInt8.toNat_ofNat']; omega
theorem byte_H (k : Nat) (h : k < 200) : (97 + (k : Int) / 26) = ((bigH k).toNat : Int) := by unfold bigH; rw [UInt8.toNat_ofNat']; omega
theorem conv_two {v : World} {g : Nat} {y z : Int} {c d : UInt8} (hy : y = (c.toNat : Int)) (hz : z = (d.toNat : Int)) (h : v.heap[g]? = some (.cells #[.int .u8 y, .int .u8 z] 5 (0, 0))) : (convert 72 9 (.slice (some ⟨g, 0, none⟩) 2 2)).run Try.prog v = .ok (.string ⟨#[c, d]⟩) v := by
  have e := run_convert_bytes_arg (P := Try.prog) v 72 5 Try.underlying72 Try.underlying5 g 0 2 2 [y, z] rfl
    (fun i hi => by
      obtain rfl | rfl : i = 0 ∨ i = 1 := by
        have h2 : i < 2 := by simpa using hi
        omega
      · simp [World.cell?, h]
      · simp [World.cell?, h]) 9 Try.underlying9
  rw [e, hy, hz]
  congr 2
  apply ByteArray.ext
  simp [strOfNums]
theorem catF2 (c d : UInt8) : (⟨#[102]⟩ : ByteArray) ++ ⟨#[c, d]⟩ = ⟨#[102, c, d]⟩ := by
  apply ByteArray.ext
  simp [ByteArray.data_append]
theorem TzV.fldN {w : World} {S : Nat → Prop} {g gn : Nat} {ty tn : TypeId} {fr fn : Nat × Nat} {t : Tz} {c : C4} (k : Int) (n : List UInt8) (hn : w.heap[gn]? = some (.cells #[.string ⟨n.toArray⟩] tn fn)) (h : w.heap[g]? = some (.cells #[.int .i64 c.k, .string c.n, .slice c.an c.ln c.cn, .slice c.ak c.lk c.ck] ty fr)) (hS1 : S gn) (hS : S g) (hV : TzV w S t c) :
    TzV w S (.mk k [] [n] [t]) ⟨k, ⟨#[]⟩, some ⟨gn, 0, none⟩, 1, 1, some ⟨g, 0, none⟩, 1, 1⟩ :=
  .mk k [] [n] [t] (some ⟨gn, 0, none⟩) 1 (some ⟨g, 0, none⟩) 1 [c] rfl (RowV.blkN (l := [n].map fun n => [str n]) hn rfl (str1_len [n]) hS1) (RowV.blkN (l := [c].map C4.cells) h rfl (cells4_len [c]) hS) (fun i h h' => by
    match i, h with
    | 0, _ => exact hV)
end Sp
end Go.Proofs.Ytjjpjkkaogfoaaa
