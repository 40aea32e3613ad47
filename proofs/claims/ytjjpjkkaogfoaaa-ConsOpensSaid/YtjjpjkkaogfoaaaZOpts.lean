/- ShapeOpts' walk. -/
import Derived.Test.YtjjpjkkaogfoaaaZGather
namespace Go.Proofs.Ytjjpjkkaogfoaaa
open Go.RowKit
namespace Sp
open Sc

def upper (k : Nat) : UInt8 := UInt8.ofNat (65 + k)
theorem upper_is (k : Nat) (h : k < 100) : (65 + (k : Int)) = ((upper k).toNat : Int) := by unfold upper; rw [UInt8.toNat_ofNat']; omega
set_option maxRecDepth 100000 in
theorem conv_oneZ (w : World) (z : Int) (c : UInt8) (h : z = (c.toNat : Int)) : (convert 72 9 (.slice (some ⟨w.heap.size, 0, none⟩) 1 1)).run Try.prog (w.alloc (.cells #[.int .u8 z] 5)) = .ok (.string ⟨#[c]⟩) (w.alloc (.cells #[.int .u8 z] 5)) := by
  have e := run_convert_bytes_arg (P := Try.prog) (w.alloc (.cells #[.int .u8 z] 5)) 72 5 Try.underlying72 Try.underlying5 w.heap.size 0 1 1 [z] rfl
    (fun i hi => by
      obtain rfl : i = 0 := by simpa using hi
      simp) 9 Try.underlying9
  rw [e, h]
  congr 2
  apply ByteArray.ext
  simp [strOfNums]
theorem cells_atZ (w : World) (l : List Value) (t : TypeId) (g : Nat) (hg : g = w.heap.size) : ∀ (j : Nat) (u : Value), l[j]? = some u → (w.alloc (.cells l.toArray t)).cell? ((⟨g, 0, none⟩ : Addr).add j) = some u := hg ▸ cells_newZ w l t

def optT : Nat → Tz
  | 0 => .mk 6 [] [] [zI]
  | k + 1 => zN [upper k]
def optL (k : Nat) : List NT := (List.range k).map fun i => ([upper i], optT i)
theorem optL_succ (k : Nat) : optL (k + 1) = optL k ++ [([upper k], optT k)] := by simp [optL, List.range_succ]
/-- An Opt of it, so many down. -/
def nestO (q a : Nat) : Nat → Tz
  | 0 => .mk 6 [] [] [optT a]
  | d + 1 => if q = 0 then .mk 4 [] [] [nestO q a d] else if q = 1 then .mk 7 [] [[102]] [nestO q a d] else .mk 8 [] [[102]] [nestO q a d]
theorem opt_all1 : (List.range 4).all (fun a => fitS ⟨optT a, optL a, []⟩ && decide ((checkZ ⟨optT a, optL a, []⟩).map Int.ofNat = some 0)) = true := by kernel_rfl
theorem opt_all2 : (List.range 4).all (fun a => (List.range 4).all fun d => (List.range 3).all fun q => fitS ⟨nestO q a d, optL a, []⟩ && decide ((checkZ ⟨nestO q a d, optL a, []⟩).map Int.ofNat = some 17)) = true := by kernel_rfl
theorem opt_1 {a : Nat} (h : a < 4) : fitS ⟨optT a, optL a, []⟩ = true ∧ (checkZ ⟨optT a, optL a, []⟩).map Int.ofNat = some 0 := by
  have := List.all_eq_true.1 opt_all1 a (List.mem_range.2 h)
  simpa only [Bool.and_eq_true, decide_eq_true_eq] using this
theorem opt_2 {a d q : Nat} (h : a < 4) (h1 : d < 4) (h2 : q < 3) : fitS ⟨nestO q a d, optL a, []⟩ = true ∧ (checkZ ⟨nestO q a d, optL a, []⟩).map Int.ofNat = some 17 := by
  have := List.all_eq_true.1 (List.all_eq_true.1 (List.all_eq_true.1 opt_all2 a (List.mem_range.2 h)) d (List.mem_range.2 h1)) q (List.mem_range.2 h2)
  simpa only [Bool.and_eq_true, decide_eq_true_eq] using this
theorem optL_len {a : Nat} (h : a < 4) : (decide ((optL a).length ≤ 1000000) && decide (([] : List Sg).length ≤ 1000000)) = true := by
  rw [show (optL a).length = a by simp [optL]]
  simp
  omega

structure ORel (w0 : World) (sb m : Nat) (sv : Value) (wr : World) (k : Nat) (v : Value) (us : List (List UInt8 × C4)) (c : C4) : Prop where
  slot : sv = .int .i64 k
  le : k ≤ m
  sat : wr.heap[sb]? = some (.cells #[.int .i64 0, .string ⟨#[]⟩, .slice none 0 0, .slice none 0 0, v, .slice none 0 0] 29 (0, 0))
  tat : wr.heap[sb + 1 + 1]? = some (.cells #[.int .i64 c.k, .string c.n, .slice c.an c.ln c.cn, .slice c.ak c.lk c.ck] 25 (0, 0))
  val : TzV wr (Free wr [sb, sb + 1 + 1] [v]) (optT k) c
  row : GRow wr (sb + 1 + 1 + 1) [sb, sb + 1 + 1] v (optL k) us
  below : Below w0.heap.size w0 wr
structure PRel (w0 : World) (sb m q a : Nat) (v : Value) (us : List (List UInt8 × C4)) (sv : Value) (wr : World) (k : Nat) (c m0 : C4) : Prop where
  slot : sv = .int .i64 k
  le : k ≤ m
  sat : wr.heap[sb]? = some (.cells #[.int .i64 m0.k, .string m0.n, .slice m0.an m0.ln m0.cn, .slice m0.ak m0.lk m0.ck, v, .slice none 0 0] 29 (0, 0))
  tat : wr.heap[sb + 1 + 1]? = some (.cells #[.int .i64 c.k, .string c.n, .slice c.an c.ln c.cn, .slice c.ak c.lk c.ck] 25 (0, 0))
  val : TzV wr (Free wr [sb, sb + 1 + 1] [v]) (nestO q a k) c
  row : GRow wr (sb + 1 + 1 + 1) [sb, sb + 1 + 1] v (optL a) us
  below : Below w0.heap.size w0 wr
theorem PRel.go {w0 wr w' : World} {sb m q a k : Nat} {v sv : Value} {us : List (List UInt8 × C4)} {c c' m0 : C4} (h : PRel w0 sb m q a v us sv wr k c m0) (hh : Held [sb, sb + 1 + 1] [v] (sb + 1 + 1) 25 wr w' (nestO q a (k + 1)) c') (hk : k + 1 ≤ m) (hB : w0.heap.size ≤ sb) : PRel w0 sb m q a v us (.int .i64 (k + 1)) w' (k + 1) c' m0 :=
  ⟨by go_num, hk, hh.only.blk h.sat (by omega), hh.at_, hh.val, h.row.only (b := sb + 1 + 1) (by simp) (by simp; omega) hh.only, h.below.trans (hh.only.below (by omega) h.below.size)⟩
theorem four_mem {x sb : Nat} (h : x ∈ [sb, sb + 1 + 1]) : x = sb ∨ x = sb + 1 + 1 := by simpa using h

end Sp
end Go.Proofs.Ytjjpjkkaogfoaaa
