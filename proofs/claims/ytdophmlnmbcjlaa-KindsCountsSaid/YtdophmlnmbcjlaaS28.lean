/- formed, has: what a type that is added is by itself. -/
import Derived.Test.YtdophmlnmbcjlaaS22
import Derived.Deep.CutBlock
import Derived.Deep.DeepCutAuto
namespace Go.Proofs.Ytdophmlnmbcjlaa
open Go.RowKit
namespace Sp
open Sc
set_option maxRecDepth 100000
theorem wideParts : (match Try.prog.underlying 158 with | some (.array _ _) | some (.struct _) => true | _ => false) = true := by kernel_rfl
theorem rowParts : (158 : TypeId) < Try.prog.types.size := of_decide_eq_true (by kernel_rfl)
theorem partsLaw : Maps.Keyed Try.prog 158 := Maps.Keyed.of_law (deep_law_laid laidK (m := 2) (by omega) rowParts (by kernel_rfl) wideParts)
def litP (a b c : Int) : List Go.Lit := [.int .i64 a, .int .i64 b, .int .i64 c]
theorem keyOf_parts (a b c : Int) (ha : (Go.Lit.int .i64 a).wf = true) (hb : (Go.Lit.int .i64 b).wf = true) (hc : (Go.Lit.int .i64 c).wf = true) : keyOf Try.prog 158 (.agg #[.int .i64 a, .int .i64 b, .int .i64 c]) = some (.string (keyBytes (litP a b c))) := by
  have c3 : Try.prog.cellsOf 158 = 3 := by kernel_rfl
  have c1 : Try.prog.cellsOf 3 = 1 := by kernel_rfl
  have ty : Try.prog.keyType 158 = true := by kernel_rfl
  unfold keyOf
  rw [Try.underlying158]
  have hf : (Value.agg #[.int .i64 a, .int .i64 b, .int .i64 c]).formed Try.prog 158 = true := by simp [Value.formed, Try.underlying158, c3]
  have e : Try.prog.types.size + 1 = (Try.prog.types.size - 1) + 2 := by
    have : (2 : Nat) ≤ Try.prog.types.size := Nat.le_of_lt (Nat.lt_of_le_of_lt (by decide) rowParts)
    omega
  simp only [ty, hf, e]
  rw [Program.keyLits.eq_def]
  simp only [Try.underlying158, c3, c1]
  simp [List.range_succ, Value.cells, lit_int _ a ha, lit_int _ b hb, lit_int _ c hc, litP]
theorem parts_eq (a b c d e f : Int) (ha : (Go.Lit.int .i64 a).wf = true) (hb : (Go.Lit.int .i64 b).wf = true) (hc : (Go.Lit.int .i64 c).wf = true) (hd : (Go.Lit.int .i64 d).wf = true) (he : (Go.Lit.int .i64 e).wf = true) (hf : (Go.Lit.int .i64 f).wf = true) (w : World) :
    (Op.equalIn 10000 158 (.agg #[.int .i64 a, .int .i64 b, .int .i64 c]) (.agg #[.int .i64 d, .int .i64 e, .int .i64 f])).run Try.prog w = .ok (decide (a = d ∧ b = e ∧ c = f)) w := by
  have k1 := keyOf_parts a b c ha hb hc
  have k2 := keyOf_parts d e f hd he hf
  obtain ⟨r, hr, hi⟩ := run_equal_deep w (m := 2) (by omega) (k := 158) (by kernel_rfl) wideParts k1 k2
  have hiff : r = true ↔ (a = d ∧ b = e ∧ c = f) := by
    rw [hi]
    constructor
    · intro h
      have := partsLaw.inj k1 (by rw [h]; exact k2)
      simpa using this
    · rintro ⟨rfl, rfl, rfl⟩; rfl
  have : r = decide (a = d ∧ b = e ∧ c = f) := by
    cases r
    · exact (decide_eq_false (fun h => by have := hiff.2 h; cases this)).symm
    · exact (decide_eq_true (hiff.1 rfl)).symm
  rw [← this]; exact hr
set_option maxHeartbeats 8000000 in
theorem cformed_any (k : Int) (nm : List UInt8) (ns : List (List UInt8)) (nk : Nat) (an ak : Option Addr) (cn ck : Nat) (w : World) (hm : nm.length ≤ maxLen) (hn : ns.length ≤ maxLen) (hk : nk ≤ maxLen) :
    Calls Try.prog 53 #[.agg #[.int .i64 k, .string ⟨nm.toArray⟩, .slice an ns.length cn, .slice ak nk ck]] w fun e w' => e = .returned (.bool (formB k nm ns nk)) ∧ Below w.heap.size w w' := by
  have hE : ∀ b, formB k nm ns nk = b → formB k nm ns nk = b := fun _ h => h
  unfold formB kidsN at hE
  have hns : ns.length = 0 → True := fun _ => trivial
  have hnm : (nm = []) ↔ nm.length = 0 := by simp
  obtain ⟨F, hF⟩ : ∃ F, F = formB k nm ns nk := ⟨_, rfl⟩
  have HF : Hid (F = (decide (nk = kidsN k ns.length) && (decide (nm.length = 0) || decide (k = 9)) && (decide (ns.length = 0) || decide (k = 7 ∨ k = 8)))) := by
    unfold Hid; rw [hF]; unfold formB; simp only [hnm]
  rw [← hF]
  clear hF hE hns hnm
  have hb : (⟨nm.toArray⟩ : ByteArray).size = nm.length := by simp [ByteArray.size]
  have HBS := Lib.hid hb
  unfold maxLen at hm hn hk
  generalize ns.length = nn at *
  have wf : ∀ n : Nat, n ≤ 2 ^ 63 - 1 → (Go.Lit.int .i64 (n : Int)).wf = true := fun n h => WalkArith.wf_i64 (by omega)
  have w0 : (Go.Lit.int .i64 0).wf = true := by decide
  have w1 : (Go.Lit.int .i64 1).wf = true := by decide
  obtain ⟨nz, hnz⟩ : ∃ nz, nz = nm.length := ⟨_, rfl⟩
  rw [← hnz] at hm HF
  have p1 : ∀ W, (Op.equalIn 10000 158 (.agg #[.int .i64 (nz : Nat), .int .i64 (nn : Nat), .int .i64 (nk : Nat)]) (.agg #[.int .i64 0, .int .i64 0, .int .i64 1])).run Try.prog W = .ok (decide (nz = 0 ∧ nn = 0 ∧ nk = 1)) W := fun W => by
    rw [parts_eq _ _ _ _ _ _ (wf _ hm) (wf _ hn) (wf _ hk) w0 w0 w1]; exact congrArg (fun b => Result.ok b W) (decide_eq_decide.2 (by omega))
  have p2 : ∀ W, (Op.equalIn 10000 158 (.agg #[.int .i64 (nz : Nat), .int .i64 (nn : Nat), .int .i64 (nk : Nat)]) (.agg #[.int .i64 0, .int .i64 (nn : Nat), .int .i64 (nn : Nat)])).run Try.prog W = .ok (decide (nz = 0 ∧ nk = nn)) W := fun W => by
    rw [parts_eq _ _ _ _ _ _ (wf _ hm) (wf _ hn) (wf _ hk) w0 (wf _ hn) (wf _ hn)]; exact congrArg (fun b => Result.ok b W) (decide_eq_decide.2 (by omega))
  have p3 : ∀ W, (Op.equalIn 10000 158 (.agg #[.int .i64 (nz : Nat), .int .i64 (nn : Nat), .int .i64 (nk : Nat)]) (.agg #[.int .i64 (nz : Nat), .int .i64 0, .int .i64 0])).run Try.prog W = .ok (decide (nn = 0 ∧ nk = 0)) W := fun W => by
    rw [parts_eq _ _ _ _ _ _ (wf _ hm) (wf _ hn) (wf _ hk) (wf _ hm) w0 w0]; exact congrArg (fun b => Result.ok b W) (decide_eq_decide.2 (by omega))
  have p4 : ∀ W, (Op.equalIn 10000 158 (.agg #[.int .i64 (nz : Nat), .int .i64 (nn : Nat), .int .i64 (nk : Nat)]) (.agg #[.int .i64 0, .int .i64 0, .int .i64 0])).run Try.prog W = .ok (decide (nz = 0 ∧ nn = 0 ∧ nk = 0)) W := fun W => by
    rw [parts_eq _ _ _ _ _ _ (wf _ hm) (wf _ hn) (wf _ hk) w0 w0 w0]; exact congrArg (fun b => Result.ok b W) (decide_eq_decide.2 (by omega))
  have HP1 := Lib.hid p1; have HP2 := Lib.hid p2; have HP3 := Lib.hid p3; have HP4 := Lib.hid p4
  clear p1 p2 p3 p4 wf w0 w1
  have hbz : (⟨nm.toArray⟩ : ByteArray).size = nz := hb.trans hnz.symm
  clear hb HBS
  have hlen : nm.length = nz := hnz.symm
  clear hnz
  have hc : k = 4 ∨ k = 5 ∨ k = 6 ∨ k = 7 ∨ k = 8 ∨ k = 9 ∨ (k ≠ 4 ∧ k ≠ 5 ∧ k ≠ 6 ∧ k ≠ 7 ∧ k ≠ 8 ∧ k ≠ 9) := by omega
  rcases hc with rfl | rfl | rfl | rfl | rfl | rfl | ⟨a4, a5, a6, a7, a8, a9⟩
  · have p1 := HP1.out
    go_enter Try.func53, Try.ntmps53
    go_wp2
    go_ret
    refine ⟨congrArg (fun b => Ending.returned (.bool b)) ?_, ((Below.refl _ _).alloc (Nat.le_refl _) _).alloc (by simp) _⟩
    rw [HF.out]; unfold kidsN
    simp [Bool.and_comm, Bool.and_left_comm]
  · have p1 := HP1.out
    go_enter Try.func53, Try.ntmps53
    go_wp2
    go_ret
    refine ⟨congrArg (fun b => Ending.returned (.bool b)) ?_, ((Below.refl _ _).alloc (Nat.le_refl _) _).alloc (by simp) _⟩
    rw [HF.out]; unfold kidsN
    simp [Bool.and_comm, Bool.and_left_comm]
  · have p1 := HP1.out
    go_enter Try.func53, Try.ntmps53
    go_wp2
    go_ret
    refine ⟨congrArg (fun b => Ending.returned (.bool b)) ?_, ((Below.refl _ _).alloc (Nat.le_refl _) _).alloc (by simp) _⟩
    rw [HF.out]; unfold kidsN
    simp [Bool.and_comm, Bool.and_left_comm]
  · have p1 := HP2.out
    go_enter Try.func53, Try.ntmps53
    go_wp2
    go_ret
    refine ⟨congrArg (fun b => Ending.returned (.bool b)) ?_, ((Below.refl _ _).alloc (Nat.le_refl _) _).alloc (by simp) _⟩
    rw [HF.out]; unfold kidsN
    simp [Bool.and_comm]
  · have p1 := HP2.out
    go_enter Try.func53, Try.ntmps53
    go_wp2
    go_ret
    refine ⟨congrArg (fun b => Ending.returned (.bool b)) ?_, ((Below.refl _ _).alloc (Nat.le_refl _) _).alloc (by simp) _⟩
    rw [HF.out]; unfold kidsN
    simp [Bool.and_comm]
  · have p1 := HP3.out
    go_enter Try.func53, Try.ntmps53
    go_wp2
    go_ret
    refine ⟨congrArg (fun b => Ending.returned (.bool b)) ?_, ((Below.refl _ _).alloc (Nat.le_refl _) _).alloc (by simp) _⟩
    rw [HF.out]; unfold kidsN
    simp [Bool.and_comm]
  · have p1 := HP4.out
    go_enter Try.func53, Try.ntmps53
    go_wp2
    go_ret
    refine ⟨congrArg (fun b => Ending.returned (.bool b)) ?_, ((Below.refl _ _).alloc (Nat.le_refl _) _).alloc (by simp) _⟩
    rw [HF.out]; unfold kidsN
    simp [a4, a5, a6, a7, a8, a9]
    cases decide (nk = 0) <;> cases decide (nn = 0) <;> cases decide (nz = 0) <;> rfl
end Sp
end Go.Proofs.Ytdophmlnmbcjlaa
