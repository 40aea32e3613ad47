/- FewAll: whether what a schema is made of is not too much. -/
import Derived.Test.YtmhihnpimanhfabS23
import Derived.ProofKit
import Derived.OpenShut
import Derived.ChangeOld
import Derived.ChangeArms
import Derived.Test.YtmhihnpimanhfabS7
import Derived.Test.YtmhihnpimanhfabS4
import Derived.Test.YtmhihnpimanhfabS8
import Derived.Test.YtmhihnpimanhfabS13
namespace Go.Proofs.Ytmhihnpimanhfab
open Go.RowKit
namespace Sp
open Sc
theorem ret_boolZ {a b : Bool} (h : a = b) : Ending.returned (.bool a) = .returned (.bool b) := by rw [h]
end Sp
end Go.Proofs.Ytmhihnpimanhfab
namespace Go.Proofs.Ytmhihnpimanhfab
open Go.RowKit
namespace Sp
open Sc
set_option maxRecDepth 100000
def idxI (L : List (List UInt8)) (s : List UInt8) : Int := if s ∈ L then (L.idxOf s : Nat) else -1
theorem idxOf_first : ∀ (L : List (List UInt8)) (s : List UInt8) (k : Nat) (h : k < L.length), L[k] = s → (∀ i (hi : i < L.length), i < k → L[i] ≠ s) → L.idxOf s = k
  | x :: L, s, 0, _, e, _ => by simp at e; subst e; simp
  | x :: L, s, k + 1, h, e, hd => by
    have hx : x ≠ s := hd 0 (by simp) (by omega)
    rw [List.idxOf_cons, beq_eq_false_iff_ne.2 hx, cond_false]
    rw [idxOf_first L s k (by simpa using h) (by simpa using e) (fun i hi hik => by have := hd (i + 1) (by simpa using hi) (by omega); simpa using this)]
theorem sindex_any (L : List (List UInt8)) (s : List UInt8) (la : Option Addr) (lc : Nat) (w : World) (hR : RowV w (Any w) la 1 (L.map fun n => [str n])) (hl : L.length ≤ maxLen) :
    Calls Try.prog 56 #[.slice la L.length lc, .string ⟨s.toArray⟩] w fun e w' => e = .returned (.int .i64 (idxI L s)) ∧ w = w' := by
  unfold maxLen at hl
  have HR := Lib.hid hR
  clear hR
  generalize hB : idxI L s = B
  have HB := Lib.hid hB
  clear hB
  go_enter Try.func56, Try.ntmps56
  go_wp2
  go_loop [8] (fun kv => ∃ k : Nat, k ≤ L.length ∧ kv = .int .i64 k ∧ Hid (∀ i (h : i < L.length), i < k → L[i] ≠ s)) (fun kv => L.length - (intOf kv).toNat)
  case atStart => exact ⟨0, Nat.zero_le _, rfl, fun i h hi => by omega⟩
  case round =>
    obtain ⟨k, hk, rfl, hd⟩ := hrel
    by_cases hlt : k < L.length
    · have hkz : (k : Int) < (L.length : Int) := by omega
      have hk0 : (0 : Int) ≤ (k : Int) := by omega
      obtain ⟨g, o, rfl, hg, hc⟩ := name_at HR.out (fun _ h => h) k hlt
      have c0 := hc w (Below.refl _ _)
      have e1 := toList_mk' L[k]
      by_cases he : L[k] = s
      · have hb : B = (k : Int) := by
          rw [← HB.out, idxI, if_pos (by rw [← he]; exact List.getElem_mem hlt), idxOf_first L s k hlt he hd.out]
        have hq : (s == L[k]) = true := by simpa using he.symm
        have HBB := Lib.hid hb
        clear hb hc he
        generalize L[k] = a at *
        go_wp2
        go_ret
        exact ⟨ret_intZ HBB.out.symm, rfl⟩
      · have hq : (s == L[k]) = false := by simpa using fun e => he e.symm
        have hd' : ∀ i (h : i < L.length), i < k + 1 → L[i] ≠ s := fun i h hi => by
          by_cases e : i = k
          · subst e; exact he
          · exact hd.out i h (by omega)
        have HD := Lib.hid hd'
        clear hd' hd hc he
        generalize L[k] = a at *
        go_wp2
        go_round
        case rel => exact ⟨k + 1, by omega, by go_num, HD⟩
        case measure => simp [intOf]; omega
    · have hkz : ¬ (k : Int) < (L.length : Int) := by omega
      have hb : B = -1 := by
        rw [← HB.out, idxI, if_neg]
        intro h
        obtain ⟨i, hi, e⟩ := List.mem_iff_getElem.1 h
        exact hd.out i hi (by omega) e
      have HBB := Lib.hid hb
      clear hb hd
      go_wp2
      go_ret
      exact ⟨ret_intZ HBB.out.symm, rfl⟩
end Sp
end Go.Proofs.Ytmhihnpimanhfab
