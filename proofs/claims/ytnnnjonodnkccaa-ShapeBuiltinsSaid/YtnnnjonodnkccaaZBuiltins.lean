/- ShapeBuiltins' walk. -/
import Derived.Test.YtnnnjonodnkccaaZGrow
import Derived.Test.YtnnnjonodnkccaaZBuiltR
namespace Go.Proofs.Ytnnnjonodnkccaa
open Go.RowKit
namespace Sp
open Sc

def bnames : List (List UInt8) := [[108, 101, 110], [110, 111, 116], [97, 110, 100], [111, 114], [101, 113], [108, 116], [97, 100, 100], [115, 117, 98], [109, 117, 108], [115, 104, 108], [115, 104, 114], [105, 56], [105, 49, 54], [105, 51, 50], [117, 56], [117, 49, 54], [117, 51, 50], [99, 97, 116], [116, 101, 120, 116], [97, 116], [103, 101, 116], [104, 97, 115], [111, 114, 101, 108, 115, 101]]
def bcells : Array Value := #[.string ⟨#[108, 101, 110]⟩, .string ⟨#[110, 111, 116]⟩, .string ⟨#[97, 110, 100]⟩, .string ⟨#[111, 114]⟩, .string ⟨#[101, 113]⟩, .string ⟨#[108, 116]⟩, .string ⟨#[97, 100, 100]⟩, .string ⟨#[115, 117, 98]⟩, .string ⟨#[109, 117, 108]⟩, .string ⟨#[115, 104, 108]⟩, .string ⟨#[115, 104, 114]⟩, .string ⟨#[105, 56]⟩, .string ⟨#[105, 49, 54]⟩, .string ⟨#[105, 51, 50]⟩, .string ⟨#[117, 56]⟩, .string ⟨#[117, 49, 54]⟩, .string ⟨#[117, 51, 50]⟩, .string ⟨#[99, 97, 116]⟩, .string ⟨#[116, 101, 120, 116]⟩, .string ⟨#[97, 116]⟩, .string ⟨#[103, 101, 116]⟩, .string ⟨#[104, 97, 115]⟩, .string ⟨#[111, 114, 101, 108, 115, 101]⟩]
theorem bnames_all : (List.range 23).all (fun k => match bnames[k]?, bcells[k]? with
    | some x, some (.string s) => decide (s.data.toList = x) && builtinB x && decide ((checkZ ⟨zI, [], [⟨x, [], zI⟩]⟩).map Int.ofNat = some 15) && decide ((checkZ ⟨zI, [], [⟨x ++ [48], [], zI⟩]⟩).map Int.ofNat = some 0) && decide (x.length ≤ 10)
    | _, _ => false) = true := by kernel_rfl
theorem bname_at (k : Nat) (hk : k < 23) : ∃ x : List UInt8, bcells.toList[k]? = some (.string ⟨x.toArray⟩) ∧ builtinB x = true ∧ (checkZ ⟨zI, [], [⟨x, [], zI⟩]⟩).map Int.ofNat = some 15 ∧ (checkZ ⟨zI, [], [⟨x ++ [48], [], zI⟩]⟩).map Int.ofNat = some 0 ∧ x.length ≤ 10 := by
  have h := List.all_eq_true.1 bnames_all k (List.mem_range.2 hk)
  revert h
  cases h1 : bnames[k]? with
  | none => intro h; cases h
  | some x =>
    cases h2 : bcells[k]? with
    | none => intro h; cases h
    | some v =>
      cases v with
      | string s =>
        intro h
        simp only [Bool.and_eq_true, decide_eq_true_eq] at h
        obtain ⟨⟨⟨⟨a, b⟩, c⟩, d⟩, e⟩ := h
        refine ⟨x, ?_, b, c, d, e⟩
        rw [← a, Array.getElem?_toList, h2]
      | _ => intro h; cases h
theorem cat0 (x : List UInt8) : (⟨x.toArray⟩ : ByteArray) ++ ⟨#[48]⟩ = ⟨(x ++ [48]).toArray⟩ := by
  apply ByteArray.ext
  simp [ByteArray.data_append]
theorem fitB (x : List UInt8) (h : x.length ≤ 20) : fitS ⟨zI, [], [⟨x, [], zI⟩]⟩ = true := by
  have a : fitZ zI = true := rfl
  have c : decide (x.length ≤ maxLen) = true := decide_eq_true (Nat.le_trans h (by decide))
  have d : decide (([] : List Tz).length ≤ maxLen) = true := rfl
  simp only [fitS, List.all_nil, List.all_cons, fitG, fitZs, a, c, d, Bool.and_self]
theorem Check_sig {w : World} {args : Array Value} {q : Int} (x : List UInt8) (hx : x.length ≤ 20) {g : Nat} {ty : TypeId} {fr : Nat × Nat} (hg : w.heap[g]? = some (.cells #[.string ⟨x.toArray⟩, .slice none 0 0, .int .i64 2, .string ⟨#[]⟩, .slice none 0 0, .slice none 0 0] ty fr))
    (ha : args = #[.agg #[.int .i64 2, .string ⟨#[]⟩, .slice none 0 0, .slice none 0 0, .slice none 0 0, .slice (some ⟨g, 0, none⟩) 1 1]]) (hr : (checkZ ⟨zI, [], [⟨x, [], zI⟩]⟩).map Int.ofNat = some q) :
    Calls Try.prog 17 args w fun e w' => e = .returned (.int .i64 q) ∧ Below w.heap.size w w' :=
  Check_at ⟨zI, [], [⟨x, [], zI⟩]⟩ 0 1 (SzV.build (TzV.leaf _ _ 2 []) (NmsV.nil none) (SgsV.one (x := (x, ⟨none, 0, 0, cI⟩)) hg (SgV.bare x (TzV.leaf _ _ 2 [])))) ha (fitB x hx) rfl hr

set_option maxRecDepth 100000 in
set_option maxHeartbeats 4000000 in
theorem ShapeBuiltins_any (n : Int) (more : ByteArray) (w : World) (h1 : -9223372036854775808 ≤ n) (h2 : n ≤ 9223372036854775807) (hs : more.size ≤ maxLen) :
    Calls Try.prog 8 #[.int .i64 n, .string more] w fun e w' => e = .returned (.bool true) ∧ Below w.heap.size w w' := by
  obtain ⟨l, rfl⟩ : ∃ l : List UInt8, more = ⟨l.toArray⟩ := ⟨more.data.toList, rfl⟩
  obtain ⟨k, hk, hk23⟩ : ∃ k : Nat, n % 23 = k ∧ k < 23 := ⟨(n % 23).toNat, by omega, by omega⟩
  obtain ⟨x, hx, hb, hc1, hc2, hxl⟩ := bname_at k hk23
  have hcat := cat0 x
  unfold maxLen at hs
  have HK := Lib.hid hk; have HB := Lib.hid hb; have HC1 := Lib.hid hc1; have HC2 := Lib.hid hc2
  clear hk hb hc1 hc2
  have hx' : ∀ h : k < ([.string ⟨#[108, 101, 110]⟩, .string ⟨#[110, 111, 116]⟩, .string ⟨#[97, 110, 100]⟩, .string ⟨#[111, 114]⟩, .string ⟨#[101, 113]⟩, .string ⟨#[108, 116]⟩, .string ⟨#[97, 100, 100]⟩, .string ⟨#[115, 117, 98]⟩, .string ⟨#[109, 117, 108]⟩, .string ⟨#[115, 104, 108]⟩, .string ⟨#[115, 104, 114]⟩, .string ⟨#[105, 56]⟩, .string ⟨#[105, 49, 54]⟩, .string ⟨#[105, 51, 50]⟩, .string ⟨#[117, 56]⟩, .string ⟨#[117, 49, 54]⟩, .string ⟨#[117, 51, 50]⟩, .string ⟨#[99, 97, 116]⟩, .string ⟨#[116, 101, 120, 116]⟩, .string ⟨#[97, 116]⟩, .string ⟨#[103, 101, 116]⟩, .string ⟨#[104, 97, 115]⟩, .string ⟨#[111, 114, 101, 108, 115, 101]⟩] : List Value).length, ([.string ⟨#[108, 101, 110]⟩, .string ⟨#[110, 111, 116]⟩, .string ⟨#[97, 110, 100]⟩, .string ⟨#[111, 114]⟩, .string ⟨#[101, 113]⟩, .string ⟨#[108, 116]⟩, .string ⟨#[97, 100, 100]⟩, .string ⟨#[115, 117, 98]⟩, .string ⟨#[109, 117, 108]⟩, .string ⟨#[115, 104, 108]⟩, .string ⟨#[115, 104, 114]⟩, .string ⟨#[105, 56]⟩, .string ⟨#[105, 49, 54]⟩, .string ⟨#[105, 51, 50]⟩, .string ⟨#[117, 56]⟩, .string ⟨#[117, 49, 54]⟩, .string ⟨#[117, 51, 50]⟩, .string ⟨#[99, 97, 116]⟩, .string ⟨#[116, 101, 120, 116]⟩, .string ⟨#[97, 116]⟩, .string ⟨#[103, 101, 116]⟩, .string ⟨#[104, 97, 115]⟩, .string ⟨#[111, 114, 101, 108, 115, 101]⟩] : List Value)[k] = .string ⟨x.toArray⟩ := fun h => (List.getElem?_eq_some_iff.1 (show ([.string ⟨#[108, 101, 110]⟩, .string ⟨#[110, 111, 116]⟩, .string ⟨#[97, 110, 100]⟩, .string ⟨#[111, 114]⟩, .string ⟨#[101, 113]⟩, .string ⟨#[108, 116]⟩, .string ⟨#[97, 100, 100]⟩, .string ⟨#[115, 117, 98]⟩, .string ⟨#[109, 117, 108]⟩, .string ⟨#[115, 104, 108]⟩, .string ⟨#[115, 104, 114]⟩, .string ⟨#[105, 56]⟩, .string ⟨#[105, 49, 54]⟩, .string ⟨#[105, 51, 50]⟩, .string ⟨#[117, 56]⟩, .string ⟨#[117, 49, 54]⟩, .string ⟨#[117, 51, 50]⟩, .string ⟨#[99, 97, 116]⟩, .string ⟨#[116, 101, 120, 116]⟩, .string ⟨#[97, 116]⟩, .string ⟨#[103, 101, 116]⟩, .string ⟨#[104, 97, 115]⟩, .string ⟨#[111, 114, 101, 108, 115, 101]⟩] : List Value)[k]? = some (.string ⟨x.toArray⟩) from hx)).2
  clear hx
  by_cases hl0 : 50 < l.length
  · have hl : (50 : Int) < (l.length : Int) := by omega
    go_enter Try.func8, Try.ntmps8
    go_wp2_with (go_at_call 12; (with_reducible refine (known_any _).mono ?_); rintro e w1 ⟨rfl, x1⟩; have HX1 := Lib.hid x1; clear x1)
    go_ret
    exact ⟨rfl, HX1.out⟩
  · have hl : (l.length : Int) ≤ 50 := by omega
    go_enter Try.func8, Try.ntmps8
    go_wp2_with (go_at_call 12; (with_reducible refine (known_any _).mono ?_); rintro e w1 ⟨rfl, x1⟩; have HX1 := Lib.hid x1; clear x1)
    go_wp2_with (go_at_call 19; (with_reducible refine (within_is _ _ _ _ (by omega) (by omega) h1 h2 HK.out).mono ?_); rintro e w2 ⟨rfl, rfl⟩)
    go_wp2_with fail
    refine (Check_sig x (by omega) (g := w1.heap.size + 1 + 1) (ty := 46) (fr := (0, 0)) (by rw [blk_if, if_pos (by simp)]) rfl HC1.out).mono ?_
    rintro e w3 ⟨rfl, x3⟩
    have hc3 : w3.heap[w1.heap.size + 1]? = some (.cells #[.int .i64 2, .string ⟨#[]⟩, .slice none 0 0, .slice none 0 0] 25 (0, 0)) := (x3.block _ (by simp)).trans (by rw [blk_if, if_neg (by simp), blk_if, if_pos (by simp)])
    obtain ⟨⟨a0, a1, a2, a3⟩, _⟩ := four_blk hc3
    have hz3 := x3.size
    simp at hz3
    have y3 : Below w.heap.size w w3 := Below.trans (by repeat first | exact HX1.out | refine Below.alloc ?_ (by have := HX1.out.size; simp <;> omega) _) (x3.mono (by have := HX1.out.size; simp; omega))
    have Y3 := Lib.hid y3
    clear x3 y3 hc3
    go_wp2_with fail
    refine (Check_sig (x ++ [48]) (by simp; omega) (g := w3.heap.size) (ty := 46) (fr := (0, 0)) (heap_alloc_new _ _) rfl HC2.out).mono ?_
    rintro e w4 ⟨rfl, x4⟩
    have Y4 := Lib.hid ((Y3.out.alloc Y3.out.size _).trans (x4.mono (by have := Y3.out.size; simp; omega)))
    clear x4
    have CB : ∀ W : World, Calls Try.prog 24 #[.string ⟨x.toArray⟩] W fun e w' => e = .returned (.bool true) ∧ W = w' := fun W => HB.out ▸ Builtin_any x W
    have CL := fun W : World => Builtin_any l W
    have CR := fun W : World => Builtin_ref l W
    cases hbl : builtinB l
    all_goals
      rw [hbl] at CL CR
      have HCB := Lib.hid CB; have HCL := Lib.hid CL; have HCR := Lib.hid CR
      clear CB CL CR hbl
      go_wp2_with (first
        | (go_at_call 24; (with_reducible refine (HCB.out _).mono ?_); rintro e w5 ⟨rfl, rfl⟩)
        | (go_at_call 24; (with_reducible refine (HCL.out _).mono ?_); rintro e w5 ⟨rfl, rfl⟩)
        | (go_at_call 25; (with_reducible refine (HCR.out _).mono ?_); rintro e w5 ⟨rfl, rfl⟩))
      go_ret
      exact ⟨rfl, Y4.out⟩
end Sp
end Go.Proofs.Ytnnnjonodnkccaa
