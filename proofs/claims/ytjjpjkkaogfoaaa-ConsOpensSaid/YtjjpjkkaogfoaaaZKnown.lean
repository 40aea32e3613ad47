/- known and within of chapter 4's laws. -/
import Derived.Test.YtjjpjkkaogfoaaaZKit
import Derived.Test.YtjjpjkkaogfoaaaZNamesP
namespace Go.Proofs.Ytjjpjkkaogfoaaa
open Go.RowKit
namespace Sp
open Sc

def cN (n : List UInt8) : C4 := ⟨9, ⟨n.toArray⟩, none, 0, 0, none, 0, 0⟩
def cI : C4 := ⟨2, ⟨#[]⟩, none, 0, 0, none, 0, 0⟩

set_option maxRecDepth 100000 in
set_option maxHeartbeats 4000000 in
theorem known_any (w : World) :
    Calls Try.prog 11 #[] w fun e w' => e = .returned (.bool true) ∧ Below w.heap.size w w' := by
  obtain ⟨W0, hW0⟩ : ∃ W0, W0 = allocs w [.cells #[.int .i64 9, .string ⟨#[65]⟩, .slice none 0 0, .slice none 0 0] 25,
    .cells #[.string ⟨#[110, 101, 120, 116]⟩] 9,
    .cells #[.int .i64 9, .string ⟨#[65]⟩, .slice none 0 0, .slice none 0 0] 25,
    .cells #[.int .i64 6, .string ⟨#[]⟩, .slice none 0 0, .slice (some ⟨w.heap.size + 1 + 1, 0, none⟩) 1 1] 25,
    .cells #[.int .i64 7, .string ⟨#[]⟩, .slice (some ⟨w.heap.size + 1, 0, none⟩) 1 1, .slice (some ⟨w.heap.size + 1 + 1 + 1, 0, none⟩) 1 1] 25,
    .cells #[.string ⟨#[65]⟩, .int .i64 9, .string ⟨#[65]⟩, .slice none 0 0, .slice none 0 0] 44] := ⟨_, rfl⟩
  have hb0 : Below w.heap.size w W0 := by rw [hW0]; exact allocs_below _ w
  have b0 : W0.heap[w.heap.size]? = some (.cells #[.int .i64 9, .string ⟨#[65]⟩, .slice none 0 0, .slice none 0 0] 25 (0, 0)) := by rw [hW0]; exact allocs_at _ w 0 (by show 0 < 6; decide)
  have b1 : W0.heap[w.heap.size + 1]? = some (.cells #[.string ⟨#[110, 101, 120, 116]⟩] 9 (0, 0)) := by rw [hW0]; exact allocs_at _ w 1 (by show 1 < 6; decide)
  have b2 : W0.heap[w.heap.size + 1 + 1]? = some (.cells #[.int .i64 9, .string ⟨#[65]⟩, .slice none 0 0, .slice none 0 0] 25 (0, 0)) := by rw [hW0]; exact allocs_at _ w 2 (by show 2 < 6; decide)
  have b3 : W0.heap[w.heap.size + 1 + 1 + 1]? = some (.cells #[.int .i64 6, .string ⟨#[]⟩, .slice none 0 0, .slice (some ⟨w.heap.size + 1 + 1, 0, none⟩) 1 1] 25 (0, 0)) := by rw [hW0]; exact allocs_at _ w 3 (by show 3 < 6; decide)
  have b4 : W0.heap[w.heap.size + 1 + 1 + 1 + 1]? = some (.cells #[.int .i64 7, .string ⟨#[]⟩, .slice (some ⟨w.heap.size + 1, 0, none⟩) 1 1, .slice (some ⟨w.heap.size + 1 + 1 + 1, 0, none⟩) 1 1] 25 (0, 0)) := by rw [hW0]; exact allocs_at _ w 4 (by show 4 < 6; decide)
  have b5 : W0.heap[w.heap.size + 1 + 1 + 1 + 1 + 1]? = some (.cells #[.string ⟨#[65]⟩, .int .i64 9, .string ⟨#[65]⟩, .slice none 0 0, .slice none 0 0] 44 (0, 0)) := by rw [hW0]; exact allocs_at _ w 5 (by show 5 < 6; decide)
  have C1 : Calls Try.prog 16 #[.agg #[.int .i64 9, .string ⟨#[65]⟩, .slice none 0 0, .slice none 0 0, .slice (some ⟨w.heap.size + 1 + 1 + 1 + 1 + 1, 0, none⟩) 1 1, .slice none 0 0]] W0 (fun e w' => e = .returned (.int .i64 14) ∧ Below W0.heap.size W0 w') := Check_at ⟨zN [65], [([65], zN [65])], []⟩ 1 0 (SzV.build (TzV.leaf W0 _ 9 [65]) (NmsV.one [65] b5 (TzV.leaf W0 _ 9 [65])) (SgsV.nil none)) rfl (by kernel_rfl) (by kernel_rfl) (by kernel_rfl)
  have C2 : ∀ W, Below W0.heap.size W0 W → Calls Try.prog 16 #[.agg #[.int .i64 9, .string ⟨#[65]⟩, .slice none 0 0, .slice none 0 0, .slice (some ⟨W.heap.size, 0, none⟩) 1 1, .slice none 0 0]]
      (W.alloc (.cells #[.string ⟨#[65]⟩, .int .i64 7, .string ⟨#[]⟩, .slice (some ⟨w.heap.size + 1, 0, none⟩) 1 1, .slice (some ⟨w.heap.size + 1 + 1 + 1, 0, none⟩) 1 1] 44)) (fun e w' => e = .returned (.int .i64 0) ∧ Below W.heap.size W w') := fun W hB =>
    let W2 := W.alloc (.cells #[.string ⟨#[65]⟩, .int .i64 7, .string ⟨#[]⟩, .slice (some ⟨w.heap.size + 1, 0, none⟩) 1 1, .slice (some ⟨w.heap.size + 1 + 1 + 1, 0, none⟩) 1 1] 44)
    have kb : ∀ {b : Nat} {o : Obj}, W0.heap[b]? = some o → W2.heap[b]? = some o := fun h => blk_allocZ ((hB.block _ (Array.getElem?_eq_some_iff.1 h).1).trans h) _
    (Check_at (w := W2) (q := 0) ⟨zN [65], [([65], .mk 7 [] [[110, 101, 120, 116]] [.mk 6 [] [] [zN [65]]])], []⟩ 1 0 (SzV.build (TzV.leaf W2 _ 9 [65]) (NmsV.one [65] (heap_alloc_new W _) (TzV.fld 7 [110, 101, 120, 116] (kb b1) (kb b3) (TzV.kid 6 (kb b2) (TzV.leaf W2 _ 9 [65])))) (SgsV.nil none)) rfl (by kernel_rfl) (by kernel_rfl) (by kernel_rfl)).mono fun e w' h => ⟨h.1, ((Below.refl _ _).alloc (Nat.le_refl _) _).trans (h.2.mono (by simp [W2]))⟩
  have HC1 := Lib.hid C1; have HC2 := Lib.hid C2; have HB0 := Lib.hid hb0; have HBK0 := Lib.hid b0; have HBK4 := Lib.hid b4; have HW0 := Lib.hid hW0
  clear C1 C2 hb0 b0 b1 b2 b3 b4 b5 hW0
  go_enter Try.func11, Try.ntmps11
  go_wp2_with fail
  rw [show ((((((w.alloc (.cells #[.int .i64 9, .string ⟨#[65]⟩, .slice none 0 0, .slice none 0 0] 25)).alloc (.cells #[.string ⟨#[110, 101, 120, 116]⟩] 9)).alloc (.cells #[.int .i64 9, .string ⟨#[65]⟩, .slice none 0 0, .slice none 0 0] 25)).alloc (.cells #[.int .i64 6, .string ⟨#[]⟩, .slice none 0 0, .slice (some ⟨w.heap.size + 1 + 1, 0, none⟩) 1 1] 25)).alloc
    (.cells #[.int .i64 7, .string ⟨#[]⟩, .slice (some ⟨w.heap.size + 1, 0, none⟩) 1 1, .slice (some ⟨w.heap.size + 1 + 1 + 1, 0, none⟩) 1 1] 25)).alloc (.cells #[.string ⟨#[65]⟩, .int .i64 9, .string ⟨#[65]⟩, .slice none 0 0, .slice none 0 0] 44)) = W0 from HW0.out.symm]
  go_wp2_with (go_at_call 16; (with_reducible refine HC1.out.mono ?_); rintro e w1 ⟨rfl, x1⟩; obtain ⟨⟨p0, p1, p2, p3⟩, _⟩ := four_blk ((x1.block _ (Array.getElem?_eq_some_iff.1 HBK0.out).1).trans HBK0.out); obtain ⟨⟨r0, r1, r2, r3⟩, _⟩ := four_blk ((x1.block _ (Array.getElem?_eq_some_iff.1 HBK4.out).1).trans HBK4.out); have HX1 := Lib.hid x1; clear x1)
  go_wp2_with (go_at_call 16; (with_reducible refine (HC2.out _ HX1.out).mono ?_); rintro e w2 ⟨rfl, x2⟩; have HX2 := Lib.hid x2; clear x2)
  go_ret
  exact ⟨rfl, HB0.out.trans ((HX1.out.trans (HX2.out.mono HX1.out.size)).mono HB0.out.size)⟩

set_option maxHeartbeats 400000 in
theorem within_any (a n : Int) (w : World) (hn : 0 < n) (hn2 : n ≤ 1000000) (h1 : -9223372036854775808 ≤ a) (h2 : a ≤ 9223372036854775807) :
    Calls Try.prog 18 #[.int .i64 a, .int .i64 n] w fun e w' => e = .returned (.int .i64 (a % n)) ∧ w = w' := by
  have hb1 := Int.emod_nonneg a (show n ≠ 0 by omega)
  have hb2 := Int.emod_lt_of_pos a hn
  by_cases h0 : 0 ≤ a
  · go_enter Try.func18, Try.ntmps18
    go_wp2
    go_ret
    exact ⟨rfl, rfl⟩
  · have ht : a.tmod n = a % n - if 0 ≤ a ∨ n ∣ a then 0 else (n.natAbs : Int) := by rw [Int.tmod_eq_emod]; split <;> rfl
    by_cases hd : n ∣ a
    · have e0 : a % n = 0 := Int.emod_eq_zero_of_dvd hd
      rw [if_pos (Or.inr hd), e0] at ht
      rw [e0]
      clear hd e0
      have l1 : 0 ≤ a.tmod n := by omega
      have l2 : a.tmod n ≤ 0 := by omega
      clear hb1 hb2
      have HT := Lib.hid ht; clear ht
      go_enter Try.func18, Try.ntmps18
      go_wp2
      go_ret
      exact ⟨ret_intZ (by have := HT.out; omega), rfl⟩
    · rw [if_neg (fun h => h.elim h0 hd)] at ht
      have e0 : 0 < a % n := by
        rcases Int.lt_or_eq_of_le hb1 with h | h
        · exact h
        · exact absurd (Int.dvd_of_emod_eq_zero h.symm) hd
      have l1 : a.tmod n < 0 := by omega
      have l2 : -n < a.tmod n := by omega
      have l3 : a.tmod n + n = a % n := by omega
      clear hb1 hb2 ht hd e0
      have HT := Lib.hid l3; clear l3
      go_enter Try.func18, Try.ntmps18
      go_wp2
      go_ret
      exact ⟨ret_intZ (by have := HT.out; omega), rfl⟩
/-- within, its answer known. -/
theorem within_is (a n k : Int) (w : World) (hn : 0 < n) (hn2 : n ≤ 1000000) (h1 : -9223372036854775808 ≤ a) (h2 : a ≤ 9223372036854775807) (hk : a % n = k) :
    Calls Try.prog 18 #[.int .i64 a, .int .i64 n] w fun e w' => e = .returned (.int .i64 k) ∧ w = w' := hk ▸ within_any a n w hn hn2 h1 h2
/-- A block of a chain of new ones. -/
theorem blk_if (w : World) (o : Obj) (n : Nat) : (w.alloc o).heap[n]? = if n = w.heap.size then some o else w.heap[n]? := by
  split
  · next h => subst h; exact heap_alloc_new w o
  · next h =>
    by_cases hl : n < w.heap.size
    · exact Below.heap_alloc _ _ _ hl
    · rw [Array.getElem?_eq_none (by simp; omega), Array.getElem?_eq_none (by omega)]
end Sp
end Go.Proofs.Ytjjpjkkaogfoaaa
