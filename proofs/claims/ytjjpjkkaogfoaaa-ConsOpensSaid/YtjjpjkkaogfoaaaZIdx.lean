/- slices.ContainsFunc with nested. -/
import Derived.Test.YtjjpjkkaogfoaaaZOpen
namespace Go.Proofs.Ytjjpjkkaogfoaaa
open Go.RowKit
namespace Sp
open Sc

def NestP (mb : Nat) (l : List NT) (us : List (List UInt8 × C4)) (S : Nat → Prop) (t : Tz) : Prop :=
  ∀ (w : World) (c : C4), (∀ g, S g → g < w.heap.size) → EntV w S l us → TzV w S t c → MapV w mb us →
    Calls Try.prog 66 #[.map (some mb), .agg #[.int .i64 c.k, .string c.n, .slice c.an c.ln c.cn, .slice c.ak c.lk c.ck]] w fun e w' => e = .returned (.bool (nestZ l t)) ∧ Below w.heap.size w w'

set_option maxRecDepth 100000 in
set_option maxHeartbeats 8000000 in
theorem index_any (mb : Nat) (l : List NT) (us : List (List UInt8 × C4)) (S : Nat → Prop) (ks : List Tz) (vs : List C4) (ak : Option Addr) (ck : Nat) (w : World) (hS : ∀ g, S g → g < w.heap.size) (hE : EntV w S l us) (hM : MapV w mb us)
    (hlen : vs.length = ks.length) (hkl : ks.length ≤ maxLen) (hk : RowV w S ak 4 (vs.map C4.cells)) (hu : ∀ i (h : i < ks.length) (h' : i < vs.length), TzV w S ks[i] vs[i]) (IH : ∀ i (h : i < ks.length), NestP mb l us S ks[i]) :
    Calls Try.prog 87 #[.slice ak ks.length ck, .func (.func 66) #[.map (some mb)] #[]] w fun e w' => ∃ r : Int, e = .returned (.int .i64 r) ∧ decide (0 ≤ r) = nestsZ l ks ∧ Below w.heap.size w w' := by
  unfold maxLen at hkl
  have HS := Lib.hid hS; have HE := Lib.hid hE; have HM := Lib.hid hM; have HK := Lib.hid hk; have HU := Lib.hid hu; have HI := Lib.hid IH
  clear hS hE hM hk hu IH
  go_enter Try.func87, Try.ntmps87
  go_wp2
  go_loopw [8] (fun iv wr => ∃ j, j ≤ ks.length ∧ iv = .int .i64 j ∧ Hid (∀ i (h : i < ks.length), i < j → nestZ l ks[i] = false) ∧ Hid (Below w.heap.size w wr)) (fun iv _ => ks.length - (intOf iv).toNat)
  case atStart => exact ⟨0, Nat.zero_le _, rfl, (fun i _ h => absurd h (Nat.not_lt_zero _)), Below.refl _ _⟩
  case round =>
    obtain ⟨j, hj, rfl, hq, hB⟩ := hrel
    have hws := hB.out.size
    by_cases hlt : j < ks.length
    · have hlu : j < vs.length := by omega
      obtain ⟨g, o, rfl, hg, hc⟩ := four_at HK.out HS.out j hlu
      obtain ⟨c0, c1, c2, c3⟩ := hc wr (fun k hk => hB.out.block k hk)
      have kb : ∀ g, S g → wr.heap[g]? = w.heap[g]? := fun g hg => hB.out.block g (HS.out g hg)
      have C := HI.out j hlt wr vs[j] (fun g hg => Nat.lt_of_lt_of_le (HS.out g hg) hws) (HE.out.keep kb) ((HU.out j hlt hlu).keep (fun _ h => h) kb) (HM.out.below hB.out)
      have hjz : (j : Int) < (ks.length : Int) := by omega
      have hz : nestZ l ks[j] = false → ∀ i (h : i < ks.length), i < j + 1 → nestZ l ks[i] = false := fun h0 i hi hij => by
        by_cases e : i = j
        · subst e; exact h0
        · exact hq.out i hi (by omega)
      have ha : nestZ l ks[j] = true → nestsZ l ks = true := fun h => by
        rw [nestsZ_any, List.any_eq_true]
        exact ⟨ks[j], List.getElem_mem hlt, h⟩
      have HC := Lib.hid C; have HZ := Lib.hid hz; have HA := Lib.hid ha
      clear hc kb C hz ha
      generalize nestZ l ks[j] = q at *
      generalize vs[j] = x at *
      obtain ⟨x1, x2, x3, x4, x5, x6, x7, x8⟩ := x
      dsimp only at *
      cases q
      · go_wp2_with (go_at_call 66; (refine HC.out.mono ?_); rintro e w1 ⟨rfl, b1⟩; have HB1 := Lib.hid b1; clear b1)
        go_roundw
        case rel => exact ⟨j + 1, by omega, by go_num, HZ.out (by trivial), hB.out.trans (HB1.out.mono hws)⟩
        case measure => simp [intOf]; omega
      · go_wp2_with (go_at_call 66; (refine HC.out.mono ?_); rintro e w1 ⟨rfl, b1⟩; have HB1 := Lib.hid b1; clear b1)
        go_ret
        exact ⟨j, rfl, by rw [HA.out (by trivial)]; simp, hB.out.trans (HB1.out.mono hws)⟩
    · have hjn : j = ks.length := by omega
      subst hjn
      have hz : nestsZ l ks = false := by
        rw [nestsZ_any, List.any_eq_false]
        intro x hx
        obtain ⟨i, hi, rfl⟩ := List.getElem_of_mem hx
        rw [hq.out i hi hi]
        decide
      have HZ := Lib.hid hz
      clear hz
      go_wp2
      go_ret
      exact ⟨-1, rfl, by rw [HZ.out]; decide, hB.out⟩

set_option maxRecDepth 100000 in
set_option maxHeartbeats 4000000 in
theorem contains_any (mb : Nat) (l : List NT) (us : List (List UInt8 × C4)) (S : Nat → Prop) (ks : List Tz) (vs : List C4) (ak : Option Addr) (ck : Nat) (w : World) (hS : ∀ g, S g → g < w.heap.size) (hE : EntV w S l us) (hM : MapV w mb us)
    (hlen : vs.length = ks.length) (hkl : ks.length ≤ maxLen) (hk : RowV w S ak 4 (vs.map C4.cells)) (hu : ∀ i (h : i < ks.length) (h' : i < vs.length), TzV w S ks[i] vs[i]) (IH : ∀ i (h : i < ks.length), NestP mb l us S ks[i]) :
    Calls Try.prog 67 #[.slice ak ks.length ck, .func (.func 66) #[.map (some mb)] #[]] w fun e w' => e = .returned (.bool (nestsZ l ks)) ∧ Below w.heap.size w w' := by
  have C := index_any mb l us S ks vs ak ck w hS hE hM hlen hkl hk hu IH
  have HC := Lib.hid C
  clear C hS hE hM hk hu IH
  go_enter Try.func67, Try.ntmps67
  go_wp2_with (go_at_call 87; (refine HC.out.mono ?_); rintro e w1 ⟨r, rfl, hr, b1⟩; have HR := Lib.hid hr; have HB1 := Lib.hid b1; clear hr b1)
  go_ret
  exact ⟨by rw [← HR.out]; rfl, HB1.out⟩

end Sp
end Go.Proofs.Ytjjpjkkaogfoaaa
