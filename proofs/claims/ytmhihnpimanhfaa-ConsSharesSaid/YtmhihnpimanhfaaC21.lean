/- Few: how many of what a type is made of are left. -/
import Derived.Test.YtmhihnpimanhfaaC20
namespace Go.Proofs.Ytmhihnpimanhfaa
open Go.RowKit
namespace Sp
open Sc
mutual
def fewR : Rw → Int → Int
  | .mk _ _ ns ks, m => if m ≤ 0 ∨ 10 < ks.length ∨ 20 < ns.length then 0 else fewL ks (m - 1)
def fewL : List Rw → Int → Int
  | [], m => m
  | r :: ks, m => if 0 < m then fewL ks (fewR r m) else m
end
mutual
def sizeR : Rw → Nat
  | .mk _ _ _ ks => 1 + sizeRs ks
def sizeRs : List Rw → Nat
  | [] => 0
  | r :: ks => sizeR r + sizeRs ks
end
theorem sizeR_mem : ∀ (ks : List Rw) (k : Nat) (h : k < ks.length), sizeR ks[k] ≤ sizeRs ks
  | t :: ks, 0, _ => by simp only [List.getElem_cons_zero, sizeRs]; omega
  | t :: ks, k + 1, h => by have := sizeR_mem ks k (by simpa using h); simp only [List.getElem_cons_succ, sizeRs]; omega
mutual
theorem fewR_bd : ∀ (r : Rw) (m : Int), fewR r m ≤ max m 0 ∧ 0 ≤ fewR r m
  | .mk k n ns ks, m => by
    rw [fewR]
    split
    · omega
    · have := fewL_bd ks (m - 1) (by omega); omega
theorem fewL_bd : ∀ (ks : List Rw) (m : Int), 0 ≤ m → fewL ks m ≤ m ∧ 0 ≤ fewL ks m
  | [], m, h => by rw [fewL]; omega
  | r :: ks, m, h => by
    rw [fewL]
    split
    · have a := fewR_bd r m
      have := fewL_bd ks (fewR r m) (by omega)
      omega
    · omega
end
/-- What a call of Few leaves. -/
def FewP (r : Rw) : Prop := ∀ (c : R4) (m : Int) (w : World), RwV w r c → I64 m →
  Calls Try.prog 26 #[.agg #[.int .i64 c.k, .int .i64 c.n, .slice c.an c.ln c.cn, .slice c.ak c.lk c.ck], .int .i64 m] w fun e w' => e = .returned (.int .i64 (fewR r m)) ∧ Below w.heap.size w w'
/-- A kid's cells. -/
theorem kid_at {w : World} {a : Option Addr} {us : List R4} (h : RowV w (Any w) a 4 (us.map R4.cells)) (j : Nat) (hj : j < us.length) :
    ∃ g o, a = some ⟨g, o, none⟩ ∧ g < w.heap.size ∧ ∀ W : World, Below w.heap.size w W → W.cell? ⟨g, o + j * 4, none⟩ = some (.int .i64 us[j].k) ∧ W.cell? ⟨g, o + j * 4 + 1, none⟩ = some (.int .i64 us[j].n) ∧
      W.cell? ⟨g, o + j * 4 + 2, none⟩ = some (.slice us[j].an us[j].ln us[j].cn) ∧ W.cell? ⟨g, o + j * 4 + 3, none⟩ = some (.slice us[j].ak us[j].lk us[j].ck) := by
  rcases h with h | ⟨g, o, ha, hg, hc⟩
  · rw [List.map_eq_nil_iff.1 h] at hj; exact absurd hj (by simp)
  · refine ⟨g, o, ha, hg, fun W hW => ?_⟩
    have := fun i v hv => (World.cell?_of_block (a := ⟨g, o + j * 4 + i, none⟩) (hW.block g hg)).trans (hc j (by rw [List.length_map]; exact hj) i v (by rw [List.getElem_map]; exact hv))
    exact ⟨this 0 _ rfl, this 1 _ rfl, this 2 _ rfl, this 3 _ rfl⟩
structure FewRel (w0 : World) (bc : Array Value) (ks : List Rw) (full m0 : Int) (iv mv : Value) (wr : World) (j : Nat) (m : Int) : Prop where
  slot : iv = .int .i64 j
  left : mv = .int .i64 m
  le : j ≤ ks.length
  rest : fewL (ks.drop j) m = full
  lo : 0 ≤ m
  hi : m ≤ m0
  box : wr.heap[w0.heap.size]? = some (.cells bc 33 (0, 0))
  below : Below w0.heap.size w0 wr
set_option maxRecDepth 100000 in
set_option maxHeartbeats 8000000 in
theorem few_step (k n : Int) (ns : List Int) (ks : List Rw) (ih : ∀ i (h : i < ks.length), FewP ks[i]) : FewP (.mk k n ns ks) := by
  intro c m w hV hm
  have hV0 := hV
  cases hV with
  | mk _ _ _ _ an cn ak ck us hk hn hi hln hlk hl ha hb hu =>
    obtain ⟨hm1, hm2⟩ := hm
    unfold maxLen at hln hlk
    have HU := Lib.hid hu; have HB := Lib.hid hb; have HIH := Lib.hid ih; have HL := Lib.hid hl
    clear hu hb ih hi ha hV0
    by_cases h0 : m ≤ 0 ∨ 10 < ks.length ∨ 20 < ns.length
    · have e : fewR (.mk k n ns ks) m = 0 := by rw [fewR, if_pos h0]
      rw [e]
      have HE := Lib.hid e; clear e
      by_cases ha1 : m ≤ 0
      · go_enter Try.func26, Try.ntmps26
        go_wp2
        go_ret
        exact ⟨rfl, (Below.refl _ _).alloc (Nat.le_refl _) _⟩
      · by_cases hb1 : 10 < ks.length
        · have hb2 : (10 : Int) < (ks.length : Int) := by omega
          go_enter Try.func26, Try.ntmps26
          go_wp2
          go_ret
          exact ⟨rfl, (Below.refl _ _).alloc (Nat.le_refl _) _⟩
        · have hb2 : (ks.length : Int) ≤ 10 := by omega
          have hc2 : (20 : Int) < (ns.length : Int) := by omega
          go_enter Try.func26, Try.ntmps26
          go_wp2
          go_ret
          exact ⟨rfl, (Below.refl _ _).alloc (Nat.le_refl _) _⟩
    · have e : fewR (.mk k n ns ks) m = fewL ks (m - 1) := by rw [fewR, if_neg h0]
      have ha1 : 0 < m := by omega
      have hb2 : (ks.length : Int) ≤ 10 := by omega
      have hc2 : (ns.length : Int) ≤ 20 := by omega
      rw [e]
      have HE := Lib.hid e; clear e h0
      go_enter Try.func26, Try.ntmps26
      go_wp2
      go_loopw [5, 1] (fun iv mv wr => ∃ j x, FewRel w #[.int .i64 k, .int .i64 n, .slice an ns.length cn, .slice ak ks.length ck] ks (fewL ks (m - 1)) m iv mv wr j x) (fun iv _ _ => ks.length - (intOf iv).toNat)
      case atStart => exact ⟨0, m - 1, rfl, rfl, Nat.zero_le _, rfl, by omega, by omega, heap_alloc_new _ _, (Below.refl _ _).alloc (Nat.le_refl _) _⟩
      case round =>
        obtain ⟨j, x, h⟩ := hrel
        obtain rfl := h.slot
        obtain rfl := h.left
        have hle := h.le
        have hlo := h.lo
        have hhi := h.hi
        obtain ⟨⟨r0, r1, r2, r3⟩, _⟩ := four_blk h.box
        have H := Lib.hid h
        clear h
        by_cases hj : j < ks.length
        · by_cases hx : 0 < x
          · have hju : j < us.length := by rw [HL.out]; exact hj
            obtain ⟨g, o, rfl, hg, hc⟩ := kid_at HB.out j hju
            obtain ⟨q0, q1, q2, q3⟩ := hc _ H.out.below
            have C := HIH.out j hj us[j] x wr ((HU.out j hj hju).later H.out.below) ⟨by omega, by omega⟩
            have HC := Lib.hid C
            have hbd := fewR_bd ks[j] x
            have HBD := Lib.hid hbd
            have hrest : fewL (ks.drop (j + 1)) (fewR ks[j] x) = fewL ks (m - 1) := by
              have := H.out.rest
              rw [List.drop_eq_getElem_cons hj, fewL, if_pos hx] at this
              exact this
            have HR := Lib.hid hrest
            clear hc C hbd hrest
            go_wp2_with (go_at_call 26; (with_reducible refine HC.out.mono ?_); rintro e w2 ⟨rfl, x2⟩; have HX2 := Lib.hid x2; clear x2)
            go_roundw
            case rel => exact ⟨j + 1, _, by go_num, rfl, by omega, HR.out, HBD.out.2, by have := HBD.out.1; omega, (HX2.out.block _ (Array.getElem?_eq_some_iff.1 H.out.box).1).trans H.out.box, H.out.below.trans (HX2.out.mono H.out.below.size)⟩
            case measure => simp [intOf]; omega
          · have hx0 : x ≤ 0 := by omega
            have er : fewL ks (m - 1) = x := by
              have := H.out.rest
              rw [List.drop_eq_getElem_cons hj, fewL, if_neg hx] at this
              exact this.symm
            have HR := Lib.hid er; clear er
            go_wp2
            go_ret
            exact ⟨ret_intZ HR.out.symm, H.out.below⟩
        · have er : fewL ks (m - 1) = x := by
            have := H.out.rest
            rw [List.drop_of_length_le (by omega), fewL] at this
            exact this.symm
          have HR := Lib.hid er; clear er
          obtain rfl : j = ks.length := by omega
          go_wp2
          go_ret
          exact ⟨ret_intZ HR.out.symm, H.out.below⟩
theorem few_all : ∀ (N : Nat) (r : Rw), sizeR r ≤ N → FewP r
  | 0, .mk k n ns ks, h => by simp only [sizeR] at h; omega
  | N + 1, .mk k n ns ks, h => few_step k n ns ks fun i hi => few_all N ks[i] (by have := sizeR_mem ks i hi; simp only [sizeR] at h; omega)
theorem Few_any (r : Rw) : FewP r := few_all _ r (Nat.le_refl _)
end Sp
end Go.Proofs.Ytmhihnpimanhfaa
