/- Few: how many of what a type is made of are left. -/
import Derived.Test.YteooafgdmpbjeabV18
import Derived.Deep.QuietTactic
import Derived.BigQuiet
import Derived.Deep.RegionHeld3
namespace Go.Proofs.Yteooafgdmpbjeab
open Go.RowKit
namespace Sp
open Sc
mutual
def fewR : Rw → Int → Int
  | .mk _ _ ns ks, m => if m ≤ 0 ∨ 10 < ks.length ∨ 20 < ns.length then 0 else fewL ks (m - 1)
def fewL : List Rw → Int → Int
  | [], m => m
  | r :: ks, m => if 0 < m then fewL ks (fewR r m) else m
end
mutual
def sizeR : Rw → Nat
  | .mk _ _ _ ks => 1 + sizeRs ks
def sizeRs : List Rw → Nat
  | [] => 0
  | r :: ks => sizeR r + sizeRs ks
end
theorem sizeR_mem : ∀ (ks : List Rw) (k : Nat) (h : k < ks.length), sizeR ks[k] ≤ sizeRs ks
  | t :: ks, 0, _ => by simp only [List.getElem_cons_zero, sizeRs]; omega
  | t :: ks, k + 1, h => by have := sizeR_mem ks k (by simpa using h); simp only [List.getElem_cons_succ, sizeRs]; omega
mutual
theorem fewR_bd : ∀ (r : Rw) (m : Int), fewR r m ≤ max m 0 ∧ 0 ≤ fewR r m
  | .mk k n ns ks, m => by
    rw [fewR]
    split
    · omega
    · have := fewL_bd ks (m - 1) (by omega); omega
theorem fewL_bd : ∀ (ks : List Rw) (m : Int), 0 ≤ m → fewL ks m ≤ m ∧ 0 ≤ fewL ks m
  | [], m, h => by rw [fewL]; omega
  | r :: ks, m, h => by
    rw [fewL]
    split
    · have a := fewR_bd r m
      have := fewL_bd ks (fewR r m) (by omega)
      omega
    · omega
end
/-- What a call of Few leaves. -/
def FewP (r : Rw) : Prop := ∀ (c : R4) (m : Int) (w : World), RwV w r c → I64 m →
  Calls Try.prog 14 #[.agg #[.int .i64 c.k, .int .i64 c.n, .slice c.an c.ln c.cn, .slice c.ak c.lk c.ck], .int .i64 m] w fun e w' => e = .returned (.int .i64 (fewR r m)) ∧ Below w.heap.size w w'
/-- A kid's cells. -/
theorem kid_at {w : World} {a : Option Addr} {us : List R4} (h : RowV w (Any w) a 4 (us.map R4.cells)) (j : Nat) (hj : j < us.length) :
    ∃ g o, a = some ⟨g, o, none⟩ ∧ g < w.heap.size ∧ ∀ W : World, Below w.heap.size w W → W.cell? ⟨g, o + j * 4, none⟩ = some (.int .i64 us[j].k) ∧ W.cell? ⟨g, o + j * 4 + 1, none⟩ = some (.int .i64 us[j].n) ∧
      W.cell? ⟨g, o + j * 4 + 2, none⟩ = some (.slice us[j].an us[j].ln us[j].cn) ∧ W.cell? ⟨g, o + j * 4 + 3, none⟩ = some (.slice us[j].ak us[j].lk us[j].ck) := by
  rcases h with h | ⟨g, o, ha, hg, hc⟩
  · rw [List.map_eq_nil_iff.1 h] at hj; exact absurd hj (by simp)
  · refine ⟨g, o, ha, hg, fun W hW => ?_⟩
    have := fun i v hv => (World.cell?_of_block (a := ⟨g, o + j * 4 + i, none⟩) (hW.block g hg)).trans (hc j (by rw [List.length_map]; exact hj) i v (by rw [List.getElem_map]; exact hv))
    exact ⟨this 0 _ rfl, this 1 _ rfl, this 2 _ rfl, this 3 _ rfl⟩
structure FewRel (w0 : World) (bc : Array Value) (ks : List Rw) (full m0 : Int) (iv mv : Value) (wr : World) (j : Nat) (m : Int) : Prop where
  slot : iv = .int .i64 j
  left : mv = .int .i64 m
  le : j ≤ ks.length
  rest : fewL (ks.drop j) m = full
  lo : 0 ≤ m
  hi : m ≤ m0
  box : wr.heap[w0.heap.size]? = some (.cells bc 45 (0, 0))
  below : Below w0.heap.size w0 wr
set_option maxRecDepth 100000 in
set_option maxHeartbeats 8000000 in
theorem few_step (k n : Int) (ns : List Int) (ks : List Rw) (ih : ∀ i (h : i < ks.length), FewP ks[i]) : FewP (.mk k n ns ks) := by
  intro c m w hV hm
  have hV0 := hV
  cases hV with
  | mk _ _ _ _ an cn ak ck us hk hn hi hln hlk hl ha hb hu =>
    obtain ⟨hm1, hm2⟩ := hm
    unfold maxLen at hln hlk
    have HU := Lib.hid hu; have HB := Lib.hid hb; have HIH := Lib.hid ih; have HL := Lib.hid hl
    clear hu hb ih hi ha hV0
    by_cases h0 : m ≤ 0 ∨ 10 < ks.length ∨ 20 < ns.length
    · have e : fewR (.mk k n ns ks) m = 0 := by rw [fewR, if_pos h0]
      rw [e]
      have HE := Lib.hid e; clear e
      by_cases ha1 : m ≤ 0
      · go_enter Try.func14, Try.ntmps14
        go_wp2
        go_ret
        exact ⟨rfl, (Below.refl _ _).alloc (Nat.le_refl _) _⟩
      · by_cases hb1 : 10 < ks.length
        · have hb2 : (10 : Int) < (ks.length : Int) := by omega
          go_enter Try.func14, Try.ntmps14
          go_wp2
          go_ret
          exact ⟨rfl, (Below.refl _ _).alloc (Nat.le_refl _) _⟩
        · have hb2 : (ks.length : Int) ≤ 10 := by omega
          have hc2 : (20 : Int) < (ns.length : Int) := by omega
          go_enter Try.func14, Try.ntmps14
          go_wp2
          go_ret
          exact ⟨rfl, (Below.refl _ _).alloc (Nat.le_refl _) _⟩
    · have e : fewR (.mk k n ns ks) m = fewL ks (m - 1) := by rw [fewR, if_neg h0]
      have ha1 : 0 < m := by omega
      have hb2 : (ks.length : Int) ≤ 10 := by omega
      have hc2 : (ns.length : Int) ≤ 20 := by omega
      rw [e]
      have HE := Lib.hid e; clear e h0
      go_enter Try.func14, Try.ntmps14
      go_wp2
      go_loopw [5, 1] (fun iv mv wr => ∃ j x, FewRel w #[.int .i64 k, .int .i64 n, .slice an ns.length cn, .slice ak ks.length ck] ks (fewL ks (m - 1)) m iv mv wr j x) (fun iv _ _ => ks.length - (intOf iv).toNat)
      case atStart => exact ⟨0, m - 1, rfl, rfl, Nat.zero_le _, rfl, by omega, by omega, heap_alloc_new _ _, (Below.refl _ _).alloc (Nat.le_refl _) _⟩
      case round =>
        obtain ⟨j, x, h⟩ := hrel
        obtain rfl := h.slot
        obtain rfl := h.left
        have hle := h.le
        have hlo := h.lo
        have hhi := h.hi
        obtain ⟨⟨r0, r1, r2, r3⟩, _⟩ := four_blk h.box
        have H := Lib.hid h
        clear h
        by_cases hj : j < ks.length
        · by_cases hx : 0 < x
          · have hju : j < us.length := by rw [HL.out]; exact hj
            obtain ⟨g, o, rfl, hg, hc⟩ := kid_at HB.out j hju
            obtain ⟨q0, q1, q2, q3⟩ := hc _ H.out.below
            have C := HIH.out j hj us[j] x wr ((HU.out j hj hju).later H.out.below) ⟨by omega, by omega⟩
            have HC := Lib.hid C
            have hbd := fewR_bd ks[j] x
            have HBD := Lib.hid hbd
            have hrest : fewL (ks.drop (j + 1)) (fewR ks[j] x) = fewL ks (m - 1) := by
              have := H.out.rest
              rw [List.drop_eq_getElem_cons hj, fewL, if_pos hx] at this
              exact this
            have HR := Lib.hid hrest
            clear hc C hbd hrest
            go_wp2_with (go_at_call 14; (with_reducible refine HC.out.mono ?_); rintro e w2 ⟨rfl, x2⟩; have HX2 := Lib.hid x2; clear x2)
            go_roundw
            case rel => exact ⟨j + 1, _, by go_num, rfl, by omega, HR.out, HBD.out.2, by have := HBD.out.1; omega, (HX2.out.block _ (Array.getElem?_eq_some_iff.1 H.out.box).1).trans H.out.box, H.out.below.trans (HX2.out.mono H.out.below.size)⟩
            case measure => simp [intOf]; omega
          · have hx0 : x ≤ 0 := by omega
            have er : fewL ks (m - 1) = x := by
              have := H.out.rest
              rw [List.drop_eq_getElem_cons hj, fewL, if_neg hx] at this
              exact this.symm
            have HR := Lib.hid er; clear er
            go_wp2
            go_ret
            exact ⟨ret_intZ HR.out.symm, H.out.below⟩
        · have er : fewL ks (m - 1) = x := by
            have := H.out.rest
            rw [List.drop_of_length_le (by omega), fewL] at this
            exact this.symm
          have HR := Lib.hid er; clear er
          obtain rfl : j = ks.length := by omega
          go_wp2
          go_ret
          exact ⟨ret_intZ HR.out.symm, H.out.below⟩
theorem few_all : ∀ (N : Nat) (r : Rw), sizeR r ≤ N → FewP r
  | 0, .mk k n ns ks, h => by simp only [sizeR] at h; omega
  | N + 1, .mk k n ns ks, h => few_step k n ns ks fun i hi => few_all N ks[i] (by have := sizeR_mem ks i hi; simp only [sizeR] at h; omega)
theorem Few_any (r : Rw) : FewP r := few_all _ r (Nat.le_refl _)
end Sp
end Go.Proofs.Yteooafgdmpbjeab
namespace Go.Proofs.Yteooafgdmpbjeab
open Go.RowKit
namespace Sp
open Sc
set_option maxHeartbeats 400000 in
theorem within3_any (a n : Int) (w : World) (hn : 0 < n) (hn2 : n ≤ 1000000) (h1 : -9223372036854775808 ≤ a) (h2 : a ≤ 9223372036854775807) :
    Calls Try.prog 32 #[.int .i64 a, .int .i64 n] w fun e w' => e = .returned (.int .i64 (a % n)) ∧ w = w' := by
  have hb1 := Int.emod_nonneg a (show n ≠ 0 by omega)
  have hb2 := Int.emod_lt_of_pos a hn
  by_cases h0 : 0 ≤ a
  · go_enter Try.func32, Try.ntmps32
    go_wp2
    go_ret
    exact ⟨rfl, rfl⟩
  · have ht : a.tmod n = a % n - if 0 ≤ a ∨ n ∣ a then 0 else (n.natAbs : Int) := by rw [Int.tmod_eq_emod]; split <;> rfl
    by_cases hd : n ∣ a
    · have e0 : a % n = 0 := Int.emod_eq_zero_of_dvd hd
      rw [if_pos (Or.inr hd), e0] at ht
      rw [e0]
      clear hd e0
      have l1 : 0 ≤ a.tmod n := by omega
      have l2 : a.tmod n ≤ 0 := by omega
      clear hb1 hb2
      have HT := Lib.hid ht; clear ht
      go_enter Try.func32, Try.ntmps32
      go_wp2
      go_ret
      exact ⟨ret_intZ (by have := HT.out; omega), rfl⟩
    · rw [if_neg (fun h => h.elim h0 hd)] at ht
      have e0 : 0 < a % n := by
        rcases Int.lt_or_eq_of_le hb1 with h | h
        · exact h
        · exact absurd (Int.dvd_of_emod_eq_zero h.symm) hd
      have l1 : a.tmod n < 0 := by omega
      have l2 : -n < a.tmod n := by omega
      have l3 : a.tmod n + n = a % n := by omega
      clear hb1 hb2 ht hd e0
      have HT := Lib.hid l3; clear l3
      go_enter Try.func32, Try.ntmps32
      go_wp2
      go_ret
      exact ⟨ret_intZ (by have := HT.out; omega), rfl⟩
/-- within, its answer known. -/
theorem within3_is (a n k : Int) (w : World) (hn : 0 < n) (hn2 : n ≤ 1000000) (h1 : -9223372036854775808 ≤ a) (h2 : a ≤ 9223372036854775807) (hk : a % n = k) :
    Calls Try.prog 32 #[.int .i64 a, .int .i64 n] w fun e w' => e = .returned (.int .i64 k) ∧ w = w' := hk ▸ within3_any a n w hn hn2 h1 h2
def nameW : List (List UInt8) := [[97], [98], [99], [110, 97, 109, 101], [110], [73, 110, 116], [116, 121, 112, 101]]
/-- One of a few names. -/
def nameL (n : Int) : List UInt8 := nameW.getD (n % 7).toNat []
theorem nameW_at (k : Nat) (hk : k < 7) : ([.string ⟨#[97]⟩, .string ⟨#[98]⟩, .string ⟨#[99]⟩, .string ⟨#[110, 97, 109, 101]⟩, .string ⟨#[110]⟩, .string ⟨#[73, 110, 116]⟩, .string ⟨#[116, 121, 112, 101]⟩] : List Value)[k]? = some (.string ⟨(nameW.getD k []).toArray⟩) := by
  match k, hk with
  | 0, _ => rfl
  | 1, _ => rfl
  | 2, _ => rfl
  | 3, _ => rfl
  | 4, _ => rfl
  | 5, _ => rfl
  | 6, _ => rfl
set_option maxRecDepth 100000 in
set_option maxHeartbeats 1000000 in
theorem Name3_any (n : Int) (w : World) (h : I64 n) :
    Calls Try.prog 34 #[.int .i64 n] w fun e w' => e = .returned (.string ⟨(nameL n).toArray⟩) ∧ Below w.heap.size w w' := by
  obtain ⟨k, hk, hk7⟩ : ∃ k : Nat, n % 7 = k ∧ k < 7 := ⟨(n % 7).toNat, by omega, by omega⟩
  have e : nameL n = nameW.getD k [] := by unfold nameL; rw [hk]; rfl
  have hx := nameW_at k hk7
  rw [e]
  generalize nameW.getD k [] = x at *
  have hx' : ∀ h : k < ([.string ⟨#[97]⟩, .string ⟨#[98]⟩, .string ⟨#[99]⟩, .string ⟨#[110, 97, 109, 101]⟩, .string ⟨#[110]⟩, .string ⟨#[73, 110, 116]⟩, .string ⟨#[116, 121, 112, 101]⟩] : List Value).length, ([.string ⟨#[97]⟩, .string ⟨#[98]⟩, .string ⟨#[99]⟩, .string ⟨#[110, 97, 109, 101]⟩, .string ⟨#[110]⟩, .string ⟨#[73, 110, 116]⟩, .string ⟨#[116, 121, 112, 101]⟩] : List Value)[k] = .string ⟨x.toArray⟩ := fun h => (List.getElem?_eq_some_iff.1 hx).2
  obtain ⟨h1, h2⟩ := h
  have HK := Lib.hid hk
  clear hk hx e
  go_enter Try.func34, Try.ntmps34
  go_wp2_with (go_at_call 32; (with_reducible refine (within3_is _ _ _ _ (by omega) (by omega) h1 h2 HK.out).mono ?_); rintro e w2 ⟨rfl, rfl⟩)
  go_ret
  exact ⟨rfl, (Below.refl _ _).alloc (Nat.le_refl _) _⟩
/-- One of a Raw's kids; or the Raw itself without kids. -/
def kidR : Rw → Nat → Rw
  | .mk k n _ ks, i => if ks.length = 0 then .mk (wrap64 (n + i)) k [] [] else ks.getD (i % ks.length) default
/-- What a call of kid leaves. -/
def KidP (r : Rw) (w : World) (e : Ending) (w' : World) : Prop := ∃ c : R4, e = .returned (.agg #[.int .i64 c.k, .int .i64 c.n, .slice c.an c.ln c.cn, .slice c.ak c.lk c.ck]) ∧ RwV w' r c ∧ Below w.heap.size w w'
/-- The four cells of a Raw are written. -/
def putR (w : World) (b : Nat) (c : R4) : World :=
  (((w.setCell ⟨b, 0, none⟩ (.int .i64 c.k)).setCell ⟨b, 1, none⟩ (.int .i64 c.n)).setCell ⟨b, 2, none⟩ (.slice c.an c.ln c.cn)).setCell ⟨b, 3, none⟩ (.slice c.ak c.lk c.ck)
theorem putR_only (w : World) (b : Nat) (c : R4) : Only b w (putR w b c) := ((((Only.refl b w).setCell 0 _).setCell 1 _).setCell 2 _).setCell 3 _
theorem putR_at {w : World} {b : Nat} {v0 v1 v2 v3 : Value} {ty : TypeId} {fr : Nat × Nat} (h : w.heap[b]? = some (.cells #[v0, v1, v2, v3] ty fr)) (c : R4) :
    (putR w b c).heap[b]? = some (.cells #[.int .i64 c.k, .int .i64 c.n, .slice c.an c.ln c.cn, .slice c.ak c.lk c.ck] ty fr) := by
  simp [putR, World.setCell, Array.getElem?_modify, h]
set_option maxRecDepth 100000 in
set_option maxHeartbeats 2000000 in
theorem kid_any (r : Rw) (c : R4) (i : Nat) (w : World) (hi : i ≤ 1000) (hV : RwV w r c) :
    Calls Try.prog 33 #[.agg #[.int .i64 c.k, .int .i64 c.n, .slice c.an c.ln c.cn, .slice c.ak c.lk c.ck], .int .i64 i] w (KidP (kidR r i) w) := by
  cases hV with
  | mk k n ns ks an cn ak ck us hk hn hii hln hlk hl ha hb hu =>
    have hk' := hk
    obtain ⟨hk1, hk2⟩ := hk
    obtain ⟨hn1, hn2⟩ := hn
    unfold maxLen at hln hlk
    by_cases h0 : ks.length = 0
    · obtain rfl : ks = [] := List.eq_nil_of_length_eq_zero h0
      obtain rfl : us = [] := List.eq_nil_of_length_eq_zero (by rw [hl]; rfl)
      have e : kidR (.mk k n ns []) i = .mk (wrap64 (n + i)) k [] [] := rfl
      rw [e]
      have hw := wrap64_bd (n + i)
      have HW := Lib.hid hw
      clear e hw hu hb hl ha hii
      go_enter Try.func33, Try.ntmps33
      go_wp2
      refine bodyPost_ret (v := .agg #[.int .i64 (wrap64 (n + i)), .int .i64 k, .slice none 0 0, .slice none 0 0]) (by simp [results, Try.results33, go_sem]) rfl ?_
      exact ⟨⟨wrap64 (n + i), k, none, 0, 0, none, 0, 0⟩, rfl, .mk _ k [] [] none 0 none 0 [] HW.out hk' (fun i h => by cases h) (by decide) (by decide) rfl (.inl rfl) (.inl rfl) (fun i h => by cases h), ((Below.refl _ _).alloc (Nat.le_refl _) _).alloc (by simp) _⟩
    · have hpos : 0 < ks.length := by omega
      obtain ⟨j, hj⟩ : ∃ j, j = i % ks.length := ⟨_, rfl⟩
      have hjl : j < ks.length := hj ▸ Nat.mod_lt i hpos
      have hju : j < us.length := by rw [hl]; exact hjl
      have e : kidR (.mk k n ns ks) i = ks[j] := by show (if ks.length = 0 then _ else ks.getD (i % ks.length) default) = _; rw [if_neg h0, ← hj]; simp [List.getD, List.getElem?_eq_getElem hjl]
      rw [e]
      obtain ⟨g, o, rfl, hg, hc⟩ := kid_at hb j hju
      have hV2 := hu j hjl hju
      have hlz : ((ks.length : Int) == 0) = false := by rw [beq_eq_false_iff_ne]; omega
      have hlz2 : (0 : Int) < (ks.length : Int) := by omega
      have hj0 : (0 : Int) ≤ (j : Int) := by omega
      have hj1 : (j : Int) < (ks.length : Int) := by omega
      have hmod : ((i : Int).tmod (ks.length : Int)) = (j : Int) := by rw [Int.tmod_eq_emod_of_nonneg (by omega), hj]; simp
      have hne : ¬ (ks.length : Int) = 0 := by omega
      have hne1 : ¬ ks.length = 0 := by omega
      have hne2 : ¬ ks = [] := fun h => by rw [h] at hpos; exact Nat.lt_irrefl _ hpos
      have hjn : (j : Int).toNat = j := by simp
      obtain ⟨W0, hW0⟩ : ∃ W0, W0 = (w.alloc (.cells #[.int .i64 k, .int .i64 n, .slice an ns.length cn, .slice (some ⟨g, o, none⟩) ks.length ck] 45)).alloc (.cells #[.int .i64 0, .int .i64 0, .slice none 0 0, .slice none 0 0] 45) := ⟨_, rfl⟩
      have hb0 : Below w.heap.size w W0 := by rw [hW0]; exact ((Below.refl _ _).alloc (Nat.le_refl _) _).alloc (by simp) _
      obtain ⟨q0, q1, q2, q3⟩ := hc W0 hb0
      have hbx : W0.heap[w.heap.size]? = some (.cells #[.int .i64 k, .int .i64 n, .slice an ns.length cn, .slice (some ⟨g, o, none⟩) ks.length ck] 45 (0, 0)) := by rw [hW0, blk_if, if_neg (by simp), blk_if, if_pos rfl]
      obtain ⟨⟨r0, r1, r2, r3⟩, _⟩ := four_blk hbx
      have hrs : W0.heap[w.heap.size + 1]? = some (.cells #[.int .i64 0, .int .i64 0, .slice none 0 0, .slice none 0 0] 45 (0, 0)) := by rw [hW0, blk_if, if_pos (by simp)]
      obtain ⟨⟨t0, t1, t2, t3⟩, ⟨f0, f1, f2, f3⟩⟩ := four_blk hrs
      have hgz : g ≠ w.heap.size + 1 := by omega
      have hgz2 : ¬ w.heap.size + 1 = g := by omega
      have hgz3 : ¬ g = w.heap.size + 1 := by omega
      have HRS := Lib.hid hrs; clear hrs
      have HV2 := Lib.hid hV2; have HB0 := Lib.hid hb0; have HW0 := Lib.hid hW0
      clear hj hV2 hb0 hW0 hbx hu hb ha hii h0 hl e hc
      go_enter Try.func33, Try.ntmps33
      go_wp2_with fail
      rw [← HW0.out]
      go_region_held3 (fun w' => w'.cell? ⟨w.heap.size, 3, none⟩ = some (.slice (some ⟨g, o, none⟩) ks.length ck) ∧ w'.cell? ⟨g, o + j * 4, none⟩ = some (.int .i64 us[j].k) ∧ w'.cell? ⟨g, o + j * 4 + 1, none⟩ = some (.int .i64 us[j].n) ∧
        w'.cell? ⟨g, o + j * 4 + 2, none⟩ = some (.slice us[j].an us[j].ln us[j].cn) ∧ w'.cell? ⟨g, o + j * 4 + 3, none⟩ = some (.slice us[j].ak us[j].lk us[j].ck)) (go_keep) (fail)
      obtain ⟨⟨v0, v1, v2, v3⟩, _⟩ := four_blk (putR_at HRS.out us[j])
      have hbl : Below w.heap.size w (putR W0 (w.heap.size + 1) us[j]).drew := (HB0.out.trans ((putR_only W0 (w.heap.size + 1) us[j]).below (by omega) HB0.out.size)).drew
      have HBL := Lib.hid hbl
      clear hbl t0 t1 t2 t3 q0 q1 q2 q3 r0 r1 r2 r3
      unfold putR at v0 v1 v2 v3
      go_wp2
      refine bodyPost_ret (v := .agg #[.int .i64 us[j].k, .int .i64 us[j].n, .slice us[j].an us[j].ln us[j].cn, .slice us[j].ak us[j].lk us[j].ck]) (by simp [results, Try.results33, go_sem, v0, v1, v2, v3]) rfl ?_
      exact ⟨us[j], rfl, HV2.out.later HBL.out, HBL.out⟩
end Sp
end Go.Proofs.Yteooafgdmpbjeab
