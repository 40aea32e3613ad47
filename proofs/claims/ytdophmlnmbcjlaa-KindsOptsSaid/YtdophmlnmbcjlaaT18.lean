/- What types are made of (Raw), as an argument: how it lies in memory, opened out of what the reading says. -/
import Derived.Test.YtdophmlnmbcjlaaT17
import Derived.ProofKit
import Derived.OpenShut
import Derived.ChangeOld
import Derived.ChangeArms
namespace Go.Proofs.Ytdophmlnmbcjlaa
open Go.ChangeShapes Go.WideShapes Go.ChangeAt Go.RowKit
namespace Sp
open Sc
/-- What a type is made of. -/
inductive Rw where
  | mk (k n : Int) (ns : List Int) (ks : List Rw) : Rw
deriving Inhabited
/-- What a variable of that type holds. -/
structure R4 where
  k : Int
  n : Int
  an : Option Addr
  ln : Nat
  cn : Nat
  ak : Option Addr
  lk : Nat
  ck : Nat
deriving Inhabited
def R4.cells (c : R4) : List Value := [.int .i64 c.k, .int .i64 c.n, .slice c.an c.ln c.cn, .slice c.ak c.lk c.ck]
def I64 (n : Int) : Prop := -9223372036854775808 ≤ n ∧ n ≤ 9223372036854775807
theorem i64_of {n : Int} (h : (Lit.int .i64 n).wf = true) : I64 n := bounds_i64 h
/-- A Raw lies at these cells; all that it leads to lies in blocks that there are. -/
inductive RwV (w : World) : Rw → R4 → Prop where
  | mk (k n : Int) (ns : List Int) (ks : List Rw) (an : Option Addr) (cn : Nat) (ak : Option Addr) (ck : Nat) (us : List R4) (hk : I64 k) (hn : I64 n) (hi : ∀ i ∈ ns, I64 i) (hln : ns.length ≤ maxLen) (hlk : ks.length ≤ maxLen) (hl : us.length = ks.length)
      (ha : RowV w (Any w) an 1 (ns.map fun i => [.int .i64 i])) (hb : RowV w (Any w) ak 4 (us.map R4.cells)) (hu : ∀ i (h : i < ks.length) (h' : i < us.length), RwV w ks[i] us[i]) :
      RwV w (.mk k n ns ks) ⟨k, n, an, ns.length, cn, ak, ks.length, ck⟩
theorem RwV.later {w w' : World} {r : Rw} {c : R4} (h : RwV w r c) (hb : Below w.heap.size w w') : RwV w' r c := by
  induction h with
  | mk k n ns ks an cn ak ck us hk hn hi hln hlk hl ha hb' hu ih =>
    exact .mk k n ns ks an cn ak ck us hk hn hi hln hlk hl (ha.keep (fun _ hg => Nat.lt_of_lt_of_le hg hb.size) (fun g hg => hb.block g hg)) (hb'.keep (fun _ hg => Nat.lt_of_lt_of_le hg hb.size) (fun g hg => hb.block g hg)) ih
/-- Cells that are read at an address: a plain one. -/
theorem addr_plain {w : World} {a : Addr} {i : Nat} {v : Value} (h : w.cell? (a.add i) = some v) (hi : i = 0) : ∃ b o, a = ⟨b, o, none⟩ ∧ b < w.heap.size := by
  obtain ⟨b, o, spot⟩ := a
  subst hi
  have hspot : spot = none := by simpa [Addr.add] using World.cell?_spot h
  subst hspot
  exact ⟨b, o, rfl, World.block_lt_of_cell? (a := ⟨b, o, none⟩) _ (by simpa [Addr.add] using h)⟩
theorem add_addW (b o i j : Nat) : ((⟨b, o, none⟩ : Addr).add i).add j = ⟨b, o + i + j, none⟩ := by rw [Addr.add_lit, Addr.add_lit]
theorem rowV_of {w : World} {a : Addr} {k : Nat} {l : List (List Value)} (hk : 0 < k) (hl : ∀ x ∈ l, x.length = k) (h : ∀ i (hi : i < l.length) j v, (l[i])[j]? = some v → w.cell? ((a.add (i * k)).add j) = some v) : RowV w (Any w) (some a) k l := by
  by_cases h0 : l = []
  · exact .inl h0
  · have hp : 0 < l.length := List.length_pos_iff.2 h0
    have hlen := hl l[0] (List.getElem_mem hp)
    have h1 := h 0 hp 0 (l[0])[0] (List.getElem?_eq_getElem (by omega))
    obtain ⟨b, o, rfl, hb⟩ := addr_plain (i := 0) (by simpa [Addr.add] using h1) rfl
    exact .inr ⟨b, o, rfl, hb, fun i hi j v hv => by rw [← add_addW]; exact h i hi j v hv⟩
set_option maxRecDepth 100000 in
theorem open_raw {H : Type} {enc : TypeId × Value → H} {w : World} : ∀ (fuel : Nat) (cs : List Value) (x : DataW H × List MemPlace), DataW.trod enc Try.prog w 0 (fun _ => true) true fuel 54 cs = some x → ∃ r c, cs = R4.cells c ∧ RwV w r c := by
  intro fuel
  induction fuel using Nat.strongRecOn with
  | _ fuel ih =>
    intro cs x h
    obtain ⟨xs, n, rfl, _, hlen, hxl, hx⟩ := DataW.trod_struct Try.underlying54 h
    have hcR : Try.prog.cellsOf 54 = 4 := by kernel_rfl
    have hcI : Try.prog.cellsOf 3 = 1 := by kernel_rfl
    have hcN : Try.prog.cellsOf 39 = 1 := by kernel_rfl
    have hcK : Try.prog.cellsOf 52 = 1 := by kernel_rfl
    rw [hcR] at hlen
    obtain ⟨c0, c1, c2, c3, rfl⟩ : ∃ c0 c1 c2 c3, cs = [c0, c1, c2, c3] := match cs, hlen with | [a, b, c, d], _ => ⟨a, b, c, d, rfl⟩
    have hxl : xs.length = 4 := hxl
    have e0 := hx 0 _ rfl
    have e1 := hx 1 _ rfl
    have e2 := hx 2 _ rfl
    have e3 := hx 3 _ rfl
    rw [List.getElem?_eq_getElem (by omega)] at e0 e1 e2 e3
    simp only [List.getElem_toArray, List.getElem_cons_zero, List.getElem_cons_succ, hcI, hcN, hcK, List.drop_zero, List.drop_succ_cons, List.take_succ_cons, List.take_zero] at e0 e1 e2 e3
    obtain ⟨k, q0, _, hk⟩ := DataW.trod_int Try.underlying3 e0
    obtain ⟨m, q1, _, hm⟩ := DataW.trod_int Try.underlying3 e1
    cases q0
    cases q1
    have hnames : ∃ an ln cn ns, c2 = .slice an ln cn ∧ ln = List.length ns ∧ ns.length ≤ maxLen ∧ (∀ i ∈ ns, I64 i) ∧ RowV w (Any w) an 1 (ns.map fun i => [Value.int .i64 i]) := by
      rcases open_ints Try.underlying39 Try.underlying3 hcI e2 with ⟨hcs, _⟩ | ⟨a, l, c, zs, hcs, _, hl, hm, hz, _, hcell, hwz⟩
      · cases hcs
        exact ⟨none, 0, 0, [], rfl, rfl, by decide, (fun i h => by cases h), .inl rfl⟩
      · cases hcs
        have hz : zs.length = c := hz
        refine ⟨some a, l, c, zs.take l, rfl, by rw [List.length_take]; omega, by rw [List.length_take]; omega, fun i h => i64_of (hwz i (List.mem_of_mem_take h)), rowV_of (by decide) (fun x hx => by obtain ⟨y, _, rfl⟩ := List.mem_map.1 hx; rfl) (fun i hi j v hv => ?_)⟩
        rw [List.length_map, List.length_take] at hi
        rw [List.getElem_map, List.getElem_take] at hv
        have hj : j = 0 := by
          have := (List.getElem?_eq_some_iff.1 hv).1
          simpa using this
        subst hj
        have hv : some (Value.int .i64 zs[i]) = some v := hv
        cases hv
        rw [Addr.add_zero', Nat.mul_one, hcell i (by omega)]
        simp [List.getD, List.getElem?_eq_getElem (show i < zs.length by omega)]
    have hkids : ∃ ak lk ck, ∃ ks : List Rw, ∃ us : List R4, c3 = .slice ak lk ck ∧ lk = ks.length ∧ ks.length ≤ maxLen ∧ us.length = ks.length ∧ RowV w (Any w) ak 4 (us.map R4.cells) ∧ ∀ i (h : i < ks.length) (h' : i < us.length), RwV w ks[i] us[i] := by
      rcases DataW.trod_slice Try.underlying52 e3 with ⟨hcs, _⟩ | ⟨a, l, c, elems, rest, m', hm', hcs, _, _, hl, hmx, hel, hx3, _⟩
      · cases hcs
        exact ⟨none, 0, 0, [], [], rfl, rfl, by decide, rfl, .inl rfl, fun i h => by cases h⟩
      · cases hcs
        have each : ∀ i, i < l → ∃ r : Rw, ∃ c : R4, RwV w r c ∧ ∀ j v, c.cells[j]? = some v → w.cell? ((a.add (i * 4)).add j) = some v := fun i hi => by
          have h1 := hx3 i hi
          rw [hcR, List.getElem?_eq_getElem (by omega)] at h1
          obtain ⟨cl, h2, h3⟩ := Option.bind_eq_some_iff.1 h1
          obtain ⟨r, cc, rfl, hr⟩ := ih m' (by omega) cl _ h3
          obtain ⟨_, _, h4⟩ := World.cells?_some h2
          refine ⟨r, cc, hr, fun j v hv => ?_⟩
          have hj : j < 4 := (List.getElem?_eq_some_iff.1 hv).1
          rw [h4 j hj]; exact hv
        obtain ⟨f, hf⟩ : ∃ f : Nat → Rw × R4, ∀ i, i < l → RwV w (f i).1 (f i).2 ∧ ∀ j v, (f i).2.cells[j]? = some v → w.cell? ((a.add (i * 4)).add j) = some v :=
          ⟨fun i => if h : i < l then ((each i h).choose, (each i h).choose_spec.choose) else default, fun i hi => by simp only [dif_pos hi]; exact (each i hi).choose_spec.choose_spec⟩
        refine ⟨some a, l, c, (List.range l).map fun i => (f i).1, (List.range l).map fun i => (f i).2, rfl, by simp, by simp; omega, by simp, rowV_of (by decide) (fun x hx => by obtain ⟨y, _, rfl⟩ := List.mem_map.1 hx; rfl) (fun i hi j v hv => ?_), fun i h1 h2 => ?_⟩
        · simp only [List.length_map, List.length_range] at hi
          simp only [List.getElem_map, List.getElem_range] at hv
          exact (hf i hi).2 j v hv
        · simp only [List.length_map, List.length_range] at h1
          simp only [List.getElem_map, List.getElem_range]
          exact (hf i h1).1
    obtain ⟨an, ln, cn, ns, rfl, rfl, hnl, hni, hnr⟩ := hnames
    obtain ⟨ak, lk, ck, ks, us, rfl, rfl, hkl, hul, hkr, hku⟩ := hkids
    exact ⟨.mk k m ns ks, ⟨k, m, an, ns.length, cn, ak, ks.length, ck⟩, rfl, .mk k m ns ks an cn ak ck us (i64_of hk) (i64_of hm) hni hnl hkl hul hnr hkr hku⟩
end Sp
end Go.Proofs.Ytdophmlnmbcjlaa
namespace Go.Proofs.Ytdophmlnmbcjlaa
open Go.RowKit
namespace Sp
open Sc
mutual
def fewR : Rw → Int → Int
  | .mk _ _ ns ks, m => if m ≤ 0 ∨ 10 < ks.length ∨ 20 < ns.length then 0 else fewL ks (m - 1)
def fewL : List Rw → Int → Int
  | [], m => m
  | r :: ks, m => if 0 < m then fewL ks (fewR r m) else m
end
mutual
def sizeR : Rw → Nat
  | .mk _ _ _ ks => 1 + sizeRs ks
def sizeRs : List Rw → Nat
  | [] => 0
  | r :: ks => sizeR r + sizeRs ks
end
theorem sizeR_mem : ∀ (ks : List Rw) (k : Nat) (h : k < ks.length), sizeR ks[k] ≤ sizeRs ks
  | t :: ks, 0, _ => by simp only [List.getElem_cons_zero, sizeRs]; omega
  | t :: ks, k + 1, h => by have := sizeR_mem ks k (by simpa using h); simp only [List.getElem_cons_succ, sizeRs]; omega
mutual
theorem fewR_bd : ∀ (r : Rw) (m : Int), fewR r m ≤ max m 0 ∧ 0 ≤ fewR r m
  | .mk k n ns ks, m => by
    rw [fewR]
    split
    · omega
    · have := fewL_bd ks (m - 1) (by omega); omega
theorem fewL_bd : ∀ (ks : List Rw) (m : Int), 0 ≤ m → fewL ks m ≤ m ∧ 0 ≤ fewL ks m
  | [], m, h => by rw [fewL]; omega
  | r :: ks, m, h => by
    rw [fewL]
    split
    · have a := fewR_bd r m
      have := fewL_bd ks (fewR r m) (by omega)
      omega
    · omega
end
/-- What a call of Few leaves. -/
def FewP (r : Rw) : Prop := ∀ (c : R4) (m : Int) (w : World), RwV w r c → I64 m →
  Calls Try.prog 18 #[.agg #[.int .i64 c.k, .int .i64 c.n, .slice c.an c.ln c.cn, .slice c.ak c.lk c.ck], .int .i64 m] w fun e w' => e = .returned (.int .i64 (fewR r m)) ∧ Below w.heap.size w w'
/-- A kid's cells. -/
theorem kid_at {w : World} {a : Option Addr} {us : List R4} (h : RowV w (Any w) a 4 (us.map R4.cells)) (j : Nat) (hj : j < us.length) :
    ∃ g o, a = some ⟨g, o, none⟩ ∧ g < w.heap.size ∧ ∀ W : World, Below w.heap.size w W → W.cell? ⟨g, o + j * 4, none⟩ = some (.int .i64 us[j].k) ∧ W.cell? ⟨g, o + j * 4 + 1, none⟩ = some (.int .i64 us[j].n) ∧
      W.cell? ⟨g, o + j * 4 + 2, none⟩ = some (.slice us[j].an us[j].ln us[j].cn) ∧ W.cell? ⟨g, o + j * 4 + 3, none⟩ = some (.slice us[j].ak us[j].lk us[j].ck) := by
  rcases h with h | ⟨g, o, ha, hg, hc⟩
  · rw [List.map_eq_nil_iff.1 h] at hj; exact absurd hj (by simp)
  · refine ⟨g, o, ha, hg, fun W hW => ?_⟩
    have := fun i v hv => (World.cell?_of_block (a := ⟨g, o + j * 4 + i, none⟩) (hW.block g hg)).trans (hc j (by rw [List.length_map]; exact hj) i v (by rw [List.getElem_map]; exact hv))
    exact ⟨this 0 _ rfl, this 1 _ rfl, this 2 _ rfl, this 3 _ rfl⟩
structure FewRel (w0 : World) (bc : Array Value) (ks : List Rw) (full m0 : Int) (iv mv : Value) (wr : World) (j : Nat) (m : Int) : Prop where
  slot : iv = .int .i64 j
  left : mv = .int .i64 m
  le : j ≤ ks.length
  rest : fewL (ks.drop j) m = full
  lo : 0 ≤ m
  hi : m ≤ m0
  box : wr.heap[w0.heap.size]? = some (.cells bc 54 (0, 0))
  below : Below w0.heap.size w0 wr
set_option maxRecDepth 100000 in
set_option maxHeartbeats 8000000 in
theorem few_step (k n : Int) (ns : List Int) (ks : List Rw) (ih : ∀ i (h : i < ks.length), FewP ks[i]) : FewP (.mk k n ns ks) := by
  intro c m w hV hm
  have hV0 := hV
  cases hV with
  | mk _ _ _ _ an cn ak ck us hk hn hi hln hlk hl ha hb hu =>
    obtain ⟨hm1, hm2⟩ := hm
    unfold maxLen at hln hlk
    have HU := Lib.hid hu; have HB := Lib.hid hb; have HIH := Lib.hid ih; have HL := Lib.hid hl
    clear hu hb ih hi ha hV0
    by_cases h0 : m ≤ 0 ∨ 10 < ks.length ∨ 20 < ns.length
    · have e : fewR (.mk k n ns ks) m = 0 := by rw [fewR, if_pos h0]
      rw [e]
      have HE := Lib.hid e; clear e
      by_cases ha1 : m ≤ 0
      · go_enter Try.func18, Try.ntmps18
        go_wp2
        go_ret
        exact ⟨rfl, (Below.refl _ _).alloc (Nat.le_refl _) _⟩
      · by_cases hb1 : 10 < ks.length
        · have hb2 : (10 : Int) < (ks.length : Int) := by omega
          go_enter Try.func18, Try.ntmps18
          go_wp2
          go_ret
          exact ⟨rfl, (Below.refl _ _).alloc (Nat.le_refl _) _⟩
        · have hb2 : (ks.length : Int) ≤ 10 := by omega
          have hc2 : (20 : Int) < (ns.length : Int) := by omega
          go_enter Try.func18, Try.ntmps18
          go_wp2
          go_ret
          exact ⟨rfl, (Below.refl _ _).alloc (Nat.le_refl _) _⟩
    · have e : fewR (.mk k n ns ks) m = fewL ks (m - 1) := by rw [fewR, if_neg h0]
      have ha1 : 0 < m := by omega
      have hb2 : (ks.length : Int) ≤ 10 := by omega
      have hc2 : (ns.length : Int) ≤ 20 := by omega
      rw [e]
      have HE := Lib.hid e; clear e h0
      go_enter Try.func18, Try.ntmps18
      go_wp2
      go_loopw [5, 1] (fun iv mv wr => ∃ j x, FewRel w #[.int .i64 k, .int .i64 n, .slice an ns.length cn, .slice ak ks.length ck] ks (fewL ks (m - 1)) m iv mv wr j x) (fun iv _ _ => ks.length - (intOf iv).toNat)
      case atStart => exact ⟨0, m - 1, rfl, rfl, Nat.zero_le _, rfl, by omega, by omega, heap_alloc_new _ _, (Below.refl _ _).alloc (Nat.le_refl _) _⟩
      case round =>
        obtain ⟨j, x, h⟩ := hrel
        obtain rfl := h.slot
        obtain rfl := h.left
        have hle := h.le
        have hlo := h.lo
        have hhi := h.hi
        obtain ⟨⟨r0, r1, r2, r3⟩, _⟩ := four_blk h.box
        have H := Lib.hid h
        clear h
        by_cases hj : j < ks.length
        · by_cases hx : 0 < x
          · have hju : j < us.length := by rw [HL.out]; exact hj
            obtain ⟨g, o, rfl, hg, hc⟩ := kid_at HB.out j hju
            obtain ⟨q0, q1, q2, q3⟩ := hc _ H.out.below
            have C := HIH.out j hj us[j] x wr ((HU.out j hj hju).later H.out.below) ⟨by omega, by omega⟩
            have HC := Lib.hid C
            have hbd := fewR_bd ks[j] x
            have HBD := Lib.hid hbd
            have hrest : fewL (ks.drop (j + 1)) (fewR ks[j] x) = fewL ks (m - 1) := by
              have := H.out.rest
              rw [List.drop_eq_getElem_cons hj, fewL, if_pos hx] at this
              exact this
            have HR := Lib.hid hrest
            clear hc C hbd hrest
            go_wp2_with (go_at_call 18; (with_reducible refine HC.out.mono ?_); rintro e w2 ⟨rfl, x2⟩; have HX2 := Lib.hid x2; clear x2)
            go_roundw
            case rel => exact ⟨j + 1, _, by go_num, rfl, by omega, HR.out, HBD.out.2, by have := HBD.out.1; omega, (HX2.out.block _ (Array.getElem?_eq_some_iff.1 H.out.box).1).trans H.out.box, H.out.below.trans (HX2.out.mono H.out.below.size)⟩
            case measure => simp [intOf]; omega
          · have hx0 : x ≤ 0 := by omega
            have er : fewL ks (m - 1) = x := by
              have := H.out.rest
              rw [List.drop_eq_getElem_cons hj, fewL, if_neg hx] at this
              exact this.symm
            have HR := Lib.hid er; clear er
            go_wp2
            go_ret
            exact ⟨ret_intZ HR.out.symm, H.out.below⟩
        · have er : fewL ks (m - 1) = x := by
            have := H.out.rest
            rw [List.drop_of_length_le (by omega), fewL] at this
            exact this.symm
          have HR := Lib.hid er; clear er
          obtain rfl : j = ks.length := by omega
          go_wp2
          go_ret
          exact ⟨ret_intZ HR.out.symm, H.out.below⟩
theorem few_all : ∀ (N : Nat) (r : Rw), sizeR r ≤ N → FewP r
  | 0, .mk k n ns ks, h => by simp only [sizeR] at h; omega
  | N + 1, .mk k n ns ks, h => few_step k n ns ks fun i hi => few_all N ks[i] (by have := sizeR_mem ks i hi; simp only [sizeR] at h; omega)
theorem Few_any (r : Rw) : FewP r := few_all _ r (Nat.le_refl _)
end Sp
end Go.Proofs.Ytdophmlnmbcjlaa
