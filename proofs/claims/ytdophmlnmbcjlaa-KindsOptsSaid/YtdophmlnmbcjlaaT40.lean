/- namedTypes: what each named type stands for, in order. -/
import Derived.Test.YtdophmlnmbcjlaaT39
namespace Go.Proofs.Ytdophmlnmbcjlaa
open Go.RowKit
namespace Sp
open Sc
set_option maxRecDepth 100000
/-- A table that lies wholly in blocks from B on, with its names and functions. -/
structure StV (B : Nat) (w : World) (tb rb nb mb sb m : Nat) (ty nu : Value) (T : List Kz) (N : List NN) (G : List GN) (vs : List Value) : Prop where
  tab : TabV w tb rb nb mb sb m ty nu T
  names : TxtV w mb (encNN N)
  sgs : FnsV w sb G vs
  lo : ∀ g, Own tb rb nb g → B ≤ g
  mlo : B ≤ mb
  slo : B ≤ sb
  ms : mb ≠ sb
section
variable {B : Nat} {w w' : World} {tb rb nb mb sb m rb' nb' : Nat} {ty nu ty' nu' : Value} {T T' : List Kz} {N : List NN} {G : List GN} {vs : List Value}
theorem StV.add (h : StV B w tb rb nb mb sb m ty nu T N G vs) (ha : Added w w' tb rb nb mb sb m T' rb' nb' ty' nu') (hB : B ≤ w.heap.size) : StV B w' tb rb' nb' mb sb m ty' nu' T' N G vs ∧ Below B w w' := by
  refine ⟨⟨ha.tab, h.tab.txt ha.keeps (fun e => h.tab.nm e.symm) h.names, h.tab.sgs ha.keeps h.sgs, fun g hg => ?_, h.mlo, h.slo, h.ms⟩, ha.keeps.below hB h.lo⟩
  rcases ha.grew.own g hg with h1 | h1
  · exact h.lo g h1
  · omega
theorem FnsV.same (h : FnsV w sb G vs) (hm : w'.heap[sb]? = w.heap[sb]?) (hk : ∀ (g : Nat) (cs : Array Value) (fr : Nat × Nat), w.heap[g]? = some (Obj.cells cs 3 fr) → w'.heap[g]? = w.heap[g]?) : FnsV w' sb G vs :=
  ⟨h.len, h.map.same hm, fun i h1 h2 => (h.row i h1 h2).keep hk⟩
theorem StV.stand (h : StV B w tb rb nb mb sb m ty nu T N G vs) {N' : List NN} (hn : TxtV w' mb (encNN N')) (hk : Keeps (fun g => g = mb) w w') (hB : B ≤ w.heap.size) : StV B w' tb rb nb mb sb m ty nu T N' G vs ∧ Below B w w' := by
  obtain ⟨es, c, hm⟩ := h.names.isMap
  have hne : ∀ g, Own tb rb nb g → g ≠ mb := fun g hg e => by
    subst e
    rcases h.tab.kinds hg with ⟨cs, t, h1, -⟩ | ⟨h1, -⟩
    · rw [hm] at h1; cases h1
    · exact h.tab.nm h1.symm
  refine ⟨⟨h.tab.keep (fun g hg => hk.block g (h.tab.lt hg) (hne g hg)) hk.size, hn, h.sgs.same (hk.block sb h.sgs.map.lt (fun e => h.ms e.symm)) (fun g cs fr hg => hk.block g (Array.getElem?_eq_some_iff.1 hg).1 (fun e => by rw [e, hm] at hg; cases hg)), h.lo, h.mlo, h.slo, h.ms⟩, hk.below hB fun g e => by rw [e]; exact h.mlo⟩
theorem StV.below (h : StV B w tb rb nb mb sb m ty nu T N G vs) (hb : Below w.heap.size w w') : StV B w' tb rb nb mb sb m ty nu T N G vs :=
  ⟨h.tab.below hb, h.names.below hb, h.sgs.same (hb.block sb h.sgs.map.lt) (fun g _ _ hg => hb.block g (Array.getElem?_eq_some_iff.1 hg).1), h.lo, h.mlo, h.slo, h.ms⟩
/-- Blocks below B are none of the table's. -/
theorem StV.far (h : StV B w tb rb nb mb sb m ty nu T N G vs) {g : Nat} (hg : g < B) : ¬ Own tb rb nb g := fun ho => by have := h.lo g ho; omega
end
theorem zerosN_snoc (l : List NT) (j : Nat) (h : j < l.length) : zerosN (l.take (j + 1)) = zerosN (l.take j) ++ [(l[j].1, 0)] := by
  unfold zerosN
  rw [List.take_add_one, List.getElem?_eq_getElem h, List.map_append]; rfl
theorem namK_drop {has : List UInt8 → Bool} {T : List Kz} {N : List NN} {l : List NT} {j : Nat} (h : j < l.length) : namK has T N (l.drop j) = if (addK has T l[j].2).2.1 = 0 then namK has (addK has T l[j].2).2.2 (N ++ [(l[j].1, (addK has T l[j].2).1)]) (l.drop (j + 1)) else ((addK has T l[j].2).2.1, (addK has T l[j].2).2.2, N) := by
  rw [List.drop_eq_getElem_cons h, namK]
/-- All blocks that a table writes. -/
def TabO (tb rb nb mb sb g : Nat) : Prop := Own tb rb nb g ∨ g = mb ∨ g = sb
theorem Keeps.tabO {tb rb nb mb sb rb' nb' : Nat} {w wr w2 : World} (h : Keeps (TabO tb rb nb mb sb) w wr) (hg : Grew w tb rb nb rb' nb') (k : Keeps (TabO tb rb' nb' mb sb) wr w2) : Keeps (TabO tb rb nb mb sb) w w2 :=
  h.trans k fun g ho => by
    rcases ho with ho | ho
    · rcases hg.own g ho with h | h
      · exact .inl (.inl h)
      · exact .inr h
    · exact .inl (.inr ho)
theorem Keeps.sub {O O' : Nat → Prop} {w w' : World} (h : Keeps O w w') (hs : ∀ g, O g → O' g) : Keeps O' w w' := ⟨h.os, h.tape, h.output, h.size, fun g hg hn => h.block g hg (fun ho => hn (hs g ho))⟩
/-- A block of other cells is none of those. -/
theorem StV.other {B : Nat} {w : World} {tb rb nb mb sb m : Nat} {ty nu : Value} {T : List Kz} {N : List NN} {G : List GN} {vs : List Value} (h : StV B w tb rb nb mb sb m ty nu T N G vs) {g : Nat} {cs : Array Value} {t : TypeId} (hg : w.heap[g]? = some (.cells cs t (0, 0))) (h1 : t ≠ 75) (h2 : t ≠ 91) : ¬ TabO tb rb nb mb sb g := fun ho => by
  rcases ho with ho | rfl | rfl
  · rcases h.tab.kinds ho with ⟨cs', t', e1, e2⟩ | ⟨-, es, c, e1⟩
    · rw [hg] at e1
      simp only [Option.some.injEq, Obj.cells.injEq] at e1
      rcases e2 with e2 | e2
      · exact h1 (e1.2.1.trans e2)
      · exact h2 (e1.2.1.trans e2)
    · rw [hg] at e1; cases e1
  · obtain ⟨es, c, hm⟩ := h.names.isMap
    rw [hg] at hm; cases hm
  · obtain ⟨es, c, hm⟩ := h.sgs.map.isMap
    rw [hg] at hm; cases hm
structure Nm1 (B : Nat) (W : World) (tb mb sb m : Nat) (l : List NT) (iv : Value) (wr : World) (j : Nat) : Prop where
  slot : iv = .int .i64 j
  le : j ≤ l.length
  st : StV B wr tb tb tb mb sb m (.slice none 0 0) (.map none) [] (zerosN (l.take j)) [] []
  below : Below B W wr
  keeps : Keeps (TabO tb tb tb mb sb) W wr
structure Nm2 (B : Nat) (W : World) (tb mb sb m : Nat) (has : List UInt8 → Bool) (l : List NT) (full : Nat × List Kz × List NN) (iv : Value) (wr : World) (j : Nat) (T : List Kz) (N : List NN) (rb nb : Nat) (ty nu : Value) : Prop where
  slot : iv = .int .i64 j
  le : j ≤ l.length
  rest : namK has T N (l.drop j) = full
  names : ∀ s, hasZ N s = has s
  len : N.length = l.length + j
  st : StV B wr tb rb nb mb sb m ty nu T N [] []
  below : Below B W wr
  keeps : Keeps (TabO tb tb tb mb sb) W wr
  grew : Grew W tb tb tb rb nb
set_option maxHeartbeats 16000000 in
theorem namedTypes_any (l : List NT) (us : List (List UInt8 × C4)) (a : Option Addr) (c : Nat) (w : World) (B tb mb sb m : Nat) (S : Nat → Prop) (hB : B ≤ w.heap.size) (hS : ∀ g, S g → g < B) (hl : l.length ≤ 12) (hlen : us.length = l.length) (hr : RowV w S a 5 (us.map encZ))
    (hv : ∀ i (h : i < l.length) (h' : i < us.length), us[i].1 = l[i].1 ∧ TzV w S l[i].2 us[i].2) (hf : ∀ i (h : i < l.length), l[i].1.length ≤ 1000 ∧ fitZ l[i].2 = true ∧ shortZ l[i].2 = true) (hst : StV B w tb tb tb mb sb m (.slice none 0 0) (.map none) [] [] [] []) :
    Calls Try.prog 46 #[.pointer (some ⟨tb, 0, none⟩), .slice a l.length c] w fun e w' => ∃ rb nb ty nu, e = .returned (.int .i64 ((namK (hasZ l) [] (zerosN l) l).1 : Nat)) ∧ StV B w' tb rb nb mb sb m ty nu (namK (hasZ l) [] (zerosN l) l).2.1 (namK (hasZ l) [] (zerosN l) l).2.2 [] [] ∧ Below B w w' ∧ Keeps (TabO tb tb tb mb sb) w w' ∧ Grew w tb tb tb rb nb := by
  obtain ⟨full, hfull⟩ : ∃ full, full = namK (hasZ l) [] (zerosN l) l := ⟨_, rfl⟩
  rw [← hfull]
  have HR := Lib.hid hr; have HV := Lib.hid hv; have HF := Lib.hid hf; have HST := Lib.hid hst; have HS := Lib.hid hS; have HFULL := Lib.hid hfull; have HLEN := Lib.hid hlen
  clear hr hv hf hst hS hfull hlen
  go_enter Try.func46, Try.ntmps46
  go_wp2_with fail
  go_loopw [13] (fun iv wr => ∃ j, Nm1 B w tb mb sb m l iv wr j) (fun iv _ => l.length - (intOf iv).toNat)
  case atStart => exact ⟨0, rfl, Nat.zero_le _, HST.out, Below.refl _ _, Keeps.refl _ _⟩
  case round =>
    obtain ⟨j, h⟩ := hrel
    obtain rfl := h.slot
    have hj := h.le
    have hws := h.below.size
    have H := Lib.hid h
    clear h
    by_cases hlt : j < l.length
    · have hlu : j < us.length := by rw [HLEN.out]; exact hlt
      have hjz : (j : Int) < (l.length : Int) := by omega
      have hj0 : (0 : Int) ≤ (j : Int) := by omega
      obtain ⟨g, o, rfl, hg, hc⟩ := nam_at (wb := B) HR.out HS.out j hlu
      obtain ⟨c0, c1, c2, c3, c4⟩ := hc wr (fun k hk => H.out.below.block k hk)
      have hnm := (HV.out j hlt hlu).1
      have hn1 := (HF.out j hlt).1
      rw [← hnm] at hn1
      have hzs := zerosN_snoc l j hlt
      rw [← hnm] at hzs
      have HZS := Lib.hid hzs
      clear hc hnm hzs
      generalize us[j] = x at *
      obtain ⟨x, ⟨x1, x2, x3, x4, x5, x6, x7, x8⟩⟩ := x
      dsimp only at *
      obtain ⟨W1, hW1⟩ : ∃ W1, W1 = wr.alloc (.cells #[.string ⟨x.toArray⟩, .int .i64 x1, .string x2, .slice x3 x4 x5, .slice x6 x7 x8] 44) := ⟨_, rfl⟩
      have hBB : Below wr.heap.size wr W1 := by rw [hW1]; exact (Below.refl _ _).alloc (Nat.le_refl _) _
      have hs1 := hBB.size
      have hst1 := H.out.st.below hBB
      have hC := stand_any x 0 W1 tb tb tb mb sb m _ _ [] (zerosN (l.take j)) hst1.tab hst1.names hn1 (by unfold zerosN; simp; omega)
      have HC := Lib.hid hC; have HBB := Lib.hid hBB; have HST1 := Lib.hid hst1
      clear hBB hst1 hC
      subst hW1
      go_wp2_with (go_at_call 73; (refine HC.out.mono ?_); rintro e w2 ⟨rfl, n2, k2⟩; have HN2 := Lib.hid n2; have HK2 := Lib.hid k2; clear n2 k2)
      go_roundw
      case rel =>
        obtain ⟨s1, b1⟩ := HST1.out.stand HN2.out HK2.out (by omega)
        exact ⟨j + 1, by go_num, by omega, by rw [HZS.out]; exact s1, H.out.below.trans ((HBB.out.mono (by omega)).trans b1), (H.out.keeps.trans (Keeps.of_below HBB.out) (fun _ h => .inl h)).trans HK2.out (fun g e => .inl (.inr (.inl e)))⟩
      case measure => simp [intOf]; omega
    · obtain rfl : j = l.length := by omega
      have hst := H.out.st
      rw [List.take_length] at hst
      have HST2 := Lib.hid hst
      have HB2 := Lib.hid H.out.below
      have HKP2 := Lib.hid H.out.keeps
      obtain ⟨wo, hwo⟩ : ∃ wo, wo = wr := ⟨wr, rfl⟩
      subst hwo
      clear hst H
      go_wp2_with fail
      go_loopw [24] (fun iv wr => ∃ j T N rb nb ty nu, Nm2 B wo tb mb sb m (hasZ l) l full iv wr j T N rb nb ty nu) (fun iv _ => l.length - (intOf iv).toNat)
      case atStart => exact ⟨0, [], zerosN l, tb, tb, _, _, rfl, Nat.zero_le _, by rw [List.drop_zero]; exact HFULL.out.symm, hasZ_zeros l, by simp [zerosN], HST2.out, Below.refl _ _, Keeps.refl _ _, Grew.refl _ _ _ _⟩
      case round =>
        obtain ⟨j, T, N, rb, nb, ty, nu, h⟩ := hrel
        obtain rfl := h.slot
        have hj := h.le
        have hws2 := h.below.size
        have hNl := h.len
        have H := Lib.hid h
        clear h
        by_cases hlt : j < l.length
        · have hlu : j < us.length := by rw [HLEN.out]; exact hlt
          have hjz : (j : Int) < (l.length : Int) := by omega
          have hj0 : (0 : Int) ≤ (j : Int) := by omega
          obtain ⟨g, o, rfl, hg, hc⟩ := nam_at (wb := B) HR.out HS.out j hlu
          obtain ⟨c0, c1, c2, c3, c4⟩ := hc wr (fun k hk => (H.out.below.block k hk).trans (HB2.out.block k hk))
          obtain ⟨hnm, hTV⟩ := HV.out j hlt hlu
          obtain ⟨hn1, hf1, hf2⟩ := HF.out j hlt
          rw [← hnm] at hn1
          have hdr := namK_drop (has := hasZ l) (T := T) (N := N) hlt
          rw [H.out.rest, ← hnm] at hdr
          have hmem : hasZ l us[j].1 = true := by rw [hnm]; exact hasZ_iff.2 ⟨l[j], List.getElem_mem hlt, rfl⟩
          clear hc hnm
          generalize l[j].2 = t at *
          generalize us[j] = x at *
          obtain ⟨x, ⟨x1, x2, x3, x4, x5, x6, x7, x8⟩⟩ := x
          dsimp only at *
          obtain ⟨W1, hW1⟩ : ∃ W1, W1 = wr.alloc (.cells #[.string ⟨x.toArray⟩, .int .i64 x1, .string x2, .slice x3 x4 x5, .slice x6 x7 x8] 44) := ⟨_, rfl⟩
          have hBB : Below wr.heap.size wr W1 := by rw [hW1]; exact (Below.refl _ _).alloc (Nat.le_refl _) _
          have hs1 := hBB.size
          have hz1 : W1.heap.size = wr.heap.size + 1 := by rw [hW1]; simp
          have hnb : W1.heap[wr.heap.size]? = some (.cells #[.string ⟨x.toArray⟩, .int .i64 x1, .string x2, .slice x3 x4 x5, .slice x6 x7 x8] 44 (0, 0)) := by rw [hW1]; exact heap_alloc_new wr _
          have hst1 := H.out.st.below hBB
          have hB1 : Below B w W1 := (HB2.out.trans H.out.below).trans (hBB.mono (by omega))
          have hV1 : TzV W1 S t ⟨x1, x2, x3, x4, x5, x6, x7, x8⟩ := hTV.keep (fun _ h => h) fun g hg => hB1.block g (HS.out g hg)
          have hA := add_any t hf1 hf2 W1 tb rb nb mb sb m ty nu T N S ⟨x1, x2, x3, x4, x5, x6, x7, x8⟩ hst1.tab hst1.names hV1 (fun g hg => ⟨by have := HS.out g hg; omega, hst1.far (HS.out g hg)⟩)
          rw [show hasZ N = hasZ l from funext H.out.names] at hA
          dsimp only at hA
          obtain ⟨⟨q1, q2, q3⟩, hq⟩ : ∃ q, addK (hasZ l) T t = q := ⟨_, rfl⟩
          rw [hq] at hA hdr
          dsimp only at hA hdr
          have hnk : ¬ Own tb rb nb wr.heap.size := fun ho => by have := H.out.st.tab.lt ho; omega
          have HA := Lib.hid hA; have HDR := Lib.hid hdr; have HST1 := Lib.hid hst1; have HBB := Lib.hid hBB; have HNB := Lib.hid hnb; have HNK := Lib.hid hnk; have HM := Lib.hid hmem
          clear hA hdr hst1 hBB hnb hV1 hB1 hTV hf1 hf2 hq hnk hmem
          subst hW1
          by_cases h0 : q2 = 0
          · subst h0
            have hd := HDR.out
            rw [if_pos rfl] at hd
            have HD := Lib.hid hd
            clear hd
            go_wp2_with (first
              | (go_at_call 20; (refine HA.out.mono ?_); rintro e w2 ⟨rb2, nb2, ty2, nu2, rfl, ha⟩; obtain ⟨s2, b2⟩ := HST1.out.add ha (by omega); have hz2 := b2.size; have nb2' := (ha.keeps.block wr.heap.size (by omega) HNK.out).trans HNB.out; obtain ⟨d0, -⟩ : w2.cell? ⟨wr.heap.size, 0, none⟩ = some (.string ⟨x.toArray⟩) ∧ True := ⟨by simp [World.cell?, nb2'], trivial⟩; have HC2 := Lib.hid (stand_any x q1 w2 tb rb2 nb2 mb sb m ty2 nu2 q3 N s2.tab s2.names hn1 (by omega)); have HS2 := Lib.hid s2; have HBL2 := Lib.hid b2; have HAK := Lib.hid ha.keeps; have HAG := Lib.hid ha.grew; clear s2 b2 ha nb2')
              | (go_at_call 73; (refine HC2.out.mono ?_); rintro e w3 ⟨rfl, n3, k3⟩; have HN3 := Lib.hid n3; have HK3 := Lib.hid k3; clear n3 k3))
            go_roundw
            case rel =>
              obtain ⟨s3, b3⟩ := HS2.out.stand HN3.out HK3.out (by omega)
              refine ⟨j + 1, q3, N ++ [(x, q1)], rb2, nb2, ty2, nu2, by go_num, by omega, HD.out.symm, fun s => ?_, by simp; omega, s3, H.out.below.trans ((HBB.out.mono (by omega)).trans (HBL2.out.trans b3)), ?_, H.out.grew.trans (HAG.out) (by omega)⟩
              · rw [hasZ_snoc, H.out.names]
                by_cases e : x = s
                · rw [← e, HM.out]; rfl
                · simp [e]
              · have k1 : Keeps (TabO tb rb nb mb sb) wr w3 := ((Keeps.of_below HBB.out).trans (O := TabO tb rb nb mb sb) HAK.out (fun g h => .inl (.inl h))).trans HK3.out (fun g e => .inl (.inr (.inl e)))
                exact H.out.keeps.tabO H.out.grew k1
            case measure => simp [intOf]; omega
          · have hd := HDR.out
            rw [if_neg h0] at hd
            have HD := Lib.hid hd
            clear hd
            have t0 : ((q2 : Nat) == (0 : Int)) = false := by simp; omega
            have hne : (q2 : Int) ≠ 0 := by omega
            go_wp2_with (go_at_call 20; (refine HA.out.mono ?_); rintro e w2 ⟨rb2, nb2, ty2, nu2, rfl, ha⟩; obtain ⟨s2, b2⟩ := HST1.out.add ha (by omega); have HS2 := Lib.hid s2; have HBL2 := Lib.hid b2; have HAK := Lib.hid ha.keeps; have HAG := Lib.hid ha.grew; clear s2 b2 ha)
            go_ret
            rw [HD.out]
            exact ⟨rb2, nb2, ty2, nu2, rfl, HS2.out, HB2.out.trans (H.out.below.trans ((HBB.out.mono (by omega)).trans HBL2.out)), HKP2.out.trans (H.out.keeps.tabO H.out.grew ((Keeps.of_below HBB.out).trans (O := TabO tb rb nb mb sb) HAK.out (fun g h => .inl (.inl h)))) (fun g h => .inl h), (H.out.grew.trans HAG.out (by omega)).older (by omega)⟩
        · obtain rfl : j = l.length := by omega
          have hz := H.out.rest
          rw [List.drop_length, namK] at hz
          have HZ := Lib.hid hz
          clear hz
          go_wp2
          go_ret
          rw [← HZ.out]
          exact ⟨rb, nb, ty, nu, rfl, H.out.st, HB2.out.trans H.out.below, HKP2.out.trans H.out.keeps (fun g h => .inl h), H.out.grew.older (by omega)⟩
end Sp
end Go.Proofs.Ytdophmlnmbcjlaa
