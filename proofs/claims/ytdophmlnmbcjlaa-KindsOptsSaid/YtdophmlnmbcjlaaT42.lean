/- schema, New: the table of a schema. -/
import Derived.Test.YtdophmlnmbcjlaaT41
namespace Go.Proofs.Ytdophmlnmbcjlaa
open Go.RowKit
namespace Sp
open Sc
set_option maxRecDepth 100000
/-- Names that are short, types that memory can hold. -/
structure ShortS (s : Sz) : Prop where
  types : ∀ i (h : i < s.types.length), s.types[i].1.length ≤ 1000 ∧ fitZ s.types[i].2 = true ∧ shortZ s.types[i].2 = true
  main : fitZ s.main = true ∧ shortZ s.main = true
  sigs : ∀ g ∈ s.sigs, g.name.length ≤ 1000 ∧ g.params.length ≤ 1000 ∧ (∀ t ∈ g.params, fitZ t = true ∧ shortZ t = true) ∧ fitZ g.result = true ∧ shortZ g.result = true
theorem StV.setMain {B : Nat} {w : World} {tb rb nb mb sb m : Nat} {ty nu : Value} {T : List Kz} {N : List NN} {G : List GN} {vs : List Value} (h : StV B w tb rb nb mb sb m ty nu T N G vs) (id : Nat) (hB : B ≤ w.heap.size) :
    StV B (w.setCell ⟨tb, 4, none⟩ (.int .i64 (id : Nat))) tb rb nb mb sb id ty nu T N G vs ∧ Below B w (w.setCell ⟨tb, 4, none⟩ (.int .i64 (id : Nat))) := by
  have hoth : ∀ b, b ≠ tb → (w.setCell ⟨tb, 4, none⟩ (.int .i64 (id : Nat))).heap[b]? = w.heap[b]? := fun b hb => RowKit.Below.heap_setCell _ _ _ _ hb
  have hbox := set_five4 h.tab.box (.int .i64 (id : Nat))
  obtain ⟨es, c, hm⟩ := h.names.isMap
  obtain ⟨es2, c2, hm2⟩ := h.sgs.map.isMap
  have n1 : mb ≠ tb := fun e => by rw [e, h.tab.box] at hm; cases hm
  have n2 : sb ≠ tb := fun e => by rw [e, h.tab.box] at hm2; cases hm2
  have T0 := h.tab
  refine ⟨⟨⟨hbox, own_same T0.own (fun g hg => hoth g (fun e => T0.notT (e ▸ hg))), T0.row, ?_, T0.fit, T0.wf, by simpa using T0.mlt, by simpa using T0.slt, T0.nm, T0.ns⟩, h.names.same (hoth mb n1), h.sgs.same (hoth sb n2) (fun g cs fr hg => hoth g (fun e => by
      rw [e, T0.box] at hg
      simp only [Option.some.injEq, Obj.cells.injEq] at hg
      exact absurd hg.2.1 (by decide))), h.lo, h.mlo, h.slo, h.ms⟩, ((Keeps.refl (fun b => b = tb) w).setCell 4 _ rfl).below hB (fun g e => by rw [e]; exact h.lo tb (.inl rfl))⟩
  rcases T0.num with h1 | ⟨h1, h2⟩
  · exact .inl h1
  · refine .inr ⟨h1, h2.same (hoth nb fun e => ?_)⟩
    obtain ⟨es3, c3, hm3⟩ := h2.isMap
    rw [e, T0.box] at hm3; cases hm3
theorem fnsK_drop {has : List UInt8 → Bool} {T : List Kz} {G : List GN} {l : List Sg} {j : Nat} (h : j < l.length) : fnsK has T G (l.drop j) = if (fnK has T l[j]).2.1 = 0 then fnsK has (fnK has T l[j]).2.2 (G ++ [(fnK has T l[j]).1]) (l.drop (j + 1)) else ((fnK has T l[j]).2.1, (fnK has T l[j]).2.2, G) := by
  rw [List.drop_eq_getElem_cons h, fnsK]
structure ScR (B : Nat) (W : World) (xb : Nat) (SC : Array Value) (tb mb sb m : Nat) (has : List UInt8 → Bool) (l : List Sg) (full : Nat × List Kz × List GN) (N : List NN) (iv : Value) (wr : World) (j : Nat) (T : List Kz) (G : List GN) (rb nb : Nat) (ty nu : Value) (vs : List Value) : Prop where
  slot : iv = .int .i64 j
  le : j ≤ l.length
  rest : fnsK has T G (l.drop j) = full
  len : G.length = j
  st : StV B wr tb rb nb mb sb m ty nu T N G vs
  below : Below B W wr
  box : wr.heap[xb]? = some (.cells SC 34 (0, 0))
set_option maxHeartbeats 16000000 in
theorem cschema_any (s : Sz) (c : C4) (a1 a2 : Option Addr) (us : List (List UInt8 × C4)) (gs : List (List UInt8 × G6)) (c1 c2 : Nat) (w : World) (B tb mb sb : Nat) (S : Nat → Prop) (hB : B ≤ w.heap.size) (hS : ∀ b, S b → b < B) (hV : SzV w S s c a1 us a2 gs) (hsh : ShortS s) (hn12 : s.types.length ≤ 12) (hg12 : s.sigs.length ≤ 12)
    (hst : StV B w tb tb tb mb sb 0 (.slice none 0 0) (.map none) [] [] [] []) :
    Calls Try.prog 25 #[.pointer (some ⟨tb, 0, none⟩), .agg #[.int .i64 c.k, .string c.n, .slice c.an c.ln c.cn, .slice c.ak c.lk c.ck, .slice a1 s.types.length c1, .slice a2 s.sigs.length c2]] w fun e w' =>
      e = .returned (.int .i64 ((schemaK s).1 : Nat)) ∧ Below B w w' ∧ ((schemaK s).1 = 0 → ∃ rb nb ty nu vs, StV B w' tb rb nb mb sb (schemaK s).2.m ty nu (schemaK s).2.T (schemaK s).2.N (schemaK s).2.G vs) := by
  obtain ⟨full, hfull⟩ : ∃ full, full = schemaK s := ⟨_, rfl⟩
  rw [← hfull]
  unfold schemaK at hfull
  simp only at hfull
  obtain ⟨SC, hSC⟩ : ∃ SC : Array Value, SC = #[.int .i64 c.k, .string c.n, .slice c.an c.ln c.cn, .slice c.ak c.lk c.ck, .slice a1 s.types.length c1, .slice a2 s.sigs.length c2] := ⟨_, rfl⟩
  obtain ⟨W1, hW1⟩ : ∃ W1, W1 = w.alloc (.cells #[.int .i64 c.k, .string c.n, .slice c.an c.ln c.cn, .slice c.ak c.lk c.ck, .slice a1 s.types.length c1, .slice a2 s.sigs.length c2] 34) := ⟨_, rfl⟩
  have hz1 : W1.heap.size = w.heap.size + 1 := by rw [hW1]; simp
  have hb1 : Below w.heap.size w W1 := by rw [hW1]; exact (Below.refl _ _).alloc (Nat.le_refl _) _
  have hs1 : W1.heap[w.heap.size]? = some (.cells SC 34 (0, 0)) := by rw [hSC, hW1]; exact heap_alloc_new w _
  have hlow : ∀ W, Below B W1 W → ∀ k, k < B → W.heap[k]? = w.heap[k]? := fun W hW k hk => (hW.block k hk).trans (hb1.block k (by omega))
  have hst1 := hst.below hb1
  have CN := namedTypes_any s.types us a1 c1 W1 B tb mb sb 0 S (by omega) hS hn12 hV.nt (hV.rt.keep (fun _ h => h) fun g hg => hb1.block g (by have := hS g hg; omega)) (fun i h h' => ⟨(hV.vt i h h').1, (hV.vt i h h').2.keep (fun _ h => h) fun g hg => hb1.block g (by have := hS g hg; omega)⟩) hsh.types hst1
  obtain ⟨⟨n1, n2, n3⟩, hn⟩ : ∃ n, namK (hasZ s.types) [] (zerosN s.types) s.types = n := ⟨_, rfl⟩
  have hhas : ∀ nm, hasZ n3 nm = hasZ s.types nm := fun nm => by
    have := namK_has (has := hasZ s.types) nm s.types [] (zerosN s.types) (fun x hx => by rw [hasZ_zeros]; exact hasZ_iff.2 ⟨x, hx, rfl⟩)
    rw [hn, hasZ_zeros] at this
    exact this
  rw [hn] at CN hfull
  dsimp only at CN hfull
  have HCN := Lib.hid CN; have HV := Lib.hid hV; have HSH := Lib.hid hsh; have HS := Lib.hid hS; have HW1 := Lib.hid hW1; have HB1 := Lib.hid hb1; have HS1 := Lib.hid hs1; have HLOW := Lib.hid hlow; have HSC := Lib.hid hSC; have HFULL := Lib.hid hfull; have HHAS := Lib.hid hhas
  have HST1 := Lib.hid hst1
  clear CN hV hsh hS hb1 hs1 hlow hSC hfull hst hst1 hn hhas hW1
  have sx := HS1.out
  rw [HSC.out] at sx
  obtain ⟨⟨p0, p1, p2, p3, p4, p5⟩, _⟩ := six_blkF sx
  have HSX := Lib.hid sx
  clear sx
  by_cases h0 : n1 = 0
  · subst h0
    have hf := HFULL.out
    rw [if_neg (by decide)] at hf
    have HF := Lib.hid hf
    clear hf
    go_enter Try.func25, Try.ntmps25
    go_upto_region 1 with fail
    rw [← HW1.out]
    clear HW1
    go_upto_region 4 with (go_at_call 46; (refine HCN.out.mono ?_); rintro e w2 ⟨rb, nb, ty, nu, rfl, s2, b2, k2, g2⟩; have hz2 := b2.size; have hx2 := (k2.block w.heap.size (by omega) (HST1.out.other HS1.out (by decide) (by decide))).trans HS1.out; have HX2 := Lib.hid hx2; have HST2 := Lib.hid s2; have HB2 := Lib.hid b2; clear s2 b2 k2 g2 hx2)
    clear p0 p1 p2 p3 p4 p5
    have sx := HX2.out
    rw [HSC.out] at sx
    obtain ⟨⟨p0, p1, p2, p3, p4, p5⟩, _⟩ := six_blkF sx
    clear sx
    obtain ⟨hm1, hm2⟩ := HSH.out.main
    have hfun : hasZ n3 = hasZ s.types := funext HHAS.out
    have hA := add_any s.main hm1 hm2 w2 tb rb nb mb sb 0 ty nu n2 n3 S c HST2.out.tab HST2.out.names (HV.out.main.keep (fun _ h => h) fun g hg => HLOW.out w2 HB2.out g (HS.out g hg)) (fun g hg => ⟨by have := HS.out g hg; omega, HST2.out.far (HS.out g hg)⟩)
    rw [hfun] at hA
    obtain ⟨⟨q1, q2, q3⟩, hq⟩ : ∃ q, addK (hasZ s.types) n2 s.main = q := ⟨_, rfl⟩
    have hf := HF.out
    rw [hq] at hA hf
    dsimp only at hA hf
    have HA := Lib.hid hA; have HF2 := Lib.hid hf; have HFUN := Lib.hid hfun
    clear hA hf hfun hq hm1 hm2 HF HFULL
    by_cases h1 : q2 = 0
    · subst h1
      have hf := HF2.out
      rw [if_neg (by decide)] at hf
      have HF := Lib.hid hf
      clear hf HF2
      go_upto_region 7 with (go_at_call 20; (refine HA.out.mono ?_); rintro e w3 ⟨rb2, nb2, ty2, nu2, rfl, ha⟩; have hz3 := ha.keeps.size; have hx3 := (ha.keeps.block w.heap.size (by omega) (fun ho => HST2.out.other HX2.out (by decide) (by decide) (.inl ho))).trans HX2.out; obtain ⟨s3, b3⟩ := HST2.out.add ha (by omega); have HX3 := Lib.hid hx3; have HST3 := Lib.hid s3; have HB3 := Lib.hid (HB2.out.trans b3); clear s3 b3 ha hx3)
      clear p0 p1 p2 p3 p4 p5
      obtain ⟨⟨-, -, -, -, t4⟩, ⟨-, -, -, -, z4⟩⟩ := five_blkF HST3.out.tab.box
      obtain ⟨s4, b4⟩ := HST3.out.setMain q1 (by omega)
      obtain ⟨W4, hW4⟩ : ∃ W4, W4 = w3.setCell ⟨tb, 4, none⟩ (.int .i64 (q1 : Nat)) := ⟨_, rfl⟩
      have hx4 : W4.heap[w.heap.size]? = some (.cells SC 34 (0, 0)) := by
        rw [hW4, RowKit.Below.heap_setCell _ _ _ _ (fun e => HST3.out.other HX3.out (by decide) (by decide) (.inl (.inl e)))]
        exact HX3.out
      rw [← hW4] at s4 b4
      have hz4 := b4.size
      have sx := hx4
      rw [HSC.out] at sx
      obtain ⟨⟨p0, p1, p2, p3, p4, p5⟩, _⟩ := six_blkF sx
      have HX4 := Lib.hid hx4; have HST4 := Lib.hid s4; have HB4 := Lib.hid (HB3.out.trans b4); have HW4 := Lib.hid hW4
      have hwz : w3.heap.size = W4.heap.size := by rw [hW4]; simp
      clear hx4 s4 b4 hW4 sx
      go_upto_region 8 with fail
      rw [← HW4.out]
      clear HW4
      clear t4 z4
      go_wp2_with fail
      clear p0 p1 p2 p3 p4 p5
      obtain ⟨fk, hfk⟩ : ∃ fk, fnsK (hasZ s.types) q3 [] s.sigs = fk := ⟨_, rfl⟩
      have hf := HF.out
      rw [hfk] at hf
      have HF2 := Lib.hid hf; have HFK := Lib.hid hfk
      clear hf hfk HF
      go_loopw [35] (fun iv wr => ∃ j T G rb nb ty nu vs, ScR B W4 w.heap.size SC tb mb sb q1 (hasZ s.types) s.sigs fk n3 iv wr j T G rb nb ty nu vs) (fun iv _ => s.sigs.length - (intOf iv).toNat)
      case atStart => exact ⟨0, q3, [], rb2, nb2, ty2, nu2, [], rfl, Nat.zero_le _, by rw [List.drop_zero]; exact HFK.out, rfl, HST4.out, Below.refl _ _, HX4.out⟩
      case round =>
        obtain ⟨j, T, G, rb5, nb5, ty5, nu5, vs, h⟩ := hrel
        obtain rfl := h.slot
        have hj := h.le
        have hGl := h.len
        have hws := h.below.size
        have hxl := (Array.getElem?_eq_some_iff.1 h.box).1
        have H := Lib.hid h
        clear h
        by_cases hlt : j < s.sigs.length
        · have hlu : j < gs.length := by rw [HV.out.ng]; exact hlt
          have hjz : (j : Int) < (s.sigs.length : Int) := by omega
          have hj0 : (0 : Int) ≤ (j : Int) := by omega
          have hlw : ∀ k, k < B → wr.heap[k]? = w.heap[k]? := fun k hk => (H.out.below.block k hk).trans (HLOW.out W4 HB4.out k hk)
          obtain ⟨b, o, rfl, hb, hc⟩ := sig_at (wb := B) HV.out.rg HS.out j hlu
          obtain ⟨c0, c1', c2', c3, c4, c5⟩ := hc wr hlw
          have hgv := (HV.out.vg j hlt hlu).keep (w' := wr) (fun g hg => hlw g (HS.out g hg))
          obtain ⟨hg1, hg2, hg3, hg4⟩ := HSH.out.sigs s.sigs[j] (List.getElem_mem hlt)
          have hdr := fnsK_drop (has := hasZ s.types) (T := T) (G := G) hlt
          rw [H.out.rest] at hdr
          clear hc hlw
          generalize s.sigs[j] = g at *
          generalize gs[j] = x at *
          obtain ⟨x, ⟨ap, lp, cp, ⟨x1, x2, x3, x4, x5, x6, x7, x8⟩⟩⟩ := x
          dsimp only at *
          obtain ⟨W5, hW5⟩ : ∃ W5, W5 = wr.alloc (.cells #[.string ⟨x.toArray⟩, .slice ap lp cp, .int .i64 x1, .string x2, .slice x3 x4 x5, .slice x6 x7 x8] 46) := ⟨_, rfl⟩
          have hBB : Below wr.heap.size wr W5 := by rw [hW5]; exact (Below.refl _ _).alloc (Nat.le_refl _) _
          have hzb := hBB.size
          have hst5 := H.out.st.below hBB
          have hC := cfn_any g (x, ⟨ap, lp, cp, ⟨x1, x2, x3, x4, x5, x6, x7, x8⟩⟩) W5 B tb rb5 nb5 mb sb q1 ty5 nu5 T n3 G vs S (by omega) HS.out (hgv.keep fun k hk => hBB.block k (by have := HS.out k hk; omega)) hst5 hg1 hg2 hg3 hg4 (by omega)
          rw [HFUN.out] at hC
          dsimp only at hC
          obtain ⟨⟨y1, y2, y3⟩, hy⟩ : ∃ y, fnK (hasZ s.types) T g = y := ⟨_, rfl⟩
          rw [hy] at hC hdr
          dsimp only at hC hdr
          have hx5 := (hBB.block w.heap.size hxl).trans H.out.box
          have HC := Lib.hid hC; have HDR := Lib.hid hdr; have HBB := Lib.hid hBB; have HST5 := Lib.hid hst5; have HX5 := Lib.hid hx5
          clear hC hdr hBB hst5 hx5 hgv hg1 hg2 hg3 hg4 hy
          subst hW5
          by_cases h5 : y2 = 0
          · subst h5
            have hd := HDR.out
            rw [if_pos rfl] at hd
            have HD := Lib.hid hd
            clear hd
            go_wp2_with (go_at_call 47; (refine HC.out.mono ?_); rintro e w6 ⟨rfl, b6, h6⟩; have HB6 := Lib.hid b6; have H6 := Lib.hid h6; clear b6 h6)
            go_roundw
            case rel =>
              obtain ⟨rb6, nb6, ty6, nu6, vs6, s6, k6, g6⟩ := H6.out (by trivial)
              exact ⟨j + 1, y3, G ++ [y1], rb6, nb6, ty6, nu6, vs6, by go_num, by omega, HD.out.symm, by simp [hGl], s6, H.out.below.trans ((HBB.out.mono (by omega)).trans HB6.out), (k6.block w.heap.size (by omega) (HST5.out.other HX5.out (by decide) (by decide))).trans HX5.out⟩
            case measure => simp [intOf]; omega
          · have hd := HDR.out
            rw [if_neg h5] at hd
            have HD := Lib.hid hd
            clear hd
            have t0 : ((y2 : Nat) == (0 : Int)) = false := by simp; omega
            have hne : (y2 : Int) ≠ 0 := by omega
            go_wp2_with (go_at_call 47; (refine HC.out.mono ?_); rintro e w6 ⟨rfl, b6, -⟩; have HB6 := Lib.hid b6; clear b6)
            go_ret
            rw [HF2.out, HD.out]
            exact ⟨rfl, (HB1.out.mono hB).trans (HB4.out.trans (H.out.below.trans ((HBB.out.mono (by omega)).trans HB6.out))), fun e => absurd e h5⟩
        · obtain rfl : j = s.sigs.length := by omega
          have hz := H.out.rest
          rw [List.drop_length, fnsK] at hz
          have HZ := Lib.hid hz
          clear hz
          go_wp2
          go_ret
          rw [HF2.out, ← HZ.out]
          exact ⟨rfl, (HB1.out.mono hB).trans (HB4.out.trans H.out.below), fun _ => ⟨rb5, nb5, ty5, nu5, vs, H.out.st⟩⟩
    · have hf := HF2.out
      rw [if_pos h1] at hf
      have HF := Lib.hid hf
      clear hf
      have t0 : ((q2 : Nat) == (0 : Int)) = false := by simp; omega
      have hne : (q2 : Int) ≠ 0 := by omega
      go_wp2_with (go_at_call 20; (refine HA.out.mono ?_); rintro e w3 ⟨rb2, nb2, ty2, nu2, rfl, ha⟩; obtain ⟨s3, b3⟩ := HST2.out.add ha (by omega); have HB3 := Lib.hid b3; clear s3 b3 ha)
      go_ret
      rw [HF.out]
      exact ⟨rfl, (HB1.out.mono hB).trans (HB2.out.trans HB3.out), fun e => absurd e h1⟩
  · have hf := HFULL.out
    rw [if_pos h0] at hf
    have HF := Lib.hid hf
    clear hf
    have t0 : ((n1 : Nat) == (0 : Int)) = false := by simp; omega
    have hne : (n1 : Int) ≠ 0 := by omega
    go_enter Try.func25, Try.ntmps25
    go_upto_region 1 with fail
    rw [← HW1.out]
    clear HW1
    go_wp2_with (go_at_call 46; (refine HCN.out.mono ?_); rintro e w2 ⟨rb, nb, ty, nu, rfl, s2, b2, k2, g2⟩; have hz2 := b2.size; have hx2 := (k2.block w.heap.size (by omega) (HST1.out.other HS1.out (by decide) (by decide))).trans HS1.out; have HX2 := Lib.hid hx2; have HST2 := Lib.hid s2; have HB2 := Lib.hid b2; clear s2 b2 k2 g2 hx2)
    go_ret
    rw [HF.out]
    exact ⟨rfl, (HB1.out.mono hB).trans HB2.out, fun e => absurd e h0⟩
end Sp
end Go.Proofs.Ytdophmlnmbcjlaa
