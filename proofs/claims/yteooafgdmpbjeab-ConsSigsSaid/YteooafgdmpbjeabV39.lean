/- Package sprueref4: all. -/
import Derived.Test.YteooafgdmpbjeabV38
namespace Go.Proofs.Yteooafgdmpbjeab
open Go.RowKit
namespace Sp
open Sc
/-- The types of a schema, in order. -/
def sgT (g : Sg) : List Tz := g.params ++ [g.result]
def allT (s : Sz) : List Tz := (s.types.map (·.2) ++ [s.main]) ++ s.sigs.flatMap sgT
/-- Types and their cells. -/
structure CsV (w : World) (S : Nat → Prop) (l : List Tz) (cs : List C4) : Prop where
  len : cs.length = l.length
  val : ∀ i (h : i < l.length) (h' : i < cs.length), TzV w S l[i] cs[i]
theorem CsV.nil (w : World) (S : Nat → Prop) : CsV w S [] [] := ⟨rfl, fun i h => by cases h⟩
theorem CsV.append {w : World} {S : Nat → Prop} {l m : List Tz} {cs ds : List C4} (h : CsV w S l cs) (k : CsV w S m ds) : CsV w S (l ++ m) (cs ++ ds) := by
  have hl := h.len
  have kl := k.len
  refine ⟨by simp [hl, kl], fun i h1 h2 => ?_⟩
  simp only [List.length_append] at h1 h2
  by_cases hi : i < l.length
  · rw [List.getElem_append_left hi, List.getElem_append_left (by omega)]
    exact h.val i hi (by omega)
  · rw [List.getElem_append_right (by omega), List.getElem_append_right (by omega)]
    simp only [hl]
    exact k.val _ (by omega) (by omega)
theorem CsV.one {w : World} {S : Nat → Prop} {t : Tz} {c : C4} (h : TzV w S t c) : CsV w S [t] [c] := ⟨rfl, fun i h1 h2 => by
  match i, h1 with
  | 0, _ => exact h⟩
theorem take_map_snoc {α β : Type} (f : α → β) (l : List α) (i : Nat) (h : i < l.length) : (l.take (i + 1)).map f = (l.take i).map f ++ [f l[i]] := by
  rw [List.take_add_one, List.getElem?_eq_getElem h, Option.toList_some, List.map_append]; rfl
theorem take_flat_snoc {α β : Type} (f : α → List β) (l : List α) (i : Nat) (h : i < l.length) : (l.take (i + 1)).flatMap f = (l.take i).flatMap f ++ f l[i] := by
  rw [List.take_add_one, List.getElem?_eq_getElem h, Option.toList_some, List.flatMap_append]; simp
structure AlR (w : World) (S : Nat → Prop) (bc : Array Value) (l : List Tz) (lv : Value) (wr : World) (cs : List C4) : Prop where
  own : wr.ownsRow (w.heap.size + 1) 31 4 lv cs.length (cs.flatMap C4.cells)
  val : CsV w S l cs
  box : wr.heap[w.heap.size]? = some (.cells bc 35 (0, 0))
  size : w.heap.size + 1 ≤ wr.heap.size
  below : Below w.heap.size w wr
theorem AlR.more {w w1 w2 : World} {S : Nat → Prop} {bc : Array Value} {l m : List Tz} {lv lv' : Value} {cs ds : List C4} (h : AlR w S bc l lv w1 cs) (hd : CsV w S m ds) (hb : Below w1.heap.size w1 w2) {w3 : World} (hown : w3.ownsRow (w.heap.size + 1) 31 4 lv' (cs.length + ds.length) (cs.flatMap C4.cells ++ ds.flatMap C4.cells)) (hg : w2.grownBy w3 lv.ownBlock) : AlR w S bc (l ++ m) lv' w3 (cs ++ ds) := by
  have hz := h.size
  have hz2 := hb.size
  have hlt := fun g e => (h.own.lt g e).1
  refine ⟨by simpa [List.flatMap_append] using hown, h.val.append hd, ?_, Nat.le_trans (Nat.le_trans hz hz2) hg.size, ?_⟩
  · exact (hg.block _ (by omega) (fun e => by have := hlt _ e.symm; omega)).trans ((hb.block _ (by omega)).trans h.box)
  · exact (h.below.trans (hb.mono (by omega))).trans (below_grown hg (fun g e => by have := hlt g e; omega) (by omega))
set_option maxRecDepth 100000 in
set_option maxHeartbeats 16000000 in
theorem all_ref (S : Nat → Prop) (s : Sz) (c : C4) (a1 a2 : Option Addr) (us : List (List UInt8 × C4)) (gs : List (List UInt8 × G6)) (c1 c2 : Nat) (w : World) (hS : ∀ g, S g → g < w.heap.size) (hV : SzV w S s c a1 us a2 gs) (hl1 : s.types.length ≤ 12) (hl2 : s.sigs.length ≤ 12) (hp : ∀ i (h : i < s.sigs.length), s.sigs[i].params.length ≤ 4) :
    Calls Try.prog 57 #[.agg #[.int .i64 c.k, .string c.n, .slice c.an c.ln c.cn, .slice c.ak c.lk c.ck, .slice a1 s.types.length c1, .slice a2 s.sigs.length c2]] w fun e w' => ∃ la lc cs, e = .returned (.slice la (allT s).length lc) ∧ RowV w' (Any w') la 4 (cs.map C4.cells) ∧ CsV w S (allT s) cs ∧ Below w.heap.size w w' := by
  obtain ⟨W0, hW0⟩ : ∃ W0, W0 = w.alloc (.cells #[.int .i64 c.k, .string c.n, .slice c.an c.ln c.cn, .slice c.ak c.lk c.ck, .slice a1 s.types.length c1, .slice a2 s.sigs.length c2] 35) := ⟨_, rfl⟩
  have hb0 : Below w.heap.size w W0 := by rw [hW0]; exact (Below.refl _ _).alloc (Nat.le_refl _) _
  have hz0 : W0.heap.size = w.heap.size + 1 := by rw [hW0]; simp
  have hs0 : W0.heap[w.heap.size]? = some (.cells #[.int .i64 c.k, .string c.n, .slice c.an c.ln c.cn, .slice c.ak c.lk c.ck, .slice a1 s.types.length c1, .slice a2 s.sigs.length c2] 35 (0, 0)) := by rw [hW0]; exact heap_alloc_new w _
  obtain ⟨ik, hik, jk, kk, lk⟩ := info_parts infoTz
  have HIk := Lib.hid hik; have HJk := Lib.hid jk; have HKk := Lib.hid kk; have HLk := Lib.hid lk
  have HSS := Lib.hid hS; have HV := Lib.hid hV; have HW0 := Lib.hid hW0; have HB0 := Lib.hid hb0; have HS0 := Lib.hid hs0; have HP := Lib.hid hp
  clear hS hV hW0 hb0 hs0 hik jk kk lk hp
  go_enter Try.func57, Try.ntmps57
  go_wp2_with fail
  rw [← HW0.out]
  go_wp2_with fail
  go_loopw [3, 4] (fun v3 v4 wr => ∃ i cs, v4 = .int .i64 (i : Nat) ∧ i ≤ s.types.length ∧ AlR w S #[.int .i64 c.k, .string c.n, .slice c.an c.ln c.cn, .slice c.ak c.lk c.ck, .slice a1 s.types.length c1, .slice a2 s.sigs.length c2] ((s.types.take i).map (·.2)) v3 wr cs) (fun _ v4 _ => s.types.length - (intOf v4).toNat)
  case atStart => exact ⟨0, [], rfl, Nat.zero_le _, ⟨World.ownsRow_nil _ _ _ _, CsV.nil _ _, HS0.out, by omega, HB0.out⟩⟩
  case round =>
    obtain ⟨i, cs, rfl, hi, h⟩ := hrel
    obtain ⟨⟨s0, s1, s2, s3, s4, s5⟩, _⟩ := six_blkF h.box
    have hzr := h.size
    have hcl := h.val.len
    have hcl2 : cs.length ≤ 12 := by rw [hcl, List.length_map, List.length_take]; omega
    obtain ⟨xa, xc, hx⟩ := own_sliceZ h.own
    subst hx
    have H := Lib.hid h
    clear h hcl
    by_cases hil : i < s.types.length
    · have hiz : (i : Int) < (s.types.length : Int) := by omega
      have hi0 : (0 : Int) ≤ (i : Int) := by omega
      have hju : i < us.length := by rw [HV.out.nt]; exact hil
      obtain ⟨g, o, rfl, hg, hc⟩ := nam_at HV.out.rt HSS.out i hju
      obtain ⟨q0, q1, q2, q3, q4⟩ := hc wr (fun j hj => H.out.below.block j hj)
      obtain ⟨_, hv⟩ := HV.out.vt i hil hju
      have htk : (s.types.take (i + 1)).map (·.2) = (s.types.take i).map (·.2) ++ [s.types[i].2] := take_map_snoc _ _ i hil
      generalize us[i].2 = x at *
      have HVX := Lib.hid hv; have HTK := Lib.hid htk
      clear hc hv htk q0
      go_wp2_with (at_builtin; (refine Sh.wpList_append_fresh rfl _ _ 29 rfl (w.heap.size + 1) 31 ik (.agg #[.int .i64 0, .string ⟨#[]⟩, .slice none 0 0, .slice none 0 0]) 4 72 Try.underlying29 HIk.out HJk.out HKk.out HLk.out rfl (by decide) _ _ _ rfl (H.out.own.alloc _) ⟨wr.heap.size, 0, none⟩ 1 1 [.int .i64 x.k, .string x.n, .slice x.an x.ln x.cn, .slice x.ak x.lk x.ck] rfl rfl (cells_newZ _ _ _) (C4.one x) (by unfold maxLen; omega) (by omega) (by simp; omega) ?_); intro v' w5 hown' hgrow hfr; have HOW := Lib.hid hown'; have HGR := Lib.hid hgrow; clear hown' hgrow hfr)
      go_roundw
      case rel => exact ⟨i + 1, cs ++ [x], by go_num, by omega, by rw [HTK.out]; exact H.out.more (CsV.one HVX.out) ((Below.refl _ _).alloc (Nat.le_refl _) _) HOW.out HGR.out⟩
      case measure => simp [intOf]; omega
    · have hiz : ¬ (i : Int) < (s.types.length : Int) := by omega
      obtain rfl : i = s.types.length := by omega
      have htk : (s.types.take s.types.length).map (·.2) = s.types.map (·.2) := by rw [List.take_length]
      have HTK := Lib.hid htk
      clear htk
      go_wp2_with (at_builtin; (refine Sh.wpList_append_fresh rfl _ _ 29 rfl (w.heap.size + 1) 31 ik (.agg #[.int .i64 0, .string ⟨#[]⟩, .slice none 0 0, .slice none 0 0]) 4 72 Try.underlying29 HIk.out HJk.out HKk.out HLk.out rfl (by decide) _ _ _ rfl (H.out.own.alloc _) ⟨wr.heap.size, 0, none⟩ 1 1 [.int .i64 c.k, .string c.n, .slice c.an c.ln c.cn, .slice c.ak c.lk c.ck] rfl rfl (cells_newZ _ _ _) (C4.one c) (by unfold maxLen; omega) (by omega) (by simp; omega) ?_); intro v' w5 hown' hgrow hfr; have HOW := Lib.hid hown'; have HGR := Lib.hid hgrow; clear hown' hgrow hfr)
      have h2 := H.out.more (CsV.one HV.out.main) ((Below.refl _ _).alloc (Nat.le_refl _) _) HOW.out HGR.out
      rw [HTK.out] at h2
      have H2 := Lib.hid h2
      clear h2 H
      go_loopw [3, 5] (fun v3 v5 wr => ∃ i cs, v5 = .int .i64 (i : Nat) ∧ i ≤ s.sigs.length ∧ AlR w S #[.int .i64 c.k, .string c.n, .slice c.an c.ln c.cn, .slice c.ak c.lk c.ck, .slice a1 s.types.length c1, .slice a2 s.sigs.length c2] ((s.types.map (·.2) ++ [s.main]) ++ (s.sigs.take i).flatMap sgT) v3 wr cs ∧ cs.length ≤ 13 + 5 * i) (fun _ v5 _ => s.sigs.length - (intOf v5).toNat)
      case atStart => exact ⟨0, cs ++ [c], rfl, Nat.zero_le _, by simpa using H2.out, by simp; omega⟩
      case round =>
        obtain ⟨i, cs, rfl, hi, h, hcl2⟩ := hrel
        obtain ⟨⟨s0, s1, s2, s3, s4, s5⟩, _⟩ := six_blkF h.box
        have hzr := h.size
        obtain ⟨xa, xc, hx⟩ := own_sliceZ h.own
        subst hx
        have H := Lib.hid h
        clear h
        by_cases hil : i < s.sigs.length
        · have hiz : (i : Int) < (s.sigs.length : Int) := by omega
          have hi0 : (0 : Int) ≤ (i : Int) := by omega
          have hju : i < gs.length := by rw [HV.out.ng]; exact hil
          obtain ⟨g, o, rfl, hg, hc⟩ := sig_at HV.out.rg HSS.out i hju
          obtain ⟨q0, q1, q2, q3, q4, q5⟩ := hc wr (fun j hj => H.out.below.block j hj)
          obtain ⟨_, hlp, ⟨ps, hpl, hpr, hpv⟩, hres⟩ := HV.out.vg i hil hju
          have hp4 := HP.out i hil
          have htk : (s.sigs.take (i + 1)).flatMap sgT = (s.sigs.take i).flatMap sgT ++ (s.sigs[i].params ++ [s.sigs[i].result]) := take_flat_snoc sgT _ i hil
          generalize s.sigs[i].params = pl at *
          generalize s.sigs[i].result = rt at *
          generalize gs[i].2 = x at *
          obtain ⟨xap, xlp, xcp, xr⟩ := x
          simp only at hlp hpr hres q0 q1 q2 q3 q4 q5
          subst hlp
          have hps : ps.length ≤ 4 := by omega
          have hsrc : ∀ W, Below w.heap.size w W → SrcV W (.slice xap pl.length xcp) pl.length (ps.flatMap C4.cells) := fun W hW => by
            have := (hpr.keep (w' := W) (fun _ h => h) (fun g hg => hW.block g (HSS.out g hg))).front (by decide) (cells4_len ps) pl.length xcp (by rw [List.length_map, hpl]; exact Nat.le_refl _)
            rw [show (List.take pl.length (ps.map C4.cells)) = ps.map C4.cells from List.take_of_length_le (by rw [List.length_map, hpl]; exact Nat.le_refl _)] at this
            exact this
          have hfl : (ps.flatMap C4.cells).length = pl.length * 4 := by rw [← hpl]; have := kdF_len ps; unfold kdF at this; exact this
          have hone : ∀ u ∈ ps.flatMap C4.cells, u.oneCell' = true := kdF_one ps
          have HCC := Lib.hid hc; have HSRC := Lib.hid hsrc; have HFL := Lib.hid hfl; have HON := Lib.hid hone; have HPL := Lib.hid hpl; have HPV : Hid (CsV w S pl ps) := ⟨hpl, hpv⟩; have HRS := Lib.hid hres; have HTK := Lib.hid htk
          have hpl4 : pl.length ≤ 4 := hp4
          clear hc hsrc hfl hone hpl hpv hres htk hpr hps hp4 q0
          go_wp2_with (first
            | (at_builtin; (refine wpList_append_srcV rfl _ _ 29 rfl (w.heap.size + 1) 31 ik (.agg #[.int .i64 0, .string ⟨#[]⟩, .slice none 0 0, .slice none 0 0]) 4 72 Try.underlying29 HIk.out HJk.out HKk.out HLk.out rfl (by decide) _ _ _ rfl H.out.own _ pl.length (ps.flatMap C4.cells) rfl HFL.out (HSRC.out wr H.out.below) HON.out (by unfold maxLen; omega) (by omega) (by omega) ?_); intro v' w5 hown' hgrow hfr; obtain ⟨ya, yc, rfl⟩ := own_sliceZ hown'; have h3 := H.out.more HPV.out (Below.refl _ _) (by rw [HPL.out]; exact hown') hgrow; have HO5 := Lib.hid hown'; have hz5 := h3.size; obtain ⟨⟨m0, m1, m2, m3, m4, m5⟩, _⟩ := six_blkF h3.box; obtain ⟨-, n1, n2, n3, n4, n5⟩ := HCC.out w5 (fun j hj => h3.below.block j hj); simp only at n1 n2 n3 n4 n5; have H3 := Lib.hid h3; clear hown' hgrow hfr h3)
            | (at_builtin; (refine Sh.wpList_append_fresh rfl _ _ 29 rfl (w.heap.size + 1) 31 ik (.agg #[.int .i64 0, .string ⟨#[]⟩, .slice none 0 0, .slice none 0 0]) 4 72 Try.underlying29 HIk.out HJk.out HKk.out HLk.out rfl (by decide) _ _ _ rfl (HO5.out.alloc _) ⟨w5.heap.size, 0, none⟩ 1 1 [.int .i64 xr.k, .string xr.n, .slice xr.an xr.ln xr.cn, .slice xr.ak xr.lk xr.ck] rfl rfl (cells_newZ _ _ _) (C4.one xr) (by unfold maxLen; omega) (by omega) (by simp; omega) ?_); intro v' w7 hown' hgrow hfr; have HOW := Lib.hid hown'; have HGR := Lib.hid hgrow; clear hown' hgrow hfr))
          go_roundw
          case rel =>
            have h4 := H3.out.more (CsV.one HRS.out) ((Below.refl _ _).alloc (Nat.le_refl _) _) (by have := HOW.out; rw [← HPL.out] at this; simpa [List.flatMap_append, C4.cells] using this) HGR.out
            rw [List.append_assoc, List.append_assoc, ← List.append_assoc ((s.sigs.take i).flatMap sgT)] at h4
            exact ⟨i + 1, _, by go_num, by omega, by rw [HTK.out]; simpa [List.append_assoc, sgT] using h4, by have := HPL.out; simp; omega⟩
          case measure => simp [intOf]; omega
        · have hiz : ¬ (i : Int) < (s.sigs.length : Int) := by omega
          obtain rfl : i = s.sigs.length := by omega
          have hval := H.out.val
          have how := H.out.own
          rw [List.take_length] at hval
          obtain ⟨xa', xc', e1, hr⟩ := RowV.own (S := Any wr) (l := cs.map C4.cells) how (cells4_len cs) (by simp) (fun g hg => (how.lt g hg).2)
          obtain ⟨rfl, rfl⟩ : xa = xa' ∧ xc = xc' := by cases e1; exact ⟨rfl, rfl⟩
          have HVL := Lib.hid hval; have HR := Lib.hid hr
          clear hval how e1 hr
          go_wp2
          refine bodyPost_ret (v := .slice xa cs.length xc) (by simp [results, Try.results57, go_sem]) rfl ?_
          exact ⟨xa, ⟨xc, by rw [HVL.out.len]; rfl⟩, cs, HR.out, HVL.out, H.out.below⟩
end Sp
end Go.Proofs.Yteooafgdmpbjeab
