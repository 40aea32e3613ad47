/- Package sprueref4: all. -/
import Derived.Test.YtjjpjkkaogfoaaaP3
import Derived.Deep.DeepCutAuto
namespace Go.Proofs.Ytjjpjkkaogfoaaa
open Go.RowKit
namespace Sp
open Sc

/-- The types of a schema, in order. -/
def sgT (g : Sg) : List Tz := g.params ++ [g.result]
def allT (s : Sz) : List Tz := (s.types.map (·.2) ++ [s.main]) ++ s.sigs.flatMap sgT
/-- Types and their cells. -/
structure CsV (w : World) (S : Nat → Prop) (l : List Tz) (cs : List C4) : Prop where
  len : cs.length = l.length
  val : ∀ i (h : i < l.length) (h' : i < cs.length), TzV w S l[i] cs[i]
theorem CsV.nil (w : World) (S : Nat → Prop) : CsV w S [] [] := ⟨rfl, fun i h => by cases h⟩
theorem CsV.append {w : World} {S : Nat → Prop} {l m : List Tz} {cs ds : List C4} (h : CsV w S l cs) (k : CsV w S m ds) : CsV w S (l ++ m) (cs ++ ds) := by
  have hl := h.len
  have kl := k.len
  refine ⟨by simp [hl, kl], fun i h1 h2 => ?_⟩
  simp only [List.length_append] at h1 h2
  by_cases hi : i < l.length
  · rw [List.getElem_append_left hi, List.getElem_append_left (by omega)]
    exact h.val i hi (by omega)
  · rw [List.getElem_append_right (by omega), List.getElem_append_right (by omega)]
    simp only [hl]
    exact k.val _ (by omega) (by omega)
theorem CsV.one {w : World} {S : Nat → Prop} {t : Tz} {c : C4} (h : TzV w S t c) : CsV w S [t] [c] := ⟨rfl, fun i h1 h2 => by
  match i, h1 with
  | 0, _ => exact h⟩
theorem take_map_snoc {α β : Type} (f : α → β) (l : List α) (i : Nat) (h : i < l.length) : (l.take (i + 1)).map f = (l.take i).map f ++ [f l[i]] := by
  rw [List.take_add_one, List.getElem?_eq_getElem h, Option.toList_some, List.map_append]; rfl
theorem take_flat_snoc {α β : Type} (f : α → List β) (l : List α) (i : Nat) (h : i < l.length) : (l.take (i + 1)).flatMap f = (l.take i).flatMap f ++ f l[i] := by
  rw [List.take_add_one, List.getElem?_eq_getElem h, Option.toList_some, List.flatMap_append]; simp
structure AlR (w : World) (S : Nat → Prop) (bc : Array Value) (l : List Tz) (lv : Value) (wr : World) (cs : List C4) : Prop where
  own : wr.ownsRow (w.heap.size + 1) 25 4 lv cs.length (cs.flatMap C4.cells)
  val : CsV w S l cs
  box : wr.heap[w.heap.size]? = some (.cells bc 29 (0, 0))
  size : w.heap.size + 1 ≤ wr.heap.size
  below : Below w.heap.size w wr
theorem AlR.more {w w1 w2 : World} {S : Nat → Prop} {bc : Array Value} {l m : List Tz} {lv lv' : Value} {cs ds : List C4} (h : AlR w S bc l lv w1 cs) (hd : CsV w S m ds) (hb : Below w1.heap.size w1 w2) {w3 : World} (hown : w3.ownsRow (w.heap.size + 1) 25 4 lv' (cs.length + ds.length) (cs.flatMap C4.cells ++ ds.flatMap C4.cells)) (hg : w2.grownBy w3 lv.ownBlock) : AlR w S bc (l ++ m) lv' w3 (cs ++ ds) := by
  have hz := h.size
  have hz2 := hb.size
  have hlt := fun g e => (h.own.lt g e).1
  refine ⟨by simpa [List.flatMap_append] using hown, h.val.append hd, ?_, Nat.le_trans (Nat.le_trans hz hz2) hg.size, ?_⟩
  · exact (hg.block _ (by omega) (fun e => by have := hlt _ e.symm; omega)).trans ((hb.block _ (by omega)).trans h.box)
  · exact (h.below.trans (hb.mono (by omega))).trans (below_grown hg (fun g e => by have := hlt g e; omega) (by omega))
set_option maxRecDepth 100000 in
set_option maxHeartbeats 16000000 in
theorem all_ref (S : Nat → Prop) (s : Sz) (c : C4) (a1 a2 : Option Addr) (us : List (List UInt8 × C4)) (gs : List (List UInt8 × G6)) (c1 c2 : Nat) (w : World) (hS : ∀ g, S g → g < w.heap.size) (hV : SzV w S s c a1 us a2 gs) (hl1 : s.types.length ≤ 12) (hl2 : s.sigs.length ≤ 12) (hp : ∀ i (h : i < s.sigs.length), s.sigs[i].params.length ≤ 4) :
    Calls Try.prog 46 #[.agg #[.int .i64 c.k, .string c.n, .slice c.an c.ln c.cn, .slice c.ak c.lk c.ck, .slice a1 s.types.length c1, .slice a2 s.sigs.length c2]] w fun e w' => ∃ la lc cs, e = .returned (.slice la (allT s).length lc) ∧ RowV w' (Any w') la 4 (cs.map C4.cells) ∧ CsV w S (allT s) cs ∧ Below w.heap.size w w' := by
  obtain ⟨W0, hW0⟩ : ∃ W0, W0 = w.alloc (.cells #[.int .i64 c.k, .string c.n, .slice c.an c.ln c.cn, .slice c.ak c.lk c.ck, .slice a1 s.types.length c1, .slice a2 s.sigs.length c2] 29) := ⟨_, rfl⟩
  have hb0 : Below w.heap.size w W0 := by rw [hW0]; exact (Below.refl _ _).alloc (Nat.le_refl _) _
  have hz0 : W0.heap.size = w.heap.size + 1 := by rw [hW0]; simp
  have hs0 : W0.heap[w.heap.size]? = some (.cells #[.int .i64 c.k, .string c.n, .slice c.an c.ln c.cn, .slice c.ak c.lk c.ck, .slice a1 s.types.length c1, .slice a2 s.sigs.length c2] 29 (0, 0)) := by rw [hW0]; exact heap_alloc_new w _
  obtain ⟨ik, hik, jk, kk, lk⟩ := info_parts infoTz
  have HIk := Lib.hid hik; have HJk := Lib.hid jk; have HKk := Lib.hid kk; have HLk := Lib.hid lk
  have HSS := Lib.hid hS; have HV := Lib.hid hV; have HW0 := Lib.hid hW0; have HB0 := Lib.hid hb0; have HS0 := Lib.hid hs0; have HP := Lib.hid hp
  clear hS hV hW0 hb0 hs0 hik jk kk lk hp
  go_enter Try.func46, Try.ntmps46
  go_wp2_with fail
  rw [← HW0.out]
  go_wp2_with fail
  go_loopw [3, 4] (fun v3 v4 wr => ∃ i cs, v4 = .int .i64 (i : Nat) ∧ i ≤ s.types.length ∧ AlR w S #[.int .i64 c.k, .string c.n, .slice c.an c.ln c.cn, .slice c.ak c.lk c.ck, .slice a1 s.types.length c1, .slice a2 s.sigs.length c2] ((s.types.take i).map (·.2)) v3 wr cs) (fun _ v4 _ => s.types.length - (intOf v4).toNat)
  case atStart => exact ⟨0, [], rfl, Nat.zero_le _, ⟨World.ownsRow_nil _ _ _ _, CsV.nil _ _, HS0.out, by omega, HB0.out⟩⟩
  case round =>
    obtain ⟨i, cs, rfl, hi, h⟩ := hrel
    obtain ⟨⟨s0, s1, s2, s3, s4, s5⟩, _⟩ := six_blkF h.box
    have hzr := h.size
    have hcl := h.val.len
    have hcl2 : cs.length ≤ 12 := by rw [hcl, List.length_map, List.length_take]; omega
    obtain ⟨xa, xc, hx⟩ := own_sliceZ h.own
    subst hx
    have H := Lib.hid h
    clear h hcl
    by_cases hil : i < s.types.length
    · have hiz : (i : Int) < (s.types.length : Int) := by omega
      have hi0 : (0 : Int) ≤ (i : Int) := by omega
      have hju : i < us.length := by rw [HV.out.nt]; exact hil
      obtain ⟨g, o, rfl, hg, hc⟩ := nam_at HV.out.rt HSS.out i hju
      obtain ⟨q0, q1, q2, q3, q4⟩ := hc wr (fun j hj => H.out.below.block j hj)
      obtain ⟨_, hv⟩ := HV.out.vt i hil hju
      have htk : (s.types.take (i + 1)).map (·.2) = (s.types.take i).map (·.2) ++ [s.types[i].2] := take_map_snoc _ _ i hil
      generalize us[i].2 = x at *
      have HVX := Lib.hid hv; have HTK := Lib.hid htk
      clear hc hv htk q0
      go_wp2_with (at_builtin; (refine Sh.wpList_append_fresh rfl _ _ 23 rfl (w.heap.size + 1) 25 ik (.agg #[.int .i64 0, .string ⟨#[]⟩, .slice none 0 0, .slice none 0 0]) 4 72 Try.underlying23 HIk.out HJk.out HKk.out HLk.out rfl (by decide) _ _ _ rfl (H.out.own.alloc _) ⟨wr.heap.size, 0, none⟩ 1 1 [.int .i64 x.k, .string x.n, .slice x.an x.ln x.cn, .slice x.ak x.lk x.ck] rfl rfl (cells_newZ _ _ _) (C4.one x) (by unfold maxLen; omega) (by omega) (by simp; omega) ?_); intro v' w5 hown' hgrow hfr; have HOW := Lib.hid hown'; have HGR := Lib.hid hgrow; clear hown' hgrow hfr)
      go_roundw
      case rel => exact ⟨i + 1, cs ++ [x], by go_num, by omega, by rw [HTK.out]; exact H.out.more (CsV.one HVX.out) ((Below.refl _ _).alloc (Nat.le_refl _) _) HOW.out HGR.out⟩
      case measure => simp [intOf]; omega
    · have hiz : ¬ (i : Int) < (s.types.length : Int) := by omega
      obtain rfl : i = s.types.length := by omega
      have htk : (s.types.take s.types.length).map (·.2) = s.types.map (·.2) := by rw [List.take_length]
      have HTK := Lib.hid htk
      clear htk
      go_wp2_with (at_builtin; (refine Sh.wpList_append_fresh rfl _ _ 23 rfl (w.heap.size + 1) 25 ik (.agg #[.int .i64 0, .string ⟨#[]⟩, .slice none 0 0, .slice none 0 0]) 4 72 Try.underlying23 HIk.out HJk.out HKk.out HLk.out rfl (by decide) _ _ _ rfl (H.out.own.alloc _) ⟨wr.heap.size, 0, none⟩ 1 1 [.int .i64 c.k, .string c.n, .slice c.an c.ln c.cn, .slice c.ak c.lk c.ck] rfl rfl (cells_newZ _ _ _) (C4.one c) (by unfold maxLen; omega) (by omega) (by simp; omega) ?_); intro v' w5 hown' hgrow hfr; have HOW := Lib.hid hown'; have HGR := Lib.hid hgrow; clear hown' hgrow hfr)
      have h2 := H.out.more (CsV.one HV.out.main) ((Below.refl _ _).alloc (Nat.le_refl _) _) HOW.out HGR.out
      rw [HTK.out] at h2
      have H2 := Lib.hid h2
      clear h2 H
      go_loopw [3, 5] (fun v3 v5 wr => ∃ i cs, v5 = .int .i64 (i : Nat) ∧ i ≤ s.sigs.length ∧ AlR w S #[.int .i64 c.k, .string c.n, .slice c.an c.ln c.cn, .slice c.ak c.lk c.ck, .slice a1 s.types.length c1, .slice a2 s.sigs.length c2] ((s.types.map (·.2) ++ [s.main]) ++ (s.sigs.take i).flatMap sgT) v3 wr cs ∧ cs.length ≤ 13 + 5 * i) (fun _ v5 _ => s.sigs.length - (intOf v5).toNat)
      case atStart => exact ⟨0, cs ++ [c], rfl, Nat.zero_le _, by simpa using H2.out, by simp; omega⟩
      case round =>
        obtain ⟨i, cs, rfl, hi, h, hcl2⟩ := hrel
        obtain ⟨⟨s0, s1, s2, s3, s4, s5⟩, _⟩ := six_blkF h.box
        have hzr := h.size
        obtain ⟨xa, xc, hx⟩ := own_sliceZ h.own
        subst hx
        have H := Lib.hid h
        clear h
        by_cases hil : i < s.sigs.length
        · have hiz : (i : Int) < (s.sigs.length : Int) := by omega
          have hi0 : (0 : Int) ≤ (i : Int) := by omega
          have hju : i < gs.length := by rw [HV.out.ng]; exact hil
          obtain ⟨g, o, rfl, hg, hc⟩ := sig_at HV.out.rg HSS.out i hju
          obtain ⟨q0, q1, q2, q3, q4, q5⟩ := hc wr (fun j hj => H.out.below.block j hj)
          obtain ⟨_, hlp, ⟨ps, hpl, hpr, hpv⟩, hres⟩ := HV.out.vg i hil hju
          have hp4 := HP.out i hil
          have htk : (s.sigs.take (i + 1)).flatMap sgT = (s.sigs.take i).flatMap sgT ++ (s.sigs[i].params ++ [s.sigs[i].result]) := take_flat_snoc sgT _ i hil
          generalize s.sigs[i].params = pl at *
          generalize s.sigs[i].result = rt at *
          generalize gs[i].2 = x at *
          obtain ⟨xap, xlp, xcp, xr⟩ := x
          simp only at hlp hpr hres q0 q1 q2 q3 q4 q5
          subst hlp
          have hps : ps.length ≤ 4 := by omega
          have hsrc : ∀ W, Below w.heap.size w W → SrcV W (.slice xap pl.length xcp) pl.length (ps.flatMap C4.cells) := fun W hW => by
            have := (hpr.keep (w' := W) (fun _ h => h) (fun g hg => hW.block g (HSS.out g hg))).front (by decide) (cells4_len ps) pl.length xcp (by rw [List.length_map, hpl]; exact Nat.le_refl _)
            rw [show (List.take pl.length (ps.map C4.cells)) = ps.map C4.cells from List.take_of_length_le (by rw [List.length_map, hpl]; exact Nat.le_refl _)] at this
            exact this
          have hfl : (ps.flatMap C4.cells).length = pl.length * 4 := by rw [← hpl]; have := kdF_len ps; unfold kdF at this; exact this
          have hone : ∀ u ∈ ps.flatMap C4.cells, u.oneCell' = true := kdF_one ps
          have HCC := Lib.hid hc; have HSRC := Lib.hid hsrc; have HFL := Lib.hid hfl; have HON := Lib.hid hone; have HPL := Lib.hid hpl; have HPV : Hid (CsV w S pl ps) := ⟨hpl, hpv⟩; have HRS := Lib.hid hres; have HTK := Lib.hid htk
          have hpl4 : pl.length ≤ 4 := hp4
          clear hc hsrc hfl hone hpl hpv hres htk hpr hps hp4 q0
          go_wp2_with (first
            | (at_builtin; (refine wpList_append_srcV rfl _ _ 23 rfl (w.heap.size + 1) 25 ik (.agg #[.int .i64 0, .string ⟨#[]⟩, .slice none 0 0, .slice none 0 0]) 4 72 Try.underlying23 HIk.out HJk.out HKk.out HLk.out rfl (by decide) _ _ _ rfl H.out.own _ pl.length (ps.flatMap C4.cells) rfl HFL.out (HSRC.out wr H.out.below) HON.out (by unfold maxLen; omega) (by omega) (by omega) ?_); intro v' w5 hown' hgrow hfr; obtain ⟨ya, yc, rfl⟩ := own_sliceZ hown'; have h3 := H.out.more HPV.out (Below.refl _ _) (by rw [HPL.out]; exact hown') hgrow; have HO5 := Lib.hid hown'; have hz5 := h3.size; obtain ⟨⟨m0, m1, m2, m3, m4, m5⟩, _⟩ := six_blkF h3.box; obtain ⟨-, n1, n2, n3, n4, n5⟩ := HCC.out w5 (fun j hj => h3.below.block j hj); simp only at n1 n2 n3 n4 n5; have H3 := Lib.hid h3; clear hown' hgrow hfr h3)
            | (at_builtin; (refine Sh.wpList_append_fresh rfl _ _ 23 rfl (w.heap.size + 1) 25 ik (.agg #[.int .i64 0, .string ⟨#[]⟩, .slice none 0 0, .slice none 0 0]) 4 72 Try.underlying23 HIk.out HJk.out HKk.out HLk.out rfl (by decide) _ _ _ rfl (HO5.out.alloc _) ⟨w5.heap.size, 0, none⟩ 1 1 [.int .i64 xr.k, .string xr.n, .slice xr.an xr.ln xr.cn, .slice xr.ak xr.lk xr.ck] rfl rfl (cells_newZ _ _ _) (C4.one xr) (by unfold maxLen; omega) (by omega) (by simp; omega) ?_); intro v' w7 hown' hgrow hfr; have HOW := Lib.hid hown'; have HGR := Lib.hid hgrow; clear hown' hgrow hfr))
          go_roundw
          case rel =>
            have h4 := H3.out.more (CsV.one HRS.out) ((Below.refl _ _).alloc (Nat.le_refl _) _) (by have := HOW.out; rw [← HPL.out] at this; simpa [List.flatMap_append, C4.cells] using this) HGR.out
            rw [List.append_assoc, List.append_assoc, ← List.append_assoc ((s.sigs.take i).flatMap sgT)] at h4
            exact ⟨i + 1, _, by go_num, by omega, by rw [HTK.out]; simpa [List.append_assoc, sgT] using h4, by have := HPL.out; simp; omega⟩
          case measure => simp [intOf]; omega
        · have hiz : ¬ (i : Int) < (s.sigs.length : Int) := by omega
          obtain rfl : i = s.sigs.length := by omega
          have hval := H.out.val
          have how := H.out.own
          rw [List.take_length] at hval
          obtain ⟨xa', xc', e1, hr⟩ := RowV.own (S := Any wr) (l := cs.map C4.cells) how (cells4_len cs) (by simp) (fun g hg => (how.lt g hg).2)
          obtain ⟨rfl, rfl⟩ : xa = xa' ∧ xc = xc' := by cases e1; exact ⟨rfl, rfl⟩
          have HVL := Lib.hid hval; have HR := Lib.hid hr
          clear hval how e1 hr
          go_wp2
          refine bodyPost_ret (v := .slice xa cs.length xc) (by simp [results, Try.results46, go_sem]) rfl ?_
          exact ⟨xa, ⟨xc, by rw [HVL.out.len]; rfl⟩, cs, HR.out, HVL.out, H.out.below⟩
end Sp
end Go.Proofs.Ytjjpjkkaogfoaaa

namespace Go.Proofs.Ytjjpjkkaogfoaaa
open Go.RowKit
namespace Sp
open Sc

theorem fnsZ_drop {has : List UInt8 → Bool} {n : Nat} {a : List UInt8} {l : List Sg} {j : Nat} (h : j < l.length) : fnsZ has n a (l.drop j) = if (fnZ has n a l[j]).1 = 0 then fnsZ has (fnZ has n a l[j]).2 l[j].name (l.drop (j + 1)) else fnZ has n a l[j] := by rw [List.drop_eq_getElem_cons h, fnsZ]
/-- What Check of the chapter's own telling answers. -/
def refC (s : Sz) : Nat :=
  if 12 < s.types.length ∨ 12 < s.sigs.length then 3
  else if namesE wordB [] (s.types.map (·.1)) ≠ 0 then namesE wordB [] (s.types.map (·.1))
  else if schZ s ≠ 0 then schZ s
  else if (finiteR s.types).length ≠ s.types.length then 14
  else if (allT s).any (nestR s.types) = true then 17 else 0
structure NmR (w W0 : World) (tk : List UInt8 → Bool) (ns : List (List UInt8)) (kv : Value) (wr : World) (i : Nat) : Prop where
  slot : kv = .int .i64 i
  le : i ≤ ns.length
  names : namesE tk [] ns = namesE tk (prevN ns i) (ns.drop i)
  same : ∀ g : Nat, wr.heap[g]? = W0.heap[g]?
  size : wr.heap.size = W0.heap.size
  below : Below w.heap.size w wr
theorem schZ_bad1 {s : Sz} {e n : Nat} (h : allZ (hasZ s.types) 1 0 (s.types.map (·.2)) = (e, n)) (he : e ≠ 0) : schZ s = e := by
  unfold schZ; simp only [h]; rw [if_pos he]
theorem schZ_bad2 {s : Sz} {e n m : Nat} (h : allZ (hasZ s.types) 1 0 (s.types.map (·.2)) = (0, n)) (h2 : oneZ (hasZ s.types) 1 n s.main = (e, m)) (he : e ≠ 0) : schZ s = e := by
  unfold schZ; simp only [h, h2]; rw [if_neg (by simp), if_pos he]
theorem schZ_go {s : Sz} {n m : Nat} (h : allZ (hasZ s.types) 1 0 (s.types.map (·.2)) = (0, n)) (h2 : oneZ (hasZ s.types) 1 n s.main = (0, m)) : schZ s = (fnsZ (hasZ s.types) m [] s.sigs).1 := by
  unfold schZ; simp only [h, h2]; rw [if_neg (by simp), if_neg (by simp)]
structure FnR (w : World) (wb : Nat) (s : Sz) (c : C4) (a1 a2 : Option Addr) (us : List (List UInt8 × C4)) (gs : List (List UInt8 × G6)) (c1 c2 : Nat) (full : Nat × Nat) (ev jv : Value) (wr : World) (j n : Nat) : Prop where
  slot : jv = .int .i64 j
  err : ev = .int .i64 0
  le : j ≤ s.sigs.length
  few : n ≤ 400
  rest : fnsZ (hasZ s.types) n (prevN (s.sigs.map (·.name)) j) (s.sigs.drop j) = full
  box : wr.heap[w.heap.size]? = some (.cells #[.int .i64 c.k, .string c.n, .slice c.an c.ln c.cn, .slice c.ak c.lk c.ck, .slice a1 s.types.length c1, .slice a2 s.sigs.length c2] 29 (0, 0))
  walk : wr.heap[wb]? = some (.cells #[.int .i64 c.k, .string c.n, .slice c.an c.ln c.cn, .slice c.ak c.lk c.ck, .slice a1 s.types.length c1, .slice a2 s.sigs.length c2, .int .i64 n] 90 (0, 0))
  below : Below w.heap.size w wr
mutual
theorem oneZ_kids (has : List UInt8 → Bool) : ∀ (t : Tz) (d n : Nat), (oneZ has d n t).1 = 0 → kidsOk t = true
  | .mk k nm ns ks, d, n, h0 => by
    rw [oneZ] at h0
    split at h0
    · cases h0
    · split at h0
      · cases h0
      · split at h0
        · rename_i h3; exact absurd h0 h3
        · rename_i h3
          rw [kidsOk, Bool.and_eq_true]
          refine ⟨?_, allZ_kids has ks (d + 1) (n + 1) h0⟩
          by_cases h6 : k = 6
          · subst h6
            have h4 : ownE has 6 nm ns ks.length = 0 := by simpa using h3
            unfold ownE at h4
            rw [if_neg (by omega)] at h4
            split at h4
            · cases h4
            · rename_i h5
              unfold formB kidsN at h5
              simp at h5
              simp; omega
          · simp [h6]
theorem allZ_kids (has : List UInt8 → Bool) : ∀ (ks : List Tz) (d n : Nat), (allZ has d n ks).1 = 0 → kidsOks ks = true
  | [], _, _, _ => rfl
  | t :: ks, d, n, h0 => by
    rw [allZ] at h0
    split at h0
    · rename_i h1
      rw [kidsOks, oneZ_kids has t d n h1, allZ_kids has ks d _ h0]; rfl
    · rename_i h1; exact absurd h0 h1
end
theorem fnsZ_few (has : List UInt8 → Bool) : ∀ (l : List Sg) (a : List UInt8) (n : Nat), (fnsZ has n a l).1 = 0 → ∀ g ∈ l, g.params.length ≤ 4 ∧ kidsOks g.params = true ∧ kidsOk g.result = true
  | [], _, _, _, g, hg => by cases hg
  | x :: l, a, n, h0, g, hg => by
    rw [fnsZ] at h0
    split at h0
    · rename_i h1
      rcases List.mem_cons.1 hg with rfl | hg
      · unfold fnZ at h1
        split at h1
        · rename_i h2; exact absurd h1 h2
        · split at h1
          · cases h1
          · rename_i h2 h3
            split at h1
            · rename_i h4; exact absurd h1 h4
            · rename_i h4
              exact ⟨by omega, allZ_kids has _ _ _ (by simpa using h4), oneZ_kids has _ _ _ h1⟩
      · exact fnsZ_few has l _ _ h0 g hg
    · rename_i h1; exact absurd h0 h1
theorem kidsOks_all {ks : List Tz} (h : kidsOks ks = true) : ∀ t ∈ ks, kidsOk t = true := fun t ht => by
  obtain ⟨i, hi, rfl⟩ := List.mem_iff_getElem.1 ht
  exact kidsOks_mem ks h i hi
theorem allT_mem {s : Sz} {P : Tz → Prop} (h1 : ∀ x ∈ s.types, P x.2) (h2 : P s.main) (h3 : ∀ g ∈ s.sigs, (∀ t ∈ g.params, P t) ∧ P g.result) : ∀ t ∈ allT s, P t := fun t ht => by
  unfold allT at ht
  rw [List.mem_append, List.mem_append] at ht
  rcases ht with (ht | ht) | ht
  · obtain ⟨x, hx, rfl⟩ := List.mem_map.1 ht; exact h1 x hx
  · rw [List.mem_singleton.1 ht]; exact h2
  · obtain ⟨g, hg, ht⟩ := List.mem_flatMap.1 ht
    unfold sgT at ht
    rcases List.mem_append.1 ht with ht | ht
    · exact (h3 g hg).1 t ht
    · rw [List.mem_singleton.1 ht]; exact (h3 g hg).2
theorem SzFit.all {s : Sz} (h : SzFit s) : ∀ t ∈ allT s, fitZ t = true := allT_mem (fun x hx => by
    obtain ⟨i, hi, rfl⟩ := List.mem_iff_getElem.1 hx
    exact (h.types i hi).2) h.main (fun g hg => by
    obtain ⟨i, hi, rfl⟩ := List.mem_iff_getElem.1 hg
    have := h.sigs i hi
    unfold fitG at this
    simp only [Bool.and_eq_true] at this
    exact ⟨fun t ht => by
      obtain ⟨k, hk, rfl⟩ := List.mem_iff_getElem.1 ht
      exact fitZs_mem _ this.1.2 k hk, this.2⟩)
theorem all_kids {s : Sz} {n m r : Nat} (h1 : allZ (hasZ s.types) 1 0 (s.types.map (·.2)) = (0, n)) (h2 : oneZ (hasZ s.types) 1 n s.main = (0, m)) (h3 : fnsZ (hasZ s.types) m [] s.sigs = (0, r)) : ∀ t ∈ allT s, kidsOk t = true := by
  have k1 := kidsOks_all (allZ_kids _ _ _ _ (by rw [h1]))
  have k3 := fnsZ_few _ _ _ _ (by rw [h3])
  exact allT_mem (fun x hx => k1 _ (List.mem_map.2 ⟨x, hx, rfl⟩)) (oneZ_kids _ _ _ _ (by rw [h2])) (fun g hg => ⟨kidsOks_all (k3 g hg).2.1, (k3 g hg).2.2⟩)
structure OlR (w W6 : World) (s : Sz) (full : Bool) (kv : Value) (wr : World) (k : Nat) : Prop where
  slot : kv = .int .i64 k
  le : k ≤ (allT s).length
  rest : ((allT s).drop k).any (nestR s.types) = full
  below : Below W6.heap.size W6 wr
structure MaR (S : Nat → Prop) (w : World) (wb : Nat) (s : Sz) (c : C4) (a1 a2 : Option Addr) (us : List (List UInt8 × C4)) (gs : List (List UInt8 × G6)) (c1 c2 : Nat) (ks : List Tz) (full : Nat × Nat) (ev iv : Value) (wr : World) (j e n : Nat) : Prop where
  slot : iv = .int .i64 j
  err : ev = .int .i64 e
  le : j ≤ ks.length
  rest : e = 0 → allZ (hasZ s.types) 1 n (ks.drop j) = full ∧ n ≤ 400
  bad : e ≠ 0 → full = (e, n)
  box : wr.heap[w.heap.size]? = some (.cells #[.int .i64 c.k, .string c.n, .slice c.an c.ln c.cn, .slice c.ak c.lk c.ck, .slice a1 s.types.length c1, .slice a2 s.sigs.length c2] 29 (0, 0))
  walk : wr.heap[wb]? = some (.cells #[.int .i64 c.k, .string c.n, .slice c.an c.ln c.cn, .slice c.ak c.lk c.ck, .slice a1 s.types.length c1, .slice a2 s.sigs.length c2, .int .i64 n] 90 (0, 0))
  below : Below w.heap.size w wr
set_option maxRecDepth 100000 in
set_option maxHeartbeats 16000000 in
theorem Check_ref (S : Nat → Prop) (s : Sz) (c : C4) (a1 a2 : Option Addr) (us : List (List UInt8 × C4)) (gs : List (List UInt8 × G6)) (c1 c2 : Nat) (w : World) (hS : ∀ g, S g → g < w.heap.size) (hV : SzV w S s c a1 us a2 gs) (hl1 : s.types.length ≤ 1000000) (hl2 : s.sigs.length ≤ 1000000) (hf : SzFit s) :
    Calls Try.prog 17 #[.agg #[.int .i64 c.k, .string c.n, .slice c.an c.ln c.cn, .slice c.ak c.lk c.ck, .slice a1 s.types.length c1, .slice a2 s.sigs.length c2]] w fun e w' => e = .returned (.int .i64 (refC s : Nat)) ∧ Below w.heap.size w w' := by
  obtain ⟨W0, hW0⟩ : ∃ W0, W0 = w.alloc (.cells #[.int .i64 c.k, .string c.n, .slice c.an c.ln c.cn, .slice c.ak c.lk c.ck, .slice a1 s.types.length c1, .slice a2 s.sigs.length c2] 29) := ⟨_, rfl⟩
  have hb0 : Below w.heap.size w W0 := by rw [hW0]; exact (Below.refl _ _).alloc (Nat.le_refl _) _
  have hz0 : W0.heap.size = w.heap.size + 1 := by rw [hW0]; simp
  have hs0 : W0.heap[w.heap.size]? = some (.cells #[.int .i64 c.k, .string c.n, .slice c.an c.ln c.cn, .slice c.ak c.lk c.ck, .slice a1 s.types.length c1, .slice a2 s.sigs.length c2] 29 (0, 0)) := by rw [hW0]; exact heap_alloc_new w _
  have HSS := Lib.hid hS; have HV := Lib.hid hV; have HW0 := Lib.hid hW0; have HB0 := Lib.hid hb0; have HS0 := Lib.hid hs0; have HF := Lib.hid hf
  obtain ⟨⟨s0, s1, s2, s3, s4, s5⟩, _⟩ := six_blkF hs0
  clear hS hV hW0 hb0 hs0 hf
  go_enter Try.func17, Try.ntmps17
  go_upto_region 1 with fail
  rw [← HW0.out]
  by_cases h1 : 12 < s.types.length
  · have h1z : (12 : Int) < (s.types.length : Int) := by omega
    have hv : refC s = 3 := by unfold refC; exact if_pos (.inl h1)
    have HVV := Lib.hid hv
    clear hv
    go_wp2
    go_ret
    exact ⟨ret_intZ (by rw [HVV.out]; rfl), HB0.out⟩
  · have h1z : ¬ (12 : Int) < (s.types.length : Int) := by omega
    by_cases h2 : 12 < s.sigs.length
    · have h2z : (12 : Int) < (s.sigs.length : Int) := by omega
      have hv : refC s = 3 := by unfold refC; exact if_pos (.inr h2)
      have HVV := Lib.hid hv
      clear hv
      go_wp2
      go_ret
      exact ⟨ret_intZ (by rw [HVV.out]; rfl), HB0.out⟩
    · have h2z : ¬ (12 : Int) < (s.sigs.length : Int) := by omega
      have HL : Hid (¬ (12 < s.types.length ∨ 12 < s.sigs.length)) := fun h => h.elim h1 h2
      have ht12 : s.types.length ≤ 12 := by omega
      have hs12 : s.sigs.length ≤ 12 := by omega
      clear h1 h2
      go_wp2_with fail
      go_loopw [3] (fun v3 wr => ∃ i : Nat, NmR w W0 wordB (s.types.map (·.1)) v3 wr i) (fun v3 _ => s.types.length - (intOf v3).toNat)
      case atStart => exact ⟨0, rfl, Nat.zero_le _, rfl, fun _ => rfl, rfl, HB0.out⟩
      case round =>
        obtain ⟨i, h⟩ := hrel
        obtain rfl := h.slot
        have hi := h.le
        rw [List.length_map] at hi
        obtain ⟨⟨p0, p1, p2, p3, p4, p5⟩, _⟩ := six_blkF ((h.same _).trans HS0.out)
        have hd := Lib.hid h.names
        have hwz := h.size
        have H := Lib.hid h
        clear h s0 s1 s2 s3 s4 s5
        by_cases hlt : i < s.types.length
        · have hiz : (i : Int) < (s.types.length : Int) := by omega
          have hi0 : (0 : Int) ≤ (i : Int) := by omega
          have hju : i < us.length := by rw [HV.out.nt]; exact hlt
          obtain ⟨g, o, rfl, hg, hc⟩ := nam_at HV.out.rt HSS.out i hju
          obtain ⟨c0, -, -, -, -⟩ := hc wr (fun j hj => H.out.below.block j hj)
          obtain ⟨hn, -⟩ := HV.out.vt i hlt hju
          rw [hn] at c0
          have hil : i < (s.types.map (·.1)).length := by rw [List.length_map]; exact hlt
          have hnl : (s.types.map (·.1))[i] = s.types[i].1 := by rw [List.getElem_map]
          have CI := RIdent_any ⟨s.types[i].1.toArray⟩ wr (HF.out.types i hlt).1
          rw [show (⟨s.types[i].1.toArray⟩ : ByteArray).data.toList = s.types[i].1 from rfl] at CI
          have CW := word_ref s.types[i].1 wr
          have hdr := namesE_drop (tk := wordB) (a := prevN (s.types.map (·.1)) i) hil
          rw [hnl] at hdr
          have hpn : prevN (s.types.map (·.1)) (i + 1) = s.types[i].1 := by unfold prevN; rw [if_neg (by omega), Nat.add_sub_cancel]; simp [List.getD, hlt]
          have e1 := toList_mk' s.types[i].1
          generalize s.types[i].1 = nm at *
          have HDR := Lib.hid hdr; have HPN := Lib.hid hpn
          clear hdr hpn hc hn hnl
          cases hid : identB nm
          · have hne : namesE wordB [] (s.types.map (·.1)) = 15 := by rw [hd.out, HDR.out]; unfold nameE; simp [hid]
            have hv : refC s = 15 := by unfold refC; rw [if_neg HL.out, hne]; rfl
            rw [hid] at CI
            have HVV := Lib.hid hv; have HCI := Lib.hid CI
            clear hne hv CI hid CW hd
            go_wp2_with (go_at_call 41; (with_reducible refine HCI.out.mono ?_); rintro e w2 ⟨rfl, rfl⟩)
            go_ret
            exact ⟨ret_intZ (by rw [HVV.out]; rfl), H.out.below⟩
          · rw [hid] at CI
            have HCI := Lib.hid CI
            clear CI
            cases hwd : wordB nm
            · rw [hwd] at CW
              have HCW := Lib.hid CW
              clear CW
              by_cases hi1 : i = 0
              · have hdd : decide ((0 : Int) < (i : Int)) = false := decide_eq_false (by omega)
                have hde : decide (0 < i) = false := decide_eq_false (by omega)
                have hl := leB_nil hid
                have hd' : namesE wordB [] (s.types.map (·.1)) = namesE wordB (prevN (s.types.map (·.1)) (i + 1)) ((s.types.map (·.1)).drop (i + 1)) := by
                  rw [hd.out, HDR.out, HPN.out, if_pos (by unfold nameE leB prevN; rw [hid, hwd, if_neg (by simp), if_pos hi1, hl]; simp)]
                have HD := Lib.hid hd'
                clear hd' hid hl hd hi1 hwd
                go_wp2_with (first | (go_at_call 41; (with_reducible refine HCI.out.mono ?_); rintro e w2 ⟨rfl, rfl⟩) | (go_at_call 42; (with_reducible refine HCW.out.mono ?_); rintro e w2 ⟨rfl, rfl⟩))
                go_quiet (fail)
                go_wp2
                go_roundw
                case rel => exact ⟨i + 1, by go_num, by rw [List.length_map]; omega, HD.out, H.out.same, H.out.size, below_dNZ H.out.below _⟩
                case measure => simp [intOf]; omega
              · have hip : (0 : Int) < (i : Int) := by omega
                have hiq : 0 < i := by omega
                have him : (i : Int) - 1 = ((i - 1 : Nat) : Int) := by omega
                have him2 : IntKind.i64.wrap ((i : Int) - 1) = ((i - 1 : Nat) : Int) := by rw [IntKind.wrap_i64]; omega
                have hlt1 : i - 1 < s.types.length := by omega
                have hju1 : i - 1 < us.length := by rw [HV.out.nt]; exact hlt1
                obtain ⟨g2, o2, e2, hg2, hc2⟩ := nam_at HV.out.rt HSS.out (i - 1) hju1
                obtain ⟨rfl, rfl⟩ : g = g2 ∧ o = o2 := by cases e2; exact ⟨rfl, rfl⟩
                obtain ⟨d0, -, -, -, -⟩ := hc2 wr (fun j hj => H.out.below.block j hj)
                obtain ⟨hn1, -⟩ := HV.out.vt (i - 1) hlt1 hju1
                rw [hn1] at d0
                have hgp : prevN (s.types.map (·.1)) i = s.types[i - 1].1 := by unfold prevN; rw [if_neg hi1]; simp [List.getD, hlt1]
                have e3 := toList_mk' s.types[i - 1].1
                have hjz : ((i - 1 : Nat) : Int) < (s.types.length : Int) := by omega
                have hj0 : (0 : Int) ≤ ((i - 1 : Nat) : Int) := by omega
                have HPI := Lib.hid hgp; have HID := Lib.hid hid; have HWD := Lib.hid hwd
                clear hid hc2 hgp e2 hn1 hwd
                generalize s.types[i - 1].1 = b at *
                cases hl : (Op.bytesLess nm b || nm == b)
                · have hd' : namesE wordB [] (s.types.map (·.1)) = namesE wordB (prevN (s.types.map (·.1)) (i + 1)) ((s.types.map (·.1)).drop (i + 1)) := by
                    rw [hd.out, HDR.out, HPN.out, show prevN (s.types.map (·.1)) i = b from HPI.out, if_pos (by unfold nameE leB; simp [HID.out, HWD.out, hl])]
                  have HD := Lib.hid hd'
                  clear hd' hd
                  go_wp2_with (first | (go_at_call 41; (with_reducible refine HCI.out.mono ?_); rintro e w2 ⟨rfl, rfl⟩) | (go_at_call 42; (with_reducible refine HCW.out.mono ?_); rintro e w2 ⟨rfl, rfl⟩))
                  go_quiet (fail)
                  go_wp2
                  go_roundw
                  case rel => exact ⟨i + 1, by go_num, by rw [List.length_map]; omega, HD.out, H.out.same, H.out.size, below_dNZ H.out.below _⟩
                  case measure => simp [intOf]; omega
                · have hne : namesE wordB [] (s.types.map (·.1)) = 6 := by rw [hd.out, HDR.out, show prevN (s.types.map (·.1)) i = b from HPI.out]; unfold nameE leB; simp [HID.out, HWD.out, hl]
                  have hv : refC s = 6 := by unfold refC; rw [if_neg HL.out, hne]; rfl
                  have HVV := Lib.hid hv
                  clear hne hv hd
                  go_wp2_with (first | (go_at_call 41; (with_reducible refine HCI.out.mono ?_); rintro e w2 ⟨rfl, rfl⟩) | (go_at_call 42; (with_reducible refine HCW.out.mono ?_); rintro e w2 ⟨rfl, rfl⟩))
                  go_quiet (fail)
                  go_wp2
                  go_ret
                  exact ⟨ret_intZ (by rw [HVV.out]; rfl), below_dNZ H.out.below _⟩
            · rw [hwd] at CW
              have HCW := Lib.hid CW
              have hne : namesE wordB [] (s.types.map (·.1)) = 15 := by rw [hd.out, HDR.out]; unfold nameE; simp [hid, hwd]
              have hv : refC s = 15 := by unfold refC; rw [if_neg HL.out, hne]; rfl
              have HVV := Lib.hid hv
              clear hne hv hid CW hd hwd
              go_wp2_with (first | (go_at_call 41; (with_reducible refine HCI.out.mono ?_); rintro e w2 ⟨rfl, rfl⟩) | (go_at_call 42; (with_reducible refine HCW.out.mono ?_); rintro e w2 ⟨rfl, rfl⟩))
              go_ret
              exact ⟨ret_intZ (by rw [HVV.out]; rfl), H.out.below⟩
        · have hiz : ¬ (i : Int) < (s.types.length : Int) := by omega
          obtain rfl : i = s.types.length := by omega
          have hne : namesE wordB [] (s.types.map (·.1)) = 0 := by rw [hd.out, List.drop_of_length_le (by rw [List.length_map]; exact Nat.le_refl _)]; rfl
          have hrc : refC s = if schZ s ≠ 0 then schZ s else if (finiteR s.types).length ≠ s.types.length then 14 else if (allT s).any (nestR s.types) = true then 17 else 0 := by unfold refC; rw [if_neg HL.out, hne, if_neg (by simp)]
          obtain ⟨W1, hW1⟩ : ∃ W1, W1 = wr.alloc (.cells #[.int .i64 c.k, .string c.n, .slice c.an c.ln c.cn, .slice c.ak c.lk c.ck, .slice a1 s.types.length c1, .slice a2 s.sigs.length c2, .int .i64 0] 90) := ⟨_, rfl⟩
          obtain ⟨wb, hwb⟩ : ∃ wb, wb = w.heap.size + 1 := ⟨_, rfl⟩
          have hz1 : W1.heap.size = wb + 1 := by rw [hW1, hwb]; simp; omega
          have hb1 : Below w.heap.size w W1 := by rw [hW1]; exact H.out.below.alloc H.out.below.size _
          have hs1 : W1.heap[w.heap.size]? = some (.cells #[.int .i64 c.k, .string c.n, .slice c.an c.ln c.cn, .slice c.ak c.lk c.ck, .slice a1 s.types.length c1, .slice a2 s.sigs.length c2] 29 (0, 0)) := by rw [hW1]; exact blk_allocZ ((H.out.same _).trans HS0.out) _
          have hw1 : W1.heap[wb]? = some (.cells #[.int .i64 c.k, .string c.n, .slice c.an c.ln c.cn, .slice c.ak c.lk c.ck, .slice a1 s.types.length c1, .slice a2 s.sigs.length c2, .int .i64 ((0 : Nat) : Int)] 90 (0, 0)) := by rw [hW1, blk_if, if_pos (by omega)]; rfl
          obtain ⟨full, hfull⟩ : ∃ full, allZ (hasZ s.types) 1 0 (s.types.map (·.2)) = full := ⟨_, rfl⟩
          have hwbw : w.heap.size < wb := by omega
          have hsg : ∀ g, S g → g < wb := fun g hg => by have := HSS.out g hg; omega
          have HRC := Lib.hid hrc; have HB1 := Lib.hid hb1; have HS1 := Lib.hid hs1; have HW1 := Lib.hid hw1; have HFU := Lib.hid hfull; have HSG := Lib.hid hsg; have HWW := Lib.hid hW1
          clear hrc hb1 hs1 hw1 hfull hsg hW1 hne hd H
          go_wp2_with fail
          rw [← HWW.out, ← hwb]
          clear HWW hwb hwz p0 p1 p2 p3 p4 p5
          go_loopw [5, 6] (fun v5 v6 wr => ∃ j e n, MaR S w wb s c a1 a2 us gs c1 c2 (s.types.map (·.2)) full v5 v6 wr j e n) (fun _ v6 _ => s.types.length - (intOf v6).toNat)
          case atStart => exact ⟨0, 0, 0, rfl, rfl, Nat.zero_le _, fun _ => ⟨HFU.out, by omega⟩, fun h => absurd rfl h, HS1.out, HW1.out, HB1.out⟩
          case round =>
            obtain ⟨j, e, n, h⟩ := hrel
            obtain rfl := h.slot
            obtain rfl := h.err
            have hle := h.le
            rw [List.length_map] at hle
            obtain ⟨⟨p0, p1, p2, p3, p4, p5⟩, _⟩ := six_blkF h.box
            have hwz := (Array.getElem?_eq_some_iff.1 h.walk).1
            have H := Lib.hid h
            clear h
            by_cases he : e = 0
            · subst he
              obtain ⟨hrest, hn'⟩ := H.out.rest rfl
              by_cases hj : j < s.types.length
              · have hjz : (j : Int) < (s.types.length : Int) := by omega
                have hj0 : (0 : Int) ≤ (j : Int) := by omega
                have hju : j < us.length := by rw [HV.out.nt]; exact hj
                have hjl : j < (s.types.map (·.2)).length := by rw [List.length_map]; exact hj
                obtain ⟨g, o, rfl, hg, hc⟩ := nam_at HV.out.rt HSS.out j hju
                obtain ⟨-, q0, q1, q2, q3⟩ := hc wr (fun i hi => H.out.below.block i hi)
                obtain ⟨-, hv⟩ := HV.out.vt j hj hju
                have C : Calls Try.prog 43 #[.pointer (some ⟨wb, 0, none⟩), .agg #[.int .i64 us[j].2.k, .string us[j].2.n, .slice us[j].2.an us[j].2.ln us[j].2.cn, .slice us[j].2.ak us[j].2.lk us[j].2.ck], .int .i64 1] wr _ := may_ref S wb s c _ a2 us gs c1 c2 (by unfold maxLen; omega) s.types[j].2 (HF.out.types j hj).2 us[j].2 1 n wr HSG.out hwz hn' (by omega) (HV.out.keep (fun g hg => H.out.below.block g (HSS.out g hg))) (hv.keep (fun _ h => h) (fun g hg => H.out.below.block g (HSS.out g hg))) H.out.walk
                rw [allZ_drop hjl, show (s.types.map (·.2))[j] = s.types[j].2 by rw [List.getElem_map]] at hrest
                have hle2 := oneZ_le (hasZ s.types) s.types[j].2 1 n hn'
                generalize oneZ (hasZ s.types) 1 n s.types[j].2 = r at *
                obtain ⟨e2, n2⟩ := r
                generalize us[j].2 = x at *
                have HC := Lib.hid C; have HRE2 := Lib.hid hrest; have HLE := Lib.hid hle2
                clear C hrest hc hle2 hv
                go_wp2_with (go_at_call 43; (with_reducible refine HC.out.mono ?_); rintro e3 w2 ⟨rfl, x2, x3, x4⟩; have hz2 := x4.size; obtain ⟨⟨m0, m1, m2, m3, m4, m5⟩, _⟩ := six_blkF ((x3.block w.heap.size (by omega)).trans H.out.box); have HX2 := Lib.hid x2; have HX3 := Lib.hid x3; have HX4 := Lib.hid x4; clear x2 x3 x4)
                go_roundw
                case rel => exact ⟨j + 1, e2, n2, by go_num, rfl, by rw [List.length_map]; omega, fun h => ⟨by have := HRE2.out; rw [if_pos h] at this; exact this, HLE.out h⟩, fun h => by have := HRE2.out; rw [if_neg h] at this; exact this.symm, (HX3.out.block w.heap.size (by omega)).trans H.out.box, HX2.out, H.out.below.trans (HX3.out.mono (by omega))⟩
                case measure => simp [intOf]; omega
              · have hjz : ¬ (j : Int) < (s.types.length : Int) := by omega
                have hfe : allZ (hasZ s.types) 1 0 (s.types.map (·.2)) = (0, n) := by rw [HFU.out, ← hrest, List.drop_of_length_le (by rw [List.length_map]; omega)]; rfl
                have C : Calls Try.prog 43 #[.pointer (some ⟨wb, 0, none⟩), .agg #[.int .i64 c.k, .string c.n, .slice c.an c.ln c.cn, .slice c.ak c.lk c.ck], .int .i64 1] wr _ := may_ref S wb s c a1 a2 us gs c1 c2 (by unfold maxLen; omega) s.main HF.out.main c 1 n wr HSG.out hwz hn' (by omega) (HV.out.keep (fun g hg => H.out.below.block g (HSS.out g hg))) (HV.out.main.keep (fun _ h => h) (fun g hg => H.out.below.block g (HSS.out g hg))) H.out.walk
                obtain ⟨r, hr⟩ : ∃ r, oneZ (hasZ s.types) 1 n s.main = r := ⟨_, rfl⟩
                have hle2 := oneZ_le (hasZ s.types) s.main 1 n hn'
                rw [hr] at C hle2
                obtain ⟨e2, n2⟩ := r
                have HC := Lib.hid C; have HFE := Lib.hid hfe; have HR := Lib.hid hr; have HLE := Lib.hid hle2
                clear C hrest hfe hr hle2
                by_cases he2 : e2 = 0
                · subst he2
                  have hn2 := HLE.out rfl
                  go_wp2_with (go_at_call 43; (with_reducible refine HC.out.mono ?_); rintro e3 w2 ⟨rfl, x2, x3, x4⟩; have hz2 := x4.size; obtain ⟨⟨m0, m1, m2, m3, m4, m5⟩, _⟩ := six_blkF ((x3.block w.heap.size (by omega)).trans H.out.box); have HX2 := Lib.hid x2; have HX3 := Lib.hid x3; have HX4 := Lib.hid x4; clear x2 x3 x4)
                  have hgo := schZ_go HFE.out HR.out
                  have hb2 := H.out.below.trans (HX3.out.mono (by omega))
                  have hs2 := (HX3.out.block w.heap.size (by omega)).trans H.out.box
                  have hw2z : wb < w2.heap.size := by omega
                  have hkd : ∀ r, fnsZ (hasZ s.types) n2 [] s.sigs = (0, r) → ∀ t ∈ allT s, kidsOk t = true := fun r h => all_kids HFE.out HR.out h
                  have HKD := Lib.hid hkd
                  clear hkd
                  have HGO := Lib.hid hgo; have HB2 := Lib.hid hb2; have HS2 := Lib.hid hs2; have HWK2 := Lib.hid HX2.out
                  clear hgo hb2 hs2 H HC HFE HR HLE HX2 HX3 HX4 m0 m1 m2 m3 m4 m5 p0 p1 p2 p3 p4 p5
                  obtain ⟨fu, hfu⟩ : ∃ fu, fnsZ (hasZ s.types) n2 [] s.sigs = fu := ⟨_, rfl⟩
                  have hbad : ∀ e m, e ≠ 0 → fu = (e, m) → refC s = e := fun e m he h => by rw [HRC.out, HGO.out, hfu, h, if_pos he]
                  have HFF := Lib.hid hfu; have HBAD := Lib.hid hbad
                  clear hfu hbad
                  go_wp2_with fail
                  go_loopw [5, 7] (fun v5 v7 wr => ∃ j n, FnR w wb s c a1 a2 us gs c1 c2 fu v5 v7 wr j n) (fun _ v7 _ => s.sigs.length - (intOf v7).toNat)
                  case atStart => exact ⟨0, n2, rfl, rfl, Nat.zero_le _, hn2, HFF.out, HS2.out, HWK2.out, HB2.out⟩
                  case round =>
                    clear HWK2 HB2 HS2 hn2 hw2z hz2
                    obtain ⟨j, n, h⟩ := hrel
                    obtain rfl := h.slot
                    obtain rfl := h.err
                    have hle := h.le
                    have hn4 := h.few
                    obtain ⟨⟨p0, p1, p2, p3, p4, p5⟩, _⟩ := six_blkF h.box
                    have hwz := (Array.getElem?_eq_some_iff.1 h.walk).1
                    have H := Lib.hid h
                    clear h
                    by_cases hj : j < s.sigs.length
                    · have hjz : (j : Int) < (s.sigs.length : Int) := by omega
                      have hj0 : (0 : Int) ≤ (j : Int) := by omega
                      have hju : j < gs.length := by rw [HV.out.ng]; exact hj
                      obtain ⟨g, o, rfl, hg, hc⟩ := sig_at HV.out.rg HSS.out j hju
                      obtain ⟨q0, q1, q2, q3, q4, q5⟩ := hc wr (fun i hi => H.out.below.block i hi)
                      obtain ⟨hnm, hlp, ⟨ps, hpl, hpr, hpv⟩, hres⟩ := HV.out.vg j hj hju
                      rw [hnm] at q0
                      have hdr := fnsZ_drop (has := hasZ s.types) (n := n) (a := prevN (s.sigs.map (·.name)) j) hj
                      rw [H.out.rest] at hdr
                      unfold fnZ at hdr
                      have hfg := HF.out.sigs j hj
                      have hpn : prevN (s.sigs.map (·.name)) (j + 1) = s.sigs[j].name := by unfold prevN; rw [if_neg (by omega), Nat.add_sub_cancel]; simp [List.getD, hj]
                      unfold fitG at hfg
                      generalize s.sigs[j].params = pl at *
                      generalize s.sigs[j].result = rt at *
                      generalize s.sigs[j].name = nm at *
                      generalize gs[j].2 = x at *
                      obtain ⟨xap, xlp, xcp, xr⟩ := x
                      simp only at hlp hpr hres q0 q1 q2 q3 q4 q5
                      subst hlp
                      obtain ⟨W4, hW4⟩ : ∃ W4, W4 = wr.alloc (.cells #[.string ⟨nm.toArray⟩, .slice xap pl.length xcp, .int .i64 xr.k, .string xr.n, .slice xr.an xr.ln xr.cn, .slice xr.ak xr.lk xr.ck] 46) := ⟨_, rfl⟩
                      have hz4 : W4.heap.size = wr.heap.size + 1 := by rw [hW4]; simp
                      have hb4 : Below wr.heap.size wr W4 := by rw [hW4]; exact (Below.refl _ _).alloc (Nat.le_refl _) _
                      have hf4 : W4.heap[wr.heap.size]? = some (.cells #[.string ⟨nm.toArray⟩, .slice xap pl.length xcp, .int .i64 xr.k, .string xr.n, .slice xr.an xr.ln xr.cn, .slice xr.ak xr.lk xr.ck] 46 (0, 0)) := by rw [hW4]; exact heap_alloc_new wr _
                      obtain ⟨⟨b0, b1, b2, b3, b4, b5⟩, _⟩ := six_blkF hf4
                      obtain ⟨⟨d0, d1, d2, d3, d4, d5⟩, _⟩ := six_blkF ((hb4.block w.heap.size (by omega)).trans H.out.box)
                      have HW4 := Lib.hid hW4; have HB4 := Lib.hid hb4; have HF4 := Lib.hid hf4; have HDR := Lib.hid hdr; have HPN := Lib.hid hpn; have HFG := Lib.hid hfg; have HPL := Lib.hid hpl; have HPR := Lib.hid hpr; have HPV := Lib.hid hpv; have HRES := Lib.hid hres
                      clear hW4 hb4 hf4 hdr hpn hfg hpl hpr hpv hres hc hnm
                      go_upto_region 24 with fail
                      rw [← HW4.out]
                      have hfg := HFG.out
                      simp only [Bool.and_eq_true, decide_eq_true_eq] at hfg
                      obtain ⟨⟨⟨hf1, hf2⟩, hf3⟩, hf5⟩ := hfg
                      have CI := RIdent_any ⟨nm.toArray⟩ W4 hf1
                      rw [show (⟨nm.toArray⟩ : ByteArray).data.toList = nm from rfl] at CI
                      have CW := Builtin_ref nm W4
                      have e1 := toList_mk' nm
                      have HF3 := Lib.hid hf3; have HF5 := Lib.hid hf5
                      clear hf1 hf3 hf5
                      unfold maxLen at hf2
                      have hbw := H.out.below.trans (HB4.out.mono H.out.below.size)
                      have HBW := Lib.hid hbw
                      clear hbw
                      cases hid : identB nm
                      · have hb : fu = (15, n) := by
                          rw [HDR.out, show nameE (prevN (s.sigs.map (·.name)) j) nm (builtinB nm) = 15 by unfold nameE; simp [hid]]; simp
                        have hv : refC s = 15 := HBAD.out 15 n (by decide) hb
                        rw [hid] at CI
                        have HVV := Lib.hid hv; have HCI := Lib.hid CI
                        clear hb hv CI CW hid
                        go_wp2_with (go_at_call 41; (with_reducible refine HCI.out.mono ?_); rintro e w2 ⟨rfl, rfl⟩)
                        go_ret
                        exact ⟨ret_intZ (by rw [HVV.out]; rfl), HBW.out⟩
                      · rw [hid] at CI
                        have HCI := Lib.hid CI
                        clear CI
                        cases hwd : builtinB nm
                        · rw [hwd] at CW
                          have HCW := Lib.hid CW
                          clear CW
                          obtain ⟨lb, hlb⟩ : ∃ lb, leB nm (prevN (s.sigs.map (·.name)) j) = lb := ⟨_, rfl⟩
                          have HLB := Lib.hid hlb; have HID := Lib.hid hid; have HWD := Lib.hid hwd
                          clear hlb hid hwd
                          go_upto_region 26 with (first | (go_at_call 41; (with_reducible refine HCI.out.mono ?_); rintro e w2 ⟨rfl, rfl⟩) | (go_at_call 44; (with_reducible refine HCW.out.mono ?_); rintro e w2 ⟨rfl, rfl⟩))
                          go_cut [129] (fun s129 wx => s129 = .bool lb ∧ ∃ nq, wx = W4.drewN nq)
                          case first =>
                            by_cases hj1 : j = 0
                            · have hdd : decide ((0 : Int) < (j : Int)) = false := decide_eq_false (by omega)
                              have hde : decide (0 < j) = false := decide_eq_false (by omega)
                              have hl : lb = false := by rw [← HLB.out]; unfold leB prevN; rw [if_pos hj1]; exact leB_nil HID.out
                              have HLF := Lib.hid hl
                              clear hl hj1
                              go_quiet (fail)
                              go_wp2
                              go_meet
                              exact ⟨by rw [HLF.out], _, rfl⟩
                            · have hip : (0 : Int) < (j : Int) := by omega
                              have hiq : 0 < j := by omega
                              have him : (j : Int) - 1 = ((j - 1 : Nat) : Int) := by omega
                              have him2 : IntKind.i64.wrap ((j : Int) - 1) = ((j - 1 : Nat) : Int) := by rw [IntKind.wrap_i64]; omega
                              have hlt1 : j - 1 < s.sigs.length := by omega
                              have hju1 : j - 1 < gs.length := by rw [HV.out.ng]; exact hlt1
                              obtain ⟨g2, o2, e2, hg2, hc2⟩ := sig_at HV.out.rg HSS.out (j - 1) hju1
                              obtain ⟨rfl, rfl⟩ : g = g2 ∧ o = o2 := by cases e2; exact ⟨rfl, rfl⟩
                              obtain ⟨r0, -, -, -, -, -⟩ := hc2 W4 (fun j hj => HBW.out.block j hj)
                              obtain ⟨hn1, -, -, -⟩ := HV.out.vg (j - 1) hlt1 hju1
                              rw [hn1] at r0
                              have hgp : prevN (s.sigs.map (·.name)) j = s.sigs[j - 1].name := by unfold prevN; rw [if_neg hj1]; simp [List.getD, hlt1]
                              have e3 := toList_mk' s.sigs[j - 1].name
                              have hjz1 : ((j - 1 : Nat) : Int) < (s.sigs.length : Int) := by omega
                              have hj01 : (0 : Int) ≤ ((j - 1 : Nat) : Int) := by omega
                              have hll := HLB.out
                              rw [hgp] at hll
                              unfold leB at hll
                              clear hc2 hgp e2 hn1
                              generalize s.sigs[j - 1].name = b at *
                              cases lb
                              · go_quiet (fail)
                                go_wp2
                                go_meet
                                exact ⟨rfl, _, rfl⟩
                              · go_quiet (fail)
                                go_wp2
                                go_meet
                                exact ⟨rfl, _, rfl⟩
                          case rest =>
                            obtain ⟨rfl, nq, rfl⟩ := hcut
                            obtain ⟨W5, hW5⟩ : ∃ W5, W5 = W4.drewN nq := ⟨_, rfl⟩
                            rw [← hW5]
                            have hsame : ∀ g : Nat, W5.heap[g]? = W4.heap[g]? := fun g => by rw [hW5]; rfl
                            have hz5 : W5.heap.size = W4.heap.size := by rw [hW5]; rfl
                            have hb5 : Below w.heap.size w W5 := by rw [hW5]; exact below_dNZ HBW.out _
                            have hf5 := (hsame wr.heap.size).trans HF4.out
                            have hw5 := (hsame wb).trans ((HB4.out.block wb (by omega)).trans H.out.walk)
                            have hs5 := (hsame w.heap.size).trans ((HB4.out.block w.heap.size (by omega)).trans H.out.box)
                            clear hW5 b0 b1 b2 b3 b4 b5 d0 d1 d2 d3 d4 d5 q0 q1 q2 q3 q4 q5
                            obtain ⟨⟨b0, b1, b2, b3, b4, b5⟩, _⟩ := six_blkF hf5
                            have HS5 := Lib.hid hs5; have HW5 := Lib.hid hw5; have HF5' := Lib.hid hf5; have HB5 := Lib.hid hb5
                            clear hsame hb5 hf5 hw5 hs5
                            cases lb
                            · have hnm0 : nameE (prevN (s.sigs.map (·.name)) j) nm (builtinB nm) = 0 := by unfold nameE; rw [HID.out, HWD.out, HLB.out]; simp
                              have hdr := HDR.out
                              rw [hnm0] at hdr
                              simp only [ne_eq, not_true_eq_false, if_false] at hdr
                              clear hnm0
                              by_cases h4 : 4 < pl.length
                              · have h4z : (4 : Int) < (pl.length : Int) := by omega
                                have hb : fu = (18, n) := by rw [hdr, if_pos h4]; simp
                                have hv : refC s = 18 := HBAD.out 18 n (by decide) hb
                                have HVV := Lib.hid hv
                                clear hb hv hdr h4
                                go_wp2
                                go_ret
                                exact ⟨ret_intZ (by rw [HVV.out]; rfl), HB5.out⟩
                              · have h4z : ¬ (4 : Int) < (pl.length : Int) := by omega
                                rw [if_neg h4] at hdr
                                obtain ⟨f4, hf4e⟩ : ∃ f4, allZ (hasZ s.types) 1 n pl = f4 := ⟨_, rfl⟩
                                rw [hf4e] at hdr
                                have HD4 := Lib.hid hdr; have HA4 := Lib.hid hf4e
                                clear hdr hf4e h4
                                obtain ⟨Wo, rfl⟩ : ∃ Wo, Wo = wr := ⟨_, rfl⟩
                                go_wp2_with fail
                                go_loopw [5, 9] (fun v5 v9 wr => ∃ k e m, MaR S w wb s c a1 _ us gs c1 c2 pl f4 v5 v9 wr k e m ∧ wr.heap[Wo.heap.size]? = some (.cells #[.string ⟨nm.toArray⟩, .slice xap pl.length xcp, .int .i64 xr.k, .string xr.n, .slice xr.an xr.ln xr.cn, .slice xr.ak xr.lk xr.ck] 46 (0, 0))) (fun _ v9 _ => pl.length - (intOf v9).toNat)
                                case atStart => exact ⟨0, 0, n, ⟨rfl, rfl, Nat.zero_le _, fun _ => ⟨HA4.out, hn4⟩, fun h => absurd rfl h, HS5.out, HW5.out, HB5.out⟩, HF5'.out⟩
                                case round =>
                                  clear b0 b1 b2 b3 b4 b5
                                  obtain ⟨k, e, m, h, hfb⟩ := hrel
                                  obtain rfl := h.slot
                                  obtain rfl := h.err
                                  have hle := h.le
                                  have hwz4 := (Array.getElem?_eq_some_iff.1 h.walk).1
                                  have hfz := (Array.getElem?_eq_some_iff.1 hfb).1
                                  obtain ⟨⟨b0, b1, b2, b3, b4, b5⟩, _⟩ := six_blkF hfb
                                  have HH := Lib.hid h; have HFB := Lib.hid hfb
                                  clear h hfb
                                  by_cases he : e = 0
                                  · subst he
                                    obtain ⟨hrest, hm'⟩ := HH.out.rest rfl
                                    by_cases hk : k < pl.length
                                    · have hkz : (k : Int) < (pl.length : Int) := by omega
                                      have hk0 : (0 : Int) ≤ (k : Int) := by omega
                                      have hku : k < ps.length := by rw [HPL.out]; exact hk
                                      obtain ⟨g2, o2, rfl, hg2, hc2⟩ := four_at HPR.out HSS.out k hku
                                      obtain ⟨q0, q1, q2, q3⟩ := hc2 wr (fun i hi => HH.out.below.block i hi)
                                      have C : Calls Try.prog 43 #[.pointer (some ⟨wb, 0, none⟩), .agg #[.int .i64 ps[k].k, .string ps[k].n, .slice ps[k].an ps[k].ln ps[k].cn, .slice ps[k].ak ps[k].lk ps[k].ck], .int .i64 1] wr _ := may_ref S wb s c a1 _ us gs c1 c2 (by unfold maxLen; omega) pl[k] (fitZs_mem pl HF3.out k hk) ps[k] 1 m wr HSG.out hwz4 hm' (by omega) (HV.out.keep (fun g hg => HH.out.below.block g (HSS.out g hg))) ((HPV.out k hk hku).keep (fun _ h => h) (fun g hg => HH.out.below.block g (HSS.out g hg))) HH.out.walk
                                      rw [allZ_drop hk] at hrest
                                      have hle2 := oneZ_le (hasZ s.types) pl[k] 1 m hm'
                                      generalize oneZ (hasZ s.types) 1 m pl[k] = r at *
                                      obtain ⟨e2, t2⟩ := r
                                      generalize ps[k] = y at *
                                      have HC := Lib.hid C; have HRE2 := Lib.hid hrest; have HLE := Lib.hid hle2
                                      clear C hrest hc2 hle2
                                      go_wp2_with (go_at_call 43; (with_reducible refine HC.out.mono ?_); rintro e3 w2 ⟨rfl, x2, x3, x4⟩; have hz2 := x4.size; obtain ⟨⟨m0, m1, m2, m3, m4, m5⟩, _⟩ := six_blkF ((x3.block w.heap.size (by omega)).trans HH.out.box); have HX2 := Lib.hid x2; have HX3 := Lib.hid x3; have HX4 := Lib.hid x4; clear x2 x3 x4)
                                      go_roundw
                                      case rel => exact ⟨k + 1, e2, t2, ⟨by go_num, rfl, by omega, fun h => ⟨by have := HRE2.out; rw [if_pos h] at this; exact this, HLE.out h⟩, fun h => by have := HRE2.out; rw [if_neg h] at this; exact this.symm, (HX3.out.block w.heap.size (by omega)).trans HH.out.box, HX2.out, HH.out.below.trans (HX3.out.mono (by omega))⟩, (HX4.out.blk _ hfz (by omega)).trans HFB.out⟩
                                      case measure => simp [intOf]; omega
                                    · have hkz : ¬ (k : Int) < (pl.length : Int) := by omega
                                      have hf4 : f4 = (0, m) := by rw [← hrest, List.drop_of_length_le (by omega)]; rfl
                                      have C : Calls Try.prog 43 #[.pointer (some ⟨wb, 0, none⟩), .agg #[.int .i64 xr.k, .string xr.n, .slice xr.an xr.ln xr.cn, .slice xr.ak xr.lk xr.ck], .int .i64 1] wr _ := may_ref S wb s c a1 _ us gs c1 c2 (by unfold maxLen; omega) rt HF5.out xr 1 m wr HSG.out hwz4 hm' (by omega) (HV.out.keep (fun g hg => HH.out.below.block g (HSS.out g hg))) (HRES.out.keep (fun _ h => h) (fun g hg => HH.out.below.block g (HSS.out g hg))) HH.out.walk
                                      have hle2 := oneZ_le (hasZ s.types) rt 1 m hm'
                                      have hdr := HD4.out
                                      rw [hf4] at hdr
                                      simp only [not_true_eq_false, if_false] at hdr
                                      generalize oneZ (hasZ s.types) 1 m rt = r at *
                                      obtain ⟨e2, t2⟩ := r
                                      have HC := Lib.hid C; have HLE := Lib.hid hle2; have HDD := Lib.hid hdr
                                      clear C hrest hle2 hf4 hdr
                                      by_cases he2 : e2 = 0
                                      · subst he2
                                        have hfew := HLE.out rfl
                                        have hnx : fnsZ (hasZ s.types) t2 nm (s.sigs.drop (j + 1)) = fu := by have := HDD.out; rw [if_pos rfl] at this; exact this.symm
                                        have HNX := Lib.hid hnx
                                        clear hnx
                                        go_wp2_with (go_at_call 43; (with_reducible refine HC.out.mono ?_); rintro e3 w2 ⟨rfl, x2, x3, x4⟩; have hz2 := x4.size; obtain ⟨⟨m0, m1, m2, m3, m4, m5⟩, _⟩ := six_blkF ((x3.block w.heap.size (by omega)).trans HH.out.box); have HX2 := Lib.hid x2; have HX3 := Lib.hid x3; have HX4 := Lib.hid x4; clear x2 x3 x4)
                                        go_roundw
                                        case rel => exact ⟨j + 1, t2, by go_num, rfl, by omega, hfew, by rw [HPN.out]; exact HNX.out, (HX3.out.block w.heap.size (by omega)).trans HH.out.box, HX2.out, HH.out.below.trans (HX3.out.mono (by omega))⟩
                                        case measure => simp [intOf]; omega
                                      · have hez : ((e2 : Int) == 0) = false := by rw [beq_eq_false_iff_ne]; omega
                                        have hb : fu = (e2, t2) := by have := HDD.out; rw [if_neg he2] at this; exact this
                                        have hv : refC s = e2 := HBAD.out e2 t2 he2 hb
                                        have HVV := Lib.hid hv
                                        clear hv hb
                                        go_wp2_with (go_at_call 43; (with_reducible refine HC.out.mono ?_); rintro e3 w2 ⟨rfl, x2, x3, x4⟩; have hz2 := x4.size; obtain ⟨⟨m0, m1, m2, m3, m4, m5⟩, _⟩ := six_blkF ((x3.block w.heap.size (by omega)).trans HH.out.box); have HX2 := Lib.hid x2; have HX3 := Lib.hid x3; have HX4 := Lib.hid x4; clear x2 x3 x4)
                                        go_ret
                                        exact ⟨ret_intZ (by rw [HVV.out]), HH.out.below.trans (HX3.out.mono (by omega))⟩
                                  · have hez : ((e : Int) == 0) = false := by rw [beq_eq_false_iff_ne]; omega
                                    have hfe := HH.out.bad he
                                    have hb : fu = (e, m) := by
                                      have := HD4.out
                                      rw [hfe] at this
                                      simp only [he, not_false_eq_true, if_true, if_false] at this
                                      exact this
                                    have hv : refC s = e := HBAD.out e m he hb
                                    have HVV := Lib.hid hv
                                    clear hv hb hfe
                                    by_cases hk : k < pl.length
                                    · have hkz : (k : Int) < (pl.length : Int) := by omega
                                      go_wp2
                                      go_ret
                                      exact ⟨ret_intZ (by rw [HVV.out]), HH.out.below⟩
                                    · have hkz : ¬ (k : Int) < (pl.length : Int) := by omega
                                      go_wp2
                                      go_ret
                                      exact ⟨ret_intZ (by rw [HVV.out]), HH.out.below⟩
                            · have hb : fu = (6, n) := by
                                rw [HDR.out, show nameE (prevN (s.sigs.map (·.name)) j) nm (builtinB nm) = 6 by unfold nameE; rw [HID.out, HWD.out, HLB.out]; simp]; simp
                              have hv : refC s = 6 := HBAD.out 6 n (by decide) hb
                              have HVV := Lib.hid hv
                              clear hb hv
                              go_wp2
                              go_ret
                              exact ⟨ret_intZ (by rw [HVV.out]; rfl), HB5.out⟩
                        · have hb : fu = (15, n) := by
                            rw [HDR.out, show nameE (prevN (s.sigs.map (·.name)) j) nm (builtinB nm) = 15 by unfold nameE; simp [hwd]]; simp
                          have hv : refC s = 15 := HBAD.out 15 n (by decide) hb
                          rw [hwd] at CW
                          have HVV := Lib.hid hv; have HCW := Lib.hid CW
                          clear hb hv CW hwd hid
                          go_wp2_with (first | (go_at_call 41; (with_reducible refine HCI.out.mono ?_); rintro e w2 ⟨rfl, rfl⟩) | (go_at_call 44; (with_reducible refine HCW.out.mono ?_); rintro e w2 ⟨rfl, rfl⟩))
                          go_ret
                          exact ⟨ret_intZ (by rw [HVV.out]; rfl), HBW.out⟩
                    · have hjz : ¬ (j : Int) < (s.sigs.length : Int) := by omega
                      obtain rfl : j = s.sigs.length := by omega
                      have hend : fu = (0, n) := by rw [← H.out.rest, List.drop_of_length_le (Nat.le_refl _)]; rfl
                      have hfn := HFF.out
                      rw [hend] at hfn
                      have hrc : refC s = if (finiteR s.types).length ≠ s.types.length then 14 else if (allT s).any (nestR s.types) = true then 17 else 0 := by rw [HRC.out, HGO.out, hfn, if_neg (by simp)]
                      have hkd := HKD.out n hfn
                      have hfew := fnsZ_few _ _ _ _ (show (fnsZ (hasZ s.types) n2 [] s.sigs).1 = 0 by rw [hfn])
                      obtain ⟨nb, hnb⟩ : ∃ nb, ((((finiteR s.types).length : Nat) : Int) != (s.types.length : Int)) = nb := ⟨_, rfl⟩
                      have HRC2 := Lib.hid hrc; have HKD2 := Lib.hid hkd; have HFEW := Lib.hid hfew; have HNB := Lib.hid hnb
                      clear hend hfn hrc hkd hfew hnb
                      go_wp2_with fail
                      refine wp_region_by (QJ (fun (x : Option Addr × Nat) i => match i with | 0 => .agg #[.int .i64 c.k, .string c.n, .slice c.an c.ln c.cn, .slice c.ak c.lk c.ck, .slice a1 s.types.length c1, .slice a2 s.sigs.length c2] | 1 => .slice x.1 (finiteR s.types).length x.2 | 2 => .int .i64 ((finiteR s.types).length : Nat) | 3 => .pointer (some ⟨w.heap.size, 4, none⟩) | 4 => .slice a1 s.types.length c1 | 5 => .int .i64 s.types.length | 6 => .bool nb | _ => undef) (fun _ _ v => Below wr.heap.size wr v)) (by kernel_rfl) ?_ ?_ ?_
                      · exact ⟨by simp, Closed.start _, (none, 0), Fr.start _ _ _, Below.drew (Below.refl _ _)⟩
                      · intro listed b v q hJ hi
                        obtain ⟨hsz, hC, x, hF, hM⟩ := hJ
                        obtain ⟨hl1, hiN⟩ := not_up hsz hi
                        obtain ⟨_, o, ho, hdeps⟩ := mem_ready.1 hi
                        have hiN : q < 7 := hiN
                        obtain rfl | rfl | rfl | rfl | rfl | rfl | rfl : q = 0 ∨ q = 1 ∨ q = 2 ∨ q = 3 ∨ q = 4 ∨ q = 5 ∨ q = 6 := by omega
                        · cases ho
                          obtain ⟨⟨y0, y1, y2, y3, y4, y5⟩, _⟩ := six_blkF ((hM.block w.heap.size (by omega)).trans H.out.box)
                          have e1 := hF.old_is 1 (by rfl) rfl
                          refine QJ.quiet (x := x) hsz hC hi hF (Slots.of (by rfl)) rfl (wanted_none rfl) hM ?_
                          show _ = Result.ok (Next.value (.agg #[.int .i64 c.k, .string c.n, .slice c.an c.ln c.cn, .slice c.ak c.lk c.ck, .slice a1 s.types.length c1, .slice a2 s.sigs.length c2])) v
                          simp [execOp, go_sem, e1, y0, y1, y2, y3, y4, y5]
                        · cases ho
                          have e161 : b.tmps[161]? = some (.agg #[.int .i64 c.k, .string c.n, .slice c.an c.ln c.cn, .slice c.ak c.lk c.ck, .slice a1 s.types.length c1, .slice a2 s.sigs.length c2]) := hF.up 0 161 rfl (hdeps ⟨0, .data⟩ (by simp) rfl)
                          refine QJ.call (x := x) (f := 45) (args := #[.agg #[.int .i64 c.k, .string c.n, .slice c.an c.ln c.cn, .slice c.ak c.lk c.ck, .slice a1 s.types.length c1, .slice a2 s.sigs.length c2]]) hsz hC hi hF (Slots.of (by rfl)) rfl (wanted_none rfl) (by simp [execOp, go_sem, e161]) (finite_ref s c a1 a2 us gs c1 c2 v ((SzS.mk HSS.out HV.out : SzS S w s c a1 a2 us gs).anyB (H.out.below.trans (hM.mono (by omega)))) (by omega) HF.out) ?_
                          rintro e w' ⟨la', lc', rfl, _, hb⟩
                          exact ⟨(la', lc'), rfl, fun q hq => match q, (show q ≠ 1 by rintro rfl; rw [hl1] at hq; cases hq) with | 0, _ => rfl | 1, h => absurd rfl h | 2, _ => rfl | 3, _ => rfl | 4, _ => rfl | 5, _ => rfl | 6, _ => rfl | _ + 7, _ => rfl, hM.trans (hb.mono hM.size)⟩
                        · cases ho
                          have e162 : b.tmps[162]? = some (.slice x.1 (finiteR s.types).length x.2) := hF.up 1 162 rfl (hdeps ⟨1, .data⟩ (by simp) rfl)
                          refine QJ.quiet (x := x) hsz hC hi hF (Slots.of (by rfl)) rfl (wanted_none rfl) hM ?_
                          show _ = Result.ok (Next.value (.int .i64 ((finiteR s.types).length : Nat))) v
                          simp [execOp, go_sem, e162]
                        · cases ho
                          have e1 := hF.old_is 1 (by rfl) rfl
                          refine QJ.quiet (x := x) hsz hC hi hF (Slots.of (by rfl)) rfl (wanted_none rfl) hM ?_
                          show _ = Result.ok (Next.value (.pointer (some ⟨w.heap.size, 4, none⟩))) v
                          simp [execOp, go_sem, e1]
                        · cases ho
                          obtain ⟨⟨y0, y1, y2, y3, y4, y5⟩, _⟩ := six_blkF ((hM.block w.heap.size (by omega)).trans H.out.box)
                          have e164 : b.tmps[164]? = some (.pointer (some ⟨w.heap.size, 4, none⟩)) := hF.up 3 164 rfl (hdeps ⟨3, .data⟩ (by simp) rfl)
                          refine QJ.quiet (x := x) hsz hC hi hF (Slots.of (by rfl)) rfl (wanted_none rfl) hM ?_
                          show _ = Result.ok (Next.value (.slice a1 s.types.length c1)) v
                          simp [execOp, go_sem, e164, y4]
                        · cases ho
                          have e165 : b.tmps[165]? = some (.slice a1 s.types.length c1) := hF.up 4 165 rfl (hdeps ⟨4, .data⟩ (by simp) rfl)
                          refine QJ.quiet (x := x) hsz hC hi hF (Slots.of (by rfl)) rfl (wanted_none rfl) hM ?_
                          show _ = Result.ok (Next.value (.int .i64 s.types.length)) v
                          simp [execOp, go_sem, e165]
                        · cases ho
                          have e163 : b.tmps[163]? = some (.int .i64 ((finiteR s.types).length : Nat)) := hF.up 2 163 rfl (hdeps ⟨2, .data⟩ (by simp) rfl)
                          have e166 : b.tmps[166]? = some (.int .i64 s.types.length) := hF.up 5 166 rfl (hdeps ⟨5, .data⟩ (by simp) rfl)
                          refine QJ.quiet (x := x) hsz hC hi hF (Slots.of (by rfl)) rfl (wanted_none rfl) hM ?_
                          show _ = Result.ok (Next.value (.bool nb)) v
                          simp [execOp, go_sem, e163, e166, HNB.out]
                      · intro listed b W5 hJ hr
                        obtain ⟨hsz, hC, x, hF, hM⟩ := hJ
                        have hall := all_upB (by rfl) hsz hr
                        have hb : b = putAll _ _ _ 7 := hF.done (Slots.of (by rfl)) hall
                        subst hb
                        simp only [putAll]
                        simp [dstOf, Act.put]
                        have hb5 := H.out.below.trans (hM.mono H.out.below.size)
                        have hs5 := (hM.block w.heap.size (by omega)).trans H.out.box
                        have hz5 := hM.size
                        obtain ⟨⟨r0, r1, r2, r3, r4, r5⟩, _⟩ := six_blkF hs5
                        have HB5 := Lib.hid hb5; have HS5 := Lib.hid hs5
                        clear hM hF hC hall hr hsz hb5 hs5 p0 p1 p2 p3 p4 p5
                        cases nb
                        · have hrc : refC s = if (allT s).any (nestR s.types) = true then 17 else 0 := by
                            have := HNB.out
                            rw [bne_eq_false_iff_eq] at this
                            rw [HRC2.out, if_neg (by omega)]
                          have C := all_ref S s c a1 a2 us gs c1 c2 W5 (fun g hg => by have := HSS.out g hg; omega) (HV.out.keep (fun g hg => HB5.out.block g (HSS.out g hg))) ht12 hs12 (fun i hi => (HFEW.out _ (List.getElem_mem hi)).1)
                          have HRC3 := Lib.hid hrc; have HC := Lib.hid C
                          clear hrc C
                          go_wp2_with (go_at_call 46; (with_reducible refine HC.out.mono ?_); rintro e W6 ⟨la, lc, cs, rfl, hrow, hcs, hb6⟩; have hz6 := hb6.size; have HROW := Lib.hid hrow; have HCS := Lib.hid hcs; have HX6 := Lib.hid hb6; clear hrow hcs hb6)
                          have hbx6 := (HX6.out.block w.heap.size (by omega)).trans HS5.out
                          have hb6 := HB5.out.trans (HX6.out.mono (by omega))
                          have HBX6 := Lib.hid hbx6; have HB6 := Lib.hid hb6
                          clear hbx6 hb6 r0 r1 r2 r3 r4 r5
                          obtain ⟨ob, hob⟩ : ∃ ob, (allT s).any (nestR s.types) = ob := ⟨_, rfl⟩
                          have HOB := Lib.hid hob
                          clear hob
                          have hal : (allT s).length ≤ 1000000 := by
                            have : ∀ l : List Sg, (∀ g ∈ l, g.params.length ≤ 4) → (l.flatMap sgT).length ≤ 5 * l.length := by
                              intro l
                              induction l with
                              | nil => intro _; simp
                              | cons g l ih => intro h; have h1 := h g List.mem_cons_self; have h2 := ih (fun x hx => h x (List.mem_cons_of_mem _ hx)); rw [List.flatMap_cons, List.length_append]; unfold sgT at *; simp at *; omega
                            have h3 := this s.sigs (fun g hg => (HFEW.out g hg).1)
                            unfold allT; simp at *; omega
                          obtain ⟨Wo, hwo⟩ : ∃ Wo, Wo = wr := ⟨_, rfl⟩
                          subst hwo
                          go_loopw [11] (fun v11 wr => ∃ k, OlR w W6 s ob v11 wr k) (fun v11 _ => (allT s).length - (intOf v11).toNat)
                          case atStart => exact ⟨0, rfl, Nat.zero_le _, HOB.out, Below.refl _ _⟩
                          case round =>
                            obtain ⟨k, h⟩ := hrel
                            obtain rfl := h.slot
                            have hle := h.le
                            have hzz := h.below.size
                            have HH := Lib.hid h
                            clear h
                            by_cases hk : k < (allT s).length
                            · have hkz : (k : Int) < ((allT s).length : Int) := by omega
                              have hk0 : (0 : Int) ≤ (k : Int) := by omega
                              have hku : k < cs.length := by rw [HCS.out.len]; exact hk
                              obtain ⟨g, o, rfl, hg, hc⟩ := four_at HROW.out (fun _ h => h) k hku
                              have hrest := HH.out.rest
                              rw [List.drop_eq_getElem_cons hk, List.any_cons] at hrest
                              have hft := HF.out.all _ (List.getElem_mem hk)
                              have hkt := HKD2.out _ (List.getElem_mem hk)
                              have htv := HCS.out.val k hk hku
                              generalize (allT s)[k] = tk at *
                              generalize cs[k] = y at *
                              have HCK := Lib.hid hc; have HRR := Lib.hid hrest; have HFT := Lib.hid hft; have HKT := Lib.hid hkt; have HTV := Lib.hid (htv.keep (fun _ h => h) (fun g hg => (HB5.out.block g (HSS.out g hg)).symm))
                              clear hc hrest hft hkt htv
                              go_wp2_with fail
                              refine wp_region_by (QJ (fun (_ : Unit) i => match i with | 0 => .agg #[.int .i64 c.k, .string c.n, .slice c.an c.ln c.cn, .slice c.ak c.lk c.ck, .slice a1 s.types.length c1, .slice a2 s.sigs.length c2] | 1 => .slice (some ⟨g, o, none⟩) (allT s).length lc | 2 => .int .i64 k | 3 => .pointer (some ⟨g, o + k * 4, none⟩) | 4 => .agg #[.int .i64 y.k, .string y.n, .slice y.an y.ln y.cn, .slice y.ak y.lk y.ck] | 5 => .bool (nestR s.types tk) | _ => undef) (fun (_ : Unit) _ v => Below wr.heap.size wr v)) (by kernel_rfl) ?_ ?_ ?_
                              · exact ⟨by simp, Closed.start _, (), Fr.start _ _ _, Below.drew (Below.refl _ _)⟩
                              · intro listed b v q hJ hi
                                obtain ⟨hsz, hC, x, hF, hM⟩ := hJ
                                obtain ⟨hl1, hiN⟩ := not_up hsz hi
                                obtain ⟨_, o, ho, hdeps⟩ := mem_ready.1 hi
                                have hiN : q < 6 := hiN
                                obtain rfl | rfl | rfl | rfl | rfl | rfl : q = 0 ∨ q = 1 ∨ q = 2 ∨ q = 3 ∨ q = 4 ∨ q = 5 := by omega
                                · cases ho
                                  obtain ⟨⟨y0, y1, y2, y3, y4, y5⟩, _⟩ := six_blkF ((hM.block w.heap.size (by omega)).trans ((HH.out.below.block w.heap.size (by omega)).trans HBX6.out))
                                  have e1 := hF.old_is 1 (by rfl) rfl
                                  refine QJ.quiet (x := x) hsz hC hi hF (Slots.of (by rfl)) rfl (wanted_none rfl) hM ?_
                                  show _ = Result.ok (Next.value (.agg #[.int .i64 c.k, .string c.n, .slice c.an c.ln c.cn, .slice c.ak c.lk c.ck, .slice a1 s.types.length c1, .slice a2 s.sigs.length c2])) v
                                  simp [execOp, go_sem, e1, y0, y1, y2, y3, y4, y5]
                                · cases ho
                                  have e10 := hF.old_is 10 (by rfl) rfl
                                  refine QJ.quiet (x := x) hsz hC hi hF (Slots.of (by rfl)) rfl (wanted_none rfl) hM ?_
                                  show _ = Result.ok (Next.value (.slice (some ⟨g, o, none⟩) (allT s).length lc)) v
                                  simp [execOp, go_sem, e10]
                                · cases ho
                                  have e11 := hF.old_is 11 (by rfl) rfl
                                  refine QJ.quiet (x := x) hsz hC hi hF (Slots.of (by rfl)) rfl (wanted_none rfl) hM ?_
                                  show _ = Result.ok (Next.value (.int .i64 k)) v
                                  simp [execOp, go_sem, e11]
                                · cases ho
                                  have e177 : b.tmps[177]? = some (.slice (some ⟨g, o, none⟩) (allT s).length lc) := hF.up 1 177 rfl (hdeps ⟨1, .data⟩ (by simp) rfl)
                                  have e178 : b.tmps[178]? = some (.int .i64 k) := hF.up 2 178 rfl (hdeps ⟨2, .data⟩ (by simp) rfl)
                                  refine QJ.quiet (x := x) hsz hC hi hF (Slots.of (by rfl)) rfl (wanted_none rfl) hM ?_
                                  show _ = Result.ok (Next.value (.pointer (some ⟨g, o + k * 4, none⟩))) v
                                  simp [execOp, go_sem, e177, e178, hk0, hkz]
                                · cases ho
                                  obtain ⟨y0, y1, y2, y3⟩ := HCK.out v (fun i hi => (hM.block i (by omega)).trans (HH.out.below.block i hi))
                                  have e179 : b.tmps[179]? = some (.pointer (some ⟨g, o + k * 4, none⟩)) := hF.up 3 179 rfl (hdeps ⟨3, .data⟩ (by simp) rfl)
                                  refine QJ.quiet (x := x) hsz hC hi hF (Slots.of (by rfl)) rfl (wanted_none rfl) hM ?_
                                  show _ = Result.ok (Next.value (.agg #[.int .i64 y.k, .string y.n, .slice y.an y.ln y.cn, .slice y.ak y.lk y.ck])) v
                                  simp [execOp, go_sem, e179, y0, y1, y2, y3]
                                · cases ho
                                  have e176 : b.tmps[176]? = some (.agg #[.int .i64 c.k, .string c.n, .slice c.an c.ln c.cn, .slice c.ak c.lk c.ck, .slice a1 s.types.length c1, .slice a2 s.sigs.length c2]) := hF.up 0 176 rfl (hdeps ⟨0, .data⟩ (by simp) rfl)
                                  have e180 : b.tmps[180]? = some (.agg #[.int .i64 y.k, .string y.n, .slice y.an y.ln y.cn, .slice y.ak y.lk y.ck]) := hF.up 4 180 rfl (hdeps ⟨4, .data⟩ (by simp) rfl)
                                  refine QJ.call (x := x) (f := 47) (args := #[.agg #[.int .i64 c.k, .string c.n, .slice c.an c.ln c.cn, .slice c.ak c.lk c.ck, .slice a1 s.types.length c1, .slice a2 s.sigs.length c2], .agg #[.int .i64 y.k, .string y.n, .slice y.an y.ln y.cn, .slice y.ak y.lk y.ck]]) hsz hC hi hF (Slots.of (by rfl)) rfl (wanted_none rfl) (by simp [execOp, go_sem, e176, e180]) (opts_ref S s c a1 a2 us gs c1 c2 (by omega) tk HFT.out HKT.out y v (fun g hg => by have := HSS.out g hg; have := hM.size; omega) (HV.out.keep (fun g hg => (hM.block g (by have := HSS.out g hg; omega)).trans ((HH.out.below.block g (by have := HSS.out g hg; omega)).trans (HB6.out.block g (HSS.out g hg))))) (HTV.out.keep (fun _ h => h) (fun g hg => (hM.block g (by have := HSS.out g hg; omega)).trans ((HH.out.below.block g (by have := HSS.out g hg; omega)).trans (HB6.out.block g (HSS.out g hg)))))) ?_
                                  rintro e w' ⟨rfl, hb⟩
                                  exact ⟨(), rfl, fun _ _ => rfl, hM.trans (hb.mono hM.size)⟩
                              · intro listed b W7 hJ hr
                                obtain ⟨hsz, hC, x, hF, hM⟩ := hJ
                                have hall := all_upB (by rfl) hsz hr
                                have hb : b = putAll _ _ _ 6 := hF.done (Slots.of (by rfl)) hall
                                subst hb
                                simp only [putAll]
                                simp [dstOf, Act.put]
                                have hb7 := HH.out.below.trans (hM.mono (by omega))
                                have HB7 := Lib.hid hb7
                                clear hM hF hC hall hr hsz hb7
                                cases hne : nestR s.types tk
                                · have hr2 : ((allT s).drop (k + 1)).any (nestR s.types) = ob := by have := HRR.out; rw [hne, Bool.false_or] at this; exact this
                                  have HRN := Lib.hid hr2
                                  clear hr2 hne
                                  go_wp2
                                  go_roundw
                                  case rel => exact ⟨k + 1, by go_num, by omega, HRN.out, HB7.out⟩
                                  case measure => simp [intOf]; omega
                                · have hr2 : ob = true := by have := HRR.out; rw [hne, Bool.true_or] at this; exact this.symm
                                  have hv : refC s = 17 := by rw [HRC3.out, HOB.out, hr2]; rfl
                                  have HVV := Lib.hid hv
                                  clear hr2 hne hv
                                  go_wp2
                                  go_ret
                                  exact ⟨ret_intZ (by rw [HVV.out]; rfl), HB6.out.trans (HB7.out.mono (by omega))⟩
                            · have hkz : ¬ (k : Int) < ((allT s).length : Int) := by omega
                              have hr2 : ob = false := by rw [← HH.out.rest, List.drop_of_length_le (by omega)]; rfl
                              have hv : refC s = 0 := by rw [HRC3.out, HOB.out, hr2]; rfl
                              have HVV := Lib.hid hv
                              clear hr2 hv
                              go_wp2
                              go_ret
                              exact ⟨ret_intZ (by rw [HVV.out]; rfl), HB6.out.trans (HH.out.below.mono (by omega))⟩
                        · have hv : refC s = 14 := by
                            have := HNB.out
                            rw [bne_iff_ne] at this
                            rw [HRC2.out, if_pos (by omega)]
                          have HVV := Lib.hid hv
                          clear hv
                          go_wp2
                          go_ret
                          exact ⟨ret_intZ (by rw [HVV.out]; rfl), HB5.out⟩
                · have hez : ((e2 : Int) == 0) = false := by rw [beq_eq_false_iff_ne]; omega
                  have hez2 : ¬ (e2 = 0) := he2
                  have hv : refC s = e2 := by rw [HRC.out, schZ_bad2 HFE.out HR.out he2, if_pos he2]
                  have HVV := Lib.hid hv
                  clear hv he2
                  go_wp2_with (go_at_call 43; (with_reducible refine HC.out.mono ?_); rintro e3 w2 ⟨rfl, x2, x3, x4⟩; have hz2 := x4.size; obtain ⟨⟨m0, m1, m2, m3, m4, m5⟩, _⟩ := six_blkF ((x3.block w.heap.size (by omega)).trans H.out.box); have HX2 := Lib.hid x2; have HX3 := Lib.hid x3; have HX4 := Lib.hid x4; clear x2 x3 x4)
                  go_ret
                  exact ⟨ret_intZ (by rw [HVV.out]), H.out.below.trans (HX3.out.mono (by omega))⟩
            · have hez : ((e : Int) == 0) = false := by rw [beq_eq_false_iff_ne]; omega
              have hfe := H.out.bad he
              have hv : refC s = e := by rw [HRC.out, schZ_bad1 (HFU.out.trans hfe) he, if_pos he]
              have HVV := Lib.hid hv
              clear hv hfe
              by_cases hj : j < s.types.length
              · have hjz : (j : Int) < (s.types.length : Int) := by omega
                go_wp2
                go_ret
                exact ⟨ret_intZ (by rw [HVV.out]), H.out.below⟩
              · have hjz : ¬ (j : Int) < (s.types.length : Int) := by omega
                go_wp2
                go_ret
                exact ⟨ret_intZ (by rw [HVV.out]), H.out.below⟩
end Sp
end Go.Proofs.Ytjjpjkkaogfoaaa

namespace Go.Proofs.Ytjjpjkkaogfoaaa
namespace Sp
open Sc

theorem bl_irrefl : ∀ a : List UInt8, Op.bytesLess a a = false
  | [] => rfl
  | a :: l => by simp [Op.bytesLess, bl_irrefl l]
theorem bl_trans : ∀ a b c : List UInt8, Op.bytesLess a b = true → Op.bytesLess b c = true → Op.bytesLess a c = true
  | [], [], _, h, _ => by simp [Op.bytesLess] at h
  | [], _ :: _, [], _, h => by simp [Op.bytesLess] at h
  | [], _ :: _, _ :: _, _, _ => by simp [Op.bytesLess]
  | _ :: _, [], _, h, _ => by simp [Op.bytesLess] at h
  | _ :: _, _ :: _, [], _, h => by simp [Op.bytesLess] at h
  | x :: a, y :: b, z :: c, h1, h2 => by
    have ih := bl_trans a b c
    simp only [Op.bytesLess] at h1 h2 ⊢
    simp only [Bool.or_eq_true, Bool.and_eq_true, decide_eq_true_eq, beq_iff_eq] at h1 h2 ⊢
    rcases h1 with h1 | ⟨rfl, h1⟩
    · rcases h2 with h2 | ⟨rfl, h2⟩
      · exact .inl (UInt8.lt_trans h1 h2)
      · exact .inl h1
    · rcases h2 with h2 | ⟨rfl, h2⟩
      · exact .inl h2
      · exact .inr ⟨rfl, ih h1 h2⟩
theorem bl_total : ∀ a b : List UInt8, Op.bytesLess a b = false → (a == b) = false → Op.bytesLess b a = true
  | [], [], _, h => by simp at h
  | [], _ :: _, h, _ => by simp [Op.bytesLess] at h
  | _ :: _, [], _, _ => by simp [Op.bytesLess]
  | x :: a, y :: b, h1, h2 => by
    have ih := bl_total a b
    simp only [Op.bytesLess] at h1 ⊢
    simp only [Bool.or_eq_false_iff, Bool.and_eq_false_imp, decide_eq_false_iff_not, beq_iff_eq] at h1
    simp only [Bool.or_eq_true, Bool.and_eq_true, decide_eq_true_eq, beq_iff_eq]
    by_cases e : x = y
    · subst e
      exact .inr ⟨rfl, ih (h1.2 rfl) (by simpa using h2)⟩
    · exact .inl (by
        have := h1.1
        rw [UInt8.lt_iff_toNat_lt] at this ⊢
        have : x.toNat ≠ y.toNat := fun h => e (UInt8.toNat_inj.1 h)
        omega)
theorem namesE_rise {tk : List UInt8 → Bool} : ∀ (ns : List (List UInt8)) (a : List UInt8), namesE tk a ns = 0 → (∀ x ∈ ns, Op.bytesLess a x = true) ∧ ns.Pairwise (fun x y => Op.bytesLess x y = true)
  | [], a, _ => ⟨(fun x hx => by cases hx), List.Pairwise.nil⟩
  | n :: ns, a, h => by
    rw [namesE] at h
    split at h
    · rename_i h1
      obtain ⟨k1, k2⟩ := namesE_rise ns n h
      have hl : Op.bytesLess a n = true := by
        unfold nameE at h1
        split at h1
        · cases h1
        · split at h1
          · cases h1
          · rename_i h2
            unfold leB at h2
            simp only [Bool.or_eq_true, not_or, Bool.not_eq_true] at h2
            exact bl_total n a h2.1 h2.2
      refine ⟨fun x hx => ?_, List.Pairwise.cons k1 k2⟩
      rcases List.mem_cons.1 hx with rfl | hx
      · exact hl
      · exact bl_trans a n x hl (k1 x hx)
    · rename_i h1; exact absurd h h1
theorem rise_once {tk : List UInt8 → Bool} {l : List NT} (h : namesE tk [] (l.map (·.1)) = 0) : NoTwice l := by
  have hp := (namesE_rise _ _ h).2
  rw [List.pairwise_iff_getElem] at hp
  intro i j hi hj e
  rcases Nat.lt_trichotomy i j with hlt | rfl | hlt
  · have := hp i j (by simpa using hi) (by simpa using hj) hlt
    simp only [List.getElem_map] at this
    rw [e, bl_irrefl] at this; cases this
  · rfl
  · have := hp j i (by simpa using hj) (by simpa using hi) hlt
    simp only [List.getElem_map] at this
    rw [e, bl_irrefl] at this; cases this

/-! ### What passes -/
mutual
theorem oneZ_good (has : List UInt8 → Bool) : ∀ (t : Tz) (d n : Nat), (oneZ has d n t).1 = 0 → kindsR t = true ∧ (oneZ has d n t).2 = n + sizeZ t
  | .mk k nm ns ks, d, n, h0 => by
    rw [oneZ] at h0 ⊢
    split at h0
    · cases h0
    · rename_i c1
      split at h0
      · cases h0
      · rename_i c2
        split at h0
        · rename_i h3; exact absurd h0 h3
        · rename_i h3
          obtain ⟨k1, k2⟩ := allZ_good has ks (d + 1) (n + 1) h0
          rw [if_neg c1, if_neg c2, if_neg h3, kindsR, sizeZ]
          refine ⟨?_, by omega⟩
          rw [k1, Bool.and_true, decide_eq_true_eq]
          have h4 : ownE has k nm ns ks.length = 0 := by simpa using h3
          unfold ownE at h4
          split at h4
          · cases h4
          · omega
theorem allZ_good (has : List UInt8 → Bool) : ∀ (ks : List Tz) (d n : Nat), (allZ has d n ks).1 = 0 → kindsRs ks = true ∧ (allZ has d n ks).2 = n + sizeZs ks
  | [], _, n, _ => ⟨rfl, by simp [allZ, sizeZs]⟩
  | t :: ks, d, n, h0 => by
    rw [allZ] at h0 ⊢
    split at h0
    · rename_i h1
      obtain ⟨a1, a2⟩ := oneZ_good has t d n h1
      obtain ⟨b1, b2⟩ := allZ_good has ks d _ h0
      rw [if_pos h1, kindsRs, a1, b1, sizeZs]
      exact ⟨rfl, by omega⟩
    · rename_i h1; exact absurd h0 h1
end
/-- Answers that loops and Opts have for themselves. -/
def own14 (e : Nat) : Prop := e ≠ 14 ∧ e ≠ 17
theorem nameE_14 (a n : List UInt8) (b : Bool) : own14 (nameE a n b) := by
  unfold nameE own14; split
  · decide
  · split <;> decide
theorem namesE_14 {tk : List UInt8 → Bool} : ∀ (ns : List (List UInt8)) (a : List UInt8), own14 (namesE tk a ns)
  | [], _ => by rw [namesE]; unfold own14; decide
  | n :: ns, a => by
    rw [namesE]; split
    · exact namesE_14 ns n
    · exact nameE_14 _ _ _
theorem ownE_14 (has : List UInt8 → Bool) (k : Int) (nm : List UInt8) (ns : List (List UInt8)) (m : Nat) : own14 (ownE has k nm ns m) := by
  unfold ownE
  split
  · unfold own14; decide
  · split
    · unfold own14; decide
    · split
      · unfold own14; decide
      · unfold fieldE
        split
        · unfold own14; decide
        · split
          · exact namesE_14 _ _
          · split <;> (unfold own14; decide)
mutual
theorem oneZ_14 (has : List UInt8 → Bool) : ∀ (t : Tz) (d n : Nat), own14 (oneZ has d n t).1
  | .mk k nm ns ks, d, n => by
    rw [oneZ]
    split
    · unfold own14; simp
    · split
      · unfold own14; simp
      · split
        · exact ownE_14 _ _ _ _ _
        · exact allZ_14 has ks _ _
theorem allZ_14 (has : List UInt8 → Bool) : ∀ (ks : List Tz) (d n : Nat), own14 (allZ has d n ks).1
  | [], _, _ => by rw [allZ]; unfold own14; simp
  | t :: ks, d, n => by
    rw [allZ]; split
    · exact allZ_14 has ks _ _
    · exact oneZ_14 has t _ _
end
theorem fnsZ_14 (has : List UInt8 → Bool) : ∀ (l : List Sg) (a : List UInt8) (n : Nat), own14 (fnsZ has n a l).1
  | [], _, _ => by rw [fnsZ]; unfold own14; simp
  | g :: l, a, n => by
    rw [fnsZ]; split
    · exact fnsZ_14 has l _ _
    · unfold fnZ
      split
      · exact nameE_14 _ _ _
      · split
        · unfold own14; simp
        · split
          · exact allZ_14 _ _ _ _
          · exact oneZ_14 _ _ _ _
theorem schZ_14 (s : Sz) : own14 (schZ s) := by
  unfold schZ
  simp only
  split
  · exact allZ_14 _ _ _ _
  · split
    · exact oneZ_14 _ _ _ _
    · exact fnsZ_14 _ _ _ _
/-- A schema of which it is told at least whether each type ends. -/
structure Told (s : Sz) : Prop where
  once : NoTwice s.types
  kinds : kindsRs (s.types.map (·.2)) = true
  mkind : kindsR s.main = true
  few : s.types.length ≤ 12
  size : totZ s.types + sizeZ s.main ≤ 400
theorem told_of {s : Sz} (h : refC s = 0 ∨ refC s = 14 ∨ refC s = 17) : Told s := by
  unfold refC at h
  by_cases h1 : 12 < s.types.length ∨ 12 < s.sigs.length
  · rw [if_pos h1] at h; omega
  · rw [if_neg h1] at h
    by_cases h2 : namesE wordB [] (s.types.map (·.1)) = 0
    · rw [if_neg (by simpa using h2)] at h
      by_cases h3 : schZ s = 0
      · have a0 : (allZ (hasZ s.types) 1 0 (s.types.map (·.2))).1 = 0 := by
          cases hh : allZ (hasZ s.types) 1 0 (s.types.map (·.2)) with
          | mk e n =>
            by_cases he : e = 0
            · exact he
            · rw [schZ_bad1 hh he] at h3; exact absurd h3 he
        obtain ⟨k1, k2⟩ := allZ_good _ _ _ _ a0
        have m0 : (oneZ (hasZ s.types) 1 (allZ (hasZ s.types) 1 0 (s.types.map (·.2))).2 s.main).1 = 0 := by
          cases hh : oneZ (hasZ s.types) 1 (allZ (hasZ s.types) 1 0 (s.types.map (·.2))).2 s.main with
          | mk e n =>
            by_cases he : e = 0
            · exact he
            · have := schZ_bad2 (n := (allZ (hasZ s.types) 1 0 (s.types.map (·.2))).2) (show _ = (0, _) from Prod.ext a0 rfl) hh he
              rw [this] at h3; exact absurd h3 he
        obtain ⟨k3, k4⟩ := oneZ_good _ _ _ _ m0
        have hle := allZ_le (hasZ s.types) (s.types.map (·.2)) 1 0 (by omega) a0
        have hle2 := oneZ_le (hasZ s.types) s.main 1 _ hle m0
        exact ⟨rise_once h2, k1, k3, by omega, by unfold totZ; omega⟩
      · rw [if_pos h3] at h
        have := schZ_14 s; unfold own14 at this; omega
    · rw [if_pos (by simpa using h2)] at h
      have := namesE_14 (tk := wordB) (s.types.map (·.1)) []; unfold own14 at this; omega
/-- Both ways of telling which types end agree. -/
theorem Told.same {s : Sz} {t : Tz} (h : Told s) (ht : kindsR t = true) (hs : sizeZ t ≤ 60000) : finiteZ s t = endsR (inR (finiteR s.types)) t := by
  have h1 := h.few
  have h2 := h.size
  have h3 : (s.types.length + 1) * totZ s.types ≤ 13 * 400 := Nat.mul_le_mul (by omega) (by omega)
  exact finiteZ_ok h.once h.kinds ht (by omega)

/-! ### What Tree makes -/
theorem sizeZs_append : ∀ a b : List Tz, sizeZs (a ++ b) = sizeZs a + sizeZs b
  | [], b => by simp [sizeZs]
  | t :: a, b => by simp only [List.cons_append, sizeZs, sizeZs_append a b]; omega
theorem kindsRs_append : ∀ a b : List Tz, kindsRs (a ++ b) = (kindsRs a && kindsRs b)
  | [], b => by simp [kindsRs]
  | t :: a, b => by simp only [List.cons_append, kindsRs, kindsRs_append a b, Bool.and_assoc]
theorem putT_good {n : List UInt8} {x t : Tz} (hx : kindsR x = true) (ht : kindsR t = true) : kindsR (putT n x t) = true ∧ sizeZ (putT n x t) ≤ sizeZ t + sizeZ x := by
  obtain ⟨k, nm, ns, ks⟩ := t
  rw [putT]
  split
  · exact ⟨ht, by omega⟩
  · rw [kindsR, Bool.and_eq_true] at ht
    have e := List.take_append_drop (posT ns n) ks
    have k1 := kindsRs_append (ks.take (posT ns n)) (ks.drop (posT ns n))
    have s1 := sizeZs_append (ks.take (posT ns n)) (ks.drop (posT ns n))
    rw [e] at k1 s1
    rw [ht.2] at k1
    have k2 := k1.symm
    rw [Bool.and_eq_true] at k2
    rw [kindsR, sizeZ, sizeZ, kindsRs_append, kindsRs_append, sizeZs_append, sizeZs_append, ht.1, k2.1, k2.2, s1]
    simp [kindsRs, sizeZs, hx]
    omega
/-- How great a tree may be. -/
def capT : Nat → Nat | 0 => 1 | d + 1 => 1 + 4 * capT d
theorem topK_low (nn d : Nat) (kd : Int) (h : d ≤ 1) : topK nn d kd ≤ 3 ∨ topK nn d kd = 9 := by
  unfold topK; split <;> omega
theorem treeR_good (names : List (List UInt8)) : ∀ (d : Nat) (r : Rw), kindsR (treeR names d r) = true ∧ sizeZ (treeR names d r) ≤ capT (d - 1)
  | 0, .mk kd n ns ks => by
    have h1 := topK_rng names.length 0 kd
    have hc0 : capT (0 - 1) = 1 := rfl
    rw [treeR, hc0]
    split
    · simp [kindsR, kindsRs, sizeZ, sizeZs]
    · simp only [kindsR, kindsRs, sizeZ, sizeZs]; simp; exact h1
  | d + 1, .mk kd n ns ks => by
    have h1 := topK_rng names.length (d + 1) kd
    obtain ⟨k, hk⟩ : ∃ k, topK names.length (d + 1) kd = k := ⟨_, rfl⟩
    by_cases hd : d = 0
    · subst hd
      have hc0 : capT (0 + 1 - 1) = 1 := rfl
      have h1' := topK_rng names.length (0 + 1) kd
      rw [hc0]
      rcases topK_low names.length (0 + 1) kd (by omega) with h | h
      · rw [treeR_leaf _ _ _ _ _ _ h]; simp only [kindsR, kindsRs, sizeZ, sizeZs]; simp; exact h1'
      · rw [treeR_name _ _ _ _ _ _ h]; simp [kindsR, kindsRs, sizeZ, sizeZs]
    · obtain ⟨e, he⟩ : ∃ e, d = e + 1 := ⟨d - 1, by omega⟩
      have ih := fun r => treeR_good names d r
      have hc : capT (d + 1 - 1) = 1 + 4 * capT (d - 1) := by rw [he]; rfl
      have hp : ∀ d, 1 ≤ capT d := fun d => by cases d <;> simp [capT] <;> omega
      have hp1 := hp (d - 1)
      rw [hc]
      rw [hk] at h1
      by_cases h9 : k = 9
      · rw [treeR_name _ _ _ _ _ _ (hk.trans h9)]; simp [kindsR, kindsRs, sizeZ, sizeZs]
      · by_cases h3 : k ≤ 3
        · rw [treeR_leaf _ _ _ _ _ _ (by rw [hk]; exact h3), hk]; simp only [kindsR, kindsRs, sizeZ, sizeZs]; simp; omega
        · by_cases h6 : k ≤ 6
          · rw [treeR_kid _ _ _ _ _ _ k hk (by omega)]
            obtain ⟨i1, i2⟩ := ih (kidR (.mk kd n ns ks) 0)
            split
            · exact ⟨i1, by omega⟩
            · simp only [kindsR, kindsRs, sizeZ, sizeZs, i1]; simp; omega
          · rw [treeR_recT _ _ _ _ _ _ k hk (by omega)]
            have hf : fldM k ns ≤ 4 := by unfold fldM; split <;> omega
            have key : ∀ i, kindsR (recT names d kd n ns ks k i) = true ∧ sizeZ (recT names d kd n ns ks k i) ≤ 1 + i * capT (d - 1) := by
              intro i
              induction i with
              | zero => rw [recT_zero]; simp only [kindsR, kindsRs, sizeZ, sizeZs]; simp; omega
              | succ i ihh =>
                obtain ⟨i1, i2⟩ := ih (kidR (.mk kd n ns ks) i)
                have := putT_good (n := fldN ns i) i1 ihh.1
                rw [recT_succ]
                refine ⟨this.1, ?_⟩
                have := this.2
                have := ihh.2
                rw [Nat.succ_mul]; omega
            obtain ⟨k1, k2⟩ := key (fldM k ns)
            have := Nat.mul_le_mul_right (capT (d - 1)) hf
            exact ⟨k1, by omega⟩
end Sp
end Go.Proofs.Ytjjpjkkaogfoaaa

namespace Go.Proofs.Ytjjpjkkaogfoaaa
namespace Sp
open Sc

theorem look_first {l : List NT} (hl : NoTwice l) (nm : List UInt8) : lookZ l nm = firstZ l nm := by
  unfold lookZ lastN firstZ
  cases h : l.reverse.find? (fun x => decide (x.1 = nm)) with
  | none =>
    have h1 : l.find? (fun x => decide (x.1 = nm)) = none := by
      rw [List.find?_eq_none] at h ⊢
      exact fun x hx => h x (List.mem_reverse.2 hx)
    rw [h1]; rfl
  | some x =>
    have hx := List.mem_reverse.1 (List.mem_of_find?_eq_some h)
    have hxn : x.1 = nm := by simpa using List.find?_some h
    cases h1 : l.find? (fun x => decide (x.1 = nm)) with
    | none =>
      rw [List.find?_eq_none] at h1
      exact absurd (by simpa using hxn) (h1 x hx)
    | some y =>
      have hy := List.mem_of_find?_eq_some h1
      have hyn : y.1 = nm := by simpa using List.find?_some h1
      cases hl.eq hx hy (hxn.trans hyn.symm)
      rfl
theorem lookZ_in {l : List NT} (hl : NoTwice l) {x : NT} (hx : x ∈ l) : lookZ l x.1 = x.2 := by
  rw [look_first hl]
  unfold firstZ
  cases h1 : l.find? (fun y => decide (y.1 = x.1)) with
  | none => rw [List.find?_eq_none] at h1; exact absurd (by simp) (h1 x hx)
  | some y =>
    have hyn : y.1 = x.1 := by simpa using List.find?_some h1
    cases hl.eq (List.mem_of_find?_eq_some h1) hx hyn
    rfl
theorem lookZ_no {l : List NT} {nm : List UInt8} (h : ∀ x ∈ l, x.1 ≠ nm) : lookZ l nm = .mk 0 [] [] [] := by
  unfold lookZ lastN
  rw [List.find?_eq_none.2 (fun x hx => by simpa using h x (List.mem_reverse.1 hx))]
  rfl
theorem openZ_not (l : List NT) (f : Nat) (t : Tz) (h : t.kind ≠ 9) : openZ l f t = t := by
  cases f with
  | zero => rfl
  | succ f => obtain ⟨k, nm, ns, ks⟩ := t; rw [openZ]; exact if_neg h
theorem openZ_mk (l : List NT) (f : Nat) {k : Int} (h : k ≠ 9) (nm : List UInt8) (ns : List (List UInt8)) (ks : List Tz) : openZ l f (.mk k nm ns ks) = .mk k nm ns ks := openZ_not l f _ h
theorem openZ_R {l : List NT} (hl : NoTwice l) : ∀ (f : Nat) (t : Tz), openR l f t = openZ l f t
  | 0, _ => rfl
  | f + 1, .mk k nm ns ks => by rw [openR, openZ, look_first hl, openZ_R hl f]
/-- A name that comes up within k rounds opens within k steps. -/
theorem open_rank {l : List NT} (hl : NoTwice l) : ∀ (k : Nat) (nm : List UInt8), nm ∈ finR l k → ∀ f, k ≤ f → (openZ l f (lookZ l nm)).kind ≠ 9 ∧ openZ l f (lookZ l nm) = openZ l k (lookZ l nm)
  | 0, _, h, _, _ => by cases h
  | k + 1, nm, h, f, hf => by
    obtain ⟨y, hy, rfl⟩ := List.mem_map.1 (show nm ∈ stepR l (finR l k) from h)
    rw [List.mem_filter] at hy
    rw [lookZ_in hl hy.1]
    obtain ⟨g, rfl⟩ : ∃ g, f = g + 1 := ⟨f - 1, by omega⟩
    obtain ⟨x, t⟩ := y
    obtain ⟨kd, m, ns, ks⟩ := t
    dsimp only at hy ⊢
    by_cases h9 : kd = 9
    · subst h9
      have hm : m ∈ finR l k := by
        have := hy.2
        rw [endsR, if_neg (by decide), if_neg (by decide), if_pos rfl] at this
        exact inR_iff.1 this
      have ih := open_rank hl k m hm
      rw [openZ, openZ, if_pos rfl, if_pos rfl]
      exact ⟨(ih g (by omega)).1, (ih g (by omega)).2⟩
    · rw [openZ_mk _ _ h9, openZ_mk _ _ h9]; exact ⟨h9, rfl⟩
/-- All named types end. -/
def AllEnd (l : List NT) : Prop := (finiteR l).length = l.length
theorem AllEnd.rank {l : List NT} (h : AllEnd l) (hl : NoTwice l) {x : NT} (hx : x ∈ l) : x.1 ∈ finR l l.length := by
  have e : finR l (l.length + 1) = finR l l.length := by
    rcases finR_grows l l.length with ⟨j, hj, e⟩ | h1
    · have a := finR_stuck l j e (l.length - j)
      have b := finR_stuck l j e (l.length + 1 - j)
      rw [show j + (l.length - j) = l.length by omega] at a
      rw [show j + (l.length + 1 - j) = l.length + 1 by omega] at b
      rw [a, b]
    · have a := finR_up l l.length
      have h2 : (finR l (l.length + 1)).length = l.length := h
      have h3 := finR_len l l.length
      exact (a.eq_of_length (by omega)).symm
  rw [← e]
  have h2 : (l.filter fun x => endsR (inR (finR l l.length)) x.2).length = l.length := by
    have := h; unfold AllEnd finiteR at this; rwa [show finR l (l.length + 1) = stepR l (finR l l.length) from rfl, stepR, List.length_map] at this
  have h3 := List.filter_eq_self.1 (List.filter_sublist.eq_of_length h2)
  exact (mem_stepR hl hx).2 (h3 x hx)
theorem open_all {l : List NT} (hl : NoTwice l) (h : AllEnd l) (f : Nat) (hf : l.length < f) (t : Tz) : (openZ l f t).kind ≠ 9 ∧ openZ l f t = openZ l (l.length + 1) t := by
  obtain ⟨g, rfl⟩ : ∃ g, f = g + 1 := ⟨f - 1, by omega⟩
  obtain ⟨kd, m, ns, ks⟩ := t
  by_cases h9 : kd = 9
  · subst h9
    rw [openZ, openZ, if_pos rfl, if_pos rfl]
    by_cases hm : ∃ x ∈ l, x.1 = m
    · obtain ⟨x, hx, rfl⟩ := hm
      exact open_rank hl _ _ (h.rank hl hx) g (by omega)
    · rw [lookZ_no (fun x hx e => hm ⟨x, hx, e⟩), openZ_not _ _ _ (by simp [Tz.kind]), openZ_not _ _ _ (by simp [Tz.kind])]
      exact ⟨by simp [Tz.kind], rfl⟩
  · rw [openZ_mk _ _ h9, openZ_mk _ _ h9]; exact ⟨h9, rfl⟩
mutual
theorem nest_same {l : List NT} (hl : NoTwice l) (h : AllEnd l) (h12 : l.length ≤ 12) : ∀ t, nestR l t = nestZ l t
  | .mk k nm ns ks => by rw [nestR, nestZ, openZ_R hl, ← (open_all hl h 13 (by omega) (kid0 ks)).2, nests_same hl h h12 ks]
theorem nests_same {l : List NT} (hl : NoTwice l) (h : AllEnd l) (h12 : l.length ≤ 12) : ∀ ks, nestsR l ks = nestsZ l ks
  | [] => rfl
  | t :: ks => by rw [nestsR, nestsZ, nest_same hl h h12 t, nests_same hl h h12 ks]
end
mutual
theorem opens_ok {l : List NT} (hl : NoTwice l) (h : AllEnd l) (h12 : l.length ≤ 12) : ∀ t, kidsOk t = true → opensZ l t = true
  | .mk k nm ns ks, hk => by
    rw [kidsOk, Bool.and_eq_true] at hk
    rw [opensZ, openss_ok hl h h12 ks hk.2, Bool.and_true]
    have := (open_all hl h 13 (by omega) (kid0 ks)).1
    have h1 := hk.1
    simp only [Bool.or_eq_true, Bool.not_eq_true', Bool.and_eq_true, decide_eq_true_eq, decide_eq_false_iff_not] at h1 ⊢
    rcases h1 with h1 | h1
    · exact .inl h1
    · exact .inr ⟨h1, this⟩
theorem openss_ok {l : List NT} (hl : NoTwice l) (h : AllEnd l) (h12 : l.length ≤ 12) : ∀ ks, kidsOks ks = true → opensZs l ks = true
  | [], _ => rfl
  | t :: ks, hk => by
    rw [kidsOks, Bool.and_eq_true] at hk
    rw [opensZs, opens_ok hl h h12 t hk.1, openss_ok hl h h12 ks hk.2]; rfl
end
theorem kidsOks_of {ks : List Tz} (h : ∀ t ∈ ks, kidsOk t = true) : kidsOks ks = true := by
  induction ks with
  | nil => rfl
  | cons t ks ih => rw [kidsOks, h t List.mem_cons_self, ih (fun x hx => h x (List.mem_cons_of_mem _ hx))]; rfl
theorem optOf_allT {s : Sz} : optOf s = (allT s).any (nestZ s.types) := by
  unfold optOf allT
  rw [List.any_append, List.any_append, nestsZ_any, List.any_flatMap]
  have e : (s.sigs.any fun g => nestZ s.types g.result || nestsZ s.types g.params) = s.sigs.any fun g => (sgT g).any (nestZ s.types) := by
    congr 1; funext g; unfold sgT; rw [List.any_append, nestsZ_any]; simp [Bool.or_comm]
  rw [e]
  simp only [List.any_cons, List.any_nil, Bool.or_false]
  cases List.any (List.map (fun x => x.snd) s.types) (nestZ s.types) <;> cases nestZ s.types s.main <;> simp
theorem told_kids {s : Sz} (h : schZ s = 0) : ∀ t ∈ allT s, kidsOk t = true := by
  obtain ⟨⟨e, n⟩, h1⟩ : ∃ p, allZ (hasZ s.types) 1 0 (s.types.map (·.2)) = p := ⟨_, rfl⟩
  have he : e = 0 := by
    by_cases he : e = 0
    · exact he
    · rw [schZ_bad1 h1 he] at h; exact absurd h he
  subst he
  obtain ⟨⟨e2, m⟩, h2⟩ : ∃ p, oneZ (hasZ s.types) 1 n s.main = p := ⟨_, rfl⟩
  have he2 : e2 = 0 := by
    by_cases he : e2 = 0
    · exact he
    · rw [schZ_bad2 h1 h2 he] at h; exact absurd h he
  subst he2
  rw [schZ_go h1 h2] at h
  exact all_kids h1 h2 (r := (fnsZ (hasZ s.types) m [] s.sigs).2) (Prod.ext h rfl)
/-- The code's check tells what the chapter's tells. -/
theorem check_same (s : Sz) : checkZ s = some (refC s) := by
  unfold checkZ
  by_cases h1 : 12 < s.types.length ∨ 12 < s.sigs.length
  · rw [if_pos h1]; unfold refC; rw [if_pos h1]
  · rw [if_neg h1]
    by_cases h2 : namesE wordB [] (s.types.map (·.1)) ≠ 0
    · rw [if_pos h2]; unfold refC; rw [if_neg h1, if_pos h2]
    · rw [if_neg h2]
      by_cases h3 : schZ s ≠ 0
      · rw [if_pos h3]; unfold refC; rw [if_neg h1, if_neg h2, if_pos h3]
      · rw [if_neg h3]
        have hr : refC s = if (finiteR s.types).length ≠ s.types.length then 14 else if (allT s).any (nestR s.types) = true then 17 else 0 := by
          unfold refC; rw [if_neg h1, if_neg h2, if_neg h3]
        have ht : Told s := told_of (by
          rw [hr]; split
          · exact .inr (.inl rfl)
          · split
            · exact .inr (.inr rfl)
            · exact .inl rfl)
        have hz := ht.size
        have hfew := ht.few
        have hm : (s.types.length + 1) * totZ s.types ≤ 13 * 400 := Nat.mul_le_mul (by omega) (by omega)
        have hsh := endsZ_short ht.once ht.kinds (by omega)
        rw [hr]
        by_cases h4 : (endsZ s.types).1.length < s.types.length
        · rw [if_pos h4, if_pos (hsh.1 h4)]
        · have h5 : AllEnd s.types := by
            unfold AllEnd
            by_cases e : (finiteR s.types).length = s.types.length
            · exact e
            · exact absurd (hsh.2 e) h4
          have e2 : (if (finiteR s.types).length ≠ s.types.length then 14 else if (allT s).any (nestR s.types) = true then 17 else 0) = if (allT s).any (nestR s.types) = true then 17 else 0 := if_neg (fun e => e h5)
          rw [if_neg h4, e2]
          have hk := told_kids (by simpa using h3)
          have ho : ∀ t ∈ allT s, opensZ s.types t = true := fun t htm => opens_ok ht.once h5 ht.few t (hk t htm)
          have hoo : ∀ ks : List Tz, (∀ t ∈ ks, t ∈ allT s) → opensZs s.types ks = true := fun ks hks => openss_ok ht.once h5 ht.few ks (kidsOks_of fun t htm => hk t (hks t htm))
          have hok : optOk s = true := by
            unfold optOk
            rw [Bool.and_eq_true, Bool.and_eq_true, List.all_eq_true]
            refine ⟨⟨hoo _ fun t htm => by unfold allT; simp only [List.mem_append]; exact .inl (.inl htm), fun g hg => ?_⟩, ho _ (by unfold allT; simp)⟩
            rw [Bool.and_eq_true]
            have hin : ∀ t, t ∈ sgT g → t ∈ allT s := fun t htm => by unfold allT; rw [List.mem_append]; exact .inr (List.mem_flatMap.2 ⟨g, hg, htm⟩)
            exact ⟨ho _ (hin _ (by unfold sgT; simp)), hoo _ fun t htm => hin t (by unfold sgT; simp [htm])⟩
          rw [if_pos hok, optOf_allT, show (allT s).any (nestR s.types) = (allT s).any (nestZ s.types) by congr 1; funext t; exact nest_same ht.once h5 ht.few t]
/-- A schema that may be. -/
structure GoodZ (s : Sz) : Prop extends Told s where
  ends : AllEnd s.types
theorem good_of {s : Sz} (h : refC s = 0) : GoodZ s := by
  refine ⟨told_of (.inl h), ?_⟩
  unfold refC at h
  split at h
  · cases h
  · split at h
    · rename_i h1; exact absurd h h1
    · split at h
      · rename_i h1; exact absurd h h1
      · split at h
        · cases h
        · rename_i h1; unfold AllEnd; omega
end Sp
end Go.Proofs.Ytjjpjkkaogfoaaa

namespace Go.Proofs.Ytjjpjkkaogfoaaa
namespace Sp
open Sc

theorem fitZs_append : ∀ a b : List Tz, fitZs (a ++ b) = (fitZs a && fitZs b)
  | [], b => by simp [fitZs]
  | t :: a, b => by simp only [List.cons_append, fitZs, fitZs_append a b, Bool.and_assoc]
theorem fit_mk {k : Int} {nm : List UInt8} {ns : List (List UInt8)} {ks : List Tz} (h1 : nm.length ≤ 100) (h2 : ns.length ≤ 100) (h3 : ∀ n ∈ ns, n.length ≤ 100) (h4 : ks.length ≤ 100) (h5 : fitZs ks = true) : fitZ (.mk k nm ns ks) = true := by
  rw [fitZ, h5]
  simp only [Bool.and_eq_true, decide_eq_true_eq, List.all_eq_true]
  unfold maxLen
  exact ⟨⟨by omega, ⟨by omega, fun n hn => by have := h3 n hn; omega⟩, by omega⟩, trivial⟩
theorem nameL_len (n : Int) : (nameL n).length ≤ 100 := by
  unfold nameL
  have h : 0 ≤ n % 7 ∧ n % 7 < 7 := by omega
  obtain ⟨k, hk⟩ : ∃ k : Nat, n % 7 = k := ⟨(n % 7).toNat, by omega⟩
  rw [hk]
  have hk7 : k < 7 := by omega
  match k, hk7 with
  | 0, _ => decide
  | 1, _ => decide
  | 2, _ => decide
  | 3, _ => decide
  | 4, _ => decide
  | 5, _ => decide
  | 6, _ => decide
theorem fldN_len (ns : List Int) (i : Nat) : (fldN ns i).length ≤ 100 := by
  unfold fldN
  split
  · exact nameL_len _
  · decide
/-- A record's, a union's parts: few, and such as memory can hold. -/
structure FitR (t : Tz) (i : Nat) : Prop where
  form : ∃ k ms us, t = .mk k [] ms us ∧ ms.length = us.length ∧ ms.length ≤ i ∧ (∀ n ∈ ms, n.length ≤ 100) ∧ fitZs us = true
theorem FitR.put {t x : Tz} {i : Nat} {n : List UInt8} (h : FitR t i) (hn : n.length ≤ 100) (hx : fitZ x = true) : FitR (putT n x t) (i + 1) := by
  obtain ⟨k, ms, us, rfl, h1, h2, h3, h4⟩ := h
  rw [putT]
  split
  · exact ⟨k, ms, us, rfl, h1, by omega, h3, h4⟩
  · have hp := posT_le ms n
    have e := List.take_append_drop (posT ms n) us
    have k1 := fitZs_append (us.take (posT ms n)) (us.drop (posT ms n))
    rw [e, h4] at k1
    have k2 := k1.symm
    rw [Bool.and_eq_true] at k2
    refine ⟨k, _, _, rfl, by simp; omega, by simp; omega, fun m hm => ?_, ?_⟩
    · simp only [List.mem_append, List.mem_singleton] at hm
      rcases hm with (hm | rfl) | hm
      · exact h3 m (List.mem_of_mem_take hm)
      · exact hn
      · exact h3 m (List.mem_of_mem_drop hm)
    · rw [fitZs_append, fitZs_append, k2.1, k2.2]; simp [fitZs, hx]
theorem FitR.fit {t : Tz} {i : Nat} (h : FitR t i) (hi : i ≤ 100) : fitZ t = true := by
  obtain ⟨k, ms, us, rfl, h1, h2, h3, h4⟩ := h
  exact fit_mk (by simp) (by omega) h3 (by omega) h4
theorem treeR_fit (names : List (List UInt8)) (hn : ∀ n ∈ names, n.length ≤ 100) : ∀ (d : Nat) (r : Rw), fitZ (treeR names d r) = true
  | 0, .mk kd n ns ks => by
    have hl : (names.getD (n % names.length).toNat []).length ≤ 100 := by
      rw [List.getD]
      cases h : names[(n % names.length).toNat]? with
      | none => simp
      | some x => exact hn x (List.mem_of_getElem? h)
    rw [treeR]
    split
    · exact fit_mk hl (by simp) (fun n hn => by cases hn) (by simp) rfl
    · exact fit_mk (by simp) (by simp) (fun n hn => by cases hn) (by simp) rfl
  | d + 1, .mk kd n ns ks => by
    have hl : (names.getD (n % names.length).toNat []).length ≤ 100 := by
      rw [List.getD]
      cases h : names[(n % names.length).toNat]? with
      | none => simp
      | some x => exact hn x (List.mem_of_getElem? h)
    have h1 := topK_rng names.length (d + 1) kd
    obtain ⟨k, hk⟩ : ∃ k, topK names.length (d + 1) kd = k := ⟨_, rfl⟩
    have ih := fun r => treeR_fit names hn d r
    rw [hk] at h1
    by_cases h9 : k = 9
    · rw [treeR_name _ _ _ _ _ _ (hk.trans h9)]
      exact fit_mk hl (by simp) (fun n hn => by cases hn) (by simp) rfl
    · by_cases h3 : k ≤ 3
      · rw [treeR_leaf _ _ _ _ _ _ (by rw [hk]; exact h3)]
        exact fit_mk (by simp) (by simp) (fun n hn => by cases hn) (by simp) rfl
      · by_cases h6 : k ≤ 6
        · rw [treeR_kid _ _ _ _ _ _ k hk (by omega)]
          split
          · exact ih _
          · exact fit_mk (by simp) (by simp) (fun n hn => by cases hn) (by simp) (by rw [fitZs, ih]; rfl)
        · rw [treeR_recT _ _ _ _ _ _ k hk (by omega)]
          have hf : fldM k ns ≤ 4 := by unfold fldM; split <;> omega
          have key : ∀ i, FitR (recT names d kd n ns ks k i) i := by
            intro i
            induction i with
            | zero => exact ⟨k, [], [], rfl, rfl, Nat.le_refl _, (fun n hn => by cases hn), rfl⟩
            | succ i ihh => rw [recT_succ]; exact ihh.put (fldN_len ns i) (ih _)
          exact (key (fldM k ns)).fit (by omega)
theorem nm4_len : ∀ n ∈ nm4, n.length ≤ 100 := by decide
theorem namesR_len100 (types : List Rw) : ∀ n ∈ namesR types, n.length ≤ 100 := fun n hn => nm4_len n (List.mem_of_mem_take hn)
theorem schR_fit (main : Rw) (types sigs : List Rw) : SzFit (schR main types sigs) := by
  have hn := namesR_len100 types
  refine ⟨treeR_fit _ hn _ _, fun i hi => ?_, fun i hi => ?_⟩
  · simp only [schR, ntR, List.getElem_map, List.getElem_range]
    refine ⟨?_, treeR_fit _ hn _ _⟩
    rw [List.getD]
    cases h : (namesR types)[i]? with
    | none => simp
    | some x => have := hn x (List.mem_of_getElem? h); unfold maxLen; simp; omega
  · simp only [schR, sgsR, List.getElem_map, List.getElem_range]
    unfold sgR fitG
    simp only [Bool.and_eq_true, decide_eq_true_eq]
    refine ⟨⟨⟨?_, ?_⟩, ?_⟩, treeR_fit _ hn _ _⟩
    · have : ∀ n ∈ fn4, n.length ≤ 100 := by decide
      rw [List.getD]
      cases h : fn4[i]? with
      | none => simp
      | some x => have := this x (List.mem_of_getElem? h); unfold maxLen; simp; omega
    · simp only [parR, List.length_map, List.length_range]; unfold maxLen; omega
    · have : ∀ l : List Tz, (∀ t ∈ l, fitZ t = true) → fitZs l = true := by
        intro l
        induction l with
        | nil => intro _; rfl
        | cons t l ih => intro h; rw [fitZs, h t List.mem_cons_self, ih (fun x hx => h x (List.mem_cons_of_mem _ hx))]; rfl
      refine this _ fun t ht => ?_
      obtain ⟨k, _, rfl⟩ := List.mem_map.1 ht
      exact treeR_fit _ hn _ _
theorem schR_types (main : Rw) (types sigs : List Rw) : (schR main types sigs).types.length = min types.length 4 := by simp [schR, ntR, namesR_len]
theorem schR_sigs (main : Rw) (types sigs : List Rw) : (schR main types sigs).sigs.length = min sigs.length 4 := by simp [schR, sgsR]
end Sp
end Go.Proofs.Ytjjpjkkaogfoaaa
