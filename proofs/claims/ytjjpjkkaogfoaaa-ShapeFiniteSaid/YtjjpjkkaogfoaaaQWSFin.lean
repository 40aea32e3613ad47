/- ShapeFinite: its walk. Written by gen_wsfin.py. -/
import Derived.Test.YtjjpjkkaogfoaaaQ3
import Derived.Deep.CutBlock
import Derived.Deep.DeepCutAuto
namespace Go.Proofs.Ytjjpjkkaogfoaaa
open Go.RowKit
namespace Sp
open Sc

theorem SchO.sz {w : World} {z : Nat} {s : Sz} {c : C4} {a1 a2 : Option Addr} {m1 n1 m2 n2 : Nat} {us : List (List UInt8 × C4)} {gs : List (List UInt8 × G6)} (h : SchO w z s c (.slice a1 m1 n1) us (.slice a2 m2 n2) gs) : SzV w (Any w) s c a1 us a2 gs :=
  SzV.build (h.main.keep (fun _ hg => hg.1) (fun _ _ => rfl)) (NmsV.sl h.town h.tlen fun i h1 h2 => ⟨(h.tval i h1 h2).1, (h.tval i h1 h2).2.keep (fun _ hg => hg.1) (fun _ _ => rfl)⟩) (SgsV.sl h.sown h.slen fun i h1 h2 => (h.sval i h1 h2).step fun _ hg => ⟨hg.1, rfl⟩)
theorem sigs_none (main : Rw) (types : List Rw) : (schR main types []).sigs = [] := by simp [schR, sgsR]
/-- The names that are gathered. -/
structure FnN (w W3 : World) (sb : Nat) (sc : Array Value) (l : List NT) (v9 v10 : Value) (wr : World) (i : Nat) : Prop where
  slot : v10 = .int .i64 i
  le : i ≤ l.length
  own : wr.ownsRow W3.heap.size 9 1 v9 ((l.take i).map (·.1)).length (nmF ((l.take i).map (·.1)))
  box : wr.heap[sb]? = some (.cells sc 29 (0, 0))
  below : Below W3.heap.size W3 wr
set_option maxRecDepth 100000 in
set_option maxHeartbeats 16000000 in
theorem ShapeFinite_any (main : Rw) (types : List Rw) (r : Rw) (cm cr : R4) (at1 : Option Addr) (ut : List R4) (c1 : Nat) (w : World) (hM : RwV w main cm) (hR : RwV w r cr) (hT : RwsV w types at1 ut) (hl : types.length ≤ maxLen) :
    Calls Try.prog 4 #[.agg #[.int .i64 cm.k, .int .i64 cm.n, .slice cm.an cm.ln cm.cn, .slice cm.ak cm.lk cm.ck], .slice at1 types.length c1, .agg #[.int .i64 cr.k, .int .i64 cr.n, .slice cr.an cr.ln cr.cn, .slice cr.ak cr.lk cr.ck]] w fun e w' => e = .returned (.bool true) ∧ Below w.heap.size w w' := by
  have HM := Lib.hid hM; have HR := Lib.hid hR; have HT := Lib.hid hT
  clear hM hR hT
  obtain ⟨W0, hW0⟩ : ∃ W0, W0 = (w.alloc (.cells #[.int .i64 cm.k, .int .i64 cm.n, .slice cm.an cm.ln cm.cn, .slice cm.ak cm.lk cm.ck] 33)).alloc (.cells #[.int .i64 cr.k, .int .i64 cr.n, .slice cr.an cr.ln cr.cn, .slice cr.ak cr.lk cr.ck] 33) := ⟨_, rfl⟩
  have hb0 : Below w.heap.size w W0 := by rw [hW0]; exact ((Below.refl _ _).alloc (Nat.le_refl _) _).alloc (by simp) _
  have hz0 : W0.heap.size = w.heap.size + 2 := by rw [hW0]; simp
  have hs0 : W0.heap[w.heap.size]? = some (.cells #[.int .i64 cm.k, .int .i64 cm.n, .slice cm.an cm.ln cm.cn, .slice cm.ak cm.lk cm.ck] 33 (0, 0)) := by rw [hW0, blk_if, if_neg (by simp), blk_if, if_pos rfl]
  have hr0 : W0.heap[w.heap.size + 1]? = some (.cells #[.int .i64 cr.k, .int .i64 cr.n, .slice cr.an cr.ln cr.cn, .slice cr.ak cr.lk cr.ck] 33 (0, 0)) := by rw [hW0, blk_if, if_pos (by simp)]
  have HW0 := Lib.hid hW0; have HB0 := Lib.hid hb0; have HS0 := Lib.hid hs0; have HR0 := Lib.hid hr0
  obtain ⟨is, his, js, ls, ms⟩ := info_parts infoS
  have HIs := Lib.hid his; have HJs := Lib.hid js; have HKs := Lib.hid ls; have HLs := Lib.hid ms
  clear hW0 hb0 hs0 hr0 his js ls ms
  go_enter Try.func4, Try.ntmps4
  go_upto_region 1 with fail
  rw [← HW0.out]
  go_upto_region 3 with (go_at_call 11; (with_reducible refine (known_any _).mono ?_); rintro e w1 ⟨rfl, x1⟩; have hz1 := x1.size; obtain ⟨⟨p0, p1, p2, p3⟩, _⟩ := four_blk ((x1.block w.heap.size (by omega)).trans HS0.out); have HX1 := Lib.hid x1; clear x1)
  have hb1 := HB0.out.trans (HX1.out.mono (by omega))
  have hr1 := (HX1.out.block (w.heap.size + 1) (by omega)).trans HR0.out
  have hs1 := (HX1.out.block w.heap.size (by omega)).trans HS0.out
  have HB1 := Lib.hid hb1; have HR1 := Lib.hid hr1; have HS1 := Lib.hid hs1
  clear hb1 hr1 hs1
  have CF : Calls Try.prog 12 #[.agg #[.int .i64 cm.k, .int .i64 cm.n, .slice cm.an cm.ln cm.cn, .slice cm.ak cm.lk cm.ck], .slice at1 types.length c1, .slice none 0 0] w1 _ := FewAll_any main types [] cm at1 none ut [] c1 0 w1 (HM.out.later HB1.out) (HT.out.up HB1.out) ⟨rfl, .inl rfl, fun i h => by cases h⟩ hl (by simp)
  obtain ⟨fa, hfa⟩ : ∃ fa, fewAllR main types [] = fa := ⟨_, rfl⟩
  rw [hfa] at CF
  have HCF := Lib.hid CF
  clear CF hfa
  cases fa
  · go_wp2_with (go_at_call 12; (with_reducible refine HCF.out.mono ?_); rintro e w2 ⟨rfl, x2⟩; have HX2 := Lib.hid x2; clear x2)
    go_ret
    exact ⟨rfl, HB1.out.trans (HX2.out.mono (by omega))⟩
  · have HFW : Hid (∀ W, Below w.heap.size w W → Calls Try.prog 19 #[.agg #[.int .i64 cr.k, .int .i64 cr.n, .slice cr.an cr.ln cr.cn, .slice cr.ak cr.lk cr.ck], .int .i64 40] W fun e w' => e = .returned (.int .i64 (fewR r 40)) ∧ Below W.heap.size W w') := fun W hW => Few_any r cr 40 W (HR.out.later hW) ⟨by decide, by decide⟩
    by_cases hf0 : fewR r 40 = 0
    · go_wp2_with (first | (go_at_call 12; (with_reducible refine HCF.out.mono ?_); rintro e w2 ⟨rfl, x2⟩; have hz2 := x2.size; obtain ⟨⟨m0, m1, m2, m3⟩, _⟩ := four_blk ((x2.block (w.heap.size + 1) (by omega)).trans HR1.out); have HS2 := Lib.hid ((x2.block w.heap.size (by omega)).trans HS1.out); have HR2 := Lib.hid ((x2.block (w.heap.size + 1) (by omega)).trans HR1.out); have HB2 := Lib.hid (HB1.out.trans (x2.mono (by omega))); clear x2) | (go_at_call 19; (with_reducible refine (HFW.out _ HB2.out).mono ?_); rintro e w3 ⟨rfl, x3⟩; have hz3 := x3.size; obtain ⟨⟨k0, k1, k2, k3⟩, _⟩ := four_blk ((x3.block w.heap.size (by omega)).trans HS2.out); have HR3 := Lib.hid ((x3.block (w.heap.size + 1) (by omega)).trans HR2.out); have HB3 := Lib.hid (HB2.out.trans (x3.mono (by omega))); clear x3))
      go_ret
      exact ⟨rfl, HB3.out⟩
    · have hfz : (fewR r 40 == 0) = false := by rw [beq_eq_false_iff_ne]; exact hf0
      obtain ⟨s, hs⟩ : ∃ s, schR main types [] = s := ⟨_, rfl⟩
      have hfs : SzFit s := by rw [← hs]; exact schR_fit _ _ _
      have hst : s.types.length ≤ 4 := by rw [← hs, schR_types]; omega
      have hsg : s.sigs.length ≤ 4 := by rw [← hs, schR_sigs]; omega
      have hnm : ∀ n ∈ s.types.map (·.1), n.length ≤ 100 := by
        rw [← hs]
        intro n hn
        obtain ⟨x, hx, rfl⟩ := List.mem_map.1 hn
        simp only [schR, ntR] at hx
        obtain ⟨q, hq, rfl⟩ := List.mem_map.1 hx
        have hq' : q < (namesR types).length := by simpa using hq
        dsimp only
        rw [List.getD, List.getElem?_eq_getElem hq']
        exact namesR_len100 types _ (List.getElem_mem hq')
      have HSC : Hid (∀ W, Below w.heap.size w W → Calls Try.prog 15 #[.agg #[.int .i64 cm.k, .int .i64 cm.n, .slice cm.an cm.ln cm.cn, .slice cm.ak cm.lk cm.ck], .slice at1 types.length c1, .slice none 0 0] W (SchP s W)) := fun W hW => by
        have := Schema_any main types [] cm at1 none ut [] c1 0 W (HM.out.later hW) (HT.out.up hW) ⟨rfl, .inl rfl, fun i h => by cases h⟩ hl (by simp)
        rw [hs] at this
        exact this
      have HFS := Lib.hid hfs; have HNM := Lib.hid hnm
      clear hs hfs hf0 hnm
      generalize fewR r 40 = fw at *
      go_upto_region 6 with (first | (go_at_call 12; (with_reducible refine HCF.out.mono ?_); rintro e w2 ⟨rfl, x2⟩; have hz2 := x2.size; obtain ⟨⟨m0, m1, m2, m3⟩, _⟩ := four_blk ((x2.block (w.heap.size + 1) (by omega)).trans HR1.out); have HS2 := Lib.hid ((x2.block w.heap.size (by omega)).trans HS1.out); have HR2 := Lib.hid ((x2.block (w.heap.size + 1) (by omega)).trans HR1.out); have HB2 := Lib.hid (HB1.out.trans (x2.mono (by omega))); clear x2) | (go_at_call 19; (with_reducible refine (HFW.out _ HB2.out).mono ?_); rintro e w3 ⟨rfl, x3⟩; have hz3 := x3.size; obtain ⟨⟨k0, k1, k2, k3⟩, _⟩ := four_blk ((x3.block w.heap.size (by omega)).trans HS2.out); have HR3 := Lib.hid ((x3.block (w.heap.size + 1) (by omega)).trans HR2.out); have HB3 := Lib.hid (HB2.out.trans (x3.mono (by omega))); clear x3) | (go_at_call 15; (with_reducible refine (HSC.out _ HB3.out).mono ?_); rintro e W2 ⟨c, a1, n1, us, a2, n2, gs, rfl, hso, x4⟩; have hz4 := x4.size; have HSO := Lib.hid hso; have HR4 := Lib.hid ((x4.block (w.heap.size + 1) (by omega)).trans HR3.out); have HB4 := Lib.hid (HB3.out.trans (x4.mono (by omega))); clear hso x4))
      obtain ⟨sb, hsb⟩ : ∃ sb, sb = W2.heap.size := ⟨_, rfl⟩
      obtain ⟨W3, hW3⟩ : ∃ W3, W3 = W2.alloc (.cells #[.int .i64 c.k, .string c.n, .slice c.an c.ln c.cn, .slice c.ak c.lk c.ck, .slice a1 s.types.length n1, .slice a2 s.sigs.length n2] 29) := ⟨_, rfl⟩
      have hz3' : W3.heap.size = W2.heap.size + 1 := by rw [hW3]; simp
      have hs3 : W3.heap[sb]? = some (.cells #[.int .i64 c.k, .string c.n, .slice c.an c.ln c.cn, .slice c.ak c.lk c.ck, .slice a1 s.types.length n1, .slice a2 s.sigs.length n2] 29 (0, 0)) := by rw [hW3, hsb]; exact heap_alloc_new W2 _
      have hb23 : Below W2.heap.size W2 W3 := by rw [hW3]; exact (Below.refl _ _).alloc (Nat.le_refl _) _
      have hr3 := (hb23.block (w.heap.size + 1) (by omega)).trans HR4.out
      rw [← hW3, ← hsb]
      have hsb1 : sb < W3.heap.size := by omega
      have hsb2 : W2.heap.size ≤ sb := by omega
      have hv2 := HSO.out.sz
      have CK := Check_ref (Any W2) s c a1 a2 us gs n1 n2 W3 (fun g hg => Nat.lt_of_lt_of_le hg hb23.size) (hv2.keep (fun g hg => hb23.block g hg)) (by omega) (by omega) HFS.out
      obtain ⟨⟨y0, y1, y2, y3, y4, y5⟩, _⟩ := six_blkF hs3
      obtain ⟨E, hE⟩ : ∃ E, refC s = E := ⟨_, rfl⟩
      rw [hE] at CK
      have hbw3 := HB4.out.trans (hb23.mono (by omega))
      have HR3o := Lib.hid hr3; have HS3o := Lib.hid hs3; have HB23o := Lib.hid hb23; have HV2 := Lib.hid hv2; have HCK := Lib.hid CK; have HE := Lib.hid hE; have HBW3 := Lib.hid hbw3
      clear hs3 hr3 hb23 hv2 CK hE hW3 hbw3 hsb
      obtain ⟨W3o, rfl⟩ : ∃ W3o, W3o = W3 := ⟨_, rfl⟩
      go_upto_region 7 with (go_at_call 17; (with_reducible refine HCK.out.mono ?_); rintro e W3 ⟨rfl, x5⟩; have hz5' := x5.size; have HX5 := Lib.hid x5; clear x5)
      by_cases hA : E = 0 ∨ E = 14 ∨ E = 17
      · have HTO := Lib.hid (told_of (s := s) (by rw [HE.out]; exact hA))
        go_cut [38] (fun s38 wx => s38 = .bool false ∧ W3 = wx)
        case first =>
          rcases hA with rfl | rfl | rfl
          · go_wp2
            go_meet
            exact ⟨rfl, rfl⟩
          · go_wp2
            go_meet
            exact ⟨rfl, rfl⟩
          · go_wp2
            go_meet
            exact ⟨rfl, rfl⟩
        case rest =>
          obtain ⟨rfl, rfl⟩ := hcut
          have HS3 := Lib.hid ((HX5.out.block sb (by omega)).trans HS3o.out)
          have HRT := Lib.hid ((HX5.out.block (w.heap.size + 1) (by omega)).trans HR3o.out)
          have HB23 := Lib.hid (HB23o.out.trans (HX5.out.mono (by omega)))
          have HBW := Lib.hid (HBW3.out.trans (HX5.out.mono (by have := HBW3.out.size; omega)))
          clear hA y0 y1 y2 y3 y4 y5
          go_wp2_with fail
          go_loopw [9, 10] (fun v9 v10 wr => ∃ i, FnN w W3 sb #[.int .i64 c.k, .string c.n, .slice c.an c.ln c.cn, .slice c.ak c.lk c.ck, .slice a1 s.types.length n1, .slice a2 s.sigs.length n2] s.types v9 v10 wr i) (fun _ v10 _ => s.types.length - (intOf v10).toNat)
          case atStart => exact ⟨0, rfl, Nat.zero_le _, World.ownsRow_nil _ _ _ _, HS3.out, Below.refl _ _⟩
          case round =>
            obtain ⟨i, h⟩ := hrel
            obtain rfl := h.slot
            have hle := h.le
            have hwz := h.below.size
            obtain ⟨⟨y0, y1, y2, y3, y4, y5⟩, _⟩ := six_blkF h.box
            obtain ⟨xa, xc, hx⟩ := own_sliceZ h.own
            subst hx
            have H := Lib.hid h
            clear h
            by_cases hil : i < s.types.length
            · have hiz : (i : Int) < (s.types.length : Int) := by omega
              have hi0 : (0 : Int) ≤ (i : Int) := by omega
              have hju : i < us.length := by rw [HV2.out.nt]; exact hil
              obtain ⟨gb, og, rfl, hg, hc⟩ := nam_at HV2.out.rt (fun _ h => h) i hju
              obtain ⟨hn, -⟩ := HV2.out.vt i hil hju
              rw [hn] at hc
              obtain ⟨q0, -, -, -, -⟩ := hc wr (fun j hj => (H.out.below.block j (by omega)).trans (HB23.out.block j hj))
              have hlen : ((s.types.take i).map (·.1)).length = i := by simp [Nat.min_eq_left hle]
              have htk := take_map_snoc (·.1) s.types i hil
              have hfn : fitZ (.mk 9 s.types[i].1 [] []) = true := by
                have := (HFS.out.types i hil).1
                rw [fitZ]; simp [fitZs, this]
              generalize s.types[i].1 = nm at *
              obtain ⟨f, hf⟩ : ∃ f, endsR (inR (finiteR s.types)) (.mk 9 nm [] []) = f := ⟨_, rfl⟩
              have hff : finiteZ s (.mk 9 nm [] []) = f := by rw [HTO.out.same (by simp [kindsR, kindsRs]) (by simp [sizeZ, sizeZs]), hf]
              have hfg : finiteZ s (.mk 7 [] [[120]] [.mk 9 nm [] []]) = f := by
                rw [HTO.out.same (by simp [kindsR, kindsRs]) (by simp [sizeZ, sizeZs]), endsR, if_pos rfl, endsAll, hf]
                cases f <;> simp [endsAll]
              have hf7 : fitZ (.mk 7 [] [[120]] [.mk 9 nm [] []]) = true := by rw [fitZ, fitZs, hfn]; simp [fitZs, maxLen]
              have HCN := Lib.hid hc; have HTK := Lib.hid htk; have HFN := Lib.hid hfn; have HRF := Lib.hid hf; have HFF := Lib.hid hff; have HFG := Lib.hid hfg; have HF7 := Lib.hid hf7
              clear hc htk hfn hf hff hfg hf7 hn
              go_upto_region 15 with (at_builtin; go_loud (refine Sh.wpList_append_fresh rfl _ _ 22 rfl W3.heap.size 9 is (.string ⟨#[]⟩) 1 16 Try.underlying22 HIs.out HJs.out HKs.out HLs.out rfl (by decide) _ _ _ rfl (H.out.own.alloc _) ⟨wr.heap.size, 0, none⟩ 1 1 [.string ⟨nm.toArray⟩] rfl rfl (cells_newZ _ _ _) (fun x hx => by simp at hx; subst hx; rfl) (by unfold maxLen; omega) (by omega) (by simp; omega) ?_); intro v' w5 hown' hgrow hfr; obtain ⟨ya, yc, rfl⟩ := own_sliceZ hown'; have hz5 := hgrow.size; simp at hz5; have hb5 := (H.out.below.alloc (by omega) (.cells #[.string ⟨nm.toArray⟩] 9)).trans (below_grown hgrow (fun g e => (H.out.own.lt g e).1) (by simp; omega)); obtain ⟨⟨m0, m1, m2, m3, m4, m5⟩, _⟩ := six_blkF ((hb5.block sb (by omega)).trans HS3.out); obtain ⟨l0, -, -, -, -⟩ := HCN.out w5 (fun i hi => (hb5.block i (by omega)).trans (HB23.out.block i hi)); have HOW := Lib.hid hown'; have HB5 := Lib.hid hb5; clear hown' hgrow hfr hb5)
              obtain ⟨W6, hW6⟩ : ∃ W6, W6 = w5.alloc (.cells #[.int .i64 9, .string ⟨nm.toArray⟩, .slice none 0 0, .slice none 0 0] 25) := ⟨_, rfl⟩
              obtain ⟨tb, htb⟩ : ∃ tb, tb = w5.heap.size := ⟨_, rfl⟩
              have hz6 : W6.heap.size = w5.heap.size + 1 := by rw [hW6]; simp
              have htb1 : tb < W6.heap.size := by omega
              have ht6 : W6.heap[tb]? = some (.cells #[.int .i64 9, .string ⟨nm.toArray⟩, .slice none 0 0, .slice none 0 0] 25 (0, 0)) := by rw [hW6, htb]; exact heap_alloc_new w5 _
              have hs6 : W6.heap[sb]? = some (.cells #[.int .i64 c.k, .string c.n, .slice c.an c.ln c.cn, .slice c.ak c.lk c.ck, .slice (some ⟨gb, og, none⟩) s.types.length n1, .slice a2 s.sigs.length n2] 29 (0, 0)) := by rw [hW6]; exact blk_allocZ ((HB5.out.block sb (by omega)).trans HS3.out) _
              have hb36 : Below W3.heap.size W3 W6 := by rw [hW6]; exact HB5.out.alloc (by omega) _
              have ho6 : W6.ownsRow W3.heap.size 9 1 (.slice ya (((s.types.take i).map (·.1)).length + 1) yc) (((s.types.take i).map (·.1)).length + 1) (nmF ((s.types.take i).map (·.1)) ++ [.string ⟨nm.toArray⟩]) := by rw [hW6]; exact HOW.out.alloc _
              rw [← hW6, ← htb]
              have HT6 := Lib.hid ht6; have HS6 := Lib.hid hs6; have HB36 := Lib.hid hb36; have HO6 := Lib.hid ho6
              have HB26 := Lib.hid (HB23.out.trans (hb36.mono (by omega)))
              clear ht6 hs6 hb36 ho6 hW6 htb HOW HB5
              refine wp_region_by (QJ (fun (x : Nat × Nat) i => match i with | 0 => .agg #[.int .i64 c.k, .string c.n, .slice c.an c.ln c.cn, .slice c.ak c.lk c.ck, .slice (some ⟨gb, og, none⟩) s.types.length n1, .slice a2 s.sigs.length n2] | 1 => .agg #[.int .i64 9, .string ⟨nm.toArray⟩, .slice none 0 0, .slice none 0 0] | 2 => .bool f | 3 => .agg #[.int .i64 c.k, .string c.n, .slice c.an c.ln c.cn, .slice c.ak c.lk c.ck, .slice (some ⟨gb, og, none⟩) s.types.length n1, .slice a2 s.sigs.length n2] | 4 => .agg #[.int .i64 9, .string ⟨nm.toArray⟩, .slice none 0 0, .slice none 0 0] | 5 => .bool f | 6 => .bool false | 7 => .bool false | 8 => .agg #[.int .i64 c.k, .string c.n, .slice c.an c.ln c.cn, .slice c.ak c.lk c.ck, .slice (some ⟨gb, og, none⟩) s.types.length n1, .slice a2 s.sigs.length n2] | 9 => .slice (some ⟨x.1, 0, none⟩) 1 1 | 10 => .agg #[.int .i64 9, .string ⟨nm.toArray⟩, .slice none 0 0, .slice none 0 0] | 11 => .slice (some ⟨x.2, 0, none⟩) 1 1 | 12 => .agg #[.int .i64 7, .string ⟨#[]⟩, .slice (some ⟨x.1, 0, none⟩) 1 1, .slice (some ⟨x.2, 0, none⟩) 1 1] | 13 => .bool f | 14 => .agg #[.int .i64 c.k, .string c.n, .slice c.an c.ln c.cn, .slice c.ak c.lk c.ck, .slice (some ⟨gb, og, none⟩) s.types.length n1, .slice a2 s.sigs.length n2] | 15 => .agg #[.int .i64 9, .string ⟨nm.toArray⟩, .slice none 0 0, .slice none 0 0] | 16 => .bool f | 17 => .bool false | 18 => .bool false | _ => undef) (fun x listed v => Below W6.heap.size W6 v ∧ (listed.getD 9 false = true → v.heap[x.1]? = some (.cells #[.string ⟨#[120]⟩] 9 (0, 0))) ∧ (listed.getD 11 false = true → v.heap[x.2]? = some (.cells #[.int .i64 9, .string ⟨nm.toArray⟩, .slice none 0 0, .slice none 0 0] 25 (0, 0))))) (by kernel_rfl) ?_ ?_ ?_
              · exact ⟨by simp, Closed.start _, (0, 0), Fr.start _ _ _, Below.drew (Below.refl _ _), (fun h => by simp at h), (fun h => by simp at h)⟩
              · intro listed b v q hJ hi
                obtain ⟨hsz, hC, x, hF, hM⟩ := hJ
                obtain ⟨hl1, hiN⟩ := not_up hsz hi
                obtain ⟨_, o, ho, hdeps⟩ := mem_ready.1 hi
                have hiN : q < 19 := hiN
                obtain rfl | rfl | rfl | rfl | rfl | rfl | rfl | rfl | rfl | rfl | rfl | rfl | rfl | rfl | rfl | rfl | rfl | rfl | rfl : q = 0 ∨ q = 1 ∨ q = 2 ∨ q = 3 ∨ q = 4 ∨ q = 5 ∨ q = 6 ∨ q = 7 ∨ q = 8 ∨ q = 9 ∨ q = 10 ∨ q = 11 ∨ q = 12 ∨ q = 13 ∨ q = 14 ∨ q = 15 ∨ q = 16 ∨ q = 17 ∨ q = 18 := by omega
                · cases ho
                  obtain ⟨⟨y0, y1, y2, y3, y4, y5⟩, _⟩ := six_blkF ((hM.1.block sb (by omega)).trans HS6.out)
                  have e7 := hF.old_is 7 (by rfl) rfl
                  refine QJ.quiet (x := x) hsz hC hi hF (Slots.of (by rfl)) rfl (wanted_none rfl) ⟨hM.1, fun h => hM.2.1 (by rw [getD_setN (show 0 ≠ 9 by decide)] at h; exact h), fun h => hM.2.2 (by rw [getD_setN (show 0 ≠ 11 by decide)] at h; exact h)⟩ ?_
                  show _ = Result.ok (Next.value (.agg #[.int .i64 c.k, .string c.n, .slice c.an c.ln c.cn, .slice c.ak c.lk c.ck, .slice (some ⟨gb, og, none⟩) s.types.length n1, .slice a2 s.sigs.length n2])) v
                  simp [execOp, go_sem, e7, y0, y1, y2, y3, y4, y5]
                · cases ho
                  obtain ⟨⟨y0, y1, y2, y3⟩, _⟩ := four_blk ((hM.1.block tb (by omega)).trans HT6.out)
                  have e11 := hF.old_is 11 (by rfl) rfl
                  refine QJ.quiet (x := x) hsz hC hi hF (Slots.of (by rfl)) rfl (wanted_none rfl) ⟨hM.1, fun h => hM.2.1 (by rw [getD_setN (show 1 ≠ 9 by decide)] at h; exact h), fun h => hM.2.2 (by rw [getD_setN (show 1 ≠ 11 by decide)] at h; exact h)⟩ ?_
                  show _ = Result.ok (Next.value (.agg #[.int .i64 9, .string ⟨nm.toArray⟩, .slice none 0 0, .slice none 0 0])) v
                  simp [execOp, go_sem, e11, y0, y1, y2, y3]
                · cases ho
                  have e62 : b.tmps[62]? = some (.agg #[.int .i64 c.k, .string c.n, .slice c.an c.ln c.cn, .slice c.ak c.lk c.ck, .slice (some ⟨gb, og, none⟩) s.types.length n1, .slice a2 s.sigs.length n2]) := hF.up 0 62 rfl (hdeps ⟨0, .data⟩ (by simp) rfl)
                  have e63 : b.tmps[63]? = some (.agg #[.int .i64 9, .string ⟨nm.toArray⟩, .slice none 0 0, .slice none 0 0]) := hF.up 1 63 rfl (hdeps ⟨1, .data⟩ (by simp) rfl)
                  refine QJ.call (x := x) (f := 20) (args := #[.agg #[.int .i64 c.k, .string c.n, .slice c.an c.ln c.cn, .slice c.ak c.lk c.ck, .slice (some ⟨gb, og, none⟩) s.types.length n1, .slice a2 s.sigs.length n2], .agg #[.int .i64 9, .string ⟨nm.toArray⟩, .slice none 0 0, .slice none 0 0]]) hsz hC hi hF (Slots.of (by rfl)) rfl (wanted_none rfl) (by simp [execOp, go_sem, e62, e63]) (Finite_any (Any v) s (.mk 9 nm [] []) ⟨9, ⟨nm.toArray⟩, none, 0, 0, none, 0, 0⟩ c (some ⟨gb, og, none⟩) a2 us gs n1 n2 v (fun _ h => h) HFS.out HFN.out (by omega) ((SzS.mk (fun _ h => h) HV2.out : SzS (Any W2) W2 s c (some ⟨gb, og, none⟩) a2 us gs).anyB (HB26.out.trans (hM.1.mono (by omega)))) (TzV.leaf v (Any v) 9 nm)) ?_
                  rintro e w' ⟨rfl, hb⟩
                  exact ⟨x, congrArg (fun b => Ending.returned (.bool b)) HFF.out, fun _ _ => rfl, ⟨hM.1.trans (hb.mono hM.1.size), fun h => (hb.block _ (Array.getElem?_eq_some_iff.1 (hM.2.1 (by rw [getD_setN (show 2 ≠ 9 by decide)] at h; exact h))).1).trans (hM.2.1 (by rw [getD_setN (show 2 ≠ 9 by decide)] at h; exact h)), fun h => (hb.block _ (Array.getElem?_eq_some_iff.1 (hM.2.2 (by rw [getD_setN (show 2 ≠ 11 by decide)] at h; exact h))).1).trans (hM.2.2 (by rw [getD_setN (show 2 ≠ 11 by decide)] at h; exact h))⟩⟩
                · cases ho
                  obtain ⟨⟨y0, y1, y2, y3, y4, y5⟩, _⟩ := six_blkF ((hM.1.block sb (by omega)).trans HS6.out)
                  have e7 := hF.old_is 7 (by rfl) rfl
                  refine QJ.quiet (x := x) hsz hC hi hF (Slots.of (by rfl)) rfl (wanted_none rfl) ⟨hM.1, fun h => hM.2.1 (by rw [getD_setN (show 3 ≠ 9 by decide)] at h; exact h), fun h => hM.2.2 (by rw [getD_setN (show 3 ≠ 11 by decide)] at h; exact h)⟩ ?_
                  show _ = Result.ok (Next.value (.agg #[.int .i64 c.k, .string c.n, .slice c.an c.ln c.cn, .slice c.ak c.lk c.ck, .slice (some ⟨gb, og, none⟩) s.types.length n1, .slice a2 s.sigs.length n2])) v
                  simp [execOp, go_sem, e7, y0, y1, y2, y3, y4, y5]
                · cases ho
                  obtain ⟨⟨y0, y1, y2, y3⟩, _⟩ := four_blk ((hM.1.block tb (by omega)).trans HT6.out)
                  have e11 := hF.old_is 11 (by rfl) rfl
                  refine QJ.quiet (x := x) hsz hC hi hF (Slots.of (by rfl)) rfl (wanted_none rfl) ⟨hM.1, fun h => hM.2.1 (by rw [getD_setN (show 4 ≠ 9 by decide)] at h; exact h), fun h => hM.2.2 (by rw [getD_setN (show 4 ≠ 11 by decide)] at h; exact h)⟩ ?_
                  show _ = Result.ok (Next.value (.agg #[.int .i64 9, .string ⟨nm.toArray⟩, .slice none 0 0, .slice none 0 0])) v
                  simp [execOp, go_sem, e11, y0, y1, y2, y3]
                · cases ho
                  have e65 : b.tmps[65]? = some (.agg #[.int .i64 c.k, .string c.n, .slice c.an c.ln c.cn, .slice c.ak c.lk c.ck, .slice (some ⟨gb, og, none⟩) s.types.length n1, .slice a2 s.sigs.length n2]) := hF.up 3 65 rfl (hdeps ⟨3, .data⟩ (by simp) rfl)
                  have e66 : b.tmps[66]? = some (.agg #[.int .i64 9, .string ⟨nm.toArray⟩, .slice none 0 0, .slice none 0 0]) := hF.up 4 66 rfl (hdeps ⟨4, .data⟩ (by simp) rfl)
                  refine QJ.call (x := x) (f := 21) (args := #[.agg #[.int .i64 c.k, .string c.n, .slice c.an c.ln c.cn, .slice c.ak c.lk c.ck, .slice (some ⟨gb, og, none⟩) s.types.length n1, .slice a2 s.sigs.length n2], .agg #[.int .i64 9, .string ⟨nm.toArray⟩, .slice none 0 0, .slice none 0 0]]) hsz hC hi hF (Slots.of (by rfl)) rfl (wanted_none rfl) (by simp [execOp, go_sem, e65, e66]) (Finite_ref s (.mk 9 nm [] []) ⟨9, ⟨nm.toArray⟩, none, 0, 0, none, 0, 0⟩ c (some ⟨gb, og, none⟩) a2 us gs n1 n2 v ((SzS.mk (fun _ h => h) HV2.out : SzS (Any W2) W2 s c (some ⟨gb, og, none⟩) a2 us gs).anyB (HB26.out.trans (hM.1.mono (by omega)))) (TzV.leaf v (Any v) 9 nm) (by omega) HFS.out HFN.out) ?_
                  rintro e w' ⟨rfl, hb⟩
                  exact ⟨x, congrArg (fun b => Ending.returned (.bool b)) HRF.out, fun _ _ => rfl, ⟨hM.1.trans (hb.mono hM.1.size), fun h => (hb.block _ (Array.getElem?_eq_some_iff.1 (hM.2.1 (by rw [getD_setN (show 5 ≠ 9 by decide)] at h; exact h))).1).trans (hM.2.1 (by rw [getD_setN (show 5 ≠ 9 by decide)] at h; exact h)), fun h => (hb.block _ (Array.getElem?_eq_some_iff.1 (hM.2.2 (by rw [getD_setN (show 5 ≠ 11 by decide)] at h; exact h))).1).trans (hM.2.2 (by rw [getD_setN (show 5 ≠ 11 by decide)] at h; exact h))⟩⟩
                · cases ho
                  have e64 : b.tmps[64]? = some (.bool f) := hF.up 2 64 rfl (hdeps ⟨2, .data⟩ (by simp) rfl)
                  have e67 : b.tmps[67]? = some (.bool f) := hF.up 5 67 rfl (hdeps ⟨5, .data⟩ (by simp) rfl)
                  refine QJ.quiet (x := x) hsz hC hi hF (Slots.of (by rfl)) rfl (wanted_none rfl) ⟨hM.1, fun h => hM.2.1 (by rw [getD_setN (show 6 ≠ 9 by decide)] at h; exact h), fun h => hM.2.2 (by rw [getD_setN (show 6 ≠ 11 by decide)] at h; exact h)⟩ ?_
                  show _ = Result.ok (Next.value (.bool false)) v
                  simp [execOp, go_sem, e64, e67]
                · cases ho
                  have e68 : b.tmps[68]? = some (.bool false) := hF.up 6 68 rfl (hdeps ⟨6, .data⟩ (by simp) rfl)
                  refine QJ.quiet (x := x) hsz hC hi hF (Slots.of (by rfl)) rfl (wanted_none rfl) ⟨hM.1, fun h => hM.2.1 (by rw [getD_setN (show 7 ≠ 9 by decide)] at h; exact h), fun h => hM.2.2 (by rw [getD_setN (show 7 ≠ 11 by decide)] at h; exact h)⟩ ?_
                  show _ = Result.ok (Next.value (.bool false)) v
                  simp [execOp, go_sem, e68]
                · cases ho
                  obtain ⟨⟨y0, y1, y2, y3, y4, y5⟩, _⟩ := six_blkF ((hM.1.block sb (by omega)).trans HS6.out)
                  have e7 := hF.old_is 7 (by rfl) rfl
                  refine QJ.quiet (x := x) hsz hC hi hF (Slots.of (by rfl)) rfl ((wanted_of rfl rfl (show b.tmps[69]? = some (.bool false) from hF.up 7 69 rfl (hdeps ⟨7, .guard⟩ (by simp) rfl))).trans (by rfl)) ⟨hM.1, fun h => hM.2.1 (by rw [getD_setN (show 8 ≠ 9 by decide)] at h; exact h), fun h => hM.2.2 (by rw [getD_setN (show 8 ≠ 11 by decide)] at h; exact h)⟩ ?_
                  show _ = Result.ok (Next.value (.agg #[.int .i64 c.k, .string c.n, .slice c.an c.ln c.cn, .slice c.ak c.lk c.ck, .slice (some ⟨gb, og, none⟩) s.types.length n1, .slice a2 s.sigs.length n2])) v
                  simp [execOp, go_sem, e7, y0, y1, y2, y3, y4, y5]
                · cases ho
                  have l12 : listed.getD 12 false = false := by
                    cases hh : listed.getD 12 false
                    · rfl
                    · have y0 := hC 12 _ rfl hh ⟨9, .data⟩ (by simp) rfl; rw [hl1] at y0; cases y0
                  refine QJ.make (v' := v.alloc (.cells #[.string ⟨#[120]⟩] 9)) (x := x) (x' := (v.heap.size, x.2)) hsz hC hi hF (Slots.of (by rfl)) rfl ((wanted_of rfl rfl (show b.tmps[69]? = some (.bool false) from hF.up 7 69 rfl (hdeps ⟨7, .guard⟩ (by simp) rfl))).trans (by rfl)) (fun q hq => match q, (show q ≠ 9 by rintro rfl; rw [hl1] at hq; cases hq), (show q ≠ 12 by rintro rfl; rw [l12] at hq; cases hq) with | 0, h1, h2 => rfl | 1, h1, h2 => rfl | 2, h1, h2 => rfl | 3, h1, h2 => rfl | 4, h1, h2 => rfl | 5, h1, h2 => rfl | 6, h1, h2 => rfl | 7, h1, h2 => rfl | 8, h1, h2 => rfl | 9, h1, h2 => absurd rfl h1 | 10, h1, h2 => rfl | 11, h1, h2 => rfl | 12, h1, h2 => absurd rfl h2 | 13, h1, h2 => rfl | 14, h1, h2 => rfl | 15, h1, h2 => rfl | 16, h1, h2 => rfl | 17, h1, h2 => rfl | 18, h1, h2 => rfl | _ + 19, _, _ => rfl) ⟨hM.1.alloc hM.1.size _, fun _ => heap_alloc_new v _, fun h => (Below.heap_alloc _ _ _ (Array.getElem?_eq_some_iff.1 (hM.2.2 (by rw [getD_setN (show 9 ≠ 11 by decide)] at h; exact h))).1).trans (hM.2.2 (by rw [getD_setN (show 9 ≠ 11 by decide)] at h; exact h))⟩ ?_
                  simp [execOp, go_sem]
                · cases ho
                  obtain ⟨⟨y0, y1, y2, y3⟩, _⟩ := four_blk ((hM.1.block tb (by omega)).trans HT6.out)
                  have e11 := hF.old_is 11 (by rfl) rfl
                  refine QJ.quiet (x := x) hsz hC hi hF (Slots.of (by rfl)) rfl ((wanted_of rfl rfl (show b.tmps[69]? = some (.bool false) from hF.up 7 69 rfl (hdeps ⟨7, .guard⟩ (by simp) rfl))).trans (by rfl)) ⟨hM.1, fun h => hM.2.1 (by rw [getD_setN (show 10 ≠ 9 by decide)] at h; exact h), fun h => hM.2.2 (by rw [getD_setN (show 10 ≠ 11 by decide)] at h; exact h)⟩ ?_
                  show _ = Result.ok (Next.value (.agg #[.int .i64 9, .string ⟨nm.toArray⟩, .slice none 0 0, .slice none 0 0])) v
                  simp [execOp, go_sem, e11, y0, y1, y2, y3]
                · cases ho
                  have e72 : b.tmps[72]? = some (.agg #[.int .i64 9, .string ⟨nm.toArray⟩, .slice none 0 0, .slice none 0 0]) := hF.up 10 72 rfl (hdeps ⟨10, .data⟩ (by simp) rfl)
                  have l12 : listed.getD 12 false = false := by
                    cases hh : listed.getD 12 false
                    · rfl
                    · have y0 := hC 12 _ rfl hh ⟨11, .data⟩ (by simp) rfl; rw [hl1] at y0; cases y0
                  refine QJ.make (v' := v.alloc (.cells #[.int .i64 9, .string ⟨nm.toArray⟩, .slice none 0 0, .slice none 0 0] 25)) (x := x) (x' := (x.1, v.heap.size)) hsz hC hi hF (Slots.of (by rfl)) rfl ((wanted_of rfl rfl (show b.tmps[69]? = some (.bool false) from hF.up 7 69 rfl (hdeps ⟨7, .guard⟩ (by simp) rfl))).trans (by rfl)) (fun q hq => match q, (show q ≠ 11 by rintro rfl; rw [hl1] at hq; cases hq), (show q ≠ 12 by rintro rfl; rw [l12] at hq; cases hq) with | 0, h1, h2 => rfl | 1, h1, h2 => rfl | 2, h1, h2 => rfl | 3, h1, h2 => rfl | 4, h1, h2 => rfl | 5, h1, h2 => rfl | 6, h1, h2 => rfl | 7, h1, h2 => rfl | 8, h1, h2 => rfl | 9, h1, h2 => rfl | 10, h1, h2 => rfl | 11, h1, h2 => absurd rfl h1 | 12, h1, h2 => absurd rfl h2 | 13, h1, h2 => rfl | 14, h1, h2 => rfl | 15, h1, h2 => rfl | 16, h1, h2 => rfl | 17, h1, h2 => rfl | 18, h1, h2 => rfl | _ + 19, _, _ => rfl) ⟨hM.1.alloc hM.1.size _, fun h => (Below.heap_alloc _ _ _ (Array.getElem?_eq_some_iff.1 (hM.2.1 (by rw [getD_setN (show 11 ≠ 9 by decide)] at h; exact h))).1).trans (hM.2.1 (by rw [getD_setN (show 11 ≠ 9 by decide)] at h; exact h)), fun _ => heap_alloc_new v _⟩ ?_
                  simp [execOp, go_sem, e72]
                · cases ho
                  have e71 : b.tmps[71]? = some (.slice (some ⟨x.1, 0, none⟩) 1 1) := hF.up 9 71 rfl (hdeps ⟨9, .data⟩ (by simp) rfl)
                  have e73 : b.tmps[73]? = some (.slice (some ⟨x.2, 0, none⟩) 1 1) := hF.up 11 73 rfl (hdeps ⟨11, .data⟩ (by simp) rfl)
                  refine QJ.quiet (x := x) hsz hC hi hF (Slots.of (by rfl)) rfl ((wanted_of rfl rfl (show b.tmps[69]? = some (.bool false) from hF.up 7 69 rfl (hdeps ⟨7, .guard⟩ (by simp) rfl))).trans (by rfl)) ⟨hM.1, fun h => hM.2.1 (by rw [getD_setN (show 12 ≠ 9 by decide)] at h; exact h), fun h => hM.2.2 (by rw [getD_setN (show 12 ≠ 11 by decide)] at h; exact h)⟩ ?_
                  show _ = Result.ok (Next.value (.agg #[.int .i64 7, .string ⟨#[]⟩, .slice (some ⟨x.1, 0, none⟩) 1 1, .slice (some ⟨x.2, 0, none⟩) 1 1])) v
                  simp [execOp, go_sem, e71, e73]
                · cases ho
                  have u9_0 := hdeps ⟨12, .data⟩ (by simp) rfl
                  have l9 := hC 12 _ rfl u9_0 ⟨9, .data⟩ (by simp) rfl
                  have u11_0 := hdeps ⟨12, .data⟩ (by simp) rfl
                  have l11 := hC 12 _ rfl u11_0 ⟨11, .data⟩ (by simp) rfl
                  have e70 : b.tmps[70]? = some (.agg #[.int .i64 c.k, .string c.n, .slice c.an c.ln c.cn, .slice c.ak c.lk c.ck, .slice (some ⟨gb, og, none⟩) s.types.length n1, .slice a2 s.sigs.length n2]) := hF.up 8 70 rfl (hdeps ⟨8, .data⟩ (by simp) rfl)
                  have e74 : b.tmps[74]? = some (.agg #[.int .i64 7, .string ⟨#[]⟩, .slice (some ⟨x.1, 0, none⟩) 1 1, .slice (some ⟨x.2, 0, none⟩) 1 1]) := hF.up 12 74 rfl (hdeps ⟨12, .data⟩ (by simp) rfl)
                  refine QJ.call (x := x) (f := 20) (args := #[.agg #[.int .i64 c.k, .string c.n, .slice c.an c.ln c.cn, .slice c.ak c.lk c.ck, .slice (some ⟨gb, og, none⟩) s.types.length n1, .slice a2 s.sigs.length n2], .agg #[.int .i64 7, .string ⟨#[]⟩, .slice (some ⟨x.1, 0, none⟩) 1 1, .slice (some ⟨x.2, 0, none⟩) 1 1]]) hsz hC hi hF (Slots.of (by rfl)) rfl ((wanted_of rfl rfl (show b.tmps[69]? = some (.bool false) from hF.up 7 69 rfl (hdeps ⟨7, .guard⟩ (by simp) rfl))).trans (by rfl)) (by simp [execOp, go_sem, e70, e74]) (Finite_any (Any v) s (.mk 7 [] [[120]] [.mk 9 nm [] []]) ⟨7, ⟨#[]⟩, some ⟨x.1, 0, none⟩, 1, 1, some ⟨x.2, 0, none⟩, 1, 1⟩ c (some ⟨gb, og, none⟩) a2 us gs n1 n2 v (fun _ h => h) HFS.out HF7.out (by omega) ((SzS.mk (fun _ h => h) HV2.out : SzS (Any W2) W2 s c (some ⟨gb, og, none⟩) a2 us gs).anyB (HB26.out.trans (hM.1.mono (by omega)))) (TzV.fld 7 [120] (hM.2.1 l9) (hM.2.2 l11) (TzV.leaf v (Any v) 9 nm))) ?_
                  rintro e w' ⟨rfl, hb⟩
                  exact ⟨x, congrArg (fun b => Ending.returned (.bool b)) HFG.out, fun _ _ => rfl, ⟨hM.1.trans (hb.mono hM.1.size), fun h => (hb.block _ (Array.getElem?_eq_some_iff.1 (hM.2.1 (by rw [getD_setN (show 13 ≠ 9 by decide)] at h; exact h))).1).trans (hM.2.1 (by rw [getD_setN (show 13 ≠ 9 by decide)] at h; exact h)), fun h => (hb.block _ (Array.getElem?_eq_some_iff.1 (hM.2.2 (by rw [getD_setN (show 13 ≠ 11 by decide)] at h; exact h))).1).trans (hM.2.2 (by rw [getD_setN (show 13 ≠ 11 by decide)] at h; exact h))⟩⟩
                · cases ho
                  obtain ⟨⟨y0, y1, y2, y3, y4, y5⟩, _⟩ := six_blkF ((hM.1.block sb (by omega)).trans HS6.out)
                  have e7 := hF.old_is 7 (by rfl) rfl
                  refine QJ.quiet (x := x) hsz hC hi hF (Slots.of (by rfl)) rfl ((wanted_of rfl rfl (show b.tmps[69]? = some (.bool false) from hF.up 7 69 rfl (hdeps ⟨7, .guard⟩ (by simp) rfl))).trans (by rfl)) ⟨hM.1, fun h => hM.2.1 (by rw [getD_setN (show 14 ≠ 9 by decide)] at h; exact h), fun h => hM.2.2 (by rw [getD_setN (show 14 ≠ 11 by decide)] at h; exact h)⟩ ?_
                  show _ = Result.ok (Next.value (.agg #[.int .i64 c.k, .string c.n, .slice c.an c.ln c.cn, .slice c.ak c.lk c.ck, .slice (some ⟨gb, og, none⟩) s.types.length n1, .slice a2 s.sigs.length n2])) v
                  simp [execOp, go_sem, e7, y0, y1, y2, y3, y4, y5]
                · cases ho
                  obtain ⟨⟨y0, y1, y2, y3⟩, _⟩ := four_blk ((hM.1.block tb (by omega)).trans HT6.out)
                  have e11 := hF.old_is 11 (by rfl) rfl
                  refine QJ.quiet (x := x) hsz hC hi hF (Slots.of (by rfl)) rfl ((wanted_of rfl rfl (show b.tmps[69]? = some (.bool false) from hF.up 7 69 rfl (hdeps ⟨7, .guard⟩ (by simp) rfl))).trans (by rfl)) ⟨hM.1, fun h => hM.2.1 (by rw [getD_setN (show 15 ≠ 9 by decide)] at h; exact h), fun h => hM.2.2 (by rw [getD_setN (show 15 ≠ 11 by decide)] at h; exact h)⟩ ?_
                  show _ = Result.ok (Next.value (.agg #[.int .i64 9, .string ⟨nm.toArray⟩, .slice none 0 0, .slice none 0 0])) v
                  simp [execOp, go_sem, e11, y0, y1, y2, y3]
                · cases ho
                  have e76 : b.tmps[76]? = some (.agg #[.int .i64 c.k, .string c.n, .slice c.an c.ln c.cn, .slice c.ak c.lk c.ck, .slice (some ⟨gb, og, none⟩) s.types.length n1, .slice a2 s.sigs.length n2]) := hF.up 14 76 rfl (hdeps ⟨14, .data⟩ (by simp) rfl)
                  have e77 : b.tmps[77]? = some (.agg #[.int .i64 9, .string ⟨nm.toArray⟩, .slice none 0 0, .slice none 0 0]) := hF.up 15 77 rfl (hdeps ⟨15, .data⟩ (by simp) rfl)
                  refine QJ.call (x := x) (f := 21) (args := #[.agg #[.int .i64 c.k, .string c.n, .slice c.an c.ln c.cn, .slice c.ak c.lk c.ck, .slice (some ⟨gb, og, none⟩) s.types.length n1, .slice a2 s.sigs.length n2], .agg #[.int .i64 9, .string ⟨nm.toArray⟩, .slice none 0 0, .slice none 0 0]]) hsz hC hi hF (Slots.of (by rfl)) rfl ((wanted_of rfl rfl (show b.tmps[69]? = some (.bool false) from hF.up 7 69 rfl (hdeps ⟨7, .guard⟩ (by simp) rfl))).trans (by rfl)) (by simp [execOp, go_sem, e76, e77]) (Finite_ref s (.mk 9 nm [] []) ⟨9, ⟨nm.toArray⟩, none, 0, 0, none, 0, 0⟩ c (some ⟨gb, og, none⟩) a2 us gs n1 n2 v ((SzS.mk (fun _ h => h) HV2.out : SzS (Any W2) W2 s c (some ⟨gb, og, none⟩) a2 us gs).anyB (HB26.out.trans (hM.1.mono (by omega)))) (TzV.leaf v (Any v) 9 nm) (by omega) HFS.out HFN.out) ?_
                  rintro e w' ⟨rfl, hb⟩
                  exact ⟨x, congrArg (fun b => Ending.returned (.bool b)) HRF.out, fun _ _ => rfl, ⟨hM.1.trans (hb.mono hM.1.size), fun h => (hb.block _ (Array.getElem?_eq_some_iff.1 (hM.2.1 (by rw [getD_setN (show 16 ≠ 9 by decide)] at h; exact h))).1).trans (hM.2.1 (by rw [getD_setN (show 16 ≠ 9 by decide)] at h; exact h)), fun h => (hb.block _ (Array.getElem?_eq_some_iff.1 (hM.2.2 (by rw [getD_setN (show 16 ≠ 11 by decide)] at h; exact h))).1).trans (hM.2.2 (by rw [getD_setN (show 16 ≠ 11 by decide)] at h; exact h))⟩⟩
                · cases ho
                  have e75 : b.tmps[75]? = some (.bool f) := hF.up 13 75 rfl (hdeps ⟨13, .data⟩ (by simp) rfl)
                  have e78 : b.tmps[78]? = some (.bool f) := hF.up 16 78 rfl (hdeps ⟨16, .data⟩ (by simp) rfl)
                  refine QJ.quiet (x := x) hsz hC hi hF (Slots.of (by rfl)) rfl ((wanted_of rfl rfl (show b.tmps[69]? = some (.bool false) from hF.up 7 69 rfl (hdeps ⟨7, .guard⟩ (by simp) rfl))).trans (by rfl)) ⟨hM.1, fun h => hM.2.1 (by rw [getD_setN (show 17 ≠ 9 by decide)] at h; exact h), fun h => hM.2.2 (by rw [getD_setN (show 17 ≠ 11 by decide)] at h; exact h)⟩ ?_
                  show _ = Result.ok (Next.value (.bool false)) v
                  simp [execOp, go_sem, e75, e78]
                · cases ho
                  have e69 : b.tmps[69]? = some (.bool false) := hF.up 7 69 rfl (hdeps ⟨7, .data⟩ (by simp) rfl)
                  have e79 : b.tmps[79]? = some (.bool false) := hF.up 17 79 rfl (hdeps ⟨17, .data⟩ (by simp) rfl)
                  refine QJ.quiet (x := x) hsz hC hi hF (Slots.of (by rfl)) rfl (wanted_none rfl) ⟨hM.1, fun h => hM.2.1 (by rw [getD_setN (show 18 ≠ 9 by decide)] at h; exact h), fun h => hM.2.2 (by rw [getD_setN (show 18 ≠ 11 by decide)] at h; exact h)⟩ ?_
                  show _ = Result.ok (Next.value (.bool false)) v
                  simp [execOp, go_sem, e69, e79]
              · intro listed b W7 hJ hr
                obtain ⟨hsz, hC, x, hF, hM, -, -⟩ := hJ
                have hall := all_upB (by rfl) hsz hr
                have hb : b = putAll _ _ _ 19 := hF.done (Slots.of (by rfl)) hall
                subst hb
                simp only [putAll]
                simp [dstOf, Act.put]
                have hb7 := HB36.out.trans (hM.mono (by omega))
                have hs7 := (hM.block sb (by omega)).trans HS6.out
                have ho7 := own_kp HO6.out (Nat.le_refl _) (fun g e => hM.block g (HO6.out.lt g e).2)
                have HB7 := Lib.hid hb7; have HS7 := Lib.hid hs7; have HO7 := Lib.hid ho7
                clear hM hF hC hall hr hsz hb7 hs7 ho7
                go_wp2
                go_roundw
                case rel =>
                  have ho := HO7.out
                  rw [nmF_snoc, ← HTK.out] at ho
                  exact ⟨i + 1, by go_num, by omega, by simpa [Nat.min_eq_left hle, Nat.min_eq_left (show i + 1 ≤ s.types.length by omega)] using ho, HS7.out, HB7.out⟩
                case measure => simp [intOf]; omega
            · have hiz : ¬ (i : Int) < (s.types.length : Int) := by omega
              have hin : i = s.types.length := by omega
              obtain ⟨names, hnames⟩ : ∃ names, names = s.types.map (·.1) := ⟨_, rfl⟩
              have hlen : ((s.types.take i).map (·.1)).length = names.length := by rw [hin, List.take_length, hnames]
              have hown : wr.ownsRow W3.heap.size 9 1 (.slice xa names.length xc) names.length (nmF names) := by
                have h := H.out.own
                rw [hlen, hin, List.take_length, ← hnames] at h
                exact h
              have hn12 : names.length ≤ 4 := by rw [hnames, List.length_map]; exact hst
              have hn100 : ∀ n ∈ names, n.length ≤ 100 := by rw [hnames]; exact HNM.out
              have hbw := HBW.out.trans (H.out.below.mono (by have := HBW.out.size; omega))
              have hr8 := (H.out.below.block (w.heap.size + 1) (by omega)).trans HRT.out
              obtain ⟨⟨r0, r1, r2, r3⟩, _⟩ := four_blk hr8
              obtain ⟨xa', xc', hxx, hrow⟩ := RowV.own (l := names.map fun n => [str n]) (S := Any wr) hown (str1_len names) (by simp) (fun g e => (hown.lt g e).2)
              cases hxx
              obtain ⟨tr, htr⟩ : ∃ tr, treeR names 5 r = tr := ⟨_, rfl⟩
              have CT : Calls Try.prog 22 #[.agg #[.int .i64 cr.k, .int .i64 cr.n, .slice cr.an cr.ln cr.cn, .slice cr.ak cr.lk cr.ck], .int .i64 5, .slice xa names.length xc] wr (TreeP (treeR names 5 r) wr) := Tree_any 5 (by decide) r cr names xa xc wr (HR.out.later hbw) hrow (by omega)
              have htf : fitZ tr = true := htr ▸ treeR_fit names hn100 5 r
              obtain ⟨hk1, hk2⟩ : kindsR tr = true ∧ sizeZ tr ≤ capT 4 := htr ▸ treeR_good names 5 r
              have hk3 : sizeZ tr ≤ 60000 := Nat.le_trans hk2 (by decide)
              rw [htr] at CT
              obtain ⟨f, hf⟩ : ∃ f, endsR (inR (finiteR s.types)) tr = f := ⟨_, rfl⟩
              have hff : finiteZ s tr = f := by rw [HTO.out.same hk1 hk3, hf]
              obtain ⟨g, hg⟩ : ∃ g, endsR (inR (finiteR s.types)) s.main = g := ⟨_, rfl⟩
              have hgg : finiteZ s s.main = g := by rw [HTO.out.same HTO.out.mkind (by have := HTO.out.size; omega), hg]
              have HCT := Lib.hid CT; have HTF := Lib.hid htf; have HE1 := Lib.hid hff; have HE2 := Lib.hid hf; have HE3 := Lib.hid hgg; have HE4 := Lib.hid hg; have HBW8 := Lib.hid hbw
              clear hown hn100 hbw hr8 hrow htr CT htf hk1 hk2 hk3 hf hff hg hgg hnames
              rw [hlen]
              clear hlen
              go_upto_region 18 with (go_at_call 22; (with_reducible refine HCT.out.mono ?_); rintro e w8 ⟨tc, rfl, htv, x8⟩; have hz8 := x8.size; have HTV0 := Lib.hid htv; have HX8 := Lib.hid x8; clear htv x8)
              obtain ⟨W8, hW8⟩ : ∃ W8, W8 = w8.alloc (.cells #[.int .i64 tc.k, .string tc.n, .slice tc.an tc.ln tc.cn, .slice tc.ak tc.lk tc.ck] 25) := ⟨_, rfl⟩
              obtain ⟨tb, htb⟩ : ∃ tb, tb = w8.heap.size := ⟨_, rfl⟩
              have hz8' : W8.heap.size = w8.heap.size + 1 := by rw [hW8]; simp
              have htb1 : tb < W8.heap.size := by omega
              have hb8 : Below w8.heap.size w8 W8 := by rw [hW8]; exact (Below.refl _ _).alloc (Nat.le_refl _) _
              have ht8 : W8.heap[tb]? = some (.cells #[.int .i64 tc.k, .string tc.n, .slice tc.an tc.ln tc.cn, .slice tc.ak tc.lk tc.ck] 25 (0, 0)) := by rw [hW8, htb]; exact heap_alloc_new w8 _
              have hs8 : W8.heap[sb]? = some (.cells #[.int .i64 c.k, .string c.n, .slice c.an c.ln c.cn, .slice c.ak c.lk c.ck, .slice a1 s.types.length n1, .slice a2 s.sigs.length n2] 29 (0, 0)) := (hb8.block sb (by omega)).trans ((HX8.out.block sb (by omega)).trans H.out.box)
              have hb38 := H.out.below.trans ((HX8.out.mono (by omega)).trans (hb8.mono (by omega)))
              have htv8 : TzV W8 (Any W8) tr tc := (HTV0.out.growN hb8).keep (fun _ h => h.2) (fun _ _ => rfl)
              rw [← hW8, ← htb]
              have HT8 := Lib.hid ht8; have HS8 := Lib.hid hs8; have HTV := Lib.hid htv8
              have HB28 := Lib.hid (HB23.out.trans (hb38.mono (by omega)))
              have HBX8 := Lib.hid (HBW8.out.trans ((HX8.out.mono (by omega)).trans (hb8.mono (by omega))))
              clear ht8 hs8 htv8 hW8 htb hb38 hb8
              refine wp_region_by (QJ (fun (x : Unit) i => match i with | 0 => .agg #[.int .i64 c.k, .string c.n, .slice c.an c.ln c.cn, .slice c.ak c.lk c.ck, .slice a1 s.types.length n1, .slice a2 s.sigs.length n2] | 1 => .agg #[.int .i64 tc.k, .string tc.n, .slice tc.an tc.ln tc.cn, .slice tc.ak tc.lk tc.ck] | 2 => .bool f | 3 => .agg #[.int .i64 c.k, .string c.n, .slice c.an c.ln c.cn, .slice c.ak c.lk c.ck, .slice a1 s.types.length n1, .slice a2 s.sigs.length n2] | 4 => .agg #[.int .i64 tc.k, .string tc.n, .slice tc.an tc.ln tc.cn, .slice tc.ak tc.lk tc.ck] | 5 => .bool f | 6 => .bool true | 7 => .bool true | 8 => .agg #[.int .i64 c.k, .string c.n, .slice c.an c.ln c.cn, .slice c.ak c.lk c.ck, .slice a1 s.types.length n1, .slice a2 s.sigs.length n2] | 9 => .pointer (some ⟨sb, 0, none⟩) | 10 => .agg #[.int .i64 c.k, .string c.n, .slice c.an c.ln c.cn, .slice c.ak c.lk c.ck] | 11 => .bool g | 12 => .agg #[.int .i64 c.k, .string c.n, .slice c.an c.ln c.cn, .slice c.ak c.lk c.ck, .slice a1 s.types.length n1, .slice a2 s.sigs.length n2] | 13 => .pointer (some ⟨sb, 0, none⟩) | 14 => .agg #[.int .i64 c.k, .string c.n, .slice c.an c.ln c.cn, .slice c.ak c.lk c.ck] | 15 => .bool g | 16 => .bool true | 17 => .bool true | 18 => .bool true | _ => undef) (fun _ _ v => Below W8.heap.size W8 v)) (by kernel_rfl) ?_ ?_ ?_
              · exact ⟨by simp, Closed.start _, (), Fr.start _ _ _, Below.drew (Below.refl _ _)⟩
              · intro listed b v q hJ hi
                obtain ⟨hsz, hC, x, hF, hM⟩ := hJ
                obtain ⟨hl1, hiN⟩ := not_up hsz hi
                obtain ⟨_, o, ho, hdeps⟩ := mem_ready.1 hi
                have hiN : q < 19 := hiN
                obtain rfl | rfl | rfl | rfl | rfl | rfl | rfl | rfl | rfl | rfl | rfl | rfl | rfl | rfl | rfl | rfl | rfl | rfl | rfl : q = 0 ∨ q = 1 ∨ q = 2 ∨ q = 3 ∨ q = 4 ∨ q = 5 ∨ q = 6 ∨ q = 7 ∨ q = 8 ∨ q = 9 ∨ q = 10 ∨ q = 11 ∨ q = 12 ∨ q = 13 ∨ q = 14 ∨ q = 15 ∨ q = 16 ∨ q = 17 ∨ q = 18 := by omega
                · cases ho
                  obtain ⟨⟨y0, y1, y2, y3, y4, y5⟩, _⟩ := six_blkF ((hM.block sb (by omega)).trans HS8.out)
                  have e7 := hF.old_is 7 (by rfl) rfl
                  refine QJ.quiet (x := x) hsz hC hi hF (Slots.of (by rfl)) rfl (wanted_none rfl) hM ?_
                  show _ = Result.ok (Next.value (.agg #[.int .i64 c.k, .string c.n, .slice c.an c.ln c.cn, .slice c.ak c.lk c.ck, .slice a1 s.types.length n1, .slice a2 s.sigs.length n2])) v
                  simp [execOp, go_sem, e7, y0, y1, y2, y3, y4, y5]
                · cases ho
                  obtain ⟨⟨y0, y1, y2, y3⟩, _⟩ := four_blk ((hM.block tb (by omega)).trans HT8.out)
                  have e12 := hF.old_is 12 (by rfl) rfl
                  refine QJ.quiet (x := x) hsz hC hi hF (Slots.of (by rfl)) rfl (wanted_none rfl) hM ?_
                  show _ = Result.ok (Next.value (.agg #[.int .i64 tc.k, .string tc.n, .slice tc.an tc.ln tc.cn, .slice tc.ak tc.lk tc.ck])) v
                  simp [execOp, go_sem, e12, y0, y1, y2, y3]
                · cases ho
                  have e84 : b.tmps[84]? = some (.agg #[.int .i64 c.k, .string c.n, .slice c.an c.ln c.cn, .slice c.ak c.lk c.ck, .slice a1 s.types.length n1, .slice a2 s.sigs.length n2]) := hF.up 0 84 rfl (hdeps ⟨0, .data⟩ (by simp) rfl)
                  have e85 : b.tmps[85]? = some (.agg #[.int .i64 tc.k, .string tc.n, .slice tc.an tc.ln tc.cn, .slice tc.ak tc.lk tc.ck]) := hF.up 1 85 rfl (hdeps ⟨1, .data⟩ (by simp) rfl)
                  refine QJ.call (x := x) (f := 20) (args := #[.agg #[.int .i64 c.k, .string c.n, .slice c.an c.ln c.cn, .slice c.ak c.lk c.ck, .slice a1 s.types.length n1, .slice a2 s.sigs.length n2], .agg #[.int .i64 tc.k, .string tc.n, .slice tc.an tc.ln tc.cn, .slice tc.ak tc.lk tc.ck]]) hsz hC hi hF (Slots.of (by rfl)) rfl (wanted_none rfl) (by simp [execOp, go_sem, e84, e85]) (Finite_any (Any v) s tr tc c a1 a2 us gs n1 n2 v (fun _ h => h) HFS.out HTF.out (by omega) ((SzS.mk (fun _ h => h) HV2.out : SzS (Any W2) W2 s c a1 a2 us gs).anyB (HB28.out.trans (hM.mono (by omega)))) (HTV.out.grow hM)) ?_
                  rintro e w' ⟨rfl, hb⟩
                  exact ⟨(), congrArg (fun b => Ending.returned (.bool b)) HE1.out, fun _ _ => rfl, hM.trans (hb.mono hM.size)⟩
                · cases ho
                  obtain ⟨⟨y0, y1, y2, y3, y4, y5⟩, _⟩ := six_blkF ((hM.block sb (by omega)).trans HS8.out)
                  have e7 := hF.old_is 7 (by rfl) rfl
                  refine QJ.quiet (x := x) hsz hC hi hF (Slots.of (by rfl)) rfl (wanted_none rfl) hM ?_
                  show _ = Result.ok (Next.value (.agg #[.int .i64 c.k, .string c.n, .slice c.an c.ln c.cn, .slice c.ak c.lk c.ck, .slice a1 s.types.length n1, .slice a2 s.sigs.length n2])) v
                  simp [execOp, go_sem, e7, y0, y1, y2, y3, y4, y5]
                · cases ho
                  obtain ⟨⟨y0, y1, y2, y3⟩, _⟩ := four_blk ((hM.block tb (by omega)).trans HT8.out)
                  have e12 := hF.old_is 12 (by rfl) rfl
                  refine QJ.quiet (x := x) hsz hC hi hF (Slots.of (by rfl)) rfl (wanted_none rfl) hM ?_
                  show _ = Result.ok (Next.value (.agg #[.int .i64 tc.k, .string tc.n, .slice tc.an tc.ln tc.cn, .slice tc.ak tc.lk tc.ck])) v
                  simp [execOp, go_sem, e12, y0, y1, y2, y3]
                · cases ho
                  have e87 : b.tmps[87]? = some (.agg #[.int .i64 c.k, .string c.n, .slice c.an c.ln c.cn, .slice c.ak c.lk c.ck, .slice a1 s.types.length n1, .slice a2 s.sigs.length n2]) := hF.up 3 87 rfl (hdeps ⟨3, .data⟩ (by simp) rfl)
                  have e88 : b.tmps[88]? = some (.agg #[.int .i64 tc.k, .string tc.n, .slice tc.an tc.ln tc.cn, .slice tc.ak tc.lk tc.ck]) := hF.up 4 88 rfl (hdeps ⟨4, .data⟩ (by simp) rfl)
                  refine QJ.call (x := x) (f := 21) (args := #[.agg #[.int .i64 c.k, .string c.n, .slice c.an c.ln c.cn, .slice c.ak c.lk c.ck, .slice a1 s.types.length n1, .slice a2 s.sigs.length n2], .agg #[.int .i64 tc.k, .string tc.n, .slice tc.an tc.ln tc.cn, .slice tc.ak tc.lk tc.ck]]) hsz hC hi hF (Slots.of (by rfl)) rfl (wanted_none rfl) (by simp [execOp, go_sem, e87, e88]) (Finite_ref s tr tc c a1 a2 us gs n1 n2 v ((SzS.mk (fun _ h => h) HV2.out : SzS (Any W2) W2 s c a1 a2 us gs).anyB (HB28.out.trans (hM.mono (by omega)))) (HTV.out.grow hM) (by omega) HFS.out HTF.out) ?_
                  rintro e w' ⟨rfl, hb⟩
                  exact ⟨(), congrArg (fun b => Ending.returned (.bool b)) HE2.out, fun _ _ => rfl, hM.trans (hb.mono hM.size)⟩
                · cases ho
                  have e86 : b.tmps[86]? = some (.bool f) := hF.up 2 86 rfl (hdeps ⟨2, .data⟩ (by simp) rfl)
                  have e89 : b.tmps[89]? = some (.bool f) := hF.up 5 89 rfl (hdeps ⟨5, .data⟩ (by simp) rfl)
                  refine QJ.quiet (x := x) hsz hC hi hF (Slots.of (by rfl)) rfl (wanted_none rfl) hM ?_
                  show _ = Result.ok (Next.value (.bool true)) v
                  simp [execOp, go_sem, e86, e89]
                · cases ho
                  have e90 : b.tmps[90]? = some (.bool true) := hF.up 6 90 rfl (hdeps ⟨6, .data⟩ (by simp) rfl)
                  refine QJ.quiet (x := x) hsz hC hi hF (Slots.of (by rfl)) rfl (wanted_none rfl) hM ?_
                  show _ = Result.ok (Next.value (.bool true)) v
                  simp [execOp, go_sem, e90]
                · cases ho
                  obtain ⟨⟨y0, y1, y2, y3, y4, y5⟩, _⟩ := six_blkF ((hM.block sb (by omega)).trans HS8.out)
                  have e7 := hF.old_is 7 (by rfl) rfl
                  refine QJ.quiet (x := x) hsz hC hi hF (Slots.of (by rfl)) rfl ((wanted_of rfl rfl (show b.tmps[91]? = some (.bool true) from hF.up 7 91 rfl (hdeps ⟨7, .guard⟩ (by simp) rfl))).trans (by rfl)) hM ?_
                  show _ = Result.ok (Next.value (.agg #[.int .i64 c.k, .string c.n, .slice c.an c.ln c.cn, .slice c.ak c.lk c.ck, .slice a1 s.types.length n1, .slice a2 s.sigs.length n2])) v
                  simp [execOp, go_sem, e7, y0, y1, y2, y3, y4, y5]
                · cases ho
                  have e7 := hF.old_is 7 (by rfl) rfl
                  refine QJ.quiet (x := x) hsz hC hi hF (Slots.of (by rfl)) rfl ((wanted_of rfl rfl (show b.tmps[91]? = some (.bool true) from hF.up 7 91 rfl (hdeps ⟨7, .guard⟩ (by simp) rfl))).trans (by rfl)) hM ?_
                  show _ = Result.ok (Next.value (.pointer (some ⟨sb, 0, none⟩))) v
                  simp [execOp, go_sem, e7]
                · cases ho
                  obtain ⟨⟨y0, y1, y2, y3, y4, y5⟩, _⟩ := six_blkF ((hM.block sb (by omega)).trans HS8.out)
                  have e93 : b.tmps[93]? = some (.pointer (some ⟨sb, 0, none⟩)) := hF.up 9 93 rfl (hdeps ⟨9, .data⟩ (by simp) rfl)
                  refine QJ.quiet (x := x) hsz hC hi hF (Slots.of (by rfl)) rfl ((wanted_of rfl rfl (show b.tmps[91]? = some (.bool true) from hF.up 7 91 rfl (hdeps ⟨7, .guard⟩ (by simp) rfl))).trans (by rfl)) hM ?_
                  show _ = Result.ok (Next.value (.agg #[.int .i64 c.k, .string c.n, .slice c.an c.ln c.cn, .slice c.ak c.lk c.ck])) v
                  simp [execOp, go_sem, e93, y0, y1, y2, y3]
                · cases ho
                  have e92 : b.tmps[92]? = some (.agg #[.int .i64 c.k, .string c.n, .slice c.an c.ln c.cn, .slice c.ak c.lk c.ck, .slice a1 s.types.length n1, .slice a2 s.sigs.length n2]) := hF.up 8 92 rfl (hdeps ⟨8, .data⟩ (by simp) rfl)
                  have e94 : b.tmps[94]? = some (.agg #[.int .i64 c.k, .string c.n, .slice c.an c.ln c.cn, .slice c.ak c.lk c.ck]) := hF.up 10 94 rfl (hdeps ⟨10, .data⟩ (by simp) rfl)
                  refine QJ.call (x := x) (f := 20) (args := #[.agg #[.int .i64 c.k, .string c.n, .slice c.an c.ln c.cn, .slice c.ak c.lk c.ck, .slice a1 s.types.length n1, .slice a2 s.sigs.length n2], .agg #[.int .i64 c.k, .string c.n, .slice c.an c.ln c.cn, .slice c.ak c.lk c.ck]]) hsz hC hi hF (Slots.of (by rfl)) rfl ((wanted_of rfl rfl (show b.tmps[91]? = some (.bool true) from hF.up 7 91 rfl (hdeps ⟨7, .guard⟩ (by simp) rfl))).trans (by rfl)) (by simp [execOp, go_sem, e92, e94]) (Finite_any (Any v) s s.main c c a1 a2 us gs n1 n2 v (fun _ h => h) HFS.out HFS.out.main (by omega) ((SzS.mk (fun _ h => h) HV2.out : SzS (Any W2) W2 s c a1 a2 us gs).anyB (HB28.out.trans (hM.mono (by omega)))) ((SzS.mk (fun _ h => h) HV2.out : SzS (Any W2) W2 s c a1 a2 us gs).anyB (HB28.out.trans (hM.mono (by omega)))).main) ?_
                  rintro e w' ⟨rfl, hb⟩
                  exact ⟨(), congrArg (fun b => Ending.returned (.bool b)) HE3.out, fun _ _ => rfl, hM.trans (hb.mono hM.size)⟩
                · cases ho
                  obtain ⟨⟨y0, y1, y2, y3, y4, y5⟩, _⟩ := six_blkF ((hM.block sb (by omega)).trans HS8.out)
                  have e7 := hF.old_is 7 (by rfl) rfl
                  refine QJ.quiet (x := x) hsz hC hi hF (Slots.of (by rfl)) rfl ((wanted_of rfl rfl (show b.tmps[91]? = some (.bool true) from hF.up 7 91 rfl (hdeps ⟨7, .guard⟩ (by simp) rfl))).trans (by rfl)) hM ?_
                  show _ = Result.ok (Next.value (.agg #[.int .i64 c.k, .string c.n, .slice c.an c.ln c.cn, .slice c.ak c.lk c.ck, .slice a1 s.types.length n1, .slice a2 s.sigs.length n2])) v
                  simp [execOp, go_sem, e7, y0, y1, y2, y3, y4, y5]
                · cases ho
                  have e7 := hF.old_is 7 (by rfl) rfl
                  refine QJ.quiet (x := x) hsz hC hi hF (Slots.of (by rfl)) rfl ((wanted_of rfl rfl (show b.tmps[91]? = some (.bool true) from hF.up 7 91 rfl (hdeps ⟨7, .guard⟩ (by simp) rfl))).trans (by rfl)) hM ?_
                  show _ = Result.ok (Next.value (.pointer (some ⟨sb, 0, none⟩))) v
                  simp [execOp, go_sem, e7]
                · cases ho
                  obtain ⟨⟨y0, y1, y2, y3, y4, y5⟩, _⟩ := six_blkF ((hM.block sb (by omega)).trans HS8.out)
                  have e97 : b.tmps[97]? = some (.pointer (some ⟨sb, 0, none⟩)) := hF.up 13 97 rfl (hdeps ⟨13, .data⟩ (by simp) rfl)
                  refine QJ.quiet (x := x) hsz hC hi hF (Slots.of (by rfl)) rfl ((wanted_of rfl rfl (show b.tmps[91]? = some (.bool true) from hF.up 7 91 rfl (hdeps ⟨7, .guard⟩ (by simp) rfl))).trans (by rfl)) hM ?_
                  show _ = Result.ok (Next.value (.agg #[.int .i64 c.k, .string c.n, .slice c.an c.ln c.cn, .slice c.ak c.lk c.ck])) v
                  simp [execOp, go_sem, e97, y0, y1, y2, y3]
                · cases ho
                  have e96 : b.tmps[96]? = some (.agg #[.int .i64 c.k, .string c.n, .slice c.an c.ln c.cn, .slice c.ak c.lk c.ck, .slice a1 s.types.length n1, .slice a2 s.sigs.length n2]) := hF.up 12 96 rfl (hdeps ⟨12, .data⟩ (by simp) rfl)
                  have e98 : b.tmps[98]? = some (.agg #[.int .i64 c.k, .string c.n, .slice c.an c.ln c.cn, .slice c.ak c.lk c.ck]) := hF.up 14 98 rfl (hdeps ⟨14, .data⟩ (by simp) rfl)
                  refine QJ.call (x := x) (f := 21) (args := #[.agg #[.int .i64 c.k, .string c.n, .slice c.an c.ln c.cn, .slice c.ak c.lk c.ck, .slice a1 s.types.length n1, .slice a2 s.sigs.length n2], .agg #[.int .i64 c.k, .string c.n, .slice c.an c.ln c.cn, .slice c.ak c.lk c.ck]]) hsz hC hi hF (Slots.of (by rfl)) rfl ((wanted_of rfl rfl (show b.tmps[91]? = some (.bool true) from hF.up 7 91 rfl (hdeps ⟨7, .guard⟩ (by simp) rfl))).trans (by rfl)) (by simp [execOp, go_sem, e96, e98]) (Finite_ref s s.main c c a1 a2 us gs n1 n2 v ((SzS.mk (fun _ h => h) HV2.out : SzS (Any W2) W2 s c a1 a2 us gs).anyB (HB28.out.trans (hM.mono (by omega)))) ((SzS.mk (fun _ h => h) HV2.out : SzS (Any W2) W2 s c a1 a2 us gs).anyB (HB28.out.trans (hM.mono (by omega)))).main (by omega) HFS.out HFS.out.main) ?_
                  rintro e w' ⟨rfl, hb⟩
                  exact ⟨(), congrArg (fun b => Ending.returned (.bool b)) HE4.out, fun _ _ => rfl, hM.trans (hb.mono hM.size)⟩
                · cases ho
                  have e95 : b.tmps[95]? = some (.bool g) := hF.up 11 95 rfl (hdeps ⟨11, .data⟩ (by simp) rfl)
                  have e99 : b.tmps[99]? = some (.bool g) := hF.up 15 99 rfl (hdeps ⟨15, .data⟩ (by simp) rfl)
                  refine QJ.quiet (x := x) hsz hC hi hF (Slots.of (by rfl)) rfl ((wanted_of rfl rfl (show b.tmps[91]? = some (.bool true) from hF.up 7 91 rfl (hdeps ⟨7, .guard⟩ (by simp) rfl))).trans (by rfl)) hM ?_
                  show _ = Result.ok (Next.value (.bool true)) v
                  simp [execOp, go_sem, e95, e99]
                · cases ho
                  have e91 : b.tmps[91]? = some (.bool true) := hF.up 7 91 rfl (hdeps ⟨7, .data⟩ (by simp) rfl)
                  have e100 : b.tmps[100]? = some (.bool true) := hF.up 16 100 rfl (hdeps ⟨16, .data⟩ (by simp) rfl)
                  refine QJ.quiet (x := x) hsz hC hi hF (Slots.of (by rfl)) rfl (wanted_none rfl) hM ?_
                  show _ = Result.ok (Next.value (.bool true)) v
                  simp [execOp, go_sem, e91, e100]
                · cases ho
                  have e101 : b.tmps[101]? = some (.bool true) := hF.up 17 101 rfl (hdeps ⟨17, .data⟩ (by simp) rfl)
                  refine QJ.quiet (x := x) hsz hC hi hF (Slots.of (by rfl)) rfl (wanted_none rfl) hM ?_
                  show _ = Result.ok (Next.value (.bool true)) v
                  simp [execOp, go_sem, e101]
              · intro listed b W9 hJ hr
                obtain ⟨hsz, hC, x, hF, hM⟩ := hJ
                have hall := all_upB (by rfl) hsz hr
                have hb : b = putAll _ _ _ 19 := hF.done (Slots.of (by rfl)) hall
                subst hb
                simp only [putAll]
                simp [dstOf, Act.put]
                have HM9 := Lib.hid hM
                clear hM hF hC hall hr hsz
                go_wp2
                go_ret
                exact ⟨rfl, HBX8.out.trans (HM9.out.mono (by omega))⟩
      · have t0 : ((E : Int) != 0) = true := by rw [bne_iff_ne]; omega
        have t1 : ((E : Int) != 14) = true := by rw [bne_iff_ne]; omega
        have t2 : ((E : Int) != 17) = true := by rw [bne_iff_ne]; omega
        clear hA
        go_wp2
        go_ret
        exact ⟨rfl, HBW3.out.trans (HX5.out.mono (by have := HBW3.out.size; omega))⟩
end Sp
end Go.Proofs.Ytjjpjkkaogfoaaa
