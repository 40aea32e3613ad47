/- Of, of builtin functions: what it answers. -/
import Derived.Test.YtdophmlnmbcjlaaT50
namespace Go.Proofs.Ytdophmlnmbcjlaa
open Go.RowKit
namespace Sp
open Sc
set_option maxRecDepth 100000
theorem ten_blk {w : World} {b : Nat} {t : TypeId} {v0 v1 v2 v3 v4 v5 v6 v7 v8 v9 : Value} (h : w.heap[b]? = some (.cells #[v0, v1, v2, v3, v4, v5, v6, v7, v8, v9] t (0, 0))) :
    (w.cell? ⟨b, 0, none⟩ = some v0 ∧ w.cell? ⟨b, 1, none⟩ = some v1 ∧ w.cell? ⟨b, 2, none⟩ = some v2 ∧ w.cell? ⟨b, 5, none⟩ = some v5 ∧ w.cell? ⟨b, 6, none⟩ = some v6 ∧ w.cell? ⟨b, 7, none⟩ = some v7 ∧ w.cell? ⟨b, 8, none⟩ = some v8 ∧ w.cell? ⟨b, 9, none⟩ = some v9) ∧
    (w.frozen? ⟨b, 6, none⟩ = false ∧ w.frozen? ⟨b, 7, none⟩ = false ∧ w.frozen? ⟨b, 8, none⟩ = false ∧ w.frozen? ⟨b, 9, none⟩ = false) := by
  refine ⟨⟨?_, ?_, ?_, ?_, ?_, ?_, ?_, ?_⟩, ⟨?_, ?_, ?_, ?_⟩⟩ <;> simp [World.cell?, World.frozen?, h]
theorem set_ten {w : World} {b : Nat} {t : TypeId} {v0 v1 v2 v3 v4 v5 v6 v7 v8 v9 : Value} (h : w.heap[b]? = some (.cells #[v0, v1, v2, v3, v4, v5, v6, v7, v8, v9] t (0, 0))) (x6 x7 x8 x9 : Value) :
    ((((w.setCell ⟨b, 6, none⟩ x6).setCell ⟨b, 7, none⟩ x7).setCell ⟨b, 8, none⟩ x8).setCell ⟨b, 9, none⟩ x9).heap[b]? = some (.cells #[v0, v1, v2, v3, v4, v5, x6, x7, x8, x9] t (0, 0)) := by
  unfold World.setCell; simp [Array.getElem?_modify, h]
theorem GivV.blk {w : World} {gb tb : Nat} {aa ak : Option Addr} {ca ck : Nat} {l kids : List Nat} {ka kb : Int} {t : TypeId} {v3 v4 v7 v8 v9 : Value} (h : w.heap[gb]? = some (.cells #[.pointer (some ⟨tb, 0, none⟩), .slice aa l.length ca, .int .i64 ka, v3, v4, .slice ak kids.length ck, .int .i64 kb, v7, v8, v9] t (0, 0))) (ra : RowV w (Any w) aa 1 (idsL l)) (rk : RowV w (Any w) ak 1 (idsL kids)) : GivV w gb tb aa ak ca ck l ka kids kb := by
  obtain ⟨⟨c0, c1, c2, c5, c6, -⟩, -⟩ := ten_blk h
  exact ⟨c0, c1, c2, c5, c6, ra, rk⟩
theorem ofJ_takes {T : List Kz} {N : List NN} {s : List UInt8} {l : List Nat} (h : ¬ l.length = takesJ s) : ofJ T N s l = (0, 18, T) := if_pos h
theorem ofJ_one {T : List Kz} {N : List NN} {s : List UInt8} {x : Nat} (h : takesJ s = 1) {f : Bool} (hf : fitsJ (clsJ s) T N 0 (opnK T N x) nod0 = f) : ofJ T N s [x] = if f = true then ansJ s T (opnK T N x) else (0, 17, T) := by
  unfold ofJ; rw [if_neg (by simp [h])]; simp [hf]
theorem ofJ_two {T : List Kz} {N : List NN} {s : List UInt8} {x y : Nat} (h : takesJ s = 2) {f : Bool} (hf : fitsJ (clsJ s) T N y (opnK T N x) (opnK T N y) = f) : ofJ T N s [x, y] = if f = true then ansJ s T (opnK T N x) else (0, 17, T) := by
  unfold ofJ; rw [if_neg (by simp [h])]; simp [hf]
theorem takes_12 (s : List UInt8) : takesJ s = 1 ∨ takesJ s = 2 := by unfold takesJ; split; exact .inl rfl; exact .inr rfl
/-- What a table's opened type says of its kids. -/
theorem opn_one {T : List Kz} {N : List NN} (hO : OpL T N) {i : Nat} (hi : i < T.length) : (opnK T N i).kind = 4 ∨ (opnK T N i).kind = 5 ∨ (opnK T N i).kind = 6 → (opnK T N i).kids.length = 1 := fun h => by
  rw [opnK_at hO hi] at h ⊢
  exact hO.one _ (List.getElem_mem _) h
theorem opn_kid {T : List Kz} {N : List NN} (hO : OpL T N) (hT : TabW T) {i : Nat} (hi : i < T.length) : (opnK T N i).kind = 4 ∨ (opnK T N i).kind = 5 ∨ (opnK T N i).kind = 6 → (opnK T N i).kids.getD 0 0 < T.length := fun h => by
  have h1 := opn_one hO hi h
  rw [opnK_at hO hi] at h1 ⊢
  have := hT.kids _ (hO.lt i hi) ((T[openK T N 13 i]'(hO.lt i hi)).kids[0]'(by omega)) (List.getElem_mem _)
  rw [List.getD, List.getElem?_eq_getElem (by omega), Option.getD_some]
  have h3 := hO.lt i hi
  omega
set_option maxHeartbeats 4000000 in
theorem builtin_any (s : List UInt8) (hbi : builtinB s = true) (l : List Nat) (w : World) (B tb rb nb mb sb m : Nat) (ty nu : Value) (T : List Kz) (N : List NN) (G : List GN) (vs : List Value) (hst : StV B w tb rb nb mb sb m ty nu T N G vs) (hB : B ≤ w.heap.size) (hO : OpL T N) (hl : ∀ j ∈ l, j < T.length) (aa : Option Addr) (ca : Nat) (hr : RowV w (Any w) aa 1 (idsL l)) :
    Calls Try.prog 27 #[.pointer (some ⟨tb, 0, none⟩), .string ⟨s.toArray⟩, .slice aa l.length ca] w (MadeJ B w tb rb nb mb sb m N G vs (ofJ T N s l)) := by
  by_cases hlen : l.length = takesJ s
  · have HTK := Lib.hid (takes_any s w hbi)
    have hbz : B ≤ w.heap.size := hB
    rcases takes_12 s with h1 | h1
    · rw [h1] at hlen HTK
      obtain ⟨x, rfl⟩ := List.length_eq_one_iff.1 hlen
      have hx := hl x (by simp)
      obtain ⟨g, o, rfl, hg, q0⟩ := idsL_cell hr (i := 0) (by simp)
      rw [Nat.add_zero] at q0
      simp only [List.getD_cons_zero] at q0
      have HOP := Lib.hid (opened_any x w tb rb nb mb sb m ty nu T N hst.tab hst.names hO hx)
      have hone := opn_one hO hx; have hkid := opn_kid hO hst.tab.wf hx
      obtain ⟨f, hf⟩ : ∃ f, fitsJ (clsJ s) T N 0 (opnK T N x) nod0 = f := ⟨_, rfl⟩
      rw [ofJ_one h1 hf]
      obtain ⟨a, ha⟩ : ∃ a, opnK T N x = a := ⟨_, rfl⟩
      rw [ha] at hf HOP hone hkid ⊢
      have HST := Lib.hid hst; have HRW := Lib.hid hr; have HO := Lib.hid hO; have HN := Lib.hid hone; have HK := Lib.hid hkid; have HF := Lib.hid hf; have H1 := Lib.hid h1
      clear hst hr hO hone hkid hf ha hx hl h1 hlen
      go_enter Try.func27, Try.ntmps27
      go_upto_region 3 with (go_at_call 48; (refine HTK.out.mono ?_); rintro e w0 ⟨rfl, rfl⟩)
      go_upto_region 4 with (go_at_call 49; (refine HOP.out.mono ?_); rintro e w1 ⟨an, ln, cn, ak, ck, rfl, r1, b1⟩; have hz1 := b1.size; have HR1 := Lib.hid r1; have HB1 := Lib.hid b1; clear r1 b1)
      obtain ⟨W2, hW2⟩ : ∃ W2, W2 = w1.alloc (.cells #[.pointer (some ⟨tb, 0, none⟩), .slice (some ⟨g, o, none⟩) 1 ca, .int .i64 a.kind, .string ⟨a.name.toArray⟩, .slice an ln cn, .slice ak a.kids.length ck, .int .i64 0, .string ⟨#[]⟩, .slice none 0 0, .slice none 0 0] 120) := ⟨_, rfl⟩
      have hb2 : Below w.heap.size w W2 := by rw [hW2]; exact HB1.out.alloc (by omega) _
      have hn2 : W2.heap[w1.heap.size]? = some (.cells #[.pointer (some ⟨tb, 0, none⟩), .slice (some ⟨g, o, none⟩) 1 ca, .int .i64 a.kind, .string ⟨a.name.toArray⟩, .slice an ln cn, .slice ak a.kids.length ck, .int .i64 0, .string ⟨#[]⟩, .slice none 0 0, .slice none 0 0] 120 (0, 0)) := by rw [hW2]; exact heap_alloc_new w1 _
      have hz2 : W2.heap.size = w1.heap.size + 1 := by rw [hW2]; simp
      have hb12 : Below w1.heap.size w1 W2 := by rw [hW2]; exact (Below.refl _ _).alloc (Nat.le_refl _) _
      have hgv : ∀ W, Below W2.heap.size W2 W → GivV W w1.heap.size tb (some ⟨g, o, none⟩) ak ca ck [x] a.kind a.kids nod0.kind := fun W hW =>
        GivV.blk (l := [x]) ((hW.block _ (by omega)).trans hn2) (HRW.out.keep (fun g hg => by have := hb2.size; have := hW.size; have : g < w.heap.size := hg; show g < W.heap.size; omega) (fun g hg => ((hb2.trans (hW.mono hb2.size)).block g hg))) (HR1.out.keep (fun g hg => by have := hg.2; have := hW.size; show g < W.heap.size; omega) (fun g hg => (hW.block g (by have := hg.2; omega)).trans (hb12.block g hg.2)))
      rw [← hW2]
      have HB2 := Lib.hid hb2; have HGV := Lib.hid hgv; have HB12 := Lib.hid hb12
      clear hW2 hb2 hn2 hgv hb12
      have hsz2 := HB2.out.size
      cases f with
      | false =>
        go_wp2_with (go_at_call 50; (refine (fits_any s hbi W2 w1.heap.size tb rb nb mb sb m ty nu T N (HST.out.below HB2.out).tab (HST.out.below HB2.out).names HO.out [x] a nod0 _ ak ca ck (HGV.out W2 (Below.refl _ _)) H1.out.symm HN.out HK.out).mono ?_); rintro e w3 ⟨rfl, b3⟩; rw [show fitsJ (clsJ s) T N ([x].getD 1 0) a nod0 = false from HF.out]; have HB3 := Lib.hid b3; clear b3)
        go_ret2
        exact MadeJ.of HST.out hB (HB2.out.trans (HB3.out.mono (by omega)))
      | true =>
        go_upto_region 8 with (go_at_call 50; (refine (fits_any s hbi W2 w1.heap.size tb rb nb mb sb m ty nu T N (HST.out.below HB2.out).tab (HST.out.below HB2.out).names HO.out [x] a nod0 _ ak ca ck (HGV.out W2 (Below.refl _ _)) H1.out.symm HN.out HK.out).mono ?_); rintro e w3 ⟨rfl, b3⟩; rw [show fitsJ (clsJ s) T N ([x].getD 1 0) a nod0 = true from HF.out]; have HB3 := Lib.hid b3; clear b3)
        have hb3 : Below w.heap.size w w3 := HB2.out.trans (HB3.out.mono (by omega))
        have CA := (ans_any s hbi w3 B w1.heap.size tb rb nb mb sb m ty nu T N G vs (HST.out.below hb3) (Nat.le_trans hB hb3.size) [x] a nod0 _ _ ak ca ck (HGV.out w3 HB3.out) 0 HF.out HN.out HK.out w HST.out.tab hz1 (by have := HB3.out.size; omega) (HR1.out.keep (fun g hg => ⟨hg.1, by have := hg.2; have := HB3.out.size; omega⟩) (fun g hg => (HB3.out.block g (by have := hg.2; omega)).trans (HB12.out.block g hg.2))))
        have HCA := Lib.hid CA; have HB3' := Lib.hid hb3
        clear CA hb3
        go_wp2_with (go_at_call 51; (refine HCA.out.mono ?_); intro e w4 hq; replace hq := hq.after hbz HB3'.out; obtain ⟨rb', nb', ty', nu', rfl, h1, h2, h3⟩ := hq; have Y1 := Lib.hid h1; have Y2 := Lib.hid h2; have Y3 := Lib.hid h3; clear h1 h2 h3)
        go_ret2
        exact ⟨rb', nb', ty', nu', rfl, Y1.out, Y2.out, Y3.out⟩
    · rw [h1] at hlen HTK
      obtain ⟨x, y, rfl⟩ : ∃ x y, l = [x, y] := by
        match l, hlen with
        | [x, y], _ => exact ⟨x, y, rfl⟩
      have hx := hl x (by simp); have hy := hl y (by simp)
      obtain ⟨g, o, rfl, hg, q0⟩ := idsL_cell hr (i := 0) (by simp)
      obtain ⟨g', o', hgo, -, q1⟩ := idsL_cell hr (i := 1) (by simp)
      obtain ⟨rfl, rfl⟩ : g = g' ∧ o = o' := by simpa using hgo
      clear hgo
      rw [Nat.add_zero] at q0
      simp only [List.getD_cons_zero, List.getD_cons_succ] at q0 q1
      have HOP := Lib.hid (opened_any x w tb rb nb mb sb m ty nu T N hst.tab hst.names hO hx)
      have HOQ := Lib.hid (fun W (hW : Below w.heap.size w W) => opened_any y W tb rb nb mb sb m ty nu T N (hst.below hW).tab (hst.below hW).names hO hy)
      have hone := opn_one hO hx; have hkid := opn_kid hO hst.tab.wf hx
      obtain ⟨f, hf⟩ : ∃ f, fitsJ (clsJ s) T N y (opnK T N x) (opnK T N y) = f := ⟨_, rfl⟩
      rw [ofJ_two h1 hf]
      obtain ⟨a, ha⟩ : ∃ a, opnK T N x = a := ⟨_, rfl⟩
      obtain ⟨b, hb⟩ : ∃ b, opnK T N y = b := ⟨_, rfl⟩
      rw [ha] at hf HOP hone hkid ⊢
      rw [hb] at hf
      simp only [hb] at HOQ
      have HST := Lib.hid hst; have HRW := Lib.hid hr; have HO := Lib.hid hO; have HN := Lib.hid hone; have HK := Lib.hid hkid; have HF := Lib.hid hf; have H1 := Lib.hid h1
      clear hst hr hO hone hkid hf ha hx hy hb hl h1 hlen
      go_enter Try.func27, Try.ntmps27
      go_upto_region 3 with (go_at_call 48; (refine HTK.out.mono ?_); rintro e w0 ⟨rfl, rfl⟩)
      go_upto_region 4 with (go_at_call 49; (refine HOP.out.mono ?_); rintro e w1 ⟨an, ln, cn, ak, ck, rfl, r1, b1⟩; have hz1 := b1.size; have HR1 := Lib.hid r1; have HB1 := Lib.hid b1; clear r1 b1)
      obtain ⟨W2, hW2⟩ : ∃ W2, W2 = w1.alloc (.cells #[.pointer (some ⟨tb, 0, none⟩), .slice (some ⟨g, o, none⟩) 2 ca, .int .i64 a.kind, .string ⟨a.name.toArray⟩, .slice an ln cn, .slice ak a.kids.length ck, .int .i64 0, .string ⟨#[]⟩, .slice none 0 0, .slice none 0 0] 120) := ⟨_, rfl⟩
      have hb2 : Below w.heap.size w W2 := by rw [hW2]; exact HB1.out.alloc (by omega) _
      have hn2 : W2.heap[w1.heap.size]? = some (.cells #[.pointer (some ⟨tb, 0, none⟩), .slice (some ⟨g, o, none⟩) 2 ca, .int .i64 a.kind, .string ⟨a.name.toArray⟩, .slice an ln cn, .slice ak a.kids.length ck, .int .i64 0, .string ⟨#[]⟩, .slice none 0 0, .slice none 0 0] 120 (0, 0)) := by rw [hW2]; exact heap_alloc_new w1 _
      have hz2 : W2.heap.size = w1.heap.size + 1 := by rw [hW2]; simp
      have hb12 : Below w1.heap.size w1 W2 := by rw [hW2]; exact (Below.refl _ _).alloc (Nat.le_refl _) _
      have hq1 : W2.cell? ⟨g, o + 1, none⟩ = some (.int .i64 (y : Nat)) := (hb2.cell (p := ⟨g, o + 1, none⟩) hg).trans q1
      rw [← hW2]
      have HB2 := Lib.hid hb2; have HN2 := Lib.hid hn2; have HB12 := Lib.hid hb12
      clear hW2 hb2 hn2 hb12 q0 q1
      have hsz2 := HB2.out.size
      go_upto_region 5 with fail
      go_upto_region 6 with (go_at_call 49; (refine (HOQ.out W2 HB2.out).mono ?_); rintro e w3 ⟨an', ln', cn', ak', ck', rfl, -, b3⟩; have hz3 := b3.size; obtain ⟨⟨-, -, -, -, y6, y7, y8, y9⟩, ⟨f6, f7, f8, f9⟩⟩ := ten_blk ((b3.block w1.heap.size (by omega)).trans HN2.out); have HB3 := Lib.hid b3; clear b3)
      obtain ⟨W4, hW4⟩ : ∃ W4, W4 = (((w3.setCell ⟨w1.heap.size, 6, none⟩ (.int .i64 b.kind)).setCell ⟨w1.heap.size, 7, none⟩ (.string ⟨b.name.toArray⟩)).setCell ⟨w1.heap.size, 8, none⟩ (.slice an' ln' cn')).setCell ⟨w1.heap.size, 9, none⟩ (.slice ak' b.kids.length ck') := ⟨_, rfl⟩
      have hn4 : W4.heap[w1.heap.size]? = some (.cells #[.pointer (some ⟨tb, 0, none⟩), .slice (some ⟨g, o, none⟩) 2 ca, .int .i64 a.kind, .string ⟨a.name.toArray⟩, .slice an ln cn, .slice ak a.kids.length ck, .int .i64 b.kind, .string ⟨b.name.toArray⟩, .slice an' ln' cn', .slice ak' b.kids.length ck'] 120 (0, 0)) := by
        rw [hW4]; exact set_ten ((HB3.out.block w1.heap.size (by omega)).trans HN2.out) _ _ _ _
      have hk4 : Keeps (fun g => g = w1.heap.size) w3 W4 := by rw [hW4]; exact ((((Keeps.refl (fun g => g = w1.heap.size) _).setCell 6 _ rfl).setCell 7 _ rfl).setCell 8 _ rfl).setCell 9 _ rfl
      rw [← hW4]
      have hb4 : Below w1.heap.size w1 W4 := HB12.out.trans ((HB3.out.mono (by omega)).trans (hk4.below (by omega) (fun g e => by omega)))
      have hz4 := hb4.size; have hz34 := hk4.size
      have hb4w : Below w.heap.size w W4 := HB1.out.trans (hb4.mono (by omega))
      have hgv : ∀ W, Below W4.heap.size W4 W → GivV W w1.heap.size tb (some ⟨g, o, none⟩) ak ca ck [x, y] a.kind a.kids b.kind := fun W hW =>
        GivV.blk (l := [x, y]) ((hW.block _ (Array.getElem?_eq_some_iff.1 hn4).1).trans hn4) (HRW.out.keep (fun g hg => by have := hb4w.size; have := hW.size; have : g < w.heap.size := hg; show g < W.heap.size; omega) (fun g hg => ((hb4w.trans (hW.mono hb4w.size)).block g hg))) (HR1.out.keep (fun g hg => by have := hg.2; have := hW.size; show g < W.heap.size; omega) (fun g hg => ((hb4.trans (hW.mono hb4.size)).block g hg.2)))
      have HB4 := Lib.hid hb4w; have HGV := Lib.hid hgv; have HB14 := Lib.hid hb4
      clear hW4 hn4 hk4 hb4w hgv hb4 y6 y7 y8 y9 f6 f7 f8 f9 hq1
      have hsz4 := HB4.out.size
      cases f with
      | false =>
        go_wp2_with (go_at_call 50; (refine (fits_any s hbi W4 w1.heap.size tb rb nb mb sb m ty nu T N (HST.out.below HB4.out).tab (HST.out.below HB4.out).names HO.out [x, y] a b _ ak ca ck (HGV.out W4 (Below.refl _ _)) H1.out.symm HN.out HK.out).mono ?_); rintro e w5 ⟨rfl, b5⟩; rw [show fitsJ (clsJ s) T N ([x, y].getD 1 0) a b = false from HF.out]; have HB5 := Lib.hid b5; clear b5)
        go_ret2
        exact MadeJ.of HST.out hB (HB4.out.trans (HB5.out.mono (by omega)))
      | true =>
        go_upto_region 8 with (go_at_call 50; (refine (fits_any s hbi W4 w1.heap.size tb rb nb mb sb m ty nu T N (HST.out.below HB4.out).tab (HST.out.below HB4.out).names HO.out [x, y] a b _ ak ca ck (HGV.out W4 (Below.refl _ _)) H1.out.symm HN.out HK.out).mono ?_); rintro e w5 ⟨rfl, b5⟩; rw [show fitsJ (clsJ s) T N ([x, y].getD 1 0) a b = true from HF.out]; have HB5 := Lib.hid b5; clear b5)
        have hb5 : Below w.heap.size w w5 := HB4.out.trans (HB5.out.mono (by omega))
        have CA := (ans_any s hbi w5 B w1.heap.size tb rb nb mb sb m ty nu T N G vs (HST.out.below hb5) (Nat.le_trans hB hb5.size) [x, y] a b _ _ ak ca ck (HGV.out w5 HB5.out) y HF.out HN.out HK.out w HST.out.tab hz1 (by have := HB5.out.size; omega) (HR1.out.keep (fun g hg => ⟨hg.1, by have := hg.2; have := HB5.out.size; omega⟩) (fun g hg => (HB5.out.block g (by have := hg.2; omega)).trans (HB14.out.block g hg.2))))
        have HCA := Lib.hid CA; have HB5' := Lib.hid hb5
        clear CA hb5
        go_wp2_with (go_at_call 51; (refine HCA.out.mono ?_); intro e w6 hq; replace hq := hq.after hbz HB5'.out; obtain ⟨rb', nb', ty', nu', rfl, h1, h2, h3⟩ := hq; have Y1 := Lib.hid h1; have Y2 := Lib.hid h2; have Y3 := Lib.hid h3; clear h1 h2 h3)
        go_ret2
        exact ⟨rb', nb', ty', nu', rfl, Y1.out, Y2.out, Y3.out⟩
  · rw [ofJ_takes hlen]
    have HM := Lib.hid (MadeJ.of (w1 := w) (i := 0) (e := 18) hst hB (Below.refl _ _))
    have HTK := Lib.hid (takes_any s w hbi)
    obtain ⟨n, hn⟩ : ∃ n, l.length = n := ⟨_, rfl⟩
    obtain ⟨k, hk⟩ : ∃ k, takesJ s = k := ⟨_, rfl⟩
    rw [hn] at hlen ⊢
    rw [hk] at hlen HTK
    have tz : ((n : Int) == (k : Int)) = false := by simp; omega
    have tz2 : ¬ (n : Int) = (k : Int) := by omega
    clear hst hO hl hr hn hk hlen
    go_enter Try.func27, Try.ntmps27
    go_wp2_with (go_at_call 48; (refine HTK.out.mono ?_); rintro e w0 ⟨rfl, rfl⟩)
    go_ret2
    exact HM.out
set_option maxHeartbeats 4000000 in
theorem Of_any (s : List UInt8) (hbi : builtinB s = true) (l : List Nat) (w : World) (B tb rb nb mb sb m : Nat) (ty nu : Value) (T : List Kz) (N : List NN) (G : List GN) (vs : List Value) (hst : StV B w tb rb nb mb sb m ty nu T N G vs) (hB : B ≤ w.heap.size) (hO : OpL T N) (hl : ∀ j ∈ l, j < T.length) (aa : Option Addr) (ca : Nat) (hr : RowV w (Any w) aa 1 (idsL l)) :
    Calls Try.prog 13 #[.pointer (some ⟨tb, 0, none⟩), .string ⟨s.toArray⟩, .slice aa l.length ca] w (MadeJ B w tb rb nb mb sb m N G vs (ofJ T N s l)) := by
  have HCB := Lib.hid (builtin_any s hbi l w B tb rb nb mb sb m ty nu T N G vs hst hB hO hl aa ca hr)
  have HBI := Lib.hid (Builtin_any s w)
  rw [hbi] at HBI
  clear hst hO hl hr
  go_enter Try.func13, Try.ntmps13
  go_wp2_with (first | (go_at_call 26; (refine HBI.out.mono ?_); rintro e w0 ⟨rfl, rfl⟩) | (go_at_call 27; (refine HCB.out.mono ?_); intro e w6 hq; obtain ⟨rb', nb', ty', nu', rfl, h1, h2, h3⟩ := hq; have Y1 := Lib.hid h1; have Y2 := Lib.hid h2; have Y3 := Lib.hid h3; clear h1 h2 h3))
  go_ret2
  exact ⟨rb', nb', ty', nu', rfl, Y1.out, Y2.out, Y3.out⟩
end Sp
end Go.Proofs.Ytdophmlnmbcjlaa
