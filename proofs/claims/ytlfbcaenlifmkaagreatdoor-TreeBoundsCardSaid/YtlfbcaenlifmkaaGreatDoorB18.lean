/- The kind of an action; a variable that is set. Written by gen_qknd.py. -/
import Derived.Test.YtlfbcaenlifmkaaGreatDoorB17
namespace Go.Proofs.YtlfbcaenlifmkaaGreatDoor
open Go.RowKit
namespace Tr
open Sc Sh Sp
/-- What kind leaves. -/
def KndP (w : World) (rb br : Nat) (x : Int × R) (e : Ending) (w' : World) : Prop := e = .returned (.int .i64 x.1) ∧ RdE w' rb x.2 br ∧ Only rb w w'
set_option maxRecDepth 100000 in
set_option maxHeartbeats 1000000 in
theorem kind_verb (w : World) (rb : Nat) (r : R) (br : Nat) (h : RdE w rb r br) (hE : Env w rb) (k : Int) (h0 : 1 ≤ r.ws.length) (hk : (r.at_ 0).kind = 1) (hv : verbK (r.at_ 0).text = some k) :
    Calls Tryz.prog 151 #[.pointer (some ⟨rb, 0, none⟩)] w (KndP w rb br (k, r.step)) := by
  have hrb := h.lt
  have CA := at0_any w rb r br h
  have CV := fun w' (hw : Below w.heap.size w w') => verbOf_any (r.at_ 0).text w' (hE.tab.below hw)
  have CS := fun w' (hw : Below w.heap.size w w') => step_any w' rb r br h0 (h.keep hw)
  have tk : (((r.at_ 0).kind : Int) == 1) = true := by simp [hk]
  rw [hv] at CV
  simp only [Option.getD_some, Option.isSome_some] at CV
  unfold tokV at CA
  generalize r.at_ 0 = t at *
  have HA := Lib.hid CA; have HV := Lib.hid CV; have HH := Lib.hid h
  have HS := Lib.hid CS; clear CS hk hv
  clear CA CV h hE
  go_enter Tryz.func151, Tryz.ntmps151
  go_upto_region 2 with (go_at_call 85; (with_reducible refine HA.out.mono ?_); rintro e w1 ⟨rfl, b1⟩; have B1 := Lib.hid b1; clear b1)
  obtain ⟨W2, hW2⟩ : ∃ W2, W2 = w1.alloc (.cells #[.int .i64 t.kind, .string ⟨t.text.toArray⟩, .int .i64 t.n, .int .i64 t.at_] 157) := ⟨_, rfl⟩
  have hb2 : Below w.heap.size w W2 := by rw [hW2]; exact B1.out.alloc B1.out.size _
  have hx2 : W2.heap[w1.heap.size]? = some (.cells #[.int .i64 t.kind, .string ⟨t.text.toArray⟩, .int .i64 t.n, .int .i64 t.at_] 157 (0, 0)) := by rw [hW2]; exact heap_alloc_new w1 _
  have hbn := B1.out.size
  rw [← hW2]
  clear hW2
  generalize w1.heap.size = bb at *
  have hbl := (Array.getElem?_eq_some_iff.1 hx2).1
  obtain ⟨⟨z0, z1, z2, z3⟩, -⟩ := four_blk hx2
  have HB2 := Lib.hid hb2; have HX2 := Lib.hid hx2
  clear hb2 hx2
  go_wp2_with (first
    | (go_at_call 164; (refine (HV.out W2 HB2.out).mono ?_); rintro e w3 ⟨rfl, b3⟩; have B3 := Lib.hid (HB2.out.trans (b3.mono HB2.out.size)); have hx3 := (b3.block bb hbl).trans HX2.out; have hbl3 := (Array.getElem?_eq_some_iff.1 hx3).1; obtain ⟨⟨x0, x1, x2, x3⟩, -⟩ := four_blk hx3; have HX3 := Lib.hid hx3; clear b3 hx3)
    | (go_at_call 89; (refine (HS.out w3 B3.out).mono ?_); rintro e w4 ⟨rfl, h4, o4⟩))
  go_ret
  exact ⟨rfl, h4, (Only.of_below B3.out).trans o4⟩
set_option maxRecDepth 100000 in
set_option maxHeartbeats 1000000 in
theorem kind_c0 (w : World) (rb : Nat) (r : R) (br : Nat) (h : RdE w rb r br) (hE : Env w rb) (hv : verbK (r.at_ 0).text = none) (hs : isS (r.at_ 0) [36] = false) :
    Calls Tryz.prog 151 #[.pointer (some ⟨rb, 0, none⟩)] w (KndP w rb br (2, r)) := by
  have hrb := h.lt
  have CA := at0_any w rb r br h
  have CV := fun w' (hw : Below w.heap.size w w') => verbOf_any (r.at_ 0).text w' (hE.tab.below hw)
  rw [hv] at CV
  simp only [Option.getD_none, Option.isSome_none] at CV
  have CI := fun w' => isSign_any (r.at_ 0) [36] w'
  rw [hs] at CI
  unfold tokV at CI
  unfold tokV at CA
  generalize r.at_ 0 = t at *
  have HA := Lib.hid CA; have HV := Lib.hid CV; have HH := Lib.hid h
  have HI := Lib.hid CI; clear CI hv hs
  clear CA CV h hE
  go_enter Tryz.func151, Tryz.ntmps151
  go_upto_region 2 with (go_at_call 85; (with_reducible refine HA.out.mono ?_); rintro e w1 ⟨rfl, b1⟩; have B1 := Lib.hid b1; clear b1)
  obtain ⟨W2, hW2⟩ : ∃ W2, W2 = w1.alloc (.cells #[.int .i64 t.kind, .string ⟨t.text.toArray⟩, .int .i64 t.n, .int .i64 t.at_] 157) := ⟨_, rfl⟩
  have hb2 : Below w.heap.size w W2 := by rw [hW2]; exact B1.out.alloc B1.out.size _
  have hx2 : W2.heap[w1.heap.size]? = some (.cells #[.int .i64 t.kind, .string ⟨t.text.toArray⟩, .int .i64 t.n, .int .i64 t.at_] 157 (0, 0)) := by rw [hW2]; exact heap_alloc_new w1 _
  have hbn := B1.out.size
  rw [← hW2]
  clear hW2
  generalize w1.heap.size = bb at *
  have hbl := (Array.getElem?_eq_some_iff.1 hx2).1
  obtain ⟨⟨z0, z1, z2, z3⟩, -⟩ := four_blk hx2
  have HB2 := Lib.hid hb2; have HX2 := Lib.hid hx2
  clear hb2 hx2
  go_wp2_with (first
    | (go_at_call 164; (refine (HV.out W2 HB2.out).mono ?_); rintro e w3 ⟨rfl, b3⟩; have B3 := Lib.hid (HB2.out.trans (b3.mono HB2.out.size)); have hx3 := (b3.block bb hbl).trans HX2.out; have hbl3 := (Array.getElem?_eq_some_iff.1 hx3).1; obtain ⟨⟨x0, x1, x2, x3⟩, -⟩ := four_blk hx3; have HX3 := Lib.hid hx3; clear b3 hx3)
    | (go_at_call 88; (refine (HI.out w3).mono ?_); rintro e w4 ⟨rfl, b4⟩; have B4 := Lib.hid (B3.out.trans (b4.mono B3.out.size)); clear b4))
  go_ret
  exact ⟨rfl, HH.out.keep B4.out, Only.of_below B4.out⟩
set_option maxRecDepth 100000 in
set_option maxHeartbeats 1000000 in
theorem kind_d0 (w : World) (rb : Nat) (r : R) (br : Nat) (h : RdE w rb r br) (hE : Env w rb) (hv : verbK (r.at_ 0).text = none) (hs : isS (r.at_ 0) [36] = true) (hk : (r.at_ 1).kind ≠ 1) :
    Calls Tryz.prog 151 #[.pointer (some ⟨rb, 0, none⟩)] w (KndP w rb br (2, r)) := by
  have hrb := h.lt
  have CA := at0_any w rb r br h
  have CV := fun w' (hw : Below w.heap.size w w') => verbOf_any (r.at_ 0).text w' (hE.tab.below hw)
  rw [hv] at CV
  simp only [Option.getD_none, Option.isSome_none] at CV
  have CI := fun w' => isSign_any (r.at_ 0) [36] w'
  rw [hs] at CI
  unfold tokV at CI
  have CA1 := fun w' (hw : Below w.heap.size w w') => at1_any w' rb r br (h.keep hw)
  unfold tokV at CA1
  have t1 := tok_f0 (r.at_ 1)
  have tk1 : (((r.at_ 1).kind : Int) != 1) = true := by simp; omega
  unfold tokV at CA
  generalize r.at_ 0 = t at *
  have HA := Lib.hid CA; have HV := Lib.hid CV; have HH := Lib.hid h
  generalize r.at_ 1 = t1 at *
  have HI := Lib.hid CI; have HA1 := Lib.hid CA1; clear CI CA1 hv hs hk
  clear CA CV h hE
  go_enter Tryz.func151, Tryz.ntmps151
  go_upto_region 2 with (go_at_call 85; (with_reducible refine HA.out.mono ?_); rintro e w1 ⟨rfl, b1⟩; have B1 := Lib.hid b1; clear b1)
  obtain ⟨W2, hW2⟩ : ∃ W2, W2 = w1.alloc (.cells #[.int .i64 t.kind, .string ⟨t.text.toArray⟩, .int .i64 t.n, .int .i64 t.at_] 157) := ⟨_, rfl⟩
  have hb2 : Below w.heap.size w W2 := by rw [hW2]; exact B1.out.alloc B1.out.size _
  have hx2 : W2.heap[w1.heap.size]? = some (.cells #[.int .i64 t.kind, .string ⟨t.text.toArray⟩, .int .i64 t.n, .int .i64 t.at_] 157 (0, 0)) := by rw [hW2]; exact heap_alloc_new w1 _
  have hbn := B1.out.size
  rw [← hW2]
  clear hW2
  generalize w1.heap.size = bb at *
  have hbl := (Array.getElem?_eq_some_iff.1 hx2).1
  obtain ⟨⟨z0, z1, z2, z3⟩, -⟩ := four_blk hx2
  have HB2 := Lib.hid hb2; have HX2 := Lib.hid hx2
  clear hb2 hx2
  go_wp2_with (first
    | (go_at_call 164; (refine (HV.out W2 HB2.out).mono ?_); rintro e w3 ⟨rfl, b3⟩; have B3 := Lib.hid (HB2.out.trans (b3.mono HB2.out.size)); have hx3 := (b3.block bb hbl).trans HX2.out; have hbl3 := (Array.getElem?_eq_some_iff.1 hx3).1; obtain ⟨⟨x0, x1, x2, x3⟩, -⟩ := four_blk hx3; have HX3 := Lib.hid hx3; clear b3 hx3)
    | (go_at_call 88; (refine (HI.out w3).mono ?_); rintro e w4 ⟨rfl, b4⟩; have B4 := Lib.hid (B3.out.trans (b4.mono B3.out.size)); clear b4)
    | (go_at_call 85; (with_reducible refine (HA1.out w4 B4.out).mono ?_); rintro e w5 ⟨rfl, b5⟩; have B5 := Lib.hid (B4.out.trans (b5.mono B4.out.size)); clear b5))
  go_ret
  exact ⟨rfl, HH.out.keep B5.out, Only.of_below B5.out⟩
set_option maxRecDepth 100000 in
set_option maxHeartbeats 1000000 in
theorem kind_e0 (w : World) (rb : Nat) (r : R) (br : Nat) (h : RdE w rb r br) (hE : Env w rb) (hv : verbK (r.at_ 0).text = none) (hs : isS (r.at_ 0) [36] = true) (hk : (r.at_ 1).kind = 1) (hj : isS (r.at_ 2) [58, 61] = true) :
    Calls Tryz.prog 151 #[.pointer (some ⟨rb, 0, none⟩)] w (KndP w rb br (3, r)) := by
  have hrb := h.lt
  have CA := at0_any w rb r br h
  have CV := fun w' (hw : Below w.heap.size w w') => verbOf_any (r.at_ 0).text w' (hE.tab.below hw)
  rw [hv] at CV
  simp only [Option.getD_none, Option.isSome_none] at CV
  have CI := fun w' => isSign_any (r.at_ 0) [36] w'
  rw [hs] at CI
  unfold tokV at CI
  have CA1 := fun w' (hw : Below w.heap.size w w') => at1_any w' rb r br (h.keep hw)
  unfold tokV at CA1
  have t1 := tok_f0 (r.at_ 1)
  have tk1 : (((r.at_ 1).kind : Int) != 1) = false := by simp; omega
  have CA2 := fun w' (hw : Below w.heap.size w w') => at2_any w' rb r br (h.keep hw)
  unfold tokV at CA2
  have CJ := fun w' => isSign_any (r.at_ 2) [58, 61] w'
  have CK := fun w' => isSign_any (r.at_ 2) [61] w'
  unfold tokV str at CJ CK
  rw [hj] at CJ
  unfold tokV at CA
  generalize r.at_ 0 = t at *
  have HA := Lib.hid CA; have HV := Lib.hid CV; have HH := Lib.hid h
  generalize r.at_ 1 = t1 at *
  generalize r.at_ 2 = t2 at *
  have HI := Lib.hid CI; have HA1 := Lib.hid CA1; have HA2 := Lib.hid CA2; have HJ := Lib.hid CJ; have HK := Lib.hid CK; clear CI CA1 CA2 CJ CK hv hs hk hj 
  clear CA CV h hE
  go_enter Tryz.func151, Tryz.ntmps151
  go_upto_region 2 with (go_at_call 85; (with_reducible refine HA.out.mono ?_); rintro e w1 ⟨rfl, b1⟩; have B1 := Lib.hid b1; clear b1)
  obtain ⟨W2, hW2⟩ : ∃ W2, W2 = w1.alloc (.cells #[.int .i64 t.kind, .string ⟨t.text.toArray⟩, .int .i64 t.n, .int .i64 t.at_] 157) := ⟨_, rfl⟩
  have hb2 : Below w.heap.size w W2 := by rw [hW2]; exact B1.out.alloc B1.out.size _
  have hx2 : W2.heap[w1.heap.size]? = some (.cells #[.int .i64 t.kind, .string ⟨t.text.toArray⟩, .int .i64 t.n, .int .i64 t.at_] 157 (0, 0)) := by rw [hW2]; exact heap_alloc_new w1 _
  have hbn := B1.out.size
  rw [← hW2]
  clear hW2
  generalize w1.heap.size = bb at *
  have hbl := (Array.getElem?_eq_some_iff.1 hx2).1
  obtain ⟨⟨z0, z1, z2, z3⟩, -⟩ := four_blk hx2
  have HB2 := Lib.hid hb2; have HX2 := Lib.hid hx2
  clear hb2 hx2
  go_upto_region 9 with (first
    | (go_at_call 164; (refine (HV.out W2 HB2.out).mono ?_); rintro e w3 ⟨rfl, b3⟩; have B3 := Lib.hid (HB2.out.trans (b3.mono HB2.out.size)); have hx3 := (b3.block bb hbl).trans HX2.out; have hbl3 := (Array.getElem?_eq_some_iff.1 hx3).1; obtain ⟨⟨x0, x1, x2, x3⟩, -⟩ := four_blk hx3; have HX3 := Lib.hid hx3; clear b3 hx3)
    | (go_at_call 88; (refine (HI.out w3).mono ?_); rintro e w4 ⟨rfl, b4⟩; have B4 := Lib.hid (B3.out.trans (b4.mono B3.out.size)); clear b4)
    | (go_at_call 85; (with_reducible refine (HA1.out w4 B4.out).mono ?_); rintro e w5 ⟨rfl, b5⟩; have B5 := Lib.hid (B4.out.trans (b5.mono B4.out.size)); clear b5)
    | (go_at_call 85; (with_reducible refine (HA2.out w5 B5.out).mono ?_); rintro e w6 ⟨rfl, b6⟩; have B6 := Lib.hid (B5.out.trans (b6.mono B5.out.size)); clear b6))
  obtain ⟨W7, hW7⟩ : ∃ W7, W7 = w6.alloc (.cells #[.int .i64 t2.kind, .string ⟨t2.text.toArray⟩, .int .i64 t2.n, .int .i64 t2.at_] 157) := ⟨_, rfl⟩
  have hb7 : Below w.heap.size w W7 := by rw [hW7]; exact B6.out.alloc B6.out.size _
  have hy7 : W7.heap[w6.heap.size]? = some (.cells #[.int .i64 t2.kind, .string ⟨t2.text.toArray⟩, .int .i64 t2.n, .int .i64 t2.at_] 157 (0, 0)) := by rw [hW7]; exact heap_alloc_new w6 _
  rw [← hW7]
  clear hW7
  generalize w6.heap.size = cb at *
  have hcl := (Array.getElem?_eq_some_iff.1 hy7).1
  obtain ⟨⟨u0, u1, u2, u3⟩, -⟩ := four_blk hy7
  have HB7 := Lib.hid hb7; have HY7 := Lib.hid hy7
  clear hb7 hy7
  go_wp2_with (first
    | (go_at_call 88; (with_reducible refine (HJ.out W7).mono ?_); rintro e w8 ⟨rfl, b8⟩; have B8 := Lib.hid (HB7.out.trans (b8.mono HB7.out.size)); have hy8 := (b8.block cb hcl).trans HY7.out; have hcl8 := (Array.getElem?_eq_some_iff.1 hy8).1; obtain ⟨⟨y0, y1, y2, y3⟩, -⟩ := four_blk hy8; clear b8 hy8))
  go_ret
  exact ⟨rfl, HH.out.keep B8.out, Only.of_below B8.out⟩
set_option maxRecDepth 100000 in
set_option maxHeartbeats 1000000 in
theorem kind_f0 (w : World) (rb : Nat) (r : R) (br : Nat) (h : RdE w rb r br) (hE : Env w rb) (hv : verbK (r.at_ 0).text = none) (hs : isS (r.at_ 0) [36] = true) (hk : (r.at_ 1).kind = 1) (hj : isS (r.at_ 2) [58, 61] = false) (hj2 : isS (r.at_ 2) [61] = true) :
    Calls Tryz.prog 151 #[.pointer (some ⟨rb, 0, none⟩)] w (KndP w rb br (4, r)) := by
  have hrb := h.lt
  have CA := at0_any w rb r br h
  have CV := fun w' (hw : Below w.heap.size w w') => verbOf_any (r.at_ 0).text w' (hE.tab.below hw)
  rw [hv] at CV
  simp only [Option.getD_none, Option.isSome_none] at CV
  have CI := fun w' => isSign_any (r.at_ 0) [36] w'
  rw [hs] at CI
  unfold tokV at CI
  have CA1 := fun w' (hw : Below w.heap.size w w') => at1_any w' rb r br (h.keep hw)
  unfold tokV at CA1
  have t1 := tok_f0 (r.at_ 1)
  have tk1 : (((r.at_ 1).kind : Int) != 1) = false := by simp; omega
  have CA2 := fun w' (hw : Below w.heap.size w w') => at2_any w' rb r br (h.keep hw)
  unfold tokV at CA2
  have CJ := fun w' => isSign_any (r.at_ 2) [58, 61] w'
  have CK := fun w' => isSign_any (r.at_ 2) [61] w'
  unfold tokV str at CJ CK
  rw [hj] at CJ
  rw [hj2] at CK
  unfold tokV at CA
  generalize r.at_ 0 = t at *
  have HA := Lib.hid CA; have HV := Lib.hid CV; have HH := Lib.hid h
  generalize r.at_ 1 = t1 at *
  generalize r.at_ 2 = t2 at *
  have HI := Lib.hid CI; have HA1 := Lib.hid CA1; have HA2 := Lib.hid CA2; have HJ := Lib.hid CJ; have HK := Lib.hid CK; clear CI CA1 CA2 CJ CK hv hs hk hj hj2
  clear CA CV h hE
  go_enter Tryz.func151, Tryz.ntmps151
  go_upto_region 2 with (go_at_call 85; (with_reducible refine HA.out.mono ?_); rintro e w1 ⟨rfl, b1⟩; have B1 := Lib.hid b1; clear b1)
  obtain ⟨W2, hW2⟩ : ∃ W2, W2 = w1.alloc (.cells #[.int .i64 t.kind, .string ⟨t.text.toArray⟩, .int .i64 t.n, .int .i64 t.at_] 157) := ⟨_, rfl⟩
  have hb2 : Below w.heap.size w W2 := by rw [hW2]; exact B1.out.alloc B1.out.size _
  have hx2 : W2.heap[w1.heap.size]? = some (.cells #[.int .i64 t.kind, .string ⟨t.text.toArray⟩, .int .i64 t.n, .int .i64 t.at_] 157 (0, 0)) := by rw [hW2]; exact heap_alloc_new w1 _
  have hbn := B1.out.size
  rw [← hW2]
  clear hW2
  generalize w1.heap.size = bb at *
  have hbl := (Array.getElem?_eq_some_iff.1 hx2).1
  obtain ⟨⟨z0, z1, z2, z3⟩, -⟩ := four_blk hx2
  have HB2 := Lib.hid hb2; have HX2 := Lib.hid hx2
  clear hb2 hx2
  go_upto_region 9 with (first
    | (go_at_call 164; (refine (HV.out W2 HB2.out).mono ?_); rintro e w3 ⟨rfl, b3⟩; have B3 := Lib.hid (HB2.out.trans (b3.mono HB2.out.size)); have hx3 := (b3.block bb hbl).trans HX2.out; have hbl3 := (Array.getElem?_eq_some_iff.1 hx3).1; obtain ⟨⟨x0, x1, x2, x3⟩, -⟩ := four_blk hx3; have HX3 := Lib.hid hx3; clear b3 hx3)
    | (go_at_call 88; (refine (HI.out w3).mono ?_); rintro e w4 ⟨rfl, b4⟩; have B4 := Lib.hid (B3.out.trans (b4.mono B3.out.size)); clear b4)
    | (go_at_call 85; (with_reducible refine (HA1.out w4 B4.out).mono ?_); rintro e w5 ⟨rfl, b5⟩; have B5 := Lib.hid (B4.out.trans (b5.mono B4.out.size)); clear b5)
    | (go_at_call 85; (with_reducible refine (HA2.out w5 B5.out).mono ?_); rintro e w6 ⟨rfl, b6⟩; have B6 := Lib.hid (B5.out.trans (b6.mono B5.out.size)); clear b6))
  obtain ⟨W7, hW7⟩ : ∃ W7, W7 = w6.alloc (.cells #[.int .i64 t2.kind, .string ⟨t2.text.toArray⟩, .int .i64 t2.n, .int .i64 t2.at_] 157) := ⟨_, rfl⟩
  have hb7 : Below w.heap.size w W7 := by rw [hW7]; exact B6.out.alloc B6.out.size _
  have hy7 : W7.heap[w6.heap.size]? = some (.cells #[.int .i64 t2.kind, .string ⟨t2.text.toArray⟩, .int .i64 t2.n, .int .i64 t2.at_] 157 (0, 0)) := by rw [hW7]; exact heap_alloc_new w6 _
  rw [← hW7]
  clear hW7
  generalize w6.heap.size = cb at *
  have hcl := (Array.getElem?_eq_some_iff.1 hy7).1
  obtain ⟨⟨u0, u1, u2, u3⟩, -⟩ := four_blk hy7
  have HB7 := Lib.hid hb7; have HY7 := Lib.hid hy7
  clear hb7 hy7
  go_wp2_with (first
    | (go_at_call 88; (with_reducible refine (HJ.out W7).mono ?_); rintro e w8 ⟨rfl, b8⟩; have B8 := Lib.hid (HB7.out.trans (b8.mono HB7.out.size)); have hy8 := (b8.block cb hcl).trans HY7.out; have hcl8 := (Array.getElem?_eq_some_iff.1 hy8).1; obtain ⟨⟨y0, y1, y2, y3⟩, -⟩ := four_blk hy8; clear b8 hy8)
    | (go_at_call 88; (with_reducible refine (HK.out w8).mono ?_); rintro e w9 ⟨rfl, b9⟩; have B9 := Lib.hid (B8.out.trans (b9.mono B8.out.size)); clear b9))
  go_ret
  exact ⟨rfl, HH.out.keep B9.out, Only.of_below B9.out⟩
set_option maxRecDepth 100000 in
set_option maxHeartbeats 1000000 in
theorem kind_g0 (w : World) (rb : Nat) (r : R) (br : Nat) (h : RdE w rb r br) (hE : Env w rb) (hv : verbK (r.at_ 0).text = none) (hs : isS (r.at_ 0) [36] = true) (hk : (r.at_ 1).kind = 1) (hj : isS (r.at_ 2) [58, 61] = false) (hj2 : isS (r.at_ 2) [61] = false) :
    Calls Tryz.prog 151 #[.pointer (some ⟨rb, 0, none⟩)] w (KndP w rb br (2, r)) := by
  have hrb := h.lt
  have CA := at0_any w rb r br h
  have CV := fun w' (hw : Below w.heap.size w w') => verbOf_any (r.at_ 0).text w' (hE.tab.below hw)
  rw [hv] at CV
  simp only [Option.getD_none, Option.isSome_none] at CV
  have CI := fun w' => isSign_any (r.at_ 0) [36] w'
  rw [hs] at CI
  unfold tokV at CI
  have CA1 := fun w' (hw : Below w.heap.size w w') => at1_any w' rb r br (h.keep hw)
  unfold tokV at CA1
  have t1 := tok_f0 (r.at_ 1)
  have tk1 : (((r.at_ 1).kind : Int) != 1) = false := by simp; omega
  have CA2 := fun w' (hw : Below w.heap.size w w') => at2_any w' rb r br (h.keep hw)
  unfold tokV at CA2
  have CJ := fun w' => isSign_any (r.at_ 2) [58, 61] w'
  have CK := fun w' => isSign_any (r.at_ 2) [61] w'
  unfold tokV str at CJ CK
  rw [hj] at CJ
  rw [hj2] at CK
  unfold tokV at CA
  generalize r.at_ 0 = t at *
  have HA := Lib.hid CA; have HV := Lib.hid CV; have HH := Lib.hid h
  generalize r.at_ 1 = t1 at *
  generalize r.at_ 2 = t2 at *
  have HI := Lib.hid CI; have HA1 := Lib.hid CA1; have HA2 := Lib.hid CA2; have HJ := Lib.hid CJ; have HK := Lib.hid CK; clear CI CA1 CA2 CJ CK hv hs hk hj hj2
  clear CA CV h hE
  go_enter Tryz.func151, Tryz.ntmps151
  go_upto_region 2 with (go_at_call 85; (with_reducible refine HA.out.mono ?_); rintro e w1 ⟨rfl, b1⟩; have B1 := Lib.hid b1; clear b1)
  obtain ⟨W2, hW2⟩ : ∃ W2, W2 = w1.alloc (.cells #[.int .i64 t.kind, .string ⟨t.text.toArray⟩, .int .i64 t.n, .int .i64 t.at_] 157) := ⟨_, rfl⟩
  have hb2 : Below w.heap.size w W2 := by rw [hW2]; exact B1.out.alloc B1.out.size _
  have hx2 : W2.heap[w1.heap.size]? = some (.cells #[.int .i64 t.kind, .string ⟨t.text.toArray⟩, .int .i64 t.n, .int .i64 t.at_] 157 (0, 0)) := by rw [hW2]; exact heap_alloc_new w1 _
  have hbn := B1.out.size
  rw [← hW2]
  clear hW2
  generalize w1.heap.size = bb at *
  have hbl := (Array.getElem?_eq_some_iff.1 hx2).1
  obtain ⟨⟨z0, z1, z2, z3⟩, -⟩ := four_blk hx2
  have HB2 := Lib.hid hb2; have HX2 := Lib.hid hx2
  clear hb2 hx2
  go_upto_region 9 with (first
    | (go_at_call 164; (refine (HV.out W2 HB2.out).mono ?_); rintro e w3 ⟨rfl, b3⟩; have B3 := Lib.hid (HB2.out.trans (b3.mono HB2.out.size)); have hx3 := (b3.block bb hbl).trans HX2.out; have hbl3 := (Array.getElem?_eq_some_iff.1 hx3).1; obtain ⟨⟨x0, x1, x2, x3⟩, -⟩ := four_blk hx3; have HX3 := Lib.hid hx3; clear b3 hx3)
    | (go_at_call 88; (refine (HI.out w3).mono ?_); rintro e w4 ⟨rfl, b4⟩; have B4 := Lib.hid (B3.out.trans (b4.mono B3.out.size)); clear b4)
    | (go_at_call 85; (with_reducible refine (HA1.out w4 B4.out).mono ?_); rintro e w5 ⟨rfl, b5⟩; have B5 := Lib.hid (B4.out.trans (b5.mono B4.out.size)); clear b5)
    | (go_at_call 85; (with_reducible refine (HA2.out w5 B5.out).mono ?_); rintro e w6 ⟨rfl, b6⟩; have B6 := Lib.hid (B5.out.trans (b6.mono B5.out.size)); clear b6))
  obtain ⟨W7, hW7⟩ : ∃ W7, W7 = w6.alloc (.cells #[.int .i64 t2.kind, .string ⟨t2.text.toArray⟩, .int .i64 t2.n, .int .i64 t2.at_] 157) := ⟨_, rfl⟩
  have hb7 : Below w.heap.size w W7 := by rw [hW7]; exact B6.out.alloc B6.out.size _
  have hy7 : W7.heap[w6.heap.size]? = some (.cells #[.int .i64 t2.kind, .string ⟨t2.text.toArray⟩, .int .i64 t2.n, .int .i64 t2.at_] 157 (0, 0)) := by rw [hW7]; exact heap_alloc_new w6 _
  rw [← hW7]
  clear hW7
  generalize w6.heap.size = cb at *
  have hcl := (Array.getElem?_eq_some_iff.1 hy7).1
  obtain ⟨⟨u0, u1, u2, u3⟩, -⟩ := four_blk hy7
  have HB7 := Lib.hid hb7; have HY7 := Lib.hid hy7
  clear hb7 hy7
  go_wp2_with (first
    | (go_at_call 88; (with_reducible refine (HJ.out W7).mono ?_); rintro e w8 ⟨rfl, b8⟩; have B8 := Lib.hid (HB7.out.trans (b8.mono HB7.out.size)); have hy8 := (b8.block cb hcl).trans HY7.out; have hcl8 := (Array.getElem?_eq_some_iff.1 hy8).1; obtain ⟨⟨y0, y1, y2, y3⟩, -⟩ := four_blk hy8; clear b8 hy8)
    | (go_at_call 88; (with_reducible refine (HK.out w8).mono ?_); rintro e w9 ⟨rfl, b9⟩; have B9 := Lib.hid (B8.out.trans (b9.mono B8.out.size)); clear b9))
  go_ret
  exact ⟨rfl, HH.out.keep B9.out, Only.of_below B9.out⟩
set_option maxRecDepth 100000 in
set_option maxHeartbeats 1000000 in
theorem kind_c1 (w : World) (rb : Nat) (r : R) (br : Nat) (h : RdE w rb r br) (hE : Env w rb) (hk1 : (r.at_ 0).kind ≠ 1) (k : Int) (hv : verbK (r.at_ 0).text = some k) (hs : isS (r.at_ 0) [36] = false) :
    Calls Tryz.prog 151 #[.pointer (some ⟨rb, 0, none⟩)] w (KndP w rb br (2, r)) := by
  have hrb := h.lt
  have CA := at0_any w rb r br h
  have CV := fun w' (hw : Below w.heap.size w w') => verbOf_any (r.at_ 0).text w' (hE.tab.below hw)
  have tk : (((r.at_ 0).kind : Int) == 1) = false := by simp; omega
  rw [hv] at CV
  simp only [Option.getD_some, Option.isSome_some] at CV
  have CI := fun w' => isSign_any (r.at_ 0) [36] w'
  rw [hs] at CI
  unfold tokV at CI
  unfold tokV at CA
  generalize r.at_ 0 = t at *
  have HA := Lib.hid CA; have HV := Lib.hid CV; have HH := Lib.hid h
  have HI := Lib.hid CI; clear CI hk1 hv hs
  clear CA CV h hE
  go_enter Tryz.func151, Tryz.ntmps151
  go_upto_region 2 with (go_at_call 85; (with_reducible refine HA.out.mono ?_); rintro e w1 ⟨rfl, b1⟩; have B1 := Lib.hid b1; clear b1)
  obtain ⟨W2, hW2⟩ : ∃ W2, W2 = w1.alloc (.cells #[.int .i64 t.kind, .string ⟨t.text.toArray⟩, .int .i64 t.n, .int .i64 t.at_] 157) := ⟨_, rfl⟩
  have hb2 : Below w.heap.size w W2 := by rw [hW2]; exact B1.out.alloc B1.out.size _
  have hx2 : W2.heap[w1.heap.size]? = some (.cells #[.int .i64 t.kind, .string ⟨t.text.toArray⟩, .int .i64 t.n, .int .i64 t.at_] 157 (0, 0)) := by rw [hW2]; exact heap_alloc_new w1 _
  have hbn := B1.out.size
  rw [← hW2]
  clear hW2
  generalize w1.heap.size = bb at *
  have hbl := (Array.getElem?_eq_some_iff.1 hx2).1
  obtain ⟨⟨z0, z1, z2, z3⟩, -⟩ := four_blk hx2
  have HB2 := Lib.hid hb2; have HX2 := Lib.hid hx2
  clear hb2 hx2
  go_wp2_with (first
    | (go_at_call 164; (refine (HV.out W2 HB2.out).mono ?_); rintro e w3 ⟨rfl, b3⟩; have B3 := Lib.hid (HB2.out.trans (b3.mono HB2.out.size)); have hx3 := (b3.block bb hbl).trans HX2.out; have hbl3 := (Array.getElem?_eq_some_iff.1 hx3).1; obtain ⟨⟨x0, x1, x2, x3⟩, -⟩ := four_blk hx3; have HX3 := Lib.hid hx3; clear b3 hx3)
    | (go_at_call 88; (refine (HI.out w3).mono ?_); rintro e w4 ⟨rfl, b4⟩; have B4 := Lib.hid (B3.out.trans (b4.mono B3.out.size)); clear b4))
  go_ret
  exact ⟨rfl, HH.out.keep B4.out, Only.of_below B4.out⟩
set_option maxRecDepth 100000 in
set_option maxHeartbeats 1000000 in
theorem kind_d1 (w : World) (rb : Nat) (r : R) (br : Nat) (h : RdE w rb r br) (hE : Env w rb) (hk1 : (r.at_ 0).kind ≠ 1) (k : Int) (hv : verbK (r.at_ 0).text = some k) (hs : isS (r.at_ 0) [36] = true) (hk : (r.at_ 1).kind ≠ 1) :
    Calls Tryz.prog 151 #[.pointer (some ⟨rb, 0, none⟩)] w (KndP w rb br (2, r)) := by
  have hrb := h.lt
  have CA := at0_any w rb r br h
  have CV := fun w' (hw : Below w.heap.size w w') => verbOf_any (r.at_ 0).text w' (hE.tab.below hw)
  have tk : (((r.at_ 0).kind : Int) == 1) = false := by simp; omega
  rw [hv] at CV
  simp only [Option.getD_some, Option.isSome_some] at CV
  have CI := fun w' => isSign_any (r.at_ 0) [36] w'
  rw [hs] at CI
  unfold tokV at CI
  have CA1 := fun w' (hw : Below w.heap.size w w') => at1_any w' rb r br (h.keep hw)
  unfold tokV at CA1
  have t1 := tok_f0 (r.at_ 1)
  have tk1 : (((r.at_ 1).kind : Int) != 1) = true := by simp; omega
  unfold tokV at CA
  generalize r.at_ 0 = t at *
  have HA := Lib.hid CA; have HV := Lib.hid CV; have HH := Lib.hid h
  generalize r.at_ 1 = t1 at *
  have HI := Lib.hid CI; have HA1 := Lib.hid CA1; clear CI CA1 hk1 hv hs hk
  clear CA CV h hE
  go_enter Tryz.func151, Tryz.ntmps151
  go_upto_region 2 with (go_at_call 85; (with_reducible refine HA.out.mono ?_); rintro e w1 ⟨rfl, b1⟩; have B1 := Lib.hid b1; clear b1)
  obtain ⟨W2, hW2⟩ : ∃ W2, W2 = w1.alloc (.cells #[.int .i64 t.kind, .string ⟨t.text.toArray⟩, .int .i64 t.n, .int .i64 t.at_] 157) := ⟨_, rfl⟩
  have hb2 : Below w.heap.size w W2 := by rw [hW2]; exact B1.out.alloc B1.out.size _
  have hx2 : W2.heap[w1.heap.size]? = some (.cells #[.int .i64 t.kind, .string ⟨t.text.toArray⟩, .int .i64 t.n, .int .i64 t.at_] 157 (0, 0)) := by rw [hW2]; exact heap_alloc_new w1 _
  have hbn := B1.out.size
  rw [← hW2]
  clear hW2
  generalize w1.heap.size = bb at *
  have hbl := (Array.getElem?_eq_some_iff.1 hx2).1
  obtain ⟨⟨z0, z1, z2, z3⟩, -⟩ := four_blk hx2
  have HB2 := Lib.hid hb2; have HX2 := Lib.hid hx2
  clear hb2 hx2
  go_wp2_with (first
    | (go_at_call 164; (refine (HV.out W2 HB2.out).mono ?_); rintro e w3 ⟨rfl, b3⟩; have B3 := Lib.hid (HB2.out.trans (b3.mono HB2.out.size)); have hx3 := (b3.block bb hbl).trans HX2.out; have hbl3 := (Array.getElem?_eq_some_iff.1 hx3).1; obtain ⟨⟨x0, x1, x2, x3⟩, -⟩ := four_blk hx3; have HX3 := Lib.hid hx3; clear b3 hx3)
    | (go_at_call 88; (refine (HI.out w3).mono ?_); rintro e w4 ⟨rfl, b4⟩; have B4 := Lib.hid (B3.out.trans (b4.mono B3.out.size)); clear b4)
    | (go_at_call 85; (with_reducible refine (HA1.out w4 B4.out).mono ?_); rintro e w5 ⟨rfl, b5⟩; have B5 := Lib.hid (B4.out.trans (b5.mono B4.out.size)); clear b5))
  go_ret
  exact ⟨rfl, HH.out.keep B5.out, Only.of_below B5.out⟩
set_option maxRecDepth 100000 in
set_option maxHeartbeats 1000000 in
theorem kind_e1 (w : World) (rb : Nat) (r : R) (br : Nat) (h : RdE w rb r br) (hE : Env w rb) (hk1 : (r.at_ 0).kind ≠ 1) (k : Int) (hv : verbK (r.at_ 0).text = some k) (hs : isS (r.at_ 0) [36] = true) (hk : (r.at_ 1).kind = 1) (hj : isS (r.at_ 2) [58, 61] = true) :
    Calls Tryz.prog 151 #[.pointer (some ⟨rb, 0, none⟩)] w (KndP w rb br (3, r)) := by
  have hrb := h.lt
  have CA := at0_any w rb r br h
  have CV := fun w' (hw : Below w.heap.size w w') => verbOf_any (r.at_ 0).text w' (hE.tab.below hw)
  have tk : (((r.at_ 0).kind : Int) == 1) = false := by simp; omega
  rw [hv] at CV
  simp only [Option.getD_some, Option.isSome_some] at CV
  have CI := fun w' => isSign_any (r.at_ 0) [36] w'
  rw [hs] at CI
  unfold tokV at CI
  have CA1 := fun w' (hw : Below w.heap.size w w') => at1_any w' rb r br (h.keep hw)
  unfold tokV at CA1
  have t1 := tok_f0 (r.at_ 1)
  have tk1 : (((r.at_ 1).kind : Int) != 1) = false := by simp; omega
  have CA2 := fun w' (hw : Below w.heap.size w w') => at2_any w' rb r br (h.keep hw)
  unfold tokV at CA2
  have CJ := fun w' => isSign_any (r.at_ 2) [58, 61] w'
  have CK := fun w' => isSign_any (r.at_ 2) [61] w'
  unfold tokV str at CJ CK
  rw [hj] at CJ
  unfold tokV at CA
  generalize r.at_ 0 = t at *
  have HA := Lib.hid CA; have HV := Lib.hid CV; have HH := Lib.hid h
  generalize r.at_ 1 = t1 at *
  generalize r.at_ 2 = t2 at *
  have HI := Lib.hid CI; have HA1 := Lib.hid CA1; have HA2 := Lib.hid CA2; have HJ := Lib.hid CJ; have HK := Lib.hid CK; clear CI CA1 CA2 CJ CK hk1 hv hs hk hj 
  clear CA CV h hE
  go_enter Tryz.func151, Tryz.ntmps151
  go_upto_region 2 with (go_at_call 85; (with_reducible refine HA.out.mono ?_); rintro e w1 ⟨rfl, b1⟩; have B1 := Lib.hid b1; clear b1)
  obtain ⟨W2, hW2⟩ : ∃ W2, W2 = w1.alloc (.cells #[.int .i64 t.kind, .string ⟨t.text.toArray⟩, .int .i64 t.n, .int .i64 t.at_] 157) := ⟨_, rfl⟩
  have hb2 : Below w.heap.size w W2 := by rw [hW2]; exact B1.out.alloc B1.out.size _
  have hx2 : W2.heap[w1.heap.size]? = some (.cells #[.int .i64 t.kind, .string ⟨t.text.toArray⟩, .int .i64 t.n, .int .i64 t.at_] 157 (0, 0)) := by rw [hW2]; exact heap_alloc_new w1 _
  have hbn := B1.out.size
  rw [← hW2]
  clear hW2
  generalize w1.heap.size = bb at *
  have hbl := (Array.getElem?_eq_some_iff.1 hx2).1
  obtain ⟨⟨z0, z1, z2, z3⟩, -⟩ := four_blk hx2
  have HB2 := Lib.hid hb2; have HX2 := Lib.hid hx2
  clear hb2 hx2
  go_upto_region 9 with (first
    | (go_at_call 164; (refine (HV.out W2 HB2.out).mono ?_); rintro e w3 ⟨rfl, b3⟩; have B3 := Lib.hid (HB2.out.trans (b3.mono HB2.out.size)); have hx3 := (b3.block bb hbl).trans HX2.out; have hbl3 := (Array.getElem?_eq_some_iff.1 hx3).1; obtain ⟨⟨x0, x1, x2, x3⟩, -⟩ := four_blk hx3; have HX3 := Lib.hid hx3; clear b3 hx3)
    | (go_at_call 88; (refine (HI.out w3).mono ?_); rintro e w4 ⟨rfl, b4⟩; have B4 := Lib.hid (B3.out.trans (b4.mono B3.out.size)); clear b4)
    | (go_at_call 85; (with_reducible refine (HA1.out w4 B4.out).mono ?_); rintro e w5 ⟨rfl, b5⟩; have B5 := Lib.hid (B4.out.trans (b5.mono B4.out.size)); clear b5)
    | (go_at_call 85; (with_reducible refine (HA2.out w5 B5.out).mono ?_); rintro e w6 ⟨rfl, b6⟩; have B6 := Lib.hid (B5.out.trans (b6.mono B5.out.size)); clear b6))
  obtain ⟨W7, hW7⟩ : ∃ W7, W7 = w6.alloc (.cells #[.int .i64 t2.kind, .string ⟨t2.text.toArray⟩, .int .i64 t2.n, .int .i64 t2.at_] 157) := ⟨_, rfl⟩
  have hb7 : Below w.heap.size w W7 := by rw [hW7]; exact B6.out.alloc B6.out.size _
  have hy7 : W7.heap[w6.heap.size]? = some (.cells #[.int .i64 t2.kind, .string ⟨t2.text.toArray⟩, .int .i64 t2.n, .int .i64 t2.at_] 157 (0, 0)) := by rw [hW7]; exact heap_alloc_new w6 _
  rw [← hW7]
  clear hW7
  generalize w6.heap.size = cb at *
  have hcl := (Array.getElem?_eq_some_iff.1 hy7).1
  obtain ⟨⟨u0, u1, u2, u3⟩, -⟩ := four_blk hy7
  have HB7 := Lib.hid hb7; have HY7 := Lib.hid hy7
  clear hb7 hy7
  go_wp2_with (first
    | (go_at_call 88; (with_reducible refine (HJ.out W7).mono ?_); rintro e w8 ⟨rfl, b8⟩; have B8 := Lib.hid (HB7.out.trans (b8.mono HB7.out.size)); have hy8 := (b8.block cb hcl).trans HY7.out; have hcl8 := (Array.getElem?_eq_some_iff.1 hy8).1; obtain ⟨⟨y0, y1, y2, y3⟩, -⟩ := four_blk hy8; clear b8 hy8))
  go_ret
  exact ⟨rfl, HH.out.keep B8.out, Only.of_below B8.out⟩
set_option maxRecDepth 100000 in
set_option maxHeartbeats 1000000 in
theorem kind_f1 (w : World) (rb : Nat) (r : R) (br : Nat) (h : RdE w rb r br) (hE : Env w rb) (hk1 : (r.at_ 0).kind ≠ 1) (k : Int) (hv : verbK (r.at_ 0).text = some k) (hs : isS (r.at_ 0) [36] = true) (hk : (r.at_ 1).kind = 1) (hj : isS (r.at_ 2) [58, 61] = false) (hj2 : isS (r.at_ 2) [61] = true) :
    Calls Tryz.prog 151 #[.pointer (some ⟨rb, 0, none⟩)] w (KndP w rb br (4, r)) := by
  have hrb := h.lt
  have CA := at0_any w rb r br h
  have CV := fun w' (hw : Below w.heap.size w w') => verbOf_any (r.at_ 0).text w' (hE.tab.below hw)
  have tk : (((r.at_ 0).kind : Int) == 1) = false := by simp; omega
  rw [hv] at CV
  simp only [Option.getD_some, Option.isSome_some] at CV
  have CI := fun w' => isSign_any (r.at_ 0) [36] w'
  rw [hs] at CI
  unfold tokV at CI
  have CA1 := fun w' (hw : Below w.heap.size w w') => at1_any w' rb r br (h.keep hw)
  unfold tokV at CA1
  have t1 := tok_f0 (r.at_ 1)
  have tk1 : (((r.at_ 1).kind : Int) != 1) = false := by simp; omega
  have CA2 := fun w' (hw : Below w.heap.size w w') => at2_any w' rb r br (h.keep hw)
  unfold tokV at CA2
  have CJ := fun w' => isSign_any (r.at_ 2) [58, 61] w'
  have CK := fun w' => isSign_any (r.at_ 2) [61] w'
  unfold tokV str at CJ CK
  rw [hj] at CJ
  rw [hj2] at CK
  unfold tokV at CA
  generalize r.at_ 0 = t at *
  have HA := Lib.hid CA; have HV := Lib.hid CV; have HH := Lib.hid h
  generalize r.at_ 1 = t1 at *
  generalize r.at_ 2 = t2 at *
  have HI := Lib.hid CI; have HA1 := Lib.hid CA1; have HA2 := Lib.hid CA2; have HJ := Lib.hid CJ; have HK := Lib.hid CK; clear CI CA1 CA2 CJ CK hk1 hv hs hk hj hj2
  clear CA CV h hE
  go_enter Tryz.func151, Tryz.ntmps151
  go_upto_region 2 with (go_at_call 85; (with_reducible refine HA.out.mono ?_); rintro e w1 ⟨rfl, b1⟩; have B1 := Lib.hid b1; clear b1)
  obtain ⟨W2, hW2⟩ : ∃ W2, W2 = w1.alloc (.cells #[.int .i64 t.kind, .string ⟨t.text.toArray⟩, .int .i64 t.n, .int .i64 t.at_] 157) := ⟨_, rfl⟩
  have hb2 : Below w.heap.size w W2 := by rw [hW2]; exact B1.out.alloc B1.out.size _
  have hx2 : W2.heap[w1.heap.size]? = some (.cells #[.int .i64 t.kind, .string ⟨t.text.toArray⟩, .int .i64 t.n, .int .i64 t.at_] 157 (0, 0)) := by rw [hW2]; exact heap_alloc_new w1 _
  have hbn := B1.out.size
  rw [← hW2]
  clear hW2
  generalize w1.heap.size = bb at *
  have hbl := (Array.getElem?_eq_some_iff.1 hx2).1
  obtain ⟨⟨z0, z1, z2, z3⟩, -⟩ := four_blk hx2
  have HB2 := Lib.hid hb2; have HX2 := Lib.hid hx2
  clear hb2 hx2
  go_upto_region 9 with (first
    | (go_at_call 164; (refine (HV.out W2 HB2.out).mono ?_); rintro e w3 ⟨rfl, b3⟩; have B3 := Lib.hid (HB2.out.trans (b3.mono HB2.out.size)); have hx3 := (b3.block bb hbl).trans HX2.out; have hbl3 := (Array.getElem?_eq_some_iff.1 hx3).1; obtain ⟨⟨x0, x1, x2, x3⟩, -⟩ := four_blk hx3; have HX3 := Lib.hid hx3; clear b3 hx3)
    | (go_at_call 88; (refine (HI.out w3).mono ?_); rintro e w4 ⟨rfl, b4⟩; have B4 := Lib.hid (B3.out.trans (b4.mono B3.out.size)); clear b4)
    | (go_at_call 85; (with_reducible refine (HA1.out w4 B4.out).mono ?_); rintro e w5 ⟨rfl, b5⟩; have B5 := Lib.hid (B4.out.trans (b5.mono B4.out.size)); clear b5)
    | (go_at_call 85; (with_reducible refine (HA2.out w5 B5.out).mono ?_); rintro e w6 ⟨rfl, b6⟩; have B6 := Lib.hid (B5.out.trans (b6.mono B5.out.size)); clear b6))
  obtain ⟨W7, hW7⟩ : ∃ W7, W7 = w6.alloc (.cells #[.int .i64 t2.kind, .string ⟨t2.text.toArray⟩, .int .i64 t2.n, .int .i64 t2.at_] 157) := ⟨_, rfl⟩
  have hb7 : Below w.heap.size w W7 := by rw [hW7]; exact B6.out.alloc B6.out.size _
  have hy7 : W7.heap[w6.heap.size]? = some (.cells #[.int .i64 t2.kind, .string ⟨t2.text.toArray⟩, .int .i64 t2.n, .int .i64 t2.at_] 157 (0, 0)) := by rw [hW7]; exact heap_alloc_new w6 _
  rw [← hW7]
  clear hW7
  generalize w6.heap.size = cb at *
  have hcl := (Array.getElem?_eq_some_iff.1 hy7).1
  obtain ⟨⟨u0, u1, u2, u3⟩, -⟩ := four_blk hy7
  have HB7 := Lib.hid hb7; have HY7 := Lib.hid hy7
  clear hb7 hy7
  go_wp2_with (first
    | (go_at_call 88; (with_reducible refine (HJ.out W7).mono ?_); rintro e w8 ⟨rfl, b8⟩; have B8 := Lib.hid (HB7.out.trans (b8.mono HB7.out.size)); have hy8 := (b8.block cb hcl).trans HY7.out; have hcl8 := (Array.getElem?_eq_some_iff.1 hy8).1; obtain ⟨⟨y0, y1, y2, y3⟩, -⟩ := four_blk hy8; clear b8 hy8)
    | (go_at_call 88; (with_reducible refine (HK.out w8).mono ?_); rintro e w9 ⟨rfl, b9⟩; have B9 := Lib.hid (B8.out.trans (b9.mono B8.out.size)); clear b9))
  go_ret
  exact ⟨rfl, HH.out.keep B9.out, Only.of_below B9.out⟩
set_option maxRecDepth 100000 in
set_option maxHeartbeats 1000000 in
theorem kind_g1 (w : World) (rb : Nat) (r : R) (br : Nat) (h : RdE w rb r br) (hE : Env w rb) (hk1 : (r.at_ 0).kind ≠ 1) (k : Int) (hv : verbK (r.at_ 0).text = some k) (hs : isS (r.at_ 0) [36] = true) (hk : (r.at_ 1).kind = 1) (hj : isS (r.at_ 2) [58, 61] = false) (hj2 : isS (r.at_ 2) [61] = false) :
    Calls Tryz.prog 151 #[.pointer (some ⟨rb, 0, none⟩)] w (KndP w rb br (2, r)) := by
  have hrb := h.lt
  have CA := at0_any w rb r br h
  have CV := fun w' (hw : Below w.heap.size w w') => verbOf_any (r.at_ 0).text w' (hE.tab.below hw)
  have tk : (((r.at_ 0).kind : Int) == 1) = false := by simp; omega
  rw [hv] at CV
  simp only [Option.getD_some, Option.isSome_some] at CV
  have CI := fun w' => isSign_any (r.at_ 0) [36] w'
  rw [hs] at CI
  unfold tokV at CI
  have CA1 := fun w' (hw : Below w.heap.size w w') => at1_any w' rb r br (h.keep hw)
  unfold tokV at CA1
  have t1 := tok_f0 (r.at_ 1)
  have tk1 : (((r.at_ 1).kind : Int) != 1) = false := by simp; omega
  have CA2 := fun w' (hw : Below w.heap.size w w') => at2_any w' rb r br (h.keep hw)
  unfold tokV at CA2
  have CJ := fun w' => isSign_any (r.at_ 2) [58, 61] w'
  have CK := fun w' => isSign_any (r.at_ 2) [61] w'
  unfold tokV str at CJ CK
  rw [hj] at CJ
  rw [hj2] at CK
  unfold tokV at CA
  generalize r.at_ 0 = t at *
  have HA := Lib.hid CA; have HV := Lib.hid CV; have HH := Lib.hid h
  generalize r.at_ 1 = t1 at *
  generalize r.at_ 2 = t2 at *
  have HI := Lib.hid CI; have HA1 := Lib.hid CA1; have HA2 := Lib.hid CA2; have HJ := Lib.hid CJ; have HK := Lib.hid CK; clear CI CA1 CA2 CJ CK hk1 hv hs hk hj hj2
  clear CA CV h hE
  go_enter Tryz.func151, Tryz.ntmps151
  go_upto_region 2 with (go_at_call 85; (with_reducible refine HA.out.mono ?_); rintro e w1 ⟨rfl, b1⟩; have B1 := Lib.hid b1; clear b1)
  obtain ⟨W2, hW2⟩ : ∃ W2, W2 = w1.alloc (.cells #[.int .i64 t.kind, .string ⟨t.text.toArray⟩, .int .i64 t.n, .int .i64 t.at_] 157) := ⟨_, rfl⟩
  have hb2 : Below w.heap.size w W2 := by rw [hW2]; exact B1.out.alloc B1.out.size _
  have hx2 : W2.heap[w1.heap.size]? = some (.cells #[.int .i64 t.kind, .string ⟨t.text.toArray⟩, .int .i64 t.n, .int .i64 t.at_] 157 (0, 0)) := by rw [hW2]; exact heap_alloc_new w1 _
  have hbn := B1.out.size
  rw [← hW2]
  clear hW2
  generalize w1.heap.size = bb at *
  have hbl := (Array.getElem?_eq_some_iff.1 hx2).1
  obtain ⟨⟨z0, z1, z2, z3⟩, -⟩ := four_blk hx2
  have HB2 := Lib.hid hb2; have HX2 := Lib.hid hx2
  clear hb2 hx2
  go_upto_region 9 with (first
    | (go_at_call 164; (refine (HV.out W2 HB2.out).mono ?_); rintro e w3 ⟨rfl, b3⟩; have B3 := Lib.hid (HB2.out.trans (b3.mono HB2.out.size)); have hx3 := (b3.block bb hbl).trans HX2.out; have hbl3 := (Array.getElem?_eq_some_iff.1 hx3).1; obtain ⟨⟨x0, x1, x2, x3⟩, -⟩ := four_blk hx3; have HX3 := Lib.hid hx3; clear b3 hx3)
    | (go_at_call 88; (refine (HI.out w3).mono ?_); rintro e w4 ⟨rfl, b4⟩; have B4 := Lib.hid (B3.out.trans (b4.mono B3.out.size)); clear b4)
    | (go_at_call 85; (with_reducible refine (HA1.out w4 B4.out).mono ?_); rintro e w5 ⟨rfl, b5⟩; have B5 := Lib.hid (B4.out.trans (b5.mono B4.out.size)); clear b5)
    | (go_at_call 85; (with_reducible refine (HA2.out w5 B5.out).mono ?_); rintro e w6 ⟨rfl, b6⟩; have B6 := Lib.hid (B5.out.trans (b6.mono B5.out.size)); clear b6))
  obtain ⟨W7, hW7⟩ : ∃ W7, W7 = w6.alloc (.cells #[.int .i64 t2.kind, .string ⟨t2.text.toArray⟩, .int .i64 t2.n, .int .i64 t2.at_] 157) := ⟨_, rfl⟩
  have hb7 : Below w.heap.size w W7 := by rw [hW7]; exact B6.out.alloc B6.out.size _
  have hy7 : W7.heap[w6.heap.size]? = some (.cells #[.int .i64 t2.kind, .string ⟨t2.text.toArray⟩, .int .i64 t2.n, .int .i64 t2.at_] 157 (0, 0)) := by rw [hW7]; exact heap_alloc_new w6 _
  rw [← hW7]
  clear hW7
  generalize w6.heap.size = cb at *
  have hcl := (Array.getElem?_eq_some_iff.1 hy7).1
  obtain ⟨⟨u0, u1, u2, u3⟩, -⟩ := four_blk hy7
  have HB7 := Lib.hid hb7; have HY7 := Lib.hid hy7
  clear hb7 hy7
  go_wp2_with (first
    | (go_at_call 88; (with_reducible refine (HJ.out W7).mono ?_); rintro e w8 ⟨rfl, b8⟩; have B8 := Lib.hid (HB7.out.trans (b8.mono HB7.out.size)); have hy8 := (b8.block cb hcl).trans HY7.out; have hcl8 := (Array.getElem?_eq_some_iff.1 hy8).1; obtain ⟨⟨y0, y1, y2, y3⟩, -⟩ := four_blk hy8; clear b8 hy8)
    | (go_at_call 88; (with_reducible refine (HK.out w8).mono ?_); rintro e w9 ⟨rfl, b9⟩; have B9 := Lib.hid (B8.out.trans (b9.mono B8.out.size)); clear b9))
  go_ret
  exact ⟨rfl, HH.out.keep B9.out, Only.of_below B9.out⟩
theorem kindR_other (r : R) (h : ¬ ((r.at_ 0).kind = 1 ∧ (verbK (r.at_ 0).text).isSome = true)) : kindR r = (if isS (r.at_ 0) [36] = true ∧ (r.at_ 1).kind = 1 then
    (if isS (r.at_ 2) [58, 61] then (3, r) else if isS (r.at_ 2) [61] then (4, r) else (2, r)) else (2, r)) := by unfold kindR; rw [if_neg h]
theorem kind_any (w : World) (rb : Nat) (r : R) (br : Nat) (h : RdE w rb r br) (hE : Env w rb) :
    Calls Tryz.prog 151 #[.pointer (some ⟨rb, 0, none⟩)] w (KndP w rb br (kindR r)) := by
  cases hv : verbK (r.at_ 0).text with
  | none =>
    rw [kindR_other r (by rw [hv]; simp)]
    cases hs : isS (r.at_ 0) [36]
    · rw [if_neg (fun e => by cases e.1)]; exact kind_c0 w rb r br h hE hv hs
    · by_cases hk : (r.at_ 1).kind = 1
      · rw [if_pos ⟨rfl, hk⟩]
        cases hj : isS (r.at_ 2) [58, 61]
        · cases hj2 : isS (r.at_ 2) [61]
          · exact kind_g0 w rb r br h hE hv hs hk hj hj2
          · exact kind_f0 w rb r br h hE hv hs hk hj hj2
        · exact kind_e0 w rb r br h hE hv hs hk hj
      · rw [if_neg (fun e => hk e.2)]; exact kind_d0 w rb r br h hE hv hs hk
  | some k =>
    by_cases hk1 : (r.at_ 0).kind = 1
    · have e : kindR r = (k, r.step) := by unfold kindR; rw [hv, if_pos ⟨hk1, rfl⟩]; rfl
      rw [e]; exact kind_verb w rb r br h hE k (at_zero_pos r (by omega)) hk1 hv
    · rw [kindR_other r (by rw [hv]; exact fun e => hk1 e.1)]
      cases hs : isS (r.at_ 0) [36]
      · rw [if_neg (fun e => by cases e.1)]; exact kind_c1 w rb r br h hE hk1 k hv hs
      · by_cases hk : (r.at_ 1).kind = 1
        · rw [if_pos ⟨rfl, hk⟩]
          cases hj : isS (r.at_ 2) [58, 61]
          · cases hj2 : isS (r.at_ 2) [61]
            · exact kind_g1 w rb r br h hE hk1 k hv hs hk hj hj2
            · exact kind_f1 w rb r br h hE hk1 k hv hs hk hj hj2
          · exact kind_e1 w rb r br h hE hk1 k hv hs hk hj
        · rw [if_neg (fun e => hk e.2)]; exact kind_d1 w rb r br h hE hk1 k hv hs hk
/-- What assigned leaves: the variable's name, three words on. -/
theorem assigned_any (w : World) (rb : Nat) (r : R) (br : Nat) (h : RdE w rb r br) (h3 : 3 ≤ r.ws.length) :
    Calls Tryz.prog 153 #[.pointer (some ⟨rb, 0, none⟩)] w (Post w rb r.step.step.step br (str ((r.step).at_ 0).text)) := by
  have C1 := step_any w rb r br (by omega) h
  have l1 := step_lt r (by omega)
  have C2 := fun w' (h' : RdE w' rb r.step br) => step_any w' rb r.step br (by omega) h'
  have l2 := step_lt r.step (by omega)
  have C3 := fun w' (h' : RdE w' rb r.step.step br) => step_any w' rb r.step.step br (by omega) h'
  unfold tokV at C2
  unfold str
  have t1 := tok_f1 (r.step.at_ 0)
  generalize r.step.step.step = r3 at *
  generalize r.step.step = r2 at *
  generalize r.step.at_ 0 = t at *
  generalize r.step = r1 at *
  have H1 := Lib.hid C1; have H2 := Lib.hid C2; have H3 := Lib.hid C3
  clear C1 C2 C3 h l1 l2 h3
  go_enter Tryz.func153, Tryz.ntmps153
  go_wp2_with (first
    | (go_at_call 89; (with_reducible refine H1.out.mono ?_); rintro e w1 ⟨rfl, h1, o1⟩; have R1 := Lib.hid h1; have O1 := Lib.hid o1; clear h1 o1 H1)
    | (go_at_call 89; (refine (H2.out w1 R1.out).mono ?_); rintro e w2 ⟨rfl, h2, o2⟩; have R2 := Lib.hid h2; have O2 := Lib.hid (O1.out.trans o2); clear h2 o2 R1)
    | (go_at_call 89; (refine (H3.out w2 R2.out).mono ?_); rintro e w3 ⟨rfl, h3, o3⟩))
  go_ret
  exact ⟨rfl, h3, O2.out.trans o3⟩
end Tr
end Go.Proofs.YtlfbcaenlifmkaaGreatDoor
