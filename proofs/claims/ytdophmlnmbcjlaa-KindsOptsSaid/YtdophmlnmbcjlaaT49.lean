/- Whether a builtin function takes what it is given, piece D. Written by gen_jfit.py. -/
import Derived.Test.YtdophmlnmbcjlaaT47
import Derived.StillTailTactics
import Derived.Test.YtdophmlnmbcjlaaT48
namespace Go.Proofs.Ytdophmlnmbcjlaa
open Go.RowKit
namespace Sp
open Sc
set_option maxRecDepth 100000
set_option maxHeartbeats 4000000 in
theorem fits_len (w : World) (gb tb : Nat) (T : List Kz) (N : List NN) (l : List Nat) (a b : Kz) (aa ak : Option Addr) (ca ck : Nat) (h : GivV w gb tb aa ak ca ck l a.kind a.kids b.kind) (y : Nat) :
    Calls Try.prog 50 #[.pointer (some ⟨gb, 0, none⟩), .string ⟨#[108, 101, 110]⟩] w fun e w' => e = .returned (.bool (fitsJ 7 T N y a b)) ∧ Below w.heap.size w w' := by
  obtain ⟨ka, na, nas, kids⟩ := a
  obtain ⟨kb, hb⟩ : ∃ kb, b.kind = kb := ⟨_, rfl⟩
  rw [hb] at h
  dsimp only at h
  have c0 := h.c0; have c1 := h.c1; have c2 := h.c2; have c5 := h.c5; have c6 := h.c6

  clear h hb
  go_enter Try.func50, Try.ntmps50
  go_upto_region 1 with fail
  go_quiet (fail)
  go_upto_region 37 with fail
  by_cases x0 : ka = 3
  · subst x0
    have hv : fitsJ 7 T N y ⟨3, na, nas, kids⟩ b = true := by simp [fitsJ, *]
    have HV := Lib.hid hv
    clear hv
    go_wp2
    go_ret
    exact ⟨(by rw [HV.out]; rfl), bel_drews⟩
  · have x0n : (ka == 3) = false := by simpa using x0
    by_cases x1 : ka = 4
    · subst x1
      have hv : fitsJ 7 T N y ⟨4, na, nas, kids⟩ b = true := by simp [fitsJ, *]
      have HV := Lib.hid hv
      clear hv
      go_wp2
      go_ret
      exact ⟨(by rw [HV.out]; rfl), bel_drews⟩
    · have x1n : (ka == 4) = false := by simpa using x1
      by_cases x2 : ka = 5
      · subst x2
        have hv : fitsJ 7 T N y ⟨5, na, nas, kids⟩ b = true := by simp [fitsJ, *]
        have HV := Lib.hid hv
        clear hv
        go_wp2
        go_ret
        exact ⟨(by rw [HV.out]; rfl), bel_drews⟩
      · have x2n : (ka == 5) = false := by simpa using x2
        have hv : fitsJ 7 T N y ⟨ka, na, nas, kids⟩ b = false := by simp [fitsJ, *]
        have HV := Lib.hid hv
        clear hv
        go_wp2
        go_ret
        exact ⟨(by rw [HV.out]; rfl), bel_drews⟩
set_option maxHeartbeats 4000000 in
theorem fits_at (w : World) (gb tb : Nat) (T : List Kz) (N : List NN) (l : List Nat) (a b : Kz) (aa ak : Option Addr) (ca ck : Nat) (h : GivV w gb tb aa ak ca ck l a.kind a.kids b.kind) (y : Nat) :
    Calls Try.prog 50 #[.pointer (some ⟨gb, 0, none⟩), .string ⟨#[97, 116]⟩] w fun e w' => e = .returned (.bool (fitsJ 8 T N y a b)) ∧ Below w.heap.size w w' := by
  obtain ⟨ka, na, nas, kids⟩ := a
  obtain ⟨kb, hb⟩ : ∃ kb, b.kind = kb := ⟨_, rfl⟩
  rw [hb] at h
  dsimp only at h
  have c0 := h.c0; have c1 := h.c1; have c2 := h.c2; have c5 := h.c5; have c6 := h.c6
  have HB := Lib.hid hb
  clear h hb
  go_enter Try.func50, Try.ntmps50
  go_upto_region 1 with fail
  go_quiet (fail)
  go_upto_region 38 with fail
  by_cases x0 : ka = 4
  · subst x0
    by_cases x1 : kb = 2
    · subst x1
      have hv : fitsJ 8 T N y ⟨4, na, nas, kids⟩ b = true := by simp [fitsJ, HB.out, *]
      have HV := Lib.hid hv
      clear hv
      go_wp2
      go_ret
      exact ⟨(by rw [HV.out]; rfl), bel_drews⟩
    · have x1n : (kb == 2) = false := by simpa using x1
      have hv : fitsJ 8 T N y ⟨4, na, nas, kids⟩ b = false := by simp [fitsJ, HB.out, *]
      have HV := Lib.hid hv
      clear hv
      go_wp2
      go_ret
      exact ⟨(by rw [HV.out]; rfl), bel_drews⟩
  · have x0n : (ka == 4) = false := by simpa using x0
    have hv : fitsJ 8 T N y ⟨ka, na, nas, kids⟩ b = false := by simp [fitsJ, HB.out, *]
    have HV := Lib.hid hv
    clear hv
    go_wp2
    go_ret
    exact ⟨(by rw [HV.out]; rfl), bel_drews⟩
set_option maxHeartbeats 4000000 in
theorem fits_get (w : World) (gb tb : Nat) (T : List Kz) (N : List NN) (l : List Nat) (a b : Kz) (aa ak : Option Addr) (ca ck : Nat) (h : GivV w gb tb aa ak ca ck l a.kind a.kids b.kind) (y : Nat) (hone : a.kind = 4 ∨ a.kind = 5 ∨ a.kind = 6 → a.kids.length = 1) (hkid : a.kind = 4 ∨ a.kind = 5 ∨ a.kind = 6 → a.kids.getD 0 0 < T.length) (rb nb mb sb m : Nat) (ty nu : Value) (hT : TabV w tb rb nb mb sb m ty nu T) (hN : TxtV w mb (encNN N)) (hO : OpL T N) :
    Calls Try.prog 50 #[.pointer (some ⟨gb, 0, none⟩), .string ⟨#[103, 101, 116]⟩] w fun e w' => e = .returned (.bool (fitsJ 9 T N y a b)) ∧ Below w.heap.size w w' := by
  obtain ⟨ka, na, nas, kids⟩ := a
  obtain ⟨kb, hb⟩ : ∃ kb, b.kind = kb := ⟨_, rfl⟩
  rw [hb] at h
  dsimp only at h hone hkid
  have c0 := h.c0; have c1 := h.c1; have c2 := h.c2; have c5 := h.c5; have c6 := h.c6
  have HB := Lib.hid hb
  have HRK := Lib.hid h.rk; have HONE := Lib.hid hone; have HKID := Lib.hid hkid
  have hop := fun (hk : kids.getD 0 0 < T.length) W (hW : Below w.heap.size w W) => opened_any (kids.getD 0 0) W tb rb nb mb sb m ty nu T N (hT.below hW) (hN.below hW) hO hk
  have HOP := Lib.hid hop
  clear hop hT hN hO hone hkid
  clear h hb
  go_enter Try.func50, Try.ntmps50
  go_upto_region 1 with fail
  go_quiet (fail)
  go_upto_region 39 with fail
  by_cases x0 : ka = 5
  · subst x0
    by_cases x1 : kb = 3
    · subst x1
      obtain ⟨g, o, rfl, hg, q0⟩ := idsL_cell HRK.out (i := 0) (by rw [HONE.out (by simp)]; decide)
      rw [Nat.add_zero] at q0
      have CO1 := HOP.out (HKID.out (by simp))
      have hk1 := HONE.out (by simp)
      obtain ⟨kz, hkz⟩ : ∃ kz, kids.getD 0 0 = kz := ⟨_, rfl⟩
      rw [hkz] at q0 CO1
      have HCO := Lib.hid CO1; have HKZ := Lib.hid hkz
      clear CO1 hkz
      obtain ⟨kc, hkc⟩ : ∃ kc, opnK T N kz = kc := ⟨_, rfl⟩
      have hv : fitsJ 9 T N y ⟨5, na, nas, kids⟩ b = !decide (kc.kind = 6) := by simp only [fitsJ]; rw [HB.out, HKZ.out, hkc]; simp
      have CO := HCO.out
      simp only [hkc] at CO
      have HCO2 := Lib.hid CO; have HV := Lib.hid hv
      clear CO HCO hv hkc
      have d0 : (w.drewN nq).cell? ⟨gb, 0, none⟩ = some (.pointer (some ⟨tb, 0, none⟩)) := c0
      have d1 : (w.drewN nq).cell? ⟨gb, 1, none⟩ = some (.slice aa l.length ca) := c1
      have d2 : (w.drewN nq).cell? ⟨gb, 2, none⟩ = some (.int .i64 5) := c2
      have d5 : (w.drewN nq).cell? ⟨gb, 5, none⟩ = some (.slice (some ⟨g, o, none⟩) kids.length ck) := c5
      have d6 : (w.drewN nq).cell? ⟨gb, 6, none⟩ = some (.int .i64 3) := c6
      have d7 : (w.drewN nq).cell? ⟨g, o, none⟩ = some (.int .i64 (kz : Nat)) := q0
      have HBD := Lib.hid (bel_drews (w := w) (n := nq))
      clear c0 c1 c2 c5 c6 q0
      generalize w.drewN nq = wd at *
      have hfld : ∀ (d1 : Int) (d2 : ByteArray) (d3 : Option Addr) (d4 d5 : Nat) (d6 : Option Addr) (d7 d8 : Nat) (w : World), (Instr.field 59 (.agg #[.int .i64 d1, .string d2, .slice d3 d4 d5, .slice d6 d7 d8]) 0).run Try.prog w = .ok (.int .i64 d1) w := fun _ _ _ _ _ _ _ _ _ => by kernel_rfl
      refine wp_region_still_tail 18 (by kernel_rfl) (by kernel_rfl) ?_
      simp only [List.take_succ_cons, List.take_zero, List.drop_succ_cons, List.drop_zero]
      iterate 18 still_step
      refine wpStill_nil ?_
      go_wp2_with (go_at_call 49; (refine (HCO2.out _ (HBD.out.drew)).mono ?_); rintro e w2 ⟨an, ln, cn, ak, ck, rfl, -, b2⟩; have HB2 := Lib.hid b2; clear b2)
      go_ret
      exact ⟨(by rw [HV.out]; by_cases h6 : kc.kind = 6 <;> simp [h6]), HBD.out.drew.trans (HB2.out.mono HBD.out.size)⟩
    · have x1n : (kb == 3) = false := by simpa using x1
      have hv : fitsJ 9 T N y ⟨5, na, nas, kids⟩ b = false := by simp [fitsJ, HB.out, *]
      have HV := Lib.hid hv
      clear hv
      go_quiet (fail)
      go_wp2
      go_ret
      exact ⟨(by rw [HV.out]; rfl), (by first | exact bel_drews | exact bel_drews2)⟩
  · have x0n : (ka == 5) = false := by simpa using x0
    have hv : fitsJ 9 T N y ⟨ka, na, nas, kids⟩ b = false := by simp [fitsJ, HB.out, *]
    have HV := Lib.hid hv
    clear hv
    go_quiet (fail)
    go_wp2
    go_ret
    exact ⟨(by rw [HV.out]; rfl), (by first | exact bel_drews | exact bel_drews2)⟩
set_option maxHeartbeats 4000000 in
theorem fits_has (w : World) (gb tb : Nat) (T : List Kz) (N : List NN) (l : List Nat) (a b : Kz) (aa ak : Option Addr) (ca ck : Nat) (h : GivV w gb tb aa ak ca ck l a.kind a.kids b.kind) (y : Nat) :
    Calls Try.prog 50 #[.pointer (some ⟨gb, 0, none⟩), .string ⟨#[104, 97, 115]⟩] w fun e w' => e = .returned (.bool (fitsJ 10 T N y a b)) ∧ Below w.heap.size w w' := by
  obtain ⟨ka, na, nas, kids⟩ := a
  obtain ⟨kb, hb⟩ : ∃ kb, b.kind = kb := ⟨_, rfl⟩
  rw [hb] at h
  dsimp only at h
  have c0 := h.c0; have c1 := h.c1; have c2 := h.c2; have c5 := h.c5; have c6 := h.c6

  clear h hb
  go_enter Try.func50, Try.ntmps50
  go_upto_region 1 with fail
  go_quiet (fail)
  go_upto_region 40 with fail
  by_cases x0 : ka = 6
  · subst x0
    have hv : fitsJ 10 T N y ⟨6, na, nas, kids⟩ b = true := by simp [fitsJ, *]
    have HV := Lib.hid hv
    clear hv
    go_wp2
    go_ret
    exact ⟨(by rw [HV.out]; rfl), bel_drews⟩
  · have x0n : (ka == 6) = false := by simpa using x0
    have hv : fitsJ 10 T N y ⟨ka, na, nas, kids⟩ b = false := by simp [fitsJ, *]
    have HV := Lib.hid hv
    clear hv
    go_wp2
    go_ret
    exact ⟨(by rw [HV.out]; rfl), bel_drews⟩
set_option maxHeartbeats 4000000 in
theorem fits_orelse (w : World) (gb tb : Nat) (T : List Kz) (N : List NN) (l : List Nat) (a b : Kz) (aa ak : Option Addr) (ca ck : Nat) (h : GivV w gb tb aa ak ca ck l a.kind a.kids b.kind) (y : Nat) (hone : a.kind = 4 ∨ a.kind = 5 ∨ a.kind = 6 → a.kids.length = 1) (hl : l.length = 2) (hy : l.getD 1 0 = y) :
    Calls Try.prog 50 #[.pointer (some ⟨gb, 0, none⟩), .string ⟨#[111, 114, 101, 108, 115, 101]⟩] w fun e w' => e = .returned (.bool (fitsJ 11 T N y a b)) ∧ Below w.heap.size w w' := by
  obtain ⟨ka, na, nas, kids⟩ := a
  obtain ⟨kb, hb⟩ : ∃ kb, b.kind = kb := ⟨_, rfl⟩
  rw [hb] at h
  dsimp only at h hone
  have c0 := h.c0; have c1 := h.c1; have c2 := h.c2; have c5 := h.c5; have c6 := h.c6
  have HY := Lib.hid hy
  have HRK := Lib.hid h.rk; have HRA := Lib.hid h.ra; have HONE := Lib.hid hone
  clear hone hy
  clear h hb
  go_enter Try.func50, Try.ntmps50
  go_upto_region 1 with fail
  go_quiet (fail)
  go_upto_region 41 with fail
  by_cases x0 : ka = 6
  · subst x0
    obtain ⟨g, o, rfl, hg, q0⟩ := idsL_cell HRK.out (i := 0) (by rw [HONE.out (by simp)]; decide)
    obtain ⟨g1, o1, rfl, hg1, q1⟩ := idsL_cell HRA.out (i := 1) (by rw [hl]; decide)
    rw [Nat.add_zero] at q0
    obtain ⟨kz, hkz⟩ : ∃ kz, kids.getD 0 0 = kz := ⟨_, rfl⟩
    have hk1 := HONE.out (by simp)
    rw [hkz] at q0
    rw [HY.out] at q1
    by_cases hyk : y = kz
    · have hv : fitsJ 11 T N y ⟨6, na, nas, kids⟩ b = true := by simp only [fitsJ]; rw [hkz]; simp [hyk]
      have HV := Lib.hid hv
      subst hyk
      clear hv hkz
      go_quiet (fail)
      go_wp2
      go_ret
      exact ⟨(by rw [HV.out]; rfl), (by first | exact bel_drews | exact bel_drews2)⟩
    · have hv : fitsJ 11 T N y ⟨6, na, nas, kids⟩ b = false := by simp only [fitsJ]; rw [hkz]; simp [hyk]
      have HV := Lib.hid hv
      have ty : ((y : Int) == (kz : Int)) = false := by simp; omega
      clear hv hkz hyk
      go_quiet (fail)
      go_wp2
      go_ret
      exact ⟨(by rw [HV.out]; rfl), (by first | exact bel_drews | exact bel_drews2)⟩
  · have x0n : (ka == 6) = false := by simpa using x0
    have hv : fitsJ 11 T N y ⟨ka, na, nas, kids⟩ b = false := by simp [fitsJ, *]
    have HV := Lib.hid hv
    clear hv
    go_quiet (fail)
    go_wp2
    go_ret
    exact ⟨(by rw [HV.out]; rfl), (by first | exact bel_drews | exact bel_drews2)⟩
end Sp
end Go.Proofs.Ytdophmlnmbcjlaa
namespace Go.Proofs.Ytdophmlnmbcjlaa
open Go.RowKit
namespace Sp
open Sc
set_option maxRecDepth 100000
theorem fits_any (s : List UInt8) (hbi : builtinB s = true) (w : World) (gb tb rb nb mb sb m : Nat) (ty nu : Value) (T : List Kz) (N : List NN) (hT : TabV w tb rb nb mb sb m ty nu T) (hN : TxtV w mb (encNN N)) (hO : OpL T N) (l : List Nat) (a b : Kz) (aa ak : Option Addr) (ca ck : Nat) (h : GivV w gb tb aa ak ca ck l a.kind a.kids b.kind) (hl : l.length = takesJ s) (hone : a.kind = 4 ∨ a.kind = 5 ∨ a.kind = 6 → a.kids.length = 1) (hkid : a.kind = 4 ∨ a.kind = 5 ∨ a.kind = 6 → a.kids.getD 0 0 < T.length) :
    Calls Try.prog 50 #[.pointer (some ⟨gb, 0, none⟩), .string ⟨s.toArray⟩] w fun e w' => e = .returned (.bool (fitsJ (clsJ s) T N (l.getD 1 0) a b)) ∧ Below w.heap.size w w' := by
  rcases Builtin_cases s hbi with rfl | rfl | rfl | rfl | rfl | rfl | rfl | rfl | rfl | rfl | rfl | rfl | rfl | rfl | rfl | rfl | rfl | rfl | rfl | rfl | rfl | rfl | rfl
  · rw [show clsJ [108, 101, 110] = 7 from rfl]; exact fits_len w gb tb T N l a b aa ak ca ck h _
  · rw [show clsJ [110, 111, 116] = 1 from rfl]; exact fits_not w gb tb T N l a b aa ak ca ck h _
  · rw [show clsJ [97, 110, 100] = 0 from rfl]; exact fits_and w gb tb T N l a b aa ak ca ck h _
  · rw [show clsJ [111, 114] = 0 from rfl]; exact fits_or w gb tb T N l a b aa ak ca ck h _
  · rw [show clsJ [101, 113] = 4 from rfl]; exact fits_eq w gb tb T N l a b aa ak ca ck h _
  · rw [show clsJ [108, 116] = 2 from rfl]; exact fits_lt w gb tb T N l a b aa ak ca ck h _
  · rw [show clsJ [97, 100, 100] = 2 from rfl]; exact fits_add w gb tb T N l a b aa ak ca ck h _
  · rw [show clsJ [115, 117, 98] = 2 from rfl]; exact fits_sub w gb tb T N l a b aa ak ca ck h _
  · rw [show clsJ [109, 117, 108] = 2 from rfl]; exact fits_mul w gb tb T N l a b aa ak ca ck h _
  · rw [show clsJ [115, 104, 108] = 2 from rfl]; exact fits_shl w gb tb T N l a b aa ak ca ck h _
  · rw [show clsJ [115, 104, 114] = 2 from rfl]; exact fits_shr w gb tb T N l a b aa ak ca ck h _
  · rw [show clsJ [105, 56] = 3 from rfl]; exact fits_i8 w gb tb T N l a b aa ak ca ck h _
  · rw [show clsJ [105, 49, 54] = 3 from rfl]; exact fits_i16 w gb tb T N l a b aa ak ca ck h _
  · rw [show clsJ [105, 51, 50] = 3 from rfl]; exact fits_i32 w gb tb T N l a b aa ak ca ck h _
  · rw [show clsJ [117, 56] = 3 from rfl]; exact fits_u8 w gb tb T N l a b aa ak ca ck h _
  · rw [show clsJ [117, 49, 54] = 3 from rfl]; exact fits_u16 w gb tb T N l a b aa ak ca ck h _
  · rw [show clsJ [117, 51, 50] = 3 from rfl]; exact fits_u32 w gb tb T N l a b aa ak ca ck h _
  · rw [show clsJ [99, 97, 116] = 5 from rfl]; exact fits_cat w gb tb T N l a b aa ak ca ck h _
  · rw [show clsJ [116, 101, 120, 116] = 6 from rfl]; exact fits_text w gb tb T N l a b aa ak ca ck h _
  · rw [show clsJ [97, 116] = 8 from rfl]; exact fits_at w gb tb T N l a b aa ak ca ck h _
  · rw [show clsJ [103, 101, 116] = 9 from rfl]; exact fits_get w gb tb T N l a b aa ak ca ck h _ hone hkid rb nb mb sb m ty nu hT hN hO
  · rw [show clsJ [104, 97, 115] = 10 from rfl]; exact fits_has w gb tb T N l a b aa ak ca ck h _
  · rw [show clsJ [111, 114, 101, 108, 115, 101] = 11 from rfl]; exact fits_orelse w gb tb T N l a b aa ak ca ck h _ hone hl rfl
end Sp
end Go.Proofs.Ytdophmlnmbcjlaa
