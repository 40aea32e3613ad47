/- Whether a builtin function takes what it is given, piece B. Written by gen_jfit.py. -/
import Derived.Test.YtdophmlnmbcjlaaT47
import Derived.StillTailTactics
namespace Go.Proofs.Ytdophmlnmbcjlaa
open Go.RowKit
namespace Sp
open Sc
set_option maxRecDepth 100000
set_option maxHeartbeats 4000000 in
theorem fits_mul (w : World) (gb tb : Nat) (T : List Kz) (N : List NN) (l : List Nat) (a b : Kz) (aa ak : Option Addr) (ca ck : Nat) (h : GivV w gb tb aa ak ca ck l a.kind a.kids b.kind) (y : Nat) :
    Calls Try.prog 50 #[.pointer (some ⟨gb, 0, none⟩), .string ⟨#[109, 117, 108]⟩] w fun e w' => e = .returned (.bool (fitsJ 2 T N y a b)) ∧ Below w.heap.size w w' := by
  obtain ⟨ka, na, nas, kids⟩ := a
  obtain ⟨kb, hb⟩ : ∃ kb, b.kind = kb := ⟨_, rfl⟩
  rw [hb] at h
  dsimp only at h
  have c0 := h.c0; have c1 := h.c1; have c2 := h.c2; have c5 := h.c5; have c6 := h.c6
  have HB := Lib.hid hb
  clear h hb
  go_enter Try.func50, Try.ntmps50
  go_upto_region 1 with fail
  go_quiet (fail)
  go_upto_region 29 with fail
  by_cases x0 : kb = 2
  · subst x0
    by_cases x1 : ka = 2
    · subst x1
      have hv : fitsJ 2 T N y ⟨2, na, nas, kids⟩ b = true := by simp [fitsJ, HB.out, *]
      have HV := Lib.hid hv
      clear hv
      go_wp2
      go_ret
      exact ⟨(by rw [HV.out]; rfl), bel_drews⟩
    · have x1n : (ka == 2) = false := by simpa using x1
      have hv : fitsJ 2 T N y ⟨ka, na, nas, kids⟩ b = false := by simp [fitsJ, HB.out, *]
      have HV := Lib.hid hv
      clear hv
      go_wp2
      go_ret
      exact ⟨(by rw [HV.out]; rfl), bel_drews⟩
  · have x0n : (kb == 2) = false := by simpa using x0
    have hv : fitsJ 2 T N y ⟨ka, na, nas, kids⟩ b = false := by simp [fitsJ, HB.out, *]
    have HV := Lib.hid hv
    clear hv
    go_wp2
    go_ret
    exact ⟨(by rw [HV.out]; rfl), bel_drews⟩
set_option maxHeartbeats 4000000 in
theorem fits_shl (w : World) (gb tb : Nat) (T : List Kz) (N : List NN) (l : List Nat) (a b : Kz) (aa ak : Option Addr) (ca ck : Nat) (h : GivV w gb tb aa ak ca ck l a.kind a.kids b.kind) (y : Nat) :
    Calls Try.prog 50 #[.pointer (some ⟨gb, 0, none⟩), .string ⟨#[115, 104, 108]⟩] w fun e w' => e = .returned (.bool (fitsJ 2 T N y a b)) ∧ Below w.heap.size w w' := by
  obtain ⟨ka, na, nas, kids⟩ := a
  obtain ⟨kb, hb⟩ : ∃ kb, b.kind = kb := ⟨_, rfl⟩
  rw [hb] at h
  dsimp only at h
  have c0 := h.c0; have c1 := h.c1; have c2 := h.c2; have c5 := h.c5; have c6 := h.c6
  have HB := Lib.hid hb
  clear h hb
  go_enter Try.func50, Try.ntmps50
  go_upto_region 1 with fail
  go_quiet (fail)
  go_upto_region 29 with fail
  by_cases x0 : kb = 2
  · subst x0
    by_cases x1 : ka = 2
    · subst x1
      have hv : fitsJ 2 T N y ⟨2, na, nas, kids⟩ b = true := by simp [fitsJ, HB.out, *]
      have HV := Lib.hid hv
      clear hv
      go_wp2
      go_ret
      exact ⟨(by rw [HV.out]; rfl), bel_drews⟩
    · have x1n : (ka == 2) = false := by simpa using x1
      have hv : fitsJ 2 T N y ⟨ka, na, nas, kids⟩ b = false := by simp [fitsJ, HB.out, *]
      have HV := Lib.hid hv
      clear hv
      go_wp2
      go_ret
      exact ⟨(by rw [HV.out]; rfl), bel_drews⟩
  · have x0n : (kb == 2) = false := by simpa using x0
    have hv : fitsJ 2 T N y ⟨ka, na, nas, kids⟩ b = false := by simp [fitsJ, HB.out, *]
    have HV := Lib.hid hv
    clear hv
    go_wp2
    go_ret
    exact ⟨(by rw [HV.out]; rfl), bel_drews⟩
set_option maxHeartbeats 4000000 in
theorem fits_shr (w : World) (gb tb : Nat) (T : List Kz) (N : List NN) (l : List Nat) (a b : Kz) (aa ak : Option Addr) (ca ck : Nat) (h : GivV w gb tb aa ak ca ck l a.kind a.kids b.kind) (y : Nat) :
    Calls Try.prog 50 #[.pointer (some ⟨gb, 0, none⟩), .string ⟨#[115, 104, 114]⟩] w fun e w' => e = .returned (.bool (fitsJ 2 T N y a b)) ∧ Below w.heap.size w w' := by
  obtain ⟨ka, na, nas, kids⟩ := a
  obtain ⟨kb, hb⟩ : ∃ kb, b.kind = kb := ⟨_, rfl⟩
  rw [hb] at h
  dsimp only at h
  have c0 := h.c0; have c1 := h.c1; have c2 := h.c2; have c5 := h.c5; have c6 := h.c6
  have HB := Lib.hid hb
  clear h hb
  go_enter Try.func50, Try.ntmps50
  go_upto_region 1 with fail
  go_quiet (fail)
  go_upto_region 29 with fail
  by_cases x0 : kb = 2
  · subst x0
    by_cases x1 : ka = 2
    · subst x1
      have hv : fitsJ 2 T N y ⟨2, na, nas, kids⟩ b = true := by simp [fitsJ, HB.out, *]
      have HV := Lib.hid hv
      clear hv
      go_wp2
      go_ret
      exact ⟨(by rw [HV.out]; rfl), bel_drews⟩
    · have x1n : (ka == 2) = false := by simpa using x1
      have hv : fitsJ 2 T N y ⟨ka, na, nas, kids⟩ b = false := by simp [fitsJ, HB.out, *]
      have HV := Lib.hid hv
      clear hv
      go_wp2
      go_ret
      exact ⟨(by rw [HV.out]; rfl), bel_drews⟩
  · have x0n : (kb == 2) = false := by simpa using x0
    have hv : fitsJ 2 T N y ⟨ka, na, nas, kids⟩ b = false := by simp [fitsJ, HB.out, *]
    have HV := Lib.hid hv
    clear hv
    go_wp2
    go_ret
    exact ⟨(by rw [HV.out]; rfl), bel_drews⟩
set_option maxHeartbeats 4000000 in
theorem fits_i8 (w : World) (gb tb : Nat) (T : List Kz) (N : List NN) (l : List Nat) (a b : Kz) (aa ak : Option Addr) (ca ck : Nat) (h : GivV w gb tb aa ak ca ck l a.kind a.kids b.kind) (y : Nat) :
    Calls Try.prog 50 #[.pointer (some ⟨gb, 0, none⟩), .string ⟨#[105, 56]⟩] w fun e w' => e = .returned (.bool (fitsJ 3 T N y a b)) ∧ Below w.heap.size w w' := by
  obtain ⟨ka, na, nas, kids⟩ := a
  obtain ⟨kb, hb⟩ : ∃ kb, b.kind = kb := ⟨_, rfl⟩
  rw [hb] at h
  dsimp only at h
  have c0 := h.c0; have c1 := h.c1; have c2 := h.c2; have c5 := h.c5; have c6 := h.c6

  clear h hb
  go_enter Try.func50, Try.ntmps50
  go_upto_region 1 with fail
  go_quiet (fail)
  go_upto_region 31 with fail
  by_cases x0 : ka = 2
  · subst x0
    have hv : fitsJ 3 T N y ⟨2, na, nas, kids⟩ b = true := by simp [fitsJ, *]
    have HV := Lib.hid hv
    clear hv
    go_wp2
    go_ret
    exact ⟨(by rw [HV.out]; rfl), bel_drews⟩
  · have x0n : (ka == 2) = false := by simpa using x0
    have hv : fitsJ 3 T N y ⟨ka, na, nas, kids⟩ b = false := by simp [fitsJ, *]
    have HV := Lib.hid hv
    clear hv
    go_wp2
    go_ret
    exact ⟨(by rw [HV.out]; rfl), bel_drews⟩
set_option maxHeartbeats 4000000 in
theorem fits_i16 (w : World) (gb tb : Nat) (T : List Kz) (N : List NN) (l : List Nat) (a b : Kz) (aa ak : Option Addr) (ca ck : Nat) (h : GivV w gb tb aa ak ca ck l a.kind a.kids b.kind) (y : Nat) :
    Calls Try.prog 50 #[.pointer (some ⟨gb, 0, none⟩), .string ⟨#[105, 49, 54]⟩] w fun e w' => e = .returned (.bool (fitsJ 3 T N y a b)) ∧ Below w.heap.size w w' := by
  obtain ⟨ka, na, nas, kids⟩ := a
  obtain ⟨kb, hb⟩ : ∃ kb, b.kind = kb := ⟨_, rfl⟩
  rw [hb] at h
  dsimp only at h
  have c0 := h.c0; have c1 := h.c1; have c2 := h.c2; have c5 := h.c5; have c6 := h.c6

  clear h hb
  go_enter Try.func50, Try.ntmps50
  go_upto_region 1 with fail
  go_quiet (fail)
  go_upto_region 31 with fail
  by_cases x0 : ka = 2
  · subst x0
    have hv : fitsJ 3 T N y ⟨2, na, nas, kids⟩ b = true := by simp [fitsJ, *]
    have HV := Lib.hid hv
    clear hv
    go_wp2
    go_ret
    exact ⟨(by rw [HV.out]; rfl), bel_drews⟩
  · have x0n : (ka == 2) = false := by simpa using x0
    have hv : fitsJ 3 T N y ⟨ka, na, nas, kids⟩ b = false := by simp [fitsJ, *]
    have HV := Lib.hid hv
    clear hv
    go_wp2
    go_ret
    exact ⟨(by rw [HV.out]; rfl), bel_drews⟩
set_option maxHeartbeats 4000000 in
theorem fits_i32 (w : World) (gb tb : Nat) (T : List Kz) (N : List NN) (l : List Nat) (a b : Kz) (aa ak : Option Addr) (ca ck : Nat) (h : GivV w gb tb aa ak ca ck l a.kind a.kids b.kind) (y : Nat) :
    Calls Try.prog 50 #[.pointer (some ⟨gb, 0, none⟩), .string ⟨#[105, 51, 50]⟩] w fun e w' => e = .returned (.bool (fitsJ 3 T N y a b)) ∧ Below w.heap.size w w' := by
  obtain ⟨ka, na, nas, kids⟩ := a
  obtain ⟨kb, hb⟩ : ∃ kb, b.kind = kb := ⟨_, rfl⟩
  rw [hb] at h
  dsimp only at h
  have c0 := h.c0; have c1 := h.c1; have c2 := h.c2; have c5 := h.c5; have c6 := h.c6

  clear h hb
  go_enter Try.func50, Try.ntmps50
  go_upto_region 1 with fail
  go_quiet (fail)
  go_upto_region 31 with fail
  by_cases x0 : ka = 2
  · subst x0
    have hv : fitsJ 3 T N y ⟨2, na, nas, kids⟩ b = true := by simp [fitsJ, *]
    have HV := Lib.hid hv
    clear hv
    go_wp2
    go_ret
    exact ⟨(by rw [HV.out]; rfl), bel_drews⟩
  · have x0n : (ka == 2) = false := by simpa using x0
    have hv : fitsJ 3 T N y ⟨ka, na, nas, kids⟩ b = false := by simp [fitsJ, *]
    have HV := Lib.hid hv
    clear hv
    go_wp2
    go_ret
    exact ⟨(by rw [HV.out]; rfl), bel_drews⟩
end Sp
end Go.Proofs.Ytdophmlnmbcjlaa
namespace Go.Proofs.Ytdophmlnmbcjlaa
open Go.RowKit
namespace Sp
open Sc
set_option maxRecDepth 100000
set_option maxHeartbeats 4000000 in
theorem fits_u8 (w : World) (gb tb : Nat) (T : List Kz) (N : List NN) (l : List Nat) (a b : Kz) (aa ak : Option Addr) (ca ck : Nat) (h : GivV w gb tb aa ak ca ck l a.kind a.kids b.kind) (y : Nat) :
    Calls Try.prog 50 #[.pointer (some ⟨gb, 0, none⟩), .string ⟨#[117, 56]⟩] w fun e w' => e = .returned (.bool (fitsJ 3 T N y a b)) ∧ Below w.heap.size w w' := by
  obtain ⟨ka, na, nas, kids⟩ := a
  obtain ⟨kb, hb⟩ : ∃ kb, b.kind = kb := ⟨_, rfl⟩
  rw [hb] at h
  dsimp only at h
  have c0 := h.c0; have c1 := h.c1; have c2 := h.c2; have c5 := h.c5; have c6 := h.c6

  clear h hb
  go_enter Try.func50, Try.ntmps50
  go_upto_region 1 with fail
  go_quiet (fail)
  go_upto_region 31 with fail
  by_cases x0 : ka = 2
  · subst x0
    have hv : fitsJ 3 T N y ⟨2, na, nas, kids⟩ b = true := by simp [fitsJ, *]
    have HV := Lib.hid hv
    clear hv
    go_wp2
    go_ret
    exact ⟨(by rw [HV.out]; rfl), bel_drews⟩
  · have x0n : (ka == 2) = false := by simpa using x0
    have hv : fitsJ 3 T N y ⟨ka, na, nas, kids⟩ b = false := by simp [fitsJ, *]
    have HV := Lib.hid hv
    clear hv
    go_wp2
    go_ret
    exact ⟨(by rw [HV.out]; rfl), bel_drews⟩
set_option maxHeartbeats 4000000 in
theorem fits_u16 (w : World) (gb tb : Nat) (T : List Kz) (N : List NN) (l : List Nat) (a b : Kz) (aa ak : Option Addr) (ca ck : Nat) (h : GivV w gb tb aa ak ca ck l a.kind a.kids b.kind) (y : Nat) :
    Calls Try.prog 50 #[.pointer (some ⟨gb, 0, none⟩), .string ⟨#[117, 49, 54]⟩] w fun e w' => e = .returned (.bool (fitsJ 3 T N y a b)) ∧ Below w.heap.size w w' := by
  obtain ⟨ka, na, nas, kids⟩ := a
  obtain ⟨kb, hb⟩ : ∃ kb, b.kind = kb := ⟨_, rfl⟩
  rw [hb] at h
  dsimp only at h
  have c0 := h.c0; have c1 := h.c1; have c2 := h.c2; have c5 := h.c5; have c6 := h.c6

  clear h hb
  go_enter Try.func50, Try.ntmps50
  go_upto_region 1 with fail
  go_quiet (fail)
  go_upto_region 31 with fail
  by_cases x0 : ka = 2
  · subst x0
    have hv : fitsJ 3 T N y ⟨2, na, nas, kids⟩ b = true := by simp [fitsJ, *]
    have HV := Lib.hid hv
    clear hv
    go_wp2
    go_ret
    exact ⟨(by rw [HV.out]; rfl), bel_drews⟩
  · have x0n : (ka == 2) = false := by simpa using x0
    have hv : fitsJ 3 T N y ⟨ka, na, nas, kids⟩ b = false := by simp [fitsJ, *]
    have HV := Lib.hid hv
    clear hv
    go_wp2
    go_ret
    exact ⟨(by rw [HV.out]; rfl), bel_drews⟩
set_option maxHeartbeats 4000000 in
theorem fits_u32 (w : World) (gb tb : Nat) (T : List Kz) (N : List NN) (l : List Nat) (a b : Kz) (aa ak : Option Addr) (ca ck : Nat) (h : GivV w gb tb aa ak ca ck l a.kind a.kids b.kind) (y : Nat) :
    Calls Try.prog 50 #[.pointer (some ⟨gb, 0, none⟩), .string ⟨#[117, 51, 50]⟩] w fun e w' => e = .returned (.bool (fitsJ 3 T N y a b)) ∧ Below w.heap.size w w' := by
  obtain ⟨ka, na, nas, kids⟩ := a
  obtain ⟨kb, hb⟩ : ∃ kb, b.kind = kb := ⟨_, rfl⟩
  rw [hb] at h
  dsimp only at h
  have c0 := h.c0; have c1 := h.c1; have c2 := h.c2; have c5 := h.c5; have c6 := h.c6

  clear h hb
  go_enter Try.func50, Try.ntmps50
  go_upto_region 1 with fail
  go_quiet (fail)
  go_upto_region 31 with fail
  by_cases x0 : ka = 2
  · subst x0
    have hv : fitsJ 3 T N y ⟨2, na, nas, kids⟩ b = true := by simp [fitsJ, *]
    have HV := Lib.hid hv
    clear hv
    go_wp2
    go_ret
    exact ⟨(by rw [HV.out]; rfl), bel_drews⟩
  · have x0n : (ka == 2) = false := by simpa using x0
    have hv : fitsJ 3 T N y ⟨ka, na, nas, kids⟩ b = false := by simp [fitsJ, *]
    have HV := Lib.hid hv
    clear hv
    go_wp2
    go_ret
    exact ⟨(by rw [HV.out]; rfl), bel_drews⟩
set_option maxHeartbeats 4000000 in
theorem fits_eq (w : World) (gb tb : Nat) (T : List Kz) (N : List NN) (l : List Nat) (a b : Kz) (aa ak : Option Addr) (ca ck : Nat) (h : GivV w gb tb aa ak ca ck l a.kind a.kids b.kind) (y : Nat) :
    Calls Try.prog 50 #[.pointer (some ⟨gb, 0, none⟩), .string ⟨#[101, 113]⟩] w fun e w' => e = .returned (.bool (fitsJ 4 T N y a b)) ∧ Below w.heap.size w w' := by
  obtain ⟨ka, na, nas, kids⟩ := a
  obtain ⟨kb, hb⟩ : ∃ kb, b.kind = kb := ⟨_, rfl⟩
  rw [hb] at h
  dsimp only at h
  have c0 := h.c0; have c1 := h.c1; have c2 := h.c2; have c5 := h.c5; have c6 := h.c6
  have HB := Lib.hid hb
  clear h hb
  go_enter Try.func50, Try.ntmps50
  go_upto_region 1 with fail
  go_quiet (fail)
  go_upto_region 32 with fail
  by_cases x0 : kb = ka
  · subst x0
    by_cases x1 : kb = 1
    · subst x1
      have hv : fitsJ 4 T N y ⟨1, na, nas, kids⟩ b = true := by simp [fitsJ, HB.out, *]
      have HV := Lib.hid hv
      clear hv
      go_wp2
      go_ret
      exact ⟨(by rw [HV.out]; rfl), bel_drews⟩
    · have x1n : (kb == 1) = false := by simpa using x1
      by_cases x2 : kb = 2
      · subst x2
        have hv : fitsJ 4 T N y ⟨2, na, nas, kids⟩ b = true := by simp [fitsJ, HB.out, *]
        have HV := Lib.hid hv
        clear hv
        go_wp2
        go_ret
        exact ⟨(by rw [HV.out]; rfl), bel_drews⟩
      · have x2n : (kb == 2) = false := by simpa using x2
        by_cases x3 : kb = 3
        · subst x3
          have hv : fitsJ 4 T N y ⟨3, na, nas, kids⟩ b = true := by simp [fitsJ, HB.out, *]
          have HV := Lib.hid hv
          clear hv
          go_wp2
          go_ret
          exact ⟨(by rw [HV.out]; rfl), bel_drews⟩
        · have x3n : (kb == 3) = false := by simpa using x3
          have hv : fitsJ 4 T N y ⟨kb, na, nas, kids⟩ b = false := by simp [fitsJ, HB.out, *]
          have HV := Lib.hid hv
          clear hv
          go_wp2
          go_ret
          exact ⟨(by rw [HV.out]; rfl), bel_drews⟩
  · have x0n : (ka == kb) = false := by simpa using (fun e => x0 e.symm)
    have x0m : ¬ ka = kb := fun e => x0 e.symm
    have hv : fitsJ 4 T N y ⟨ka, na, nas, kids⟩ b = false := by simp [fitsJ, HB.out, *]
    have HV := Lib.hid hv
    clear hv
    go_wp2
    go_ret
    exact ⟨(by rw [HV.out]; rfl), bel_drews⟩
set_option maxHeartbeats 4000000 in
theorem fits_cat (w : World) (gb tb : Nat) (T : List Kz) (N : List NN) (l : List Nat) (a b : Kz) (aa ak : Option Addr) (ca ck : Nat) (h : GivV w gb tb aa ak ca ck l a.kind a.kids b.kind) (y : Nat) :
    Calls Try.prog 50 #[.pointer (some ⟨gb, 0, none⟩), .string ⟨#[99, 97, 116]⟩] w fun e w' => e = .returned (.bool (fitsJ 5 T N y a b)) ∧ Below w.heap.size w w' := by
  obtain ⟨ka, na, nas, kids⟩ := a
  obtain ⟨kb, hb⟩ : ∃ kb, b.kind = kb := ⟨_, rfl⟩
  rw [hb] at h
  dsimp only at h
  have c0 := h.c0; have c1 := h.c1; have c2 := h.c2; have c5 := h.c5; have c6 := h.c6
  have HB := Lib.hid hb
  clear h hb
  go_enter Try.func50, Try.ntmps50
  go_upto_region 1 with fail
  go_quiet (fail)
  go_upto_region 35 with fail
  by_cases x0 : ka = 3
  · subst x0
    by_cases x1 : kb = 3
    · subst x1
      have hv : fitsJ 5 T N y ⟨3, na, nas, kids⟩ b = true := by simp [fitsJ, HB.out, *]
      have HV := Lib.hid hv
      clear hv
      go_wp2
      go_ret
      exact ⟨(by rw [HV.out]; rfl), bel_drews⟩
    · have x1n : (kb == 3) = false := by simpa using x1
      have hv : fitsJ 5 T N y ⟨3, na, nas, kids⟩ b = false := by simp [fitsJ, HB.out, *]
      have HV := Lib.hid hv
      clear hv
      go_wp2
      go_ret
      exact ⟨(by rw [HV.out]; rfl), bel_drews⟩
  · have x0n : (ka == 3) = false := by simpa using x0
    have hv : fitsJ 5 T N y ⟨ka, na, nas, kids⟩ b = false := by simp [fitsJ, HB.out, *]
    have HV := Lib.hid hv
    clear hv
    go_wp2
    go_ret
    exact ⟨(by rw [HV.out]; rfl), bel_drews⟩
set_option maxHeartbeats 4000000 in
theorem fits_text (w : World) (gb tb : Nat) (T : List Kz) (N : List NN) (l : List Nat) (a b : Kz) (aa ak : Option Addr) (ca ck : Nat) (h : GivV w gb tb aa ak ca ck l a.kind a.kids b.kind) (y : Nat) :
    Calls Try.prog 50 #[.pointer (some ⟨gb, 0, none⟩), .string ⟨#[116, 101, 120, 116]⟩] w fun e w' => e = .returned (.bool (fitsJ 6 T N y a b)) ∧ Below w.heap.size w w' := by
  obtain ⟨ka, na, nas, kids⟩ := a
  obtain ⟨kb, hb⟩ : ∃ kb, b.kind = kb := ⟨_, rfl⟩
  rw [hb] at h
  dsimp only at h
  have c0 := h.c0; have c1 := h.c1; have c2 := h.c2; have c5 := h.c5; have c6 := h.c6

  clear h hb
  go_enter Try.func50, Try.ntmps50
  go_upto_region 1 with fail
  go_quiet (fail)
  go_upto_region 36 with fail
  by_cases x0 : ka = 2
  · subst x0
    have hv : fitsJ 6 T N y ⟨2, na, nas, kids⟩ b = true := by simp [fitsJ, *]
    have HV := Lib.hid hv
    clear hv
    go_wp2
    go_ret
    exact ⟨(by rw [HV.out]; rfl), bel_drews⟩
  · have x0n : (ka == 2) = false := by simpa using x0
    by_cases x1 : ka = 1
    · subst x1
      have hv : fitsJ 6 T N y ⟨1, na, nas, kids⟩ b = true := by simp [fitsJ, *]
      have HV := Lib.hid hv
      clear hv
      go_wp2
      go_ret
      exact ⟨(by rw [HV.out]; rfl), bel_drews⟩
    · have x1n : (ka == 1) = false := by simpa using x1
      have hv : fitsJ 6 T N y ⟨ka, na, nas, kids⟩ b = false := by simp [fitsJ, *]
      have HV := Lib.hid hv
      clear hv
      go_wp2
      go_ret
      exact ⟨(by rw [HV.out]; rfl), bel_drews⟩
end Sp
end Go.Proofs.Ytdophmlnmbcjlaa
