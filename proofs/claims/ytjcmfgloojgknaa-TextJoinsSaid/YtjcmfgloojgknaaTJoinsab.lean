/- TextJoins: the walk, one of four variants. Written by gen_tjoins.py. -/
import Derived.Test.YtjcmfgloojgknaaTJoinsH
namespace Go.Proofs.Ytjcmfgloojgknaa
open Go.RowKit
namespace Tx

set_option maxRecDepth 100000 in
set_option maxHeartbeats 8000000 in
theorem joins_ab (ad : Option Addr) (len cap : Nat) (f : Nat → Int) (ad2 : Option Addr) (len2 cap2 : Nat) (h : Nat → Int) (w : World) (hM : MaxTab w) (hI : Ints .i64 w ad len f) (hJ : Ints .i64 w ad2 len2 h) (hA : len ≤ 20) (hB : 20 < len2) :
    Calls Try.prog 7 #[.slice ad len cap, .slice ad2 len2 cap2] w fun e w' => e = .returned (.bool true) ∧ Below w.heap.size w w' := by
  have hlen := hI.1
  have hlen2 := hJ.1
  unfold maxLen at hlen hlen2
  have cK := known_any w hM
  have HI := Lib.hid hI; have HJ := Lib.hid hJ; have HMX := Lib.hid hM; have HK := Lib.hid cK
  clear hI hJ cK hM
  go_enter Try.func7, Try.ntmps7
  go_wp2_with (go_at_call 9; (with_reducible refine HK.out.mono ?_); rintro e w1 ⟨rfl, hb⟩)
  have HS : Hid (JMem w w1.heap.size (w1.alloc (.cells jpCells 9))) := JMem.start hb _
  unfold jpCells at HS
  clear hb HK
  go_loopw [6, 8] (fun tv iv wr => ∃ (j : Nat) (t : ByteArray), j ≤ len ∧ iv = .int .i64 j ∧ tv = .string t ∧ t.size ≤ 12 * j ∧ Hid (JOk t.data.toList j) ∧ Hid (JMem w w1.heap.size wr)) (fun _ iv _ => len - (intOf iv).toNat)
  case atStart => exact ⟨0, _, Nat.zero_le _, rfl, rfl, by simp [ByteArray.size], jok_zero, HS⟩
  case round =>
    obtain ⟨j, t, hj, rfl, rfl, hts, hok, hm⟩ := hrel
    by_cases hks : j < len
    · have hjl : (j : Int) < len := by omega
      have hj6 : (j : Int) < 20 := by omega
      have hlt : j < len := hks
      obtain ⟨bb, off, rfl, hbl, hcc⟩ := HI.out.2 (by omega)
      have hcj := (hm.out.bel.cell (p := ⟨bb, off + j, none⟩) hbl).trans (hcc j hlt).1
      have hwf := bounds_i64 (hcc j hlt).2
      have h5 := Int.emod_nonneg (f j) (show (7 : Int) ≠ 0 by omega)
      have h5' := Int.emod_lt_of_pos (f j) (show (0 : Int) < 7 by omega)
      obtain ⟨n, hn⟩ : ∃ n : Nat, f j % 7 = n := ⟨(f j % 7).toNat, by omega⟩
      have cW := fun w => within_any (f j) 7 w (by omega) (by omega) hwf.1 hwf.2
      rw [hn] at cW h5 h5'
      have hcn := hm.out.cells n (by omega)
      have hml := jp_len n (by omega)
      have hsz : (t ++ jpB n).size ≤ 12 * (j + 1) := by rw [ByteArray.size_append]; omega
      have hsz2 : t.size + (jpB n).size ≤ 4000 := by omega
      have hst : JOk (t ++ jpB n).data.toList (j + 1) := by rw [cat_bytes]; exact jok_step _ _ _ hok.out (by omega)
      have HST := Lib.hid hst
      generalize jpB n = pb at *
      have HW := Lib.hid cW
      generalize f j = fj at *
      clear hcc cW hwf hlt hn hks hst
      go_wp2_with (go_at_call 13; (with_reducible refine (HW.out _).mono ?_); rintro e w' ⟨rfl, rfl⟩)
      go_roundw
      case rel => exact ⟨j + 1, _, by omega, by go_num, rfl, hsz, HST, hm⟩
      case measure => simp [intOf]; omega
    · have hje : j = len := by omega
      have hj20 : j ≤ 20 := by omega
      have hts2 : t.size ≤ 240 := by omega
      have hx1 : ¬ (j : Int) < len := by omega
      clear hks hje hts
      clear HI
      obtain ⟨j1, hj1⟩ : ∃ j1, j1 = j := ⟨j, rfl⟩
      subst hj1
      obtain ⟨s, hs⟩ : ∃ s, s = t := ⟨t, rfl⟩
      subst hs
      have HOK1 := hok; have hs240 := hts2; have hj1' := hj20; have HM1 := hm
      clear hok hm hts2 hj20
      go_wp2
      go_loopw [7, 9] (fun tv iv wr => ∃ (j : Nat) (t : ByteArray), j ≤ 20 ∧ iv = .int .i64 j ∧ tv = .string t ∧ t.size ≤ 12 * j ∧ Hid (JOk t.data.toList j) ∧ Hid (JMem w w1.heap.size wr)) (fun _ iv _ => 20 - (intOf iv).toNat)
      case atStart => exact ⟨0, _, Nat.zero_le _, rfl, rfl, by simp [ByteArray.size], jok_zero, HM1⟩
      case round =>
        obtain ⟨j, t, hj, rfl, rfl, hts, hok, hm⟩ := hrel
        by_cases hks : j < 20
        · have hjl : (j : Int) < len2 := by omega
          have hj6 : (j : Int) < 20 := by omega
          have hlt : j < len2 := by omega
          obtain ⟨bb, off, rfl, hbl, hcc⟩ := HJ.out.2 (by omega)
          have hcj := (hm.out.bel.cell (p := ⟨bb, off + j, none⟩) hbl).trans (hcc j hlt).1
          have hwf := bounds_i64 (hcc j hlt).2
          have h5 := Int.emod_nonneg (h j) (show (7 : Int) ≠ 0 by omega)
          have h5' := Int.emod_lt_of_pos (h j) (show (0 : Int) < 7 by omega)
          obtain ⟨n, hn⟩ : ∃ n : Nat, h j % 7 = n := ⟨(h j % 7).toNat, by omega⟩
          have cW := fun w => within_any (h j) 7 w (by omega) (by omega) hwf.1 hwf.2
          rw [hn] at cW h5 h5'
          have hcn := hm.out.cells n (by omega)
          have hml := jp_len n (by omega)
          have hsz : (t ++ jpB n).size ≤ 12 * (j + 1) := by rw [ByteArray.size_append]; omega
          have hsz2 : t.size + (jpB n).size ≤ 4000 := by omega
          have hst : JOk (t ++ jpB n).data.toList (j + 1) := by rw [cat_bytes]; exact jok_step _ _ _ hok.out (by omega)
          have HST := Lib.hid hst
          generalize jpB n = pb at *
          have HW := Lib.hid cW
          generalize h j = fj at *
          clear hcc cW hwf hlt hn hks hst
          go_wp2_with (go_at_call 13; (with_reducible refine (HW.out _).mono ?_); rintro e w' ⟨rfl, rfl⟩)
          go_roundw
          case rel => exact ⟨j + 1, _, by omega, by go_num, rfl, hsz, HST, hm⟩
          case measure => simp [intOf]; omega
        · have hje : j = 20 := by omega
          have hj20 : j ≤ 20 := by omega
          have hts2 : t.size ≤ 240 := by omega
          have hy1 : (j : Int) < len2 := by omega
          have hy2 : ¬ (j : Int) < 20 := by omega
          clear hks hje hts
          clear HJ HM1
          obtain ⟨u, hu⟩ : ∃ u, u = t := ⟨t, rfl⟩
          subst hu
          obtain ⟨wa, hwa⟩ : ∃ wa, wa = wr := ⟨wr, rfl⟩
          subst hwa
          obtain ⟨xs, ys, zs, mt, f1, f2, f3, hJ3, hxl, hyl, hxb, hyb⟩ := joins_pure _ _ j1 j HOK1.out hok.out hj1' hj20
          rw [bytes_len] at hJ3
          have hM2 := HMX.out.below hm.out.bel
          have hwa := hm.out.bel.size
          have cX := Split_any s wa (by unfold maxLen; omega) hM2
          have cY := fun w hM => Split_any u w (by unfold maxLen; omega) hM
          have cZ := fun w hM => Split_any (s ++ u) w (by rw [ByteArray.size_append]; unfold maxLen; omega) hM
          unfold SplitPost at cX cY cZ
          rw [f1] at cX
          simp only [f2] at cY
          simp only [cat_bytes, f3] at cZ
          have hsum : s.size + u.size ≤ 480 := by omega
          have HBA : Hid (Below w.heap.size w wa) := hm.out.bel
          have HJ3 := Lib.hid hJ3; have HXB := Lib.hid hxb; have HYB := Lib.hid hyb; have CX := Lib.hid cX; have CY := Lib.hid cY; have CZ := Lib.hid cZ; have HM2 := Lib.hid hM2
          clear cX cY cZ hJ3 hxb hyb hok hm f1 f2 f3 HOK1 HMX hM2
          go_wp2_with fail
          (with_reducible refine CX.out.mono ?_); rintro e w2 ⟨hb2, v, rfl, ho⟩
          obtain ⟨xa, xc, rfl⟩ := own_slice ho
          have HX2 := Lib.hid (PMem.mk ho hb2)
          have HM3 := Lib.hid (HM2.out.below hb2)
          have hz2 := hb2.size
          clear ho hb2 CX HM2
          go_wp2_with fail
          (with_reducible refine (CY.out _ HM3.out).mono ?_); rintro e w3 ⟨hb3, v, rfl, ho⟩
          obtain ⟨ya, yc, rfl⟩ := own_slice ho
          have HX3 := Lib.hid (HX2.out.same hb3)
          have HY3 := Lib.hid (PMem.mk ho hb3)
          have HM4 := Lib.hid (HM3.out.below hb3)
          have hz3 := hb3.size
          clear ho hb3 CY HM3 HX2
          go_wp2_with fail
          (with_reducible refine (CZ.out _ HM4.out).mono ?_); rintro e w4 ⟨hb4, v, rfl, ho⟩
          obtain ⟨za, zc, rfl⟩ := own_slice ho
          have HX4 := Lib.hid (HX3.out.same hb4)
          have HY4 := Lib.hid (HY3.out.same hb4)
          have HZ4 := Lib.hid (PMem.mk ho hb4)
          have hz4 := hb4.size
          clear ho hb4 CZ HM4 HX3 HY3
          have HB4 : Hid (Below w.heap.size w w4) := HBA.out.trans (HX4.out.bel.mono hwa)
          have hbx := hs240
          go_upto_region 18 with (fail)
          go_cut [16] (fun s16 wx => s16 = .bool mt ∧ w4 = wx)
          case first =>
            cases mt with
            | true =>
              obtain ⟨hx0, hy0, hz0, a1, a2, a3, a4⟩ := HJ3.out.first rfl
              obtain ⟨gx, cx, e1, _, hgx⟩ := row_some HX4.out.own hx0
              cases e1
              obtain ⟨gy, cy, e2, _, hgy⟩ := row_some HY4.out.own hy0
              cases e2
              have x0 := (row_at HX4.out.own (xs.length - 1) (by omega)).1
              have y0 := (row_at HY4.out.own 0 hy0).1
              rw [a1] at x0
              rw [a2, Nat.zero_mul] at y0
              have em : (xs.length : Int) - 1 = ((xs.length - 1 : Nat) : Int) := by omega
              have el : xs.length - 1 < xs.length := by omega
              have hx0' : (0 : Int) < xs.length := by omega
              have hy0' : (0 : Int) < ys.length := by omega
              clear a1 a2 a3 a4 hz0
              generalize xs.length - 1 = m at *
              go_wp2_with fail
              go_meet
              exact ⟨rfl, rfl⟩
            | false =>
              by_cases hx0 : 0 < xs.length
              · have hx0' : (0 : Int) < xs.length := by omega
                by_cases hy0 : 0 < ys.length
                · have hy0' : (0 : Int) < ys.length := by omega
                  obtain ⟨hxx, hyy, ha⟩ := HJ3.out.no rfl hx0 hy0
                  obtain ⟨gx, cx, e1, _, hgx⟩ := row_some HX4.out.own hx0
                  cases e1
                  obtain ⟨gy, cy, e2, _, hgy⟩ := row_some HY4.out.own hy0
                  cases e2
                  have x0 := (row_at HX4.out.own (xs.length - 1) (by omega)).1
                  have y0 := (row_at HY4.out.own 0 hy0).1
                  rw [Nat.zero_mul] at y0
                  have em : (xs.length : Int) - 1 = ((xs.length - 1 : Nat) : Int) := by omega
                  have el : xs.length - 1 < xs.length := by omega
                  cases hxa : xs[xs.length - 1].act with
                  | true =>
                    rw [hxa] at x0
                    clear ha hxa y0
                    generalize xs.length - 1 = m at *
                    go_wp2_with fail
                    go_meet
                    exact ⟨rfl, rfl⟩
                  | false =>
                    rw [hxa] at x0
                    have hya : ys[0].act = true := by
                      rcases ha with h | h
                      · rw [hxa] at h; cases h
                      · exact h
                    rw [hya] at y0
                    clear ha hxa hya
                    generalize xs.length - 1 = m at *
                    go_wp2_with fail
                    go_meet
                    exact ⟨rfl, rfl⟩
                · have hy0' : ¬ (0 : Int) < ys.length := by omega
                  go_wp2_with fail
                  go_meet
                  exact ⟨rfl, rfl⟩
              · have hx0' : ¬ (0 : Int) < xs.length := by omega
                go_wp2_with fail
                go_meet
                exact ⟨rfl, rfl⟩
          case rest =>
            obtain ⟨rfl, rfl⟩ := hcut
            have hlenJ := HJ3.out.len
            have hbw4 := HB4.out.size
            cases mt with
            | false =>
              simp only [Bool.false_eq_true, if_false, Nat.add_zero] at hlenJ
              have tn : ((zs.length : Int) != (xs.length : Int) + ys.length) = false := by simp; omega
              have hn : zs.length = xs.length + ys.length := by omega
              have HN := Lib.hid hn
              clear hn hlenJ
              go_wp2
              go_loopw [18] (fun iv wr => ∃ i : Nat, i ≤ ys.length ∧ iv = .int .i64 i ∧ Hid (Below w4.heap.size w4 wr)) (fun iv _ => ys.length - (intOf iv).toNat)
              case atStart => exact ⟨0, Nat.zero_le _, rfl, Lib.hid (Below.refl _ _)⟩
              case round =>
                obtain ⟨i, hi, rfl, hm⟩ := hrel
                have hms := hm.out.size
                by_cases hlt : i < ys.length
                · have hil : (i : Int) < ys.length := by omega
                  obtain ⟨hz, r1, r2, r3⟩ := HJ3.out.rest i hlt (fun h => by cases h)
                  obtain ⟨gy, cy, e2, _, hgy⟩ := row_some HY4.out.own (by omega)
                  cases e2
                  obtain ⟨gz, cz, e3, _, hgz⟩ := row_some HZ4.out.own (by omega)
                  cases e3
                  obtain ⟨z0, z1, z2⟩ := row_at HZ4.out.own _ hz
                  obtain ⟨y0, y1, y2⟩ := row_at HY4.out.own i hlt
                  have hyb := HYB.out i hlt
                  rw [r1] at z0; rw [r2] at z1; rw [r3] at z2
                  have e0 : zs.length - ys.length + i = xs.length + i := by rw [HN.out]; omega
                  simp only [e0] at hz r1 r2 r3 z0 z1 z2
                  have hq : (xs.length : Int) + i = ((xs.length + i : Nat) : Int) := by omega
                  generalize ys[i] = yy at *
                  obtain ⟨ya, yz, yt⟩ := yy
                  dsimp only at y0 y1 y2 z0 z1 z2 hyb
                  rw [show ((yt + s.size : Nat) : Int) = (yt : Int) + s.size by omega] at z2
                  have zc0 := (hm.out.cell (p := ⟨gz, (xs.length + i) * 3, none⟩) hgz).trans z0
                  have zc1 := (hm.out.cell (p := ⟨gz, (xs.length + i) * 3 + 1, none⟩) hgz).trans z1
                  have zc2 := (hm.out.cell (p := ⟨gz, (xs.length + i) * 3 + 2, none⟩) hgz).trans z2
                  have yc0 := (hm.out.cell (p := ⟨gy, i * 3, none⟩) hgy).trans y0
                  have yc1 := (hm.out.cell (p := ⟨gy, i * 3 + 1, none⟩) hgy).trans y1
                  have yc2 := (hm.out.cell (p := ⟨gy, i * 3 + 2, none⟩) hgy).trans y2
                  have hgy' := Nat.lt_of_lt_of_le hgy hms
                  have hgz' := Nat.lt_of_lt_of_le hgz hms
                  have hyt := hyb.1
                  have hi0 : (0 : Int) ≤ i := by omega
                  have hkz : (xs.length : Int) + i < zs.length := by have := HN.out; omega
                  have HQ := Lib.hid hq; clear hq
                  generalize (⟨yz.toArray⟩ : ByteArray) = yb at *
                  clear z0 z1 z2 y0 y1 y2 r1 r2 r3 hyb hlt hgy hgz hz e0
                  have esum : IntKind.i64.wrap ((yt : Int) + s.size) = (yt : Int) + s.size := IntWalk.i64_in _ (by omega)
                  by_cases hi1 : i = 0
                  · have ti : ((i : Int) == 0) = true := by simp [hi1]
                    clear hi1
                    go_wp2_with fail
                    go_quiet (fail)
                    go_wp2
                    go_roundw
                    case rel => exact ⟨i + 1, by omega, by go_num, Lib.hid (below_dN2 (hm.out.alloc hms _) _)⟩
                    case measure => simp [intOf]; omega
                  · have ti : ((i : Int) == 0) = false := by simp; omega
                    clear hi1
                    go_wp2_with fail
                    go_quiet (fail)
                    go_wp2
                    go_roundw
                    case rel => exact ⟨i + 1, by omega, by go_num, Lib.hid (below_dN2 (hm.out.alloc hms _) _)⟩
                    case measure => simp [intOf]; omega
                · have hil : ¬ (i : Int) < ys.length := by omega
                  go_wp2
                  go_ret
                  exact ⟨rfl, HB4.out.trans (hm.out.mono hbw4)⟩
            | true =>
              simp only [if_true] at hlenJ
              obtain ⟨hx0, hy0, hz0, a1, a2, a3, a4⟩ := HJ3.out.first rfl
              have tn : ((zs.length : Int) != (xs.length : Int) + ys.length - 1) = false := by simp; omega
              have hn : zs.length + 1 = xs.length + ys.length := by omega
              obtain ⟨m, hm1⟩ : ∃ m, xs.length - 1 = m := ⟨_, rfl⟩
              have hm2 : xs.length = m + 1 := by omega
              have eq0 : zs.length - ys.length = m := by omega
              obtain ⟨gx, cx, e1, _, hgx⟩ := row_some HX4.out.own hx0
              cases e1
              obtain ⟨gy, cy, e2, _, hgy⟩ := row_some HY4.out.own hy0
              cases e2
              obtain ⟨gz, cz, e3, _, hgz⟩ := row_some HZ4.out.own (by omega)
              cases e3
              have x1 := (row_at HX4.out.own (xs.length - 1) (by omega)).2.1
              have hxs := HXB.out (xs.length - 1) (by omega)
              have y1f := (row_at HY4.out.own 0 hy0).2.1
              have hys0 := (HYB.out 0 hy0).2
              obtain ⟨z0f, z1f, z2f⟩ := row_at HZ4.out.own (zs.length - ys.length) hz0
              rw [a3] at z0f
              rw [a4] at z1f
              generalize xs[xs.length - 1].s = xst at *
              generalize ys[0].s = yst at *
              rw [hm1] at x1
              rw [eq0] at z0f z1f
              rw [Nat.zero_mul, Nat.zero_add] at y1f
              have HN := Lib.hid hn; have HM2 := Lib.hid hm2; have HE0 := Lib.hid eq0
              have hm3 : (xs.length : Int) - 1 = (m : Int) := by omega
              clear hn hlenJ hm1 hm2 eq0 a1 a2 a3 a4 z2f hz0
              go_wp2
              go_loopw [18] (fun iv wr => ∃ i : Nat, i ≤ ys.length ∧ iv = .int .i64 i ∧ Hid (Below w4.heap.size w4 wr)) (fun iv _ => ys.length - (intOf iv).toNat)
              case atStart => exact ⟨0, Nat.zero_le _, rfl, Lib.hid (Below.refl _ _)⟩
              case round =>
                obtain ⟨i, hi, rfl, hm⟩ := hrel
                have hms := hm.out.size
                by_cases hlt : i < ys.length
                · have hil : (i : Int) < ys.length := by omega
                  have hgx' := Nat.lt_of_lt_of_le hgx hms
                  have hgy' := Nat.lt_of_lt_of_le hgy hms
                  have hgz' := Nat.lt_of_lt_of_le hgz hms
                  have hb0 : (0 : Int) ≤ (xs.length : Int) + ys.length - 1 - ys.length + i := by have := HM2.out; omega
                  have hb1 : (xs.length : Int) + ys.length - 1 - ys.length + i < zs.length := by have := HN.out; omega
                  by_cases hi1 : i = 0
                  · have ti : ((i : Int) == 0) = true := by simp [hi1]
                    have ek : xs.length + ys.length - 1 - ys.length + i = m := by have := HM2.out; omega
                    have zc0 := (hm.out.cell (p := ⟨gz, m * 3, none⟩) hgz).trans z0f
                    have zc1 := (hm.out.cell (p := ⟨gz, m * 3 + 1, none⟩) hgz).trans z1f
                    obtain ⟨zat, zc2⟩ : ∃ zat : Int, wr.cell? ⟨gz, m * 3 + 2, none⟩ = some (.int .i64 zat) := by
                      have hz0 : zs.length - ys.length < zs.length := by have := HN.out; omega
                      have h := (row_at HZ4.out.own (zs.length - ys.length) hz0).2.2
                      generalize zs[zs.length - ys.length].at_ = za2 at h
                      rw [HE0.out] at h
                      exact ⟨_, (hm.out.cell (p := ⟨gz, m * 3 + 2, none⟩) hgz).trans h⟩
                    have xc1 := (hm.out.cell (p := ⟨gx, m * 3 + 1, none⟩) hgx).trans x1
                    have yc1 := (hm.out.cell (p := ⟨gy, 1, none⟩) hgy).trans y1f
                    rw [← ek] at zc0 zc1 zc2
                    have hxs' : (⟨xst.toArray⟩ : ByteArray).size ≤ 240 := hxs
                    have hys' : (⟨yst.toArray⟩ : ByteArray).size ≤ 240 := hys0
                    have ecat : (⟨(xst ++ yst).toArray⟩ : ByteArray) = ⟨xst.toArray⟩ ++ ⟨yst.toArray⟩ := by
                      apply ByteArray.ext; apply Array.ext'; rw [cat_bytes]
                    rw [ecat] at zc1
                    generalize (⟨xst.toArray⟩ : ByteArray) = xb at *
                    generalize (⟨yst.toArray⟩ : ByteArray) = yb at *
                    have esum := fun w : World => run_string_add_sum (P := Try.prog) w xb yb (by omega)
                    have hy0' : (0 : Int) < ys.length := by omega
                    have hm0 : (0 : Int) ≤ m := by omega
                    have hml : (m : Int) < xs.length := by omega
                    clear hi1 ek ecat z0f z1f x1 y1f hgx hgy hgz hxs hys0
                    go_wp2_with fail
                    go_quiet (fail)
                    go_wp2
                    go_roundw
                    case rel => exact ⟨i + 1, by omega, by go_num, Lib.hid (below_dN2 (hm.out.alloc hms _) _)⟩
                    case measure => simp [intOf]; omega
                  · have ti : ((i : Int) == 0) = false := by simp; omega
                    obtain ⟨hz, r1, r2, r3⟩ := HJ3.out.rest i hlt (fun _ => hi1)
                    obtain ⟨z0, z1, z2⟩ := row_at HZ4.out.own _ hz
                    obtain ⟨y0, y1, y2⟩ := row_at HY4.out.own i hlt
                    have hyb := HYB.out i hlt
                    rw [r1] at z0; rw [r2] at z1; rw [r3] at z2
                    have ek : zs.length - ys.length + i = xs.length + ys.length - 1 - ys.length + i := by have := HN.out; omega
                    rw [ek] at z0 z1 z2
                    generalize ys[i] = yy at *
                    obtain ⟨ya, yz, yt⟩ := yy
                    dsimp only at y0 y1 y2 z0 z1 z2 hyb
                    rw [show ((yt + s.size : Nat) : Int) = (yt : Int) + s.size by omega] at z2
                    have zc0 := (hm.out.cell (p := ⟨gz, (xs.length + ys.length - 1 - ys.length + i) * 3, none⟩) hgz).trans z0
                    have zc1 := (hm.out.cell (p := ⟨gz, (xs.length + ys.length - 1 - ys.length + i) * 3 + 1, none⟩) hgz).trans z1
                    have zc2 := (hm.out.cell (p := ⟨gz, (xs.length + ys.length - 1 - ys.length + i) * 3 + 2, none⟩) hgz).trans z2
                    have yc0 := (hm.out.cell (p := ⟨gy, i * 3, none⟩) hgy).trans y0
                    have yc1 := (hm.out.cell (p := ⟨gy, i * 3 + 1, none⟩) hgy).trans y1
                    have yc2 := (hm.out.cell (p := ⟨gy, i * 3 + 2, none⟩) hgy).trans y2
                    have hyt := hyb.1
                    have hi0 : (0 : Int) ≤ i := by omega
                    generalize (⟨yz.toArray⟩ : ByteArray) = yb at *
                    have esum : IntKind.i64.wrap ((yt : Int) + s.size) = (yt : Int) + s.size := IntWalk.i64_in _ (by omega)
                    clear hi1 z0 z1 z2 y0 y1 y2 r1 r2 r3 hyb hlt hgx hgy hgz hz ek z0f z1f x1 y1f
                    go_wp2_with fail
                    go_quiet (fail)
                    go_wp2
                    go_roundw
                    case rel => exact ⟨i + 1, by omega, by go_num, Lib.hid (below_dN2 (hm.out.alloc hms _) _)⟩
                    case measure => simp [intOf]; omega
                · have hil : ¬ (i : Int) < ys.length := by omega
                  go_wp2
                  go_ret
                  exact ⟨rfl, HB4.out.trans (hm.out.mono hbw4)⟩
end Tx
end Go.Proofs.Ytjcmfgloojgknaa
