/- SubNames' walk. Written by gen_lnam.py. -/
import Derived.Test.YtmhihnpimanhfaaS52
import Derived.Test.YtmhihnpimanhfaaS30
namespace Go.Proofs.Ytmhihnpimanhfaa
open Go.RowKit
namespace Sp
open Sc
/-- The rings so far. -/
structure NgR (w0 : World) (sb q n m : Nat) (sv : Value) (wr : World) (k : Nat) (v : Value) (us : List (List UInt8 × C4)) : Prop where
  slot : sv = .int .i64 k
  le : k ≤ n + m
  sat : wr.heap[sb]? = some (.cells #[.int .i64 0, .string ⟨#[]⟩, .slice none 0 0, .slice none 0 0, v, .slice none 0 0] 29 (0, 0))
  row : GRow wr (sb + 1) [sb] v (namRL q n m k) us
  below : Below w0.heap.size w0 wr
theorem two_alloc (w : World) (o p : Obj) : Below w.heap.size w ((w.alloc o).alloc p) := ((Below.refl _ _).alloc (Nat.le_refl _) _).alloc (by simp) _
theorem within6_int (a n r : Int) (w : World) (hn : 0 < n) (hn2 : n ≤ 1000000) (h1 : -9223372036854775808 ≤ a) (h2 : a ≤ 9223372036854775807) (hr : a % n = r) :
    Calls Try.prog 36 #[.int .i64 a, .int .i64 n] w fun e w' => e = .returned (.int .i64 r) ∧ w = w' := hr ▸ within6_any a n w hn hn2 h1 h2
set_option maxRecDepth 100000 in
set_option maxHeartbeats 30000000 in
theorem SubNames_0 (x y z : Int) (w : World) (h1 : -9223372036854775808 ≤ x) (h2 : x ≤ 9223372036854775807) (h3 : -9223372036854775808 ≤ y) (h4 : y ≤ 9223372036854775807) (h5 : -9223372036854775808 ≤ z) (h6 : z ≤ 9223372036854775807) (hzq : z % 3 = 0) :
    Calls Try.prog 8 #[.int .i64 x, .int .i64 y, .int .i64 z] w fun e w' => e = .returned (.bool true) ∧ Below w.heap.size w w' := by
  obtain ⟨r, hr, hr5⟩ : ∃ r : Nat, x % 4 = r ∧ r < 4 := ⟨(x % 4).toNat, by omega, by omega⟩
  obtain ⟨p, hp, hp5⟩ : ∃ p : Nat, y % 4 = p ∧ p < 4 := ⟨(y % 4).toNat, by omega, by omega⟩
  obtain ⟨n, hn⟩ : ∃ n, n = r + 1 := ⟨_, rfl⟩
  obtain ⟨m, hm⟩ : ∃ m, m = p + 1 := ⟨_, rfl⟩
  have hB : namB 0 n m = true := by
    have := List.all_eq_true.1 (List.all_eq_true.1 (List.all_eq_true.1 namB_all 0 (List.mem_range.2 (by omega))) r (List.mem_range.2 hr5)) p (List.mem_range.2 hp5)
    rw [← hn, ← hm] at this
    exact this
  have hsn : (1 : Int) + (r : Int) = (n : Int) := by omega
  have hsm : (1 : Int) + (p : Int) = (m : Int) := by omega
  have hn6 : n < 5 := by omega
  have hm6 : m < 5 := by omega
  have hn0 : 0 < n := by omega
  have hm0 : 0 < m := by omega
  have HR := Lib.hid hr; have HQ := Lib.hid hp; have HB := Lib.hid hB; have HZ := Lib.hid hzq; clear hr hp hB hn hm hzq
  obtain ⟨i0, hi, hz0, hz1, hz2⟩ := info_parts infoN
  have HI := Lib.hid hi; have HI0 := Lib.hid hz0; have HI1 := Lib.hid hz1; have HI2 := Lib.hid hz2; clear hi hz0 hz1 hz2
  go_enter Try.func8, Try.ntmps8
  go_wp2_with (go_at_call 35; (with_reducible refine (known6_any _).mono ?_); rintro e w1 ⟨rfl, x1⟩; have HX1 := Lib.hid x1; clear x1)
  have hx1 := HX1.out.size
  go_wp2_with (first | (go_at_call 36; (with_reducible refine (within6_is _ _ _ _ (by omega) (by omega) h1 h2 HR.out).mono ?_); rintro e w2 ⟨rfl, rfl⟩) | (go_at_call 36; (with_reducible refine (within6_is _ _ _ _ (by omega) (by omega) h3 h4 HQ.out).mono ?_); rintro e w2 ⟨rfl, rfl⟩))
  have HSN := Lib.hid hsn; have HSM := Lib.hid hsm; clear hsn hsm
  go_loopw [8] (fun v wr => ∃ k x us, NgR w w1.heap.size 0 n m v wr k x us) (fun v _ => n + m - (intOf v).toNat)
  case atStart => exact ⟨0, .slice none 0 0, [], rfl, Nat.zero_le _, by rw [blk_if, if_pos rfl], GRow.start _ _ _, HX1.out.alloc hx1 _⟩
  case round =>
    obtain ⟨k, x, us, h⟩ := hrel
    obtain rfl := h.slot
    have hk := h.le
    obtain ⟨⟨s0, s1, s2, s3, s4, s5⟩, ⟨g0, g1, g2, g3, g4, g5⟩⟩ := six_blkF h.sat
    have hz := (Array.getElem?_eq_some_iff.1 h.sat).1
    by_cases hlt : k < n + m
    · have hul : us.length = k := by rw [h.row.len]; simp [namRL]
      obtain ⟨xa, xc, rfl⟩ := h.row.cut
      have hX : ∀ y ∈ [w1.heap.size], y < wr.heap.size := fun y hy => by rw [List.mem_singleton.1 hy]; exact hz
      have hvs : ∀ v ∈ [Value.slice xa (namRL 0 n m k).length xc], ∀ g, v.ownBlock = some g → g < wr.heap.size := fun v hv g hg => by rw [List.mem_singleton.1 hv] at hg; exact (h.row.own.lt g hg).2
      have H := Lib.hid h; have HUL := Lib.hid hul; have HX := Lib.hid hX; have HVS := Lib.hid hvs
      clear h hul hX hvs
      have hkz : (k : Int) < (n : Int) + (m : Int) := by omega
      go_upto_if 46 with fail
      go_cut [9] (fun tv wx => tv = .int .i64 ((if k + 1 = n then 0 else k + 1 : Nat) : Int) ∧ wr = wx)
      case first =>
        by_cases hkn : k + 1 = n
        · have tb : ((k : Int) + 1 == (n : Int)) = true := by simp; omega
          go_wp2
          go_meet
          case rel => exact ⟨by rw [if_pos hkn]; rfl, rfl⟩
        · have tb : ((k : Int) + 1 == (n : Int)) = false := by simp; omega
          go_wp2
          go_meet
          case rel => exact ⟨by rw [if_neg hkn]; simp, rfl⟩
      case rest =>
        obtain ⟨rfl, rfl⟩ := hcut
        obtain ⟨t1, ht1⟩ : ∃ t1, (if k + 1 = n then 0 else k + 1) = t1 := ⟨_, rfl⟩
        have hto : toR n m k = if t1 = n + m then n else t1 := by
          unfold toR
          rw [← ht1]
          by_cases h5 : k + 1 = n
          · rw [if_pos h5, if_pos h5, if_neg (by omega)]
          · rw [if_neg h5, if_neg h5]
        rw [ht1]
        clear ht1
        go_upto_if 51 with fail
        go_cut [9] (fun tv wx => tv = .int .i64 (toR n m k : Nat) ∧ wr = wx)
        case first =>
          by_cases hkn : t1 = n + m
          · have tb : ((t1 : Int) == (n : Int) + (m : Int)) = true := by simp; omega
            go_wp2
            go_meet
            case rel => exact ⟨by rw [hto, if_pos hkn], rfl⟩
          · have tb : ((t1 : Int) == (n : Int) + (m : Int)) = false := by simp; omega
            go_wp2
            go_meet
            case rel => exact ⟨by rw [hto, if_neg hkn], rfl⟩
        case rest =>
          obtain ⟨rfl, rfl⟩ := hcut
          have hto10 : toR n m k ≤ 12 := by unfold toR; split; omega; split <;> omega
          clear hto
          obtain ⟨d, hto⟩ : ∃ d, toR n m k = d := ⟨_, rfl⟩
          rw [hto] at hto10
          rw [hto]
          have HTO := Lib.hid hto
          have hto0 : (d : Int) ≤ 12 := by omega
          clear hto
          have hcv1 := conv_atZ (97 + (d : Int)) (lower d) (lower_is d (by omega))
          have hcv2 := conv_atZ (97 + (k : Int)) (lower k) (lower_is k (by omega))
          have hct1 := catN (lower d)
          have hct2 := catN (lower k)
          have hk0 : (k : Int) ≤ 12 := by omega
          go_upto_region 16 with (go_at_call 36; (with_reducible refine (within6_int _ _ _ _ (by omega) (by omega) h5 h6 HZ.out).mono ?_); rintro e w2 ⟨rfl, rfl⟩)
          obtain ⟨W6, hW6⟩ : ∃ W6, W6 = (((((((wr.alloc (.cells #[.int .u8 (97 + (d : Int))] 5)).alloc (.cells #[.int .i64 9, .string ⟨#[78, lower d]⟩, .slice none 0 0, .slice none 0 0] 25)).alloc (.cells #[.int .i64 4, .int .i64 5, .int .i64 6] 3)).alloc (.cells #[.string ⟨#[120]⟩] 9)).alloc (.cells #[.int .i64 9, .string ⟨#[78, lower d]⟩, .slice none 0 0, .slice none 0 0] 25)).alloc (.cells #[.int .i64 4, .string ⟨#[]⟩, .slice none 0 0, .slice (some ⟨wr.heap.size + 1 + 1 + 1 + 1, 0, none⟩) 1 1] 25)).alloc (.cells #[.int .i64 7, .string ⟨#[]⟩, .slice (some ⟨wr.heap.size + 1 + 1 + 1, 0, none⟩) 1 1, .slice (some ⟨wr.heap.size + 1 + 1 + 1 + 1 + 1, 0, none⟩) 1 1] 25)) := ⟨_, rfl⟩
          have q6 := made (l := [_, _, _, _, _, _, _]) hW6
          have hz6 : W6.heap.size = wr.heap.size + 7 := by rw [hW6]; simp
          have hb6 : Below wr.heap.size wr W6 := by rw [hW6]; repeat first | exact Below.refl _ _ | refine Below.alloc ?_ (by simp <;> omega) _
          have hF6 : ∀ g, wr.heap.size ≤ g → g < W6.heap.size → Free W6 [w1.heap.size] [Value.slice xa (namRL 0 n m k).length xc] g := fun g e1 e2 => Free.new e1 e2 HX.out HVS.out
          have hV6 : TzV W6 (Free W6 [w1.heap.size] [Value.slice xa (namRL 0 n m k).length xc]) (namR 0 n m k) ⟨7, ⟨#[]⟩, some ⟨wr.heap.size + 1 + 1 + 1, 0, none⟩, 1, 1, some ⟨wr.heap.size + 1 + 1 + 1 + 1 + 1, 0, none⟩, 1, 1⟩ := by
            unfold namR
            rw [HTO.out]
            exact TzV.fldF (c := ⟨4, ⟨#[]⟩, none, 0, 0, some ⟨wr.heap.size + 1 + 1 + 1 + 1, 0, none⟩, 1, 1⟩) 7 [120] (q6 3 _ rfl) (q6 5 _ rfl) (hF6 _ (by omega) (by omega)) (hF6 _ (by omega) (by omega)) (TzV.kidF (c := ⟨9, ⟨#[78, lower d]⟩, none, 0, 0, none, 0, 0⟩) 4 (q6 4 _ rfl) (hF6 _ (by omega) (by omega)) (TzV.leaf _ _ 9 [78, lower d]))
          obtain ⟨⟨t0, t1, t2, t3⟩, -⟩ := four_blk (q6 6 _ rfl)
          have hS := (hb6.block w1.heap.size hz).trans H.out.sat
          have hRow := H.out.row.below hb6
          have hbw := H.out.below.trans (hb6.mono H.out.below.size)
          have hbs := H.out.below.size
          have HV6 := Lib.hid hV6; have HS := Lib.hid hS; have HROW := Lib.hid hRow; have HBW := Lib.hid hbw; have HW6 := Lib.hid hW6
          clear hV6 q6 hS hRow hbw hb6 hW6 hF6 hcv1 hct1 s0 s1 s2 s3 s4 s5 g0 g1 g2 g3 g4 g5
          rw [← HW6.out]
          clear HW6
          obtain ⟨⟨s0, s1, s2, s3, s4, s5⟩, ⟨g0, g1, g2, g3, g4, g5⟩⟩ := six_blkF HS.out
          have hy0 : w1.heap.size < W6.heap.size := by omega
          have hy1 : w1.heap.size < W6.heap.size + 1 := by omega
          have hy2 : w1.heap.size < W6.heap.size + 1 + 1 := by omega
          have hy3 : wr.heap.size + 1 + 1 + 1 + 1 + 1 + 1 < W6.heap.size := by omega
          have hy4 : wr.heap.size + 1 + 1 + 1 + 1 + 1 + 1 < W6.heap.size + 1 := by omega
          have hy5 : wr.heap.size ≤ W6.heap.size := by omega
          clear hz6
          go_wp2_with (at_builtin; (refine Sh.wpList_append_fresh rfl _ _ 26 rfl (w1.heap.size + 1) 44 i0 (.agg #[.string ⟨#[]⟩, .int .i64 0, .string ⟨#[]⟩, .slice none 0 0, .slice none 0 0]) 5 88 Try.underlying26 HI.out HI0.out HI1.out HI2.out rfl (by decide) _ us.length (us.flatMap encZ) rfl ((HROW.out.alloc _).alloc _).own ⟨W6.heap.size + 1, 0, none⟩ 1 1 [.string ⟨#[78, lower k]⟩, .int .i64 7, .string ⟨#[]⟩, .slice (some ⟨wr.heap.size + 1 + 1 + 1, 0, none⟩) 1 1, .slice (some ⟨wr.heap.size + 1 + 1 + 1 + 1 + 1, 0, none⟩) 1 1] rfl rfl (cells_atZ _ _ _ _ (by simp)) (one5 (n := [78, lower k])) (by have := HUL.out; unfold maxLen; omega) (by have := HUL.out; omega) (by simp; omega) ?_); intro v' w3 hown' hgrow hfr; obtain ⟨hg3, hst⟩ := GRow.snoc (n := [78, lower k]) (HROW.out.alloc _) (HV6.out.step (Step.alloc _ _)) hown' hgrow hfr; rw [← namRL_succ] at hg3; have hS3 := (hgrow.block w1.heap.size (by simp; omega) (fun e => HROW.out.ne (by omega) e.symm)).trans ((two_alloc W6 _ _).block _ hy0 |>.trans HS.out); have hb3 : Below w.heap.size w w3 := Below.trans (HBW.out.trans ((two_alloc W6 _ _).mono (by omega))) (below_grown hgrow (fun g e => by have := (HROW.out.own.lt g e).1; omega) (by simp <;> omega)); obtain ⟨va, vc, rfl⟩ := own_sliceZ hown'; have hz3 := hgrow.size; simp at hz3; obtain ⟨⟨c0, c1, c2, c3, c4, c5⟩, ⟨d0, d1, d2, d3, d4, d5⟩⟩ := six_blkF hS3; have HG3 := Lib.hid hg3; have HS3 := Lib.hid hS3; have HB3 := Lib.hid hb3; clear hown' hgrow hfr hg3 hst hS3 hb3)
          have hO : Only w1.heap.size w3 (w3.setCell ⟨w1.heap.size, 4, none⟩ (.slice va (us.length + 1) vc)) := (Only.refl _ _).setCell _ _
          have e3 := HB3.out.size
          have e1 := set_six4 HS3.out (.slice va (us.length + 1) vc)
          have e4 := HB3.out.trans (hO.below (by omega) (by omega))
          have e5 := HG3.out.only (b := w1.heap.size) (by simp) (by simp) hO
          have E1 := Lib.hid e1; have E4 := Lib.hid e4; have E5 := Lib.hid e5
          clear e1 e3 e4 e5 hcv2 hct2
          go_roundw
          case rel => exact ⟨k + 1, _, _, by go_num, by omega, E1.out, E5.out, E4.out⟩
          case measure => simp [intOf]; omega
    · obtain rfl : n + m = k := by omega
      obtain ⟨xa, xc, rfl⟩ := h.row.cut
      have hB := HB.out
      unfold namB at hB
      simp only [Bool.and_eq_true, decide_eq_true_eq] at hB
      obtain ⟨f1, f2, f3, f4, f5, f6, f7, f8, f9, fa, fb, fc⟩ := hB
      have hF := fineB_is f1
      generalize (newK ⟨zN [78, 97], namRL 0 n m (n + m), []⟩).2 = tab at *
      generalize addK (hasZ tab.N) tab.T (zN [78, lower n]) = ad at *
      obtain ⟨id, er, T⟩ := ad
      dsimp only at f4 f5 f6 f7 f8 f9 fa fb fc hF
      obtain ⟨⟨jd, e2, T2⟩, had⟩ : ∃ ad, addK (hasZ tab.N) T (namR 0 n m 0) = ad := ⟨_, rfl⟩
      rw [had] at f4 f5 f6 f7 f8 f9 fa fb fc
      dsimp only at f4 f5 f6 f7 f8 f9 fa fb fc
      subst f4
      have hO2 := opB_is f8
      have hO := put4_only wr w1.heap.size ⟨9, ⟨#[78, 97]⟩, none, 0, 0, none, 0, 0⟩
      have hs1 := put4_six h.sat ⟨9, ⟨#[78, 97]⟩, none, 0, 0, none, 0, 0⟩
      have hR1 := h.row.only (b := w1.heap.size) (by simp) (by simp) hO
      have hb1 := h.below.trans (hO.below hx1 h.below.size)
      have CN := new_at ⟨zN [78, 97], namRL 0 n m (n + m), []⟩ xc 0 (SzV.build (TzV.leaf _ _ 9 [78, 97]) hR1.nms (SgsV.nil none)) rfl hF.fit hF.short ⟨by simp [namRL]; omega, by simp⟩ hF.new
      obtain ⟨W3, hW3⟩ : ∃ W3, W3 = put4 wr w1.heap.size ⟨9, ⟨#[78, 97]⟩, none, 0, 0, none, 0, 0⟩ := ⟨_, rfl⟩
      rw [← hW3] at CN hb1 hs1 hR1
      have HS1 := Lib.hid hs1
      unfold put4 at hW3
      have hln : 0 < (namRL 0 n m (n + m)).length := by simp [namRL]; omega
      have hl0 : (namRL 0 n m (n + m))[0]'hln = ([78, lower 0], namR 0 n m 0) := by simp [namRL]
      have hlu : 0 < us.length := by rw [hR1.len]; exact hln
      have hv0 := (hR1.val 0 hln hlu).2
      rw [hl0] at hv0
      obtain ⟨a1, c1, e1, hr1⟩ := RowV.own (S := Any W3) (l := us.map encZ) (by have h0 := hR1.own; rw [List.flatMap_def] at h0; exact h0) (encZ_len us) (by simp) (fun g hg => (hR1.own.lt g hg).2)
      simp only [Value.slice.injEq] at e1
      obtain ⟨rfl, -, rfl⟩ := e1
      obtain ⟨gr, or_, rfl, hgr, hcr⟩ := row_at hr1 (fun _ h => h) 0 (by simpa using hlu)
      have hlen : (namRL 0 n m (n + m)).length = n + m := by simp [namRL]
      rw [hlen] at CN hs1 hln
      rw [hlen] at HS1
      have hln2 : (0 : Int) < (n : Int) + (m : Int) := by omega
      have HCR := Lib.hid (fun W (hW : Below W3.heap.size W3 W) => (show W.cell? ⟨gr, or_ + 1, none⟩ = some (.int .i64 us[0].2.k) ∧ W.cell? ⟨gr, or_ + 2, none⟩ = some (.string us[0].2.n) ∧ W.cell? ⟨gr, or_ + 3, none⟩ = some (.slice us[0].2.an us[0].2.ln us[0].2.cn) ∧ W.cell? ⟨gr, or_ + 4, none⟩ = some (.slice us[0].2.ak us[0].2.lk us[0].2.ck) from ⟨by have := hcr W hW 1 _ (by simp [encZ]; rfl); simpa using this, by have := hcr W hW 2 _ (by simp [encZ]; rfl); simpa using this, by have := hcr W hW 3 _ (by simp [encZ]; rfl); simpa using this, by have := hcr W hW 4 _ (by simp [encZ]; rfl); simpa using this⟩))
      have HV0 := Lib.hid hv0
      have HCN := Lib.hid CN; have HB1 := Lib.hid hb1; have HFF := Lib.hid hF; have HW3 := Lib.hid hW3; have HOP := Lib.hid hO2
      have HAD := Lib.hid had; have F2 := Lib.hid f2; have F3 := Lib.hid f3; have F9 := Lib.hid f9; have FA := Lib.hid fa; have FB := Lib.hid fb; have FC := Lib.hid fc
      have hcv2 := conv_atZ (97 + (n : Int)) (lower n) (lower_is n (by omega))
      have hct2 := catN (lower n)
      have hn12 : (n : Int) ≤ 12 := by omega
      clear CN hb1 hF hW3 f1 f2 f3 f9 fa fb fc hR1 hs1 hO hO2 h had hv0 hcr hr1 hl0 f8
      generalize us[0].2 = c at *
      go_upto_region 18 with fail
      rw [← HW3.out]
      clear s0 s1 s2 s3 s4 s5 g0 g1 g2 g3 g4 g5 HW3
      obtain ⟨⟨c0, c1, c2, c3, c4, c5⟩, -⟩ := six_blkF HS1.out
      have hsz := (Array.getElem?_eq_some_iff.1 HS1.out).1
      go_upto_region 21 with (go_at_call 22; (refine HCN.out.mono ?_); rintro e w2 ⟨tb, rb, nb, mb, sb, ty, nu, vs, rfl, s2, x2⟩; have hz2 := x2.size; have HS2 := Lib.hid s2; have HX2 := Lib.hid x2; clear s2 x2)
      go_upto_region 22 with (go_at_call 30; (refine ((HS2.out.below ((Below.refl _ _).alloc (Nat.le_refl _) _)).adds (by simp; omega) HFF.out.tfit HFF.out.tshort (TzV.leaf _ (fun _ => False) 9 [78, lower n]) (fun g hg => hg.elim) HFF.out.add).mono ?_); rintro e w3 ⟨rb3, nb3, ty3, nu3, rfl, s3, x3, -⟩; have HS3 := Lib.hid s3; have HLW := Lib.hid ((HX2.out.trans ((Below.refl _ _).alloc HX2.out.size _)).trans x3); have hz3 := x3.size; simp at hz3; clear s3 x3)
      clear hcv2 hct2 c0 c1 c2 c3 c4 c5
      obtain ⟨⟨c0, c1, c2, c3, c4, c5⟩, -⟩ := six_blkF ((HLW.out.block _ hsz).trans HS1.out)
      obtain ⟨r1, r2, r3, r4⟩ := HCR.out w3 HLW.out
      have CA := HS3.out.adds (by omega) F2.out F3.out (HV0.out.keep (S' := Any W3) (fun _ h => h.1) (fun g hg => HLW.out.block g hg.1)) (fun g hg => ⟨Nat.lt_of_lt_of_le hg HLW.out.size, HS3.out.far hg⟩) HAD.out
      have HCA := Lib.hid CA
      clear CA
      go_upto_region 25 with (go_at_call 30; (refine HCA.out.mono ?_); rintro e w4 ⟨rb4, nb4, ty4, nu4, rfl, s4, x4, -⟩; have HS4 := Lib.hid s4; have HX4 := Lib.hid (HB1.out.trans ((HLW.out.trans x4).mono HB1.out.size)); clear s4 x4)
      clear c0 c1 c2 c3 c4 c5 r1 r2 r3 r4
      go_upto_region 26 with (first | (go_at_call 32; (refine HS4.out.main.mono ?_); rintro e w5 ⟨rfl, x5⟩; have HS5 := Lib.hid (HS4.out.below x5); have HX5 := Lib.hid (HX4.out.trans (x5.mono HX4.out.size)); clear x5) | (go_at_call 37; (refine (HS5.out.le HOP.out f7 f6).mono ?_); rw [F9.out]; rintro e w6 ⟨rfl, x6⟩; have HS6 := Lib.hid (HS5.out.below x6); have HX6 := Lib.hid (HX5.out.trans (x6.mono HX5.out.size)); clear x6))
      go_upto_region 27 with (first | (go_at_call 32; (refine HS6.out.main.mono ?_); rintro e w7 ⟨rfl, x7⟩; have HS7 := Lib.hid (HS6.out.below x7); have HX7 := Lib.hid (HX6.out.trans (x7.mono HX6.out.size)); clear x7) | (go_at_call 37; (refine (HS7.out.le HOP.out f6 f7).mono ?_); rw [FA.out]; rintro e w8 ⟨rfl, x8⟩; have HS8 := Lib.hid (HS7.out.below x8); have HX8 := Lib.hid (HX7.out.trans (x8.mono HX7.out.size)); clear x8))
      go_upto_region 28 with (first | (go_at_call 32; (refine HS8.out.main.mono ?_); rintro e w9 ⟨rfl, x9⟩; have HS9 := Lib.hid (HS8.out.below x9); have HX9 := Lib.hid (HX8.out.trans (x9.mono HX8.out.size)); clear x9) | (go_at_call 37; (refine (HS9.out.le HOP.out f5 f7).mono ?_); rw [FB.out]; rintro e w10 ⟨rfl, x10⟩; have HS10 := Lib.hid (HS9.out.below x10); have HX10 := Lib.hid (HX9.out.trans (x10.mono HX9.out.size)); clear x10))
      go_wp2_with (first | (go_at_call 32; (refine HS10.out.main.mono ?_); rintro e w11 ⟨rfl, x11⟩; have HS11 := Lib.hid (HS10.out.below x11); have HX11 := Lib.hid (HX10.out.trans (x11.mono HX10.out.size)); clear x11) | (go_at_call 37; (refine (HS11.out.le HOP.out f7 f5).mono ?_); rw [FC.out]; rintro e w12 ⟨rfl, x12⟩; have HS12 := Lib.hid (HS11.out.below x12); have HX12 := Lib.hid (HX11.out.trans (x12.mono HX11.out.size)); clear x12))
      go_ret
      exact ⟨rfl, HX12.out⟩
set_option maxRecDepth 100000 in
set_option maxHeartbeats 30000000 in
theorem SubNames_1 (x y z : Int) (w : World) (h1 : -9223372036854775808 ≤ x) (h2 : x ≤ 9223372036854775807) (h3 : -9223372036854775808 ≤ y) (h4 : y ≤ 9223372036854775807) (h5 : -9223372036854775808 ≤ z) (h6 : z ≤ 9223372036854775807) (hzq : z % 3 = 1) :
    Calls Try.prog 8 #[.int .i64 x, .int .i64 y, .int .i64 z] w fun e w' => e = .returned (.bool true) ∧ Below w.heap.size w w' := by
  obtain ⟨r, hr, hr5⟩ : ∃ r : Nat, x % 4 = r ∧ r < 4 := ⟨(x % 4).toNat, by omega, by omega⟩
  obtain ⟨p, hp, hp5⟩ : ∃ p : Nat, y % 4 = p ∧ p < 4 := ⟨(y % 4).toNat, by omega, by omega⟩
  obtain ⟨n, hn⟩ : ∃ n, n = r + 1 := ⟨_, rfl⟩
  obtain ⟨m, hm⟩ : ∃ m, m = p + 1 := ⟨_, rfl⟩
  have hB : namB 1 n m = true := by
    have := List.all_eq_true.1 (List.all_eq_true.1 (List.all_eq_true.1 namB_all 1 (List.mem_range.2 (by omega))) r (List.mem_range.2 hr5)) p (List.mem_range.2 hp5)
    rw [← hn, ← hm] at this
    exact this
  have hsn : (1 : Int) + (r : Int) = (n : Int) := by omega
  have hsm : (1 : Int) + (p : Int) = (m : Int) := by omega
  have hn6 : n < 5 := by omega
  have hm6 : m < 5 := by omega
  have hn0 : 0 < n := by omega
  have hm0 : 0 < m := by omega
  have HR := Lib.hid hr; have HQ := Lib.hid hp; have HB := Lib.hid hB; have HZ := Lib.hid hzq; clear hr hp hB hn hm hzq
  obtain ⟨i0, hi, hz0, hz1, hz2⟩ := info_parts infoN
  have HI := Lib.hid hi; have HI0 := Lib.hid hz0; have HI1 := Lib.hid hz1; have HI2 := Lib.hid hz2; clear hi hz0 hz1 hz2
  go_enter Try.func8, Try.ntmps8
  go_wp2_with (go_at_call 35; (with_reducible refine (known6_any _).mono ?_); rintro e w1 ⟨rfl, x1⟩; have HX1 := Lib.hid x1; clear x1)
  have hx1 := HX1.out.size
  go_wp2_with (first | (go_at_call 36; (with_reducible refine (within6_is _ _ _ _ (by omega) (by omega) h1 h2 HR.out).mono ?_); rintro e w2 ⟨rfl, rfl⟩) | (go_at_call 36; (with_reducible refine (within6_is _ _ _ _ (by omega) (by omega) h3 h4 HQ.out).mono ?_); rintro e w2 ⟨rfl, rfl⟩))
  have HSN := Lib.hid hsn; have HSM := Lib.hid hsm; clear hsn hsm
  go_loopw [8] (fun v wr => ∃ k x us, NgR w w1.heap.size 1 n m v wr k x us) (fun v _ => n + m - (intOf v).toNat)
  case atStart => exact ⟨0, .slice none 0 0, [], rfl, Nat.zero_le _, by rw [blk_if, if_pos rfl], GRow.start _ _ _, HX1.out.alloc hx1 _⟩
  case round =>
    obtain ⟨k, x, us, h⟩ := hrel
    obtain rfl := h.slot
    have hk := h.le
    obtain ⟨⟨s0, s1, s2, s3, s4, s5⟩, ⟨g0, g1, g2, g3, g4, g5⟩⟩ := six_blkF h.sat
    have hz := (Array.getElem?_eq_some_iff.1 h.sat).1
    by_cases hlt : k < n + m
    · have hul : us.length = k := by rw [h.row.len]; simp [namRL]
      obtain ⟨xa, xc, rfl⟩ := h.row.cut
      have hX : ∀ y ∈ [w1.heap.size], y < wr.heap.size := fun y hy => by rw [List.mem_singleton.1 hy]; exact hz
      have hvs : ∀ v ∈ [Value.slice xa (namRL 1 n m k).length xc], ∀ g, v.ownBlock = some g → g < wr.heap.size := fun v hv g hg => by rw [List.mem_singleton.1 hv] at hg; exact (h.row.own.lt g hg).2
      have H := Lib.hid h; have HUL := Lib.hid hul; have HX := Lib.hid hX; have HVS := Lib.hid hvs
      clear h hul hX hvs
      have hkz : (k : Int) < (n : Int) + (m : Int) := by omega
      go_upto_if 46 with fail
      go_cut [9] (fun tv wx => tv = .int .i64 ((if k + 1 = n then 0 else k + 1 : Nat) : Int) ∧ wr = wx)
      case first =>
        by_cases hkn : k + 1 = n
        · have tb : ((k : Int) + 1 == (n : Int)) = true := by simp; omega
          go_wp2
          go_meet
          case rel => exact ⟨by rw [if_pos hkn]; rfl, rfl⟩
        · have tb : ((k : Int) + 1 == (n : Int)) = false := by simp; omega
          go_wp2
          go_meet
          case rel => exact ⟨by rw [if_neg hkn]; simp, rfl⟩
      case rest =>
        obtain ⟨rfl, rfl⟩ := hcut
        obtain ⟨t1, ht1⟩ : ∃ t1, (if k + 1 = n then 0 else k + 1) = t1 := ⟨_, rfl⟩
        have hto : toR n m k = if t1 = n + m then n else t1 := by
          unfold toR
          rw [← ht1]
          by_cases h5 : k + 1 = n
          · rw [if_pos h5, if_pos h5, if_neg (by omega)]
          · rw [if_neg h5, if_neg h5]
        rw [ht1]
        clear ht1
        go_upto_if 51 with fail
        go_cut [9] (fun tv wx => tv = .int .i64 (toR n m k : Nat) ∧ wr = wx)
        case first =>
          by_cases hkn : t1 = n + m
          · have tb : ((t1 : Int) == (n : Int) + (m : Int)) = true := by simp; omega
            go_wp2
            go_meet
            case rel => exact ⟨by rw [hto, if_pos hkn], rfl⟩
          · have tb : ((t1 : Int) == (n : Int) + (m : Int)) = false := by simp; omega
            go_wp2
            go_meet
            case rel => exact ⟨by rw [hto, if_neg hkn], rfl⟩
        case rest =>
          obtain ⟨rfl, rfl⟩ := hcut
          have hto10 : toR n m k ≤ 12 := by unfold toR; split; omega; split <;> omega
          clear hto
          obtain ⟨d, hto⟩ : ∃ d, toR n m k = d := ⟨_, rfl⟩
          rw [hto] at hto10
          rw [hto]
          have HTO := Lib.hid hto
          have hto0 : (d : Int) ≤ 12 := by omega
          clear hto
          have hcv1 := conv_atZ (97 + (d : Int)) (lower d) (lower_is d (by omega))
          have hcv2 := conv_atZ (97 + (k : Int)) (lower k) (lower_is k (by omega))
          have hct1 := catN (lower d)
          have hct2 := catN (lower k)
          have hk0 : (k : Int) ≤ 12 := by omega
          go_upto_region 16 with (go_at_call 36; (with_reducible refine (within6_int _ _ _ _ (by omega) (by omega) h5 h6 HZ.out).mono ?_); rintro e w2 ⟨rfl, rfl⟩)
          obtain ⟨W6, hW6⟩ : ∃ W6, W6 = (((((((wr.alloc (.cells #[.int .u8 (97 + (d : Int))] 5)).alloc (.cells #[.int .i64 9, .string ⟨#[78, lower d]⟩, .slice none 0 0, .slice none 0 0] 25)).alloc (.cells #[.int .i64 4, .int .i64 5, .int .i64 6] 3)).alloc (.cells #[.string ⟨#[120]⟩] 9)).alloc (.cells #[.int .i64 9, .string ⟨#[78, lower d]⟩, .slice none 0 0, .slice none 0 0] 25)).alloc (.cells #[.int .i64 5, .string ⟨#[]⟩, .slice none 0 0, .slice (some ⟨wr.heap.size + 1 + 1 + 1 + 1, 0, none⟩) 1 1] 25)).alloc (.cells #[.int .i64 7, .string ⟨#[]⟩, .slice (some ⟨wr.heap.size + 1 + 1 + 1, 0, none⟩) 1 1, .slice (some ⟨wr.heap.size + 1 + 1 + 1 + 1 + 1, 0, none⟩) 1 1] 25)) := ⟨_, rfl⟩
          have q6 := made (l := [_, _, _, _, _, _, _]) hW6
          have hz6 : W6.heap.size = wr.heap.size + 7 := by rw [hW6]; simp
          have hb6 : Below wr.heap.size wr W6 := by rw [hW6]; repeat first | exact Below.refl _ _ | refine Below.alloc ?_ (by simp <;> omega) _
          have hF6 : ∀ g, wr.heap.size ≤ g → g < W6.heap.size → Free W6 [w1.heap.size] [Value.slice xa (namRL 1 n m k).length xc] g := fun g e1 e2 => Free.new e1 e2 HX.out HVS.out
          have hV6 : TzV W6 (Free W6 [w1.heap.size] [Value.slice xa (namRL 1 n m k).length xc]) (namR 1 n m k) ⟨7, ⟨#[]⟩, some ⟨wr.heap.size + 1 + 1 + 1, 0, none⟩, 1, 1, some ⟨wr.heap.size + 1 + 1 + 1 + 1 + 1, 0, none⟩, 1, 1⟩ := by
            unfold namR
            rw [HTO.out]
            exact TzV.fldF (c := ⟨5, ⟨#[]⟩, none, 0, 0, some ⟨wr.heap.size + 1 + 1 + 1 + 1, 0, none⟩, 1, 1⟩) 7 [120] (q6 3 _ rfl) (q6 5 _ rfl) (hF6 _ (by omega) (by omega)) (hF6 _ (by omega) (by omega)) (TzV.kidF (c := ⟨9, ⟨#[78, lower d]⟩, none, 0, 0, none, 0, 0⟩) 5 (q6 4 _ rfl) (hF6 _ (by omega) (by omega)) (TzV.leaf _ _ 9 [78, lower d]))
          obtain ⟨⟨t0, t1, t2, t3⟩, -⟩ := four_blk (q6 6 _ rfl)
          have hS := (hb6.block w1.heap.size hz).trans H.out.sat
          have hRow := H.out.row.below hb6
          have hbw := H.out.below.trans (hb6.mono H.out.below.size)
          have hbs := H.out.below.size
          have HV6 := Lib.hid hV6; have HS := Lib.hid hS; have HROW := Lib.hid hRow; have HBW := Lib.hid hbw; have HW6 := Lib.hid hW6
          clear hV6 q6 hS hRow hbw hb6 hW6 hF6 hcv1 hct1 s0 s1 s2 s3 s4 s5 g0 g1 g2 g3 g4 g5
          rw [← HW6.out]
          clear HW6
          obtain ⟨⟨s0, s1, s2, s3, s4, s5⟩, ⟨g0, g1, g2, g3, g4, g5⟩⟩ := six_blkF HS.out
          have hy0 : w1.heap.size < W6.heap.size := by omega
          have hy1 : w1.heap.size < W6.heap.size + 1 := by omega
          have hy2 : w1.heap.size < W6.heap.size + 1 + 1 := by omega
          have hy3 : wr.heap.size + 1 + 1 + 1 + 1 + 1 + 1 < W6.heap.size := by omega
          have hy4 : wr.heap.size + 1 + 1 + 1 + 1 + 1 + 1 < W6.heap.size + 1 := by omega
          have hy5 : wr.heap.size ≤ W6.heap.size := by omega
          clear hz6
          go_wp2_with (at_builtin; (refine Sh.wpList_append_fresh rfl _ _ 26 rfl (w1.heap.size + 1) 44 i0 (.agg #[.string ⟨#[]⟩, .int .i64 0, .string ⟨#[]⟩, .slice none 0 0, .slice none 0 0]) 5 88 Try.underlying26 HI.out HI0.out HI1.out HI2.out rfl (by decide) _ us.length (us.flatMap encZ) rfl ((HROW.out.alloc _).alloc _).own ⟨W6.heap.size + 1, 0, none⟩ 1 1 [.string ⟨#[78, lower k]⟩, .int .i64 7, .string ⟨#[]⟩, .slice (some ⟨wr.heap.size + 1 + 1 + 1, 0, none⟩) 1 1, .slice (some ⟨wr.heap.size + 1 + 1 + 1 + 1 + 1, 0, none⟩) 1 1] rfl rfl (cells_atZ _ _ _ _ (by simp)) (one5 (n := [78, lower k])) (by have := HUL.out; unfold maxLen; omega) (by have := HUL.out; omega) (by simp; omega) ?_); intro v' w3 hown' hgrow hfr; obtain ⟨hg3, hst⟩ := GRow.snoc (n := [78, lower k]) (HROW.out.alloc _) (HV6.out.step (Step.alloc _ _)) hown' hgrow hfr; rw [← namRL_succ] at hg3; have hS3 := (hgrow.block w1.heap.size (by simp; omega) (fun e => HROW.out.ne (by omega) e.symm)).trans ((two_alloc W6 _ _).block _ hy0 |>.trans HS.out); have hb3 : Below w.heap.size w w3 := Below.trans (HBW.out.trans ((two_alloc W6 _ _).mono (by omega))) (below_grown hgrow (fun g e => by have := (HROW.out.own.lt g e).1; omega) (by simp <;> omega)); obtain ⟨va, vc, rfl⟩ := own_sliceZ hown'; have hz3 := hgrow.size; simp at hz3; obtain ⟨⟨c0, c1, c2, c3, c4, c5⟩, ⟨d0, d1, d2, d3, d4, d5⟩⟩ := six_blkF hS3; have HG3 := Lib.hid hg3; have HS3 := Lib.hid hS3; have HB3 := Lib.hid hb3; clear hown' hgrow hfr hg3 hst hS3 hb3)
          have hO : Only w1.heap.size w3 (w3.setCell ⟨w1.heap.size, 4, none⟩ (.slice va (us.length + 1) vc)) := (Only.refl _ _).setCell _ _
          have e3 := HB3.out.size
          have e1 := set_six4 HS3.out (.slice va (us.length + 1) vc)
          have e4 := HB3.out.trans (hO.below (by omega) (by omega))
          have e5 := HG3.out.only (b := w1.heap.size) (by simp) (by simp) hO
          have E1 := Lib.hid e1; have E4 := Lib.hid e4; have E5 := Lib.hid e5
          clear e1 e3 e4 e5 hcv2 hct2
          go_roundw
          case rel => exact ⟨k + 1, _, _, by go_num, by omega, E1.out, E5.out, E4.out⟩
          case measure => simp [intOf]; omega
    · obtain rfl : n + m = k := by omega
      obtain ⟨xa, xc, rfl⟩ := h.row.cut
      have hB := HB.out
      unfold namB at hB
      simp only [Bool.and_eq_true, decide_eq_true_eq] at hB
      obtain ⟨f1, f2, f3, f4, f5, f6, f7, f8, f9, fa, fb, fc⟩ := hB
      have hF := fineB_is f1
      generalize (newK ⟨zN [78, 97], namRL 1 n m (n + m), []⟩).2 = tab at *
      generalize addK (hasZ tab.N) tab.T (zN [78, lower n]) = ad at *
      obtain ⟨id, er, T⟩ := ad
      dsimp only at f4 f5 f6 f7 f8 f9 fa fb fc hF
      obtain ⟨⟨jd, e2, T2⟩, had⟩ : ∃ ad, addK (hasZ tab.N) T (namR 1 n m 0) = ad := ⟨_, rfl⟩
      rw [had] at f4 f5 f6 f7 f8 f9 fa fb fc
      dsimp only at f4 f5 f6 f7 f8 f9 fa fb fc
      subst f4
      have hO2 := opB_is f8
      have hO := put4_only wr w1.heap.size ⟨9, ⟨#[78, 97]⟩, none, 0, 0, none, 0, 0⟩
      have hs1 := put4_six h.sat ⟨9, ⟨#[78, 97]⟩, none, 0, 0, none, 0, 0⟩
      have hR1 := h.row.only (b := w1.heap.size) (by simp) (by simp) hO
      have hb1 := h.below.trans (hO.below hx1 h.below.size)
      have CN := new_at ⟨zN [78, 97], namRL 1 n m (n + m), []⟩ xc 0 (SzV.build (TzV.leaf _ _ 9 [78, 97]) hR1.nms (SgsV.nil none)) rfl hF.fit hF.short ⟨by simp [namRL]; omega, by simp⟩ hF.new
      obtain ⟨W3, hW3⟩ : ∃ W3, W3 = put4 wr w1.heap.size ⟨9, ⟨#[78, 97]⟩, none, 0, 0, none, 0, 0⟩ := ⟨_, rfl⟩
      rw [← hW3] at CN hb1 hs1 hR1
      have HS1 := Lib.hid hs1
      unfold put4 at hW3
      have hln : 0 < (namRL 1 n m (n + m)).length := by simp [namRL]; omega
      have hl0 : (namRL 1 n m (n + m))[0]'hln = ([78, lower 0], namR 1 n m 0) := by simp [namRL]
      have hlu : 0 < us.length := by rw [hR1.len]; exact hln
      have hv0 := (hR1.val 0 hln hlu).2
      rw [hl0] at hv0
      obtain ⟨a1, c1, e1, hr1⟩ := RowV.own (S := Any W3) (l := us.map encZ) (by have h0 := hR1.own; rw [List.flatMap_def] at h0; exact h0) (encZ_len us) (by simp) (fun g hg => (hR1.own.lt g hg).2)
      simp only [Value.slice.injEq] at e1
      obtain ⟨rfl, -, rfl⟩ := e1
      obtain ⟨gr, or_, rfl, hgr, hcr⟩ := row_at hr1 (fun _ h => h) 0 (by simpa using hlu)
      have hlen : (namRL 1 n m (n + m)).length = n + m := by simp [namRL]
      rw [hlen] at CN hs1 hln
      rw [hlen] at HS1
      have hln2 : (0 : Int) < (n : Int) + (m : Int) := by omega
      have HCR := Lib.hid (fun W (hW : Below W3.heap.size W3 W) => (show W.cell? ⟨gr, or_ + 1, none⟩ = some (.int .i64 us[0].2.k) ∧ W.cell? ⟨gr, or_ + 2, none⟩ = some (.string us[0].2.n) ∧ W.cell? ⟨gr, or_ + 3, none⟩ = some (.slice us[0].2.an us[0].2.ln us[0].2.cn) ∧ W.cell? ⟨gr, or_ + 4, none⟩ = some (.slice us[0].2.ak us[0].2.lk us[0].2.ck) from ⟨by have := hcr W hW 1 _ (by simp [encZ]; rfl); simpa using this, by have := hcr W hW 2 _ (by simp [encZ]; rfl); simpa using this, by have := hcr W hW 3 _ (by simp [encZ]; rfl); simpa using this, by have := hcr W hW 4 _ (by simp [encZ]; rfl); simpa using this⟩))
      have HV0 := Lib.hid hv0
      have HCN := Lib.hid CN; have HB1 := Lib.hid hb1; have HFF := Lib.hid hF; have HW3 := Lib.hid hW3; have HOP := Lib.hid hO2
      have HAD := Lib.hid had; have F2 := Lib.hid f2; have F3 := Lib.hid f3; have F9 := Lib.hid f9; have FA := Lib.hid fa; have FB := Lib.hid fb; have FC := Lib.hid fc
      have hcv2 := conv_atZ (97 + (n : Int)) (lower n) (lower_is n (by omega))
      have hct2 := catN (lower n)
      have hn12 : (n : Int) ≤ 12 := by omega
      clear CN hb1 hF hW3 f1 f2 f3 f9 fa fb fc hR1 hs1 hO hO2 h had hv0 hcr hr1 hl0 f8
      generalize us[0].2 = c at *
      go_upto_region 18 with fail
      rw [← HW3.out]
      clear s0 s1 s2 s3 s4 s5 g0 g1 g2 g3 g4 g5 HW3
      obtain ⟨⟨c0, c1, c2, c3, c4, c5⟩, -⟩ := six_blkF HS1.out
      have hsz := (Array.getElem?_eq_some_iff.1 HS1.out).1
      go_upto_region 21 with (go_at_call 22; (refine HCN.out.mono ?_); rintro e w2 ⟨tb, rb, nb, mb, sb, ty, nu, vs, rfl, s2, x2⟩; have hz2 := x2.size; have HS2 := Lib.hid s2; have HX2 := Lib.hid x2; clear s2 x2)
      go_upto_region 22 with (go_at_call 30; (refine ((HS2.out.below ((Below.refl _ _).alloc (Nat.le_refl _) _)).adds (by simp; omega) HFF.out.tfit HFF.out.tshort (TzV.leaf _ (fun _ => False) 9 [78, lower n]) (fun g hg => hg.elim) HFF.out.add).mono ?_); rintro e w3 ⟨rb3, nb3, ty3, nu3, rfl, s3, x3, -⟩; have HS3 := Lib.hid s3; have HLW := Lib.hid ((HX2.out.trans ((Below.refl _ _).alloc HX2.out.size _)).trans x3); have hz3 := x3.size; simp at hz3; clear s3 x3)
      clear hcv2 hct2 c0 c1 c2 c3 c4 c5
      obtain ⟨⟨c0, c1, c2, c3, c4, c5⟩, -⟩ := six_blkF ((HLW.out.block _ hsz).trans HS1.out)
      obtain ⟨r1, r2, r3, r4⟩ := HCR.out w3 HLW.out
      have CA := HS3.out.adds (by omega) F2.out F3.out (HV0.out.keep (S' := Any W3) (fun _ h => h.1) (fun g hg => HLW.out.block g hg.1)) (fun g hg => ⟨Nat.lt_of_lt_of_le hg HLW.out.size, HS3.out.far hg⟩) HAD.out
      have HCA := Lib.hid CA
      clear CA
      go_upto_region 25 with (go_at_call 30; (refine HCA.out.mono ?_); rintro e w4 ⟨rb4, nb4, ty4, nu4, rfl, s4, x4, -⟩; have HS4 := Lib.hid s4; have HX4 := Lib.hid (HB1.out.trans ((HLW.out.trans x4).mono HB1.out.size)); clear s4 x4)
      clear c0 c1 c2 c3 c4 c5 r1 r2 r3 r4
      go_upto_region 26 with (first | (go_at_call 32; (refine HS4.out.main.mono ?_); rintro e w5 ⟨rfl, x5⟩; have HS5 := Lib.hid (HS4.out.below x5); have HX5 := Lib.hid (HX4.out.trans (x5.mono HX4.out.size)); clear x5) | (go_at_call 37; (refine (HS5.out.le HOP.out f7 f6).mono ?_); rw [F9.out]; rintro e w6 ⟨rfl, x6⟩; have HS6 := Lib.hid (HS5.out.below x6); have HX6 := Lib.hid (HX5.out.trans (x6.mono HX5.out.size)); clear x6))
      go_upto_region 27 with (first | (go_at_call 32; (refine HS6.out.main.mono ?_); rintro e w7 ⟨rfl, x7⟩; have HS7 := Lib.hid (HS6.out.below x7); have HX7 := Lib.hid (HX6.out.trans (x7.mono HX6.out.size)); clear x7) | (go_at_call 37; (refine (HS7.out.le HOP.out f6 f7).mono ?_); rw [FA.out]; rintro e w8 ⟨rfl, x8⟩; have HS8 := Lib.hid (HS7.out.below x8); have HX8 := Lib.hid (HX7.out.trans (x8.mono HX7.out.size)); clear x8))
      go_upto_region 28 with (first | (go_at_call 32; (refine HS8.out.main.mono ?_); rintro e w9 ⟨rfl, x9⟩; have HS9 := Lib.hid (HS8.out.below x9); have HX9 := Lib.hid (HX8.out.trans (x9.mono HX8.out.size)); clear x9) | (go_at_call 37; (refine (HS9.out.le HOP.out f5 f7).mono ?_); rw [FB.out]; rintro e w10 ⟨rfl, x10⟩; have HS10 := Lib.hid (HS9.out.below x10); have HX10 := Lib.hid (HX9.out.trans (x10.mono HX9.out.size)); clear x10))
      go_wp2_with (first | (go_at_call 32; (refine HS10.out.main.mono ?_); rintro e w11 ⟨rfl, x11⟩; have HS11 := Lib.hid (HS10.out.below x11); have HX11 := Lib.hid (HX10.out.trans (x11.mono HX10.out.size)); clear x11) | (go_at_call 37; (refine (HS11.out.le HOP.out f7 f5).mono ?_); rw [FC.out]; rintro e w12 ⟨rfl, x12⟩; have HS12 := Lib.hid (HS11.out.below x12); have HX12 := Lib.hid (HX11.out.trans (x12.mono HX11.out.size)); clear x12))
      go_ret
      exact ⟨rfl, HX12.out⟩
set_option maxRecDepth 100000 in
set_option maxHeartbeats 30000000 in
theorem SubNames_2 (x y z : Int) (w : World) (h1 : -9223372036854775808 ≤ x) (h2 : x ≤ 9223372036854775807) (h3 : -9223372036854775808 ≤ y) (h4 : y ≤ 9223372036854775807) (h5 : -9223372036854775808 ≤ z) (h6 : z ≤ 9223372036854775807) (hzq : z % 3 = 2) :
    Calls Try.prog 8 #[.int .i64 x, .int .i64 y, .int .i64 z] w fun e w' => e = .returned (.bool true) ∧ Below w.heap.size w w' := by
  obtain ⟨r, hr, hr5⟩ : ∃ r : Nat, x % 4 = r ∧ r < 4 := ⟨(x % 4).toNat, by omega, by omega⟩
  obtain ⟨p, hp, hp5⟩ : ∃ p : Nat, y % 4 = p ∧ p < 4 := ⟨(y % 4).toNat, by omega, by omega⟩
  obtain ⟨n, hn⟩ : ∃ n, n = r + 1 := ⟨_, rfl⟩
  obtain ⟨m, hm⟩ : ∃ m, m = p + 1 := ⟨_, rfl⟩
  have hB : namB 2 n m = true := by
    have := List.all_eq_true.1 (List.all_eq_true.1 (List.all_eq_true.1 namB_all 2 (List.mem_range.2 (by omega))) r (List.mem_range.2 hr5)) p (List.mem_range.2 hp5)
    rw [← hn, ← hm] at this
    exact this
  have hsn : (1 : Int) + (r : Int) = (n : Int) := by omega
  have hsm : (1 : Int) + (p : Int) = (m : Int) := by omega
  have hn6 : n < 5 := by omega
  have hm6 : m < 5 := by omega
  have hn0 : 0 < n := by omega
  have hm0 : 0 < m := by omega
  have HR := Lib.hid hr; have HQ := Lib.hid hp; have HB := Lib.hid hB; have HZ := Lib.hid hzq; clear hr hp hB hn hm hzq
  obtain ⟨i0, hi, hz0, hz1, hz2⟩ := info_parts infoN
  have HI := Lib.hid hi; have HI0 := Lib.hid hz0; have HI1 := Lib.hid hz1; have HI2 := Lib.hid hz2; clear hi hz0 hz1 hz2
  go_enter Try.func8, Try.ntmps8
  go_wp2_with (go_at_call 35; (with_reducible refine (known6_any _).mono ?_); rintro e w1 ⟨rfl, x1⟩; have HX1 := Lib.hid x1; clear x1)
  have hx1 := HX1.out.size
  go_wp2_with (first | (go_at_call 36; (with_reducible refine (within6_is _ _ _ _ (by omega) (by omega) h1 h2 HR.out).mono ?_); rintro e w2 ⟨rfl, rfl⟩) | (go_at_call 36; (with_reducible refine (within6_is _ _ _ _ (by omega) (by omega) h3 h4 HQ.out).mono ?_); rintro e w2 ⟨rfl, rfl⟩))
  have HSN := Lib.hid hsn; have HSM := Lib.hid hsm; clear hsn hsm
  go_loopw [8] (fun v wr => ∃ k x us, NgR w w1.heap.size 2 n m v wr k x us) (fun v _ => n + m - (intOf v).toNat)
  case atStart => exact ⟨0, .slice none 0 0, [], rfl, Nat.zero_le _, by rw [blk_if, if_pos rfl], GRow.start _ _ _, HX1.out.alloc hx1 _⟩
  case round =>
    obtain ⟨k, x, us, h⟩ := hrel
    obtain rfl := h.slot
    have hk := h.le
    obtain ⟨⟨s0, s1, s2, s3, s4, s5⟩, ⟨g0, g1, g2, g3, g4, g5⟩⟩ := six_blkF h.sat
    have hz := (Array.getElem?_eq_some_iff.1 h.sat).1
    by_cases hlt : k < n + m
    · have hul : us.length = k := by rw [h.row.len]; simp [namRL]
      obtain ⟨xa, xc, rfl⟩ := h.row.cut
      have hX : ∀ y ∈ [w1.heap.size], y < wr.heap.size := fun y hy => by rw [List.mem_singleton.1 hy]; exact hz
      have hvs : ∀ v ∈ [Value.slice xa (namRL 2 n m k).length xc], ∀ g, v.ownBlock = some g → g < wr.heap.size := fun v hv g hg => by rw [List.mem_singleton.1 hv] at hg; exact (h.row.own.lt g hg).2
      have H := Lib.hid h; have HUL := Lib.hid hul; have HX := Lib.hid hX; have HVS := Lib.hid hvs
      clear h hul hX hvs
      have hkz : (k : Int) < (n : Int) + (m : Int) := by omega
      go_upto_if 46 with fail
      go_cut [9] (fun tv wx => tv = .int .i64 ((if k + 1 = n then 0 else k + 1 : Nat) : Int) ∧ wr = wx)
      case first =>
        by_cases hkn : k + 1 = n
        · have tb : ((k : Int) + 1 == (n : Int)) = true := by simp; omega
          go_wp2
          go_meet
          case rel => exact ⟨by rw [if_pos hkn]; rfl, rfl⟩
        · have tb : ((k : Int) + 1 == (n : Int)) = false := by simp; omega
          go_wp2
          go_meet
          case rel => exact ⟨by rw [if_neg hkn]; simp, rfl⟩
      case rest =>
        obtain ⟨rfl, rfl⟩ := hcut
        obtain ⟨t1, ht1⟩ : ∃ t1, (if k + 1 = n then 0 else k + 1) = t1 := ⟨_, rfl⟩
        have hto : toR n m k = if t1 = n + m then n else t1 := by
          unfold toR
          rw [← ht1]
          by_cases h5 : k + 1 = n
          · rw [if_pos h5, if_pos h5, if_neg (by omega)]
          · rw [if_neg h5, if_neg h5]
        rw [ht1]
        clear ht1
        go_upto_if 51 with fail
        go_cut [9] (fun tv wx => tv = .int .i64 (toR n m k : Nat) ∧ wr = wx)
        case first =>
          by_cases hkn : t1 = n + m
          · have tb : ((t1 : Int) == (n : Int) + (m : Int)) = true := by simp; omega
            go_wp2
            go_meet
            case rel => exact ⟨by rw [hto, if_pos hkn], rfl⟩
          · have tb : ((t1 : Int) == (n : Int) + (m : Int)) = false := by simp; omega
            go_wp2
            go_meet
            case rel => exact ⟨by rw [hto, if_neg hkn], rfl⟩
        case rest =>
          obtain ⟨rfl, rfl⟩ := hcut
          have hto10 : toR n m k ≤ 12 := by unfold toR; split; omega; split <;> omega
          clear hto
          obtain ⟨d, hto⟩ : ∃ d, toR n m k = d := ⟨_, rfl⟩
          rw [hto] at hto10
          rw [hto]
          have HTO := Lib.hid hto
          have hto0 : (d : Int) ≤ 12 := by omega
          clear hto
          have hcv1 := conv_atZ (97 + (d : Int)) (lower d) (lower_is d (by omega))
          have hcv2 := conv_atZ (97 + (k : Int)) (lower k) (lower_is k (by omega))
          have hct1 := catN (lower d)
          have hct2 := catN (lower k)
          have hk0 : (k : Int) ≤ 12 := by omega
          go_upto_region 16 with (go_at_call 36; (with_reducible refine (within6_int _ _ _ _ (by omega) (by omega) h5 h6 HZ.out).mono ?_); rintro e w2 ⟨rfl, rfl⟩)
          obtain ⟨W6, hW6⟩ : ∃ W6, W6 = (((((((wr.alloc (.cells #[.int .u8 (97 + (d : Int))] 5)).alloc (.cells #[.int .i64 9, .string ⟨#[78, lower d]⟩, .slice none 0 0, .slice none 0 0] 25)).alloc (.cells #[.int .i64 4, .int .i64 5, .int .i64 6] 3)).alloc (.cells #[.string ⟨#[120]⟩] 9)).alloc (.cells #[.int .i64 9, .string ⟨#[78, lower d]⟩, .slice none 0 0, .slice none 0 0] 25)).alloc (.cells #[.int .i64 6, .string ⟨#[]⟩, .slice none 0 0, .slice (some ⟨wr.heap.size + 1 + 1 + 1 + 1, 0, none⟩) 1 1] 25)).alloc (.cells #[.int .i64 7, .string ⟨#[]⟩, .slice (some ⟨wr.heap.size + 1 + 1 + 1, 0, none⟩) 1 1, .slice (some ⟨wr.heap.size + 1 + 1 + 1 + 1 + 1, 0, none⟩) 1 1] 25)) := ⟨_, rfl⟩
          have q6 := made (l := [_, _, _, _, _, _, _]) hW6
          have hz6 : W6.heap.size = wr.heap.size + 7 := by rw [hW6]; simp
          have hb6 : Below wr.heap.size wr W6 := by rw [hW6]; repeat first | exact Below.refl _ _ | refine Below.alloc ?_ (by simp <;> omega) _
          have hF6 : ∀ g, wr.heap.size ≤ g → g < W6.heap.size → Free W6 [w1.heap.size] [Value.slice xa (namRL 2 n m k).length xc] g := fun g e1 e2 => Free.new e1 e2 HX.out HVS.out
          have hV6 : TzV W6 (Free W6 [w1.heap.size] [Value.slice xa (namRL 2 n m k).length xc]) (namR 2 n m k) ⟨7, ⟨#[]⟩, some ⟨wr.heap.size + 1 + 1 + 1, 0, none⟩, 1, 1, some ⟨wr.heap.size + 1 + 1 + 1 + 1 + 1, 0, none⟩, 1, 1⟩ := by
            unfold namR
            rw [HTO.out]
            exact TzV.fldF (c := ⟨6, ⟨#[]⟩, none, 0, 0, some ⟨wr.heap.size + 1 + 1 + 1 + 1, 0, none⟩, 1, 1⟩) 7 [120] (q6 3 _ rfl) (q6 5 _ rfl) (hF6 _ (by omega) (by omega)) (hF6 _ (by omega) (by omega)) (TzV.kidF (c := ⟨9, ⟨#[78, lower d]⟩, none, 0, 0, none, 0, 0⟩) 6 (q6 4 _ rfl) (hF6 _ (by omega) (by omega)) (TzV.leaf _ _ 9 [78, lower d]))
          obtain ⟨⟨t0, t1, t2, t3⟩, -⟩ := four_blk (q6 6 _ rfl)
          have hS := (hb6.block w1.heap.size hz).trans H.out.sat
          have hRow := H.out.row.below hb6
          have hbw := H.out.below.trans (hb6.mono H.out.below.size)
          have hbs := H.out.below.size
          have HV6 := Lib.hid hV6; have HS := Lib.hid hS; have HROW := Lib.hid hRow; have HBW := Lib.hid hbw; have HW6 := Lib.hid hW6
          clear hV6 q6 hS hRow hbw hb6 hW6 hF6 hcv1 hct1 s0 s1 s2 s3 s4 s5 g0 g1 g2 g3 g4 g5
          rw [← HW6.out]
          clear HW6
          obtain ⟨⟨s0, s1, s2, s3, s4, s5⟩, ⟨g0, g1, g2, g3, g4, g5⟩⟩ := six_blkF HS.out
          have hy0 : w1.heap.size < W6.heap.size := by omega
          have hy1 : w1.heap.size < W6.heap.size + 1 := by omega
          have hy2 : w1.heap.size < W6.heap.size + 1 + 1 := by omega
          have hy3 : wr.heap.size + 1 + 1 + 1 + 1 + 1 + 1 < W6.heap.size := by omega
          have hy4 : wr.heap.size + 1 + 1 + 1 + 1 + 1 + 1 < W6.heap.size + 1 := by omega
          have hy5 : wr.heap.size ≤ W6.heap.size := by omega
          clear hz6
          go_wp2_with (at_builtin; (refine Sh.wpList_append_fresh rfl _ _ 26 rfl (w1.heap.size + 1) 44 i0 (.agg #[.string ⟨#[]⟩, .int .i64 0, .string ⟨#[]⟩, .slice none 0 0, .slice none 0 0]) 5 88 Try.underlying26 HI.out HI0.out HI1.out HI2.out rfl (by decide) _ us.length (us.flatMap encZ) rfl ((HROW.out.alloc _).alloc _).own ⟨W6.heap.size + 1, 0, none⟩ 1 1 [.string ⟨#[78, lower k]⟩, .int .i64 7, .string ⟨#[]⟩, .slice (some ⟨wr.heap.size + 1 + 1 + 1, 0, none⟩) 1 1, .slice (some ⟨wr.heap.size + 1 + 1 + 1 + 1 + 1, 0, none⟩) 1 1] rfl rfl (cells_atZ _ _ _ _ (by simp)) (one5 (n := [78, lower k])) (by have := HUL.out; unfold maxLen; omega) (by have := HUL.out; omega) (by simp; omega) ?_); intro v' w3 hown' hgrow hfr; obtain ⟨hg3, hst⟩ := GRow.snoc (n := [78, lower k]) (HROW.out.alloc _) (HV6.out.step (Step.alloc _ _)) hown' hgrow hfr; rw [← namRL_succ] at hg3; have hS3 := (hgrow.block w1.heap.size (by simp; omega) (fun e => HROW.out.ne (by omega) e.symm)).trans ((two_alloc W6 _ _).block _ hy0 |>.trans HS.out); have hb3 : Below w.heap.size w w3 := Below.trans (HBW.out.trans ((two_alloc W6 _ _).mono (by omega))) (below_grown hgrow (fun g e => by have := (HROW.out.own.lt g e).1; omega) (by simp <;> omega)); obtain ⟨va, vc, rfl⟩ := own_sliceZ hown'; have hz3 := hgrow.size; simp at hz3; obtain ⟨⟨c0, c1, c2, c3, c4, c5⟩, ⟨d0, d1, d2, d3, d4, d5⟩⟩ := six_blkF hS3; have HG3 := Lib.hid hg3; have HS3 := Lib.hid hS3; have HB3 := Lib.hid hb3; clear hown' hgrow hfr hg3 hst hS3 hb3)
          have hO : Only w1.heap.size w3 (w3.setCell ⟨w1.heap.size, 4, none⟩ (.slice va (us.length + 1) vc)) := (Only.refl _ _).setCell _ _
          have e3 := HB3.out.size
          have e1 := set_six4 HS3.out (.slice va (us.length + 1) vc)
          have e4 := HB3.out.trans (hO.below (by omega) (by omega))
          have e5 := HG3.out.only (b := w1.heap.size) (by simp) (by simp) hO
          have E1 := Lib.hid e1; have E4 := Lib.hid e4; have E5 := Lib.hid e5
          clear e1 e3 e4 e5 hcv2 hct2
          go_roundw
          case rel => exact ⟨k + 1, _, _, by go_num, by omega, E1.out, E5.out, E4.out⟩
          case measure => simp [intOf]; omega
    · obtain rfl : n + m = k := by omega
      obtain ⟨xa, xc, rfl⟩ := h.row.cut
      have hB := HB.out
      unfold namB at hB
      simp only [Bool.and_eq_true, decide_eq_true_eq] at hB
      obtain ⟨f1, f2, f3, f4, f5, f6, f7, f8, f9, fa, fb, fc⟩ := hB
      have hF := fineB_is f1
      generalize (newK ⟨zN [78, 97], namRL 2 n m (n + m), []⟩).2 = tab at *
      generalize addK (hasZ tab.N) tab.T (zN [78, lower n]) = ad at *
      obtain ⟨id, er, T⟩ := ad
      dsimp only at f4 f5 f6 f7 f8 f9 fa fb fc hF
      obtain ⟨⟨jd, e2, T2⟩, had⟩ : ∃ ad, addK (hasZ tab.N) T (namR 2 n m 0) = ad := ⟨_, rfl⟩
      rw [had] at f4 f5 f6 f7 f8 f9 fa fb fc
      dsimp only at f4 f5 f6 f7 f8 f9 fa fb fc
      subst f4
      have hO2 := opB_is f8
      have hO := put4_only wr w1.heap.size ⟨9, ⟨#[78, 97]⟩, none, 0, 0, none, 0, 0⟩
      have hs1 := put4_six h.sat ⟨9, ⟨#[78, 97]⟩, none, 0, 0, none, 0, 0⟩
      have hR1 := h.row.only (b := w1.heap.size) (by simp) (by simp) hO
      have hb1 := h.below.trans (hO.below hx1 h.below.size)
      have CN := new_at ⟨zN [78, 97], namRL 2 n m (n + m), []⟩ xc 0 (SzV.build (TzV.leaf _ _ 9 [78, 97]) hR1.nms (SgsV.nil none)) rfl hF.fit hF.short ⟨by simp [namRL]; omega, by simp⟩ hF.new
      obtain ⟨W3, hW3⟩ : ∃ W3, W3 = put4 wr w1.heap.size ⟨9, ⟨#[78, 97]⟩, none, 0, 0, none, 0, 0⟩ := ⟨_, rfl⟩
      rw [← hW3] at CN hb1 hs1 hR1
      have HS1 := Lib.hid hs1
      unfold put4 at hW3
      have hln : 0 < (namRL 2 n m (n + m)).length := by simp [namRL]; omega
      have hl0 : (namRL 2 n m (n + m))[0]'hln = ([78, lower 0], namR 2 n m 0) := by simp [namRL]
      have hlu : 0 < us.length := by rw [hR1.len]; exact hln
      have hv0 := (hR1.val 0 hln hlu).2
      rw [hl0] at hv0
      obtain ⟨a1, c1, e1, hr1⟩ := RowV.own (S := Any W3) (l := us.map encZ) (by have h0 := hR1.own; rw [List.flatMap_def] at h0; exact h0) (encZ_len us) (by simp) (fun g hg => (hR1.own.lt g hg).2)
      simp only [Value.slice.injEq] at e1
      obtain ⟨rfl, -, rfl⟩ := e1
      obtain ⟨gr, or_, rfl, hgr, hcr⟩ := row_at hr1 (fun _ h => h) 0 (by simpa using hlu)
      have hlen : (namRL 2 n m (n + m)).length = n + m := by simp [namRL]
      rw [hlen] at CN hs1 hln
      rw [hlen] at HS1
      have hln2 : (0 : Int) < (n : Int) + (m : Int) := by omega
      have HCR := Lib.hid (fun W (hW : Below W3.heap.size W3 W) => (show W.cell? ⟨gr, or_ + 1, none⟩ = some (.int .i64 us[0].2.k) ∧ W.cell? ⟨gr, or_ + 2, none⟩ = some (.string us[0].2.n) ∧ W.cell? ⟨gr, or_ + 3, none⟩ = some (.slice us[0].2.an us[0].2.ln us[0].2.cn) ∧ W.cell? ⟨gr, or_ + 4, none⟩ = some (.slice us[0].2.ak us[0].2.lk us[0].2.ck) from ⟨by have := hcr W hW 1 _ (by simp [encZ]; rfl); simpa using this, by have := hcr W hW 2 _ (by simp [encZ]; rfl); simpa using this, by have := hcr W hW 3 _ (by simp [encZ]; rfl); simpa using this, by have := hcr W hW 4 _ (by simp [encZ]; rfl); simpa using this⟩))
      have HV0 := Lib.hid hv0
      have HCN := Lib.hid CN; have HB1 := Lib.hid hb1; have HFF := Lib.hid hF; have HW3 := Lib.hid hW3; have HOP := Lib.hid hO2
      have HAD := Lib.hid had; have F2 := Lib.hid f2; have F3 := Lib.hid f3; have F9 := Lib.hid f9; have FA := Lib.hid fa; have FB := Lib.hid fb; have FC := Lib.hid fc
      have hcv2 := conv_atZ (97 + (n : Int)) (lower n) (lower_is n (by omega))
      have hct2 := catN (lower n)
      have hn12 : (n : Int) ≤ 12 := by omega
      clear CN hb1 hF hW3 f1 f2 f3 f9 fa fb fc hR1 hs1 hO hO2 h had hv0 hcr hr1 hl0 f8
      generalize us[0].2 = c at *
      go_upto_region 18 with fail
      rw [← HW3.out]
      clear s0 s1 s2 s3 s4 s5 g0 g1 g2 g3 g4 g5 HW3
      obtain ⟨⟨c0, c1, c2, c3, c4, c5⟩, -⟩ := six_blkF HS1.out
      have hsz := (Array.getElem?_eq_some_iff.1 HS1.out).1
      go_upto_region 21 with (go_at_call 22; (refine HCN.out.mono ?_); rintro e w2 ⟨tb, rb, nb, mb, sb, ty, nu, vs, rfl, s2, x2⟩; have hz2 := x2.size; have HS2 := Lib.hid s2; have HX2 := Lib.hid x2; clear s2 x2)
      go_upto_region 22 with (go_at_call 30; (refine ((HS2.out.below ((Below.refl _ _).alloc (Nat.le_refl _) _)).adds (by simp; omega) HFF.out.tfit HFF.out.tshort (TzV.leaf _ (fun _ => False) 9 [78, lower n]) (fun g hg => hg.elim) HFF.out.add).mono ?_); rintro e w3 ⟨rb3, nb3, ty3, nu3, rfl, s3, x3, -⟩; have HS3 := Lib.hid s3; have HLW := Lib.hid ((HX2.out.trans ((Below.refl _ _).alloc HX2.out.size _)).trans x3); have hz3 := x3.size; simp at hz3; clear s3 x3)
      clear hcv2 hct2 c0 c1 c2 c3 c4 c5
      obtain ⟨⟨c0, c1, c2, c3, c4, c5⟩, -⟩ := six_blkF ((HLW.out.block _ hsz).trans HS1.out)
      obtain ⟨r1, r2, r3, r4⟩ := HCR.out w3 HLW.out
      have CA := HS3.out.adds (by omega) F2.out F3.out (HV0.out.keep (S' := Any W3) (fun _ h => h.1) (fun g hg => HLW.out.block g hg.1)) (fun g hg => ⟨Nat.lt_of_lt_of_le hg HLW.out.size, HS3.out.far hg⟩) HAD.out
      have HCA := Lib.hid CA
      clear CA
      go_upto_region 25 with (go_at_call 30; (refine HCA.out.mono ?_); rintro e w4 ⟨rb4, nb4, ty4, nu4, rfl, s4, x4, -⟩; have HS4 := Lib.hid s4; have HX4 := Lib.hid (HB1.out.trans ((HLW.out.trans x4).mono HB1.out.size)); clear s4 x4)
      clear c0 c1 c2 c3 c4 c5 r1 r2 r3 r4
      go_upto_region 26 with (first | (go_at_call 32; (refine HS4.out.main.mono ?_); rintro e w5 ⟨rfl, x5⟩; have HS5 := Lib.hid (HS4.out.below x5); have HX5 := Lib.hid (HX4.out.trans (x5.mono HX4.out.size)); clear x5) | (go_at_call 37; (refine (HS5.out.le HOP.out f7 f6).mono ?_); rw [F9.out]; rintro e w6 ⟨rfl, x6⟩; have HS6 := Lib.hid (HS5.out.below x6); have HX6 := Lib.hid (HX5.out.trans (x6.mono HX5.out.size)); clear x6))
      go_upto_region 27 with (first | (go_at_call 32; (refine HS6.out.main.mono ?_); rintro e w7 ⟨rfl, x7⟩; have HS7 := Lib.hid (HS6.out.below x7); have HX7 := Lib.hid (HX6.out.trans (x7.mono HX6.out.size)); clear x7) | (go_at_call 37; (refine (HS7.out.le HOP.out f6 f7).mono ?_); rw [FA.out]; rintro e w8 ⟨rfl, x8⟩; have HS8 := Lib.hid (HS7.out.below x8); have HX8 := Lib.hid (HX7.out.trans (x8.mono HX7.out.size)); clear x8))
      go_upto_region 28 with (first | (go_at_call 32; (refine HS8.out.main.mono ?_); rintro e w9 ⟨rfl, x9⟩; have HS9 := Lib.hid (HS8.out.below x9); have HX9 := Lib.hid (HX8.out.trans (x9.mono HX8.out.size)); clear x9) | (go_at_call 37; (refine (HS9.out.le HOP.out f5 f7).mono ?_); rw [FB.out]; rintro e w10 ⟨rfl, x10⟩; have HS10 := Lib.hid (HS9.out.below x10); have HX10 := Lib.hid (HX9.out.trans (x10.mono HX9.out.size)); clear x10))
      go_wp2_with (first | (go_at_call 32; (refine HS10.out.main.mono ?_); rintro e w11 ⟨rfl, x11⟩; have HS11 := Lib.hid (HS10.out.below x11); have HX11 := Lib.hid (HX10.out.trans (x11.mono HX10.out.size)); clear x11) | (go_at_call 37; (refine (HS11.out.le HOP.out f7 f5).mono ?_); rw [FC.out]; rintro e w12 ⟨rfl, x12⟩; have HS12 := Lib.hid (HS11.out.below x12); have HX12 := Lib.hid (HX11.out.trans (x12.mono HX11.out.size)); clear x12))
      go_ret
      exact ⟨rfl, HX12.out⟩
theorem SubNames_any (x y z : Int) (w : World) (h1 : -9223372036854775808 ≤ x) (h2 : x ≤ 9223372036854775807) (h3 : -9223372036854775808 ≤ y) (h4 : y ≤ 9223372036854775807) (h5 : -9223372036854775808 ≤ z) (h6 : z ≤ 9223372036854775807) :
    Calls Try.prog 8 #[.int .i64 x, .int .i64 y, .int .i64 z] w fun e w' => e = .returned (.bool true) ∧ Below w.heap.size w w' := by
  rcases (by omega : z % 3 = 0 ∨ z % 3 = 1 ∨ z % 3 = 2) with h | h | h
  · exact SubNames_0 x y z w h1 h2 h3 h4 h5 h6 h
  · exact SubNames_1 x y z w h1 h2 h3 h4 h5 h6 h
  · exact SubNames_2 x y z w h1 h2 h3 h4 h5 h6 h
end Sp
end Go.Proofs.Ytmhihnpimanhfaa
