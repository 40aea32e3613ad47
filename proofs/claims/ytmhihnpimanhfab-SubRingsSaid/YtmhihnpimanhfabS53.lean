/- SubRings' walk. -/
import Derived.Test.YtmhihnpimanhfabS52
import Derived.Test.YtmhihnpimanhfabS30
namespace Go.Proofs.Ytmhihnpimanhfab
open Go.RowKit
namespace Sp
open Sc
/-- The rings so far. -/
structure RgR (w0 : World) (sb n m : Nat) (sv : Value) (wr : World) (k : Nat) (v : Value) (us : List (List UInt8 × C4)) : Prop where
  slot : sv = .int .i64 k
  le : k ≤ n + m
  sat : wr.heap[sb]? = some (.cells #[.int .i64 0, .string ⟨#[]⟩, .slice none 0 0, .slice none 0 0, v, .slice none 0 0] 35 (0, 0))
  row : GRow wr (sb + 1) [sb] v (subRL n m k) us
  below : Below w0.heap.size w0 wr
theorem two_alloc (w : World) (o p : Obj) : Below w.heap.size w ((w.alloc o).alloc p) := ((Below.refl _ _).alloc (Nat.le_refl _) _).alloc (by simp) _
/-- A turn's record: it lies in its variable's block. -/
structure RgC (wr wx : World) (tb : Nat) (X : List Nat) (v : Value) (t : Tz) (c : C4) : Prop where
  at_ : wx.heap[tb]? = some (.cells #[.int .i64 c.k, .string c.n, .slice c.an c.ln c.cn, .slice c.ak c.lk c.ck] 26 (0, 0))
  val : TzV wx (Free wx X [v]) t c
  below : Below wr.heap.size wr wx
  lt : wr.heap.size < wx.heap.size
set_option maxRecDepth 100000 in
set_option maxHeartbeats 30000000 in
theorem SubRings_any (x y : Int) (w : World) (h1 : -9223372036854775808 ≤ x) (h2 : x ≤ 9223372036854775807) (h3 : -9223372036854775808 ≤ y) (h4 : y ≤ 9223372036854775807) :
    Calls Try.prog 4 #[.int .i64 x, .int .i64 y] w fun e w' => e = .returned (.bool true) ∧ Below w.heap.size w w' := by
  obtain ⟨r, hr, hr5⟩ : ∃ r : Nat, x % 5 = r ∧ r < 5 := ⟨(x % 5).toNat, by omega, by omega⟩
  obtain ⟨q, hq, hq5⟩ : ∃ q : Nat, y % 5 = q ∧ q < 5 := ⟨(y % 5).toNat, by omega, by omega⟩
  obtain ⟨n, hn⟩ : ∃ n, n = r + 1 := ⟨_, rfl⟩
  obtain ⟨m, hm⟩ : ∃ m, m = q + 1 := ⟨_, rfl⟩
  have hB : ringB n m = true := by
    have := List.all_eq_true.1 (List.all_eq_true.1 ringB_all r (List.mem_range.2 hr5)) q (List.mem_range.2 hq5)
    rw [← hn, ← hm] at this
    exact this
  have hsn : (1 : Int) + (r : Int) = (n : Int) := by omega
  have hsm : (1 : Int) + (q : Int) = (m : Int) := by omega
  have hn6 : n < 6 := by omega
  have hm6 : m < 6 := by omega
  have hn0 : 0 < n := by omega
  have hm0 : 0 < m := by omega
  have HR := Lib.hid hr; have HQ := Lib.hid hq; have HB := Lib.hid hB; clear hr hq hB hn hm
  obtain ⟨i0, hi, hz0, hz1, hz2⟩ := info_parts infoN
  have HI := Lib.hid hi; have HI0 := Lib.hid hz0; have HI1 := Lib.hid hz1; have HI2 := Lib.hid hz2; clear hi hz0 hz1 hz2
  go_enter Try.func4, Try.ntmps4
  go_wp2_with (go_at_call 6; (with_reducible refine (known6_any _).mono ?_); rintro e w1 ⟨rfl, x1⟩; have HX1 := Lib.hid x1; clear x1)
  have hx1 := HX1.out.size
  go_wp2_with (first | (go_at_call 7; (with_reducible refine (within6_is _ _ _ _ (by omega) (by omega) h1 h2 HR.out).mono ?_); rintro e w2 ⟨rfl, rfl⟩) | (go_at_call 7; (with_reducible refine (within6_is _ _ _ _ (by omega) (by omega) h3 h4 HQ.out).mono ?_); rintro e w2 ⟨rfl, rfl⟩))
  have HSN := Lib.hid hsn; have HSM := Lib.hid hsm; clear hsn hsm
  go_loopw [6] (fun v wr => ∃ k x us, RgR w w1.heap.size n m v wr k x us) (fun v _ => n + m - (intOf v).toNat)
  case atStart => exact ⟨0, .slice none 0 0, [], rfl, Nat.zero_le _, by rw [blk_if, if_pos rfl], GRow.start _ _ _, HX1.out.alloc hx1 _⟩
  case round =>
    obtain ⟨k, x, us, h⟩ := hrel
    obtain rfl := h.slot
    have hk := h.le
    obtain ⟨⟨s0, s1, s2, s3, s4, s5⟩, ⟨g0, g1, g2, g3, g4, g5⟩⟩ := six_blkF h.sat
    have hz := (Array.getElem?_eq_some_iff.1 h.sat).1
    by_cases hlt : k < n + m
    · have hul : us.length = k := by rw [h.row.len]; simp [subRL]
      obtain ⟨xa, xc, rfl⟩ := h.row.cut
      have hX : ∀ y ∈ [w1.heap.size], y < wr.heap.size := fun y hy => by rw [List.mem_singleton.1 hy]; exact hz
      have hvs : ∀ v ∈ [Value.slice xa (subRL n m k).length xc], ∀ g, v.ownBlock = some g → g < wr.heap.size := fun v hv g hg => by rw [List.mem_singleton.1 hv] at hg; exact (h.row.own.lt g hg).2
      have H := Lib.hid h; have HUL := Lib.hid hul; have HX := Lib.hid hX; have HVS := Lib.hid hvs
      clear h hul hX hvs
      have hkz : (k : Int) < (n : Int) + (m : Int) := by omega
      go_upto_if 37 with fail
      go_cut [7] (fun tv wx => tv = .int .i64 ((if k + 1 = n then 0 else k + 1 : Nat) : Int) ∧ wr = wx)
      case first =>
        by_cases hkn : k + 1 = n
        · have tb : ((k : Int) + 1 == (n : Int)) = true := by simp; omega
          go_wp2
          go_meet
          case rel => exact ⟨by rw [if_pos hkn]; rfl, rfl⟩
        · have tb : ((k : Int) + 1 == (n : Int)) = false := by simp; omega
          go_wp2
          go_meet
          case rel => exact ⟨by rw [if_neg hkn]; simp, rfl⟩
      case rest =>
        obtain ⟨rfl, rfl⟩ := hcut
        obtain ⟨t1, ht1⟩ : ∃ t1, (if k + 1 = n then 0 else k + 1) = t1 := ⟨_, rfl⟩
        have hto : toR n m k = if t1 = n + m then n else t1 := by
          unfold toR
          rw [← ht1]
          by_cases h5 : k + 1 = n
          · rw [if_pos h5, if_pos h5, if_neg (by omega)]
          · rw [if_neg h5, if_neg h5]
        rw [ht1]
        clear ht1
        go_upto_if 42 with fail
        go_cut [7] (fun tv wx => tv = .int .i64 (toR n m k : Nat) ∧ wr = wx)
        case first =>
          by_cases hkn : t1 = n + m
          · have tb : ((t1 : Int) == (n : Int) + (m : Int)) = true := by simp; omega
            go_wp2
            go_meet
            case rel => exact ⟨by rw [hto, if_pos hkn], rfl⟩
          · have tb : ((t1 : Int) == (n : Int) + (m : Int)) = false := by simp; omega
            go_wp2
            go_meet
            case rel => exact ⟨by rw [hto, if_neg hkn], rfl⟩
        case rest =>
          obtain ⟨rfl, rfl⟩ := hcut
          have hto10 : toR n m k ≤ 12 := by unfold toR; split; omega; split <;> omega
          clear hto
          obtain ⟨d, hto⟩ : ∃ d, toR n m k = d := ⟨_, rfl⟩
          rw [hto] at hto10
          rw [hto]
          have HTO := Lib.hid hto
          have hto0 : (d : Int) ≤ 12 := by omega
          clear hto
          have hcv1 := conv_atZ (97 + (d : Int)) (lower d) (lower_is d (by omega))
          have hcv2 := conv_atZ (97 + (k : Int)) (lower k) (lower_is k (by omega))
          have hct1 := catN (lower d)
          have hct2 := catN (lower k)
          have hk0 : (k : Int) ≤ 12 := by omega
          go_upto_region 15 with fail
          obtain ⟨W6, hW6⟩ : ∃ W6, W6 = ((((((wr.alloc (.cells #[.int .u8 (97 + (d : Int))] 5)).alloc (.cells #[.int .i64 9, .string ⟨#[78, lower d]⟩, .slice none 0 0, .slice none 0 0] 26)).alloc (.cells #[.int .i64 4, .string ⟨#[]⟩, .slice none 0 0, .slice (some ⟨wr.heap.size + 1, 0, none⟩) 1 1] 26)).alloc (.cells #[.string ⟨#[120]⟩] 9)).alloc (.cells #[.int .i64 4, .string ⟨#[]⟩, .slice none 0 0, .slice (some ⟨wr.heap.size + 1, 0, none⟩) 1 1] 26)).alloc (.cells #[.int .i64 7, .string ⟨#[]⟩, .slice (some ⟨wr.heap.size + 1 + 1 + 1, 0, none⟩) 1 1, .slice (some ⟨wr.heap.size + 1 + 1 + 1 + 1, 0, none⟩) 1 1] 26)) := ⟨_, rfl⟩
          have q6 := made (l := [_, _, _, _, _, _]) hW6
          have hz6 : W6.heap.size = wr.heap.size + 6 := by rw [hW6]; simp
          have hb6 : Below wr.heap.size wr W6 := by rw [hW6]; repeat first | exact Below.refl _ _ | refine Below.alloc ?_ (by simp <;> omega) _
          have hF6 : ∀ g, wr.heap.size ≤ g → g < W6.heap.size → Free W6 [w1.heap.size] [Value.slice xa (subRL n m k).length xc] g := fun g e1 e2 => Free.new e1 e2 HX.out HVS.out
          have hN6 : TzV W6 (Free W6 [w1.heap.size] [Value.slice xa (subRL n m k).length xc]) (nextR n m k) ⟨4, ⟨#[]⟩, none, 0, 0, some ⟨wr.heap.size + 1, 0, none⟩, 1, 1⟩ := by
            unfold nextR
            rw [HTO.out]
            exact TzV.kidF (c := ⟨9, ⟨#[78, lower d]⟩, none, 0, 0, none, 0, 0⟩) 4 (q6 1 _ rfl) (hF6 _ (by omega) (by omega)) (TzV.leaf _ _ 9 [78, lower d])
          have hN7 : TzV W6 (Free W6 [wr.heap.size + 1 + 1 + 1 + 1 + 1, w1.heap.size] [Value.slice xa (subRL n m k).length xc]) (nextR n m k) ⟨4, ⟨#[]⟩, none, 0, 0, some ⟨wr.heap.size + 1, 0, none⟩, 1, 1⟩ := by
            unfold nextR
            rw [HTO.out]
            exact TzV.kidF (c := ⟨9, ⟨#[78, lower d]⟩, none, 0, 0, none, 0, 0⟩) 4 (q6 1 _ rfl) ⟨by omega, by simp; omega, (hF6 _ (by omega) (by omega)).2.2⟩ (TzV.leaf _ _ 9 [78, lower d])
          have HN7 := Lib.hid hN7
          clear hN7
          have hV6 : TzV W6 (Free W6 [w1.heap.size] [Value.slice xa (subRL n m k).length xc]) (.mk 7 [] [[120]] [nextR n m k]) ⟨7, ⟨#[]⟩, some ⟨wr.heap.size + 1 + 1 + 1, 0, none⟩, 1, 1, some ⟨wr.heap.size + 1 + 1 + 1 + 1, 0, none⟩, 1, 1⟩ :=
            TzV.fldF (c := ⟨4, ⟨#[]⟩, none, 0, 0, some ⟨wr.heap.size + 1, 0, none⟩, 1, 1⟩) 7 [120] (q6 3 _ rfl) (q6 4 _ rfl) (hF6 _ (by omega) (by omega)) (hF6 _ (by omega) (by omega)) hN6
          have HN6 := Lib.hid hN6; have HV6 := Lib.hid hV6; have HQ2 := Lib.hid (q6 2 _ rfl); have HQ5 := Lib.hid (q6 5 _ rfl); have HB6 := Lib.hid hb6; have HW6 := Lib.hid hW6
          clear hN6 hV6 q6 hb6 hW6 hF6 hcv1 hct1 s0 s1 s2 s3 s4 s5 g0 g1 g2 g3 g4 g5
          rw [← HW6.out]
          clear HW6
          go_upto_if 59 with fail
          go_cut [] (fun wx => ∃ c : C4, RgC wr wx (wr.heap.size + 1 + 1 + 1 + 1 + 1) [w1.heap.size] (.slice xa (subRL n m k).length xc) (subR n m k) c)
          case first =>
            by_cases hkn : k < n
            · have hknz : (k : Int) < (n : Int) := by omega
              obtain ⟨⟨n0, n1, n2, n3⟩, -⟩ := four_blk HQ2.out
              obtain ⟨⟨t0, t1, t2, t3⟩, ⟨f0, f1, f2, f3⟩⟩ := four_blk HQ5.out
              go_wp2
              go_meet
              case rel =>
                have hh := nest_two (wr := W6) (X := [wr.heap.size + 1 + 1 + 1 + 1 + 1, w1.heap.size]) (vs := [Value.slice xa (subRL n m k).length xc]) (ty2 := 26) (ty3 := 9) (c := ⟨2, ⟨#[]⟩, none, 0, 0, none, 0, 0⟩) 7 [109, 111, 114, 101] [120] HQ5.out (TzV.leaf _ _ 2 []) HN7.out (fun y hy => by simp at hy; omega) (by simp) (fun v hv g hg => by have := HVS.out v hv g hg; omega)
                have hz9 := hh.only.size
                rw [hz6] at hh hz9
                exact ⟨_, hh.at_, by unfold subR; rw [if_pos hkn]; exact hh.val.keep (Step.less (by simp) (fun _ h => h)) (fun _ _ => rfl), HB6.out.trans (hh.only.below (by omega) (by omega)), by simp at hz9 ⊢; omega⟩
            · have hknz : ¬ (k : Int) < (n : Int) := by omega
              go_wp2
              go_meet
              case rel => exact ⟨_, HQ5.out, by unfold subR; rw [if_neg hkn]; exact HV6.out, HB6.out, by omega⟩
          case rest =>
            obtain ⟨c, hc⟩ := hcut
            have hzx := hc.lt
            have htb := (Array.getElem?_eq_some_iff.1 hc.at_).1
            have hy0 : w1.heap.size < wc.heap.size := by omega
            have hy1 : w1.heap.size < wc.heap.size + 1 := by omega
            have hy2 : w1.heap.size < wc.heap.size + 1 + 1 := by omega
            have hS := (hc.below.block w1.heap.size hz).trans H.out.sat
            obtain ⟨⟨s0, s1, s2, s3, s4, s5⟩, ⟨g0, g1, g2, g3, g4, g5⟩⟩ := six_blkF hS
            obtain ⟨⟨t0, t1, t2, t3⟩, -⟩ := four_blk hc.at_
            have hRow := H.out.row.below hc.below
            have hbw := H.out.below.trans (hc.below.mono H.out.below.size)
            have hbs := H.out.below.size
            have HC := Lib.hid hc; have HS := Lib.hid hS; have HROW := Lib.hid hRow; have HBW := Lib.hid hbw
            clear hc hS hRow hbw HQ2 HQ5 HN6 HN7 HV6 HB6
            go_wp2_with (at_builtin; (refine Sh.wpList_append_fresh rfl _ _ 32 rfl (w1.heap.size + 1) 44 i0 (.agg #[.string ⟨#[]⟩, .int .i64 0, .string ⟨#[]⟩, .slice none 0 0, .slice none 0 0]) 5 88 Try.underlying32 HI.out HI0.out HI1.out HI2.out rfl (by decide) _ us.length (us.flatMap encZ) rfl ((HROW.out.alloc _).alloc _).own ⟨wc.heap.size + 1, 0, none⟩ 1 1 [.string ⟨#[78, lower k]⟩, .int .i64 c.k, .string c.n, .slice c.an c.ln c.cn, .slice c.ak c.lk c.ck] rfl rfl (cells_atZ _ _ _ _ (by simp)) (one5 (n := [78, lower k])) (by have := HUL.out; unfold maxLen; omega) (by have := HUL.out; omega) (by simp; omega) ?_); intro v' w3 hown' hgrow hfr; obtain ⟨hg3, hst⟩ := GRow.snoc (n := [78, lower k]) (HROW.out.alloc _) (HC.out.val.step (Step.alloc _ _)) hown' hgrow hfr; rw [← subRL_succ] at hg3; have hS3 := (hgrow.block w1.heap.size (by simp; omega) (fun e => HROW.out.ne (by omega) e.symm)).trans ((two_alloc wc _ _).block _ hy0 |>.trans HS.out); have hb3 : Below w.heap.size w w3 := Below.trans (HBW.out.trans ((two_alloc wc _ _).mono (by omega))) (below_grown hgrow (fun g e => by have := (HROW.out.own.lt g e).1; omega) (by simp <;> omega)); obtain ⟨va, vc, rfl⟩ := own_sliceZ hown'; have hz3 := hgrow.size; simp at hz3; obtain ⟨⟨c0, c1, c2, c3, c4, c5⟩, ⟨d0, d1, d2, d3, d4, d5⟩⟩ := six_blkF hS3; have HG3 := Lib.hid hg3; have HS3 := Lib.hid hS3; have HB3 := Lib.hid hb3; clear hown' hgrow hfr hg3 hst hS3 hb3)
            have hO : Only w1.heap.size w3 (w3.setCell ⟨w1.heap.size, 4, none⟩ (.slice va (us.length + 1) vc)) := (Only.refl _ _).setCell _ _
            have e3 := HB3.out.size
            have e1 := set_six4 HS3.out (.slice va (us.length + 1) vc)
            have e4 := HB3.out.trans (hO.below (by omega) (by omega))
            have e5 := HG3.out.only (b := w1.heap.size) (by simp) (by simp) hO
            have E1 := Lib.hid e1; have E4 := Lib.hid e4; have E5 := Lib.hid e5
            clear e1 e3 e4 e5 hcv2 hct2
            go_roundw
            case rel => exact ⟨k + 1, _, _, by go_num, by omega, E1.out, E5.out, E4.out⟩
            case measure => simp [intOf]; omega
    · obtain rfl : n + m = k := by omega
      obtain ⟨xa, xc, rfl⟩ := h.row.cut
      have hB := HB.out
      unfold ringB at hB
      simp only [Bool.and_eq_true, decide_eq_true_eq, Bool.not_eq_true'] at hB
      obtain ⟨f1, f2, f3, f4, f5, f6⟩ := hB
      have hF := fineB_is f1
      generalize (newK ⟨zN [78, 97], subRL n m (n + m), []⟩).2 = tab at *
      generalize addK (hasZ tab.N) tab.T (zN [78, lower n]) = ad at *
      obtain ⟨id, er, T⟩ := ad
      dsimp only at f2 f3 f4 f5 f6 hF
      have hO := put4_only wr w1.heap.size ⟨9, ⟨#[78, 97]⟩, none, 0, 0, none, 0, 0⟩
      have hs1 := put4_six h.sat ⟨9, ⟨#[78, 97]⟩, none, 0, 0, none, 0, 0⟩
      have hR1 := h.row.only (b := w1.heap.size) (by simp) (by simp) hO
      have hb1 := h.below.trans (hO.below hx1 h.below.size)
      have CN := new_at ⟨zN [78, 97], subRL n m (n + m), []⟩ xc 0 (SzV.build (TzV.leaf _ _ 9 [78, 97]) hR1.nms (SgsV.nil none)) rfl hF.fit hF.short ⟨by simp [subRL]; omega, by simp⟩ hF.new
      obtain ⟨W3, hW3⟩ : ∃ W3, W3 = put4 wr w1.heap.size ⟨9, ⟨#[78, 97]⟩, none, 0, 0, none, 0, 0⟩ := ⟨_, rfl⟩
      rw [← hW3] at CN hb1 hs1
      have HS1 := Lib.hid hs1
      unfold put4 at hW3
      have HCN := Lib.hid CN; have HB1 := Lib.hid hb1; have HFF := Lib.hid hF; have HW3 := Lib.hid hW3
      have hcv2 := conv_atZ (97 + (n : Int)) (lower n) (lower_is n (by omega))
      have hct2 := catN (lower n)
      have hn12 : (n : Int) ≤ 12 := by omega
      obtain ⟨L, hL⟩ : ∃ L, T.length = L := ⟨_, rfl⟩
      obtain ⟨⟨l1, l2⟩, hl⟩ : ∃ l, leL T (openK T tab.N 13) tab.m id = l := ⟨_, rfl⟩
      obtain ⟨⟨k1, k2⟩, hk'⟩ : ∃ l, leL T (openK T tab.N 13) id tab.m = l := ⟨_, rfl⟩
      rw [hl] at f2 f4
      rw [hk'] at f3 f5
      rw [hL] at f4 f6
      dsimp only at f2 f3 f4 f5
      subst f2 f3
      have hm1 : (L : Int) * (L : Int) = ((L * L : Nat) : Int) := by simp
      have hm2 : L * L ≤ 14400 := Nat.mul_le_mul f6 f6
      have hm3 : 1 ≤ L := by have := hF.id; omega
      have hm4 : 1 ≤ L * L := Nat.mul_le_mul hm3 hm3
      have hb5 : -9223372036854775808 ≤ (L : Int) * (L : Int) := by omega
      have hb6 : (L : Int) * (L : Int) ≤ 9223372036854775807 := by omega
      have hb7 : (l2.length : Int) ≤ (L : Int) * (L : Int) := by omega
      have hb8 : (1 : Int) ≤ (L : Int) * (L : Int) := by omega
      have HL := Lib.hid hl; have HK := Lib.hid hk'; have HLL := Lib.hid hL; have HF5 := Lib.hid f5
      clear CN hb1 hF hW3 f1 f4 f5 hR1 hs1 hO hl hk' hL h hm1 hm2 hm3 hm4
      go_upto_region 19 with fail
      rw [← HW3.out]
      clear s0 s1 s2 s3 s4 s5 g0 g1 g2 g3 g4 g5 HW3
      obtain ⟨⟨c0, c1, c2, c3, c4, c5⟩, -⟩ := six_blkF HS1.out
      go_upto_region 22 with (go_at_call 8; (refine HCN.out.mono ?_); rintro e w2 ⟨tb, rb, nb, mb, sb, ty, nu, vs, rfl, s2, x2⟩; have hz2 := x2.size; have HS2 := Lib.hid s2; have HX2 := Lib.hid x2; clear s2 x2)
      have HX20 := Lib.hid (HB1.out.trans (HX2.out.mono HB1.out.size))
      go_upto_region 23 with (go_at_call 9; (refine ((HS2.out.below ((Below.refl _ _).alloc (Nat.le_refl _) _)).adds (by simp; omega) HFF.out.tfit HFF.out.tshort (TzV.leaf _ (fun _ => False) 9 [78, lower n]) (fun g hg => hg.elim) HFF.out.add).mono ?_); rintro e w3 ⟨rb3, nb3, ty3, nu3, rfl, s3, x3, -⟩; have HS3 := Lib.hid s3; have HX3 := Lib.hid ((HX20.out.trans ((Below.refl _ _).alloc HX20.out.size _)).trans (x3.mono HB1.out.size)); clear s3 x3)
      clear hcv2 hct2
      go_upto_region 24 with (first
        | (go_at_call 12; (refine HS3.out.main.mono ?_); rintro e w4 ⟨rfl, x4⟩; have HS4 := Lib.hid (HS3.out.below x4); have HX4 := Lib.hid (HX3.out.trans (x4.mono HX3.out.size)); clear x4)
        | (go_at_call 11; (refine (HS4.out.le HFF.out.op HFF.out.main HFF.out.id).mono ?_); rw [HL.out]; rintro e w5 ⟨rfl, x5⟩; have HS5 := Lib.hid (HS4.out.below x5); have HX5 := Lib.hid (HX4.out.trans (x5.mono HX4.out.size)); clear x5))
      go_upto_region 25 with (first
        | (go_at_call 12; (refine HS5.out.main.mono ?_); rintro e w6 ⟨rfl, x6⟩; have HS6 := Lib.hid (HS5.out.below x6); have HX6 := Lib.hid (HX5.out.trans (x6.mono HX5.out.size)); clear x6)
        | (go_at_call 11; (refine (HS6.out.le HFF.out.op HFF.out.id HFF.out.main).mono ?_); rw [HK.out]; dsimp only; rw [HF5.out]; rintro e w7 ⟨rfl, x7⟩; have HS7 := Lib.hid (HS6.out.below x7); have HX7 := Lib.hid (HX6.out.trans (x7.mono HX6.out.size)); clear x7))
      go_wp2_with (first
        | (go_at_call 13; (refine HS10.out.len.mono ?_); rw [HLL.out]; rintro e w11 ⟨rfl, x11⟩; have HS11 := Lib.hid (HS10.out.below x11); have HX11 := Lib.hid (HX10.out.trans (x11.mono HX10.out.size)); clear x11)
        | (go_at_call 13; (refine HS9.out.len.mono ?_); rw [HLL.out]; rintro e w10 ⟨rfl, x10⟩; have HS10 := Lib.hid (HS9.out.below x10); have HX10 := Lib.hid (HX9.out.trans (x10.mono HX9.out.size)); clear x10)
        | (go_at_call 13; (refine HS8.out.len.mono ?_); rw [HLL.out]; rintro e w9 ⟨rfl, x9⟩; have HS9 := Lib.hid (HS8.out.below x9); have HX9 := Lib.hid (HX8.out.trans (x9.mono HX8.out.size)); clear x9)
        | (go_at_call 13; (refine HS7.out.len.mono ?_); rw [HLL.out]; rintro e w8 ⟨rfl, x8⟩; have HS8 := Lib.hid (HS7.out.below x8); have HX8 := Lib.hid (HX7.out.trans (x8.mono HX7.out.size)); clear x8))
      go_ret
      exact ⟨rfl, HX11.out⟩
end Sp
end Go.Proofs.Ytmhihnpimanhfab
