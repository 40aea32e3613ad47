/- ConsBig's walk. -/
import Derived.Test.YtjjpjkkaogfoaaaQKBigP
namespace Go.Proofs.Ytjjpjkkaogfoaaa
open Go.RowKit
namespace Sp
open Sc
set_option maxRecDepth 100000

/-- A turn: the variable of the type, the table, what is left. -/
structure BigR (w0 : World) (xb tb n : Nat) (iv : Value) (wr : World) (k : Nat) (T : List Kz) (mb sb rb nb : Nat) (ty nu : Value) (vs : List Value) : Prop where
  slot : iv = .int .i64 k
  lo : 1 ≤ k
  hi : k ≤ 200
  run : bigRun n (200 - k) k T = true
  st : StV w0.heap.size wr tb rb nb mb sb 0 ty nu T [] [] vs
  below : Below w0.heap.size w0 wr
  base : w0.heap.size ≤ xb
  box : ∃ x : C4, wr.heap[xb]? = some (.cells #[.int .i64 x.k, .string x.n, .slice x.an x.ln x.cn, .slice x.ak x.lk x.ck] 25 (0, 0))
/-- A turn, its type built. -/
structure BigC (w0 wr : World) (xb tb n k : Nat) (wx : World) (x : C4) (T : List Kz) (mb sb rb nb : Nat) (ty nu : Value) (vs : List Value) : Prop where
  size : wr.heap.size ≤ wx.heap.size
  box : wx.heap[xb]? = some (.cells #[.int .i64 x.k, .string x.n, .slice x.an x.ln x.cn, .slice x.ak x.lk x.ck] 25 (0, 0))
  tz : TzV wx (New wr.heap.size wx) (bigX n k) x
  st : StV w0.heap.size wx tb rb nb mb sb 0 ty nu T [] [] vs
  keeps : Keeps (fun g => g = xb) wr wx
set_option maxHeartbeats 8000000 in
theorem ConsBig_any (n : Int) (w : World) (h3 : -9223372036854775808 ≤ n) (h4 : n ≤ 9223372036854775807) :
    Calls Try.prog 7 #[.int .i64 n] w fun e w' => e = .returned (.bool true) ∧ Below w.heap.size w w' := by
  obtain ⟨m, hm, hm3⟩ : ∃ m : Nat, n % 3 = m ∧ m < 3 := ⟨(n % 3).toNat, by omega, by omega⟩
  have HM := Lib.hid hm; clear hm
  obtain ⟨is, his, js, ks, ls⟩ := info_parts infoS
  obtain ⟨ik, hik, jk, kk, lk⟩ := info_parts infoTz
  have HIs := Lib.hid his; have HJs := Lib.hid js; have HKs := Lib.hid ks; have HLs := Lib.hid ls
  have HIk := Lib.hid hik; have HJk := Lib.hid jk; have HKk := Lib.hid kk; have HLk := Lib.hid lk
  clear his js ks ls hik jk kk lk
  go_enter Try.func7, Try.ntmps7
  go_wp2_with (go_at_call 23; (with_reducible refine (known5_any _).mono ?_); rintro e w1 ⟨rfl, x1⟩; have HX1 := Lib.hid x1; clear x1)
  have hx1 := HX1.out.size
  go_wp2_with first
    | (go_at_call 25; (refine (newI_any _).mono ?_); rintro e w2 ⟨tb, rb, nb, mb, sb, ty, nu, vs, rfl, s1, b1⟩; have hx2 := b1.size; have HS1 := Lib.hid s1; have HB1 := Lib.hid b1; clear s1 b1)
    | (go_at_call 33; (with_reducible refine (within5_any _ _ _ (by omega) (by omega) h3 h4).mono ?_); rintro e w3 ⟨rfl, rfl⟩; rw [HM.out])
  obtain ⟨W0, hW0⟩ : ∃ W0, W0 = w2.alloc (.cells #[.int .i64 2, .string ⟨#[]⟩, .slice none 0 0, .slice none 0 0] 25) := ⟨_, rfl⟩
  have hz0 : W0.heap.size = w2.heap.size + 1 := by rw [hW0]; simp
  have hb0 : Below w2.heap.size w2 W0 := by rw [hW0]; exact (Below.refl _ _).alloc (Nat.le_refl _) _
  have hbox := heap_alloc_new w2 (.cells #[.int .i64 2, .string ⟨#[]⟩, .slice none 0 0, .slice none 0 0] 25)
  have hst0 := HS1.out.below hb0
  rw [← hW0] at hbox ⊢
  have HB0 := Lib.hid hb0; have HBX := Lib.hid hbox; have HST0 := Lib.hid hst0
  clear hW0 hb0 hbox hst0
  go_loopw [6] (fun iv wr => ∃ k T mb sb rb nb ty nu vs, BigR w1 w2.heap.size tb (1 + m) iv wr k T mb sb rb nb ty nu vs) (fun iv _ => 200 - (intOf iv).toNat)
  case atStart =>
    refine ⟨1, [⟨2, [], [], []⟩], mb, sb, rb, nb, ty, nu, vs, rfl, Nat.le_refl _, by omega, ?_, HST0.out, HB1.out.trans (HB0.out.mono (by omega)), by omega, ⟨⟨2, ⟨#[]⟩, none, 0, 0, none, 0, 0⟩, HBX.out⟩⟩
    obtain rfl | rfl | rfl : m = 0 ∨ m = 1 ∨ m = 2 := by omega
    · exact big1
    · exact big2
    · exact big3
  case round =>
    obtain ⟨k, T, mb, sb, rb, nb, ty, nu, vs, h⟩ := hrel
    obtain rfl := h.slot
    have hk1 := h.lo
    have hk2 := h.hi
    obtain ⟨x, hx⟩ := h.box
    have hxl := (Array.getElem?_eq_some_iff.1 hx).1
    obtain ⟨⟨t0, t1, t2, t3⟩, ⟨f0, f1, f2, f3⟩⟩ := four_blk hx
    have hbase := h.base
    have hws := h.below.size
    have H := Lib.hid h
    clear h
    by_cases hlt : k < 200
    · obtain ⟨W3, hW3⟩ : ∃ W3, W3 = (((((wr.setCell ⟨w2.heap.size, 0, none⟩ (.int .i64 7)).setCell ⟨w2.heap.size, 1, none⟩ (.string ⟨#[]⟩)).setCell ⟨w2.heap.size, 2, none⟩ (.slice (some ⟨wr.heap.size, 0, none⟩) 1 1)).setCell ⟨w2.heap.size, 3, none⟩ (.slice (some ⟨wr.heap.size + 1, 0, none⟩) 1 1)).alloc (.cells #[.string ⟨#[102]⟩] 9)).alloc (.cells #[.int .i64 2, .string ⟨#[]⟩, .slice none 0 0, .slice none 0 0] 25) := ⟨_, rfl⟩
      obtain ⟨wy, hwy⟩ : ∃ wy, wy = (((wr.setCell ⟨w2.heap.size, 0, none⟩ (.int .i64 7)).setCell ⟨w2.heap.size, 1, none⟩ (.string ⟨#[]⟩)).setCell ⟨w2.heap.size, 2, none⟩ (.slice (some ⟨wr.heap.size, 0, none⟩) 1 1)).setCell ⟨w2.heap.size, 3, none⟩ (.slice (some ⟨wr.heap.size + 1, 0, none⟩) 1 1) := ⟨_, rfl⟩
      have hzy : wy.heap.size = wr.heap.size := by rw [hwy]; simp
      have hby : wy.heap[w2.heap.size]? = some (.cells #[.int .i64 7, .string ⟨#[]⟩, .slice (some ⟨wr.heap.size, 0, none⟩) 1 1, .slice (some ⟨wr.heap.size + 1, 0, none⟩) 1 1] 25 (0, 0)) := by rw [hwy]; exact set_four hx
      have hky : Keeps (fun g => g = w2.heap.size) wr wy := by rw [hwy]; exact ((((Keeps.refl (fun g => g = w2.heap.size) _).setCell 0 _ rfl).setCell 1 _ rfl).setCell 2 _ rfl).setCell 3 _ rfl
      have hW3y := hW3
      rw [← hwy] at hW3y
      have hz3 : W3.heap.size = wr.heap.size + 2 := by rw [hW3y]; simp; omega
      have hk3 : Keeps (fun g => g = w2.heap.size) wr W3 := by rw [hW3y]; exact (hky.alloc _).alloc _
      have hb3 : W3.heap[w2.heap.size]? = some (.cells #[.int .i64 7, .string ⟨#[]⟩, .slice (some ⟨wr.heap.size, 0, none⟩) 1 1, .slice (some ⟨wr.heap.size + 1, 0, none⟩) 1 1] 25 (0, 0)) := by
        rw [hW3y, blk_if, if_neg (by simp; omega), blk_if, if_neg (by omega)]; exact hby
      have hn3 : W3.heap[wr.heap.size]? = some (.cells #[.string ⟨#[102]⟩] 9 (0, 0)) := by
        rw [hW3y, blk_if, if_neg (by simp; omega), blk_if, if_pos hzy.symm]
      have hi3 : W3.heap[wr.heap.size + 1]? = some (.cells #[.int .i64 2, .string ⟨#[]⟩, .slice none 0 0, .slice none 0 0] 25 (0, 0)) := by
        rw [hW3y, blk_if, if_pos (by simp; omega)]
      have hst3 := H.out.st.beside hx (by decide) (by decide) (by decide) hk3
      clear hW3y hby hky hwy hzy
      have hba := heap_alloc_new W3 (.cells #[.int .u8 (97 + (k : Int) % 26), .int .u8 (97 + (k : Int) / 26)] 5)
      rw [hz3] at hba
      have hcv := conv_two (byte_L k) (byte_H k hlt) hba
      clear hba
      have hct := catF2 (bigL k) (bigH k)
      have HW3 := Lib.hid hW3; have HK3 := Lib.hid hk3; have HB3 := Lib.hid hb3; have HN3 := Lib.hid hn3; have HI3 := Lib.hid hi3; have HST3 := Lib.hid hst3; have HCV := Lib.hid hcv
      clear hW3 hk3 hb3 hn3 hi3 hst3 hx hcv
      go_upto_region 10 with fail
      rw [← HW3.out]
      clear HW3 t0 t1 t2 t3 f0 f1 f2 f3
      obtain ⟨⟨t0, t1, t2, t3⟩, ⟨f0, f1, f2, f3⟩⟩ := four_blk HB3.out
      have hcv := HCV.out
      have n0 : W3.cell? ⟨wr.heap.size, 0, none⟩ = some (.string ⟨#[102]⟩) := by have h := HN3.out; simp [World.cell?, h]
      have nf : W3.frozen? ⟨wr.heap.size, 0, none⟩ = false := by have h := HN3.out; simp [World.frozen?, h]
      obtain ⟨W4, hW4⟩ : ∃ W4, W4 = (W3.setCell ⟨wr.heap.size, 0, none⟩ (.string ⟨#[102, bigL k, bigH k]⟩)).alloc (.cells #[.int .u8 (97 + (k : Int) % 26), .int .u8 (97 + (k : Int) / 26)] 5) := ⟨_, rfl⟩
      have hz4 : W4.heap.size = wr.heap.size + 3 := by rw [hW4]; simp; omega
      have hk34 : Keeps (fun g => g = wr.heap.size) W3 W4 := by rw [hW4]; exact ((Keeps.refl (fun g => g = wr.heap.size) _).setCell 0 _ rfl).alloc _
      have hx4 := (hk34.block w2.heap.size (by omega) (by omega)).trans HB3.out
      have hi4 := (hk34.block (wr.heap.size + 1) (by omega) (by omega)).trans HI3.out
      have hn4 : W4.heap[wr.heap.size]? = some (.cells #[.string ⟨(bigN k).toArray⟩] 9 (0, 0)) := by
        rw [hW4, blk_if, if_neg (by simp; omega)]
        unfold World.setCell; simp [Array.getElem?_modify, HN3.out, bigN]
      have hst4 := HST3.out.beside HN3.out (by decide) (by decide) (by decide) hk34
      have hk4 : Keeps (fun g => g = w2.heap.size) wr W4 := HK3.out.trans hk34 (fun g e => .inr (by omega))
      have hv4 : TzV W4 (New wr.heap.size W4) (.mk 7 [] [bigN k] [zI]) ⟨7, ⟨#[]⟩, some ⟨wr.heap.size, 0, none⟩, 1, 1, some ⟨wr.heap.size + 1, 0, none⟩, 1, 1⟩ :=
        TzV.fldN (c := ⟨2, ⟨#[]⟩, none, 0, 0, none, 0, 0⟩) 7 (bigN k) hn4 hi4 ⟨Nat.le_refl _, by omega⟩ ⟨by omega, by omega⟩ (TzV.leaf _ _ 2 [])
      have HW4 := Lib.hid hW4; have HX4 := Lib.hid hx4; have HST4 := Lib.hid hst4; have HK4 := Lib.hid hk4; have HV4 := Lib.hid hv4
      clear hW4 hk34 hx4 hi4 hn4 hst4 hk4 hv4
      go_upto_region 11 with fail
      rw [← HW4.out]
      clear HW4 t0 t1 t2 t3 f0 f1 f2 f3 n0 nf hct hcv HCV HN3 HI3 HB3 HST3 HK3
      obtain ⟨⟨t0, t1, t2, t3⟩, ⟨f0, f1, f2, f3⟩⟩ := four_blk HX4.out
      go_upto_if 48 with fail
      go_cut [] (fun wx => ∃ x : C4, BigC w1 wr w2.heap.size tb (1 + m) k wx x T mb sb rb nb ty nu vs)
      case first =>
        by_cases h0 : m = 0
        · subst h0
          go_wp2
          go_meet
          case rel => exact ⟨_, by omega, HX4.out, HV4.out, HST4.out, HK4.out⟩
        · have hmm : ¬ (1 + (m : Int)) ≤ 1 := by omega
          have hx4l : w2.heap.size < W4.heap.size := by omega
          obtain ⟨⟨a0, a1, a2, a3⟩, ⟨b0, b1, b2, b3⟩⟩ := four_blk (blk_allocZ HX4.out (.cells #[.int .i64 7, .string ⟨#[]⟩, .slice (some ⟨wr.heap.size, 0, none⟩) 1 1, .slice (some ⟨wr.heap.size + 1, 0, none⟩) 1 1] 25))
          go_wp2
          go_meet
          case rel =>
            have ha := blk_allocZ HX4.out (.cells #[.int .i64 7, .string ⟨#[]⟩, .slice (some ⟨wr.heap.size, 0, none⟩) 1 1, .slice (some ⟨wr.heap.size + 1, 0, none⟩) 1 1] 25)
            obtain ⟨W5, hW5⟩ : ∃ W5, W5 = ((((W4.alloc (.cells #[.int .i64 7, .string ⟨#[]⟩, .slice (some ⟨wr.heap.size, 0, none⟩) 1 1, .slice (some ⟨wr.heap.size + 1, 0, none⟩) 1 1] 25)).setCell ⟨w2.heap.size, 0, none⟩ (.int .i64 4)).setCell ⟨w2.heap.size, 1, none⟩ (.string ⟨#[]⟩)).setCell ⟨w2.heap.size, 2, none⟩ (.slice none 0 0)).setCell ⟨w2.heap.size, 3, none⟩ (.slice (some ⟨wr.heap.size + 3, 0, none⟩) 1 1) := ⟨_, rfl⟩
            rw [← hW5]
            have hz5 : W5.heap.size = wr.heap.size + 4 := by rw [hW5]; simp; omega
            have hk45 : Keeps (fun g => g = w2.heap.size) W4 W5 := by rw [hW5]; exact (((((Keeps.refl (fun g => g = w2.heap.size) _).alloc _).setCell 0 _ rfl).setCell 1 _ rfl).setCell 2 _ rfl).setCell 3 _ rfl
            have hx5 : W5.heap[w2.heap.size]? = some (.cells #[.int .i64 4, .string ⟨#[]⟩, .slice none 0 0, .slice (some ⟨wr.heap.size + 3, 0, none⟩) 1 1] 25 (0, 0)) := by rw [hW5]; exact set_four ha
            have hl5 : W5.heap[wr.heap.size + 3]? = some (.cells #[.int .i64 7, .string ⟨#[]⟩, .slice (some ⟨wr.heap.size, 0, none⟩) 1 1, .slice (some ⟨wr.heap.size + 1, 0, none⟩) 1 1] 25 (0, 0)) := by
              have hne : wr.heap.size + 3 ≠ w2.heap.size := by omega
              rw [hW5, RowKit.Below.heap_setCell _ _ _ _ hne, RowKit.Below.heap_setCell _ _ _ _ hne, RowKit.Below.heap_setCell _ _ _ _ hne, RowKit.Below.heap_setCell _ _ _ _ hne, blk_if, if_pos hz4.symm]
            have hv5 := HV4.out.keep (w' := W5) (S' := New wr.heap.size W5) (fun g hg => ⟨hg.1, by have := hg.2; omega⟩) (fun g hg => hk45.block g hg.2 (by have := hg.1; omega))
            refine ⟨⟨4, ⟨#[]⟩, none, 0, 0, some ⟨wr.heap.size + 3, 0, none⟩, 1, 1⟩, by omega, hx5, ?_, HST4.out.beside HX4.out (by decide) (by decide) (by decide) hk45, HK4.out.trans hk45 (fun g e => .inl e)⟩
            unfold bigX
            rw [if_pos (by omega)]
            exact TzV.kidN (c := ⟨7, ⟨#[]⟩, some ⟨wr.heap.size, 0, none⟩, 1, 1, some ⟨wr.heap.size + 1, 0, none⟩, 1, 1⟩) 4 hl5 ⟨by omega, by omega⟩ hv5
      case rest =>
        obtain ⟨x2, hc⟩ := hcut
        have hzc := hc.size
        clear t0 t1 t2 t3 f0 f1 f2 f3
        obtain ⟨⟨t0, t1, t2, t3⟩, ⟨f0, f1, f2, f3⟩⟩ := four_blk hc.box
        obtain ⟨hf1, hf2⟩ := bigX_fit (1 + m) k
        have CA := add_any (bigX (1 + m) k) hf1 hf2 _ tb rb nb mb sb 0 ty nu T [] _ x2 hc.st.tab hc.st.names hc.tz (fun g hg => ⟨hg.2, fun ho => by have := H.out.st.tab.lt ho; have := hg.1; omega⟩)
        have hr := H.out.run
        rw [show 200 - k = (199 - k) + 1 by omega, bigRun] at hr
        obtain ⟨⟨y1, y2, y3⟩, hy⟩ : ∃ y, addK (hasZ ([] : List NN)) T (bigX (1 + m) k) = y := ⟨_, rfl⟩
        rw [hy] at CA hr
        dsimp only at CA hr
        have HCA := Lib.hid CA; have HC := Lib.hid hc; have HR := Lib.hid hr
        clear CA hc hr hy hf1 hf2
        by_cases h2 : y2 = 0
        · subst h2
          go_wp2_with (go_at_call 32; (refine HCA.out.mono ?_); rintro e w6 ⟨rb2, nb2, ty2, nu2, rfl, ha⟩; have HA := Lib.hid ha; clear ha)
          go_roundw
          case rel =>
            obtain ⟨s6, b6⟩ := HC.out.st.add HA.out (by omega)
            have hr := HR.out
            rw [if_pos trivial] at hr
            exact ⟨k + 1, y3, mb, sb, rb2, nb2, ty2, nu2, vs, by go_num, by omega, by omega, by rw [show 200 - (k + 1) = 199 - k by omega]; exact hr, s6, H.out.below.trans ((HC.out.keeps.below (by omega) (fun g e => by omega)).trans b6), hbase, ⟨x2, (HA.out.keeps.block _ (by omega) (fun ho => HC.out.st.other HC.out.box (by decide) (by decide) (.inl ho))).trans HC.out.box⟩⟩
          case measure => simp [intOf]; omega
        · have hr := HR.out
          rw [if_neg h2] at hr
          simp only [Bool.and_eq_true, decide_eq_true_eq] at hr
          obtain ⟨⟨⟨⟨rfl, hr2⟩, hr3⟩, hr4⟩, hr5⟩ := hr
          obtain ⟨⟨z1, z2, z3⟩, hz⟩ : ∃ z, addK (hasZ ([] : List NN)) y3 zI = z := ⟨_, rfl⟩
          rw [hz] at hr2 hr3 hr4
          dsimp only at hr2 hr3 hr4
          subst hr2
          obtain ⟨⟨q1, q2, q3⟩, hq⟩ : ∃ q, numK z3 (baseK 3) = q := ⟨_, rfl⟩
          rw [hq] at hr3 hr4
          dsimp only at hr3 hr4
          subst hr3
          have hlq : (q3.length : Int) = 120 := by omega
          have CI := fun (w6 : World) (rb2 nb2 : Nat) (ty2 nu2 : Value) (s6 : StV w1.heap.size w6 tb rb2 nb2 mb sb 0 ty2 nu2 y3 [] [] vs) => add_any zI rfl rfl w6 tb rb2 nb2 mb sb 0 ty2 nu2 y3 [] (fun _ => False) ⟨2, ⟨#[]⟩, none, 0, 0, none, 0, 0⟩ s6.tab s6.names (TzV.leaf w6 _ 2 []) (fun g hg => hg.elim)
          have CB := fun (w7 : World) (rb2 nb2 : Nat) (ty2 nu2 : Value) (s7 : StV w1.heap.size w7 tb rb2 nb2 mb sb 0 ty2 nu2 z3 [] [] vs) => base_any 3 (by omega) (by omega) w7 tb rb2 nb2 mb sb 0 ty2 nu2 z3 s7.tab
          rw [hz] at CI
          rw [hq] at CB
          dsimp only at CI CB
          have h50 : (50 : Int) ≤ k := by omega
          have HCI := Lib.hid CI; have HCB := Lib.hid CB
          clear CI CB hz hq hr4 HR
          go_wp2_with (go_at_call 32; (refine HCA.out.mono ?_); rintro e w6 ⟨rb2, nb2, ty2, nu2, rfl, ha⟩; obtain ⟨s6, b6⟩ := HC.out.st.add ha (by omega); have hw6 := b6.size; have HS6 := Lib.hid s6; have HB6 := Lib.hid b6; clear ha s6 b6 HCA)
          go_wp2_with (go_at_call 32; (refine (HCI.out _ _ _ _ _ HS6.out).mono ?_); rintro e w7 ⟨rb3, nb3, ty3, nu3, rfl, ha⟩; obtain ⟨s7, b7⟩ := HS6.out.add ha (by omega); have hw7 := b7.size; have HS7 := Lib.hid s7; have HB7 := Lib.hid b7; clear ha s7 b7 HCI)
          go_wp2_with (go_at_call 34; (refine (HCB.out _ _ _ _ _ HS7.out).mono ?_); rintro e w8 ⟨rb4, nb4, ty4, nu4, rfl, ha⟩; obtain ⟨s8, b8⟩ := HS7.out.add ha (by omega); have hw8 := b8.size; have HS8 := Lib.hid s8; have HB8 := Lib.hid b8; clear ha s8 b8 HCB)
          go_wp2_with (go_at_call 29; (refine (len_any _ _ _ _ _ _ _ _ _ _ HS8.out.tab).mono ?_); rintro e w9 ⟨rfl, b9⟩; have HB9 := Lib.hid b9; clear b9)
          go_ret
          exact ⟨rfl, HX1.out.trans ((H.out.below.trans ((HC.out.keeps.below (by omega) (fun g e => by omega)).trans (HB6.out.trans (HB7.out.trans (HB8.out.trans (HB9.out.mono (by omega))))))).mono hx1)⟩
    · have hr := H.out.run
      rw [show 200 - k = 0 by omega, bigRun] at hr
      cases hr
end Sp
end Go.Proofs.Ytjjpjkkaogfoaaa
