/- ShapeOpts' walk. -/
import Derived.Test.YtnnnjonodnkccaaZGather
namespace Go.Proofs.Ytnnnjonodnkccaa
open Go.RowKit
namespace Sp
open Sc

def upper (k : Nat) : UInt8 := UInt8.ofNat (65 + k)
theorem upper_is (k : Nat) (h : k < 100) : (65 + (k : Int)) = ((upper k).toNat : Int) := by unfold upper; rw [UInt8.toNat_ofNat']; omega
theorem conv_oneZ (w : World) (z : Int) (c : UInt8) (h : z = (c.toNat : Int)) : (convert 52 9 (.slice (some ⟨w.heap.size, 0, none⟩) 1 1)).run Try.prog (w.alloc (.cells #[.int .u8 z] 5)) = .ok (.string ⟨#[c]⟩) (w.alloc (.cells #[.int .u8 z] 5)) := by
  have e := run_convert_bytes_arg (P := Try.prog) (w.alloc (.cells #[.int .u8 z] 5)) 52 5 Try.underlying52 Try.underlying5 w.heap.size 0 1 1 [z] rfl
    (fun i hi => by
      obtain rfl : i = 0 := by simpa using hi
      simp) 9 Try.underlying9
  rw [e, h]
  congr 2
  apply ByteArray.ext
  simp [strOfNums]
theorem cells_atZ (w : World) (l : List Value) (t : TypeId) (g : Nat) (hg : g = w.heap.size) : ∀ (j : Nat) (u : Value), l[j]? = some u → (w.alloc (.cells l.toArray t)).cell? ((⟨g, 0, none⟩ : Addr).add j) = some u := hg ▸ cells_newZ w l t

def optT : Nat → Tz
  | 0 => .mk 6 [] [] [zI]
  | k + 1 => zN [upper k]
def optL (k : Nat) : List NT := (List.range k).map fun i => ([upper i], optT i)
theorem optL_succ (k : Nat) : optL (k + 1) = optL k ++ [([upper k], optT k)] := by simp [optL, List.range_succ]
/-- An Opt of it, so many down. -/
def nestO (q a : Nat) : Nat → Tz
  | 0 => .mk 6 [] [] [optT a]
  | d + 1 => if q = 0 then .mk 4 [] [] [nestO q a d] else if q = 1 then .mk 7 [] [[102]] [nestO q a d] else .mk 8 [] [[102]] [nestO q a d]
theorem opt_all1 : (List.range 4).all (fun a => fitS ⟨optT a, optL a, []⟩ && decide ((checkZ ⟨optT a, optL a, []⟩).map Int.ofNat = some 0)) = true := by kernel_rfl
theorem opt_all2 : (List.range 4).all (fun a => (List.range 4).all fun d => (List.range 3).all fun q => fitS ⟨nestO q a d, optL a, []⟩ && decide ((checkZ ⟨nestO q a d, optL a, []⟩).map Int.ofNat = some 17)) = true := by kernel_rfl
theorem opt_1 {a : Nat} (h : a < 4) : fitS ⟨optT a, optL a, []⟩ = true ∧ (checkZ ⟨optT a, optL a, []⟩).map Int.ofNat = some 0 := by
  have := List.all_eq_true.1 opt_all1 a (List.mem_range.2 h)
  simpa only [Bool.and_eq_true, decide_eq_true_eq] using this
theorem opt_2 {a d q : Nat} (h : a < 4) (h1 : d < 4) (h2 : q < 3) : fitS ⟨nestO q a d, optL a, []⟩ = true ∧ (checkZ ⟨nestO q a d, optL a, []⟩).map Int.ofNat = some 17 := by
  have := List.all_eq_true.1 (List.all_eq_true.1 (List.all_eq_true.1 opt_all2 a (List.mem_range.2 h)) d (List.mem_range.2 h1)) q (List.mem_range.2 h2)
  simpa only [Bool.and_eq_true, decide_eq_true_eq] using this
theorem optL_len {a : Nat} (h : a < 4) : (decide ((optL a).length ≤ 1000000) && decide (([] : List Sg).length ≤ 1000000)) = true := by
  rw [show (optL a).length = a by simp [optL]]
  simp
  omega

structure ORel (w0 : World) (sb m : Nat) (sv : Value) (wr : World) (k : Nat) (v : Value) (us : List (List UInt8 × C4)) (c : C4) : Prop where
  slot : sv = .int .i64 k
  le : k ≤ m
  sat : wr.heap[sb]? = some (.cells #[.int .i64 0, .string ⟨#[]⟩, .slice none 0 0, .slice none 0 0, v, .slice none 0 0] 29 (0, 0))
  tat : wr.heap[sb + 1 + 1]? = some (.cells #[.int .i64 c.k, .string c.n, .slice c.an c.ln c.cn, .slice c.ak c.lk c.ck] 25 (0, 0))
  val : TzV wr (Free wr [sb, sb + 1 + 1] [v]) (optT k) c
  row : GRow wr (sb + 1 + 1 + 1) [sb, sb + 1 + 1] v (optL k) us
  below : Below w0.heap.size w0 wr
structure PRel (w0 : World) (sb m q a : Nat) (v : Value) (us : List (List UInt8 × C4)) (sv : Value) (wr : World) (k : Nat) (c m0 : C4) : Prop where
  slot : sv = .int .i64 k
  le : k ≤ m
  sat : wr.heap[sb]? = some (.cells #[.int .i64 m0.k, .string m0.n, .slice m0.an m0.ln m0.cn, .slice m0.ak m0.lk m0.ck, v, .slice none 0 0] 29 (0, 0))
  tat : wr.heap[sb + 1 + 1]? = some (.cells #[.int .i64 c.k, .string c.n, .slice c.an c.ln c.cn, .slice c.ak c.lk c.ck] 25 (0, 0))
  val : TzV wr (Free wr [sb, sb + 1 + 1] [v]) (nestO q a k) c
  row : GRow wr (sb + 1 + 1 + 1) [sb, sb + 1 + 1] v (optL a) us
  below : Below w0.heap.size w0 wr
theorem PRel.go {w0 wr w' : World} {sb m q a k : Nat} {v sv : Value} {us : List (List UInt8 × C4)} {c c' m0 : C4} (h : PRel w0 sb m q a v us sv wr k c m0) (hh : Held [sb, sb + 1 + 1] [v] (sb + 1 + 1) 25 wr w' (nestO q a (k + 1)) c') (hk : k + 1 ≤ m) (hB : w0.heap.size ≤ sb) : PRel w0 sb m q a v us (.int .i64 (k + 1)) w' (k + 1) c' m0 :=
  ⟨by go_num, hk, hh.only.blk h.sat (by omega), hh.at_, hh.val, h.row.only (b := sb + 1 + 1) (by simp) (by simp; omega) hh.only, h.below.trans (hh.only.below (by omega) h.below.size)⟩
theorem four_mem {x sb : Nat} (h : x ∈ [sb, sb + 1 + 1]) : x = sb ∨ x = sb + 1 + 1 := by simpa using h

set_option maxRecDepth 100000 in
set_option maxHeartbeats 8000000 in
theorem ShapeOpts_any (n deep inn : Int) (w : World) (h1 : -9223372036854775808 ≤ n) (h2 : n ≤ 9223372036854775807) (h3 : -9223372036854775808 ≤ deep) (h4 : deep ≤ 9223372036854775807) (h5 : -9223372036854775808 ≤ inn) (h6 : inn ≤ 9223372036854775807) :
    Calls Try.prog 7 #[.int .i64 n, .int .i64 deep, .int .i64 inn] w fun e w' => e = .returned (.bool true) ∧ Below w.heap.size w w' := by
  obtain ⟨a, ha, ha4⟩ : ∃ a : Nat, n % 4 = a ∧ a < 4 := ⟨(n % 4).toNat, by omega, by omega⟩
  obtain ⟨d, hd, hd4⟩ : ∃ d : Nat, deep % 4 = d ∧ d < 4 := ⟨(deep % 4).toNat, by omega, by omega⟩
  obtain ⟨q, hq, hq3⟩ : ∃ q : Nat, inn % 3 = q ∧ q < 3 := ⟨(inn % 3).toNat, by omega, by omega⟩
  have HA := Lib.hid ha; have HD := Lib.hid hd; have HQ := Lib.hid hq; clear ha hd hq
  obtain ⟨i0, hi, hz0, hz1, hz2⟩ := info_parts infoN
  have HI := Lib.hid hi; have HI0 := Lib.hid hz0; have HI1 := Lib.hid hz1; have HI2 := Lib.hid hz2; clear hi hz0 hz1 hz2
  go_enter Try.func7, Try.ntmps7
  go_wp2_with (go_at_call 12; (with_reducible refine (known_any _).mono ?_); rintro e w1 ⟨rfl, x1⟩; have HX1 := Lib.hid x1; clear x1)
  have hx1 := HX1.out.size
  go_wp2_with (go_at_call 19; (with_reducible refine (within_is _ _ _ _ (by omega) (by omega) h1 h2 HA.out).mono ?_); rintro e w2 ⟨rfl, rfl⟩)
  go_loopw [9] (fun v wr => ∃ k x us c, ORel w w1.heap.size a v wr k x us c) (fun v _ => a - (intOf v).toNat)
  case atStart => exact ⟨0, .slice none 0 0, [], ⟨6, ⟨#[]⟩, none, 0, 0, some ⟨w1.heap.size + 1, 0, none⟩, 1, 1⟩, rfl, Nat.zero_le _, by rw [blk_if, if_neg (by simp; omega), blk_if, if_neg (by simp), blk_if, if_pos rfl], by rw [blk_if, if_pos (by simp)], TzV.kidF (c := cI) (ty := 25) (fr := (0, 0)) 6 (by rw [blk_if, if_neg (by simp), blk_if, if_pos (by simp)]; rfl) ⟨by simp, by simp, by simp [Value.ownBlock]⟩ (TzV.leaf _ _ 2 []), GRow.start _ _ _, ((HX1.out.alloc hx1 _).alloc (by simp; omega) _).alloc (by simp; omega) _⟩
  case round =>
    obtain ⟨k, x, us, c, h⟩ := hrel
    obtain rfl := h.slot
    have hk := h.le
    obtain ⟨⟨r0, r1, r2, r3⟩, ⟨f0, f1, f2, f3⟩⟩ := four_blk h.tat
    obtain ⟨⟨s0, s1, s2, s3, s4, s5⟩, ⟨g0, g1, g2, g3, g4, g5⟩⟩ := six_blkF h.sat
    have hz := (Array.getElem?_eq_some_iff.1 h.tat).1
    have hz0 : w1.heap.size < wr.heap.size := by omega
    by_cases hlt : k < a
    · have hul : us.length = k := by rw [h.row.len]; simp [optL]
      have hcv := conv_oneZ wr (65 + (k : Int)) (upper k) (upper_is k (by omega))
      obtain ⟨xa, xc, rfl⟩ := h.row.cut
      have H := Lib.hid h; have HUL := Lib.hid hul
      clear h hul
      go_wp2_with (at_builtin; (refine Sh.wpList_append_fresh rfl _ _ 26 rfl (w1.heap.size + 1 + 1 + 1) 44 i0 (.agg #[.string ⟨#[]⟩, .int .i64 0, .string ⟨#[]⟩, .slice none 0 0, .slice none 0 0]) 5 88 Try.underlying26 HI.out HI0.out HI1.out HI2.out rfl (by decide) _ us.length (us.flatMap encZ) rfl ((H.out.row.alloc _).alloc _).own ⟨wr.heap.size + 1, 0, none⟩ 1 1 [.string ⟨#[upper k]⟩, .int .i64 c.k, .string c.n, .slice c.an c.ln c.cn, .slice c.ak c.lk c.ck] rfl rfl (cells_atZ _ _ _ _ (by simp)) (one5 (n := [upper k])) (by have := HUL.out; unfold maxLen; omega) (by have := HUL.out; omega) (by simp; omega) ?_); intro v' w3 hown' hgrow hfr; obtain ⟨hg3, hst⟩ := GRow.snoc (H.out.row.alloc _) (H.out.val.step (Step.alloc _ _)) hown' hgrow hfr; have hS3 := (hgrow.block w1.heap.size (by simp; omega) (fun e => H.out.row.ne (by omega) e.symm)).trans (blk_allocZ (blk_allocZ H.out.sat _) _); have hT3 := (hgrow.block (w1.heap.size + 1 + 1) (by simp; omega) (fun e => H.out.row.ne (by omega) e.symm)).trans (blk_allocZ (blk_allocZ H.out.tat _) _); have hb3 : Below w.heap.size w w3 := ((H.out.below.alloc H.out.below.size _).alloc (by have := H.out.below.size; simp; omega) _).trans (below_grown hgrow (fun g e => by have := (H.out.row.own.lt g e).1; omega) (by have := H.out.below.size; simp; omega)); obtain ⟨va, vc, rfl⟩ := own_sliceZ hown'; have hz3 := hgrow.size; simp at hz3; obtain ⟨⟨c0, c1, c2, c3, c4, c5⟩, ⟨d0, d1, d2, d3, d4, d5⟩⟩ := six_blkF hS3; obtain ⟨⟨p0, p1, p2, p3⟩, ⟨o0, o1, o2, o3⟩⟩ := four_blk hT3; have HG3 := Lib.hid hg3; have HS3 := Lib.hid hS3; have HT3 := Lib.hid hT3; have HB3 := Lib.hid hb3; clear hown' hgrow hfr hg3 hst hS3 hT3 hb3 hcv)
      go_roundw
      case rel =>
        have hO : Only w1.heap.size w3 (w3.setCell ⟨w1.heap.size, 4, none⟩ (.slice va (us.length + 1) vc)) := (Only.refl _ _).setCell _ _
        have hP := put4_only (w3.setCell ⟨w1.heap.size, 4, none⟩ (.slice va (us.length + 1) vc)) (w1.heap.size + 1 + 1) ⟨9, ⟨#[upper k]⟩, none, 0, 0, none, 0, 0⟩
        have e1 := hP.blk (set_six4 HS3.out (.slice va (us.length + 1) vc)) (by omega)
        have e2 := put4_at (hO.blk HT3.out (by omega)) ⟨9, ⟨#[upper k]⟩, none, 0, 0, none, 0, 0⟩
        have e3 := HB3.out.size
        have e4 := (HB3.out.trans (hO.below (by omega) (by omega))).trans (hP.below (by omega) (by simp; omega))
        have e5 := (HG3.out.only (b := w1.heap.size) (by simp) (by simp; omega) hO).only (b := w1.heap.size + 1 + 1) (by simp) (by simp; omega) hP
        have E1 := Lib.hid e1; have E2 := Lib.hid e2; have E4 := Lib.hid e4; have E5 := Lib.hid e5
        clear e1 e2 e3 e4 e5
        refine ⟨k + 1, .slice va (us.length + 1) vc, us ++ [([upper k], c)], ⟨9, ⟨#[upper k]⟩, none, 0, 0, none, 0, 0⟩, ?_⟩
        exact ⟨by go_num, by omega, E1.out, E2.out, TzV.leaf _ _ 9 [upper k], optL_succ k ▸ E5.out, E4.out⟩
      case measure => simp [intOf]; omega
    · obtain rfl : a = k := by omega
      obtain ⟨xa, xc, rfl⟩ := h.row.cut
      have hO := put4_only wr w1.heap.size c
      have hs1 := put4_six h.sat c
      have hV1 : TzV (put4 wr w1.heap.size c) (Free (put4 wr w1.heap.size c) [w1.heap.size, w1.heap.size + 1 + 1] [.slice xa (optL a).length xc]) (optT a) c := h.val.step (Step.only (by simp) hO)
      have hR1 := h.row.only (b := w1.heap.size) (by simp) (by simp; omega) hO
      have hT1 := hO.blk h.tat (by omega)
      have hsz1 := put4_size wr w1.heap.size c
      have hb1 := h.below.trans (hO.below (by omega) h.below.size)
      have C1 : Calls Try.prog 17 #[.agg #[.int .i64 c.k, .string c.n, .slice c.an c.ln c.cn, .slice c.ak c.lk c.ck, .slice xa (optL a).length xc, .slice none 0 0]] (put4 wr w1.heap.size c) (fun e w' => e = .returned (.int .i64 0) ∧ Below (put4 wr w1.heap.size c).heap.size (put4 wr w1.heap.size c) w') := Check_at ⟨optT a, optL a, []⟩ xc 0 (SzV.build hV1.any hR1.nms (SgsV.nil none)) rfl (opt_1 ha4).1 (optL_len ha4) (opt_1 ha4).2
      have HC1 := Lib.hid C1; have HV1 := Lib.hid hV1; have HR1 := Lib.hid hR1; have HT1 := Lib.hid hT1; have HS1 := Lib.hid hs1; have HB1 := Lib.hid hb1; have HSZ1 := Lib.hid hsz1
      clear C1 hV1 hR1 hT1 hs1 hb1 h hO hsz1
      go_wp2_with fail
      refine HC1.out.mono ?_
      rintro e w3 ⟨rfl, x3⟩
      have hR3 := HR1.out.below x3
      have hV3 := HV1.out.step (Step.below x3)
      have hT3 : w3.heap[w1.heap.size + 1 + 1]? = some (.cells #[.int .i64 c.k, .string c.n, .slice c.an c.ln c.cn, .slice c.ak c.lk c.ck] 25 (0, 0)) := (x3.block _ (Array.getElem?_eq_some_iff.1 HT1.out).1).trans HT1.out
      have hS3 := (x3.block _ (Array.getElem?_eq_some_iff.1 HS1.out).1).trans HS1.out
      have hB3 := HB1.out.trans (x3.mono HB1.out.size)
      obtain ⟨⟨c0, c1, c2, c3⟩, ⟨d0, d1, d2, d3⟩⟩ := four_blk hT3
      have hz3 := (Array.getElem?_eq_some_iff.1 hT3).1
      have HR3 := Lib.hid hR3; have HV3 := Lib.hid hV3; have HT3 := Lib.hid hT3; have HS3 := Lib.hid hS3; have HB3 := Lib.hid hB3
      clear x3 hR3 hV3 hT3 hS3 hB3 HC1 r0 r1 r2 r3 f0 f1 f2 f3 s0 s1 s2 s3 s4 s5 g0 g1 g2 g3 g4 g5
      go_wp2_with fail
      go_loopw [11] (fun v wp => ∃ k cc m0, PRel w w1.heap.size d q a (.slice xa (optL a).length xc) us v wp k cc m0) (fun v _ => d - (intOf v).toNat)
      case atStart =>
        have hX : ∀ x ∈ [w1.heap.size, w1.heap.size + 1 + 1], x < w3.heap.size := fun x hx => by rcases four_mem hx with rfl | rfl <;> omega
        have hvs : ∀ v ∈ [Value.slice xa (optL a).length xc], ∀ k, v.ownBlock = some k → k < w3.heap.size := fun v hv k hk => by rw [List.mem_singleton.1 hv] at hk; exact (HR3.out.own.lt k hk).2
        have hH := nest_kid (ty2 := 25) 6 HT3.out HV3.out hX (by simp) hvs
        exact ⟨0, _, c, rfl, Nat.zero_le _, hH.only.blk HS3.out (by omega), hH.at_, hH.val, HR3.out.only (b := w1.heap.size + 1 + 1) (by simp) (by simp; omega) hH.only, HB3.out.trans (hH.only.below (by omega) HB3.out.size)⟩
      case round =>
        obtain ⟨k, cc, m0, h⟩ := hrel
        obtain rfl := h.slot
        have hk := h.le
        obtain ⟨⟨r0, r1, r2, r3⟩, ⟨f0, f1, f2, f3⟩⟩ := four_blk h.tat
        obtain ⟨⟨s0, s1, s2, s3, s4, s5⟩, ⟨g0, g1, g2, g3, g4, g5⟩⟩ := six_blkF h.sat
        have hz := (Array.getElem?_eq_some_iff.1 h.tat).1
        have hz1 : w1.heap.size + 1 < wr.heap.size := by omega
        have hz0 : w1.heap.size < wr.heap.size := by omega
        clear c0 c1 c2 c3 d0 d1 d2 d3 hz3
        have H := Lib.hid h
        clear h
        by_cases hlt : k < d
        · have hX : ∀ x ∈ [w1.heap.size, w1.heap.size + 1 + 1], x < wr.heap.size := fun x hx => by rcases four_mem hx with rfl | rfl <;> omega
          have hvs : ∀ v ∈ [Value.slice xa (optL a).length xc], ∀ k, v.ownBlock = some k → k < wr.heap.size := fun v hv k hk => by rw [List.mem_singleton.1 hv] at hk; exact (H.out.row.own.lt k hk).2
          have HX := Lib.hid hX; have HVS := Lib.hid hvs; clear hX hvs
          obtain rfl | rfl | rfl : q = 0 ∨ q = 1 ∨ q = 2 := by omega
          · have HQ0 : Hid (inn % 3 = 0) := Lib.hid HQ.out
            go_wp2_with (first | (go_at_call 19; (with_reducible refine (within_is _ _ _ _ (by omega) (by omega) h3 h4 HD.out).mono ?_); rintro e w2 ⟨rfl, rfl⟩) | (go_at_call 19; (with_reducible refine (within_is _ _ _ _ (by omega) (by omega) h5 h6 HQ0.out).mono ?_); rintro e w2 ⟨rfl, rfl⟩))
            have hX := HX.out; have hvs := HVS.out
            have hn : nestO 0 a (k + 1) = .mk 4 [] [] [nestO 0 a k] := by rw [nestO, if_pos rfl]
            have hH := nest_kid (ty2 := 25) 4 H.out.tat H.out.val hX (by simp) hvs
            rw [← hn] at hH
            have HH := Lib.hid hH
            clear hn hH hX hvs
            go_roundw
            case rel => exact ⟨k + 1, _, m0, PRel.go H.out HH.out (by omega) hx1⟩
            case measure => simp [intOf]; omega
          · have HQ0 : Hid (inn % 3 = 1) := Lib.hid HQ.out
            go_wp2_with (first | (go_at_call 19; (with_reducible refine (within_is _ _ _ _ (by omega) (by omega) h3 h4 HD.out).mono ?_); rintro e w2 ⟨rfl, rfl⟩) | (go_at_call 19; (with_reducible refine (within_is _ _ _ _ (by omega) (by omega) h5 h6 HQ0.out).mono ?_); rintro e w2 ⟨rfl, rfl⟩))
            have hX := HX.out; have hvs := HVS.out
            have hn : nestO 1 a (k + 1) = .mk 7 [] [[102]] [nestO 1 a k] := by rw [nestO, if_neg (by decide), if_pos rfl]
            have hH := nest_fld (ty2 := 25) (ty3 := 9) 7 [102] H.out.tat H.out.val hX (by simp) hvs
            rw [← hn] at hH
            have HH := Lib.hid hH
            clear hn hH hX hvs
            go_roundw
            case rel => exact ⟨k + 1, _, m0, PRel.go H.out HH.out (by omega) hx1⟩
            case measure => simp [intOf]; omega
          · have HQ0 : Hid (inn % 3 = 2) := Lib.hid HQ.out
            go_wp2_with (first | (go_at_call 19; (with_reducible refine (within_is _ _ _ _ (by omega) (by omega) h3 h4 HD.out).mono ?_); rintro e w2 ⟨rfl, rfl⟩) | (go_at_call 19; (with_reducible refine (within_is _ _ _ _ (by omega) (by omega) h5 h6 HQ0.out).mono ?_); rintro e w2 ⟨rfl, rfl⟩))
            have hX := HX.out; have hvs := HVS.out
            have hn : nestO 2 a (k + 1) = .mk 8 [] [[102]] [nestO 2 a k] := by rw [nestO, if_neg (by decide), if_neg (by decide)]
            have hH := nest_fld (ty2 := 25) (ty3 := 9) 8 [102] H.out.tat H.out.val hX (by simp) hvs
            rw [← hn] at hH
            have HH := Lib.hid hH
            clear hn hH hX hvs
            go_roundw
            case rel => exact ⟨k + 1, _, m0, PRel.go H.out HH.out (by omega) hx1⟩
            case measure => simp [intOf]; omega
        · obtain rfl : d = k := by omega
          have hO := put4_only wr w1.heap.size cc
          have hV1 : TzV (put4 wr w1.heap.size cc) (Free (put4 wr w1.heap.size cc) [w1.heap.size, w1.heap.size + 1 + 1] [.slice xa (optL a).length xc]) (nestO q a d) cc := H.out.val.step (Step.only (by simp) hO)
          have hR1 := H.out.row.only (b := w1.heap.size) (by simp) (by simp; omega) hO
          have hb1 := H.out.below.trans (hO.below (by omega) H.out.below.size)
          have C1 : Calls Try.prog 17 #[.agg #[.int .i64 cc.k, .string cc.n, .slice cc.an cc.ln cc.cn, .slice cc.ak cc.lk cc.ck, .slice xa (optL a).length xc, .slice none 0 0]] (put4 wr w1.heap.size cc) (fun e w' => e = .returned (.int .i64 17) ∧ Below (put4 wr w1.heap.size cc).heap.size (put4 wr w1.heap.size cc) w') := Check_at ⟨nestO q a d, optL a, []⟩ xc 0 (SzV.build hV1.any hR1.nms (SgsV.nil none)) rfl (opt_2 ha4 hd4 hq3).1 (optL_len ha4) (opt_2 ha4 hd4 hq3).2
          have HC1 := Lib.hid C1; have HB1 := Lib.hid hb1
          clear C1 hV1 hR1 hb1 hO
          go_wp2_with (first | (go_at_call 19; (with_reducible refine (within_is _ _ _ _ (by omega) (by omega) h3 h4 HD.out).mono ?_); rintro e w2 ⟨rfl, rfl⟩) | (go_at_call 17; (refine HC1.out.mono ?_); rintro e w6 ⟨rfl, x6⟩; have HX6 := Lib.hid x6; clear x6))
          go_ret
          exact ⟨rfl, HB1.out.trans (HX6.out.mono HB1.out.size)⟩
end Sp
end Go.Proofs.Ytnnnjonodnkccaa
