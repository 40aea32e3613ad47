/- ScanBlanks: the walk. Written by gen_blanks.py. -/
import Derived.Test.YtaillpnjknnhdaaDoorRefJ
import Derived.Test.YtaillpnjknnhdaaDoorBlanksP
namespace Go.Proofs.YtaillpnjknnhdaaDoor
open Go.RowKit
namespace Sc

theorem pz_bz (n : Nat) (h : n < 40) : (pzB n).data.toList = bzL n := by
  match n, h with
  | 0, _ => rfl
  | 1, _ => rfl
  | 2, _ => rfl
  | 3, _ => rfl
  | 4, _ => rfl
  | 5, _ => rfl
  | 6, _ => rfl
  | 7, _ => rfl
  | 8, _ => rfl
  | 9, _ => rfl
  | 10, _ => rfl
  | 11, _ => rfl
  | 12, _ => rfl
  | 13, _ => rfl
  | 14, _ => rfl
  | 15, _ => rfl
  | 16, _ => rfl
  | 17, _ => rfl
  | 18, _ => rfl
  | 19, _ => rfl
  | 20, _ => rfl
  | 21, _ => rfl
  | 22, _ => rfl
  | 23, _ => rfl
  | 24, _ => rfl
  | 25, _ => rfl
  | 26, _ => rfl
  | 27, _ => rfl
  | 28, _ => rfl
  | 29, _ => rfl
  | 30, _ => rfl
  | 31, _ => rfl
  | 32, _ => rfl
  | 33, _ => rfl
  | 34, _ => rfl
  | 35, _ => rfl
  | 36, _ => rfl
  | 37, _ => rfl
  | 38, _ => rfl
  | 39, _ => rfl
  | n + 40, h => exact absurd h (by omega)
def gqL : Nat → List UInt8
  | 0 => []
  | 1 => [32, 32]
  | _ => [9, 13, 10]
def gqB (n : Nat) : ByteArray := ⟨(gqL n).toArray⟩
theorem gq_ok (n : Nat) (h : n < 3) : allB (gqL n) ∧ (gqB n).size ≤ 3 := by
  match n, h with
  | 0, _ => exact ⟨fun c hc => by simp [gqL] at hc, by decide⟩
  | 1, _ => exact ⟨fun c hc => by simp [gqL] at hc; subst hc; decide, by decide⟩
  | 2, _ => exact ⟨fun c hc => by simp [gqL] at hc; rcases hc with rfl | rfl | rfl <;> decide, by decide⟩
theorem gq_cell (w : World) (t : TypeId) (n : Nat) (h : n < 3) : (w.alloc (.cells #[.string ⟨#[]⟩, .string ⟨#[32, 32]⟩, .string ⟨#[9, 13, 10]⟩] t)).cell? ⟨w.heap.size, n, none⟩ = some (.string (gqB n)) := by
  match n, h with
  | 0, _ => simp; rfl
  | 1, _ => simp; rfl
  | 2, _ => simp; rfl
def rdA (x : Nat × List UInt8) : Rd := ⟨[], x.1, [32]⟩
def rdB (x : Nat × List UInt8) : Rd := ⟨[10], x.1, x.2⟩
def okk (x : Nat × List UInt8) : Prop := x.1 < 40 ∧ bzGood x.1 = true ∧ allB x.2
theorem tot_snoc (ks : List Rd) (x : Rd) : tot (ks ++ [x]) = tot ks ++ (x.p ++ (bzL x.n ++ x.q)) := by simp [tot]
theorem okA (ks : List (Nat × List UInt8)) (h : ∀ x ∈ ks, okk x) : ∀ x ∈ ks.map rdA, RdOk x := by
  intro x hx
  obtain ⟨y, hy, rfl⟩ := List.mem_map.1 hx
  obtain ⟨a, b, c⟩ := h y hy
  exact ⟨fun c hc => by simp [rdA] at hc, fun c hc => by simp [rdA] at hc; subst hc; decide, a, b⟩
theorem okB (ks : List (Nat × List UInt8)) (h : ∀ x ∈ ks, okk x) : ∀ x ∈ ks.map rdB, RdOk x := by
  intro x hx
  obtain ⟨y, hy, rfl⟩ := List.mem_map.1 hx
  obtain ⟨a, b, c⟩ := h y hy
  exact ⟨fun c hc => by simp [rdB] at hc; subst hc; decide, c, a, b⟩
theorem toksA (ks : List (Nat × List UInt8)) (h : ∀ x ∈ ks, okk x) (hl : (tot (ks.map rdA)).length ≤ 1500) (h30 : ks.length ≤ 30) : toks (tot (ks.map rdA)) = (0, totT (ks.map rdA) 0) :=
  tot_toks _ (okA ks h) (Or.inl fun x hx => by obtain ⟨y, _, rfl⟩ := List.mem_map.1 hx; simp [rdA]) hl (by simpa using h30)
theorem toksB (ks : List (Nat × List UInt8)) (h : ∀ x ∈ ks, okk x) (hl : (tot (ks.map rdB)).length ≤ 1500) (h30 : ks.length ≤ 30) : toks (tot (ks.map rdB)) = (0, totT (ks.map rdB) 0) :=
  tot_toks _ (okB ks h) (Or.inr fun x hx => by obtain ⟨y, _, rfl⟩ := List.mem_map.1 hx; simp [rdB]) hl (by simpa using h30)
theorem stripAB (ks : List (Nat × List UInt8)) : (totT (ks.map rdA) 0).map strip = (totT (ks.map rdB) 0).map strip :=
  strip_tot _ _ (by simp [rdA, rdB, List.map_map, Function.comp_def]) 0 0

theorem rise_of (l : List UInt8) (e : Nat) (ts : List T) (h : toks l = (e, ts)) : ∀ (i : Nat) (hi : i + 1 < ts.length), (ts[i]'(by omega)).at_ < (ts[i + 1]'hi).at_ := by
  obtain rfl : ts = (toks l).2 := by rw [h]
  exact fun i hi => toks_rise l i hi
theorem strip_at (ts us : List T) (h : ts.map strip = us.map strip) : ∀ (p : Nat) (h1 : p < ts.length) (h2 : p < us.length), ts[p].kind = us[p].kind ∧ ts[p].text = us[p].text ∧ ts[p].n = us[p].n := by
  intro p h1 h2
  have e : (ts.map strip)[p]'(by simpa using h1) = (us.map strip)[p]'(by simpa using h2) := by simp only [h]
  simp only [List.getElem_map, strip, Prod.mk.injEq] at e
  exact e

set_option maxRecDepth 100000 in
set_option maxHeartbeats 8000000 in
theorem blanks_any (ad : Option Addr) (len cap : Nat) (zs : List Int) (ad2 : Option Addr) (len2 cap2 : Nat) (gs : List Int) (w : World) (hT : Tabs w) (hR : IsRow .i64 w ad len cap zs) (hG : IsRow .i64 w ad2 len2 cap2 gs) :
    Calls Tryd.prog 4 #[.slice ad len cap, .slice ad2 len2 cap2] w fun e w' => e = .returned (.bool true) ∧ Below w.heap.size w w' := by
  have hI := ints_of_row hR
  generalize (fun i => zs.getD i 0) = f at hI
  have hJ := ints_of_row hG
  generalize (fun i => gs.getD i 0) = h at hJ
  have hlen := hI.1
  have hlen2 := hJ.1
  unfold maxLen at hlen hlen2
  have cK := known_any w hT
  have HI := Lib.hid hI; have HJ := Lib.hid hJ; have HT := Lib.hid hT; have HK := Lib.hid cK
  clear hI hJ hT cK hR hG
  go_enter Tryd.func4, Tryd.ntmps4
  go_wp2_with (go_at_call 12; (with_reducible refine HK.out.mono ?_); rintro e w1 ⟨rfl, hb⟩)
  have HB := Lib.hid hb; clear hb HK
  go_loopw [5, 6, 7] (fun av bv iv wr => ∃ (j : Nat) (ks : List (Nat × List UInt8)) (t u : ByteArray), j ≤ len ∧ j ≤ 30 ∧ ks.length = j ∧ av = .string t ∧ bv = .string u ∧ iv = .int .i64 j ∧ t.size ≤ 21 * j ∧ u.size ≤ 24 * j ∧ Hid (t.data.toList = tot (ks.map rdA)) ∧ Hid (u.data.toList = tot (ks.map rdB)) ∧ Hid (∀ x ∈ ks, okk x) ∧ Hid (Below w.heap.size w wr)) (fun _ _ iv _ => len - (intOf iv).toNat)
  case atStart => exact ⟨0, [], _, _, Nat.zero_le _, by omega, rfl, rfl, rfl, rfl, by simp [ByteArray.size], by simp [ByteArray.size], rfl, rfl, (fun x hx => by simp at hx), HB⟩
  case round =>
    obtain ⟨j, ks, t, u, hj, hj30, hks, rfl, rfl, rfl, hts, hus, ht, hu, hok, hm⟩ := hrel
    have hbw := hm.out.size
    by_cases hlt : j < len ∧ j < 30
    · obtain ⟨hlt, h30⟩ := hlt
      obtain ⟨bb, off, rfl, hbl, hcc⟩ := HI.out.2 (by omega)
      have hcj := (hm.out.cell (p := ⟨bb, off + j, none⟩) hbl).trans (hcc j hlt).1
      have hwf := bounds_i64 (hcc j hlt).2
      have hbl2 : bb < wr.heap.size := by omega
      have cP := fun w => piece_any (f j) w hwf.1 hwf.2
      have q0 := Int.emod_nonneg (f j) (show (40 : Int) ≠ 0 by omega)
      have q1 := Int.emod_lt_of_pos (f j) (show (0 : Int) < 40 by omega)
      obtain ⟨n, hn⟩ : ∃ n : Nat, (f j % 40).toNat = n := ⟨_, rfl⟩
      have hn40 : n < 40 := by omega
      rw [hn] at cP
      have hpz := pz_len n
      have hpb := pz_bz n hn40
      have hgood := bz_good n hn40
      have hjl : (j : Int) < len := by omega
      have hj3 : (j : Int) < 30 := by omega
      have hsz1 : (t ++ pzB n).size ≤ 21 * j + 20 := by rw [ByteArray.size_append]; omega
      have hsz2 : ((t ++ pzB n) ++ ⟨#[32]⟩).size ≤ 21 * (j + 1) := by rw [ByteArray.size_append]; show _ + 1 ≤ _; omega
      have hsz3 : (u ++ ⟨#[10]⟩).size ≤ 24 * j + 1 := by rw [ByteArray.size_append]; show _ + 1 ≤ _; omega
      have hsz4 : ((u ++ ⟨#[10]⟩) ++ pzB n).size ≤ 24 * j + 21 := by rw [ByteArray.size_append]; omega
      have cRT := fun w => RTokens_any (pzB n) w (by unfold maxLen; omega)
      unfold RToksPost at cRT
      rw [hpb] at cRT
      have ka : ((t ++ pzB n) ++ ⟨#[32]⟩).data.toList = tot (ks.map rdA) ++ (bzL n ++ [32]) := by rw [cat_bytes, cat_bytes, ht.out, hpb]; simp
      have kb : ((u ++ ⟨#[10]⟩) ++ pzB n).data.toList = tot (ks.map rdB) ++ ([10] ++ bzL n) := by rw [cat_bytes, cat_bytes, hu.out, hpb]; simp
      have HN := Lib.hid hn
      generalize pzB n = pb at *
      have HP := Lib.hid cP; have HRT := Lib.hid cRT
      have KA := Lib.hid ka; have KB := Lib.hid kb; have HGD := Lib.hid hgood; have HPB := Lib.hid hpb
      generalize f j = fj at *
      clear hcc cP hwf hlt h30 hn q0 q1 cRT ka kb hgood hpb
      by_cases hE : (toks (bzL n)).1 = 0
      · have hbg : bzGood n = true := by rw [← HGD.out]; exact hE
        have HBG := Lib.hid hbg
        have hrt := HRT.out
        rw [hE] at hrt
        clear HRT
        have HRT := Lib.hid hrt
        clear hrt hE hbg
        by_cases hg : j < len2
        · obtain ⟨b2, off2, rfl, hbl3, hdd⟩ := HJ.out.2 (by omega)
          have hgj := (hm.out.cell (p := ⟨b2, off2 + j, none⟩) hbl3).trans (hdd j hg).1
          have hwg := bounds_i64 (hdd j hg).2
          have hbl4 : b2 < wr.heap.size := by omega
          have h5 := Int.emod_nonneg (h j) (show (3 : Int) ≠ 0 by omega)
          have h5' := Int.emod_lt_of_pos (h j) (show (0 : Int) < 3 by omega)
          obtain ⟨n2, hn2⟩ : ∃ n2 : Nat, h j % 3 = n2 := ⟨(h j % 3).toNat, by omega⟩
          have cW := fun w => within_any (h j) 3 w (by omega) (by omega) hwg.1 hwg.2
          rw [hn2] at cW h5 h5'
          have hn3 : n2 < 3 := by omega
          obtain ⟨hga, hgl⟩ := gq_ok n2 hn3
          have hgs : (((u ++ ⟨#[10]⟩) ++ pb) ++ gqB n2).size ≤ 24 * (j + 1) := by rw [ByteArray.size_append]; omega
          have kc : (((u ++ ⟨#[10]⟩) ++ pb) ++ gqB n2).data.toList = tot (ks.map rdB) ++ ([10] ++ (bzL n ++ gqL n2)) := by rw [cat_bytes, KB.out]; simp [gqB]
          have KC := Lib.hid kc
          have HW := Lib.hid cW; have HGA := Lib.hid hga
          have hj2 : (j : Int) < len2 := by omega
          generalize h j = gj at *
          clear hdd cW hwg hn2 hg hga kc
          go_wp2_with (first
            | (go_at_call 13; (with_reducible refine (HP.out _).mono ?_); rintro e w3 ⟨rfl, hb3⟩; have hb3s := hb3.size; have HB3 := Lib.hid hb3; clear hb3)
            | (go_at_call 16; (with_reducible refine (HRT.out _).mono ?_); rintro e w4 ⟨hb4, v, rfl, ho⟩; clear ho; have hgj4 := ((HB3.out.trans (hb4.mono hb3s)).cell (p := ⟨b2, off2 + j, none⟩) hbl4).trans hgj; have hbl5 := Nat.lt_of_lt_of_le hbl4 (Nat.le_trans hb3s hb4.size); have hgc := gq_cell w4 9 n2 hn3; have hb4s := hb4.size; have HB4 := Lib.hid hb4; clear hb4)
            | (go_at_call 14; (with_reducible refine (HW.out _).mono ?_); rintro e w' ⟨rfl, rfl⟩))
          go_roundw
          case rel => exact ⟨j + 1, ks ++ [(n, gqL n2)], _, _, by omega, by omega, by simp [hks], rfl, rfl, by go_num, hsz2, hgs, by unfold Hid; rw [KA.out, List.map_append, List.map_singleton, tot_snoc]; rfl, by unfold Hid; rw [KC.out, List.map_append, List.map_singleton, tot_snoc]; rfl,
              (fun x hx => by rcases List.mem_append.1 hx with hx | hx; exact hok.out x hx; simp only [List.mem_singleton] at hx; subst hx; exact ⟨hn40, HBG.out, HGA.out⟩), Lib.hid (((hm.out.trans (HB3.out.mono hbw)).trans (HB4.out.mono (by omega))).alloc (by omega) _)⟩
          case measure => simp [intOf]; omega
        · have hj2 : ¬ (j : Int) < len2 := by omega
          go_wp2_with (first
            | (go_at_call 13; (with_reducible refine (HP.out _).mono ?_); rintro e w3 ⟨rfl, hb3⟩; have hb3s := hb3.size; have HB3 := Lib.hid hb3; clear hb3)
            | (go_at_call 16; (with_reducible refine (HRT.out _).mono ?_); rintro e w4 ⟨hb4, v, rfl, ho⟩; clear ho; have hb4s := hb4.size; have HB4 := Lib.hid hb4; clear hb4))
          go_roundw
          case rel => exact ⟨j + 1, ks ++ [(n, [])], _, _, by omega, by omega, by simp [hks], rfl, rfl, by go_num, hsz2, by omega, by unfold Hid; rw [KA.out, List.map_append, List.map_singleton, tot_snoc]; rfl, by unfold Hid; rw [KB.out, List.map_append, List.map_singleton, tot_snoc]; simp [rdB],
              (fun x hx => by rcases List.mem_append.1 hx with hx | hx; exact hok.out x hx; simp only [List.mem_singleton] at hx; subst hx; exact ⟨hn40, HBG.out, fun c hc => by simp at hc⟩), Lib.hid ((hm.out.trans (HB3.out.mono hbw)).trans (HB4.out.mono (by omega)))⟩
          case measure => simp [intOf]; omega
      · have hE' : ((((toks (bzL n)).1 : Nat) : Int) != 0) = true := by simp; omega
        generalize (toks (bzL n)).1 = e0 at *
        clear hE
        go_wp2_with (first
          | (go_at_call 13; (with_reducible refine (HP.out _).mono ?_); rintro e w3 ⟨rfl, hb3⟩; have hb3s := hb3.size; have HB3 := Lib.hid hb3; clear hb3)
          | (go_at_call 16; (with_reducible refine (HRT.out _).mono ?_); rintro e w4 ⟨hb4, v, rfl, ho⟩; clear ho; have hb4s := hb4.size; have HB4 := Lib.hid hb4; clear hb4))
        go_ret
        exact ⟨rfl, (hm.out.trans (HB3.out.mono hbw)).trans (HB4.out.mono (by omega))⟩
    · have hend : ¬ ((j : Int) < len ∧ (j : Int) < 30) := by omega
      have htl : t.size ≤ 630 := by omega
      have hul : u.size ≤ 720 := by omega
      have hk30 : ks.length ≤ 30 := by omega
      have cT := Tokens_any t wr (by unfold maxLen; omega) (HT.out.below hm.out).1 (HT.out.below hm.out).2
      unfold ToksPost at cT
      have hTA := toksA ks hok.out (by rw [← ht.out, bytes_len]; omega) hk30
      have hTB := toksB ks hok.out (by rw [← hu.out, bytes_len]; omega) hk30
      rw [ht.out, hTA] at cT
      have cU := fun w2 (hb2 : Below w.heap.size w w2) => Tokens_any u w2 (by unfold maxLen; omega) (HT.out.below hb2).1 (HT.out.below hb2).2
      unfold ToksPost at cU
      simp only [hu.out, hTB] at cU
      have hst := stripAB ks
      have hri := rise_of _ _ _ hTB
      have hl60 := totT_len (ks.map rdA) (okA ks hok.out) 0
      rw [List.length_map] at hl60
      clear hTA hTB
      generalize totT (ks.map rdA) 0 = ts at *
      generalize totT (ks.map rdB) 0 = us at *
      have hln : us.length = ts.length := by have := congrArg List.length hst; simpa using this.symm
      have hst2 := strip_at ts us hst
      have HST := Lib.hid hst2; have HLN := Lib.hid hln; have HRI := Lib.hid hri
      have CT := Lib.hid cT; have CU := Lib.hid cU
      have hl61 : ts.length ≤ 60 := by omega
      clear cT cU hst hst2 hln hri HI HJ ht hu HT hl60
      by_cases hl : (j : Int) < len
      · have hj6 : ¬ (j : Int) < 30 := by omega
        clear hend hlt
        go_wp2_with fail
        (with_reducible refine CT.out.mono ?_)
        rintro e w2 ⟨hb2, v, rfl, ho⟩
        have hb3 := hm.out.trans (hb2.mono hm.out.size)
        go_wp2_with fail
        (with_reducible refine (CU.out w2 hb3).mono ?_)
        rintro e w3 ⟨hb4, v', rfl, ho2⟩
        have hb5 := hb3.trans (hb4.mono hb3.size)
        rw [HLN.out] at ho2
        have HO := Lib.hid ho; have HO2 := Lib.hid ho2; have HB4 := Lib.hid hb4
        obtain ⟨sa, sc, rfl⟩ := own_slice ho
        obtain ⟨ua, uc, rfl⟩ := own_slice ho2
        clear ho ho2 hb4 hb2 CT CU hb3
        have HB5 := Lib.hid hb5
        clear hb5
        go_wp2
        go_loopw [15] (fun iv wr2 => ∃ (p nq : Nat), p ≤ ts.length ∧ iv = .int .i64 p ∧ wr2 = w3.drewN nq) (fun iv _ => ts.length - (intOf iv).toNat)
        case atStart => exact ⟨0, 0, Nat.zero_le _, rfl, rfl⟩
        case round =>
          obtain ⟨p, nq, hp, rfl, rfl⟩ := hrel
          by_cases hpk : p < ts.length
          · obtain ⟨g1, rfl, _, hg1⟩ := some1 HO.out (by omega)
            have hpu : p < us.length := by rw [HLN.out]; exact hpk
            have ho2 : w3.ownsRow w2.heap.size 38 4 (.slice ua us.length uc) us.length (us.flatMap tokCells) := by rw [HLN.out]; exact HO2.out
            obtain ⟨g2, rfl, _, hg2⟩ := some1 ho2 (by omega)
            obtain ⟨x0, x1, x2, _⟩ := row_at HO.out p hpk
            obtain ⟨y0, y1, y2, y3⟩ := row_at ho2 p hpu
            have x0 := (HB4.out.cell (p := ⟨g1, p * 4, none⟩) hg1).trans x0
            have x1 := (HB4.out.cell (p := ⟨g1, p * 4 + 1, none⟩) hg1).trans x1
            have x2 := (HB4.out.cell (p := ⟨g1, p * 4 + 2, none⟩) hg1).trans x2
            obtain ⟨e0, e1, e2⟩ := HST.out p hpk hpu
            rw [e0] at x0; rw [e1] at x1; rw [e2] at x2
            have hpk' : (p : Int) < ts.length := by omega
            have hp0 : (0 : Int) ≤ p := by omega
            cases p with
            | zero =>
              generalize us[0] = tt at *
              clear e0 e1 e2 ho2
              go_wp2_with fail
              go_quiet (fail)
              go_wp2
              go_roundw
              case rel => exact ⟨1, _, by omega, by go_num, rfl⟩
              case measure => simp [intOf]; omega
            | succ q =>
              obtain ⟨_, _, _, z3⟩ := row_at ho2 q (by omega)
              have hri := HRI.out q hpu
              generalize us[q + 1] = tt at *
              generalize us[q] = uu at *
              have hri' : ¬ (tt.at_ : Int) ≤ uu.at_ := by omega
              have hq1 : ((q + 1 : Nat) : Int) - 1 = q := by omega
              have hq2 : (0 : Int) < ((q + 1 : Nat) : Int) := by omega
              have hq3 : (q : Int) < ts.length := by omega
              have hq4 : (0 : Int) ≤ q := by omega
              clear e0 e1 e2 ho2 hri
              go_wp2_with fail
              go_quiet (fail)
              go_wp2
              go_roundw
              case rel => exact ⟨q + 1 + 1, _, by omega, by go_num, rfl⟩
              case measure => simp [intOf]; omega
          · have hpk2 : p = ts.length := by omega
            clear hpk
            go_wp2
            go_ret
            exact ⟨rfl, below_drewN HB5.out nq⟩
      · clear hend hlt
        go_wp2_with fail
        (with_reducible refine CT.out.mono ?_)
        rintro e w2 ⟨hb2, v, rfl, ho⟩
        have hb3 := hm.out.trans (hb2.mono hm.out.size)
        go_wp2_with fail
        (with_reducible refine (CU.out w2 hb3).mono ?_)
        rintro e w3 ⟨hb4, v', rfl, ho2⟩
        have hb5 := hb3.trans (hb4.mono hb3.size)
        rw [HLN.out] at ho2
        have HO := Lib.hid ho; have HO2 := Lib.hid ho2; have HB4 := Lib.hid hb4
        obtain ⟨sa, sc, rfl⟩ := own_slice ho
        obtain ⟨ua, uc, rfl⟩ := own_slice ho2
        clear ho ho2 hb4 hb2 CT CU hb3
        have HB5 := Lib.hid hb5
        clear hb5
        go_wp2
        go_loopw [15] (fun iv wr2 => ∃ (p nq : Nat), p ≤ ts.length ∧ iv = .int .i64 p ∧ wr2 = w3.drewN nq) (fun iv _ => ts.length - (intOf iv).toNat)
        case atStart => exact ⟨0, 0, Nat.zero_le _, rfl, rfl⟩
        case round =>
          obtain ⟨p, nq, hp, rfl, rfl⟩ := hrel
          by_cases hpk : p < ts.length
          · obtain ⟨g1, rfl, _, hg1⟩ := some1 HO.out (by omega)
            have hpu : p < us.length := by rw [HLN.out]; exact hpk
            have ho2 : w3.ownsRow w2.heap.size 38 4 (.slice ua us.length uc) us.length (us.flatMap tokCells) := by rw [HLN.out]; exact HO2.out
            obtain ⟨g2, rfl, _, hg2⟩ := some1 ho2 (by omega)
            obtain ⟨x0, x1, x2, _⟩ := row_at HO.out p hpk
            obtain ⟨y0, y1, y2, y3⟩ := row_at ho2 p hpu
            have x0 := (HB4.out.cell (p := ⟨g1, p * 4, none⟩) hg1).trans x0
            have x1 := (HB4.out.cell (p := ⟨g1, p * 4 + 1, none⟩) hg1).trans x1
            have x2 := (HB4.out.cell (p := ⟨g1, p * 4 + 2, none⟩) hg1).trans x2
            obtain ⟨e0, e1, e2⟩ := HST.out p hpk hpu
            rw [e0] at x0; rw [e1] at x1; rw [e2] at x2
            have hpk' : (p : Int) < ts.length := by omega
            have hp0 : (0 : Int) ≤ p := by omega
            cases p with
            | zero =>
              generalize us[0] = tt at *
              clear e0 e1 e2 ho2
              go_wp2_with fail
              go_quiet (fail)
              go_wp2
              go_roundw
              case rel => exact ⟨1, _, by omega, by go_num, rfl⟩
              case measure => simp [intOf]; omega
            | succ q =>
              obtain ⟨_, _, _, z3⟩ := row_at ho2 q (by omega)
              have hri := HRI.out q hpu
              generalize us[q + 1] = tt at *
              generalize us[q] = uu at *
              have hri' : ¬ (tt.at_ : Int) ≤ uu.at_ := by omega
              have hq1 : ((q + 1 : Nat) : Int) - 1 = q := by omega
              have hq2 : (0 : Int) < ((q + 1 : Nat) : Int) := by omega
              have hq3 : (q : Int) < ts.length := by omega
              have hq4 : (0 : Int) ≤ q := by omega
              clear e0 e1 e2 ho2 hri
              go_wp2_with fail
              go_quiet (fail)
              go_wp2
              go_roundw
              case rel => exact ⟨q + 1 + 1, _, by omega, by go_num, rfl⟩
              case measure => simp [intOf]; omega
          · have hpk2 : p = ts.length := by omega
            clear hpk
            go_wp2
            go_ret
            exact ⟨rfl, below_drewN HB5.out nq⟩
end Sc
end Go.Proofs.YtaillpnjknnhdaaDoor
