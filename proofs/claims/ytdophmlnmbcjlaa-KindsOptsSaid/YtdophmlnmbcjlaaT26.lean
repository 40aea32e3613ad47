/- put: its walk. Written by gen_wput.py. -/
import Derived.Test.YtdophmlnmbcjlaaT25
namespace Go.Proofs.Ytdophmlnmbcjlaa
open Go.RowKit
namespace Sp
open Sc
structure PRelW (W0 : World) (ns : List (List UInt8)) (n : List UInt8) (sv : Value) (wr : World) (k : Nat) : Prop where
  slot : sv = .int .i64 k
  le : k ≤ ns.length
  less : ∀ i (h : i < ns.length), i < k → Op.bytesLess ns[i] n = true
  same : wr = W0
set_option maxRecDepth 100000 in
set_option maxHeartbeats 8000000 in
theorem put_any (k : Int) (nm : List UInt8) (ns : List (List UInt8)) (ks : List Tz) (n : List UInt8) (x : Tz) (c cx : C4) (z : Nat) (w : World) (hzb : z ≤ w.heap.size) (hV : TzV w (New z w) (.mk k nm ns ks) c) (hX : TzV w (New z w) x cx) (hlen : ns.length = ks.length) (hs : ns.length ≤ 1000) (hc : CapOk c) :
    Calls Try.prog 33 #[.agg #[.int .i64 c.k, .string c.n, .slice c.an c.ln c.cn, .slice c.ak c.lk c.ck], .string ⟨n.toArray⟩, .agg #[.int .i64 cx.k, .string cx.n, .slice cx.an cx.ln cx.cn, .slice cx.ak cx.lk cx.ck]] w (PutP z (putT n x (.mk k nm ns ks)) w) := by
  have hV0 := hV
  cases hV with
  | mk _ _ _ _ an cn ak ck us hl hn hk hu =>
    obtain ⟨hc1, hc2⟩ := hc
    simp only at hc1 hc2
    obtain ⟨W0, hW0⟩ : ∃ W0, W0 = ((w.alloc (.cells #[.int .i64 k, .string ⟨nm.toArray⟩, .slice an ns.length cn, .slice ak ks.length ck] 30)).alloc (.cells #[.int .i64 cx.k, .string cx.n, .slice cx.an cx.ln cx.cn, .slice cx.ak cx.lk cx.ck] 30)).alloc (.cells #[.int .i64 0, .string ⟨#[]⟩, .slice none 0 0, .slice none 0 0] 30) := ⟨_, rfl⟩
    have hz0 : W0.heap.size = w.heap.size + 3 := by rw [hW0]; simp
    have hb0 : Below w.heap.size w W0 := by rw [hW0]; exact (((Below.refl _ _).alloc (Nat.le_refl _) _).alloc (by simp) _).alloc (by simp; omega) _
    have ht0 : W0.heap[w.heap.size]? = some (.cells #[.int .i64 k, .string ⟨nm.toArray⟩, .slice an ns.length cn, .slice ak ks.length ck] 30 (0, 0)) := by rw [hW0, blk_if, if_neg (by simp; omega), blk_if, if_neg (by simp), blk_if, if_pos rfl]
    have hx0 : W0.heap[w.heap.size + 1]? = some (.cells #[.int .i64 cx.k, .string cx.n, .slice cx.an cx.ln cx.cn, .slice cx.ak cx.lk cx.ck] 30 (0, 0)) := by rw [hW0, blk_if, if_neg (by simp), blk_if, if_pos (by simp)]
    have hr0 : W0.heap[w.heap.size + 1 + 1]? = some (.cells #[.int .i64 0, .string ⟨#[]⟩, .slice none 0 0, .slice none 0 0] 30 (0, 0)) := by rw [hW0, blk_if, if_pos (by simp)]
    have e1 := toList_mk' n
    have HN := Lib.hid hn.newAny; have HK := Lib.hid hk.newAny; have HU := Lib.hid hu; have HV := Lib.hid hV0; have HX := Lib.hid hX
    have HW0 := Lib.hid hW0; have HB0 := Lib.hid hb0; have HT0 := Lib.hid ht0; have HX0 := Lib.hid hx0; have HR0 := Lib.hid hr0; have HL := Lib.hid hl; have HLEN := Lib.hid hlen
    obtain ⟨⟨p0, p1, p2, p3⟩, ⟨q0, q1, q2, q3⟩⟩ := four_blk ht0
    obtain ⟨⟨s0, s1, s2, s3⟩, ⟨t0, t1, t2, t3⟩⟩ := four_blk hr0
    obtain ⟨is, his, js, ls, ms⟩ := info_parts infoS
    obtain ⟨ik, hik, jk, kk, lk⟩ := info_parts infoTz
    have HIs := Lib.hid his; have HJs := Lib.hid js; have HKs := Lib.hid ls; have HLs := Lib.hid ms
    have HIk := Lib.hid hik; have HJk := Lib.hid jk; have HKk := Lib.hid kk; have HLk := Lib.hid lk
    clear his js ls ms hik jk kk lk
    clear hn hk hu hV0 hX hW0 hb0 ht0 hx0 hr0 hl hlen
    go_enter Try.func33, Try.ntmps33
    go_wp2
    rw [← HW0.out]
    go_loopw [7] (fun v wr => ∃ j, PRelW W0 ns n v wr j) (fun v _ => ns.length - (intOf v).toNat)
    case atStart => exact ⟨0, rfl, Nat.zero_le _, (fun i h hi => by omega), rfl⟩
    case round =>
      obtain ⟨j, h⟩ := hrel
      obtain rfl := h.slot
      obtain rfl := h.same
      have hj := h.le
      have hlt := h.less
      clear h
      by_cases hjl : j < ns.length
      · obtain ⟨gz, oz, rfl, hg, hcell⟩ := name_at HN.out (fun _ h => h) j hjl
        have c0 := hcell wr HB0.out
        have e2 := toList_mk' ns[j]
        have hjz : (j : Int) < (ns.length : Int) := by omega
        cases hb : Op.bytesLess ns[j] n
        · have hp : posT ns n = j := posT_is hj (fun i h hi => hlt i h hi) (fun _ => hb)
          have hgo : ns[j]? = some ns[j] := List.getElem?_eq_getElem hjl
          by_cases he : ns[j] = n
          · have hput : putT n x (.mk k nm ns ks) = .mk k nm ns ks := by rw [putT, if_pos (by rw [hp, hgo, he])]
            have HPUT := Lib.hid hput
            clear hput hgo hp hlt hcell
            generalize ns[j] = a at *
            subst he
            obtain ⟨⟨v0, v1, v2, v3⟩, _⟩ := four_blk (put4_at HR0.out ⟨k, ⟨nm.toArray⟩, some ⟨gz, oz, none⟩, ns.length, cn, ak, ks.length, ck⟩)
            have hbl : Below w.heap.size w (put4 wr (w.heap.size + 1 + 1) ⟨k, ⟨nm.toArray⟩, some ⟨gz, oz, none⟩, ns.length, cn, ak, ks.length, ck⟩) := HB0.out.trans ((put4_only _ _ _).below (by omega) (by omega))
            have HBL := Lib.hid hbl
            clear hbl
            unfold put4 at v0 v1 v2 v3
            go_wp2
            refine bodyPost_ret (v := .agg #[.int .i64 k, .string ⟨nm.toArray⟩, .slice (some ⟨gz, oz, none⟩) ns.length cn, .slice ak ks.length ck]) (by simp [results, Try.results33, go_sem, v0, v1, v2, v3]) rfl ?_
            rw [HPUT.out]
            exact ⟨⟨k, ⟨nm.toArray⟩, some ⟨gz, oz, none⟩, ns.length, cn, ak, ks.length, ck⟩, rfl, HV.out.growN HBL.out, ⟨hc1, hc2⟩, HBL.out⟩
          · have hput : putT n x (.mk k nm ns ks) = .mk k nm (ns.take j ++ [n] ++ ns.drop j) (ks.take j ++ [x] ++ ks.drop j) := by rw [putT, hp, if_neg (by rw [hgo]; simpa using he)]
            have heq : (ns[j] == n) = false := by simpa using he
            have HPUT := Lib.hid hput
            clear hput hgo hp hlt hcell
            generalize ns[j] = a at *
            have hL0 : (wr.alloc (.cells #[] 9)).ownsRow (w.heap.size + 3) 9 1 (.slice (some ⟨w.heap.size + 3, 0, none⟩) 0 0) 0 [] := by
              have := World.ownsRow_lit (base := w.heap.size + 3) (size := 1) (e := 9) wr #[] 0 (by omega) (by decide) rfl
              rw [hz0] at this
              exact this
            have hF1 : SrcV (wr.alloc (.cells #[] 9)) (.slice (some ⟨gz, oz, none⟩) j cn) j (nmF (ns.take j)) := by
              rw [← nmF_take]
              exact (HN.out.at (HB0.out.alloc (by omega) _)).front (by decide) (str1_len ns) j cn (by rw [List.length_map]; exact hj)
            have hF2 : (nmF (ns.take j)).length = j * 1 := by rw [nmF_len, List.length_take]; omega
            have hF3 : w.heap.size + 3 ≤ (wr.alloc (.cells #[] 9)).heap.size := by simp; omega
            have hj2 : (j : Int) ≤ (cn : Int) := by omega
            have hj3 : (j : Int) ≤ (ck : Int) := by have := HLEN.out; omega
            have hj4 : (j : Int) ≤ (ns.length : Int) := by omega
            have hj5 : (j : Int) ≤ (ks.length : Int) := by have := HLEN.out; omega
            have hj0 : (0 : Int) ≤ (j : Int) := by omega
            have hj6 : j ≤ us.length := by have := HLEN.out; have := HL.out; omega
            have hG2 : (kdF (us.take j)).length = j * 4 := by rw [kdF_len, List.length_take]; omega
            go_wp2_with (first
              | (at_builtin; (refine wpList_append_srcV rfl _ _ 27 rfl (w.heap.size + 3) 9 is (.string ⟨#[]⟩) 1 16 Try.underlying27 HIs.out HJs.out HKs.out HLs.out rfl (by decide) _ 0 [] rfl hL0 _ j _ rfl hF2 hF1 (nmF_one _) (by unfold maxLen; omega) (by omega) hF3 ?_); intro v' w3 hown hgr hfr; rw [Nat.zero_add, List.nil_append] at hown; obtain ⟨xa, xc, rfl⟩ := own_sliceZ hown; have hz3 := hgr.size; simp at hz3; have hb3 : Below (w.heap.size + 3) wr w3 := (Below.of_allocZ wr _ (by omega)).trans (below_grown hgr (fun g e => by have := own_some e; omega) hF3); obtain ⟨⟨p0, p1, p2, p3⟩, ⟨q0, q1, q2, q3⟩⟩ := four_blk ((hb3.block w.heap.size (by omega)).trans HT0.out); have hzw : w.heap.size < w3.heap.size := (by omega); have HO1 := Lib.hid hown; have HB3 := Lib.hid hb3; clear hown hgr hfr hb3 hF1 hF2 hF3 hL0)
              | (at_builtin; (refine wpList_append_srcV rfl _ _ 28 rfl (w.heap.size + 3) 30 ik (.agg #[.int .i64 0, .string ⟨#[]⟩, .slice none 0 0, .slice none 0 0]) 4 72 Try.underlying28 HIk.out HJk.out HKk.out HLk.out rfl (by decide) _ 0 [] rfl (World.ownsRow_lit w3 #[] 0 (by omega) (by decide) rfl) _ j _ rfl hG2 (put_src HK.out HB0.out HB3.out (by omega) (by omega) _ _ ck hj6) (kdF_one _) (by unfold maxLen; omega) (by omega) (by simp; omega) ?_); intro v' w4 hown hgr hfr; rw [Nat.zero_add, List.nil_append] at hown; obtain ⟨za, zc, rfl⟩ := own_sliceZ hown; have hz4 := hgr.size; simp at hz4; have hx4 := (HO1.out.alloc (.cells #[] 30)).kept hgr (own_ne (fun g e1 e2 => by have := own_some e2; have := (HO1.out.lt g e1).2; omega)); have hap : ApartV (.slice xa j xc) (.slice za j zc) := apart_new (fun g e => (HO1.out.lt g e).2) hfr (by simp); have hb4 : Below (w.heap.size + 3) wr w4 := HB3.out.trans ((Below.of_allocZ w3 _ (by omega)).trans (below_grown hgr (fun g e => by have := own_some e; omega) (by simp; omega))); have hxo := hown; have HZ4 := Lib.hid hxo; have HX4 := Lib.hid hx4; have HAP := Lib.hid hap; have HB4 := Lib.hid hb4; clear hown hgr hfr hb4 hx4 hap hxo))
            have hk1000 : ks.length ≤ 1000 := by have := HLEN.out; omega
            have ht4 := (HB4.out.block w.heap.size (by omega)).trans HT0.out
            have ho4 : Only w.heap.size wr w4 := Only.of_below (by rw [hz0]; exact HB4.out)
            have hw4 : w.heap.size + 3 ≤ w4.heap.size := by have := HB4.out.size; omega
            have hg5 : (nmF (ns.drop j)).length = (ns.length - j) * 1 := by rw [nmF_len, List.length_drop]
            have hg6 : (kdF (us.drop j)).length = (ks.length - j) * 4 := by rw [kdF_len, List.length_drop, HL.out]
            obtain ⟨A1, hA1⟩ : ∃ A1, A1 = Value.slice (if cn = j then (some ⟨gz, oz, none⟩) else Option.map (fun ad : Addr => ad.add (j * 1)) (some ⟨gz, oz, none⟩)) (ns.length - j) (cn - j) := ⟨_, rfl⟩
            obtain ⟨A2, hA2⟩ : ∃ A2, A2 = Value.slice (if ck = j then ak else Option.map (fun ad : Addr => ad.add (j * 4)) ak) (ks.length - j) (ck - j) := ⟨_, rfl⟩
            have hS1 : ∀ W, Below w.heap.size w W → SrcV W A1 (ns.length - j) (nmF (ns.drop j)) := fun W hW => by
              have := (HN.out.at hW).back (by decide) (str1_len ns) j cn (by rw [List.length_map]; exact hj) (by rw [List.length_map]; exact hc1)
              rw [List.length_map] at this
              rw [hA1, ← nmF_drop]
              exact this
            have hS2 : ∀ W, Below w.heap.size w W → SrcV W A2 (ks.length - j) (kdF (us.drop j)) := fun W hW => by
              have := (HK.out.at hW).back (by decide) (cells4_len us) j ck (by rw [List.length_map]; exact hj6) (by rw [List.length_map, HL.out]; exact hc2)
              rw [List.length_map, HL.out] at this
              rw [hA2, ← kdF_drop]
              exact this
            have HT4 := Lib.hid ht4; have HO4 := Lib.hid ho4; have HG5 := Lib.hid hg5; have HG6 := Lib.hid hg6; have HA1 := Lib.hid hA1; have HA2 := Lib.hid hA2; have HS1 := Lib.hid hS1; have HS2 := Lib.hid hS2
            clear ht4 ho4 hg5 hg6 hA1 hA2 hS1 hS2 p0 p1 p2 p3 q0 q1 q2 q3
            refine wp_region_by (PJ w4.drew wr (w.heap.size) (w.heap.size + 3) j k nm (.slice xa j xc) (.slice za j zc) (.slice (some ⟨gz, oz, none⟩) ns.length cn) (.slice ak ks.length ck) A1 A2 n cx (nmF (ns.take j)) (kdF (us.take j)) (nmF (ns.drop j)) (kdF (us.drop j)) (ns.length - j) (ks.length - j)) (by kernel_rfl) ?_ ?_ ?_
            · exact ⟨by simp, Closed.start _, fun i => match i with
                | 0 => .slice xa j xc
                | 1 => .string ⟨n.toArray⟩
                | 4 => .pointer (some ⟨w.heap.size, 2, none⟩)
                | 5 => .slice (some ⟨gz, oz, none⟩) ns.length cn
                | 6 => .int .i64 j
                | 7 => A1
                | 9 => .slice za j zc
                | 10 => .agg #[.int .i64 cx.k, .string cx.n, .slice cx.an cx.ln cx.cn, .slice cx.ak cx.lk cx.ck]
                | 13 => .pointer (some ⟨w.heap.size, 3, none⟩)
                | 14 => .slice ak ks.length ck
                | 15 => .int .i64 j
                | 16 => A2
                | 18 => .pointer (some ⟨w.heap.size, 2, none⟩)
                | 20 => .pointer (some ⟨w.heap.size, 3, none⟩)
                | _ => undef, Fr.start _ _ _, ⟨rfl, rfl, rfl, rfl, rfl, rfl, rfl, rfl, rfl, rfl, rfl, rfl, rfl, rfl⟩, by simp only [rep_getD]; exact ⟨Sd.start (v := w4.drew) _ _ _ (show w4.drew.ownsRow _ _ _ _ _ _ from HX4.out) _ _ _, Sd.start (v := w4.drew) _ _ _ (show w4.drew.ownsRow _ _ _ _ _ _ from HZ4.out) _ _ _, HAP.out, (fun h => by cases h), HT4.out, HO4.out.drew, Nat.le_refl _⟩⟩
            · intro listed b v i hJ hi
              obtain ⟨hsz, hC, vals, hF, hV, hM⟩ := hJ
              obtain ⟨hl1, hi22⟩ := not_up hsz hi
              obtain ⟨_, o, ho, hdeps⟩ := mem_ready.1 hi
              have hi22 : i < 22 := hi22
              have hvz : w4.heap.size ≤ v.heap.size := hM.size
              have h19 : listed.getD 19 false = true → listed.getD 5 false = true ∧ listed.getD 14 false = true := fun h => ⟨hC 19 _ rfl h ⟨5, .phase⟩ (by simp) rfl, hC 19 _ rfl h ⟨14, .phase⟩ (by simp) rfl⟩
              have h21 : listed.getD 21 false = true → listed.getD 19 false = true := fun h => hC 21 _ rfl h ⟨19, .chain⟩ (by simp) rfl
              have htb : i = 5 ∨ i = 14 → v.heap[w.heap.size]? = some (.cells #[.int .i64 k, .string ⟨nm.toArray⟩, .slice (some ⟨gz, oz, none⟩) ns.length cn, .slice ak ks.length ck] 30 (0, 0)) := fun hlt => by
                have a := hM.tat
                have l19 : listed.getD 19 false = false := by
                  cases hh : listed.getD 19 false
                  · rfl
                  · have := h19 hh
                    rcases hlt with rfl | rfl
                    · rw [hl1] at this; cases this.1
                    · rw [hl1] at this; cases this.2
                have l21 : listed.getD 21 false = false := by
                  cases hh : listed.getD 21 false
                  · rfl
                  · have := h21 hh; rw [l19] at this; cases this
                rw [l19, l21] at a
                exact a
              obtain rfl | rfl | rfl | rfl | rfl | rfl | rfl | rfl | rfl | rfl | rfl | rfl | rfl | rfl | rfl | rfl | rfl | rfl | rfl | rfl | rfl | rfl : i = 0 ∨ i = 1 ∨ i = 4 ∨ i = 5 ∨ i = 6 ∨ i = 7 ∨ i = 9 ∨ i = 10 ∨ i = 13 ∨ i = 14 ∨ i = 15 ∨ i = 16 ∨ i = 18 ∨ i = 20 ∨ i = 2 ∨ i = 11 ∨ i = 3 ∨ i = 8 ∨ i = 12 ∨ i = 17 ∨ i = 19 ∨ i = 21 := by omega
              · cases ho
                have e := hF.old_is 8 (by rfl) rfl
                refine PJ.quiet hsz hC hi hF hV hM (Slots.of (by rfl)) rfl rfl (by decide) ?_
                rw [hV.v0]
                simp [execOp, go_sem, e]
              · cases ho
                have e := hF.old_is 1 (by rfl) rfl
                refine PJ.quiet hsz hC hi hF hV hM (Slots.of (by rfl)) rfl rfl (by decide) ?_
                rw [hV.v1]
                simp [execOp, go_sem, e]
              · cases ho
                have e := hF.old_is 3 (by rfl) rfl
                refine PJ.quiet hsz hC hi hF hV hM (Slots.of (by rfl)) rfl rfl (by decide) ?_
                rw [hV.v4]
                simp [execOp, go_sem, e]
              · cases ho
                obtain ⟨⟨z0, z1, z2, z3⟩, _⟩ := four_blk (htb (by decide))
                have e := hF.up 4 57 rfl (hdeps ⟨4, .data⟩ (by simp) rfl)
                rw [hV.v4] at e
                refine PJ.quiet hsz hC hi hF hV hM (Slots.of (by rfl)) rfl rfl (by decide) ?_
                rw [hV.v5]
                simp [execOp, go_sem, e, z2]
              · cases ho
                have e := hF.old_is 7 (by rfl) rfl
                refine PJ.quiet hsz hC hi hF hV hM (Slots.of (by rfl)) rfl rfl (by decide) ?_
                rw [hV.v6]
                simp [execOp, go_sem, e]
              · cases ho
                have e := hF.up 5 58 rfl (hdeps ⟨5, .data⟩ (by simp) rfl)
                rw [hV.v5] at e
                have f := hF.up 6 59 rfl (hdeps ⟨6, .data⟩ (by simp) rfl)
                rw [hV.v6] at f
                refine PJ.quiet hsz hC hi hF hV hM (Slots.of (by rfl)) rfl rfl (by decide) ?_
                rw [hV.v7]
                rw [HA1.out]
                simp [execOp, go_sem, e, f, hj0, hj4]
              · cases ho
                have e := hF.old_is 9 (by rfl) rfl
                refine PJ.quiet hsz hC hi hF hV hM (Slots.of (by rfl)) rfl rfl (by decide) ?_
                rw [hV.v9]
                simp [execOp, go_sem, e]
              · cases ho
                have e := hF.old_is 5 (by rfl) rfl
                obtain ⟨⟨y0, y1, y2, y3⟩, _⟩ := four_blk (hM.only.blk HX0.out (by omega))
                refine PJ.quiet hsz hC hi hF hV hM (Slots.of (by rfl)) rfl rfl (by decide) ?_
                rw [hV.v10]
                simp [execOp, go_sem, e, y0, y1, y2, y3]
              · cases ho
                have e := hF.old_is 3 (by rfl) rfl
                refine PJ.quiet hsz hC hi hF hV hM (Slots.of (by rfl)) rfl rfl (by decide) ?_
                rw [hV.v13]
                simp [execOp, go_sem, e]
              · cases ho
                obtain ⟨⟨z0, z1, z2, z3⟩, _⟩ := four_blk (htb (by decide))
                have e := hF.up 13 66 rfl (hdeps ⟨13, .data⟩ (by simp) rfl)
                rw [hV.v13] at e
                refine PJ.quiet hsz hC hi hF hV hM (Slots.of (by rfl)) rfl rfl (by decide) ?_
                rw [hV.v14]
                simp [execOp, go_sem, e, z3]
              · cases ho
                have e := hF.old_is 7 (by rfl) rfl
                refine PJ.quiet hsz hC hi hF hV hM (Slots.of (by rfl)) rfl rfl (by decide) ?_
                rw [hV.v15]
                simp [execOp, go_sem, e]
              · cases ho
                have e := hF.up 14 67 rfl (hdeps ⟨14, .data⟩ (by simp) rfl)
                rw [hV.v14] at e
                have f := hF.up 15 68 rfl (hdeps ⟨15, .data⟩ (by simp) rfl)
                rw [hV.v15] at f
                refine PJ.quiet hsz hC hi hF hV hM (Slots.of (by rfl)) rfl rfl (by decide) ?_
                rw [hV.v16]
                rw [HA2.out]
                simp [execOp, go_sem, e, f, hj0, hj5]
              · cases ho
                have e := hF.old_is 3 (by rfl) rfl
                refine PJ.quiet hsz hC hi hF hV hM (Slots.of (by rfl)) rfl rfl (by decide) ?_
                rw [hV.v18]
                simp [execOp, go_sem, e]
              · cases ho
                have e := hF.old_is 3 (by rfl) rfl
                refine PJ.quiet hsz hC hi hF hV hM (Slots.of (by rfl)) rfl rfl (by decide) ?_
                rw [hV.v20]
                simp [execOp, go_sem, e]
              · cases ho
                have lx : listed.getD 3 false = false := by
                  cases hh : listed.getD 3 false
                  · rfl
                  · have := hC 3 _ rfl hh ⟨2, .data⟩ (by simp) rfl
                    rw [hl1] at this; cases this
                have ly : listed.getD 8 false = false := by
                  cases hh : listed.getD 8 false
                  · rfl
                  · have := hM.sn.imp hh; rw [lx] at this; cases this
                have e := hF.up 1 54 rfl (hdeps ⟨1, .data⟩ (by simp) rfl)
                rw [hV.v1] at e
                obtain ⟨vals', hvals⟩ : ∃ vals' : Nat → Value, vals' = fun q => if q = 2 then .slice (some ⟨v.heap.size, 0, none⟩) 1 1 else vals q := ⟨_, rfl⟩
                have hF' : Fr _ _ vals' listed b := hF.congr (fun i h => by rw [hvals]; exact if_neg (by rintro rfl; rw [hl1] at h; cases h))
                have hV' : PV (w.heap.size) j (.slice xa j xc) (.slice za j zc) (.slice (some ⟨gz, oz, none⟩) ns.length cn) (.slice ak ks.length ck) A1 A2 n cx vals' := by rw [hvals]; exact ⟨hV.v0, hV.v1, hV.v4, hV.v5, hV.v6, hV.v7, hV.v9, hV.v10, hV.v13, hV.v14, hV.v15, hV.v16, hV.v18, hV.v20⟩
                have hn : vals' 2 = .slice (some ⟨v.heap.size, 0, none⟩) 1 1 := by rw [hvals]; rfl
                have hsame : ∀ q, q ≠ 2 → vals' q = vals q := fun q hq => by rw [hvals]; exact if_neg hq
                refine wpOp_run (w' := v.alloc (.cells #[.string ⟨n.toArray⟩] 9)) (v := vals' 2) rfl rfl ?_ ⟨by simpa using hsz, hC.put hi, vals', hF'.put (Slots.of (by rfl)) hsz rfl, hV', ?_⟩
                · rw [hn]
                  simp [execOp, go_sem, e]
                · have gr : v.grownBy (v.alloc (.cells #[.string ⟨n.toArray⟩] 9)) none := World.grownBy_alloc v _ _
                  simp only [getD_setF, hl1, lx, ly, hsz]
                  have a := hM.sn
                  have c := hM.ap
                  rw [hl1, lx, ly] at a
                  rw [lx, ly] at c
                  have ap2 := hM.apt
                  rw [lx, ly] at ap2
                  exact ⟨(by rw [hn, hsame 3 (by decide), hsame 8 (by decide)]; exact a.lay hM.size), (by rw [hsame 11 (by decide), hsame 12 (by decide), hsame 17 (by decide)]; simpa using hM.sk.keep gr (fun g e => by cases e)), (by rw [hsame 3 (by decide), hsame 8 (by decide), hsame 12 (by decide), hsame 17 (by decide)]; simpa using c), (by rw [hsame 3 (by decide), hsame 8 (by decide), hsame 11 (by decide)]; simpa using ap2), (by rw [hsame 8 (by decide), hsame 17 (by decide)]; simpa using blk_allocZ hM.tat _), hM.only.grown gr (fun g e => by cases e), Nat.le_trans hM.size gr.size⟩
              · cases ho
                have lx : listed.getD 12 false = false := by
                  cases hh : listed.getD 12 false
                  · rfl
                  · have := hC 12 _ rfl hh ⟨11, .data⟩ (by simp) rfl
                    rw [hl1] at this; cases this
                have ly : listed.getD 17 false = false := by
                  cases hh : listed.getD 17 false
                  · rfl
                  · have := hM.sk.imp hh; rw [lx] at this; cases this
                have e := hF.up 10 63 rfl (hdeps ⟨10, .data⟩ (by simp) rfl)
                rw [hV.v10] at e
                obtain ⟨vals', hvals⟩ : ∃ vals' : Nat → Value, vals' = fun q => if q = 11 then .slice (some ⟨v.heap.size, 0, none⟩) 1 1 else vals q := ⟨_, rfl⟩
                have hF' : Fr _ _ vals' listed b := hF.congr (fun i h => by rw [hvals]; exact if_neg (by rintro rfl; rw [hl1] at h; cases h))
                have hV' : PV (w.heap.size) j (.slice xa j xc) (.slice za j zc) (.slice (some ⟨gz, oz, none⟩) ns.length cn) (.slice ak ks.length ck) A1 A2 n cx vals' := by rw [hvals]; exact ⟨hV.v0, hV.v1, hV.v4, hV.v5, hV.v6, hV.v7, hV.v9, hV.v10, hV.v13, hV.v14, hV.v15, hV.v16, hV.v18, hV.v20⟩
                have hn : vals' 11 = .slice (some ⟨v.heap.size, 0, none⟩) 1 1 := by rw [hvals]; rfl
                have hsame : ∀ q, q ≠ 11 → vals' q = vals q := fun q hq => by rw [hvals]; exact if_neg hq
                refine wpOp_run (w' := v.alloc (.cells #[.int .i64 cx.k, .string cx.n, .slice cx.an cx.ln cx.cn, .slice cx.ak cx.lk cx.ck] 30)) (v := vals' 11) rfl rfl ?_ ⟨by simpa using hsz, hC.put hi, vals', hF'.put (Slots.of (by rfl)) hsz rfl, hV', ?_⟩
                · rw [hn]
                  simp [execOp, go_sem, e]
                · have gr : v.grownBy (v.alloc (.cells #[.int .i64 cx.k, .string cx.n, .slice cx.an cx.ln cx.cn, .slice cx.ak cx.lk cx.ck] 30)) none := World.grownBy_alloc v _ _
                  simp only [getD_setF, hl1, lx, ly, hsz]
                  have a := hM.sk
                  have c := hM.ap
                  rw [hl1, lx, ly] at a
                  rw [lx, ly] at c
                  skip
                  skip
                  exact ⟨(by rw [hsame 2 (by decide), hsame 3 (by decide), hsame 8 (by decide)]; simpa using hM.sn.keep gr (fun g e => by cases e)), (by rw [hn, hsame 12 (by decide), hsame 17 (by decide)]; exact a.lay hM.size), (by rw [hsame 3 (by decide), hsame 8 (by decide), hsame 12 (by decide), hsame 17 (by decide)]; simpa using c), (by rw [hn, hsame 3 (by decide), hsame 8 (by decide)]; exact fun _ _ g e1 e2 => by have := own_some e2; have := (hM.sn.cur_lt g (by simpa using e1)).2; omega), (by rw [hsame 8 (by decide), hsame 17 (by decide)]; simpa using blk_allocZ hM.tat _), hM.only.grown gr (fun g e => by cases e), Nat.le_trans hM.size gr.size⟩
              · cases ho
                have la := hdeps ⟨0, .data⟩ (by simp) rfl
                have lb := hdeps ⟨2, .data⟩ (by simp) rfl
                have ly : listed.getD 8 false = false := by
                  cases hh : listed.getD 8 false
                  · rfl
                  · have := hM.sn.imp hh; rw [hl1] at this; cases this
                have a := hM.sn
                have c := hM.ap
                rw [lb, hl1, ly] at a
                rw [hl1, ly] at c
                obtain ⟨g, t1, t2, t3, t4⟩ := a.tmp rfl rfl
                have hx : ∀ g, (Value.slice xa j xc).ownBlock = some g → w.heap.size + 3 ≤ g := fun g e => ((a.r0 rfl).lt g e).1
                have hp : listed.getD 11 false = true → listed.getD 12 false = false → ApartV (.slice xa j xc) (vals 11) := fun h1 h2 => by have := hM.apt h1 h2; rw [hl1, ly] at this; exact this
                refine wpOp_wp rfl rfl (Sh.wp_append_fresh (.tmp 53) (.tmp 55) 27 rfl (w.heap.size + 3) 9 is (.string ⟨#[]⟩) 1 16 Try.underlying27 HIs.out HJs.out HKs.out HLs.out rfl (by decide) (.slice xa j xc) j (nmF (ns.take j)) ((hF.eval (i := 0) rfl la).trans hV.v0) (a.r0 rfl) ⟨g, 0, none⟩ 1 1 [.string ⟨n.toArray⟩] ((hF.eval (i := 2) rfl lb).trans t1) rfl (fun q u hu => by rw [addr_addZ]; simp only [World.cell?, t4]; simpa using hu) (by intro z hz; simp at hz; subst hz; rfl) (by unfold maxLen; omega) (by omega) (by omega) ?_)
                intro y w3 hown hgr hfr
                obtain ⟨vals', hvals⟩ : ∃ vals' : Nat → Value, vals' = fun q => if q = 3 then y else vals q := ⟨_, rfl⟩
                have hF' : Fr _ _ vals' listed b := hF.congr (fun i h => by rw [hvals]; exact if_neg (by rintro rfl; rw [hl1] at h; cases h))
                have hV' : PV (w.heap.size) j (.slice xa j xc) (.slice za j zc) (.slice (some ⟨gz, oz, none⟩) ns.length cn) (.slice ak ks.length ck) A1 A2 n cx vals' := by rw [hvals]; exact ⟨hV.v0, hV.v1, hV.v4, hV.v5, hV.v6, hV.v7, hV.v9, hV.v10, hV.v13, hV.v14, hV.v15, hV.v16, hV.v18, hV.v20⟩
                have hn : vals' 3 = y := by rw [hvals]; rfl
                have hsame : ∀ q, q ≠ 3 → vals' q = vals q := fun q hq => by rw [hvals]; exact if_neg hq
                have l19 : listed.getD 19 false = false := by
                  cases hh : listed.getD 19 false
                  · rfl
                  · have := hC 19 _ rfl hh ⟨17, .chain⟩ (by simp) rfl
                    have := hC 17 _ rfl this ⟨12, .data⟩ (by simp) rfl; have := hC 12 _ rfl this ⟨8, .chain⟩ (by simp) rfl; have := hM.sn.imp this; rw [hl1] at this; cases this
                have l21 : listed.getD 21 false = false := by
                  cases hh : listed.getD 21 false
                  · rfl
                  · have := h21 hh; rw [l19] at this; cases this
                refine ⟨by simpa using hsz, hC.put hi, vals', hn ▸ hF'.put (Slots.of (by rfl)) hsz rfl, hV', ?_⟩
                simp only [getD_setF, hl1, ly, lb, hsz, l19, l21]
                have ko := hM.sk.keep hgr (fun g e => ⟨c g e, fun h1 h2 => hp h1 h2 g e⟩)
                have ap : ApartV y (cur2 (.slice za j zc) (vals 12) (vals 17) (listed.getD 12 false) (listed.getD 17 false)) := ApartV.app c hfr (fun g hg => (hM.sk.cur_lt g hg).2)
                have at' : listed.getD 11 false = true → listed.getD 12 false = false → ApartV y (vals 11) := fun h1 h2 => ApartV.app (hp h1 h2) hfr (fun g hg => by obtain ⟨g', t1', _, t3', _⟩ := hM.sk.tmp h1 h2; rw [t1'] at hg; have := own_some hg; omega)
                have tt := (hgr.block (w.heap.size) (by omega) (fun e => by have := hx _ e.symm; omega)).trans hM.tat
                rw [l19, l21] at tt
                exact ⟨(by rw [hn, hsame 2 (by decide), hsame 8 (by decide)]; exact Sd.app1 hown), (by rw [hsame 11 (by decide), hsame 12 (by decide), hsame 17 (by decide)]; simpa using ko), (by rw [hn, hsame 8 (by decide), hsame 12 (by decide), hsame 17 (by decide)]; simpa [cur2] using ap), (by rw [hn, hsame 8 (by decide), hsame 11 (by decide)]; simpa [cur2] using at'), (by simpa using tt), hM.only.grown hgr (fun g e => .inr (by have := hx g e; omega)), Nat.le_trans hM.size hgr.size⟩
              · cases ho
                have la := hdeps ⟨3, .data⟩ (by simp) rfl
                have lb := hdeps ⟨7, .data⟩ (by simp) rfl
                have a := hM.sn
                have c := hM.ap
                rw [la, hl1] at a
                rw [la, hl1] at c
                have hx : ∀ g, (vals 3).ownBlock = some g → w.heap.size + 3 ≤ g := fun g e => ((a.r1 rfl rfl).lt g e).1
                have hp : listed.getD 11 false = true → listed.getD 12 false = false → ApartV (vals 3) (vals 11) := fun h1 h2 => by have := hM.apt h1 h2; rw [la, hl1] at this; exact this
                refine wpOp_wp rfl rfl (wp_append_srcV (.tmp 56) (.tmp 60) 27 rfl (w.heap.size + 3) 9 is (.string ⟨#[]⟩) 1 16 Try.underlying27 HIs.out HJs.out HKs.out HLs.out rfl (by decide) (vals 3) (j + 1) ((nmF (ns.take j)) ++ [.string ⟨n.toArray⟩]) (hF.eval (i := 3) rfl la) (a.r1 rfl rfl) A1 (ns.length - j) (nmF (ns.drop j)) ((hF.eval (i := 7) rfl lb).trans hV.v7) HG5.out (HS1.out v (HB0.out.trans (hM.only.below (Nat.le_refl _) (by omega)))) (nmF_one _) (by unfold maxLen; omega) (by omega) (by omega) ?_)
                intro y w3 hown hgr hfr
                obtain ⟨vals', hvals⟩ : ∃ vals' : Nat → Value, vals' = fun q => if q = 8 then y else vals q := ⟨_, rfl⟩
                have hF' : Fr _ _ vals' listed b := hF.congr (fun i h => by rw [hvals]; exact if_neg (by rintro rfl; rw [hl1] at h; cases h))
                have hV' : PV (w.heap.size) j (.slice xa j xc) (.slice za j zc) (.slice (some ⟨gz, oz, none⟩) ns.length cn) (.slice ak ks.length ck) A1 A2 n cx vals' := by rw [hvals]; exact ⟨hV.v0, hV.v1, hV.v4, hV.v5, hV.v6, hV.v7, hV.v9, hV.v10, hV.v13, hV.v14, hV.v15, hV.v16, hV.v18, hV.v20⟩
                have hn : vals' 8 = y := by rw [hvals]; rfl
                have hsame : ∀ q, q ≠ 8 → vals' q = vals q := fun q hq => by rw [hvals]; exact if_neg hq
                have l19 : listed.getD 19 false = false := by
                  cases hh : listed.getD 19 false
                  · rfl
                  · have := hC 19 _ rfl hh ⟨17, .chain⟩ (by simp) rfl
                    have := hC 17 _ rfl this ⟨12, .data⟩ (by simp) rfl; have := hC 12 _ rfl this ⟨8, .chain⟩ (by simp) rfl; rw [hl1] at this; cases this
                have l21 : listed.getD 21 false = false := by
                  cases hh : listed.getD 21 false
                  · rfl
                  · have := h21 hh; rw [l19] at this; cases this
                refine ⟨by simpa using hsz, hC.put hi, vals', hn ▸ hF'.put (Slots.of (by rfl)) hsz rfl, hV', ?_⟩
                simp only [getD_setF, hl1, la, hsz, l19, l21]
                have ko := hM.sk.keep hgr (fun g e => ⟨c g e, fun h1 h2 => hp h1 h2 g e⟩)
                have ap : ApartV y (cur2 (.slice za j zc) (vals 12) (vals 17) (listed.getD 12 false) (listed.getD 17 false)) := ApartV.app c hfr (fun g hg => (hM.sk.cur_lt g hg).2)
                have at' : listed.getD 11 false = true → listed.getD 12 false = false → ApartV y (vals 11) := fun h1 h2 => ApartV.app (hp h1 h2) hfr (fun g hg => by obtain ⟨g', t1', _, t3', _⟩ := hM.sk.tmp h1 h2; rw [t1'] at hg; have := own_some hg; omega)
                have tt := (hgr.block (w.heap.size) (by omega) (fun e => by have := hx _ e.symm; omega)).trans hM.tat
                rw [l19, l21] at tt
                exact ⟨(by rw [hn, hsame 2 (by decide), hsame 3 (by decide)]; exact Sd.app2 hown), (by rw [hsame 11 (by decide), hsame 12 (by decide), hsame 17 (by decide)]; simpa using ko), (by rw [hn, hsame 3 (by decide), hsame 12 (by decide), hsame 17 (by decide)]; simpa [cur2] using ap), (by rw [hn, hsame 3 (by decide), hsame 11 (by decide)]; simpa [cur2] using at'), (by simpa using tt), hM.only.grown hgr (fun g e => .inr (by have := hx g e; omega)), Nat.le_trans hM.size hgr.size⟩
              · cases ho
                have la := hdeps ⟨9, .data⟩ (by simp) rfl
                have lb := hdeps ⟨11, .data⟩ (by simp) rfl
                have lc := hdeps ⟨8, .chain⟩ (by simp) rfl
                have lc3 := hM.sn.imp lc
                have ly : listed.getD 17 false = false := by
                  cases hh : listed.getD 17 false
                  · rfl
                  · have := hM.sk.imp hh; rw [hl1] at this; cases this
                have a := hM.sk
                have c := hM.ap
                rw [lb, hl1, ly] at a
                rw [hl1, ly] at c
                obtain ⟨g, t1, t2, t3, t4⟩ := a.tmp rfl rfl
                have hx : ∀ g, (Value.slice za j zc).ownBlock = some g → w.heap.size + 3 ≤ g := fun g e => ((a.r0 rfl).lt g e).1
                refine wpOp_wp rfl rfl (Sh.wp_append_fresh (.tmp 62) (.tmp 64) 28 rfl (w.heap.size + 3) 30 ik (.agg #[.int .i64 0, .string ⟨#[]⟩, .slice none 0 0, .slice none 0 0]) 4 72 Try.underlying28 HIk.out HJk.out HKk.out HLk.out rfl (by decide) (.slice za j zc) j (kdF (us.take j)) ((hF.eval (i := 9) rfl la).trans hV.v9) (a.r0 rfl) ⟨g, 0, none⟩ 1 1 cx.cells ((hF.eval (i := 11) rfl lb).trans t1) rfl (fun q u hu => by rw [addr_addZ]; simp only [World.cell?, t4]; simpa using hu) (by exact C4.one cx) (by unfold maxLen; omega) (by omega) (by omega) ?_)
                intro y w3 hown hgr hfr
                obtain ⟨vals', hvals⟩ : ∃ vals' : Nat → Value, vals' = fun q => if q = 12 then y else vals q := ⟨_, rfl⟩
                have hF' : Fr _ _ vals' listed b := hF.congr (fun i h => by rw [hvals]; exact if_neg (by rintro rfl; rw [hl1] at h; cases h))
                have hV' : PV (w.heap.size) j (.slice xa j xc) (.slice za j zc) (.slice (some ⟨gz, oz, none⟩) ns.length cn) (.slice ak ks.length ck) A1 A2 n cx vals' := by rw [hvals]; exact ⟨hV.v0, hV.v1, hV.v4, hV.v5, hV.v6, hV.v7, hV.v9, hV.v10, hV.v13, hV.v14, hV.v15, hV.v16, hV.v18, hV.v20⟩
                have hn : vals' 12 = y := by rw [hvals]; rfl
                have hsame : ∀ q, q ≠ 12 → vals' q = vals q := fun q hq => by rw [hvals]; exact if_neg hq
                have l19 : listed.getD 19 false = false := by
                  cases hh : listed.getD 19 false
                  · rfl
                  · have := hC 19 _ rfl hh ⟨17, .chain⟩ (by simp) rfl
                    have := hM.sk.imp this; rw [hl1] at this; cases this
                have l21 : listed.getD 21 false = false := by
                  cases hh : listed.getD 21 false
                  · rfl
                  · have := h21 hh; rw [l19] at this; cases this
                refine ⟨by simpa using hsz, hC.put hi, vals', hn ▸ hF'.put (Slots.of (by rfl)) hsz rfl, hV', ?_⟩
                simp only [getD_setF, hl1, ly, lb, hsz, l19, l21]
                have ko := hM.sn.keep hgr (fun g e => ⟨c.symm g e, fun _ h2 => by rw [lc3] at h2; cases h2⟩)
                have ap : ApartV (cur2 (.slice xa j xc) (vals 3) (vals 8) (listed.getD 3 false) (listed.getD 8 false)) y := (ApartV.app c.symm hfr (fun g hg => (hM.sn.cur_lt g hg).2)).symm
                have tt := (hgr.block (w.heap.size) (by omega) (fun e => by have := hx _ e.symm; omega)).trans hM.tat
                rw [l19, l21] at tt
                exact ⟨(by rw [hsame 2 (by decide), hsame 3 (by decide), hsame 8 (by decide)]; simpa using ko), (by rw [hn, hsame 11 (by decide), hsame 17 (by decide)]; exact Sd.app1 hown), (by rw [hn, hsame 3 (by decide), hsame 8 (by decide), hsame 17 (by decide)]; simpa [cur2] using ap), (fun _ h => by simp at h), (by simpa using tt), hM.only.grown hgr (fun g e => .inr (by have := hx g e; omega)), Nat.le_trans hM.size hgr.size⟩
              · cases ho
                have la := hdeps ⟨12, .data⟩ (by simp) rfl
                have lb := hdeps ⟨16, .data⟩ (by simp) rfl
                have lc8 := hC 12 _ rfl (hdeps ⟨12, .data⟩ (by simp) rfl) ⟨8, .chain⟩ (by simp) rfl
                have lc3 := hM.sn.imp lc8
                have a := hM.sk
                have c := hM.ap
                rw [la, hl1] at a
                rw [la, hl1] at c
                have hx : ∀ g, (vals 12).ownBlock = some g → w.heap.size + 3 ≤ g := fun g e => ((a.r1 rfl rfl).lt g e).1
                refine wpOp_wp rfl rfl (wp_append_srcV (.tmp 65) (.tmp 69) 28 rfl (w.heap.size + 3) 30 ik (.agg #[.int .i64 0, .string ⟨#[]⟩, .slice none 0 0, .slice none 0 0]) 4 72 Try.underlying28 HIk.out HJk.out HKk.out HLk.out rfl (by decide) (vals 12) (j + 1) ((kdF (us.take j)) ++ cx.cells) (hF.eval (i := 12) rfl la) (a.r1 rfl rfl) A2 (ks.length - j) (kdF (us.drop j)) ((hF.eval (i := 16) rfl lb).trans hV.v16) HG6.out (HS2.out v (HB0.out.trans (hM.only.below (Nat.le_refl _) (by omega)))) (kdF_one _) (by unfold maxLen; omega) (by omega) (by omega) ?_)
                intro y w3 hown hgr hfr
                obtain ⟨vals', hvals⟩ : ∃ vals' : Nat → Value, vals' = fun q => if q = 17 then y else vals q := ⟨_, rfl⟩
                have hF' : Fr _ _ vals' listed b := hF.congr (fun i h => by rw [hvals]; exact if_neg (by rintro rfl; rw [hl1] at h; cases h))
                have hV' : PV (w.heap.size) j (.slice xa j xc) (.slice za j zc) (.slice (some ⟨gz, oz, none⟩) ns.length cn) (.slice ak ks.length ck) A1 A2 n cx vals' := by rw [hvals]; exact ⟨hV.v0, hV.v1, hV.v4, hV.v5, hV.v6, hV.v7, hV.v9, hV.v10, hV.v13, hV.v14, hV.v15, hV.v16, hV.v18, hV.v20⟩
                have hn : vals' 17 = y := by rw [hvals]; rfl
                have hsame : ∀ q, q ≠ 17 → vals' q = vals q := fun q hq => by rw [hvals]; exact if_neg hq
                have l19 : listed.getD 19 false = false := by
                  cases hh : listed.getD 19 false
                  · rfl
                  · have := hC 19 _ rfl hh ⟨17, .chain⟩ (by simp) rfl
                    rw [hl1] at this; cases this
                have l21 : listed.getD 21 false = false := by
                  cases hh : listed.getD 21 false
                  · rfl
                  · have := h21 hh; rw [l19] at this; cases this
                refine ⟨by simpa using hsz, hC.put hi, vals', hn ▸ hF'.put (Slots.of (by rfl)) hsz rfl, hV', ?_⟩
                simp only [getD_setF, hl1, la, hsz, l19, l21]
                have ko := hM.sn.keep hgr (fun g e => ⟨c.symm g e, fun _ h2 => by rw [lc3] at h2; cases h2⟩)
                have ap : ApartV (cur2 (.slice xa j xc) (vals 3) (vals 8) (listed.getD 3 false) (listed.getD 8 false)) y := (ApartV.app c.symm hfr (fun g hg => (hM.sn.cur_lt g hg).2)).symm
                have tt := (hgr.block (w.heap.size) (by omega) (fun e => by have := hx _ e.symm; omega)).trans hM.tat
                rw [l19, l21] at tt
                exact ⟨(by rw [hsame 2 (by decide), hsame 3 (by decide), hsame 8 (by decide)]; simpa using ko), (by rw [hn, hsame 11 (by decide), hsame 12 (by decide)]; exact Sd.app2 hown), (by rw [hn, hsame 3 (by decide), hsame 8 (by decide), hsame 12 (by decide)]; simpa [cur2] using ap), (fun _ h => by cases h), (by simpa using tt), hM.only.grown hgr (fun g e => .inr (by have := hx g e; omega)), Nat.le_trans hM.size hgr.size⟩
              · cases ho
                have l8 := hdeps ⟨8, .data⟩ (by simp) rfl
                have l17 := hdeps ⟨17, .chain⟩ (by simp) rfl
                have l3 := hM.sn.imp l8
                have l12 := hM.sk.imp l17
                have l21 : listed.getD 21 false = false := by
                  cases hh : listed.getD 21 false
                  · rfl
                  · have := h21 hh; rw [hl1] at this; cases this
                have tt := hM.tat
                rw [hl1, l21] at tt
                have a := hM.sn
                have a2 := hM.sk
                have c := hM.ap
                rw [l3, l8] at a c
                rw [l12, l17] at a2 c
                obtain ⟨va, vc, hv'⟩ := own_sliceZ (a.r2 rfl)
                obtain ⟨⟨z0, z1, z2, z3⟩, ⟨y0, y1, y2, y3⟩⟩ := four_blk tt
                have e := hF.up 18 71 rfl (hdeps ⟨18, .data⟩ (by simp) rfl)
                have f := hF.up 8 61 rfl (hdeps ⟨8, .data⟩ (by simp) rfl)
                rw [hV.v18] at e
                rw [hv'] at f
                have gr : v.grownBy (v.setCell ⟨w.heap.size, 2, none⟩ (.slice va (j + 1 + (ns.length - j)) vc)) (some (w.heap.size)) := (Only.refl (w.heap.size) v).setCell 2 _
                have k1 := a.keep gr (fun g e => by cases e; exact ⟨fun e2 => by have := (a.cur_lt _ e2).1; omega, fun _ h => by cases h⟩)
                have k2 := a2.keep gr (fun g e => by cases e; exact ⟨fun e2 => by have := (a2.cur_lt _ e2).1; omega, fun _ h => by cases h⟩)
                have tn := set_four2 tt (.slice va (j + 1 + (ns.length - j)) vc)
                refine wpOp_wp rfl rfl ?_
                unfold Oper.wp Oper.upon
                simp [execOp, go_sem, e, f, z2, y2]
                refine ⟨by simpa using hsz, hC.put hi, vals, hF.put (i := 19) (Slots.of (by rfl)) hsz rfl, hV, ?_⟩
                simp only [getD_setF, hl1, l3, l8, l12, l17, l21, hsz]
                exact ⟨by simpa using k1, by simpa using k2, by simpa using c, (fun _ h => by simp at h), by rw [hv']; simpa using tn, hM.only.grown gr (fun g e => by cases e; exact .inl rfl), Nat.le_trans hM.size gr.size⟩
              · cases ho
                have l19 := hdeps ⟨19, .chain⟩ (by simp) rfl
                have l17 := hdeps ⟨17, .data⟩ (by simp) rfl
                have l8 := hdeps ⟨8, .phase⟩ (by simp) rfl
                have l3 := hM.sn.imp l8
                have l12 := hM.sk.imp l17
                have tt := hM.tat
                rw [l19, hl1] at tt
                have a := hM.sn
                have a2 := hM.sk
                have c := hM.ap
                rw [l3, l8] at a c
                rw [l12, l17] at a2 c
                obtain ⟨va, vc, hv'⟩ := own_sliceZ (a2.r2 rfl)
                obtain ⟨⟨z0, z1, z2, z3⟩, ⟨y0, y1, y2, y3⟩⟩ := four_blk tt
                have e := hF.up 20 72 rfl (hdeps ⟨20, .data⟩ (by simp) rfl)
                have f := hF.up 17 70 rfl (hdeps ⟨17, .data⟩ (by simp) rfl)
                rw [hV.v20] at e
                rw [hv'] at f
                have gr : v.grownBy (v.setCell ⟨w.heap.size, 3, none⟩ (.slice va (j + 1 + (ks.length - j)) vc)) (some (w.heap.size)) := (Only.refl (w.heap.size) v).setCell 3 _
                have k1 := a.keep gr (fun g e => by cases e; exact ⟨fun e2 => by have := (a.cur_lt _ e2).1; omega, fun _ h => by cases h⟩)
                have k2 := a2.keep gr (fun g e => by cases e; exact ⟨fun e2 => by have := (a2.cur_lt _ e2).1; omega, fun _ h => by cases h⟩)
                have tn := set_four3 tt (.slice va (j + 1 + (ks.length - j)) vc)
                refine wpOp_wp rfl rfl ?_
                unfold Oper.wp Oper.upon
                simp [execOp, go_sem, e, f, z3, y3]
                refine ⟨by simpa using hsz, hC.put hi, vals, hF.put (i := 21) (Slots.of (by rfl)) hsz rfl, hV, ?_⟩
                simp only [getD_setF, hl1, l3, l8, l12, l17, l19, hsz]
                exact ⟨by simpa using k1, by simpa using k2, by simpa using c, (fun _ h => by simp at h), by rw [hv']; simpa using tn, hM.only.grown gr (fun g e => by cases e; exact .inl rfl), Nat.le_trans hM.size gr.size⟩
            · intro listed b v hJ hr
              obtain ⟨hsz, hC, vals, hF, hV, hM⟩ := hJ
              have hall := all_upB (by rfl) hsz hr
              have hb : b = putAll _ vals _ 22 := hF.done (Slots.of (by rfl)) hall
              rw [hall 2 (by decide), hall 3 (by decide), hall 8 (by decide), hall 11 (by decide), hall 12 (by decide), hall 17 (by decide), hall 19 (by decide), hall 21 (by decide)] at hM
              obtain ⟨va, vc, hv8⟩ := own_sliceZ (hM.sn.r2 rfl)
              obtain ⟨wa, wc, hv17⟩ := own_sliceZ (hM.sk.r2 rfl)
              have e1 := hM.sn.r2 rfl
              have e2 := hM.sk.r2 rfl
              have e4 := hM.tat
              simp only [if_true, hv8, hv17] at e4
              rw [hv8, nmF_ins] at e1
              rw [hv17, kdF_ins] at e2
              have e5 := hM.only
              have hvz : w4.heap.size ≤ v.heap.size := hM.size
              have hr4 := e5.blk HR0.out (by omega)
              obtain ⟨⟨z0, z1, z2, z3⟩, ⟨y0, y1, y2, y3⟩⟩ := four_blk e4
              obtain ⟨⟨r0, r1, r2, r3⟩, ⟨x0, x1, x2, x3⟩⟩ := four_blk hr4
              obtain ⟨cc, hcc⟩ : ∃ cc : C4, cc = ⟨k, ⟨nm.toArray⟩, va, j + 1 + (ns.length - j), vc, wa, j + 1 + (ks.length - j), wc⟩ := ⟨_, rfl⟩
              have hp := put4_at hr4 cc
              have hPO := put4_only v (w.heap.size + 1 + 1) cc
              have hbw : Below w.heap.size w (put4 v (w.heap.size + 1 + 1) cc) := HB0.out.trans ((e5.below (Nat.le_refl _) (by omega)).trans (hPO.below (by omega) (by omega)))
              have hr1 := e1.kept hPO (own_nb (fun g e => by have := (e1.lt g e).1; omega))
              have hr2 := e2.kept hPO (own_nb (fun g e => by have := (e2.lt g e).1; omega))
              have hmade := put_made (k := k) (nm := nm) (ns := ns.take j ++ [n] ++ ns.drop j) (ks := ks.take j ++ [x] ++ ks.drop j) (us := us.take j ++ [cx] ++ us.drop j) hr1 (by simp; omega) hr2 (by simp; omega) (by simp; have := HL.out; omega) (by omega) (ins_vals HL.out (fun i h h' => (HU.out i h h').growN hbw) (HX.out.growN hbw) j)
              rw [← hcc] at hmade
              obtain ⟨⟨v0, v1, v2, v3⟩, _⟩ := four_blk hp
              rw [hcc] at v0 v1 v2 v3
              subst hb
              unfold put4 at v0 v1 v2 v3
              simp only [putAll, hV.v0, hV.v1, hV.v4, hV.v5, hV.v6, hV.v7, hV.v9, hV.v10, hV.v13, hV.v14, hV.v15, hV.v16, hV.v18, hV.v20, hv8, hv17]
              simp [dstOf]
              have HMD := Lib.hid hmade; have HBW := Lib.hid hbw; have HCC := Lib.hid hcc
              clear hmade hbw hr1 hr2 hPO hp hr4 e1 e2 e4 e5 hM hF hV hC hv8 hv17 hall hr hsz hcc
              go_wp2
              refine bodyPost_ret (v := .agg #[.int .i64 k, .string ⟨nm.toArray⟩, .slice va (j + 1 + (ns.length - j)) vc, .slice wa (j + 1 + (ks.length - j)) wc]) (by simp [results, Try.results33, go_sem, v0, v1, v2, v3]) rfl ?_
              have hcc := HCC.out
              subst hcc
              rw [HPUT.out]
              exact ⟨_, rfl, HMD.out.1, HMD.out.2, HBW.out⟩
        · have hlt' : ∀ i (h : i < ns.length), i < j + 1 → Op.bytesLess ns[i] n = true := fun i h hi => by
            by_cases e : i = j
            · subst e; exact hb
            · exact hlt i h (by omega)
          have HLT := Lib.hid hlt'
          clear hlt hlt' hcell
          generalize ns[j] = a at *
          go_wp2
          go_roundw
          case rel => exact ⟨j + 1, by go_num, by omega, HLT.out, rfl⟩
          case measure => simp [intOf]; omega
      · have hje : j = ns.length := by omega
        have hp : posT ns n = j := posT_is hj (fun i h hi => hlt i h hi) (fun h => absurd h hjl)
        have hput : putT n x (.mk k nm ns ks) = .mk k nm (ns.take j ++ [n] ++ ns.drop j) (ks.take j ++ [x] ++ ks.drop j) := by rw [putT, hp, if_neg (by rw [List.getElem?_eq_none (by omega)]; simp)]
        have hjz : ¬ (j : Int) < (ns.length : Int) := by omega
        have HPUT := Lib.hid hput
        clear hput hp hlt hje
        have hL0 : (wr.alloc (.cells #[] 9)).ownsRow (w.heap.size + 3) 9 1 (.slice (some ⟨w.heap.size + 3, 0, none⟩) 0 0) 0 [] := by
          have := World.ownsRow_lit (base := w.heap.size + 3) (size := 1) (e := 9) wr #[] 0 (by omega) (by decide) rfl
          rw [hz0] at this
          exact this
        have hF1 : SrcV (wr.alloc (.cells #[] 9)) (.slice an j cn) j (nmF (ns.take j)) := by
          rw [← nmF_take]
          exact (HN.out.at (HB0.out.alloc (by omega) _)).front (by decide) (str1_len ns) j cn (by rw [List.length_map]; exact hj)
        have hF2 : (nmF (ns.take j)).length = j * 1 := by rw [nmF_len, List.length_take]; omega
        have hF3 : w.heap.size + 3 ≤ (wr.alloc (.cells #[] 9)).heap.size := by simp; omega
        have hj2 : (j : Int) ≤ (cn : Int) := by omega
        have hj3 : (j : Int) ≤ (ck : Int) := by have := HLEN.out; omega
        have hj4 : (j : Int) ≤ (ns.length : Int) := by omega
        have hj5 : (j : Int) ≤ (ks.length : Int) := by have := HLEN.out; omega
        have hj0 : (0 : Int) ≤ (j : Int) := by omega
        have hj6 : j ≤ us.length := by have := HLEN.out; have := HL.out; omega
        have hG2 : (kdF (us.take j)).length = j * 4 := by rw [kdF_len, List.length_take]; omega
        go_wp2_with (first
          | (at_builtin; (refine wpList_append_srcV rfl _ _ 27 rfl (w.heap.size + 3) 9 is (.string ⟨#[]⟩) 1 16 Try.underlying27 HIs.out HJs.out HKs.out HLs.out rfl (by decide) _ 0 [] rfl hL0 _ j _ rfl hF2 hF1 (nmF_one _) (by unfold maxLen; omega) (by omega) hF3 ?_); intro v' w3 hown hgr hfr; rw [Nat.zero_add, List.nil_append] at hown; obtain ⟨xa, xc, rfl⟩ := own_sliceZ hown; have hz3 := hgr.size; simp at hz3; have hb3 : Below (w.heap.size + 3) wr w3 := (Below.of_allocZ wr _ (by omega)).trans (below_grown hgr (fun g e => by have := own_some e; omega) hF3); obtain ⟨⟨p0, p1, p2, p3⟩, ⟨q0, q1, q2, q3⟩⟩ := four_blk ((hb3.block w.heap.size (by omega)).trans HT0.out); have hzw : w.heap.size < w3.heap.size := (by omega); have HO1 := Lib.hid hown; have HB3 := Lib.hid hb3; clear hown hgr hfr hb3 hF1 hF2 hF3 hL0)
          | (at_builtin; (refine wpList_append_srcV rfl _ _ 28 rfl (w.heap.size + 3) 30 ik (.agg #[.int .i64 0, .string ⟨#[]⟩, .slice none 0 0, .slice none 0 0]) 4 72 Try.underlying28 HIk.out HJk.out HKk.out HLk.out rfl (by decide) _ 0 [] rfl (World.ownsRow_lit w3 #[] 0 (by omega) (by decide) rfl) _ j _ rfl hG2 (put_src HK.out HB0.out HB3.out (by omega) (by omega) _ _ ck hj6) (kdF_one _) (by unfold maxLen; omega) (by omega) (by simp; omega) ?_); intro v' w4 hown hgr hfr; rw [Nat.zero_add, List.nil_append] at hown; obtain ⟨za, zc, rfl⟩ := own_sliceZ hown; have hz4 := hgr.size; simp at hz4; have hx4 := (HO1.out.alloc (.cells #[] 30)).kept hgr (own_ne (fun g e1 e2 => by have := own_some e2; have := (HO1.out.lt g e1).2; omega)); have hap : ApartV (.slice xa j xc) (.slice za j zc) := apart_new (fun g e => (HO1.out.lt g e).2) hfr (by simp); have hb4 : Below (w.heap.size + 3) wr w4 := HB3.out.trans ((Below.of_allocZ w3 _ (by omega)).trans (below_grown hgr (fun g e => by have := own_some e; omega) (by simp; omega))); have hxo := hown; have HZ4 := Lib.hid hxo; have HX4 := Lib.hid hx4; have HAP := Lib.hid hap; have HB4 := Lib.hid hb4; clear hown hgr hfr hb4 hx4 hap hxo))
        have hk1000 : ks.length ≤ 1000 := by have := HLEN.out; omega
        have ht4 := (HB4.out.block w.heap.size (by omega)).trans HT0.out
        have ho4 : Only w.heap.size wr w4 := Only.of_below (by rw [hz0]; exact HB4.out)
        have hw4 : w.heap.size + 3 ≤ w4.heap.size := by have := HB4.out.size; omega
        have hg5 : (nmF (ns.drop j)).length = (ns.length - j) * 1 := by rw [nmF_len, List.length_drop]
        have hg6 : (kdF (us.drop j)).length = (ks.length - j) * 4 := by rw [kdF_len, List.length_drop, HL.out]
        obtain ⟨A1, hA1⟩ : ∃ A1, A1 = Value.slice (if cn = j then an else Option.map (fun ad : Addr => ad.add (j * 1)) an) (ns.length - j) (cn - j) := ⟨_, rfl⟩
        obtain ⟨A2, hA2⟩ : ∃ A2, A2 = Value.slice (if ck = j then ak else Option.map (fun ad : Addr => ad.add (j * 4)) ak) (ks.length - j) (ck - j) := ⟨_, rfl⟩
        have hS1 : ∀ W, Below w.heap.size w W → SrcV W A1 (ns.length - j) (nmF (ns.drop j)) := fun W hW => by
          have := (HN.out.at hW).back (by decide) (str1_len ns) j cn (by rw [List.length_map]; exact hj) (by rw [List.length_map]; exact hc1)
          rw [List.length_map] at this
          rw [hA1, ← nmF_drop]
          exact this
        have hS2 : ∀ W, Below w.heap.size w W → SrcV W A2 (ks.length - j) (kdF (us.drop j)) := fun W hW => by
          have := (HK.out.at hW).back (by decide) (cells4_len us) j ck (by rw [List.length_map]; exact hj6) (by rw [List.length_map, HL.out]; exact hc2)
          rw [List.length_map, HL.out] at this
          rw [hA2, ← kdF_drop]
          exact this
        have HT4 := Lib.hid ht4; have HO4 := Lib.hid ho4; have HG5 := Lib.hid hg5; have HG6 := Lib.hid hg6; have HA1 := Lib.hid hA1; have HA2 := Lib.hid hA2; have HS1 := Lib.hid hS1; have HS2 := Lib.hid hS2
        clear ht4 ho4 hg5 hg6 hA1 hA2 hS1 hS2 p0 p1 p2 p3 q0 q1 q2 q3
        refine wp_region_by (PJ w4.drew wr (w.heap.size) (w.heap.size + 3) j k nm (.slice xa j xc) (.slice za j zc) (.slice an ns.length cn) (.slice ak ks.length ck) A1 A2 n cx (nmF (ns.take j)) (kdF (us.take j)) (nmF (ns.drop j)) (kdF (us.drop j)) (ns.length - j) (ks.length - j)) (by kernel_rfl) ?_ ?_ ?_
        · exact ⟨by simp, Closed.start _, fun i => match i with
            | 0 => .slice xa j xc
            | 1 => .string ⟨n.toArray⟩
            | 4 => .pointer (some ⟨w.heap.size, 2, none⟩)
            | 5 => .slice an ns.length cn
            | 6 => .int .i64 j
            | 7 => A1
            | 9 => .slice za j zc
            | 10 => .agg #[.int .i64 cx.k, .string cx.n, .slice cx.an cx.ln cx.cn, .slice cx.ak cx.lk cx.ck]
            | 13 => .pointer (some ⟨w.heap.size, 3, none⟩)
            | 14 => .slice ak ks.length ck
            | 15 => .int .i64 j
            | 16 => A2
            | 18 => .pointer (some ⟨w.heap.size, 2, none⟩)
            | 20 => .pointer (some ⟨w.heap.size, 3, none⟩)
            | _ => undef, Fr.start _ _ _, ⟨rfl, rfl, rfl, rfl, rfl, rfl, rfl, rfl, rfl, rfl, rfl, rfl, rfl, rfl⟩, by simp only [rep_getD]; exact ⟨Sd.start (v := w4.drew) _ _ _ (show w4.drew.ownsRow _ _ _ _ _ _ from HX4.out) _ _ _, Sd.start (v := w4.drew) _ _ _ (show w4.drew.ownsRow _ _ _ _ _ _ from HZ4.out) _ _ _, HAP.out, (fun h => by cases h), HT4.out, HO4.out.drew, Nat.le_refl _⟩⟩
        · intro listed b v i hJ hi
          obtain ⟨hsz, hC, vals, hF, hV, hM⟩ := hJ
          obtain ⟨hl1, hi22⟩ := not_up hsz hi
          obtain ⟨_, o, ho, hdeps⟩ := mem_ready.1 hi
          have hi22 : i < 22 := hi22
          have hvz : w4.heap.size ≤ v.heap.size := hM.size
          have h19 : listed.getD 19 false = true → listed.getD 5 false = true ∧ listed.getD 14 false = true := fun h => ⟨hC 19 _ rfl h ⟨5, .phase⟩ (by simp) rfl, hC 19 _ rfl h ⟨14, .phase⟩ (by simp) rfl⟩
          have h21 : listed.getD 21 false = true → listed.getD 19 false = true := fun h => hC 21 _ rfl h ⟨19, .chain⟩ (by simp) rfl
          have htb : i = 5 ∨ i = 14 → v.heap[w.heap.size]? = some (.cells #[.int .i64 k, .string ⟨nm.toArray⟩, .slice an ns.length cn, .slice ak ks.length ck] 30 (0, 0)) := fun hlt => by
            have a := hM.tat
            have l19 : listed.getD 19 false = false := by
              cases hh : listed.getD 19 false
              · rfl
              · have := h19 hh
                rcases hlt with rfl | rfl
                · rw [hl1] at this; cases this.1
                · rw [hl1] at this; cases this.2
            have l21 : listed.getD 21 false = false := by
              cases hh : listed.getD 21 false
              · rfl
              · have := h21 hh; rw [l19] at this; cases this
            rw [l19, l21] at a
            exact a
          obtain rfl | rfl | rfl | rfl | rfl | rfl | rfl | rfl | rfl | rfl | rfl | rfl | rfl | rfl | rfl | rfl | rfl | rfl | rfl | rfl | rfl | rfl : i = 0 ∨ i = 1 ∨ i = 4 ∨ i = 5 ∨ i = 6 ∨ i = 7 ∨ i = 9 ∨ i = 10 ∨ i = 13 ∨ i = 14 ∨ i = 15 ∨ i = 16 ∨ i = 18 ∨ i = 20 ∨ i = 2 ∨ i = 11 ∨ i = 3 ∨ i = 8 ∨ i = 12 ∨ i = 17 ∨ i = 19 ∨ i = 21 := by omega
          · cases ho
            have e := hF.old_is 8 (by rfl) rfl
            refine PJ.quiet hsz hC hi hF hV hM (Slots.of (by rfl)) rfl rfl (by decide) ?_
            rw [hV.v0]
            simp [execOp, go_sem, e]
          · cases ho
            have e := hF.old_is 1 (by rfl) rfl
            refine PJ.quiet hsz hC hi hF hV hM (Slots.of (by rfl)) rfl rfl (by decide) ?_
            rw [hV.v1]
            simp [execOp, go_sem, e]
          · cases ho
            have e := hF.old_is 3 (by rfl) rfl
            refine PJ.quiet hsz hC hi hF hV hM (Slots.of (by rfl)) rfl rfl (by decide) ?_
            rw [hV.v4]
            simp [execOp, go_sem, e]
          · cases ho
            obtain ⟨⟨z0, z1, z2, z3⟩, _⟩ := four_blk (htb (by decide))
            have e := hF.up 4 57 rfl (hdeps ⟨4, .data⟩ (by simp) rfl)
            rw [hV.v4] at e
            refine PJ.quiet hsz hC hi hF hV hM (Slots.of (by rfl)) rfl rfl (by decide) ?_
            rw [hV.v5]
            simp [execOp, go_sem, e, z2]
          · cases ho
            have e := hF.old_is 7 (by rfl) rfl
            refine PJ.quiet hsz hC hi hF hV hM (Slots.of (by rfl)) rfl rfl (by decide) ?_
            rw [hV.v6]
            simp [execOp, go_sem, e]
          · cases ho
            have e := hF.up 5 58 rfl (hdeps ⟨5, .data⟩ (by simp) rfl)
            rw [hV.v5] at e
            have f := hF.up 6 59 rfl (hdeps ⟨6, .data⟩ (by simp) rfl)
            rw [hV.v6] at f
            refine PJ.quiet hsz hC hi hF hV hM (Slots.of (by rfl)) rfl rfl (by decide) ?_
            rw [hV.v7]
            rw [HA1.out]
            simp [execOp, go_sem, e, f, hj0, hj4]
          · cases ho
            have e := hF.old_is 9 (by rfl) rfl
            refine PJ.quiet hsz hC hi hF hV hM (Slots.of (by rfl)) rfl rfl (by decide) ?_
            rw [hV.v9]
            simp [execOp, go_sem, e]
          · cases ho
            have e := hF.old_is 5 (by rfl) rfl
            obtain ⟨⟨y0, y1, y2, y3⟩, _⟩ := four_blk (hM.only.blk HX0.out (by omega))
            refine PJ.quiet hsz hC hi hF hV hM (Slots.of (by rfl)) rfl rfl (by decide) ?_
            rw [hV.v10]
            simp [execOp, go_sem, e, y0, y1, y2, y3]
          · cases ho
            have e := hF.old_is 3 (by rfl) rfl
            refine PJ.quiet hsz hC hi hF hV hM (Slots.of (by rfl)) rfl rfl (by decide) ?_
            rw [hV.v13]
            simp [execOp, go_sem, e]
          · cases ho
            obtain ⟨⟨z0, z1, z2, z3⟩, _⟩ := four_blk (htb (by decide))
            have e := hF.up 13 66 rfl (hdeps ⟨13, .data⟩ (by simp) rfl)
            rw [hV.v13] at e
            refine PJ.quiet hsz hC hi hF hV hM (Slots.of (by rfl)) rfl rfl (by decide) ?_
            rw [hV.v14]
            simp [execOp, go_sem, e, z3]
          · cases ho
            have e := hF.old_is 7 (by rfl) rfl
            refine PJ.quiet hsz hC hi hF hV hM (Slots.of (by rfl)) rfl rfl (by decide) ?_
            rw [hV.v15]
            simp [execOp, go_sem, e]
          · cases ho
            have e := hF.up 14 67 rfl (hdeps ⟨14, .data⟩ (by simp) rfl)
            rw [hV.v14] at e
            have f := hF.up 15 68 rfl (hdeps ⟨15, .data⟩ (by simp) rfl)
            rw [hV.v15] at f
            refine PJ.quiet hsz hC hi hF hV hM (Slots.of (by rfl)) rfl rfl (by decide) ?_
            rw [hV.v16]
            rw [HA2.out]
            simp [execOp, go_sem, e, f, hj0, hj5]
          · cases ho
            have e := hF.old_is 3 (by rfl) rfl
            refine PJ.quiet hsz hC hi hF hV hM (Slots.of (by rfl)) rfl rfl (by decide) ?_
            rw [hV.v18]
            simp [execOp, go_sem, e]
          · cases ho
            have e := hF.old_is 3 (by rfl) rfl
            refine PJ.quiet hsz hC hi hF hV hM (Slots.of (by rfl)) rfl rfl (by decide) ?_
            rw [hV.v20]
            simp [execOp, go_sem, e]
          · cases ho
            have lx : listed.getD 3 false = false := by
              cases hh : listed.getD 3 false
              · rfl
              · have := hC 3 _ rfl hh ⟨2, .data⟩ (by simp) rfl
                rw [hl1] at this; cases this
            have ly : listed.getD 8 false = false := by
              cases hh : listed.getD 8 false
              · rfl
              · have := hM.sn.imp hh; rw [lx] at this; cases this
            have e := hF.up 1 54 rfl (hdeps ⟨1, .data⟩ (by simp) rfl)
            rw [hV.v1] at e
            obtain ⟨vals', hvals⟩ : ∃ vals' : Nat → Value, vals' = fun q => if q = 2 then .slice (some ⟨v.heap.size, 0, none⟩) 1 1 else vals q := ⟨_, rfl⟩
            have hF' : Fr _ _ vals' listed b := hF.congr (fun i h => by rw [hvals]; exact if_neg (by rintro rfl; rw [hl1] at h; cases h))
            have hV' : PV (w.heap.size) j (.slice xa j xc) (.slice za j zc) (.slice an ns.length cn) (.slice ak ks.length ck) A1 A2 n cx vals' := by rw [hvals]; exact ⟨hV.v0, hV.v1, hV.v4, hV.v5, hV.v6, hV.v7, hV.v9, hV.v10, hV.v13, hV.v14, hV.v15, hV.v16, hV.v18, hV.v20⟩
            have hn : vals' 2 = .slice (some ⟨v.heap.size, 0, none⟩) 1 1 := by rw [hvals]; rfl
            have hsame : ∀ q, q ≠ 2 → vals' q = vals q := fun q hq => by rw [hvals]; exact if_neg hq
            refine wpOp_run (w' := v.alloc (.cells #[.string ⟨n.toArray⟩] 9)) (v := vals' 2) rfl rfl ?_ ⟨by simpa using hsz, hC.put hi, vals', hF'.put (Slots.of (by rfl)) hsz rfl, hV', ?_⟩
            · rw [hn]
              simp [execOp, go_sem, e]
            · have gr : v.grownBy (v.alloc (.cells #[.string ⟨n.toArray⟩] 9)) none := World.grownBy_alloc v _ _
              simp only [getD_setF, hl1, lx, ly, hsz]
              have a := hM.sn
              have c := hM.ap
              rw [hl1, lx, ly] at a
              rw [lx, ly] at c
              have ap2 := hM.apt
              rw [lx, ly] at ap2
              exact ⟨(by rw [hn, hsame 3 (by decide), hsame 8 (by decide)]; exact a.lay hM.size), (by rw [hsame 11 (by decide), hsame 12 (by decide), hsame 17 (by decide)]; simpa using hM.sk.keep gr (fun g e => by cases e)), (by rw [hsame 3 (by decide), hsame 8 (by decide), hsame 12 (by decide), hsame 17 (by decide)]; simpa using c), (by rw [hsame 3 (by decide), hsame 8 (by decide), hsame 11 (by decide)]; simpa using ap2), (by rw [hsame 8 (by decide), hsame 17 (by decide)]; simpa using blk_allocZ hM.tat _), hM.only.grown gr (fun g e => by cases e), Nat.le_trans hM.size gr.size⟩
          · cases ho
            have lx : listed.getD 12 false = false := by
              cases hh : listed.getD 12 false
              · rfl
              · have := hC 12 _ rfl hh ⟨11, .data⟩ (by simp) rfl
                rw [hl1] at this; cases this
            have ly : listed.getD 17 false = false := by
              cases hh : listed.getD 17 false
              · rfl
              · have := hM.sk.imp hh; rw [lx] at this; cases this
            have e := hF.up 10 63 rfl (hdeps ⟨10, .data⟩ (by simp) rfl)
            rw [hV.v10] at e
            obtain ⟨vals', hvals⟩ : ∃ vals' : Nat → Value, vals' = fun q => if q = 11 then .slice (some ⟨v.heap.size, 0, none⟩) 1 1 else vals q := ⟨_, rfl⟩
            have hF' : Fr _ _ vals' listed b := hF.congr (fun i h => by rw [hvals]; exact if_neg (by rintro rfl; rw [hl1] at h; cases h))
            have hV' : PV (w.heap.size) j (.slice xa j xc) (.slice za j zc) (.slice an ns.length cn) (.slice ak ks.length ck) A1 A2 n cx vals' := by rw [hvals]; exact ⟨hV.v0, hV.v1, hV.v4, hV.v5, hV.v6, hV.v7, hV.v9, hV.v10, hV.v13, hV.v14, hV.v15, hV.v16, hV.v18, hV.v20⟩
            have hn : vals' 11 = .slice (some ⟨v.heap.size, 0, none⟩) 1 1 := by rw [hvals]; rfl
            have hsame : ∀ q, q ≠ 11 → vals' q = vals q := fun q hq => by rw [hvals]; exact if_neg hq
            refine wpOp_run (w' := v.alloc (.cells #[.int .i64 cx.k, .string cx.n, .slice cx.an cx.ln cx.cn, .slice cx.ak cx.lk cx.ck] 30)) (v := vals' 11) rfl rfl ?_ ⟨by simpa using hsz, hC.put hi, vals', hF'.put (Slots.of (by rfl)) hsz rfl, hV', ?_⟩
            · rw [hn]
              simp [execOp, go_sem, e]
            · have gr : v.grownBy (v.alloc (.cells #[.int .i64 cx.k, .string cx.n, .slice cx.an cx.ln cx.cn, .slice cx.ak cx.lk cx.ck] 30)) none := World.grownBy_alloc v _ _
              simp only [getD_setF, hl1, lx, ly, hsz]
              have a := hM.sk
              have c := hM.ap
              rw [hl1, lx, ly] at a
              rw [lx, ly] at c
              skip
              skip
              exact ⟨(by rw [hsame 2 (by decide), hsame 3 (by decide), hsame 8 (by decide)]; simpa using hM.sn.keep gr (fun g e => by cases e)), (by rw [hn, hsame 12 (by decide), hsame 17 (by decide)]; exact a.lay hM.size), (by rw [hsame 3 (by decide), hsame 8 (by decide), hsame 12 (by decide), hsame 17 (by decide)]; simpa using c), (by rw [hn, hsame 3 (by decide), hsame 8 (by decide)]; exact fun _ _ g e1 e2 => by have := own_some e2; have := (hM.sn.cur_lt g (by simpa using e1)).2; omega), (by rw [hsame 8 (by decide), hsame 17 (by decide)]; simpa using blk_allocZ hM.tat _), hM.only.grown gr (fun g e => by cases e), Nat.le_trans hM.size gr.size⟩
          · cases ho
            have la := hdeps ⟨0, .data⟩ (by simp) rfl
            have lb := hdeps ⟨2, .data⟩ (by simp) rfl
            have ly : listed.getD 8 false = false := by
              cases hh : listed.getD 8 false
              · rfl
              · have := hM.sn.imp hh; rw [hl1] at this; cases this
            have a := hM.sn
            have c := hM.ap
            rw [lb, hl1, ly] at a
            rw [hl1, ly] at c
            obtain ⟨g, t1, t2, t3, t4⟩ := a.tmp rfl rfl
            have hx : ∀ g, (Value.slice xa j xc).ownBlock = some g → w.heap.size + 3 ≤ g := fun g e => ((a.r0 rfl).lt g e).1
            have hp : listed.getD 11 false = true → listed.getD 12 false = false → ApartV (.slice xa j xc) (vals 11) := fun h1 h2 => by have := hM.apt h1 h2; rw [hl1, ly] at this; exact this
            refine wpOp_wp rfl rfl (Sh.wp_append_fresh (.tmp 53) (.tmp 55) 27 rfl (w.heap.size + 3) 9 is (.string ⟨#[]⟩) 1 16 Try.underlying27 HIs.out HJs.out HKs.out HLs.out rfl (by decide) (.slice xa j xc) j (nmF (ns.take j)) ((hF.eval (i := 0) rfl la).trans hV.v0) (a.r0 rfl) ⟨g, 0, none⟩ 1 1 [.string ⟨n.toArray⟩] ((hF.eval (i := 2) rfl lb).trans t1) rfl (fun q u hu => by rw [addr_addZ]; simp only [World.cell?, t4]; simpa using hu) (by intro z hz; simp at hz; subst hz; rfl) (by unfold maxLen; omega) (by omega) (by omega) ?_)
            intro y w3 hown hgr hfr
            obtain ⟨vals', hvals⟩ : ∃ vals' : Nat → Value, vals' = fun q => if q = 3 then y else vals q := ⟨_, rfl⟩
            have hF' : Fr _ _ vals' listed b := hF.congr (fun i h => by rw [hvals]; exact if_neg (by rintro rfl; rw [hl1] at h; cases h))
            have hV' : PV (w.heap.size) j (.slice xa j xc) (.slice za j zc) (.slice an ns.length cn) (.slice ak ks.length ck) A1 A2 n cx vals' := by rw [hvals]; exact ⟨hV.v0, hV.v1, hV.v4, hV.v5, hV.v6, hV.v7, hV.v9, hV.v10, hV.v13, hV.v14, hV.v15, hV.v16, hV.v18, hV.v20⟩
            have hn : vals' 3 = y := by rw [hvals]; rfl
            have hsame : ∀ q, q ≠ 3 → vals' q = vals q := fun q hq => by rw [hvals]; exact if_neg hq
            have l19 : listed.getD 19 false = false := by
              cases hh : listed.getD 19 false
              · rfl
              · have := hC 19 _ rfl hh ⟨17, .chain⟩ (by simp) rfl
                have := hC 17 _ rfl this ⟨12, .data⟩ (by simp) rfl; have := hC 12 _ rfl this ⟨8, .chain⟩ (by simp) rfl; have := hM.sn.imp this; rw [hl1] at this; cases this
            have l21 : listed.getD 21 false = false := by
              cases hh : listed.getD 21 false
              · rfl
              · have := h21 hh; rw [l19] at this; cases this
            refine ⟨by simpa using hsz, hC.put hi, vals', hn ▸ hF'.put (Slots.of (by rfl)) hsz rfl, hV', ?_⟩
            simp only [getD_setF, hl1, ly, lb, hsz, l19, l21]
            have ko := hM.sk.keep hgr (fun g e => ⟨c g e, fun h1 h2 => hp h1 h2 g e⟩)
            have ap : ApartV y (cur2 (.slice za j zc) (vals 12) (vals 17) (listed.getD 12 false) (listed.getD 17 false)) := ApartV.app c hfr (fun g hg => (hM.sk.cur_lt g hg).2)
            have at' : listed.getD 11 false = true → listed.getD 12 false = false → ApartV y (vals 11) := fun h1 h2 => ApartV.app (hp h1 h2) hfr (fun g hg => by obtain ⟨g', t1', _, t3', _⟩ := hM.sk.tmp h1 h2; rw [t1'] at hg; have := own_some hg; omega)
            have tt := (hgr.block (w.heap.size) (by omega) (fun e => by have := hx _ e.symm; omega)).trans hM.tat
            rw [l19, l21] at tt
            exact ⟨(by rw [hn, hsame 2 (by decide), hsame 8 (by decide)]; exact Sd.app1 hown), (by rw [hsame 11 (by decide), hsame 12 (by decide), hsame 17 (by decide)]; simpa using ko), (by rw [hn, hsame 8 (by decide), hsame 12 (by decide), hsame 17 (by decide)]; simpa [cur2] using ap), (by rw [hn, hsame 8 (by decide), hsame 11 (by decide)]; simpa [cur2] using at'), (by simpa using tt), hM.only.grown hgr (fun g e => .inr (by have := hx g e; omega)), Nat.le_trans hM.size hgr.size⟩
          · cases ho
            have la := hdeps ⟨3, .data⟩ (by simp) rfl
            have lb := hdeps ⟨7, .data⟩ (by simp) rfl
            have a := hM.sn
            have c := hM.ap
            rw [la, hl1] at a
            rw [la, hl1] at c
            have hx : ∀ g, (vals 3).ownBlock = some g → w.heap.size + 3 ≤ g := fun g e => ((a.r1 rfl rfl).lt g e).1
            have hp : listed.getD 11 false = true → listed.getD 12 false = false → ApartV (vals 3) (vals 11) := fun h1 h2 => by have := hM.apt h1 h2; rw [la, hl1] at this; exact this
            refine wpOp_wp rfl rfl (wp_append_srcV (.tmp 56) (.tmp 60) 27 rfl (w.heap.size + 3) 9 is (.string ⟨#[]⟩) 1 16 Try.underlying27 HIs.out HJs.out HKs.out HLs.out rfl (by decide) (vals 3) (j + 1) ((nmF (ns.take j)) ++ [.string ⟨n.toArray⟩]) (hF.eval (i := 3) rfl la) (a.r1 rfl rfl) A1 (ns.length - j) (nmF (ns.drop j)) ((hF.eval (i := 7) rfl lb).trans hV.v7) HG5.out (HS1.out v (HB0.out.trans (hM.only.below (Nat.le_refl _) (by omega)))) (nmF_one _) (by unfold maxLen; omega) (by omega) (by omega) ?_)
            intro y w3 hown hgr hfr
            obtain ⟨vals', hvals⟩ : ∃ vals' : Nat → Value, vals' = fun q => if q = 8 then y else vals q := ⟨_, rfl⟩
            have hF' : Fr _ _ vals' listed b := hF.congr (fun i h => by rw [hvals]; exact if_neg (by rintro rfl; rw [hl1] at h; cases h))
            have hV' : PV (w.heap.size) j (.slice xa j xc) (.slice za j zc) (.slice an ns.length cn) (.slice ak ks.length ck) A1 A2 n cx vals' := by rw [hvals]; exact ⟨hV.v0, hV.v1, hV.v4, hV.v5, hV.v6, hV.v7, hV.v9, hV.v10, hV.v13, hV.v14, hV.v15, hV.v16, hV.v18, hV.v20⟩
            have hn : vals' 8 = y := by rw [hvals]; rfl
            have hsame : ∀ q, q ≠ 8 → vals' q = vals q := fun q hq => by rw [hvals]; exact if_neg hq
            have l19 : listed.getD 19 false = false := by
              cases hh : listed.getD 19 false
              · rfl
              · have := hC 19 _ rfl hh ⟨17, .chain⟩ (by simp) rfl
                have := hC 17 _ rfl this ⟨12, .data⟩ (by simp) rfl; have := hC 12 _ rfl this ⟨8, .chain⟩ (by simp) rfl; rw [hl1] at this; cases this
            have l21 : listed.getD 21 false = false := by
              cases hh : listed.getD 21 false
              · rfl
              · have := h21 hh; rw [l19] at this; cases this
            refine ⟨by simpa using hsz, hC.put hi, vals', hn ▸ hF'.put (Slots.of (by rfl)) hsz rfl, hV', ?_⟩
            simp only [getD_setF, hl1, la, hsz, l19, l21]
            have ko := hM.sk.keep hgr (fun g e => ⟨c g e, fun h1 h2 => hp h1 h2 g e⟩)
            have ap : ApartV y (cur2 (.slice za j zc) (vals 12) (vals 17) (listed.getD 12 false) (listed.getD 17 false)) := ApartV.app c hfr (fun g hg => (hM.sk.cur_lt g hg).2)
            have at' : listed.getD 11 false = true → listed.getD 12 false = false → ApartV y (vals 11) := fun h1 h2 => ApartV.app (hp h1 h2) hfr (fun g hg => by obtain ⟨g', t1', _, t3', _⟩ := hM.sk.tmp h1 h2; rw [t1'] at hg; have := own_some hg; omega)
            have tt := (hgr.block (w.heap.size) (by omega) (fun e => by have := hx _ e.symm; omega)).trans hM.tat
            rw [l19, l21] at tt
            exact ⟨(by rw [hn, hsame 2 (by decide), hsame 3 (by decide)]; exact Sd.app2 hown), (by rw [hsame 11 (by decide), hsame 12 (by decide), hsame 17 (by decide)]; simpa using ko), (by rw [hn, hsame 3 (by decide), hsame 12 (by decide), hsame 17 (by decide)]; simpa [cur2] using ap), (by rw [hn, hsame 3 (by decide), hsame 11 (by decide)]; simpa [cur2] using at'), (by simpa using tt), hM.only.grown hgr (fun g e => .inr (by have := hx g e; omega)), Nat.le_trans hM.size hgr.size⟩
          · cases ho
            have la := hdeps ⟨9, .data⟩ (by simp) rfl
            have lb := hdeps ⟨11, .data⟩ (by simp) rfl
            have lc := hdeps ⟨8, .chain⟩ (by simp) rfl
            have lc3 := hM.sn.imp lc
            have ly : listed.getD 17 false = false := by
              cases hh : listed.getD 17 false
              · rfl
              · have := hM.sk.imp hh; rw [hl1] at this; cases this
            have a := hM.sk
            have c := hM.ap
            rw [lb, hl1, ly] at a
            rw [hl1, ly] at c
            obtain ⟨g, t1, t2, t3, t4⟩ := a.tmp rfl rfl
            have hx : ∀ g, (Value.slice za j zc).ownBlock = some g → w.heap.size + 3 ≤ g := fun g e => ((a.r0 rfl).lt g e).1
            refine wpOp_wp rfl rfl (Sh.wp_append_fresh (.tmp 62) (.tmp 64) 28 rfl (w.heap.size + 3) 30 ik (.agg #[.int .i64 0, .string ⟨#[]⟩, .slice none 0 0, .slice none 0 0]) 4 72 Try.underlying28 HIk.out HJk.out HKk.out HLk.out rfl (by decide) (.slice za j zc) j (kdF (us.take j)) ((hF.eval (i := 9) rfl la).trans hV.v9) (a.r0 rfl) ⟨g, 0, none⟩ 1 1 cx.cells ((hF.eval (i := 11) rfl lb).trans t1) rfl (fun q u hu => by rw [addr_addZ]; simp only [World.cell?, t4]; simpa using hu) (by exact C4.one cx) (by unfold maxLen; omega) (by omega) (by omega) ?_)
            intro y w3 hown hgr hfr
            obtain ⟨vals', hvals⟩ : ∃ vals' : Nat → Value, vals' = fun q => if q = 12 then y else vals q := ⟨_, rfl⟩
            have hF' : Fr _ _ vals' listed b := hF.congr (fun i h => by rw [hvals]; exact if_neg (by rintro rfl; rw [hl1] at h; cases h))
            have hV' : PV (w.heap.size) j (.slice xa j xc) (.slice za j zc) (.slice an ns.length cn) (.slice ak ks.length ck) A1 A2 n cx vals' := by rw [hvals]; exact ⟨hV.v0, hV.v1, hV.v4, hV.v5, hV.v6, hV.v7, hV.v9, hV.v10, hV.v13, hV.v14, hV.v15, hV.v16, hV.v18, hV.v20⟩
            have hn : vals' 12 = y := by rw [hvals]; rfl
            have hsame : ∀ q, q ≠ 12 → vals' q = vals q := fun q hq => by rw [hvals]; exact if_neg hq
            have l19 : listed.getD 19 false = false := by
              cases hh : listed.getD 19 false
              · rfl
              · have := hC 19 _ rfl hh ⟨17, .chain⟩ (by simp) rfl
                have := hM.sk.imp this; rw [hl1] at this; cases this
            have l21 : listed.getD 21 false = false := by
              cases hh : listed.getD 21 false
              · rfl
              · have := h21 hh; rw [l19] at this; cases this
            refine ⟨by simpa using hsz, hC.put hi, vals', hn ▸ hF'.put (Slots.of (by rfl)) hsz rfl, hV', ?_⟩
            simp only [getD_setF, hl1, ly, lb, hsz, l19, l21]
            have ko := hM.sn.keep hgr (fun g e => ⟨c.symm g e, fun _ h2 => by rw [lc3] at h2; cases h2⟩)
            have ap : ApartV (cur2 (.slice xa j xc) (vals 3) (vals 8) (listed.getD 3 false) (listed.getD 8 false)) y := (ApartV.app c.symm hfr (fun g hg => (hM.sn.cur_lt g hg).2)).symm
            have tt := (hgr.block (w.heap.size) (by omega) (fun e => by have := hx _ e.symm; omega)).trans hM.tat
            rw [l19, l21] at tt
            exact ⟨(by rw [hsame 2 (by decide), hsame 3 (by decide), hsame 8 (by decide)]; simpa using ko), (by rw [hn, hsame 11 (by decide), hsame 17 (by decide)]; exact Sd.app1 hown), (by rw [hn, hsame 3 (by decide), hsame 8 (by decide), hsame 17 (by decide)]; simpa [cur2] using ap), (fun _ h => by simp at h), (by simpa using tt), hM.only.grown hgr (fun g e => .inr (by have := hx g e; omega)), Nat.le_trans hM.size hgr.size⟩
          · cases ho
            have la := hdeps ⟨12, .data⟩ (by simp) rfl
            have lb := hdeps ⟨16, .data⟩ (by simp) rfl
            have lc8 := hC 12 _ rfl (hdeps ⟨12, .data⟩ (by simp) rfl) ⟨8, .chain⟩ (by simp) rfl
            have lc3 := hM.sn.imp lc8
            have a := hM.sk
            have c := hM.ap
            rw [la, hl1] at a
            rw [la, hl1] at c
            have hx : ∀ g, (vals 12).ownBlock = some g → w.heap.size + 3 ≤ g := fun g e => ((a.r1 rfl rfl).lt g e).1
            refine wpOp_wp rfl rfl (wp_append_srcV (.tmp 65) (.tmp 69) 28 rfl (w.heap.size + 3) 30 ik (.agg #[.int .i64 0, .string ⟨#[]⟩, .slice none 0 0, .slice none 0 0]) 4 72 Try.underlying28 HIk.out HJk.out HKk.out HLk.out rfl (by decide) (vals 12) (j + 1) ((kdF (us.take j)) ++ cx.cells) (hF.eval (i := 12) rfl la) (a.r1 rfl rfl) A2 (ks.length - j) (kdF (us.drop j)) ((hF.eval (i := 16) rfl lb).trans hV.v16) HG6.out (HS2.out v (HB0.out.trans (hM.only.below (Nat.le_refl _) (by omega)))) (kdF_one _) (by unfold maxLen; omega) (by omega) (by omega) ?_)
            intro y w3 hown hgr hfr
            obtain ⟨vals', hvals⟩ : ∃ vals' : Nat → Value, vals' = fun q => if q = 17 then y else vals q := ⟨_, rfl⟩
            have hF' : Fr _ _ vals' listed b := hF.congr (fun i h => by rw [hvals]; exact if_neg (by rintro rfl; rw [hl1] at h; cases h))
            have hV' : PV (w.heap.size) j (.slice xa j xc) (.slice za j zc) (.slice an ns.length cn) (.slice ak ks.length ck) A1 A2 n cx vals' := by rw [hvals]; exact ⟨hV.v0, hV.v1, hV.v4, hV.v5, hV.v6, hV.v7, hV.v9, hV.v10, hV.v13, hV.v14, hV.v15, hV.v16, hV.v18, hV.v20⟩
            have hn : vals' 17 = y := by rw [hvals]; rfl
            have hsame : ∀ q, q ≠ 17 → vals' q = vals q := fun q hq => by rw [hvals]; exact if_neg hq
            have l19 : listed.getD 19 false = false := by
              cases hh : listed.getD 19 false
              · rfl
              · have := hC 19 _ rfl hh ⟨17, .chain⟩ (by simp) rfl
                rw [hl1] at this; cases this
            have l21 : listed.getD 21 false = false := by
              cases hh : listed.getD 21 false
              · rfl
              · have := h21 hh; rw [l19] at this; cases this
            refine ⟨by simpa using hsz, hC.put hi, vals', hn ▸ hF'.put (Slots.of (by rfl)) hsz rfl, hV', ?_⟩
            simp only [getD_setF, hl1, la, hsz, l19, l21]
            have ko := hM.sn.keep hgr (fun g e => ⟨c.symm g e, fun _ h2 => by rw [lc3] at h2; cases h2⟩)
            have ap : ApartV (cur2 (.slice xa j xc) (vals 3) (vals 8) (listed.getD 3 false) (listed.getD 8 false)) y := (ApartV.app c.symm hfr (fun g hg => (hM.sn.cur_lt g hg).2)).symm
            have tt := (hgr.block (w.heap.size) (by omega) (fun e => by have := hx _ e.symm; omega)).trans hM.tat
            rw [l19, l21] at tt
            exact ⟨(by rw [hsame 2 (by decide), hsame 3 (by decide), hsame 8 (by decide)]; simpa using ko), (by rw [hn, hsame 11 (by decide), hsame 12 (by decide)]; exact Sd.app2 hown), (by rw [hn, hsame 3 (by decide), hsame 8 (by decide), hsame 12 (by decide)]; simpa [cur2] using ap), (fun _ h => by cases h), (by simpa using tt), hM.only.grown hgr (fun g e => .inr (by have := hx g e; omega)), Nat.le_trans hM.size hgr.size⟩
          · cases ho
            have l8 := hdeps ⟨8, .data⟩ (by simp) rfl
            have l17 := hdeps ⟨17, .chain⟩ (by simp) rfl
            have l3 := hM.sn.imp l8
            have l12 := hM.sk.imp l17
            have l21 : listed.getD 21 false = false := by
              cases hh : listed.getD 21 false
              · rfl
              · have := h21 hh; rw [hl1] at this; cases this
            have tt := hM.tat
            rw [hl1, l21] at tt
            have a := hM.sn
            have a2 := hM.sk
            have c := hM.ap
            rw [l3, l8] at a c
            rw [l12, l17] at a2 c
            obtain ⟨va, vc, hv'⟩ := own_sliceZ (a.r2 rfl)
            obtain ⟨⟨z0, z1, z2, z3⟩, ⟨y0, y1, y2, y3⟩⟩ := four_blk tt
            have e := hF.up 18 71 rfl (hdeps ⟨18, .data⟩ (by simp) rfl)
            have f := hF.up 8 61 rfl (hdeps ⟨8, .data⟩ (by simp) rfl)
            rw [hV.v18] at e
            rw [hv'] at f
            have gr : v.grownBy (v.setCell ⟨w.heap.size, 2, none⟩ (.slice va (j + 1 + (ns.length - j)) vc)) (some (w.heap.size)) := (Only.refl (w.heap.size) v).setCell 2 _
            have k1 := a.keep gr (fun g e => by cases e; exact ⟨fun e2 => by have := (a.cur_lt _ e2).1; omega, fun _ h => by cases h⟩)
            have k2 := a2.keep gr (fun g e => by cases e; exact ⟨fun e2 => by have := (a2.cur_lt _ e2).1; omega, fun _ h => by cases h⟩)
            have tn := set_four2 tt (.slice va (j + 1 + (ns.length - j)) vc)
            refine wpOp_wp rfl rfl ?_
            unfold Oper.wp Oper.upon
            simp [execOp, go_sem, e, f, z2, y2]
            refine ⟨by simpa using hsz, hC.put hi, vals, hF.put (i := 19) (Slots.of (by rfl)) hsz rfl, hV, ?_⟩
            simp only [getD_setF, hl1, l3, l8, l12, l17, l21, hsz]
            exact ⟨by simpa using k1, by simpa using k2, by simpa using c, (fun _ h => by simp at h), by rw [hv']; simpa using tn, hM.only.grown gr (fun g e => by cases e; exact .inl rfl), Nat.le_trans hM.size gr.size⟩
          · cases ho
            have l19 := hdeps ⟨19, .chain⟩ (by simp) rfl
            have l17 := hdeps ⟨17, .data⟩ (by simp) rfl
            have l8 := hdeps ⟨8, .phase⟩ (by simp) rfl
            have l3 := hM.sn.imp l8
            have l12 := hM.sk.imp l17
            have tt := hM.tat
            rw [l19, hl1] at tt
            have a := hM.sn
            have a2 := hM.sk
            have c := hM.ap
            rw [l3, l8] at a c
            rw [l12, l17] at a2 c
            obtain ⟨va, vc, hv'⟩ := own_sliceZ (a2.r2 rfl)
            obtain ⟨⟨z0, z1, z2, z3⟩, ⟨y0, y1, y2, y3⟩⟩ := four_blk tt
            have e := hF.up 20 72 rfl (hdeps ⟨20, .data⟩ (by simp) rfl)
            have f := hF.up 17 70 rfl (hdeps ⟨17, .data⟩ (by simp) rfl)
            rw [hV.v20] at e
            rw [hv'] at f
            have gr : v.grownBy (v.setCell ⟨w.heap.size, 3, none⟩ (.slice va (j + 1 + (ks.length - j)) vc)) (some (w.heap.size)) := (Only.refl (w.heap.size) v).setCell 3 _
            have k1 := a.keep gr (fun g e => by cases e; exact ⟨fun e2 => by have := (a.cur_lt _ e2).1; omega, fun _ h => by cases h⟩)
            have k2 := a2.keep gr (fun g e => by cases e; exact ⟨fun e2 => by have := (a2.cur_lt _ e2).1; omega, fun _ h => by cases h⟩)
            have tn := set_four3 tt (.slice va (j + 1 + (ks.length - j)) vc)
            refine wpOp_wp rfl rfl ?_
            unfold Oper.wp Oper.upon
            simp [execOp, go_sem, e, f, z3, y3]
            refine ⟨by simpa using hsz, hC.put hi, vals, hF.put (i := 21) (Slots.of (by rfl)) hsz rfl, hV, ?_⟩
            simp only [getD_setF, hl1, l3, l8, l12, l17, l19, hsz]
            exact ⟨by simpa using k1, by simpa using k2, by simpa using c, (fun _ h => by simp at h), by rw [hv']; simpa using tn, hM.only.grown gr (fun g e => by cases e; exact .inl rfl), Nat.le_trans hM.size gr.size⟩
        · intro listed b v hJ hr
          obtain ⟨hsz, hC, vals, hF, hV, hM⟩ := hJ
          have hall := all_upB (by rfl) hsz hr
          have hb : b = putAll _ vals _ 22 := hF.done (Slots.of (by rfl)) hall
          rw [hall 2 (by decide), hall 3 (by decide), hall 8 (by decide), hall 11 (by decide), hall 12 (by decide), hall 17 (by decide), hall 19 (by decide), hall 21 (by decide)] at hM
          obtain ⟨va, vc, hv8⟩ := own_sliceZ (hM.sn.r2 rfl)
          obtain ⟨wa, wc, hv17⟩ := own_sliceZ (hM.sk.r2 rfl)
          have e1 := hM.sn.r2 rfl
          have e2 := hM.sk.r2 rfl
          have e4 := hM.tat
          simp only [if_true, hv8, hv17] at e4
          rw [hv8, nmF_ins] at e1
          rw [hv17, kdF_ins] at e2
          have e5 := hM.only
          have hvz : w4.heap.size ≤ v.heap.size := hM.size
          have hr4 := e5.blk HR0.out (by omega)
          obtain ⟨⟨z0, z1, z2, z3⟩, ⟨y0, y1, y2, y3⟩⟩ := four_blk e4
          obtain ⟨⟨r0, r1, r2, r3⟩, ⟨x0, x1, x2, x3⟩⟩ := four_blk hr4
          obtain ⟨cc, hcc⟩ : ∃ cc : C4, cc = ⟨k, ⟨nm.toArray⟩, va, j + 1 + (ns.length - j), vc, wa, j + 1 + (ks.length - j), wc⟩ := ⟨_, rfl⟩
          have hp := put4_at hr4 cc
          have hPO := put4_only v (w.heap.size + 1 + 1) cc
          have hbw : Below w.heap.size w (put4 v (w.heap.size + 1 + 1) cc) := HB0.out.trans ((e5.below (Nat.le_refl _) (by omega)).trans (hPO.below (by omega) (by omega)))
          have hr1 := e1.kept hPO (own_nb (fun g e => by have := (e1.lt g e).1; omega))
          have hr2 := e2.kept hPO (own_nb (fun g e => by have := (e2.lt g e).1; omega))
          have hmade := put_made (k := k) (nm := nm) (ns := ns.take j ++ [n] ++ ns.drop j) (ks := ks.take j ++ [x] ++ ks.drop j) (us := us.take j ++ [cx] ++ us.drop j) hr1 (by simp; omega) hr2 (by simp; omega) (by simp; have := HL.out; omega) (by omega) (ins_vals HL.out (fun i h h' => (HU.out i h h').growN hbw) (HX.out.growN hbw) j)
          rw [← hcc] at hmade
          obtain ⟨⟨v0, v1, v2, v3⟩, _⟩ := four_blk hp
          rw [hcc] at v0 v1 v2 v3
          subst hb
          unfold put4 at v0 v1 v2 v3
          simp only [putAll, hV.v0, hV.v1, hV.v4, hV.v5, hV.v6, hV.v7, hV.v9, hV.v10, hV.v13, hV.v14, hV.v15, hV.v16, hV.v18, hV.v20, hv8, hv17]
          simp [dstOf]
          have HMD := Lib.hid hmade; have HBW := Lib.hid hbw; have HCC := Lib.hid hcc
          clear hmade hbw hr1 hr2 hPO hp hr4 e1 e2 e4 e5 hM hF hV hC hv8 hv17 hall hr hsz hcc
          go_wp2
          refine bodyPost_ret (v := .agg #[.int .i64 k, .string ⟨nm.toArray⟩, .slice va (j + 1 + (ns.length - j)) vc, .slice wa (j + 1 + (ks.length - j)) wc]) (by simp [results, Try.results33, go_sem, v0, v1, v2, v3]) rfl ?_
          have hcc := HCC.out
          subst hcc
          rw [HPUT.out]
          exact ⟨_, rfl, HMD.out.1, HMD.out.2, HBW.out⟩
end Sp
end Go.Proofs.Ytdophmlnmbcjlaa
