/- TextSplits: the walk. -/
import Derived.Test.YtjcmfgloojgknaaTMix
import Derived.Deep.RegionHeld3
namespace Go.Proofs.Ytjcmfgloojgknaa
open Go.RowKit
namespace Tx

theorem split_facts (l : List UInt8) : ((splitL l).1 = 0 ∧ joinL (splitL l).2 = l ∧ (∀ k (h : k < (splitL l).2.length), (splitL l).2[k].at_ = (joinL ((splitL l).2.take k)).length) ∧ l.length ≤ 1500) ∨ ((splitL l).1 ≠ 0 ∧ (splitL l).1 ≤ 11 ∧ (splitL l).2 = []) := by
  unfold splitL
  split
  · right; simp
  · rename_i h
    cases hr : rawW l 0 with
    | none => right; simp [splitOf]
    | some ps =>
      obtain ⟨h1, h2, _⟩ := raw_join _ l 0 ps (Nat.le_refl _) hr
      simp only [splitOf]
      split
      · right; simp
      · left
        refine ⟨rfl, h1, fun k hk => ?_, by omega⟩
        have := h2 k hk
        simpa using this
theorem join_le (ps : List P) (p : Nat) (h : p < ps.length) : (joinL (ps.take p)).length + (brace ps[p]).length ≤ (joinL ps).length := by
  have e : ps.take (p + 1) = ps.take p ++ [ps[p]] := by rw [List.take_succ_eq_append_getElem h]
  have e2 : joinL ps = joinL (ps.take (p + 1)) ++ joinL (ps.drop (p + 1)) := by
    unfold joinL; rw [← List.flatMap_append, List.take_append_drop]
  rw [e2, e, joinL_snoc, List.length_append, List.length_append]; omega
theorem split_len (l : List UInt8) : (splitL l).2.length ≤ 200 := by
  unfold splitL
  split
  · simp
  · cases hr : rawW l 0 with
    | none => simp [splitOf]
    | some ps =>
      simp only [splitOf]
      split
      · simp
      · show ps.length ≤ 200; omega
theorem three_cell (w : World) (a b c : ByteArray) (t : TypeId) (k : Nat) (h : k < 3) : ∃ r : ByteArray, (r = a ∨ r = b ∨ r = c) ∧ (w.alloc (.cells #[.string a, .string b, .string c] t)).cell? ⟨w.heap.size, k, none⟩ = some (.string r) := by
  match k, h with
  | 0, _ => exact ⟨a, Or.inl rfl, by simp⟩
  | 1, _ => exact ⟨b, Or.inr (Or.inl rfl), by simp⟩
  | 2, _ => exact ⟨c, Or.inr (Or.inr rfl), by simp⟩
theorem below_dN {n : Nat} {w w' : World} (h : Below n w w') (k : Nat) : Below n w (w'.drewN k) := ⟨h.os, h.tape, h.output, h.size, h.block⟩
theorem bytes_eq {a b : ByteArray} (h : a.data.toList = b.data.toList) : a = b := by
  apply ByteArray.ext; apply Array.ext'; exact h

set_option maxRecDepth 100000 in
set_option maxHeartbeats 8000000 in
theorem splits_any (s : ByteArray) (ad : Option Addr) (len cap : Nat) (zs : List Int) (w : World) (hM : MaxTab w) (hs : s.size ≤ maxLen) (hR : IsRow .i64 w ad len cap zs) :
    Calls Try.prog 3 #[.string s, .slice ad len cap] w fun e w' => e = .returned (.bool true) ∧ Below w.heap.size w w' := by
  have hI := ints_of_row hR
  generalize (fun i => zs.getD i 0) = f at hI
  unfold maxLen at hs
  have cK := known_any w hM
  have HI := Lib.hid hI; have HK := Lib.hid cK; have HMX := Lib.hid hM
  clear hI cK hR hM
  by_cases hbig : 2000 < s.size
  · have hbig' : (2000 : Int) < s.size := by omega
    go_enter Try.func3, Try.ntmps3
    go_wp2_with (go_at_call 9; (with_reducible refine HK.out.mono ?_); rintro e w1 ⟨rfl, hb⟩)
    go_ret
    exact ⟨rfl, hb⟩
  · have hbig' : ¬ (2000 : Int) < s.size := by omega
    go_enter Try.func3, Try.ntmps3
    go_wp2_with (go_at_call 9; (with_reducible refine HK.out.mono ?_); rintro e w1 ⟨rfl, hb⟩)
    have HB : Hid (Below w.heap.size w w1) := hb
    clear hb HK
    have cM1 := mix_any ad len cap f w1 (HI.out.below HB.out)
    refine cM1.mono ?_
    rintro e w2 ⟨hb2, m1, rfl, hm1⟩
    have HB2 : Hid (Below w.heap.size w w2) := HB.out.trans (hb2.mono HB.out.size)
    clear cM1 hb2 HB
    have cM2 := mix_any ad len cap f w2 (HI.out.below HB2.out)
    go_wp2_with fail
    refine cM2.mono ?_
    rintro e w0 ⟨hb3, m2, rfl, hm2⟩
    have HB3 : Hid (Below w.heap.size w w0) := HB2.out.trans (hb3.mono HB2.out.size)
    have hw0 := HB3.out.size
    clear cM2 hb3 HB2 HI
    have hsum : m2.size + s.size ≤ 4000 := by omega
    have hss : (m2 ++ s).size ≤ 2480 := by rw [ByteArray.size_append]; omega
    have HROW := Lib.hid (fun k h => three_cell w0 s m1 (m2 ++ s) 9 k h)
    go_wp2
    go_loopw [6] (fun kv wr2 => ∃ k : Nat, k ≤ 3 ∧ kv = .int .i64 k ∧ Hid (Below (w0.heap.size + 1) (w0.alloc (.cells #[.string s, .string m1, .string (m2 ++ s)] 9)) wr2)) (fun kv _ => 3 - (intOf kv).toNat)
    case atStart => exact ⟨0, by omega, rfl, Lib.hid (Below.refl _ _)⟩
    case round =>
      obtain ⟨k, hk, rfl, hm⟩ := hrel
      have hms := hm.out.size
      rw [World.size_alloc] at hms
      by_cases hk3 : k < 3
      · obtain ⟨r, hr, hrc⟩ := HROW.out k hk3
        have hrs : r.size ≤ 2480 := by rcases hr with rfl | rfl | rfl <;> omega
        have hc := (hm.out.cell (p := ⟨w0.heap.size, k, none⟩) (by simp)).trans hrc
        have hg0 : w0.heap.size < wr.heap.size := by omega
        have hbwr : Below w.heap.size w wr := (HB3.out.alloc hw0 _).trans (hm.out.mono (by omega))
        have cT := Split_any r wr (by unfold maxLen; omega) (HMX.out.below hbwr)
        have cR := fun w => RSplit_any r w (by unfold maxLen; omega)
        unfold SplitPost at cT cR
        have hF := split_facts r.data.toList
        have hL := split_len r.data.toList
        generalize splitL r.data.toList = tk at *
        obtain ⟨e0, ps⟩ := tk
        dsimp only at cT cR hF hL
        have hk3' : (k : Int) < 3 := by omega
        have CT := Lib.hid cT; have CR := Lib.hid cR; have HF := Lib.hid hF
        clear cT cR hrc hr hk3 hbwr hF
        go_wp2_with fail
        (with_reducible refine CT.out.mono ?_); rintro e w2 ⟨hb2, v, rfl, ho⟩
        obtain ⟨sa, sc, rfl⟩ := own_slice ho
        have n1 := (hb2.cell (p := ⟨w0.heap.size, k, none⟩) hg0).trans hc
        have hb2s := hb2.size
        have hg2 := Nat.lt_of_lt_of_le hg0 hb2.size
        have HO := Lib.hid ho; have HB2 := Lib.hid hb2
        clear ho hb2 CT
        go_wp2_with fail
        (with_reducible refine (CR.out _).mono ?_); rintro e w3 ⟨hb3, v', rfl, ho'⟩
        obtain ⟨ua, uc, rfl⟩ := own_slice ho'
        have n2 := (hb3.cell (p := ⟨w0.heap.size, k, none⟩) hg2).trans n1
        have hb3s := hb3.size
        have hg3 := Nat.lt_of_lt_of_le hg2 hb3.size
        have HO1 := Lib.hid ((PMem.mk HO.out HB2.out).same hb3).own
        have HO2 := Lib.hid ho'; have HB3' := Lib.hid hb3
        have hm4 := (hm.out.trans (HB2.out.mono hms)).trans (hb3.mono (by omega))
        have HM4 := Lib.hid hm4
        clear ho' hb3 CR hm4 HO n1 hc
        go_wp2
        go_loopw [11, 12] (fun tv iv wr2 => ∃ (p nq : Nat) (t : ByteArray), p ≤ ps.length ∧ iv = .int .i64 p ∧ tv = .string t ∧ wr2 = w3.drewN nq ∧ t.size ≤ 2480 ∧ Hid (t.data.toList = joinL (ps.take p))) (fun _ iv _ => ps.length - (intOf iv).toNat)
        case atStart => exact ⟨0, 0, _, Nat.zero_le _, rfl, rfl, rfl, by simp [ByteArray.size], rfl⟩
        case round =>
          obtain ⟨p, nq, t, hp, rfl, rfl, rfl, hts, ht⟩ := hrel
          by_cases hpk : p < ps.length
          · obtain ⟨g1, c1, e1, _, hg1⟩ := row_some HO1.out (by omega)
            cases e1
            obtain ⟨g2, c2, e2, _, hg2'⟩ := row_some HO2.out (by omega)
            cases e2
            obtain ⟨x0, x1, x2⟩ := row_at HO1.out p hpk
            obtain ⟨y0, y1, y2⟩ := row_at HO2.out p hpk
            have hpk' : (p : Int) < ps.length := by omega
            have hp0 : (0 : Int) ≤ p := by omega
            have hfa : (joinL (ps.take p)).length + (brace ps[p]).length ≤ 1500 ∧ ps[p].at_ = t.size := by
              rcases HF.out with ⟨_, h2, h3, h4⟩ | ⟨_, _, h3⟩
              · refine ⟨?_, ?_⟩
                · have := join_le ps p hpk
                  rw [h2] at this; omega
                · rw [h3 p hpk, ← ht.out, bytes_len]
              · rw [h3] at hpk; simp at hpk
            obtain ⟨hfb, hfc⟩ := hfa
            have htk : joinL (ps.take (p + 1)) = t.data.toList ++ brace ps[p] := by
              rw [List.take_succ_eq_append_getElem hpk, joinL_snoc, ht.out]
            rw [← ht.out, bytes_len] at hfb
            rw [hfc] at x2 y2
            generalize ps[p] = tt at *
            obtain ⟨ac, st, at_⟩ := tt
            dsimp only at x0 x1 x2 y0 y1 y2 hfc htk hfb
            have HTK := Lib.hid htk; have HT := Lib.hid ht; have HFC := Lib.hid hfc
            clear htk ht hfc
            obtain ⟨sb, hsb⟩ : ∃ sb : ByteArray, sb = ⟨st.toArray⟩ := ⟨_, rfl⟩
            have hsl : sb.size = st.length := by rw [hsb]; rfl
            have hsd : sb.data.toList = st := by rw [hsb]
            rw [← hsb] at x1 y1
            have HSB := Lib.hid hsb; have HSD := Lib.hid hsd
            clear hsb hsd
            cases ac with
            | true =>
              have hbr : (brace ⟨true, st, at_⟩).length = st.length + 4 := by simp [brace]
              rw [hbr] at hfb
              have hz1 : t.size + sb.size + 4 ≤ 1500 := by omega
              have hz2 : (t ++ ⟨#[123, 123]⟩).size = t.size + 2 := by rw [ByteArray.size_append]; rfl
              have hz3 : ((t ++ ⟨#[123, 123]⟩) ++ sb).size = t.size + 2 + sb.size := by rw [ByteArray.size_append, hz2]
              have hz4 : (((t ++ ⟨#[123, 123]⟩) ++ sb) ++ ⟨#[125, 125]⟩).size ≤ 2480 := by rw [ByteArray.size_append, hz3]; show t.size + 2 + sb.size + 2 ≤ 2480; omega
              have hfin : (((t ++ ⟨#[123, 123]⟩) ++ sb) ++ ⟨#[125, 125]⟩).data.toList = joinL (ps.take (p + 1)) := by
                rw [HTK.out, cat_bytes, cat_bytes, cat_bytes, HSD.out]; simp [brace]
              have HFIN := Lib.hid hfin
              have HZ2 := Lib.hid hz2; have HZ3 := Lib.hid hz3
              have es1 := fun w : World => run_string_add_sum (P := Try.prog) w t ⟨#[123, 123]⟩ (by show t.size + 2 ≤ _; omega)
              have es2 := fun w : World => run_string_add_sum (P := Try.prog) w (t ++ ⟨#[123, 123]⟩) sb (by rw [hz2]; omega)
              have es3 := fun w : World => run_string_add_sum (P := Try.prog) w ((t ++ ⟨#[123, 123]⟩) ++ sb) ⟨#[125, 125]⟩ (by rw [hz3]; show _ + 2 ≤ _; omega)
              clear hbr hfin hz2 hz3 hsl hfb
              go_wp2_with fail
              go_quiet (fail)
              go_wp2
              go_roundw
              case rel => exact ⟨p + 1, _, _, by omega, by go_num, rfl, rfl, hz4, HFIN⟩
              case measure => simp [intOf]; omega
            | false =>
              have hbr : (brace ⟨false, st, at_⟩).length = st.length := by simp [brace]
              rw [hbr] at hfb
              have hz1 : t.size + sb.size ≤ 1500 := by omega
              have hz4 : (t ++ sb).size ≤ 2480 := by rw [ByteArray.size_append]; omega
              have hfin : (t ++ sb).data.toList = joinL (ps.take (p + 1)) := by
                rw [HTK.out, cat_bytes, HSD.out]; simp [brace]
              have HFIN := Lib.hid hfin
              have es1 := fun w : World => run_string_add_sum (P := Try.prog) w t sb (by omega)
              clear hbr hfin hsl hfb
              go_wp2_with fail
              go_quiet (fail)
              go_wp2
              go_roundw
              case rel => exact ⟨p + 1, _, _, by omega, by go_num, rfl, rfl, hz4, HFIN⟩
              case measure => simp [intOf]; omega
          · obtain rfl : p = ps.length := by omega
            have htt : t.data.toList = joinL ps := by have := ht.out; rwa [List.take_length] at this
            have hm5 := below_dN HM4.out nq
            have HM5 := Lib.hid hm5
            have nd : (w3.drewN nq).cell? ⟨w0.heap.size, k, none⟩ = some (.string r) := by rw [World.cell?_drewN]; exact n2
            clear hm5 ht
            rcases HF.out with ⟨h1, h2, _, _⟩ | ⟨h1, h2, h3⟩
            · obtain rfl : t = r := bytes_eq (htt.trans h2)
              subst h1
              clear htt h2
              go_wp2
              go_roundw
              case rel => exact ⟨k + 1, by omega, by go_num, HM5⟩
              case measure => simp [intOf]; omega
            · have t0 : ((e0 : Int) == 0) = false := by simp; omega
              clear htt h1 h3
              go_wp2
              go_roundw
              case rel => exact ⟨k + 1, by omega, by go_num, HM5⟩
              case measure => simp [intOf]; omega
      · have hk3' : k = 3 := by omega
        subst hk3'
        clear hk3
        go_wp2
        go_ret
        exact ⟨rfl, (HB3.out.alloc hw0 _).trans (hm.out.mono (by omega))⟩
end Tx
end Go.Proofs.Ytjcmfgloojgknaa
