/- Package sprueref4: Check. Written by gen_wchk.py. -/
import Derived.Test.YtjjpjkkaogfoaaaQ2
import Derived.Deep.DeepCutAuto
import Derived.Deep.CutBlock
namespace Go.Proofs.Ytjjpjkkaogfoaaa
open Go.RowKit
namespace Sp
open Sc

theorem fnsZ_drop {has : List UInt8 → Bool} {n : Nat} {a : List UInt8} {l : List Sg} {j : Nat} (h : j < l.length) : fnsZ has n a (l.drop j) = if (fnZ has n a l[j]).1 = 0 then fnsZ has (fnZ has n a l[j]).2 l[j].name (l.drop (j + 1)) else fnZ has n a l[j] := by rw [List.drop_eq_getElem_cons h, fnsZ]
/-- What Check of the chapter's own telling answers. -/
def refC (s : Sz) : Nat :=
  if 12 < s.types.length ∨ 12 < s.sigs.length then 3
  else if namesE wordB [] (s.types.map (·.1)) ≠ 0 then namesE wordB [] (s.types.map (·.1))
  else if schZ s ≠ 0 then schZ s
  else if (finiteR s.types).length ≠ s.types.length then 14
  else if (allT s).any (nestR s.types) = true then 17 else 0
structure NmR (w W0 : World) (tk : List UInt8 → Bool) (ns : List (List UInt8)) (kv : Value) (wr : World) (i : Nat) : Prop where
  slot : kv = .int .i64 i
  le : i ≤ ns.length
  names : namesE tk [] ns = namesE tk (prevN ns i) (ns.drop i)
  same : ∀ g : Nat, wr.heap[g]? = W0.heap[g]?
  size : wr.heap.size = W0.heap.size
  below : Below w.heap.size w wr
theorem schZ_bad1 {s : Sz} {e n : Nat} (h : allZ (hasZ s.types) 1 0 (s.types.map (·.2)) = (e, n)) (he : e ≠ 0) : schZ s = e := by
  unfold schZ; simp only [h]; rw [if_pos he]
theorem schZ_bad2 {s : Sz} {e n m : Nat} (h : allZ (hasZ s.types) 1 0 (s.types.map (·.2)) = (0, n)) (h2 : oneZ (hasZ s.types) 1 n s.main = (e, m)) (he : e ≠ 0) : schZ s = e := by
  unfold schZ; simp only [h, h2]; rw [if_neg (by simp), if_pos he]
theorem schZ_go {s : Sz} {n m : Nat} (h : allZ (hasZ s.types) 1 0 (s.types.map (·.2)) = (0, n)) (h2 : oneZ (hasZ s.types) 1 n s.main = (0, m)) : schZ s = (fnsZ (hasZ s.types) m [] s.sigs).1 := by
  unfold schZ; simp only [h, h2]; rw [if_neg (by simp), if_neg (by simp)]
structure FnR (w : World) (wb : Nat) (s : Sz) (c : C4) (a1 a2 : Option Addr) (us : List (List UInt8 × C4)) (gs : List (List UInt8 × G6)) (c1 c2 : Nat) (full : Nat × Nat) (ev jv : Value) (wr : World) (j n : Nat) : Prop where
  slot : jv = .int .i64 j
  err : ev = .int .i64 0
  le : j ≤ s.sigs.length
  few : n ≤ 400
  rest : fnsZ (hasZ s.types) n (prevN (s.sigs.map (·.name)) j) (s.sigs.drop j) = full
  box : wr.heap[w.heap.size]? = some (.cells #[.int .i64 c.k, .string c.n, .slice c.an c.ln c.cn, .slice c.ak c.lk c.ck, .slice a1 s.types.length c1, .slice a2 s.sigs.length c2] 29 (0, 0))
  walk : wr.heap[wb]? = some (.cells #[.int .i64 c.k, .string c.n, .slice c.an c.ln c.cn, .slice c.ak c.lk c.ck, .slice a1 s.types.length c1, .slice a2 s.sigs.length c2, .int .i64 n] 90 (0, 0))
  below : Below w.heap.size w wr
mutual
theorem oneZ_kids (has : List UInt8 → Bool) : ∀ (t : Tz) (d n : Nat), (oneZ has d n t).1 = 0 → kidsOk t = true
  | .mk k nm ns ks, d, n, h0 => by
    rw [oneZ] at h0
    split at h0
    · cases h0
    · split at h0
      · cases h0
      · split at h0
        · rename_i h3; exact absurd h0 h3
        · rename_i h3
          rw [kidsOk, Bool.and_eq_true]
          refine ⟨?_, allZ_kids has ks (d + 1) (n + 1) h0⟩
          by_cases h6 : k = 6
          · subst h6
            have h4 : ownE has 6 nm ns ks.length = 0 := by simpa using h3
            unfold ownE at h4
            rw [if_neg (by omega)] at h4
            split at h4
            · cases h4
            · rename_i h5
              unfold formB kidsN at h5
              simp at h5
              simp; omega
          · simp [h6]
theorem allZ_kids (has : List UInt8 → Bool) : ∀ (ks : List Tz) (d n : Nat), (allZ has d n ks).1 = 0 → kidsOks ks = true
  | [], _, _, _ => rfl
  | t :: ks, d, n, h0 => by
    rw [allZ] at h0
    split at h0
    · rename_i h1
      rw [kidsOks, oneZ_kids has t d n h1, allZ_kids has ks d _ h0]; rfl
    · rename_i h1; exact absurd h0 h1
end
theorem fnsZ_few (has : List UInt8 → Bool) : ∀ (l : List Sg) (a : List UInt8) (n : Nat), (fnsZ has n a l).1 = 0 → ∀ g ∈ l, g.params.length ≤ 4 ∧ kidsOks g.params = true ∧ kidsOk g.result = true
  | [], _, _, _, g, hg => by cases hg
  | x :: l, a, n, h0, g, hg => by
    rw [fnsZ] at h0
    split at h0
    · rename_i h1
      rcases List.mem_cons.1 hg with rfl | hg
      · unfold fnZ at h1
        split at h1
        · rename_i h2; exact absurd h1 h2
        · split at h1
          · cases h1
          · rename_i h2 h3
            split at h1
            · rename_i h4; exact absurd h1 h4
            · rename_i h4
              exact ⟨by omega, allZ_kids has _ _ _ (by simpa using h4), oneZ_kids has _ _ _ h1⟩
      · exact fnsZ_few has l _ _ h0 g hg
    · rename_i h1; exact absurd h0 h1
theorem kidsOks_all {ks : List Tz} (h : kidsOks ks = true) : ∀ t ∈ ks, kidsOk t = true := fun t ht => by
  obtain ⟨i, hi, rfl⟩ := List.mem_iff_getElem.1 ht
  exact kidsOks_mem ks h i hi
theorem allT_mem {s : Sz} {P : Tz → Prop} (h1 : ∀ x ∈ s.types, P x.2) (h2 : P s.main) (h3 : ∀ g ∈ s.sigs, (∀ t ∈ g.params, P t) ∧ P g.result) : ∀ t ∈ allT s, P t := fun t ht => by
  unfold allT at ht
  rw [List.mem_append, List.mem_append] at ht
  rcases ht with (ht | ht) | ht
  · obtain ⟨x, hx, rfl⟩ := List.mem_map.1 ht; exact h1 x hx
  · rw [List.mem_singleton.1 ht]; exact h2
  · obtain ⟨g, hg, ht⟩ := List.mem_flatMap.1 ht
    unfold sgT at ht
    rcases List.mem_append.1 ht with ht | ht
    · exact (h3 g hg).1 t ht
    · rw [List.mem_singleton.1 ht]; exact (h3 g hg).2
theorem SzFit.all {s : Sz} (h : SzFit s) : ∀ t ∈ allT s, fitZ t = true := allT_mem (fun x hx => by
    obtain ⟨i, hi, rfl⟩ := List.mem_iff_getElem.1 hx
    exact (h.types i hi).2) h.main (fun g hg => by
    obtain ⟨i, hi, rfl⟩ := List.mem_iff_getElem.1 hg
    have := h.sigs i hi
    unfold fitG at this
    simp only [Bool.and_eq_true] at this
    exact ⟨fun t ht => by
      obtain ⟨k, hk, rfl⟩ := List.mem_iff_getElem.1 ht
      exact fitZs_mem _ this.1.2 k hk, this.2⟩)
theorem all_kids {s : Sz} {n m r : Nat} (h1 : allZ (hasZ s.types) 1 0 (s.types.map (·.2)) = (0, n)) (h2 : oneZ (hasZ s.types) 1 n s.main = (0, m)) (h3 : fnsZ (hasZ s.types) m [] s.sigs = (0, r)) : ∀ t ∈ allT s, kidsOk t = true := by
  have k1 := kidsOks_all (allZ_kids _ _ _ _ (by rw [h1]))
  have k3 := fnsZ_few _ _ _ _ (by rw [h3])
  exact allT_mem (fun x hx => k1 _ (List.mem_map.2 ⟨x, hx, rfl⟩)) (oneZ_kids _ _ _ _ (by rw [h2])) (fun g hg => ⟨kidsOks_all (k3 g hg).2.1, (k3 g hg).2.2⟩)
structure OlR (w W6 : World) (s : Sz) (full : Bool) (kv : Value) (wr : World) (k : Nat) : Prop where
  slot : kv = .int .i64 k
  le : k ≤ (allT s).length
  rest : ((allT s).drop k).any (nestR s.types) = full
  below : Below W6.heap.size W6 wr
structure MaR (S : Nat → Prop) (w : World) (wb : Nat) (s : Sz) (c : C4) (a1 a2 : Option Addr) (us : List (List UInt8 × C4)) (gs : List (List UInt8 × G6)) (c1 c2 : Nat) (ks : List Tz) (full : Nat × Nat) (ev iv : Value) (wr : World) (j e n : Nat) : Prop where
  slot : iv = .int .i64 j
  err : ev = .int .i64 e
  le : j ≤ ks.length
  rest : e = 0 → allZ (hasZ s.types) 1 n (ks.drop j) = full ∧ n ≤ 400
  bad : e ≠ 0 → full = (e, n)
  box : wr.heap[w.heap.size]? = some (.cells #[.int .i64 c.k, .string c.n, .slice c.an c.ln c.cn, .slice c.ak c.lk c.ck, .slice a1 s.types.length c1, .slice a2 s.sigs.length c2] 29 (0, 0))
  walk : wr.heap[wb]? = some (.cells #[.int .i64 c.k, .string c.n, .slice c.an c.ln c.cn, .slice c.ak c.lk c.ck, .slice a1 s.types.length c1, .slice a2 s.sigs.length c2, .int .i64 n] 90 (0, 0))
  below : Below w.heap.size w wr
set_option maxRecDepth 100000 in
set_option maxHeartbeats 16000000 in
theorem Check_ref (S : Nat → Prop) (s : Sz) (c : C4) (a1 a2 : Option Addr) (us : List (List UInt8 × C4)) (gs : List (List UInt8 × G6)) (c1 c2 : Nat) (w : World) (hS : ∀ g, S g → g < w.heap.size) (hV : SzV w S s c a1 us a2 gs) (hl1 : s.types.length ≤ 1000000) (hl2 : s.sigs.length ≤ 1000000) (hf : SzFit s) :
    Calls Try.prog 17 #[.agg #[.int .i64 c.k, .string c.n, .slice c.an c.ln c.cn, .slice c.ak c.lk c.ck, .slice a1 s.types.length c1, .slice a2 s.sigs.length c2]] w fun e w' => e = .returned (.int .i64 (refC s : Nat)) ∧ Below w.heap.size w w' := by
  obtain ⟨W0, hW0⟩ : ∃ W0, W0 = w.alloc (.cells #[.int .i64 c.k, .string c.n, .slice c.an c.ln c.cn, .slice c.ak c.lk c.ck, .slice a1 s.types.length c1, .slice a2 s.sigs.length c2] 29) := ⟨_, rfl⟩
  have hb0 : Below w.heap.size w W0 := by rw [hW0]; exact (Below.refl _ _).alloc (Nat.le_refl _) _
  have hz0 : W0.heap.size = w.heap.size + 1 := by rw [hW0]; simp
  have hs0 : W0.heap[w.heap.size]? = some (.cells #[.int .i64 c.k, .string c.n, .slice c.an c.ln c.cn, .slice c.ak c.lk c.ck, .slice a1 s.types.length c1, .slice a2 s.sigs.length c2] 29 (0, 0)) := by rw [hW0]; exact heap_alloc_new w _
  have HSS := Lib.hid hS; have HV := Lib.hid hV; have HW0 := Lib.hid hW0; have HB0 := Lib.hid hb0; have HS0 := Lib.hid hs0; have HF := Lib.hid hf
  obtain ⟨⟨s0, s1, s2, s3, s4, s5⟩, _⟩ := six_blkF hs0
  clear hS hV hW0 hb0 hs0 hf
  go_enter Try.func17, Try.ntmps17
  go_upto_region 1 with fail
  rw [← HW0.out]
  by_cases h1 : 12 < s.types.length
  · have h1z : (12 : Int) < (s.types.length : Int) := by omega
    have hv : refC s = 3 := by unfold refC; exact if_pos (.inl h1)
    have HVV := Lib.hid hv
    clear hv
    go_wp2
    go_ret
    exact ⟨ret_intZ (by rw [HVV.out]; rfl), HB0.out⟩
  · have h1z : ¬ (12 : Int) < (s.types.length : Int) := by omega
    by_cases h2 : 12 < s.sigs.length
    · have h2z : (12 : Int) < (s.sigs.length : Int) := by omega
      have hv : refC s = 3 := by unfold refC; exact if_pos (.inr h2)
      have HVV := Lib.hid hv
      clear hv
      go_wp2
      go_ret
      exact ⟨ret_intZ (by rw [HVV.out]; rfl), HB0.out⟩
    · have h2z : ¬ (12 : Int) < (s.sigs.length : Int) := by omega
      have HL : Hid (¬ (12 < s.types.length ∨ 12 < s.sigs.length)) := fun h => h.elim h1 h2
      have ht12 : s.types.length ≤ 12 := by omega
      have hs12 : s.sigs.length ≤ 12 := by omega
      clear h1 h2
      go_wp2_with fail
      go_loopw [3] (fun v3 wr => ∃ i : Nat, NmR w W0 wordB (s.types.map (·.1)) v3 wr i) (fun v3 _ => s.types.length - (intOf v3).toNat)
      case atStart => exact ⟨0, rfl, Nat.zero_le _, rfl, fun _ => rfl, rfl, HB0.out⟩
      case round =>
        obtain ⟨i, h⟩ := hrel
        obtain rfl := h.slot
        have hi := h.le
        rw [List.length_map] at hi
        obtain ⟨⟨p0, p1, p2, p3, p4, p5⟩, _⟩ := six_blkF ((h.same _).trans HS0.out)
        have hd := Lib.hid h.names
        have hwz := h.size
        have H := Lib.hid h
        clear h s0 s1 s2 s3 s4 s5
        by_cases hlt : i < s.types.length
        · have hiz : (i : Int) < (s.types.length : Int) := by omega
          have hi0 : (0 : Int) ≤ (i : Int) := by omega
          have hju : i < us.length := by rw [HV.out.nt]; exact hlt
          obtain ⟨g, o, rfl, hg, hc⟩ := nam_at HV.out.rt HSS.out i hju
          obtain ⟨c0, -, -, -, -⟩ := hc wr (fun j hj => H.out.below.block j hj)
          obtain ⟨hn, -⟩ := HV.out.vt i hlt hju
          rw [hn] at c0
          have hil : i < (s.types.map (·.1)).length := by rw [List.length_map]; exact hlt
          have hnl : (s.types.map (·.1))[i] = s.types[i].1 := by rw [List.getElem_map]
          have CI := RIdent_any ⟨s.types[i].1.toArray⟩ wr (HF.out.types i hlt).1
          rw [show (⟨s.types[i].1.toArray⟩ : ByteArray).data.toList = s.types[i].1 from rfl] at CI
          have CW := word_ref s.types[i].1 wr
          have hdr := namesE_drop (tk := wordB) (a := prevN (s.types.map (·.1)) i) hil
          rw [hnl] at hdr
          have hpn : prevN (s.types.map (·.1)) (i + 1) = s.types[i].1 := by unfold prevN; rw [if_neg (by omega), Nat.add_sub_cancel]; simp [List.getD, hlt]
          have e1 := toList_mk' s.types[i].1
          generalize s.types[i].1 = nm at *
          have HDR := Lib.hid hdr; have HPN := Lib.hid hpn
          clear hdr hpn hc hn hnl
          cases hid : identB nm
          · have hne : namesE wordB [] (s.types.map (·.1)) = 15 := by rw [hd.out, HDR.out]; unfold nameE; simp [hid]
            have hv : refC s = 15 := by unfold refC; rw [if_neg HL.out, hne]; rfl
            rw [hid] at CI
            have HVV := Lib.hid hv; have HCI := Lib.hid CI
            clear hne hv CI hid CW hd
            go_wp2_with (go_at_call 41; (with_reducible refine HCI.out.mono ?_); rintro e w2 ⟨rfl, rfl⟩)
            go_ret
            exact ⟨ret_intZ (by rw [HVV.out]; rfl), H.out.below⟩
          · rw [hid] at CI
            have HCI := Lib.hid CI
            clear CI
            cases hwd : wordB nm
            · rw [hwd] at CW
              have HCW := Lib.hid CW
              clear CW
              by_cases hi1 : i = 0
              · have hdd : decide ((0 : Int) < (i : Int)) = false := decide_eq_false (by omega)
                have hde : decide (0 < i) = false := decide_eq_false (by omega)
                have hl := leB_nil hid
                have hd' : namesE wordB [] (s.types.map (·.1)) = namesE wordB (prevN (s.types.map (·.1)) (i + 1)) ((s.types.map (·.1)).drop (i + 1)) := by
                  rw [hd.out, HDR.out, HPN.out, if_pos (by unfold nameE leB prevN; rw [hid, hwd, if_neg (by simp), if_pos hi1, hl]; simp)]
                have HD := Lib.hid hd'
                clear hd' hid hl hd hi1 hwd
                go_wp2_with (first | (go_at_call 41; (with_reducible refine HCI.out.mono ?_); rintro e w2 ⟨rfl, rfl⟩) | (go_at_call 42; (with_reducible refine HCW.out.mono ?_); rintro e w2 ⟨rfl, rfl⟩))
                go_quiet (fail)
                go_wp2
                go_roundw
                case rel => exact ⟨i + 1, by go_num, by rw [List.length_map]; omega, HD.out, H.out.same, H.out.size, below_dNZ H.out.below _⟩
                case measure => simp [intOf]; omega
              · have hip : (0 : Int) < (i : Int) := by omega
                have hiq : 0 < i := by omega
                have him : (i : Int) - 1 = ((i - 1 : Nat) : Int) := by omega
                have him2 : IntKind.i64.wrap ((i : Int) - 1) = ((i - 1 : Nat) : Int) := by rw [IntKind.wrap_i64]; omega
                have hlt1 : i - 1 < s.types.length := by omega
                have hju1 : i - 1 < us.length := by rw [HV.out.nt]; exact hlt1
                obtain ⟨g2, o2, e2, hg2, hc2⟩ := nam_at HV.out.rt HSS.out (i - 1) hju1
                obtain ⟨rfl, rfl⟩ : g = g2 ∧ o = o2 := by cases e2; exact ⟨rfl, rfl⟩
                obtain ⟨d0, -, -, -, -⟩ := hc2 wr (fun j hj => H.out.below.block j hj)
                obtain ⟨hn1, -⟩ := HV.out.vt (i - 1) hlt1 hju1
                rw [hn1] at d0
                have hgp : prevN (s.types.map (·.1)) i = s.types[i - 1].1 := by unfold prevN; rw [if_neg hi1]; simp [List.getD, hlt1]
                have e3 := toList_mk' s.types[i - 1].1
                have hjz : ((i - 1 : Nat) : Int) < (s.types.length : Int) := by omega
                have hj0 : (0 : Int) ≤ ((i - 1 : Nat) : Int) := by omega
                have HPI := Lib.hid hgp; have HID := Lib.hid hid; have HWD := Lib.hid hwd
                clear hid hc2 hgp e2 hn1 hwd
                generalize s.types[i - 1].1 = b at *
                cases hl : (Op.bytesLess nm b || nm == b)
                · have hd' : namesE wordB [] (s.types.map (·.1)) = namesE wordB (prevN (s.types.map (·.1)) (i + 1)) ((s.types.map (·.1)).drop (i + 1)) := by
                    rw [hd.out, HDR.out, HPN.out, show prevN (s.types.map (·.1)) i = b from HPI.out, if_pos (by unfold nameE leB; simp [HID.out, HWD.out, hl])]
                  have HD := Lib.hid hd'
                  clear hd' hd
                  go_wp2_with (first | (go_at_call 41; (with_reducible refine HCI.out.mono ?_); rintro e w2 ⟨rfl, rfl⟩) | (go_at_call 42; (with_reducible refine HCW.out.mono ?_); rintro e w2 ⟨rfl, rfl⟩))
                  go_quiet (fail)
                  go_wp2
                  go_roundw
                  case rel => exact ⟨i + 1, by go_num, by rw [List.length_map]; omega, HD.out, H.out.same, H.out.size, below_dNZ H.out.below _⟩
                  case measure => simp [intOf]; omega
                · have hne : namesE wordB [] (s.types.map (·.1)) = 6 := by rw [hd.out, HDR.out, show prevN (s.types.map (·.1)) i = b from HPI.out]; unfold nameE leB; simp [HID.out, HWD.out, hl]
                  have hv : refC s = 6 := by unfold refC; rw [if_neg HL.out, hne]; rfl
                  have HVV := Lib.hid hv
                  clear hne hv hd
                  go_wp2_with (first | (go_at_call 41; (with_reducible refine HCI.out.mono ?_); rintro e w2 ⟨rfl, rfl⟩) | (go_at_call 42; (with_reducible refine HCW.out.mono ?_); rintro e w2 ⟨rfl, rfl⟩))
                  go_quiet (fail)
                  go_wp2
                  go_ret
                  exact ⟨ret_intZ (by rw [HVV.out]; rfl), below_dNZ H.out.below _⟩
            · rw [hwd] at CW
              have HCW := Lib.hid CW
              have hne : namesE wordB [] (s.types.map (·.1)) = 15 := by rw [hd.out, HDR.out]; unfold nameE; simp [hid, hwd]
              have hv : refC s = 15 := by unfold refC; rw [if_neg HL.out, hne]; rfl
              have HVV := Lib.hid hv
              clear hne hv hid CW hd hwd
              go_wp2_with (first | (go_at_call 41; (with_reducible refine HCI.out.mono ?_); rintro e w2 ⟨rfl, rfl⟩) | (go_at_call 42; (with_reducible refine HCW.out.mono ?_); rintro e w2 ⟨rfl, rfl⟩))
              go_ret
              exact ⟨ret_intZ (by rw [HVV.out]; rfl), H.out.below⟩
        · have hiz : ¬ (i : Int) < (s.types.length : Int) := by omega
          obtain rfl : i = s.types.length := by omega
          have hne : namesE wordB [] (s.types.map (·.1)) = 0 := by rw [hd.out, List.drop_of_length_le (by rw [List.length_map]; exact Nat.le_refl _)]; rfl
          have hrc : refC s = if schZ s ≠ 0 then schZ s else if (finiteR s.types).length ≠ s.types.length then 14 else if (allT s).any (nestR s.types) = true then 17 else 0 := by unfold refC; rw [if_neg HL.out, hne, if_neg (by simp)]
          obtain ⟨W1, hW1⟩ : ∃ W1, W1 = wr.alloc (.cells #[.int .i64 c.k, .string c.n, .slice c.an c.ln c.cn, .slice c.ak c.lk c.ck, .slice a1 s.types.length c1, .slice a2 s.sigs.length c2, .int .i64 0] 90) := ⟨_, rfl⟩
          obtain ⟨wb, hwb⟩ : ∃ wb, wb = w.heap.size + 1 := ⟨_, rfl⟩
          have hz1 : W1.heap.size = wb + 1 := by rw [hW1, hwb]; simp; omega
          have hb1 : Below w.heap.size w W1 := by rw [hW1]; exact H.out.below.alloc H.out.below.size _
          have hs1 : W1.heap[w.heap.size]? = some (.cells #[.int .i64 c.k, .string c.n, .slice c.an c.ln c.cn, .slice c.ak c.lk c.ck, .slice a1 s.types.length c1, .slice a2 s.sigs.length c2] 29 (0, 0)) := by rw [hW1]; exact blk_allocZ ((H.out.same _).trans HS0.out) _
          have hw1 : W1.heap[wb]? = some (.cells #[.int .i64 c.k, .string c.n, .slice c.an c.ln c.cn, .slice c.ak c.lk c.ck, .slice a1 s.types.length c1, .slice a2 s.sigs.length c2, .int .i64 ((0 : Nat) : Int)] 90 (0, 0)) := by rw [hW1, blk_if, if_pos (by omega)]; rfl
          obtain ⟨full, hfull⟩ : ∃ full, allZ (hasZ s.types) 1 0 (s.types.map (·.2)) = full := ⟨_, rfl⟩
          have hwbw : w.heap.size < wb := by omega
          have hsg : ∀ g, S g → g < wb := fun g hg => by have := HSS.out g hg; omega
          have HRC := Lib.hid hrc; have HB1 := Lib.hid hb1; have HS1 := Lib.hid hs1; have HW1 := Lib.hid hw1; have HFU := Lib.hid hfull; have HSG := Lib.hid hsg; have HWW := Lib.hid hW1
          clear hrc hb1 hs1 hw1 hfull hsg hW1 hne hd H
          go_wp2_with fail
          rw [← HWW.out, ← hwb]
          clear HWW hwb hwz p0 p1 p2 p3 p4 p5
          go_loopw [5, 6] (fun v5 v6 wr => ∃ j e n, MaR S w wb s c a1 a2 us gs c1 c2 (s.types.map (·.2)) full v5 v6 wr j e n) (fun _ v6 _ => s.types.length - (intOf v6).toNat)
          case atStart => exact ⟨0, 0, 0, rfl, rfl, Nat.zero_le _, fun _ => ⟨HFU.out, by omega⟩, fun h => absurd rfl h, HS1.out, HW1.out, HB1.out⟩
          case round =>
            obtain ⟨j, e, n, h⟩ := hrel
            obtain rfl := h.slot
            obtain rfl := h.err
            have hle := h.le
            rw [List.length_map] at hle
            obtain ⟨⟨p0, p1, p2, p3, p4, p5⟩, _⟩ := six_blkF h.box
            have hwz := (Array.getElem?_eq_some_iff.1 h.walk).1
            have H := Lib.hid h
            clear h
            by_cases he : e = 0
            · subst he
              obtain ⟨hrest, hn'⟩ := H.out.rest rfl
              by_cases hj : j < s.types.length
              · have hjz : (j : Int) < (s.types.length : Int) := by omega
                have hj0 : (0 : Int) ≤ (j : Int) := by omega
                have hju : j < us.length := by rw [HV.out.nt]; exact hj
                have hjl : j < (s.types.map (·.2)).length := by rw [List.length_map]; exact hj
                obtain ⟨g, o, rfl, hg, hc⟩ := nam_at HV.out.rt HSS.out j hju
                obtain ⟨-, q0, q1, q2, q3⟩ := hc wr (fun i hi => H.out.below.block i hi)
                obtain ⟨-, hv⟩ := HV.out.vt j hj hju
                have C : Calls Try.prog 43 #[.pointer (some ⟨wb, 0, none⟩), .agg #[.int .i64 us[j].2.k, .string us[j].2.n, .slice us[j].2.an us[j].2.ln us[j].2.cn, .slice us[j].2.ak us[j].2.lk us[j].2.ck], .int .i64 1] wr _ := may_ref S wb s c _ a2 us gs c1 c2 (by unfold maxLen; omega) s.types[j].2 (HF.out.types j hj).2 us[j].2 1 n wr HSG.out hwz hn' (by omega) (HV.out.keep (fun g hg => H.out.below.block g (HSS.out g hg))) (hv.keep (fun _ h => h) (fun g hg => H.out.below.block g (HSS.out g hg))) H.out.walk
                rw [allZ_drop hjl, show (s.types.map (·.2))[j] = s.types[j].2 by rw [List.getElem_map]] at hrest
                have hle2 := oneZ_le (hasZ s.types) s.types[j].2 1 n hn'
                generalize oneZ (hasZ s.types) 1 n s.types[j].2 = r at *
                obtain ⟨e2, n2⟩ := r
                generalize us[j].2 = x at *
                have HC := Lib.hid C; have HRE2 := Lib.hid hrest; have HLE := Lib.hid hle2
                clear C hrest hc hle2 hv
                go_wp2_with (go_at_call 43; (with_reducible refine HC.out.mono ?_); rintro e3 w2 ⟨rfl, x2, x3, x4⟩; have hz2 := x4.size; obtain ⟨⟨m0, m1, m2, m3, m4, m5⟩, _⟩ := six_blkF ((x3.block w.heap.size (by omega)).trans H.out.box); have HX2 := Lib.hid x2; have HX3 := Lib.hid x3; have HX4 := Lib.hid x4; clear x2 x3 x4)
                go_roundw
                case rel => exact ⟨j + 1, e2, n2, by go_num, rfl, by rw [List.length_map]; omega, fun h => ⟨by have := HRE2.out; rw [if_pos h] at this; exact this, HLE.out h⟩, fun h => by have := HRE2.out; rw [if_neg h] at this; exact this.symm, (HX3.out.block w.heap.size (by omega)).trans H.out.box, HX2.out, H.out.below.trans (HX3.out.mono (by omega))⟩
                case measure => simp [intOf]; omega
              · have hjz : ¬ (j : Int) < (s.types.length : Int) := by omega
                have hfe : allZ (hasZ s.types) 1 0 (s.types.map (·.2)) = (0, n) := by rw [HFU.out, ← hrest, List.drop_of_length_le (by rw [List.length_map]; omega)]; rfl
                have C : Calls Try.prog 43 #[.pointer (some ⟨wb, 0, none⟩), .agg #[.int .i64 c.k, .string c.n, .slice c.an c.ln c.cn, .slice c.ak c.lk c.ck], .int .i64 1] wr _ := may_ref S wb s c a1 a2 us gs c1 c2 (by unfold maxLen; omega) s.main HF.out.main c 1 n wr HSG.out hwz hn' (by omega) (HV.out.keep (fun g hg => H.out.below.block g (HSS.out g hg))) (HV.out.main.keep (fun _ h => h) (fun g hg => H.out.below.block g (HSS.out g hg))) H.out.walk
                obtain ⟨r, hr⟩ : ∃ r, oneZ (hasZ s.types) 1 n s.main = r := ⟨_, rfl⟩
                have hle2 := oneZ_le (hasZ s.types) s.main 1 n hn'
                rw [hr] at C hle2
                obtain ⟨e2, n2⟩ := r
                have HC := Lib.hid C; have HFE := Lib.hid hfe; have HR := Lib.hid hr; have HLE := Lib.hid hle2
                clear C hrest hfe hr hle2
                by_cases he2 : e2 = 0
                · subst he2
                  have hn2 := HLE.out rfl
                  go_wp2_with (go_at_call 43; (with_reducible refine HC.out.mono ?_); rintro e3 w2 ⟨rfl, x2, x3, x4⟩; have hz2 := x4.size; obtain ⟨⟨m0, m1, m2, m3, m4, m5⟩, _⟩ := six_blkF ((x3.block w.heap.size (by omega)).trans H.out.box); have HX2 := Lib.hid x2; have HX3 := Lib.hid x3; have HX4 := Lib.hid x4; clear x2 x3 x4)
                  have hgo := schZ_go HFE.out HR.out
                  have hb2 := H.out.below.trans (HX3.out.mono (by omega))
                  have hs2 := (HX3.out.block w.heap.size (by omega)).trans H.out.box
                  have hw2z : wb < w2.heap.size := by omega
                  have hkd : ∀ r, fnsZ (hasZ s.types) n2 [] s.sigs = (0, r) → ∀ t ∈ allT s, kidsOk t = true := fun r h => all_kids HFE.out HR.out h
                  have HKD := Lib.hid hkd
                  clear hkd
                  have HGO := Lib.hid hgo; have HB2 := Lib.hid hb2; have HS2 := Lib.hid hs2; have HWK2 := Lib.hid HX2.out
                  clear hgo hb2 hs2 H HC HFE HR HLE HX2 HX3 HX4 m0 m1 m2 m3 m4 m5 p0 p1 p2 p3 p4 p5
                  obtain ⟨fu, hfu⟩ : ∃ fu, fnsZ (hasZ s.types) n2 [] s.sigs = fu := ⟨_, rfl⟩
                  have hbad : ∀ e m, e ≠ 0 → fu = (e, m) → refC s = e := fun e m he h => by rw [HRC.out, HGO.out, hfu, h, if_pos he]
                  have HFF := Lib.hid hfu; have HBAD := Lib.hid hbad
                  clear hfu hbad
                  go_wp2_with fail
                  go_loopw [5, 7] (fun v5 v7 wr => ∃ j n, FnR w wb s c a1 a2 us gs c1 c2 fu v5 v7 wr j n) (fun _ v7 _ => s.sigs.length - (intOf v7).toNat)
                  case atStart => exact ⟨0, n2, rfl, rfl, Nat.zero_le _, hn2, HFF.out, HS2.out, HWK2.out, HB2.out⟩
                  case round =>
                    clear HWK2 HB2 HS2 hn2 hw2z hz2
                    obtain ⟨j, n, h⟩ := hrel
                    obtain rfl := h.slot
                    obtain rfl := h.err
                    have hle := h.le
                    have hn4 := h.few
                    obtain ⟨⟨p0, p1, p2, p3, p4, p5⟩, _⟩ := six_blkF h.box
                    have hwz := (Array.getElem?_eq_some_iff.1 h.walk).1
                    have H := Lib.hid h
                    clear h
                    by_cases hj : j < s.sigs.length
                    · have hjz : (j : Int) < (s.sigs.length : Int) := by omega
                      have hj0 : (0 : Int) ≤ (j : Int) := by omega
                      have hju : j < gs.length := by rw [HV.out.ng]; exact hj
                      obtain ⟨g, o, rfl, hg, hc⟩ := sig_at HV.out.rg HSS.out j hju
                      obtain ⟨q0, q1, q2, q3, q4, q5⟩ := hc wr (fun i hi => H.out.below.block i hi)
                      obtain ⟨hnm, hlp, ⟨ps, hpl, hpr, hpv⟩, hres⟩ := HV.out.vg j hj hju
                      rw [hnm] at q0
                      have hdr := fnsZ_drop (has := hasZ s.types) (n := n) (a := prevN (s.sigs.map (·.name)) j) hj
                      rw [H.out.rest] at hdr
                      unfold fnZ at hdr
                      have hfg := HF.out.sigs j hj
                      have hpn : prevN (s.sigs.map (·.name)) (j + 1) = s.sigs[j].name := by unfold prevN; rw [if_neg (by omega), Nat.add_sub_cancel]; simp [List.getD, hj]
                      unfold fitG at hfg
                      generalize s.sigs[j].params = pl at *
                      generalize s.sigs[j].result = rt at *
                      generalize s.sigs[j].name = nm at *
                      generalize gs[j].2 = x at *
                      obtain ⟨xap, xlp, xcp, xr⟩ := x
                      simp only at hlp hpr hres q0 q1 q2 q3 q4 q5
                      subst hlp
                      obtain ⟨W4, hW4⟩ : ∃ W4, W4 = wr.alloc (.cells #[.string ⟨nm.toArray⟩, .slice xap pl.length xcp, .int .i64 xr.k, .string xr.n, .slice xr.an xr.ln xr.cn, .slice xr.ak xr.lk xr.ck] 46) := ⟨_, rfl⟩
                      have hz4 : W4.heap.size = wr.heap.size + 1 := by rw [hW4]; simp
                      have hb4 : Below wr.heap.size wr W4 := by rw [hW4]; exact (Below.refl _ _).alloc (Nat.le_refl _) _
                      have hf4 : W4.heap[wr.heap.size]? = some (.cells #[.string ⟨nm.toArray⟩, .slice xap pl.length xcp, .int .i64 xr.k, .string xr.n, .slice xr.an xr.ln xr.cn, .slice xr.ak xr.lk xr.ck] 46 (0, 0)) := by rw [hW4]; exact heap_alloc_new wr _
                      obtain ⟨⟨b0, b1, b2, b3, b4, b5⟩, _⟩ := six_blkF hf4
                      obtain ⟨⟨d0, d1, d2, d3, d4, d5⟩, _⟩ := six_blkF ((hb4.block w.heap.size (by omega)).trans H.out.box)
                      have HW4 := Lib.hid hW4; have HB4 := Lib.hid hb4; have HF4 := Lib.hid hf4; have HDR := Lib.hid hdr; have HPN := Lib.hid hpn; have HFG := Lib.hid hfg; have HPL := Lib.hid hpl; have HPR := Lib.hid hpr; have HPV := Lib.hid hpv; have HRES := Lib.hid hres
                      clear hW4 hb4 hf4 hdr hpn hfg hpl hpr hpv hres hc hnm
                      go_upto_region 24 with fail
                      rw [← HW4.out]
                      have hfg := HFG.out
                      simp only [Bool.and_eq_true, decide_eq_true_eq] at hfg
                      obtain ⟨⟨⟨hf1, hf2⟩, hf3⟩, hf5⟩ := hfg
                      have CI := RIdent_any ⟨nm.toArray⟩ W4 hf1
                      rw [show (⟨nm.toArray⟩ : ByteArray).data.toList = nm from rfl] at CI
                      have CW := Builtin_ref nm W4
                      have e1 := toList_mk' nm
                      have HF3 := Lib.hid hf3; have HF5 := Lib.hid hf5
                      clear hf1 hf3 hf5
                      unfold maxLen at hf2
                      have hbw := H.out.below.trans (HB4.out.mono H.out.below.size)
                      have HBW := Lib.hid hbw
                      clear hbw
                      cases hid : identB nm
                      · have hb : fu = (15, n) := by
                          rw [HDR.out, show nameE (prevN (s.sigs.map (·.name)) j) nm (builtinB nm) = 15 by unfold nameE; simp [hid]]; simp
                        have hv : refC s = 15 := HBAD.out 15 n (by decide) hb
                        rw [hid] at CI
                        have HVV := Lib.hid hv; have HCI := Lib.hid CI
                        clear hb hv CI CW hid
                        go_wp2_with (go_at_call 41; (with_reducible refine HCI.out.mono ?_); rintro e w2 ⟨rfl, rfl⟩)
                        go_ret
                        exact ⟨ret_intZ (by rw [HVV.out]; rfl), HBW.out⟩
                      · rw [hid] at CI
                        have HCI := Lib.hid CI
                        clear CI
                        cases hwd : builtinB nm
                        · rw [hwd] at CW
                          have HCW := Lib.hid CW
                          clear CW
                          obtain ⟨lb, hlb⟩ : ∃ lb, leB nm (prevN (s.sigs.map (·.name)) j) = lb := ⟨_, rfl⟩
                          have HLB := Lib.hid hlb; have HID := Lib.hid hid; have HWD := Lib.hid hwd
                          clear hlb hid hwd
                          go_upto_region 26 with (first | (go_at_call 41; (with_reducible refine HCI.out.mono ?_); rintro e w2 ⟨rfl, rfl⟩) | (go_at_call 44; (with_reducible refine HCW.out.mono ?_); rintro e w2 ⟨rfl, rfl⟩))
                          go_cut [129] (fun s129 wx => s129 = .bool lb ∧ ∃ nq, wx = W4.drewN nq)
                          case first =>
                            by_cases hj1 : j = 0
                            · have hdd : decide ((0 : Int) < (j : Int)) = false := decide_eq_false (by omega)
                              have hde : decide (0 < j) = false := decide_eq_false (by omega)
                              have hl : lb = false := by rw [← HLB.out]; unfold leB prevN; rw [if_pos hj1]; exact leB_nil HID.out
                              have HLF := Lib.hid hl
                              clear hl hj1
                              go_quiet (fail)
                              go_wp2
                              go_meet
                              exact ⟨by rw [HLF.out], _, rfl⟩
                            · have hip : (0 : Int) < (j : Int) := by omega
                              have hiq : 0 < j := by omega
                              have him : (j : Int) - 1 = ((j - 1 : Nat) : Int) := by omega
                              have him2 : IntKind.i64.wrap ((j : Int) - 1) = ((j - 1 : Nat) : Int) := by rw [IntKind.wrap_i64]; omega
                              have hlt1 : j - 1 < s.sigs.length := by omega
                              have hju1 : j - 1 < gs.length := by rw [HV.out.ng]; exact hlt1
                              obtain ⟨g2, o2, e2, hg2, hc2⟩ := sig_at HV.out.rg HSS.out (j - 1) hju1
                              obtain ⟨rfl, rfl⟩ : g = g2 ∧ o = o2 := by cases e2; exact ⟨rfl, rfl⟩
                              obtain ⟨r0, -, -, -, -, -⟩ := hc2 W4 (fun j hj => HBW.out.block j hj)
                              obtain ⟨hn1, -, -, -⟩ := HV.out.vg (j - 1) hlt1 hju1
                              rw [hn1] at r0
                              have hgp : prevN (s.sigs.map (·.name)) j = s.sigs[j - 1].name := by unfold prevN; rw [if_neg hj1]; simp [List.getD, hlt1]
                              have e3 := toList_mk' s.sigs[j - 1].name
                              have hjz1 : ((j - 1 : Nat) : Int) < (s.sigs.length : Int) := by omega
                              have hj01 : (0 : Int) ≤ ((j - 1 : Nat) : Int) := by omega
                              have hll := HLB.out
                              rw [hgp] at hll
                              unfold leB at hll
                              clear hc2 hgp e2 hn1
                              generalize s.sigs[j - 1].name = b at *
                              cases lb
                              · go_quiet (fail)
                                go_wp2
                                go_meet
                                exact ⟨rfl, _, rfl⟩
                              · go_quiet (fail)
                                go_wp2
                                go_meet
                                exact ⟨rfl, _, rfl⟩
                          case rest =>
                            obtain ⟨rfl, nq, rfl⟩ := hcut
                            obtain ⟨W5, hW5⟩ : ∃ W5, W5 = W4.drewN nq := ⟨_, rfl⟩
                            rw [← hW5]
                            have hsame : ∀ g : Nat, W5.heap[g]? = W4.heap[g]? := fun g => by rw [hW5]; rfl
                            have hz5 : W5.heap.size = W4.heap.size := by rw [hW5]; rfl
                            have hb5 : Below w.heap.size w W5 := by rw [hW5]; exact below_dNZ HBW.out _
                            have hf5 := (hsame wr.heap.size).trans HF4.out
                            have hw5 := (hsame wb).trans ((HB4.out.block wb (by omega)).trans H.out.walk)
                            have hs5 := (hsame w.heap.size).trans ((HB4.out.block w.heap.size (by omega)).trans H.out.box)
                            clear hW5 b0 b1 b2 b3 b4 b5 d0 d1 d2 d3 d4 d5 q0 q1 q2 q3 q4 q5
                            obtain ⟨⟨b0, b1, b2, b3, b4, b5⟩, _⟩ := six_blkF hf5
                            have HS5 := Lib.hid hs5; have HW5 := Lib.hid hw5; have HF5' := Lib.hid hf5; have HB5 := Lib.hid hb5
                            clear hsame hb5 hf5 hw5 hs5
                            cases lb
                            · have hnm0 : nameE (prevN (s.sigs.map (·.name)) j) nm (builtinB nm) = 0 := by unfold nameE; rw [HID.out, HWD.out, HLB.out]; simp
                              have hdr := HDR.out
                              rw [hnm0] at hdr
                              simp only [ne_eq, not_true_eq_false, if_false] at hdr
                              clear hnm0
                              by_cases h4 : 4 < pl.length
                              · have h4z : (4 : Int) < (pl.length : Int) := by omega
                                have hb : fu = (18, n) := by rw [hdr, if_pos h4]; simp
                                have hv : refC s = 18 := HBAD.out 18 n (by decide) hb
                                have HVV := Lib.hid hv
                                clear hb hv hdr h4
                                go_wp2
                                go_ret
                                exact ⟨ret_intZ (by rw [HVV.out]; rfl), HB5.out⟩
                              · have h4z : ¬ (4 : Int) < (pl.length : Int) := by omega
                                rw [if_neg h4] at hdr
                                obtain ⟨f4, hf4e⟩ : ∃ f4, allZ (hasZ s.types) 1 n pl = f4 := ⟨_, rfl⟩
                                rw [hf4e] at hdr
                                have HD4 := Lib.hid hdr; have HA4 := Lib.hid hf4e
                                clear hdr hf4e h4
                                obtain ⟨Wo, rfl⟩ : ∃ Wo, Wo = wr := ⟨_, rfl⟩
                                go_wp2_with fail
                                go_loopw [5, 9] (fun v5 v9 wr => ∃ k e m, MaR S w wb s c a1 _ us gs c1 c2 pl f4 v5 v9 wr k e m ∧ wr.heap[Wo.heap.size]? = some (.cells #[.string ⟨nm.toArray⟩, .slice xap pl.length xcp, .int .i64 xr.k, .string xr.n, .slice xr.an xr.ln xr.cn, .slice xr.ak xr.lk xr.ck] 46 (0, 0))) (fun _ v9 _ => pl.length - (intOf v9).toNat)
                                case atStart => exact ⟨0, 0, n, ⟨rfl, rfl, Nat.zero_le _, fun _ => ⟨HA4.out, hn4⟩, fun h => absurd rfl h, HS5.out, HW5.out, HB5.out⟩, HF5'.out⟩
                                case round =>
                                  clear b0 b1 b2 b3 b4 b5
                                  obtain ⟨k, e, m, h, hfb⟩ := hrel
                                  obtain rfl := h.slot
                                  obtain rfl := h.err
                                  have hle := h.le
                                  have hwz4 := (Array.getElem?_eq_some_iff.1 h.walk).1
                                  have hfz := (Array.getElem?_eq_some_iff.1 hfb).1
                                  obtain ⟨⟨b0, b1, b2, b3, b4, b5⟩, _⟩ := six_blkF hfb
                                  have HH := Lib.hid h; have HFB := Lib.hid hfb
                                  clear h hfb
                                  by_cases he : e = 0
                                  · subst he
                                    obtain ⟨hrest, hm'⟩ := HH.out.rest rfl
                                    by_cases hk : k < pl.length
                                    · have hkz : (k : Int) < (pl.length : Int) := by omega
                                      have hk0 : (0 : Int) ≤ (k : Int) := by omega
                                      have hku : k < ps.length := by rw [HPL.out]; exact hk
                                      obtain ⟨g2, o2, rfl, hg2, hc2⟩ := four_at HPR.out HSS.out k hku
                                      obtain ⟨q0, q1, q2, q3⟩ := hc2 wr (fun i hi => HH.out.below.block i hi)
                                      have C : Calls Try.prog 43 #[.pointer (some ⟨wb, 0, none⟩), .agg #[.int .i64 ps[k].k, .string ps[k].n, .slice ps[k].an ps[k].ln ps[k].cn, .slice ps[k].ak ps[k].lk ps[k].ck], .int .i64 1] wr _ := may_ref S wb s c a1 _ us gs c1 c2 (by unfold maxLen; omega) pl[k] (fitZs_mem pl HF3.out k hk) ps[k] 1 m wr HSG.out hwz4 hm' (by omega) (HV.out.keep (fun g hg => HH.out.below.block g (HSS.out g hg))) ((HPV.out k hk hku).keep (fun _ h => h) (fun g hg => HH.out.below.block g (HSS.out g hg))) HH.out.walk
                                      rw [allZ_drop hk] at hrest
                                      have hle2 := oneZ_le (hasZ s.types) pl[k] 1 m hm'
                                      generalize oneZ (hasZ s.types) 1 m pl[k] = r at *
                                      obtain ⟨e2, t2⟩ := r
                                      generalize ps[k] = y at *
                                      have HC := Lib.hid C; have HRE2 := Lib.hid hrest; have HLE := Lib.hid hle2
                                      clear C hrest hc2 hle2
                                      go_wp2_with (go_at_call 43; (with_reducible refine HC.out.mono ?_); rintro e3 w2 ⟨rfl, x2, x3, x4⟩; have hz2 := x4.size; obtain ⟨⟨m0, m1, m2, m3, m4, m5⟩, _⟩ := six_blkF ((x3.block w.heap.size (by omega)).trans HH.out.box); have HX2 := Lib.hid x2; have HX3 := Lib.hid x3; have HX4 := Lib.hid x4; clear x2 x3 x4)
                                      go_roundw
                                      case rel => exact ⟨k + 1, e2, t2, ⟨by go_num, rfl, by omega, fun h => ⟨by have := HRE2.out; rw [if_pos h] at this; exact this, HLE.out h⟩, fun h => by have := HRE2.out; rw [if_neg h] at this; exact this.symm, (HX3.out.block w.heap.size (by omega)).trans HH.out.box, HX2.out, HH.out.below.trans (HX3.out.mono (by omega))⟩, (HX4.out.blk _ hfz (by omega)).trans HFB.out⟩
                                      case measure => simp [intOf]; omega
                                    · have hkz : ¬ (k : Int) < (pl.length : Int) := by omega
                                      have hf4 : f4 = (0, m) := by rw [← hrest, List.drop_of_length_le (by omega)]; rfl
                                      have C : Calls Try.prog 43 #[.pointer (some ⟨wb, 0, none⟩), .agg #[.int .i64 xr.k, .string xr.n, .slice xr.an xr.ln xr.cn, .slice xr.ak xr.lk xr.ck], .int .i64 1] wr _ := may_ref S wb s c a1 _ us gs c1 c2 (by unfold maxLen; omega) rt HF5.out xr 1 m wr HSG.out hwz4 hm' (by omega) (HV.out.keep (fun g hg => HH.out.below.block g (HSS.out g hg))) (HRES.out.keep (fun _ h => h) (fun g hg => HH.out.below.block g (HSS.out g hg))) HH.out.walk
                                      have hle2 := oneZ_le (hasZ s.types) rt 1 m hm'
                                      have hdr := HD4.out
                                      rw [hf4] at hdr
                                      simp only [not_true_eq_false, if_false] at hdr
                                      generalize oneZ (hasZ s.types) 1 m rt = r at *
                                      obtain ⟨e2, t2⟩ := r
                                      have HC := Lib.hid C; have HLE := Lib.hid hle2; have HDD := Lib.hid hdr
                                      clear C hrest hle2 hf4 hdr
                                      by_cases he2 : e2 = 0
                                      · subst he2
                                        have hfew := HLE.out rfl
                                        have hnx : fnsZ (hasZ s.types) t2 nm (s.sigs.drop (j + 1)) = fu := by have := HDD.out; rw [if_pos rfl] at this; exact this.symm
                                        have HNX := Lib.hid hnx
                                        clear hnx
                                        go_wp2_with (go_at_call 43; (with_reducible refine HC.out.mono ?_); rintro e3 w2 ⟨rfl, x2, x3, x4⟩; have hz2 := x4.size; obtain ⟨⟨m0, m1, m2, m3, m4, m5⟩, _⟩ := six_blkF ((x3.block w.heap.size (by omega)).trans HH.out.box); have HX2 := Lib.hid x2; have HX3 := Lib.hid x3; have HX4 := Lib.hid x4; clear x2 x3 x4)
                                        go_roundw
                                        case rel => exact ⟨j + 1, t2, by go_num, rfl, by omega, hfew, by rw [HPN.out]; exact HNX.out, (HX3.out.block w.heap.size (by omega)).trans HH.out.box, HX2.out, HH.out.below.trans (HX3.out.mono (by omega))⟩
                                        case measure => simp [intOf]; omega
                                      · have hez : ((e2 : Int) == 0) = false := by rw [beq_eq_false_iff_ne]; omega
                                        have hb : fu = (e2, t2) := by have := HDD.out; rw [if_neg he2] at this; exact this
                                        have hv : refC s = e2 := HBAD.out e2 t2 he2 hb
                                        have HVV := Lib.hid hv
                                        clear hv hb
                                        go_wp2_with (go_at_call 43; (with_reducible refine HC.out.mono ?_); rintro e3 w2 ⟨rfl, x2, x3, x4⟩; have hz2 := x4.size; obtain ⟨⟨m0, m1, m2, m3, m4, m5⟩, _⟩ := six_blkF ((x3.block w.heap.size (by omega)).trans HH.out.box); have HX2 := Lib.hid x2; have HX3 := Lib.hid x3; have HX4 := Lib.hid x4; clear x2 x3 x4)
                                        go_ret
                                        exact ⟨ret_intZ (by rw [HVV.out]), HH.out.below.trans (HX3.out.mono (by omega))⟩
                                  · have hez : ((e : Int) == 0) = false := by rw [beq_eq_false_iff_ne]; omega
                                    have hfe := HH.out.bad he
                                    have hb : fu = (e, m) := by
                                      have := HD4.out
                                      rw [hfe] at this
                                      simp only [he, not_false_eq_true, if_true, if_false] at this
                                      exact this
                                    have hv : refC s = e := HBAD.out e m he hb
                                    have HVV := Lib.hid hv
                                    clear hv hb hfe
                                    by_cases hk : k < pl.length
                                    · have hkz : (k : Int) < (pl.length : Int) := by omega
                                      go_wp2
                                      go_ret
                                      exact ⟨ret_intZ (by rw [HVV.out]), HH.out.below⟩
                                    · have hkz : ¬ (k : Int) < (pl.length : Int) := by omega
                                      go_wp2
                                      go_ret
                                      exact ⟨ret_intZ (by rw [HVV.out]), HH.out.below⟩
                            · have hb : fu = (6, n) := by
                                rw [HDR.out, show nameE (prevN (s.sigs.map (·.name)) j) nm (builtinB nm) = 6 by unfold nameE; rw [HID.out, HWD.out, HLB.out]; simp]; simp
                              have hv : refC s = 6 := HBAD.out 6 n (by decide) hb
                              have HVV := Lib.hid hv
                              clear hb hv
                              go_wp2
                              go_ret
                              exact ⟨ret_intZ (by rw [HVV.out]; rfl), HB5.out⟩
                        · have hb : fu = (15, n) := by
                            rw [HDR.out, show nameE (prevN (s.sigs.map (·.name)) j) nm (builtinB nm) = 15 by unfold nameE; simp [hwd]]; simp
                          have hv : refC s = 15 := HBAD.out 15 n (by decide) hb
                          rw [hwd] at CW
                          have HVV := Lib.hid hv; have HCW := Lib.hid CW
                          clear hb hv CW hwd hid
                          go_wp2_with (first | (go_at_call 41; (with_reducible refine HCI.out.mono ?_); rintro e w2 ⟨rfl, rfl⟩) | (go_at_call 44; (with_reducible refine HCW.out.mono ?_); rintro e w2 ⟨rfl, rfl⟩))
                          go_ret
                          exact ⟨ret_intZ (by rw [HVV.out]; rfl), HBW.out⟩
                    · have hjz : ¬ (j : Int) < (s.sigs.length : Int) := by omega
                      obtain rfl : j = s.sigs.length := by omega
                      have hend : fu = (0, n) := by rw [← H.out.rest, List.drop_of_length_le (Nat.le_refl _)]; rfl
                      have hfn := HFF.out
                      rw [hend] at hfn
                      have hrc : refC s = if (finiteR s.types).length ≠ s.types.length then 14 else if (allT s).any (nestR s.types) = true then 17 else 0 := by rw [HRC.out, HGO.out, hfn, if_neg (by simp)]
                      have hkd := HKD.out n hfn
                      have hfew := fnsZ_few _ _ _ _ (show (fnsZ (hasZ s.types) n2 [] s.sigs).1 = 0 by rw [hfn])
                      obtain ⟨nb, hnb⟩ : ∃ nb, ((((finiteR s.types).length : Nat) : Int) != (s.types.length : Int)) = nb := ⟨_, rfl⟩
                      have HRC2 := Lib.hid hrc; have HKD2 := Lib.hid hkd; have HFEW := Lib.hid hfew; have HNB := Lib.hid hnb
                      clear hend hfn hrc hkd hfew hnb
                      go_wp2_with fail
                      refine wp_region_by (QJ (fun (x : Option Addr × Nat) i => match i with | 0 => .agg #[.int .i64 c.k, .string c.n, .slice c.an c.ln c.cn, .slice c.ak c.lk c.ck, .slice a1 s.types.length c1, .slice a2 s.sigs.length c2] | 1 => .slice x.1 (finiteR s.types).length x.2 | 2 => .int .i64 ((finiteR s.types).length : Nat) | 3 => .pointer (some ⟨w.heap.size, 4, none⟩) | 4 => .slice a1 s.types.length c1 | 5 => .int .i64 s.types.length | 6 => .bool nb | _ => undef) (fun _ _ v => Below wr.heap.size wr v)) (by kernel_rfl) ?_ ?_ ?_
                      · exact ⟨by simp, Closed.start _, (none, 0), Fr.start _ _ _, Below.drew (Below.refl _ _)⟩
                      · intro listed b v q hJ hi
                        obtain ⟨hsz, hC, x, hF, hM⟩ := hJ
                        obtain ⟨hl1, hiN⟩ := not_up hsz hi
                        obtain ⟨_, o, ho, hdeps⟩ := mem_ready.1 hi
                        have hiN : q < 7 := hiN
                        obtain rfl | rfl | rfl | rfl | rfl | rfl | rfl : q = 0 ∨ q = 1 ∨ q = 2 ∨ q = 3 ∨ q = 4 ∨ q = 5 ∨ q = 6 := by omega
                        · cases ho
                          obtain ⟨⟨y0, y1, y2, y3, y4, y5⟩, _⟩ := six_blkF ((hM.block w.heap.size (by omega)).trans H.out.box)
                          have e1 := hF.old_is 1 (by rfl) rfl
                          refine QJ.quiet (x := x) hsz hC hi hF (Slots.of (by rfl)) rfl (wanted_none rfl) hM ?_
                          show _ = Result.ok (Next.value (.agg #[.int .i64 c.k, .string c.n, .slice c.an c.ln c.cn, .slice c.ak c.lk c.ck, .slice a1 s.types.length c1, .slice a2 s.sigs.length c2])) v
                          simp [execOp, go_sem, e1, y0, y1, y2, y3, y4, y5]
                        · cases ho
                          have e161 : b.tmps[161]? = some (.agg #[.int .i64 c.k, .string c.n, .slice c.an c.ln c.cn, .slice c.ak c.lk c.ck, .slice a1 s.types.length c1, .slice a2 s.sigs.length c2]) := hF.up 0 161 rfl (hdeps ⟨0, .data⟩ (by simp) rfl)
                          refine QJ.call (x := x) (f := 45) (args := #[.agg #[.int .i64 c.k, .string c.n, .slice c.an c.ln c.cn, .slice c.ak c.lk c.ck, .slice a1 s.types.length c1, .slice a2 s.sigs.length c2]]) hsz hC hi hF (Slots.of (by rfl)) rfl (wanted_none rfl) (by simp [execOp, go_sem, e161]) (finite_ref s c a1 a2 us gs c1 c2 v ((SzS.mk HSS.out HV.out : SzS S w s c a1 a2 us gs).anyB (H.out.below.trans (hM.mono (by omega)))) (by omega) HF.out) ?_
                          rintro e w' ⟨la', lc', rfl, _, hb⟩
                          exact ⟨(la', lc'), rfl, fun q hq => match q, (show q ≠ 1 by rintro rfl; rw [hl1] at hq; cases hq) with | 0, _ => rfl | 1, h => absurd rfl h | 2, _ => rfl | 3, _ => rfl | 4, _ => rfl | 5, _ => rfl | 6, _ => rfl | _ + 7, _ => rfl, hM.trans (hb.mono hM.size)⟩
                        · cases ho
                          have e162 : b.tmps[162]? = some (.slice x.1 (finiteR s.types).length x.2) := hF.up 1 162 rfl (hdeps ⟨1, .data⟩ (by simp) rfl)
                          refine QJ.quiet (x := x) hsz hC hi hF (Slots.of (by rfl)) rfl (wanted_none rfl) hM ?_
                          show _ = Result.ok (Next.value (.int .i64 ((finiteR s.types).length : Nat))) v
                          simp [execOp, go_sem, e162]
                        · cases ho
                          have e1 := hF.old_is 1 (by rfl) rfl
                          refine QJ.quiet (x := x) hsz hC hi hF (Slots.of (by rfl)) rfl (wanted_none rfl) hM ?_
                          show _ = Result.ok (Next.value (.pointer (some ⟨w.heap.size, 4, none⟩))) v
                          simp [execOp, go_sem, e1]
                        · cases ho
                          obtain ⟨⟨y0, y1, y2, y3, y4, y5⟩, _⟩ := six_blkF ((hM.block w.heap.size (by omega)).trans H.out.box)
                          have e164 : b.tmps[164]? = some (.pointer (some ⟨w.heap.size, 4, none⟩)) := hF.up 3 164 rfl (hdeps ⟨3, .data⟩ (by simp) rfl)
                          refine QJ.quiet (x := x) hsz hC hi hF (Slots.of (by rfl)) rfl (wanted_none rfl) hM ?_
                          show _ = Result.ok (Next.value (.slice a1 s.types.length c1)) v
                          simp [execOp, go_sem, e164, y4]
                        · cases ho
                          have e165 : b.tmps[165]? = some (.slice a1 s.types.length c1) := hF.up 4 165 rfl (hdeps ⟨4, .data⟩ (by simp) rfl)
                          refine QJ.quiet (x := x) hsz hC hi hF (Slots.of (by rfl)) rfl (wanted_none rfl) hM ?_
                          show _ = Result.ok (Next.value (.int .i64 s.types.length)) v
                          simp [execOp, go_sem, e165]
                        · cases ho
                          have e163 : b.tmps[163]? = some (.int .i64 ((finiteR s.types).length : Nat)) := hF.up 2 163 rfl (hdeps ⟨2, .data⟩ (by simp) rfl)
                          have e166 : b.tmps[166]? = some (.int .i64 s.types.length) := hF.up 5 166 rfl (hdeps ⟨5, .data⟩ (by simp) rfl)
                          refine QJ.quiet (x := x) hsz hC hi hF (Slots.of (by rfl)) rfl (wanted_none rfl) hM ?_
                          show _ = Result.ok (Next.value (.bool nb)) v
                          simp [execOp, go_sem, e163, e166, HNB.out]
                      · intro listed b W5 hJ hr
                        obtain ⟨hsz, hC, x, hF, hM⟩ := hJ
                        have hall := all_upB (by rfl) hsz hr
                        have hb : b = putAll _ _ _ 7 := hF.done (Slots.of (by rfl)) hall
                        subst hb
                        simp only [putAll]
                        simp [dstOf, Act.put]
                        have hb5 := H.out.below.trans (hM.mono H.out.below.size)
                        have hs5 := (hM.block w.heap.size (by omega)).trans H.out.box
                        have hz5 := hM.size
                        obtain ⟨⟨r0, r1, r2, r3, r4, r5⟩, _⟩ := six_blkF hs5
                        have HB5 := Lib.hid hb5; have HS5 := Lib.hid hs5
                        clear hM hF hC hall hr hsz hb5 hs5 p0 p1 p2 p3 p4 p5
                        cases nb
                        · have hrc : refC s = if (allT s).any (nestR s.types) = true then 17 else 0 := by
                            have := HNB.out
                            rw [bne_eq_false_iff_eq] at this
                            rw [HRC2.out, if_neg (by omega)]
                          have C := all_ref S s c a1 a2 us gs c1 c2 W5 (fun g hg => by have := HSS.out g hg; omega) (HV.out.keep (fun g hg => HB5.out.block g (HSS.out g hg))) ht12 hs12 (fun i hi => (HFEW.out _ (List.getElem_mem hi)).1)
                          have HRC3 := Lib.hid hrc; have HC := Lib.hid C
                          clear hrc C
                          go_wp2_with (go_at_call 46; (with_reducible refine HC.out.mono ?_); rintro e W6 ⟨la, lc, cs, rfl, hrow, hcs, hb6⟩; have hz6 := hb6.size; have HROW := Lib.hid hrow; have HCS := Lib.hid hcs; have HX6 := Lib.hid hb6; clear hrow hcs hb6)
                          have hbx6 := (HX6.out.block w.heap.size (by omega)).trans HS5.out
                          have hb6 := HB5.out.trans (HX6.out.mono (by omega))
                          have HBX6 := Lib.hid hbx6; have HB6 := Lib.hid hb6
                          clear hbx6 hb6 r0 r1 r2 r3 r4 r5
                          obtain ⟨ob, hob⟩ : ∃ ob, (allT s).any (nestR s.types) = ob := ⟨_, rfl⟩
                          have HOB := Lib.hid hob
                          clear hob
                          have hal : (allT s).length ≤ 1000000 := by
                            have : ∀ l : List Sg, (∀ g ∈ l, g.params.length ≤ 4) → (l.flatMap sgT).length ≤ 5 * l.length := by
                              intro l
                              induction l with
                              | nil => intro _; simp
                              | cons g l ih => intro h; have h1 := h g List.mem_cons_self; have h2 := ih (fun x hx => h x (List.mem_cons_of_mem _ hx)); rw [List.flatMap_cons, List.length_append]; unfold sgT at *; simp at *; omega
                            have h3 := this s.sigs (fun g hg => (HFEW.out g hg).1)
                            unfold allT; simp at *; omega
                          obtain ⟨Wo, hwo⟩ : ∃ Wo, Wo = wr := ⟨_, rfl⟩
                          subst hwo
                          go_loopw [11] (fun v11 wr => ∃ k, OlR w W6 s ob v11 wr k) (fun v11 _ => (allT s).length - (intOf v11).toNat)
                          case atStart => exact ⟨0, rfl, Nat.zero_le _, HOB.out, Below.refl _ _⟩
                          case round =>
                            obtain ⟨k, h⟩ := hrel
                            obtain rfl := h.slot
                            have hle := h.le
                            have hzz := h.below.size
                            have HH := Lib.hid h
                            clear h
                            by_cases hk : k < (allT s).length
                            · have hkz : (k : Int) < ((allT s).length : Int) := by omega
                              have hk0 : (0 : Int) ≤ (k : Int) := by omega
                              have hku : k < cs.length := by rw [HCS.out.len]; exact hk
                              obtain ⟨g, o, rfl, hg, hc⟩ := four_at HROW.out (fun _ h => h) k hku
                              have hrest := HH.out.rest
                              rw [List.drop_eq_getElem_cons hk, List.any_cons] at hrest
                              have hft := HF.out.all _ (List.getElem_mem hk)
                              have hkt := HKD2.out _ (List.getElem_mem hk)
                              have htv := HCS.out.val k hk hku
                              generalize (allT s)[k] = tk at *
                              generalize cs[k] = y at *
                              have HCK := Lib.hid hc; have HRR := Lib.hid hrest; have HFT := Lib.hid hft; have HKT := Lib.hid hkt; have HTV := Lib.hid (htv.keep (fun _ h => h) (fun g hg => (HB5.out.block g (HSS.out g hg)).symm))
                              clear hc hrest hft hkt htv
                              go_wp2_with fail
                              refine wp_region_by (QJ (fun (_ : Unit) i => match i with | 0 => .agg #[.int .i64 c.k, .string c.n, .slice c.an c.ln c.cn, .slice c.ak c.lk c.ck, .slice a1 s.types.length c1, .slice a2 s.sigs.length c2] | 1 => .slice (some ⟨g, o, none⟩) (allT s).length lc | 2 => .int .i64 k | 3 => .pointer (some ⟨g, o + k * 4, none⟩) | 4 => .agg #[.int .i64 y.k, .string y.n, .slice y.an y.ln y.cn, .slice y.ak y.lk y.ck] | 5 => .bool (nestR s.types tk) | _ => undef) (fun (_ : Unit) _ v => Below wr.heap.size wr v)) (by kernel_rfl) ?_ ?_ ?_
                              · exact ⟨by simp, Closed.start _, (), Fr.start _ _ _, Below.drew (Below.refl _ _)⟩
                              · intro listed b v q hJ hi
                                obtain ⟨hsz, hC, x, hF, hM⟩ := hJ
                                obtain ⟨hl1, hiN⟩ := not_up hsz hi
                                obtain ⟨_, o, ho, hdeps⟩ := mem_ready.1 hi
                                have hiN : q < 6 := hiN
                                obtain rfl | rfl | rfl | rfl | rfl | rfl : q = 0 ∨ q = 1 ∨ q = 2 ∨ q = 3 ∨ q = 4 ∨ q = 5 := by omega
                                · cases ho
                                  obtain ⟨⟨y0, y1, y2, y3, y4, y5⟩, _⟩ := six_blkF ((hM.block w.heap.size (by omega)).trans ((HH.out.below.block w.heap.size (by omega)).trans HBX6.out))
                                  have e1 := hF.old_is 1 (by rfl) rfl
                                  refine QJ.quiet (x := x) hsz hC hi hF (Slots.of (by rfl)) rfl (wanted_none rfl) hM ?_
                                  show _ = Result.ok (Next.value (.agg #[.int .i64 c.k, .string c.n, .slice c.an c.ln c.cn, .slice c.ak c.lk c.ck, .slice a1 s.types.length c1, .slice a2 s.sigs.length c2])) v
                                  simp [execOp, go_sem, e1, y0, y1, y2, y3, y4, y5]
                                · cases ho
                                  have e10 := hF.old_is 10 (by rfl) rfl
                                  refine QJ.quiet (x := x) hsz hC hi hF (Slots.of (by rfl)) rfl (wanted_none rfl) hM ?_
                                  show _ = Result.ok (Next.value (.slice (some ⟨g, o, none⟩) (allT s).length lc)) v
                                  simp [execOp, go_sem, e10]
                                · cases ho
                                  have e11 := hF.old_is 11 (by rfl) rfl
                                  refine QJ.quiet (x := x) hsz hC hi hF (Slots.of (by rfl)) rfl (wanted_none rfl) hM ?_
                                  show _ = Result.ok (Next.value (.int .i64 k)) v
                                  simp [execOp, go_sem, e11]
                                · cases ho
                                  have e177 : b.tmps[177]? = some (.slice (some ⟨g, o, none⟩) (allT s).length lc) := hF.up 1 177 rfl (hdeps ⟨1, .data⟩ (by simp) rfl)
                                  have e178 : b.tmps[178]? = some (.int .i64 k) := hF.up 2 178 rfl (hdeps ⟨2, .data⟩ (by simp) rfl)
                                  refine QJ.quiet (x := x) hsz hC hi hF (Slots.of (by rfl)) rfl (wanted_none rfl) hM ?_
                                  show _ = Result.ok (Next.value (.pointer (some ⟨g, o + k * 4, none⟩))) v
                                  simp [execOp, go_sem, e177, e178, hk0, hkz]
                                · cases ho
                                  obtain ⟨y0, y1, y2, y3⟩ := HCK.out v (fun i hi => (hM.block i (by omega)).trans (HH.out.below.block i hi))
                                  have e179 : b.tmps[179]? = some (.pointer (some ⟨g, o + k * 4, none⟩)) := hF.up 3 179 rfl (hdeps ⟨3, .data⟩ (by simp) rfl)
                                  refine QJ.quiet (x := x) hsz hC hi hF (Slots.of (by rfl)) rfl (wanted_none rfl) hM ?_
                                  show _ = Result.ok (Next.value (.agg #[.int .i64 y.k, .string y.n, .slice y.an y.ln y.cn, .slice y.ak y.lk y.ck])) v
                                  simp [execOp, go_sem, e179, y0, y1, y2, y3]
                                · cases ho
                                  have e176 : b.tmps[176]? = some (.agg #[.int .i64 c.k, .string c.n, .slice c.an c.ln c.cn, .slice c.ak c.lk c.ck, .slice a1 s.types.length c1, .slice a2 s.sigs.length c2]) := hF.up 0 176 rfl (hdeps ⟨0, .data⟩ (by simp) rfl)
                                  have e180 : b.tmps[180]? = some (.agg #[.int .i64 y.k, .string y.n, .slice y.an y.ln y.cn, .slice y.ak y.lk y.ck]) := hF.up 4 180 rfl (hdeps ⟨4, .data⟩ (by simp) rfl)
                                  refine QJ.call (x := x) (f := 47) (args := #[.agg #[.int .i64 c.k, .string c.n, .slice c.an c.ln c.cn, .slice c.ak c.lk c.ck, .slice a1 s.types.length c1, .slice a2 s.sigs.length c2], .agg #[.int .i64 y.k, .string y.n, .slice y.an y.ln y.cn, .slice y.ak y.lk y.ck]]) hsz hC hi hF (Slots.of (by rfl)) rfl (wanted_none rfl) (by simp [execOp, go_sem, e176, e180]) (opts_ref S s c a1 a2 us gs c1 c2 (by omega) tk HFT.out HKT.out y v (fun g hg => by have := HSS.out g hg; have := hM.size; omega) (HV.out.keep (fun g hg => (hM.block g (by have := HSS.out g hg; omega)).trans ((HH.out.below.block g (by have := HSS.out g hg; omega)).trans (HB6.out.block g (HSS.out g hg))))) (HTV.out.keep (fun _ h => h) (fun g hg => (hM.block g (by have := HSS.out g hg; omega)).trans ((HH.out.below.block g (by have := HSS.out g hg; omega)).trans (HB6.out.block g (HSS.out g hg)))))) ?_
                                  rintro e w' ⟨rfl, hb⟩
                                  exact ⟨(), rfl, fun _ _ => rfl, hM.trans (hb.mono hM.size)⟩
                              · intro listed b W7 hJ hr
                                obtain ⟨hsz, hC, x, hF, hM⟩ := hJ
                                have hall := all_upB (by rfl) hsz hr
                                have hb : b = putAll _ _ _ 6 := hF.done (Slots.of (by rfl)) hall
                                subst hb
                                simp only [putAll]
                                simp [dstOf, Act.put]
                                have hb7 := HH.out.below.trans (hM.mono (by omega))
                                have HB7 := Lib.hid hb7
                                clear hM hF hC hall hr hsz hb7
                                cases hne : nestR s.types tk
                                · have hr2 : ((allT s).drop (k + 1)).any (nestR s.types) = ob := by have := HRR.out; rw [hne, Bool.false_or] at this; exact this
                                  have HRN := Lib.hid hr2
                                  clear hr2 hne
                                  go_wp2
                                  go_roundw
                                  case rel => exact ⟨k + 1, by go_num, by omega, HRN.out, HB7.out⟩
                                  case measure => simp [intOf]; omega
                                · have hr2 : ob = true := by have := HRR.out; rw [hne, Bool.true_or] at this; exact this.symm
                                  have hv : refC s = 17 := by rw [HRC3.out, HOB.out, hr2]; rfl
                                  have HVV := Lib.hid hv
                                  clear hr2 hne hv
                                  go_wp2
                                  go_ret
                                  exact ⟨ret_intZ (by rw [HVV.out]; rfl), HB6.out.trans (HB7.out.mono (by omega))⟩
                            · have hkz : ¬ (k : Int) < ((allT s).length : Int) := by omega
                              have hr2 : ob = false := by rw [← HH.out.rest, List.drop_of_length_le (by omega)]; rfl
                              have hv : refC s = 0 := by rw [HRC3.out, HOB.out, hr2]; rfl
                              have HVV := Lib.hid hv
                              clear hr2 hv
                              go_wp2
                              go_ret
                              exact ⟨ret_intZ (by rw [HVV.out]; rfl), HB6.out.trans (HH.out.below.mono (by omega))⟩
                        · have hv : refC s = 14 := by
                            have := HNB.out
                            rw [bne_iff_ne] at this
                            rw [HRC2.out, if_pos (by omega)]
                          have HVV := Lib.hid hv
                          clear hv
                          go_wp2
                          go_ret
                          exact ⟨ret_intZ (by rw [HVV.out]; rfl), HB5.out⟩
                · have hez : ((e2 : Int) == 0) = false := by rw [beq_eq_false_iff_ne]; omega
                  have hez2 : ¬ (e2 = 0) := he2
                  have hv : refC s = e2 := by rw [HRC.out, schZ_bad2 HFE.out HR.out he2, if_pos he2]
                  have HVV := Lib.hid hv
                  clear hv he2
                  go_wp2_with (go_at_call 43; (with_reducible refine HC.out.mono ?_); rintro e3 w2 ⟨rfl, x2, x3, x4⟩; have hz2 := x4.size; obtain ⟨⟨m0, m1, m2, m3, m4, m5⟩, _⟩ := six_blkF ((x3.block w.heap.size (by omega)).trans H.out.box); have HX2 := Lib.hid x2; have HX3 := Lib.hid x3; have HX4 := Lib.hid x4; clear x2 x3 x4)
                  go_ret
                  exact ⟨ret_intZ (by rw [HVV.out]), H.out.below.trans (HX3.out.mono (by omega))⟩
            · have hez : ((e : Int) == 0) = false := by rw [beq_eq_false_iff_ne]; omega
              have hfe := H.out.bad he
              have hv : refC s = e := by rw [HRC.out, schZ_bad1 (HFU.out.trans hfe) he, if_pos he]
              have HVV := Lib.hid hv
              clear hv hfe
              by_cases hj : j < s.types.length
              · have hjz : (j : Int) < (s.types.length : Int) := by omega
                go_wp2
                go_ret
                exact ⟨ret_intZ (by rw [HVV.out]), H.out.below⟩
              · have hjz : ¬ (j : Int) < (s.types.length : Int) := by omega
                go_wp2
                go_ret
                exact ⟨ret_intZ (by rw [HVV.out]), H.out.below⟩
end Sp
end Go.Proofs.Ytjjpjkkaogfoaaa

namespace Go.Proofs.Ytjjpjkkaogfoaaa
namespace Sp
open Sc

theorem bl_irrefl : ∀ a : List UInt8, Op.bytesLess a a = false
  | [] => rfl
  | a :: l => by simp [Op.bytesLess, bl_irrefl l]
theorem bl_trans : ∀ a b c : List UInt8, Op.bytesLess a b = true → Op.bytesLess b c = true → Op.bytesLess a c = true
  | [], [], _, h, _ => by simp [Op.bytesLess] at h
  | [], _ :: _, [], _, h => by simp [Op.bytesLess] at h
  | [], _ :: _, _ :: _, _, _ => by simp [Op.bytesLess]
  | _ :: _, [], _, h, _ => by simp [Op.bytesLess] at h
  | _ :: _, _ :: _, [], _, h => by simp [Op.bytesLess] at h
  | x :: a, y :: b, z :: c, h1, h2 => by
    have ih := bl_trans a b c
    simp only [Op.bytesLess] at h1 h2 ⊢
    simp only [Bool.or_eq_true, Bool.and_eq_true, decide_eq_true_eq, beq_iff_eq] at h1 h2 ⊢
    rcases h1 with h1 | ⟨rfl, h1⟩
    · rcases h2 with h2 | ⟨rfl, h2⟩
      · exact .inl (UInt8.lt_trans h1 h2)
      · exact .inl h1
    · rcases h2 with h2 | ⟨rfl, h2⟩
      · exact .inl h2
      · exact .inr ⟨rfl, ih h1 h2⟩
theorem bl_total : ∀ a b : List UInt8, Op.bytesLess a b = false → (a == b) = false → Op.bytesLess b a = true
  | [], [], _, h => by simp at h
  | [], _ :: _, h, _ => by simp [Op.bytesLess] at h
  | _ :: _, [], _, _ => by simp [Op.bytesLess]
  | x :: a, y :: b, h1, h2 => by
    have ih := bl_total a b
    simp only [Op.bytesLess] at h1 ⊢
    simp only [Bool.or_eq_false_iff, Bool.and_eq_false_imp, decide_eq_false_iff_not, beq_iff_eq] at h1
    simp only [Bool.or_eq_true, Bool.and_eq_true, decide_eq_true_eq, beq_iff_eq]
    by_cases e : x = y
    · subst e
      exact .inr ⟨rfl, ih (h1.2 rfl) (by simpa using h2)⟩
    · exact .inl (by
        have := h1.1
        rw [UInt8.lt_iff_toNat_lt] at this ⊢
        have : x.toNat ≠ y.toNat := fun h => e (UInt8.toNat_inj.1 h)
        omega)
theorem namesE_rise {tk : List UInt8 → Bool} : ∀ (ns : List (List UInt8)) (a : List UInt8), namesE tk a ns = 0 → (∀ x ∈ ns, Op.bytesLess a x = true) ∧ ns.Pairwise (fun x y => Op.bytesLess x y = true)
  | [], a, _ => ⟨(fun x hx => by cases hx), List.Pairwise.nil⟩
  | n :: ns, a, h => by
    rw [namesE] at h
    split at h
    · rename_i h1
      obtain ⟨k1, k2⟩ := namesE_rise ns n h
      have hl : Op.bytesLess a n = true := by
        unfold nameE at h1
        split at h1
        · cases h1
        · split at h1
          · cases h1
          · rename_i h2
            unfold leB at h2
            simp only [Bool.or_eq_true, not_or, Bool.not_eq_true] at h2
            exact bl_total n a h2.1 h2.2
      refine ⟨fun x hx => ?_, List.Pairwise.cons k1 k2⟩
      rcases List.mem_cons.1 hx with rfl | hx
      · exact hl
      · exact bl_trans a n x hl (k1 x hx)
    · rename_i h1; exact absurd h h1
theorem rise_once {tk : List UInt8 → Bool} {l : List NT} (h : namesE tk [] (l.map (·.1)) = 0) : NoTwice l := by
  have hp := (namesE_rise _ _ h).2
  rw [List.pairwise_iff_getElem] at hp
  intro i j hi hj e
  rcases Nat.lt_trichotomy i j with hlt | rfl | hlt
  · have := hp i j (by simpa using hi) (by simpa using hj) hlt
    simp only [List.getElem_map] at this
    rw [e, bl_irrefl] at this; cases this
  · rfl
  · have := hp j i (by simpa using hj) (by simpa using hi) hlt
    simp only [List.getElem_map] at this
    rw [e, bl_irrefl] at this; cases this

/-! ### What passes -/
mutual
theorem oneZ_good (has : List UInt8 → Bool) : ∀ (t : Tz) (d n : Nat), (oneZ has d n t).1 = 0 → kindsR t = true ∧ (oneZ has d n t).2 = n + sizeZ t
  | .mk k nm ns ks, d, n, h0 => by
    rw [oneZ] at h0 ⊢
    split at h0
    · cases h0
    · rename_i c1
      split at h0
      · cases h0
      · rename_i c2
        split at h0
        · rename_i h3; exact absurd h0 h3
        · rename_i h3
          obtain ⟨k1, k2⟩ := allZ_good has ks (d + 1) (n + 1) h0
          rw [if_neg c1, if_neg c2, if_neg h3, kindsR, sizeZ]
          refine ⟨?_, by omega⟩
          rw [k1, Bool.and_true, decide_eq_true_eq]
          have h4 : ownE has k nm ns ks.length = 0 := by simpa using h3
          unfold ownE at h4
          split at h4
          · cases h4
          · omega
theorem allZ_good (has : List UInt8 → Bool) : ∀ (ks : List Tz) (d n : Nat), (allZ has d n ks).1 = 0 → kindsRs ks = true ∧ (allZ has d n ks).2 = n + sizeZs ks
  | [], _, n, _ => ⟨rfl, by simp [allZ, sizeZs]⟩
  | t :: ks, d, n, h0 => by
    rw [allZ] at h0 ⊢
    split at h0
    · rename_i h1
      obtain ⟨a1, a2⟩ := oneZ_good has t d n h1
      obtain ⟨b1, b2⟩ := allZ_good has ks d _ h0
      rw [if_pos h1, kindsRs, a1, b1, sizeZs]
      exact ⟨rfl, by omega⟩
    · rename_i h1; exact absurd h0 h1
end
/-- Answers that loops and Opts have for themselves. -/
def own14 (e : Nat) : Prop := e ≠ 14 ∧ e ≠ 17
theorem nameE_14 (a n : List UInt8) (b : Bool) : own14 (nameE a n b) := by
  unfold nameE own14; split
  · decide
  · split <;> decide
theorem namesE_14 {tk : List UInt8 → Bool} : ∀ (ns : List (List UInt8)) (a : List UInt8), own14 (namesE tk a ns)
  | [], _ => by rw [namesE]; unfold own14; decide
  | n :: ns, a => by
    rw [namesE]; split
    · exact namesE_14 ns n
    · exact nameE_14 _ _ _
theorem ownE_14 (has : List UInt8 → Bool) (k : Int) (nm : List UInt8) (ns : List (List UInt8)) (m : Nat) : own14 (ownE has k nm ns m) := by
  unfold ownE
  split
  · unfold own14; decide
  · split
    · unfold own14; decide
    · split
      · unfold own14; decide
      · unfold fieldE
        split
        · unfold own14; decide
        · split
          · exact namesE_14 _ _
          · split <;> (unfold own14; decide)
mutual
theorem oneZ_14 (has : List UInt8 → Bool) : ∀ (t : Tz) (d n : Nat), own14 (oneZ has d n t).1
  | .mk k nm ns ks, d, n => by
    rw [oneZ]
    split
    · unfold own14; simp
    · split
      · unfold own14; simp
      · split
        · exact ownE_14 _ _ _ _ _
        · exact allZ_14 has ks _ _
theorem allZ_14 (has : List UInt8 → Bool) : ∀ (ks : List Tz) (d n : Nat), own14 (allZ has d n ks).1
  | [], _, _ => by rw [allZ]; unfold own14; simp
  | t :: ks, d, n => by
    rw [allZ]; split
    · exact allZ_14 has ks _ _
    · exact oneZ_14 has t _ _
end
theorem fnsZ_14 (has : List UInt8 → Bool) : ∀ (l : List Sg) (a : List UInt8) (n : Nat), own14 (fnsZ has n a l).1
  | [], _, _ => by rw [fnsZ]; unfold own14; simp
  | g :: l, a, n => by
    rw [fnsZ]; split
    · exact fnsZ_14 has l _ _
    · unfold fnZ
      split
      · exact nameE_14 _ _ _
      · split
        · unfold own14; simp
        · split
          · exact allZ_14 _ _ _ _
          · exact oneZ_14 _ _ _ _
theorem schZ_14 (s : Sz) : own14 (schZ s) := by
  unfold schZ
  simp only
  split
  · exact allZ_14 _ _ _ _
  · split
    · exact oneZ_14 _ _ _ _
    · exact fnsZ_14 _ _ _ _
/-- A schema of which it is told at least whether each type ends. -/
structure Told (s : Sz) : Prop where
  once : NoTwice s.types
  kinds : kindsRs (s.types.map (·.2)) = true
  mkind : kindsR s.main = true
  few : s.types.length ≤ 12
  size : totZ s.types + sizeZ s.main ≤ 400
theorem told_of {s : Sz} (h : refC s = 0 ∨ refC s = 14 ∨ refC s = 17) : Told s := by
  unfold refC at h
  by_cases h1 : 12 < s.types.length ∨ 12 < s.sigs.length
  · rw [if_pos h1] at h; omega
  · rw [if_neg h1] at h
    by_cases h2 : namesE wordB [] (s.types.map (·.1)) = 0
    · rw [if_neg (by simpa using h2)] at h
      by_cases h3 : schZ s = 0
      · have a0 : (allZ (hasZ s.types) 1 0 (s.types.map (·.2))).1 = 0 := by
          cases hh : allZ (hasZ s.types) 1 0 (s.types.map (·.2)) with
          | mk e n =>
            by_cases he : e = 0
            · exact he
            · rw [schZ_bad1 hh he] at h3; exact absurd h3 he
        obtain ⟨k1, k2⟩ := allZ_good _ _ _ _ a0
        have m0 : (oneZ (hasZ s.types) 1 (allZ (hasZ s.types) 1 0 (s.types.map (·.2))).2 s.main).1 = 0 := by
          cases hh : oneZ (hasZ s.types) 1 (allZ (hasZ s.types) 1 0 (s.types.map (·.2))).2 s.main with
          | mk e n =>
            by_cases he : e = 0
            · exact he
            · have := schZ_bad2 (n := (allZ (hasZ s.types) 1 0 (s.types.map (·.2))).2) (show _ = (0, _) from Prod.ext a0 rfl) hh he
              rw [this] at h3; exact absurd h3 he
        obtain ⟨k3, k4⟩ := oneZ_good _ _ _ _ m0
        have hle := allZ_le (hasZ s.types) (s.types.map (·.2)) 1 0 (by omega) a0
        have hle2 := oneZ_le (hasZ s.types) s.main 1 _ hle m0
        exact ⟨rise_once h2, k1, k3, by omega, by unfold totZ; omega⟩
      · rw [if_pos h3] at h
        have := schZ_14 s; unfold own14 at this; omega
    · rw [if_pos (by simpa using h2)] at h
      have := namesE_14 (tk := wordB) (s.types.map (·.1)) []; unfold own14 at this; omega
/-- Both ways of telling which types end agree. -/
theorem Told.same {s : Sz} {t : Tz} (h : Told s) (ht : kindsR t = true) (hs : sizeZ t ≤ 60000) : finiteZ s t = endsR (inR (finiteR s.types)) t := by
  have h1 := h.few
  have h2 := h.size
  have h3 : (s.types.length + 1) * totZ s.types ≤ 13 * 400 := Nat.mul_le_mul (by omega) (by omega)
  exact finiteZ_ok h.once h.kinds ht (by omega)

/-! ### What Tree makes -/
theorem sizeZs_append : ∀ a b : List Tz, sizeZs (a ++ b) = sizeZs a + sizeZs b
  | [], b => by simp [sizeZs]
  | t :: a, b => by simp only [List.cons_append, sizeZs, sizeZs_append a b]; omega
theorem kindsRs_append : ∀ a b : List Tz, kindsRs (a ++ b) = (kindsRs a && kindsRs b)
  | [], b => by simp [kindsRs]
  | t :: a, b => by simp only [List.cons_append, kindsRs, kindsRs_append a b, Bool.and_assoc]
theorem putT_good {n : List UInt8} {x t : Tz} (hx : kindsR x = true) (ht : kindsR t = true) : kindsR (putT n x t) = true ∧ sizeZ (putT n x t) ≤ sizeZ t + sizeZ x := by
  obtain ⟨k, nm, ns, ks⟩ := t
  rw [putT]
  split
  · exact ⟨ht, by omega⟩
  · rw [kindsR, Bool.and_eq_true] at ht
    have e := List.take_append_drop (posT ns n) ks
    have k1 := kindsRs_append (ks.take (posT ns n)) (ks.drop (posT ns n))
    have s1 := sizeZs_append (ks.take (posT ns n)) (ks.drop (posT ns n))
    rw [e] at k1 s1
    rw [ht.2] at k1
    have k2 := k1.symm
    rw [Bool.and_eq_true] at k2
    rw [kindsR, sizeZ, sizeZ, kindsRs_append, kindsRs_append, sizeZs_append, sizeZs_append, ht.1, k2.1, k2.2, s1]
    simp [kindsRs, sizeZs, hx]
    omega
/-- How great a tree may be. -/
def capT : Nat → Nat | 0 => 1 | d + 1 => 1 + 4 * capT d
theorem topK_low (nn d : Nat) (kd : Int) (h : d ≤ 1) : topK nn d kd ≤ 3 ∨ topK nn d kd = 9 := by
  unfold topK; split <;> omega
theorem treeR_good (names : List (List UInt8)) : ∀ (d : Nat) (r : Rw), kindsR (treeR names d r) = true ∧ sizeZ (treeR names d r) ≤ capT (d - 1)
  | 0, .mk kd n ns ks => by
    have h1 := topK_rng names.length 0 kd
    have hc0 : capT (0 - 1) = 1 := rfl
    rw [treeR, hc0]
    split
    · simp [kindsR, kindsRs, sizeZ, sizeZs]
    · simp only [kindsR, kindsRs, sizeZ, sizeZs]; simp; exact h1
  | d + 1, .mk kd n ns ks => by
    have h1 := topK_rng names.length (d + 1) kd
    obtain ⟨k, hk⟩ : ∃ k, topK names.length (d + 1) kd = k := ⟨_, rfl⟩
    by_cases hd : d = 0
    · subst hd
      have hc0 : capT (0 + 1 - 1) = 1 := rfl
      have h1' := topK_rng names.length (0 + 1) kd
      rw [hc0]
      rcases topK_low names.length (0 + 1) kd (by omega) with h | h
      · rw [treeR_leaf _ _ _ _ _ _ h]; simp only [kindsR, kindsRs, sizeZ, sizeZs]; simp; exact h1'
      · rw [treeR_name _ _ _ _ _ _ h]; simp [kindsR, kindsRs, sizeZ, sizeZs]
    · obtain ⟨e, he⟩ : ∃ e, d = e + 1 := ⟨d - 1, by omega⟩
      have ih := fun r => treeR_good names d r
      have hc : capT (d + 1 - 1) = 1 + 4 * capT (d - 1) := by rw [he]; rfl
      have hp : ∀ d, 1 ≤ capT d := fun d => by cases d <;> simp [capT] <;> omega
      have hp1 := hp (d - 1)
      rw [hc]
      rw [hk] at h1
      by_cases h9 : k = 9
      · rw [treeR_name _ _ _ _ _ _ (hk.trans h9)]; simp [kindsR, kindsRs, sizeZ, sizeZs]
      · by_cases h3 : k ≤ 3
        · rw [treeR_leaf _ _ _ _ _ _ (by rw [hk]; exact h3), hk]; simp only [kindsR, kindsRs, sizeZ, sizeZs]; simp; omega
        · by_cases h6 : k ≤ 6
          · rw [treeR_kid _ _ _ _ _ _ k hk (by omega)]
            obtain ⟨i1, i2⟩ := ih (kidR (.mk kd n ns ks) 0)
            split
            · exact ⟨i1, by omega⟩
            · simp only [kindsR, kindsRs, sizeZ, sizeZs, i1]; simp; omega
          · rw [treeR_recT _ _ _ _ _ _ k hk (by omega)]
            have hf : fldM k ns ≤ 4 := by unfold fldM; split <;> omega
            have key : ∀ i, kindsR (recT names d kd n ns ks k i) = true ∧ sizeZ (recT names d kd n ns ks k i) ≤ 1 + i * capT (d - 1) := by
              intro i
              induction i with
              | zero => rw [recT_zero]; simp only [kindsR, kindsRs, sizeZ, sizeZs]; simp; omega
              | succ i ihh =>
                obtain ⟨i1, i2⟩ := ih (kidR (.mk kd n ns ks) i)
                have := putT_good (n := fldN ns i) i1 ihh.1
                rw [recT_succ]
                refine ⟨this.1, ?_⟩
                have := this.2
                have := ihh.2
                rw [Nat.succ_mul]; omega
            obtain ⟨k1, k2⟩ := key (fldM k ns)
            have := Nat.mul_le_mul_right (capT (d - 1)) hf
            exact ⟨k1, by omega⟩
end Sp
end Go.Proofs.Ytjjpjkkaogfoaaa

namespace Go.Proofs.Ytjjpjkkaogfoaaa
namespace Sp
open Sc

theorem fitZs_append : ∀ a b : List Tz, fitZs (a ++ b) = (fitZs a && fitZs b)
  | [], b => by simp [fitZs]
  | t :: a, b => by simp only [List.cons_append, fitZs, fitZs_append a b, Bool.and_assoc]
theorem fit_mk {k : Int} {nm : List UInt8} {ns : List (List UInt8)} {ks : List Tz} (h1 : nm.length ≤ 100) (h2 : ns.length ≤ 100) (h3 : ∀ n ∈ ns, n.length ≤ 100) (h4 : ks.length ≤ 100) (h5 : fitZs ks = true) : fitZ (.mk k nm ns ks) = true := by
  rw [fitZ, h5]
  simp only [Bool.and_eq_true, decide_eq_true_eq, List.all_eq_true]
  unfold maxLen
  exact ⟨⟨by omega, ⟨by omega, fun n hn => by have := h3 n hn; omega⟩, by omega⟩, trivial⟩
theorem nameL_len (n : Int) : (nameL n).length ≤ 100 := by
  unfold nameL
  have h : 0 ≤ n % 7 ∧ n % 7 < 7 := by omega
  obtain ⟨k, hk⟩ : ∃ k : Nat, n % 7 = k := ⟨(n % 7).toNat, by omega⟩
  rw [hk]
  have hk7 : k < 7 := by omega
  match k, hk7 with
  | 0, _ => decide
  | 1, _ => decide
  | 2, _ => decide
  | 3, _ => decide
  | 4, _ => decide
  | 5, _ => decide
  | 6, _ => decide
theorem fldN_len (ns : List Int) (i : Nat) : (fldN ns i).length ≤ 100 := by
  unfold fldN
  split
  · exact nameL_len _
  · decide
/-- A record's, a union's parts: few, and such as memory can hold. -/
structure FitR (t : Tz) (i : Nat) : Prop where
  form : ∃ k ms us, t = .mk k [] ms us ∧ ms.length = us.length ∧ ms.length ≤ i ∧ (∀ n ∈ ms, n.length ≤ 100) ∧ fitZs us = true
theorem FitR.put {t x : Tz} {i : Nat} {n : List UInt8} (h : FitR t i) (hn : n.length ≤ 100) (hx : fitZ x = true) : FitR (putT n x t) (i + 1) := by
  obtain ⟨k, ms, us, rfl, h1, h2, h3, h4⟩ := h
  rw [putT]
  split
  · exact ⟨k, ms, us, rfl, h1, by omega, h3, h4⟩
  · have hp := posT_le ms n
    have e := List.take_append_drop (posT ms n) us
    have k1 := fitZs_append (us.take (posT ms n)) (us.drop (posT ms n))
    rw [e, h4] at k1
    have k2 := k1.symm
    rw [Bool.and_eq_true] at k2
    refine ⟨k, _, _, rfl, by simp; omega, by simp; omega, fun m hm => ?_, ?_⟩
    · simp only [List.mem_append, List.mem_singleton] at hm
      rcases hm with (hm | rfl) | hm
      · exact h3 m (List.mem_of_mem_take hm)
      · exact hn
      · exact h3 m (List.mem_of_mem_drop hm)
    · rw [fitZs_append, fitZs_append, k2.1, k2.2]; simp [fitZs, hx]
theorem FitR.fit {t : Tz} {i : Nat} (h : FitR t i) (hi : i ≤ 100) : fitZ t = true := by
  obtain ⟨k, ms, us, rfl, h1, h2, h3, h4⟩ := h
  exact fit_mk (by simp) (by omega) h3 (by omega) h4
theorem treeR_fit (names : List (List UInt8)) (hn : ∀ n ∈ names, n.length ≤ 100) : ∀ (d : Nat) (r : Rw), fitZ (treeR names d r) = true
  | 0, .mk kd n ns ks => by
    have hl : (names.getD (n % names.length).toNat []).length ≤ 100 := by
      rw [List.getD]
      cases h : names[(n % names.length).toNat]? with
      | none => simp
      | some x => exact hn x (List.mem_of_getElem? h)
    rw [treeR]
    split
    · exact fit_mk hl (by simp) (fun n hn => by cases hn) (by simp) rfl
    · exact fit_mk (by simp) (by simp) (fun n hn => by cases hn) (by simp) rfl
  | d + 1, .mk kd n ns ks => by
    have hl : (names.getD (n % names.length).toNat []).length ≤ 100 := by
      rw [List.getD]
      cases h : names[(n % names.length).toNat]? with
      | none => simp
      | some x => exact hn x (List.mem_of_getElem? h)
    have h1 := topK_rng names.length (d + 1) kd
    obtain ⟨k, hk⟩ : ∃ k, topK names.length (d + 1) kd = k := ⟨_, rfl⟩
    have ih := fun r => treeR_fit names hn d r
    rw [hk] at h1
    by_cases h9 : k = 9
    · rw [treeR_name _ _ _ _ _ _ (hk.trans h9)]
      exact fit_mk hl (by simp) (fun n hn => by cases hn) (by simp) rfl
    · by_cases h3 : k ≤ 3
      · rw [treeR_leaf _ _ _ _ _ _ (by rw [hk]; exact h3)]
        exact fit_mk (by simp) (by simp) (fun n hn => by cases hn) (by simp) rfl
      · by_cases h6 : k ≤ 6
        · rw [treeR_kid _ _ _ _ _ _ k hk (by omega)]
          split
          · exact ih _
          · exact fit_mk (by simp) (by simp) (fun n hn => by cases hn) (by simp) (by rw [fitZs, ih]; rfl)
        · rw [treeR_recT _ _ _ _ _ _ k hk (by omega)]
          have hf : fldM k ns ≤ 4 := by unfold fldM; split <;> omega
          have key : ∀ i, FitR (recT names d kd n ns ks k i) i := by
            intro i
            induction i with
            | zero => exact ⟨k, [], [], rfl, rfl, Nat.le_refl _, (fun n hn => by cases hn), rfl⟩
            | succ i ihh => rw [recT_succ]; exact ihh.put (fldN_len ns i) (ih _)
          exact (key (fldM k ns)).fit (by omega)
theorem nm4_len : ∀ n ∈ nm4, n.length ≤ 100 := by decide
theorem namesR_len100 (types : List Rw) : ∀ n ∈ namesR types, n.length ≤ 100 := fun n hn => nm4_len n (List.mem_of_mem_take hn)
theorem schR_fit (main : Rw) (types sigs : List Rw) : SzFit (schR main types sigs) := by
  have hn := namesR_len100 types
  refine ⟨treeR_fit _ hn _ _, fun i hi => ?_, fun i hi => ?_⟩
  · simp only [schR, ntR, List.getElem_map, List.getElem_range]
    refine ⟨?_, treeR_fit _ hn _ _⟩
    rw [List.getD]
    cases h : (namesR types)[i]? with
    | none => simp
    | some x => have := hn x (List.mem_of_getElem? h); unfold maxLen; simp; omega
  · simp only [schR, sgsR, List.getElem_map, List.getElem_range]
    unfold sgR fitG
    simp only [Bool.and_eq_true, decide_eq_true_eq]
    refine ⟨⟨⟨?_, ?_⟩, ?_⟩, treeR_fit _ hn _ _⟩
    · have : ∀ n ∈ fn4, n.length ≤ 100 := by decide
      rw [List.getD]
      cases h : fn4[i]? with
      | none => simp
      | some x => have := this x (List.mem_of_getElem? h); unfold maxLen; simp; omega
    · simp only [parR, List.length_map, List.length_range]; unfold maxLen; omega
    · have : ∀ l : List Tz, (∀ t ∈ l, fitZ t = true) → fitZs l = true := by
        intro l
        induction l with
        | nil => intro _; rfl
        | cons t l ih => intro h; rw [fitZs, h t List.mem_cons_self, ih (fun x hx => h x (List.mem_cons_of_mem _ hx))]; rfl
      refine this _ fun t ht => ?_
      obtain ⟨k, _, rfl⟩ := List.mem_map.1 ht
      exact treeR_fit _ hn _ _
theorem schR_types (main : Rw) (types sigs : List Rw) : (schR main types sigs).types.length = min types.length 4 := by simp [schR, ntR, namesR_len]
theorem schR_sigs (main : Rw) (types sigs : List Rw) : (schR main types sigs).sigs.length = min sigs.length 4 := by simp [schR, sgsR]
end Sp
end Go.Proofs.Ytjjpjkkaogfoaaa

namespace Go.Proofs.Ytjjpjkkaogfoaaa
open Go.RowKit
namespace Sp
open Sc

set_option maxRecDepth 100000 in
set_option maxHeartbeats 16000000 in
theorem Schema_any (main : Rw) (types sigs : List Rw) (c : R4) (at1 at2 : Option Addr) (ut us : List R4) (c1 c2 : Nat) (w : World) (hM : RwV w main c) (hT : RwsV w types at1 ut) (hG : RwsV w sigs at2 us) (hl1 : types.length ≤ maxLen) (hl2 : sigs.length ≤ maxLen) :
    Calls Try.prog 15 #[.agg #[.int .i64 c.k, .int .i64 c.n, .slice c.an c.ln c.cn, .slice c.ak c.lk c.ck], .slice at1 types.length c1, .slice at2 sigs.length c2] w (SchP (schR main types sigs) w) := by
  unfold maxLen at hl1 hl2
  have HM := Lib.hid hM; have HT := Lib.hid hT; have HG := Lib.hid hG
  clear hM hT hG
  obtain ⟨W0, hW0⟩ : ∃ W0, W0 = ((w.alloc (.cells #[.int .i64 c.k, .int .i64 c.n, .slice c.an c.ln c.cn, .slice c.ak c.lk c.ck] 33)).alloc (.cells #[.int .i64 0, .string ⟨#[]⟩, .slice none 0 0, .slice none 0 0, .slice none 0 0, .slice none 0 0] 29)).alloc (.cells #[.int .i64 0, .string ⟨#[]⟩, .slice none 0 0, .slice none 0 0, .slice none 0 0, .slice none 0 0] 29) := ⟨_, rfl⟩
  have hb0 : Below w.heap.size w W0 := by rw [hW0]; exact (((Below.refl _ _).alloc (Nat.le_refl _) _).alloc (by simp) _).alloc (by simp; omega) _
  have hz0 : W0.heap.size = w.heap.size + 3 := by rw [hW0]; simp
  have hr0 : W0.heap[w.heap.size]? = some (.cells #[.int .i64 c.k, .int .i64 c.n, .slice c.an c.ln c.cn, .slice c.ak c.lk c.ck] 33 (0, 0)) := by rw [hW0, blk_if, if_neg (by simp; omega), blk_if, if_neg (by simp), blk_if, if_pos rfl]
  have ho0 : W0.heap[w.heap.size + 1]? = some (.cells #[.int .i64 0, .string ⟨#[]⟩, .slice none 0 0, .slice none 0 0, .slice none 0 0, .slice none 0 0] 29 (0, 0)) := by rw [hW0, blk_if, if_neg (by simp), blk_if, if_pos (by simp)]
  have hs0 : W0.heap[w.heap.size + 2]? = some (.cells #[.int .i64 0, .string ⟨#[]⟩, .slice none 0 0, .slice none 0 0, .slice none 0 0, .slice none 0 0] 29 (0, 0)) := by rw [hW0, blk_if, if_pos (by simp)]
  have HW0 := Lib.hid hW0; have HB0 := Lib.hid hb0; have HR0 := Lib.hid hr0; have HO0 := Lib.hid ho0; have HS0 := Lib.hid hs0
  obtain ⟨is, his, js, ls, ms⟩ := info_parts infoS
  obtain ⟨ik, hik, jk, kk, lk⟩ := info_parts infoTz
  obtain ⟨ig, hig, jg, kg, lg⟩ := info_parts infoG
  obtain ⟨im, him, jm, km, lm⟩ := info_parts infoN
  have HIs := Lib.hid his; have HJs := Lib.hid js; have HKs := Lib.hid ls; have HLs := Lib.hid ms
  have HIk := Lib.hid hik; have HJk := Lib.hid jk; have HKk := Lib.hid kk; have HLk := Lib.hid lk
  have HIg := Lib.hid hig; have HJg := Lib.hid jg; have HKg := Lib.hid kg; have HLg := Lib.hid lg
  have HIm := Lib.hid him; have HJm := Lib.hid jm; have HKm := Lib.hid km; have HLm := Lib.hid lm
  clear hW0 hb0 hr0 ho0 hs0 his js ls ms hik jk kk lk hig jg kg lg him jm km lm
  go_enter Try.func15, Try.ntmps15
  go_upto_block 0 with fail
  rw [← HW0.out]
  go_cut [8, 9] (fun s8 s9 wx => ∃ na nc, s8 = .slice na (namesR types).length nc ∧ s9 = .int .i64 (namesR types).length ∧ wx.ownsRow (w.heap.size + 3) 9 1 (.slice na (namesR types).length nc) (namesR types).length (nmF (namesR types)) ∧ Below (w.heap.size + 3) W0 wx)
  case first =>
    go_wp2_with fail
    go_loopw [8, 9] (fun v8 v9 wr => ∃ i, L1 w W0 types v8 v9 wr i) (fun _ v9 _ => 4 - (intOf v9).toNat)
    case atStart => exact ⟨0, rfl, ⟨Nat.zero_le _, Nat.zero_le _⟩, World.ownsRow_nil _ _ _ _, Below.refl _ _⟩
    case round =>
      obtain ⟨i, h⟩ := hrel
      obtain rfl := h.slot
      obtain ⟨hi1, hi2⟩ := h.le
      have hzr := h.below.size
      obtain ⟨xa, xc, rfl⟩ := own_sliceZ h.own
      have H := Lib.hid h
      clear h
      by_cases hgo : i < types.length ∧ i < 4
      · obtain ⟨hi3, hi4⟩ := hgo
        have hi3z : (i : Int) < (types.length : Int) := by omega
        have hi4z : (i : Int) < 4 := by omega
        have hi0 : (0 : Int) ≤ (i : Int) := by omega
        have hsn := take_snoc nm4 i hi4
        have hx := nm4_at i hi4
        generalize nm4.getD i [] = n at *
        have hx' : ∀ h : i < ([.string ⟨#[65]⟩, .string ⟨#[66, 101, 101]⟩, .string ⟨#[67, 97, 116]⟩, .string ⟨#[68, 111, 103]⟩] : List Value).length, ([.string ⟨#[65]⟩, .string ⟨#[66, 101, 101]⟩, .string ⟨#[67, 97, 116]⟩, .string ⟨#[68, 111, 103]⟩] : List Value)[i] = .string ⟨n.toArray⟩ := fun h => (List.getElem?_eq_some_iff.1 hx).2
        have HSN := Lib.hid hsn
        clear hx hsn
        go_wp2_with (at_builtin; (refine Sh.wpList_append_fresh rfl _ _ 22 rfl (w.heap.size + 3) 9 is (.string ⟨#[]⟩) 1 16 Try.underlying22 HIs.out HJs.out HKs.out HLs.out rfl (by decide) _ _ _ rfl ((H.out.own.alloc _).alloc _) ⟨wr.heap.size + 1, 0, none⟩ 1 1 [.string ⟨n.toArray⟩] rfl rfl (cells_new1Z _ _ _ _) (fun x hx => by simp at hx; subst hx; rfl) (by unfold maxLen; omega) (by omega) (by simp; omega) ?_); intro v' w5 hown' hgrow hfr; have HOW := Lib.hid hown'; have HGR := Lib.hid hgrow; clear hown' hgrow hfr)
        go_roundw
        case rel =>
          have ho := HOW.out
          rw [nmF_snoc, ← HSN.out] at ho
          exact ⟨i + 1, by go_num, ⟨by omega, by omega⟩, ho, (H.out.below.trans ((Below.of_allocZ _ _ (by omega)).trans (Below.of_allocZ _ _ (by simp; omega)))).trans (below_grown HGR.out (fun g e => (H.out.own.lt g e).1) (by simp; omega))⟩
        case measure => simp [intOf]; omega
      · have hln : (namesR types).length = i := by rw [namesR_len]; omega
        have hnn : namesR types = nm4.take i := by
          unfold namesR
          by_cases e : types.length ≤ 4
          · rw [show i = types.length by omega]
          · rw [show i = 4 by omega, List.take_of_length_le (by simp [nm4]; omega), List.take_of_length_le (by simp [nm4])]
        have HLN := Lib.hid hln; have HNN := Lib.hid hnn
        clear hln hnn
        by_cases hi3 : i < types.length
        · have hi3z : (i : Int) < (types.length : Int) := by omega
          have hi4z : ¬ (i : Int) < 4 := by omega
          go_wp2
          go_meet
          exact ⟨xa, xc, by rw [HLN.out], by rw [HLN.out], by rw [HLN.out, HNN.out]; exact H.out.own, H.out.below⟩
        · have hi3z : ¬ (i : Int) < (types.length : Int) := by omega
          go_wp2
          go_meet
          exact ⟨xa, xc, by rw [HLN.out], by rw [HLN.out], by rw [HLN.out, HNN.out]; exact H.out.own, H.out.below⟩
  case rest =>
    obtain ⟨na, nc, rfl, rfl, hown, hb1⟩ := hcut
    obtain ⟨na', nc', e1, hn1⟩ := RowV.own (S := New (w.heap.size + 3) wc) (l := (namesR types).map fun n => [str n]) hown (str1_len _) (by simp) (fun g hg => hown.lt g hg)
    obtain ⟨rfl, rfl⟩ : na = na' ∧ nc = nc' := by cases e1; exact ⟨rfl, rfl⟩
    have hnl := namesR_len types
    have HN1 := Lib.hid hn1; have HB1 := Lib.hid hb1
    have hr1 := (hb1.block _ (by omega)).trans HR0.out
    have ho1 := (hb1.block _ (by omega)).trans HO0.out
    have hs1 := (hb1.block _ (by omega)).trans HS0.out
    have hbw : Below w.heap.size w wc := HB0.out.trans (hb1.mono (by omega))
    have hz1 := hb1.size
    have HR1 := Lib.hid hr1; have HO1 := Lib.hid ho1; have HS1 := Lib.hid hs1; have HBW := Lib.hid hbw
    clear hown hn1 hb1 hr1 ho1 hs1 hbw e1
    generalize hnames : namesR types = names at *
    have HNA := Lib.hid hnames; have HNL := Lib.hid hnl
    have hn4 : names.length ≤ 4 := by omega
    have hnt : names.length ≤ types.length := by omega
    clear hnames hnl
    go_wp2_with fail
    go_loopw [10] (fun v10 wr => ∃ j v us, L2 w wc names types v10 wr j v us) (fun v10 _ => 4 - (intOf v10).toNat)
    case atStart => exact ⟨0, .slice none 0 0, [], rfl, Nat.zero_le _, HS1.out, GRow.start _ _ _, HBW.out, Kp.refl _ _⟩
    case round =>
      obtain ⟨j, xv, us, h⟩ := hrel
      obtain rfl := h.slot
      have hle := h.le
      have hkz := h.kp.size
      obtain ⟨xa, xk, hxv⟩ := own_sliceZ h.row.own
      subst hxv
      obtain ⟨⟨s0, s1, s2, s3, s4, s5⟩, ⟨g0, g1, g2, g3, g4, g5⟩⟩ := six_blkF h.sat
      have H := Lib.hid h
      clear h
      by_cases hjn : j < names.length
      · have hjnz : (j : Int) < (names.length : Int) := by omega
        have hjtz : (j : Int) < (types.length : Int) := by omega
        have hj0 : (0 : Int) ≤ (j : Int) := by omega
        obtain ⟨gn, on, rfl, hgn, hcn⟩ := name_kp HN1.out j hjn
        obtain ⟨gt, ot, rc, rfl, hgt, hrv, hct⟩ := row4_at HT.out j (by omega)
        have hul : us.length = j := by rw [H.out.row.len]; simp [ntR]
        have hsz0 : w.heap.size + 2 < wr.heap.size := by omega
        have hgnz : gn < wr.heap.size := by have := hgn.2; omega
        have hgtz : gt < wr.heap.size := by omega
        have HCN := Lib.hid hcn; have HCT := Lib.hid hct; have HRV := Lib.hid hrv; have HUL := Lib.hid hul
        clear hcn hct hrv hul
        go_wp2_with fail
        refine wp_region_by (SJ wr.drew (w.heap.size + 2) wc.heap.size (.slice xa us.length xk) (.slice (some ⟨gn, on, none⟩) names.length nc) (.slice (some ⟨gt, ot, none⟩) types.length c1) j gn (on + j) gt (ot + j * 4) (names.getD j []) rc (treeR names 5 (types.getD j default)) us) (by kernel_rfl) ?_ ?_ ?_
        · exact ⟨by simp, Closed.start _, fun i => match i with
            | 0 => .pointer (some ⟨w.heap.size + 2, 4, none⟩)
            | 1 => .slice xa us.length xk
            | 2 => .slice (some ⟨gn, on, none⟩) names.length nc
            | 3 => .int .i64 j
            | 4 => .pointer (some ⟨gn, on + j, none⟩)
            | 5 => .string ⟨(names.getD j []).toArray⟩
            | 6 => .slice (some ⟨gt, ot, none⟩) types.length c1
            | 7 => .int .i64 j
            | 8 => .pointer (some ⟨gt, ot + j * 4, none⟩)
            | 9 => .agg #[.int .i64 rc.k, .int .i64 rc.n, .slice rc.an rc.ln rc.cn, .slice rc.ak rc.lk rc.ck]
            | 10 => .slice (some ⟨gn, on, none⟩) names.length nc
            | 11 => (.agg #[.int .i64 0, .string ⟨#[]⟩, .slice none 0 0, .slice none 0 0])
            | 12 => .agg #[.string ⟨(names.getD j []).toArray⟩, .int .i64 0, .string ⟨#[]⟩, .slice none 0 0, .slice none 0 0]
            | 15 => .pointer (some ⟨w.heap.size + 2, 4, none⟩)
            | _ => undef, ⟨0, ⟨#[]⟩, none, 0, 0, none, 0, 0⟩, Fr.start _ _ _, ⟨rfl, rfl, rfl, rfl, rfl, rfl, rfl, rfl, rfl, rfl, rfl, rfl, rfl, rfl⟩, by simp only [rep_getD]; exact AM.start⟩
        · intro listed b v q hJ hi
          obtain ⟨hsz, hC, vals, xc, hF, hV, hM⟩ := hJ
          obtain ⟨hl1, hiN⟩ := not_up hsz hi
          obtain ⟨_, o, ho, hdeps⟩ := mem_ready.1 hi
          have hiN : q < 17 := hiN
          obtain rfl | rfl | rfl | rfl | rfl | rfl | rfl | rfl | rfl | rfl | rfl | rfl | rfl | rfl | rfl | rfl | rfl : q = 0 ∨ q = 1 ∨ q = 2 ∨ q = 3 ∨ q = 4 ∨ q = 5 ∨ q = 6 ∨ q = 7 ∨ q = 8 ∨ q = 9 ∨ q = 10 ∨ q = 11 ∨ q = 12 ∨ q = 13 ∨ q = 14 ∨ q = 15 ∨ q = 16 := by omega
          · cases ho
            have e7 := hF.old_is 7 (by rfl) rfl
            refine SJ.quiet hsz hC hi hF hV hM (Slots.of (by rfl)) rfl rfl (by decide) ?_
            rw [hV.v0]
            simp [execOp, go_sem, e7]
          · cases ho
            have l16 : listed.getD 16 false = false := by
              cases hh : listed.getD 16 false
              · rfl
              · have y0 := hC 16 _ rfl hh ⟨1, .phase⟩ (by simp) rfl; rw [hl1] at y0; cases y0
            have hs := (hM.far (g := w.heap.size + 2) hsz0 (H.out.row.ne (by omega)) (.inr l16)).trans H.out.sat
            obtain ⟨⟨y0, y1, y2, y3, y4, y5⟩, ⟨z0, z1, z2, z3, z4, z5⟩⟩ := six_blkF hs
            have e37 := hF.up 0 37 rfl (hdeps ⟨0, .data⟩ (by simp) rfl)
            rw [hV.v0] at e37
            refine SJ.quiet hsz hC hi hF hV hM (Slots.of (by rfl)) rfl rfl (by decide) ?_
            rw [hV.v1]
            simp [execOp, go_sem, e37, y4]
          · cases ho
            have e8 := hF.old_is 8 (by rfl) rfl
            refine SJ.quiet hsz hC hi hF hV hM (Slots.of (by rfl)) rfl rfl (by decide) ?_
            rw [hV.v2]
            simp [execOp, go_sem, e8]
          · cases ho
            have e10 := hF.old_is 10 (by rfl) rfl
            refine SJ.quiet hsz hC hi hF hV hM (Slots.of (by rfl)) rfl rfl (by decide) ?_
            rw [hV.v3]
            simp [execOp, go_sem, e10]
          · cases ho
            have e39 := hF.up 2 39 rfl (hdeps ⟨2, .data⟩ (by simp) rfl)
            rw [hV.v2] at e39
            have e40 := hF.up 3 40 rfl (hdeps ⟨3, .data⟩ (by simp) rfl)
            rw [hV.v3] at e40
            refine SJ.quiet hsz hC hi hF hV hM (Slots.of (by rfl)) rfl rfl (by decide) ?_
            rw [hV.v4]
            simp [execOp, go_sem, e39, e40, hj0, hjnz]
          · cases ho
            have l16 : listed.getD 16 false = false := by
              cases hh : listed.getD 16 false
              · rfl
              · have y0 := hC 16 _ rfl hh ⟨5, .phase⟩ (by simp) rfl; rw [hl1] at y0; cases y0
            have yn := HCN.out v ((hM.far (g := gn) hgnz (H.out.row.ne hgn.2) (.inr l16)).trans (H.out.kp.blk gn hgn.2 (by have := hgn.1; omega)))
            have e41 := hF.up 4 41 rfl (hdeps ⟨4, .data⟩ (by simp) rfl)
            rw [hV.v4] at e41
            refine SJ.quiet hsz hC hi hF hV hM (Slots.of (by rfl)) rfl rfl (by decide) ?_
            rw [hV.v5]
            simp [execOp, go_sem, e41, yn]
          · cases ho
            have e1 := hF.old_is 1 (by rfl) rfl
            refine SJ.quiet hsz hC hi hF hV hM (Slots.of (by rfl)) rfl rfl (by decide) ?_
            rw [hV.v6]
            simp [execOp, go_sem, e1]
          · cases ho
            have e10 := hF.old_is 10 (by rfl) rfl
            refine SJ.quiet hsz hC hi hF hV hM (Slots.of (by rfl)) rfl rfl (by decide) ?_
            rw [hV.v7]
            simp [execOp, go_sem, e10]
          · cases ho
            have e43 := hF.up 6 43 rfl (hdeps ⟨6, .data⟩ (by simp) rfl)
            rw [hV.v6] at e43
            have e44 := hF.up 7 44 rfl (hdeps ⟨7, .data⟩ (by simp) rfl)
            rw [hV.v7] at e44
            refine SJ.quiet hsz hC hi hF hV hM (Slots.of (by rfl)) rfl rfl (by decide) ?_
            rw [hV.v8]
            simp [execOp, go_sem, e43, e44, hj0, hjtz]
          · cases ho
            have l16 : listed.getD 16 false = false := by
              cases hh : listed.getD 16 false
              · rfl
              · have y0 := hC 16 _ rfl hh ⟨9, .phase⟩ (by simp) rfl; rw [hl1] at y0; cases y0
            obtain ⟨y0, y1, y2, y3⟩ := HCT.out v ((hM.far (g := gt) hgtz (H.out.row.ne (by omega)) (.inr l16)).trans (H.out.below.block gt hgt))
            have e45 := hF.up 8 45 rfl (hdeps ⟨8, .data⟩ (by simp) rfl)
            rw [hV.v8] at e45
            refine SJ.quiet hsz hC hi hF hV hM (Slots.of (by rfl)) rfl rfl (by decide) ?_
            rw [hV.v9]
            simp [execOp, go_sem, e45, y0, y1, y2, y3]
          · cases ho
            have e8 := hF.old_is 8 (by rfl) rfl
            refine SJ.quiet hsz hC hi hF hV hM (Slots.of (by rfl)) rfl rfl (by decide) ?_
            rw [hV.v10]
            simp [execOp, go_sem, e8]
          · cases ho
            have l12 : listed.getD 12 false = false := by
              cases hh : listed.getD 12 false
              · rfl
              · have y0 := hC 12 _ rfl hh ⟨11, .data⟩ (by simp) rfl; rw [hl1] at y0; cases y0
            have l13 : listed.getD 13 false = false := by
              cases hh : listed.getD 13 false
              · rfl
              · have y0 := hC 13 _ rfl hh ⟨12, .data⟩ (by simp) rfl; have y1 := hC 12 _ rfl y0 ⟨11, .data⟩ (by simp) rfl; rw [hl1] at y1; cases y1
            have l14 : listed.getD 14 false = false := by
              cases hh : listed.getD 14 false
              · rfl
              · have y0 := hC 14 _ rfl hh ⟨11, .chain⟩ (by simp) rfl; rw [hl1] at y0; cases y0
            have l16 : listed.getD 16 false = false := by
              cases hh : listed.getD 16 false
              · rfl
              · have y0 := hC 16 _ rfl hh ⟨11, .phase⟩ (by simp) rfl; rw [hl1] at y0; cases y0
            have e46 := hF.up 9 46 rfl (hdeps ⟨9, .data⟩ (by simp) rfl)
            rw [hV.v9] at e46
            have e47 := hF.up 10 47 rfl (hdeps ⟨10, .data⟩ (by simp) rfl)
            rw [hV.v10] at e47
            rw [hl1, l13, l14, l16] at hM
            have hbv := Below.of_drew hM.below
            have CT := Tree_any 5 (by decide) (types.getD j default) rc names (some ⟨gn, on, none⟩) nc v (HRV.out.later (H.out.below.trans (hbv.mono (by omega)))) (HN1.out.keep (fun g hg => by have := hbv.size; omega) (fun g hg => (hbv.block g (by have := hg.2; omega)).trans (H.out.kp.blk g hg.2 (by have := hg.1; omega)))) (by omega)
            refine wpOp_call (f := 22) (args := #[.agg #[.int .i64 rc.k, .int .i64 rc.n, .slice rc.an rc.ln rc.cn, .slice rc.ak rc.lk rc.ck], .int .i64 5, .slice (some ⟨gn, on, none⟩) names.length nc]) rfl rfl (by simp [execOp, go_sem, e46, e47]) CT ?_
            rintro e w' ⟨yc, rfl, hk, hb⟩
            refine ⟨_, rfl, ?_⟩
            obtain ⟨vals', hvals⟩ : ∃ vals' : Nat → Value, vals' = fun q => if q = 11 then (Value.agg #[.int .i64 yc.k, .string yc.n, .slice yc.an yc.ln yc.cn, .slice yc.ak yc.lk yc.ck]) else if q = 12 then (Value.agg #[.string ⟨(names.getD j []).toArray⟩, .int .i64 yc.k, .string yc.n, .slice yc.an yc.ln yc.cn, .slice yc.ak yc.lk yc.ck]) else vals q := ⟨_, rfl⟩
            have hF' : Fr _ _ vals' listed b := hF.congr (fun i h => by rw [hvals]; exact (if_neg (by rintro rfl; rw [hl1] at h; cases h)).trans (if_neg (by rintro rfl; rw [l12] at h; cases h)))
            have hV' : SV (w.heap.size + 2) (.slice xa us.length xk) (.slice (some ⟨gn, on, none⟩) names.length nc) (.slice (some ⟨gt, ot, none⟩) types.length c1) j gn (on + j) gt (ot + j * 4) (names.getD j []) rc yc vals' := by rw [hvals]; exact ⟨hV.v0, hV.v1, hV.v2, hV.v3, hV.v4, hV.v5, hV.v6, hV.v7, hV.v8, hV.v9, hV.v10, rfl, rfl, hV.v15⟩
            have hn : vals' 11 = .agg #[.int .i64 yc.k, .string yc.n, .slice yc.an yc.ln yc.cn, .slice yc.ak yc.lk yc.ck] := by rw [hvals]; rfl
            refine ⟨by simpa using hsz, hC.put hi, vals', yc, hn ▸ hF'.put (Slots.of (by rfl)) hsz rfl, hV', ?_⟩
            rw [getD_setE (i := 11) (by simp [hsz]), getD_setN (show 11 ≠ 13 by decide), getD_setN (show 11 ≠ 14 by decide), getD_setN (show 11 ≠ 16 by decide), l13, l14, l16]
            exact hM.called hb hk
          · cases ho
            have e42 := hF.up 5 42 rfl (hdeps ⟨5, .data⟩ (by simp) rfl)
            rw [hV.v5] at e42
            have e48 := hF.up 11 48 rfl (hdeps ⟨11, .data⟩ (by simp) rfl)
            rw [hV.v11] at e48
            refine SJ.quiet hsz hC hi hF hV hM (Slots.of (by rfl)) rfl rfl (by decide) ?_
            rw [hV.v12]
            simp [execOp, go_sem, e42, e48]
          · cases ho
            have u11_0 := hdeps ⟨12, .data⟩ (by simp) rfl
            have l11 := hC 12 _ rfl u11_0 ⟨11, .data⟩ (by simp) rfl
            have l14 : listed.getD 14 false = false := by
              cases hh : listed.getD 14 false
              · rfl
              · have y0 := hC 14 _ rfl hh ⟨13, .data⟩ (by simp) rfl; rw [hl1] at y0; cases y0
            have l16 : listed.getD 16 false = false := by
              cases hh : listed.getD 16 false
              · rfl
              · have y0 := hC 16 _ rfl hh ⟨13, .phase⟩ (by simp) rfl; rw [hl1] at y0; cases y0
            have e49 := hF.up 12 49 rfl (hdeps ⟨12, .data⟩ (by simp) rfl)
            rw [hV.v12] at e49
            rw [l11, hl1, l14, l16] at hM
            obtain ⟨vals', hvals⟩ : ∃ vals' : Nat → Value, vals' = fun q => if q = 13 then (Value.slice (some ⟨v.heap.size, 0, none⟩) 1 1) else vals q := ⟨_, rfl⟩
            have hF' : Fr _ _ vals' listed b := hF.congr (fun i h => by rw [hvals]; exact (if_neg (by rintro rfl; rw [hl1] at h; cases h)))
            have hV' : SV (w.heap.size + 2) (.slice xa us.length xk) (.slice (some ⟨gn, on, none⟩) names.length nc) (.slice (some ⟨gt, ot, none⟩) types.length c1) j gn (on + j) gt (ot + j * 4) (names.getD j []) rc xc vals' := by rw [hvals]; exact ⟨hV.v0, hV.v1, hV.v2, hV.v3, hV.v4, hV.v5, hV.v6, hV.v7, hV.v8, hV.v9, hV.v10, hV.v11, hV.v12, hV.v15⟩
            have hn : vals' 13 = .slice (some ⟨v.heap.size, 0, none⟩) 1 1 := by rw [hvals]; rfl
            refine wpOp_run (w' := v.alloc (.cells (encZ ((names.getD j []), xc)).toArray 44)) (v := vals' 13) rfl rfl ?_ ⟨by simpa using hsz, hC.put hi, vals', xc, hF'.put (Slots.of (by rfl)) hsz rfl, hV', ?_⟩
            · rw [hn]
              simp [execOp, go_sem, e49, encZ, str]
            · rw [getD_setE (i := 13) (by simp [hsz]), getD_setN (show 13 ≠ 11 by decide), getD_setN (show 13 ≠ 14 by decide), getD_setN (show 13 ≠ 16 by decide), l11, l14, l16]
              rw [hn]
              exact hM.laid
          · cases ho
            have l11 := hdeps ⟨11, .chain⟩ (by simp) rfl
            have l13 := hdeps ⟨13, .data⟩ (by simp) rfl
            have l16 : listed.getD 16 false = false := by
              cases hh : listed.getD 16 false
              · rfl
              · have y0 := hC 16 _ rfl hh ⟨14, .data⟩ (by simp) rfl; rw [hl1] at y0; cases y0
            have d1 := hdeps ⟨1, .data⟩ (by simp) rfl
            rw [l11, l13, hl1, l16] at hM
            obtain ⟨v0, h0, h2, rfl, hbs⟩ := hM.bs_at
            have h0' := Below.of_drew h0
            have h0z := h0'.size
            refine wpOp_wp rfl rfl (Sh.wp_append_fresh (.tmp 38) (.tmp 50) 26 rfl wc.heap.size 44 im (.agg #[.string ⟨#[]⟩, .int .i64 0, .string ⟨#[]⟩, .slice none 0 0, .slice none 0 0]) 5 88 Try.underlying26 HIm.out HJm.out HKm.out HLm.out rfl (by decide) (.slice xa us.length xk) us.length (us.flatMap encZ) ((hF.eval (i := 1) rfl d1).trans hV.v1) ((H.out.row.below h0').alloc _).own ⟨v0.heap.size, 0, none⟩ 1 1 (encZ ((names.getD j []), xc)) ((hF.eval (i := 13) rfl l13).trans hbs) rfl (cells_newZ v0 (encZ ((names.getD j []), xc)) 44) (one5 (n := (names.getD j []))) (by have := HUL.out; unfold maxLen; omega) (by have := HUL.out; omega) (by simp; omega) ?_)
            intro y w3 hown hgr hfr
            obtain ⟨vals', hvals⟩ : ∃ vals' : Nat → Value, vals' = fun q => if q = 14 then y else vals q := ⟨_, rfl⟩
            have hF' : Fr _ _ vals' listed b := hF.congr (fun i h => by rw [hvals]; exact (if_neg (by rintro rfl; rw [hl1] at h; cases h)))
            have hV' : SV (w.heap.size + 2) (.slice xa us.length xk) (.slice (some ⟨gn, on, none⟩) names.length nc) (.slice (some ⟨gt, ot, none⟩) types.length c1) j gn (on + j) gt (ot + j * 4) (names.getD j []) rc xc vals' := by rw [hvals]; exact ⟨hV.v0, hV.v1, hV.v2, hV.v3, hV.v4, hV.v5, hV.v6, hV.v7, hV.v8, hV.v9, hV.v10, hV.v11, hV.v12, hV.v15⟩
            have hn : vals' 14 = y := by rw [hvals]; rfl
            have hn3 : vals' 13 = vals 13 := by rw [hvals]; rfl
            refine ⟨by simpa using hsz, hC.put hi, vals', xc, hn ▸ hF'.put (Slots.of (by rfl)) hsz rfl, hV', ?_⟩
            rw [getD_setE (i := 14) (by simp [hsz]), getD_setN (show 14 ≠ 11 by decide), getD_setN (show 14 ≠ 13 by decide), getD_setN (show 14 ≠ 16 by decide), l11, l13, l16]
            rw [hn, hn3]
            exact AM.appended h0 h2 ⟨hown, hgr, hfr⟩
          · cases ho
            have e7 := hF.old_is 7 (by rfl) rfl
            refine SJ.quiet hsz hC hi hF hV hM (Slots.of (by rfl)) rfl rfl (by decide) ?_
            rw [hV.v15]
            simp [execOp, go_sem, e7]
          · cases ho
            have l11 := hdeps ⟨11, .phase⟩ (by simp) rfl
            have l13 := hdeps ⟨13, .phase⟩ (by simp) rfl
            have l14 := hdeps ⟨14, .data⟩ (by simp) rfl
            have e52 := hF.up 15 52 rfl (hdeps ⟨15, .data⟩ (by simp) rfl)
            rw [hV.v15] at e52
            have e51 := hF.up 14 51 rfl (hdeps ⟨14, .data⟩ (by simp) rfl)
            have hs := (hM.far (g := w.heap.size + 2) hsz0 (H.out.row.ne (by omega)) (.inr hl1)).trans H.out.sat
            obtain ⟨⟨y0, y1, y2, y3, y4, y5⟩, ⟨z0, z1, z2, z3, z4, z5⟩⟩ := six_blkF hs
            rw [l11, l13, l14, hl1] at hM
            obtain ⟨va, vc, hap⟩ := hM.row_at
            rw [hap] at e51
            refine wpOp_wp rfl rfl ?_
            unfold Oper.wp Oper.upon
            simp [execOp, go_sem, e52, e51, y4, z4]
            refine ⟨by simpa using hsz, hC.put hi, vals, xc, hF.put (i := 16) (Slots.of (by rfl)) hsz rfl, hV, ?_⟩
            rw [getD_setE (i := 16) (by simp [hsz]), getD_setN (show 16 ≠ 11 by decide), getD_setN (show 16 ≠ 13 by decide), getD_setN (show 16 ≠ 14 by decide), l11, l13, l14]
            rw [← hap]
            exact hM.stored
        · intro listed b v hJ hr
          obtain ⟨hsz, hC, vals, xc, hF, hV, hM⟩ := hJ
          have hall := all_upB (by rfl) hsz hr
          have hb : b = putAll _ vals _ 17 := hF.done (Slots.of (by rfl)) hall
          rw [hall 11 (by decide), hall 13 (by decide), hall 14 (by decide), hall 16 (by decide)] at hM
          obtain ⟨v0, w3, h0, h2, hp, rfl⟩ := hM.done
          obtain ⟨va, vc, hap⟩ := own_sliceZ hp.own
          subst hb
          simp only [putAll, hV.v0, hV.v1, hV.v2, hV.v3, hV.v4, hV.v5, hV.v6, hV.v7, hV.v8, hV.v9, hV.v10, hV.v11, hV.v12, hV.v15, hap]
          simp [dstOf]
          have h0' := Below.of_drew h0
          have hz3 : w3.heap.size ≥ v0.heap.size := by have := hp.grown.size; simp at this; omega
          have h0z := h0'.size
          have hS3 := ((AM.appended (bs := vals 13) (sb := w.heap.size + 2) (off := 4) (enc := fun c => encZ ((names.getD j []), c)) h0 h2 hp).far (g := w.heap.size + 2) hsz0 (H.out.row.ne (by omega)) (.inr rfl)).trans H.out.sat
          have hg3 := (GRow.snoc (H.out.row.below h0') (h2.free (X := [w.heap.size + 2, w.heap.size + 1]) (vs := [.slice xa us.length xk]) (by simp; omega) (fun v hv g e => by rw [List.mem_singleton.1 hv] at e; exact (H.out.row.own.lt g e).2)) hp.own hp.grown hp.fresh).1
          have hO : Only (w.heap.size + 2) w3 (w3.setCell ⟨w.heap.size + 2, 4, none⟩ (vals 14)) := (Only.refl _ _).setCell _ _
          have e1 := set_six4 hS3 (vals 14)
          have hb3 := hp.below (H.out.below.trans (h0'.mono (by omega))) (fun g e => by have := (H.out.row.own.lt g e).1; omega) (by omega)
          have e4 := hb3.trans (hO.below (by omega) hb3.size)
          have e5 := hg3.only (b := w.heap.size + 2) (by simp) (by simp; omega) hO
          have e6 := (hp.kp (H.out.kp.below h0') (fun g e => (H.out.row.own.lt g e).1)).only hO
          rw [← ntR_succ] at e5
          rw [hap] at e1 e4 e5 e6
          have E1 := Lib.hid e1; have E4 := Lib.hid e4; have E5 := Lib.hid e5; have E6 := Lib.hid e6
          clear e1 e4 e5 e6 hO hb3 hg3 hS3 h0 h2 hp hM hF hV hC hall hr hsz
          go_wp2
          go_roundw
          case rel => exact ⟨j + 1, _, _, by go_num, by omega, E1.out, E5.out, E4.out, E6.out⟩
          case measure => simp [intOf]; omega
      · have hje : j = names.length := by omega
        subst hje
        have CT : Calls Try.prog 22 #[.agg #[.int .i64 c.k, .int .i64 c.n, .slice c.an c.ln c.cn, .slice c.ak c.lk c.ck], .int .i64 6, .slice na names.length nc] wr (TreeP (treeR names 6 main) wr) := Tree_any 6 (by decide) main c names na nc wr (HM.out.later H.out.below) (HN1.out.keep (fun g hg => by have := hg.2; omega) (fun g hg => H.out.kp.blk g hg.2 (by have := hg.1; omega))) (by omega)
        have HCT := Lib.hid CT
        have hr2 := (H.out.kp.blk w.heap.size (by omega) (by omega)).trans HR1.out
        obtain ⟨⟨p0, p1, p2, p3⟩, _⟩ := four_blk hr2
        clear CT hr2
        go_upto_block 4 with (go_at_call 22; (with_reducible refine HCT.out.mono ?_); rintro e w4 ⟨mc, rfl, hk, hb4⟩; have hs4 := (hb4.block _ (by omega)).trans H.out.sat; have hz4 := hb4.size; obtain ⟨⟨t0, t1, t2, t3, t4, t5⟩, ⟨f0, f1, f2, f3, f4, f5⟩⟩ := six_blkF hs4; have HK := Lib.hid hk; have HB4 := Lib.hid hb4; have HS4 := Lib.hid hs4; clear hk hb4 hs4)
        obtain ⟨W3, hW3⟩ : ∃ W3, W3 = put4 w4 (w.heap.size + 2) mc := ⟨_, rfl⟩
        have hO3 : Only (w.heap.size + 2) w4 W3 := by rw [hW3]; exact put4_only _ _ _
        have hs3 : W3.heap[w.heap.size + 2]? = some (.cells #[.int .i64 mc.k, .string mc.n, .slice mc.an mc.ln mc.cn, .slice mc.ak mc.lk mc.ck, .slice xa us.length xk, .slice none 0 0] 29 (0, 0)) := by rw [hW3]; exact put4_six HS4.out mc
        have hb3 : Below w.heap.size w W3 := (H.out.below.trans (HB4.out.mono (by omega))).trans (hO3.below (by omega) (by omega))
        have hk3 : Kp (w.heap.size + 2) wc W3 := (H.out.kp.below HB4.out).only hO3
        have hg3 := (H.out.row.below HB4.out).only (b := w.heap.size + 2) (by simp) (by simp; omega) hO3
        have hm3 : TzV W3 (New wr.heap.size W3) (treeR names 6 main) mc := HK.out.past (Nat.le_refl _) hO3 (by omega)
        have hz3 : W3.heap.size = w4.heap.size := by rw [hW3]; exact put4_size _ _ _
        have hv1 := fun g e => H.out.row.own.lt g e
        obtain ⟨X3, hX3⟩ : ∃ X3, X3 = (w.heap.size + 2) :: (w.heap.size + 1) :: blkL (.slice xa us.length xk) := ⟨_, rfl⟩
        have hx3 : ∀ x ∈ X3, x < W3.heap.size := by
          intro x hx
          rw [hX3] at hx
          rcases List.mem_cons.1 hx with rfl | hx
          · omega
          · rcases List.mem_cons.1 hx with rfl | hx
            · omega
            · have := (hg3.own.lt x (mem_blkL.1 hx)).2; omega
        have hn3 : RowV W3 (fun g => New (w.heap.size + 3) W3 g) na 1 (names.map fun n => [str n]) := HN1.out.keep (fun g hg => ⟨hg.1, by have := hg.2; have := hk3.size; omega⟩) (fun g hg => hk3.blk g hg.2 (by have := hg.1; omega))
        have ho3 := (hk3.blk (w.heap.size + 1) (by omega) (by omega)).trans HO1.out
        unfold put4 at hW3
        rw [← hW3]
        have HS3 := Lib.hid hs3; have HB3 := Lib.hid hb3; have HG3 := Lib.hid hg3; have HM3 := Lib.hid hm3; have HX3 := Lib.hid hx3; have HN3 := Lib.hid hn3; have HXX := Lib.hid hX3; have HV1 := Lib.hid hv1; have HO3 := Lib.hid ho3
        have hWz : w.heap.size + 2 < W3.heap.size := by omega
        have hWr : wr.heap.size ≤ W3.heap.size := by omega
        clear hs3 hb3 hg3 hm3 hx3 hn3 hW3 hO3 hk3 hX3 hv1 ho3 t0 t1 t2 t3 t4 t5 f0 f1 f2 f3 f4 f5 s0 s1 s2 s3 s4 s5 g0 g1 g2 g3 g4 g5 p0 p1 p2 p3
        generalize hwrz : wr.heap.size = rz at *
        go_cut [11] (fun s11 wx => ∃ v2 gs, L3 w W3 X3 names sigs mc (.slice xa us.length xk) s11 wx (min sigs.length 4) v2 gs)
        case first =>
          go_wp2_with fail
          go_loopw [11] (fun v11 wr => ∃ j v gs, L3 w W3 X3 names sigs mc (.slice xa us.length xk) v11 wr j v gs) (fun v11 _ => 4 - (intOf v11).toNat)
          case atStart => exact ⟨0, .slice none 0 0, [], rfl, ⟨Nat.zero_le _, Nat.zero_le _⟩, HS3.out, SRow.start _ _ _, HB3.out, Kp.refl _ _⟩
          case round =>
            clear H
            obtain ⟨j, v2, gs, h⟩ := hrel
            obtain rfl := h.slot
            obtain ⟨hle1, hle2⟩ := h.le
            have hkz3 := h.kp.size
            obtain ⟨sa, sk, hv2⟩ := own_sliceZ h.row.own
            subst hv2
            have H := Lib.hid h
            clear h
            by_cases hgo : j < sigs.length ∧ j < 4
            · obtain ⟨hjs, hj4⟩ := hgo
              have hjz : (j : Int) < (sigs.length : Int) := by omega
              have hj4z : (j : Int) < 4 := by omega
              have hj0 : (0 : Int) ≤ (j : Int) := by omega
              obtain ⟨gt, ot, rc, rfl, hgt, hrv, hct⟩ := row4_at HG.out j hjs
              have hgtz : gt < wr.heap.size := by omega
              have hsg := sgsR_succ names sigs j
              unfold sgR at hsg
              generalize sigs.getD j default = rj at *
              have hrv0 := hrv
              cases hrv with
              | mk kd kn kns kks kan kcn kak kck kus hk1 hk2 hki hkln hklk hkl hka hkb hku =>
                have HSG := Lib.hid hsg; have HRV := Lib.hid hrv0; have HCT := Lib.hid hct; have HKK := Lib.hid (RwsV.mk hkl hkb hku)
                clear hsg hrv0 hct hkl hkb hku hka hki hk1 hk2
                generalize hrj : Rw.mk kd kn kns kks = rj at *
                have HRJ := Lib.hid hrj
                clear hrj
                go_wp2_with fail
                refine wp_region_by (FJ wr.drew (.slice na names.length nc) (.slice (some ⟨gt, ot, none⟩) sigs.length c2) j gt (ot + j * 4) (fn4.getD j []) ⟨kd, kn, kan, kns.length, kcn, kak, kks.length, kck⟩ (treeR names 4 rj)) (by kernel_rfl) ?_ ?_ ?_
                · exact ⟨by simp, Closed.start _, fun i => match i with
                    | 0 => .slice (some ⟨0, 0, none⟩) 4 4
                    | 1 => .int .i64 j
                    | 2 => .pointer (some ⟨0, j, none⟩)
                    | 3 => .string ⟨(fn4.getD j []).toArray⟩
                    | 4 => .slice (some ⟨gt, ot, none⟩) sigs.length c2
                    | 5 => .int .i64 j
                    | 6 => .pointer (some ⟨gt, ot + j * 4, none⟩)
                    | 7 => .agg #[.int .i64 kd, .int .i64 kn, .slice kan kns.length kcn, .slice kak kks.length kck]
                    | 8 => .slice na names.length nc
                    | 9 => (.agg #[.int .i64 0, .string ⟨#[]⟩, .slice none 0 0, .slice none 0 0])
                    | 10 => .agg #[.string ⟨(fn4.getD j []).toArray⟩, .slice none 0 0, .int .i64 0, .string ⟨#[]⟩, .slice none 0 0, .slice none 0 0]
                    | 11 => .pointer (some ⟨0, 0, none⟩)
                    | _ => undef, 0, 0, ⟨0, ⟨#[]⟩, none, 0, 0, none, 0, 0⟩, Fr.start _ _ _, ⟨rfl, rfl, rfl, rfl, rfl, rfl, rfl, rfl, rfl, rfl, rfl, rfl⟩, by simp only [rep_getD]; exact FM.start⟩
                · intro listed b v q hJ hi
                  obtain ⟨hsz, hC, vals, lb, fb, xc, hF, hV, hM⟩ := hJ
                  obtain ⟨hl1, hiN⟩ := not_up hsz hi
                  obtain ⟨_, o, ho, hdeps⟩ := mem_ready.1 hi
                  have hiN : q < 13 := hiN
                  obtain rfl | rfl | rfl | rfl | rfl | rfl | rfl | rfl | rfl | rfl | rfl | rfl | rfl : q = 0 ∨ q = 1 ∨ q = 2 ∨ q = 3 ∨ q = 4 ∨ q = 5 ∨ q = 6 ∨ q = 7 ∨ q = 8 ∨ q = 9 ∨ q = 10 ∨ q = 11 ∨ q = 12 := by omega
                  · cases ho
                    have l2 : listed.getD 2 false = false := by
                      cases hh : listed.getD 2 false
                      · rfl
                      · have y0 := hC 2 _ rfl hh ⟨0, .data⟩ (by simp) rfl; rw [hl1] at y0; cases y0
                    have l12 : listed.getD 12 false = false := by
                      cases hh : listed.getD 12 false
                      · rfl
                      · have y0 := hC 12 _ rfl hh ⟨0, .phase⟩ (by simp) rfl; rw [hl1] at y0; cases y0
                    rw [hl1, l12] at hM
                    obtain ⟨vals', hvals⟩ : ∃ vals' : Nat → Value, vals' = fun q => if q = 0 then (Value.slice (some ⟨v.heap.size, 0, none⟩) 4 4) else if q = 2 then (Value.pointer (some ⟨v.heap.size, j, none⟩)) else vals q := ⟨_, rfl⟩
                    have hF' : Fr _ _ vals' listed b := hF.congr (fun i h => by rw [hvals]; exact (if_neg (by rintro rfl; rw [hl1] at h; cases h)).trans (if_neg (by rintro rfl; rw [l2] at h; cases h)))
                    have hV' : FV (.slice na names.length nc) (.slice (some ⟨gt, ot, none⟩) sigs.length c2) j gt (ot + j * 4) (fn4.getD j []) ⟨kd, kn, kan, kns.length, kcn, kak, kks.length, kck⟩ v.heap.size fb xc vals' := by rw [hvals]; exact ⟨rfl, hV.v1, rfl, hV.v3, hV.v4, hV.v5, hV.v6, hV.v7, hV.v8, hV.v9, hV.v10, hV.v11⟩
                    have hn : vals' 0 = .slice (some ⟨v.heap.size, 0, none⟩) 4 4 := by rw [hvals]; rfl
                    refine wpOp_run (w' := v.alloc (.cells #[.string ⟨#[102, 97]⟩, .string ⟨#[102, 98]⟩, .string ⟨#[102, 99]⟩, .string ⟨#[102, 100]⟩] 9)) (v := vals' 0) rfl rfl ?_ ⟨by simpa using hsz, hC.put hi, vals', v.heap.size, fb, xc, hF'.put (Slots.of (by rfl)) hsz rfl, hV', ?_⟩
                    · rw [hn]
                      simp [execOp, go_sem]
                    · rw [getD_setE (i := 0) (by simp [hsz]), getD_setN (show 0 ≠ 9 by decide), getD_setN (show 0 ≠ 11 by decide), getD_setN (show 0 ≠ 12 by decide), l12]
                      exact hM.litted
                  · cases ho
                    have e11 := hF.old_is 11 (by rfl) rfl
                    refine FJ.quiet hsz hC hi hF hV hM (Slots.of (by rfl)) rfl rfl (by decide) ?_
                    rw [hV.v1]
                    simp [execOp, go_sem, e11]
                  · cases ho
                    have e67 := hF.up 0 67 rfl (hdeps ⟨0, .data⟩ (by simp) rfl)
                    rw [hV.v0] at e67
                    have e68 := hF.up 1 68 rfl (hdeps ⟨1, .data⟩ (by simp) rfl)
                    rw [hV.v1] at e68
                    refine FJ.quiet hsz hC hi hF hV hM (Slots.of (by rfl)) rfl rfl (by decide) ?_
                    rw [hV.v2]
                    simp [execOp, go_sem, e67, e68, hj0, hj4z]
                  · cases ho
                    have l12 : listed.getD 12 false = false := by
                      cases hh : listed.getD 12 false
                      · rfl
                      · have y0 := hC 12 _ rfl hh ⟨3, .phase⟩ (by simp) rfl; rw [hl1] at y0; cases y0
                    have u0_0 := hdeps ⟨2, .data⟩ (by simp) rfl
                    have l0 := hC 2 _ rfl u0_0 ⟨0, .data⟩ (by simp) rfl
                    obtain y0 := lit_at (hM.lit l0 l12) (nm := (fn4.getD j [])) (fn4_at j hj4)
                    have e69 := hF.up 2 69 rfl (hdeps ⟨2, .data⟩ (by simp) rfl)
                    rw [hV.v2] at e69
                    refine FJ.quiet hsz hC hi hF hV hM (Slots.of (by rfl)) rfl rfl (by decide) ?_
                    rw [hV.v3]
                    simp [execOp, go_sem, e69, y0]
                  · cases ho
                    have e2 := hF.old_is 2 (by rfl) rfl
                    refine FJ.quiet hsz hC hi hF hV hM (Slots.of (by rfl)) rfl rfl (by decide) ?_
                    rw [hV.v4]
                    simp [execOp, go_sem, e2]
                  · cases ho
                    have e11 := hF.old_is 11 (by rfl) rfl
                    refine FJ.quiet hsz hC hi hF hV hM (Slots.of (by rfl)) rfl rfl (by decide) ?_
                    rw [hV.v5]
                    simp [execOp, go_sem, e11]
                  · cases ho
                    have e71 := hF.up 4 71 rfl (hdeps ⟨4, .data⟩ (by simp) rfl)
                    rw [hV.v4] at e71
                    have e72 := hF.up 5 72 rfl (hdeps ⟨5, .data⟩ (by simp) rfl)
                    rw [hV.v5] at e72
                    refine FJ.quiet hsz hC hi hF hV hM (Slots.of (by rfl)) rfl rfl (by decide) ?_
                    rw [hV.v6]
                    simp [execOp, go_sem, e71, e72, hj0, hjz]
                  · cases ho
                    obtain ⟨y0, y1, y2, y3⟩ := HCT.out v (((Below.of_drew hM.below).block gt hgtz).trans (H.out.below.block gt hgt))
                    have e73 := hF.up 6 73 rfl (hdeps ⟨6, .data⟩ (by simp) rfl)
                    rw [hV.v6] at e73
                    refine FJ.quiet hsz hC hi hF hV hM (Slots.of (by rfl)) rfl rfl (by decide) ?_
                    rw [hV.v7]
                    simp [execOp, go_sem, e73, y0, y1, y2, y3]
                  · cases ho
                    have e8 := hF.old_is 8 (by rfl) rfl
                    refine FJ.quiet hsz hC hi hF hV hM (Slots.of (by rfl)) rfl rfl (by decide) ?_
                    rw [hV.v8]
                    simp [execOp, go_sem, e8]
                  · cases ho
                    have l10 : listed.getD 10 false = false := by
                      cases hh : listed.getD 10 false
                      · rfl
                      · have y0 := hC 10 _ rfl hh ⟨9, .data⟩ (by simp) rfl; rw [hl1] at y0; cases y0
                    have l12 : listed.getD 12 false = false := by
                      cases hh : listed.getD 12 false
                      · rfl
                      · have y0 := hC 12 _ rfl hh ⟨9, .chain⟩ (by simp) rfl; rw [hl1] at y0; cases y0
                    have e74 := hF.up 7 74 rfl (hdeps ⟨7, .data⟩ (by simp) rfl)
                    rw [hV.v7] at e74
                    have e75 := hF.up 8 75 rfl (hdeps ⟨8, .data⟩ (by simp) rfl)
                    rw [hV.v8] at e75
                    rw [hl1, l12] at hM
                    have hbv := Below.of_drew hM.below
                    have CT : Calls Try.prog 22 #[.agg #[.int .i64 kd, .int .i64 kn, .slice kan kns.length kcn, .slice kak kks.length kck], .int .i64 4, .slice na names.length nc] v (TreeP (treeR names 4 rj) v) := Tree_any 4 (by decide) rj ⟨kd, kn, kan, kns.length, kcn, kak, kks.length, kck⟩ names na nc v (HRV.out.later (H.out.below.trans (hbv.mono (by omega)))) (HN3.out.keep (fun g hg => by have := hbv.size; omega) (fun g hg => (hbv.block g (by have := hg.2; omega)).trans (H.out.kp.blk g hg.2 (by have := hg.1; omega)))) (by omega)
                    refine wpOp_call (f := 22) (args := #[.agg #[.int .i64 kd, .int .i64 kn, .slice kan kns.length kcn, .slice kak kks.length kck], .int .i64 4, .slice na names.length nc]) rfl rfl (by simp [execOp, go_sem, e74, e75]) CT ?_
                    rintro e w' ⟨yc, rfl, hk, hb⟩
                    refine ⟨_, rfl, ?_⟩
                    obtain ⟨vals', hvals⟩ : ∃ vals' : Nat → Value, vals' = fun q => if q = 9 then (Value.agg #[.int .i64 yc.k, .string yc.n, .slice yc.an yc.ln yc.cn, .slice yc.ak yc.lk yc.ck]) else if q = 10 then (Value.agg #[.string ⟨(fn4.getD j []).toArray⟩, .slice none 0 0, .int .i64 yc.k, .string yc.n, .slice yc.an yc.ln yc.cn, .slice yc.ak yc.lk yc.ck]) else vals q := ⟨_, rfl⟩
                    have hF' : Fr _ _ vals' listed b := hF.congr (fun i h => by rw [hvals]; exact (if_neg (by rintro rfl; rw [hl1] at h; cases h)).trans (if_neg (by rintro rfl; rw [l10] at h; cases h)))
                    have hV' : FV (.slice na names.length nc) (.slice (some ⟨gt, ot, none⟩) sigs.length c2) j gt (ot + j * 4) (fn4.getD j []) ⟨kd, kn, kan, kns.length, kcn, kak, kks.length, kck⟩ lb fb yc vals' := by rw [hvals]; exact ⟨hV.v0, hV.v1, hV.v2, hV.v3, hV.v4, hV.v5, hV.v6, hV.v7, hV.v8, rfl, rfl, hV.v11⟩
                    have hn : vals' 9 = .agg #[.int .i64 yc.k, .string yc.n, .slice yc.an yc.ln yc.cn, .slice yc.ak yc.lk yc.ck] := by rw [hvals]; rfl
                    refine ⟨by simpa using hsz, hC.put hi, vals', lb, fb, yc, hn ▸ hF'.put (Slots.of (by rfl)) hsz rfl, hV', ?_⟩
                    rw [getD_setE (i := 9) (by simp [hsz]), getD_setN (show 9 ≠ 0 by decide), getD_setN (show 9 ≠ 11 by decide), getD_setN (show 9 ≠ 12 by decide), l12]
                    exact hM.called hb hk
                  · cases ho
                    have e70 := hF.up 3 70 rfl (hdeps ⟨3, .data⟩ (by simp) rfl)
                    rw [hV.v3] at e70
                    have e76 := hF.up 9 76 rfl (hdeps ⟨9, .data⟩ (by simp) rfl)
                    rw [hV.v9] at e76
                    refine FJ.quiet hsz hC hi hF hV hM (Slots.of (by rfl)) rfl rfl (by decide) ?_
                    rw [hV.v10]
                    simp [execOp, go_sem, e70, e76]
                  · cases ho
                    have l12 : listed.getD 12 false = false := by
                      cases hh : listed.getD 12 false
                      · rfl
                      · have y0 := hC 12 _ rfl hh ⟨11, .data⟩ (by simp) rfl; rw [hl1] at y0; cases y0
                    rw [hl1, l12] at hM
                    obtain ⟨vals', hvals⟩ : ∃ vals' : Nat → Value, vals' = fun q => if q = 11 then (Value.pointer (some ⟨v.heap.size, 0, none⟩)) else vals q := ⟨_, rfl⟩
                    have hF' : Fr _ _ vals' listed b := hF.congr (fun i h => by rw [hvals]; exact (if_neg (by rintro rfl; rw [hl1] at h; cases h)))
                    have hV' : FV (.slice na names.length nc) (.slice (some ⟨gt, ot, none⟩) sigs.length c2) j gt (ot + j * 4) (fn4.getD j []) ⟨kd, kn, kan, kns.length, kcn, kak, kks.length, kck⟩ lb v.heap.size xc vals' := by rw [hvals]; exact ⟨hV.v0, hV.v1, hV.v2, hV.v3, hV.v4, hV.v5, hV.v6, hV.v7, hV.v8, hV.v9, hV.v10, rfl⟩
                    have hn : vals' 11 = .pointer (some ⟨v.heap.size, 0, none⟩) := by rw [hvals]; rfl
                    refine wpOp_run (w' := v.alloc (.cells #[.string ⟨#[]⟩, .slice none 0 0, .int .i64 0, .string ⟨#[]⟩, .slice none 0 0, .slice none 0 0] 46)) (v := vals' 11) rfl rfl ?_ ⟨by simpa using hsz, hC.put hi, vals', lb, v.heap.size, xc, hF'.put (Slots.of (by rfl)) hsz rfl, hV', ?_⟩
                    · rw [hn]
                      simp [execOp, go_sem]
                    · rw [getD_setE (i := 11) (by simp [hsz]), getD_setN (show 11 ≠ 0 by decide), getD_setN (show 11 ≠ 9 by decide), getD_setN (show 11 ≠ 12 by decide), l12]
                      exact hM.made
                  · cases ho
                    have l0 := hdeps ⟨0, .phase⟩ (by simp) rfl
                    have l9 := hdeps ⟨9, .chain⟩ (by simp) rfl
                    have l11 := hdeps ⟨11, .data⟩ (by simp) rfl
                    have e12 := hF.up 11 12 rfl (hdeps ⟨11, .data⟩ (by simp) rfl)
                    rw [hV.v11] at e12
                    have e77 := hF.up 10 77 rfl (hdeps ⟨10, .data⟩ (by simp) rfl)
                    rw [hV.v10] at e77
                    rw [l0, l9, l11, hl1] at hM
                    obtain ⟨⟨y0, y1, y2, y3, y4, y5⟩, ⟨z0, z1, z2, z3, z4, z5⟩⟩ := six_blkF (hM.fvar rfl).2
                    refine wpOp_wp rfl rfl ?_
                    unfold Oper.wp Oper.upon
                    simp [execOp, go_sem, e12, e77, y0, y1, y2, y3, y4, y5, z0, z1, z2, z3, z4, z5]
                    refine ⟨by simpa using hsz, hC.put hi, vals, lb, fb, xc, hF.put (i := 12) (Slots.of (by rfl)) hsz rfl, hV, ?_⟩
                    rw [getD_setE (i := 12) (by simp [hsz]), getD_setN (show 12 ≠ 0 by decide), getD_setN (show 12 ≠ 9 by decide), getD_setN (show 12 ≠ 11 by decide), l0, l9, l11]
                    have hq := hM.stored
                    unfold putS at hq
                    simpa using hq
                · intro listed b W4 hJ hr
                  obtain ⟨hsz, hC, vals, lb, fb, xc, hF, hV, hM⟩ := hJ
                  have hall := all_upB (by rfl) hsz hr
                  have hb : b = putAll _ vals _ 13 := hF.done (Slots.of (by rfl)) hall
                  rw [hall 0 (by decide), hall 9 (by decide), hall 11 (by decide), hall 12 (by decide)] at hM
                  subst hb
                  simp only [putAll, hV.v0, hV.v1, hV.v2, hV.v3, hV.v4, hV.v5, hV.v6, hV.v7, hV.v8, hV.v9, hV.v10, hV.v11]
                  simp [dstOf]
                  have hb4 := Below.of_drew hM.below
                  obtain ⟨hfb, hfat⟩ := hM.fvar rfl
                  have hfb : wr.heap.size ≤ fb := hfb
                  have hfz := (Array.getElem?_eq_some_iff.1 hfat).1
                  have HXT := Lib.hid (hM.tree rfl); have HFAT := Lib.hid hfat; have HBD := Lib.hid hb4
                  have hz4 := hb4.size
                  clear hM hF hV hC hall hr hsz hfat hb4
                  go_upto_block 6 with fail
                  go_cut [13] (fun s13 wx => ∃ pv us4, L4 W4 fb X3 (.slice sa gs.length sk) (fn4.getD j []) names kks xc s13 wx (min kks.length 3) pv us4)
                  case first =>
                    go_wp2_with fail
                    go_loopw [13] (fun v13 wr => ∃ k v us4, L4 W4 fb X3 (.slice sa gs.length sk) (fn4.getD j []) names kks xc v13 wr k v us4) (fun v13 _ => 3 - (intOf v13).toNat)
                    case atStart => exact ⟨0, .slice none 0 0, [], rfl, ⟨Nat.zero_le _, Nat.zero_le _⟩, HFAT.out, TRow.start _ _ _ _, Kp.refl _ _, Below.refl _ _⟩
                    case round =>
                      obtain ⟨k, pv, us4, h4⟩ := hrel
                      obtain rfl := h4.slot
                      obtain ⟨hkl1, hkl2⟩ := h4.le
                      have hkz4 := h4.kp.size
                      obtain ⟨pa, pk, hpv⟩ := own_sliceZ h4.row.own
                      subst hpv
                      have hgts := (h4.kp.blk gt (by omega) (by omega)).trans ((HBD.out.block gt hgtz).trans (H.out.below.block gt hgt))
                      obtain ⟨m0, m1, m2, m3⟩ := HCT.out _ hgts
                      have H4 := Lib.hid h4
                      clear h4
                      by_cases hgo4 : k < kks.length ∧ k < 3
                      · obtain ⟨hkk, hk3⟩ := hgo4
                        obtain ⟨gk, ok, rk, rfl, hgk, hrk, hck⟩ := row4_at HKK.out k hkk
                        have hgks := (H4.out.kp.blk gk (by omega) (by omega)).trans ((HBD.out.block gk (by omega)).trans (H.out.below.block gk hgk))
                        have hk0 : (0 : Int) ≤ (k : Int) := by omega
                        have hkz : (k : Int) < (kks.length : Int) := by omega
                        have hk3z : (k : Int) < 3 := by omega
                        have hul4 : us4.length = k := by rw [H4.out.row.len]; simp [parR]
                        have hfbr : fb < wr.heap.size := by omega
                        have hgtr : gt < wr.heap.size := by omega
                        have hgkr : gk < wr.heap.size := by omega
                        have hw4 : Below w.heap.size w wr := (H.out.below.trans (HBD.out.mono (by omega))).trans (H4.out.below.mono (by omega))
                        have hkn : ∀ g, w.heap.size + 3 ≤ g → g < W3.heap.size → wr.heap[g]? = W3.heap[g]? := fun g h1 h2 => (H4.out.kp.blk g (by omega) (by omega)).trans ((HBD.out.block g (by omega)).trans (H.out.kp.blk g h2 (by omega)))
                        have HCK := Lib.hid hck; have HRK := Lib.hid hrk; have HUL4 := Lib.hid hul4; have HW4 := Lib.hid hw4; have HKN := Lib.hid hkn
                        clear hck hrk hul4 hw4 hkn
                        go_wp2_with fail
                        refine wp_region_by (PJs wr.drew fb W4.heap.size (.slice pa us4.length pk) (.slice na names.length nc) (.slice (some ⟨gt, ot, none⟩) sigs.length c2) (.slice (some ⟨gk, ok, none⟩) kks.length kck) j k gt (ot + j * 4) gk (ok + k * 4) rk (treeR names 4 (kks.getD k default)) us4) (by kernel_rfl) ?_ ?_ ?_
                        · exact ⟨by simp, Closed.start _, fun i => match i with
                            | 0 => .pointer (some ⟨fb, 1, none⟩)
                            | 1 => .slice pa us4.length pk
                            | 2 => .slice (some ⟨gt, ot, none⟩) sigs.length c2
                            | 3 => .int .i64 j
                            | 4 => .pointer (some ⟨gt, ot + j * 4, none⟩)
                            | 5 => .pointer (some ⟨gt, ot + j * 4 + 3, none⟩)
                            | 6 => .slice (some ⟨gk, ok, none⟩) kks.length kck
                            | 7 => .int .i64 k
                            | 8 => .pointer (some ⟨gk, ok + k * 4, none⟩)
                            | 9 => .agg #[.int .i64 rk.k, .int .i64 rk.n, .slice rk.an rk.ln rk.cn, .slice rk.ak rk.lk rk.ck]
                            | 10 => .slice na names.length nc
                            | 11 => (.agg #[.int .i64 0, .string ⟨#[]⟩, .slice none 0 0, .slice none 0 0])
                            | 14 => .pointer (some ⟨fb, 1, none⟩)
                            | _ => undef, ⟨0, ⟨#[]⟩, none, 0, 0, none, 0, 0⟩, Fr.start _ _ _, ⟨rfl, rfl, rfl, rfl, rfl, rfl, rfl, rfl, rfl, rfl, rfl, rfl, rfl⟩, by simp only [rep_getD]; exact AM.start⟩
                        · intro listed b v q hJ hi
                          obtain ⟨hsz, hC, vals, xc, hF, hV, hM⟩ := hJ
                          obtain ⟨hl1, hiN⟩ := not_up hsz hi
                          obtain ⟨_, o, ho, hdeps⟩ := mem_ready.1 hi
                          have hiN : q < 16 := hiN
                          obtain rfl | rfl | rfl | rfl | rfl | rfl | rfl | rfl | rfl | rfl | rfl | rfl | rfl | rfl | rfl | rfl : q = 0 ∨ q = 1 ∨ q = 2 ∨ q = 3 ∨ q = 4 ∨ q = 5 ∨ q = 6 ∨ q = 7 ∨ q = 8 ∨ q = 9 ∨ q = 10 ∨ q = 11 ∨ q = 12 ∨ q = 13 ∨ q = 14 ∨ q = 15 := by omega
                          · cases ho
                            have e12 := hF.old_is 12 (by rfl) rfl
                            refine PJs.quiet hsz hC hi hF hV hM (Slots.of (by rfl)) rfl rfl (by decide) ?_
                            rw [hV.v0]
                            simp [execOp, go_sem, e12]
                          · cases ho
                            have l15 : listed.getD 15 false = false := by
                              cases hh : listed.getD 15 false
                              · rfl
                              · have y0 := hC 15 _ rfl hh ⟨1, .phase⟩ (by simp) rfl; rw [hl1] at y0; cases y0
                            have hs := (hM.far (g := fb) hfbr (H4.out.row.ne (by omega)) (.inr l15)).trans H4.out.fat
                            obtain ⟨⟨y0, y1, y2, y3, y4, y5⟩, ⟨z0, z1, z2, z3, z4, z5⟩⟩ := six_blkF hs
                            have e92 := hF.up 0 92 rfl (hdeps ⟨0, .data⟩ (by simp) rfl)
                            rw [hV.v0] at e92
                            refine PJs.quiet hsz hC hi hF hV hM (Slots.of (by rfl)) rfl rfl (by decide) ?_
                            rw [hV.v1]
                            simp [execOp, go_sem, e92, y1]
                          · cases ho
                            have e2 := hF.old_is 2 (by rfl) rfl
                            refine PJs.quiet hsz hC hi hF hV hM (Slots.of (by rfl)) rfl rfl (by decide) ?_
                            rw [hV.v2]
                            simp [execOp, go_sem, e2]
                          · cases ho
                            have e11 := hF.old_is 11 (by rfl) rfl
                            refine PJs.quiet hsz hC hi hF hV hM (Slots.of (by rfl)) rfl rfl (by decide) ?_
                            rw [hV.v3]
                            simp [execOp, go_sem, e11]
                          · cases ho
                            have e94 := hF.up 2 94 rfl (hdeps ⟨2, .data⟩ (by simp) rfl)
                            rw [hV.v2] at e94
                            have e95 := hF.up 3 95 rfl (hdeps ⟨3, .data⟩ (by simp) rfl)
                            rw [hV.v3] at e95
                            refine PJs.quiet hsz hC hi hF hV hM (Slots.of (by rfl)) rfl rfl (by decide) ?_
                            rw [hV.v4]
                            simp [execOp, go_sem, e94, e95, hj0, hjz]
                          · cases ho
                            have e96 := hF.up 4 96 rfl (hdeps ⟨4, .data⟩ (by simp) rfl)
                            rw [hV.v4] at e96
                            refine PJs.quiet hsz hC hi hF hV hM (Slots.of (by rfl)) rfl rfl (by decide) ?_
                            rw [hV.v5]
                            simp [execOp, go_sem, e96]
                          · cases ho
                            have l15 : listed.getD 15 false = false := by
                              cases hh : listed.getD 15 false
                              · rfl
                              · have y0 := hC 15 _ rfl hh ⟨6, .phase⟩ (by simp) rfl; rw [hl1] at y0; cases y0
                            obtain ⟨y0, y1, y2, y3⟩ := HCT.out v ((hM.far (g := gt) hgtr (H4.out.row.ne (by omega)) (.inr l15)).trans hgts)
                            have e97 := hF.up 5 97 rfl (hdeps ⟨5, .data⟩ (by simp) rfl)
                            rw [hV.v5] at e97
                            refine PJs.quiet hsz hC hi hF hV hM (Slots.of (by rfl)) rfl rfl (by decide) ?_
                            rw [hV.v6]
                            simp [execOp, go_sem, e97, y3]
                          · cases ho
                            have e13 := hF.old_is 13 (by rfl) rfl
                            refine PJs.quiet hsz hC hi hF hV hM (Slots.of (by rfl)) rfl rfl (by decide) ?_
                            rw [hV.v7]
                            simp [execOp, go_sem, e13]
                          · cases ho
                            have e98 := hF.up 6 98 rfl (hdeps ⟨6, .data⟩ (by simp) rfl)
                            rw [hV.v6] at e98
                            have e99 := hF.up 7 99 rfl (hdeps ⟨7, .data⟩ (by simp) rfl)
                            rw [hV.v7] at e99
                            refine PJs.quiet hsz hC hi hF hV hM (Slots.of (by rfl)) rfl rfl (by decide) ?_
                            rw [hV.v8]
                            simp [execOp, go_sem, e98, e99, hk0, hkz]
                          · cases ho
                            have l15 : listed.getD 15 false = false := by
                              cases hh : listed.getD 15 false
                              · rfl
                              · have y0 := hC 15 _ rfl hh ⟨9, .phase⟩ (by simp) rfl; rw [hl1] at y0; cases y0
                            obtain ⟨y0, y1, y2, y3⟩ := HCK.out v ((hM.far (g := gk) hgkr (H4.out.row.ne (by omega)) (.inr l15)).trans hgks)
                            have e100 := hF.up 8 100 rfl (hdeps ⟨8, .data⟩ (by simp) rfl)
                            rw [hV.v8] at e100
                            refine PJs.quiet hsz hC hi hF hV hM (Slots.of (by rfl)) rfl rfl (by decide) ?_
                            rw [hV.v9]
                            simp [execOp, go_sem, e100, y0, y1, y2, y3]
                          · cases ho
                            have e8 := hF.old_is 8 (by rfl) rfl
                            refine PJs.quiet hsz hC hi hF hV hM (Slots.of (by rfl)) rfl rfl (by decide) ?_
                            rw [hV.v10]
                            simp [execOp, go_sem, e8]
                          · cases ho
                            have l12 : listed.getD 12 false = false := by
                              cases hh : listed.getD 12 false
                              · rfl
                              · have y0 := hC 12 _ rfl hh ⟨11, .data⟩ (by simp) rfl; rw [hl1] at y0; cases y0
                            have l13 : listed.getD 13 false = false := by
                              cases hh : listed.getD 13 false
                              · rfl
                              · have y0 := hC 13 _ rfl hh ⟨11, .chain⟩ (by simp) rfl; rw [hl1] at y0; cases y0
                            have l15 : listed.getD 15 false = false := by
                              cases hh : listed.getD 15 false
                              · rfl
                              · have y0 := hC 15 _ rfl hh ⟨11, .phase⟩ (by simp) rfl; rw [hl1] at y0; cases y0
                            have e101 := hF.up 9 101 rfl (hdeps ⟨9, .data⟩ (by simp) rfl)
                            rw [hV.v9] at e101
                            have e102 := hF.up 10 102 rfl (hdeps ⟨10, .data⟩ (by simp) rfl)
                            rw [hV.v10] at e102
                            rw [hl1, l12, l13, l15] at hM
                            have hbv := Below.of_drew hM.below
                            have CT : Calls Try.prog 22 #[.agg #[.int .i64 rk.k, .int .i64 rk.n, .slice rk.an rk.ln rk.cn, .slice rk.ak rk.lk rk.ck], .int .i64 4, .slice na names.length nc] v (TreeP (treeR names 4 (kks.getD k default)) v) := Tree_any 4 (by decide) (kks.getD k default) rk names na nc v (HRK.out.later (HW4.out.trans (hbv.mono (by omega)))) (HN3.out.keep (fun g hg => by have := hbv.size; have := hg.2; omega) (fun g hg => (hbv.block g (by have := hg.2; omega)).trans (HKN.out g hg.1 hg.2))) (by omega)
                            refine wpOp_call (f := 22) (args := #[.agg #[.int .i64 rk.k, .int .i64 rk.n, .slice rk.an rk.ln rk.cn, .slice rk.ak rk.lk rk.ck], .int .i64 4, .slice na names.length nc]) rfl rfl (by simp [execOp, go_sem, e101, e102]) CT ?_
                            rintro e w' ⟨yc, rfl, hk, hb⟩
                            refine ⟨_, rfl, ?_⟩
                            obtain ⟨vals', hvals⟩ : ∃ vals' : Nat → Value, vals' = fun q => if q = 11 then (Value.agg #[.int .i64 yc.k, .string yc.n, .slice yc.an yc.ln yc.cn, .slice yc.ak yc.lk yc.ck]) else vals q := ⟨_, rfl⟩
                            have hF' : Fr _ _ vals' listed b := hF.congr (fun i h => by rw [hvals]; exact (if_neg (by rintro rfl; rw [hl1] at h; cases h)))
                            have hV' : PVs fb (.slice pa us4.length pk) (.slice na names.length nc) (.slice (some ⟨gt, ot, none⟩) sigs.length c2) (.slice (some ⟨gk, ok, none⟩) kks.length kck) j k gt (ot + j * 4) gk (ok + k * 4) rk yc vals' := by rw [hvals]; exact ⟨hV.v0, hV.v1, hV.v2, hV.v3, hV.v4, hV.v5, hV.v6, hV.v7, hV.v8, hV.v9, hV.v10, rfl, hV.v14⟩
                            have hn : vals' 11 = .agg #[.int .i64 yc.k, .string yc.n, .slice yc.an yc.ln yc.cn, .slice yc.ak yc.lk yc.ck] := by rw [hvals]; rfl
                            refine ⟨by simpa using hsz, hC.put hi, vals', yc, hn ▸ hF'.put (Slots.of (by rfl)) hsz rfl, hV', ?_⟩
                            rw [getD_setE (i := 11) (by simp [hsz]), getD_setN (show 11 ≠ 12 by decide), getD_setN (show 11 ≠ 13 by decide), getD_setN (show 11 ≠ 15 by decide), l12, l13, l15]
                            exact hM.called hb hk
                          · cases ho
                            have l11 := hdeps ⟨11, .data⟩ (by simp) rfl
                            have l13 : listed.getD 13 false = false := by
                              cases hh : listed.getD 13 false
                              · rfl
                              · have y0 := hC 13 _ rfl hh ⟨12, .data⟩ (by simp) rfl; rw [hl1] at y0; cases y0
                            have l15 : listed.getD 15 false = false := by
                              cases hh : listed.getD 15 false
                              · rfl
                              · have y0 := hC 15 _ rfl hh ⟨12, .phase⟩ (by simp) rfl; rw [hl1] at y0; cases y0
                            have e103 := hF.up 11 103 rfl (hdeps ⟨11, .data⟩ (by simp) rfl)
                            rw [hV.v11] at e103
                            rw [l11, hl1, l13, l15] at hM
                            obtain ⟨vals', hvals⟩ : ∃ vals' : Nat → Value, vals' = fun q => if q = 12 then (Value.slice (some ⟨v.heap.size, 0, none⟩) 1 1) else vals q := ⟨_, rfl⟩
                            have hF' : Fr _ _ vals' listed b := hF.congr (fun i h => by rw [hvals]; exact (if_neg (by rintro rfl; rw [hl1] at h; cases h)))
                            have hV' : PVs fb (.slice pa us4.length pk) (.slice na names.length nc) (.slice (some ⟨gt, ot, none⟩) sigs.length c2) (.slice (some ⟨gk, ok, none⟩) kks.length kck) j k gt (ot + j * 4) gk (ok + k * 4) rk xc vals' := by rw [hvals]; exact ⟨hV.v0, hV.v1, hV.v2, hV.v3, hV.v4, hV.v5, hV.v6, hV.v7, hV.v8, hV.v9, hV.v10, hV.v11, hV.v14⟩
                            have hn : vals' 12 = .slice (some ⟨v.heap.size, 0, none⟩) 1 1 := by rw [hvals]; rfl
                            refine wpOp_run (w' := v.alloc (.cells (C4.cells xc).toArray 25)) (v := vals' 12) rfl rfl ?_ ⟨by simpa using hsz, hC.put hi, vals', xc, hF'.put (Slots.of (by rfl)) hsz rfl, hV', ?_⟩
                            · rw [hn]
                              simp [execOp, go_sem, e103, C4.cells]
                            · rw [getD_setE (i := 12) (by simp [hsz]), getD_setN (show 12 ≠ 11 by decide), getD_setN (show 12 ≠ 13 by decide), getD_setN (show 12 ≠ 15 by decide), l11, l13, l15]
                              rw [hn]
                              exact hM.laid
                          · cases ho
                            have l11 := hdeps ⟨11, .chain⟩ (by simp) rfl
                            have l12 := hdeps ⟨12, .data⟩ (by simp) rfl
                            have l15 : listed.getD 15 false = false := by
                              cases hh : listed.getD 15 false
                              · rfl
                              · have y0 := hC 15 _ rfl hh ⟨13, .data⟩ (by simp) rfl; rw [hl1] at y0; cases y0
                            have d1 := hdeps ⟨1, .data⟩ (by simp) rfl
                            rw [l11, l12, hl1, l15] at hM
                            obtain ⟨v0, h0, h2, rfl, hbs⟩ := hM.bs_at
                            have h0' := Below.of_drew h0
                            have h0z := h0'.size
                            refine wpOp_wp rfl rfl (Sh.wp_append_fresh (.tmp 93) (.tmp 104) 23 rfl W4.heap.size 25 ik (.agg #[.int .i64 0, .string ⟨#[]⟩, .slice none 0 0, .slice none 0 0]) 4 72 Try.underlying23 HIk.out HJk.out HKk.out HLk.out rfl (by decide) (.slice pa us4.length pk) us4.length (us4.flatMap C4.cells) ((hF.eval (i := 1) rfl d1).trans hV.v1) ((H4.out.row.below h0').alloc _).own ⟨v0.heap.size, 0, none⟩ 1 1 (C4.cells xc) ((hF.eval (i := 12) rfl l12).trans hbs) rfl (cells_newZ v0 (C4.cells xc) 25) (C4.one xc) (by have := HUL4.out; unfold maxLen; omega) (by have := HUL4.out; omega) (by simp; omega) ?_)
                            intro y w3 hown hgr hfr
                            obtain ⟨vals', hvals⟩ : ∃ vals' : Nat → Value, vals' = fun q => if q = 13 then y else vals q := ⟨_, rfl⟩
                            have hF' : Fr _ _ vals' listed b := hF.congr (fun i h => by rw [hvals]; exact (if_neg (by rintro rfl; rw [hl1] at h; cases h)))
                            have hV' : PVs fb (.slice pa us4.length pk) (.slice na names.length nc) (.slice (some ⟨gt, ot, none⟩) sigs.length c2) (.slice (some ⟨gk, ok, none⟩) kks.length kck) j k gt (ot + j * 4) gk (ok + k * 4) rk xc vals' := by rw [hvals]; exact ⟨hV.v0, hV.v1, hV.v2, hV.v3, hV.v4, hV.v5, hV.v6, hV.v7, hV.v8, hV.v9, hV.v10, hV.v11, hV.v14⟩
                            have hn : vals' 13 = y := by rw [hvals]; rfl
                            have hn3 : vals' 12 = vals 12 := by rw [hvals]; rfl
                            refine ⟨by simpa using hsz, hC.put hi, vals', xc, hn ▸ hF'.put (Slots.of (by rfl)) hsz rfl, hV', ?_⟩
                            rw [getD_setE (i := 13) (by simp [hsz]), getD_setN (show 13 ≠ 11 by decide), getD_setN (show 13 ≠ 12 by decide), getD_setN (show 13 ≠ 15 by decide), l11, l12, l15]
                            rw [hn, hn3]
                            exact AM.appended h0 h2 ⟨hown, hgr, hfr⟩
                          · cases ho
                            have e12 := hF.old_is 12 (by rfl) rfl
                            refine PJs.quiet hsz hC hi hF hV hM (Slots.of (by rfl)) rfl rfl (by decide) ?_
                            rw [hV.v14]
                            simp [execOp, go_sem, e12]
                          · cases ho
                            have l11 := hdeps ⟨11, .phase⟩ (by simp) rfl
                            have l12 := hdeps ⟨12, .phase⟩ (by simp) rfl
                            have l13 := hdeps ⟨13, .data⟩ (by simp) rfl
                            have e106 := hF.up 14 106 rfl (hdeps ⟨14, .data⟩ (by simp) rfl)
                            rw [hV.v14] at e106
                            have e105 := hF.up 13 105 rfl (hdeps ⟨13, .data⟩ (by simp) rfl)
                            have hs := (hM.far (g := fb) hfbr (H4.out.row.ne (by omega)) (.inr hl1)).trans H4.out.fat
                            obtain ⟨⟨y0, y1, y2, y3, y4, y5⟩, ⟨z0, z1, z2, z3, z4, z5⟩⟩ := six_blkF hs
                            rw [l11, l12, l13, hl1] at hM
                            obtain ⟨va, vc, hap⟩ := hM.row_at
                            rw [hap] at e105
                            refine wpOp_wp rfl rfl ?_
                            unfold Oper.wp Oper.upon
                            simp [execOp, go_sem, e106, e105, y1, z1]
                            refine ⟨by simpa using hsz, hC.put hi, vals, xc, hF.put (i := 15) (Slots.of (by rfl)) hsz rfl, hV, ?_⟩
                            rw [getD_setE (i := 15) (by simp [hsz]), getD_setN (show 15 ≠ 11 by decide), getD_setN (show 15 ≠ 12 by decide), getD_setN (show 15 ≠ 13 by decide), l11, l12, l13]
                            rw [← hap]
                            exact hM.stored
                        · intro listed b v hJ hr
                          obtain ⟨hsz, hC, vals, yc, hF, hV, hM⟩ := hJ
                          have hall := all_upB (by rfl) hsz hr
                          have hb : b = putAll _ vals _ 16 := hF.done (Slots.of (by rfl)) hall
                          rw [hall 11 (by decide), hall 12 (by decide), hall 13 (by decide), hall 15 (by decide)] at hM
                          obtain ⟨v0, w3, h0, h2, hp, rfl⟩ := hM.done
                          obtain ⟨va, vc, hap⟩ := own_sliceZ hp.own
                          subst hb
                          simp only [putAll, hV.v0, hV.v1, hV.v2, hV.v3, hV.v4, hV.v5, hV.v6, hV.v7, hV.v8, hV.v9, hV.v10, hV.v11, hV.v14, hap]
                          simp [dstOf]
                          have h0' := Below.of_drew h0
                          have hz3 : w3.heap.size ≥ v0.heap.size := by have := hp.grown.size; simp at this; omega
                          have h0z := h0'.size
                          have hS3 := ((AM.appended (bs := vals 12) (sb := fb) (off := 1) (enc := C4.cells) h0 h2 hp).far (g := fb) hfbr (H4.out.row.ne (by omega)) (.inr rfl)).trans H4.out.fat
                          have hstep : Step (fb :: X3) [.slice pa us4.length pk, (.slice sa gs.length sk)] [vals 13, (.slice sa gs.length sk)] v0 w3 := (Step.alloc v0 _).trans (Step.append hp.grown (by simp) hp.fresh (fun u hu => by simp at hu ⊢; rcases hu with rfl | rfl; exact .inl rfl; exact .inr (.inr rfl)))
                          have hg3 := TRow.snoc (H4.out.row.below h0') (h2.free (X := fb :: X3) (vs := [.slice pa us4.length pk, (.slice sa gs.length sk)]) (fun x hx => by rcases List.mem_cons.1 hx with rfl | hx; exact hfbr; have := HX3.out x hx; have : wr.drew.heap.size = wr.heap.size := rfl; omega) (fun v hv g e => by rcases List.mem_cons.1 hv with rfl | hv; exact (H4.out.row.own.lt g e).2; rw [List.mem_singleton.1 hv] at e; have := (H.out.row.own.lt g e).2; have : wr.drew.heap.size = wr.heap.size := rfl; omega)) hp.own hstep
                          have hO : Only fb w3 (w3.setCell ⟨fb, 1, none⟩ (vals 13)) := (Only.refl _ _).setCell _ _
                          have e1 := set_six1 hS3 (vals 13)
                          have hb3 := hp.below (H4.out.below.trans (h0'.mono (by omega))) (fun g e => by have := (H4.out.row.own.lt g e).1; omega) (by omega)
                          have e4 := hb3.trans (hO.below (Nat.le_refl _) (by omega))
                          have e5 := hg3.only (b := fb) (by simp) (fun x hx => by rcases List.mem_cons.1 hx with rfl | hx; exact hfz; have := HX3.out x hx; omega) hO
                          have e6 := (hp.kp (H4.out.kp.below h0') (fun g e => (H4.out.row.own.lt g e).1)).only hO
                          rw [← parR_succ] at e5
                          rw [hap] at e1 e4 e5 e6
                          have E1 := Lib.hid e1; have E4 := Lib.hid e4; have E5 := Lib.hid e5; have E6 := Lib.hid e6
                          clear e1 e4 e5 e6 hO hb3 hg3 hS3 h0 h2 hp hM hF hV hC hall hr hsz hstep
                          go_wp2
                          go_roundw
                          case rel => exact ⟨k + 1, _, _, by go_num, ⟨by omega, by omega⟩, E1.out, E5.out, E6.out, E4.out⟩
                          case measure => simp [intOf]; omega
                      · have hmk : min kks.length 3 = k := by omega
                        have HMK := Lib.hid hmk
                        clear hmk
                        by_cases hkk : k < kks.length
                        · have hkz : (k : Int) < (kks.length : Int) := by omega
                          have hk3z : ¬ (k : Int) < 3 := by omega
                          go_wp2
                          go_meet
                          exact ⟨_, us4, by rw [HMK.out]; exact H4.out⟩
                        · have hkz : ¬ (k : Int) < (kks.length : Int) := by omega
                          go_wp2
                          go_meet
                          exact ⟨_, us4, by rw [HMK.out]; exact H4.out⟩
                  case rest =>
                    obtain ⟨pv, us4, h4⟩ := hcut
                    obtain rfl := h4.slot
                    have hkz4 := h4.kp.size
                    obtain ⟨pa, pk, hpv⟩ := own_sliceZ h4.row.own
                    subst hpv
                    have hbx : Below wr.heap.size wr wc := HBD.out.trans (h4.below.mono hfb)
                    have hbz := hbx.size
                    have hs6 := (hbx.block (w.heap.size + 2) (by omega)).trans H.out.sat
                    obtain ⟨⟨a0, a1, a2, a3, a4, a5⟩, _⟩ := six_blkF hs6
                    obtain ⟨⟨b0, b1, b2, b3, b4, b5⟩, _⟩ := six_blkF h4.fat
                    have hrow6 := H.out.row.below hbx
                    have hgl : gs.length ≤ 4 := by rw [H.out.row.len]; simp [sgsR]; omega
                    have hsg := HSG.out
                    rw [← HRJ.out] at hsg
                    simp only [kidsR] at hsg
                    rw [HRJ.out] at hsg
                    have hfree : ∀ g, wr.heap.size ≤ g → g < wc.heap.size → Free wc X3 [(.slice sa gs.length sk)] g := fun g h1 h2 => ⟨h2, fun hx => by have := HX3.out g hx; omega, fun v hv e => by rw [List.mem_singleton.1 hv] at e; have := (H.out.row.own.lt g e).2; omega⟩
                    have hsv : SgV wc (Free wc X3 [(.slice sa gs.length sk)]) ⟨(fn4.getD j []), parR names kks (min kks.length 3), treeR names 4 rj⟩ ((fn4.getD j []), ⟨pa, us4.length, pk, xc⟩) :=
                      ⟨rfl, h4.row.len, ⟨us4, h4.row.len, h4.row.row _ (fun g e => hfree g (by have := (h4.row.own.lt g e).1; omega) (h4.row.own.lt g e).2), fun i h1 h2 => (h4.row.val i h1 h2).keep (fun g hg => ⟨hg.1, fun hx => hg.2.1 (List.mem_cons_of_mem _ hx), fun v hv => hg.2.2 v (List.mem_cons_of_mem _ hv)⟩) (fun _ _ => rfl)⟩,
                        HXT.out.keep (fun g hg => hfree g hg.1.1 (by have := hg.1.2; omega)) (fun g hg => h4.kp.blk g hg.1.2 (hg.2 rfl))⟩
                    have hbw6 : Below w.heap.size w wc := H.out.below.trans (hbx.mono (by omega))
                    have hkp6 := H.out.kp.below hbx
                    have HS6 := Lib.hid hs6; have HR6 := Lib.hid hrow6; have HSG2 := Lib.hid hsg; have HSV := Lib.hid hsv; have HBW6 := Lib.hid hbw6; have HKP6 := Lib.hid hkp6; have H4 := Lib.hid h4
                    clear hs6 hrow6 hsg hsv hbw6 hkp6 h4 hfree hbx
                    generalize fn4.getD j [] = fnm at *
                    go_wp2_with (at_builtin; (refine Sh.wpList_append_fresh rfl _ _ 27 rfl W3.heap.size 46 ig (.agg #[.string ⟨#[]⟩, .slice none 0 0, .int .i64 0, .string ⟨#[]⟩, .slice none 0 0, .slice none 0 0]) 6 112 Try.underlying27 HIg.out HJg.out HKg.out HLg.out rfl (by decide) _ _ _ rfl ((HR6.out.alloc _).own) ⟨wc.heap.size, 0, none⟩ 1 1 [.string ⟨fnm.toArray⟩, .slice pa us4.length pk, .int .i64 xc.k, .string xc.n, .slice xc.an xc.ln xc.cn, .slice xc.ak xc.lk xc.ck] rfl rfl (cells_newZ _ _ _) one6 (by unfold maxLen; omega) (by omega) (by simp; omega) ?_); intro v' w7 hown hgr hfr; obtain ⟨va, vk, rfl⟩ := own_sliceZ hown; have hs7 := (hgr.block (w.heap.size + 2) (by simp; omega) (fun e => H.out.row.ne (by omega) e.symm)).trans ((Below.heap_alloc _ _ _ (by omega)).trans HS6.out); have hz7 := hgr.size; simp at hz7; obtain ⟨⟨t0, t1, t2, t3, t4, t5⟩, ⟨f0, f1, f2, f3, f4, f5⟩⟩ := six_blkF hs7; have HS7 := Lib.hid hs7; have HOW := Lib.hid hown; have HGR := Lib.hid hgr; have HFR := Lib.hid hfr; clear hs7 hown hgr hfr)
                    have hO : Only (w.heap.size + 2) w7 (w7.setCell ⟨w.heap.size + 2, 5, none⟩ (.slice va (gs.length + 1) vk)) := (Only.refl _ _).setCell _ _
                    have e1 := set_six5 HS7.out (.slice va (gs.length + 1) vk)
                    have hb7 := (HBW6.out.alloc HBW6.out.size _).trans (below_grown HGR.out (fun g e => by have := (H.out.row.own.lt g e).1; omega) (by simp; omega))
                    have e4 := hb7.trans (hO.below (by omega) hb7.size)
                    have e5 := ((HR6.out.snoc HSV.out HOW.out HGR.out HFR.out).1).only (b := w.heap.size + 2) (by rw [HXX.out]; exact List.mem_cons_self) HX3.out hO
                    rw [← HSG2.out] at e5
                    have e6 := ((HKP6.out.below ((Below.refl _ _).alloc (Nat.le_refl _) _)).grown HGR.out (fun g e => (H.out.row.own.lt g e).1)).only hO
                    have E1 := Lib.hid e1; have E4 := Lib.hid e4; have E5 := Lib.hid e5; have E6 := Lib.hid e6
                    clear e1 e4 e5 e6 hO hb7
                    go_roundw
                    case rel => exact ⟨j + 1, _, _, by go_num, ⟨by omega, by omega⟩, E1.out, E5.out, E4.out, E6.out⟩
                    case measure => simp [intOf]; omega
            · have hmj : min sigs.length 4 = j := by omega
              have HMJ := Lib.hid hmj
              clear hmj
              by_cases hjs : j < sigs.length
              · have hjz : (j : Int) < (sigs.length : Int) := by omega
                have hj4z : ¬ (j : Int) < 4 := by omega
                go_wp2
                go_meet
                exact ⟨_, gs, by rw [HMJ.out]; exact H.out⟩
              · have hjz : ¬ (j : Int) < (sigs.length : Int) := by omega
                go_wp2
                go_meet
                exact ⟨_, gs, by rw [HMJ.out]; exact H.out⟩
        case rest =>
          clear H
          obtain ⟨v2, gs, h⟩ := hcut
          obtain rfl := h.slot
          obtain ⟨sa, sk, hv2⟩ := own_sliceZ h.row.own
          subst hv2
          have hkz3 := h.kp.size
          have hz9 := (h.kp.blk (w.heap.size + 1) (by omega) (by omega)).trans HO3.out
          obtain ⟨⟨a0, a1, a2, a3, a4, a5⟩, _⟩ := six_blkF h.sat
          obtain ⟨_, ⟨f0, f1, f2, f3, f4, f5⟩⟩ := six_blkF hz9
          obtain ⟨⟨v0, v1, v2, v3, v4, v5⟩, _⟩ := six_blkF (set_six5 (set_six4 (put4_six hz9 mc) (.slice xa us.length xk)) (.slice sa gs.length sk))
          have hO9 : Only (w.heap.size + 1) wc (((put4 wc (w.heap.size + 1) mc).setCell ⟨w.heap.size + 1, 4, none⟩ (.slice xa us.length xk)).setCell ⟨w.heap.size + 1, 5, none⟩ (.slice sa gs.length sk)) := ((put4_only _ _ _).setCell _ _).setCell _ _
          generalize hW9 : ((put4 wc (w.heap.size + 1) mc).setCell ⟨w.heap.size + 1, 4, none⟩ (.slice xa us.length xk)).setCell ⟨w.heap.size + 1, 5, none⟩ (.slice sa gs.length sk) = W9 at *
          have hs9 := hO9.size
          have hgl := HG3.out.len
          have hsl := h.row.len
          have hfin : SchP ⟨treeR names 6 main, ntR names types names.length, sgsR names sigs (min sigs.length 4)⟩ w (.returned (.agg #[.int .i64 mc.k, .string mc.n, .slice mc.an mc.ln mc.cn, .slice mc.ak mc.lk mc.ck, .slice xa us.length xk, .slice sa gs.length sk])) W9 := by
            have hk9 : ∀ g, g < W3.heap.size → g ≠ w.heap.size + 1 → g ≠ w.heap.size + 2 → W9.heap[g]? = W3.heap[g]? := fun g h1 h2 h3 => (hO9.block g (by omega) (fun e => h2 (by cases e; rfl))).trans (h.kp.blk g h1 h3)
            refine ⟨mc, xa, xk, us, sa, sk, gs, by rw [hgl, hsl], ?_, h.below.trans (hO9.below (by omega) h.below.size)⟩
            rw [← hgl, ← hsl]
            refine ⟨HM3.out.keep (fun g hg => ⟨by have := hg.2; omega, by simp, fun v hv e => ?_⟩) (fun g hg => hk9 g hg.2 (by have := hg.1; omega) (by have := hg.1; omega)), own_kp HG3.out.own (by omega) (fun g e => hk9 g (HG3.out.own.lt g e).2 (by have := (HG3.out.own.lt g e).1; omega) (by have := (HG3.out.own.lt g e).1; omega)), hgl, fun i h1 h2 => ⟨(HG3.out.val i h1 h2).1, (HG3.out.val i h1 h2).2.keep (fun g hg => ⟨by have := hg.1; omega, by simp, fun v hv e => ?_⟩) (fun g hg => hk9 g hg.1 (by have := hg.2.1; simp at this; exact this.2) (by have := hg.2.1; simp at this; exact this.1))⟩,
              own_kp h.row.own (by omega) (fun g e => hO9.block g (h.row.own.lt g e).2 (fun e2 => by cases e2; have := (h.row.own.lt _ e).1; omega)), hsl, fun i h1 h2 => (h.row.val i h1 h2).step (fun g hg => ⟨⟨by have := hg.1; omega, by simp, fun v hv e => ?_⟩, hO9.block g hg.1 (fun e => hg.2.1 (by cases e; rw [HXX.out]; simp))⟩), fun g e1 e2 => ?_⟩
            · simp at hv
              rcases hv with rfl | rfl
              · have := (HV1.out g e).2; have := hg.1; omega
              · have := (h.row.own.lt g e).1; have := hg.2; omega
            · simp at hv
              rcases hv with rfl | rfl
              · exact hg.2.2 _ (by simp) e
              · have := (h.row.own.lt g e).1; have := hg.1; omega
            · simp at hv
              rcases hv with rfl | rfl
              · exact hg.2.1 (by rw [HXX.out]; exact List.mem_cons_of_mem _ (List.mem_cons_of_mem _ (mem_blkL.2 e)))
              · exact hg.2.2 _ (by simp) e
            · have := (HG3.out.own.lt g e1).2; have := (h.row.own.lt g e2).1; omega
          have HFIN := Lib.hid hfin
          have hss : schR main types sigs = ⟨treeR names 6 main, ntR names types names.length, sgsR names sigs (min sigs.length 4)⟩ := by unfold schR; rw [HNA.out]
          have HSS := Lib.hid hss
          clear hfin hss hO9 hz9 hs9 h hgl hsl
          unfold put4 at hW9
          go_wp2
          rw [HSS.out]
          refine bodyPost_ret (v := .agg #[.int .i64 mc.k, .string mc.n, .slice mc.an mc.ln mc.cn, .slice mc.ak mc.lk mc.ck, .slice xa us.length xk, .slice sa gs.length sk]) (by simp [results, Try.results15, go_sem, v0, v1, v2, v3, v4, v5]) rfl ?_
          exact HFIN.out
end Sp
end Go.Proofs.Ytjjpjkkaogfoaaa
