/- Package sprueref4: Check. Written by gen_wchk.py. -/
import Derived.Test.YteooafgdmpbjeabV39
import Derived.Deep.DeepCutAuto
namespace Go.Proofs.Yteooafgdmpbjeab
open Go.RowKit
namespace Sp
open Sc
theorem fnsZ_drop {has : List UInt8 → Bool} {n : Nat} {a : List UInt8} {l : List Sg} {j : Nat} (h : j < l.length) : fnsZ has n a (l.drop j) = if (fnZ has n a l[j]).1 = 0 then fnsZ has (fnZ has n a l[j]).2 l[j].name (l.drop (j + 1)) else fnZ has n a l[j] := by rw [List.drop_eq_getElem_cons h, fnsZ]
/-- What Check of the chapter's own telling answers. -/
def refC (s : Sz) : Nat :=
  if 12 < s.types.length ∨ 12 < s.sigs.length then 3
  else if namesE wordB [] (s.types.map (·.1)) ≠ 0 then namesE wordB [] (s.types.map (·.1))
  else if schZ s ≠ 0 then schZ s
  else if (finiteR s.types).length ≠ s.types.length then 14
  else if (allT s).any (nestR s.types) = true then 17 else 0
structure NmR (w W0 : World) (tk : List UInt8 → Bool) (ns : List (List UInt8)) (kv : Value) (wr : World) (i : Nat) : Prop where
  slot : kv = .int .i64 i
  le : i ≤ ns.length
  names : namesE tk [] ns = namesE tk (prevN ns i) (ns.drop i)
  same : ∀ g : Nat, wr.heap[g]? = W0.heap[g]?
  size : wr.heap.size = W0.heap.size
  below : Below w.heap.size w wr
theorem schZ_bad1 {s : Sz} {e n : Nat} (h : allZ (hasZ s.types) 1 0 (s.types.map (·.2)) = (e, n)) (he : e ≠ 0) : schZ s = e := by
  unfold schZ; simp only [h]; rw [if_pos he]
theorem schZ_bad2 {s : Sz} {e n m : Nat} (h : allZ (hasZ s.types) 1 0 (s.types.map (·.2)) = (0, n)) (h2 : oneZ (hasZ s.types) 1 n s.main = (e, m)) (he : e ≠ 0) : schZ s = e := by
  unfold schZ; simp only [h, h2]; rw [if_neg (by simp), if_pos he]
theorem schZ_go {s : Sz} {n m : Nat} (h : allZ (hasZ s.types) 1 0 (s.types.map (·.2)) = (0, n)) (h2 : oneZ (hasZ s.types) 1 n s.main = (0, m)) : schZ s = (fnsZ (hasZ s.types) m [] s.sigs).1 := by
  unfold schZ; simp only [h, h2]; rw [if_neg (by simp), if_neg (by simp)]
structure FnR (w : World) (wb : Nat) (s : Sz) (c : C4) (a1 a2 : Option Addr) (us : List (List UInt8 × C4)) (gs : List (List UInt8 × G6)) (c1 c2 : Nat) (full : Nat × Nat) (ev jv : Value) (wr : World) (j n : Nat) : Prop where
  slot : jv = .int .i64 j
  err : ev = .int .i64 0
  le : j ≤ s.sigs.length
  few : n ≤ 400
  rest : fnsZ (hasZ s.types) n (prevN (s.sigs.map (·.name)) j) (s.sigs.drop j) = full
  box : wr.heap[w.heap.size]? = some (.cells #[.int .i64 c.k, .string c.n, .slice c.an c.ln c.cn, .slice c.ak c.lk c.ck, .slice a1 s.types.length c1, .slice a2 s.sigs.length c2] 35 (0, 0))
  walk : wr.heap[wb]? = some (.cells #[.int .i64 c.k, .string c.n, .slice c.an c.ln c.cn, .slice c.ak c.lk c.ck, .slice a1 s.types.length c1, .slice a2 s.sigs.length c2, .int .i64 n] 123 (0, 0))
  below : Below w.heap.size w wr
mutual
theorem oneZ_kids (has : List UInt8 → Bool) : ∀ (t : Tz) (d n : Nat), (oneZ has d n t).1 = 0 → kidsOk t = true
  | .mk k nm ns ks, d, n, h0 => by
    rw [oneZ] at h0
    split at h0
    · cases h0
    · split at h0
      · cases h0
      · split at h0
        · rename_i h3; exact absurd h0 h3
        · rename_i h3
          rw [kidsOk, Bool.and_eq_true]
          refine ⟨?_, allZ_kids has ks (d + 1) (n + 1) h0⟩
          by_cases h6 : k = 6
          · subst h6
            have h4 : ownE has 6 nm ns ks.length = 0 := by simpa using h3
            unfold ownE at h4
            rw [if_neg (by omega)] at h4
            split at h4
            · cases h4
            · rename_i h5
              unfold formB kidsN at h5
              simp at h5
              simp; omega
          · simp [h6]
theorem allZ_kids (has : List UInt8 → Bool) : ∀ (ks : List Tz) (d n : Nat), (allZ has d n ks).1 = 0 → kidsOks ks = true
  | [], _, _, _ => rfl
  | t :: ks, d, n, h0 => by
    rw [allZ] at h0
    split at h0
    · rename_i h1
      rw [kidsOks, oneZ_kids has t d n h1, allZ_kids has ks d _ h0]; rfl
    · rename_i h1; exact absurd h0 h1
end
theorem fnsZ_few (has : List UInt8 → Bool) : ∀ (l : List Sg) (a : List UInt8) (n : Nat), (fnsZ has n a l).1 = 0 → ∀ g ∈ l, g.params.length ≤ 4 ∧ kidsOks g.params = true ∧ kidsOk g.result = true
  | [], _, _, _, g, hg => by cases hg
  | x :: l, a, n, h0, g, hg => by
    rw [fnsZ] at h0
    split at h0
    · rename_i h1
      rcases List.mem_cons.1 hg with rfl | hg
      · unfold fnZ at h1
        split at h1
        · rename_i h2; exact absurd h1 h2
        · split at h1
          · cases h1
          · rename_i h2 h3
            split at h1
            · rename_i h4; exact absurd h1 h4
            · rename_i h4
              exact ⟨by omega, allZ_kids has _ _ _ (by simpa using h4), oneZ_kids has _ _ _ h1⟩
      · exact fnsZ_few has l _ _ h0 g hg
    · rename_i h1; exact absurd h0 h1
theorem kidsOks_all {ks : List Tz} (h : kidsOks ks = true) : ∀ t ∈ ks, kidsOk t = true := fun t ht => by
  obtain ⟨i, hi, rfl⟩ := List.mem_iff_getElem.1 ht
  exact kidsOks_mem ks h i hi
theorem allT_mem {s : Sz} {P : Tz → Prop} (h1 : ∀ x ∈ s.types, P x.2) (h2 : P s.main) (h3 : ∀ g ∈ s.sigs, (∀ t ∈ g.params, P t) ∧ P g.result) : ∀ t ∈ allT s, P t := fun t ht => by
  unfold allT at ht
  rw [List.mem_append, List.mem_append] at ht
  rcases ht with (ht | ht) | ht
  · obtain ⟨x, hx, rfl⟩ := List.mem_map.1 ht; exact h1 x hx
  · rw [List.mem_singleton.1 ht]; exact h2
  · obtain ⟨g, hg, ht⟩ := List.mem_flatMap.1 ht
    unfold sgT at ht
    rcases List.mem_append.1 ht with ht | ht
    · exact (h3 g hg).1 t ht
    · rw [List.mem_singleton.1 ht]; exact (h3 g hg).2
theorem SzFit.all {s : Sz} (h : SzFit s) : ∀ t ∈ allT s, fitZ t = true := allT_mem (fun x hx => by
    obtain ⟨i, hi, rfl⟩ := List.mem_iff_getElem.1 hx
    exact (h.types i hi).2) h.main (fun g hg => by
    obtain ⟨i, hi, rfl⟩ := List.mem_iff_getElem.1 hg
    have := h.sigs i hi
    unfold fitG at this
    simp only [Bool.and_eq_true] at this
    exact ⟨fun t ht => by
      obtain ⟨k, hk, rfl⟩ := List.mem_iff_getElem.1 ht
      exact fitZs_mem _ this.1.2 k hk, this.2⟩)
theorem all_kids {s : Sz} {n m r : Nat} (h1 : allZ (hasZ s.types) 1 0 (s.types.map (·.2)) = (0, n)) (h2 : oneZ (hasZ s.types) 1 n s.main = (0, m)) (h3 : fnsZ (hasZ s.types) m [] s.sigs = (0, r)) : ∀ t ∈ allT s, kidsOk t = true := by
  have k1 := kidsOks_all (allZ_kids _ _ _ _ (by rw [h1]))
  have k3 := fnsZ_few _ _ _ _ (by rw [h3])
  exact allT_mem (fun x hx => k1 _ (List.mem_map.2 ⟨x, hx, rfl⟩)) (oneZ_kids _ _ _ _ (by rw [h2])) (fun g hg => ⟨kidsOks_all (k3 g hg).2.1, (k3 g hg).2.2⟩)
structure OlR (w W6 : World) (s : Sz) (full : Bool) (kv : Value) (wr : World) (k : Nat) : Prop where
  slot : kv = .int .i64 k
  le : k ≤ (allT s).length
  rest : ((allT s).drop k).any (nestR s.types) = full
  below : Below W6.heap.size W6 wr
structure MaR (S : Nat → Prop) (w : World) (wb : Nat) (s : Sz) (c : C4) (a1 a2 : Option Addr) (us : List (List UInt8 × C4)) (gs : List (List UInt8 × G6)) (c1 c2 : Nat) (ks : List Tz) (full : Nat × Nat) (ev iv : Value) (wr : World) (j e n : Nat) : Prop where
  slot : iv = .int .i64 j
  err : ev = .int .i64 e
  le : j ≤ ks.length
  rest : e = 0 → allZ (hasZ s.types) 1 n (ks.drop j) = full ∧ n ≤ 400
  bad : e ≠ 0 → full = (e, n)
  box : wr.heap[w.heap.size]? = some (.cells #[.int .i64 c.k, .string c.n, .slice c.an c.ln c.cn, .slice c.ak c.lk c.ck, .slice a1 s.types.length c1, .slice a2 s.sigs.length c2] 35 (0, 0))
  walk : wr.heap[wb]? = some (.cells #[.int .i64 c.k, .string c.n, .slice c.an c.ln c.cn, .slice c.ak c.lk c.ck, .slice a1 s.types.length c1, .slice a2 s.sigs.length c2, .int .i64 n] 123 (0, 0))
  below : Below w.heap.size w wr
set_option maxRecDepth 100000 in
set_option maxHeartbeats 16000000 in
theorem Check_ref (S : Nat → Prop) (s : Sz) (c : C4) (a1 a2 : Option Addr) (us : List (List UInt8 × C4)) (gs : List (List UInt8 × G6)) (c1 c2 : Nat) (w : World) (hS : ∀ g, S g → g < w.heap.size) (hV : SzV w S s c a1 us a2 gs) (hl1 : s.types.length ≤ 1000000) (hl2 : s.sigs.length ≤ 1000000) (hf : SzFit s) :
    Calls Try.prog 37 #[.agg #[.int .i64 c.k, .string c.n, .slice c.an c.ln c.cn, .slice c.ak c.lk c.ck, .slice a1 s.types.length c1, .slice a2 s.sigs.length c2]] w fun e w' => e = .returned (.int .i64 (refC s : Nat)) ∧ Below w.heap.size w w' := by
  obtain ⟨W0, hW0⟩ : ∃ W0, W0 = w.alloc (.cells #[.int .i64 c.k, .string c.n, .slice c.an c.ln c.cn, .slice c.ak c.lk c.ck, .slice a1 s.types.length c1, .slice a2 s.sigs.length c2] 35) := ⟨_, rfl⟩
  have hb0 : Below w.heap.size w W0 := by rw [hW0]; exact (Below.refl _ _).alloc (Nat.le_refl _) _
  have hz0 : W0.heap.size = w.heap.size + 1 := by rw [hW0]; simp
  have hs0 : W0.heap[w.heap.size]? = some (.cells #[.int .i64 c.k, .string c.n, .slice c.an c.ln c.cn, .slice c.ak c.lk c.ck, .slice a1 s.types.length c1, .slice a2 s.sigs.length c2] 35 (0, 0)) := by rw [hW0]; exact heap_alloc_new w _
  have HSS := Lib.hid hS; have HV := Lib.hid hV; have HW0 := Lib.hid hW0; have HB0 := Lib.hid hb0; have HS0 := Lib.hid hs0; have HF := Lib.hid hf
  obtain ⟨⟨s0, s1, s2, s3, s4, s5⟩, _⟩ := six_blkF hs0
  clear hS hV hW0 hb0 hs0 hf
  go_enter Try.func37, Try.ntmps37
  go_upto_region 1 with fail
  rw [← HW0.out]
  by_cases h1 : 12 < s.types.length
  · have h1z : (12 : Int) < (s.types.length : Int) := by omega
    have hv : refC s = 3 := by unfold refC; exact if_pos (.inl h1)
    have HVV := Lib.hid hv
    clear hv
    go_wp2
    go_ret
    exact ⟨ret_intZ (by rw [HVV.out]; rfl), HB0.out⟩
  · have h1z : ¬ (12 : Int) < (s.types.length : Int) := by omega
    by_cases h2 : 12 < s.sigs.length
    · have h2z : (12 : Int) < (s.sigs.length : Int) := by omega
      have hv : refC s = 3 := by unfold refC; exact if_pos (.inr h2)
      have HVV := Lib.hid hv
      clear hv
      go_wp2
      go_ret
      exact ⟨ret_intZ (by rw [HVV.out]; rfl), HB0.out⟩
    · have h2z : ¬ (12 : Int) < (s.sigs.length : Int) := by omega
      have HL : Hid (¬ (12 < s.types.length ∨ 12 < s.sigs.length)) := fun h => h.elim h1 h2
      have ht12 : s.types.length ≤ 12 := by omega
      have hs12 : s.sigs.length ≤ 12 := by omega
      clear h1 h2
      go_wp2_with fail
      go_loopw [3] (fun v3 wr => ∃ i : Nat, NmR w W0 wordB (s.types.map (·.1)) v3 wr i) (fun v3 _ => s.types.length - (intOf v3).toNat)
      case atStart => exact ⟨0, rfl, Nat.zero_le _, rfl, fun _ => rfl, rfl, HB0.out⟩
      case round =>
        obtain ⟨i, h⟩ := hrel
        obtain rfl := h.slot
        have hi := h.le
        rw [List.length_map] at hi
        obtain ⟨⟨p0, p1, p2, p3, p4, p5⟩, _⟩ := six_blkF ((h.same _).trans HS0.out)
        have hd := Lib.hid h.names
        have hwz := h.size
        have H := Lib.hid h
        clear h s0 s1 s2 s3 s4 s5
        by_cases hlt : i < s.types.length
        · have hiz : (i : Int) < (s.types.length : Int) := by omega
          have hi0 : (0 : Int) ≤ (i : Int) := by omega
          have hju : i < us.length := by rw [HV.out.nt]; exact hlt
          obtain ⟨g, o, rfl, hg, hc⟩ := nam_at HV.out.rt HSS.out i hju
          obtain ⟨c0, -, -, -, -⟩ := hc wr (fun j hj => H.out.below.block j hj)
          obtain ⟨hn, -⟩ := HV.out.vt i hlt hju
          rw [hn] at c0
          have hil : i < (s.types.map (·.1)).length := by rw [List.length_map]; exact hlt
          have hnl : (s.types.map (·.1))[i] = s.types[i].1 := by rw [List.getElem_map]
          have CI := RIdent_any ⟨s.types[i].1.toArray⟩ wr (HF.out.types i hlt).1
          rw [show (⟨s.types[i].1.toArray⟩ : ByteArray).data.toList = s.types[i].1 from rfl] at CI
          have CW := word_ref s.types[i].1 wr
          have hdr := namesE_drop (tk := wordB) (a := prevN (s.types.map (·.1)) i) hil
          rw [hnl] at hdr
          have hpn : prevN (s.types.map (·.1)) (i + 1) = s.types[i].1 := by unfold prevN; rw [if_neg (by omega), Nat.add_sub_cancel]; simp [List.getD, hlt]
          have e1 := toList_mk' s.types[i].1
          generalize s.types[i].1 = nm at *
          have HDR := Lib.hid hdr; have HPN := Lib.hid hpn
          clear hdr hpn hc hn hnl
          cases hid : identB nm
          · have hne : namesE wordB [] (s.types.map (·.1)) = 15 := by rw [hd.out, HDR.out]; unfold nameE; simp [hid]
            have hv : refC s = 15 := by unfold refC; rw [if_neg HL.out, hne]; rfl
            rw [hid] at CI
            have HVV := Lib.hid hv; have HCI := Lib.hid CI
            clear hne hv CI hid CW hd
            go_wp2_with (go_at_call 52; (with_reducible refine HCI.out.mono ?_); rintro e w2 ⟨rfl, rfl⟩)
            go_ret
            exact ⟨ret_intZ (by rw [HVV.out]; rfl), H.out.below⟩
          · rw [hid] at CI
            have HCI := Lib.hid CI
            clear CI
            cases hwd : wordB nm
            · rw [hwd] at CW
              have HCW := Lib.hid CW
              clear CW
              by_cases hi1 : i = 0
              · have hdd : decide ((0 : Int) < (i : Int)) = false := decide_eq_false (by omega)
                have hde : decide (0 < i) = false := decide_eq_false (by omega)
                have hl := leB_nil hid
                have hd' : namesE wordB [] (s.types.map (·.1)) = namesE wordB (prevN (s.types.map (·.1)) (i + 1)) ((s.types.map (·.1)).drop (i + 1)) := by
                  rw [hd.out, HDR.out, HPN.out, if_pos (by unfold nameE leB prevN; rw [hid, hwd, if_neg (by simp), if_pos hi1, hl]; simp)]
                have HD := Lib.hid hd'
                clear hd' hid hl hd hi1 hwd
                go_wp2_with (first | (go_at_call 52; (with_reducible refine HCI.out.mono ?_); rintro e w2 ⟨rfl, rfl⟩) | (go_at_call 53; (with_reducible refine HCW.out.mono ?_); rintro e w2 ⟨rfl, rfl⟩))
                go_quiet (fail)
                go_wp2
                go_roundw
                case rel => exact ⟨i + 1, by go_num, by rw [List.length_map]; omega, HD.out, H.out.same, H.out.size, below_dNZ H.out.below _⟩
                case measure => simp [intOf]; omega
              · have hip : (0 : Int) < (i : Int) := by omega
                have hiq : 0 < i := by omega
                have him : (i : Int) - 1 = ((i - 1 : Nat) : Int) := by omega
                have him2 : IntKind.i64.wrap ((i : Int) - 1) = ((i - 1 : Nat) : Int) := by rw [IntKind.wrap_i64]; omega
                have hlt1 : i - 1 < s.types.length := by omega
                have hju1 : i - 1 < us.length := by rw [HV.out.nt]; exact hlt1
                obtain ⟨g2, o2, e2, hg2, hc2⟩ := nam_at HV.out.rt HSS.out (i - 1) hju1
                obtain ⟨rfl, rfl⟩ : g = g2 ∧ o = o2 := by cases e2; exact ⟨rfl, rfl⟩
                obtain ⟨d0, -, -, -, -⟩ := hc2 wr (fun j hj => H.out.below.block j hj)
                obtain ⟨hn1, -⟩ := HV.out.vt (i - 1) hlt1 hju1
                rw [hn1] at d0
                have hgp : prevN (s.types.map (·.1)) i = s.types[i - 1].1 := by unfold prevN; rw [if_neg hi1]; simp [List.getD, hlt1]
                have e3 := toList_mk' s.types[i - 1].1
                have hjz : ((i - 1 : Nat) : Int) < (s.types.length : Int) := by omega
                have hj0 : (0 : Int) ≤ ((i - 1 : Nat) : Int) := by omega
                have HPI := Lib.hid hgp; have HID := Lib.hid hid; have HWD := Lib.hid hwd
                clear hid hc2 hgp e2 hn1 hwd
                generalize s.types[i - 1].1 = b at *
                cases hl : (Op.bytesLess nm b || nm == b)
                · have hd' : namesE wordB [] (s.types.map (·.1)) = namesE wordB (prevN (s.types.map (·.1)) (i + 1)) ((s.types.map (·.1)).drop (i + 1)) := by
                    rw [hd.out, HDR.out, HPN.out, show prevN (s.types.map (·.1)) i = b from HPI.out, if_pos (by unfold nameE leB; simp [HID.out, HWD.out, hl])]
                  have HD := Lib.hid hd'
                  clear hd' hd
                  go_wp2_with (first | (go_at_call 52; (with_reducible refine HCI.out.mono ?_); rintro e w2 ⟨rfl, rfl⟩) | (go_at_call 53; (with_reducible refine HCW.out.mono ?_); rintro e w2 ⟨rfl, rfl⟩))
                  go_quiet (fail)
                  go_wp2
                  go_roundw
                  case rel => exact ⟨i + 1, by go_num, by rw [List.length_map]; omega, HD.out, H.out.same, H.out.size, below_dNZ H.out.below _⟩
                  case measure => simp [intOf]; omega
                · have hne : namesE wordB [] (s.types.map (·.1)) = 6 := by rw [hd.out, HDR.out, show prevN (s.types.map (·.1)) i = b from HPI.out]; unfold nameE leB; simp [HID.out, HWD.out, hl]
                  have hv : refC s = 6 := by unfold refC; rw [if_neg HL.out, hne]; rfl
                  have HVV := Lib.hid hv
                  clear hne hv hd
                  go_wp2_with (first | (go_at_call 52; (with_reducible refine HCI.out.mono ?_); rintro e w2 ⟨rfl, rfl⟩) | (go_at_call 53; (with_reducible refine HCW.out.mono ?_); rintro e w2 ⟨rfl, rfl⟩))
                  go_quiet (fail)
                  go_wp2
                  go_ret
                  exact ⟨ret_intZ (by rw [HVV.out]; rfl), below_dNZ H.out.below _⟩
            · rw [hwd] at CW
              have HCW := Lib.hid CW
              have hne : namesE wordB [] (s.types.map (·.1)) = 15 := by rw [hd.out, HDR.out]; unfold nameE; simp [hid, hwd]
              have hv : refC s = 15 := by unfold refC; rw [if_neg HL.out, hne]; rfl
              have HVV := Lib.hid hv
              clear hne hv hid CW hd hwd
              go_wp2_with (first | (go_at_call 52; (with_reducible refine HCI.out.mono ?_); rintro e w2 ⟨rfl, rfl⟩) | (go_at_call 53; (with_reducible refine HCW.out.mono ?_); rintro e w2 ⟨rfl, rfl⟩))
              go_ret
              exact ⟨ret_intZ (by rw [HVV.out]; rfl), H.out.below⟩
        · have hiz : ¬ (i : Int) < (s.types.length : Int) := by omega
          obtain rfl : i = s.types.length := by omega
          have hne : namesE wordB [] (s.types.map (·.1)) = 0 := by rw [hd.out, List.drop_of_length_le (by rw [List.length_map]; exact Nat.le_refl _)]; rfl
          have hrc : refC s = if schZ s ≠ 0 then schZ s else if (finiteR s.types).length ≠ s.types.length then 14 else if (allT s).any (nestR s.types) = true then 17 else 0 := by unfold refC; rw [if_neg HL.out, hne, if_neg (by simp)]
          obtain ⟨W1, hW1⟩ : ∃ W1, W1 = wr.alloc (.cells #[.int .i64 c.k, .string c.n, .slice c.an c.ln c.cn, .slice c.ak c.lk c.ck, .slice a1 s.types.length c1, .slice a2 s.sigs.length c2, .int .i64 0] 123) := ⟨_, rfl⟩
          obtain ⟨wb, hwb⟩ : ∃ wb, wb = w.heap.size + 1 := ⟨_, rfl⟩
          have hz1 : W1.heap.size = wb + 1 := by rw [hW1, hwb]; simp; omega
          have hb1 : Below w.heap.size w W1 := by rw [hW1]; exact H.out.below.alloc H.out.below.size _
          have hs1 : W1.heap[w.heap.size]? = some (.cells #[.int .i64 c.k, .string c.n, .slice c.an c.ln c.cn, .slice c.ak c.lk c.ck, .slice a1 s.types.length c1, .slice a2 s.sigs.length c2] 35 (0, 0)) := by rw [hW1]; exact blk_allocZ ((H.out.same _).trans HS0.out) _
          have hw1 : W1.heap[wb]? = some (.cells #[.int .i64 c.k, .string c.n, .slice c.an c.ln c.cn, .slice c.ak c.lk c.ck, .slice a1 s.types.length c1, .slice a2 s.sigs.length c2, .int .i64 ((0 : Nat) : Int)] 123 (0, 0)) := by rw [hW1, blk_if, if_pos (by omega)]; rfl
          obtain ⟨full, hfull⟩ : ∃ full, allZ (hasZ s.types) 1 0 (s.types.map (·.2)) = full := ⟨_, rfl⟩
          have hwbw : w.heap.size < wb := by omega
          have hsg : ∀ g, S g → g < wb := fun g hg => by have := HSS.out g hg; omega
          have HRC := Lib.hid hrc; have HB1 := Lib.hid hb1; have HS1 := Lib.hid hs1; have HW1 := Lib.hid hw1; have HFU := Lib.hid hfull; have HSG := Lib.hid hsg; have HWW := Lib.hid hW1
          clear hrc hb1 hs1 hw1 hfull hsg hW1 hne hd H
          go_wp2_with fail
          rw [← HWW.out, ← hwb]
          clear HWW hwb hwz p0 p1 p2 p3 p4 p5
          go_loopw [5, 6] (fun v5 v6 wr => ∃ j e n, MaR S w wb s c a1 a2 us gs c1 c2 (s.types.map (·.2)) full v5 v6 wr j e n) (fun _ v6 _ => s.types.length - (intOf v6).toNat)
          case atStart => exact ⟨0, 0, 0, rfl, rfl, Nat.zero_le _, fun _ => ⟨HFU.out, by omega⟩, fun h => absurd rfl h, HS1.out, HW1.out, HB1.out⟩
          case round =>
            obtain ⟨j, e, n, h⟩ := hrel
            obtain rfl := h.slot
            obtain rfl := h.err
            have hle := h.le
            rw [List.length_map] at hle
            obtain ⟨⟨p0, p1, p2, p3, p4, p5⟩, _⟩ := six_blkF h.box
            have hwz := (Array.getElem?_eq_some_iff.1 h.walk).1
            have H := Lib.hid h
            clear h
            by_cases he : e = 0
            · subst he
              obtain ⟨hrest, hn'⟩ := H.out.rest rfl
              by_cases hj : j < s.types.length
              · have hjz : (j : Int) < (s.types.length : Int) := by omega
                have hj0 : (0 : Int) ≤ (j : Int) := by omega
                have hju : j < us.length := by rw [HV.out.nt]; exact hj
                have hjl : j < (s.types.map (·.2)).length := by rw [List.length_map]; exact hj
                obtain ⟨g, o, rfl, hg, hc⟩ := nam_at HV.out.rt HSS.out j hju
                obtain ⟨-, q0, q1, q2, q3⟩ := hc wr (fun i hi => H.out.below.block i hi)
                obtain ⟨-, hv⟩ := HV.out.vt j hj hju
                have C : Calls Try.prog 54 #[.pointer (some ⟨wb, 0, none⟩), .agg #[.int .i64 us[j].2.k, .string us[j].2.n, .slice us[j].2.an us[j].2.ln us[j].2.cn, .slice us[j].2.ak us[j].2.lk us[j].2.ck], .int .i64 1] wr _ := may_ref S wb s c _ a2 us gs c1 c2 (by unfold maxLen; omega) s.types[j].2 (HF.out.types j hj).2 us[j].2 1 n wr HSG.out hwz hn' (by omega) (HV.out.keep (fun g hg => H.out.below.block g (HSS.out g hg))) (hv.keep (fun _ h => h) (fun g hg => H.out.below.block g (HSS.out g hg))) H.out.walk
                rw [allZ_drop hjl, show (s.types.map (·.2))[j] = s.types[j].2 by rw [List.getElem_map]] at hrest
                have hle2 := oneZ_le (hasZ s.types) s.types[j].2 1 n hn'
                generalize oneZ (hasZ s.types) 1 n s.types[j].2 = r at *
                obtain ⟨e2, n2⟩ := r
                generalize us[j].2 = x at *
                have HC := Lib.hid C; have HRE2 := Lib.hid hrest; have HLE := Lib.hid hle2
                clear C hrest hc hle2 hv
                go_wp2_with (go_at_call 54; (with_reducible refine HC.out.mono ?_); rintro e3 w2 ⟨rfl, x2, x3, x4⟩; have hz2 := x4.size; obtain ⟨⟨m0, m1, m2, m3, m4, m5⟩, _⟩ := six_blkF ((x3.block w.heap.size (by omega)).trans H.out.box); have HX2 := Lib.hid x2; have HX3 := Lib.hid x3; have HX4 := Lib.hid x4; clear x2 x3 x4)
                go_roundw
                case rel => exact ⟨j + 1, e2, n2, by go_num, rfl, by rw [List.length_map]; omega, fun h => ⟨by have := HRE2.out; rw [if_pos h] at this; exact this, HLE.out h⟩, fun h => by have := HRE2.out; rw [if_neg h] at this; exact this.symm, (HX3.out.block w.heap.size (by omega)).trans H.out.box, HX2.out, H.out.below.trans (HX3.out.mono (by omega))⟩
                case measure => simp [intOf]; omega
              · have hjz : ¬ (j : Int) < (s.types.length : Int) := by omega
                have hfe : allZ (hasZ s.types) 1 0 (s.types.map (·.2)) = (0, n) := by rw [HFU.out, ← hrest, List.drop_of_length_le (by rw [List.length_map]; omega)]; rfl
                have C : Calls Try.prog 54 #[.pointer (some ⟨wb, 0, none⟩), .agg #[.int .i64 c.k, .string c.n, .slice c.an c.ln c.cn, .slice c.ak c.lk c.ck], .int .i64 1] wr _ := may_ref S wb s c a1 a2 us gs c1 c2 (by unfold maxLen; omega) s.main HF.out.main c 1 n wr HSG.out hwz hn' (by omega) (HV.out.keep (fun g hg => H.out.below.block g (HSS.out g hg))) (HV.out.main.keep (fun _ h => h) (fun g hg => H.out.below.block g (HSS.out g hg))) H.out.walk
                obtain ⟨r, hr⟩ : ∃ r, oneZ (hasZ s.types) 1 n s.main = r := ⟨_, rfl⟩
                have hle2 := oneZ_le (hasZ s.types) s.main 1 n hn'
                rw [hr] at C hle2
                obtain ⟨e2, n2⟩ := r
                have HC := Lib.hid C; have HFE := Lib.hid hfe; have HR := Lib.hid hr; have HLE := Lib.hid hle2
                clear C hrest hfe hr hle2
                by_cases he2 : e2 = 0
                · subst he2
                  have hn2 := HLE.out rfl
                  go_wp2_with (go_at_call 54; (with_reducible refine HC.out.mono ?_); rintro e3 w2 ⟨rfl, x2, x3, x4⟩; have hz2 := x4.size; obtain ⟨⟨m0, m1, m2, m3, m4, m5⟩, _⟩ := six_blkF ((x3.block w.heap.size (by omega)).trans H.out.box); have HX2 := Lib.hid x2; have HX3 := Lib.hid x3; have HX4 := Lib.hid x4; clear x2 x3 x4)
                  have hgo := schZ_go HFE.out HR.out
                  have hb2 := H.out.below.trans (HX3.out.mono (by omega))
                  have hs2 := (HX3.out.block w.heap.size (by omega)).trans H.out.box
                  have hw2z : wb < w2.heap.size := by omega
                  have hkd : ∀ r, fnsZ (hasZ s.types) n2 [] s.sigs = (0, r) → ∀ t ∈ allT s, kidsOk t = true := fun r h => all_kids HFE.out HR.out h
                  have HKD := Lib.hid hkd
                  clear hkd
                  have HGO := Lib.hid hgo; have HB2 := Lib.hid hb2; have HS2 := Lib.hid hs2; have HWK2 := Lib.hid HX2.out
                  clear hgo hb2 hs2 H HC HFE HR HLE HX2 HX3 HX4 m0 m1 m2 m3 m4 m5 p0 p1 p2 p3 p4 p5
                  obtain ⟨fu, hfu⟩ : ∃ fu, fnsZ (hasZ s.types) n2 [] s.sigs = fu := ⟨_, rfl⟩
                  have hbad : ∀ e m, e ≠ 0 → fu = (e, m) → refC s = e := fun e m he h => by rw [HRC.out, HGO.out, hfu, h, if_pos he]
                  have HFF := Lib.hid hfu; have HBAD := Lib.hid hbad
                  clear hfu hbad
                  go_wp2_with fail
                  go_loopw [5, 7] (fun v5 v7 wr => ∃ j n, FnR w wb s c a1 a2 us gs c1 c2 fu v5 v7 wr j n) (fun _ v7 _ => s.sigs.length - (intOf v7).toNat)
                  case atStart => exact ⟨0, n2, rfl, rfl, Nat.zero_le _, hn2, HFF.out, HS2.out, HWK2.out, HB2.out⟩
                  case round =>
                    clear HWK2 HB2 HS2 hn2 hw2z hz2
                    obtain ⟨j, n, h⟩ := hrel
                    obtain rfl := h.slot
                    obtain rfl := h.err
                    have hle := h.le
                    have hn4 := h.few
                    obtain ⟨⟨p0, p1, p2, p3, p4, p5⟩, _⟩ := six_blkF h.box
                    have hwz := (Array.getElem?_eq_some_iff.1 h.walk).1
                    have H := Lib.hid h
                    clear h
                    by_cases hj : j < s.sigs.length
                    · have hjz : (j : Int) < (s.sigs.length : Int) := by omega
                      have hj0 : (0 : Int) ≤ (j : Int) := by omega
                      have hju : j < gs.length := by rw [HV.out.ng]; exact hj
                      obtain ⟨g, o, rfl, hg, hc⟩ := sig_at HV.out.rg HSS.out j hju
                      obtain ⟨q0, q1, q2, q3, q4, q5⟩ := hc wr (fun i hi => H.out.below.block i hi)
                      obtain ⟨hnm, hlp, ⟨ps, hpl, hpr, hpv⟩, hres⟩ := HV.out.vg j hj hju
                      rw [hnm] at q0
                      have hdr := fnsZ_drop (has := hasZ s.types) (n := n) (a := prevN (s.sigs.map (·.name)) j) hj
                      rw [H.out.rest] at hdr
                      unfold fnZ at hdr
                      have hfg := HF.out.sigs j hj
                      have hpn : prevN (s.sigs.map (·.name)) (j + 1) = s.sigs[j].name := by unfold prevN; rw [if_neg (by omega), Nat.add_sub_cancel]; simp [List.getD, hj]
                      unfold fitG at hfg
                      generalize s.sigs[j].params = pl at *
                      generalize s.sigs[j].result = rt at *
                      generalize s.sigs[j].name = nm at *
                      generalize gs[j].2 = x at *
                      obtain ⟨xap, xlp, xcp, xr⟩ := x
                      simp only at hlp hpr hres q0 q1 q2 q3 q4 q5
                      subst hlp
                      obtain ⟨W4, hW4⟩ : ∃ W4, W4 = wr.alloc (.cells #[.string ⟨nm.toArray⟩, .slice xap pl.length xcp, .int .i64 xr.k, .string xr.n, .slice xr.an xr.ln xr.cn, .slice xr.ak xr.lk xr.ck] 58) := ⟨_, rfl⟩
                      have hz4 : W4.heap.size = wr.heap.size + 1 := by rw [hW4]; simp
                      have hb4 : Below wr.heap.size wr W4 := by rw [hW4]; exact (Below.refl _ _).alloc (Nat.le_refl _) _
                      have hf4 : W4.heap[wr.heap.size]? = some (.cells #[.string ⟨nm.toArray⟩, .slice xap pl.length xcp, .int .i64 xr.k, .string xr.n, .slice xr.an xr.ln xr.cn, .slice xr.ak xr.lk xr.ck] 58 (0, 0)) := by rw [hW4]; exact heap_alloc_new wr _
                      obtain ⟨⟨b0, b1, b2, b3, b4, b5⟩, _⟩ := six_blkF hf4
                      obtain ⟨⟨d0, d1, d2, d3, d4, d5⟩, _⟩ := six_blkF ((hb4.block w.heap.size (by omega)).trans H.out.box)
                      have HW4 := Lib.hid hW4; have HB4 := Lib.hid hb4; have HF4 := Lib.hid hf4; have HDR := Lib.hid hdr; have HPN := Lib.hid hpn; have HFG := Lib.hid hfg; have HPL := Lib.hid hpl; have HPR := Lib.hid hpr; have HPV := Lib.hid hpv; have HRES := Lib.hid hres
                      clear hW4 hb4 hf4 hdr hpn hfg hpl hpr hpv hres hc hnm
                      go_upto_region 24 with fail
                      rw [← HW4.out]
                      have hfg := HFG.out
                      simp only [Bool.and_eq_true, decide_eq_true_eq] at hfg
                      obtain ⟨⟨⟨hf1, hf2⟩, hf3⟩, hf5⟩ := hfg
                      have CI := RIdent_any ⟨nm.toArray⟩ W4 hf1
                      rw [show (⟨nm.toArray⟩ : ByteArray).data.toList = nm from rfl] at CI
                      have CW := Builtin_ref nm W4
                      have e1 := toList_mk' nm
                      have HF3 := Lib.hid hf3; have HF5 := Lib.hid hf5
                      clear hf1 hf3 hf5
                      unfold maxLen at hf2
                      have hbw := H.out.below.trans (HB4.out.mono H.out.below.size)
                      have HBW := Lib.hid hbw
                      clear hbw
                      cases hid : identB nm
                      · have hb : fu = (15, n) := by
                          rw [HDR.out, show nameE (prevN (s.sigs.map (·.name)) j) nm (builtinB nm) = 15 by unfold nameE; simp [hid]]; simp
                        have hv : refC s = 15 := HBAD.out 15 n (by decide) hb
                        rw [hid] at CI
                        have HVV := Lib.hid hv; have HCI := Lib.hid CI
                        clear hb hv CI CW hid
                        go_wp2_with (go_at_call 52; (with_reducible refine HCI.out.mono ?_); rintro e w2 ⟨rfl, rfl⟩)
                        go_ret
                        exact ⟨ret_intZ (by rw [HVV.out]; rfl), HBW.out⟩
                      · rw [hid] at CI
                        have HCI := Lib.hid CI
                        clear CI
                        cases hwd : builtinB nm
                        · rw [hwd] at CW
                          have HCW := Lib.hid CW
                          clear CW
                          obtain ⟨lb, hlb⟩ : ∃ lb, leB nm (prevN (s.sigs.map (·.name)) j) = lb := ⟨_, rfl⟩
                          have HLB := Lib.hid hlb; have HID := Lib.hid hid; have HWD := Lib.hid hwd
                          clear hlb hid hwd
                          go_upto_region 26 with (first | (go_at_call 52; (with_reducible refine HCI.out.mono ?_); rintro e w2 ⟨rfl, rfl⟩) | (go_at_call 55; (with_reducible refine HCW.out.mono ?_); rintro e w2 ⟨rfl, rfl⟩))
                          go_cut [129] (fun s129 wx => s129 = .bool lb ∧ ∃ nq, wx = W4.drewN nq)
                          case first =>
                            by_cases hj1 : j = 0
                            · have hdd : decide ((0 : Int) < (j : Int)) = false := decide_eq_false (by omega)
                              have hde : decide (0 < j) = false := decide_eq_false (by omega)
                              have hl : lb = false := by rw [← HLB.out]; unfold leB prevN; rw [if_pos hj1]; exact leB_nil HID.out
                              have HLF := Lib.hid hl
                              clear hl hj1
                              go_quiet (fail)
                              go_wp2
                              go_meet
                              exact ⟨by rw [HLF.out], _, rfl⟩
                            · have hip : (0 : Int) < (j : Int) := by omega
                              have hiq : 0 < j := by omega
                              have him : (j : Int) - 1 = ((j - 1 : Nat) : Int) := by omega
                              have him2 : IntKind.i64.wrap ((j : Int) - 1) = ((j - 1 : Nat) : Int) := by rw [IntKind.wrap_i64]; omega
                              have hlt1 : j - 1 < s.sigs.length := by omega
                              have hju1 : j - 1 < gs.length := by rw [HV.out.ng]; exact hlt1
                              obtain ⟨g2, o2, e2, hg2, hc2⟩ := sig_at HV.out.rg HSS.out (j - 1) hju1
                              obtain ⟨rfl, rfl⟩ : g = g2 ∧ o = o2 := by cases e2; exact ⟨rfl, rfl⟩
                              obtain ⟨r0, -, -, -, -, -⟩ := hc2 W4 (fun j hj => HBW.out.block j hj)
                              obtain ⟨hn1, -, -, -⟩ := HV.out.vg (j - 1) hlt1 hju1
                              rw [hn1] at r0
                              have hgp : prevN (s.sigs.map (·.name)) j = s.sigs[j - 1].name := by unfold prevN; rw [if_neg hj1]; simp [List.getD, hlt1]
                              have e3 := toList_mk' s.sigs[j - 1].name
                              have hjz1 : ((j - 1 : Nat) : Int) < (s.sigs.length : Int) := by omega
                              have hj01 : (0 : Int) ≤ ((j - 1 : Nat) : Int) := by omega
                              have hll := HLB.out
                              rw [hgp] at hll
                              unfold leB at hll
                              clear hc2 hgp e2 hn1
                              generalize s.sigs[j - 1].name = b at *
                              cases lb
                              · go_quiet (fail)
                                go_wp2
                                go_meet
                                exact ⟨rfl, _, rfl⟩
                              · go_quiet (fail)
                                go_wp2
                                go_meet
                                exact ⟨rfl, _, rfl⟩
                          case rest =>
                            obtain ⟨rfl, nq, rfl⟩ := hcut
                            obtain ⟨W5, hW5⟩ : ∃ W5, W5 = W4.drewN nq := ⟨_, rfl⟩
                            rw [← hW5]
                            have hsame : ∀ g : Nat, W5.heap[g]? = W4.heap[g]? := fun g => by rw [hW5]; rfl
                            have hz5 : W5.heap.size = W4.heap.size := by rw [hW5]; rfl
                            have hb5 : Below w.heap.size w W5 := by rw [hW5]; exact below_dNZ HBW.out _
                            have hf5 := (hsame wr.heap.size).trans HF4.out
                            have hw5 := (hsame wb).trans ((HB4.out.block wb (by omega)).trans H.out.walk)
                            have hs5 := (hsame w.heap.size).trans ((HB4.out.block w.heap.size (by omega)).trans H.out.box)
                            clear hW5 b0 b1 b2 b3 b4 b5 d0 d1 d2 d3 d4 d5 q0 q1 q2 q3 q4 q5
                            obtain ⟨⟨b0, b1, b2, b3, b4, b5⟩, _⟩ := six_blkF hf5
                            have HS5 := Lib.hid hs5; have HW5 := Lib.hid hw5; have HF5' := Lib.hid hf5; have HB5 := Lib.hid hb5
                            clear hsame hb5 hf5 hw5 hs5
                            cases lb
                            · have hnm0 : nameE (prevN (s.sigs.map (·.name)) j) nm (builtinB nm) = 0 := by unfold nameE; rw [HID.out, HWD.out, HLB.out]; simp
                              have hdr := HDR.out
                              rw [hnm0] at hdr
                              simp only [ne_eq, not_true_eq_false, if_false] at hdr
                              clear hnm0
                              by_cases h4 : 4 < pl.length
                              · have h4z : (4 : Int) < (pl.length : Int) := by omega
                                have hb : fu = (18, n) := by rw [hdr, if_pos h4]; simp
                                have hv : refC s = 18 := HBAD.out 18 n (by decide) hb
                                have HVV := Lib.hid hv
                                clear hb hv hdr h4
                                go_wp2
                                go_ret
                                exact ⟨ret_intZ (by rw [HVV.out]; rfl), HB5.out⟩
                              · have h4z : ¬ (4 : Int) < (pl.length : Int) := by omega
                                rw [if_neg h4] at hdr
                                obtain ⟨f4, hf4e⟩ : ∃ f4, allZ (hasZ s.types) 1 n pl = f4 := ⟨_, rfl⟩
                                rw [hf4e] at hdr
                                have HD4 := Lib.hid hdr; have HA4 := Lib.hid hf4e
                                clear hdr hf4e h4
                                obtain ⟨Wo, rfl⟩ : ∃ Wo, Wo = wr := ⟨_, rfl⟩
                                go_wp2_with fail
                                go_loopw [5, 9] (fun v5 v9 wr => ∃ k e m, MaR S w wb s c a1 _ us gs c1 c2 pl f4 v5 v9 wr k e m ∧ wr.heap[Wo.heap.size]? = some (.cells #[.string ⟨nm.toArray⟩, .slice xap pl.length xcp, .int .i64 xr.k, .string xr.n, .slice xr.an xr.ln xr.cn, .slice xr.ak xr.lk xr.ck] 58 (0, 0))) (fun _ v9 _ => pl.length - (intOf v9).toNat)
                                case atStart => exact ⟨0, 0, n, ⟨rfl, rfl, Nat.zero_le _, fun _ => ⟨HA4.out, hn4⟩, fun h => absurd rfl h, HS5.out, HW5.out, HB5.out⟩, HF5'.out⟩
                                case round =>
                                  clear b0 b1 b2 b3 b4 b5
                                  obtain ⟨k, e, m, h, hfb⟩ := hrel
                                  obtain rfl := h.slot
                                  obtain rfl := h.err
                                  have hle := h.le
                                  have hwz4 := (Array.getElem?_eq_some_iff.1 h.walk).1
                                  have hfz := (Array.getElem?_eq_some_iff.1 hfb).1
                                  obtain ⟨⟨b0, b1, b2, b3, b4, b5⟩, _⟩ := six_blkF hfb
                                  have HH := Lib.hid h; have HFB := Lib.hid hfb
                                  clear h hfb
                                  by_cases he : e = 0
                                  · subst he
                                    obtain ⟨hrest, hm'⟩ := HH.out.rest rfl
                                    by_cases hk : k < pl.length
                                    · have hkz : (k : Int) < (pl.length : Int) := by omega
                                      have hk0 : (0 : Int) ≤ (k : Int) := by omega
                                      have hku : k < ps.length := by rw [HPL.out]; exact hk
                                      obtain ⟨g2, o2, rfl, hg2, hc2⟩ := four_at HPR.out HSS.out k hku
                                      obtain ⟨q0, q1, q2, q3⟩ := hc2 wr (fun i hi => HH.out.below.block i hi)
                                      have C : Calls Try.prog 54 #[.pointer (some ⟨wb, 0, none⟩), .agg #[.int .i64 ps[k].k, .string ps[k].n, .slice ps[k].an ps[k].ln ps[k].cn, .slice ps[k].ak ps[k].lk ps[k].ck], .int .i64 1] wr _ := may_ref S wb s c a1 _ us gs c1 c2 (by unfold maxLen; omega) pl[k] (fitZs_mem pl HF3.out k hk) ps[k] 1 m wr HSG.out hwz4 hm' (by omega) (HV.out.keep (fun g hg => HH.out.below.block g (HSS.out g hg))) ((HPV.out k hk hku).keep (fun _ h => h) (fun g hg => HH.out.below.block g (HSS.out g hg))) HH.out.walk
                                      rw [allZ_drop hk] at hrest
                                      have hle2 := oneZ_le (hasZ s.types) pl[k] 1 m hm'
                                      generalize oneZ (hasZ s.types) 1 m pl[k] = r at *
                                      obtain ⟨e2, t2⟩ := r
                                      generalize ps[k] = y at *
                                      have HC := Lib.hid C; have HRE2 := Lib.hid hrest; have HLE := Lib.hid hle2
                                      clear C hrest hc2 hle2
                                      go_wp2_with (go_at_call 54; (with_reducible refine HC.out.mono ?_); rintro e3 w2 ⟨rfl, x2, x3, x4⟩; have hz2 := x4.size; obtain ⟨⟨m0, m1, m2, m3, m4, m5⟩, _⟩ := six_blkF ((x3.block w.heap.size (by omega)).trans HH.out.box); have HX2 := Lib.hid x2; have HX3 := Lib.hid x3; have HX4 := Lib.hid x4; clear x2 x3 x4)
                                      go_roundw
                                      case rel => exact ⟨k + 1, e2, t2, ⟨by go_num, rfl, by omega, fun h => ⟨by have := HRE2.out; rw [if_pos h] at this; exact this, HLE.out h⟩, fun h => by have := HRE2.out; rw [if_neg h] at this; exact this.symm, (HX3.out.block w.heap.size (by omega)).trans HH.out.box, HX2.out, HH.out.below.trans (HX3.out.mono (by omega))⟩, (HX4.out.blk _ hfz (by omega)).trans HFB.out⟩
                                      case measure => simp [intOf]; omega
                                    · have hkz : ¬ (k : Int) < (pl.length : Int) := by omega
                                      have hf4 : f4 = (0, m) := by rw [← hrest, List.drop_of_length_le (by omega)]; rfl
                                      have C : Calls Try.prog 54 #[.pointer (some ⟨wb, 0, none⟩), .agg #[.int .i64 xr.k, .string xr.n, .slice xr.an xr.ln xr.cn, .slice xr.ak xr.lk xr.ck], .int .i64 1] wr _ := may_ref S wb s c a1 _ us gs c1 c2 (by unfold maxLen; omega) rt HF5.out xr 1 m wr HSG.out hwz4 hm' (by omega) (HV.out.keep (fun g hg => HH.out.below.block g (HSS.out g hg))) (HRES.out.keep (fun _ h => h) (fun g hg => HH.out.below.block g (HSS.out g hg))) HH.out.walk
                                      have hle2 := oneZ_le (hasZ s.types) rt 1 m hm'
                                      have hdr := HD4.out
                                      rw [hf4] at hdr
                                      simp only [not_true_eq_false, if_false] at hdr
                                      generalize oneZ (hasZ s.types) 1 m rt = r at *
                                      obtain ⟨e2, t2⟩ := r
                                      have HC := Lib.hid C; have HLE := Lib.hid hle2; have HDD := Lib.hid hdr
                                      clear C hrest hle2 hf4 hdr
                                      by_cases he2 : e2 = 0
                                      · subst he2
                                        have hfew := HLE.out rfl
                                        have hnx : fnsZ (hasZ s.types) t2 nm (s.sigs.drop (j + 1)) = fu := by have := HDD.out; rw [if_pos rfl] at this; exact this.symm
                                        have HNX := Lib.hid hnx
                                        clear hnx
                                        go_wp2_with (go_at_call 54; (with_reducible refine HC.out.mono ?_); rintro e3 w2 ⟨rfl, x2, x3, x4⟩; have hz2 := x4.size; obtain ⟨⟨m0, m1, m2, m3, m4, m5⟩, _⟩ := six_blkF ((x3.block w.heap.size (by omega)).trans HH.out.box); have HX2 := Lib.hid x2; have HX3 := Lib.hid x3; have HX4 := Lib.hid x4; clear x2 x3 x4)
                                        go_roundw
                                        case rel => exact ⟨j + 1, t2, by go_num, rfl, by omega, hfew, by rw [HPN.out]; exact HNX.out, (HX3.out.block w.heap.size (by omega)).trans HH.out.box, HX2.out, HH.out.below.trans (HX3.out.mono (by omega))⟩
                                        case measure => simp [intOf]; omega
                                      · have hez : ((e2 : Int) == 0) = false := by rw [beq_eq_false_iff_ne]; omega
                                        have hb : fu = (e2, t2) := by have := HDD.out; rw [if_neg he2] at this; exact this
                                        have hv : refC s = e2 := HBAD.out e2 t2 he2 hb
                                        have HVV := Lib.hid hv
                                        clear hv hb
                                        go_wp2_with (go_at_call 54; (with_reducible refine HC.out.mono ?_); rintro e3 w2 ⟨rfl, x2, x3, x4⟩; have hz2 := x4.size; obtain ⟨⟨m0, m1, m2, m3, m4, m5⟩, _⟩ := six_blkF ((x3.block w.heap.size (by omega)).trans HH.out.box); have HX2 := Lib.hid x2; have HX3 := Lib.hid x3; have HX4 := Lib.hid x4; clear x2 x3 x4)
                                        go_ret
                                        exact ⟨ret_intZ (by rw [HVV.out]), HH.out.below.trans (HX3.out.mono (by omega))⟩
                                  · have hez : ((e : Int) == 0) = false := by rw [beq_eq_false_iff_ne]; omega
                                    have hfe := HH.out.bad he
                                    have hb : fu = (e, m) := by
                                      have := HD4.out
                                      rw [hfe] at this
                                      simp only [he, not_false_eq_true, if_true, if_false] at this
                                      exact this
                                    have hv : refC s = e := HBAD.out e m he hb
                                    have HVV := Lib.hid hv
                                    clear hv hb hfe
                                    by_cases hk : k < pl.length
                                    · have hkz : (k : Int) < (pl.length : Int) := by omega
                                      go_wp2
                                      go_ret
                                      exact ⟨ret_intZ (by rw [HVV.out]), HH.out.below⟩
                                    · have hkz : ¬ (k : Int) < (pl.length : Int) := by omega
                                      go_wp2
                                      go_ret
                                      exact ⟨ret_intZ (by rw [HVV.out]), HH.out.below⟩
                            · have hb : fu = (6, n) := by
                                rw [HDR.out, show nameE (prevN (s.sigs.map (·.name)) j) nm (builtinB nm) = 6 by unfold nameE; rw [HID.out, HWD.out, HLB.out]; simp]; simp
                              have hv : refC s = 6 := HBAD.out 6 n (by decide) hb
                              have HVV := Lib.hid hv
                              clear hb hv
                              go_wp2
                              go_ret
                              exact ⟨ret_intZ (by rw [HVV.out]; rfl), HB5.out⟩
                        · have hb : fu = (15, n) := by
                            rw [HDR.out, show nameE (prevN (s.sigs.map (·.name)) j) nm (builtinB nm) = 15 by unfold nameE; simp [hwd]]; simp
                          have hv : refC s = 15 := HBAD.out 15 n (by decide) hb
                          rw [hwd] at CW
                          have HVV := Lib.hid hv; have HCW := Lib.hid CW
                          clear hb hv CW hwd hid
                          go_wp2_with (first | (go_at_call 52; (with_reducible refine HCI.out.mono ?_); rintro e w2 ⟨rfl, rfl⟩) | (go_at_call 55; (with_reducible refine HCW.out.mono ?_); rintro e w2 ⟨rfl, rfl⟩))
                          go_ret
                          exact ⟨ret_intZ (by rw [HVV.out]; rfl), HBW.out⟩
                    · have hjz : ¬ (j : Int) < (s.sigs.length : Int) := by omega
                      obtain rfl : j = s.sigs.length := by omega
                      have hend : fu = (0, n) := by rw [← H.out.rest, List.drop_of_length_le (Nat.le_refl _)]; rfl
                      have hfn := HFF.out
                      rw [hend] at hfn
                      have hrc : refC s = if (finiteR s.types).length ≠ s.types.length then 14 else if (allT s).any (nestR s.types) = true then 17 else 0 := by rw [HRC.out, HGO.out, hfn, if_neg (by simp)]
                      have hkd := HKD.out n hfn
                      have hfew := fnsZ_few _ _ _ _ (show (fnsZ (hasZ s.types) n2 [] s.sigs).1 = 0 by rw [hfn])
                      obtain ⟨nb, hnb⟩ : ∃ nb, ((((finiteR s.types).length : Nat) : Int) != (s.types.length : Int)) = nb := ⟨_, rfl⟩
                      have HRC2 := Lib.hid hrc; have HKD2 := Lib.hid hkd; have HFEW := Lib.hid hfew; have HNB := Lib.hid hnb
                      clear hend hfn hrc hkd hfew hnb
                      go_wp2_with fail
                      refine wp_region_by (QJ (fun (x : Option Addr × Nat) i => match i with | 0 => .agg #[.int .i64 c.k, .string c.n, .slice c.an c.ln c.cn, .slice c.ak c.lk c.ck, .slice a1 s.types.length c1, .slice a2 s.sigs.length c2] | 1 => .slice x.1 (finiteR s.types).length x.2 | 2 => .int .i64 ((finiteR s.types).length : Nat) | 3 => .pointer (some ⟨w.heap.size, 4, none⟩) | 4 => .slice a1 s.types.length c1 | 5 => .int .i64 s.types.length | 6 => .bool nb | _ => undef) (fun _ _ v => Below wr.heap.size wr v)) (by kernel_rfl) ?_ ?_ ?_
                      · exact ⟨by simp, Closed.start _, (none, 0), Fr.start _ _ _, Below.drew (Below.refl _ _)⟩
                      · intro listed b v q hJ hi
                        obtain ⟨hsz, hC, x, hF, hM⟩ := hJ
                        obtain ⟨hl1, hiN⟩ := not_up hsz hi
                        obtain ⟨_, o, ho, hdeps⟩ := mem_ready.1 hi
                        have hiN : q < 7 := hiN
                        obtain rfl | rfl | rfl | rfl | rfl | rfl | rfl : q = 0 ∨ q = 1 ∨ q = 2 ∨ q = 3 ∨ q = 4 ∨ q = 5 ∨ q = 6 := by omega
                        · cases ho
                          obtain ⟨⟨y0, y1, y2, y3, y4, y5⟩, _⟩ := six_blkF ((hM.block w.heap.size (by omega)).trans H.out.box)
                          have e1 := hF.old_is 1 (by rfl) rfl
                          refine QJ.quiet (x := x) hsz hC hi hF (Slots.of (by rfl)) rfl (wanted_none rfl) hM ?_
                          show _ = Result.ok (Next.value (.agg #[.int .i64 c.k, .string c.n, .slice c.an c.ln c.cn, .slice c.ak c.lk c.ck, .slice a1 s.types.length c1, .slice a2 s.sigs.length c2])) v
                          simp [execOp, go_sem, e1, y0, y1, y2, y3, y4, y5]
                        · cases ho
                          have e161 : b.tmps[161]? = some (.agg #[.int .i64 c.k, .string c.n, .slice c.an c.ln c.cn, .slice c.ak c.lk c.ck, .slice a1 s.types.length c1, .slice a2 s.sigs.length c2]) := hF.up 0 161 rfl (hdeps ⟨0, .data⟩ (by simp) rfl)
                          refine QJ.call (x := x) (f := 56) (args := #[.agg #[.int .i64 c.k, .string c.n, .slice c.an c.ln c.cn, .slice c.ak c.lk c.ck, .slice a1 s.types.length c1, .slice a2 s.sigs.length c2]]) hsz hC hi hF (Slots.of (by rfl)) rfl (wanted_none rfl) (by simp [execOp, go_sem, e161]) (finite_ref s c a1 a2 us gs c1 c2 v ((SzS.mk HSS.out HV.out : SzS S w s c a1 a2 us gs).anyB (H.out.below.trans (hM.mono (by omega)))) (by omega) HF.out) ?_
                          rintro e w' ⟨la', lc', rfl, _, hb⟩
                          exact ⟨(la', lc'), rfl, fun q hq => match q, (show q ≠ 1 by rintro rfl; rw [hl1] at hq; cases hq) with | 0, _ => rfl | 1, h => absurd rfl h | 2, _ => rfl | 3, _ => rfl | 4, _ => rfl | 5, _ => rfl | 6, _ => rfl | _ + 7, _ => rfl, hM.trans (hb.mono hM.size)⟩
                        · cases ho
                          have e162 : b.tmps[162]? = some (.slice x.1 (finiteR s.types).length x.2) := hF.up 1 162 rfl (hdeps ⟨1, .data⟩ (by simp) rfl)
                          refine QJ.quiet (x := x) hsz hC hi hF (Slots.of (by rfl)) rfl (wanted_none rfl) hM ?_
                          show _ = Result.ok (Next.value (.int .i64 ((finiteR s.types).length : Nat))) v
                          simp [execOp, go_sem, e162]
                        · cases ho
                          have e1 := hF.old_is 1 (by rfl) rfl
                          refine QJ.quiet (x := x) hsz hC hi hF (Slots.of (by rfl)) rfl (wanted_none rfl) hM ?_
                          show _ = Result.ok (Next.value (.pointer (some ⟨w.heap.size, 4, none⟩))) v
                          simp [execOp, go_sem, e1]
                        · cases ho
                          obtain ⟨⟨y0, y1, y2, y3, y4, y5⟩, _⟩ := six_blkF ((hM.block w.heap.size (by omega)).trans H.out.box)
                          have e164 : b.tmps[164]? = some (.pointer (some ⟨w.heap.size, 4, none⟩)) := hF.up 3 164 rfl (hdeps ⟨3, .data⟩ (by simp) rfl)
                          refine QJ.quiet (x := x) hsz hC hi hF (Slots.of (by rfl)) rfl (wanted_none rfl) hM ?_
                          show _ = Result.ok (Next.value (.slice a1 s.types.length c1)) v
                          simp [execOp, go_sem, e164, y4]
                        · cases ho
                          have e165 : b.tmps[165]? = some (.slice a1 s.types.length c1) := hF.up 4 165 rfl (hdeps ⟨4, .data⟩ (by simp) rfl)
                          refine QJ.quiet (x := x) hsz hC hi hF (Slots.of (by rfl)) rfl (wanted_none rfl) hM ?_
                          show _ = Result.ok (Next.value (.int .i64 s.types.length)) v
                          simp [execOp, go_sem, e165]
                        · cases ho
                          have e163 : b.tmps[163]? = some (.int .i64 ((finiteR s.types).length : Nat)) := hF.up 2 163 rfl (hdeps ⟨2, .data⟩ (by simp) rfl)
                          have e166 : b.tmps[166]? = some (.int .i64 s.types.length) := hF.up 5 166 rfl (hdeps ⟨5, .data⟩ (by simp) rfl)
                          refine QJ.quiet (x := x) hsz hC hi hF (Slots.of (by rfl)) rfl (wanted_none rfl) hM ?_
                          show _ = Result.ok (Next.value (.bool nb)) v
                          simp [execOp, go_sem, e163, e166, HNB.out]
                      · intro listed b W5 hJ hr
                        obtain ⟨hsz, hC, x, hF, hM⟩ := hJ
                        have hall := all_upB (by rfl) hsz hr
                        have hb : b = putAll _ _ _ 7 := hF.done (Slots.of (by rfl)) hall
                        subst hb
                        simp only [putAll]
                        simp [dstOf, Act.put]
                        have hb5 := H.out.below.trans (hM.mono H.out.below.size)
                        have hs5 := (hM.block w.heap.size (by omega)).trans H.out.box
                        have hz5 := hM.size
                        obtain ⟨⟨r0, r1, r2, r3, r4, r5⟩, _⟩ := six_blkF hs5
                        have HB5 := Lib.hid hb5; have HS5 := Lib.hid hs5
                        clear hM hF hC hall hr hsz hb5 hs5 p0 p1 p2 p3 p4 p5
                        cases nb
                        · have hrc : refC s = if (allT s).any (nestR s.types) = true then 17 else 0 := by
                            have := HNB.out
                            rw [bne_eq_false_iff_eq] at this
                            rw [HRC2.out, if_neg (by omega)]
                          have C := all_ref S s c a1 a2 us gs c1 c2 W5 (fun g hg => by have := HSS.out g hg; omega) (HV.out.keep (fun g hg => HB5.out.block g (HSS.out g hg))) ht12 hs12 (fun i hi => (HFEW.out _ (List.getElem_mem hi)).1)
                          have HRC3 := Lib.hid hrc; have HC := Lib.hid C
                          clear hrc C
                          go_wp2_with (go_at_call 57; (with_reducible refine HC.out.mono ?_); rintro e W6 ⟨la, lc, cs, rfl, hrow, hcs, hb6⟩; have hz6 := hb6.size; have HROW := Lib.hid hrow; have HCS := Lib.hid hcs; have HX6 := Lib.hid hb6; clear hrow hcs hb6)
                          have hbx6 := (HX6.out.block w.heap.size (by omega)).trans HS5.out
                          have hb6 := HB5.out.trans (HX6.out.mono (by omega))
                          have HBX6 := Lib.hid hbx6; have HB6 := Lib.hid hb6
                          clear hbx6 hb6 r0 r1 r2 r3 r4 r5
                          obtain ⟨ob, hob⟩ : ∃ ob, (allT s).any (nestR s.types) = ob := ⟨_, rfl⟩
                          have HOB := Lib.hid hob
                          clear hob
                          have hal : (allT s).length ≤ 1000000 := by
                            have : ∀ l : List Sg, (∀ g ∈ l, g.params.length ≤ 4) → (l.flatMap sgT).length ≤ 5 * l.length := by
                              intro l
                              induction l with
                              | nil => intro _; simp
                              | cons g l ih => intro h; have h1 := h g List.mem_cons_self; have h2 := ih (fun x hx => h x (List.mem_cons_of_mem _ hx)); rw [List.flatMap_cons, List.length_append]; unfold sgT at *; simp at *; omega
                            have h3 := this s.sigs (fun g hg => (HFEW.out g hg).1)
                            unfold allT; simp at *; omega
                          obtain ⟨Wo, hwo⟩ : ∃ Wo, Wo = wr := ⟨_, rfl⟩
                          subst hwo
                          go_loopw [11] (fun v11 wr => ∃ k, OlR w W6 s ob v11 wr k) (fun v11 _ => (allT s).length - (intOf v11).toNat)
                          case atStart => exact ⟨0, rfl, Nat.zero_le _, HOB.out, Below.refl _ _⟩
                          case round =>
                            obtain ⟨k, h⟩ := hrel
                            obtain rfl := h.slot
                            have hle := h.le
                            have hzz := h.below.size
                            have HH := Lib.hid h
                            clear h
                            by_cases hk : k < (allT s).length
                            · have hkz : (k : Int) < ((allT s).length : Int) := by omega
                              have hk0 : (0 : Int) ≤ (k : Int) := by omega
                              have hku : k < cs.length := by rw [HCS.out.len]; exact hk
                              obtain ⟨g, o, rfl, hg, hc⟩ := four_at HROW.out (fun _ h => h) k hku
                              have hrest := HH.out.rest
                              rw [List.drop_eq_getElem_cons hk, List.any_cons] at hrest
                              have hft := HF.out.all _ (List.getElem_mem hk)
                              have hkt := HKD2.out _ (List.getElem_mem hk)
                              have htv := HCS.out.val k hk hku
                              generalize (allT s)[k] = tk at *
                              generalize cs[k] = y at *
                              have HCK := Lib.hid hc; have HRR := Lib.hid hrest; have HFT := Lib.hid hft; have HKT := Lib.hid hkt; have HTV := Lib.hid (htv.keep (fun _ h => h) (fun g hg => (HB5.out.block g (HSS.out g hg)).symm))
                              clear hc hrest hft hkt htv
                              go_wp2_with fail
                              refine wp_region_by (QJ (fun (_ : Unit) i => match i with | 0 => .agg #[.int .i64 c.k, .string c.n, .slice c.an c.ln c.cn, .slice c.ak c.lk c.ck, .slice a1 s.types.length c1, .slice a2 s.sigs.length c2] | 1 => .slice (some ⟨g, o, none⟩) (allT s).length lc | 2 => .int .i64 k | 3 => .pointer (some ⟨g, o + k * 4, none⟩) | 4 => .agg #[.int .i64 y.k, .string y.n, .slice y.an y.ln y.cn, .slice y.ak y.lk y.ck] | 5 => .bool (nestR s.types tk) | _ => undef) (fun (_ : Unit) _ v => Below wr.heap.size wr v)) (by kernel_rfl) ?_ ?_ ?_
                              · exact ⟨by simp, Closed.start _, (), Fr.start _ _ _, Below.drew (Below.refl _ _)⟩
                              · intro listed b v q hJ hi
                                obtain ⟨hsz, hC, x, hF, hM⟩ := hJ
                                obtain ⟨hl1, hiN⟩ := not_up hsz hi
                                obtain ⟨_, o, ho, hdeps⟩ := mem_ready.1 hi
                                have hiN : q < 6 := hiN
                                obtain rfl | rfl | rfl | rfl | rfl | rfl : q = 0 ∨ q = 1 ∨ q = 2 ∨ q = 3 ∨ q = 4 ∨ q = 5 := by omega
                                · cases ho
                                  obtain ⟨⟨y0, y1, y2, y3, y4, y5⟩, _⟩ := six_blkF ((hM.block w.heap.size (by omega)).trans ((HH.out.below.block w.heap.size (by omega)).trans HBX6.out))
                                  have e1 := hF.old_is 1 (by rfl) rfl
                                  refine QJ.quiet (x := x) hsz hC hi hF (Slots.of (by rfl)) rfl (wanted_none rfl) hM ?_
                                  show _ = Result.ok (Next.value (.agg #[.int .i64 c.k, .string c.n, .slice c.an c.ln c.cn, .slice c.ak c.lk c.ck, .slice a1 s.types.length c1, .slice a2 s.sigs.length c2])) v
                                  simp [execOp, go_sem, e1, y0, y1, y2, y3, y4, y5]
                                · cases ho
                                  have e10 := hF.old_is 10 (by rfl) rfl
                                  refine QJ.quiet (x := x) hsz hC hi hF (Slots.of (by rfl)) rfl (wanted_none rfl) hM ?_
                                  show _ = Result.ok (Next.value (.slice (some ⟨g, o, none⟩) (allT s).length lc)) v
                                  simp [execOp, go_sem, e10]
                                · cases ho
                                  have e11 := hF.old_is 11 (by rfl) rfl
                                  refine QJ.quiet (x := x) hsz hC hi hF (Slots.of (by rfl)) rfl (wanted_none rfl) hM ?_
                                  show _ = Result.ok (Next.value (.int .i64 k)) v
                                  simp [execOp, go_sem, e11]
                                · cases ho
                                  have e177 : b.tmps[177]? = some (.slice (some ⟨g, o, none⟩) (allT s).length lc) := hF.up 1 177 rfl (hdeps ⟨1, .data⟩ (by simp) rfl)
                                  have e178 : b.tmps[178]? = some (.int .i64 k) := hF.up 2 178 rfl (hdeps ⟨2, .data⟩ (by simp) rfl)
                                  refine QJ.quiet (x := x) hsz hC hi hF (Slots.of (by rfl)) rfl (wanted_none rfl) hM ?_
                                  show _ = Result.ok (Next.value (.pointer (some ⟨g, o + k * 4, none⟩))) v
                                  simp [execOp, go_sem, e177, e178, hk0, hkz]
                                · cases ho
                                  obtain ⟨y0, y1, y2, y3⟩ := HCK.out v (fun i hi => (hM.block i (by omega)).trans (HH.out.below.block i hi))
                                  have e179 : b.tmps[179]? = some (.pointer (some ⟨g, o + k * 4, none⟩)) := hF.up 3 179 rfl (hdeps ⟨3, .data⟩ (by simp) rfl)
                                  refine QJ.quiet (x := x) hsz hC hi hF (Slots.of (by rfl)) rfl (wanted_none rfl) hM ?_
                                  show _ = Result.ok (Next.value (.agg #[.int .i64 y.k, .string y.n, .slice y.an y.ln y.cn, .slice y.ak y.lk y.ck])) v
                                  simp [execOp, go_sem, e179, y0, y1, y2, y3]
                                · cases ho
                                  have e176 : b.tmps[176]? = some (.agg #[.int .i64 c.k, .string c.n, .slice c.an c.ln c.cn, .slice c.ak c.lk c.ck, .slice a1 s.types.length c1, .slice a2 s.sigs.length c2]) := hF.up 0 176 rfl (hdeps ⟨0, .data⟩ (by simp) rfl)
                                  have e180 : b.tmps[180]? = some (.agg #[.int .i64 y.k, .string y.n, .slice y.an y.ln y.cn, .slice y.ak y.lk y.ck]) := hF.up 4 180 rfl (hdeps ⟨4, .data⟩ (by simp) rfl)
                                  refine QJ.call (x := x) (f := 58) (args := #[.agg #[.int .i64 c.k, .string c.n, .slice c.an c.ln c.cn, .slice c.ak c.lk c.ck, .slice a1 s.types.length c1, .slice a2 s.sigs.length c2], .agg #[.int .i64 y.k, .string y.n, .slice y.an y.ln y.cn, .slice y.ak y.lk y.ck]]) hsz hC hi hF (Slots.of (by rfl)) rfl (wanted_none rfl) (by simp [execOp, go_sem, e176, e180]) (opts_ref S s c a1 a2 us gs c1 c2 (by omega) tk HFT.out HKT.out y v (fun g hg => by have := HSS.out g hg; have := hM.size; omega) (HV.out.keep (fun g hg => (hM.block g (by have := HSS.out g hg; omega)).trans ((HH.out.below.block g (by have := HSS.out g hg; omega)).trans (HB6.out.block g (HSS.out g hg))))) (HTV.out.keep (fun _ h => h) (fun g hg => (hM.block g (by have := HSS.out g hg; omega)).trans ((HH.out.below.block g (by have := HSS.out g hg; omega)).trans (HB6.out.block g (HSS.out g hg)))))) ?_
                                  rintro e w' ⟨rfl, hb⟩
                                  exact ⟨(), rfl, fun _ _ => rfl, hM.trans (hb.mono hM.size)⟩
                              · intro listed b W7 hJ hr
                                obtain ⟨hsz, hC, x, hF, hM⟩ := hJ
                                have hall := all_upB (by rfl) hsz hr
                                have hb : b = putAll _ _ _ 6 := hF.done (Slots.of (by rfl)) hall
                                subst hb
                                simp only [putAll]
                                simp [dstOf, Act.put]
                                have hb7 := HH.out.below.trans (hM.mono (by omega))
                                have HB7 := Lib.hid hb7
                                clear hM hF hC hall hr hsz hb7
                                cases hne : nestR s.types tk
                                · have hr2 : ((allT s).drop (k + 1)).any (nestR s.types) = ob := by have := HRR.out; rw [hne, Bool.false_or] at this; exact this
                                  have HRN := Lib.hid hr2
                                  clear hr2 hne
                                  go_wp2
                                  go_roundw
                                  case rel => exact ⟨k + 1, by go_num, by omega, HRN.out, HB7.out⟩
                                  case measure => simp [intOf]; omega
                                · have hr2 : ob = true := by have := HRR.out; rw [hne, Bool.true_or] at this; exact this.symm
                                  have hv : refC s = 17 := by rw [HRC3.out, HOB.out, hr2]; rfl
                                  have HVV := Lib.hid hv
                                  clear hr2 hne hv
                                  go_wp2
                                  go_ret
                                  exact ⟨ret_intZ (by rw [HVV.out]; rfl), HB6.out.trans (HB7.out.mono (by omega))⟩
                            · have hkz : ¬ (k : Int) < ((allT s).length : Int) := by omega
                              have hr2 : ob = false := by rw [← HH.out.rest, List.drop_of_length_le (by omega)]; rfl
                              have hv : refC s = 0 := by rw [HRC3.out, HOB.out, hr2]; rfl
                              have HVV := Lib.hid hv
                              clear hr2 hv
                              go_wp2
                              go_ret
                              exact ⟨ret_intZ (by rw [HVV.out]; rfl), HB6.out.trans (HH.out.below.mono (by omega))⟩
                        · have hv : refC s = 14 := by
                            have := HNB.out
                            rw [bne_iff_ne] at this
                            rw [HRC2.out, if_pos (by omega)]
                          have HVV := Lib.hid hv
                          clear hv
                          go_wp2
                          go_ret
                          exact ⟨ret_intZ (by rw [HVV.out]; rfl), HB5.out⟩
                · have hez : ((e2 : Int) == 0) = false := by rw [beq_eq_false_iff_ne]; omega
                  have hez2 : ¬ (e2 = 0) := he2
                  have hv : refC s = e2 := by rw [HRC.out, schZ_bad2 HFE.out HR.out he2, if_pos he2]
                  have HVV := Lib.hid hv
                  clear hv he2
                  go_wp2_with (go_at_call 54; (with_reducible refine HC.out.mono ?_); rintro e3 w2 ⟨rfl, x2, x3, x4⟩; have hz2 := x4.size; obtain ⟨⟨m0, m1, m2, m3, m4, m5⟩, _⟩ := six_blkF ((x3.block w.heap.size (by omega)).trans H.out.box); have HX2 := Lib.hid x2; have HX3 := Lib.hid x3; have HX4 := Lib.hid x4; clear x2 x3 x4)
                  go_ret
                  exact ⟨ret_intZ (by rw [HVV.out]), H.out.below.trans (HX3.out.mono (by omega))⟩
            · have hez : ((e : Int) == 0) = false := by rw [beq_eq_false_iff_ne]; omega
              have hfe := H.out.bad he
              have hv : refC s = e := by rw [HRC.out, schZ_bad1 (HFU.out.trans hfe) he, if_pos he]
              have HVV := Lib.hid hv
              clear hv hfe
              by_cases hj : j < s.types.length
              · have hjz : (j : Int) < (s.types.length : Int) := by omega
                go_wp2
                go_ret
                exact ⟨ret_intZ (by rw [HVV.out]), H.out.below⟩
              · have hjz : ¬ (j : Int) < (s.types.length : Int) := by omega
                go_wp2
                go_ret
                exact ⟨ret_intZ (by rw [HVV.out]), H.out.below⟩
end Sp
end Go.Proofs.Yteooafgdmpbjeab
