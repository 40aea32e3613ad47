/- Package sprueref4: Def, finite. -/
import Derived.Test.YteooafgdmpbjeabV28
import Derived.Test.YteooafgdmpbjeabV34
namespace Go.Proofs.Yteooafgdmpbjeab
open Go.RowKit
namespace Sp
open Sc
/-- What a name stands for, the first of that name; nothing: a type of no kind. -/
def firstZ (l : List NT) (s : List UInt8) : Tz := match l.find? (fun x => decide (x.1 = s)) with | some x => x.2 | none => .mk 0 [] [] []
theorem find_at {s : List UInt8} : ∀ {l : List NT} {k : Nat} (hk : k < l.length), (∀ i (h : i < l.length), i < k → l[i].1 ≠ s) → l[k].1 = s → l.find? (fun x => decide (x.1 = s)) = some l[k]
  | a :: l, 0, _, _, h2 => by
    simp only [List.getElem_cons_zero] at h2 ⊢
    rw [List.find?_cons_of_pos (by simpa using h2)]
  | a :: l, k + 1, hk, h1, h2 => by
    have h0 := h1 0 (by simp) (by omega)
    simp only [List.getElem_cons_zero] at h0
    simp only [List.getElem_cons_succ] at h2 ⊢
    rw [List.find?_cons_of_neg (by simpa using h0)]
    exact find_at (by simpa using hk) (fun i h hi => by have := h1 (i + 1) (by simpa using h) (by omega); simpa using this) h2
theorem first_at {l : List NT} {s : List UInt8} {k : Nat} (hk : k < l.length) (h1 : ∀ i (h : i < l.length), i < k → l[i].1 ≠ s) (h2 : l[k].1 = s) : firstZ l s = l[k].2 ∧ hasZ l s = true := by
  refine ⟨?_, hasZ_iff.2 ⟨_, List.getElem_mem hk, h2⟩⟩
  unfold firstZ; rw [find_at hk h1 h2]
theorem first_no {l : List NT} {s : List UInt8} (h1 : ∀ i (h : i < l.length), l[i].1 ≠ s) : firstZ l s = .mk 0 [] [] [] ∧ hasZ l s = false := by
  constructor
  · unfold firstZ
    rw [List.find?_eq_none.2 (fun x hx => by
      obtain ⟨i, hi, rfl⟩ := List.mem_iff_getElem.1 hx
      simpa using h1 i hi)]
  · cases hh : hasZ l s
    · rfl
    · obtain ⟨x, hx, e⟩ := hasZ_iff.1 hh
      obtain ⟨i, hi, rfl⟩ := List.mem_iff_getElem.1 hx
      exact absurd e (h1 i hi)
set_option maxRecDepth 100000 in
set_option maxHeartbeats 8000000 in
theorem Def_ref (S : Nat → Prop) (s : Sz) (nm : List UInt8) (c : C4) (a1 a2 : Option Addr) (us : List (List UInt8 × C4)) (gs : List (List UInt8 × G6)) (c1 c2 : Nat) (w : World) (hS : ∀ g, S g → g < w.heap.size) (hV : SzV w S s c a1 us a2 gs) (hl : s.types.length ≤ maxLen) :
    Calls Try.prog 87 #[.agg #[.int .i64 c.k, .string c.n, .slice c.an c.ln c.cn, .slice c.ak c.lk c.ck, .slice a1 s.types.length c1, .slice a2 s.sigs.length c2], .string ⟨nm.toArray⟩] w fun e w' => ∃ ct : C4, e = .returned (.tuple #[.agg #[.int .i64 ct.k, .string ct.n, .slice ct.an ct.ln ct.cn, .slice ct.ak ct.lk ct.ck], .bool (hasZ s.types nm)]) ∧ TzV w' S (firstZ s.types nm) ct ∧ Below w.heap.size w w' := by
  unfold maxLen at hl
  have HSS := Lib.hid hS
  clear hS
  obtain ⟨W0, hW0⟩ : ∃ W0, W0 = (w.alloc (.cells #[.int .i64 c.k, .string c.n, .slice c.an c.ln c.cn, .slice c.ak c.lk c.ck, .slice a1 s.types.length c1, .slice a2 s.sigs.length c2] 35)).alloc (.cells #[.int .i64 0, .string ⟨#[]⟩, .slice none 0 0, .slice none 0 0] 31) := ⟨_, rfl⟩
  have hb0 : Below w.heap.size w W0 := by rw [hW0]; exact ((Below.refl _ _).alloc (Nat.le_refl _) _).alloc (by simp) _
  have hz0 : W0.heap.size = w.heap.size + 2 := by rw [hW0]; simp
  have hs0 : W0.heap[w.heap.size]? = some (.cells #[.int .i64 c.k, .string c.n, .slice c.an c.ln c.cn, .slice c.ak c.lk c.ck, .slice a1 s.types.length c1, .slice a2 s.sigs.length c2] 35 (0, 0)) := by rw [hW0, blk_if, if_neg (by simp), blk_if, if_pos rfl]
  have ho0 : W0.heap[w.heap.size + 1]? = some (.cells #[.int .i64 0, .string ⟨#[]⟩, .slice none 0 0, .slice none 0 0] 31 (0, 0)) := by rw [hW0, blk_if, if_pos (by simp)]
  obtain ⟨⟨s0, s1, s2, s3, s4, s5⟩, _⟩ := six_blkF hs0
  obtain ⟨⟨o0, o1, o2, o3⟩, ⟨f0, f1, f2, f3⟩⟩ := four_blk ho0
  have HV := Lib.hid hV; have HW0 := Lib.hid hW0; have HB0 := Lib.hid hb0; have HO0 := Lib.hid ho0
  clear hV hW0 hb0 hs0 ho0
  go_enter Try.func87, Try.ntmps87
  go_wp2_with fail
  rw [← HW0.out]
  go_wp2_with fail
  go_loop [6] (fun kv => ∃ k : Nat, k ≤ s.types.length ∧ kv = .int .i64 k ∧ Hid (∀ i (h : i < s.types.length), i < k → s.types[i].1 ≠ nm)) (fun kv => s.types.length - (intOf kv).toNat)
  case atStart => exact ⟨0, Nat.zero_le _, rfl, fun i h hi => by omega⟩
  case round =>
    obtain ⟨k, hk, rfl, hd⟩ := hrel
    by_cases hlt : k < s.types.length
    · have hku : k < us.length := by rw [HV.out.nt]; exact hlt
      obtain ⟨g, o, rfl, hg, hc⟩ := nam_at HV.out.rt HSS.out k hku
      obtain ⟨c0, d0, d1, d2, d3⟩ := hc W0 (fun j hj => HB0.out.block j hj)
      obtain ⟨hn, hv⟩ := HV.out.vt k hlt hku
      rw [hn] at c0
      have hkz : (k : Int) < (s.types.length : Int) := by omega
      have hk0 : (0 : Int) ≤ (k : Int) := by omega
      have e1 := toList_mk' s.types[k].1
      have e2 := toList_mk' nm
      by_cases he : s.types[k].1 = nm
      · obtain ⟨r1, r2⟩ := first_at hlt hd.out he
        have hq : (s.types[k].1 == nm) = true := by simpa using he
        have HR1 := Lib.hid r1; have HR2 := Lib.hid r2; have HVK := Lib.hid hv
        clear r1 r2 hc hn hv he
        generalize us[k].2 = x at *
        generalize s.types[k].1 = a at *
        obtain ⟨⟨v0, v1, v2, v3⟩, _⟩ := four_blk (put4_at HO0.out x)
        have hPO := put4_only W0 (w.heap.size + 1) x
        have hbl := HB0.out.trans (hPO.below (by omega) (by omega))
        have HF := Lib.hid (HVK.out.keep (fun _ h => h) (fun g hg => hbl.block g (HSS.out g hg))); have HBL := Lib.hid hbl
        clear hbl hPO
        unfold put4 at v0 v1 v2 v3
        go_wp2
        refine bodyPost_ret (v := .tuple #[.agg #[.int .i64 x.k, .string x.n, .slice x.an x.ln x.cn, .slice x.ak x.lk x.ck], .bool true]) (by simp [results, Try.results87, go_sem, v0, v1, v2, v3]) rfl ?_
        exact ⟨x, by rw [HR2.out], by rw [HR1.out]; exact HF.out, HBL.out⟩
      · have hq : (s.types[k].1 == nm) = false := by simpa using he
        have hd' : ∀ i (h : i < s.types.length), i < k + 1 → s.types[i].1 ≠ nm := fun i h hi => by
          by_cases e : i = k
          · subst e; exact he
          · exact hd.out i h (by omega)
        have HD := Lib.hid hd'
        clear hd' hd hc he hn hv d0 d1 d2 d3
        generalize s.types[k].1 = a at *
        go_wp2
        go_round
        case rel => exact ⟨k + 1, by omega, by go_num, HD⟩
        case measure => simp [intOf]; omega
    · have hkz : ¬ (k : Int) < (s.types.length : Int) := by omega
      obtain ⟨r1, r2⟩ := first_no (fun i h => hd.out i h (by omega))
      have HR1 := Lib.hid r1; have HR2 := Lib.hid r2
      clear r1 r2 hd
      obtain ⟨⟨v0, v1, v2, v3⟩, _⟩ := four_blk (put4_at HO0.out ⟨0, ⟨#[]⟩, none, 0, 0, none, 0, 0⟩)
      have hPO := put4_only W0 (w.heap.size + 1) ⟨0, ⟨#[]⟩, none, 0, 0, none, 0, 0⟩
      have hbl := HB0.out.trans (hPO.below (by omega) (by omega))
      have HBL := Lib.hid hbl
      clear hbl hPO
      unfold put4 at v0 v1 v2 v3
      go_wp2
      refine bodyPost_ret (v := .tuple #[.agg #[.int .i64 0, .string ⟨#[]⟩, .slice none 0 0, .slice none 0 0], .bool false]) (by simp [results, Try.results87, go_sem, v0, v1, v2, v3]) rfl ?_
      exact ⟨⟨0, ⟨#[]⟩, none, 0, 0, none, 0, 0⟩, by rw [HR2.out], by rw [HR1.out]; exact TzV.leaf _ _ 0 [], HBL.out⟩
def nowR (l : List NT) (L : List (List UInt8)) (i : Nat) : List (List UInt8) := ((l.take i).filter fun x => endsR (inR L) x.2).map (·.1)
theorem nowR_all (l : List NT) (L : List (List UInt8)) : nowR l L l.length = stepR l L := by unfold nowR stepR; rw [List.take_length]
theorem nowR_succ (l : List NT) (L : List (List UInt8)) (i : Nat) (h : i < l.length) : nowR l L (i + 1) = if endsR (inR L) l[i].2 = true then nowR l L i ++ [l[i].1] else nowR l L i := by
  unfold nowR
  rw [List.take_add_one, List.getElem?_eq_getElem h, Option.toList_some, List.filter_append, List.map_append]
  cases he : endsR (inR L) l[i].2
  · simp [he]
  · simp [he]
theorem nowR_len (l : List NT) (L : List (List UInt8)) (i : Nat) : (nowR l L i).length ≤ l.length := by
  unfold nowR; rw [List.length_map]; exact Nat.le_trans (List.length_filter_le _ _) (by rw [List.length_take]; omega)
structure FiR (w : World) (bc : Array Value) (l : List NT) (v3 v4 : Value) (wr : World) (k : Nat) (la : Option Addr) (lc : Nat) : Prop where
  slot3 : v3 = .slice la (finR l k).length lc
  slot4 : v4 = .int .i64 k
  le : k ≤ l.length + 1
  row : RowV wr (Any wr) la 1 ((finR l k).map fun n => [str n])
  box : wr.heap[w.heap.size]? = some (.cells bc 35 (0, 0))
  below : Below w.heap.size w wr
structure FiI (W1 : World) (l : List NT) (L : List (List UInt8)) (v5 v6 : Value) (wr : World) (i : Nat) : Prop where
  slot6 : v6 = .int .i64 i
  le : i ≤ l.length
  own : wr.ownsRow W1.heap.size 9 1 v5 (nowR l L i).length (nmF (nowR l L i))
  below : Below W1.heap.size W1 wr
set_option maxRecDepth 100000 in
set_option maxHeartbeats 8000000 in
theorem finite_ref (s : Sz) (c : C4) (a1 a2 : Option Addr) (us : List (List UInt8 × C4)) (gs : List (List UInt8 × G6)) (c1 c2 : Nat) (w : World) (hV : SzV w (Any w) s c a1 us a2 gs) (hl : s.types.length ≤ 1000000) (hf : SzFit s) :
    Calls Try.prog 56 #[.agg #[.int .i64 c.k, .string c.n, .slice c.an c.ln c.cn, .slice c.ak c.lk c.ck, .slice a1 s.types.length c1, .slice a2 s.sigs.length c2]] w fun e w' => ∃ la lc, e = .returned (.slice la (finiteR s.types).length lc) ∧ RowV w' (Any w') la 1 ((finiteR s.types).map fun n => [str n]) ∧ Below w.heap.size w w' := by
  obtain ⟨W0, hW0⟩ : ∃ W0, W0 = w.alloc (.cells #[.int .i64 c.k, .string c.n, .slice c.an c.ln c.cn, .slice c.ak c.lk c.ck, .slice a1 s.types.length c1, .slice a2 s.sigs.length c2] 35) := ⟨_, rfl⟩
  have hb0 : Below w.heap.size w W0 := by rw [hW0]; exact (Below.refl _ _).alloc (Nat.le_refl _) _
  have hs0 : W0.heap[w.heap.size]? = some (.cells #[.int .i64 c.k, .string c.n, .slice c.an c.ln c.cn, .slice c.ak c.lk c.ck, .slice a1 s.types.length c1, .slice a2 s.sigs.length c2] 35 (0, 0)) := by rw [hW0]; exact heap_alloc_new w _
  obtain ⟨is, his, js, ls, ms⟩ := info_parts infoS
  have HIs := Lib.hid his; have HJs := Lib.hid js; have HKs := Lib.hid ls; have HLs := Lib.hid ms
  have HV := Lib.hid hV; have HW0 := Lib.hid hW0; have HB0 := Lib.hid hb0; have HS0 := Lib.hid hs0; have HFT := Lib.hid hf
  clear hV hW0 hb0 hs0 his js ls ms hf
  go_enter Try.func56, Try.ntmps56
  go_wp2_with fail
  rw [← HW0.out]
  go_wp2_with fail
  go_loopw [3, 4] (fun v3 v4 wr => ∃ k la lc, FiR w #[.int .i64 c.k, .string c.n, .slice c.an c.ln c.cn, .slice c.ak c.lk c.ck, .slice a1 s.types.length c1, .slice a2 s.sigs.length c2] s.types v3 v4 wr k la lc) (fun _ v4 _ => s.types.length + 1 - (intOf v4).toNat)
  case atStart => exact ⟨0, none, 0, rfl, rfl, Nat.zero_le _, .inl rfl, HS0.out, HB0.out⟩
  case round =>
    obtain ⟨k, la, lc, h⟩ := hrel
    obtain rfl := h.slot3
    obtain rfl := h.slot4
    have hle := h.le
    have hfl := finR_len s.types k
    obtain ⟨⟨s0, s1, s2, s3, s4, s5⟩, _⟩ := six_blkF h.box
    have H := Lib.hid h
    have hwz := (Array.getElem?_eq_some_iff.1 h.box).1
    clear h
    by_cases hkl : k ≤ s.types.length
    · have hkz : (k : Int) ≤ (s.types.length : Int) := by omega
      obtain ⟨L, hL⟩ : ∃ L, L = finR s.types k := ⟨_, rfl⟩
      rw [← hL] at H hfl ⊢
      have HLE := Lib.hid hL
      clear hL
      obtain ⟨W1, rfl⟩ : ∃ W1, W1 = wr := ⟨_, rfl⟩
      go_wp2_with fail
      go_loopw [5, 6] (fun v5 v6 wr => ∃ i, FiI W1 s.types L v5 v6 wr i) (fun _ v6 _ => s.types.length - (intOf v6).toNat)
      case atStart => exact ⟨0, rfl, Nat.zero_le _, World.ownsRow_nil _ _ _ _, Below.refl _ _⟩
      case round =>
        obtain ⟨i, h⟩ := hrel
        obtain rfl := h.slot6
        have hle2 := h.le
        have hiz := h.below.size
        obtain ⟨⟨t0, t1, t2, t3, t4, t5⟩, _⟩ := six_blkF ((h.below.block w.heap.size hwz).trans H.out.box)
        obtain ⟨xa, xc, hx⟩ := own_sliceZ h.own
        subst hx
        have H2 := Lib.hid h
        clear h s0 s1 s2 s3 s4 s5
        have hbw : Below w.heap.size w wr := H.out.below.trans (H2.out.below.mono (by omega))
        by_cases hil : i < s.types.length
        · have hju : i < us.length := by rw [HV.out.nt]; exact hil
          obtain ⟨g, o, rfl, hg, hc⟩ := nam_at HV.out.rt (fun _ h => h) i hju
          obtain ⟨q0, q1, q2, q3, q4⟩ := hc wr (fun j hj => hbw.block j hj)
          obtain ⟨hn, hv⟩ := HV.out.vt i hil hju
          rw [hn] at q0
          have C := ends_ref L (by unfold maxLen; omega) s.types[i].2 (HFT.out.types i hil).2 us[i].2 la lc wr (hv.grow hbw) (by have := H.out.row.up H2.out.below; rw [← HLE.out] at this; exact this)
          have hns := nowR_succ s.types L i hil
          have hnl := nowR_len s.types L i
          have hiz2 : (i : Int) < (s.types.length : Int) := by omega
          have hi0 : (0 : Int) ≤ (i : Int) := by omega
          have hbz := hbw.size
          generalize us[i].2 = x at *
          generalize s.types[i].1 = nm at *
          have HCC : Hid (∀ W : World, (∀ j, j < w.heap.size → W.heap[j]? = w.heap[j]?) → W.cell? ⟨g, o + i * 5, none⟩ = some (.string ⟨nm.toArray⟩) ∧ W.cell? ⟨g, o + i * 5 + 1, none⟩ = some (.int .i64 x.k) ∧ W.cell? ⟨g, o + i * 5 + 2, none⟩ = some (.string x.n) ∧ W.cell? ⟨g, o + i * 5 + 3, none⟩ = some (.slice x.an x.ln x.cn) ∧ W.cell? ⟨g, o + i * 5 + 4, none⟩ = some (.slice x.ak x.lk x.ck)) := fun W hW => by have := hc W hW; rw [hn] at this; exact this
          have HC := Lib.hid C; have HN := Lib.hid hns; have HBW := Lib.hid hbw
          clear C hns hc hn hv hbw
          cases he : endsR (inR L) s.types[i].2
          · have hq : nowR s.types L (i + 1) = nowR s.types L i := by rw [HN.out, he]; rfl
            rw [he] at HC
            have HQ := Lib.hid hq
            clear hq he
            go_wp2_with (go_at_call 74; (with_reducible refine HC.out.mono ?_); rintro e w2 ⟨rfl, x2⟩; have HX2 := Lib.hid x2; clear x2)
            go_roundw
            case rel => exact ⟨i + 1, by go_num, by omega, by rw [HQ.out]; exact own_kp H2.out.own (Nat.le_refl _) (fun g e => HX2.out.block g (H2.out.own.lt g e).2), H2.out.below.trans (HX2.out.mono H2.out.below.size)⟩
            case measure => simp [intOf]; omega
          · have hq : nowR s.types L (i + 1) = nowR s.types L i ++ [nm] := by rw [HN.out, he, if_pos rfl]
            rw [he] at HC
            have HQ := Lib.hid hq
            clear hq he
            go_wp2_with (first
              | (go_at_call 74; (with_reducible refine HC.out.mono ?_); rintro e w2 ⟨rfl, x2⟩; have hz2 := x2.size; obtain ⟨⟨a0, a1', a2', a3, a4, a5⟩, _⟩ := six_blkF ((x2.block w.heap.size (by omega)).trans ((H2.out.below.block w.heap.size hwz).trans H.out.box)); obtain ⟨b0, b1, b2, b3, b4⟩ := HCC.out w2 (fun j hj => (x2.block j (by omega)).trans (HBW.out.block j hj)); have HX2 := Lib.hid x2; clear x2)
              | (at_builtin; (refine Sh.wpList_append_fresh rfl _ _ 28 rfl W1.heap.size 9 is (.string ⟨#[]⟩) 1 16 Try.underlying28 HIs.out HJs.out HKs.out HLs.out rfl (by decide) _ _ _ rfl ((own_kp H2.out.own (Nat.le_refl _) (fun g e => HX2.out.block g (H2.out.own.lt g e).2)).alloc _) ⟨w2.heap.size, 0, none⟩ 1 1 [.string ⟨nm.toArray⟩] rfl rfl (cells_newZ _ _ _) (fun x hx => by simp at hx; subst hx; rfl) (by unfold maxLen; omega) (by omega) (by simp; omega) ?_); intro v' w5 hown' hgrow hfr; have HOW := Lib.hid hown'; have HGR := Lib.hid hgrow; clear hown' hgrow hfr))
            go_roundw
            case rel =>
              have ho := HOW.out
              rw [nmF_snoc, ← HQ.out] at ho
              exact ⟨i + 1, by go_num, by omega, by rw [show (nowR s.types L (i + 1)).length = (nowR s.types L i).length + 1 by rw [HQ.out]; simp]; exact ho, ((H2.out.below.trans (HX2.out.mono H2.out.below.size)).alloc (by omega) _).trans (below_grown HGR.out (fun g e => (H2.out.own.lt g e).1) (by simp; omega))⟩
            case measure => simp [intOf]; omega
        · have hiz2 : ¬ (i : Int) < (s.types.length : Int) := by omega
          obtain rfl : i = s.types.length := by omega
          have hna : nowR s.types L s.types.length = finR s.types (k + 1) := by rw [nowR_all, HLE.out]; rfl
          have ho := H2.out.own
          obtain ⟨xa', xc', e1, hr⟩ := RowV.own (S := Any wr) (l := (nowR s.types L s.types.length).map fun n => [str n]) ho (str1_len _) (by simp) (fun g hg => (ho.lt g hg).2)
          obtain ⟨rfl, rfl⟩ : xa = xa' ∧ xc = xc' := by cases e1; exact ⟨rfl, rfl⟩
          rw [hna] at hr
          have HNA := Lib.hid hna; have HR := Lib.hid hr; have HBW := Lib.hid hbw
          clear hna hr e1 ho hbw
          go_wp2
          go_roundw
          case rel => exact ⟨k + 1, xa, xc, by rw [HNA.out], by go_num, by omega, HR.out, (H2.out.below.block w.heap.size hwz).trans H.out.box, HBW.out⟩
          case measure => simp [intOf]; omega
    · have hkz : ¬ (k : Int) ≤ (s.types.length : Int) := by omega
      obtain rfl : k = s.types.length + 1 := by omega
      go_wp2
      go_ret
      exact ⟨la, ⟨lc, rfl⟩, H.out.row, H.out.below⟩
end Sp
end Go.Proofs.Yteooafgdmpbjeab
namespace Go.Proofs.Yteooafgdmpbjeab
open Go.RowKit
namespace Sp
open Sc
def openR (l : List NT) : Nat → Tz → Tz
  | 0, t => t
  | f + 1, .mk k nm ns ks => if k = 9 then openR l f (firstZ l nm) else .mk k nm ns ks
theorem openR_not (l : List NT) (f : Nat) (t : Tz) (h : t.kind ≠ 9) : openR l f t = t := by
  cases f with
  | zero => rfl
  | succ f => obtain ⟨k, nm, ns, ks⟩ := t; rw [openR]; exact if_neg h
structure OpR (w : World) (bc : Array Value) (S : Nat → Prop) (l : List NT) (full : Tz) (v5 : Value) (wr : World) (k : Nat) (t : Tz) (ct : C4) : Prop where
  slot : v5 = .int .i64 k
  le : k ≤ l.length + 1
  rest : openR l (l.length + 1 - k) t = full
  val : TzV wr S t ct
  box : wr.heap[w.heap.size]? = some (.cells bc 35 (0, 0))
  var : wr.heap[w.heap.size + 1]? = some (.cells #[.int .i64 ct.k, .string ct.n, .slice ct.an ct.ln ct.cn, .slice ct.ak ct.lk ct.ck] 31 (0, 0))
  zer : wr.heap[w.heap.size + 2]? = some (.cells #[.int .i64 0, .string ⟨#[]⟩, .slice none 0 0, .slice none 0 0] 31 (0, 0))
  size : w.heap.size + 3 ≤ wr.heap.size
  below : Below w.heap.size w wr
set_option maxRecDepth 100000 in
set_option maxHeartbeats 8000000 in
theorem Open_ref (S : Nat → Prop) (s : Sz) (u : Tz) (t : C4) (c : C4) (a1 a2 : Option Addr) (us : List (List UInt8 × C4)) (gs : List (List UInt8 × G6)) (c1 c2 : Nat) (w : World) (hS : ∀ g, S g → g < w.heap.size) (hV : SzV w S s c a1 us a2 gs) (hT : TzV w S u t) (hl : s.types.length ≤ 1000000) :
    Calls Try.prog 75 #[.agg #[.int .i64 c.k, .string c.n, .slice c.an c.ln c.cn, .slice c.ak c.lk c.ck, .slice a1 s.types.length c1, .slice a2 s.sigs.length c2], .agg #[.int .i64 t.k, .string t.n, .slice t.an t.ln t.cn, .slice t.ak t.lk t.ck]] w fun e w' => ∃ ct : C4, e = .returned (.agg #[.int .i64 ct.k, .string ct.n, .slice ct.an ct.ln ct.cn, .slice ct.ak ct.lk ct.ck]) ∧ TzV w' S (openR s.types (s.types.length + 1) u) ct ∧ Below w.heap.size w w' := by
  obtain ⟨W0, hW0⟩ : ∃ W0, W0 = ((w.alloc (.cells #[.int .i64 c.k, .string c.n, .slice c.an c.ln c.cn, .slice c.ak c.lk c.ck, .slice a1 s.types.length c1, .slice a2 s.sigs.length c2] 35)).alloc (.cells #[.int .i64 t.k, .string t.n, .slice t.an t.ln t.cn, .slice t.ak t.lk t.ck] 31)).alloc (.cells #[.int .i64 0, .string ⟨#[]⟩, .slice none 0 0, .slice none 0 0] 31) := ⟨_, rfl⟩
  have hb0 : Below w.heap.size w W0 := by rw [hW0]; exact (((Below.refl _ _).alloc (Nat.le_refl _) _).alloc (by simp) _).alloc (by simp; omega) _
  have hz0 : W0.heap.size = w.heap.size + 3 := by rw [hW0]; simp
  have hs0 : W0.heap[w.heap.size]? = some (.cells #[.int .i64 c.k, .string c.n, .slice c.an c.ln c.cn, .slice c.ak c.lk c.ck, .slice a1 s.types.length c1, .slice a2 s.sigs.length c2] 35 (0, 0)) := by rw [hW0, blk_if, if_neg (by simp; omega), blk_if, if_neg (by simp), blk_if, if_pos rfl]
  have ht0 : W0.heap[w.heap.size + 1]? = some (.cells #[.int .i64 t.k, .string t.n, .slice t.an t.ln t.cn, .slice t.ak t.lk t.ck] 31 (0, 0)) := by rw [hW0, blk_if, if_neg (by simp), blk_if, if_pos (by simp)]
  have ho0 : W0.heap[w.heap.size + 2]? = some (.cells #[.int .i64 0, .string ⟨#[]⟩, .slice none 0 0, .slice none 0 0] 31 (0, 0)) := by rw [hW0, blk_if, if_pos (by simp)]
  have HSS := Lib.hid hS; have HV := Lib.hid hV; have HT := Lib.hid hT; have HW0 := Lib.hid hW0; have HB0 := Lib.hid hb0; have HS0 := Lib.hid hs0; have HO0 := Lib.hid ho0; have HT0 := Lib.hid ht0
  clear hS hV hT hW0 hb0 hs0 ho0 ht0
  generalize hfull : openR s.types (s.types.length + 1) u = full
  have HFU := Lib.hid hfull
  clear hfull
  go_enter Try.func75, Try.ntmps75
  go_wp2_with fail
  rw [← HW0.out]
  go_wp2_with fail
  go_loopw [5] (fun v5 wr => ∃ k x ct, OpR w #[.int .i64 c.k, .string c.n, .slice c.an c.ln c.cn, .slice c.ak c.lk c.ck, .slice a1 s.types.length c1, .slice a2 s.sigs.length c2] S s.types full v5 wr k x ct) (fun v5 _ => s.types.length + 1 - (intOf v5).toNat)
  case atStart => exact ⟨0, u, t, rfl, Nat.zero_le _, HFU.out, HT.out.keep (fun _ h => h) (fun g hg => HB0.out.block g (HSS.out g hg)), HS0.out, HT0.out, HO0.out, by omega, HB0.out⟩
  case round =>
    obtain ⟨k, x, ⟨ck, cn, can, cln, ccn, cak, clk, cck⟩, h⟩ := hrel
    obtain rfl := h.slot
    have hle := h.le
    have hsz := h.size
    obtain ⟨⟨s0, s1, s2, s3, s4, s5⟩, _⟩ := six_blkF h.box
    obtain ⟨⟨t0, t1, t2, t3⟩, ⟨r0, r1, r2, r3⟩⟩ := four_blk h.var
    have hkd := h.val.kindZ
    simp only at hkd t0 t1 t2 t3 r0 r1 r2 r3
    have H := Lib.hid h
    clear h
    by_cases hk : k ≤ s.types.length
    · have hkz : (k : Int) ≤ (s.types.length : Int) := by omega
      by_cases h9 : ck = 9
      · obtain ⟨k', nm, ns, ks⟩ := x
        obtain rfl : k' = 9 := by rw [h9] at hkd; exact hkd.symm
        have hcn : cn = ⟨nm.toArray⟩ := by have := H.out.val; cases this; rfl
        subst h9 hcn
        clear hkd
        have CD := Def_ref S s nm c a1 a2 us gs c1 c2 wr (fun g hg => by have := HSS.out g hg; omega) (HV.out.keep (fun g hg => H.out.below.block g (HSS.out g hg))) (by unfold maxLen; omega)
        have hrs : openR s.types (s.types.length + 1 - (k + 1)) (firstZ s.types nm) = full := by
          have := H.out.rest
          rw [show s.types.length + 1 - k = (s.types.length + 1 - (k + 1)) + 1 by omega, openR, if_pos rfl] at this
          exact this
        have HCD := Lib.hid CD; have HRS := Lib.hid hrs
        clear CD hrs
        go_wp2_with (go_at_call 87; (with_reducible refine HCD.out.mono ?_); rintro e w2 ⟨ct, rfl, hv2, x2⟩; have hz2 := x2.size; obtain ⟨⟨m0, m1, m2, m3⟩, ⟨l0, l1, l2, l3⟩⟩ := four_blk ((x2.block (w.heap.size + 1) (by omega)).trans H.out.var); have HX2 := Lib.hid x2; have HV2 := Lib.hid hv2; clear x2 hv2)
        have hPO := put4_only w2 (w.heap.size + 1) ct
        have e1 := put4_at ((HX2.out.block (w.heap.size + 1) (by omega)).trans H.out.var) ct
        have e2 := hPO.blk ((HX2.out.block w.heap.size (by omega)).trans H.out.box) (by omega)
        have e3 := hPO.blk ((HX2.out.block (w.heap.size + 2) (by omega)).trans H.out.zer) (by omega)
        have e4 := (H.out.below.trans (HX2.out.mono (by omega))).trans (hPO.below (by omega) (by omega))
        have e5 := HV2.out.keep (S' := S) (fun _ h => h) (fun g hg => hPO.block g (by have := HSS.out g hg; omega) (fun e => by cases e; have := HSS.out _ hg; omega))
        have e6 : w.heap.size + 3 ≤ (put4 w2 (w.heap.size + 1) ct).heap.size := by rw [put4_size]; omega
        unfold put4 at e1 e2 e3 e4 e5 e6
        have E1 := Lib.hid e1; have E2 := Lib.hid e2; have E3 := Lib.hid e3; have E4 := Lib.hid e4; have E5 := Lib.hid e5; have E6 := Lib.hid e6
        clear e1 e2 e3 e4 e5 e6 hPO
        go_roundw
        case rel => exact ⟨k + 1, _, ct, by go_num, by omega, HRS.out, E5.out, E2.out, E1.out, E3.out, E6.out, E4.out⟩
        case measure => simp [intOf]; omega
      · have t9 : (ck == 9) = false := by rw [beq_eq_false_iff_ne]; exact h9
        have he : x = full := by rw [← H.out.rest, openR_not _ _ _ (by rw [← hkd]; exact h9)]
        have HE := Lib.hid he
        clear he hkd h9
        obtain ⟨⟨z0, z1, z2, z3⟩, ⟨f0, f1, f2, f3⟩⟩ := four_blk H.out.zer
        obtain ⟨⟨v0, v1, v2, v3⟩, _⟩ := four_blk (put4_at H.out.zer ⟨ck, cn, can, cln, ccn, cak, clk, cck⟩)
        have hPO := put4_only wr (w.heap.size + 2) ⟨ck, cn, can, cln, ccn, cak, clk, cck⟩
        have HBL := Lib.hid (H.out.below.trans (hPO.below (by omega) (by omega)))
        have HVL := Lib.hid (H.out.val.keep (fun _ h => h) (fun g hg => hPO.block g (by have := HSS.out g hg; omega) (fun e => by cases e; have := HSS.out _ hg; omega)))
        clear hPO
        unfold put4 at v0 v1 v2 v3
        go_wp2
        refine bodyPost_ret (v := .agg #[.int .i64 ck, .string cn, .slice can cln ccn, .slice cak clk cck]) (by simp [results, Try.results75, go_sem, v0, v1, v2, v3]) rfl ?_
        exact ⟨⟨ck, cn, can, cln, ccn, cak, clk, cck⟩, rfl, by rw [← HE.out]; exact HVL.out, HBL.out⟩
    · have hkz : ¬ (k : Int) ≤ (s.types.length : Int) := by omega
      have he : x = full := by rw [← H.out.rest, show s.types.length + 1 - k = 0 by omega]; rfl
      have HE := Lib.hid he
      clear he hkd
      obtain ⟨⟨z0, z1, z2, z3⟩, ⟨f0, f1, f2, f3⟩⟩ := four_blk H.out.zer
      obtain ⟨⟨v0, v1, v2, v3⟩, _⟩ := four_blk (put4_at H.out.zer ⟨ck, cn, can, cln, ccn, cak, clk, cck⟩)
      have hPO := put4_only wr (w.heap.size + 2) ⟨ck, cn, can, cln, ccn, cak, clk, cck⟩
      have HBL := Lib.hid (H.out.below.trans (hPO.below (by omega) (by omega)))
      have HVL := Lib.hid (H.out.val.keep (fun _ h => h) (fun g hg => hPO.block g (by have := HSS.out g hg; omega) (fun e => by cases e; have := HSS.out _ hg; omega)))
      clear hPO
      unfold put4 at v0 v1 v2 v3
      go_wp2
      refine bodyPost_ret (v := .agg #[.int .i64 ck, .string cn, .slice can cln ccn, .slice cak clk cck]) (by simp [results, Try.results75, go_sem, v0, v1, v2, v3]) rfl ?_
      exact ⟨⟨ck, cn, can, cln, ccn, cak, clk, cck⟩, rfl, by rw [← HE.out]; exact HVL.out, HBL.out⟩
end Sp
end Go.Proofs.Yteooafgdmpbjeab
