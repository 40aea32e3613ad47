/- ScanSigns: the walk. Written by gen_signs.py. -/
import Derived.Test.YtaillpnjknnhdaaDoorLits
import Derived.Test.YtaillpnjknnhdaaDoorSignsP
namespace Go.Proofs.YtaillpnjknnhdaaDoor
open Go.RowKit
namespace Sc

def SB (l : List UInt8) : Value := .string ⟨l.toArray⟩
theorem sg_cell (w : World) (t : TypeId) (n : Nat) (h : n < 15) : (w.alloc (.cells #[.string ⟨#[45, 62]⟩, .string ⟨#[58, 61]⟩, .string ⟨#[123]⟩, .string ⟨#[125]⟩, .string ⟨#[60]⟩, .string ⟨#[62]⟩, .string ⟨#[44]⟩, .string ⟨#[58]⟩, .string ⟨#[40]⟩, .string ⟨#[41]⟩, .string ⟨#[46]⟩, .string ⟨#[36]⟩, .string ⟨#[124]⟩, .string ⟨#[61]⟩, .string ⟨#[59]⟩] t)).cell? ⟨w.heap.size, n, none⟩ = some (.string (sg n)) := by
  match n, h with
  | 0, _ => simp; rfl
  | 1, _ => simp; rfl
  | 2, _ => simp; rfl
  | 3, _ => simp; rfl
  | 4, _ => simp; rfl
  | 5, _ => simp; rfl
  | 6, _ => simp; rfl
  | 7, _ => simp; rfl
  | 8, _ => simp; rfl
  | 9, _ => simp; rfl
  | 10, _ => simp; rfl
  | 11, _ => simp; rfl
  | 12, _ => simp; rfl
  | 13, _ => simp; rfl
  | 14, _ => simp; rfl

theorem sg_mem (n : Nat) (h : n < 15) : signs.getD n [] ∈ signs := by
  have hl : n < signs.length := h
  have e : signs.getD n [] = signs[n] := by simp [List.getD, List.getElem?_eq_getElem hl]
  rw [e]; exact List.getElem_mem hl
theorem info_str : (Tryd.prog.info? 9).map (fun i => (i.zero, i.size, i.bytes)) = some (some (.string ByteArray.empty), 1, 16) := by kernel_rfl

/-- The memory of the law's first loop: the table written out (block g), and the words that are wanted. -/
structure GMem (w : World) (g : Nat) (wr : World) (v : Value) (ws : List (List UInt8)) : Prop where
  bel : Below w.heap.size w wr
  lo : w.heap.size ≤ g
  lt : g < wr.heap.size
  tab : ∀ n, n < 15 → wr.cell? ⟨g, n, none⟩ = some (.string (sg n))
  own : wr.ownsRow (g + 1) 9 1 v ws.length (ws.map SB)
theorem GMem.start {w w1 : World} (hb : Below w.heap.size w w1) (t : TypeId) : GMem w w1.heap.size (w1.alloc (.cells #[.string ⟨#[45, 62]⟩, .string ⟨#[58, 61]⟩, .string ⟨#[123]⟩, .string ⟨#[125]⟩, .string ⟨#[60]⟩, .string ⟨#[62]⟩, .string ⟨#[44]⟩, .string ⟨#[58]⟩, .string ⟨#[40]⟩, .string ⟨#[41]⟩, .string ⟨#[46]⟩, .string ⟨#[36]⟩, .string ⟨#[124]⟩, .string ⟨#[61]⟩, .string ⟨#[59]⟩] t)) (.slice none 0 0) [] where
  bel := hb.alloc hb.size _
  lo := hb.size
  lt := by simp
  tab := fun n hn => sg_cell w1 t n hn
  own := World.ownsRow_nil _ _ _ _
theorem GMem.grow {w wr w' : World} {g : Nat} {v v' : Value} {ws : List (List UInt8)} (h : GMem w g wr v ws) (o : Obj) (x : List UInt8)
    (hown : w'.ownsRow (g + 1) 9 1 v' (ws.length + 1) (ws.map SB ++ [SB x])) (hg : (wr.alloc o).grownBy w' v.ownBlock) : GMem w g w' v' (ws ++ [x]) where
  bel := by
    refine (h.bel.alloc h.bel.size o).grown hg (by simp; have := h.bel.size; omega) ?_
    intro k hk
    rcases h.own.2 with ⟨rfl, _⟩ | ⟨g', cap, _, rfl, hg', _⟩
    · simp [Value.ownBlock] at hk
    · simp only [Value.ownBlock] at hk; cases hk; have := h.lo; omega
  lo := h.lo
  lt := by have h1 := hg.size; have h2 := h.lt; simp at h1; omega
  tab := fun n hn => by
    have hne : some g ≠ v.ownBlock := by
      rcases h.own.2 with ⟨rfl, _⟩ | ⟨g', cap, _, rfl, hg', _⟩
      · simp [Value.ownBlock]
      · simp only [Value.ownBlock]; intro e; cases e; omega
    have hb := hg.block g (by simp; have := h.lt; omega) hne
    rw [Below.heap_alloc _ _ _ h.lt] at hb
    rw [World.cell?_of_block (w := wr) (a := ⟨g, n, none⟩) hb]
    exact h.tab n hn
  own := by simpa [List.map_append] using hown
theorem GMem.store {w wr : World} {g g' cap : Nat} {ws : List (List UInt8)} {last x : List UInt8} (h : GMem w g wr (.slice (some ⟨g', 0, none⟩) (ws ++ [last]).length cap) (ws ++ [last])) :
    GMem w g (wr.setCell ⟨g', ws.length, none⟩ (SB x)) (.slice (some ⟨g', 0, none⟩) (ws ++ [last]).length cap) (ws ++ [x]) := by
  have hgg : g + 1 ≤ g' := by
    rcases h.own.2 with ⟨e, _⟩ | ⟨g2, cap2, _, e, hg', _⟩
    · cases e
    · cases e; exact hg'
  refine ⟨h.bel.setCell (by show w.heap.size ≤ g'; have := h.lo; omega) _, h.lo, by have := h.lt; simpa [World.setCell] using this, fun n hn => ?_, ?_⟩
  · have hb := Below.heap_setCell wr ⟨g', ws.length, none⟩ (SB x) g (by show g ≠ g'; omega)
    rw [World.cell?_of_block (w := wr) (a := ⟨g, n, none⟩) hb]
    exact h.tab n hn
  · have hs := (h.own.stored ws.length (SB x)).1
    have e : ((ws ++ [last]).map SB).set ws.length (SB x) = (ws ++ [x]).map SB := by
      simp [List.map_append, List.set_append]
    rw [e] at hs
    simpa using hs
theorem GMem.last {w wr : World} {g : Nat} {v : Value} {ws : List (List UInt8)} {last : List UInt8} (h : GMem w g wr v (ws ++ [last])) :
    ∃ g' cap, v = .slice (some ⟨g', 0, none⟩) (ws ++ [last]).length cap ∧ wr.cell? ⟨g', ws.length, none⟩ = some (SB last) ∧ wr.frozen? ⟨g', ws.length, none⟩ = false ∧ g' < wr.heap.size ∧ g + 1 ≤ g' := by
  have ho := h.own
  rcases h.own.2 with ⟨rfl, hn⟩ | ⟨g', cap, cur, rfl, hb, hg, _⟩
  · simp at hn
  · refine ⟨g', cap, rfl, ?_, ho.frozenAt _, (Array.getElem?_eq_some_iff.1 hg).1, hb⟩
    rw [ho.cellAt ws.length (by simp)]
    simp

theorem str_eq (a b : List UInt8) : ((⟨a.toArray⟩ : ByteArray).toList == (⟨b.toArray⟩ : ByteArray).toList) = decide (a = b) := by
  rw [ByteArray.toList_eq, ByteArray.toList_eq]
  show (a == b) = _
  by_cases h : a = b
  · subst h; simp
  · simp [h]

theorem row_some' {w : World} {base n c : Nat} {a : Option Addr} {ts : List T} (h : w.ownsRow base 38 4 (.slice a n c) ts.length (ts.flatMap tokCells)) (h0 : 0 < ts.length) : ∃ g, a = some ⟨g, 0, none⟩ ∧ base ≤ g ∧ g < w.heap.size := by
  obtain ⟨g, cap, e, hb, hg⟩ := row_some h h0
  cases e
  exact ⟨g, rfl, hb, hg⟩
theorem want_at {w : World} {base c : Nat} {a : Option Addr} {ws : List (List UInt8)} (h : w.ownsRow base 9 1 (.slice a ws.length c) ws.length (ws.map SB)) (p : Nat) (hp : p < ws.length) :
    ∃ g, a = some ⟨g, 0, none⟩ ∧ g < w.heap.size ∧ w.cell? ⟨g, p, none⟩ = some (.string ⟨ws[p].toArray⟩) := by
  have ho := h
  rcases h.2 with ⟨_, hn⟩ | ⟨g, cap, cur, e, hb, hg, _⟩
  · omega
  · cases e
    refine ⟨g, rfl, (Array.getElem?_eq_some_iff.1 hg).1, ?_⟩
    rw [ho.cellAt p (by omega)]
    simp [SB, hp]

set_option maxRecDepth 100000 in
set_option maxHeartbeats 8000000 in
theorem signs_any (ad : Option Addr) (len cap : Nat) (zs : List Int) (w : World) (hT : Tabs w) (hR : IsRow .i64 w ad len cap zs) :
    Calls Tryd.prog 8 #[.slice ad len cap] w fun e w' => e = .returned (.bool true) ∧ Below w.heap.size w w' := by
  have hI := ints_of_row hR
  generalize (fun i => zs.getD i 0) = f at hI
  have hlen := hI.1
  unfold maxLen at hlen
  have cK := known_any w hT
  have HI := Lib.hid hI; have HT := Lib.hid hT; have HK := Lib.hid cK
  clear hI hT cK hR
  go_enter Tryd.func8, Tryd.ntmps8
  go_wp2_with (go_at_call 12; (with_reducible refine HK.out.mono ?_); rintro e w1 ⟨rfl, hb⟩)
  have HM0 := Lib.hid (GMem.start hb 9); clear hb HK
  go_loopw [4, 5, 6] (fun sv v kv wr => ∃ (j : Nat) (ws : List (List UInt8)) (t : ByteArray), j ≤ len ∧ j ≤ 50 ∧ ws.length ≤ j ∧ kv = .int .i64 j ∧ sv = .string t ∧ t.size ≤ 2 * j ∧ Hid (t.data.toList = ws.flatten) ∧ Hid (Canon ws) ∧ Hid (GMem w w1.heap.size wr v ws)) (fun _ _ kv _ => len - (intOf kv).toNat)
  case atStart => exact ⟨0, [], _, Nat.zero_le _, by omega, by simp, rfl, rfl, by simp [ByteArray.size], rfl, trivial, HM0⟩
  case round =>
    obtain ⟨j, ws, t, hj, hj50, hwl, rfl, rfl, hts, ht, hc, HM⟩ := hrel
    have hlt1 := HM.out.lt
    have hbw := HM.out.bel.size
    by_cases hlt : j < len
    · by_cases h50 : j < 50
      · obtain ⟨bb, off, rfl, hbl, hcc⟩ := HI.out.2 (by omega)
        have hcj := (HM.out.bel.cell (p := ⟨bb, off + j, none⟩) hbl).trans (hcc j hlt).1
        have hwf := bounds_i64 (hcc j hlt).2
        have hbl2 : bb < wr.heap.size := by omega
        have h15 := Int.emod_nonneg (f j) (show (15 : Int) ≠ 0 by omega)
        have h15' := Int.emod_lt_of_pos (f j) (show (0 : Int) < 15 by omega)
        obtain ⟨n, hn⟩ : ∃ n : Nat, f j % 15 = n := ⟨(f j % 15).toNat, by omega⟩
        have cW := fun w => within_any (f j) 15 w (by omega) (by omega) hwf.1 hwf.2
        rw [hn] at cW h15 h15'
        have htab := HM.out.tab n (by omega)
        have hmem := sg_mem n (by omega)
        have hsl := sign_len2 _ hmem
        have hsz : (sg n).size ≤ 2 := hsl.2
        have hsz1 : 1 ≤ (sg n).size := hsl.1
        have HW := Lib.hid cW
        have HMEM := Lib.hid hmem
        generalize f j = fj at *
        clear hcc cW hwf hn hmem hsl
        obtain ⟨i0, hi, hz0, hz1, hz2⟩ := info_parts info_str
        have hSB : SB (signs.getD n []) = .string (sg n) := rfl
        have hkey : (t ++ sg n).size ≤ 2 * (j + 1) ∧ Hid ((t ++ sg n).data.toList = ws.flatten ++ signs.getD n []) := by
          refine ⟨by rw [ByteArray.size_append]; omega, ?_⟩
          unfold Hid; rw [cat_bytes, ht.out]; rfl
        have KY := Lib.hid hkey
        clear hkey
        rcases List.eq_nil_or_concat ws with rfl | ⟨init, last, hws⟩
        · obtain ⟨sa, sc, rfl⟩ := own_slice HM.out.own
          go_wp2_with (first
            | (go_at_call 14; (with_reducible refine (HW.out _).mono ?_); rintro e w' ⟨rfl, rfl⟩)
            | (at_builtin; refine wpList_append_own _ rfl _ _ 25 rfl (w1.heap.size + 1) 9 i0 (.string ByteArray.empty) 1 16 Tryd.underlying25 hi hz0 hz1 hz2 rfl (by decide) _ _ _ rfl (HM.out.own.alloc _) ⟨wr.heap.size, 0, none⟩ 1 1 [.string (sg n)] rfl rfl (cell_one_new _ _ _) (fun x hx => by simp at hx; subst hx; rfl) (by unfold maxLen; omega) (by omega) (by simp; omega) ?_; intro v' w3 hown' hgrow _; have HOW := Lib.hid hown'; have HGR := Lib.hid hgrow; clear hown' hgrow))
          go_roundw
          case rel => exact ⟨j + 1, [signs.getD n []], _, by omega, by omega, by simp, by go_num, rfl, KY.out.1, by unfold Hid; rw [KY.out.2.out]; simp, canon_snoc [] _ trivial HMEM.out (fun h => by simp at h), Lib.hid (HM.out.grow _ _ HOW.out HGR.out)⟩
          case measure => simp [intOf]; omega
        · rw [List.concat_eq_append] at hws
          subst hws
          obtain ⟨g', cap', rfl, hcl, hfl, hgl, hgg⟩ := HM.out.last
          have hcl' : wr.cell? ⟨g', init.length, none⟩ = some (.string ⟨last.toArray⟩) := hcl
          have hil : init.length + 1 ≤ 50 := by simp at hwl; omega
          have hse := str_eq last [58]
          have hown : wr.ownsRow (w1.heap.size + 1) 9 1 (.slice (some ⟨g', 0, none⟩) (init.length + 1) cap') (init.length + 1) ((init ++ [last]).map SB) := by simpa using HM.out.own
          have HO := Lib.hid hown
          clear hcl hown
          by_cases h58 : last = [58]
          · rw [decide_eq_true h58] at hse
            have h00 : 0 < (sg n).size := hsz1
            have hb0 := bytes_at (sg n) 0 h00
            obtain ⟨c, hcc⟩ : ∃ c, (sg n)[0]'h00 = c := ⟨_, rfl⟩
            rw [hcc] at hb0
            have hhd : (signs.getD n []).head? = some c := by
              have h1 : (signs.getD n [])[0]? = some c := by
                have h2 : (sg n).data.toList[0]? = some c := by rw [List.getElem?_eq_getElem (lt_len h00), hb0]
                exact h2
              rw [List.head?_eq_getElem?]; exact h1
            by_cases hx : (signs.getD n []).head? ≠ some 61
            · have t61 : ((c.toNat : Int) == 61) = false := by
                rw [beq_eq_false_iff_ne]; intro e; apply hx; rw [hhd]
                congr 1; rw [← UInt8.toNat_inj]; show c.toNat = 61; omega
              have HH := Lib.hid hhd; have HX := Lib.hid hx
              clear hb0 hhd hx
              go_wp2_with (first
                | (go_at_call 14; (with_reducible refine (HW.out _).mono ?_); rintro e w' ⟨rfl, rfl⟩)
                | (at_builtin; refine wpList_append_own _ rfl _ _ 25 rfl (w1.heap.size + 1) 9 i0 (.string ByteArray.empty) 1 16 Tryd.underlying25 hi hz0 hz1 hz2 rfl (by decide) _ _ _ rfl (HO.out.alloc _) ⟨wr.heap.size, 0, none⟩ 1 1 [.string (sg n)] rfl rfl (cell_one_new _ _ _) (fun x hx => by simp at hx; subst hx; rfl) (by unfold maxLen; omega) (by omega) (by simp; omega) ?_; intro v' w3 hown' hgrow _; have HOW := Lib.hid hown'; have HGR := Lib.hid hgrow; clear hown' hgrow))
              go_roundw
              case rel => exact ⟨j + 1, (init ++ [last]) ++ [signs.getD n []], _, by omega, by omega, by rw [List.length_append, List.length_singleton]; omega, by go_num, rfl, KY.out.1, by unfold Hid; rw [KY.out.2.out]; simp, canon_snoc _ _ hc.out HMEM.out (fun _ => HX.out), Lib.hid (HM.out.grow _ _ (by have h := HOW.out; rw [show Value.string (sg n) = SB (signs.getD n []) from rfl] at h; simpa using h) HGR.out)⟩
              case measure => simp [intOf]; omega
            · have hx2 : (signs.getD n []).head? = some 61 := Classical.not_not.1 hx
              have hxe := eq_only _ HMEM.out hx2
              have t61 : ((c.toNat : Int) == 61) = true := by
                rw [hhd] at hx2; cases hx2; decide
              have HXE := Lib.hid hxe
              have HST := Lib.hid (GMem.store (x := [58, 61]) HM.out)
              obtain ⟨ci, _⟩ := canon_init _ _ hc.out
              have HCI := Lib.hid ci
              have HL := Lib.hid h58
              clear hb0 hhd hx hx2 hxe ci h58
              go_wp2_with (go_at_call 14; (with_reducible refine (HW.out _).mono ?_); rintro e w' ⟨rfl, rfl⟩)
              go_roundw
              case rel => exact ⟨j + 1, init ++ [[58, 61]], _, by omega, by omega, by rw [List.length_append, List.length_singleton] at hwl ⊢; omega, by go_num, rfl, KY.out.1, by unfold Hid; rw [KY.out.2.out, HXE.out, HL.out]; simp, canon_snoc _ _ HCI.out (by decide) (fun _ => by decide), Lib.hid (by have h := HST.out; rw [List.length_append, List.length_singleton] at h; exact h)⟩
              case measure => simp [intOf]; omega
          · rw [decide_eq_false h58] at hse
            go_wp2_with (first
              | (go_at_call 14; (with_reducible refine (HW.out _).mono ?_); rintro e w' ⟨rfl, rfl⟩)
              | (at_builtin; refine wpList_append_own _ rfl _ _ 25 rfl (w1.heap.size + 1) 9 i0 (.string ByteArray.empty) 1 16 Tryd.underlying25 hi hz0 hz1 hz2 rfl (by decide) _ _ _ rfl (HO.out.alloc _) ⟨wr.heap.size, 0, none⟩ 1 1 [.string (sg n)] rfl rfl (cell_one_new _ _ _) (fun x hx => by simp at hx; subst hx; rfl) (by unfold maxLen; omega) (by omega) (by simp; omega) ?_; intro v' w3 hown' hgrow _; have HOW := Lib.hid hown'; have HGR := Lib.hid hgrow; clear hown' hgrow))
            go_roundw
            case rel => exact ⟨j + 1, (init ++ [last]) ++ [signs.getD n []], _, by omega, by omega, by rw [List.length_append, List.length_singleton]; omega, by go_num, rfl, KY.out.1, by unfold Hid; rw [KY.out.2.out]; simp, canon_snoc _ _ hc.out HMEM.out (fun h => absurd (by simpa using h) h58), Lib.hid (HM.out.grow _ _ (by have h := HOW.out; rw [show Value.string (sg n) = SB (signs.getD n []) from rfl] at h; simpa using h) HGR.out)⟩
            case measure => simp [intOf]; omega
      · have hj50' : j = 50 := by omega
        clear h50
        have hws50 : ws.length ≤ 50 := by omega
        have cT := Tokens_any t wr (by unfold maxLen; omega) (HT.out.below HM.out.bel).1 (HT.out.below HM.out.bel).2
        unfold ToksPost at cT
        rw [ht.out, sg_toks ws hc.out hws50] at cT
        have hlT := sgT_len ws 0
        obtain ⟨sa, sc, rfl⟩ := own_slice HM.out.own
        have CT := Lib.hid cT
        clear cT
        go_wp2_with fail
        (with_reducible refine CT.out.mono ?_)
        rintro e w3 ⟨hb2, v, rfl, ho⟩
        have hb3 := HM.out.bel.trans (hb2.mono hbw)
        have HO := Lib.hid ho; have HB2 := Lib.hid hb2; have HB3 := Lib.hid hb3
        obtain ⟨ua, uc, rfl⟩ := own_slice ho
        clear ho hb2 hb3 CT
        go_wp2
        have HLT := Lib.hid hlT; clear hlT
        go_loopw [10, 11] (fun av iv wr2 => ∃ (p nq : Nat), p ≤ ws.length ∧ iv = .int .i64 p ∧ av = .int .i64 (sgAt ws p) ∧ wr2 = w3.drewN nq) (fun _ iv _ => ws.length - (intOf iv).toNat)
        case atStart => exact ⟨0, 0, Nat.zero_le _, rfl, by simp [sgAt], rfl⟩
        case round =>
          obtain ⟨p, nq, hp, rfl, rfl, rfl⟩ := hrel
          by_cases hpk : p < ws.length
          · obtain ⟨g2, rfl, _, hg2⟩ := row_some' HO.out (by rw [HLT.out]; omega)
            obtain ⟨x0, x1, _, x3⟩ := row_at HO.out p (by rw [HLT.out]; exact hpk)
            rw [sgT_get ws 0 p hpk] at x0 x1 x3
            rw [Nat.zero_add] at x3
            have hw := want_at HM.out.own p hpk
            obtain ⟨g3, rfl, hg3, hw3⟩ := hw
            have hw4 := (HB2.out.cell (p := ⟨g3, p, none⟩) hg3).trans hw3
            have hsu := sgAt_succ ws p hpk
            have hxl := sign_len2 _ (canon_mem ws hc.out _ (List.getElem_mem hpk))
            have hal := sgAt_le ws (fun x hx => (sign_len2 x (canon_mem ws hc.out x hx)).2) p
            have hpk' : (p : Int) < ws.length := by omega
            have hp0 : (0 : Int) ≤ p := by omega
            generalize ws[p] = x at *
            generalize sgAt ws p = at_ at *
            have hxs : (⟨x.toArray⟩ : ByteArray).size = x.length := rfl
            have hxs2 : x.length ≤ 2 := hxl.2
            have hal2 : at_ ≤ 100 := by omega
            have HXS := Lib.hid hxs; have HSU := Lib.hid hsu
            clear hw3 hsu hxl hal hxs
            go_wp2_with fail
            go_quiet (fail)
            go_wp2
            go_roundw
            case rel => exact ⟨p + 1, _, by omega, by go_num, by rw [HSU.out]; go_num, rfl⟩
            case measure => simp [intOf]; omega
          · have hpk2 : p = ws.length := by omega
            clear hpk
            go_wp2
            go_ret
            exact ⟨rfl, below_drewN HB3.out nq⟩
    · have hjl : j = len := by omega
      clear hlt
      have hws50 : ws.length ≤ 50 := by omega
      have cT := Tokens_any t wr (by unfold maxLen; omega) (HT.out.below HM.out.bel).1 (HT.out.below HM.out.bel).2
      unfold ToksPost at cT
      rw [ht.out, sg_toks ws hc.out hws50] at cT
      have hlT := sgT_len ws 0
      obtain ⟨sa, sc, rfl⟩ := own_slice HM.out.own
      have CT := Lib.hid cT
      clear cT
      go_wp2_with fail
      (with_reducible refine CT.out.mono ?_)
      rintro e w3 ⟨hb2, v, rfl, ho⟩
      have hb3 := HM.out.bel.trans (hb2.mono hbw)
      have HO := Lib.hid ho; have HB2 := Lib.hid hb2; have HB3 := Lib.hid hb3
      obtain ⟨ua, uc, rfl⟩ := own_slice ho
      clear ho hb2 hb3 CT
      go_wp2
      have HLT := Lib.hid hlT; clear hlT
      go_loopw [10, 11] (fun av iv wr2 => ∃ (p nq : Nat), p ≤ ws.length ∧ iv = .int .i64 p ∧ av = .int .i64 (sgAt ws p) ∧ wr2 = w3.drewN nq) (fun _ iv _ => ws.length - (intOf iv).toNat)
      case atStart => exact ⟨0, 0, Nat.zero_le _, rfl, by simp [sgAt], rfl⟩
      case round =>
        obtain ⟨p, nq, hp, rfl, rfl, rfl⟩ := hrel
        by_cases hpk : p < ws.length
        · obtain ⟨g2, rfl, _, hg2⟩ := row_some' HO.out (by rw [HLT.out]; omega)
          obtain ⟨x0, x1, _, x3⟩ := row_at HO.out p (by rw [HLT.out]; exact hpk)
          rw [sgT_get ws 0 p hpk] at x0 x1 x3
          rw [Nat.zero_add] at x3
          have hw := want_at HM.out.own p hpk
          obtain ⟨g3, rfl, hg3, hw3⟩ := hw
          have hw4 := (HB2.out.cell (p := ⟨g3, p, none⟩) hg3).trans hw3
          have hsu := sgAt_succ ws p hpk
          have hxl := sign_len2 _ (canon_mem ws hc.out _ (List.getElem_mem hpk))
          have hal := sgAt_le ws (fun x hx => (sign_len2 x (canon_mem ws hc.out x hx)).2) p
          have hpk' : (p : Int) < ws.length := by omega
          have hp0 : (0 : Int) ≤ p := by omega
          generalize ws[p] = x at *
          generalize sgAt ws p = at_ at *
          have hxs : (⟨x.toArray⟩ : ByteArray).size = x.length := rfl
          have hxs2 : x.length ≤ 2 := hxl.2
          have hal2 : at_ ≤ 100 := by omega
          have HXS := Lib.hid hxs; have HSU := Lib.hid hsu
          clear hw3 hsu hxl hal hxs
          go_wp2_with fail
          go_quiet (fail)
          go_wp2
          go_roundw
          case rel => exact ⟨p + 1, _, by omega, by go_num, by rw [HSU.out]; go_num, rfl⟩
          case measure => simp [intOf]; omega
        · have hpk2 : p = ws.length := by omega
          clear hpk
          go_wp2
          go_ret
          exact ⟨rfl, below_drewN HB3.out nq⟩
end Sc
end Go.Proofs.YtaillpnjknnhdaaDoor
