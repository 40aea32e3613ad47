/- ScanStrings: the walk. Written by gen_strings.py. -/
import Derived.Test.YtaillpnjknnhdaaDoorLits
import Derived.Test.YtaillpnjknnhdaaDoorStringsP
namespace Go.Proofs.YtaillpnjknnhdaaDoor
open Go.RowKit
namespace Sc

/-- A slice of bytes that came in, as a walk asks of it. -/
theorem bytes_of_row {w : World} {a : Option Addr} {len cap : Nat} {zs : List Int} (h : IsRow .u8 w a len cap zs) : len ≤ cap ∧ len ≤ maxLen ∧ cap ≤ maxLen ∧ ∃ g : Nat → UInt8, (0 < len → ∃ b off, a = some ⟨b, off, none⟩ ∧ b < w.heap.size ∧ ∀ i, i < len → w.cell? ⟨b, off + i, none⟩ = some (.int .u8 (g i).toNat)) := by
  rcases h with ⟨rfl, rfl, rfl, _⟩ | ⟨x, rfl, hl, hm, hz, hc, hw⟩
  · exact ⟨Nat.le_refl _, by simp, by simp, fun _ => 0, fun h => absurd h (Nat.lt_irrefl _)⟩
  · refine ⟨hl, Nat.le_trans hl hm, hm, fun i => UInt8.ofNat (zs.getD i 0).toNat, fun h0 => ?_⟩
    obtain ⟨b, off, rfl, hcell⟩ := ints_at hc (by omega)
    refine ⟨b, off, rfl, World.block_lt_of_cell? _ _ (hcell 0 (by omega)), fun i hi => ?_⟩
    rw [hcell i (by omega)]
    have hlt : i < zs.length := by omega
    have e : zs.getD i 0 = zs[i] := by simp [List.getD, List.getElem?_eq_getElem hlt]
    have hb := bounds_u8 (hw _ (List.getElem_mem hlt))
    show some (Value.int .u8 (zs.getD i 0)) = some (.int .u8 ((UInt8.ofNat (zs.getD i 0).toNat).toNat : Nat))
    rw [e]
    congr 2
    rw [UInt8.toNat_ofNat_of_lt' (by show _ < 256; omega)]
    omega

def oneB (c : UInt8) : ByteArray := ⟨#[c]⟩
theorem conv_one (w : World) (b off c : Nat) (cc : UInt8) (h : w.cell? ⟨b, off, none⟩ = some (.int .u8 cc.toNat)) : (convert 42 9 (.slice (some ⟨b, off, none⟩) 1 c)).run Tryd.prog w = .ok (.string (oneB cc)) w := by
  have := run_convert_bytes_arg (P := Tryd.prog) w 42 5 Tryd.underlying42 Tryd.underlying5 b off 1 c [(cc.toNat : Int)] rfl (fun i hi => by
    obtain rfl : i = 0 := by omega
    rw [Nat.add_zero, h]; rfl) 9 Tryd.underlying9
  rw [this]
  have e := strOf_B [cc]
  simp only [List.map_cons, List.map_nil] at e
  rw [e]; rfl
theorem oneB_list (c : UInt8) : (oneB c).data.toList = [c] := rfl
theorem oneB_size (c : UInt8) : (oneB c).size = 1 := rfl
theorem eta2 (l : List UInt8) (s : ByteArray) (h : s.data.toList = l) : (⟨l.toArray⟩ : ByteArray) = s := by subst h; cases s; simp

set_option maxRecDepth 100000 in
set_option maxHeartbeats 4000000 in
theorem strings_any (ad : Option Addr) (len cap : Nat) (zs : List Int) (w : World) (hT : Tabs w) (hR : IsRow .u8 w ad len cap zs) :
    Calls Tryd.prog 7 #[.slice ad len cap] w fun e w' => e = .returned (.bool true) ∧ Below w.heap.size w w' := by
  obtain ⟨hlc, hlen, hcap, g, hg⟩ := bytes_of_row hR
  unfold maxLen at hlen hcap
  have cK := known_any w hT
  have HG := Lib.hid hg; have HT := Lib.hid hT; have HK := Lib.hid cK
  clear hg hT cK hR
  by_cases h200 : 200 < len
  · have h200' : (200 : Int) < len := by omega
    have hc200 : (200 : Int) ≤ cap := by omega
    go_enter Tryd.func7, Tryd.ntmps7
    go_wp2_with (go_at_call 12; (with_reducible refine HK.out.mono ?_); rintro e w1 ⟨rfl, hb⟩)
    have HB := Lib.hid hb; clear hb HK
    go_loop [3, 4, 5, 6] (fun sv uv kv _ => ∃ (j : Nat) (cs : List UInt8) (t u : ByteArray), j ≤ 200 ∧ cs.length = j ∧ kv = .int .i64 j ∧ sv = .string t ∧ uv = .string u ∧ t.size ≤ 1 + 2 * j ∧ u.size ≤ j ∧ Hid (t.data.toList = 34 :: encs cs) ∧ Hid (u.data.toList = wnts cs)) (fun _ _ kv _ => 200 - (intOf kv).toNat)
    case atStart => exact ⟨0, [], _, _, Nat.zero_le _, rfl, rfl, rfl, rfl, by simp [ByteArray.size], by simp [ByteArray.size], rfl, rfl⟩
    case round =>
      obtain ⟨j, cs, t, u, hj, hcs, rfl, rfl, rfl, hts, hus, ht, hu⟩ := hrel
      by_cases hlt : j < 200
      · obtain ⟨bb, off, rfl, hbl, hc⟩ := HG.out (by omega)
        have hcj := (HB.out.cell (p := ⟨bb, off + j, none⟩) hbl).trans (hc j (by omega))
        have hjl : (j : Int) < 200 := by omega
        have hjc : (j : Int) + 1 ≤ cap := by omega
        have hj200 : (j : Int) < 200 := by omega
        generalize g j = cc at *
        have hcv := fun c => conv_one w1 bb (off + j) c cc hcj
        have hq1 : (t ++ ⟨#[92]⟩ : ByteArray).size ≤ 500 := by rw [ByteArray.size_append]; show _ + 1 ≤ _; omega
        have hq2 : (oneB cc).size ≤ 1 := Nat.le_refl _
        have h255 : (cc.toNat : Int) ≤ 255 := by have := cc.toNat_lt; omega
        clear hc
        by_cases h1 : cc.toNat = 34 ∨ cc.toNat = 92
        · have he : enc cc = [92, cc] := by unfold enc; rw [if_pos h1]
          have hw : wnt cc = [cc] := by unfold wnt; rw [if_neg (by omega)]
          have key : Hid ((t ++ ⟨#[92]⟩ ++ oneB cc).data.toList = 34 :: encs (cs ++ [cc])) ∧ Hid ((u ++ oneB cc).data.toList = wnts (cs ++ [cc])) ∧ (t ++ ⟨#[92]⟩ ++ oneB cc).size ≤ 1 + 2 * (j + 1) ∧ (u ++ oneB cc).size ≤ j + 1 := by
            refine ⟨?_, ?_, ?_, ?_⟩
            · unfold Hid; rw [encs_snoc]; (simp only [cat_bytes, oneB_list, ht.out, he]) <;> simp
            · unfold Hid; rw [wnts_snoc]; (simp only [cat_bytes, oneB_list, hu.out, hw]) <;> simp
            · (try simp only [ByteArray.size_append, oneB_size]); first | omega | (simp only [show (⟨#[92]⟩ : ByteArray).size = 1 from rfl]; omega) | (simp only [show (⟨#[92, 110]⟩ : ByteArray).size = 2 from rfl]; omega) | (simp only [show (⟨#[92, 116]⟩ : ByteArray).size = 2 from rfl]; omega)
            · (try simp only [ByteArray.size_append, oneB_size]); omega
          have KY := Lib.hid key
          clear key he hw
          rcases h1 with h1 | h1
          · have t1 : ((cc.toNat : Int) == 34) = true := by simp [h1]
            clear h1
            go_wp2
            go_round
            case rel => exact ⟨j + 1, cs ++ [cc], _, _, by omega, by simp [hcs], by go_num, rfl, rfl, KY.out.2.2.1, KY.out.2.2.2, KY.out.1, KY.out.2.1⟩
            case measure => simp [intOf]; omega
          · have t1 : ((cc.toNat : Int) == 34) = false := by simp; omega
            have t2 : ((cc.toNat : Int) == 92) = true := by simp [h1]
            clear h1
            go_wp2
            go_round
            case rel => exact ⟨j + 1, cs ++ [cc], _, _, by omega, by simp [hcs], by go_num, rfl, rfl, KY.out.2.2.1, KY.out.2.2.2, KY.out.1, KY.out.2.1⟩
            case measure => simp [intOf]; omega
        · have t1 : ((cc.toNat : Int) == 34) = false := by simp; omega
          have t2 : ((cc.toNat : Int) == 92) = false := by simp; omega
          by_cases h2 : cc.toNat = 10
          · have he : enc cc = [92, 110] := by unfold enc; rw [if_neg h1, if_pos h2]
            have hw : wnt cc = [cc] := by unfold wnt; rw [if_neg (by omega)]
            have t3 : ((cc.toNat : Int) == 10) = true := by simp [h2]
            have key : Hid ((t ++ ⟨#[92, 110]⟩).data.toList = 34 :: encs (cs ++ [cc])) ∧ Hid ((u ++ oneB cc).data.toList = wnts (cs ++ [cc])) ∧ (t ++ ⟨#[92, 110]⟩).size ≤ 1 + 2 * (j + 1) ∧ (u ++ oneB cc).size ≤ j + 1 := by
              refine ⟨?_, ?_, ?_, ?_⟩
              · unfold Hid; rw [encs_snoc]; (simp only [cat_bytes, oneB_list, ht.out, he]) <;> simp
              · unfold Hid; rw [wnts_snoc]; (simp only [cat_bytes, oneB_list, hu.out, hw]) <;> simp
              · (try simp only [ByteArray.size_append, oneB_size]); first | omega | (simp only [show (⟨#[92]⟩ : ByteArray).size = 1 from rfl]; omega) | (simp only [show (⟨#[92, 110]⟩ : ByteArray).size = 2 from rfl]; omega) | (simp only [show (⟨#[92, 116]⟩ : ByteArray).size = 2 from rfl]; omega)
              · (try simp only [ByteArray.size_append, oneB_size]); omega
            have KY := Lib.hid key
            clear key he hw
            clear h1 h2
            go_wp2
            go_round
            case rel => exact ⟨j + 1, cs ++ [cc], _, _, by omega, by simp [hcs], by go_num, rfl, rfl, KY.out.2.2.1, KY.out.2.2.2, KY.out.1, KY.out.2.1⟩
            case measure => simp [intOf]; omega
          · have t3 : ((cc.toNat : Int) == 10) = false := by simp; omega
            by_cases h3 : cc.toNat = 9
            · have he : enc cc = [92, 116] := by unfold enc; rw [if_neg h1, if_neg h2, if_pos h3]
              have hw : wnt cc = [cc] := by unfold wnt; rw [if_neg (by omega)]
              have t4 : ((cc.toNat : Int) == 9) = true := by simp [h3]
              have key : Hid ((t ++ ⟨#[92, 116]⟩).data.toList = 34 :: encs (cs ++ [cc])) ∧ Hid ((u ++ oneB cc).data.toList = wnts (cs ++ [cc])) ∧ (t ++ ⟨#[92, 116]⟩).size ≤ 1 + 2 * (j + 1) ∧ (u ++ oneB cc).size ≤ j + 1 := by
                refine ⟨?_, ?_, ?_, ?_⟩
                · unfold Hid; rw [encs_snoc]; (simp only [cat_bytes, oneB_list, ht.out, he]) <;> simp
                · unfold Hid; rw [wnts_snoc]; (simp only [cat_bytes, oneB_list, hu.out, hw]) <;> simp
                · (try simp only [ByteArray.size_append, oneB_size]); first | omega | (simp only [show (⟨#[92]⟩ : ByteArray).size = 1 from rfl]; omega) | (simp only [show (⟨#[92, 110]⟩ : ByteArray).size = 2 from rfl]; omega) | (simp only [show (⟨#[92, 116]⟩ : ByteArray).size = 2 from rfl]; omega)
                · (try simp only [ByteArray.size_append, oneB_size]); omega
              have KY := Lib.hid key
              clear key he hw
              clear h1 h2 h3
              go_wp2
              go_round
              case rel => exact ⟨j + 1, cs ++ [cc], _, _, by omega, by simp [hcs], by go_num, rfl, rfl, KY.out.2.2.1, KY.out.2.2.2, KY.out.1, KY.out.2.1⟩
              case measure => simp [intOf]; omega
            · have t4 : ((cc.toNat : Int) == 9) = false := by simp; omega
              by_cases h4 : cc.toNat < 32
              · have he : enc cc = [] := by unfold enc; rw [if_neg h1, if_neg h2, if_neg h3, if_pos h4]
                have hw : wnt cc = [] := by unfold wnt; rw [if_pos ⟨h4, h2, h3⟩]
                have key : Hid ((t).data.toList = 34 :: encs (cs ++ [cc])) ∧ Hid ((u).data.toList = wnts (cs ++ [cc])) ∧ (t).size ≤ 1 + 2 * (j + 1) ∧ (u).size ≤ j + 1 := by
                  refine ⟨?_, ?_, ?_, ?_⟩
                  · unfold Hid; rw [encs_snoc]; (simp only [cat_bytes, oneB_list, ht.out, he]) <;> simp
                  · unfold Hid; rw [wnts_snoc]; (simp only [cat_bytes, oneB_list, hu.out, hw]) <;> simp
                  · (try simp only [ByteArray.size_append, oneB_size]); first | omega | (simp only [show (⟨#[92]⟩ : ByteArray).size = 1 from rfl]; omega) | (simp only [show (⟨#[92, 110]⟩ : ByteArray).size = 2 from rfl]; omega) | (simp only [show (⟨#[92, 116]⟩ : ByteArray).size = 2 from rfl]; omega)
                  · (try simp only [ByteArray.size_append, oneB_size]); omega
                have KY := Lib.hid key
                clear key he hw
                have h4' : (cc.toNat : Int) < 32 := by omega
                clear h1 h2 h3 h4
                go_wp2
                go_round
                case rel => exact ⟨j + 1, cs ++ [cc], _, _, by omega, by simp [hcs], by go_num, rfl, rfl, KY.out.2.2.1, KY.out.2.2.2, KY.out.1, KY.out.2.1⟩
                case measure => simp [intOf]; omega
              · have he : enc cc = [cc] := by unfold enc; rw [if_neg h1, if_neg h2, if_neg h3, if_neg h4]
                have hw : wnt cc = [cc] := by unfold wnt; rw [if_neg (by omega)]
                have key : Hid ((t ++ oneB cc).data.toList = 34 :: encs (cs ++ [cc])) ∧ Hid ((u ++ oneB cc).data.toList = wnts (cs ++ [cc])) ∧ (t ++ oneB cc).size ≤ 1 + 2 * (j + 1) ∧ (u ++ oneB cc).size ≤ j + 1 := by
                  refine ⟨?_, ?_, ?_, ?_⟩
                  · unfold Hid; rw [encs_snoc]; (simp only [cat_bytes, oneB_list, ht.out, he]) <;> simp
                  · unfold Hid; rw [wnts_snoc]; (simp only [cat_bytes, oneB_list, hu.out, hw]) <;> simp
                  · (try simp only [ByteArray.size_append, oneB_size]); first | omega | (simp only [show (⟨#[92]⟩ : ByteArray).size = 1 from rfl]; omega) | (simp only [show (⟨#[92, 110]⟩ : ByteArray).size = 2 from rfl]; omega) | (simp only [show (⟨#[92, 116]⟩ : ByteArray).size = 2 from rfl]; omega)
                  · (try simp only [ByteArray.size_append, oneB_size]); omega
                have KY := Lib.hid key
                clear key he hw
                have h4' : ¬ (cc.toNat : Int) < 32 := by omega
                clear h1 h2 h3 h4
                go_wp2
                go_round
                case rel => exact ⟨j + 1, cs ++ [cc], _, _, by omega, by simp [hcs], by go_num, rfl, rfl, KY.out.2.2.1, KY.out.2.2.2, KY.out.1, KY.out.2.1⟩
                case measure => simp [intOf]; omega
      · have hjm : j = 200 := by omega
        have hres : ((⟨#[32]⟩ ++ t) ++ ⟨#[34, 32]⟩ : ByteArray).data.toList = [32] ++ (34 :: encs cs) ++ [34, 32] := by
          rw [cat_bytes, cat_bytes, ht.out]
        have hsz : ((⟨#[32]⟩ ++ t) ++ ⟨#[34, 32]⟩ : ByteArray).size ≤ 500 := by rw [ByteArray.size_append, ByteArray.size_append]; show 1 + _ + 2 ≤ _; omega
        have hsz1 : (⟨#[32]⟩ ++ t : ByteArray).size ≤ 500 := by rw [ByteArray.size_append]; show 1 + _ ≤ _; omega
        have hb := HB.out
        have cT := Tokens_any ((⟨#[32]⟩ ++ t) ++ ⟨#[34, 32]⟩) w1 (by unfold maxLen; omega) (HT.out.below hb).1 (HT.out.below hb).2
        unfold ToksPost at cT
        rw [hres, str_toks cs (by omega)] at cT
        have heq := eta2 _ _ hu.out
        have HE := Lib.hid heq; have CT := Lib.hid cT
        clear cT hres heq ht hu HG HT hlt
        go_wp2_with fail
        (with_reducible refine CT.out.mono ?_)
        rintro e w2 ⟨hb2, v, rfl, ho⟩
        obtain ⟨g1, c1, rfl, hg1, hg1w⟩ := row_some ho (by simp)
        obtain ⟨r1, r2, _, r4⟩ := row_at ho 0 (by simp)
        simp only [List.getElem_cons_zero, Nat.zero_mul, Nat.zero_add] at r1 r2 r4
        rw [HE.out] at r2
        have hb3 := hb.trans (hb2.mono hb.size)
        clear ho hb2 CT
        go_wp2
        go_ret
        exact ⟨rfl, hb3⟩
  · have h200' : ¬ (200 : Int) < len := by omega
    go_enter Tryd.func7, Tryd.ntmps7
    go_wp2_with (go_at_call 12; (with_reducible refine HK.out.mono ?_); rintro e w1 ⟨rfl, hb⟩)
    have HB := Lib.hid hb; clear hb HK
    go_loop [3, 4, 5, 6] (fun sv uv kv _ => ∃ (j : Nat) (cs : List UInt8) (t u : ByteArray), j ≤ len ∧ cs.length = j ∧ kv = .int .i64 j ∧ sv = .string t ∧ uv = .string u ∧ t.size ≤ 1 + 2 * j ∧ u.size ≤ j ∧ Hid (t.data.toList = 34 :: encs cs) ∧ Hid (u.data.toList = wnts cs)) (fun _ _ kv _ => len - (intOf kv).toNat)
    case atStart => exact ⟨0, [], _, _, Nat.zero_le _, rfl, rfl, rfl, rfl, by simp [ByteArray.size], by simp [ByteArray.size], rfl, rfl⟩
    case round =>
      obtain ⟨j, cs, t, u, hj, hcs, rfl, rfl, rfl, hts, hus, ht, hu⟩ := hrel
      by_cases hlt : j < len
      · obtain ⟨bb, off, rfl, hbl, hc⟩ := HG.out (by omega)
        have hcj := (HB.out.cell (p := ⟨bb, off + j, none⟩) hbl).trans (hc j (by omega))
        have hjl : (j : Int) < len := by omega
        have hjc : (j : Int) + 1 ≤ cap := by omega
        have hj200 : (j : Int) < 200 := by omega
        generalize g j = cc at *
        have hcv := fun c => conv_one w1 bb (off + j) c cc hcj
        have hq1 : (t ++ ⟨#[92]⟩ : ByteArray).size ≤ 500 := by rw [ByteArray.size_append]; show _ + 1 ≤ _; omega
        have hq2 : (oneB cc).size ≤ 1 := Nat.le_refl _
        have h255 : (cc.toNat : Int) ≤ 255 := by have := cc.toNat_lt; omega
        clear hc
        by_cases h1 : cc.toNat = 34 ∨ cc.toNat = 92
        · have he : enc cc = [92, cc] := by unfold enc; rw [if_pos h1]
          have hw : wnt cc = [cc] := by unfold wnt; rw [if_neg (by omega)]
          have key : Hid ((t ++ ⟨#[92]⟩ ++ oneB cc).data.toList = 34 :: encs (cs ++ [cc])) ∧ Hid ((u ++ oneB cc).data.toList = wnts (cs ++ [cc])) ∧ (t ++ ⟨#[92]⟩ ++ oneB cc).size ≤ 1 + 2 * (j + 1) ∧ (u ++ oneB cc).size ≤ j + 1 := by
            refine ⟨?_, ?_, ?_, ?_⟩
            · unfold Hid; rw [encs_snoc]; (simp only [cat_bytes, oneB_list, ht.out, he]) <;> simp
            · unfold Hid; rw [wnts_snoc]; (simp only [cat_bytes, oneB_list, hu.out, hw]) <;> simp
            · (try simp only [ByteArray.size_append, oneB_size]); first | omega | (simp only [show (⟨#[92]⟩ : ByteArray).size = 1 from rfl]; omega) | (simp only [show (⟨#[92, 110]⟩ : ByteArray).size = 2 from rfl]; omega) | (simp only [show (⟨#[92, 116]⟩ : ByteArray).size = 2 from rfl]; omega)
            · (try simp only [ByteArray.size_append, oneB_size]); omega
          have KY := Lib.hid key
          clear key he hw
          rcases h1 with h1 | h1
          · have t1 : ((cc.toNat : Int) == 34) = true := by simp [h1]
            clear h1
            go_wp2
            go_round
            case rel => exact ⟨j + 1, cs ++ [cc], _, _, by omega, by simp [hcs], by go_num, rfl, rfl, KY.out.2.2.1, KY.out.2.2.2, KY.out.1, KY.out.2.1⟩
            case measure => simp [intOf]; omega
          · have t1 : ((cc.toNat : Int) == 34) = false := by simp; omega
            have t2 : ((cc.toNat : Int) == 92) = true := by simp [h1]
            clear h1
            go_wp2
            go_round
            case rel => exact ⟨j + 1, cs ++ [cc], _, _, by omega, by simp [hcs], by go_num, rfl, rfl, KY.out.2.2.1, KY.out.2.2.2, KY.out.1, KY.out.2.1⟩
            case measure => simp [intOf]; omega
        · have t1 : ((cc.toNat : Int) == 34) = false := by simp; omega
          have t2 : ((cc.toNat : Int) == 92) = false := by simp; omega
          by_cases h2 : cc.toNat = 10
          · have he : enc cc = [92, 110] := by unfold enc; rw [if_neg h1, if_pos h2]
            have hw : wnt cc = [cc] := by unfold wnt; rw [if_neg (by omega)]
            have t3 : ((cc.toNat : Int) == 10) = true := by simp [h2]
            have key : Hid ((t ++ ⟨#[92, 110]⟩).data.toList = 34 :: encs (cs ++ [cc])) ∧ Hid ((u ++ oneB cc).data.toList = wnts (cs ++ [cc])) ∧ (t ++ ⟨#[92, 110]⟩).size ≤ 1 + 2 * (j + 1) ∧ (u ++ oneB cc).size ≤ j + 1 := by
              refine ⟨?_, ?_, ?_, ?_⟩
              · unfold Hid; rw [encs_snoc]; (simp only [cat_bytes, oneB_list, ht.out, he]) <;> simp
              · unfold Hid; rw [wnts_snoc]; (simp only [cat_bytes, oneB_list, hu.out, hw]) <;> simp
              · (try simp only [ByteArray.size_append, oneB_size]); first | omega | (simp only [show (⟨#[92]⟩ : ByteArray).size = 1 from rfl]; omega) | (simp only [show (⟨#[92, 110]⟩ : ByteArray).size = 2 from rfl]; omega) | (simp only [show (⟨#[92, 116]⟩ : ByteArray).size = 2 from rfl]; omega)
              · (try simp only [ByteArray.size_append, oneB_size]); omega
            have KY := Lib.hid key
            clear key he hw
            clear h1 h2
            go_wp2
            go_round
            case rel => exact ⟨j + 1, cs ++ [cc], _, _, by omega, by simp [hcs], by go_num, rfl, rfl, KY.out.2.2.1, KY.out.2.2.2, KY.out.1, KY.out.2.1⟩
            case measure => simp [intOf]; omega
          · have t3 : ((cc.toNat : Int) == 10) = false := by simp; omega
            by_cases h3 : cc.toNat = 9
            · have he : enc cc = [92, 116] := by unfold enc; rw [if_neg h1, if_neg h2, if_pos h3]
              have hw : wnt cc = [cc] := by unfold wnt; rw [if_neg (by omega)]
              have t4 : ((cc.toNat : Int) == 9) = true := by simp [h3]
              have key : Hid ((t ++ ⟨#[92, 116]⟩).data.toList = 34 :: encs (cs ++ [cc])) ∧ Hid ((u ++ oneB cc).data.toList = wnts (cs ++ [cc])) ∧ (t ++ ⟨#[92, 116]⟩).size ≤ 1 + 2 * (j + 1) ∧ (u ++ oneB cc).size ≤ j + 1 := by
                refine ⟨?_, ?_, ?_, ?_⟩
                · unfold Hid; rw [encs_snoc]; (simp only [cat_bytes, oneB_list, ht.out, he]) <;> simp
                · unfold Hid; rw [wnts_snoc]; (simp only [cat_bytes, oneB_list, hu.out, hw]) <;> simp
                · (try simp only [ByteArray.size_append, oneB_size]); first | omega | (simp only [show (⟨#[92]⟩ : ByteArray).size = 1 from rfl]; omega) | (simp only [show (⟨#[92, 110]⟩ : ByteArray).size = 2 from rfl]; omega) | (simp only [show (⟨#[92, 116]⟩ : ByteArray).size = 2 from rfl]; omega)
                · (try simp only [ByteArray.size_append, oneB_size]); omega
              have KY := Lib.hid key
              clear key he hw
              clear h1 h2 h3
              go_wp2
              go_round
              case rel => exact ⟨j + 1, cs ++ [cc], _, _, by omega, by simp [hcs], by go_num, rfl, rfl, KY.out.2.2.1, KY.out.2.2.2, KY.out.1, KY.out.2.1⟩
              case measure => simp [intOf]; omega
            · have t4 : ((cc.toNat : Int) == 9) = false := by simp; omega
              by_cases h4 : cc.toNat < 32
              · have he : enc cc = [] := by unfold enc; rw [if_neg h1, if_neg h2, if_neg h3, if_pos h4]
                have hw : wnt cc = [] := by unfold wnt; rw [if_pos ⟨h4, h2, h3⟩]
                have key : Hid ((t).data.toList = 34 :: encs (cs ++ [cc])) ∧ Hid ((u).data.toList = wnts (cs ++ [cc])) ∧ (t).size ≤ 1 + 2 * (j + 1) ∧ (u).size ≤ j + 1 := by
                  refine ⟨?_, ?_, ?_, ?_⟩
                  · unfold Hid; rw [encs_snoc]; (simp only [cat_bytes, oneB_list, ht.out, he]) <;> simp
                  · unfold Hid; rw [wnts_snoc]; (simp only [cat_bytes, oneB_list, hu.out, hw]) <;> simp
                  · (try simp only [ByteArray.size_append, oneB_size]); first | omega | (simp only [show (⟨#[92]⟩ : ByteArray).size = 1 from rfl]; omega) | (simp only [show (⟨#[92, 110]⟩ : ByteArray).size = 2 from rfl]; omega) | (simp only [show (⟨#[92, 116]⟩ : ByteArray).size = 2 from rfl]; omega)
                  · (try simp only [ByteArray.size_append, oneB_size]); omega
                have KY := Lib.hid key
                clear key he hw
                have h4' : (cc.toNat : Int) < 32 := by omega
                clear h1 h2 h3 h4
                go_wp2
                go_round
                case rel => exact ⟨j + 1, cs ++ [cc], _, _, by omega, by simp [hcs], by go_num, rfl, rfl, KY.out.2.2.1, KY.out.2.2.2, KY.out.1, KY.out.2.1⟩
                case measure => simp [intOf]; omega
              · have he : enc cc = [cc] := by unfold enc; rw [if_neg h1, if_neg h2, if_neg h3, if_neg h4]
                have hw : wnt cc = [cc] := by unfold wnt; rw [if_neg (by omega)]
                have key : Hid ((t ++ oneB cc).data.toList = 34 :: encs (cs ++ [cc])) ∧ Hid ((u ++ oneB cc).data.toList = wnts (cs ++ [cc])) ∧ (t ++ oneB cc).size ≤ 1 + 2 * (j + 1) ∧ (u ++ oneB cc).size ≤ j + 1 := by
                  refine ⟨?_, ?_, ?_, ?_⟩
                  · unfold Hid; rw [encs_snoc]; (simp only [cat_bytes, oneB_list, ht.out, he]) <;> simp
                  · unfold Hid; rw [wnts_snoc]; (simp only [cat_bytes, oneB_list, hu.out, hw]) <;> simp
                  · (try simp only [ByteArray.size_append, oneB_size]); first | omega | (simp only [show (⟨#[92]⟩ : ByteArray).size = 1 from rfl]; omega) | (simp only [show (⟨#[92, 110]⟩ : ByteArray).size = 2 from rfl]; omega) | (simp only [show (⟨#[92, 116]⟩ : ByteArray).size = 2 from rfl]; omega)
                  · (try simp only [ByteArray.size_append, oneB_size]); omega
                have KY := Lib.hid key
                clear key he hw
                have h4' : ¬ (cc.toNat : Int) < 32 := by omega
                clear h1 h2 h3 h4
                go_wp2
                go_round
                case rel => exact ⟨j + 1, cs ++ [cc], _, _, by omega, by simp [hcs], by go_num, rfl, rfl, KY.out.2.2.1, KY.out.2.2.2, KY.out.1, KY.out.2.1⟩
                case measure => simp [intOf]; omega
      · have hjm : j = len := by omega
        have hres : ((⟨#[32]⟩ ++ t) ++ ⟨#[34, 32]⟩ : ByteArray).data.toList = [32] ++ (34 :: encs cs) ++ [34, 32] := by
          rw [cat_bytes, cat_bytes, ht.out]
        have hsz : ((⟨#[32]⟩ ++ t) ++ ⟨#[34, 32]⟩ : ByteArray).size ≤ 500 := by rw [ByteArray.size_append, ByteArray.size_append]; show 1 + _ + 2 ≤ _; omega
        have hsz1 : (⟨#[32]⟩ ++ t : ByteArray).size ≤ 500 := by rw [ByteArray.size_append]; show 1 + _ ≤ _; omega
        have hb := HB.out
        have cT := Tokens_any ((⟨#[32]⟩ ++ t) ++ ⟨#[34, 32]⟩) w1 (by unfold maxLen; omega) (HT.out.below hb).1 (HT.out.below hb).2
        unfold ToksPost at cT
        rw [hres, str_toks cs (by omega)] at cT
        have heq := eta2 _ _ hu.out
        have HE := Lib.hid heq; have CT := Lib.hid cT
        clear cT hres heq ht hu HG HT hlt
        go_wp2_with fail
        (with_reducible refine CT.out.mono ?_)
        rintro e w2 ⟨hb2, v, rfl, ho⟩
        obtain ⟨g1, c1, rfl, hg1, hg1w⟩ := row_some ho (by simp)
        obtain ⟨r1, r2, _, r4⟩ := row_at ho 0 (by simp)
        simp only [List.getElem_cons_zero, Nat.zero_mul, Nat.zero_add] at r1 r2 r4
        rw [HE.out] at r2
        have hb3 := hb.trans (hb2.mono hb.size)
        clear ho hb2 CT
        go_wp2
        go_ret
        exact ⟨rfl, hb3⟩
end Sc
end Go.Proofs.YtaillpnjknnhdaaDoor
