/- ScanNames: the walk. -/
import Derived.Test.YtaillpnjknnhdaaDoorLits
import Derived.Test.YtaillpnjknnhdaaDoorNamesP
namespace Go.Proofs.YtaillpnjknnhdaaDoor
open Go.RowKit
namespace Sc

theorem nm_cut (n : Nat) (h : n < 7) : ((⟨#[97, 90, 95, 48, 57, 120, 66]⟩ : ByteArray).extract n (n + 1)).data.toList = [nm n] := by
  match n, h with
  | 0, _ => decide
  | 1, _ => decide
  | 2, _ => decide
  | 3, _ => decide
  | 4, _ => decide
  | 5, _ => decide
  | 6, _ => decide
theorem nm_cut_size (n : Nat) (h : n < 7) : ((⟨#[97, 90, 95, 48, 57, 120, 66]⟩ : ByteArray).extract n (n + 1)).size = 1 := by
  rw [← bytes_len, nm_cut n h]; rfl

theorem eta (s : ByteArray) : (⟨s.data.toList.toArray⟩ : ByteArray) = s := by cases s; simp

set_option maxRecDepth 100000 in
set_option maxHeartbeats 4000000 in
theorem names_any (ad : Option Addr) (len cap : Nat) (zs : List Int) (w : World) (hT : Tabs w) (hR : IsRow .i64 w ad len cap zs) :
    Calls Tryd.prog 11 #[.slice ad len cap] w fun e w' => e = .returned (.bool true) ∧ Below w.heap.size w w' := by
  have hI := ints_of_row hR
  generalize (fun i => zs.getD i 0) = f at hI
  have hlen := hI.1
  unfold maxLen at hlen
  have cK := known_any w hT
  have HI := Lib.hid hI; have HT := Lib.hid hT; have HK := Lib.hid cK
  clear hI hT cK hR
  go_enter Tryd.func11, Tryd.ntmps11
  go_wp2_with (go_at_call 12; (with_reducible refine HK.out.mono ?_); rintro e w1 ⟨rfl, hb⟩)
  have HB := Lib.hid hb; clear hb HK
  go_loop [4, 5] (fun sv kv => ∃ (j : Nat) (t : ByteArray), j ≤ len ∧ j ≤ 16 ∧ kv = .int .i64 j ∧ sv = .string t ∧ t.size = j ∧ Hid (NameL t.data.toList)) (fun _ kv => len - (intOf kv).toNat)
  case atStart => exact ⟨0, _, Nat.zero_le _, by omega, rfl, rfl, rfl, ⟨fun c h => by simp at h, fun c h => by simp at h⟩⟩
  case round =>
    obtain ⟨j, t, hj, hj16, rfl, rfl, hts, ht⟩ := hrel
    by_cases hlt : j < len
    · by_cases h16 : j < 16
      · obtain ⟨bb, off, rfl, hbl, hc⟩ := HI.out.2 (by omega)
        have hcj := (HB.out.cell (p := ⟨bb, off + j, none⟩) hbl).trans (hc j hlt).1
        have hwf := bounds_i64 (hc j hlt).2
        have h7 := Int.emod_nonneg (f j) (show (7 : Int) ≠ 0 by omega)
        have h7' := Int.emod_lt_of_pos (f j) (show (0 : Int) < 7 by omega)
        obtain ⟨n, hn⟩ : ∃ n : Nat, f j % 7 = n := ⟨(f j % 7).toNat, by omega⟩
        have cW := fun w => within_any (f j) 7 w (by omega) (by omega) hwf.1 hwf.2
        rw [hn] at cW h7 h7'
        have HW := Lib.hid cW
        generalize f j = fj at *
        clear hc cW hwf hn
        have key : ∀ n' : Nat, n' < 7 → (j = 0 → isL (nm n') = true) → Hid (NameL ((t ++ (⟨#[97, 90, 95, 48, 57, 120, 66]⟩ : ByteArray).extract n' (n' + 1)).data.toList) ∧ (t ++ (⟨#[97, 90, 95, 48, 57, 120, 66]⟩ : ByteArray).extract n' (n' + 1)).size = j + 1) := by
          intro n' hn' h0
          refine ⟨?_, by rw [ByteArray.size_append, nm_cut_size n' hn', hts]⟩
          rw [cat_bytes, nm_cut n' hn']
          refine ht.out.snoc _ (nm_ok n') (fun e => h0 ?_)
          rw [← hts, ← bytes_len, e]; rfl
        by_cases hz : j = 0 ∧ (n = 3 ∨ n = 4)
        · have KY := Lib.hid (key 0 (by omega) (fun _ => by decide))
          obtain ⟨hj0, hn34⟩ := hz
          have tj : ((j : Int) == 0) = true := by simp [hj0]
          clear hj0
          rcases hn34 with rfl | rfl
          all_goals
            clear key
            go_wp2_with (go_at_call 14; (with_reducible refine (HW.out _).mono ?_); rintro e w' ⟨rfl, rfl⟩)
            go_round
            case rel => exact ⟨j + 1, _, by omega, by omega, by go_num, rfl, KY.out.out.2, KY.out.out.1⟩
            case measure => simp [intOf]; omega
        · have KY := Lib.hid (key n (by omega) (fun e => nm_letter n (fun h => hz ⟨e, Or.inl h⟩) (fun h => hz ⟨e, Or.inr h⟩)))
          clear key
          have hcs := nm_cut_size n (by omega)
          by_cases hj0 : j = 0
          · have tj : ((j : Int) == 0) = true := by simp [hj0]
            have t3 : ((n : Int) == 3) = false := by simp; omega
            have t4 : ((n : Int) == 4) = false := by simp; omega
            clear hz hj0
            go_wp2_with (go_at_call 14; (with_reducible refine (HW.out _).mono ?_); rintro e w' ⟨rfl, rfl⟩)
            go_round
            case rel => exact ⟨j + 1, _, by omega, by omega, by go_num, rfl, KY.out.out.2, KY.out.out.1⟩
            case measure => simp [intOf]; omega
          · have tj : ((j : Int) == 0) = false := by simp; omega
            clear hz hj0
            go_wp2_with (go_at_call 14; (with_reducible refine (HW.out _).mono ?_); rintro e w' ⟨rfl, rfl⟩)
            go_round
            case rel => exact ⟨j + 1, _, by omega, by omega, by go_num, rfl, KY.out.out.2, KY.out.out.1⟩
            case measure => simp [intOf]; omega
      · have hj6 : j = 16 := by omega
        have hts6 : t.size = 16 := by omega
        clear hj6
        have he := toList_isEmpty t
        have hb := HB.out
        by_cases hz : t.size = 0
        · rw [decide_eq_true hz] at he
          have l0 : t.data.toList = [] := List.eq_nil_of_length_eq_zero (by rw [bytes_len]; exact hz)
          have cI := Ident_any t w1 (by unfold maxLen; omega)
          rw [l0, show identB [] = false from rfl] at cI
          have HC := Lib.hid cI
          clear cI l0 hz
          go_wp2_with (go_at_call 18; (with_reducible refine HC.out.mono ?_); rintro e w2 ⟨rfl, hb2⟩)
          go_ret
          exact ⟨rfl, hb.trans (hb2.mono hb.size)⟩
        · rw [decide_eq_false hz] at he
          have hl0 : 0 < t.data.toList.length := by rw [bytes_len]; omega
          have hl16 : t.data.toList.length ≤ 16 := by rw [bytes_len]; omega
          have hts16 : t.size ≤ 16 := by omega
          have cT := Tokens_any t w1 (by unfold maxLen; omega) (HT.out.below hb).1 (HT.out.below hb).2
          unfold ToksPost at cT
          rw [names_1 _ ht.out hl0 hl16] at cT
          have cU := fun w2 (hb2 : Below w.heap.size w w2) => Tokens_any (⟨#[52, 32]⟩ ++ t) w2 (by rw [ByteArray.size_append]; unfold maxLen; show 2 + _ ≤ _; omega) (HT.out.below hb2).1 (HT.out.below hb2).2
          unfold ToksPost at cU
          rw [cat_bytes, show (⟨#[52, 32]⟩ : ByteArray).data.toList = [52, 32] from rfl] at cU
          simp only [names_2 _ ht.out hl0 hl16] at cU
          have cI := fun w => Ident_any t w (by unfold maxLen; omega)
          rw [show identB t.data.toList = true from names_id _ ht.out hl0 hl16] at cI
          have cJ := fun w => Ident_any (⟨#[52]⟩ ++ t) w (by rw [ByteArray.size_append]; unfold maxLen; show 1 + _ ≤ _; omega)
          rw [cat_bytes, show (⟨#[52]⟩ : ByteArray).data.toList = [52] from rfl, show identB ([52] ++ t.data.toList) = false from names_no _] at cJ
          have CT := Lib.hid cT; have CU := Lib.hid cU; have CI := Lib.hid cI; have CJ := Lib.hid cJ
          clear cT cU cI cJ hl0 hl16 hz ht
          go_wp2_with fail
          (with_reducible refine CT.out.mono ?_)
          rintro e w2 ⟨hb2, v, rfl, ho⟩
          obtain ⟨g1, c1, rfl, hg1, hg1w⟩ := row_some ho (by simp)
          obtain ⟨r1, r2, _⟩ := row_at ho 0 (by simp)
          simp only [List.getElem_cons_zero, eta] at r1 r2
          have hb3 := hb.trans (hb2.mono hb.size)
          clear ho hb2
          go_wp2_with fail
          (with_reducible refine (CU.out w2 hb3).mono ?_)
          rintro e w3 ⟨hb4, v, rfl, ho⟩
          obtain ⟨g2, c2, rfl, hg2, hg2w⟩ := row_some ho (by simp)
          obtain ⟨_, _, y1, _⟩ := row_at ho 0 (by simp)
          simp only [List.getElem_cons_zero] at y1
          have r1' := (hb4.cell (p := ⟨g1, 0 * 4, none⟩) hg1w).trans r1
          have r2' := (hb4.cell (p := ⟨g1, 0 * 4 + 1, none⟩) hg1w).trans r2
          have hb5 := hb3.trans (hb4.mono hb3.size)
          simp only [Nat.zero_mul, Nat.zero_add] at r1' r2' y1
          clear ho hb4 r1 r2 hb3
          go_wp2_with (first
            | (go_at_call 18; (with_reducible refine (CI.out _).mono ?_); rintro e w4 ⟨rfl, hb6⟩; have y2 := (hb6.cell (p := ⟨g2, 2, none⟩) hg2w).trans y1; have hb7 := hb5.trans (hb6.mono hb5.size); clear hb6 y1 r1' r2')
            | (go_at_call 18; (with_reducible refine (CJ.out _).mono ?_); rintro e w5 ⟨rfl, hb8⟩; have hb9 := hb7.trans (hb8.mono hb7.size); clear hb8))
          go_ret
          exact ⟨rfl, hb9⟩
    · have hjl : j = len := by omega
      clear hlt
      have he := toList_isEmpty t
      have hb := HB.out
      by_cases hz : t.size = 0
      · rw [decide_eq_true hz] at he
        have l0 : t.data.toList = [] := List.eq_nil_of_length_eq_zero (by rw [bytes_len]; exact hz)
        have cI := Ident_any t w1 (by unfold maxLen; omega)
        rw [l0, show identB [] = false from rfl] at cI
        have HC := Lib.hid cI
        clear cI l0 hz
        go_wp2_with (go_at_call 18; (with_reducible refine HC.out.mono ?_); rintro e w2 ⟨rfl, hb2⟩)
        go_ret
        exact ⟨rfl, hb.trans (hb2.mono hb.size)⟩
      · rw [decide_eq_false hz] at he
        have hl0 : 0 < t.data.toList.length := by rw [bytes_len]; omega
        have hl16 : t.data.toList.length ≤ 16 := by rw [bytes_len]; omega
        have hts16 : t.size ≤ 16 := by omega
        have cT := Tokens_any t w1 (by unfold maxLen; omega) (HT.out.below hb).1 (HT.out.below hb).2
        unfold ToksPost at cT
        rw [names_1 _ ht.out hl0 hl16] at cT
        have cU := fun w2 (hb2 : Below w.heap.size w w2) => Tokens_any (⟨#[52, 32]⟩ ++ t) w2 (by rw [ByteArray.size_append]; unfold maxLen; show 2 + _ ≤ _; omega) (HT.out.below hb2).1 (HT.out.below hb2).2
        unfold ToksPost at cU
        rw [cat_bytes, show (⟨#[52, 32]⟩ : ByteArray).data.toList = [52, 32] from rfl] at cU
        simp only [names_2 _ ht.out hl0 hl16] at cU
        have cI := fun w => Ident_any t w (by unfold maxLen; omega)
        rw [show identB t.data.toList = true from names_id _ ht.out hl0 hl16] at cI
        have cJ := fun w => Ident_any (⟨#[52]⟩ ++ t) w (by rw [ByteArray.size_append]; unfold maxLen; show 1 + _ ≤ _; omega)
        rw [cat_bytes, show (⟨#[52]⟩ : ByteArray).data.toList = [52] from rfl, show identB ([52] ++ t.data.toList) = false from names_no _] at cJ
        have CT := Lib.hid cT; have CU := Lib.hid cU; have CI := Lib.hid cI; have CJ := Lib.hid cJ
        clear cT cU cI cJ hl0 hl16 hz ht
        go_wp2_with fail
        (with_reducible refine CT.out.mono ?_)
        rintro e w2 ⟨hb2, v, rfl, ho⟩
        obtain ⟨g1, c1, rfl, hg1, hg1w⟩ := row_some ho (by simp)
        obtain ⟨r1, r2, _⟩ := row_at ho 0 (by simp)
        simp only [List.getElem_cons_zero, eta] at r1 r2
        have hb3 := hb.trans (hb2.mono hb.size)
        clear ho hb2
        go_wp2_with fail
        (with_reducible refine (CU.out w2 hb3).mono ?_)
        rintro e w3 ⟨hb4, v, rfl, ho⟩
        obtain ⟨g2, c2, rfl, hg2, hg2w⟩ := row_some ho (by simp)
        obtain ⟨_, _, y1, _⟩ := row_at ho 0 (by simp)
        simp only [List.getElem_cons_zero] at y1
        have r1' := (hb4.cell (p := ⟨g1, 0 * 4, none⟩) hg1w).trans r1
        have r2' := (hb4.cell (p := ⟨g1, 0 * 4 + 1, none⟩) hg1w).trans r2
        have hb5 := hb3.trans (hb4.mono hb3.size)
        simp only [Nat.zero_mul, Nat.zero_add] at r1' r2' y1
        clear ho hb4 r1 r2 hb3
        go_wp2_with (first
          | (go_at_call 18; (with_reducible refine (CI.out _).mono ?_); rintro e w4 ⟨rfl, hb6⟩; have y2 := (hb6.cell (p := ⟨g2, 2, none⟩) hg2w).trans y1; have hb7 := hb5.trans (hb6.mono hb5.size); clear hb6 y1 r1' r2')
          | (go_at_call 18; (with_reducible refine (CJ.out _).mono ?_); rintro e w5 ⟨rfl, hb8⟩; have hb9 := hb7.trans (hb8.mono hb7.size); clear hb8))
        go_ret
        exact ⟨rfl, hb9⟩
end Sc
end Go.Proofs.YtaillpnjknnhdaaDoor
