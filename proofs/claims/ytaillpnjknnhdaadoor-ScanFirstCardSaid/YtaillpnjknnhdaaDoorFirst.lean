/- ScanFirst: the walk. -/
import Derived.Test.YtaillpnjknnhdaaDoorLits
import Derived.Test.YtaillpnjknnhdaaDoorFirstP
import Derived.Deep.RegionHeld3
namespace Go.Proofs.YtaillpnjknnhdaaDoor
open Go.RowKit
namespace Sc

def chB (n : Nat) : ByteArray := ⟨(chA n).toArray⟩
def badBy (n : Nat) : ByteArray := ⟨(badL n).toArray⟩
theorem ch_cell (w : World) (t : TypeId) (n : Nat) (h : n < 5) : (w.alloc (.cells #[.string ⟨#[97, 32]⟩, .string ⟨#[49, 32]⟩, .string ⟨#[34, 113, 34, 32]⟩, .string ⟨#[46, 32]⟩, .string ⟨#[45, 62, 32]⟩] t)).cell? ⟨w.heap.size, n, none⟩ = some (.string (chB n)) := by
  rw [lit5 w _ _ _ _ _ t n h]
  match n, h with
  | 0, _ => rfl
  | 1, _ => rfl
  | 2, _ => rfl
  | 3, _ => rfl
  | 4, _ => rfl

/-- The memory of the law's loop: two slices written out, of errors' sources and of errors. -/
structure FMem (w : World) (g : Nat) (wr : World) : Prop where
  bel : Below w.heap.size w wr
  lo : w.heap.size ≤ g
  lt : g + 1 < wr.heap.size
  bads : ∀ n, n < 5 → wr.cell? ⟨g, n, none⟩ = some (.string (badBy n))
  errs : ∀ n, n < 5 → wr.cell? ⟨g + 1, n, none⟩ = some (.int .i64 (badE n))
theorem FMem.same {w wr w' : World} {g : Nat} (h : FMem w g wr) (hb : Below wr.heap.size wr w') : FMem w g w' where
  bel := h.bel.trans (hb.mono h.bel.size)
  lo := h.lo
  lt := Nat.lt_of_lt_of_le h.lt hb.size
  bads := fun n hn => (hb.cell (p := ⟨g, n, none⟩) (Nat.lt_of_succ_lt h.lt)).trans (h.bads n hn)
  errs := fun n hn => (hb.cell (p := ⟨g + 1, n, none⟩) h.lt).trans (h.errs n hn)
theorem FMem.start {w w1 : World} (hb : Below w.heap.size w w1) (t1 t2 : TypeId) : FMem w w1.heap.size ((w1.alloc (.cells #[.string ⟨#[35]⟩, .string ⟨#[97, 98, 99, 100, 101, 102, 103, 104, 105, 106, 107, 108, 109, 110, 111, 112, 113, 114]⟩, .string ⟨#[34, 92, 113, 34]⟩, .string ⟨#[57, 57, 57, 57, 57, 57, 57, 57, 57, 57, 57, 57, 57, 57, 57, 57, 57, 57, 57, 57]⟩, .string ⟨#[57, 50, 50, 51, 51, 55, 50, 48, 51, 54, 56, 53, 52, 55, 55, 53, 56, 48, 56]⟩] t1)).alloc (.cells #[.int .i64 11, .int .i64 4, .int .i64 11, .int .i64 4, .int .i64 11] t2)) where
  bel := (hb.alloc hb.size _).alloc (by simp; have := hb.size; omega) _
  lo := hb.size
  lt := by simp
  bads := fun n hn => by
    rw [World.cell?_alloc_lt _ _ _ (by simp)]
    rw [lit5 w1 _ _ _ _ _ t1 n hn]
    match n, hn with
    | 0, _ => rfl
    | 1, _ => rfl
    | 2, _ => rfl
    | 3, _ => rfl
    | 4, _ => rfl
  errs := fun n hn => by
    have h := lit5 (w1.alloc (.cells #[.string ⟨#[35]⟩, .string ⟨#[97, 98, 99, 100, 101, 102, 103, 104, 105, 106, 107, 108, 109, 110, 111, 112, 113, 114]⟩, .string ⟨#[34, 92, 113, 34]⟩, .string ⟨#[57, 57, 57, 57, 57, 57, 57, 57, 57, 57, 57, 57, 57, 57, 57, 57, 57, 57, 57, 57]⟩, .string ⟨#[57, 50, 50, 51, 51, 55, 50, 48, 51, 54, 56, 53, 52, 55, 55, 53, 56, 48, 56]⟩] t1)) (.int .i64 11) (.int .i64 4) (.int .i64 11) (.int .i64 4) (.int .i64 11) t2 n hn
    rw [World.size_alloc] at h
    rw [h]
    match n, hn with
    | 0, _ => rfl
    | 1, _ => rfl
    | 2, _ => rfl
    | 3, _ => rfl
    | 4, _ => rfl

set_option maxRecDepth 100000 in
set_option maxHeartbeats 2000000 in
theorem first_any (ad : Option Addr) (len cap : Nat) (zs : List Int) (a b : Int) (w : World) (hT : Tabs w) (hR : IsRow .i64 w ad len cap zs) (ha1 : -9223372036854775808 ≤ a) (ha2 : a ≤ 9223372036854775807) (hb1 : -9223372036854775808 ≤ b) (hb2 : b ≤ 9223372036854775807) :
    Calls Tryd.prog 9 #[.slice ad len cap, .int .i64 a, .int .i64 b] w fun e w' => e = .returned (.bool true) ∧ Below w.heap.size w w' := by
  have hI := ints_of_row hR
  generalize (fun i => zs.getD i 0) = f at hI
  have hlen := hI.1
  unfold maxLen at hlen
  have cK := known_any w hT
  have cA := fun w => within_any a 5 w (by omega) (by omega) ha1 ha2
  have cB := fun w => within_any b 5 w (by omega) (by omega) hb1 hb2
  have a5 := Int.emod_nonneg a (show (5 : Int) ≠ 0 by omega)
  have a5' := Int.emod_lt_of_pos a (show (0 : Int) < 5 by omega)
  have b5 := Int.emod_nonneg b (show (5 : Int) ≠ 0 by omega)
  have b5' := Int.emod_lt_of_pos b (show (0 : Int) < 5 by omega)
  obtain ⟨na, hna⟩ : ∃ n : Nat, a % 5 = n := ⟨(a % 5).toNat, by omega⟩
  obtain ⟨nb, hnb⟩ : ∃ n : Nat, b % 5 = n := ⟨(b % 5).toNat, by omega⟩
  rw [hna] at cA a5 a5'
  rw [hnb] at cB b5 b5'
  have HI := Lib.hid hI; have HT := Lib.hid hT; have HK := Lib.hid cK; have HA := Lib.hid cA; have HBB := Lib.hid cB
  clear cA cB hna hnb ha1 ha2 hb1 hb2
  clear hI hT cK hR
  go_enter Tryd.func9, Tryd.ntmps9
  go_wp2_with (go_at_call 12; (with_reducible refine HK.out.mono ?_); rintro e w1 ⟨rfl, hb⟩)
  have HM := Lib.hid (FMem.start hb 9 28); clear hb HK
  have hw1 : w1.heap.size = w1.heap.size := rfl
  go_loopw [9, 10] (fun sv kv wr => ∃ (j : Nat) (ks : List Nat) (t : ByteArray), j ≤ len ∧ j ≤ 20 ∧ ks.length = j ∧ kv = .int .i64 j ∧ sv = .string t ∧ t.size ≤ 4 * j ∧ Hid (t.data.toList = chs ks) ∧ Hid (FMem w w1.heap.size wr)) (fun _ kv _ => len - (intOf kv).toNat)
  case atStart => exact ⟨0, [], _, Nat.zero_le _, by omega, rfl, rfl, rfl, by simp [ByteArray.size], rfl, HM⟩
  case round =>
    obtain ⟨j, ks, t, hj, hj20, hks, rfl, rfl, hts, ht, hm⟩ := hrel
    by_cases hlt : j < len
    · by_cases h20 : j < 20
      · obtain ⟨bb, off, rfl, hbl, hc⟩ := HI.out.2 (by omega)
        have hcj := (hm.out.bel.cell (p := ⟨bb, off + j, none⟩) hbl).trans (hc j hlt).1
        have hwf := bounds_i64 (hc j hlt).2
        have hbw := hm.out.bel.size
        have hbl2 : bb < wr.heap.size := by omega
        have h5 := Int.emod_nonneg (f j) (show (5 : Int) ≠ 0 by omega)
        have h5' := Int.emod_lt_of_pos (f j) (show (0 : Int) < 5 by omega)
        obtain ⟨n, hn⟩ : ∃ n : Nat, f j % 5 = n := ⟨(f j % 5).toNat, by omega⟩
        have cW := fun w => within_any (f j) 5 w (by omega) (by omega) hwf.1 hwf.2
        rw [hn] at cW h5 h5'
        have hch := ch_cell wr 9 n (by omega)
        have hcs : (chB n).size ≤ 4 := ch_len n
        have HW := Lib.hid cW
        generalize f j = fj at *
        clear hc cW hwf hn
        go_wp2_with (go_at_call 14; (with_reducible refine (HW.out _).mono ?_); rintro e w' ⟨rfl, rfl⟩)
        go_roundw
        case rel =>
          refine ⟨j + 1, ks ++ [n], _, by omega, by omega, by simp [hks], by go_num, rfl, ?_, ?_, ?_⟩
          · rw [ByteArray.size_append]; omega
          · unfold Hid; rw [cat_bytes, ht.out]; simp [chs, chB]
          · exact Lib.hid (hm.out.same ((Below.refl _ _).alloc (Nat.le_refl _) _))
        case measure => simp [intOf]; omega
      · have h20' : j = 20 := by omega
        clear h20
        have hfin := first_toks ks na nb (by omega)
        go_wp2_with fail
        (with_reducible refine (HA.out _).mono ?_); rintro e w' ⟨rfl, rfl⟩
        go_wp2_with fail
        (with_reducible refine (HBB.out _).mono ?_); rintro e w' ⟨rfl, rfl⟩
        have ba := hm.out.bads na (by omega)
        have bb := hm.out.bads nb (by omega)
        have hgl := hm.out.lt
        have hgd : w1.heap.size < wr.drew.heap.size := Nat.lt_of_succ_lt hgl
        go_wp2_with fail
        have hl1 := bad_len na
        have hl2 := bad_len nb
        have hs1 : (badBy na).size ≤ 20 := hl1.2
        have hs2 : (badBy nb).size ≤ 20 := hl2.2
        have hts2 : t.size ≤ 80 := by omega
        have hs3 : (t ++ badBy na).size ≤ 100 := by rw [ByteArray.size_append]; omega
        have hs4 : ((t ++ badBy na) ++ ⟨#[32]⟩).size ≤ 101 := by rw [ByteArray.size_append]; show _ + 1 ≤ _; omega
        have hs5 : (((t ++ badBy na) ++ ⟨#[32]⟩) ++ badBy nb).size ≤ 121 := by rw [ByteArray.size_append]; omega
        have e1 := fun w : World => run_string_add_sum (P := Tryd.prog) w t (badBy na) (by omega)
        have e2 := fun w : World => run_string_add_sum (P := Tryd.prog) w (t ++ badBy na) ⟨#[32]⟩ (by show _ + 1 ≤ _; omega)
        have e3 := fun w : World => run_string_add_sum (P := Tryd.prog) w ((t ++ badBy na) ++ ⟨#[32]⟩) (badBy nb) (by omega)
        have hres : (((t ++ badBy na) ++ ⟨#[32]⟩) ++ badBy nb).data.toList = chs ks ++ (badL na ++ (32 :: badL nb)) := by
          rw [cat_bytes, cat_bytes, cat_bytes, ht.out]; simp [badBy]
        have cT := Tokens_any (((t ++ badBy na) ++ ⟨#[32]⟩) ++ badBy nb) wr.drew (by unfold maxLen; omega) (HT.out.below hm.out.bel.drew).1 (HT.out.below hm.out.bel.drew).2
        unfold ToksPost at cT
        rw [hres, hfin] at cT
        have HC := Lib.hid cT
        clear hl1 hl2 cT hres hfin
        go_region_held3 (fun w' => w'.cell? ⟨w1.heap.size, na, none⟩ = some (.string (badBy na)) ∧ w'.cell? ⟨w1.heap.size, nb, none⟩ = some (.string (badBy nb))) (go_keep) (first | (go_at_call 15; (with_reducible refine HC.out.mono ?_); rintro e w2 ⟨hb2, v, rfl, hv⟩; have n1 := (hb2.cell (p := ⟨w1.heap.size, na, none⟩) hgd).trans ba; have n2 := (hb2.cell (p := ⟨w1.heap.size, nb, none⟩) hgd).trans bb))
        have hm2 := (hm.out.same ((Below.refl _ _).drew)).same hb2
        obtain ⟨sa, sc, rfl⟩ := own_slice hv
        have er := hm2.errs na (by omega)
        have hg2 := hm2.lt
        have HM2 := Lib.hid hm2
        clear hm2 hb2 hv HC e1 e2 e3 ba bb n1 n2 hgd
        go_wp2
        go_ret
        exact ⟨rfl, HM2.out.bel⟩
    · have hjl : j = len := by omega
      clear hlt
      have hfin := first_toks ks na nb (by omega)
      go_wp2_with fail
      (with_reducible refine (HA.out _).mono ?_); rintro e w' ⟨rfl, rfl⟩
      go_wp2_with fail
      (with_reducible refine (HBB.out _).mono ?_); rintro e w' ⟨rfl, rfl⟩
      have ba := hm.out.bads na (by omega)
      have bb := hm.out.bads nb (by omega)
      have hgl := hm.out.lt
      have hgd : w1.heap.size < wr.drew.heap.size := Nat.lt_of_succ_lt hgl
      go_wp2_with fail
      have hl1 := bad_len na
      have hl2 := bad_len nb
      have hs1 : (badBy na).size ≤ 20 := hl1.2
      have hs2 : (badBy nb).size ≤ 20 := hl2.2
      have hts2 : t.size ≤ 80 := by omega
      have hs3 : (t ++ badBy na).size ≤ 100 := by rw [ByteArray.size_append]; omega
      have hs4 : ((t ++ badBy na) ++ ⟨#[32]⟩).size ≤ 101 := by rw [ByteArray.size_append]; show _ + 1 ≤ _; omega
      have hs5 : (((t ++ badBy na) ++ ⟨#[32]⟩) ++ badBy nb).size ≤ 121 := by rw [ByteArray.size_append]; omega
      have e1 := fun w : World => run_string_add_sum (P := Tryd.prog) w t (badBy na) (by omega)
      have e2 := fun w : World => run_string_add_sum (P := Tryd.prog) w (t ++ badBy na) ⟨#[32]⟩ (by show _ + 1 ≤ _; omega)
      have e3 := fun w : World => run_string_add_sum (P := Tryd.prog) w ((t ++ badBy na) ++ ⟨#[32]⟩) (badBy nb) (by omega)
      have hres : (((t ++ badBy na) ++ ⟨#[32]⟩) ++ badBy nb).data.toList = chs ks ++ (badL na ++ (32 :: badL nb)) := by
        rw [cat_bytes, cat_bytes, cat_bytes, ht.out]; simp [badBy]
      have cT := Tokens_any (((t ++ badBy na) ++ ⟨#[32]⟩) ++ badBy nb) wr.drew (by unfold maxLen; omega) (HT.out.below hm.out.bel.drew).1 (HT.out.below hm.out.bel.drew).2
      unfold ToksPost at cT
      rw [hres, hfin] at cT
      have HC := Lib.hid cT
      clear hl1 hl2 cT hres hfin
      go_region_held3 (fun w' => w'.cell? ⟨w1.heap.size, na, none⟩ = some (.string (badBy na)) ∧ w'.cell? ⟨w1.heap.size, nb, none⟩ = some (.string (badBy nb))) (go_keep) (first | (go_at_call 15; (with_reducible refine HC.out.mono ?_); rintro e w2 ⟨hb2, v, rfl, hv⟩; have n1 := (hb2.cell (p := ⟨w1.heap.size, na, none⟩) hgd).trans ba; have n2 := (hb2.cell (p := ⟨w1.heap.size, nb, none⟩) hgd).trans bb))
      have hm2 := (hm.out.same ((Below.refl _ _).drew)).same hb2
      obtain ⟨sa, sc, rfl⟩ := own_slice hv
      have er := hm2.errs na (by omega)
      have hg2 := hm2.lt
      have HM2 := Lib.hid hm2
      clear hm2 hb2 hv HC e1 e2 e3 ba bb n1 n2 hgd
      go_wp2
      go_ret
      exact ⟨rfl, HM2.out.bel⟩
end Sc
end Go.Proofs.YtaillpnjknnhdaaDoor
