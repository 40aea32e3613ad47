/- TextPlaces: the walk. -/
import Derived.Test.YtjcmfgloojgknaaTMix
import Derived.Deep.RegionHeld3
namespace Go.Proofs.Ytjcmfgloojgknaa
open Go.RowKit
namespace Tx

set_option maxRecDepth 100000 in
set_option maxHeartbeats 4000000 in
theorem places_any (s : ByteArray) (ad : Option Addr) (len cap : Nat) (zs : List Int) (a : Int) (w : World) (hM : MaxTab w) (hs : s.size ≤ maxLen) (hR : IsRow .i64 w ad len cap zs) (ha1 : -9223372036854775808 ≤ a) (ha2 : a ≤ 9223372036854775807) :
    Calls Try.prog 4 #[.string s, .slice ad len cap, .int .i64 a] w fun e w' => e = .returned (.bool true) ∧ Below w.heap.size w w' := by
  have hI := ints_of_row hR
  generalize (fun i => zs.getD i 0) = f at hI
  unfold maxLen at hs
  have cK := known_any w hM
  have HI := Lib.hid hI; have HK := Lib.hid cK
  clear hI cK hR hM
  by_cases hbig : 2000 < s.size
  · have hbig' : (2000 : Int) < s.size := by omega
    go_enter Try.func4, Try.ntmps4
    go_wp2_with (go_at_call 9; (with_reducible refine HK.out.mono ?_); rintro e w1 ⟨rfl, hb⟩)
    go_ret
    exact ⟨rfl, hb⟩
  · have hbig' : ¬ (2000 : Int) < s.size := by omega
    go_enter Try.func4, Try.ntmps4
    go_wp2_with (go_at_call 9; (with_reducible refine HK.out.mono ?_); rintro e w1 ⟨rfl, hb⟩)
    have HB : Hid (Below w.heap.size w w1) := hb
    clear hb HK
    have hI1 : Ints .i64 w1 ad len f := HI.out.below HB.out
    have cM := mix_any ad len cap f w1 hI1
    clear hI1
    refine cM.mono ?_
    rintro e w2 ⟨hb2, t, rfl, ht⟩
    have HB2 : Hid (Below w.heap.size w w2) := HB.out.trans (hb2.mono HB.out.size)
    clear cM hb2 HI HB
    have hsum : s.size + t.size ≤ 4000 := by omega
    have hst : (s ++ t).size ≤ 2480 := by rw [ByteArray.size_append]; omega
    obtain ⟨u, hu⟩ : ∃ u, s ++ t = u := ⟨_, rfl⟩
    rw [hu] at hst
    have esum := fun w : World => run_string_add_sum (P := Try.prog) w s t (by omega)
    rw [hu] at esum
    have hn0 := Int.emod_nonneg a (show ((u.size : Int) + 1) ≠ 0 by omega)
    have hn4 := Int.emod_lt_of_pos a (show (0 : Int) < (u.size : Int) + 1 by omega)
    have cW := fun w => within_any a ((u.size : Int) + 1) w (by omega) (by omega) ha1 ha2
    generalize a % ((u.size : Int) + 1) = k at *
    have cA := fun w => Place_any u a w (by omega) ha1 ha2
    have cB := fun w => RPlace_any u a w (by omega) ha1 ha2
    have cC := fun w => Place_any u k w (by omega) (by omega) (by omega)
    have cD := fun w => RPlace_any u k w (by omega) (by omega) (by omega)
    unfold PlacePost at cA cB cC cD
    generalize plc (u.data.toList.take (clamp a u.size)) = p1 at *
    generalize plc (u.data.toList.take (clamp k u.size)) = p2 at *
    have HA := Lib.hid cA; have HBB := Lib.hid cB; have HC := Lib.hid cC; have HD := Lib.hid cD; have HW := Lib.hid cW; have HU := Lib.hid hu
    clear cA cB cC cD cW hu
    go_wp2_with (first
      | (go_at_call 13; (with_reducible refine (HW.out _).mono ?_); rintro e w' ⟨rfl, rfl⟩)
      | (go_at_call 14; (with_reducible refine (HA.out _).mono ?_); rintro e w' ⟨rfl, rfl⟩)
      | (go_at_call 15; (with_reducible refine (HBB.out _).mono ?_); rintro e w' ⟨rfl, rfl⟩)
      | (go_at_call 14; (with_reducible refine (HC.out _).mono ?_); rintro e w' ⟨rfl, rfl⟩)
      | (go_at_call 15; (with_reducible refine (HD.out _).mono ?_); rintro e w' ⟨rfl, rfl⟩))
    go_ret
    exact ⟨rfl, HB2.out⟩
end Tx
end Go.Proofs.Ytjcmfgloojgknaa
