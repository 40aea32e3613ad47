/- digitSize, beside the small functions of package scan. -/
import Derived.Test.YtnnnjonodnkccaaGreatDoorScanN
namespace Go.Proofs.YtnnnjonodnkccaaGreatDoor
open Go.RowKit
namespace Sc

set_option maxHeartbeats 400000 in
theorem digitSize_any (s : ByteArray) (w : World) (hs : s.size ≤ maxLen) :
    Calls Tryz.prog 60 #[.string s] w fun e w' => e = .returned (.int .i64 (dsz s.data.toList)) ∧ Below w.heap.size w w' := by
  unfold maxLen at hs
  go_enter Tryz.func60, Tryz.ntmps60
  go_wp2
  go_loopw [] (fun w' => ∃ k : Nat, k ≤ s.size ∧ w' = w.iter s k ∧ Hid (dsz s.data.toList = k + dsz (s.data.toList.drop k))) (fun w' => s.size - w'.iterPos w.heap.size)
  case atStart => exact ⟨0, Nat.zero_le _, rfl, by simp [Hid]⟩
  case round =>
    obtain ⟨k, hk, rfl, hd⟩ := hrel
    by_cases hlt : k < s.size
    · have hnx := fun ty => run_next_any (P := Tryz.prog) w s k ty hlt
      obtain ⟨h1, h2, h3⟩ := rune_of s k hlt
      have hle := decode_le s k
      generalize hr : (Utf8.decode s k).1 = r at *
      generalize hw : (Utf8.decode s k).2 = wd at *
      clear hr hw h2
      have cR := digit_any (r : Int)
      cases hD : isD (s[k]'hlt)
      · have hst := dsz_stop s.data.toList k (lt_len hlt) (by rw [bytes_at s k hlt]; exact hD)
        have e0 : digB (r : Int) = false := by rw [h1, hD]
        rw [e0] at cR
        clear h1 h3 hD e0
        have HS := Lib.hid hst; clear hst
        have HC := Lib.hid cR; clear cR
        go_wp2_with (go_at_call 62; refine (HC.out _).mono ?_; rintro e w' ⟨rfl, rfl⟩)
        go_ret
        refine ⟨?_, ?_⟩
        · have := hd.out; rw [HS.out] at this; rw [this]; rfl
        · exact (Below.refl _ _).alloc (Nat.le_refl _) _
      · have hst := dsz_step s.data.toList k (lt_len hlt) (by rw [bytes_at s k hlt]; exact hD)
        obtain rfl : wd = 1 := h3 (Or.inl hD)
        have e0 : digB (r : Int) = true := by rw [h1, hD]
        rw [e0] at cR
        clear h1 h3 hD e0
        have HS := Lib.hid hst; clear hst
        have HC := Lib.hid cR; clear cR
        go_wp2_with (go_at_call 62; refine (HC.out _).mono ?_; rintro e w' ⟨rfl, rfl⟩)
        go_roundw
        case rel => exact ⟨k + 1, by omega, rfl, by have := hd.out; rw [HS.out] at this; unfold Hid; omega⟩
        case measure => simp; omega
    · have hk' : k = s.size := by omega
      subst hk'
      have hnx := fun ty => run_next_end (P := Tryz.prog) w s s.size ty hlt
      go_wp2
      go_ret
      refine ⟨?_, ?_⟩
      · have := hd.out; rw [← bytes_len, dsz_end] at this; rw [this, bytes_len]; rfl
      · exact (Below.refl _ _).alloc (Nat.le_refl _) _

end Sc
end Go.Proofs.YtnnnjonodnkccaaGreatDoor
