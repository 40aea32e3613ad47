/- ScanTokens: the walk. -/
import Derived.Test.YtaillpnjknnhdaaDoorRefJ
import Derived.Deep.RegionHeld3
namespace Go.Proofs.YtaillpnjknnhdaaDoor
open Go.RowKit
namespace Sc

theorem toks_len (l : List UInt8) : (toks l).2.length ≤ 400 := by
  unfold toks
  split
  · simp
  · split
    · split
      · simp
      · omega
    · simp
theorem three_cell (w : World) (a b c : ByteArray) (t : TypeId) (k : Nat) (h : k < 3) : ∃ r : ByteArray, (r = a ∨ r = b ∨ r = c) ∧ (w.alloc (.cells #[.string a, .string b, .string c] t)).cell? ⟨w.heap.size, k, none⟩ = some (.string r) := by
  match k, h with
  | 0, _ => exact ⟨a, Or.inl rfl, by simp⟩
  | 1, _ => exact ⟨b, Or.inr (Or.inl rfl), by simp⟩
  | 2, _ => exact ⟨c, Or.inr (Or.inr rfl), by simp⟩

set_option maxRecDepth 100000 in
set_option maxHeartbeats 8000000 in
theorem tokens_any (s : ByteArray) (ad : Option Addr) (len cap : Nat) (zs : List Int) (ad2 : Option Addr) (len2 cap2 : Nat) (gs : List Int) (w : World) (hT : Tabs w) (hs : s.size ≤ maxLen) (hR : IsRow .i64 w ad len cap zs) (hG : IsRow .i64 w ad2 len2 cap2 gs) :
    Calls Tryd.prog 3 #[.string s, .slice ad len cap, .slice ad2 len2 cap2] w fun e w' => e = .returned (.bool true) ∧ Below w.heap.size w w' := by
  have hI := ints_of_row hR
  generalize (fun i => zs.getD i 0) = f at hI
  have hJ := ints_of_row hG
  generalize (fun i => gs.getD i 0) = h at hJ
  have hlen := hI.1
  have hlen2 := hJ.1
  unfold maxLen at hlen hlen2 hs
  have cK := known_any w hT
  have HI := Lib.hid hI; have HJ := Lib.hid hJ; have HT := Lib.hid hT; have HK := Lib.hid cK
  clear hI hJ hT cK hR hG
  by_cases hbig : 2000 < s.size
  · have hbig' : (2000 : Int) < s.size := by omega
    go_enter Tryd.func3, Tryd.ntmps3
    go_wp2_with (go_at_call 12; (with_reducible refine HK.out.mono ?_); rintro e w1 ⟨rfl, hb⟩)
    go_ret
    exact ⟨rfl, hb⟩
  · have hbig' : ¬ (2000 : Int) < s.size := by omega
    go_enter Tryd.func3, Tryd.ntmps3
    go_wp2_with (go_at_call 12; (with_reducible refine HK.out.mono ?_); rintro e w1 ⟨rfl, hb⟩)
    have HB := Lib.hid hb; clear hb HK
    go_loopw [7, 8] (fun tv iv wr => ∃ (j : Nat) (t : ByteArray), j ≤ len ∧ j ≤ 60 ∧ iv = .int .i64 j ∧ tv = .string t ∧ t.size ≤ 22 * j ∧ Hid (Below w.heap.size w wr)) (fun _ iv _ => len - (intOf iv).toNat)
    case atStart => exact ⟨0, _, Nat.zero_le _, by omega, rfl, rfl, by simp [ByteArray.size], HB⟩
    case round =>
      obtain ⟨j, t, hj, hj60, rfl, rfl, hts, hm⟩ := hrel
      have hbw := hm.out.size
      by_cases hlt : j < len ∧ j < 60
      · obtain ⟨hlt, h60⟩ := hlt
        obtain ⟨bb, off, rfl, hbl, hcc⟩ := HI.out.2 (by omega)
        have hcj := (hm.out.cell (p := ⟨bb, off + j, none⟩) hbl).trans (hcc j hlt).1
        have hwf := bounds_i64 (hcc j hlt).2
        have hbl2 : bb < wr.heap.size := by omega
        have cP := fun w => piece_any (f j) w hwf.1 hwf.2
        have hpz := pz_len (f j % 40).toNat
        have hsz : (t ++ pzB (f j % 40).toNat).size ≤ 22 * j + 20 := by rw [ByteArray.size_append]; omega
        have hjl : (j : Int) < len := by omega
        have hj6 : (j : Int) < 60 := by omega
        generalize pzB (f j % 40).toNat = pb at *
        have HP := Lib.hid cP
        generalize f j = fj at *
        clear hcc cP hwf hlt h60
        by_cases hg : j < len2
        · obtain ⟨b2, off2, rfl, hbl3, hdd⟩ := HJ.out.2 (by omega)
          have hgj := (hm.out.cell (p := ⟨b2, off2 + j, none⟩) hbl3).trans (hdd j hg).1
          have hwg := bounds_i64 (hdd j hg).2
          have hbl4 : b2 < wr.heap.size := by omega
          have h5 := Int.emod_nonneg (h j) (show (5 : Int) ≠ 0 by omega)
          have h5' := Int.emod_lt_of_pos (h j) (show (0 : Int) < 5 by omega)
          obtain ⟨n, hn⟩ : ∃ n : Nat, h j % 5 = n := ⟨(h j % 5).toNat, by omega⟩
          have cW := fun w => within_any (h j) 5 w (by omega) (by omega) hwg.1 hwg.2
          rw [hn] at cW h5 h5'
          have hgl := gp_len n (by omega)
          have hgs : ((t ++ pb) ++ gpB n).size ≤ 22 * (j + 1) := by rw [ByteArray.size_append]; omega
          have HW := Lib.hid cW
          have hj2 : (j : Int) < len2 := by omega
          have hn5 : n < 5 := by omega
          generalize h j = gj at *
          clear hdd cW hwg hn hg
          go_wp2_with (first
            | (go_at_call 13; (with_reducible refine (HP.out _).mono ?_); rintro e w3 ⟨rfl, hb3⟩; have hgj3 := (hb3.cell (p := ⟨b2, off2 + j, none⟩) hbl4).trans hgj; have hgc := gp_cell w3 9 n hn5; have hb3s := hb3.size; have hbl5 := Nat.lt_of_lt_of_le hbl4 hb3.size; have HB3 := Lib.hid hb3; clear hb3)
            | (go_at_call 14; (with_reducible refine (HW.out _).mono ?_); rintro e w' ⟨rfl, rfl⟩))
          go_roundw
          case rel => exact ⟨j + 1, _, by omega, by omega, by go_num, rfl, hgs, Lib.hid ((hm.out.trans (HB3.out.mono hbw)).alloc (by omega) _)⟩
          case measure => simp [intOf]; omega
        · have hj2 : ¬ (j : Int) < len2 := by omega
          go_wp2_with (first
            | (go_at_call 13; (with_reducible refine (HP.out _).mono ?_); rintro e w3 ⟨rfl, hb3⟩; have HB3 := Lib.hid hb3; clear hb3))
          go_roundw
          case rel => exact ⟨j + 1, _, by omega, by omega, by go_num, rfl, by omega, Lib.hid (hm.out.trans (HB3.out.mono hbw))⟩
          case measure => simp [intOf]; omega
      · have hend : ¬ ((j : Int) < len ∧ (j : Int) < 60) := by omega
        have htl : t.size ≤ 1320 := by omega
        have htss : (t ++ s).size ≤ 3320 := by rw [ByteArray.size_append]; omega
        have hrow := three_cell wr s t (t ++ s) 9
        have HROW := Lib.hid hrow
        have HTS := Lib.hid hts
        clear hrow hts HI HJ
        have hjs : (j : Int) = len ∨ (j : Int) = 60 := by omega
        have fin : True := trivial
        by_cases hl : (j : Int) < len
        · have hj6 : ¬ (j : Int) < 60 := by omega
          clear hend hjs hlt
          obtain ⟨w0, hw0⟩ : ∃ w0, w0 = wr := ⟨wr, rfl⟩
          subst hw0
          go_wp2
          go_loopw [10] (fun kv wr2 => ∃ k : Nat, k ≤ 3 ∧ kv = .int .i64 k ∧ Hid (Below (w0.heap.size + 1) (w0.alloc (.cells #[.string s, .string t, .string (t ++ s)] 9)) wr2)) (fun kv _ => 3 - (intOf kv).toNat)
          case atStart => exact ⟨0, by omega, rfl, Lib.hid (Below.refl _ _)⟩
          case round =>
            obtain ⟨k, hk, rfl, hm2⟩ := hrel
            by_cases hk3 : k < 3
            · obtain ⟨r, hr, hrc⟩ := HROW.out k hk3
              have hrs : r.size ≤ 3320 := by rcases hr with rfl | rfl | rfl <;> omega
              have hc := (hm2.out.cell (p := ⟨w0.heap.size, k, none⟩) (by simp)).trans hrc
              have hm2s := hm2.out.size
              rw [World.size_alloc] at hm2s
              have hg0 : w0.heap.size < wr.heap.size := by omega
              have hbwr : Below w.heap.size w wr := (hm.out.alloc hbw _).trans (hm2.out.mono (by omega))
              have cT := Tokens_any r wr (by unfold maxLen; omega) (HT.out.below hbwr).1 (HT.out.below hbwr).2
              have cR := fun w => RTokens_any r w (by unfold maxLen; omega)
              unfold ToksPost at cT
              unfold RToksPost at cR
              have h400 := toks_len r.data.toList
              generalize toks r.data.toList = tk at *
              obtain ⟨e0, ts⟩ := tk
              dsimp only at cT cR h400
              have cI := fun w => Ident_any r w (by unfold maxLen; omega)
              have cJ := fun w => RIdent_any r w (by unfold maxLen; omega)
              generalize identB r.data.toList = ib at *
              have hk3' : (k : Int) < 3 := by omega
              have CT := Lib.hid cT; have CR := Lib.hid cR; have CI := Lib.hid cI; have CJ := Lib.hid cJ
              clear cT cR cI cJ hrc hr hk3 hrs hbwr
              go_wp2_with (first
                | (go_at_call 15; (with_reducible refine CT.out.mono ?_); rintro e w2 ⟨hb2, v, rfl, ho⟩; have n1 := (hb2.cell (p := ⟨w0.heap.size, k, none⟩) hg0).trans hc; have hb2s := hb2.size; have hg2 := Nat.lt_of_lt_of_le hg0 hb2.size; have HO := Lib.hid ho; have HB2 := Lib.hid hb2; clear ho hb2)
                | (go_at_call 16; (with_reducible refine (CR.out _).mono ?_); rintro e w3 ⟨hb3, v', rfl, ho'⟩; have n2 := (hb3.cell (p := ⟨w0.heap.size, k, none⟩) hg2).trans n1; have hb3s := hb3.size; have hg3 := Nat.lt_of_lt_of_le hg2 hb3.size; have HO2 := Lib.hid ho'; have HB3 := Lib.hid hb3; clear ho' hb3))
              have cS := same_any w3.drew _ _ v v' ts (((TMem.mk HO.out HB2.out).same HB3.out).same ((Below.refl _ _).drew)).own (((RMem.mk HO2.out HB3.out).same ((Below.refl _ _).drew))).own h400
              have CS := Lib.hid cS
              clear cS
              have n2d : w3.drew.cell? ⟨w0.heap.size, k, none⟩ = some (.string r) := n2
              have hg3d : w0.heap.size < w3.drew.heap.size := hg3
              go_region_held3 (fun w' => w'.cell? ⟨w0.heap.size, k, none⟩ = some (.string r)) (go_keep) (first
                | (go_at_call 17; (with_reducible refine CS.out.mono ?_); rintro e w4 ⟨rfl, hb4⟩; have n3 := (hb4.cell (p := ⟨w0.heap.size, k, none⟩) hg3d).trans n2d; have hg4 := Nat.lt_of_lt_of_le hg3d hb4.size; have HB4 := Lib.hid hb4; clear hb4)
                | (go_at_call 18; (with_reducible refine (CI.out _).mono ?_); rintro e w5 ⟨rfl, hb5⟩; have n4 := (hb5.cell (p := ⟨w0.heap.size, k, none⟩) hg4).trans n3; have HB5 := Lib.hid hb5; clear hb5)
                | (go_at_call 19; (with_reducible refine (CJ.out _).mono ?_); rintro e w' ⟨rfl, rfl⟩))
              have hm3 := hm2.out.trans (HB2.out.mono hm2s)
              have hm4 := hm3.trans (HB3.out.mono (by have e := hm3.size; rw [World.size_alloc] at e; exact e))
              have hm5 := hm4.trans ((Below.refl _ _).drew)
              have hm6 := hm5.trans (HB4.out.mono (by have e := hm5.size; rw [World.size_alloc] at e; exact e))
              have hm7 := hm6.trans (HB5.out.mono (by have e := hm6.size; rw [World.size_alloc] at e; exact e))
              have HM := Lib.hid hm7
              clear hm3 hm4 hm5 hm6 hm7
              go_wp2
              go_roundw
              case rel => exact ⟨k + 1, by omega, by go_num, HM⟩
              case measure => simp [intOf]; omega
            · have hk3' : k = 3 := by omega
              subst hk3'
              clear hk3
              go_wp2
              go_ret
              exact ⟨rfl, (hm.out.alloc hbw _).trans (hm2.out.mono (by omega))⟩
        · clear hend hjs hlt
          obtain ⟨w0, hw0⟩ : ∃ w0, w0 = wr := ⟨wr, rfl⟩
          subst hw0
          go_wp2
          go_loopw [10] (fun kv wr2 => ∃ k : Nat, k ≤ 3 ∧ kv = .int .i64 k ∧ Hid (Below (w0.heap.size + 1) (w0.alloc (.cells #[.string s, .string t, .string (t ++ s)] 9)) wr2)) (fun kv _ => 3 - (intOf kv).toNat)
          case atStart => exact ⟨0, by omega, rfl, Lib.hid (Below.refl _ _)⟩
          case round =>
            obtain ⟨k, hk, rfl, hm2⟩ := hrel
            by_cases hk3 : k < 3
            · obtain ⟨r, hr, hrc⟩ := HROW.out k hk3
              have hrs : r.size ≤ 3320 := by rcases hr with rfl | rfl | rfl <;> omega
              have hc := (hm2.out.cell (p := ⟨w0.heap.size, k, none⟩) (by simp)).trans hrc
              have hm2s := hm2.out.size
              rw [World.size_alloc] at hm2s
              have hg0 : w0.heap.size < wr.heap.size := by omega
              have hbwr : Below w.heap.size w wr := (hm.out.alloc hbw _).trans (hm2.out.mono (by omega))
              have cT := Tokens_any r wr (by unfold maxLen; omega) (HT.out.below hbwr).1 (HT.out.below hbwr).2
              have cR := fun w => RTokens_any r w (by unfold maxLen; omega)
              unfold ToksPost at cT
              unfold RToksPost at cR
              have h400 := toks_len r.data.toList
              generalize toks r.data.toList = tk at *
              obtain ⟨e0, ts⟩ := tk
              dsimp only at cT cR h400
              have cI := fun w => Ident_any r w (by unfold maxLen; omega)
              have cJ := fun w => RIdent_any r w (by unfold maxLen; omega)
              generalize identB r.data.toList = ib at *
              have hk3' : (k : Int) < 3 := by omega
              have CT := Lib.hid cT; have CR := Lib.hid cR; have CI := Lib.hid cI; have CJ := Lib.hid cJ
              clear cT cR cI cJ hrc hr hk3 hrs hbwr
              go_wp2_with (first
                | (go_at_call 15; (with_reducible refine CT.out.mono ?_); rintro e w2 ⟨hb2, v, rfl, ho⟩; have n1 := (hb2.cell (p := ⟨w0.heap.size, k, none⟩) hg0).trans hc; have hb2s := hb2.size; have hg2 := Nat.lt_of_lt_of_le hg0 hb2.size; have HO := Lib.hid ho; have HB2 := Lib.hid hb2; clear ho hb2)
                | (go_at_call 16; (with_reducible refine (CR.out _).mono ?_); rintro e w3 ⟨hb3, v', rfl, ho'⟩; have n2 := (hb3.cell (p := ⟨w0.heap.size, k, none⟩) hg2).trans n1; have hb3s := hb3.size; have hg3 := Nat.lt_of_lt_of_le hg2 hb3.size; have HO2 := Lib.hid ho'; have HB3 := Lib.hid hb3; clear ho' hb3))
              have cS := same_any w3.drew _ _ v v' ts (((TMem.mk HO.out HB2.out).same HB3.out).same ((Below.refl _ _).drew)).own (((RMem.mk HO2.out HB3.out).same ((Below.refl _ _).drew))).own h400
              have CS := Lib.hid cS
              clear cS
              have n2d : w3.drew.cell? ⟨w0.heap.size, k, none⟩ = some (.string r) := n2
              have hg3d : w0.heap.size < w3.drew.heap.size := hg3
              go_region_held3 (fun w' => w'.cell? ⟨w0.heap.size, k, none⟩ = some (.string r)) (go_keep) (first
                | (go_at_call 17; (with_reducible refine CS.out.mono ?_); rintro e w4 ⟨rfl, hb4⟩; have n3 := (hb4.cell (p := ⟨w0.heap.size, k, none⟩) hg3d).trans n2d; have hg4 := Nat.lt_of_lt_of_le hg3d hb4.size; have HB4 := Lib.hid hb4; clear hb4)
                | (go_at_call 18; (with_reducible refine (CI.out _).mono ?_); rintro e w5 ⟨rfl, hb5⟩; have n4 := (hb5.cell (p := ⟨w0.heap.size, k, none⟩) hg4).trans n3; have HB5 := Lib.hid hb5; clear hb5)
                | (go_at_call 19; (with_reducible refine (CJ.out _).mono ?_); rintro e w' ⟨rfl, rfl⟩))
              have hm3 := hm2.out.trans (HB2.out.mono hm2s)
              have hm4 := hm3.trans (HB3.out.mono (by have e := hm3.size; rw [World.size_alloc] at e; exact e))
              have hm5 := hm4.trans ((Below.refl _ _).drew)
              have hm6 := hm5.trans (HB4.out.mono (by have e := hm5.size; rw [World.size_alloc] at e; exact e))
              have hm7 := hm6.trans (HB5.out.mono (by have e := hm6.size; rw [World.size_alloc] at e; exact e))
              have HM := Lib.hid hm7
              clear hm3 hm4 hm5 hm6 hm7
              go_wp2
              go_roundw
              case rel => exact ⟨k + 1, by omega, by go_num, HM⟩
              case measure => simp [intOf]; omega
            · have hk3' : k = 3 := by omega
              subst hk3'
              clear hk3
              go_wp2
              go_ret
              exact ⟨rfl, (hm.out.alloc hbw _).trans (hm2.out.mono (by omega))⟩
end Sc
end Go.Proofs.YtaillpnjknnhdaaDoor
