/- number: what each call returns; nothing that was there turns. -/
import Derived.Test.YtlfbcaenlifmkaaGreatDoorB25
namespace Go.Proofs.YtlfbcaenlifmkaaGreatDoor
open Go.RowKit
namespace Sc
/-- The two errors that strconv hands out, in memory: some interface values. -/
def ErrTab (w : World) : Prop := 6 < w.heap.size ∧ 7 < w.heap.size ∧ (∃ te pe, w.cell? ⟨6, 0, none⟩ = some (.iface te pe)) ∧ (∃ te pe, w.cell? ⟨7, 0, none⟩ = some (.iface te pe))
theorem ErrTab.below {w w' : World} (h : ErrTab w) (hb : Below w.heap.size w w') : ErrTab w' :=
  ⟨Nat.lt_of_lt_of_le h.1 hb.size, Nat.lt_of_lt_of_le h.2.1 hb.size, h.2.2.1.elim fun t ⟨fr, e⟩ => ⟨t, fr, (hb.cell (p := ⟨_, 0, none⟩) h.1).trans e⟩,
    h.2.2.2.elim fun t ⟨fr, e⟩ => ⟨t, fr, (hb.cell (p := ⟨_, 0, none⟩) h.2.1).trans e⟩⟩
theorem trimPrefix_unsig (l : List UInt8) : Lib.trimPrefix l [45] = unsig l := by
  cases l with
  | nil => rfl
  | cons c t =>
    unfold Lib.trimPrefix Lib.hasPrefix unsig
    by_cases h : c.toNat = 45
    · have : c = 45 := by rw [← UInt8.toNat_inj]; exact h
      subst this; simp
    · have : ¬ (45 : UInt8) = c := fun e => h (by rw [← e]; rfl)
      simp [this, h]
theorem unsig_le (l : List UInt8) : (unsig l).length ≤ l.length ∧ l.length ≤ (unsig l).length + 1 := by
  cases l with
  | nil => simp [unsig]
  | cons c t => simp only [unsig]; split <;> simp
theorem numEnd_le (l : List UInt8) : numEnd l ≤ l.length := by
  have h1 := unsig_le l; have h2 := dsz_le (unsig l); unfold numEnd; omega
theorem extract_take (s : ByteArray) (k : Nat) : (s.extract 0 k).data.toList = s.data.toList.take k := by
  simp [ByteArray.data_extract]
/-- What ParseInt answers, said of what number is to answer. -/
theorem ParseInt_any (s : ByteArray) (w : World) (hs : s.size ≤ 281474976710656) (hE : ErrTab w) :
    Calls Tryz.prog 163 #[.string s, .int .i64 10, .int .i64 64] w fun e w' => (∃ v : Int, ∃ ev : Value, e = .returned (.tuple #[.int .i64 v, ev]) ∧
      ((Lib.parseIntB 64 s.data.toList = .ok v ∧ ev = .nilIface) ∨ ((∀ u, Lib.parseIntB 64 s.data.toList ≠ .ok u) ∧ ∃ N, ev = .iface 263 (.pointer (some ⟨N, 0, none⟩))))) ∧ Below w.heap.size w w' := by
  obtain ⟨_, _, ⟨t1, p1, h1⟩, ⟨t2, p2, h2⟩⟩ := hE
  cases h : Lib.parseIntB 64 s.data.toList
  · rename_i v
    refine (Tryz.strconv_ParseInt_10_at64_ok s (by omega) v h w).mono ?_
    rintro e w' ⟨rfl, hw⟩
    refine ⟨⟨v, .nilIface, rfl, Or.inl ⟨rfl, rfl⟩⟩, ?_⟩
    rcases hw with rfl | ⟨t, rfl⟩
    · exact Below.refl _ _
    · exact Lib.bytesWorld_below _ _ _
  · refine (Any.strconv_ParseInt_10_at64_syntax Tryz.laysC174 s hs h _ w h1 (Or.inr ⟨_, _, rfl⟩)).mono ?_
    rintro e w' ⟨N, rfl, _, _, hb⟩
    exact ⟨⟨_, _, rfl, Or.inr ⟨fun u e => (by cases e), N, rfl⟩⟩, hb⟩
  · refine (Tryz.strconv_ParseInt_10_at64_range s hs h _ w h2 (Or.inr ⟨_, _, rfl⟩)).mono ?_
    rintro e w' ⟨N, rfl, _, _, hb⟩
    exact ⟨⟨_, _, rfl, Or.inr ⟨fun u e => (by cases e), N, rfl⟩⟩, hb⟩
theorem numW_long (l : List UInt8) (h : 19 < dsz (unsig l)) : numW l = bad 4 := by unfold numW; rw [if_pos h]
theorem numW_ok (l : List UInt8) (h : ¬ 19 < dsz (unsig l)) (v : Int) (hv : Lib.parseIntB 64 (l.take (numEnd l)) = .ok v) : numW l = ⟨3, [], v, numEnd l, 0⟩ := by
  unfold numW; rw [if_neg h, hv]
theorem numW_bad (l : List UInt8) (h : ¬ 19 < dsz (unsig l)) (hv : ∀ u, Lib.parseIntB 64 (l.take (numEnd l)) ≠ .ok u) : numW l = bad 11 := by
  unfold numW; rw [if_neg h]
  split
  · rename_i v hv'; exact absurd hv' (hv v)
  · rfl
set_option maxHeartbeats 800000 in
theorem number_any (s : ByteArray) (w : World) (hs : s.size ≤ 281474976710656) (hE : ErrTab w) :
    Calls Tryz.prog 126 #[.string s] w fun e w' => e = .returned (numW s.data.toList).val ∧ Below w.heap.size w w' := by
  have hT := Tryz.strings_TrimPrefix s ⟨#[45]⟩
  rw [show (⟨#[45]⟩ : ByteArray).data.toList = [45] from rfl, trimPrefix_unsig] at hT
  have hu := unsig_le s.data.toList
  have hd := dsz_le (unsig s.data.toList)
  rw [bytes_len] at hu
  have hD := digitSize_any ⟨(unsig s.data.toList).toArray⟩
  rw [show (⟨(unsig s.data.toList).toArray⟩ : ByteArray).data.toList = unsig s.data.toList from rfl] at hD
  have hus : (⟨(unsig s.data.toList).toArray⟩ : ByteArray).size = (unsig s.data.toList).length := rfl
  have hne : numEnd s.data.toList = s.size - (unsig s.data.toList).length + dsz (unsig s.data.toList) := by unfold numEnd; rw [bytes_len]
  have hnl := numEnd_le s.data.toList
  rw [bytes_len] at hnl
  have hP := fun (w : World) (h : ErrTab w) => ParseInt_any (s.extract 0 (numEnd s.data.toList)) w (by rw [ByteArray.size_extract]; omega) h
  rw [extract_take] at hP
  have n1 := numW_long s.data.toList
  have n2 := numW_ok s.data.toList
  have n3 := numW_bad s.data.toList
  generalize (⟨(unsig s.data.toList).toArray⟩ : ByteArray) = us at *
  generalize dsz (unsig s.data.toList) = d at *
  generalize (unsig s.data.toList).length = ul at *
  generalize Lib.parseIntB 64 (s.data.toList.take (numEnd s.data.toList)) = pr at *
  generalize numEnd s.data.toList = ne at *
  generalize numW s.data.toList = nw at *
  subst hus
  have HT := Lib.hid hT; have HD := Lib.hid hD; have HP := Lib.hid hP; have HN := Lib.hid hne
  have N1 := Lib.hid n1; have N2 := Lib.hid n2; have N3 := Lib.hid n3; have HE := Lib.hid hE
  clear hT hD hP hne n1 n2 n3 hE
  have hul : us.size ≤ maxLen := by unfold maxLen; omega
  by_cases h19 : 19 < d
  · rw [N1.out h19]
    go_enter Tryz.func126, Tryz.ntmps126
    go_wp2_with (first | (go_at_call 162; refine (HT.out _).mono ?_; rintro e w' ⟨rfl, rfl⟩) | (go_at_call 123; refine (HD.out _ hul).mono ?_; rintro e w1 ⟨rfl, hb0⟩; obtain ⟨⟨q0, q1, q2, q3⟩, ⟨z0, z1, z2, z3⟩, hlt, hb⟩ := four (by simpa using hb0); clear hb0))
    refine bodyPost_ret (v := (bad 4).val) (by simp [results, Tryz.results126, go_sem, W.val, bad, q0, q1, q2, q3]) rfl ⟨rfl, ?_⟩
    exact (((hb.setCell (Nat.le_refl _) _).setCell (Nat.le_refl _) _).setCell (Nat.le_refl _) _).setCell (Nat.le_refl _) _
  · obtain rfl := HN.out
    clear HN
    have hdl : (d : Int) ≤ us.size := by omega
    have hul2 : (us.size : Int) ≤ s.size := by omega
    have hsl : (s.size : Int) ≤ 281474976710656 := by omega
    go_enter Tryz.func126, Tryz.ntmps126
    go_wp2_with (first | (go_at_call 162; refine (HT.out _).mono ?_; rintro e w' ⟨rfl, rfl⟩) | (go_at_call 123; refine (HD.out _ hul).mono ?_; rintro e w1 ⟨rfl, hb0⟩; obtain ⟨⟨q0, q1, q2, q3⟩, ⟨z0, z1, z2, z3⟩, hlt, hb⟩ := four (by simpa using hb0); clear hb0))
    refine (HP.out w1 (HE.out.below hb)).mono ?_
    rintro e w2 ⟨⟨v, ev, rfl, hev⟩, hb1⟩
    obtain ⟨q0, q1, q2, q3, z0, z1, z2, z3, hlt, hb⟩ := four_on hlt hb q0 q1 q2 q3 z0 z1 z2 z3 hb1
    clear hb1
    have ecast : ((s.size - us.size + d : Nat) : Int) = (s.size : Int) - us.size + d := by omega
    have EC := Lib.hid ecast; clear ecast
    rcases hev with ⟨hv, rfl⟩ | ⟨hv, N, rfl⟩
    · have n2 := N2.out h19 v hv
      have NW := Lib.hid n2; clear n2 N1 N2 N3 HT HD HP HE hv
      go_wp2
      refine bodyPost_ret (v := .tuple #[.agg #[.int .i64 3, .string ⟨#[]⟩, .int .i64 v, .int .i64 0], .int .i64 ((s.size : Int) - us.size + d), .int .i64 0]) (by simp [results, Tryz.results126, go_sem, q0, q1, q2, q3]) rfl ⟨?_, ?_⟩
      · rw [NW.out]; unfold W.val; simp only [EC.out]; rfl
      · exact (((hb.setCell (Nat.le_refl _) _).setCell (Nat.le_refl _) _).setCell (Nat.le_refl _) _).setCell (Nat.le_refl _) _
    · have n3 := N3.out h19 hv
      have NW := Lib.hid n3; clear n3 N1 N2 N3 HT HD HP HE hv
      go_wp2
      refine bodyPost_ret (v := (bad 11).val) (by simp [results, Tryz.results126, go_sem, W.val, bad, q0, q1, q2, q3]) rfl ⟨?_, ?_⟩
      · rw [NW.out]
      · exact (((hb.setCell (Nat.le_refl _) _).setCell (Nat.le_refl _) _).setCell (Nat.le_refl _) _).setCell (Nat.le_refl _) _
end Sc
end Go.Proofs.YtlfbcaenlifmkaaGreatDoor
