/- Parse, for templates of a simple kind. -/
import Derived.Test.YtlfbcaenlifmkaaGreatDoorB42
import Derived.Test.YtlfbcaenlifmkaaGreatDoorB45
namespace Go.Proofs.YtlfbcaenlifmkaaGreatDoor
open Go.RowKit
namespace Tr
open Sc Sh Sp
/-- What Parse leaves. -/
def ParP (w : World) (x : List (List UInt8 × List Nd) × Nat × Nat) (e : Ending) (w' : World) : Prop :=
  ∃ a us k, e = .returned (.tuple #[.slice a x.1.length k, .int .i64 x.2.1, .int .i64 x.2.2]) ∧ Below w.heap.size w w' ∧ TpsV w' (fun g => w.heap.size ≤ g ∧ g < w'.heap.size) x.1 a us
theorem TpsV.nil {w : World} {S : Nat → Prop} : TpsV w S [] none [] := ⟨rfl, .inl rfl, fun u hu => by cases hu⟩
def Simp (l : List UInt8) : Prop := ∀ p ∈ (Tx.splitL l).2, p.act = true → (actionL p.s).2 = 0 → SimpK (actionL p.s).1.kind
theorem part_len (ps : List Tx.P) (p : Tx.P) (hp : p ∈ ps) : p.s.length ≤ (Tx.joinL ps).length := by
  induction ps with
  | nil => cases hp
  | cons q ps ih =>
    have e : Tx.joinL (q :: ps) = Tx.brace q ++ Tx.joinL ps := by unfold Tx.joinL; rw [List.flatMap_cons]
    rw [e, List.length_append]
    rcases List.mem_cons.1 hp with rfl | hp
    · have : p.s.length ≤ (Tx.brace p).length := by
        unfold Tx.brace; split
        · simp; omega
        · exact Nat.le_refl _
      omega
    · have := ih hp; omega
theorem split_few (l : List UInt8) : (Tx.splitL l).2.length ≤ 200 ∧ ∀ p ∈ (Tx.splitL l).2, p.s.length ≤ 2000 := by
  unfold Tx.splitL
  split
  · exact ⟨Nat.zero_le _, fun p hp => by cases hp⟩
  · rename_i h15
    cases hr : Tx.rawW l 0 with
    | none => exact ⟨Nat.zero_le _, fun p hp => by cases hp⟩
    | some ps =>
      unfold Tx.splitOf
      simp only
      split
      · exact ⟨Nat.zero_le _, fun p hp => by cases hp⟩
      · have hj := (Tx.raw_join l.length l 0 ps (Nat.le_refl _) hr).1
        exact ⟨by simp only; omega, fun p hp => by have := part_len ps p hp; rw [hj] at this; omega⟩
theorem parts_len (ps : List Tx.P) : (ps.flatMap Tx.partCells).length = ps.length * 3 := by
  induction ps with
  | nil => rfl
  | cons y ys ih => rw [List.flatMap_cons, List.length_append, ih, List.length_cons]; show 3 + _ = _; omega
theorem part_at {w : World} {base g k : Nat} {ps : List Tx.P} (h : w.ownsRow base 100 3 (.slice (some ⟨g, 0, none⟩) ps.length k) ps.length (ps.flatMap Tx.partCells)) (i : Nat) (hi : i < ps.length) :
    w.cell? ⟨g, i * 3, none⟩ = some (.bool ps[i].act) ∧ w.cell? ⟨g, i * 3 + 1, none⟩ = some (.string ⟨ps[i].s.toArray⟩) ∧ w.cell? ⟨g, i * 3 + 2, none⟩ = some (.int .i64 ps[i].at_) := by
  have hx : ∀ j, j < 3 → (ps.flatMap Tx.partCells)[i * 3 + j]? = (Tx.partCells ps[i])[j]? := by
    intro j hj
    have e : ps = ps.take i ++ ps[i] :: ps.drop (i + 1) := by rw [List.getElem_cons_drop, List.take_append_drop]
    conv => lhs; rw [e]
    rw [List.flatMap_append, List.getElem?_append_right (by rw [parts_len, List.length_take]; omega), parts_len, List.length_take, Nat.min_eq_left (by omega), Nat.add_sub_cancel_left, List.flatMap_cons, List.getElem?_append_left (by show j < 3; exact hj)]
  refine ⟨?_, ?_, ?_⟩
  · have := h.cellAt (i * 3) (by omega); rw [this]; exact hx 0 (by omega)
  · have := h.cellAt (i * 3 + 1) (by omega); rw [this]; exact hx 1 (by omega)
  · have := h.cellAt (i * 3 + 2) (by omega); rw [this]; exact hx 2 (by omega)
set_option maxRecDepth 100000 in
set_option maxHeartbeats 2000000 in
theorem Parse_bad (s : ByteArray) (w : World) (hs : s.size ≤ maxLen) (hM : Tx.MaxTab w) (he : (Tx.splitL s.data.toList).1 ≠ 0) :
    Calls Tryz.prog 24 #[.string s] w (ParP w (parseL s.data.toList)) := by
  have hp : parseL s.data.toList = ([], 0, (Tx.splitL s.data.toList).1) := by unfold parseL; rw [if_neg he]
  have CT := Tx.Split_any s w hs hM
  rw [hp]
  unfold Tx.SplitPost at CT
  generalize Tx.splitL s.data.toList = x at *
  obtain ⟨te, ps⟩ := x
  simp only at he CT ⊢
  have tn : ((te : Int) != 0) = true := by simp; omega
  have HT := Lib.hid CT
  clear CT hp
  go_enter Tryz.func24, Tryz.ntmps24
  go_wp2_with (go_at_call 39; (refine HT.out.mono ?_); rintro e w1 ⟨b1, v, rfl, hv⟩)
  go_ret3
  exact ⟨none, [], 0, rfl, b1, TpsV.nil⟩
def b0 : B := ⟨.mk 0 0 [] [] [] [] [] false [], [], []⟩
theorem good0 : Good 0 b0 := ⟨rfl, fun d hd => by
  obtain rfl := List.mem_singleton.1 hd
  exact ⟨Nat.zero_le _, Nat.zero_le _, Nat.zero_le _, fun q hq => by cases hq⟩, Nat.zero_le _, rfl⟩
theorem build_stepQ (ps : List Tx.P) (k : Nat) (hk : k < ps.length) (b : B) : buildGo (ps.drop k) b = if (partB ps[k] b).1 = 0 then buildGo (ps.drop (k + 1)) (partB ps[k] b).2 else ((ps[k].at_, (partB ps[k] b).1), b) := by
  rw [List.drop_eq_getElem_cons hk]
  conv => lhs; unfold buildGo
set_option maxRecDepth 100000 in
set_option maxHeartbeats 4000000 in
theorem Parse_ok (s : ByteArray) (w : World) (hs : s.size ≤ 1500) (hL : Lean w) (hM : Tx.MaxTab w) (he : (Tx.splitL s.data.toList).1 = 0) (hsim : Simp s.data.toList) :
    Calls Tryz.prog 24 #[.string s] w (ParP w (parseL s.data.toList)) := by
  have CT := Tx.Split_any s w (by unfold maxLen; omega) hM
  obtain ⟨hfew, hshort⟩ := split_few s.data.toList
  have hlen : s.data.toList.length = s.size := by simp only [Array.length_toList]; rfl
  obtain ⟨full, hfull⟩ : ∃ full, full = parseL s.data.toList := ⟨_, rfl⟩
  have hp : full = (if (buildGo (Tx.splitL s.data.toList).2 b0).1.2 = 0 then
      (if (buildGo (Tx.splitL s.data.toList).2 b0).2.depth = 0 then
        (([], (buildGo (Tx.splitL s.data.toList).2 b0).2.inner.body) :: (buildGo (Tx.splitL s.data.toList).2 b0).2.defined, 0, 0)
       else ([], s.size, 12))
     else ([], (buildGo (Tx.splitL s.data.toList).2 b0).1.1, (buildGo (Tx.splitL s.data.toList).2 b0).1.2)) := by rw [hfull]; unfold parseL; rw [if_pos he, hlen]; rfl
  rw [← hfull]
  unfold Tx.SplitPost at CT
  unfold Simp at hsim
  generalize Tx.splitL s.data.toList = x at *
  obtain ⟨te, ps⟩ := x
  simp only at he CT hfew hshort hp hsim
  subst he
  obtain ⟨fb, hfb⟩ : ∃ fb, fb = buildGo ps b0 := ⟨_, rfl⟩
  rw [← hfb] at hp
  have HT := Lib.hid CT; have HP := Lib.hid hp; have HL := Lib.hid hL; have HSI := Lib.hid hsim; have HSH := Lib.hid hshort; have HFB := Lib.hid hfb
  clear CT hp hL hfull hsim hshort hfb hlen hM
  go_enter Tryz.func24, Tryz.ntmps24
  go_upto_region 5 with (go_at_call 39; (refine HT.out.mono ?_); rintro e w1 ⟨b1, v, rfl, hv⟩; obtain ⟨a, pc, rfl⟩ := Sc.own_slice hv; have B1 := Lib.hid b1; have HV := Lib.hid hv; clear b1 hv)
  obtain ⟨W1, hW1⟩ : ∃ W1, W1 = w1.alloc (.cells #[.slice none 0 0, .slice none 0 0] 97) := ⟨_, rfl⟩
  have hb1 : Below w1.heap.size w1 W1 := by rw [hW1]; exact (Below.refl _ _).alloc (Nat.le_refl _) _
  have hx1 : W1.heap[w1.heap.size]? = some (.cells #[.slice none 0 0, .slice none 0 0] 97 (0, 0)) := by rw [hW1]; exact heap_alloc_new w1 _
  have hws := B1.out.size
  rw [← hW1]
  clear hW1
  obtain ⟨⟨c0, -⟩, f0, -⟩ := two_blk hx1
  have hl1 := (Array.getElem?_eq_some_iff.1 hx1).1
  have CE := enter_cell W1 w1.heap.size w1.heap.size hb1.size ⟨0, 0, ⟨#[]⟩, ⟨#[]⟩, none, 0, 0, none, 0, 0, none, 0, 0, false, none, 0, 0⟩ hl1 none 0 0 [] c0 f0 (World.ownsRow_nil _ _ _ _) (by omega) (fun e => by cases e)
  unfold C9.val at CE
  have HCE := Lib.hid CE; have HX1 := Lib.hid hx1; have HB1 := Lib.hid hb1
  clear CE hb1
  obtain ⟨base, hbase⟩ : ∃ base, base = w1.heap.size := ⟨_, rfl⟩
  rw [← hbase] at HCE HX1 HB1 c0 f0 hl1 hws ⊢
  have HBE := Lib.hid hbase
  clear hbase hx1
  go_upto_region 6 with (go_at_call 40; (refine HCE.out.mono ?_); rintro e w2 ⟨rfl, g0, k0, hp2⟩; have HV2 := Lib.hid (BV.start HX1.out (Nat.le_refl _) hp2); have HB2 := Lib.hid (hp2.below (Nat.le_of_lt hl1) (Nat.le_refl _) (fun m hm => by cases hm)); clear hp2)
  have hbw : Below base w1 w2 := HB1.out.trans HB2.out
  have HBW := Lib.hid hbw; clear hbw
  clear c0 f0
  go_wp2
  go_loopw [22] (fun iv wr => ∃ (k : Nat) (b : B), k ≤ ps.length ∧ iv = .int .i64 k ∧ BVE wr base base b ∧ Good k b ∧ Below base w1 wr ∧ Hid (fb = buildGo (ps.drop k) b)) (fun iv _ => ps.length - (intOf iv).toNat)
  case atStart => exact ⟨0, b0, Nat.zero_le _, rfl, HV2.out, good0, HBW.out, by rw [List.drop_zero]; exact HFB.out⟩
  case round =>
    obtain ⟨k, b, hk, rfl, hB, hG, hbl, hrest⟩ := hrel
    have HB := Lib.hid hB; have HG := Lib.hid hG; have HBL := Lib.hid hbl
    clear hB hG hbl
    by_cases hlt : k < ps.length
    · have hpos : 0 < ps.length := by omega
      obtain ⟨g, hg⟩ : ∃ g, a = some ⟨g, 0, none⟩ := by
        rcases HV.out.2 with ⟨h1, h2⟩ | ⟨g, cap, cur, h1, _⟩
        · omega
        · exact ⟨g, by injection h1⟩
      subst hg
      have hgl := HV.out.lt g rfl
      obtain ⟨p0, p1, p2⟩ := part_at HV.out k hlt
      have hgb : g < base := by rw [HBE.out]; exact hgl.2
      have p0 := (World.cell?_of_block (a := ⟨g, k * 3, none⟩) (HBL.out.block g hgb)).trans p0
      have p1 := (World.cell?_of_block (a := ⟨g, k * 3 + 1, none⟩) (HBL.out.block g hgb)).trans p1
      have p2 := (World.cell?_of_block (a := ⟨g, k * 3 + 2, none⟩) (HBL.out.block g hgb)).trans p2
      have hst := build_stepQ ps k hlt b
      have hmem := List.getElem_mem hlt
      generalize hpe : ps[k] = pt at *
      have hsl := HSH.out pt hmem
      have hsi := HSI.out pt hmem
      have hgs := fun h0 => HG.out.step pt hsi h0
      obtain ⟨W3, hW3⟩ : ∃ W3, W3 = wr.alloc (.cells #[.bool pt.act, .string ⟨pt.s.toArray⟩, .int .i64 pt.at_] 100) := ⟨_, rfl⟩
      have hb3 : Below wr.heap.size wr W3 := by rw [hW3]; exact (Below.refl _ _).alloc (Nat.le_refl _) _
      have hx3 : W3.heap[wr.heap.size]? = some (.cells #[.bool pt.act, .string ⟨pt.s.toArray⟩, .int .i64 pt.at_] 100 (0, 0)) := by rw [hW3]; exact heap_alloc_new wr _
      have hbs : base ≤ wr.heap.size := by obtain ⟨_, _, _, _, _, _, _, _, hh⟩ := HB.out; exact hh.le
      have hL3 : Lean W3 := (HL.out.below B1.out).below ((by rw [← HBE.out]; exact HBL.out.trans (hb3.mono hbs)))
      have hB3 : BVE W3 base base b := by obtain ⟨q1, q2, q3, q4, q5, q6, q7, q8, hh⟩ := HB.out; exact ⟨q1, q2, q3, q4, q5, q6, q7, q8, hh.below hb3⟩
      have CP := part_good HG.out (by omega) hB3 hL3 pt hsl hsi
      have HCP := Lib.hid CP; have HB3 := Lib.hid hb3; have HX3 := Lib.hid hx3; have HW3 := Lib.hid hW3; have HST := Lib.hid hst; have HGS := Lib.hid hgs
      obtain ⟨⟨u0, u1, u2⟩, -⟩ := three_blkP hx3
      have hl3 := (Array.getElem?_eq_some_iff.1 hx3).1
      have hkl : (k : Int) < (ps.length : Int) := by omega
      clear CP hb3 hx3 hW3 hB3 hL3 hst hgs hsi hmem
      go_upto_region 9 with fail
      rw [← HW3.out]
      obtain ⟨bx, hbx⟩ : ∃ bx, bx = wr.heap.size := ⟨_, rfl⟩
      rw [← hbx] at HX3 u0 u1 u2 hl3 ⊢
      have HBXE := Lib.hid hbx; clear hbx
      by_cases her : (partB pt b).1 = 0
      · have hst2 : fb = buildGo (ps.drop (k + 1)) (partB pt b).2 := by rw [hrest.out, HST.out, if_pos her]
        have hg2 := HGS.out her
        generalize hq : partB pt b = q at *
        obtain ⟨er, b'⟩ := q
        simp only at her
        subst her
        have HS2 := Lib.hid hst2; have HG2 := Lib.hid hg2
        clear hst2 hg2 hq HST HGS hrest
        go_wp2_with (go_at_call 41; (refine HCP.out.mono ?_); rintro e w4 ⟨rfl, h4, b4, -⟩)
        go_roundw
        case rel => exact ⟨k + 1, b', by omega, by go_num, h4, HG2.out, (HBL.out.trans (HB3.out.mono hbs)).trans b4, HS2.out⟩
        case measure => simp [intOf]; omega
      · have hst2 : fb = ((pt.at_, (partB pt b).1), b) := by rw [hrest.out, HST.out, if_neg her]
        have te : ((((partB pt b).1 : Nat) : Int) != 0) = true := by simp; omega
        have HFU := Lib.hid (show full = ([], pt.at_, (partB pt b).1) by rw [HP.out, hst2]; simp only; rw [if_neg her])
        have HCP2 : Hid (Calls Tryz.prog 41 #[.pointer (some ⟨base, 0, none⟩), .agg #[.bool pt.act, .string ⟨pt.s.toArray⟩, .int .i64 pt.at_]] W3 (fun e w' => e = .returned (.int .i64 (partB pt b).1) ∧ Below W3.heap.size W3 w')) := Lib.hid (HCP.out.mono (fun e w' h => ⟨h.1, h.2.2.2 her⟩))
        generalize (partB pt b).1 = er at *
        clear hst2 HCP HST HGS hrest her
        go_upto_region 11 with (go_at_call 41; (refine HCP2.out.mono ?_); rintro e w4 ⟨rfl, b4⟩; have hx4 := (b4.block bx hl3).trans HX3.out; obtain ⟨⟨v0, v1, v2⟩, -⟩ := three_blkP hx4; have hl4 := (Array.getElem?_eq_some_iff.1 hx4).1; have HB4 := Lib.hid b4; clear b4 hx4)
        go_region
        go_wp2
        go_ret3
        rw [HFU.out]
        have hb4 := HB3.out.trans (HB4.out.mono HB3.out.size)
        have hb5 : Below base w1 w4 := HBL.out.trans (hb4.mono hbs)
        exact ⟨none, [], 0, rfl, (B1.out.trans (hb5.mono hws)).drew, TpsV.nil⟩
    · obtain rfl : k = ps.length := by omega
      have hfb : fb = ((0, 0), b) := by rw [hrest.out, List.drop_length]; rfl
      obtain ⟨c, oa, oc, ys, xn, da, dc, ds, hV⟩ := HB.out
      have hdep := hV.depth
      have hds : ds.length ≤ 100 := by
        have h1 := hV.dis
        rw [HG.out.dfd] at h1
        have e : ds = [] := by simpa using h1
        rw [e]; exact Nat.zero_le _
      obtain ⟨⟨c0, -⟩, -⟩ := two_blk hV.blk
      have hy : ys.length ≤ 100 := by have := HG.out.dep; omega
      have CD := depth_cell wr base oa ys.length oc (by omega) c0
      have CT := templates_any hV (by have := HG.out.dep; omega) hds
      have HCT := Lib.hid CT
      have hbd : b.depth = ys.length := by unfold B.depth; omega
      have hbw : Below w.heap.size w wr := B1.out.trans (HBL.out.mono hws)
      have hwb : w.heap.size ≤ base := hws
      have HBW2 := Lib.hid hbw; have hle := hV.le
      have HBD := Lib.hid hbd; have HFB2 := Lib.hid hfb
      clear hrest hfb hdep c0 CT hV hbd hbw
      by_cases h0 : ys.length = 0
      · have HFU := Lib.hid (show full = (([], b.inner.body) :: b.defined, 0, 0) by rw [HP.out, HFB2.out]; simp only; rw [if_pos trivial, HBD.out, if_pos h0])
        rw [h0] at CD
        have HCD := Lib.hid CD
        clear h0 CD
        go_wp2_with (first
          | (go_at_call 42; (refine HCD.out.mono ?_); rintro e w5 ⟨rfl, rfl⟩)
          | (go_at_call 43; (refine HCT.out.mono ?_); rintro e w5 ⟨ta, us, tk, rfl, b5, ht⟩; have B5 := Lib.hid b5; have HTT := Lib.hid ht; clear b5 ht))
        go_ret3
        rw [HFU.out]
        exact ⟨ta, us, tk, by simp only [List.length_cons]; rw [Nat.add_comm]; rfl, HBW2.out.trans (B5.out.mono hwb), HTT.out.keep (fun g hg => ⟨Nat.le_trans hwb hg.1, hg.2⟩) (fun _ _ => rfl)⟩
      · have HFU := Lib.hid (show full = ([], s.size, 12) by rw [HP.out, HFB2.out]; simp only; rw [if_pos trivial, HBD.out, if_neg h0])
        obtain ⟨m, hm⟩ : ∃ m, ys.length = m + 1 := ⟨ys.length - 1, by omega⟩
        rw [hm] at CD
        have hm0 : (0 : Int) < (m : Int) + 1 := by omega
        have HCD := Lib.hid CD
        clear h0 CD
        go_wp2_with (go_at_call 42; (refine HCD.out.mono ?_); rintro e w5 ⟨rfl, rfl⟩)
        go_ret3
        rw [HFU.out]
        exact ⟨none, [], 0, rfl, HBW2.out, TpsV.nil⟩
/-- Parse. -/
theorem Parse_any (s : ByteArray) (w : World) (hs : s.size ≤ maxLen) (hL : Lean w) (hM : Tx.MaxTab w) (hsim : Simp s.data.toList) : Calls Tryz.prog 24 #[.string s] w (ParP w (parseL s.data.toList)) := by
  by_cases he : (Tx.splitL s.data.toList).1 = 0
  · refine Parse_ok s w ?_ hL hM he hsim
    have hlen : s.data.toList.length = s.size := by simp only [Array.length_toList]; rfl
    unfold Tx.splitL at he
    split at he
    · cases he
    · omega
  · exact Parse_bad s w hs hM he
end Tr
end Go.Proofs.YtlfbcaenlifmkaaGreatDoor
