/- KindsTable: its walk. -/
import Derived.Test.YtdophmlnmbcjlaaS48
import Derived.Test.YtdophmlnmbcjlaaS41
namespace Go.Proofs.Ytdophmlnmbcjlaa
open Go.RowKit
namespace Sp
open Sc
set_option maxRecDepth 100000
/-- The test of KindsTable, in pieces. -/
structure TabJ (f k : Nat) (tab : Tab) (r : Nat × Nat × List Kz) : Prop where
  op : OpL tab.T tab.N
  mlt : tab.m < tab.T.length
  bi : builtinB (tn8.getD f []) = true
  fit : fitS (ts8 k) = true
  of : ofJ tab.T tab.N (tn8.getD f []) [tab.m] = r
  lt : r.1 < r.2.2.length
  dot : (tk8.getD f []).getD k 0 = 46 → r.2.1 = 17 ∧ r.1 = 0
  is : (tk8.getD f []).getD k 0 ≠ 46 → r.2.1 = 0 ∧ (r.2.2.getD r.1 default).kind = tz8.getD f 0
theorem tab_is {f k : Nat} (hf : f < 5) (hk : k < 8) : ∃ tab r, newK (ts8 k) = (0, tab) ∧ TabJ f k tab r := by
  have h := tabB_at hf hk
  unfold tabB at h
  simp only [Bool.and_eq_true, decide_eq_true_eq] at h
  obtain ⟨⟨⟨⟨⟨⟨h1, h2⟩, h3⟩, h4⟩, h5⟩, h6⟩, h7⟩ := h
  refine ⟨tt8 k, _, Prod.ext h1 rfl, opB_is h3, h2, h5, h6, rfl, h4, fun e => ?_, fun e => ?_⟩
  · rw [if_pos e] at h7
    simpa using h7
  · rw [if_neg e] at h7
    simpa using h7
/-- The walk. -/
theorem tk8_at {f k : Nat} (hf : f < 5) (hk : k < 8) : ∃ tv : ByteArray, ∃ h : k < tv.size, (⟨(tk8.getD f []).toArray⟩ : ByteArray) = tv ∧ tv.size = 8 ∧ tv[k].toNat = ((tk8.getD f []).getD k 0).toNat := by
  have hl : (tk8.getD f []).length = 8 := by
    match f, hf with
    | 0, _ => rfl
    | 1, _ => rfl
    | 2, _ => rfl
    | 3, _ => rfl
    | 4, _ => rfl
  generalize tk8.getD f [] = l at *
  have hkl : k < l.length := by omega
  refine ⟨⟨l.toArray⟩, (show k < l.toArray.size by simpa using hkl), rfl, (show l.toArray.size = 8 by simpa using hl), ?_⟩
  show (l.toArray[k]'(by simpa using hkl)).toNat = _
  rw [List.getElem_toArray, List.getD, List.getElem?_eq_getElem hkl]
  rfl
theorem ts8_short {k : Nat} (hk : k < 8) : ShortS (ts8 k) := by
  refine ⟨fun i h => (by cases h), ?_, fun g h => by cases h⟩
  match k, hk with
  | 0, _ => exact ⟨by kernel_rfl, by kernel_rfl⟩
  | 1, _ => exact ⟨by kernel_rfl, by kernel_rfl⟩
  | 2, _ => exact ⟨by kernel_rfl, by kernel_rfl⟩
  | 3, _ => exact ⟨by kernel_rfl, by kernel_rfl⟩
  | 4, _ => exact ⟨by kernel_rfl, by kernel_rfl⟩
  | 5, _ => exact ⟨by kernel_rfl, by kernel_rfl⟩
  | 6, _ => exact ⟨by kernel_rfl, by kernel_rfl⟩
  | 7, _ => exact ⟨by kernel_rfl, by kernel_rfl⟩
theorem tz8_at {f : Nat} (hf : f < 5) : ([(2 : Int), 1, 2, 3, 1].map (Value.int .i64))[f]? = some (.int .i64 (tz8.getD f 0)) := by
  match f, hf with
  | 0, _ => rfl
  | 1, _ => rfl
  | 2, _ => rfl
  | 3, _ => rfl
  | 4, _ => rfl
set_option maxHeartbeats 30000000 in
theorem KindsTable_any (x y : Int) (w : World) (h1 : -9223372036854775808 ≤ x) (h2 : x ≤ 9223372036854775807) (h3 : -9223372036854775808 ≤ y) (h4 : y ≤ 9223372036854775807) :
    Calls Try.prog 8 #[.int .i64 x, .int .i64 y] w fun e w' => e = .returned (.bool true) ∧ Below w.heap.size w w' := by
  obtain ⟨f, hr, hf⟩ : ∃ r : Nat, x % 5 = r ∧ r < 5 := ⟨(x % 5).toNat, by omega, by omega⟩
  obtain ⟨k, hq, hk⟩ : ∃ q : Nat, y % 8 = q ∧ q < 8 := ⟨(y % 8).toNat, by omega, by omega⟩
  obtain ⟨⟨T, N, G, m⟩, ⟨r1, r2, r3⟩, hn, hB⟩ := tab_is hf hk
  obtain ⟨tv, hkv, htv, htz, htb⟩ := tk8_at hf hk
  have HR := Lib.hid hr; have HQ := Lib.hid hq; have HN := Lib.hid hn; have HB := Lib.hid hB; have HTV := Lib.hid htv; have HTB := Lib.hid htb
  clear hr hq hn hB htv htb
  go_enter Try.func8, Try.ntmps8
  go_upto_region 7 with (go_at_call 9; (with_reducible refine (known8_any _).mono ?_); rintro e w1 ⟨rfl, x1⟩; have HX1 := Lib.hid x1; clear x1)
  obtain ⟨W2, hW2⟩ : ∃ W2, W2 = (((((((((w1.alloc (.cells #[.int .i64 2, .string ⟨#[]⟩, .slice none 0 0, .slice none 0 0] 30)).alloc (.cells #[.int .i64 2, .string ⟨#[]⟩, .slice none 0 0, .slice none 0 0] 30)).alloc (.cells #[.int .i64 2, .string ⟨#[]⟩, .slice none 0 0, .slice none 0 0] 30)).alloc (.cells #[.int .i64 2, .string ⟨#[]⟩, .slice none 0 0, .slice none 0 0] 30)).alloc (.cells #[.string ⟨#[97]⟩] 9)).alloc (.cells #[.int .i64 2, .string ⟨#[]⟩, .slice none 0 0, .slice none 0 0] 30)).alloc (.cells #[.int .i64 1, .string ⟨#[]⟩, .slice none 0 0, .slice none 0 0, .int .i64 2, .string ⟨#[]⟩, .slice none 0 0, .slice none 0 0, .int .i64 3, .string ⟨#[]⟩, .slice none 0 0, .slice none 0 0, .int .i64 4, .string ⟨#[]⟩, .slice none 0 0, .slice (some ⟨w1.heap.size + 1, 0, none⟩) 1 1, .int .i64 5, .string ⟨#[]⟩, .slice none 0 0, .slice (some ⟨w1.heap.size + 1 + 1, 0, none⟩) 1 1, .int .i64 6, .string ⟨#[]⟩, .slice none 0 0, .slice (some ⟨w1.heap.size + 1 + 1 + 1, 0, none⟩) 1 1, .int .i64 7, .string ⟨#[]⟩, .slice none 0 0, .slice none 0 0, .int .i64 8, .string ⟨#[]⟩, .slice (some ⟨w1.heap.size + 1 + 1 + 1 + 1, 0, none⟩) 1 1, .slice (some ⟨w1.heap.size + 1 + 1 + 1 + 1 + 1, 0, none⟩) 1 1] 30)).alloc (.cells #[.string ⟨#[108, 101, 110]⟩, .string ⟨#[110, 111, 116]⟩, .string ⟨#[105, 56]⟩, .string ⟨#[116, 101, 120, 116]⟩, .string ⟨#[104, 97, 115]⟩] 9)).alloc (.cells #[.string ⟨#[46, 46, 84, 76, 77, 46, 46, 46]⟩, .string ⟨#[66, 46, 46, 46, 46, 46, 46, 46]⟩, .string ⟨#[46, 73, 46, 46, 46, 46, 46, 46]⟩, .string ⟨#[66, 73, 46, 46, 46, 46, 46, 46]⟩, .string ⟨#[46, 46, 46, 46, 46, 79, 46, 46]⟩] 9)) := ⟨_, rfl⟩
  have q := made (l := [_, _, _, _, _, _, _, _, _]) hW2
  have hz2 : W2.heap.size = w1.heap.size + 9 := by rw [hW2]; simp
  have hb2 : Below w1.heap.size w1 W2 := by rw [hW2]; repeat first | exact Below.refl _ _ | refine Below.alloc ?_ (by simp <;> omega) _
  obtain ⟨us, hus⟩ : ∃ us : List C4, us = [⟨1, ⟨#[]⟩, none, 0, 0, none, 0, 0⟩, ⟨2, ⟨#[]⟩, none, 0, 0, none, 0, 0⟩, ⟨3, ⟨#[]⟩, none, 0, 0, none, 0, 0⟩, ⟨4, ⟨#[]⟩, none, 0, 0, some ⟨w1.heap.size + 1, 0, none⟩, 1, 1⟩, ⟨5, ⟨#[]⟩, none, 0, 0, some ⟨w1.heap.size + 1 + 1, 0, none⟩, 1, 1⟩, ⟨6, ⟨#[]⟩, none, 0, 0, some ⟨w1.heap.size + 1 + 1 + 1, 0, none⟩, 1, 1⟩, ⟨7, ⟨#[]⟩, none, 0, 0, none, 0, 0⟩, ⟨8, ⟨#[]⟩, some ⟨w1.heap.size + 1 + 1 + 1 + 1, 0, none⟩, 1, 1, some ⟨w1.heap.size + 1 + 1 + 1 + 1 + 1, 0, none⟩, 1, 1⟩] := ⟨_, rfl⟩
  have h8 : RwT W2 (w1.heap.size + 1 + 1 + 1 + 1 + 1 + 1) tl8 us := by
    subst hus
    refine ⟨rfl, RowV.blk (q 6 _ rfl) rfl (cells4_len _), fun i h h' => ?_⟩
    match i, h with
    | 0, _ => exact TzV.leaf _ _ 1 []
    | 1, _ => exact TzV.leaf _ _ 2 []
    | 2, _ => exact TzV.leaf _ _ 3 []
    | 3, _ => exact TzV.kid (c := ⟨2, ⟨#[]⟩, none, 0, 0, none, 0, 0⟩) 4 (q 1 _ rfl) (TzV.leaf _ _ 2 [])
    | 4, _ => exact TzV.kid (c := ⟨2, ⟨#[]⟩, none, 0, 0, none, 0, 0⟩) 5 (q 2 _ rfl) (TzV.leaf _ _ 2 [])
    | 5, _ => exact TzV.kid (c := ⟨2, ⟨#[]⟩, none, 0, 0, none, 0, 0⟩) 6 (q 3 _ rfl) (TzV.leaf _ _ 2 [])
    | 6, _ => exact TzV.leaf _ _ 7 []
    | 7, _ => exact TzV.fld 8 [97] (c := ⟨2, ⟨#[]⟩, none, 0, 0, none, 0, 0⟩) (q 4 _ rfl) (q 5 _ rfl) (TzV.leaf _ _ 2 [])
  have hnm : W2.heap[w1.heap.size + 1 + 1 + 1 + 1 + 1 + 1 + 1]? = some (.cells (nmsV tn8).toArray 9 (0, 0)) := q 7 _ rfl
  have htk : W2.heap[w1.heap.size + 1 + 1 + 1 + 1 + 1 + 1 + 1 + 1]? = some (.cells (nmsV tk8).toArray 9 (0, 0)) := q 8 _ rfl
  have hku : k < us.length := by rw [hus]; exact hk
  have hte : tl8.getD k zI = tl8[k]'hk := by rw [List.getD, List.getElem?_eq_getElem hk]; rfl
  have hvk : ∃ ck, us[k] = ck ∧ TzV W2 (Any W2) (tl8.getD k zI) ck := ⟨_, rfl, hte ▸ h8.val k hk hku⟩
  obtain ⟨ck, hck, hvk⟩ := hvk
  obtain ⟨p0, p1, p2, p3⟩ := h8.at k hku W2 (Below.refl _ _)
  rw [hck] at p0 p1 p2 p3
  have CN := new_at (w := W2) (ts8 k) 0 0 (SzV.build hvk (NmsV.nil none) (SgsV.nil none)) rfl HB.out.fit (ts8_short hk) ⟨Nat.zero_le _, Nat.zero_le _⟩ HN.out
  have HW2 := Lib.hid hW2; have HB2 := Lib.hid (HX1.out.trans (hb2.mono HX1.out.size)); have HNM := Lib.hid hnm; have HTK := Lib.hid htk; have HCN := Lib.hid CN
  have hlu : us.length = 8 := by rw [hus]; rfl
  clear hW2 hb2 h8 q hus hnm htk CN hvk hck hte
  rw [← HW2.out]
  clear HW2
  have hkz : (k : Int) < 8 := by omega
  have hfz : (f : Int) < 5 := by omega
  go_upto_region 8 with (first | (go_at_call 12; (with_reducible refine (within8_is _ _ _ _ (by omega) (by omega) h1 h2 HR.out).mono ?_); rintro e w2 ⟨rfl, rfl⟩) | (go_at_call 12; (with_reducible refine (within8_is _ _ _ _ (by omega) (by omega) h3 h4 HQ.out).mono ?_); rintro e w2 ⟨rfl, rfl⟩))
  go_upto_region 9 with (go_at_call 10; (refine HCN.out.mono ?_); rintro e w3 ⟨tb, rb, nb, mb, sb, ty, nu, vs, rfl, s3, x3⟩; have HS3 := Lib.hid s3; have hz3 := x3.size; have HL3 := Lib.hid x3; have HX3 := Lib.hid (HB2.out.trans (x3.mono HB2.out.size)); clear s3 x3)
  clear p0 p1 p2 p3 hlu hku HCN
  have n3 : w3.cell? ⟨w1.heap.size + 1 + 1 + 1 + 1 + 1 + 1 + 1, f, none⟩ = some (.string ⟨(tn8.getD f []).toArray⟩) := cell_blk ((HL3.out.block _ (by omega)).trans HNM.out) (nmsV_at hf)
  obtain ⟨nm, hnm⟩ : ∃ nm, tn8.getD f [] = nm := ⟨_, rfl⟩
  have hof : ∀ (W : World) (g : Nat), Below w3.heap.size w3 W → W.heap[g]? = some (.cells #[.int .i64 (m : Nat)] 3 (0, 0)) → Calls Try.prog 13 #[.pointer (some ⟨tb, 0, none⟩), .string ⟨nm.toArray⟩, .slice (some ⟨g, 0, none⟩) 1 1] W (MadeJ W2.heap.size w3 tb rb nb mb sb m N G vs (r1, r2, r3)) := fun W g hW hg => by
    have h := Of_any nm (hnm ▸ HB.out.bi) [m] W W2.heap.size tb rb nb mb sb m ty nu T N G vs (HS3.out.below hW) (Nat.le_trans HL3.out.size hW.size) HB.out.op (fun j hj => by rw [List.mem_singleton.1 hj]; exact HB.out.mlt) (some ⟨g, 0, none⟩) 1 (idsL_blk (l := [m]) hg)
    rw [← hnm, show ofJ T N (tn8.getD f []) [m] = (r1, r2, r3) from HB.out.of] at h
    rw [← hnm]; exact h.mono fun e w' hq => hq.after HL3.out.size hW
  rw [hnm] at n3
  have HOF := Lib.hid hof
  clear hof hnm
  have hz7 : w1.heap.size + 1 + 1 + 1 + 1 + 1 + 1 + 1 < w3.heap.size := by omega
  have hz7b : w1.heap.size + 1 + 1 + 1 + 1 + 1 + 1 + 1 < W2.heap.size := by omega
  have n3d : w3.drew.cell? ⟨w1.heap.size + 1 + 1 + 1 + 1 + 1 + 1 + 1, f, none⟩ = some (.string ⟨nm.toArray⟩) := n3
  go_region_held3 (fun w' => w'.cell? ⟨w1.heap.size + 1 + 1 + 1 + 1 + 1 + 1 + 1, f, none⟩ = some (.string ⟨nm.toArray⟩)) (first | exact n3 | exact n3d | exact n4 | exact n5 | go_keep) (first
    | (go_at_call 17; (refine (HS3.out.below (Below.refl _ _).drew).main.mono ?_); rintro e w4 ⟨rfl, x4⟩; have n4 := (x4.cell (p := ⟨w1.heap.size + 1 + 1 + 1 + 1 + 1 + 1 + 1, f, none⟩) hz7).trans n3d; have HX4 := Lib.hid x4; clear x4)
    | (go_at_call 13; (refine (HOF.out _ _ ((show Below w3.heap.size w3 w4 from (Below.refl _ _).drew.trans HX4.out).alloc HX4.out.size _) (heap_alloc_new _ _)).mono ?_); rintro e w5 ⟨rb5, nb5, ty5, nu5, rfl, s5, x5, -⟩; have n5 := (x5.cell (p := ⟨w1.heap.size + 1 + 1 + 1 + 1 + 1 + 1 + 1, f, none⟩) hz7b).trans n3; have hz5 := x5.size; have HS5 := Lib.hid s5; have HX5 := Lib.hid x5; clear s5 x5))
  clear n3d
  obtain ⟨kn, hkn⟩ : ∃ kn, r3[r1]'HB.out.lt = kn := ⟨_, rfl⟩
  have hkd : (r3.getD r1 default).kind = kn.kind := by rw [getD_at HB.out.lt, hkn]
  have CND := tnode_in r1 w5 tb rb5 nb5 mb sb m ty5 nu5 r3 HS5.out.tab HB.out.lt
  rw [hkn] at CND
  have HND := Lib.hid CND; have HKD := Lib.hid hkd
  clear CND hkd hkn
  go_upto_region 11 with (go_at_call 21; (refine HND.out.mono ?_); rintro e w6 ⟨an, cn, ak, cq, rfl, -, -, x6⟩; have hz6 := x6.size; have HX6 := Lib.hid x6; clear x6)
  obtain ⟨W7, hW7⟩ : ∃ W7, W7 = w6.alloc (.cells #[.int .i64 kn.kind, .string ⟨kn.name.toArray⟩, .slice an kn.names.length cn, .slice ak kn.kids.length cq] 59) := ⟨_, rfl⟩
  have hb7 : Below w6.heap.size w6 W7 := by rw [hW7]; exact (Below.refl _ _).alloc (Nat.le_refl _) _
  have hbz : Below W2.heap.size W2 W7 := HL3.out.trans (HX5.out.trans ((HX6.out.mono (by omega)).trans (hb7.mono (by omega))))
  have n7 : W7.cell? ⟨w1.heap.size + 1 + 1 + 1 + 1 + 1 + 1 + 1 + 1, f, none⟩ = some (.string ⟨(tk8.getD f []).toArray⟩) := cell_blk ((hbz.block _ (by omega)).trans HTK.out) (nmsV_at hf)
  rw [HTV.out] at n7
  have m7 : W7.cell? ⟨w6.heap.size, 0, none⟩ = some (.int .i64 kn.kind) := (four_blk (by rw [hW7]; exact heap_alloc_new w6 _)).1.1
  rw [← hW7]
  have hz7w : w6.heap.size + 1 ≤ W7.heap.size := by rw [hW7]; simp
  have HBZ := Lib.hid (HB2.out.trans (hbz.mono HB2.out.size))
  clear hW7 hb7 hbz n3 n4 n5
  by_cases hd : (tk8.getD f []).getD k 0 = 46
  · obtain ⟨rfl, rfl⟩ : r2 = 17 ∧ r1 = 0 := HB.out.dot hd
    have htb : tv[k].toNat = 46 := by rw [HTB.out, hd]; rfl
    go_wp2
    go_ret
    exact ⟨rfl, HBZ.out⟩
  · have hr2 := HB.out.is hd
    obtain ⟨rfl, hr2⟩ : r2 = 0 ∧ (r3.getD r1 default).kind = tz8.getD f 0 := hr2
    rw [HKD.out] at hr2
    have htb : ¬ tv[k].toNat = 46 := by rw [HTB.out]; intro e; exact hd (UInt8.toNat_inj.1 e)
    obtain ⟨z, hz⟩ : ∃ z, tz8.getD f 0 = z := ⟨_, rfl⟩
    rw [hz] at hr2
    obtain ⟨kk, hkk⟩ : ∃ kk, kn.kind = kk := ⟨_, rfl⟩
    rw [hkk] at m7 hr2
    subst hr2
    go_upto_region 13 with fail
    have e8 : (W7.alloc (.cells #[.int .i64 2, .int .i64 1, .int .i64 2, .int .i64 3, .int .i64 1] 3)).cell? ⟨w6.heap.size, 0, none⟩ = some (.int .i64 kk) := (World.cell?_alloc_some W7 _ _ (by rw [m7]; rfl)).trans m7
    have x8 : (W7.alloc (.cells #[.int .i64 2, .int .i64 1, .int .i64 2, .int .i64 3, .int .i64 1] 3)).cell? ⟨W7.heap.size, f, none⟩ = some (.int .i64 kk) := cell_blk (cs := [.int .i64 2, .int .i64 1, .int .i64 2, .int .i64 3, .int .i64 1]) (heap_alloc_new W7 _) (hz ▸ tz8_at hf)
    go_region
    all_goals (go_wp2; go_ret; exact ⟨rfl, (HBZ.out.drew.alloc HBZ.out.drew.size _)⟩)
end Sp
end Go.Proofs.Ytdophmlnmbcjlaa
