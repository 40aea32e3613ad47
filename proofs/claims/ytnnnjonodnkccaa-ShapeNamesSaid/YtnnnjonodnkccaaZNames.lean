/- ShapeNames' walk. -/
import Derived.Test.YtnnnjonodnkccaaZGrow
namespace Go.Proofs.Ytnnnjonodnkccaa
open Go.RowKit
namespace Sp
open Sc

def oI : Obj := .cells #[.int .i64 2, .string ⟨#[]⟩, .slice none 0 0, .slice none 0 0] 25
def oGone : Obj := .cells #[.int .i64 9, .string ⟨#[71, 111, 110, 101]⟩, .slice none 0 0, .slice none 0 0] 25
def NRel (W1 : World) (m tb : Nat) (v : Value) (wr : World) (k : Nat) (t : Tz) (c : C4) : Prop :=
  v = .int .i64 k ∧ k ≤ m ∧ wr.heap[tb]? = some (.cells #[.int .i64 c.k, .string c.n, .slice c.an c.ln c.cn, .slice c.ak c.lk c.ck] 25 (0, 0)) ∧ TzV wr (Free wr [tb] []) t c ∧ GoneT k t ∧ Only tb W1 wr
theorem NRel.go {W1 wr w' : World} {m tb k : Nat} {t : Tz} {c : C4} (h : Held [tb] [] tb 25 wr w' t c) (hO : Only tb W1 wr) (hk : k + 1 ≤ m) (hG : GoneT (k + 1) t) : NRel W1 m tb (.int .i64 (k + 1)) w' (k + 1) t c :=
  ⟨by go_num, hk, h.at_, h.val, hG, hO.trans h.only⟩
theorem names_end {w w1 wr w6 : World} (hx : Below w.heap.size w w1) (ho : Only (w1.heap.size + 1) ((w1.alloc oI).alloc oGone) wr) (y : Below wr.heap.size wr w6) : Below w.heap.size w w6 := by
  have h1 := hx.size
  have h2 := ho.size
  simp at h2
  exact (((hx.alloc h1 _).alloc (by simp; omega) _).trans (ho.below (by omega) (by simp; omega))).trans (y.mono (by omega))
theorem gone_fitS (p : Nat) (hp : p < 4) {k : Nat} {t : Tz} (h : GoneT k t) (more : List NT) (hm : more = [] ∨ more = [goneN]) : fitS (goneS p t more) = true := by
  have a := gone_fit h
  have b : fitZ zI = true := rfl
  have d : decide (goneN.1.length ≤ maxLen) = true := rfl
  have e : goneN.2 = zI := rfl
  have f : decide ([(65 : UInt8)].length ≤ maxLen) = true := rfl
  have g : decide ([(102 : UInt8)].length ≤ maxLen) = true := rfl
  have j : decide ([zI, t].length ≤ maxLen) = true := rfl
  have j0 : decide (([] : List Tz).length ≤ maxLen) = true := rfl
  rcases hm with rfl | rfl
  all_goals
    match p, hp with
    | 0, _ => simp only [fitS, goneS, List.all_nil, List.all_cons, a, b, d, e, Bool.and_self]
    | 1, _ => simp only [fitS, goneS, List.all_nil, List.all_cons, List.cons_append, List.nil_append, List.append_nil, a, b, d, e, f, Bool.and_self]
    | 2, _ => simp only [fitS, goneS, List.all_nil, List.all_cons, fitG, fitZs, a, b, d, e, g, j, Bool.and_self]
    | 3, _ => simp only [fitS, goneS, List.all_nil, List.all_cons, fitG, fitZs, a, b, d, e, g, j0, Bool.and_self]
theorem Check_gone1 {w : World} {args : Array Value} (p : Nat) (hp : p < 4) {k : Nat} {t : Tz} (hG : GoneT k t) (hk : k ≤ 8) {c : C4} {a1 a2 : Option Addr} {us : List (List UInt8 × C4)} {gs : List (List UInt8 × G6)} (c1 c2 : Nat) (hV : SzV w (Any w) (goneS p t []) c a1 us a2 gs)
    (ha : args = #[.agg #[.int .i64 c.k, .string c.n, .slice c.an c.ln c.cn, .slice c.ak c.lk c.ck, .slice a1 (goneS p t []).types.length c1, .slice a2 (goneS p t []).sigs.length c2]]) :
    Calls Try.prog 17 args w fun e w' => e = .returned (.int .i64 15) ∧ Below w.heap.size w w' :=
  Check_at _ c1 c2 hV ha (gone_fitS p hp hG [] (.inl rfl)) (by match p, hp with | 0, _ => rfl | 1, _ => rfl | 2, _ => rfl | 3, _ => rfl) (by rw [gone_check p hp hG hk]; rfl)
theorem Check_gone2 {w : World} {args : Array Value} (p : Nat) (hp : p < 4) {k : Nat} {t : Tz} (hG : GoneT k t) (hk : k ≤ 8) {c : C4} {a1 a2 : Option Addr} {us : List (List UInt8 × C4)} {gs : List (List UInt8 × G6)} (c1 c2 : Nat) (hV : SzV w (Any w) (goneS p t [goneN]) c a1 us a2 gs)
    (ha : args = #[.agg #[.int .i64 c.k, .string c.n, .slice c.an c.ln c.cn, .slice c.ak c.lk c.ck, .slice a1 (goneS p t [goneN]).types.length c1, .slice a2 (goneS p t [goneN]).sigs.length c2]]) :
    Calls Try.prog 17 args w fun e w' => e = .returned (.int .i64 0) ∧ Below w.heap.size w w' :=
  Check_at _ c1 c2 hV ha (gone_fitS p hp hG [goneN] (.inr rfl)) (by match p, hp with | 0, _ => rfl | 1, _ => rfl | 2, _ => rfl | 3, _ => rfl) (by rw [gone_ok p hp hG hk]; rfl)
/-- A function of one type, a name's, with two parameters. -/
theorem SgV.pair {w : World} {S : Nat → Prop} (n : List UInt8) {t u r : Tz} {c d e : C4} {g : Nat} {ty : TypeId} {fr : Nat × Nat} (hS : S g) (h : w.heap[g]? = some (.cells #[.int .i64 c.k, .string c.n, .slice c.an c.ln c.cn, .slice c.ak c.lk c.ck, .int .i64 d.k, .string d.n, .slice d.an d.ln d.cn, .slice d.ak d.lk d.ck] ty fr)) (hV : TzV w S t c) (hU : TzV w S u d) (hR : TzV w S r e) :
    SgV w S ⟨n, [t, u], r⟩ (n, ⟨some ⟨g, 0, none⟩, 2, 2, e⟩) :=
  ⟨rfl, rfl, ⟨[c, d], rfl, .inr ⟨g, 0, rfl, hS, fun i hi j v hv => by
    have := flat_at ([c, d].map C4.cells) (cells4_len [c, d]) i hi j v hv
    rw [Nat.zero_add]
    simp only [World.cell?, h]
    rw [← Array.getElem?_toList]
    exact this⟩, fun i h h' => by
    match i, h with
    | 0, _ => exact hV
    | 1, _ => exact hU⟩, hR⟩

set_option maxRecDepth 100000 in
set_option maxHeartbeats 8000000 in
theorem ShapeNames_0 (at_ deep way : Int) (w : World) (h1 : -9223372036854775808 ≤ at_) (h2 : at_ ≤ 9223372036854775807) (h3 : -9223372036854775808 ≤ deep) (h4 : deep ≤ 9223372036854775807) (hp : at_ % 4 = 0) :
    Calls Try.prog 9 #[.int .i64 at_, .int .i64 deep, .int .i64 way] w fun e w' => e = .returned (.bool true) ∧ Below w.heap.size w w' := by
  obtain ⟨m, hm, hm8⟩ : ∃ m : Nat, deep % 8 = m ∧ m < 8 := ⟨(deep % 8).toNat, by omega, by omega⟩
  have HM := Lib.hid hm; have HP0 := Lib.hid hp; clear hm hp
  obtain ⟨i0, hi, hz0, hz1, hz2⟩ := info_parts infoN
  have HI := Lib.hid hi; have HI0 := Lib.hid hz0; have HI1 := Lib.hid hz1; have HI2 := Lib.hid hz2; clear hi hz0 hz1 hz2
  go_enter Try.func9, Try.ntmps9
  go_wp2_with (go_at_call 12; (with_reducible refine (known_any _).mono ?_); rintro e w1 ⟨rfl, x1⟩; have HX1 := Lib.hid x1; clear x1)
  go_loopw [9] (fun v wr => ∃ k t c, NRel ((w1.alloc oI).alloc oGone) m (w1.heap.size + 1) v wr k t c) (fun v _ => m - (intOf v).toNat)
  case atStart => exact ⟨0, zN [71, 111, 110, 101], cN [71, 111, 110, 101], rfl, by omega, by rw [blk_if, if_pos (by simp)]; rfl, TzV.leaf _ _ 9 _, .name, Only.refl _ _⟩
  case round =>
    obtain ⟨k, t, c, rfl, hk, hb, hV, hG, hO⟩ := hrel
    obtain ⟨⟨r0, r1, r2, r3⟩, ⟨f0, f1, f2, f3⟩⟩ := four_blk hb
    have hI : wr.heap[w1.heap.size]? = some oI := hO.blk (by rw [blk_if, if_neg (by simp), blk_if, if_pos rfl]) (by omega)
    obtain ⟨⟨s0, s1, s2, s3⟩, _⟩ := four_blk hI
    have hz := (Array.getElem?_eq_some_iff.1 hb).1
    have hz0 : w1.heap.size < wr.heap.size := by omega
    have HV := Lib.hid hV; have HG := Lib.hid hG; have HO := Lib.hid hO; have HBK := Lib.hid hb; have HIB := Lib.hid hI
    clear hV hG hO hb hI
    by_cases hlt : k < m
    · obtain ⟨q, hq, hq4⟩ : ∃ q : Nat, wrap64 (way + k) % 4 = q ∧ q < 4 := ⟨(wrap64 (way + k) % 4).toNat, by omega, by omega⟩
      have HQ := Lib.hid hq; clear hq
      go_wp2_with (go_at_call 19; (with_reducible refine (within_is _ _ _ _ (by omega) (by omega) h3 h4 HM.out).mono ?_); rintro e w2 ⟨rfl, rfl⟩)
      obtain rfl | rfl | rfl | rfl : q = 0 ∨ q = 1 ∨ q = 2 ∨ q = 3 := by omega
      · have HQ0 : Hid (wrap64 (way + k) % 4 = 0) := Lib.hid HQ.out
        go_wp2_with (go_at_call 19; (with_reducible refine (within_is _ _ _ _ (by omega) (by omega) (wrap64_bd _).1 (wrap64_bd _).2 HQ0.out).mono ?_); rintro e w2 ⟨rfl, rfl⟩)
        have hX : ∀ x ∈ [w1.heap.size + 1], x < wr.heap.size := fun x hx => by rw [List.mem_singleton.1 hx]; exact hz
        have htb : w1.heap.size + 1 ∈ [w1.heap.size + 1] := List.mem_singleton.2 rfl
        go_roundw
        case rel => exact ⟨k + 1, _, _, NRel.go (t := .mk 4 [] [] [t]) (nest_kid 4 HBK.out HV.out hX htb (by simp)) HO.out (by omega) (.list HG.out)⟩
        case measure => simp [intOf]; omega
      · have HQ0 : Hid (wrap64 (way + k) % 4 = 1) := Lib.hid HQ.out
        go_wp2_with (go_at_call 19; (with_reducible refine (within_is _ _ _ _ (by omega) (by omega) (wrap64_bd _).1 (wrap64_bd _).2 HQ0.out).mono ?_); rintro e w2 ⟨rfl, rfl⟩)
        have hX : ∀ x ∈ [w1.heap.size + 1], x < wr.heap.size := fun x hx => by rw [List.mem_singleton.1 hx]; exact hz
        have htb : w1.heap.size + 1 ∈ [w1.heap.size + 1] := List.mem_singleton.2 rfl
        go_roundw
        case rel => exact ⟨k + 1, _, _, NRel.go (t := .mk 7 [] [[97], [98]] [zI, t]) (nest_two 7 [97] [98] HBK.out (TzV.leaf _ _ 2 []) HV.out hX htb (by simp)) HO.out (by omega) (.rcd HG.out)⟩
        case measure => simp [intOf]; omega
      · have HQ0 : Hid (wrap64 (way + k) % 4 = 2) := Lib.hid HQ.out
        go_wp2_with (go_at_call 19; (with_reducible refine (within_is _ _ _ _ (by omega) (by omega) (wrap64_bd _).1 (wrap64_bd _).2 HQ0.out).mono ?_); rintro e w2 ⟨rfl, rfl⟩)
        have hX : ∀ x ∈ [w1.heap.size + 1], x < wr.heap.size := fun x hx => by rw [List.mem_singleton.1 hx]; exact hz
        have htb : w1.heap.size + 1 ∈ [w1.heap.size + 1] := List.mem_singleton.2 rfl
        go_roundw
        case rel => exact ⟨k + 1, _, _, NRel.go (t := .mk 8 [] [[97]] [t]) (nest_fld 8 [97] HBK.out HV.out hX htb (by simp)) HO.out (by omega) (.union HG.out)⟩
        case measure => simp [intOf]; omega
      · have HQ0 : Hid (wrap64 (way + k) % 4 = 3) := Lib.hid HQ.out
        go_wp2_with (go_at_call 19; (with_reducible refine (within_is _ _ _ _ (by omega) (by omega) (wrap64_bd _).1 (wrap64_bd _).2 HQ0.out).mono ?_); rintro e w2 ⟨rfl, rfl⟩)
        have hX : ∀ x ∈ [w1.heap.size + 1], x < wr.heap.size := fun x hx => by rw [List.mem_singleton.1 hx]; exact hz
        have htb : w1.heap.size + 1 ∈ [w1.heap.size + 1] := List.mem_singleton.2 rfl
        go_roundw
        case rel => exact ⟨k + 1, _, _, NRel.go (t := .mk 5 [] [] [t]) (nest_kid 5 HBK.out HV.out hX htb (by simp)) HO.out (by omega) (.map HG.out)⟩
        case measure => simp [intOf]; omega
    · obtain rfl : m = k := by omega
      go_wp2_with (first | (go_at_call 19; (with_reducible refine (within_is _ _ _ _ (by omega) (by omega) h3 h4 HM.out).mono ?_); rintro e w2 ⟨rfl, rfl⟩) | (go_at_call 19; (with_reducible refine (within_is _ _ _ _ (by omega) (by omega) h1 h2 HP0.out).mono ?_); rintro e w2 ⟨rfl, rfl⟩))
      refine (Check_gone1 0 (by decide) HG.out (by omega) 0 0 (SzV.build (HV.out.any.grow (by repeat first | exact Below.refl _ _ | refine Below.alloc ?_ (by simp <;> omega) _)) (NmsV.nil none) (SgsV.nil none)) rfl).mono ?_
      rintro e w3 ⟨rfl, x3⟩
      have y3 : Below wr.heap.size wr w3 := Below.trans (by repeat first | exact Below.refl _ _ | refine Below.alloc ?_ (by simp <;> omega) _) (x3.mono (by simp <;> omega))
      have hz3 := x3.size
      simp at hz3
      have hS3 : w3.heap[wr.heap.size]? = some (.cells #[.int .i64 c.k, .string c.n, .slice c.an c.ln c.cn, .slice c.ak c.lk c.ck, .slice none 0 0, .slice none 0 0] 29 (0, 0)) := (x3.block _ (by simp <;> omega)).trans (by rw [blk_if, if_pos (by simp)]; try rfl)
      have hI3 : w3.heap[w1.heap.size]? = some oI := (y3.block _ hz0).trans HIB.out
      obtain ⟨⟨a0, a1, a2, a3, a4, a5⟩, ⟨b0, b1, b2, b3, b4, b5⟩⟩ := six_blkF hS3
      obtain ⟨⟨q0, q1, q2, q3⟩, _⟩ := four_blk hI3
      have OWN := Lib.hid (World.ownsRow_nil w3 (wr.heap.size + 1) 44 5)
      have HX3 := Lib.hid x3; have HY3 := Lib.hid y3; have HS3 := Lib.hid hS3; have HI3 := Lib.hid hI3
      clear x3 y3 hS3 hI3 r0 r1 r2 r3 f0 f1 f2 f3 s0 s1 s2 s3
      go_wp2_with (at_builtin; (refine Sh.wpList_append_fresh rfl _ _ 26 rfl (wr.heap.size + 1) 44 i0 (.agg #[.string ⟨#[]⟩, .int .i64 0, .string ⟨#[]⟩, .slice none 0 0, .slice none 0 0]) 5 88 Try.underlying26 HI.out HI0.out HI1.out HI2.out rfl (by decide) _ _ _ rfl (OWN.out.alloc _) ⟨w3.heap.size, 0, none⟩ 1 1 [.string ⟨#[71, 111, 110, 101]⟩, .int .i64 2, .string ⟨#[]⟩, .slice none 0 0, .slice none 0 0] rfl rfl (cells_newZ _ _ _) (one5 (n := [71, 111, 110, 101])) (by unfold maxLen; omega) (by omega) (by simp; omega) ?_); intro v' w4 hown' hgrow hfr; have y4 : Below wr.heap.size wr w4 := (HY3.out.alloc HY3.out.size _).trans (below_grown hgrow (fun k e => by cases e) (by have := HY3.out.size; simp; omega)); have hS4 : w4.heap[wr.heap.size]? = some (.cells #[.int .i64 c.k, .string c.n, .slice c.an c.ln c.cn, .slice c.ak c.lk c.ck, .slice none 0 0, .slice none 0 0] 29 (0, 0)) := (hgrow.block _ (by simp; omega) (fun e => by cases e)).trans (blk_allocZ HS3.out _); have hsb : v'.ownBlock ≠ some wr.heap.size := fresh_ne hfr (fun e => by cases e) (by simp; omega); have hz4 := hgrow.size; simp at hz4; obtain ⟨av, cv, rfl⟩ := own_sliceZ hown'; obtain ⟨⟨c0, c1, c2, c3, c4, c5⟩, ⟨d0, d1, d2, d3, d4, d5⟩⟩ := six_blkF hS4; have HOW := Lib.hid hown'; have HY4 := Lib.hid y4; have HS4 := Lib.hid hS4; have HSB := Lib.hid hsb; clear hown' hgrow hfr y4 hS4 hsb)
      have Y5 := Lib.hid (HY4.out.trans (below_set (w := w4) (b := wr.heap.size) 4 (.slice av 1 cv) (Nat.le_refl _) HY4.out.size))
      refine (Check_gone2 0 (by decide) HG.out (by omega) cv 0 (SzV.build (HV.out.any.grow Y5.out) (NmsV.sl (l := [goneN]) (us := [([71, 111, 110, 101], cI)]) (HOW.out.kept ((Only.refl wr.heap.size w4).setCell 4 _) (.inr HSB.out)) rfl (fun i h h' => by match i, h with | 0, _ => exact ⟨rfl, TzV.leaf _ _ 2 []⟩)) (SgsV.nil none)) rfl).mono ?_
      rintro e w6 ⟨rfl, x6⟩
      have HX6 := Lib.hid x6; clear x6
      go_wp2
      go_ret
      exact ⟨rfl, names_end HX1.out HO.out (Y5.out.trans (HX6.out.mono (by simp; omega)))⟩

set_option maxRecDepth 100000 in
set_option maxHeartbeats 8000000 in
theorem ShapeNames_1 (at_ deep way : Int) (w : World) (h1 : -9223372036854775808 ≤ at_) (h2 : at_ ≤ 9223372036854775807) (h3 : -9223372036854775808 ≤ deep) (h4 : deep ≤ 9223372036854775807) (hp : at_ % 4 = 1) :
    Calls Try.prog 9 #[.int .i64 at_, .int .i64 deep, .int .i64 way] w fun e w' => e = .returned (.bool true) ∧ Below w.heap.size w w' := by
  obtain ⟨m, hm, hm8⟩ : ∃ m : Nat, deep % 8 = m ∧ m < 8 := ⟨(deep % 8).toNat, by omega, by omega⟩
  have HM := Lib.hid hm; have HP0 := Lib.hid hp; clear hm hp
  obtain ⟨i0, hi, hz0, hz1, hz2⟩ := info_parts infoN
  have HI := Lib.hid hi; have HI0 := Lib.hid hz0; have HI1 := Lib.hid hz1; have HI2 := Lib.hid hz2; clear hi hz0 hz1 hz2
  go_enter Try.func9, Try.ntmps9
  go_wp2_with (go_at_call 12; (with_reducible refine (known_any _).mono ?_); rintro e w1 ⟨rfl, x1⟩; have HX1 := Lib.hid x1; clear x1)
  go_loopw [9] (fun v wr => ∃ k t c, NRel ((w1.alloc oI).alloc oGone) m (w1.heap.size + 1) v wr k t c) (fun v _ => m - (intOf v).toNat)
  case atStart => exact ⟨0, zN [71, 111, 110, 101], cN [71, 111, 110, 101], rfl, by omega, by rw [blk_if, if_pos (by simp)]; rfl, TzV.leaf _ _ 9 _, .name, Only.refl _ _⟩
  case round =>
    obtain ⟨k, t, c, rfl, hk, hb, hV, hG, hO⟩ := hrel
    obtain ⟨⟨r0, r1, r2, r3⟩, ⟨f0, f1, f2, f3⟩⟩ := four_blk hb
    have hI : wr.heap[w1.heap.size]? = some oI := hO.blk (by rw [blk_if, if_neg (by simp), blk_if, if_pos rfl]) (by omega)
    obtain ⟨⟨s0, s1, s2, s3⟩, _⟩ := four_blk hI
    have hz := (Array.getElem?_eq_some_iff.1 hb).1
    have hz0 : w1.heap.size < wr.heap.size := by omega
    have HV := Lib.hid hV; have HG := Lib.hid hG; have HO := Lib.hid hO; have HBK := Lib.hid hb; have HIB := Lib.hid hI
    clear hV hG hO hb hI
    by_cases hlt : k < m
    · obtain ⟨q, hq, hq4⟩ : ∃ q : Nat, wrap64 (way + k) % 4 = q ∧ q < 4 := ⟨(wrap64 (way + k) % 4).toNat, by omega, by omega⟩
      have HQ := Lib.hid hq; clear hq
      go_wp2_with (go_at_call 19; (with_reducible refine (within_is _ _ _ _ (by omega) (by omega) h3 h4 HM.out).mono ?_); rintro e w2 ⟨rfl, rfl⟩)
      obtain rfl | rfl | rfl | rfl : q = 0 ∨ q = 1 ∨ q = 2 ∨ q = 3 := by omega
      · have HQ0 : Hid (wrap64 (way + k) % 4 = 0) := Lib.hid HQ.out
        go_wp2_with (go_at_call 19; (with_reducible refine (within_is _ _ _ _ (by omega) (by omega) (wrap64_bd _).1 (wrap64_bd _).2 HQ0.out).mono ?_); rintro e w2 ⟨rfl, rfl⟩)
        have hX : ∀ x ∈ [w1.heap.size + 1], x < wr.heap.size := fun x hx => by rw [List.mem_singleton.1 hx]; exact hz
        have htb : w1.heap.size + 1 ∈ [w1.heap.size + 1] := List.mem_singleton.2 rfl
        go_roundw
        case rel => exact ⟨k + 1, _, _, NRel.go (t := .mk 4 [] [] [t]) (nest_kid 4 HBK.out HV.out hX htb (by simp)) HO.out (by omega) (.list HG.out)⟩
        case measure => simp [intOf]; omega
      · have HQ0 : Hid (wrap64 (way + k) % 4 = 1) := Lib.hid HQ.out
        go_wp2_with (go_at_call 19; (with_reducible refine (within_is _ _ _ _ (by omega) (by omega) (wrap64_bd _).1 (wrap64_bd _).2 HQ0.out).mono ?_); rintro e w2 ⟨rfl, rfl⟩)
        have hX : ∀ x ∈ [w1.heap.size + 1], x < wr.heap.size := fun x hx => by rw [List.mem_singleton.1 hx]; exact hz
        have htb : w1.heap.size + 1 ∈ [w1.heap.size + 1] := List.mem_singleton.2 rfl
        go_roundw
        case rel => exact ⟨k + 1, _, _, NRel.go (t := .mk 7 [] [[97], [98]] [zI, t]) (nest_two 7 [97] [98] HBK.out (TzV.leaf _ _ 2 []) HV.out hX htb (by simp)) HO.out (by omega) (.rcd HG.out)⟩
        case measure => simp [intOf]; omega
      · have HQ0 : Hid (wrap64 (way + k) % 4 = 2) := Lib.hid HQ.out
        go_wp2_with (go_at_call 19; (with_reducible refine (within_is _ _ _ _ (by omega) (by omega) (wrap64_bd _).1 (wrap64_bd _).2 HQ0.out).mono ?_); rintro e w2 ⟨rfl, rfl⟩)
        have hX : ∀ x ∈ [w1.heap.size + 1], x < wr.heap.size := fun x hx => by rw [List.mem_singleton.1 hx]; exact hz
        have htb : w1.heap.size + 1 ∈ [w1.heap.size + 1] := List.mem_singleton.2 rfl
        go_roundw
        case rel => exact ⟨k + 1, _, _, NRel.go (t := .mk 8 [] [[97]] [t]) (nest_fld 8 [97] HBK.out HV.out hX htb (by simp)) HO.out (by omega) (.union HG.out)⟩
        case measure => simp [intOf]; omega
      · have HQ0 : Hid (wrap64 (way + k) % 4 = 3) := Lib.hid HQ.out
        go_wp2_with (go_at_call 19; (with_reducible refine (within_is _ _ _ _ (by omega) (by omega) (wrap64_bd _).1 (wrap64_bd _).2 HQ0.out).mono ?_); rintro e w2 ⟨rfl, rfl⟩)
        have hX : ∀ x ∈ [w1.heap.size + 1], x < wr.heap.size := fun x hx => by rw [List.mem_singleton.1 hx]; exact hz
        have htb : w1.heap.size + 1 ∈ [w1.heap.size + 1] := List.mem_singleton.2 rfl
        go_roundw
        case rel => exact ⟨k + 1, _, _, NRel.go (t := .mk 5 [] [] [t]) (nest_kid 5 HBK.out HV.out hX htb (by simp)) HO.out (by omega) (.map HG.out)⟩
        case measure => simp [intOf]; omega
    · obtain rfl : m = k := by omega
      go_wp2_with (first | (go_at_call 19; (with_reducible refine (within_is _ _ _ _ (by omega) (by omega) h3 h4 HM.out).mono ?_); rintro e w2 ⟨rfl, rfl⟩) | (go_at_call 19; (with_reducible refine (within_is _ _ _ _ (by omega) (by omega) h1 h2 HP0.out).mono ?_); rintro e w2 ⟨rfl, rfl⟩))
      refine (Check_gone1 1 (by decide) HG.out (by omega) 1 0 (SzV.build (TzV.leaf _ _ 2 []) (NmsV.one (g := wr.heap.size + 1) (ty := 44) (fr := (0, 0)) [65] (by rw [blk_if, if_pos (by simp)]; try rfl) (HV.out.any.grow (by repeat first | exact Below.refl _ _ | refine Below.alloc ?_ (by simp <;> omega) _))) (SgsV.nil none)) rfl).mono ?_
      rintro e w3 ⟨rfl, x3⟩
      have y3 : Below wr.heap.size wr w3 := Below.trans (by repeat first | exact Below.refl _ _ | refine Below.alloc ?_ (by simp <;> omega) _) (x3.mono (by simp <;> omega))
      have hz3 := x3.size
      simp at hz3
      have hS3 : w3.heap[wr.heap.size]? = some (.cells #[.int .i64 2, .string ⟨#[]⟩, .slice none 0 0, .slice none 0 0, .slice (some ⟨wr.heap.size + 1, 0, none⟩) 1 1, .slice none 0 0] 29 (0, 0)) := (x3.block _ (by simp <;> omega)).trans (by rw [blk_if, if_neg (by simp <;> omega), blk_if, if_pos (by simp)]; try rfl)
      have hI3 : w3.heap[w1.heap.size]? = some oI := (y3.block _ hz0).trans HIB.out
      have hT3 : w3.heap[wr.heap.size + 1]? = some (.cells #[.string ⟨#[65]⟩, .int .i64 c.k, .string c.n, .slice c.an c.ln c.cn, .slice c.ak c.lk c.ck] 44 (0, 0)) := (x3.block _ (by simp)).trans (by rw [blk_if, if_pos (by simp)]; try rfl)
      obtain ⟨⟨a0, a1, a2, a3, a4, a5⟩, ⟨b0, b1, b2, b3, b4, b5⟩⟩ := six_blkF hS3
      obtain ⟨⟨q0, q1, q2, q3⟩, _⟩ := four_blk hI3
      have OWN := Lib.hid (own_lit (base := wr.heap.size + 1) (n := 1) (size := 5) hT3 (Nat.le_refl _) rfl rfl (by decide))
      have HX3 := Lib.hid x3; have HY3 := Lib.hid y3; have HS3 := Lib.hid hS3; have HI3 := Lib.hid hI3; have HT3 := Lib.hid hT3
      clear x3 y3 hS3 hI3 hT3 r0 r1 r2 r3 f0 f1 f2 f3 s0 s1 s2 s3
      go_wp2_with (at_builtin; (refine Sh.wpList_append_fresh rfl _ _ 26 rfl (wr.heap.size + 1) 44 i0 (.agg #[.string ⟨#[]⟩, .int .i64 0, .string ⟨#[]⟩, .slice none 0 0, .slice none 0 0]) 5 88 Try.underlying26 HI.out HI0.out HI1.out HI2.out rfl (by decide) _ _ _ rfl (OWN.out.alloc _) ⟨w3.heap.size, 0, none⟩ 1 1 [.string ⟨#[71, 111, 110, 101]⟩, .int .i64 2, .string ⟨#[]⟩, .slice none 0 0, .slice none 0 0] rfl rfl (cells_newZ _ _ _) (one5 (n := [71, 111, 110, 101])) (by unfold maxLen; omega) (by omega) (by simp; omega) ?_); intro v' w4 hown' hgrow hfr; have y4 : Below wr.heap.size wr w4 := (HY3.out.alloc HY3.out.size _).trans (below_grown hgrow (fun k e => by cases e; exact Nat.le_succ _) (by have := HY3.out.size; simp; omega)); have hS4 : w4.heap[wr.heap.size]? = some (.cells #[.int .i64 2, .string ⟨#[]⟩, .slice none 0 0, .slice none 0 0, .slice (some ⟨wr.heap.size + 1, 0, none⟩) 1 1, .slice none 0 0] 29 (0, 0)) := (hgrow.block _ (by simp; omega) (fun e => lit_ne (b := wr.heap.size) (g := wr.heap.size + 1) (n := 1) (c := 1) (by omega) e.symm)).trans (blk_allocZ HS3.out _); have hsb : v'.ownBlock ≠ some wr.heap.size := fresh_ne hfr (lit_ne (by omega)) (by simp; omega); have hz4 := hgrow.size; simp at hz4; obtain ⟨av, cv, rfl⟩ := own_sliceZ hown'; obtain ⟨⟨c0, c1, c2, c3, c4, c5⟩, ⟨d0, d1, d2, d3, d4, d5⟩⟩ := six_blkF hS4; have HOW := Lib.hid hown'; have HY4 := Lib.hid y4; have HS4 := Lib.hid hS4; have HSB := Lib.hid hsb; clear hown' hgrow hfr y4 hS4 hsb)
      have Y5 := Lib.hid (HY4.out.trans (below_set (w := w4) (b := wr.heap.size) 4 (.slice av 2 cv) (Nat.le_refl _) HY4.out.size))
      refine (Check_gone2 1 (by decide) HG.out (by omega) cv 0 (SzV.build (TzV.leaf _ _ 2 []) (NmsV.sl (l := [([65], t), goneN]) (us := [([65], c), ([71, 111, 110, 101], cI)]) (HOW.out.kept ((Only.refl wr.heap.size w4).setCell 4 _) (.inr HSB.out)) rfl (fun i h h' => by match i, h with | 0, _ => exact ⟨rfl, (HV.out.any.grow Y5.out)⟩ | 1, _ => exact ⟨rfl, TzV.leaf _ _ 2 []⟩)) (SgsV.nil none)) rfl).mono ?_
      rintro e w6 ⟨rfl, x6⟩
      have HX6 := Lib.hid x6; clear x6
      go_wp2
      go_ret
      exact ⟨rfl, names_end HX1.out HO.out (Y5.out.trans (HX6.out.mono (by simp; omega)))⟩

set_option maxRecDepth 100000 in
set_option maxHeartbeats 8000000 in
theorem ShapeNames_2 (at_ deep way : Int) (w : World) (h1 : -9223372036854775808 ≤ at_) (h2 : at_ ≤ 9223372036854775807) (h3 : -9223372036854775808 ≤ deep) (h4 : deep ≤ 9223372036854775807) (hp : at_ % 4 = 2) :
    Calls Try.prog 9 #[.int .i64 at_, .int .i64 deep, .int .i64 way] w fun e w' => e = .returned (.bool true) ∧ Below w.heap.size w w' := by
  obtain ⟨m, hm, hm8⟩ : ∃ m : Nat, deep % 8 = m ∧ m < 8 := ⟨(deep % 8).toNat, by omega, by omega⟩
  have HM := Lib.hid hm; have HP0 := Lib.hid hp; clear hm hp
  obtain ⟨i0, hi, hz0, hz1, hz2⟩ := info_parts infoN
  have HI := Lib.hid hi; have HI0 := Lib.hid hz0; have HI1 := Lib.hid hz1; have HI2 := Lib.hid hz2; clear hi hz0 hz1 hz2
  go_enter Try.func9, Try.ntmps9
  go_wp2_with (go_at_call 12; (with_reducible refine (known_any _).mono ?_); rintro e w1 ⟨rfl, x1⟩; have HX1 := Lib.hid x1; clear x1)
  go_loopw [9] (fun v wr => ∃ k t c, NRel ((w1.alloc oI).alloc oGone) m (w1.heap.size + 1) v wr k t c) (fun v _ => m - (intOf v).toNat)
  case atStart => exact ⟨0, zN [71, 111, 110, 101], cN [71, 111, 110, 101], rfl, by omega, by rw [blk_if, if_pos (by simp)]; rfl, TzV.leaf _ _ 9 _, .name, Only.refl _ _⟩
  case round =>
    obtain ⟨k, t, c, rfl, hk, hb, hV, hG, hO⟩ := hrel
    obtain ⟨⟨r0, r1, r2, r3⟩, ⟨f0, f1, f2, f3⟩⟩ := four_blk hb
    have hI : wr.heap[w1.heap.size]? = some oI := hO.blk (by rw [blk_if, if_neg (by simp), blk_if, if_pos rfl]) (by omega)
    obtain ⟨⟨s0, s1, s2, s3⟩, _⟩ := four_blk hI
    have hz := (Array.getElem?_eq_some_iff.1 hb).1
    have hz0 : w1.heap.size < wr.heap.size := by omega
    have HV := Lib.hid hV; have HG := Lib.hid hG; have HO := Lib.hid hO; have HBK := Lib.hid hb; have HIB := Lib.hid hI
    clear hV hG hO hb hI
    by_cases hlt : k < m
    · obtain ⟨q, hq, hq4⟩ : ∃ q : Nat, wrap64 (way + k) % 4 = q ∧ q < 4 := ⟨(wrap64 (way + k) % 4).toNat, by omega, by omega⟩
      have HQ := Lib.hid hq; clear hq
      go_wp2_with (go_at_call 19; (with_reducible refine (within_is _ _ _ _ (by omega) (by omega) h3 h4 HM.out).mono ?_); rintro e w2 ⟨rfl, rfl⟩)
      obtain rfl | rfl | rfl | rfl : q = 0 ∨ q = 1 ∨ q = 2 ∨ q = 3 := by omega
      · have HQ0 : Hid (wrap64 (way + k) % 4 = 0) := Lib.hid HQ.out
        go_wp2_with (go_at_call 19; (with_reducible refine (within_is _ _ _ _ (by omega) (by omega) (wrap64_bd _).1 (wrap64_bd _).2 HQ0.out).mono ?_); rintro e w2 ⟨rfl, rfl⟩)
        have hX : ∀ x ∈ [w1.heap.size + 1], x < wr.heap.size := fun x hx => by rw [List.mem_singleton.1 hx]; exact hz
        have htb : w1.heap.size + 1 ∈ [w1.heap.size + 1] := List.mem_singleton.2 rfl
        go_roundw
        case rel => exact ⟨k + 1, _, _, NRel.go (t := .mk 4 [] [] [t]) (nest_kid 4 HBK.out HV.out hX htb (by simp)) HO.out (by omega) (.list HG.out)⟩
        case measure => simp [intOf]; omega
      · have HQ0 : Hid (wrap64 (way + k) % 4 = 1) := Lib.hid HQ.out
        go_wp2_with (go_at_call 19; (with_reducible refine (within_is _ _ _ _ (by omega) (by omega) (wrap64_bd _).1 (wrap64_bd _).2 HQ0.out).mono ?_); rintro e w2 ⟨rfl, rfl⟩)
        have hX : ∀ x ∈ [w1.heap.size + 1], x < wr.heap.size := fun x hx => by rw [List.mem_singleton.1 hx]; exact hz
        have htb : w1.heap.size + 1 ∈ [w1.heap.size + 1] := List.mem_singleton.2 rfl
        go_roundw
        case rel => exact ⟨k + 1, _, _, NRel.go (t := .mk 7 [] [[97], [98]] [zI, t]) (nest_two 7 [97] [98] HBK.out (TzV.leaf _ _ 2 []) HV.out hX htb (by simp)) HO.out (by omega) (.rcd HG.out)⟩
        case measure => simp [intOf]; omega
      · have HQ0 : Hid (wrap64 (way + k) % 4 = 2) := Lib.hid HQ.out
        go_wp2_with (go_at_call 19; (with_reducible refine (within_is _ _ _ _ (by omega) (by omega) (wrap64_bd _).1 (wrap64_bd _).2 HQ0.out).mono ?_); rintro e w2 ⟨rfl, rfl⟩)
        have hX : ∀ x ∈ [w1.heap.size + 1], x < wr.heap.size := fun x hx => by rw [List.mem_singleton.1 hx]; exact hz
        have htb : w1.heap.size + 1 ∈ [w1.heap.size + 1] := List.mem_singleton.2 rfl
        go_roundw
        case rel => exact ⟨k + 1, _, _, NRel.go (t := .mk 8 [] [[97]] [t]) (nest_fld 8 [97] HBK.out HV.out hX htb (by simp)) HO.out (by omega) (.union HG.out)⟩
        case measure => simp [intOf]; omega
      · have HQ0 : Hid (wrap64 (way + k) % 4 = 3) := Lib.hid HQ.out
        go_wp2_with (go_at_call 19; (with_reducible refine (within_is _ _ _ _ (by omega) (by omega) (wrap64_bd _).1 (wrap64_bd _).2 HQ0.out).mono ?_); rintro e w2 ⟨rfl, rfl⟩)
        have hX : ∀ x ∈ [w1.heap.size + 1], x < wr.heap.size := fun x hx => by rw [List.mem_singleton.1 hx]; exact hz
        have htb : w1.heap.size + 1 ∈ [w1.heap.size + 1] := List.mem_singleton.2 rfl
        go_roundw
        case rel => exact ⟨k + 1, _, _, NRel.go (t := .mk 5 [] [] [t]) (nest_kid 5 HBK.out HV.out hX htb (by simp)) HO.out (by omega) (.map HG.out)⟩
        case measure => simp [intOf]; omega
    · obtain rfl : m = k := by omega
      go_wp2_with (first | (go_at_call 19; (with_reducible refine (within_is _ _ _ _ (by omega) (by omega) h3 h4 HM.out).mono ?_); rintro e w2 ⟨rfl, rfl⟩) | (go_at_call 19; (with_reducible refine (within_is _ _ _ _ (by omega) (by omega) h1 h2 HP0.out).mono ?_); rintro e w2 ⟨rfl, rfl⟩))
      refine (Check_gone1 2 (by decide) HG.out (by omega) 0 1 (SzV.build (TzV.leaf _ _ 2 []) (NmsV.nil none) (SgsV.one (g := wr.heap.size + 1 + 1) (ty := 46) (fr := (0, 0)) (x := ([102], ⟨some ⟨wr.heap.size + 1, 0, none⟩, 2, 2, cI⟩)) (by rw [blk_if, if_pos (by simp)]; try rfl) (SgV.pair (g := wr.heap.size + 1) (ty := 25) (fr := (0, 0)) (c := cI) [102] (by simp [Any]) (by rw [blk_if, if_neg (by simp <;> omega), blk_if, if_pos (by simp)]; try rfl) (TzV.leaf _ _ 2 []) (HV.out.any.grow (by repeat first | exact Below.refl _ _ | refine Below.alloc ?_ (by simp <;> omega) _)) (TzV.leaf _ _ 2 [])))) rfl).mono ?_
      rintro e w3 ⟨rfl, x3⟩
      have y3 : Below wr.heap.size wr w3 := Below.trans (by repeat first | exact Below.refl _ _ | refine Below.alloc ?_ (by simp <;> omega) _) (x3.mono (by simp <;> omega))
      have hz3 := x3.size
      simp at hz3
      have hS3 : w3.heap[wr.heap.size]? = some (.cells #[.int .i64 2, .string ⟨#[]⟩, .slice none 0 0, .slice none 0 0, .slice none 0 0, .slice (some ⟨wr.heap.size + 1 + 1, 0, none⟩) 1 1] 29 (0, 0)) := (x3.block _ (by simp <;> omega)).trans (by rw [blk_if, if_neg (by simp <;> omega), blk_if, if_neg (by simp <;> omega), blk_if, if_pos (by simp)]; try rfl)
      have hI3 : w3.heap[w1.heap.size]? = some oI := (y3.block _ hz0).trans HIB.out
      have hT3 : w3.heap[wr.heap.size + 1 + 1]? = some (.cells #[.string ⟨#[102]⟩, .slice (some ⟨wr.heap.size + 1, 0, none⟩) 2 2, .int .i64 2, .string ⟨#[]⟩, .slice none 0 0, .slice none 0 0] 46 (0, 0)) := (x3.block _ (by simp)).trans (by rw [blk_if, if_pos (by simp)]; try rfl)
      have hP3 : w3.heap[wr.heap.size + 1]? = some (.cells #[.int .i64 2, .string ⟨#[]⟩, .slice none 0 0, .slice none 0 0, .int .i64 c.k, .string c.n, .slice c.an c.ln c.cn, .slice c.ak c.lk c.ck] 25 (0, 0)) := (x3.block _ (by simp <;> omega)).trans (by rw [blk_if, if_neg (by simp <;> omega), blk_if, if_pos (by simp)]; try rfl)
      obtain ⟨⟨a0, a1, a2, a3, a4, a5⟩, ⟨b0, b1, b2, b3, b4, b5⟩⟩ := six_blkF hS3
      obtain ⟨⟨q0, q1, q2, q3⟩, _⟩ := four_blk hI3
      have OWN := Lib.hid (World.ownsRow_nil w3 (wr.heap.size + 1) 44 5)
      have HX3 := Lib.hid x3; have HY3 := Lib.hid y3; have HS3 := Lib.hid hS3; have HI3 := Lib.hid hI3; have HT3 := Lib.hid hT3; have HP3 := Lib.hid hP3
      clear x3 y3 hS3 hI3 hT3 hP3 r0 r1 r2 r3 f0 f1 f2 f3 s0 s1 s2 s3
      go_wp2_with (at_builtin; (refine Sh.wpList_append_fresh rfl _ _ 26 rfl (wr.heap.size + 1) 44 i0 (.agg #[.string ⟨#[]⟩, .int .i64 0, .string ⟨#[]⟩, .slice none 0 0, .slice none 0 0]) 5 88 Try.underlying26 HI.out HI0.out HI1.out HI2.out rfl (by decide) _ _ _ rfl (OWN.out.alloc _) ⟨w3.heap.size, 0, none⟩ 1 1 [.string ⟨#[71, 111, 110, 101]⟩, .int .i64 2, .string ⟨#[]⟩, .slice none 0 0, .slice none 0 0] rfl rfl (cells_newZ _ _ _) (one5 (n := [71, 111, 110, 101])) (by unfold maxLen; omega) (by omega) (by simp; omega) ?_); intro v' w4 hown' hgrow hfr; have y4 : Below wr.heap.size wr w4 := (HY3.out.alloc HY3.out.size _).trans (below_grown hgrow (fun k e => by cases e) (by have := HY3.out.size; simp; omega)); have hS4 : w4.heap[wr.heap.size]? = some (.cells #[.int .i64 2, .string ⟨#[]⟩, .slice none 0 0, .slice none 0 0, .slice none 0 0, .slice (some ⟨wr.heap.size + 1 + 1, 0, none⟩) 1 1] 29 (0, 0)) := (hgrow.block _ (by simp; omega) (fun e => by cases e)).trans (blk_allocZ HS3.out _); have hsb : v'.ownBlock ≠ some wr.heap.size := fresh_ne hfr (fun e => by cases e) (by simp; omega); have hT4 := Lib.hid ((hgrow.block _ (by simp; omega) (fun e => by cases e)).trans (blk_allocZ HT3.out _)); have hP4 := Lib.hid ((hgrow.block _ (by simp; omega) (fun e => by cases e)).trans (blk_allocZ HP3.out _)); have hz4 := hgrow.size; simp at hz4; obtain ⟨av, cv, rfl⟩ := own_sliceZ hown'; obtain ⟨⟨c0, c1, c2, c3, c4, c5⟩, ⟨d0, d1, d2, d3, d4, d5⟩⟩ := six_blkF hS4; have HOW := Lib.hid hown'; have HY4 := Lib.hid y4; have HS4 := Lib.hid hS4; have HSB := Lib.hid hsb; clear hown' hgrow hfr y4 hS4 hsb)
      have Y5 := Lib.hid (HY4.out.trans (below_set (w := w4) (b := wr.heap.size) 4 (.slice av 1 cv) (Nat.le_refl _) HY4.out.size))
      refine (Check_gone2 2 (by decide) HG.out (by omega) cv 1 (SzV.build (TzV.leaf _ _ 2 []) (NmsV.sl (l := [goneN]) (us := [([71, 111, 110, 101], cI)]) (HOW.out.kept ((Only.refl wr.heap.size w4).setCell 4 _) (.inr HSB.out)) rfl (fun i h h' => by match i, h with | 0, _ => exact ⟨rfl, TzV.leaf _ _ 2 []⟩)) (SgsV.one (g := wr.heap.size + 1 + 1) (ty := 46) (fr := (0, 0)) (x := ([102], ⟨some ⟨wr.heap.size + 1, 0, none⟩, 2, 2, cI⟩)) (((Only.refl wr.heap.size w4).setCell 4 _).blk hT4.out (by omega)) (SgV.pair (g := wr.heap.size + 1) (ty := 25) (fr := (0, 0)) (c := cI) [102] (by simp [Any]; omega) (((Only.refl wr.heap.size w4).setCell 4 _).blk hP4.out (by omega)) (TzV.leaf _ _ 2 []) (HV.out.any.grow Y5.out) (TzV.leaf _ _ 2 [])))) rfl).mono ?_
      rintro e w6 ⟨rfl, x6⟩
      have HX6 := Lib.hid x6; clear x6
      go_wp2
      go_ret
      exact ⟨rfl, names_end HX1.out HO.out (Y5.out.trans (HX6.out.mono (by simp; omega)))⟩

set_option maxRecDepth 100000 in
set_option maxHeartbeats 8000000 in
theorem ShapeNames_3 (at_ deep way : Int) (w : World) (h1 : -9223372036854775808 ≤ at_) (h2 : at_ ≤ 9223372036854775807) (h3 : -9223372036854775808 ≤ deep) (h4 : deep ≤ 9223372036854775807) (hp : at_ % 4 = 3) :
    Calls Try.prog 9 #[.int .i64 at_, .int .i64 deep, .int .i64 way] w fun e w' => e = .returned (.bool true) ∧ Below w.heap.size w w' := by
  obtain ⟨m, hm, hm8⟩ : ∃ m : Nat, deep % 8 = m ∧ m < 8 := ⟨(deep % 8).toNat, by omega, by omega⟩
  have HM := Lib.hid hm; have HP0 := Lib.hid hp; clear hm hp
  obtain ⟨i0, hi, hz0, hz1, hz2⟩ := info_parts infoN
  have HI := Lib.hid hi; have HI0 := Lib.hid hz0; have HI1 := Lib.hid hz1; have HI2 := Lib.hid hz2; clear hi hz0 hz1 hz2
  go_enter Try.func9, Try.ntmps9
  go_wp2_with (go_at_call 12; (with_reducible refine (known_any _).mono ?_); rintro e w1 ⟨rfl, x1⟩; have HX1 := Lib.hid x1; clear x1)
  go_loopw [9] (fun v wr => ∃ k t c, NRel ((w1.alloc oI).alloc oGone) m (w1.heap.size + 1) v wr k t c) (fun v _ => m - (intOf v).toNat)
  case atStart => exact ⟨0, zN [71, 111, 110, 101], cN [71, 111, 110, 101], rfl, by omega, by rw [blk_if, if_pos (by simp)]; rfl, TzV.leaf _ _ 9 _, .name, Only.refl _ _⟩
  case round =>
    obtain ⟨k, t, c, rfl, hk, hb, hV, hG, hO⟩ := hrel
    obtain ⟨⟨r0, r1, r2, r3⟩, ⟨f0, f1, f2, f3⟩⟩ := four_blk hb
    have hI : wr.heap[w1.heap.size]? = some oI := hO.blk (by rw [blk_if, if_neg (by simp), blk_if, if_pos rfl]) (by omega)
    obtain ⟨⟨s0, s1, s2, s3⟩, _⟩ := four_blk hI
    have hz := (Array.getElem?_eq_some_iff.1 hb).1
    have hz0 : w1.heap.size < wr.heap.size := by omega
    have HV := Lib.hid hV; have HG := Lib.hid hG; have HO := Lib.hid hO; have HBK := Lib.hid hb; have HIB := Lib.hid hI
    clear hV hG hO hb hI
    by_cases hlt : k < m
    · obtain ⟨q, hq, hq4⟩ : ∃ q : Nat, wrap64 (way + k) % 4 = q ∧ q < 4 := ⟨(wrap64 (way + k) % 4).toNat, by omega, by omega⟩
      have HQ := Lib.hid hq; clear hq
      go_wp2_with (go_at_call 19; (with_reducible refine (within_is _ _ _ _ (by omega) (by omega) h3 h4 HM.out).mono ?_); rintro e w2 ⟨rfl, rfl⟩)
      obtain rfl | rfl | rfl | rfl : q = 0 ∨ q = 1 ∨ q = 2 ∨ q = 3 := by omega
      · have HQ0 : Hid (wrap64 (way + k) % 4 = 0) := Lib.hid HQ.out
        go_wp2_with (go_at_call 19; (with_reducible refine (within_is _ _ _ _ (by omega) (by omega) (wrap64_bd _).1 (wrap64_bd _).2 HQ0.out).mono ?_); rintro e w2 ⟨rfl, rfl⟩)
        have hX : ∀ x ∈ [w1.heap.size + 1], x < wr.heap.size := fun x hx => by rw [List.mem_singleton.1 hx]; exact hz
        have htb : w1.heap.size + 1 ∈ [w1.heap.size + 1] := List.mem_singleton.2 rfl
        go_roundw
        case rel => exact ⟨k + 1, _, _, NRel.go (t := .mk 4 [] [] [t]) (nest_kid 4 HBK.out HV.out hX htb (by simp)) HO.out (by omega) (.list HG.out)⟩
        case measure => simp [intOf]; omega
      · have HQ0 : Hid (wrap64 (way + k) % 4 = 1) := Lib.hid HQ.out
        go_wp2_with (go_at_call 19; (with_reducible refine (within_is _ _ _ _ (by omega) (by omega) (wrap64_bd _).1 (wrap64_bd _).2 HQ0.out).mono ?_); rintro e w2 ⟨rfl, rfl⟩)
        have hX : ∀ x ∈ [w1.heap.size + 1], x < wr.heap.size := fun x hx => by rw [List.mem_singleton.1 hx]; exact hz
        have htb : w1.heap.size + 1 ∈ [w1.heap.size + 1] := List.mem_singleton.2 rfl
        go_roundw
        case rel => exact ⟨k + 1, _, _, NRel.go (t := .mk 7 [] [[97], [98]] [zI, t]) (nest_two 7 [97] [98] HBK.out (TzV.leaf _ _ 2 []) HV.out hX htb (by simp)) HO.out (by omega) (.rcd HG.out)⟩
        case measure => simp [intOf]; omega
      · have HQ0 : Hid (wrap64 (way + k) % 4 = 2) := Lib.hid HQ.out
        go_wp2_with (go_at_call 19; (with_reducible refine (within_is _ _ _ _ (by omega) (by omega) (wrap64_bd _).1 (wrap64_bd _).2 HQ0.out).mono ?_); rintro e w2 ⟨rfl, rfl⟩)
        have hX : ∀ x ∈ [w1.heap.size + 1], x < wr.heap.size := fun x hx => by rw [List.mem_singleton.1 hx]; exact hz
        have htb : w1.heap.size + 1 ∈ [w1.heap.size + 1] := List.mem_singleton.2 rfl
        go_roundw
        case rel => exact ⟨k + 1, _, _, NRel.go (t := .mk 8 [] [[97]] [t]) (nest_fld 8 [97] HBK.out HV.out hX htb (by simp)) HO.out (by omega) (.union HG.out)⟩
        case measure => simp [intOf]; omega
      · have HQ0 : Hid (wrap64 (way + k) % 4 = 3) := Lib.hid HQ.out
        go_wp2_with (go_at_call 19; (with_reducible refine (within_is _ _ _ _ (by omega) (by omega) (wrap64_bd _).1 (wrap64_bd _).2 HQ0.out).mono ?_); rintro e w2 ⟨rfl, rfl⟩)
        have hX : ∀ x ∈ [w1.heap.size + 1], x < wr.heap.size := fun x hx => by rw [List.mem_singleton.1 hx]; exact hz
        have htb : w1.heap.size + 1 ∈ [w1.heap.size + 1] := List.mem_singleton.2 rfl
        go_roundw
        case rel => exact ⟨k + 1, _, _, NRel.go (t := .mk 5 [] [] [t]) (nest_kid 5 HBK.out HV.out hX htb (by simp)) HO.out (by omega) (.map HG.out)⟩
        case measure => simp [intOf]; omega
    · obtain rfl : m = k := by omega
      go_wp2_with (first | (go_at_call 19; (with_reducible refine (within_is _ _ _ _ (by omega) (by omega) h3 h4 HM.out).mono ?_); rintro e w2 ⟨rfl, rfl⟩) | (go_at_call 19; (with_reducible refine (within_is _ _ _ _ (by omega) (by omega) h1 h2 HP0.out).mono ?_); rintro e w2 ⟨rfl, rfl⟩))
      refine (Check_gone1 3 (by decide) HG.out (by omega) 0 1 (SzV.build (TzV.leaf _ _ 2 []) (NmsV.nil none) (SgsV.one (g := wr.heap.size + 1) (ty := 46) (fr := (0, 0)) (x := ([102], ⟨none, 0, 0, c⟩)) (by rw [blk_if, if_pos (by simp)]; try rfl) (SgV.bare [102] (HV.out.any.grow (by repeat first | exact Below.refl _ _ | refine Below.alloc ?_ (by simp <;> omega) _))))) rfl).mono ?_
      rintro e w3 ⟨rfl, x3⟩
      have y3 : Below wr.heap.size wr w3 := Below.trans (by repeat first | exact Below.refl _ _ | refine Below.alloc ?_ (by simp <;> omega) _) (x3.mono (by simp <;> omega))
      have hz3 := x3.size
      simp at hz3
      have hS3 : w3.heap[wr.heap.size]? = some (.cells #[.int .i64 2, .string ⟨#[]⟩, .slice none 0 0, .slice none 0 0, .slice none 0 0, .slice (some ⟨wr.heap.size + 1, 0, none⟩) 1 1] 29 (0, 0)) := (x3.block _ (by simp <;> omega)).trans (by rw [blk_if, if_neg (by simp <;> omega), blk_if, if_pos (by simp)]; try rfl)
      have hI3 : w3.heap[w1.heap.size]? = some oI := (y3.block _ hz0).trans HIB.out
      have hT3 : w3.heap[wr.heap.size + 1]? = some (.cells #[.string ⟨#[102]⟩, .slice none 0 0, .int .i64 c.k, .string c.n, .slice c.an c.ln c.cn, .slice c.ak c.lk c.ck] 46 (0, 0)) := (x3.block _ (by simp)).trans (by rw [blk_if, if_pos (by simp)]; try rfl)
      obtain ⟨⟨a0, a1, a2, a3, a4, a5⟩, ⟨b0, b1, b2, b3, b4, b5⟩⟩ := six_blkF hS3
      obtain ⟨⟨q0, q1, q2, q3⟩, _⟩ := four_blk hI3
      have OWN := Lib.hid (World.ownsRow_nil w3 (wr.heap.size + 1) 44 5)
      have HX3 := Lib.hid x3; have HY3 := Lib.hid y3; have HS3 := Lib.hid hS3; have HI3 := Lib.hid hI3; have HT3 := Lib.hid hT3
      clear x3 y3 hS3 hI3 hT3 r0 r1 r2 r3 f0 f1 f2 f3 s0 s1 s2 s3
      go_wp2_with (at_builtin; (refine Sh.wpList_append_fresh rfl _ _ 26 rfl (wr.heap.size + 1) 44 i0 (.agg #[.string ⟨#[]⟩, .int .i64 0, .string ⟨#[]⟩, .slice none 0 0, .slice none 0 0]) 5 88 Try.underlying26 HI.out HI0.out HI1.out HI2.out rfl (by decide) _ _ _ rfl (OWN.out.alloc _) ⟨w3.heap.size, 0, none⟩ 1 1 [.string ⟨#[71, 111, 110, 101]⟩, .int .i64 2, .string ⟨#[]⟩, .slice none 0 0, .slice none 0 0] rfl rfl (cells_newZ _ _ _) (one5 (n := [71, 111, 110, 101])) (by unfold maxLen; omega) (by omega) (by simp; omega) ?_); intro v' w4 hown' hgrow hfr; have y4 : Below wr.heap.size wr w4 := (HY3.out.alloc HY3.out.size _).trans (below_grown hgrow (fun k e => by cases e) (by have := HY3.out.size; simp; omega)); have hS4 : w4.heap[wr.heap.size]? = some (.cells #[.int .i64 2, .string ⟨#[]⟩, .slice none 0 0, .slice none 0 0, .slice none 0 0, .slice (some ⟨wr.heap.size + 1, 0, none⟩) 1 1] 29 (0, 0)) := (hgrow.block _ (by simp; omega) (fun e => by cases e)).trans (blk_allocZ HS3.out _); have hsb : v'.ownBlock ≠ some wr.heap.size := fresh_ne hfr (fun e => by cases e) (by simp; omega); have hT4 := Lib.hid ((hgrow.block _ (by simp; omega) (fun e => by cases e)).trans (blk_allocZ HT3.out _)); have hz4 := hgrow.size; simp at hz4; obtain ⟨av, cv, rfl⟩ := own_sliceZ hown'; obtain ⟨⟨c0, c1, c2, c3, c4, c5⟩, ⟨d0, d1, d2, d3, d4, d5⟩⟩ := six_blkF hS4; have HOW := Lib.hid hown'; have HY4 := Lib.hid y4; have HS4 := Lib.hid hS4; have HSB := Lib.hid hsb; clear hown' hgrow hfr y4 hS4 hsb)
      have Y5 := Lib.hid (HY4.out.trans (below_set (w := w4) (b := wr.heap.size) 4 (.slice av 1 cv) (Nat.le_refl _) HY4.out.size))
      refine (Check_gone2 3 (by decide) HG.out (by omega) cv 1 (SzV.build (TzV.leaf _ _ 2 []) (NmsV.sl (l := [goneN]) (us := [([71, 111, 110, 101], cI)]) (HOW.out.kept ((Only.refl wr.heap.size w4).setCell 4 _) (.inr HSB.out)) rfl (fun i h h' => by match i, h with | 0, _ => exact ⟨rfl, TzV.leaf _ _ 2 []⟩)) (SgsV.one (g := wr.heap.size + 1) (ty := 46) (fr := (0, 0)) (x := ([102], ⟨none, 0, 0, c⟩)) (((Only.refl wr.heap.size w4).setCell 4 _).blk hT4.out (by omega)) (SgV.bare [102] (HV.out.any.grow Y5.out)))) rfl).mono ?_
      rintro e w6 ⟨rfl, x6⟩
      have HX6 := Lib.hid x6; clear x6
      go_wp2
      go_ret
      exact ⟨rfl, names_end HX1.out HO.out (Y5.out.trans (HX6.out.mono (by simp; omega)))⟩

theorem ShapeNames_any (at_ deep way : Int) (w : World) (h1 : -9223372036854775808 ≤ at_) (h2 : at_ ≤ 9223372036854775807) (h3 : -9223372036854775808 ≤ deep) (h4 : deep ≤ 9223372036854775807) (_ : -9223372036854775808 ≤ way) (_ : way ≤ 9223372036854775807) :
    Calls Try.prog 9 #[.int .i64 at_, .int .i64 deep, .int .i64 way] w fun e w' => e = .returned (.bool true) ∧ Below w.heap.size w w' := by
  have a := Int.emod_nonneg at_ (show (4 : Int) ≠ 0 by decide)
  have b := Int.emod_lt_of_pos at_ (show (0 : Int) < 4 by decide)
  rcases (show at_ % 4 = 0 ∨ at_ % 4 = 1 ∨ at_ % 4 = 2 ∨ at_ % 4 = 3 by omega) with h | h | h | h
  · exact ShapeNames_0 at_ deep way w h1 h2 h3 h4 h
  · exact ShapeNames_1 at_ deep way w h1 h2 h3 h4 h
  · exact ShapeNames_2 at_ deep way w h1 h2 h3 h4 h
  · exact ShapeNames_3 at_ deep way w h1 h2 h3 h4 h
end Sp
end Go.Proofs.Ytnnnjonodnkccaa
