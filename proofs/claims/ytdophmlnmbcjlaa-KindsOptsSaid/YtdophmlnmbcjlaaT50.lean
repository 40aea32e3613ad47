/- What a builtin function answers, whose arguments fit; written by gen_jfit.py. -/
import Derived.Test.YtdophmlnmbcjlaaT49
import Derived.Deep.RegionHeld3
namespace Go.Proofs.Ytdophmlnmbcjlaa
open Go.RowKit
namespace Sp
open Sc
set_option maxRecDepth 100000
/-- What a call that may make types leaves. -/
def MadeJ (B : Nat) (w : World) (tb rb nb mb sb m : Nat) (N : List NN) (G : List GN) (vs : List Value) (r : Nat × Nat × List Kz) (e : Ending) (w' : World) : Prop :=
  ∃ rb' nb' ty' nu', e = .returned (.tuple #[.int .i64 (r.1 : Nat), .int .i64 (r.2.1 : Nat)]) ∧ StV B w' tb rb' nb' mb sb m ty' nu' r.2.2 N G vs ∧ Below B w w' ∧ Keeps (Own tb rb nb) w w' ∧ ∀ g, Own tb rb' nb' g → Own tb rb nb g ∨ w.heap.size ≤ g
theorem MadeJ.of {B : Nat} {w w1 : World} {tb rb nb mb sb m : Nat} {ty nu : Value} {T : List Kz} {N : List NN} {G : List GN} {vs : List Value} (h : StV B w tb rb nb mb sb m ty nu T N G vs) (hB : B ≤ w.heap.size) (hw : Below w.heap.size w w1) {i e : Nat} :
    MadeJ B w tb rb nb mb sb m N G vs (i, e, T) (.returned (.tuple #[.int .i64 (i : Nat), .int .i64 (e : Nat)])) w1 :=
  ⟨rb, nb, ty, nu, rfl, h.below hw, hw.mono hB, Keeps.of_below hw, fun _ h => .inl h⟩
theorem MadeJ.after {B : Nat} {w w1 w2 : World} {tb rb nb mb sb m : Nat} {N : List NN} {G : List GN} {vs : List Value} {r : Nat × Nat × List Kz} {e : Ending} (h : MadeJ B w1 tb rb nb mb sb m N G vs r e w2) (hB : B ≤ w.heap.size) (hw : Below w.heap.size w w1) : MadeJ B w tb rb nb mb sb m N G vs r e w2 := by
  obtain ⟨rb', nb', ty', nu', rfl, h1, h2, h3, h4⟩ := h
  exact ⟨rb', nb', ty', nu', rfl, h1, (hw.mono hB).trans h2, (Keeps.of_below hw).trans h3 (fun g h => .inl h), fun g hg => (h4 g hg).imp id (Nat.le_trans hw.size)⟩
theorem MadeJ.add {B : Nat} {w w' : World} {tb rb nb mb sb m rb' nb' : Nat} {ty nu ty' nu' : Value} {T T' : List Kz} {N : List NN} {G : List GN} {vs : List Value} (h : StV B w tb rb nb mb sb m ty nu T N G vs) (ha : Added w w' tb rb nb mb sb m T' rb' nb' ty' nu') (hB : B ≤ w.heap.size) {i e : Nat} :
    MadeJ B w tb rb nb mb sb m N G vs (i, e, T') (.returned (.tuple #[.int .i64 (i : Nat), .int .i64 (e : Nat)])) w' := by
  obtain ⟨h1, h2⟩ := h.add ha hB
  exact ⟨rb', nb', ty', nu', rfl, h1, h2, ha.keeps, ha.grew.own⟩
theorem StV.baseJ {B : Nat} {w : World} {tb rb nb mb sb m : Nat} {ty nu : Value} {T : List Kz} {N : List NN} {G : List GN} {vs : List Value} (h : StV B w tb rb nb mb sb m ty nu T N G vs) (hB : B ≤ w.heap.size) {k : Int} (h1 : 1 ≤ k) (h2 : k ≤ 3) :
    Calls Try.prog 77 #[.pointer (some ⟨tb, 0, none⟩), .int .i64 k] w (MadeJ B w tb rb nb mb sb m N G vs (numK T (baseK k))) := by
  refine (base_any k h1 h2 w tb rb nb mb sb m ty nu T h.tab).mono ?_
  rintro en w' ⟨rb', nb', ty', nu', rfl, ha⟩
  exact MadeJ.add h ha hB
theorem StV.optJ {B : Nat} {w : World} {tb rb nb mb sb m : Nat} {ty nu : Value} {T : List Kz} {N : List NN} {G : List GN} {vs : List Value} (h : StV B w tb rb nb mb sb m ty nu T N G vs) (hB : B ≤ w.heap.size) {k : Nat} (hk : k < T.length) :
    Calls Try.prog 76 #[.pointer (some ⟨tb, 0, none⟩), .int .i64 (k : Nat)] w (MadeJ B w tb rb nb mb sb m N G vs (numK T (optK k))) := by
  refine (topt_any k w tb rb nb mb sb m ty nu T h.tab hk).mono ?_
  rintro en w' ⟨rb', nb', ty', nu', rfl, ha⟩
  exact MadeJ.add h ha hB
set_option maxHeartbeats 4000000 in
theorem ans_not (w : World) (B gb tb rb nb mb sb m : Nat) (ty nu : Value) (T : List Kz) (N : List NN) (G : List GN) (vs : List Value) (hst : StV B w tb rb nb mb sb m ty nu T N G vs) (hB : B ≤ w.heap.size) (l : List Nat) (a : Kz) (kb : Int) (aa ak : Option Addr) (ca ck : Nat) (h : GivV w gb tb aa ak ca ck l a.kind a.kids kb) :
    Calls Try.prog 51 #[.pointer (some ⟨gb, 0, none⟩), .string ⟨#[110, 111, 116]⟩] w (MadeJ B w tb rb nb mb sb m N G vs (numK T (baseK 1))) := by
  have c0 := h.c0
  have CB := (hst.baseJ hB (show (1 : Int) ≤ 1 by omega) (by omega))
  have HCB := Lib.hid CB
  clear CB h hst
  go_enter Try.func51, Try.ntmps51
  go_wp2_with (go_at_call 77; (refine HCB.out.mono ?_); intro e w1 hq; obtain ⟨rb', nb', ty', nu', rfl, h1, h2, h3⟩ := hq; have H1 := Lib.hid h1; have H2 := Lib.hid h2; have H3 := Lib.hid h3; clear h1 h2 h3)
  go_ret2
  exact ⟨rb', nb', ty', nu', rfl, H1.out, H2.out, H3.out⟩
set_option maxHeartbeats 4000000 in
theorem ans_and (w : World) (B gb tb rb nb mb sb m : Nat) (ty nu : Value) (T : List Kz) (N : List NN) (G : List GN) (vs : List Value) (hst : StV B w tb rb nb mb sb m ty nu T N G vs) (hB : B ≤ w.heap.size) (l : List Nat) (a : Kz) (kb : Int) (aa ak : Option Addr) (ca ck : Nat) (h : GivV w gb tb aa ak ca ck l a.kind a.kids kb) :
    Calls Try.prog 51 #[.pointer (some ⟨gb, 0, none⟩), .string ⟨#[97, 110, 100]⟩] w (MadeJ B w tb rb nb mb sb m N G vs (numK T (baseK 1))) := by
  have c0 := h.c0
  have CB := (hst.baseJ hB (show (1 : Int) ≤ 1 by omega) (by omega))
  have HCB := Lib.hid CB
  clear CB h hst
  go_enter Try.func51, Try.ntmps51
  go_wp2_with (go_at_call 77; (refine HCB.out.mono ?_); intro e w1 hq; obtain ⟨rb', nb', ty', nu', rfl, h1, h2, h3⟩ := hq; have H1 := Lib.hid h1; have H2 := Lib.hid h2; have H3 := Lib.hid h3; clear h1 h2 h3)
  go_ret2
  exact ⟨rb', nb', ty', nu', rfl, H1.out, H2.out, H3.out⟩
set_option maxHeartbeats 4000000 in
theorem ans_or (w : World) (B gb tb rb nb mb sb m : Nat) (ty nu : Value) (T : List Kz) (N : List NN) (G : List GN) (vs : List Value) (hst : StV B w tb rb nb mb sb m ty nu T N G vs) (hB : B ≤ w.heap.size) (l : List Nat) (a : Kz) (kb : Int) (aa ak : Option Addr) (ca ck : Nat) (h : GivV w gb tb aa ak ca ck l a.kind a.kids kb) :
    Calls Try.prog 51 #[.pointer (some ⟨gb, 0, none⟩), .string ⟨#[111, 114]⟩] w (MadeJ B w tb rb nb mb sb m N G vs (numK T (baseK 1))) := by
  have c0 := h.c0
  have CB := (hst.baseJ hB (show (1 : Int) ≤ 1 by omega) (by omega))
  have HCB := Lib.hid CB
  clear CB h hst
  go_enter Try.func51, Try.ntmps51
  go_wp2_with (go_at_call 77; (refine HCB.out.mono ?_); intro e w1 hq; obtain ⟨rb', nb', ty', nu', rfl, h1, h2, h3⟩ := hq; have H1 := Lib.hid h1; have H2 := Lib.hid h2; have H3 := Lib.hid h3; clear h1 h2 h3)
  go_ret2
  exact ⟨rb', nb', ty', nu', rfl, H1.out, H2.out, H3.out⟩
set_option maxHeartbeats 4000000 in
theorem ans_eq (w : World) (B gb tb rb nb mb sb m : Nat) (ty nu : Value) (T : List Kz) (N : List NN) (G : List GN) (vs : List Value) (hst : StV B w tb rb nb mb sb m ty nu T N G vs) (hB : B ≤ w.heap.size) (l : List Nat) (a : Kz) (kb : Int) (aa ak : Option Addr) (ca ck : Nat) (h : GivV w gb tb aa ak ca ck l a.kind a.kids kb) :
    Calls Try.prog 51 #[.pointer (some ⟨gb, 0, none⟩), .string ⟨#[101, 113]⟩] w (MadeJ B w tb rb nb mb sb m N G vs (numK T (baseK 1))) := by
  have c0 := h.c0
  have CB := (hst.baseJ hB (show (1 : Int) ≤ 1 by omega) (by omega))
  have HCB := Lib.hid CB
  clear CB h hst
  go_enter Try.func51, Try.ntmps51
  go_wp2_with (go_at_call 77; (refine HCB.out.mono ?_); intro e w1 hq; obtain ⟨rb', nb', ty', nu', rfl, h1, h2, h3⟩ := hq; have H1 := Lib.hid h1; have H2 := Lib.hid h2; have H3 := Lib.hid h3; clear h1 h2 h3)
  go_ret2
  exact ⟨rb', nb', ty', nu', rfl, H1.out, H2.out, H3.out⟩
set_option maxHeartbeats 4000000 in
theorem ans_lt (w : World) (B gb tb rb nb mb sb m : Nat) (ty nu : Value) (T : List Kz) (N : List NN) (G : List GN) (vs : List Value) (hst : StV B w tb rb nb mb sb m ty nu T N G vs) (hB : B ≤ w.heap.size) (l : List Nat) (a : Kz) (kb : Int) (aa ak : Option Addr) (ca ck : Nat) (h : GivV w gb tb aa ak ca ck l a.kind a.kids kb) :
    Calls Try.prog 51 #[.pointer (some ⟨gb, 0, none⟩), .string ⟨#[108, 116]⟩] w (MadeJ B w tb rb nb mb sb m N G vs (numK T (baseK 1))) := by
  have c0 := h.c0
  have CB := (hst.baseJ hB (show (1 : Int) ≤ 1 by omega) (by omega))
  have HCB := Lib.hid CB
  clear CB h hst
  go_enter Try.func51, Try.ntmps51
  go_wp2_with (go_at_call 77; (refine HCB.out.mono ?_); intro e w1 hq; obtain ⟨rb', nb', ty', nu', rfl, h1, h2, h3⟩ := hq; have H1 := Lib.hid h1; have H2 := Lib.hid h2; have H3 := Lib.hid h3; clear h1 h2 h3)
  go_ret2
  exact ⟨rb', nb', ty', nu', rfl, H1.out, H2.out, H3.out⟩
set_option maxHeartbeats 4000000 in
theorem ans_has (w : World) (B gb tb rb nb mb sb m : Nat) (ty nu : Value) (T : List Kz) (N : List NN) (G : List GN) (vs : List Value) (hst : StV B w tb rb nb mb sb m ty nu T N G vs) (hB : B ≤ w.heap.size) (l : List Nat) (a : Kz) (kb : Int) (aa ak : Option Addr) (ca ck : Nat) (h : GivV w gb tb aa ak ca ck l a.kind a.kids kb) :
    Calls Try.prog 51 #[.pointer (some ⟨gb, 0, none⟩), .string ⟨#[104, 97, 115]⟩] w (MadeJ B w tb rb nb mb sb m N G vs (numK T (baseK 1))) := by
  have c0 := h.c0
  have CB := (hst.baseJ hB (show (1 : Int) ≤ 1 by omega) (by omega))
  have HCB := Lib.hid CB
  clear CB h hst
  go_enter Try.func51, Try.ntmps51
  go_wp2_with (go_at_call 77; (refine HCB.out.mono ?_); intro e w1 hq; obtain ⟨rb', nb', ty', nu', rfl, h1, h2, h3⟩ := hq; have H1 := Lib.hid h1; have H2 := Lib.hid h2; have H3 := Lib.hid h3; clear h1 h2 h3)
  go_ret2
  exact ⟨rb', nb', ty', nu', rfl, H1.out, H2.out, H3.out⟩
set_option maxHeartbeats 4000000 in
theorem ans_cat (w : World) (B gb tb rb nb mb sb m : Nat) (ty nu : Value) (T : List Kz) (N : List NN) (G : List GN) (vs : List Value) (hst : StV B w tb rb nb mb sb m ty nu T N G vs) (hB : B ≤ w.heap.size) (l : List Nat) (a : Kz) (kb : Int) (aa ak : Option Addr) (ca ck : Nat) (h : GivV w gb tb aa ak ca ck l a.kind a.kids kb) :
    Calls Try.prog 51 #[.pointer (some ⟨gb, 0, none⟩), .string ⟨#[99, 97, 116]⟩] w (MadeJ B w tb rb nb mb sb m N G vs (numK T (baseK 3))) := by
  have c0 := h.c0
  have CB := (hst.baseJ hB (show (1 : Int) ≤ 3 by omega) (by omega))
  have HCB := Lib.hid CB
  clear CB h hst
  go_enter Try.func51, Try.ntmps51
  go_wp2_with (go_at_call 77; (refine HCB.out.mono ?_); intro e w1 hq; obtain ⟨rb', nb', ty', nu', rfl, h1, h2, h3⟩ := hq; have H1 := Lib.hid h1; have H2 := Lib.hid h2; have H3 := Lib.hid h3; clear h1 h2 h3)
  go_ret2
  exact ⟨rb', nb', ty', nu', rfl, H1.out, H2.out, H3.out⟩
set_option maxHeartbeats 4000000 in
theorem ans_text (w : World) (B gb tb rb nb mb sb m : Nat) (ty nu : Value) (T : List Kz) (N : List NN) (G : List GN) (vs : List Value) (hst : StV B w tb rb nb mb sb m ty nu T N G vs) (hB : B ≤ w.heap.size) (l : List Nat) (a : Kz) (kb : Int) (aa ak : Option Addr) (ca ck : Nat) (h : GivV w gb tb aa ak ca ck l a.kind a.kids kb) :
    Calls Try.prog 51 #[.pointer (some ⟨gb, 0, none⟩), .string ⟨#[116, 101, 120, 116]⟩] w (MadeJ B w tb rb nb mb sb m N G vs (numK T (baseK 3))) := by
  have c0 := h.c0
  have CB := (hst.baseJ hB (show (1 : Int) ≤ 3 by omega) (by omega))
  have HCB := Lib.hid CB
  clear CB h hst
  go_enter Try.func51, Try.ntmps51
  go_wp2_with (go_at_call 77; (refine HCB.out.mono ?_); intro e w1 hq; obtain ⟨rb', nb', ty', nu', rfl, h1, h2, h3⟩ := hq; have H1 := Lib.hid h1; have H2 := Lib.hid h2; have H3 := Lib.hid h3; clear h1 h2 h3)
  go_ret2
  exact ⟨rb', nb', ty', nu', rfl, H1.out, H2.out, H3.out⟩
set_option maxHeartbeats 4000000 in
theorem ans_add (w : World) (B gb tb rb nb mb sb m : Nat) (ty nu : Value) (T : List Kz) (N : List NN) (G : List GN) (vs : List Value) (hst : StV B w tb rb nb mb sb m ty nu T N G vs) (hB : B ≤ w.heap.size) (l : List Nat) (a : Kz) (kb : Int) (aa ak : Option Addr) (ca ck : Nat) (h : GivV w gb tb aa ak ca ck l a.kind a.kids kb) :
    Calls Try.prog 51 #[.pointer (some ⟨gb, 0, none⟩), .string ⟨#[97, 100, 100]⟩] w (MadeJ B w tb rb nb mb sb m N G vs (numK T (baseK 2))) := by
  have c0 := h.c0
  have CB := (hst.baseJ hB (show (1 : Int) ≤ 2 by omega) (by omega))
  have HCB := Lib.hid CB
  clear CB h hst
  go_enter Try.func51, Try.ntmps51
  go_wp2_with (go_at_call 77; (refine HCB.out.mono ?_); intro e w1 hq; obtain ⟨rb', nb', ty', nu', rfl, h1, h2, h3⟩ := hq; have H1 := Lib.hid h1; have H2 := Lib.hid h2; have H3 := Lib.hid h3; clear h1 h2 h3)
  go_ret2
  exact ⟨rb', nb', ty', nu', rfl, H1.out, H2.out, H3.out⟩
set_option maxHeartbeats 4000000 in
theorem ans_sub (w : World) (B gb tb rb nb mb sb m : Nat) (ty nu : Value) (T : List Kz) (N : List NN) (G : List GN) (vs : List Value) (hst : StV B w tb rb nb mb sb m ty nu T N G vs) (hB : B ≤ w.heap.size) (l : List Nat) (a : Kz) (kb : Int) (aa ak : Option Addr) (ca ck : Nat) (h : GivV w gb tb aa ak ca ck l a.kind a.kids kb) :
    Calls Try.prog 51 #[.pointer (some ⟨gb, 0, none⟩), .string ⟨#[115, 117, 98]⟩] w (MadeJ B w tb rb nb mb sb m N G vs (numK T (baseK 2))) := by
  have c0 := h.c0
  have CB := (hst.baseJ hB (show (1 : Int) ≤ 2 by omega) (by omega))
  have HCB := Lib.hid CB
  clear CB h hst
  go_enter Try.func51, Try.ntmps51
  go_wp2_with (go_at_call 77; (refine HCB.out.mono ?_); intro e w1 hq; obtain ⟨rb', nb', ty', nu', rfl, h1, h2, h3⟩ := hq; have H1 := Lib.hid h1; have H2 := Lib.hid h2; have H3 := Lib.hid h3; clear h1 h2 h3)
  go_ret2
  exact ⟨rb', nb', ty', nu', rfl, H1.out, H2.out, H3.out⟩
set_option maxHeartbeats 4000000 in
theorem ans_mul (w : World) (B gb tb rb nb mb sb m : Nat) (ty nu : Value) (T : List Kz) (N : List NN) (G : List GN) (vs : List Value) (hst : StV B w tb rb nb mb sb m ty nu T N G vs) (hB : B ≤ w.heap.size) (l : List Nat) (a : Kz) (kb : Int) (aa ak : Option Addr) (ca ck : Nat) (h : GivV w gb tb aa ak ca ck l a.kind a.kids kb) :
    Calls Try.prog 51 #[.pointer (some ⟨gb, 0, none⟩), .string ⟨#[109, 117, 108]⟩] w (MadeJ B w tb rb nb mb sb m N G vs (numK T (baseK 2))) := by
  have c0 := h.c0
  have CB := (hst.baseJ hB (show (1 : Int) ≤ 2 by omega) (by omega))
  have HCB := Lib.hid CB
  clear CB h hst
  go_enter Try.func51, Try.ntmps51
  go_wp2_with (go_at_call 77; (refine HCB.out.mono ?_); intro e w1 hq; obtain ⟨rb', nb', ty', nu', rfl, h1, h2, h3⟩ := hq; have H1 := Lib.hid h1; have H2 := Lib.hid h2; have H3 := Lib.hid h3; clear h1 h2 h3)
  go_ret2
  exact ⟨rb', nb', ty', nu', rfl, H1.out, H2.out, H3.out⟩
set_option maxHeartbeats 4000000 in
theorem ans_shl (w : World) (B gb tb rb nb mb sb m : Nat) (ty nu : Value) (T : List Kz) (N : List NN) (G : List GN) (vs : List Value) (hst : StV B w tb rb nb mb sb m ty nu T N G vs) (hB : B ≤ w.heap.size) (l : List Nat) (a : Kz) (kb : Int) (aa ak : Option Addr) (ca ck : Nat) (h : GivV w gb tb aa ak ca ck l a.kind a.kids kb) :
    Calls Try.prog 51 #[.pointer (some ⟨gb, 0, none⟩), .string ⟨#[115, 104, 108]⟩] w (MadeJ B w tb rb nb mb sb m N G vs (numK T (baseK 2))) := by
  have c0 := h.c0
  have CB := (hst.baseJ hB (show (1 : Int) ≤ 2 by omega) (by omega))
  have HCB := Lib.hid CB
  clear CB h hst
  go_enter Try.func51, Try.ntmps51
  go_wp2_with (go_at_call 77; (refine HCB.out.mono ?_); intro e w1 hq; obtain ⟨rb', nb', ty', nu', rfl, h1, h2, h3⟩ := hq; have H1 := Lib.hid h1; have H2 := Lib.hid h2; have H3 := Lib.hid h3; clear h1 h2 h3)
  go_ret2
  exact ⟨rb', nb', ty', nu', rfl, H1.out, H2.out, H3.out⟩
set_option maxHeartbeats 4000000 in
theorem ans_shr (w : World) (B gb tb rb nb mb sb m : Nat) (ty nu : Value) (T : List Kz) (N : List NN) (G : List GN) (vs : List Value) (hst : StV B w tb rb nb mb sb m ty nu T N G vs) (hB : B ≤ w.heap.size) (l : List Nat) (a : Kz) (kb : Int) (aa ak : Option Addr) (ca ck : Nat) (h : GivV w gb tb aa ak ca ck l a.kind a.kids kb) :
    Calls Try.prog 51 #[.pointer (some ⟨gb, 0, none⟩), .string ⟨#[115, 104, 114]⟩] w (MadeJ B w tb rb nb mb sb m N G vs (numK T (baseK 2))) := by
  have c0 := h.c0
  have CB := (hst.baseJ hB (show (1 : Int) ≤ 2 by omega) (by omega))
  have HCB := Lib.hid CB
  clear CB h hst
  go_enter Try.func51, Try.ntmps51
  go_wp2_with (go_at_call 77; (refine HCB.out.mono ?_); intro e w1 hq; obtain ⟨rb', nb', ty', nu', rfl, h1, h2, h3⟩ := hq; have H1 := Lib.hid h1; have H2 := Lib.hid h2; have H3 := Lib.hid h3; clear h1 h2 h3)
  go_ret2
  exact ⟨rb', nb', ty', nu', rfl, H1.out, H2.out, H3.out⟩
set_option maxHeartbeats 4000000 in
theorem ans_i8 (w : World) (B gb tb rb nb mb sb m : Nat) (ty nu : Value) (T : List Kz) (N : List NN) (G : List GN) (vs : List Value) (hst : StV B w tb rb nb mb sb m ty nu T N G vs) (hB : B ≤ w.heap.size) (l : List Nat) (a : Kz) (kb : Int) (aa ak : Option Addr) (ca ck : Nat) (h : GivV w gb tb aa ak ca ck l a.kind a.kids kb) :
    Calls Try.prog 51 #[.pointer (some ⟨gb, 0, none⟩), .string ⟨#[105, 56]⟩] w (MadeJ B w tb rb nb mb sb m N G vs (numK T (baseK 2))) := by
  have c0 := h.c0
  have CB := (hst.baseJ hB (show (1 : Int) ≤ 2 by omega) (by omega))
  have HCB := Lib.hid CB
  clear CB h hst
  go_enter Try.func51, Try.ntmps51
  go_wp2_with (go_at_call 77; (refine HCB.out.mono ?_); intro e w1 hq; obtain ⟨rb', nb', ty', nu', rfl, h1, h2, h3⟩ := hq; have H1 := Lib.hid h1; have H2 := Lib.hid h2; have H3 := Lib.hid h3; clear h1 h2 h3)
  go_ret2
  exact ⟨rb', nb', ty', nu', rfl, H1.out, H2.out, H3.out⟩
set_option maxHeartbeats 4000000 in
theorem ans_i16 (w : World) (B gb tb rb nb mb sb m : Nat) (ty nu : Value) (T : List Kz) (N : List NN) (G : List GN) (vs : List Value) (hst : StV B w tb rb nb mb sb m ty nu T N G vs) (hB : B ≤ w.heap.size) (l : List Nat) (a : Kz) (kb : Int) (aa ak : Option Addr) (ca ck : Nat) (h : GivV w gb tb aa ak ca ck l a.kind a.kids kb) :
    Calls Try.prog 51 #[.pointer (some ⟨gb, 0, none⟩), .string ⟨#[105, 49, 54]⟩] w (MadeJ B w tb rb nb mb sb m N G vs (numK T (baseK 2))) := by
  have c0 := h.c0
  have CB := (hst.baseJ hB (show (1 : Int) ≤ 2 by omega) (by omega))
  have HCB := Lib.hid CB
  clear CB h hst
  go_enter Try.func51, Try.ntmps51
  go_wp2_with (go_at_call 77; (refine HCB.out.mono ?_); intro e w1 hq; obtain ⟨rb', nb', ty', nu', rfl, h1, h2, h3⟩ := hq; have H1 := Lib.hid h1; have H2 := Lib.hid h2; have H3 := Lib.hid h3; clear h1 h2 h3)
  go_ret2
  exact ⟨rb', nb', ty', nu', rfl, H1.out, H2.out, H3.out⟩
set_option maxHeartbeats 4000000 in
theorem ans_i32 (w : World) (B gb tb rb nb mb sb m : Nat) (ty nu : Value) (T : List Kz) (N : List NN) (G : List GN) (vs : List Value) (hst : StV B w tb rb nb mb sb m ty nu T N G vs) (hB : B ≤ w.heap.size) (l : List Nat) (a : Kz) (kb : Int) (aa ak : Option Addr) (ca ck : Nat) (h : GivV w gb tb aa ak ca ck l a.kind a.kids kb) :
    Calls Try.prog 51 #[.pointer (some ⟨gb, 0, none⟩), .string ⟨#[105, 51, 50]⟩] w (MadeJ B w tb rb nb mb sb m N G vs (numK T (baseK 2))) := by
  have c0 := h.c0
  have CB := (hst.baseJ hB (show (1 : Int) ≤ 2 by omega) (by omega))
  have HCB := Lib.hid CB
  clear CB h hst
  go_enter Try.func51, Try.ntmps51
  go_wp2_with (go_at_call 77; (refine HCB.out.mono ?_); intro e w1 hq; obtain ⟨rb', nb', ty', nu', rfl, h1, h2, h3⟩ := hq; have H1 := Lib.hid h1; have H2 := Lib.hid h2; have H3 := Lib.hid h3; clear h1 h2 h3)
  go_ret2
  exact ⟨rb', nb', ty', nu', rfl, H1.out, H2.out, H3.out⟩
set_option maxHeartbeats 4000000 in
theorem ans_u8 (w : World) (B gb tb rb nb mb sb m : Nat) (ty nu : Value) (T : List Kz) (N : List NN) (G : List GN) (vs : List Value) (hst : StV B w tb rb nb mb sb m ty nu T N G vs) (hB : B ≤ w.heap.size) (l : List Nat) (a : Kz) (kb : Int) (aa ak : Option Addr) (ca ck : Nat) (h : GivV w gb tb aa ak ca ck l a.kind a.kids kb) :
    Calls Try.prog 51 #[.pointer (some ⟨gb, 0, none⟩), .string ⟨#[117, 56]⟩] w (MadeJ B w tb rb nb mb sb m N G vs (numK T (baseK 2))) := by
  have c0 := h.c0
  have CB := (hst.baseJ hB (show (1 : Int) ≤ 2 by omega) (by omega))
  have HCB := Lib.hid CB
  clear CB h hst
  go_enter Try.func51, Try.ntmps51
  go_wp2_with (go_at_call 77; (refine HCB.out.mono ?_); intro e w1 hq; obtain ⟨rb', nb', ty', nu', rfl, h1, h2, h3⟩ := hq; have H1 := Lib.hid h1; have H2 := Lib.hid h2; have H3 := Lib.hid h3; clear h1 h2 h3)
  go_ret2
  exact ⟨rb', nb', ty', nu', rfl, H1.out, H2.out, H3.out⟩
set_option maxHeartbeats 4000000 in
theorem ans_u16 (w : World) (B gb tb rb nb mb sb m : Nat) (ty nu : Value) (T : List Kz) (N : List NN) (G : List GN) (vs : List Value) (hst : StV B w tb rb nb mb sb m ty nu T N G vs) (hB : B ≤ w.heap.size) (l : List Nat) (a : Kz) (kb : Int) (aa ak : Option Addr) (ca ck : Nat) (h : GivV w gb tb aa ak ca ck l a.kind a.kids kb) :
    Calls Try.prog 51 #[.pointer (some ⟨gb, 0, none⟩), .string ⟨#[117, 49, 54]⟩] w (MadeJ B w tb rb nb mb sb m N G vs (numK T (baseK 2))) := by
  have c0 := h.c0
  have CB := (hst.baseJ hB (show (1 : Int) ≤ 2 by omega) (by omega))
  have HCB := Lib.hid CB
  clear CB h hst
  go_enter Try.func51, Try.ntmps51
  go_wp2_with (go_at_call 77; (refine HCB.out.mono ?_); intro e w1 hq; obtain ⟨rb', nb', ty', nu', rfl, h1, h2, h3⟩ := hq; have H1 := Lib.hid h1; have H2 := Lib.hid h2; have H3 := Lib.hid h3; clear h1 h2 h3)
  go_ret2
  exact ⟨rb', nb', ty', nu', rfl, H1.out, H2.out, H3.out⟩
set_option maxHeartbeats 4000000 in
theorem ans_u32 (w : World) (B gb tb rb nb mb sb m : Nat) (ty nu : Value) (T : List Kz) (N : List NN) (G : List GN) (vs : List Value) (hst : StV B w tb rb nb mb sb m ty nu T N G vs) (hB : B ≤ w.heap.size) (l : List Nat) (a : Kz) (kb : Int) (aa ak : Option Addr) (ca ck : Nat) (h : GivV w gb tb aa ak ca ck l a.kind a.kids kb) :
    Calls Try.prog 51 #[.pointer (some ⟨gb, 0, none⟩), .string ⟨#[117, 51, 50]⟩] w (MadeJ B w tb rb nb mb sb m N G vs (numK T (baseK 2))) := by
  have c0 := h.c0
  have CB := (hst.baseJ hB (show (1 : Int) ≤ 2 by omega) (by omega))
  have HCB := Lib.hid CB
  clear CB h hst
  go_enter Try.func51, Try.ntmps51
  go_wp2_with (go_at_call 77; (refine HCB.out.mono ?_); intro e w1 hq; obtain ⟨rb', nb', ty', nu', rfl, h1, h2, h3⟩ := hq; have H1 := Lib.hid h1; have H2 := Lib.hid h2; have H3 := Lib.hid h3; clear h1 h2 h3)
  go_ret2
  exact ⟨rb', nb', ty', nu', rfl, H1.out, H2.out, H3.out⟩
set_option maxHeartbeats 4000000 in
theorem ans_len (w : World) (B gb tb rb nb mb sb m : Nat) (ty nu : Value) (T : List Kz) (N : List NN) (G : List GN) (vs : List Value) (hst : StV B w tb rb nb mb sb m ty nu T N G vs) (hB : B ≤ w.heap.size) (l : List Nat) (a : Kz) (kb : Int) (aa ak : Option Addr) (ca ck : Nat) (h : GivV w gb tb aa ak ca ck l a.kind a.kids kb) :
    Calls Try.prog 51 #[.pointer (some ⟨gb, 0, none⟩), .string ⟨#[108, 101, 110]⟩] w (MadeJ B w tb rb nb mb sb m N G vs (numK T (baseK 2))) := by
  have c0 := h.c0
  have CB := (hst.baseJ hB (show (1 : Int) ≤ 2 by omega) (by omega))
  have HCB := Lib.hid CB
  clear CB h hst
  go_enter Try.func51, Try.ntmps51
  go_wp2_with (go_at_call 77; (refine HCB.out.mono ?_); intro e w1 hq; obtain ⟨rb', nb', ty', nu', rfl, h1, h2, h3⟩ := hq; have H1 := Lib.hid h1; have H2 := Lib.hid h2; have H3 := Lib.hid h3; clear h1 h2 h3)
  go_ret2
  exact ⟨rb', nb', ty', nu', rfl, H1.out, H2.out, H3.out⟩
set_option maxHeartbeats 4000000 in
theorem ans_at (w : World) (B gb tb rb nb mb sb m : Nat) (ty nu : Value) (T : List Kz) (N : List NN) (G : List GN) (vs : List Value) (hst : StV B w tb rb nb mb sb m ty nu T N G vs) (hB : B ≤ w.heap.size) (l : List Nat) (a : Kz) (kb : Int) (aa ak : Option Addr) (ca ck : Nat) (h : GivV w gb tb aa ak ca ck l a.kind a.kids kb) (hone : a.kids.length = 1) :
    Calls Try.prog 51 #[.pointer (some ⟨gb, 0, none⟩), .string ⟨#[97, 116]⟩] w (MadeJ B w tb rb nb mb sb m N G vs (a.kids.getD 0 0, 0, T)) := by
  have c0 := h.c0; have c5 := h.c5
  obtain ⟨g, o, rfl, hg, q0⟩ := idsL_cell h.rk (i := 0) (by rw [hone]; decide)
  rw [Nat.add_zero] at q0
  have HM := Lib.hid (fun w1 => MadeJ.of (w1 := w1) (i := a.kids.getD 0 0) (e := 0) hst hB)
  obtain ⟨kz, hkz⟩ : ∃ kz, a.kids.getD 0 0 = kz := ⟨_, rfl⟩
  rw [hkz] at q0 HM ⊢
  clear h hst hkz
  go_enter Try.func51, Try.ntmps51
  go_wp2
  go_ret2
  exact HM.out _ (Below.refl _ _)
set_option maxHeartbeats 4000000 in
theorem ans_orelse (w : World) (B gb tb rb nb mb sb m : Nat) (ty nu : Value) (T : List Kz) (N : List NN) (G : List GN) (vs : List Value) (hst : StV B w tb rb nb mb sb m ty nu T N G vs) (hB : B ≤ w.heap.size) (l : List Nat) (a : Kz) (kb : Int) (aa ak : Option Addr) (ca ck : Nat) (h : GivV w gb tb aa ak ca ck l a.kind a.kids kb) (hone : a.kids.length = 1) :
    Calls Try.prog 51 #[.pointer (some ⟨gb, 0, none⟩), .string ⟨#[111, 114, 101, 108, 115, 101]⟩] w (MadeJ B w tb rb nb mb sb m N G vs (a.kids.getD 0 0, 0, T)) := by
  have c0 := h.c0; have c5 := h.c5
  obtain ⟨g, o, rfl, hg, q0⟩ := idsL_cell h.rk (i := 0) (by rw [hone]; decide)
  rw [Nat.add_zero] at q0
  have HM := Lib.hid (fun w1 => MadeJ.of (w1 := w1) (i := a.kids.getD 0 0) (e := 0) hst hB)
  obtain ⟨kz, hkz⟩ : ∃ kz, a.kids.getD 0 0 = kz := ⟨_, rfl⟩
  rw [hkz] at q0 HM ⊢
  clear h hst hkz
  go_enter Try.func51, Try.ntmps51
  go_wp2
  go_ret2
  exact HM.out _ (Below.refl _ _)
set_option maxHeartbeats 4000000 in
theorem ans_get (w : World) (B gb tb rb nb mb sb m : Nat) (ty nu : Value) (T : List Kz) (N : List NN) (G : List GN) (vs : List Value) (hst : StV B w tb rb nb mb sb m ty nu T N G vs) (hB : B ≤ w.heap.size) (l : List Nat) (a : Kz) (kb : Int) (aa ak : Option Addr) (ca ck : Nat) (h : GivV w gb tb aa ak ca ck l a.kind a.kids kb) (hone : a.kids.length = 1) (hk : a.kids.getD 0 0 < T.length) (W0 : World) (h0 : TabV W0 tb rb nb mb sb m ty nu T) (hgb : W0.heap.size ≤ gb) (hgl : gb < w.heap.size) (hrk : RowV w (fun g => W0.heap.size ≤ g ∧ g < w.heap.size) ak 1 (idsL a.kids)) :
    Calls Try.prog 51 #[.pointer (some ⟨gb, 0, none⟩), .string ⟨#[103, 101, 116]⟩] w (MadeJ B w tb rb nb mb sb m N G vs (numK T (optK (a.kids.getD 0 0)))) := by
  have c0 := h.c0; have c5 := h.c5
  obtain ⟨g, o, rfl, hg, q0⟩ := idsL_cell hrk (i := 0) (by rw [hone]; decide)
  rw [Nat.add_zero] at q0
  have hno : ∀ x, W0.heap.size ≤ x → ¬ Own tb rb nb x := fun x hx ho => by have := h0.lt ho; omega
  have hK : ∀ W, Keeps (Own tb rb nb) w.drew W → ∀ b, W0.heap.size ≤ b → b < w.heap.size → W.heap[b]? = w.heap[b]? := fun W hW b h1 h2 => hW.block b h2 (hno b h1)
  have CB := (hst.below (Below.refl w.heap.size w).drew).optJ (show B ≤ w.drew.heap.size from hB) hk
  have HCB := Lib.hid CB; have HK := Lib.hid hK
  obtain ⟨kz, hkz⟩ : ∃ kz, a.kids.getD 0 0 = kz := ⟨_, rfl⟩
  rw [hkz] at q0 HCB ⊢
  have d0 : w.drew.cell? ⟨gb, 0, none⟩ = some (.pointer (some ⟨tb, 0, none⟩)) := c0
  have d5 : w.drew.cell? ⟨gb, 5, none⟩ = some (.slice (some ⟨g, o, none⟩) a.kids.length ck) := c5
  have dq : w.drew.cell? ⟨g, o, none⟩ = some (.int .i64 (kz : Nat)) := q0
  have hg1 := hg.1; have hg2 := hg.2
  clear CB h hst hkz hK hno h0 hrk hg
  go_enter Try.func51, Try.ntmps51
  go_upto_region 6 with fail
  go_region_held3 (fun w' => w'.cell? ⟨gb, 0, none⟩ = some (.pointer (some ⟨tb, 0, none⟩)) ∧ w'.cell? ⟨gb, 5, none⟩ = some (.slice (some ⟨g, o, none⟩) a.kids.length ck) ∧ w'.cell? ⟨g, o, none⟩ = some (.int .i64 (kz : Nat))) (first | exact ⟨c0, c5, q0⟩ | exact ⟨d0, d5, dq⟩ | exact ⟨e0, e5, eq⟩) (first
    | (go_at_call 76; (refine HCB.out.mono ?_); intro e w1 hq; obtain ⟨rb', nb', ty', nu', rfl, h1, h2, h3, h4⟩ := hq; have H4 := Lib.hid h4; clear h4; have e0 := (World.cell?_of_block (a := ⟨gb, 0, none⟩) (HK.out w1 h3 gb hgb hgl)).trans c0; have e5 := (World.cell?_of_block (a := ⟨gb, 5, none⟩) (HK.out w1 h3 gb hgb hgl)).trans c5; have eq := (World.cell?_of_block (a := ⟨g, o, none⟩) (HK.out w1 h3 g hg1 hg2)).trans q0; have H1 := Lib.hid h1; have H2 := Lib.hid h2; have H3 := Lib.hid h3; clear h1 h2 h3))
  go_wp2
  go_ret2
  exact ⟨rb', nb', ty', nu', rfl, H1.out, ((Below.refl _ _).drew.mono hB).trans H2.out, (Keeps.of_below (Below.refl _ _).drew).trans H3.out (fun g h => .inl h), H4.out⟩
theorem ans_any (s : List UInt8) (hbi : builtinB s = true) (w : World) (B gb tb rb nb mb sb m : Nat) (ty nu : Value) (T : List Kz) (N : List NN) (G : List GN) (vs : List Value) (hst : StV B w tb rb nb mb sb m ty nu T N G vs) (hB : B ≤ w.heap.size) (l : List Nat) (a b : Kz) (kb : Int) (aa ak : Option Addr) (ca ck : Nat) (h : GivV w gb tb aa ak ca ck l a.kind a.kids kb) (y : Nat) (hf : fitsJ (clsJ s) T N y a b = true) (hone : a.kind = 4 ∨ a.kind = 5 ∨ a.kind = 6 → a.kids.length = 1) (hkid : a.kind = 4 ∨ a.kind = 5 ∨ a.kind = 6 → a.kids.getD 0 0 < T.length) (W0 : World) (h0 : TabV W0 tb rb nb mb sb m ty nu T) (hgb : W0.heap.size ≤ gb) (hgl : gb < w.heap.size) (hrk : RowV w (fun g => W0.heap.size ≤ g ∧ g < w.heap.size) ak 1 (idsL a.kids)) :
    Calls Try.prog 51 #[.pointer (some ⟨gb, 0, none⟩), .string ⟨s.toArray⟩] w (MadeJ B w tb rb nb mb sb m N G vs (ansJ s T a)) := by
  rcases Builtin_cases s hbi with rfl | rfl | rfl | rfl | rfl | rfl | rfl | rfl | rfl | rfl | rfl | rfl | rfl | rfl | rfl | rfl | rfl | rfl | rfl | rfl | rfl | rfl | rfl
  · rw [show ansJ [108, 101, 110] T a = numK T (baseK 2) from rfl]; exact ans_len w B gb tb rb nb mb sb m ty nu T N G vs hst hB l a kb aa ak ca ck h
  · rw [show ansJ [110, 111, 116] T a = numK T (baseK 1) from rfl]; exact ans_not w B gb tb rb nb mb sb m ty nu T N G vs hst hB l a kb aa ak ca ck h
  · rw [show ansJ [97, 110, 100] T a = numK T (baseK 1) from rfl]; exact ans_and w B gb tb rb nb mb sb m ty nu T N G vs hst hB l a kb aa ak ca ck h
  · rw [show ansJ [111, 114] T a = numK T (baseK 1) from rfl]; exact ans_or w B gb tb rb nb mb sb m ty nu T N G vs hst hB l a kb aa ak ca ck h
  · rw [show ansJ [101, 113] T a = numK T (baseK 1) from rfl]; exact ans_eq w B gb tb rb nb mb sb m ty nu T N G vs hst hB l a kb aa ak ca ck h
  · rw [show ansJ [108, 116] T a = numK T (baseK 1) from rfl]; exact ans_lt w B gb tb rb nb mb sb m ty nu T N G vs hst hB l a kb aa ak ca ck h
  · rw [show ansJ [97, 100, 100] T a = numK T (baseK 2) from rfl]; exact ans_add w B gb tb rb nb mb sb m ty nu T N G vs hst hB l a kb aa ak ca ck h
  · rw [show ansJ [115, 117, 98] T a = numK T (baseK 2) from rfl]; exact ans_sub w B gb tb rb nb mb sb m ty nu T N G vs hst hB l a kb aa ak ca ck h
  · rw [show ansJ [109, 117, 108] T a = numK T (baseK 2) from rfl]; exact ans_mul w B gb tb rb nb mb sb m ty nu T N G vs hst hB l a kb aa ak ca ck h
  · rw [show ansJ [115, 104, 108] T a = numK T (baseK 2) from rfl]; exact ans_shl w B gb tb rb nb mb sb m ty nu T N G vs hst hB l a kb aa ak ca ck h
  · rw [show ansJ [115, 104, 114] T a = numK T (baseK 2) from rfl]; exact ans_shr w B gb tb rb nb mb sb m ty nu T N G vs hst hB l a kb aa ak ca ck h
  · rw [show ansJ [105, 56] T a = numK T (baseK 2) from rfl]; exact ans_i8 w B gb tb rb nb mb sb m ty nu T N G vs hst hB l a kb aa ak ca ck h
  · rw [show ansJ [105, 49, 54] T a = numK T (baseK 2) from rfl]; exact ans_i16 w B gb tb rb nb mb sb m ty nu T N G vs hst hB l a kb aa ak ca ck h
  · rw [show ansJ [105, 51, 50] T a = numK T (baseK 2) from rfl]; exact ans_i32 w B gb tb rb nb mb sb m ty nu T N G vs hst hB l a kb aa ak ca ck h
  · rw [show ansJ [117, 56] T a = numK T (baseK 2) from rfl]; exact ans_u8 w B gb tb rb nb mb sb m ty nu T N G vs hst hB l a kb aa ak ca ck h
  · rw [show ansJ [117, 49, 54] T a = numK T (baseK 2) from rfl]; exact ans_u16 w B gb tb rb nb mb sb m ty nu T N G vs hst hB l a kb aa ak ca ck h
  · rw [show ansJ [117, 51, 50] T a = numK T (baseK 2) from rfl]; exact ans_u32 w B gb tb rb nb mb sb m ty nu T N G vs hst hB l a kb aa ak ca ck h
  · rw [show ansJ [99, 97, 116] T a = numK T (baseK 3) from rfl]; exact ans_cat w B gb tb rb nb mb sb m ty nu T N G vs hst hB l a kb aa ak ca ck h
  · rw [show ansJ [116, 101, 120, 116] T a = numK T (baseK 3) from rfl]; exact ans_text w B gb tb rb nb mb sb m ty nu T N G vs hst hB l a kb aa ak ca ck h
  · rw [show ansJ [97, 116] T a = (a.kids.getD 0 0, 0, T) from rfl]
    rw [show clsJ [97, 116] = 8 from rfl] at hf
    simp only [fitsJ, Bool.and_eq_true] at hf
    have hk := (.inl (by simpa using hf.1) : a.kind = 4 ∨ a.kind = 5 ∨ a.kind = 6)
    exact ans_at w B gb tb rb nb mb sb m ty nu T N G vs hst hB l a kb aa ak ca ck h (hone hk)
  · rw [show ansJ [103, 101, 116] T a = numK T (optK (a.kids.getD 0 0)) from rfl]
    rw [show clsJ [103, 101, 116] = 9 from rfl] at hf
    simp only [fitsJ, Bool.and_eq_true] at hf
    have hk := (.inr (.inl (by simpa using hf.1)) : a.kind = 4 ∨ a.kind = 5 ∨ a.kind = 6)
    exact ans_get w B gb tb rb nb mb sb m ty nu T N G vs hst hB l a kb aa ak ca ck h (hone hk) (hkid hk) W0 h0 hgb hgl hrk
  · rw [show ansJ [104, 97, 115] T a = numK T (baseK 1) from rfl]; exact ans_has w B gb tb rb nb mb sb m ty nu T N G vs hst hB l a kb aa ak ca ck h
  · rw [show ansJ [111, 114, 101, 108, 115, 101] T a = (a.kids.getD 0 0, 0, T) from rfl]
    rw [show clsJ [111, 114, 101, 108, 115, 101] = 11 from rfl] at hf
    simp only [fitsJ, Bool.and_eq_true] at hf
    have hk := (.inr (.inr (by simpa using hf.1)) : a.kind = 4 ∨ a.kind = 5 ∨ a.kind = 6)
    exact ans_orelse w B gb tb rb nb mb sb m ty nu T N G vs hst hB l a kb aa ak ca ck h (hone hk)
end Sp
end Go.Proofs.Ytdophmlnmbcjlaa
