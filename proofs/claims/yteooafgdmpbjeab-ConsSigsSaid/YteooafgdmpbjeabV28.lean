/- FewAll: whether what a schema is made of is not too much. -/
import Derived.Test.YteooafgdmpbjeabV19
import Derived.Test.YteooafgdmpbjeabV8
import Derived.Test.YteooafgdmpbjeabV27
namespace Go.Proofs.Yteooafgdmpbjeab
open Go.RowKit
namespace Sp
open Sc
/-- A row of Raws in memory. -/
structure RwsV (w : World) (l : List Rw) (a : Option Addr) (us : List R4) : Prop where
  len : us.length = l.length
  row : RowV w (Any w) a 4 (us.map R4.cells)
  val : ∀ i (h : i < l.length) (h' : i < us.length), RwV w l[i] us[i]
theorem RwsV.up {w w' : World} {l : List Rw} {a : Option Addr} {us : List R4} (h : RwsV w l a us) (hb : Below w.heap.size w w') : RwsV w' l a us :=
  ⟨h.len, h.row.keep (fun _ hg => Nat.lt_of_lt_of_le hg hb.size) (fun g hg => hb.block g hg), fun i h1 h2 => (h.val i h1 h2).later hb⟩
def fewAllR (main : Rw) (types sigs : List Rw) : Bool := decide (fewR main 60 ≠ 0) && (decide (types.length ≤ 6) && (decide (sigs.length ≤ 6) && (types.all (fun r => decide (fewR r 30 ≠ 0)) && sigs.all (fun r => decide (fewR r 20 ≠ 0)))))
structure FAR (w : World) (l : List Rw) (m : Int) (iv : Value) (wr : World) (j : Nat) : Prop where
  slot : iv = .int .i64 j
  le : j ≤ l.length
  all : ∀ i (h : i < l.length), i < j → fewR l[i] m ≠ 0
  below : Below w.heap.size w wr
theorem all_few {l : List Rw} {m : Int} (h : ∀ i (h : i < l.length), i < l.length → fewR l[i] m ≠ 0) : l.all (fun r => decide (fewR r m ≠ 0)) = true := by
  rw [List.all_eq_true]
  intro r hr
  obtain ⟨i, hi, rfl⟩ := List.mem_iff_getElem.1 hr
  simpa using h i hi hi
theorem not_few {l : List Rw} {m : Int} {i : Nat} (hi : i < l.length) (h : fewR l[i] m = 0) : l.all (fun r => decide (fewR r m ≠ 0)) = false := by
  cases ha : l.all (fun r => decide (fewR r m ≠ 0))
  · rfl
  · have := List.all_eq_true.1 ha l[i] (List.getElem_mem hi)
    simp [h] at this
theorem ret_boolZ {a b : Bool} (h : a = b) : Ending.returned (.bool a) = .returned (.bool b) := by rw [h]
set_option maxRecDepth 100000 in
set_option maxHeartbeats 8000000 in
theorem FewAll_any (main : Rw) (types sigs : List Rw) (c : R4) (at1 at2 : Option Addr) (ut us : List R4) (c1 c2 : Nat) (w : World) (hM : RwV w main c) (hT : RwsV w types at1 ut) (hG : RwsV w sigs at2 us) (hl1 : types.length ≤ maxLen) (hl2 : sigs.length ≤ maxLen) :
    Calls Try.prog 18 #[.agg #[.int .i64 c.k, .int .i64 c.n, .slice c.an c.ln c.cn, .slice c.ak c.lk c.ck], .slice at1 types.length c1, .slice at2 sigs.length c2] w fun e w' => e = .returned (.bool (fewAllR main types sigs)) ∧ Below w.heap.size w w' := by
  unfold maxLen at hl1 hl2
  have HM := Lib.hid hM; have HT := Lib.hid hT; have HG := Lib.hid hG
  clear hM hT hG
  have hbd := fewR_bd main 60
  obtain ⟨W0, hW0⟩ : ∃ W0, W0 = w.alloc (.cells #[.int .i64 c.k, .int .i64 c.n, .slice c.an c.ln c.cn, .slice c.ak c.lk c.ck] 45) := ⟨_, rfl⟩
  have hb0 : Below w.heap.size w W0 := by rw [hW0]; exact (Below.refl _ _).alloc (Nat.le_refl _) _
  have hz0 : W0.heap.size = w.heap.size + 1 := by rw [hW0]; simp
  have HW0 := Lib.hid hW0; have HB0 := Lib.hid hb0
  have hv := (HM.out.later hb0)
  have HC := Lib.hid (Few_any main c 60 W0 hv ⟨by decide, by decide⟩)
  clear hb0 hv
  by_cases h0 : fewR main 60 = 0
  · have hr : fewAllR main types sigs = false := by unfold fewAllR; simp [h0]
    rw [hr]
    have H0 := Lib.hid h0
    clear hr h0 hbd hW0
    go_enter Try.func18, Try.ntmps18
    go_wp2_with (go_at_call 14; rw [← HW0.out]; (with_reducible refine HC.out.mono ?_); rintro e w2 ⟨rfl, x2⟩; rw [H0.out]; have HX2 := Lib.hid x2; clear x2)
    go_ret
    exact ⟨rfl, HB0.out.trans (HX2.out.mono (by omega))⟩
  · have h0z : (fewR main 60 == 0) = false := by rw [beq_eq_false_iff_ne]; exact h0
    by_cases h1 : 6 < types.length
    · have hr : fewAllR main types sigs = false := by
        unfold fewAllR
        rw [show decide (types.length ≤ 6) = false by rw [decide_eq_false_iff_not]; omega]; simp
      rw [hr]
      have h1z : (6 : Int) < (types.length : Int) := by omega
      clear hr hbd h0 hW0
      generalize fewR main 60 = f0 at *
      go_enter Try.func18, Try.ntmps18
      go_wp2_with (go_at_call 14; rw [← HW0.out]; (with_reducible refine HC.out.mono ?_); rintro e w2 ⟨rfl, x2⟩; have HX2 := Lib.hid x2; clear x2)
      go_ret
      exact ⟨rfl, HB0.out.trans (HX2.out.mono (by omega))⟩
    · by_cases h2 : 6 < sigs.length
      · have hr : fewAllR main types sigs = false := by
          unfold fewAllR
          rw [show decide (sigs.length ≤ 6) = false by rw [decide_eq_false_iff_not]; omega]; simp
        rw [hr]
        have h1z : ¬ (6 : Int) < (types.length : Int) := by omega
        have h2z : (6 : Int) < (sigs.length : Int) := by omega
        clear hr hbd h0 hW0
        generalize fewR main 60 = f0 at *
        go_enter Try.func18, Try.ntmps18
        go_wp2_with (go_at_call 14; rw [← HW0.out]; (with_reducible refine HC.out.mono ?_); rintro e w2 ⟨rfl, x2⟩; have HX2 := Lib.hid x2; clear x2)
        go_ret
        exact ⟨rfl, HB0.out.trans (HX2.out.mono (by omega))⟩
      · have h1z : ¬ (6 : Int) < (types.length : Int) := by omega
        have h2z : ¬ (6 : Int) < (sigs.length : Int) := by omega
        have hr : fewAllR main types sigs = (types.all (fun r => decide (fewR r 30 ≠ 0)) && sigs.all (fun r => decide (fewR r 20 ≠ 0))) := by
          unfold fewAllR
          rw [show decide (types.length ≤ 6) = true by rw [decide_eq_true_eq]; omega, show decide (sigs.length ≤ 6) = true by rw [decide_eq_true_eq]; omega, show decide (fewR main 60 ≠ 0) = true by rw [decide_eq_true_eq]; exact h0]; simp
        generalize fewAllR main types sigs = B at *
        have HR := Lib.hid hr
        clear hr hbd h0 hW0
        generalize fewR main 60 = f0 at *
        go_enter Try.func18, Try.ntmps18
        go_wp2_with (go_at_call 14; rw [← HW0.out]; (with_reducible refine HC.out.mono ?_); rintro e w2 ⟨rfl, x2⟩; have HX2 := Lib.hid (HB0.out.trans (x2.mono (by omega))); clear x2)
        go_loopw [7] (fun iv wr => ∃ j, FAR w types 30 iv wr j) (fun iv _ => types.length - (intOf iv).toNat)
        case atStart => exact ⟨0, rfl, Nat.zero_le _, (fun i h hi => by omega), HX2.out⟩
        case round =>
          obtain ⟨j, h⟩ := hrel
          obtain rfl := h.slot
          have hle := h.le
          have H := Lib.hid h
          clear h
          by_cases hj : j < types.length
          · have hju : j < ut.length := by rw [HT.out.len]; exact hj
            obtain ⟨g, o, rfl, hg, hc⟩ := kid_at HT.out.row j hju
            obtain ⟨q0, q1, q2, q3⟩ := hc _ H.out.below
            have C := Few_any types[j] ut[j] 30 _ ((HT.out.val j hj hju).later H.out.below) ⟨by decide, by decide⟩
            have HF := Lib.hid C
            have hjz : (j : Int) < (types.length : Int) := by omega
            have hj0 : (0 : Int) ≤ (j : Int) := by omega
            clear hc C
            obtain ⟨f1, hf1⟩ : ∃ f1, f1 = fewR types[j] 30 := ⟨_, rfl⟩
            rw [← hf1] at HF
            by_cases hf0 : f1 = 0
            · have her : types.all (fun r => decide (fewR r 30 ≠ 0)) = false := not_few hj (by rw [← hf1, hf0])
              have HE := Lib.hid her
              clear her hf1
              subst hf0
              generalize ut[j] = uj at *
              go_wp2_with (go_at_call 14; (with_reducible refine HF.out.mono ?_); rintro e w3 ⟨rfl, x3⟩; have HX3 := Lib.hid x3; clear x3)
              go_ret
              exact ⟨ret_boolZ (by rw [HR.out, HE.out, Bool.false_and]), H.out.below.trans (HX3.out.mono H.out.below.size)⟩
            · have hfz : (f1 == 0) = false := by rw [beq_eq_false_iff_ne]; exact hf0
              have hall : ∀ i (h : i < types.length), i < j + 1 → fewR types[i] 30 ≠ 0 := fun i h hi => by
                by_cases e : i = j
                · subst e; rw [← hf1]; exact hf0
                · exact H.out.all i h (by omega)
              have HALL := Lib.hid hall
              clear hall hf1 hf0
              generalize ut[j] = uj at *
              go_wp2_with (go_at_call 14; (with_reducible refine HF.out.mono ?_); rintro e w3 ⟨rfl, x3⟩; have HX3 := Lib.hid x3; clear x3)
              go_roundw
              case rel => exact ⟨j + 1, by go_num, by omega, HALL.out, H.out.below.trans (HX3.out.mono H.out.below.size)⟩
              case measure => simp [intOf]; omega
          · obtain rfl : j = types.length := by omega
            have er : types.all (fun r => decide (fewR r 30 ≠ 0)) = true := all_few H.out.all
            have HR2 := Lib.hid (HR.out.trans (by rw [er, Bool.true_and]))
            have HB1 := Lib.hid H.out.below
            clear er hj H
            go_wp2
            go_loopw [8] (fun iv wr => ∃ j, FAR w sigs 20 iv wr j) (fun iv _ => sigs.length - (intOf iv).toNat)
            case atStart => exact ⟨0, rfl, Nat.zero_le _, (fun i h hi => by omega), HB1.out⟩
            case round =>
              obtain ⟨j, h⟩ := hrel
              obtain rfl := h.slot
              have hle2 := h.le
              have H := Lib.hid h
              clear h
              by_cases hj : j < sigs.length
              · have hju : j < us.length := by rw [HG.out.len]; exact hj
                obtain ⟨g, o, rfl, hg, hc⟩ := kid_at HG.out.row j hju
                obtain ⟨q0, q1, q2, q3⟩ := hc _ H.out.below
                have C := Few_any sigs[j] us[j] 20 _ ((HG.out.val j hj hju).later H.out.below) ⟨by decide, by decide⟩
                have HF := Lib.hid C
                have hjz : (j : Int) < (sigs.length : Int) := by omega
                have hj0 : (0 : Int) ≤ (j : Int) := by omega
                clear hc C
                obtain ⟨f1, hf1⟩ : ∃ f1, f1 = fewR sigs[j] 20 := ⟨_, rfl⟩
                rw [← hf1] at HF
                by_cases hf0 : f1 = 0
                · have her : sigs.all (fun r => decide (fewR r 20 ≠ 0)) = false := not_few hj (by rw [← hf1, hf0])
                  have HE := Lib.hid her
                  clear her hf1
                  subst hf0
                  generalize us[j] = uj at *
                  go_wp2_with (go_at_call 14; (with_reducible refine HF.out.mono ?_); rintro e w3 ⟨rfl, x3⟩; have HX3 := Lib.hid x3; clear x3)
                  go_ret
                  exact ⟨ret_boolZ (by rw [HR2.out, HE.out]), H.out.below.trans (HX3.out.mono H.out.below.size)⟩
                · have hfz : (f1 == 0) = false := by rw [beq_eq_false_iff_ne]; exact hf0
                  have hall : ∀ i (h : i < sigs.length), i < j + 1 → fewR sigs[i] 20 ≠ 0 := fun i h hi => by
                    by_cases e : i = j
                    · subst e; rw [← hf1]; exact hf0
                    · exact H.out.all i h (by omega)
                  have HALL := Lib.hid hall
                  clear hall hf1 hf0
                  generalize us[j] = uj at *
                  go_wp2_with (go_at_call 14; (with_reducible refine HF.out.mono ?_); rintro e w3 ⟨rfl, x3⟩; have HX3 := Lib.hid x3; clear x3)
                  go_roundw
                  case rel => exact ⟨j + 1, by go_num, by omega, HALL.out, H.out.below.trans (HX3.out.mono H.out.below.size)⟩
                  case measure => simp [intOf]; omega
              · obtain rfl : j = sigs.length := by omega
                have er : sigs.all (fun r => decide (fewR r 20 ≠ 0)) = true := all_few H.out.all
                have HE := Lib.hid er
                have HB2 := Lib.hid H.out.below
                clear er hj H
                go_wp2
                go_ret
                exact ⟨ret_boolZ (by rw [HR2.out, HE.out]), HB2.out⟩
end Sp
end Go.Proofs.Yteooafgdmpbjeab
namespace Go.Proofs.Yteooafgdmpbjeab
open Go.RowKit
namespace Sp
open Sc
set_option maxHeartbeats 4000000 in
theorem Builtin_ref (s : List UInt8) (w : World) :
    Calls Try.prog 55 #[.string ⟨s.toArray⟩] w fun e w' => e = .returned (.bool (builtinB s)) ∧ w = w' := by
  cases hb : builtinB s
  · have e1 := toList_mk' s
    obtain ⟨t0, t1, t2, t3, t4, t5, t6, t7, t8, t9, t10, t11, t12, t13, t14, t15, t16, t17, t18, t19, t20, t21, t22⟩ := Builtin_no s hb
    go_enter Try.func55, Try.ntmps55
    go_wp2
    go_ret
    exact ⟨rfl, rfl⟩
  · rcases Builtin_cases s hb with rfl | rfl | rfl | rfl | rfl | rfl | rfl | rfl | rfl | rfl | rfl | rfl | rfl | rfl | rfl | rfl | rfl | rfl | rfl | rfl | rfl | rfl | rfl
    all_goals
      go_enter Try.func55, Try.ntmps55
      go_wp2
      go_ret
      exact ⟨rfl, rfl⟩
end Sp
end Go.Proofs.Yteooafgdmpbjeab
namespace Go.Proofs.Yteooafgdmpbjeab
open Go.RowKit
namespace Sp
open Sc
set_option maxHeartbeats 4000000 in
theorem word_ref (s : List UInt8) (w : World) :
    Calls Try.prog 53 #[.string ⟨s.toArray⟩] w fun e w' => e = .returned (.bool (wordB s)) ∧ w = w' := by
  cases hb : wordB s
  · have e1 := toList_mk' s
    obtain ⟨t0, t1, t2, t3, t4, t5, t6⟩ := typeWord_no s hb
    go_enter Try.func53, Try.ntmps53
    go_wp2
    go_ret
    exact ⟨rfl, rfl⟩
  · rcases typeWord_cases s hb with rfl | rfl | rfl | rfl | rfl | rfl | rfl
    all_goals
      go_enter Try.func53, Try.ntmps53
      go_wp2
      go_ret
      exact ⟨rfl, rfl⟩
set_option maxHeartbeats 4000000 in
theorem in_ref (L : List (List UInt8)) (s : List UInt8) (la : Option Addr) (lc : Nat) (w : World) (hR : RowV w (Any w) la 1 (L.map fun n => [str n])) (hl : L.length ≤ maxLen) :
    Calls Try.prog 88 #[.slice la L.length lc, .string ⟨s.toArray⟩] w fun e w' => e = .returned (.bool (inR L s)) ∧ w = w' := by
  unfold maxLen at hl
  have HR := Lib.hid hR
  clear hR
  generalize hB : inR L s = B
  have HB := Lib.hid hB
  clear hB
  go_enter Try.func88, Try.ntmps88
  go_wp2
  go_loop [5] (fun kv => ∃ k : Nat, k ≤ L.length ∧ kv = .int .i64 k ∧ Hid (∀ i (h : i < L.length), i < k → L[i] ≠ s)) (fun kv => L.length - (intOf kv).toNat)
  case atStart => exact ⟨0, Nat.zero_le _, rfl, fun i h hi => by omega⟩
  case round =>
    obtain ⟨k, hk, rfl, hd⟩ := hrel
    by_cases hlt : k < L.length
    · have hkz : (k : Int) < (L.length : Int) := by omega
      have hk0 : (0 : Int) ≤ (k : Int) := by omega
      obtain ⟨g, o, rfl, hg, hc⟩ := name_at HR.out (fun _ h => h) k hlt
      have c0 := hc w (Below.refl _ _)
      have e1 := toList_mk' L[k]
      by_cases he : L[k] = s
      · have hb : B = true := by rw [← HB.out, inR_iff, ← he]; exact List.getElem_mem hlt
        have hq : (L[k] == s) = true := by simpa using he
        have HBB := Lib.hid hb
        clear hb hc he
        generalize L[k] = a at *
        go_wp2
        go_ret
        exact ⟨ret_boolZ HBB.out.symm, rfl⟩
      · have hq : (L[k] == s) = false := by simpa using he
        have hd' : ∀ i (h : i < L.length), i < k + 1 → L[i] ≠ s := fun i h hi => by
          by_cases e : i = k
          · subst e; exact he
          · exact hd.out i h (by omega)
        have HD := Lib.hid hd'
        clear hd' hd hc he
        generalize L[k] = a at *
        go_wp2
        go_round
        case rel => exact ⟨k + 1, by omega, by go_num, HD⟩
        case measure => simp [intOf]; omega
    · have hkz : ¬ (k : Int) < (L.length : Int) := by omega
      have hb : B = false := by
        rw [← HB.out]
        cases hh : inR L s
        · rfl
        · obtain ⟨i, hi, e⟩ := List.mem_iff_getElem.1 (inR_iff.1 hh)
          exact absurd e (hd.out i hi (by omega))
      have HBB := Lib.hid hb
      clear hb hd
      go_wp2
      go_ret
      exact ⟨ret_boolZ HBB.out.symm, rfl⟩
def EndP (L : List (List UInt8)) (t : Tz) : Prop := ∀ (c : C4) (la : Option Addr) (lc : Nat) (w : World), TzV w (Any w) t c → RowV w (Any w) la 1 (L.map fun n => [str n]) →
  Calls Try.prog 74 #[.slice la L.length lc, .agg #[.int .i64 c.k, .string c.n, .slice c.an c.ln c.cn, .slice c.ak c.lk c.ck]] w fun e w' => e = .returned (.bool (endsR (inR L) t)) ∧ Below w.heap.size w w'
theorem endsAll_drop {K : List UInt8 → Bool} {ks : List Tz} {i : Nat} (h : i < ks.length) : endsAll K (ks.drop i) = if endsR K ks[i] = true then endsAll K (ks.drop (i + 1)) else false := by rw [List.drop_eq_getElem_cons h, endsAll]
theorem endsSome_drop {K : List UInt8 → Bool} {ks : List Tz} {i : Nat} (h : i < ks.length) : endsSome K (ks.drop i) = if endsR K ks[i] = true then true else endsSome K (ks.drop (i + 1)) := by rw [List.drop_eq_getElem_cons h, endsSome]
structure EndR (w0 : World) (bc : Array Value) (full : Bool) (f : List Tz → Bool) (ks : List Tz) (iv : Value) (wr : World) (j : Nat) : Prop where
  slot : iv = .int .i64 j
  le : j ≤ ks.length
  rest : f (ks.drop j) = full
  box : wr.heap[w0.heap.size]? = some (.cells bc 31 (0, 0))
  below : Below w0.heap.size w0 wr
set_option maxRecDepth 100000 in
set_option maxHeartbeats 8000000 in
theorem ends_step (L : List (List UInt8)) (hL : L.length ≤ maxLen) (k : Int) (nm : List UInt8) (ns : List (List UInt8)) (ks : List Tz) (hkl : ks.length ≤ maxLen) (ih : ∀ i (h : i < ks.length), EndP L ks[i]) : EndP L (.mk k nm ns ks) := by
  intro c la lc w hV hR
  unfold maxLen at hkl
  cases hV with
  | mk _ _ _ _ an cn ak ck us hl hn hk hu =>
    obtain ⟨W0, hW0⟩ : ∃ W0, W0 = w.alloc (.cells #[.int .i64 k, .string ⟨nm.toArray⟩, .slice an ns.length cn, .slice ak ks.length ck] 31) := ⟨_, rfl⟩
    have hb0 : Below w.heap.size w W0 := by rw [hW0]; exact (Below.refl _ _).alloc (Nat.le_refl _) _
    have hx0 : W0.heap[w.heap.size]? = some (.cells #[.int .i64 k, .string ⟨nm.toArray⟩, .slice an ns.length cn, .slice ak ks.length ck] 31 (0, 0)) := by rw [hW0]; exact heap_alloc_new w _
    obtain ⟨⟨x0, x1, x2, x3⟩, _⟩ := four_blk hx0
    have HU := Lib.hid hu; have HK := Lib.hid hk; have HIH := Lib.hid ih; have HL := Lib.hid hl; have HR := Lib.hid hR; have HW0 := Lib.hid hW0; have HB0 := Lib.hid hb0; have HX0 := Lib.hid hx0; have HLL := Lib.hid hL
    clear hu hk ih hl hR hb0 hx0 hn hL
    generalize hB : endsR (inR L) (.mk k nm ns ks) = B
    rw [endsR] at hB
    by_cases h7 : k = 7
    · subst h7
      rw [if_pos rfl] at hB
      have HB := Lib.hid hB
      clear hB hW0
      go_enter Try.func74, Try.ntmps74
      go_wp2_with fail
      rw [← HW0.out]
      go_wp2_with fail
      go_loopw [5] (fun iv wr => ∃ j, EndR w #[.int .i64 7, .string ⟨nm.toArray⟩, .slice an ns.length cn, .slice ak ks.length ck] B (endsAll (inR L)) ks iv wr j) (fun iv _ => ks.length - (intOf iv).toNat)
      case atStart => exact ⟨0, rfl, Nat.zero_le _, HB.out, HX0.out, HB0.out⟩
      case round =>
        obtain ⟨j, h⟩ := hrel
        obtain rfl := h.slot
        have hle := h.le
        obtain ⟨⟨y0, y1, y2, y3⟩, _⟩ := four_blk h.box
        have H := Lib.hid h
        clear h x0 x1 x2 x3
        by_cases hj : j < ks.length
        · have hju : j < us.length := by rw [HL.out]; exact hj
          obtain ⟨g, o, rfl, hg, hc⟩ := four_at HK.out (fun _ h => h) j hju
          obtain ⟨q0, q1, q2, q3⟩ := hc wr (fun k hk => H.out.below.block k hk)
          have C := HIH.out j hj us[j] la lc wr ((HU.out j hj hju).grow H.out.below) (HR.out.keep (fun _ hg => Nat.lt_of_lt_of_le hg H.out.below.size) (fun g hg => H.out.below.block g hg))
          have hd := endsAll_drop (K := inR L) hj
          have hjz : (j : Int) < (ks.length : Int) := by omega
          have hj0 : (0 : Int) ≤ (j : Int) := by omega
          have HC := Lib.hid C; have HD := Lib.hid hd
          clear hc C hd
          cases he : endsR (inR L) ks[j]
          · have hb : B = false := by rw [← H.out.rest, HD.out, he]; rfl
            rw [he] at HC
            have HBB := Lib.hid hb
            clear hb he
            go_wp2_with (go_at_call 74; (with_reducible refine HC.out.mono ?_); rintro e w2 ⟨rfl, x2⟩; have HX2 := Lib.hid x2; clear x2)
            go_ret
            exact ⟨ret_boolZ HBB.out.symm, H.out.below.trans (HX2.out.mono H.out.below.size)⟩
          · have hb : endsAll (inR L) (ks.drop (j + 1)) = B := by have := H.out.rest; rw [HD.out, he, if_pos rfl] at this; exact this
            rw [he] at HC
            have HBB := Lib.hid hb
            clear hb he
            go_wp2_with (go_at_call 74; (with_reducible refine HC.out.mono ?_); rintro e w2 ⟨rfl, x2⟩; have HX2 := Lib.hid x2; clear x2)
            go_roundw
            case rel => exact ⟨j + 1, by go_num, by omega, HBB.out, (HX2.out.block _ (Array.getElem?_eq_some_iff.1 H.out.box).1).trans H.out.box, H.out.below.trans (HX2.out.mono H.out.below.size)⟩
            case measure => simp [intOf]; omega
        · have hjz : ¬ (j : Int) < (ks.length : Int) := by omega
          have hb : B = true := by rw [← H.out.rest, List.drop_of_length_le (by omega), endsAll]
          have HBB := Lib.hid hb
          clear hb
          go_wp2
          go_ret
          exact ⟨ret_boolZ HBB.out.symm, H.out.below⟩
    · rw [if_neg h7] at hB
      have t7 : (k == 7) = false := by rw [beq_eq_false_iff_ne]; exact h7
      by_cases h8 : k = 8
      · subst h8
        rw [if_pos rfl] at hB
        have HB := Lib.hid hB
        clear hB hW0 h7 t7
        go_enter Try.func74, Try.ntmps74
        go_wp2_with fail
        rw [← HW0.out]
        go_wp2_with fail
        go_loopw [6] (fun iv wr => ∃ j, EndR w #[.int .i64 8, .string ⟨nm.toArray⟩, .slice an ns.length cn, .slice ak ks.length ck] B (endsSome (inR L)) ks iv wr j) (fun iv _ => ks.length - (intOf iv).toNat)
        case atStart => exact ⟨0, rfl, Nat.zero_le _, HB.out, HX0.out, HB0.out⟩
        case round =>
          obtain ⟨j, h⟩ := hrel
          obtain rfl := h.slot
          have hle := h.le
          obtain ⟨⟨y0, y1, y2, y3⟩, _⟩ := four_blk h.box
          have H := Lib.hid h
          clear h x0 x1 x2 x3
          by_cases hj : j < ks.length
          · have hju : j < us.length := by rw [HL.out]; exact hj
            obtain ⟨g, o, rfl, hg, hc⟩ := four_at HK.out (fun _ h => h) j hju
            obtain ⟨q0, q1, q2, q3⟩ := hc wr (fun k hk => H.out.below.block k hk)
            have C := HIH.out j hj us[j] la lc wr ((HU.out j hj hju).grow H.out.below) (HR.out.keep (fun _ hg => Nat.lt_of_lt_of_le hg H.out.below.size) (fun g hg => H.out.below.block g hg))
            have hd := endsSome_drop (K := inR L) hj
            have hjz : (j : Int) < (ks.length : Int) := by omega
            have hj0 : (0 : Int) ≤ (j : Int) := by omega
            have HC := Lib.hid C; have HD := Lib.hid hd
            clear hc C hd
            cases he : endsR (inR L) ks[j]
            · have hb : endsSome (inR L) (ks.drop (j + 1)) = B := by have := H.out.rest; rw [HD.out, he, if_neg (by simp)] at this; exact this
              rw [he] at HC
              have HBB := Lib.hid hb
              clear hb he
              go_wp2_with (go_at_call 74; (with_reducible refine HC.out.mono ?_); rintro e w2 ⟨rfl, x2⟩; have HX2 := Lib.hid x2; clear x2)
              go_roundw
              case rel => exact ⟨j + 1, by go_num, by omega, HBB.out, (HX2.out.block _ (Array.getElem?_eq_some_iff.1 H.out.box).1).trans H.out.box, H.out.below.trans (HX2.out.mono H.out.below.size)⟩
              case measure => simp [intOf]; omega
            · have hb : B = true := by rw [← H.out.rest, HD.out, he]; rfl
              rw [he] at HC
              have HBB := Lib.hid hb
              clear hb he
              go_wp2_with (go_at_call 74; (with_reducible refine HC.out.mono ?_); rintro e w2 ⟨rfl, x2⟩; have HX2 := Lib.hid x2; clear x2)
              go_ret
              exact ⟨ret_boolZ HBB.out.symm, H.out.below.trans (HX2.out.mono H.out.below.size)⟩
          · have hjz : ¬ (j : Int) < (ks.length : Int) := by omega
            have hb : B = false := by rw [← H.out.rest, List.drop_of_length_le (by omega), endsSome]
            have HBB := Lib.hid hb
            clear hb
            go_wp2
            go_ret
            exact ⟨ret_boolZ HBB.out.symm, H.out.below⟩
      · rw [if_neg h8] at hB
        have t8 : (k == 8) = false := by rw [beq_eq_false_iff_ne]; exact h8
        by_cases h9 : k = 9
        · subst h9
          rw [if_pos rfl] at hB
          have CI := in_ref L nm la lc W0 (HR.out.keep (fun _ hg => Nat.lt_of_lt_of_le hg HB0.out.size) (fun g hg => HB0.out.block g hg)) HLL.out
          have HCI := Lib.hid CI; have HB := Lib.hid hB
          clear CI hB hW0 h7 t7 h8 t8
          go_enter Try.func74, Try.ntmps74
          go_wp2_with fail
          rw [← HW0.out]
          go_wp2_with (go_at_call 88; (with_reducible refine HCI.out.mono ?_); rintro e w2 ⟨rfl, rfl⟩)
          go_ret
          exact ⟨ret_boolZ HB.out, HB0.out⟩
        · rw [if_neg h9] at hB
          have t9 : (k == 9) = false := by rw [beq_eq_false_iff_ne]; exact h9
          have HB := Lib.hid hB
          clear hB hW0 h7 h8 h9
          go_enter Try.func74, Try.ntmps74
          go_wp2_with fail
          rw [← HW0.out]
          go_wp2_with fail
          go_ret
          exact ⟨ret_boolZ HB.out, HB0.out⟩
theorem ends_all (L : List (List UInt8)) (hL : L.length ≤ maxLen) : ∀ (N : Nat) (t : Tz), sizeZ t ≤ N → fitZ t = true → EndP L t
  | 0, .mk k n ns ks, h, _ => by simp only [sizeZ] at h; omega
  | N + 1, .mk k n ns ks, h, hf => by
    obtain ⟨_, _, _, h4, h5⟩ := fitZ_mk hf
    exact ends_step L hL k n ns ks h4 fun i hi => ends_all L hL N ks[i] (by have := sizeZ_mem ks i hi; simp only [sizeZ] at h; omega) (fitZs_mem ks h5 i hi)
theorem ends_ref (L : List (List UInt8)) (hL : L.length ≤ maxLen) (t : Tz) (hf : fitZ t = true) : EndP L t := ends_all L hL _ t (Nat.le_refl _) hf
end Sp
end Go.Proofs.Yteooafgdmpbjeab
