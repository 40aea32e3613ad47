/- FewAll: whether what a schema is made of is not too much. -/
import Derived.Test.YtjjpjkkaogfoaaaWFew
namespace Go.Proofs.Ytjjpjkkaogfoaaa
open Go.RowKit
namespace Sp
open Sc

/-- A row of Raws in memory. -/
structure RwsV (w : World) (l : List Rw) (a : Option Addr) (us : List R4) : Prop where
  len : us.length = l.length
  row : RowV w (Any w) a 4 (us.map R4.cells)
  val : ∀ i (h : i < l.length) (h' : i < us.length), RwV w l[i] us[i]
theorem RwsV.up {w w' : World} {l : List Rw} {a : Option Addr} {us : List R4} (h : RwsV w l a us) (hb : Below w.heap.size w w') : RwsV w' l a us :=
  ⟨h.len, h.row.keep (fun _ hg => Nat.lt_of_lt_of_le hg hb.size) (fun g hg => hb.block g hg), fun i h1 h2 => (h.val i h1 h2).later hb⟩
def fewAllR (main : Rw) (types sigs : List Rw) : Bool := decide (fewR main 60 ≠ 0) && (decide (types.length ≤ 6) && (decide (sigs.length ≤ 6) && (types.all (fun r => decide (fewR r 30 ≠ 0)) && sigs.all (fun r => decide (fewR r 20 ≠ 0)))))

structure FAR (w : World) (l : List Rw) (m : Int) (iv : Value) (wr : World) (j : Nat) : Prop where
  slot : iv = .int .i64 j
  le : j ≤ l.length
  all : ∀ i (h : i < l.length), i < j → fewR l[i] m ≠ 0
  below : Below w.heap.size w wr
theorem all_few {l : List Rw} {m : Int} (h : ∀ i (h : i < l.length), i < l.length → fewR l[i] m ≠ 0) : l.all (fun r => decide (fewR r m ≠ 0)) = true := by
  rw [List.all_eq_true]
  intro r hr
  obtain ⟨i, hi, rfl⟩ := List.mem_iff_getElem.1 hr
  simpa using h i hi hi
theorem not_few {l : List Rw} {m : Int} {i : Nat} (hi : i < l.length) (h : fewR l[i] m = 0) : l.all (fun r => decide (fewR r m ≠ 0)) = false := by
  cases ha : l.all (fun r => decide (fewR r m ≠ 0))
  · rfl
  · have := List.all_eq_true.1 ha l[i] (List.getElem_mem hi)
    simp [h] at this
theorem ret_boolZ {a b : Bool} (h : a = b) : Ending.returned (.bool a) = .returned (.bool b) := by rw [h]
set_option maxRecDepth 100000 in
set_option maxHeartbeats 8000000 in
theorem FewAll_any (main : Rw) (types sigs : List Rw) (c : R4) (at1 at2 : Option Addr) (ut us : List R4) (c1 c2 : Nat) (w : World) (hM : RwV w main c) (hT : RwsV w types at1 ut) (hG : RwsV w sigs at2 us) (hl1 : types.length ≤ maxLen) (hl2 : sigs.length ≤ maxLen) :
    Calls Try.prog 12 #[.agg #[.int .i64 c.k, .int .i64 c.n, .slice c.an c.ln c.cn, .slice c.ak c.lk c.ck], .slice at1 types.length c1, .slice at2 sigs.length c2] w fun e w' => e = .returned (.bool (fewAllR main types sigs)) ∧ Below w.heap.size w w' := by
  unfold maxLen at hl1 hl2
  have HM := Lib.hid hM; have HT := Lib.hid hT; have HG := Lib.hid hG
  clear hM hT hG
  have hbd := fewR_bd main 60
  obtain ⟨W0, hW0⟩ : ∃ W0, W0 = w.alloc (.cells #[.int .i64 c.k, .int .i64 c.n, .slice c.an c.ln c.cn, .slice c.ak c.lk c.ck] 33) := ⟨_, rfl⟩
  have hb0 : Below w.heap.size w W0 := by rw [hW0]; exact (Below.refl _ _).alloc (Nat.le_refl _) _
  have hz0 : W0.heap.size = w.heap.size + 1 := by rw [hW0]; simp
  have HW0 := Lib.hid hW0; have HB0 := Lib.hid hb0
  have hv := (HM.out.later hb0)
  have HC := Lib.hid (Few_any main c 60 W0 hv ⟨by decide, by decide⟩)
  clear hb0 hv
  by_cases h0 : fewR main 60 = 0
  · have hr : fewAllR main types sigs = false := by unfold fewAllR; simp [h0]
    rw [hr]
    have H0 := Lib.hid h0
    clear hr h0 hbd hW0
    go_enter Try.func12, Try.ntmps12
    go_wp2_with (go_at_call 19; rw [← HW0.out]; (with_reducible refine HC.out.mono ?_); rintro e w2 ⟨rfl, x2⟩; rw [H0.out]; have HX2 := Lib.hid x2; clear x2)
    go_ret
    exact ⟨rfl, HB0.out.trans (HX2.out.mono (by omega))⟩
  · have h0z : (fewR main 60 == 0) = false := by rw [beq_eq_false_iff_ne]; exact h0
    by_cases h1 : 6 < types.length
    · have hr : fewAllR main types sigs = false := by
        unfold fewAllR
        rw [show decide (types.length ≤ 6) = false by rw [decide_eq_false_iff_not]; omega]; simp
      rw [hr]
      have h1z : (6 : Int) < (types.length : Int) := by omega
      clear hr hbd h0 hW0
      generalize fewR main 60 = f0 at *
      go_enter Try.func12, Try.ntmps12
      go_wp2_with (go_at_call 19; rw [← HW0.out]; (with_reducible refine HC.out.mono ?_); rintro e w2 ⟨rfl, x2⟩; have HX2 := Lib.hid x2; clear x2)
      go_ret
      exact ⟨rfl, HB0.out.trans (HX2.out.mono (by omega))⟩
    · by_cases h2 : 6 < sigs.length
      · have hr : fewAllR main types sigs = false := by
          unfold fewAllR
          rw [show decide (sigs.length ≤ 6) = false by rw [decide_eq_false_iff_not]; omega]; simp
        rw [hr]
        have h1z : ¬ (6 : Int) < (types.length : Int) := by omega
        have h2z : (6 : Int) < (sigs.length : Int) := by omega
        clear hr hbd h0 hW0
        generalize fewR main 60 = f0 at *
        go_enter Try.func12, Try.ntmps12
        go_wp2_with (go_at_call 19; rw [← HW0.out]; (with_reducible refine HC.out.mono ?_); rintro e w2 ⟨rfl, x2⟩; have HX2 := Lib.hid x2; clear x2)
        go_ret
        exact ⟨rfl, HB0.out.trans (HX2.out.mono (by omega))⟩
      · have h1z : ¬ (6 : Int) < (types.length : Int) := by omega
        have h2z : ¬ (6 : Int) < (sigs.length : Int) := by omega
        have hr : fewAllR main types sigs = (types.all (fun r => decide (fewR r 30 ≠ 0)) && sigs.all (fun r => decide (fewR r 20 ≠ 0))) := by
          unfold fewAllR
          rw [show decide (types.length ≤ 6) = true by rw [decide_eq_true_eq]; omega, show decide (sigs.length ≤ 6) = true by rw [decide_eq_true_eq]; omega, show decide (fewR main 60 ≠ 0) = true by rw [decide_eq_true_eq]; exact h0]; simp
        generalize fewAllR main types sigs = B at *
        have HR := Lib.hid hr
        clear hr hbd h0 hW0
        generalize fewR main 60 = f0 at *
        go_enter Try.func12, Try.ntmps12
        go_wp2_with (go_at_call 19; rw [← HW0.out]; (with_reducible refine HC.out.mono ?_); rintro e w2 ⟨rfl, x2⟩; have HX2 := Lib.hid (HB0.out.trans (x2.mono (by omega))); clear x2)
        go_loopw [7] (fun iv wr => ∃ j, FAR w types 30 iv wr j) (fun iv _ => types.length - (intOf iv).toNat)
        case atStart => exact ⟨0, rfl, Nat.zero_le _, (fun i h hi => by omega), HX2.out⟩
        case round =>
          obtain ⟨j, h⟩ := hrel
          obtain rfl := h.slot
          have hle := h.le
          have H := Lib.hid h
          clear h
          by_cases hj : j < types.length
          · have hju : j < ut.length := by rw [HT.out.len]; exact hj
            obtain ⟨g, o, rfl, hg, hc⟩ := kid_at HT.out.row j hju
            obtain ⟨q0, q1, q2, q3⟩ := hc _ H.out.below
            have C := Few_any types[j] ut[j] 30 _ ((HT.out.val j hj hju).later H.out.below) ⟨by decide, by decide⟩
            have HF := Lib.hid C
            have hjz : (j : Int) < (types.length : Int) := by omega
            have hj0 : (0 : Int) ≤ (j : Int) := by omega
            clear hc C
            obtain ⟨f1, hf1⟩ : ∃ f1, f1 = fewR types[j] 30 := ⟨_, rfl⟩
            rw [← hf1] at HF
            by_cases hf0 : f1 = 0
            · have her : types.all (fun r => decide (fewR r 30 ≠ 0)) = false := not_few hj (by rw [← hf1, hf0])
              have HE := Lib.hid her
              clear her hf1
              subst hf0
              generalize ut[j] = uj at *
              go_wp2_with (go_at_call 19; (with_reducible refine HF.out.mono ?_); rintro e w3 ⟨rfl, x3⟩; have HX3 := Lib.hid x3; clear x3)
              go_ret
              exact ⟨ret_boolZ (by rw [HR.out, HE.out, Bool.false_and]), H.out.below.trans (HX3.out.mono H.out.below.size)⟩
            · have hfz : (f1 == 0) = false := by rw [beq_eq_false_iff_ne]; exact hf0
              have hall : ∀ i (h : i < types.length), i < j + 1 → fewR types[i] 30 ≠ 0 := fun i h hi => by
                by_cases e : i = j
                · subst e; rw [← hf1]; exact hf0
                · exact H.out.all i h (by omega)
              have HALL := Lib.hid hall
              clear hall hf1 hf0
              generalize ut[j] = uj at *
              go_wp2_with (go_at_call 19; (with_reducible refine HF.out.mono ?_); rintro e w3 ⟨rfl, x3⟩; have HX3 := Lib.hid x3; clear x3)
              go_roundw
              case rel => exact ⟨j + 1, by go_num, by omega, HALL.out, H.out.below.trans (HX3.out.mono H.out.below.size)⟩
              case measure => simp [intOf]; omega
          · obtain rfl : j = types.length := by omega
            have er : types.all (fun r => decide (fewR r 30 ≠ 0)) = true := all_few H.out.all
            have HR2 := Lib.hid (HR.out.trans (by rw [er, Bool.true_and]))
            have HB1 := Lib.hid H.out.below
            clear er hj H
            go_wp2
            go_loopw [8] (fun iv wr => ∃ j, FAR w sigs 20 iv wr j) (fun iv _ => sigs.length - (intOf iv).toNat)
            case atStart => exact ⟨0, rfl, Nat.zero_le _, (fun i h hi => by omega), HB1.out⟩
            case round =>
              obtain ⟨j, h⟩ := hrel
              obtain rfl := h.slot
              have hle2 := h.le
              have H := Lib.hid h
              clear h
              by_cases hj : j < sigs.length
              · have hju : j < us.length := by rw [HG.out.len]; exact hj
                obtain ⟨g, o, rfl, hg, hc⟩ := kid_at HG.out.row j hju
                obtain ⟨q0, q1, q2, q3⟩ := hc _ H.out.below
                have C := Few_any sigs[j] us[j] 20 _ ((HG.out.val j hj hju).later H.out.below) ⟨by decide, by decide⟩
                have HF := Lib.hid C
                have hjz : (j : Int) < (sigs.length : Int) := by omega
                have hj0 : (0 : Int) ≤ (j : Int) := by omega
                clear hc C
                obtain ⟨f1, hf1⟩ : ∃ f1, f1 = fewR sigs[j] 20 := ⟨_, rfl⟩
                rw [← hf1] at HF
                by_cases hf0 : f1 = 0
                · have her : sigs.all (fun r => decide (fewR r 20 ≠ 0)) = false := not_few hj (by rw [← hf1, hf0])
                  have HE := Lib.hid her
                  clear her hf1
                  subst hf0
                  generalize us[j] = uj at *
                  go_wp2_with (go_at_call 19; (with_reducible refine HF.out.mono ?_); rintro e w3 ⟨rfl, x3⟩; have HX3 := Lib.hid x3; clear x3)
                  go_ret
                  exact ⟨ret_boolZ (by rw [HR2.out, HE.out]), H.out.below.trans (HX3.out.mono H.out.below.size)⟩
                · have hfz : (f1 == 0) = false := by rw [beq_eq_false_iff_ne]; exact hf0
                  have hall : ∀ i (h : i < sigs.length), i < j + 1 → fewR sigs[i] 20 ≠ 0 := fun i h hi => by
                    by_cases e : i = j
                    · subst e; rw [← hf1]; exact hf0
                    · exact H.out.all i h (by omega)
                  have HALL := Lib.hid hall
                  clear hall hf1 hf0
                  generalize us[j] = uj at *
                  go_wp2_with (go_at_call 19; (with_reducible refine HF.out.mono ?_); rintro e w3 ⟨rfl, x3⟩; have HX3 := Lib.hid x3; clear x3)
                  go_roundw
                  case rel => exact ⟨j + 1, by go_num, by omega, HALL.out, H.out.below.trans (HX3.out.mono H.out.below.size)⟩
                  case measure => simp [intOf]; omega
              · obtain rfl : j = sigs.length := by omega
                have er : sigs.all (fun r => decide (fewR r 20 ≠ 0)) = true := all_few H.out.all
                have HE := Lib.hid er
                have HB2 := Lib.hid H.out.below
                clear er hj H
                go_wp2
                go_ret
                exact ⟨ret_boolZ (by rw [HR2.out, HE.out]), HB2.out⟩
end Sp
end Go.Proofs.Ytjjpjkkaogfoaaa
