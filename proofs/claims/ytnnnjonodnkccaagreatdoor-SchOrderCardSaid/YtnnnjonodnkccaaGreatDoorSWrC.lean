/- Every type as it is written; TypeText. -/
import Derived.Test.YtnnnjonodnkccaaGreatDoorSWrB
namespace Go.Proofs.YtnnnjonodnkccaaGreatDoor
open Go.RowKit
namespace Sh
open Sc

theorem form_cases (k : Nat) (h : k ≤ 9) : lkf k = 1 ∨ (lkf k = 2 ∧ k = 7) ∨ (lkf k = 3 ∧ k = 8) ∨ lkf k = 0 := by
  match k, h with
  | 0, _ => decide
  | 1, _ => decide
  | 2, _ => decide
  | 3, _ => decide
  | 4, _ => decide
  | 5, _ => decide
  | 6, _ => decide
  | 7, _ => decide
  | 8, _ => decide
  | 9, _ => decide

theorem wr_any (n : Nat) : ∀ t, sizeT t ≤ n → goodT t = true → TyW t := by
  induction n with
  | zero => intro t h; have := sizeT_pos t; omega
  | succ n ih =>
    intro t hs hg
    cases t with
    | any => cases hg
    | mk k nm ns ks =>
      simp only [goodT, Bool.and_eq_true, decide_eq_true_eq] at hg
      obtain ⟨⟨hk, hform⟩, hgk⟩ := hg
      have hst : sizeT (.mk k nm ns ks) = 1 + sizeK ks := by rw [sizeT]
      rw [hst] at hs
      have hkid : ∀ i (hi : i < ks.length), TyW ks[i] := fun i hi => ih ks[i] (by have := sizeT_mem ks i hi; omega) (goodK_mem ks hgk i hi)
      intro w wb bs R c S hv hS hL hgl hW hR hlen
      rw [hst] at hW hR
      have hW' : Wt w wb bs (((R + sizeK ks : Nat) : Int) + 1) := by
        have e : ((R + (1 + sizeK ks) : Nat) : Int) = ((R + sizeK ks : Nat) : Int) + 1 := by omega
        rw [← e]; exact hW
      have htx : textT (.mk k nm ns ks) = (if lkf k = 1 then lkw k ++ [60] ++ kidsT true ns ks ++ [62] else if lkf k = 2 then lkw k ++ [123] ++ kidsT true ns ks ++ [125] else if lkf k = 3 then lkw k ++ [32] ++ [123] ++ kidsT true ns ks ++ [125] else lkw k ++ (if k = 9 then nm else [])) := by rw [textT]
      rw [htx] at hlen ⊢
      rcases form_cases k hk with h1 | ⟨h2, h7⟩ | ⟨h3, h8⟩ | h0
      · rw [if_pos h1] at hlen ⊢
        exact wr_hold w wb bs R k nm ns ks c S hv hS hL hgl hk hW' (by omega) _ rfl hlen h1 hkid
      · rw [if_neg (by omega), if_pos h2] at hlen ⊢
        exact wr_rec w wb bs R k nm ns ks c S hv hS hL hgl hk hW' (by omega) _ rfl hlen h7 hkid
      · rw [if_neg (by omega), if_neg (by omega), if_pos h3] at hlen ⊢
        exact wr_uni w wb bs R k nm ns ks c S hv hS hL hgl hk hW' (by omega) _ rfl hlen h8 hkid
      · rw [if_neg (by omega), if_neg (by omega), if_neg (by omega)] at hlen ⊢
        have hke : ks = [] := by rw [h0] at hform; simpa using hform
        subst hke
        have e0 : ((R + sizeK [] : Nat) : Int) = (R : Int) := by simp [sizeK]
        by_cases h9 : k = 9
        · rw [if_pos h9] at hlen ⊢
          have := wr_name w wb bs R k nm ns [] c S hv hS hL hgl hk hW' (by simp [sizeK] at hR ⊢; omega) _ rfl hlen h9
          rwa [e0] at this
        · rw [if_neg h9, List.append_nil] at hlen ⊢
          have := wr_word w wb bs R k nm ns [] c S hv hS hL hgl hk hW' (by simp [sizeK] at hR ⊢; omega) _ rfl hlen h0 h9
          rwa [e0] at this

/-- What outerType of the writer's leaves. -/
theorem wOuter_any (t : Ty) (hg : goodT t = true) (hs : sizeT t ≤ 65536) (w : World) (wb : Nat) (bs : List UInt8) (left : Int) (c : C4) (S : Nat → Prop) (hv : TyV w S t c) (hS : ∀ g, S g → g < wb) (hL : LookTab w) (hgl : 0 < wb)
    (h : Wt w wb bs left) (hlen : bs.length + (textT t).length ≤ 100000000) :
    Calls Tryz.prog 22 #[.pointer (some ⟨wb, 0, none⟩), c.val] w (WrP w wb (bs ++ textT t) ((65536 - sizeT t : Nat) : Int)) := by
  have hwb := h.lt
  obtain ⟨l2, f2⟩ := h.reader
  have hX := h.setLeft (l2 := 65536)
  have hE : Eff wb w (w.setCell ⟨wb, 2, none⟩ (.int .i64 65536)) := (Eff.refl wb w).setCell 2 _
  have hX1 := hX.alloc (.cells c.cells.toArray 29)
  have hE1 : Eff wb w ((w.setCell ⟨wb, 2, none⟩ (.int .i64 65536)).alloc (.cells c.cells.toArray 29)) := hE.alloc _ (by simp; omega)
  have C := wr_any (sizeT t) t (Nat.le_refl _) hg _ wb bs (65536 - sizeT t) c S (hv.keep (fun _ h => h) (fun g hg => hE1.bel.block g (hS g hg))) hS (look_below hL hE1.bel hgl) hgl (by
    have e : ((65536 - sizeT t + sizeT t : Nat) : Int) = 65536 := by omega
    rw [e]; exact hX1) (by omega) hlen
  have HC := Lib.hid C; have HE := Lib.hid hE1
  clear C hX hE hX1 hE1 h hv hS hL hg
  obtain ⟨kd, nm, an, ln, cn, ak, lk, ck⟩ := c
  unfold C4.val C4.cells at *
  go_enter Tryz.func22, Tryz.ntmps22
  go_wp2_with (go_at_call 38; (with_reducible refine HC.out.mono ?_); rintro e w1 ⟨rfl, h1, e1⟩; have H1 := Lib.hid h1; have E1 := Lib.hid (HE.out.trans e1); clear h1 e1)
  go_end0
  exact ⟨rfl, H1.out, E1.out⟩

set_option maxHeartbeats 1000000 in
/-- TypeText. -/
theorem TypeText_any (t : Ty) (hg : goodT t = true) (hs : sizeT t ≤ 65536) (w : World) (c : C4) (S : Nat → Prop) (hv : TyV w S t c) (hS : ∀ g, S g → g < w.heap.size) (hL : LookTab w) (hlen : (textT t).length ≤ 100000000) (h0 : textT t ≠ []) :
    Calls Tryz.prog 14 #[c.val] w fun e w' => e = .returned (.string ⟨(textT t).toArray⟩) ∧ Below w.heap.size w w' := by
  have hgl := hL.lt
  have hb0 : Below w.heap.size w ((w.alloc (.cells c.cells.toArray 29)).alloc (.cells #[.pointer none, .slice none 0 0, .int .i64 0] 67)) := ((Below.refl _ _).alloc (Nat.le_refl _) _).alloc (by simp) _
  have hW : Wt ((w.alloc (.cells c.cells.toArray 29)).alloc (.cells #[.pointer none, .slice none 0 0, .int .i64 0] 67)) (w.heap.size + 1) [] 0 := by
    refine ⟨.pointer none, .slice none 0 0, .inl rfl, ?_, World.ownsRow_nil _ _ _ _⟩
    have := heap_alloc_new (w.alloc (.cells c.cells.toArray 29)) (.cells #[.pointer none, .slice none 0 0, .int .i64 0] 67)
    rwa [show (w.alloc (.cells c.cells.toArray 29)).heap.size = w.heap.size + 1 by simp] at this
  have C := wOuter_any t hg hs _ (w.heap.size + 1) [] 0 c S (hv.keep (fun _ h => h) (fun g hg => hb0.block g (hS g hg))) (fun g hg => Nat.lt_succ_of_lt (hS g hg)) (hL.below hb0) (by omega) hW (by simpa using hlen)
  rw [List.nil_append] at C
  have HC := Lib.hid C; have HB := Lib.hid hb0; have H0 := Lib.hid h0
  clear C hW hb0 hv hS hL hg h0
  obtain ⟨kd, nm, an, ln, cn, ak, lk, ck⟩ := c
  unfold C4.val C4.cells at *
  generalize textT t = x at *
  go_enter Tryz.func14, Tryz.ntmps14
  go_wp2_with (first
    | (go_at_call 22; (with_reducible refine HC.out.mono ?_); rintro e w1 ⟨rfl, h1, e1⟩; have S1 := Lib.hid (String_any (w.heap.size + 1) w1 _ _ h1 H0.out); have B1 := Lib.hid (HB.out.trans (e1.bel.mono (by omega))); have hs1 := e1.bel.size; simp at hs1; clear h1 e1)
    | (go_at_call 23; (with_reducible refine S1.out.mono ?_); rintro e w2 ⟨rfl, b2⟩; have B2 := Lib.hid (B1.out.trans (b2.mono (by omega))); clear b2))
  go_ret
  exact ⟨rfl, B2.out⟩
end Sh
end Go.Proofs.YtnnnjonodnkccaaGreatDoor
