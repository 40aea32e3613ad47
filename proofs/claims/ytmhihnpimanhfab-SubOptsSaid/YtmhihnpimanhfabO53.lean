/- SubOpts: six types, as a plain function; what is asked of them. Written by gen_lopts.py. -/
import Derived.Test.YtmhihnpimanhfabO52
namespace Go.Proofs.Ytmhihnpimanhfab
open Go.RowKit
namespace Sp
open Sc
def optsL : List Tz := [zI, .mk 1 [] [] [], .mk 7 [] [[97]] [zI], .mk 7 [] [] [], .mk 7 [] [[97], [98]] [zI, zI], .mk 4 [] [] [zI]]
def optsT (a : Nat) : Tz := optsL.getD a zI
def optsE (a b : Nat) : Bool := decide (a = b ∨ b = 3 ∧ (a = 2 ∨ a = 4) ∨ a = 4 ∧ b = 2)
def T0O : List Kz := [⟨2, [], [], []⟩]
def addO (T : List Kz) (t : Tz) : Nat × Nat × List Kz := addK (hasZ ([] : List NN)) T t
def leO (T : List Kz) (a b : Nat) : Bool := (leL T (openK T [] 13) a b).1
structure OptsF (a b x y ox oy : Nat) (T1 T2 T3 T4 : List Kz) : Prop where
  a1 : addO T0O (optsT a) = (x, 0, T1)
  a2 : addO T1 (optsT b) = (y, 0, T2)
  a3 : numK T2 (optK x) = (ox, 0, T3)
  a4 : numK T3 (optK y) = (oy, 0, T4)
  x2 : x < T2.length
  y3 : y < T3.length
  xl : x < T4.length
  yl : y < T4.length
  oxl : ox < T4.length
  oyl : oy < T4.length
  op : OpL T4 []
  is : leO T4 x y = optsE a b
  p : leO T4 x oy = optsE a b
  q : leO T4 ox oy = optsE a b
  r : leO T4 ox y = false
def optsB (a b : Nat) : Bool :=
  let A := addO T0O (optsT a)
  let B := addO A.2.2 (optsT b)
  let C := numK B.2.2 (optK A.1)
  let D := numK C.2.2 (optK B.1)
  let T := D.2.2
  decide (A.2.1 = 0) && (decide (B.2.1 = 0) && (decide (C.2.1 = 0) && (decide (D.2.1 = 0) && (decide (A.1 < B.2.2.length) && (decide (B.1 < C.2.2.length) && (decide (A.1 < T.length) && (decide (B.1 < T.length) && (decide (C.1 < T.length) && (decide (D.1 < T.length) && (opB T [] &&
    (leO T A.1 B.1 == optsE a b && (leO T A.1 D.1 == optsE a b && (leO T C.1 D.1 == optsE a b && (leO T C.1 B.1 == false))))))))))))))
set_option maxRecDepth 100000
theorem optsB_all : (List.range 6).all (fun a => (List.range 6).all fun b => optsB a b) = true := by kernel_rfl
theorem optsL_fit : optsL.all (fun t => fitZ t && shortZ t) = true := by kernel_rfl
theorem opts_is {a b : Nat} (ha : a < 6) (hb : b < 6) : ∃ x y ox oy T1 T2 T3 T4, OptsF a b x y ox oy T1 T2 T3 T4 := by
  have h := List.all_eq_true.1 (List.all_eq_true.1 optsB_all a (List.mem_range.2 ha)) b (List.mem_range.2 hb)
  unfold optsB at h
  simp only [Bool.and_eq_true, decide_eq_true_eq, beq_iff_eq] at h
  obtain ⟨h1, h2, h3, h4, h5, h6, h7, h8, h9, h10, h11, h12, h13, h14, h15⟩ := h
  exact ⟨_, _, _, _, _, _, _, _, Prod.ext rfl (Prod.ext h1 rfl), Prod.ext rfl (Prod.ext h2 rfl), Prod.ext rfl (Prod.ext h3 rfl), Prod.ext rfl (Prod.ext h4 rfl), h5, h6, h7, h8, h9, h10, opB_is h11, h12, h13, h14, h15⟩
theorem optsT_at {a : Nat} (h : a < 6) : optsL[a]'h = optsT a := by unfold optsT; rw [List.getD, List.getElem?_eq_getElem (show a < optsL.length from h)]; rfl
theorem optsT_fit {a : Nat} (h : a < 6) : fitZ (optsT a) = true ∧ shortZ (optsT a) = true := by
  have := List.all_eq_true.1 optsL_fit _ (List.getElem_mem (show a < optsL.length from h))
  rw [Bool.and_eq_true] at this
  rw [← optsT_at h]
  exact this
end Sp
end Go.Proofs.Ytmhihnpimanhfab
