/- SubRings: two rings of records, as a plain function; what is asked of them. -/
import Derived.Test.YtmhihnpimanhfabS51
import Derived.Test.YtmhihnpimanhfabS30
namespace Go.Proofs.Ytmhihnpimanhfab
open Go.RowKit
namespace Sp
open Sc
def toR (n m k : Nat) : Nat := if k + 1 = n then 0 else if k + 1 = n + m then n else k + 1
def nextR (n m k : Nat) : Tz := .mk 4 [] [] [zN [78, lower (toR n m k)]]
def subR (n m k : Nat) : Tz := if k < n then .mk 7 [] [[109, 111, 114, 101], [120]] [zI, nextR n m k] else .mk 7 [] [[120]] [nextR n m k]
def subRL (n m k : Nat) : List NT := (List.range k).map fun i => ([78, lower i], subR n m i)
theorem subRL_succ (n m k : Nat) : subRL n m (k + 1) = subRL n m k ++ [([78, lower k], subR n m k)] := by simp [subRL, List.range_succ]
def shortB (s : Sz) : Bool := s.types.all (fun x => decide (x.1.length ≤ 1000) && (fitZ x.2 && shortZ x.2)) && (fitZ s.main && shortZ s.main) && s.sigs.isEmpty
theorem shortB_is {s : Sz} (h : shortB s = true) : ShortS s := by
  unfold shortB at h
  simp only [Bool.and_eq_true, List.all_eq_true, decide_eq_true_eq, List.isEmpty_iff] at h
  exact ⟨fun i hi => h.1.1 _ (List.getElem_mem hi), h.1.2, fun g hg => by rw [h.2] at hg; cases hg⟩
/-- What a law of one more type finds: the table is made, the type is added, names lead somewhere. -/
def fineB (s : Sz) (t : Tz) : Bool :=
  let p := newK s
  let a := addK (hasZ p.2.N) p.2.T t
  fitS s && (shortB s && (fitZ t && (shortZ t && (decide (p.1 = 0) && (decide (a.2.1 = 0) && (decide (p.2.m < a.2.2.length) && (decide (a.1 < a.2.2.length) && opB a.2.2 p.2.N)))))))
structure Fine (s : Sz) (t : Tz) (tab : Tab) (k : Nat) (T : List Kz) : Prop where
  fit : fitS s = true
  short : ShortS s
  tfit : fitZ t = true
  tshort : shortZ t = true
  new : newK s = (0, tab)
  add : addK (hasZ tab.N) tab.T t = (k, 0, T)
  main : tab.m < T.length
  id : k < T.length
  op : OpL T tab.N
theorem fineB_is {s : Sz} {t : Tz} (h : fineB s t = true) : Fine s t (newK s).2 (addK (hasZ (newK s).2.N) (newK s).2.T t).1 (addK (hasZ (newK s).2.N) (newK s).2.T t).2.2 := by
  unfold fineB at h
  simp only [Bool.and_eq_true, decide_eq_true_eq] at h
  obtain ⟨h1, h2, h3, h4, h5, h6, h7, h8, h9⟩ := h
  exact ⟨h1, shortB_is h2, h3, h4, Prod.ext h5 rfl, Prod.ext rfl (Prod.ext h6 rfl), h7, h8, opB_is h9⟩
def ringB (n m : Nat) : Bool :=
  let s : Sz := ⟨zN [78, 97], subRL n m (n + m), []⟩
  let p := (newK s).2
  let a := addK (hasZ p.N) p.T (zN [78, lower n])
  let x := leL a.2.2 (openK a.2.2 p.N 13) p.m a.1
  let y := leL a.2.2 (openK a.2.2 p.N 13) a.1 p.m
  fineB s (zN [78, lower n]) && (x.1 && (!y.1 && (decide (x.2.length ≤ a.2.2.length * a.2.2.length) && (decide (y.2.length = 1) && decide (a.2.2.length ≤ 120)))))
set_option maxRecDepth 100000
theorem ringB_all : (List.range 5).all (fun n => (List.range 5).all fun m => ringB (n + 1) (m + 1)) = true := by kernel_rfl
end Sp
end Go.Proofs.Ytmhihnpimanhfab
