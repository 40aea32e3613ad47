/- SubRings: two rings of records, as a plain function; what is asked of them. -/
import Derived.Test.YtmhihnpimanhfaaS51
import Derived.Test.YtmhihnpimanhfaaS30
namespace Go.Proofs.Ytmhihnpimanhfaa
open Go.RowKit
namespace Sp
open Sc
def toR (n m k : Nat) : Nat := if k + 1 = n then 0 else if k + 1 = n + m then n else k + 1
def shortB (s : Sz) : Bool := s.types.all (fun x => decide (x.1.length ≤ 1000) && (fitZ x.2 && shortZ x.2)) && (fitZ s.main && shortZ s.main) && s.sigs.isEmpty
theorem shortB_is {s : Sz} (h : shortB s = true) : ShortS s := by
  unfold shortB at h
  simp only [Bool.and_eq_true, List.all_eq_true, decide_eq_true_eq, List.isEmpty_iff] at h
  exact ⟨fun i hi => h.1.1 _ (List.getElem_mem hi), h.1.2, fun g hg => by rw [h.2] at hg; cases hg⟩
/-- What a law of one more type finds: the table is made, the type is added, names lead somewhere. -/
def fineB (s : Sz) (t : Tz) : Bool :=
  let p := newK s
  let a := addK (hasZ p.2.N) p.2.T t
  fitS s && (shortB s && (fitZ t && (shortZ t && (decide (p.1 = 0) && (decide (a.2.1 = 0) && (decide (p.2.m < a.2.2.length) && (decide (a.1 < a.2.2.length) && opB a.2.2 p.2.N)))))))
structure Fine (s : Sz) (t : Tz) (tab : Tab) (k : Nat) (T : List Kz) : Prop where
  fit : fitS s = true
  short : ShortS s
  tfit : fitZ t = true
  tshort : shortZ t = true
  new : newK s = (0, tab)
  add : addK (hasZ tab.N) tab.T t = (k, 0, T)
  main : tab.m < T.length
  id : k < T.length
  op : OpL T tab.N
theorem fineB_is {s : Sz} {t : Tz} (h : fineB s t = true) : Fine s t (newK s).2 (addK (hasZ (newK s).2.N) (newK s).2.T t).1 (addK (hasZ (newK s).2.N) (newK s).2.T t).2.2 := by
  unfold fineB at h
  simp only [Bool.and_eq_true, decide_eq_true_eq] at h
  obtain ⟨h1, h2, h3, h4, h5, h6, h7, h8, h9⟩ := h
  exact ⟨h1, shortB_is h2, h3, h4, Prod.ext h5 rfl, Prod.ext rfl (Prod.ext h6 rfl), h7, h8, opB_is h9⟩
set_option maxRecDepth 100000
end Sp
end Go.Proofs.Ytmhihnpimanhfaa
namespace Go.Proofs.Ytmhihnpimanhfaa
open Go.RowKit
namespace Sp
open Sc
def namR (q n m k : Nat) : Tz := .mk 7 [] [[120]] [.mk (4 + q : Nat) [] [] [zN [78, lower (toR n m k)]]]
def namRL (q n m k : Nat) : List NT := (List.range k).map fun i => ([78, lower i], namR q n m i)
theorem namRL_succ (q n m k : Nat) : namRL q n m (k + 1) = namRL q n m k ++ [([78, lower k], namR q n m k)] := by simp [namRL, List.range_succ]
def namB (q n m : Nat) : Bool :=
  let s : Sz := ⟨zN [78, 97], namRL q n m (n + m), []⟩
  let p := (newK s).2
  let a := addK (hasZ p.N) p.T (zN [78, lower n])
  let b := addK (hasZ p.N) a.2.2 (namR q n m 0)
  let o := openK b.2.2 p.N 13
  fineB s (zN [78, lower n]) && (fitZ (namR q n m 0) && (shortZ (namR q n m 0) && (decide (b.2.1 = 0) && (decide (b.1 < b.2.2.length) && (decide (a.1 < b.2.2.length) && (decide (p.m < b.2.2.length) && (opB b.2.2 p.N &&
    ((leL b.2.2 o p.m a.1).1 && ((leL b.2.2 o a.1 p.m).1 && ((leL b.2.2 o b.1 p.m).1 && (leL b.2.2 o p.m b.1).1))))))))))
set_option maxRecDepth 100000
theorem namB_all : (List.range 3).all (fun q => (List.range 4).all fun n => (List.range 4).all fun m => namB q (n + 1) (m + 1)) = true := by kernel_rfl
end Sp
end Go.Proofs.Ytmhihnpimanhfaa
