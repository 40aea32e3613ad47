/- Raw and lists of Raw as arguments: what the reading says of the value. -/
import Derived.Test.YtjjpjkkaogfoaaaWRaw
import Derived.Test.YtjjpjkkaogfoaaaWFewAll
import Derived.WideShapes
import Derived.ChangeShapes
namespace Go.Proofs.Ytjjpjkkaogfoaaa
open Go.RowKit
namespace Sp
open Sc
set_option maxRecDepth 100000

theorem open_raws {H : Type} {enc : TypeId × Value → H} {w : World} {fuel : Nat} {c3 : Value} {x : DataW H × List MemPlace} (h : DataW.trod enc Try.prog w 0 (fun _ => true) true fuel 31 [c3] = some x) :
    ∃ (a : Option Addr) (c : Nat) (ks : List Rw) (us : List R4), c3 = .slice a ks.length c ∧ ks.length ≤ maxLen ∧ RwsV w ks a us := by
  have hcR : Try.prog.cellsOf 33 = 4 := by kernel_rfl
  rcases DataW.trod_slice Try.underlying31 h with ⟨hcs, _⟩ | ⟨a, l, c, elems, rest, m', hm', hcs, _, _, hl, hmx, hel, hx3, _⟩
  · cases hcs
    exact ⟨none, 0, [], [], rfl, by decide, rfl, .inl rfl, fun i h => by cases h⟩
  · cases hcs
    have each : ∀ i, i < l → ∃ r : Rw, ∃ c : R4, RwV w r c ∧ ∀ j v, c.cells[j]? = some v → w.cell? ((a.add (i * 4)).add j) = some v := fun i hi => by
      have h1 := hx3 i hi
      rw [hcR, List.getElem?_eq_getElem (by omega)] at h1
      obtain ⟨cl, h2, h3⟩ := Option.bind_eq_some_iff.1 h1
      obtain ⟨r, cc, rfl, hr⟩ := open_raw m' cl _ h3
      obtain ⟨_, _, h4⟩ := World.cells?_some h2
      refine ⟨r, cc, hr, fun j v hv => ?_⟩
      have hj : j < 4 := (List.getElem?_eq_some_iff.1 hv).1
      rw [h4 j hj]; exact hv
    obtain ⟨f, hf⟩ : ∃ f : Nat → Rw × R4, ∀ i, i < l → RwV w (f i).1 (f i).2 ∧ ∀ j v, (f i).2.cells[j]? = some v → w.cell? ((a.add (i * 4)).add j) = some v :=
      ⟨fun i => if h : i < l then ((each i h).choose, (each i h).choose_spec.choose) else default, fun i hi => by simp only [dif_pos hi]; exact (each i hi).choose_spec.choose_spec⟩
    refine ⟨some a, c, (List.range l).map fun i => (f i).1, (List.range l).map fun i => (f i).2, by simp, by simp; omega, by simp, rowV_of (by decide) (fun x hx => by obtain ⟨y, _, rfl⟩ := List.mem_map.1 hx; rfl) (fun i hi j v hv => ?_), fun i h1 h2 => ?_⟩
    · simp only [List.length_map, List.length_range] at hi
      simp only [List.getElem_map, List.getElem_range] at hv
      exact (hf i hi).2 j v hv
    · simp only [List.length_map, List.length_range] at h1
      simp only [List.getElem_map, List.getElem_range]
      exact (hf i h1).1
theorem open_rawV {H : Type} {enc : TypeId × Value → H} {w : World} {base : Nat} {v : Value} {d : DataW H} {ps : List MemPlace} (hv : Value.okWide Try.prog w .any base 33 v) (h : DataW.Trod enc Try.prog w 0 (fun _ => true) true 33 v d ps) :
    ∃ r c, v = .agg #[.int .i64 c.k, .int .i64 c.n, .slice c.an c.ln c.cn, .slice c.ak c.lk c.ck] ∧ RwV w r c := by
  obtain ⟨cs, rfl, -⟩ := Go.WideShapes.okWide_struct Try.underlying33 hv
  obtain ⟨fuel, hf⟩ := h
  obtain ⟨r, c, hc, hr⟩ := open_raw fuel _ _ hf
  refine ⟨r, c, ?_, hr⟩
  have hc : cs.toList = R4.cells c := hc
  rw [← Array.toArray_toList (xs := cs), hc]
  rfl
theorem open_rawsV {H : Type} {enc : TypeId × Value → H} {w : World} {base : Nat} {v : Value} {d : DataW H} {ps : List MemPlace} (hv : Value.okWide Try.prog w .any base 31 v) (h : DataW.Trod enc Try.prog w 0 (fun _ => true) true 31 v d ps) :
    ∃ (a : Option Addr) (c : Nat) (ks : List Rw) (us : List R4), v = .slice a ks.length c ∧ ks.length ≤ maxLen ∧ RwsV w ks a us := by
  obtain ⟨a, l, c, rfl⟩ := Go.WideShapes.okWide_slice Try.underlying31 hv
  obtain ⟨fuel, hf⟩ := h
  exact open_raws hf
end Sp
end Go.Proofs.Ytjjpjkkaogfoaaa
