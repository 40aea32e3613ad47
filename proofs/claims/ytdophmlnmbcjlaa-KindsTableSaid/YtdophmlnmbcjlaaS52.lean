/- KindsCounts: for every input the law returns true, and each argument reads as before: the row's statement out of the walk. No condition. -/
import Derived.Test.YtdophmlnmbcjlaaS51
import Derived.Test.YtdophmlnmbcjlaaS50
import Derived.HandedShaped
import Derived.ShutString
import Derived.ChangeOld
import Derived.Test.YtdophmlnmbcjlaaS34
import Derived.Test.YtdophmlnmbcjlaaS23
import Derived.OwnWalk
import Derived.Deep.RegionHeld3
namespace Go.Proofs.Ytdophmlnmbcjlaa.kindsCounts
open Go.ChangeShapes Go.WideShapes Go.ChangeAt Go.RowKit
open Go.ChangeMaps (open_string shut_string)
open Go.Proofs.Ytdophmlnmbcjlaa.Sp (own laidOut)
set_option maxRecDepth 100000 in
theorem lifted (os : Os) (started : os.Started) (H : Type) (enc : TypeId × Value → H) :
    ReturnsInHanded {} Try.checked os 3 .any (Rows.kindsCountsSpec.pre6 enc Try.prog Try.f3 Rows.kindsCountsRow.domain false)
      (Rows.kindsCountsSpec.post enc Try.prog Try.f3 false true false false) := by
  refine returnsInHanded_of_change_shaped (C := Try.checked) own started (by kernel_rfl) Try.func3
    (ChangeSpec.witness6 (enc := enc) (C := Try.checked) false ⟨#[], #[.int .i64 0, .int .i64 0], []⟩ 8 (by kernel_rfl) (by kernel_rfl) (by kernel_rfl) (by kernel_rfl)) ?_
  intro W base args ds gs before hval0 hW _ _ hsh _
  have hval : ∀ (j : Nat) t v, Try.f3.params[j]? = some t → args[j]? = some v → Value.okWide Try.prog W .any base t v := hval0
  have hW' := hW
  obtain ⟨p, q, hA0, hV, rfl, hfz, hnd⟩ := hW
  have hA : DataW.TrodAll enc Try.prog W 0 (fun _ => true) true Try.f3.params.toList args.toList ds p := hA0
  rw [Try.params3] at hA hval
  obtain ⟨v0, vs0, d0, ds0, p0, q0, hargs, rfl, rfl, h0, r0⟩ := trodAll_cons hA
  obtain ⟨v1, vs1, d1, ds1, p1, q1, rfl, rfl, rfl, h1, r1⟩ := trodAll_cons r0
  obtain ⟨rfl, rfl, rfl⟩ := trodAll_nil r1
  obtain rfl : args = #[v0, v1] := by cases args; simp_all
  obtain ⟨rfl, rfl⟩ := trodVars_none hV
  obtain ⟨x0, rfl, rfl, rfl, wx0⟩ := open_int Try.underlying3 (hval 0 3 v0 rfl rfl) h0
  obtain ⟨x1, rfl, rfl, rfl, wx1⟩ := open_int Try.underlying3 (hval 1 3 v1 rfl rfl) h1
  clear hA0 hval0
  refine (Sp.KindsCounts_any x0 x1 W (bounds_i64 wx0).1 (bounds_i64 wx0).2 (bounds_i64 wx1).1 (bounds_i64 wx1).2).mono fun e W' ⟨he, bel⟩ => ?_
  subst he
  exact ⟨_, rfl, _, _, _, [], _, [], hW', trodAll_mk1 (shut_bool Try.underlying4 _), (trodAll_cons_mk (shut_int Try.underlying3 wx0) (trodAll_cons_mk (shut_int Try.underlying3 wx1) trodAll_mk0)), rfl, bel.frame _, fun h => by cases h⟩
theorem said : Rows.KindsCountsSaid :=
  OpenClaim.holds_of_wide 3 Try.f3 rfl rfl rfl rfl rfl rfl rfl ⟨rfl, rfl, rfl, rfl, rfl⟩ rfl rfl rfl rfl rfl (by kernel_rfl) Try.func3 (by kernel_rfl)
    (of_decide_eq_true (by kernel_rfl)) (by unfold Func.isWrapper; first | (rw [if_pos (by decide +kernel)]; kernel_rfl) | (rw [if_neg (by decide +kernel)]; exact ⟨rfl, rfl⟩))
    (fun os started H enc _ => lifted os started H enc)
end Go.Proofs.Ytdophmlnmbcjlaa.kindsCounts
namespace Go.Proofs.Ytdophmlnmbcjlaa
open Go.RowKit
namespace Sp
open Sc
set_option maxRecDepth 100000
theorem lastN_at {β : Type} : ∀ (l : List (List UInt8 × β)) (i : Nat) (hi : i < l.length), (∀ j (hj : j < l.length), l[j].1 = l[i].1 → j = i) → lastN l l[i].1 = some l[i].2 := by
  apply snoc_ind
  · intro i hi; cases hi
  · intro l x ih i hi hu
    rw [lastN_snoc]
    by_cases h : i = l.length
    · subst h
      simp
    · have h2 : i < l.length := by simp at hi; omega
      have e : (l ++ [x])[i] = l[i] := List.getElem_append_left h2
      have hx : ¬ x.1 = (l ++ [x])[i].1 := fun he => h (hu l.length (by simp) (by simpa using he)).symm
      rw [if_neg hx]
      simp only [e]
      exact ih i h2 fun j hj he => hu j (by simp; omega) (by rw [e, List.getElem_append_left hj]; exact he)
/-- The functions' entries. -/
def entG (G : List GN) (vs : List Value) : List (List UInt8 × Value) := (G.map (·.1)).zip (List.zipWith (fun v (x : GN) => .agg #[v, .int .i64 (x.2.2 : Nat)]) vs G)
theorem entG_len {G : List GN} {vs : List Value} (h : vs.length = G.length) : (entG G vs).length = G.length := by simp [entG, h]
theorem entG_at {G : List GN} {vs : List Value} (h : vs.length = G.length) (i : Nat) (hi : i < G.length) : (entG G vs)[i]'(by rw [entG_len h]; exact hi) = (G[i].1, .agg #[vs[i], .int .i64 (G[i].2.2 : Nat)]) := by simp [entG]
theorem hasZ_anyE {l : List (List UInt8 × Value)} {s : List UInt8} : hasZ l s = true ↔ ∃ x ∈ l, x.1 = s := by simp [hasZ]
theorem zeroG (w : World) : (zeroValue 78).run Try.prog w = .ok (.agg #[.slice none 0 0, .int .i64 0]) w := by kernel_rfl
theorem ids_flat : ∀ ids : List Nat, ((ids.map fun j : Nat => (j : Int)).map (Value.int .i64)) = (ids.map fun (j : Nat) => [Value.int .i64 (j : Nat)]).flatten
  | [] => rfl
  | x :: r => by simpa using ids_flat r
theorem IdsV.clone {w : World} {v : Value} {ids : List Nat} (h : IdsV w v ids) (hl : ids.length ≤ 1000) :
    Calls Try.prog 29 #[v] w fun e w' => ∃ a c, e = .returned (.slice a ids.length c) ∧ RowV w' (fun g => w.heap.size ≤ g ∧ g < w'.heap.size) a 1 (ids.map fun (j : Nat) => [Value.int .i64 (j : Nat)]) ∧ Below w.heap.size w w' := by
  rcases h.2 with ⟨rfl, h0⟩ | ⟨g, cap, cur, rfl, -, -, -⟩
  · have e : ids = [] := List.length_eq_zero_iff.1 h0
    subst e
    refine (Try.slices_Clone_int_nil 0 0 w).mono ?_
    rintro e w' ⟨rfl, rfl⟩
    exact ⟨none, 0, rfl, .inl rfl, Below.refl _ _⟩
  · refine (Try.slices_Clone_int g 0 ids.length cap (ids.map fun j : Nat => (j : Int)) w (by simp) (by omega) (fun j hj => ?_)).mono ?_
    · have hj2 : j < ids.length := by simpa using hj
      have := h.cells (g := g) rfl j (.int .i64 (ids[j] : Nat)) (by simp [hj2])
      rw [addr_addZ] at this
      rw [Nat.zero_add, this]
      simp [hj2]
    · rintro e w' ⟨v', rfl, h1, -, h3⟩
      obtain ⟨a, c, rfl, hr⟩ := RowV.own (S := fun g => w.heap.size ≤ g ∧ g < w'.heap.size) (l := ids.map fun (j : Nat) => [Value.int .i64 (j : Nat)]) (by
        have e : ((ids.map fun j : Nat => (j : Int)).take ids.length).map (Value.int .i64) = (ids.map fun (j : Nat) => [Value.int .i64 (j : Nat)]).flatten := by
          rw [List.take_of_length_le (by simp)]; exact ids_flat ids
        rw [← e]; exact h1) (fun x hx => by obtain ⟨y, _, rfl⟩ := List.mem_map.1 hx; rfl) (by simp) (fun g hg => h1.lt g hg)
      exact ⟨a, c, rfl, hr, h3⟩
theorem own_kpS {W wr : World} {base sz n : Nat} {e : TypeId} {v : Value} {xs : List Value} (h : W.ownsRow base e sz v n xs) (hk : ∀ g, v.ownBlock = some g → wr.heap[g]? = W.heap[g]?) : wr.ownsRow base e sz v n xs := by
  rcases h.2 with ⟨rfl, h0⟩ | ⟨g, cap, cur, rfl, hg, hc, hr⟩
  · exact ⟨h.1, .inl ⟨rfl, h0⟩⟩
  · exact ⟨h.1, .inr ⟨g, cap, cur, rfl, hg, (hk g rfl).trans hc, hr⟩⟩
set_option maxHeartbeats 4000000 in
theorem tsig_in (i : Nat) (w : World) (tb rb nb mb sb m : Nat) (ty nu : Value) (T : List Kz) (G : List GN) (vs : List Value) (hT : TabV w tb rb nb mb sb m ty nu T) (hF : FnsV w sb G vs) (hi : i < G.length) (hu : ∀ j (hj : j < G.length), G[j].1 = G[i].1 → j = i) (hn : G[i].1.length ≤ 1000) (hl : G[i].2.1.length ≤ 1000) :
    Calls Try.prog 16 #[.pointer (some ⟨tb, 0, none⟩), .string ⟨G[i].1.toArray⟩] w fun e w' => ∃ a c, e = .returned (.tuple #[.slice a G[i].2.1.length c, .int .i64 (G[i].2.2 : Nat), .bool true]) ∧
      RowV w' (fun g => w.heap.size ≤ g ∧ g < w'.heap.size) a 1 (G[i].2.1.map fun (j : Nat) => [Value.int .i64 (j : Nat)]) ∧ Below w.heap.size w w' := by
  have hvl : i < vs.length := by rw [hF.len]; exact hi
  have hlk := TxtV.at_ok (l := entG G vs) hF.map Try.underlying71 (zeroG w) G[i].1 (le_max hn)
  have hel := entG_at hF.len i hi
  have hla := lastN_at (entG G vs) i (by rw [entG_len hF.len]; exact hi) (fun j hj he => by
    have hj2 : j < G.length := by rw [entG_len hF.len] at hj; exact hj
    rw [entG_at hF.len j hj2, hel] at he
    exact hu j hj2 he)
  have hhz : hasZ (entG G vs) G[i].1 = true := hasZ_anyE.2 ⟨_, List.getElem_mem (by rw [entG_len hF.len]; exact hi), by rw [hel]⟩
  simp only [hel] at hla
  rw [hla, hhz] at hlk
  have hr := hF.row i hi hvl
  obtain ⟨⟨-, -, -, t3, -⟩, -⟩ := five_blkF hT.box
  have htb := hT.tlt
  have CC : ∀ W, Below w.heap.size w W → IdsV W vs[i] G[i].2.1 := fun W hW => own_kpS hr (fun g hg => hW.block g (hr.lt g hg).2)
  have HCC := Lib.hid CC; have HLK := Lib.hid hlk
  obtain ⟨⟨nm, ids, res⟩, hg⟩ : ∃ g, G[i] = g := ⟨_, rfl⟩
  obtain ⟨v, hv⟩ : ∃ v, vs[i] = v := ⟨_, rfl⟩
  rw [hg, hv] at HCC
  rw [hg, hv] at HLK
  rw [hg] at hl ⊢
  dsimp only at HCC HLK hl ⊢
  have hlk := HLK.out
  simp only [Option.getD_some] at hlk
  obtain ⟨a0, c0, rfl⟩ : ∃ a0 c0, v = .slice a0 ids.length c0 := own_sliceZ (HCC.out w (Below.refl _ _))
  have HTL := Lib.hid htb
  clear CC hla hel hhz hr hu hn hg hv
  go_enter Try.func16, Try.ntmps16
  go_upto_region 2 with fail
  obtain ⟨W1, hW1⟩ : ∃ W1, W1 = w.alloc (.cells #[.slice a0 ids.length c0, .int .i64 (res : Nat)] 78) := ⟨_, rfl⟩
  have hb1 : Below w.heap.size w W1 := by rw [hW1]; exact (Below.refl _ _).alloc (Nat.le_refl _) _
  have hz1 : W1.heap.size = w.heap.size + 1 := by rw [hW1]; simp
  obtain ⟨⟨s0, s1⟩, -⟩ := two_blk (show W1.heap[w.heap.size]? = some (.cells #[.slice a0 ids.length c0, .int .i64 (res : Nat)] 78 (0, 0)) by rw [hW1]; exact heap_alloc_new w _)
  rw [← hW1]
  have CL := (HCC.out W1.drew hb1.drew).clone hl
  have HCL := Lib.hid CL; have HB1 := Lib.hid hb1
  have s0d : W1.drew.cell? ⟨w.heap.size, 0, none⟩ = some (.slice a0 ids.length c0) := s0
  have s1d : W1.drew.cell? ⟨w.heap.size, 1, none⟩ = some (.int .i64 (res : Nat)) := s1
  have hzw : w.heap.size < W1.heap.size := by omega
  clear hW1 hb1 CL hz1
  go_region_held3 (fun w' => w'.cell? ⟨w.heap.size, 0, none⟩ = some (.slice a0 ids.length c0) ∧ w'.cell? ⟨w.heap.size, 1, none⟩ = some (.int .i64 (res : Nat))) (go_keep) (first
    | (go_at_call 29; (refine HCL.out.mono ?_); rintro e w2 ⟨a, c, rfl, r2, b2⟩; have z0 := (b2.cell (p := ⟨w.heap.size, 0, none⟩) hzw).trans s0d; have z1 := (b2.cell (p := ⟨w.heap.size, 1, none⟩) hzw).trans s1d))
  go_wp2
  go_ret3
  exact ⟨a, c, rfl, r2.keep (fun g hg => ⟨by have := hg.1; have h2 : W1.drew.heap.size = W1.heap.size := rfl; omega, hg.2⟩) (fun _ _ => rfl), HB1.out.drew.trans (b2.mono HB1.out.size)⟩
end Sp
end Go.Proofs.Ytdophmlnmbcjlaa
