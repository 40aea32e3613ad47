/- The finite laws of chapter 8, by the plain functions. -/
import Derived.Test.YtdophmlnmbcjlaaT46
import Derived.Test.YtdophmlnmbcjlaaT51
import Derived.Test.YtdophmlnmbcjlaaT43
import Derived.Test.YtdophmlnmbcjlaaT17
import Derived.Deep.RegionHeld3
import Derived.Test.YtdophmlnmbcjlaaT40
import Derived.Test.YtdophmlnmbcjlaaT20
import Derived.OwnWalk
import Derived.Test.YtdophmlnmbcjlaaT36
import Derived.Test.YtdophmlnmbcjlaaT42
namespace Go.Proofs.Ytdophmlnmbcjlaa
open Go.RowKit
namespace Sp
open Sc
set_option maxRecDepth 100000
def s8 : Sz := ⟨zI, [], []⟩
def t8 : Tab := (newK s8).2
theorem known8_pure : ((newK s8).1 = 0 ∧ t8.T.length = 1 ∧ t8.m = 0) ∧ opB t8.T t8.N = true ∧ ofJ t8.T t8.N [108, 101, 110] [0] = (0, 17, t8.T) ∧ ofJ t8.T t8.N [97, 100, 100] [0, 0] = (0, 0, t8.T) := by
  have h : (decide ((newK s8).1 = 0 ∧ t8.T.length = 1 ∧ t8.m = 0) && (opB t8.T t8.N && (decide (ofJ t8.T t8.N [108, 101, 110] [0] = (0, 17, t8.T)) && decide (ofJ t8.T t8.N [97, 100, 100] [0, 0] = (0, 0, t8.T))))) = true := by kernel_rfl
  simpa only [Bool.and_eq_true, decide_eq_true_eq] using h
end Sp
end Go.Proofs.Ytdophmlnmbcjlaa
namespace Go.Proofs.Ytdophmlnmbcjlaa
open Go.RowKit
namespace Sp
open Sc
set_option maxRecDepth 100000
theorem idsL_flat : ∀ l : List Nat, (idsL l).flatten = l.map fun (j : Nat) => Value.int .i64 (j : Nat)
  | [] => rfl
  | x :: r => by show [Value.int .i64 (x : Nat)] ++ (idsL r).flatten = _; rw [idsL_flat r]; rfl
theorem idsL_blk {w : World} {g : Nat} {t : TypeId} {fr : Nat × Nat} {l : List Nat} (h : w.heap[g]? = some (.cells (l.map fun (j : Nat) => Value.int .i64 (j : Nat)).toArray t fr)) : RowV w (Any w) (some ⟨g, 0, none⟩) 1 (idsL l) :=
  RowV.blk h (by rw [idsL_flat]) (fun x hx => by obtain ⟨y, _, rfl⟩ := List.mem_map.1 hx; rfl)
set_option maxHeartbeats 4000000 in
theorem known8_any (w : World) :
    Calls Try.prog 9 #[] w fun e w' => e = .returned (.bool true) ∧ Below w.heap.size w w' := by
  obtain ⟨⟨p1, p2, p3⟩, p4, p5, p6⟩ := known8_pure
  have hn : newK s8 = (0, t8) := Prod.ext p1 rfl
  have CN := new_at (w := w) s8 0 0 (SzV.build (TzV.leaf _ _ 2 []) (NmsV.nil none) (SgsV.nil none)) rfl (by kernel_rfl) ⟨fun i h => (by cases h), ⟨rfl, rfl⟩, fun g h => by cases h⟩ ⟨by simp [s8], by simp [s8]⟩ hn
  have hO := opB_is p4
  generalize t8 = tab at *
  obtain ⟨T, N, G, m⟩ := tab
  dsimp only at *
  subst p3
  have HCN := Lib.hid CN; have HO := Lib.hid hO; have H2 := Lib.hid p2; have H5 := Lib.hid p5; have H6 := Lib.hid p6
  clear CN hO p1 p2 p4 p5 p6 hn
  go_enter Try.func9, Try.ntmps9
  go_upto_region 4 with (go_at_call 10; (refine HCN.out.mono ?_); rintro e w2 ⟨tb, rb, nb, mb, sb, ty, nu, vs, rfl, s2, x2⟩; have hz2 := x2.size; have HS2 := Lib.hid s2; have HX2 := Lib.hid x2; clear s2 x2)
  obtain ⟨W3, hW3⟩ : ∃ W3, W3 = w2.alloc (.cells #[.int .i64 0] 3) := ⟨_, rfl⟩
  have hb3 : Below w2.heap.size w2 W3 := by rw [hW3]; exact (Below.refl _ _).alloc (Nat.le_refl _) _
  have hr3 : RowV W3 (Any W3) (some ⟨w2.heap.size, 0, none⟩) 1 (idsL [0]) := idsL_blk (by rw [hW3]; exact heap_alloc_new w2 _)
  have C1 := Of_any [108, 101, 110] rfl [0] W3 w.heap.size tb rb nb mb sb 0 ty nu T N G vs (HS2.out.below hb3) (Nat.le_trans hz2 hb3.size) HO.out (by simp [H2.out]) (some ⟨w2.heap.size, 0, none⟩) 1 hr3
  rw [H5.out] at C1
  have HC1 := Lib.hid C1; have HB3 := Lib.hid hb3; have HW3 := Lib.hid hW3
  clear C1 hb3 hr3 hW3
  go_upto_region 5 with (rw [← HW3.out]; go_at_call 13; (refine HC1.out.mono ?_); rintro e w4 ⟨rb4, nb4, ty4, nu4, rfl, s4, x4, -⟩; have hz4 := x4.size; have HS4 := Lib.hid s4; have HX4 := Lib.hid x4; clear s4 x4)
  obtain ⟨W5, hW5⟩ : ∃ W5, W5 = w4.alloc (.cells #[.int .i64 0, .int .i64 0] 3) := ⟨_, rfl⟩
  have hb5 : Below w4.heap.size w4 W5 := by rw [hW5]; exact (Below.refl _ _).alloc (Nat.le_refl _) _
  have hr5 : RowV W5 (Any W5) (some ⟨w4.heap.size, 0, none⟩) 1 (idsL [0, 0]) := idsL_blk (by rw [hW5]; exact heap_alloc_new w4 _)
  have C2 := Of_any [97, 100, 100] rfl [0, 0] W5 w.heap.size tb rb4 nb4 mb sb 0 ty4 nu4 T N G vs (HS4.out.below hb5) (Nat.le_trans hz2 (Nat.le_trans HB3.out.size (Nat.le_trans hz4 hb5.size))) HO.out (by simp [H2.out]) (some ⟨w4.heap.size, 0, none⟩) 2 hr5
  rw [H6.out] at C2
  have HC2 := Lib.hid C2; have HB5 := Lib.hid hb5; have HW5 := Lib.hid hW5
  clear C2 hb5 hr5 hW5
  go_wp2_with (rw [← HW5.out]; go_at_call 13; (refine HC2.out.mono ?_); rintro e w6 ⟨rb6, nb6, ty6, nu6, rfl, s6, x6, -⟩; have HX6 := Lib.hid x6; clear s6 x6)
  go_ret
  exact ⟨rfl, HX2.out.trans ((HB3.out.mono hz2).trans (HX4.out.trans ((HB5.out.mono (by have := HB3.out.size; omega)).trans HX6.out)))⟩
end Sp
end Go.Proofs.Ytdophmlnmbcjlaa
namespace Go.Proofs.Ytdophmlnmbcjlaa
open Go.RowKit
namespace Sp
open Sc
set_option maxRecDepth 100000
theorem lastN_at {β : Type} : ∀ (l : List (List UInt8 × β)) (i : Nat) (hi : i < l.length), (∀ j (hj : j < l.length), l[j].1 = l[i].1 → j = i) → lastN l l[i].1 = some l[i].2 := by
  apply snoc_ind
  · intro i hi; cases hi
  · intro l x ih i hi hu
    rw [lastN_snoc]
    by_cases h : i = l.length
    · subst h
      simp
    · have h2 : i < l.length := by simp at hi; omega
      have e : (l ++ [x])[i] = l[i] := List.getElem_append_left h2
      have hx : ¬ x.1 = (l ++ [x])[i].1 := fun he => h (hu l.length (by simp) (by simpa using he)).symm
      rw [if_neg hx]
      simp only [e]
      exact ih i h2 fun j hj he => hu j (by simp; omega) (by rw [e, List.getElem_append_left hj]; exact he)
/-- The functions' entries. -/
def entG (G : List GN) (vs : List Value) : List (List UInt8 × Value) := (G.map (·.1)).zip (List.zipWith (fun v (x : GN) => .agg #[v, .int .i64 (x.2.2 : Nat)]) vs G)
theorem entG_len {G : List GN} {vs : List Value} (h : vs.length = G.length) : (entG G vs).length = G.length := by simp [entG, h]
theorem entG_at {G : List GN} {vs : List Value} (h : vs.length = G.length) (i : Nat) (hi : i < G.length) : (entG G vs)[i]'(by rw [entG_len h]; exact hi) = (G[i].1, .agg #[vs[i], .int .i64 (G[i].2.2 : Nat)]) := by simp [entG]
theorem hasZ_anyE {l : List (List UInt8 × Value)} {s : List UInt8} : hasZ l s = true ↔ ∃ x ∈ l, x.1 = s := by simp [hasZ]
theorem zeroG (w : World) : (zeroValue 78).run Try.prog w = .ok (.agg #[.slice none 0 0, .int .i64 0]) w := by kernel_rfl
theorem ids_flat : ∀ ids : List Nat, ((ids.map fun j : Nat => (j : Int)).map (Value.int .i64)) = (ids.map fun (j : Nat) => [Value.int .i64 (j : Nat)]).flatten
  | [] => rfl
  | x :: r => by simpa using ids_flat r
theorem IdsV.clone {w : World} {v : Value} {ids : List Nat} (h : IdsV w v ids) (hl : ids.length ≤ 1000) :
    Calls Try.prog 29 #[v] w fun e w' => ∃ a c, e = .returned (.slice a ids.length c) ∧ RowV w' (fun g => w.heap.size ≤ g ∧ g < w'.heap.size) a 1 (ids.map fun (j : Nat) => [Value.int .i64 (j : Nat)]) ∧ Below w.heap.size w w' := by
  rcases h.2 with ⟨rfl, h0⟩ | ⟨g, cap, cur, rfl, -, -, -⟩
  · have e : ids = [] := List.length_eq_zero_iff.1 h0
    subst e
    refine (Try.slices_Clone_int_nil 0 0 w).mono ?_
    rintro e w' ⟨rfl, rfl⟩
    exact ⟨none, 0, rfl, .inl rfl, Below.refl _ _⟩
  · refine (Try.slices_Clone_int g 0 ids.length cap (ids.map fun j : Nat => (j : Int)) w (by simp) (by omega) (fun j hj => ?_)).mono ?_
    · have hj2 : j < ids.length := by simpa using hj
      have := h.cells (g := g) rfl j (.int .i64 (ids[j] : Nat)) (by simp [hj2])
      rw [addr_addZ] at this
      rw [Nat.zero_add, this]
      simp [hj2]
    · rintro e w' ⟨v', rfl, h1, -, h3⟩
      obtain ⟨a, c, rfl, hr⟩ := RowV.own (S := fun g => w.heap.size ≤ g ∧ g < w'.heap.size) (l := ids.map fun (j : Nat) => [Value.int .i64 (j : Nat)]) (by
        have e : ((ids.map fun j : Nat => (j : Int)).take ids.length).map (Value.int .i64) = (ids.map fun (j : Nat) => [Value.int .i64 (j : Nat)]).flatten := by
          rw [List.take_of_length_le (by simp)]; exact ids_flat ids
        rw [← e]; exact h1) (fun x hx => by obtain ⟨y, _, rfl⟩ := List.mem_map.1 hx; rfl) (by simp) (fun g hg => h1.lt g hg)
      exact ⟨a, c, rfl, hr, h3⟩
theorem own_kpS {W wr : World} {base sz n : Nat} {e : TypeId} {v : Value} {xs : List Value} (h : W.ownsRow base e sz v n xs) (hk : ∀ g, v.ownBlock = some g → wr.heap[g]? = W.heap[g]?) : wr.ownsRow base e sz v n xs := by
  rcases h.2 with ⟨rfl, h0⟩ | ⟨g, cap, cur, rfl, hg, hc, hr⟩
  · exact ⟨h.1, .inl ⟨rfl, h0⟩⟩
  · exact ⟨h.1, .inr ⟨g, cap, cur, rfl, hg, (hk g rfl).trans hc, hr⟩⟩
set_option maxHeartbeats 4000000 in
theorem tsig_in (i : Nat) (w : World) (tb rb nb mb sb m : Nat) (ty nu : Value) (T : List Kz) (G : List GN) (vs : List Value) (hT : TabV w tb rb nb mb sb m ty nu T) (hF : FnsV w sb G vs) (hi : i < G.length) (hu : ∀ j (hj : j < G.length), G[j].1 = G[i].1 → j = i) (hn : G[i].1.length ≤ 1000) (hl : G[i].2.1.length ≤ 1000) :
    Calls Try.prog 16 #[.pointer (some ⟨tb, 0, none⟩), .string ⟨G[i].1.toArray⟩] w fun e w' => ∃ a c, e = .returned (.tuple #[.slice a G[i].2.1.length c, .int .i64 (G[i].2.2 : Nat), .bool true]) ∧
      RowV w' (fun g => w.heap.size ≤ g ∧ g < w'.heap.size) a 1 (G[i].2.1.map fun (j : Nat) => [Value.int .i64 (j : Nat)]) ∧ Below w.heap.size w w' := by
  have hvl : i < vs.length := by rw [hF.len]; exact hi
  have hlk := TxtV.at_ok (l := entG G vs) hF.map Try.underlying71 (zeroG w) G[i].1 (le_max hn)
  have hel := entG_at hF.len i hi
  have hla := lastN_at (entG G vs) i (by rw [entG_len hF.len]; exact hi) (fun j hj he => by
    have hj2 : j < G.length := by rw [entG_len hF.len] at hj; exact hj
    rw [entG_at hF.len j hj2, hel] at he
    exact hu j hj2 he)
  have hhz : hasZ (entG G vs) G[i].1 = true := hasZ_anyE.2 ⟨_, List.getElem_mem (by rw [entG_len hF.len]; exact hi), by rw [hel]⟩
  simp only [hel] at hla
  rw [hla, hhz] at hlk
  have hr := hF.row i hi hvl
  obtain ⟨⟨-, -, -, t3, -⟩, -⟩ := five_blkF hT.box
  have htb := hT.tlt
  have CC : ∀ W, Below w.heap.size w W → IdsV W vs[i] G[i].2.1 := fun W hW => own_kpS hr (fun g hg => hW.block g (hr.lt g hg).2)
  have HCC := Lib.hid CC; have HLK := Lib.hid hlk
  obtain ⟨⟨nm, ids, res⟩, hg⟩ : ∃ g, G[i] = g := ⟨_, rfl⟩
  obtain ⟨v, hv⟩ : ∃ v, vs[i] = v := ⟨_, rfl⟩
  rw [hg, hv] at HCC
  rw [hg, hv] at HLK
  rw [hg] at hl ⊢
  dsimp only at HCC HLK hl ⊢
  have hlk := HLK.out
  simp only [Option.getD_some] at hlk
  obtain ⟨a0, c0, rfl⟩ : ∃ a0 c0, v = .slice a0 ids.length c0 := own_sliceZ (HCC.out w (Below.refl _ _))
  have HTL := Lib.hid htb
  clear CC hla hel hhz hr hu hn hg hv
  go_enter Try.func16, Try.ntmps16
  go_upto_region 2 with fail
  obtain ⟨W1, hW1⟩ : ∃ W1, W1 = w.alloc (.cells #[.slice a0 ids.length c0, .int .i64 (res : Nat)] 78) := ⟨_, rfl⟩
  have hb1 : Below w.heap.size w W1 := by rw [hW1]; exact (Below.refl _ _).alloc (Nat.le_refl _) _
  have hz1 : W1.heap.size = w.heap.size + 1 := by rw [hW1]; simp
  obtain ⟨⟨s0, s1⟩, -⟩ := two_blk (show W1.heap[w.heap.size]? = some (.cells #[.slice a0 ids.length c0, .int .i64 (res : Nat)] 78 (0, 0)) by rw [hW1]; exact heap_alloc_new w _)
  rw [← hW1]
  have CL := (HCC.out W1.drew hb1.drew).clone hl
  have HCL := Lib.hid CL; have HB1 := Lib.hid hb1
  have s0d : W1.drew.cell? ⟨w.heap.size, 0, none⟩ = some (.slice a0 ids.length c0) := s0
  have s1d : W1.drew.cell? ⟨w.heap.size, 1, none⟩ = some (.int .i64 (res : Nat)) := s1
  have hzw : w.heap.size < W1.heap.size := by omega
  clear hW1 hb1 CL hz1
  go_region_held3 (fun w' => w'.cell? ⟨w.heap.size, 0, none⟩ = some (.slice a0 ids.length c0) ∧ w'.cell? ⟨w.heap.size, 1, none⟩ = some (.int .i64 (res : Nat))) (go_keep) (first
    | (go_at_call 29; (refine HCL.out.mono ?_); rintro e w2 ⟨a, c, rfl, r2, b2⟩; have z0 := (b2.cell (p := ⟨w.heap.size, 0, none⟩) hzw).trans s0d; have z1 := (b2.cell (p := ⟨w.heap.size, 1, none⟩) hzw).trans s1d))
  go_wp2
  go_ret3
  exact ⟨a, c, rfl, r2.keep (fun g hg => ⟨by have := hg.1; have h2 : W1.drew.heap.size = W1.heap.size := rfl; omega, hg.2⟩) (fun _ _ => rfl), HB1.out.drew.trans (b2.mono HB1.out.size)⟩
end Sp
end Go.Proofs.Ytdophmlnmbcjlaa
namespace Go.Proofs.Ytdophmlnmbcjlaa
namespace Sp
open Sc
theorem fitZs_append : ∀ a b : List Tz, fitZs (a ++ b) = (fitZs a && fitZs b)
  | [], b => by simp [fitZs]
  | t :: a, b => by simp only [List.cons_append, fitZs, fitZs_append a b, Bool.and_assoc]
theorem fit_mk {k : Int} {nm : List UInt8} {ns : List (List UInt8)} {ks : List Tz} (h1 : nm.length ≤ 100) (h2 : ns.length ≤ 100) (h3 : ∀ n ∈ ns, n.length ≤ 100) (h4 : ks.length ≤ 100) (h5 : fitZs ks = true) : fitZ (.mk k nm ns ks) = true := by
  rw [fitZ, h5]
  simp only [Bool.and_eq_true, decide_eq_true_eq, List.all_eq_true]
  unfold maxLen
  exact ⟨⟨by omega, ⟨by omega, fun n hn => by have := h3 n hn; omega⟩, by omega⟩, trivial⟩
theorem nameL_len (n : Int) : (nameL n).length ≤ 100 := by
  unfold nameL
  have h : 0 ≤ n % 7 ∧ n % 7 < 7 := by omega
  obtain ⟨k, hk⟩ : ∃ k : Nat, n % 7 = k := ⟨(n % 7).toNat, by omega⟩
  rw [hk]
  have hk7 : k < 7 := by omega
  match k, hk7 with
  | 0, _ => decide
  | 1, _ => decide
  | 2, _ => decide
  | 3, _ => decide
  | 4, _ => decide
  | 5, _ => decide
  | 6, _ => decide
theorem fldN_len (ns : List Int) (i : Nat) : (fldN ns i).length ≤ 100 := by
  unfold fldN
  split
  · exact nameL_len _
  · decide
/-- A record's, a union's parts: few, and such as memory can hold. -/
structure FitR (t : Tz) (i : Nat) : Prop where
  form : ∃ k ms us, t = .mk k [] ms us ∧ ms.length = us.length ∧ ms.length ≤ i ∧ (∀ n ∈ ms, n.length ≤ 100) ∧ fitZs us = true
theorem FitR.put {t x : Tz} {i : Nat} {n : List UInt8} (h : FitR t i) (hn : n.length ≤ 100) (hx : fitZ x = true) : FitR (putT n x t) (i + 1) := by
  obtain ⟨k, ms, us, rfl, h1, h2, h3, h4⟩ := h
  rw [putT]
  split
  · exact ⟨k, ms, us, rfl, h1, by omega, h3, h4⟩
  · have hp := posT_le ms n
    have e := List.take_append_drop (posT ms n) us
    have k1 := fitZs_append (us.take (posT ms n)) (us.drop (posT ms n))
    rw [e, h4] at k1
    have k2 := k1.symm
    rw [Bool.and_eq_true] at k2
    refine ⟨k, _, _, rfl, by simp; omega, by simp; omega, fun m hm => ?_, ?_⟩
    · simp only [List.mem_append, List.mem_singleton] at hm
      rcases hm with (hm | rfl) | hm
      · exact h3 m (List.mem_of_mem_take hm)
      · exact hn
      · exact h3 m (List.mem_of_mem_drop hm)
    · rw [fitZs_append, fitZs_append, k2.1, k2.2]; simp [fitZs, hx]
theorem FitR.fit {t : Tz} {i : Nat} (h : FitR t i) (hi : i ≤ 100) : fitZ t = true := by
  obtain ⟨k, ms, us, rfl, h1, h2, h3, h4⟩ := h
  exact fit_mk (by simp) (by omega) h3 (by omega) h4
theorem treeR_fit (names : List (List UInt8)) (hn : ∀ n ∈ names, n.length ≤ 100) : ∀ (d : Nat) (r : Rw), fitZ (treeR names d r) = true
  | 0, .mk kd n ns ks => by
    have hl : (names.getD (n % names.length).toNat []).length ≤ 100 := by
      rw [List.getD]
      cases h : names[(n % names.length).toNat]? with
      | none => simp
      | some x => exact hn x (List.mem_of_getElem? h)
    rw [treeR]
    split
    · exact fit_mk hl (by simp) (fun n hn => by cases hn) (by simp) rfl
    · exact fit_mk (by simp) (by simp) (fun n hn => by cases hn) (by simp) rfl
  | d + 1, .mk kd n ns ks => by
    have hl : (names.getD (n % names.length).toNat []).length ≤ 100 := by
      rw [List.getD]
      cases h : names[(n % names.length).toNat]? with
      | none => simp
      | some x => exact hn x (List.mem_of_getElem? h)
    have h1 := topK_rng names.length (d + 1) kd
    obtain ⟨k, hk⟩ : ∃ k, topK names.length (d + 1) kd = k := ⟨_, rfl⟩
    have ih := fun r => treeR_fit names hn d r
    rw [hk] at h1
    by_cases h9 : k = 9
    · rw [treeR_name _ _ _ _ _ _ (hk.trans h9)]
      exact fit_mk hl (by simp) (fun n hn => by cases hn) (by simp) rfl
    · by_cases h3 : k ≤ 3
      · rw [treeR_leaf _ _ _ _ _ _ (by rw [hk]; exact h3)]
        exact fit_mk (by simp) (by simp) (fun n hn => by cases hn) (by simp) rfl
      · by_cases h6 : k ≤ 6
        · rw [treeR_kid _ _ _ _ _ _ k hk (by omega)]
          split
          · exact ih _
          · exact fit_mk (by simp) (by simp) (fun n hn => by cases hn) (by simp) (by rw [fitZs, ih]; rfl)
        · rw [treeR_recT _ _ _ _ _ _ k hk (by omega)]
          have hf : fldM k ns ≤ 4 := by unfold fldM; split <;> omega
          have key : ∀ i, FitR (recT names d kd n ns ks k i) i := by
            intro i
            induction i with
            | zero => exact ⟨k, [], [], rfl, rfl, Nat.le_refl _, (fun n hn => by cases hn), rfl⟩
            | succ i ihh => rw [recT_succ]; exact ihh.put (fldN_len ns i) (ih _)
          exact (key (fldM k ns)).fit (by omega)
end Sp
end Go.Proofs.Ytdophmlnmbcjlaa
namespace Go.Proofs.Ytdophmlnmbcjlaa
namespace Sp
open Sc
theorem shortZs_append : ∀ a b : List Tz, shortZs (a ++ b) = (shortZs a && shortZs b)
  | [], b => by simp [shortZs]
  | t :: a, b => by simp only [List.cons_append, shortZs, shortZs_append a b, Bool.and_assoc]
theorem short_mk {k : Int} {nm : List UInt8} {ns : List (List UInt8)} {ks : List Tz} (h1 : nm.length ≤ 100) (_h2 : ns.length ≤ 100) (h3 : ∀ n ∈ ns, n.length ≤ 100) (_h4 : ks.length ≤ 100) (h5 : shortZs ks = true) : shortZ (.mk k nm ns ks) = true := by
  rw [shortZ, h5]
  simp only [Bool.and_eq_true, decide_eq_true_eq, List.all_eq_true]
  exact ⟨⟨by omega, fun n hn => by have := h3 n hn; omega⟩, trivial⟩
/-- A record's, a union's parts: few, and such as memory can hold. -/
structure ShoR (t : Tz) (i : Nat) : Prop where
  form : ∃ k ms us, t = .mk k [] ms us ∧ ms.length = us.length ∧ ms.length ≤ i ∧ (∀ n ∈ ms, n.length ≤ 100) ∧ shortZs us = true
theorem ShoR.put {t x : Tz} {i : Nat} {n : List UInt8} (h : ShoR t i) (hn : n.length ≤ 100) (hx : shortZ x = true) : ShoR (putT n x t) (i + 1) := by
  obtain ⟨k, ms, us, rfl, h1, h2, h3, h4⟩ := h
  rw [putT]
  split
  · exact ⟨k, ms, us, rfl, h1, by omega, h3, h4⟩
  · have hp := posT_le ms n
    have e := List.take_append_drop (posT ms n) us
    have k1 := shortZs_append (us.take (posT ms n)) (us.drop (posT ms n))
    rw [e, h4] at k1
    have k2 := k1.symm
    rw [Bool.and_eq_true] at k2
    refine ⟨k, _, _, rfl, by simp; omega, by simp; omega, fun m hm => ?_, ?_⟩
    · simp only [List.mem_append, List.mem_singleton] at hm
      rcases hm with (hm | rfl) | hm
      · exact h3 m (List.mem_of_mem_take hm)
      · exact hn
      · exact h3 m (List.mem_of_mem_drop hm)
    · rw [shortZs_append, shortZs_append, k2.1, k2.2]; simp [shortZs, hx]
theorem ShoR.short {t : Tz} {i : Nat} (h : ShoR t i) (hi : i ≤ 100) : shortZ t = true := by
  obtain ⟨k, ms, us, rfl, h1, h2, h3, h4⟩ := h
  exact short_mk (by simp) (by omega) h3 (by omega) h4
theorem treeR_short (names : List (List UInt8)) (hn : ∀ n ∈ names, n.length ≤ 100) : ∀ (d : Nat) (r : Rw), shortZ (treeR names d r) = true
  | 0, .mk kd n ns ks => by
    have hl : (names.getD (n % names.length).toNat []).length ≤ 100 := by
      rw [List.getD]
      cases h : names[(n % names.length).toNat]? with
      | none => simp
      | some x => exact hn x (List.mem_of_getElem? h)
    rw [treeR]
    split
    · exact short_mk hl (by simp) (fun n hn => by cases hn) (by simp) rfl
    · exact short_mk (by simp) (by simp) (fun n hn => by cases hn) (by simp) rfl
  | d + 1, .mk kd n ns ks => by
    have hl : (names.getD (n % names.length).toNat []).length ≤ 100 := by
      rw [List.getD]
      cases h : names[(n % names.length).toNat]? with
      | none => simp
      | some x => exact hn x (List.mem_of_getElem? h)
    have h1 := topK_rng names.length (d + 1) kd
    obtain ⟨k, hk⟩ : ∃ k, topK names.length (d + 1) kd = k := ⟨_, rfl⟩
    have ih := fun r => treeR_short names hn d r
    rw [hk] at h1
    by_cases h9 : k = 9
    · rw [treeR_name _ _ _ _ _ _ (hk.trans h9)]
      exact short_mk hl (by simp) (fun n hn => by cases hn) (by simp) rfl
    · by_cases h3 : k ≤ 3
      · rw [treeR_leaf _ _ _ _ _ _ (by rw [hk]; exact h3)]
        exact short_mk (by simp) (by simp) (fun n hn => by cases hn) (by simp) rfl
      · by_cases h6 : k ≤ 6
        · rw [treeR_kid _ _ _ _ _ _ k hk (by omega)]
          split
          · exact ih _
          · exact short_mk (by simp) (by simp) (fun n hn => by cases hn) (by simp) (by rw [shortZs, ih]; rfl)
        · rw [treeR_recT _ _ _ _ _ _ k hk (by omega)]
          have hf : fldM k ns ≤ 4 := by unfold fldM; split <;> omega
          have key : ∀ i, ShoR (recT names d kd n ns ks k i) i := by
            intro i
            induction i with
            | zero => exact ⟨k, [], [], rfl, rfl, Nat.le_refl _, (fun n hn => by cases hn), rfl⟩
            | succ i ihh => rw [recT_succ]; exact ihh.put (fldN_len ns i) (ih _)
          exact (key (fldM k ns)).short (by omega)
end Sp
end Go.Proofs.Ytdophmlnmbcjlaa
