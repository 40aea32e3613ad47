/- The finite laws of chapter 8, by the plain functions. -/
import Derived.Test.YtdophmlnmbcjlaaS41
import Derived.Test.YtdophmlnmbcjlaaS47
import Derived.Test.YtdophmlnmbcjlaaS37
import Derived.Test.YtdophmlnmbcjlaaS21
import Derived.Deep.RegionHeld3
namespace Go.Proofs.Ytdophmlnmbcjlaa
open Go.RowKit
namespace Sp
open Sc
set_option maxRecDepth 100000
def s8 : Sz := ⟨zI, [], []⟩
def t8 : Tab := (newK s8).2
theorem known8_pure : ((newK s8).1 = 0 ∧ t8.T.length = 1 ∧ t8.m = 0) ∧ opB t8.T t8.N = true ∧ ofJ t8.T t8.N [108, 101, 110] [0] = (0, 17, t8.T) ∧ ofJ t8.T t8.N [97, 100, 100] [0, 0] = (0, 0, t8.T) := by
  have h : (decide ((newK s8).1 = 0 ∧ t8.T.length = 1 ∧ t8.m = 0) && (opB t8.T t8.N && (decide (ofJ t8.T t8.N [108, 101, 110] [0] = (0, 17, t8.T)) && decide (ofJ t8.T t8.N [97, 100, 100] [0, 0] = (0, 0, t8.T))))) = true := by kernel_rfl
  simpa only [Bool.and_eq_true, decide_eq_true_eq] using h
def nms8 : List (List UInt8) := [[108, 101, 110], [110, 111, 116], [97, 110, 100], [111, 114], [101, 113], [108, 116], [97, 100, 100], [115, 117, 98], [109, 117, 108], [115, 104, 108], [115, 104, 114], [105, 56], [105, 49, 54], [105, 51, 50], [117, 56], [117, 49, 54], [117, 51, 50], [99, 97, 116], [116, 101, 120, 116], [97, 116], [103, 101, 116], [104, 97, 115], [111, 114, 101, 108, 115, 101]]
def cntB (f n : Nat) : Bool :=
  let nm := nms8.getD f []
  let r := ofJ t8.T t8.N nm (List.replicate n 0)
  builtinB nm && (decide (r.2.1 = 18) == !decide (n = takesJ nm)) && decide (nm.length ≤ 10)
theorem cntB_all : (List.range 23).all (fun f => (List.range 6).all fun n => cntB f n) = true := by kernel_rfl
theorem cntB_at {f n : Nat} (hf : f < 23) (hn : n < 6) : cntB f n = true := List.all_eq_true.1 (List.all_eq_true.1 cntB_all f (List.mem_range.2 hf)) n (List.mem_range.2 hn)
def tl8 : List Tz := [.mk 1 [] [] [], zI, .mk 3 [] [] [], .mk 4 [] [] [zI], .mk 5 [] [] [zI], .mk 6 [] [] [zI], .mk 7 [] [] [], .mk 8 [] [[97]] [zI]]
def tn8 : List (List UInt8) := [[108, 101, 110], [110, 111, 116], [105, 56], [116, 101, 120, 116], [104, 97, 115]]
def tk8 : List (List UInt8) := [[46, 46, 84, 76, 77, 46, 46, 46], [66, 46, 46, 46, 46, 46, 46, 46], [46, 73, 46, 46, 46, 46, 46, 46], [66, 73, 46, 46, 46, 46, 46, 46], [46, 46, 46, 46, 46, 79, 46, 46]]
def tz8 : List Int := [2, 1, 2, 3, 1]
def ts8 (k : Nat) : Sz := ⟨tl8.getD k zI, [], []⟩
def tt8 (k : Nat) : Tab := (newK (ts8 k)).2
def tabB (f k : Nat) : Bool :=
  let t := tt8 k
  let r := ofJ t.T t.N (tn8.getD f []) [t.m]
  decide ((newK (ts8 k)).1 = 0) && decide (t.m < t.T.length) && opB t.T t.N && decide (r.1 < r.2.2.length) && builtinB (tn8.getD f []) && fitS (ts8 k) &&
    (if (tk8.getD f []).getD k 0 = 46 then decide (r.2.1 = 17) && decide (r.1 = 0) else decide (r.2.1 = 0) && decide ((r.2.2.getD r.1 default).kind = tz8.getD f 0))
theorem tabB_all : (List.range 5).all (fun f => (List.range 8).all fun k => tabB f k) = true := by kernel_rfl
theorem tabB_at {f k : Nat} (hf : f < 5) (hk : k < 8) : tabB f k = true := List.all_eq_true.1 (List.all_eq_true.1 tabB_all f (List.mem_range.2 hf)) k (List.mem_range.2 hk)
def nl8 : List Tz := [zI, .mk 3 [] [] [], .mk 1 [] [] [], .mk 4 [] [] [zI], .mk 5 [] [] [zI], .mk 6 [] [] [zI]]
def nn8 : List (List UInt8) := [[108, 101, 110], [110, 111, 116], [105, 56], [116, 101, 120, 116], [104, 97, 115], [117, 51, 50]]
def ns8 (k : Nat) : Sz := ⟨.mk 9 [65] [] [], [([65], .mk 9 [66] [] []), ([66], nl8.getD k zI)], []⟩
def nt8 (k : Nat) : Tab := (newK (ns8 k)).2
def namJB (k f : Nat) : Bool :=
  let t := nt8 k
  let a := addK (hasZ t.N) t.T (nl8.getD k zI)
  let r := ofJ a.2.2 t.N (nn8.getD f []) [t.m]
  let q := ofJ r.2.2 t.N (nn8.getD f []) [a.1]
  decide ((newK (ns8 k)).1 = 0) && decide (t.m < a.2.2.length) && decide (a.1 < a.2.2.length) && decide (a.1 < r.2.2.length) && decide (a.2.1 = 0) && opB a.2.2 t.N && opB r.2.2 t.N && builtinB (nn8.getD f []) && fitS (ns8 k) &&
    decide (r.1 = q.1) && decide (r.2.1 = q.2.1)
theorem namJB_all : (List.range 6).all (fun k => (List.range 6).all fun f => namJB k f) = true := by kernel_rfl
theorem namJB_at {k f : Nat} (hk : k < 6) (hf : f < 6) : namJB k f = true := List.all_eq_true.1 (List.all_eq_true.1 namJB_all k (List.mem_range.2 hk)) f (List.mem_range.2 hf)
def us8 : Sz := ⟨zI, [([78], zI)], [⟨[102], [.mk 1 [] [] [], .mk 3 [] [] [], .mk 4 [] [] [.mk 3 [] [] []], .mk 9 [78] [] []], .mk 3 [] [] []⟩]⟩
def ut8 : Tab := (newK us8).2
def uo8 : List (List UInt8) := [[105, 56], [105, 49, 54], [105, 51, 50], [117, 56], [117, 49, 54], [117, 51, 50]]
def uw8 : List (List UInt8) := [[97, 100, 100], [115, 117, 98], [109, 117, 108], [115, 104, 108], [115, 104, 114]]
def ug8 : GN := ut8.G.getD 0 default
def ui8 : List Nat := ut8.m :: ug8.2.1
def un8 : List Bool := [true, false, false, false, true]
def numB (f a b : Nat) : Bool :=
  let x := ofJ ut8.T ut8.N (uo8.getD (f % 6) []) [ui8.getD a 0]
  let y := ofJ x.2.2 ut8.N (uw8.getD (f % 5) []) [ui8.getD a 0, ui8.getD b 0]
  builtinB (uo8.getD (f % 6) []) && builtinB (uw8.getD (f % 5) []) && opB x.2.2 ut8.N && decide (ui8.getD a 0 < ut8.T.length) && decide (ui8.getD a 0 < x.2.2.length) && decide (ui8.getD b 0 < x.2.2.length) &&
    (un8.getD a false == decide (x.2.1 = 0)) && ((un8.getD a false && un8.getD b false) == decide (y.2.1 = 0)) && (decide (x.2.1 = 0) || decide (x.2.1 = 17)) && (!decide (x.2.1 = 0) || decide (x.1 = ut8.m)) && (decide (y.2.1 = 0) || decide (y.2.1 = 17)) && (!decide (y.2.1 = 0) || decide (y.1 = ut8.m))
theorem numB_all : (List.range 30).all (fun f => (List.range 5).all fun a => (List.range 5).all fun b => numB f a b) = true := by kernel_rfl
theorem numB_at {f a b : Nat} (hf : f < 30) (ha : a < 5) (hb : b < 5) : numB f a b = true := List.all_eq_true.1 (List.all_eq_true.1 (List.all_eq_true.1 numB_all f (List.mem_range.2 hf)) a (List.mem_range.2 ha)) b (List.mem_range.2 hb)
theorem us8_pure : (newK us8).1 = 0 ∧ opB ut8.T ut8.N = true ∧ fitS us8 = true ∧ ut8.G.length = 1 ∧ ug8.1 = [102] ∧ ug8.2.1.length = 4 := by
  have h : (decide ((newK us8).1 = 0) && (opB ut8.T ut8.N && (fitS us8 && decide (ut8.G.length = 1 ∧ ug8.1 = [102] ∧ ug8.2.1.length = 4)))) = true := by kernel_rfl
  simpa only [Bool.and_eq_true, decide_eq_true_eq] using h
end Sp
end Go.Proofs.Ytdophmlnmbcjlaa
namespace Go.Proofs.Ytdophmlnmbcjlaa
open Go.RowKit
namespace Sp
open Sc
set_option maxRecDepth 100000
/-- Types lie in a row. -/
structure RwT (W : World) (g : Nat) (tl : List Tz) (us : List C4) : Prop where
  len : us.length = tl.length
  row : RowV W (Any W) (some ⟨g, 0, none⟩) 4 (us.map C4.cells)
  val : ∀ i (h : i < tl.length) (h' : i < us.length), TzV W (Any W) tl[i] us[i]
theorem RwT.at {W : World} {g : Nat} {tl : List Tz} {us : List C4} (h : RwT W g tl us) (i : Nat) (hi : i < us.length) (w : World) (hb : Below W.heap.size W w) :
    w.cell? ⟨g, i * 4, none⟩ = some (.int .i64 us[i].k) ∧ w.cell? ⟨g, i * 4 + 1, none⟩ = some (.string us[i].n) ∧ w.cell? ⟨g, i * 4 + 2, none⟩ = some (.slice us[i].an us[i].ln us[i].cn) ∧ w.cell? ⟨g, i * 4 + 3, none⟩ = some (.slice us[i].ak us[i].lk us[i].ck) := by
  obtain ⟨g', o, e, hg, hc⟩ := row_at h.row (fun _ h => h) i (by simpa using hi)
  cases e
  have a0 := hc w hb 0 _ (by simp [C4.cells]; rfl)
  have a1 := hc w hb 1 _ (by simp [C4.cells]; rfl)
  have a2 := hc w hb 2 _ (by simp [C4.cells]; rfl)
  have a3 := hc w hb 3 _ (by simp [C4.cells]; rfl)
  simp only [Nat.zero_add, Nat.add_zero] at a0 a1 a2 a3
  exact ⟨a0, a1, a2, a3⟩
/-- Cells of a block. -/
theorem cell_blk {w : World} {b : Nat} {cs : List Value} {t : TypeId} {fr : Nat × Nat} (h : w.heap[b]? = some (.cells cs.toArray t fr)) {i : Nat} {v : Value} (hv : cs[i]? = some v) : w.cell? ⟨b, i, none⟩ = some v := by
  simp [World.cell?, h, hv]
/-- A row of names. -/
def nmsV (l : List (List UInt8)) : List Value := l.map fun x => .string ⟨x.toArray⟩
theorem nmsV_at {l : List (List UInt8)} {i : Nat} (hi : i < l.length) : (nmsV l)[i]? = some (.string ⟨(l.getD i []).toArray⟩) := by
  simp [nmsV, hi]
theorem idsL_flat : ∀ l : List Nat, (idsL l).flatten = l.map fun (j : Nat) => Value.int .i64 (j : Nat)
  | [] => rfl
  | x :: r => by show [Value.int .i64 (x : Nat)] ++ (idsL r).flatten = _; rw [idsL_flat r]; rfl
theorem idsL_blk {w : World} {g : Nat} {t : TypeId} {fr : Nat × Nat} {l : List Nat} (h : w.heap[g]? = some (.cells (l.map fun (j : Nat) => Value.int .i64 (j : Nat)).toArray t fr)) : RowV w (Any w) (some ⟨g, 0, none⟩) 1 (idsL l) :=
  RowV.blk h (by rw [idsL_flat]) (fun x hx => by obtain ⟨y, _, rfl⟩ := List.mem_map.1 hx; rfl)
set_option maxHeartbeats 4000000 in
theorem known8_any (w : World) :
    Calls Try.prog 9 #[] w fun e w' => e = .returned (.bool true) ∧ Below w.heap.size w w' := by
  obtain ⟨⟨p1, p2, p3⟩, p4, p5, p6⟩ := known8_pure
  have hn : newK s8 = (0, t8) := Prod.ext p1 rfl
  have CN := new_at (w := w) s8 0 0 (SzV.build (TzV.leaf _ _ 2 []) (NmsV.nil none) (SgsV.nil none)) rfl (by kernel_rfl) ⟨fun i h => (by cases h), ⟨rfl, rfl⟩, fun g h => by cases h⟩ ⟨by simp [s8], by simp [s8]⟩ hn
  have hO := opB_is p4
  generalize t8 = tab at *
  obtain ⟨T, N, G, m⟩ := tab
  dsimp only at *
  subst p3
  have HCN := Lib.hid CN; have HO := Lib.hid hO; have H2 := Lib.hid p2; have H5 := Lib.hid p5; have H6 := Lib.hid p6
  clear CN hO p1 p2 p4 p5 p6 hn
  go_enter Try.func9, Try.ntmps9
  go_upto_region 4 with (go_at_call 10; (refine HCN.out.mono ?_); rintro e w2 ⟨tb, rb, nb, mb, sb, ty, nu, vs, rfl, s2, x2⟩; have hz2 := x2.size; have HS2 := Lib.hid s2; have HX2 := Lib.hid x2; clear s2 x2)
  obtain ⟨W3, hW3⟩ : ∃ W3, W3 = w2.alloc (.cells #[.int .i64 0] 3) := ⟨_, rfl⟩
  have hb3 : Below w2.heap.size w2 W3 := by rw [hW3]; exact (Below.refl _ _).alloc (Nat.le_refl _) _
  have hr3 : RowV W3 (Any W3) (some ⟨w2.heap.size, 0, none⟩) 1 (idsL [0]) := idsL_blk (by rw [hW3]; exact heap_alloc_new w2 _)
  have C1 := Of_any [108, 101, 110] rfl [0] W3 w.heap.size tb rb nb mb sb 0 ty nu T N G vs (HS2.out.below hb3) (Nat.le_trans hz2 hb3.size) HO.out (by simp [H2.out]) (some ⟨w2.heap.size, 0, none⟩) 1 hr3
  rw [H5.out] at C1
  have HC1 := Lib.hid C1; have HB3 := Lib.hid hb3; have HW3 := Lib.hid hW3
  clear C1 hb3 hr3 hW3
  go_upto_region 5 with (rw [← HW3.out]; go_at_call 13; (refine HC1.out.mono ?_); rintro e w4 ⟨rb4, nb4, ty4, nu4, rfl, s4, x4, -⟩; have hz4 := x4.size; have HS4 := Lib.hid s4; have HX4 := Lib.hid x4; clear s4 x4)
  obtain ⟨W5, hW5⟩ : ∃ W5, W5 = w4.alloc (.cells #[.int .i64 0, .int .i64 0] 3) := ⟨_, rfl⟩
  have hb5 : Below w4.heap.size w4 W5 := by rw [hW5]; exact (Below.refl _ _).alloc (Nat.le_refl _) _
  have hr5 : RowV W5 (Any W5) (some ⟨w4.heap.size, 0, none⟩) 1 (idsL [0, 0]) := idsL_blk (by rw [hW5]; exact heap_alloc_new w4 _)
  have C2 := Of_any [97, 100, 100] rfl [0, 0] W5 w.heap.size tb rb4 nb4 mb sb 0 ty4 nu4 T N G vs (HS4.out.below hb5) (Nat.le_trans hz2 (Nat.le_trans HB3.out.size (Nat.le_trans hz4 hb5.size))) HO.out (by simp [H2.out]) (some ⟨w4.heap.size, 0, none⟩) 2 hr5
  rw [H6.out] at C2
  have HC2 := Lib.hid C2; have HB5 := Lib.hid hb5; have HW5 := Lib.hid hW5
  clear C2 hb5 hr5 hW5
  go_wp2_with (rw [← HW5.out]; go_at_call 13; (refine HC2.out.mono ?_); rintro e w6 ⟨rb6, nb6, ty6, nu6, rfl, s6, x6, -⟩; have HX6 := Lib.hid x6; clear s6 x6)
  go_ret
  exact ⟨rfl, HX2.out.trans ((HB3.out.mono hz2).trans (HX4.out.trans ((HB5.out.mono (by have := HB3.out.size; omega)).trans HX6.out)))⟩
set_option maxHeartbeats 400000 in
theorem within8_any (a n : Int) (w : World) (hn : 0 < n) (hn2 : n ≤ 1000000) (h1 : -9223372036854775808 ≤ a) (h2 : a ≤ 9223372036854775807) :
    Calls Try.prog 12 #[.int .i64 a, .int .i64 n] w fun e w' => e = .returned (.int .i64 (a % n)) ∧ w = w' := by
  have hb1 := Int.emod_nonneg a (show n ≠ 0 by omega)
  have hb2 := Int.emod_lt_of_pos a hn
  by_cases h0 : 0 ≤ a
  · go_enter Try.func12, Try.ntmps12
    go_wp2
    go_ret
    exact ⟨rfl, rfl⟩
  · have ht : a.tmod n = a % n - if 0 ≤ a ∨ n ∣ a then 0 else (n.natAbs : Int) := by rw [Int.tmod_eq_emod]; split <;> rfl
    by_cases hd : n ∣ a
    · have e0 : a % n = 0 := Int.emod_eq_zero_of_dvd hd
      rw [if_pos (Or.inr hd), e0] at ht
      rw [e0]
      clear hd e0
      have l1 : 0 ≤ a.tmod n := by omega
      have l2 : a.tmod n ≤ 0 := by omega
      clear hb1 hb2
      have HT := Lib.hid ht; clear ht
      go_enter Try.func12, Try.ntmps12
      go_wp2
      go_ret
      exact ⟨ret_intZ (by have := HT.out; omega), rfl⟩
    · rw [if_neg (fun h => h.elim h0 hd)] at ht
      have e0 : 0 < a % n := by
        rcases Int.lt_or_eq_of_le hb1 with h | h
        · exact h
        · exact absurd (Int.dvd_of_emod_eq_zero h.symm) hd
      have l1 : a.tmod n < 0 := by omega
      have l2 : -n < a.tmod n := by omega
      have l3 : a.tmod n + n = a % n := by omega
      clear hb1 hb2 ht hd e0
      have HT := Lib.hid l3; clear l3
      go_enter Try.func12, Try.ntmps12
      go_wp2
      go_ret
      exact ⟨ret_intZ (by have := HT.out; omega), rfl⟩
theorem within8_is (a n : Int) (w : World) (r : Nat) (hn : 0 < n) (hn2 : n ≤ 1000000) (h1 : -9223372036854775808 ≤ a) (h2 : a ≤ 9223372036854775807) (hr : a % n = r) :
    Calls Try.prog 12 #[.int .i64 a, .int .i64 n] w fun e w' => e = .returned (.int .i64 (r : Nat)) ∧ w = w' := hr ▸ within8_any a n w hn hn2 h1 h2
set_option maxHeartbeats 4000000 in
theorem Builtins8_any (w : World) :
    Calls Try.prog 11 #[] w fun e w' => e = .returned (.slice (some ⟨w.heap.size, 0, none⟩) 23 23) ∧ w' = w.alloc (.cells (nmsV nms8).toArray 9) := by
  go_enter Try.func11, Try.ntmps11
  go_wp2
  go_ret
  exact ⟨rfl, rfl⟩
set_option maxHeartbeats 4000000 in
theorem Count_ref (s : List UInt8) (w : World) (hb : builtinB s = true) :
    Calls Try.prog 14 #[.string ⟨s.toArray⟩] w fun e w' => e = .returned (.int .i64 (takesJ s : Nat)) ∧ w = w' := by
  rcases Builtin_cases s hb with rfl | rfl | rfl | rfl | rfl | rfl | rfl | rfl | rfl | rfl | rfl | rfl | rfl | rfl | rfl | rfl | rfl | rfl | rfl | rfl | rfl | rfl | rfl
  all_goals
    go_enter Try.func14, Try.ntmps14
    go_wp2
    go_ret
    exact ⟨rfl, rfl⟩
end Sp
end Go.Proofs.Ytdophmlnmbcjlaa
