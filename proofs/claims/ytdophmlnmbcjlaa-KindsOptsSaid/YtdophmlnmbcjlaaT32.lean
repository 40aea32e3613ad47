/- Tree: names. Written by gen_wtree.py. -/
import Derived.Test.YtdophmlnmbcjlaaT27
namespace Go.Proofs.Ytdophmlnmbcjlaa
open Go.RowKit
namespace Sp
open Sc
set_option maxRecDepth 100000 in
set_option maxHeartbeats 8000000 in
theorem tree_8a (d : Nat) (_hd : d ≤ 1000) (kd n : Int) (ns : List Int) (ks : List Rw) (c : R4) (names : List (List UInt8)) (na : Option Addr) (nc : Nat) (w : World) (hV : RwV w (.mk kd n ns ks) c) (hnl : names.length ≤ 1000) (hnm : RowV w (Any w) na 1 (names.map fun n => [str n])) (hk0 : kd % 9 = 8) (hn0 : names ≠ []) (hd1 : (d : Int) ≤ 1) :
    Calls Try.prog 19 #[.agg #[.int .i64 c.k, .int .i64 c.n, .slice c.an c.ln c.cn, .slice c.ak c.lk c.ck], .int .i64 d, .slice na names.length nc] w (TreeP (treeR names d (.mk kd n ns ks)) w) := by
  have hpos : 0 < names.length := List.length_pos_iff.2 hn0
  have hT : topK names.length d kd = 9 := by unfold topK; rw [hk0]; exact if_neg (by omega)
  rw [treeR_name names d kd n ns ks hT]
  cases hV with
  | mk _ _ _ _ an cn ak ck us hk hn hii hln hlk hl ha hb hu =>
    obtain ⟨hkl, hkh⟩ := hk
    obtain ⟨hnl1, hnh1⟩ := hn
    obtain ⟨j, hj, hjl⟩ : ∃ j : Nat, n % (names.length : Int) = j ∧ j < names.length := ⟨(n % (names.length : Int)).toNat, by have := Int.emod_nonneg n (show (names.length : Int) ≠ 0 by omega); omega, by have := Int.emod_lt_of_pos n (show (0 : Int) < names.length by omega); have := Int.emod_nonneg n (show (names.length : Int) ≠ 0 by omega); omega⟩
    have he : names.getD (n % names.length).toNat [] = names[j] := by rw [hj]; simp [List.getD, List.getElem?_eq_getElem hjl]
    rw [he]
    obtain ⟨g, o, rfl, hg, hcell⟩ := name_at hnm (fun _ h => h) j hjl
    have HC := Lib.hid hcell; have HJ := Lib.hid hj
    have hjz : (j : Int) < (names.length : Int) := by omega
    have hj0 : (0 : Int) ≤ (j : Int) := by omega
    have hlz : ((names.length : Int) == 0) = false := by rw [beq_eq_false_iff_ne]; omega
    have hne : ¬ names.length = 0 := by omega
    have HK0 := Lib.hid hk0
    have HNP := Lib.hid hpos
    clear hu hb ha hii hl hT hk0 hcell hj he hnm hpos
    generalize names[j] = nm at *
    go_enter Try.func19, Try.ntmps19
    go_wp2_with (first
      | (go_at_call 30; (with_reducible refine (within3_is _ _ _ _ (by omega) (by omega) hkl hkh HK0.out).mono ?_); rintro e w2 ⟨rfl, hw⟩; have hz2 : w2.heap.size = w.heap.size + 2 := (by rw [← hw]; simp); have hb2 : Below w.heap.size w w2 := (by rw [← hw]; exact ((Below.refl _ _).alloc (Nat.le_refl _) _).alloc (by simp) _); have hr2 : w2.heap[w.heap.size]? = some (.cells #[.int .i64 kd, .int .i64 n, .slice an ns.length cn, .slice ak ks.length ck] 54 (0, 0)) := (by rw [← hw, blk_if, if_neg (by simp), blk_if, if_pos rfl]); have ho2 : w2.heap[w.heap.size + 1]? = some (.cells #[.int .i64 0, .string ⟨#[]⟩, .slice none 0 0, .slice none 0 0] 30 (0, 0)) := (by rw [← hw, blk_if, if_pos (by simp)]); obtain ⟨⟨r0, r1, r2, r3⟩, -⟩ := four_blk hr2; obtain ⟨⟨o0, o1, o2, o3⟩, ⟨f0, f1, f2, f3⟩⟩ := four_blk ho2; have HB2 := Lib.hid hb2; have HR2 := Lib.hid hr2; have HO2 := Lib.hid ho2; clear hw hb2 hr2 ho2)
      | (go_at_call 30; (with_reducible refine (within3_is _ _ _ _ (by have := HNP.out; omega) (by omega) hnl1 hnh1 HJ.out).mono ?_); rintro e w3 ⟨rfl, hw3⟩; have hz3 : w3.heap.size = w.heap.size + 3 := (by rw [← hw3]; simp; omega); have hb3 : Below w.heap.size w w3 := (by rw [← hw3]; exact HB2.out.alloc (by omega) _); have ht3 : w3.heap[w.heap.size + 2]? = some (.cells #[.int .i64 9, .string ⟨#[]⟩, .slice none 0 0, .slice none 0 0] 30 (0, 0)) := (by rw [← hw3, blk_if, if_pos (by omega)]); have ho3 : w3.heap[w.heap.size + 1]? = some (.cells #[.int .i64 0, .string ⟨#[]⟩, .slice none 0 0, .slice none 0 0] 30 (0, 0)) := (by rw [← hw3, blk_if, if_neg (by omega)]; exact HO2.out); have c3 := HC.out w3 hb3; obtain ⟨⟨t0, t1, t2, t3⟩, ⟨y0, y1, y2, y3⟩⟩ := four_blk ht3; obtain ⟨⟨q0, q1, q2, q3⟩, ⟨x0, x1, x2, x3⟩⟩ := four_blk ho3; have HB3 := Lib.hid hb3; have HO3 := Lib.hid ho3; clear hw3 hb3 ht3 ho3))
    have hs1 : (w3.setCell ⟨w.heap.size + 2, 1, none⟩ (.string ⟨nm.toArray⟩)).heap[w.heap.size + 1]? = some (.cells #[.int .i64 0, .string ⟨#[]⟩, .slice none 0 0, .slice none 0 0] 30 (0, 0)) := ((Only.refl _ w3).setCell 1 _).blk HO3.out (by omega)
    obtain ⟨⟨v0, v1, v2, v3⟩, -⟩ := four_blk (put4_at hs1 ⟨9, ⟨nm.toArray⟩, none, 0, 0, none, 0, 0⟩)
    have hbl := (HB3.out.trans (((Only.refl (w.heap.size + 2) w3).setCell 1 (.string ⟨nm.toArray⟩)).below (by omega) (by omega))).trans ((put4_only (w3.setCell ⟨w.heap.size + 2, 1, none⟩ (.string ⟨nm.toArray⟩)) (w.heap.size + 1) ⟨9, ⟨nm.toArray⟩, none, 0, 0, none, 0, 0⟩).below (by omega) (by simp; omega))
    unfold put4 at v0 v1 v2 v3 hbl
    refine bodyPost_ret (v := .agg #[.int .i64 9, .string ⟨nm.toArray⟩, .slice none 0 0, .slice none 0 0]) (by simp [results, Try.results19, go_sem, v0, v1, v2, v3]) rfl ?_
    exact ⟨⟨9, ⟨nm.toArray⟩, none, 0, 0, none, 0, 0⟩, rfl, TzV.leaf _ _ 9 nm, hbl⟩
set_option maxRecDepth 100000 in
set_option maxHeartbeats 8000000 in
theorem tree_8b (d : Nat) (_hd : d ≤ 1000) (kd n : Int) (ns : List Int) (ks : List Rw) (c : R4) (names : List (List UInt8)) (na : Option Addr) (nc : Nat) (w : World) (hV : RwV w (.mk kd n ns ks) c) (hnl : names.length ≤ 1000) (hnm : RowV w (Any w) na 1 (names.map fun n => [str n])) (hk0 : kd % 9 = 8) (hn0 : names ≠ []) (hd1 : ¬ (d : Int) ≤ 1) :
    Calls Try.prog 19 #[.agg #[.int .i64 c.k, .int .i64 c.n, .slice c.an c.ln c.cn, .slice c.ak c.lk c.ck], .int .i64 d, .slice na names.length nc] w (TreeP (treeR names d (.mk kd n ns ks)) w) := by
  have hpos : 0 < names.length := List.length_pos_iff.2 hn0
  have hT : topK names.length d kd = 9 := by unfold topK; rw [hk0]; exact if_neg (by omega)
  rw [treeR_name names d kd n ns ks hT]
  cases hV with
  | mk _ _ _ _ an cn ak ck us hk hn hii hln hlk hl ha hb hu =>
    obtain ⟨hkl, hkh⟩ := hk
    obtain ⟨hnl1, hnh1⟩ := hn
    obtain ⟨j, hj, hjl⟩ : ∃ j : Nat, n % (names.length : Int) = j ∧ j < names.length := ⟨(n % (names.length : Int)).toNat, by have := Int.emod_nonneg n (show (names.length : Int) ≠ 0 by omega); omega, by have := Int.emod_lt_of_pos n (show (0 : Int) < names.length by omega); have := Int.emod_nonneg n (show (names.length : Int) ≠ 0 by omega); omega⟩
    have he : names.getD (n % names.length).toNat [] = names[j] := by rw [hj]; simp [List.getD, List.getElem?_eq_getElem hjl]
    rw [he]
    obtain ⟨g, o, rfl, hg, hcell⟩ := name_at hnm (fun _ h => h) j hjl
    have HC := Lib.hid hcell; have HJ := Lib.hid hj
    have hjz : (j : Int) < (names.length : Int) := by omega
    have hj0 : (0 : Int) ≤ (j : Int) := by omega
    have hlz : ((names.length : Int) == 0) = false := by rw [beq_eq_false_iff_ne]; omega
    have hne : ¬ names.length = 0 := by omega
    have HK0 := Lib.hid hk0
    have HNP := Lib.hid hpos
    clear hu hb ha hii hl hT hk0 hcell hj he hnm hpos
    generalize names[j] = nm at *
    go_enter Try.func19, Try.ntmps19
    go_wp2_with (first
      | (go_at_call 30; (with_reducible refine (within3_is _ _ _ _ (by omega) (by omega) hkl hkh HK0.out).mono ?_); rintro e w2 ⟨rfl, hw⟩; have hz2 : w2.heap.size = w.heap.size + 2 := (by rw [← hw]; simp); have hb2 : Below w.heap.size w w2 := (by rw [← hw]; exact ((Below.refl _ _).alloc (Nat.le_refl _) _).alloc (by simp) _); have hr2 : w2.heap[w.heap.size]? = some (.cells #[.int .i64 kd, .int .i64 n, .slice an ns.length cn, .slice ak ks.length ck] 54 (0, 0)) := (by rw [← hw, blk_if, if_neg (by simp), blk_if, if_pos rfl]); have ho2 : w2.heap[w.heap.size + 1]? = some (.cells #[.int .i64 0, .string ⟨#[]⟩, .slice none 0 0, .slice none 0 0] 30 (0, 0)) := (by rw [← hw, blk_if, if_pos (by simp)]); obtain ⟨⟨r0, r1, r2, r3⟩, -⟩ := four_blk hr2; obtain ⟨⟨o0, o1, o2, o3⟩, ⟨f0, f1, f2, f3⟩⟩ := four_blk ho2; have HB2 := Lib.hid hb2; have HR2 := Lib.hid hr2; have HO2 := Lib.hid ho2; clear hw hb2 hr2 ho2)
      | (go_at_call 30; (with_reducible refine (within3_is _ _ _ _ (by have := HNP.out; omega) (by omega) hnl1 hnh1 HJ.out).mono ?_); rintro e w3 ⟨rfl, hw3⟩; have hz3 : w3.heap.size = w.heap.size + 3 := (by rw [← hw3]; simp; omega); have hb3 : Below w.heap.size w w3 := (by rw [← hw3]; exact HB2.out.alloc (by omega) _); have ht3 : w3.heap[w.heap.size + 2]? = some (.cells #[.int .i64 9, .string ⟨#[]⟩, .slice none 0 0, .slice none 0 0] 30 (0, 0)) := (by rw [← hw3, blk_if, if_pos (by omega)]); have ho3 : w3.heap[w.heap.size + 1]? = some (.cells #[.int .i64 0, .string ⟨#[]⟩, .slice none 0 0, .slice none 0 0] 30 (0, 0)) := (by rw [← hw3, blk_if, if_neg (by omega)]; exact HO2.out); have c3 := HC.out w3 hb3; obtain ⟨⟨t0, t1, t2, t3⟩, ⟨y0, y1, y2, y3⟩⟩ := four_blk ht3; obtain ⟨⟨q0, q1, q2, q3⟩, ⟨x0, x1, x2, x3⟩⟩ := four_blk ho3; have HB3 := Lib.hid hb3; have HO3 := Lib.hid ho3; clear hw3 hb3 ht3 ho3))
    have hs1 : (w3.setCell ⟨w.heap.size + 2, 1, none⟩ (.string ⟨nm.toArray⟩)).heap[w.heap.size + 1]? = some (.cells #[.int .i64 0, .string ⟨#[]⟩, .slice none 0 0, .slice none 0 0] 30 (0, 0)) := ((Only.refl _ w3).setCell 1 _).blk HO3.out (by omega)
    obtain ⟨⟨v0, v1, v2, v3⟩, -⟩ := four_blk (put4_at hs1 ⟨9, ⟨nm.toArray⟩, none, 0, 0, none, 0, 0⟩)
    have hbl := (HB3.out.trans (((Only.refl (w.heap.size + 2) w3).setCell 1 (.string ⟨nm.toArray⟩)).below (by omega) (by omega))).trans ((put4_only (w3.setCell ⟨w.heap.size + 2, 1, none⟩ (.string ⟨nm.toArray⟩)) (w.heap.size + 1) ⟨9, ⟨nm.toArray⟩, none, 0, 0, none, 0, 0⟩).below (by omega) (by simp; omega))
    unfold put4 at v0 v1 v2 v3 hbl
    refine bodyPost_ret (v := .agg #[.int .i64 9, .string ⟨nm.toArray⟩, .slice none 0 0, .slice none 0 0]) (by simp [results, Try.results19, go_sem, v0, v1, v2, v3]) rfl ?_
    exact ⟨⟨9, ⟨nm.toArray⟩, none, 0, 0, none, 0, 0⟩, rfl, TzV.leaf _ _ 9 nm, hbl⟩
end Sp
end Go.Proofs.Ytdophmlnmbcjlaa
