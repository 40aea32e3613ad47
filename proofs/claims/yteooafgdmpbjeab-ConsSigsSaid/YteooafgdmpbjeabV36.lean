/- Package sprueref4: own. Written by gen_wown.py. -/
import Derived.Test.YteooafgdmpbjeabV35
import Derived.Deep.CutBlock
namespace Go.Proofs.Yteooafgdmpbjeab
open Go.RowKit
namespace Sp
open Sc
theorem leB_nil {n : List UInt8} (h : identB n = true) : (Op.bytesLess n [] || n == []) = false := by
  cases n with
  | nil => simp [identB] at h
  | cons a l => simp [Op.bytesLess]
/-- The name ahead. -/
def prevN (ns : List (List UInt8)) (i : Nat) : List UInt8 := if i = 0 then [] else ns.getD (i - 1) []
theorem namesE_drop {tk : List UInt8 → Bool} {a : List UInt8} {ns : List (List UInt8)} {i : Nat} (h : i < ns.length) : namesE tk a (ns.drop i) = if nameE a ns[i] (tk ns[i]) = 0 then namesE tk ns[i] (ns.drop (i + 1)) else nameE a ns[i] (tk ns[i]) := by rw [List.drop_eq_getElem_cons h, namesE]
theorem below_dNZ {n : Nat} {w w' : World} (h : Below n w w') (k : Nat) : Below n w (w'.drewN k) := ⟨h.os, h.tape, h.output, h.size, h.block⟩
structure OwR (w W0 : World) (ns : List (List UInt8)) (kv : Value) (wr : World) (i : Nat) : Prop where
  slot : kv = .int .i64 i
  le : i ≤ ns.length
  names : namesE (fun _ => false) [] ns = namesE (fun _ => false) (prevN ns i) (ns.drop i)
  same : ∀ g : Nat, wr.heap[g]? = W0.heap[g]?
  below : Below w.heap.size w wr
set_option maxRecDepth 100000 in
set_option maxHeartbeats 8000000 in
theorem own_1 (s : Sz) (k : Int) (hk0 : k = 1) (nm : List UInt8) (ns : List (List UInt8)) (ks : List Tz) (an ak : Option Addr) (cn ck : Nat) (c : C4) (a1 a2 : Option Addr) (us : List (List UInt8 × C4)) (gs : List (List UInt8 × G6)) (c1 c2 : Nat) (w : World) (hV : SzV w (Any w) s c a1 us a2 gs) (hN : RowV w (Any w) an 1 (ns.map fun n => [str n])) (_hl : s.types.length ≤ maxLen) (hf : fitZ (.mk k nm ns ks) = true) :
    Calls Try.prog 73 #[.agg #[.int .i64 c.k, .string c.n, .slice c.an c.ln c.cn, .slice c.ak c.lk c.ck, .slice a1 s.types.length c1, .slice a2 s.sigs.length c2], .agg #[.int .i64 k, .string ⟨nm.toArray⟩, .slice an ns.length cn, .slice ak ks.length ck]] w fun e w' => e = .returned (.int .i64 (ownE (hasZ s.types) k nm ns ks.length)) ∧ Below w.heap.size w w' := by
  subst hk0
  obtain ⟨f1, f2, f3, f4, _⟩ := fitZ_mk hf
  unfold maxLen at f2 f4
  obtain ⟨W0, hW0⟩ : ∃ W0, W0 = (w.alloc (.cells #[.int .i64 c.k, .string c.n, .slice c.an c.ln c.cn, .slice c.ak c.lk c.ck, .slice a1 s.types.length c1, .slice a2 s.sigs.length c2] 35)).alloc (.cells #[.int .i64 1, .string ⟨nm.toArray⟩, .slice an ns.length cn, .slice ak ks.length ck] 31) := ⟨_, rfl⟩
  have hb0 : Below w.heap.size w W0 := by rw [hW0]; exact ((Below.refl _ _).alloc (Nat.le_refl _) _).alloc (by simp) _
  have hz0 : W0.heap.size = w.heap.size + 2 := by rw [hW0]; simp
  have ht0 : W0.heap[w.heap.size + 1]? = some (.cells #[.int .i64 1, .string ⟨nm.toArray⟩, .slice an ns.length cn, .slice ak ks.length ck] 31 (0, 0)) := by rw [hW0, blk_if, if_pos (by simp)]
  obtain ⟨⟨p0, p1, p2, p3⟩, _⟩ := four_blk ht0
  have hs0 : W0.heap[w.heap.size]? = some (.cells #[.int .i64 c.k, .string c.n, .slice c.an c.ln c.cn, .slice c.ak c.lk c.ck, .slice a1 s.types.length c1, .slice a2 s.sigs.length c2] 35 (0, 0)) := by rw [hW0, blk_if, if_neg (by simp), blk_if, if_pos rfl]
  obtain ⟨⟨s0, s1, s2, s3, s4, s5⟩, _⟩ := six_blkF hs0
  have e0 := toList_mk' nm
  have HV := Lib.hid hV; have HN := Lib.hid hN; have HW0 := Lib.hid hW0; have HB0 := Lib.hid hb0; have HT0 := Lib.hid ht0
  have HFN : Hid (∀ i (h : i < ns.length), ns[i].length ≤ maxLen) := f3
  clear hV hN hW0 hb0 ht0 hf f3 hs0
  generalize hE0 : ownE (hasZ s.types) 1 nm ns ks.length = E0
  have HE0 := Lib.hid hE0
  clear hE0
  go_enter Try.func73, Try.ntmps73
  go_upto_region 1 with fail
  rw [← HW0.out]
  by_cases hk : ks.length = 0
  · obtain rfl : ks = [] := List.eq_nil_of_length_eq_zero hk
    by_cases hn : nm = []
    · subst hn
      by_cases hs : ns.length = 0
      · obtain rfl : ns = [] := List.eq_nil_of_length_eq_zero hs
        have hf : formB 1 [] [] ([] : List Tz).length = true := by unfold formB kidsN; simp
        have hE : E0 = 0 := HE0.out.symm.trans (by unfold ownE; rw [if_neg (by omega), hf, if_neg (by simp), if_neg (by omega)]; simp [fieldE, namesE])
        have HE := Lib.hid hE; have HF := Lib.hid hf; have HK := Lib.hid hk
        clear hE hf hk
        go_wp2
        go_loop [9] (fun kv => kv = .int .i64 0) (fun _ => 0)
        case atStart => rfl
        case round =>
          obtain rfl := hrel
          go_wp2
          go_ret
          exact ⟨ret_intZ (by rw [HE.out]; rfl), HB0.out⟩
      · have ts : ¬ ns = [] := fun e => hs (by rw [e]; rfl)
        have hE : E0 = 12 := HE0.out.symm.trans (by unfold ownE; rw [if_neg (by omega), if_pos (by unfold formB; simp; intros; assumption)])
        have HE := Lib.hid hE; have HK := Lib.hid hk
        clear hE hk
        go_wp2
        go_ret
        exact ⟨ret_intZ (by rw [HE.out]; rfl), HB0.out⟩
    · have tn : (nm == []) = false := by rw [beq_eq_false_iff_ne]; exact hn
      have hE : E0 = 12 := HE0.out.symm.trans (by unfold ownE; rw [if_neg (by omega), if_pos (by unfold formB; simp [hn])])
      have HE := Lib.hid hE; have HK := Lib.hid hk
      clear hE hk
      go_wp2
      go_ret
      exact ⟨ret_intZ (by rw [HE.out]; rfl), HB0.out⟩
  · have tk : ¬ ks = [] := fun e => hk (by rw [e]; rfl)
    have hE : E0 = 12 := HE0.out.symm.trans (by unfold ownE; rw [if_neg (by omega), if_pos (by unfold formB kidsN; simp [hk])])
    have HE := Lib.hid hE; have HK := Lib.hid hk
    clear hE hk
    go_wp2
    go_ret
    exact ⟨ret_intZ (by rw [HE.out]; rfl), HB0.out⟩
set_option maxRecDepth 100000 in
set_option maxHeartbeats 8000000 in
theorem own_2 (s : Sz) (k : Int) (hk0 : k = 2) (nm : List UInt8) (ns : List (List UInt8)) (ks : List Tz) (an ak : Option Addr) (cn ck : Nat) (c : C4) (a1 a2 : Option Addr) (us : List (List UInt8 × C4)) (gs : List (List UInt8 × G6)) (c1 c2 : Nat) (w : World) (hV : SzV w (Any w) s c a1 us a2 gs) (hN : RowV w (Any w) an 1 (ns.map fun n => [str n])) (_hl : s.types.length ≤ maxLen) (hf : fitZ (.mk k nm ns ks) = true) :
    Calls Try.prog 73 #[.agg #[.int .i64 c.k, .string c.n, .slice c.an c.ln c.cn, .slice c.ak c.lk c.ck, .slice a1 s.types.length c1, .slice a2 s.sigs.length c2], .agg #[.int .i64 k, .string ⟨nm.toArray⟩, .slice an ns.length cn, .slice ak ks.length ck]] w fun e w' => e = .returned (.int .i64 (ownE (hasZ s.types) k nm ns ks.length)) ∧ Below w.heap.size w w' := by
  subst hk0
  obtain ⟨f1, f2, f3, f4, _⟩ := fitZ_mk hf
  unfold maxLen at f2 f4
  obtain ⟨W0, hW0⟩ : ∃ W0, W0 = (w.alloc (.cells #[.int .i64 c.k, .string c.n, .slice c.an c.ln c.cn, .slice c.ak c.lk c.ck, .slice a1 s.types.length c1, .slice a2 s.sigs.length c2] 35)).alloc (.cells #[.int .i64 2, .string ⟨nm.toArray⟩, .slice an ns.length cn, .slice ak ks.length ck] 31) := ⟨_, rfl⟩
  have hb0 : Below w.heap.size w W0 := by rw [hW0]; exact ((Below.refl _ _).alloc (Nat.le_refl _) _).alloc (by simp) _
  have hz0 : W0.heap.size = w.heap.size + 2 := by rw [hW0]; simp
  have ht0 : W0.heap[w.heap.size + 1]? = some (.cells #[.int .i64 2, .string ⟨nm.toArray⟩, .slice an ns.length cn, .slice ak ks.length ck] 31 (0, 0)) := by rw [hW0, blk_if, if_pos (by simp)]
  obtain ⟨⟨p0, p1, p2, p3⟩, _⟩ := four_blk ht0
  have hs0 : W0.heap[w.heap.size]? = some (.cells #[.int .i64 c.k, .string c.n, .slice c.an c.ln c.cn, .slice c.ak c.lk c.ck, .slice a1 s.types.length c1, .slice a2 s.sigs.length c2] 35 (0, 0)) := by rw [hW0, blk_if, if_neg (by simp), blk_if, if_pos rfl]
  obtain ⟨⟨s0, s1, s2, s3, s4, s5⟩, _⟩ := six_blkF hs0
  have e0 := toList_mk' nm
  have HV := Lib.hid hV; have HN := Lib.hid hN; have HW0 := Lib.hid hW0; have HB0 := Lib.hid hb0; have HT0 := Lib.hid ht0
  have HFN : Hid (∀ i (h : i < ns.length), ns[i].length ≤ maxLen) := f3
  clear hV hN hW0 hb0 ht0 hf f3 hs0
  generalize hE0 : ownE (hasZ s.types) 2 nm ns ks.length = E0
  have HE0 := Lib.hid hE0
  clear hE0
  go_enter Try.func73, Try.ntmps73
  go_upto_region 1 with fail
  rw [← HW0.out]
  by_cases hk : ks.length = 0
  · obtain rfl : ks = [] := List.eq_nil_of_length_eq_zero hk
    by_cases hn : nm = []
    · subst hn
      by_cases hs : ns.length = 0
      · obtain rfl : ns = [] := List.eq_nil_of_length_eq_zero hs
        have hf : formB 2 [] [] ([] : List Tz).length = true := by unfold formB kidsN; simp
        have hE : E0 = 0 := HE0.out.symm.trans (by unfold ownE; rw [if_neg (by omega), hf, if_neg (by simp), if_neg (by omega)]; simp [fieldE, namesE])
        have HE := Lib.hid hE; have HF := Lib.hid hf; have HK := Lib.hid hk
        clear hE hf hk
        go_wp2
        go_loop [9] (fun kv => kv = .int .i64 0) (fun _ => 0)
        case atStart => rfl
        case round =>
          obtain rfl := hrel
          go_wp2
          go_ret
          exact ⟨ret_intZ (by rw [HE.out]; rfl), HB0.out⟩
      · have ts : ¬ ns = [] := fun e => hs (by rw [e]; rfl)
        have hE : E0 = 12 := HE0.out.symm.trans (by unfold ownE; rw [if_neg (by omega), if_pos (by unfold formB; simp; intros; assumption)])
        have HE := Lib.hid hE; have HK := Lib.hid hk
        clear hE hk
        go_wp2
        go_ret
        exact ⟨ret_intZ (by rw [HE.out]; rfl), HB0.out⟩
    · have tn : (nm == []) = false := by rw [beq_eq_false_iff_ne]; exact hn
      have hE : E0 = 12 := HE0.out.symm.trans (by unfold ownE; rw [if_neg (by omega), if_pos (by unfold formB; simp [hn])])
      have HE := Lib.hid hE; have HK := Lib.hid hk
      clear hE hk
      go_wp2
      go_ret
      exact ⟨ret_intZ (by rw [HE.out]; rfl), HB0.out⟩
  · have tk : ¬ ks = [] := fun e => hk (by rw [e]; rfl)
    have hE : E0 = 12 := HE0.out.symm.trans (by unfold ownE; rw [if_neg (by omega), if_pos (by unfold formB kidsN; simp [hk])])
    have HE := Lib.hid hE; have HK := Lib.hid hk
    clear hE hk
    go_wp2
    go_ret
    exact ⟨ret_intZ (by rw [HE.out]; rfl), HB0.out⟩
set_option maxRecDepth 100000 in
set_option maxHeartbeats 8000000 in
theorem own_3 (s : Sz) (k : Int) (hk0 : k = 3) (nm : List UInt8) (ns : List (List UInt8)) (ks : List Tz) (an ak : Option Addr) (cn ck : Nat) (c : C4) (a1 a2 : Option Addr) (us : List (List UInt8 × C4)) (gs : List (List UInt8 × G6)) (c1 c2 : Nat) (w : World) (hV : SzV w (Any w) s c a1 us a2 gs) (hN : RowV w (Any w) an 1 (ns.map fun n => [str n])) (_hl : s.types.length ≤ maxLen) (hf : fitZ (.mk k nm ns ks) = true) :
    Calls Try.prog 73 #[.agg #[.int .i64 c.k, .string c.n, .slice c.an c.ln c.cn, .slice c.ak c.lk c.ck, .slice a1 s.types.length c1, .slice a2 s.sigs.length c2], .agg #[.int .i64 k, .string ⟨nm.toArray⟩, .slice an ns.length cn, .slice ak ks.length ck]] w fun e w' => e = .returned (.int .i64 (ownE (hasZ s.types) k nm ns ks.length)) ∧ Below w.heap.size w w' := by
  subst hk0
  obtain ⟨f1, f2, f3, f4, _⟩ := fitZ_mk hf
  unfold maxLen at f2 f4
  obtain ⟨W0, hW0⟩ : ∃ W0, W0 = (w.alloc (.cells #[.int .i64 c.k, .string c.n, .slice c.an c.ln c.cn, .slice c.ak c.lk c.ck, .slice a1 s.types.length c1, .slice a2 s.sigs.length c2] 35)).alloc (.cells #[.int .i64 3, .string ⟨nm.toArray⟩, .slice an ns.length cn, .slice ak ks.length ck] 31) := ⟨_, rfl⟩
  have hb0 : Below w.heap.size w W0 := by rw [hW0]; exact ((Below.refl _ _).alloc (Nat.le_refl _) _).alloc (by simp) _
  have hz0 : W0.heap.size = w.heap.size + 2 := by rw [hW0]; simp
  have ht0 : W0.heap[w.heap.size + 1]? = some (.cells #[.int .i64 3, .string ⟨nm.toArray⟩, .slice an ns.length cn, .slice ak ks.length ck] 31 (0, 0)) := by rw [hW0, blk_if, if_pos (by simp)]
  obtain ⟨⟨p0, p1, p2, p3⟩, _⟩ := four_blk ht0
  have hs0 : W0.heap[w.heap.size]? = some (.cells #[.int .i64 c.k, .string c.n, .slice c.an c.ln c.cn, .slice c.ak c.lk c.ck, .slice a1 s.types.length c1, .slice a2 s.sigs.length c2] 35 (0, 0)) := by rw [hW0, blk_if, if_neg (by simp), blk_if, if_pos rfl]
  obtain ⟨⟨s0, s1, s2, s3, s4, s5⟩, _⟩ := six_blkF hs0
  have e0 := toList_mk' nm
  have HV := Lib.hid hV; have HN := Lib.hid hN; have HW0 := Lib.hid hW0; have HB0 := Lib.hid hb0; have HT0 := Lib.hid ht0
  have HFN : Hid (∀ i (h : i < ns.length), ns[i].length ≤ maxLen) := f3
  clear hV hN hW0 hb0 ht0 hf f3 hs0
  generalize hE0 : ownE (hasZ s.types) 3 nm ns ks.length = E0
  have HE0 := Lib.hid hE0
  clear hE0
  go_enter Try.func73, Try.ntmps73
  go_upto_region 1 with fail
  rw [← HW0.out]
  by_cases hk : ks.length = 0
  · obtain rfl : ks = [] := List.eq_nil_of_length_eq_zero hk
    by_cases hn : nm = []
    · subst hn
      by_cases hs : ns.length = 0
      · obtain rfl : ns = [] := List.eq_nil_of_length_eq_zero hs
        have hf : formB 3 [] [] ([] : List Tz).length = true := by unfold formB kidsN; simp
        have hE : E0 = 0 := HE0.out.symm.trans (by unfold ownE; rw [if_neg (by omega), hf, if_neg (by simp), if_neg (by omega)]; simp [fieldE, namesE])
        have HE := Lib.hid hE; have HF := Lib.hid hf; have HK := Lib.hid hk
        clear hE hf hk
        go_wp2
        go_loop [9] (fun kv => kv = .int .i64 0) (fun _ => 0)
        case atStart => rfl
        case round =>
          obtain rfl := hrel
          go_wp2
          go_ret
          exact ⟨ret_intZ (by rw [HE.out]; rfl), HB0.out⟩
      · have ts : ¬ ns = [] := fun e => hs (by rw [e]; rfl)
        have hE : E0 = 12 := HE0.out.symm.trans (by unfold ownE; rw [if_neg (by omega), if_pos (by unfold formB; simp; intros; assumption)])
        have HE := Lib.hid hE; have HK := Lib.hid hk
        clear hE hk
        go_wp2
        go_ret
        exact ⟨ret_intZ (by rw [HE.out]; rfl), HB0.out⟩
    · have tn : (nm == []) = false := by rw [beq_eq_false_iff_ne]; exact hn
      have hE : E0 = 12 := HE0.out.symm.trans (by unfold ownE; rw [if_neg (by omega), if_pos (by unfold formB; simp [hn])])
      have HE := Lib.hid hE; have HK := Lib.hid hk
      clear hE hk
      go_wp2
      go_ret
      exact ⟨ret_intZ (by rw [HE.out]; rfl), HB0.out⟩
  · have tk : ¬ ks = [] := fun e => hk (by rw [e]; rfl)
    have hE : E0 = 12 := HE0.out.symm.trans (by unfold ownE; rw [if_neg (by omega), if_pos (by unfold formB kidsN; simp [hk])])
    have HE := Lib.hid hE; have HK := Lib.hid hk
    clear hE hk
    go_wp2
    go_ret
    exact ⟨ret_intZ (by rw [HE.out]; rfl), HB0.out⟩
set_option maxRecDepth 100000 in
set_option maxHeartbeats 8000000 in
theorem own_4 (s : Sz) (k : Int) (hk0 : k = 4) (nm : List UInt8) (ns : List (List UInt8)) (ks : List Tz) (an ak : Option Addr) (cn ck : Nat) (c : C4) (a1 a2 : Option Addr) (us : List (List UInt8 × C4)) (gs : List (List UInt8 × G6)) (c1 c2 : Nat) (w : World) (hV : SzV w (Any w) s c a1 us a2 gs) (hN : RowV w (Any w) an 1 (ns.map fun n => [str n])) (_hl : s.types.length ≤ maxLen) (hf : fitZ (.mk k nm ns ks) = true) :
    Calls Try.prog 73 #[.agg #[.int .i64 c.k, .string c.n, .slice c.an c.ln c.cn, .slice c.ak c.lk c.ck, .slice a1 s.types.length c1, .slice a2 s.sigs.length c2], .agg #[.int .i64 k, .string ⟨nm.toArray⟩, .slice an ns.length cn, .slice ak ks.length ck]] w fun e w' => e = .returned (.int .i64 (ownE (hasZ s.types) k nm ns ks.length)) ∧ Below w.heap.size w w' := by
  subst hk0
  obtain ⟨f1, f2, f3, f4, _⟩ := fitZ_mk hf
  unfold maxLen at f2 f4
  obtain ⟨W0, hW0⟩ : ∃ W0, W0 = (w.alloc (.cells #[.int .i64 c.k, .string c.n, .slice c.an c.ln c.cn, .slice c.ak c.lk c.ck, .slice a1 s.types.length c1, .slice a2 s.sigs.length c2] 35)).alloc (.cells #[.int .i64 4, .string ⟨nm.toArray⟩, .slice an ns.length cn, .slice ak ks.length ck] 31) := ⟨_, rfl⟩
  have hb0 : Below w.heap.size w W0 := by rw [hW0]; exact ((Below.refl _ _).alloc (Nat.le_refl _) _).alloc (by simp) _
  have hz0 : W0.heap.size = w.heap.size + 2 := by rw [hW0]; simp
  have ht0 : W0.heap[w.heap.size + 1]? = some (.cells #[.int .i64 4, .string ⟨nm.toArray⟩, .slice an ns.length cn, .slice ak ks.length ck] 31 (0, 0)) := by rw [hW0, blk_if, if_pos (by simp)]
  obtain ⟨⟨p0, p1, p2, p3⟩, _⟩ := four_blk ht0
  have hs0 : W0.heap[w.heap.size]? = some (.cells #[.int .i64 c.k, .string c.n, .slice c.an c.ln c.cn, .slice c.ak c.lk c.ck, .slice a1 s.types.length c1, .slice a2 s.sigs.length c2] 35 (0, 0)) := by rw [hW0, blk_if, if_neg (by simp), blk_if, if_pos rfl]
  obtain ⟨⟨s0, s1, s2, s3, s4, s5⟩, _⟩ := six_blkF hs0
  have e0 := toList_mk' nm
  have HV := Lib.hid hV; have HN := Lib.hid hN; have HW0 := Lib.hid hW0; have HB0 := Lib.hid hb0; have HT0 := Lib.hid ht0
  have HFN : Hid (∀ i (h : i < ns.length), ns[i].length ≤ maxLen) := f3
  clear hV hN hW0 hb0 ht0 hf f3 hs0
  generalize hE0 : ownE (hasZ s.types) 4 nm ns ks.length = E0
  have HE0 := Lib.hid hE0
  clear hE0
  go_enter Try.func73, Try.ntmps73
  go_upto_region 1 with fail
  rw [← HW0.out]
  by_cases hk : ks.length = 1
  · have tk : ((ks.length : Int) == 1) = true := by rw [beq_iff_eq]; omega
    have tk2 : ((ks.length : Int) != 1) = false := by simp; omega
    by_cases hn : nm = []
    · subst hn
      by_cases hs : ns.length = 0
      · obtain rfl : ns = [] := List.eq_nil_of_length_eq_zero hs
        have hf : formB 4 [] [] (ks : List Tz).length = true := by unfold formB kidsN; simp [hk]
        have hE : E0 = 0 := HE0.out.symm.trans (by unfold ownE; rw [if_neg (by omega), hf, if_neg (by simp), if_neg (by omega)]; simp [fieldE, namesE])
        have HE := Lib.hid hE; have HF := Lib.hid hf; have HK := Lib.hid hk
        clear hE hf hk
        go_wp2
        go_loop [9] (fun kv => kv = .int .i64 0) (fun _ => 0)
        case atStart => rfl
        case round =>
          obtain rfl := hrel
          go_wp2
          go_ret
          exact ⟨ret_intZ (by rw [HE.out]; rfl), HB0.out⟩
      · have ts : ¬ ns = [] := fun e => hs (by rw [e]; rfl)
        have hE : E0 = 12 := HE0.out.symm.trans (by unfold ownE; rw [if_neg (by omega), if_pos (by unfold formB; simp; intros; assumption)])
        have HE := Lib.hid hE; have HK := Lib.hid hk
        clear hE hk
        go_wp2
        go_ret
        exact ⟨ret_intZ (by rw [HE.out]; rfl), HB0.out⟩
    · have tn : (nm == []) = false := by rw [beq_eq_false_iff_ne]; exact hn
      have hE : E0 = 12 := HE0.out.symm.trans (by unfold ownE; rw [if_neg (by omega), if_pos (by unfold formB; simp [hn])])
      have HE := Lib.hid hE; have HK := Lib.hid hk
      clear hE hk
      go_wp2
      go_ret
      exact ⟨ret_intZ (by rw [HE.out]; rfl), HB0.out⟩
  · have tk : ((ks.length : Int) == 1) = false := by rw [beq_eq_false_iff_ne]; omega
    have tk2 : ((ks.length : Int) != 1) = true := by rw [bne_iff_ne]; omega
    have hE : E0 = 12 := HE0.out.symm.trans (by unfold ownE; rw [if_neg (by omega), if_pos (by unfold formB kidsN; simp [hk])])
    have HE := Lib.hid hE; have HK := Lib.hid hk
    clear hE hk
    go_wp2
    go_ret
    exact ⟨ret_intZ (by rw [HE.out]; rfl), HB0.out⟩
set_option maxRecDepth 100000 in
set_option maxHeartbeats 8000000 in
theorem own_5 (s : Sz) (k : Int) (hk0 : k = 5) (nm : List UInt8) (ns : List (List UInt8)) (ks : List Tz) (an ak : Option Addr) (cn ck : Nat) (c : C4) (a1 a2 : Option Addr) (us : List (List UInt8 × C4)) (gs : List (List UInt8 × G6)) (c1 c2 : Nat) (w : World) (hV : SzV w (Any w) s c a1 us a2 gs) (hN : RowV w (Any w) an 1 (ns.map fun n => [str n])) (_hl : s.types.length ≤ maxLen) (hf : fitZ (.mk k nm ns ks) = true) :
    Calls Try.prog 73 #[.agg #[.int .i64 c.k, .string c.n, .slice c.an c.ln c.cn, .slice c.ak c.lk c.ck, .slice a1 s.types.length c1, .slice a2 s.sigs.length c2], .agg #[.int .i64 k, .string ⟨nm.toArray⟩, .slice an ns.length cn, .slice ak ks.length ck]] w fun e w' => e = .returned (.int .i64 (ownE (hasZ s.types) k nm ns ks.length)) ∧ Below w.heap.size w w' := by
  subst hk0
  obtain ⟨f1, f2, f3, f4, _⟩ := fitZ_mk hf
  unfold maxLen at f2 f4
  obtain ⟨W0, hW0⟩ : ∃ W0, W0 = (w.alloc (.cells #[.int .i64 c.k, .string c.n, .slice c.an c.ln c.cn, .slice c.ak c.lk c.ck, .slice a1 s.types.length c1, .slice a2 s.sigs.length c2] 35)).alloc (.cells #[.int .i64 5, .string ⟨nm.toArray⟩, .slice an ns.length cn, .slice ak ks.length ck] 31) := ⟨_, rfl⟩
  have hb0 : Below w.heap.size w W0 := by rw [hW0]; exact ((Below.refl _ _).alloc (Nat.le_refl _) _).alloc (by simp) _
  have hz0 : W0.heap.size = w.heap.size + 2 := by rw [hW0]; simp
  have ht0 : W0.heap[w.heap.size + 1]? = some (.cells #[.int .i64 5, .string ⟨nm.toArray⟩, .slice an ns.length cn, .slice ak ks.length ck] 31 (0, 0)) := by rw [hW0, blk_if, if_pos (by simp)]
  obtain ⟨⟨p0, p1, p2, p3⟩, _⟩ := four_blk ht0
  have hs0 : W0.heap[w.heap.size]? = some (.cells #[.int .i64 c.k, .string c.n, .slice c.an c.ln c.cn, .slice c.ak c.lk c.ck, .slice a1 s.types.length c1, .slice a2 s.sigs.length c2] 35 (0, 0)) := by rw [hW0, blk_if, if_neg (by simp), blk_if, if_pos rfl]
  obtain ⟨⟨s0, s1, s2, s3, s4, s5⟩, _⟩ := six_blkF hs0
  have e0 := toList_mk' nm
  have HV := Lib.hid hV; have HN := Lib.hid hN; have HW0 := Lib.hid hW0; have HB0 := Lib.hid hb0; have HT0 := Lib.hid ht0
  have HFN : Hid (∀ i (h : i < ns.length), ns[i].length ≤ maxLen) := f3
  clear hV hN hW0 hb0 ht0 hf f3 hs0
  generalize hE0 : ownE (hasZ s.types) 5 nm ns ks.length = E0
  have HE0 := Lib.hid hE0
  clear hE0
  go_enter Try.func73, Try.ntmps73
  go_upto_region 1 with fail
  rw [← HW0.out]
  by_cases hk : ks.length = 1
  · have tk : ((ks.length : Int) == 1) = true := by rw [beq_iff_eq]; omega
    have tk2 : ((ks.length : Int) != 1) = false := by simp; omega
    by_cases hn : nm = []
    · subst hn
      by_cases hs : ns.length = 0
      · obtain rfl : ns = [] := List.eq_nil_of_length_eq_zero hs
        have hf : formB 5 [] [] (ks : List Tz).length = true := by unfold formB kidsN; simp [hk]
        have hE : E0 = 0 := HE0.out.symm.trans (by unfold ownE; rw [if_neg (by omega), hf, if_neg (by simp), if_neg (by omega)]; simp [fieldE, namesE])
        have HE := Lib.hid hE; have HF := Lib.hid hf; have HK := Lib.hid hk
        clear hE hf hk
        go_wp2
        go_loop [9] (fun kv => kv = .int .i64 0) (fun _ => 0)
        case atStart => rfl
        case round =>
          obtain rfl := hrel
          go_wp2
          go_ret
          exact ⟨ret_intZ (by rw [HE.out]; rfl), HB0.out⟩
      · have ts : ¬ ns = [] := fun e => hs (by rw [e]; rfl)
        have hE : E0 = 12 := HE0.out.symm.trans (by unfold ownE; rw [if_neg (by omega), if_pos (by unfold formB; simp; intros; assumption)])
        have HE := Lib.hid hE; have HK := Lib.hid hk
        clear hE hk
        go_wp2
        go_ret
        exact ⟨ret_intZ (by rw [HE.out]; rfl), HB0.out⟩
    · have tn : (nm == []) = false := by rw [beq_eq_false_iff_ne]; exact hn
      have hE : E0 = 12 := HE0.out.symm.trans (by unfold ownE; rw [if_neg (by omega), if_pos (by unfold formB; simp [hn])])
      have HE := Lib.hid hE; have HK := Lib.hid hk
      clear hE hk
      go_wp2
      go_ret
      exact ⟨ret_intZ (by rw [HE.out]; rfl), HB0.out⟩
  · have tk : ((ks.length : Int) == 1) = false := by rw [beq_eq_false_iff_ne]; omega
    have tk2 : ((ks.length : Int) != 1) = true := by rw [bne_iff_ne]; omega
    have hE : E0 = 12 := HE0.out.symm.trans (by unfold ownE; rw [if_neg (by omega), if_pos (by unfold formB kidsN; simp [hk])])
    have HE := Lib.hid hE; have HK := Lib.hid hk
    clear hE hk
    go_wp2
    go_ret
    exact ⟨ret_intZ (by rw [HE.out]; rfl), HB0.out⟩
set_option maxRecDepth 100000 in
set_option maxHeartbeats 8000000 in
theorem own_6 (s : Sz) (k : Int) (hk0 : k = 6) (nm : List UInt8) (ns : List (List UInt8)) (ks : List Tz) (an ak : Option Addr) (cn ck : Nat) (c : C4) (a1 a2 : Option Addr) (us : List (List UInt8 × C4)) (gs : List (List UInt8 × G6)) (c1 c2 : Nat) (w : World) (hV : SzV w (Any w) s c a1 us a2 gs) (hN : RowV w (Any w) an 1 (ns.map fun n => [str n])) (_hl : s.types.length ≤ maxLen) (hf : fitZ (.mk k nm ns ks) = true) :
    Calls Try.prog 73 #[.agg #[.int .i64 c.k, .string c.n, .slice c.an c.ln c.cn, .slice c.ak c.lk c.ck, .slice a1 s.types.length c1, .slice a2 s.sigs.length c2], .agg #[.int .i64 k, .string ⟨nm.toArray⟩, .slice an ns.length cn, .slice ak ks.length ck]] w fun e w' => e = .returned (.int .i64 (ownE (hasZ s.types) k nm ns ks.length)) ∧ Below w.heap.size w w' := by
  subst hk0
  obtain ⟨f1, f2, f3, f4, _⟩ := fitZ_mk hf
  unfold maxLen at f2 f4
  obtain ⟨W0, hW0⟩ : ∃ W0, W0 = (w.alloc (.cells #[.int .i64 c.k, .string c.n, .slice c.an c.ln c.cn, .slice c.ak c.lk c.ck, .slice a1 s.types.length c1, .slice a2 s.sigs.length c2] 35)).alloc (.cells #[.int .i64 6, .string ⟨nm.toArray⟩, .slice an ns.length cn, .slice ak ks.length ck] 31) := ⟨_, rfl⟩
  have hb0 : Below w.heap.size w W0 := by rw [hW0]; exact ((Below.refl _ _).alloc (Nat.le_refl _) _).alloc (by simp) _
  have hz0 : W0.heap.size = w.heap.size + 2 := by rw [hW0]; simp
  have ht0 : W0.heap[w.heap.size + 1]? = some (.cells #[.int .i64 6, .string ⟨nm.toArray⟩, .slice an ns.length cn, .slice ak ks.length ck] 31 (0, 0)) := by rw [hW0, blk_if, if_pos (by simp)]
  obtain ⟨⟨p0, p1, p2, p3⟩, _⟩ := four_blk ht0
  have hs0 : W0.heap[w.heap.size]? = some (.cells #[.int .i64 c.k, .string c.n, .slice c.an c.ln c.cn, .slice c.ak c.lk c.ck, .slice a1 s.types.length c1, .slice a2 s.sigs.length c2] 35 (0, 0)) := by rw [hW0, blk_if, if_neg (by simp), blk_if, if_pos rfl]
  obtain ⟨⟨s0, s1, s2, s3, s4, s5⟩, _⟩ := six_blkF hs0
  have e0 := toList_mk' nm
  have HV := Lib.hid hV; have HN := Lib.hid hN; have HW0 := Lib.hid hW0; have HB0 := Lib.hid hb0; have HT0 := Lib.hid ht0
  have HFN : Hid (∀ i (h : i < ns.length), ns[i].length ≤ maxLen) := f3
  clear hV hN hW0 hb0 ht0 hf f3 hs0
  generalize hE0 : ownE (hasZ s.types) 6 nm ns ks.length = E0
  have HE0 := Lib.hid hE0
  clear hE0
  go_enter Try.func73, Try.ntmps73
  go_upto_region 1 with fail
  rw [← HW0.out]
  by_cases hk : ks.length = 1
  · have tk : ((ks.length : Int) == 1) = true := by rw [beq_iff_eq]; omega
    have tk2 : ((ks.length : Int) != 1) = false := by simp; omega
    by_cases hn : nm = []
    · subst hn
      by_cases hs : ns.length = 0
      · obtain rfl : ns = [] := List.eq_nil_of_length_eq_zero hs
        have hf : formB 6 [] [] (ks : List Tz).length = true := by unfold formB kidsN; simp [hk]
        have hE : E0 = 0 := HE0.out.symm.trans (by unfold ownE; rw [if_neg (by omega), hf, if_neg (by simp), if_neg (by omega)]; simp [fieldE, namesE])
        have HE := Lib.hid hE; have HF := Lib.hid hf; have HK := Lib.hid hk
        clear hE hf hk
        go_wp2
        go_loop [9] (fun kv => kv = .int .i64 0) (fun _ => 0)
        case atStart => rfl
        case round =>
          obtain rfl := hrel
          go_wp2
          go_ret
          exact ⟨ret_intZ (by rw [HE.out]; rfl), HB0.out⟩
      · have ts : ¬ ns = [] := fun e => hs (by rw [e]; rfl)
        have hE : E0 = 12 := HE0.out.symm.trans (by unfold ownE; rw [if_neg (by omega), if_pos (by unfold formB; simp; intros; assumption)])
        have HE := Lib.hid hE; have HK := Lib.hid hk
        clear hE hk
        go_wp2
        go_ret
        exact ⟨ret_intZ (by rw [HE.out]; rfl), HB0.out⟩
    · have tn : (nm == []) = false := by rw [beq_eq_false_iff_ne]; exact hn
      have hE : E0 = 12 := HE0.out.symm.trans (by unfold ownE; rw [if_neg (by omega), if_pos (by unfold formB; simp [hn])])
      have HE := Lib.hid hE; have HK := Lib.hid hk
      clear hE hk
      go_wp2
      go_ret
      exact ⟨ret_intZ (by rw [HE.out]; rfl), HB0.out⟩
  · have tk : ((ks.length : Int) == 1) = false := by rw [beq_eq_false_iff_ne]; omega
    have tk2 : ((ks.length : Int) != 1) = true := by rw [bne_iff_ne]; omega
    have hE : E0 = 12 := HE0.out.symm.trans (by unfold ownE; rw [if_neg (by omega), if_pos (by unfold formB kidsN; simp [hk])])
    have HE := Lib.hid hE; have HK := Lib.hid hk
    clear hE hk
    go_wp2
    go_ret
    exact ⟨ret_intZ (by rw [HE.out]; rfl), HB0.out⟩
set_option maxRecDepth 100000 in
set_option maxHeartbeats 8000000 in
theorem own_7 (s : Sz) (k : Int) (hk0 : k = 7) (nm : List UInt8) (ns : List (List UInt8)) (ks : List Tz) (an ak : Option Addr) (cn ck : Nat) (c : C4) (a1 a2 : Option Addr) (us : List (List UInt8 × C4)) (gs : List (List UInt8 × G6)) (c1 c2 : Nat) (w : World) (hV : SzV w (Any w) s c a1 us a2 gs) (hN : RowV w (Any w) an 1 (ns.map fun n => [str n])) (_hl : s.types.length ≤ maxLen) (hf : fitZ (.mk k nm ns ks) = true) :
    Calls Try.prog 73 #[.agg #[.int .i64 c.k, .string c.n, .slice c.an c.ln c.cn, .slice c.ak c.lk c.ck, .slice a1 s.types.length c1, .slice a2 s.sigs.length c2], .agg #[.int .i64 k, .string ⟨nm.toArray⟩, .slice an ns.length cn, .slice ak ks.length ck]] w fun e w' => e = .returned (.int .i64 (ownE (hasZ s.types) k nm ns ks.length)) ∧ Below w.heap.size w w' := by
  subst hk0
  obtain ⟨f1, f2, f3, f4, _⟩ := fitZ_mk hf
  unfold maxLen at f2 f4
  obtain ⟨W0, hW0⟩ : ∃ W0, W0 = (w.alloc (.cells #[.int .i64 c.k, .string c.n, .slice c.an c.ln c.cn, .slice c.ak c.lk c.ck, .slice a1 s.types.length c1, .slice a2 s.sigs.length c2] 35)).alloc (.cells #[.int .i64 7, .string ⟨nm.toArray⟩, .slice an ns.length cn, .slice ak ks.length ck] 31) := ⟨_, rfl⟩
  have hb0 : Below w.heap.size w W0 := by rw [hW0]; exact ((Below.refl _ _).alloc (Nat.le_refl _) _).alloc (by simp) _
  have hz0 : W0.heap.size = w.heap.size + 2 := by rw [hW0]; simp
  have ht0 : W0.heap[w.heap.size + 1]? = some (.cells #[.int .i64 7, .string ⟨nm.toArray⟩, .slice an ns.length cn, .slice ak ks.length ck] 31 (0, 0)) := by rw [hW0, blk_if, if_pos (by simp)]
  obtain ⟨⟨p0, p1, p2, p3⟩, _⟩ := four_blk ht0
  have hs0 : W0.heap[w.heap.size]? = some (.cells #[.int .i64 c.k, .string c.n, .slice c.an c.ln c.cn, .slice c.ak c.lk c.ck, .slice a1 s.types.length c1, .slice a2 s.sigs.length c2] 35 (0, 0)) := by rw [hW0, blk_if, if_neg (by simp), blk_if, if_pos rfl]
  obtain ⟨⟨s0, s1, s2, s3, s4, s5⟩, _⟩ := six_blkF hs0
  have e0 := toList_mk' nm
  have HV := Lib.hid hV; have HN := Lib.hid hN; have HW0 := Lib.hid hW0; have HB0 := Lib.hid hb0; have HT0 := Lib.hid ht0
  have HFN : Hid (∀ i (h : i < ns.length), ns[i].length ≤ maxLen) := f3
  clear hV hN hW0 hb0 ht0 hf f3 hs0
  generalize hE0 : ownE (hasZ s.types) 7 nm ns ks.length = E0
  have HE0 := Lib.hid hE0
  clear hE0
  go_enter Try.func73, Try.ntmps73
  go_upto_region 1 with fail
  rw [← HW0.out]
  by_cases hk : ks.length = ns.length
  · have tk : ((ks.length : Int) == (ns.length : Int)) = true := by rw [beq_iff_eq]; omega
    have tk2 : ((ks.length : Int) != (ns.length : Int)) = false := by simp; omega
    by_cases hn : nm = []
    · subst hn
      have hf : formB 7 [] ns ks.length = true := by unfold formB kidsN; simp [hk]
      have hE : E0 = fieldE 7 ns := HE0.out.symm.trans (by unfold ownE; rw [if_neg (by omega), hf, if_neg (by simp), if_neg (by omega)])
      rw [fieldE] at hE
      by_cases h8 : 8 < ns.length
      · rw [if_pos h8] at hE
        have h8z : (8 : Int) < (ns.length : Int) := by omega
        have HK := Lib.hid hk; have HE := Lib.hid hE
        clear hk h8 hE hf
        go_wp2
        go_ret
        exact ⟨ret_intZ (by rw [HE.out]; rfl), HB0.out⟩
      · rw [if_neg h8] at hE
        have h8z : ¬ (8 : Int) < (ns.length : Int) := by omega
        have HK := Lib.hid hk
        clear hk
        obtain ⟨v, hv0⟩ : ∃ v, v = E0 := ⟨_, rfl⟩
        have hv : (if namesE (fun _ => false) [] ns ≠ 0 then namesE (fun _ => false) [] ns else if (7 : Int) = 8 ∧ ns.length = 0 then 12 else 0) = v := by rw [hv0, hE]
        have HV2 := Lib.hid hv; have HV0 := Lib.hid hv0
        clear hv h8 hE hf hv0
        go_wp2
        go_loopw [9] (fun kv wr => ∃ i : Nat, OwR w W0 ns kv wr i) (fun kv _ => ns.length - (intOf kv).toNat)
        case atStart => exact ⟨0, rfl, Nat.zero_le _, rfl, fun _ => rfl, HB0.out⟩
        case round =>
          obtain ⟨i, h⟩ := hrel
          obtain rfl := h.slot
          have hi := h.le
          obtain ⟨⟨p0, p1, p2, p3⟩, _⟩ := four_blk ((h.same _).trans HT0.out)
          have hd := Lib.hid h.names
          have H := Lib.hid h
          clear h
          by_cases hlt : i < ns.length
          · have hiz : (i : Int) < (ns.length : Int) := by omega
            have hi0 : (0 : Int) ≤ (i : Int) := by omega
            obtain ⟨g, o, rfl, hg, hc⟩ := name_kp HN.out i hlt
            have c0 := hc wr ((H.out.same g).trans (HB0.out.block g hg))
            have hgd : ns.getD i [] = ns[i] := by simp [List.getD, hlt]
            rw [hgd] at c0
            have CI := RIdent_any ⟨ns[i].toArray⟩ wr (HFN.out i hlt)
            rw [show (⟨ns[i].toArray⟩ : ByteArray).data.toList = ns[i] from rfl] at CI
            have hdr := namesE_drop (tk := fun _ => false) (a := prevN ns i) hlt
            have e1 := toList_mk' ns[i]
            have hpn : prevN ns (i + 1) = ns[i] := by unfold prevN; rw [if_neg (by omega), Nat.add_sub_cancel]; exact hgd
            cases hid : identB ns[i]
            · have hne : namesE (fun _ => false) [] ns = 15 := by rw [hd.out, hdr]; unfold nameE; simp [hid]
              have hv : v = 15 := by rw [← HV2.out, hne]; rfl
              rw [hid] at CI
              have HVV := Lib.hid hv; have HCI := Lib.hid CI
              clear hne hv CI hdr hpn hid hc hgd
              generalize ns[i] = a at *
              go_wp2_with (go_at_call 52; (with_reducible refine HCI.out.mono ?_); rintro e w2 ⟨rfl, rfl⟩)
              go_ret
              exact ⟨ret_intZ (by rw [← HV0.out, HVV.out]; rfl), by first | exact H.out.below | exact below_dNZ H.out.below _⟩
            · rw [hid] at CI
              have HCI := Lib.hid CI
              clear CI
              by_cases hi1 : i = 0
              · have hdd : decide ((0 : Int) < (i : Int)) = false := decide_eq_false (by omega)
                have hde : decide (0 < i) = false := decide_eq_false (by omega)
                have hl := leB_nil hid
                have hd' : namesE (fun _ => false) [] ns = namesE (fun _ => false) (prevN ns (i + 1)) (ns.drop (i + 1)) := by
                  rw [hd.out, hdr, hpn, if_pos (by unfold nameE leB prevN; rw [hid, if_neg (by simp), if_pos hi1, hl]; simp)]
                have HD := Lib.hid hd'
                clear hd' hdr hpn hid hl hc hgd hd hi1
                generalize ns[i] = a at *
                go_wp2_with (go_at_call 52; (with_reducible refine HCI.out.mono ?_); rintro e w2 ⟨rfl, rfl⟩)
                go_quiet (fail)
                go_wp2
                go_roundw
                case rel => exact ⟨i + 1, by go_num, by omega, HD.out, H.out.same, below_dNZ H.out.below _⟩
                case measure => simp [intOf]; omega
              · have hip : (0 : Int) < (i : Int) := by omega
                have hiq : 0 < i := by omega
                have him : (i : Int) - 1 = ((i - 1 : Nat) : Int) := by omega
                have him2 : IntKind.i64.wrap ((i : Int) - 1) = ((i - 1 : Nat) : Int) := by rw [IntKind.wrap_i64]; omega
                have hlt1 : i - 1 < ns.length := by omega
                obtain ⟨g2, o2, e2, hg2, hc2⟩ := name_kp HN.out (i - 1) hlt1
                obtain ⟨rfl, rfl⟩ : g = g2 ∧ o = o2 := by cases e2; exact ⟨rfl, rfl⟩
                have d0 := hc2 wr ((H.out.same g).trans (HB0.out.block g hg))
                have hgp : prevN ns i = ns.getD (i - 1) [] := by unfold prevN; rw [if_neg hi1]
                rw [hgp] at hdr
                have e3 := toList_mk' (ns.getD (i - 1) [])
                have hjz : ((i - 1 : Nat) : Int) < (ns.length : Int) := by omega
                have hj0 : (0 : Int) ≤ ((i - 1 : Nat) : Int) := by omega
                have HPI := Lib.hid hgp; have HID := Lib.hid hid; have HDR := Lib.hid hdr; have HPN := Lib.hid hpn
                clear hid hdr hpn hc hc2 hgd hgp e2
                generalize ns.getD (i - 1) [] = b at *
                cases hl : (Op.bytesLess ns[i] b || ns[i] == b)
                · have hd' : namesE (fun _ => false) [] ns = namesE (fun _ => false) (prevN ns (i + 1)) (ns.drop (i + 1)) := by
                    rw [hd.out, show prevN ns i = b from HPI.out, HDR.out, HPN.out, if_pos (by unfold nameE leB; simp [HID.out, hl])]
                  have HD := Lib.hid hd'
                  clear hd' hd
                  go_wp2_with (go_at_call 52; (with_reducible refine HCI.out.mono ?_); rintro e w2 ⟨rfl, rfl⟩)
                  go_quiet (fail)
                  go_wp2
                  go_roundw
                  case rel => exact ⟨i + 1, by go_num, by omega, HD.out, H.out.same, below_dNZ H.out.below _⟩
                  case measure => simp [intOf]; omega
                · have hne : namesE (fun _ => false) [] ns = 6 := by rw [hd.out, show prevN ns i = b from HPI.out, HDR.out]; unfold nameE leB; simp [HID.out, hl]
                  have hv : v = 6 := by rw [← HV2.out, hne]; rfl
                  have HVV := Lib.hid hv
                  clear hne hv hd
                  go_wp2_with (go_at_call 52; (with_reducible refine HCI.out.mono ?_); rintro e w2 ⟨rfl, rfl⟩)
                  go_quiet (fail)
                  go_wp2
                  go_ret
                  exact ⟨ret_intZ (by rw [← HV0.out, HVV.out]; rfl), by first | exact H.out.below | exact below_dNZ H.out.below _⟩
          · have hiz : ¬ (i : Int) < (ns.length : Int) := by omega
            obtain rfl : i = ns.length := by omega
            have hne : namesE (fun _ => false) [] ns = 0 := by rw [hd.out, List.drop_of_length_le (Nat.le_refl _)]; rfl
            have hv : v = 0 := by rw [← HV2.out, hne]; simp
            have HVV := Lib.hid hv
            clear hne hv hd
            go_wp2
            go_ret
            exact ⟨ret_intZ (by rw [← HV0.out, HVV.out]; rfl), H.out.below⟩
    · have tn : (nm == []) = false := by rw [beq_eq_false_iff_ne]; exact hn
      have hE : E0 = 12 := HE0.out.symm.trans (by unfold ownE; rw [if_neg (by omega), if_pos (by unfold formB; simp [hn])])
      have HE := Lib.hid hE; have HK := Lib.hid hk
      clear hE hk
      go_wp2
      go_ret
      exact ⟨ret_intZ (by rw [HE.out]; rfl), HB0.out⟩
  · have tk : ((ks.length : Int) == (ns.length : Int)) = false := by rw [beq_eq_false_iff_ne]; omega
    have tk2 : ((ks.length : Int) != (ns.length : Int)) = true := by rw [bne_iff_ne]; omega
    have hE : E0 = 12 := HE0.out.symm.trans (by unfold ownE; rw [if_neg (by omega), if_pos (by unfold formB kidsN; simp [hk])])
    have HE := Lib.hid hE; have HK := Lib.hid hk
    clear hE hk
    go_wp2
    go_ret
    exact ⟨ret_intZ (by rw [HE.out]; rfl), HB0.out⟩
set_option maxRecDepth 100000 in
set_option maxHeartbeats 8000000 in
theorem own_8 (s : Sz) (k : Int) (hk0 : k = 8) (nm : List UInt8) (ns : List (List UInt8)) (ks : List Tz) (an ak : Option Addr) (cn ck : Nat) (c : C4) (a1 a2 : Option Addr) (us : List (List UInt8 × C4)) (gs : List (List UInt8 × G6)) (c1 c2 : Nat) (w : World) (hV : SzV w (Any w) s c a1 us a2 gs) (hN : RowV w (Any w) an 1 (ns.map fun n => [str n])) (_hl : s.types.length ≤ maxLen) (hf : fitZ (.mk k nm ns ks) = true) :
    Calls Try.prog 73 #[.agg #[.int .i64 c.k, .string c.n, .slice c.an c.ln c.cn, .slice c.ak c.lk c.ck, .slice a1 s.types.length c1, .slice a2 s.sigs.length c2], .agg #[.int .i64 k, .string ⟨nm.toArray⟩, .slice an ns.length cn, .slice ak ks.length ck]] w fun e w' => e = .returned (.int .i64 (ownE (hasZ s.types) k nm ns ks.length)) ∧ Below w.heap.size w w' := by
  subst hk0
  obtain ⟨f1, f2, f3, f4, _⟩ := fitZ_mk hf
  unfold maxLen at f2 f4
  obtain ⟨W0, hW0⟩ : ∃ W0, W0 = (w.alloc (.cells #[.int .i64 c.k, .string c.n, .slice c.an c.ln c.cn, .slice c.ak c.lk c.ck, .slice a1 s.types.length c1, .slice a2 s.sigs.length c2] 35)).alloc (.cells #[.int .i64 8, .string ⟨nm.toArray⟩, .slice an ns.length cn, .slice ak ks.length ck] 31) := ⟨_, rfl⟩
  have hb0 : Below w.heap.size w W0 := by rw [hW0]; exact ((Below.refl _ _).alloc (Nat.le_refl _) _).alloc (by simp) _
  have hz0 : W0.heap.size = w.heap.size + 2 := by rw [hW0]; simp
  have ht0 : W0.heap[w.heap.size + 1]? = some (.cells #[.int .i64 8, .string ⟨nm.toArray⟩, .slice an ns.length cn, .slice ak ks.length ck] 31 (0, 0)) := by rw [hW0, blk_if, if_pos (by simp)]
  obtain ⟨⟨p0, p1, p2, p3⟩, _⟩ := four_blk ht0
  have hs0 : W0.heap[w.heap.size]? = some (.cells #[.int .i64 c.k, .string c.n, .slice c.an c.ln c.cn, .slice c.ak c.lk c.ck, .slice a1 s.types.length c1, .slice a2 s.sigs.length c2] 35 (0, 0)) := by rw [hW0, blk_if, if_neg (by simp), blk_if, if_pos rfl]
  obtain ⟨⟨s0, s1, s2, s3, s4, s5⟩, _⟩ := six_blkF hs0
  have e0 := toList_mk' nm
  have HV := Lib.hid hV; have HN := Lib.hid hN; have HW0 := Lib.hid hW0; have HB0 := Lib.hid hb0; have HT0 := Lib.hid ht0
  have HFN : Hid (∀ i (h : i < ns.length), ns[i].length ≤ maxLen) := f3
  clear hV hN hW0 hb0 ht0 hf f3 hs0
  generalize hE0 : ownE (hasZ s.types) 8 nm ns ks.length = E0
  have HE0 := Lib.hid hE0
  clear hE0
  go_enter Try.func73, Try.ntmps73
  go_upto_region 1 with fail
  rw [← HW0.out]
  by_cases hk : ks.length = ns.length
  · have tk : ((ks.length : Int) == (ns.length : Int)) = true := by rw [beq_iff_eq]; omega
    have tk2 : ((ks.length : Int) != (ns.length : Int)) = false := by simp; omega
    by_cases hn : nm = []
    · subst hn
      have hf : formB 8 [] ns ks.length = true := by unfold formB kidsN; simp [hk]
      have hE : E0 = fieldE 8 ns := HE0.out.symm.trans (by unfold ownE; rw [if_neg (by omega), hf, if_neg (by simp), if_neg (by omega)])
      rw [fieldE] at hE
      by_cases h8 : 8 < ns.length
      · rw [if_pos h8] at hE
        have h8z : (8 : Int) < (ns.length : Int) := by omega
        have HK := Lib.hid hk; have HE := Lib.hid hE
        clear hk h8 hE hf
        go_wp2
        go_ret
        exact ⟨ret_intZ (by rw [HE.out]; rfl), HB0.out⟩
      · rw [if_neg h8] at hE
        have h8z : ¬ (8 : Int) < (ns.length : Int) := by omega
        have HK := Lib.hid hk
        clear hk
        obtain ⟨v, hv0⟩ : ∃ v, v = E0 := ⟨_, rfl⟩
        have hv : (if namesE (fun _ => false) [] ns ≠ 0 then namesE (fun _ => false) [] ns else if (8 : Int) = 8 ∧ ns.length = 0 then 12 else 0) = v := by rw [hv0, hE]
        have HV2 := Lib.hid hv; have HV0 := Lib.hid hv0
        clear hv h8 hE hf hv0
        go_wp2
        go_loopw [9] (fun kv wr => ∃ i : Nat, OwR w W0 ns kv wr i) (fun kv _ => ns.length - (intOf kv).toNat)
        case atStart => exact ⟨0, rfl, Nat.zero_le _, rfl, fun _ => rfl, HB0.out⟩
        case round =>
          obtain ⟨i, h⟩ := hrel
          obtain rfl := h.slot
          have hi := h.le
          obtain ⟨⟨p0, p1, p2, p3⟩, _⟩ := four_blk ((h.same _).trans HT0.out)
          have hd := Lib.hid h.names
          have H := Lib.hid h
          clear h
          by_cases hlt : i < ns.length
          · have hiz : (i : Int) < (ns.length : Int) := by omega
            have hi0 : (0 : Int) ≤ (i : Int) := by omega
            obtain ⟨g, o, rfl, hg, hc⟩ := name_kp HN.out i hlt
            have c0 := hc wr ((H.out.same g).trans (HB0.out.block g hg))
            have hgd : ns.getD i [] = ns[i] := by simp [List.getD, hlt]
            rw [hgd] at c0
            have CI := RIdent_any ⟨ns[i].toArray⟩ wr (HFN.out i hlt)
            rw [show (⟨ns[i].toArray⟩ : ByteArray).data.toList = ns[i] from rfl] at CI
            have hdr := namesE_drop (tk := fun _ => false) (a := prevN ns i) hlt
            have e1 := toList_mk' ns[i]
            have hpn : prevN ns (i + 1) = ns[i] := by unfold prevN; rw [if_neg (by omega), Nat.add_sub_cancel]; exact hgd
            cases hid : identB ns[i]
            · have hne : namesE (fun _ => false) [] ns = 15 := by rw [hd.out, hdr]; unfold nameE; simp [hid]
              have hv : v = 15 := by rw [← HV2.out, hne]; rfl
              rw [hid] at CI
              have HVV := Lib.hid hv; have HCI := Lib.hid CI
              clear hne hv CI hdr hpn hid hc hgd
              generalize ns[i] = a at *
              go_wp2_with (go_at_call 52; (with_reducible refine HCI.out.mono ?_); rintro e w2 ⟨rfl, rfl⟩)
              go_ret
              exact ⟨ret_intZ (by rw [← HV0.out, HVV.out]; rfl), by first | exact H.out.below | exact below_dNZ H.out.below _⟩
            · rw [hid] at CI
              have HCI := Lib.hid CI
              clear CI
              by_cases hi1 : i = 0
              · have hdd : decide ((0 : Int) < (i : Int)) = false := decide_eq_false (by omega)
                have hde : decide (0 < i) = false := decide_eq_false (by omega)
                have hl := leB_nil hid
                have hd' : namesE (fun _ => false) [] ns = namesE (fun _ => false) (prevN ns (i + 1)) (ns.drop (i + 1)) := by
                  rw [hd.out, hdr, hpn, if_pos (by unfold nameE leB prevN; rw [hid, if_neg (by simp), if_pos hi1, hl]; simp)]
                have HD := Lib.hid hd'
                clear hd' hdr hpn hid hl hc hgd hd hi1
                generalize ns[i] = a at *
                go_wp2_with (go_at_call 52; (with_reducible refine HCI.out.mono ?_); rintro e w2 ⟨rfl, rfl⟩)
                go_quiet (fail)
                go_wp2
                go_roundw
                case rel => exact ⟨i + 1, by go_num, by omega, HD.out, H.out.same, below_dNZ H.out.below _⟩
                case measure => simp [intOf]; omega
              · have hip : (0 : Int) < (i : Int) := by omega
                have hiq : 0 < i := by omega
                have him : (i : Int) - 1 = ((i - 1 : Nat) : Int) := by omega
                have him2 : IntKind.i64.wrap ((i : Int) - 1) = ((i - 1 : Nat) : Int) := by rw [IntKind.wrap_i64]; omega
                have hlt1 : i - 1 < ns.length := by omega
                obtain ⟨g2, o2, e2, hg2, hc2⟩ := name_kp HN.out (i - 1) hlt1
                obtain ⟨rfl, rfl⟩ : g = g2 ∧ o = o2 := by cases e2; exact ⟨rfl, rfl⟩
                have d0 := hc2 wr ((H.out.same g).trans (HB0.out.block g hg))
                have hgp : prevN ns i = ns.getD (i - 1) [] := by unfold prevN; rw [if_neg hi1]
                rw [hgp] at hdr
                have e3 := toList_mk' (ns.getD (i - 1) [])
                have hjz : ((i - 1 : Nat) : Int) < (ns.length : Int) := by omega
                have hj0 : (0 : Int) ≤ ((i - 1 : Nat) : Int) := by omega
                have HPI := Lib.hid hgp; have HID := Lib.hid hid; have HDR := Lib.hid hdr; have HPN := Lib.hid hpn
                clear hid hdr hpn hc hc2 hgd hgp e2
                generalize ns.getD (i - 1) [] = b at *
                cases hl : (Op.bytesLess ns[i] b || ns[i] == b)
                · have hd' : namesE (fun _ => false) [] ns = namesE (fun _ => false) (prevN ns (i + 1)) (ns.drop (i + 1)) := by
                    rw [hd.out, show prevN ns i = b from HPI.out, HDR.out, HPN.out, if_pos (by unfold nameE leB; simp [HID.out, hl])]
                  have HD := Lib.hid hd'
                  clear hd' hd
                  go_wp2_with (go_at_call 52; (with_reducible refine HCI.out.mono ?_); rintro e w2 ⟨rfl, rfl⟩)
                  go_quiet (fail)
                  go_wp2
                  go_roundw
                  case rel => exact ⟨i + 1, by go_num, by omega, HD.out, H.out.same, below_dNZ H.out.below _⟩
                  case measure => simp [intOf]; omega
                · have hne : namesE (fun _ => false) [] ns = 6 := by rw [hd.out, show prevN ns i = b from HPI.out, HDR.out]; unfold nameE leB; simp [HID.out, hl]
                  have hv : v = 6 := by rw [← HV2.out, hne]; rfl
                  have HVV := Lib.hid hv
                  clear hne hv hd
                  go_wp2_with (go_at_call 52; (with_reducible refine HCI.out.mono ?_); rintro e w2 ⟨rfl, rfl⟩)
                  go_quiet (fail)
                  go_wp2
                  go_ret
                  exact ⟨ret_intZ (by rw [← HV0.out, HVV.out]; rfl), by first | exact H.out.below | exact below_dNZ H.out.below _⟩
          · have hiz : ¬ (i : Int) < (ns.length : Int) := by omega
            obtain rfl : i = ns.length := by omega
            have hne : namesE (fun _ => false) [] ns = 0 := by rw [hd.out, List.drop_of_length_le (Nat.le_refl _)]; rfl
            by_cases hn0 : ns.length = 0
            · have hv : v = 12 := by rw [← HV2.out, hne]; simp [hn0]
              have tz : ((ns.length : Int) == 0) = true := by rw [beq_iff_eq]; omega
              have HVV := Lib.hid hv
              clear hne hv hd hn0
              go_wp2
              go_ret
              exact ⟨ret_intZ (by rw [← HV0.out, HVV.out]; rfl), H.out.below⟩
            · have hv : v = 0 := by rw [← HV2.out, hne]; simp [hn0]
              have tz : ((ns.length : Int) == 0) = false := by rw [beq_eq_false_iff_ne]; omega
              have HVV := Lib.hid hv
              clear hne hv hd hn0
              go_wp2
              go_ret
              exact ⟨ret_intZ (by rw [← HV0.out, HVV.out]; rfl), H.out.below⟩
    · have tn : (nm == []) = false := by rw [beq_eq_false_iff_ne]; exact hn
      have hE : E0 = 12 := HE0.out.symm.trans (by unfold ownE; rw [if_neg (by omega), if_pos (by unfold formB; simp [hn])])
      have HE := Lib.hid hE; have HK := Lib.hid hk
      clear hE hk
      go_wp2
      go_ret
      exact ⟨ret_intZ (by rw [HE.out]; rfl), HB0.out⟩
  · have tk : ((ks.length : Int) == (ns.length : Int)) = false := by rw [beq_eq_false_iff_ne]; omega
    have tk2 : ((ks.length : Int) != (ns.length : Int)) = true := by rw [bne_iff_ne]; omega
    have hE : E0 = 12 := HE0.out.symm.trans (by unfold ownE; rw [if_neg (by omega), if_pos (by unfold formB kidsN; simp [hk])])
    have HE := Lib.hid hE; have HK := Lib.hid hk
    clear hE hk
    go_wp2
    go_ret
    exact ⟨ret_intZ (by rw [HE.out]; rfl), HB0.out⟩
set_option maxRecDepth 100000 in
set_option maxHeartbeats 8000000 in
theorem own_9 (s : Sz) (k : Int) (hk0 : k = 9) (nm : List UInt8) (ns : List (List UInt8)) (ks : List Tz) (an ak : Option Addr) (cn ck : Nat) (c : C4) (a1 a2 : Option Addr) (us : List (List UInt8 × C4)) (gs : List (List UInt8 × G6)) (c1 c2 : Nat) (w : World) (hV : SzV w (Any w) s c a1 us a2 gs) (hN : RowV w (Any w) an 1 (ns.map fun n => [str n])) (hl : s.types.length ≤ maxLen) (hf : fitZ (.mk k nm ns ks) = true) :
    Calls Try.prog 73 #[.agg #[.int .i64 c.k, .string c.n, .slice c.an c.ln c.cn, .slice c.ak c.lk c.ck, .slice a1 s.types.length c1, .slice a2 s.sigs.length c2], .agg #[.int .i64 k, .string ⟨nm.toArray⟩, .slice an ns.length cn, .slice ak ks.length ck]] w fun e w' => e = .returned (.int .i64 (ownE (hasZ s.types) k nm ns ks.length)) ∧ Below w.heap.size w w' := by
  subst hk0
  obtain ⟨f1, f2, f3, f4, _⟩ := fitZ_mk hf
  unfold maxLen at f2 f4
  obtain ⟨W0, hW0⟩ : ∃ W0, W0 = (w.alloc (.cells #[.int .i64 c.k, .string c.n, .slice c.an c.ln c.cn, .slice c.ak c.lk c.ck, .slice a1 s.types.length c1, .slice a2 s.sigs.length c2] 35)).alloc (.cells #[.int .i64 9, .string ⟨nm.toArray⟩, .slice an ns.length cn, .slice ak ks.length ck] 31) := ⟨_, rfl⟩
  have hb0 : Below w.heap.size w W0 := by rw [hW0]; exact ((Below.refl _ _).alloc (Nat.le_refl _) _).alloc (by simp) _
  have hz0 : W0.heap.size = w.heap.size + 2 := by rw [hW0]; simp
  have ht0 : W0.heap[w.heap.size + 1]? = some (.cells #[.int .i64 9, .string ⟨nm.toArray⟩, .slice an ns.length cn, .slice ak ks.length ck] 31 (0, 0)) := by rw [hW0, blk_if, if_pos (by simp)]
  obtain ⟨⟨p0, p1, p2, p3⟩, _⟩ := four_blk ht0
  have hs0 : W0.heap[w.heap.size]? = some (.cells #[.int .i64 c.k, .string c.n, .slice c.an c.ln c.cn, .slice c.ak c.lk c.ck, .slice a1 s.types.length c1, .slice a2 s.sigs.length c2] 35 (0, 0)) := by rw [hW0, blk_if, if_neg (by simp), blk_if, if_pos rfl]
  obtain ⟨⟨s0, s1, s2, s3, s4, s5⟩, _⟩ := six_blkF hs0
  have e0 := toList_mk' nm
  have HV := Lib.hid hV; have HN := Lib.hid hN; have HW0 := Lib.hid hW0; have HB0 := Lib.hid hb0; have HT0 := Lib.hid ht0
  have HFN : Hid (∀ i (h : i < ns.length), ns[i].length ≤ maxLen) := f3
  clear hV hN hW0 hb0 ht0 hf f3 hs0
  generalize hE0 : ownE (hasZ s.types) 9 nm ns ks.length = E0
  have HE0 := Lib.hid hE0
  clear hE0
  go_enter Try.func73, Try.ntmps73
  go_upto_region 1 with fail
  rw [← HW0.out]
  by_cases hk : ks.length = 0
  · obtain rfl : ks = [] := List.eq_nil_of_length_eq_zero hk
    by_cases hs : ns.length = 0
    · obtain rfl : ns = [] := List.eq_nil_of_length_eq_zero hs
      have hf : formB 9 nm [] ([] : List Tz).length = true := by unfold formB kidsN; simp
      obtain ⟨hh, hhe⟩ : ∃ hh, hh = hasZ s.types nm := ⟨_, rfl⟩
      have CD := Def_ref (Any w) s nm c a1 a2 us gs c1 c2 W0 (fun g hg => Nat.lt_of_lt_of_le hg HB0.out.size) (HV.out.keep (fun g hg => HB0.out.block g hg)) hl
      rw [← hhe] at CD
      have hE : E0 = if hh = true then 0 else 15 := HE0.out.symm.trans (by
        unfold ownE
        rw [if_neg (by omega), hf, if_neg (by simp), ← hhe]
        cases hh <;> simp [fieldE, namesE])
      have HE := Lib.hid hE; have HCD := Lib.hid CD; have HF := Lib.hid hf; have HK := Lib.hid hk
      clear hE CD hf hk hhe
      cases hh
      · go_wp2_with (go_at_call 87; (with_reducible refine HCD.out.mono ?_); rintro e w2 ⟨ct, rfl, hv2, x2⟩; have HX2 := Lib.hid x2; clear x2 hv2)
        go_ret
        exact ⟨ret_intZ (by rw [HE.out]; rfl), (HB0.out.trans (HX2.out.mono HB0.out.size)).alloc (Nat.le_trans HB0.out.size HX2.out.size) _⟩
      · go_wp2_with (go_at_call 87; (with_reducible refine HCD.out.mono ?_); rintro e w2 ⟨ct, rfl, hv2, x2⟩; have hz2 := x2.size; have hzv : w.heap.size + 1 < w2.heap.size := (by omega); obtain ⟨⟨m0, m1, m2, m3⟩, _⟩ := four_blk ((x2.block (w.heap.size + 1) (by omega)).trans HT0.out); have HX2 := Lib.hid x2; clear x2 hv2)
        go_loop [9] (fun kv => kv = .int .i64 0) (fun _ => 0)
        case atStart => rfl
        case round =>
          obtain rfl := hrel
          go_wp2
          go_ret
          exact ⟨ret_intZ (by rw [HE.out]; rfl), (HB0.out.trans (HX2.out.mono HB0.out.size)).alloc (Nat.le_trans HB0.out.size HX2.out.size) _⟩
    · have ts : ¬ ns = [] := fun e => hs (by rw [e]; rfl)
      have hE : E0 = 12 := HE0.out.symm.trans (by unfold ownE; rw [if_neg (by omega), if_pos (by unfold formB; simp; intros; assumption)])
      have HE := Lib.hid hE; have HK := Lib.hid hk
      clear hE hk
      go_wp2
      go_ret
      exact ⟨ret_intZ (by rw [HE.out]; rfl), HB0.out⟩
  · have tk : ¬ ks = [] := fun e => hk (by rw [e]; rfl)
    have hE : E0 = 12 := HE0.out.symm.trans (by unfold ownE; rw [if_neg (by omega), if_pos (by unfold formB kidsN; simp [hk])])
    have HE := Lib.hid hE; have HK := Lib.hid hk
    clear hE hk
    go_wp2
    go_ret
    exact ⟨ret_intZ (by rw [HE.out]; rfl), HB0.out⟩
end Sp
end Go.Proofs.Yteooafgdmpbjeab
