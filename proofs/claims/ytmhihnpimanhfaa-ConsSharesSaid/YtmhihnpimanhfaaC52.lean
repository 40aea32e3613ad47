/- Node, Open: what a table tells of a number. -/
import Derived.Test.YtmhihnpimanhfaaC51
import Derived.Laws.ResultCell
import Derived.Test.YtmhihnpimanhfaaC34
import Derived.Test.YtmhihnpimanhfaaC48
namespace Go.Proofs.Ytmhihnpimanhfaa
open Go.RowKit
namespace Sp
open Sc
set_option maxRecDepth 100000
theorem flat19 (T : List Kz) : T.flatMap Kz.cells = (T.map Kz.cells).flatten := by rw [List.flatMap_def]
theorem cells19 (T : List Kz) : ∀ x ∈ T.map Kz.cells, x.length = 19 := fun x hx => by obtain ⟨y, _, rfl⟩ := List.mem_map.1 hx; rfl
theorem TabV.at {w : World} {tb rb nb mb sb m : Nat} {ty nu : Value} {T : List Kz} (h : TabV w tb rb nb mb sb m ty nu T) {i : Nat} (hi : i < T.length) : ∃ cap, ty = .slice (some ⟨rb, 0, none⟩) T.length cap ∧ rb < w.heap.size ∧ KeyAt w rb (i * 19) T[i] := by
  rcases h.row with ⟨e, -, -⟩ | ⟨cap, e⟩
  · rw [e] at hi; cases hi
  · have ho := h.own
    rw [e, flat19] at ho
    refine ⟨cap, e, (ho.lt rb rfl).2, fun j v hv => ?_⟩
    have a := ho.cells (g := rb) rfl _ v (flat_at (T.map Kz.cells) (cells19 T) i (by simpa using hi) j v (by simpa using hv))
    have e2 : (⟨rb, 0, none⟩ : Addr).add (i * 19 + j) = ⟨rb, i * 19 + j, none⟩ := by unfold Addr.add; split <;> simp_all
    rw [e2] at a
    exact a
set_option maxHeartbeats 4000000 in
theorem tnode_in (i : Nat) (w : World) (tb rb nb mb sb m : Nat) (ty nu : Value) (T : List Kz) (hT : TabV w tb rb nb mb sb m ty nu T) (hi : i < T.length) :
    Calls Try.prog 31 #[.pointer (some ⟨tb, 0, none⟩), .int .i64 i] w fun e w' => ∃ an cn ak ck, e = .returned (.tuple #[.agg #[.int .i64 T[i].kind, .string ⟨T[i].name.toArray⟩, .slice an T[i].names.length cn, .slice ak T[i].kids.length ck], .bool true]) ∧
      RowV w' (fun g => w.heap.size ≤ g ∧ g < w'.heap.size) an 1 (T[i].names.map fun n => [str n]) ∧ RowV w' (fun g => w.heap.size ≤ g ∧ g < w'.heap.size) ak 1 (T[i].kids.map fun (j : Nat) => [Value.int .i64 (j : Nat)]) ∧ Below w.heap.size w w' := by
  obtain ⟨W0, hW0⟩ : ∃ W0, W0 = w.alloc (.cells nodZ 64) := ⟨_, rfl⟩
  have hz0 : W0.heap.size = w.heap.size + 1 := by rw [hW0]; simp
  have hb0 : Below w.heap.size w W0 := by rw [hW0]; exact (Below.refl _ _).alloc (Nat.le_refl _) _
  have hn0 : W0.heap[w.heap.size]? = some (.cells nodZ 64 (0, 0)) := by rw [hW0]; exact heap_alloc_new w _
  have hT0 := hT.below hb0
  have CH := thas_any i W0 tb rb nb mb sb m ty nu T hT0
  have htr : (decide (0 ≤ (i : Int)) && decide ((i : Int) < (T.length : Nat))) = true := by simp; omega
  rw [htr] at CH
  have hwf := (hT.fit T[i] (List.getElem_mem hi)).toWfK
  have htb := hT0.tlt
  have hti : (i : Int) < (T.length : Int) := by omega
  obtain ⟨cap, rfl, hrb, -⟩ := hT0.at hi
  have HKA : Hid (∀ W, Below W0.heap.size W0 W → KeyAt W rb (i * 19) T[i]) := fun W hW => by obtain ⟨_, _, _, h⟩ := (hT0.below hW).at hi; exact h
  have HWF := Lib.hid hwf; have HCH := Lib.hid CH; have HN0 := Lib.hid hn0; have HB0 := Lib.hid hb0; have HT0 := Lib.hid hT0; have HW0 := Lib.hid hW0
  generalize T[i] = k at *
  clear hwf CH hn0 hb0 hT0 hW0 hT htr
  go_enter Try.func31, Try.ntmps31
  go_upto_region 1 with fail
  rw [show w.alloc (.cells #[.int .i64 0, .string ⟨#[]⟩, .slice none 0 0, .slice none 0 0] 64) = W0 from HW0.out.symm]
  go_upto_region 3 with (go_at_call 59; (refine HCH.out.mono ?_); rintro e w1 ⟨rfl, b1⟩; have hz1 := b1.size; have HB1 := Lib.hid b1; clear b1)
  obtain ⟨⟨t0, -, -, -, -⟩, -⟩ := five_blkF (HT0.out.below HB1.out).box
  go_wp2_with (go_at_call 60; (refine (knode_any k w1 rb (i * 19) (by omega) (HKA.out w1 HB1.out) HWF.out).mono ?_); rintro e w2 ⟨an, cn, ak, ck, rfl, r1, r2, b2⟩; have hz2 := b2.size; obtain ⟨⟨y0, y1, y2, y3⟩, ⟨f0, f1, f2, f3⟩⟩ := four_blk ((b2.block w.heap.size (by omega)).trans ((HB1.out.block w.heap.size (by omega)).trans HN0.out)); have HR1 := Lib.hid r1; have HR2 := Lib.hid r2; have HB2 := Lib.hid b2; clear r1 r2 b2)
  obtain ⟨W2, hW2⟩ : ∃ W2, W2 = (((w2.setCell ⟨w.heap.size, 0, none⟩ (.int .i64 k.kind)).setCell ⟨w.heap.size, 1, none⟩ (.string ⟨k.name.toArray⟩)).setCell ⟨w.heap.size, 2, none⟩ (.slice an k.names.length cn)).setCell ⟨w.heap.size, 3, none⟩ (.slice ak k.kids.length ck) := ⟨_, rfl⟩
  have hx2 : W2.heap[w.heap.size]? = some (.cells #[.int .i64 k.kind, .string ⟨k.name.toArray⟩, .slice an k.names.length cn, .slice ak k.kids.length ck] 64 (0, 0)) := by
    rw [hW2]
    exact set_four ((HB2.out.block w.heap.size (by omega)).trans ((HB1.out.block w.heap.size (by omega)).trans HN0.out))
  have hk2 : Keeps (fun g => g = w.heap.size) w2 W2 := by rw [hW2]; exact ((((Keeps.refl (fun g => g = w.heap.size) _).setCell 0 _ rfl).setCell 1 _ rfl).setCell 2 _ rfl).setCell 3 _ rfl
  rw [← hW2]
  have hl := run_loadVar_row (P := Try.prog) W2 w.heap.size 64 64 _ (0, 0) _ hx2 Try.underlying64 rfl (by kernel_rfl)
  have hz2' := hk2.size
  refine bodyPost_ret (v := .tuple #[.agg #[.int .i64 k.kind, .string ⟨k.name.toArray⟩, .slice an k.names.length cn, .slice ak k.kids.length ck], .bool true]) (by rw [results_cell_tmp rfl]; simp [asAddr, hl]) rfl ?_
  exact ⟨an, cn, ak, ck, rfl, HR1.out.keep (fun g hg => ⟨by have := hg.1; omega, by have := hg.2; omega⟩) (fun g hg => hk2.block g hg.2 (by have := hg.1; omega)), HR2.out.keep (fun g hg => ⟨by have := hg.1; omega, by have := hg.2; omega⟩) (fun g hg => hk2.block g hg.2 (by have := hg.1; omega)),
    HB0.out.trans ((HB1.out.mono (by omega)).trans ((HB2.out.mono (by omega)).trans (hk2.below (by omega) (fun g e => by omega))))⟩
end Sp
end Go.Proofs.Ytmhihnpimanhfaa
namespace Go.Proofs.Ytmhihnpimanhfaa
namespace Sp
open Sc
theorem fitZs_append : ∀ a b : List Tz, fitZs (a ++ b) = (fitZs a && fitZs b)
  | [], b => by simp [fitZs]
  | t :: a, b => by simp only [List.cons_append, fitZs, fitZs_append a b, Bool.and_assoc]
theorem fit_mk {k : Int} {nm : List UInt8} {ns : List (List UInt8)} {ks : List Tz} (h1 : nm.length ≤ 100) (h2 : ns.length ≤ 100) (h3 : ∀ n ∈ ns, n.length ≤ 100) (h4 : ks.length ≤ 100) (h5 : fitZs ks = true) : fitZ (.mk k nm ns ks) = true := by
  rw [fitZ, h5]
  simp only [Bool.and_eq_true, decide_eq_true_eq, List.all_eq_true]
  unfold maxLen
  exact ⟨⟨by omega, ⟨by omega, fun n hn => by have := h3 n hn; omega⟩, by omega⟩, trivial⟩
theorem nameL_len (n : Int) : (nameL n).length ≤ 100 := by
  unfold nameL
  have h : 0 ≤ n % 7 ∧ n % 7 < 7 := by omega
  obtain ⟨k, hk⟩ : ∃ k : Nat, n % 7 = k := ⟨(n % 7).toNat, by omega⟩
  rw [hk]
  have hk7 : k < 7 := by omega
  match k, hk7 with
  | 0, _ => decide
  | 1, _ => decide
  | 2, _ => decide
  | 3, _ => decide
  | 4, _ => decide
  | 5, _ => decide
  | 6, _ => decide
theorem fldN_len (ns : List Int) (i : Nat) : (fldN ns i).length ≤ 100 := by
  unfold fldN
  split
  · exact nameL_len _
  · decide
/-- A record's, a union's parts: few, and such as memory can hold. -/
structure FitR (t : Tz) (i : Nat) : Prop where
  form : ∃ k ms us, t = .mk k [] ms us ∧ ms.length = us.length ∧ ms.length ≤ i ∧ (∀ n ∈ ms, n.length ≤ 100) ∧ fitZs us = true
theorem FitR.put {t x : Tz} {i : Nat} {n : List UInt8} (h : FitR t i) (hn : n.length ≤ 100) (hx : fitZ x = true) : FitR (putT n x t) (i + 1) := by
  obtain ⟨k, ms, us, rfl, h1, h2, h3, h4⟩ := h
  rw [putT]
  split
  · exact ⟨k, ms, us, rfl, h1, by omega, h3, h4⟩
  · have hp := posT_le ms n
    have e := List.take_append_drop (posT ms n) us
    have k1 := fitZs_append (us.take (posT ms n)) (us.drop (posT ms n))
    rw [e, h4] at k1
    have k2 := k1.symm
    rw [Bool.and_eq_true] at k2
    refine ⟨k, _, _, rfl, by simp; omega, by simp; omega, fun m hm => ?_, ?_⟩
    · simp only [List.mem_append, List.mem_singleton] at hm
      rcases hm with (hm | rfl) | hm
      · exact h3 m (List.mem_of_mem_take hm)
      · exact hn
      · exact h3 m (List.mem_of_mem_drop hm)
    · rw [fitZs_append, fitZs_append, k2.1, k2.2]; simp [fitZs, hx]
theorem FitR.fit {t : Tz} {i : Nat} (h : FitR t i) (hi : i ≤ 100) : fitZ t = true := by
  obtain ⟨k, ms, us, rfl, h1, h2, h3, h4⟩ := h
  exact fit_mk (by simp) (by omega) h3 (by omega) h4
theorem treeR_fit (names : List (List UInt8)) (hn : ∀ n ∈ names, n.length ≤ 100) : ∀ (d : Nat) (r : Rw), fitZ (treeR names d r) = true
  | 0, .mk kd n ns ks => by
    have hl : (names.getD (n % names.length).toNat []).length ≤ 100 := by
      rw [List.getD]
      cases h : names[(n % names.length).toNat]? with
      | none => simp
      | some x => exact hn x (List.mem_of_getElem? h)
    rw [treeR]
    split
    · exact fit_mk hl (by simp) (fun n hn => by cases hn) (by simp) rfl
    · exact fit_mk (by simp) (by simp) (fun n hn => by cases hn) (by simp) rfl
  | d + 1, .mk kd n ns ks => by
    have hl : (names.getD (n % names.length).toNat []).length ≤ 100 := by
      rw [List.getD]
      cases h : names[(n % names.length).toNat]? with
      | none => simp
      | some x => exact hn x (List.mem_of_getElem? h)
    have h1 := topK_rng names.length (d + 1) kd
    obtain ⟨k, hk⟩ : ∃ k, topK names.length (d + 1) kd = k := ⟨_, rfl⟩
    have ih := fun r => treeR_fit names hn d r
    rw [hk] at h1
    by_cases h9 : k = 9
    · rw [treeR_name _ _ _ _ _ _ (hk.trans h9)]
      exact fit_mk hl (by simp) (fun n hn => by cases hn) (by simp) rfl
    · by_cases h3 : k ≤ 3
      · rw [treeR_leaf _ _ _ _ _ _ (by rw [hk]; exact h3)]
        exact fit_mk (by simp) (by simp) (fun n hn => by cases hn) (by simp) rfl
      · by_cases h6 : k ≤ 6
        · rw [treeR_kid _ _ _ _ _ _ k hk (by omega)]
          split
          · exact ih _
          · exact fit_mk (by simp) (by simp) (fun n hn => by cases hn) (by simp) (by rw [fitZs, ih]; rfl)
        · rw [treeR_recT _ _ _ _ _ _ k hk (by omega)]
          have hf : fldM k ns ≤ 4 := by unfold fldM; split <;> omega
          have key : ∀ i, FitR (recT names d kd n ns ks k i) i := by
            intro i
            induction i with
            | zero => exact ⟨k, [], [], rfl, rfl, Nat.le_refl _, (fun n hn => by cases hn), rfl⟩
            | succ i ihh => rw [recT_succ]; exact ihh.put (fldN_len ns i) (ih _)
          exact (key (fldM k ns)).fit (by omega)
end Sp
end Go.Proofs.Ytmhihnpimanhfaa
namespace Go.Proofs.Ytmhihnpimanhfaa
namespace Sp
open Sc
theorem shortZs_append : ∀ a b : List Tz, shortZs (a ++ b) = (shortZs a && shortZs b)
  | [], b => by simp [shortZs]
  | t :: a, b => by simp only [List.cons_append, shortZs, shortZs_append a b, Bool.and_assoc]
theorem short_mk {k : Int} {nm : List UInt8} {ns : List (List UInt8)} {ks : List Tz} (h1 : nm.length ≤ 100) (_h2 : ns.length ≤ 100) (h3 : ∀ n ∈ ns, n.length ≤ 100) (_h4 : ks.length ≤ 100) (h5 : shortZs ks = true) : shortZ (.mk k nm ns ks) = true := by
  rw [shortZ, h5]
  simp only [Bool.and_eq_true, decide_eq_true_eq, List.all_eq_true]
  exact ⟨⟨by omega, fun n hn => by have := h3 n hn; omega⟩, trivial⟩
/-- A record's, a union's parts: few, and such as memory can hold. -/
structure ShoR (t : Tz) (i : Nat) : Prop where
  form : ∃ k ms us, t = .mk k [] ms us ∧ ms.length = us.length ∧ ms.length ≤ i ∧ (∀ n ∈ ms, n.length ≤ 100) ∧ shortZs us = true
theorem ShoR.put {t x : Tz} {i : Nat} {n : List UInt8} (h : ShoR t i) (hn : n.length ≤ 100) (hx : shortZ x = true) : ShoR (putT n x t) (i + 1) := by
  obtain ⟨k, ms, us, rfl, h1, h2, h3, h4⟩ := h
  rw [putT]
  split
  · exact ⟨k, ms, us, rfl, h1, by omega, h3, h4⟩
  · have hp := posT_le ms n
    have e := List.take_append_drop (posT ms n) us
    have k1 := shortZs_append (us.take (posT ms n)) (us.drop (posT ms n))
    rw [e, h4] at k1
    have k2 := k1.symm
    rw [Bool.and_eq_true] at k2
    refine ⟨k, _, _, rfl, by simp; omega, by simp; omega, fun m hm => ?_, ?_⟩
    · simp only [List.mem_append, List.mem_singleton] at hm
      rcases hm with (hm | rfl) | hm
      · exact h3 m (List.mem_of_mem_take hm)
      · exact hn
      · exact h3 m (List.mem_of_mem_drop hm)
    · rw [shortZs_append, shortZs_append, k2.1, k2.2]; simp [shortZs, hx]
theorem ShoR.short {t : Tz} {i : Nat} (h : ShoR t i) (hi : i ≤ 100) : shortZ t = true := by
  obtain ⟨k, ms, us, rfl, h1, h2, h3, h4⟩ := h
  exact short_mk (by simp) (by omega) h3 (by omega) h4
theorem treeR_short (names : List (List UInt8)) (hn : ∀ n ∈ names, n.length ≤ 100) : ∀ (d : Nat) (r : Rw), shortZ (treeR names d r) = true
  | 0, .mk kd n ns ks => by
    have hl : (names.getD (n % names.length).toNat []).length ≤ 100 := by
      rw [List.getD]
      cases h : names[(n % names.length).toNat]? with
      | none => simp
      | some x => exact hn x (List.mem_of_getElem? h)
    rw [treeR]
    split
    · exact short_mk hl (by simp) (fun n hn => by cases hn) (by simp) rfl
    · exact short_mk (by simp) (by simp) (fun n hn => by cases hn) (by simp) rfl
  | d + 1, .mk kd n ns ks => by
    have hl : (names.getD (n % names.length).toNat []).length ≤ 100 := by
      rw [List.getD]
      cases h : names[(n % names.length).toNat]? with
      | none => simp
      | some x => exact hn x (List.mem_of_getElem? h)
    have h1 := topK_rng names.length (d + 1) kd
    obtain ⟨k, hk⟩ : ∃ k, topK names.length (d + 1) kd = k := ⟨_, rfl⟩
    have ih := fun r => treeR_short names hn d r
    rw [hk] at h1
    by_cases h9 : k = 9
    · rw [treeR_name _ _ _ _ _ _ (hk.trans h9)]
      exact short_mk hl (by simp) (fun n hn => by cases hn) (by simp) rfl
    · by_cases h3 : k ≤ 3
      · rw [treeR_leaf _ _ _ _ _ _ (by rw [hk]; exact h3)]
        exact short_mk (by simp) (by simp) (fun n hn => by cases hn) (by simp) rfl
      · by_cases h6 : k ≤ 6
        · rw [treeR_kid _ _ _ _ _ _ k hk (by omega)]
          split
          · exact ih _
          · exact short_mk (by simp) (by simp) (fun n hn => by cases hn) (by simp) (by rw [shortZs, ih]; rfl)
        · rw [treeR_recT _ _ _ _ _ _ k hk (by omega)]
          have hf : fldM k ns ≤ 4 := by unfold fldM; split <;> omega
          have key : ∀ i, ShoR (recT names d kd n ns ks k i) i := by
            intro i
            induction i with
            | zero => exact ⟨k, [], [], rfl, rfl, Nat.le_refl _, (fun n hn => by cases hn), rfl⟩
            | succ i ihh => rw [recT_succ]; exact ihh.put (fldN_len ns i) (ih _)
          exact (key (fldM k ns)).short (by omega)
end Sp
end Go.Proofs.Ytmhihnpimanhfaa
