/- A region that draws its order, its operations' answers told as one function of what is chosen; guarded operations, calls. No program is named here. -/
import Derived.Test.YtdophmlnmbcjlaaT22
import Derived.Test.YtdophmlnmbcjlaaT18
import Derived.Deep.QuietTactic
import Derived.BigQuiet
import Derived.Deep.RegionHeld3
namespace Go.Proofs.Ytdophmlnmbcjlaa
namespace Sp
variable {P : Program} {ops : Array Oper} {Q : Exit → Act → World → Prop}
theorem wanted_none {o : Oper} {y : Nat → Option Bool} (hg : o.guard = none) : Region.wanted o y = true := by unfold Region.wanted; rw [hg]
theorem wpOp_wpG {i : Nat} {o : Oper} {a : Act} {w : World} {K : Act → World → Prop} (hi : ops[i]? = some o) (hg : Region.wanted o (yielded ops a.tmps) = true) (h : o.wp P a w K Q) : wpOp P ops Q i K a w := by
  unfold wpOp
  rw [hi]
  simp only [hg, if_true]
  exact .inl h
structure QJ {α : Type} (vals : α → Nat → Value) (M : α → Array Bool → World → Prop) (ops : Array Oper) (a0 : Act) (listed : Array Bool) (b : Act) (v : World) : Prop where
  size : listed.size = ops.size
  closed : Closed ops listed
  rest : ∃ x, Fr ops a0 (vals x) listed b ∧ M x listed v
section
variable {α : Type} {vals : α → Nat → Value} {M : α → Array Bool → World → Prop} {a0 b : Act} {listed : Array Bool} {v : World} {i : Nat} {o : Oper} {x : α}
/-- An operation that only reads. -/
theorem QJ.quiet (hz : listed.size = ops.size) (hC : Closed ops listed) (hi : i ∈ Region.ready .any ops listed) (hF : Fr ops a0 (vals x) listed b) (hs : Slots ops a0.tmps.size) (ho : ops[i]? = some o) (hg : Region.wanted o (yielded ops b.tmps) = true) (hM : M x (listed.setIfInBounds i true) v)
    (hr : (execOp b.eval o).run P v = .ok (.value (vals x i)) v) : wpOp P ops Q i (fun b' v' => QJ vals M ops a0 (listed.setIfInBounds i true) b' v') b v := by
  refine wpOp_wpG ho hg ?_
  unfold Oper.wp
  rw [hr]
  exact ⟨by simp [hz], hC.put hi, x, hF.put hs hz ho, hM⟩
/-- One that makes memory. -/
theorem QJ.make {v' : World} {x' : α} (hz : listed.size = ops.size) (hC : Closed ops listed) (hi : i ∈ Region.ready .any ops listed) (hF : Fr ops a0 (vals x) listed b) (hs : Slots ops a0.tmps.size) (ho : ops[i]? = some o) (hg : Region.wanted o (yielded ops b.tmps) = true) (hx : ∀ j, listed.getD j false = true → vals x' j = vals x j) (hM : M x' (listed.setIfInBounds i true) v')
    (hr : (execOp b.eval o).run P v = .ok (.value (vals x' i)) v') : wpOp P ops Q i (fun b' v' => QJ vals M ops a0 (listed.setIfInBounds i true) b' v') b v := by
  refine wpOp_wpG ho hg ?_
  unfold Oper.wp
  rw [hr]
  exact ⟨by simp [hz], hC.put hi, x', (hF.congr hx).put hs hz ho, hM⟩
/-- A call. -/
theorem QJ.call {f : FuncId} {args : Array Value} {R : Ending → World → Prop} (hz : listed.size = ops.size) (hC : Closed ops listed) (hi : i ∈ Region.ready .any ops listed) (hF : Fr ops a0 (vals x) listed b) (hs : Slots ops a0.tmps.size) (ho : ops[i]? = some o) (hg : Region.wanted o (yielded ops b.tmps) = true)
    (hr : (execOp b.eval o).run P v = .ok (.enter f args) v) (hR : Calls P f args v R) (hK : ∀ e w', R e w' → ∃ x', e = .returned (vals x' i) ∧ (∀ j, listed.getD j false = true → vals x' j = vals x j) ∧ M x' (listed.setIfInBounds i true) w') : wpOp P ops Q i (fun b' v' => QJ vals M ops a0 (listed.setIfInBounds i true) b' v') b v := by
  refine wpOp_wpG ho hg ?_
  unfold Oper.wp
  rw [hr, Oper.upon_enter]
  refine hR.mono fun e w' h => ?_
  obtain ⟨x', rfl, hx, hM⟩ := hK e w' h
  exact ⟨by simp [hz], hC.put hi, x', (hF.congr hx).put hs hz ho, hM⟩
end
end Sp
end Go.Proofs.Ytdophmlnmbcjlaa
namespace Go.Proofs.Ytdophmlnmbcjlaa
open Go.RowKit
namespace Sp
open Sc
set_option maxHeartbeats 400000 in
theorem within3_any (a n : Int) (w : World) (hn : 0 < n) (hn2 : n ≤ 1000000) (h1 : -9223372036854775808 ≤ a) (h2 : a ≤ 9223372036854775807) :
    Calls Try.prog 30 #[.int .i64 a, .int .i64 n] w fun e w' => e = .returned (.int .i64 (a % n)) ∧ w = w' := by
  have hb1 := Int.emod_nonneg a (show n ≠ 0 by omega)
  have hb2 := Int.emod_lt_of_pos a hn
  by_cases h0 : 0 ≤ a
  · go_enter Try.func30, Try.ntmps30
    go_wp2
    go_ret
    exact ⟨rfl, rfl⟩
  · have ht : a.tmod n = a % n - if 0 ≤ a ∨ n ∣ a then 0 else (n.natAbs : Int) := by rw [Int.tmod_eq_emod]; split <;> rfl
    by_cases hd : n ∣ a
    · have e0 : a % n = 0 := Int.emod_eq_zero_of_dvd hd
      rw [if_pos (Or.inr hd), e0] at ht
      rw [e0]
      clear hd e0
      have l1 : 0 ≤ a.tmod n := by omega
      have l2 : a.tmod n ≤ 0 := by omega
      clear hb1 hb2
      have HT := Lib.hid ht; clear ht
      go_enter Try.func30, Try.ntmps30
      go_wp2
      go_ret
      exact ⟨ret_intZ (by have := HT.out; omega), rfl⟩
    · rw [if_neg (fun h => h.elim h0 hd)] at ht
      have e0 : 0 < a % n := by
        rcases Int.lt_or_eq_of_le hb1 with h | h
        · exact h
        · exact absurd (Int.dvd_of_emod_eq_zero h.symm) hd
      have l1 : a.tmod n < 0 := by omega
      have l2 : -n < a.tmod n := by omega
      have l3 : a.tmod n + n = a % n := by omega
      clear hb1 hb2 ht hd e0
      have HT := Lib.hid l3; clear l3
      go_enter Try.func30, Try.ntmps30
      go_wp2
      go_ret
      exact ⟨ret_intZ (by have := HT.out; omega), rfl⟩
/-- within, its answer known. -/
theorem within3_is (a n k : Int) (w : World) (hn : 0 < n) (hn2 : n ≤ 1000000) (h1 : -9223372036854775808 ≤ a) (h2 : a ≤ 9223372036854775807) (hk : a % n = k) :
    Calls Try.prog 30 #[.int .i64 a, .int .i64 n] w fun e w' => e = .returned (.int .i64 k) ∧ w = w' := hk ▸ within3_any a n w hn hn2 h1 h2
def nameW : List (List UInt8) := [[97], [98], [99], [110, 97, 109, 101], [110], [73, 110, 116], [116, 121, 112, 101]]
/-- One of a few names. -/
def nameL (n : Int) : List UInt8 := nameW.getD (n % 7).toNat []
theorem nameW_at (k : Nat) (hk : k < 7) : ([.string ⟨#[97]⟩, .string ⟨#[98]⟩, .string ⟨#[99]⟩, .string ⟨#[110, 97, 109, 101]⟩, .string ⟨#[110]⟩, .string ⟨#[73, 110, 116]⟩, .string ⟨#[116, 121, 112, 101]⟩] : List Value)[k]? = some (.string ⟨(nameW.getD k []).toArray⟩) := by
  match k, hk with
  | 0, _ => rfl
  | 1, _ => rfl
  | 2, _ => rfl
  | 3, _ => rfl
  | 4, _ => rfl
  | 5, _ => rfl
  | 6, _ => rfl
set_option maxRecDepth 100000 in
set_option maxHeartbeats 1000000 in
theorem Name3_any (n : Int) (w : World) (h : I64 n) :
    Calls Try.prog 32 #[.int .i64 n] w fun e w' => e = .returned (.string ⟨(nameL n).toArray⟩) ∧ Below w.heap.size w w' := by
  obtain ⟨k, hk, hk7⟩ : ∃ k : Nat, n % 7 = k ∧ k < 7 := ⟨(n % 7).toNat, by omega, by omega⟩
  have e : nameL n = nameW.getD k [] := by unfold nameL; rw [hk]; rfl
  have hx := nameW_at k hk7
  rw [e]
  generalize nameW.getD k [] = x at *
  have hx' : ∀ h : k < ([.string ⟨#[97]⟩, .string ⟨#[98]⟩, .string ⟨#[99]⟩, .string ⟨#[110, 97, 109, 101]⟩, .string ⟨#[110]⟩, .string ⟨#[73, 110, 116]⟩, .string ⟨#[116, 121, 112, 101]⟩] : List Value).length, ([.string ⟨#[97]⟩, .string ⟨#[98]⟩, .string ⟨#[99]⟩, .string ⟨#[110, 97, 109, 101]⟩, .string ⟨#[110]⟩, .string ⟨#[73, 110, 116]⟩, .string ⟨#[116, 121, 112, 101]⟩] : List Value)[k] = .string ⟨x.toArray⟩ := fun h => (List.getElem?_eq_some_iff.1 hx).2
  obtain ⟨h1, h2⟩ := h
  have HK := Lib.hid hk
  clear hk hx e
  go_enter Try.func32, Try.ntmps32
  go_wp2_with (go_at_call 30; (with_reducible refine (within3_is _ _ _ _ (by omega) (by omega) h1 h2 HK.out).mono ?_); rintro e w2 ⟨rfl, rfl⟩)
  go_ret
  exact ⟨rfl, (Below.refl _ _).alloc (Nat.le_refl _) _⟩
/-- One of a Raw's kids; or the Raw itself without kids. -/
def kidR : Rw → Nat → Rw
  | .mk k n _ ks, i => if ks.length = 0 then .mk (wrap64 (n + i)) k [] [] else ks.getD (i % ks.length) default
/-- What a call of kid leaves. -/
def KidP (r : Rw) (w : World) (e : Ending) (w' : World) : Prop := ∃ c : R4, e = .returned (.agg #[.int .i64 c.k, .int .i64 c.n, .slice c.an c.ln c.cn, .slice c.ak c.lk c.ck]) ∧ RwV w' r c ∧ Below w.heap.size w w'
/-- The four cells of a Raw are written. -/
def putR (w : World) (b : Nat) (c : R4) : World :=
  (((w.setCell ⟨b, 0, none⟩ (.int .i64 c.k)).setCell ⟨b, 1, none⟩ (.int .i64 c.n)).setCell ⟨b, 2, none⟩ (.slice c.an c.ln c.cn)).setCell ⟨b, 3, none⟩ (.slice c.ak c.lk c.ck)
theorem putR_only (w : World) (b : Nat) (c : R4) : Only b w (putR w b c) := ((((Only.refl b w).setCell 0 _).setCell 1 _).setCell 2 _).setCell 3 _
theorem putR_at {w : World} {b : Nat} {v0 v1 v2 v3 : Value} {ty : TypeId} {fr : Nat × Nat} (h : w.heap[b]? = some (.cells #[v0, v1, v2, v3] ty fr)) (c : R4) :
    (putR w b c).heap[b]? = some (.cells #[.int .i64 c.k, .int .i64 c.n, .slice c.an c.ln c.cn, .slice c.ak c.lk c.ck] ty fr) := by
  simp [putR, World.setCell, Array.getElem?_modify, h]
set_option maxRecDepth 100000 in
set_option maxHeartbeats 2000000 in
theorem kid_any (r : Rw) (c : R4) (i : Nat) (w : World) (hi : i ≤ 1000) (hV : RwV w r c) :
    Calls Try.prog 31 #[.agg #[.int .i64 c.k, .int .i64 c.n, .slice c.an c.ln c.cn, .slice c.ak c.lk c.ck], .int .i64 i] w (KidP (kidR r i) w) := by
  cases hV with
  | mk k n ns ks an cn ak ck us hk hn hii hln hlk hl ha hb hu =>
    have hk' := hk
    obtain ⟨hk1, hk2⟩ := hk
    obtain ⟨hn1, hn2⟩ := hn
    unfold maxLen at hln hlk
    by_cases h0 : ks.length = 0
    · obtain rfl : ks = [] := List.eq_nil_of_length_eq_zero h0
      obtain rfl : us = [] := List.eq_nil_of_length_eq_zero (by rw [hl]; rfl)
      have e : kidR (.mk k n ns []) i = .mk (wrap64 (n + i)) k [] [] := rfl
      rw [e]
      have hw := wrap64_bd (n + i)
      have HW := Lib.hid hw
      clear e hw hu hb hl ha hii
      go_enter Try.func31, Try.ntmps31
      go_wp2
      refine bodyPost_ret (v := .agg #[.int .i64 (wrap64 (n + i)), .int .i64 k, .slice none 0 0, .slice none 0 0]) (by simp [results, Try.results31, go_sem]) rfl ?_
      exact ⟨⟨wrap64 (n + i), k, none, 0, 0, none, 0, 0⟩, rfl, .mk _ k [] [] none 0 none 0 [] HW.out hk' (fun i h => by cases h) (by decide) (by decide) rfl (.inl rfl) (.inl rfl) (fun i h => by cases h), ((Below.refl _ _).alloc (Nat.le_refl _) _).alloc (by simp) _⟩
    · have hpos : 0 < ks.length := by omega
      obtain ⟨j, hj⟩ : ∃ j, j = i % ks.length := ⟨_, rfl⟩
      have hjl : j < ks.length := hj ▸ Nat.mod_lt i hpos
      have hju : j < us.length := by rw [hl]; exact hjl
      have e : kidR (.mk k n ns ks) i = ks[j] := by show (if ks.length = 0 then _ else ks.getD (i % ks.length) default) = _; rw [if_neg h0, ← hj]; simp [List.getD, List.getElem?_eq_getElem hjl]
      rw [e]
      obtain ⟨g, o, rfl, hg, hc⟩ := kid_at hb j hju
      have hV2 := hu j hjl hju
      have hlz : ((ks.length : Int) == 0) = false := by rw [beq_eq_false_iff_ne]; omega
      have hlz2 : (0 : Int) < (ks.length : Int) := by omega
      have hj0 : (0 : Int) ≤ (j : Int) := by omega
      have hj1 : (j : Int) < (ks.length : Int) := by omega
      have hmod : ((i : Int).tmod (ks.length : Int)) = (j : Int) := by rw [Int.tmod_eq_emod_of_nonneg (by omega), hj]; simp
      have hne : ¬ (ks.length : Int) = 0 := by omega
      have hne1 : ¬ ks.length = 0 := by omega
      have hne2 : ¬ ks = [] := fun h => by rw [h] at hpos; exact Nat.lt_irrefl _ hpos
      have hjn : (j : Int).toNat = j := by simp
      obtain ⟨W0, hW0⟩ : ∃ W0, W0 = (w.alloc (.cells #[.int .i64 k, .int .i64 n, .slice an ns.length cn, .slice (some ⟨g, o, none⟩) ks.length ck] 54)).alloc (.cells #[.int .i64 0, .int .i64 0, .slice none 0 0, .slice none 0 0] 54) := ⟨_, rfl⟩
      have hb0 : Below w.heap.size w W0 := by rw [hW0]; exact ((Below.refl _ _).alloc (Nat.le_refl _) _).alloc (by simp) _
      obtain ⟨q0, q1, q2, q3⟩ := hc W0 hb0
      have hbx : W0.heap[w.heap.size]? = some (.cells #[.int .i64 k, .int .i64 n, .slice an ns.length cn, .slice (some ⟨g, o, none⟩) ks.length ck] 54 (0, 0)) := by rw [hW0, blk_if, if_neg (by simp), blk_if, if_pos rfl]
      obtain ⟨⟨r0, r1, r2, r3⟩, _⟩ := four_blk hbx
      have hrs : W0.heap[w.heap.size + 1]? = some (.cells #[.int .i64 0, .int .i64 0, .slice none 0 0, .slice none 0 0] 54 (0, 0)) := by rw [hW0, blk_if, if_pos (by simp)]
      obtain ⟨⟨t0, t1, t2, t3⟩, ⟨f0, f1, f2, f3⟩⟩ := four_blk hrs
      have hgz : g ≠ w.heap.size + 1 := by omega
      have hgz2 : ¬ w.heap.size + 1 = g := by omega
      have hgz3 : ¬ g = w.heap.size + 1 := by omega
      have HRS := Lib.hid hrs; clear hrs
      have HV2 := Lib.hid hV2; have HB0 := Lib.hid hb0; have HW0 := Lib.hid hW0
      clear hj hV2 hb0 hW0 hbx hu hb ha hii h0 hl e hc
      go_enter Try.func31, Try.ntmps31
      go_wp2_with fail
      rw [← HW0.out]
      go_region_held3 (fun w' => w'.cell? ⟨w.heap.size, 3, none⟩ = some (.slice (some ⟨g, o, none⟩) ks.length ck) ∧ w'.cell? ⟨g, o + j * 4, none⟩ = some (.int .i64 us[j].k) ∧ w'.cell? ⟨g, o + j * 4 + 1, none⟩ = some (.int .i64 us[j].n) ∧
        w'.cell? ⟨g, o + j * 4 + 2, none⟩ = some (.slice us[j].an us[j].ln us[j].cn) ∧ w'.cell? ⟨g, o + j * 4 + 3, none⟩ = some (.slice us[j].ak us[j].lk us[j].ck)) (go_keep) (fail)
      obtain ⟨⟨v0, v1, v2, v3⟩, _⟩ := four_blk (putR_at HRS.out us[j])
      have hbl : Below w.heap.size w (putR W0 (w.heap.size + 1) us[j]).drew := (HB0.out.trans ((putR_only W0 (w.heap.size + 1) us[j]).below (by omega) HB0.out.size)).drew
      have HBL := Lib.hid hbl
      clear hbl t0 t1 t2 t3 q0 q1 q2 q3 r0 r1 r2 r3
      unfold putR at v0 v1 v2 v3
      go_wp2
      refine bodyPost_ret (v := .agg #[.int .i64 us[j].k, .int .i64 us[j].n, .slice us[j].an us[j].ln us[j].cn, .slice us[j].ak us[j].lk us[j].ck]) (by simp [results, Try.results31, go_sem, v0, v1, v2, v3]) rfl ?_
      exact ⟨us[j], rfl, HV2.out.later HBL.out, HBL.out⟩
end Sp
end Go.Proofs.Ytdophmlnmbcjlaa
