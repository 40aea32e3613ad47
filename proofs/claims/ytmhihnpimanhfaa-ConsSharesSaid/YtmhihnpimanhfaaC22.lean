/- What chapter 3's laws share: within, Name, kid. -/
import Derived.Test.YtmhihnpimanhfaaC21
import Derived.Deep.QuietTactic
import Derived.BigQuiet
import Derived.Deep.RegionHeld3
import Derived.Test.YtmhihnpimanhfaaRows
import Derived.Orders
namespace Go.Proofs.Ytmhihnpimanhfaa
open Go.RowKit
namespace Sp
open Sc
set_option maxHeartbeats 400000 in
theorem within3_any (a n : Int) (w : World) (hn : 0 < n) (hn2 : n ≤ 1000000) (h1 : -9223372036854775808 ≤ a) (h2 : a ≤ 9223372036854775807) :
    Calls Try.prog 53 #[.int .i64 a, .int .i64 n] w fun e w' => e = .returned (.int .i64 (a % n)) ∧ w = w' := by
  have hb1 := Int.emod_nonneg a (show n ≠ 0 by omega)
  have hb2 := Int.emod_lt_of_pos a hn
  by_cases h0 : 0 ≤ a
  · go_enter Try.func53, Try.ntmps53
    go_wp2
    go_ret
    exact ⟨rfl, rfl⟩
  · have ht : a.tmod n = a % n - if 0 ≤ a ∨ n ∣ a then 0 else (n.natAbs : Int) := by rw [Int.tmod_eq_emod]; split <;> rfl
    by_cases hd : n ∣ a
    · have e0 : a % n = 0 := Int.emod_eq_zero_of_dvd hd
      rw [if_pos (Or.inr hd), e0] at ht
      rw [e0]
      clear hd e0
      have l1 : 0 ≤ a.tmod n := by omega
      have l2 : a.tmod n ≤ 0 := by omega
      clear hb1 hb2
      have HT := Lib.hid ht; clear ht
      go_enter Try.func53, Try.ntmps53
      go_wp2
      go_ret
      exact ⟨ret_intZ (by have := HT.out; omega), rfl⟩
    · rw [if_neg (fun h => h.elim h0 hd)] at ht
      have e0 : 0 < a % n := by
        rcases Int.lt_or_eq_of_le hb1 with h | h
        · exact h
        · exact absurd (Int.dvd_of_emod_eq_zero h.symm) hd
      have l1 : a.tmod n < 0 := by omega
      have l2 : -n < a.tmod n := by omega
      have l3 : a.tmod n + n = a % n := by omega
      clear hb1 hb2 ht hd e0
      have HT := Lib.hid l3; clear l3
      go_enter Try.func53, Try.ntmps53
      go_wp2
      go_ret
      exact ⟨ret_intZ (by have := HT.out; omega), rfl⟩
/-- within, its answer known. -/
theorem within3_is (a n k : Int) (w : World) (hn : 0 < n) (hn2 : n ≤ 1000000) (h1 : -9223372036854775808 ≤ a) (h2 : a ≤ 9223372036854775807) (hk : a % n = k) :
    Calls Try.prog 53 #[.int .i64 a, .int .i64 n] w fun e w' => e = .returned (.int .i64 k) ∧ w = w' := hk ▸ within3_any a n w hn hn2 h1 h2
def nameW : List (List UInt8) := [[97], [98], [99], [110, 97, 109, 101], [110], [73, 110, 116], [116, 121, 112, 101]]
/-- One of a few names. -/
def nameL (n : Int) : List UInt8 := nameW.getD (n % 7).toNat []
theorem nameW_at (k : Nat) (hk : k < 7) : ([.string ⟨#[97]⟩, .string ⟨#[98]⟩, .string ⟨#[99]⟩, .string ⟨#[110, 97, 109, 101]⟩, .string ⟨#[110]⟩, .string ⟨#[73, 110, 116]⟩, .string ⟨#[116, 121, 112, 101]⟩] : List Value)[k]? = some (.string ⟨(nameW.getD k []).toArray⟩) := by
  match k, hk with
  | 0, _ => rfl
  | 1, _ => rfl
  | 2, _ => rfl
  | 3, _ => rfl
  | 4, _ => rfl
  | 5, _ => rfl
  | 6, _ => rfl
set_option maxRecDepth 100000 in
set_option maxHeartbeats 1000000 in
theorem Name3_any (n : Int) (w : World) (h : I64 n) :
    Calls Try.prog 55 #[.int .i64 n] w fun e w' => e = .returned (.string ⟨(nameL n).toArray⟩) ∧ Below w.heap.size w w' := by
  obtain ⟨k, hk, hk7⟩ : ∃ k : Nat, n % 7 = k ∧ k < 7 := ⟨(n % 7).toNat, by omega, by omega⟩
  have e : nameL n = nameW.getD k [] := by unfold nameL; rw [hk]; rfl
  have hx := nameW_at k hk7
  rw [e]
  generalize nameW.getD k [] = x at *
  have hx' : ∀ h : k < ([.string ⟨#[97]⟩, .string ⟨#[98]⟩, .string ⟨#[99]⟩, .string ⟨#[110, 97, 109, 101]⟩, .string ⟨#[110]⟩, .string ⟨#[73, 110, 116]⟩, .string ⟨#[116, 121, 112, 101]⟩] : List Value).length, ([.string ⟨#[97]⟩, .string ⟨#[98]⟩, .string ⟨#[99]⟩, .string ⟨#[110, 97, 109, 101]⟩, .string ⟨#[110]⟩, .string ⟨#[73, 110, 116]⟩, .string ⟨#[116, 121, 112, 101]⟩] : List Value)[k] = .string ⟨x.toArray⟩ := fun h => (List.getElem?_eq_some_iff.1 hx).2
  obtain ⟨h1, h2⟩ := h
  have HK := Lib.hid hk
  clear hk hx e
  go_enter Try.func55, Try.ntmps55
  go_wp2_with (go_at_call 53; (with_reducible refine (within3_is _ _ _ _ (by omega) (by omega) h1 h2 HK.out).mono ?_); rintro e w2 ⟨rfl, rfl⟩)
  go_ret
  exact ⟨rfl, (Below.refl _ _).alloc (Nat.le_refl _) _⟩
/-- One of a Raw's kids; or the Raw itself without kids. -/
def kidR : Rw → Nat → Rw
  | .mk k n _ ks, i => if ks.length = 0 then .mk (wrap64 (n + i)) k [] [] else ks.getD (i % ks.length) default
/-- What a call of kid leaves. -/
def KidP (r : Rw) (w : World) (e : Ending) (w' : World) : Prop := ∃ c : R4, e = .returned (.agg #[.int .i64 c.k, .int .i64 c.n, .slice c.an c.ln c.cn, .slice c.ak c.lk c.ck]) ∧ RwV w' r c ∧ Below w.heap.size w w'
/-- The four cells of a Raw are written. -/
def putR (w : World) (b : Nat) (c : R4) : World :=
  (((w.setCell ⟨b, 0, none⟩ (.int .i64 c.k)).setCell ⟨b, 1, none⟩ (.int .i64 c.n)).setCell ⟨b, 2, none⟩ (.slice c.an c.ln c.cn)).setCell ⟨b, 3, none⟩ (.slice c.ak c.lk c.ck)
theorem putR_only (w : World) (b : Nat) (c : R4) : Only b w (putR w b c) := ((((Only.refl b w).setCell 0 _).setCell 1 _).setCell 2 _).setCell 3 _
theorem putR_at {w : World} {b : Nat} {v0 v1 v2 v3 : Value} {ty : TypeId} {fr : Nat × Nat} (h : w.heap[b]? = some (.cells #[v0, v1, v2, v3] ty fr)) (c : R4) :
    (putR w b c).heap[b]? = some (.cells #[.int .i64 c.k, .int .i64 c.n, .slice c.an c.ln c.cn, .slice c.ak c.lk c.ck] ty fr) := by
  simp [putR, World.setCell, Array.getElem?_modify, h]
set_option maxRecDepth 100000 in
set_option maxHeartbeats 2000000 in
theorem kid_any (r : Rw) (c : R4) (i : Nat) (w : World) (hi : i ≤ 1000) (hV : RwV w r c) :
    Calls Try.prog 54 #[.agg #[.int .i64 c.k, .int .i64 c.n, .slice c.an c.ln c.cn, .slice c.ak c.lk c.ck], .int .i64 i] w (KidP (kidR r i) w) := by
  cases hV with
  | mk k n ns ks an cn ak ck us hk hn hii hln hlk hl ha hb hu =>
    have hk' := hk
    obtain ⟨hk1, hk2⟩ := hk
    obtain ⟨hn1, hn2⟩ := hn
    unfold maxLen at hln hlk
    by_cases h0 : ks.length = 0
    · obtain rfl : ks = [] := List.eq_nil_of_length_eq_zero h0
      obtain rfl : us = [] := List.eq_nil_of_length_eq_zero (by rw [hl]; rfl)
      have e : kidR (.mk k n ns []) i = .mk (wrap64 (n + i)) k [] [] := rfl
      rw [e]
      have hw := wrap64_bd (n + i)
      have HW := Lib.hid hw
      clear e hw hu hb hl ha hii
      go_enter Try.func54, Try.ntmps54
      go_wp2
      refine bodyPost_ret (v := .agg #[.int .i64 (wrap64 (n + i)), .int .i64 k, .slice none 0 0, .slice none 0 0]) (by simp [results, Try.results54, go_sem]) rfl ?_
      exact ⟨⟨wrap64 (n + i), k, none, 0, 0, none, 0, 0⟩, rfl, .mk _ k [] [] none 0 none 0 [] HW.out hk' (fun i h => by cases h) (by decide) (by decide) rfl (.inl rfl) (.inl rfl) (fun i h => by cases h), ((Below.refl _ _).alloc (Nat.le_refl _) _).alloc (by simp) _⟩
    · have hpos : 0 < ks.length := by omega
      obtain ⟨j, hj⟩ : ∃ j, j = i % ks.length := ⟨_, rfl⟩
      have hjl : j < ks.length := hj ▸ Nat.mod_lt i hpos
      have hju : j < us.length := by rw [hl]; exact hjl
      have e : kidR (.mk k n ns ks) i = ks[j] := by show (if ks.length = 0 then _ else ks.getD (i % ks.length) default) = _; rw [if_neg h0, ← hj]; simp [List.getD, List.getElem?_eq_getElem hjl]
      rw [e]
      obtain ⟨g, o, rfl, hg, hc⟩ := kid_at hb j hju
      have hV2 := hu j hjl hju
      have hlz : ((ks.length : Int) == 0) = false := by rw [beq_eq_false_iff_ne]; omega
      have hlz2 : (0 : Int) < (ks.length : Int) := by omega
      have hj0 : (0 : Int) ≤ (j : Int) := by omega
      have hj1 : (j : Int) < (ks.length : Int) := by omega
      have hmod : ((i : Int).tmod (ks.length : Int)) = (j : Int) := by rw [Int.tmod_eq_emod_of_nonneg (by omega), hj]; simp
      have hne : ¬ (ks.length : Int) = 0 := by omega
      have hne1 : ¬ ks.length = 0 := by omega
      have hne2 : ¬ ks = [] := fun h => by rw [h] at hpos; exact Nat.lt_irrefl _ hpos
      have hjn : (j : Int).toNat = j := by simp
      obtain ⟨W0, hW0⟩ : ∃ W0, W0 = (w.alloc (.cells #[.int .i64 k, .int .i64 n, .slice an ns.length cn, .slice (some ⟨g, o, none⟩) ks.length ck] 33)).alloc (.cells #[.int .i64 0, .int .i64 0, .slice none 0 0, .slice none 0 0] 33) := ⟨_, rfl⟩
      have hb0 : Below w.heap.size w W0 := by rw [hW0]; exact ((Below.refl _ _).alloc (Nat.le_refl _) _).alloc (by simp) _
      obtain ⟨q0, q1, q2, q3⟩ := hc W0 hb0
      have hbx : W0.heap[w.heap.size]? = some (.cells #[.int .i64 k, .int .i64 n, .slice an ns.length cn, .slice (some ⟨g, o, none⟩) ks.length ck] 33 (0, 0)) := by rw [hW0, blk_if, if_neg (by simp), blk_if, if_pos rfl]
      obtain ⟨⟨r0, r1, r2, r3⟩, _⟩ := four_blk hbx
      have hrs : W0.heap[w.heap.size + 1]? = some (.cells #[.int .i64 0, .int .i64 0, .slice none 0 0, .slice none 0 0] 33 (0, 0)) := by rw [hW0, blk_if, if_pos (by simp)]
      obtain ⟨⟨t0, t1, t2, t3⟩, ⟨f0, f1, f2, f3⟩⟩ := four_blk hrs
      have hgz : g ≠ w.heap.size + 1 := by omega
      have hgz2 : ¬ w.heap.size + 1 = g := by omega
      have hgz3 : ¬ g = w.heap.size + 1 := by omega
      have HRS := Lib.hid hrs; clear hrs
      have HV2 := Lib.hid hV2; have HB0 := Lib.hid hb0; have HW0 := Lib.hid hW0
      clear hj hV2 hb0 hW0 hbx hu hb ha hii h0 hl e hc
      go_enter Try.func54, Try.ntmps54
      go_wp2_with fail
      rw [← HW0.out]
      go_region_held3 (fun w' => w'.cell? ⟨w.heap.size, 3, none⟩ = some (.slice (some ⟨g, o, none⟩) ks.length ck) ∧ w'.cell? ⟨g, o + j * 4, none⟩ = some (.int .i64 us[j].k) ∧ w'.cell? ⟨g, o + j * 4 + 1, none⟩ = some (.int .i64 us[j].n) ∧
        w'.cell? ⟨g, o + j * 4 + 2, none⟩ = some (.slice us[j].an us[j].ln us[j].cn) ∧ w'.cell? ⟨g, o + j * 4 + 3, none⟩ = some (.slice us[j].ak us[j].lk us[j].ck)) (go_keep) (fail)
      obtain ⟨⟨v0, v1, v2, v3⟩, _⟩ := four_blk (putR_at HRS.out us[j])
      have hbl : Below w.heap.size w (putR W0 (w.heap.size + 1) us[j]).drew := (HB0.out.trans ((putR_only W0 (w.heap.size + 1) us[j]).below (by omega) HB0.out.size)).drew
      have HBL := Lib.hid hbl
      clear hbl t0 t1 t2 t3 q0 q1 q2 q3 r0 r1 r2 r3
      unfold putR at v0 v1 v2 v3
      go_wp2
      refine bodyPost_ret (v := .agg #[.int .i64 us[j].k, .int .i64 us[j].n, .slice us[j].an us[j].ln us[j].cn, .slice us[j].ak us[j].lk us[j].ck]) (by simp [results, Try.results54, go_sem, v0, v1, v2, v3]) rfl ?_
      exact ⟨us[j], rfl, HV2.out.later HBL.out, HBL.out⟩
end Sp
end Go.Proofs.Ytmhihnpimanhfaa
namespace Go.Proofs.Ytmhihnpimanhfaa
namespace Sp
variable {P : Program} {ops : Array Oper} {Q : Exit → Act → World → Prop} {md : Region.Mode}
/-- How many have not come up. -/
def openN (ops : Array Oper) (listed : Array Bool) : Nat := ((List.range ops.size).filter fun j => !listed.getD j true).length
theorem filter_leD {α : Type} (p q : α → Bool) (h : ∀ x, q x = true → p x = true) : ∀ l : List α, (l.filter q).length ≤ (l.filter p).length
  | [] => Nat.le_refl _
  | x :: l => by
    have ih := filter_leD p q h l
    rw [List.filter_cons, List.filter_cons]
    cases hq : q x
    · rw [if_neg (by simp)]; split <;> simp <;> omega
    · rw [if_pos rfl, if_pos (h x hq)]; simp; exact ih
theorem filter_ltD {α : Type} (p q : α → Bool) (h : ∀ x, q x = true → p x = true) (y : α) (hp : p y = true) (hq : q y = false) : ∀ l : List α, y ∈ l → (l.filter q).length < (l.filter p).length
  | x :: l, hm => by
    rw [List.filter_cons, List.filter_cons]
    rcases List.mem_cons.1 hm with e | e
    · subst e
      rw [if_neg (by rw [hq]; decide), if_pos hp]
      have := filter_leD p q h l
      simp; omega
    · have ih := filter_ltD p q h y hp hq l e
      cases hqx : q x
      · rw [if_neg (by simp)]; split <;> simp <;> omega
      · rw [if_pos rfl, if_pos (h x hqx)]; simp; exact ih
theorem getD_setD {listed : Array Bool} {i j : Nat} (h : (listed.setIfInBounds i true).getD j true = false) : listed.getD j true = false ∧ j ≠ i := by
  simp only [Array.getD_eq_getD_getElem?, Array.getElem?_setIfInBounds] at h ⊢
  by_cases e : i = j
  · subst e
    rw [if_pos rfl] at h
    split at h <;> simp_all
  · rw [if_neg e] at h
    exact ⟨h, fun e' => e e'.symm⟩
theorem openN_set {listed : Array Bool} {i : Nat} (hi : i < ops.size) (h : listed.getD i true = false) : openN ops (listed.setIfInBounds i true) < openN ops listed := by
  refine filter_ltD _ _ (fun x hx => ?_) i ?_ ?_ _ (List.mem_range.2 hi)
  · simp only [Bool.not_eq_true'] at hx ⊢
    exact (getD_setD hx).1
  · simp only [h, Bool.not_false]
  · cases hh : (listed.setIfInBounds i true).getD i true
    · exact absurd rfl (getD_setD hh).2
    · rfl
theorem wpAny_inv (J : Array Bool → Act → World → Prop)
    (step : ∀ listed a w i, J listed a w → i ∈ Region.ready md ops listed → wpOp P ops Q i (fun a' w' => J (listed.setIfInBounds i true) a' w') a w)
    (done : ∀ listed a w, J listed a w → Region.ready md ops listed = [] → Q .normal a w) :
    ∀ fuel listed a w, openN ops listed ≤ fuel → J listed a w → wpAny P md ops Q fuel listed a w
  | 0, listed, a, w, hf, h => by
    have hr : Region.ready md ops listed = [] := by
      apply List.eq_nil_iff_forall_not_mem.2
      intro j hj
      obtain ⟨h1, o, ho, _⟩ := mem_ready.1 hj
      have hm : j ∈ (List.range ops.size).filter fun j => !listed.getD j true := List.mem_filter.2 ⟨List.mem_range.2 (Array.getElem?_eq_some_iff.1 ho).1, by rw [h1]; rfl⟩
      have := List.length_pos_of_mem hm
      unfold openN at hf
      omega
    exact ⟨hr, done _ _ _ h hr⟩
  | fuel + 1, listed, a, w, hf, h => by
    refine ⟨done _ _ _ h, fun i hi => wpOp_mono (fun a' w' h' => wpAny_inv J step done fuel _ a' w' ?_ h') (step _ _ _ _ h hi)⟩
    obtain ⟨h1, o, ho, _⟩ := mem_ready.1 hi
    have := openN_set (ops := ops) (Array.getElem?_eq_some_iff.1 ho).1 h1
    omega
/-- The region, by what holds at its beginning, behind each operation that may come up, and when all have come up. -/
theorem wp_region_inv {id : Nat} {a : Act} {w : World} (hm : P.follows .mixedOrders = true) (J : Array Bool → Act → World → Prop)
    (start : J (Array.replicate ops.size false) a w.drew)
    (step : ∀ listed a w i, J listed a w → i ∈ Region.ready .any ops listed → wpOp P ops Q i (fun a' w' => J (listed.setIfInBounds i true) a' w') a w)
    (done : ∀ listed a w, J listed a w → Region.ready .any ops listed = [] → Q .normal a w) : (Code.region id ops true).wp P Q a w :=
  wp_region_any hm (wpAny_inv J step done ops.size _ a _ (by unfold openN; exact Nat.le_trans (List.length_filter_le _ _) (by simp)) start)
/-- The same, the invariant told of whatever operations and frame stand there. -/
theorem wp_region_by {id : Nat} {a : Act} {w : World} (J : Array Oper → Act → Array Bool → Act → World → Prop) (hm : P.follows .mixedOrders = true)
    (start : J ops a (Array.replicate ops.size false) a w.drew)
    (step : ∀ listed b v i, J ops a listed b v → i ∈ Region.ready .any ops listed → wpOp P ops Q i (fun b' v' => J ops a (listed.setIfInBounds i true) b' v') b v)
    (done : ∀ listed b v, J ops a listed b v → Region.ready .any ops listed = [] → Q .normal b v) : (Code.region id ops true).wp P Q a w :=
  wp_region_inv hm (J ops a) start step done
/-- Where each waits for earlier ones alone and none may come up, all have come up. -/
theorem all_up {listed : Array Bool} (hb : ∀ (j : Nat) (o : Oper), ops[j]? = some o → ∀ e ∈ o.after, e.on < j ∧ e.on < ops.size) (hs : listed.size = ops.size) (hr : Region.ready md ops listed = []) : ∀ n j, j < n → j < ops.size → listed.getD j true = true
  | 0, j, h, _ => absurd h (Nat.not_lt_zero _)
  | n + 1, j, h, hj => by
    cases hl : listed.getD j true with
    | true => rfl
    | false =>
      have hm : j ∈ Region.ready md ops listed := by
        refine mem_ready.2 ⟨hl, ops[j], Array.getElem?_eq_getElem hj, fun e he _ => ?_⟩
        obtain ⟨h1, h2⟩ := hb j ops[j] (Array.getElem?_eq_getElem hj) e he
        have := all_up hb hs hr n e.on (by omega) h2
        rw [Array.getD_eq_getD_getElem?, Array.getElem?_eq_getElem (by omega)] at this ⊢
        simpa using this
      rw [hr] at hm
      cases hm
end Sp
end Go.Proofs.Ytmhihnpimanhfaa
