/- formed, has: what a type that is added is by itself. -/
import Derived.Test.YtdophmlnmbcjlaaT19
import Derived.Deep.CutBlock
import Derived.Deep.DeepCutAuto
import Derived.Test.YtdophmlnmbcjlaaT16
namespace Go.Proofs.Ytdophmlnmbcjlaa
open Go.RowKit
namespace Sp
open Sc
set_option maxRecDepth 100000
theorem wideParts : (match Try.prog.underlying 158 with | some (.array _ _) | some (.struct _) => true | _ => false) = true := by kernel_rfl
theorem rowParts : (158 : TypeId) < Try.prog.types.size := of_decide_eq_true (by kernel_rfl)
theorem partsLaw : Maps.Keyed Try.prog 158 := Maps.Keyed.of_law (deep_law_laid laidK (m := 2) (by omega) rowParts (by kernel_rfl) wideParts)
def litP (a b c : Int) : List Go.Lit := [.int .i64 a, .int .i64 b, .int .i64 c]
theorem keyOf_parts (a b c : Int) (ha : (Go.Lit.int .i64 a).wf = true) (hb : (Go.Lit.int .i64 b).wf = true) (hc : (Go.Lit.int .i64 c).wf = true) : keyOf Try.prog 158 (.agg #[.int .i64 a, .int .i64 b, .int .i64 c]) = some (.string (keyBytes (litP a b c))) := by
  have c3 : Try.prog.cellsOf 158 = 3 := by kernel_rfl
  have c1 : Try.prog.cellsOf 3 = 1 := by kernel_rfl
  have ty : Try.prog.keyType 158 = true := by kernel_rfl
  unfold keyOf
  rw [Try.underlying158]
  have hf : (Value.agg #[.int .i64 a, .int .i64 b, .int .i64 c]).formed Try.prog 158 = true := by simp [Value.formed, Try.underlying158, c3]
  have e : Try.prog.types.size + 1 = (Try.prog.types.size - 1) + 2 := by
    have : (2 : Nat) ≤ Try.prog.types.size := Nat.le_of_lt (Nat.lt_of_le_of_lt (by decide) rowParts)
    omega
  simp only [ty, hf, e]
  rw [Program.keyLits.eq_def]
  simp only [Try.underlying158, c3, c1]
  simp [List.range_succ, Value.cells, lit_int _ a ha, lit_int _ b hb, lit_int _ c hc, litP]
theorem parts_eq (a b c d e f : Int) (ha : (Go.Lit.int .i64 a).wf = true) (hb : (Go.Lit.int .i64 b).wf = true) (hc : (Go.Lit.int .i64 c).wf = true) (hd : (Go.Lit.int .i64 d).wf = true) (he : (Go.Lit.int .i64 e).wf = true) (hf : (Go.Lit.int .i64 f).wf = true) (w : World) :
    (Op.equalIn 10000 158 (.agg #[.int .i64 a, .int .i64 b, .int .i64 c]) (.agg #[.int .i64 d, .int .i64 e, .int .i64 f])).run Try.prog w = .ok (decide (a = d ∧ b = e ∧ c = f)) w := by
  have k1 := keyOf_parts a b c ha hb hc
  have k2 := keyOf_parts d e f hd he hf
  obtain ⟨r, hr, hi⟩ := run_equal_deep w (m := 2) (by omega) (k := 158) (by kernel_rfl) wideParts k1 k2
  have hiff : r = true ↔ (a = d ∧ b = e ∧ c = f) := by
    rw [hi]
    constructor
    · intro h
      have := partsLaw.inj k1 (by rw [h]; exact k2)
      simpa using this
    · rintro ⟨rfl, rfl, rfl⟩; rfl
  have : r = decide (a = d ∧ b = e ∧ c = f) := by
    cases r
    · exact (decide_eq_false (fun h => by have := hiff.2 h; cases this)).symm
    · exact (decide_eq_true (hiff.1 rfl)).symm
  rw [← this]; exact hr
set_option maxHeartbeats 8000000 in
theorem cformed_any (k : Int) (nm : List UInt8) (ns : List (List UInt8)) (nk : Nat) (an ak : Option Addr) (cn ck : Nat) (w : World) (hm : nm.length ≤ maxLen) (hn : ns.length ≤ maxLen) (hk : nk ≤ maxLen) :
    Calls Try.prog 53 #[.agg #[.int .i64 k, .string ⟨nm.toArray⟩, .slice an ns.length cn, .slice ak nk ck]] w fun e w' => e = .returned (.bool (formB k nm ns nk)) ∧ Below w.heap.size w w' := by
  have hE : ∀ b, formB k nm ns nk = b → formB k nm ns nk = b := fun _ h => h
  unfold formB kidsN at hE
  have hns : ns.length = 0 → True := fun _ => trivial
  have hnm : (nm = []) ↔ nm.length = 0 := by simp
  obtain ⟨F, hF⟩ : ∃ F, F = formB k nm ns nk := ⟨_, rfl⟩
  have HF : Hid (F = (decide (nk = kidsN k ns.length) && (decide (nm.length = 0) || decide (k = 9)) && (decide (ns.length = 0) || decide (k = 7 ∨ k = 8)))) := by
    unfold Hid; rw [hF]; unfold formB; simp only [hnm]
  rw [← hF]
  clear hF hE hns hnm
  have hb : (⟨nm.toArray⟩ : ByteArray).size = nm.length := by simp [ByteArray.size]
  have HBS := Lib.hid hb
  unfold maxLen at hm hn hk
  generalize ns.length = nn at *
  have wf : ∀ n : Nat, n ≤ 2 ^ 63 - 1 → (Go.Lit.int .i64 (n : Int)).wf = true := fun n h => WalkArith.wf_i64 (by omega)
  have w0 : (Go.Lit.int .i64 0).wf = true := by decide
  have w1 : (Go.Lit.int .i64 1).wf = true := by decide
  obtain ⟨nz, hnz⟩ : ∃ nz, nz = nm.length := ⟨_, rfl⟩
  rw [← hnz] at hm HF
  have p1 : ∀ W, (Op.equalIn 10000 158 (.agg #[.int .i64 (nz : Nat), .int .i64 (nn : Nat), .int .i64 (nk : Nat)]) (.agg #[.int .i64 0, .int .i64 0, .int .i64 1])).run Try.prog W = .ok (decide (nz = 0 ∧ nn = 0 ∧ nk = 1)) W := fun W => by
    rw [parts_eq _ _ _ _ _ _ (wf _ hm) (wf _ hn) (wf _ hk) w0 w0 w1]; exact congrArg (fun b => Result.ok b W) (decide_eq_decide.2 (by omega))
  have p2 : ∀ W, (Op.equalIn 10000 158 (.agg #[.int .i64 (nz : Nat), .int .i64 (nn : Nat), .int .i64 (nk : Nat)]) (.agg #[.int .i64 0, .int .i64 (nn : Nat), .int .i64 (nn : Nat)])).run Try.prog W = .ok (decide (nz = 0 ∧ nk = nn)) W := fun W => by
    rw [parts_eq _ _ _ _ _ _ (wf _ hm) (wf _ hn) (wf _ hk) w0 (wf _ hn) (wf _ hn)]; exact congrArg (fun b => Result.ok b W) (decide_eq_decide.2 (by omega))
  have p3 : ∀ W, (Op.equalIn 10000 158 (.agg #[.int .i64 (nz : Nat), .int .i64 (nn : Nat), .int .i64 (nk : Nat)]) (.agg #[.int .i64 (nz : Nat), .int .i64 0, .int .i64 0])).run Try.prog W = .ok (decide (nn = 0 ∧ nk = 0)) W := fun W => by
    rw [parts_eq _ _ _ _ _ _ (wf _ hm) (wf _ hn) (wf _ hk) (wf _ hm) w0 w0]; exact congrArg (fun b => Result.ok b W) (decide_eq_decide.2 (by omega))
  have p4 : ∀ W, (Op.equalIn 10000 158 (.agg #[.int .i64 (nz : Nat), .int .i64 (nn : Nat), .int .i64 (nk : Nat)]) (.agg #[.int .i64 0, .int .i64 0, .int .i64 0])).run Try.prog W = .ok (decide (nz = 0 ∧ nn = 0 ∧ nk = 0)) W := fun W => by
    rw [parts_eq _ _ _ _ _ _ (wf _ hm) (wf _ hn) (wf _ hk) w0 w0 w0]; exact congrArg (fun b => Result.ok b W) (decide_eq_decide.2 (by omega))
  have HP1 := Lib.hid p1; have HP2 := Lib.hid p2; have HP3 := Lib.hid p3; have HP4 := Lib.hid p4
  clear p1 p2 p3 p4 wf w0 w1
  have hbz : (⟨nm.toArray⟩ : ByteArray).size = nz := hb.trans hnz.symm
  clear hb HBS
  have hlen : nm.length = nz := hnz.symm
  clear hnz
  have hc : k = 4 ∨ k = 5 ∨ k = 6 ∨ k = 7 ∨ k = 8 ∨ k = 9 ∨ (k ≠ 4 ∧ k ≠ 5 ∧ k ≠ 6 ∧ k ≠ 7 ∧ k ≠ 8 ∧ k ≠ 9) := by omega
  rcases hc with rfl | rfl | rfl | rfl | rfl | rfl | ⟨a4, a5, a6, a7, a8, a9⟩
  · have p1 := HP1.out
    go_enter Try.func53, Try.ntmps53
    go_wp2
    go_ret
    refine ⟨congrArg (fun b => Ending.returned (.bool b)) ?_, ((Below.refl _ _).alloc (Nat.le_refl _) _).alloc (by simp) _⟩
    rw [HF.out]; unfold kidsN
    simp [Bool.and_comm, Bool.and_left_comm]
  · have p1 := HP1.out
    go_enter Try.func53, Try.ntmps53
    go_wp2
    go_ret
    refine ⟨congrArg (fun b => Ending.returned (.bool b)) ?_, ((Below.refl _ _).alloc (Nat.le_refl _) _).alloc (by simp) _⟩
    rw [HF.out]; unfold kidsN
    simp [Bool.and_comm, Bool.and_left_comm]
  · have p1 := HP1.out
    go_enter Try.func53, Try.ntmps53
    go_wp2
    go_ret
    refine ⟨congrArg (fun b => Ending.returned (.bool b)) ?_, ((Below.refl _ _).alloc (Nat.le_refl _) _).alloc (by simp) _⟩
    rw [HF.out]; unfold kidsN
    simp [Bool.and_comm, Bool.and_left_comm]
  · have p1 := HP2.out
    go_enter Try.func53, Try.ntmps53
    go_wp2
    go_ret
    refine ⟨congrArg (fun b => Ending.returned (.bool b)) ?_, ((Below.refl _ _).alloc (Nat.le_refl _) _).alloc (by simp) _⟩
    rw [HF.out]; unfold kidsN
    simp [Bool.and_comm]
  · have p1 := HP2.out
    go_enter Try.func53, Try.ntmps53
    go_wp2
    go_ret
    refine ⟨congrArg (fun b => Ending.returned (.bool b)) ?_, ((Below.refl _ _).alloc (Nat.le_refl _) _).alloc (by simp) _⟩
    rw [HF.out]; unfold kidsN
    simp [Bool.and_comm]
  · have p1 := HP3.out
    go_enter Try.func53, Try.ntmps53
    go_wp2
    go_ret
    refine ⟨congrArg (fun b => Ending.returned (.bool b)) ?_, ((Below.refl _ _).alloc (Nat.le_refl _) _).alloc (by simp) _⟩
    rw [HF.out]; unfold kidsN
    simp [Bool.and_comm]
  · have p1 := HP4.out
    go_enter Try.func53, Try.ntmps53
    go_wp2
    go_ret
    refine ⟨congrArg (fun b => Ending.returned (.bool b)) ?_, ((Below.refl _ _).alloc (Nat.le_refl _) _).alloc (by simp) _⟩
    rw [HF.out]; unfold kidsN
    simp [a4, a5, a6, a7, a8, a9]
    cases decide (nk = 0) <;> cases decide (nn = 0) <;> cases decide (nz = 0) <;> rfl
end Sp
end Go.Proofs.Ytdophmlnmbcjlaa
namespace Go.Proofs.Ytdophmlnmbcjlaa
open Go.RowKit
namespace Sp
open Sc
set_option maxRecDepth 100000
/-- The checker's block: the map, how many types were gone through. -/
def CcE (w : World) (cb mb n : Nat) : Prop := w.heap[cb]? = some (.cells #[.map (some mb), .int .i64 n] 85 (0, 0))
theorem CcE.lt {w : World} {cb mb n : Nat} (h : CcE w cb mb n) : cb < w.heap.size := (Array.getElem?_eq_some_iff.1 h).1
theorem CcE.below {w w' : World} {cb mb n : Nat} (h : CcE w cb mb n) (hb : Below w.heap.size w w') : CcE w' cb mb n := (hb.block cb h.lt).trans h
theorem TxtV.only {w w' : World} {cb mb : Nat} {l : List (List UInt8 × Value)} (h : TxtV w mb l) (ho : Only cb w w') (hm : mb ≠ cb) : TxtV w' mb l := h.same (ho.block mb h.lt (fun e => hm (by cases e; rfl)))
theorem TxtV.below {w w' : World} {mb : Nat} {l : List (List UInt8 × Value)} (h : TxtV w mb l) (hb : Below w.heap.size w w') : TxtV w' mb l := h.same (hb.block mb h.lt)
set_option maxHeartbeats 800000 in
theorem chas_any (w : World) (cb mb n : Nat) (N : List NN) (s : List UInt8) (hC : CcE w cb mb n) (hM : TxtV w mb (encNN N)) (hs : s.length ≤ maxLen) :
    Calls Try.prog 54 #[.pointer (some ⟨cb, 0, none⟩), .string ⟨s.toArray⟩] w fun e w' => e = .returned (.bool (hasZ N s)) ∧ Below w.heap.size w w' := by
  have hr := hM.at_ok Try.underlying70 (zeroI w) s hs
  rw [has_encNN, look_encNN] at hr
  obtain ⟨⟨c0, -⟩, -⟩ := two_blk hC
  clear hM hC
  generalize hasZ N s = b at *
  generalize lookN N s = q at *
  go_enter Try.func54, Try.ntmps54
  go_wp2
  go_ret
  exact ⟨rfl, Below.refl _ _⟩
/-- A type is gone through as oneC says. -/
def OneK (cb mb : Nat) (N : List NN) (S : Nat → Prop) (t : Tz) : Prop :=
  ∀ (n : Nat) (w : World) (c : C4), n ≤ 400 → TzV w S t c → CcE w cb mb n → TxtV w mb (encNN N) →
    Calls Try.prog 34 #[.pointer (some ⟨cb, 0, none⟩), .agg #[.int .i64 c.k, .string c.n, .slice c.an c.ln c.cn, .slice c.ak c.lk c.ck]] w fun e w' =>
      e = .returned (.int .i64 ((oneC (hasZ N) n t).1 : Nat)) ∧ CcE w' cb mb (oneC (hasZ N) n t).2 ∧ Only cb w w'
theorem oneC_le (has : List UInt8 → Bool) (t : Tz) (n : Nat) (h0 : (oneC has n t).1 = 0) : (oneC has n t).2 ≤ 400 := by
  obtain ⟨-, a, b⟩ := oneC_ok has t n h0; omega
theorem allC_drop {has : List UInt8 → Bool} {m j : Nat} {ks : List Tz} (h : j < ks.length) : allC has m (ks.drop j) = if (oneC has m ks[j]).1 = 0 then allC has (oneC has m ks[j]).2 (ks.drop (j + 1)) else oneC has m ks[j] := by rw [List.drop_eq_getElem_cons h, allC]
/-- The loop over what lies within. -/
structure LpC (cb mb wb : Nat) (N : List NN) (w W1 : World) (ks : List Tz) (full : Nat × Nat) (tc : Array Value) (iv : Value) (wr : World) (j m : Nat) : Prop where
  slot : iv = .int .i64 j
  le : j ≤ ks.length
  few : m ≤ 400
  rest : allC (hasZ N) m (ks.drop j) = full
  cnt : CcE wr cb mb m
  only : Only cb W1 wr
  box : wr.heap[wb]? = some (.cells tc 30 (0, 0))
set_option maxHeartbeats 16000000 in
theorem oneK_any (cb mb : Nat) (N : List NN) (S : Nat → Prop) (hS : ∀ g, S g → g < cb) (hm : mb ≠ cb) (k : Int) (nm : List UInt8) (ns : List (List UInt8)) (ks : List Tz) (hf : fitZ (.mk k nm ns ks) = true)
    (IH : ∀ i (h : i < ks.length), OneK cb mb N S ks[i]) : OneK cb mb N S (.mk k nm ns ks) := by
  intro n w c hn hV hC hM
  obtain ⟨f1, f2, f3, f4, f5⟩ := fitZ_mk hf
  have hcb := hC.lt
  cases hV with
  | mk _ _ _ _ an cn ak ck us hl hnr hkr hu =>
  dsimp only
  obtain ⟨v, hv⟩ : ∃ v, v = oneC (hasZ N) n (.mk k nm ns ks) := ⟨_, rfl⟩
  rw [← hv]
  unfold oneC at hv
  obtain ⟨⟨s0, s1⟩, ⟨z0, z1⟩⟩ := two_blk hC
  have q0 : (w.alloc (.cells #[.int .i64 k, .string ⟨nm.toArray⟩, .slice an ns.length cn, .slice ak ks.length ck] 30)).cell? ⟨cb, 1, none⟩ = some (.int .i64 n) := (((Below.refl w.heap.size w).alloc (Nat.le_refl _) _).cell (p := ⟨cb, 1, none⟩) hcb).trans s1
  have q1 : (w.alloc (.cells #[.int .i64 k, .string ⟨nm.toArray⟩, .slice an ns.length cn, .slice ak ks.length ck] 30)).frozen? ⟨cb, 1, none⟩ = false := (two_blk (hC.below ((Below.refl _ _).alloc (Nat.le_refl _) _))).2.2
  obtain ⟨WS, hWS⟩ : ∃ WS, WS = w.setCell ⟨cb, 1, none⟩ (.int .i64 ((n : Int) + 1)) := ⟨_, rfl⟩
  have hCS : CcE WS cb mb (n + 1) := by rw [hWS]; exact set_two1 hC _
  have hOS : Only cb w WS := by rw [hWS]; exact (Only.refl cb w).setCell 1 _
  have hsS : WS.heap.size = w.heap.size := by rw [hWS]; simp [World.setCell]
  obtain ⟨W1, hW1⟩ : ∃ W1, W1 = WS.alloc (.cells #[.int .i64 k, .string ⟨nm.toArray⟩, .slice an ns.length cn, .slice ak ks.length ck] 30) := ⟨_, rfl⟩
  have hs1 : W1.heap.size = w.heap.size + 1 := by rw [hW1]; simp [hsS]
  have hB1 : Below WS.heap.size WS W1 := by rw [hW1]; exact (Below.refl _ _).alloc (Nat.le_refl _) _
  have hx1 : W1.heap[w.heap.size]? = some (.cells #[.int .i64 k, .string ⟨nm.toArray⟩, .slice an ns.length cn, .slice ak ks.length ck] 30 (0, 0)) := by rw [hW1, ← hsS]; exact heap_alloc_new WS _
  have hC1 : CcE W1 cb mb (n + 1) := hCS.below hB1
  have hO1 : Only cb w W1 := hOS.trans (Only.of_below hB1)
  obtain ⟨⟨e0, e1⟩, _⟩ := two_blk hC1
  obtain ⟨⟨p0, p1, p2, p3⟩, _⟩ := four_blk hx1
  have kb : ∀ W, Only cb W1 W → ∀ g, g < cb → W.heap[g]? = w.heap[g]? := fun W hB g hg => (hB.block g (by omega) (fun e => by cases e; omega)).trans (hO1.block g (by omega) (fun e => by cases e; omega))
  have hM1 : TxtV W1 mb (encNN N) := hM.only hO1 hm
  have CF := fun W => cformed_any k nm ns ks.length an ak cn ck W f1 f2 f4
  have CH := fun W (hB : Below W1.heap.size W1 W) => chas_any W cb mb (n + 1) N nm (hC1.below hB) (hM1.below hB) f1
  have CK := fun W (hB : Only cb W1 W) i (h : i < ks.length) (h' : i < us.length) => (hu i h h').keep (S' := S) (fun _ h => h) (fun g hg => kb W hB g (hS g hg))
  have CR := fun W (hB : Only cb W1 W) => hkr.keep (w' := W) (S' := S) (fun _ h => h) (fun g hg => kb W hB g (hS g hg))
  have hnz : (n : Int) + 1 ≤ 401 := by omega
  have hn0 : (0 : Int) ≤ (n : Int) + 1 := by omega
  have hlk : ks.length ≤ 9223372036854775807 := by unfold maxLen at f4; omega
  have HC1 := Lib.hid hC1; have HO1 := Lib.hid hO1; have HX1 := Lib.hid hx1; have HCF := Lib.hid CF; have HCH := Lib.hid CH; have HCK := Lib.hid CK; have HCR := Lib.hid CR; have HS1 := Lib.hid hs1; have HIH := Lib.hid IH; have HUL := Lib.hid hl; have HSS := Lib.hid hS; have HM1 := Lib.hid hM1; have HMM := Lib.hid hm
  have hcw : cb ≠ w.heap.size := by omega
  clear hC hM hnr hkr hu IH hf f1 f2 f3 f4 f5 hl hC1 hO1 hx1 kb hM1 CF CH CK CR hS hs1 hCS hOS hsS hB1 hm
  have HW1 := Lib.hid hW1; have HWS := Lib.hid hWS
  rw [hWS] at hW1
  rw [hW1] at e0 e1 p0 p1 p2 p3
  clear hWS hW1
  by_cases h400 : 400 < n + 1
  · rw [if_pos h400] at hv
    have h4z : 400 < (n : Int) + 1 := by omega
    subst hv
    go_enter Try.func34, Try.ntmps34
    go_wp2
    go_ret
    rw [← HWS.out, ← HW1.out]
    exact ⟨rfl, HC1.out, HO1.out⟩
  · rw [if_neg h400] at hv
    have h4z : ¬ 400 < (n : Int) + 1 := by omega
    by_cases h8 : 8 < ks.length
    · have h8z : (8 : Int) < (ks.length : Int) := by omega
      rw [show ownC (hasZ N) k nm ns ks.length = 3 by unfold ownC; rw [if_pos h8], if_pos (by decide)] at hv
      subst hv
      go_enter Try.func34, Try.ntmps34
      go_wp2
      go_ret
      rw [← HWS.out, ← HW1.out]
      exact ⟨rfl, HC1.out, HO1.out⟩
    · have h8z : ¬ (8 : Int) < (ks.length : Int) := by omega
      by_cases hk1 : k < 1 ∨ 9 < k
      · rw [show ownC (hasZ N) k nm ns ks.length = 1 by unfold ownC; rw [if_neg h8, if_pos hk1], if_pos (by decide)] at hv
        subst hv
        rcases hk1 with hk1 | hk1
        · go_enter Try.func34, Try.ntmps34
          go_wp2
          go_ret
          rw [← HWS.out, ← HW1.out]
          exact ⟨rfl, HC1.out, HO1.out⟩
        · have hk2 : ¬ k < 1 := by omega
          go_enter Try.func34, Try.ntmps34
          go_wp2
          go_ret
          rw [← HWS.out, ← HW1.out]
          exact ⟨rfl, HC1.out, HO1.out⟩
      · have hk2 : ¬ k < 1 := by omega
        have hk3 : ¬ 9 < k := by omega
        have ho : ownC (hasZ N) k nm ns ks.length = if formB k nm ns ks.length = false then 12 else if k = 9 ∧ hasZ N nm = false then 15 else 0 := by unfold ownC; rw [if_neg h8, if_neg hk1]
        rw [ho] at hv
        clear ho hk1
        obtain ⟨fb, hfb⟩ : ∃ fb, formB k nm ns ks.length = fb := ⟨_, rfl⟩
        rw [hfb] at hv HCF
        clear hfb
        cases fb
        · rw [if_pos rfl, if_pos (by decide)] at hv
          subst hv
          go_enter Try.func34, Try.ntmps34
          go_upto_region 6 with fail
          rw [← HWS.out, ← HW1.out]
          rw [← HWS.out, ← HW1.out] at e0 e1 p0 p1 p2 p3
          go_wp2_with (go_at_call 53; (refine (HCF.out _).mono ?_); rintro e w2 ⟨rfl, b2⟩; have HB2 := Lib.hid b2; clear b2)
          go_ret
          exact ⟨rfl, HC1.out.below HB2.out, HO1.out.trans (Only.of_below HB2.out)⟩
        · simp only [Bool.true_eq_false, if_false] at hv
          by_cases h15 : k = 9 ∧ hasZ N nm = false
          · rw [if_pos h15, if_pos (by decide)] at hv
            obtain ⟨rfl, hh⟩ := h15
            rw [hh] at HCH
            subst hv
            clear hh
            go_enter Try.func34, Try.ntmps34
            go_upto_region 6 with fail
            rw [← HWS.out, ← HW1.out]
            rw [← HWS.out, ← HW1.out] at e0 e1 p0 p1 p2 p3
            go_wp2_with (first | (go_at_call 53; (refine (HCF.out _).mono ?_); rintro e w2 ⟨rfl, b2⟩; have hz2 := b2.size; obtain ⟨⟨x0, x1, x2, x3⟩, _⟩ := four_blk ((b2.block w.heap.size (by rw [HS1.out]; omega)).trans HX1.out); have HB2 := Lib.hid b2; clear b2) | (go_at_call 54; (refine (HCH.out _ HB2.out).mono ?_); rintro e w3 ⟨rfl, b3⟩; have HB3 := Lib.hid (HB2.out.trans (b3.mono HB2.out.size)); clear b3))
            go_ret
            exact ⟨rfl, HC1.out.below HB3.out, HO1.out.trans (Only.of_below HB3.out)⟩
          · rw [if_neg h15, if_neg (by decide)] at hv
            have H15 := Lib.hid h15
            have HV := Lib.hid hv
            clear h15 hv
            go_enter Try.func34, Try.ntmps34
            go_upto_block 0 with fail
            rw [← HWS.out, ← HW1.out]
            rw [← HWS.out, ← HW1.out] at e0 e1 p0 p1 p2 p3
            go_cut [] (fun wx => Below W1.heap.size W1 wx)
            case first =>
              by_cases h9 : k = 9
              · have hh : hasZ N nm = true := by
                  cases hh : hasZ N nm
                  · exact absurd ⟨h9, hh⟩ H15.out
                  · rfl
                rw [hh] at HCH
                subst h9
                clear hh
                go_wp2_with (first | (go_at_call 53; (refine (HCF.out _).mono ?_); rintro e w2 ⟨rfl, b2⟩; have hz2 := b2.size; obtain ⟨⟨x0, x1, x2, x3⟩, _⟩ := four_blk ((b2.block w.heap.size (by rw [HS1.out]; omega)).trans HX1.out); have HB2 := Lib.hid b2; clear b2) | (go_at_call 54; (refine (HCH.out _ HB2.out).mono ?_); rintro e w3 ⟨rfl, b3⟩; have HB3 := Lib.hid (HB2.out.trans (b3.mono HB2.out.size)); clear b3))
                go_meet
                case rel => exact HB3.out
              · go_wp2_with (go_at_call 53; (refine (HCF.out _).mono ?_); rintro e w2 ⟨rfl, b2⟩; have hz2 := b2.size; obtain ⟨⟨x0, x1, x2, x3⟩, _⟩ := four_blk ((b2.block w.heap.size (by rw [HS1.out]; omega)).trans HX1.out); have HB2 := Lib.hid b2; clear b2)
                go_meet
                case rel => exact HB2.out
            case rest =>
              have HB := Lib.hid hcut
              clear hcut
              have hzc := HB.out.size
              have hs1 := HS1.out
              obtain ⟨⟨x0, x1, x2, x3⟩, _⟩ := four_blk ((HB.out.block w.heap.size (by omega)).trans HX1.out)
              clear e0 e1 p0 p1 p2 p3 s0 s1 z0 z1 q0 q1
              go_wp2_with fail
              clear x0 x1 x2 x3
              go_loopw [54] (fun iv wr => ∃ j m, LpC cb mb w.heap.size N w W1 ks v #[.int .i64 k, .string ⟨nm.toArray⟩, .slice an ns.length cn, .slice ak ks.length ck] iv wr j m) (fun iv _ => ks.length - (intOf iv).toNat)
              case atStart => exact ⟨0, n + 1, rfl, Nat.zero_le _, by omega, by rw [List.drop_zero]; exact HV.out.symm, HC1.out.below HB.out, Only.of_below HB.out, (HB.out.block _ (by omega)).trans HX1.out⟩
              case round =>
                obtain ⟨j, m, h⟩ := hrel
                obtain rfl := h.slot
                have hj := h.le
                have hm4 := h.few
                have hwz := h.only.size
                have H := Lib.hid h
                clear h
                by_cases hlt : j < ks.length
                · have hlu : j < us.length := by rw [HUL.out]; exact hlt
                  have hjz : (j : Int) < (ks.length : Int) := by omega
                  have hj0 : (0 : Int) ≤ (j : Int) := by omega
                  obtain ⟨g, o, rfl, hg, hc⟩ := four_at (HCR.out wr H.out.only) HSS.out j hlu
                  obtain ⟨c0, c1, c2, c3⟩ := hc wr (fun _ _ => rfl)
                  have hT := HCK.out wr H.out.only j hlt hlu
                  have hdr := allC_drop (has := hasZ N) (m := m) hlt
                  rw [H.out.rest] at hdr
                  have hI := HIH.out j hlt
                  have hle := oneC_le (hasZ N) ks[j] m
                  clear hc
                  generalize ks[j] = t at *
                  generalize us[j] = x at *
                  obtain ⟨x1, x2, x3, x4, x5, x6, x7, x8⟩ := x
                  dsimp only at *
                  obtain ⟨W2, hW2⟩ : ∃ W2, W2 = wr.alloc (.cells #[.int .i64 x1, .string x2, .slice x3 x4 x5, .slice x6 x7 x8] 30) := ⟨_, rfl⟩
                  have hBB : Below wr.heap.size wr W2 := by rw [hW2]; exact (Below.refl _ _).alloc (Nat.le_refl _) _
                  have hM2 : TxtV W2 mb (encNN N) := (HM1.out.only H.out.only HMM.out).below hBB
                  have hC2 := hI m W2 ⟨x1, x2, x3, x4, x5, x6, x7, x8⟩ hm4 (hT.later (fun g hg => by have := HSS.out g hg; omega) hBB) (H.out.cnt.below hBB) hM2
                  have hO2 := H.out.only.trans (Only.of_below hBB)
                  have hx2 := (hBB.block w.heap.size (Array.getElem?_eq_some_iff.1 H.out.box).1).trans H.out.box
                  have HC2 := Lib.hid hC2; have HO2 := Lib.hid hO2; have HX2 := Lib.hid hx2; have HD := Lib.hid hdr; have HLE := Lib.hid hle
                  have hzb := hBB.size
                  clear hI hT hM2 hC2 hO2 hx2 hdr hle hBB
                  subst hW2
                  generalize oneC (hasZ N) m t = q at *
                  obtain ⟨q1, q2⟩ := q
                  dsimp only at *
                  by_cases h0 : q1 = 0
                  · subst h0
                    have hd := HD.out
                    rw [if_pos rfl] at hd
                    have HDD := Lib.hid hd
                    clear hd
                    go_wp2_with (go_at_call 34; (with_reducible refine HC2.out.mono ?_); rintro e w1 ⟨rfl, k1, o1⟩; have K1 := Lib.hid k1; have O1 := Lib.hid o1; clear k1 o1)
                    go_roundw
                    case rel => exact ⟨j + 1, q2, by go_num, by omega, HLE.out (by trivial), HDD.out.symm, K1.out, HO2.out.trans O1.out, O1.out.blk HX2.out (fun e => hcw e.symm)⟩
                    case measure => simp [intOf]; omega
                  · have hd := HD.out
                    rw [if_neg h0] at hd
                    have HDD := Lib.hid hd
                    clear hd
                    have hne : (q1 : Int) ≠ 0 := by omega
                    have t0 : ((q1 : Nat) == (0 : Int)) = false := by simp; omega
                    go_wp2_with (go_at_call 34; (with_reducible refine HC2.out.mono ?_); rintro e w1 ⟨rfl, k1, o1⟩; have K1 := Lib.hid k1; have O1 := Lib.hid o1; clear k1 o1)
                    go_ret
                    rw [HDD.out]
                    exact ⟨rfl, K1.out, HO1.out.trans (HO2.out.trans O1.out)⟩
                · obtain rfl : j = ks.length := by omega
                  have hz := H.out.rest
                  rw [List.drop_length, allC] at hz
                  have HZ := Lib.hid hz
                  clear hz
                  go_wp2
                  go_ret
                  rw [← HZ.out]
                  exact ⟨rfl, H.out.cnt, HO1.out.trans H.out.only⟩
theorem oneK_all (cb mb : Nat) (N : List NN) (S : Nat → Prop) (hS : ∀ g, S g → g < cb) (hm : mb ≠ cb) : ∀ (m : Nat) (t : Tz), sizeZ t ≤ m → fitZ t = true → OneK cb mb N S t
  | 0, t, h, _ => by have := sizeZ_pos t; omega
  | m + 1, .mk k nm ns ks, h, hf => oneK_any cb mb N S hS hm k nm ns ks hf fun i hi => by
    rw [sizeZ] at h
    have := sizeZ_mem ks i hi
    exact oneK_all cb mb N S hS hm m ks[i] (by omega) (fitZs_mem ks (fitZ_mk hf).2.2.2.2 i hi)
end Sp
end Go.Proofs.Ytdophmlnmbcjlaa
