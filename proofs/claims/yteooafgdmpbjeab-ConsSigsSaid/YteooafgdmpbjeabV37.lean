/- Package sprueref4: own at every kind; may. Written by gen_wmay.py. -/
import Derived.Test.YteooafgdmpbjeabV36
import Derived.Test.YteooafgdmpbjeabV18
namespace Go.Proofs.Yteooafgdmpbjeab
open Go.RowKit
namespace Sp
open Sc
set_option maxRecDepth 100000 in
set_option maxHeartbeats 8000000 in
theorem own_lo (s : Sz) (k : Int) (hk0 : k < 1) (nm : List UInt8) (ns : List (List UInt8)) (ks : List Tz) (an ak : Option Addr) (cn ck : Nat) (c : C4) (a1 a2 : Option Addr) (c1 c2 : Nat) (w : World) :
    Calls Try.prog 73 #[.agg #[.int .i64 c.k, .string c.n, .slice c.an c.ln c.cn, .slice c.ak c.lk c.ck, .slice a1 s.types.length c1, .slice a2 s.sigs.length c2], .agg #[.int .i64 k, .string ⟨nm.toArray⟩, .slice an ns.length cn, .slice ak ks.length ck]] w fun e w' => e = .returned (.int .i64 (ownE (hasZ s.types) k nm ns ks.length)) ∧ Below w.heap.size w w' := by
  obtain ⟨W0, hW0⟩ : ∃ W0, W0 = (w.alloc (.cells #[.int .i64 c.k, .string c.n, .slice c.an c.ln c.cn, .slice c.ak c.lk c.ck, .slice a1 s.types.length c1, .slice a2 s.sigs.length c2] 35)).alloc (.cells #[.int .i64 k, .string ⟨nm.toArray⟩, .slice an ns.length cn, .slice ak ks.length ck] 31) := ⟨_, rfl⟩
  have hb0 : Below w.heap.size w W0 := by rw [hW0]; exact ((Below.refl _ _).alloc (Nat.le_refl _) _).alloc (by simp) _
  have ht0 : W0.heap[w.heap.size + 1]? = some (.cells #[.int .i64 k, .string ⟨nm.toArray⟩, .slice an ns.length cn, .slice ak ks.length ck] 31 (0, 0)) := by rw [hW0, blk_if, if_pos (by simp)]
  obtain ⟨⟨p0, p1, p2, p3⟩, _⟩ := four_blk ht0
  have hE : ownE (hasZ s.types) k nm ns ks.length = 1 := by unfold ownE; exact if_pos (Or.inl hk0)
  rw [hE]
  have HW0 := Lib.hid hW0; have HB0 := Lib.hid hb0
  skip
  clear hW0 hb0 ht0 hE
  go_enter Try.func73, Try.ntmps73
  go_upto_region 1 with fail
  rw [← HW0.out]
  go_wp2
  go_ret
  exact ⟨rfl, HB0.out⟩
set_option maxRecDepth 100000 in
set_option maxHeartbeats 8000000 in
theorem own_hi (s : Sz) (k : Int) (hk0 : 9 < k) (nm : List UInt8) (ns : List (List UInt8)) (ks : List Tz) (an ak : Option Addr) (cn ck : Nat) (c : C4) (a1 a2 : Option Addr) (c1 c2 : Nat) (w : World) :
    Calls Try.prog 73 #[.agg #[.int .i64 c.k, .string c.n, .slice c.an c.ln c.cn, .slice c.ak c.lk c.ck, .slice a1 s.types.length c1, .slice a2 s.sigs.length c2], .agg #[.int .i64 k, .string ⟨nm.toArray⟩, .slice an ns.length cn, .slice ak ks.length ck]] w fun e w' => e = .returned (.int .i64 (ownE (hasZ s.types) k nm ns ks.length)) ∧ Below w.heap.size w w' := by
  obtain ⟨W0, hW0⟩ : ∃ W0, W0 = (w.alloc (.cells #[.int .i64 c.k, .string c.n, .slice c.an c.ln c.cn, .slice c.ak c.lk c.ck, .slice a1 s.types.length c1, .slice a2 s.sigs.length c2] 35)).alloc (.cells #[.int .i64 k, .string ⟨nm.toArray⟩, .slice an ns.length cn, .slice ak ks.length ck] 31) := ⟨_, rfl⟩
  have hb0 : Below w.heap.size w W0 := by rw [hW0]; exact ((Below.refl _ _).alloc (Nat.le_refl _) _).alloc (by simp) _
  have ht0 : W0.heap[w.heap.size + 1]? = some (.cells #[.int .i64 k, .string ⟨nm.toArray⟩, .slice an ns.length cn, .slice ak ks.length ck] 31 (0, 0)) := by rw [hW0, blk_if, if_pos (by simp)]
  obtain ⟨⟨p0, p1, p2, p3⟩, _⟩ := four_blk ht0
  have hE : ownE (hasZ s.types) k nm ns ks.length = 1 := by unfold ownE; exact if_pos (Or.inr hk0)
  rw [hE]
  have HW0 := Lib.hid hW0; have HB0 := Lib.hid hb0
  have hkz : ¬ k < 1 := by omega
  clear hW0 hb0 ht0 hE
  go_enter Try.func73, Try.ntmps73
  go_upto_region 1 with fail
  rw [← HW0.out]
  go_wp2
  go_ret
  exact ⟨rfl, HB0.out⟩
theorem own_ref (s : Sz) (c : C4) (a1 a2 : Option Addr) (us : List (List UInt8 × C4)) (gs : List (List UInt8 × G6)) (c1 c2 : Nat) (k : Int) (nm : List UInt8) (ns : List (List UInt8)) (ks : List Tz) (an ak : Option Addr) (cn ck : Nat) (w : World) (hV : SzV w (Any w) s c a1 us a2 gs) (hN : RowV w (Any w) an 1 (ns.map fun n => [str n])) (hl : s.types.length ≤ maxLen) (hf : fitZ (.mk k nm ns ks) = true) :
    Calls Try.prog 73 #[.agg #[.int .i64 c.k, .string c.n, .slice c.an c.ln c.cn, .slice c.ak c.lk c.ck, .slice a1 s.types.length c1, .slice a2 s.sigs.length c2], .agg #[.int .i64 k, .string ⟨nm.toArray⟩, .slice an ns.length cn, .slice ak ks.length ck]] w fun e w' => e = .returned (.int .i64 (ownE (hasZ s.types) k nm ns ks.length)) ∧ Below w.heap.size w w' := by
  by_cases h1 : k < 1
  · exact own_lo s k h1 nm ns ks an ak cn ck c a1 a2 c1 c2 w
  · by_cases h2 : 9 < k
    · exact own_hi s k h2 nm ns ks an ak cn ck c a1 a2 c1 c2 w
    · obtain h | h | h | h | h | h | h | h | h : k = 1 ∨ k = 2 ∨ k = 3 ∨ k = 4 ∨ k = 5 ∨ k = 6 ∨ k = 7 ∨ k = 8 ∨ k = 9 := by omega
      · exact own_1 s k h nm ns ks an ak cn ck c a1 a2 us gs c1 c2 w hV hN hl hf
      · exact own_2 s k h nm ns ks an ak cn ck c a1 a2 us gs c1 c2 w hV hN hl hf
      · exact own_3 s k h nm ns ks an ak cn ck c a1 a2 us gs c1 c2 w hV hN hl hf
      · exact own_4 s k h nm ns ks an ak cn ck c a1 a2 us gs c1 c2 w hV hN hl hf
      · exact own_5 s k h nm ns ks an ak cn ck c a1 a2 us gs c1 c2 w hV hN hl hf
      · exact own_6 s k h nm ns ks an ak cn ck c a1 a2 us gs c1 c2 w hV hN hl hf
      · exact own_7 s k h nm ns ks an ak cn ck c a1 a2 us gs c1 c2 w hV hN hl hf
      · exact own_8 s k h nm ns ks an ak cn ck c a1 a2 us gs c1 c2 w hV hN hl hf
      · exact own_9 s k h nm ns ks an ak cn ck c a1 a2 us gs c1 c2 w hV hN hl hf
theorem seven_blk {w : World} {b : Nat} {t : TypeId} {v0 v1 v2 v3 v4 v5 v6 : Value} (h : w.heap[b]? = some (.cells #[v0, v1, v2, v3, v4, v5, v6] t (0, 0))) :
    w.cell? ⟨b, 0, none⟩ = some v0 ∧ w.cell? ⟨b, 1, none⟩ = some v1 ∧ w.cell? ⟨b, 2, none⟩ = some v2 ∧ w.cell? ⟨b, 3, none⟩ = some v3 ∧ w.cell? ⟨b, 4, none⟩ = some v4 ∧ w.cell? ⟨b, 5, none⟩ = some v5 ∧ w.cell? ⟨b, 6, none⟩ = some v6 := by
  refine ⟨?_, ?_, ?_, ?_, ?_, ?_, ?_⟩ <;> simp [World.cell?, h]
theorem seven_frz {w : World} {b : Nat} {t : TypeId} {v0 v1 v2 v3 v4 v5 v6 : Value} (h : w.heap[b]? = some (.cells #[v0, v1, v2, v3, v4, v5, v6] t (0, 0))) : w.frozen? ⟨b, 6, none⟩ = false := by simp [World.frozen?, h]
theorem set_seven {w : World} {b : Nat} {t : TypeId} {v0 v1 v2 v3 v4 v5 v6 : Value} (h : w.heap[b]? = some (.cells #[v0, v1, v2, v3, v4, v5, v6] t (0, 0))) (v : Value) : (w.setCell ⟨b, 6, none⟩ v).heap[b]? = some (.cells #[v0, v1, v2, v3, v4, v5, v] t (0, 0)) := by
  unfold World.setCell; simp [Array.getElem?_modify, h]
/-- A schema whose memory stays. -/
structure SzS (S : Nat → Prop) (w : World) (s : Sz) (c : C4) (a1 a2 : Option Addr) (us : List (List UInt8 × C4)) (gs : List (List UInt8 × G6))  : Prop where
  lt : ∀ g, S g → g < w.heap.size
  val : SzV w S s c a1 us a2 gs
theorem SzS.anyB {S : Nat → Prop} {w W : World} {s : Sz} {c : C4} {a1 a2 : Option Addr} {us : List (List UInt8 × C4)} {gs : List (List UInt8 × G6)}  (h : SzS S w s c a1 a2 us gs) (hb : Below w.heap.size w W) : SzV W (Any W) s c a1 us a2 gs :=
  ⟨h.val.main.keep (fun g hg => Nat.lt_of_lt_of_le (h.lt g hg) hb.size) (fun g hg => hb.block g (h.lt g hg)), h.val.nt, h.val.rt.keep (fun g hg => Nat.lt_of_lt_of_le (h.lt g hg) hb.size) (fun g hg => hb.block g (h.lt g hg)), fun i h1 h2 => ⟨(h.val.vt i h1 h2).1, (h.val.vt i h1 h2).2.keep (fun g hg => Nat.lt_of_lt_of_le (h.lt g hg) hb.size) (fun g hg => hb.block g (h.lt g hg))⟩, h.val.ng, h.val.rg.keep (fun g hg => Nat.lt_of_lt_of_le (h.lt g hg) hb.size) (fun g hg => hb.block g (h.lt g hg)), fun i h1 h2 => (h.val.vg i h1 h2).step (fun g hg => ⟨Nat.lt_of_lt_of_le (h.lt g hg) hb.size, hb.block g (h.lt g hg)⟩)⟩
/-- What a call of may leaves. -/
def MayP (S : Nat → Prop) (wb : Nat) (s : Sz) (c : C4) (a1 a2 : Option Addr) (us : List (List UInt8 × C4)) (gs : List (List UInt8 × G6)) (c1 c2 : Nat) (t : Tz) : Prop := ∀ (ct : C4) (d n : Nat) (w : World), (∀ g, S g → g < wb) → wb < w.heap.size → n ≤ 400 → d ≤ 1000000 → SzV w S s c a1 us a2 gs → TzV w S t ct → w.heap[wb]? = some (.cells #[.int .i64 c.k, .string c.n, .slice c.an c.ln c.cn, .slice c.ak c.lk c.ck, .slice a1 s.types.length c1, .slice a2 s.sigs.length c2, .int .i64 n] 123 (0, 0)) →
  Calls Try.prog 54 #[.pointer (some ⟨wb, 0, none⟩), .agg #[.int .i64 ct.k, .string ct.n, .slice ct.an ct.ln ct.cn, .slice ct.ak ct.lk ct.ck], .int .i64 d] w fun e w' => e = .returned (.int .i64 (oneZ (hasZ s.types) d n t).1) ∧ w'.heap[wb]? = some (.cells #[.int .i64 c.k, .string c.n, .slice c.an c.ln c.cn, .slice c.ak c.lk c.ck, .slice a1 s.types.length c1, .slice a2 s.sigs.length c2, .int .i64 (oneZ (hasZ s.types) d n t).2] 123 (0, 0)) ∧ Below wb w w' ∧ Kp wb w w'
structure MayR (S : Nat → Prop) (w0 : World) (wb : Nat) (bc : Array Value) (s : Sz) (c : C4) (a1 a2 : Option Addr) (us : List (List UInt8 × C4)) (gs : List (List UInt8 × G6)) (c1 c2 : Nat) (d : Nat) (ks : List Tz) (full : Nat × Nat) (ev iv : Value) (wr : World) (j e n : Nat) : Prop where
  slot : iv = .int .i64 j
  err : ev = .int .i64 e
  le : j ≤ ks.length
  rest : e = 0 → allZ (hasZ s.types) d n (ks.drop j) = full ∧ n ≤ 400
  bad : e ≠ 0 → full = (e, n)
  box : wr.heap[w0.heap.size]? = some (.cells bc 31 (0, 0))
  walk : wr.heap[wb]? = some (.cells #[.int .i64 c.k, .string c.n, .slice c.an c.ln c.cn, .slice c.ak c.lk c.ck, .slice a1 s.types.length c1, .slice a2 s.sigs.length c2, .int .i64 n] 123 (0, 0))
  below : Below wb w0 wr
  kp : Kp wb w0 wr
theorem allZ_drop {has : List UInt8 → Bool} {d n : Nat} {ks : List Tz} {i : Nat} (h : i < ks.length) : allZ has d n (ks.drop i) = if (oneZ has d n ks[i]).1 = 0 then allZ has d (oneZ has d n ks[i]).2 (ks.drop (i + 1)) else oneZ has d n ks[i] := by rw [List.drop_eq_getElem_cons h, allZ]
set_option maxRecDepth 100000 in
set_option maxHeartbeats 16000000 in
theorem may_step (S : Nat → Prop) (wb : Nat) (s : Sz) (c : C4) (a1 a2 : Option Addr) (us : List (List UInt8 × C4)) (gs : List (List UInt8 × G6)) (c1 c2 : Nat) (hl : s.types.length ≤ maxLen) (k : Int) (nm : List UInt8) (ns : List (List UInt8)) (ks : List Tz) (hf : fitZ (.mk k nm ns ks) = true) (ih : ∀ i (h : i < ks.length), MayP S wb s c a1 a2 us gs c1 c2 ks[i]) : MayP S wb s c a1 a2 us gs c1 c2 (.mk k nm ns ks) := by
  intro ct d n w hS hwb hn hd hV hT hW
  obtain ⟨f1, f2, f3, f4, f5⟩ := fitZ_mk hf
  unfold maxLen at f4
  cases hT with
  | mk _ _ _ _ an cn ak ck vs hkl hnr hkr hu =>
    obtain ⟨m0, m1, m2, m3, m4, m5, m6⟩ := seven_blk hW
    have mf := seven_frz hW
    generalize hfull : oneZ (hasZ s.types) d n (.mk k nm ns ks) = full
    rw [oneZ] at hfull
    obtain ⟨B, hB⟩ : ∃ B, B = w.heap.size := ⟨_, rfl⟩
    obtain ⟨W1, hW1⟩ : ∃ W1, W1 = (w.setCell ⟨wb, 6, none⟩ (.int .i64 ((n : Int) + 1))).alloc (.cells #[.int .i64 k, .string ⟨nm.toArray⟩, .slice an ns.length cn, .slice ak ks.length ck] 31) := ⟨_, rfl⟩
    have ho1 : Only wb w (w.setCell ⟨wb, 6, none⟩ (.int .i64 ((n : Int) + 1))) := (Only.refl _ _).setCell _ _
    have hz1 : W1.heap.size = w.heap.size + 1 := by rw [hW1]; simp
    have hb1 : Below wb w W1 := by rw [hW1]; exact (ho1.below (Nat.le_refl _) (by omega)).alloc (by simp; omega) _
    have hk1 : Kp wb w W1 := by rw [hW1]; exact ((Kp.refl wb w).only ho1).below ((Below.refl _ _).alloc (Nat.le_refl _) _)
    have hw1 : W1.heap[wb]? = some (.cells #[.int .i64 c.k, .string c.n, .slice c.an c.ln c.cn, .slice c.ak c.lk c.ck, .slice a1 s.types.length c1, .slice a2 s.sigs.length c2, .int .i64 ((n : Int) + 1)] 123 (0, 0)) := by rw [hW1]; exact blk_allocZ (set_seven hW _) _
    have hx1 : W1.heap[w.heap.size]? = some (.cells #[.int .i64 k, .string ⟨nm.toArray⟩, .slice an ns.length cn, .slice ak ks.length ck] 31 (0, 0)) := by rw [hW1, blk_if, if_pos (by simp)]
    have hwbz : (wb : Nat) < w.heap.size := hwb
    have HSS := Lib.hid hS; have HV := Lib.hid hV; have HW := Lib.hid hW; have HFU := Lib.hid hfull; have HNR := Lib.hid hnr; have HKR := Lib.hid hkr; have HU := Lib.hid hu; have HIH := Lib.hid ih; have HW1 := Lib.hid hW1; have HB1 := Lib.hid hb1; have HK1 := Lib.hid hk1; have HWK1 := Lib.hid hw1; have HX1 := Lib.hid hx1; have HFT := Lib.hid hf; have HKL := Lib.hid hkl
    clear hS hV hW hfull hnr hkr hu ih hW1 hb1 hk1 hw1 hx1 hf hkl ho1
    go_enter Try.func54, Try.ntmps54
    go_upto_region 2 with fail
    rw [← HW1.out]
    obtain ⟨y0, y1, y2, y3, y4, y5, y6⟩ := seven_blk HWK1.out
    have HWKN : Hid (W1.heap[wb]? = some (.cells #[.int .i64 c.k, .string c.n, .slice c.an c.ln c.cn, .slice c.ak c.lk c.ck, .slice a1 s.types.length c1, .slice a2 s.sigs.length c2, .int .i64 ((n + 1 : Nat) : Int)] 123 (0, 0))) := HWK1.out
    by_cases h400 : 400 < n + 1
    · have hz : (400 : Int) < (n : Int) + 1 := by omega
      have he : full = (3, n + 1) := by rw [← HFU.out, if_pos h400]
      have HE := Lib.hid he
      clear he h400
      go_wp2
      go_ret
      exact ⟨ret_intZ (by rw [HE.out]; rfl), by rw [HE.out]; exact HWKN.out, HB1.out, HK1.out⟩
    · have hz : ¬ (400 : Int) < (n : Int) + 1 := by omega
      by_cases h12 : 12 < d
      · have hdz : (12 : Int) < (d : Int) := by omega
        have he : full = (13, n + 1) := by rw [← HFU.out, if_neg h400, if_pos h12]
        have HE := Lib.hid he
        clear he h400
        go_wp2
        go_ret
        exact ⟨ret_intZ (by rw [HE.out]; rfl), by rw [HE.out]; exact HWKN.out, HB1.out, HK1.out⟩
      · have hdz : ¬ (12 : Int) < (d : Int) := by omega
        have hsb : ∀ g, S g → g < W1.heap.size := fun g hg => by have := HSS.out g hg; omega
        have hkeep : ∀ g, S g → W1.heap[g]? = w.heap[g]? := fun g hg => HB1.out.block g (HSS.out g hg)
        have HSV : Hid (SzS S W1 s c a1 a2 us gs) := ⟨hsb, HV.out.keep hkeep⟩
        have HNRW := Lib.hid (HNR.out.keep (fun _ h => h) hkeep)
        have HSB := Lib.hid hsb
        have hBz : B < W1.heap.size := by omega
        have HBX : Hid (W1.heap[B]? = some (.cells #[.int .i64 k, .string ⟨nm.toArray⟩, .slice an ns.length cn, .slice ak ks.length ck] 31 (0, 0))) := by rw [hB]; exact HX1.out
        clear hsb hkeep y0 y1 y2 y3 y4 y5
        go_wp2_with fail
        refine wp_region_by (QJ (fun (_ : Unit) i => match i with | 0 => .pointer (some ⟨wb, 0, none⟩) | 1 => .pointer (some ⟨wb, 0, none⟩) | 2 => .pointer (some ⟨wb, 0, none⟩) | 3 => .agg #[.int .i64 c.k, .string c.n, .slice c.an c.ln c.cn, .slice c.ak c.lk c.ck, .slice a1 s.types.length c1, .slice a2 s.sigs.length c2] | 4 => .agg #[.int .i64 k, .string ⟨nm.toArray⟩, .slice an ns.length cn, .slice ak ks.length ck] | 5 => .int .i64 (ownE (hasZ s.types) k nm ns ks.length : Nat) | 6 => .int .i64 (ownE (hasZ s.types) k nm ns ks.length : Nat) | _ => undef) (fun (_ : Unit) _ v => Below W1.heap.size W1 v)) (by kernel_rfl) ?_ ?_ ?_
        · exact ⟨by simp, Closed.start _, (), Fr.start _ _ _, Below.drew (Below.refl _ _)⟩
        · intro listed b v q hJ hi
          obtain ⟨hsz, hC, x, hF, hM⟩ := hJ
          obtain ⟨hl1, hiN⟩ := not_up hsz hi
          obtain ⟨_, o, ho, hdeps⟩ := mem_ready.1 hi
          have hiN : q < 7 := hiN
          obtain rfl | rfl | rfl | rfl | rfl | rfl | rfl : q = 0 ∨ q = 1 ∨ q = 2 ∨ q = 3 ∨ q = 4 ∨ q = 5 ∨ q = 6 := by omega
          · cases ho
            have e0 := hF.old_is 0 (by rfl) rfl
            refine QJ.quiet (x := x) hsz hC hi hF (Slots.of (by rfl)) rfl (wanted_none rfl) hM ?_
            show _ = Result.ok (Next.value (.pointer (some ⟨wb, 0, none⟩))) v
            simp [execOp, go_sem, e0]
          · cases ho
            have e23 : b.tmps[23]? = some (.pointer (some ⟨wb, 0, none⟩)) := hF.up 0 23 rfl (hdeps ⟨0, .data⟩ (by simp) rfl)
            refine QJ.quiet (x := x) hsz hC hi hF (Slots.of (by rfl)) rfl (wanted_none rfl) hM ?_
            show _ = Result.ok (Next.value (.pointer (some ⟨wb, 0, none⟩))) v
            simp [execOp, go_sem, e23]
          · cases ho
            have e24 : b.tmps[24]? = some (.pointer (some ⟨wb, 0, none⟩)) := hF.up 1 24 rfl (hdeps ⟨1, .data⟩ (by simp) rfl)
            refine QJ.quiet (x := x) hsz hC hi hF (Slots.of (by rfl)) rfl (wanted_none rfl) hM ?_
            show _ = Result.ok (Next.value (.pointer (some ⟨wb, 0, none⟩))) v
            simp [execOp, go_sem, e24]
          · cases ho
            obtain ⟨y0, y1, y2, y3, y4, y5, y6⟩ := seven_blk ((hM.block wb (by omega)).trans HWKN.out)
            have e25 : b.tmps[25]? = some (.pointer (some ⟨wb, 0, none⟩)) := hF.up 2 25 rfl (hdeps ⟨2, .data⟩ (by simp) rfl)
            refine QJ.quiet (x := x) hsz hC hi hF (Slots.of (by rfl)) rfl (wanted_none rfl) hM ?_
            show _ = Result.ok (Next.value (.agg #[.int .i64 c.k, .string c.n, .slice c.an c.ln c.cn, .slice c.ak c.lk c.ck, .slice a1 s.types.length c1, .slice a2 s.sigs.length c2])) v
            simp [execOp, go_sem, e25, y0, y1, y2, y3, y4, y5]
          · cases ho
            obtain ⟨⟨y0, y1, y2, y3⟩, _⟩ := four_blk ((hM.block w.heap.size (by omega)).trans HX1.out)
            have e4 := hF.old_is 4 (by rfl) rfl
            refine QJ.quiet (x := x) hsz hC hi hF (Slots.of (by rfl)) rfl (wanted_none rfl) hM ?_
            show _ = Result.ok (Next.value (.agg #[.int .i64 k, .string ⟨nm.toArray⟩, .slice an ns.length cn, .slice ak ks.length ck])) v
            simp [execOp, go_sem, e4, y0, y1, y2, y3]
          · cases ho
            have e26 : b.tmps[26]? = some (.agg #[.int .i64 c.k, .string c.n, .slice c.an c.ln c.cn, .slice c.ak c.lk c.ck, .slice a1 s.types.length c1, .slice a2 s.sigs.length c2]) := hF.up 3 26 rfl (hdeps ⟨3, .data⟩ (by simp) rfl)
            have e27 : b.tmps[27]? = some (.agg #[.int .i64 k, .string ⟨nm.toArray⟩, .slice an ns.length cn, .slice ak ks.length ck]) := hF.up 4 27 rfl (hdeps ⟨4, .data⟩ (by simp) rfl)
            refine QJ.call (x := x) (f := 73) (args := #[.agg #[.int .i64 c.k, .string c.n, .slice c.an c.ln c.cn, .slice c.ak c.lk c.ck, .slice a1 s.types.length c1, .slice a2 s.sigs.length c2], .agg #[.int .i64 k, .string ⟨nm.toArray⟩, .slice an ns.length cn, .slice ak ks.length ck]]) hsz hC hi hF (Slots.of (by rfl)) rfl (wanted_none rfl) (by simp [execOp, go_sem, e26, e27]) (own_ref s c a1 a2 us gs c1 c2 k nm ns ks an ak cn ck v (HSV.out.anyB hM) (HNRW.out.keep (fun g hg => Nat.lt_of_lt_of_le (HSB.out g hg) hM.size) (fun g hg => hM.block g (HSB.out g hg))) hl HFT.out) ?_
            rintro e w' ⟨rfl, hb⟩
            exact ⟨(), rfl, fun _ _ => rfl, hM.trans (hb.mono hM.size)⟩
          · cases ho
            have e28 : b.tmps[28]? = some (.int .i64 (ownE (hasZ s.types) k nm ns ks.length : Nat)) := hF.up 5 28 rfl (hdeps ⟨5, .data⟩ (by simp) rfl)
            refine QJ.quiet (x := x) hsz hC hi hF (Slots.of (by rfl)) rfl (wanted_none rfl) hM ?_
            show _ = Result.ok (Next.value (.int .i64 (ownE (hasZ s.types) k nm ns ks.length : Nat))) v
            simp [execOp, go_sem, e28]
        · intro listed b W2 hJ hr
          obtain ⟨hsz, hC, x, hF, hM⟩ := hJ
          have hall := all_upB (by rfl) hsz hr
          have hb : b = putAll _ _ _ 7 := hF.done (Slots.of (by rfl)) hall
          subst hb
          simp only [putAll]
          simp [dstOf]
          have hb2 : Below wb w W2 := HB1.out.trans (hM.mono (by omega))
          have hk2 : Kp wb w W2 := HK1.out.below hM
          have hbx2 := (hM.block B hBz).trans HBX.out
          have hwk2 := (hM.block wb (by omega)).trans HWKN.out
          obtain ⟨E, hE⟩ : ∃ E, E = ownE (hasZ s.types) k nm ns ks.length := ⟨_, rfl⟩
          rw [← hE]
          have hrest : E = 0 → allZ (hasZ s.types) (d + 1) (n + 1) (ks.drop 0) = full ∧ n + 1 ≤ 400 := fun e => ⟨by rw [← HFU.out, if_neg h400, if_neg h12, ← hE, if_neg (by omega)]; rfl, by omega⟩
          have hbad : E ≠ 0 → full = (E, n + 1) := fun e => by rw [← HFU.out, if_neg h400, if_neg h12, ← hE, if_pos e]
          have HB2 := Lib.hid hb2; have HK2 := Lib.hid hk2; have HBX2 := Lib.hid hbx2; have HWK2 := Lib.hid hwk2; have HRE := Lib.hid hrest; have HBA := Lib.hid hbad
          clear hM hF hC hall hr hsz hb2 hk2 hbx2 hwk2 hrest hbad hE
          subst hB
          go_wp2_with fail
          go_loopw [7, 8] (fun v7 v8 wr => ∃ j e n', MayR S w wb #[.int .i64 k, .string ⟨nm.toArray⟩, .slice an ns.length cn, .slice ak ks.length ck] s c a1 a2 us gs c1 c2 (d + 1) ks full v7 v8 wr j e n') (fun _ v8 _ => ks.length - (intOf v8).toNat)
          case atStart => exact ⟨0, E, n + 1, rfl, rfl, Nat.zero_le _, HRE.out, HBA.out, HBX2.out, HWK2.out, HB2.out, HK2.out⟩
          case round =>
            obtain ⟨j, e, n', h⟩ := hrel
            obtain rfl := h.slot
            obtain rfl := h.err
            have hle := h.le
            obtain ⟨⟨t0, t1, t2, t3⟩, _⟩ := four_blk h.box
            have hbz := (Array.getElem?_eq_some_iff.1 h.box).1
            have H := Lib.hid h
            clear h
            by_cases hj : j < ks.length
            · have hjz : (j : Int) < (ks.length : Int) := by omega
              have hj0 : (0 : Int) ≤ (j : Int) := by omega
              by_cases he : e = 0
              · subst he
                obtain ⟨hrest, hn'⟩ := H.out.rest rfl
                have hju : j < vs.length := by rw [HKL.out]; exact hj
                obtain ⟨g, o, rfl, hg, hc⟩ := four_at HKR.out HSS.out j hju
                obtain ⟨q0, q1, q2, q3⟩ := hc wr (fun i hi => H.out.below.block i hi)
                have C : Calls Try.prog 54 #[.pointer (some ⟨wb, 0, none⟩), .agg #[.int .i64 vs[j].k, .string vs[j].n, .slice vs[j].an vs[j].ln vs[j].cn, .slice vs[j].ak vs[j].lk vs[j].ck], .int .i64 ((d : Int) + 1)] wr _ := HIH.out j hj vs[j] (d + 1) n' wr HSS.out (Array.getElem?_eq_some_iff.1 H.out.walk).1 hn' (by omega) (HV.out.keep (fun g hg => H.out.below.block g (HSS.out g hg))) ((HU.out j hj hju).keep (fun _ h => h) (fun g hg => H.out.below.block g (HSS.out g hg))) H.out.walk
                rw [allZ_drop hj] at hrest
                have hle2 := oneZ_le (hasZ s.types) ks[j] (d + 1) n' hn'
                generalize oneZ (hasZ s.types) (d + 1) n' ks[j] = r at *
                obtain ⟨e2, n2⟩ := r
                have HC := Lib.hid C; have HRE2 := Lib.hid hrest; have HLE := Lib.hid hle2
                clear C hrest hc hle2
                generalize vs[j] = x at *
                go_wp2_with (go_at_call 54; (with_reducible refine HC.out.mono ?_); rintro e3 w2 ⟨rfl, x2, x3, x4⟩; have HX2 := Lib.hid x2; have HX3 := Lib.hid x3; have HX4 := Lib.hid x4; clear x2 x3 x4)
                go_roundw
                case rel => exact ⟨j + 1, e2, n2, by go_num, rfl, by omega, fun h => ⟨by have := HRE2.out; rw [if_pos h] at this; exact this, HLE.out h⟩, fun h => by have := HRE2.out; rw [if_neg h] at this; exact this.symm, (HX4.out.blk _ hbz (by omega)).trans H.out.box, HX2.out, H.out.below.trans HX3.out, ⟨Nat.le_trans H.out.kp.size HX4.out.size, fun g h1 h2 => (HX4.out.blk g (Nat.lt_of_lt_of_le h1 H.out.kp.size) h2).trans (H.out.kp.blk g h1 h2)⟩⟩
                case measure => simp [intOf]; omega
              · have hez : ((e : Int) == 0) = false := by rw [beq_eq_false_iff_ne]; omega
                have hfe := H.out.bad he
                have HE := Lib.hid hfe
                clear hfe he
                go_wp2
                go_ret
                exact ⟨ret_intZ (by rw [HE.out]), by rw [HE.out]; exact H.out.walk, H.out.below, H.out.kp⟩
            · have hjz : ¬ (j : Int) < (ks.length : Int) := by omega
              have hfe : full = (e, n') := by
                by_cases he : e = 0
                · have := (H.out.rest he).1
                  rw [List.drop_of_length_le (by omega), allZ] at this
                  rw [← this, he]
                · exact H.out.bad he
              have HE := Lib.hid hfe
              clear hfe
              go_wp2
              go_ret
              exact ⟨ret_intZ (by rw [HE.out]), by rw [HE.out]; exact H.out.walk, H.out.below, H.out.kp⟩
theorem may_all (S : Nat → Prop) (wb : Nat) (s : Sz) (c : C4) (a1 a2 : Option Addr) (us : List (List UInt8 × C4)) (gs : List (List UInt8 × G6)) (c1 c2 : Nat) (hl : s.types.length ≤ maxLen) : ∀ (N : Nat) (t : Tz), sizeZ t ≤ N → fitZ t = true → MayP S wb s c a1 a2 us gs c1 c2 t
  | 0, .mk k n ns ks, h, _ => by simp only [sizeZ] at h; omega
  | N + 1, .mk k n ns ks, h, hf => by
    have h5 := (fitZ_mk hf).2.2.2.2
    exact may_step S wb s c a1 a2 us gs c1 c2 hl k n ns ks hf fun i hi => may_all S wb s c a1 a2 us gs c1 c2 hl N ks[i] (by have := sizeZ_mem ks i hi; simp only [sizeZ] at h; omega) (fitZs_mem ks h5 i hi)
theorem may_ref (S : Nat → Prop) (wb : Nat) (s : Sz) (c : C4) (a1 a2 : Option Addr) (us : List (List UInt8 × C4)) (gs : List (List UInt8 × G6)) (c1 c2 : Nat) (hl : s.types.length ≤ maxLen) (t : Tz) (hf : fitZ t = true) : MayP S wb s c a1 a2 us gs c1 c2 t := may_all S wb s c a1 a2 us gs c1 c2 hl _ t (Nat.le_refl _) hf
end Sp
end Go.Proofs.Yteooafgdmpbjeab
