/- New: the table of a schema that passes the check, or the error. -/
import Derived.Test.YtdophmlnmbcjlaaT42
import Derived.Test.YtdophmlnmbcjlaaT17
import Derived.Test.YtdophmlnmbcjlaaT23
import Derived.Test.YtdophmlnmbcjlaaT27
namespace Go.Proofs.Ytdophmlnmbcjlaa
open Go.RowKit
namespace Sp
open Sc
set_option maxRecDepth 100000
theorem stv_made (w : World) (B : Nat) (hB : B ≤ w.heap.size) :
    StV B (((w.alloc (.map #[] 0)).alloc (.map #[] 0)).alloc (.cells #[.slice none 0 0, .map none, .map (some w.heap.size), .map (some (w.heap.size + 1)), .int .i64 0] 75)) (w.heap.size + 2) (w.heap.size + 2) (w.heap.size + 2) w.heap.size (w.heap.size + 1) 0 (.slice none 0 0) (.map none) [] [] [] [] := by
  obtain ⟨W, hW⟩ : ∃ W, W = ((w.alloc (.map #[] 0)).alloc (.map #[] 0)).alloc (.cells #[.slice none 0 0, .map none, .map (some w.heap.size), .map (some (w.heap.size + 1)), .int .i64 0] 75) := ⟨_, rfl⟩
  rw [← hW]
  have hz : W.heap.size = w.heap.size + 3 := by rw [hW]; simp
  have hm : TxtV W w.heap.size [] := by
    refine (TxtV.made w).same ?_
    rw [hW, Below.heap_alloc _ _ _ (by simp; omega), Below.heap_alloc _ _ _ (by simp)]
  have hs : TxtV W (w.heap.size + 1) [] := by
    have h1 := TxtV.made (w.alloc (.map #[] 0))
    rw [show (w.alloc (.map #[] 0)).heap.size = w.heap.size + 1 by simp] at h1
    refine h1.same ?_
    rw [hW, Below.heap_alloc _ _ _ (by simp)]
  refine ⟨⟨?_, World.ownsRow_nil _ _ _ _, .inl ⟨rfl, rfl, rfl⟩, .inl ⟨rfl, rfl, rfl⟩, (fun k hk => by cases hk), TabW.nil, by omega, by omega, by omega, by omega⟩, hm, ⟨rfl, hs, (fun i h => by cases h)⟩, fun g hg => ?_, hB, by omega, by omega⟩
  · have := heap_alloc_new ((w.alloc (.map #[] 0)).alloc (.map #[] 0)) (.cells #[.slice none 0 0, .map none, .map (some w.heap.size), .map (some (w.heap.size + 1)), .int .i64 0] 75)
    rw [show ((w.alloc (.map #[] 0)).alloc (.map #[] 0)).heap.size = w.heap.size + 2 by simp, ← hW] at this
    exact this
  · rcases hg with h1 | h1 | h1 <;> omega
/-- What New leaves. -/
def MadeK (B : Nat) (w' : World) (e : Ending) (p : Nat × Tab) : Prop :=
  (p.1 = 0 → ∃ tb rb nb mb sb ty nu vs, e = .returned (.tuple #[.pointer (some ⟨tb, 0, none⟩), .int .i64 0]) ∧ StV B w' tb rb nb mb sb p.2.m ty nu p.2.T p.2.N p.2.G vs) ∧
  (p.1 ≠ 0 → e = .returned (.tuple #[.pointer none, .int .i64 (p.1 : Nat)]))
set_option maxHeartbeats 4000000 in
theorem New_any (s : Sz) (c : C4) (a1 a2 : Option Addr) (us : List (List UInt8 × C4)) (gs : List (List UInt8 × G6)) (c1 c2 : Nat) (w : World) (S : Nat → Prop) (hS : ∀ b, S b → b < w.heap.size) (hV : SzV w S s c a1 us a2 gs) (hf : SzFit s) (hsh : ShortS s) (hnt : s.types.length ≤ 1000000) (hng : s.sigs.length ≤ 1000000) :
    Calls Try.prog 10 #[.agg #[.int .i64 c.k, .string c.n, .slice c.an c.ln c.cn, .slice c.ak c.lk c.ck, .slice a1 s.types.length c1, .slice a2 s.sigs.length c2]] w fun e w' => MadeK w.heap.size w' e (newK s) ∧ Below w.heap.size w w' := by
  obtain ⟨W1, hW1⟩ : ∃ W1, W1 = w.alloc (.cells #[.int .i64 c.k, .string c.n, .slice c.an c.ln c.cn, .slice c.ak c.lk c.ck, .slice a1 s.types.length c1, .slice a2 s.sigs.length c2] 34) := ⟨_, rfl⟩
  have hz1 : W1.heap.size = w.heap.size + 1 := by rw [hW1]; simp
  have hb1 : Below w.heap.size w W1 := by rw [hW1]; exact (Below.refl _ _).alloc (Nat.le_refl _) _
  have hs1 : W1.heap[w.heap.size]? = some (.cells #[.int .i64 c.k, .string c.n, .slice c.an c.ln c.cn, .slice c.ak c.lk c.ck, .slice a1 s.types.length c1, .slice a2 s.sigs.length c2] 34 (0, 0)) := by rw [hW1]; exact heap_alloc_new w _
  have C := Check_any S s c a1 a2 us gs c1 c2 (refC s) W1 (fun g hg => by have := hS g hg; omega) hf hnt hng (hV.keep fun g hg => hb1.block g (hS g hg)) (check_same s)
  have hmm := @run_makeMap Try.prog
  obtain ⟨⟨x1, x2, x3⟩, hx⟩ : ∃ x, newK s = x := ⟨_, rfl⟩
  rw [hx]
  unfold newK at hx
  have HC := Lib.hid C; have HV := Lib.hid hV; have HS := Lib.hid hS; have HW1 := Lib.hid hW1; have HB1 := Lib.hid hb1; have HS1 := Lib.hid hs1; have HF := Lib.hid hf; have HSH := Lib.hid hsh; have HX := Lib.hid hx
  clear C hV hS hW1 hb1 hs1 hf hsh hx
  obtain ⟨⟨p0, p1, p2, p3, p4, p5⟩, _⟩ := six_blkF HS1.out
  by_cases h0 : refC s = 0
  · have hf := HX.out
    rw [if_neg (by simpa using h0)] at hf
    have hl : s.types.length ≤ 12 ∧ s.sigs.length ≤ 12 := by
      unfold refC at h0
      split at h0
      · cases h0
      · omega
    obtain ⟨hl1, hl2⟩ := hl
    rw [h0] at HC
    have HX2 := Lib.hid hf
    clear hf HX h0
    go_enter Try.func10, Try.ntmps10
    go_upto_region 1 with fail
    rw [← HW1.out]
    clear HW1
    go_upto_region 4 with (go_at_call 24; (refine HC.out.mono ?_); rintro e w2 ⟨rfl, b2⟩; have hz2 := b2.size; have HB2 := Lib.hid b2; clear b2)
    clear p0 p1 p2 p3 p4 p5
    obtain ⟨W3, hW3⟩ : ∃ W3, W3 = ((w2.alloc (.map #[] 0)).alloc (.map #[] 0)).alloc (.cells #[.slice none 0 0, .map none, .map (some w2.heap.size), .map (some (w2.heap.size + 1)), .int .i64 0] 75) := ⟨_, rfl⟩
    have hst := stv_made w2 w.heap.size (by omega)
    rw [← hW3] at hst
    have hz3 : W3.heap.size = w2.heap.size + 3 := by rw [hW3]; simp
    have hb3 : Below w2.heap.size w2 W3 := by rw [hW3]; exact (((Below.refl _ _).alloc (Nat.le_refl _) _).alloc (by simp) _).alloc (by simp; omega) _
    have hs3 := (hb3.block w.heap.size (by omega)).trans ((HB2.out.block w.heap.size (by omega)).trans HS1.out)
    obtain ⟨⟨p0, p1, p2, p3, p4, p5⟩, _⟩ := six_blkF hs3
    have hlow : Below w.heap.size w W3 := HB1.out.trans ((HB2.out.mono (by omega)).trans (hb3.mono (by omega)))
    have CS := cschema_any s c a1 a2 us gs c1 c2 W3 w.heap.size (w2.heap.size + 2) w2.heap.size (w2.heap.size + 1) S (by omega) HS.out (HV.out.keep fun g hg => hlow.block g (HS.out g hg)) HSH.out hl1 hl2 hst
    rw [HX2.out] at CS
    dsimp only at CS
    have HCS := Lib.hid CS; have HW3 := Lib.hid hW3; have HLOW := Lib.hid hlow
    clear CS hW3 hlow hs3 hb3 hst HX2
    go_upto_region 5 with fail
    rw [← HW3.out]
    clear HW3
    by_cases h1 : x1 = 0
    · subst h1
      go_wp2_with (go_at_call 25; (refine HCS.out.mono ?_); rintro e w4 ⟨rfl, b4, h4⟩; have HB4 := Lib.hid b4; have H4 := Lib.hid h4; clear b4 h4)
      go_ret2
      refine ⟨⟨fun _ => ?_, fun h => absurd rfl h⟩, HLOW.out.trans HB4.out⟩
      obtain ⟨rb, nb, ty, nu, vs, k⟩ := H4.out (by trivial)
      exact ⟨_, rb, nb, _, _, ty, nu, vs, rfl, k⟩
    · have t0 : ((x1 : Nat) == (0 : Int)) = false := by simp; omega
      have hne : (x1 : Int) ≠ 0 := by omega
      go_wp2_with (go_at_call 25; (refine HCS.out.mono ?_); rintro e w4 ⟨rfl, b4, -⟩; have HB4 := Lib.hid b4; clear b4)
      go_ret2
      exact ⟨⟨fun h => absurd h h1, fun _ => rfl⟩, HLOW.out.trans HB4.out⟩
  · have hf := HX.out
    rw [if_pos h0] at hf
    cases hf
    have t0 : ((refC s : Nat) == (0 : Int)) = false := by simp; omega
    have hne : (refC s : Int) ≠ 0 := by omega
    go_enter Try.func10, Try.ntmps10
    go_upto_region 1 with fail
    rw [← HW1.out]
    clear HW1
    go_wp2_with (go_at_call 24; (refine HC.out.mono ?_); rintro e w2 ⟨rfl, b2⟩; have hz2 := b2.size; have HB2 := Lib.hid b2; clear b2)
    go_ret2
    exact ⟨⟨fun h => absurd h h0, fun _ => rfl⟩, HB1.out.trans (HB2.out.mono (by omega))⟩
end Sp
end Go.Proofs.Ytdophmlnmbcjlaa
namespace Go.Proofs.Ytdophmlnmbcjlaa
open Go.RowKit
namespace Sp
open Sc
set_option maxRecDepth 100000
theorem getD_setS {listed : Array Bool} {i : Nat} (h : i < listed.size) : (listed.setIfInBounds i true).getD i false = true := by rw [getD_setF]; simp [h]
theorem all_up2 {ops : Array Oper} {md : Region.Mode} {listed : Array Bool} (hb : ∀ (j : Nat) (o : Oper), ops[j]? = some o → ∀ e ∈ o.after, Region.binds md e = true → e.on < j ∧ e.on < ops.size) (hs : listed.size = ops.size) (hr : Region.ready md ops listed = []) : ∀ n j, j < n → j < ops.size → listed.getD j true = true
  | 0, j, h, _ => absurd h (Nat.not_lt_zero _)
  | n + 1, j, h, hj => by
    cases hl : listed.getD j true with
    | true => rfl
    | false =>
      have hm : j ∈ Region.ready md ops listed := by
        refine mem_ready.2 ⟨hl, ops[j], Array.getElem?_eq_getElem hj, fun e he hbd => ?_⟩
        obtain ⟨h1, h2⟩ := hb j ops[j] (Array.getElem?_eq_getElem hj) e he hbd
        have := all_up2 hb hs hr n e.on (by omega) h2
        rw [Array.getD_eq_getD_getElem?, Array.getElem?_eq_getElem (by omega)] at this ⊢
        simpa using this
      rw [hr] at hm
      cases hm
def edgesB2 (md : Region.Mode) (ops : Array Oper) : Bool := (List.range ops.size).all fun j => match ops[j]? with | some o => o.after.toList.all fun e => !Region.binds md e || (decide (e.on < j) && decide (e.on < ops.size)) | none => true
theorem all_upB2 {ops : Array Oper} {md : Region.Mode} {listed : Array Bool} (hb : edgesB2 md ops = true) (hs : listed.size = ops.size) (hr : Region.ready md ops listed = []) : ∀ i, i < ops.size → listed.getD i false = true := fun i hi => by
  have h := all_up2 (md := md) (fun j o ho e he hbd => by
    have a := List.all_eq_true.1 hb j (List.mem_range.2 (Array.getElem?_eq_some_iff.1 ho).1)
    rw [ho] at a
    have b := List.all_eq_true.1 a e (Array.mem_toList_iff.2 he)
    rw [hbd] at b
    simpa only [Bool.not_true, Bool.false_or, Bool.and_eq_true, decide_eq_true_eq] using b) hs hr (i + 1) i (Nat.lt_succ_self i) hi
  rw [Array.getD_eq_getD_getElem?, Array.getElem?_eq_getElem (by omega)] at h ⊢
  simpa using h
/-- One that stores. -/
theorem QJ.store {P : Program} {ops : Array Oper} {Q : Exit → Act → World → Prop} {α : Type} {vals : α → Nat → Value} {M : α → Array Bool → World → Prop} {a0 b : Act} {listed : Array Bool} {v v' : World} {i : Nat} {o : Oper} {x : α} (hz : listed.size = ops.size) (hC : Closed ops listed) (hi : i ∈ Region.ready .any ops listed) (hF : Fr ops a0 (vals x) listed b) (hs : Slots ops a0.tmps.size) (ho : ops[i]? = some o) (hd : o.dst = none) (hg : Region.wanted o (yielded ops b.tmps) = true) (hM : M x (listed.setIfInBounds i true) v')
    (hr : (execOp b.eval o).run P v = .ok .skip v') : wpOp P ops Q i (fun b' v' => QJ vals M ops a0 (listed.setIfInBounds i true) b' v') b v := by
  refine wpOp_wpG ho hg ?_
  unfold Oper.wp
  rw [hr]
  have h := hF.put hs hz ho
  rw [hd] at h
  refine ⟨by simp [hz], hC.put hi, x, ?_, hM⟩
  rw [hd]
  exact h
def KeyAt (w : World) (kb o : Nat) (k : Kz) : Prop := ∀ i v, k.cells[i]? = some v → w.cell? ⟨kb, o + i, none⟩ = some v
theorem KeyAt.keep {w w' : World} {kb o : Nat} {k : Kz} (h : KeyAt w kb o k) (hk : w'.heap[kb]? = w.heap[kb]?) : KeyAt w' kb o k := fun i v hv => (World.cell?_of_block (a := ⟨kb, o + i, none⟩) hk).trans (h i v hv)
theorem KeyAt.three {w : World} {kb o : Nat} {k : Kz} (h : KeyAt w kb o k) : w.cell? ⟨kb, o, none⟩ = some (.int .i64 k.kind) ∧ w.cell? ⟨kb, o + 1, none⟩ = some (.string ⟨k.name.toArray⟩) ∧ w.cell? ⟨kb, o + 2, none⟩ = some (.int .i64 (k.kids.length : Nat)) := ⟨h 0 _ rfl, h 1 _ rfl, h 2 _ rfl⟩
theorem KeyAt.kids {w : World} {kb o : Nat} {k : Kz} (h : KeyAt w kb o k) (hk : WfK k) : ∀ j u, (k.kids.map fun (j : Nat) => Value.int .i64 (j : Nat))[j]? = some u → w.cell? ((⟨kb, o + 11, none⟩ : Addr).add j) = some u := fun j u hu => by
  obtain ⟨hj, rfl⟩ := List.getElem?_eq_some_iff.1 hu
  simp only [List.length_map] at hj
  have e : (⟨kb, o + 11, none⟩ : Addr).add j = ⟨kb, o + (11 + j), none⟩ := by unfold Addr.add; split <;> simp_all [Nat.add_assoc]
  rw [e]
  refine h (11 + j) _ ?_
  have h8 := hk.few
  rw [List.getElem_map]
  have hg : k.kids[j] = k.kids.getD j 0 := by rw [List.getD, List.getElem?_eq_getElem hj]; rfl
  rw [hg]
  obtain rfl | rfl | rfl | rfl | rfl | rfl | rfl | rfl : j = 0 ∨ j = 1 ∨ j = 2 ∨ j = 3 ∨ j = 4 ∨ j = 5 ∨ j = 6 ∨ j = 7 := by omega
  all_goals rfl
theorem KeyAt.names {w : World} {kb o : Nat} {k : Kz} (h : KeyAt w kb o k) (hk : WfK k) : ∀ j u, (k.names.map str)[j]? = some u → w.cell? ((⟨kb, o + 3, none⟩ : Addr).add j) = some u := fun j u hu => by
  obtain ⟨hj, rfl⟩ := List.getElem?_eq_some_iff.1 hu
  simp only [List.length_map] at hj
  have e : (⟨kb, o + 3, none⟩ : Addr).add j = ⟨kb, o + (3 + j), none⟩ := by unfold Addr.add; split <;> simp_all [Nat.add_assoc]
  rw [e]
  refine h (3 + j) _ ?_
  have h8 := hk.names8
  rw [List.getElem_map]
  have hg : k.names[j] = k.names.getD j [] := by rw [List.getD, List.getElem?_eq_getElem hj]; rfl
  rw [hg]
  obtain rfl | rfl | rfl | rfl | rfl | rfl | rfl | rfl : j = 0 ∨ j = 1 ∨ j = 2 ∨ j = 3 ∨ j = 4 ∨ j = 5 ∨ j = 6 ∨ j = 7 := by omega
  all_goals rfl
/-- The numbers of the kids, as a row. -/
def KidsV (w : World) (S : Nat → Prop) (k : Kz) (v : Value) : Prop := ∃ a c, v = .slice a k.kids.length c ∧ RowV w S a 1 (k.kids.map fun (j : Nat) => [Value.int .i64 (j : Nat)])
theorem KidsV.keep {w w' : World} {S S' : Nat → Prop} {k : Kz} {v : Value} (h : KidsV w S k v) (hS : ∀ g, S g → S' g) (hk : ∀ g, S g → w'.heap[g]? = w.heap[g]?) : KidsV w' S' k v := by
  obtain ⟨a, c, e, h⟩ := h
  exact ⟨a, c, e, h.keep hS hk⟩
def nodC (k : Kz) (s : Value) : Array Value := #[.int .i64 k.kind, .string ⟨k.name.toArray⟩, .slice none 0 0, s]
def nodZ : Array Value := #[.int .i64 0, .string ⟨#[]⟩, .slice none 0 0, .slice none 0 0]
structure NdM (w0 : World) (k : Kz) (b16 b18 b19 : Bool) (x : Nat × Value) (v : World) : Prop where
  below : Below w0.heap.size w0 v
  app : b16 = true → KidsV v (fun g => w0.heap.size ≤ g ∧ g < v.heap.size ∧ (b18 = true → g ≠ x.1)) k x.2
  box : b18 = true → w0.heap.size ≤ x.1 ∧ x.1 < v.heap.size ∧ v.heap[x.1]? = some (.cells (if b19 = true then nodC k x.2 else nodZ) 59 (0, 0))
section
variable {w0 v : World} {k : Kz} {b16 b18 : Bool} {x : Nat × Value}
theorem NdM.add (h : NdM w0 k false b18 false x v) {s : Value} {w' : World} (hown : w'.ownsRow v.heap.size 3 1 s k.kids.length (k.kids.map fun (j : Nat) => Value.int .i64 (j : Nat))) (hg : v.grownBy w' none) : NdM w0 k true b18 false (x.1, s) w' := by
  have hb := below_grown (B := v.heap.size) hg (fun g e => by cases e) (Nat.le_refl _)
  have hz := hb.size
  have hz0 := h.below.size
  refine ⟨h.below.trans (hb.mono hz0), fun _ => ?_, fun e => ?_⟩
  · obtain ⟨a, c, e, hr⟩ := RowV.own (l := k.kids.map fun (j : Nat) => [Value.int .i64 (j : Nat)]) (S := fun g => v.heap.size ≤ g ∧ g < w'.heap.size) (by rw [show (k.kids.map fun (j : Nat) => [Value.int .i64 (j : Nat)]).flatten = k.kids.map fun (j : Nat) => Value.int .i64 (j : Nat) by induction k.kids with | nil => rfl | cons a l ih => simp [ih]]; exact hown) (fun x hx => by obtain ⟨y, _, rfl⟩ := List.mem_map.1 hx; rfl) (by simp) (fun g e => hown.lt g e)
    exact ⟨a, c, e, hr.keep (fun g hg => ⟨by have := hg.1; omega, hg.2, fun hb18 e => by have := (h.box hb18).2.1; have := hg.1; dsimp only at e; omega⟩) (fun _ _ => rfl)⟩
  · obtain ⟨h1, h2, h3⟩ := h.box e
    exact ⟨h1, by dsimp only; omega, (hb.block _ h2).trans h3⟩
theorem NdM.make (h : NdM w0 k b16 false false x v) : NdM w0 k b16 true false (v.heap.size, x.2) (v.alloc (.cells nodZ 59)) := by
  have hb : Below v.heap.size v (v.alloc (.cells nodZ 59)) := (Below.refl _ _).alloc (Nat.le_refl _) _
  have hz0 := h.below.size
  refine ⟨h.below.trans (hb.mono hz0), fun e => (h.app e).keep (fun g hg => ⟨hg.1, by have := hg.2.1; simp; omega, fun _ => by have := hg.2.1; dsimp only; omega⟩) (fun g hg => hb.block g hg.2.1), fun _ => ⟨hz0, by simp, ?_⟩⟩
  exact heap_alloc_new v _
theorem NdM.put (h : NdM w0 k true true false x v) :
    NdM w0 k true true true x ((((v.setCell ⟨x.1, 0, none⟩ (.int .i64 k.kind)).setCell ⟨x.1, 1, none⟩ (.string ⟨k.name.toArray⟩)).setCell ⟨x.1, 2, none⟩ (.slice none 0 0)).setCell ⟨x.1, 3, none⟩ x.2) := by
  obtain ⟨h1, h2, h3⟩ := h.box rfl
  rw [if_neg (by decide)] at h3
  have hz0 := h.below.size
  obtain ⟨W, hW⟩ : ∃ W, W = ((((v.setCell ⟨x.1, 0, none⟩ (.int .i64 k.kind)).setCell ⟨x.1, 1, none⟩ (.string ⟨k.name.toArray⟩)).setCell ⟨x.1, 2, none⟩ (.slice none 0 0)).setCell ⟨x.1, 3, none⟩ x.2) := ⟨_, rfl⟩
  have hk : Keeps (fun g => g = x.1) v W := by rw [hW]; exact ((((Keeps.refl (fun g => g = x.1) _).setCell 0 _ rfl).setCell 1 _ rfl).setCell 2 _ rfl).setCell 3 _ rfl
  have hs : W.heap.size = v.heap.size := by rw [hW]; simp
  rw [← hW]
  refine ⟨h.below.trans (hk.below hz0 (fun g e => by rw [e]; exact h1)), fun _ => (h.app rfl).keep (fun g hg => ⟨hg.1, by rw [hs]; exact hg.2.1, hg.2.2⟩) (fun g hg => hk.block g hg.2.1 (hg.2.2 rfl)), fun _ => ⟨h1, by rw [hs]; exact h2, ?_⟩⟩
  rw [if_pos rfl, hW]
  exact set_four h3
end
end Sp
end Go.Proofs.Ytdophmlnmbcjlaa
