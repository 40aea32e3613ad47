/- A command. -/
import Derived.Test.YtlfbcaenlifmkaaGreatDoorB15
import Derived.Laws.OwnMore
namespace Go.Proofs.YtlfbcaenlifmkaaGreatDoor
open Go.RowKit
namespace Tr
open Sc Sh Sp
/-- What command leaves. -/
def CmdP (w : World) (rb br : Nat) (x : List Op × R) (e : Ending) (w' : World) : Prop :=
  ∃ u : CU, e = .returned (.agg #[u.val]) ∧ RdE w' rb x.2 br ∧ Only rb w w' ∧ CmdV w' (Span w.heap.size w'.heap.size) x.1 u
/-- A row written out, of one thing. -/
theorem Gat.lit {α : Type} {e : TypeId} {sz : Nat} {enc : α → List Value} {V : World → (Nat → Prop) → α → Prop} (hV : Keeps V) {w0 w1 : World} {rb : Nat} (h : Only rb w0 w1) {y : α} (hs : (enc y).length = sz) (hy : V w1 (Span w0.heap.size w1.heap.size) y) :
    Gat e sz enc V w0 (w1.alloc (.cells (enc y).toArray e)) rb (.slice (some ⟨w1.heap.size, 0, none⟩) 1 1) [y] := by
  refine ⟨?_, h.trans (Only.alloc rb w1 _), Span w0.heap.size w1.heap.size, fun g hg => ⟨hg.1, by have := hg.2; simp; omega⟩, fun g e hg => ?_, fun z hz => ?_⟩
  · have := World.ownsRow_lit (base := w0.heap.size) (e := e) (size := sz) w1 (enc y).toArray 1 h.size (by unfold maxLen; omega) (by simp [hs])
    simpa using this
  · cases e; have := hg.2; simp at this
  · cases List.mem_singleton.1 hz
    exact hV _ _ _ _ _ hy (fun _ h => h) (fun g hg => Below.heap_alloc _ _ _ hg.2)
theorem one_blk {w : World} {b : Nat} {t : TypeId} {v0 : Value} (h : w.heap[b]? = some (.cells #[v0] t (0, 0))) : w.cell? ⟨b, 0, none⟩ = some v0 ∧ w.frozen? ⟨b, 0, none⟩ = false := by
  refine ⟨?_, ?_⟩ <;> simp [World.cell?, World.frozen?, h]
theorem set_one {w : World} {b : Nat} {t : TypeId} {v0 : Value} {fr : Nat × Nat} (h : w.heap[b]? = some (.cells #[v0] t fr)) (v : Value) : (w.setCell ⟨b, 0, none⟩ v).heap[b]? = some (.cells #[v] t fr) := by
  unfold World.setCell; simp [Array.getElem?_modify, h]
/-- The end: the result's block is written. -/
theorem CmdP.fin {w w4 : World} {rb br : Nat} {r : R} {ops : List Op} {u : CU} (hrb : rb < w.heap.size) (ho : Only rb w w4) (hR : RdE w4 rb r br) (hv : CmdV w4 (Span (w.heap.size + 1) w4.heap.size) ops u) :
    CmdP w rb br (ops, r) (.returned (.agg #[u.val])) (w4.setCell ⟨w.heap.size, 0, none⟩ u.val) := by
  have h5 := (Only.refl w.heap.size w4).setCell 0 u.val
  refine ⟨u, rfl, hR.row h5 (fun k e => by cases e; omega), ho.own h5 (Nat.le_refl _), hv.keep (Span.in (by omega) h5.size) fun g hg => ?_⟩
  have h1 := hg.1
  exact h5.block g hg.2 (fun e => by cases e; omega)
set_option maxRecDepth 100000 in
set_option maxHeartbeats 4000000 in
theorem command_plain (brk : R → List (List Op) × R) (w : World) (rb : Nat) (r : R) (br : Nat) (h : RdE w rb r br) (hE : Env w rb) (hlen : r.ws.length ≤ 1000) (hO : OpC rb br brk) (h6 : begins (r.at_ 0) ≠ 6) :
    Calls Tryz.prog 54 #[.pointer (some ⟨rb, 0, none⟩)] w (CmdP w rb br (commandR brk r)) := by
  have hrb := h.lt
  have hcm : commandR brk r = ([(operandR brk r).1], (operandR brk r).2) := by unfold commandR; rw [if_neg h6]
  obtain ⟨W0, hW0⟩ : ∃ W0, W0 = w.alloc (.cells #[.slice none 0 0] 63) := ⟨_, rfl⟩
  have hb0 : Below w.heap.size w W0 := by rw [hW0]; exact (Below.refl _ _).alloc (Nat.le_refl _) _
  have hr0 : W0.heap[w.heap.size]? = some (.cells #[.slice none 0 0] 63 (0, 0)) := by rw [hW0]; exact heap_alloc_new w _
  have hz0 : W0.heap.size = w.heap.size + 1 := by rw [hW0]; simp
  have CA := at0_any W0 rb r br (h.keep hb0)
  have CB := fun w' (hw : Below w.heap.size w w') => begins_any (r.at_ 0) w' (hE.tab.below hw)
  have t6 : (((begins (r.at_ 0) : Nat) : Int) == 6) = false := by simp; omega
  have CO := fun w' (hw : Below w.heap.size w w') => hO w' r (h.keep hw) (hE.below hw) hlen
  rw [hcm]
  generalize operandR brk r = x at *
  obtain ⟨o, r2⟩ := x
  generalize begins (r.at_ 0) = k at *
  have HA := Lib.hid CA; have HB := Lib.hid CB; have HO := Lib.hid CO; have HW0 := Lib.hid hW0; have HB0 := Lib.hid hb0; have HR0 := Lib.hid hr0
  clear CA CB CO hcm h hE hO h6 hW0 hb0 hr0
  go_enter Tryz.func54, Tryz.ntmps54
  go_upto_region 1 with fail
  rw [← HW0.out]
  go_upto_region 5 with (first
    | (go_at_call 85; (refine HA.out.mono ?_); rintro e w1 ⟨rfl, b1⟩; have C1 := Lib.hid b1; have B1 := Lib.hid (HB0.out.trans (b1.mono HB0.out.size)); clear b1)
    | (go_at_call 84; (refine (HB.out w1 B1.out).mono ?_); rintro e w2 ⟨rfl, b2⟩; have C2 := Lib.hid (C1.out.trans (b2.mono C1.out.size)); have B2 := Lib.hid (B1.out.trans (b2.mono B1.out.size)); clear b2)
    | (go_at_call 86; (refine (HO.out w2 B2.out).mono ?_); rintro e w3 ⟨y, rfl, h3, o3, hv⟩; unfold C7.val; have H3 := Lib.hid h3; have O3 := Lib.hid o3; have HV3 := Lib.hid hv; clear h3 o3 hv))
  have ho3 : Only rb W0 w3 := (Only.of_below C2.out).trans O3.out
  have hw3 := ho3.size
  have hv3 : OpY w3 (Span W0.heap.size w3.heap.size) (o, y) := HV3.out.keep (Span.in C2.out.size (Nat.le_refl _)) (fun _ _ => rfl)
  have hG := Gat.lit (e := 65) (sz := 7) (enc := encO) (V := OpY) OpY.keeps ho3 rfl hv3
  have hR := H3.out.keep ((Below.refl w3.heap.size w3).alloc (Nat.le_refl _) (.cells y.cells.toArray 65))
  have hc := GatO.cmd hG
  rw [hz0] at hc
  obtain ⟨W4, hW4⟩ : ∃ W4, W4 = w3.alloc (.cells y.cells.toArray 65) := ⟨_, rfl⟩
  have hr4 : W4.heap[w.heap.size]? = some (.cells #[.slice none 0 0] 63 (0, 0)) := by rw [hW4, Below.heap_alloc _ _ _ (by omega)]; exact ho3.blk HR0.out (by omega)
  have hc4 : CmdV W4 (Span (w.heap.size + 1) W4.heap.size) [o] ⟨some ⟨w3.heap.size, 0, none⟩, 1, [y]⟩ := by rw [hW4]; exact hc
  have hR4 : RdE W4 rb r2 br := by rw [hW4]; exact hR
  have ho4 : Only rb w W4 := by rw [hW4]; exact ((Only.of_below HB0.out).trans ho3).trans (Only.alloc rb w3 _)
  simp only [show (w3.alloc (.cells #[.int .i64 y.k, .string y.v, .slice y.pa y.pl y.pc, .string y.s, .int .i64 y.n, .bool y.b, .slice y.ca y.cl y.cc] 65)) = W4 from hW4.symm]
  have HR4 := Lib.hid hR4; have HC4 := Lib.hid hc4; have HO4 := Lib.hid ho4
  clear hc hG hR hW4 hR4 hc4 ho4
  obtain ⟨p0, f0⟩ := one_blk hr4
  have hlt4 := (Array.getElem?_eq_some_iff.1 hr4).1
  have HRS := Lib.hid hr4; clear hr4
  go_wp2
  exact bodyPost_ret (results_cell_row rfl _ _ w.heap.size 63 _ (0, 0) _ rfl (set_one HRS.out _) Tryz.underlying63 rfl (by kernel_rfl)) rfl (CmdP.fin hrb HO4.out HR4.out HC4.out)
/-- Nothing is put behind. -/
theorem wpList_append_none {P : Program} {ops : Array Oper} {rest : List Oper} {o : Oper} {a : Go.Act} {w : World} {Q : Exit → Go.Act → World → Prop} (hgd : o.guard = none) (s x : Operand) (t : TypeId)
    (ho : o.op = .call { callee := .builtin .append, args := #[s, x], argTypes := #[t, t] })
    (base : Nat) (e : TypeId) (i : TypeInfo) (size : Nat) (ht : P.underlying t = some (.slice e)) (hi : P.info? e = some i)
    (v : Value) (n : Nat) (xs : List Value) (hs : a.eval s = v) (hown : w.ownsRow base e size v n xs) (hx : a.eval x = .slice none 0 0)
    (h : wpList P ops Q rest (a.put o.dst v) w) : wpList P ops Q (o :: rest) a w :=
  wpList_plain hgd fun _ hK => by
    have hr := run_append_owned_none (P := P) w base t o.type e i size ht hi v n xs hown
    have hgo := hK _ _ h
    simp only [Oper.wp, execOp, ho, resolve, invoke, builtin, Sem.run_bind, Sem.run_pure, Result.andThen_ok, List.map_toArray, List.map_cons, List.map_nil, hs, hx, hr]
    exact hgo
/-- The law of append where what is put behind may be nil. -/
theorem wpList_append_opt {P : Program} {ops : Array Oper} {rest : List Oper} {o : Oper} {a : Go.Act} {w : World} {Q : Exit → Go.Act → World → Prop} (hgd : o.guard = none) (s x : Operand) (t : TypeId)
    (ho : o.op = .call { callee := .builtin .append, args := #[s, x], argTypes := #[t, t] })
    (base : Nat) (e : TypeId) (i : TypeInfo) (z : Value) (size bytes : Nat) (ht : P.underlying t = some (.slice e)) (hi : P.info? e = some i) (hz : i.zero = some z)
    (hsize : i.size = size) (hby : i.bytes = bytes) (hzs : z.cells.size = size) (hsz : 0 < size)
    (v : Value) (n : Nat) (xs : List Value) (hs : a.eval s = v) (hown : w.ownsRow base e size v n xs)
    (ad : Option Addr) (m c : Nat) (news : List Value) (hx : a.eval x = .slice ad m c) (hl : news.length = m * size) (hnil : ad = none → m = 0 ∧ c = 0) (hnews : ∀ b, ad = some b → ∀ j u, news[j]? = some u → w.cell? (b.add j) = some u) (h1 : ∀ u ∈ news, u.oneCell' = true)
    (h63 : n + m ≤ maxLen) (hbytes : (n + m) * bytes ≤ 140737488355328) (hbase : base ≤ w.heap.size)
    (h : ∀ v' w', w'.ownsRow base e size v' (n + m) (xs ++ news) → w.grownBy w' v.ownBlock → (∀ k, v'.ownBlock = some k → v.ownBlock = some k ∨ w.heap.size ≤ k) → wpList P ops Q rest (a.put o.dst v') w') : wpList P ops Q (o :: rest) a w := by
  cases ad with
  | none =>
    obtain ⟨rfl, rfl⟩ := hnil rfl
    obtain rfl : news = [] := List.eq_nil_of_length_eq_zero (by omega)
    refine wpList_append_none hgd s x t ho base e i size ht hi v n xs hs hown hx (h v w ?_ ⟨rfl, rfl, rfl, Nat.le_refl _, fun _ _ _ => rfl⟩ (fun k hk => .inl hk))
    rw [List.append_nil]; exact hown
  | some b => exact wpList_append_fresh hgd s x t ho base e i z size bytes ht hi hz hsize hby hzs hsz v n xs hs hown b m c news hx hl (hnews b rfl) h1 h63 hbytes hbase h
/-- Operands with what lies in memory of them. -/
theorem CmdV.pairs {w : World} {S : Nat → Prop} {ops : List Op} {u : CU} (h : CmdV w S ops u) : ∃ ys : List (Op × C7), ys.map (·.1) = ops ∧ ys.map (·.2) = u.os ∧ ∀ y ∈ ys, OpY w S y := by
  have hl := h.len
  refine ⟨ops.zip u.os, ?_, ?_, fun y hy => ?_⟩
  · rw [List.map_fst_zip]; omega
  · rw [List.map_snd_zip]; omega
  · obtain ⟨i, hi, rfl⟩ := List.getElem_of_mem hy
    rw [List.length_zip] at hi
    rw [List.getElem_zip]
    exact h.ops i (by omega) (by omega)
theorem flat_len (ys : List (Op × C7)) : (ys.flatMap encO).length = ys.length * 7 := by
  induction ys with
  | nil => rfl
  | cons y ys ih => rw [List.flatMap_cons, List.length_append, ih, List.length_cons]; show 7 + _ = _; omega
theorem flat_one (ys : List (Op × C7)) : ∀ u ∈ ys.flatMap encO, u.oneCell' = true := by
  intro u hu
  obtain ⟨y, _, hy⟩ := List.mem_flatMap.1 hu
  exact C7.one y.2 u hy
theorem Cells.nil {w : World} {S : Nat → Prop} {a : Option Addr} {ys : List (Op × C7)} {n c : Nat} (h : Cells w S a (ys.flatMap encO)) (hn : ys.length = n) (hc : a = none → c = 0) : a = none → n = 0 ∧ c = 0 := by
  intro ha
  refine ⟨?_, hc ha⟩
  rcases h with h | ⟨g, h, _⟩
  · have := flat_len ys; rw [h] at this; simp at this; omega
  · rw [ha] at h; cases h
theorem Cells.read {w : World} {S : Nat → Prop} {a : Option Addr} {xs : List Value} (h : Cells w S a xs) : ∀ b, a = some b → ∀ j u, xs[j]? = some u → w.cell? (b.add j) = some u := by
  intro b hb j u hu
  rcases h with h | ⟨g, h, _, hc⟩
  · rw [h] at hu; simp at hu
  · rw [hb] at h; cases h; rw [addr_add]; exact hc j u hu
set_option maxRecDepth 100000 in
set_option maxHeartbeats 8000000 in
theorem command_name (brk : R → List (List Op) × R) (hle : ∀ r, (brk r).2.ws.length ≤ r.ws.length) (w : World) (rb : Nat) (r : R) (br : Nat) (h : RdE w rb r br) (hE : Env w rb) (hlen : r.ws.length ≤ 1000) (hO : OpC rb br brk) (h6 : begins (r.at_ 0) = 6) :
    Calls Tryz.prog 54 #[.pointer (some ⟨rb, 0, none⟩)] w (CmdP w rb br (commandR brk r)) := by
  have hrb := h.lt
  have hcm : commandR brk r = ((operandR brk r).1 :: (givenR brk 4 (operandR brk r).2).1, (givenR brk 4 (operandR brk r).2).2) := by unfold commandR; rw [if_pos h6]
  obtain ⟨W0, hW0⟩ : ∃ W0, W0 = w.alloc (.cells #[.slice none 0 0] 63) := ⟨_, rfl⟩
  have hb0 : Below w.heap.size w W0 := by rw [hW0]; exact (Below.refl _ _).alloc (Nat.le_refl _) _
  have hr0 : W0.heap[w.heap.size]? = some (.cells #[.slice none 0 0] 63 (0, 0)) := by rw [hW0]; exact heap_alloc_new w _
  have hz0 : W0.heap.size = w.heap.size + 1 := by rw [hW0]; simp
  have CA := at0_any W0 rb r br (h.keep hb0)
  have CB := fun w' (hw : Below w.heap.size w w') => begins_any (r.at_ 0) w' (hE.tab.below hw)
  rw [h6] at CB
  have CO := fun w' (hw : Below w.heap.size w w') => hO w' r (h.keep hw) (hE.below hw) hlen
  have hol := operandR_len brk hle r
  have CG := fun w' (h' : RdE w' rb (operandR brk r).2 br) (hE' : Env w' rb) => given_any brk hle w' rb (operandR brk r).2 br h' hE' (by omega) hO
  rw [hcm]
  generalize operandR brk r = x at *
  obtain ⟨o, r2⟩ := x
  simp only at CG hol
  dsimp only
  generalize givenR brk 4 r2 = y' at *
  obtain ⟨os, r3⟩ := y'
  have HA := Lib.hid CA; have HB := Lib.hid CB; have HO := Lib.hid CO; have HG := Lib.hid CG; have HW0 := Lib.hid hW0; have HB0 := Lib.hid hb0; have HR0 := Lib.hid hr0; have HE := Lib.hid hE
  clear CA CB CO CG hcm h hE hO h6 hW0 hb0 hr0
  obtain ⟨i0, hi, hz0', hz1', hz2'⟩ := info_parts infoO
  go_enter Tryz.func54, Tryz.ntmps54
  go_upto_region 1 with fail
  rw [← HW0.out]
  go_upto_region 4 with (first
    | (go_at_call 85; (refine HA.out.mono ?_); rintro e w1 ⟨rfl, b1⟩; have C1 := Lib.hid b1; have B1 := Lib.hid (HB0.out.trans (b1.mono HB0.out.size)); clear b1)
    | (go_at_call 84; (refine (HB.out w1 B1.out).mono ?_); rintro e w2 ⟨rfl, b2⟩; have C2 := Lib.hid (C1.out.trans (b2.mono C1.out.size)); have B2 := Lib.hid (B1.out.trans (b2.mono B1.out.size)); clear b2)
    | (go_at_call 86; (refine (HO.out w2 B2.out).mono ?_); rintro e w3 ⟨y, rfl, h3, o3, hv⟩; unfold C7.val; have H3 := Lib.hid h3; have O3 := Lib.hid o3; have HV3 := Lib.hid hv; clear h3 o3 hv))
  have ho3 : Only rb W0 w3 := (Only.of_below C2.out).trans O3.out
  have hw3 := ho3.size
  have hv3 : OpY w3 (Span W0.heap.size w3.heap.size) (o, y) := HV3.out.keep (Span.in C2.out.size (Nat.le_refl _)) (fun _ _ => rfl)
  have hG := Gat.lit (e := 65) (sz := 7) (enc := encO) (V := OpY) OpY.keeps ho3 rfl hv3
  have hR := H3.out.keep ((Below.refl w3.heap.size w3).alloc (Nat.le_refl _) (.cells y.cells.toArray 65))
  obtain ⟨W4, hW4⟩ : ∃ W4, W4 = w3.alloc (.cells y.cells.toArray 65) := ⟨_, rfl⟩
  have hR4 : RdE W4 rb r2 br := by rw [hW4]; exact hR
  have hG4 : GatO W0 W4 rb (.slice (some ⟨w3.heap.size, 0, none⟩) 1 1) [(o, y)] := by rw [hW4]; exact hG
  have hE4 : Env W4 rb := HE.out.only ((Only.of_below HB0.out).trans hG4.only)
  simp only [show (w3.alloc (.cells #[.int .i64 y.k, .string y.v, .slice y.pa y.pl y.pc, .string y.s, .int .i64 y.n, .bool y.b, .slice y.ca y.cl y.cc] 65)) = W4 from hW4.symm]
  have HR4 := Lib.hid hR4; have HG4 := Lib.hid hG4; have HE4 := Lib.hid hE4
  clear hG hR hW4 hR4 hG4 hE4
  have hrb0 : rb < W0.heap.size := by omega
  generalize w3.heap.size = bs at *
  go_upto_region 5 with (first
    | (go_at_call 87; (refine (HG.out W4 HR4.out HE4.out).mono ?_); go_loud (rintro e w5 ⟨a, us, c, rfl, h5, o5, hv5, hn5, hc5⟩); have H5 := Lib.hid h5; have O5 := Lib.hid o5; have hw5 := o5.size; have hw4 := HG4.out.only.size; have hvv : CmdV w5 (Span W4.heap.size w5.heap.size) os ⟨a, c, us⟩ := hv5; obtain ⟨ys, hy1, hy2', hy3⟩ := hvv.pairs; have hy2 : ys.map (·.2) = us := hy2'; have hys : ys.length = os.length := (by rw [← hy1]; simp); have hnn : os.length ≤ 4 := hn5; have hcl : Cells w5 (Span W4.heap.size w5.heap.size) a (ys.flatMap encO) := (by rw [flat_op, hy2]; exact hvv.cells); have HY1 := Lib.hid hy1; have HY3 := Lib.hid hy3; have HCL := Lib.hid hcl; have HC5 := Lib.hid hc5; clear h5 o5 hv5 hvv hy1 hy2 hy2' hy3 hcl hc5 hn5)
    | (at_builtin; go_loud (refine wpList_append_opt rfl _ _ 61 rfl W0.heap.size 65 i0 (.agg #[.int .i64 0, .string ⟨#[]⟩, .slice none 0 0, .string ⟨#[]⟩, .int .i64 0, .bool false, .slice none 0 0]) 7 104 Tryz.underlying61 hi hz0' hz1' hz2' rfl (by decide) _ _ _ rfl (HG4.out.keep OpY.keeps O5.out hrb0).own a os.length c (ys.flatMap encO) rfl (by rw [flat_len]; omega) (HCL.out.nil hys HC5.out) (HCL.out.read) (flat_one ys) (by simp [maxLen]; omega) (by simp; omega) (by omega) ?_); intro v' w6 hown' hgrow hfr; obtain ⟨b, d, rfl⟩ := own_slice hown'; have hlt6 := HG4.out.own.lt; have HR6 := Lib.hid (H5.out.row hgrow (fun k e => by have := (hlt6 k e).1; omega)); have HG6 := Lib.hid (Gat.grow (ys := ys) OpY.keeps HG4.out O5.out hrb0 (Below.refl w5.heap.size w5) HY3.out (by rw [hys]; exact hown') hgrow hfr); clear hown' hgrow hfr hlt6))
  have hc6 := GatO.cmd HG6.out
  rw [List.map_append, HY1.out, hz0] at hc6
  have ho6 : Only rb w w6 := (Only.of_below HB0.out).trans HG6.out.only
  have hr6 : w6.heap[w.heap.size]? = some (.cells #[.slice none 0 0] 63 (0, 0)) := HG6.out.only.blk HR0.out (by omega)
  obtain ⟨p0, f0⟩ := one_blk hr6
  have hlt6 := (Array.getElem?_eq_some_iff.1 hr6).1
  have hlen6 : ((([(o, y)] ++ ys).map (·.2)).length) = 1 + os.length := by simp; omega
  have HRS := Lib.hid hr6; have HC6 := Lib.hid hc6; have HO6 := Lib.hid ho6
  clear hr6 hc6 ho6
  go_wp2
  refine bodyPost_ret (results_cell_row rfl _ _ w.heap.size 63 _ (0, 0) _ rfl (set_one HRS.out _) Tryz.underlying63 rfl (by kernel_rfl)) rfl ?_
  have hfin := CmdP.fin hrb HO6.out HR6.out HC6.out
  unfold CU.val at hfin
  simp only at hfin
  rw [hlen6] at hfin
  exact hfin
theorem command_any (brk : R → List (List Op) × R) (hle : ∀ r, (brk r).2.ws.length ≤ r.ws.length) (w : World) (rb : Nat) (r : R) (br : Nat) (h : RdE w rb r br) (hE : Env w rb) (hlen : r.ws.length ≤ 1000) (hO : OpC rb br brk) :
    Calls Tryz.prog 54 #[.pointer (some ⟨rb, 0, none⟩)] w (CmdP w rb br (commandR brk r)) := by
  by_cases h6 : begins (r.at_ 0) = 6
  · exact command_name brk hle w rb r br h hE hlen hO h6
  · exact command_plain brk w rb r br h hE hlen hO h6
end Tr
end Go.Proofs.YtlfbcaenlifmkaaGreatDoor
