/- What a function is given: a row of operands. -/
import Derived.Test.YtlfbcaenlifmkaaGreatDoorB14
namespace Go.Proofs.YtlfbcaenlifmkaaGreatDoor
open Go.RowKit
namespace Tr
open Sc Sh Sp
theorem infoO : (Tryz.prog.info? 65).map (fun i => (i.zero, i.size, i.bytes)) = some (some (.agg #[.int .i64 0, .string ⟨#[]⟩, .slice none 0 0, .string ⟨#[]⟩, .int .i64 0, .bool false, .slice none 0 0]), 7, 104) := by kernel_rfl
def encO (y : Op × C7) : List Value := y.2.cells
def OpY (w : World) (S : Nat → Prop) (y : Op × C7) : Prop := OpV w S y.1 y.2
theorem OpY.keeps : Keeps OpY := fun _ _ _ _ _ h hS hk => OpV.keep h hS hk
abbrev GatO (w0 w : World) (rb : Nat) (v : Value) (l : List (Op × C7)) : Prop := Gat 65 7 encO OpY w0 w rb v l
theorem flat_op (l : List (Op × C7)) : l.flatMap encO = (l.map (·.2)).flatMap C7.cells := by rw [List.flatMap_map]; rfl
/-- Operands as a command's. -/
theorem GatO.cmd {w0 w : World} {rb : Nat} {a : Option Addr} {n c : Nat} {l : List (Op × C7)} (h : GatO w0 w rb (.slice a n c) l) : CmdV w (Span w0.heap.size w.heap.size) (l.map (·.1)) ⟨a, c, l.map (·.2)⟩ := by
  have h1 := Gat.cells h
  rw [flat_op] at h1
  refine ⟨by simp, h1, fun j k k' => ?_⟩
  simp only [List.getElem_map]
  exact Gat.all OpY.keeps h _ (List.getElem_mem _)
theorem own_none {w : World} {base : Nat} {e : TypeId} {size : Nat} {n c : Nat} {xs : List Value} {a : Option Addr} (h : w.ownsRow base e size (.slice a n c) n xs) : a = none → c = 0 := by
  intro ha
  subst ha
  rcases h.2 with ⟨h1, _⟩ | ⟨g, cap, cur, h1, _⟩
  · cases h1; rfl
  · cases h1
/-- What given leaves. -/
def GivP (w : World) (rb br : Nat) (x : List Op × R) (e : Ending) (w' : World) : Prop :=
  ∃ a us c, e = .returned (.slice a x.1.length c) ∧ RdE w' rb x.2 br ∧ Only rb w w' ∧ CmdV w' (Span w.heap.size w'.heap.size) x.1 ⟨a, c, us⟩ ∧ x.1.length ≤ 4 ∧ (a = none → c = 0)
/-- The contract of operand, over a reader of brackets. -/
def OpC (rb br : Nat) (brk : R → List (List Op) × R) : Prop :=
  ∀ w r, RdE w rb r br → Env w rb → r.ws.length ≤ 1000 → Calls Tryz.prog 86 #[.pointer (some ⟨rb, 0, none⟩)] w (OpP w rb br (operandR brk r))
structure GRel (brk : R → List (List Op) × R) (w : World) (rb br : Nat) (full : List Op × R) (gk : Nat) (v kv : Value) (wr : World) (l : List (Op × C7)) (r : R) : Prop where
  slot : kv = .int .i64 (begins (r.at_ 0))
  gat : GatO w wr rb v l
  rd : RdE wr rb r br
  env : Env wr rb
  rest : full = (l.map (·.1) ++ (givenR brk (4 - l.length) r).1, (givenR brk (4 - l.length) r).2)
  few : l.length ≤ 4
  fuel : gk = 5 - l.length
  len : r.ws.length ≤ 1000
theorem given_stop (brk : R → List (List Op) × R) (k : Nat) (r : R) (h : begins (r.at_ 0) = 0 ∨ begins (r.at_ 0) = 6) : givenR brk k r = ([], r) := by
  unfold givenR; rw [if_pos h]
theorem given_many (brk : R → List (List Op) × R) (r : R) (h : ¬ (begins (r.at_ 0) = 0 ∨ begins (r.at_ 0) = 6)) : givenR brk 0 r = ([], r.fail 18) := by
  unfold givenR; rw [if_neg h]
theorem given_more (brk : R → List (List Op) × R) (k : Nat) (r : R) (h : ¬ (begins (r.at_ 0) = 0 ∨ begins (r.at_ 0) = 6)) :
    givenR brk (k + 1) r = ((operandR brk r).1 :: (givenR brk k (operandR brk r).2).1, (givenR brk k (operandR brk r).2).2) := by
  conv => lhs; unfold givenR
  rw [if_neg h]
set_option maxRecDepth 100000 in
set_option maxHeartbeats 8000000 in
theorem given_any (brk : R → List (List Op) × R) (hle : ∀ r, (brk r).2.ws.length ≤ r.ws.length) (w : World) (rb : Nat) (r : R) (br : Nat) (h : RdE w rb r br) (hE : Env w rb) (hlen : r.ws.length ≤ 1000) (hO : OpC rb br brk) :
    Calls Tryz.prog 87 #[.pointer (some ⟨rb, 0, none⟩)] w (GivP w rb br (givenR brk 4 r)) := by
  have hrb := h.lt
  have CA := at0_any w rb r br h
  have CB := fun w' (hw : Below w.heap.size w w') => begins_any (r.at_ 0) w' (hE.tab.below hw)
  obtain ⟨full, hfull⟩ : ∃ full, full = givenR brk 4 r := ⟨_, rfl⟩
  rw [← hfull]
  have HA := Lib.hid CA; have HB := Lib.hid CB; have HF := Lib.hid hfull; have HH := Lib.hid h; have HE := Lib.hid hE; have HO := Lib.hid hO; have HLE := Lib.hid hle
  clear CA CB hfull h hE hO hle
  obtain ⟨i0, hi, hz0', hz1', hz2'⟩ := info_parts infoO
  go_enter Tryz.func87, Tryz.ntmps87
  go_wp2_with (first
    | (go_at_call 85; (refine HA.out.mono ?_); rintro e w1 ⟨rfl, b1⟩; have B1 := Lib.hid b1; clear b1)
    | (go_at_call 84; (refine (HB.out w1 B1.out).mono ?_); rintro e w2 ⟨rfl, b2⟩; have B2 := Lib.hid (B1.out.trans (b2.mono B1.out.size)); clear b2))
  go_loopg [3, 4] 5 (fun gk v kv wr => ∃ l r', GRel brk w rb br full gk v kv wr l r')
  case atStart => exact ⟨[], r, rfl, Gat.start (Only.of_below B2.out), HH.out.keep B2.out, HE.out.below B2.out, by rw [HF.out]; rfl, by simp, rfl, hlen⟩
  case round =>
    obtain ⟨l, r', hm⟩ := hrel
    obtain ⟨a, c, rfl⟩ := own_slice hm.gat.own
    have hfew := hm.few
    have hfu := hm.fuel
    have hwl := hm.len
    obtain rfl := hm.slot
    have hws := hm.gat.only.size
    have HM := Lib.hid hm
    have hbk := begins_is (r'.at_ 0)
    by_cases h6 : begins (r'.at_ 0) = 0 ∨ begins (r'.at_ 0) = 6
    · have hst := given_stop brk (4 - l.length) r' h6
      have HS := Lib.hid hst
      clear hst hm
      have fin : GivP w rb br full (.returned (.slice a l.length c)) wr := by
        rw [HM.out.rest, HS.out]
        exact ⟨a, l.map (·.2), c, by simp, HM.out.rd, HM.out.gat.only, by simpa using GatO.cmd HM.out.gat, by simp; omega, own_none HM.out.gat.own⟩
      have HFIN := Lib.hid fin; clear fin
      rcases h6 with h6 | h6
      · rw [h6]
        go_wp2
        go_ret
        exact HFIN.out
      · rw [h6]
        go_wp2
        go_ret
        exact HFIN.out
    · have hk0 : (((begins (r'.at_ 0) : Nat) : Int) != 0) = true := by simp; omega
      have hk6 : (((begins (r'.at_ 0) : Nat) : Int) != 6) = true := by simp; omega
      by_cases h4 : l.length = 4
      · have hst := given_many brk r' h6
        have CF := fail_any wr rb r' br hm.rd 18
        have HS := Lib.hid hst; have HC := Lib.hid CF
        have t4 : ((l.length : Int) == 4) = true := by simp [h4]
        clear hst hm CF hbk
        generalize begins (r'.at_ 0) = k at *
        clear h6
        go_wp2_with (go_at_call 53; (refine HC.out.mono ?_); rintro e w3 ⟨rfl, h3, o3⟩)
        go_ret
        rw [HM.out.rest, h4, Nat.sub_self, HS.out]
        exact ⟨a, l.map (·.2), c, by simp [h4], h3, HM.out.gat.only.trans o3, by simpa using GatO.cmd (HM.out.gat.keep OpY.keeps o3 hrb), by simp; omega, own_none HM.out.gat.own⟩
      · have t4 : ((l.length : Int) == 4) = false := by simp; omega
        obtain ⟨j, hj⟩ : ∃ j, 4 - l.length = j + 1 := ⟨3 - l.length, by omega⟩
        have hst := given_more brk j r' h6
        have CO := HO.out wr r' hm.rd hm.env hm.len
        have hol := operandR_len brk HLE.out r'
        have HS := Lib.hid hst; have HC := Lib.hid CO
        clear hst hm CO hbk
        generalize begins (r'.at_ 0) = k at *
        generalize operandR brk r' = x at *
        obtain ⟨o, r2⟩ := x
        simp only at hol
        clear h6
        go_wp2_with (first
          | (go_at_call 86; (refine HC.out.mono ?_); rintro e w3 ⟨y, rfl, h3, o3, hv⟩; unfold C7.val; have H3 := Lib.hid h3; have O3 := Lib.hid o3; have HV3 := Lib.hid hv; have hw3 := o3.size; clear h3 o3 hv)
          | (at_builtin; go_loud (refine wpList_append_fresh rfl _ _ 61 rfl w.heap.size 65 i0 (.agg #[.int .i64 0, .string ⟨#[]⟩, .slice none 0 0, .string ⟨#[]⟩, .int .i64 0, .bool false, .slice none 0 0]) 7 104 Tryz.underlying61 hi hz0' hz1' hz2' rfl (by decide) _ _ _ rfl ((HM.out.gat.keep OpY.keeps O3.out hrb).own.alloc _) ⟨w3.heap.size, 0, none⟩ 1 1 y.cells rfl rfl (cells_new _ _ _) (fun x hx => C7.one y x hx) (by unfold maxLen; omega) (by omega) (by simp; omega) ?_); intro v' w4 hown' hgrow hfr; have HOW := Lib.hid hown'; have HGR := Lib.hid hgrow; have HFR := Lib.hid hfr; have hlt4 := HM.out.gat.own.lt; have HR4 := Lib.hid ((H3.out.keep ((Below.refl w3.heap.size w3).alloc (Nat.le_refl _) (.cells y.cells.toArray 65))).row hgrow (fun k e => by have := (hlt4 k e).1; omega)); have HM4 := Lib.hid (Gat.grow (w2 := w3.alloc _) (ys := [(o, y)]) OpY.keeps HM.out.gat O3.out hrb ((Below.refl w3.heap.size w3).alloc (Nat.le_refl _) _) (fun z hz => by cases List.mem_singleton.1 hz; exact HV3.out) hown' hgrow hfr); clear hown' hgrow hfr hlt4)
          | (go_at_call 85; (refine (at0_any w4 rb r2 br HR4.out).mono ?_); rintro e w5 ⟨rfl, b5⟩; have B5 := Lib.hid b5; clear b5)
          | (go_at_call 84; (refine (begins_any (r2.at_ 0) w5 (((HE.out.only HM4.out.only).tab).below B5.out)).mono ?_); rintro e w6 ⟨rfl, b6⟩; have B6 := Lib.hid (B5.out.trans (b6.mono B5.out.size)); clear b6))
        go_roundg (5 - (l.length + 1))
        case rel =>
          refine ⟨l ++ [(o, y)], r2, rfl, HM4.out.keep OpY.keeps (Only.of_below B6.out) hrb, HR4.out.keep B6.out, (HE.out.only HM4.out.only).below B6.out, ?_, by simp; omega, by simp, by omega⟩
          rw [HM.out.rest, hj, HS.out, List.length_append, show 4 - (l.length + [(o, y)].length) = j by simp; omega]
          simp
        case measure => omega
end Tr
end Go.Proofs.YtlfbcaenlifmkaaGreatDoor
