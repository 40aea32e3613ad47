/- A path, read word by word. Written by gen_qpath.py. -/
import Derived.Test.YtlfbcaenlifmkaaGreatDoorB12
import Derived.Deep.Cut
namespace Go.Proofs.YtlfbcaenlifmkaaGreatDoor
open Go.RowKit
namespace Tr
open Sc Sh Sp
theorem infoStr : (Tryz.prog.info? 9).map (fun i => (i.zero, i.size, i.bytes)) = some (some (.string ⟨#[]⟩), 1, 16) := by kernel_rfl
def encS (s : List UInt8) : List Value := [str s]
def Anyth {α : Type} (_ : World) (_ : Nat → Prop) (_ : α) : Prop := True
theorem Anyth.keeps {α : Type} : Keeps (Anyth (α := α)) := fun _ _ _ _ _ _ _ _ => trivial
theorem flat_str (l : List (List UInt8)) : l.flatMap encS = l.map str := by induction l with | nil => rfl | cons x l ih => rw [List.flatMap_cons, ih]; rfl
/-- What path leaves. -/
def PathP (w : World) (rb : Nat) (br : Nat) (x : (List UInt8 × List (List UInt8)) × R) (e : Ending) (w' : World) : Prop :=
  ∃ a c, e = .returned (.tuple #[str x.1.1, .slice a x.1.2.length c]) ∧ RdE w' rb x.2 br ∧ Only rb w w' ∧ Cells w' (Span w.heap.size w'.heap.size) a (x.1.2.map str)
abbrev GatS (w0 w : World) (rb : Nat) (v : Value) (l : List (List UInt8)) : Prop := Gat 9 1 encS Anyth w0 w rb v l
theorem GatS.done {w0 w : World} {rb : Nat} {a : Option Addr} {n c : Nat} {l : List (List UInt8)} (h : GatS w0 w rb (.slice a n c) l) : Cells w (Span w0.heap.size w.heap.size) a (l.map str) := by
  have := Gat.cells h
  rwa [flat_str] at this
/-- A round of the path's loop. -/
structure PRel (w : World) (rb br : Nat) (full : List (List UInt8) × R) (gk : Nat) (v : Value) (wr : World) (acc : List (List UInt8)) (r : R) : Prop where
  gat : GatS w wr rb v acc
  rd : RdE wr rb r br
  rest : full = (acc ++ (fieldsR r).1, (fieldsR r).2)
  fuel : gk = r.ws.length + 1
  few : acc.length + r.ws.length ≤ 2000
set_option maxRecDepth 100000 in
set_option maxHeartbeats 8000000 in
theorem path_var (w : World) (rb : Nat) (r : R) (br : Nat) (h : RdE w rb r br) (hlen : r.ws.length ≤ 1000) (hd : isS (r.at_ 0) [36] = true) :
    Calls Tryz.prog 131 #[.pointer (some ⟨rb, 0, none⟩)] w (PathP w rb br (pathR r)) := by
  have hrb := h.lt
  have CT := take_any w rb r br [36] h
  have hp : pathR r = (((need 1 r.step).1, (fieldsR (need 1 r.step).2).1), (fieldsR (need 1 r.step).2).2) := by unfold pathR; rw [hd, if_pos rfl]
  unfold takeR at CT
  rw [hd, if_pos rfl] at CT
  have CN := fun w' (h' : RdE w' rb r.step br) => need_any w' rb r.step br 1 (by decide) h'
  have hl1 := step_len r
  have hl2 := need_len 1 r.step
  generalize (need 1 r.step).2 = r1 at *
  generalize (need 1 r.step).1 = var at *
  obtain ⟨full, hfull⟩ : ∃ full, full = fieldsR r1 := ⟨_, rfl⟩
  rw [← hfull] at hp
  have HT := Lib.hid CT; have HN := Lib.hid CN; have HF := Lib.hid hp; have HU := Lib.hid hfull
  clear CT CN hp hd h hfull
  go_enter Tryz.func131, Tryz.ntmps131
  go_wp2_with (first
    | (go_at_call 55; (refine HT.out.mono ?_); rintro e w1 ⟨rfl, h1, o1⟩; have H1 := Lib.hid h1; have O1 := Lib.hid o1; clear h1 o1)
    | (go_at_call 152; (refine (HN.out w1 H1.out).mono ?_); rintro e w2 ⟨rfl, h2, o2⟩; have H2 := Lib.hid h2; have O2 := Lib.hid (O1.out.trans o2); clear h2 o2))
  go_loopg [3] (r1.ws.length + 1) (fun gk v wr => ∃ acc r', PRel w rb br full gk v wr acc r')
  case atStart => exact ⟨[], r1, Gat.start O2.out, H2.out, by rw [HU.out]; rfl, rfl, by simp; omega⟩
  case round =>
    obtain ⟨acc, r', hm⟩ := hrel
    obtain ⟨a, c, rfl⟩ := own_slice hm.gat.own
    have hrbw := hm.rd.lt
    have CA := fun w' (hw : Below wr.heap.size wr w') => at0_any w' rb r' br (hm.rd.keep hw)
    have CF := fun w' (hw : Below wr.heap.size wr w') => atField_any w' rb r' br (hm.rd.keep hw)
    obtain ⟨ra, rc, hrd⟩ := hm.rd
    obtain ⟨s0, -⟩ := hrd.small_at 0
    obtain ⟨⟨q0, q1, q2, q3⟩, -⟩ := four_blk hrd.blk
    have HM := Lib.hid hm
    clear hm hrd q0 q2 q3
    by_cases hc : (r'.at_ 0).at_ = r'.en
    · have te : (((r'.at_ 0).at_ : Int) == (r'.en : Int)) = true := by simp [hc]
      cases hf : atField r'
      · have HST := Lib.hid (fields_stop r' (fun h => by rw [hf] at h; cases h.2))
        rw [hf] at CF
        unfold tokV at CA
        generalize r'.at_ 0 = t at *
        have HA := Lib.hid CA; have HAF := Lib.hid CF; clear CA CF hf hc
        go_upto_region 7 with fail
        refine wp_region_by (QJ (fun (_ : Unit) qq => match qq with | 0 => .pointer (some ⟨rb, 0, none⟩) | 1 => .pointer (some ⟨rb, 0, none⟩) | 2 => .pointer (some ⟨rb, 0, none⟩) | 3 => .agg #[.int .i64 t.kind, .string ⟨t.text.toArray⟩, .int .i64 t.n, .int .i64 t.at_] | 4 => .int .i64 t.at_ | 5 => .pointer (some ⟨rb, 0, none⟩) | 6 => .pointer (some ⟨rb, 0, none⟩) | 7 => .pointer (some ⟨rb, 0, none⟩) | 8 => .pointer (some ⟨rb, 1, none⟩) | 9 => .int .i64 r'.en | 10 => .bool true | 11 => .bool true | 12 => .pointer (some ⟨rb, 0, none⟩) | 13 => .bool false | 14 => .bool false | _ => undef) (fun _ _ v => Below wr.heap.size wr v)) (by kernel_rfl) ?_ ?_ ?_
        · exact ⟨by simp, Closed.start _, (), Fr.start _ _ _, (Below.refl wr.heap.size wr).drew⟩
        · intro listed b v q hJ hi
          obtain ⟨hsz, hC, x, hF, hM⟩ := hJ
          obtain ⟨hl1, hiN⟩ := not_up hsz hi
          obtain ⟨_, o, ho, hdeps⟩ := mem_ready.1 hi
          have hiN : q < 15 := hiN
          obtain rfl | rfl | rfl | rfl | rfl | rfl | rfl | rfl | rfl | rfl | rfl | rfl | rfl | rfl | rfl : q = 0 ∨ q = 1 ∨ q = 2 ∨ q = 3 ∨ q = 4 ∨ q = 5 ∨ q = 6 ∨ q = 7 ∨ q = 8 ∨ q = 9 ∨ q = 10 ∨ q = 11 ∨ q = 12 ∨ q = 13 ∨ q = 14 := by omega
          · cases ho
            have e0 := hF.old_is 0 (by rfl) rfl
            refine QJ.quiet (x := x) hsz hC hi hF (Slots.of (by rfl)) rfl (wanted_none rfl) hM ?_
            show _ = Result.ok (Next.value (.pointer (some ⟨rb, 0, none⟩))) v
            simp [execOp, go_sem, e0]
          · cases ho
            have e25 : b.tmps[25]? = some (.pointer (some ⟨rb, 0, none⟩)) := hF.up 0 25 rfl (hdeps ⟨0, .data⟩ (by simp) rfl)
            refine QJ.quiet (x := x) hsz hC hi hF (Slots.of (by rfl)) rfl (wanted_none rfl) hM ?_
            show _ = Result.ok (Next.value (.pointer (some ⟨rb, 0, none⟩))) v
            simp [execOp, go_sem, e25]
          · cases ho
            have e26 : b.tmps[26]? = some (.pointer (some ⟨rb, 0, none⟩)) := hF.up 1 26 rfl (hdeps ⟨1, .data⟩ (by simp) rfl)
            refine QJ.quiet (x := x) hsz hC hi hF (Slots.of (by rfl)) rfl (wanted_none rfl) hM ?_
            show _ = Result.ok (Next.value (.pointer (some ⟨rb, 0, none⟩))) v
            simp [execOp, go_sem, e26]
          · cases ho
            have e27 : b.tmps[27]? = some (.pointer (some ⟨rb, 0, none⟩)) := hF.up 2 27 rfl (hdeps ⟨2, .data⟩ (by simp) rfl)
            refine QJ.call (x := x) (f := 85) (args := #[.pointer (some ⟨rb, 0, none⟩), .int .i64 0]) hsz hC hi hF (Slots.of (by rfl)) rfl (wanted_none rfl) (by simp [execOp, go_sem, e27]) (HA.out v hM) ?_
            rintro e w' ⟨rfl, hb⟩
            exact ⟨(), rfl, fun _ _ => rfl, hM.trans (hb.mono hM.size)⟩
          · cases ho
            have e28 : b.tmps[28]? = some (.agg #[.int .i64 t.kind, .string ⟨t.text.toArray⟩, .int .i64 t.n, .int .i64 t.at_]) := hF.up 3 28 rfl (hdeps ⟨3, .data⟩ (by simp) rfl)
            refine QJ.quiet (x := x) hsz hC hi hF (Slots.of (by rfl)) rfl (wanted_none rfl) hM ?_
            show _ = Result.ok (Next.value (.int .i64 t.at_)) v
            simp [execOp, go_sem, e28, tok_f3 t]
          · cases ho
            have e0 := hF.old_is 0 (by rfl) rfl
            refine QJ.quiet (x := x) hsz hC hi hF (Slots.of (by rfl)) rfl (wanted_none rfl) hM ?_
            show _ = Result.ok (Next.value (.pointer (some ⟨rb, 0, none⟩))) v
            simp [execOp, go_sem, e0]
          · cases ho
            have e30 : b.tmps[30]? = some (.pointer (some ⟨rb, 0, none⟩)) := hF.up 5 30 rfl (hdeps ⟨5, .data⟩ (by simp) rfl)
            refine QJ.quiet (x := x) hsz hC hi hF (Slots.of (by rfl)) rfl (wanted_none rfl) hM ?_
            show _ = Result.ok (Next.value (.pointer (some ⟨rb, 0, none⟩))) v
            simp [execOp, go_sem, e30]
          · cases ho
            have e31 : b.tmps[31]? = some (.pointer (some ⟨rb, 0, none⟩)) := hF.up 6 31 rfl (hdeps ⟨6, .data⟩ (by simp) rfl)
            refine QJ.quiet (x := x) hsz hC hi hF (Slots.of (by rfl)) rfl (wanted_none rfl) hM ?_
            show _ = Result.ok (Next.value (.pointer (some ⟨rb, 0, none⟩))) v
            simp [execOp, go_sem, e31]
          · cases ho
            have e32 : b.tmps[32]? = some (.pointer (some ⟨rb, 0, none⟩)) := hF.up 7 32 rfl (hdeps ⟨7, .data⟩ (by simp) rfl)
            refine QJ.quiet (x := x) hsz hC hi hF (Slots.of (by rfl)) rfl (wanted_none rfl) hM ?_
            show _ = Result.ok (Next.value (.pointer (some ⟨rb, 1, none⟩))) v
            simp [execOp, go_sem, e32]
          · cases ho
            have n1 := (hM.cell (p := ⟨rb, 1, none⟩) hrbw).trans q1
            have e33 : b.tmps[33]? = some (.pointer (some ⟨rb, 1, none⟩)) := hF.up 8 33 rfl (hdeps ⟨8, .data⟩ (by simp) rfl)
            refine QJ.quiet (x := x) hsz hC hi hF (Slots.of (by rfl)) rfl (wanted_none rfl) hM ?_
            show _ = Result.ok (Next.value (.int .i64 r'.en)) v
            simp [execOp, go_sem, e33, n1]
          · cases ho
            have e29 : b.tmps[29]? = some (.int .i64 t.at_) := hF.up 4 29 rfl (hdeps ⟨4, .data⟩ (by simp) rfl)
            have e34 : b.tmps[34]? = some (.int .i64 r'.en) := hF.up 9 34 rfl (hdeps ⟨9, .data⟩ (by simp) rfl)
            refine QJ.quiet (x := x) hsz hC hi hF (Slots.of (by rfl)) rfl (wanted_none rfl) hM ?_
            show _ = Result.ok (Next.value (.bool true)) v
            simp [execOp, go_sem, e29, e34, te]
          · cases ho
            have e35 : b.tmps[35]? = some (.bool true) := hF.up 10 35 rfl (hdeps ⟨10, .data⟩ (by simp) rfl)
            refine QJ.quiet (x := x) hsz hC hi hF (Slots.of (by rfl)) rfl (wanted_none rfl) hM ?_
            show _ = Result.ok (Next.value (.bool true)) v
            simp [execOp, go_sem, e35]
          · cases ho
            have e0 := hF.old_is 0 (by rfl) rfl
            refine QJ.quiet (x := x) hsz hC hi hF (Slots.of (by rfl)) rfl ((wanted_of rfl rfl (show b.tmps[36]? = some (.bool true) from hF.up 11 36 rfl (hdeps ⟨11, .guard⟩ (by simp) rfl))).trans (by rfl)) hM ?_
            show _ = Result.ok (Next.value (.pointer (some ⟨rb, 0, none⟩))) v
            simp [execOp, go_sem, e0]
          · cases ho
            have e37 : b.tmps[37]? = some (.pointer (some ⟨rb, 0, none⟩)) := hF.up 12 37 rfl (hdeps ⟨12, .data⟩ (by simp) rfl)
            refine QJ.call (x := x) (f := 165) (args := #[.pointer (some ⟨rb, 0, none⟩)]) hsz hC hi hF (Slots.of (by rfl)) rfl ((wanted_of rfl rfl (show b.tmps[36]? = some (.bool true) from hF.up 11 36 rfl (hdeps ⟨11, .guard⟩ (by simp) rfl))).trans (by rfl)) (by simp [execOp, go_sem, e37]) (HAF.out v hM) ?_
            rintro e w' ⟨rfl, hb⟩
            exact ⟨(), rfl, fun _ _ => rfl, hM.trans (hb.mono hM.size)⟩
          · cases ho
            have e36 : b.tmps[36]? = some (.bool true) := hF.up 11 36 rfl (hdeps ⟨11, .data⟩ (by simp) rfl)
            have e38 : b.tmps[38]? = some (.bool false) := hF.up 13 38 rfl (hdeps ⟨13, .data⟩ (by simp) rfl)
            refine QJ.quiet (x := x) hsz hC hi hF (Slots.of (by rfl)) rfl (wanted_none rfl) hM ?_
            show _ = Result.ok (Next.value (.bool false)) v
            simp [execOp, go_sem, e36, e38]
        intro listed b W5 hJ hr'
        obtain ⟨hsz, hC, xx, hF, hM⟩ := hJ
        have hall := all_upB2 (by rfl) hsz hr'
        have hb : b = putAll _ _ _ 15 := hF.done (Slots.of (by rfl)) hall
        subst hb
        have HW5 := Lib.hid hM
        simp only [putAll]
        simp [dstOf, Act.put]
        clear hF hC hall hr' hsz hM
        go_wp2
        go_ret2
        exact ⟨a, c, by rw [HF.out, HM.out.rest, HST.out, List.append_nil]; rfl, by rw [HF.out, HM.out.rest, HST.out]; exact HM.out.rd.keep HW5.out, HM.out.gat.only.trans (Only.of_below HW5.out), by rw [HF.out, HM.out.rest, HST.out, List.append_nil]; exact GatS.done (HM.out.gat.keep Anyth.keeps (Only.of_below HW5.out) hrb)⟩
      · have hcc : (r'.at_ 0).at_ = r'.en ∧ atField r' = true := ⟨hc, hf⟩
        have h2 := atField_len r' hf
        have hst := fields_step r' hcc
        have hfl := fieldR_len r' h2
        have CG := fun w' (hw : Below wr.heap.size wr w') => field_any w' rb r' br h2 (HM.out.rd.keep hw)
        rw [hf] at CF
        unfold tokV at CA
        generalize r'.at_ 0 = t at *
        generalize (fieldR r').1 = fs at *
        generalize (fieldR r').2 = r2 at *
        have hfw := HM.out.few
        have hfu := HM.out.fuel
        have HA := Lib.hid CA; have HAF := Lib.hid CF; have HG := Lib.hid CG; have HS := Lib.hid hst; clear CA CF CG hst hf hc hcc
        go_upto_region 7 with fail
        refine wp_region_by (QJ (fun (_ : Unit) qq => match qq with | 0 => .pointer (some ⟨rb, 0, none⟩) | 1 => .pointer (some ⟨rb, 0, none⟩) | 2 => .pointer (some ⟨rb, 0, none⟩) | 3 => .agg #[.int .i64 t.kind, .string ⟨t.text.toArray⟩, .int .i64 t.n, .int .i64 t.at_] | 4 => .int .i64 t.at_ | 5 => .pointer (some ⟨rb, 0, none⟩) | 6 => .pointer (some ⟨rb, 0, none⟩) | 7 => .pointer (some ⟨rb, 0, none⟩) | 8 => .pointer (some ⟨rb, 1, none⟩) | 9 => .int .i64 r'.en | 10 => .bool true | 11 => .bool true | 12 => .pointer (some ⟨rb, 0, none⟩) | 13 => .bool true | 14 => .bool true | _ => undef) (fun _ _ v => Below wr.heap.size wr v)) (by kernel_rfl) ?_ ?_ ?_
        · exact ⟨by simp, Closed.start _, (), Fr.start _ _ _, (Below.refl wr.heap.size wr).drew⟩
        · intro listed b v q hJ hi
          obtain ⟨hsz, hC, x, hF, hM⟩ := hJ
          obtain ⟨hl1, hiN⟩ := not_up hsz hi
          obtain ⟨_, o, ho, hdeps⟩ := mem_ready.1 hi
          have hiN : q < 15 := hiN
          obtain rfl | rfl | rfl | rfl | rfl | rfl | rfl | rfl | rfl | rfl | rfl | rfl | rfl | rfl | rfl : q = 0 ∨ q = 1 ∨ q = 2 ∨ q = 3 ∨ q = 4 ∨ q = 5 ∨ q = 6 ∨ q = 7 ∨ q = 8 ∨ q = 9 ∨ q = 10 ∨ q = 11 ∨ q = 12 ∨ q = 13 ∨ q = 14 := by omega
          · cases ho
            have e0 := hF.old_is 0 (by rfl) rfl
            refine QJ.quiet (x := x) hsz hC hi hF (Slots.of (by rfl)) rfl (wanted_none rfl) hM ?_
            show _ = Result.ok (Next.value (.pointer (some ⟨rb, 0, none⟩))) v
            simp [execOp, go_sem, e0]
          · cases ho
            have e25 : b.tmps[25]? = some (.pointer (some ⟨rb, 0, none⟩)) := hF.up 0 25 rfl (hdeps ⟨0, .data⟩ (by simp) rfl)
            refine QJ.quiet (x := x) hsz hC hi hF (Slots.of (by rfl)) rfl (wanted_none rfl) hM ?_
            show _ = Result.ok (Next.value (.pointer (some ⟨rb, 0, none⟩))) v
            simp [execOp, go_sem, e25]
          · cases ho
            have e26 : b.tmps[26]? = some (.pointer (some ⟨rb, 0, none⟩)) := hF.up 1 26 rfl (hdeps ⟨1, .data⟩ (by simp) rfl)
            refine QJ.quiet (x := x) hsz hC hi hF (Slots.of (by rfl)) rfl (wanted_none rfl) hM ?_
            show _ = Result.ok (Next.value (.pointer (some ⟨rb, 0, none⟩))) v
            simp [execOp, go_sem, e26]
          · cases ho
            have e27 : b.tmps[27]? = some (.pointer (some ⟨rb, 0, none⟩)) := hF.up 2 27 rfl (hdeps ⟨2, .data⟩ (by simp) rfl)
            refine QJ.call (x := x) (f := 85) (args := #[.pointer (some ⟨rb, 0, none⟩), .int .i64 0]) hsz hC hi hF (Slots.of (by rfl)) rfl (wanted_none rfl) (by simp [execOp, go_sem, e27]) (HA.out v hM) ?_
            rintro e w' ⟨rfl, hb⟩
            exact ⟨(), rfl, fun _ _ => rfl, hM.trans (hb.mono hM.size)⟩
          · cases ho
            have e28 : b.tmps[28]? = some (.agg #[.int .i64 t.kind, .string ⟨t.text.toArray⟩, .int .i64 t.n, .int .i64 t.at_]) := hF.up 3 28 rfl (hdeps ⟨3, .data⟩ (by simp) rfl)
            refine QJ.quiet (x := x) hsz hC hi hF (Slots.of (by rfl)) rfl (wanted_none rfl) hM ?_
            show _ = Result.ok (Next.value (.int .i64 t.at_)) v
            simp [execOp, go_sem, e28, tok_f3 t]
          · cases ho
            have e0 := hF.old_is 0 (by rfl) rfl
            refine QJ.quiet (x := x) hsz hC hi hF (Slots.of (by rfl)) rfl (wanted_none rfl) hM ?_
            show _ = Result.ok (Next.value (.pointer (some ⟨rb, 0, none⟩))) v
            simp [execOp, go_sem, e0]
          · cases ho
            have e30 : b.tmps[30]? = some (.pointer (some ⟨rb, 0, none⟩)) := hF.up 5 30 rfl (hdeps ⟨5, .data⟩ (by simp) rfl)
            refine QJ.quiet (x := x) hsz hC hi hF (Slots.of (by rfl)) rfl (wanted_none rfl) hM ?_
            show _ = Result.ok (Next.value (.pointer (some ⟨rb, 0, none⟩))) v
            simp [execOp, go_sem, e30]
          · cases ho
            have e31 : b.tmps[31]? = some (.pointer (some ⟨rb, 0, none⟩)) := hF.up 6 31 rfl (hdeps ⟨6, .data⟩ (by simp) rfl)
            refine QJ.quiet (x := x) hsz hC hi hF (Slots.of (by rfl)) rfl (wanted_none rfl) hM ?_
            show _ = Result.ok (Next.value (.pointer (some ⟨rb, 0, none⟩))) v
            simp [execOp, go_sem, e31]
          · cases ho
            have e32 : b.tmps[32]? = some (.pointer (some ⟨rb, 0, none⟩)) := hF.up 7 32 rfl (hdeps ⟨7, .data⟩ (by simp) rfl)
            refine QJ.quiet (x := x) hsz hC hi hF (Slots.of (by rfl)) rfl (wanted_none rfl) hM ?_
            show _ = Result.ok (Next.value (.pointer (some ⟨rb, 1, none⟩))) v
            simp [execOp, go_sem, e32]
          · cases ho
            have n1 := (hM.cell (p := ⟨rb, 1, none⟩) hrbw).trans q1
            have e33 : b.tmps[33]? = some (.pointer (some ⟨rb, 1, none⟩)) := hF.up 8 33 rfl (hdeps ⟨8, .data⟩ (by simp) rfl)
            refine QJ.quiet (x := x) hsz hC hi hF (Slots.of (by rfl)) rfl (wanted_none rfl) hM ?_
            show _ = Result.ok (Next.value (.int .i64 r'.en)) v
            simp [execOp, go_sem, e33, n1]
          · cases ho
            have e29 : b.tmps[29]? = some (.int .i64 t.at_) := hF.up 4 29 rfl (hdeps ⟨4, .data⟩ (by simp) rfl)
            have e34 : b.tmps[34]? = some (.int .i64 r'.en) := hF.up 9 34 rfl (hdeps ⟨9, .data⟩ (by simp) rfl)
            refine QJ.quiet (x := x) hsz hC hi hF (Slots.of (by rfl)) rfl (wanted_none rfl) hM ?_
            show _ = Result.ok (Next.value (.bool true)) v
            simp [execOp, go_sem, e29, e34, te]
          · cases ho
            have e35 : b.tmps[35]? = some (.bool true) := hF.up 10 35 rfl (hdeps ⟨10, .data⟩ (by simp) rfl)
            refine QJ.quiet (x := x) hsz hC hi hF (Slots.of (by rfl)) rfl (wanted_none rfl) hM ?_
            show _ = Result.ok (Next.value (.bool true)) v
            simp [execOp, go_sem, e35]
          · cases ho
            have e0 := hF.old_is 0 (by rfl) rfl
            refine QJ.quiet (x := x) hsz hC hi hF (Slots.of (by rfl)) rfl ((wanted_of rfl rfl (show b.tmps[36]? = some (.bool true) from hF.up 11 36 rfl (hdeps ⟨11, .guard⟩ (by simp) rfl))).trans (by rfl)) hM ?_
            show _ = Result.ok (Next.value (.pointer (some ⟨rb, 0, none⟩))) v
            simp [execOp, go_sem, e0]
          · cases ho
            have e37 : b.tmps[37]? = some (.pointer (some ⟨rb, 0, none⟩)) := hF.up 12 37 rfl (hdeps ⟨12, .data⟩ (by simp) rfl)
            refine QJ.call (x := x) (f := 165) (args := #[.pointer (some ⟨rb, 0, none⟩)]) hsz hC hi hF (Slots.of (by rfl)) rfl ((wanted_of rfl rfl (show b.tmps[36]? = some (.bool true) from hF.up 11 36 rfl (hdeps ⟨11, .guard⟩ (by simp) rfl))).trans (by rfl)) (by simp [execOp, go_sem, e37]) (HAF.out v hM) ?_
            rintro e w' ⟨rfl, hb⟩
            exact ⟨(), rfl, fun _ _ => rfl, hM.trans (hb.mono hM.size)⟩
          · cases ho
            have e36 : b.tmps[36]? = some (.bool true) := hF.up 11 36 rfl (hdeps ⟨11, .data⟩ (by simp) rfl)
            have e38 : b.tmps[38]? = some (.bool true) := hF.up 13 38 rfl (hdeps ⟨13, .data⟩ (by simp) rfl)
            refine QJ.quiet (x := x) hsz hC hi hF (Slots.of (by rfl)) rfl (wanted_none rfl) hM ?_
            show _ = Result.ok (Next.value (.bool true)) v
            simp [execOp, go_sem, e36, e38]
        intro listed b W5 hJ hr'
        obtain ⟨hsz, hC, xx, hF, hM⟩ := hJ
        have hall := all_upB2 (by rfl) hsz hr'
        have hb : b = putAll _ _ _ 15 := hF.done (Slots.of (by rfl)) hall
        subst hb
        have HW5 := Lib.hid hM
        simp only [putAll]
        simp [dstOf, Act.put]
        clear hF hC hall hr' hsz hM
        obtain ⟨i0, hi, hz0', hz1', hz2'⟩ := info_parts infoStr
        have hw5 := HW5.out.size
        have hws := HM.out.gat.only.size
        go_wp2_with (first
          | (go_at_call 166; (refine (HG.out W5 HW5.out).mono ?_); rintro e w6 ⟨rfl, h6, o6'⟩; have o6 := (Only.of_below HW5.out).trans o6'; unfold str; have H6 := Lib.hid h6; have O6 := Lib.hid o6; have hw6 := o6.size; clear h6 o6 o6')
          | (at_builtin; go_loud (refine wpList_append_fresh rfl _ _ 25 rfl w.heap.size 9 i0 (.string ⟨#[]⟩) 1 16 Tryz.underlying25 hi hz0' hz1' hz2' rfl (by decide) _ _ _ rfl ((HM.out.gat.keep Anyth.keeps O6.out hrb).own.alloc _) ⟨w6.heap.size, 0, none⟩ 1 1 [.string ⟨fs.toArray⟩] rfl rfl (cells_new _ _ _) (fun x hx => by simp at hx; subst hx; rfl) (by unfold maxLen; omega) (by omega) (by simp; omega) ?_); intro v' w7 hown' hgrow hfr; have HOW := Lib.hid hown'; have HGR := Lib.hid hgrow; have HFR := Lib.hid hfr; clear hown' hgrow hfr))
        have hM3 := Gat.grow (w2 := w6.alloc _) (ys := [fs]) Anyth.keeps HM.out.gat O6.out hrb ((Below.refl w6.heap.size w6).alloc (Nat.le_refl _) _) (fun _ _ => trivial) HOW.out HGR.out HFR.out
        have hR3 := (H6.out.keep ((Below.refl w6.heap.size w6).alloc (Nat.le_refl _) _)).row HGR.out (fun k e => by have := (HM.out.gat.own.lt k e).1; omega)
        go_roundg (r2.ws.length + 1)
        case rel => exact ⟨acc ++ [fs], r2, hM3, hR3, by rw [HM.out.rest, HS.out, List.append_assoc]; rfl, rfl, by simp; omega⟩
        case measure => omega
    · have te : (((r'.at_ 0).at_ : Int) == (r'.en : Int)) = false := by simp; omega
      have HST := Lib.hid (fields_stop r' (fun h => hc h.1))
      unfold tokV at CA
      generalize r'.at_ 0 = t at *
      have HA := Lib.hid CA; clear CA CF hc
      go_upto_region 7 with fail
      refine wp_region_by (QJ (fun (_ : Unit) qq => match qq with | 0 => .pointer (some ⟨rb, 0, none⟩) | 1 => .pointer (some ⟨rb, 0, none⟩) | 2 => .pointer (some ⟨rb, 0, none⟩) | 3 => .agg #[.int .i64 t.kind, .string ⟨t.text.toArray⟩, .int .i64 t.n, .int .i64 t.at_] | 4 => .int .i64 t.at_ | 5 => .pointer (some ⟨rb, 0, none⟩) | 6 => .pointer (some ⟨rb, 0, none⟩) | 7 => .pointer (some ⟨rb, 0, none⟩) | 8 => .pointer (some ⟨rb, 1, none⟩) | 9 => .int .i64 r'.en | 10 => .bool false | 11 => .bool false | 12 => undef | 13 => undef | 14 => .bool false | _ => undef) (fun _ _ v => Below wr.heap.size wr v)) (by kernel_rfl) ?_ ?_ ?_
      · exact ⟨by simp, Closed.start _, (), Fr.start _ _ _, (Below.refl wr.heap.size wr).drew⟩
      · intro listed b v q hJ hi
        obtain ⟨hsz, hC, x, hF, hM⟩ := hJ
        obtain ⟨hl1, hiN⟩ := not_up hsz hi
        obtain ⟨_, o, ho, hdeps⟩ := mem_ready.1 hi
        have hiN : q < 15 := hiN
        obtain rfl | rfl | rfl | rfl | rfl | rfl | rfl | rfl | rfl | rfl | rfl | rfl | rfl | rfl | rfl : q = 0 ∨ q = 1 ∨ q = 2 ∨ q = 3 ∨ q = 4 ∨ q = 5 ∨ q = 6 ∨ q = 7 ∨ q = 8 ∨ q = 9 ∨ q = 10 ∨ q = 11 ∨ q = 12 ∨ q = 13 ∨ q = 14 := by omega
        · cases ho
          have e0 := hF.old_is 0 (by rfl) rfl
          refine QJ.quiet (x := x) hsz hC hi hF (Slots.of (by rfl)) rfl (wanted_none rfl) hM ?_
          show _ = Result.ok (Next.value (.pointer (some ⟨rb, 0, none⟩))) v
          simp [execOp, go_sem, e0]
        · cases ho
          have e25 : b.tmps[25]? = some (.pointer (some ⟨rb, 0, none⟩)) := hF.up 0 25 rfl (hdeps ⟨0, .data⟩ (by simp) rfl)
          refine QJ.quiet (x := x) hsz hC hi hF (Slots.of (by rfl)) rfl (wanted_none rfl) hM ?_
          show _ = Result.ok (Next.value (.pointer (some ⟨rb, 0, none⟩))) v
          simp [execOp, go_sem, e25]
        · cases ho
          have e26 : b.tmps[26]? = some (.pointer (some ⟨rb, 0, none⟩)) := hF.up 1 26 rfl (hdeps ⟨1, .data⟩ (by simp) rfl)
          refine QJ.quiet (x := x) hsz hC hi hF (Slots.of (by rfl)) rfl (wanted_none rfl) hM ?_
          show _ = Result.ok (Next.value (.pointer (some ⟨rb, 0, none⟩))) v
          simp [execOp, go_sem, e26]
        · cases ho
          have e27 : b.tmps[27]? = some (.pointer (some ⟨rb, 0, none⟩)) := hF.up 2 27 rfl (hdeps ⟨2, .data⟩ (by simp) rfl)
          refine QJ.call (x := x) (f := 85) (args := #[.pointer (some ⟨rb, 0, none⟩), .int .i64 0]) hsz hC hi hF (Slots.of (by rfl)) rfl (wanted_none rfl) (by simp [execOp, go_sem, e27]) (HA.out v hM) ?_
          rintro e w' ⟨rfl, hb⟩
          exact ⟨(), rfl, fun _ _ => rfl, hM.trans (hb.mono hM.size)⟩
        · cases ho
          have e28 : b.tmps[28]? = some (.agg #[.int .i64 t.kind, .string ⟨t.text.toArray⟩, .int .i64 t.n, .int .i64 t.at_]) := hF.up 3 28 rfl (hdeps ⟨3, .data⟩ (by simp) rfl)
          refine QJ.quiet (x := x) hsz hC hi hF (Slots.of (by rfl)) rfl (wanted_none rfl) hM ?_
          show _ = Result.ok (Next.value (.int .i64 t.at_)) v
          simp [execOp, go_sem, e28, tok_f3 t]
        · cases ho
          have e0 := hF.old_is 0 (by rfl) rfl
          refine QJ.quiet (x := x) hsz hC hi hF (Slots.of (by rfl)) rfl (wanted_none rfl) hM ?_
          show _ = Result.ok (Next.value (.pointer (some ⟨rb, 0, none⟩))) v
          simp [execOp, go_sem, e0]
        · cases ho
          have e30 : b.tmps[30]? = some (.pointer (some ⟨rb, 0, none⟩)) := hF.up 5 30 rfl (hdeps ⟨5, .data⟩ (by simp) rfl)
          refine QJ.quiet (x := x) hsz hC hi hF (Slots.of (by rfl)) rfl (wanted_none rfl) hM ?_
          show _ = Result.ok (Next.value (.pointer (some ⟨rb, 0, none⟩))) v
          simp [execOp, go_sem, e30]
        · cases ho
          have e31 : b.tmps[31]? = some (.pointer (some ⟨rb, 0, none⟩)) := hF.up 6 31 rfl (hdeps ⟨6, .data⟩ (by simp) rfl)
          refine QJ.quiet (x := x) hsz hC hi hF (Slots.of (by rfl)) rfl (wanted_none rfl) hM ?_
          show _ = Result.ok (Next.value (.pointer (some ⟨rb, 0, none⟩))) v
          simp [execOp, go_sem, e31]
        · cases ho
          have e32 : b.tmps[32]? = some (.pointer (some ⟨rb, 0, none⟩)) := hF.up 7 32 rfl (hdeps ⟨7, .data⟩ (by simp) rfl)
          refine QJ.quiet (x := x) hsz hC hi hF (Slots.of (by rfl)) rfl (wanted_none rfl) hM ?_
          show _ = Result.ok (Next.value (.pointer (some ⟨rb, 1, none⟩))) v
          simp [execOp, go_sem, e32]
        · cases ho
          have n1 := (hM.cell (p := ⟨rb, 1, none⟩) hrbw).trans q1
          have e33 : b.tmps[33]? = some (.pointer (some ⟨rb, 1, none⟩)) := hF.up 8 33 rfl (hdeps ⟨8, .data⟩ (by simp) rfl)
          refine QJ.quiet (x := x) hsz hC hi hF (Slots.of (by rfl)) rfl (wanted_none rfl) hM ?_
          show _ = Result.ok (Next.value (.int .i64 r'.en)) v
          simp [execOp, go_sem, e33, n1]
        · cases ho
          have e29 : b.tmps[29]? = some (.int .i64 t.at_) := hF.up 4 29 rfl (hdeps ⟨4, .data⟩ (by simp) rfl)
          have e34 : b.tmps[34]? = some (.int .i64 r'.en) := hF.up 9 34 rfl (hdeps ⟨9, .data⟩ (by simp) rfl)
          refine QJ.quiet (x := x) hsz hC hi hF (Slots.of (by rfl)) rfl (wanted_none rfl) hM ?_
          show _ = Result.ok (Next.value (.bool false)) v
          simp [execOp, go_sem, e29, e34, te]
        · cases ho
          have e35 : b.tmps[35]? = some (.bool false) := hF.up 10 35 rfl (hdeps ⟨10, .data⟩ (by simp) rfl)
          refine QJ.quiet (x := x) hsz hC hi hF (Slots.of (by rfl)) rfl (wanted_none rfl) hM ?_
          show _ = Result.ok (Next.value (.bool false)) v
          simp [execOp, go_sem, e35]
        · cases ho
          refine QJ.skip (x := x) hsz hC hi hF (Slots.of (by rfl)) rfl ((wanted_of rfl rfl (show b.tmps[36]? = some (.bool false) from hF.up 11 36 rfl (hdeps ⟨11, .guard⟩ (by simp) rfl))).trans (by rfl)) hM rfl
        · cases ho
          refine QJ.skip (x := x) hsz hC hi hF (Slots.of (by rfl)) rfl ((wanted_of rfl rfl (show b.tmps[36]? = some (.bool false) from hF.up 11 36 rfl (hdeps ⟨11, .guard⟩ (by simp) rfl))).trans (by rfl)) hM rfl
        · cases ho
          have e36 : b.tmps[36]? = some (.bool false) := hF.up 11 36 rfl (hdeps ⟨11, .data⟩ (by simp) rfl)
          have e38 : b.tmps[38]? = some (undef) := hF.up 13 38 rfl (hdeps ⟨13, .data⟩ (by simp) rfl)
          refine QJ.quiet (x := x) hsz hC hi hF (Slots.of (by rfl)) rfl (wanted_none rfl) hM ?_
          show _ = Result.ok (Next.value (.bool false)) v
          simp [execOp, go_sem, e36, e38]
      intro listed b W5 hJ hr'
      obtain ⟨hsz, hC, xx, hF, hM⟩ := hJ
      have hall := all_upB2 (by rfl) hsz hr'
      have hb : b = putAll _ _ _ 15 := hF.done (Slots.of (by rfl)) hall
      subst hb
      have HW5 := Lib.hid hM
      simp only [putAll]
      simp [dstOf, Act.put]
      clear hF hC hall hr' hsz hM
      go_wp2
      go_ret2
      exact ⟨a, c, by rw [HF.out, HM.out.rest, HST.out, List.append_nil]; rfl, by rw [HF.out, HM.out.rest, HST.out]; exact HM.out.rd.keep HW5.out, HM.out.gat.only.trans (Only.of_below HW5.out), by rw [HF.out, HM.out.rest, HST.out, List.append_nil]; exact GatS.done (HM.out.gat.keep Anyth.keeps (Only.of_below HW5.out) hrb)⟩
set_option maxRecDepth 100000 in
set_option maxHeartbeats 8000000 in
theorem path_field (w : World) (rb : Nat) (r : R) (br : Nat) (h : RdE w rb r br) (hlen : r.ws.length ≤ 1000) (hd : isS (r.at_ 0) [36] = false) (hf : atField r = true) :
    Calls Tryz.prog 131 #[.pointer (some ⟨rb, 0, none⟩)] w (PathP w rb br (pathR r)) := by
  have hrb := h.lt
  have CT := take_any w rb r br [36] h
  have hp : pathR r = (([], (fieldR r).1 :: (fieldsR (fieldR r).2).1), (fieldsR (fieldR r).2).2) := by unfold pathR; rw [hd, if_neg (by decide), hf, if_pos rfl]
  unfold takeR at CT
  rw [hd, if_neg (by decide)] at CT
  have CF := fun w' (h' : RdE w' rb r br) => atField_any w' rb r br h'
  rw [hf] at CF
  have h2 := atField_len r hf
  have CG := fun w' (h' : RdE w' rb r br) => field_any w' rb r br h2 h'
  have hl1 := fieldR_len r h2
  generalize (fieldR r).2 = r1 at *
  generalize (fieldR r).1 = f0 at *
  obtain ⟨full, hfull⟩ : ∃ full, full = (f0 :: (fieldsR r1).1, (fieldsR r1).2) := ⟨_, rfl⟩
  have hp : pathR r = (([], full.1), full.2) := by rw [hp, hfull]
  have HT := Lib.hid CT; have HCF := Lib.hid CF; have HG0 := Lib.hid CG; have HF := Lib.hid hp; have HU := Lib.hid hfull
  clear CT CF CG hp hd h hfull hf
  obtain ⟨i0, hi, hz0', hz1', hz2'⟩ := info_parts infoStr
  go_enter Tryz.func131, Tryz.ntmps131
  go_wp2_with (first
    | (go_at_call 55; (refine HT.out.mono ?_); rintro e w1 ⟨rfl, h1, o1⟩; have H1 := Lib.hid h1; have O1 := Lib.hid o1; clear h1 o1)
    | (go_at_call 165; (refine (HCF.out w1 H1.out).mono ?_); rintro e w2 ⟨rfl, b2⟩; have H2 := Lib.hid (H1.out.keep b2); have O2 := Lib.hid (O1.out.trans (Only.of_below b2)); clear b2)
    | (go_at_call 166; (refine (HG0.out w2 H2.out).mono ?_); rintro e w3 ⟨rfl, h3, o3⟩; unfold str; have H3 := Lib.hid h3; have O3 := Lib.hid (O2.out.trans o3); have hw3 := O3.out.size; clear h3 o3)
    | (at_builtin; go_loud (refine wpList_append_fresh rfl _ _ 25 rfl w.heap.size 9 i0 (.string ⟨#[]⟩) 1 16 Tryz.underlying25 hi hz0' hz1' hz2' rfl (by decide) (.slice none 0 0) 0 [] rfl (World.ownsRow_nil _ _ _ _) ⟨w3.heap.size, 0, none⟩ 1 1 [.string ⟨f0.toArray⟩] rfl rfl (cells_new _ _ _) (fun x hx => by simp at hx; subst hx; rfl) (by unfold maxLen; omega) (by omega) (by simp; omega) ?_); intro v' w4 hown' hgrow hfr; have HOW0 := Lib.hid hown'; have HGR0 := Lib.hid hgrow; have HFR0 := Lib.hid hfr; clear hown' hgrow hfr))
  have hM0 := Gat.grow (e := 9) (sz := 1) (enc := encS) (V := Anyth) (w2 := w3.alloc _) (ys := [f0]) Anyth.keeps (Gat.start (Only.refl rb w)) O3.out hrb ((Below.refl w3.heap.size w3).alloc (Nat.le_refl _) _) (fun _ _ => trivial) HOW0.out HGR0.out HFR0.out
  have hR0 := (H3.out.keep ((Below.refl w3.heap.size w3).alloc (Nat.le_refl _) _)).row HGR0.out (fun k e => by cases e)
  have HM0 := Lib.hid hM0; have HR0 := Lib.hid hR0
  clear hM0 hR0
  go_loopg [3] (r1.ws.length + 1) (fun gk v wr => ∃ acc r', PRel w rb br full gk v wr acc r')
  case atStart => exact ⟨[f0], r1, HM0.out, HR0.out, by rw [HU.out]; rfl, rfl, by simp; omega⟩
  case round =>
    obtain ⟨acc, r', hm⟩ := hrel
    obtain ⟨a, c, rfl⟩ := own_slice hm.gat.own
    have hrbw := hm.rd.lt
    have CA := fun w' (hw : Below wr.heap.size wr w') => at0_any w' rb r' br (hm.rd.keep hw)
    have CF := fun w' (hw : Below wr.heap.size wr w') => atField_any w' rb r' br (hm.rd.keep hw)
    obtain ⟨ra, rc, hrd⟩ := hm.rd
    obtain ⟨s0, -⟩ := hrd.small_at 0
    obtain ⟨⟨q0, q1, q2, q3⟩, -⟩ := four_blk hrd.blk
    have HM := Lib.hid hm
    clear hm hrd q0 q2 q3
    by_cases hc : (r'.at_ 0).at_ = r'.en
    · have te : (((r'.at_ 0).at_ : Int) == (r'.en : Int)) = true := by simp [hc]
      cases hf : atField r'
      · have HST := Lib.hid (fields_stop r' (fun h => by rw [hf] at h; cases h.2))
        rw [hf] at CF
        unfold tokV at CA
        generalize r'.at_ 0 = t at *
        have HA := Lib.hid CA; have HAF := Lib.hid CF; clear CA CF hf hc
        go_upto_region 7 with fail
        refine wp_region_by (QJ (fun (_ : Unit) qq => match qq with | 0 => .pointer (some ⟨rb, 0, none⟩) | 1 => .pointer (some ⟨rb, 0, none⟩) | 2 => .pointer (some ⟨rb, 0, none⟩) | 3 => .agg #[.int .i64 t.kind, .string ⟨t.text.toArray⟩, .int .i64 t.n, .int .i64 t.at_] | 4 => .int .i64 t.at_ | 5 => .pointer (some ⟨rb, 0, none⟩) | 6 => .pointer (some ⟨rb, 0, none⟩) | 7 => .pointer (some ⟨rb, 0, none⟩) | 8 => .pointer (some ⟨rb, 1, none⟩) | 9 => .int .i64 r'.en | 10 => .bool true | 11 => .bool true | 12 => .pointer (some ⟨rb, 0, none⟩) | 13 => .bool false | 14 => .bool false | _ => undef) (fun _ _ v => Below wr.heap.size wr v)) (by kernel_rfl) ?_ ?_ ?_
        · exact ⟨by simp, Closed.start _, (), Fr.start _ _ _, (Below.refl wr.heap.size wr).drew⟩
        · intro listed b v q hJ hi
          obtain ⟨hsz, hC, x, hF, hM⟩ := hJ
          obtain ⟨hl1, hiN⟩ := not_up hsz hi
          obtain ⟨_, o, ho, hdeps⟩ := mem_ready.1 hi
          have hiN : q < 15 := hiN
          obtain rfl | rfl | rfl | rfl | rfl | rfl | rfl | rfl | rfl | rfl | rfl | rfl | rfl | rfl | rfl : q = 0 ∨ q = 1 ∨ q = 2 ∨ q = 3 ∨ q = 4 ∨ q = 5 ∨ q = 6 ∨ q = 7 ∨ q = 8 ∨ q = 9 ∨ q = 10 ∨ q = 11 ∨ q = 12 ∨ q = 13 ∨ q = 14 := by omega
          · cases ho
            have e0 := hF.old_is 0 (by rfl) rfl
            refine QJ.quiet (x := x) hsz hC hi hF (Slots.of (by rfl)) rfl (wanted_none rfl) hM ?_
            show _ = Result.ok (Next.value (.pointer (some ⟨rb, 0, none⟩))) v
            simp [execOp, go_sem, e0]
          · cases ho
            have e25 : b.tmps[25]? = some (.pointer (some ⟨rb, 0, none⟩)) := hF.up 0 25 rfl (hdeps ⟨0, .data⟩ (by simp) rfl)
            refine QJ.quiet (x := x) hsz hC hi hF (Slots.of (by rfl)) rfl (wanted_none rfl) hM ?_
            show _ = Result.ok (Next.value (.pointer (some ⟨rb, 0, none⟩))) v
            simp [execOp, go_sem, e25]
          · cases ho
            have e26 : b.tmps[26]? = some (.pointer (some ⟨rb, 0, none⟩)) := hF.up 1 26 rfl (hdeps ⟨1, .data⟩ (by simp) rfl)
            refine QJ.quiet (x := x) hsz hC hi hF (Slots.of (by rfl)) rfl (wanted_none rfl) hM ?_
            show _ = Result.ok (Next.value (.pointer (some ⟨rb, 0, none⟩))) v
            simp [execOp, go_sem, e26]
          · cases ho
            have e27 : b.tmps[27]? = some (.pointer (some ⟨rb, 0, none⟩)) := hF.up 2 27 rfl (hdeps ⟨2, .data⟩ (by simp) rfl)
            refine QJ.call (x := x) (f := 85) (args := #[.pointer (some ⟨rb, 0, none⟩), .int .i64 0]) hsz hC hi hF (Slots.of (by rfl)) rfl (wanted_none rfl) (by simp [execOp, go_sem, e27]) (HA.out v hM) ?_
            rintro e w' ⟨rfl, hb⟩
            exact ⟨(), rfl, fun _ _ => rfl, hM.trans (hb.mono hM.size)⟩
          · cases ho
            have e28 : b.tmps[28]? = some (.agg #[.int .i64 t.kind, .string ⟨t.text.toArray⟩, .int .i64 t.n, .int .i64 t.at_]) := hF.up 3 28 rfl (hdeps ⟨3, .data⟩ (by simp) rfl)
            refine QJ.quiet (x := x) hsz hC hi hF (Slots.of (by rfl)) rfl (wanted_none rfl) hM ?_
            show _ = Result.ok (Next.value (.int .i64 t.at_)) v
            simp [execOp, go_sem, e28, tok_f3 t]
          · cases ho
            have e0 := hF.old_is 0 (by rfl) rfl
            refine QJ.quiet (x := x) hsz hC hi hF (Slots.of (by rfl)) rfl (wanted_none rfl) hM ?_
            show _ = Result.ok (Next.value (.pointer (some ⟨rb, 0, none⟩))) v
            simp [execOp, go_sem, e0]
          · cases ho
            have e30 : b.tmps[30]? = some (.pointer (some ⟨rb, 0, none⟩)) := hF.up 5 30 rfl (hdeps ⟨5, .data⟩ (by simp) rfl)
            refine QJ.quiet (x := x) hsz hC hi hF (Slots.of (by rfl)) rfl (wanted_none rfl) hM ?_
            show _ = Result.ok (Next.value (.pointer (some ⟨rb, 0, none⟩))) v
            simp [execOp, go_sem, e30]
          · cases ho
            have e31 : b.tmps[31]? = some (.pointer (some ⟨rb, 0, none⟩)) := hF.up 6 31 rfl (hdeps ⟨6, .data⟩ (by simp) rfl)
            refine QJ.quiet (x := x) hsz hC hi hF (Slots.of (by rfl)) rfl (wanted_none rfl) hM ?_
            show _ = Result.ok (Next.value (.pointer (some ⟨rb, 0, none⟩))) v
            simp [execOp, go_sem, e31]
          · cases ho
            have e32 : b.tmps[32]? = some (.pointer (some ⟨rb, 0, none⟩)) := hF.up 7 32 rfl (hdeps ⟨7, .data⟩ (by simp) rfl)
            refine QJ.quiet (x := x) hsz hC hi hF (Slots.of (by rfl)) rfl (wanted_none rfl) hM ?_
            show _ = Result.ok (Next.value (.pointer (some ⟨rb, 1, none⟩))) v
            simp [execOp, go_sem, e32]
          · cases ho
            have n1 := (hM.cell (p := ⟨rb, 1, none⟩) hrbw).trans q1
            have e33 : b.tmps[33]? = some (.pointer (some ⟨rb, 1, none⟩)) := hF.up 8 33 rfl (hdeps ⟨8, .data⟩ (by simp) rfl)
            refine QJ.quiet (x := x) hsz hC hi hF (Slots.of (by rfl)) rfl (wanted_none rfl) hM ?_
            show _ = Result.ok (Next.value (.int .i64 r'.en)) v
            simp [execOp, go_sem, e33, n1]
          · cases ho
            have e29 : b.tmps[29]? = some (.int .i64 t.at_) := hF.up 4 29 rfl (hdeps ⟨4, .data⟩ (by simp) rfl)
            have e34 : b.tmps[34]? = some (.int .i64 r'.en) := hF.up 9 34 rfl (hdeps ⟨9, .data⟩ (by simp) rfl)
            refine QJ.quiet (x := x) hsz hC hi hF (Slots.of (by rfl)) rfl (wanted_none rfl) hM ?_
            show _ = Result.ok (Next.value (.bool true)) v
            simp [execOp, go_sem, e29, e34, te]
          · cases ho
            have e35 : b.tmps[35]? = some (.bool true) := hF.up 10 35 rfl (hdeps ⟨10, .data⟩ (by simp) rfl)
            refine QJ.quiet (x := x) hsz hC hi hF (Slots.of (by rfl)) rfl (wanted_none rfl) hM ?_
            show _ = Result.ok (Next.value (.bool true)) v
            simp [execOp, go_sem, e35]
          · cases ho
            have e0 := hF.old_is 0 (by rfl) rfl
            refine QJ.quiet (x := x) hsz hC hi hF (Slots.of (by rfl)) rfl ((wanted_of rfl rfl (show b.tmps[36]? = some (.bool true) from hF.up 11 36 rfl (hdeps ⟨11, .guard⟩ (by simp) rfl))).trans (by rfl)) hM ?_
            show _ = Result.ok (Next.value (.pointer (some ⟨rb, 0, none⟩))) v
            simp [execOp, go_sem, e0]
          · cases ho
            have e37 : b.tmps[37]? = some (.pointer (some ⟨rb, 0, none⟩)) := hF.up 12 37 rfl (hdeps ⟨12, .data⟩ (by simp) rfl)
            refine QJ.call (x := x) (f := 165) (args := #[.pointer (some ⟨rb, 0, none⟩)]) hsz hC hi hF (Slots.of (by rfl)) rfl ((wanted_of rfl rfl (show b.tmps[36]? = some (.bool true) from hF.up 11 36 rfl (hdeps ⟨11, .guard⟩ (by simp) rfl))).trans (by rfl)) (by simp [execOp, go_sem, e37]) (HAF.out v hM) ?_
            rintro e w' ⟨rfl, hb⟩
            exact ⟨(), rfl, fun _ _ => rfl, hM.trans (hb.mono hM.size)⟩
          · cases ho
            have e36 : b.tmps[36]? = some (.bool true) := hF.up 11 36 rfl (hdeps ⟨11, .data⟩ (by simp) rfl)
            have e38 : b.tmps[38]? = some (.bool false) := hF.up 13 38 rfl (hdeps ⟨13, .data⟩ (by simp) rfl)
            refine QJ.quiet (x := x) hsz hC hi hF (Slots.of (by rfl)) rfl (wanted_none rfl) hM ?_
            show _ = Result.ok (Next.value (.bool false)) v
            simp [execOp, go_sem, e36, e38]
        intro listed b W5 hJ hr'
        obtain ⟨hsz, hC, xx, hF, hM⟩ := hJ
        have hall := all_upB2 (by rfl) hsz hr'
        have hb : b = putAll _ _ _ 15 := hF.done (Slots.of (by rfl)) hall
        subst hb
        have HW5 := Lib.hid hM
        simp only [putAll]
        simp [dstOf, Act.put]
        clear hF hC hall hr' hsz hM
        go_wp2
        go_ret2
        exact ⟨a, c, by rw [HF.out, HM.out.rest, HST.out, List.append_nil]; rfl, by rw [HF.out, HM.out.rest, HST.out]; exact HM.out.rd.keep HW5.out, HM.out.gat.only.trans (Only.of_below HW5.out), by rw [HF.out, HM.out.rest, HST.out, List.append_nil]; exact GatS.done (HM.out.gat.keep Anyth.keeps (Only.of_below HW5.out) hrb)⟩
      · have hcc : (r'.at_ 0).at_ = r'.en ∧ atField r' = true := ⟨hc, hf⟩
        have h2 := atField_len r' hf
        have hst := fields_step r' hcc
        have hfl := fieldR_len r' h2
        have CG := fun w' (hw : Below wr.heap.size wr w') => field_any w' rb r' br h2 (HM.out.rd.keep hw)
        rw [hf] at CF
        unfold tokV at CA
        generalize r'.at_ 0 = t at *
        generalize (fieldR r').1 = fs at *
        generalize (fieldR r').2 = r2 at *
        have hfw := HM.out.few
        have hfu := HM.out.fuel
        have HA := Lib.hid CA; have HAF := Lib.hid CF; have HG := Lib.hid CG; have HS := Lib.hid hst; clear CA CF CG hst hf hc hcc
        go_upto_region 7 with fail
        refine wp_region_by (QJ (fun (_ : Unit) qq => match qq with | 0 => .pointer (some ⟨rb, 0, none⟩) | 1 => .pointer (some ⟨rb, 0, none⟩) | 2 => .pointer (some ⟨rb, 0, none⟩) | 3 => .agg #[.int .i64 t.kind, .string ⟨t.text.toArray⟩, .int .i64 t.n, .int .i64 t.at_] | 4 => .int .i64 t.at_ | 5 => .pointer (some ⟨rb, 0, none⟩) | 6 => .pointer (some ⟨rb, 0, none⟩) | 7 => .pointer (some ⟨rb, 0, none⟩) | 8 => .pointer (some ⟨rb, 1, none⟩) | 9 => .int .i64 r'.en | 10 => .bool true | 11 => .bool true | 12 => .pointer (some ⟨rb, 0, none⟩) | 13 => .bool true | 14 => .bool true | _ => undef) (fun _ _ v => Below wr.heap.size wr v)) (by kernel_rfl) ?_ ?_ ?_
        · exact ⟨by simp, Closed.start _, (), Fr.start _ _ _, (Below.refl wr.heap.size wr).drew⟩
        · intro listed b v q hJ hi
          obtain ⟨hsz, hC, x, hF, hM⟩ := hJ
          obtain ⟨hl1, hiN⟩ := not_up hsz hi
          obtain ⟨_, o, ho, hdeps⟩ := mem_ready.1 hi
          have hiN : q < 15 := hiN
          obtain rfl | rfl | rfl | rfl | rfl | rfl | rfl | rfl | rfl | rfl | rfl | rfl | rfl | rfl | rfl : q = 0 ∨ q = 1 ∨ q = 2 ∨ q = 3 ∨ q = 4 ∨ q = 5 ∨ q = 6 ∨ q = 7 ∨ q = 8 ∨ q = 9 ∨ q = 10 ∨ q = 11 ∨ q = 12 ∨ q = 13 ∨ q = 14 := by omega
          · cases ho
            have e0 := hF.old_is 0 (by rfl) rfl
            refine QJ.quiet (x := x) hsz hC hi hF (Slots.of (by rfl)) rfl (wanted_none rfl) hM ?_
            show _ = Result.ok (Next.value (.pointer (some ⟨rb, 0, none⟩))) v
            simp [execOp, go_sem, e0]
          · cases ho
            have e25 : b.tmps[25]? = some (.pointer (some ⟨rb, 0, none⟩)) := hF.up 0 25 rfl (hdeps ⟨0, .data⟩ (by simp) rfl)
            refine QJ.quiet (x := x) hsz hC hi hF (Slots.of (by rfl)) rfl (wanted_none rfl) hM ?_
            show _ = Result.ok (Next.value (.pointer (some ⟨rb, 0, none⟩))) v
            simp [execOp, go_sem, e25]
          · cases ho
            have e26 : b.tmps[26]? = some (.pointer (some ⟨rb, 0, none⟩)) := hF.up 1 26 rfl (hdeps ⟨1, .data⟩ (by simp) rfl)
            refine QJ.quiet (x := x) hsz hC hi hF (Slots.of (by rfl)) rfl (wanted_none rfl) hM ?_
            show _ = Result.ok (Next.value (.pointer (some ⟨rb, 0, none⟩))) v
            simp [execOp, go_sem, e26]
          · cases ho
            have e27 : b.tmps[27]? = some (.pointer (some ⟨rb, 0, none⟩)) := hF.up 2 27 rfl (hdeps ⟨2, .data⟩ (by simp) rfl)
            refine QJ.call (x := x) (f := 85) (args := #[.pointer (some ⟨rb, 0, none⟩), .int .i64 0]) hsz hC hi hF (Slots.of (by rfl)) rfl (wanted_none rfl) (by simp [execOp, go_sem, e27]) (HA.out v hM) ?_
            rintro e w' ⟨rfl, hb⟩
            exact ⟨(), rfl, fun _ _ => rfl, hM.trans (hb.mono hM.size)⟩
          · cases ho
            have e28 : b.tmps[28]? = some (.agg #[.int .i64 t.kind, .string ⟨t.text.toArray⟩, .int .i64 t.n, .int .i64 t.at_]) := hF.up 3 28 rfl (hdeps ⟨3, .data⟩ (by simp) rfl)
            refine QJ.quiet (x := x) hsz hC hi hF (Slots.of (by rfl)) rfl (wanted_none rfl) hM ?_
            show _ = Result.ok (Next.value (.int .i64 t.at_)) v
            simp [execOp, go_sem, e28, tok_f3 t]
          · cases ho
            have e0 := hF.old_is 0 (by rfl) rfl
            refine QJ.quiet (x := x) hsz hC hi hF (Slots.of (by rfl)) rfl (wanted_none rfl) hM ?_
            show _ = Result.ok (Next.value (.pointer (some ⟨rb, 0, none⟩))) v
            simp [execOp, go_sem, e0]
          · cases ho
            have e30 : b.tmps[30]? = some (.pointer (some ⟨rb, 0, none⟩)) := hF.up 5 30 rfl (hdeps ⟨5, .data⟩ (by simp) rfl)
            refine QJ.quiet (x := x) hsz hC hi hF (Slots.of (by rfl)) rfl (wanted_none rfl) hM ?_
            show _ = Result.ok (Next.value (.pointer (some ⟨rb, 0, none⟩))) v
            simp [execOp, go_sem, e30]
          · cases ho
            have e31 : b.tmps[31]? = some (.pointer (some ⟨rb, 0, none⟩)) := hF.up 6 31 rfl (hdeps ⟨6, .data⟩ (by simp) rfl)
            refine QJ.quiet (x := x) hsz hC hi hF (Slots.of (by rfl)) rfl (wanted_none rfl) hM ?_
            show _ = Result.ok (Next.value (.pointer (some ⟨rb, 0, none⟩))) v
            simp [execOp, go_sem, e31]
          · cases ho
            have e32 : b.tmps[32]? = some (.pointer (some ⟨rb, 0, none⟩)) := hF.up 7 32 rfl (hdeps ⟨7, .data⟩ (by simp) rfl)
            refine QJ.quiet (x := x) hsz hC hi hF (Slots.of (by rfl)) rfl (wanted_none rfl) hM ?_
            show _ = Result.ok (Next.value (.pointer (some ⟨rb, 1, none⟩))) v
            simp [execOp, go_sem, e32]
          · cases ho
            have n1 := (hM.cell (p := ⟨rb, 1, none⟩) hrbw).trans q1
            have e33 : b.tmps[33]? = some (.pointer (some ⟨rb, 1, none⟩)) := hF.up 8 33 rfl (hdeps ⟨8, .data⟩ (by simp) rfl)
            refine QJ.quiet (x := x) hsz hC hi hF (Slots.of (by rfl)) rfl (wanted_none rfl) hM ?_
            show _ = Result.ok (Next.value (.int .i64 r'.en)) v
            simp [execOp, go_sem, e33, n1]
          · cases ho
            have e29 : b.tmps[29]? = some (.int .i64 t.at_) := hF.up 4 29 rfl (hdeps ⟨4, .data⟩ (by simp) rfl)
            have e34 : b.tmps[34]? = some (.int .i64 r'.en) := hF.up 9 34 rfl (hdeps ⟨9, .data⟩ (by simp) rfl)
            refine QJ.quiet (x := x) hsz hC hi hF (Slots.of (by rfl)) rfl (wanted_none rfl) hM ?_
            show _ = Result.ok (Next.value (.bool true)) v
            simp [execOp, go_sem, e29, e34, te]
          · cases ho
            have e35 : b.tmps[35]? = some (.bool true) := hF.up 10 35 rfl (hdeps ⟨10, .data⟩ (by simp) rfl)
            refine QJ.quiet (x := x) hsz hC hi hF (Slots.of (by rfl)) rfl (wanted_none rfl) hM ?_
            show _ = Result.ok (Next.value (.bool true)) v
            simp [execOp, go_sem, e35]
          · cases ho
            have e0 := hF.old_is 0 (by rfl) rfl
            refine QJ.quiet (x := x) hsz hC hi hF (Slots.of (by rfl)) rfl ((wanted_of rfl rfl (show b.tmps[36]? = some (.bool true) from hF.up 11 36 rfl (hdeps ⟨11, .guard⟩ (by simp) rfl))).trans (by rfl)) hM ?_
            show _ = Result.ok (Next.value (.pointer (some ⟨rb, 0, none⟩))) v
            simp [execOp, go_sem, e0]
          · cases ho
            have e37 : b.tmps[37]? = some (.pointer (some ⟨rb, 0, none⟩)) := hF.up 12 37 rfl (hdeps ⟨12, .data⟩ (by simp) rfl)
            refine QJ.call (x := x) (f := 165) (args := #[.pointer (some ⟨rb, 0, none⟩)]) hsz hC hi hF (Slots.of (by rfl)) rfl ((wanted_of rfl rfl (show b.tmps[36]? = some (.bool true) from hF.up 11 36 rfl (hdeps ⟨11, .guard⟩ (by simp) rfl))).trans (by rfl)) (by simp [execOp, go_sem, e37]) (HAF.out v hM) ?_
            rintro e w' ⟨rfl, hb⟩
            exact ⟨(), rfl, fun _ _ => rfl, hM.trans (hb.mono hM.size)⟩
          · cases ho
            have e36 : b.tmps[36]? = some (.bool true) := hF.up 11 36 rfl (hdeps ⟨11, .data⟩ (by simp) rfl)
            have e38 : b.tmps[38]? = some (.bool true) := hF.up 13 38 rfl (hdeps ⟨13, .data⟩ (by simp) rfl)
            refine QJ.quiet (x := x) hsz hC hi hF (Slots.of (by rfl)) rfl (wanted_none rfl) hM ?_
            show _ = Result.ok (Next.value (.bool true)) v
            simp [execOp, go_sem, e36, e38]
        intro listed b W5 hJ hr'
        obtain ⟨hsz, hC, xx, hF, hM⟩ := hJ
        have hall := all_upB2 (by rfl) hsz hr'
        have hb : b = putAll _ _ _ 15 := hF.done (Slots.of (by rfl)) hall
        subst hb
        have HW5 := Lib.hid hM
        simp only [putAll]
        simp [dstOf, Act.put]
        clear hF hC hall hr' hsz hM
        obtain ⟨i0, hi, hz0', hz1', hz2'⟩ := info_parts infoStr
        have hw5 := HW5.out.size
        have hws := HM.out.gat.only.size
        go_wp2_with (first
          | (go_at_call 166; (refine (HG.out W5 HW5.out).mono ?_); rintro e w6 ⟨rfl, h6, o6'⟩; have o6 := (Only.of_below HW5.out).trans o6'; unfold str; have H6 := Lib.hid h6; have O6 := Lib.hid o6; have hw6 := o6.size; clear h6 o6 o6')
          | (at_builtin; go_loud (refine wpList_append_fresh rfl _ _ 25 rfl w.heap.size 9 i0 (.string ⟨#[]⟩) 1 16 Tryz.underlying25 hi hz0' hz1' hz2' rfl (by decide) _ _ _ rfl ((HM.out.gat.keep Anyth.keeps O6.out hrb).own.alloc _) ⟨w6.heap.size, 0, none⟩ 1 1 [.string ⟨fs.toArray⟩] rfl rfl (cells_new _ _ _) (fun x hx => by simp at hx; subst hx; rfl) (by unfold maxLen; omega) (by omega) (by simp; omega) ?_); intro v' w7 hown' hgrow hfr; have HOW := Lib.hid hown'; have HGR := Lib.hid hgrow; have HFR := Lib.hid hfr; clear hown' hgrow hfr))
        have hM3 := Gat.grow (w2 := w6.alloc _) (ys := [fs]) Anyth.keeps HM.out.gat O6.out hrb ((Below.refl w6.heap.size w6).alloc (Nat.le_refl _) _) (fun _ _ => trivial) HOW.out HGR.out HFR.out
        have hR3 := (H6.out.keep ((Below.refl w6.heap.size w6).alloc (Nat.le_refl _) _)).row HGR.out (fun k e => by have := (HM.out.gat.own.lt k e).1; omega)
        go_roundg (r2.ws.length + 1)
        case rel => exact ⟨acc ++ [fs], r2, hM3, hR3, by rw [HM.out.rest, HS.out, List.append_assoc]; rfl, rfl, by simp; omega⟩
        case measure => omega
    · have te : (((r'.at_ 0).at_ : Int) == (r'.en : Int)) = false := by simp; omega
      have HST := Lib.hid (fields_stop r' (fun h => hc h.1))
      unfold tokV at CA
      generalize r'.at_ 0 = t at *
      have HA := Lib.hid CA; clear CA CF hc
      go_upto_region 7 with fail
      refine wp_region_by (QJ (fun (_ : Unit) qq => match qq with | 0 => .pointer (some ⟨rb, 0, none⟩) | 1 => .pointer (some ⟨rb, 0, none⟩) | 2 => .pointer (some ⟨rb, 0, none⟩) | 3 => .agg #[.int .i64 t.kind, .string ⟨t.text.toArray⟩, .int .i64 t.n, .int .i64 t.at_] | 4 => .int .i64 t.at_ | 5 => .pointer (some ⟨rb, 0, none⟩) | 6 => .pointer (some ⟨rb, 0, none⟩) | 7 => .pointer (some ⟨rb, 0, none⟩) | 8 => .pointer (some ⟨rb, 1, none⟩) | 9 => .int .i64 r'.en | 10 => .bool false | 11 => .bool false | 12 => undef | 13 => undef | 14 => .bool false | _ => undef) (fun _ _ v => Below wr.heap.size wr v)) (by kernel_rfl) ?_ ?_ ?_
      · exact ⟨by simp, Closed.start _, (), Fr.start _ _ _, (Below.refl wr.heap.size wr).drew⟩
      · intro listed b v q hJ hi
        obtain ⟨hsz, hC, x, hF, hM⟩ := hJ
        obtain ⟨hl1, hiN⟩ := not_up hsz hi
        obtain ⟨_, o, ho, hdeps⟩ := mem_ready.1 hi
        have hiN : q < 15 := hiN
        obtain rfl | rfl | rfl | rfl | rfl | rfl | rfl | rfl | rfl | rfl | rfl | rfl | rfl | rfl | rfl : q = 0 ∨ q = 1 ∨ q = 2 ∨ q = 3 ∨ q = 4 ∨ q = 5 ∨ q = 6 ∨ q = 7 ∨ q = 8 ∨ q = 9 ∨ q = 10 ∨ q = 11 ∨ q = 12 ∨ q = 13 ∨ q = 14 := by omega
        · cases ho
          have e0 := hF.old_is 0 (by rfl) rfl
          refine QJ.quiet (x := x) hsz hC hi hF (Slots.of (by rfl)) rfl (wanted_none rfl) hM ?_
          show _ = Result.ok (Next.value (.pointer (some ⟨rb, 0, none⟩))) v
          simp [execOp, go_sem, e0]
        · cases ho
          have e25 : b.tmps[25]? = some (.pointer (some ⟨rb, 0, none⟩)) := hF.up 0 25 rfl (hdeps ⟨0, .data⟩ (by simp) rfl)
          refine QJ.quiet (x := x) hsz hC hi hF (Slots.of (by rfl)) rfl (wanted_none rfl) hM ?_
          show _ = Result.ok (Next.value (.pointer (some ⟨rb, 0, none⟩))) v
          simp [execOp, go_sem, e25]
        · cases ho
          have e26 : b.tmps[26]? = some (.pointer (some ⟨rb, 0, none⟩)) := hF.up 1 26 rfl (hdeps ⟨1, .data⟩ (by simp) rfl)
          refine QJ.quiet (x := x) hsz hC hi hF (Slots.of (by rfl)) rfl (wanted_none rfl) hM ?_
          show _ = Result.ok (Next.value (.pointer (some ⟨rb, 0, none⟩))) v
          simp [execOp, go_sem, e26]
        · cases ho
          have e27 : b.tmps[27]? = some (.pointer (some ⟨rb, 0, none⟩)) := hF.up 2 27 rfl (hdeps ⟨2, .data⟩ (by simp) rfl)
          refine QJ.call (x := x) (f := 85) (args := #[.pointer (some ⟨rb, 0, none⟩), .int .i64 0]) hsz hC hi hF (Slots.of (by rfl)) rfl (wanted_none rfl) (by simp [execOp, go_sem, e27]) (HA.out v hM) ?_
          rintro e w' ⟨rfl, hb⟩
          exact ⟨(), rfl, fun _ _ => rfl, hM.trans (hb.mono hM.size)⟩
        · cases ho
          have e28 : b.tmps[28]? = some (.agg #[.int .i64 t.kind, .string ⟨t.text.toArray⟩, .int .i64 t.n, .int .i64 t.at_]) := hF.up 3 28 rfl (hdeps ⟨3, .data⟩ (by simp) rfl)
          refine QJ.quiet (x := x) hsz hC hi hF (Slots.of (by rfl)) rfl (wanted_none rfl) hM ?_
          show _ = Result.ok (Next.value (.int .i64 t.at_)) v
          simp [execOp, go_sem, e28, tok_f3 t]
        · cases ho
          have e0 := hF.old_is 0 (by rfl) rfl
          refine QJ.quiet (x := x) hsz hC hi hF (Slots.of (by rfl)) rfl (wanted_none rfl) hM ?_
          show _ = Result.ok (Next.value (.pointer (some ⟨rb, 0, none⟩))) v
          simp [execOp, go_sem, e0]
        · cases ho
          have e30 : b.tmps[30]? = some (.pointer (some ⟨rb, 0, none⟩)) := hF.up 5 30 rfl (hdeps ⟨5, .data⟩ (by simp) rfl)
          refine QJ.quiet (x := x) hsz hC hi hF (Slots.of (by rfl)) rfl (wanted_none rfl) hM ?_
          show _ = Result.ok (Next.value (.pointer (some ⟨rb, 0, none⟩))) v
          simp [execOp, go_sem, e30]
        · cases ho
          have e31 : b.tmps[31]? = some (.pointer (some ⟨rb, 0, none⟩)) := hF.up 6 31 rfl (hdeps ⟨6, .data⟩ (by simp) rfl)
          refine QJ.quiet (x := x) hsz hC hi hF (Slots.of (by rfl)) rfl (wanted_none rfl) hM ?_
          show _ = Result.ok (Next.value (.pointer (some ⟨rb, 0, none⟩))) v
          simp [execOp, go_sem, e31]
        · cases ho
          have e32 : b.tmps[32]? = some (.pointer (some ⟨rb, 0, none⟩)) := hF.up 7 32 rfl (hdeps ⟨7, .data⟩ (by simp) rfl)
          refine QJ.quiet (x := x) hsz hC hi hF (Slots.of (by rfl)) rfl (wanted_none rfl) hM ?_
          show _ = Result.ok (Next.value (.pointer (some ⟨rb, 1, none⟩))) v
          simp [execOp, go_sem, e32]
        · cases ho
          have n1 := (hM.cell (p := ⟨rb, 1, none⟩) hrbw).trans q1
          have e33 : b.tmps[33]? = some (.pointer (some ⟨rb, 1, none⟩)) := hF.up 8 33 rfl (hdeps ⟨8, .data⟩ (by simp) rfl)
          refine QJ.quiet (x := x) hsz hC hi hF (Slots.of (by rfl)) rfl (wanted_none rfl) hM ?_
          show _ = Result.ok (Next.value (.int .i64 r'.en)) v
          simp [execOp, go_sem, e33, n1]
        · cases ho
          have e29 : b.tmps[29]? = some (.int .i64 t.at_) := hF.up 4 29 rfl (hdeps ⟨4, .data⟩ (by simp) rfl)
          have e34 : b.tmps[34]? = some (.int .i64 r'.en) := hF.up 9 34 rfl (hdeps ⟨9, .data⟩ (by simp) rfl)
          refine QJ.quiet (x := x) hsz hC hi hF (Slots.of (by rfl)) rfl (wanted_none rfl) hM ?_
          show _ = Result.ok (Next.value (.bool false)) v
          simp [execOp, go_sem, e29, e34, te]
        · cases ho
          have e35 : b.tmps[35]? = some (.bool false) := hF.up 10 35 rfl (hdeps ⟨10, .data⟩ (by simp) rfl)
          refine QJ.quiet (x := x) hsz hC hi hF (Slots.of (by rfl)) rfl (wanted_none rfl) hM ?_
          show _ = Result.ok (Next.value (.bool false)) v
          simp [execOp, go_sem, e35]
        · cases ho
          refine QJ.skip (x := x) hsz hC hi hF (Slots.of (by rfl)) rfl ((wanted_of rfl rfl (show b.tmps[36]? = some (.bool false) from hF.up 11 36 rfl (hdeps ⟨11, .guard⟩ (by simp) rfl))).trans (by rfl)) hM rfl
        · cases ho
          refine QJ.skip (x := x) hsz hC hi hF (Slots.of (by rfl)) rfl ((wanted_of rfl rfl (show b.tmps[36]? = some (.bool false) from hF.up 11 36 rfl (hdeps ⟨11, .guard⟩ (by simp) rfl))).trans (by rfl)) hM rfl
        · cases ho
          have e36 : b.tmps[36]? = some (.bool false) := hF.up 11 36 rfl (hdeps ⟨11, .data⟩ (by simp) rfl)
          have e38 : b.tmps[38]? = some (undef) := hF.up 13 38 rfl (hdeps ⟨13, .data⟩ (by simp) rfl)
          refine QJ.quiet (x := x) hsz hC hi hF (Slots.of (by rfl)) rfl (wanted_none rfl) hM ?_
          show _ = Result.ok (Next.value (.bool false)) v
          simp [execOp, go_sem, e36, e38]
      intro listed b W5 hJ hr'
      obtain ⟨hsz, hC, xx, hF, hM⟩ := hJ
      have hall := all_upB2 (by rfl) hsz hr'
      have hb : b = putAll _ _ _ 15 := hF.done (Slots.of (by rfl)) hall
      subst hb
      have HW5 := Lib.hid hM
      simp only [putAll]
      simp [dstOf, Act.put]
      clear hF hC hall hr' hsz hM
      go_wp2
      go_ret2
      exact ⟨a, c, by rw [HF.out, HM.out.rest, HST.out, List.append_nil]; rfl, by rw [HF.out, HM.out.rest, HST.out]; exact HM.out.rd.keep HW5.out, HM.out.gat.only.trans (Only.of_below HW5.out), by rw [HF.out, HM.out.rest, HST.out, List.append_nil]; exact GatS.done (HM.out.gat.keep Anyth.keeps (Only.of_below HW5.out) hrb)⟩
set_option maxRecDepth 100000 in
set_option maxHeartbeats 2000000 in
theorem path_dot (w : World) (rb : Nat) (r : R) (br : Nat) (h : RdE w rb r br) (h0 : 1 ≤ r.ws.length) (hd : isS (r.at_ 0) [36] = false) (hf : atField r = false) :
    Calls Tryz.prog 131 #[.pointer (some ⟨rb, 0, none⟩)] w (PathP w rb br (pathR r)) := by
  have CT := take_any w rb r br [36] h
  have hp : pathR r = (([], []), r.step) := by unfold pathR; rw [hd, if_neg (by decide), hf, if_neg (by decide)]
  unfold takeR at CT
  rw [hd, if_neg (by decide)] at CT
  have CF := fun w' (h' : RdE w' rb r br) => atField_any w' rb r br h'
  rw [hf] at CF
  have CS := fun w' (h' : RdE w' rb r br) => step_any w' rb r br h0 h'
  rw [hp]
  have HT := Lib.hid CT; have HCF := Lib.hid CF; have HS := Lib.hid CS
  clear CT CF CS hp hd h hf
  go_enter Tryz.func131, Tryz.ntmps131
  go_wp2_with (first
    | (go_at_call 55; (refine HT.out.mono ?_); rintro e w1 ⟨rfl, h1, o1⟩; have H1 := Lib.hid h1; have O1 := Lib.hid o1; clear h1 o1)
    | (go_at_call 165; (refine (HCF.out w1 H1.out).mono ?_); rintro e w2 ⟨rfl, b2⟩; have H2 := Lib.hid (H1.out.keep b2); have O2 := Lib.hid (O1.out.trans (Only.of_below b2)); clear b2)
    | (go_at_call 89; (refine (HS.out w2 H2.out).mono ?_); rintro e w3 ⟨rfl, h3, o3⟩; have H3 := Lib.hid h3; have O3 := Lib.hid (O2.out.trans o3); clear h3 o3))
  go_ret2
  exact ⟨none, 0, rfl, H3.out, O3.out, .inl rfl⟩
theorem path_any (w : World) (rb : Nat) (r : R) (br : Nat) (h : RdE w rb r br) (h0 : 1 ≤ r.ws.length) (hlen : r.ws.length ≤ 1000) :
    Calls Tryz.prog 131 #[.pointer (some ⟨rb, 0, none⟩)] w (PathP w rb br (pathR r)) := by
  cases hd : isS (r.at_ 0) [36]
  · cases hf : atField r
    · exact path_dot w rb r br h h0 hd hf
    · exact path_field w rb r br h hlen hd hf
  · exact path_var w rb r br h hlen hd
end Tr
end Go.Proofs.YtlfbcaenlifmkaaGreatDoor
