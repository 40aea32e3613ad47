/- A pipeline; what stands in brackets; both however deep. -/
import Derived.Test.YtlfbcaenlifmkaaGreatDoorB16
namespace Go.Proofs.YtlfbcaenlifmkaaGreatDoor
open Go.RowKit
namespace Tr
open Sc Sh Sp
theorem infoC : (Tryz.prog.info? 63).map (fun i => (i.zero, i.size, i.bytes)) = some (some (.agg #[.slice none 0 0]), 1, 24) := by kernel_rfl
def encC (y : List Op × CU) : List Value := y.2.cells
def CmdY (w : World) (S : Nat → Prop) (y : List Op × CU) : Prop := CmdV w S y.1 y.2
theorem CmdY.keeps : Keeps CmdY := fun _ _ _ _ _ h hS hk => CmdV.keep h hS hk
abbrev GatC (w0 w : World) (rb : Nat) (v : Value) (l : List (List Op × CU)) : Prop := Gat 63 1 encC CmdY w0 w rb v l
theorem flat_cmd (l : List (List Op × CU)) : l.flatMap encC = (l.map (·.2)).flatMap CU.cells := by rw [List.flatMap_map]; rfl
theorem GatC.pipe {w0 w : World} {rb : Nat} {a : Option Addr} {n c : Nat} {l : List (List Op × CU)} (h : GatC w0 w rb (.slice a n c) l) : PipeV w (Span w0.heap.size w.heap.size) (l.map (·.1)) a (l.map (·.2)) := by
  have h1 := Gat.cells h
  rw [flat_cmd] at h1
  refine ⟨by simp, h1, fun j k k' => ?_⟩
  simp only [List.getElem_map]
  exact Gat.all CmdY.keeps h _ (List.getElem_mem _)
structure CRel (d : Nat) (w : World) (rb br : Nat) (full : List (List Op) × R) (gk : Nat) (v : Value) (wr : World) (l : List (List Op × CU)) (r : R) : Prop where
  gat : GatC w wr rb v l
  rd : RdE wr rb r br
  env : Env wr rb
  rest : full = (l.map (·.1) ++ (moreR d r).1, (moreR d r).2)
  few : l.length + r.ws.length ≤ 2000
  fuel : gk = r.ws.length + 1
  len : r.ws.length ≤ 1000
set_option maxRecDepth 100000 in
set_option maxHeartbeats 8000000 in
theorem pipe_any (d : Nat) (w : World) (rb : Nat) (r : R) (br : Nat) (h : RdE w rb r br) (hE : Env w rb) (hlen : r.ws.length ≤ 1000) (hO : OpC rb br (brkR d)) :
    Calls Tryz.prog 31 #[.pointer (some ⟨rb, 0, none⟩)] w (PipP w rb br (pipeOver (brkR d) r)) := by
  have hrb := h.lt
  have CC := command_any (brkR d) (brkR_len d) w rb r br h hE hlen hO
  have hcl := commandR_len (brkR d) (brkR_len d) r
  have hp : pipeOver (brkR d) r = ((commandR (brkR d) r).1 :: (moreR d (commandR (brkR d) r).2).1, (moreR d (commandR (brkR d) r).2).2) := rfl
  generalize commandR (brkR d) r = x at *
  obtain ⟨ops, r1⟩ := x
  simp only at hcl hp
  obtain ⟨full, hfull⟩ : ∃ full, full = pipeOver (brkR d) r := ⟨_, rfl⟩
  rw [← hfull] at hp ⊢
  have HC := Lib.hid CC; have HF := Lib.hid hp; have HE := Lib.hid hE; have HO := Lib.hid hO
  clear CC hp h hE hO hfull
  obtain ⟨i0, hi, hz0', hz1', hz2'⟩ := info_parts infoC
  go_enter Tryz.func31, Tryz.ntmps31
  go_wp2_with (go_at_call 54; (refine HC.out.mono ?_); rintro e w1 ⟨u, rfl, h1, o1, hv⟩; have H1 := Lib.hid h1; have O1 := Lib.hid o1; have HV1 := Lib.hid hv; unfold CU.val; clear h1 o1 hv)
  have hw1 := O1.out.size
  have hG := Gat.lit (e := 63) (sz := 1) (enc := encC) (V := CmdY) CmdY.keeps O1.out (y := (ops, u)) rfl HV1.out
  have hR := H1.out.keep ((Below.refl w1.heap.size w1).alloc (Nat.le_refl _) (.cells u.cells.toArray 63))
  have hE1 := HE.out.only (O1.out.trans (Only.alloc rb w1 (.cells u.cells.toArray 63)))
  obtain ⟨W2, hW2⟩ : ∃ W2, W2 = w1.alloc (.cells u.cells.toArray 63) := ⟨_, rfl⟩
  have hG2 : GatC w W2 rb (.slice (some ⟨w1.heap.size, 0, none⟩) 1 1) [(ops, u)] := by rw [hW2]; exact hG
  have hR2 : RdE W2 rb r1 br := by rw [hW2]; exact hR
  have hE2 : Env W2 rb := by rw [hW2]; exact hE1
  simp only [show (w1.alloc (.cells #[.slice u.a u.os.length u.c] 63)) = W2 from hW2.symm]
  have HG2 := Lib.hid hG2; have HR2 := Lib.hid hR2; have HE2 := Lib.hid hE2
  clear hG hR hE1 hG2 hR2 hE2 hW2
  generalize w1.heap.size = bs at *
  go_loopg [3] (r1.ws.length + 1) (fun gk v wr => ∃ l r', CRel d w rb br full gk v wr l r')
  case atStart => exact ⟨[(ops, u)], r1, HG2.out, HR2.out, HE2.out, HF.out, by simp; omega, rfl, by omega⟩
  case round =>
    obtain ⟨l, r', hm⟩ := hrel
    obtain ⟨a, c, rfl⟩ := own_slice hm.gat.own
    have hfew := hm.few
    have hfu := hm.fuel
    have hwl := hm.len
    have CT := take_any wr rb r' br [124] hm.rd
    have HM := Lib.hid hm
    unfold takeR at CT
    clear hm
    cases hk : isS (r'.at_ 0) [124]
    · have hst := more_stop d r' hk
      rw [hk] at CT
      have HT := Lib.hid CT; have HS := Lib.hid hst
      clear CT hst hk
      go_wp2_with (go_at_call 55; (refine HT.out.mono ?_); rintro e w3 ⟨rfl, h3, o3⟩)
      go_ret
      rw [HM.out.rest, HS.out]
      exact ⟨a, l.map (·.2), c, by simp, h3, HM.out.gat.only.trans o3, by simpa using GatC.pipe (HM.out.gat.keep CmdY.keeps o3 hrb)⟩
    · have hst := more_step d r' hk
      have h1 := step_lt r' (isS_len r' _ hk)
      rw [hk, if_pos rfl] at CT
      have CM := fun w' (h' : RdE w' rb r'.step br) (hE' : Env w' rb) => command_any (brkR d) (brkR_len d) w' rb r'.step br h' hE' (by omega) HO.out
      have hcl2 := commandR_len (brkR d) (brkR_len d) r'.step
      have HT := Lib.hid CT; have HCM := Lib.hid CM; have HS := Lib.hid hst
      clear CT CM hst hk
      generalize commandR (brkR d) r'.step = y at *
      obtain ⟨ops2, r2⟩ := y
      simp only at hcl2
      go_wp2_with (first
        | (go_at_call 55; (refine HT.out.mono ?_); rintro e w3 ⟨rfl, h3, o3⟩; have H3 := Lib.hid h3; have O3 := Lib.hid o3; clear h3 o3)
        | (go_at_call 54; (refine (HCM.out w3 H3.out (HM.out.env.only O3.out)).mono ?_); rintro e w4 ⟨u2, rfl, h4, o4, hv⟩; have H4 := Lib.hid h4; have hs3 := O3.out.size; have O4 := Lib.hid (O3.out.trans o4); have HV4 := Lib.hid (hv.keep (Span.in hs3 (Nat.le_refl _)) (fun _ _ => rfl)); have hw4 := (O3.out.trans o4).size; have hws := HM.out.gat.only.size; unfold CU.val; clear h4 o4 hv)
        | (at_builtin; go_loud (refine wpList_append_fresh rfl _ _ 26 rfl w.heap.size 63 i0 (.agg #[.slice none 0 0]) 1 24 Tryz.underlying26 hi hz0' hz1' hz2' rfl (by decide) _ _ _ rfl ((HM.out.gat.keep CmdY.keeps O4.out hrb).own.alloc _) ⟨w4.heap.size, 0, none⟩ 1 1 u2.cells rfl rfl (cells_new _ _ _) (fun x hx => by cases List.mem_singleton.1 hx; rfl) (by unfold maxLen; omega) (by omega) (by simp; omega) ?_); intro v' w5 hown' hgrow hfr; have hlt5 := HM.out.gat.own.lt; have HR5 := Lib.hid ((H4.out.keep ((Below.refl w4.heap.size w4).alloc (Nat.le_refl _) (.cells u2.cells.toArray 63))).row hgrow (fun k e => by have := (hlt5 k e).1; omega)); have HM5 := Lib.hid (Gat.grow (w2 := w4.alloc _) (ys := [(ops2, u2)]) CmdY.keeps HM.out.gat O4.out hrb ((Below.refl w4.heap.size w4).alloc (Nat.le_refl _) _) (fun z hz => by cases List.mem_singleton.1 hz; exact HV4.out) hown' hgrow hfr); clear hown' hgrow hfr hlt5))
      go_roundg (r2.ws.length + 1)
      case rel =>
        refine ⟨l ++ [(ops2, u2)], r2, HM5.out, HR5.out, HE.out.only HM5.out.only, ?_, by simp; omega, rfl, by omega⟩
        rw [HM.out.rest, HS.out]
        simp
      case measure => omega
theorem Rd.brk {w : World} {rb : Nat} {r : R} {br : Nat} {a : Option Addr} {c : Nat} (h : Rd w rb r br a c) (n : Nat) : Rd (w.setCell ⟨rb, 3, none⟩ (.int .i64 n)) rb r n a c :=
  ⟨fset3 h.blk _, h.cap, h.max, h.sml, h.words.keep ((Only.refl rb w).setCell 3 _)⟩
theorem RdE.brk {w : World} {rb : Nat} {r : R} {br : Nat} (h : RdE w rb r br) (n : Nat) : RdE (w.setCell ⟨rb, 3, none⟩ (.int .i64 n)) rb r n := by
  obtain ⟨a, c, h⟩ := h; exact ⟨a, c, h.brk n⟩
set_option maxRecDepth 100000 in
set_option maxHeartbeats 4000000 in
/-- No more may be open. -/
theorem bracketed_full (w : World) (rb : Nat) (r : R) (h : RdE w rb r 12) :
    Calls Tryz.prog 132 #[.pointer (some ⟨rb, 0, none⟩)] w (PipP w rb 12 (brkR 0 r)) := by
  have CF := fail_any w rb r 12 h 13
  have hrb := h.lt
  obtain ⟨a, c, h'⟩ := h
  obtain ⟨⟨q0, q1, q2, q3⟩, -⟩ := four_blk h'.blk
  have HF := Lib.hid CF
  unfold brkR
  generalize r.fail 13 = r1 at *
  clear CF h' q0 q1 q2
  go_enter Tryz.func132, Tryz.ntmps132
  go_wp2_with (go_at_call 53; (refine HF.out.mono ?_); rintro e w3 ⟨rfl, h3, o3⟩)
  go_ret
  exact ⟨none, [], 0, rfl, h3, o3, rfl, .inl rfl, fun i h => absurd h (Nat.not_lt_zero _)⟩
set_option maxRecDepth 100000 in
set_option maxHeartbeats 8000000 in
theorem bracketed_in (d : Nat) (hd : d + 1 ≤ 12) (w : World) (rb : Nat) (r : R) (h : RdE w rb r (12 - (d + 1))) (hE : Env w rb) (h0 : 1 ≤ r.ws.length) (hlen : r.ws.length ≤ 1000) (hO : OpC rb (12 - d) (brkR d)) :
    Calls Tryz.prog 132 #[.pointer (some ⟨rb, 0, none⟩)] w (PipP w rb (12 - (d + 1)) (brkR (d + 1) r)) := by
  have hrb := h.lt
  have CS := step_any w rb r _ h0 h
  have hsl := step_len r
  have CP := fun w' (h' : RdE w' rb r.step (12 - d)) (hE' : Env w' rb) => pipe_any d w' rb r.step (12 - d) h' hE' (by omega) hO
  have hbk : brkR (d + 1) r = ((pipeOver (brkR d) r.step).1,
      if isS ((pipeOver (brkR d) r.step).2.at_ 0) [41] then (pipeOver (brkR d) r.step).2.step else (pipeOver (brkR d) r.step).2.fail 12) := rfl
  rw [hbk]
  obtain ⟨n, hn⟩ : ∃ n, 12 - (d + 1) = n := ⟨_, rfl⟩
  have hn2 : 12 - d = n + 1 := by omega
  have hn3 : n ≤ 11 := by omega
  rw [hn] at CS h ⊢
  rw [hn2] at CP
  obtain ⟨a, c, h'⟩ := h
  obtain ⟨⟨q0, q1, q2, q3⟩, -⟩ := four_blk h'.blk
  have tn : ((n : Int) == 12) = false := by simp; omega
  generalize r.step = r1 at *
  generalize pipeOver (brkR d) r1 = x at *
  obtain ⟨pp, r2⟩ := x
  simp only
  obtain ⟨fin, hfin⟩ : ∃ fin : R, fin = if isS (r2.at_ 0) [41] = true then r2.step else r2.fail 12 := ⟨_, rfl⟩
  rw [← hfin]
  have HFI := Lib.hid hfin; clear hfin
  have HS := Lib.hid CS; have HP := Lib.hid CP; have HE := Lib.hid hE
  clear CS CP hE h' hO hbk q0 q1 q2
  go_enter Tryz.func132, Tryz.ntmps132
  go_upto_region 5 with (go_at_call 89; (refine HS.out.mono ?_); rintro e w1 ⟨rfl, h1, o1⟩; have H1 := Lib.hid h1; have O1 := Lib.hid o1; clear h1 o1)
  have hh1 := H1.out
  obtain ⟨a1, c1, hh1⟩ := hh1
  obtain ⟨⟨y0, y1, y2, y3⟩, ⟨f0, f1, f2, f3⟩⟩ := four_blk hh1.blk
  have hl1 := hh1.lt
  clear hh1 y0 y1 y2 f0 f1 f2 q3
  go_upto_region 6 with fail
  obtain ⟨W2, hW2⟩ : ∃ W2, W2 = w1.setCell ⟨rb, 3, none⟩ (.int .i64 ((n : Int) + 1)) := ⟨_, rfl⟩
  have hR2 : RdE W2 rb r1 (n + 1) := by rw [hW2]; exact H1.out.brk (n + 1)
  have ho2 : Only rb w W2 := by rw [hW2]; exact O1.out.setCell _ _
  rw [← hW2]
  have HR2 := Lib.hid hR2; have HO2 := Lib.hid ho2
  clear hW2 hR2 ho2 y3 f3
  go_upto_region 7 with (go_at_call 31; (refine (HP.out W2 HR2.out (HE.out.only HO2.out)).mono ?_); rintro e w3 ⟨pa, us, pc, rfl, h3, o3, hv⟩; have H3 := Lib.hid h3; have O3 := Lib.hid o3; have HV3 := Lib.hid hv; clear h3 o3 hv)
  have hh3 := H3.out
  obtain ⟨a3, c3, hh3⟩ := hh3
  obtain ⟨⟨y0, y1, y2, y3⟩, ⟨f0, f1, f2, f3⟩⟩ := four_blk hh3.blk
  have hl3 := hh3.lt
  have y3 : w3.cell? ⟨rb, 3, none⟩ = some (.int .i64 ((n : Int) + 1)) := y3
  clear hh3 y0 y1 y2 f0 f1 f2
  go_upto_region 8 with fail
  obtain ⟨W4, hW4⟩ : ∃ W4, W4 = w3.setCell ⟨rb, 3, none⟩ (.int .i64 n) := ⟨_, rfl⟩
  have hR4 : RdE W4 rb r2 n := by rw [hW4]; exact H3.out.brk n
  have ho4' : Only rb w3 W4 := by rw [hW4]; exact (Only.refl rb w3).setCell _ _
  have ho4 : Only rb w W4 := (HO2.out.trans O3.out).trans ho4'
  have hws := HO2.out.size
  have hv4 : PipeV W4 (Span w.heap.size W4.heap.size) pp pa us := HV3.out.keep (Span.in hws ho4'.size) (fun g hg => ho4'.block g hg.2 (fun e => by have := hg.1; cases e; omega))
  rw [← hW4]
  have HR4 := Lib.hid hR4; have HO4 := Lib.hid ho4; have HV4 := Lib.hid hv4
  have CT := take_any W4 rb r2 n [41] hR4
  unfold takeR at CT
  clear hW4 hR4 ho4 hv4 ho4' y3 f3
  have grow : ∀ w5, Only rb W4 w5 → PipeV w5 (Span w.heap.size w5.heap.size) pp pa us := fun w5 o5 => HV4.out.keep (Span.in (Nat.le_refl _) o5.size) (fun g hg => o5.block g hg.2 (fun e => by have := hg.1; cases e; omega))
  have HGR := Lib.hid grow; clear grow
  cases hk : isS (r2.at_ 0) [41]
  · have hfi : fin = r2.fail 12 := by have := HFI.out; rw [hk] at this; exact this
    rw [hk] at CT
    have HFJ := Lib.hid hfi
    have HT := Lib.hid CT
    have HF := Lib.hid (fun w' (h' : RdE w' rb r2 n) => fail_any w' rb r2 n h' 12)
    clear CT hk hfi HFI
    go_wp2_with (first
      | (go_at_call 55; (refine HT.out.mono ?_); rintro e w5 ⟨rfl, h5, o5⟩; have H5 := Lib.hid h5; have O5 := Lib.hid o5; clear h5 o5)
      | (go_at_call 53; (refine (HF.out w5 H5.out).mono ?_); rintro e w6 ⟨rfl, h6, o6⟩))
    go_ret
    exact ⟨pa, us, pc, rfl, by show RdE w6 rb fin n; rw [HFJ.out]; exact h6, HO4.out.trans (O5.out.trans o6), HGR.out w6 (O5.out.trans o6)⟩
  · have hfi : fin = r2.step := by have := HFI.out; rw [hk] at this; exact this
    rw [hk] at CT
    have HFJ := Lib.hid hfi
    have HT := Lib.hid CT
    clear CT hk hfi HFI
    go_wp2_with (go_at_call 55; (refine HT.out.mono ?_); rintro e w5 ⟨rfl, h5, o5⟩)
    go_ret
    exact ⟨pa, us, pc, rfl, by show RdE w5 rb fin n; rw [HFJ.out]; exact h5, HO4.out.trans o5, HGR.out w5 o5⟩
/-- However many are open. -/
theorem bracketed_all : ∀ (d : Nat), d ≤ 12 → ∀ (rb : Nat) (w : World) (r : R), RdE w rb r (12 - d) → Env w rb → 1 ≤ r.ws.length → r.ws.length ≤ 1000 →
    Calls Tryz.prog 132 #[.pointer (some ⟨rb, 0, none⟩)] w (PipP w rb (12 - d) (brkR d r))
  | 0, _, rb, w, r, h, _, _, _ => bracketed_full w rb r h
  | d + 1, hd, rb, w, r, h, hE, h0, hl => bracketed_in d hd w rb r h hE h0 hl (fun w' r' h' hE' hl' => oper_any (brkR d) w' rb r' (12 - d) h' hE' hl'
      (fun h5 w'' hw => bracketed_all d (by omega) rb w'' r' (h'.keep hw) (hE'.below hw) (begins_pos r' (by omega)) hl'))
/-- A pipeline. -/
theorem reader_pipe (w : World) (rb : Nat) (r : R) (h : RdE w rb r 0) (hE : Env w rb) (hlen : r.ws.length ≤ 1000) :
    Calls Tryz.prog 31 #[.pointer (some ⟨rb, 0, none⟩)] w (PipP w rb 0 (pipeR r)) :=
  pipe_any 12 w rb r 0 h hE hlen (fun w' r' h' hE' hl' => oper_any (brkR 12) w' rb r' 0 h' hE' hl'
    (fun h5 w'' hw => bracketed_all 12 (Nat.le_refl _) rb w'' r' (h'.keep hw) (hE'.below hw) (begins_pos r' (by omega)) hl'))
end Tr
end Go.Proofs.YtlfbcaenlifmkaaGreatDoor
