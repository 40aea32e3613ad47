/- Tokens at every source; the words of a row; the two tables. -/
import Derived.Test.YtlfbcaenlifmkaaGreatDoorB29
import Derived.KernelRfl
import Derived.Test.YtlfbcaenlifmkaaGreatDoorB17
import Derived.Test.YtlfbcaenlifmkaaGreatDoorB21
namespace Go.Proofs.YtlfbcaenlifmkaaGreatDoor
open Go.RowKit
namespace Sc
set_option maxHeartbeats 400000 in
theorem Tokens_long (s : ByteArray) (w : World) (hs : s.size ≤ maxLen) (h : 1500 < s.size) :
    Calls Tryz.prog 51 #[.string s] w (ToksPost w s.data.toList) := by
  have hT : toks s.data.toList = (4, []) := by unfold toks; rw [if_pos (by rw [bytes_len]; exact h)]
  have HT := Lib.hid hT; clear hT
  unfold maxLen at hs
  go_enter Tryz.func51, Tryz.ntmps51
  go_wp2
  go_ret2
  refine ⟨Below.refl _ _, .slice none 0 0, ?_, ?_⟩
  · rw [HT.out]; rfl
  · rw [HT.out]; exact World.ownsRow_nil _ _ _ _
theorem Tokens_any (s : ByteArray) (w : World) (hs : s.size ≤ maxLen) (hS : SignTab w) (hE : ErrTab w) :
    Calls Tryz.prog 51 #[.string s] w (ToksPost w s.data.toList) := by
  by_cases h : 1500 < s.size
  · exact Tokens_long s w hs h
  · exact Tokens_in s w (by omega) hS hE
/-- The two tables that scan leans on. -/
def Tabs (w : World) : Prop := SignTab w ∧ ErrTab w
theorem Tabs.below {w w' : World} (h : Tabs w) (hb : Below w.heap.size w w') : Tabs w' := ⟨h.1.below hb, h.2.below hb⟩
/-- A word of the row, in memory. -/
theorem row_at {w : World} {base g cap : Nat} {ts : List T} (h : w.ownsRow base 157 4 (.slice (some ⟨g, 0, none⟩) ts.length cap) ts.length (ts.flatMap tokCells)) (i : Nat) (hi : i < ts.length) :
    w.cell? ⟨g, i * 4, none⟩ = some (.int .i64 ts[i].kind) ∧ w.cell? ⟨g, i * 4 + 1, none⟩ = some (.string ⟨ts[i].text.toArray⟩) ∧ w.cell? ⟨g, i * 4 + 2, none⟩ = some (.int .i64 ts[i].n) ∧ w.cell? ⟨g, i * 4 + 3, none⟩ = some (.int .i64 ts[i].at_) := by
  have hx : ∀ (l : List T) (i : Nat) (hi : i < l.length) (j : Nat), j < 4 → (l.flatMap tokCells)[i * 4 + j]? = (tokCells l[i])[j]? := by
    intro l
    induction l with
    | nil => intro i hi; simp at hi
    | cons t r ih =>
      intro i hi j hj
      rw [List.flatMap_cons]
      cases i with
      | zero => rw [List.getElem?_append_left (by simp [tokCells]; omega)]; simp
      | succ i =>
        rw [List.getElem?_append_right (by simp [tokCells]; omega)]
        have := ih i (by simpa using hi) j hj
        simp only [List.getElem_cons_succ]
        rw [← this]
        congr 1
        simp [tokCells]; omega
  refine ⟨?_, ?_, ?_, ?_⟩
  · have := h.cellAt (i * 4) (by omega); rw [this]; exact hx ts i hi 0 (by omega)
  · have := h.cellAt (i * 4 + 1) (by omega); rw [this]; exact hx ts i hi 1 (by omega)
  · have := h.cellAt (i * 4 + 2) (by omega); rw [this]; exact hx ts i hi 2 (by omega)
  · have := h.cellAt (i * 4 + 3) (by omega); rw [this]; exact hx ts i hi 3 (by omega)
theorem row_some {w : World} {base : Nat} {v : Value} {ts : List T} (h : w.ownsRow base 157 4 v ts.length (ts.flatMap tokCells)) (h0 : 0 < ts.length) : ∃ g cap, v = .slice (some ⟨g, 0, none⟩) ts.length cap ∧ base ≤ g ∧ g < w.heap.size := by
  rcases h.2 with ⟨_, hn⟩ | ⟨g, cap, cur, rfl, hb, hg, _⟩
  · omega
  · exact ⟨g, cap, rfl, hb, (Array.getElem?_eq_some_iff.1 hg).1⟩
end Sc
end Go.Proofs.YtlfbcaenlifmkaaGreatDoor
namespace Go.Proofs.YtlfbcaenlifmkaaGreatDoor
open Go.RowKit
namespace Tr
open Sc Sh Sp
theorem Rd.start {w0 w : World} {a : Option Addr} {c : Nat} {l : List UInt8} (h : w.ownsRow w0.heap.size 157 4 (.slice a (toks l).2.length c) (toks l).2.length ((toks l).2.flatMap tokCells)) :
    Rd (w.alloc (.cells #[.slice a (toks l).2.length c, .int .i64 0, .int .i64 0, .int .i64 0] 122)) w.heap.size ⟨(toks l).2, 0, 0⟩ 0 a c := by
  have hs := toks_small l
  generalize (toks l).2 = ts at *
  refine ⟨heap_alloc_new w _, ?_, ?_, fun t ht => ⟨by have := (hs t ht).1; omega, by have := (hs t ht).2; omega⟩, ?_⟩
  · rcases h.2 with ⟨h1, h2⟩ | ⟨g, cap, cur, h1, hb, hg, hn, hc, _⟩
    · simp only [Value.slice.injEq] at h1; simp only; omega
    · simp only [Value.slice.injEq] at h1; simp only; omega
  · rcases h.2 with ⟨h1, h2⟩ | ⟨g, cap, cur, h1, hb, hg, hn, hc, _⟩
    · simp only [Value.slice.injEq] at h1; unfold maxLen; omega
    · simp only [Value.slice.injEq] at h1; rw [h1.2.2]; exact hc
  · by_cases h0 : ts.length = 0
    · exact .inl (List.eq_nil_of_length_eq_zero h0)
    · obtain ⟨g, cap, hv, hb, hg⟩ := row_some h (by omega)
      cases hv
      refine .inr ⟨g, 0, rfl, hg, by simp; omega, fun i hi => ?_⟩
      have hx := row_at h i hi
      have hk : ∀ j, (w.alloc (.cells #[.slice (some ⟨g, 0, none⟩) ts.length c, .int .i64 0, .int .i64 0, .int .i64 0] 122)).cell? ⟨g, j, none⟩ = w.cell? ⟨g, j, none⟩ := fun j => World.cell?_of_block (a := ⟨g, j, none⟩) (Below.heap_alloc w _ g hg)
      rw [Nat.zero_add, hk, hk, hk, hk]
      exact hx
/-- What a source's reading leans on. -/
structure Lean (w : World) : Prop where
  tabs : Tabs w
  verb : VerbTab w
theorem Lean.below {w w' : World} (h : Lean w) (hb : Below w.heap.size w w') : Lean w' := ⟨h.tabs.below hb, h.verb.below hb⟩
/-- What Pipe leaves. -/
def PipeP (w : World) (x : List (List Op) × Nat) (e : Ending) (w' : World) : Prop :=
  ∃ a us c, e = .returned (.tuple #[.slice a x.1.length c, .int .i64 x.2]) ∧ Below w.heap.size w w' ∧ PipeV w' (Span w.heap.size w'.heap.size) x.1 a us
set_option maxRecDepth 100000 in
set_option maxHeartbeats 4000000 in
theorem all_bad (s : ByteArray) (w : World) (hs : s.size ≤ maxLen) (hL : Lean w) (he : (toks s.data.toList).1 ≠ 0) :
    Calls Tryz.prog 30 #[.string s, .func (.func 31) #[] #[]] w (PipeP w (pipeL s.data.toList)) := by
  have hp : pipeL s.data.toList = ([], (toks s.data.toList).1) := by unfold pipeL allR; rw [if_neg he]
  have CT := Tokens_any s w hs hL.tabs.1 hL.tabs.2
  rw [hp]
  unfold ToksPost at CT
  generalize toks s.data.toList = x at *
  obtain ⟨te, ts⟩ := x
  simp only at he CT ⊢
  have tn : ((te : Int) != 0) = true := by simp; omega
  have HT := Lib.hid CT
  clear CT hp
  go_enter Tryz.func30, Tryz.ntmps30
  go_wp2_with (go_at_call 51; (refine HT.out.mono ?_); rintro e w1 ⟨b1, v, rfl, hv⟩)
  go_ret2
  exact ⟨none, [], 0, rfl, b1, rfl, .inl rfl, fun i h => absurd h (Nat.not_lt_zero _)⟩
theorem PipeV.nil {w : World} {S : Nat → Prop} : PipeV w S [] none [] := ⟨rfl, .inl rfl, fun _i h => absurd h (Nat.not_lt_zero _)⟩
set_option maxRecDepth 100000 in
set_option maxHeartbeats 8000000 in
theorem all_in (s : ByteArray) (w : World) (hs : s.size ≤ maxLen) (hL : Lean w) (he : (toks s.data.toList).1 = 0) :
    Calls Tryz.prog 30 #[.string s, .func (.func 31) #[] #[]] w (PipeP w (pipeL s.data.toList)) := by
  have hp : pipeL s.data.toList = (if overE (pipeR ⟨(toks s.data.toList).2, 0, 0⟩).2 = 0 then ((pipeR ⟨(toks s.data.toList).2, 0, 0⟩).1, 0) else ([], overE (pipeR ⟨(toks s.data.toList).2, 0, 0⟩).2)) := by unfold pipeL allR; rw [if_pos he]
  have CT := Tokens_any s w hs hL.tabs.1 hL.tabs.2
  have hsh := toks_short s.data.toList
  have hst := fun (w1 : World) a c => Rd.start (w0 := w) (w := w1) (a := a) (c := c) (l := s.data.toList)
  obtain ⟨full, hfull⟩ : ∃ full, full = pipeL s.data.toList := ⟨_, rfl⟩
  rw [← hfull] at hp ⊢
  unfold ToksPost at CT
  generalize toks s.data.toList = x at *
  obtain ⟨te, ts⟩ := x
  simp only at he CT hp hsh hst
  obtain rfl := he
  have HT := Lib.hid CT; have HP := Lib.hid hp; have HST := Lib.hid hst; have HL := Lib.hid hL
  clear CT hp hfull hst hL
  go_enter Tryz.func30, Tryz.ntmps30
  go_upto_region 6 with (go_at_call 51; (refine HT.out.mono ?_); rintro e w1 ⟨b1, v, rfl, hv⟩; obtain ⟨a, c, rfl⟩ := own_slice hv; have B1 := Lib.hid b1; have HV1 := Lib.hid hv; clear b1 hv)
  obtain ⟨W2, hW2⟩ : ∃ W2, W2 = w1.alloc (.cells #[.slice a ts.length c, .int .i64 0, .int .i64 0, .int .i64 0] 122) := ⟨_, rfl⟩
  have hR2 : RdE W2 w1.heap.size ⟨ts, 0, 0⟩ 0 := by rw [hW2]; exact ⟨a, c, HST.out w1 a c HV1.out⟩
  have hb2 : Below w.heap.size w W2 := by rw [hW2]; exact B1.out.alloc B1.out.size _
  have hsz := B1.out.size
  have hE2 : Env W2 w1.heap.size := ⟨HL.out.verb.below hb2, Nat.lt_of_lt_of_le HL.out.verb.lt hsz⟩
  rw [← hW2]
  clear hW2
  generalize w1.heap.size = rb at *
  have CP := reader_pipe W2 rb ⟨ts, 0, 0⟩ hR2 hE2 (by simp only; omega)
  generalize pipeR ⟨ts, 0, 0⟩ = y at *
  obtain ⟨pp, r2⟩ := y
  have HP' : Hid (full = if overE r2 = 0 then (pp, 0) else ([], overE r2)) := HP
  have HC := Lib.hid CP; have HB2 := Lib.hid hb2
  have hz2 := hb2.size
  clear CP HP hE2 hR2 hb2
  go_upto_region 7 with (go_at_call 31; (refine HC.out.mono ?_); rintro e w3 ⟨pa, us, pc, rfl, h3, o3, hv⟩; have H3 := Lib.hid h3; have O3 := Lib.hid o3; have HV3 := Lib.hid hv; clear h3 o3 hv)
  have hb3 := HB2.out.trans (O3.out.below hsz hz2)
  have HB3 := Lib.hid hb3; clear hb3
  have hrd := H3.out
  obtain ⟨a3, c3, hrd⟩ := hrd
  obtain ⟨⟨q0, q1, q2, q3⟩, -⟩ := four_blk hrd.blk
  have hl3 := hrd.lt
  have CE := ended_any w3 rb r2 0 H3.out
  clear hrd q0 q1 q3
  by_cases h0 : r2.ws.length = 0
  · rw [decide_eq_true h0] at CE
    have hov : overE r2 = r2.err := by unfold overE; rw [if_pos h0]
    have HE := Lib.hid CE
    clear CE
    by_cases hr : r2.err = 0
    · have tn : ((r2.err : Int) != 0) = false := by simp [hr]
      have hfl : full = (pp, 0) := by rw [HP'.out, hov, if_pos hr]
      have HFL := Lib.hid hfl
      clear hfl hov hr h0
      go_wp2_with (go_at_call 52; (refine HE.out.mono ?_); rintro e w4 ⟨rfl, rfl⟩)
      go_ret2
      rw [HFL.out]
      exact ⟨pa, us, pc, rfl, HB3.out, HV3.out.keep (Span.in hz2 (Nat.le_refl _)) (fun _ _ => rfl)⟩
    · have tn : ((r2.err : Int) != 0) = true := by simp; omega
      have hfl : full = ([], r2.err) := by rw [HP'.out, hov, if_neg hr]
      have HFL := Lib.hid hfl
      clear hfl hov hr h0
      go_wp2_with (go_at_call 52; (refine HE.out.mono ?_); rintro e w4 ⟨rfl, rfl⟩)
      go_region
      go_wp2
      go_ret2
      rw [HFL.out]
      exact ⟨none, [], 0, rfl, HB3.out.drew, PipeV.nil⟩
  · rw [decide_eq_false h0] at CE
    have hov : overE r2 = (r2.fail 12).err := by unfold overE R.fail; rw [if_neg h0]
    have hne : (r2.fail 12).err ≠ 0 := fail_err r2 12 (by decide)
    have hfl : full = ([], (r2.fail 12).err) := by rw [HP'.out, hov, if_neg hne]
    have CF := fun w' (h' : RdE w' rb r2 0) => fail_any w' rb r2 0 h' 12
    generalize r2.fail 12 = r3 at *
    have tn : ((r3.err : Int) != 0) = true := by simp; omega
    have HE := Lib.hid CE; have HF := Lib.hid CF; have HFL := Lib.hid hfl
    clear CE CF hfl hov hne h0 q2
    go_wp2_with (first
      | (go_at_call 52; (refine HE.out.mono ?_); rintro e w4 ⟨rfl, rfl⟩)
      | (go_at_call 53; (refine (HF.out w3 H3.out).mono ?_); rintro e w5 ⟨rfl, h5, o5⟩; obtain ⟨a5, c5, hrd5⟩ := h5; obtain ⟨⟨q0, q1, q2, q3⟩, -⟩ := four_blk hrd5.blk; have hl5 := hrd5.lt; have hz3 := HB3.out.size; have HB5 := Lib.hid (HB3.out.trans (o5.below hsz hz3)); clear q0 q1 q3 hrd5))
    go_region
    go_wp2
    go_ret2
    rw [HFL.out]
    exact ⟨none, [], 0, rfl, HB5.out.drew, PipeV.nil⟩
/-- Pipe. -/
theorem Pipe_any (s : ByteArray) (w : World) (hs : s.size ≤ maxLen) (hL : Lean w) : Calls Tryz.prog 17 #[.string s] w (PipeP w (pipeL s.data.toList)) := by
  have C : Calls Tryz.prog 30 #[.string s, .func (.func 31) #[] #[]] w (PipeP w (pipeL s.data.toList)) := by
    by_cases he : (toks s.data.toList).1 = 0
    · exact all_in s w hs hL he
    · exact all_bad s w hs hL he
  generalize pipeL s.data.toList = x at *
  obtain ⟨pp, er⟩ := x
  have HC := Lib.hid C; clear C hL
  go_enter Tryz.func17, Tryz.ntmps17
  go_wp2_with (go_at_call 30; (refine HC.out.mono ?_); rintro e w1 ⟨a, us, c, rfl, b1, hv⟩; have B1 := Lib.hid b1; have HV := Lib.hid hv; clear b1 hv)
  go_ret2
  exact ⟨a, us, c, rfl, B1.out, HV.out⟩
end Tr
end Go.Proofs.YtlfbcaenlifmkaaGreatDoor
