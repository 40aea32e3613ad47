/- list at api.Named: things with commas between, read by a function; nothing else that was there turns. -/
import Derived.Test.YtnnnjonodnkccaaGreatDoorSNamesN
import Derived.Test.YtnnnjonodnkccaaGreatDoorSAppend
import Derived.Deep.LoopGhost
namespace Go.Proofs.YtnnnjonodnkccaaGreatDoor
open Go.RowKit
namespace Sh
open Sc


theorem infoN : (Tryz.prog.info? 59).map (fun i => (i.zero, i.size, i.bytes)) = some (some (.agg #[.string ⟨#[]⟩, .int .i64 0, .string ⟨#[]⟩, .slice none 0 0, .slice none 0 0]), 5, 88) := by kernel_rfl

/-- What the function that reads one thing leaves. -/
def ElN (w : World) (rb : Nat) (x : (List UInt8 × Ty) × R) (e : Ending) (w' : World) : Prop :=
  ∃ y : List UInt8 × (C4 × Ty), e = .returned (.agg (encN y).toArray) ∧ RdE w' rb x.2 ∧ Only rb w w' ∧ (y.1, y.2.2) = x.1 ∧ TyV w' (Span w.heap.size w'.heap.size) y.2.2 y.2.1

/-- The memory of a call that gathers such things. -/
structure LMemN (w0 w : World) (rb : Nat) (v : Value) (l : List (List UInt8 × (C4 × Ty))) : Prop where
  own : w.ownsRow w0.heap.size 59 5 v l.length (l.flatMap encN)
  only : Only rb w0 w
  far : ∃ S : Nat → Prop, (∀ g, S g → w0.heap.size ≤ g ∧ g < w.heap.size) ∧ (∀ g, v.ownBlock = some g → ¬ S g) ∧ ∀ y ∈ l, TyV w S y.2.2 y.2.1

theorem LMemN.start {w0 w : World} {rb : Nat} (h : Only rb w0 w) : LMemN w0 w rb (.slice none 0 0) [] :=
  ⟨World.ownsRow_nil _ _ _ _, h, fun _ => False, fun _ h => h.elim, fun _ _ h => h, fun _ h => by cases h⟩

theorem LMemN.keep {w0 w w' : World} {rb : Nat} {v : Value} {l : List (List UInt8 × (C4 × Ty))} (h : LMemN w0 w rb v l) (hw : Only rb w w') (hrb : rb < w0.heap.size) : LMemN w0 w' rb v l := by
  refine ⟨h.own.kept hw ?_, h.only.trans hw, ?_⟩
  · cases hv : v.ownBlock with
    | none => exact .inl rfl
    | some g => refine .inr fun e => ?_; cases e; have := (h.own.lt _ hv).1; omega
  · obtain ⟨S, h1, h2, h3⟩ := h.far
    refine ⟨S, fun g hg => ⟨(h1 g hg).1, Nat.lt_of_lt_of_le (h1 g hg).2 hw.size⟩, h2, fun y hy => (h3 y hy).keep (fun _ h => h) fun g hg => hw.block g (h1 g hg).2 (fun e => ?_)⟩
    cases e; have := (h1 _ hg).1; omega

theorem LMemN.grow {w0 w w1 w3 : World} {rb : Nat} {v v' : Value} {l : List (List UInt8 × (C4 × Ty))} {o : Obj} {y : List UInt8 × (C4 × Ty)} (h : LMemN w0 w rb v l) (hw : Only rb w w1) (hrb : rb < w0.heap.size)
    (hy : TyV w1 (Span w.heap.size w1.heap.size) y.2.2 y.2.1) (hown : w3.ownsRow w0.heap.size 59 5 v' (l.length + 1) (l.flatMap encN ++ encN y)) (hg : (w1.alloc o).grownBy w3 v.ownBlock)
    (hf : ∀ k, v'.ownBlock = some k → v.ownBlock = some k ∨ (w1.alloc o).heap.size ≤ k) : LMemN w0 w3 rb v' (l ++ [y]) := by
  have hk := h.keep hw hrb
  obtain ⟨S, h1, h2, h3⟩ := hk.far
  have hlt := h.own.lt
  have hws := hw.size
  have h0 := h.only.size
  have hgs := hg.size
  simp at hgs
  have same : ∀ g, (S g ∨ Span w.heap.size w1.heap.size g) → w3.heap[g]? = w1.heap[g]? := by
    intro g hh
    have hl : g < w1.heap.size := by rcases hh with hh | hh; exact (h1 g hh).2; exact hh.2
    rw [hg.block g (by simp; omega) (fun e => ?_), Below.heap_alloc _ _ _ hl]
    rcases hh with hh | hh
    · exact h2 g e.symm hh
    · have := (hlt g e.symm).2; have := hh.1; omega
  refine ⟨by simpa [List.flatMap_append] using hown, ?_, fun g => S g ∨ Span w.heap.size w1.heap.size g, ?_, ?_, ?_⟩
  · refine But.only (w := w1) (o := v.ownBlock) ⟨hg.os, hg.tape, hg.output, by omega, fun k hk hn ho => ?_⟩ hk.only (fun k e => (hlt k e).1)
    rw [hg.block k (by simp; omega) ho, Below.heap_alloc _ _ _ hk]
  · intro g hh
    rcases hh with hh | hh
    · exact ⟨(h1 g hh).1, by have := (h1 g hh).2; omega⟩
    · have := hh.1; have := hh.2; exact ⟨by omega, by omega⟩
  · intro g e hh
    rcases hf g e with e | e
    · rcases hh with hh | hh
      · exact h2 g e hh
      · have := (hlt g e).2; have := hh.1; omega
    · simp at e
      rcases hh with hh | hh
      · have := (h1 g hh).2; omega
      · have := hh.2; omega
  · intro z hz
    rcases List.mem_append.1 hz with hz | hz
    · exact (h3 z hz).keep (fun _ h => .inl h) (fun g hg => same g (.inl hg))
    · rw [List.mem_singleton] at hz
      subst hz
      exact hy.keep (fun _ h => .inr h) (fun g hg => same g (.inr hg))

/-- What list leaves. -/
def ListN (w : World) (rb : Nat) (x : List ((List UInt8 × Ty)) × R) (e : Ending) (w' : World) : Prop :=
  ∃ v, ∃ l : List (List UInt8 × (C4 × Ty)), e = .returned v ∧ l.map (fun y => (y.1, y.2.2)) = x.1 ∧ RdE w' rb x.2 ∧ LMemN w w' rb v l ∧ l.length ≤ 2000

/-- The rounds to come. -/
def LContN (read : R → (List UInt8 × Ty) × R) (full : List ((List UInt8 × Ty)) × R) (b : Bool) (acc : List ((List UInt8 × Ty))) (r : R) (gk : Nat) : Prop :=
  if b then (∃ f, r.words.length < f ∧ full = (acc ++ (listGo read f r).1, (listGo read f r).2)) ∧ gk = r.words.length + 1 else full = (acc, r)

def LRelN (read : R → (List UInt8 × Ty) × R) (full : List ((List UInt8 × Ty)) × R) (w : World) (rb : Nat) (gk : Nat) (v mv : Value) (wr : World) (b : Bool) (l : List (List UInt8 × (C4 × Ty))) (r : R) : Prop :=
  mv = .bool b ∧ LMemN w wr rb v l ∧ RdE wr rb r ∧ LContN read full b (l.map fun y => (y.1, y.2.2)) r gk ∧ (if b then l.length + r.words.length ≤ 1000 else l.length ≤ 1001)

theorem LContN.step {read : R → (List UInt8 × Ty) × R} {full : List ((List UInt8 × Ty)) × R} {acc : List ((List UInt8 × Ty))} {r : R} {gk : Nat} (h : LContN read full true acc r gk) (hle : ∀ r, (read r).2.words.length ≤ r.words.length) :
    ∃ gk', gk' < gk ∧ LContN read full ((read r).2.isAt 4 [44]) (acc ++ [(read r).1]) ((read r).2.take 4 [44]) gk' ∧ ((read r).2.isAt 4 [44] = true → ((read r).2.take 4 [44]).words.length + 1 ≤ r.words.length) := by
  obtain ⟨⟨f, hf, hq⟩, hgk⟩ := h
  obtain ⟨f, rfl⟩ : ∃ g, f = g + 1 := ⟨f - 1, by omega⟩
  have hl := hle r
  unfold listGo at hq
  cases hb : (read r).2.isAt 4 [44]
  · rw [hb] at hq
    rw [if_neg (by decide)] at hq
    refine ⟨0, by omega, ?_, fun e => by cases e⟩
    unfold LContN R.take
    rw [hb]
    exact hq
  · rw [hb, if_pos rfl] at hq
    have h1 := isAt_tail hb
    have ht : (read r).2.take 4 [44] = (read r).2.tail := by unfold R.take; rw [hb]; rfl
    rw [ht]
    refine ⟨(read r).2.tail.words.length + 1, by omega, ?_, fun _ => by omega⟩
    unfold LContN
    rw [if_pos rfl]
    exact ⟨⟨f, by omega, by rw [hq, List.append_assoc]; rfl⟩, rfl⟩

set_option maxRecDepth 100000 in
set_option maxHeartbeats 4000000 in
theorem listN_any (w : World) (rb : Nat) (r : R) (h : RdE w rb r) (hrw : r.words.length ≤ 1000) (op cl : List UInt8) (read : R → (List UInt8 × Ty) × R) (hle : ∀ r, (read r).2.words.length ≤ r.words.length) (br bd : Nat)
    (Inv : World → Prop) (hI : Inv w) (hInv : ∀ w w', Inv w → Only rb w w' → Inv w') (hread : ∀ w' r', Inv w' → RdE w' rb r' → r'.words.length ≤ 1000 → Calls Tryz.prog 68 #[.pointer (some ⟨br, 0, none⟩), .pointer (some ⟨bd, 0, none⟩)] w' (ElN w' rb (read r'))) :
    Calls Tryz.prog 67 #[.pointer (some ⟨rb, 0, none⟩), .string ⟨op.toArray⟩, .string ⟨cl.toArray⟩, .func (.func 68) #[] #[.pointer (some ⟨br, 0, none⟩), .pointer (some ⟨bd, 0, none⟩)]] w (ListN w rb (listR op cl read r)) := by
  have hrb := h.lt
  have hnl := need_le r 4 op
  have CN := need_any w rb r h 4 op
  have hfull : listR op cl read r = (if (r.need 4 op).isAt 4 cl then ([], (r.need 4 op).need 4 cl) else ((listGo read ((r.need 4 op).words.length + 1) (r.need 4 op)).1, (listGo read ((r.need 4 op).words.length + 1) (r.need 4 op)).2.need 4 cl)) := rfl
  have HF := Lib.hid hfull; have HR := Lib.hid hread; have HI := Lib.hid hInv; have HI0 := Lib.hid hI; have HL := Lib.hid hle; have HN := Lib.hid CN
  clear hfull hread hInv hI hle CN h
  generalize r.need 4 op = r1 at *
  obtain ⟨full, hfl⟩ : ∃ full : List ((List UInt8 × Ty)) × R, full = (if r1.isAt 4 cl then ([], r1) else listGo read (r1.words.length + 1) r1) := ⟨_, rfl⟩
  have hfull : listR op cl read r = (full.1, full.2.need 4 cl) := by
    rw [HF.out, hfl]; split <;> rfl
  have HF2 := Lib.hid hfull; have HFL := Lib.hid hfl
  clear hfull hfl HF
  cases hb : r1.isAt 4 cl
  all_goals
    have HB := Lib.hid hb; clear hb
    go_enter Tryz.func67, Tryz.ntmps67
    go_wp2_with (go_at_call 30; refine HN.out.mono ?_; rintro e w1 ⟨rfl, h1, o1⟩)
    obtain ⟨a1, c1, g1⟩ := h1
    have CA := at_any w1 rb r1 a1 c1 g1 4 cl
    rw [HB.out] at CA
    have HA := Lib.hid CA; have H1 := Lib.hid (⟨a1, c1, g1⟩ : RdE w1 rb r1); have O1 := Lib.hid o1
    clear CA g1 o1 HN
    go_wp2_with (go_at_call 44; refine HA.out.mono ?_; rintro e w1' ⟨rfl, rfl⟩)
    go_loopg [9, 10] (r1.words.length + 1) (fun gk v mv wr => ∃ b l r', LRelN read full w rb gk v mv wr b l r')
    case atStart =>
      first
        | exact ⟨true, [], r1, rfl, LMemN.start O1.out, H1.out, ⟨⟨r1.words.length + 1, by omega, by rw [HFL.out, HB.out]; rfl⟩, rfl⟩, by simp; omega⟩
        | exact ⟨false, [], r1, rfl, LMemN.start O1.out, H1.out, by show full = _; rw [HFL.out, HB.out]; rfl, by simp⟩
    case round =>
      obtain ⟨b, l, r', rfl, hm, hR, hc, hln⟩ := hrel
      obtain ⟨a, c, rfl⟩ := own_slice hm.own
      have HM := Lib.hid hm; have HRd := Lib.hid hR; have HC := Lib.hid hc
      clear hm hR hc
      cases b
      · have CN := need_any wr rb r' HRd.out 4 cl
        have HN := Lib.hid CN; clear CN
        have hln : l.length ≤ 1001 := hln
        go_wp2_with (go_at_call 30; refine HN.out.mono ?_; rintro e w2 ⟨rfl, h2, o2⟩)
        go_ret
        have hc : full = (l.map (fun y => (y.1, y.2.2)), r') := HC.out
        refine ⟨.slice a l.length c, l, rfl, ?_, ?_, HM.out.keep o2 hrb, by omega⟩
        · rw [HF2.out, hc]
        · rw [HF2.out, hc]; exact h2
      · have hln : l.length + r'.words.length ≤ 1000 := hln
        have CR := HR.out wr r' (HI.out _ _ HI0.out HM.out.only) HRd.out (by omega)
        obtain ⟨gk', hgk, hst, hsl⟩ := HC.out.step HL.out
        have hll := HL.out r'
        have HS := Lib.hid hst; have HCR := Lib.hid CR; have HG := Lib.hid hgk; have HSL := Lib.hid hsl
        clear hst CR hgk hsl HC
        generalize read r' = x at *
        obtain ⟨xp, x2⟩ := x
        obtain ⟨i0, hi, hz0', hz1', hz2'⟩ := info_parts infoN
        go_wp2_with (first
          | (go_at_call 68; (with_reducible refine HCR.out.mono ?_); rintro e w2 ⟨y, rfl, hR2, o2, hy, hv⟩; have HR2 := Lib.hid hR2; have O2 := Lib.hid o2; have HY := Lib.hid hy; have HV := Lib.hid hv; have hw2 := o2.size; have hws := HM.out.only.size; clear hR2 o2 hy hv; obtain ⟨n, ⟨kd, nm, an, ln, cn, ak, lk, ck⟩, tt⟩ := y; simp only [encN, C4.cells, str])
          | (at_builtin; (refine wpList_append_fresh rfl _ _ 33 rfl w.heap.size 59 i0 (.agg #[.string ⟨#[]⟩, .int .i64 0, .string ⟨#[]⟩, .slice none 0 0, .slice none 0 0]) 5 88 Tryz.underlying33 hi hz0' hz1' hz2' rfl (by decide) _ _ _ rfl ((HM.out.keep O2.out hrb).own.alloc _) ⟨w2.heap.size, 0, none⟩ 1 1 [.string ⟨n.toArray⟩, .int .i64 kd, .string nm, .slice an ln cn, .slice ak lk ck] rfl rfl (cells_new _ _ _) (fun x hx => by simp at hx; rcases hx with rfl | rfl | rfl | rfl | rfl <;> rfl) (by unfold maxLen; omega) (by omega) (by simp; omega) ?_); intro v' w3 hown' hgrow hfr; have HOW := Lib.hid hown'; have HGR := Lib.hid hgrow; have HFR := Lib.hid hfr; have hgs := hgrow.size; simp at hgs; have HT := Lib.hid (take_any w3 rb x2 ((HR2.out.keep ((Below.refl _ _).alloc (Nat.le_refl _) _)).row HGR.out (fun k e => by have := (HM.out.own.lt k e).1; omega)) 4 [44]); clear hown' hgrow hfr)
          | (go_at_call 31; (refine HT.out.mono ?_); rintro e w4 ⟨rfl, h4, o4⟩))
        have hM3 := HM.out.grow (y := (n, ⟨kd, nm, an, ln, cn, ak, lk, ck⟩, tt)) O2.out hrb HV.out HOW.out HGR.out HFR.out
        have hM4 := hM3.keep o4 hrb
        go_roundg gk'
        case rel =>
          refine ⟨_, _, _, rfl, hM4, h4, ?_, ?_⟩
          · have e : _ = xp := HY.out
            subst e
            rw [List.map_append]
            exact HS.out
          · have hll : x2.words.length ≤ r'.words.length := hll
            have hsl : x2.isAt 4 [44] = true → (x2.take 4 [44]).words.length + 1 ≤ r'.words.length := HSL.out
            cases hbb : x2.isAt 4 [44]
            · rw [if_neg (by decide)]; simp; omega
            · have := hsl hbb; rw [if_pos rfl]; simp; omega
        case measure => exact HG.out
end Sh
end Go.Proofs.YtnnnjonodnkccaaGreatDoor
