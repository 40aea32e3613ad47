/- SchOrder: the walk. Written by gen_sorder.py. -/
import Derived.Test.YtnnnjonodnkccaaGreatDoorSOrd
import Derived.Test.YtnnnjonodnkccaaGreatDoorSRow
import Derived.Deep.RegionHeld3
import Derived.BigQuiet
namespace Go.Proofs.YtnnnjonodnkccaaGreatDoor
open Go.RowKit
namespace Sh
open Sc

def nmV (c : Nat) : Value := .string ⟨(nameL c).toArray⟩
theorem info_strO : (Tryz.prog.info? 9).map (fun i => (i.zero, i.size, i.bytes)) = some (some (.string ByteArray.empty), 1, 16) := by kernel_rfl

/-- A slice of integers that came in, as a walk asks of it. -/
def IntsO (w : World) (a : Option Addr) (len : Nat) (f : Nat → Int) : Prop :=
  len ≤ maxLen ∧ (0 < len → ∃ b off, a = some ⟨b, off, none⟩ ∧ b < w.heap.size ∧ ∀ i, i < len → w.cell? ⟨b, off + i, none⟩ = some (.int .i64 (f i)) ∧ (Lit.int .i64 (f i)).wf = true)
theorem intsO_of_row {w : World} {a : Option Addr} {len cap : Nat} {zs : List Int} (h : Sc.IsRow .i64 w a len cap zs) : IntsO w a len (fun i => zs.getD i 0) := by
  rcases h with ⟨rfl, rfl, _⟩ | ⟨x, rfl, hl, hm, hz, hc, hw⟩
  · exact ⟨by simp, fun h => absurd h (Nat.lt_irrefl _)⟩
  · refine ⟨Nat.le_trans hl hm, fun h0 => ?_⟩
    obtain ⟨b, off, rfl, hcell⟩ := ints_at hc (by omega)
    refine ⟨b, off, rfl, World.block_lt_of_cell? _ _ (hcell 0 (by omega)), fun i hi => ⟨hcell i (by omega), ?_⟩⟩
    have : i < zs.length := by omega
    have e : zs.getD i 0 = zs[i] := by simp [List.getD, List.getElem?_eq_getElem this]
    show (Lit.int .i64 (zs.getD i 0)).wf = true
    rw [e]; exact hw _ (List.getElem_mem this)

/-- The names gathered, in a row of the call's own. -/
structure NMem (w : World) (B : Nat) (wr : World) (v : Value) (cs : List Nat) : Prop where
  bel : Below w.heap.size w wr
  lo : w.heap.size ≤ B
  hi : B ≤ wr.heap.size
  own : wr.ownsRow B 9 1 v cs.length (cs.map nmV)
theorem NMem.later {w wr w' : World} {B : Nat} {v : Value} {cs : List Nat} (h : NMem w B wr v cs) (hb : Below wr.heap.size wr w') : NMem w B w' v cs :=
  ⟨h.bel.trans (hb.mono h.bel.size), h.lo, Nat.le_trans h.hi hb.size, own_below h.own hb⟩
theorem NMem.grow {w wr w' : World} {B : Nat} {v v' : Value} {cs : List Nat} (h : NMem w B wr v cs) (o : Obj) (c : Nat)
    (hown : w'.ownsRow B 9 1 v' (cs.length + 1) (cs.map nmV ++ [nmV c])) (hg : (wr.alloc o).grownBy w' v.ownBlock) : NMem w B w' v' (cs ++ [c]) where
  bel := by
    refine (h.bel.alloc h.bel.size o).grown hg (by simp; have := h.bel.size; omega) ?_
    intro k hk
    rcases h.own.2 with ⟨rfl, _⟩ | ⟨g', cap, _, rfl, hg', _⟩
    · simp [Value.ownBlock] at hk
    · simp only [Value.ownBlock] at hk; cases hk; have := h.lo; omega
  lo := h.lo
  hi := by have h1 := hg.size; have h2 := h.hi; simp at h1; omega
  own := by simpa [List.map_append] using hown
theorem NMem.at {w wr : World} {B n c : Nat} {a : Option Addr} {cs : List Nat} (h : NMem w B wr (.slice a n c) cs) (p : Nat) (hp : p < cs.length) :
    ∃ g, a = some ⟨g, 0, none⟩ ∧ g < wr.heap.size ∧ ∀ W, Below wr.heap.size wr W → W.cell? ⟨g, p, none⟩ = some (.string ⟨(nameL cs[p]).toArray⟩) := by
  have ho := h.own
  rcases h.own.2 with ⟨_, hn⟩ | ⟨g, cap, cur, e, hb, hg, _⟩
  · omega
  · cases e
    have hl := (Array.getElem?_eq_some_iff.1 hg).1
    refine ⟨g, rfl, hl, fun W hW => ?_⟩
    rw [hW.cell (p := ⟨g, p, none⟩) hl, ho.cellAt p (by omega)]
    simp [nmV, hp]
theorem str_eqO (a b : List UInt8) : ((⟨a.toArray⟩ : ByteArray).toList == (⟨b.toArray⟩ : ByteArray).toList) = decide (a = b) := by
  rw [ByteArray.toList_eq, ByteArray.toList_eq]
  show (a == b) = _
  by_cases h : a = b
  · subst h; simp
  · simp [h]
theorem bcatO (l m : List UInt8) : (⟨l.toArray⟩ : ByteArray) ++ ⟨m.toArray⟩ = ⟨(l ++ m).toArray⟩ := by apply ByteArray.ext; simp [ByteArray.data_append]
theorem bsz_mk (l : List UInt8) : (⟨l.toArray⟩ : ByteArray).size = l.length := rfl
theorem mem_snoc (cs : List Nat) (k c : Nat) (hk : k < cs.length) : decide (c ∈ cs.take (k + 1)) = (decide (c ∈ cs.take k) || decide (cs[k] = c)) := by
  rw [take_own cs k hk]
  simp only [List.mem_append, List.mem_singleton]
  by_cases h2 : cs[k] = c
  · simp [h2]
  · have h3 : ¬ c = cs[k] := fun e => h2 e.symm
    by_cases h1 : c ∈ cs.take k <;> simp [h1, h2, h3]

def TP (W : World) (t : Ty) (er : Int) (e : Ending) (w' : World) : Prop :=
  ∃ (x1 : Int) (x2 : ByteArray) (x3 : Option Addr) (x4 x5 : Nat) (x6 : Option Addr) (x7 x8 : Nat), e = .returned (.tuple #[.agg #[.int .i64 x1, .string x2, .slice x3 x4 x5, .slice x6 x7 x8], .int .i64 er]) ∧ Below W.heap.size W w' ∧ TyV w' (Span W.heap.size w'.heap.size) t ⟨x1, x2, x3, x4, x5, x6, x7, x8⟩
theorem TP_any (s : ByteArray) (W : World) (hs : s.size ≤ maxLen) (hT : Tab3 W) (t : Ty) (er : Nat) (h : typeL s.data.toList = (t, er)) : Calls Tryz.prog 9 #[.string s] W (TP W t er) := by
  have h1 := Type_any s W hs hT.two hT.look
  rw [h] at h1
  exact h1.mono fun e w' ⟨⟨x1, x2, x3, x4, x5, x6, x7, x8⟩, h1, h2, h3⟩ => ⟨x1, x2, x3, x4, x5, x6, x7, x8, h1, h2, h3⟩
def PP (W : World) (s : Sch) (er : Int) (e : Ending) (w' : World) : Prop :=
  ∃ (x1 : Int) (x2 : ByteArray) (x3 : Option Addr) (x4 x5 : Nat) (x6 : Option Addr) (x7 x8 : Nat) (a1 : Option Addr) (c1 : Nat) (a2 : Option Addr) (c2 : Nat), e = .returned (.tuple #[.agg #[.int .i64 x1, .string x2, .slice x3 x4 x5, .slice x6 x7 x8, .slice a1 s.types.length c1, .slice a2 s.sigs.length c2], .int .i64 er]) ∧ Below W.heap.size W w' ∧
    SchV w' (Span W.heap.size w'.heap.size) s ⟨x1, x2, x3, x4, x5, x6, x7, x8⟩ a1 s.types.length a2 s.sigs.length
theorem PP_any (s : ByteArray) (W : World) (hs : s.size ≤ maxLen) (hT : Tab3 W) (t : Sch) (er : Nat) (h : parseL s.data.toList = (t, er)) : Calls Tryz.prog 10 #[.string s] W (PP W t er) := by
  have h1 := ParseV_any s W hs hT.two hT.look
  rw [h] at h1
  refine h1.mono fun e w' ⟨⟨x1, x2, x3, x4, x5, x6, x7, x8⟩, a1, n1, c1, a2, n2, c2, h1, h2, h3⟩ => ?_
  obtain rfl := h3.2.1
  obtain rfl := h3.2.2.2.1
  exact ⟨x1, x2, x3, x4, x5, x6, x7, x8, a1, c1, a2, c2, h1, h2, h3⟩
theorem blk_alloc {w : World} {b : Nat} {o : Obj} (h : w.heap[b]? = some o) (x : Obj) : (w.alloc x).heap[b]? = some o :=
  (((Below.refl w.heap.size w).alloc (Nat.le_refl _) x).block b (Array.getElem?_eq_some_iff.1 h).1).trans h
theorem Below.keep_blk {w w' : World} {b : Nat} {o : Obj} (hb : Below w.heap.size w w') (h : w.heap[b]? = some o) : w'.heap[b]? = some o := (hb.block b (Array.getElem?_eq_some_iff.1 h).1).trans h

set_option maxRecDepth 100000 in
set_option maxHeartbeats 16000000 in
theorem SchOrder_any (ad : Option Addr) (len cap : Nat) (zs : List Int) (t : Int) (tw : Bool) (w : World) (hT : Tab3 w) (hR : Sc.IsRow .i64 w ad len cap zs) (ht1 : -9223372036854775808 ≤ t) (ht2 : t ≤ 9223372036854775807) :
    Calls Tryz.prog 3 #[.slice ad len cap, .int .i64 t, .bool tw] w fun e w' => e = .returned (.bool true) ∧ Below w.heap.size w w' := by
  have hI := intsO_of_row hR
  generalize (fun i => zs.getD i 0) = f at hI
  have hlen := hI.1
  unfold maxLen at hlen
  have cK := known_any w hT
  have HI := Lib.hid hI; have HT := Lib.hid hT; have HK := Lib.hid cK; have HT1 := Lib.hid ht1; have HT2 := Lib.hid ht2
  clear hI hT cK hR ht1 ht2
  go_enter Tryz.func3, Tryz.ntmps3
  go_wp2_with (go_at_call 6; (with_reducible refine HK.out.mono ?_); rintro e w1 ⟨rfl, hb⟩)
  have HB1 := Lib.hid hb; have hw1 := hb.size; clear hb HK
  go_loopw [7, 8] (fun v iv wr => ∃ (j : Nat) (cs : List Nat), j ≤ len ∧ j ≤ 8 ∧ cs.length ≤ j ∧ iv = .int .i64 j ∧ Hid (cs.Nodup) ∧ Hid (∀ c ∈ cs, c < 7) ∧ Hid (NMem w w1.heap.size wr v cs)) (fun _ iv _ => len - (intOf iv).toNat)
  case atStart => exact ⟨0, [], Nat.zero_le _, by omega, by simp, rfl, List.nodup_nil, (fun _ h => by cases h), ⟨HB1.out, hw1, Nat.le_refl _, World.ownsRow_nil _ _ _ _⟩⟩
  case round =>
    obtain ⟨j, cs, hj, hj8, hcl, rfl, hnd, h7, HM⟩ := hrel
    have hbw := HM.out.bel.size
    obtain ⟨sa, sc, rfl⟩ := own_slice HM.out.own
    by_cases hlt : j < len ∧ j < 8
    · obtain ⟨hlt, h8⟩ := hlt
      obtain ⟨bb, off, rfl, hbl, hcc⟩ := HI.out.2 (by omega)
      have hwf := bounds_i64 (hcc j hlt).2
      have hbl2 : bb < wr.heap.size := by omega
      have hcj : ∀ W, Below wr.heap.size wr W → W.cell? ⟨bb, off + j, none⟩ = some (.int .i64 (f j)) := fun W hW => (hW.cell (p := ⟨bb, off + j, none⟩) hbl2).trans ((HM.out.bel.cell (p := ⟨bb, off + j, none⟩) hbl).trans (hcc j hlt).1)
      have CN := fun W => Name_any (f j) W hwf.1 hwf.2
      have hc7 : (f j % 7).toNat < 7 := by omega
      have hjz : (j : Int) < (len : Int) := by omega
      have hj8z : (j : Int) < 8 := by omega
      have HCJ := Lib.hid hcj; have HCN := Lib.hid CN; have HC7 := Lib.hid hc7
      clear hcc hwf hcj CN hc7 hlt h8
      generalize (f j % 7).toNat = c at *
      generalize f j = fj at *
      go_wp2
      obtain ⟨wo, hwo⟩ : ∃ wo, wo = wr := ⟨wr, rfl⟩
      subst hwo
      go_loopw [9, 10] (fun bv kv wi => ∃ k, k ≤ cs.length ∧ bv = .bool (decide (c ∈ cs.take k)) ∧ kv = .int .i64 k ∧ Hid (Below wo.heap.size wo wi)) (fun _ kv _ => cs.length - (intOf kv).toNat)
      case atStart => exact ⟨0, Nat.zero_le _, rfl, rfl, Below.refl _ _⟩
      case round =>
        obtain ⟨k, hk, rfl, rfl, hB⟩ := hrel
        have hwi := hB.out.size
        by_cases hlt : k < cs.length
        · have hkz : (k : Int) < (cs.length : Int) := by omega
          obtain ⟨g, rfl, hg, hgc⟩ := HM.out.at k hlt
          have hms := mem_snoc cs k c hlt
          have hd7 := h7.out cs[k] (List.getElem_mem hlt)
          have cg := hgc wr hB.out
          have cf := HCJ.out wr hB.out
          have hse : (nameL cs[k] == nameL c) = decide (cs[k] = c) := by
            by_cases h : cs[k] = c
            · simp [h]
            · have h2 : ¬ nameL cs[k] = nameL c := fun e => h (nameL_inj hd7 HC7.out e)
              simp [h, h2]
          have hgi : g < wr.heap.size := by omega
          have hbi : bb < wr.heap.size := by omega
          have HMS := Lib.hid hms
          clear hgc hms hd7
          generalize decide (c ∈ cs.take k) = b1 at *
          generalize decide (cs[k] = c) = bq at *
          generalize nameL cs[k] = nd at *
          generalize hnc : nameL c = nc at hse HCN ⊢
          cases b1
          · have cgd : wr.drew.cell? ⟨g, k, none⟩ = some (.string ⟨nd.toArray⟩) := cg
            have cfd : wr.drew.cell? ⟨bb, off + j, none⟩ = some (.int .i64 fj) := cf
            have hgd : g < wr.drew.heap.size := hgi
            have hbd : bb < wr.drew.heap.size := hbi
            go_wp2_with fail
            go_region_held3 (fun w' => w'.cell? ⟨g, k, none⟩ = some (.string ⟨nd.toArray⟩) ∧ w'.cell? ⟨bb, off + j, none⟩ = some (.int .i64 fj)) (go_keep) (first
              | (go_at_call 7; (with_reducible refine (HCN.out _).mono ?_); rintro e w5 ⟨rfl, b5⟩; have n1 := (b5.cell (p := ⟨g, k, none⟩) hgd).trans cgd; have n2 := (b5.cell (p := ⟨bb, off + j, none⟩) hbd).trans cfd))
            all_goals
              have HB5 := Lib.hid (show Below wr.heap.size wr w5 from ⟨b5.os, b5.tape, b5.output, b5.size, b5.block⟩)
              clear n1 n2 b5 cgd cfd hgd hbd cg cf
              cases bq
              all_goals
                go_wp2
                go_roundw
                case rel => exact ⟨k + 1, by omega, by rw [HMS.out]; first | rfl | rw [hse]; rfl, by go_num, hB.out.trans (HB5.out.mono hwi)⟩
                case measure => simp [intOf]; omega
          · clear cg cf
            go_wp2_with fail
            go_quiet (fail)
            go_wp2
            go_roundw
            case rel => exact ⟨k + 1, by omega, by rw [HMS.out]; first | rfl | rw [hse]; rfl, by go_num, (show Below wo.heap.size wo (wr.drewN nq) from ⟨hB.out.os, hB.out.tape, hB.out.output, hB.out.size, hB.out.block⟩)⟩
            case measure => simp [intOf]; omega
        · have hkn : k = cs.length := by omega
          subst hkn
          rw [List.take_length]
          by_cases hin : c ∈ cs
          · rw [decide_eq_true hin]
            clear hin
            go_wp2
            go_roundw
            case rel => exact ⟨j + 1, cs, by omega, by omega, by omega, by go_num, hnd, h7, Lib.hid (HM.out.later hB.out)⟩
            case measure => simp [intOf]; omega
          · rw [decide_eq_false hin]
            have hnd2 : (cs ++ [c]).Nodup := by
              rw [List.nodup_append]
              exact ⟨hnd.out, by simp, fun a ha b hb e => hin (by rw [List.mem_singleton.1 hb] at e; rw [← e]; exact ha)⟩
            have h72 : ∀ x ∈ cs ++ [c], x < 7 := fun x hx => by
              rcases List.mem_append.1 hx with h | h
              · exact h7.out x h
              · rw [List.mem_singleton.1 h]; exact HC7.out
            have HND2 := Lib.hid hnd2; have H72 := Lib.hid h72
            have cf := HCJ.out wr hB.out
            have HMI := Lib.hid (HM.out.later hB.out)
            obtain ⟨i0, hi, hz0, hz1, hz2⟩ := info_parts info_strO
            clear hin hnd2 h72
            go_wp2_with (first
              | (go_at_call 7; (with_reducible refine (HCN.out _).mono ?_); rintro e w5 ⟨rfl, b5⟩; have HM5 := Lib.hid (HMI.out.later b5); have hs5 := HM5.out.hi; clear b5)
              | (at_builtin; refine wpList_append_own _ rfl _ _ 24 rfl w1.heap.size 9 i0 (.string ByteArray.empty) 1 16 Tryz.underlying24 hi hz0 hz1 hz2 rfl (by decide) _ _ _ rfl (HM5.out.own.alloc _) ⟨w5.heap.size, 0, none⟩ 1 1 [nmV c] rfl rfl (cell_one_new _ _ _) (fun x hx => by simp at hx; subst hx; rfl) (by unfold maxLen; omega) (by omega) (by simp; omega) ?_; intro v' w3 hown' hgrow _; have HOW := Lib.hid hown'; have HGR := Lib.hid hgrow; clear hown' hgrow))
            go_roundw
            case rel => exact ⟨j + 1, cs ++ [c], by omega, by omega, by rw [List.length_append, List.length_singleton]; omega, by go_num, HND2, H72, Lib.hid (HM5.out.grow _ _ HOW.out HGR.out)⟩
            case measure => simp [intOf]; omega
    · have hcase : ((j : Int) < (len : Int) ∧ ¬ (j : Int) < 8) ∨ ¬ (j : Int) < (len : Int) := by omega
      have HL := Lib.hid hlt
      clear hlt
      rcases List.eq_nil_or_concat cs with rfl | ⟨ci, cl, hci⟩
      · rcases hcase with ⟨k1, k2⟩ | k1
        all_goals
          go_wp2
          go_ret
          exact ⟨rfl, HM.out.bel⟩
      · have h0 : cs ≠ [] := by rw [hci]; simp
        have hpos : 0 < cs.length := List.length_pos_iff.2 h0
        clear hci
        have hl8 : cs.length ≤ 8 := by omega
        have tn : ((cs.length : Int) == 0) = false := by simp; omega
        have hnz : (cs.length : Int) ≠ 0 := by omega
        obtain ⟨k, hk⟩ : ∃ k : Nat, t % (cs.length : Int) = k := ⟨(t % (cs.length : Int)).toNat, by have := Int.emod_nonneg t hnz; omega⟩
        have hkl : k < cs.length := by have := Int.emod_lt_of_pos t (show 0 < (cs.length : Int) by omega); omega
        have CW := fun W => within_any t cs.length W (by omega) (by omega) HT1.out HT2.out
        simp only [hk] at CW
        have HCW := Lib.hid CW
        have H0 := Lib.hid h0
        clear CW hk h0
        rcases hcase with ⟨k1, k2⟩ | k1
        all_goals
          go_wp2_with (go_at_call 8; (with_reducible refine (HCW.out _).mono ?_); rintro e w2 ⟨rfl, rfl⟩)
          obtain ⟨wo, hwo⟩ : ∃ wo, wo = wr := ⟨wr, rfl⟩
          subst hwo
          go_loopw [11, 12, 13, 14, 16] (fun av bv cv dv iv wr => ∃ i, i ≤ cs.length ∧ av = .string ⟨(fldS true (fls (cs.take i))).toArray⟩ ∧ bv = .string ⟨(fldS true (fls ((rotL cs k).take i))).toArray⟩ ∧ cv = .string ⟨(decX (prs (cs.take i))).toArray⟩ ∧ dv = .string ⟨(decX (prs ((rotL cs k).take i))).toArray⟩ ∧ iv = .int .i64 i ∧ Hid (Below wo.heap.size wo wr)) (fun _ _ _ _ iv _ => cs.length - (intOf iv).toNat)
          case atStart => exact ⟨0, Nat.zero_le _, rfl, rfl, rfl, rfl, rfl, Below.refl _ _⟩
          case round =>
            obtain ⟨i, hi, rfl, rfl, rfl, rfl, rfl, hB⟩ := hrel
            by_cases hlt : i < cs.length
            · obtain ⟨q, hq⟩ : ∃ q, q = (i + k) % cs.length := ⟨_, rfl⟩
              have hql : q < cs.length := by rw [hq]; exact Nat.mod_lt _ hpos
              have hmod : ((i : Int) + (k : Int)).tmod (cs.length : Int) = (q : Int) := by
                rw [hq, show (i : Int) + (k : Int) = ((i + k : Nat) : Int) by omega]; rfl
              obtain ⟨g, rfl, hg, hgc⟩ := HM.out.at i hlt
              obtain ⟨g', hg', _, hgc'⟩ := HM.out.at q hql
              obtain rfl : g' = g := by cases hg'; rfl
              have cn := hgc wr hB.out
              have cm := hgc' wr hB.out
              have e1 := fld_next (cs.take i) cs[i]
              have e2 := fld_next ((rotL cs k).take i) cs[q]
              have e3 := dec_next (cs.take i) cs[i]
              have e4 := dec_next ((rotL cs k).take i) cs[q]
              have tr := take_rot cs k i hkl hlt
              simp only [← hq] at tr
              rw [← take_own cs i hlt] at e1 e3
              rw [← tr] at e2 e4
              rw [List.length_take, Nat.min_eq_left (by omega)] at e1
              rw [List.length_take, rot_len, Nat.min_eq_left (by omega)] at e2
              have l1 := (fldS_len true (fls (cs.take i)) (fls_mem _ (fun c hc => h7.out c (List.mem_of_mem_take hc)))).1
              have l2 := (fldS_len true (fls ((rotL cs k).take i)) (fls_mem _ (fun c hc => rot_7 cs k h7.out c (List.mem_of_mem_take hc)))).1
              have l3 := decX_len (prs (cs.take i)) (prs_mem _ (fun c hc => h7.out c (List.mem_of_mem_take hc)))
              have l4 := decX_len (prs ((rotL cs k).take i)) (prs_mem _ (fun c hc => rot_7 cs k h7.out c (List.mem_of_mem_take hc)))
              unfold fls at l1 l2
              rw [List.length_map, List.length_take] at l1 l2
              rw [prs_len, List.length_take] at l3 l4
              rw [show List.map (fun c => (c, false)) (cs.take i) = fls (cs.take i) from rfl] at l1
              rw [show List.map (fun c => (c, false)) ((rotL cs k).take i) = fls ((rotL cs k).take i) from rfl] at l2
              have l5 := nameL_len cs[i] (h7.out _ (List.getElem_mem hlt))
              have l6 := nameL_len cs[q] (h7.out _ (List.getElem_mem hql))
              have E1 := Lib.hid e1; have E2 := Lib.hid e2; have E3 := Lib.hid e3; have E4 := Lib.hid e4
              have hiz : (i : Int) < (cs.length : Int) := by omega
              have hqz : (q : Int) < (cs.length : Int) := by omega
              clear e1 e2 e3 e4 hgc hgc' hg' tr hq
              generalize fldS true (fls (cs.take i)) = la at *
              generalize fldS true (fls ((rotL cs k).take i)) = lb at *
              generalize decX (prs (cs.take i)) = lc at *
              generalize decX (prs ((rotL cs k).take i)) = ld at *
              generalize nameL cs[i] = nn at *
              generalize nameL cs[q] = mm at *
              have hw0 : IntKind.i64.wrap ((i : Int) + (k : Int)) = (i : Int) + (k : Int) := by rw [IntKind.wrap_i64]; omega
              have sc0 := fun W : World => run_string_add_sum (P := Tryz.prog) W ((⟨lc.toArray⟩ : ByteArray)) (⟨#[116, 121, 112, 101, 32]⟩ : ByteArray) (by simp only [ByteArray.size_append, bsz_mk, List.length_cons, List.length_nil]; omega)
              have sc1 := fun W : World => run_string_add_sum (P := Tryz.prog) W ((⟨lc.toArray⟩ : ByteArray) ++ (⟨#[116, 121, 112, 101, 32]⟩ : ByteArray)) (⟨nn.toArray⟩ : ByteArray) (by simp only [ByteArray.size_append, bsz_mk, List.length_cons, List.length_nil]; omega)
              have sc2 := fun W : World => run_string_add_sum (P := Tryz.prog) W (((⟨lc.toArray⟩ : ByteArray) ++ (⟨#[116, 121, 112, 101, 32]⟩ : ByteArray)) ++ (⟨nn.toArray⟩ : ByteArray)) (⟨#[61, 66, 111, 111, 108, 59, 102, 110, 32]⟩ : ByteArray) (by simp only [ByteArray.size_append, bsz_mk, List.length_cons, List.length_nil]; omega)
              have sc3 := fun W : World => run_string_add_sum (P := Tryz.prog) W ((((⟨lc.toArray⟩ : ByteArray) ++ (⟨#[116, 121, 112, 101, 32]⟩ : ByteArray)) ++ (⟨nn.toArray⟩ : ByteArray)) ++ (⟨#[61, 66, 111, 111, 108, 59, 102, 110, 32]⟩ : ByteArray)) (⟨nn.toArray⟩ : ByteArray) (by simp only [ByteArray.size_append, bsz_mk, List.length_cons, List.length_nil]; omega)
              have sc4 := fun W : World => run_string_add_sum (P := Tryz.prog) W (((((⟨lc.toArray⟩ : ByteArray) ++ (⟨#[116, 121, 112, 101, 32]⟩ : ByteArray)) ++ (⟨nn.toArray⟩ : ByteArray)) ++ (⟨#[61, 66, 111, 111, 108, 59, 102, 110, 32]⟩ : ByteArray)) ++ (⟨nn.toArray⟩ : ByteArray)) (⟨#[40, 41, 45, 62, 73, 110, 116, 59]⟩ : ByteArray) (by simp only [ByteArray.size_append, bsz_mk, List.length_cons, List.length_nil]; omega)
              have sc5 := fun W : World => run_string_add_sum (P := Tryz.prog) W ((⟨ld.toArray⟩ : ByteArray)) (⟨#[116, 121, 112, 101, 32]⟩ : ByteArray) (by simp only [ByteArray.size_append, bsz_mk, List.length_cons, List.length_nil]; omega)
              have sc6 := fun W : World => run_string_add_sum (P := Tryz.prog) W ((⟨ld.toArray⟩ : ByteArray) ++ (⟨#[116, 121, 112, 101, 32]⟩ : ByteArray)) (⟨mm.toArray⟩ : ByteArray) (by simp only [ByteArray.size_append, bsz_mk, List.length_cons, List.length_nil]; omega)
              have sc7 := fun W : World => run_string_add_sum (P := Tryz.prog) W (((⟨ld.toArray⟩ : ByteArray) ++ (⟨#[116, 121, 112, 101, 32]⟩ : ByteArray)) ++ (⟨mm.toArray⟩ : ByteArray)) (⟨#[61, 66, 111, 111, 108, 59, 102, 110, 32]⟩ : ByteArray) (by simp only [ByteArray.size_append, bsz_mk, List.length_cons, List.length_nil]; omega)
              have sc8 := fun W : World => run_string_add_sum (P := Tryz.prog) W ((((⟨ld.toArray⟩ : ByteArray) ++ (⟨#[116, 121, 112, 101, 32]⟩ : ByteArray)) ++ (⟨mm.toArray⟩ : ByteArray)) ++ (⟨#[61, 66, 111, 111, 108, 59, 102, 110, 32]⟩ : ByteArray)) (⟨mm.toArray⟩ : ByteArray) (by simp only [ByteArray.size_append, bsz_mk, List.length_cons, List.length_nil]; omega)
              have sc9 := fun W : World => run_string_add_sum (P := Tryz.prog) W (((((⟨ld.toArray⟩ : ByteArray) ++ (⟨#[116, 121, 112, 101, 32]⟩ : ByteArray)) ++ (⟨mm.toArray⟩ : ByteArray)) ++ (⟨#[61, 66, 111, 111, 108, 59, 102, 110, 32]⟩ : ByteArray)) ++ (⟨mm.toArray⟩ : ByteArray)) (⟨#[40, 41, 45, 62, 73, 110, 116, 59]⟩ : ByteArray) (by simp only [ByteArray.size_append, bsz_mk, List.length_cons, List.length_nil]; omega)
              rcases Nat.eq_zero_or_pos i with rfl | hip
              · have E1' := E1.out; have E2' := E2.out
                have hm0 : (k : Int).tmod (cs.length : Int) = (q : Int) := by simpa using hmod
                have hw00 : IntKind.i64.wrap (k : Int) = (k : Int) := by rw [IntKind.wrap_i64]; omega
                rw [show sepL 0 = [] from rfl] at E1' E2'
                have E1 := Lib.hid E1'; have E2 := Lib.hid E2'
                clear E1' E2'
                have sd0 := fun W : World => run_string_add_sum (P := Tryz.prog) W ((⟨la.toArray⟩ : ByteArray)) (⟨#[]⟩ : ByteArray) (by simp only [ByteArray.size_append, bsz_mk, List.length_cons, List.length_nil]; omega)
                have sd1 := fun W : World => run_string_add_sum (P := Tryz.prog) W ((⟨la.toArray⟩ : ByteArray) ++ (⟨#[]⟩ : ByteArray)) (⟨nn.toArray⟩ : ByteArray) (by simp only [ByteArray.size_append, bsz_mk, List.length_cons, List.length_nil]; omega)
                have sd2 := fun W : World => run_string_add_sum (P := Tryz.prog) W (((⟨la.toArray⟩ : ByteArray) ++ (⟨#[]⟩ : ByteArray)) ++ (⟨nn.toArray⟩ : ByteArray)) (⟨#[58, 73, 110, 116]⟩ : ByteArray) (by simp only [ByteArray.size_append, bsz_mk, List.length_cons, List.length_nil]; omega)
                have sd3 := fun W : World => run_string_add_sum (P := Tryz.prog) W ((⟨lb.toArray⟩ : ByteArray)) (⟨#[]⟩ : ByteArray) (by simp only [ByteArray.size_append, bsz_mk, List.length_cons, List.length_nil]; omega)
                have sd4 := fun W : World => run_string_add_sum (P := Tryz.prog) W ((⟨lb.toArray⟩ : ByteArray) ++ (⟨#[]⟩ : ByteArray)) (⟨mm.toArray⟩ : ByteArray) (by simp only [ByteArray.size_append, bsz_mk, List.length_cons, List.length_nil]; omega)
                have sd5 := fun W : World => run_string_add_sum (P := Tryz.prog) W (((⟨lb.toArray⟩ : ByteArray) ++ (⟨#[]⟩ : ByteArray)) ++ (⟨mm.toArray⟩ : ByteArray)) (⟨#[58, 73, 110, 116]⟩ : ByteArray) (by simp only [ByteArray.size_append, bsz_mk, List.length_cons, List.length_nil]; omega)
                go_wp2_with fail
                go_quiet (fail)
                go_wp2
                go_roundw
                case rel => exact ⟨0 + 1, by omega, by rw [E1.out, ← bcatO, ← bcatO, ← bcatO], by rw [E2.out, ← bcatO, ← bcatO, ← bcatO], by rw [E3.out, ← bcatO, ← bcatO, ← bcatO, ← bcatO, ← bcatO], by rw [E4.out, ← bcatO, ← bcatO, ← bcatO, ← bcatO, ← bcatO], by go_num, (show Below wo.heap.size wo (wr.drewN nq) from ⟨hB.out.os, hB.out.tape, hB.out.output, hB.out.size, hB.out.block⟩)⟩
                case measure => simp [intOf]; omega
              · have E1' := E1.out; have E2' := E2.out
                rw [show sepL i = [44] from if_pos hip] at E1' E2'
                have E1 := Lib.hid E1'; have E2 := Lib.hid E2'
                have hipz : 0 < (i : Int) := by omega
                clear E1' E2'
                have sd0 := fun W : World => run_string_add_sum (P := Tryz.prog) W ((⟨la.toArray⟩ : ByteArray)) (⟨#[44]⟩ : ByteArray) (by simp only [ByteArray.size_append, bsz_mk, List.length_cons, List.length_nil]; omega)
                have sd1 := fun W : World => run_string_add_sum (P := Tryz.prog) W ((⟨la.toArray⟩ : ByteArray) ++ (⟨#[44]⟩ : ByteArray)) (⟨nn.toArray⟩ : ByteArray) (by simp only [ByteArray.size_append, bsz_mk, List.length_cons, List.length_nil]; omega)
                have sd2 := fun W : World => run_string_add_sum (P := Tryz.prog) W (((⟨la.toArray⟩ : ByteArray) ++ (⟨#[44]⟩ : ByteArray)) ++ (⟨nn.toArray⟩ : ByteArray)) (⟨#[58, 73, 110, 116]⟩ : ByteArray) (by simp only [ByteArray.size_append, bsz_mk, List.length_cons, List.length_nil]; omega)
                have sd3 := fun W : World => run_string_add_sum (P := Tryz.prog) W ((⟨lb.toArray⟩ : ByteArray)) (⟨#[44]⟩ : ByteArray) (by simp only [ByteArray.size_append, bsz_mk, List.length_cons, List.length_nil]; omega)
                have sd4 := fun W : World => run_string_add_sum (P := Tryz.prog) W ((⟨lb.toArray⟩ : ByteArray) ++ (⟨#[44]⟩ : ByteArray)) (⟨mm.toArray⟩ : ByteArray) (by simp only [ByteArray.size_append, bsz_mk, List.length_cons, List.length_nil]; omega)
                have sd5 := fun W : World => run_string_add_sum (P := Tryz.prog) W (((⟨lb.toArray⟩ : ByteArray) ++ (⟨#[44]⟩ : ByteArray)) ++ (⟨mm.toArray⟩ : ByteArray)) (⟨#[58, 73, 110, 116]⟩ : ByteArray) (by simp only [ByteArray.size_append, bsz_mk, List.length_cons, List.length_nil]; omega)
                go_wp2_with fail
                go_quiet (fail)
                go_wp2
                go_roundw
                case rel => exact ⟨i + 1, by omega, by rw [E1.out, ← bcatO, ← bcatO, ← bcatO], by rw [E2.out, ← bcatO, ← bcatO, ← bcatO], by rw [E3.out, ← bcatO, ← bcatO, ← bcatO, ← bcatO, ← bcatO], by rw [E4.out, ← bcatO, ← bcatO, ← bcatO, ← bcatO, ← bcatO], by go_num, (show Below wo.heap.size wo (wr.drewN nq) from ⟨hB.out.os, hB.out.tape, hB.out.output, hB.out.size, hB.out.block⟩)⟩
                case measure => simp [intOf]; omega
            · have hin : i = cs.length := by omega
              subst hin
              have hr : (rotL cs k).take cs.length = rotL cs k := by rw [← rot_len cs k]; exact List.take_length
              rw [hr, List.take_length]
              have hbw0 := hB.out.size
              have hB0 : Below w.heap.size w wr := HM.out.bel.trans (hB.out.mono hbw)
              have l1 := (fldS_len true (fls cs) (fls_mem _ h7.out)).1
              have l2 := (fldS_len true (fls (rotL cs k)) (fls_mem _ (rot_7 cs k h7.out))).1
              have l3 := decX_len (prs cs) (prs_mem _ h7.out)
              have l4 := decX_len (prs (rotL cs k)) (prs_mem _ (rot_7 cs k h7.out))
              have l5 := nameL_len cs[0] (h7.out _ (List.getElem_mem hpos))
              have lf1 : (fls cs).length = cs.length := by unfold fls; rw [List.length_map]
              have lf2 : (fls (rotL cs k)).length = cs.length := by unfold fls; rw [List.length_map, rot_len]
              rw [lf1] at l1
              rw [lf2] at l2
              rw [prs_len] at l3 l4
              rw [rot_len] at l4
              clear lf1 lf2
              have dA : (((⟨#[123]⟩ : ByteArray) ++ ⟨(fldS true (fls cs)).toArray⟩) ++ (⟨#[125]⟩ : ByteArray)).data.toList = fldX (fls cs) := by
                rw [bcatO, bcatO]; show ([123] ++ _) ++ [125] = _; unfold fldX; rw [List.append_assoc]
              have dC : (⟨(decX (prs cs)).toArray⟩ : ByteArray).data.toList = decX (prs cs) := rfl
              have CA := fun W hT => TP_any (((⟨#[123]⟩ : ByteArray) ++ ⟨(fldS true (fls cs)).toArray⟩) ++ (⟨#[125]⟩ : ByteArray)) W (by unfold maxLen; simp only [ByteArray.size_append, bsz_mk, List.length_cons, List.length_nil]; omega) hT (ordT cs) 0 (by rw [dA]; exact ord_A cs h7.out hnd.out hl8 H0.out)
              have CC := fun W hT => PP_any (⟨(decX (prs cs)).toArray⟩ : ByteArray) W (by unfold maxLen; simp only [bsz_mk]; omega) hT (ordZ cs) 0 (ord_C cs h7.out hnd.out hl8)
              have sST := ord_sameT cs h7.out hnd.out hl8
              have sSZ := ord_sameZ cs hl8
              have sa0 := fun W : World => run_string_add_sum (P := Tryz.prog) W (⟨#[123]⟩ : ByteArray) ⟨(fldS true (fls cs)).toArray⟩ (by simp only [bsz_mk, List.length_cons, List.length_nil]; omega)
              have sa1 := fun W : World => run_string_add_sum (P := Tryz.prog) W ((⟨#[123]⟩ : ByteArray) ++ ⟨(fldS true (fls cs)).toArray⟩) (⟨#[125]⟩ : ByteArray) (by simp only [ByteArray.size_append, bsz_mk, List.length_cons, List.length_nil]; omega)
              have HCA := Lib.hid CA; have HCC := Lib.hid CC; have HST := Lib.hid sST; have HSZ := Lib.hid sSZ; have HTW := Lib.hid (HT.out.below hB0); have HB0 := Lib.hid hB0
              clear CA CC sST sSZ dA dC hB0
              generalize hzt : ordT cs = zt at *
              generalize hzs : ordZ cs = zs2 at *
              cases tw
              · have dB : (((⟨#[123]⟩ : ByteArray) ++ ⟨(fldS true (fls (rotL cs k))).toArray⟩) ++ (⟨#[125]⟩ : ByteArray)).data.toList = fldX (fls (rotL cs k)) := by
                  rw [bcatO, bcatO]; show ([123] ++ _) ++ [125] = _; unfold fldX; rw [List.append_assoc]
                have CB := fun W hT => TP_any (((⟨#[123]⟩ : ByteArray) ++ ⟨(fldS true (fls (rotL cs k))).toArray⟩) ++ (⟨#[125]⟩ : ByteArray)) W (by unfold maxLen; simp only [ByteArray.size_append, bsz_mk, List.length_cons, List.length_nil]; omega) hT zt 0 (by rw [dB, ← hzt]; exact ord_B cs k h7.out hnd.out hl8 H0.out)
                have CD := fun W hT => PP_any (⟨(decX (prs (rotL cs k))).toArray⟩ : ByteArray) W (by unfold maxLen; simp only [bsz_mk]; omega) hT zs2 0 (by rw [← hzs]; exact ord_D cs k h7.out hnd.out hl8)
                have sb0 := fun W : World => run_string_add_sum (P := Tryz.prog) W (⟨#[123]⟩ : ByteArray) ⟨(fldS true (fls (rotL cs k))).toArray⟩ (by simp only [bsz_mk, List.length_cons, List.length_nil]; omega)
                have sb1 := fun W : World => run_string_add_sum (P := Tryz.prog) W ((⟨#[123]⟩ : ByteArray) ++ ⟨(fldS true (fls (rotL cs k))).toArray⟩) (⟨#[125]⟩ : ByteArray) (by simp only [ByteArray.size_append, bsz_mk, List.length_cons, List.length_nil]; omega)
                have HCB := Lib.hid CB; have HCD := Lib.hid CD
                clear CB CD dB hzt hzs
                generalize (⟨(fldS true (fls cs)).toArray⟩ : ByteArray) = bA at *
                generalize (⟨(fldS true (fls (rotL cs k))).toArray⟩ : ByteArray) = bB at *
                generalize (⟨(decX (prs cs)).toArray⟩ : ByteArray) = bC at *
                generalize (⟨(decX (prs (rotL cs k))).toArray⟩ : ByteArray) = bD at *
                go_wp2_with (go_at_call 9; (with_reducible refine (HCA.out _ HTW.out).mono ?_); rintro e w2 ⟨x1, x2, x3, x4, x5, x6, x7, x8, rfl, b2, v2⟩; have B2 := Lib.hid b2; have V2 := Lib.hid v2; clear b2 v2)
                obtain ⟨W2, hW2⟩ : ∃ W2, W2 = w2.alloc (.cells #[.int .i64 x1, .string x2, .slice x3 x4 x5, .slice x6 x7 x8] 29) := ⟨_, rfl⟩
                have HX2 : Hid (W2.heap[w2.heap.size]? = some (.cells #[.int .i64 x1, .string x2, .slice x3 x4 x5, .slice x6 x7 x8] 29 (0, 0))) := by rw [hW2]; exact heap_alloc_new w2 _
                have hA2 : Below w2.heap.size w2 W2 := by rw [hW2]; exact (Below.refl _ _).alloc (Nat.le_refl _) _
                have HV2 : Hid (TyV W2 (Span wr.heap.size w2.heap.size) zt ⟨x1, x2, x3, x4, x5, x6, x7, x8⟩) := V2.out.keep (fun _ h => h) (fun g hg => hA2.block g hg.2)
                have hs2 : w2.heap.size < W2.heap.size := by rw [hW2]; simp
                have HBW2 : Hid (Below w.heap.size w W2) := HB0.out.trans ((B2.out.trans (hA2.mono B2.out.size)).mono HB0.out.size)
                have HT2 := Lib.hid (HT.out.below HBW2.out)
                rw [← hW2]
                clear hW2 hA2
                go_wp2_with (go_at_call 9; (with_reducible refine (HCB.out _ HT2.out).mono ?_); rintro e w3 ⟨y1, y2, y3, y4, y5, y6, y7, y8, rfl, b3, v3⟩; have B3 := Lib.hid b3; have V3 := Lib.hid v3; clear b3 v3)
                obtain ⟨W3, hW3⟩ : ∃ W3, W3 = w3.alloc (.cells #[.int .i64 y1, .string y2, .slice y3 y4 y5, .slice y6 y7 y8] 29) := ⟨_, rfl⟩
                have HX3 : Hid (W3.heap[w3.heap.size]? = some (.cells #[.int .i64 y1, .string y2, .slice y3 y4 y5, .slice y6 y7 y8] 29 (0, 0))) := by rw [hW3]; exact heap_alloc_new w3 _
                have hA3 : Below w3.heap.size w3 W3 := by rw [hW3]; exact (Below.refl _ _).alloc (Nat.le_refl _) _
                have HV3 : Hid (TyV W3 (Span W2.heap.size w3.heap.size) zt ⟨y1, y2, y3, y4, y5, y6, y7, y8⟩) := V3.out.keep (fun _ h => h) (fun g hg => hA3.block g hg.2)
                have hs3 : w3.heap.size < W3.heap.size := by rw [hW3]; simp
                have H23 : Hid (Below W2.heap.size W2 W3) := B3.out.trans (hA3.mono B3.out.size)
                have HL23 := Lib.hid H23.out.size
                have HBW3 : Hid (Below w.heap.size w W3) := HBW2.out.trans (H23.out.mono HBW2.out.size)
                have HT3 := Lib.hid (HT.out.below HBW3.out)
                rw [← hW3]
                clear hW3 hA3
                go_wp2_with (go_at_call 10; (with_reducible refine (HCC.out _ HT3.out).mono ?_); rintro e w4 ⟨z1, z2, z3, z4, z5, z6, z7, z8, zb1, zd1, zb2, zd2, rfl, b4, v4⟩; have B4 := Lib.hid b4; have V4 := Lib.hid v4; clear b4 v4)
                obtain ⟨W4, hW4⟩ : ∃ W4, W4 = w4.alloc (.cells #[.int .i64 z1, .string z2, .slice z3 z4 z5, .slice z6 z7 z8, .slice zb1 zs2.types.length zd1, .slice zb2 zs2.sigs.length zd2] 36) := ⟨_, rfl⟩
                have HX4 : Hid (W4.heap[w4.heap.size]? = some (.cells #[.int .i64 z1, .string z2, .slice z3 z4 z5, .slice z6 z7 z8, .slice zb1 zs2.types.length zd1, .slice zb2 zs2.sigs.length zd2] 36 (0, 0))) := by rw [hW4]; exact heap_alloc_new w4 _
                have hA4 : Below w4.heap.size w4 W4 := by rw [hW4]; exact (Below.refl _ _).alloc (Nat.le_refl _) _
                have HV4 : Hid (SchV W4 (Span W3.heap.size w4.heap.size) zs2 ⟨z1, z2, z3, z4, z5, z6, z7, z8⟩ zb1 zs2.types.length zb2 zs2.sigs.length) := V4.out.keep (fun _ h => h) (fun g hg => hA4.block g hg.2)
                have hs4 : w4.heap.size < W4.heap.size := by rw [hW4]; simp
                have H34 : Hid (Below W3.heap.size W3 W4) := B4.out.trans (hA4.mono B4.out.size)
                have HL34 := Lib.hid H34.out.size
                have HBW4 : Hid (Below w.heap.size w W4) := HBW3.out.trans (H34.out.mono HBW3.out.size)
                have HT4 := Lib.hid (HT.out.below HBW4.out)
                rw [← hW4]
                clear hW4 hA4
                go_wp2_with (first
                  | (go_at_call 10; (with_reducible refine (HCD.out _ HT4.out).mono ?_); rintro e w5 ⟨u1, u2, u3, u4, u5, u6, u7, u8, ub1, ud1, ub2, ud2, rfl, b5, v5⟩;
                      obtain ⟨⟨p0, p1, p2, p3⟩, _⟩ := four_blk (blk_alloc (Below.keep_blk b5 (Below.keep_blk H34.out (Below.keep_blk H23.out HX2.out))) (.cells #[.int .i64 u1, .string u2, .slice u3 u4 u5, .slice u6 u7 u8, .slice ub1 zs2.types.length ud1, .slice ub2 zs2.sigs.length ud2] 36));
                      obtain ⟨⟨r0, r1, r2, r3⟩, _⟩ := four_blk (blk_alloc (Below.keep_blk b5 (Below.keep_blk H34.out HX3.out)) (.cells #[.int .i64 u1, .string u2, .slice u3 u4 u5, .slice u6 u7 u8, .slice ub1 zs2.types.length ud1, .slice ub2 zs2.sigs.length ud2] 36));
                      have H5 := Lib.hid (show Below W4.heap.size W4 (w5.alloc (.cells #[.int .i64 u1, .string u2, .slice u3 u4 u5, .slice u6 u7 u8, .slice ub1 zs2.types.length ud1, .slice ub2 zs2.sigs.length ud2] 36)) from b5.alloc b5.size _);
                      have HV5 := Lib.hid v5; have HS5 := Lib.hid b5.size; clear b5 v5)
                  | (go_at_call 11;
                      (refine (HST.out _ _ _ _ _ (HV2.out.keep (fun _ h => h) (fun g hg => ((H5.out.block g (by have := hg.2; have := HL23.out; have := HL34.out; omega)).trans ((H34.out.block g (by have := hg.2; have := HL23.out; omega)).trans (H23.out.block g (by have := hg.2; omega))))))
                        (HV3.out.keep (fun _ h => h) (fun g hg => ((H5.out.block g (by have := hg.2; have := HL34.out; omega)).trans (H34.out.block g (by have := hg.2; omega)))))
                        (fun g hg => by have := hg.2; have := HL23.out; have := HL34.out; have := H5.out.size; omega) (fun g hg => by have := hg.2; have := HL34.out; have := H5.out.size; omega)).mono ?_);
                      rintro e w6 ⟨rfl, b6⟩;
                      obtain ⟨⟨p0, p1, p2, p3, p4, p5⟩, _⟩ := six_blk (Below.keep_blk b6 (Below.keep_blk H5.out HX4.out));
                      obtain ⟨⟨r0, r1, r2, r3, r4, r5⟩, _⟩ := six_blk (Below.keep_blk b6 (heap_alloc_new w5 (.cells #[.int .i64 u1, .string u2, .slice u3 u4 u5, .slice u6 u7 u8, .slice ub1 zs2.types.length ud1, .slice ub2 zs2.sigs.length ud2] 36)));
                      have H6 := Lib.hid b6; clear b6)
                  | (go_at_call 12;
                      (refine (sameSch_any zs2 HSZ.out _ _ _ _ _ _ _ _ _ _ _ _ _ _ _ (HV4.out.keep (fun _ h => h) (fun g hg => (H6.out.block g (by have := hg.2; have := H5.out.size; omega)).trans (H5.out.block g (by have := hg.2; omega))))
                        (HV5.out.keep (fun _ h => h) (fun g hg => (H6.out.block g (by have := hg.2; simp; omega)).trans (((Below.refl w5.heap.size w5).alloc (Nat.le_refl _) _).block g hg.2)))
                        (fun g hg => by have := hg.2; have := H5.out.size; have := H6.out.size; omega) (fun g hg => by have := hg.2; have := H6.out.size; simp at this; omega)).mono ?_);
                      rintro e w7 ⟨rfl, b7⟩; have H7 := Lib.hid b7; clear b7))
                go_ret
                exact ⟨rfl, HBW4.out.trans ((H5.out.trans ((H6.out.trans (H7.out.mono H6.out.size)).mono H5.out.size)).mono HBW4.out.size)⟩
              · have c0m : cs[0] ∈ cs := List.getElem_mem hpos
                have hr0 : rotL cs k ≠ [] := fun e => by have := rot_len cs k; rw [e] at this; simp at this; omega
                have dB : (((⟨#[123]⟩ : ByteArray) ++ ((((⟨(fldS true (fls (rotL cs k))).toArray⟩ : ByteArray) ++ ⟨#[44]⟩) ++ ⟨(nameL cs[0]).toArray⟩) ++ ⟨#[58, 84, 101, 120, 116]⟩)) ++ (⟨#[125]⟩ : ByteArray)).data.toList = fldX (fls (rotL cs k) ++ [(cs[0], true)]) := by
                  simp only [bcatO]
                  show (([123] : List UInt8) ++ (((fldS true (fls (rotL cs k)) ++ ([44] : List UInt8)) ++ nameL cs[0]) ++ ([58, 84, 101, 120, 116] : List UInt8))) ++ ([125] : List UInt8) = _
                  unfold fldX
                  rw [fld_twice _ hr0 cs[0]]
                  simp [List.append_assoc]
                have dD : ((((⟨(decX (prs (rotL cs k))).toArray⟩ : ByteArray) ++ ⟨#[102, 110, 32]⟩) ++ ⟨(nameL cs[0]).toArray⟩) ++ ⟨#[40, 41, 45, 62, 73, 110, 116, 59]⟩).data.toList = decX (prs (rotL cs k) ++ [(cs[0], true)]) := by
                  simp only [bcatO]
                  show ((decX (prs (rotL cs k)) ++ ([102, 110, 32] : List UInt8)) ++ nameL cs[0]) ++ ([40, 41, 45, 62, 73, 110, 116, 59] : List UInt8) = _
                  rw [dec_twice]
                have CB := fun W hT => TP_any (((⟨#[123]⟩ : ByteArray) ++ ((((⟨(fldS true (fls (rotL cs k))).toArray⟩ : ByteArray) ++ ⟨#[44]⟩) ++ ⟨(nameL cs[0]).toArray⟩) ++ ⟨#[58, 84, 101, 120, 116]⟩)) ++ (⟨#[125]⟩ : ByteArray)) W (by unfold maxLen; simp only [ByteArray.size_append, bsz_mk, List.length_cons, List.length_nil]; omega) hT .zero 6 (by rw [dB]; exact ord_B2 cs k cs[0] h7.out hl8 c0m)
                have CD := fun W hT => PP_any ((((⟨(decX (prs (rotL cs k))).toArray⟩ : ByteArray) ++ ⟨#[102, 110, 32]⟩) ++ ⟨(nameL cs[0]).toArray⟩) ++ ⟨#[40, 41, 45, 62, 73, 110, 116, 59]⟩) W (by unfold maxLen; simp only [ByteArray.size_append, bsz_mk, List.length_cons, List.length_nil]; omega) hT ⟨.zero, [], []⟩ 6 (by rw [dD]; exact ord_D2 cs k cs[0] h7.out hl8 c0m)
                have st0 := fun W : World => run_string_add_sum (P := Tryz.prog) W ((⟨(fldS true (fls (rotL cs k))).toArray⟩ : ByteArray)) (⟨#[44]⟩ : ByteArray) (by simp only [ByteArray.size_append, bsz_mk, List.length_cons, List.length_nil]; omega)
                have st1 := fun W : World => run_string_add_sum (P := Tryz.prog) W (((⟨(fldS true (fls (rotL cs k))).toArray⟩ : ByteArray) ++ (⟨#[44]⟩ : ByteArray))) (⟨(nameL cs[0]).toArray⟩ : ByteArray) (by simp only [ByteArray.size_append, bsz_mk, List.length_cons, List.length_nil]; omega)
                have st2 := fun W : World => run_string_add_sum (P := Tryz.prog) W ((((⟨(fldS true (fls (rotL cs k))).toArray⟩ : ByteArray) ++ (⟨#[44]⟩ : ByteArray)) ++ (⟨(nameL cs[0]).toArray⟩ : ByteArray))) (⟨#[58, 84, 101, 120, 116]⟩ : ByteArray) (by simp only [ByteArray.size_append, bsz_mk, List.length_cons, List.length_nil]; omega)
                have st3 := fun W : World => run_string_add_sum (P := Tryz.prog) W ((⟨(decX (prs (rotL cs k))).toArray⟩ : ByteArray)) (⟨#[102, 110, 32]⟩ : ByteArray) (by simp only [ByteArray.size_append, bsz_mk, List.length_cons, List.length_nil]; omega)
                have st4 := fun W : World => run_string_add_sum (P := Tryz.prog) W (((⟨(decX (prs (rotL cs k))).toArray⟩ : ByteArray) ++ (⟨#[102, 110, 32]⟩ : ByteArray))) (⟨(nameL cs[0]).toArray⟩ : ByteArray) (by simp only [ByteArray.size_append, bsz_mk, List.length_cons, List.length_nil]; omega)
                have st5 := fun W : World => run_string_add_sum (P := Tryz.prog) W ((((⟨(decX (prs (rotL cs k))).toArray⟩ : ByteArray) ++ (⟨#[102, 110, 32]⟩ : ByteArray)) ++ (⟨(nameL cs[0]).toArray⟩ : ByteArray))) (⟨#[40, 41, 45, 62, 73, 110, 116, 59]⟩ : ByteArray) (by simp only [ByteArray.size_append, bsz_mk, List.length_cons, List.length_nil]; omega)
                have st6 := fun W : World => run_string_add_sum (P := Tryz.prog) W ((⟨#[123]⟩ : ByteArray)) ((((⟨(fldS true (fls (rotL cs k))).toArray⟩ : ByteArray) ++ (⟨#[44]⟩ : ByteArray)) ++ (⟨(nameL cs[0]).toArray⟩ : ByteArray)) ++ (⟨#[58, 84, 101, 120, 116]⟩ : ByteArray)) (by simp only [ByteArray.size_append, bsz_mk, List.length_cons, List.length_nil]; omega)
                have st7 := fun W : World => run_string_add_sum (P := Tryz.prog) W (((⟨#[123]⟩ : ByteArray) ++ ((((⟨(fldS true (fls (rotL cs k))).toArray⟩ : ByteArray) ++ (⟨#[44]⟩ : ByteArray)) ++ (⟨(nameL cs[0]).toArray⟩ : ByteArray)) ++ (⟨#[58, 84, 101, 120, 116]⟩ : ByteArray)))) (⟨#[125]⟩ : ByteArray) (by simp only [ByteArray.size_append, bsz_mk, List.length_cons, List.length_nil]; omega)
                obtain ⟨g, rfl, hg, hgc⟩ := HM.out.at 0 hpos
                have cn := hgc wr hB.out
                have HCB := Lib.hid CB; have HCD := Lib.hid CD
                clear CB CD dB dD hzt hzs hgc c0m hr0
                generalize (⟨(fldS true (fls cs)).toArray⟩ : ByteArray) = bA at *
                generalize (⟨(fldS true (fls (rotL cs k))).toArray⟩ : ByteArray) = bB at *
                generalize (⟨(decX (prs cs)).toArray⟩ : ByteArray) = bC at *
                generalize (⟨(decX (prs (rotL cs k))).toArray⟩ : ByteArray) = bD at *
                generalize (⟨(nameL cs[0]).toArray⟩ : ByteArray) = bN at *
                have hp0 : 0 < (cs.length : Int) := by omega
                go_wp2_with fail
                go_quiet (fail)
                obtain ⟨wq, hwq⟩ : ∃ wq, wq = wr.drewN nq := ⟨_, rfl⟩
                have HB0 : Hid (Below w.heap.size w wq) := by rw [hwq]; exact ⟨HB0.out.os, HB0.out.tape, HB0.out.output, HB0.out.size, HB0.out.block⟩
                have HTW := Lib.hid (HT.out.below HB0.out)
                rw [← hwq]
                clear hwq cn
                go_wp2_with (go_at_call 9; (with_reducible refine (HCA.out _ HTW.out).mono ?_); rintro e w2 ⟨x1, x2, x3, x4, x5, x6, x7, x8, rfl, b2, v2⟩; have B2 := Lib.hid b2; have V2 := Lib.hid v2; clear b2 v2)
                obtain ⟨W2, hW2⟩ : ∃ W2, W2 = w2.alloc (.cells #[.int .i64 x1, .string x2, .slice x3 x4 x5, .slice x6 x7 x8] 29) := ⟨_, rfl⟩
                have HX2 : Hid (W2.heap[w2.heap.size]? = some (.cells #[.int .i64 x1, .string x2, .slice x3 x4 x5, .slice x6 x7 x8] 29 (0, 0))) := by rw [hW2]; exact heap_alloc_new w2 _
                have hA2 : Below w2.heap.size w2 W2 := by rw [hW2]; exact (Below.refl _ _).alloc (Nat.le_refl _) _
                have HV2 : Hid (TyV W2 (Span wq.heap.size w2.heap.size) zt ⟨x1, x2, x3, x4, x5, x6, x7, x8⟩) := V2.out.keep (fun _ h => h) (fun g hg => hA2.block g hg.2)
                have hs2 : w2.heap.size < W2.heap.size := by rw [hW2]; simp
                have HBW2 : Hid (Below w.heap.size w W2) := HB0.out.trans ((B2.out.trans (hA2.mono B2.out.size)).mono HB0.out.size)
                have HT2 := Lib.hid (HT.out.below HBW2.out)
                rw [← hW2]
                clear hW2 hA2
                go_wp2_with (go_at_call 9; (with_reducible refine (HCB.out _ HT2.out).mono ?_); rintro e w3 ⟨y1, y2, y3, y4, y5, y6, y7, y8, rfl, b3, v3⟩; have B3 := Lib.hid b3; have V3 := Lib.hid v3; clear b3 v3)
                obtain ⟨W3, hW3⟩ : ∃ W3, W3 = w3.alloc (.cells #[.int .i64 y1, .string y2, .slice y3 y4 y5, .slice y6 y7 y8] 29) := ⟨_, rfl⟩
                have HX3 : Hid (W3.heap[w3.heap.size]? = some (.cells #[.int .i64 y1, .string y2, .slice y3 y4 y5, .slice y6 y7 y8] 29 (0, 0))) := by rw [hW3]; exact heap_alloc_new w3 _
                have hA3 : Below w3.heap.size w3 W3 := by rw [hW3]; exact (Below.refl _ _).alloc (Nat.le_refl _) _
                have HV3 : Hid (TyV W3 (Span W2.heap.size w3.heap.size) .zero ⟨y1, y2, y3, y4, y5, y6, y7, y8⟩) := V3.out.keep (fun _ h => h) (fun g hg => hA3.block g hg.2)
                have hs3 : w3.heap.size < W3.heap.size := by rw [hW3]; simp
                have H23 : Hid (Below W2.heap.size W2 W3) := B3.out.trans (hA3.mono B3.out.size)
                have HL23 := Lib.hid H23.out.size
                have HBW3 : Hid (Below w.heap.size w W3) := HBW2.out.trans (H23.out.mono HBW2.out.size)
                have HT3 := Lib.hid (HT.out.below HBW3.out)
                rw [← hW3]
                clear hW3 hA3
                go_wp2_with (go_at_call 10; (with_reducible refine (HCC.out _ HT3.out).mono ?_); rintro e w4 ⟨z1, z2, z3, z4, z5, z6, z7, z8, zb1, zd1, zb2, zd2, rfl, b4, v4⟩; have B4 := Lib.hid b4; have V4 := Lib.hid v4; clear b4 v4)
                obtain ⟨W4, hW4⟩ : ∃ W4, W4 = w4.alloc (.cells #[.int .i64 z1, .string z2, .slice z3 z4 z5, .slice z6 z7 z8, .slice zb1 zs2.types.length zd1, .slice zb2 zs2.sigs.length zd2] 36) := ⟨_, rfl⟩
                have HX4 : Hid (W4.heap[w4.heap.size]? = some (.cells #[.int .i64 z1, .string z2, .slice z3 z4 z5, .slice z6 z7 z8, .slice zb1 zs2.types.length zd1, .slice zb2 zs2.sigs.length zd2] 36 (0, 0))) := by rw [hW4]; exact heap_alloc_new w4 _
                have hA4 : Below w4.heap.size w4 W4 := by rw [hW4]; exact (Below.refl _ _).alloc (Nat.le_refl _) _
                have HV4 : Hid (SchV W4 (Span W3.heap.size w4.heap.size) zs2 ⟨z1, z2, z3, z4, z5, z6, z7, z8⟩ zb1 zs2.types.length zb2 zs2.sigs.length) := V4.out.keep (fun _ h => h) (fun g hg => hA4.block g hg.2)
                have hs4 : w4.heap.size < W4.heap.size := by rw [hW4]; simp
                have H34 : Hid (Below W3.heap.size W3 W4) := B4.out.trans (hA4.mono B4.out.size)
                have HL34 := Lib.hid H34.out.size
                have HBW4 : Hid (Below w.heap.size w W4) := HBW3.out.trans (H34.out.mono HBW3.out.size)
                have HT4 := Lib.hid (HT.out.below HBW4.out)
                rw [← hW4]
                clear hW4 hA4
                go_wp2_with (go_at_call 10; (with_reducible refine (HCD.out _ HT4.out).mono ?_); rintro e w5 ⟨u1, u2, u3, u4, u5, u6, u7, u8, ub1, ud1, ub2, ud2, rfl, b5, v5⟩; have H5 := Lib.hid b5; clear b5 v5)
                go_ret
                exact ⟨rfl, HBW4.out.trans ((H5.out.alloc H5.out.size _).mono HBW4.out.size)⟩
end Sh
end Go.Proofs.YtnnnjonodnkccaaGreatDoor
