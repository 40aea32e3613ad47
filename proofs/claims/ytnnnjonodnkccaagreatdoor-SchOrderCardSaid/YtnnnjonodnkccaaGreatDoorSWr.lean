/- The writer: put, comma; how a type is written, its kids in order. -/
import Derived.Test.YtnnnjonodnkccaaGreatDoorSBld
import Derived.Test.YtnnnjonodnkccaaGreatDoorSTyp
namespace Go.Proofs.YtnnnjonodnkccaaGreatDoor
open Go.RowKit
namespace Sh
open Sc

/-- What a method of the writer's leaves. -/
def WrP (w : World) (wb : Nat) (bs : List UInt8) (left : Int) (e : Ending) (w' : World) : Prop := e = .returned (.tuple #[]) ∧ Wt w' wb bs left ∧ Eff wb w w'

set_option maxHeartbeats 400000 in
theorem put_any (wb : Nat) (w : World) (bs s : List UInt8) (left : Int) (h : Wt w wb bs left) (hl : bs.length + s.length ≤ 100000000) :
    Calls Tryz.prog 56 #[.pointer (some ⟨wb, 0, none⟩), .string ⟨s.toArray⟩] w (WrP w wb (bs ++ s) left) := by
  have HC := Lib.hid (WriteString_any wb w bs s left h hl)
  clear h
  go_enter Tryz.func56, Tryz.ntmps56
  go_wp2_with (go_at_call 74; (refine HC.out.mono ?_); rintro e w1 ⟨⟨v, rfl⟩, h1, e1⟩; have H1 := Lib.hid h1; have E1 := Lib.hid e1; clear h1 e1)
  go_end0
  exact ⟨rfl, H1.out, E1.out⟩

set_option maxHeartbeats 400000 in
theorem comma_any (wb : Nat) (w : World) (bs : List UInt8) (left : Int) (i : Nat) (h : Wt w wb bs left) (hl : bs.length + 2 ≤ 100000000) :
    Calls Tryz.prog 75 #[.pointer (some ⟨wb, 0, none⟩), .int .i64 i] w (WrP w wb (bs ++ if decide (i = 0) then [] else [44, 32]) left) := by
  by_cases h0 : i = 0
  · subst h0
    rw [decide_eq_true rfl, if_pos rfl, List.append_nil]
    have H := Lib.hid h; clear h
    go_enter Tryz.func75, Tryz.ntmps75
    go_wp2_with fail
    go_end0
    exact ⟨rfl, H.out, Eff.refl _ _⟩
  · rw [decide_eq_false h0, if_neg (by decide)]
    have hi : (0 : Int) < (i : Int) := by omega
    have HC := Lib.hid (put_any wb w bs [44, 32] left h hl)
    clear h h0
    go_enter Tryz.func75, Tryz.ntmps75
    go_wp2_with (go_at_call 56; (refine HC.out.mono ?_); rintro e w1 ⟨rfl, h1, e1⟩; have H1 := Lib.hid h1; have E1 := Lib.hid e1; clear h1 e1)
    go_end0
    exact ⟨rfl, H1.out, E1.out⟩

theorem comma_any2 (wb : Nat) (w : World) (bs : List UInt8) (left : Int) (i : Nat) (h : Wt w wb bs left) (hl : bs.length + 2 ≤ 100000000 ∨ decide (i = 0) = true) :
    Calls Tryz.prog 75 #[.pointer (some ⟨wb, 0, none⟩), .int .i64 i] w (WrP w wb (bs ++ if decide (i = 0) then [] else [44, 32]) left) := by
  rcases hl with hl | hl
  · exact comma_any wb w bs left i h hl
  · rw [hl, if_pos rfl, List.append_nil]
    obtain rfl : i = 0 := of_decide_eq_true hl
    have H := Lib.hid h; clear h hl
    go_enter Tryz.func75, Tryz.ntmps75
    go_wp2_with fail
    go_end0
    exact ⟨rfl, H.out, Eff.refl _ _⟩

theorem look_below {w W : World} {wb : Nat} (h : LookTab w) (hb : Below wb w W) (hg : 0 < wb) : LookTab W := by
  obtain ⟨t, fr, h⟩ := h; exact ⟨t, fr, (hb.block _ hg).trans h⟩

theorem sizeK_drop_le : ∀ (ks : List Ty) (k : Nat), sizeK (ks.drop k) ≤ sizeK ks
  | _, 0 => Nat.le_refl _
  | [], k + 1 => Nat.le_refl _
  | t :: ks, k + 1 => by have := sizeK_drop_le ks k; simp only [List.drop_succ_cons, sizeK]; omega

theorem notB_cells (cs : Array Value) (t : TypeId) (fz : Nat × Nat) (h : t ≠ 5) : notB (.cells cs t fz) := by
  intro c f e; cases e; exact h rfl

/-- What writing one type asks, and leaves. -/
def TyW (t : Ty) : Prop := ∀ (w : World) (wb : Nat) (bs : List UInt8) (R : Nat) (c : C4) (S : Nat → Prop), TyV w S t c → (∀ g, S g → g < wb) → LookTab w → 0 < wb → Wt w wb bs ((R + sizeT t : Nat) : Int) → R + sizeT t ≤ 70000 →
  bs.length + (textT t).length ≤ 100000000 → Calls Tryz.prog 38 #[.pointer (some ⟨wb, 0, none⟩), c.val] w (WrP w wb (bs ++ textT t) R)

theorem Wt.reader {w : World} {wb : Nat} {bs : List UInt8} {left : Int} (h : Wt w wb bs left) : w.cell? ⟨wb, 2, none⟩ = some (.int .i64 left) ∧ w.frozen? ⟨wb, 2, none⟩ = false := by
  obtain ⟨p, v, _, hb, _⟩ := h
  exact ⟨(three_blk hb).1.2.2, (three_blk hb).2.2.2⟩
theorem Wt.setLeft {w : World} {wb : Nat} {bs : List UInt8} {left l2 : Int} (h : Wt w wb bs left) : Wt (w.setCell ⟨wb, 2, none⟩ (.int .i64 l2)) wb bs l2 := by
  obtain ⟨p, v, hp, hb, ho⟩ := h
  refine ⟨p, v, hp, set_blk2 hb _, ho.kept ((Only.refl wb w).setCell 2 _) ?_⟩
  cases hv : v.ownBlock with
  | none => exact .inl rfl
  | some g => refine .inr fun e => ?_; cases e; have := (ho.lt _ hv).1; omega
theorem Wt.alloc {w : World} {wb : Nat} {bs : List UInt8} {left : Int} (h : Wt w wb bs left) (o : Obj) : Wt (w.alloc o) wb bs left := by
  have hl := h.lt
  obtain ⟨p, v, hp, hb, ho⟩ := h
  exact ⟨p, v, hp, (Below.heap_alloc w o wb hl).trans hb, ho.alloc o⟩

theorem put_any2 (wb : Nat) (w : World) (bs : List UInt8) (s : ByteArray) (left : Int) (h : Wt w wb bs left) (hl : bs.length + s.data.toList.length ≤ 100000000) :
    Calls Tryz.prog 56 #[.pointer (some ⟨wb, 0, none⟩), .string s] w (WrP w wb (bs ++ s.data.toList) left) := by
  have := put_any wb w bs s.data.toList left h hl
  rwa [show (⟨s.data.toList.toArray⟩ : ByteArray) = s by cases s; simp] at this
theorem bytes_cat (l m : List UInt8) : ((⟨l.toArray⟩ : ByteArray) ++ ⟨m.toArray⟩).data.toList = l ++ m := by simp [ByteArray.data_append]

theorem name_cells {w : World} {wb : Nat} {S : Nat → Prop} {an : Option Addr} {ns : List (List UInt8)} (h : Cells w S an (ns.map str)) (hS : ∀ g, S g → g < wb) (k : Nat) (hk : k < ns.length) :
    ∃ g, an = some ⟨g, 0, none⟩ ∧ ∀ W, Below wb w W → W.cell? ⟨g, k, none⟩ = some (.string ⟨ns[k].toArray⟩) := by
  rcases h with h | ⟨g, ha, hg, hc⟩
  · rw [List.map_eq_nil_iff] at h; subst h; simp at hk
  · refine ⟨g, ha, fun W hW => ?_⟩
    rw [hW.cell (p := ⟨g, k, none⟩) (hS g hg)]
    exact hc k _ (by rw [List.getElem?_map, List.getElem?_eq_getElem hk]; rfl)
theorem kid_cells {w : World} {wb : Nat} {S : Nat → Prop} {ak : Option Addr} {us : List C4} (h : Cells w S ak (us.flatMap C4.cells)) (hS : ∀ g, S g → g < wb) (k : Nat) (hk : k < us.length) :
    ∃ g, ak = some ⟨g, 0, none⟩ ∧ ∀ W, Below wb w W → W.cell? ⟨g, k * 4, none⟩ = some (.int .i64 us[k].k) ∧ W.cell? ⟨g, k * 4 + 1, none⟩ = some (.string us[k].n) ∧ W.cell? ⟨g, k * 4 + 2, none⟩ = some (.slice us[k].an us[k].ln us[k].cn) ∧ W.cell? ⟨g, k * 4 + 3, none⟩ = some (.slice us[k].ak us[k].lk us[k].ck) := by
  have hf := fun j hj => flat_get C4.cells 4 (fun _ => rfl) us k j hk hj
  rw [getElem!_pos us k hk] at hf
  rcases h with h | ⟨g, ha, hg, hc⟩
  · have := hf 0 (by decide); rw [h] at this; simp [C4.cells] at this
  · refine ⟨g, ha, fun W hW => ⟨?_, ?_, ?_, ?_⟩⟩
    · rw [hW.cell (p := ⟨g, k * 4, none⟩) (hS g hg)]; exact hc _ _ (hf 0 (by decide))
    · rw [hW.cell (p := ⟨g, k * 4 + 1, none⟩) (hS g hg)]; exact hc _ _ (hf 1 (by decide))
    · rw [hW.cell (p := ⟨g, k * 4 + 2, none⟩) (hS g hg)]; exact hc _ _ (hf 2 (by decide))
    · rw [hW.cell (p := ⟨g, k * 4 + 3, none⟩) (hS g hg)]; exact hc _ _ (hf 3 (by decide))

def KRel (w0 wr : World) (wb : Nat) (full : List UInt8) (ns : List (List UInt8)) (ks : List Ty) (R : Nat) (i : Value) (k : Nat) (acc : List UInt8) : Prop :=
  i = .int .i64 k ∧ k ≤ ks.length ∧ full = acc ++ kidsT (decide (k = 0)) (ns.drop k) (ks.drop k) ∧ Wt wr wb acc ((R + sizeK (ks.drop k) : Nat) : Int) ∧ Eff wb w0 wr

set_option maxRecDepth 100000 in
set_option maxHeartbeats 2000000 in
theorem kids_any (w : World) (wb : Nat) (bs : List UInt8) (R k0 : Nat) (n : List UInt8) (ns : List (List UInt8)) (ks : List Ty) (c : C4) (S : Nat → Prop) (hv : TyV w S (.mk k0 n ns ks) c) (hS : ∀ g, S g → g < wb) (hL : LookTab w) (hg : 0 < wb)
    (h : Wt w wb bs ((R + sizeK ks : Nat) : Int)) (hR : R + sizeK ks ≤ 70000) (hlen : bs.length + (kidsT true ns ks).length ≤ 100000000) (ih : ∀ k (hk : k < ks.length), TyW ks[k]) :
    Calls Tryz.prog 57 #[.pointer (some ⟨wb, 0, none⟩), c.val] w (WrP w wb (bs ++ kidsT true ns ks) R) := by
  have hwb := h.lt
  have hkl := len_sizeK ks
  cases hv with
  | mk _ _ _ _ an cn ak ck us hl hn hk hu =>
  have h1 := h.alloc (.cells (C4.cells ⟨k0, ⟨n.toArray⟩, an, ns.length, cn, ak, ks.length, ck⟩).toArray 29)
  have hb0 := heap_alloc_new w (.cells (C4.cells ⟨k0, ⟨n.toArray⟩, an, ns.length, cn, ak, ks.length, ck⟩).toArray 29)
  have he0 : Eff wb w (w.alloc (.cells (C4.cells ⟨k0, ⟨n.toArray⟩, an, ns.length, cn, ak, ks.length, ck⟩).toArray 29)) := (Eff.refl wb w).alloc _ (by omega)
  have H1 := Lib.hid h1; have HB := Lib.hid hb0; have HE := Lib.hid he0; have HS := Lib.hid hS; have HL := Lib.hid hL; have HI := Lib.hid ih; have HN := Lib.hid hn; have HK := Lib.hid hk; have HU := Lib.hid hu; have HUL := Lib.hid hl
  clear h1 hb0 he0 hS hL ih hn hk hu hl h
  unfold C4.val C4.cells at *
  obtain ⟨full, hfull⟩ : ∃ full, full = bs ++ kidsT true ns ks := ⟨_, rfl⟩
  have hfl : full.length ≤ 100000000 := by rw [hfull, List.length_append]; exact hlen
  rw [← hfull]
  have HF := Lib.hid hfull
  clear hfull hlen
  go_enter Tryz.func57, Tryz.ntmps57
  go_wp2
  go_loopw [4] (fun i wr => ∃ k acc, KRel (w.alloc (.cells #[.int .i64 k0, .string ⟨n.toArray⟩, .slice an ns.length cn, .slice ak ks.length ck] 29)) wr wb full ns ks R i k acc) (fun i _ => ks.length - (intOf i).toNat)
  case atStart => exact ⟨0, bs, rfl, Nat.zero_le _, HF.out, H1.out, Eff.refl _ _⟩
  case round =>
    obtain ⟨k, acc, rfl, hk, hf, hW, hE⟩ := hrel
    have hbox := hE.oth w.heap.size _ (by omega) HB.out (notB_cells _ _ _ (by decide))
    obtain ⟨⟨p0, p1, p2, p3⟩, y0, y1, y2, y3⟩ := four_blk hbox
    obtain ⟨l2, l2f⟩ := hW.reader
    have hws := hE.bel.size
    simp at hws
    have HW := Lib.hid hW; have HEr := Lib.hid hE; have HFr := Lib.hid hf
    clear hW hE hf hbox
    by_cases hlt : k < ks.length
    · have hsz := sizeK_drop ks k hlt
      have hpos := sizeT_pos ks[k]
      have hm := sizeT_mem ks k hlt
      have hdr := kidsT_drop (decide (k = 0)) ns ks k hlt
      have hl2 : (0 : Int) < ((R + sizeK (ks.drop k) : Nat) : Int) := by omega
      have hul : k < us.length := by rw [HUL.out]; exact hlt
      obtain ⟨gk, rfl, hkc⟩ := kid_cells HK.out HS.out k hul
      have hty := HU.out k hlt hul
      have IH := HI.out k hlt
      have esz : R + sizeK (ks.drop k) = R + sizeK (ks.drop (k + 1)) + sizeT ks[k] := by omega
      have hbd : R + sizeK (ks.drop (k + 1)) + sizeT ks[k] ≤ 70000 := by have := sizeK_drop_le ks k; omega
      have ht1 : full.length = acc.length + (kidsT (decide (k = 0)) (ns.drop k) (ks.drop k)).length := by rw [← List.length_append, ← HFr.out]
      rw [hdr] at ht1
      simp only [List.length_append] at ht1
      have HTY := Lib.hid hty; have HDR := Lib.hid hdr; have HES := Lib.hid esz; have HKC := Lib.hid hkc; have HIH := Lib.hid IH; have HT1 := Lib.hid ht1
      have hbE := HE.out.bel.trans HEr.out.bel
      have HBE := Lib.hid hbE
      have hcm : acc.length + 2 ≤ 100000000 ∨ decide (k = 0) = true := by
        cases hd : decide (k = 0)
        · left; rw [hd, if_neg (by decide)] at ht1; simp at ht1; omega
        · exact .inr rfl
      clear hty hdr hkc IH hsz hbE ht1 esz
      have CC := comma_any2 wb wr acc _ k HW.out hcm
      have HCC := Lib.hid CC
      clear CC hcm
      generalize (if decide (k = 0) = true then ([] : List UInt8) else [44, 32]) = cm at *
      by_cases hn : k < ns.length
      · obtain ⟨gn, rfl, hnc⟩ := name_cells HN.out HS.out k hn
        have HNC := Lib.hid hnc; clear hnc
        have hd1 := HDR.out; rw [dif_pos hn] at hd1
        have ht1 := HT1.out; rw [dif_pos hn] at ht1; simp only [List.length_append, List.length_cons, List.length_nil] at ht1
        have HD1 := Lib.hid hd1; have HT2 := Lib.hid ht1; clear hd1 ht1
        generalize ks[k] = t at *
        generalize us[k] = u at *
        generalize ns[k] = nm at *
        have hadd := fun w : World => run_string_add_sum (P := Tryz.prog) w ⟨nm.toArray⟩ ⟨#[58, 32]⟩ (by show nm.length + 2 ≤ _; have := HT2.out; omega)
        obtain ⟨kd, n2, an2, ln2, cn2, ak2, lk2, ck2⟩ := u
        go_wp2_with (first
          | (go_at_call 75; (refine HCC.out.mono ?_); rintro e w1 ⟨rfl, h1, e1⟩; have H1 := Lib.hid h1; have E1 := Lib.hid (HEr.out.trans e1); have B1 := Lib.hid (HBE.out.trans e1.bel); obtain ⟨⟨q0, q1, q2, q3⟩, z0, z1, z2, z3⟩ := four_blk (E1.out.oth w.heap.size _ (by omega) HB.out (notB_cells _ _ _ (by decide))); have c1 := HNC.out w1 B1.out; have hs1 := e1.bel.size; clear h1 e1)
          | (go_at_call 56; (refine (put_any2 wb w1 _ _ _ H1.out (by rw [bytes_cat]; simp only [List.length_append, List.length_cons, List.length_nil]; have := HT2.out; omega)).mono ?_); rintro e w2 ⟨rfl, h2, e2⟩; rw [bytes_cat] at h2; have H2 := Lib.hid h2; have E2 := Lib.hid (E1.out.trans e2); have B2 := Lib.hid (B1.out.trans e2.bel); clear q0 q1 q2 q3 z0 z1 z2 z3; obtain ⟨⟨q0, q1, q2, q3⟩, z0, z1, z2, z3⟩ := four_blk (E2.out.oth w.heap.size _ (by omega) HB.out (notB_cells _ _ _ (by decide))); obtain ⟨k0', k1', k2', k3'⟩ := HKC.out w2 B2.out; have hs2 := e2.bel.size; clear h2 e2; have C2 := Lib.hid (HIH.out w2 wb _ (R + sizeK (ks.drop (k + 1))) _ S (HTY.out.keep (fun _ h => h) (fun g hg => B2.out.block g (HS.out g hg))) HS.out (look_below HL.out B2.out hg) hg (by have := H2.out; rw [HES.out] at this; exact this) (by omega) (by simp only [List.length_append, List.length_cons, List.length_nil]; have := HT2.out; omega)))
          | (go_at_call 38; (refine C2.out.mono ?_); rintro e w3 ⟨rfl, h3, e3⟩; have H3 := Lib.hid h3; have E3 := Lib.hid (E2.out.trans e3); clear h3 e3))
        go_roundw
        case rel => exact ⟨k + 1, _, by go_num, by omega, by rw [HFr.out, HD1.out]; simp only [List.append_assoc]; rw [decide_eq_false (by omega : ¬ k + 1 = 0)], H3.out, E3.out⟩
        case measure => simp [intOf]; omega
      · have hd1 := HDR.out; rw [dif_neg hn, List.append_nil] at hd1
        have ht1 := HT1.out; rw [dif_neg hn] at ht1; simp only [List.length_nil] at ht1
        have HD1 := Lib.hid hd1; have HT2 := Lib.hid ht1; clear hd1 ht1
        have hnz : (ns.length : Int) ≤ (k : Int) := by omega
        generalize ks[k] = t at *
        generalize us[k] = u at *
        obtain ⟨kd, n2, an2, ln2, cn2, ak2, lk2, ck2⟩ := u
        go_wp2_with (first
          | (go_at_call 75; (refine HCC.out.mono ?_); rintro e w1 ⟨rfl, h1, e1⟩; have H1 := Lib.hid h1; have E1 := Lib.hid (HEr.out.trans e1); have B1 := Lib.hid (HBE.out.trans e1.bel); obtain ⟨⟨q0, q1, q2, q3⟩, z0, z1, z2, z3⟩ := four_blk (E1.out.oth w.heap.size _ (by omega) HB.out (notB_cells _ _ _ (by decide))); obtain ⟨k0', k1', k2', k3'⟩ := HKC.out w1 B1.out; have hs1 := e1.bel.size; clear h1 e1; have C2 := Lib.hid (HIH.out w1 wb _ (R + sizeK (ks.drop (k + 1))) _ S (HTY.out.keep (fun _ h => h) (fun g hg => B1.out.block g (HS.out g hg))) HS.out (look_below HL.out B1.out hg) hg (by have := H1.out; rw [HES.out] at this; exact this) (by omega) (by simp only [List.length_append]; have := HT2.out; omega)))
          | (go_at_call 38; (refine C2.out.mono ?_); rintro e w3 ⟨rfl, h3, e3⟩; have H3 := Lib.hid h3; have E3 := Lib.hid (E1.out.trans e3); clear h3 e3))
        go_roundw
        case rel => exact ⟨k + 1, _, by go_num, by omega, by rw [HFr.out, HD1.out]; simp only [List.append_assoc]; rw [decide_eq_false (by omega : ¬ k + 1 = 0)], H3.out, E3.out⟩
        case measure => simp [intOf]; omega
    · have hk' : k = ks.length := by omega
      have hd : ks.drop k = [] := by rw [hk']; exact List.drop_length
      rw [hd] at HW HFr l2
      have hkz : (ks.length : Int) ≤ (k : Int) := by omega
      go_wp2
      go_end0
      have hf := HFr.out
      rw [show kidsT (decide (k = 0)) (ns.drop k) [] = [] by simp [kidsT], List.append_nil] at hf
      rw [hf]
      exact ⟨rfl, by have := HW.out; simpa [sizeK] using this, HE.out.trans HEr.out⟩
end Sh
end Go.Proofs.YtnnnjonodnkccaaGreatDoor
