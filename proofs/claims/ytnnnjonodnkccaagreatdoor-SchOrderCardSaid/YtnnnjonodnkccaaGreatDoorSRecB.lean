/- record: its fields, by names. -/
import Derived.Test.YtnnnjonodnkccaaGreatDoorSRec
namespace Go.Proofs.YtnnnjonodnkccaaGreatDoor
open Go.RowKit
namespace Sh
open Sc

/-- What record leaves: names and kids of a type, whatever its kind. -/
def RecP (w : World) (rb : Nat) (x : List (List UInt8 × Ty) × R) (e : Ending) (w' : World) : Prop :=
  ∃ an ln cn ak lk ck, e = .returned (.tuple #[.slice an ln cn, .slice ak lk ck]) ∧ RdE w' rb (x.2.both (dup (x.1.map (·.1)))) ∧ Only rb w w' ∧
    ∀ k : Nat, TyV w' (Span w.heap.size w'.heap.size) (recOf k x.1) ⟨k, ⟨#[]⟩, an, ln, cn, ak, lk, ck⟩

theorem own_cells {w : World} {base : Nat} {e : TypeId} {size : Nat} {a : Option Addr} {n c : Nat} {xs : List Value} {S : Nat → Prop} (h : w.ownsRow base e size (.slice a n c) n xs) (hS : ∀ g, base ≤ g → g < w.heap.size → S g) : Cells w S a xs := by
  rcases h.2 with ⟨hv, h0⟩ | ⟨g, cap, cur, hv, hb, hg, _⟩
  · left; apply List.eq_nil_of_length_eq_zero; rw [h.1, h0, Nat.zero_mul]
  · have hlt : g < w.heap.size := (Array.getElem?_eq_some_iff.1 hg).1
    cases hv
    refine .inr ⟨g, rfl, hS g hb hlt, fun j u hu => ?_⟩
    have := h.cells (g := g) rfl j u hu
    rw [addr_add] at this
    exact this

/-- Two rows that a loop gathers: names, and types. -/
structure Two (w4 wr : World) (l : List (List UInt8 × (C4 × Ty))) (nv kv : Value) : Prop where
  names : wr.ownsRow w4.heap.size 9 1 nv l.length (l.map fun y => str y.1)
  kids : wr.ownsRow w4.heap.size 29 4 kv l.length (l.flatMap fun y => y.2.1.cells)
  apart : ∀ g, nv.ownBlock = some g → kv.ownBlock ≠ some g
  bel : Below w4.heap.size w4 wr

theorem Two.start (w4 : World) : Two w4 w4 [] (.slice none 0 0) (.slice none 0 0) := ⟨World.ownsRow_nil _ _ _ _, World.ownsRow_nil _ _ _ _, fun _ h => by simp [Value.ownBlock] at h, Below.refl _ _⟩

/-- A name more. -/
theorem Two.name {w4 wr w5 : World} {l : List (List UInt8 × (C4 × Ty))} {nv kv v' : Value} (h : Two w4 wr l nv kv) (o1 o2 : Obj) (y : List UInt8 × (C4 × Ty)) 
    (hown : w5.ownsRow w4.heap.size 9 1 v' (l.length + 1) ((l.map fun y => str y.1) ++ [str y.1])) (hg : ((wr.alloc o1).alloc o2).grownBy w5 nv.ownBlock) (hf : ∀ k, v'.ownBlock = some k → nv.ownBlock = some k ∨ ((wr.alloc o1).alloc o2).heap.size ≤ k) :
    w5.ownsRow w4.heap.size 9 1 v' (l.length + 1) ((l ++ [y]).map fun y => str y.1) ∧ w5.ownsRow w4.heap.size 29 4 kv l.length (l.flatMap fun y => y.2.1.cells) ∧
    (∀ g, v'.ownBlock = some g → kv.ownBlock ≠ some g) ∧ Below w4.heap.size w4 w5 ∧ (∀ b, b < wr.heap.size + 2 → nv.ownBlock ≠ some b → w5.heap[b]? = ((wr.alloc o1).alloc o2).heap[b]?) := by
  have hs := h.bel.size
  refine ⟨by rw [List.map_append]; exact hown, ?_, ?_, ?_, ?_⟩
  · refine ((h.kids.alloc o1).alloc o2).kept hg ?_
    cases hk : kv.ownBlock with
    | none => exact .inl rfl
    | some g => exact .inr fun e => h.apart g e.symm hk
  · intro g e hk
    have := (h.kids.lt g hk).2
    rcases hf g e with e | e
    · exact h.apart g e hk
    · simp at e; omega
  · exact ((h.bel.alloc hs o1).alloc (by simp; omega) o2).grown hg (by simp; omega) (fun k e => (h.names.lt k e).1)
  · intro b hb hn
    exact hg.block b (by simp; omega) (fun e => hn e.symm)

theorem Two.kid {w4 wr w5 w6 : World} {l : List (List UInt8 × (C4 × Ty))} {nv kv v' v'' : Value} (h : Two w4 wr l nv kv) (y : List UInt8 × (C4 × Ty)) (o : Obj) (hs5 : wr.heap.size ≤ w5.heap.size)
    (hown : w5.ownsRow w4.heap.size 9 1 v' (l.length + 1) ((l ++ [y]).map fun y => str y.1)) (hap : ∀ g, v'.ownBlock = some g → kv.ownBlock ≠ some g) (hbel : Below w4.heap.size w4 w5)
    (hown2 : w6.ownsRow w4.heap.size 29 4 v'' (l.length + 1) ((l.flatMap fun y => y.2.1.cells) ++ y.2.1.cells)) (hg : (w5.alloc o).grownBy w6 kv.ownBlock) (hf : ∀ k, v''.ownBlock = some k → kv.ownBlock = some k ∨ (w5.alloc o).heap.size ≤ k) :
    Two w4 w6 (l ++ [y]) v' v'' := by
  have hs := hbel.size
  refine ⟨?_, by rw [List.flatMap_append, List.length_append]; simpa using hown2, ?_, ?_⟩
  · rw [List.length_append]
    refine (hown.alloc o).kept hg ?_
    cases hk : v'.ownBlock with
    | none => exact .inl rfl
    | some g => exact .inr fun e => hap g hk e.symm
  · intro g e hk
    have := (hown.lt g e).2
    rcases hf g hk with e2 | e2
    · exact hap g e e2
    · simp at e2; omega
  · exact (hbel.alloc hs o).grown hg (by simp; omega) (fun k e => (h.kids.lt k e).1)

def TwoRel (w4 : World) (l : List (List UInt8 × (C4 × Ty))) (nv kv i : Value) (wr : World) (k : Nat) (l1 : List (List UInt8 × (C4 × Ty))) : Prop :=
  i = .int .i64 k ∧ k ≤ l.length ∧ l.take k = l1 ∧ Two w4 wr l1 nv kv

theorem own_below {w w' : World} {base : Nat} {e : TypeId} {size : Nat} {v : Value} {n : Nat} {xs : List Value} (h : w.ownsRow base e size v n xs) (hb : Below w.heap.size w w') : w'.ownsRow base e size v n xs := by
  refine h.kept (row := none) ⟨hb.os, hb.tape, hb.output, hb.size, fun k hk _ => hb.block k hk⟩ ?_
  cases v.ownBlock <;> simp
theorem cells_new1 (w : World) (o : Obj) (l : List Value) (t : TypeId) : ∀ (j : Nat) (u : Value), l[j]? = some u → ((w.alloc o).alloc (.cells l.toArray t)).cell? ((⟨w.heap.size + 1, 0, none⟩ : Addr).add j) = some u := by
  have h := cells_new (w.alloc o) l t
  rw [show (w.alloc o).heap.size = w.heap.size + 1 by simp] at h
  exact h
theorem below_only {rb B : Nat} {w w' : World} (h : Below B w w') (hb : w.heap.size ≤ B) : Only rb w w' := ⟨h.os, h.tape, h.output, h.size, fun k hk _ => h.block k (Nat.lt_of_lt_of_le hk hb)⟩

/-- The type that the two rows make. -/
theorem rec_ty {w : World} {S : Nat → Prop} {l' : List (List UInt8 × (C4 × Ty))} {x : List (List UInt8 × Ty)} (hp : (l'.map fun y => (y.1, y.2.2)).Perm x) (hr : Rises l') {an ak : Option Addr} {cn ck : Nat}
    (hn : Cells w S an (l'.map fun y => str y.1)) (hk : Cells w S ak (l'.flatMap fun y => y.2.1.cells)) (hv : ∀ y ∈ l', TyV w S y.2.2 y.2.1) (k : Nat) :
    TyV w S (recOf k x) ⟨k, ⟨#[]⟩, an, l'.length, cn, ak, l'.length, ck⟩ := by
  unfold recOf
  cases hd : dup (x.map (·.1))
  · rw [if_neg (by decide)]
    have e := isort_uniq x (l'.map fun y => (y.1, y.2.2)) hd hp (by unfold Rises at hr ⊢; rw [List.pairwise_map]; exact hr)
    rw [← e, List.map_map, List.map_map]
    have h := TyV.mk (w := w) (S := S) k [] (l'.map fun y => y.1) (l'.map fun y => y.2.2) an cn ak ck (l'.map fun y => y.2.1) (by simp) (by rw [List.map_map]; exact hn) (by rw [List.flatMap_map]; exact hk)
      (fun i hi hi' => by rw [List.getElem_map, List.getElem_map]; exact hv _ (List.getElem_mem _))
    rw [List.length_map, List.length_map] at h
    exact h
  · rw [if_pos rfl]; exact .any _

theorem take_bang (l : List (List UInt8 × (C4 × Ty))) (k : Nat) (h : k < l.length) : l.take (k + 1) = l.take k ++ [l[k]!] := by
  rw [List.take_succ_eq_append_getElem h, getElem!_pos l k h]

theorem infoStr : (Tryz.prog.info? 9).map (fun i => (i.zero, i.size, i.bytes)) = some (some (.string ⟨#[]⟩), 1, 16) := by kernel_rfl
theorem infoTy : (Tryz.prog.info? 29).map (fun i => (i.zero, i.size, i.bytes)) = some (some (.agg #[.int .i64 0, .string ⟨#[]⟩, .slice none 0 0, .slice none 0 0]), 4, 72) := by kernel_rfl

set_option maxRecDepth 100000 in
set_option maxHeartbeats 4000000 in
theorem record_any (w : World) (rb d : Nat) (r : R) (h : RdE w rb r) (hL : LookTab w) (hg : 0 ≠ rb) (hw : r.words.length ≤ 1000)
    (read : R → Ty × R) (hle : ∀ r, (read r).2.words.length ≤ r.words.length) (hread : ∀ w' r', LookTab w' → RdE w' rb r' → r'.words.length ≤ 1000 → Calls Tryz.prog 29 #[.pointer (some ⟨rb, 0, none⟩), .int .i64 d] w' (TyP w' rb (read r'))) :
    Calls Tryz.prog 49 #[.pointer (some ⟨rb, 0, none⟩), .int .i64 d] w (RecP w rb (listR [123] [125] (fieldR read) r)) := by
  have hrb := h.lt
  have b0 : ((w.alloc (.cells #[.pointer (some ⟨rb, 0, none⟩)] 54)).alloc (.cells #[.int .i64 d] 3)).heap[w.heap.size]? = some (.cells #[.pointer (some ⟨rb, 0, none⟩)] 54 (0, 0)) := by
    rw [Below.heap_alloc _ _ _ (by simp)]; exact heap_alloc_new w _
  have b1 : ((w.alloc (.cells #[.pointer (some ⟨rb, 0, none⟩)] 54)).alloc (.cells #[.int .i64 d] 3)).heap[w.heap.size + 1]? = some (.cells #[.int .i64 d] 3 (0, 0)) := by
    have := heap_alloc_new (w.alloc (.cells #[.pointer (some ⟨rb, 0, none⟩)] 54)) (.cells #[.int .i64 d] 3)
    rwa [show (w.alloc (.cells #[.pointer (some ⟨rb, 0, none⟩)] 54)).heap.size = w.heap.size + 1 by simp] at this
  have hbel : Below w.heap.size w ((w.alloc (.cells #[.pointer (some ⟨rb, 0, none⟩)] 54)).alloc (.cells #[.int .i64 d] 3)) := ((Below.refl _ _).alloc (Nat.le_refl _) _).alloc (by simp) _
  have hsz : ((w.alloc (.cells #[.pointer (some ⟨rb, 0, none⟩)] 54)).alloc (.cells #[.int .i64 d] 3)).heap.size = w.heap.size + 2 := by simp
  generalize hw2 : (w.alloc (.cells #[.pointer (some ⟨rb, 0, none⟩)] 54)).alloc (.cells #[.int .i64 d] 3) = w2 at b0 b1 hbel hsz
  have C1 := listN_any w2 rb r (h.keep hbel) hw [123] [125] (fieldR read) (fieldR_le read hle) w.heap.size (w.heap.size + 1)
    (fun w' => LookTab w' ∧ w'.heap[w.heap.size]? = some (.cells #[.pointer (some ⟨rb, 0, none⟩)] 54 (0, 0)) ∧ w'.heap[w.heap.size + 1]? = some (.cells #[.int .i64 d] 3 (0, 0)))
    ⟨hL.below hbel, b0, b1⟩ (fun w w' hi ho => ⟨hi.1.only ho hg, ho.blk hi.2.1 (by omega), ho.blk hi.2.2 (by omega)⟩)
    (fun w' r' hi hr hwd => field_any w' rb _ _ d r' hr hi.1 hg hwd _ _ hi.2.1 hi.2.2 ⟨by omega, by omega⟩ read hread)
  subst hw2
  generalize listR [123] [125] (fieldR read) r = full at *
  have c0 := one_blk b0
  have HC := Lib.hid C1; have B0 := Lib.hid b0; have HBL := Lib.hid hbel; have HSZ := Lib.hid hsz
  clear C1 hread b0 b1 hbel h hL hsz
  go_enter Tryz.func49, Tryz.ntmps49
  have ef : ∀ args w, (callFunc 69 args).run Tryz.prog w = .ok (.enter 69 args) w := enters_of Tryz.func69 (by kernel_rfl) rfl
  go_wp2_with (first
    | (go_at_call 67; (refine HC.out.mono ?_); rintro e w3 ⟨v, l, rfl, hl, hR, hm, hln⟩; obtain ⟨a, c, rfl⟩ := own_slice hm.own; have c3 := one_blk (hm.only.blk B0.out (by omega)); have h3s := hm.only.size; have HS := Lib.hid (sortNamesN 69 ef key_record2 w3 rb full.2 hR _ (by have := HSZ.out; omega) h3s (.slice a l.length c) l hm.own (by omega)); have HLL := Lib.hid hl; have HM := Lib.hid hm; clear hl hm hR)
    | (go_at_call 34; (refine HS.out.mono ?_); rintro e w4 ⟨rfl, l', hp, hrs, hown, hR4, hbut⟩; have HP := Lib.hid hp; have HRS := Lib.hid hrs; have HO := Lib.hid hown; have HR4 := Lib.hid hR4; have HBU := Lib.hid hbut; have hlen := hp.length_eq; clear hp hrs hown hR4 hbut))
  have HLEN := Lib.hid hlen; clear hlen
  go_loopw [4, 5, 17] (fun nv kv i wr => ∃ k l1, TwoRel w4 l' nv kv i wr k l1) (fun _ _ i _ => l.length - (intOf i).toNat)
  case atStart => exact ⟨0, [], rfl, Nat.zero_le _, rfl, Two.start w4⟩
  case round =>
    obtain ⟨k, l1, rfl, hk, htk, hT⟩ := hrel
    rw [HLEN.out] at hk
    have hl1 : l1.length ≤ 2000 := by rw [← htk, List.length_take]; omega
    obtain ⟨na, nc, rfl⟩ := own_slice hT.names
    obtain ⟨ka, kc, rfl⟩ := own_slice hT.kids
    have HT := Lib.hid hT; have HTK := Lib.hid htk
    clear hT htk
    by_cases hlt : k < l.length
    · have hlt' : k < l'.length := by rw [HLEN.out]; exact hlt
      have hrow := own_below HO.out HT.out.bel
      obtain ⟨g, rfl⟩ : ∃ g, a = some ⟨g, 0, none⟩ := by
        rcases HO.out.2 with ⟨_, h0⟩ | ⟨g, cap, _, e, _⟩
        · omega
        · cases e; exact ⟨g, rfl⟩
      have cx := fun j hj => row_cellsN hrow HLEN.out k hlt' j hj
      have cx0 : wr.cell? ⟨g, k * 5, none⟩ = (encN l'[k]!)[0]? := cx 0 (by decide)
      have cx1 := cx 1 (by decide)
      have cx2 := cx 2 (by decide)
      have cx3 := cx 3 (by decide)
      have cx4 := cx 4 (by decide)
      have htb := take_bang l' k hlt'
      rw [HTK.out] at htb
      have HTB := Lib.hid htb
      clear cx hrow htb HS
      generalize l'[k]! = y at *
      obtain ⟨n, ⟨kd, nm, an, ln, cn, ak, lk, ck⟩, tt⟩ := y
      simp only [encN, C4.cells, str, List.getElem?_cons_zero, List.getElem?_cons_succ] at cx0 cx1 cx2 cx3 cx4
      obtain ⟨i0, hi, hz0', hz1', hz2'⟩ := info_parts infoStr
      obtain ⟨j0, hj, hy0', hy1', hy2'⟩ := info_parts infoTy
      have h4s := HT.out.bel.size
      go_wp2_with (first
        | (at_builtin; (refine wpList_append_fresh rfl _ _ 24 rfl w4.heap.size 9 i0 (.string ⟨#[]⟩) 1 16 Tryz.underlying24 hi hz0' hz1' hz2' rfl (by decide) _ _ _ rfl ((HT.out.names.alloc _).alloc _) ⟨wr.heap.size + 1, 0, none⟩ 1 1 [.string ⟨n.toArray⟩] rfl rfl (cells_new1 _ _ _ _) (fun x hx => by simp at hx; subst hx; rfl) (by unfold maxLen; omega) (by omega) (by simp; omega) ?_); intro v' w5 hown' hgrow hfr; have h5 := HT.out.name _ _ (n, ⟨kd, nm, an, ln, cn, ak, lk, ck⟩, tt) hown' hgrow hfr; have hgs := hgrow.size; simp at hgs; obtain ⟨na', nc', rfl⟩ := own_slice h5.1; obtain ⟨⟨q0, q1, q2, q3, q4⟩, ⟨z0, z1, z2, z3, z4⟩, hq⟩ := five_blk ((h5.2.2.2.2 wr.heap.size (by omega) (fun e => by have := (HT.out.names.lt _ e).2; omega)).trans ((Below.heap_alloc _ _ _ (by simp)).trans (heap_alloc_new wr _))); have H5 := Lib.hid h5; clear hown' hgrow hfr h5)
        | (at_builtin; (refine wpList_append_fresh rfl _ _ 27 rfl w4.heap.size 29 j0 (.agg #[.int .i64 0, .string ⟨#[]⟩, .slice none 0 0, .slice none 0 0]) 4 72 Tryz.underlying27 hj hy0' hy1' hy2' rfl (by decide) _ _ _ rfl (H5.out.2.1.alloc _) ⟨w5.heap.size, 0, none⟩ 1 1 [.int .i64 kd, .string nm, .slice an ln cn, .slice ak lk ck] rfl rfl (cells_new _ _ _) (fun x hx => by simp at hx; rcases hx with rfl | rfl | rfl | rfl <;> rfl) (by unfold maxLen; omega) (by omega) (by simp; omega) ?_); intro v'' w6 hown2 hgrow2 hfr2; have H6 := Lib.hid (HT.out.kid (n, ⟨kd, nm, an, ln, cn, ak, lk, ck⟩, tt) _ (by omega) H5.out.1 H5.out.2.2.1 H5.out.2.2.2.1 hown2 hgrow2 hfr2); clear hown2 hgrow2 hfr2))
      go_roundw
      case rel => exact ⟨k + 1, _, by go_num, by omega, HTB.out, H6.out⟩
      case measure => simp [intOf]; omega
    · obtain rfl : k = l.length := by omega
      have hl1' : l1 = l' := by rw [← HTK.out, List.take_of_length_le (by rw [HLEN.out]; exact Nat.le_refl _)]
      subst hl1'
      go_wp2
      go_ret2
      have hM := HM.out
      have hws : w.heap.size + 2 ≤ w3.heap.size := by have := hM.only.size; have := HSZ.out; omega
      have hS4 := HBU.out.size
      have hbel := HT.out.bel
      have hSr := hbel.size
      have o4 : Only rb w w4 := HBU.out.only ((Only.of_below HBL.out).trans hM.only) (fun k e => by have := (hM.own.lt k e).1; have := HSZ.out; omega)
      have hfst : full.1.map (·.1) = l.map (·.1) := by rw [← HLL.out, List.map_map]; rfl
      refine ⟨na, _, nc, ka, _, kc, rfl, ?_, o4.trans (Only.of_below hbel), fun kk => ?_⟩
      · rw [hfst]; exact HR4.out.keep hbel
      · obtain ⟨S, s1, s2, s3⟩ := hM.far
        have hp : (l1.map fun y => (y.1, y.2.2)).Perm full.1 := by rw [← HLL.out]; exact HP.out.map _
        refine rec_ty hp HRS.out (own_cells HT.out.names fun g hg hl => ⟨by omega, hl⟩) (own_cells HT.out.kids fun g hg hl => ⟨by omega, hl⟩) (fun y hy => ?_) kk
        refine (s3 y (HP.out.mem_iff.1 hy)).keep (fun g hg => ⟨by have := (s1 g hg).1; have := HSZ.out; omega, by have := (s1 g hg).2; omega⟩) (fun g hg => ?_)
        have h1 := s1 g hg
        exact (hbel.block g (by omega)).trans (HBU.out.block g h1.2 (fun e => by have := HSZ.out; omega) (fun e => s2 g e.symm hg))
end Sh
end Go.Proofs.YtnnnjonodnkccaaGreatDoor
