/- sortNames at api.Named: the walk. -/
import Derived.Test.YtnnnjonodnkccaaGreatDoorSSortN
namespace Go.Proofs.YtnnnjonodnkccaaGreatDoor
open Go.RowKit Go.Sort Go.Lib Go.Shelf
namespace Sh
open Sc

/-- What sortNames leaves. -/
def NamesPostN (w : World) (rb : Nat) (r : R) (base : Nat) (v : Value) (l : List (List UInt8 × (C4 × Ty))) (e : Ending) (w' : World) : Prop :=
  e = .returned (.tuple #[]) ∧ ∃ l' : List (List UInt8 × (C4 × Ty)), l'.Perm l ∧ Rises l' ∧ w'.ownsRow base 59 5 v l.length (l'.flatMap encN) ∧ RdE w' rb (r.both (dup (l.map (·.1)))) ∧ But rb v.ownBlock w w'

def NRelN (w2 : World) (rb : Nat) (r : R) (ns : List (List UInt8)) (i : Value) (wr : World) (k : Nat) : Prop :=
  1 ≤ k ∧ i = .int .i64 k ∧ (k ≤ ns.length ∨ k = 1) ∧ RdE wr rb (r.both ((List.range (k - 1)).any fun i => decide (ns[i]! = ns[i + 1]!))) ∧ Only rb w2 wr

theorem both_or (r : R) (a b : Bool) : (r.both a).both b = r.both (a || b) := by unfold R.both; simp [Bool.or_assoc]

theorem row_cellsN {w : World} {base g cap : Nat} {n : Nat} {l : List (List UInt8 × (C4 × Ty))} (h : w.ownsRow base 59 5 (.slice (some ⟨g, 0, none⟩) n cap) n (l.flatMap encN)) (hn : l.length = n) (i : Nat) (hi : i < l.length) (j : Nat) (hj : j < 5) :
    w.cell? ⟨g, i * 5 + j, none⟩ = (encN l[i]!)[j]? := by
  rw [h.cellAt (i * 5 + j) (by omega)]
  exact flat_get encN 5 encN_len l i j hi hj

set_option maxRecDepth 100000 in
set_option maxHeartbeats 2000000 in
theorem sortNamesN (f : Nat) (ef : ∀ args w, (callFunc f args).run Tryz.prog w = .ok (.enter f args) w) (hK : KeyN f) (w : World) (rb : Nat) (r : R) (h : RdE w rb r) (base : Nat) (hb : rb < base) (hbw : base ≤ w.heap.size) (v : Value) (l : List (List UInt8 × (C4 × Ty)))
    (hown : w.ownsRow base 59 5 v l.length (l.flatMap encN)) (hl : l.length ≤ 1000000) :
    Calls Tryz.prog 34 #[.pointer (some ⟨rb, 0, none⟩), v, .func (.func f) #[] #[]] w (NamesPostN w rb r base v l) := by
  have hvb : ∀ k, v.ownBlock = some k → base ≤ k ∧ k < w.heap.size := hown.lt
  have C := sortFuncN f w.heap.size ef hK base v l (w.alloc (.cells #[.func (.func f) #[] #[]] 86)) (by simp) (by simp) (hown.alloc _) hl (fun e => by have := (hvb _ e).2; omega)
  have hR := h.keep ((Below.refl _ _).alloc (Nat.le_refl _) (.cells #[.func (.func f) #[] #[]] 86))
  have hrl := h.lt
  obtain ⟨a, c, rfl⟩ := own_slice hown
  have HC := Lib.hid C; have HR := Lib.hid hR; have HV := Lib.hid hvb
  clear C hR hvb hown h
  go_enter Tryz.func34, Tryz.ntmps34
  go_wp2_with (go_at_call 51; (with_reducible refine HC.out.mono ?_); rintro e w2 ⟨rfl, l', hp, hrs, hown2, hg2⟩)
  have hlen : l'.length = l.length := hp.length_eq
  have hgs := hg2.size
  simp at hgs
  have hbB : w2.heap[w.heap.size]? = some (.cells #[.func (.func f) #[] #[]] 86 (0, 0)) := by
    rw [hg2.block _ (by simp) (fun e => by have := (HV.out _ e.symm).2; omega)]; exact heap_alloc_new w _
  have hR2 : RdE w2 rb r := HR.out.row hg2 (fun k e => by have := (HV.out k e).1; omega)
  have hbut : But rb (Value.slice a l.length c).ownBlock w w2 := (But.of_only (Only.alloc rb w _)).trans (But.of_grown hg2)
  have hdn := dup_near (l'.map (·.1)) (by have := hrs; unfold Rises at this; rw [List.pairwise_map]; exact this)
  rw [dup_perm (hp.map (·.1)), List.length_map] at hdn
  have HP := Lib.hid hp; have HS := Lib.hid hrs; have HO := Lib.hid hown2; have HB := Lib.hid hbB; have H2 := Lib.hid hR2; have HU := Lib.hid hbut; have HD := Lib.hid hdn
  clear hp hrs hown2 hbB hR2 hbut hdn hg2 HC HR
  have hrlt : rb < w2.heap.size := by omega
  go_loopw [6] (fun i wr => ∃ k, NRelN w2 rb r (l'.map (·.1)) i wr k) (fun i _ => l.length - (intOf i).toNat)
  case atStart => exact ⟨1, Nat.le_refl _, rfl, .inr rfl, by have := H2.out; simpa [R.both] using this, Only.refl _ _⟩
  case round =>
    obtain ⟨k, hk1, rfl, hk2, hR, hO⟩ := hrel
    rw [List.length_map] at hk2
    by_cases hlt : k < l.length
    · obtain ⟨k, rfl⟩ : ∃ j, k = j + 1 := ⟨k - 1, by omega⟩
      have hown3 : wr.ownsRow base 59 5 (.slice a l.length c) l.length (l'.flatMap encN) := by
        refine HO.out.kept hO ?_
        cases hv : (Value.slice a l.length c).ownBlock with
        | none => exact .inl rfl
        | some g => refine .inr fun e => ?_; cases e; have := (HV.out _ hv).1; omega
      obtain ⟨g, rfl⟩ : ∃ g, a = some ⟨g, 0, none⟩ := by
        rcases HO.out.2 with ⟨_, h0⟩ | ⟨g, cap, _, e, _⟩
        · omega
        · cases e; exact ⟨g, rfl⟩
      have hgl : g < wr.heap.size := (hown3.lt _ rfl).2
      have hBl : w.heap.size < wr.heap.size := by have := hO.size; omega
      have gx : ∀ n os j u, (encN l'[k]!)[j]? = some u → (grow (wr.drewN n) os).cell? ⟨g, k * 5 + j, none⟩ = some u := fun n os j u hu => by
        refine cell_grown hgl ?_ n os
        have hj : j < 5 := by have := (List.getElem?_eq_some_iff.1 hu).1; rw [encN_len] at this; exact this
        rw [row_cellsN hown3 hlen k (by omega) j hj]; exact hu
      have gy : ∀ n os j u, (encN l'[k + 1]!)[j]? = some u → (grow (wr.drewN n) os).cell? ⟨g, (k + 1) * 5 + j, none⟩ = some u := fun n os j u hu => by
        refine cell_grown hgl ?_ n os
        have hj : j < 5 := by have := (List.getElem?_eq_some_iff.1 hu).1; rw [encN_len] at this; exact this
        rw [row_cellsN hown3 hlen (k + 1) (by omega) j hj]; exact hu
      have hf : ∀ n os, (grow (wr.drewN n) os).cell? ⟨w.heap.size, 0, none⟩ = some (.func (.func f) #[] #[]) := fun n os => by
        refine cell_grown hBl ?_ n os
        rw [hO.cell (by omega) (by omega)]
        simp [World.cell?, HB.out]
      have kx := fun n os => Calls.grown_of (w := wr) (n := n) (os := os) (hK l'[k]! (grow (wr.drewN n) os))
      have ky := fun n os => Calls.grown_of (w := wr) (n := n) (os := os) (hK l'[k + 1]! (grow (wr.drewN n) os))
      have hn1 : (l'.map (·.1))[k]! = l'[k]!.1 := by rw [getElem!_pos _ k (by rw [List.length_map]; omega), getElem!_pos l' k (by omega), List.getElem_map]
      have hn2 : (l'.map (·.1))[k + 1]! = l'[k + 1]!.1 := by rw [getElem!_pos _ (k + 1) (by rw [List.length_map]; omega), getElem!_pos l' (k + 1) (by omega), List.getElem_map]
      have hq : ((List.range (k + 1)).any fun i => decide ((l'.map (·.1))[i]! = (l'.map (·.1))[i + 1]!)) = (((List.range k).any fun i => decide ((l'.map (·.1))[i]! = (l'.map (·.1))[i + 1]!)) || decide (l'[k]!.1 = l'[k + 1]!.1)) := by
        rw [List.range_succ, List.any_append, List.any_cons, List.any_nil, Bool.or_false, hn1, hn2]
      rw [Nat.add_sub_cancel] at hR
      have HQ := Lib.hid hq; have HR := Lib.hid hR; have HOn := Lib.hid hO
      clear hq hR hO hn1 hn2 hown3
      generalize (List.range k).any (fun i => decide ((l'.map (·.1))[i]! = (l'.map (·.1))[i + 1]!)) = q at *
      obtain ⟨q2, hq2⟩ : ∃ q2, (List.range (k + 1)).any (fun i => decide ((l'.map (·.1))[i]! = (l'.map (·.1))[i + 1]!)) = q2 := ⟨_, rfl⟩
      have HQ2 := Lib.hid hq2
      rw [hq2] at HQ
      clear hq2
      generalize l'[k]! = x at *
      generalize l'[k + 1]! = y at *
      have gx0 : ∀ n os, (grow (wr.drewN n) os).cell? ⟨g, k * 5, none⟩ = (encN x)[0]? := fun n os => gx n os 0 _ rfl
      have gx1 := fun n os => gx n os 1 _ rfl
      have gx2 := fun n os => gx n os 2 _ rfl
      have gx3 := fun n os => gx n os 3 _ rfl
      have gx4 := fun n os => gx n os 4 _ rfl
      have gy0 : ∀ n os, (grow (wr.drewN n) os).cell? ⟨g, (k + 1) * 5, none⟩ = (encN y)[0]? := fun n os => gy n os 0 _ rfl
      have gy1 := fun n os => gy n os 1 _ rfl
      have gy2 := fun n os => gy n os 2 _ rfl
      have gy3 := fun n os => gy n os 3 _ rfl
      have gy4 := fun n os => gy n os 4 _ rfl
      clear gx gy
      obtain ⟨n, ⟨kd, nm, an, ln, cn, ak, lk, ck⟩, t⟩ := x
      obtain ⟨n2, ⟨kd2, nm2, an2, ln2, cn2, ak2, lk2, ck2⟩, t2⟩ := y
      simp only [encN, C4.cells, str, List.getElem?_cons_zero] at gx0 gx1 gx2 gx3 gx4 gy0 gy1 gy2 gy3 gy4 kx ky
      have KX := Lib.hid kx; have KY := Lib.hid ky; clear kx ky
      have mixed : Tryz.prog.follows .mixedOrders = true := by kernel_rfl
      have hwp : IntKind.i64.wrap (k : Int) = (k : Int) := by rw [IntKind.wrap_i64]; omega
      have jz : (k : Int) + 1 < (l.length : Int) := by omega
      have jz1 : (k : Int) < (l.length : Int) := by omega
      have p0 : (0 : Int) ≤ (k : Int) + 1 := by omega
      have e0 : ((k : Int) + 1).toNat = k + 1 := by omega
      by_cases hnn : n = n2
      · have te : (n == n2) = true := by simp [hnn]
        have HN := Lib.hid hnn; clear hnn
        go_wp2_with fail
        go_quiet_grown (first | (go_at_fn f; first | exact KX.out _ _ | exact KY.out _ _))
        have hR4 : RdE (grow (wr.drewN nq) osq) rb (r.both q) := HR.out.keep (below_grow wr nq osq)
        obtain ⟨a4, c4, h4⟩ := hR4
        have hb4 := h4.blk
        obtain ⟨⟨c0, c1, c2⟩, f0, f1, f2⟩ := three_blk hb4
        have H4 := Lib.hid h4; have HB4 := Lib.hid hb4
        clear h4 hb4
        go_wp2
        go_roundw
        case rel =>
          refine ⟨k + 2, by omega, by go_num, .inl (by rw [List.length_map]; omega), ?_, ((HOn.out.trans (Only.of_below (below_grow wr nq osq))).setCell _ _)⟩
          rw [show k + 2 - 1 = k + 1 by omega, HQ2.out, HQ.out, decide_eq_true HN.out, Bool.or_true]
          exact ⟨a4, c4, by have := twice_set H4.out; unfold R.both; rw [Bool.or_true]; exact this⟩
        case measure => simp [intOf]; omega
      · have te : (n == n2) = false := by simp [hnn]
        have HN := Lib.hid hnn; clear hnn
        go_wp2_with fail
        go_quiet_grown (first | (go_at_fn f; first | exact KX.out _ _ | exact KY.out _ _))
        have hR4 : RdE (grow (wr.drewN nq) osq) rb (r.both q) := HR.out.keep (below_grow wr nq osq)
        have H4 := Lib.hid hR4
        clear hR4
        go_wp2
        go_roundw
        case rel =>
          refine ⟨k + 2, by omega, by go_num, .inl (by rw [List.length_map]; omega), ?_, HOn.out.trans (Only.of_below (below_grow wr nq osq))⟩
          rw [show k + 2 - 1 = k + 1 by omega, HQ2.out, HQ.out, decide_eq_false HN.out, Bool.or_false]
          exact H4.out
        case measure => simp [intOf]; omega
    · have hkz : (l.length : Int) ≤ (k : Int) := by omega
      have HR := Lib.hid hR; have HOn := Lib.hid hO; clear hR hO
      go_wp2
      go_end0
      refine ⟨rfl, l', HP.out, HS.out, ?_, ?_, HU.out.trans (But.of_only HOn.out)⟩
      · refine HO.out.kept HOn.out ?_
        cases hv : (Value.slice a l.length c).ownBlock with
        | none => exact .inl rfl
        | some g => refine .inr fun e => ?_; cases e; have := (HV.out _ hv).1; omega
      · rw [HD.out]
        have e : k - 1 = l'.length - 1 := by omega
        rw [← e]; exact HR.out
end Sh
end Go.Proofs.YtnnnjonodnkccaaGreatDoor
