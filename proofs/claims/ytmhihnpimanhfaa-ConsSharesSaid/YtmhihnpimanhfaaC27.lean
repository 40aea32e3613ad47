/- Tree: a type out of what it is made of. -/
import Derived.Test.YtmhihnpimanhfaaC26
namespace Go.Proofs.Ytmhihnpimanhfaa
open Go.RowKit
namespace Sp
open Sc
theorem wpOp_call {P : Program} {ops : Array Oper} {Q : Exit → Act → World → Prop} {i : Nat} {o : Oper} {a : Act} {w : World} {K : Act → World → Prop} (hi : ops[i]? = some o) (hg : o.guard = none) {f : FuncId} {args : Array Value} (hr : (execOp a.eval o).run P w = .ok (.enter f args) w) {R : Ending → World → Prop} (hC : Calls P f args w R) (hK : ∀ e w', R e w' → ∃ v, e = .returned v ∧ K (a.put o.dst v) w') : wpOp P ops Q i K a w :=
  wpOp_wp hi hg (by
    unfold Oper.wp
    rw [hr, Oper.upon_enter]
    exact hC.mono fun e w' h => by
      obtain ⟨v, rfl, hk⟩ := hK e w' h
      exact hk)
/-- The kind that comes out. -/
def topK (nn d : Nat) (kd : Int) : Int := if (1 + kd % 9 = 9 ∧ nn = 0) ∨ (d ≤ 1 ∧ 4 ≤ 1 + kd % 9 ∧ 1 + kd % 9 ≤ 8) then 2 else 1 + kd % 9
def fldN (ns : List Int) (i : Nat) : List UInt8 := match ns[i]? with | some z => nameL z | none => [117]
def fldM (k : Int) (ns : List Int) : Nat := max (min ns.length 4) (if k = 8 then 1 else 0)
def treeR (names : List (List UInt8)) : Nat → Rw → Tz
  | 0, .mk kd n _ _ => if topK names.length 0 kd = 9 then .mk 9 (names.getD (n % names.length).toNat []) [] [] else .mk (topK names.length 0 kd) [] [] []
  | d + 1, .mk kd n ns ks =>
    if topK names.length (d + 1) kd = 9 then .mk 9 (names.getD (n % names.length).toNat []) [] []
    else if topK names.length (d + 1) kd = 4 ∨ topK names.length (d + 1) kd = 5 ∨ topK names.length (d + 1) kd = 6 then
      (if topK names.length (d + 1) kd = 6 ∧ (treeR names d (kidR (.mk kd n ns ks) 0)).kind = 6 then treeR names d (kidR (.mk kd n ns ks) 0) else .mk (topK names.length (d + 1) kd) [] [] [treeR names d (kidR (.mk kd n ns ks) 0)])
    else if topK names.length (d + 1) kd = 7 ∨ topK names.length (d + 1) kd = 8 then
      (List.range (fldM (topK names.length (d + 1) kd) ns)).foldl (fun t i => putT (fldN ns i) (treeR names d (kidR (.mk kd n ns ks) i)) t) (.mk (topK names.length (d + 1) kd) [] [] [])
    else .mk (topK names.length (d + 1) kd) [] [] []
theorem topK_rng (nn d : Nat) (kd : Int) : 1 ≤ topK nn d kd ∧ topK nn d kd ≤ 9 := by
  unfold topK; split <;> omega
/-- A plain kind. -/
theorem treeR_leaf (names : List (List UInt8)) (d : Nat) (kd n : Int) (ns : List Int) (ks : List Rw) (h : topK names.length d kd ≤ 3) : treeR names d (.mk kd n ns ks) = .mk (topK names.length d kd) [] [] [] := by
  cases d with
  | zero => rw [treeR, if_neg (by omega)]
  | succ d => rw [treeR, if_neg (by omega), if_neg (by omega), if_neg (by omega)]
theorem treeR_name (names : List (List UInt8)) (d : Nat) (kd n : Int) (ns : List Int) (ks : List Rw) (h : topK names.length d kd = 9) : treeR names d (.mk kd n ns ks) = .mk 9 (names.getD (n % names.length).toNat []) [] [] := by
  cases d with
  | zero => rw [treeR, if_pos h]
  | succ d => rw [treeR, if_pos h]
theorem treeR_kid (names : List (List UInt8)) (d : Nat) (kd n : Int) (ns : List Int) (ks : List Rw) (k : Int) (hk : topK names.length (d + 1) kd = k) (h : 4 ≤ k ∧ k ≤ 6) : treeR names (d + 1) (.mk kd n ns ks) = if k = 6 ∧ (treeR names d (kidR (.mk kd n ns ks) 0)).kind = 6 then treeR names d (kidR (.mk kd n ns ks) 0) else .mk k [] [] [treeR names d (kidR (.mk kd n ns ks) 0)] := by
  rw [treeR, hk, if_neg (by omega), if_pos (by omega)]
theorem treeR_rec (names : List (List UInt8)) (d : Nat) (kd n : Int) (ns : List Int) (ks : List Rw) (k : Int) (hk : topK names.length (d + 1) kd = k) (h : 7 ≤ k ∧ k ≤ 8) : treeR names (d + 1) (.mk kd n ns ks) = (List.range (fldM k ns)).foldl (fun t i => putT (fldN ns i) (treeR names d (kidR (.mk kd n ns ks) i)) t) (.mk k [] [] []) := by
  rw [treeR, hk, if_neg (by omega), if_neg (by omega), if_pos (by omega)]
/-- What a call of Tree leaves. -/
def TreeP (t : Tz) (w : World) (e : Ending) (w' : World) : Prop := ∃ c : C4, e = .returned (.agg #[.int .i64 c.k, .string c.n, .slice c.an c.ln c.cn, .slice c.ak c.lk c.ck]) ∧ TzV w' (New w.heap.size w') t c ∧ Below w.heap.size w w'
def TreeC (d : Nat) : Prop := ∀ (r : Rw) (c : R4) (names : List (List UInt8)) (na : Option Addr) (nc : Nat) (w : World), RwV w r c → RowV w (Any w) na 1 (names.map fun n => [str n]) → names.length ≤ 1000 →
  Calls Try.prog 27 #[.agg #[.int .i64 c.k, .int .i64 c.n, .slice c.an c.ln c.cn, .slice c.ak c.lk c.ck], .int .i64 d, .slice na names.length nc] w (TreeP (treeR names d r) w)
/-- Things of a block of their own. -/
theorem RowV.blkN {w : World} {S : Nat → Prop} {g k : Nat} {t : TypeId} {fr : Nat × Nat} {l : List (List Value)} {cs : Array Value} (h : w.heap[g]? = some (.cells cs t fr)) (hc : cs = l.flatten.toArray) (hk : ∀ x ∈ l, x.length = k) (hS : S g) : RowV w S (some ⟨g, 0, none⟩) k l := by
  refine .inr ⟨g, 0, rfl, hS, fun i hi j v hv => ?_⟩
  have := flat_at l hk i hi j v hv
  rw [Nat.zero_add]
  subst hc
  simp [World.cell?, h, this]
theorem TzV.kidN {w : World} {S : Nat → Prop} {g : Nat} {ty : TypeId} {fr : Nat × Nat} {t : Tz} {c : C4} (k : Int) (h : w.heap[g]? = some (.cells #[.int .i64 c.k, .string c.n, .slice c.an c.ln c.cn, .slice c.ak c.lk c.ck] ty fr)) (hS : S g) (hV : TzV w S t c) :
    TzV w S (.mk k [] [] [t]) ⟨k, ⟨#[]⟩, none, 0, 0, some ⟨g, 0, none⟩, 1, 1⟩ :=
  .mk k [] [] [t] none 0 (some ⟨g, 0, none⟩) 1 [c] rfl (.inl rfl) (RowV.blkN (l := [c].map C4.cells) h rfl (cells4_len [c]) hS) (fun i h h' => by
    match i, h with
    | 0, _ => exact hV)
theorem RowV.up {w W : World} {a : Option Addr} {sz : Nat} {l : List (List Value)} (h : RowV w (Any w) a sz l) (hb : Below w.heap.size w W) : RowV W (Any W) a sz l := h.keep (fun _ hg => Nat.lt_of_lt_of_le hg hb.size) (fun g hg => hb.block g hg)
/-- What a callee made stays while one older block is written. -/
theorem TzV.past {a b g0 : Nat} {w W : World} {t : Tz} {c : C4} (h : TzV w (New b w) t c) (hab : a ≤ b) (ho : Only g0 w W) (hg : g0 < b) : TzV W (New a W) t c :=
  h.keep (fun _ hs => ⟨Nat.le_trans hab hs.1, Nat.lt_of_lt_of_le hs.2 ho.size⟩) (fun _ hs => ho.block _ hs.2 (fun e => by cases e; omega))
theorem TzV.kindZ {w : World} {S : Nat → Prop} {t : Tz} {c : C4} (h : TzV w S t c) : c.k = t.kind := by cases h; rfl
/-- A record's, a union's fields: names and kids, as many of both. -/
def EvenT : Tz → Nat → Prop
  | .mk _ _ ns ks, m => ns.length = ks.length ∧ ns.length ≤ m
theorem putT_even {n : List UInt8} {x t : Tz} {m : Nat} (h : EvenT t m) : EvenT (putT n x t) (m + 1) := by
  obtain ⟨k, nm, ns, ks⟩ := t
  obtain ⟨h1, h2⟩ := h
  rw [putT]
  split
  · exact ⟨h1, by omega⟩
  · have := posT_le ns n
    exact ⟨by simp; omega, by simp; omega⟩
end Sp
end Go.Proofs.Ytmhihnpimanhfaa
namespace Go.Proofs.Ytmhihnpimanhfaa
open Go.RowKit
namespace Sp
open Sc
set_option maxRecDepth 100000 in
set_option maxHeartbeats 8000000 in
theorem tree_0a (d : Nat) (_hd : d ≤ 1000) (kd n : Int) (ns : List Int) (ks : List Rw) (c : R4) (names : List (List UInt8)) (na : Option Addr) (nc : Nat) (w : World) (hV : RwV w (.mk kd n ns ks) c) (_hnl : names.length ≤ 1000) (hk0 : kd % 9 = 0) (hd1 : (d : Int) ≤ 1) :
    Calls Try.prog 27 #[.agg #[.int .i64 c.k, .int .i64 c.n, .slice c.an c.ln c.cn, .slice c.ak c.lk c.ck], .int .i64 d, .slice na names.length nc] w (TreeP (treeR names d (.mk kd n ns ks)) w) := by
  have hT : topK names.length d kd = 1 := by unfold topK; rw [hk0]; exact if_neg (by omega)
  rw [treeR_leaf names d kd n ns ks (by omega), hT]
  cases hV with
  | mk _ _ _ _ an cn ak ck us hk hn hii hln hlk hl ha hb hu =>
    obtain ⟨hkl, hkh⟩ := hk
    have HK0 := Lib.hid hk0
    clear hu hb ha hii hl hT hk0
    go_enter Try.func27, Try.ntmps27
    go_wp2_with (go_at_call 53; (with_reducible refine (within3_is _ _ _ _ (by omega) (by omega) hkl hkh HK0.out).mono ?_); rintro e w2 ⟨rfl, rfl⟩)
    refine bodyPost_ret (v := .agg #[.int .i64 1, .string ⟨#[]⟩, .slice none 0 0, .slice none 0 0]) (by simp [results, Try.results27, go_sem]) rfl ?_
    exact ⟨⟨1, ⟨#[]⟩, none, 0, 0, none, 0, 0⟩, rfl, TzV.leaf _ _ 1 [], (((Below.refl _ _).alloc (Nat.le_refl _) _).alloc (by simp) _).alloc (by simp; omega) _⟩
set_option maxRecDepth 100000 in
set_option maxHeartbeats 8000000 in
theorem tree_0b (d : Nat) (_hd : d ≤ 1000) (kd n : Int) (ns : List Int) (ks : List Rw) (c : R4) (names : List (List UInt8)) (na : Option Addr) (nc : Nat) (w : World) (hV : RwV w (.mk kd n ns ks) c) (_hnl : names.length ≤ 1000) (hk0 : kd % 9 = 0) (hd1 : ¬ (d : Int) ≤ 1) :
    Calls Try.prog 27 #[.agg #[.int .i64 c.k, .int .i64 c.n, .slice c.an c.ln c.cn, .slice c.ak c.lk c.ck], .int .i64 d, .slice na names.length nc] w (TreeP (treeR names d (.mk kd n ns ks)) w) := by
  have hT : topK names.length d kd = 1 := by unfold topK; rw [hk0]; exact if_neg (by omega)
  rw [treeR_leaf names d kd n ns ks (by omega), hT]
  cases hV with
  | mk _ _ _ _ an cn ak ck us hk hn hii hln hlk hl ha hb hu =>
    obtain ⟨hkl, hkh⟩ := hk
    have HK0 := Lib.hid hk0
    clear hu hb ha hii hl hT hk0
    go_enter Try.func27, Try.ntmps27
    go_wp2_with (go_at_call 53; (with_reducible refine (within3_is _ _ _ _ (by omega) (by omega) hkl hkh HK0.out).mono ?_); rintro e w2 ⟨rfl, rfl⟩)
    refine bodyPost_ret (v := .agg #[.int .i64 1, .string ⟨#[]⟩, .slice none 0 0, .slice none 0 0]) (by simp [results, Try.results27, go_sem]) rfl ?_
    exact ⟨⟨1, ⟨#[]⟩, none, 0, 0, none, 0, 0⟩, rfl, TzV.leaf _ _ 1 [], (((Below.refl _ _).alloc (Nat.le_refl _) _).alloc (by simp) _).alloc (by simp; omega) _⟩
set_option maxRecDepth 100000 in
set_option maxHeartbeats 8000000 in
theorem tree_1a (d : Nat) (_hd : d ≤ 1000) (kd n : Int) (ns : List Int) (ks : List Rw) (c : R4) (names : List (List UInt8)) (na : Option Addr) (nc : Nat) (w : World) (hV : RwV w (.mk kd n ns ks) c) (_hnl : names.length ≤ 1000) (hk0 : kd % 9 = 1) (hd1 : (d : Int) ≤ 1) :
    Calls Try.prog 27 #[.agg #[.int .i64 c.k, .int .i64 c.n, .slice c.an c.ln c.cn, .slice c.ak c.lk c.ck], .int .i64 d, .slice na names.length nc] w (TreeP (treeR names d (.mk kd n ns ks)) w) := by
  have hT : topK names.length d kd = 2 := by unfold topK; rw [hk0]; exact if_neg (by omega)
  rw [treeR_leaf names d kd n ns ks (by omega), hT]
  cases hV with
  | mk _ _ _ _ an cn ak ck us hk hn hii hln hlk hl ha hb hu =>
    obtain ⟨hkl, hkh⟩ := hk
    have HK0 := Lib.hid hk0
    clear hu hb ha hii hl hT hk0
    go_enter Try.func27, Try.ntmps27
    go_wp2_with (go_at_call 53; (with_reducible refine (within3_is _ _ _ _ (by omega) (by omega) hkl hkh HK0.out).mono ?_); rintro e w2 ⟨rfl, rfl⟩)
    refine bodyPost_ret (v := .agg #[.int .i64 2, .string ⟨#[]⟩, .slice none 0 0, .slice none 0 0]) (by simp [results, Try.results27, go_sem]) rfl ?_
    exact ⟨⟨2, ⟨#[]⟩, none, 0, 0, none, 0, 0⟩, rfl, TzV.leaf _ _ 2 [], (((Below.refl _ _).alloc (Nat.le_refl _) _).alloc (by simp) _).alloc (by simp; omega) _⟩
set_option maxRecDepth 100000 in
set_option maxHeartbeats 8000000 in
theorem tree_1b (d : Nat) (_hd : d ≤ 1000) (kd n : Int) (ns : List Int) (ks : List Rw) (c : R4) (names : List (List UInt8)) (na : Option Addr) (nc : Nat) (w : World) (hV : RwV w (.mk kd n ns ks) c) (_hnl : names.length ≤ 1000) (hk0 : kd % 9 = 1) (hd1 : ¬ (d : Int) ≤ 1) :
    Calls Try.prog 27 #[.agg #[.int .i64 c.k, .int .i64 c.n, .slice c.an c.ln c.cn, .slice c.ak c.lk c.ck], .int .i64 d, .slice na names.length nc] w (TreeP (treeR names d (.mk kd n ns ks)) w) := by
  have hT : topK names.length d kd = 2 := by unfold topK; rw [hk0]; exact if_neg (by omega)
  rw [treeR_leaf names d kd n ns ks (by omega), hT]
  cases hV with
  | mk _ _ _ _ an cn ak ck us hk hn hii hln hlk hl ha hb hu =>
    obtain ⟨hkl, hkh⟩ := hk
    have HK0 := Lib.hid hk0
    clear hu hb ha hii hl hT hk0
    go_enter Try.func27, Try.ntmps27
    go_wp2_with (go_at_call 53; (with_reducible refine (within3_is _ _ _ _ (by omega) (by omega) hkl hkh HK0.out).mono ?_); rintro e w2 ⟨rfl, rfl⟩)
    refine bodyPost_ret (v := .agg #[.int .i64 2, .string ⟨#[]⟩, .slice none 0 0, .slice none 0 0]) (by simp [results, Try.results27, go_sem]) rfl ?_
    exact ⟨⟨2, ⟨#[]⟩, none, 0, 0, none, 0, 0⟩, rfl, TzV.leaf _ _ 2 [], (((Below.refl _ _).alloc (Nat.le_refl _) _).alloc (by simp) _).alloc (by simp; omega) _⟩
set_option maxRecDepth 100000 in
set_option maxHeartbeats 8000000 in
theorem tree_2a (d : Nat) (_hd : d ≤ 1000) (kd n : Int) (ns : List Int) (ks : List Rw) (c : R4) (names : List (List UInt8)) (na : Option Addr) (nc : Nat) (w : World) (hV : RwV w (.mk kd n ns ks) c) (_hnl : names.length ≤ 1000) (hk0 : kd % 9 = 2) (hd1 : (d : Int) ≤ 1) :
    Calls Try.prog 27 #[.agg #[.int .i64 c.k, .int .i64 c.n, .slice c.an c.ln c.cn, .slice c.ak c.lk c.ck], .int .i64 d, .slice na names.length nc] w (TreeP (treeR names d (.mk kd n ns ks)) w) := by
  have hT : topK names.length d kd = 3 := by unfold topK; rw [hk0]; exact if_neg (by omega)
  rw [treeR_leaf names d kd n ns ks (by omega), hT]
  cases hV with
  | mk _ _ _ _ an cn ak ck us hk hn hii hln hlk hl ha hb hu =>
    obtain ⟨hkl, hkh⟩ := hk
    have HK0 := Lib.hid hk0
    clear hu hb ha hii hl hT hk0
    go_enter Try.func27, Try.ntmps27
    go_wp2_with (go_at_call 53; (with_reducible refine (within3_is _ _ _ _ (by omega) (by omega) hkl hkh HK0.out).mono ?_); rintro e w2 ⟨rfl, rfl⟩)
    refine bodyPost_ret (v := .agg #[.int .i64 3, .string ⟨#[]⟩, .slice none 0 0, .slice none 0 0]) (by simp [results, Try.results27, go_sem]) rfl ?_
    exact ⟨⟨3, ⟨#[]⟩, none, 0, 0, none, 0, 0⟩, rfl, TzV.leaf _ _ 3 [], (((Below.refl _ _).alloc (Nat.le_refl _) _).alloc (by simp) _).alloc (by simp; omega) _⟩
set_option maxRecDepth 100000 in
set_option maxHeartbeats 8000000 in
theorem tree_2b (d : Nat) (_hd : d ≤ 1000) (kd n : Int) (ns : List Int) (ks : List Rw) (c : R4) (names : List (List UInt8)) (na : Option Addr) (nc : Nat) (w : World) (hV : RwV w (.mk kd n ns ks) c) (_hnl : names.length ≤ 1000) (hk0 : kd % 9 = 2) (hd1 : ¬ (d : Int) ≤ 1) :
    Calls Try.prog 27 #[.agg #[.int .i64 c.k, .int .i64 c.n, .slice c.an c.ln c.cn, .slice c.ak c.lk c.ck], .int .i64 d, .slice na names.length nc] w (TreeP (treeR names d (.mk kd n ns ks)) w) := by
  have hT : topK names.length d kd = 3 := by unfold topK; rw [hk0]; exact if_neg (by omega)
  rw [treeR_leaf names d kd n ns ks (by omega), hT]
  cases hV with
  | mk _ _ _ _ an cn ak ck us hk hn hii hln hlk hl ha hb hu =>
    obtain ⟨hkl, hkh⟩ := hk
    have HK0 := Lib.hid hk0
    clear hu hb ha hii hl hT hk0
    go_enter Try.func27, Try.ntmps27
    go_wp2_with (go_at_call 53; (with_reducible refine (within3_is _ _ _ _ (by omega) (by omega) hkl hkh HK0.out).mono ?_); rintro e w2 ⟨rfl, rfl⟩)
    refine bodyPost_ret (v := .agg #[.int .i64 3, .string ⟨#[]⟩, .slice none 0 0, .slice none 0 0]) (by simp [results, Try.results27, go_sem]) rfl ?_
    exact ⟨⟨3, ⟨#[]⟩, none, 0, 0, none, 0, 0⟩, rfl, TzV.leaf _ _ 3 [], (((Below.refl _ _).alloc (Nat.le_refl _) _).alloc (by simp) _).alloc (by simp; omega) _⟩
end Sp
end Go.Proofs.Ytmhihnpimanhfaa
