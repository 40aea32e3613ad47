/- Tree: a type out of what it is made of. -/
import Derived.Test.YtdophmlnmbcjlaaT26
namespace Go.Proofs.Ytdophmlnmbcjlaa
open Go.RowKit
namespace Sp
open Sc
theorem wpOp_call {P : Program} {ops : Array Oper} {Q : Exit → Act → World → Prop} {i : Nat} {o : Oper} {a : Act} {w : World} {K : Act → World → Prop} (hi : ops[i]? = some o) (hg : o.guard = none) {f : FuncId} {args : Array Value} (hr : (execOp a.eval o).run P w = .ok (.enter f args) w) {R : Ending → World → Prop} (hC : Calls P f args w R) (hK : ∀ e w', R e w' → ∃ v, e = .returned v ∧ K (a.put o.dst v) w') : wpOp P ops Q i K a w :=
  wpOp_wp hi hg (by
    unfold Oper.wp
    rw [hr, Oper.upon_enter]
    exact hC.mono fun e w' h => by
      obtain ⟨v, rfl, hk⟩ := hK e w' h
      exact hk)
/-- The kind that comes out. -/
def topK (nn d : Nat) (kd : Int) : Int := if (1 + kd % 9 = 9 ∧ nn = 0) ∨ (d ≤ 1 ∧ 4 ≤ 1 + kd % 9 ∧ 1 + kd % 9 ≤ 8) then 2 else 1 + kd % 9
def fldN (ns : List Int) (i : Nat) : List UInt8 := match ns[i]? with | some z => nameL z | none => [117]
def fldM (k : Int) (ns : List Int) : Nat := max (min ns.length 4) (if k = 8 then 1 else 0)
def treeR (names : List (List UInt8)) : Nat → Rw → Tz
  | 0, .mk kd n _ _ => if topK names.length 0 kd = 9 then .mk 9 (names.getD (n % names.length).toNat []) [] [] else .mk (topK names.length 0 kd) [] [] []
  | d + 1, .mk kd n ns ks =>
    if topK names.length (d + 1) kd = 9 then .mk 9 (names.getD (n % names.length).toNat []) [] []
    else if topK names.length (d + 1) kd = 4 ∨ topK names.length (d + 1) kd = 5 ∨ topK names.length (d + 1) kd = 6 then
      (if topK names.length (d + 1) kd = 6 ∧ (treeR names d (kidR (.mk kd n ns ks) 0)).kind = 6 then treeR names d (kidR (.mk kd n ns ks) 0) else .mk (topK names.length (d + 1) kd) [] [] [treeR names d (kidR (.mk kd n ns ks) 0)])
    else if topK names.length (d + 1) kd = 7 ∨ topK names.length (d + 1) kd = 8 then
      (List.range (fldM (topK names.length (d + 1) kd) ns)).foldl (fun t i => putT (fldN ns i) (treeR names d (kidR (.mk kd n ns ks) i)) t) (.mk (topK names.length (d + 1) kd) [] [] [])
    else .mk (topK names.length (d + 1) kd) [] [] []
theorem topK_rng (nn d : Nat) (kd : Int) : 1 ≤ topK nn d kd ∧ topK nn d kd ≤ 9 := by
  unfold topK; split <;> omega
/-- A plain kind. -/
theorem treeR_leaf (names : List (List UInt8)) (d : Nat) (kd n : Int) (ns : List Int) (ks : List Rw) (h : topK names.length d kd ≤ 3) : treeR names d (.mk kd n ns ks) = .mk (topK names.length d kd) [] [] [] := by
  cases d with
  | zero => rw [treeR, if_neg (by omega)]
  | succ d => rw [treeR, if_neg (by omega), if_neg (by omega), if_neg (by omega)]
theorem treeR_name (names : List (List UInt8)) (d : Nat) (kd n : Int) (ns : List Int) (ks : List Rw) (h : topK names.length d kd = 9) : treeR names d (.mk kd n ns ks) = .mk 9 (names.getD (n % names.length).toNat []) [] [] := by
  cases d with
  | zero => rw [treeR, if_pos h]
  | succ d => rw [treeR, if_pos h]
theorem treeR_kid (names : List (List UInt8)) (d : Nat) (kd n : Int) (ns : List Int) (ks : List Rw) (k : Int) (hk : topK names.length (d + 1) kd = k) (h : 4 ≤ k ∧ k ≤ 6) : treeR names (d + 1) (.mk kd n ns ks) = if k = 6 ∧ (treeR names d (kidR (.mk kd n ns ks) 0)).kind = 6 then treeR names d (kidR (.mk kd n ns ks) 0) else .mk k [] [] [treeR names d (kidR (.mk kd n ns ks) 0)] := by
  rw [treeR, hk, if_neg (by omega), if_pos (by omega)]
theorem treeR_rec (names : List (List UInt8)) (d : Nat) (kd n : Int) (ns : List Int) (ks : List Rw) (k : Int) (hk : topK names.length (d + 1) kd = k) (h : 7 ≤ k ∧ k ≤ 8) : treeR names (d + 1) (.mk kd n ns ks) = (List.range (fldM k ns)).foldl (fun t i => putT (fldN ns i) (treeR names d (kidR (.mk kd n ns ks) i)) t) (.mk k [] [] []) := by
  rw [treeR, hk, if_neg (by omega), if_neg (by omega), if_pos (by omega)]
/-- What a call of Tree leaves. -/
def TreeP (t : Tz) (w : World) (e : Ending) (w' : World) : Prop := ∃ c : C4, e = .returned (.agg #[.int .i64 c.k, .string c.n, .slice c.an c.ln c.cn, .slice c.ak c.lk c.ck]) ∧ TzV w' (New w.heap.size w') t c ∧ Below w.heap.size w w'
def TreeC (d : Nat) : Prop := ∀ (r : Rw) (c : R4) (names : List (List UInt8)) (na : Option Addr) (nc : Nat) (w : World), RwV w r c → RowV w (Any w) na 1 (names.map fun n => [str n]) → names.length ≤ 1000 →
  Calls Try.prog 19 #[.agg #[.int .i64 c.k, .int .i64 c.n, .slice c.an c.ln c.cn, .slice c.ak c.lk c.ck], .int .i64 d, .slice na names.length nc] w (TreeP (treeR names d r) w)
/-- Things of a block of their own. -/
theorem RowV.blkN {w : World} {S : Nat → Prop} {g k : Nat} {t : TypeId} {fr : Nat × Nat} {l : List (List Value)} {cs : Array Value} (h : w.heap[g]? = some (.cells cs t fr)) (hc : cs = l.flatten.toArray) (hk : ∀ x ∈ l, x.length = k) (hS : S g) : RowV w S (some ⟨g, 0, none⟩) k l := by
  refine .inr ⟨g, 0, rfl, hS, fun i hi j v hv => ?_⟩
  have := flat_at l hk i hi j v hv
  rw [Nat.zero_add]
  subst hc
  simp [World.cell?, h, this]
theorem TzV.kidN {w : World} {S : Nat → Prop} {g : Nat} {ty : TypeId} {fr : Nat × Nat} {t : Tz} {c : C4} (k : Int) (h : w.heap[g]? = some (.cells #[.int .i64 c.k, .string c.n, .slice c.an c.ln c.cn, .slice c.ak c.lk c.ck] ty fr)) (hS : S g) (hV : TzV w S t c) :
    TzV w S (.mk k [] [] [t]) ⟨k, ⟨#[]⟩, none, 0, 0, some ⟨g, 0, none⟩, 1, 1⟩ :=
  .mk k [] [] [t] none 0 (some ⟨g, 0, none⟩) 1 [c] rfl (.inl rfl) (RowV.blkN (l := [c].map C4.cells) h rfl (cells4_len [c]) hS) (fun i h h' => by
    match i, h with
    | 0, _ => exact hV)
theorem RowV.up {w W : World} {a : Option Addr} {sz : Nat} {l : List (List Value)} (h : RowV w (Any w) a sz l) (hb : Below w.heap.size w W) : RowV W (Any W) a sz l := h.keep (fun _ hg => Nat.lt_of_lt_of_le hg hb.size) (fun g hg => hb.block g hg)
/-- What a callee made stays while one older block is written. -/
theorem TzV.past {a b g0 : Nat} {w W : World} {t : Tz} {c : C4} (h : TzV w (New b w) t c) (hab : a ≤ b) (ho : Only g0 w W) (hg : g0 < b) : TzV W (New a W) t c :=
  h.keep (fun _ hs => ⟨Nat.le_trans hab hs.1, Nat.lt_of_lt_of_le hs.2 ho.size⟩) (fun _ hs => ho.block _ hs.2 (fun e => by cases e; omega))
theorem TzV.kindZ {w : World} {S : Nat → Prop} {t : Tz} {c : C4} (h : TzV w S t c) : c.k = t.kind := by cases h; rfl
/-- A record's, a union's fields: names and kids, as many of both. -/
def EvenT : Tz → Nat → Prop
  | .mk _ _ ns ks, m => ns.length = ks.length ∧ ns.length ≤ m
theorem putT_even {n : List UInt8} {x t : Tz} {m : Nat} (h : EvenT t m) : EvenT (putT n x t) (m + 1) := by
  obtain ⟨k, nm, ns, ks⟩ := t
  obtain ⟨h1, h2⟩ := h
  rw [putT]
  split
  · exact ⟨h1, by omega⟩
  · have := posT_le ns n
    exact ⟨by simp; omega, by simp; omega⟩
end Sp
end Go.Proofs.Ytdophmlnmbcjlaa
namespace Go.Proofs.Ytdophmlnmbcjlaa
open Go.RowKit
namespace Sp
open Sc
theorem getD_setE {listed : Array Bool} {i : Nat} (h : i < listed.size) : (listed.setIfInBounds i true).getD i false = true := by rw [getD_setF]; simp [h]
theorem getD_setN {listed : Array Bool} {i j : Nat} (h : i ≠ j) : (listed.setIfInBounds i true).getD j false = listed.getD j false := by rw [getD_setF]; simp [h]
theorem TzV.since {a b : Nat} {w : World} {t : Tz} {c : C4} (h : TzV w (New b w) t c) (hab : a ≤ b) : TzV w (New a w) t c := h.keep (fun _ hg => ⟨Nat.le_trans hab hg.1, hg.2⟩) (fun _ _ => rfl)
/-- The fields put in so far. -/
def recT (names : List (List UInt8)) (d : Nat) (kd n : Int) (ns : List Int) (ks : List Rw) (K : Int) (i : Nat) : Tz :=
  (List.range i).foldl (fun t j => putT (fldN ns j) (treeR names d (kidR (.mk kd n ns ks) j)) t) (.mk K [] [] [])
theorem recT_succ (names : List (List UInt8)) (d : Nat) (kd n : Int) (ns : List Int) (ks : List Rw) (K : Int) (i : Nat) : recT names d kd n ns ks K (i + 1) = putT (fldN ns i) (treeR names d (kidR (.mk kd n ns ks) i)) (recT names d kd n ns ks K i) := by
  unfold recT; rw [List.range_succ, List.foldl_append]; rfl
theorem putT_form (n : List UInt8) (x : Tz) (K : Int) (ns : List (List UInt8)) (ks : List Tz) : ∃ ns' ks', putT n x (.mk K [] ns ks) = .mk K [] ns' ks' := by
  rw [putT]; split
  · exact ⟨_, _, rfl⟩
  · exact ⟨_, _, rfl⟩
theorem recT_form (names : List (List UInt8)) (d : Nat) (kd n : Int) (ns : List Int) (ks : List Rw) (K : Int) : ∀ i, ∃ ms us, recT names d kd n ns ks K i = .mk K [] ms us ∧ ms.length = us.length ∧ ms.length ≤ i
  | 0 => ⟨[], [], rfl, rfl, Nat.le_refl _⟩
  | i + 1 => by
    obtain ⟨ms, us, e, h1, h2⟩ := recT_form names d kd n ns ks K i
    have ev : EvenT (recT names d kd n ns ks K (i + 1)) (i + 1) := by
      rw [recT_succ, e]; exact putT_even ⟨h1, h2⟩
    obtain ⟨ms', us', e'⟩ := putT_form (fldN ns i) (treeR names d (kidR (.mk kd n ns ks) i)) K ms us
    rw [recT_succ, e, e'] at ev
    exact ⟨ms', us', by rw [recT_succ, e, e'], ev.1, ev.2⟩
theorem treeR_recT (names : List (List UInt8)) (d : Nat) (kd n : Int) (ns : List Int) (ks : List Rw) (k : Int) (hk : topK names.length (d + 1) kd = k) (h : 7 ≤ k ∧ k ≤ 8) : treeR names (d + 1) (.mk kd n ns ks) = recT names d kd n ns ks k (fldM k ns) := treeR_rec names d kd n ns ks k hk h
/-- What the operations of the statement yield. -/
structure TV (D d i : Nat) (tc : C4) (n : List UInt8) (rc : R4) (na : Option Addr) (nl nc : Nat) (vals : Nat → Value) : Prop where
  v0 : vals 0 = .agg #[.int .i64 tc.k, .string tc.n, .slice tc.an tc.ln tc.cn, .slice tc.ak tc.lk tc.ck]
  v1 : vals 1 = .string ⟨n.toArray⟩
  v2 : vals 2 = .agg #[.int .i64 rc.k, .int .i64 rc.n, .slice rc.an rc.ln rc.cn, .slice rc.ak rc.lk rc.ck]
  v3 : vals 3 = .int .i64 i
  v5 : vals 5 = .int .i64 D
  v6 : vals 6 = .int .i64 d
  v7 : vals 7 = .slice na nl nc
/-- Memory while the statement runs. -/
structure TM (w : World) (z : Nat) (tc : C4) (rc : R4) (t x t' : Tz) (kr : Rw) (vals : Nat → Value) (l4 l8 l9 l10 : Bool) (v : World) : Prop where
  size : z + 3 ≤ v.heap.size
  below : Below z w v
  raw : v.heap[z]? = some (.cells #[.int .i64 rc.k, .int .i64 rc.n, .slice rc.an rc.ln rc.cn, .slice rc.ak rc.lk rc.ck] 54 (0, 0))
  zer : v.heap[z + 1]? = some (.cells #[.int .i64 0, .string ⟨#[]⟩, .slice none 0 0, .slice none 0 0] 30 (0, 0))
  told : l10 = false → v.heap[z + 2]? = some (.cells #[.int .i64 tc.k, .string tc.n, .slice tc.an tc.ln tc.cn, .slice tc.ak tc.lk tc.ck] 30 (0, 0))
  old : l9 = false → TzV v (New (z + 3) v) t tc
  kid : l4 = true → l8 = false → ∃ c : R4, vals 4 = .agg #[.int .i64 c.k, .int .i64 c.n, .slice c.an c.ln c.cn, .slice c.ak c.lk c.ck] ∧ RwV v kr c
  tree : l8 = true → l9 = false → ∃ c : C4, vals 8 = .agg #[.int .i64 c.k, .string c.n, .slice c.an c.ln c.cn, .slice c.ak c.lk c.ck] ∧ TzV v (New (z + 3) v) x c
  put : l9 = true → ∃ c : C4, vals 9 = .agg #[.int .i64 c.k, .string c.n, .slice c.an c.ln c.cn, .slice c.ak c.lk c.ck] ∧ TzV v (New (z + 3) v) t' c ∧ CapOk c ∧ (l10 = true → v.heap[z + 2]? = some (.cells #[.int .i64 c.k, .string c.n, .slice c.an c.ln c.cn, .slice c.ak c.lk c.ck] 30 (0, 0)))
section
variable {w : World} {z : Nat} {tc : C4} {rc : R4} {t x t' : Tz} {kr : Rw} {vals vals' : Nat → Value} {l4 l8 l9 l10 : Bool} {v v' : World}
theorem TM.kidded (h : TM w z tc rc t x t' kr vals false false false false v) {c : R4} (hv : vals' 4 = .agg #[.int .i64 c.k, .int .i64 c.n, .slice c.an c.ln c.cn, .slice c.ak c.lk c.ck]) (hk : RwV v' kr c) (hb : Below v.heap.size v v') : TM w z tc rc t x t' kr vals' true false false false v' :=
  have hz := h.size
  ⟨Nat.le_trans hz hb.size, h.below.trans (hb.mono (by omega)), (hb.block _ (by omega)).trans h.raw, (hb.block _ (by omega)).trans h.zer, fun _ => (hb.block _ (by omega)).trans (h.told rfl), fun _ => (h.old rfl).growN hb, fun _ _ => ⟨c, hv, hk⟩, (fun h => by cases h), (fun h => by cases h)⟩
theorem TM.treed (h : TM w z tc rc t x t' kr vals true false false false v) {c : C4} (hv : vals' 8 = .agg #[.int .i64 c.k, .string c.n, .slice c.an c.ln c.cn, .slice c.ak c.lk c.ck]) (hk : TzV v' (New v.heap.size v') x c) (hb : Below v.heap.size v v') : TM w z tc rc t x t' kr vals' true true false false v' :=
  have hz := h.size
  ⟨Nat.le_trans hz hb.size, h.below.trans (hb.mono (by omega)), (hb.block _ (by omega)).trans h.raw, (hb.block _ (by omega)).trans h.zer, fun _ => (hb.block _ (by omega)).trans (h.told rfl), fun _ => (h.old rfl).growN hb, (fun _ h => by cases h), fun _ _ => ⟨c, hv, hk.since hz⟩, (fun h => by cases h)⟩
theorem TM.putted (h : TM w z tc rc t x t' kr vals true true false false v) {c : C4} (hv : vals' 9 = .agg #[.int .i64 c.k, .string c.n, .slice c.an c.ln c.cn, .slice c.ak c.lk c.ck]) (hk : TzV v' (New (z + 3) v') t' c) (hc : CapOk c) (hb : Below v.heap.size v v') : TM w z tc rc t x t' kr vals' true true true false v' :=
  have hz := h.size
  ⟨Nat.le_trans hz hb.size, h.below.trans (hb.mono (by omega)), (hb.block _ (by omega)).trans h.raw, (hb.block _ (by omega)).trans h.zer, fun _ => (hb.block _ (by omega)).trans (h.told rfl), (fun h => by cases h), (fun _ h => by cases h), (fun _ h => by cases h), fun _ => ⟨c, hv, hk, hc, (fun h => by cases h)⟩⟩
theorem TM.stored (h : TM w z tc rc t x t' kr vals true true true false v) {c : C4} (hv : vals 9 = .agg #[.int .i64 c.k, .string c.n, .slice c.an c.ln c.cn, .slice c.ak c.lk c.ck]) : TM w z tc rc t x t' kr vals true true true true (put4 v (z + 2) c) := by
  have hz := h.size
  have hp := put4_only v (z + 2) c
  have hs := put4_size v (z + 2) c
  obtain ⟨c', hv', hk, hc, _⟩ := h.put rfl
  have e : c' = c := by
    rw [hv] at hv'
    obtain ⟨a1, a2, a3, a4, a5, a6, a7, a8⟩ := c
    obtain ⟨b1, b2, b3, b4, b5, b6, b7, b8⟩ := c'
    simp at hv' ⊢
    obtain ⟨rfl, rfl, ⟨rfl, rfl, rfl⟩, rfl, rfl, rfl⟩ := hv'
    simp
  subst e
  exact ⟨by omega, h.below.trans (hp.below (by omega) (by omega)), hp.blk h.raw (by omega), hp.blk h.zer (by omega), (fun h => by cases h), (fun h => by cases h), (fun _ h => by cases h), (fun _ h => by cases h), fun _ => ⟨c', hv, hk.past (Nat.le_refl _) hp (by omega), hc, fun _ => put4_at (h.told rfl) c'⟩⟩
end
structure TJ (w : World) (z : Nat) (D d i : Nat) (tc : C4) (n : List UInt8) (rc : R4) (na : Option Addr) (nl nc : Nat) (t x t' : Tz) (kr : Rw) (ops : Array Oper) (a0 : Act) (listed : Array Bool) (b : Act) (v : World) : Prop where
  size : listed.size = ops.size
  closed : Closed ops listed
  rest : ∃ vals : Nat → Value, Fr ops a0 vals listed b ∧ TV D d i tc n rc na nl nc vals ∧ TM w z tc rc t x t' kr vals (listed.getD 4 false) (listed.getD 8 false) (listed.getD 9 false) (listed.getD 10 false) v
theorem TJ.quiet {w : World} {z : Nat} {D d i : Nat} {tc : C4} {n : List UInt8} {rc : R4} {na : Option Addr} {nl nc : Nat} {t x t' : Tz} {kr : Rw} {ops : Array Oper} {a0 b : Act} {listed : Array Bool} {v : World} {j : Nat} {o : Oper} {vals : Nat → Value} {Q : Exit → Act → World → Prop} (hz : listed.size = ops.size) (hC : Closed ops listed) (hi : j ∈ Region.ready .any ops listed) (hF : Fr ops a0 vals listed b) (hV : TV D d i tc n rc na nl nc vals)
    (hM : TM w z tc rc t x t' kr vals (listed.getD 4 false) (listed.getD 8 false) (listed.getD 9 false) (listed.getD 10 false) v)
    (hs : Slots ops a0.tmps.size) (ho : ops[j]? = some o) (hg : o.guard = none) (h9 : j ≠ 4 ∧ j ≠ 8 ∧ j ≠ 9 ∧ j ≠ 10) (hr : (execOp b.eval o).run Try.prog v = .ok (.value (vals j)) v) :
    wpOp Try.prog ops Q j (fun b' v' => TJ w z D d i tc n rc na nl nc t x t' kr ops a0 (listed.setIfInBounds j true) b' v') b v := by
  refine wpOp_run ho hg hr ⟨by simp [hz], hC.put hi, vals, hF.put hs hz ho, hV, ?_⟩
  simp only [getD_setF]
  simpa [h9.1, h9.2.1, h9.2.2.1, h9.2.2.2] using hM
/-- The loop over the fields. -/
structure TRel (w : World) (rc : R4) (names : List (List UInt8)) (d : Nat) (kd n : Int) (ns : List Int) (ks : List Rw) (K : Int) (iv : Value) (wr : World) (i : Nat) : Prop where
  slot : iv = .int .i64 i
  le : i ≤ fldM K ns
  size : w.heap.size + 3 ≤ wr.heap.size
  below : Below w.heap.size w wr
  raw : wr.heap[w.heap.size]? = some (.cells #[.int .i64 rc.k, .int .i64 rc.n, .slice rc.an rc.ln rc.cn, .slice rc.ak rc.lk rc.ck] 54 (0, 0))
  zer : wr.heap[w.heap.size + 1]? = some (.cells #[.int .i64 0, .string ⟨#[]⟩, .slice none 0 0, .slice none 0 0] 30 (0, 0))
  var : ∃ c : C4, wr.heap[w.heap.size + 2]? = some (.cells #[.int .i64 c.k, .string c.n, .slice c.an c.ln c.cn, .slice c.ak c.lk c.ck] 30 (0, 0)) ∧ TzV wr (New (w.heap.size + 3) wr) (recT names d kd n ns ks K i) c ∧ CapOk c
theorem TM.start {w wr : World} {z : Nat} {tc : C4} {rc : R4} {t x t' : Tz} {kr : Rw} {vals : Nat → Value} (hz : z + 3 ≤ wr.heap.size) (hb : Below z w wr)
    (h0 : wr.heap[z]? = some (.cells #[.int .i64 rc.k, .int .i64 rc.n, .slice rc.an rc.ln rc.cn, .slice rc.ak rc.lk rc.ck] 54 (0, 0)))
    (h1 : wr.heap[z + 1]? = some (.cells #[.int .i64 0, .string ⟨#[]⟩, .slice none 0 0, .slice none 0 0] 30 (0, 0)))
    (h2 : wr.heap[z + 2]? = some (.cells #[.int .i64 tc.k, .string tc.n, .slice tc.an tc.ln tc.cn, .slice tc.ak tc.lk tc.ck] 30 (0, 0))) (hV : TzV wr (New (z + 3) wr) t tc) : TM w z tc rc t x t' kr vals false false false false wr.drew :=
  ⟨hz, ⟨hb.os, hb.tape, hb.output, hb.size, hb.block⟩, h0, h1, fun _ => h2, fun _ => hV.keep (fun _ h => h) (fun _ _ => rfl), (fun h => by cases h), (fun h => by cases h), (fun h => by cases h)⟩
theorem int_name {w : World} {a : Option Addr} {ns : List Int} (h : RowV w (Any w) a 1 (ns.map fun i => [.int .i64 i])) (j : Nat) (hj : j < ns.length) :
    ∃ g o, a = some ⟨g, o, none⟩ ∧ g < w.heap.size ∧ ∀ W, Below w.heap.size w W → W.cell? ⟨g, o + j, none⟩ = some (.int .i64 ns[j]) := by
  obtain ⟨g, o, e, hg, hc⟩ := row_at h (fun _ h => h) j (by rw [List.length_map]; exact hj)
  refine ⟨g, o, e, hg, fun W hW => ?_⟩
  have := hc W hW 0 (.int .i64 ns[j]) (by rw [List.getElem_map]; rfl)
  rw [show o + j = o + j * 1 + 0 by omega]
  exact this
end Sp
end Go.Proofs.Ytdophmlnmbcjlaa
