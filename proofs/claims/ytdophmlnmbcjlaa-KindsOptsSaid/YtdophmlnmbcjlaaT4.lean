/- Keys of a table: a struct with arrays in it, as a map's key. -/
import Derived.Test.YtdophmlnmbcjlaaT2
import Derived.Test.YtdophmlnmbcjlaaT3
import Derived.DeepKeys4
namespace Go.Proofs.Ytdophmlnmbcjlaa
open Go.RowKit
namespace Sp
open Sc
/-- The cells of a key: padded to eight names, eight kids. -/
def keyL (k : Int) (nm : List UInt8) (sz : Nat) (ns : List (List UInt8)) (ids : List Nat) : List Value :=
  [.int .i64 k, .string ⟨nm.toArray⟩, .int .i64 sz, .string ⟨(ns.getD 0 []).toArray⟩, .string ⟨(ns.getD 1 []).toArray⟩, .string ⟨(ns.getD 2 []).toArray⟩, .string ⟨(ns.getD 3 []).toArray⟩, .string ⟨(ns.getD 4 []).toArray⟩,
   .string ⟨(ns.getD 5 []).toArray⟩, .string ⟨(ns.getD 6 []).toArray⟩, .string ⟨(ns.getD 7 []).toArray⟩, .int .i64 (ids.getD 0 0 : Nat), .int .i64 (ids.getD 1 0 : Nat), .int .i64 (ids.getD 2 0 : Nat), .int .i64 (ids.getD 3 0 : Nat),
   .int .i64 (ids.getD 4 0 : Nat), .int .i64 (ids.getD 5 0 : Nat), .int .i64 (ids.getD 6 0 : Nat), .int .i64 (ids.getD 7 0 : Nat)]
def Kz.cells (k : Kz) : List Value := keyL k.kind k.name k.kids.length k.names k.kids
def Kz.val (k : Kz) : Value := .agg k.cells.toArray
/-- A key that memory can hold, as a table makes them. -/
structure KFit (k : Kz) : Prop extends WfK k where
  nm : k.name.length ≤ 1000
  nms : ∀ n ∈ k.names, n.length ≤ 1000
  ids : ∀ j ∈ k.kids, j < 120
theorem le_max {n : Nat} (h : n ≤ 1000) : n ≤ maxLen := by unfold maxLen; omega
theorem Kz.one (k : Kz) : ∀ v ∈ k.cells, v.oneCell' = true := by
  intro v hv
  simp only [Kz.cells, keyL, List.mem_cons, List.not_mem_nil, or_false] at hv
  rcases hv with rfl | rfl | rfl | rfl | rfl | rfl | rfl | rfl | rfl | rfl | rfl | rfl | rfl | rfl | rfl | rfl | rfl | rfl | rfl <;> rfl
def lits (k : Kz) : List Go.Lit := [.int .i64 k.kind, .string k.name, .int .i64 k.kids.length, .string (k.names.getD 0 []), .string (k.names.getD 1 []), .string (k.names.getD 2 []), .string (k.names.getD 3 []), .string (k.names.getD 4 []),
   .string (k.names.getD 5 []), .string (k.names.getD 6 []), .string (k.names.getD 7 []), .int .i64 (k.kids.getD 0 0 : Nat), .int .i64 (k.kids.getD 1 0 : Nat), .int .i64 (k.kids.getD 2 0 : Nat), .int .i64 (k.kids.getD 3 0 : Nat),
   .int .i64 (k.kids.getD 4 0 : Nat), .int .i64 (k.kids.getD 5 0 : Nat), .int .i64 (k.kids.getD 6 0 : Nat), .int .i64 (k.kids.getD 7 0 : Nat)]
def klit (k : Kz) : Go.Lit := .string (keyBytes (lits k))
set_option maxRecDepth 100000
theorem laidK : laidOutB Try.prog = true := by kernel_rfl
theorem rowKey : (91 : TypeId) < Try.prog.types.size := of_decide_eq_true (by kernel_rfl)
theorem cellsKey : Try.prog.cellsOf 91 = 19 := by kernel_rfl
theorem wideKey : (match Try.prog.underlying 91 with | some (.array _ _) | some (.struct _) => true | _ => false) = true := by kernel_rfl
theorem keysLaw : Maps.Keyed Try.prog 91 := Maps.Keyed.of_law (deep_law_laid laidK (m := 3) (by omega) rowKey (by kernel_rfl) wideKey)
theorem typeKey : Try.prog.keyType 91 = true := by kernel_rfl
theorem formedKey (l : List Value) (h : l.length = 19) : (Value.agg l.toArray).formed Try.prog 91 = true := by
  simp [Value.formed, Try.underlying91, cellsKey, h]
theorem lit_str (d : Nat) (s : List UInt8) (hs : s.length ≤ maxLen) : Try.prog.keyLits (d + 1) 9 [.string ⟨s.toArray⟩] = some [.string s] := by
  rw [Program.keyLits.eq_def]
  simp [Try.underlying9, ByteArray.size, hs]
theorem lit_int (d : Nat) (n : Int) (h : (Go.Lit.int .i64 n).wf = true) : Try.prog.keyLits (d + 1) 3 [.int .i64 n] = some [.int .i64 n] := by
  rw [Program.keyLits.eq_def]
  simp [Try.underlying3, h]
theorem lits_of (k : Kz) (h : KFit k) (d : Nat) : Try.prog.keyLits (d + 3) 91 k.cells = some (lits k) := by
  have hn : ∀ j, (k.names.getD j []).length ≤ maxLen := fun j => by
    rw [List.getD]
    cases e : k.names[j]? with
    | none => simp
    | some x => exact le_max (h.nms x (List.mem_of_getElem? e))
  have hi : ∀ j, (Go.Lit.int .i64 (k.kids.getD j 0 : Nat)).wf = true := fun j => by
    have : k.kids.getD j 0 < 120 := by
      rw [List.getD]
      cases e : k.kids[j]? with
      | none => simp
      | some x => exact h.ids x (List.mem_of_getElem? e)
    exact WalkArith.wf_i64 (by omega)
  have h1 := h.rng
  have h2 := h.few
  have s0 := lit_str (d + 1) _ (le_max h.nm)
  have i0 := lit_int (d + 1) k.kind (WalkArith.wf_i64 (by omega))
  have i1 := lit_int (d + 1) (k.kids.length : Nat) (WalkArith.wf_i64 (by omega))
  have ss := fun j => lit_str d _ (hn j)
  have ii := fun j => lit_int d _ (hi j)
  have cs : Try.prog.cellsOf 9 = 1 := by kernel_rfl
  have ci : Try.prog.cellsOf 3 = 1 := by kernel_rfl
  have ca : Try.prog.cellsOf 88 = 8 := by kernel_rfl
  have cb : Try.prog.cellsOf 89 = 8 := by kernel_rfl
  have ha : ∀ (f : Nat → Value), (∀ j, Try.prog.keyLits (d + 1) 9 [f j] = some [.string (k.names.getD j [])]) → Try.prog.keyLits (d + 2) 88 [f 0, f 1, f 2, f 3, f 4, f 5, f 6, f 7] = some [.string (k.names.getD 0 []), .string (k.names.getD 1 []), .string (k.names.getD 2 []), .string (k.names.getD 3 []), .string (k.names.getD 4 []), .string (k.names.getD 5 []), .string (k.names.getD 6 []), .string (k.names.getD 7 [])] := by
    intro f hf
    rw [Program.keyLits.eq_def]
    simp only [Try.underlying88, ca, cs]
    simp [List.range_succ, hf]
  have hb : ∀ (f : Nat → Value), (∀ j, Try.prog.keyLits (d + 1) 3 [f j] = some [.int .i64 (k.kids.getD j 0 : Nat)]) → Try.prog.keyLits (d + 2) 89 [f 0, f 1, f 2, f 3, f 4, f 5, f 6, f 7] = some [.int .i64 (k.kids.getD 0 0 : Nat), .int .i64 (k.kids.getD 1 0 : Nat), .int .i64 (k.kids.getD 2 0 : Nat), .int .i64 (k.kids.getD 3 0 : Nat), .int .i64 (k.kids.getD 4 0 : Nat), .int .i64 (k.kids.getD 5 0 : Nat), .int .i64 (k.kids.getD 6 0 : Nat), .int .i64 (k.kids.getD 7 0 : Nat)] := by
    intro f hf
    rw [Program.keyLits.eq_def]
    simp only [Try.underlying89, cb, ci]
    simp [List.range_succ, hf]
  have A := ha (fun j => .string ⟨(k.names.getD j []).toArray⟩) ss
  have B := hb (fun j => .int .i64 (k.kids.getD j 0 : Nat)) ii
  rw [Program.keyLits.eq_def]
  simp only [Try.underlying91, cellsKey, Kz.cells, keyL, lits]
  simp only [List.mapM_cons, List.mapM_nil, cs, ci, ca, cb, List.drop, List.take, s0, i0, i1, A, B]
  simp
theorem keyOf_key (k : Kz) (h : KFit k) : keyOf Try.prog 91 k.val = some (klit k) := by
  unfold keyOf
  rw [Try.underlying91]
  simp only [typeKey, Kz.val, formedKey k.cells rfl]
  have e : Try.prog.types.size + 1 = (Try.prog.types.size - 2) + 3 := by
    have : (3 : Nat) ≤ Try.prog.types.size := Nat.le_of_lt (Nat.lt_of_le_of_lt (by decide) rowKey)
    omega
  have e2 : (Value.agg k.cells.toArray).cells.toList = k.cells := by simp [Value.cells]
  rw [e, e2, lits_of k h]
  simp [klit]
/-- Keys that read alike are alike. -/
theorem getD_ext8 {α : Type} (d : α) {l m : List α} (hl : l.length = m.length) (h8 : l.length ≤ 8) (h : ∀ j, j < 8 → l.getD j d = m.getD j d) : l = m := by
  apply List.ext_getElem hl
  intro i h1 h2
  have := h i (by omega)
  rwa [List.getD, List.getD, List.getElem?_eq_getElem h1, List.getElem?_eq_getElem h2] at this
theorem klit_inj {a b : Kz} (ha : KFit a) (hb : KFit b) (h : klit a = klit b) : a = b := by
  have e := keysLaw.inj (keyOf_key a ha) (by rw [h]; exact keyOf_key b hb)
  simp only [Kz.val, Value.agg.injEq] at e
  have e2 : a.cells = b.cells := by simpa using congrArg Array.toList e
  simp only [Kz.cells, keyL, List.cons.injEq, Value.int.injEq, Value.string.injEq, ByteArray.mk.injEq, true_and, and_true] at e2
  obtain ⟨h1, h2, h3, n0, n1, n2, n3, n4, n5, n6, n7, i0, i1, i2, i3, i4, i5, i6, i7⟩ := e2
  have inj : ∀ {l m : List UInt8}, l.toArray = m.toArray → l = m := fun h => by simpa using congrArg Array.toList h
  obtain ⟨k, nm, ns, ids⟩ := a
  obtain ⟨k', nm', ns', ids'⟩ := b
  have h3' : ids.length = ids'.length := by simp only at h3; omega
  have hf := ha.form; have hf' := hb.form; have h8 := ha.names8
  simp only at h1 h2 n0 n1 n2 n3 n4 n5 n6 n7 i0 i1 i2 i3 i4 i5 i6 i7 hf hf' h8
  subst h1
  have hids : ids = ids' := getD_ext8 0 h3' ha.few fun j hj => by
    match j, hj with
    | 0, _ => omega
    | 1, _ => omega
    | 2, _ => omega
    | 3, _ => omega
    | 4, _ => omega
    | 5, _ => omega
    | 6, _ => omega
    | 7, _ => omega
  have hnl : ns.length = ns'.length := by rw [hf, hf', h3']
  have hns : ns = ns' := getD_ext8 [] hnl h8 fun j hj => by
    match j, hj with
    | 0, _ => exact inj n0
    | 1, _ => exact inj n1
    | 2, _ => exact inj n2
    | 3, _ => exact inj n3
    | 4, _ => exact inj n4
    | 5, _ => exact inj n5
    | 6, _ => exact inj n6
    | 7, _ => exact inj n7
  rw [inj h2, hids, hns]
def numD (T : List Kz) : DataW Value := T.zipIdx.foldl (fun D x => D.put (klit x.1) (.held (.int .i64 (x.2 : Nat)))) (.map [])
theorem numD_snoc (T : List Kz) (k : Kz) : numD (T ++ [k]) = (numD T).put (klit k) (.held (.int .i64 (T.length : Nat))) := by
  unfold numD; rw [List.zipIdx_append, List.foldl_append]; simp
theorem snoc_ind {α : Type} {P : List α → Prop} (h0 : P []) (h1 : ∀ l x, P l → P (l ++ [x])) : ∀ l, P l := by
  intro l
  rw [← List.reverse_reverse l]
  induction l.reverse with
  | nil => exact h0
  | cons x r ih => rw [List.reverse_cons]; exact h1 _ _ ih
theorem keyLit (k : Kz) : WideAt.IsKeyLit (klit k) := trivial
theorem tidy_numD : ∀ T, Maps.Tidy (numD T) := by
  apply snoc_ind
  · exact Maps.tidy_empty
  · intro l x h; rw [numD_snoc]; exact h.put (keyLit x) _
theorem has_numD {k : Kz} (hk : KFit k) : ∀ T : List Kz, (∀ x ∈ T, KFit x) → Maps.has (numD T) (klit k) = decide (k ∈ T) := by
  apply snoc_ind
  · intro _; simp [numD]; rfl
  · intro l x ih h
    have ih := ih fun y hy => h y (by simp [hy])
    rw [numD_snoc]
    by_cases e : x = k
    · rw [e, Maps.has_put_same (tidy_numD l).isMap (keyLit k)]; simp
    · rw [Maps.has_put_other (fun e' => e (klit_inj (h x (by simp)) hk e'.symm)), ih]
      simp [Ne.symm e]
theorem at_numD {k : Kz} (hk : KFit k) (z : DataW Value) : ∀ T : List Kz, (∀ x ∈ T, KFit x) → T.Nodup → (numD T).atKey (klit k) z = if k ∈ T then .held (.int .i64 (T.idxOf k : Nat)) else z := by
  apply snoc_ind
  · intro _ _; simp [numD]; rfl
  · intro l x ih h hd
    have hd' := List.nodup_append.1 hd
    have ih := ih (fun y hy => h y (by simp [hy])) hd'.1
    rw [numD_snoc]
    by_cases e : x = k
    · subst e
      have hx : ¬ x ∈ l := fun hx => hd'.2.2 x hx x (by simp) rfl
      rw [Maps.atKey_put_same (tidy_numD l).isMap (keyLit x), idxOf_end hx, if_pos (by simp)]
    · rw [Maps.atKey_put_other (fun e' => e (klit_inj (h x (by simp)) hk e'.symm)), ih]
      by_cases hm : k ∈ l
      · rw [if_pos hm, if_pos (by simp [hm]), idxOf_in hm]
      · rw [if_neg hm, if_neg (by simp [hm, Ne.symm e])]
/-- Block mb is the map of a table's numbers. -/
def NumV (w : World) (mb : Nat) (T : List Kz) : Prop := w.ownsMap Try.prog 91 heldR mb T.length (numD T)
theorem NumV.lt {w : World} {mb : Nat} {T : List Kz} (h : NumV w mb T) : mb < w.heap.size := World.ownsMap.lt h
theorem NumV.made (w : World) : NumV (w.alloc (.map #[] 0)) w.heap.size [] := World.ownsMap_made _ _ _ _
theorem NumV.same {w w' : World} {mb : Nat} {T : List Kz} (h : NumV w mb T) (hb : w'.heap[mb]? = w.heap[mb]?) : NumV w' mb T := by
  obtain ⟨es, clock, h1, h2⟩ := h
  exact ⟨es, clock, hb.trans h1, h2⟩
theorem zeroI (w : World) : (zeroValue 3).run Try.prog w = .ok (.int .i64 0) w := by kernel_rfl
theorem NumV.at_ok {w : World} {mb : Nat} {T : List Kz} (h : NumV w mb T) {k : Kz} (hk : KFit k) (hT : ∀ x ∈ T, KFit x) (hd : T.Nodup) :
    (Instr.lookup 73 (.map (some mb)) k.val true).run Try.prog w = .ok (.tuple #[.int .i64 ((if k ∈ T then T.idxOf k else 0 : Nat) : Int), .bool (decide (k ∈ T))]) w := by
  obtain ⟨v, ps, hrun, hv⟩ := World.ownsMap.look_ok h keysLaw Try.underlying73 (zeroI w) (zd := .held (.int .i64 0)) (zp := []) rfl (keyOf_key k hk)
  rw [at_numD hk _ T hT hd] at hv
  rw [has_numD hk T hT] at hrun
  have : v = .int .i64 ((if k ∈ T then T.idxOf k else 0 : Nat) : Int) := by
    by_cases hm : k ∈ T
    · rw [if_pos hm] at hv ⊢; exact heldR_inv hv
    · rw [if_neg hm] at hv ⊢; exact heldR_inv hv
  rw [← this]; exact hrun
theorem num_nil (w : World) {k : Kz} (hk : KFit k) : (Instr.lookup 73 (.map none) k.val true).run Try.prog w = .ok (.tuple #[.int .i64 0, .bool false]) w :=
  Maps.look_nil true keysLaw Try.underlying73 (zeroI w) (keyOf_key k hk)
theorem NumV.put {w : World} {mb : Nat} {T : List Kz} (h : NumV w mb T) {k : Kz} (hk : KFit k) (hl : T.length < maxLen) :
    ∃ w', (Instr.mapUpdate 73 (.map (some mb)) k.val (.int .i64 (T.length : Nat))).run Try.prog w = .ok () w' ∧ NumV w' mb (T ++ [k]) ∧ w.grownBy w' (some mb) := by
  obtain ⟨w', hrun, h1, h2⟩ := World.ownsMap.update h keysLaw Try.underlying73 hl (val := .int .i64 (T.length : Nat)) (d := .held (.int .i64 (T.length : Nat))) (ps := []) (keyOf_key k hk) rfl
  exact ⟨w', hrun, by unfold NumV; rw [numD_snoc, List.length_append]; exact h1, h2⟩
end Sp
end Go.Proofs.Ytdophmlnmbcjlaa
