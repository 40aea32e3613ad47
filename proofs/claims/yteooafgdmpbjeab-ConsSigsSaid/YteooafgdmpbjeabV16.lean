/- Tables in memory: the block, the row of types, three maps; what stays while a table grows. -/
import Derived.Test.YteooafgdmpbjeabV3
import Derived.Test.YteooafgdmpbjeabV4
import Derived.Test.YteooafgdmpbjeabV15
import Derived.Deep.AppendLies
import Derived.Shelf.LaysM
import Derived.Shelf.Strconv.Clone
import Derived.Ground.Names2Prog
import Derived.Shelf.Slices.Clone
import Derived.Test.YteooafgdmpbjeabProg
import Derived.Test.YteooafgdmpbjeabRows
import Derived.WalkKit
import Derived.Deep.MidRow
import Derived.Laws.CopyRow
import Derived.Deep.QuietTactic
import Derived.StillTailTactics
namespace Go.Proofs.Yteooafgdmpbjeab
open Go.RowKit
namespace Sp
open Sc
set_option maxRecDepth 100000
/-- Only blocks of O are written; there may be new ones. -/
structure Keeps (O : Nat → Prop) (w w' : World) : Prop where
  os : w'.os = w.os
  tape : w'.tape = w.tape
  output : w'.output = w.output
  size : w.heap.size ≤ w'.heap.size
  block : ∀ g, g < w.heap.size → ¬ O g → w'.heap[g]? = w.heap[g]?
theorem Keeps.refl (O : Nat → Prop) (w : World) : Keeps O w w := ⟨rfl, rfl, rfl, Nat.le_refl _, fun _ _ _ => rfl⟩
theorem Keeps.trans {O O' : Nat → Prop} {a b c : World} (h : Keeps O a b) (k : Keeps O' b c) (ho : ∀ g, O' g → O g ∨ a.heap.size ≤ g) : Keeps O a c := by
  refine ⟨k.os.trans h.os, k.tape.trans h.tape, k.output.trans h.output, Nat.le_trans h.size k.size, fun g hg hn => (k.block g (Nat.lt_of_lt_of_le hg h.size) (fun e => ?_)).trans (h.block g hg hn)⟩
  rcases ho g e with h | h
  · exact hn h
  · omega
theorem Keeps.of_below {O : Nat → Prop} {w w' : World} (h : Below w.heap.size w w') : Keeps O w w' := ⟨h.os, h.tape, h.output, h.size, fun g hg _ => h.block g hg⟩
theorem Keeps.below {O : Nat → Prop} {w w' : World} {B : Nat} (h : Keeps O w w') (hB : B ≤ w.heap.size) (ho : ∀ g, O g → B ≤ g) : Below B w w' :=
  ⟨h.os, h.tape, h.output, h.size, fun g hg => h.block g (Nat.lt_of_lt_of_le hg hB) (fun e => by have := ho g e; omega)⟩
theorem Keeps.of_grown {O : Nat → Prop} {w w' : World} {row : Option Nat} (h : w.grownBy w' row) (ho : ∀ g, row = some g → O g) : Keeps O w w' :=
  ⟨h.os, h.tape, h.output, h.size, fun g hg hn => h.block g hg (fun e => hn (ho g e.symm))⟩
theorem Keeps.setCell {O : Nat → Prop} {w w' : World} (h : Keeps O w w') {b : Nat} (o : Nat) (v : Value) (hb : O b) : Keeps O w (w'.setCell ⟨b, o, none⟩ v) :=
  ⟨h.os, h.tape, h.output, by simpa using h.size, fun g hg hn => by rw [RowKit.Below.heap_setCell _ _ _ _ (fun e => hn (by rw [e]; exact hb))]; exact h.block g hg hn⟩
theorem Keeps.alloc {O : Nat → Prop} {w w' : World} (h : Keeps O w w') (o : Obj) : Keeps O w (w'.alloc o) :=
  h.trans (O' := O) (Keeps.of_below ((Below.refl _ _).alloc (Nat.le_refl _) o)) (fun _ e => .inl e)
def mapE (l : List (List UInt8 × Value)) : DataW Value := l.foldl (fun D x => D.put (.string x.1) (.held x.2)) (.map [])
theorem mapE_snoc (l : List (List UInt8 × Value)) (x : List UInt8 × Value) : mapE (l ++ [x]) = (mapE l).put (.string x.1) (.held x.2) := by simp [mapE, List.foldl_append]
theorem tidy_mapE : ∀ l, Maps.Tidy (mapE l) := by
  apply snoc_ind
  · exact Maps.tidy_empty
  · intro l x h; rw [mapE_snoc]; exact h.put (k := .string x.1) trivial _
theorem has_mapE (s : List UInt8) : ∀ l, Maps.has (mapE l) (.string s) = hasZ l s := by
  apply snoc_ind
  · rfl
  · intro l x h
    rw [mapE_snoc, hasZ_snoc]
    by_cases e : x.1 = s
    · rw [e, Maps.has_put_same (tidy_mapE l).isMap (k := .string s) trivial]; simp
    · rw [Maps.has_put_other (by simpa using fun e' => e e'.symm), h]; simp [e]
theorem at_mapE (s : List UInt8) (z : DataW Value) : ∀ l, (mapE l).atKey (.string s) z = match lastN l s with | some c => .held c | none => z := by
  apply snoc_ind
  · rfl
  · intro l x h
    rw [mapE_snoc, lastN_snoc]
    by_cases e : x.1 = s
    · rw [e, Maps.atKey_put_same (tidy_mapE l).isMap (k := .string s) trivial]; simp
    · rw [Maps.atKey_put_other (by simpa using fun e' => e e'.symm), h]; simp [e]
/-- Block mb is the map of these entries. -/
def TxtV (w : World) (mb : Nat) (l : List (List UInt8 × Value)) : Prop := w.ownsMap Try.prog 9 heldR mb l.length (mapE l)
theorem TxtV.lt {w : World} {mb : Nat} {l : List (List UInt8 × Value)} (h : TxtV w mb l) : mb < w.heap.size := World.ownsMap.lt h
theorem TxtV.same {w w' : World} {mb : Nat} {l : List (List UInt8 × Value)} (h : TxtV w mb l) (hb : w'.heap[mb]? = w.heap[mb]?) : TxtV w' mb l := by
  obtain ⟨es, clock, h1, h2⟩ := h
  exact ⟨es, clock, hb.trans h1, h2⟩
theorem TxtV.isMap {w : World} {mb : Nat} {l : List (List UInt8 × Value)} (h : TxtV w mb l) : ∃ es clock, w.heap[mb]? = some (.map es clock) := by
  obtain ⟨es, clock, h1, h2⟩ := h
  exact ⟨es, clock, h1⟩
theorem TxtV.made (w : World) : TxtV (w.alloc (.map #[] 0)) w.heap.size [] := World.ownsMap_made _ _ _ _
theorem TxtV.at_ok {w : World} {mb : Nat} {l : List (List UInt8 × Value)} {t e : TypeId} {z : Value} (h : TxtV w mb l) (ht : Try.prog.underlying t = some (.map 9 e)) (hz : (zeroValue e).run Try.prog w = .ok z w) (s : List UInt8) (hs : s.length ≤ maxLen) :
    (Instr.lookup t (.map (some mb)) (.string ⟨s.toArray⟩) true).run Try.prog w = .ok (.tuple #[(lastN l s).getD z, .bool (hasZ l s)]) w := by
  obtain ⟨v, ps, hrun, hv⟩ := World.ownsMap.look_ok h key_law ht hz (zd := .held z) (zp := []) rfl (key_of s hs)
  rw [at_mapE] at hv
  rw [has_mapE] at hrun
  have : v = (lastN l s).getD z := by
    cases hl : lastN l s with
    | none => rw [hl] at hv; exact heldR_inv hv
    | some c => rw [hl] at hv; exact heldR_inv hv
  rw [← this]; exact hrun
theorem TxtV.put {w : World} {mb : Nat} {l : List (List UInt8 × Value)} {t e : TypeId} (h : TxtV w mb l) (ht : Try.prog.underlying t = some (.map 9 e)) (s : List UInt8) (v : Value) (hs : s.length ≤ maxLen) (hl : l.length < maxLen) :
    ∃ w', (Instr.mapUpdate t (.map (some mb)) (.string ⟨s.toArray⟩) v).run Try.prog w = .ok () w' ∧ TxtV w' mb (l ++ [(s, v)]) ∧ w.grownBy w' (some mb) := by
  obtain ⟨w', hrun, h1, h2⟩ := World.ownsMap.update h key_law ht hl (val := v) (d := .held v) (ps := []) (key_of s hs) rfl
  exact ⟨w', hrun, by unfold TxtV; rw [mapE_snoc, List.length_append]; exact h1, h2⟩
/-- What names stand for, as values. -/
def encNN (N : List NN) : List (List UInt8 × Value) := N.map fun x => (x.1, .int .i64 (x.2 : Nat))
theorem look_encNN (N : List NN) (s : List UInt8) : (lastN (encNN N) s).getD (.int .i64 0) = .int .i64 (lookN N s : Nat) := by
  unfold encNN lookN; rw [lastN_map N (fun i : Nat => Value.int .i64 (i : Nat))]
  cases lastN N s <;> rfl
theorem has_encNN (N : List NN) (s : List UInt8) : hasZ (encNN N) s = hasZ N s := hasZ_map N (fun i : Nat => Value.int .i64 (i : Nat)) s
/-- A function's numbers lie in a row of their own. -/
def IdsV (w : World) (v : Value) (ids : List Nat) : Prop := w.ownsRow 0 3 1 v ids.length (ids.map fun i => .int .i64 (i : Nat))
theorem IdsV.keep {w w' : World} {v : Value} {ids : List Nat} (h : IdsV w v ids) (hk : ∀ (g : Nat) (cs : Array Value) (fr : Nat × Nat), w.heap[g]? = some (Obj.cells cs 3 fr) → w'.heap[g]? = w.heap[g]?) : IdsV w' v ids := by
  obtain ⟨h1, h2⟩ := h
  refine ⟨h1, ?_⟩
  rcases h2 with h2 | ⟨g, cap, cur, e1, e2, e3, e4⟩
  · exact .inl h2
  · exact .inr ⟨g, cap, cur, e1, e2, (hk g _ _ e3).trans e3, e4⟩
/-- The functions of a table. -/
structure FnsV (w : World) (sb : Nat) (G : List GN) (vs : List Value) : Prop where
  len : vs.length = G.length
  map : TxtV w sb ((G.map (·.1)).zip (List.zipWith (fun v (x : GN) => .agg #[v, .int .i64 (x.2.2 : Nat)]) vs G))
  row : ∀ i (h : i < G.length) (h' : i < vs.length), IdsV w vs[i] G[i].2.1
/-- A table lies at block tb; rb, nb: the blocks of its row and of its numbers (tb itself, if there is nothing yet). -/
structure TabV (w : World) (tb rb nb mb sb m : Nat) (ty nu : Value) (T : List Kz) : Prop where
  box : w.heap[tb]? = some (.cells #[ty, nu, .map (some mb), .map (some sb), .int .i64 m] 68 (0, 0))
  own : w.ownsRow 0 76 19 ty T.length (T.flatMap Kz.cells)
  row : (T = [] ∧ ty = .slice none 0 0 ∧ rb = tb) ∨ ∃ cap, ty = .slice (some ⟨rb, 0, none⟩) T.length cap
  num : (T = [] ∧ nu = .map none ∧ nb = tb) ∨ (nu = .map (some nb) ∧ NumV w nb T)
  fit : ∀ k ∈ T, KFit k
  wf : TabW T
  mlt : mb < w.heap.size
  slt : sb < w.heap.size
  nm : nb ≠ mb
  ns : nb ≠ sb
/-- The blocks that a table may write. -/
def Own (tb rb nb g : Nat) : Prop := g = tb ∨ g = rb ∨ g = nb
theorem five_blkF {w : World} {b : Nat} {t : TypeId} {v0 v1 v2 v3 v4 : Value} (h : w.heap[b]? = some (.cells #[v0, v1, v2, v3, v4] t (0, 0))) :
    (w.cell? ⟨b, 0, none⟩ = some v0 ∧ w.cell? ⟨b, 1, none⟩ = some v1 ∧ w.cell? ⟨b, 2, none⟩ = some v2 ∧ w.cell? ⟨b, 3, none⟩ = some v3 ∧ w.cell? ⟨b, 4, none⟩ = some v4) ∧
    (w.frozen? ⟨b, 0, none⟩ = false ∧ w.frozen? ⟨b, 1, none⟩ = false ∧ w.frozen? ⟨b, 2, none⟩ = false ∧ w.frozen? ⟨b, 3, none⟩ = false ∧ w.frozen? ⟨b, 4, none⟩ = false) := by
  refine ⟨⟨?_, ?_, ?_, ?_, ?_⟩, ⟨?_, ?_, ?_, ?_, ?_⟩⟩ <;> simp [World.cell?, World.frozen?, h]
theorem TabV.tlt {w : World} {tb rb nb mb sb m : Nat} {ty nu : Value} {T : List Kz} (h : TabV w tb rb nb mb sb m ty nu T) : tb < w.heap.size := (Array.getElem?_eq_some_iff.1 h.box).1
/-- What lies in the blocks that a table may write. -/
theorem TabV.kinds {w : World} {tb rb nb mb sb m : Nat} {ty nu : Value} {T : List Kz} (h : TabV w tb rb nb mb sb m ty nu T) {g : Nat} (hg : Own tb rb nb g) :
    (∃ cs t, w.heap[g]? = some (.cells cs t (0, 0)) ∧ (t = 68 ∨ t = 76)) ∨ (g = nb ∧ ∃ es c, w.heap[g]? = some (.map es c)) := by
  rcases hg with rfl | rfl | rfl
  · exact .inl ⟨_, _, h.box, .inl rfl⟩
  · rcases h.row with ⟨-, -, rfl⟩ | ⟨cap, rfl⟩
    · exact .inl ⟨_, _, h.box, .inl rfl⟩
    · obtain ⟨-, h2⟩ := h.own
      rcases h2 with ⟨h2, -⟩ | ⟨g, cap', cur, e1, -, e3, -⟩
      · cases h2
      · cases e1; exact .inl ⟨_, _, e3, .inr rfl⟩
  · rcases h.num with ⟨-, -, rfl⟩ | ⟨-, es, c, h1, -⟩
    · exact .inl ⟨_, _, h.box, .inl rfl⟩
    · exact .inr ⟨rfl, es, c, h1⟩
theorem TabV.lt {w : World} {tb rb nb mb sb m : Nat} {ty nu : Value} {T : List Kz} (h : TabV w tb rb nb mb sb m ty nu T) {g : Nat} (hg : Own tb rb nb g) : g < w.heap.size := by
  rcases h.kinds hg with ⟨cs, t, h1, -⟩ | ⟨-, es, c, h1⟩ <;> exact (Array.getElem?_eq_some_iff.1 h1).1
/-- A map that is not the table's numbers stays. -/
theorem TabV.txt {w w' : World} {tb rb nb mb sb m : Nat} {ty nu : Value} {T : List Kz} (h : TabV w tb rb nb mb sb m ty nu T) (hk : Keeps (Own tb rb nb) w w') {b : Nat} (hb : b ≠ nb) {l : List (List UInt8 × Value)} (hl : TxtV w b l) : TxtV w' b l := by
  refine hl.same (hk.block b hl.lt fun ho => ?_)
  obtain ⟨es, c, hm⟩ := hl.isMap
  rcases h.kinds ho with ⟨cs, t, h1, -⟩ | ⟨h1, -⟩
  · rw [hm] at h1; cases h1
  · exact hb h1
theorem TabV.ids {w w' : World} {tb rb nb mb sb m : Nat} {ty nu : Value} {T : List Kz} (h : TabV w tb rb nb mb sb m ty nu T) (hk : Keeps (Own tb rb nb) w w') {v : Value} {ids : List Nat} (hl : IdsV w v ids) : IdsV w' v ids := by
  refine hl.keep fun g cs fr hg => hk.block g (Array.getElem?_eq_some_iff.1 hg).1 fun ho => ?_
  rcases h.kinds ho with ⟨cs', t, h1, h2⟩ | ⟨-, es, c, h1⟩
  · rw [hg] at h1
    simp only [Option.some.injEq, Obj.cells.injEq] at h1
    rcases h2 with h2 | h2
    · exact absurd (h1.2.1.trans h2) (by decide)
    · exact absurd (h1.2.1.trans h2) (by decide)
  · rw [hg] at h1; cases h1
theorem TabV.sgs {w w' : World} {tb rb nb mb sb m : Nat} {ty nu : Value} {T : List Kz} (h : TabV w tb rb nb mb sb m ty nu T) (hk : Keeps (Own tb rb nb) w w') {G : List GN} {vs : List Value} (hl : FnsV w sb G vs) : FnsV w' sb G vs :=
  ⟨hl.len, h.txt hk (fun e => h.ns e.symm) hl.map, fun i h1 h2 => h.ids hk (hl.row i h1 h2)⟩
/-- The table stays while its blocks do. -/
theorem TabV.keep {w w' : World} {tb rb nb mb sb m : Nat} {ty nu : Value} {T : List Kz} (h : TabV w tb rb nb mb sb m ty nu T) (hk : ∀ g, Own tb rb nb g → w'.heap[g]? = w.heap[g]?) (hs : w.heap.size ≤ w'.heap.size) : TabV w' tb rb nb mb sb m ty nu T := by
  refine ⟨(hk tb (.inl rfl)).trans h.box, ?_, h.row, ?_, h.fit, h.wf, Nat.lt_of_lt_of_le h.mlt hs, Nat.lt_of_lt_of_le h.slt hs, h.nm, h.ns⟩
  · obtain ⟨h1, h2⟩ := h.own
    refine ⟨h1, ?_⟩
    rcases h2 with h2 | ⟨g, cap, cur, e1, e2, e3, e4⟩
    · exact .inl h2
    · refine .inr ⟨g, cap, cur, e1, e2, (hk g ?_).trans e3, e4⟩
      rcases h.row with ⟨-, h5, -⟩ | ⟨cap', h5⟩
      · rw [e1] at h5; cases h5
      · rw [e1] at h5; cases h5; exact .inr (.inl rfl)
  · rcases h.num with h1 | ⟨h1, h2⟩
    · exact .inl h1
    · exact .inr ⟨h1, h2.same (hk nb (.inr (.inr rfl)))⟩
theorem TabV.below {w w' : World} {tb rb nb mb sb m : Nat} {ty nu : Value} {T : List Kz} (h : TabV w tb rb nb mb sb m ty nu T) (hb : Below w.heap.size w w') : TabV w' tb rb nb mb sb m ty nu T :=
  h.keep (fun g hg => hb.block g (h.lt hg)) hb.size
/-- Blocks of a table behind one that has grown. -/
structure Grew (w : World) (tb rb nb rb' nb' : Nat) : Prop where
  row : rb' = rb ∨ w.heap.size ≤ rb'
  num : nb' = nb ∨ w.heap.size ≤ nb'
theorem Grew.refl (w : World) (tb rb nb : Nat) : Grew w tb rb nb rb nb := ⟨.inl rfl, .inl rfl⟩
theorem Grew.own {w : World} {tb rb nb rb' nb' : Nat} (h : Grew w tb rb nb rb' nb') : ∀ g, Own tb rb' nb' g → Own tb rb nb g ∨ w.heap.size ≤ g := by
  rintro g (rfl | rfl | rfl)
  · exact .inl (.inl rfl)
  · rcases h.row with rfl | h
    · exact .inl (.inr (.inl rfl))
    · exact .inr h
  · rcases h.num with rfl | h
    · exact .inl (.inr (.inr rfl))
    · exact .inr h
theorem Grew.trans {w w' : World} {tb rb nb rb' nb' rb2 nb2 : Nat} (h : Grew w tb rb nb rb' nb') (k : Grew w' tb rb' nb' rb2 nb2) (hs : w.heap.size ≤ w'.heap.size) : Grew w tb rb nb rb2 nb2 := by
  refine ⟨?_, ?_⟩
  · rcases k.row with rfl | k
    · exact h.row
    · exact .inr (by omega)
  · rcases k.num with rfl | k
    · exact h.num
    · exact .inr (by omega)
/-- What a call that adds leaves: the table with these types. -/
structure Added (w w' : World) (tb rb nb mb sb m : Nat) (T : List Kz) (rb' nb' : Nat) (ty' nu' : Value) : Prop where
  tab : TabV w' tb rb' nb' mb sb m ty' nu' T
  keeps : Keeps (Own tb rb nb) w w'
  grew : Grew w tb rb nb rb' nb'
theorem Added.trans {w w' w2 : World} {tb rb nb mb sb m rb' nb' rb2 nb2 : Nat} {T T2 : List Kz} {ty' nu' ty2 nu2 : Value} (h : Added w w' tb rb nb mb sb m T rb' nb' ty' nu') (k : Added w' w2 tb rb' nb' mb sb m T2 rb2 nb2 ty2 nu2) : Added w w2 tb rb nb mb sb m T2 rb2 nb2 ty2 nu2 :=
  ⟨k.tab, h.keeps.trans k.keeps h.grew.own, h.grew.trans k.grew h.keeps.size⟩
end Sp
end Go.Proofs.Yteooafgdmpbjeab
namespace Go.Proofs
open Go.Shelf
open Go.Shelf
def Try.laysM316_ren : Go.Shelf.Ren := ⟨fun | 316 => 85 | n => n, fun | 9 => 9 | 3 => 3 | 4 => 4 | 37 => 49 | 0 => 0 | 127 => 156 | 5 => 5 | n => n, fun | n => n⟩
theorem Try.laysM316 : Go.Proofs.LaysM.n316 Try.prog Try.laysM316_ren := {
  mixed := by kernel_rfl
  f316 := Try.func85.trans (congrArg some (by kernel_rfl))
  t0 := Try.underlying0
  a0 := Try.isAgg0
  z0 := Try.sizeOf0
  v0 := Try.zeroValue0
  t3 := Try.underlying3
  a3 := Try.isAgg3
  z3 := Try.sizeOf3
  v3 := Try.zeroValue3
  t4 := Try.underlying4
  a4 := Try.isAgg4
  z4 := Try.sizeOf4
  v4 := Try.zeroValue4
  t9 := Try.underlying9
  a9 := Try.isAgg9
  z9 := Try.sizeOf9
  v9 := Try.zeroValue9
  t37 := Try.underlying49
  a37 := Try.isAgg49
  z37 := Try.sizeOf49
  v37 := Try.zeroValue49
  t127 := Try.underlying156
  a127 := Try.isAgg156
  z127 := Try.sizeOf156
  v127 := Try.zeroValue156
  t5 := Try.underlying5
  a5 := Try.isAgg5
  z5 := Try.sizeOf5
  v5 := Try.zeroValue5
  i0 := by kernel_rfl
  i3 := by kernel_rfl
  i4 := by kernel_rfl
  i5 := by kernel_rfl
  i9 := by kernel_rfl
  i37 := by kernel_rfl
  i127 := by kernel_rfl }
open Go.RowKit in
theorem Try.stringslite_Clone (s : ByteArray) (w : World) (hlim : s.size ≤ 281474976710656) :
    Calls Try.prog 85 #[.string s] w fun e w' => e = .returned (.string s) ∧ Below w.heap.size w w' := Any.stringslite_Clone Try.laysM316 s w hlim
def Try.laysNm215_ren : Go.Shelf.Ren := ⟨fun | 15 => 38 | n => n, fun | 22 => 22 | 3 => 3 | 4 => 4 | n => n, fun | n => n⟩
theorem Try.laysNm215 : Go.Proofs.Lays2.n15 Try.prog Try.laysNm215_ren := {
  mixed := by kernel_rfl
  f15 := Try.func38.trans (congrArg some (by kernel_rfl))
  t3 := Try.underlying3
  a3 := Try.isAgg3
  z3 := Try.sizeOf3
  v3 := Try.zeroValue3
  t4 := Try.underlying4
  a4 := Try.isAgg4
  z4 := Try.sizeOf4
  v4 := Try.zeroValue4
  t22 := Try.underlying22
  a22 := Try.isAgg22
  z22 := Try.sizeOf22
  v22 := Try.zeroValue22
  i3 := by kernel_rfl }
open Go.RowKit Go.Lib in
theorem Try.slices_Clone_int (b off n c : Nat) (zs : List Int) (w : World) (hz : n ≤ zs.length) (hbig : n * 8 ≤ 140737488355328) (hc : ∀ j, j < zs.length → w.cell? ⟨b, off + j, none⟩ = some (.int .i64 (zs.getD j 0))) :
    Calls Try.prog 38 #[.slice (some ⟨b, off, none⟩) n c] w fun e w' => ∃ v', e = .returned v' ∧ w'.ownsRow w.heap.size 3 1 v' n ((zs.take n).map (Value.int .i64)) ∧ v' ≠ .slice none 0 0 ∧ Below w.heap.size w w' := Any.slices_Clone_int Try.laysNm215 b off n c zs w hz hbig hc
open Go.RowKit Go.Lib in
theorem Try.slices_Clone_int_nil (n c : Nat) (w : World) :
    Calls Try.prog 38 #[.slice none n c] w fun e w' => e = .returned (.slice none 0 0) ∧ w' = w := Any.slices_Clone_int_nil Try.laysNm215 n c w
end Go.Proofs
namespace Go.Proofs.Yteooafgdmpbjeab
open Go.RowKit
namespace Sp
theorem rangeAt_blk {w : World} {b : Nat} {cs : List Value} {t : TypeId} {fr : Nat × Nat} (h : w.heap[b]? = some (.cells cs.toArray t fr)) : w.rangeAt b 0 cs := fun j v hv => by
  rw [Nat.zero_add]; simp [World.cell?, h, hv]
theorem there_blk {w : World} {b : Nat} {cs : List Value} {t : TypeId} (h : w.heap[b]? = some (.cells cs.toArray t (0, 0))) : w.there b 0 cs.length := fun j hj => by
  rw [Nat.zero_add]
  exact ⟨by simp [World.cell?, h, hj], by simp [World.frozen?, h]⟩
theorem setCells_row (b : Nat) (t : TypeId) : ∀ (cs : List Value) (o : Nat) (w : World) (pre old post : List Value), pre.length = o → old.length = cs.length → w.heap[b]? = some (.cells (pre ++ old ++ post).toArray t (0, 0)) →
    (w.setCells b o cs).heap[b]? = some (.cells (pre ++ cs ++ post).toArray t (0, 0))
  | [], o, w, pre, old, post, hp, ho, h => by
    have : old = [] := List.length_eq_zero_iff.1 ho
    subst this
    exact h
  | v :: cs, o, w, pre, [], post, hp, ho, h => by simp at ho
  | v :: cs, o, w, pre, x :: old, post, hp, ho, h => by
    have ih := setCells_row b t cs (o + 1) (w.setCell ⟨b, o, none⟩ v) (pre ++ [v]) old post (by simp [hp]) (by simpa using ho) (by
      rw [Go.setCell_eq_setRow w b o _ t (0, 0) v h, setRow_heap w b _ _ t _ h]
      congr 2
      subst hp
      simp)
    have e : w.setCells b o (v :: cs) = (w.setCell ⟨b, o, none⟩ v).setCells b (o + 1) cs := rfl
    rw [e, ih]; simp
/-- A block that is written whole. -/
theorem setCells_blk {w : World} {b : Nat} {t : TypeId} {old cs : List Value} (h : w.heap[b]? = some (.cells old.toArray t (0, 0))) (hl : old.length = cs.length) : (w.setCells b 0 cs).heap[b]? = some (.cells cs.toArray t (0, 0)) := by
  have := setCells_row b t cs 0 w [] old [] rfl hl (by simpa using h)
  simpa using this
theorem setCells_other (b : Nat) : ∀ (cs : List Value) (o : Nat) (w : World) (g : Nat), g ≠ b → (w.setCells b o cs).heap[g]? = w.heap[g]?
  | [], _, _, _, _ => rfl
  | v :: cs, o, w, g, h => by
    rw [show w.setCells b o (v :: cs) = (w.setCell ⟨b, o, none⟩ v).setCells b (o + 1) cs from rfl, setCells_other b cs (o + 1) _ g h]
    exact RowKit.Below.heap_setCell _ _ _ _ h
theorem setCells_size (b : Nat) : ∀ (cs : List Value) (o : Nat) (w : World), (w.setCells b o cs).heap.size = w.heap.size
  | [], _, _ => rfl
  | v :: cs, o, w => by
    rw [show w.setCells b o (v :: cs) = (w.setCell ⟨b, o, none⟩ v).setCells b (o + 1) cs from rfl, setCells_size b cs (o + 1)]
    simp
theorem setCells_below {B : Nat} {w : World} (b : Nat) (hb : B ≤ b) : ∀ (cs : List Value) (o : Nat) (w' : World), Below B w w' → Below B w (w'.setCells b o cs)
  | [], _, _, h => h
  | v :: cs, o, w', h => by
    rw [show w'.setCells b o (v :: cs) = (w'.setCell ⟨b, o, none⟩ v).setCells b (o + 1) cs from rfl]
    exact setCells_below b hb cs (o + 1) _ (h.setCell hb v)
/-- A block whose cells are written as they were. -/
theorem setCells_same (b : Nat) : ∀ (cs : List Value) (o : Nat) (w : World), (∀ j v, cs[j]? = some v → w.cell? ⟨b, o + j, none⟩ = some v) → (∀ (a : Nat) (v : Value), w.cell? ⟨b, a, none⟩ = some v → w.setCell ⟨b, a, none⟩ v = w) → w.setCells b o cs = w
  | [], _, _, _, _ => rfl
  | v :: cs, o, w, h, hs => by
    rw [show w.setCells b o (v :: cs) = (w.setCell ⟨b, o, none⟩ v).setCells b (o + 1) cs from rfl, hs o v (h 0 v rfl)]
    exact setCells_same b cs (o + 1) w (fun j u hu => by rw [show o + 1 + j = o + (j + 1) by omega]; exact h (j + 1) u hu) hs
/-- A cell that is written as it was. -/
theorem setCell_same {w : World} {b o : Nat} {v : Value} (h : w.cell? ⟨b, o, none⟩ = some v) : w.setCell ⟨b, o, none⟩ v = w := by
  cases hg : w.heap[b]? with
  | none => unfold World.cell? at h; simp [hg] at h
  | some x =>
    unfold World.cell? at h
    simp only [hg] at h
    cases x with
    | cells cs t fr =>
      rw [Go.setCell_eq_setRow w b o cs t fr v hg]
      have : cs.setIfInBounds o v = cs := by
        apply Array.ext_getElem?
        intro i
        rw [Array.getElem?_setIfInBounds]
        simp at h
        split
        · rename_i e; subst e
          split
          · exact h.symm
          · rename_i h2; rw [Array.getElem?_eq_none (by omega)] at h; cases h
        · rfl
      rw [this]
      exact Go.setRow_self w b cs t fr hg
    | _ => simp at h
theorem setCells_keep {w : World} {b : Nat} {cs : List Value} {t : TypeId} {fr : Nat × Nat} (h : w.heap[b]? = some (.cells cs.toArray t fr)) : w.setCells b 0 cs = w :=
  setCells_same b cs 0 w (fun j v hv => rangeAt_blk h j v hv) (fun _ _ h => setCell_same h)
/-- A variable of many cells that is read in a region that only reads. -/
theorem wpQuiet_load {P : Program} {ops : Array Oper} {C : World → Prop} {Q : Act → Prop} {a : Act} {o : Oper} {rest : List Oper} (hgd : o.guard = none) (ty : TypeId) (x : Operand) (ho : o.op = .load ty x) {p : Value} (hx : a.eval x = p) (v : Value)
    (hr : ∀ w, C w → (Instr.loadAt ty p).run P w = .ok v w) (h : wpQuiet P ops C Q rest (a.put o.dst v)) : wpQuiet P ops C Q (o :: rest) a := by
  refine wpQuiet_step fun K hK => ?_
  rw [if_pos (by simp [Region.wanted, hgd])]
  refine ⟨v, fun w hw => ?_, hK _ h⟩
  unfold Oper.quietAt execOp
  simp only [ho, hx, Sem.run_bind, hr w hw, Result.andThen_ok, Sem.run_pure]
  exact ⟨rfl, rfl⟩
/-- An operation by its run. -/
theorem wpStill_run {P : Program} {ops : Array Oper} {w : World} {Q : Act → Prop} {a : Act} {o : Oper} {rest : List Oper} (hgd : o.guard = none) (v : Value) (hr : (execOp a.eval o).run P w = .ok (.value v) w) (h : wpStill P ops w Q rest (a.put o.dst v)) : wpStill P ops w Q (o :: rest) a := by
  refine wpStill_step fun K hK => ?_
  rw [if_pos (by simp [Region.wanted, hgd])]
  unfold Oper.still
  rw [hr]
  exact ⟨rfl, hK _ h⟩
theorem wpList_runV {P : Program} {ops : Array Oper} {w w' : World} {Q : Exit → Act → World → Prop} {a : Act} {o : Oper} {rest : List Oper} (hgd : o.guard = none) (v : Value) (hr : (execOp a.eval o).run P w = .ok (.value v) w') (h : wpList P ops Q rest (a.put o.dst v) w') : wpList P ops Q (o :: rest) a w :=
  wpList_plain hgd fun K hK => by
    unfold Oper.wp
    rw [hr]
    exact hK _ _ h
theorem wpList_runU {P : Program} {ops : Array Oper} {w w' : World} {Q : Exit → Act → World → Prop} {a : Act} {o : Oper} {rest : List Oper} (hgd : o.guard = none) (hr : (execOp a.eval o).run P w = .ok .skip w') (h : wpList P ops Q rest (a.put o.dst undef) w') : wpList P ops Q (o :: rest) a w :=
  wpList_plain hgd fun K hK => by
    unfold Oper.wp
    rw [hr]
    exact hK _ _ h
theorem wpList_enter {P : Program} {ops : Array Oper} {w : World} {Q : Exit → Act → World → Prop} {a : Act} {o : Oper} {rest : List Oper} {f : FuncId} {args : Array Value} {R : Ending → World → Prop} (hgd : o.guard = none) (hr : (execOp a.eval o).run P w = .ok (.enter f args) w) (hR : Calls P f args w R)
    (h : ∀ e w', R e w' → ∃ v, e = .returned v ∧ wpList P ops Q rest (a.put o.dst v) w') : wpList P ops Q (o :: rest) a w :=
  wpList_plain hgd fun K hK => by
    unfold Oper.wp
    rw [hr]
    refine hR.mono fun e w' hh => ?_
    obtain ⟨v, rfl, hv⟩ := h e w' hh
    exact hK _ _ hv
theorem exec_load {P : Program} {b : Act} {o : Oper} {v : World} {t : TypeId} {x : Operand} {p u : Value} (ho : o.op = .load t x) (hx : b.eval x = p) (hr : (Instr.loadAt t p).run P v = .ok u v) : (execOp b.eval o).run P v = .ok (.value u) v := by
  unfold execOp
  simp only [ho, hx, Sem.run_bind, hr, Result.andThen_ok, Sem.run_pure]
theorem exec_build1 {P : Program} {b : Act} {o : Oper} {v v' : World} {t : TypeId} {n i : Nat} {x : Operand} {p u : Value} (ho : o.op = .buildSlice t n #[(i, x)]) (hx : b.eval x = p) (hr : (Instr.buildSlice t n #[(i, p)]).run P v = .ok u v') : (execOp b.eval o).run P v = .ok (.value u) v' := by
  unfold execOp
  simp only [ho, List.map_toArray, List.map_cons, List.map_nil, hx, Sem.run_bind, hr, Result.andThen_ok, Sem.run_pure]
theorem exec_append {P : Program} {b : Act} {o : Oper} {v v' : World} {t : TypeId} {x y : Operand} {p q u : Value} (ho : o.op = .call { callee := .builtin .append, args := #[x, y], argTypes := #[t, t] }) (hx : b.eval x = p) (hy : b.eval y = q) (hr : (Builtin.append_ #[t, t] o.type #[p, q]).run P v = .ok u v') :
    (execOp b.eval o).run P v = .ok (.value u) v' := by
  unfold execOp
  simp only [ho, resolve, invoke, builtin, Sem.run_bind, Sem.run_pure, Result.andThen_ok, List.map_toArray, List.map_cons, List.map_nil, hx, hy, hr]
theorem exec_mapUpdate {P : Program} {b : Act} {o : Oper} {v v' : World} {t : TypeId} {m k x : Operand} {pm pk px : Value} (ho : o.op = .mapUpdate t m k x) (hm : b.eval m = pm) (hk : b.eval k = pk) (hx : b.eval x = px) (hr : (Instr.mapUpdate t pm pk px).run P v = .ok () v') : (execOp b.eval o).run P v = .ok .skip v' := by
  unfold execOp
  simp only [ho, hm, hk, hx, Sem.run_bind, hr, Result.andThen_ok, Sem.run_pure]
end Sp
end Go.Proofs.Yteooafgdmpbjeab
