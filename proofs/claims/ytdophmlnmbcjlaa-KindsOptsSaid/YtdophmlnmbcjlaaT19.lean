/- Tables in memory: the block, the row of types, three maps; what stays while a table grows. -/
import Derived.Test.YtdophmlnmbcjlaaT3
import Derived.Test.YtdophmlnmbcjlaaT4
import Derived.Test.YtdophmlnmbcjlaaT17
import Derived.Deep.AppendLies
namespace Go.Proofs.Ytdophmlnmbcjlaa
open Go.RowKit
namespace Sp
open Sc
set_option maxRecDepth 100000
/-- Only blocks of O are written; there may be new ones. -/
structure Keeps (O : Nat → Prop) (w w' : World) : Prop where
  os : w'.os = w.os
  tape : w'.tape = w.tape
  output : w'.output = w.output
  size : w.heap.size ≤ w'.heap.size
  block : ∀ g, g < w.heap.size → ¬ O g → w'.heap[g]? = w.heap[g]?
theorem Keeps.refl (O : Nat → Prop) (w : World) : Keeps O w w := ⟨rfl, rfl, rfl, Nat.le_refl _, fun _ _ _ => rfl⟩
theorem Keeps.trans {O O' : Nat → Prop} {a b c : World} (h : Keeps O a b) (k : Keeps O' b c) (ho : ∀ g, O' g → O g ∨ a.heap.size ≤ g) : Keeps O a c := by
  refine ⟨k.os.trans h.os, k.tape.trans h.tape, k.output.trans h.output, Nat.le_trans h.size k.size, fun g hg hn => (k.block g (Nat.lt_of_lt_of_le hg h.size) (fun e => ?_)).trans (h.block g hg hn)⟩
  rcases ho g e with h | h
  · exact hn h
  · omega
theorem Keeps.of_below {O : Nat → Prop} {w w' : World} (h : Below w.heap.size w w') : Keeps O w w' := ⟨h.os, h.tape, h.output, h.size, fun g hg _ => h.block g hg⟩
theorem Keeps.below {O : Nat → Prop} {w w' : World} {B : Nat} (h : Keeps O w w') (hB : B ≤ w.heap.size) (ho : ∀ g, O g → B ≤ g) : Below B w w' :=
  ⟨h.os, h.tape, h.output, h.size, fun g hg => h.block g (Nat.lt_of_lt_of_le hg hB) (fun e => by have := ho g e; omega)⟩
theorem Keeps.of_grown {O : Nat → Prop} {w w' : World} {row : Option Nat} (h : w.grownBy w' row) (ho : ∀ g, row = some g → O g) : Keeps O w w' :=
  ⟨h.os, h.tape, h.output, h.size, fun g hg hn => h.block g hg (fun e => hn (ho g e.symm))⟩
theorem Keeps.setCell {O : Nat → Prop} {w w' : World} (h : Keeps O w w') {b : Nat} (o : Nat) (v : Value) (hb : O b) : Keeps O w (w'.setCell ⟨b, o, none⟩ v) :=
  ⟨h.os, h.tape, h.output, by simpa using h.size, fun g hg hn => by rw [RowKit.Below.heap_setCell _ _ _ _ (fun e => hn (by rw [e]; exact hb))]; exact h.block g hg hn⟩
theorem Keeps.alloc {O : Nat → Prop} {w w' : World} (h : Keeps O w w') (o : Obj) : Keeps O w (w'.alloc o) :=
  h.trans (O' := O) (Keeps.of_below ((Below.refl _ _).alloc (Nat.le_refl _) o)) (fun _ e => .inl e)
def mapE (l : List (List UInt8 × Value)) : DataW Value := l.foldl (fun D x => D.put (.string x.1) (.held x.2)) (.map [])
theorem mapE_snoc (l : List (List UInt8 × Value)) (x : List UInt8 × Value) : mapE (l ++ [x]) = (mapE l).put (.string x.1) (.held x.2) := by simp [mapE, List.foldl_append]
theorem tidy_mapE : ∀ l, Maps.Tidy (mapE l) := by
  apply snoc_ind
  · exact Maps.tidy_empty
  · intro l x h; rw [mapE_snoc]; exact h.put (k := .string x.1) trivial _
theorem has_mapE (s : List UInt8) : ∀ l, Maps.has (mapE l) (.string s) = hasZ l s := by
  apply snoc_ind
  · rfl
  · intro l x h
    rw [mapE_snoc, hasZ_snoc]
    by_cases e : x.1 = s
    · rw [e, Maps.has_put_same (tidy_mapE l).isMap (k := .string s) trivial]; simp
    · rw [Maps.has_put_other (by simpa using fun e' => e e'.symm), h]; simp [e]
theorem at_mapE (s : List UInt8) (z : DataW Value) : ∀ l, (mapE l).atKey (.string s) z = match lastN l s with | some c => .held c | none => z := by
  apply snoc_ind
  · rfl
  · intro l x h
    rw [mapE_snoc, lastN_snoc]
    by_cases e : x.1 = s
    · rw [e, Maps.atKey_put_same (tidy_mapE l).isMap (k := .string s) trivial]; simp
    · rw [Maps.atKey_put_other (by simpa using fun e' => e e'.symm), h]; simp [e]
/-- Block mb is the map of these entries. -/
def TxtV (w : World) (mb : Nat) (l : List (List UInt8 × Value)) : Prop := w.ownsMap Try.prog 9 heldR mb l.length (mapE l)
theorem TxtV.lt {w : World} {mb : Nat} {l : List (List UInt8 × Value)} (h : TxtV w mb l) : mb < w.heap.size := World.ownsMap.lt h
theorem TxtV.same {w w' : World} {mb : Nat} {l : List (List UInt8 × Value)} (h : TxtV w mb l) (hb : w'.heap[mb]? = w.heap[mb]?) : TxtV w' mb l := by
  obtain ⟨es, clock, h1, h2⟩ := h
  exact ⟨es, clock, hb.trans h1, h2⟩
theorem TxtV.isMap {w : World} {mb : Nat} {l : List (List UInt8 × Value)} (h : TxtV w mb l) : ∃ es clock, w.heap[mb]? = some (.map es clock) := by
  obtain ⟨es, clock, h1, h2⟩ := h
  exact ⟨es, clock, h1⟩
theorem TxtV.made (w : World) : TxtV (w.alloc (.map #[] 0)) w.heap.size [] := World.ownsMap_made _ _ _ _
theorem TxtV.at_ok {w : World} {mb : Nat} {l : List (List UInt8 × Value)} {t e : TypeId} {z : Value} (h : TxtV w mb l) (ht : Try.prog.underlying t = some (.map 9 e)) (hz : (zeroValue e).run Try.prog w = .ok z w) (s : List UInt8) (hs : s.length ≤ maxLen) :
    (Instr.lookup t (.map (some mb)) (.string ⟨s.toArray⟩) true).run Try.prog w = .ok (.tuple #[(lastN l s).getD z, .bool (hasZ l s)]) w := by
  obtain ⟨v, ps, hrun, hv⟩ := World.ownsMap.look_ok h key_law ht hz (zd := .held z) (zp := []) rfl (key_of s hs)
  rw [at_mapE] at hv
  rw [has_mapE] at hrun
  have : v = (lastN l s).getD z := by
    cases hl : lastN l s with
    | none => rw [hl] at hv; exact heldR_inv hv
    | some c => rw [hl] at hv; exact heldR_inv hv
  rw [← this]; exact hrun
theorem TxtV.at {w : World} {mb : Nat} {l : List (List UInt8 × Value)} {t e : TypeId} {z : Value} (h : TxtV w mb l) (ht : Try.prog.underlying t = some (.map 9 e)) (hz : (zeroValue e).run Try.prog w = .ok z w) (s : List UInt8) (hs : s.length ≤ maxLen) :
    (Instr.lookup t (.map (some mb)) (.string ⟨s.toArray⟩) false).run Try.prog w = .ok ((lastN l s).getD z) w := by
  obtain ⟨v, ps, hrun, hv⟩ := World.ownsMap.lookup h key_law ht hz (zd := .held z) (zp := []) rfl (key_of s hs)
  rw [at_mapE] at hv
  have : v = (lastN l s).getD z := by
    cases hl : lastN l s with
    | none => rw [hl] at hv; exact heldR_inv hv
    | some c => rw [hl] at hv; exact heldR_inv hv
  rw [← this]; exact hrun
theorem TxtV.put {w : World} {mb : Nat} {l : List (List UInt8 × Value)} {t e : TypeId} (h : TxtV w mb l) (ht : Try.prog.underlying t = some (.map 9 e)) (s : List UInt8) (v : Value) (hs : s.length ≤ maxLen) (hl : l.length < maxLen) :
    ∃ w', (Instr.mapUpdate t (.map (some mb)) (.string ⟨s.toArray⟩) v).run Try.prog w = .ok () w' ∧ TxtV w' mb (l ++ [(s, v)]) ∧ w.grownBy w' (some mb) := by
  obtain ⟨w', hrun, h1, h2⟩ := World.ownsMap.update h key_law ht hl (val := v) (d := .held v) (ps := []) (key_of s hs) rfl
  exact ⟨w', hrun, by unfold TxtV; rw [mapE_snoc, List.length_append]; exact h1, h2⟩
/-- What names stand for, as values. -/
def encNN (N : List NN) : List (List UInt8 × Value) := N.map fun x => (x.1, .int .i64 (x.2 : Nat))
theorem look_encNN (N : List NN) (s : List UInt8) : (lastN (encNN N) s).getD (.int .i64 0) = .int .i64 (lookN N s : Nat) := by
  unfold encNN lookN; rw [lastN_map N (fun i : Nat => Value.int .i64 (i : Nat))]
  cases lastN N s <;> rfl
theorem has_encNN (N : List NN) (s : List UInt8) : hasZ (encNN N) s = hasZ N s := hasZ_map N (fun i : Nat => Value.int .i64 (i : Nat)) s
/-- A function's numbers lie in a row of their own. -/
def IdsV (w : World) (v : Value) (ids : List Nat) : Prop := w.ownsRow 0 3 1 v ids.length (ids.map fun i => .int .i64 (i : Nat))
theorem IdsV.keep {w w' : World} {v : Value} {ids : List Nat} (h : IdsV w v ids) (hk : ∀ (g : Nat) (cs : Array Value) (fr : Nat × Nat), w.heap[g]? = some (Obj.cells cs 3 fr) → w'.heap[g]? = w.heap[g]?) : IdsV w' v ids := by
  obtain ⟨h1, h2⟩ := h
  refine ⟨h1, ?_⟩
  rcases h2 with h2 | ⟨g, cap, cur, e1, e2, e3, e4⟩
  · exact .inl h2
  · exact .inr ⟨g, cap, cur, e1, e2, (hk g _ _ e3).trans e3, e4⟩
/-- The functions of a table. -/
structure FnsV (w : World) (sb : Nat) (G : List GN) (vs : List Value) : Prop where
  len : vs.length = G.length
  map : TxtV w sb ((G.map (·.1)).zip (List.zipWith (fun v (x : GN) => .agg #[v, .int .i64 (x.2.2 : Nat)]) vs G))
  row : ∀ i (h : i < G.length) (h' : i < vs.length), IdsV w vs[i] G[i].2.1
/-- A table lies at block tb; rb, nb: the blocks of its row and of its numbers (tb itself, if there is nothing yet). -/
structure TabV (w : World) (tb rb nb mb sb m : Nat) (ty nu : Value) (T : List Kz) : Prop where
  box : w.heap[tb]? = some (.cells #[ty, nu, .map (some mb), .map (some sb), .int .i64 m] 75 (0, 0))
  own : w.ownsRow 0 91 19 ty T.length (T.flatMap Kz.cells)
  row : (T = [] ∧ ty = .slice none 0 0 ∧ rb = tb) ∨ ∃ cap, ty = .slice (some ⟨rb, 0, none⟩) T.length cap
  num : (T = [] ∧ nu = .map none ∧ nb = tb) ∨ (nu = .map (some nb) ∧ NumV w nb T)
  fit : ∀ k ∈ T, KFit k
  wf : TabW T
  mlt : mb < w.heap.size
  slt : sb < w.heap.size
  nm : nb ≠ mb
  ns : nb ≠ sb
/-- The blocks that a table may write. -/
def Own (tb rb nb g : Nat) : Prop := g = tb ∨ g = rb ∨ g = nb
theorem five_blkF {w : World} {b : Nat} {t : TypeId} {v0 v1 v2 v3 v4 : Value} (h : w.heap[b]? = some (.cells #[v0, v1, v2, v3, v4] t (0, 0))) :
    (w.cell? ⟨b, 0, none⟩ = some v0 ∧ w.cell? ⟨b, 1, none⟩ = some v1 ∧ w.cell? ⟨b, 2, none⟩ = some v2 ∧ w.cell? ⟨b, 3, none⟩ = some v3 ∧ w.cell? ⟨b, 4, none⟩ = some v4) ∧
    (w.frozen? ⟨b, 0, none⟩ = false ∧ w.frozen? ⟨b, 1, none⟩ = false ∧ w.frozen? ⟨b, 2, none⟩ = false ∧ w.frozen? ⟨b, 3, none⟩ = false ∧ w.frozen? ⟨b, 4, none⟩ = false) := by
  refine ⟨⟨?_, ?_, ?_, ?_, ?_⟩, ⟨?_, ?_, ?_, ?_, ?_⟩⟩ <;> simp [World.cell?, World.frozen?, h]
theorem TabV.tlt {w : World} {tb rb nb mb sb m : Nat} {ty nu : Value} {T : List Kz} (h : TabV w tb rb nb mb sb m ty nu T) : tb < w.heap.size := (Array.getElem?_eq_some_iff.1 h.box).1
/-- What lies in the blocks that a table may write. -/
theorem TabV.kinds {w : World} {tb rb nb mb sb m : Nat} {ty nu : Value} {T : List Kz} (h : TabV w tb rb nb mb sb m ty nu T) {g : Nat} (hg : Own tb rb nb g) :
    (∃ cs t, w.heap[g]? = some (.cells cs t (0, 0)) ∧ (t = 75 ∨ t = 91)) ∨ (g = nb ∧ ∃ es c, w.heap[g]? = some (.map es c)) := by
  rcases hg with rfl | rfl | rfl
  · exact .inl ⟨_, _, h.box, .inl rfl⟩
  · rcases h.row with ⟨-, -, rfl⟩ | ⟨cap, rfl⟩
    · exact .inl ⟨_, _, h.box, .inl rfl⟩
    · obtain ⟨-, h2⟩ := h.own
      rcases h2 with ⟨h2, -⟩ | ⟨g, cap', cur, e1, -, e3, -⟩
      · cases h2
      · cases e1; exact .inl ⟨_, _, e3, .inr rfl⟩
  · rcases h.num with ⟨-, -, rfl⟩ | ⟨-, es, c, h1, -⟩
    · exact .inl ⟨_, _, h.box, .inl rfl⟩
    · exact .inr ⟨rfl, es, c, h1⟩
theorem TabV.lt {w : World} {tb rb nb mb sb m : Nat} {ty nu : Value} {T : List Kz} (h : TabV w tb rb nb mb sb m ty nu T) {g : Nat} (hg : Own tb rb nb g) : g < w.heap.size := by
  rcases h.kinds hg with ⟨cs, t, h1, -⟩ | ⟨-, es, c, h1⟩ <;> exact (Array.getElem?_eq_some_iff.1 h1).1
/-- A map that is not the table's numbers stays. -/
theorem TabV.txt {w w' : World} {tb rb nb mb sb m : Nat} {ty nu : Value} {T : List Kz} (h : TabV w tb rb nb mb sb m ty nu T) (hk : Keeps (Own tb rb nb) w w') {b : Nat} (hb : b ≠ nb) {l : List (List UInt8 × Value)} (hl : TxtV w b l) : TxtV w' b l := by
  refine hl.same (hk.block b hl.lt fun ho => ?_)
  obtain ⟨es, c, hm⟩ := hl.isMap
  rcases h.kinds ho with ⟨cs, t, h1, -⟩ | ⟨h1, -⟩
  · rw [hm] at h1; cases h1
  · exact hb h1
theorem TabV.ids {w w' : World} {tb rb nb mb sb m : Nat} {ty nu : Value} {T : List Kz} (h : TabV w tb rb nb mb sb m ty nu T) (hk : Keeps (Own tb rb nb) w w') {v : Value} {ids : List Nat} (hl : IdsV w v ids) : IdsV w' v ids := by
  refine hl.keep fun g cs fr hg => hk.block g (Array.getElem?_eq_some_iff.1 hg).1 fun ho => ?_
  rcases h.kinds ho with ⟨cs', t, h1, h2⟩ | ⟨-, es, c, h1⟩
  · rw [hg] at h1
    simp only [Option.some.injEq, Obj.cells.injEq] at h1
    rcases h2 with h2 | h2
    · exact absurd (h1.2.1.trans h2) (by decide)
    · exact absurd (h1.2.1.trans h2) (by decide)
  · rw [hg] at h1; cases h1
theorem TabV.sgs {w w' : World} {tb rb nb mb sb m : Nat} {ty nu : Value} {T : List Kz} (h : TabV w tb rb nb mb sb m ty nu T) (hk : Keeps (Own tb rb nb) w w') {G : List GN} {vs : List Value} (hl : FnsV w sb G vs) : FnsV w' sb G vs :=
  ⟨hl.len, h.txt hk (fun e => h.ns e.symm) hl.map, fun i h1 h2 => h.ids hk (hl.row i h1 h2)⟩
/-- The table stays while its blocks do. -/
theorem TabV.keep {w w' : World} {tb rb nb mb sb m : Nat} {ty nu : Value} {T : List Kz} (h : TabV w tb rb nb mb sb m ty nu T) (hk : ∀ g, Own tb rb nb g → w'.heap[g]? = w.heap[g]?) (hs : w.heap.size ≤ w'.heap.size) : TabV w' tb rb nb mb sb m ty nu T := by
  refine ⟨(hk tb (.inl rfl)).trans h.box, ?_, h.row, ?_, h.fit, h.wf, Nat.lt_of_lt_of_le h.mlt hs, Nat.lt_of_lt_of_le h.slt hs, h.nm, h.ns⟩
  · obtain ⟨h1, h2⟩ := h.own
    refine ⟨h1, ?_⟩
    rcases h2 with h2 | ⟨g, cap, cur, e1, e2, e3, e4⟩
    · exact .inl h2
    · refine .inr ⟨g, cap, cur, e1, e2, (hk g ?_).trans e3, e4⟩
      rcases h.row with ⟨-, h5, -⟩ | ⟨cap', h5⟩
      · rw [e1] at h5; cases h5
      · rw [e1] at h5; cases h5; exact .inr (.inl rfl)
  · rcases h.num with h1 | ⟨h1, h2⟩
    · exact .inl h1
    · exact .inr ⟨h1, h2.same (hk nb (.inr (.inr rfl)))⟩
theorem TabV.below {w w' : World} {tb rb nb mb sb m : Nat} {ty nu : Value} {T : List Kz} (h : TabV w tb rb nb mb sb m ty nu T) (hb : Below w.heap.size w w') : TabV w' tb rb nb mb sb m ty nu T :=
  h.keep (fun g hg => hb.block g (h.lt hg)) hb.size
/-- Blocks of a table behind one that has grown. -/
structure Grew (w : World) (tb rb nb rb' nb' : Nat) : Prop where
  row : rb' = rb ∨ w.heap.size ≤ rb'
  num : nb' = nb ∨ w.heap.size ≤ nb'
theorem Grew.refl (w : World) (tb rb nb : Nat) : Grew w tb rb nb rb nb := ⟨.inl rfl, .inl rfl⟩
theorem Grew.own {w : World} {tb rb nb rb' nb' : Nat} (h : Grew w tb rb nb rb' nb') : ∀ g, Own tb rb' nb' g → Own tb rb nb g ∨ w.heap.size ≤ g := by
  rintro g (rfl | rfl | rfl)
  · exact .inl (.inl rfl)
  · rcases h.row with rfl | h
    · exact .inl (.inr (.inl rfl))
    · exact .inr h
  · rcases h.num with rfl | h
    · exact .inl (.inr (.inr rfl))
    · exact .inr h
theorem Grew.trans {w w' : World} {tb rb nb rb' nb' rb2 nb2 : Nat} (h : Grew w tb rb nb rb' nb') (k : Grew w' tb rb' nb' rb2 nb2) (hs : w.heap.size ≤ w'.heap.size) : Grew w tb rb nb rb2 nb2 := by
  refine ⟨?_, ?_⟩
  · rcases k.row with rfl | k
    · exact h.row
    · exact .inr (by omega)
  · rcases k.num with rfl | k
    · exact h.num
    · exact .inr (by omega)
/-- What a call that adds leaves: the table with these types. -/
structure Added (w w' : World) (tb rb nb mb sb m : Nat) (T : List Kz) (rb' nb' : Nat) (ty' nu' : Value) : Prop where
  tab : TabV w' tb rb' nb' mb sb m ty' nu' T
  keeps : Keeps (Own tb rb nb) w w'
  grew : Grew w tb rb nb rb' nb'
theorem Added.trans {w w' w2 : World} {tb rb nb mb sb m rb' nb' rb2 nb2 : Nat} {T T2 : List Kz} {ty' nu' ty2 nu2 : Value} (h : Added w w' tb rb nb mb sb m T rb' nb' ty' nu') (k : Added w' w2 tb rb' nb' mb sb m T2 rb2 nb2 ty2 nu2) : Added w w2 tb rb nb mb sb m T2 rb2 nb2 ty2 nu2 :=
  ⟨k.tab, h.keeps.trans k.keeps h.grew.own, h.grew.trans k.grew h.keeps.size⟩
end Sp
end Go.Proofs.Ytdophmlnmbcjlaa
