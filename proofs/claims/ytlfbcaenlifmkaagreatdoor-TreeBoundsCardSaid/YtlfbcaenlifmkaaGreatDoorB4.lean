/- Bytes that the call gathers in a slice of its own, beside a struct of four cells that it laid first. -/
import Derived.Test.YtlfbcaenlifmkaaGreatDoorRows
import Derived.WalkKit
import Derived.WalkSpells
import Derived.Laws.BytesArg
import Derived.Test.YtlfbcaenlifmkaaGreatDoorB3
import Derived.Deep.RegionHeld3
namespace Go.Proofs.YtlfbcaenlifmkaaGreatDoor
open Go.RowKit
namespace Sc
def B (c : UInt8) : Value := .int .u8 c.toNat
theorem info_u8 : (Tryz.prog.info? 5).map (fun i => (i.zero, i.size, i.bytes)) = some (some (.int .u8 0), 1, 1) := by kernel_rfl
/-- What an owned row's value looks like. -/
theorem own_slice {w : World} {base : Nat} {e : TypeId} {size : Nat} {v : Value} {n : Nat} {xs : List Value} (h : w.ownsRow base e size v n xs) : ∃ a c, v = .slice a n c := by
  rcases h.2 with ⟨rfl, rfl⟩ | ⟨g, cap, _, rfl, _⟩
  · exact ⟨none, 0, rfl⟩
  · exact ⟨_, _, rfl⟩
theorem strOf_B (l : List UInt8) : strOfNums (l.map fun x => (x.toNat : Int)) = ⟨l.toArray⟩ := by
  unfold strOfNums
  have : (l.map fun x => (x.toNat : Int)).map (fun n : Int => UInt8.ofNat n.toNat) = l := by
    rw [List.map_map]
    induction l with
    | nil => rfl
    | cons x r ih => simp only [List.map_cons, ih]; congr 1; simp
  simp only [List.map_map] at this ⊢
  rw [this]
theorem conv_own {w : World} {base : Nat} {v : Value} {l : List UInt8} (h : w.ownsRow base 5 1 v l.length (l.map B)) :
    (convert 43 9 v).run Tryz.prog w = .ok (.string ⟨l.toArray⟩) w := by
  have hc := h
  rcases h.2 with ⟨rfl, hn⟩ | ⟨g, cap, _, rfl, _⟩
  · obtain rfl := List.eq_nil_of_length_eq_zero hn
    exact run_convert_bytes_nil (P := Tryz.prog) w 43 5 Tryz.underlying43 Tryz.underlying5 0 0 9 Tryz.underlying9
  · have := run_convert_bytes_arg (P := Tryz.prog) w 43 5 Tryz.underlying43 Tryz.underlying5 g 0 l.length cap (l.map fun x => (x.toNat : Int)) (by simp)
      (fun i hi => by
        have := hc.cellAt i (by omega)
        rw [Nat.zero_add, this]
        simp only [List.getElem?_map, List.getD, List.getElem?_eq_getElem hi]
        rfl) 9 Tryz.underlying9
    rw [strOf_B] at this
    exact this
/-- The memory of a call that laid one struct (block b) and gathers bytes. -/
structure QMem (w wr : World) (z : Array Value) (t : TypeId) (v : Value) (acc : List UInt8) : Prop where
  own : wr.ownsRow (w.heap.size + 1) 5 1 v acc.length (acc.map B)
  blk : wr.heap[w.heap.size]? = some (.cells z t (0, 0))
  lt : w.heap.size < wr.heap.size
  bel : Below w.heap.size w wr
theorem QMem.start (w : World) (z : Array Value) (t : TypeId) : QMem w (w.alloc (.cells z t)) z t (.slice none 0 0) [] where
  own := World.ownsRow_nil _ _ _ _
  blk := heap_alloc_new w _
  lt := by simp
  bel := (Below.refl _ _).alloc (Nat.le_refl _) _
theorem QMem.grow {w wr w' : World} {z : Array Value} {t : TypeId} {v v' : Value} {acc : List UInt8} (h : QMem w wr z t v acc) (o : Obj) (c : UInt8)
    (hown : w'.ownsRow (w.heap.size + 1) 5 1 v' (acc.length + 1) (acc.map B ++ [B c])) (hg : (wr.alloc o).grownBy w' v.ownBlock) : QMem w w' z t v' (acc ++ [c]) where
  own := by rw [List.map_append, List.length_append]; exact hown
  blk := by
    have hne : some w.heap.size ≠ v.ownBlock := by
      rcases h.own.2 with ⟨rfl, _⟩ | ⟨g, cap, _, rfl, hg, _⟩
      · simp [Value.ownBlock]
      · simp only [Value.ownBlock]; intro e; cases e; omega
    rw [hg.block _ (by simp; have := h.lt; omega) hne, Below.heap_alloc _ _ _ h.lt]
    exact h.blk
  lt := by have h1 := hg.size; have h2 := h.lt; simp at h1; omega
  bel := by
    refine (h.bel.alloc (Nat.le_of_lt h.lt) o).grown hg (by simp; have := h.lt; omega) ?_
    intro k hk
    rcases h.own.2 with ⟨rfl, _⟩ | ⟨g, cap, _, rfl, hg, _⟩
    · simp [Value.ownBlock] at hk
    · simp only [Value.ownBlock] at hk; cases hk; omega
/-- A block of four cells, known whole. -/
theorem four_blk {w : World} {b : Nat} {t : TypeId} {v0 v1 v2 v3 : Value} (h : w.heap[b]? = some (.cells #[v0, v1, v2, v3] t (0, 0))) :
    (w.cell? ⟨b, 0, none⟩ = some v0 ∧ w.cell? ⟨b, 1, none⟩ = some v1 ∧ w.cell? ⟨b, 2, none⟩ = some v2 ∧ w.cell? ⟨b, 3, none⟩ = some v3) ∧
    (w.frozen? ⟨b, 0, none⟩ = false ∧ w.frozen? ⟨b, 1, none⟩ = false ∧ w.frozen? ⟨b, 2, none⟩ = false ∧ w.frozen? ⟨b, 3, none⟩ = false) := by
  refine ⟨⟨?_, ?_, ?_, ?_⟩, ⟨?_, ?_, ?_, ?_⟩⟩ <;> simp [World.cell?, World.frozen?, h]
end Sc
end Go.Proofs.YtlfbcaenlifmkaaGreatDoor
namespace Go.Proofs.YtlfbcaenlifmkaaGreatDoor
open Go.RowKit
namespace Tr
open Sc
/-- The blocks of w are as they were, but for block rb; there may be new ones. -/
abbrev Only (rb : Nat) (w w' : World) : Prop := w.grownBy w' (some rb)
theorem Only.refl (rb : Nat) (w : World) : Only rb w w := ⟨rfl, rfl, rfl, Nat.le_refl _, fun _ _ _ => rfl⟩
theorem Only.trans {rb : Nat} {a b c : World} (h : Only rb a b) (k : Only rb b c) : Only rb a c :=
  ⟨k.os.trans h.os, k.tape.trans h.tape, k.output.trans h.output, Nat.le_trans h.size k.size, fun i hi hn => (k.block i (Nat.lt_of_lt_of_le hi h.size) hn).trans (h.block i hi hn)⟩
theorem Only.of_below {rb : Nat} {w w' : World} (h : Below w.heap.size w w') : Only rb w w' := ⟨h.os, h.tape, h.output, h.size, fun k hk _ => h.block k hk⟩
theorem Only.alloc (rb : Nat) (w : World) (o : Obj) : Only rb w (w.alloc o) := World.grownBy_alloc w o _
theorem Only.below {rb B : Nat} {w w' : World} (h : Only rb w w') (hb : B ≤ rb) (hB : B ≤ w.heap.size) : Below B w w' :=
  ⟨h.os, h.tape, h.output, h.size, fun k hk => h.block k (Nat.lt_of_lt_of_le hk hB) (fun e => by cases e; omega)⟩
theorem Only.setCell {rb : Nat} {w w' : World} (h : Only rb w w') (o : Nat) (v : Value) : Only rb w (w'.setCell ⟨rb, o, none⟩ v) := by
  refine ⟨h.os, h.tape, h.output, by simpa using h.size, fun k hk hn => ?_⟩
  rw [← h.block k hk hn]
  unfold World.setCell
  simp only [Array.getElem?_modify]
  rw [if_neg (fun e => hn (by rw [e]))]
/-- A store into a block that is new. -/
theorem Only.setNew {rb : Nat} {w w' : World} (h : Only rb w w') (b o : Nat) (v : Value) (hb : w.heap.size ≤ b) : Only rb w (w'.setCell ⟨b, o, none⟩ v) := by
  refine ⟨h.os, h.tape, h.output, by simpa using h.size, fun k hk hn => ?_⟩
  rw [← h.block k hk hn]
  unfold World.setCell
  simp only [Array.getElem?_modify]
  rw [if_neg (fun e => by omega)]
theorem Only.drew {rb : Nat} {w w' : World} (h : Only rb w w') : Only rb w w'.drew := ⟨h.os, h.tape, h.output, h.size, h.block⟩
theorem Only.cell {rb : Nat} {w w' : World} (h : Only rb w w') {b o : Nat} (hb : b < w.heap.size) (hn : b ≠ rb) : w'.cell? ⟨b, o, none⟩ = w.cell? ⟨b, o, none⟩ :=
  World.cell?_of_block (h.block b hb (fun e => hn (by cases e; rfl)))
theorem Only.blk {rb : Nat} {w w' : World} (h : Only rb w w') {b : Nat} {o : Obj} (hb : w.heap[b]? = some o) (hn : b ≠ rb) : w'.heap[b]? = some o :=
  (h.block b (Array.getElem?_eq_some_iff.1 hb).1 (fun e => hn (by cases e; rfl))).trans hb
def str (l : List UInt8) : Value := .string ⟨l.toArray⟩
def tokV (t : T) : Value := .agg #[.int .i64 t.kind, .string ⟨t.text.toArray⟩, .int .i64 t.n, .int .i64 t.at_]
/-- The words that are not read yet. -/
def Words (w : World) (rb : Nat) (a : Option Addr) (ts : List T) : Prop :=
  ts = [] ∨ ∃ g o, a = some ⟨g, o, none⟩ ∧ g < rb ∧ g < w.heap.size ∧ ∀ i (h : i < ts.length),
    w.cell? ⟨g, o + i * 4, none⟩ = some (.int .i64 ts[i].kind) ∧ w.cell? ⟨g, o + i * 4 + 1, none⟩ = some (.string ⟨ts[i].text.toArray⟩) ∧
    w.cell? ⟨g, o + i * 4 + 2, none⟩ = some (.int .i64 ts[i].n) ∧ w.cell? ⟨g, o + i * 4 + 3, none⟩ = some (.int .i64 ts[i].at_)
def Small (t : T) : Prop := t.at_ ≤ 4000 ∧ t.text.length ≤ 4000
/-- The reader's block: what is not read yet, the byte behind the last word, the first error, the brackets that are open. -/
structure Rd (w : World) (rb : Nat) (r : R) (br : Nat) (a : Option Addr) (c : Nat) : Prop where
  blk : w.heap[rb]? = some (.cells #[.slice a r.ws.length c, .int .i64 r.en, .int .i64 r.err, .int .i64 br] 122 (0, 0))
  cap : r.ws.length ≤ c
  max : c ≤ maxLen
  sml : ∀ t ∈ r.ws, Small t
  words : Words w rb a r.ws
theorem Rd.lt {w : World} {rb : Nat} {r : R} {br : Nat} {a : Option Addr} {c : Nat} (h : Rd w rb r br a c) : rb < w.heap.size := (Array.getElem?_eq_some_iff.1 h.blk).1
theorem fset0 {w : World} {b : Nat} {t : TypeId} {v0 v1 v2 v3 : Value} (h : w.heap[b]? = some (.cells #[v0, v1, v2, v3] t (0, 0))) (v : Value) : (w.setCell ⟨b, 0, none⟩ v).heap[b]? = some (.cells #[v, v1, v2, v3] t (0, 0)) := by
  unfold World.setCell; simp [Array.getElem?_modify, h]
theorem fset1 {w : World} {b : Nat} {t : TypeId} {v0 v1 v2 v3 : Value} (h : w.heap[b]? = some (.cells #[v0, v1, v2, v3] t (0, 0))) (v : Value) : (w.setCell ⟨b, 1, none⟩ v).heap[b]? = some (.cells #[v0, v, v2, v3] t (0, 0)) := by
  unfold World.setCell; simp [Array.getElem?_modify, h]
theorem fset2 {w : World} {b : Nat} {t : TypeId} {v0 v1 v2 v3 : Value} (h : w.heap[b]? = some (.cells #[v0, v1, v2, v3] t (0, 0))) (v : Value) : (w.setCell ⟨b, 2, none⟩ v).heap[b]? = some (.cells #[v0, v1, v, v3] t (0, 0)) := by
  unfold World.setCell; simp [Array.getElem?_modify, h]
theorem fset3 {w : World} {b : Nat} {t : TypeId} {v0 v1 v2 v3 : Value} (h : w.heap[b]? = some (.cells #[v0, v1, v2, v3] t (0, 0))) (v : Value) : (w.setCell ⟨b, 3, none⟩ v).heap[b]? = some (.cells #[v0, v1, v2, v] t (0, 0)) := by
  unfold World.setCell; simp [Array.getElem?_modify, h]
/-- What one step of the reader leaves of the two blocks that it writes. -/
theorem step_end {w w1 : World} {rb : Nat} (hrb : rb < w.heap.size) (hw1 : w.heap.size < w1.heap.size) (B1 : Below w.heap.size w w1) {x0 x1 x2 x3 y0 y1 y2 y3 : Value} {t t' : TypeId}
    (E1 : w1.heap[rb]? = some (.cells #[x0, x1, x2, x3] t (0, 0))) (E2 : w1.heap[w.heap.size]? = some (.cells #[y0, y1, y2, y3] t' (0, 0))) (p0 p1 z0 z1 z2 z3 : Value) (o : Obj) (W : World)
    (hW : W = (((((((w1.setCell ⟨rb, 0, none⟩ p0).setCell ⟨rb, 1, none⟩ p1).setCell ⟨w.heap.size, 0, none⟩ z0).setCell ⟨w.heap.size, 1, none⟩ z1).setCell ⟨w.heap.size, 2, none⟩ z2).setCell ⟨w.heap.size, 3, none⟩ z3).alloc o).drew) :
    W.heap[rb]? = some (.cells #[p0, p1, x2, x3] t (0, 0)) ∧ W.heap[w.heap.size]? = some (.cells #[z0, z1, z2, z3] t' (0, 0)) ∧ Only rb w W := by
  have o2 := ((Only.refl rb w1).setCell 0 p0).setCell 1 p1
  have R2 := fset1 (fset0 E1 p0) p1
  generalize (w1.setCell ⟨rb, 0, none⟩ p0).setCell ⟨rb, 1, none⟩ p1 = w3 at *
  have C2 := o2.blk E2 (by omega)
  have o6 := ((((Only.refl w.heap.size w3).setCell 0 z0).setCell 1 z1).setCell 2 z2).setCell 3 z3
  have q := (((((Only.of_below B1).trans o2).setNew w.heap.size 0 z0 (Nat.le_refl _)).setNew w.heap.size 1 z1 (Nat.le_refl _)).setNew w.heap.size 2 z2 (Nat.le_refl _)).setNew w.heap.size 3 z3 (Nat.le_refl _)
  have C6 := fset3 (fset2 (fset1 (fset0 C2 z0) z1) z2) z3
  generalize (((w3.setCell ⟨w.heap.size, 0, none⟩ z0).setCell ⟨w.heap.size, 1, none⟩ z1).setCell ⟨w.heap.size, 2, none⟩ z2).setCell ⟨w.heap.size, 3, none⟩ z3 = w7 at *
  have R6 := o6.blk R2 (by omega)
  have s6 := o6.size
  have s2 := o2.size
  subst hW
  exact ⟨(Below.heap_alloc w7 o _ (by omega)).trans R6, (Below.heap_alloc w7 o _ (by omega)).trans C6, (q.trans (Only.alloc rb w7 o)).drew⟩
theorem Words.keep {w w' : World} {rb : Nat} {a : Option Addr} {ts : List T} (h : Words w rb a ts) (hw : Only rb w w') : Words w' rb a ts := by
  rcases h with h | ⟨g, o, ha, hg, hlt, hc⟩
  · exact .inl h
  · exact .inr ⟨g, o, ha, hg, Nat.lt_of_lt_of_le hlt hw.size, fun i hi => by rw [hw.cell hlt (Nat.ne_of_lt hg), hw.cell hlt (Nat.ne_of_lt hg), hw.cell hlt (Nat.ne_of_lt hg), hw.cell hlt (Nat.ne_of_lt hg)]; exact hc i hi⟩
/-- A reader stays as it is while only new memory is made. -/
theorem Rd.keep {w w' : World} {rb : Nat} {r : R} {br : Nat} {a : Option Addr} {c : Nat} (h : Rd w rb r br a c) (hw : Below w.heap.size w w') : Rd w' rb r br a c :=
  ⟨(hw.block _ h.lt).trans h.blk, h.cap, h.max, h.sml, h.words.keep (Only.of_below hw)⟩
theorem Rd.at_in {w : World} {rb : Nat} {r : R} {br : Nat} {a : Option Addr} {c : Nat} (h : Rd w rb r br a c) (n : Nat) (hn : n < r.ws.length) :
    ∃ g o, a = some ⟨g, o, none⟩ ∧ g < rb ∧ g < w.heap.size ∧ w.cell? ⟨g, o + n * 4, none⟩ = some (.int .i64 (r.at_ n).kind) ∧ w.cell? ⟨g, o + n * 4 + 1, none⟩ = some (.string ⟨(r.at_ n).text.toArray⟩) ∧
      w.cell? ⟨g, o + n * 4 + 2, none⟩ = some (.int .i64 (r.at_ n).n) ∧ w.cell? ⟨g, o + n * 4 + 3, none⟩ = some (.int .i64 (r.at_ n).at_) := by
  have e : r.at_ n = r.ws[n] := by unfold R.at_; rw [List.getD_eq_getElem?_getD, List.getElem?_eq_getElem hn]; rfl
  rw [e]
  rcases h.words with hz | ⟨g, o, ha, hg, hlt, hc⟩
  · rw [hz] at hn; exact absurd hn (Nat.not_lt_zero _)
  · exact ⟨g, o, ha, hg, hlt, hc n hn⟩
theorem at_beyond (r : R) (n : Nat) (hn : r.ws.length ≤ n) : r.at_ n = noT := by
  unfold R.at_; rw [List.getD_eq_getElem?_getD, List.getElem?_eq_none hn]; rfl
theorem Rd.small_at {w : World} {rb : Nat} {r : R} {br : Nat} {a : Option Addr} {c : Nat} (h : Rd w rb r br a c) (n : Nat) : Small (r.at_ n) := by
  by_cases hn : n < r.ws.length
  · have e : r.at_ n = r.ws[n] := by unfold R.at_; rw [List.getD_eq_getElem?_getD, List.getElem?_eq_getElem hn]; rfl
    rw [e]; exact h.sml _ (List.getElem_mem hn)
  · rw [at_beyond r n (by omega)]; exact ⟨Nat.zero_le _, Nat.zero_le _⟩
/-- The reader, wherever its words lie. -/
def RdE (w : World) (rb : Nat) (r : R) (br : Nat) : Prop := ∃ a c, Rd w rb r br a c
theorem RdE.lt {w : World} {rb : Nat} {r : R} {br : Nat} (h : RdE w rb r br) : rb < w.heap.size := by obtain ⟨a, c, h⟩ := h; exact h.lt
theorem RdE.keep {w w' : World} {rb : Nat} {r : R} {br : Nat} (h : RdE w rb r br) (hw : Below w.heap.size w w') : RdE w' rb r br := by
  obtain ⟨a, c, h⟩ := h; exact ⟨a, c, h.keep hw⟩
/-- What a call of the reader's leaves: what it returned, the reader further on, nothing else turned. -/
def Post (w : World) (rb : Nat) (r : R) (br : Nat) (v : Value) (e : Ending) (w' : World) : Prop := e = .returned v ∧ RdE w' rb r br ∧ Only rb w w'
/-- One word on: the words behind the first. -/
theorem tail_words {w w' : World} {rb : Nat} {t : T} {ts : List T} {g o : Nat} (h : Words w rb (some ⟨g, o, none⟩) (t :: ts)) (hw : Only rb w w') : Words w' rb (some ⟨g, o + 4, none⟩) ts := by
  rcases h with h | ⟨g', o', ha, hg, hlt, hc⟩
  · cases h
  · cases ha
    refine .inr ⟨_, _, rfl, hg, Nat.lt_of_lt_of_le hlt hw.size, fun i hi => ?_⟩
    rw [hw.cell hlt (Nat.ne_of_lt hg), hw.cell hlt (Nat.ne_of_lt hg), hw.cell hlt (Nat.ne_of_lt hg), hw.cell hlt (Nat.ne_of_lt hg)]
    have := hc (i + 1) (by simpa using hi)
    simp only [List.getElem_cons_succ] at this
    rw [show o + 4 + i * 4 = o + (i + 1) * 4 by omega]
    exact this
theorem beq_dec (l m : List UInt8) : (l == m) = decide (l = m) := by by_cases h : l = m <;> simp [h]
theorem ret_bool {a b : Bool} (h : a = b) : Ending.returned (.bool a) = .returned (.bool b) := by rw [h]
end Tr
end Go.Proofs.YtlfbcaenlifmkaaGreatDoor
