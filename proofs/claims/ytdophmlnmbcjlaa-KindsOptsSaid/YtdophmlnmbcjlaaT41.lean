/- function: the numbers of what a function takes and answers. -/
import Derived.Test.YtdophmlnmbcjlaaT40
import Derived.Test.YtdophmlnmbcjlaaT17
import Derived.Deep.RegionHeld3
namespace Go.Proofs.Ytdophmlnmbcjlaa
open Go.RowKit
namespace Sp
open Sc
set_option maxRecDepth 100000
theorem Added.off {w wr w2 : World} {tb rb nb mb sb m rb' nb' : Nat} {T : List Kz} {ty' nu' : Value} (h : Added w wr tb rb nb mb sb m T rb' nb' ty' nu') {X : Nat → Prop} (hk : Keeps X wr w2) (hX : ∀ g, X g → w.heap.size ≤ g ∧ ¬ Own tb rb' nb' g) : Added w w2 tb rb nb mb sb m T rb' nb' ty' nu' :=
  ⟨h.tab.keep (fun g hg => hk.block g (h.tab.lt hg) (fun hx => (hX g hx).2 hg)) hk.size, h.keeps.trans hk (fun g hx => .inr (hX g hx).1), h.grew⟩
theorem Added.below {w wr w2 : World} {tb rb nb mb sb m rb' nb' : Nat} {T : List Kz} {ty' nu' : Value} (h : Added w wr tb rb nb mb sb m T rb' nb' ty' nu') (hb : Below wr.heap.size wr w2) : Added w w2 tb rb nb mb sb m T rb' nb' ty' nu' :=
  h.off (X := fun _ => False) (Keeps.of_below hb) (fun _ h => h.elim)
/-- A block of other cells is none of the table's. -/
theorem TabV.other {w : World} {tb rb nb mb sb m : Nat} {ty nu : Value} {T : List Kz} (h : TabV w tb rb nb mb sb m ty nu T) {g : Nat} {cs : Array Value} {t : TypeId} (hg : w.heap[g]? = some (.cells cs t (0, 0))) (h1 : t ≠ 75) (h2 : t ≠ 91) : ¬ Own tb rb nb g := fun ho => by
  rcases h.kinds ho with ⟨cs', t', e1, e2⟩ | ⟨-, es, c, e1⟩
  · rw [hg] at e1
    simp only [Option.some.injEq, Obj.cells.injEq] at e1
    rcases e2 with e2 | e2
    · exact h1 (e1.2.1.trans e2)
    · exact h2 (e1.2.1.trans e2)
  · rw [hg] at e1; cases e1
theorem IdsV.blk {w : World} {v : Value} {ids : List Nat} (h : IdsV w v ids) {g : Nat} (hg : v.ownBlock = some g) : ∃ cs, w.heap[g]? = some (.cells cs 3 (0, 0)) := by
  obtain ⟨-, h2⟩ := h
  rcases h2 with ⟨rfl, -⟩ | ⟨g', cap, cur, rfl, -, e3, -⟩
  · cases hg
  · cases hg; exact ⟨_, e3⟩
theorem IdsV.same {w w' : World} {v : Value} {ids : List Nat} (h : IdsV w v ids) (hk : ∀ g, v.ownBlock = some g → w'.heap[g]? = w.heap[g]?) : IdsV w' v ids := by
  obtain ⟨h1, h2⟩ := h
  refine ⟨h1, ?_⟩
  rcases h2 with h2 | ⟨g, cap, cur, rfl, e2, e3, e4⟩
  · exact .inl h2
  · exact .inr ⟨g, cap, cur, rfl, e2, (hk g rfl).trans e3, e4⟩
theorem IdsV.slice {w : World} {v : Value} {ids : List Nat} (h : IdsV w v ids) : ∃ a c, v = .slice a ids.length c := by
  obtain ⟨-, h2⟩ := h
  rcases h2 with ⟨rfl, e⟩ | ⟨g', cap, cur, rfl, -⟩
  · rw [e]; exact ⟨none, 0, rfl⟩
  · exact ⟨_, _, rfl⟩
/-- The loop over the parameters. -/
structure FcR (w : World) (tb rb nb mb sb m : Nat) (has : List UInt8 → Bool) (T : List Kz) (ps : List Tz) (gc : Array Value) (iv : Value) (wr : World) (j : Nat) (ids : List Nat) (Tj : List Kz) (rb' nb' : Nat) (ty' nu' v : Value) : Prop where
  slot : iv = .int .i64 j
  le : j ≤ ps.length
  done : parK has T (ps.take j) = (ids, 0, Tj)
  ad : Added w wr tb rb nb mb sb m Tj rb' nb' ty' nu'
  gbx : wr.heap[w.heap.size]? = some (.cells gc 46 (0, 0))
  fbx : wr.heap[w.heap.size + 1]? = some (.cells #[v, .int .i64 0] 78 (0, 0))
  ids : IdsV wr v ids
  own : ∀ g, v.ownBlock = some g → w.heap.size ≤ g
theorem infoI : (Try.prog.info? 3).map (fun i => (i.zero, i.size, i.bytes)) = some (some (.int .i64 0), 1, 8) := by kernel_rfl
theorem parK_len2 {has : List UInt8 → Bool} : ∀ (ks : List Tz) (T : List Kz), (parK has T ks).2.1 = 0 → (parK has T ks).1.length = ks.length
  | [], T, _ => by rw [parK]; rfl
  | t :: ks, T, h => by
    rw [parK] at h ⊢
    split at h
    · rename_i h1
      rw [if_pos h1]
      simp [parK_len2 ks (addK has T t).2.2 h]
    · rename_i h1; exact absurd h h1
theorem two_set0 {w : World} {b : Nat} {t : TypeId} {v0 v1 : Value} (h : w.heap[b]? = some (.cells #[v0, v1] t (0, 0))) (v : Value) : (w.setCell ⟨b, 0, none⟩ v).heap[b]? = some (.cells #[v, v1] t (0, 0)) := by
  unfold World.setCell; simp [Array.getElem?_modify, h]
theorem fbv {w3 : World} {fb : Nat} {v z : Value} {ids : List Nat} (hfb : w3.heap[fb]? = some (.cells #[v, z] 78 (0, 0))) (hids : IdsV w3 v ids) : v.ownBlock ≠ some fb := fun e => by
  obtain ⟨cs, hc⟩ := hids.blk e
  rw [hfb] at hc
  simp only [Option.some.injEq, Obj.cells.injEq] at hc
  exact absurd hc.2.1 (by decide)
theorem ids_ne {w3 : World} {b : Nat} {v : Value} {ids : List Nat} {cs : Array Value} {t : TypeId} (hb : w3.heap[b]? = some (.cells cs t (0, 0))) (hids : IdsV w3 v ids) (ht : t ≠ 3) : v.ownBlock ≠ some b := fun e => by
  obtain ⟨cs', hc⟩ := hids.blk e
  rw [hb] at hc
  simp only [Option.some.injEq, Obj.cells.injEq] at hc
  exact ht hc.2.1
/-- One number more in a function's row. -/
theorem fn_app {w w3 w4 : World} {tb rb nb mb sb m rb2 nb2 fb g cap q : Nat} {T : List Kz} {ty2 nu2 v z : Value} {ids : List Nat} {o : Obj} (had : Added w w3 tb rb nb mb sb m T rb2 nb2 ty2 nu2) (hids : IdsV w3 v ids) (hown : ∀ g, v.ownBlock = some g → w.heap.size ≤ g) (hfb : w3.heap[fb]? = some (.cells #[v, z] 78 (0, 0))) (hfw : w.heap.size ≤ fb)
    (hgr : (w3.alloc o).grownBy w4 v.ownBlock) (hnew : w4.ownsRow 0 3 1 (.slice (some ⟨g, 0, none⟩) (ids.length + 1) cap) (ids.length + 1) (ids.map (fun i => .int .i64 (i : Nat)) ++ [.int .i64 (q : Nat)])) (hat : v.ownBlock = some g ∨ g = w3.heap.size + 1) :
    Added w (w4.setCell ⟨fb, 0, none⟩ (.slice (some ⟨g, 0, none⟩) (ids.length + 1) cap)) tb rb nb mb sb m T rb2 nb2 ty2 nu2 ∧ IdsV (w4.setCell ⟨fb, 0, none⟩ (.slice (some ⟨g, 0, none⟩) (ids.length + 1) cap)) (.slice (some ⟨g, 0, none⟩) (ids.length + 1) cap) (ids ++ [q]) ∧
    (w4.setCell ⟨fb, 0, none⟩ (.slice (some ⟨g, 0, none⟩) (ids.length + 1) cap)).heap[fb]? = some (.cells #[.slice (some ⟨g, 0, none⟩) (ids.length + 1) cap, z] 78 (0, 0)) ∧
    (∀ b, b < w3.heap.size → v.ownBlock ≠ some b → b ≠ fb → (w4.setCell ⟨fb, 0, none⟩ (.slice (some ⟨g, 0, none⟩) (ids.length + 1) cap)).heap[b]? = w3.heap[b]?) ∧ w.heap.size ≤ g := by
  have hfl := (Array.getElem?_eq_some_iff.1 hfb).1
  have hvf : v.ownBlock ≠ some fb := fun e => by
    obtain ⟨cs, hc⟩ := hids.blk e
    rw [hfb] at hc
    simp only [Option.some.injEq, Obj.cells.injEq] at hc
    exact absurd hc.2.1 (by decide)
  have hw3 := had.keeps.size
  have hold : ∀ b, b < w3.heap.size → v.ownBlock ≠ some b → w4.heap[b]? = w3.heap[b]? := fun b hb hv => (hgr.block b (by simp; omega) (fun e => hv e.symm)).trans (Below.heap_alloc _ _ _ hb)
  have hf4 := (hold fb hfl hvf).trans hfb
  have hgf : g ≠ fb := fun e => by
    obtain ⟨-, h2⟩ := hnew
    rcases h2 with ⟨h2, -⟩ | ⟨g', cap', cur, e1, -, e3, -⟩
    · cases h2
    · cases e1
      rw [e, hf4] at e3
      simp only [Option.some.injEq, Obj.cells.injEq] at e3
      exact absurd e3.2.1 (by decide)
  have hset : ∀ b, b ≠ fb → (w4.setCell ⟨fb, 0, none⟩ (.slice (some ⟨g, 0, none⟩) (ids.length + 1) cap)).heap[b]? = w4.heap[b]? := fun b hb => RowKit.Below.heap_setCell _ _ _ _ hb
  have hgs := hgr.size
  simp at hgs
  have hK : Keeps (fun b => v.ownBlock = some b ∨ b = fb) w3 (w4.setCell ⟨fb, 0, none⟩ (.slice (some ⟨g, 0, none⟩) (ids.length + 1) cap)) :=
    ⟨hgr.os, hgr.tape, hgr.output, by simp; omega, fun b hb hn => (hset b (fun e => hn (.inr e))).trans (hold b hb (fun e => hn (.inl e)))⟩
  refine ⟨had.off hK fun b hb => ?_, ?_, two_set0 hf4 _, fun b hb hv hbf => (hset b hbf).trans (hold b hb hv), ?_⟩
  · rcases hb with hb | rfl
    · obtain ⟨cs, hc⟩ := hids.blk hb
      exact ⟨hown b hb, had.tab.other hc (by decide) (by decide)⟩
    · exact ⟨hfw, had.tab.other hfb (by decide) (by decide)⟩
  · have hn : IdsV w4 (.slice (some ⟨g, 0, none⟩) (ids.length + 1) cap) (ids ++ [q]) := by
      unfold IdsV
      rw [List.length_append, List.map_append]; exact hnew
    exact hn.same fun b hb => by cases hb; exact hset g hgf
  · rcases hat with h | h
    · exact hown g h
    · omega
theorem fns_snoc {G : List GN} {vs : List Value} (h : vs.length = G.length) (x : GN) (v : Value) : ((G ++ [x]).map (·.1)).zip (List.zipWith (fun v (x : GN) => Value.agg #[v, .int .i64 (x.2.2 : Nat)]) (vs ++ [v]) (G ++ [x])) = (G.map (·.1)).zip (List.zipWith (fun v (x : GN) => Value.agg #[v, .int .i64 (x.2.2 : Nat)]) vs G) ++ [(x.1, .agg #[v, .int .i64 (x.2.2 : Nat)])] := by
  rw [List.zipWith_append h, List.map_append, List.zip_append (by simp [h])]
  rfl
/-- A function's numbers stand in the map. -/
theorem fn_done {B : Nat} {w w3 w6 w7 : World} {tb rb nb mb sb m rb2 nb2 fb r : Nat} {ty nu ty2 nu2 v z z' : Value} {T T' : List Kz} {N : List NN} {G : List GN} {vs : List Value} {ids : List Nat} {name : List UInt8} (hst : StV B w tb rb nb mb sb m ty nu T N G vs) (hB : B ≤ w.heap.size) (ad : Added w w3 tb rb nb mb sb m T' rb2 nb2 ty2 nu2)
    (hfb : w3.heap[fb]? = some (.cells #[v, z] 78 (0, 0))) (hfw : w.heap.size ≤ fb) (hids : IdsV w3 v ids) (x6 : Below (w3.setCell ⟨fb, 1, none⟩ z').drew.heap.size (w3.setCell ⟨fb, 1, none⟩ z').drew w6) (hg : w6.grownBy w7 (some sb))
    (hN : TxtV w7 sb ((G.map (·.1)).zip (List.zipWith (fun v (x : GN) => Value.agg #[v, .int .i64 (x.2.2 : Nat)]) vs G) ++ [(name, .agg #[v, .int .i64 (r : Nat)])])) :
    StV B w7 tb rb2 nb2 mb sb m ty2 nu2 T' N (G ++ [(name, ids, r)]) (vs ++ [v]) ∧ Below B w w7 ∧ Keeps (TabO tb rb nb mb sb) w w7 ∧ Grew w tb rb nb rb2 nb2 := by
  have hk5 : Keeps (fun b => b = fb) w3 w6 := ((Keeps.refl (fun b => b = fb) w3).setCell 1 z' rfl).trans (O' := fun _ => False) (show Keeps _ (w3.setCell ⟨fb, 1, none⟩ z') w6 from ⟨x6.os, x6.tape, x6.output, x6.size, fun g hg _ => x6.block g hg⟩) (fun _ h => h.elim)
  have ad6 : Added w w6 tb rb nb mb sb m T' rb2 nb2 ty2 nu2 := ad.off hk5 fun b hb => by
    subst hb
    exact ⟨hfw, ad.tab.other hfb (by decide) (by decide)⟩
  have hs6 := hst.tab.sgs ad6.keeps hst.sgs
  obtain ⟨es, c, hm⟩ := hs6.map.isMap
  have hint : ∀ (g : Nat) (cs : Array Value) (fr : Nat × Nat), w6.heap[g]? = some (Obj.cells cs 3 fr) → w7.heap[g]? = w6.heap[g]? := fun g cs fr h => hg.block g (Array.getElem?_eq_some_iff.1 h).1 (fun e => by cases e; rw [hm] at h; cases h)
  have hown : ∀ g, Own tb rb2 nb2 g → g ≠ sb := fun g ho e => by
    subst e
    rcases ad6.tab.kinds ho with ⟨cs, t, h1, -⟩ | ⟨h1, -⟩
    · rw [hm] at h1; cases h1
    · exact ad6.tab.ns h1.symm
  have hids6 : IdsV w6 v ids := hids.same fun g hg => hk5.block g (by obtain ⟨cs, hc⟩ := hids.blk hg; exact (Array.getElem?_eq_some_iff.1 hc).1) (fun e => fbv hfb hids (e ▸ hg))
  have hn6 := hst.tab.txt ad6.keeps (fun e => hst.tab.nm e.symm) hst.names
  refine ⟨⟨ad6.tab.keep (fun g ho => hg.block g (ad6.tab.lt ho) (by simpa using hown g ho)) hg.size, hn6.same (hg.block mb hn6.lt (by simpa using hst.ms)), ⟨by simp [hst.sgs.len], ?_, fun i h1 h2 => ?_⟩, fun g ho => ?_, hst.mlo, hst.slo, hst.ms⟩, ?_, (ad6.keeps.sub (fun g h => .inl h)).trans (Keeps.of_grown (O := fun g => g = sb) hg (fun g e => by cases e; rfl)) (fun g e => .inl (.inr (.inr e))), ad6.grew⟩
  · rw [fns_snoc hst.sgs.len]; exact hN
  · by_cases hi : i < G.length
    · rw [List.getElem_append_left hi, List.getElem_append_left (by rw [hst.sgs.len]; exact hi)]
      exact (hs6.row i hi (by rw [hst.sgs.len]; exact hi)).keep hint
    · have hi1 : i = G.length := by simp at h1; omega
      subst hi1
      rw [List.getElem_append_right (Nat.le_refl _), List.getElem_append_right (by rw [hst.sgs.len]; exact Nat.le_refl _)]
      simp only [hst.sgs.len, Nat.sub_self, List.getElem_cons_zero]
      exact hids6.keep hint
  · rcases ad6.grew.own g ho with h | h
    · exact hst.lo g h
    · omega
  · exact (ad6.keeps.below hB hst.lo).trans ⟨hg.os, hg.tape, hg.output, hg.size, fun k hk => hg.block k (by have := ad6.keeps.size; omega) (by have := hst.slo; simp; omega)⟩
set_option maxHeartbeats 16000000 in
theorem cfn_any (g : Sg) (x : List UInt8 × G6) (w : World) (B tb rb nb mb sb m : Nat) (ty nu : Value) (T : List Kz) (N : List NN) (G : List GN) (vs : List Value) (S : Nat → Prop) (hB : B ≤ w.heap.size) (hS : ∀ b, S b → b < B) (hV : SgV w S g x) (hst : StV B w tb rb nb mb sb m ty nu T N G vs)
    (hnm : g.name.length ≤ 1000) (hpl : g.params.length ≤ 1000) (hps : ∀ t ∈ g.params, fitZ t = true ∧ shortZ t = true) (hrs : fitZ g.result = true ∧ shortZ g.result = true) (hG : G.length < 1000000) :
    Calls Try.prog 47 #[.pointer (some ⟨tb, 0, none⟩), .agg #[.string ⟨x.1.toArray⟩, .slice x.2.ap x.2.lp x.2.cp, .int .i64 x.2.c.k, .string x.2.c.n, .slice x.2.c.an x.2.c.ln x.2.c.cn, .slice x.2.c.ak x.2.c.lk x.2.c.ck]] w fun e w' =>
      e = .returned (.int .i64 ((fnK (hasZ N) T g).2.1 : Nat)) ∧ Below B w w' ∧ ((fnK (hasZ N) T g).2.1 = 0 → ∃ rb' nb' ty' nu' vs', StV B w' tb rb' nb' mb sb m ty' nu' (fnK (hasZ N) T g).2.2 N (G ++ [(fnK (hasZ N) T g).1]) vs' ∧ Keeps (TabO tb rb nb mb sb) w w' ∧ Grew w tb rb nb rb' nb') := by
  obtain ⟨hx1, hx2, ⟨ps, hp1, hp2, hp3⟩, hres⟩ := hV
  obtain ⟨x, ⟨ap, lp, cp, ⟨x1, x2, x3, x4, x5, x6, x7, x8⟩⟩⟩ := x
  dsimp only at *
  subst hx1 hx2
  obtain ⟨full, hfull⟩ : ∃ full, full = fnK (hasZ N) T g := ⟨_, rfl⟩
  rw [← hfull]
  unfold fnK at hfull
  obtain ⟨GC, hGC⟩ : ∃ GC : Array Value, GC = #[.string ⟨g.name.toArray⟩, .slice ap g.params.length cp, .int .i64 x1, .string x2, .slice x3 x4 x5, .slice x6 x7 x8] := ⟨_, rfl⟩
  obtain ⟨W1, hW1⟩ : ∃ W1, W1 = (w.alloc (.cells #[.string ⟨g.name.toArray⟩, .slice ap g.params.length cp, .int .i64 x1, .string x2, .slice x3 x4 x5, .slice x6 x7 x8] 46)).alloc (.cells #[.slice none 0 0, .int .i64 0] 78) := ⟨_, rfl⟩
  have hz1 : W1.heap.size = w.heap.size + 2 := by rw [hW1]; simp
  have hb1 : Below w.heap.size w W1 := by rw [hW1]; exact ((Below.refl _ _).alloc (Nat.le_refl _) _).alloc (by simp) _
  have hg1 : W1.heap[w.heap.size]? = some (.cells GC 46 (0, 0)) := by rw [hGC, hW1, blk_if, if_neg (by simp), blk_if, if_pos rfl]
  have hf1 : W1.heap[w.heap.size + 1]? = some (.cells #[.slice none 0 0, .int .i64 0] 78 (0, 0)) := by rw [hW1, blk_if, if_pos (by simp)]
  obtain ⟨i0, hi, hi0, hi1, hi2⟩ := info_parts infoI
  have HW1 := Lib.hid hW1; have HB1 := Lib.hid hb1; have HG1 := Lib.hid hg1; have HF1 := Lib.hid hf1; have HST := Lib.hid hst; have HS := Lib.hid hS; have HP1 := Lib.hid hp1; have HP2 := Lib.hid hp2; have HP3 := Lib.hid hp3; have HRES := Lib.hid hres; have HPS := Lib.hid hps; have HRS := Lib.hid hrs; have HFULL := Lib.hid hfull; have HGC := Lib.hid hGC
  have HI := Lib.hid hi; have HI0 := Lib.hid hi0; have HI1 := Lib.hid hi1; have HI2 := Lib.hid hi2
  clear hW1 hb1 hg1 hf1 hst hS hp1 hp2 hp3 hres hps hrs hfull hGC hi hi0 hi1 hi2
  go_enter Try.func47, Try.ntmps47
  go_upto_region 2 with fail
  rw [← HW1.out]
  have gg := HG1.out
  rw [HGC.out] at gg
  obtain ⟨⟨p0, p1, p2, p3, p4, p5⟩, _⟩ := six_blkF gg
  clear gg
  go_wp2_with fail
  clear p0 p1 p2 p3 p4 p5
  go_loopw [15] (fun iv wr => ∃ j ids Tj rb' nb' ty' nu' v, FcR w tb rb nb mb sb m (hasZ N) T g.params GC iv wr j ids Tj rb' nb' ty' nu' v) (fun iv _ => g.params.length - (intOf iv).toNat)
  case atStart => exact ⟨0, [], T, rb, nb, ty, nu, .slice none 0 0, rfl, Nat.zero_le _, by rw [List.take_zero, parK], ⟨HST.out.tab.below HB1.out, Keeps.of_below HB1.out, Grew.refl _ _ _ _⟩, HG1.out, HF1.out, World.ownsRow_nil _ _ _ _, (fun g h => by cases h)⟩
  case round =>
    obtain ⟨j, ids, Tj, rb', nb', ty', nu', v, h⟩ := hrel
    obtain rfl := h.slot
    have hj := h.le
    have hwz := h.ad.keeps.size
    have hgz := (Array.getElem?_eq_some_iff.1 h.fbx).1
    have hidl : ids.length = j := by
      have := parK_len2 (has := hasZ N) (g.params.take j) T (by rw [h.done])
      rw [h.done] at this
      simpa [Nat.min_eq_left hj] using this
    obtain ⟨va, vc, rfl⟩ := h.ids.slice
    have H := Lib.hid h
    have HIDL := Lib.hid hidl
    clear hidl
    clear h
    by_cases hlt : j < g.params.length
    · have hlu : j < ps.length := by rw [HP1.out]; exact hlt
      have hjz : (j : Int) < (g.params.length : Int) := by omega
      have hj0 : (0 : Int) ≤ (j : Int) := by omega
      obtain ⟨b, o, rfl, hg, hc⟩ := four_at (wb := B) HP2.out HS.out j hlu
      have hlow : ∀ k, k < B → wr.heap[k]? = w.heap[k]? := fun k hk => H.out.ad.keeps.block k (by omega) (HST.out.far hk)
      obtain ⟨c0, c1, c2, c3⟩ := hc wr hlow
      have hTV := HP3.out j hlt hlu
      obtain ⟨ht1, ht2⟩ := HPS.out g.params[j] (List.getElem_mem hlt)
      have htk : g.params.take (j + 1) = g.params.take j ++ [g.params[j]] := by rw [List.take_add_one, List.getElem?_eq_getElem hlt]; rfl
      have hsn := parK_snoc (hasZ N) T (g.params.take j) g.params[j]
      rw [← htk, H.out.done] at hsn
      dsimp only at hsn
      rw [if_pos rfl] at hsn
      clear hc htk
      generalize g.params[j] = t at *
      generalize ps[j] = y at *
      obtain ⟨y1, y2, y3, y4, y5, y6, y7, y8⟩ := y
      dsimp only at *
      obtain ⟨W2, hW2⟩ : ∃ W2, W2 = wr.alloc (.cells #[.int .i64 y1, .string y2, .slice y3 y4 y5, .slice y6 y7 y8] 30) := ⟨_, rfl⟩
      have hBB : Below wr.heap.size wr W2 := by rw [hW2]; exact (Below.refl _ _).alloc (Nat.le_refl _) _
      have hzb := hBB.size
      have had := H.out.ad.below hBB
      have hN2 : TxtV W2 mb (encNN N) := HST.out.tab.txt had.keeps (fun e => HST.out.tab.nm e.symm) HST.out.names
      have hA := add_any t ht1 ht2 W2 tb rb' nb' mb sb m ty' nu' Tj N S ⟨y1, y2, y3, y4, y5, y6, y7, y8⟩ had.tab hN2 (hTV.keep (fun _ h => h) fun k hk => (hBB.block k (by have := HS.out k hk; omega)).trans (hlow k (HS.out k hk))) (fun k hk => ⟨by have := HS.out k hk; omega, fun ho => by
        rcases had.grew.own k ho with h | h
        · exact HST.out.far (HS.out k hk) h
        · have := HS.out k hk; omega⟩)
      dsimp only at hA
      obtain ⟨⟨q1, q2, q3⟩, hq⟩ : ∃ q, addK (hasZ N) Tj t = q := ⟨_, rfl⟩
      rw [hq] at hA hsn
      dsimp only at hA hsn
      have HA := Lib.hid hA; have HSN := Lib.hid hsn; have HBB := Lib.hid hBB; have HAD := Lib.hid had
      clear hA hsn hBB had hN2 hTV hlow hq ht1 ht2
      subst hW2
      by_cases h0 : q2 = 0
      · subst h0
        have hd := HSN.out
        rw [if_pos rfl] at hd
        have HD := Lib.hid hd
        clear hd
        go_wp2_with (first | (go_at_call 20; (refine HA.out.mono ?_); rintro e w3 ⟨rb2, nb2, ty2, nu2, rfl, ha⟩; have hz3 := ha.keeps.size; have fb2 := (HBB.out.block (w.heap.size + 1) hgz).trans H.out.fbx; have fb3 := (ha.keeps.block (w.heap.size + 1) (by omega) (HAD.out.tab.other fb2 (by decide) (by decide))).trans fb2; have gb2 := (HBB.out.block w.heap.size (by omega)).trans H.out.gbx; have gb3 := (ha.keeps.block w.heap.size (by omega) (HAD.out.tab.other gb2 (by decide) (by decide))).trans gb2; have ids2 := H.out.ids.same (fun k hk => HBB.out.block k (by obtain ⟨cs, hc⟩ := H.out.ids.blk hk; exact (Array.getElem?_eq_some_iff.1 hc).1)); have IDS3 := Lib.hid (HAD.out.tab.ids ha.keeps ids2); have AD3 := Lib.hid (HAD.out.trans ha); obtain ⟨⟨f0, -⟩, -⟩ := two_blk fb3; have FB3 := Lib.hid fb3; have GB3 := Lib.hid gb3; clear ha fb2 fb3 gb2 gb3 ids2) | (at_builtin; go_loud (refine wpList_append_lies _ rfl (.tmp 29) (.tmp 31) 39 rfl 0 3 i0 (.int .i64 0) 1 8 Try.underlying39 HI.out HI0.out HI1.out HI2.out rfl (by decide) (.slice va ids.length vc) ids.length (ids.map fun i => .int .i64 (i : Nat)) rfl (IDS3.out.alloc _) ⟨w3.heap.size, 0, none⟩ 1 1 [.int .i64 (q1 : Nat)] rfl rfl (cells_newZ _ _ _) (fun x hx => by simp at hx; subst hx; rfl) (by decide) (by have := HIDL.out; unfold maxLen; omega) (by have := HIDL.out; omega) (Nat.zero_le _) (w3.heap.size + 1) (by simp) ?_); intro gn cap w4 hown hgrow hat hlt4; obtain ⟨A5, I5, F5, O5, L5⟩ := fn_app (q := q1) AD3.out IDS3.out H.out.own FB3.out (Nat.le_succ _) hgrow hown hat; have fb4 : w4.heap[w.heap.size + 1]? = some (.cells #[.slice va ids.length vc, .int .i64 0] 78 (0, 0)) := (hgrow.block (w.heap.size + 1) (by simp; omega) (fun e => fbv FB3.out IDS3.out e.symm)).trans ((Below.heap_alloc _ _ _ (by omega)).trans FB3.out); obtain ⟨⟨k0, -⟩, ⟨z0, -⟩⟩ := two_blk fb4; have HA5 := Lib.hid A5; have HI5 := Lib.hid I5; have HF5 := Lib.hid F5; have HO5 := Lib.hid O5; clear hown hgrow hat fb4 A5 I5 F5 O5))
        go_roundw
        case rel =>
          refine ⟨j + 1, ids ++ [q1], q3, rb2, nb2, ty2, nu2, _, by go_num, by omega, HD.out, HA5.out, ?_, HF5.out, HI5.out, ?_⟩
          · exact (HO5.out w.heap.size (by omega) (ids_ne GB3.out IDS3.out (by decide)) (by omega)).trans GB3.out
          · intro b hb; cases hb; exact L5
        case measure => simp [intOf]; omega
      · have hd := HSN.out
        rw [if_neg h0] at hd
        have hbad := parK_bad (has := hasZ N) (T := T) (ks := g.params) (i := j + 1) (by rw [hd]; exact h0)
        rw [hd] at hbad
        have hf := HFULL.out
        rw [hbad] at hf
        dsimp only at hf
        rw [if_neg h0] at hf
        have HF := Lib.hid hf
        clear hd hbad hf
        have t0 : ((q2 : Nat) == (0 : Int)) = false := by simp; omega
        have hne : (q2 : Int) ≠ 0 := by omega
        go_wp2_with (go_at_call 20; (refine HA.out.mono ?_); rintro e w3 ⟨rb2, nb2, ty2, nu2, rfl, ha⟩; have AD3 := Lib.hid (HAD.out.trans ha); clear ha)
        go_ret
        rw [HF.out]
        exact ⟨rfl, AD3.out.keeps.below hB HST.out.lo, fun e => absurd e h0⟩
    · obtain rfl : j = g.params.length := by omega
      have hd := H.out.done
      rw [List.take_length] at hd
      have hf := HFULL.out
      rw [hd] at hf
      dsimp only at hf
      rw [if_pos rfl] at hf
      have hlow : ∀ k, k < B → wr.heap[k]? = w.heap[k]? := fun k hk => H.out.ad.keeps.block k (by omega) (HST.out.far hk)
      have hN2 : TxtV wr mb (encNN N) := HST.out.tab.txt H.out.ad.keeps (fun e => HST.out.tab.nm e.symm) HST.out.names
      obtain ⟨hr1, hr2⟩ := HRS.out
      have hA := add_any g.result hr1 hr2 wr tb rb' nb' mb sb m ty' nu' Tj N S ⟨x1, x2, x3, x4, x5, x6, x7, x8⟩ H.out.ad.tab hN2 (HRES.out.keep (fun _ h => h) fun k hk => hlow k (HS.out k hk)) (fun k hk => ⟨by have := HS.out k hk; omega, fun ho => by
        rcases H.out.ad.grew.own k ho with h | h
        · exact HST.out.far (HS.out k hk) h
        · have := HS.out k hk; omega⟩)
      dsimp only at hA
      obtain ⟨⟨q1, q2, q3⟩, hq⟩ : ∃ q, addK (hasZ N) Tj g.result = q := ⟨_, rfl⟩
      rw [hq] at hA hf
      dsimp only at hA hf
      have gg := H.out.gbx
      rw [HGC.out] at gg
      obtain ⟨⟨p0, p1, p2, p3, p4, p5⟩, _⟩ := six_blkF gg
      have HA := Lib.hid hA; have HF := Lib.hid hf; have HGG := Lib.hid gg
      clear hA hf hN2 hlow hq hr1 hr2 gg hd
      by_cases h0 : q2 = 0
      · subst h0
        go_upto_region 14 with (go_at_call 20; (refine HA.out.mono ?_); rintro e w3 ⟨rb2, nb2, ty2, nu2, rfl, ha⟩; have hz3 := ha.keeps.size; have fb3 := (ha.keeps.block (w.heap.size + 1) (by omega) (H.out.ad.tab.other H.out.fbx (by decide) (by decide))).trans H.out.fbx; have gb3 := (ha.keeps.block w.heap.size (by omega) (H.out.ad.tab.other HGG.out (by decide) (by decide))).trans HGG.out; have IDS3 := Lib.hid (H.out.ad.tab.ids ha.keeps H.out.ids); have AD3 := Lib.hid (H.out.ad.trans ha); obtain ⟨⟨f0, f1⟩, ⟨-, z1⟩⟩ := two_blk fb3; have FB3 := Lib.hid fb3; have GB3 := Lib.hid gb3; clear ha fb3 gb3 p0 p1 p2 p3 p4 p5)
        obtain ⟨W5, hW5⟩ : ∃ W5, W5 = w3.setCell ⟨w.heap.size + 1, 1, none⟩ (.int .i64 (q1 : Nat)) := ⟨_, rfl⟩
        have fb5 : W5.heap[w.heap.size + 1]? = some (.cells #[.slice va ids.length vc, .int .i64 (q1 : Nat)] 78 (0, 0)) := by rw [hW5]; exact set_two1 FB3.out _
        have hoth : ∀ b, b ≠ w.heap.size + 1 → W5.heap[b]? = w3.heap[b]? := fun b hb => by rw [hW5]; exact RowKit.Below.heap_setCell _ _ _ _ hb
        have hz5 : W5.heap.size = w3.heap.size := by rw [hW5]; simp
        have gb5 := (hoth w.heap.size (by omega)).trans GB3.out
        have htl := AD3.out.tab.tlt
        have htn : tb ≠ w.heap.size + 1 := by have := HST.out.tab.tlt; omega
        have tb5 := (hoth tb htn).trans AD3.out.tab.box
        obtain ⟨⟨-, -, -, s3, -⟩, -⟩ := five_blkF tb5
        obtain ⟨⟨k0, k1⟩, -⟩ := two_blk fb5
        obtain ⟨⟨g0, -⟩, -⟩ := six_blkF gb5
        have s3d : W5.drew.cell? ⟨tb, 3, none⟩ = some (.map (some sb)) := s3
        have k0d : W5.drew.cell? ⟨w.heap.size + 1, 0, none⟩ = some (.slice va ids.length vc) := k0
        have k1d : W5.drew.cell? ⟨w.heap.size + 1, 1, none⟩ = some (.int .i64 (q1 : Nat)) := k1
        have g0d : W5.drew.cell? ⟨w.heap.size, 0, none⟩ = some (.string ⟨g.name.toArray⟩) := g0
        have hl1 : tb < W5.drew.heap.size := by show tb < W5.heap.size; omega
        have hl2 : w.heap.size + 1 < W5.drew.heap.size := by show _ < W5.heap.size; omega
        have hl3 : w.heap.size < W5.drew.heap.size := by show _ < W5.heap.size; omega
        rw [← hW5]
        have hF5 : FnsV W5 sb G vs := (HST.out.tab.sgs AD3.out.keeps HST.out.sgs).same (hoth sb (by have := HST.out.tab.slt; omega)) (fun b cs fr hb => hoth b (fun e => by
          rw [e, FB3.out] at hb
          simp only [Option.some.injEq, Obj.cells.injEq] at hb
          exact absurd hb.2.1 (by decide)))
        have HC := Lib.hid (clone_any g.name W5.drew hnm); have HF5 := Lib.hid hF5; have HW5 := Lib.hid hW5
        have ht3 : sb ≠ tb := fun e => by
          obtain ⟨es, c, h⟩ := HST.out.sgs.map.isMap
          rw [e, HST.out.tab.box] at h; cases h
        have hsl := HST.out.tab.slt
        clear fb5 hoth gb5 tb5 hF5 hW5 s3 k0 k1 g0
        go_region_held3 (fun w' => w'.cell? ⟨tb, 3, none⟩ = some (.map (some sb)) ∧ w'.cell? ⟨w.heap.size + 1, 0, none⟩ = some (.slice va ids.length vc) ∧ w'.cell? ⟨w.heap.size + 1, 1, none⟩ = some (.int .i64 (q1 : Nat)) ∧ w'.cell? ⟨w.heap.size, 0, none⟩ = some (.string ⟨g.name.toArray⟩)) (go_keep) (first
          | (go_at_call 74; (refine HC.out.mono ?_); rintro e w6 ⟨rfl, x6⟩; obtain ⟨w7, hrun, hN7, hg7⟩ := (HF5.out.map.same (x6.block sb (by show sb < W5.heap.size; omega))).put (w := w6) Try.underlying71 g.name (.agg #[.slice va ids.length vc, .int .i64 (q1 : Nat)]) (le_max hnm) (by have := HF5.out.len; simp; unfold maxLen; omega); have a1 := (x6.cell (p := ⟨tb, 3, none⟩) hl1).trans s3d; have a2 := (x6.cell (p := ⟨w.heap.size + 1, 0, none⟩) hl2).trans k0d; have a3 := (x6.cell (p := ⟨w.heap.size + 1, 1, none⟩) hl2).trans k1d; have a4 := (x6.cell (p := ⟨w.heap.size, 0, none⟩) hl3).trans g0d; have hx6 := x6.size; have e1 := (hg7.cell_far ⟨tb, 3, none⟩ (Nat.lt_of_lt_of_le hl1 hx6) (by simpa using fun e => ht3 e.symm)).trans a1; have e2 := (hg7.cell_far ⟨w.heap.size + 1, 0, none⟩ (Nat.lt_of_lt_of_le hl2 hx6) (by simp; omega)).trans a2; have e3 := (hg7.cell_far ⟨w.heap.size + 1, 1, none⟩ (Nat.lt_of_lt_of_le hl2 hx6) (by simp; omega)).trans a3; have e4 := (hg7.cell_far ⟨w.heap.size, 0, none⟩ (Nat.lt_of_lt_of_le hl3 hx6) (by simp; omega)).trans a4; have HN7 := Lib.hid hN7; have HG7 := Lib.hid hg7; have HX6 := Lib.hid x6; clear hN7 hg7 x6))
        go_wp2
        go_ret
        rw [HF.out]
        have hdone := fn_done (r := q1) (name := g.name) HST.out hB AD3.out FB3.out (Nat.le_succ _) IDS3.out (by rw [← HW5.out]; exact HX6.out) HG7.out HN7.out
        exact ⟨rfl, hdone.2.1, fun _ => ⟨rb2, nb2, ty2, nu2, _, hdone.1, hdone.2.2⟩⟩
      · have t0 : ((q2 : Nat) == (0 : Int)) = false := by simp; omega
        have hne : (q2 : Int) ≠ 0 := by omega
        go_wp2_with (go_at_call 20; (refine HA.out.mono ?_); rintro e w3 ⟨rb2, nb2, ty2, nu2, rfl, ha⟩; have AD3 := Lib.hid (H.out.ad.trans ha); clear ha)
        go_ret
        rw [HF.out]
        exact ⟨rfl, AD3.out.keeps.below hB HST.out.lo, fun e => absurd e h0⟩
end Sp
end Go.Proofs.Ytdophmlnmbcjlaa
