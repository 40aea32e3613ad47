/- open: names gone through. -/
import Derived.Test.YtdophmlnmbcjlaaS15
namespace Go.Proofs.Ytdophmlnmbcjlaa
open Go.RowKit
namespace Sp
open Sc
/-- The entries of the map are the named types. -/
structure EntV (w : World) (S : Nat → Prop) (l : List NT) (us : List (List UInt8 × C4)) : Prop where
  len : us.length = l.length
  ent : ∀ i (h : i < l.length) (h' : i < us.length), us[i].1 = l[i].1 ∧ TzV w S l[i].2 us[i].2
theorem EntV.keep {w w' : World} {S : Nat → Prop} {l : List NT} {us : List (List UInt8 × C4)} (h : EntV w S l us) (hk : ∀ g, S g → w'.heap[g]? = w.heap[g]?) : EntV w' S l us :=
  ⟨h.len, fun i h1 h2 => ⟨(h.ent i h1 h2).1, (h.ent i h1 h2).2.keep (fun _ h => h) hk⟩⟩
theorem TzV.zero (w : World) (S : Nat → Prop) : TzV w S (.mk 0 [] [] []) C4.zero :=
  .mk 0 [] [] [] none 0 none 0 [] rfl (.inl rfl) (.inl rfl) (fun i h => by cases h)
theorem lastN_mem {β : Type} (z : List (List UInt8 × β)) (s : List UInt8) (y : β) (h : lastN z s = some y) : ∃ x ∈ z, x.2 = y := by
  unfold lastN at h
  cases hf : z.reverse.find? (fun x => decide (x.1 = s)) with
  | none => rw [hf] at h; cases h
  | some x =>
    rw [hf] at h
    simp only [Option.map_some, Option.some.injEq] at h
    exact ⟨x, List.mem_reverse.1 (List.mem_of_find?_eq_some hf), h⟩
/-- What a name stands for, in memory and by itself. -/
theorem EntV.look {w : World} {S : Nat → Prop} {l : List NT} {us : List (List UInt8 × C4)} (h : EntV w S l us) (s : List UInt8) : TzV w S (lookZ l s) (lookC us s) := by
  let z : List (List UInt8 × (C4 × Tz)) := (us.zip l).map fun p => (p.1.1, (p.1.2, p.2.2))
  have hzl : z.length = l.length := by simp only [z, List.length_map, List.length_zip, h.len, Nat.min_self]
  have hz1 : z.map (fun x => (x.1, x.2.1)) = us := by
    apply List.ext_getElem
    · rw [List.length_map, hzl, h.len]
    · intro i h1 h2
      simp only [z, List.getElem_map, List.getElem_zip]
  have hz2 : z.map (fun x => (x.1, x.2.2)) = l := by
    apply List.ext_getElem
    · rw [List.length_map, hzl]
    · intro i h1 h2
      simp only [z, List.getElem_map, List.getElem_zip]
      rw [(h.ent i h2 (by rw [h.len]; exact h2)).1]
  have hz3 : ∀ x ∈ z, TzV w S x.2.2 x.2.1 := by
    intro x hx
    obtain ⟨i, hi, rfl⟩ := List.getElem_of_mem hx
    simp only [z, List.getElem_map, List.getElem_zip]
    rw [hzl] at hi
    exact (h.ent i hi (by rw [h.len]; exact hi)).2
  unfold lookZ lookC
  rw [← hz1, ← hz2, lastN_map z (fun x => x.1), lastN_map z (fun x => x.2)]
  cases hl : lastN z s with
  | none => exact TzV.zero w S
  | some y =>
    obtain ⟨x, hx, rfl⟩ := lastN_mem z s y hl
    exact hz3 x hx
/-- Names that memory can hold, of all entries. -/
def fitL (l : List NT) : Prop := ∀ i (h : i < l.length), fitZ l[i].2 = true
theorem fitL_look {l : List NT} (h : fitL l) (s : List UInt8) : fitZ (lookZ l s) = true := by
  unfold lookZ
  cases hl : lastN l s with
  | none => rfl
  | some y =>
    obtain ⟨x, hx, rfl⟩ := lastN_mem l s y hl
    obtain ⟨i, hi, rfl⟩ := List.getElem_of_mem hx
    exact h i hi
theorem set_four {w : World} {b : Nat} {t : TypeId} {v0 v1 v2 v3 u0 u1 u2 u3 : Value} (h : w.heap[b]? = some (.cells #[v0, v1, v2, v3] t (0, 0))) :
    ((((w.setCell ⟨b, 0, none⟩ u0).setCell ⟨b, 1, none⟩ u1).setCell ⟨b, 2, none⟩ u2).setCell ⟨b, 3, none⟩ u3).heap[b]? = some (.cells #[u0, u1, u2, u3] t (0, 0)) := by
  unfold World.setCell; simp [Array.getElem?_modify, h]
set_option maxRecDepth 100000 in
set_option maxHeartbeats 8000000 in
theorem open_any (mb : Nat) (l : List NT) (us : List (List UInt8 × C4)) (S : Nat → Prop) (f : Nat) (t : Tz) (c : C4) (w : World) (hS : ∀ g, S g → g < w.heap.size) (hE : EntV w S l us) (hV : TzV w S t c) (hM : MapV w mb us)
    (hk : (openZ l f t).kind ≠ 9) (hft : fitZ t = true) (hfl : fitL l) :
    Calls Try.prog 92 #[.map (some mb), .agg #[.int .i64 c.k, .string c.n, .slice c.an c.ln c.cn, .slice c.ak c.lk c.ck]] w fun e w' => ∃ c' : C4, e = .returned (.agg #[.int .i64 c'.k, .string c'.n, .slice c'.an c'.ln c'.cn, .slice c'.ak c'.lk c'.ck]) ∧ c'.k = (openZ l f t).kind ∧ Below w.heap.size w w' := by
  obtain ⟨W0, hW0⟩ : ∃ W0, W0 = (w.alloc (.cells #[.int .i64 c.k, .string c.n, .slice c.an c.ln c.cn, .slice c.ak c.lk c.ck] 30)).alloc (.cells #[.int .i64 0, .string ⟨#[]⟩, .slice none 0 0, .slice none 0 0] 30) := ⟨_, rfl⟩
  have hs1 : (w.alloc (.cells #[.int .i64 c.k, .string c.n, .slice c.an c.ln c.cn, .slice c.ak c.lk c.ck] 30)).heap.size = w.heap.size + 1 := by simp
  have hs0 : W0.heap.size = w.heap.size + 2 := by rw [hW0]; simp
  have hb1 : Below w.heap.size w (w.alloc (.cells #[.int .i64 c.k, .string c.n, .slice c.an c.ln c.cn, .slice c.ak c.lk c.ck] 30)) := (Below.refl _ _).alloc (Nat.le_refl _) _
  have hb0 : Below w.heap.size w W0 := by rw [hW0]; exact hb1.alloc (by omega) _
  have hx0 : W0.heap[w.heap.size]? = some (.cells #[.int .i64 c.k, .string c.n, .slice c.an c.ln c.cn, .slice c.ak c.lk c.ck] 30 (0, 0)) := by
    rw [hW0]
    refine (((Below.refl _ _).alloc (Nat.le_refl _) _ : Below (w.alloc (.cells #[.int .i64 c.k, .string c.n, .slice c.an c.ln c.cn, .slice c.ak c.lk c.ck] 30)).heap.size _ _).block w.heap.size (by omega)).trans ?_
    exact heap_alloc_new w _
  have hy0 : W0.heap[w.heap.size + 1]? = some (.cells #[.int .i64 0, .string ⟨#[]⟩, .slice none 0 0, .slice none 0 0] 30 (0, 0)) := by
    rw [hW0]
    have := heap_alloc_new (w.alloc (.cells #[.int .i64 c.k, .string c.n, .slice c.an c.ln c.cn, .slice c.ak c.lk c.ck] 30)) (.cells #[.int .i64 0, .string ⟨#[]⟩, .slice none 0 0, .slice none 0 0] 30)
    rw [hs1] at this
    exact this
  have HS := Lib.hid hS; have HE := Lib.hid hE; have HV := Lib.hid hV; have HM := Lib.hid hM; have HK := Lib.hid hk; have HB0 := Lib.hid hb0; have HX0 := Lib.hid hx0; have HY0 := Lib.hid hy0; have HW0 := Lib.hid hW0; have HFL := Lib.hid hfl
  clear hS hE hV hM hk hb0 hx0 hy0 hW0 hs1 hb1 hfl
  go_enter Try.func92, Try.ntmps92
  go_wp2
  rw [← HW0.out]
  go_loopg [] (f + 1) (fun gg wr => ∃ f' t' c', f' ≤ gg ∧ fitZ t' = true ∧ Hid (openZ l f t = openZ l f' t') ∧ Hid (TzV wr S t' c') ∧ Hid (wr.heap[w.heap.size]? = some (.cells #[.int .i64 c'.k, .string c'.n, .slice c'.an c'.ln c'.cn, .slice c'.ak c'.lk c'.ck] 30 (0, 0))) ∧ Hid (wr.heap[w.heap.size + 1]? = some (.cells #[.int .i64 0, .string ⟨#[]⟩, .slice none 0 0, .slice none 0 0] 30 (0, 0))) ∧ Hid (Below w.heap.size w wr) ∧ wr.heap.size = w.heap.size + 2)
  case atStart => exact ⟨f, t, c, by omega, hft, rfl, HV.out.later HS.out HB0.out, HX0, HY0, HB0, hs0⟩
  case round =>
    obtain ⟨f', t', c', hg, hft', hq, hVr, hX, hY, hB, hws⟩ := hrel
    obtain ⟨k, nm, ns, ks⟩ := t'
    have hV2 := hVr.out
    cases hV2 with
    | mk _ _ _ _ an cn ak ck vs hl hn hk' hu =>
    obtain ⟨⟨p0, p1, p2, p3⟩, ⟨z0, z1, z2, z3⟩⟩ := four_blk hX.out
    clear hl hn hk' hu
    dsimp only at p0 p1 p2 p3
    by_cases h9 : k = 9
    · subst h9
      obtain ⟨f', rfl⟩ : ∃ f2, f' = f2 + 1 := by
        cases f' with
        | zero => exact absurd (by rw [hq.out]; rfl) HK.out
        | succ f2 => exact ⟨f2, rfl⟩
      have hq2 : openZ l f t = openZ l f' (lookZ l nm) := hq.out
      have hat := (HM.out.below hB.out).at nm (fitZ_mk hft').1
      have hVn := (HE.out.keep (fun g hg => hB.out.block g (HS.out g hg))).look nm
      have HQ := Lib.hid hq2; have HVN := Lib.hid hVn; have HFN := Lib.hid (fitL_look HFL.out nm)
      clear hq2 hq hVn hVr
      generalize lookC us nm = d at *
      generalize lookZ l nm = t2 at *
      obtain ⟨d1, d2, d3, d4, d5, d6, d7, d8⟩ := d
      unfold C4.val at hat
      dsimp only at hat
      obtain ⟨W2, hW2⟩ : ∃ W2, W2 = (((wr.setCell ⟨w.heap.size, 0, none⟩ (.int .i64 d1)).setCell ⟨w.heap.size, 1, none⟩ (.string d2)).setCell ⟨w.heap.size, 2, none⟩ (.slice d3 d4 d5)).setCell ⟨w.heap.size, 3, none⟩ (.slice d6 d7 d8) := ⟨_, rfl⟩
      have hX2 : W2.heap[w.heap.size]? = some (.cells #[.int .i64 d1, .string d2, .slice d3 d4 d5, .slice d6 d7 d8] 30 (0, 0)) := by rw [hW2]; exact set_four hX.out
      have hO2 : Only w.heap.size wr W2 := by rw [hW2]; exact ((((Only.refl _ wr).setCell 0 _).setCell 1 _).setCell 2 _).setCell 3 _
      have hs2 : W2.heap.size = wr.heap.size := by rw [hW2]; simp [World.setCell]
      have HX2 := Lib.hid hX2; have HO2 := Lib.hid hO2; have HW2 := Lib.hid hW2
      clear hX2 hO2 hW2
      go_wp2
      rw [← HW2.out]
      go_roundg (f')
      case measure => omega
      case rel => exact ⟨f', t2, ⟨d1, d2, d3, d4, d5, d6, d7, d8⟩, Nat.le_refl _, HFN.out, HQ, HVN.out.keep (fun _ h => h) (fun g hg => HO2.out.block g (by have := HS.out g hg; omega) (fun e => by cases e; exact absurd (HS.out _ hg) (Nat.lt_irrefl _))), HX2, (HO2.out.block _ (by omega) (fun e => absurd (Option.some.inj e) (by omega))).trans hY.out, hB.out.trans (HO2.out.below (Nat.le_refl _) hB.out.size), by omega⟩
    · have hq2 : (openZ l f t).kind = k := by
        rw [hq.out]
        cases f' with
        | zero => rfl
        | succ f2 => show (if k = 9 then _ else Tz.mk k nm ns ks).kind = k; rw [if_neg h9]; rfl
      have t9 : (k == 9) = false := by simpa using h9
      have HQ := Lib.hid hq2
      obtain ⟨⟨r0, r1, r2, r3⟩, ⟨y0, y1, y2, y3⟩⟩ := four_blk hY.out
      clear hq hq2 h9
      obtain ⟨W3, hW3⟩ : ∃ W3, W3 = (((wr.setCell ⟨w.heap.size + 1, 0, none⟩ (.int .i64 k)).setCell ⟨w.heap.size + 1, 1, none⟩ (.string ⟨nm.toArray⟩)).setCell ⟨w.heap.size + 1, 2, none⟩ (.slice an ns.length cn)).setCell ⟨w.heap.size + 1, 3, none⟩ (.slice ak ks.length ck) := ⟨_, rfl⟩
      have hX3 : W3.heap[w.heap.size + 1]? = some (.cells #[.int .i64 k, .string ⟨nm.toArray⟩, .slice an ns.length cn, .slice ak ks.length ck] 30 (0, 0)) := by rw [hW3]; exact set_four hY.out
      have hO3 : Only (w.heap.size + 1) wr W3 := by rw [hW3]; exact ((((Only.refl _ wr).setCell 0 _).setCell 1 _).setCell 2 _).setCell 3 _
      have HX3 := Lib.hid hX3; have HO3 := Lib.hid hO3; have HW3 := Lib.hid hW3
      clear hX3 hO3 hW3
      go_wp2
      rw [← HW3.out]
      clear r0 r1 r2 r3
      obtain ⟨⟨r0, r1, r2, r3⟩, _⟩ := four_blk HX3.out
      have hlt : w.heap.size + 1 < W3.heap.size := (Array.getElem?_eq_some_iff.1 HX3.out).1
      refine bodyPost_ret (v := .agg #[.int .i64 k, .string ⟨nm.toArray⟩, .slice an ns.length cn, .slice ak ks.length ck]) (by simp [results, Try.results92, go_sem, r0, r1, r2, r3]) rfl ?_
      exact ⟨⟨k, ⟨nm.toArray⟩, an, ns.length, cn, ak, ks.length, ck⟩, rfl, HQ.out.symm, hB.out.trans (HO3.out.below (by omega) hB.out.size)⟩
end Sp
end Go.Proofs.Ytdophmlnmbcjlaa
