/- The table of a schema, as a plain function. -/
import Derived.Test.YtjjpjkkaogfoaaaP5
import Derived.Test.YtjjpjkkaogfoaaaP4
import Derived.Deep.RegionHeld3
import Derived.Test.YtjjpjkkaogfoaaaZGather
import Derived.Test.YtjjpjkkaogfoaaaZKnown
import Derived.Test.YtjjpjkkaogfoaaaDrawG
import Derived.Test.YtjjpjkkaogfoaaaP1
import Derived.Test.YtjjpjkkaogfoaaaSAppend
import Derived.StillTail
import Derived.Laws.Rows
import Derived.Laws.ResultCell
namespace Go.Proofs.Ytjjpjkkaogfoaaa
namespace Sp
open Sc

/-- What the named types stand for, one by one. -/
def namK (has : List UInt8 → Bool) (T : List Kz) (N : List NN) : List NT → Nat × List Kz × List NN
  | [] => (0, T, N)
  | x :: l => if (addK has T x.2).2.1 = 0 then namK has (addK has T x.2).2.2 (N ++ [(x.1, (addK has T x.2).1)]) l else ((addK has T x.2).2.1, (addK has T x.2).2.2, N)
def parK (has : List UInt8 → Bool) (T : List Kz) : List Tz → List Nat × Nat × List Kz
  | [] => ([], 0, T)
  | t :: ks => if (addK has T t).2.1 = 0 then ((addK has T t).1 :: (parK has (addK has T t).2.2 ks).1, (parK has (addK has T t).2.2 ks).2) else ([], (addK has T t).2)
theorem parK_append (has : List UInt8 → Bool) : ∀ (T : List Kz) (a b : List Tz), parK has T (a ++ b) = if (parK has T a).2.1 = 0 then ((parK has T a).1 ++ (parK has (parK has T a).2.2 b).1, (parK has (parK has T a).2.2 b).2) else parK has T a
  | T, [], b => by simp [parK]
  | T, t :: a, b => by
    rw [List.cons_append, parK, parK]
    by_cases h : (addK has T t).2.1 = 0
    · rw [if_pos h, if_pos h, parK_append has _ a b]
      dsimp only
      split
      · rfl
      · rfl
    · rw [if_neg h, if_neg h, if_neg h]
theorem parK_snoc (has : List UInt8 → Bool) (T : List Kz) (a : List Tz) (t : Tz) : parK has T (a ++ [t]) = if (parK has T a).2.1 = 0 then (if (addK has (parK has T a).2.2 t).2.1 = 0 then ((parK has T a).1 ++ [(addK has (parK has T a).2.2 t).1], (0, (addK has (parK has T a).2.2 t).2.2)) else ((parK has T a).1, (addK has (parK has T a).2.2 t).2)) else parK has T a := by
  rw [parK_append]
  split
  · simp only [parK]
    by_cases h : (addK has (parK has T a).2.2 t).2.1 = 0
    · rw [if_pos h, if_pos h]
    · rw [if_neg h, if_neg h]; simp
  · rfl
theorem parK_bad {has : List UInt8 → Bool} {T : List Kz} {ks : List Tz} {i : Nat} (h : (parK has T (ks.take i)).2.1 ≠ 0) : parK has T ks = parK has T (ks.take i) := by
  have := parK_append has T (ks.take i) (ks.drop i)
  rwa [List.take_append_drop, if_neg h] at this
/-- A function: its numbers, the error, the types. -/
def fnK (has : List UInt8 → Bool) (T : List Kz) (g : Sg) : GN × Nat × List Kz :=
  if (parK has T g.params).2.1 = 0 then ((g.name, (parK has T g.params).1, (addK has (parK has T g.params).2.2 g.result).1), (addK has (parK has T g.params).2.2 g.result).2)
  else ((g.name, [], 0), (parK has T g.params).2)
def fnsK (has : List UInt8 → Bool) (T : List Kz) (G : List GN) : List Sg → Nat × List Kz × List GN
  | [] => (0, T, G)
  | g :: l => if (fnK has T g).2.1 = 0 then fnsK has (fnK has T g).2.2 (G ++ [(fnK has T g).1]) l else ((fnK has T g).2.1, (fnK has T g).2.2, G)
def zerosN (l : List NT) : List NN := l.map fun x => (x.1, 0)
/-- What New answers: an error, or a table. -/
def schemaK (s : Sz) : Nat × Tab :=
  let h := hasZ s.types
  let a := namK h [] (zerosN s.types) s.types
  if a.1 ≠ 0 then (a.1, ⟨a.2.1, a.2.2, [], 0⟩) else
  let b := addK h a.2.1 s.main
  if b.2.1 ≠ 0 then (b.2.1, ⟨b.2.2, a.2.2, [], 0⟩) else
  let c := fnsK h b.2.2 [] s.sigs
  (c.1, ⟨c.2.1, a.2.2, c.2.2, b.1⟩)
def newK (s : Sz) : Nat × Tab := if refC s ≠ 0 then (refC s, default) else schemaK s

/-! ### What passes the check may be added -/
mutual
theorem ok_of_one (has : List UInt8 → Bool) : ∀ (t : Tz) (d n : Nat), (oneZ has d n t).1 = 0 → okK has t = true
  | .mk k nm ns ks, d, n, h0 => by
    rw [oneZ] at h0
    split at h0
    · cases h0
    · split at h0
      · cases h0
      · split at h0
        · rename_i h3; exact absurd h0 h3
        · rename_i h3
          rw [okK, ok_of_all has ks (d + 1) (n + 1) h0, Bool.and_true, decide_eq_true_eq]
          have h4 : ownE has k nm ns ks.length = 0 := by simpa using h3
          unfold ownE at h4
          split at h4
          · cases h4
          · rename_i h5
            split at h4
            · cases h4
            · rename_i h6
              split at h4
              · cases h4
              · rename_i h7
                have h8 : ks.length ≤ 8 := by
                  have h9 := h6
                  unfold formB kidsN at h9
                  simp only [Bool.not_eq_false, Bool.and_eq_true, Bool.or_eq_true, decide_eq_true_eq] at h9
                  have h10 : ns.length ≤ 8 := by
                    unfold fieldE at h4
                    split at h4
                    · cases h4
                    · omega
                  have h11 := h9.1.1
                  split at h11
                  · omega
                  · split at h11 <;> omega
                unfold ownC
                rw [if_neg (by omega), if_neg h5, if_neg h6, if_neg h7]
theorem ok_of_all (has : List UInt8 → Bool) : ∀ (ks : List Tz) (d n : Nat), (allZ has d n ks).1 = 0 → okKs has ks = true
  | [], _, _, _ => rfl
  | t :: ks, d, n, h0 => by
    rw [allZ] at h0
    split at h0
    · rename_i h1
      rw [okKs, ok_of_one has t d n h1, ok_of_all has ks d _ h0]; rfl
    · rename_i h1; exact absurd h0 h1
end
theorem sizeZ_in : ∀ {ks : List Tz} {t : Tz}, t ∈ ks → sizeZ t ≤ sizeZs ks
  | x :: ks, t, h => by
    rw [sizeZs]
    rcases List.mem_cons.1 h with rfl | h
    · omega
    · have := sizeZ_in h; omega
/-- All of a schema's types may be added. -/
structure AddsZ (s : Sz) : Prop where
  types : ∀ x ∈ s.types, okK (hasZ s.types) x.2 = true ∧ sizeZ x.2 ≤ 400
  main : okK (hasZ s.types) s.main = true ∧ sizeZ s.main ≤ 400
  sigs : ∀ g ∈ s.sigs, (∀ t ∈ g.params, okK (hasZ s.types) t = true ∧ sizeZ t ≤ 400) ∧ okK (hasZ s.types) g.result = true ∧ sizeZ g.result ≤ 400
theorem fnsZ_adds (has : List UInt8 → Bool) : ∀ (l : List Sg) (a : List UInt8) (n : Nat), n ≤ 400 → (fnsZ has n a l).1 = 0 → ∀ g ∈ l, (∀ t ∈ g.params, okK has t = true ∧ sizeZ t ≤ 400) ∧ okK has g.result = true ∧ sizeZ g.result ≤ 400
  | [], _, _, _, _, g, hg => by cases hg
  | x :: l, a, n, hn, h0, g, hg => by
    rw [fnsZ] at h0
    split at h0
    · rename_i h1
      have key : (fnZ has n a x).2 ≤ 400 ∧ (∀ t ∈ x.params, okK has t = true ∧ sizeZ t ≤ 400) ∧ okK has x.result = true ∧ sizeZ x.result ≤ 400 := by
        unfold fnZ at h1 ⊢
        by_cases h2 : nameE a x.name (builtinB x.name) ≠ 0
        · rw [if_pos h2] at h1; exact absurd h1 h2
        · rw [if_neg h2] at h1 ⊢
          by_cases h3 : 4 < x.params.length
          · rw [if_pos h3] at h1; cases h1
          · rw [if_neg h3] at h1 ⊢
            by_cases h4 : (allZ has 1 n x.params).1 ≠ 0
            · rw [if_pos h4] at h1; exact absurd h1 h4
            · rw [if_neg h4] at h1 ⊢
              have h5 : (allZ has 1 n x.params).1 = 0 := by simpa using h4
              have a1 := allZ_le has x.params 1 n hn h5
              have a2 := (allZ_good has x.params 1 n h5).2
              have b1 := oneZ_le has x.result 1 _ a1 h1
              have b2 := (oneZ_good has x.result 1 _ h1).2
              have c1 := okKs_mem (ok_of_all has x.params 1 n h5)
              exact ⟨b1, fun t ht => ⟨c1 t ht, by have := sizeZ_in ht; omega⟩, ok_of_one has _ _ _ h1, by omega⟩
      rcases List.mem_cons.1 hg with rfl | hg
      · exact key.2
      · exact fnsZ_adds has l _ _ key.1 h0 g hg
    · rename_i h1; exact absurd h0 h1
theorem adds_of {s : Sz} (h : refC s = 0) : AddsZ s := by
  have hz : schZ s = 0 := by
    unfold refC at h
    split at h
    · cases h
    · split at h
      · rename_i h1; exact absurd h h1
      · split at h
        · rename_i h1; exact absurd h h1
        · rename_i h1; simpa using h1
  obtain ⟨⟨e, n⟩, h1⟩ : ∃ p, allZ (hasZ s.types) 1 0 (s.types.map (·.2)) = p := ⟨_, rfl⟩
  have he : e = 0 := by
    by_cases he : e = 0
    · exact he
    · rw [schZ_bad1 h1 he] at hz; exact absurd hz he
  subst he
  obtain ⟨⟨e2, m⟩, h2⟩ : ∃ p, oneZ (hasZ s.types) 1 n s.main = p := ⟨_, rfl⟩
  have he2 : e2 = 0 := by
    by_cases he : e2 = 0
    · exact he
    · rw [schZ_bad2 h1 h2 he] at hz; exact absurd hz he
  subst he2
  rw [schZ_go h1 h2] at hz
  have a0 : (allZ (hasZ s.types) 1 0 (s.types.map (·.2))).1 = 0 := by rw [h1]
  have a1 := allZ_le (hasZ s.types) (s.types.map (·.2)) 1 0 (by omega) a0
  have a2 := (allZ_good (hasZ s.types) (s.types.map (·.2)) 1 0 a0).2
  have a3 := okKs_mem (ok_of_all (hasZ s.types) (s.types.map (·.2)) 1 0 a0)
  rw [h1] at a1 a2
  dsimp only at a1 a2
  have b0 : (oneZ (hasZ s.types) 1 n s.main).1 = 0 := by rw [h2]
  have b1 := oneZ_le (hasZ s.types) s.main 1 n a1 b0
  have b2 := (oneZ_good (hasZ s.types) s.main 1 n b0).2
  rw [h2] at b1 b2
  dsimp only at b1 b2
  refine ⟨fun x hx => ⟨a3 _ (List.mem_map.2 ⟨x, hx, rfl⟩), ?_⟩, ⟨ok_of_one _ _ _ _ b0, by omega⟩, fnsZ_adds _ _ _ _ b1 hz⟩
  have := sizeZ_in (List.mem_map.2 ⟨x, hx, rfl⟩ : x.2 ∈ s.types.map (·.2))
  omega

/-! ### What a built table says -/
theorem addK_g {has : List UInt8 → Bool} {T : List Kz} {t : Tz} (hT : TabG has 400 T) (h : okK has t = true ∧ sizeZ t ≤ 400) :
    addK has T t = treeK T t ∧ TabG has 400 (addK has T t).2.2 ∧ T <+: (addK has T t).2.2 ∧ ((addK has T t).2.1 = 0 → (addK has T t).1 < (addK has T t).2.2.length ∧ typT (addK has T t).2.2 (addK has T t).1 = t) := by
  rw [addK_ok h.1 h.2]
  exact ⟨rfl, treeK_g t T hT h.1 h.2, treeK_grow t T, (treeK_wf t T hT.toTabW h.1).2⟩
/-- Names and what they stand for. -/
structure NamW (T : List Kz) (N : List NN) (l : List NT) : Prop where
  look : ∀ x ∈ l, lookN N x.1 < T.length ∧ typT T (lookN N x.1) = x.2
theorem NamW.grow {has : List UInt8 → Bool} {M : Nat} {T T' : List Kz} {N : List NN} {l : List NT} (h : NamW T N l) (hT : TabG has M T) (hp : T <+: T') : NamW T' N l :=
  ⟨fun x hx => ⟨Nat.lt_of_lt_of_le (h.look x hx).1 hp.length_le, by rw [typT_prefix hp hT.kids (h.look x hx).1]; exact (h.look x hx).2⟩⟩
theorem namK_ok {has : List UInt8 → Bool} : ∀ (l done : List NT) (T : List Kz) (N : List NN), NoTwice (done ++ l) → TabG has 400 T → NamW T N done → (∀ x ∈ l, okK has x.2 = true ∧ sizeZ x.2 ≤ 400) → (namK has T N l).1 = 0 →
    TabG has 400 (namK has T N l).2.1 ∧ NamW (namK has T N l).2.1 (namK has T N l).2.2 (done ++ l) ∧ T <+: (namK has T N l).2.1
  | [], done, T, N, _, hT, hN, _, _ => by rw [namK, List.append_nil]; exact ⟨hT, hN, List.prefix_refl _⟩
  | x :: l, done, T, N, hd, hT, hN, hk, h0 => by
    rw [namK] at h0 ⊢
    obtain ⟨a, b, c, d⟩ := addK_g hT (hk x List.mem_cons_self)
    split at h0
    · rename_i h1
      rw [if_pos h1]
      obtain ⟨d1, d2⟩ := d h1
      have hN2 : NamW (addK has T x.2).2.2 (N ++ [(x.1, (addK has T x.2).1)]) (done ++ [x]) := ⟨fun y hy => by
        unfold lookN
        rw [lastN_snoc]
        by_cases e : x.1 = y.1
        · have : y = x := hd.eq (by rcases List.mem_append.1 hy with h | h <;> simp_all) (by simp) e.symm
          subst this
          rw [if_pos rfl]; exact ⟨d1, d2⟩
        · rw [if_neg e]
          rcases List.mem_append.1 hy with hy | hy
          · exact (hN.grow hT c).look y hy
          · exact absurd (by rw [List.mem_singleton.1 hy]) e⟩
      obtain ⟨p, q, r⟩ := namK_ok l (done ++ [x]) _ _ (by simpa using hd) b hN2 (fun y hy => hk y (List.mem_cons_of_mem _ hy)) h0
      exact ⟨p, by simpa using q, c.trans r⟩
    · rename_i h1; exact absurd h0 h1
theorem namK_has {has : List UInt8 → Bool} (nm : List UInt8) : ∀ (l : List NT) (T : List Kz) (N : List NN), (∀ x ∈ l, hasZ N x.1 = true) → hasZ (namK has T N l).2.2 nm = hasZ N nm
  | [], T, N, _ => by rw [namK]
  | x :: l, T, N, h => by
    rw [namK]
    split
    · rw [namK_has nm l _ _ (fun y hy => by rw [hasZ_snoc, h y (List.mem_cons_of_mem _ hy)]; rfl), hasZ_snoc]
      by_cases e : x.1 = nm
      · rw [← e, h x List.mem_cons_self]; rfl
      · simp [e]
    · rfl
theorem parK_ok {has : List UInt8 → Bool} : ∀ (ks : List Tz) (T : List Kz), TabG has 400 T → (∀ t ∈ ks, okK has t = true ∧ sizeZ t ≤ 400) → TabG has 400 (parK has T ks).2.2 ∧ T <+: (parK has T ks).2.2 ∧
    ((parK has T ks).2.1 = 0 → (∀ j ∈ (parK has T ks).1, j < (parK has T ks).2.2.length) ∧ (parK has T ks).1.map (typT (parK has T ks).2.2) = ks)
  | [], T, hT, _ => by rw [parK]; exact ⟨hT, List.prefix_refl _, fun _ => ⟨(fun j hj => by cases hj), rfl⟩⟩
  | t :: ks, T, hT, hk => by
    obtain ⟨a, b, c, d⟩ := addK_g hT (hk t List.mem_cons_self)
    rw [parK]
    by_cases h : (addK has T t).2.1 = 0
    · rw [if_pos h]
      obtain ⟨d1, d2⟩ := d h
      obtain ⟨p, q, r⟩ := parK_ok ks _ b (fun x hx => hk x (List.mem_cons_of_mem _ hx))
      refine ⟨p, c.trans q, fun he => ?_⟩
      obtain ⟨r1, r2⟩ := r he
      refine ⟨fun j hj => ?_, ?_⟩
      · rcases List.mem_cons.1 hj with rfl | hj
        · exact Nat.lt_of_lt_of_le d1 q.length_le
        · exact r1 j hj
      · rw [List.map_cons, r2, typT_prefix q b.kids d1, d2]
    · rw [if_neg h]; exact ⟨b, c, fun he => absurd he h⟩
/-- A function's numbers say its types. -/
structure SigW (T : List Kz) (x : GN) (g : Sg) : Prop where
  name : x.1 = g.name
  par : (∀ j ∈ x.2.1, j < T.length) ∧ x.2.1.map (typT T) = g.params
  res : x.2.2 < T.length ∧ typT T x.2.2 = g.result
theorem SigW.grow {has : List UInt8 → Bool} {M : Nat} {T T' : List Kz} {x : GN} {g : Sg} (h : SigW T x g) (hT : TabG has M T) (hp : T <+: T') : SigW T' x g :=
  ⟨h.name, ⟨fun j hj => Nat.lt_of_lt_of_le (h.par.1 j hj) hp.length_le, by rw [← h.par.2]; exact List.map_congr_left fun j hj => typT_prefix hp hT.kids (h.par.1 j hj)⟩,
    Nat.lt_of_lt_of_le h.res.1 hp.length_le, by rw [typT_prefix hp hT.kids h.res.1]; exact h.res.2⟩
theorem fnK_ok {has : List UInt8 → Bool} {T : List Kz} {g : Sg} (hT : TabG has 400 T) (hg : (∀ t ∈ g.params, okK has t = true ∧ sizeZ t ≤ 400) ∧ okK has g.result = true ∧ sizeZ g.result ≤ 400) :
    TabG has 400 (fnK has T g).2.2 ∧ T <+: (fnK has T g).2.2 ∧ ((fnK has T g).2.1 = 0 → SigW (fnK has T g).2.2 (fnK has T g).1 g) := by
  obtain ⟨a, b, c⟩ := parK_ok g.params T hT hg.1
  unfold fnK
  by_cases h : (parK has T g.params).2.1 = 0
  · rw [if_pos h]
    obtain ⟨c1, c2⟩ := c h
    obtain ⟨p, q, r, t⟩ := addK_g a hg.2
    refine ⟨q, b.trans r, fun he => ⟨rfl, ⟨fun j hj => Nat.lt_of_lt_of_le (c1 j hj) r.length_le, ?_⟩, t he⟩⟩
    dsimp only
    calc _ = (parK has T g.params).1.map (typT (parK has T g.params).2.2) := List.map_congr_left fun j hj => typT_prefix r a.kids (c1 j hj)
      _ = _ := c2
  · rw [if_neg h]; exact ⟨a, b, fun he => absurd he h⟩
theorem fnsK_ok {has : List UInt8 → Bool} : ∀ (l done : List Sg) (T : List Kz) (G : List GN), TabG has 400 T → G.length = done.length → (∀ i (h1 : i < G.length) (h2 : i < done.length), SigW T G[i] done[i]) →
    (∀ g ∈ l, (∀ t ∈ g.params, okK has t = true ∧ sizeZ t ≤ 400) ∧ okK has g.result = true ∧ sizeZ g.result ≤ 400) → (fnsK has T G l).1 = 0 →
    TabG has 400 (fnsK has T G l).2.1 ∧ T <+: (fnsK has T G l).2.1 ∧ (fnsK has T G l).2.2.length = (done ++ l).length ∧ ∀ i (h1 : i < (fnsK has T G l).2.2.length) (h2 : i < (done ++ l).length), SigW (fnsK has T G l).2.1 (fnsK has T G l).2.2[i] (done ++ l)[i]
  | [], done, T, G, hT, hl, hG, _, _ => by
    simp only [fnsK, List.append_nil]; exact ⟨hT, List.prefix_refl _, hl, hG⟩
  | g :: l, done, T, G, hT, hl, hG, hk, h0 => by
    rw [fnsK] at h0
    obtain ⟨a, b, c⟩ := fnK_ok hT (hk g List.mem_cons_self)
    split at h0
    · rename_i h1
      have e : fnsK has T G (g :: l) = fnsK has (fnK has T g).2.2 (G ++ [(fnK has T g).1]) l := by rw [fnsK, if_pos h1]
      have hs := c h1
      obtain ⟨p, q, r, t⟩ := fnsK_ok l (done ++ [g]) (fnK has T g).2.2 (G ++ [(fnK has T g).1]) a (by simp [hl]) (fun i h1 h2 => by
        by_cases hi : i < G.length
        · rw [List.getElem_append_left hi, List.getElem_append_left (by omega)]
          exact (hG i hi (by omega)).grow hT b
        · have hi1 : i = G.length := by simp at h1; omega
          subst hi1
          rw [List.getElem_append_right (Nat.le_refl _), List.getElem_append_right (by omega)]
          simpa [hl] using hs) (fun x hx => hk x (List.mem_cons_of_mem _ hx)) h0
      simp only [e]
      simp only [List.append_assoc, List.singleton_append] at r t
      exact ⟨p, b.trans q, r, t⟩
    · rename_i h1; exact absurd h0 h1
/-- A table that a schema has made. -/
structure BuiltK (s : Sz) (x : Tab) : Prop where
  good : TabG (hasZ s.types) 400 x.T
  names : NamW x.T x.N s.types
  has : ∀ nm, hasZ x.N nm = hasZ s.types nm
  main : x.m < x.T.length ∧ typT x.T x.m = s.main
  glen : x.G.length = s.sigs.length
  sigs : ∀ i (h1 : i < x.G.length) (h2 : i < s.sigs.length), SigW x.T x.G[i] s.sigs[i]
theorem hasZ_zeros (l : List NT) (nm : List UInt8) : hasZ (zerosN l) nm = hasZ l nm := hasZ_map l (fun _ => 0) nm
theorem built_of {s : Sz} (hr : refC s = 0) (h : (schemaK s).1 = 0) : BuiltK s (schemaK s).2 := by
  have ha := adds_of hr
  have hg := good_of hr
  unfold schemaK at h ⊢
  simp only at h ⊢
  obtain ⟨a, haa⟩ : ∃ a, namK (hasZ s.types) [] (zerosN s.types) s.types = a := ⟨_, rfl⟩
  rw [haa] at h ⊢
  by_cases h1 : a.1 ≠ 0
  · rw [if_pos h1] at h; exact absurd h h1
  · rw [if_neg h1] at h ⊢
    have h1' : a.1 = 0 := by simpa using h1
    obtain ⟨p, q, -⟩ := namK_ok (has := hasZ s.types) s.types [] [] (zerosN s.types) (by simpa using hg.once) TabG.nil ⟨fun x hx => by cases hx⟩ ha.types (by rw [haa]; exact h1')
    have hn := fun nm => namK_has (has := hasZ s.types) nm s.types [] (zerosN s.types) (fun x hx => by rw [hasZ_zeros]; exact hasZ_iff.2 ⟨x, hx, rfl⟩)
    rw [haa, List.nil_append] at q
    rw [haa] at p
    simp only [haa, hasZ_zeros] at hn
    obtain ⟨b1, b2, b3, b4⟩ := addK_g p ha.main
    obtain ⟨b, hb⟩ : ∃ b, addK (hasZ s.types) a.2.1 s.main = b := ⟨_, rfl⟩
    rw [hb] at h b1 b2 b3 b4 ⊢
    by_cases h2 : b.2.1 ≠ 0
    · rw [if_pos h2] at h; exact absurd h h2
    · rw [if_neg h2] at h ⊢
      obtain ⟨c1, c2⟩ := b4 (by simpa using h2)
      obtain ⟨d1, d2, d3, d4⟩ := fnsK_ok (has := hasZ s.types) s.sigs [] b.2.2 [] b2 rfl (fun i h => by cases h) ha.sigs h
      exact ⟨d1, q.grow p (b3.trans d2), hn, ⟨Nat.lt_of_lt_of_le c1 d2.length_le, by rw [typT_prefix d2 b2.kids c1]; exact c2⟩, by simpa using d3, by simpa using d4⟩

/-! ### Open -/
def openK (T : List Kz) (N : List NN) : Nat → Nat → Nat
  | 0, i => i
  | f + 1, i => if (T.getD i default).kind = 9 then openK T N f (lookN N (T.getD i default).name) else i
theorem openK_Z {T : List Kz} (hT : ∀ i (h : i < T.length), ∀ j ∈ T[i].kids, j < i) {N : List NN} {l : List NT} (hl : NoTwice l) (hN : NamW T N l) (hh : ∀ k ∈ T, k.kind = 9 → hasZ l k.name = true) : ∀ (f i : Nat), i < T.length → openK T N f i < T.length ∧ typT T (openK T N f i) = openZ l f (typT T i)
  | 0, i, hi => ⟨hi, rfl⟩
  | f + 1, i, hi => by
    have e : T.getD i default = T[i] := by rw [List.getD, List.getElem?_eq_getElem hi]; rfl
    rw [openK, e]
    by_cases h9 : T[i].kind = 9
    · rw [if_pos h9]
      obtain ⟨x, hx, hxn⟩ := hasZ_iff.1 (hh _ (List.getElem_mem hi) h9)
      rw [← hxn]
      obtain ⟨a, b⟩ := hN.look x hx
      obtain ⟨c, d⟩ := openK_Z hT hl hN hh f _ a
      refine ⟨c, ?_⟩
      rw [d, b, typT_at hT hi, openZ, if_pos h9, ← hxn, lookZ_in hl hx]
    · rw [if_neg h9]
      refine ⟨hi, ?_⟩
      rw [openZ_not]
      rw [typT_at hT hi]; exact h9
/-- What a number's kind is, its tree's is. -/
theorem typT_kind {T : List Kz} (hT : ∀ i (h : i < T.length), ∀ j ∈ T[i].kids, j < i) {i : Nat} (h : i < T.length) : (typT T i).kind = T[i].kind := by rw [typT_at hT h]; rfl
/-- Each name of a type that is there is a schema's. -/
theorem TabG.named {has : List UInt8 → Bool} {M : Nat} {T : List Kz} (h : TabG has M T) : ∀ k ∈ T, k.kind = 9 → has k.name = true := fun k hk h9 => by
  obtain ⟨i, hi, rfl⟩ := List.mem_iff_getElem.1 hk
  have := (h.ok i hi).1
  rw [typT_at h.kids hi, okK, Bool.and_eq_true, decide_eq_true_eq] at this
  have h1 := this.1
  unfold ownC at h1
  split at h1
  · cases h1
  · split at h1
    · cases h1
    · split at h1
      · cases h1
      · split at h1
        · cases h1
        · rename_i h2
          cases hh : has T[i].name
          · exact absurd ⟨h9, hh⟩ h2
          · rfl
theorem openK_step (T : List Kz) (N : List NN) (f i : Nat) (h : (T.getD i default).kind = 9) : openK T N (f + 1) i = openK T N f (lookN N (T.getD i default).name) := by rw [openK, if_pos h]
theorem openK_stop (T : List Kz) (N : List NN) (f i : Nat) (h : (T.getD i default).kind ≠ 9) : openK T N f i = i := by
  cases f with
  | zero => rfl
  | succ f => rw [openK, if_neg h]
/-- A type of a schema's table opens within thirteen names. -/
theorem open13 {s : Sz} {T : List Kz} {N : List NN} (hg : GoodZ s) (hT : TabG (hasZ s.types) 400 T) (hN : NamW T N s.types) {i : Nat} (hi : i < T.length) :
    openK T N 13 i < T.length ∧ (T.getD (openK T N 13 i) default).kind ≠ 9 ∧ typT T (openK T N 13 i) = openZ s.types 13 (typT T i) := by
  obtain ⟨a, b⟩ := openK_Z hT.kids hg.once hN hT.named 13 i hi
  refine ⟨a, ?_, b⟩
  have := (open_all hg.once hg.ends 13 (by have := hg.few; omega) (typT T i)).1
  rw [← b, typT_kind hT.kids a] at this
  rwa [List.getD, List.getElem?_eq_getElem a]
end Sp
end Go.Proofs.Ytjjpjkkaogfoaaa

namespace Go.Proofs.Ytjjpjkkaogfoaaa
open Go.RowKit
namespace Sp
open Sc
set_option maxRecDepth 100000

/-- Len. -/
theorem len_any (w : World) (tb rb nb mb sb m : Nat) (ty nu : Value) (T : List Kz) (hT : TabV w tb rb nb mb sb m ty nu T) :
    Calls Try.prog 29 #[.pointer (some ⟨tb, 0, none⟩)] w fun e w' => e = .returned (.int .i64 (T.length : Nat)) ∧ Below w.heap.size w w' := by
  obtain ⟨ta, tc, hty⟩ : ∃ ta tc, ty = .slice ta T.length tc := by
    rcases hT.row with ⟨rfl, rfl, -⟩ | ⟨cap, rfl⟩
    · exact ⟨none, 0, rfl⟩
    · exact ⟨_, _, rfl⟩
  obtain ⟨⟨t0, -⟩, -⟩ := five_blkF hT.box
  rw [hty] at t0
  clear hT hty
  generalize T.length = n at *
  go_enter Try.func29, Try.ntmps29
  go_wp2
  go_ret
  exact ⟨rfl, Below.refl _ _⟩
/-- Main. -/
theorem main_any (w : World) (tb rb nb mb sb m : Nat) (ty nu : Value) (T : List Kz) (hT : TabV w tb rb nb mb sb m ty nu T) :
    Calls Try.prog 35 #[.pointer (some ⟨tb, 0, none⟩)] w fun e w' => e = .returned (.int .i64 (m : Nat)) ∧ Below w.heap.size w w' := by
  obtain ⟨⟨-, -, -, -, t4⟩, -⟩ := five_blkF hT.box
  clear hT
  go_enter Try.func35, Try.ntmps35
  go_wp2
  go_ret
  exact ⟨rfl, Below.refl _ _⟩
/-- has. -/
theorem thas_any (id : Int) (w : World) (tb rb nb mb sb m : Nat) (ty nu : Value) (T : List Kz) (hT : TabV w tb rb nb mb sb m ty nu T) :
    Calls Try.prog 56 #[.pointer (some ⟨tb, 0, none⟩), .int .i64 id] w fun e w' => e = .returned (.bool (decide (0 ≤ id) && decide (id < (T.length : Nat)))) ∧ Below w.heap.size w w' := by
  obtain ⟨ta, tc, hty⟩ : ∃ ta tc, ty = .slice ta T.length tc := by
    rcases hT.row with ⟨rfl, rfl, -⟩ | ⟨cap, rfl⟩
    · exact ⟨none, 0, rfl⟩
    · exact ⟨_, _, rfl⟩
  obtain ⟨⟨t0, -⟩, -⟩ := five_blkF hT.box
  rw [hty] at t0
  clear hT hty
  generalize T.length = n at *
  by_cases h0 : 0 ≤ id
  · rw [decide_eq_true h0]
    go_enter Try.func56, Try.ntmps56
    go_wp2
    go_ret
    exact ⟨by simp, Below.refl _ _⟩
  · rw [decide_eq_false h0]
    go_enter Try.func56, Try.ntmps56
    go_wp2
    go_ret
    exact ⟨by simp, Below.refl _ _⟩

set_option maxHeartbeats 1600000 in
/-- stand. -/
theorem stand_any (s : List UInt8) (id : Nat) (w : World) (tb rb nb mb sb m : Nat) (ty nu : Value) (T : List Kz) (N : List NN) (hT : TabV w tb rb nb mb sb m ty nu T) (hN : TxtV w mb (encNN N)) (hs : s.length ≤ 1000) (hl : N.length < 1000000) :
    Calls Try.prog 89 #[.pointer (some ⟨tb, 0, none⟩), .string ⟨s.toArray⟩, .int .i64 (id : Nat)] w fun e w' => e = .returned (.tuple #[]) ∧ TxtV w' mb (encNN (N ++ [(s, id)])) ∧ Keeps (fun g => g = mb) w w' := by
  obtain ⟨⟨-, -, t2, -, -⟩, -⟩ := five_blkF hT.box
  have t2d : w.drew.cell? ⟨tb, 2, none⟩ = some (.map (some mb)) := t2
  have htl := hT.tlt
  have HNE : Hid (tb ≠ mb) := fun e => by
    obtain ⟨es, c, h⟩ := hN.isMap
    rw [← e, hT.box] at h; cases h
  have HC := Lib.hid (clone_any s w.drew hs)
  have HN := Lib.hid hN
  clear hT hN
  go_enter Try.func89, Try.ntmps89
  go_region_held3 (fun w' => w'.cell? ⟨tb, 2, none⟩ = some (.map (some mb))) (go_keep) (first
    | (go_at_call 90; (refine HC.out.mono ?_); rintro e w1 ⟨rfl, x1⟩; obtain ⟨w2, hrun, hN2, hg2⟩ := (HN.out.same (x1.block mb HN.out.lt)).put (w := w1) Try.underlying98 s (.int .i64 (id : Nat)) (le_max hs) (by unfold encNN; rw [List.length_map]; unfold maxLen; omega); have s1 := (x1.cell (p := ⟨tb, 2, none⟩) htl).trans t2d; have s2 : w2.cell? ⟨tb, 2, none⟩ = some (.map (some mb)) := (hg2.cell_far ⟨tb, 2, none⟩ (Nat.lt_of_lt_of_le htl x1.size) (by simpa using HNE.out)).trans s1; have HN2 := Lib.hid hN2; have HG2 := Lib.hid hg2; have HX1 := Lib.hid x1; clear hN2 hg2 x1))
  go_wp2
  go_end0
  exact ⟨rfl, by rw [show encNN (N ++ [(s, id)]) = encNN N ++ [(s, .int .i64 (id : Nat))] by simp [encNN]]; exact HN2.out, (Keeps.of_below (O := fun g => g = mb) (show Below w.heap.size w w1 from ⟨HX1.out.os, HX1.out.tape, HX1.out.output, HX1.out.size, HX1.out.block⟩)).trans (Keeps.of_grown (O := fun g => g = mb) HG2.out (fun g e => by cases e; rfl)) (fun g h => .inl h)⟩

set_option maxHeartbeats 8000000 in
/-- Add. -/
theorem add_any (t : Tz) (hf : fitZ t = true) (hs : shortZ t = true) (w : World) (tb rb nb mb sb m : Nat) (ty nu : Value) (T : List Kz) (N : List NN) (S : Nat → Prop) (c : C4) (hT : TabV w tb rb nb mb sb m ty nu T) (hN : TxtV w mb (encNN N)) (hV : TzV w S t c) (hS : ∀ g, S g → g < w.heap.size ∧ ¬ Own tb rb nb g) :
    Calls Try.prog 32 #[.pointer (some ⟨tb, 0, none⟩), .agg #[.int .i64 c.k, .string c.n, .slice c.an c.ln c.cn, .slice c.ak c.lk c.ck]] w fun e w' => ∃ rb' nb' ty' nu', e = .returned (.tuple #[.int .i64 ((addK (hasZ N) T t).1 : Nat), .int .i64 ((addK (hasZ N) T t).2.1 : Nat)]) ∧ Added w w' tb rb nb mb sb m (addK (hasZ N) T t).2.2 rb' nb' ty' nu' := by
  obtain ⟨W1, hW1⟩ : ∃ W1, W1 = (w.alloc (.cells #[.int .i64 c.k, .string c.n, .slice c.an c.ln c.cn, .slice c.ak c.lk c.ck] 25)).alloc (.cells #[.map (some mb), .int .i64 0] 114) := ⟨_, rfl⟩
  have hz1 : W1.heap.size = w.heap.size + 2 := by rw [hW1]; simp
  have hb1 : Below w.heap.size w W1 := by rw [hW1]; exact ((Below.refl _ _).alloc (Nat.le_refl _) _).alloc (by simp) _
  have hx1 : W1.heap[w.heap.size]? = some (.cells #[.int .i64 c.k, .string c.n, .slice c.an c.ln c.cn, .slice c.ak c.lk c.ck] 25 (0, 0)) := by rw [hW1, blk_if, if_neg (by simp), blk_if, if_pos rfl]
  have hc1 : CcE W1 (w.heap.size + 1) mb 0 := by unfold CcE; rw [hW1, blk_if, if_pos (by simp)]; rfl
  have hV1 : TzV W1 S t c := hV.keep (fun _ h => h) fun g hg => hb1.block g (hS g hg).1
  have hN1 := hN.below hb1
  have hmne : mb ≠ w.heap.size + 1 := by have := hN.lt; omega
  have C1 := oneK_all (w.heap.size + 1) mb N S (fun g hg => by have := (hS g hg).1; omega) hmne _ t (Nat.le_refl _) hf 0 W1 c (by omega) hV1 hc1 hN1
  obtain ⟨⟨-, -, t2, -, -⟩, -⟩ := five_blkF hT.box
  have htl := hT.tlt
  obtain ⟨v, hv⟩ : ∃ v, v = addK (hasZ N) T t := ⟨_, rfl⟩
  rw [← hv]
  unfold addK at hv
  obtain ⟨⟨q, qn⟩, hq⟩ : ∃ q, oneC (hasZ N) 0 t = q := ⟨_, rfl⟩
  have hok := oneC_ok (hasZ N) t 0
  rw [hq] at hv C1 hok
  dsimp only at hv C1 hok
  have HW1 := Lib.hid hW1; have HB1 := Lib.hid hb1; have HX1 := Lib.hid hx1; have HC1 := Lib.hid C1; have HT := Lib.hid hT; have HN := Lib.hid hN; have HV := Lib.hid hV; have HS := Lib.hid hS; have HVV := Lib.hid hv; have HOK := Lib.hid hok; have HSH := Lib.hid hs
  clear hW1 hb1 hx1 hc1 hV1 hN1 C1 hT hN hV hS hv hq hok hf hs
  by_cases h0 : q = 0
  · subst h0
    have hvv := HVV.out
    rw [if_neg (by decide)] at hvv
    have hkk := (HOK.out rfl).1
    have C2 := fun W rb nb (hT : TabV W tb rb nb mb sb m ty nu T) hV hS => tree_any (has := hasZ N) _ t (Nat.le_refl _) hkk HSH.out W tb rb nb mb sb m ty nu T S c hT hV hS
    rw [← hvv] at C2
    have HC2 := Lib.hid C2
    clear hvv hkk C2
    go_enter Try.func32, Try.ntmps32
    go_upto_region 2 with fail
    rw [← HW1.out]
    obtain ⟨⟨p0, p1, p2, p3⟩, _⟩ := four_blk HX1.out
    go_wp2_with (first
      | (go_at_call 58; (with_reducible refine HC1.out.mono ?_); rintro e w2 ⟨rfl, -, o2⟩; have hb2 := HB1.out.trans (o2.below (B := w.heap.size) (by omega) (by omega)); have hx2 := o2.blk HX1.out (by omega); obtain ⟨⟨r0, r1, r2, r3⟩, _⟩ := four_blk hx2; have HB2 := Lib.hid hb2; clear o2 hb2 hx2 p0 p1 p2 p3)
      | (go_at_call 59; (refine (HC2.out _ rb nb (HT.out.below HB2.out) (HV.out.keep (fun _ h => h) fun g hg => HB2.out.block g (HS.out g hg).1) (fun g hg => ⟨Nat.lt_of_lt_of_le (HS.out g hg).1 HB2.out.size, (HS.out g hg).2⟩)).mono ?_); rintro e w3 ⟨rb2, nb2, ty2, nu2, rfl, ha⟩; have HA := Lib.hid ha; clear ha))
    go_ret2
    exact ⟨rb2, nb2, ty2, nu2, rfl, HA.out.tab, (Keeps.of_below HB2.out).trans HA.out.keeps (fun g h => .inl h), HA.out.grew.older HB2.out.size⟩
  · have hvv := HVV.out
    rw [if_pos h0] at hvv
    have HVW := Lib.hid hvv
    clear hvv
    have t0 : ((q : Nat) == (0 : Int)) = false := by simp; omega
    have hne : (q : Int) ≠ 0 := by omega
    go_enter Try.func32, Try.ntmps32
    go_upto_region 2 with fail
    rw [← HW1.out]
    obtain ⟨⟨p0, p1, p2, p3⟩, _⟩ := four_blk HX1.out
    go_wp2_with (go_at_call 58; (with_reducible refine HC1.out.mono ?_); rintro e w2 ⟨rfl, -, o2⟩; have hb2 := HB1.out.trans (o2.below (B := w.heap.size) (by omega) (by omega)); have HB2 := Lib.hid hb2; clear o2 hb2 p0 p1 p2 p3)
    go_ret2
    rw [HVW.out]
    exact ⟨rb, nb, ty, nu, rfl, HT.out.below HB2.out, Keeps.of_below HB2.out, Grew.refl _ _ _ _⟩
/-- A plain type's key. -/
def baseK (k : Int) : Kz := ⟨k, [], [], []⟩
theorem base_fit {k : Int} (h1 : 1 ≤ k) (h2 : k ≤ 3) : KFit (baseK k) :=
  ⟨⟨⟨h1, by show k ≤ 9; omega⟩, by simp [baseK], by show (0 : Nat) = if k = 7 ∨ k = 8 then 0 else 0; split <;> rfl⟩, by simp [baseK], (fun n h => by simp [baseK] at h), (fun j h => by simp [baseK] at h)⟩
theorem build_base (k : Int) (w : World) : (Instr.build 111 #[(0, .int .i64 k)]).run Try.prog w = .ok (.agg (baseK k).cells.toArray) w := by kernel_rfl
theorem exec_build0 {P : Program} {b : Act} {o : Oper} {v v' : World} {t : TypeId} {x : Operand} {p u : Value} (ho : o.op = .build t #[(0, x)]) (hx : b.eval x = p) (hr : (Instr.build t #[(0, p)]).run P v = .ok u v') :
    (execOp b.eval o).run P v = .ok (.value u) v' := by
  unfold execOp
  simp only [ho, List.map_toArray, List.map_cons, List.map_nil, hx, Sem.run_bind, hr, Result.andThen_ok, Sem.run_pure]
set_option maxHeartbeats 4000000 in
/-- Base. -/
theorem base_any (k : Int) (h1 : 1 ≤ k) (h2 : k ≤ 3) (w : World) (tb rb nb mb sb m : Nat) (ty nu : Value) (T : List Kz) (hT : TabV w tb rb nb mb sb m ty nu T) :
    Calls Try.prog 34 #[.pointer (some ⟨tb, 0, none⟩), .int .i64 k] w fun e w' => ∃ rb' nb' ty' nu', e = .returned (.tuple #[.int .i64 ((numK T (baseK k)).1 : Nat), .int .i64 ((numK T (baseK k)).2.1 : Nat)]) ∧ Added w w' tb rb nb mb sb m (numK T (baseK k)).2.2 rb' nb' ty' nu' := by
  have C := number_any (baseK k) (base_fit h1 h2) w tb rb nb mb sb m ty nu T hT (fun j h => by simp [baseK] at h)
  obtain ⟨v, hv⟩ : ∃ v, v = numK T (baseK k) := ⟨_, rfl⟩
  rw [← hv] at C ⊢
  have hk1 : ¬ k < 1 := by omega
  have hk3 : ¬ 3 < k := by omega
  have HC := Lib.hid C
  clear C hv hT
  go_enter Try.func34, Try.ntmps34
  go_upto_region 3 with fail
  refine wp_region_lit ?_
  refine wpList_runV (w' := w) rfl (.pointer (some ⟨tb, 0, none⟩)) (by simp [execOp, go_sem]) ?_
  refine wpList_runV (w' := w) rfl (.int .i64 k) (by simp [execOp, go_sem]) ?_
  simp only [Act.put, List.setIfInBounds_toArray, List.set_cons_zero, List.set_cons_succ]
  refine wpList_runV (w' := w) rfl _ (exec_build0 rfl rfl (build_base k w)) ?_
  simp only [Act.put, List.setIfInBounds_toArray, List.set_cons_zero, List.set_cons_succ]
  refine wpList_enter (f := 60) (args := #[.pointer (some ⟨tb, 0, none⟩), .agg (baseK k).cells.toArray]) rfl (by simp [go_sem]) HC.out ?_
  rintro e w5 ⟨rb2, nb2, ty2, nu2, rfl, ha⟩
  refine ⟨_, rfl, ?_⟩
  have HA := Lib.hid ha
  clear ha
  simp only [Act.put, List.setIfInBounds_toArray, List.set_cons_zero, List.set_cons_succ]
  go_wp2
  go_ret2
  exact ⟨rfl, rb2, nb2, ty2, nu2, HA.out⟩
end Sp
end Go.Proofs.Ytjjpjkkaogfoaaa

namespace Go.Proofs.Ytjjpjkkaogfoaaa
open Go.RowKit
namespace Sp
open Sc
set_option maxRecDepth 100000

/-- A table that lies wholly in blocks from B on, with its names and functions. -/
structure StV (B : Nat) (w : World) (tb rb nb mb sb m : Nat) (ty nu : Value) (T : List Kz) (N : List NN) (G : List GN) (vs : List Value) : Prop where
  tab : TabV w tb rb nb mb sb m ty nu T
  names : TxtV w mb (encNN N)
  sgs : FnsV w sb G vs
  lo : ∀ g, Own tb rb nb g → B ≤ g
  mlo : B ≤ mb
  slo : B ≤ sb
  ms : mb ≠ sb
section
variable {B : Nat} {w w' : World} {tb rb nb mb sb m rb' nb' : Nat} {ty nu ty' nu' : Value} {T T' : List Kz} {N : List NN} {G : List GN} {vs : List Value}
theorem StV.add (h : StV B w tb rb nb mb sb m ty nu T N G vs) (ha : Added w w' tb rb nb mb sb m T' rb' nb' ty' nu') (hB : B ≤ w.heap.size) : StV B w' tb rb' nb' mb sb m ty' nu' T' N G vs ∧ Below B w w' := by
  refine ⟨⟨ha.tab, h.tab.txt ha.keeps (fun e => h.tab.nm e.symm) h.names, h.tab.sgs ha.keeps h.sgs, fun g hg => ?_, h.mlo, h.slo, h.ms⟩, ha.keeps.below hB h.lo⟩
  rcases ha.grew.own g hg with h1 | h1
  · exact h.lo g h1
  · omega
theorem FnsV.same (h : FnsV w sb G vs) (hm : w'.heap[sb]? = w.heap[sb]?) (hk : ∀ (g : Nat) (cs : Array Value) (fr : Nat × Nat), w.heap[g]? = some (Obj.cells cs 3 fr) → w'.heap[g]? = w.heap[g]?) : FnsV w' sb G vs :=
  ⟨h.len, h.map.same hm, fun i h1 h2 => (h.row i h1 h2).keep hk⟩
theorem StV.stand (h : StV B w tb rb nb mb sb m ty nu T N G vs) {N' : List NN} (hn : TxtV w' mb (encNN N')) (hk : Keeps (fun g => g = mb) w w') (hB : B ≤ w.heap.size) : StV B w' tb rb nb mb sb m ty nu T N' G vs ∧ Below B w w' := by
  obtain ⟨es, c, hm⟩ := h.names.isMap
  have hne : ∀ g, Own tb rb nb g → g ≠ mb := fun g hg e => by
    subst e
    rcases h.tab.kinds hg with ⟨cs, t, h1, -⟩ | ⟨h1, -⟩
    · rw [hm] at h1; cases h1
    · exact h.tab.nm h1.symm
  refine ⟨⟨h.tab.keep (fun g hg => hk.block g (h.tab.lt hg) (hne g hg)) hk.size, hn, h.sgs.same (hk.block sb h.sgs.map.lt (fun e => h.ms e.symm)) (fun g cs fr hg => hk.block g (Array.getElem?_eq_some_iff.1 hg).1 (fun e => by rw [e, hm] at hg; cases hg)), h.lo, h.mlo, h.slo, h.ms⟩, hk.below hB fun g e => by rw [e]; exact h.mlo⟩
theorem StV.below (h : StV B w tb rb nb mb sb m ty nu T N G vs) (hb : Below w.heap.size w w') : StV B w' tb rb nb mb sb m ty nu T N G vs :=
  ⟨h.tab.below hb, h.names.below hb, h.sgs.same (hb.block sb h.sgs.map.lt) (fun g _ _ hg => hb.block g (Array.getElem?_eq_some_iff.1 hg).1), h.lo, h.mlo, h.slo, h.ms⟩
/-- Blocks below B are none of the table's. -/
theorem StV.far (h : StV B w tb rb nb mb sb m ty nu T N G vs) {g : Nat} (hg : g < B) : ¬ Own tb rb nb g := fun ho => by have := h.lo g ho; omega
end
theorem zerosN_snoc (l : List NT) (j : Nat) (h : j < l.length) : zerosN (l.take (j + 1)) = zerosN (l.take j) ++ [(l[j].1, 0)] := by
  unfold zerosN
  rw [List.take_add_one, List.getElem?_eq_getElem h, List.map_append]; rfl
theorem namK_drop {has : List UInt8 → Bool} {T : List Kz} {N : List NN} {l : List NT} {j : Nat} (h : j < l.length) : namK has T N (l.drop j) = if (addK has T l[j].2).2.1 = 0 then namK has (addK has T l[j].2).2.2 (N ++ [(l[j].1, (addK has T l[j].2).1)]) (l.drop (j + 1)) else ((addK has T l[j].2).2.1, (addK has T l[j].2).2.2, N) := by
  rw [List.drop_eq_getElem_cons h, namK]
/-- All blocks that a table writes. -/
def TabO (tb rb nb mb sb g : Nat) : Prop := Own tb rb nb g ∨ g = mb ∨ g = sb
theorem Keeps.tabO {tb rb nb mb sb rb' nb' : Nat} {w wr w2 : World} (h : Keeps (TabO tb rb nb mb sb) w wr) (hg : Grew w tb rb nb rb' nb') (k : Keeps (TabO tb rb' nb' mb sb) wr w2) : Keeps (TabO tb rb nb mb sb) w w2 :=
  h.trans k fun g ho => by
    rcases ho with ho | ho
    · rcases hg.own g ho with h | h
      · exact .inl (.inl h)
      · exact .inr h
    · exact .inl (.inr ho)
theorem Keeps.sub {O O' : Nat → Prop} {w w' : World} (h : Keeps O w w') (hs : ∀ g, O g → O' g) : Keeps O' w w' := ⟨h.os, h.tape, h.output, h.size, fun g hg hn => h.block g hg (fun ho => hn (hs g ho))⟩
/-- A block of other cells is none of those. -/
theorem StV.other {B : Nat} {w : World} {tb rb nb mb sb m : Nat} {ty nu : Value} {T : List Kz} {N : List NN} {G : List GN} {vs : List Value} (h : StV B w tb rb nb mb sb m ty nu T N G vs) {g : Nat} {cs : Array Value} {t : TypeId} (hg : w.heap[g]? = some (.cells cs t (0, 0))) (h1 : t ≠ 103) (h2 : t ≠ 111) : ¬ TabO tb rb nb mb sb g := fun ho => by
  rcases ho with ho | rfl | rfl
  · rcases h.tab.kinds ho with ⟨cs', t', e1, e2⟩ | ⟨-, es, c, e1⟩
    · rw [hg] at e1
      simp only [Option.some.injEq, Obj.cells.injEq] at e1
      rcases e2 with e2 | e2
      · exact h1 (e1.2.1.trans e2)
      · exact h2 (e1.2.1.trans e2)
    · rw [hg] at e1; cases e1
  · obtain ⟨es, c, hm⟩ := h.names.isMap
    rw [hg] at hm; cases hm
  · obtain ⟨es, c, hm⟩ := h.sgs.map.isMap
    rw [hg] at hm; cases hm
structure Nm1 (B : Nat) (W : World) (tb mb sb m : Nat) (l : List NT) (iv : Value) (wr : World) (j : Nat) : Prop where
  slot : iv = .int .i64 j
  le : j ≤ l.length
  st : StV B wr tb tb tb mb sb m (.slice none 0 0) (.map none) [] (zerosN (l.take j)) [] []
  below : Below B W wr
  keeps : Keeps (TabO tb tb tb mb sb) W wr
structure Nm2 (B : Nat) (W : World) (tb mb sb m : Nat) (has : List UInt8 → Bool) (l : List NT) (full : Nat × List Kz × List NN) (iv : Value) (wr : World) (j : Nat) (T : List Kz) (N : List NN) (rb nb : Nat) (ty nu : Value) : Prop where
  slot : iv = .int .i64 j
  le : j ≤ l.length
  rest : namK has T N (l.drop j) = full
  names : ∀ s, hasZ N s = has s
  len : N.length = l.length + j
  st : StV B wr tb rb nb mb sb m ty nu T N [] []
  below : Below B W wr
  keeps : Keeps (TabO tb tb tb mb sb) W wr
  grew : Grew W tb tb tb rb nb
set_option maxHeartbeats 16000000 in
theorem namedTypes_any (l : List NT) (us : List (List UInt8 × C4)) (a : Option Addr) (c : Nat) (w : World) (B tb mb sb m : Nat) (S : Nat → Prop) (hB : B ≤ w.heap.size) (hS : ∀ g, S g → g < B) (hl : l.length ≤ 12) (hlen : us.length = l.length) (hr : RowV w S a 5 (us.map encZ))
    (hv : ∀ i (h : i < l.length) (h' : i < us.length), us[i].1 = l[i].1 ∧ TzV w S l[i].2 us[i].2) (hf : ∀ i (h : i < l.length), l[i].1.length ≤ 1000 ∧ fitZ l[i].2 = true ∧ shortZ l[i].2 = true) (hst : StV B w tb tb tb mb sb m (.slice none 0 0) (.map none) [] [] [] []) :
    Calls Try.prog 76 #[.pointer (some ⟨tb, 0, none⟩), .slice a l.length c] w fun e w' => ∃ rb nb ty nu, e = .returned (.int .i64 ((namK (hasZ l) [] (zerosN l) l).1 : Nat)) ∧ StV B w' tb rb nb mb sb m ty nu (namK (hasZ l) [] (zerosN l) l).2.1 (namK (hasZ l) [] (zerosN l) l).2.2 [] [] ∧ Below B w w' ∧ Keeps (TabO tb tb tb mb sb) w w' ∧ Grew w tb tb tb rb nb := by
  obtain ⟨full, hfull⟩ : ∃ full, full = namK (hasZ l) [] (zerosN l) l := ⟨_, rfl⟩
  rw [← hfull]
  have HR := Lib.hid hr; have HV := Lib.hid hv; have HF := Lib.hid hf; have HST := Lib.hid hst; have HS := Lib.hid hS; have HFULL := Lib.hid hfull; have HLEN := Lib.hid hlen
  clear hr hv hf hst hS hfull hlen
  go_enter Try.func76, Try.ntmps76
  go_wp2_with fail
  go_loopw [13] (fun iv wr => ∃ j, Nm1 B w tb mb sb m l iv wr j) (fun iv _ => l.length - (intOf iv).toNat)
  case atStart => exact ⟨0, rfl, Nat.zero_le _, HST.out, Below.refl _ _, Keeps.refl _ _⟩
  case round =>
    obtain ⟨j, h⟩ := hrel
    obtain rfl := h.slot
    have hj := h.le
    have hws := h.below.size
    have H := Lib.hid h
    clear h
    by_cases hlt : j < l.length
    · have hlu : j < us.length := by rw [HLEN.out]; exact hlt
      have hjz : (j : Int) < (l.length : Int) := by omega
      have hj0 : (0 : Int) ≤ (j : Int) := by omega
      obtain ⟨g, o, rfl, hg, hc⟩ := nam_at (wb := B) HR.out HS.out j hlu
      obtain ⟨c0, c1, c2, c3, c4⟩ := hc wr (fun k hk => H.out.below.block k hk)
      have hnm := (HV.out j hlt hlu).1
      have hn1 := (HF.out j hlt).1
      rw [← hnm] at hn1
      have hzs := zerosN_snoc l j hlt
      rw [← hnm] at hzs
      have HZS := Lib.hid hzs
      clear hc hnm hzs
      generalize us[j] = x at *
      obtain ⟨x, ⟨x1, x2, x3, x4, x5, x6, x7, x8⟩⟩ := x
      dsimp only at *
      obtain ⟨W1, hW1⟩ : ∃ W1, W1 = wr.alloc (.cells #[.string ⟨x.toArray⟩, .int .i64 x1, .string x2, .slice x3 x4 x5, .slice x6 x7 x8] 44) := ⟨_, rfl⟩
      have hBB : Below wr.heap.size wr W1 := by rw [hW1]; exact (Below.refl _ _).alloc (Nat.le_refl _) _
      have hs1 := hBB.size
      have hst1 := H.out.st.below hBB
      have hC := stand_any x 0 W1 tb tb tb mb sb m _ _ [] (zerosN (l.take j)) hst1.tab hst1.names hn1 (by unfold zerosN; simp; omega)
      have HC := Lib.hid hC; have HBB := Lib.hid hBB; have HST1 := Lib.hid hst1
      clear hBB hst1 hC
      subst hW1
      go_wp2_with (go_at_call 89; (refine HC.out.mono ?_); rintro e w2 ⟨rfl, n2, k2⟩; have HN2 := Lib.hid n2; have HK2 := Lib.hid k2; clear n2 k2)
      go_roundw
      case rel =>
        obtain ⟨s1, b1⟩ := HST1.out.stand HN2.out HK2.out (by omega)
        exact ⟨j + 1, by go_num, by omega, by rw [HZS.out]; exact s1, H.out.below.trans ((HBB.out.mono (by omega)).trans b1), (H.out.keeps.trans (Keeps.of_below HBB.out) (fun _ h => .inl h)).trans HK2.out (fun g e => .inl (.inr (.inl e)))⟩
      case measure => simp [intOf]; omega
    · obtain rfl : j = l.length := by omega
      have hst := H.out.st
      rw [List.take_length] at hst
      have HST2 := Lib.hid hst
      have HB2 := Lib.hid H.out.below
      have HKP2 := Lib.hid H.out.keeps
      obtain ⟨wo, hwo⟩ : ∃ wo, wo = wr := ⟨wr, rfl⟩
      subst hwo
      clear hst H
      go_wp2_with fail
      go_loopw [24] (fun iv wr => ∃ j T N rb nb ty nu, Nm2 B wo tb mb sb m (hasZ l) l full iv wr j T N rb nb ty nu) (fun iv _ => l.length - (intOf iv).toNat)
      case atStart => exact ⟨0, [], zerosN l, tb, tb, _, _, rfl, Nat.zero_le _, by rw [List.drop_zero]; exact HFULL.out.symm, hasZ_zeros l, by simp [zerosN], HST2.out, Below.refl _ _, Keeps.refl _ _, Grew.refl _ _ _ _⟩
      case round =>
        obtain ⟨j, T, N, rb, nb, ty, nu, h⟩ := hrel
        obtain rfl := h.slot
        have hj := h.le
        have hws2 := h.below.size
        have hNl := h.len
        have H := Lib.hid h
        clear h
        by_cases hlt : j < l.length
        · have hlu : j < us.length := by rw [HLEN.out]; exact hlt
          have hjz : (j : Int) < (l.length : Int) := by omega
          have hj0 : (0 : Int) ≤ (j : Int) := by omega
          obtain ⟨g, o, rfl, hg, hc⟩ := nam_at (wb := B) HR.out HS.out j hlu
          obtain ⟨c0, c1, c2, c3, c4⟩ := hc wr (fun k hk => (H.out.below.block k hk).trans (HB2.out.block k hk))
          obtain ⟨hnm, hTV⟩ := HV.out j hlt hlu
          obtain ⟨hn1, hf1, hf2⟩ := HF.out j hlt
          rw [← hnm] at hn1
          have hdr := namK_drop (has := hasZ l) (T := T) (N := N) hlt
          rw [H.out.rest, ← hnm] at hdr
          have hmem : hasZ l us[j].1 = true := by rw [hnm]; exact hasZ_iff.2 ⟨l[j], List.getElem_mem hlt, rfl⟩
          clear hc hnm
          generalize l[j].2 = t at *
          generalize us[j] = x at *
          obtain ⟨x, ⟨x1, x2, x3, x4, x5, x6, x7, x8⟩⟩ := x
          dsimp only at *
          obtain ⟨W1, hW1⟩ : ∃ W1, W1 = wr.alloc (.cells #[.string ⟨x.toArray⟩, .int .i64 x1, .string x2, .slice x3 x4 x5, .slice x6 x7 x8] 44) := ⟨_, rfl⟩
          have hBB : Below wr.heap.size wr W1 := by rw [hW1]; exact (Below.refl _ _).alloc (Nat.le_refl _) _
          have hs1 := hBB.size
          have hz1 : W1.heap.size = wr.heap.size + 1 := by rw [hW1]; simp
          have hnb : W1.heap[wr.heap.size]? = some (.cells #[.string ⟨x.toArray⟩, .int .i64 x1, .string x2, .slice x3 x4 x5, .slice x6 x7 x8] 44 (0, 0)) := by rw [hW1]; exact heap_alloc_new wr _
          have hst1 := H.out.st.below hBB
          have hB1 : Below B w W1 := (HB2.out.trans H.out.below).trans (hBB.mono (by omega))
          have hV1 : TzV W1 S t ⟨x1, x2, x3, x4, x5, x6, x7, x8⟩ := hTV.keep (fun _ h => h) fun g hg => hB1.block g (HS.out g hg)
          have hA := add_any t hf1 hf2 W1 tb rb nb mb sb m ty nu T N S ⟨x1, x2, x3, x4, x5, x6, x7, x8⟩ hst1.tab hst1.names hV1 (fun g hg => ⟨by have := HS.out g hg; omega, hst1.far (HS.out g hg)⟩)
          rw [show hasZ N = hasZ l from funext H.out.names] at hA
          dsimp only at hA
          obtain ⟨⟨q1, q2, q3⟩, hq⟩ : ∃ q, addK (hasZ l) T t = q := ⟨_, rfl⟩
          rw [hq] at hA hdr
          dsimp only at hA hdr
          have hnk : ¬ Own tb rb nb wr.heap.size := fun ho => by have := H.out.st.tab.lt ho; omega
          have HA := Lib.hid hA; have HDR := Lib.hid hdr; have HST1 := Lib.hid hst1; have HBB := Lib.hid hBB; have HNB := Lib.hid hnb; have HNK := Lib.hid hnk; have HM := Lib.hid hmem
          clear hA hdr hst1 hBB hnb hV1 hB1 hTV hf1 hf2 hq hnk hmem
          subst hW1
          by_cases h0 : q2 = 0
          · subst h0
            have hd := HDR.out
            rw [if_pos rfl] at hd
            have HD := Lib.hid hd
            clear hd
            go_wp2_with (first
              | (go_at_call 32; (refine HA.out.mono ?_); rintro e w2 ⟨rb2, nb2, ty2, nu2, rfl, ha⟩; obtain ⟨s2, b2⟩ := HST1.out.add ha (by omega); have hz2 := b2.size; have nb2' := (ha.keeps.block wr.heap.size (by omega) HNK.out).trans HNB.out; obtain ⟨d0, -⟩ : w2.cell? ⟨wr.heap.size, 0, none⟩ = some (.string ⟨x.toArray⟩) ∧ True := ⟨by simp [World.cell?, nb2'], trivial⟩; have HC2 := Lib.hid (stand_any x q1 w2 tb rb2 nb2 mb sb m ty2 nu2 q3 N s2.tab s2.names hn1 (by omega)); have HS2 := Lib.hid s2; have HBL2 := Lib.hid b2; have HAK := Lib.hid ha.keeps; have HAG := Lib.hid ha.grew; clear s2 b2 ha nb2')
              | (go_at_call 89; (refine HC2.out.mono ?_); rintro e w3 ⟨rfl, n3, k3⟩; have HN3 := Lib.hid n3; have HK3 := Lib.hid k3; clear n3 k3))
            go_roundw
            case rel =>
              obtain ⟨s3, b3⟩ := HS2.out.stand HN3.out HK3.out (by omega)
              refine ⟨j + 1, q3, N ++ [(x, q1)], rb2, nb2, ty2, nu2, by go_num, by omega, HD.out.symm, fun s => ?_, by simp; omega, s3, H.out.below.trans ((HBB.out.mono (by omega)).trans (HBL2.out.trans b3)), ?_, H.out.grew.trans (HAG.out) (by omega)⟩
              · rw [hasZ_snoc, H.out.names]
                by_cases e : x = s
                · rw [← e, HM.out]; rfl
                · simp [e]
              · have k1 : Keeps (TabO tb rb nb mb sb) wr w3 := ((Keeps.of_below HBB.out).trans (O := TabO tb rb nb mb sb) HAK.out (fun g h => .inl (.inl h))).trans HK3.out (fun g e => .inl (.inr (.inl e)))
                exact H.out.keeps.tabO H.out.grew k1
            case measure => simp [intOf]; omega
          · have hd := HDR.out
            rw [if_neg h0] at hd
            have HD := Lib.hid hd
            clear hd
            have t0 : ((q2 : Nat) == (0 : Int)) = false := by simp; omega
            have hne : (q2 : Int) ≠ 0 := by omega
            go_wp2_with (go_at_call 32; (refine HA.out.mono ?_); rintro e w2 ⟨rb2, nb2, ty2, nu2, rfl, ha⟩; obtain ⟨s2, b2⟩ := HST1.out.add ha (by omega); have HS2 := Lib.hid s2; have HBL2 := Lib.hid b2; have HAK := Lib.hid ha.keeps; have HAG := Lib.hid ha.grew; clear s2 b2 ha)
            go_ret
            rw [HD.out]
            exact ⟨rb2, nb2, ty2, nu2, rfl, HS2.out, HB2.out.trans (H.out.below.trans ((HBB.out.mono (by omega)).trans HBL2.out)), HKP2.out.trans (H.out.keeps.tabO H.out.grew ((Keeps.of_below HBB.out).trans (O := TabO tb rb nb mb sb) HAK.out (fun g h => .inl (.inl h)))) (fun g h => .inl h), (H.out.grew.trans HAG.out (by omega)).older (by omega)⟩
        · obtain rfl : j = l.length := by omega
          have hz := H.out.rest
          rw [List.drop_length, namK] at hz
          have HZ := Lib.hid hz
          clear hz
          go_wp2
          go_ret
          rw [← HZ.out]
          exact ⟨rb, nb, ty, nu, rfl, H.out.st, HB2.out.trans H.out.below, HKP2.out.trans H.out.keeps (fun g h => .inl h), H.out.grew.older (by omega)⟩
end Sp
end Go.Proofs.Ytjjpjkkaogfoaaa

namespace Go.Proofs.Ytjjpjkkaogfoaaa
open Go.RowKit
namespace Sp
open Sc
set_option maxRecDepth 100000

theorem Added.off {w wr w2 : World} {tb rb nb mb sb m rb' nb' : Nat} {T : List Kz} {ty' nu' : Value} (h : Added w wr tb rb nb mb sb m T rb' nb' ty' nu') {X : Nat → Prop} (hk : Keeps X wr w2) (hX : ∀ g, X g → w.heap.size ≤ g ∧ ¬ Own tb rb' nb' g) : Added w w2 tb rb nb mb sb m T rb' nb' ty' nu' :=
  ⟨h.tab.keep (fun g hg => hk.block g (h.tab.lt hg) (fun hx => (hX g hx).2 hg)) hk.size, h.keeps.trans hk (fun g hx => .inr (hX g hx).1), h.grew⟩
theorem Added.below {w wr w2 : World} {tb rb nb mb sb m rb' nb' : Nat} {T : List Kz} {ty' nu' : Value} (h : Added w wr tb rb nb mb sb m T rb' nb' ty' nu') (hb : Below wr.heap.size wr w2) : Added w w2 tb rb nb mb sb m T rb' nb' ty' nu' :=
  h.off (X := fun _ => False) (Keeps.of_below hb) (fun _ h => h.elim)
/-- A block of other cells is none of the table's. -/
theorem TabV.other {w : World} {tb rb nb mb sb m : Nat} {ty nu : Value} {T : List Kz} (h : TabV w tb rb nb mb sb m ty nu T) {g : Nat} {cs : Array Value} {t : TypeId} (hg : w.heap[g]? = some (.cells cs t (0, 0))) (h1 : t ≠ 103) (h2 : t ≠ 111) : ¬ Own tb rb nb g := fun ho => by
  rcases h.kinds ho with ⟨cs', t', e1, e2⟩ | ⟨-, es, c, e1⟩
  · rw [hg] at e1
    simp only [Option.some.injEq, Obj.cells.injEq] at e1
    rcases e2 with e2 | e2
    · exact h1 (e1.2.1.trans e2)
    · exact h2 (e1.2.1.trans e2)
  · rw [hg] at e1; cases e1
theorem IdsV.blk {w : World} {v : Value} {ids : List Nat} (h : IdsV w v ids) {g : Nat} (hg : v.ownBlock = some g) : ∃ cs, w.heap[g]? = some (.cells cs 3 (0, 0)) := by
  obtain ⟨-, h2⟩ := h
  rcases h2 with ⟨rfl, -⟩ | ⟨g', cap, cur, rfl, -, e3, -⟩
  · cases hg
  · cases hg; exact ⟨_, e3⟩
theorem IdsV.same {w w' : World} {v : Value} {ids : List Nat} (h : IdsV w v ids) (hk : ∀ g, v.ownBlock = some g → w'.heap[g]? = w.heap[g]?) : IdsV w' v ids := by
  obtain ⟨h1, h2⟩ := h
  refine ⟨h1, ?_⟩
  rcases h2 with h2 | ⟨g, cap, cur, rfl, e2, e3, e4⟩
  · exact .inl h2
  · exact .inr ⟨g, cap, cur, rfl, e2, (hk g rfl).trans e3, e4⟩
theorem IdsV.slice {w : World} {v : Value} {ids : List Nat} (h : IdsV w v ids) : ∃ a c, v = .slice a ids.length c := by
  obtain ⟨-, h2⟩ := h
  rcases h2 with ⟨rfl, e⟩ | ⟨g', cap, cur, rfl, -⟩
  · rw [e]; exact ⟨none, 0, rfl⟩
  · exact ⟨_, _, rfl⟩
/-- The loop over the parameters. -/
structure FcR (w : World) (tb rb nb mb sb m : Nat) (has : List UInt8 → Bool) (T : List Kz) (ps : List Tz) (gc : Array Value) (iv : Value) (wr : World) (j : Nat) (ids : List Nat) (Tj : List Kz) (rb' nb' : Nat) (ty' nu' v : Value) : Prop where
  slot : iv = .int .i64 j
  le : j ≤ ps.length
  done : parK has T (ps.take j) = (ids, 0, Tj)
  ad : Added w wr tb rb nb mb sb m Tj rb' nb' ty' nu'
  gbx : wr.heap[w.heap.size]? = some (.cells gc 46 (0, 0))
  fbx : wr.heap[w.heap.size + 1]? = some (.cells #[v, .int .i64 0] 105 (0, 0))
  ids : IdsV wr v ids
  own : ∀ g, v.ownBlock = some g → w.heap.size ≤ g
theorem infoI : (Try.prog.info? 3).map (fun i => (i.zero, i.size, i.bytes)) = some (some (.int .i64 0), 1, 8) := by kernel_rfl
theorem parK_len2 {has : List UInt8 → Bool} : ∀ (ks : List Tz) (T : List Kz), (parK has T ks).2.1 = 0 → (parK has T ks).1.length = ks.length
  | [], T, _ => by rw [parK]; rfl
  | t :: ks, T, h => by
    rw [parK] at h ⊢
    split at h
    · rename_i h1
      rw [if_pos h1]
      simp [parK_len2 ks (addK has T t).2.2 h]
    · rename_i h1; exact absurd h h1
theorem two_set0 {w : World} {b : Nat} {t : TypeId} {v0 v1 : Value} (h : w.heap[b]? = some (.cells #[v0, v1] t (0, 0))) (v : Value) : (w.setCell ⟨b, 0, none⟩ v).heap[b]? = some (.cells #[v, v1] t (0, 0)) := by
  unfold World.setCell; simp [Array.getElem?_modify, h]
theorem fbv {w3 : World} {fb : Nat} {v z : Value} {ids : List Nat} (hfb : w3.heap[fb]? = some (.cells #[v, z] 105 (0, 0))) (hids : IdsV w3 v ids) : v.ownBlock ≠ some fb := fun e => by
  obtain ⟨cs, hc⟩ := hids.blk e
  rw [hfb] at hc
  simp only [Option.some.injEq, Obj.cells.injEq] at hc
  exact absurd hc.2.1 (by decide)
theorem ids_ne {w3 : World} {b : Nat} {v : Value} {ids : List Nat} {cs : Array Value} {t : TypeId} (hb : w3.heap[b]? = some (.cells cs t (0, 0))) (hids : IdsV w3 v ids) (ht : t ≠ 3) : v.ownBlock ≠ some b := fun e => by
  obtain ⟨cs', hc⟩ := hids.blk e
  rw [hb] at hc
  simp only [Option.some.injEq, Obj.cells.injEq] at hc
  exact ht hc.2.1
/-- One number more in a function's row. -/
theorem fn_app {w w3 w4 : World} {tb rb nb mb sb m rb2 nb2 fb g cap q : Nat} {T : List Kz} {ty2 nu2 v z : Value} {ids : List Nat} {o : Obj} (had : Added w w3 tb rb nb mb sb m T rb2 nb2 ty2 nu2) (hids : IdsV w3 v ids) (hown : ∀ g, v.ownBlock = some g → w.heap.size ≤ g) (hfb : w3.heap[fb]? = some (.cells #[v, z] 105 (0, 0))) (hfw : w.heap.size ≤ fb)
    (hgr : (w3.alloc o).grownBy w4 v.ownBlock) (hnew : w4.ownsRow 0 3 1 (.slice (some ⟨g, 0, none⟩) (ids.length + 1) cap) (ids.length + 1) (ids.map (fun i => .int .i64 (i : Nat)) ++ [.int .i64 (q : Nat)])) (hat : v.ownBlock = some g ∨ g = w3.heap.size + 1) :
    Added w (w4.setCell ⟨fb, 0, none⟩ (.slice (some ⟨g, 0, none⟩) (ids.length + 1) cap)) tb rb nb mb sb m T rb2 nb2 ty2 nu2 ∧ IdsV (w4.setCell ⟨fb, 0, none⟩ (.slice (some ⟨g, 0, none⟩) (ids.length + 1) cap)) (.slice (some ⟨g, 0, none⟩) (ids.length + 1) cap) (ids ++ [q]) ∧
    (w4.setCell ⟨fb, 0, none⟩ (.slice (some ⟨g, 0, none⟩) (ids.length + 1) cap)).heap[fb]? = some (.cells #[.slice (some ⟨g, 0, none⟩) (ids.length + 1) cap, z] 105 (0, 0)) ∧
    (∀ b, b < w3.heap.size → v.ownBlock ≠ some b → b ≠ fb → (w4.setCell ⟨fb, 0, none⟩ (.slice (some ⟨g, 0, none⟩) (ids.length + 1) cap)).heap[b]? = w3.heap[b]?) ∧ w.heap.size ≤ g := by
  have hfl := (Array.getElem?_eq_some_iff.1 hfb).1
  have hvf : v.ownBlock ≠ some fb := fun e => by
    obtain ⟨cs, hc⟩ := hids.blk e
    rw [hfb] at hc
    simp only [Option.some.injEq, Obj.cells.injEq] at hc
    exact absurd hc.2.1 (by decide)
  have hw3 := had.keeps.size
  have hold : ∀ b, b < w3.heap.size → v.ownBlock ≠ some b → w4.heap[b]? = w3.heap[b]? := fun b hb hv => (hgr.block b (by simp; omega) (fun e => hv e.symm)).trans (Below.heap_alloc _ _ _ hb)
  have hf4 := (hold fb hfl hvf).trans hfb
  have hgf : g ≠ fb := fun e => by
    obtain ⟨-, h2⟩ := hnew
    rcases h2 with ⟨h2, -⟩ | ⟨g', cap', cur, e1, -, e3, -⟩
    · cases h2
    · cases e1
      rw [e, hf4] at e3
      simp only [Option.some.injEq, Obj.cells.injEq] at e3
      exact absurd e3.2.1 (by decide)
  have hset : ∀ b, b ≠ fb → (w4.setCell ⟨fb, 0, none⟩ (.slice (some ⟨g, 0, none⟩) (ids.length + 1) cap)).heap[b]? = w4.heap[b]? := fun b hb => RowKit.Below.heap_setCell _ _ _ _ hb
  have hgs := hgr.size
  simp at hgs
  have hK : Keeps (fun b => v.ownBlock = some b ∨ b = fb) w3 (w4.setCell ⟨fb, 0, none⟩ (.slice (some ⟨g, 0, none⟩) (ids.length + 1) cap)) :=
    ⟨hgr.os, hgr.tape, hgr.output, by simp; omega, fun b hb hn => (hset b (fun e => hn (.inr e))).trans (hold b hb (fun e => hn (.inl e)))⟩
  refine ⟨had.off hK fun b hb => ?_, ?_, two_set0 hf4 _, fun b hb hv hbf => (hset b hbf).trans (hold b hb hv), ?_⟩
  · rcases hb with hb | rfl
    · obtain ⟨cs, hc⟩ := hids.blk hb
      exact ⟨hown b hb, had.tab.other hc (by decide) (by decide)⟩
    · exact ⟨hfw, had.tab.other hfb (by decide) (by decide)⟩
  · have hn : IdsV w4 (.slice (some ⟨g, 0, none⟩) (ids.length + 1) cap) (ids ++ [q]) := by
      unfold IdsV
      rw [List.length_append, List.map_append]; exact hnew
    exact hn.same fun b hb => by cases hb; exact hset g hgf
  · rcases hat with h | h
    · exact hown g h
    · omega
theorem fns_snoc {G : List GN} {vs : List Value} (h : vs.length = G.length) (x : GN) (v : Value) : ((G ++ [x]).map (·.1)).zip (List.zipWith (fun v (x : GN) => Value.agg #[v, .int .i64 (x.2.2 : Nat)]) (vs ++ [v]) (G ++ [x])) = (G.map (·.1)).zip (List.zipWith (fun v (x : GN) => Value.agg #[v, .int .i64 (x.2.2 : Nat)]) vs G) ++ [(x.1, .agg #[v, .int .i64 (x.2.2 : Nat)])] := by
  rw [List.zipWith_append h, List.map_append, List.zip_append (by simp [h])]
  rfl
/-- A function's numbers stand in the map. -/
theorem fn_done {B : Nat} {w w3 w6 w7 : World} {tb rb nb mb sb m rb2 nb2 fb r : Nat} {ty nu ty2 nu2 v z z' : Value} {T T' : List Kz} {N : List NN} {G : List GN} {vs : List Value} {ids : List Nat} {name : List UInt8} (hst : StV B w tb rb nb mb sb m ty nu T N G vs) (hB : B ≤ w.heap.size) (ad : Added w w3 tb rb nb mb sb m T' rb2 nb2 ty2 nu2)
    (hfb : w3.heap[fb]? = some (.cells #[v, z] 105 (0, 0))) (hfw : w.heap.size ≤ fb) (hids : IdsV w3 v ids) (x6 : Below (w3.setCell ⟨fb, 1, none⟩ z').drew.heap.size (w3.setCell ⟨fb, 1, none⟩ z').drew w6) (hg : w6.grownBy w7 (some sb))
    (hN : TxtV w7 sb ((G.map (·.1)).zip (List.zipWith (fun v (x : GN) => Value.agg #[v, .int .i64 (x.2.2 : Nat)]) vs G) ++ [(name, .agg #[v, .int .i64 (r : Nat)])])) :
    StV B w7 tb rb2 nb2 mb sb m ty2 nu2 T' N (G ++ [(name, ids, r)]) (vs ++ [v]) ∧ Below B w w7 ∧ Keeps (TabO tb rb nb mb sb) w w7 ∧ Grew w tb rb nb rb2 nb2 := by
  have hk5 : Keeps (fun b => b = fb) w3 w6 := ((Keeps.refl (fun b => b = fb) w3).setCell 1 z' rfl).trans (O' := fun _ => False) (show Keeps _ (w3.setCell ⟨fb, 1, none⟩ z') w6 from ⟨x6.os, x6.tape, x6.output, x6.size, fun g hg _ => x6.block g hg⟩) (fun _ h => h.elim)
  have ad6 : Added w w6 tb rb nb mb sb m T' rb2 nb2 ty2 nu2 := ad.off hk5 fun b hb => by
    subst hb
    exact ⟨hfw, ad.tab.other hfb (by decide) (by decide)⟩
  have hs6 := hst.tab.sgs ad6.keeps hst.sgs
  obtain ⟨es, c, hm⟩ := hs6.map.isMap
  have hint : ∀ (g : Nat) (cs : Array Value) (fr : Nat × Nat), w6.heap[g]? = some (Obj.cells cs 3 fr) → w7.heap[g]? = w6.heap[g]? := fun g cs fr h => hg.block g (Array.getElem?_eq_some_iff.1 h).1 (fun e => by cases e; rw [hm] at h; cases h)
  have hown : ∀ g, Own tb rb2 nb2 g → g ≠ sb := fun g ho e => by
    subst e
    rcases ad6.tab.kinds ho with ⟨cs, t, h1, -⟩ | ⟨h1, -⟩
    · rw [hm] at h1; cases h1
    · exact ad6.tab.ns h1.symm
  have hids6 : IdsV w6 v ids := hids.same fun g hg => hk5.block g (by obtain ⟨cs, hc⟩ := hids.blk hg; exact (Array.getElem?_eq_some_iff.1 hc).1) (fun e => fbv hfb hids (e ▸ hg))
  have hn6 := hst.tab.txt ad6.keeps (fun e => hst.tab.nm e.symm) hst.names
  refine ⟨⟨ad6.tab.keep (fun g ho => hg.block g (ad6.tab.lt ho) (by simpa using hown g ho)) hg.size, hn6.same (hg.block mb hn6.lt (by simpa using hst.ms)), ⟨by simp [hst.sgs.len], ?_, fun i h1 h2 => ?_⟩, fun g ho => ?_, hst.mlo, hst.slo, hst.ms⟩, ?_, (ad6.keeps.sub (fun g h => .inl h)).trans (Keeps.of_grown (O := fun g => g = sb) hg (fun g e => by cases e; rfl)) (fun g e => .inl (.inr (.inr e))), ad6.grew⟩
  · rw [fns_snoc hst.sgs.len]; exact hN
  · by_cases hi : i < G.length
    · rw [List.getElem_append_left hi, List.getElem_append_left (by rw [hst.sgs.len]; exact hi)]
      exact (hs6.row i hi (by rw [hst.sgs.len]; exact hi)).keep hint
    · have hi1 : i = G.length := by simp at h1; omega
      subst hi1
      rw [List.getElem_append_right (Nat.le_refl _), List.getElem_append_right (by rw [hst.sgs.len]; exact Nat.le_refl _)]
      simp only [hst.sgs.len, Nat.sub_self, List.getElem_cons_zero]
      exact hids6.keep hint
  · rcases ad6.grew.own g ho with h | h
    · exact hst.lo g h
    · omega
  · exact (ad6.keeps.below hB hst.lo).trans ⟨hg.os, hg.tape, hg.output, hg.size, fun k hk => hg.block k (by have := ad6.keeps.size; omega) (by have := hst.slo; simp; omega)⟩
set_option maxHeartbeats 16000000 in
theorem cfn_any (g : Sg) (x : List UInt8 × G6) (w : World) (B tb rb nb mb sb m : Nat) (ty nu : Value) (T : List Kz) (N : List NN) (G : List GN) (vs : List Value) (S : Nat → Prop) (hB : B ≤ w.heap.size) (hS : ∀ b, S b → b < B) (hV : SgV w S g x) (hst : StV B w tb rb nb mb sb m ty nu T N G vs)
    (hnm : g.name.length ≤ 1000) (hpl : g.params.length ≤ 1000) (hps : ∀ t ∈ g.params, fitZ t = true ∧ shortZ t = true) (hrs : fitZ g.result = true ∧ shortZ g.result = true) (hG : G.length < 1000000) :
    Calls Try.prog 77 #[.pointer (some ⟨tb, 0, none⟩), .agg #[.string ⟨x.1.toArray⟩, .slice x.2.ap x.2.lp x.2.cp, .int .i64 x.2.c.k, .string x.2.c.n, .slice x.2.c.an x.2.c.ln x.2.c.cn, .slice x.2.c.ak x.2.c.lk x.2.c.ck]] w fun e w' =>
      e = .returned (.int .i64 ((fnK (hasZ N) T g).2.1 : Nat)) ∧ Below B w w' ∧ ((fnK (hasZ N) T g).2.1 = 0 → ∃ rb' nb' ty' nu' vs', StV B w' tb rb' nb' mb sb m ty' nu' (fnK (hasZ N) T g).2.2 N (G ++ [(fnK (hasZ N) T g).1]) vs' ∧ Keeps (TabO tb rb nb mb sb) w w' ∧ Grew w tb rb nb rb' nb') := by
  obtain ⟨hx1, hx2, ⟨ps, hp1, hp2, hp3⟩, hres⟩ := hV
  obtain ⟨x, ⟨ap, lp, cp, ⟨x1, x2, x3, x4, x5, x6, x7, x8⟩⟩⟩ := x
  dsimp only at *
  subst hx1 hx2
  obtain ⟨full, hfull⟩ : ∃ full, full = fnK (hasZ N) T g := ⟨_, rfl⟩
  rw [← hfull]
  unfold fnK at hfull
  obtain ⟨GC, hGC⟩ : ∃ GC : Array Value, GC = #[.string ⟨g.name.toArray⟩, .slice ap g.params.length cp, .int .i64 x1, .string x2, .slice x3 x4 x5, .slice x6 x7 x8] := ⟨_, rfl⟩
  obtain ⟨W1, hW1⟩ : ∃ W1, W1 = (w.alloc (.cells #[.string ⟨g.name.toArray⟩, .slice ap g.params.length cp, .int .i64 x1, .string x2, .slice x3 x4 x5, .slice x6 x7 x8] 46)).alloc (.cells #[.slice none 0 0, .int .i64 0] 105) := ⟨_, rfl⟩
  have hz1 : W1.heap.size = w.heap.size + 2 := by rw [hW1]; simp
  have hb1 : Below w.heap.size w W1 := by rw [hW1]; exact ((Below.refl _ _).alloc (Nat.le_refl _) _).alloc (by simp) _
  have hg1 : W1.heap[w.heap.size]? = some (.cells GC 46 (0, 0)) := by rw [hGC, hW1, blk_if, if_neg (by simp), blk_if, if_pos rfl]
  have hf1 : W1.heap[w.heap.size + 1]? = some (.cells #[.slice none 0 0, .int .i64 0] 105 (0, 0)) := by rw [hW1, blk_if, if_pos (by simp)]
  obtain ⟨i0, hi, hi0, hi1, hi2⟩ := info_parts infoI
  have HW1 := Lib.hid hW1; have HB1 := Lib.hid hb1; have HG1 := Lib.hid hg1; have HF1 := Lib.hid hf1; have HST := Lib.hid hst; have HS := Lib.hid hS; have HP1 := Lib.hid hp1; have HP2 := Lib.hid hp2; have HP3 := Lib.hid hp3; have HRES := Lib.hid hres; have HPS := Lib.hid hps; have HRS := Lib.hid hrs; have HFULL := Lib.hid hfull; have HGC := Lib.hid hGC
  have HI := Lib.hid hi; have HI0 := Lib.hid hi0; have HI1 := Lib.hid hi1; have HI2 := Lib.hid hi2
  clear hW1 hb1 hg1 hf1 hst hS hp1 hp2 hp3 hres hps hrs hfull hGC hi hi0 hi1 hi2
  go_enter Try.func77, Try.ntmps77
  go_upto_region 2 with fail
  rw [← HW1.out]
  have gg := HG1.out
  rw [HGC.out] at gg
  obtain ⟨⟨p0, p1, p2, p3, p4, p5⟩, _⟩ := six_blkF gg
  clear gg
  go_wp2_with fail
  clear p0 p1 p2 p3 p4 p5
  go_loopw [15] (fun iv wr => ∃ j ids Tj rb' nb' ty' nu' v, FcR w tb rb nb mb sb m (hasZ N) T g.params GC iv wr j ids Tj rb' nb' ty' nu' v) (fun iv _ => g.params.length - (intOf iv).toNat)
  case atStart => exact ⟨0, [], T, rb, nb, ty, nu, .slice none 0 0, rfl, Nat.zero_le _, by rw [List.take_zero, parK], ⟨HST.out.tab.below HB1.out, Keeps.of_below HB1.out, Grew.refl _ _ _ _⟩, HG1.out, HF1.out, World.ownsRow_nil _ _ _ _, (fun g h => by cases h)⟩
  case round =>
    obtain ⟨j, ids, Tj, rb', nb', ty', nu', v, h⟩ := hrel
    obtain rfl := h.slot
    have hj := h.le
    have hwz := h.ad.keeps.size
    have hgz := (Array.getElem?_eq_some_iff.1 h.fbx).1
    have hidl : ids.length = j := by
      have := parK_len2 (has := hasZ N) (g.params.take j) T (by rw [h.done])
      rw [h.done] at this
      simpa [Nat.min_eq_left hj] using this
    obtain ⟨va, vc, rfl⟩ := h.ids.slice
    have H := Lib.hid h
    have HIDL := Lib.hid hidl
    clear hidl
    clear h
    by_cases hlt : j < g.params.length
    · have hlu : j < ps.length := by rw [HP1.out]; exact hlt
      have hjz : (j : Int) < (g.params.length : Int) := by omega
      have hj0 : (0 : Int) ≤ (j : Int) := by omega
      obtain ⟨b, o, rfl, hg, hc⟩ := four_at (wb := B) HP2.out HS.out j hlu
      have hlow : ∀ k, k < B → wr.heap[k]? = w.heap[k]? := fun k hk => H.out.ad.keeps.block k (by omega) (HST.out.far hk)
      obtain ⟨c0, c1, c2, c3⟩ := hc wr hlow
      have hTV := HP3.out j hlt hlu
      obtain ⟨ht1, ht2⟩ := HPS.out g.params[j] (List.getElem_mem hlt)
      have htk : g.params.take (j + 1) = g.params.take j ++ [g.params[j]] := by rw [List.take_add_one, List.getElem?_eq_getElem hlt]; rfl
      have hsn := parK_snoc (hasZ N) T (g.params.take j) g.params[j]
      rw [← htk, H.out.done] at hsn
      dsimp only at hsn
      rw [if_pos rfl] at hsn
      clear hc htk
      generalize g.params[j] = t at *
      generalize ps[j] = y at *
      obtain ⟨y1, y2, y3, y4, y5, y6, y7, y8⟩ := y
      dsimp only at *
      obtain ⟨W2, hW2⟩ : ∃ W2, W2 = wr.alloc (.cells #[.int .i64 y1, .string y2, .slice y3 y4 y5, .slice y6 y7 y8] 25) := ⟨_, rfl⟩
      have hBB : Below wr.heap.size wr W2 := by rw [hW2]; exact (Below.refl _ _).alloc (Nat.le_refl _) _
      have hzb := hBB.size
      have had := H.out.ad.below hBB
      have hN2 : TxtV W2 mb (encNN N) := HST.out.tab.txt had.keeps (fun e => HST.out.tab.nm e.symm) HST.out.names
      have hA := add_any t ht1 ht2 W2 tb rb' nb' mb sb m ty' nu' Tj N S ⟨y1, y2, y3, y4, y5, y6, y7, y8⟩ had.tab hN2 (hTV.keep (fun _ h => h) fun k hk => (hBB.block k (by have := HS.out k hk; omega)).trans (hlow k (HS.out k hk))) (fun k hk => ⟨by have := HS.out k hk; omega, fun ho => by
        rcases had.grew.own k ho with h | h
        · exact HST.out.far (HS.out k hk) h
        · have := HS.out k hk; omega⟩)
      dsimp only at hA
      obtain ⟨⟨q1, q2, q3⟩, hq⟩ : ∃ q, addK (hasZ N) Tj t = q := ⟨_, rfl⟩
      rw [hq] at hA hsn
      dsimp only at hA hsn
      have HA := Lib.hid hA; have HSN := Lib.hid hsn; have HBB := Lib.hid hBB; have HAD := Lib.hid had
      clear hA hsn hBB had hN2 hTV hlow hq ht1 ht2
      subst hW2
      by_cases h0 : q2 = 0
      · subst h0
        have hd := HSN.out
        rw [if_pos rfl] at hd
        have HD := Lib.hid hd
        clear hd
        go_wp2_with (first | (go_at_call 32; (refine HA.out.mono ?_); rintro e w3 ⟨rb2, nb2, ty2, nu2, rfl, ha⟩; have hz3 := ha.keeps.size; have fb2 := (HBB.out.block (w.heap.size + 1) hgz).trans H.out.fbx; have fb3 := (ha.keeps.block (w.heap.size + 1) (by omega) (HAD.out.tab.other fb2 (by decide) (by decide))).trans fb2; have gb2 := (HBB.out.block w.heap.size (by omega)).trans H.out.gbx; have gb3 := (ha.keeps.block w.heap.size (by omega) (HAD.out.tab.other gb2 (by decide) (by decide))).trans gb2; have ids2 := H.out.ids.same (fun k hk => HBB.out.block k (by obtain ⟨cs, hc⟩ := H.out.ids.blk hk; exact (Array.getElem?_eq_some_iff.1 hc).1)); have IDS3 := Lib.hid (HAD.out.tab.ids ha.keeps ids2); have AD3 := Lib.hid (HAD.out.trans ha); obtain ⟨⟨f0, -⟩, -⟩ := two_blk fb3; have FB3 := Lib.hid fb3; have GB3 := Lib.hid gb3; clear ha fb2 fb3 gb2 gb3 ids2) | (at_builtin; go_loud (refine wpList_append_lies _ rfl (.tmp 29) (.tmp 31) 30 rfl 0 3 i0 (.int .i64 0) 1 8 Try.underlying30 HI.out HI0.out HI1.out HI2.out rfl (by decide) (.slice va ids.length vc) ids.length (ids.map fun i => .int .i64 (i : Nat)) rfl (IDS3.out.alloc _) ⟨w3.heap.size, 0, none⟩ 1 1 [.int .i64 (q1 : Nat)] rfl rfl (cells_newZ _ _ _) (fun x hx => by simp at hx; subst hx; rfl) (by decide) (by have := HIDL.out; unfold maxLen; omega) (by have := HIDL.out; omega) (Nat.zero_le _) (w3.heap.size + 1) (by simp) ?_); intro gn cap w4 hown hgrow hat hlt4; obtain ⟨A5, I5, F5, O5, L5⟩ := fn_app (q := q1) AD3.out IDS3.out H.out.own FB3.out (Nat.le_succ _) hgrow hown hat; have fb4 : w4.heap[w.heap.size + 1]? = some (.cells #[.slice va ids.length vc, .int .i64 0] 105 (0, 0)) := (hgrow.block (w.heap.size + 1) (by simp; omega) (fun e => fbv FB3.out IDS3.out e.symm)).trans ((Below.heap_alloc _ _ _ (by omega)).trans FB3.out); obtain ⟨⟨k0, -⟩, ⟨z0, -⟩⟩ := two_blk fb4; have HA5 := Lib.hid A5; have HI5 := Lib.hid I5; have HF5 := Lib.hid F5; have HO5 := Lib.hid O5; clear hown hgrow hat fb4 A5 I5 F5 O5))
        go_roundw
        case rel =>
          refine ⟨j + 1, ids ++ [q1], q3, rb2, nb2, ty2, nu2, _, by go_num, by omega, HD.out, HA5.out, ?_, HF5.out, HI5.out, ?_⟩
          · exact (HO5.out w.heap.size (by omega) (ids_ne GB3.out IDS3.out (by decide)) (by omega)).trans GB3.out
          · intro b hb; cases hb; exact L5
        case measure => simp [intOf]; omega
      · have hd := HSN.out
        rw [if_neg h0] at hd
        have hbad := parK_bad (has := hasZ N) (T := T) (ks := g.params) (i := j + 1) (by rw [hd]; exact h0)
        rw [hd] at hbad
        have hf := HFULL.out
        rw [hbad] at hf
        dsimp only at hf
        rw [if_neg h0] at hf
        have HF := Lib.hid hf
        clear hd hbad hf
        have t0 : ((q2 : Nat) == (0 : Int)) = false := by simp; omega
        have hne : (q2 : Int) ≠ 0 := by omega
        go_wp2_with (go_at_call 32; (refine HA.out.mono ?_); rintro e w3 ⟨rb2, nb2, ty2, nu2, rfl, ha⟩; have AD3 := Lib.hid (HAD.out.trans ha); clear ha)
        go_ret
        rw [HF.out]
        exact ⟨rfl, AD3.out.keeps.below hB HST.out.lo, fun e => absurd e h0⟩
    · obtain rfl : j = g.params.length := by omega
      have hd := H.out.done
      rw [List.take_length] at hd
      have hf := HFULL.out
      rw [hd] at hf
      dsimp only at hf
      rw [if_pos rfl] at hf
      have hlow : ∀ k, k < B → wr.heap[k]? = w.heap[k]? := fun k hk => H.out.ad.keeps.block k (by omega) (HST.out.far hk)
      have hN2 : TxtV wr mb (encNN N) := HST.out.tab.txt H.out.ad.keeps (fun e => HST.out.tab.nm e.symm) HST.out.names
      obtain ⟨hr1, hr2⟩ := HRS.out
      have hA := add_any g.result hr1 hr2 wr tb rb' nb' mb sb m ty' nu' Tj N S ⟨x1, x2, x3, x4, x5, x6, x7, x8⟩ H.out.ad.tab hN2 (HRES.out.keep (fun _ h => h) fun k hk => hlow k (HS.out k hk)) (fun k hk => ⟨by have := HS.out k hk; omega, fun ho => by
        rcases H.out.ad.grew.own k ho with h | h
        · exact HST.out.far (HS.out k hk) h
        · have := HS.out k hk; omega⟩)
      dsimp only at hA
      obtain ⟨⟨q1, q2, q3⟩, hq⟩ : ∃ q, addK (hasZ N) Tj g.result = q := ⟨_, rfl⟩
      rw [hq] at hA hf
      dsimp only at hA hf
      have gg := H.out.gbx
      rw [HGC.out] at gg
      obtain ⟨⟨p0, p1, p2, p3, p4, p5⟩, _⟩ := six_blkF gg
      have HA := Lib.hid hA; have HF := Lib.hid hf; have HGG := Lib.hid gg
      clear hA hf hN2 hlow hq hr1 hr2 gg hd
      by_cases h0 : q2 = 0
      · subst h0
        go_upto_region 14 with (go_at_call 32; (refine HA.out.mono ?_); rintro e w3 ⟨rb2, nb2, ty2, nu2, rfl, ha⟩; have hz3 := ha.keeps.size; have fb3 := (ha.keeps.block (w.heap.size + 1) (by omega) (H.out.ad.tab.other H.out.fbx (by decide) (by decide))).trans H.out.fbx; have gb3 := (ha.keeps.block w.heap.size (by omega) (H.out.ad.tab.other HGG.out (by decide) (by decide))).trans HGG.out; have IDS3 := Lib.hid (H.out.ad.tab.ids ha.keeps H.out.ids); have AD3 := Lib.hid (H.out.ad.trans ha); obtain ⟨⟨f0, f1⟩, ⟨-, z1⟩⟩ := two_blk fb3; have FB3 := Lib.hid fb3; have GB3 := Lib.hid gb3; clear ha fb3 gb3 p0 p1 p2 p3 p4 p5)
        obtain ⟨W5, hW5⟩ : ∃ W5, W5 = w3.setCell ⟨w.heap.size + 1, 1, none⟩ (.int .i64 (q1 : Nat)) := ⟨_, rfl⟩
        have fb5 : W5.heap[w.heap.size + 1]? = some (.cells #[.slice va ids.length vc, .int .i64 (q1 : Nat)] 105 (0, 0)) := by rw [hW5]; exact set_two1 FB3.out _
        have hoth : ∀ b, b ≠ w.heap.size + 1 → W5.heap[b]? = w3.heap[b]? := fun b hb => by rw [hW5]; exact RowKit.Below.heap_setCell _ _ _ _ hb
        have hz5 : W5.heap.size = w3.heap.size := by rw [hW5]; simp
        have gb5 := (hoth w.heap.size (by omega)).trans GB3.out
        have htl := AD3.out.tab.tlt
        have htn : tb ≠ w.heap.size + 1 := by have := HST.out.tab.tlt; omega
        have tb5 := (hoth tb htn).trans AD3.out.tab.box
        obtain ⟨⟨-, -, -, s3, -⟩, -⟩ := five_blkF tb5
        obtain ⟨⟨k0, k1⟩, -⟩ := two_blk fb5
        obtain ⟨⟨g0, -⟩, -⟩ := six_blkF gb5
        have s3d : W5.drew.cell? ⟨tb, 3, none⟩ = some (.map (some sb)) := s3
        have k0d : W5.drew.cell? ⟨w.heap.size + 1, 0, none⟩ = some (.slice va ids.length vc) := k0
        have k1d : W5.drew.cell? ⟨w.heap.size + 1, 1, none⟩ = some (.int .i64 (q1 : Nat)) := k1
        have g0d : W5.drew.cell? ⟨w.heap.size, 0, none⟩ = some (.string ⟨g.name.toArray⟩) := g0
        have hl1 : tb < W5.drew.heap.size := by show tb < W5.heap.size; omega
        have hl2 : w.heap.size + 1 < W5.drew.heap.size := by show _ < W5.heap.size; omega
        have hl3 : w.heap.size < W5.drew.heap.size := by show _ < W5.heap.size; omega
        rw [← hW5]
        have hF5 : FnsV W5 sb G vs := (HST.out.tab.sgs AD3.out.keeps HST.out.sgs).same (hoth sb (by have := HST.out.tab.slt; omega)) (fun b cs fr hb => hoth b (fun e => by
          rw [e, FB3.out] at hb
          simp only [Option.some.injEq, Obj.cells.injEq] at hb
          exact absurd hb.2.1 (by decide)))
        have HC := Lib.hid (clone_any g.name W5.drew hnm); have HF5 := Lib.hid hF5; have HW5 := Lib.hid hW5
        have ht3 : sb ≠ tb := fun e => by
          obtain ⟨es, c, h⟩ := HST.out.sgs.map.isMap
          rw [e, HST.out.tab.box] at h; cases h
        have hsl := HST.out.tab.slt
        clear fb5 hoth gb5 tb5 hF5 hW5 s3 k0 k1 g0
        go_region_held3 (fun w' => w'.cell? ⟨tb, 3, none⟩ = some (.map (some sb)) ∧ w'.cell? ⟨w.heap.size + 1, 0, none⟩ = some (.slice va ids.length vc) ∧ w'.cell? ⟨w.heap.size + 1, 1, none⟩ = some (.int .i64 (q1 : Nat)) ∧ w'.cell? ⟨w.heap.size, 0, none⟩ = some (.string ⟨g.name.toArray⟩)) (go_keep) (first
          | (go_at_call 90; (refine HC.out.mono ?_); rintro e w6 ⟨rfl, x6⟩; obtain ⟨w7, hrun, hN7, hg7⟩ := (HF5.out.map.same (x6.block sb (by show sb < W5.heap.size; omega))).put (w := w6) Try.underlying99 g.name (.agg #[.slice va ids.length vc, .int .i64 (q1 : Nat)]) (le_max hnm) (by have := HF5.out.len; simp; unfold maxLen; omega); have a1 := (x6.cell (p := ⟨tb, 3, none⟩) hl1).trans s3d; have a2 := (x6.cell (p := ⟨w.heap.size + 1, 0, none⟩) hl2).trans k0d; have a3 := (x6.cell (p := ⟨w.heap.size + 1, 1, none⟩) hl2).trans k1d; have a4 := (x6.cell (p := ⟨w.heap.size, 0, none⟩) hl3).trans g0d; have hx6 := x6.size; have e1 := (hg7.cell_far ⟨tb, 3, none⟩ (Nat.lt_of_lt_of_le hl1 hx6) (by simpa using fun e => ht3 e.symm)).trans a1; have e2 := (hg7.cell_far ⟨w.heap.size + 1, 0, none⟩ (Nat.lt_of_lt_of_le hl2 hx6) (by simp; omega)).trans a2; have e3 := (hg7.cell_far ⟨w.heap.size + 1, 1, none⟩ (Nat.lt_of_lt_of_le hl2 hx6) (by simp; omega)).trans a3; have e4 := (hg7.cell_far ⟨w.heap.size, 0, none⟩ (Nat.lt_of_lt_of_le hl3 hx6) (by simp; omega)).trans a4; have HN7 := Lib.hid hN7; have HG7 := Lib.hid hg7; have HX6 := Lib.hid x6; clear hN7 hg7 x6))
        go_wp2
        go_ret
        rw [HF.out]
        have hdone := fn_done (r := q1) (name := g.name) HST.out hB AD3.out FB3.out (Nat.le_succ _) IDS3.out (by rw [← HW5.out]; exact HX6.out) HG7.out HN7.out
        exact ⟨rfl, hdone.2.1, fun _ => ⟨rb2, nb2, ty2, nu2, _, hdone.1, hdone.2.2⟩⟩
      · have t0 : ((q2 : Nat) == (0 : Int)) = false := by simp; omega
        have hne : (q2 : Int) ≠ 0 := by omega
        go_wp2_with (go_at_call 32; (refine HA.out.mono ?_); rintro e w3 ⟨rb2, nb2, ty2, nu2, rfl, ha⟩; have AD3 := Lib.hid (H.out.ad.trans ha); clear ha)
        go_ret
        rw [HF.out]
        exact ⟨rfl, AD3.out.keeps.below hB HST.out.lo, fun e => absurd e h0⟩
end Sp
end Go.Proofs.Ytjjpjkkaogfoaaa

namespace Go.Proofs.Ytjjpjkkaogfoaaa
open Go.RowKit
namespace Sp
open Sc
set_option maxRecDepth 100000

/-- Names that are short, types that memory can hold. -/
structure ShortS (s : Sz) : Prop where
  types : ∀ i (h : i < s.types.length), s.types[i].1.length ≤ 1000 ∧ fitZ s.types[i].2 = true ∧ shortZ s.types[i].2 = true
  main : fitZ s.main = true ∧ shortZ s.main = true
  sigs : ∀ g ∈ s.sigs, g.name.length ≤ 1000 ∧ g.params.length ≤ 1000 ∧ (∀ t ∈ g.params, fitZ t = true ∧ shortZ t = true) ∧ fitZ g.result = true ∧ shortZ g.result = true
theorem StV.setMain {B : Nat} {w : World} {tb rb nb mb sb m : Nat} {ty nu : Value} {T : List Kz} {N : List NN} {G : List GN} {vs : List Value} (h : StV B w tb rb nb mb sb m ty nu T N G vs) (id : Nat) (hB : B ≤ w.heap.size) :
    StV B (w.setCell ⟨tb, 4, none⟩ (.int .i64 (id : Nat))) tb rb nb mb sb id ty nu T N G vs ∧ Below B w (w.setCell ⟨tb, 4, none⟩ (.int .i64 (id : Nat))) := by
  have hoth : ∀ b, b ≠ tb → (w.setCell ⟨tb, 4, none⟩ (.int .i64 (id : Nat))).heap[b]? = w.heap[b]? := fun b hb => RowKit.Below.heap_setCell _ _ _ _ hb
  have hbox := set_five4 h.tab.box (.int .i64 (id : Nat))
  obtain ⟨es, c, hm⟩ := h.names.isMap
  obtain ⟨es2, c2, hm2⟩ := h.sgs.map.isMap
  have n1 : mb ≠ tb := fun e => by rw [e, h.tab.box] at hm; cases hm
  have n2 : sb ≠ tb := fun e => by rw [e, h.tab.box] at hm2; cases hm2
  have T0 := h.tab
  refine ⟨⟨⟨hbox, own_same T0.own (fun g hg => hoth g (fun e => T0.notT (e ▸ hg))), T0.row, ?_, T0.fit, T0.wf, by simpa using T0.mlt, by simpa using T0.slt, T0.nm, T0.ns⟩, h.names.same (hoth mb n1), h.sgs.same (hoth sb n2) (fun g cs fr hg => hoth g (fun e => by
      rw [e, T0.box] at hg
      simp only [Option.some.injEq, Obj.cells.injEq] at hg
      exact absurd hg.2.1 (by decide))), h.lo, h.mlo, h.slo, h.ms⟩, ((Keeps.refl (fun b => b = tb) w).setCell 4 _ rfl).below hB (fun g e => by rw [e]; exact h.lo tb (.inl rfl))⟩
  rcases T0.num with h1 | ⟨h1, h2⟩
  · exact .inl h1
  · refine .inr ⟨h1, h2.same (hoth nb fun e => ?_)⟩
    obtain ⟨es3, c3, hm3⟩ := h2.isMap
    rw [e, T0.box] at hm3; cases hm3
theorem fnsK_drop {has : List UInt8 → Bool} {T : List Kz} {G : List GN} {l : List Sg} {j : Nat} (h : j < l.length) : fnsK has T G (l.drop j) = if (fnK has T l[j]).2.1 = 0 then fnsK has (fnK has T l[j]).2.2 (G ++ [(fnK has T l[j]).1]) (l.drop (j + 1)) else ((fnK has T l[j]).2.1, (fnK has T l[j]).2.2, G) := by
  rw [List.drop_eq_getElem_cons h, fnsK]
structure ScR (B : Nat) (W : World) (xb : Nat) (SC : Array Value) (tb mb sb m : Nat) (has : List UInt8 → Bool) (l : List Sg) (full : Nat × List Kz × List GN) (N : List NN) (iv : Value) (wr : World) (j : Nat) (T : List Kz) (G : List GN) (rb nb : Nat) (ty nu : Value) (vs : List Value) : Prop where
  slot : iv = .int .i64 j
  le : j ≤ l.length
  rest : fnsK has T G (l.drop j) = full
  len : G.length = j
  st : StV B wr tb rb nb mb sb m ty nu T N G vs
  below : Below B W wr
  box : wr.heap[xb]? = some (.cells SC 29 (0, 0))
set_option maxHeartbeats 16000000 in
theorem cschema_any (s : Sz) (c : C4) (a1 a2 : Option Addr) (us : List (List UInt8 × C4)) (gs : List (List UInt8 × G6)) (c1 c2 : Nat) (w : World) (B tb mb sb : Nat) (S : Nat → Prop) (hB : B ≤ w.heap.size) (hS : ∀ b, S b → b < B) (hV : SzV w S s c a1 us a2 gs) (hsh : ShortS s) (hn12 : s.types.length ≤ 12) (hg12 : s.sigs.length ≤ 12)
    (hst : StV B w tb tb tb mb sb 0 (.slice none 0 0) (.map none) [] [] [] []) :
    Calls Try.prog 54 #[.pointer (some ⟨tb, 0, none⟩), .agg #[.int .i64 c.k, .string c.n, .slice c.an c.ln c.cn, .slice c.ak c.lk c.ck, .slice a1 s.types.length c1, .slice a2 s.sigs.length c2]] w fun e w' =>
      e = .returned (.int .i64 ((schemaK s).1 : Nat)) ∧ Below B w w' ∧ ((schemaK s).1 = 0 → ∃ rb nb ty nu vs, StV B w' tb rb nb mb sb (schemaK s).2.m ty nu (schemaK s).2.T (schemaK s).2.N (schemaK s).2.G vs) := by
  obtain ⟨full, hfull⟩ : ∃ full, full = schemaK s := ⟨_, rfl⟩
  rw [← hfull]
  unfold schemaK at hfull
  simp only at hfull
  obtain ⟨SC, hSC⟩ : ∃ SC : Array Value, SC = #[.int .i64 c.k, .string c.n, .slice c.an c.ln c.cn, .slice c.ak c.lk c.ck, .slice a1 s.types.length c1, .slice a2 s.sigs.length c2] := ⟨_, rfl⟩
  obtain ⟨W1, hW1⟩ : ∃ W1, W1 = w.alloc (.cells #[.int .i64 c.k, .string c.n, .slice c.an c.ln c.cn, .slice c.ak c.lk c.ck, .slice a1 s.types.length c1, .slice a2 s.sigs.length c2] 29) := ⟨_, rfl⟩
  have hz1 : W1.heap.size = w.heap.size + 1 := by rw [hW1]; simp
  have hb1 : Below w.heap.size w W1 := by rw [hW1]; exact (Below.refl _ _).alloc (Nat.le_refl _) _
  have hs1 : W1.heap[w.heap.size]? = some (.cells SC 29 (0, 0)) := by rw [hSC, hW1]; exact heap_alloc_new w _
  have hlow : ∀ W, Below B W1 W → ∀ k, k < B → W.heap[k]? = w.heap[k]? := fun W hW k hk => (hW.block k hk).trans (hb1.block k (by omega))
  have hst1 := hst.below hb1
  have CN := namedTypes_any s.types us a1 c1 W1 B tb mb sb 0 S (by omega) hS hn12 hV.nt (hV.rt.keep (fun _ h => h) fun g hg => hb1.block g (by have := hS g hg; omega)) (fun i h h' => ⟨(hV.vt i h h').1, (hV.vt i h h').2.keep (fun _ h => h) fun g hg => hb1.block g (by have := hS g hg; omega)⟩) hsh.types hst1
  obtain ⟨⟨n1, n2, n3⟩, hn⟩ : ∃ n, namK (hasZ s.types) [] (zerosN s.types) s.types = n := ⟨_, rfl⟩
  have hhas : ∀ nm, hasZ n3 nm = hasZ s.types nm := fun nm => by
    have := namK_has (has := hasZ s.types) nm s.types [] (zerosN s.types) (fun x hx => by rw [hasZ_zeros]; exact hasZ_iff.2 ⟨x, hx, rfl⟩)
    rw [hn, hasZ_zeros] at this
    exact this
  rw [hn] at CN hfull
  dsimp only at CN hfull
  have HCN := Lib.hid CN; have HV := Lib.hid hV; have HSH := Lib.hid hsh; have HS := Lib.hid hS; have HW1 := Lib.hid hW1; have HB1 := Lib.hid hb1; have HS1 := Lib.hid hs1; have HLOW := Lib.hid hlow; have HSC := Lib.hid hSC; have HFULL := Lib.hid hfull; have HHAS := Lib.hid hhas
  have HST1 := Lib.hid hst1
  clear CN hV hsh hS hb1 hs1 hlow hSC hfull hst hst1 hn hhas hW1
  have sx := HS1.out
  rw [HSC.out] at sx
  obtain ⟨⟨p0, p1, p2, p3, p4, p5⟩, _⟩ := six_blkF sx
  have HSX := Lib.hid sx
  clear sx
  by_cases h0 : n1 = 0
  · subst h0
    have hf := HFULL.out
    rw [if_neg (by decide)] at hf
    have HF := Lib.hid hf
    clear hf
    go_enter Try.func54, Try.ntmps54
    go_upto_region 1 with fail
    rw [← HW1.out]
    clear HW1
    go_upto_region 4 with (go_at_call 76; (refine HCN.out.mono ?_); rintro e w2 ⟨rb, nb, ty, nu, rfl, s2, b2, k2, g2⟩; have hz2 := b2.size; have hx2 := (k2.block w.heap.size (by omega) (HST1.out.other HS1.out (by decide) (by decide))).trans HS1.out; have HX2 := Lib.hid hx2; have HST2 := Lib.hid s2; have HB2 := Lib.hid b2; clear s2 b2 k2 g2 hx2)
    clear p0 p1 p2 p3 p4 p5
    have sx := HX2.out
    rw [HSC.out] at sx
    obtain ⟨⟨p0, p1, p2, p3, p4, p5⟩, _⟩ := six_blkF sx
    clear sx
    obtain ⟨hm1, hm2⟩ := HSH.out.main
    have hfun : hasZ n3 = hasZ s.types := funext HHAS.out
    have hA := add_any s.main hm1 hm2 w2 tb rb nb mb sb 0 ty nu n2 n3 S c HST2.out.tab HST2.out.names (HV.out.main.keep (fun _ h => h) fun g hg => HLOW.out w2 HB2.out g (HS.out g hg)) (fun g hg => ⟨by have := HS.out g hg; omega, HST2.out.far (HS.out g hg)⟩)
    rw [hfun] at hA
    obtain ⟨⟨q1, q2, q3⟩, hq⟩ : ∃ q, addK (hasZ s.types) n2 s.main = q := ⟨_, rfl⟩
    have hf := HF.out
    rw [hq] at hA hf
    dsimp only at hA hf
    have HA := Lib.hid hA; have HF2 := Lib.hid hf; have HFUN := Lib.hid hfun
    clear hA hf hfun hq hm1 hm2 HF HFULL
    by_cases h1 : q2 = 0
    · subst h1
      have hf := HF2.out
      rw [if_neg (by decide)] at hf
      have HF := Lib.hid hf
      clear hf HF2
      go_upto_region 7 with (go_at_call 32; (refine HA.out.mono ?_); rintro e w3 ⟨rb2, nb2, ty2, nu2, rfl, ha⟩; have hz3 := ha.keeps.size; have hx3 := (ha.keeps.block w.heap.size (by omega) (fun ho => HST2.out.other HX2.out (by decide) (by decide) (.inl ho))).trans HX2.out; obtain ⟨s3, b3⟩ := HST2.out.add ha (by omega); have HX3 := Lib.hid hx3; have HST3 := Lib.hid s3; have HB3 := Lib.hid (HB2.out.trans b3); clear s3 b3 ha hx3)
      clear p0 p1 p2 p3 p4 p5
      obtain ⟨⟨-, -, -, -, t4⟩, ⟨-, -, -, -, z4⟩⟩ := five_blkF HST3.out.tab.box
      obtain ⟨s4, b4⟩ := HST3.out.setMain q1 (by omega)
      obtain ⟨W4, hW4⟩ : ∃ W4, W4 = w3.setCell ⟨tb, 4, none⟩ (.int .i64 (q1 : Nat)) := ⟨_, rfl⟩
      have hx4 : W4.heap[w.heap.size]? = some (.cells SC 29 (0, 0)) := by
        rw [hW4, RowKit.Below.heap_setCell _ _ _ _ (fun e => HST3.out.other HX3.out (by decide) (by decide) (.inl (.inl e)))]
        exact HX3.out
      rw [← hW4] at s4 b4
      have hz4 := b4.size
      have sx := hx4
      rw [HSC.out] at sx
      obtain ⟨⟨p0, p1, p2, p3, p4, p5⟩, _⟩ := six_blkF sx
      have HX4 := Lib.hid hx4; have HST4 := Lib.hid s4; have HB4 := Lib.hid (HB3.out.trans b4); have HW4 := Lib.hid hW4
      have hwz : w3.heap.size = W4.heap.size := by rw [hW4]; simp
      clear hx4 s4 b4 hW4 sx
      go_upto_region 8 with fail
      rw [← HW4.out]
      clear HW4
      clear t4 z4
      go_wp2_with fail
      clear p0 p1 p2 p3 p4 p5
      obtain ⟨fk, hfk⟩ : ∃ fk, fnsK (hasZ s.types) q3 [] s.sigs = fk := ⟨_, rfl⟩
      have hf := HF.out
      rw [hfk] at hf
      have HF2 := Lib.hid hf; have HFK := Lib.hid hfk
      clear hf hfk HF
      go_loopw [35] (fun iv wr => ∃ j T G rb nb ty nu vs, ScR B W4 w.heap.size SC tb mb sb q1 (hasZ s.types) s.sigs fk n3 iv wr j T G rb nb ty nu vs) (fun iv _ => s.sigs.length - (intOf iv).toNat)
      case atStart => exact ⟨0, q3, [], rb2, nb2, ty2, nu2, [], rfl, Nat.zero_le _, by rw [List.drop_zero]; exact HFK.out, rfl, HST4.out, Below.refl _ _, HX4.out⟩
      case round =>
        obtain ⟨j, T, G, rb5, nb5, ty5, nu5, vs, h⟩ := hrel
        obtain rfl := h.slot
        have hj := h.le
        have hGl := h.len
        have hws := h.below.size
        have hxl := (Array.getElem?_eq_some_iff.1 h.box).1
        have H := Lib.hid h
        clear h
        by_cases hlt : j < s.sigs.length
        · have hlu : j < gs.length := by rw [HV.out.ng]; exact hlt
          have hjz : (j : Int) < (s.sigs.length : Int) := by omega
          have hj0 : (0 : Int) ≤ (j : Int) := by omega
          have hlw : ∀ k, k < B → wr.heap[k]? = w.heap[k]? := fun k hk => (H.out.below.block k hk).trans (HLOW.out W4 HB4.out k hk)
          obtain ⟨b, o, rfl, hb, hc⟩ := sig_at (wb := B) HV.out.rg HS.out j hlu
          obtain ⟨c0, c1', c2', c3, c4, c5⟩ := hc wr hlw
          have hgv := (HV.out.vg j hlt hlu).keep (w' := wr) (fun g hg => hlw g (HS.out g hg))
          obtain ⟨hg1, hg2, hg3, hg4⟩ := HSH.out.sigs s.sigs[j] (List.getElem_mem hlt)
          have hdr := fnsK_drop (has := hasZ s.types) (T := T) (G := G) hlt
          rw [H.out.rest] at hdr
          clear hc hlw
          generalize s.sigs[j] = g at *
          generalize gs[j] = x at *
          obtain ⟨x, ⟨ap, lp, cp, ⟨x1, x2, x3, x4, x5, x6, x7, x8⟩⟩⟩ := x
          dsimp only at *
          obtain ⟨W5, hW5⟩ : ∃ W5, W5 = wr.alloc (.cells #[.string ⟨x.toArray⟩, .slice ap lp cp, .int .i64 x1, .string x2, .slice x3 x4 x5, .slice x6 x7 x8] 46) := ⟨_, rfl⟩
          have hBB : Below wr.heap.size wr W5 := by rw [hW5]; exact (Below.refl _ _).alloc (Nat.le_refl _) _
          have hzb := hBB.size
          have hst5 := H.out.st.below hBB
          have hC := cfn_any g (x, ⟨ap, lp, cp, ⟨x1, x2, x3, x4, x5, x6, x7, x8⟩⟩) W5 B tb rb5 nb5 mb sb q1 ty5 nu5 T n3 G vs S (by omega) HS.out (hgv.keep fun k hk => hBB.block k (by have := HS.out k hk; omega)) hst5 hg1 hg2 hg3 hg4 (by omega)
          rw [HFUN.out] at hC
          dsimp only at hC
          obtain ⟨⟨y1, y2, y3⟩, hy⟩ : ∃ y, fnK (hasZ s.types) T g = y := ⟨_, rfl⟩
          rw [hy] at hC hdr
          dsimp only at hC hdr
          have hx5 := (hBB.block w.heap.size hxl).trans H.out.box
          have HC := Lib.hid hC; have HDR := Lib.hid hdr; have HBB := Lib.hid hBB; have HST5 := Lib.hid hst5; have HX5 := Lib.hid hx5
          clear hC hdr hBB hst5 hx5 hgv hg1 hg2 hg3 hg4 hy
          subst hW5
          by_cases h5 : y2 = 0
          · subst h5
            have hd := HDR.out
            rw [if_pos rfl] at hd
            have HD := Lib.hid hd
            clear hd
            go_wp2_with (go_at_call 77; (refine HC.out.mono ?_); rintro e w6 ⟨rfl, b6, h6⟩; have HB6 := Lib.hid b6; have H6 := Lib.hid h6; clear b6 h6)
            go_roundw
            case rel =>
              obtain ⟨rb6, nb6, ty6, nu6, vs6, s6, k6, g6⟩ := H6.out (by trivial)
              exact ⟨j + 1, y3, G ++ [y1], rb6, nb6, ty6, nu6, vs6, by go_num, by omega, HD.out.symm, by simp [hGl], s6, H.out.below.trans ((HBB.out.mono (by omega)).trans HB6.out), (k6.block w.heap.size (by omega) (HST5.out.other HX5.out (by decide) (by decide))).trans HX5.out⟩
            case measure => simp [intOf]; omega
          · have hd := HDR.out
            rw [if_neg h5] at hd
            have HD := Lib.hid hd
            clear hd
            have t0 : ((y2 : Nat) == (0 : Int)) = false := by simp; omega
            have hne : (y2 : Int) ≠ 0 := by omega
            go_wp2_with (go_at_call 77; (refine HC.out.mono ?_); rintro e w6 ⟨rfl, b6, -⟩; have HB6 := Lib.hid b6; clear b6)
            go_ret
            rw [HF2.out, HD.out]
            exact ⟨rfl, (HB1.out.mono hB).trans (HB4.out.trans (H.out.below.trans ((HBB.out.mono (by omega)).trans HB6.out))), fun e => absurd e h5⟩
        · obtain rfl : j = s.sigs.length := by omega
          have hz := H.out.rest
          rw [List.drop_length, fnsK] at hz
          have HZ := Lib.hid hz
          clear hz
          go_wp2
          go_ret
          rw [HF2.out, ← HZ.out]
          exact ⟨rfl, (HB1.out.mono hB).trans (HB4.out.trans H.out.below), fun _ => ⟨rb5, nb5, ty5, nu5, vs, H.out.st⟩⟩
    · have hf := HF2.out
      rw [if_pos h1] at hf
      have HF := Lib.hid hf
      clear hf
      have t0 : ((q2 : Nat) == (0 : Int)) = false := by simp; omega
      have hne : (q2 : Int) ≠ 0 := by omega
      go_wp2_with (go_at_call 32; (refine HA.out.mono ?_); rintro e w3 ⟨rb2, nb2, ty2, nu2, rfl, ha⟩; obtain ⟨s3, b3⟩ := HST2.out.add ha (by omega); have HB3 := Lib.hid b3; clear s3 b3 ha)
      go_ret
      rw [HF.out]
      exact ⟨rfl, (HB1.out.mono hB).trans (HB2.out.trans HB3.out), fun e => absurd e h1⟩
  · have hf := HFULL.out
    rw [if_pos h0] at hf
    have HF := Lib.hid hf
    clear hf
    have t0 : ((n1 : Nat) == (0 : Int)) = false := by simp; omega
    have hne : (n1 : Int) ≠ 0 := by omega
    go_enter Try.func54, Try.ntmps54
    go_upto_region 1 with fail
    rw [← HW1.out]
    clear HW1
    go_wp2_with (go_at_call 76; (refine HCN.out.mono ?_); rintro e w2 ⟨rb, nb, ty, nu, rfl, s2, b2, k2, g2⟩; have hz2 := b2.size; have hx2 := (k2.block w.heap.size (by omega) (HST1.out.other HS1.out (by decide) (by decide))).trans HS1.out; have HX2 := Lib.hid hx2; have HST2 := Lib.hid s2; have HB2 := Lib.hid b2; clear s2 b2 k2 g2 hx2)
    go_ret
    rw [HF.out]
    exact ⟨rfl, (HB1.out.mono hB).trans HB2.out, fun e => absurd e h0⟩
end Sp
end Go.Proofs.Ytjjpjkkaogfoaaa

namespace Go.Proofs.Ytjjpjkkaogfoaaa
open Go.RowKit
namespace Sp
open Sc
set_option maxRecDepth 100000

theorem stv_made (w : World) (B : Nat) (hB : B ≤ w.heap.size) :
    StV B (((w.alloc (.map #[] 0)).alloc (.map #[] 0)).alloc (.cells #[.slice none 0 0, .map none, .map (some w.heap.size), .map (some (w.heap.size + 1)), .int .i64 0] 103)) (w.heap.size + 2) (w.heap.size + 2) (w.heap.size + 2) w.heap.size (w.heap.size + 1) 0 (.slice none 0 0) (.map none) [] [] [] [] := by
  obtain ⟨W, hW⟩ : ∃ W, W = ((w.alloc (.map #[] 0)).alloc (.map #[] 0)).alloc (.cells #[.slice none 0 0, .map none, .map (some w.heap.size), .map (some (w.heap.size + 1)), .int .i64 0] 103) := ⟨_, rfl⟩
  rw [← hW]
  have hz : W.heap.size = w.heap.size + 3 := by rw [hW]; simp
  have hm : TxtV W w.heap.size [] := by
    refine (TxtV.made w).same ?_
    rw [hW, Below.heap_alloc _ _ _ (by simp; omega), Below.heap_alloc _ _ _ (by simp)]
  have hs : TxtV W (w.heap.size + 1) [] := by
    have h1 := TxtV.made (w.alloc (.map #[] 0))
    rw [show (w.alloc (.map #[] 0)).heap.size = w.heap.size + 1 by simp] at h1
    refine h1.same ?_
    rw [hW, Below.heap_alloc _ _ _ (by simp)]
  refine ⟨⟨?_, World.ownsRow_nil _ _ _ _, .inl ⟨rfl, rfl, rfl⟩, .inl ⟨rfl, rfl, rfl⟩, (fun k hk => by cases hk), TabW.nil, by omega, by omega, by omega, by omega⟩, hm, ⟨rfl, hs, (fun i h => by cases h)⟩, fun g hg => ?_, hB, by omega, by omega⟩
  · have := heap_alloc_new ((w.alloc (.map #[] 0)).alloc (.map #[] 0)) (.cells #[.slice none 0 0, .map none, .map (some w.heap.size), .map (some (w.heap.size + 1)), .int .i64 0] 103)
    rw [show ((w.alloc (.map #[] 0)).alloc (.map #[] 0)).heap.size = w.heap.size + 2 by simp, ← hW] at this
    exact this
  · rcases hg with h1 | h1 | h1 <;> omega
/-- What New leaves. -/
def MadeK (B : Nat) (w' : World) (e : Ending) (p : Nat × Tab) : Prop :=
  (p.1 = 0 → ∃ tb rb nb mb sb ty nu vs, e = .returned (.tuple #[.pointer (some ⟨tb, 0, none⟩), .int .i64 0]) ∧ StV B w' tb rb nb mb sb p.2.m ty nu p.2.T p.2.N p.2.G vs) ∧
  (p.1 ≠ 0 → e = .returned (.tuple #[.pointer none, .int .i64 (p.1 : Nat)]))
set_option maxHeartbeats 4000000 in
theorem New_any (s : Sz) (c : C4) (a1 a2 : Option Addr) (us : List (List UInt8 × C4)) (gs : List (List UInt8 × G6)) (c1 c2 : Nat) (w : World) (S : Nat → Prop) (hS : ∀ b, S b → b < w.heap.size) (hV : SzV w S s c a1 us a2 gs) (hf : SzFit s) (hsh : ShortS s) (hnt : s.types.length ≤ 1000000) (hng : s.sigs.length ≤ 1000000) :
    Calls Try.prog 25 #[.agg #[.int .i64 c.k, .string c.n, .slice c.an c.ln c.cn, .slice c.ak c.lk c.ck, .slice a1 s.types.length c1, .slice a2 s.sigs.length c2]] w fun e w' => MadeK w.heap.size w' e (newK s) ∧ Below w.heap.size w w' := by
  obtain ⟨W1, hW1⟩ : ∃ W1, W1 = w.alloc (.cells #[.int .i64 c.k, .string c.n, .slice c.an c.ln c.cn, .slice c.ak c.lk c.ck, .slice a1 s.types.length c1, .slice a2 s.sigs.length c2] 29) := ⟨_, rfl⟩
  have hz1 : W1.heap.size = w.heap.size + 1 := by rw [hW1]; simp
  have hb1 : Below w.heap.size w W1 := by rw [hW1]; exact (Below.refl _ _).alloc (Nat.le_refl _) _
  have hs1 : W1.heap[w.heap.size]? = some (.cells #[.int .i64 c.k, .string c.n, .slice c.an c.ln c.cn, .slice c.ak c.lk c.ck, .slice a1 s.types.length c1, .slice a2 s.sigs.length c2] 29 (0, 0)) := by rw [hW1]; exact heap_alloc_new w _
  have C := Check_any S s c a1 a2 us gs c1 c2 (refC s) W1 (fun g hg => by have := hS g hg; omega) hf hnt hng (hV.keep fun g hg => hb1.block g (hS g hg)) (check_same s)
  have hmm := @run_makeMap Try.prog
  obtain ⟨⟨x1, x2, x3⟩, hx⟩ : ∃ x, newK s = x := ⟨_, rfl⟩
  rw [hx]
  unfold newK at hx
  have HC := Lib.hid C; have HV := Lib.hid hV; have HS := Lib.hid hS; have HW1 := Lib.hid hW1; have HB1 := Lib.hid hb1; have HS1 := Lib.hid hs1; have HF := Lib.hid hf; have HSH := Lib.hid hsh; have HX := Lib.hid hx
  clear C hV hS hW1 hb1 hs1 hf hsh hx
  obtain ⟨⟨p0, p1, p2, p3, p4, p5⟩, _⟩ := six_blkF HS1.out
  by_cases h0 : refC s = 0
  · have hf := HX.out
    rw [if_neg (by simpa using h0)] at hf
    have hl : s.types.length ≤ 12 ∧ s.sigs.length ≤ 12 := by
      unfold refC at h0
      split at h0
      · cases h0
      · omega
    obtain ⟨hl1, hl2⟩ := hl
    rw [h0] at HC
    have HX2 := Lib.hid hf
    clear hf HX h0
    go_enter Try.func25, Try.ntmps25
    go_upto_region 1 with fail
    rw [← HW1.out]
    clear HW1
    go_upto_region 4 with (go_at_call 16; (refine HC.out.mono ?_); rintro e w2 ⟨rfl, b2⟩; have hz2 := b2.size; have HB2 := Lib.hid b2; clear b2)
    clear p0 p1 p2 p3 p4 p5
    obtain ⟨W3, hW3⟩ : ∃ W3, W3 = ((w2.alloc (.map #[] 0)).alloc (.map #[] 0)).alloc (.cells #[.slice none 0 0, .map none, .map (some w2.heap.size), .map (some (w2.heap.size + 1)), .int .i64 0] 103) := ⟨_, rfl⟩
    have hst := stv_made w2 w.heap.size (by omega)
    rw [← hW3] at hst
    have hz3 : W3.heap.size = w2.heap.size + 3 := by rw [hW3]; simp
    have hb3 : Below w2.heap.size w2 W3 := by rw [hW3]; exact (((Below.refl _ _).alloc (Nat.le_refl _) _).alloc (by simp) _).alloc (by simp; omega) _
    have hs3 := (hb3.block w.heap.size (by omega)).trans ((HB2.out.block w.heap.size (by omega)).trans HS1.out)
    obtain ⟨⟨p0, p1, p2, p3, p4, p5⟩, _⟩ := six_blkF hs3
    have hlow : Below w.heap.size w W3 := HB1.out.trans ((HB2.out.mono (by omega)).trans (hb3.mono (by omega)))
    have CS := cschema_any s c a1 a2 us gs c1 c2 W3 w.heap.size (w2.heap.size + 2) w2.heap.size (w2.heap.size + 1) S (by omega) HS.out (HV.out.keep fun g hg => hlow.block g (HS.out g hg)) HSH.out hl1 hl2 hst
    rw [HX2.out] at CS
    dsimp only at CS
    have HCS := Lib.hid CS; have HW3 := Lib.hid hW3; have HLOW := Lib.hid hlow
    clear CS hW3 hlow hs3 hb3 hst HX2
    go_upto_region 5 with fail
    rw [← HW3.out]
    clear HW3
    by_cases h1 : x1 = 0
    · subst h1
      go_wp2_with (go_at_call 54; (refine HCS.out.mono ?_); rintro e w4 ⟨rfl, b4, h4⟩; have HB4 := Lib.hid b4; have H4 := Lib.hid h4; clear b4 h4)
      go_ret2
      refine ⟨⟨fun _ => ?_, fun h => absurd rfl h⟩, HLOW.out.trans HB4.out⟩
      obtain ⟨rb, nb, ty, nu, vs, k⟩ := H4.out (by trivial)
      exact ⟨_, rb, nb, _, _, ty, nu, vs, rfl, k⟩
    · have t0 : ((x1 : Nat) == (0 : Int)) = false := by simp; omega
      have hne : (x1 : Int) ≠ 0 := by omega
      go_wp2_with (go_at_call 54; (refine HCS.out.mono ?_); rintro e w4 ⟨rfl, b4, -⟩; have HB4 := Lib.hid b4; clear b4)
      go_ret2
      exact ⟨⟨fun h => absurd h h1, fun _ => rfl⟩, HLOW.out.trans HB4.out⟩
  · have hf := HX.out
    rw [if_pos h0] at hf
    cases hf
    have t0 : ((refC s : Nat) == (0 : Int)) = false := by simp; omega
    have hne : (refC s : Int) ≠ 0 := by omega
    go_enter Try.func25, Try.ntmps25
    go_upto_region 1 with fail
    rw [← HW1.out]
    clear HW1
    go_wp2_with (go_at_call 16; (refine HC.out.mono ?_); rintro e w2 ⟨rfl, b2⟩; have hz2 := b2.size; have HB2 := Lib.hid b2; clear b2)
    go_ret2
    exact ⟨⟨fun h => absurd h h0, fun _ => rfl⟩, HB1.out.trans (HB2.out.mono (by omega))⟩
end Sp
end Go.Proofs.Ytjjpjkkaogfoaaa

namespace Go.Proofs.Ytjjpjkkaogfoaaa
open Go.RowKit
namespace Sp
open Sc
set_option maxRecDepth 100000

/-- A block beside a table is written. -/
theorem StV.beside {B : Nat} {w w' : World} {tb rb nb mb sb m : Nat} {ty nu : Value} {T : List Kz} {N : List NN} {G : List GN} {vs : List Value} (h : StV B w tb rb nb mb sb m ty nu T N G vs) {xb : Nat} {cs : Array Value} {t : TypeId} (hx : w.heap[xb]? = some (.cells cs t (0, 0))) (h1 : t ≠ 103) (h2 : t ≠ 111) (h3 : t ≠ 3) (hk : Keeps (fun g => g = xb) w w') :
    StV B w' tb rb nb mb sb m ty nu T N G vs := by
  have ho := h.other hx h1 h2
  have e1 : mb ≠ xb := fun e => ho (.inr (.inl e.symm))
  have e2 : sb ≠ xb := fun e => ho (.inr (.inr e.symm))
  exact ⟨h.tab.keep (fun g hg => hk.block g (h.tab.lt hg) (fun e => ho (.inl (e ▸ hg)))) hk.size, h.names.same (hk.block mb h.tab.mlt e1), h.sgs.same (hk.block sb h.tab.slt e2) (fun g cs fr hg => hk.block g (Array.getElem?_eq_some_iff.1 hg).1 (fun e => by
    rw [e, hx] at hg
    simp only [Option.some.injEq, Obj.cells.injEq] at hg
    exact h3 hg.2.1)), h.lo, h.mlo, h.slo, h.ms⟩
theorem newI_any (w : World) :
    Calls Try.prog 25 #[.agg #[.int .i64 2, .string ⟨#[]⟩, .slice none 0 0, .slice none 0 0, .slice none 0 0, .slice none 0 0]] w fun e w' =>
      ∃ tb rb nb mb sb ty nu vs, e = .returned (.tuple #[.pointer (some ⟨tb, 0, none⟩), .int .i64 0]) ∧ StV w.heap.size w' tb rb nb mb sb 0 ty nu [⟨2, [], [], []⟩] [] [] vs ∧ Below w.heap.size w w' := by
  have C := New_any ⟨zI, [], []⟩ ⟨2, ⟨#[]⟩, none, 0, 0, none, 0, 0⟩ none none [] [] 0 0 w (fun _ => False) (fun _ h => h.elim) (SzV.build (TzV.leaf w _ 2 []) (NmsV.nil none) (SgsV.nil none)) ⟨rfl, fun i h => (by cases h), fun i h => (by cases h)⟩ ⟨fun i h => (by cases h), ⟨rfl, rfl⟩, fun g h => by cases h⟩ (by simp) (by simp)
  refine C.mono ?_
  rintro e w' ⟨⟨h1, -⟩, hb⟩
  obtain ⟨tb, rb, nb, mb, sb, ty, nu, vs, rfl, hst⟩ := h1 (by kernel_rfl)
  have e1 : (newK ⟨zI, [], []⟩).2 = ⟨[⟨2, [], [], []⟩], [], [], 0⟩ := by kernel_rfl
  rw [e1] at hst
  exact ⟨tb, rb, nb, mb, sb, ty, nu, vs, rfl, hst, hb⟩
set_option maxHeartbeats 4000000 in
theorem known5_any (w : World) :
    Calls Try.prog 23 #[] w fun e w' => e = .returned (.bool true) ∧ Below w.heap.size w w' := by
  go_enter Try.func23, Try.ntmps23
  go_wp2_with (go_at_call 25; (refine (newI_any _).mono ?_); rintro e w1 ⟨tb, rb, nb, mb, sb, ty, nu, vs, rfl, s1, b1⟩; have HS1 := Lib.hid s1; have HB1 := Lib.hid b1; clear s1 b1)
  go_wp2_with first
    | (go_at_call 29; (refine (len_any _ _ _ _ _ _ _ _ _ _ HS1.out.tab).mono ?_); rintro e w2 ⟨rfl, b2⟩; have HS2 := Lib.hid (HS1.out.below b2); have HB2 := Lib.hid b2; clear b2)
    | (go_at_call 35; (refine (main_any _ _ _ _ _ _ _ _ _ _ HS2.out.tab).mono ?_); rintro e w3 ⟨rfl, b3⟩; have HB3 := Lib.hid b3; clear b3)
  go_ret
  exact ⟨rfl, HB1.out.trans ((HB2.out.trans (HB3.out.mono HB2.out.size)).mono HB1.out.size)⟩
set_option maxHeartbeats 400000 in
theorem within5_any (a n : Int) (w : World) (hn : 0 < n) (hn2 : n ≤ 1000000) (h1 : -9223372036854775808 ≤ a) (h2 : a ≤ 9223372036854775807) :
    Calls Try.prog 33 #[.int .i64 a, .int .i64 n] w fun e w' => e = .returned (.int .i64 (a % n)) ∧ w = w' := by
  have hb1 := Int.emod_nonneg a (show n ≠ 0 by omega)
  have hb2 := Int.emod_lt_of_pos a hn
  by_cases h0 : 0 ≤ a
  · go_enter Try.func33, Try.ntmps33
    go_wp2
    go_ret
    exact ⟨rfl, rfl⟩
  · have ht : a.tmod n = a % n - if 0 ≤ a ∨ n ∣ a then 0 else (n.natAbs : Int) := by rw [Int.tmod_eq_emod]; split <;> rfl
    by_cases hd : n ∣ a
    · have e0 : a % n = 0 := Int.emod_eq_zero_of_dvd hd
      rw [if_pos (Or.inr hd), e0] at ht
      rw [e0]
      clear hd e0
      have l1 : 0 ≤ a.tmod n := by omega
      have l2 : a.tmod n ≤ 0 := by omega
      clear hb1 hb2
      have HT := Lib.hid ht; clear ht
      go_enter Try.func33, Try.ntmps33
      go_wp2
      go_ret
      exact ⟨ret_intZ (by have := HT.out; omega), rfl⟩
    · rw [if_neg (fun h => h.elim h0 hd)] at ht
      have e0 : 0 < a % n := by
        rcases Int.lt_or_eq_of_le hb1 with h | h
        · exact h
        · exact absurd (Int.dvd_of_emod_eq_zero h.symm) hd
      have l1 : a.tmod n < 0 := by omega
      have l2 : -n < a.tmod n := by omega
      have l3 : a.tmod n + n = a % n := by omega
      clear hb1 hb2 ht hd e0
      have HT := Lib.hid l3; clear l3
      go_enter Try.func33, Try.ntmps33
      go_wp2
      go_ret
      exact ⟨ret_intZ (by have := HT.out; omega), rfl⟩
end Sp
end Go.Proofs.Ytjjpjkkaogfoaaa

namespace Go.Proofs.Ytjjpjkkaogfoaaa
open Go.RowKit
namespace Sp
open Sc
set_option maxRecDepth 100000

theorem getD_setS {listed : Array Bool} {i : Nat} (h : i < listed.size) : (listed.setIfInBounds i true).getD i false = true := by rw [getD_setF]; simp [h]
theorem all_up2 {ops : Array Oper} {md : Region.Mode} {listed : Array Bool} (hb : ∀ (j : Nat) (o : Oper), ops[j]? = some o → ∀ e ∈ o.after, Region.binds md e = true → e.on < j ∧ e.on < ops.size) (hs : listed.size = ops.size) (hr : Region.ready md ops listed = []) : ∀ n j, j < n → j < ops.size → listed.getD j true = true
  | 0, j, h, _ => absurd h (Nat.not_lt_zero _)
  | n + 1, j, h, hj => by
    cases hl : listed.getD j true with
    | true => rfl
    | false =>
      have hm : j ∈ Region.ready md ops listed := by
        refine mem_ready.2 ⟨hl, ops[j], Array.getElem?_eq_getElem hj, fun e he hbd => ?_⟩
        obtain ⟨h1, h2⟩ := hb j ops[j] (Array.getElem?_eq_getElem hj) e he hbd
        have := all_up2 hb hs hr n e.on (by omega) h2
        rw [Array.getD_eq_getD_getElem?, Array.getElem?_eq_getElem (by omega)] at this ⊢
        simpa using this
      rw [hr] at hm
      cases hm
def edgesB2 (md : Region.Mode) (ops : Array Oper) : Bool := (List.range ops.size).all fun j => match ops[j]? with | some o => o.after.toList.all fun e => !Region.binds md e || (decide (e.on < j) && decide (e.on < ops.size)) | none => true
theorem all_upB2 {ops : Array Oper} {md : Region.Mode} {listed : Array Bool} (hb : edgesB2 md ops = true) (hs : listed.size = ops.size) (hr : Region.ready md ops listed = []) : ∀ i, i < ops.size → listed.getD i false = true := fun i hi => by
  have h := all_up2 (md := md) (fun j o ho e he hbd => by
    have a := List.all_eq_true.1 hb j (List.mem_range.2 (Array.getElem?_eq_some_iff.1 ho).1)
    rw [ho] at a
    have b := List.all_eq_true.1 a e (Array.mem_toList_iff.2 he)
    rw [hbd] at b
    simpa only [Bool.not_true, Bool.false_or, Bool.and_eq_true, decide_eq_true_eq] using b) hs hr (i + 1) i (Nat.lt_succ_self i) hi
  rw [Array.getD_eq_getD_getElem?, Array.getElem?_eq_getElem (by omega)] at h ⊢
  simpa using h
/-- One that stores. -/
theorem QJ.store {P : Program} {ops : Array Oper} {Q : Exit → Act → World → Prop} {α : Type} {vals : α → Nat → Value} {M : α → Array Bool → World → Prop} {a0 b : Act} {listed : Array Bool} {v v' : World} {i : Nat} {o : Oper} {x : α} (hz : listed.size = ops.size) (hC : Closed ops listed) (hi : i ∈ Region.ready .any ops listed) (hF : Fr ops a0 (vals x) listed b) (hs : Slots ops a0.tmps.size) (ho : ops[i]? = some o) (hd : o.dst = none) (hg : Region.wanted o (yielded ops b.tmps) = true) (hM : M x (listed.setIfInBounds i true) v')
    (hr : (execOp b.eval o).run P v = .ok .skip v') : wpOp P ops Q i (fun b' v' => QJ vals M ops a0 (listed.setIfInBounds i true) b' v') b v := by
  refine wpOp_wpG ho hg ?_
  unfold Oper.wp
  rw [hr]
  have h := hF.put hs hz ho
  rw [hd] at h
  refine ⟨by simp [hz], hC.put hi, x, ?_, hM⟩
  rw [hd]
  exact h
def KeyAt (w : World) (kb o : Nat) (k : Kz) : Prop := ∀ i v, k.cells[i]? = some v → w.cell? ⟨kb, o + i, none⟩ = some v
theorem KeyAt.keep {w w' : World} {kb o : Nat} {k : Kz} (h : KeyAt w kb o k) (hk : w'.heap[kb]? = w.heap[kb]?) : KeyAt w' kb o k := fun i v hv => (World.cell?_of_block (a := ⟨kb, o + i, none⟩) hk).trans (h i v hv)
theorem KeyAt.three {w : World} {kb o : Nat} {k : Kz} (h : KeyAt w kb o k) : w.cell? ⟨kb, o, none⟩ = some (.int .i64 k.kind) ∧ w.cell? ⟨kb, o + 1, none⟩ = some (.string ⟨k.name.toArray⟩) ∧ w.cell? ⟨kb, o + 2, none⟩ = some (.int .i64 (k.kids.length : Nat)) := ⟨h 0 _ rfl, h 1 _ rfl, h 2 _ rfl⟩
theorem KeyAt.kids {w : World} {kb o : Nat} {k : Kz} (h : KeyAt w kb o k) (hk : WfK k) : ∀ j u, (k.kids.map fun (j : Nat) => Value.int .i64 (j : Nat))[j]? = some u → w.cell? ((⟨kb, o + 11, none⟩ : Addr).add j) = some u := fun j u hu => by
  obtain ⟨hj, rfl⟩ := List.getElem?_eq_some_iff.1 hu
  simp only [List.length_map] at hj
  have e : (⟨kb, o + 11, none⟩ : Addr).add j = ⟨kb, o + (11 + j), none⟩ := by unfold Addr.add; split <;> simp_all [Nat.add_assoc]
  rw [e]
  refine h (11 + j) _ ?_
  have h8 := hk.few
  rw [List.getElem_map]
  have hg : k.kids[j] = k.kids.getD j 0 := by rw [List.getD, List.getElem?_eq_getElem hj]; rfl
  rw [hg]
  obtain rfl | rfl | rfl | rfl | rfl | rfl | rfl | rfl : j = 0 ∨ j = 1 ∨ j = 2 ∨ j = 3 ∨ j = 4 ∨ j = 5 ∨ j = 6 ∨ j = 7 := by omega
  all_goals rfl
theorem KeyAt.names {w : World} {kb o : Nat} {k : Kz} (h : KeyAt w kb o k) (hk : WfK k) : ∀ j u, (k.names.map str)[j]? = some u → w.cell? ((⟨kb, o + 3, none⟩ : Addr).add j) = some u := fun j u hu => by
  obtain ⟨hj, rfl⟩ := List.getElem?_eq_some_iff.1 hu
  simp only [List.length_map] at hj
  have e : (⟨kb, o + 3, none⟩ : Addr).add j = ⟨kb, o + (3 + j), none⟩ := by unfold Addr.add; split <;> simp_all [Nat.add_assoc]
  rw [e]
  refine h (3 + j) _ ?_
  have h8 := hk.names8
  rw [List.getElem_map]
  have hg : k.names[j] = k.names.getD j [] := by rw [List.getD, List.getElem?_eq_getElem hj]; rfl
  rw [hg]
  obtain rfl | rfl | rfl | rfl | rfl | rfl | rfl | rfl : j = 0 ∨ j = 1 ∨ j = 2 ∨ j = 3 ∨ j = 4 ∨ j = 5 ∨ j = 6 ∨ j = 7 := by omega
  all_goals rfl
/-- The numbers of the kids, as a row. -/
def KidsV (w : World) (S : Nat → Prop) (k : Kz) (v : Value) : Prop := ∃ a c, v = .slice a k.kids.length c ∧ RowV w S a 1 (k.kids.map fun (j : Nat) => [Value.int .i64 (j : Nat)])
theorem KidsV.keep {w w' : World} {S S' : Nat → Prop} {k : Kz} {v : Value} (h : KidsV w S k v) (hS : ∀ g, S g → S' g) (hk : ∀ g, S g → w'.heap[g]? = w.heap[g]?) : KidsV w' S' k v := by
  obtain ⟨a, c, e, h⟩ := h
  exact ⟨a, c, e, h.keep hS hk⟩
def nodC (k : Kz) (s : Value) : Array Value := #[.int .i64 k.kind, .string ⟨k.name.toArray⟩, .slice none 0 0, s]
def nodZ : Array Value := #[.int .i64 0, .string ⟨#[]⟩, .slice none 0 0, .slice none 0 0]
structure NdM (w0 : World) (k : Kz) (b16 b18 b19 : Bool) (x : Nat × Value) (v : World) : Prop where
  below : Below w0.heap.size w0 v
  app : b16 = true → KidsV v (fun g => w0.heap.size ≤ g ∧ g < v.heap.size ∧ (b18 = true → g ≠ x.1)) k x.2
  box : b18 = true → w0.heap.size ≤ x.1 ∧ x.1 < v.heap.size ∧ v.heap[x.1]? = some (.cells (if b19 = true then nodC k x.2 else nodZ) 64 (0, 0))
section
variable {w0 v : World} {k : Kz} {b16 b18 : Bool} {x : Nat × Value}
theorem NdM.add (h : NdM w0 k false b18 false x v) {s : Value} {w' : World} (hown : w'.ownsRow v.heap.size 3 1 s k.kids.length (k.kids.map fun (j : Nat) => Value.int .i64 (j : Nat))) (hg : v.grownBy w' none) : NdM w0 k true b18 false (x.1, s) w' := by
  have hb := below_grown (B := v.heap.size) hg (fun g e => by cases e) (Nat.le_refl _)
  have hz := hb.size
  have hz0 := h.below.size
  refine ⟨h.below.trans (hb.mono hz0), fun _ => ?_, fun e => ?_⟩
  · obtain ⟨a, c, e, hr⟩ := RowV.own (l := k.kids.map fun (j : Nat) => [Value.int .i64 (j : Nat)]) (S := fun g => v.heap.size ≤ g ∧ g < w'.heap.size) (by rw [show (k.kids.map fun (j : Nat) => [Value.int .i64 (j : Nat)]).flatten = k.kids.map fun (j : Nat) => Value.int .i64 (j : Nat) by induction k.kids with | nil => rfl | cons a l ih => simp [ih]]; exact hown) (fun x hx => by obtain ⟨y, _, rfl⟩ := List.mem_map.1 hx; rfl) (by simp) (fun g e => hown.lt g e)
    exact ⟨a, c, e, hr.keep (fun g hg => ⟨by have := hg.1; omega, hg.2, fun hb18 e => by have := (h.box hb18).2.1; have := hg.1; dsimp only at e; omega⟩) (fun _ _ => rfl)⟩
  · obtain ⟨h1, h2, h3⟩ := h.box e
    exact ⟨h1, by dsimp only; omega, (hb.block _ h2).trans h3⟩
theorem NdM.make (h : NdM w0 k b16 false false x v) : NdM w0 k b16 true false (v.heap.size, x.2) (v.alloc (.cells nodZ 64)) := by
  have hb : Below v.heap.size v (v.alloc (.cells nodZ 64)) := (Below.refl _ _).alloc (Nat.le_refl _) _
  have hz0 := h.below.size
  refine ⟨h.below.trans (hb.mono hz0), fun e => (h.app e).keep (fun g hg => ⟨hg.1, by have := hg.2.1; simp; omega, fun _ => by have := hg.2.1; dsimp only; omega⟩) (fun g hg => hb.block g hg.2.1), fun _ => ⟨hz0, by simp, ?_⟩⟩
  exact heap_alloc_new v _
theorem NdM.put (h : NdM w0 k true true false x v) :
    NdM w0 k true true true x ((((v.setCell ⟨x.1, 0, none⟩ (.int .i64 k.kind)).setCell ⟨x.1, 1, none⟩ (.string ⟨k.name.toArray⟩)).setCell ⟨x.1, 2, none⟩ (.slice none 0 0)).setCell ⟨x.1, 3, none⟩ x.2) := by
  obtain ⟨h1, h2, h3⟩ := h.box rfl
  rw [if_neg (by decide)] at h3
  have hz0 := h.below.size
  obtain ⟨W, hW⟩ : ∃ W, W = ((((v.setCell ⟨x.1, 0, none⟩ (.int .i64 k.kind)).setCell ⟨x.1, 1, none⟩ (.string ⟨k.name.toArray⟩)).setCell ⟨x.1, 2, none⟩ (.slice none 0 0)).setCell ⟨x.1, 3, none⟩ x.2) := ⟨_, rfl⟩
  have hk : Keeps (fun g => g = x.1) v W := by rw [hW]; exact ((((Keeps.refl (fun g => g = x.1) _).setCell 0 _ rfl).setCell 1 _ rfl).setCell 2 _ rfl).setCell 3 _ rfl
  have hs : W.heap.size = v.heap.size := by rw [hW]; simp
  rw [← hW]
  refine ⟨h.below.trans (hk.below hz0 (fun g e => by rw [e]; exact h1)), fun _ => (h.app rfl).keep (fun g hg => ⟨hg.1, by rw [hs]; exact hg.2.1, hg.2.2⟩) (fun g hg => hk.block g hg.2.1 (hg.2.2 rfl)), fun _ => ⟨h1, by rw [hs]; exact h2, ?_⟩⟩
  rw [if_pos rfl, hW]
  exact set_four h3
end
end Sp
end Go.Proofs.Ytjjpjkkaogfoaaa

namespace Go.Proofs.Ytjjpjkkaogfoaaa
open Go.RowKit
namespace Sp
open Sc
set_option maxRecDepth 100000

theorem infoNd : (Try.prog.info? 64).map (fun i => (i.zero, i.size, i.bytes)) = some (some (.agg nodZ), 4, 72) := by kernel_rfl
/-- What node answers. -/
def NodeP (k : Kz) (w : World) (e : Ending) (w' : World) : Prop := ∃ an cn ak ck, e = .returned (.agg #[.int .i64 k.kind, .string ⟨k.name.toArray⟩, .slice an k.names.length cn, .slice ak k.kids.length ck]) ∧
  RowV w' (fun g => w.heap.size ≤ g ∧ g < w'.heap.size) an 1 (k.names.map fun n => [str n]) ∧ RowV w' (fun g => w.heap.size ≤ g ∧ g < w'.heap.size) ak 1 (k.kids.map fun (j : Nat) => [Value.int .i64 (j : Nat)]) ∧ Below w.heap.size w w'
set_option maxHeartbeats 8000000 in
theorem knode_any (k : Kz) (w : World) (kb o : Nat) (hkb0 : kb < w.heap.size) (hK : KeyAt w kb o k) (hwf : WfK k) :
    Calls Try.prog 57 #[.pointer (some ⟨kb, o, none⟩)] w (NodeP k w) := by
  obtain ⟨W0, hW0⟩ : ∃ W0, W0 = w.alloc (.cells nodZ 64) := ⟨_, rfl⟩
  have hz0 : W0.heap.size = w.heap.size + 1 := by rw [hW0]; simp
  have hb0 : Below w.heap.size w W0 := by rw [hW0]; exact (Below.refl _ _).alloc (Nat.le_refl _) _
  have hn0 : W0.heap[w.heap.size]? = some (.cells nodZ 64 (0, 0)) := by rw [hW0]; exact heap_alloc_new w _
  have hk0 := hK.keep (hb0.block kb hkb0)
  have hk8 : k.kids.length ≤ 8 := hwf.few
  have hk8z : (k.kids.length : Int) ≤ 8 := by omega
  have hkb : kb < W0.heap.size := by omega
  obtain ⟨ii, hii, ji, ki, li⟩ := info_parts infoI
  obtain ⟨id, hid, jd, kd, ld⟩ := info_parts infoNd
  have HIi := Lib.hid hii; have HJi := Lib.hid ji; have HKi := Lib.hid ki; have HLi := Lib.hid li
  have HW0 := Lib.hid hW0; have HB0 := Lib.hid hb0; have HN0 := Lib.hid hn0; have HK := Lib.hid hk0; have HWF := Lib.hid hwf
  clear hW0 hb0 hn0 hk0 hwf hK hii ji ki li hid jd kd ld
  go_enter Try.func57, Try.ntmps57
  go_upto_region 1 with fail
  rw [show w.alloc (.cells #[.int .i64 0, .string ⟨#[]⟩, .slice none 0 0, .slice none 0 0] 64) = W0 from HW0.out.symm]
  refine wp_region_by (QJ (fun (x : Nat × Value) i => match i with | 0 => .pointer (some ⟨kb, o, none⟩) | 1 => .pointer (some ⟨kb, o, none⟩) | 2 => .pointer (some ⟨kb, o, none⟩) | 3 => .int .i64 k.kind | 4 => .pointer (some ⟨kb, o, none⟩) | 5 => .pointer (some ⟨kb, o, none⟩) | 6 => .pointer (some ⟨kb, o + 1, none⟩) | 7 => .string ⟨k.name.toArray⟩ | 8 => .pointer (some ⟨kb, o, none⟩) | 9 => .pointer (some ⟨kb, o, none⟩) | 10 => .pointer (some ⟨kb, o + 11, none⟩) | 11 => .pointer (some ⟨kb, o, none⟩) | 12 => .pointer (some ⟨kb, o, none⟩) | 13 => .pointer (some ⟨kb, o + 2, none⟩) | 14 => .int .i64 (k.kids.length : Nat) | 15 => .slice (some ⟨kb, o + 11, none⟩) k.kids.length 8 | 16 => x.2 | 17 => .agg (nodC k x.2) | 18 => .pointer (some ⟨x.1, 0, none⟩) | 19 => undef | _ => undef) (fun x listed v => NdM W0 k (listed.getD 16 false) (listed.getD 18 false) (listed.getD 19 false) x v)) (by kernel_rfl) ?_ ?_ ?_
  · exact ⟨by simp, Closed.start _, (0, undef), Fr.start _ _ _, ⟨Below.drew (Below.refl _ _), (fun h => by simp at h), (fun h => by simp at h)⟩⟩
  · intro listed b v q hJ hi
    obtain ⟨hsz, hC, x, hF, hM⟩ := hJ
    have hMb : NdM W0 k (listed.getD 16 false) (listed.getD 18 false) (listed.getD 19 false) x v := hM
    obtain ⟨hl1, hiN⟩ := not_up hsz hi
    obtain ⟨_, o, ho, hdeps⟩ := mem_ready.1 hi
    have hiN : q < 20 := hiN
    obtain rfl | rfl | rfl | rfl | rfl | rfl | rfl | rfl | rfl | rfl | rfl | rfl | rfl | rfl | rfl | rfl | rfl | rfl | rfl | rfl : q = 0 ∨ q = 1 ∨ q = 2 ∨ q = 3 ∨ q = 4 ∨ q = 5 ∨ q = 6 ∨ q = 7 ∨ q = 8 ∨ q = 9 ∨ q = 10 ∨ q = 11 ∨ q = 12 ∨ q = 13 ∨ q = 14 ∨ q = 15 ∨ q = 16 ∨ q = 17 ∨ q = 18 ∨ q = 19 := by omega
    · cases ho
      have e0 := hF.old_is 0 (by rfl) rfl
      refine QJ.quiet (x := x) hsz hC hi hF (Slots.of (by rfl)) rfl (wanted_none rfl) (show NdM W0 k ((listed.setIfInBounds 0 true).getD 16 false) ((listed.setIfInBounds 0 true).getD 18 false) ((listed.setIfInBounds 0 true).getD 19 false) x v by rw [getD_setN (show 0 ≠ 16 by decide), getD_setN (show 0 ≠ 18 by decide), getD_setN (show 0 ≠ 19 by decide)]; exact hM) ?_
      show _ = Result.ok (Next.value (.pointer (some ⟨kb, o, none⟩))) v
      simp [execOp, go_sem, e0]
    · cases ho
      have e4 : b.tmps[4]? = some (.pointer (some ⟨kb, o, none⟩)) := hF.up 0 4 rfl (hdeps ⟨0, .data⟩ (by simp) rfl)
      refine QJ.quiet (x := x) hsz hC hi hF (Slots.of (by rfl)) rfl (wanted_none rfl) (show NdM W0 k ((listed.setIfInBounds 1 true).getD 16 false) ((listed.setIfInBounds 1 true).getD 18 false) ((listed.setIfInBounds 1 true).getD 19 false) x v by rw [getD_setN (show 1 ≠ 16 by decide), getD_setN (show 1 ≠ 18 by decide), getD_setN (show 1 ≠ 19 by decide)]; exact hM) ?_
      show _ = Result.ok (Next.value (.pointer (some ⟨kb, o, none⟩))) v
      simp [execOp, go_sem, e4]
    · cases ho
      have e5 : b.tmps[5]? = some (.pointer (some ⟨kb, o, none⟩)) := hF.up 1 5 rfl (hdeps ⟨1, .data⟩ (by simp) rfl)
      refine QJ.quiet (x := x) hsz hC hi hF (Slots.of (by rfl)) rfl (wanted_none rfl) (show NdM W0 k ((listed.setIfInBounds 2 true).getD 16 false) ((listed.setIfInBounds 2 true).getD 18 false) ((listed.setIfInBounds 2 true).getD 19 false) x v by rw [getD_setN (show 2 ≠ 16 by decide), getD_setN (show 2 ≠ 18 by decide), getD_setN (show 2 ≠ 19 by decide)]; exact hM) ?_
      show _ = Result.ok (Next.value (.pointer (some ⟨kb, o, none⟩))) v
      simp [execOp, go_sem, e5]
    · cases ho
      obtain ⟨c0, c1, c2⟩ := (HK.out.keep (hMb.below.block kb hkb)).three
      have e6 : b.tmps[6]? = some (.pointer (some ⟨kb, o, none⟩)) := hF.up 2 6 rfl (hdeps ⟨2, .data⟩ (by simp) rfl)
      refine QJ.quiet (x := x) hsz hC hi hF (Slots.of (by rfl)) rfl (wanted_none rfl) (show NdM W0 k ((listed.setIfInBounds 3 true).getD 16 false) ((listed.setIfInBounds 3 true).getD 18 false) ((listed.setIfInBounds 3 true).getD 19 false) x v by rw [getD_setN (show 3 ≠ 16 by decide), getD_setN (show 3 ≠ 18 by decide), getD_setN (show 3 ≠ 19 by decide)]; exact hM) ?_
      show _ = Result.ok (Next.value (.int .i64 k.kind)) v
      simp [execOp, go_sem, e6, c0]
    · cases ho
      have e0 := hF.old_is 0 (by rfl) rfl
      refine QJ.quiet (x := x) hsz hC hi hF (Slots.of (by rfl)) rfl (wanted_none rfl) (show NdM W0 k ((listed.setIfInBounds 4 true).getD 16 false) ((listed.setIfInBounds 4 true).getD 18 false) ((listed.setIfInBounds 4 true).getD 19 false) x v by rw [getD_setN (show 4 ≠ 16 by decide), getD_setN (show 4 ≠ 18 by decide), getD_setN (show 4 ≠ 19 by decide)]; exact hM) ?_
      show _ = Result.ok (Next.value (.pointer (some ⟨kb, o, none⟩))) v
      simp [execOp, go_sem, e0]
    · cases ho
      have e8 : b.tmps[8]? = some (.pointer (some ⟨kb, o, none⟩)) := hF.up 4 8 rfl (hdeps ⟨4, .data⟩ (by simp) rfl)
      refine QJ.quiet (x := x) hsz hC hi hF (Slots.of (by rfl)) rfl (wanted_none rfl) (show NdM W0 k ((listed.setIfInBounds 5 true).getD 16 false) ((listed.setIfInBounds 5 true).getD 18 false) ((listed.setIfInBounds 5 true).getD 19 false) x v by rw [getD_setN (show 5 ≠ 16 by decide), getD_setN (show 5 ≠ 18 by decide), getD_setN (show 5 ≠ 19 by decide)]; exact hM) ?_
      show _ = Result.ok (Next.value (.pointer (some ⟨kb, o, none⟩))) v
      simp [execOp, go_sem, e8]
    · cases ho
      have e9 : b.tmps[9]? = some (.pointer (some ⟨kb, o, none⟩)) := hF.up 5 9 rfl (hdeps ⟨5, .data⟩ (by simp) rfl)
      refine QJ.quiet (x := x) hsz hC hi hF (Slots.of (by rfl)) rfl (wanted_none rfl) (show NdM W0 k ((listed.setIfInBounds 6 true).getD 16 false) ((listed.setIfInBounds 6 true).getD 18 false) ((listed.setIfInBounds 6 true).getD 19 false) x v by rw [getD_setN (show 6 ≠ 16 by decide), getD_setN (show 6 ≠ 18 by decide), getD_setN (show 6 ≠ 19 by decide)]; exact hM) ?_
      show _ = Result.ok (Next.value (.pointer (some ⟨kb, o + 1, none⟩))) v
      simp [execOp, go_sem, e9]
    · cases ho
      obtain ⟨c0, c1, c2⟩ := (HK.out.keep (hMb.below.block kb hkb)).three
      have e10 : b.tmps[10]? = some (.pointer (some ⟨kb, o + 1, none⟩)) := hF.up 6 10 rfl (hdeps ⟨6, .data⟩ (by simp) rfl)
      refine QJ.quiet (x := x) hsz hC hi hF (Slots.of (by rfl)) rfl (wanted_none rfl) (show NdM W0 k ((listed.setIfInBounds 7 true).getD 16 false) ((listed.setIfInBounds 7 true).getD 18 false) ((listed.setIfInBounds 7 true).getD 19 false) x v by rw [getD_setN (show 7 ≠ 16 by decide), getD_setN (show 7 ≠ 18 by decide), getD_setN (show 7 ≠ 19 by decide)]; exact hM) ?_
      show _ = Result.ok (Next.value (.string ⟨k.name.toArray⟩)) v
      simp [execOp, go_sem, e10, c1]
    · cases ho
      have e0 := hF.old_is 0 (by rfl) rfl
      refine QJ.quiet (x := x) hsz hC hi hF (Slots.of (by rfl)) rfl (wanted_none rfl) (show NdM W0 k ((listed.setIfInBounds 8 true).getD 16 false) ((listed.setIfInBounds 8 true).getD 18 false) ((listed.setIfInBounds 8 true).getD 19 false) x v by rw [getD_setN (show 8 ≠ 16 by decide), getD_setN (show 8 ≠ 18 by decide), getD_setN (show 8 ≠ 19 by decide)]; exact hM) ?_
      show _ = Result.ok (Next.value (.pointer (some ⟨kb, o, none⟩))) v
      simp [execOp, go_sem, e0]
    · cases ho
      have e12 : b.tmps[12]? = some (.pointer (some ⟨kb, o, none⟩)) := hF.up 8 12 rfl (hdeps ⟨8, .data⟩ (by simp) rfl)
      refine QJ.quiet (x := x) hsz hC hi hF (Slots.of (by rfl)) rfl (wanted_none rfl) (show NdM W0 k ((listed.setIfInBounds 9 true).getD 16 false) ((listed.setIfInBounds 9 true).getD 18 false) ((listed.setIfInBounds 9 true).getD 19 false) x v by rw [getD_setN (show 9 ≠ 16 by decide), getD_setN (show 9 ≠ 18 by decide), getD_setN (show 9 ≠ 19 by decide)]; exact hM) ?_
      show _ = Result.ok (Next.value (.pointer (some ⟨kb, o, none⟩))) v
      simp [execOp, go_sem, e12]
    · cases ho
      have e13 : b.tmps[13]? = some (.pointer (some ⟨kb, o, none⟩)) := hF.up 9 13 rfl (hdeps ⟨9, .data⟩ (by simp) rfl)
      refine QJ.quiet (x := x) hsz hC hi hF (Slots.of (by rfl)) rfl (wanted_none rfl) (show NdM W0 k ((listed.setIfInBounds 10 true).getD 16 false) ((listed.setIfInBounds 10 true).getD 18 false) ((listed.setIfInBounds 10 true).getD 19 false) x v by rw [getD_setN (show 10 ≠ 16 by decide), getD_setN (show 10 ≠ 18 by decide), getD_setN (show 10 ≠ 19 by decide)]; exact hM) ?_
      show _ = Result.ok (Next.value (.pointer (some ⟨kb, o + 11, none⟩))) v
      simp [execOp, go_sem, e13]
    · cases ho
      have e0 := hF.old_is 0 (by rfl) rfl
      refine QJ.quiet (x := x) hsz hC hi hF (Slots.of (by rfl)) rfl (wanted_none rfl) (show NdM W0 k ((listed.setIfInBounds 11 true).getD 16 false) ((listed.setIfInBounds 11 true).getD 18 false) ((listed.setIfInBounds 11 true).getD 19 false) x v by rw [getD_setN (show 11 ≠ 16 by decide), getD_setN (show 11 ≠ 18 by decide), getD_setN (show 11 ≠ 19 by decide)]; exact hM) ?_
      show _ = Result.ok (Next.value (.pointer (some ⟨kb, o, none⟩))) v
      simp [execOp, go_sem, e0]
    · cases ho
      have e15 : b.tmps[15]? = some (.pointer (some ⟨kb, o, none⟩)) := hF.up 11 15 rfl (hdeps ⟨11, .data⟩ (by simp) rfl)
      refine QJ.quiet (x := x) hsz hC hi hF (Slots.of (by rfl)) rfl (wanted_none rfl) (show NdM W0 k ((listed.setIfInBounds 12 true).getD 16 false) ((listed.setIfInBounds 12 true).getD 18 false) ((listed.setIfInBounds 12 true).getD 19 false) x v by rw [getD_setN (show 12 ≠ 16 by decide), getD_setN (show 12 ≠ 18 by decide), getD_setN (show 12 ≠ 19 by decide)]; exact hM) ?_
      show _ = Result.ok (Next.value (.pointer (some ⟨kb, o, none⟩))) v
      simp [execOp, go_sem, e15]
    · cases ho
      have e16 : b.tmps[16]? = some (.pointer (some ⟨kb, o, none⟩)) := hF.up 12 16 rfl (hdeps ⟨12, .data⟩ (by simp) rfl)
      refine QJ.quiet (x := x) hsz hC hi hF (Slots.of (by rfl)) rfl (wanted_none rfl) (show NdM W0 k ((listed.setIfInBounds 13 true).getD 16 false) ((listed.setIfInBounds 13 true).getD 18 false) ((listed.setIfInBounds 13 true).getD 19 false) x v by rw [getD_setN (show 13 ≠ 16 by decide), getD_setN (show 13 ≠ 18 by decide), getD_setN (show 13 ≠ 19 by decide)]; exact hM) ?_
      show _ = Result.ok (Next.value (.pointer (some ⟨kb, o + 2, none⟩))) v
      simp [execOp, go_sem, e16]
    · cases ho
      obtain ⟨c0, c1, c2⟩ := (HK.out.keep (hMb.below.block kb hkb)).three
      have e17 : b.tmps[17]? = some (.pointer (some ⟨kb, o + 2, none⟩)) := hF.up 13 17 rfl (hdeps ⟨13, .data⟩ (by simp) rfl)
      refine QJ.quiet (x := x) hsz hC hi hF (Slots.of (by rfl)) rfl (wanted_none rfl) (show NdM W0 k ((listed.setIfInBounds 14 true).getD 16 false) ((listed.setIfInBounds 14 true).getD 18 false) ((listed.setIfInBounds 14 true).getD 19 false) x v by rw [getD_setN (show 14 ≠ 16 by decide), getD_setN (show 14 ≠ 18 by decide), getD_setN (show 14 ≠ 19 by decide)]; exact hM) ?_
      show _ = Result.ok (Next.value (.int .i64 (k.kids.length : Nat))) v
      simp [execOp, go_sem, e17, c2]
    · cases ho
      have e14 : b.tmps[14]? = some (.pointer (some ⟨kb, o + 11, none⟩)) := hF.up 10 14 rfl (hdeps ⟨10, .data⟩ (by simp) rfl)
      have e18 : b.tmps[18]? = some (.int .i64 (k.kids.length : Nat)) := hF.up 14 18 rfl (hdeps ⟨14, .data⟩ (by simp) rfl)
      refine QJ.quiet (x := x) hsz hC hi hF (Slots.of (by rfl)) rfl (wanted_none rfl) (show NdM W0 k ((listed.setIfInBounds 15 true).getD 16 false) ((listed.setIfInBounds 15 true).getD 18 false) ((listed.setIfInBounds 15 true).getD 19 false) x v by rw [getD_setN (show 15 ≠ 16 by decide), getD_setN (show 15 ≠ 18 by decide), getD_setN (show 15 ≠ 19 by decide)]; exact hM) ?_
      show _ = Result.ok (Next.value (.slice (some ⟨kb, o + 11, none⟩) k.kids.length 8)) v
      simp [execOp, go_sem, e14, e18, hk8z]
    · cases ho
      have l19 : listed.getD 19 false = false := by
        cases hh : listed.getD 19 false
        · rfl
        · have y0 := hC 19 _ rfl hh ⟨16, .chain⟩ (by simp) rfl; rw [hl1] at y0; cases y0
      have l17 : listed.getD 17 false = false := by
        cases hh : listed.getD 17 false
        · rfl
        · have y0 := hC 17 _ rfl hh ⟨16, .data⟩ (by simp) rfl; rw [hl1] at y0; cases y0
      have hM0 : NdM W0 k false (listed.getD 18 false) false x v := by have h := hMb; rw [hl1, l19] at h; exact h
      have e19 : b.tmps[19]? = some (.slice (some ⟨kb, o + 11, none⟩) k.kids.length 8) := hF.up 15 19 rfl (hdeps ⟨15, .data⟩ (by simp) rfl)
      obtain ⟨s, w', hr, hown, hg, -⟩ := Sh.run_append_fresh (P := Try.prog) v v.heap.size 30 30 3 ii (.int .i64 0) 1 8 Try.underlying30 HIi.out HJi.out HKi.out HLi.out rfl (by decide) (.slice none 0 0) 0 [] (World.ownsRow_nil _ _ _ _) ⟨kb, o + 11, none⟩ k.kids.length 8 (k.kids.map fun (j : Nat) => Value.int .i64 (j : Nat)) (by simp) ((HK.out.keep (hMb.below.block kb hkb)).kids HWF.out) (fun u hu => by obtain ⟨y, _, rfl⟩ := List.mem_map.1 hu; rfl) (by unfold maxLen; omega) (by omega) (Nat.le_refl _)
      rw [Nat.zero_add, List.nil_append] at hown
      refine QJ.make (v' := w') (x := x) (x' := (x.1, s)) hsz hC hi hF (Slots.of (by rfl)) rfl (wanted_none rfl) (fun q hq => match q, (show q ≠ 16 by rintro rfl; rw [hl1] at hq; cases hq), (show q ≠ 17 by rintro rfl; rw [l17] at hq; cases hq) with | 0, h16, h17 => rfl | 1, h16, h17 => rfl | 2, h16, h17 => rfl | 3, h16, h17 => rfl | 4, h16, h17 => rfl | 5, h16, h17 => rfl | 6, h16, h17 => rfl | 7, h16, h17 => rfl | 8, h16, h17 => rfl | 9, h16, h17 => rfl | 10, h16, h17 => rfl | 11, h16, h17 => rfl | 12, h16, h17 => rfl | 13, h16, h17 => rfl | 14, h16, h17 => rfl | 15, h16, h17 => rfl | 16, h16, h17 => absurd rfl h16 | 17, h16, h17 => absurd rfl h17 | 18, h16, h17 => rfl | 19, h16, h17 => rfl | _ + 20, _, _ => rfl) (show NdM W0 k ((listed.setIfInBounds 16 true).getD 16 false) ((listed.setIfInBounds 16 true).getD 18 false) ((listed.setIfInBounds 16 true).getD 19 false) (x.1, s) w' by rw [getD_setS (by rw [hsz]; decide), getD_setN (show 16 ≠ 18 by decide), getD_setN (show 16 ≠ 19 by decide), l19]; exact hM0.add hown hg) ?_
      have hx : b.eval (.tmp 19) = .slice (some ⟨kb, o + 11, none⟩) k.kids.length 8 := hF.eval (i := 15) rfl (hdeps ⟨15, .data⟩ (by simp) rfl)
      have hs0 : b.eval (.const (.slice none 0 0)) = .slice none 0 0 := rfl
      have hgo : ∀ p af g, (execOp b.eval { dst := some 20, op := .call { callee := .builtin .append, args := #[.const (.slice none 0 0), .tmp 19], argTypes := #[30, 30] }, type := 30, pos := p, after := af, guard := g }).run Try.prog v = .ok (.value s) w' := fun p af g => by
        simp only [execOp, resolve, invoke, builtin, Sem.run_bind, Sem.run_pure, Result.andThen_ok, List.map_toArray, List.map_cons, List.map_nil, hs0, hx, hr]
      exact hgo _ _ _
    · cases ho
      obtain ⟨ax, cx, ex2, -⟩ := hMb.app (hdeps ⟨16, .data⟩ (by simp) rfl)
      have e7 : b.tmps[7]? = some (.int .i64 k.kind) := hF.up 3 7 rfl (hdeps ⟨3, .data⟩ (by simp) rfl)
      have e11 : b.tmps[11]? = some (.string ⟨k.name.toArray⟩) := hF.up 7 11 rfl (hdeps ⟨7, .data⟩ (by simp) rfl)
      have e20 : b.tmps[20]? = some (x.2) := hF.up 16 20 rfl (hdeps ⟨16, .data⟩ (by simp) rfl)
      refine QJ.quiet (x := x) hsz hC hi hF (Slots.of (by rfl)) rfl (wanted_none rfl) (show NdM W0 k ((listed.setIfInBounds 17 true).getD 16 false) ((listed.setIfInBounds 17 true).getD 18 false) ((listed.setIfInBounds 17 true).getD 19 false) x v by rw [getD_setN (show 17 ≠ 16 by decide), getD_setN (show 17 ≠ 18 by decide), getD_setN (show 17 ≠ 19 by decide)]; exact hM) ?_
      show _ = Result.ok (Next.value (.agg (nodC k x.2))) v
      simp [execOp, go_sem, e7, e11, e20, nodC, ex2]
    · cases ho
      have l19 : listed.getD 19 false = false := by
        cases hh : listed.getD 19 false
        · rfl
        · have y0 := hC 19 _ rfl hh ⟨18, .data⟩ (by simp) rfl; rw [hl1] at y0; cases y0
      have hM0 : NdM W0 k (listed.getD 16 false) false false x v := by have h := hMb; rw [hl1, l19] at h; exact h
      refine QJ.make (v' := v.alloc (.cells nodZ 64)) (x := x) (x' := (v.heap.size, x.2)) hsz hC hi hF (Slots.of (by rfl)) rfl (wanted_none rfl) (fun q hq => match q, (show q ≠ 18 by rintro rfl; rw [hl1] at hq; cases hq) with | 0, h18 => rfl | 1, h18 => rfl | 2, h18 => rfl | 3, h18 => rfl | 4, h18 => rfl | 5, h18 => rfl | 6, h18 => rfl | 7, h18 => rfl | 8, h18 => rfl | 9, h18 => rfl | 10, h18 => rfl | 11, h18 => rfl | 12, h18 => rfl | 13, h18 => rfl | 14, h18 => rfl | 15, h18 => rfl | 16, h18 => rfl | 17, h18 => rfl | 18, h18 => absurd rfl h18 | 19, h18 => rfl | _ + 20, _ => rfl) (show NdM W0 k ((listed.setIfInBounds 18 true).getD 16 false) ((listed.setIfInBounds 18 true).getD 18 false) ((listed.setIfInBounds 18 true).getD 19 false) (v.heap.size, x.2) (v.alloc (.cells nodZ 64)) by rw [getD_setS (by rw [hsz]; decide), getD_setN (show 18 ≠ 16 by decide), getD_setN (show 18 ≠ 19 by decide), l19]; exact hM0.make) ?_
      simp [execOp, go_sem, nodZ]
    · cases ho
      have l16 := hdeps ⟨16, .phase⟩ (by simp) rfl
      have l18 := hdeps ⟨18, .phase⟩ (by simp) rfl
      have hM0 : NdM W0 k true true false x v := by have h := hMb; rw [hl1, l16, l18] at h; exact h
      have e3 : b.tmps[3]? = some (.pointer (some ⟨x.1, 0, none⟩)) := hF.up 18 3 rfl (hdeps ⟨18, .data⟩ (by simp) rfl)
      have e21 : b.tmps[21]? = some (.agg (nodC k x.2)) := hF.up 17 21 rfl (hdeps ⟨17, .data⟩ (by simp) rfl)
      obtain ⟨m1, m2, m3⟩ := hM0.box rfl
      rw [if_neg (by decide)] at m3
      obtain ⟨⟨z0, z1, z2, z3⟩, ⟨g0, g1, g2, g3⟩⟩ := four_blk m3
      obtain ⟨ax, cx, ex2, -⟩ := hM0.app rfl
      refine QJ.store (x := x) hsz hC hi hF (Slots.of (by rfl)) rfl rfl (wanted_none rfl) (show NdM W0 k ((listed.setIfInBounds 19 true).getD 16 false) ((listed.setIfInBounds 19 true).getD 18 false) ((listed.setIfInBounds 19 true).getD 19 false) x ((((v.setCell ⟨x.1, 0, none⟩ (.int .i64 k.kind)).setCell ⟨x.1, 1, none⟩ (.string ⟨k.name.toArray⟩)).setCell ⟨x.1, 2, none⟩ (.slice none 0 0)).setCell ⟨x.1, 3, none⟩ x.2) by rw [getD_setS (by rw [hsz]; decide), getD_setN (show 19 ≠ 16 by decide), getD_setN (show 19 ≠ 18 by decide), l16, l18]; exact hM0.put) ?_
      simp [execOp, go_sem, e3, e21, nodC, ex2, z0, z1, z2, z3, g0, g1, g2, g3]
  · intro listed b W1 hJ hr
    obtain ⟨hsz, hC, x, hF, hM⟩ := hJ
    have hall := all_upB (by rfl) hsz hr
    have hMb : NdM W0 k true true true x W1 := by
      have h : NdM W0 k (listed.getD 16 false) (listed.getD 18 false) (listed.getD 19 false) x W1 := hM
      rw [hall 16 (by decide), hall 18 (by decide), hall 19 (by decide)] at h
      exact h
    have hb : b = putAll _ _ _ 20 := hF.done (Slots.of (by rfl)) hall
    subst hb
    simp only [putAll]
    simp [dstOf, Act.put]
    obtain ⟨xb, xs⟩ := x
    obtain ⟨m1, m2, m3⟩ := hMb.box rfl
    obtain ⟨a, cc, e2, hrow⟩ := hMb.app rfl
    dsimp only at m1 m2 m3 e2 hrow
    subst e2
    rw [if_pos rfl] at m3
    have hk1 := HK.out.keep (hMb.below.block kb hkb)
    have hn1 := (hMb.below.block w.heap.size (by omega)).trans HN0.out
    have hb1 := HB0.out.trans (hMb.below.mono (by omega))
    have hw1 := hMb.below.size
    have HM3 := Lib.hid m3; have HROW := Lib.hid hrow; have HK1 := Lib.hid hk1; have HN1 := Lib.hid hn1; have HB1 := Lib.hid hb1
    obtain ⟨c0, c1, c2⟩ := hk1.three
    clear hM hF hC hall hr hsz hMb m3 hrow hk1 hn1 hb1 HK
    obtain ⟨⟨z0, z1, z2, z3⟩, ⟨g0, g1, g2, g3⟩⟩ := four_blk HM3.out
    obtain ⟨⟨y0, y1, y2, y3⟩, ⟨f0, f1, f2, f3⟩⟩ := four_blk HN1.out
    by_cases hkd : k.kind = 7 ∨ k.kind = 8
    · have hnl : k.names.length = k.kids.length := by have := HWF.out.form; rw [if_pos hkd] at this; exact this
      have HNL := Lib.hid hnl
      obtain ⟨is, his, js, ks, ls⟩ := info_parts infoS
      have HIs := Lib.hid his; have HJs := Lib.hid js; have HKs := Lib.hid ks; have HLs := Lib.hid ls
      clear hnl his js ks ls
      rcases hkd with hkd | hkd
      · have t7 : (k.kind == 7) = true := by simpa using hkd
        have hc0 := hkd
        go_upto_region 3 with fail
        refine wp_region_still_tail 8 (by kernel_rfl) (by kernel_rfl) ?_
        obtain ⟨Wd, hWd⟩ : ∃ Wd : World, Wd = { W1 with drawn := W1.drawn + 1 } := ⟨_, rfl⟩
        rw [← hWd]
        have hsd : ∀ g : Nat, Wd.heap[g]? = W1.heap[g]? := fun g => by rw [hWd]
        have hzd : Wd.heap.size = W1.heap.size := by rw [hWd]
        have hbd : Below W1.heap.size W1 Wd := by rw [hWd]; exact Below.drew (Below.refl _ _)
        have hkd1 := HK1.out.keep (hsd kb)
        have hxd := (hsd xb).trans HM3.out
        have hnd := (hsd w.heap.size).trans HN1.out
        clear c0 c1 c2 z0 z1 z2 z3 g0 g1 g2 g3 y0 y1 y2 y3 f0 f1 f2 f3 hWd
        obtain ⟨c0, c1, c2⟩ := hkd1.three
        have HKD := Lib.hid hkd1; have HXD := Lib.hid hxd; have HND := Lib.hid hnd; have HSD := Lib.hid hsd; have HBD := Lib.hid hbd
        clear hkd1 hxd hnd hsd hbd
        simp only [List.take_succ_cons, List.take_zero, List.drop_succ_cons, List.drop_zero]
        iterate 8 still_step
        refine wpStill_nil ?_
        refine Sh.wpList_append_fresh rfl _ _ 22 rfl Wd.heap.size 9 is (.string ⟨#[]⟩) 1 16 Try.underlying22 HIs.out HJs.out HKs.out HLs.out rfl (by decide) (.slice none 0 0) 0 [] rfl (World.ownsRow_nil _ _ _ _) ⟨kb, o + 3, none⟩ k.kids.length 8 (k.names.map str) rfl (by simp [HNL.out]) (HKD.out.names HWF.out) (fun u hu => by obtain ⟨y, _, rfl⟩ := List.mem_map.1 hu; rfl) (by unfold maxLen; omega) (by omega) (Nat.le_refl _) ?_
        intro sv w5 hown hg _
        rw [Nat.zero_add, List.nil_append] at hown
        have hb5 := below_grown (B := Wd.heap.size) hg (fun g e => by cases e) (Nat.le_refl _)
        have hz5 := hb5.size
        obtain ⟨an, cn, rfl, hrn⟩ := RowV.own (l := k.names.map fun n => [str n]) (S := fun g => Wd.heap.size ≤ g ∧ g < w5.heap.size) (by rw [show (k.names.map fun n => [str n]).flatten = k.names.map str by induction k.names with | nil => rfl | cons a l ih => simp [ih]]; exact hown) (str1_len k.names) (by simp [HNL.out]) (fun g e => hown.lt g e)
        have hx5 := (hb5.block xb (by omega)).trans HXD.out
        have hn5 := (hb5.block w.heap.size (by omega)).trans HND.out
        obtain ⟨⟨z0, z1, z2, z3⟩, ⟨g0, g1, g2, g3⟩⟩ := four_blk hx5
        have HB5 := Lib.hid hb5; have HRN := Lib.hid hrn; have HN5 := Lib.hid hn5; have HX5 := Lib.hid hx5
        clear hb5 hrn hn5 hx5 hown hg c0 c1 c2
        simp only [Act.put]
        refine wpList_runV (w' := w5) rfl (.pointer (some ⟨xb, 2, none⟩)) (by simp [execOp, go_sem]) ?_
        refine wpList_runU (w' := w5.setCell ⟨xb, 2, none⟩ (.slice an k.kids.length cn)) rfl (by simp [execOp, go_sem, z2, g2]) ?_
        refine wpList_nil ?_
        simp only [Act.put]
        obtain ⟨W6, hW6⟩ : ∃ W6, W6 = w5.setCell ⟨xb, 2, none⟩ (.slice an k.kids.length cn) := ⟨_, rfl⟩
        have hx6 : W6.heap[xb]? = some (.cells #[.int .i64 k.kind, .string ⟨k.name.toArray⟩, .slice an k.kids.length cn, .slice a k.kids.length cc] 64 (0, 0)) := by rw [hW6]; exact set_four2 HX5.out _
        have hk6 : Keeps (fun g => g = xb) w5 W6 := by rw [hW6]; exact (Keeps.refl (fun g => g = xb) _).setCell 2 _ rfl
        have hn6 := (hk6.block w.heap.size (by omega) (by omega)).trans HN5.out
        have hz6 := hk6.size
        rw [← hW6]
        clear hW6 z0 z1 z2 z3 g0 g1 g2 g3
        obtain ⟨⟨z0, z1, z2, z3⟩, ⟨g0, g1, g2, g3⟩⟩ := four_blk hx6
        obtain ⟨⟨y0, y1, y2, y3⟩, ⟨f0, f1, f2, f3⟩⟩ := four_blk hn6
        have HK6 := Lib.hid hk6; have HN6 := Lib.hid hn6
        clear hk6 hn6 hx6
        go_wp2
        obtain ⟨W2, hW2⟩ : ∃ W2, W2 = (((W6.setCell ⟨w.heap.size, 0, none⟩ (.int .i64 7)).setCell ⟨w.heap.size, 1, none⟩ (.string ⟨k.name.toArray⟩)).setCell ⟨w.heap.size, 2, none⟩ (.slice an k.kids.length cn)).setCell ⟨w.heap.size, 3, none⟩ (.slice a k.kids.length cc) := ⟨_, rfl⟩
        have hx2 : W2.heap[w.heap.size]? = some (.cells #[.int .i64 7, .string ⟨k.name.toArray⟩, .slice an k.kids.length cn, .slice a k.kids.length cc] 64 (0, 0)) := by rw [hW2]; exact set_four HN6.out
        have hk2 : Keeps (fun g => g = w.heap.size) W6 W2 := by rw [hW2]; exact ((((Keeps.refl (fun g => g = w.heap.size) _).setCell 0 _ rfl).setCell 1 _ rfl).setCell 2 _ rfl).setCell 3 _ rfl
        rw [← hW2]
        refine bodyPost_ret (results_cell_row rfl _ W2 w.heap.size 64 _ (0, 0) _ rfl hx2 Try.underlying64 rfl (by kernel_rfl)) rfl ?_
        have hz2 := hk2.size
        refine ⟨an, cn, a, cc, by rw [HNL.out, hkd], ?_, ?_, ?_⟩
        · exact HRN.out.keep (fun g hg => ⟨by have := hg.1; omega, by have := hg.2; omega⟩) (fun g hg => (hk2.block g (by have := hg.2; omega) (by have := hg.1; omega)).trans (HK6.out.block g hg.2 (by have := hg.1; omega)))
        · exact HROW.out.keep (fun g hg => ⟨by have := hg.1; omega, by have := hg.2.1; omega⟩) (fun g hg => (hk2.block g (by have := hg.2.1; omega) (by have := hg.1; omega)).trans ((HK6.out.block g (by have := hg.2.1; omega) (hg.2.2 (by trivial))).trans ((HB5.out.block g (by have := hg.2.1; omega)).trans (HSD.out g))))
        · exact HB1.out.trans ((HBD.out.mono (by omega)).trans ((HB5.out.mono (by omega)).trans ((HK6.out.below (by omega) (fun g e => by omega)).trans (hk2.below (by omega) (fun g e => by omega)))))
      · have t7 : (k.kind == 7) = false := by rw [beq_eq_false_iff_ne]; omega
        have h7 : ¬ k.kind = 7 := by omega
        have t8 : (k.kind == 8) = true := by simpa using hkd
        have hc0 := hkd
        go_upto_region 3 with fail
        refine wp_region_still_tail 8 (by kernel_rfl) (by kernel_rfl) ?_
        obtain ⟨Wd, hWd⟩ : ∃ Wd : World, Wd = { W1 with drawn := W1.drawn + 1 } := ⟨_, rfl⟩
        rw [← hWd]
        have hsd : ∀ g : Nat, Wd.heap[g]? = W1.heap[g]? := fun g => by rw [hWd]
        have hzd : Wd.heap.size = W1.heap.size := by rw [hWd]
        have hbd : Below W1.heap.size W1 Wd := by rw [hWd]; exact Below.drew (Below.refl _ _)
        have hkd1 := HK1.out.keep (hsd kb)
        have hxd := (hsd xb).trans HM3.out
        have hnd := (hsd w.heap.size).trans HN1.out
        clear c0 c1 c2 z0 z1 z2 z3 g0 g1 g2 g3 y0 y1 y2 y3 f0 f1 f2 f3 hWd
        obtain ⟨c0, c1, c2⟩ := hkd1.three
        have HKD := Lib.hid hkd1; have HXD := Lib.hid hxd; have HND := Lib.hid hnd; have HSD := Lib.hid hsd; have HBD := Lib.hid hbd
        clear hkd1 hxd hnd hsd hbd
        simp only [List.take_succ_cons, List.take_zero, List.drop_succ_cons, List.drop_zero]
        iterate 8 still_step
        refine wpStill_nil ?_
        refine Sh.wpList_append_fresh rfl _ _ 22 rfl Wd.heap.size 9 is (.string ⟨#[]⟩) 1 16 Try.underlying22 HIs.out HJs.out HKs.out HLs.out rfl (by decide) (.slice none 0 0) 0 [] rfl (World.ownsRow_nil _ _ _ _) ⟨kb, o + 3, none⟩ k.kids.length 8 (k.names.map str) rfl (by simp [HNL.out]) (HKD.out.names HWF.out) (fun u hu => by obtain ⟨y, _, rfl⟩ := List.mem_map.1 hu; rfl) (by unfold maxLen; omega) (by omega) (Nat.le_refl _) ?_
        intro sv w5 hown hg _
        rw [Nat.zero_add, List.nil_append] at hown
        have hb5 := below_grown (B := Wd.heap.size) hg (fun g e => by cases e) (Nat.le_refl _)
        have hz5 := hb5.size
        obtain ⟨an, cn, rfl, hrn⟩ := RowV.own (l := k.names.map fun n => [str n]) (S := fun g => Wd.heap.size ≤ g ∧ g < w5.heap.size) (by rw [show (k.names.map fun n => [str n]).flatten = k.names.map str by induction k.names with | nil => rfl | cons a l ih => simp [ih]]; exact hown) (str1_len k.names) (by simp [HNL.out]) (fun g e => hown.lt g e)
        have hx5 := (hb5.block xb (by omega)).trans HXD.out
        have hn5 := (hb5.block w.heap.size (by omega)).trans HND.out
        obtain ⟨⟨z0, z1, z2, z3⟩, ⟨g0, g1, g2, g3⟩⟩ := four_blk hx5
        have HB5 := Lib.hid hb5; have HRN := Lib.hid hrn; have HN5 := Lib.hid hn5; have HX5 := Lib.hid hx5
        clear hb5 hrn hn5 hx5 hown hg c0 c1 c2
        simp only [Act.put]
        refine wpList_runV (w' := w5) rfl (.pointer (some ⟨xb, 2, none⟩)) (by simp [execOp, go_sem]) ?_
        refine wpList_runU (w' := w5.setCell ⟨xb, 2, none⟩ (.slice an k.kids.length cn)) rfl (by simp [execOp, go_sem, z2, g2]) ?_
        refine wpList_nil ?_
        simp only [Act.put]
        obtain ⟨W6, hW6⟩ : ∃ W6, W6 = w5.setCell ⟨xb, 2, none⟩ (.slice an k.kids.length cn) := ⟨_, rfl⟩
        have hx6 : W6.heap[xb]? = some (.cells #[.int .i64 k.kind, .string ⟨k.name.toArray⟩, .slice an k.kids.length cn, .slice a k.kids.length cc] 64 (0, 0)) := by rw [hW6]; exact set_four2 HX5.out _
        have hk6 : Keeps (fun g => g = xb) w5 W6 := by rw [hW6]; exact (Keeps.refl (fun g => g = xb) _).setCell 2 _ rfl
        have hn6 := (hk6.block w.heap.size (by omega) (by omega)).trans HN5.out
        have hz6 := hk6.size
        rw [← hW6]
        clear hW6 z0 z1 z2 z3 g0 g1 g2 g3
        obtain ⟨⟨z0, z1, z2, z3⟩, ⟨g0, g1, g2, g3⟩⟩ := four_blk hx6
        obtain ⟨⟨y0, y1, y2, y3⟩, ⟨f0, f1, f2, f3⟩⟩ := four_blk hn6
        have HK6 := Lib.hid hk6; have HN6 := Lib.hid hn6
        clear hk6 hn6 hx6
        go_wp2
        obtain ⟨W2, hW2⟩ : ∃ W2, W2 = (((W6.setCell ⟨w.heap.size, 0, none⟩ (.int .i64 8)).setCell ⟨w.heap.size, 1, none⟩ (.string ⟨k.name.toArray⟩)).setCell ⟨w.heap.size, 2, none⟩ (.slice an k.kids.length cn)).setCell ⟨w.heap.size, 3, none⟩ (.slice a k.kids.length cc) := ⟨_, rfl⟩
        have hx2 : W2.heap[w.heap.size]? = some (.cells #[.int .i64 8, .string ⟨k.name.toArray⟩, .slice an k.kids.length cn, .slice a k.kids.length cc] 64 (0, 0)) := by rw [hW2]; exact set_four HN6.out
        have hk2 : Keeps (fun g => g = w.heap.size) W6 W2 := by rw [hW2]; exact ((((Keeps.refl (fun g => g = w.heap.size) _).setCell 0 _ rfl).setCell 1 _ rfl).setCell 2 _ rfl).setCell 3 _ rfl
        rw [← hW2]
        refine bodyPost_ret (results_cell_row rfl _ W2 w.heap.size 64 _ (0, 0) _ rfl hx2 Try.underlying64 rfl (by kernel_rfl)) rfl ?_
        have hz2 := hk2.size
        refine ⟨an, cn, a, cc, by rw [HNL.out, hkd], ?_, ?_, ?_⟩
        · exact HRN.out.keep (fun g hg => ⟨by have := hg.1; omega, by have := hg.2; omega⟩) (fun g hg => (hk2.block g (by have := hg.2; omega) (by have := hg.1; omega)).trans (HK6.out.block g hg.2 (by have := hg.1; omega)))
        · exact HROW.out.keep (fun g hg => ⟨by have := hg.1; omega, by have := hg.2.1; omega⟩) (fun g hg => (hk2.block g (by have := hg.2.1; omega) (by have := hg.1; omega)).trans ((HK6.out.block g (by have := hg.2.1; omega) (hg.2.2 (by trivial))).trans ((HB5.out.block g (by have := hg.2.1; omega)).trans (HSD.out g))))
        · exact HB1.out.trans ((HBD.out.mono (by omega)).trans ((HB5.out.mono (by omega)).trans ((HK6.out.below (by omega) (fun g e => by omega)).trans (hk2.below (by omega) (fun g e => by omega)))))
    · have hn0 : k.names = [] := by have := HWF.out.form; rw [if_neg hkd] at this; exact List.eq_nil_of_length_eq_zero this
      have h7 : ¬ k.kind = 7 := fun h => hkd (.inl h)
      have h8 : ¬ k.kind = 8 := fun h => hkd (.inr h)
      have t7 : (k.kind == 7) = false := by simpa using h7
      have t8 : (k.kind == 8) = false := by simpa using h8
      clear hkd
      have HH := Lib.hid hn0
      clear hn0
      go_wp2
      obtain ⟨W2, hW2⟩ : ∃ W2, W2 = (((W1.setCell ⟨w.heap.size, 0, none⟩ (.int .i64 k.kind)).setCell ⟨w.heap.size, 1, none⟩ (.string ⟨k.name.toArray⟩)).setCell ⟨w.heap.size, 2, none⟩ (.slice none 0 0)).setCell ⟨w.heap.size, 3, none⟩ (.slice a k.kids.length cc) := ⟨_, rfl⟩
      have hx2 : W2.heap[w.heap.size]? = some (.cells #[.int .i64 k.kind, .string ⟨k.name.toArray⟩, .slice none 0 0, .slice a k.kids.length cc] 64 (0, 0)) := by rw [hW2]; exact set_four HN1.out
      have hk2 : Keeps (fun g => g = w.heap.size) W1 W2 := by rw [hW2]; exact ((((Keeps.refl (fun g => g = w.heap.size) _).setCell 0 _ rfl).setCell 1 _ rfl).setCell 2 _ rfl).setCell 3 _ rfl
      rw [← hW2]
      refine bodyPost_ret (results_cell_row rfl _ W2 w.heap.size 64 _ (0, 0) _ rfl hx2 Try.underlying64 rfl (by kernel_rfl)) rfl ?_
      have hz2 := hk2.size
      refine ⟨none, 0, a, cc, by rw [HH.out]; rfl, .inl (by rw [HH.out]; rfl), HROW.out.keep (fun g hg => ⟨by have := hg.1; omega, by have := hg.2.1; omega⟩) (fun g hg => hk2.block g hg.2.1 (by have := hg.1; omega)), HB1.out.trans (hk2.below (by omega) (fun g e => by omega))⟩
end Sp
end Go.Proofs.Ytjjpjkkaogfoaaa

namespace Go.Proofs.Ytjjpjkkaogfoaaa
open Go.RowKit
namespace Sp
open Sc
set_option maxRecDepth 100000

theorem flat19 (T : List Kz) : T.flatMap Kz.cells = (T.map Kz.cells).flatten := by rw [List.flatMap_def]
theorem cells19 (T : List Kz) : ∀ x ∈ T.map Kz.cells, x.length = 19 := fun x hx => by obtain ⟨y, _, rfl⟩ := List.mem_map.1 hx; rfl
theorem TabV.at {w : World} {tb rb nb mb sb m : Nat} {ty nu : Value} {T : List Kz} (h : TabV w tb rb nb mb sb m ty nu T) {i : Nat} (hi : i < T.length) : ∃ cap, ty = .slice (some ⟨rb, 0, none⟩) T.length cap ∧ rb < w.heap.size ∧ KeyAt w rb (i * 19) T[i] := by
  rcases h.row with ⟨e, -, -⟩ | ⟨cap, e⟩
  · rw [e] at hi; cases hi
  · have ho := h.own
    rw [e, flat19] at ho
    refine ⟨cap, e, (ho.lt rb rfl).2, fun j v hv => ?_⟩
    have a := ho.cells (g := rb) rfl _ v (flat_at (T.map Kz.cells) (cells19 T) i (by simpa using hi) j v (by simpa using hv))
    have e2 : (⟨rb, 0, none⟩ : Addr).add (i * 19 + j) = ⟨rb, i * 19 + j, none⟩ := by unfold Addr.add; split <;> simp_all
    rw [e2] at a
    exact a
set_option maxHeartbeats 4000000 in
theorem tnode_in (i : Nat) (w : World) (tb rb nb mb sb m : Nat) (ty nu : Value) (T : List Kz) (hT : TabV w tb rb nb mb sb m ty nu T) (hi : i < T.length) :
    Calls Try.prog 30 #[.pointer (some ⟨tb, 0, none⟩), .int .i64 i] w fun e w' => ∃ an cn ak ck, e = .returned (.tuple #[.agg #[.int .i64 T[i].kind, .string ⟨T[i].name.toArray⟩, .slice an T[i].names.length cn, .slice ak T[i].kids.length ck], .bool true]) ∧
      RowV w' (fun g => w.heap.size ≤ g ∧ g < w'.heap.size) an 1 (T[i].names.map fun n => [str n]) ∧ RowV w' (fun g => w.heap.size ≤ g ∧ g < w'.heap.size) ak 1 (T[i].kids.map fun (j : Nat) => [Value.int .i64 (j : Nat)]) ∧ Below w.heap.size w w' := by
  obtain ⟨W0, hW0⟩ : ∃ W0, W0 = w.alloc (.cells nodZ 64) := ⟨_, rfl⟩
  have hz0 : W0.heap.size = w.heap.size + 1 := by rw [hW0]; simp
  have hb0 : Below w.heap.size w W0 := by rw [hW0]; exact (Below.refl _ _).alloc (Nat.le_refl _) _
  have hn0 : W0.heap[w.heap.size]? = some (.cells nodZ 64 (0, 0)) := by rw [hW0]; exact heap_alloc_new w _
  have hT0 := hT.below hb0
  have CH := thas_any i W0 tb rb nb mb sb m ty nu T hT0
  have htr : (decide (0 ≤ (i : Int)) && decide ((i : Int) < (T.length : Nat))) = true := by simp; omega
  rw [htr] at CH
  have hwf := (hT.fit T[i] (List.getElem_mem hi)).toWfK
  have htb := hT0.tlt
  have hti : (i : Int) < (T.length : Int) := by omega
  obtain ⟨cap, rfl, hrb, -⟩ := hT0.at hi
  have HKA : Hid (∀ W, Below W0.heap.size W0 W → KeyAt W rb (i * 19) T[i]) := fun W hW => by obtain ⟨_, _, _, h⟩ := (hT0.below hW).at hi; exact h
  have HWF := Lib.hid hwf; have HCH := Lib.hid CH; have HN0 := Lib.hid hn0; have HB0 := Lib.hid hb0; have HT0 := Lib.hid hT0; have HW0 := Lib.hid hW0
  generalize T[i] = k at *
  clear hwf CH hn0 hb0 hT0 hW0 hT htr
  go_enter Try.func30, Try.ntmps30
  go_upto_region 1 with fail
  rw [show w.alloc (.cells #[.int .i64 0, .string ⟨#[]⟩, .slice none 0 0, .slice none 0 0] 64) = W0 from HW0.out.symm]
  go_upto_region 3 with (go_at_call 56; (refine HCH.out.mono ?_); rintro e w1 ⟨rfl, b1⟩; have hz1 := b1.size; have HB1 := Lib.hid b1; clear b1)
  obtain ⟨⟨t0, -, -, -, -⟩, -⟩ := five_blkF (HT0.out.below HB1.out).box
  go_wp2_with (go_at_call 57; (refine (knode_any k w1 rb (i * 19) (by omega) (HKA.out w1 HB1.out) HWF.out).mono ?_); rintro e w2 ⟨an, cn, ak, ck, rfl, r1, r2, b2⟩; have hz2 := b2.size; obtain ⟨⟨y0, y1, y2, y3⟩, ⟨f0, f1, f2, f3⟩⟩ := four_blk ((b2.block w.heap.size (by omega)).trans ((HB1.out.block w.heap.size (by omega)).trans HN0.out)); have HR1 := Lib.hid r1; have HR2 := Lib.hid r2; have HB2 := Lib.hid b2; clear r1 r2 b2)
  obtain ⟨W2, hW2⟩ : ∃ W2, W2 = (((w2.setCell ⟨w.heap.size, 0, none⟩ (.int .i64 k.kind)).setCell ⟨w.heap.size, 1, none⟩ (.string ⟨k.name.toArray⟩)).setCell ⟨w.heap.size, 2, none⟩ (.slice an k.names.length cn)).setCell ⟨w.heap.size, 3, none⟩ (.slice ak k.kids.length ck) := ⟨_, rfl⟩
  have hx2 : W2.heap[w.heap.size]? = some (.cells #[.int .i64 k.kind, .string ⟨k.name.toArray⟩, .slice an k.names.length cn, .slice ak k.kids.length ck] 64 (0, 0)) := by
    rw [hW2]
    exact set_four ((HB2.out.block w.heap.size (by omega)).trans ((HB1.out.block w.heap.size (by omega)).trans HN0.out))
  have hk2 : Keeps (fun g => g = w.heap.size) w2 W2 := by rw [hW2]; exact ((((Keeps.refl (fun g => g = w.heap.size) _).setCell 0 _ rfl).setCell 1 _ rfl).setCell 2 _ rfl).setCell 3 _ rfl
  rw [← hW2]
  have hl := run_loadVar_row (P := Try.prog) W2 w.heap.size 64 64 _ (0, 0) _ hx2 Try.underlying64 rfl (by kernel_rfl)
  have hz2' := hk2.size
  refine bodyPost_ret (v := .tuple #[.agg #[.int .i64 k.kind, .string ⟨k.name.toArray⟩, .slice an k.names.length cn, .slice ak k.kids.length ck], .bool true]) (by rw [results_cell_tmp rfl]; simp [asAddr, hl]) rfl ?_
  exact ⟨an, cn, ak, ck, rfl, HR1.out.keep (fun g hg => ⟨by have := hg.1; omega, by have := hg.2; omega⟩) (fun g hg => hk2.block g hg.2 (by have := hg.1; omega)), HR2.out.keep (fun g hg => ⟨by have := hg.1; omega, by have := hg.2; omega⟩) (fun g hg => hk2.block g hg.2 (by have := hg.1; omega)),
    HB0.out.trans ((HB1.out.mono (by omega)).trans ((HB2.out.mono (by omega)).trans (hk2.below (by omega) (fun g e => by omega))))⟩
set_option maxHeartbeats 4000000 in
theorem tnode_out (i : Int) (w : World) (tb rb nb mb sb m : Nat) (ty nu : Value) (T : List Kz) (hT : TabV w tb rb nb mb sb m ty nu T) (hi : ¬ (0 ≤ i ∧ i < (T.length : Int))) :
    Calls Try.prog 30 #[.pointer (some ⟨tb, 0, none⟩), .int .i64 i] w fun e w' => e = .returned (.tuple #[.agg nodZ, .bool false]) ∧ Below w.heap.size w w' := by
  obtain ⟨W0, hW0⟩ : ∃ W0, W0 = w.alloc (.cells nodZ 64) := ⟨_, rfl⟩
  have hz0 : W0.heap.size = w.heap.size + 1 := by rw [hW0]; simp
  have hb0 : Below w.heap.size w W0 := by rw [hW0]; exact (Below.refl _ _).alloc (Nat.le_refl _) _
  have hn0 : W0.heap[w.heap.size]? = some (.cells nodZ 64 (0, 0)) := by rw [hW0]; exact heap_alloc_new w _
  have CH := thas_any i W0 tb rb nb mb sb m ty nu T (hT.below hb0)
  have htr : (decide (0 ≤ i) && decide (i < (T.length : Nat))) = false := by simp; omega
  rw [htr] at CH
  have HCH := Lib.hid CH; have HN0 := Lib.hid hn0; have HB0 := Lib.hid hb0; have HW0 := Lib.hid hW0
  clear CH hn0 hb0 hW0 hT htr hi
  go_enter Try.func30, Try.ntmps30
  go_upto_region 1 with fail
  rw [show w.alloc (.cells #[.int .i64 0, .string ⟨#[]⟩, .slice none 0 0, .slice none 0 0] 64) = W0 from HW0.out.symm]
  go_wp2_with (go_at_call 56; (refine HCH.out.mono ?_); rintro e w2 ⟨rfl, b1⟩; have hz1 := b1.size; obtain ⟨⟨y0, y1, y2, y3⟩, ⟨f0, f1, f2, f3⟩⟩ := four_blk ((b1.block w.heap.size (by omega)).trans HN0.out); have HB1 := Lib.hid b1; clear b1)
  obtain ⟨W2, hW2⟩ : ∃ W2, W2 = (((w2.setCell ⟨w.heap.size, 0, none⟩ (.int .i64 0)).setCell ⟨w.heap.size, 1, none⟩ (.string ⟨#[]⟩)).setCell ⟨w.heap.size, 2, none⟩ (.slice none 0 0)).setCell ⟨w.heap.size, 3, none⟩ (.slice none 0 0) := ⟨_, rfl⟩
  have hx2 : W2.heap[w.heap.size]? = some (.cells nodZ 64 (0, 0)) := by
    rw [hW2]
    exact set_four ((HB1.out.block w.heap.size (by omega)).trans HN0.out)
  have hk2 : Keeps (fun g => g = w.heap.size) w2 W2 := by rw [hW2]; exact ((((Keeps.refl (fun g => g = w.heap.size) _).setCell 0 _ rfl).setCell 1 _ rfl).setCell 2 _ rfl).setCell 3 _ rfl
  rw [← hW2]
  have hl := run_loadVar_row (P := Try.prog) W2 w.heap.size 64 64 _ (0, 0) _ hx2 Try.underlying64 rfl (by kernel_rfl)
  refine bodyPost_ret (v := .tuple #[.agg nodZ, .bool false]) (by rw [results_cell_tmp rfl]; simp [asAddr, hl]) rfl ?_
  exact ⟨rfl, HB0.out.trans ((HB1.out.mono (by omega)).trans (hk2.below (by omega) (fun g e => by omega)))⟩
set_option maxHeartbeats 4000000 in
theorem topen_any (i f0 r : Nat) (w : World) (tb rb nb mb sb m : Nat) (ty nu : Value) (T : List Kz) (N : List NN) (hT : TabV w tb rb nb mb sb m ty nu T) (hN : TxtV w mb (encNN N)) (hi : i < T.length) (hr : openK T N f0 i = r) (hr9 : (T.getD r default).kind ≠ 9) (hL : ∀ k ∈ T, k.kind = 9 → lookN N k.name < T.length) :
    Calls Try.prog 31 #[.pointer (some ⟨tb, 0, none⟩), .int .i64 i] w fun e w' => e = .returned (.tuple #[.int .i64 r, .bool true]) ∧ Below w.heap.size w w' := by
  have CH := thas_any i w tb rb nb mb sb m ty nu T hT
  have htr : (decide (0 ≤ (i : Int)) && decide ((i : Int) < (T.length : Nat))) = true := by simp; omega
  rw [htr] at CH
  have htb := hT.tlt
  obtain ⟨cap, rfl, hrb, -⟩ := hT.at hi
  have HT := Lib.hid hT; have HN := Lib.hid hN; have HR := Lib.hid hr; have HR9 := Lib.hid hr9; have HL := Lib.hid hL; have HCH := Lib.hid CH
  clear CH hT hN hr hr9 hL htr
  go_enter Try.func31, Try.ntmps31
  go_wp2_with (go_at_call 56; (refine HCH.out.mono ?_); rintro e w1 ⟨rfl, b1⟩; have hz1 := b1.size; have HB1 := Lib.hid b1; clear b1)
  go_loopg [1] (f0 + 1) (fun gg iv wr => ∃ j f : Nat, iv = .int .i64 j ∧ f + 1 ≤ gg ∧ j < T.length ∧ Hid (openK T N f j = r) ∧ Below w.heap.size w wr)
  case atStart => exact ⟨i, f0, rfl, Nat.le_refl _, hi, HR, HB1.out⟩
  case round =>
    obtain ⟨j, f, rfl, hf, hj, hq, hb⟩ := hrel
    have hTr := HT.out.below hb
    obtain ⟨cap2, hty, -, hka⟩ := hTr.at hj
    cases hty
    obtain ⟨c0, c1, -⟩ := hka.three
    obtain ⟨⟨t0, -, t2, -, -⟩, -⟩ := five_blkF hTr.box
    have hkf := HT.out.fit T[j] (List.getElem_mem hj)
    have hlk : ∀ n, (Instr.lookup 98 (.map (some mb)) (.string ⟨T[j].name.toArray⟩) false).run Try.prog (wr.drewN n) = .ok (.int .i64 (lookN N T[j].name : Nat)) (wr.drewN n) := fun n => by
      have h := (show TxtV (wr.drewN n) mb (encNN N) from (HN.out.below hb).same rfl).at Try.underlying98 (zeroI _) T[j].name (le_max hkf.nm)
      rw [look_encNN] at h
      exact h
    have e : T.getD j default = T[j] := by rw [List.getD, List.getElem?_eq_getElem hj]; rfl
    have hjz : (j : Int) < (T.length : Int) := by omega
    by_cases h9 : T[j].kind = 9
    · have hlt := HL.out T[j] (List.getElem_mem hj) h9
      obtain ⟨f', rfl⟩ : ∃ f2, f = f2 + 1 := by
        cases f with
        | zero =>
          have h := hq.out
          rw [openK] at h
          rw [← h, e] at HR9
          exact absurd h9 HR9.out
        | succ f2 => exact ⟨f2, rfl⟩
      have hq2 : openK T N f' (lookN N T[j].name) = r := by
        have h := hq.out
        rw [openK_step T N f' j (by rw [e]; exact h9), e] at h
        exact h
      have HQ2 := Lib.hid hq2; have HB := Lib.hid hb
      rw [h9] at c0
      generalize T[j].name = nm at *
      generalize lookN N nm = l at *
      clear hTr hka hkf e h9 hq hq2 hb
      go_upto_region 4 with fail
      go_quiet (fail)
      go_wp2
      go_roundg (f' + 1)
      case measure => omega
      case rel => exact ⟨l, f', rfl, Nat.le_refl _, hlt, HQ2, HB.out.os, HB.out.tape, HB.out.output, HB.out.size, HB.out.block⟩
    · have hq2 : j = r := by rw [← hq.out]; exact (openK_stop T N f j (by rw [e]; exact h9)).symm
      have t9 : (T[j].kind == 9) = false := by simpa using h9
      generalize T[j].kind = kd at *
      have HB := Lib.hid hb; have HQ := Lib.hid hq2
      clear hTr hka hkf e hq hq2 hb
      go_wp2
      go_ret2
      exact ⟨by rw [HQ.out]; rfl, HB.out⟩
end Sp
end Go.Proofs.Ytjjpjkkaogfoaaa

namespace Go.Proofs.Ytjjpjkkaogfoaaa
open Go.RowKit
namespace Sp
open Sc
set_option maxRecDepth 100000

theorem SchO.since {w : World} {z : Nat} {s : Sz} {c : C4} {a1 a2 : Option Addr} {n1 n2 : Nat} {us : List (List UInt8 × C4)} {gs : List (List UInt8 × G6)} (h : SchO w z s c (.slice a1 s.types.length n1) us (.slice a2 s.sigs.length n2) gs) : SzV w (fun g => z ≤ g ∧ g < w.heap.size) s c a1 us a2 gs := by
  have hS : ∀ g, Free w (List.range z) [.slice a1 s.types.length n1, .slice a2 s.sigs.length n2] g → z ≤ g ∧ g < w.heap.size := fun g hg => ⟨by have := hg.2.1; simp at this; omega, hg.1⟩
  obtain ⟨b1, d1, e1, r1⟩ := RowV.own (l := us.map encZ) (S := fun g => z ≤ g ∧ g < w.heap.size) (by have h0 := h.town; rw [List.flatMap_def] at h0; exact h0) (encZ_len us) (by simp) (fun g e => h.town.lt g e)
  obtain ⟨b2, d2, e2, r2⟩ := RowV.own (l := gs.map encG) (S := fun g => z ≤ g ∧ g < w.heap.size) (by have h0 := h.sown; rw [List.flatMap_def] at h0; exact h0) (encG_len gs) (by simp) (fun g e => h.sown.lt g e)
  simp only [Value.slice.injEq] at e1 e2
  obtain ⟨rfl, -, -⟩ := e1
  obtain ⟨rfl, -, -⟩ := e2
  exact ⟨h.main.keep hS (fun _ _ => rfl), h.tlen, r1, fun i h1 h2 => ⟨(h.tval i h1 h2).1, (h.tval i h1 h2).2.keep hS (fun _ _ => rfl)⟩, h.slen, r2, fun i h1 h2 => (h.sval i h1 h2).step fun g hg => ⟨hS g hg, rfl⟩⟩
theorem SzV.keepS {w w' : World} {S S' : Nat → Prop} {s : Sz} {c : C4} {a1 a2 : Option Addr} {us : List (List UInt8 × C4)} {gs : List (List UInt8 × G6)} (h : SzV w S s c a1 us a2 gs) (hk : ∀ g, S g → w'.heap[g]? = w.heap[g]?) (hS : ∀ g, S g → S' g) : SzV w' S' s c a1 us a2 gs :=
  ⟨h.main.keep hS hk, h.nt, h.rt.keep hS hk, fun i h1 h2 => ⟨(h.vt i h1 h2).1, (h.vt i h1 h2).2.keep hS hk⟩, h.ng, h.rg.keep hS hk, fun i h1 h2 => (h.vg i h1 h2).step fun g hg => ⟨hS g hg, hk g hg⟩⟩
/-- Good's variable: what is answered. -/
structure GdM (W2 : World) (gb : Nat) (sc : Array Value) (b4 : Bool) (v : World) : Prop where
  keeps : Keeps (fun g => g = gb) W2 v
  low : b4 = false → Below W2.heap.size W2 v
  at_ : b4 = true → v.heap[gb]? = some (.cells sc 29 (0, 0))
theorem _root_.Go.RowKit.Below.gd {W2 v w' : World} {gb : Nat} {sc : Array Value} (h : Below W2.heap.size W2 v) (hb : Below v.heap.size v w') : GdM W2 gb sc false w' :=
  ⟨Keeps.of_below (h.trans (hb.mono h.size)), fun _ => h.trans (hb.mono h.size), (fun e => by cases e)⟩
theorem _root_.Go.RowKit.Below.gdPut {W2 v : World} {gb : Nat} {v0 v1 v2 v3 v4 v5 : Value} (h : Below W2.heap.size W2 v) (hg : v.heap[gb]? = some (.cells #[.int .i64 0, .string ⟨#[]⟩, .slice none 0 0, .slice none 0 0, .slice none 0 0, .slice none 0 0] 29 (0, 0))) :
    GdM W2 gb #[v0, v1, v2, v3, v4, v5] true ((((((v.setCell ⟨gb, 0, none⟩ v0).setCell ⟨gb, 1, none⟩ v1).setCell ⟨gb, 2, none⟩ v2).setCell ⟨gb, 3, none⟩ v3).setCell ⟨gb, 4, none⟩ v4).setCell ⟨gb, 5, none⟩ v5) :=
  ⟨(((((((Keeps.of_below h : Keeps (fun g => g = gb) W2 v).setCell 0 _ rfl).setCell 1 _ rfl).setCell 2 _ rfl).setCell 3 _ rfl).setCell 4 _ rfl).setCell 5 _ rfl), (fun e => by cases e), fun _ => by unfold World.setCell; simp [Array.getElem?_modify, hg]⟩
set_option maxHeartbeats 8000000 in
theorem Good_any (main : Rw) (types sigs : List Rw) (cm : R4) (at1 as1 : Option Addr) (ut ug : List R4) (c1 c2 : Nat) (w : World) (hM : RwV w main cm) (hT : RwsV w types at1 ut) (hG : RwsV w sigs as1 ug) (hl : types.length ≤ maxLen) (hl2 : sigs.length ≤ maxLen) (hft : (schR main types sigs).types.length ≤ 1000000) (hfs : (schR main types sigs).sigs.length ≤ 1000000) (hfit : SzFit (schR main types sigs)) :
    Calls Try.prog 24 #[.agg #[.int .i64 cm.k, .int .i64 cm.n, .slice cm.an cm.ln cm.cn, .slice cm.ak cm.lk cm.ck], .slice at1 types.length c1, .slice as1 sigs.length c2] w fun e w' => ∃ (c : C4) (a1 : Option Addr) (n1 : Nat) (us : List (List UInt8 × C4)) (a2 : Option Addr) (n2 : Nat) (gs : List (List UInt8 × G6)),
      e = .returned (.tuple #[.agg #[.int .i64 c.k, .string c.n, .slice c.an c.ln c.cn, .slice c.ak c.lk c.ck, .slice a1 (schR main types sigs).types.length n1, .slice a2 (schR main types sigs).sigs.length n2], .bool (decide (refC (schR main types sigs) = 0))]) ∧ SzV w' (fun g => w.heap.size ≤ g ∧ g < w'.heap.size) (schR main types sigs) c a1 us a2 gs ∧ Below w.heap.size w w' := by
  obtain ⟨W0, hW0⟩ : ∃ W0, W0 = (w.alloc (.cells #[.int .i64 cm.k, .int .i64 cm.n, .slice cm.an cm.ln cm.cn, .slice cm.ak cm.lk cm.ck] 33)).alloc (.cells #[.int .i64 0, .string ⟨#[]⟩, .slice none 0 0, .slice none 0 0, .slice none 0 0, .slice none 0 0] 29) := ⟨_, rfl⟩
  have hbw0 : Below w.heap.size w W0 := by rw [hW0]; exact ((Below.refl _ _).alloc (Nat.le_refl _) _).alloc (by simp) _
  have hz0 : W0.heap.size = w.heap.size + 2 := by rw [hW0]; simp
  have hs0 : W0.heap[w.heap.size]? = some (.cells #[.int .i64 cm.k, .int .i64 cm.n, .slice cm.an cm.ln cm.cn, .slice cm.ak cm.lk cm.ck] 33 (0, 0)) := by rw [hW0, blk_if, if_neg (by simp), blk_if, if_pos rfl]
  have hg0 : W0.heap[w.heap.size + 1]? = some (.cells #[.int .i64 0, .string ⟨#[]⟩, .slice none 0 0, .slice none 0 0, .slice none 0 0, .slice none 0 0] 29 (0, 0)) := by rw [hW0, blk_if, if_pos (by simp)]
  have CS := Schema_any main types sigs cm at1 as1 ut ug c1 c2 W0 (hM.later hbw0) (hT.up hbw0) (hG.up hbw0) hl hl2
  generalize schR main types sigs = s at *
  obtain ⟨b0, hb0⟩ : ∃ b0 : Bool, decide (refC s = 0) = b0 := ⟨_, rfl⟩
  rw [hb0]
  have hb1 : ((refC s : Int) == 0) = b0 := by rw [← hb0, Bool.eq_iff_iff]; simp
  have HCS := Lib.hid CS; have HW0 := Lib.hid hW0; have HB0 := Lib.hid hbw0; have HG0 := Lib.hid hg0; have HFIT := Lib.hid hfit
  obtain ⟨⟨p0, p1, p2, p3⟩, _⟩ := four_blk hs0
  clear CS hW0 hbw0 hg0 hs0 hM hT hG hl hl2 hfit
  go_enter Try.func24, Try.ntmps24
  go_upto_region 1 with fail
  rw [← HW0.out]
  go_upto_region 2 with (go_at_call 15; (with_reducible refine HCS.out.mono ?_); rintro e w1 ⟨c, a1, n1, us, a2, n2, gs, rfl, hso, x1⟩; have hz1 := x1.size; have HSO := Lib.hid hso; have HX1 := Lib.hid x1; clear hso x1)
  obtain ⟨sb, hsb⟩ : ∃ sb, sb = w1.heap.size := ⟨_, rfl⟩
  obtain ⟨W2, hW2⟩ : ∃ W2, W2 = w1.alloc (.cells #[.int .i64 c.k, .string c.n, .slice c.an c.ln c.cn, .slice c.ak c.lk c.ck, .slice a1 s.types.length n1, .slice a2 s.sigs.length n2] 29) := ⟨_, rfl⟩
  have hz2 : W2.heap.size = w1.heap.size + 1 := by rw [hW2]; simp
  have hb2 : Below w1.heap.size w1 W2 := by rw [hW2]; exact (Below.refl _ _).alloc (Nat.le_refl _) _
  have hs2 : W2.heap[sb]? = some (.cells #[.int .i64 c.k, .string c.n, .slice c.an c.ln c.cn, .slice c.ak c.lk c.ck, .slice a1 s.types.length n1, .slice a2 s.sigs.length n2] 29 (0, 0)) := by rw [hW2, hsb]; exact heap_alloc_new w1 _
  have hg2 := (hb2.block (w.heap.size + 1) (by omega)).trans ((HX1.out.block (w.heap.size + 1) (by omega)).trans HG0.out)
  have hv2 : SzV W2 (fun g => W0.heap.size ≤ g ∧ g < w1.heap.size) s c a1 us a2 gs := HSO.out.since.keep fun g hg => hb2.block g hg.2
  have hck : ∀ v, Below W2.heap.size W2 v → Calls Try.prog 17 #[.agg #[.int .i64 c.k, .string c.n, .slice c.an c.ln c.cn, .slice c.ak c.lk c.ck, .slice a1 s.types.length n1, .slice a2 s.sigs.length n2]] v fun e w' => e = .returned (.int .i64 (refC s : Nat)) ∧ Below v.heap.size v w' := fun v hv =>
    Check_ref (fun g => W0.heap.size ≤ g ∧ g < w1.heap.size) s c a1 a2 us gs n1 n2 v (fun g hg => by have := hv.size; have := hg.2; omega) (hv2.keep fun g hg => hv.block g (by have := hg.2; omega)) hft hfs HFIT.out
  rw [← hW2, ← hsb]
  have HS2 := Lib.hid hs2; have HG2 := Lib.hid hg2; have HV2 := Lib.hid hv2; have HCK := Lib.hid hck
  have HBW := Lib.hid (HB0.out.trans ((HX1.out.mono (by omega)).trans (hb2.mono (by omega))))
  have hsb1 : sb < W2.heap.size := by omega
  have hsb2 : w.heap.size + 1 < sb := by omega
  have hzw : w.heap.size + 1 < W2.heap.size := by omega
  clear hs2 hg2 hv2 hck hb2 hW2 p0 p1 p2 p3
  refine wp_region_by (QJ (fun (x : Unit) i => match i with | 0 => .agg #[.int .i64 c.k, .string c.n, .slice c.an c.ln c.cn, .slice c.ak c.lk c.ck, .slice a1 s.types.length n1, .slice a2 s.sigs.length n2] | 1 => .agg #[.int .i64 c.k, .string c.n, .slice c.an c.ln c.cn, .slice c.ak c.lk c.ck, .slice a1 s.types.length n1, .slice a2 s.sigs.length n2] | 2 => .int .i64 (refC s : Nat) | 3 => .bool b0 | 4 => undef | 5 => .bool b0 | _ => undef) (fun _ listed v => GdM W2 (w.heap.size + 1) #[.int .i64 c.k, .string c.n, .slice c.an c.ln c.cn, .slice c.ak c.lk c.ck, .slice a1 s.types.length n1, .slice a2 s.sigs.length n2] (listed.getD 4 false) v)) (by kernel_rfl) ?_ ?_ ?_
  · exact ⟨by simp, Closed.start _, (), Fr.start _ _ _, ⟨Keeps.of_below (Below.drew (Below.refl _ _)), (fun _ => Below.drew (Below.refl _ _)), (fun h => by simp at h)⟩⟩
  · intro listed b v q hJ hi
    obtain ⟨hsz, hC, x, hF, hM⟩ := hJ
    have hMb : GdM W2 (w.heap.size + 1) #[.int .i64 c.k, .string c.n, .slice c.an c.ln c.cn, .slice c.ak c.lk c.ck, .slice a1 s.types.length n1, .slice a2 s.sigs.length n2] (listed.getD 4 false) v := hM
    obtain ⟨hl1, hiN⟩ := not_up hsz hi
    obtain ⟨_, o, ho, hdeps⟩ := mem_ready.1 hi
    have hiN : q < 6 := hiN
    obtain rfl | rfl | rfl | rfl | rfl | rfl : q = 0 ∨ q = 1 ∨ q = 2 ∨ q = 3 ∨ q = 4 ∨ q = 5 := by omega
    · cases ho
      obtain ⟨⟨y0, y1, y2, y3, y4, y5⟩, _⟩ := six_blkF ((hMb.keeps.block sb (by omega) (by omega)).trans HS2.out)
      have e8 := hF.old_is 8 (by rfl) rfl
      refine QJ.quiet (x := x) hsz hC hi hF (Slots.of (by rfl)) rfl (wanted_none rfl) (show GdM W2 (w.heap.size + 1) #[.int .i64 c.k, .string c.n, .slice c.an c.ln c.cn, .slice c.ak c.lk c.ck, .slice a1 s.types.length n1, .slice a2 s.sigs.length n2] ((listed.setIfInBounds 0 true).getD 4 false) v by rw [getD_setN (show 0 ≠ 4 by decide)]; exact hMb) ?_
      show _ = Result.ok (Next.value (.agg #[.int .i64 c.k, .string c.n, .slice c.an c.ln c.cn, .slice c.ak c.lk c.ck, .slice a1 s.types.length n1, .slice a2 s.sigs.length n2])) v
      simp [execOp, go_sem, e8, y0, y1, y2, y3, y4, y5]
    · cases ho
      obtain ⟨⟨y0, y1, y2, y3, y4, y5⟩, _⟩ := six_blkF ((hMb.keeps.block sb (by omega) (by omega)).trans HS2.out)
      have e8 := hF.old_is 8 (by rfl) rfl
      refine QJ.quiet (x := x) hsz hC hi hF (Slots.of (by rfl)) rfl (wanted_none rfl) (show GdM W2 (w.heap.size + 1) #[.int .i64 c.k, .string c.n, .slice c.an c.ln c.cn, .slice c.ak c.lk c.ck, .slice a1 s.types.length n1, .slice a2 s.sigs.length n2] ((listed.setIfInBounds 1 true).getD 4 false) v by rw [getD_setN (show 1 ≠ 4 by decide)]; exact hMb) ?_
      show _ = Result.ok (Next.value (.agg #[.int .i64 c.k, .string c.n, .slice c.an c.ln c.cn, .slice c.ak c.lk c.ck, .slice a1 s.types.length n1, .slice a2 s.sigs.length n2])) v
      simp [execOp, go_sem, e8, y0, y1, y2, y3, y4, y5]
    · cases ho
      have l4 : listed.getD 4 false = false := by
        cases hh : listed.getD 4 false
        · rfl
        · have y0 := hC 4 _ rfl hh ⟨2, .chain⟩ (by simp) rfl; rw [hl1] at y0; cases y0
      have e14 : b.tmps[14]? = some (.agg #[.int .i64 c.k, .string c.n, .slice c.an c.ln c.cn, .slice c.ak c.lk c.ck, .slice a1 s.types.length n1, .slice a2 s.sigs.length n2]) := hF.up 1 14 rfl (hdeps ⟨1, .data⟩ (by simp) rfl)
      refine QJ.call (x := x) (f := 17) (args := #[.agg #[.int .i64 c.k, .string c.n, .slice c.an c.ln c.cn, .slice c.ak c.lk c.ck, .slice a1 s.types.length n1, .slice a2 s.sigs.length n2]]) hsz hC hi hF (Slots.of (by rfl)) rfl (wanted_none rfl) (by simp [execOp, go_sem, e14]) (HCK.out v (hMb.low l4)) ?_
      rintro e w' ⟨rfl, hb⟩
      exact ⟨(), rfl, fun _ _ => rfl, (show GdM W2 (w.heap.size + 1) #[.int .i64 c.k, .string c.n, .slice c.an c.ln c.cn, .slice c.ak c.lk c.ck, .slice a1 s.types.length n1, .slice a2 s.sigs.length n2] ((listed.setIfInBounds 2 true).getD 4 false) w' by rw [getD_setN (show 2 ≠ 4 by decide), l4]; exact (hMb.low l4).gd hb)⟩
    · cases ho
      have e15 : b.tmps[15]? = some (.int .i64 (refC s : Nat)) := hF.up 2 15 rfl (hdeps ⟨2, .data⟩ (by simp) rfl)
      refine QJ.quiet (x := x) hsz hC hi hF (Slots.of (by rfl)) rfl (wanted_none rfl) (show GdM W2 (w.heap.size + 1) #[.int .i64 c.k, .string c.n, .slice c.an c.ln c.cn, .slice c.ak c.lk c.ck, .slice a1 s.types.length n1, .slice a2 s.sigs.length n2] ((listed.setIfInBounds 3 true).getD 4 false) v by rw [getD_setN (show 3 ≠ 4 by decide)]; exact hMb) ?_
      show _ = Result.ok (Next.value (.bool b0)) v
      simp [execOp, go_sem, e15, hb1]
    · cases ho
      have e6 := hF.old_is 6 (by rfl) rfl
      have e13 : b.tmps[13]? = some (.agg #[.int .i64 c.k, .string c.n, .slice c.an c.ln c.cn, .slice c.ak c.lk c.ck, .slice a1 s.types.length n1, .slice a2 s.sigs.length n2]) := hF.up 0 13 rfl (hdeps ⟨0, .data⟩ (by simp) rfl)
      have hlo := hMb.low hl1
      have hg := (hlo.block (w.heap.size + 1) (by omega)).trans HG2.out
      obtain ⟨⟨z0, z1, z2, z3, z4, z5⟩, ⟨g0, g1, g2, g3, g4, g5⟩⟩ := six_blkF hg
      refine QJ.store (x := x) hsz hC hi hF (Slots.of (by rfl)) rfl rfl (wanted_none rfl) (show GdM W2 (w.heap.size + 1) #[.int .i64 c.k, .string c.n, .slice c.an c.ln c.cn, .slice c.ak c.lk c.ck, .slice a1 s.types.length n1, .slice a2 s.sigs.length n2] ((listed.setIfInBounds 4 true).getD 4 false) ((((((v.setCell ⟨w.heap.size + 1, 0, none⟩ (.int .i64 c.k)).setCell ⟨w.heap.size + 1, 1, none⟩ (.string c.n)).setCell ⟨w.heap.size + 1, 2, none⟩ (.slice c.an c.ln c.cn)).setCell ⟨w.heap.size + 1, 3, none⟩ (.slice c.ak c.lk c.ck)).setCell ⟨w.heap.size + 1, 4, none⟩ (.slice a1 s.types.length n1)).setCell ⟨w.heap.size + 1, 5, none⟩ (.slice a2 s.sigs.length n2)) by rw [getD_setS (by rw [hsz]; decide)]; exact hlo.gdPut hg) ?_
      simp [execOp, go_sem, e6, e13, z0, z1, z2, z3, z4, z5, g0, g1, g2, g3, g4, g5]
    · cases ho
      have e16 : b.tmps[16]? = some (.bool b0) := hF.up 3 16 rfl (hdeps ⟨3, .data⟩ (by simp) rfl)
      refine QJ.quiet (x := x) hsz hC hi hF (Slots.of (by rfl)) rfl (wanted_none rfl) (show GdM W2 (w.heap.size + 1) #[.int .i64 c.k, .string c.n, .slice c.an c.ln c.cn, .slice c.ak c.lk c.ck, .slice a1 s.types.length n1, .slice a2 s.sigs.length n2] ((listed.setIfInBounds 5 true).getD 4 false) v by rw [getD_setN (show 5 ≠ 4 by decide)]; exact hMb) ?_
      show _ = Result.ok (Next.value (.bool b0)) v
      simp [execOp, go_sem, e16]
  · intro listed b W3 hJ hr
    obtain ⟨hsz, hC, x, hF, hM⟩ := hJ
    have hall := all_upB2 (by rfl) hsz hr
    have hMb : GdM W2 (w.heap.size + 1) #[.int .i64 c.k, .string c.n, .slice c.an c.ln c.cn, .slice c.ak c.lk c.ck, .slice a1 s.types.length n1, .slice a2 s.sigs.length n2] true W3 := by
      have h : GdM W2 (w.heap.size + 1) #[.int .i64 c.k, .string c.n, .slice c.an c.ln c.cn, .slice c.ak c.lk c.ck, .slice a1 s.types.length n1, .slice a2 s.sigs.length n2] (listed.getD 4 false) W3 := hM
      rw [hall 4 (by decide)] at h
      exact h
    have hb : b = putAll _ _ _ 6 := hF.done (Slots.of (by rfl)) hall
    subst hb
    simp only [putAll]
    simp [dstOf, Act.put]
    have HMB := Lib.hid hMb
    clear hM hF hC hall hr hsz hMb
    go_wp2
    have hl := run_loadVar_row (P := Try.prog) W3 (w.heap.size + 1) 29 29 _ (0, 0) _ (HMB.out.at_ rfl) Try.underlying29 rfl (by kernel_rfl)
    refine bodyPost_ret (v := .tuple #[.agg #[.int .i64 c.k, .string c.n, .slice c.an c.ln c.cn, .slice c.ak c.lk c.ck, .slice a1 s.types.length n1, .slice a2 s.sigs.length n2], .bool b0]) (by rw [results_cell_tmp rfl]; simp [asAddr, hl]) rfl ?_
    have hz3 := HMB.out.keeps.size
    exact ⟨c, a1, n1, us, a2, n2, gs, rfl, (HV2.out.keepS (fun g hg => HMB.out.keeps.block g (by have := hg.2; omega) (by have := hg.1; omega)) (fun g hg => ⟨by have := hg.1; omega, by have := hg.2; omega⟩)), HBW.out.trans (HMB.out.keeps.below (by omega) (fun g e => by omega))⟩
end Sp
end Go.Proofs.Ytjjpjkkaogfoaaa

namespace Go.Proofs.Ytjjpjkkaogfoaaa
namespace Sp
open Sc

theorem shortZs_append : ∀ a b : List Tz, shortZs (a ++ b) = (shortZs a && shortZs b)
  | [], b => by simp [shortZs]
  | t :: a, b => by simp only [List.cons_append, shortZs, shortZs_append a b, Bool.and_assoc]
theorem short_mk {k : Int} {nm : List UInt8} {ns : List (List UInt8)} {ks : List Tz} (h1 : nm.length ≤ 100) (_h2 : ns.length ≤ 100) (h3 : ∀ n ∈ ns, n.length ≤ 100) (_h4 : ks.length ≤ 100) (h5 : shortZs ks = true) : shortZ (.mk k nm ns ks) = true := by
  rw [shortZ, h5]
  simp only [Bool.and_eq_true, decide_eq_true_eq, List.all_eq_true]
  exact ⟨⟨by omega, fun n hn => by have := h3 n hn; omega⟩, trivial⟩
/-- A record's, a union's parts: few, and such as memory can hold. -/
structure ShoR (t : Tz) (i : Nat) : Prop where
  form : ∃ k ms us, t = .mk k [] ms us ∧ ms.length = us.length ∧ ms.length ≤ i ∧ (∀ n ∈ ms, n.length ≤ 100) ∧ shortZs us = true
theorem ShoR.put {t x : Tz} {i : Nat} {n : List UInt8} (h : ShoR t i) (hn : n.length ≤ 100) (hx : shortZ x = true) : ShoR (putT n x t) (i + 1) := by
  obtain ⟨k, ms, us, rfl, h1, h2, h3, h4⟩ := h
  rw [putT]
  split
  · exact ⟨k, ms, us, rfl, h1, by omega, h3, h4⟩
  · have hp := posT_le ms n
    have e := List.take_append_drop (posT ms n) us
    have k1 := shortZs_append (us.take (posT ms n)) (us.drop (posT ms n))
    rw [e, h4] at k1
    have k2 := k1.symm
    rw [Bool.and_eq_true] at k2
    refine ⟨k, _, _, rfl, by simp; omega, by simp; omega, fun m hm => ?_, ?_⟩
    · simp only [List.mem_append, List.mem_singleton] at hm
      rcases hm with (hm | rfl) | hm
      · exact h3 m (List.mem_of_mem_take hm)
      · exact hn
      · exact h3 m (List.mem_of_mem_drop hm)
    · rw [shortZs_append, shortZs_append, k2.1, k2.2]; simp [shortZs, hx]
theorem ShoR.short {t : Tz} {i : Nat} (h : ShoR t i) (hi : i ≤ 100) : shortZ t = true := by
  obtain ⟨k, ms, us, rfl, h1, h2, h3, h4⟩ := h
  exact short_mk (by simp) (by omega) h3 (by omega) h4
theorem treeR_short (names : List (List UInt8)) (hn : ∀ n ∈ names, n.length ≤ 100) : ∀ (d : Nat) (r : Rw), shortZ (treeR names d r) = true
  | 0, .mk kd n ns ks => by
    have hl : (names.getD (n % names.length).toNat []).length ≤ 100 := by
      rw [List.getD]
      cases h : names[(n % names.length).toNat]? with
      | none => simp
      | some x => exact hn x (List.mem_of_getElem? h)
    rw [treeR]
    split
    · exact short_mk hl (by simp) (fun n hn => by cases hn) (by simp) rfl
    · exact short_mk (by simp) (by simp) (fun n hn => by cases hn) (by simp) rfl
  | d + 1, .mk kd n ns ks => by
    have hl : (names.getD (n % names.length).toNat []).length ≤ 100 := by
      rw [List.getD]
      cases h : names[(n % names.length).toNat]? with
      | none => simp
      | some x => exact hn x (List.mem_of_getElem? h)
    have h1 := topK_rng names.length (d + 1) kd
    obtain ⟨k, hk⟩ : ∃ k, topK names.length (d + 1) kd = k := ⟨_, rfl⟩
    have ih := fun r => treeR_short names hn d r
    rw [hk] at h1
    by_cases h9 : k = 9
    · rw [treeR_name _ _ _ _ _ _ (hk.trans h9)]
      exact short_mk hl (by simp) (fun n hn => by cases hn) (by simp) rfl
    · by_cases h3 : k ≤ 3
      · rw [treeR_leaf _ _ _ _ _ _ (by rw [hk]; exact h3)]
        exact short_mk (by simp) (by simp) (fun n hn => by cases hn) (by simp) rfl
      · by_cases h6 : k ≤ 6
        · rw [treeR_kid _ _ _ _ _ _ k hk (by omega)]
          split
          · exact ih _
          · exact short_mk (by simp) (by simp) (fun n hn => by cases hn) (by simp) (by rw [shortZs, ih]; rfl)
        · rw [treeR_recT _ _ _ _ _ _ k hk (by omega)]
          have hf : fldM k ns ≤ 4 := by unfold fldM; split <;> omega
          have key : ∀ i, ShoR (recT names d kd n ns ks k i) i := by
            intro i
            induction i with
            | zero => exact ⟨k, [], [], rfl, rfl, Nat.le_refl _, (fun n hn => by cases hn), rfl⟩
            | succ i ihh => rw [recT_succ]; exact ihh.put (fldN_len ns i) (ih _)
          exact (key (fldM k ns)).short (by omega)
theorem schR_short (main : Rw) (types sigs : List Rw) : ShortS (schR main types sigs) := by
  have hn := namesR_len100 types
  refine ⟨fun i hi => ?_, ⟨treeR_fit _ hn _ _, treeR_short _ hn _ _⟩, fun g hg => ?_⟩
  · simp only [schR, ntR, List.getElem_map, List.getElem_range]
    refine ⟨?_, treeR_fit _ hn _ _, treeR_short _ hn _ _⟩
    rw [List.getD]
    cases h : (namesR types)[i]? with
    | none => simp
    | some x => have := hn x (List.mem_of_getElem? h); simp; omega
  · simp only [schR, sgsR] at hg
    obtain ⟨i, -, rfl⟩ := List.mem_map.1 hg
    unfold sgR
    refine ⟨?_, ?_, fun t ht => ?_, treeR_fit _ hn _ _, treeR_short _ hn _ _⟩
    · have : ∀ n ∈ fn4, n.length ≤ 100 := by decide
      dsimp only
      rw [List.getD]
      cases h : fn4[i]? with
      | none => simp
      | some x => have := this x (List.mem_of_getElem? h); simp; omega
    · simp only [parR, List.length_map, List.length_range]; omega
    · obtain ⟨k, _, rfl⟩ := List.mem_map.1 ht
      exact ⟨treeR_fit _ hn _ _, treeR_short _ hn _ _⟩
end Sp
end Go.Proofs.Ytjjpjkkaogfoaaa
