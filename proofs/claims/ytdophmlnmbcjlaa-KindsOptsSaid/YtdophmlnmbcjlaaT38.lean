/- The table of a schema, as a plain function. -/
import Derived.Test.YtdophmlnmbcjlaaT3
import Derived.Test.YtdophmlnmbcjlaaT37
namespace Go.Proofs.Ytdophmlnmbcjlaa
namespace Sp
open Sc
/-- What the named types stand for, one by one. -/
def namK (has : List UInt8 → Bool) (T : List Kz) (N : List NN) : List NT → Nat × List Kz × List NN
  | [] => (0, T, N)
  | x :: l => if (addK has T x.2).2.1 = 0 then namK has (addK has T x.2).2.2 (N ++ [(x.1, (addK has T x.2).1)]) l else ((addK has T x.2).2.1, (addK has T x.2).2.2, N)
def parK (has : List UInt8 → Bool) (T : List Kz) : List Tz → List Nat × Nat × List Kz
  | [] => ([], 0, T)
  | t :: ks => if (addK has T t).2.1 = 0 then ((addK has T t).1 :: (parK has (addK has T t).2.2 ks).1, (parK has (addK has T t).2.2 ks).2) else ([], (addK has T t).2)
theorem parK_append (has : List UInt8 → Bool) : ∀ (T : List Kz) (a b : List Tz), parK has T (a ++ b) = if (parK has T a).2.1 = 0 then ((parK has T a).1 ++ (parK has (parK has T a).2.2 b).1, (parK has (parK has T a).2.2 b).2) else parK has T a
  | T, [], b => by simp [parK]
  | T, t :: a, b => by
    rw [List.cons_append, parK, parK]
    by_cases h : (addK has T t).2.1 = 0
    · rw [if_pos h, if_pos h, parK_append has _ a b]
      dsimp only
      split
      · rfl
      · rfl
    · rw [if_neg h, if_neg h, if_neg h]
theorem parK_snoc (has : List UInt8 → Bool) (T : List Kz) (a : List Tz) (t : Tz) : parK has T (a ++ [t]) = if (parK has T a).2.1 = 0 then (if (addK has (parK has T a).2.2 t).2.1 = 0 then ((parK has T a).1 ++ [(addK has (parK has T a).2.2 t).1], (0, (addK has (parK has T a).2.2 t).2.2)) else ((parK has T a).1, (addK has (parK has T a).2.2 t).2)) else parK has T a := by
  rw [parK_append]
  split
  · simp only [parK]
    by_cases h : (addK has (parK has T a).2.2 t).2.1 = 0
    · rw [if_pos h, if_pos h]
    · rw [if_neg h, if_neg h]; simp
  · rfl
theorem parK_bad {has : List UInt8 → Bool} {T : List Kz} {ks : List Tz} {i : Nat} (h : (parK has T (ks.take i)).2.1 ≠ 0) : parK has T ks = parK has T (ks.take i) := by
  have := parK_append has T (ks.take i) (ks.drop i)
  rwa [List.take_append_drop, if_neg h] at this
/-- A function: its numbers, the error, the types. -/
def fnK (has : List UInt8 → Bool) (T : List Kz) (g : Sg) : GN × Nat × List Kz :=
  if (parK has T g.params).2.1 = 0 then ((g.name, (parK has T g.params).1, (addK has (parK has T g.params).2.2 g.result).1), (addK has (parK has T g.params).2.2 g.result).2)
  else ((g.name, [], 0), (parK has T g.params).2)
def fnsK (has : List UInt8 → Bool) (T : List Kz) (G : List GN) : List Sg → Nat × List Kz × List GN
  | [] => (0, T, G)
  | g :: l => if (fnK has T g).2.1 = 0 then fnsK has (fnK has T g).2.2 (G ++ [(fnK has T g).1]) l else ((fnK has T g).2.1, (fnK has T g).2.2, G)
def zerosN (l : List NT) : List NN := l.map fun x => (x.1, 0)
/-- What New answers: an error, or a table. -/
def schemaK (s : Sz) : Nat × Tab :=
  let h := hasZ s.types
  let a := namK h [] (zerosN s.types) s.types
  if a.1 ≠ 0 then (a.1, ⟨a.2.1, a.2.2, [], 0⟩) else
  let b := addK h a.2.1 s.main
  if b.2.1 ≠ 0 then (b.2.1, ⟨b.2.2, a.2.2, [], 0⟩) else
  let c := fnsK h b.2.2 [] s.sigs
  (c.1, ⟨c.2.1, a.2.2, c.2.2, b.1⟩)
def newK (s : Sz) : Nat × Tab := if refC s ≠ 0 then (refC s, default) else schemaK s
mutual
theorem ok_of_one (has : List UInt8 → Bool) : ∀ (t : Tz) (d n : Nat), (oneZ has d n t).1 = 0 → okK has t = true
  | .mk k nm ns ks, d, n, h0 => by
    rw [oneZ] at h0
    split at h0
    · cases h0
    · split at h0
      · cases h0
      · split at h0
        · rename_i h3; exact absurd h0 h3
        · rename_i h3
          rw [okK, ok_of_all has ks (d + 1) (n + 1) h0, Bool.and_true, decide_eq_true_eq]
          have h4 : ownE has k nm ns ks.length = 0 := by simpa using h3
          unfold ownE at h4
          split at h4
          · cases h4
          · rename_i h5
            split at h4
            · cases h4
            · rename_i h6
              split at h4
              · cases h4
              · rename_i h7
                have h8 : ks.length ≤ 8 := by
                  have h9 := h6
                  unfold formB kidsN at h9
                  simp only [Bool.not_eq_false, Bool.and_eq_true, Bool.or_eq_true, decide_eq_true_eq] at h9
                  have h10 : ns.length ≤ 8 := by
                    unfold fieldE at h4
                    split at h4
                    · cases h4
                    · omega
                  have h11 := h9.1.1
                  split at h11
                  · omega
                  · split at h11 <;> omega
                unfold ownC
                rw [if_neg (by omega), if_neg h5, if_neg h6, if_neg h7]
theorem ok_of_all (has : List UInt8 → Bool) : ∀ (ks : List Tz) (d n : Nat), (allZ has d n ks).1 = 0 → okKs has ks = true
  | [], _, _, _ => rfl
  | t :: ks, d, n, h0 => by
    rw [allZ] at h0
    split at h0
    · rename_i h1
      rw [okKs, ok_of_one has t d n h1, ok_of_all has ks d _ h0]; rfl
    · rename_i h1; exact absurd h0 h1
end
theorem sizeZ_in : ∀ {ks : List Tz} {t : Tz}, t ∈ ks → sizeZ t ≤ sizeZs ks
  | x :: ks, t, h => by
    rw [sizeZs]
    rcases List.mem_cons.1 h with rfl | h
    · omega
    · have := sizeZ_in h; omega
/-- All of a schema's types may be added. -/
structure AddsZ (s : Sz) : Prop where
  types : ∀ x ∈ s.types, okK (hasZ s.types) x.2 = true ∧ sizeZ x.2 ≤ 400
  main : okK (hasZ s.types) s.main = true ∧ sizeZ s.main ≤ 400
  sigs : ∀ g ∈ s.sigs, (∀ t ∈ g.params, okK (hasZ s.types) t = true ∧ sizeZ t ≤ 400) ∧ okK (hasZ s.types) g.result = true ∧ sizeZ g.result ≤ 400
theorem fnsZ_adds (has : List UInt8 → Bool) : ∀ (l : List Sg) (a : List UInt8) (n : Nat), n ≤ 400 → (fnsZ has n a l).1 = 0 → ∀ g ∈ l, (∀ t ∈ g.params, okK has t = true ∧ sizeZ t ≤ 400) ∧ okK has g.result = true ∧ sizeZ g.result ≤ 400
  | [], _, _, _, _, g, hg => by cases hg
  | x :: l, a, n, hn, h0, g, hg => by
    rw [fnsZ] at h0
    split at h0
    · rename_i h1
      have key : (fnZ has n a x).2 ≤ 400 ∧ (∀ t ∈ x.params, okK has t = true ∧ sizeZ t ≤ 400) ∧ okK has x.result = true ∧ sizeZ x.result ≤ 400 := by
        unfold fnZ at h1 ⊢
        by_cases h2 : nameE a x.name (builtinB x.name) ≠ 0
        · rw [if_pos h2] at h1; exact absurd h1 h2
        · rw [if_neg h2] at h1 ⊢
          by_cases h3 : 4 < x.params.length
          · rw [if_pos h3] at h1; cases h1
          · rw [if_neg h3] at h1 ⊢
            by_cases h4 : (allZ has 1 n x.params).1 ≠ 0
            · rw [if_pos h4] at h1; exact absurd h1 h4
            · rw [if_neg h4] at h1 ⊢
              have h5 : (allZ has 1 n x.params).1 = 0 := by simpa using h4
              have a1 := allZ_le has x.params 1 n hn h5
              have a2 := (allZ_good has x.params 1 n h5).2
              have b1 := oneZ_le has x.result 1 _ a1 h1
              have b2 := (oneZ_good has x.result 1 _ h1).2
              have c1 := okKs_mem (ok_of_all has x.params 1 n h5)
              exact ⟨b1, fun t ht => ⟨c1 t ht, by have := sizeZ_in ht; omega⟩, ok_of_one has _ _ _ h1, by omega⟩
      rcases List.mem_cons.1 hg with rfl | hg
      · exact key.2
      · exact fnsZ_adds has l _ _ key.1 h0 g hg
    · rename_i h1; exact absurd h0 h1
theorem adds_of {s : Sz} (h : refC s = 0) : AddsZ s := by
  have hz : schZ s = 0 := by
    unfold refC at h
    split at h
    · cases h
    · split at h
      · rename_i h1; exact absurd h h1
      · split at h
        · rename_i h1; exact absurd h h1
        · rename_i h1; simpa using h1
  obtain ⟨⟨e, n⟩, h1⟩ : ∃ p, allZ (hasZ s.types) 1 0 (s.types.map (·.2)) = p := ⟨_, rfl⟩
  have he : e = 0 := by
    by_cases he : e = 0
    · exact he
    · rw [schZ_bad1 h1 he] at hz; exact absurd hz he
  subst he
  obtain ⟨⟨e2, m⟩, h2⟩ : ∃ p, oneZ (hasZ s.types) 1 n s.main = p := ⟨_, rfl⟩
  have he2 : e2 = 0 := by
    by_cases he : e2 = 0
    · exact he
    · rw [schZ_bad2 h1 h2 he] at hz; exact absurd hz he
  subst he2
  rw [schZ_go h1 h2] at hz
  have a0 : (allZ (hasZ s.types) 1 0 (s.types.map (·.2))).1 = 0 := by rw [h1]
  have a1 := allZ_le (hasZ s.types) (s.types.map (·.2)) 1 0 (by omega) a0
  have a2 := (allZ_good (hasZ s.types) (s.types.map (·.2)) 1 0 a0).2
  have a3 := okKs_mem (ok_of_all (hasZ s.types) (s.types.map (·.2)) 1 0 a0)
  rw [h1] at a1 a2
  dsimp only at a1 a2
  have b0 : (oneZ (hasZ s.types) 1 n s.main).1 = 0 := by rw [h2]
  have b1 := oneZ_le (hasZ s.types) s.main 1 n a1 b0
  have b2 := (oneZ_good (hasZ s.types) s.main 1 n b0).2
  rw [h2] at b1 b2
  dsimp only at b1 b2
  refine ⟨fun x hx => ⟨a3 _ (List.mem_map.2 ⟨x, hx, rfl⟩), ?_⟩, ⟨ok_of_one _ _ _ _ b0, by omega⟩, fnsZ_adds _ _ _ _ b1 hz⟩
  have := sizeZ_in (List.mem_map.2 ⟨x, hx, rfl⟩ : x.2 ∈ s.types.map (·.2))
  omega
theorem addK_g {has : List UInt8 → Bool} {T : List Kz} {t : Tz} (hT : TabG has 400 T) (h : okK has t = true ∧ sizeZ t ≤ 400) :
    addK has T t = treeK T t ∧ TabG has 400 (addK has T t).2.2 ∧ T <+: (addK has T t).2.2 ∧ ((addK has T t).2.1 = 0 → (addK has T t).1 < (addK has T t).2.2.length ∧ typT (addK has T t).2.2 (addK has T t).1 = t) := by
  rw [addK_ok h.1 h.2]
  exact ⟨rfl, treeK_g t T hT h.1 h.2, treeK_grow t T, (treeK_wf t T hT.toTabW h.1).2⟩
/-- Names and what they stand for. -/
structure NamW (T : List Kz) (N : List NN) (l : List NT) : Prop where
  look : ∀ x ∈ l, lookN N x.1 < T.length ∧ typT T (lookN N x.1) = x.2
theorem NamW.grow {has : List UInt8 → Bool} {M : Nat} {T T' : List Kz} {N : List NN} {l : List NT} (h : NamW T N l) (hT : TabG has M T) (hp : T <+: T') : NamW T' N l :=
  ⟨fun x hx => ⟨Nat.lt_of_lt_of_le (h.look x hx).1 hp.length_le, by rw [typT_prefix hp hT.kids (h.look x hx).1]; exact (h.look x hx).2⟩⟩
theorem namK_ok {has : List UInt8 → Bool} : ∀ (l done : List NT) (T : List Kz) (N : List NN), NoTwice (done ++ l) → TabG has 400 T → NamW T N done → (∀ x ∈ l, okK has x.2 = true ∧ sizeZ x.2 ≤ 400) → (namK has T N l).1 = 0 →
    TabG has 400 (namK has T N l).2.1 ∧ NamW (namK has T N l).2.1 (namK has T N l).2.2 (done ++ l) ∧ T <+: (namK has T N l).2.1
  | [], done, T, N, _, hT, hN, _, _ => by rw [namK, List.append_nil]; exact ⟨hT, hN, List.prefix_refl _⟩
  | x :: l, done, T, N, hd, hT, hN, hk, h0 => by
    rw [namK] at h0 ⊢
    obtain ⟨a, b, c, d⟩ := addK_g hT (hk x List.mem_cons_self)
    split at h0
    · rename_i h1
      rw [if_pos h1]
      obtain ⟨d1, d2⟩ := d h1
      have hN2 : NamW (addK has T x.2).2.2 (N ++ [(x.1, (addK has T x.2).1)]) (done ++ [x]) := ⟨fun y hy => by
        unfold lookN
        rw [lastN_snoc]
        by_cases e : x.1 = y.1
        · have : y = x := hd.eq (by rcases List.mem_append.1 hy with h | h <;> simp_all) (by simp) e.symm
          subst this
          rw [if_pos rfl]; exact ⟨d1, d2⟩
        · rw [if_neg e]
          rcases List.mem_append.1 hy with hy | hy
          · exact (hN.grow hT c).look y hy
          · exact absurd (by rw [List.mem_singleton.1 hy]) e⟩
      obtain ⟨p, q, r⟩ := namK_ok l (done ++ [x]) _ _ (by simpa using hd) b hN2 (fun y hy => hk y (List.mem_cons_of_mem _ hy)) h0
      exact ⟨p, by simpa using q, c.trans r⟩
    · rename_i h1; exact absurd h0 h1
theorem namK_has {has : List UInt8 → Bool} (nm : List UInt8) : ∀ (l : List NT) (T : List Kz) (N : List NN), (∀ x ∈ l, hasZ N x.1 = true) → hasZ (namK has T N l).2.2 nm = hasZ N nm
  | [], T, N, _ => by rw [namK]
  | x :: l, T, N, h => by
    rw [namK]
    split
    · rw [namK_has nm l _ _ (fun y hy => by rw [hasZ_snoc, h y (List.mem_cons_of_mem _ hy)]; rfl), hasZ_snoc]
      by_cases e : x.1 = nm
      · rw [← e, h x List.mem_cons_self]; rfl
      · simp [e]
    · rfl
theorem parK_ok {has : List UInt8 → Bool} : ∀ (ks : List Tz) (T : List Kz), TabG has 400 T → (∀ t ∈ ks, okK has t = true ∧ sizeZ t ≤ 400) → TabG has 400 (parK has T ks).2.2 ∧ T <+: (parK has T ks).2.2 ∧
    ((parK has T ks).2.1 = 0 → (∀ j ∈ (parK has T ks).1, j < (parK has T ks).2.2.length) ∧ (parK has T ks).1.map (typT (parK has T ks).2.2) = ks)
  | [], T, hT, _ => by rw [parK]; exact ⟨hT, List.prefix_refl _, fun _ => ⟨(fun j hj => by cases hj), rfl⟩⟩
  | t :: ks, T, hT, hk => by
    obtain ⟨a, b, c, d⟩ := addK_g hT (hk t List.mem_cons_self)
    rw [parK]
    by_cases h : (addK has T t).2.1 = 0
    · rw [if_pos h]
      obtain ⟨d1, d2⟩ := d h
      obtain ⟨p, q, r⟩ := parK_ok ks _ b (fun x hx => hk x (List.mem_cons_of_mem _ hx))
      refine ⟨p, c.trans q, fun he => ?_⟩
      obtain ⟨r1, r2⟩ := r he
      refine ⟨fun j hj => ?_, ?_⟩
      · rcases List.mem_cons.1 hj with rfl | hj
        · exact Nat.lt_of_lt_of_le d1 q.length_le
        · exact r1 j hj
      · rw [List.map_cons, r2, typT_prefix q b.kids d1, d2]
    · rw [if_neg h]; exact ⟨b, c, fun he => absurd he h⟩
/-- A function's numbers say its types. -/
structure SigW (T : List Kz) (x : GN) (g : Sg) : Prop where
  name : x.1 = g.name
  par : (∀ j ∈ x.2.1, j < T.length) ∧ x.2.1.map (typT T) = g.params
  res : x.2.2 < T.length ∧ typT T x.2.2 = g.result
theorem SigW.grow {has : List UInt8 → Bool} {M : Nat} {T T' : List Kz} {x : GN} {g : Sg} (h : SigW T x g) (hT : TabG has M T) (hp : T <+: T') : SigW T' x g :=
  ⟨h.name, ⟨fun j hj => Nat.lt_of_lt_of_le (h.par.1 j hj) hp.length_le, by rw [← h.par.2]; exact List.map_congr_left fun j hj => typT_prefix hp hT.kids (h.par.1 j hj)⟩,
    Nat.lt_of_lt_of_le h.res.1 hp.length_le, by rw [typT_prefix hp hT.kids h.res.1]; exact h.res.2⟩
theorem fnK_ok {has : List UInt8 → Bool} {T : List Kz} {g : Sg} (hT : TabG has 400 T) (hg : (∀ t ∈ g.params, okK has t = true ∧ sizeZ t ≤ 400) ∧ okK has g.result = true ∧ sizeZ g.result ≤ 400) :
    TabG has 400 (fnK has T g).2.2 ∧ T <+: (fnK has T g).2.2 ∧ ((fnK has T g).2.1 = 0 → SigW (fnK has T g).2.2 (fnK has T g).1 g) := by
  obtain ⟨a, b, c⟩ := parK_ok g.params T hT hg.1
  unfold fnK
  by_cases h : (parK has T g.params).2.1 = 0
  · rw [if_pos h]
    obtain ⟨c1, c2⟩ := c h
    obtain ⟨p, q, r, t⟩ := addK_g a hg.2
    refine ⟨q, b.trans r, fun he => ⟨rfl, ⟨fun j hj => Nat.lt_of_lt_of_le (c1 j hj) r.length_le, ?_⟩, t he⟩⟩
    dsimp only
    calc _ = (parK has T g.params).1.map (typT (parK has T g.params).2.2) := List.map_congr_left fun j hj => typT_prefix r a.kids (c1 j hj)
      _ = _ := c2
  · rw [if_neg h]; exact ⟨a, b, fun he => absurd he h⟩
theorem fnsK_ok {has : List UInt8 → Bool} : ∀ (l done : List Sg) (T : List Kz) (G : List GN), TabG has 400 T → G.length = done.length → (∀ i (h1 : i < G.length) (h2 : i < done.length), SigW T G[i] done[i]) →
    (∀ g ∈ l, (∀ t ∈ g.params, okK has t = true ∧ sizeZ t ≤ 400) ∧ okK has g.result = true ∧ sizeZ g.result ≤ 400) → (fnsK has T G l).1 = 0 →
    TabG has 400 (fnsK has T G l).2.1 ∧ T <+: (fnsK has T G l).2.1 ∧ (fnsK has T G l).2.2.length = (done ++ l).length ∧ ∀ i (h1 : i < (fnsK has T G l).2.2.length) (h2 : i < (done ++ l).length), SigW (fnsK has T G l).2.1 (fnsK has T G l).2.2[i] (done ++ l)[i]
  | [], done, T, G, hT, hl, hG, _, _ => by
    simp only [fnsK, List.append_nil]; exact ⟨hT, List.prefix_refl _, hl, hG⟩
  | g :: l, done, T, G, hT, hl, hG, hk, h0 => by
    rw [fnsK] at h0
    obtain ⟨a, b, c⟩ := fnK_ok hT (hk g List.mem_cons_self)
    split at h0
    · rename_i h1
      have e : fnsK has T G (g :: l) = fnsK has (fnK has T g).2.2 (G ++ [(fnK has T g).1]) l := by rw [fnsK, if_pos h1]
      have hs := c h1
      obtain ⟨p, q, r, t⟩ := fnsK_ok l (done ++ [g]) (fnK has T g).2.2 (G ++ [(fnK has T g).1]) a (by simp [hl]) (fun i h1 h2 => by
        by_cases hi : i < G.length
        · rw [List.getElem_append_left hi, List.getElem_append_left (by omega)]
          exact (hG i hi (by omega)).grow hT b
        · have hi1 : i = G.length := by simp at h1; omega
          subst hi1
          rw [List.getElem_append_right (Nat.le_refl _), List.getElem_append_right (by omega)]
          simpa [hl] using hs) (fun x hx => hk x (List.mem_cons_of_mem _ hx)) h0
      simp only [e]
      simp only [List.append_assoc, List.singleton_append] at r t
      exact ⟨p, b.trans q, r, t⟩
    · rename_i h1; exact absurd h0 h1
/-- A table that a schema has made. -/
structure BuiltK (s : Sz) (x : Tab) : Prop where
  good : TabG (hasZ s.types) 400 x.T
  names : NamW x.T x.N s.types
  has : ∀ nm, hasZ x.N nm = hasZ s.types nm
  main : x.m < x.T.length ∧ typT x.T x.m = s.main
  glen : x.G.length = s.sigs.length
  sigs : ∀ i (h1 : i < x.G.length) (h2 : i < s.sigs.length), SigW x.T x.G[i] s.sigs[i]
theorem hasZ_zeros (l : List NT) (nm : List UInt8) : hasZ (zerosN l) nm = hasZ l nm := hasZ_map l (fun _ => 0) nm
theorem built_of {s : Sz} (hr : refC s = 0) (h : (schemaK s).1 = 0) : BuiltK s (schemaK s).2 := by
  have ha := adds_of hr
  have hg := good_of hr
  unfold schemaK at h ⊢
  simp only at h ⊢
  obtain ⟨a, haa⟩ : ∃ a, namK (hasZ s.types) [] (zerosN s.types) s.types = a := ⟨_, rfl⟩
  rw [haa] at h ⊢
  by_cases h1 : a.1 ≠ 0
  · rw [if_pos h1] at h; exact absurd h h1
  · rw [if_neg h1] at h ⊢
    have h1' : a.1 = 0 := by simpa using h1
    obtain ⟨p, q, -⟩ := namK_ok (has := hasZ s.types) s.types [] [] (zerosN s.types) (by simpa using hg.once) TabG.nil ⟨fun x hx => by cases hx⟩ ha.types (by rw [haa]; exact h1')
    have hn := fun nm => namK_has (has := hasZ s.types) nm s.types [] (zerosN s.types) (fun x hx => by rw [hasZ_zeros]; exact hasZ_iff.2 ⟨x, hx, rfl⟩)
    rw [haa, List.nil_append] at q
    rw [haa] at p
    simp only [haa, hasZ_zeros] at hn
    obtain ⟨b1, b2, b3, b4⟩ := addK_g p ha.main
    obtain ⟨b, hb⟩ : ∃ b, addK (hasZ s.types) a.2.1 s.main = b := ⟨_, rfl⟩
    rw [hb] at h b1 b2 b3 b4 ⊢
    by_cases h2 : b.2.1 ≠ 0
    · rw [if_pos h2] at h; exact absurd h h2
    · rw [if_neg h2] at h ⊢
      obtain ⟨c1, c2⟩ := b4 (by simpa using h2)
      obtain ⟨d1, d2, d3, d4⟩ := fnsK_ok (has := hasZ s.types) s.sigs [] b.2.2 [] b2 rfl (fun i h => by cases h) ha.sigs h
      exact ⟨d1, q.grow p (b3.trans d2), hn, ⟨Nat.lt_of_lt_of_le c1 d2.length_le, by rw [typT_prefix d2 b2.kids c1]; exact c2⟩, by simpa using d3, by simpa using d4⟩
def openK (T : List Kz) (N : List NN) : Nat → Nat → Nat
  | 0, i => i
  | f + 1, i => if (T.getD i default).kind = 9 then openK T N f (lookN N (T.getD i default).name) else i
/-- What a number's kind is, its tree's is. -/
theorem typT_kind {T : List Kz} (hT : ∀ i (h : i < T.length), ∀ j ∈ T[i].kids, j < i) {i : Nat} (h : i < T.length) : (typT T i).kind = T[i].kind := by rw [typT_at hT h]; rfl
theorem openK_step (T : List Kz) (N : List NN) (f i : Nat) (h : (T.getD i default).kind = 9) : openK T N (f + 1) i = openK T N f (lookN N (T.getD i default).name) := by rw [openK, if_pos h]
theorem openK_stop (T : List Kz) (N : List NN) (f i : Nat) (h : (T.getD i default).kind ≠ 9) : openK T N f i = i := by
  cases f with
  | zero => rfl
  | succ f => rw [openK, if_neg h]
end Sp
end Go.Proofs.Ytdophmlnmbcjlaa
