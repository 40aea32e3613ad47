/- namesThatEnd, Finite. -/
import Derived.Test.YtdophmlnmbcjlaaT12
import Derived.Deep.LoopGhost
namespace Go.Proofs.Ytdophmlnmbcjlaa
open Go.RowKit
namespace Sp
open Sc
/-- How many of a row's names are not known. -/
def unk (l : List NT) (Z : List NT) : Nat := (l.filter fun x => !hasZ Z x.1).length
theorem filter_le {α : Type} (p q : α → Bool) (h : ∀ x, q x = true → p x = true) : ∀ l : List α, (l.filter q).length ≤ (l.filter p).length
  | [] => Nat.le_refl _
  | x :: l => by
    have ih := filter_le p q h l
    rw [List.filter_cons, List.filter_cons]
    by_cases hq : q x = true
    · rw [if_pos hq, if_pos (h x hq)]; simp only [List.length_cons]; omega
    · rw [if_neg hq]; split
      · simp only [List.length_cons]; omega
      · exact ih
theorem filter_lt {α : Type} (p q : α → Bool) (h : ∀ x, q x = true → p x = true) (y : α) (hp : p y = true) (hq : q y = false) : ∀ l : List α, y ∈ l → (l.filter q).length < (l.filter p).length
  | [], hy => by cases hy
  | x :: l, hy => by
    rw [List.filter_cons, List.filter_cons]
    rcases List.mem_cons.1 hy with rfl | hy
    · rw [if_pos hp, if_neg (by rw [hq]; decide)]
      have := filter_le p q h l
      simp only [List.length_cons]; omega
    · have ih := filter_lt p q h y hp hq l hy
      by_cases hqx : q x = true
      · rw [if_pos hqx, if_pos (h x hqx)]; simp only [List.length_cons]; omega
      · rw [if_neg hqx]; split
        · simp only [List.length_cons]; omega
        · exact ih
theorem unk_snoc (l Z : List NT) (x : NT) (hx : x ∈ l) (hn : hasZ Z x.1 = false) : unk l (Z ++ [x]) < unk l Z := by
  unfold unk
  refine filter_lt _ _ (fun y hy => ?_) x (by simp [hn]) (by rw [hasZ_snoc]; simp) l hx
  rw [hasZ_snoc] at hy
  simp only [Bool.not_or, Bool.and_eq_true] at hy
  exact hy.1
theorem round_unk (l : List NT) : ∀ (s : List NT) (Z : List NT) (n : Nat), (∀ x ∈ s, x ∈ l) → Z.length + unk l Z ≤ l.length → (roundZ Z n s).1.length + unk l (roundZ Z n s).1 ≤ l.length
  | [], Z, n, _, h => h
  | x :: s, Z, n, hs, h => by
    unfold roundZ
    split
    · exact round_unk l s Z n (fun y hy => hs y (List.mem_cons_of_mem _ hy)) h
    · rename_i hn
      split
      · refine round_unk l s _ _ (fun y hy => hs y (List.mem_cons_of_mem _ hy)) ?_
        have := unk_snoc l Z x (hs x List.mem_cons_self) (by simpa using hn)
        rw [List.length_append, List.length_singleton]; omega
      · exact round_unk l s _ _ (fun y hy => hs y (List.mem_cons_of_mem _ hy)) h
theorem roundZ_le : ∀ (l : List NT) (Z : List NT) (n : Nat), (roundZ Z n l).2 ≤ n
  | [], _, _ => Nat.le_refl _
  | x :: l, Z, n => by
    unfold roundZ
    split
    · exact roundZ_le l Z n
    · split
      · exact Nat.le_trans (roundZ_le l _ _) (finZ_le _ _ _)
      · exact Nat.le_trans (roundZ_le l _ _) (finZ_le _ _ _)
/-- What namesThatEnd leaves. -/
def EndsP (w : World) (l : List NT) (w' : World) (fb : Nat) : Prop :=
  ∃ mb K, w.heap.size ≤ mb ∧ mb < fb ∧ FnE w' fb mb (endsZ l).2 ∧ MapV w' mb K ∧ once K ∧ K.map (·.1) = (endsZ l).1.map (·.1) ∧ (endsZ l).1.length ≤ l.length ∧ (endsZ l).2 ≤ 65536 ∧ Below w.heap.size w w'
set_option maxRecDepth 100000 in
set_option maxHeartbeats 16000000 in
theorem ends_any (S : Nat → Prop) (l : List NT) (us : List (List UInt8 × C4)) (a : Option Addr) (c : Nat) (w : World)
    (hS : ∀ g, S g → g < w.heap.size) (hf : ∀ i (h : i < l.length), l[i].1.length ≤ maxLen ∧ fitZ l[i].2 = true) (hlen : us.length = l.length) (hll : l.length + l.length < maxLen)
    (hr : RowV w S a 5 (us.map encZ)) (hu : ∀ i (h : i < l.length) (h' : i < us.length), us[i].1 = l[i].1 ∧ TzV w S l[i].2 us[i].2) :
    Calls Try.prog 44 #[.slice a l.length c] w fun e w' => ∃ fb, e = .returned (.pointer (some ⟨fb, 0, none⟩)) ∧ EndsP w l w' fb := by
  obtain ⟨W0, hW0⟩ : ∃ W0, W0 = (w.alloc (.map #[] 0)).alloc (.cells #[.map (some w.heap.size), .int .i64 65536] 115) := ⟨_, rfl⟩
  have hs1 : (w.alloc (.map #[] 0)).heap.size = w.heap.size + 1 := by simp
  have hs0 : W0.heap.size = w.heap.size + 2 := by rw [hW0]; simp
  have hb1 : Below w.heap.size w (w.alloc (.map #[] 0)) := (Below.refl _ _).alloc (Nat.le_refl _) _
  have hb01 : Below (w.alloc (.map #[] 0)).heap.size (w.alloc (.map #[] 0)) W0 := by rw [hW0]; exact (Below.refl _ _).alloc (Nat.le_refl _) _
  have hb0 : Below w.heap.size w W0 := hb1.trans (hb01.mono (by omega))
  have hC : FnE W0 (w.heap.size + 1) w.heap.size 65536 := by
    unfold FnE
    rw [hW0]
    have := heap_alloc_new (w.alloc (.map #[] 0)) (.cells #[.map (some w.heap.size), .int .i64 65536] 115)
    rw [hs1] at this
    exact this
  have hM : MapV W0 w.heap.size [] := (MapV.made w).below hb01
  have HS := Lib.hid hS; have HF := Lib.hid hf; have HR := Lib.hid hr; have HU := Lib.hid hu; have HB0 := Lib.hid hb0; have HC := Lib.hid hC; have HM := Lib.hid hM; have HW0 := Lib.hid hW0; have HLL := Lib.hid hll; have HLEN := Lib.hid hlen
  have hmm := @run_makeMap Try.prog
  clear hS hf hr hu hb0 hC hM hW0 hs1 hb1 hb01 hll hlen
  go_enter Try.func44, Try.ntmps44
  go_wp2
  rw [← HW0.out]
  go_loopg [4] (l.length + 2) (fun gg mv wr => ∃ b f Z K n, mv = .bool b ∧ n ≤ 65536 ∧ Hid (b = true → f + 1 ≤ gg ∧ endsZ l = endsGo l f Z n ∧ l.length + 1 ≤ f + Z.length) ∧ Hid (b = false → endsZ l = (Z, n)) ∧ Hid (Z.length + unk l Z ≤ l.length) ∧ Hid (FnE wr (w.heap.size + 1) w.heap.size n) ∧ Hid (MapV wr w.heap.size K) ∧ Hid (once K) ∧ Hid (K.map (·.1) = Z.map (·.1)) ∧ Hid (Two (w.heap.size + 1) w.heap.size W0 wr))
  case atStart => exact ⟨true, l.length + 1, [], [], 65536, rfl, Nat.le_refl _, (fun _ => ⟨Nat.le_refl _, rfl, by simp⟩), (fun h => by cases h), (by show 0 + (l.filter fun x => !hasZ [] x.1).length ≤ l.length; rw [Nat.zero_add]; exact List.length_filter_le _ _), HC.out, HM.out, List.nodup_nil, rfl, Two.refl _ _ _⟩
  case round =>
    obtain ⟨b, f, Z, K, n, rfl, hn, hb1, hb2, hu, hCk, hMk, hOk, hKk, hT⟩ := hrel
    have hws := hT.out.size
    cases b
    · have he := hb2.out rfl
      have hZl : Z.length ≤ l.length := by have := hu.out; omega
      have HE : Hid (EndsP w l wr (w.heap.size + 1)) := ⟨w.heap.size, K, Nat.le_refl _, Nat.lt_succ_self _, by rw [he]; exact hCk.out, hMk.out, hOk.out, by rw [he]; exact hKk.out, by rw [he]; exact hZl, by rw [he]; exact hn, HB0.out.trans (hT.out.below (by omega) (Nat.le_refl _) (by omega))⟩
      clear hb1 hb2 he hu
      go_wp2
      go_ret
      exact ⟨_, rfl, HE.out⟩
    · obtain ⟨hg, he, hfz⟩ := hb1.out rfl
      have hZl : Z.length ≤ l.length := by have := hu.out; omega
      obtain ⟨f, rfl⟩ : ∃ f', f = f' + 1 := ⟨f - 1, by omega⟩
      have kb : ∀ g, S g → wr.heap[g]? = w.heap[g]? := fun g hg => by have := HS.out g hg; exact (hT.out.block g (by omega) (by omega) (by omega)).trans (HB0.out.block g this)
      have CR := round_any (w.heap.size + 1) w.heap.size S l us a c K Z n wr (fun g hg => by have := HS.out g hg; omega) (by omega) HF.out HLEN.out (by have h1 := HLL.out; have h2 := congrArg List.length hKk.out; rw [List.length_map, List.length_map] at h2; omega)
        (HR.out.keep (fun _ h => h) kb) (fun i h h' => ⟨(HU.out i h h').1, (HU.out i h h').2.keep (fun _ h => h) kb⟩) hn hCk.out hMk.out hOk.out hKk.out
      have hun : endsGo l (f + 1) Z n = if Z.length < (roundZ Z n l).1.length then endsGo l f (roundZ Z n l).1 (roundZ Z n l).2 else roundZ Z n l := rfl
      rw [hun] at he
      have hu2 := round_unk l l Z n (fun _ h => h) hu.out
      have hle := roundZ_le l Z n
      have HCR := Lib.hid CR; have HE := Lib.hid he; have HU2 := Lib.hid hu2; have HT0 := Lib.hid hT.out
      clear CR hun he hu2 hb1 hb2 kb hu hCk hMk hOk hKk hT
      generalize roundZ Z n l = r at *
      obtain ⟨Z', n'⟩ := r
      dsimp only at *
      by_cases hgt : Z.length < Z'.length
      · have h1 := HE.out
        rw [if_pos hgt] at h1
        have C1 := HCR.out
        rw [decide_eq_true hgt] at C1
        have HCR := Lib.hid C1; have HE := Lib.hid h1
        clear C1 h1
        go_wp2_with (go_at_call 70; (with_reducible refine HCR.out.mono ?_); rintro e w1 ⟨rfl, k1, ⟨K', m1, m2, m3, m4⟩, t1⟩; have A1 := Lib.hid k1; have A2 := Lib.hid m1; have A3 := Lib.hid m2; have A4 := Lib.hid m3; have A5 := Lib.hid t1; clear k1 m1 m2 m3 m4 t1)
        go_roundg (f + 1)
        case measure => omega
        case rel => exact ⟨true, f, Z', K', n', rfl, by omega, (fun _ => ⟨Nat.le_refl _, HE.out, by omega⟩), (fun h => by cases h), HU2.out, A1.out, A2.out, A3.out, A4.out, HT0.out.trans A5.out⟩
      · have h1 := HE.out
        rw [if_neg hgt] at h1
        have C1 := HCR.out
        rw [decide_eq_false hgt] at C1
        have HCR := Lib.hid C1; have HE := Lib.hid h1
        clear C1 h1
        go_wp2_with (go_at_call 70; (with_reducible refine HCR.out.mono ?_); rintro e w1 ⟨rfl, k1, ⟨K', m1, m2, m3, m4⟩, t1⟩; have A1 := Lib.hid k1; have A2 := Lib.hid m1; have A3 := Lib.hid m2; have A4 := Lib.hid m3; have A5 := Lib.hid t1; clear k1 m1 m2 m3 m4 t1)
        go_roundg (f + 1)
        case measure => omega
        case rel => exact ⟨false, f, Z', K', n', rfl, by omega, (fun h => by cases h), (fun _ => HE.out), HU2.out, A1.out, A2.out, A3.out, A4.out, HT0.out.trans A5.out⟩
end Sp
end Go.Proofs.Ytdophmlnmbcjlaa
namespace Go.Proofs.Ytdophmlnmbcjlaa
open Go.RowKit
namespace Sp
open Sc
/-- The entries of the map are the named types. -/
structure EntV (w : World) (S : Nat → Prop) (l : List NT) (us : List (List UInt8 × C4)) : Prop where
  len : us.length = l.length
  ent : ∀ i (h : i < l.length) (h' : i < us.length), us[i].1 = l[i].1 ∧ TzV w S l[i].2 us[i].2
theorem EntV.keep {w w' : World} {S : Nat → Prop} {l : List NT} {us : List (List UInt8 × C4)} (h : EntV w S l us) (hk : ∀ g, S g → w'.heap[g]? = w.heap[g]?) : EntV w' S l us :=
  ⟨h.len, fun i h1 h2 => ⟨(h.ent i h1 h2).1, (h.ent i h1 h2).2.keep (fun _ h => h) hk⟩⟩
theorem TzV.zero (w : World) (S : Nat → Prop) : TzV w S (.mk 0 [] [] []) C4.zero :=
  .mk 0 [] [] [] none 0 none 0 [] rfl (.inl rfl) (.inl rfl) (fun i h => by cases h)
theorem lastN_mem {β : Type} (z : List (List UInt8 × β)) (s : List UInt8) (y : β) (h : lastN z s = some y) : ∃ x ∈ z, x.2 = y := by
  unfold lastN at h
  cases hf : z.reverse.find? (fun x => decide (x.1 = s)) with
  | none => rw [hf] at h; cases h
  | some x =>
    rw [hf] at h
    simp only [Option.map_some, Option.some.injEq] at h
    exact ⟨x, List.mem_reverse.1 (List.mem_of_find?_eq_some hf), h⟩
/-- What a name stands for, in memory and by itself. -/
theorem EntV.look {w : World} {S : Nat → Prop} {l : List NT} {us : List (List UInt8 × C4)} (h : EntV w S l us) (s : List UInt8) : TzV w S (lookZ l s) (lookC us s) := by
  let z : List (List UInt8 × (C4 × Tz)) := (us.zip l).map fun p => (p.1.1, (p.1.2, p.2.2))
  have hzl : z.length = l.length := by simp only [z, List.length_map, List.length_zip, h.len, Nat.min_self]
  have hz1 : z.map (fun x => (x.1, x.2.1)) = us := by
    apply List.ext_getElem
    · rw [List.length_map, hzl, h.len]
    · intro i h1 h2
      simp only [z, List.getElem_map, List.getElem_zip]
  have hz2 : z.map (fun x => (x.1, x.2.2)) = l := by
    apply List.ext_getElem
    · rw [List.length_map, hzl]
    · intro i h1 h2
      simp only [z, List.getElem_map, List.getElem_zip]
      rw [(h.ent i h2 (by rw [h.len]; exact h2)).1]
  have hz3 : ∀ x ∈ z, TzV w S x.2.2 x.2.1 := by
    intro x hx
    obtain ⟨i, hi, rfl⟩ := List.getElem_of_mem hx
    simp only [z, List.getElem_map, List.getElem_zip]
    rw [hzl] at hi
    exact (h.ent i hi (by rw [h.len]; exact hi)).2
  unfold lookZ lookC
  rw [← hz1, ← hz2, lastN_map z (fun x => x.1), lastN_map z (fun x => x.2)]
  cases hl : lastN z s with
  | none => exact TzV.zero w S
  | some y =>
    obtain ⟨x, hx, rfl⟩ := lastN_mem z s y hl
    exact hz3 x hx
/-- Names that memory can hold, of all entries. -/
def fitL (l : List NT) : Prop := ∀ i (h : i < l.length), fitZ l[i].2 = true
theorem fitL_look {l : List NT} (h : fitL l) (s : List UInt8) : fitZ (lookZ l s) = true := by
  unfold lookZ
  cases hl : lastN l s with
  | none => rfl
  | some y =>
    obtain ⟨x, hx, rfl⟩ := lastN_mem l s y hl
    obtain ⟨i, hi, rfl⟩ := List.getElem_of_mem hx
    exact h i hi
theorem set_four {w : World} {b : Nat} {t : TypeId} {v0 v1 v2 v3 u0 u1 u2 u3 : Value} (h : w.heap[b]? = some (.cells #[v0, v1, v2, v3] t (0, 0))) :
    ((((w.setCell ⟨b, 0, none⟩ u0).setCell ⟨b, 1, none⟩ u1).setCell ⟨b, 2, none⟩ u2).setCell ⟨b, 3, none⟩ u3).heap[b]? = some (.cells #[u0, u1, u2, u3] t (0, 0)) := by
  unfold World.setCell; simp [Array.getElem?_modify, h]
set_option maxRecDepth 100000 in
set_option maxHeartbeats 8000000 in
theorem open_any (mb : Nat) (l : List NT) (us : List (List UInt8 × C4)) (S : Nat → Prop) (f : Nat) (t : Tz) (c : C4) (w : World) (hS : ∀ g, S g → g < w.heap.size) (hE : EntV w S l us) (hV : TzV w S t c) (hM : MapV w mb us)
    (hk : (openZ l f t).kind ≠ 9) (hft : fitZ t = true) (hfl : fitL l) :
    Calls Try.prog 92 #[.map (some mb), .agg #[.int .i64 c.k, .string c.n, .slice c.an c.ln c.cn, .slice c.ak c.lk c.ck]] w fun e w' => ∃ c' : C4, e = .returned (.agg #[.int .i64 c'.k, .string c'.n, .slice c'.an c'.ln c'.cn, .slice c'.ak c'.lk c'.ck]) ∧ c'.k = (openZ l f t).kind ∧ Below w.heap.size w w' := by
  obtain ⟨W0, hW0⟩ : ∃ W0, W0 = (w.alloc (.cells #[.int .i64 c.k, .string c.n, .slice c.an c.ln c.cn, .slice c.ak c.lk c.ck] 30)).alloc (.cells #[.int .i64 0, .string ⟨#[]⟩, .slice none 0 0, .slice none 0 0] 30) := ⟨_, rfl⟩
  have hs1 : (w.alloc (.cells #[.int .i64 c.k, .string c.n, .slice c.an c.ln c.cn, .slice c.ak c.lk c.ck] 30)).heap.size = w.heap.size + 1 := by simp
  have hs0 : W0.heap.size = w.heap.size + 2 := by rw [hW0]; simp
  have hb1 : Below w.heap.size w (w.alloc (.cells #[.int .i64 c.k, .string c.n, .slice c.an c.ln c.cn, .slice c.ak c.lk c.ck] 30)) := (Below.refl _ _).alloc (Nat.le_refl _) _
  have hb0 : Below w.heap.size w W0 := by rw [hW0]; exact hb1.alloc (by omega) _
  have hx0 : W0.heap[w.heap.size]? = some (.cells #[.int .i64 c.k, .string c.n, .slice c.an c.ln c.cn, .slice c.ak c.lk c.ck] 30 (0, 0)) := by
    rw [hW0]
    refine (((Below.refl _ _).alloc (Nat.le_refl _) _ : Below (w.alloc (.cells #[.int .i64 c.k, .string c.n, .slice c.an c.ln c.cn, .slice c.ak c.lk c.ck] 30)).heap.size _ _).block w.heap.size (by omega)).trans ?_
    exact heap_alloc_new w _
  have hy0 : W0.heap[w.heap.size + 1]? = some (.cells #[.int .i64 0, .string ⟨#[]⟩, .slice none 0 0, .slice none 0 0] 30 (0, 0)) := by
    rw [hW0]
    have := heap_alloc_new (w.alloc (.cells #[.int .i64 c.k, .string c.n, .slice c.an c.ln c.cn, .slice c.ak c.lk c.ck] 30)) (.cells #[.int .i64 0, .string ⟨#[]⟩, .slice none 0 0, .slice none 0 0] 30)
    rw [hs1] at this
    exact this
  have HS := Lib.hid hS; have HE := Lib.hid hE; have HV := Lib.hid hV; have HM := Lib.hid hM; have HK := Lib.hid hk; have HB0 := Lib.hid hb0; have HX0 := Lib.hid hx0; have HY0 := Lib.hid hy0; have HW0 := Lib.hid hW0; have HFL := Lib.hid hfl
  clear hS hE hV hM hk hb0 hx0 hy0 hW0 hs1 hb1 hfl
  go_enter Try.func92, Try.ntmps92
  go_wp2
  rw [← HW0.out]
  go_loopg [] (f + 1) (fun gg wr => ∃ f' t' c', f' ≤ gg ∧ fitZ t' = true ∧ Hid (openZ l f t = openZ l f' t') ∧ Hid (TzV wr S t' c') ∧ Hid (wr.heap[w.heap.size]? = some (.cells #[.int .i64 c'.k, .string c'.n, .slice c'.an c'.ln c'.cn, .slice c'.ak c'.lk c'.ck] 30 (0, 0))) ∧ Hid (wr.heap[w.heap.size + 1]? = some (.cells #[.int .i64 0, .string ⟨#[]⟩, .slice none 0 0, .slice none 0 0] 30 (0, 0))) ∧ Hid (Below w.heap.size w wr) ∧ wr.heap.size = w.heap.size + 2)
  case atStart => exact ⟨f, t, c, by omega, hft, rfl, HV.out.later HS.out HB0.out, HX0, HY0, HB0, hs0⟩
  case round =>
    obtain ⟨f', t', c', hg, hft', hq, hVr, hX, hY, hB, hws⟩ := hrel
    obtain ⟨k, nm, ns, ks⟩ := t'
    have hV2 := hVr.out
    cases hV2 with
    | mk _ _ _ _ an cn ak ck vs hl hn hk' hu =>
    obtain ⟨⟨p0, p1, p2, p3⟩, ⟨z0, z1, z2, z3⟩⟩ := four_blk hX.out
    clear hl hn hk' hu
    dsimp only at p0 p1 p2 p3
    by_cases h9 : k = 9
    · subst h9
      obtain ⟨f', rfl⟩ : ∃ f2, f' = f2 + 1 := by
        cases f' with
        | zero => exact absurd (by rw [hq.out]; rfl) HK.out
        | succ f2 => exact ⟨f2, rfl⟩
      have hq2 : openZ l f t = openZ l f' (lookZ l nm) := hq.out
      have hat := (HM.out.below hB.out).at nm (fitZ_mk hft').1
      have hVn := (HE.out.keep (fun g hg => hB.out.block g (HS.out g hg))).look nm
      have HQ := Lib.hid hq2; have HVN := Lib.hid hVn; have HFN := Lib.hid (fitL_look HFL.out nm)
      clear hq2 hq hVn hVr
      generalize lookC us nm = d at *
      generalize lookZ l nm = t2 at *
      obtain ⟨d1, d2, d3, d4, d5, d6, d7, d8⟩ := d
      unfold C4.val at hat
      dsimp only at hat
      obtain ⟨W2, hW2⟩ : ∃ W2, W2 = (((wr.setCell ⟨w.heap.size, 0, none⟩ (.int .i64 d1)).setCell ⟨w.heap.size, 1, none⟩ (.string d2)).setCell ⟨w.heap.size, 2, none⟩ (.slice d3 d4 d5)).setCell ⟨w.heap.size, 3, none⟩ (.slice d6 d7 d8) := ⟨_, rfl⟩
      have hX2 : W2.heap[w.heap.size]? = some (.cells #[.int .i64 d1, .string d2, .slice d3 d4 d5, .slice d6 d7 d8] 30 (0, 0)) := by rw [hW2]; exact set_four hX.out
      have hO2 : Only w.heap.size wr W2 := by rw [hW2]; exact ((((Only.refl _ wr).setCell 0 _).setCell 1 _).setCell 2 _).setCell 3 _
      have hs2 : W2.heap.size = wr.heap.size := by rw [hW2]; simp [World.setCell]
      have HX2 := Lib.hid hX2; have HO2 := Lib.hid hO2; have HW2 := Lib.hid hW2
      clear hX2 hO2 hW2
      go_wp2
      rw [← HW2.out]
      go_roundg (f')
      case measure => omega
      case rel => exact ⟨f', t2, ⟨d1, d2, d3, d4, d5, d6, d7, d8⟩, Nat.le_refl _, HFN.out, HQ, HVN.out.keep (fun _ h => h) (fun g hg => HO2.out.block g (by have := HS.out g hg; omega) (fun e => by cases e; exact absurd (HS.out _ hg) (Nat.lt_irrefl _))), HX2, (HO2.out.block _ (by omega) (fun e => absurd (Option.some.inj e) (by omega))).trans hY.out, hB.out.trans (HO2.out.below (Nat.le_refl _) hB.out.size), by omega⟩
    · have hq2 : (openZ l f t).kind = k := by
        rw [hq.out]
        cases f' with
        | zero => rfl
        | succ f2 => show (if k = 9 then _ else Tz.mk k nm ns ks).kind = k; rw [if_neg h9]; rfl
      have t9 : (k == 9) = false := by simpa using h9
      have HQ := Lib.hid hq2
      obtain ⟨⟨r0, r1, r2, r3⟩, ⟨y0, y1, y2, y3⟩⟩ := four_blk hY.out
      clear hq hq2 h9
      obtain ⟨W3, hW3⟩ : ∃ W3, W3 = (((wr.setCell ⟨w.heap.size + 1, 0, none⟩ (.int .i64 k)).setCell ⟨w.heap.size + 1, 1, none⟩ (.string ⟨nm.toArray⟩)).setCell ⟨w.heap.size + 1, 2, none⟩ (.slice an ns.length cn)).setCell ⟨w.heap.size + 1, 3, none⟩ (.slice ak ks.length ck) := ⟨_, rfl⟩
      have hX3 : W3.heap[w.heap.size + 1]? = some (.cells #[.int .i64 k, .string ⟨nm.toArray⟩, .slice an ns.length cn, .slice ak ks.length ck] 30 (0, 0)) := by rw [hW3]; exact set_four hY.out
      have hO3 : Only (w.heap.size + 1) wr W3 := by rw [hW3]; exact ((((Only.refl _ wr).setCell 0 _).setCell 1 _).setCell 2 _).setCell 3 _
      have HX3 := Lib.hid hX3; have HO3 := Lib.hid hO3; have HW3 := Lib.hid hW3
      clear hX3 hO3 hW3
      go_wp2
      rw [← HW3.out]
      clear r0 r1 r2 r3
      obtain ⟨⟨r0, r1, r2, r3⟩, _⟩ := four_blk HX3.out
      have hlt : w.heap.size + 1 < W3.heap.size := (Array.getElem?_eq_some_iff.1 HX3.out).1
      refine bodyPost_ret (v := .agg #[.int .i64 k, .string ⟨nm.toArray⟩, .slice an ns.length cn, .slice ak ks.length ck]) (by simp [results, Try.results92, go_sem, r0, r1, r2, r3]) rfl ?_
      exact ⟨⟨k, ⟨nm.toArray⟩, an, ns.length, cn, ak, ks.length, ck⟩, rfl, HQ.out.symm, hB.out.trans (HO3.out.below (by omega) hB.out.size)⟩
end Sp
end Go.Proofs.Ytdophmlnmbcjlaa
