/- ShapeNames' plain part: a type with a name that nobody has, so many down. -/
import Derived.Test.YtjjpjkkaogfoaaaZPure
namespace Go.Proofs.Ytjjpjkkaogfoaaa
namespace Sp
open Sc

def zN (n : List UInt8) : Tz := .mk 9 n [] []
def zI : Tz := .mk 2 [] [] []
/-- What the loop makes: a name that nobody has, so many down. -/
inductive GoneT : Nat → Tz → Prop where
  | name : GoneT 0 (zN [71, 111, 110, 101])
  | list {k : Nat} {t : Tz} : GoneT k t → GoneT (k + 1) (.mk 4 [] [] [t])
  | rcd {k : Nat} {t : Tz} : GoneT k t → GoneT (k + 1) (.mk 7 [] [[97], [98]] [zI, t])
  | union {k : Nat} {t : Tz} : GoneT k t → GoneT (k + 1) (.mk 8 [] [[97]] [t])
  | map {k : Nat} {t : Tz} : GoneT k t → GoneT (k + 1) (.mk 5 [] [] [t])

theorem one_go (has : List UInt8 → Bool) (d n : Nat) (k : Int) (nm : List UInt8) (ns : List (List UInt8)) (ks : List Tz) (hn : n + 1 ≤ 400) (hd : d ≤ 12) (ho : ownE has k nm ns ks.length = 0) : oneZ has d n (.mk k nm ns ks) = allZ has (d + 1) (n + 1) ks := by
  rw [oneZ, if_neg (by omega), if_neg (by omega), ho, if_neg (by decide)]
theorem one_own (has : List UInt8 → Bool) (d n : Nat) (k : Int) (nm : List UInt8) (ns : List (List UInt8)) (ks : List Tz) (e : Nat) (hn : n + 1 ≤ 400) (hd : d ≤ 12) (ho : ownE has k nm ns ks.length = e) (he : e ≠ 0) : oneZ has d n (.mk k nm ns ks) = (e, n + 1) := by
  rw [oneZ, if_neg (by omega), if_neg (by omega), ho, if_pos he]
theorem one_zI (has : List UInt8 → Bool) (d n : Nat) (hn : n + 1 ≤ 400) (hd : d ≤ 12) : oneZ has d n zI = (0, n + 1) := by
  show oneZ has d n (.mk 2 [] [] []) = _
  rw [one_go has d n 2 [] [] [] hn hd rfl, allZ]
theorem all_one {has : List UInt8 → Bool} {d n : Nat} {t : Tz} : allZ has d n [t] = oneZ has d n t := by
  rw [allZ]
  split
  · next h => rw [allZ]; exact Prod.ext h.symm rfl
  · rfl
theorem all_two {has : List UInt8 → Bool} {d n : Nat} {t u : Tz} (h : (oneZ has d n t).1 = 0) : allZ has d n [t, u] = oneZ has d (oneZ has d n t).2 u := by
  rw [allZ, if_pos h, all_one]

theorem gone_no {has : List UInt8 → Bool} (hh : has [71, 111, 110, 101] = false) : ∀ {k : Nat} {t : Tz}, GoneT k t → ∀ d n, d + k ≤ 12 → n + 2 * k + 1 ≤ 400 → (oneZ has d n t).1 = 15 := by
  intro k t h
  induction h with
  | name => intro d n hd hn; show (oneZ has d n (.mk 9 _ [] [])).1 = 15; rw [one_own has d n 9 _ [] [] 15 (by omega) (by omega) (by simp [ownE, formB, kidsN, hh]) (by decide)]
  | list h ih => intro d n hd hn; rw [one_go has d n 4 [] [] _ (by omega) (by omega) rfl, all_one]; exact ih _ _ (by omega) (by omega)
  | rcd h ih =>
    intro d n hd hn
    rw [one_go has d n 7 [] [[97], [98]] _ (by omega) (by omega) rfl, all_two (by rw [one_zI _ _ _ (by omega) (by omega)]), one_zI _ _ _ (by omega) (by omega)]
    exact ih _ _ (by omega) (by omega)
  | union h ih => intro d n hd hn; rw [one_go has d n 8 [] [[97]] _ (by omega) (by omega) rfl, all_one]; exact ih _ _ (by omega) (by omega)
  | map h ih => intro d n hd hn; rw [one_go has d n 5 [] [] _ (by omega) (by omega) rfl, all_one]; exact ih _ _ (by omega) (by omega)
theorem gone_yes {has : List UInt8 → Bool} (hh : has [71, 111, 110, 101] = true) : ∀ {k : Nat} {t : Tz}, GoneT k t → ∀ d n, d + k ≤ 12 → n + 2 * k + 1 ≤ 400 → (oneZ has d n t).1 = 0 ∧ (oneZ has d n t).2 ≤ n + 2 * k + 1 := by
  intro k t h
  induction h with
  | name => intro d n hd hn; show (oneZ has d n (.mk 9 _ [] [])).1 = 0 ∧ _; rw [zN, one_go has d n 9 _ [] [] (by omega) (by omega) (by simp [ownE, formB, kidsN, hh, fieldE, namesE]), allZ]; exact ⟨rfl, by show n + 1 ≤ _; omega⟩
  | list h ih => intro d n hd hn; rw [one_go has d n 4 [] [] _ (by omega) (by omega) rfl, all_one]; have := ih (d + 1) (n + 1) (by omega) (by omega); exact ⟨this.1, by omega⟩
  | rcd h ih =>
    intro d n hd hn
    rw [one_go has d n 7 [] [[97], [98]] _ (by omega) (by omega) rfl, all_two (by rw [one_zI _ _ _ (by omega) (by omega)]), one_zI _ _ _ (by omega) (by omega)]
    have := ih (d + 1) (n + 1 + 1) (by omega) (by omega); exact ⟨this.1, by show (oneZ _ _ (n + 1 + 1) _).2 ≤ _; omega⟩
  | union h ih => intro d n hd hn; rw [one_go has d n 8 [] [[97]] _ (by omega) (by omega) rfl, all_one]; have := ih (d + 1) (n + 1) (by omega) (by omega); exact ⟨this.1, by omega⟩
  | map h ih => intro d n hd hn; rw [one_go has d n 5 [] [] _ (by omega) (by omega) rfl, all_one]; have := ih (d + 1) (n + 1) (by omega) (by omega); exact ⟨this.1, by omega⟩
theorem gone_nest (l : List NT) {k : Nat} {t : Tz} (h : GoneT k t) : nestZ l t = false := by
  induction h with
  | name => rfl
  | rcd h ih => simp [nestZ, nestsZ, ih, zI]
  | _ h ih => simp [nestZ, nestsZ, ih]
theorem gone_opens (l : List NT) {k : Nat} {t : Tz} (h : GoneT k t) : opensZ l t = true := by
  induction h with
  | name => rfl
  | rcd h ih => simp [opensZ, opensZs, ih, zI]
  | _ h ih => simp [opensZ, opensZs, ih]
theorem gone_fit {k : Nat} {t : Tz} (h : GoneT k t) : fitZ t = true := by
  induction h with
  | name => rfl
  | rcd h ih => simp [fitZ, fitZs, ih, zI]; decide
  | _ h ih => simp [fitZ, fitZs, ih]; try decide
theorem fin_left {known : List UInt8 → Bool} {k : Nat} {t : Tz} (h : GoneT k t) : ∀ n, 2 * k + 2 ≤ n → n ≤ (finZ known n t).2 + 2 * k + 1 ∧ (known [71, 111, 110, 101] = true → (finZ known n t).1 = true) := by
  induction h with
  | name => intro n hn; rw [zN, finZ, if_neg (by omega), if_neg (by omega), if_neg (by omega), if_neg (by omega), if_pos rfl]; exact ⟨by dsimp only; omega, fun h => h⟩
  | list h ih => intro n hn; rw [finZ, if_neg (by omega), if_pos (by omega)]; exact ⟨by dsimp only; omega, fun _ => rfl⟩
  | map h ih => intro n hn; rw [finZ, if_neg (by omega), if_pos (by omega)]; exact ⟨by dsimp only; omega, fun _ => rfl⟩
  | @rcd k t h ih =>
    intro n hn
    have e : finZ known (n - 1) zI = (true, n - 1 - 1) := by rw [zI, finZ, if_neg (by omega), if_pos (by omega)]
    obtain ⟨a, b⟩ := ih (n - 1 - 1) (by omega)
    rw [finZ, if_neg (by omega), if_neg (by omega), if_pos rfl, everyZ, e, if_pos rfl, everyZ]
    split
    · next hh => rw [everyZ]; exact ⟨by dsimp only; omega, fun _ => rfl⟩
    · next hh => exact ⟨by dsimp only; omega, fun h => absurd (b h) hh⟩
  | @union k t h ih =>
    intro n hn
    obtain ⟨a, b⟩ := ih (n - 1) (by omega)
    rw [finZ, if_neg (by omega), if_neg (by omega), if_neg (by omega), if_pos rfl, someZ]
    split
    · next hh => exact ⟨by dsimp only; omega, fun _ => rfl⟩
    · next hh =>
      rw [if_neg (by omega), someZ]
      exact ⟨by dsimp only; omega, fun h => absurd (b h) hh⟩

theorem check_sch {s : Sz} {e : Nat} (h1 : s.types.length ≤ 12 ∧ s.sigs.length ≤ 12) (h2 : namesE wordB [] (s.types.map (·.1)) = 0) (h3 : schZ s = e) (he : e ≠ 0) : checkZ s = some e := by
  unfold checkZ
  rw [if_neg (by omega), h2, if_neg (by decide), h3, if_pos he]
theorem check_ok {s : Sz} (h1 : s.types.length ≤ 12 ∧ s.sigs.length ≤ 12) (h2 : namesE wordB [] (s.types.map (·.1)) = 0) (h3 : schZ s = 0) (h4 : s.types.length ≤ (endsZ s.types).1.length) (h5 : optOk s = true) (h6 : optOf s = false) : checkZ s = some 0 := by
  unfold checkZ
  rw [if_neg (by omega), h2, if_neg (by decide), h3, if_neg (by decide), if_neg (by omega), if_pos h5, h6]
  rfl
theorem ends_gone {k : Nat} {t : Tz} (h : GoneT k t) (hk : k ≤ 8) : (endsZ [([65], t), ([71, 111, 110, 101], zI)]).1.length = 2 := by
  have fI : ∀ K n, 1 ≤ n → finZ K n zI = (true, n - 1) := fun K n hn => by rw [zI, finZ, if_neg (by omega), if_pos (by omega)]
  unfold endsZ
  cases hf : (finZ (hasZ ([] : List NT)) 65536 t).1 with
  | true =>
    have a := (fin_left (known := hasZ ([] : List NT)) h 65536 (by omega)).1
    have e : roundZ [] 65536 [([65], t), ([71, 111, 110, 101], zI)] = ([([65], t), ([71, 111, 110, 101], zI)], (finZ (hasZ ([] : List NT)) 65536 t).2 - 1) := by
      rw [roundZ, if_neg (by simp [hasZ]), if_pos hf, roundZ, if_neg (by simp [hasZ]), fI _ (finZ (hasZ ([] : List NT)) 65536 t).2 (by omega), if_pos rfl, roundZ]; rfl
    have e2 : ∀ n, roundZ [([65], t), ([71, 111, 110, 101], zI)] n [([65], t), ([71, 111, 110, 101], zI)] = ([([65], t), ([71, 111, 110, 101], zI)], n) := fun n => by
      rw [roundZ, if_pos (by simp [hasZ]), roundZ, if_pos (by simp [hasZ]), roundZ]
    show (endsGo _ 3 [] 65536).1.length = 2
    rw [endsGo, e, if_pos (by simp), endsGo, e2, if_neg (by simp)]
    rfl
  | false =>
    have a := (fin_left (known := hasZ ([] : List NT)) h 65536 (by omega)).1
    obtain ⟨n1, hn1⟩ : ∃ n1, n1 = (finZ (hasZ ([] : List NT)) 65536 t).2 - 1 := ⟨_, rfl⟩
    have e : roundZ [] 65536 [([65], t), ([71, 111, 110, 101], zI)] = ([([71, 111, 110, 101], zI)], n1) := by
      rw [roundZ, if_neg (by simp [hasZ]), if_neg (by rw [hf]; decide), roundZ, if_neg (by simp [hasZ]), fI _ (finZ (hasZ ([] : List NT)) 65536 t).2 (by omega), if_pos rfl, roundZ, hn1]; rfl
    have b := fin_left (known := hasZ ([([71, 111, 110, 101], zI)] : List NT)) h n1 (by omega)
    have e1 : roundZ [([71, 111, 110, 101], zI)] n1 [([65], t), ([71, 111, 110, 101], zI)] = ([([71, 111, 110, 101], zI), ([65], t)], (finZ (hasZ ([([71, 111, 110, 101], zI)] : List NT)) n1 t).2) := by
      rw [roundZ, if_neg (by simp [hasZ]), if_pos (b.2 (by simp [hasZ])), roundZ, if_pos (by simp [hasZ]), roundZ]; rfl
    have e2 : ∀ n, roundZ [([71, 111, 110, 101], zI), ([65], t)] n [([65], t), ([71, 111, 110, 101], zI)] = ([([71, 111, 110, 101], zI), ([65], t)], n) := fun n => by
      rw [roundZ, if_pos (by simp [hasZ]), roundZ, if_pos (by simp [hasZ]), roundZ]
    show (endsGo _ 3 [] 65536).1.length = 2
    rw [endsGo, e, if_pos (by show 0 < 1; decide), endsGo, e1, if_pos (by show 1 < 2; decide), endsGo, e2, if_neg (by show ¬ 2 < 2; decide)]
    rfl

def goneN : NT := ([71, 111, 110, 101], zI)
/-- The schemas of the four places. -/
def goneS (p : Nat) (t : Tz) (more : List NT) : Sz :=
  match p with
  | 0 => ⟨t, more, []⟩
  | 1 => ⟨zI, [([65], t)] ++ more, []⟩
  | 2 => ⟨zI, more, [⟨[102], [zI, t], zI⟩]⟩
  | _ => ⟨zI, more, [⟨[102], [], t⟩]⟩
theorem gone_check (p : Nat) (hp : p < 4) {k : Nat} {t : Tz} (h : GoneT k t) (hk : k ≤ 8) : checkZ (goneS p t []) = some 15 := by
  match p, hp with
  | 0, _ => exact check_sch ⟨by simp [goneS], by simp [goneS]⟩ rfl (by
      show schZ ⟨t, [], []⟩ = 15
      unfold schZ
      have := gone_no (has := hasZ ([] : List NT)) rfl h 1 0 (by omega) (by omega)
      simp [allZ, this]) (by decide)
  | 1, _ => exact check_sch ⟨by simp [goneS], by simp [goneS]⟩ rfl (by
      show schZ ⟨zI, [([65], t)], []⟩ = 15
      unfold schZ
      have := gone_no (has := hasZ ([([65], t)] : List NT)) (by simp [hasZ]) h 1 0 (by omega) (by omega)
      simp [all_one, this]) (by decide)
  | 2, _ => exact check_sch ⟨by simp [goneS], by simp [goneS]⟩ rfl (by
      show schZ ⟨zI, [], [⟨[102], [zI, t], zI⟩]⟩ = 15
      unfold schZ
      have := gone_no (has := hasZ ([] : List NT)) rfl h 1 2 (by omega) (by omega)
      have o := one_zI (hasZ ([] : List NT)) 1 0 (by omega) (by omega)
      have o1 := one_zI (hasZ ([] : List NT)) 1 1 (by omega) (by omega)
      have n0 : nameE [] [102] (builtinB [102]) = 0 := by kernel_rfl
      simp [allZ, o, fnsZ, fnZ, n0, o1, this]) (by decide)
  | 3, _ => exact check_sch ⟨by simp [goneS], by simp [goneS]⟩ rfl (by
      show schZ ⟨zI, [], [⟨[102], [], t⟩]⟩ = 15
      unfold schZ
      have := gone_no (has := hasZ ([] : List NT)) rfl h 1 1 (by omega) (by omega)
      have o := one_zI (hasZ ([] : List NT)) 1 0 (by omega) (by omega)
      have n0 : nameE [] [102] (builtinB [102]) = 0 := by kernel_rfl
      simp [allZ, o, fnsZ, fnZ, n0, this]) (by decide)
theorem gone_ok (p : Nat) (hp : p < 4) {k : Nat} {t : Tz} (h : GoneT k t) (hk : k ≤ 8) : checkZ (goneS p t [goneN]) = some 0 := by
  have hs := fun (L : List NT) (hL : hasZ L [71, 111, 110, 101] = true) d n => gone_yes (has := hasZ L) hL h d n
  have ne := gone_nest
  have op := gone_opens
  have nI : ∀ l, nestZ l zI = false := fun l => rfl
  have oI : ∀ l, opensZ l zI = true := fun l => rfl
  have hg : goneN.2 = zI := rfl
  have n0 : nameE [] [102] (builtinB [102]) = 0 := by kernel_rfl
  match p, hp with
  | 0, _ => exact check_ok ⟨by simp [goneS], by simp [goneS]⟩ (show namesE wordB [] [[71, 111, 110, 101]] = 0 from by kernel_rfl) (by
      show schZ ⟨t, [goneN], []⟩ = 0
      unfold schZ
      have q := hs [goneN] rfl 1 1 (by omega) (by omega)
      have o := one_zI (hasZ [goneN]) 1 0 (by omega) (by omega)
      show (if (allZ (hasZ [goneN]) 1 0 [zI]).1 ≠ 0 then _ else _) = 0
      simp [all_one, hg, o, q.1, fnsZ]) (by show 1 ≤ (endsZ [goneN]).1.length; decide +kernel) (by
      show (opensZs [goneN] [zI] && [].all _ && opensZ [goneN] t) = true
      simp [opensZs, oI, op _ h]) (by
      show (nestsZ [goneN] [zI] || [].any _ || nestZ [goneN] t) = false
      simp [nestsZ, nI, ne _ h])
  | 1, _ => exact check_ok ⟨by simp [goneS], by simp [goneS]⟩ (show namesE wordB [] [[65], [71, 111, 110, 101]] = 0 from by kernel_rfl) (by
      show schZ ⟨zI, [([65], t), goneN], []⟩ = 0
      unfold schZ
      have q := hs [([65], t), goneN] (by simp [hasZ, goneN]) 1 0 (by omega) (by omega)
      have o := one_zI (hasZ [([65], t), goneN]) 1 _ (show (oneZ (hasZ [([65], t), goneN]) 1 0 t).2 + 1 ≤ 400 by omega) (by omega)
      have o2 := one_zI (hasZ [([65], t), goneN]) 1 _ (show (oneZ (hasZ [([65], t), goneN]) 1 0 t).2 + 1 + 1 ≤ 400 by omega) (by omega)
      show (if (allZ (hasZ [([65], t), goneN]) 1 0 [t, zI]).1 ≠ 0 then _ else _) = 0
      simp [all_two q.1, hg, o, o2, fnsZ]) (by show 2 ≤ (endsZ [([65], t), goneN]).1.length; rw [show (endsZ [([65], t), goneN]).1.length = 2 from ends_gone h hk]; exact Nat.le_refl 2) (by
      show (opensZs [([65], t), goneN] [t, zI] && [].all _ && opensZ [([65], t), goneN] zI) = true
      simp [opensZs, oI, op _ h]) (by
      show (nestsZ [([65], t), goneN] [t, zI] || [].any _ || nestZ [([65], t), goneN] zI) = false
      simp [nestsZ, nI, ne _ h])
  | 2, _ => exact check_ok ⟨by simp [goneS], by simp [goneS]⟩ (show namesE wordB [] [[71, 111, 110, 101]] = 0 from by kernel_rfl) (by
      show schZ ⟨zI, [goneN], [⟨[102], [zI, t], zI⟩]⟩ = 0
      unfold schZ
      have q := hs [goneN] rfl 1 3 (by omega) (by omega)
      have o := one_zI (hasZ [goneN]) 1 0 (by omega) (by omega)
      have o1 := one_zI (hasZ [goneN]) 1 1 (by omega) (by omega)
      have o2 := one_zI (hasZ [goneN]) 1 2 (by omega) (by omega)
      have o3 := one_zI (hasZ [goneN]) 1 _ (show (oneZ (hasZ [goneN]) 1 3 t).2 + 1 ≤ 400 by omega) (by omega)
      show (if (allZ (hasZ [goneN]) 1 0 [zI]).1 ≠ 0 then _ else _) = 0
      have o2' : (oneZ (hasZ [goneN]) 1 2 zI).1 = 0 := by rw [o2]
      have a2 : allZ (hasZ [goneN]) 1 2 [zI, t] = oneZ (hasZ [goneN]) 1 3 t := by rw [all_two o2', o2]
      simp [all_one, hg, o, o1, fnsZ, fnZ, n0, a2, q.1, o3]) (by show 1 ≤ (endsZ [goneN]).1.length; decide +kernel) (by
      show (opensZs [goneN] [zI] && [(⟨[102], [zI, t], zI⟩ : Sg)].all (fun g => opensZ [goneN] g.result && opensZs [goneN] g.params) && opensZ [goneN] zI) = true
      simp [opensZs, oI, op _ h]) (by
      show (nestsZ [goneN] [zI] || [(⟨[102], [zI, t], zI⟩ : Sg)].any (fun g => nestZ [goneN] g.result || nestsZ [goneN] g.params) || nestZ [goneN] zI) = false
      simp [nestsZ, nI, ne _ h])
  | 3, _ => exact check_ok ⟨by simp [goneS], by simp [goneS]⟩ (show namesE wordB [] [[71, 111, 110, 101]] = 0 from by kernel_rfl) (by
      show schZ ⟨zI, [goneN], [⟨[102], [], t⟩]⟩ = 0
      unfold schZ
      have q := hs [goneN] rfl 1 2 (by omega) (by omega)
      have o := one_zI (hasZ [goneN]) 1 0 (by omega) (by omega)
      have o1 := one_zI (hasZ [goneN]) 1 1 (by omega) (by omega)
      show (if (allZ (hasZ [goneN]) 1 0 [zI]).1 ≠ 0 then _ else _) = 0
      simp [all_one, hg, o, o1, fnsZ, fnZ, n0, allZ, q.1]) (by show 1 ≤ (endsZ [goneN]).1.length; decide +kernel) (by
      show (opensZs [goneN] [zI] && [(⟨[102], [], t⟩ : Sg)].all (fun g => opensZ [goneN] g.result && opensZs [goneN] g.params) && opensZ [goneN] zI) = true
      simp [opensZs, oI, op _ h]) (by
      show (nestsZ [goneN] [zI] || [(⟨[102], [], t⟩ : Sg)].any (fun g => nestZ [goneN] g.result || nestsZ [goneN] g.params) || nestZ [goneN] zI) = false
      simp [nestsZ, nI, ne _ h])
end Sp
end Go.Proofs.Ytjjpjkkaogfoaaa
