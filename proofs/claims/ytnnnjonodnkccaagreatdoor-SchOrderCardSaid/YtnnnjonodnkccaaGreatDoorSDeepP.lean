/- SchDeep: its texts, their words, what is read of them. No program is named here. -/
import Derived.Test.YtnnnjonodnkccaaGreatDoorSTk
namespace Go.Proofs.YtnnnjonodnkccaaGreatDoor
namespace Sh
open Sc

def opn : Nat → List UInt8
  | 0 => [76, 105, 115, 116, 60]
  | 1 => [123, 97, 58, 32]
  | 2 => [85, 110, 105, 111, 110, 32, 123, 97, 58, 32]
  | 3 => [77, 97, 112, 60]
  | _ => [79, 112, 116, 60]
def cls : Nat → List UInt8
  | 1 => [125]
  | 2 => [125]
  | _ => [62]
/-- The type's text: the ways down, the outermost first. -/
def deepS : List Nat → List UInt8
  | [] => [73, 110, 116]
  | c :: cs => opn c ++ (deepS cs ++ cls c)

def opnT : Nat → List (Nat × List UInt8)
  | 0 => [(1, [76, 105, 115, 116]), (4, [60])]
  | 1 => [(4, [123]), (1, [97]), (4, [58])]
  | 2 => [(1, [85, 110, 105, 111, 110]), (4, [123]), (1, [97]), (4, [58])]
  | 3 => [(1, [77, 97, 112]), (4, [60])]
  | _ => [(1, [79, 112, 116]), (4, [60])]
def clsT : Nat → List (Nat × List UInt8)
  | 1 => [(4, [125])]
  | 2 => [(4, [125])]
  | _ => [(4, [62])]
def deepT : List Nat → List (Nat × List UInt8)
  | [] => [(1, [73, 110, 116])]
  | c :: cs => opnT c ++ (deepT cs ++ clsT c)

theorem opn5 (c : Nat) : c = 0 ∨ c = 1 ∨ c = 2 ∨ c = 3 ∨ ∃ n, c = n + 4 := by
  match c with
  | 0 => exact .inl rfl
  | 1 => exact .inr (.inl rfl)
  | 2 => exact .inr (.inr (.inl rfl))
  | 3 => exact .inr (.inr (.inr (.inl rfl)))
  | n + 4 => exact .inr (.inr (.inr (.inr ⟨n, rfl⟩)))

theorem deepS_len (cs : List Nat) : (deepS cs).length ≤ 3 + 11 * cs.length := by
  induction cs with
  | nil => decide
  | cons c cs ih =>
    unfold deepS
    have h : (opn c).length ≤ 10 ∧ (cls c).length ≤ 1 := by rcases opn5 c with rfl | rfl | rfl | rfl | ⟨n, rfl⟩ <;> simp [opn, cls]
    simp only [List.length_append, List.length_cons]; omega
theorem deepT_len (cs : List Nat) : (deepT cs).length ≤ 1 + 5 * cs.length := by
  induction cs with
  | nil => decide
  | cons c cs ih =>
    unfold deepT
    have h : (opnT c).length ≤ 4 ∧ (clsT c).length ≤ 1 := by rcases opn5 c with rfl | rfl | rfl | rfl | ⟨n, rfl⟩ <;> simp [opnT, clsT]
    simp only [List.length_append, List.length_cons]; omega

theorem deepS_head (cs : List Nat) (x : List UInt8) : bsz (deepS cs ++ x) = 0 := by
  cases cs with
  | nil => rfl
  | cons c cs =>
    rcases opn5 c with rfl | rfl | rfl | rfl | ⟨n, rfl⟩ <;> rfl

/-- What may follow: nothing, or a closing sign. -/
def Sep (r : List UInt8) : Prop := r = [] ∨ ∃ x, r = 62 :: x ∨ r = 125 :: x
theorem Sep.bsz {r : List UInt8} (h : Sep r) : bsz r = 0 := by
  rcases h with rfl | ⟨x, rfl | rfl⟩ <;> rfl

theorem deep_words (cs : List Nat) : ∀ (r : List UInt8) (ws : List (Nat × List UInt8)), Sep r → TKs r ws → TKs (deepS cs ++ r) (deepT cs ++ ws) := by
  induction cs with
  | nil =>
    intro r ws hr h
    have := TKs.word (u := [73, 110, 116]) (b := []) h 1 [73, 110, 116] 0 (by decide) (by rcases hr with rfl | ⟨x, rfl | rfl⟩ <;> rfl) (by rw [List.nil_append]; exact hr.bsz)
    exact this
  | cons c cs ih =>
    intro r ws hr h
    have hc : TKs (cls c ++ r) (clsT c ++ ws) ∧ Sep (cls c ++ r) := by
      rcases opn5 c with rfl | rfl | rfl | rfl | ⟨n, rfl⟩
      · exact ⟨TKs.word (u := [62]) (b := []) h 4 [62] 0 (by decide) rfl (by rw [List.nil_append]; exact hr.bsz), .inr ⟨r, .inl rfl⟩⟩
      · exact ⟨TKs.word (u := [125]) (b := []) h 4 [125] 0 (by decide) rfl (by rw [List.nil_append]; exact hr.bsz), .inr ⟨r, .inr rfl⟩⟩
      · exact ⟨TKs.word (u := [125]) (b := []) h 4 [125] 0 (by decide) rfl (by rw [List.nil_append]; exact hr.bsz), .inr ⟨r, .inr rfl⟩⟩
      · exact ⟨TKs.word (u := [62]) (b := []) h 4 [62] 0 (by decide) rfl (by rw [List.nil_append]; exact hr.bsz), .inr ⟨r, .inl rfl⟩⟩
      · exact ⟨TKs.word (u := [62]) (b := []) h 4 [62] 0 (by decide) rfl (by rw [List.nil_append]; exact hr.bsz), .inr ⟨r, .inl rfl⟩⟩
    have hi := ih (cls c ++ r) (clsT c ++ ws) hc.2 hc.1
    have hz := deepS_head cs (cls c ++ r)
    have e1 : deepS (c :: cs) ++ r = opn c ++ (deepS cs ++ (cls c ++ r)) := by rw [deepS]; simp only [List.append_assoc]
    have e2 : deepT (c :: cs) ++ ws = opnT c ++ (deepT cs ++ (clsT c ++ ws)) := by rw [deepT]; simp only [List.append_assoc]
    rw [e1, e2]
    generalize deepS cs ++ (cls c ++ r) = X at *
    generalize deepT cs ++ (clsT c ++ ws) = Y at *
    have hb : bsz (32 :: X) = 1 := by show bsz X + 1 = 1; rw [hz]
    revert hi
    rcases opn5 c with rfl | rfl | rfl | rfl | ⟨n, rfl⟩ <;> intro hi
    · exact TKs.word (u := [76, 105, 115, 116]) (b := []) (TKs.word (u := [60]) (b := []) hi 4 [60] 0 (by decide) rfl (by rw [List.nil_append]; exact hz)) 1 [76, 105, 115, 116] 0 (by decide) rfl rfl
    · exact TKs.word (u := [123]) (b := []) (TKs.word (u := [97]) (b := []) (TKs.word (u := [58]) (b := [32]) hi 4 [58] 0 (by decide) rfl hb) 1 [97] 0 (by decide) rfl rfl) 4 [123] 0 (by decide) rfl rfl
    · exact TKs.word (u := [85, 110, 105, 111, 110]) (b := [32]) (TKs.word (u := [123]) (b := []) (TKs.word (u := [97]) (b := []) (TKs.word (u := [58]) (b := [32]) hi 4 [58] 0 (by decide) rfl hb) 1 [97] 0 (by decide) rfl rfl) 4 [123] 0 (by decide) rfl rfl) 1 [85, 110, 105, 111, 110] 0 (by decide) rfl rfl
    · exact TKs.word (u := [77, 97, 112]) (b := []) (TKs.word (u := [60]) (b := []) hi 4 [60] 0 (by decide) rfl (by rw [List.nil_append]; exact hz)) 1 [77, 97, 112] 0 (by decide) rfl rfl
    · exact TKs.word (u := [79, 112, 116]) (b := []) (TKs.word (u := [60]) (b := []) hi 4 [60] 0 (by decide) rfl (by rw [List.nil_append]; exact hz)) 1 [79, 112, 116] 0 (by decide) rfl rfl

/-! ### What is read of them -/
theorem rec_one (k : Nat) (read : R → Ty × R) (t1 t2 t3 t4 : T) (tm rest : List T) (tw : Bool) (h1 : key t1 = (4, [123])) (h2 : key t2 = (1, [97])) (h3 : key t3 = (4, [58])) (h4 : key t4 = (4, [125])) (x : Ty)
    (hr : read ⟨tm ++ t4 :: rest, 0, tw⟩ = (x, ⟨t4 :: rest, 0, tw⟩)) : ∃ y, recordR k read ⟨t1 :: t2 :: t3 :: (tm ++ t4 :: rest), 0, tw⟩ = (y, ⟨rest, 0, tw⟩) := by
  have hf : fieldR read ⟨t2 :: t3 :: (tm ++ t4 :: rest), 0, tw⟩ = (([97], x), ⟨t4 :: rest, 0, tw⟩) := by
    unfold fieldR
    rw [name_key h2]
    simp only
    rw [need_key h3, hr]
  have hl : listR [123] [125] (fieldR read) ⟨t1 :: t2 :: t3 :: (tm ++ t4 :: rest), 0, tw⟩ = ([([97], x)], ⟨rest, 0, tw⟩) := by
    unfold listR
    rw [need_key h1, isAt_key (r := ⟨t2 :: t3 :: (tm ++ t4 :: rest), 0, tw⟩) rfl h2, if_neg (by decide)]
    unfold listGo
    rw [hf]
    simp only
    rw [isAt_key (r := ⟨t4 :: rest, 0, tw⟩) rfl h4, if_neg (by decide)]
    simp only
    rw [need_key h4]
  unfold recordR
  rw [hl]
  exact ⟨_, by simp [dup, R.both]; rfl⟩

theorem rec_deep (k : Nat) (read : R → Ty × R) (t1 t2 t3 : T) (tm : List T) (tw : Bool) (h1 : key t1 = (4, [123])) (h2 : key t2 = (1, [97])) (h3 : key t3 = (4, [58]))
    (hr : (read ⟨tm, 0, tw⟩).2 = ⟨[], 13, tw⟩) : (recordR k read ⟨t1 :: t2 :: t3 :: tm, 0, tw⟩).2 = ⟨[], 13, tw⟩ := by
  have hf : fieldR read ⟨t2 :: t3 :: tm, 0, tw⟩ = (([97], (read ⟨tm, 0, tw⟩).1), ⟨[], 13, tw⟩) := by
    unfold fieldR
    rw [name_key h2]
    simp only
    rw [need_key h3, hr]
  have hl : listR [123] [125] (fieldR read) ⟨t1 :: t2 :: t3 :: tm, 0, tw⟩ = ([([97], (read ⟨tm, 0, tw⟩).1)], ⟨[], 13, tw⟩) := by
    unfold listR
    rw [need_key h1, isAt_key (r := ⟨t2 :: t3 :: tm, 0, tw⟩) rfl h2, if_neg (by decide)]
    unfold listGo
    rw [hf]
    simp only
    rw [show (⟨[], 13, tw⟩ : R).isAt 4 [44] = false from rfl, if_neg (by decide)]
    simp only
    rw [need_end _ _ _ _ (by decide)]
  unfold recordR
  rw [hl]
  simp [dup, R.both]

theorem typ_word (f : Nat) (t : T) (ts : List T) (tw : Bool) (s : List UInt8) (hk : key t = (1, s)) :
    typ (f + 1) ⟨t :: ts, 0, tw⟩ = (if kindOf s = 4 ∨ kindOf s = 5 ∨ kindOf s = 6 then (.mk (kindOf s) [] [] [(typ f ((⟨ts, 0, tw⟩ : R).need 4 [60])).1], (typ f ((⟨ts, 0, tw⟩ : R).need 4 [60])).2.need 4 [62])
      else if kindOf s = 8 then recordR 8 (typ f) ⟨ts, 0, tw⟩ else if kindOf s = 9 then (.mk 9 s [] [], ⟨ts, 0, tw⟩) else (.mk (kindOf s) [] [] [], ⟨ts, 0, tw⟩)) := by
  have h2 : t.text = s := congrArg Prod.snd hk
  have hh : (⟨t :: ts, 0, tw⟩ : R).head = s := h2
  rw [typ, isAt_key (r := ⟨t :: ts, 0, tw⟩) rfl hk, if_neg (by simp), isName_key (r := ⟨t :: ts, 0, tw⟩) rfl hk, if_pos (by simp), hh]
  rfl
theorem typ_brace (f : Nat) (t : T) (ts : List T) (tw : Bool) (hk : key t = (4, [123])) : typ (f + 1) ⟨t :: ts, 0, tw⟩ = recordR 7 (typ f) ⟨t :: ts, 0, tw⟩ := by
  rw [typ, isAt_key (r := ⟨t :: ts, 0, tw⟩) rfl hk, if_pos (by simp)]

theorem map1 {ts : List T} {a : Nat × List UInt8} (h : ts.map key = [a]) : ∃ t, ts = [t] ∧ key t = a := by
  match ts, h with
  | [t], h => exact ⟨t, rfl, by simpa using h⟩
theorem map2 {ts : List T} {a b : Nat × List UInt8} (h : ts.map key = [a, b]) : ∃ t u, ts = [t, u] ∧ key t = a ∧ key u = b := by
  match ts, h with
  | [t, u], h => exact ⟨t, u, rfl, by simp at h; exact h.1, by simp at h; exact h.2⟩
theorem map3 {ts : List T} {a b c : Nat × List UInt8} (h : ts.map key = [a, b, c]) : ∃ t u v, ts = [t, u, v] ∧ key t = a ∧ key u = b ∧ key v = c := by
  match ts, h with
  | [t, u, v], h => exact ⟨t, u, v, rfl, by simp at h; exact h.1, by simp at h; exact h.2.1, by simp at h; exact h.2.2⟩
theorem map4 {ts : List T} {a b c d : Nat × List UInt8} (h : ts.map key = [a, b, c, d]) : ∃ t u v x, ts = [t, u, v, x] ∧ key t = a ∧ key u = b ∧ key v = c ∧ key x = d := by
  match ts, h with
  | [t, u, v, x], h => exact ⟨t, u, v, x, rfl, by simp at h; exact h.1, by simp at h; exact h.2.1, by simp at h; exact h.2.2.1, by simp at h; exact h.2.2.2⟩

theorem deep_split {c : Nat} {cs : List Nat} {ts : List T} (h : ts.map key = deepT (c :: cs)) : ∃ to tm tc, ts = to ++ (tm ++ tc) ∧ to.map key = opnT c ∧ tm.map key = deepT cs ∧ tc.map key = clsT c := by
  rw [deepT] at h
  obtain ⟨to, t2, rfl, ho, h2⟩ := List.map_eq_append_iff.1 h
  obtain ⟨tm, tc, rfl, hm, hc⟩ := List.map_eq_append_iff.1 h2
  exact ⟨to, tm, tc, rfl, ho, hm, hc⟩

theorem deep_ok (cs : List Nat) : ∀ (f : Nat) (ts rest : List T) (tw : Bool), ts.map key = deepT cs → cs.length < f → ∃ x, typ f ⟨ts ++ rest, 0, tw⟩ = (x, ⟨rest, 0, tw⟩) := by
  induction cs with
  | nil =>
    intro f ts rest tw h hf
    obtain ⟨f, rfl⟩ : ∃ g, f = g + 1 := ⟨f - 1, by simp at hf; omega⟩
    obtain ⟨t, rfl, hk⟩ := map1 h
    exact ⟨_, by rw [List.singleton_append, typ_word f t rest tw _ hk]; rfl⟩
  | cons c cs ih =>
    intro f ts rest tw h hf
    obtain ⟨f, rfl⟩ : ∃ g, f = g + 1 := ⟨f - 1, by simp at hf; omega⟩
    obtain ⟨to, tm, tc, rfl, ho, hm, hc⟩ := deep_split h
    have hi := fun rest => ih f tm rest tw hm (by simp at hf; omega)
    have e : ∀ to : List T, to ++ (tm ++ tc) ++ rest = to ++ (tm ++ (tc ++ rest)) := fun to => by simp only [List.append_assoc]
    rw [e]
    revert ho hc
    rcases opn5 c with rfl | rfl | rfl | rfl | ⟨n, rfl⟩ <;> intro ho hc
    · obtain ⟨t, u, rfl, h1, h2⟩ := map2 ho
      obtain ⟨v, rfl, h3⟩ := map1 hc
      obtain ⟨x, hx⟩ := hi ([v] ++ rest)
      refine ⟨_, by rw [List.cons_append, typ_word f t _ tw _ h1, if_pos (by decide), List.singleton_append, need_key h2, hx]; simp only [List.singleton_append]; rw [need_key h3]⟩
    · obtain ⟨t, u, v, rfl, h1, h2, h3⟩ := map3 ho
      obtain ⟨y, rfl, h4⟩ := map1 hc
      obtain ⟨x, hx⟩ := hi ([y] ++ rest)
      obtain ⟨z, hz⟩ := rec_one 7 (typ f) t u v y tm rest tw h1 h2 h3 h4 x hx
      exact ⟨z, by rw [List.cons_append, typ_brace f t _ tw h1]; exact hz⟩
    · obtain ⟨q, t, u, v, rfl, h0, h1, h2, h3⟩ := map4 ho
      obtain ⟨y, rfl, h4⟩ := map1 hc
      obtain ⟨x, hx⟩ := hi ([y] ++ rest)
      obtain ⟨z, hz⟩ := rec_one 8 (typ f) t u v y tm rest tw h1 h2 h3 h4 x hx
      exact ⟨z, by rw [List.cons_append, typ_word f q _ tw _ h0, if_neg (by decide), if_pos (by decide)]; exact hz⟩
    · obtain ⟨t, u, rfl, h1, h2⟩ := map2 ho
      obtain ⟨v, rfl, h3⟩ := map1 hc
      obtain ⟨x, hx⟩ := hi ([v] ++ rest)
      refine ⟨_, by rw [List.cons_append, typ_word f t _ tw _ h1, if_pos (by decide), List.singleton_append, need_key h2, hx]; simp only [List.singleton_append]; rw [need_key h3]⟩
    · obtain ⟨t, u, rfl, h1, h2⟩ := map2 ho
      obtain ⟨v, rfl, h3⟩ := map1 hc
      obtain ⟨x, hx⟩ := hi ([v] ++ rest)
      refine ⟨_, by rw [List.cons_append, typ_word f t _ tw _ h1, if_pos (by decide), List.singleton_append, need_key h2, hx]; simp only [List.singleton_append]; rw [need_key h3]⟩

theorem deep_first (cs : List Nat) (ts : List T) (h : ts.map key = deepT cs) : ∃ t us, ts = t :: us ∧ (key t = (4, [123]) ∨ (key t).1 = 1) := by
  cases cs with
  | nil => obtain ⟨t, rfl, hk⟩ := map1 h; exact ⟨t, [], rfl, .inr (by rw [hk])⟩
  | cons c cs =>
    obtain ⟨to, tm, tc, rfl, ho, _, _⟩ := deep_split h
    revert ho
    rcases opn5 c with rfl | rfl | rfl | rfl | ⟨n, rfl⟩ <;> intro ho
    · obtain ⟨t, u, rfl, h1, _⟩ := map2 ho; exact ⟨t, _, rfl, .inr (by rw [h1])⟩
    · obtain ⟨t, u, v, rfl, h1, _, _⟩ := map3 ho; exact ⟨t, _, rfl, .inl h1⟩
    · obtain ⟨t, u, v, x, rfl, h1, _, _, _⟩ := map4 ho; exact ⟨t, _, rfl, .inr (by rw [h1])⟩
    · obtain ⟨t, u, rfl, h1, _⟩ := map2 ho; exact ⟨t, _, rfl, .inr (by rw [h1])⟩
    · obtain ⟨t, u, rfl, h1, _⟩ := map2 ho; exact ⟨t, _, rfl, .inr (by rw [h1])⟩

theorem deep_bad (cs : List Nat) : ∀ (f : Nat) (ts rest : List T) (tw : Bool), ts.map key = deepT cs → f ≤ cs.length → (typ f ⟨ts ++ rest, 0, tw⟩).2 = ⟨[], 13, tw⟩ := by
  intro f
  induction f generalizing cs with
  | zero =>
    intro ts rest tw h _
    obtain ⟨t, us, rfl, hk⟩ := deep_first cs ts h
    have hb : ((⟨t :: us ++ rest, 0, tw⟩ : R).isAt 4 [123] || (⟨t :: us ++ rest, 0, tw⟩ : R).isName) = true := by
      rcases hk with hk | hk
      · rw [isAt_key (r := ⟨t :: us ++ rest, 0, tw⟩) rfl hk]; rfl
      · rw [isName_key (r := ⟨t :: us ++ rest, 0, tw⟩) (k := 1) (s := t.text) rfl (by show (t.kind, t.text) = _; rw [show t.kind = 1 from hk])]; simp
    rw [typ, hb]; rfl
  | succ f ih =>
    intro ts rest tw h hf
    cases cs with
    | nil => simp at hf
    | cons c cs =>
      obtain ⟨to, tm, tc, rfl, ho, hm, hc⟩ := deep_split h
      have hx := ih cs tm (tc ++ rest) tw hm (by simp at hf; omega)
      have e : ∀ to : List T, to ++ (tm ++ tc) ++ rest = to ++ (tm ++ (tc ++ rest)) := fun to => by simp only [List.append_assoc]
      rw [e]
      revert ho
      rcases opn5 c with rfl | rfl | rfl | rfl | ⟨n, rfl⟩ <;> intro ho
      · obtain ⟨t, u, rfl, h1, h2⟩ := map2 ho
        rw [List.cons_append, typ_word f t _ tw _ h1, if_pos (by decide), List.singleton_append, need_key h2]
        simp only
        rw [hx, need_end _ _ _ _ (by decide)]
      · obtain ⟨t, u, v, rfl, h1, h2, h3⟩ := map3 ho
        rw [List.cons_append, typ_brace f t _ tw h1]
        exact rec_deep 7 (typ f) t u v _ tw h1 h2 h3 hx
      · obtain ⟨q, t, u, v, rfl, h0, h1, h2, h3⟩ := map4 ho
        rw [List.cons_append, typ_word f q _ tw _ h0, if_neg (by decide), if_pos (by decide)]
        exact rec_deep 8 (typ f) t u v _ tw h1 h2 h3 hx
      · obtain ⟨t, u, rfl, h1, h2⟩ := map2 ho
        rw [List.cons_append, typ_word f t _ tw _ h1, if_pos (by decide), List.singleton_append, need_key h2]
        simp only
        rw [hx, need_end _ _ _ _ (by decide)]
      · obtain ⟨t, u, rfl, h1, h2⟩ := map2 ho
        rw [List.cons_append, typ_word f t _ tw _ h1, if_pos (by decide), List.singleton_append, need_key h2]
        simp only
        rw [hx, need_end _ _ _ _ (by decide)]

/-- What Type answers. -/
theorem deep_type (cs : List Nat) (h : cs.length ≤ 20) : (typeL (deepS cs)).2 = if cs.length < 12 then 0 else 13 := by
  have h1 := deep_words cs [] [] (.inl rfl) TKs.nil
  rw [List.append_nil, List.append_nil] at h1
  have hz := deepS_head cs []
  rw [List.append_nil] at hz
  obtain ⟨ts, ht, hk⟩ := h1.toks hz (by have := deepS_len cs; omega) (by have := deepT_len cs; omega)
  unfold typeL
  rw [ht, if_pos rfl]
  by_cases hc : cs.length < 12
  · obtain ⟨x, hx⟩ := deep_ok cs 12 ts [] false hk hc
    rw [List.append_nil] at hx
    have ho : outer (rd ts) = (x, ⟨[], 0, false⟩) := hx
    rw [if_pos hc]
    simp only [ho]
    rfl
  · have hx := deep_bad cs 12 ts [] false hk (by omega)
    rw [List.append_nil] at hx
    have ho : (outer (rd ts)).2 = ⟨[], 13, false⟩ := hx
    rw [if_neg hc]
    simp only [ho]
    rfl
end Sh
end Go.Proofs.YtnnnjonodnkccaaGreatDoor
