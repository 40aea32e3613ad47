/- Ident and Quoted of package sprueref1: what each call returns; the world stays. -/
import Derived.Test.YtaillpnjknnhdaaDoorRefA
import Derived.Test.YtaillpnjknnhdaaDoorLawA
namespace Go.Proofs.YtaillpnjknnhdaaDoor
open Go.RowKit
namespace Sc

def quotR : List UInt8 → List UInt8 → Nat → Option (List UInt8 × Nat)
  | [], _, _ => none
  | [c], b, i => if c.toNat = 34 then some (b, i + 1) else none
  | c :: d :: t, b, i =>
    if c.toNat = 34 then some (b, i + 1)
    else if c.toNat < 32 then none
    else if c.toNat = 92 then (if meantB d = 0 then none else quotR t (b ++ [(meantB d).toUInt8]) (i + 2))
    else quotR (d :: t) (b ++ [c]) (i + 1)
def quotV (o : Option (List UInt8 × Nat)) : W := match o with | some (t, k) => if 200 < t.length then bad 4 else ⟨2, t, 0, k, 0⟩ | none => bad 11
theorem r_quote (c : UInt8) (r b : List UInt8) (i : Nat) (h : c.toNat = 34) : quotR (c :: r) b i = some (b, i + 1) := by
  cases r <;> simp only [quotR, h, if_true]
theorem r_low (c : UInt8) (r b : List UInt8) (i : Nat) (h : c.toNat ≠ 34) (h2 : c.toNat < 32) : quotR (c :: r) b i = none := by
  cases r <;> simp only [quotR, h, h2, if_true, if_false]
theorem r_slash (c : UInt8) (r b : List UInt8) (i : Nat) (h : c.toNat = 92) : quotR (c :: r) b i = if meantL r = 0 then none else quotR (r.drop 1) (b ++ [(meantL r).toUInt8]) (i + 2) := by
  cases r with
  | nil => simp [quotR, h, meantL]
  | cons d t => simp [quotR, h, meantL]
theorem r_plain (c : UInt8) (r b : List UInt8) (i : Nat) (h : c.toNat ≠ 34) (h2 : ¬ c.toNat < 32) (h3 : c.toNat ≠ 92) : quotR (c :: r) b i = quotR r (b ++ [c]) (i + 1) := by
  cases r <;> simp only [quotR, h, h2, h3, if_false]
theorem quotGo_R (n : Nat) : ∀ (l b : List UInt8) (i : Nat), l.length ≤ n → quotGo l b i = quotV (quotR l b i) := by
  induction n with
  | zero => intro l b i h; rw [List.eq_nil_of_length_eq_zero (by omega : l.length = 0)]; rfl
  | succ n ih =>
    intro l b i h
    match l, h with
    | [], _ => rfl
    | c :: r, h =>
      simp only [List.length_cons] at h
      by_cases c34 : c.toNat = 34
      · rw [q_quote c r b i c34, r_quote c r b i c34]; rfl
      · by_cases c32 : c.toNat < 32
        · rw [q_low c r b i c34 c32, r_low c r b i c34 c32]; rfl
        · by_cases c92 : c.toNat = 92
          · rw [q_slash c r b i c92, r_slash c r b i c92]
            by_cases hm : meantL r = 0
            · rw [if_pos hm, if_pos hm]; rfl
            · rw [if_neg hm, if_neg hm]
              exact ih _ _ _ (by rw [List.length_drop]; omega)
          · rw [q_plain c r b i c34 c32 c92, r_plain c r b i c34 c32 c92]
            exact ih _ _ _ (by omega)

set_option maxHeartbeats 1000000 in
theorem RIdent_any (s : ByteArray) (w : World) (hs : s.size ≤ maxLen) :
    Calls Tryd.prog 19 #[.string s] w fun e w' => e = .returned (.bool (identB s.data.toList)) ∧ w = w' := by
  have hs' := hs
  unfold maxLen at hs'
  unfold identB
  rw [bytes_len]
  by_cases h0 : s.size = 0
  · rw [show decide (s.size ≠ 0) = false from decide_eq_false (fun h => h h0)]
    have h0' : (s.size : Int) = 0 := by omega
    have tz : ((s.size : Int) == 0) = true := by simp [h0]
    clear h0 h0'
    go_enter Tryd.func19, Tryd.ntmps19
    go_wp2_with fail
    go_ret
    exact ⟨rfl, rfl⟩
  · rw [show decide (s.size ≠ 0) = true from decide_eq_true h0]
    have tz : ((s.size : Int) == 0) = false := beq_eq_false_iff_ne.2 (by omega)
    by_cases h16 : s.size ≤ 16
    · rw [decide_eq_true h16]
      have h00 : 0 < s.size := by omega
      have hb0 := bytes_at s 0 h00
      have hdr := drop_at s.data.toList 0 (lt_len h00)
      rw [hb0] at hdr
      obtain ⟨c0, hc0⟩ : ∃ c, s[0]'h00 = c := ⟨_, rfl⟩
      have cL := fun w => rletter_any (c0.toNat : Int) w
      rw [letB_byte] at cL
      cases hL : isL c0
      · have hz : nsz s.data.toList = 0 := by
          have := nszF_stop s.data.toList 0 true (lt_len h00) (by rw [hb0, hc0, hL]; rfl)
          exact this
        rw [hz, decide_eq_false (show ¬ 0 = s.size by omega)]
        rw [hL] at cL
        have CL := Lib.hid cL
        clear cL hL hz hdr hb0
        go_enter Tryd.func19, Tryd.ntmps19
        go_wp2_with (go_at_call 25; (with_reducible refine (CL.out _).mono ?_); rintro e w' ⟨rfl, rfl⟩)
        go_ret
        exact ⟨rfl, rfl⟩
      · rw [hL] at cL
        obtain ⟨res, hres⟩ : ∃ r, decide (nsz s.data.toList = s.size) = r := ⟨_, rfl⟩
        rw [hres]
        have CL := Lib.hid cL; have HL := Lib.hid hL; have HR := Lib.hid hres
        clear hres
        clear cL hL hdr hb0
        go_enter Tryd.func19, Tryd.ntmps19
        go_wp2_with (go_at_call 25; (with_reducible refine (CL.out _).mono ?_); rintro e w' ⟨rfl, rfl⟩)
        go_loop [3] (fun kv => ∃ k : Nat, k ≤ s.size ∧ kv = .int .i64 k ∧ Hid (nsz s.data.toList = k + nszF (decide (k = 0)) (s.data.toList.drop k))) (fun kv => s.size - (intOf kv).toNat)
        case atStart => exact ⟨0, Nat.zero_le _, rfl, by simp [Hid, nsz]⟩
        case round =>
          obtain ⟨k, hk, rfl, hd⟩ := hrel
          by_cases hlt : k < s.size
          · have hb := bytes_at s k hlt
            obtain ⟨c, hc⟩ : ∃ c, s[k]'hlt = c := ⟨_, rfl⟩
            have dL := fun w => rletter_any (c.toNat : Int) w
            have dD := fun w => rdigit_any (c.toNat : Int) w
            rw [letB_byte] at dL; rw [digB_byte] at dD
            cases hL2 : isL c
            · rw [hL2] at dL
              cases hD2 : isD c
              · rw [hD2] at dD
                have hz := nszF_stop s.data.toList k (decide (k = 0)) (lt_len hlt) (by rw [hb, hc, hL2, hD2]; simp)
                have hne : nsz s.data.toList = k := by rw [hd.out, hz]; rfl
                have hrf : res = false := by rw [← HR.out, hne]; exact decide_eq_false (by omega)
                have HRF := Lib.hid hrf
                clear hrf
                have DL := Lib.hid dL; have DD := Lib.hid dD
                clear dL dD hz hne hb hL2 hD2
                go_wp2_with (first | (go_at_call 25; (with_reducible refine (DL.out _).mono ?_); rintro e w' ⟨rfl, rfl⟩) | (go_at_call 26; (with_reducible refine (DD.out _).mono ?_); rintro e w' ⟨rfl, rfl⟩))
                go_ret
                exact ⟨by rw [HRF.out]; rfl, rfl⟩
              · rw [hD2] at dD
                have h0k : k ≠ 0 := by
                  intro e; subst e
                  rw [hc0] at hc; subst hc; rw [HL.out] at hL2; cases hL2
                have hz := nszF_step s.data.toList k (decide (k = 0)) (lt_len hlt) (by rw [hb, hc, hL2, hD2]; simp [h0k])
                have DL := Lib.hid dL; have DD := Lib.hid dD; have HZ := Lib.hid hz
                clear dL dD hz hb hL2 hD2 h0k
                go_wp2_with (first | (go_at_call 25; (with_reducible refine (DL.out _).mono ?_); rintro e w' ⟨rfl, rfl⟩) | (go_at_call 26; (with_reducible refine (DD.out _).mono ?_); rintro e w' ⟨rfl, rfl⟩))
                go_round
                case rel => exact ⟨k + 1, by omega, by go_num, by have := hd.out; rw [HZ.out] at this; unfold Hid; rw [show decide (k + 1 = 0) = false from by simp]; omega⟩
                case measure => simp [intOf]; omega
            · rw [hL2] at dL
              have hz := nszF_step s.data.toList k (decide (k = 0)) (lt_len hlt) (by rw [hb, hc, hL2]; simp)
              have DL := Lib.hid dL; have HZ := Lib.hid hz
              clear dL dD hz hb hL2
              go_wp2_with (go_at_call 25; (with_reducible refine (DL.out _).mono ?_); rintro e w' ⟨rfl, rfl⟩)
              go_round
              case rel => exact ⟨k + 1, by omega, by go_num, by have := hd.out; rw [HZ.out] at this; unfold Hid; rw [show decide (k + 1 = 0) = false from by simp]; omega⟩
              case measure => simp [intOf]; omega
          · have hks : k = s.size := by omega
            have hne : nsz s.data.toList = s.size := by
              have := hd.out; rw [hks, ← bytes_len, nszF_end] at this; rw [this, bytes_len]; rfl
            have hrf : res = true := by rw [← HR.out, hne]; exact decide_eq_true rfl
            have HRF := Lib.hid hrf
            clear hne hlt hrf
            go_wp2
            go_ret
            exact ⟨by rw [HRF.out]; rfl, rfl⟩
    · rw [decide_eq_false h16]
      have h16' : 16 < (s.size : Int) := by omega
      clear h16
      go_enter Tryd.func19, Tryd.ntmps19
      go_wp2_with fail
      go_ret
      exact ⟨rfl, rfl⟩

/-- What Quoted answers: the text and the place behind it, or -1. -/
def qres (o : Option (List UInt8 × Nat)) : Value := match o with | some (t, k) => .tuple #[.string ⟨t.toArray⟩, .int .i64 k] | none => .tuple #[.string ⟨#[]⟩, .int .i64 (-1)]

theorem cut1 (s : ByteArray) (k : Nat) (h : k < s.size) : (s.extract k (k + 1)).data.toList = [s[k]] ∧ (s.extract k (k + 1)).size = 1 := by
  have h1 : (s.extract k (k + 1)).data.toList = (s.data.toList.drop k).take 1 := by
    simp [ByteArray.data_extract, List.extract_eq_take_drop]
  refine ⟨?_, ?_⟩
  · rw [h1, drop_at _ k (lt_len h), bytes_at s k h]; rfl
  · rw [ByteArray.size_extract]; omega
end Sc
end Go.Proofs.YtaillpnjknnhdaaDoor
