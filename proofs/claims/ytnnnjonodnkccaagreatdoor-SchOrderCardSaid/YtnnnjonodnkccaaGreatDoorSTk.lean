/- The words of a text, kinds and texts alone: one word behind another. No program is named here. -/
import Derived.Test.YtnnnjonodnkccaaGreatDoorSPure
import Derived.Test.YtnnnjonodnkccaaGreatDoorTk
namespace Go.Proofs.YtnnnjonodnkccaaGreatDoor
namespace Sh
open Sc

def key (t : T) : Nat × List UInt8 := (t.kind, t.text)
/-- The text's words are these. -/
def TKs (l : List UInt8) (ws : List (Nat × List UInt8)) : Prop := ∀ i acc, ∃ ts : List T, tk l i acc = (0, acc ++ ts) ∧ ts.map key = ws

theorem TKs.nil : TKs [] [] := fun i acc => ⟨[], by rw [tk_nil, List.append_nil], rfl⟩
theorem TKs.word {u b r : List UInt8} {ws : List (Nat × List UInt8)} (h : TKs r ws) (k : Nat) (t : List UInt8) (n : Int) (hu : 0 < u.length) (hw : wordW (u ++ (b ++ r)) = ⟨k, t, n, u.length, 0⟩) (hb : bsz (b ++ r) = b.length) : TKs (u ++ (b ++ r)) ((k, t) :: ws) := by
  intro i acc
  obtain ⟨ts, h1, h2⟩ := h (i + u.length + b.length) (acc ++ [⟨k, t, n, i⟩])
  refine ⟨⟨k, t, n, i⟩ :: ts, ?_, ?_⟩
  · rw [tk_word u b r i acc k t n hu hw hb, h1, List.append_assoc]; rfl
  · rw [List.map_cons, h2]; rfl

/-- What Tokens answers of such a text. -/
theorem TKs.toks {l : List UInt8} {ws : List (Nat × List UInt8)} (h : TKs l ws) (hb : bsz l = 0) (hl : l.length ≤ 1500) (hn : ws.length ≤ 400) : ∃ ts, toks l = (0, ts) ∧ ts.map key = ws := by
  obtain ⟨ts, h1, h2⟩ := h 0 []
  refine ⟨ts, toks_of l ts hl ?_ ?_, h2⟩
  · rw [hb]; exact h1
  · rw [← List.length_map (f := key), h2]; exact hn

/-! ### A reader on such words -/
theorem isAt_key {r : R} {t : T} {ts : List T} {k : Nat} {s : List UInt8} (h : r.words = t :: ts) (hk : key t = (k, s)) (k' : Nat) (s' : List UInt8) : r.isAt k' s' = (decide (k = k') && decide (s = s')) := by
  unfold R.isAt; rw [h]
  have h1 : t.kind = k := congrArg Prod.fst hk
  have h2 : t.text = s := congrArg Prod.snd hk
  simp only [h1, h2]
theorem isName_key {r : R} {t : T} {ts : List T} {k : Nat} {s : List UInt8} (h : r.words = t :: ts) (hk : key t = (k, s)) : r.isName = decide (k = 1) := by
  unfold R.isName; rw [h]
  have h1 : t.kind = k := congrArg Prod.fst hk
  simp only [h1]
theorem need_key {ts : List T} {t : T} {e : Nat} {tw : Bool} {k : Nat} {s : List UInt8} (hk : key t = (k, s)) : (⟨t :: ts, e, tw⟩ : R).need k s = ⟨ts, e, tw⟩ := by
  unfold R.need
  rw [isAt_key (r := ⟨t :: ts, e, tw⟩) rfl hk, decide_eq_true rfl, decide_eq_true rfl]; rfl
theorem name_key {ts : List T} {t : T} {e : Nat} {tw : Bool} {s : List UInt8} (hk : key t = (1, s)) : (⟨t :: ts, e, tw⟩ : R).name = (s, ⟨ts, e, tw⟩) := by
  unfold R.name
  rw [isName_key (r := ⟨t :: ts, e, tw⟩) rfl hk, decide_eq_true rfl, if_pos rfl]
  have h2 : t.text = s := congrArg Prod.snd hk
  show (t.text, _) = _
  rw [h2]; rfl
theorem need_end (e : Nat) (tw : Bool) (k : Nat) (s : List UInt8) (he : e ≠ 0) : (⟨[], e, tw⟩ : R).need k s = ⟨[], e, tw⟩ := by
  unfold R.need R.isAt R.fail; simp [he]
end Sh
end Go.Proofs.YtnnnjonodnkccaaGreatDoor
