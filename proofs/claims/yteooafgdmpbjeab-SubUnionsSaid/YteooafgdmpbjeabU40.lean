/- New: the table of a schema that passes the check, or the error. -/
import Derived.Test.YteooafgdmpbjeabU39
namespace Go.Proofs.Yteooafgdmpbjeab
open Go.RowKit
namespace Sp
open Sc
set_option maxRecDepth 100000
theorem stv_made (w : World) (B : Nat) (hB : B ≤ w.heap.size) :
    StV B (((w.alloc (.map #[] 0)).alloc (.map #[] 0)).alloc (.cells #[.slice none 0 0, .map none, .map (some w.heap.size), .map (some (w.heap.size + 1)), .int .i64 0] 68)) (w.heap.size + 2) (w.heap.size + 2) (w.heap.size + 2) w.heap.size (w.heap.size + 1) 0 (.slice none 0 0) (.map none) [] [] [] [] := by
  obtain ⟨W, hW⟩ : ∃ W, W = ((w.alloc (.map #[] 0)).alloc (.map #[] 0)).alloc (.cells #[.slice none 0 0, .map none, .map (some w.heap.size), .map (some (w.heap.size + 1)), .int .i64 0] 68) := ⟨_, rfl⟩
  rw [← hW]
  have hz : W.heap.size = w.heap.size + 3 := by rw [hW]; simp
  have hm : TxtV W w.heap.size [] := by
    refine (TxtV.made w).same ?_
    rw [hW, Below.heap_alloc _ _ _ (by simp; omega), Below.heap_alloc _ _ _ (by simp)]
  have hs : TxtV W (w.heap.size + 1) [] := by
    have h1 := TxtV.made (w.alloc (.map #[] 0))
    rw [show (w.alloc (.map #[] 0)).heap.size = w.heap.size + 1 by simp] at h1
    refine h1.same ?_
    rw [hW, Below.heap_alloc _ _ _ (by simp)]
  refine ⟨⟨?_, World.ownsRow_nil _ _ _ _, .inl ⟨rfl, rfl, rfl⟩, .inl ⟨rfl, rfl, rfl⟩, (fun k hk => by cases hk), TabW.nil, by omega, by omega, by omega, by omega⟩, hm, ⟨rfl, hs, (fun i h => by cases h)⟩, fun g hg => ?_, hB, by omega, by omega⟩
  · have := heap_alloc_new ((w.alloc (.map #[] 0)).alloc (.map #[] 0)) (.cells #[.slice none 0 0, .map none, .map (some w.heap.size), .map (some (w.heap.size + 1)), .int .i64 0] 68)
    rw [show ((w.alloc (.map #[] 0)).alloc (.map #[] 0)).heap.size = w.heap.size + 2 by simp, ← hW] at this
    exact this
  · rcases hg with h1 | h1 | h1 <;> omega
/-- What New leaves. -/
def MadeK (B : Nat) (w' : World) (e : Ending) (p : Nat × Tab) : Prop :=
  (p.1 = 0 → ∃ tb rb nb mb sb ty nu vs, e = .returned (.tuple #[.pointer (some ⟨tb, 0, none⟩), .int .i64 0]) ∧ StV B w' tb rb nb mb sb p.2.m ty nu p.2.T p.2.N p.2.G vs) ∧
  (p.1 ≠ 0 → e = .returned (.tuple #[.pointer none, .int .i64 (p.1 : Nat)]))
set_option maxHeartbeats 4000000 in
theorem New_any (s : Sz) (c : C4) (a1 a2 : Option Addr) (us : List (List UInt8 × C4)) (gs : List (List UInt8 × G6)) (c1 c2 : Nat) (w : World) (S : Nat → Prop) (hS : ∀ b, S b → b < w.heap.size) (hV : SzV w S s c a1 us a2 gs) (hf : SzFit s) (hsh : ShortS s) (hnt : s.types.length ≤ 1000000) (hng : s.sigs.length ≤ 1000000) :
    Calls Try.prog 9 #[.agg #[.int .i64 c.k, .string c.n, .slice c.an c.ln c.cn, .slice c.ak c.lk c.ck, .slice a1 s.types.length c1, .slice a2 s.sigs.length c2]] w fun e w' => MadeK w.heap.size w' e (newK s) ∧ Below w.heap.size w w' := by
  obtain ⟨W1, hW1⟩ : ∃ W1, W1 = w.alloc (.cells #[.int .i64 c.k, .string c.n, .slice c.an c.ln c.cn, .slice c.ak c.lk c.ck, .slice a1 s.types.length c1, .slice a2 s.sigs.length c2] 35) := ⟨_, rfl⟩
  have hz1 : W1.heap.size = w.heap.size + 1 := by rw [hW1]; simp
  have hb1 : Below w.heap.size w W1 := by rw [hW1]; exact (Below.refl _ _).alloc (Nat.le_refl _) _
  have hs1 : W1.heap[w.heap.size]? = some (.cells #[.int .i64 c.k, .string c.n, .slice c.an c.ln c.cn, .slice c.ak c.lk c.ck, .slice a1 s.types.length c1, .slice a2 s.sigs.length c2] 35 (0, 0)) := by rw [hW1]; exact heap_alloc_new w _
  have C := Check_any S s c a1 a2 us gs c1 c2 (refC s) W1 (fun g hg => by have := hS g hg; omega) hf hnt hng (hV.keep fun g hg => hb1.block g (hS g hg)) (check_same s)
  have hmm := @run_makeMap Try.prog
  obtain ⟨⟨x1, x2, x3⟩, hx⟩ : ∃ x, newK s = x := ⟨_, rfl⟩
  rw [hx]
  unfold newK at hx
  have HC := Lib.hid C; have HV := Lib.hid hV; have HS := Lib.hid hS; have HW1 := Lib.hid hW1; have HB1 := Lib.hid hb1; have HS1 := Lib.hid hs1; have HF := Lib.hid hf; have HSH := Lib.hid hsh; have HX := Lib.hid hx
  clear C hV hS hW1 hb1 hs1 hf hsh hx
  obtain ⟨⟨p0, p1, p2, p3, p4, p5⟩, _⟩ := six_blkF HS1.out
  by_cases h0 : refC s = 0
  · have hf := HX.out
    rw [if_neg (by simpa using h0)] at hf
    have hl : s.types.length ≤ 12 ∧ s.sigs.length ≤ 12 := by
      unfold refC at h0
      split at h0
      · cases h0
      · omega
    obtain ⟨hl1, hl2⟩ := hl
    rw [h0] at HC
    have HX2 := Lib.hid hf
    clear hf HX h0
    go_enter Try.func9, Try.ntmps9
    go_upto_region 1 with fail
    rw [← HW1.out]
    clear HW1
    go_upto_region 4 with (go_at_call 24; (refine HC.out.mono ?_); rintro e w2 ⟨rfl, b2⟩; have hz2 := b2.size; have HB2 := Lib.hid b2; clear b2)
    clear p0 p1 p2 p3 p4 p5
    obtain ⟨W3, hW3⟩ : ∃ W3, W3 = ((w2.alloc (.map #[] 0)).alloc (.map #[] 0)).alloc (.cells #[.slice none 0 0, .map none, .map (some w2.heap.size), .map (some (w2.heap.size + 1)), .int .i64 0] 68) := ⟨_, rfl⟩
    have hst := stv_made w2 w.heap.size (by omega)
    rw [← hW3] at hst
    have hz3 : W3.heap.size = w2.heap.size + 3 := by rw [hW3]; simp
    have hb3 : Below w2.heap.size w2 W3 := by rw [hW3]; exact (((Below.refl _ _).alloc (Nat.le_refl _) _).alloc (by simp) _).alloc (by simp; omega) _
    have hs3 := (hb3.block w.heap.size (by omega)).trans ((HB2.out.block w.heap.size (by omega)).trans HS1.out)
    obtain ⟨⟨p0, p1, p2, p3, p4, p5⟩, _⟩ := six_blkF hs3
    have hlow : Below w.heap.size w W3 := HB1.out.trans ((HB2.out.mono (by omega)).trans (hb3.mono (by omega)))
    have CS := cschema_any s c a1 a2 us gs c1 c2 W3 w.heap.size (w2.heap.size + 2) w2.heap.size (w2.heap.size + 1) S (by omega) HS.out (HV.out.keep fun g hg => hlow.block g (HS.out g hg)) HSH.out hl1 hl2 hst
    rw [HX2.out] at CS
    dsimp only at CS
    have HCS := Lib.hid CS; have HW3 := Lib.hid hW3; have HLOW := Lib.hid hlow
    clear CS hW3 hlow hs3 hb3 hst HX2
    go_upto_region 5 with fail
    rw [← HW3.out]
    clear HW3
    by_cases h1 : x1 = 0
    · subst h1
      go_wp2_with (go_at_call 25; (refine HCS.out.mono ?_); rintro e w4 ⟨rfl, b4, h4⟩; have HB4 := Lib.hid b4; have H4 := Lib.hid h4; clear b4 h4)
      go_ret2
      refine ⟨⟨fun _ => ?_, fun h => absurd rfl h⟩, HLOW.out.trans HB4.out⟩
      obtain ⟨rb, nb, ty, nu, vs, k⟩ := H4.out (by trivial)
      exact ⟨_, rb, nb, _, _, ty, nu, vs, rfl, k⟩
    · have t0 : ((x1 : Nat) == (0 : Int)) = false := by simp; omega
      have hne : (x1 : Int) ≠ 0 := by omega
      go_wp2_with (go_at_call 25; (refine HCS.out.mono ?_); rintro e w4 ⟨rfl, b4, -⟩; have HB4 := Lib.hid b4; clear b4)
      go_ret2
      exact ⟨⟨fun h => absurd h h1, fun _ => rfl⟩, HLOW.out.trans HB4.out⟩
  · have hf := HX.out
    rw [if_pos h0] at hf
    cases hf
    have t0 : ((refC s : Nat) == (0 : Int)) = false := by simp; omega
    have hne : (refC s : Int) ≠ 0 := by omega
    go_enter Try.func9, Try.ntmps9
    go_upto_region 1 with fail
    rw [← HW1.out]
    clear HW1
    go_wp2_with (go_at_call 24; (refine HC.out.mono ?_); rintro e w2 ⟨rfl, b2⟩; have hz2 := b2.size; have HB2 := Lib.hid b2; clear b2)
    go_ret2
    exact ⟨⟨fun h => absurd h h0, fun _ => rfl⟩, HB1.out.trans (HB2.out.mono (by omega))⟩
end Sp
end Go.Proofs.Yteooafgdmpbjeab
