/- Package sprueref4: its small functions. -/
import Derived.Test.YtjjpjkkaogfoaaaWIdent
import Derived.Test.YtjjpjkkaogfoaaaWFinP
import Derived.Test.YtjjpjkkaogfoaaaWFewAll
import Derived.Test.YtjjpjkkaogfoaaaZBuiltR
import Derived.Test.YtjjpjkkaogfoaaaP2
import Derived.Deep.CutBlock
import Derived.Test.YtjjpjkkaogfoaaaDrawG
namespace Go.Proofs.Ytjjpjkkaogfoaaa
open Go.RowKit
namespace Sp
open Sc

set_option maxHeartbeats 4000000 in
theorem word_ref (s : List UInt8) (w : World) :
    Calls Try.prog 42 #[.string ⟨s.toArray⟩] w fun e w' => e = .returned (.bool (wordB s)) ∧ w = w' := by
  cases hb : wordB s
  · have e1 := toList_mk' s
    obtain ⟨t0, t1, t2, t3, t4, t5, t6⟩ := typeWord_no s hb
    go_enter Try.func42, Try.ntmps42
    go_wp2
    go_ret
    exact ⟨rfl, rfl⟩
  · rcases typeWord_cases s hb with rfl | rfl | rfl | rfl | rfl | rfl | rfl
    all_goals
      go_enter Try.func42, Try.ntmps42
      go_wp2
      go_ret
      exact ⟨rfl, rfl⟩
set_option maxHeartbeats 4000000 in
theorem in_ref (L : List (List UInt8)) (s : List UInt8) (la : Option Addr) (lc : Nat) (w : World) (hR : RowV w (Any w) la 1 (L.map fun n => [str n])) (hl : L.length ≤ maxLen) :
    Calls Try.prog 75 #[.slice la L.length lc, .string ⟨s.toArray⟩] w fun e w' => e = .returned (.bool (inR L s)) ∧ w = w' := by
  unfold maxLen at hl
  have HR := Lib.hid hR
  clear hR
  generalize hB : inR L s = B
  have HB := Lib.hid hB
  clear hB
  go_enter Try.func75, Try.ntmps75
  go_wp2
  go_loop [5] (fun kv => ∃ k : Nat, k ≤ L.length ∧ kv = .int .i64 k ∧ Hid (∀ i (h : i < L.length), i < k → L[i] ≠ s)) (fun kv => L.length - (intOf kv).toNat)
  case atStart => exact ⟨0, Nat.zero_le _, rfl, fun i h hi => by omega⟩
  case round =>
    obtain ⟨k, hk, rfl, hd⟩ := hrel
    by_cases hlt : k < L.length
    · have hkz : (k : Int) < (L.length : Int) := by omega
      have hk0 : (0 : Int) ≤ (k : Int) := by omega
      obtain ⟨g, o, rfl, hg, hc⟩ := name_at HR.out (fun _ h => h) k hlt
      have c0 := hc w (Below.refl _ _)
      have e1 := toList_mk' L[k]
      by_cases he : L[k] = s
      · have hb : B = true := by rw [← HB.out, inR_iff, ← he]; exact List.getElem_mem hlt
        have hq : (L[k] == s) = true := by simpa using he
        have HBB := Lib.hid hb
        clear hb hc he
        generalize L[k] = a at *
        go_wp2
        go_ret
        exact ⟨ret_boolZ HBB.out.symm, rfl⟩
      · have hq : (L[k] == s) = false := by simpa using he
        have hd' : ∀ i (h : i < L.length), i < k + 1 → L[i] ≠ s := fun i h hi => by
          by_cases e : i = k
          · subst e; exact he
          · exact hd.out i h (by omega)
        have HD := Lib.hid hd'
        clear hd' hd hc he
        generalize L[k] = a at *
        go_wp2
        go_round
        case rel => exact ⟨k + 1, by omega, by go_num, HD⟩
        case measure => simp [intOf]; omega
    · have hkz : ¬ (k : Int) < (L.length : Int) := by omega
      have hb : B = false := by
        rw [← HB.out]
        cases hh : inR L s
        · rfl
        · obtain ⟨i, hi, e⟩ := List.mem_iff_getElem.1 (inR_iff.1 hh)
          exact absurd e (hd.out i hi (by omega))
      have HBB := Lib.hid hb
      clear hb hd
      go_wp2
      go_ret
      exact ⟨ret_boolZ HBB.out.symm, rfl⟩

/-! ### ends -/
def EndP (L : List (List UInt8)) (t : Tz) : Prop := ∀ (c : C4) (la : Option Addr) (lc : Nat) (w : World), TzV w (Any w) t c → RowV w (Any w) la 1 (L.map fun n => [str n]) →
  Calls Try.prog 49 #[.slice la L.length lc, .agg #[.int .i64 c.k, .string c.n, .slice c.an c.ln c.cn, .slice c.ak c.lk c.ck]] w fun e w' => e = .returned (.bool (endsR (inR L) t)) ∧ Below w.heap.size w w'
theorem endsAll_drop {K : List UInt8 → Bool} {ks : List Tz} {i : Nat} (h : i < ks.length) : endsAll K (ks.drop i) = if endsR K ks[i] = true then endsAll K (ks.drop (i + 1)) else false := by rw [List.drop_eq_getElem_cons h, endsAll]
theorem endsSome_drop {K : List UInt8 → Bool} {ks : List Tz} {i : Nat} (h : i < ks.length) : endsSome K (ks.drop i) = if endsR K ks[i] = true then true else endsSome K (ks.drop (i + 1)) := by rw [List.drop_eq_getElem_cons h, endsSome]
structure EndR (w0 : World) (bc : Array Value) (full : Bool) (f : List Tz → Bool) (ks : List Tz) (iv : Value) (wr : World) (j : Nat) : Prop where
  slot : iv = .int .i64 j
  le : j ≤ ks.length
  rest : f (ks.drop j) = full
  box : wr.heap[w0.heap.size]? = some (.cells bc 25 (0, 0))
  below : Below w0.heap.size w0 wr
set_option maxRecDepth 100000 in
set_option maxHeartbeats 8000000 in
theorem ends_step (L : List (List UInt8)) (hL : L.length ≤ maxLen) (k : Int) (nm : List UInt8) (ns : List (List UInt8)) (ks : List Tz) (hkl : ks.length ≤ maxLen) (ih : ∀ i (h : i < ks.length), EndP L ks[i]) : EndP L (.mk k nm ns ks) := by
  intro c la lc w hV hR
  unfold maxLen at hkl
  cases hV with
  | mk _ _ _ _ an cn ak ck us hl hn hk hu =>
    obtain ⟨W0, hW0⟩ : ∃ W0, W0 = w.alloc (.cells #[.int .i64 k, .string ⟨nm.toArray⟩, .slice an ns.length cn, .slice ak ks.length ck] 25) := ⟨_, rfl⟩
    have hb0 : Below w.heap.size w W0 := by rw [hW0]; exact (Below.refl _ _).alloc (Nat.le_refl _) _
    have hx0 : W0.heap[w.heap.size]? = some (.cells #[.int .i64 k, .string ⟨nm.toArray⟩, .slice an ns.length cn, .slice ak ks.length ck] 25 (0, 0)) := by rw [hW0]; exact heap_alloc_new w _
    obtain ⟨⟨x0, x1, x2, x3⟩, _⟩ := four_blk hx0
    have HU := Lib.hid hu; have HK := Lib.hid hk; have HIH := Lib.hid ih; have HL := Lib.hid hl; have HR := Lib.hid hR; have HW0 := Lib.hid hW0; have HB0 := Lib.hid hb0; have HX0 := Lib.hid hx0; have HLL := Lib.hid hL
    clear hu hk ih hl hR hb0 hx0 hn hL
    generalize hB : endsR (inR L) (.mk k nm ns ks) = B
    rw [endsR] at hB
    by_cases h7 : k = 7
    · subst h7
      rw [if_pos rfl] at hB
      have HB := Lib.hid hB
      clear hB hW0
      go_enter Try.func49, Try.ntmps49
      go_wp2_with fail
      rw [← HW0.out]
      go_wp2_with fail
      go_loopw [5] (fun iv wr => ∃ j, EndR w #[.int .i64 7, .string ⟨nm.toArray⟩, .slice an ns.length cn, .slice ak ks.length ck] B (endsAll (inR L)) ks iv wr j) (fun iv _ => ks.length - (intOf iv).toNat)
      case atStart => exact ⟨0, rfl, Nat.zero_le _, HB.out, HX0.out, HB0.out⟩
      case round =>
        obtain ⟨j, h⟩ := hrel
        obtain rfl := h.slot
        have hle := h.le
        obtain ⟨⟨y0, y1, y2, y3⟩, _⟩ := four_blk h.box
        have H := Lib.hid h
        clear h x0 x1 x2 x3
        by_cases hj : j < ks.length
        · have hju : j < us.length := by rw [HL.out]; exact hj
          obtain ⟨g, o, rfl, hg, hc⟩ := four_at HK.out (fun _ h => h) j hju
          obtain ⟨q0, q1, q2, q3⟩ := hc wr (fun k hk => H.out.below.block k hk)
          have C := HIH.out j hj us[j] la lc wr ((HU.out j hj hju).grow H.out.below) (HR.out.keep (fun _ hg => Nat.lt_of_lt_of_le hg H.out.below.size) (fun g hg => H.out.below.block g hg))
          have hd := endsAll_drop (K := inR L) hj
          have hjz : (j : Int) < (ks.length : Int) := by omega
          have hj0 : (0 : Int) ≤ (j : Int) := by omega
          have HC := Lib.hid C; have HD := Lib.hid hd
          clear hc C hd
          cases he : endsR (inR L) ks[j]
          · have hb : B = false := by rw [← H.out.rest, HD.out, he]; rfl
            rw [he] at HC
            have HBB := Lib.hid hb
            clear hb he
            go_wp2_with (go_at_call 49; (with_reducible refine HC.out.mono ?_); rintro e w2 ⟨rfl, x2⟩; have HX2 := Lib.hid x2; clear x2)
            go_ret
            exact ⟨ret_boolZ HBB.out.symm, H.out.below.trans (HX2.out.mono H.out.below.size)⟩
          · have hb : endsAll (inR L) (ks.drop (j + 1)) = B := by have := H.out.rest; rw [HD.out, he, if_pos rfl] at this; exact this
            rw [he] at HC
            have HBB := Lib.hid hb
            clear hb he
            go_wp2_with (go_at_call 49; (with_reducible refine HC.out.mono ?_); rintro e w2 ⟨rfl, x2⟩; have HX2 := Lib.hid x2; clear x2)
            go_roundw
            case rel => exact ⟨j + 1, by go_num, by omega, HBB.out, (HX2.out.block _ (Array.getElem?_eq_some_iff.1 H.out.box).1).trans H.out.box, H.out.below.trans (HX2.out.mono H.out.below.size)⟩
            case measure => simp [intOf]; omega
        · have hjz : ¬ (j : Int) < (ks.length : Int) := by omega
          have hb : B = true := by rw [← H.out.rest, List.drop_of_length_le (by omega), endsAll]
          have HBB := Lib.hid hb
          clear hb
          go_wp2
          go_ret
          exact ⟨ret_boolZ HBB.out.symm, H.out.below⟩
    · rw [if_neg h7] at hB
      have t7 : (k == 7) = false := by rw [beq_eq_false_iff_ne]; exact h7
      by_cases h8 : k = 8
      · subst h8
        rw [if_pos rfl] at hB
        have HB := Lib.hid hB
        clear hB hW0 h7 t7
        go_enter Try.func49, Try.ntmps49
        go_wp2_with fail
        rw [← HW0.out]
        go_wp2_with fail
        go_loopw [6] (fun iv wr => ∃ j, EndR w #[.int .i64 8, .string ⟨nm.toArray⟩, .slice an ns.length cn, .slice ak ks.length ck] B (endsSome (inR L)) ks iv wr j) (fun iv _ => ks.length - (intOf iv).toNat)
        case atStart => exact ⟨0, rfl, Nat.zero_le _, HB.out, HX0.out, HB0.out⟩
        case round =>
          obtain ⟨j, h⟩ := hrel
          obtain rfl := h.slot
          have hle := h.le
          obtain ⟨⟨y0, y1, y2, y3⟩, _⟩ := four_blk h.box
          have H := Lib.hid h
          clear h x0 x1 x2 x3
          by_cases hj : j < ks.length
          · have hju : j < us.length := by rw [HL.out]; exact hj
            obtain ⟨g, o, rfl, hg, hc⟩ := four_at HK.out (fun _ h => h) j hju
            obtain ⟨q0, q1, q2, q3⟩ := hc wr (fun k hk => H.out.below.block k hk)
            have C := HIH.out j hj us[j] la lc wr ((HU.out j hj hju).grow H.out.below) (HR.out.keep (fun _ hg => Nat.lt_of_lt_of_le hg H.out.below.size) (fun g hg => H.out.below.block g hg))
            have hd := endsSome_drop (K := inR L) hj
            have hjz : (j : Int) < (ks.length : Int) := by omega
            have hj0 : (0 : Int) ≤ (j : Int) := by omega
            have HC := Lib.hid C; have HD := Lib.hid hd
            clear hc C hd
            cases he : endsR (inR L) ks[j]
            · have hb : endsSome (inR L) (ks.drop (j + 1)) = B := by have := H.out.rest; rw [HD.out, he, if_neg (by simp)] at this; exact this
              rw [he] at HC
              have HBB := Lib.hid hb
              clear hb he
              go_wp2_with (go_at_call 49; (with_reducible refine HC.out.mono ?_); rintro e w2 ⟨rfl, x2⟩; have HX2 := Lib.hid x2; clear x2)
              go_roundw
              case rel => exact ⟨j + 1, by go_num, by omega, HBB.out, (HX2.out.block _ (Array.getElem?_eq_some_iff.1 H.out.box).1).trans H.out.box, H.out.below.trans (HX2.out.mono H.out.below.size)⟩
              case measure => simp [intOf]; omega
            · have hb : B = true := by rw [← H.out.rest, HD.out, he]; rfl
              rw [he] at HC
              have HBB := Lib.hid hb
              clear hb he
              go_wp2_with (go_at_call 49; (with_reducible refine HC.out.mono ?_); rintro e w2 ⟨rfl, x2⟩; have HX2 := Lib.hid x2; clear x2)
              go_ret
              exact ⟨ret_boolZ HBB.out.symm, H.out.below.trans (HX2.out.mono H.out.below.size)⟩
          · have hjz : ¬ (j : Int) < (ks.length : Int) := by omega
            have hb : B = false := by rw [← H.out.rest, List.drop_of_length_le (by omega), endsSome]
            have HBB := Lib.hid hb
            clear hb
            go_wp2
            go_ret
            exact ⟨ret_boolZ HBB.out.symm, H.out.below⟩
      · rw [if_neg h8] at hB
        have t8 : (k == 8) = false := by rw [beq_eq_false_iff_ne]; exact h8
        by_cases h9 : k = 9
        · subst h9
          rw [if_pos rfl] at hB
          have CI := in_ref L nm la lc W0 (HR.out.keep (fun _ hg => Nat.lt_of_lt_of_le hg HB0.out.size) (fun g hg => HB0.out.block g hg)) HLL.out
          have HCI := Lib.hid CI; have HB := Lib.hid hB
          clear CI hB hW0 h7 t7 h8 t8
          go_enter Try.func49, Try.ntmps49
          go_wp2_with fail
          rw [← HW0.out]
          go_wp2_with (go_at_call 75; (with_reducible refine HCI.out.mono ?_); rintro e w2 ⟨rfl, rfl⟩)
          go_ret
          exact ⟨ret_boolZ HB.out, HB0.out⟩
        · rw [if_neg h9] at hB
          have t9 : (k == 9) = false := by rw [beq_eq_false_iff_ne]; exact h9
          have HB := Lib.hid hB
          clear hB hW0 h7 h8 h9
          go_enter Try.func49, Try.ntmps49
          go_wp2_with fail
          rw [← HW0.out]
          go_wp2_with fail
          go_ret
          exact ⟨ret_boolZ HB.out, HB0.out⟩
theorem ends_all (L : List (List UInt8)) (hL : L.length ≤ maxLen) : ∀ (N : Nat) (t : Tz), sizeZ t ≤ N → fitZ t = true → EndP L t
  | 0, .mk k n ns ks, h, _ => by simp only [sizeZ] at h; omega
  | N + 1, .mk k n ns ks, h, hf => by
    obtain ⟨_, _, _, h4, h5⟩ := fitZ_mk hf
    exact ends_step L hL k n ns ks h4 fun i hi => ends_all L hL N ks[i] (by have := sizeZ_mem ks i hi; simp only [sizeZ] at h; omega) (fitZs_mem ks h5 i hi)
theorem ends_ref (L : List (List UInt8)) (hL : L.length ≤ maxLen) (t : Tz) (hf : fitZ t = true) : EndP L t := ends_all L hL _ t (Nat.le_refl _) hf
end Sp
end Go.Proofs.Ytjjpjkkaogfoaaa

namespace Go.Proofs.Ytjjpjkkaogfoaaa
open Go.RowKit
namespace Sp
open Sc

theorem SzV.up {w w' : World} {s : Sz} {c : C4} {a1 a2 : Option Addr} {us : List (List UInt8 × C4)} {gs : List (List UInt8 × G6)} (h : SzV w (Any w) s c a1 us a2 gs) (hb : Below w.heap.size w w') : SzV w' (Any w') s c a1 us a2 gs :=
  ⟨h.main.grow hb, h.nt, h.rt.up hb, fun i h1 h2 => ⟨(h.vt i h1 h2).1, (h.vt i h1 h2).2.grow hb⟩, h.ng, h.rg.up hb, fun i h1 h2 => (h.vg i h1 h2).step (fun g hg => ⟨Nat.lt_of_lt_of_le hg hb.size, hb.block g hg⟩)⟩
/-- What a name stands for, the first of that name; nothing: a type of no kind. -/
def firstZ (l : List NT) (s : List UInt8) : Tz := match l.find? (fun x => decide (x.1 = s)) with | some x => x.2 | none => .mk 0 [] [] []
theorem find_at {s : List UInt8} : ∀ {l : List NT} {k : Nat} (hk : k < l.length), (∀ i (h : i < l.length), i < k → l[i].1 ≠ s) → l[k].1 = s → l.find? (fun x => decide (x.1 = s)) = some l[k]
  | a :: l, 0, _, _, h2 => by
    simp only [List.getElem_cons_zero] at h2 ⊢
    rw [List.find?_cons_of_pos (by simpa using h2)]
  | a :: l, k + 1, hk, h1, h2 => by
    have h0 := h1 0 (by simp) (by omega)
    simp only [List.getElem_cons_zero] at h0
    simp only [List.getElem_cons_succ] at h2 ⊢
    rw [List.find?_cons_of_neg (by simpa using h0)]
    exact find_at (by simpa using hk) (fun i h hi => by have := h1 (i + 1) (by simpa using h) (by omega); simpa using this) h2
theorem first_at {l : List NT} {s : List UInt8} {k : Nat} (hk : k < l.length) (h1 : ∀ i (h : i < l.length), i < k → l[i].1 ≠ s) (h2 : l[k].1 = s) : firstZ l s = l[k].2 ∧ hasZ l s = true := by
  refine ⟨?_, hasZ_iff.2 ⟨_, List.getElem_mem hk, h2⟩⟩
  unfold firstZ; rw [find_at hk h1 h2]
theorem first_no {l : List NT} {s : List UInt8} (h1 : ∀ i (h : i < l.length), l[i].1 ≠ s) : firstZ l s = .mk 0 [] [] [] ∧ hasZ l s = false := by
  constructor
  · unfold firstZ
    rw [List.find?_eq_none.2 (fun x hx => by
      obtain ⟨i, hi, rfl⟩ := List.mem_iff_getElem.1 hx
      simpa using h1 i hi)]
  · cases hh : hasZ l s
    · rfl
    · obtain ⟨x, hx, e⟩ := hasZ_iff.1 hh
      obtain ⟨i, hi, rfl⟩ := List.mem_iff_getElem.1 hx
      exact absurd e (h1 i hi)
set_option maxRecDepth 100000 in
set_option maxHeartbeats 8000000 in
theorem Def_ref (S : Nat → Prop) (s : Sz) (nm : List UInt8) (c : C4) (a1 a2 : Option Addr) (us : List (List UInt8 × C4)) (gs : List (List UInt8 × G6)) (c1 c2 : Nat) (w : World) (hS : ∀ g, S g → g < w.heap.size) (hV : SzV w S s c a1 us a2 gs) (hl : s.types.length ≤ maxLen) :
    Calls Try.prog 88 #[.agg #[.int .i64 c.k, .string c.n, .slice c.an c.ln c.cn, .slice c.ak c.lk c.ck, .slice a1 s.types.length c1, .slice a2 s.sigs.length c2], .string ⟨nm.toArray⟩] w fun e w' => ∃ ct : C4, e = .returned (.tuple #[.agg #[.int .i64 ct.k, .string ct.n, .slice ct.an ct.ln ct.cn, .slice ct.ak ct.lk ct.ck], .bool (hasZ s.types nm)]) ∧ TzV w' S (firstZ s.types nm) ct ∧ Below w.heap.size w w' := by
  unfold maxLen at hl
  have HSS := Lib.hid hS
  clear hS
  obtain ⟨W0, hW0⟩ : ∃ W0, W0 = (w.alloc (.cells #[.int .i64 c.k, .string c.n, .slice c.an c.ln c.cn, .slice c.ak c.lk c.ck, .slice a1 s.types.length c1, .slice a2 s.sigs.length c2] 29)).alloc (.cells #[.int .i64 0, .string ⟨#[]⟩, .slice none 0 0, .slice none 0 0] 25) := ⟨_, rfl⟩
  have hb0 : Below w.heap.size w W0 := by rw [hW0]; exact ((Below.refl _ _).alloc (Nat.le_refl _) _).alloc (by simp) _
  have hz0 : W0.heap.size = w.heap.size + 2 := by rw [hW0]; simp
  have hs0 : W0.heap[w.heap.size]? = some (.cells #[.int .i64 c.k, .string c.n, .slice c.an c.ln c.cn, .slice c.ak c.lk c.ck, .slice a1 s.types.length c1, .slice a2 s.sigs.length c2] 29 (0, 0)) := by rw [hW0, blk_if, if_neg (by simp), blk_if, if_pos rfl]
  have ho0 : W0.heap[w.heap.size + 1]? = some (.cells #[.int .i64 0, .string ⟨#[]⟩, .slice none 0 0, .slice none 0 0] 25 (0, 0)) := by rw [hW0, blk_if, if_pos (by simp)]
  obtain ⟨⟨s0, s1, s2, s3, s4, s5⟩, _⟩ := six_blkF hs0
  obtain ⟨⟨o0, o1, o2, o3⟩, ⟨f0, f1, f2, f3⟩⟩ := four_blk ho0
  have HV := Lib.hid hV; have HW0 := Lib.hid hW0; have HB0 := Lib.hid hb0; have HO0 := Lib.hid ho0
  clear hV hW0 hb0 hs0 ho0
  go_enter Try.func88, Try.ntmps88
  go_wp2_with fail
  rw [← HW0.out]
  go_wp2_with fail
  go_loop [6] (fun kv => ∃ k : Nat, k ≤ s.types.length ∧ kv = .int .i64 k ∧ Hid (∀ i (h : i < s.types.length), i < k → s.types[i].1 ≠ nm)) (fun kv => s.types.length - (intOf kv).toNat)
  case atStart => exact ⟨0, Nat.zero_le _, rfl, fun i h hi => by omega⟩
  case round =>
    obtain ⟨k, hk, rfl, hd⟩ := hrel
    by_cases hlt : k < s.types.length
    · have hku : k < us.length := by rw [HV.out.nt]; exact hlt
      obtain ⟨g, o, rfl, hg, hc⟩ := nam_at HV.out.rt HSS.out k hku
      obtain ⟨c0, d0, d1, d2, d3⟩ := hc W0 (fun j hj => HB0.out.block j hj)
      obtain ⟨hn, hv⟩ := HV.out.vt k hlt hku
      rw [hn] at c0
      have hkz : (k : Int) < (s.types.length : Int) := by omega
      have hk0 : (0 : Int) ≤ (k : Int) := by omega
      have e1 := toList_mk' s.types[k].1
      have e2 := toList_mk' nm
      by_cases he : s.types[k].1 = nm
      · obtain ⟨r1, r2⟩ := first_at hlt hd.out he
        have hq : (s.types[k].1 == nm) = true := by simpa using he
        have HR1 := Lib.hid r1; have HR2 := Lib.hid r2; have HVK := Lib.hid hv
        clear r1 r2 hc hn hv he
        generalize us[k].2 = x at *
        generalize s.types[k].1 = a at *
        obtain ⟨⟨v0, v1, v2, v3⟩, _⟩ := four_blk (put4_at HO0.out x)
        have hPO := put4_only W0 (w.heap.size + 1) x
        have hbl := HB0.out.trans (hPO.below (by omega) (by omega))
        have HF := Lib.hid (HVK.out.keep (fun _ h => h) (fun g hg => hbl.block g (HSS.out g hg))); have HBL := Lib.hid hbl
        clear hbl hPO
        unfold put4 at v0 v1 v2 v3
        go_wp2
        refine bodyPost_ret (v := .tuple #[.agg #[.int .i64 x.k, .string x.n, .slice x.an x.ln x.cn, .slice x.ak x.lk x.ck], .bool true]) (by simp [results, Try.results88, go_sem, v0, v1, v2, v3]) rfl ?_
        exact ⟨x, by rw [HR2.out], by rw [HR1.out]; exact HF.out, HBL.out⟩
      · have hq : (s.types[k].1 == nm) = false := by simpa using he
        have hd' : ∀ i (h : i < s.types.length), i < k + 1 → s.types[i].1 ≠ nm := fun i h hi => by
          by_cases e : i = k
          · subst e; exact he
          · exact hd.out i h (by omega)
        have HD := Lib.hid hd'
        clear hd' hd hc he hn hv d0 d1 d2 d3
        generalize s.types[k].1 = a at *
        go_wp2
        go_round
        case rel => exact ⟨k + 1, by omega, by go_num, HD⟩
        case measure => simp [intOf]; omega
    · have hkz : ¬ (k : Int) < (s.types.length : Int) := by omega
      obtain ⟨r1, r2⟩ := first_no (fun i h => hd.out i h (by omega))
      have HR1 := Lib.hid r1; have HR2 := Lib.hid r2
      clear r1 r2 hd
      obtain ⟨⟨v0, v1, v2, v3⟩, _⟩ := four_blk (put4_at HO0.out ⟨0, ⟨#[]⟩, none, 0, 0, none, 0, 0⟩)
      have hPO := put4_only W0 (w.heap.size + 1) ⟨0, ⟨#[]⟩, none, 0, 0, none, 0, 0⟩
      have hbl := HB0.out.trans (hPO.below (by omega) (by omega))
      have HBL := Lib.hid hbl
      clear hbl hPO
      unfold put4 at v0 v1 v2 v3
      go_wp2
      refine bodyPost_ret (v := .tuple #[.agg #[.int .i64 0, .string ⟨#[]⟩, .slice none 0 0, .slice none 0 0], .bool false]) (by simp [results, Try.results88, go_sem, v0, v1, v2, v3]) rfl ?_
      exact ⟨⟨0, ⟨#[]⟩, none, 0, 0, none, 0, 0⟩, by rw [HR2.out], by rw [HR1.out]; exact TzV.leaf _ _ 0 [], HBL.out⟩

/-! ### finite -/
def nowR (l : List NT) (L : List (List UInt8)) (i : Nat) : List (List UInt8) := ((l.take i).filter fun x => endsR (inR L) x.2).map (·.1)
theorem nowR_all (l : List NT) (L : List (List UInt8)) : nowR l L l.length = stepR l L := by unfold nowR stepR; rw [List.take_length]
theorem nowR_succ (l : List NT) (L : List (List UInt8)) (i : Nat) (h : i < l.length) : nowR l L (i + 1) = if endsR (inR L) l[i].2 = true then nowR l L i ++ [l[i].1] else nowR l L i := by
  unfold nowR
  rw [List.take_add_one, List.getElem?_eq_getElem h, Option.toList_some, List.filter_append, List.map_append]
  cases he : endsR (inR L) l[i].2
  · simp [he]
  · simp [he]
theorem nowR_len (l : List NT) (L : List (List UInt8)) (i : Nat) : (nowR l L i).length ≤ l.length := by
  unfold nowR; rw [List.length_map]; exact Nat.le_trans (List.length_filter_le _ _) (by rw [List.length_take]; omega)
structure FiR (w : World) (bc : Array Value) (l : List NT) (v3 v4 : Value) (wr : World) (k : Nat) (la : Option Addr) (lc : Nat) : Prop where
  slot3 : v3 = .slice la (finR l k).length lc
  slot4 : v4 = .int .i64 k
  le : k ≤ l.length + 1
  row : RowV wr (Any wr) la 1 ((finR l k).map fun n => [str n])
  box : wr.heap[w.heap.size]? = some (.cells bc 29 (0, 0))
  below : Below w.heap.size w wr
structure FiI (W1 : World) (l : List NT) (L : List (List UInt8)) (v5 v6 : Value) (wr : World) (i : Nat) : Prop where
  slot6 : v6 = .int .i64 i
  le : i ≤ l.length
  own : wr.ownsRow W1.heap.size 9 1 v5 (nowR l L i).length (nmF (nowR l L i))
  below : Below W1.heap.size W1 wr
set_option maxRecDepth 100000 in
set_option maxHeartbeats 8000000 in
theorem finite_ref (s : Sz) (c : C4) (a1 a2 : Option Addr) (us : List (List UInt8 × C4)) (gs : List (List UInt8 × G6)) (c1 c2 : Nat) (w : World) (hV : SzV w (Any w) s c a1 us a2 gs) (hl : s.types.length ≤ 1000000) (hf : SzFit s) :
    Calls Try.prog 45 #[.agg #[.int .i64 c.k, .string c.n, .slice c.an c.ln c.cn, .slice c.ak c.lk c.ck, .slice a1 s.types.length c1, .slice a2 s.sigs.length c2]] w fun e w' => ∃ la lc, e = .returned (.slice la (finiteR s.types).length lc) ∧ RowV w' (Any w') la 1 ((finiteR s.types).map fun n => [str n]) ∧ Below w.heap.size w w' := by
  obtain ⟨W0, hW0⟩ : ∃ W0, W0 = w.alloc (.cells #[.int .i64 c.k, .string c.n, .slice c.an c.ln c.cn, .slice c.ak c.lk c.ck, .slice a1 s.types.length c1, .slice a2 s.sigs.length c2] 29) := ⟨_, rfl⟩
  have hb0 : Below w.heap.size w W0 := by rw [hW0]; exact (Below.refl _ _).alloc (Nat.le_refl _) _
  have hs0 : W0.heap[w.heap.size]? = some (.cells #[.int .i64 c.k, .string c.n, .slice c.an c.ln c.cn, .slice c.ak c.lk c.ck, .slice a1 s.types.length c1, .slice a2 s.sigs.length c2] 29 (0, 0)) := by rw [hW0]; exact heap_alloc_new w _
  obtain ⟨is, his, js, ls, ms⟩ := info_parts infoS
  have HIs := Lib.hid his; have HJs := Lib.hid js; have HKs := Lib.hid ls; have HLs := Lib.hid ms
  have HV := Lib.hid hV; have HW0 := Lib.hid hW0; have HB0 := Lib.hid hb0; have HS0 := Lib.hid hs0; have HFT := Lib.hid hf
  clear hV hW0 hb0 hs0 his js ls ms hf
  go_enter Try.func45, Try.ntmps45
  go_wp2_with fail
  rw [← HW0.out]
  go_wp2_with fail
  go_loopw [3, 4] (fun v3 v4 wr => ∃ k la lc, FiR w #[.int .i64 c.k, .string c.n, .slice c.an c.ln c.cn, .slice c.ak c.lk c.ck, .slice a1 s.types.length c1, .slice a2 s.sigs.length c2] s.types v3 v4 wr k la lc) (fun _ v4 _ => s.types.length + 1 - (intOf v4).toNat)
  case atStart => exact ⟨0, none, 0, rfl, rfl, Nat.zero_le _, .inl rfl, HS0.out, HB0.out⟩
  case round =>
    obtain ⟨k, la, lc, h⟩ := hrel
    obtain rfl := h.slot3
    obtain rfl := h.slot4
    have hle := h.le
    have hfl := finR_len s.types k
    obtain ⟨⟨s0, s1, s2, s3, s4, s5⟩, _⟩ := six_blkF h.box
    have H := Lib.hid h
    have hwz := (Array.getElem?_eq_some_iff.1 h.box).1
    clear h
    by_cases hkl : k ≤ s.types.length
    · have hkz : (k : Int) ≤ (s.types.length : Int) := by omega
      obtain ⟨L, hL⟩ : ∃ L, L = finR s.types k := ⟨_, rfl⟩
      rw [← hL] at H hfl ⊢
      have HLE := Lib.hid hL
      clear hL
      obtain ⟨W1, rfl⟩ : ∃ W1, W1 = wr := ⟨_, rfl⟩
      go_wp2_with fail
      go_loopw [5, 6] (fun v5 v6 wr => ∃ i, FiI W1 s.types L v5 v6 wr i) (fun _ v6 _ => s.types.length - (intOf v6).toNat)
      case atStart => exact ⟨0, rfl, Nat.zero_le _, World.ownsRow_nil _ _ _ _, Below.refl _ _⟩
      case round =>
        obtain ⟨i, h⟩ := hrel
        obtain rfl := h.slot6
        have hle2 := h.le
        have hiz := h.below.size
        obtain ⟨⟨t0, t1, t2, t3, t4, t5⟩, _⟩ := six_blkF ((h.below.block w.heap.size hwz).trans H.out.box)
        obtain ⟨xa, xc, hx⟩ := own_sliceZ h.own
        subst hx
        have H2 := Lib.hid h
        clear h s0 s1 s2 s3 s4 s5
        have hbw : Below w.heap.size w wr := H.out.below.trans (H2.out.below.mono (by omega))
        by_cases hil : i < s.types.length
        · have hju : i < us.length := by rw [HV.out.nt]; exact hil
          obtain ⟨g, o, rfl, hg, hc⟩ := nam_at HV.out.rt (fun _ h => h) i hju
          obtain ⟨q0, q1, q2, q3, q4⟩ := hc wr (fun j hj => hbw.block j hj)
          obtain ⟨hn, hv⟩ := HV.out.vt i hil hju
          rw [hn] at q0
          have C := ends_ref L (by unfold maxLen; omega) s.types[i].2 (HFT.out.types i hil).2 us[i].2 la lc wr (hv.grow hbw) (by have := H.out.row.up H2.out.below; rw [← HLE.out] at this; exact this)
          have hns := nowR_succ s.types L i hil
          have hnl := nowR_len s.types L i
          have hiz2 : (i : Int) < (s.types.length : Int) := by omega
          have hi0 : (0 : Int) ≤ (i : Int) := by omega
          have hbz := hbw.size
          generalize us[i].2 = x at *
          generalize s.types[i].1 = nm at *
          have HCC : Hid (∀ W : World, (∀ j, j < w.heap.size → W.heap[j]? = w.heap[j]?) → W.cell? ⟨g, o + i * 5, none⟩ = some (.string ⟨nm.toArray⟩) ∧ W.cell? ⟨g, o + i * 5 + 1, none⟩ = some (.int .i64 x.k) ∧ W.cell? ⟨g, o + i * 5 + 2, none⟩ = some (.string x.n) ∧ W.cell? ⟨g, o + i * 5 + 3, none⟩ = some (.slice x.an x.ln x.cn) ∧ W.cell? ⟨g, o + i * 5 + 4, none⟩ = some (.slice x.ak x.lk x.ck)) := fun W hW => by have := hc W hW; rw [hn] at this; exact this
          have HC := Lib.hid C; have HN := Lib.hid hns; have HBW := Lib.hid hbw
          clear C hns hc hn hv hbw
          cases he : endsR (inR L) s.types[i].2
          · have hq : nowR s.types L (i + 1) = nowR s.types L i := by rw [HN.out, he]; rfl
            rw [he] at HC
            have HQ := Lib.hid hq
            clear hq he
            go_wp2_with (go_at_call 49; (with_reducible refine HC.out.mono ?_); rintro e w2 ⟨rfl, x2⟩; have HX2 := Lib.hid x2; clear x2)
            go_roundw
            case rel => exact ⟨i + 1, by go_num, by omega, by rw [HQ.out]; exact own_kp H2.out.own (Nat.le_refl _) (fun g e => HX2.out.block g (H2.out.own.lt g e).2), H2.out.below.trans (HX2.out.mono H2.out.below.size)⟩
            case measure => simp [intOf]; omega
          · have hq : nowR s.types L (i + 1) = nowR s.types L i ++ [nm] := by rw [HN.out, he, if_pos rfl]
            rw [he] at HC
            have HQ := Lib.hid hq
            clear hq he
            go_wp2_with (first
              | (go_at_call 49; (with_reducible refine HC.out.mono ?_); rintro e w2 ⟨rfl, x2⟩; have hz2 := x2.size; obtain ⟨⟨a0, a1', a2', a3, a4, a5⟩, _⟩ := six_blkF ((x2.block w.heap.size (by omega)).trans ((H2.out.below.block w.heap.size hwz).trans H.out.box)); obtain ⟨b0, b1, b2, b3, b4⟩ := HCC.out w2 (fun j hj => (x2.block j (by omega)).trans (HBW.out.block j hj)); have HX2 := Lib.hid x2; clear x2)
              | (at_builtin; (refine Sh.wpList_append_fresh rfl _ _ 22 rfl W1.heap.size 9 is (.string ⟨#[]⟩) 1 16 Try.underlying22 HIs.out HJs.out HKs.out HLs.out rfl (by decide) _ _ _ rfl ((own_kp H2.out.own (Nat.le_refl _) (fun g e => HX2.out.block g (H2.out.own.lt g e).2)).alloc _) ⟨w2.heap.size, 0, none⟩ 1 1 [.string ⟨nm.toArray⟩] rfl rfl (cells_newZ _ _ _) (fun x hx => by simp at hx; subst hx; rfl) (by unfold maxLen; omega) (by omega) (by simp; omega) ?_); intro v' w5 hown' hgrow hfr; have HOW := Lib.hid hown'; have HGR := Lib.hid hgrow; clear hown' hgrow hfr))
            go_roundw
            case rel =>
              have ho := HOW.out
              rw [nmF_snoc, ← HQ.out] at ho
              exact ⟨i + 1, by go_num, by omega, by rw [show (nowR s.types L (i + 1)).length = (nowR s.types L i).length + 1 by rw [HQ.out]; simp]; exact ho, ((H2.out.below.trans (HX2.out.mono H2.out.below.size)).alloc (by omega) _).trans (below_grown HGR.out (fun g e => (H2.out.own.lt g e).1) (by simp; omega))⟩
            case measure => simp [intOf]; omega
        · have hiz2 : ¬ (i : Int) < (s.types.length : Int) := by omega
          obtain rfl : i = s.types.length := by omega
          have hna : nowR s.types L s.types.length = finR s.types (k + 1) := by rw [nowR_all, HLE.out]; rfl
          have ho := H2.out.own
          obtain ⟨xa', xc', e1, hr⟩ := RowV.own (S := Any wr) (l := (nowR s.types L s.types.length).map fun n => [str n]) ho (str1_len _) (by simp) (fun g hg => (ho.lt g hg).2)
          obtain ⟨rfl, rfl⟩ : xa = xa' ∧ xc = xc' := by cases e1; exact ⟨rfl, rfl⟩
          rw [hna] at hr
          have HNA := Lib.hid hna; have HR := Lib.hid hr; have HBW := Lib.hid hbw
          clear hna hr e1 ho hbw
          go_wp2
          go_roundw
          case rel => exact ⟨k + 1, xa, xc, by rw [HNA.out], by go_num, by omega, HR.out, (H2.out.below.block w.heap.size hwz).trans H.out.box, HBW.out⟩
          case measure => simp [intOf]; omega
    · have hkz : ¬ (k : Int) ≤ (s.types.length : Int) := by omega
      obtain rfl : k = s.types.length + 1 := by omega
      go_wp2
      go_ret
      exact ⟨la, ⟨lc, rfl⟩, H.out.row, H.out.below⟩
end Sp
end Go.Proofs.Ytjjpjkkaogfoaaa

namespace Go.Proofs.Ytjjpjkkaogfoaaa
open Go.RowKit
namespace Sp
open Sc

/-- What the operations yield. -/
structure NV (s : Sz) (c : C4) (a1 a2 : Option Addr) (c1 c2 : Nat) (t : C4) (la : Option Addr) (lc : Nat) (bb : Bool) (vals : Nat → Value) : Prop where
  v0 : vals 0 = .agg #[.int .i64 c.k, .string c.n, .slice c.an c.ln c.cn, .slice c.ak c.lk c.ck, .slice a1 s.types.length c1, .slice a2 s.sigs.length c2]
  v1 : vals 1 = .slice la (finiteR s.types).length lc
  v2 : vals 2 = .agg #[.int .i64 t.k, .string t.n, .slice t.an t.ln t.cn, .slice t.ak t.lk t.ck]
  v3 : vals 3 = .bool bb
  v4 : vals 4 = .bool bb
structure NM (W0 : World) (L : List (List UInt8)) (la : Option Addr) (l1 l3 : Bool) (v : World) : Prop where
  below : Below W0.heap.size W0 v
  row : l1 = true → RowV v (Any v) la 1 (L.map fun n => [str n])
  imp : l3 = true → l1 = true
structure NJ (W0 : World) (s : Sz) (c : C4) (a1 a2 : Option Addr) (c1 c2 : Nat) (t : C4) (bb : Bool) (ops : Array Oper) (a0 : Act) (listed : Array Bool) (b : Act) (v : World) : Prop where
  size : listed.size = ops.size
  closed : Closed ops listed
  rest : ∃ (vals : Nat → Value) (la : Option Addr) (lc : Nat), Fr ops a0 vals listed b ∧ NV s c a1 a2 c1 c2 t la lc bb vals ∧ NM W0 (finiteR s.types) la (listed.getD 1 false) (listed.getD 3 false) v
theorem NJ.quiet {W0 : World} {s : Sz} {c : C4} {a1 a2 : Option Addr} {c1 c2 : Nat} {t : C4} {bb : Bool} {ops : Array Oper} {a0 b : Act} {listed : Array Bool} {v : World} {i : Nat} {o : Oper} {vals : Nat → Value} {la : Option Addr} {lc : Nat} {Q : Exit → Act → World → Prop} (hz : listed.size = ops.size) (hC : Closed ops listed) (hi : i ∈ Region.ready .any ops listed) (hF : Fr ops a0 vals listed b) (hV : NV s c a1 a2 c1 c2 t la lc bb vals)
    (hM : NM W0 (finiteR s.types) la (listed.getD 1 false) (listed.getD 3 false) v)
    (hs : Slots ops a0.tmps.size) (ho : ops[i]? = some o) (hg : o.guard = none) (h9 : i ≠ 1 ∧ i ≠ 3) (hr : (execOp b.eval o).run Try.prog v = .ok (.value (vals i)) v) :
    wpOp Try.prog ops Q i (fun b' v' => NJ W0 s c a1 a2 c1 c2 t bb ops a0 (listed.setIfInBounds i true) b' v') b v := by
  refine wpOp_run ho hg hr ⟨by simp [hz], hC.put hi, vals, la, lc, hF.put hs hz ho, hV, ?_⟩
  simp only [getD_setF]
  simpa [h9.1, h9.2] using hM
set_option maxRecDepth 100000 in
set_option maxHeartbeats 8000000 in
theorem Finite_ref (s : Sz) (u : Tz) (t : C4) (c : C4) (a1 a2 : Option Addr) (us : List (List UInt8 × C4)) (gs : List (List UInt8 × G6)) (c1 c2 : Nat) (w : World) (hV : SzV w (Any w) s c a1 us a2 gs) (hT : TzV w (Any w) u t) (hl : s.types.length ≤ 1000000) (hf : SzFit s) (hfu : fitZ u = true) :
    Calls Try.prog 21 #[.agg #[.int .i64 c.k, .string c.n, .slice c.an c.ln c.cn, .slice c.ak c.lk c.ck, .slice a1 s.types.length c1, .slice a2 s.sigs.length c2], .agg #[.int .i64 t.k, .string t.n, .slice t.an t.ln t.cn, .slice t.ak t.lk t.ck]] w fun e w' => e = .returned (.bool (endsR (inR (finiteR s.types)) u)) ∧ Below w.heap.size w w' := by
  obtain ⟨W0, hW0⟩ : ∃ W0, W0 = (w.alloc (.cells #[.int .i64 c.k, .string c.n, .slice c.an c.ln c.cn, .slice c.ak c.lk c.ck, .slice a1 s.types.length c1, .slice a2 s.sigs.length c2] 29)).alloc (.cells #[.int .i64 t.k, .string t.n, .slice t.an t.ln t.cn, .slice t.ak t.lk t.ck] 25) := ⟨_, rfl⟩
  have hb0 : Below w.heap.size w W0 := by rw [hW0]; exact ((Below.refl _ _).alloc (Nat.le_refl _) _).alloc (by simp) _
  have hz0 : W0.heap.size = w.heap.size + 2 := by rw [hW0]; simp
  have hs0 : W0.heap[w.heap.size]? = some (.cells #[.int .i64 c.k, .string c.n, .slice c.an c.ln c.cn, .slice c.ak c.lk c.ck, .slice a1 s.types.length c1, .slice a2 s.sigs.length c2] 29 (0, 0)) := by rw [hW0, blk_if, if_neg (by simp), blk_if, if_pos rfl]
  have ho0 : W0.heap[w.heap.size + 1]? = some (.cells #[.int .i64 t.k, .string t.n, .slice t.an t.ln t.cn, .slice t.ak t.lk t.ck] 25 (0, 0)) := by rw [hW0, blk_if, if_pos (by simp)]
  have HV := Lib.hid hV; have HT := Lib.hid hT; have HW0 := Lib.hid hW0; have HB0 := Lib.hid hb0; have HS0 := Lib.hid hs0; have HO0 := Lib.hid ho0; have HFT := Lib.hid hf; have HFU := Lib.hid hfu
  clear hV hT hW0 hb0 hs0 ho0 hf hfu
  go_enter Try.func21, Try.ntmps21
  go_wp2_with fail
  rw [← HW0.out]
  refine wp_region_by (NJ W0.drew s c a1 a2 c1 c2 t (endsR (inR (finiteR s.types)) u)) (by kernel_rfl) ?_ ?_ ?_
  · exact ⟨by simp, Closed.start _, fun i => match i with
      | 0 => .agg #[.int .i64 c.k, .string c.n, .slice c.an c.ln c.cn, .slice c.ak c.lk c.ck, .slice a1 s.types.length c1, .slice a2 s.sigs.length c2]
      | 1 => .slice none (finiteR s.types).length 0
      | 2 => .agg #[.int .i64 t.k, .string t.n, .slice t.an t.ln t.cn, .slice t.ak t.lk t.ck]
      | _ => .bool (endsR (inR (finiteR s.types)) u), none, 0, Fr.start _ _ _, ⟨rfl, rfl, rfl, rfl, rfl⟩, by simp only [rep_getD]; exact ⟨Below.refl _ _, (fun h => by cases h), (fun h => by cases h)⟩⟩
  · intro listed b v q hJ hi
    obtain ⟨hsz, hC, vals, la, lc, hF, hV, hM⟩ := hJ
    obtain ⟨hl1, hiN⟩ := not_up hsz hi
    obtain ⟨_, o, ho, hdeps⟩ := mem_ready.1 hi
    have hiN : q < 5 := hiN
    obtain rfl | rfl | rfl | rfl | rfl : q = 0 ∨ q = 1 ∨ q = 2 ∨ q = 3 ∨ q = 4 := by omega
    · cases ho
      obtain ⟨⟨y0, y1, y2, y3, y4, y5⟩, _⟩ := six_blkF ((Below.block (Below.of_drew hM.below) w.heap.size (by omega)).trans HS0.out)
      have e2 := hF.old_is 2 (by rfl) rfl
      refine NJ.quiet hsz hC hi hF hV hM (Slots.of (by rfl)) rfl rfl (by decide) ?_
      rw [hV.v0]
      simp [execOp, go_sem, e2, y0, y1, y2, y3, y4, y5]
    · cases ho
      have l3 : listed.getD 3 false = false := by
        cases hh : listed.getD 3 false
        · rfl
        · have y0 := hC 3 _ rfl hh ⟨1, .data⟩ (by simp) rfl; rw [hl1] at y0; cases y0
      have e5 := hF.up 0 5 rfl (hdeps ⟨0, .data⟩ (by simp) rfl)
      rw [hV.v0] at e5
      rw [hl1, l3] at hM
      have hbv := Below.of_drew hM.below
      have CT := finite_ref s c a1 a2 us gs c1 c2 v (HV.out.up (HB0.out.trans (hbv.mono (by omega)))) hl HFT.out
      refine wpOp_call (f := 45) (args := #[.agg #[.int .i64 c.k, .string c.n, .slice c.an c.ln c.cn, .slice c.ak c.lk c.ck, .slice a1 s.types.length c1, .slice a2 s.sigs.length c2]]) rfl rfl (by simp [execOp, go_sem, e5]) CT ?_
      rintro e w' ⟨la', lc', rfl, hr, hb⟩
      refine ⟨_, rfl, ?_⟩
      obtain ⟨vals', hvals⟩ : ∃ vals' : Nat → Value, vals' = fun q => if q = 1 then (Value.slice la' (finiteR s.types).length lc') else vals q := ⟨_, rfl⟩
      have hF' : Fr _ _ vals' listed b := hF.congr (fun i h => by rw [hvals]; exact (if_neg (by rintro rfl; rw [hl1] at h; cases h)))
      have hV' : NV s c a1 a2 c1 c2 t la' lc' (endsR (inR (finiteR s.types)) u) vals' := by rw [hvals]; exact ⟨hV.v0, rfl, hV.v2, hV.v3, hV.v4⟩
      have hn : vals' 1 = .slice la' (finiteR s.types).length lc' := by rw [hvals]; rfl
      refine ⟨by simpa using hsz, hC.put hi, vals', la', lc', hn ▸ hF'.put (Slots.of (by rfl)) hsz rfl, hV', ?_⟩
      rw [getD_setE (i := 1) (by simp [hsz]), getD_setN (show 1 ≠ 3 by decide), l3]
      exact ⟨hM.below.trans (hb.mono hM.below.size), fun _ => hr, (fun h => by cases h)⟩
    · cases ho
      obtain ⟨⟨y0, y1, y2, y3⟩, _⟩ := four_blk ((Below.block (Below.of_drew hM.below) (w.heap.size + 1) (by omega)).trans HO0.out)
      have e3 := hF.old_is 3 (by rfl) rfl
      refine NJ.quiet hsz hC hi hF hV hM (Slots.of (by rfl)) rfl rfl (by decide) ?_
      rw [hV.v2]
      simp [execOp, go_sem, e3, y0, y1, y2, y3]
    · cases ho
      have l1 := hdeps ⟨1, .data⟩ (by simp) rfl
      have e6 := hF.up 1 6 rfl (hdeps ⟨1, .data⟩ (by simp) rfl)
      rw [hV.v1] at e6
      have e7 := hF.up 2 7 rfl (hdeps ⟨2, .data⟩ (by simp) rfl)
      rw [hV.v2] at e7
      rw [l1, hl1] at hM
      have CT := ends_ref (finiteR s.types) (by have := finR_len s.types (s.types.length + 1); unfold maxLen; unfold finiteR; omega) u HFU.out t la lc v (HT.out.grow (HB0.out.trans ((Below.of_drew hM.below).mono (by omega)))) (hM.row rfl)
      refine wpOp_call (f := 49) (args := #[.slice la (finiteR s.types).length lc, .agg #[.int .i64 t.k, .string t.n, .slice t.an t.ln t.cn, .slice t.ak t.lk t.ck]]) rfl rfl (by simp [execOp, go_sem, e6, e7]) CT ?_
      rintro e w' ⟨rfl, hb⟩
      refine ⟨_, rfl, ?_⟩
      have hn := hV.v3
      refine ⟨by simpa using hsz, hC.put hi, vals, la, lc, hn ▸ hF.put (Slots.of (by rfl)) hsz rfl, hV, ?_⟩
      rw [getD_setE (i := 3) (by simp [hsz]), getD_setN (show 3 ≠ 1 by decide), l1]
      exact ⟨hM.below.trans (hb.mono hM.below.size), fun _ => (hM.row rfl).up hb, fun _ => rfl⟩
    · cases ho
      have e8 := hF.up 3 8 rfl (hdeps ⟨3, .data⟩ (by simp) rfl)
      rw [hV.v3] at e8
      refine NJ.quiet hsz hC hi hF hV hM (Slots.of (by rfl)) rfl rfl (by decide) ?_
      rw [hV.v4]
      simp [execOp, go_sem, e8]
  · intro listed b v hJ hr
    obtain ⟨hsz, hC, vals, la, lc, hF, hV, hM⟩ := hJ
    have hall := all_upB (by rfl) hsz hr
    have hb : b = putAll _ vals _ 5 := hF.done (Slots.of (by rfl)) hall
    subst hb
    simp only [putAll, hV.v0, hV.v1, hV.v2, hV.v3, hV.v4]
    simp [dstOf]
    have HBL := Lib.hid (HB0.out.trans ((Below.of_drew hM.below).mono (by omega)))
    clear hM hF hV hC hall hr hsz
    go_wp2
    go_ret
    exact ⟨rfl, HBL.out⟩

/-! ### Open -/
def openR (l : List NT) : Nat → Tz → Tz
  | 0, t => t
  | f + 1, .mk k nm ns ks => if k = 9 then openR l f (firstZ l nm) else .mk k nm ns ks
theorem openR_not (l : List NT) (f : Nat) (t : Tz) (h : t.kind ≠ 9) : openR l f t = t := by
  cases f with
  | zero => rfl
  | succ f => obtain ⟨k, nm, ns, ks⟩ := t; rw [openR]; exact if_neg h
structure OpR (w : World) (bc : Array Value) (S : Nat → Prop) (l : List NT) (full : Tz) (v5 : Value) (wr : World) (k : Nat) (t : Tz) (ct : C4) : Prop where
  slot : v5 = .int .i64 k
  le : k ≤ l.length + 1
  rest : openR l (l.length + 1 - k) t = full
  val : TzV wr S t ct
  box : wr.heap[w.heap.size]? = some (.cells bc 29 (0, 0))
  var : wr.heap[w.heap.size + 1]? = some (.cells #[.int .i64 ct.k, .string ct.n, .slice ct.an ct.ln ct.cn, .slice ct.ak ct.lk ct.ck] 25 (0, 0))
  zer : wr.heap[w.heap.size + 2]? = some (.cells #[.int .i64 0, .string ⟨#[]⟩, .slice none 0 0, .slice none 0 0] 25 (0, 0))
  size : w.heap.size + 3 ≤ wr.heap.size
  below : Below w.heap.size w wr
set_option maxRecDepth 100000 in
set_option maxHeartbeats 8000000 in
theorem Open_ref (S : Nat → Prop) (s : Sz) (u : Tz) (t : C4) (c : C4) (a1 a2 : Option Addr) (us : List (List UInt8 × C4)) (gs : List (List UInt8 × G6)) (c1 c2 : Nat) (w : World) (hS : ∀ g, S g → g < w.heap.size) (hV : SzV w S s c a1 us a2 gs) (hT : TzV w S u t) (hl : s.types.length ≤ 1000000) :
    Calls Try.prog 71 #[.agg #[.int .i64 c.k, .string c.n, .slice c.an c.ln c.cn, .slice c.ak c.lk c.ck, .slice a1 s.types.length c1, .slice a2 s.sigs.length c2], .agg #[.int .i64 t.k, .string t.n, .slice t.an t.ln t.cn, .slice t.ak t.lk t.ck]] w fun e w' => ∃ ct : C4, e = .returned (.agg #[.int .i64 ct.k, .string ct.n, .slice ct.an ct.ln ct.cn, .slice ct.ak ct.lk ct.ck]) ∧ TzV w' S (openR s.types (s.types.length + 1) u) ct ∧ Below w.heap.size w w' := by
  obtain ⟨W0, hW0⟩ : ∃ W0, W0 = ((w.alloc (.cells #[.int .i64 c.k, .string c.n, .slice c.an c.ln c.cn, .slice c.ak c.lk c.ck, .slice a1 s.types.length c1, .slice a2 s.sigs.length c2] 29)).alloc (.cells #[.int .i64 t.k, .string t.n, .slice t.an t.ln t.cn, .slice t.ak t.lk t.ck] 25)).alloc (.cells #[.int .i64 0, .string ⟨#[]⟩, .slice none 0 0, .slice none 0 0] 25) := ⟨_, rfl⟩
  have hb0 : Below w.heap.size w W0 := by rw [hW0]; exact (((Below.refl _ _).alloc (Nat.le_refl _) _).alloc (by simp) _).alloc (by simp; omega) _
  have hz0 : W0.heap.size = w.heap.size + 3 := by rw [hW0]; simp
  have hs0 : W0.heap[w.heap.size]? = some (.cells #[.int .i64 c.k, .string c.n, .slice c.an c.ln c.cn, .slice c.ak c.lk c.ck, .slice a1 s.types.length c1, .slice a2 s.sigs.length c2] 29 (0, 0)) := by rw [hW0, blk_if, if_neg (by simp; omega), blk_if, if_neg (by simp), blk_if, if_pos rfl]
  have ht0 : W0.heap[w.heap.size + 1]? = some (.cells #[.int .i64 t.k, .string t.n, .slice t.an t.ln t.cn, .slice t.ak t.lk t.ck] 25 (0, 0)) := by rw [hW0, blk_if, if_neg (by simp), blk_if, if_pos (by simp)]
  have ho0 : W0.heap[w.heap.size + 2]? = some (.cells #[.int .i64 0, .string ⟨#[]⟩, .slice none 0 0, .slice none 0 0] 25 (0, 0)) := by rw [hW0, blk_if, if_pos (by simp)]
  have HSS := Lib.hid hS; have HV := Lib.hid hV; have HT := Lib.hid hT; have HW0 := Lib.hid hW0; have HB0 := Lib.hid hb0; have HS0 := Lib.hid hs0; have HO0 := Lib.hid ho0; have HT0 := Lib.hid ht0
  clear hS hV hT hW0 hb0 hs0 ho0 ht0
  generalize hfull : openR s.types (s.types.length + 1) u = full
  have HFU := Lib.hid hfull
  clear hfull
  go_enter Try.func71, Try.ntmps71
  go_wp2_with fail
  rw [← HW0.out]
  go_wp2_with fail
  go_loopw [5] (fun v5 wr => ∃ k x ct, OpR w #[.int .i64 c.k, .string c.n, .slice c.an c.ln c.cn, .slice c.ak c.lk c.ck, .slice a1 s.types.length c1, .slice a2 s.sigs.length c2] S s.types full v5 wr k x ct) (fun v5 _ => s.types.length + 1 - (intOf v5).toNat)
  case atStart => exact ⟨0, u, t, rfl, Nat.zero_le _, HFU.out, HT.out.keep (fun _ h => h) (fun g hg => HB0.out.block g (HSS.out g hg)), HS0.out, HT0.out, HO0.out, by omega, HB0.out⟩
  case round =>
    obtain ⟨k, x, ⟨ck, cn, can, cln, ccn, cak, clk, cck⟩, h⟩ := hrel
    obtain rfl := h.slot
    have hle := h.le
    have hsz := h.size
    obtain ⟨⟨s0, s1, s2, s3, s4, s5⟩, _⟩ := six_blkF h.box
    obtain ⟨⟨t0, t1, t2, t3⟩, ⟨r0, r1, r2, r3⟩⟩ := four_blk h.var
    have hkd := h.val.kindZ
    simp only at hkd t0 t1 t2 t3 r0 r1 r2 r3
    have H := Lib.hid h
    clear h
    by_cases hk : k ≤ s.types.length
    · have hkz : (k : Int) ≤ (s.types.length : Int) := by omega
      by_cases h9 : ck = 9
      · obtain ⟨k', nm, ns, ks⟩ := x
        obtain rfl : k' = 9 := by rw [h9] at hkd; exact hkd.symm
        have hcn : cn = ⟨nm.toArray⟩ := by have := H.out.val; cases this; rfl
        subst h9 hcn
        clear hkd
        have CD := Def_ref S s nm c a1 a2 us gs c1 c2 wr (fun g hg => by have := HSS.out g hg; omega) (HV.out.keep (fun g hg => H.out.below.block g (HSS.out g hg))) (by unfold maxLen; omega)
        have hrs : openR s.types (s.types.length + 1 - (k + 1)) (firstZ s.types nm) = full := by
          have := H.out.rest
          rw [show s.types.length + 1 - k = (s.types.length + 1 - (k + 1)) + 1 by omega, openR, if_pos rfl] at this
          exact this
        have HCD := Lib.hid CD; have HRS := Lib.hid hrs
        clear CD hrs
        go_wp2_with (go_at_call 88; (with_reducible refine HCD.out.mono ?_); rintro e w2 ⟨ct, rfl, hv2, x2⟩; have hz2 := x2.size; obtain ⟨⟨m0, m1, m2, m3⟩, ⟨l0, l1, l2, l3⟩⟩ := four_blk ((x2.block (w.heap.size + 1) (by omega)).trans H.out.var); have HX2 := Lib.hid x2; have HV2 := Lib.hid hv2; clear x2 hv2)
        have hPO := put4_only w2 (w.heap.size + 1) ct
        have e1 := put4_at ((HX2.out.block (w.heap.size + 1) (by omega)).trans H.out.var) ct
        have e2 := hPO.blk ((HX2.out.block w.heap.size (by omega)).trans H.out.box) (by omega)
        have e3 := hPO.blk ((HX2.out.block (w.heap.size + 2) (by omega)).trans H.out.zer) (by omega)
        have e4 := (H.out.below.trans (HX2.out.mono (by omega))).trans (hPO.below (by omega) (by omega))
        have e5 := HV2.out.keep (S' := S) (fun _ h => h) (fun g hg => hPO.block g (by have := HSS.out g hg; omega) (fun e => by cases e; have := HSS.out _ hg; omega))
        have e6 : w.heap.size + 3 ≤ (put4 w2 (w.heap.size + 1) ct).heap.size := by rw [put4_size]; omega
        unfold put4 at e1 e2 e3 e4 e5 e6
        have E1 := Lib.hid e1; have E2 := Lib.hid e2; have E3 := Lib.hid e3; have E4 := Lib.hid e4; have E5 := Lib.hid e5; have E6 := Lib.hid e6
        clear e1 e2 e3 e4 e5 e6 hPO
        go_roundw
        case rel => exact ⟨k + 1, _, ct, by go_num, by omega, HRS.out, E5.out, E2.out, E1.out, E3.out, E6.out, E4.out⟩
        case measure => simp [intOf]; omega
      · have t9 : (ck == 9) = false := by rw [beq_eq_false_iff_ne]; exact h9
        have he : x = full := by rw [← H.out.rest, openR_not _ _ _ (by rw [← hkd]; exact h9)]
        have HE := Lib.hid he
        clear he hkd h9
        obtain ⟨⟨z0, z1, z2, z3⟩, ⟨f0, f1, f2, f3⟩⟩ := four_blk H.out.zer
        obtain ⟨⟨v0, v1, v2, v3⟩, _⟩ := four_blk (put4_at H.out.zer ⟨ck, cn, can, cln, ccn, cak, clk, cck⟩)
        have hPO := put4_only wr (w.heap.size + 2) ⟨ck, cn, can, cln, ccn, cak, clk, cck⟩
        have HBL := Lib.hid (H.out.below.trans (hPO.below (by omega) (by omega)))
        have HVL := Lib.hid (H.out.val.keep (fun _ h => h) (fun g hg => hPO.block g (by have := HSS.out g hg; omega) (fun e => by cases e; have := HSS.out _ hg; omega)))
        clear hPO
        unfold put4 at v0 v1 v2 v3
        go_wp2
        refine bodyPost_ret (v := .agg #[.int .i64 ck, .string cn, .slice can cln ccn, .slice cak clk cck]) (by simp [results, Try.results71, go_sem, v0, v1, v2, v3]) rfl ?_
        exact ⟨⟨ck, cn, can, cln, ccn, cak, clk, cck⟩, rfl, by rw [← HE.out]; exact HVL.out, HBL.out⟩
    · have hkz : ¬ (k : Int) ≤ (s.types.length : Int) := by omega
      have he : x = full := by rw [← H.out.rest, show s.types.length + 1 - k = 0 by omega]; rfl
      have HE := Lib.hid he
      clear he hkd
      obtain ⟨⟨z0, z1, z2, z3⟩, ⟨f0, f1, f2, f3⟩⟩ := four_blk H.out.zer
      obtain ⟨⟨v0, v1, v2, v3⟩, _⟩ := four_blk (put4_at H.out.zer ⟨ck, cn, can, cln, ccn, cak, clk, cck⟩)
      have hPO := put4_only wr (w.heap.size + 2) ⟨ck, cn, can, cln, ccn, cak, clk, cck⟩
      have HBL := Lib.hid (H.out.below.trans (hPO.below (by omega) (by omega)))
      have HVL := Lib.hid (H.out.val.keep (fun _ h => h) (fun g hg => hPO.block g (by have := HSS.out g hg; omega) (fun e => by cases e; have := HSS.out _ hg; omega)))
      clear hPO
      unfold put4 at v0 v1 v2 v3
      go_wp2
      refine bodyPost_ret (v := .agg #[.int .i64 ck, .string cn, .slice can cln ccn, .slice cak clk cck]) (by simp [results, Try.results71, go_sem, v0, v1, v2, v3]) rfl ?_
      exact ⟨⟨ck, cn, can, cln, ccn, cak, clk, cck⟩, rfl, by rw [← HE.out]; exact HVL.out, HBL.out⟩
end Sp
end Go.Proofs.Ytjjpjkkaogfoaaa

namespace Go.Proofs.Ytjjpjkkaogfoaaa
open Go.RowKit
namespace Sp
open Sc

theorem leB_nil {n : List UInt8} (h : identB n = true) : (Op.bytesLess n [] || n == []) = false := by
  cases n with
  | nil => simp [identB] at h
  | cons a l => simp [Op.bytesLess]
/-- The name ahead. -/
def prevN (ns : List (List UInt8)) (i : Nat) : List UInt8 := if i = 0 then [] else ns.getD (i - 1) []
theorem namesE_drop {tk : List UInt8 → Bool} {a : List UInt8} {ns : List (List UInt8)} {i : Nat} (h : i < ns.length) : namesE tk a (ns.drop i) = if nameE a ns[i] (tk ns[i]) = 0 then namesE tk ns[i] (ns.drop (i + 1)) else nameE a ns[i] (tk ns[i]) := by rw [List.drop_eq_getElem_cons h, namesE]
theorem below_dNZ {n : Nat} {w w' : World} (h : Below n w w') (k : Nat) : Below n w (w'.drewN k) := ⟨h.os, h.tape, h.output, h.size, h.block⟩
structure OwR (w W0 : World) (ns : List (List UInt8)) (kv : Value) (wr : World) (i : Nat) : Prop where
  slot : kv = .int .i64 i
  le : i ≤ ns.length
  names : namesE (fun _ => false) [] ns = namesE (fun _ => false) (prevN ns i) (ns.drop i)
  same : ∀ g : Nat, wr.heap[g]? = W0.heap[g]?
  below : Below w.heap.size w wr
set_option maxRecDepth 100000 in
set_option maxHeartbeats 8000000 in
theorem own_1 (s : Sz) (k : Int) (hk0 : k = 1) (nm : List UInt8) (ns : List (List UInt8)) (ks : List Tz) (an ak : Option Addr) (cn ck : Nat) (c : C4) (a1 a2 : Option Addr) (us : List (List UInt8 × C4)) (gs : List (List UInt8 × G6)) (c1 c2 : Nat) (w : World) (hV : SzV w (Any w) s c a1 us a2 gs) (hN : RowV w (Any w) an 1 (ns.map fun n => [str n])) (_hl : s.types.length ≤ maxLen) (hf : fitZ (.mk k nm ns ks) = true) :
    Calls Try.prog 70 #[.agg #[.int .i64 c.k, .string c.n, .slice c.an c.ln c.cn, .slice c.ak c.lk c.ck, .slice a1 s.types.length c1, .slice a2 s.sigs.length c2], .agg #[.int .i64 k, .string ⟨nm.toArray⟩, .slice an ns.length cn, .slice ak ks.length ck]] w fun e w' => e = .returned (.int .i64 (ownE (hasZ s.types) k nm ns ks.length)) ∧ Below w.heap.size w w' := by
  subst hk0
  obtain ⟨f1, f2, f3, f4, _⟩ := fitZ_mk hf
  unfold maxLen at f2 f4
  obtain ⟨W0, hW0⟩ : ∃ W0, W0 = (w.alloc (.cells #[.int .i64 c.k, .string c.n, .slice c.an c.ln c.cn, .slice c.ak c.lk c.ck, .slice a1 s.types.length c1, .slice a2 s.sigs.length c2] 29)).alloc (.cells #[.int .i64 1, .string ⟨nm.toArray⟩, .slice an ns.length cn, .slice ak ks.length ck] 25) := ⟨_, rfl⟩
  have hb0 : Below w.heap.size w W0 := by rw [hW0]; exact ((Below.refl _ _).alloc (Nat.le_refl _) _).alloc (by simp) _
  have hz0 : W0.heap.size = w.heap.size + 2 := by rw [hW0]; simp
  have ht0 : W0.heap[w.heap.size + 1]? = some (.cells #[.int .i64 1, .string ⟨nm.toArray⟩, .slice an ns.length cn, .slice ak ks.length ck] 25 (0, 0)) := by rw [hW0, blk_if, if_pos (by simp)]
  obtain ⟨⟨p0, p1, p2, p3⟩, _⟩ := four_blk ht0
  have hs0 : W0.heap[w.heap.size]? = some (.cells #[.int .i64 c.k, .string c.n, .slice c.an c.ln c.cn, .slice c.ak c.lk c.ck, .slice a1 s.types.length c1, .slice a2 s.sigs.length c2] 29 (0, 0)) := by rw [hW0, blk_if, if_neg (by simp), blk_if, if_pos rfl]
  obtain ⟨⟨s0, s1, s2, s3, s4, s5⟩, _⟩ := six_blkF hs0
  have e0 := toList_mk' nm
  have HV := Lib.hid hV; have HN := Lib.hid hN; have HW0 := Lib.hid hW0; have HB0 := Lib.hid hb0; have HT0 := Lib.hid ht0
  have HFN : Hid (∀ i (h : i < ns.length), ns[i].length ≤ maxLen) := f3
  clear hV hN hW0 hb0 ht0 hf f3 hs0
  generalize hE0 : ownE (hasZ s.types) 1 nm ns ks.length = E0
  have HE0 := Lib.hid hE0
  clear hE0
  go_enter Try.func70, Try.ntmps70
  go_upto_region 1 with fail
  rw [← HW0.out]
  by_cases hk : ks.length = 0
  · obtain rfl : ks = [] := List.eq_nil_of_length_eq_zero hk
    by_cases hn : nm = []
    · subst hn
      by_cases hs : ns.length = 0
      · obtain rfl : ns = [] := List.eq_nil_of_length_eq_zero hs
        have hf : formB 1 [] [] ([] : List Tz).length = true := by unfold formB kidsN; simp
        have hE : E0 = 0 := HE0.out.symm.trans (by unfold ownE; rw [if_neg (by omega), hf, if_neg (by simp), if_neg (by omega)]; simp [fieldE, namesE])
        have HE := Lib.hid hE; have HF := Lib.hid hf; have HK := Lib.hid hk
        clear hE hf hk
        go_wp2
        go_loop [9] (fun kv => kv = .int .i64 0) (fun _ => 0)
        case atStart => rfl
        case round =>
          obtain rfl := hrel
          go_wp2
          go_ret
          exact ⟨ret_intZ (by rw [HE.out]; rfl), HB0.out⟩
      · have ts : ¬ ns = [] := fun e => hs (by rw [e]; rfl)
        have hE : E0 = 12 := HE0.out.symm.trans (by unfold ownE; rw [if_neg (by omega), if_pos (by unfold formB; simp; intros; assumption)])
        have HE := Lib.hid hE; have HK := Lib.hid hk
        clear hE hk
        go_wp2
        go_ret
        exact ⟨ret_intZ (by rw [HE.out]; rfl), HB0.out⟩
    · have tn : (nm == []) = false := by rw [beq_eq_false_iff_ne]; exact hn
      have hE : E0 = 12 := HE0.out.symm.trans (by unfold ownE; rw [if_neg (by omega), if_pos (by unfold formB; simp [hn])])
      have HE := Lib.hid hE; have HK := Lib.hid hk
      clear hE hk
      go_wp2
      go_ret
      exact ⟨ret_intZ (by rw [HE.out]; rfl), HB0.out⟩
  · have tk : ¬ ks = [] := fun e => hk (by rw [e]; rfl)
    have hE : E0 = 12 := HE0.out.symm.trans (by unfold ownE; rw [if_neg (by omega), if_pos (by unfold formB kidsN; simp [hk])])
    have HE := Lib.hid hE; have HK := Lib.hid hk
    clear hE hk
    go_wp2
    go_ret
    exact ⟨ret_intZ (by rw [HE.out]; rfl), HB0.out⟩
set_option maxRecDepth 100000 in
set_option maxHeartbeats 8000000 in
theorem own_2 (s : Sz) (k : Int) (hk0 : k = 2) (nm : List UInt8) (ns : List (List UInt8)) (ks : List Tz) (an ak : Option Addr) (cn ck : Nat) (c : C4) (a1 a2 : Option Addr) (us : List (List UInt8 × C4)) (gs : List (List UInt8 × G6)) (c1 c2 : Nat) (w : World) (hV : SzV w (Any w) s c a1 us a2 gs) (hN : RowV w (Any w) an 1 (ns.map fun n => [str n])) (_hl : s.types.length ≤ maxLen) (hf : fitZ (.mk k nm ns ks) = true) :
    Calls Try.prog 70 #[.agg #[.int .i64 c.k, .string c.n, .slice c.an c.ln c.cn, .slice c.ak c.lk c.ck, .slice a1 s.types.length c1, .slice a2 s.sigs.length c2], .agg #[.int .i64 k, .string ⟨nm.toArray⟩, .slice an ns.length cn, .slice ak ks.length ck]] w fun e w' => e = .returned (.int .i64 (ownE (hasZ s.types) k nm ns ks.length)) ∧ Below w.heap.size w w' := by
  subst hk0
  obtain ⟨f1, f2, f3, f4, _⟩ := fitZ_mk hf
  unfold maxLen at f2 f4
  obtain ⟨W0, hW0⟩ : ∃ W0, W0 = (w.alloc (.cells #[.int .i64 c.k, .string c.n, .slice c.an c.ln c.cn, .slice c.ak c.lk c.ck, .slice a1 s.types.length c1, .slice a2 s.sigs.length c2] 29)).alloc (.cells #[.int .i64 2, .string ⟨nm.toArray⟩, .slice an ns.length cn, .slice ak ks.length ck] 25) := ⟨_, rfl⟩
  have hb0 : Below w.heap.size w W0 := by rw [hW0]; exact ((Below.refl _ _).alloc (Nat.le_refl _) _).alloc (by simp) _
  have hz0 : W0.heap.size = w.heap.size + 2 := by rw [hW0]; simp
  have ht0 : W0.heap[w.heap.size + 1]? = some (.cells #[.int .i64 2, .string ⟨nm.toArray⟩, .slice an ns.length cn, .slice ak ks.length ck] 25 (0, 0)) := by rw [hW0, blk_if, if_pos (by simp)]
  obtain ⟨⟨p0, p1, p2, p3⟩, _⟩ := four_blk ht0
  have hs0 : W0.heap[w.heap.size]? = some (.cells #[.int .i64 c.k, .string c.n, .slice c.an c.ln c.cn, .slice c.ak c.lk c.ck, .slice a1 s.types.length c1, .slice a2 s.sigs.length c2] 29 (0, 0)) := by rw [hW0, blk_if, if_neg (by simp), blk_if, if_pos rfl]
  obtain ⟨⟨s0, s1, s2, s3, s4, s5⟩, _⟩ := six_blkF hs0
  have e0 := toList_mk' nm
  have HV := Lib.hid hV; have HN := Lib.hid hN; have HW0 := Lib.hid hW0; have HB0 := Lib.hid hb0; have HT0 := Lib.hid ht0
  have HFN : Hid (∀ i (h : i < ns.length), ns[i].length ≤ maxLen) := f3
  clear hV hN hW0 hb0 ht0 hf f3 hs0
  generalize hE0 : ownE (hasZ s.types) 2 nm ns ks.length = E0
  have HE0 := Lib.hid hE0
  clear hE0
  go_enter Try.func70, Try.ntmps70
  go_upto_region 1 with fail
  rw [← HW0.out]
  by_cases hk : ks.length = 0
  · obtain rfl : ks = [] := List.eq_nil_of_length_eq_zero hk
    by_cases hn : nm = []
    · subst hn
      by_cases hs : ns.length = 0
      · obtain rfl : ns = [] := List.eq_nil_of_length_eq_zero hs
        have hf : formB 2 [] [] ([] : List Tz).length = true := by unfold formB kidsN; simp
        have hE : E0 = 0 := HE0.out.symm.trans (by unfold ownE; rw [if_neg (by omega), hf, if_neg (by simp), if_neg (by omega)]; simp [fieldE, namesE])
        have HE := Lib.hid hE; have HF := Lib.hid hf; have HK := Lib.hid hk
        clear hE hf hk
        go_wp2
        go_loop [9] (fun kv => kv = .int .i64 0) (fun _ => 0)
        case atStart => rfl
        case round =>
          obtain rfl := hrel
          go_wp2
          go_ret
          exact ⟨ret_intZ (by rw [HE.out]; rfl), HB0.out⟩
      · have ts : ¬ ns = [] := fun e => hs (by rw [e]; rfl)
        have hE : E0 = 12 := HE0.out.symm.trans (by unfold ownE; rw [if_neg (by omega), if_pos (by unfold formB; simp; intros; assumption)])
        have HE := Lib.hid hE; have HK := Lib.hid hk
        clear hE hk
        go_wp2
        go_ret
        exact ⟨ret_intZ (by rw [HE.out]; rfl), HB0.out⟩
    · have tn : (nm == []) = false := by rw [beq_eq_false_iff_ne]; exact hn
      have hE : E0 = 12 := HE0.out.symm.trans (by unfold ownE; rw [if_neg (by omega), if_pos (by unfold formB; simp [hn])])
      have HE := Lib.hid hE; have HK := Lib.hid hk
      clear hE hk
      go_wp2
      go_ret
      exact ⟨ret_intZ (by rw [HE.out]; rfl), HB0.out⟩
  · have tk : ¬ ks = [] := fun e => hk (by rw [e]; rfl)
    have hE : E0 = 12 := HE0.out.symm.trans (by unfold ownE; rw [if_neg (by omega), if_pos (by unfold formB kidsN; simp [hk])])
    have HE := Lib.hid hE; have HK := Lib.hid hk
    clear hE hk
    go_wp2
    go_ret
    exact ⟨ret_intZ (by rw [HE.out]; rfl), HB0.out⟩
set_option maxRecDepth 100000 in
set_option maxHeartbeats 8000000 in
theorem own_3 (s : Sz) (k : Int) (hk0 : k = 3) (nm : List UInt8) (ns : List (List UInt8)) (ks : List Tz) (an ak : Option Addr) (cn ck : Nat) (c : C4) (a1 a2 : Option Addr) (us : List (List UInt8 × C4)) (gs : List (List UInt8 × G6)) (c1 c2 : Nat) (w : World) (hV : SzV w (Any w) s c a1 us a2 gs) (hN : RowV w (Any w) an 1 (ns.map fun n => [str n])) (_hl : s.types.length ≤ maxLen) (hf : fitZ (.mk k nm ns ks) = true) :
    Calls Try.prog 70 #[.agg #[.int .i64 c.k, .string c.n, .slice c.an c.ln c.cn, .slice c.ak c.lk c.ck, .slice a1 s.types.length c1, .slice a2 s.sigs.length c2], .agg #[.int .i64 k, .string ⟨nm.toArray⟩, .slice an ns.length cn, .slice ak ks.length ck]] w fun e w' => e = .returned (.int .i64 (ownE (hasZ s.types) k nm ns ks.length)) ∧ Below w.heap.size w w' := by
  subst hk0
  obtain ⟨f1, f2, f3, f4, _⟩ := fitZ_mk hf
  unfold maxLen at f2 f4
  obtain ⟨W0, hW0⟩ : ∃ W0, W0 = (w.alloc (.cells #[.int .i64 c.k, .string c.n, .slice c.an c.ln c.cn, .slice c.ak c.lk c.ck, .slice a1 s.types.length c1, .slice a2 s.sigs.length c2] 29)).alloc (.cells #[.int .i64 3, .string ⟨nm.toArray⟩, .slice an ns.length cn, .slice ak ks.length ck] 25) := ⟨_, rfl⟩
  have hb0 : Below w.heap.size w W0 := by rw [hW0]; exact ((Below.refl _ _).alloc (Nat.le_refl _) _).alloc (by simp) _
  have hz0 : W0.heap.size = w.heap.size + 2 := by rw [hW0]; simp
  have ht0 : W0.heap[w.heap.size + 1]? = some (.cells #[.int .i64 3, .string ⟨nm.toArray⟩, .slice an ns.length cn, .slice ak ks.length ck] 25 (0, 0)) := by rw [hW0, blk_if, if_pos (by simp)]
  obtain ⟨⟨p0, p1, p2, p3⟩, _⟩ := four_blk ht0
  have hs0 : W0.heap[w.heap.size]? = some (.cells #[.int .i64 c.k, .string c.n, .slice c.an c.ln c.cn, .slice c.ak c.lk c.ck, .slice a1 s.types.length c1, .slice a2 s.sigs.length c2] 29 (0, 0)) := by rw [hW0, blk_if, if_neg (by simp), blk_if, if_pos rfl]
  obtain ⟨⟨s0, s1, s2, s3, s4, s5⟩, _⟩ := six_blkF hs0
  have e0 := toList_mk' nm
  have HV := Lib.hid hV; have HN := Lib.hid hN; have HW0 := Lib.hid hW0; have HB0 := Lib.hid hb0; have HT0 := Lib.hid ht0
  have HFN : Hid (∀ i (h : i < ns.length), ns[i].length ≤ maxLen) := f3
  clear hV hN hW0 hb0 ht0 hf f3 hs0
  generalize hE0 : ownE (hasZ s.types) 3 nm ns ks.length = E0
  have HE0 := Lib.hid hE0
  clear hE0
  go_enter Try.func70, Try.ntmps70
  go_upto_region 1 with fail
  rw [← HW0.out]
  by_cases hk : ks.length = 0
  · obtain rfl : ks = [] := List.eq_nil_of_length_eq_zero hk
    by_cases hn : nm = []
    · subst hn
      by_cases hs : ns.length = 0
      · obtain rfl : ns = [] := List.eq_nil_of_length_eq_zero hs
        have hf : formB 3 [] [] ([] : List Tz).length = true := by unfold formB kidsN; simp
        have hE : E0 = 0 := HE0.out.symm.trans (by unfold ownE; rw [if_neg (by omega), hf, if_neg (by simp), if_neg (by omega)]; simp [fieldE, namesE])
        have HE := Lib.hid hE; have HF := Lib.hid hf; have HK := Lib.hid hk
        clear hE hf hk
        go_wp2
        go_loop [9] (fun kv => kv = .int .i64 0) (fun _ => 0)
        case atStart => rfl
        case round =>
          obtain rfl := hrel
          go_wp2
          go_ret
          exact ⟨ret_intZ (by rw [HE.out]; rfl), HB0.out⟩
      · have ts : ¬ ns = [] := fun e => hs (by rw [e]; rfl)
        have hE : E0 = 12 := HE0.out.symm.trans (by unfold ownE; rw [if_neg (by omega), if_pos (by unfold formB; simp; intros; assumption)])
        have HE := Lib.hid hE; have HK := Lib.hid hk
        clear hE hk
        go_wp2
        go_ret
        exact ⟨ret_intZ (by rw [HE.out]; rfl), HB0.out⟩
    · have tn : (nm == []) = false := by rw [beq_eq_false_iff_ne]; exact hn
      have hE : E0 = 12 := HE0.out.symm.trans (by unfold ownE; rw [if_neg (by omega), if_pos (by unfold formB; simp [hn])])
      have HE := Lib.hid hE; have HK := Lib.hid hk
      clear hE hk
      go_wp2
      go_ret
      exact ⟨ret_intZ (by rw [HE.out]; rfl), HB0.out⟩
  · have tk : ¬ ks = [] := fun e => hk (by rw [e]; rfl)
    have hE : E0 = 12 := HE0.out.symm.trans (by unfold ownE; rw [if_neg (by omega), if_pos (by unfold formB kidsN; simp [hk])])
    have HE := Lib.hid hE; have HK := Lib.hid hk
    clear hE hk
    go_wp2
    go_ret
    exact ⟨ret_intZ (by rw [HE.out]; rfl), HB0.out⟩
set_option maxRecDepth 100000 in
set_option maxHeartbeats 8000000 in
theorem own_4 (s : Sz) (k : Int) (hk0 : k = 4) (nm : List UInt8) (ns : List (List UInt8)) (ks : List Tz) (an ak : Option Addr) (cn ck : Nat) (c : C4) (a1 a2 : Option Addr) (us : List (List UInt8 × C4)) (gs : List (List UInt8 × G6)) (c1 c2 : Nat) (w : World) (hV : SzV w (Any w) s c a1 us a2 gs) (hN : RowV w (Any w) an 1 (ns.map fun n => [str n])) (_hl : s.types.length ≤ maxLen) (hf : fitZ (.mk k nm ns ks) = true) :
    Calls Try.prog 70 #[.agg #[.int .i64 c.k, .string c.n, .slice c.an c.ln c.cn, .slice c.ak c.lk c.ck, .slice a1 s.types.length c1, .slice a2 s.sigs.length c2], .agg #[.int .i64 k, .string ⟨nm.toArray⟩, .slice an ns.length cn, .slice ak ks.length ck]] w fun e w' => e = .returned (.int .i64 (ownE (hasZ s.types) k nm ns ks.length)) ∧ Below w.heap.size w w' := by
  subst hk0
  obtain ⟨f1, f2, f3, f4, _⟩ := fitZ_mk hf
  unfold maxLen at f2 f4
  obtain ⟨W0, hW0⟩ : ∃ W0, W0 = (w.alloc (.cells #[.int .i64 c.k, .string c.n, .slice c.an c.ln c.cn, .slice c.ak c.lk c.ck, .slice a1 s.types.length c1, .slice a2 s.sigs.length c2] 29)).alloc (.cells #[.int .i64 4, .string ⟨nm.toArray⟩, .slice an ns.length cn, .slice ak ks.length ck] 25) := ⟨_, rfl⟩
  have hb0 : Below w.heap.size w W0 := by rw [hW0]; exact ((Below.refl _ _).alloc (Nat.le_refl _) _).alloc (by simp) _
  have hz0 : W0.heap.size = w.heap.size + 2 := by rw [hW0]; simp
  have ht0 : W0.heap[w.heap.size + 1]? = some (.cells #[.int .i64 4, .string ⟨nm.toArray⟩, .slice an ns.length cn, .slice ak ks.length ck] 25 (0, 0)) := by rw [hW0, blk_if, if_pos (by simp)]
  obtain ⟨⟨p0, p1, p2, p3⟩, _⟩ := four_blk ht0
  have hs0 : W0.heap[w.heap.size]? = some (.cells #[.int .i64 c.k, .string c.n, .slice c.an c.ln c.cn, .slice c.ak c.lk c.ck, .slice a1 s.types.length c1, .slice a2 s.sigs.length c2] 29 (0, 0)) := by rw [hW0, blk_if, if_neg (by simp), blk_if, if_pos rfl]
  obtain ⟨⟨s0, s1, s2, s3, s4, s5⟩, _⟩ := six_blkF hs0
  have e0 := toList_mk' nm
  have HV := Lib.hid hV; have HN := Lib.hid hN; have HW0 := Lib.hid hW0; have HB0 := Lib.hid hb0; have HT0 := Lib.hid ht0
  have HFN : Hid (∀ i (h : i < ns.length), ns[i].length ≤ maxLen) := f3
  clear hV hN hW0 hb0 ht0 hf f3 hs0
  generalize hE0 : ownE (hasZ s.types) 4 nm ns ks.length = E0
  have HE0 := Lib.hid hE0
  clear hE0
  go_enter Try.func70, Try.ntmps70
  go_upto_region 1 with fail
  rw [← HW0.out]
  by_cases hk : ks.length = 1
  · have tk : ((ks.length : Int) == 1) = true := by rw [beq_iff_eq]; omega
    have tk2 : ((ks.length : Int) != 1) = false := by simp; omega
    by_cases hn : nm = []
    · subst hn
      by_cases hs : ns.length = 0
      · obtain rfl : ns = [] := List.eq_nil_of_length_eq_zero hs
        have hf : formB 4 [] [] (ks : List Tz).length = true := by unfold formB kidsN; simp [hk]
        have hE : E0 = 0 := HE0.out.symm.trans (by unfold ownE; rw [if_neg (by omega), hf, if_neg (by simp), if_neg (by omega)]; simp [fieldE, namesE])
        have HE := Lib.hid hE; have HF := Lib.hid hf; have HK := Lib.hid hk
        clear hE hf hk
        go_wp2
        go_loop [9] (fun kv => kv = .int .i64 0) (fun _ => 0)
        case atStart => rfl
        case round =>
          obtain rfl := hrel
          go_wp2
          go_ret
          exact ⟨ret_intZ (by rw [HE.out]; rfl), HB0.out⟩
      · have ts : ¬ ns = [] := fun e => hs (by rw [e]; rfl)
        have hE : E0 = 12 := HE0.out.symm.trans (by unfold ownE; rw [if_neg (by omega), if_pos (by unfold formB; simp; intros; assumption)])
        have HE := Lib.hid hE; have HK := Lib.hid hk
        clear hE hk
        go_wp2
        go_ret
        exact ⟨ret_intZ (by rw [HE.out]; rfl), HB0.out⟩
    · have tn : (nm == []) = false := by rw [beq_eq_false_iff_ne]; exact hn
      have hE : E0 = 12 := HE0.out.symm.trans (by unfold ownE; rw [if_neg (by omega), if_pos (by unfold formB; simp [hn])])
      have HE := Lib.hid hE; have HK := Lib.hid hk
      clear hE hk
      go_wp2
      go_ret
      exact ⟨ret_intZ (by rw [HE.out]; rfl), HB0.out⟩
  · have tk : ((ks.length : Int) == 1) = false := by rw [beq_eq_false_iff_ne]; omega
    have tk2 : ((ks.length : Int) != 1) = true := by rw [bne_iff_ne]; omega
    have hE : E0 = 12 := HE0.out.symm.trans (by unfold ownE; rw [if_neg (by omega), if_pos (by unfold formB kidsN; simp [hk])])
    have HE := Lib.hid hE; have HK := Lib.hid hk
    clear hE hk
    go_wp2
    go_ret
    exact ⟨ret_intZ (by rw [HE.out]; rfl), HB0.out⟩
set_option maxRecDepth 100000 in
set_option maxHeartbeats 8000000 in
theorem own_5 (s : Sz) (k : Int) (hk0 : k = 5) (nm : List UInt8) (ns : List (List UInt8)) (ks : List Tz) (an ak : Option Addr) (cn ck : Nat) (c : C4) (a1 a2 : Option Addr) (us : List (List UInt8 × C4)) (gs : List (List UInt8 × G6)) (c1 c2 : Nat) (w : World) (hV : SzV w (Any w) s c a1 us a2 gs) (hN : RowV w (Any w) an 1 (ns.map fun n => [str n])) (_hl : s.types.length ≤ maxLen) (hf : fitZ (.mk k nm ns ks) = true) :
    Calls Try.prog 70 #[.agg #[.int .i64 c.k, .string c.n, .slice c.an c.ln c.cn, .slice c.ak c.lk c.ck, .slice a1 s.types.length c1, .slice a2 s.sigs.length c2], .agg #[.int .i64 k, .string ⟨nm.toArray⟩, .slice an ns.length cn, .slice ak ks.length ck]] w fun e w' => e = .returned (.int .i64 (ownE (hasZ s.types) k nm ns ks.length)) ∧ Below w.heap.size w w' := by
  subst hk0
  obtain ⟨f1, f2, f3, f4, _⟩ := fitZ_mk hf
  unfold maxLen at f2 f4
  obtain ⟨W0, hW0⟩ : ∃ W0, W0 = (w.alloc (.cells #[.int .i64 c.k, .string c.n, .slice c.an c.ln c.cn, .slice c.ak c.lk c.ck, .slice a1 s.types.length c1, .slice a2 s.sigs.length c2] 29)).alloc (.cells #[.int .i64 5, .string ⟨nm.toArray⟩, .slice an ns.length cn, .slice ak ks.length ck] 25) := ⟨_, rfl⟩
  have hb0 : Below w.heap.size w W0 := by rw [hW0]; exact ((Below.refl _ _).alloc (Nat.le_refl _) _).alloc (by simp) _
  have hz0 : W0.heap.size = w.heap.size + 2 := by rw [hW0]; simp
  have ht0 : W0.heap[w.heap.size + 1]? = some (.cells #[.int .i64 5, .string ⟨nm.toArray⟩, .slice an ns.length cn, .slice ak ks.length ck] 25 (0, 0)) := by rw [hW0, blk_if, if_pos (by simp)]
  obtain ⟨⟨p0, p1, p2, p3⟩, _⟩ := four_blk ht0
  have hs0 : W0.heap[w.heap.size]? = some (.cells #[.int .i64 c.k, .string c.n, .slice c.an c.ln c.cn, .slice c.ak c.lk c.ck, .slice a1 s.types.length c1, .slice a2 s.sigs.length c2] 29 (0, 0)) := by rw [hW0, blk_if, if_neg (by simp), blk_if, if_pos rfl]
  obtain ⟨⟨s0, s1, s2, s3, s4, s5⟩, _⟩ := six_blkF hs0
  have e0 := toList_mk' nm
  have HV := Lib.hid hV; have HN := Lib.hid hN; have HW0 := Lib.hid hW0; have HB0 := Lib.hid hb0; have HT0 := Lib.hid ht0
  have HFN : Hid (∀ i (h : i < ns.length), ns[i].length ≤ maxLen) := f3
  clear hV hN hW0 hb0 ht0 hf f3 hs0
  generalize hE0 : ownE (hasZ s.types) 5 nm ns ks.length = E0
  have HE0 := Lib.hid hE0
  clear hE0
  go_enter Try.func70, Try.ntmps70
  go_upto_region 1 with fail
  rw [← HW0.out]
  by_cases hk : ks.length = 1
  · have tk : ((ks.length : Int) == 1) = true := by rw [beq_iff_eq]; omega
    have tk2 : ((ks.length : Int) != 1) = false := by simp; omega
    by_cases hn : nm = []
    · subst hn
      by_cases hs : ns.length = 0
      · obtain rfl : ns = [] := List.eq_nil_of_length_eq_zero hs
        have hf : formB 5 [] [] (ks : List Tz).length = true := by unfold formB kidsN; simp [hk]
        have hE : E0 = 0 := HE0.out.symm.trans (by unfold ownE; rw [if_neg (by omega), hf, if_neg (by simp), if_neg (by omega)]; simp [fieldE, namesE])
        have HE := Lib.hid hE; have HF := Lib.hid hf; have HK := Lib.hid hk
        clear hE hf hk
        go_wp2
        go_loop [9] (fun kv => kv = .int .i64 0) (fun _ => 0)
        case atStart => rfl
        case round =>
          obtain rfl := hrel
          go_wp2
          go_ret
          exact ⟨ret_intZ (by rw [HE.out]; rfl), HB0.out⟩
      · have ts : ¬ ns = [] := fun e => hs (by rw [e]; rfl)
        have hE : E0 = 12 := HE0.out.symm.trans (by unfold ownE; rw [if_neg (by omega), if_pos (by unfold formB; simp; intros; assumption)])
        have HE := Lib.hid hE; have HK := Lib.hid hk
        clear hE hk
        go_wp2
        go_ret
        exact ⟨ret_intZ (by rw [HE.out]; rfl), HB0.out⟩
    · have tn : (nm == []) = false := by rw [beq_eq_false_iff_ne]; exact hn
      have hE : E0 = 12 := HE0.out.symm.trans (by unfold ownE; rw [if_neg (by omega), if_pos (by unfold formB; simp [hn])])
      have HE := Lib.hid hE; have HK := Lib.hid hk
      clear hE hk
      go_wp2
      go_ret
      exact ⟨ret_intZ (by rw [HE.out]; rfl), HB0.out⟩
  · have tk : ((ks.length : Int) == 1) = false := by rw [beq_eq_false_iff_ne]; omega
    have tk2 : ((ks.length : Int) != 1) = true := by rw [bne_iff_ne]; omega
    have hE : E0 = 12 := HE0.out.symm.trans (by unfold ownE; rw [if_neg (by omega), if_pos (by unfold formB kidsN; simp [hk])])
    have HE := Lib.hid hE; have HK := Lib.hid hk
    clear hE hk
    go_wp2
    go_ret
    exact ⟨ret_intZ (by rw [HE.out]; rfl), HB0.out⟩
set_option maxRecDepth 100000 in
set_option maxHeartbeats 8000000 in
theorem own_6 (s : Sz) (k : Int) (hk0 : k = 6) (nm : List UInt8) (ns : List (List UInt8)) (ks : List Tz) (an ak : Option Addr) (cn ck : Nat) (c : C4) (a1 a2 : Option Addr) (us : List (List UInt8 × C4)) (gs : List (List UInt8 × G6)) (c1 c2 : Nat) (w : World) (hV : SzV w (Any w) s c a1 us a2 gs) (hN : RowV w (Any w) an 1 (ns.map fun n => [str n])) (_hl : s.types.length ≤ maxLen) (hf : fitZ (.mk k nm ns ks) = true) :
    Calls Try.prog 70 #[.agg #[.int .i64 c.k, .string c.n, .slice c.an c.ln c.cn, .slice c.ak c.lk c.ck, .slice a1 s.types.length c1, .slice a2 s.sigs.length c2], .agg #[.int .i64 k, .string ⟨nm.toArray⟩, .slice an ns.length cn, .slice ak ks.length ck]] w fun e w' => e = .returned (.int .i64 (ownE (hasZ s.types) k nm ns ks.length)) ∧ Below w.heap.size w w' := by
  subst hk0
  obtain ⟨f1, f2, f3, f4, _⟩ := fitZ_mk hf
  unfold maxLen at f2 f4
  obtain ⟨W0, hW0⟩ : ∃ W0, W0 = (w.alloc (.cells #[.int .i64 c.k, .string c.n, .slice c.an c.ln c.cn, .slice c.ak c.lk c.ck, .slice a1 s.types.length c1, .slice a2 s.sigs.length c2] 29)).alloc (.cells #[.int .i64 6, .string ⟨nm.toArray⟩, .slice an ns.length cn, .slice ak ks.length ck] 25) := ⟨_, rfl⟩
  have hb0 : Below w.heap.size w W0 := by rw [hW0]; exact ((Below.refl _ _).alloc (Nat.le_refl _) _).alloc (by simp) _
  have hz0 : W0.heap.size = w.heap.size + 2 := by rw [hW0]; simp
  have ht0 : W0.heap[w.heap.size + 1]? = some (.cells #[.int .i64 6, .string ⟨nm.toArray⟩, .slice an ns.length cn, .slice ak ks.length ck] 25 (0, 0)) := by rw [hW0, blk_if, if_pos (by simp)]
  obtain ⟨⟨p0, p1, p2, p3⟩, _⟩ := four_blk ht0
  have hs0 : W0.heap[w.heap.size]? = some (.cells #[.int .i64 c.k, .string c.n, .slice c.an c.ln c.cn, .slice c.ak c.lk c.ck, .slice a1 s.types.length c1, .slice a2 s.sigs.length c2] 29 (0, 0)) := by rw [hW0, blk_if, if_neg (by simp), blk_if, if_pos rfl]
  obtain ⟨⟨s0, s1, s2, s3, s4, s5⟩, _⟩ := six_blkF hs0
  have e0 := toList_mk' nm
  have HV := Lib.hid hV; have HN := Lib.hid hN; have HW0 := Lib.hid hW0; have HB0 := Lib.hid hb0; have HT0 := Lib.hid ht0
  have HFN : Hid (∀ i (h : i < ns.length), ns[i].length ≤ maxLen) := f3
  clear hV hN hW0 hb0 ht0 hf f3 hs0
  generalize hE0 : ownE (hasZ s.types) 6 nm ns ks.length = E0
  have HE0 := Lib.hid hE0
  clear hE0
  go_enter Try.func70, Try.ntmps70
  go_upto_region 1 with fail
  rw [← HW0.out]
  by_cases hk : ks.length = 1
  · have tk : ((ks.length : Int) == 1) = true := by rw [beq_iff_eq]; omega
    have tk2 : ((ks.length : Int) != 1) = false := by simp; omega
    by_cases hn : nm = []
    · subst hn
      by_cases hs : ns.length = 0
      · obtain rfl : ns = [] := List.eq_nil_of_length_eq_zero hs
        have hf : formB 6 [] [] (ks : List Tz).length = true := by unfold formB kidsN; simp [hk]
        have hE : E0 = 0 := HE0.out.symm.trans (by unfold ownE; rw [if_neg (by omega), hf, if_neg (by simp), if_neg (by omega)]; simp [fieldE, namesE])
        have HE := Lib.hid hE; have HF := Lib.hid hf; have HK := Lib.hid hk
        clear hE hf hk
        go_wp2
        go_loop [9] (fun kv => kv = .int .i64 0) (fun _ => 0)
        case atStart => rfl
        case round =>
          obtain rfl := hrel
          go_wp2
          go_ret
          exact ⟨ret_intZ (by rw [HE.out]; rfl), HB0.out⟩
      · have ts : ¬ ns = [] := fun e => hs (by rw [e]; rfl)
        have hE : E0 = 12 := HE0.out.symm.trans (by unfold ownE; rw [if_neg (by omega), if_pos (by unfold formB; simp; intros; assumption)])
        have HE := Lib.hid hE; have HK := Lib.hid hk
        clear hE hk
        go_wp2
        go_ret
        exact ⟨ret_intZ (by rw [HE.out]; rfl), HB0.out⟩
    · have tn : (nm == []) = false := by rw [beq_eq_false_iff_ne]; exact hn
      have hE : E0 = 12 := HE0.out.symm.trans (by unfold ownE; rw [if_neg (by omega), if_pos (by unfold formB; simp [hn])])
      have HE := Lib.hid hE; have HK := Lib.hid hk
      clear hE hk
      go_wp2
      go_ret
      exact ⟨ret_intZ (by rw [HE.out]; rfl), HB0.out⟩
  · have tk : ((ks.length : Int) == 1) = false := by rw [beq_eq_false_iff_ne]; omega
    have tk2 : ((ks.length : Int) != 1) = true := by rw [bne_iff_ne]; omega
    have hE : E0 = 12 := HE0.out.symm.trans (by unfold ownE; rw [if_neg (by omega), if_pos (by unfold formB kidsN; simp [hk])])
    have HE := Lib.hid hE; have HK := Lib.hid hk
    clear hE hk
    go_wp2
    go_ret
    exact ⟨ret_intZ (by rw [HE.out]; rfl), HB0.out⟩
set_option maxRecDepth 100000 in
set_option maxHeartbeats 8000000 in
theorem own_7 (s : Sz) (k : Int) (hk0 : k = 7) (nm : List UInt8) (ns : List (List UInt8)) (ks : List Tz) (an ak : Option Addr) (cn ck : Nat) (c : C4) (a1 a2 : Option Addr) (us : List (List UInt8 × C4)) (gs : List (List UInt8 × G6)) (c1 c2 : Nat) (w : World) (hV : SzV w (Any w) s c a1 us a2 gs) (hN : RowV w (Any w) an 1 (ns.map fun n => [str n])) (_hl : s.types.length ≤ maxLen) (hf : fitZ (.mk k nm ns ks) = true) :
    Calls Try.prog 70 #[.agg #[.int .i64 c.k, .string c.n, .slice c.an c.ln c.cn, .slice c.ak c.lk c.ck, .slice a1 s.types.length c1, .slice a2 s.sigs.length c2], .agg #[.int .i64 k, .string ⟨nm.toArray⟩, .slice an ns.length cn, .slice ak ks.length ck]] w fun e w' => e = .returned (.int .i64 (ownE (hasZ s.types) k nm ns ks.length)) ∧ Below w.heap.size w w' := by
  subst hk0
  obtain ⟨f1, f2, f3, f4, _⟩ := fitZ_mk hf
  unfold maxLen at f2 f4
  obtain ⟨W0, hW0⟩ : ∃ W0, W0 = (w.alloc (.cells #[.int .i64 c.k, .string c.n, .slice c.an c.ln c.cn, .slice c.ak c.lk c.ck, .slice a1 s.types.length c1, .slice a2 s.sigs.length c2] 29)).alloc (.cells #[.int .i64 7, .string ⟨nm.toArray⟩, .slice an ns.length cn, .slice ak ks.length ck] 25) := ⟨_, rfl⟩
  have hb0 : Below w.heap.size w W0 := by rw [hW0]; exact ((Below.refl _ _).alloc (Nat.le_refl _) _).alloc (by simp) _
  have hz0 : W0.heap.size = w.heap.size + 2 := by rw [hW0]; simp
  have ht0 : W0.heap[w.heap.size + 1]? = some (.cells #[.int .i64 7, .string ⟨nm.toArray⟩, .slice an ns.length cn, .slice ak ks.length ck] 25 (0, 0)) := by rw [hW0, blk_if, if_pos (by simp)]
  obtain ⟨⟨p0, p1, p2, p3⟩, _⟩ := four_blk ht0
  have hs0 : W0.heap[w.heap.size]? = some (.cells #[.int .i64 c.k, .string c.n, .slice c.an c.ln c.cn, .slice c.ak c.lk c.ck, .slice a1 s.types.length c1, .slice a2 s.sigs.length c2] 29 (0, 0)) := by rw [hW0, blk_if, if_neg (by simp), blk_if, if_pos rfl]
  obtain ⟨⟨s0, s1, s2, s3, s4, s5⟩, _⟩ := six_blkF hs0
  have e0 := toList_mk' nm
  have HV := Lib.hid hV; have HN := Lib.hid hN; have HW0 := Lib.hid hW0; have HB0 := Lib.hid hb0; have HT0 := Lib.hid ht0
  have HFN : Hid (∀ i (h : i < ns.length), ns[i].length ≤ maxLen) := f3
  clear hV hN hW0 hb0 ht0 hf f3 hs0
  generalize hE0 : ownE (hasZ s.types) 7 nm ns ks.length = E0
  have HE0 := Lib.hid hE0
  clear hE0
  go_enter Try.func70, Try.ntmps70
  go_upto_region 1 with fail
  rw [← HW0.out]
  by_cases hk : ks.length = ns.length
  · have tk : ((ks.length : Int) == (ns.length : Int)) = true := by rw [beq_iff_eq]; omega
    have tk2 : ((ks.length : Int) != (ns.length : Int)) = false := by simp; omega
    by_cases hn : nm = []
    · subst hn
      have hf : formB 7 [] ns ks.length = true := by unfold formB kidsN; simp [hk]
      have hE : E0 = fieldE 7 ns := HE0.out.symm.trans (by unfold ownE; rw [if_neg (by omega), hf, if_neg (by simp), if_neg (by omega)])
      rw [fieldE] at hE
      by_cases h8 : 8 < ns.length
      · rw [if_pos h8] at hE
        have h8z : (8 : Int) < (ns.length : Int) := by omega
        have HK := Lib.hid hk; have HE := Lib.hid hE
        clear hk h8 hE hf
        go_wp2
        go_ret
        exact ⟨ret_intZ (by rw [HE.out]; rfl), HB0.out⟩
      · rw [if_neg h8] at hE
        have h8z : ¬ (8 : Int) < (ns.length : Int) := by omega
        have HK := Lib.hid hk
        clear hk
        obtain ⟨v, hv0⟩ : ∃ v, v = E0 := ⟨_, rfl⟩
        have hv : (if namesE (fun _ => false) [] ns ≠ 0 then namesE (fun _ => false) [] ns else if (7 : Int) = 8 ∧ ns.length = 0 then 12 else 0) = v := by rw [hv0, hE]
        have HV2 := Lib.hid hv; have HV0 := Lib.hid hv0
        clear hv h8 hE hf hv0
        go_wp2
        go_loopw [9] (fun kv wr => ∃ i : Nat, OwR w W0 ns kv wr i) (fun kv _ => ns.length - (intOf kv).toNat)
        case atStart => exact ⟨0, rfl, Nat.zero_le _, rfl, fun _ => rfl, HB0.out⟩
        case round =>
          obtain ⟨i, h⟩ := hrel
          obtain rfl := h.slot
          have hi := h.le
          obtain ⟨⟨p0, p1, p2, p3⟩, _⟩ := four_blk ((h.same _).trans HT0.out)
          have hd := Lib.hid h.names
          have H := Lib.hid h
          clear h
          by_cases hlt : i < ns.length
          · have hiz : (i : Int) < (ns.length : Int) := by omega
            have hi0 : (0 : Int) ≤ (i : Int) := by omega
            obtain ⟨g, o, rfl, hg, hc⟩ := name_kp HN.out i hlt
            have c0 := hc wr ((H.out.same g).trans (HB0.out.block g hg))
            have hgd : ns.getD i [] = ns[i] := by simp [List.getD, hlt]
            rw [hgd] at c0
            have CI := RIdent_any ⟨ns[i].toArray⟩ wr (HFN.out i hlt)
            rw [show (⟨ns[i].toArray⟩ : ByteArray).data.toList = ns[i] from rfl] at CI
            have hdr := namesE_drop (tk := fun _ => false) (a := prevN ns i) hlt
            have e1 := toList_mk' ns[i]
            have hpn : prevN ns (i + 1) = ns[i] := by unfold prevN; rw [if_neg (by omega), Nat.add_sub_cancel]; exact hgd
            cases hid : identB ns[i]
            · have hne : namesE (fun _ => false) [] ns = 15 := by rw [hd.out, hdr]; unfold nameE; simp [hid]
              have hv : v = 15 := by rw [← HV2.out, hne]; rfl
              rw [hid] at CI
              have HVV := Lib.hid hv; have HCI := Lib.hid CI
              clear hne hv CI hdr hpn hid hc hgd
              generalize ns[i] = a at *
              go_wp2_with (go_at_call 41; (with_reducible refine HCI.out.mono ?_); rintro e w2 ⟨rfl, rfl⟩)
              go_ret
              exact ⟨ret_intZ (by rw [← HV0.out, HVV.out]; rfl), by first | exact H.out.below | exact below_dNZ H.out.below _⟩
            · rw [hid] at CI
              have HCI := Lib.hid CI
              clear CI
              by_cases hi1 : i = 0
              · have hdd : decide ((0 : Int) < (i : Int)) = false := decide_eq_false (by omega)
                have hde : decide (0 < i) = false := decide_eq_false (by omega)
                have hl := leB_nil hid
                have hd' : namesE (fun _ => false) [] ns = namesE (fun _ => false) (prevN ns (i + 1)) (ns.drop (i + 1)) := by
                  rw [hd.out, hdr, hpn, if_pos (by unfold nameE leB prevN; rw [hid, if_neg (by simp), if_pos hi1, hl]; simp)]
                have HD := Lib.hid hd'
                clear hd' hdr hpn hid hl hc hgd hd hi1
                generalize ns[i] = a at *
                go_wp2_with (go_at_call 41; (with_reducible refine HCI.out.mono ?_); rintro e w2 ⟨rfl, rfl⟩)
                go_quiet (fail)
                go_wp2
                go_roundw
                case rel => exact ⟨i + 1, by go_num, by omega, HD.out, H.out.same, below_dNZ H.out.below _⟩
                case measure => simp [intOf]; omega
              · have hip : (0 : Int) < (i : Int) := by omega
                have hiq : 0 < i := by omega
                have him : (i : Int) - 1 = ((i - 1 : Nat) : Int) := by omega
                have him2 : IntKind.i64.wrap ((i : Int) - 1) = ((i - 1 : Nat) : Int) := by rw [IntKind.wrap_i64]; omega
                have hlt1 : i - 1 < ns.length := by omega
                obtain ⟨g2, o2, e2, hg2, hc2⟩ := name_kp HN.out (i - 1) hlt1
                obtain ⟨rfl, rfl⟩ : g = g2 ∧ o = o2 := by cases e2; exact ⟨rfl, rfl⟩
                have d0 := hc2 wr ((H.out.same g).trans (HB0.out.block g hg))
                have hgp : prevN ns i = ns.getD (i - 1) [] := by unfold prevN; rw [if_neg hi1]
                rw [hgp] at hdr
                have e3 := toList_mk' (ns.getD (i - 1) [])
                have hjz : ((i - 1 : Nat) : Int) < (ns.length : Int) := by omega
                have hj0 : (0 : Int) ≤ ((i - 1 : Nat) : Int) := by omega
                have HPI := Lib.hid hgp; have HID := Lib.hid hid; have HDR := Lib.hid hdr; have HPN := Lib.hid hpn
                clear hid hdr hpn hc hc2 hgd hgp e2
                generalize ns.getD (i - 1) [] = b at *
                cases hl : (Op.bytesLess ns[i] b || ns[i] == b)
                · have hd' : namesE (fun _ => false) [] ns = namesE (fun _ => false) (prevN ns (i + 1)) (ns.drop (i + 1)) := by
                    rw [hd.out, show prevN ns i = b from HPI.out, HDR.out, HPN.out, if_pos (by unfold nameE leB; simp [HID.out, hl])]
                  have HD := Lib.hid hd'
                  clear hd' hd
                  go_wp2_with (go_at_call 41; (with_reducible refine HCI.out.mono ?_); rintro e w2 ⟨rfl, rfl⟩)
                  go_quiet (fail)
                  go_wp2
                  go_roundw
                  case rel => exact ⟨i + 1, by go_num, by omega, HD.out, H.out.same, below_dNZ H.out.below _⟩
                  case measure => simp [intOf]; omega
                · have hne : namesE (fun _ => false) [] ns = 6 := by rw [hd.out, show prevN ns i = b from HPI.out, HDR.out]; unfold nameE leB; simp [HID.out, hl]
                  have hv : v = 6 := by rw [← HV2.out, hne]; rfl
                  have HVV := Lib.hid hv
                  clear hne hv hd
                  go_wp2_with (go_at_call 41; (with_reducible refine HCI.out.mono ?_); rintro e w2 ⟨rfl, rfl⟩)
                  go_quiet (fail)
                  go_wp2
                  go_ret
                  exact ⟨ret_intZ (by rw [← HV0.out, HVV.out]; rfl), by first | exact H.out.below | exact below_dNZ H.out.below _⟩
          · have hiz : ¬ (i : Int) < (ns.length : Int) := by omega
            obtain rfl : i = ns.length := by omega
            have hne : namesE (fun _ => false) [] ns = 0 := by rw [hd.out, List.drop_of_length_le (Nat.le_refl _)]; rfl
            have hv : v = 0 := by rw [← HV2.out, hne]; simp
            have HVV := Lib.hid hv
            clear hne hv hd
            go_wp2
            go_ret
            exact ⟨ret_intZ (by rw [← HV0.out, HVV.out]; rfl), H.out.below⟩
    · have tn : (nm == []) = false := by rw [beq_eq_false_iff_ne]; exact hn
      have hE : E0 = 12 := HE0.out.symm.trans (by unfold ownE; rw [if_neg (by omega), if_pos (by unfold formB; simp [hn])])
      have HE := Lib.hid hE; have HK := Lib.hid hk
      clear hE hk
      go_wp2
      go_ret
      exact ⟨ret_intZ (by rw [HE.out]; rfl), HB0.out⟩
  · have tk : ((ks.length : Int) == (ns.length : Int)) = false := by rw [beq_eq_false_iff_ne]; omega
    have tk2 : ((ks.length : Int) != (ns.length : Int)) = true := by rw [bne_iff_ne]; omega
    have hE : E0 = 12 := HE0.out.symm.trans (by unfold ownE; rw [if_neg (by omega), if_pos (by unfold formB kidsN; simp [hk])])
    have HE := Lib.hid hE; have HK := Lib.hid hk
    clear hE hk
    go_wp2
    go_ret
    exact ⟨ret_intZ (by rw [HE.out]; rfl), HB0.out⟩
set_option maxRecDepth 100000 in
set_option maxHeartbeats 8000000 in
theorem own_8 (s : Sz) (k : Int) (hk0 : k = 8) (nm : List UInt8) (ns : List (List UInt8)) (ks : List Tz) (an ak : Option Addr) (cn ck : Nat) (c : C4) (a1 a2 : Option Addr) (us : List (List UInt8 × C4)) (gs : List (List UInt8 × G6)) (c1 c2 : Nat) (w : World) (hV : SzV w (Any w) s c a1 us a2 gs) (hN : RowV w (Any w) an 1 (ns.map fun n => [str n])) (_hl : s.types.length ≤ maxLen) (hf : fitZ (.mk k nm ns ks) = true) :
    Calls Try.prog 70 #[.agg #[.int .i64 c.k, .string c.n, .slice c.an c.ln c.cn, .slice c.ak c.lk c.ck, .slice a1 s.types.length c1, .slice a2 s.sigs.length c2], .agg #[.int .i64 k, .string ⟨nm.toArray⟩, .slice an ns.length cn, .slice ak ks.length ck]] w fun e w' => e = .returned (.int .i64 (ownE (hasZ s.types) k nm ns ks.length)) ∧ Below w.heap.size w w' := by
  subst hk0
  obtain ⟨f1, f2, f3, f4, _⟩ := fitZ_mk hf
  unfold maxLen at f2 f4
  obtain ⟨W0, hW0⟩ : ∃ W0, W0 = (w.alloc (.cells #[.int .i64 c.k, .string c.n, .slice c.an c.ln c.cn, .slice c.ak c.lk c.ck, .slice a1 s.types.length c1, .slice a2 s.sigs.length c2] 29)).alloc (.cells #[.int .i64 8, .string ⟨nm.toArray⟩, .slice an ns.length cn, .slice ak ks.length ck] 25) := ⟨_, rfl⟩
  have hb0 : Below w.heap.size w W0 := by rw [hW0]; exact ((Below.refl _ _).alloc (Nat.le_refl _) _).alloc (by simp) _
  have hz0 : W0.heap.size = w.heap.size + 2 := by rw [hW0]; simp
  have ht0 : W0.heap[w.heap.size + 1]? = some (.cells #[.int .i64 8, .string ⟨nm.toArray⟩, .slice an ns.length cn, .slice ak ks.length ck] 25 (0, 0)) := by rw [hW0, blk_if, if_pos (by simp)]
  obtain ⟨⟨p0, p1, p2, p3⟩, _⟩ := four_blk ht0
  have hs0 : W0.heap[w.heap.size]? = some (.cells #[.int .i64 c.k, .string c.n, .slice c.an c.ln c.cn, .slice c.ak c.lk c.ck, .slice a1 s.types.length c1, .slice a2 s.sigs.length c2] 29 (0, 0)) := by rw [hW0, blk_if, if_neg (by simp), blk_if, if_pos rfl]
  obtain ⟨⟨s0, s1, s2, s3, s4, s5⟩, _⟩ := six_blkF hs0
  have e0 := toList_mk' nm
  have HV := Lib.hid hV; have HN := Lib.hid hN; have HW0 := Lib.hid hW0; have HB0 := Lib.hid hb0; have HT0 := Lib.hid ht0
  have HFN : Hid (∀ i (h : i < ns.length), ns[i].length ≤ maxLen) := f3
  clear hV hN hW0 hb0 ht0 hf f3 hs0
  generalize hE0 : ownE (hasZ s.types) 8 nm ns ks.length = E0
  have HE0 := Lib.hid hE0
  clear hE0
  go_enter Try.func70, Try.ntmps70
  go_upto_region 1 with fail
  rw [← HW0.out]
  by_cases hk : ks.length = ns.length
  · have tk : ((ks.length : Int) == (ns.length : Int)) = true := by rw [beq_iff_eq]; omega
    have tk2 : ((ks.length : Int) != (ns.length : Int)) = false := by simp; omega
    by_cases hn : nm = []
    · subst hn
      have hf : formB 8 [] ns ks.length = true := by unfold formB kidsN; simp [hk]
      have hE : E0 = fieldE 8 ns := HE0.out.symm.trans (by unfold ownE; rw [if_neg (by omega), hf, if_neg (by simp), if_neg (by omega)])
      rw [fieldE] at hE
      by_cases h8 : 8 < ns.length
      · rw [if_pos h8] at hE
        have h8z : (8 : Int) < (ns.length : Int) := by omega
        have HK := Lib.hid hk; have HE := Lib.hid hE
        clear hk h8 hE hf
        go_wp2
        go_ret
        exact ⟨ret_intZ (by rw [HE.out]; rfl), HB0.out⟩
      · rw [if_neg h8] at hE
        have h8z : ¬ (8 : Int) < (ns.length : Int) := by omega
        have HK := Lib.hid hk
        clear hk
        obtain ⟨v, hv0⟩ : ∃ v, v = E0 := ⟨_, rfl⟩
        have hv : (if namesE (fun _ => false) [] ns ≠ 0 then namesE (fun _ => false) [] ns else if (8 : Int) = 8 ∧ ns.length = 0 then 12 else 0) = v := by rw [hv0, hE]
        have HV2 := Lib.hid hv; have HV0 := Lib.hid hv0
        clear hv h8 hE hf hv0
        go_wp2
        go_loopw [9] (fun kv wr => ∃ i : Nat, OwR w W0 ns kv wr i) (fun kv _ => ns.length - (intOf kv).toNat)
        case atStart => exact ⟨0, rfl, Nat.zero_le _, rfl, fun _ => rfl, HB0.out⟩
        case round =>
          obtain ⟨i, h⟩ := hrel
          obtain rfl := h.slot
          have hi := h.le
          obtain ⟨⟨p0, p1, p2, p3⟩, _⟩ := four_blk ((h.same _).trans HT0.out)
          have hd := Lib.hid h.names
          have H := Lib.hid h
          clear h
          by_cases hlt : i < ns.length
          · have hiz : (i : Int) < (ns.length : Int) := by omega
            have hi0 : (0 : Int) ≤ (i : Int) := by omega
            obtain ⟨g, o, rfl, hg, hc⟩ := name_kp HN.out i hlt
            have c0 := hc wr ((H.out.same g).trans (HB0.out.block g hg))
            have hgd : ns.getD i [] = ns[i] := by simp [List.getD, hlt]
            rw [hgd] at c0
            have CI := RIdent_any ⟨ns[i].toArray⟩ wr (HFN.out i hlt)
            rw [show (⟨ns[i].toArray⟩ : ByteArray).data.toList = ns[i] from rfl] at CI
            have hdr := namesE_drop (tk := fun _ => false) (a := prevN ns i) hlt
            have e1 := toList_mk' ns[i]
            have hpn : prevN ns (i + 1) = ns[i] := by unfold prevN; rw [if_neg (by omega), Nat.add_sub_cancel]; exact hgd
            cases hid : identB ns[i]
            · have hne : namesE (fun _ => false) [] ns = 15 := by rw [hd.out, hdr]; unfold nameE; simp [hid]
              have hv : v = 15 := by rw [← HV2.out, hne]; rfl
              rw [hid] at CI
              have HVV := Lib.hid hv; have HCI := Lib.hid CI
              clear hne hv CI hdr hpn hid hc hgd
              generalize ns[i] = a at *
              go_wp2_with (go_at_call 41; (with_reducible refine HCI.out.mono ?_); rintro e w2 ⟨rfl, rfl⟩)
              go_ret
              exact ⟨ret_intZ (by rw [← HV0.out, HVV.out]; rfl), by first | exact H.out.below | exact below_dNZ H.out.below _⟩
            · rw [hid] at CI
              have HCI := Lib.hid CI
              clear CI
              by_cases hi1 : i = 0
              · have hdd : decide ((0 : Int) < (i : Int)) = false := decide_eq_false (by omega)
                have hde : decide (0 < i) = false := decide_eq_false (by omega)
                have hl := leB_nil hid
                have hd' : namesE (fun _ => false) [] ns = namesE (fun _ => false) (prevN ns (i + 1)) (ns.drop (i + 1)) := by
                  rw [hd.out, hdr, hpn, if_pos (by unfold nameE leB prevN; rw [hid, if_neg (by simp), if_pos hi1, hl]; simp)]
                have HD := Lib.hid hd'
                clear hd' hdr hpn hid hl hc hgd hd hi1
                generalize ns[i] = a at *
                go_wp2_with (go_at_call 41; (with_reducible refine HCI.out.mono ?_); rintro e w2 ⟨rfl, rfl⟩)
                go_quiet (fail)
                go_wp2
                go_roundw
                case rel => exact ⟨i + 1, by go_num, by omega, HD.out, H.out.same, below_dNZ H.out.below _⟩
                case measure => simp [intOf]; omega
              · have hip : (0 : Int) < (i : Int) := by omega
                have hiq : 0 < i := by omega
                have him : (i : Int) - 1 = ((i - 1 : Nat) : Int) := by omega
                have him2 : IntKind.i64.wrap ((i : Int) - 1) = ((i - 1 : Nat) : Int) := by rw [IntKind.wrap_i64]; omega
                have hlt1 : i - 1 < ns.length := by omega
                obtain ⟨g2, o2, e2, hg2, hc2⟩ := name_kp HN.out (i - 1) hlt1
                obtain ⟨rfl, rfl⟩ : g = g2 ∧ o = o2 := by cases e2; exact ⟨rfl, rfl⟩
                have d0 := hc2 wr ((H.out.same g).trans (HB0.out.block g hg))
                have hgp : prevN ns i = ns.getD (i - 1) [] := by unfold prevN; rw [if_neg hi1]
                rw [hgp] at hdr
                have e3 := toList_mk' (ns.getD (i - 1) [])
                have hjz : ((i - 1 : Nat) : Int) < (ns.length : Int) := by omega
                have hj0 : (0 : Int) ≤ ((i - 1 : Nat) : Int) := by omega
                have HPI := Lib.hid hgp; have HID := Lib.hid hid; have HDR := Lib.hid hdr; have HPN := Lib.hid hpn
                clear hid hdr hpn hc hc2 hgd hgp e2
                generalize ns.getD (i - 1) [] = b at *
                cases hl : (Op.bytesLess ns[i] b || ns[i] == b)
                · have hd' : namesE (fun _ => false) [] ns = namesE (fun _ => false) (prevN ns (i + 1)) (ns.drop (i + 1)) := by
                    rw [hd.out, show prevN ns i = b from HPI.out, HDR.out, HPN.out, if_pos (by unfold nameE leB; simp [HID.out, hl])]
                  have HD := Lib.hid hd'
                  clear hd' hd
                  go_wp2_with (go_at_call 41; (with_reducible refine HCI.out.mono ?_); rintro e w2 ⟨rfl, rfl⟩)
                  go_quiet (fail)
                  go_wp2
                  go_roundw
                  case rel => exact ⟨i + 1, by go_num, by omega, HD.out, H.out.same, below_dNZ H.out.below _⟩
                  case measure => simp [intOf]; omega
                · have hne : namesE (fun _ => false) [] ns = 6 := by rw [hd.out, show prevN ns i = b from HPI.out, HDR.out]; unfold nameE leB; simp [HID.out, hl]
                  have hv : v = 6 := by rw [← HV2.out, hne]; rfl
                  have HVV := Lib.hid hv
                  clear hne hv hd
                  go_wp2_with (go_at_call 41; (with_reducible refine HCI.out.mono ?_); rintro e w2 ⟨rfl, rfl⟩)
                  go_quiet (fail)
                  go_wp2
                  go_ret
                  exact ⟨ret_intZ (by rw [← HV0.out, HVV.out]; rfl), by first | exact H.out.below | exact below_dNZ H.out.below _⟩
          · have hiz : ¬ (i : Int) < (ns.length : Int) := by omega
            obtain rfl : i = ns.length := by omega
            have hne : namesE (fun _ => false) [] ns = 0 := by rw [hd.out, List.drop_of_length_le (Nat.le_refl _)]; rfl
            by_cases hn0 : ns.length = 0
            · have hv : v = 12 := by rw [← HV2.out, hne]; simp [hn0]
              have tz : ((ns.length : Int) == 0) = true := by rw [beq_iff_eq]; omega
              have HVV := Lib.hid hv
              clear hne hv hd hn0
              go_wp2
              go_ret
              exact ⟨ret_intZ (by rw [← HV0.out, HVV.out]; rfl), H.out.below⟩
            · have hv : v = 0 := by rw [← HV2.out, hne]; simp [hn0]
              have tz : ((ns.length : Int) == 0) = false := by rw [beq_eq_false_iff_ne]; omega
              have HVV := Lib.hid hv
              clear hne hv hd hn0
              go_wp2
              go_ret
              exact ⟨ret_intZ (by rw [← HV0.out, HVV.out]; rfl), H.out.below⟩
    · have tn : (nm == []) = false := by rw [beq_eq_false_iff_ne]; exact hn
      have hE : E0 = 12 := HE0.out.symm.trans (by unfold ownE; rw [if_neg (by omega), if_pos (by unfold formB; simp [hn])])
      have HE := Lib.hid hE; have HK := Lib.hid hk
      clear hE hk
      go_wp2
      go_ret
      exact ⟨ret_intZ (by rw [HE.out]; rfl), HB0.out⟩
  · have tk : ((ks.length : Int) == (ns.length : Int)) = false := by rw [beq_eq_false_iff_ne]; omega
    have tk2 : ((ks.length : Int) != (ns.length : Int)) = true := by rw [bne_iff_ne]; omega
    have hE : E0 = 12 := HE0.out.symm.trans (by unfold ownE; rw [if_neg (by omega), if_pos (by unfold formB kidsN; simp [hk])])
    have HE := Lib.hid hE; have HK := Lib.hid hk
    clear hE hk
    go_wp2
    go_ret
    exact ⟨ret_intZ (by rw [HE.out]; rfl), HB0.out⟩
set_option maxRecDepth 100000 in
set_option maxHeartbeats 8000000 in
theorem own_9 (s : Sz) (k : Int) (hk0 : k = 9) (nm : List UInt8) (ns : List (List UInt8)) (ks : List Tz) (an ak : Option Addr) (cn ck : Nat) (c : C4) (a1 a2 : Option Addr) (us : List (List UInt8 × C4)) (gs : List (List UInt8 × G6)) (c1 c2 : Nat) (w : World) (hV : SzV w (Any w) s c a1 us a2 gs) (hN : RowV w (Any w) an 1 (ns.map fun n => [str n])) (hl : s.types.length ≤ maxLen) (hf : fitZ (.mk k nm ns ks) = true) :
    Calls Try.prog 70 #[.agg #[.int .i64 c.k, .string c.n, .slice c.an c.ln c.cn, .slice c.ak c.lk c.ck, .slice a1 s.types.length c1, .slice a2 s.sigs.length c2], .agg #[.int .i64 k, .string ⟨nm.toArray⟩, .slice an ns.length cn, .slice ak ks.length ck]] w fun e w' => e = .returned (.int .i64 (ownE (hasZ s.types) k nm ns ks.length)) ∧ Below w.heap.size w w' := by
  subst hk0
  obtain ⟨f1, f2, f3, f4, _⟩ := fitZ_mk hf
  unfold maxLen at f2 f4
  obtain ⟨W0, hW0⟩ : ∃ W0, W0 = (w.alloc (.cells #[.int .i64 c.k, .string c.n, .slice c.an c.ln c.cn, .slice c.ak c.lk c.ck, .slice a1 s.types.length c1, .slice a2 s.sigs.length c2] 29)).alloc (.cells #[.int .i64 9, .string ⟨nm.toArray⟩, .slice an ns.length cn, .slice ak ks.length ck] 25) := ⟨_, rfl⟩
  have hb0 : Below w.heap.size w W0 := by rw [hW0]; exact ((Below.refl _ _).alloc (Nat.le_refl _) _).alloc (by simp) _
  have hz0 : W0.heap.size = w.heap.size + 2 := by rw [hW0]; simp
  have ht0 : W0.heap[w.heap.size + 1]? = some (.cells #[.int .i64 9, .string ⟨nm.toArray⟩, .slice an ns.length cn, .slice ak ks.length ck] 25 (0, 0)) := by rw [hW0, blk_if, if_pos (by simp)]
  obtain ⟨⟨p0, p1, p2, p3⟩, _⟩ := four_blk ht0
  have hs0 : W0.heap[w.heap.size]? = some (.cells #[.int .i64 c.k, .string c.n, .slice c.an c.ln c.cn, .slice c.ak c.lk c.ck, .slice a1 s.types.length c1, .slice a2 s.sigs.length c2] 29 (0, 0)) := by rw [hW0, blk_if, if_neg (by simp), blk_if, if_pos rfl]
  obtain ⟨⟨s0, s1, s2, s3, s4, s5⟩, _⟩ := six_blkF hs0
  have e0 := toList_mk' nm
  have HV := Lib.hid hV; have HN := Lib.hid hN; have HW0 := Lib.hid hW0; have HB0 := Lib.hid hb0; have HT0 := Lib.hid ht0
  have HFN : Hid (∀ i (h : i < ns.length), ns[i].length ≤ maxLen) := f3
  clear hV hN hW0 hb0 ht0 hf f3 hs0
  generalize hE0 : ownE (hasZ s.types) 9 nm ns ks.length = E0
  have HE0 := Lib.hid hE0
  clear hE0
  go_enter Try.func70, Try.ntmps70
  go_upto_region 1 with fail
  rw [← HW0.out]
  by_cases hk : ks.length = 0
  · obtain rfl : ks = [] := List.eq_nil_of_length_eq_zero hk
    by_cases hs : ns.length = 0
    · obtain rfl : ns = [] := List.eq_nil_of_length_eq_zero hs
      have hf : formB 9 nm [] ([] : List Tz).length = true := by unfold formB kidsN; simp
      obtain ⟨hh, hhe⟩ : ∃ hh, hh = hasZ s.types nm := ⟨_, rfl⟩
      have CD := Def_ref (Any w) s nm c a1 a2 us gs c1 c2 W0 (fun g hg => Nat.lt_of_lt_of_le hg HB0.out.size) (HV.out.keep (fun g hg => HB0.out.block g hg)) hl
      rw [← hhe] at CD
      have hE : E0 = if hh = true then 0 else 15 := HE0.out.symm.trans (by
        unfold ownE
        rw [if_neg (by omega), hf, if_neg (by simp), ← hhe]
        cases hh <;> simp [fieldE, namesE])
      have HE := Lib.hid hE; have HCD := Lib.hid CD; have HF := Lib.hid hf; have HK := Lib.hid hk
      clear hE CD hf hk hhe
      cases hh
      · go_wp2_with (go_at_call 88; (with_reducible refine HCD.out.mono ?_); rintro e w2 ⟨ct, rfl, hv2, x2⟩; have HX2 := Lib.hid x2; clear x2 hv2)
        go_ret
        exact ⟨ret_intZ (by rw [HE.out]; rfl), (HB0.out.trans (HX2.out.mono HB0.out.size)).alloc (Nat.le_trans HB0.out.size HX2.out.size) _⟩
      · go_wp2_with (go_at_call 88; (with_reducible refine HCD.out.mono ?_); rintro e w2 ⟨ct, rfl, hv2, x2⟩; have hz2 := x2.size; have hzv : w.heap.size + 1 < w2.heap.size := (by omega); obtain ⟨⟨m0, m1, m2, m3⟩, _⟩ := four_blk ((x2.block (w.heap.size + 1) (by omega)).trans HT0.out); have HX2 := Lib.hid x2; clear x2 hv2)
        go_loop [9] (fun kv => kv = .int .i64 0) (fun _ => 0)
        case atStart => rfl
        case round =>
          obtain rfl := hrel
          go_wp2
          go_ret
          exact ⟨ret_intZ (by rw [HE.out]; rfl), (HB0.out.trans (HX2.out.mono HB0.out.size)).alloc (Nat.le_trans HB0.out.size HX2.out.size) _⟩
    · have ts : ¬ ns = [] := fun e => hs (by rw [e]; rfl)
      have hE : E0 = 12 := HE0.out.symm.trans (by unfold ownE; rw [if_neg (by omega), if_pos (by unfold formB; simp; intros; assumption)])
      have HE := Lib.hid hE; have HK := Lib.hid hk
      clear hE hk
      go_wp2
      go_ret
      exact ⟨ret_intZ (by rw [HE.out]; rfl), HB0.out⟩
  · have tk : ¬ ks = [] := fun e => hk (by rw [e]; rfl)
    have hE : E0 = 12 := HE0.out.symm.trans (by unfold ownE; rw [if_neg (by omega), if_pos (by unfold formB kidsN; simp [hk])])
    have HE := Lib.hid hE; have HK := Lib.hid hk
    clear hE hk
    go_wp2
    go_ret
    exact ⟨ret_intZ (by rw [HE.out]; rfl), HB0.out⟩
end Sp
end Go.Proofs.Ytjjpjkkaogfoaaa

namespace Go.Proofs.Ytjjpjkkaogfoaaa
open Go.RowKit
namespace Sp
open Sc

set_option maxRecDepth 100000 in
set_option maxHeartbeats 8000000 in
theorem own_lo (s : Sz) (k : Int) (hk0 : k < 1) (nm : List UInt8) (ns : List (List UInt8)) (ks : List Tz) (an ak : Option Addr) (cn ck : Nat) (c : C4) (a1 a2 : Option Addr) (c1 c2 : Nat) (w : World) :
    Calls Try.prog 70 #[.agg #[.int .i64 c.k, .string c.n, .slice c.an c.ln c.cn, .slice c.ak c.lk c.ck, .slice a1 s.types.length c1, .slice a2 s.sigs.length c2], .agg #[.int .i64 k, .string ⟨nm.toArray⟩, .slice an ns.length cn, .slice ak ks.length ck]] w fun e w' => e = .returned (.int .i64 (ownE (hasZ s.types) k nm ns ks.length)) ∧ Below w.heap.size w w' := by
  obtain ⟨W0, hW0⟩ : ∃ W0, W0 = (w.alloc (.cells #[.int .i64 c.k, .string c.n, .slice c.an c.ln c.cn, .slice c.ak c.lk c.ck, .slice a1 s.types.length c1, .slice a2 s.sigs.length c2] 29)).alloc (.cells #[.int .i64 k, .string ⟨nm.toArray⟩, .slice an ns.length cn, .slice ak ks.length ck] 25) := ⟨_, rfl⟩
  have hb0 : Below w.heap.size w W0 := by rw [hW0]; exact ((Below.refl _ _).alloc (Nat.le_refl _) _).alloc (by simp) _
  have ht0 : W0.heap[w.heap.size + 1]? = some (.cells #[.int .i64 k, .string ⟨nm.toArray⟩, .slice an ns.length cn, .slice ak ks.length ck] 25 (0, 0)) := by rw [hW0, blk_if, if_pos (by simp)]
  obtain ⟨⟨p0, p1, p2, p3⟩, _⟩ := four_blk ht0
  have hE : ownE (hasZ s.types) k nm ns ks.length = 1 := by unfold ownE; exact if_pos (Or.inl hk0)
  rw [hE]
  have HW0 := Lib.hid hW0; have HB0 := Lib.hid hb0
  skip
  clear hW0 hb0 ht0 hE
  go_enter Try.func70, Try.ntmps70
  go_upto_region 1 with fail
  rw [← HW0.out]
  go_wp2
  go_ret
  exact ⟨rfl, HB0.out⟩
set_option maxRecDepth 100000 in
set_option maxHeartbeats 8000000 in
theorem own_hi (s : Sz) (k : Int) (hk0 : 9 < k) (nm : List UInt8) (ns : List (List UInt8)) (ks : List Tz) (an ak : Option Addr) (cn ck : Nat) (c : C4) (a1 a2 : Option Addr) (c1 c2 : Nat) (w : World) :
    Calls Try.prog 70 #[.agg #[.int .i64 c.k, .string c.n, .slice c.an c.ln c.cn, .slice c.ak c.lk c.ck, .slice a1 s.types.length c1, .slice a2 s.sigs.length c2], .agg #[.int .i64 k, .string ⟨nm.toArray⟩, .slice an ns.length cn, .slice ak ks.length ck]] w fun e w' => e = .returned (.int .i64 (ownE (hasZ s.types) k nm ns ks.length)) ∧ Below w.heap.size w w' := by
  obtain ⟨W0, hW0⟩ : ∃ W0, W0 = (w.alloc (.cells #[.int .i64 c.k, .string c.n, .slice c.an c.ln c.cn, .slice c.ak c.lk c.ck, .slice a1 s.types.length c1, .slice a2 s.sigs.length c2] 29)).alloc (.cells #[.int .i64 k, .string ⟨nm.toArray⟩, .slice an ns.length cn, .slice ak ks.length ck] 25) := ⟨_, rfl⟩
  have hb0 : Below w.heap.size w W0 := by rw [hW0]; exact ((Below.refl _ _).alloc (Nat.le_refl _) _).alloc (by simp) _
  have ht0 : W0.heap[w.heap.size + 1]? = some (.cells #[.int .i64 k, .string ⟨nm.toArray⟩, .slice an ns.length cn, .slice ak ks.length ck] 25 (0, 0)) := by rw [hW0, blk_if, if_pos (by simp)]
  obtain ⟨⟨p0, p1, p2, p3⟩, _⟩ := four_blk ht0
  have hE : ownE (hasZ s.types) k nm ns ks.length = 1 := by unfold ownE; exact if_pos (Or.inr hk0)
  rw [hE]
  have HW0 := Lib.hid hW0; have HB0 := Lib.hid hb0
  have hkz : ¬ k < 1 := by omega
  clear hW0 hb0 ht0 hE
  go_enter Try.func70, Try.ntmps70
  go_upto_region 1 with fail
  rw [← HW0.out]
  go_wp2
  go_ret
  exact ⟨rfl, HB0.out⟩
theorem own_ref (s : Sz) (c : C4) (a1 a2 : Option Addr) (us : List (List UInt8 × C4)) (gs : List (List UInt8 × G6)) (c1 c2 : Nat) (k : Int) (nm : List UInt8) (ns : List (List UInt8)) (ks : List Tz) (an ak : Option Addr) (cn ck : Nat) (w : World) (hV : SzV w (Any w) s c a1 us a2 gs) (hN : RowV w (Any w) an 1 (ns.map fun n => [str n])) (hl : s.types.length ≤ maxLen) (hf : fitZ (.mk k nm ns ks) = true) :
    Calls Try.prog 70 #[.agg #[.int .i64 c.k, .string c.n, .slice c.an c.ln c.cn, .slice c.ak c.lk c.ck, .slice a1 s.types.length c1, .slice a2 s.sigs.length c2], .agg #[.int .i64 k, .string ⟨nm.toArray⟩, .slice an ns.length cn, .slice ak ks.length ck]] w fun e w' => e = .returned (.int .i64 (ownE (hasZ s.types) k nm ns ks.length)) ∧ Below w.heap.size w w' := by
  by_cases h1 : k < 1
  · exact own_lo s k h1 nm ns ks an ak cn ck c a1 a2 c1 c2 w
  · by_cases h2 : 9 < k
    · exact own_hi s k h2 nm ns ks an ak cn ck c a1 a2 c1 c2 w
    · obtain h | h | h | h | h | h | h | h | h : k = 1 ∨ k = 2 ∨ k = 3 ∨ k = 4 ∨ k = 5 ∨ k = 6 ∨ k = 7 ∨ k = 8 ∨ k = 9 := by omega
      · exact own_1 s k h nm ns ks an ak cn ck c a1 a2 us gs c1 c2 w hV hN hl hf
      · exact own_2 s k h nm ns ks an ak cn ck c a1 a2 us gs c1 c2 w hV hN hl hf
      · exact own_3 s k h nm ns ks an ak cn ck c a1 a2 us gs c1 c2 w hV hN hl hf
      · exact own_4 s k h nm ns ks an ak cn ck c a1 a2 us gs c1 c2 w hV hN hl hf
      · exact own_5 s k h nm ns ks an ak cn ck c a1 a2 us gs c1 c2 w hV hN hl hf
      · exact own_6 s k h nm ns ks an ak cn ck c a1 a2 us gs c1 c2 w hV hN hl hf
      · exact own_7 s k h nm ns ks an ak cn ck c a1 a2 us gs c1 c2 w hV hN hl hf
      · exact own_8 s k h nm ns ks an ak cn ck c a1 a2 us gs c1 c2 w hV hN hl hf
      · exact own_9 s k h nm ns ks an ak cn ck c a1 a2 us gs c1 c2 w hV hN hl hf

/-! ### may -/
theorem seven_blk {w : World} {b : Nat} {t : TypeId} {v0 v1 v2 v3 v4 v5 v6 : Value} (h : w.heap[b]? = some (.cells #[v0, v1, v2, v3, v4, v5, v6] t (0, 0))) :
    w.cell? ⟨b, 0, none⟩ = some v0 ∧ w.cell? ⟨b, 1, none⟩ = some v1 ∧ w.cell? ⟨b, 2, none⟩ = some v2 ∧ w.cell? ⟨b, 3, none⟩ = some v3 ∧ w.cell? ⟨b, 4, none⟩ = some v4 ∧ w.cell? ⟨b, 5, none⟩ = some v5 ∧ w.cell? ⟨b, 6, none⟩ = some v6 := by
  refine ⟨?_, ?_, ?_, ?_, ?_, ?_, ?_⟩ <;> simp [World.cell?, h]
theorem seven_frz {w : World} {b : Nat} {t : TypeId} {v0 v1 v2 v3 v4 v5 v6 : Value} (h : w.heap[b]? = some (.cells #[v0, v1, v2, v3, v4, v5, v6] t (0, 0))) : w.frozen? ⟨b, 6, none⟩ = false := by simp [World.frozen?, h]
theorem set_seven {w : World} {b : Nat} {t : TypeId} {v0 v1 v2 v3 v4 v5 v6 : Value} (h : w.heap[b]? = some (.cells #[v0, v1, v2, v3, v4, v5, v6] t (0, 0))) (v : Value) : (w.setCell ⟨b, 6, none⟩ v).heap[b]? = some (.cells #[v0, v1, v2, v3, v4, v5, v] t (0, 0)) := by
  unfold World.setCell; simp [Array.getElem?_modify, h]
/-- A schema whose memory stays. -/
structure SzS (S : Nat → Prop) (w : World) (s : Sz) (c : C4) (a1 a2 : Option Addr) (us : List (List UInt8 × C4)) (gs : List (List UInt8 × G6))  : Prop where
  lt : ∀ g, S g → g < w.heap.size
  val : SzV w S s c a1 us a2 gs
theorem SzS.anyB {S : Nat → Prop} {w W : World} {s : Sz} {c : C4} {a1 a2 : Option Addr} {us : List (List UInt8 × C4)} {gs : List (List UInt8 × G6)}  (h : SzS S w s c a1 a2 us gs) (hb : Below w.heap.size w W) : SzV W (Any W) s c a1 us a2 gs :=
  ⟨h.val.main.keep (fun g hg => Nat.lt_of_lt_of_le (h.lt g hg) hb.size) (fun g hg => hb.block g (h.lt g hg)), h.val.nt, h.val.rt.keep (fun g hg => Nat.lt_of_lt_of_le (h.lt g hg) hb.size) (fun g hg => hb.block g (h.lt g hg)), fun i h1 h2 => ⟨(h.val.vt i h1 h2).1, (h.val.vt i h1 h2).2.keep (fun g hg => Nat.lt_of_lt_of_le (h.lt g hg) hb.size) (fun g hg => hb.block g (h.lt g hg))⟩, h.val.ng, h.val.rg.keep (fun g hg => Nat.lt_of_lt_of_le (h.lt g hg) hb.size) (fun g hg => hb.block g (h.lt g hg)), fun i h1 h2 => (h.val.vg i h1 h2).step (fun g hg => ⟨Nat.lt_of_lt_of_le (h.lt g hg) hb.size, hb.block g (h.lt g hg)⟩)⟩
/-- What a call of may leaves. -/
def MayP (S : Nat → Prop) (wb : Nat) (s : Sz) (c : C4) (a1 a2 : Option Addr) (us : List (List UInt8 × C4)) (gs : List (List UInt8 × G6)) (c1 c2 : Nat) (t : Tz) : Prop := ∀ (ct : C4) (d n : Nat) (w : World), (∀ g, S g → g < wb) → wb < w.heap.size → n ≤ 400 → d ≤ 1000000 → SzV w S s c a1 us a2 gs → TzV w S t ct → w.heap[wb]? = some (.cells #[.int .i64 c.k, .string c.n, .slice c.an c.ln c.cn, .slice c.ak c.lk c.ck, .slice a1 s.types.length c1, .slice a2 s.sigs.length c2, .int .i64 n] 90 (0, 0)) →
  Calls Try.prog 43 #[.pointer (some ⟨wb, 0, none⟩), .agg #[.int .i64 ct.k, .string ct.n, .slice ct.an ct.ln ct.cn, .slice ct.ak ct.lk ct.ck], .int .i64 d] w fun e w' => e = .returned (.int .i64 (oneZ (hasZ s.types) d n t).1) ∧ w'.heap[wb]? = some (.cells #[.int .i64 c.k, .string c.n, .slice c.an c.ln c.cn, .slice c.ak c.lk c.ck, .slice a1 s.types.length c1, .slice a2 s.sigs.length c2, .int .i64 (oneZ (hasZ s.types) d n t).2] 90 (0, 0)) ∧ Below wb w w' ∧ Kp wb w w'
structure MayR (S : Nat → Prop) (w0 : World) (wb : Nat) (bc : Array Value) (s : Sz) (c : C4) (a1 a2 : Option Addr) (us : List (List UInt8 × C4)) (gs : List (List UInt8 × G6)) (c1 c2 : Nat) (d : Nat) (ks : List Tz) (full : Nat × Nat) (ev iv : Value) (wr : World) (j e n : Nat) : Prop where
  slot : iv = .int .i64 j
  err : ev = .int .i64 e
  le : j ≤ ks.length
  rest : e = 0 → allZ (hasZ s.types) d n (ks.drop j) = full ∧ n ≤ 400
  bad : e ≠ 0 → full = (e, n)
  box : wr.heap[w0.heap.size]? = some (.cells bc 25 (0, 0))
  walk : wr.heap[wb]? = some (.cells #[.int .i64 c.k, .string c.n, .slice c.an c.ln c.cn, .slice c.ak c.lk c.ck, .slice a1 s.types.length c1, .slice a2 s.sigs.length c2, .int .i64 n] 90 (0, 0))
  below : Below wb w0 wr
  kp : Kp wb w0 wr
theorem allZ_drop {has : List UInt8 → Bool} {d n : Nat} {ks : List Tz} {i : Nat} (h : i < ks.length) : allZ has d n (ks.drop i) = if (oneZ has d n ks[i]).1 = 0 then allZ has d (oneZ has d n ks[i]).2 (ks.drop (i + 1)) else oneZ has d n ks[i] := by rw [List.drop_eq_getElem_cons h, allZ]
set_option maxRecDepth 100000 in
set_option maxHeartbeats 16000000 in
theorem may_step (S : Nat → Prop) (wb : Nat) (s : Sz) (c : C4) (a1 a2 : Option Addr) (us : List (List UInt8 × C4)) (gs : List (List UInt8 × G6)) (c1 c2 : Nat) (hl : s.types.length ≤ maxLen) (k : Int) (nm : List UInt8) (ns : List (List UInt8)) (ks : List Tz) (hf : fitZ (.mk k nm ns ks) = true) (ih : ∀ i (h : i < ks.length), MayP S wb s c a1 a2 us gs c1 c2 ks[i]) : MayP S wb s c a1 a2 us gs c1 c2 (.mk k nm ns ks) := by
  intro ct d n w hS hwb hn hd hV hT hW
  obtain ⟨f1, f2, f3, f4, f5⟩ := fitZ_mk hf
  unfold maxLen at f4
  cases hT with
  | mk _ _ _ _ an cn ak ck vs hkl hnr hkr hu =>
    obtain ⟨m0, m1, m2, m3, m4, m5, m6⟩ := seven_blk hW
    have mf := seven_frz hW
    generalize hfull : oneZ (hasZ s.types) d n (.mk k nm ns ks) = full
    rw [oneZ] at hfull
    obtain ⟨B, hB⟩ : ∃ B, B = w.heap.size := ⟨_, rfl⟩
    obtain ⟨W1, hW1⟩ : ∃ W1, W1 = (w.setCell ⟨wb, 6, none⟩ (.int .i64 ((n : Int) + 1))).alloc (.cells #[.int .i64 k, .string ⟨nm.toArray⟩, .slice an ns.length cn, .slice ak ks.length ck] 25) := ⟨_, rfl⟩
    have ho1 : Only wb w (w.setCell ⟨wb, 6, none⟩ (.int .i64 ((n : Int) + 1))) := (Only.refl _ _).setCell _ _
    have hz1 : W1.heap.size = w.heap.size + 1 := by rw [hW1]; simp
    have hb1 : Below wb w W1 := by rw [hW1]; exact (ho1.below (Nat.le_refl _) (by omega)).alloc (by simp; omega) _
    have hk1 : Kp wb w W1 := by rw [hW1]; exact ((Kp.refl wb w).only ho1).below ((Below.refl _ _).alloc (Nat.le_refl _) _)
    have hw1 : W1.heap[wb]? = some (.cells #[.int .i64 c.k, .string c.n, .slice c.an c.ln c.cn, .slice c.ak c.lk c.ck, .slice a1 s.types.length c1, .slice a2 s.sigs.length c2, .int .i64 ((n : Int) + 1)] 90 (0, 0)) := by rw [hW1]; exact blk_allocZ (set_seven hW _) _
    have hx1 : W1.heap[w.heap.size]? = some (.cells #[.int .i64 k, .string ⟨nm.toArray⟩, .slice an ns.length cn, .slice ak ks.length ck] 25 (0, 0)) := by rw [hW1, blk_if, if_pos (by simp)]
    have hwbz : (wb : Nat) < w.heap.size := hwb
    have HSS := Lib.hid hS; have HV := Lib.hid hV; have HW := Lib.hid hW; have HFU := Lib.hid hfull; have HNR := Lib.hid hnr; have HKR := Lib.hid hkr; have HU := Lib.hid hu; have HIH := Lib.hid ih; have HW1 := Lib.hid hW1; have HB1 := Lib.hid hb1; have HK1 := Lib.hid hk1; have HWK1 := Lib.hid hw1; have HX1 := Lib.hid hx1; have HFT := Lib.hid hf; have HKL := Lib.hid hkl
    clear hS hV hW hfull hnr hkr hu ih hW1 hb1 hk1 hw1 hx1 hf hkl ho1
    go_enter Try.func43, Try.ntmps43
    go_upto_region 2 with fail
    rw [← HW1.out]
    obtain ⟨y0, y1, y2, y3, y4, y5, y6⟩ := seven_blk HWK1.out
    have HWKN : Hid (W1.heap[wb]? = some (.cells #[.int .i64 c.k, .string c.n, .slice c.an c.ln c.cn, .slice c.ak c.lk c.ck, .slice a1 s.types.length c1, .slice a2 s.sigs.length c2, .int .i64 ((n + 1 : Nat) : Int)] 90 (0, 0))) := HWK1.out
    by_cases h400 : 400 < n + 1
    · have hz : (400 : Int) < (n : Int) + 1 := by omega
      have he : full = (3, n + 1) := by rw [← HFU.out, if_pos h400]
      have HE := Lib.hid he
      clear he h400
      go_wp2
      go_ret
      exact ⟨ret_intZ (by rw [HE.out]; rfl), by rw [HE.out]; exact HWKN.out, HB1.out, HK1.out⟩
    · have hz : ¬ (400 : Int) < (n : Int) + 1 := by omega
      by_cases h12 : 12 < d
      · have hdz : (12 : Int) < (d : Int) := by omega
        have he : full = (13, n + 1) := by rw [← HFU.out, if_neg h400, if_pos h12]
        have HE := Lib.hid he
        clear he h400
        go_wp2
        go_ret
        exact ⟨ret_intZ (by rw [HE.out]; rfl), by rw [HE.out]; exact HWKN.out, HB1.out, HK1.out⟩
      · have hdz : ¬ (12 : Int) < (d : Int) := by omega
        have hsb : ∀ g, S g → g < W1.heap.size := fun g hg => by have := HSS.out g hg; omega
        have hkeep : ∀ g, S g → W1.heap[g]? = w.heap[g]? := fun g hg => HB1.out.block g (HSS.out g hg)
        have HSV : Hid (SzS S W1 s c a1 a2 us gs) := ⟨hsb, HV.out.keep hkeep⟩
        have HNRW := Lib.hid (HNR.out.keep (fun _ h => h) hkeep)
        have HSB := Lib.hid hsb
        have hBz : B < W1.heap.size := by omega
        have HBX : Hid (W1.heap[B]? = some (.cells #[.int .i64 k, .string ⟨nm.toArray⟩, .slice an ns.length cn, .slice ak ks.length ck] 25 (0, 0))) := by rw [hB]; exact HX1.out
        clear hsb hkeep y0 y1 y2 y3 y4 y5
        go_wp2_with fail
        refine wp_region_by (QJ (fun (_ : Unit) i => match i with | 0 => .pointer (some ⟨wb, 0, none⟩) | 1 => .pointer (some ⟨wb, 0, none⟩) | 2 => .pointer (some ⟨wb, 0, none⟩) | 3 => .agg #[.int .i64 c.k, .string c.n, .slice c.an c.ln c.cn, .slice c.ak c.lk c.ck, .slice a1 s.types.length c1, .slice a2 s.sigs.length c2] | 4 => .agg #[.int .i64 k, .string ⟨nm.toArray⟩, .slice an ns.length cn, .slice ak ks.length ck] | 5 => .int .i64 (ownE (hasZ s.types) k nm ns ks.length : Nat) | 6 => .int .i64 (ownE (hasZ s.types) k nm ns ks.length : Nat) | _ => undef) (fun (_ : Unit) _ v => Below W1.heap.size W1 v)) (by kernel_rfl) ?_ ?_ ?_
        · exact ⟨by simp, Closed.start _, (), Fr.start _ _ _, Below.drew (Below.refl _ _)⟩
        · intro listed b v q hJ hi
          obtain ⟨hsz, hC, x, hF, hM⟩ := hJ
          obtain ⟨hl1, hiN⟩ := not_up hsz hi
          obtain ⟨_, o, ho, hdeps⟩ := mem_ready.1 hi
          have hiN : q < 7 := hiN
          obtain rfl | rfl | rfl | rfl | rfl | rfl | rfl : q = 0 ∨ q = 1 ∨ q = 2 ∨ q = 3 ∨ q = 4 ∨ q = 5 ∨ q = 6 := by omega
          · cases ho
            have e0 := hF.old_is 0 (by rfl) rfl
            refine QJ.quiet (x := x) hsz hC hi hF (Slots.of (by rfl)) rfl (wanted_none rfl) hM ?_
            show _ = Result.ok (Next.value (.pointer (some ⟨wb, 0, none⟩))) v
            simp [execOp, go_sem, e0]
          · cases ho
            have e23 : b.tmps[23]? = some (.pointer (some ⟨wb, 0, none⟩)) := hF.up 0 23 rfl (hdeps ⟨0, .data⟩ (by simp) rfl)
            refine QJ.quiet (x := x) hsz hC hi hF (Slots.of (by rfl)) rfl (wanted_none rfl) hM ?_
            show _ = Result.ok (Next.value (.pointer (some ⟨wb, 0, none⟩))) v
            simp [execOp, go_sem, e23]
          · cases ho
            have e24 : b.tmps[24]? = some (.pointer (some ⟨wb, 0, none⟩)) := hF.up 1 24 rfl (hdeps ⟨1, .data⟩ (by simp) rfl)
            refine QJ.quiet (x := x) hsz hC hi hF (Slots.of (by rfl)) rfl (wanted_none rfl) hM ?_
            show _ = Result.ok (Next.value (.pointer (some ⟨wb, 0, none⟩))) v
            simp [execOp, go_sem, e24]
          · cases ho
            obtain ⟨y0, y1, y2, y3, y4, y5, y6⟩ := seven_blk ((hM.block wb (by omega)).trans HWKN.out)
            have e25 : b.tmps[25]? = some (.pointer (some ⟨wb, 0, none⟩)) := hF.up 2 25 rfl (hdeps ⟨2, .data⟩ (by simp) rfl)
            refine QJ.quiet (x := x) hsz hC hi hF (Slots.of (by rfl)) rfl (wanted_none rfl) hM ?_
            show _ = Result.ok (Next.value (.agg #[.int .i64 c.k, .string c.n, .slice c.an c.ln c.cn, .slice c.ak c.lk c.ck, .slice a1 s.types.length c1, .slice a2 s.sigs.length c2])) v
            simp [execOp, go_sem, e25, y0, y1, y2, y3, y4, y5]
          · cases ho
            obtain ⟨⟨y0, y1, y2, y3⟩, _⟩ := four_blk ((hM.block w.heap.size (by omega)).trans HX1.out)
            have e4 := hF.old_is 4 (by rfl) rfl
            refine QJ.quiet (x := x) hsz hC hi hF (Slots.of (by rfl)) rfl (wanted_none rfl) hM ?_
            show _ = Result.ok (Next.value (.agg #[.int .i64 k, .string ⟨nm.toArray⟩, .slice an ns.length cn, .slice ak ks.length ck])) v
            simp [execOp, go_sem, e4, y0, y1, y2, y3]
          · cases ho
            have e26 : b.tmps[26]? = some (.agg #[.int .i64 c.k, .string c.n, .slice c.an c.ln c.cn, .slice c.ak c.lk c.ck, .slice a1 s.types.length c1, .slice a2 s.sigs.length c2]) := hF.up 3 26 rfl (hdeps ⟨3, .data⟩ (by simp) rfl)
            have e27 : b.tmps[27]? = some (.agg #[.int .i64 k, .string ⟨nm.toArray⟩, .slice an ns.length cn, .slice ak ks.length ck]) := hF.up 4 27 rfl (hdeps ⟨4, .data⟩ (by simp) rfl)
            refine QJ.call (x := x) (f := 70) (args := #[.agg #[.int .i64 c.k, .string c.n, .slice c.an c.ln c.cn, .slice c.ak c.lk c.ck, .slice a1 s.types.length c1, .slice a2 s.sigs.length c2], .agg #[.int .i64 k, .string ⟨nm.toArray⟩, .slice an ns.length cn, .slice ak ks.length ck]]) hsz hC hi hF (Slots.of (by rfl)) rfl (wanted_none rfl) (by simp [execOp, go_sem, e26, e27]) (own_ref s c a1 a2 us gs c1 c2 k nm ns ks an ak cn ck v (HSV.out.anyB hM) (HNRW.out.keep (fun g hg => Nat.lt_of_lt_of_le (HSB.out g hg) hM.size) (fun g hg => hM.block g (HSB.out g hg))) hl HFT.out) ?_
            rintro e w' ⟨rfl, hb⟩
            exact ⟨(), rfl, fun _ _ => rfl, hM.trans (hb.mono hM.size)⟩
          · cases ho
            have e28 : b.tmps[28]? = some (.int .i64 (ownE (hasZ s.types) k nm ns ks.length : Nat)) := hF.up 5 28 rfl (hdeps ⟨5, .data⟩ (by simp) rfl)
            refine QJ.quiet (x := x) hsz hC hi hF (Slots.of (by rfl)) rfl (wanted_none rfl) hM ?_
            show _ = Result.ok (Next.value (.int .i64 (ownE (hasZ s.types) k nm ns ks.length : Nat))) v
            simp [execOp, go_sem, e28]
        · intro listed b W2 hJ hr
          obtain ⟨hsz, hC, x, hF, hM⟩ := hJ
          have hall := all_upB (by rfl) hsz hr
          have hb : b = putAll _ _ _ 7 := hF.done (Slots.of (by rfl)) hall
          subst hb
          simp only [putAll]
          simp [dstOf]
          have hb2 : Below wb w W2 := HB1.out.trans (hM.mono (by omega))
          have hk2 : Kp wb w W2 := HK1.out.below hM
          have hbx2 := (hM.block B hBz).trans HBX.out
          have hwk2 := (hM.block wb (by omega)).trans HWKN.out
          obtain ⟨E, hE⟩ : ∃ E, E = ownE (hasZ s.types) k nm ns ks.length := ⟨_, rfl⟩
          rw [← hE]
          have hrest : E = 0 → allZ (hasZ s.types) (d + 1) (n + 1) (ks.drop 0) = full ∧ n + 1 ≤ 400 := fun e => ⟨by rw [← HFU.out, if_neg h400, if_neg h12, ← hE, if_neg (by omega)]; rfl, by omega⟩
          have hbad : E ≠ 0 → full = (E, n + 1) := fun e => by rw [← HFU.out, if_neg h400, if_neg h12, ← hE, if_pos e]
          have HB2 := Lib.hid hb2; have HK2 := Lib.hid hk2; have HBX2 := Lib.hid hbx2; have HWK2 := Lib.hid hwk2; have HRE := Lib.hid hrest; have HBA := Lib.hid hbad
          clear hM hF hC hall hr hsz hb2 hk2 hbx2 hwk2 hrest hbad hE
          subst hB
          go_wp2_with fail
          go_loopw [7, 8] (fun v7 v8 wr => ∃ j e n', MayR S w wb #[.int .i64 k, .string ⟨nm.toArray⟩, .slice an ns.length cn, .slice ak ks.length ck] s c a1 a2 us gs c1 c2 (d + 1) ks full v7 v8 wr j e n') (fun _ v8 _ => ks.length - (intOf v8).toNat)
          case atStart => exact ⟨0, E, n + 1, rfl, rfl, Nat.zero_le _, HRE.out, HBA.out, HBX2.out, HWK2.out, HB2.out, HK2.out⟩
          case round =>
            obtain ⟨j, e, n', h⟩ := hrel
            obtain rfl := h.slot
            obtain rfl := h.err
            have hle := h.le
            obtain ⟨⟨t0, t1, t2, t3⟩, _⟩ := four_blk h.box
            have hbz := (Array.getElem?_eq_some_iff.1 h.box).1
            have H := Lib.hid h
            clear h
            by_cases hj : j < ks.length
            · have hjz : (j : Int) < (ks.length : Int) := by omega
              have hj0 : (0 : Int) ≤ (j : Int) := by omega
              by_cases he : e = 0
              · subst he
                obtain ⟨hrest, hn'⟩ := H.out.rest rfl
                have hju : j < vs.length := by rw [HKL.out]; exact hj
                obtain ⟨g, o, rfl, hg, hc⟩ := four_at HKR.out HSS.out j hju
                obtain ⟨q0, q1, q2, q3⟩ := hc wr (fun i hi => H.out.below.block i hi)
                have C : Calls Try.prog 43 #[.pointer (some ⟨wb, 0, none⟩), .agg #[.int .i64 vs[j].k, .string vs[j].n, .slice vs[j].an vs[j].ln vs[j].cn, .slice vs[j].ak vs[j].lk vs[j].ck], .int .i64 ((d : Int) + 1)] wr _ := HIH.out j hj vs[j] (d + 1) n' wr HSS.out (Array.getElem?_eq_some_iff.1 H.out.walk).1 hn' (by omega) (HV.out.keep (fun g hg => H.out.below.block g (HSS.out g hg))) ((HU.out j hj hju).keep (fun _ h => h) (fun g hg => H.out.below.block g (HSS.out g hg))) H.out.walk
                rw [allZ_drop hj] at hrest
                have hle2 := oneZ_le (hasZ s.types) ks[j] (d + 1) n' hn'
                generalize oneZ (hasZ s.types) (d + 1) n' ks[j] = r at *
                obtain ⟨e2, n2⟩ := r
                have HC := Lib.hid C; have HRE2 := Lib.hid hrest; have HLE := Lib.hid hle2
                clear C hrest hc hle2
                generalize vs[j] = x at *
                go_wp2_with (go_at_call 43; (with_reducible refine HC.out.mono ?_); rintro e3 w2 ⟨rfl, x2, x3, x4⟩; have HX2 := Lib.hid x2; have HX3 := Lib.hid x3; have HX4 := Lib.hid x4; clear x2 x3 x4)
                go_roundw
                case rel => exact ⟨j + 1, e2, n2, by go_num, rfl, by omega, fun h => ⟨by have := HRE2.out; rw [if_pos h] at this; exact this, HLE.out h⟩, fun h => by have := HRE2.out; rw [if_neg h] at this; exact this.symm, (HX4.out.blk _ hbz (by omega)).trans H.out.box, HX2.out, H.out.below.trans HX3.out, ⟨Nat.le_trans H.out.kp.size HX4.out.size, fun g h1 h2 => (HX4.out.blk g (Nat.lt_of_lt_of_le h1 H.out.kp.size) h2).trans (H.out.kp.blk g h1 h2)⟩⟩
                case measure => simp [intOf]; omega
              · have hez : ((e : Int) == 0) = false := by rw [beq_eq_false_iff_ne]; omega
                have hfe := H.out.bad he
                have HE := Lib.hid hfe
                clear hfe he
                go_wp2
                go_ret
                exact ⟨ret_intZ (by rw [HE.out]), by rw [HE.out]; exact H.out.walk, H.out.below, H.out.kp⟩
            · have hjz : ¬ (j : Int) < (ks.length : Int) := by omega
              have hfe : full = (e, n') := by
                by_cases he : e = 0
                · have := (H.out.rest he).1
                  rw [List.drop_of_length_le (by omega), allZ] at this
                  rw [← this, he]
                · exact H.out.bad he
              have HE := Lib.hid hfe
              clear hfe
              go_wp2
              go_ret
              exact ⟨ret_intZ (by rw [HE.out]), by rw [HE.out]; exact H.out.walk, H.out.below, H.out.kp⟩
theorem may_all (S : Nat → Prop) (wb : Nat) (s : Sz) (c : C4) (a1 a2 : Option Addr) (us : List (List UInt8 × C4)) (gs : List (List UInt8 × G6)) (c1 c2 : Nat) (hl : s.types.length ≤ maxLen) : ∀ (N : Nat) (t : Tz), sizeZ t ≤ N → fitZ t = true → MayP S wb s c a1 a2 us gs c1 c2 t
  | 0, .mk k n ns ks, h, _ => by simp only [sizeZ] at h; omega
  | N + 1, .mk k n ns ks, h, hf => by
    have h5 := (fitZ_mk hf).2.2.2.2
    exact may_step S wb s c a1 a2 us gs c1 c2 hl k n ns ks hf fun i hi => may_all S wb s c a1 a2 us gs c1 c2 hl N ks[i] (by have := sizeZ_mem ks i hi; simp only [sizeZ] at h; omega) (fitZs_mem ks h5 i hi)
theorem may_ref (S : Nat → Prop) (wb : Nat) (s : Sz) (c : C4) (a1 a2 : Option Addr) (us : List (List UInt8 × C4)) (gs : List (List UInt8 × G6)) (c1 c2 : Nat) (hl : s.types.length ≤ maxLen) (t : Tz) (hf : fitZ t = true) : MayP S wb s c a1 a2 us gs c1 c2 t := may_all S wb s c a1 a2 us gs c1 c2 hl _ t (Nat.le_refl _) hf
end Sp
end Go.Proofs.Ytjjpjkkaogfoaaa

namespace Go.Proofs.Ytjjpjkkaogfoaaa
open Go.RowKit
namespace Sp
open Sc

mutual
/-- Whether an Opt stands right in an Opt. -/
def nestR (l : List NT) : Tz → Bool
  | .mk k _ _ ks => (decide (k = 6) && decide ((openR l (l.length + 1) (kid0 ks)).kind = 6)) || nestsR l ks
def nestsR (l : List NT) : List Tz → Bool
  | [] => false
  | t :: ks => nestR l t || nestsR l ks
end
mutual
/-- Each Opt has a kid. -/
def kidsOk : Tz → Bool
  | .mk k _ _ ks => (!decide (k = 6) || decide (0 < ks.length)) && kidsOks ks
def kidsOks : List Tz → Bool
  | [] => true
  | t :: ks => kidsOk t && kidsOks ks
end
theorem kidsOks_mem : ∀ (ks : List Tz), kidsOks ks = true → ∀ (k : Nat) (h : k < ks.length), kidsOk ks[k] = true
  | t :: ks, hg, 0, _ => by simp only [kidsOks, Bool.and_eq_true] at hg; exact hg.1
  | t :: ks, hg, k + 1, h => by simp only [kidsOks, Bool.and_eq_true] at hg; exact kidsOks_mem ks hg.2 k (by simpa using h)
theorem nestsR_drop {l : List NT} {ks : List Tz} {i : Nat} (h : i < ks.length) : nestsR l (ks.drop i) = (nestR l ks[i] || nestsR l (ks.drop (i + 1))) := by rw [List.drop_eq_getElem_cons h, nestsR]
/-- What a call of opts leaves. -/
def OptP (S : Nat → Prop) (s : Sz) (c : C4) (a1 a2 : Option Addr) (us : List (List UInt8 × C4)) (gs : List (List UInt8 × G6)) (c1 c2 : Nat) (t : Tz) : Prop := ∀ (ct : C4) (w : World), (∀ g, S g → g < w.heap.size) → SzV w S s c a1 us a2 gs → TzV w S t ct →
  Calls Try.prog 47 #[.agg #[.int .i64 c.k, .string c.n, .slice c.an c.ln c.cn, .slice c.ak c.lk c.ck, .slice a1 s.types.length c1, .slice a2 s.sigs.length c2], .agg #[.int .i64 ct.k, .string ct.n, .slice ct.an ct.ln ct.cn, .slice ct.ak ct.lk ct.ck]] w fun e w' => e = .returned (.bool (nestR s.types t)) ∧ Below w.heap.size w w'
structure OpsR (w : World) (sc tc : Array Value) (l : List NT) (full : Bool) (ks : List Tz) (iv : Value) (wr : World) (j : Nat) : Prop where
  slot : iv = .int .i64 j
  le : j ≤ ks.length
  rest : nestsR l (ks.drop j) = full
  sbox : wr.heap[w.heap.size]? = some (.cells sc 29 (0, 0))
  tbox : wr.heap[w.heap.size + 1]? = some (.cells tc 25 (0, 0))
  size : w.heap.size + 2 ≤ wr.heap.size
  below : Below w.heap.size w wr
set_option maxRecDepth 100000 in
set_option maxHeartbeats 16000000 in
theorem opts_step (S : Nat → Prop) (s : Sz) (c : C4) (a1 a2 : Option Addr) (us : List (List UInt8 × C4)) (gs : List (List UInt8 × G6)) (c1 c2 : Nat) (hl : s.types.length ≤ 1000000) (k : Int) (nm : List UInt8) (ns : List (List UInt8)) (ks : List Tz) (hko : kidsOk (.mk k nm ns ks) = true) (hkl : ks.length ≤ maxLen) (ih : ∀ i (h : i < ks.length), OptP S s c a1 a2 us gs c1 c2 ks[i]) : OptP S s c a1 a2 us gs c1 c2 (.mk k nm ns ks) := by
  intro ct w hS hV hT
  unfold maxLen at hkl
  rw [kidsOk] at hko
  cases hT with
  | mk _ _ _ _ an cn ak ck vs hvl hnr hkr hu =>
    obtain ⟨W0, hW0⟩ : ∃ W0, W0 = (w.alloc (.cells #[.int .i64 c.k, .string c.n, .slice c.an c.ln c.cn, .slice c.ak c.lk c.ck, .slice a1 s.types.length c1, .slice a2 s.sigs.length c2] 29)).alloc (.cells #[.int .i64 k, .string ⟨nm.toArray⟩, .slice an ns.length cn, .slice ak ks.length ck] 25) := ⟨_, rfl⟩
    have hb0 : Below w.heap.size w W0 := by rw [hW0]; exact ((Below.refl _ _).alloc (Nat.le_refl _) _).alloc (by simp) _
    have hz0 : W0.heap.size = w.heap.size + 2 := by rw [hW0]; simp
    have hs0 : W0.heap[w.heap.size]? = some (.cells #[.int .i64 c.k, .string c.n, .slice c.an c.ln c.cn, .slice c.ak c.lk c.ck, .slice a1 s.types.length c1, .slice a2 s.sigs.length c2] 29 (0, 0)) := by rw [hW0, blk_if, if_neg (by simp), blk_if, if_pos rfl]
    have ht0 : W0.heap[w.heap.size + 1]? = some (.cells #[.int .i64 k, .string ⟨nm.toArray⟩, .slice an ns.length cn, .slice ak ks.length ck] 25 (0, 0)) := by rw [hW0, blk_if, if_pos (by simp)]
    generalize hB : nestR s.types (.mk k nm ns ks) = B
    rw [nestR] at hB
    have HSS := Lib.hid hS; have HV := Lib.hid hV; have HKR := Lib.hid hkr; have HU := Lib.hid hu; have HIH := Lib.hid ih; have HW0 := Lib.hid hW0; have HB0 := Lib.hid hb0; have HS0 := Lib.hid hs0; have HT0 := Lib.hid ht0; have HKL := Lib.hid hvl
    clear hS hV hkr hu ih hW0 hb0 hs0 ht0 hvl hnr
    by_cases h6 : k = 6
    · subst h6
      simp only [decide_true, Bool.not_true, Bool.false_or, Bool.and_eq_true, decide_eq_true_eq, Bool.true_and] at hko hB
      obtain ⟨hpos, _⟩ := hko
      have hlu : 0 < vs.length := by rw [HKL.out]; exact hpos
      have hne0 : ¬ ks = [] := fun e => by rw [e] at hpos; exact absurd hpos (by simp)
      obtain ⟨g, o, rfl, hg, hc⟩ := four_at HKR.out HSS.out 0 hlu
      simp only [Nat.zero_mul, Nat.add_zero] at hc
      have hk0 : kid0 ks = ks[0] := by unfold kid0; cases ks with | nil => exact absurd hpos (by simp) | cons a b => rfl
      rw [hk0] at hB
      obtain ⟨K, hK⟩ : ∃ K, K = (openR s.types (s.types.length + 1) ks[0]).kind := ⟨_, rfl⟩
      rw [← hK] at hB
      obtain ⟨kb, hkb⟩ : ∃ kb, (K == 6) = kb := ⟨_, rfl⟩
      have HKB := Lib.hid hkb
      clear hkb
      have hfld : ∀ (d1 : Int) (d2 : ByteArray) (d3 : Option Addr) (d4 d5 : Nat) (d6 : Option Addr) (d7 d8 : Nat) (w : World), (Instr.field 25 (.agg #[.int .i64 d1, .string d2, .slice d3 d4 d5, .slice d6 d7 d8]) 0).run Try.prog w = .ok (.int .i64 d1) w := fun _ _ _ _ _ _ _ _ _ => by kernel_rfl
      have hxv := HU.out 0 hpos hlu
      generalize vs[0] = x0 at *
      have HX0 := Lib.hid hxv
      clear hxv
      have HC0 := Lib.hid hc; have HK : Hid ((openR s.types (s.types.length + 1) ks[0]).kind = K) := hK.symm; have HB := Lib.hid hB
      clear hc hK hB hk0
      go_enter Try.func47, Try.ntmps47
      go_wp2_with fail
      rw [← HW0.out]
      refine wp_region_by (QJ (fun (y : C4) i => match i with | 0 => .pointer (some ⟨w.heap.size + 1, 0, none⟩) | 1 => .int .i64 6 | 2 => .bool true | 3 => .bool true | 4 => .agg #[.int .i64 c.k, .string c.n, .slice c.an c.ln c.cn, .slice c.ak c.lk c.ck, .slice a1 s.types.length c1, .slice a2 s.sigs.length c2] | 5 => .pointer (some ⟨w.heap.size + 1, 3, none⟩) | 6 => .slice (some ⟨g, o, none⟩) ks.length ck | 7 => .pointer (some ⟨g, o, none⟩) | 8 => .agg #[.int .i64 x0.k, .string x0.n, .slice x0.an x0.ln x0.cn, .slice x0.ak x0.lk x0.ck] | 9 => .agg #[.int .i64 y.k, .string y.n, .slice y.an y.ln y.cn, .slice y.ak y.lk y.ck] | 10 => .int .i64 K | 11 => .bool kb | 12 => .bool kb | _ => undef) (fun (y : C4) listed v => Below W0.heap.size W0 v ∧ (listed.getD 9 false = true → y.k = K))) (by kernel_rfl) ?_ ?_ ?_
      · exact ⟨by simp, Closed.start _, ⟨0, ⟨#[]⟩, none, 0, 0, none, 0, 0⟩, Fr.start _ _ _, Below.drew (Below.refl _ _), fun h => by simp at h⟩
      · intro listed b v q hJ hi
        obtain ⟨hsz, hC, y, hF, hM⟩ := hJ
        obtain ⟨hl1, hiN⟩ := not_up hsz hi
        obtain ⟨_, o, ho, hdeps⟩ := mem_ready.1 hi
        have hiN : q < 13 := hiN
        obtain rfl | rfl | rfl | rfl | rfl | rfl | rfl | rfl | rfl | rfl | rfl | rfl | rfl : q = 0 ∨ q = 1 ∨ q = 2 ∨ q = 3 ∨ q = 4 ∨ q = 5 ∨ q = 6 ∨ q = 7 ∨ q = 8 ∨ q = 9 ∨ q = 10 ∨ q = 11 ∨ q = 12 := by omega
        · cases ho
          have e3 := hF.old_is 3 (by rfl) rfl
          refine QJ.quiet (x := y) hsz hC hi hF (Slots.of (by rfl)) rfl (wanted_none rfl) ⟨hM.1, fun h => hM.2 (by rw [getD_setN (show 0 ≠ 9 by decide)] at h; exact h)⟩ ?_
          show _ = Result.ok (Next.value (.pointer (some ⟨w.heap.size + 1, 0, none⟩))) v
          simp [execOp, go_sem, e3]
        · cases ho
          obtain ⟨⟨y0, y1, y2, y3⟩, _⟩ := four_blk ((hM.1.block (w.heap.size + 1) (by omega)).trans HT0.out)
          have e6 : b.tmps[6]? = some (.pointer (some ⟨w.heap.size + 1, 0, none⟩)) := hF.up 0 6 rfl (hdeps ⟨0, .data⟩ (by simp) rfl)
          refine QJ.quiet (x := y) hsz hC hi hF (Slots.of (by rfl)) rfl (wanted_none rfl) ⟨hM.1, fun h => hM.2 (by rw [getD_setN (show 1 ≠ 9 by decide)] at h; exact h)⟩ ?_
          show _ = Result.ok (Next.value (.int .i64 6)) v
          simp [execOp, go_sem, e6, y0]
        · cases ho
          have e7 : b.tmps[7]? = some (.int .i64 6) := hF.up 1 7 rfl (hdeps ⟨1, .data⟩ (by simp) rfl)
          refine QJ.quiet (x := y) hsz hC hi hF (Slots.of (by rfl)) rfl (wanted_none rfl) ⟨hM.1, fun h => hM.2 (by rw [getD_setN (show 2 ≠ 9 by decide)] at h; exact h)⟩ ?_
          show _ = Result.ok (Next.value (.bool true)) v
          simp [execOp, go_sem, e7]
        · cases ho
          have e8 : b.tmps[8]? = some (.bool true) := hF.up 2 8 rfl (hdeps ⟨2, .data⟩ (by simp) rfl)
          refine QJ.quiet (x := y) hsz hC hi hF (Slots.of (by rfl)) rfl (wanted_none rfl) ⟨hM.1, fun h => hM.2 (by rw [getD_setN (show 3 ≠ 9 by decide)] at h; exact h)⟩ ?_
          show _ = Result.ok (Next.value (.bool true)) v
          simp [execOp, go_sem, e8]
        · cases ho
          obtain ⟨⟨y0, y1, y2, y3, y4, y5⟩, _⟩ := six_blkF ((hM.1.block w.heap.size (by omega)).trans HS0.out)
          have e2 := hF.old_is 2 (by rfl) rfl
          refine QJ.quiet (x := y) hsz hC hi hF (Slots.of (by rfl)) rfl ((wanted_of rfl rfl (show b.tmps[9]? = some (.bool true) from hF.up 3 9 rfl (hdeps ⟨3, .guard⟩ (by simp) rfl))).trans (by rfl)) ⟨hM.1, fun h => hM.2 (by rw [getD_setN (show 4 ≠ 9 by decide)] at h; exact h)⟩ ?_
          show _ = Result.ok (Next.value (.agg #[.int .i64 c.k, .string c.n, .slice c.an c.ln c.cn, .slice c.ak c.lk c.ck, .slice a1 s.types.length c1, .slice a2 s.sigs.length c2])) v
          simp [execOp, go_sem, e2, y0, y1, y2, y3, y4, y5]
        · cases ho
          have e3 := hF.old_is 3 (by rfl) rfl
          refine QJ.quiet (x := y) hsz hC hi hF (Slots.of (by rfl)) rfl ((wanted_of rfl rfl (show b.tmps[9]? = some (.bool true) from hF.up 3 9 rfl (hdeps ⟨3, .guard⟩ (by simp) rfl))).trans (by rfl)) ⟨hM.1, fun h => hM.2 (by rw [getD_setN (show 5 ≠ 9 by decide)] at h; exact h)⟩ ?_
          show _ = Result.ok (Next.value (.pointer (some ⟨w.heap.size + 1, 3, none⟩))) v
          simp [execOp, go_sem, e3]
        · cases ho
          obtain ⟨⟨y0, y1, y2, y3⟩, _⟩ := four_blk ((hM.1.block (w.heap.size + 1) (by omega)).trans HT0.out)
          have e11 : b.tmps[11]? = some (.pointer (some ⟨w.heap.size + 1, 3, none⟩)) := hF.up 5 11 rfl (hdeps ⟨5, .data⟩ (by simp) rfl)
          refine QJ.quiet (x := y) hsz hC hi hF (Slots.of (by rfl)) rfl ((wanted_of rfl rfl (show b.tmps[9]? = some (.bool true) from hF.up 3 9 rfl (hdeps ⟨3, .guard⟩ (by simp) rfl))).trans (by rfl)) ⟨hM.1, fun h => hM.2 (by rw [getD_setN (show 6 ≠ 9 by decide)] at h; exact h)⟩ ?_
          show _ = Result.ok (Next.value (.slice (some ⟨g, o, none⟩) ks.length ck)) v
          simp [execOp, go_sem, e11, y3]
        · cases ho
          have e12 : b.tmps[12]? = some (.slice (some ⟨g, o, none⟩) ks.length ck) := hF.up 6 12 rfl (hdeps ⟨6, .data⟩ (by simp) rfl)
          refine QJ.quiet (x := y) hsz hC hi hF (Slots.of (by rfl)) rfl ((wanted_of rfl rfl (show b.tmps[9]? = some (.bool true) from hF.up 3 9 rfl (hdeps ⟨3, .guard⟩ (by simp) rfl))).trans (by rfl)) ⟨hM.1, fun h => hM.2 (by rw [getD_setN (show 7 ≠ 9 by decide)] at h; exact h)⟩ ?_
          show _ = Result.ok (Next.value (.pointer (some ⟨g, o, none⟩))) v
          simp [execOp, go_sem, e12, hne0]
        · cases ho
          obtain ⟨y0, y1, y2, y3⟩ := HC0.out v (fun i hi => (hM.1.block i (by omega)).trans (HB0.out.block i hi))
          have e13 : b.tmps[13]? = some (.pointer (some ⟨g, o, none⟩)) := hF.up 7 13 rfl (hdeps ⟨7, .data⟩ (by simp) rfl)
          refine QJ.quiet (x := y) hsz hC hi hF (Slots.of (by rfl)) rfl ((wanted_of rfl rfl (show b.tmps[9]? = some (.bool true) from hF.up 3 9 rfl (hdeps ⟨3, .guard⟩ (by simp) rfl))).trans (by rfl)) ⟨hM.1, fun h => hM.2 (by rw [getD_setN (show 8 ≠ 9 by decide)] at h; exact h)⟩ ?_
          show _ = Result.ok (Next.value (.agg #[.int .i64 x0.k, .string x0.n, .slice x0.an x0.ln x0.cn, .slice x0.ak x0.lk x0.ck])) v
          simp [execOp, go_sem, e13, y0, y1, y2, y3]
        · cases ho
          have e10 : b.tmps[10]? = some (.agg #[.int .i64 c.k, .string c.n, .slice c.an c.ln c.cn, .slice c.ak c.lk c.ck, .slice a1 s.types.length c1, .slice a2 s.sigs.length c2]) := hF.up 4 10 rfl (hdeps ⟨4, .data⟩ (by simp) rfl)
          have e14 : b.tmps[14]? = some (.agg #[.int .i64 x0.k, .string x0.n, .slice x0.an x0.ln x0.cn, .slice x0.ak x0.lk x0.ck]) := hF.up 8 14 rfl (hdeps ⟨8, .data⟩ (by simp) rfl)
          refine QJ.call (x := y) (f := 71) (args := #[.agg #[.int .i64 c.k, .string c.n, .slice c.an c.ln c.cn, .slice c.ak c.lk c.ck, .slice a1 s.types.length c1, .slice a2 s.sigs.length c2], .agg #[.int .i64 x0.k, .string x0.n, .slice x0.an x0.ln x0.cn, .slice x0.ak x0.lk x0.ck]]) hsz hC hi hF (Slots.of (by rfl)) rfl ((wanted_of rfl rfl (show b.tmps[9]? = some (.bool true) from hF.up 3 9 rfl (hdeps ⟨3, .guard⟩ (by simp) rfl))).trans (by rfl)) (by simp [execOp, go_sem, e10, e14]) (Open_ref S s ks[0] x0 c a1 a2 us gs c1 c2 v (fun g hg => Nat.lt_of_lt_of_le (HSS.out g hg) (Nat.le_trans HB0.out.size hM.1.size)) (HV.out.keep (fun g hg => (hM.1.block g (by have := HSS.out g hg; omega)).trans (HB0.out.block g (HSS.out g hg)))) (HX0.out.keep (fun _ h => h) (fun g hg => (hM.1.block g (by have := HSS.out g hg; omega)).trans (HB0.out.block g (HSS.out g hg)))) hl) ?_
          rintro e w' ⟨y', rfl, hy', hb⟩
          exact ⟨y', rfl, fun j hj => match j, (show j ≠ 9 by rintro rfl; rw [hl1] at hj; cases hj) with | 0, _ => rfl | 1, _ => rfl | 2, _ => rfl | 3, _ => rfl | 4, _ => rfl | 5, _ => rfl | 6, _ => rfl | 7, _ => rfl | 8, _ => rfl | 9, h => absurd rfl h | 10, _ => rfl | 11, _ => rfl | 12, _ => rfl | _ + 13, _ => rfl, hM.1.trans (hb.mono hM.1.size), fun _ => by rw [← HK.out]; exact hy'.kindZ⟩
        · cases ho
          have hyk := hM.2 (hdeps ⟨9, .data⟩ (by simp) rfl)
          have e15 : b.tmps[15]? = some (.agg #[.int .i64 y.k, .string y.n, .slice y.an y.ln y.cn, .slice y.ak y.lk y.ck]) := hF.up 9 15 rfl (hdeps ⟨9, .data⟩ (by simp) rfl)
          refine QJ.quiet (x := y) hsz hC hi hF (Slots.of (by rfl)) rfl ((wanted_of rfl rfl (show b.tmps[9]? = some (.bool true) from hF.up 3 9 rfl (hdeps ⟨3, .guard⟩ (by simp) rfl))).trans (by rfl)) ⟨hM.1, fun h => hM.2 (by rw [getD_setN (show 10 ≠ 9 by decide)] at h; exact h)⟩ ?_
          show _ = Result.ok (Next.value (.int .i64 K)) v
          simp [execOp, go_sem, e15, hfld, hyk]
        · cases ho
          have e16 : b.tmps[16]? = some (.int .i64 K) := hF.up 10 16 rfl (hdeps ⟨10, .data⟩ (by simp) rfl)
          refine QJ.quiet (x := y) hsz hC hi hF (Slots.of (by rfl)) rfl ((wanted_of rfl rfl (show b.tmps[9]? = some (.bool true) from hF.up 3 9 rfl (hdeps ⟨3, .guard⟩ (by simp) rfl))).trans (by rfl)) ⟨hM.1, fun h => hM.2 (by rw [getD_setN (show 11 ≠ 9 by decide)] at h; exact h)⟩ ?_
          show _ = Result.ok (Next.value (.bool kb)) v
          simp [execOp, go_sem, e16, HKB.out]
        · cases ho
          have e9 : b.tmps[9]? = some (.bool true) := hF.up 3 9 rfl (hdeps ⟨3, .data⟩ (by simp) rfl)
          have e17 : b.tmps[17]? = some (.bool kb) := hF.up 11 17 rfl (hdeps ⟨11, .data⟩ (by simp) rfl)
          refine QJ.quiet (x := y) hsz hC hi hF (Slots.of (by rfl)) rfl (wanted_none rfl) ⟨hM.1, fun h => hM.2 (by rw [getD_setN (show 12 ≠ 9 by decide)] at h; exact h)⟩ ?_
          show _ = Result.ok (Next.value (.bool kb)) v
          simp [execOp, go_sem, e9, e17]
      · intro listed b W2 hJ hr
        obtain ⟨hsz, hC, y, hF, hM, -⟩ := hJ
        have hall := all_upB (by rfl) hsz hr
        have hb : b = putAll _ _ _ 13 := hF.done (Slots.of (by rfl)) hall
        subst hb
        simp only [putAll]
        simp [dstOf, Act.put]
        have hb2 := HB0.out.trans (hM.mono HB0.out.size)
        have hs2 := (hM.block w.heap.size (by omega)).trans HS0.out
        have ht2 := (hM.block (w.heap.size + 1) (by omega)).trans HT0.out
        have hz2 := hM.size
        have HB2 := Lib.hid hb2; have HS2 := Lib.hid hs2; have HT2 := Lib.hid ht2
        clear hM hF hC hall hr hsz hb2 hs2 ht2 HC0 hfld
        by_cases hK6 : K = 6
        · have hr2 : B = true := by rw [← HB.out, hK6]; rfl
          obtain rfl : kb = true := by rw [← HKB.out, hK6]; rfl
          have HRN := Lib.hid hr2
          clear hr2 hK6
          go_wp2
          go_ret
          exact ⟨ret_boolZ HRN.out.symm, HB2.out⟩
        · have hr2 : nestsR s.types (ks.drop 0) = B := by rw [← HB.out, show decide (K = 6) = false by simpa using hK6, Bool.false_or]; rfl
          obtain rfl : kb = false := by rw [← HKB.out, beq_eq_false_iff_ne]; exact hK6
          have HR2 := Lib.hid hr2
          clear hr2 hK6
          go_wp2_with fail
          go_loopw [5] (fun v5 wr => ∃ j, OpsR w #[.int .i64 c.k, .string c.n, .slice c.an c.ln c.cn, .slice c.ak c.lk c.ck, .slice a1 s.types.length c1, .slice a2 s.sigs.length c2] #[.int .i64 6, .string ⟨nm.toArray⟩, .slice an ns.length cn, .slice (some ⟨g, o, none⟩) ks.length ck] s.types B ks v5 wr j) (fun v5 _ => ks.length - (intOf v5).toNat)
          case atStart => exact ⟨0, rfl, Nat.zero_le _, HR2.out, HS2.out, HT2.out, by omega, HB2.out⟩
          case round =>
            obtain ⟨j, h⟩ := hrel
            obtain rfl := h.slot
            have hle := h.le
            have hzr := h.size
            obtain ⟨⟨t0, t1, t2, t3⟩, _⟩ := four_blk h.tbox
            have H := Lib.hid h
            clear h
            by_cases hj : j < ks.length
            · have hjz : (j : Int) < (ks.length : Int) := by omega
              have hj0 : (0 : Int) ≤ (j : Int) := by omega
              have hju : j < vs.length := by rw [HKL.out]; exact hj
              obtain ⟨g', o', e6, hg', hc⟩ := four_at HKR.out HSS.out j hju
              obtain ⟨rfl, rfl⟩ : g = g' ∧ o = o' := by cases e6; exact ⟨rfl, rfl⟩
              have hxv := HU.out j hj hju
              generalize vs[j] = xj at *
              have HCJ := Lib.hid hc; have HXJ := Lib.hid hxv
              have hrest := H.out.rest
              rw [nestsR_drop hj] at hrest
              have HRR := Lib.hid hrest
              clear hc hrest hxv
              go_wp2_with fail
              refine wp_region_by (QJ (fun (_ : Unit) i => match i with | 0 => .agg #[.int .i64 c.k, .string c.n, .slice c.an c.ln c.cn, .slice c.ak c.lk c.ck, .slice a1 s.types.length c1, .slice a2 s.sigs.length c2] | 1 => .pointer (some ⟨w.heap.size + 1, 3, none⟩) | 2 => .slice (some ⟨g, o, none⟩) ks.length ck | 3 => .int .i64 j | 4 => .pointer (some ⟨g, o + j * 4, none⟩) | 5 => .agg #[.int .i64 xj.k, .string xj.n, .slice xj.an xj.ln xj.cn, .slice xj.ak xj.lk xj.ck] | 6 => .bool (nestR s.types ks[j]) | _ => undef) (fun (_ : Unit) _ v => Below wr.heap.size wr v)) (by kernel_rfl) ?_ ?_ ?_
              · exact ⟨by simp, Closed.start _, (), Fr.start _ _ _, Below.drew (Below.refl _ _)⟩
              · intro listed b v q hJ hi
                obtain ⟨hsz, hC, x, hF, hM⟩ := hJ
                obtain ⟨hl1, hiN⟩ := not_up hsz hi
                obtain ⟨_, o, ho, hdeps⟩ := mem_ready.1 hi
                have hiN : q < 7 := hiN
                obtain rfl | rfl | rfl | rfl | rfl | rfl | rfl : q = 0 ∨ q = 1 ∨ q = 2 ∨ q = 3 ∨ q = 4 ∨ q = 5 ∨ q = 6 := by omega
                · cases ho
                  obtain ⟨⟨y0, y1, y2, y3, y4, y5⟩, _⟩ := six_blkF ((hM.block w.heap.size (by omega)).trans H.out.sbox)
                  have e2 := hF.old_is 2 (by rfl) rfl
                  refine QJ.quiet (x := x) hsz hC hi hF (Slots.of (by rfl)) rfl (wanted_none rfl) hM ?_
                  show _ = Result.ok (Next.value (.agg #[.int .i64 c.k, .string c.n, .slice c.an c.ln c.cn, .slice c.ak c.lk c.ck, .slice a1 s.types.length c1, .slice a2 s.sigs.length c2])) v
                  simp [execOp, go_sem, e2, y0, y1, y2, y3, y4, y5]
                · cases ho
                  have e3 := hF.old_is 3 (by rfl) rfl
                  refine QJ.quiet (x := x) hsz hC hi hF (Slots.of (by rfl)) rfl (wanted_none rfl) hM ?_
                  show _ = Result.ok (Next.value (.pointer (some ⟨w.heap.size + 1, 3, none⟩))) v
                  simp [execOp, go_sem, e3]
                · cases ho
                  obtain ⟨⟨y0, y1, y2, y3⟩, _⟩ := four_blk ((hM.block (w.heap.size + 1) (by omega)).trans H.out.tbox)
                  have e27 : b.tmps[27]? = some (.pointer (some ⟨w.heap.size + 1, 3, none⟩)) := hF.up 1 27 rfl (hdeps ⟨1, .data⟩ (by simp) rfl)
                  refine QJ.quiet (x := x) hsz hC hi hF (Slots.of (by rfl)) rfl (wanted_none rfl) hM ?_
                  show _ = Result.ok (Next.value (.slice (some ⟨g, o, none⟩) ks.length ck)) v
                  simp [execOp, go_sem, e27, y3]
                · cases ho
                  have e5 := hF.old_is 5 (by rfl) rfl
                  refine QJ.quiet (x := x) hsz hC hi hF (Slots.of (by rfl)) rfl (wanted_none rfl) hM ?_
                  show _ = Result.ok (Next.value (.int .i64 j)) v
                  simp [execOp, go_sem, e5]
                · cases ho
                  have e28 : b.tmps[28]? = some (.slice (some ⟨g, o, none⟩) ks.length ck) := hF.up 2 28 rfl (hdeps ⟨2, .data⟩ (by simp) rfl)
                  have e29 : b.tmps[29]? = some (.int .i64 j) := hF.up 3 29 rfl (hdeps ⟨3, .data⟩ (by simp) rfl)
                  refine QJ.quiet (x := x) hsz hC hi hF (Slots.of (by rfl)) rfl (wanted_none rfl) hM ?_
                  show _ = Result.ok (Next.value (.pointer (some ⟨g, o + j * 4, none⟩))) v
                  simp [execOp, go_sem, e28, e29, hj0, hjz]
                · cases ho
                  obtain ⟨y0, y1, y2, y3⟩ := HCJ.out v (fun i hi => (hM.block i (by omega)).trans (H.out.below.block i hi))
                  have e30 : b.tmps[30]? = some (.pointer (some ⟨g, o + j * 4, none⟩)) := hF.up 4 30 rfl (hdeps ⟨4, .data⟩ (by simp) rfl)
                  refine QJ.quiet (x := x) hsz hC hi hF (Slots.of (by rfl)) rfl (wanted_none rfl) hM ?_
                  show _ = Result.ok (Next.value (.agg #[.int .i64 xj.k, .string xj.n, .slice xj.an xj.ln xj.cn, .slice xj.ak xj.lk xj.ck])) v
                  simp [execOp, go_sem, e30, y0, y1, y2, y3]
                · cases ho
                  have e26 : b.tmps[26]? = some (.agg #[.int .i64 c.k, .string c.n, .slice c.an c.ln c.cn, .slice c.ak c.lk c.ck, .slice a1 s.types.length c1, .slice a2 s.sigs.length c2]) := hF.up 0 26 rfl (hdeps ⟨0, .data⟩ (by simp) rfl)
                  have e31 : b.tmps[31]? = some (.agg #[.int .i64 xj.k, .string xj.n, .slice xj.an xj.ln xj.cn, .slice xj.ak xj.lk xj.ck]) := hF.up 5 31 rfl (hdeps ⟨5, .data⟩ (by simp) rfl)
                  refine QJ.call (x := x) (f := 47) (args := #[.agg #[.int .i64 c.k, .string c.n, .slice c.an c.ln c.cn, .slice c.ak c.lk c.ck, .slice a1 s.types.length c1, .slice a2 s.sigs.length c2], .agg #[.int .i64 xj.k, .string xj.n, .slice xj.an xj.ln xj.cn, .slice xj.ak xj.lk xj.ck]]) hsz hC hi hF (Slots.of (by rfl)) rfl (wanted_none rfl) (by simp [execOp, go_sem, e26, e31]) (HIH.out j hj xj v (fun g hg => Nat.lt_of_lt_of_le (HSS.out g hg) (by have := hM.size; omega)) (HV.out.keep (fun g hg => (hM.block g (by have := HSS.out g hg; omega)).trans (H.out.below.block g (HSS.out g hg)))) (HXJ.out.keep (fun _ h => h) (fun g hg => (hM.block g (by have := HSS.out g hg; omega)).trans (H.out.below.block g (HSS.out g hg))))) ?_
                  rintro e w' ⟨rfl, hb⟩
                  exact ⟨(), rfl, fun _ _ => rfl, hM.trans (hb.mono hM.size)⟩
              · intro listed b W4 hJ hr
                obtain ⟨hsz, hC, x, hF, hM⟩ := hJ
                have hall := all_upB (by rfl) hsz hr
                have hb : b = putAll _ _ _ 7 := hF.done (Slots.of (by rfl)) hall
                subst hb
                simp only [putAll]
                simp [dstOf, Act.put]
                have hb4 := H.out.below.trans (hM.mono H.out.below.size)
                have hs4 := (hM.block w.heap.size (by omega)).trans H.out.sbox
                have ht4 := (hM.block (w.heap.size + 1) (by omega)).trans H.out.tbox
                have hz4 := hM.size
                have HB4 := Lib.hid hb4; have HS4 := Lib.hid hs4; have HT4 := Lib.hid ht4
                clear hM hF hC hall hr hsz hb4 hs4 ht4
                cases hne : nestR s.types ks[j]
                · have hr2 : nestsR s.types (ks.drop (j + 1)) = B := by have := HRR.out; rw [hne, Bool.false_or] at this; exact this
                  have HRN := Lib.hid hr2
                  clear hr2 hne
                  go_wp2
                  go_roundw
                  case rel => exact ⟨j + 1, by go_num, by omega, HRN.out, HS4.out, HT4.out, by omega, HB4.out⟩
                  case measure => simp [intOf]; omega
                · have hr2 : B = true := by have := HRR.out; rw [hne, Bool.true_or] at this; exact this.symm
                  have HRN := Lib.hid hr2
                  clear hr2 hne
                  go_wp2
                  go_ret
                  exact ⟨ret_boolZ HRN.out.symm, HB4.out⟩
            · have hjz : ¬ (j : Int) < (ks.length : Int) := by omega
              have hr2 : B = false := by rw [← H.out.rest, List.drop_of_length_le (by omega), nestsR]
              have HRN := Lib.hid hr2
              clear hr2
              go_wp2
              go_ret
              exact ⟨ret_boolZ HRN.out.symm, H.out.below⟩
    · have t6 : (k == 6) = false := by rw [beq_eq_false_iff_ne]; exact h6
      have hr2 : nestsR s.types (ks.drop 0) = B := by rw [← hB, show decide (k = 6) = false by simpa using h6, Bool.false_and, Bool.false_or]; rfl
      have HR2 := Lib.hid hr2
      clear hr2 hB hko
      obtain ⟨⟨p0, p1, p2, p3⟩, _⟩ := four_blk HT0.out
      go_enter Try.func47, Try.ntmps47
      go_upto_region 1 with fail
      rw [← HW0.out]
      go_quiet (fail)
      have HS2 : Hid (∀ nq : Nat, (W0.drewN nq).heap[w.heap.size]? = some (.cells #[.int .i64 c.k, .string c.n, .slice c.an c.ln c.cn, .slice c.ak c.lk c.ck, .slice a1 s.types.length c1, .slice a2 s.sigs.length c2] 29 (0, 0))) := fun _ => HS0.out
      have HT2 : Hid (∀ nq : Nat, (W0.drewN nq).heap[w.heap.size + 1]? = some (.cells #[.int .i64 k, .string ⟨nm.toArray⟩, .slice an ns.length cn, .slice ak ks.length ck] 25 (0, 0))) := fun _ => HT0.out
      have HB2 : Hid (∀ nq : Nat, Below w.heap.size w (W0.drewN nq)) := fun _ => below_dNZ HB0.out _
      have hz2 : ∀ nq : Nat, w.heap.size + 2 ≤ (W0.drewN nq).heap.size := fun _ => Nat.le_of_eq hz0.symm
      clear p0 p1 p2 p3
      go_wp2_with fail
      go_loopw [5] (fun v5 wr => ∃ j, OpsR w #[.int .i64 c.k, .string c.n, .slice c.an c.ln c.cn, .slice c.ak c.lk c.ck, .slice a1 s.types.length c1, .slice a2 s.sigs.length c2] #[.int .i64 k, .string ⟨nm.toArray⟩, .slice an ns.length cn, .slice ak ks.length ck] s.types B ks v5 wr j) (fun v5 _ => ks.length - (intOf v5).toNat)
      case atStart => exact ⟨0, rfl, Nat.zero_le _, HR2.out, HS2.out _, HT2.out _, hz2 _, HB2.out _⟩
      case round =>
        obtain ⟨j, h⟩ := hrel
        obtain rfl := h.slot
        have hle := h.le
        have hzr := h.size
        obtain ⟨⟨t0, t1, t2, t3⟩, _⟩ := four_blk h.tbox
        have H := Lib.hid h
        clear h
        by_cases hj : j < ks.length
        · have hjz : (j : Int) < (ks.length : Int) := by omega
          have hj0 : (0 : Int) ≤ (j : Int) := by omega
          have hju : j < vs.length := by rw [HKL.out]; exact hj
          obtain ⟨g, o, rfl, hg, hc⟩ := four_at HKR.out HSS.out j hju
          skip
          have hxv := HU.out j hj hju
          generalize vs[j] = xj at *
          have HCJ := Lib.hid hc; have HXJ := Lib.hid hxv
          have hrest := H.out.rest
          rw [nestsR_drop hj] at hrest
          have HRR := Lib.hid hrest
          clear hc hrest hxv
          go_wp2_with fail
          refine wp_region_by (QJ (fun (_ : Unit) i => match i with | 0 => .agg #[.int .i64 c.k, .string c.n, .slice c.an c.ln c.cn, .slice c.ak c.lk c.ck, .slice a1 s.types.length c1, .slice a2 s.sigs.length c2] | 1 => .pointer (some ⟨w.heap.size + 1, 3, none⟩) | 2 => .slice (some ⟨g, o, none⟩) ks.length ck | 3 => .int .i64 j | 4 => .pointer (some ⟨g, o + j * 4, none⟩) | 5 => .agg #[.int .i64 xj.k, .string xj.n, .slice xj.an xj.ln xj.cn, .slice xj.ak xj.lk xj.ck] | 6 => .bool (nestR s.types ks[j]) | _ => undef) (fun (_ : Unit) _ v => Below wr.heap.size wr v)) (by kernel_rfl) ?_ ?_ ?_
          · exact ⟨by simp, Closed.start _, (), Fr.start _ _ _, Below.drew (Below.refl _ _)⟩
          · intro listed b v q hJ hi
            obtain ⟨hsz, hC, x, hF, hM⟩ := hJ
            obtain ⟨hl1, hiN⟩ := not_up hsz hi
            obtain ⟨_, o, ho, hdeps⟩ := mem_ready.1 hi
            have hiN : q < 7 := hiN
            obtain rfl | rfl | rfl | rfl | rfl | rfl | rfl : q = 0 ∨ q = 1 ∨ q = 2 ∨ q = 3 ∨ q = 4 ∨ q = 5 ∨ q = 6 := by omega
            · cases ho
              obtain ⟨⟨y0, y1, y2, y3, y4, y5⟩, _⟩ := six_blkF ((hM.block w.heap.size (by omega)).trans H.out.sbox)
              have e2 := hF.old_is 2 (by rfl) rfl
              refine QJ.quiet (x := x) hsz hC hi hF (Slots.of (by rfl)) rfl (wanted_none rfl) hM ?_
              show _ = Result.ok (Next.value (.agg #[.int .i64 c.k, .string c.n, .slice c.an c.ln c.cn, .slice c.ak c.lk c.ck, .slice a1 s.types.length c1, .slice a2 s.sigs.length c2])) v
              simp [execOp, go_sem, e2, y0, y1, y2, y3, y4, y5]
            · cases ho
              have e3 := hF.old_is 3 (by rfl) rfl
              refine QJ.quiet (x := x) hsz hC hi hF (Slots.of (by rfl)) rfl (wanted_none rfl) hM ?_
              show _ = Result.ok (Next.value (.pointer (some ⟨w.heap.size + 1, 3, none⟩))) v
              simp [execOp, go_sem, e3]
            · cases ho
              obtain ⟨⟨y0, y1, y2, y3⟩, _⟩ := four_blk ((hM.block (w.heap.size + 1) (by omega)).trans H.out.tbox)
              have e27 : b.tmps[27]? = some (.pointer (some ⟨w.heap.size + 1, 3, none⟩)) := hF.up 1 27 rfl (hdeps ⟨1, .data⟩ (by simp) rfl)
              refine QJ.quiet (x := x) hsz hC hi hF (Slots.of (by rfl)) rfl (wanted_none rfl) hM ?_
              show _ = Result.ok (Next.value (.slice (some ⟨g, o, none⟩) ks.length ck)) v
              simp [execOp, go_sem, e27, y3]
            · cases ho
              have e5 := hF.old_is 5 (by rfl) rfl
              refine QJ.quiet (x := x) hsz hC hi hF (Slots.of (by rfl)) rfl (wanted_none rfl) hM ?_
              show _ = Result.ok (Next.value (.int .i64 j)) v
              simp [execOp, go_sem, e5]
            · cases ho
              have e28 : b.tmps[28]? = some (.slice (some ⟨g, o, none⟩) ks.length ck) := hF.up 2 28 rfl (hdeps ⟨2, .data⟩ (by simp) rfl)
              have e29 : b.tmps[29]? = some (.int .i64 j) := hF.up 3 29 rfl (hdeps ⟨3, .data⟩ (by simp) rfl)
              refine QJ.quiet (x := x) hsz hC hi hF (Slots.of (by rfl)) rfl (wanted_none rfl) hM ?_
              show _ = Result.ok (Next.value (.pointer (some ⟨g, o + j * 4, none⟩))) v
              simp [execOp, go_sem, e28, e29, hj0, hjz]
            · cases ho
              obtain ⟨y0, y1, y2, y3⟩ := HCJ.out v (fun i hi => (hM.block i (by omega)).trans (H.out.below.block i hi))
              have e30 : b.tmps[30]? = some (.pointer (some ⟨g, o + j * 4, none⟩)) := hF.up 4 30 rfl (hdeps ⟨4, .data⟩ (by simp) rfl)
              refine QJ.quiet (x := x) hsz hC hi hF (Slots.of (by rfl)) rfl (wanted_none rfl) hM ?_
              show _ = Result.ok (Next.value (.agg #[.int .i64 xj.k, .string xj.n, .slice xj.an xj.ln xj.cn, .slice xj.ak xj.lk xj.ck])) v
              simp [execOp, go_sem, e30, y0, y1, y2, y3]
            · cases ho
              have e26 : b.tmps[26]? = some (.agg #[.int .i64 c.k, .string c.n, .slice c.an c.ln c.cn, .slice c.ak c.lk c.ck, .slice a1 s.types.length c1, .slice a2 s.sigs.length c2]) := hF.up 0 26 rfl (hdeps ⟨0, .data⟩ (by simp) rfl)
              have e31 : b.tmps[31]? = some (.agg #[.int .i64 xj.k, .string xj.n, .slice xj.an xj.ln xj.cn, .slice xj.ak xj.lk xj.ck]) := hF.up 5 31 rfl (hdeps ⟨5, .data⟩ (by simp) rfl)
              refine QJ.call (x := x) (f := 47) (args := #[.agg #[.int .i64 c.k, .string c.n, .slice c.an c.ln c.cn, .slice c.ak c.lk c.ck, .slice a1 s.types.length c1, .slice a2 s.sigs.length c2], .agg #[.int .i64 xj.k, .string xj.n, .slice xj.an xj.ln xj.cn, .slice xj.ak xj.lk xj.ck]]) hsz hC hi hF (Slots.of (by rfl)) rfl (wanted_none rfl) (by simp [execOp, go_sem, e26, e31]) (HIH.out j hj xj v (fun g hg => Nat.lt_of_lt_of_le (HSS.out g hg) (by have := hM.size; omega)) (HV.out.keep (fun g hg => (hM.block g (by have := HSS.out g hg; omega)).trans (H.out.below.block g (HSS.out g hg)))) (HXJ.out.keep (fun _ h => h) (fun g hg => (hM.block g (by have := HSS.out g hg; omega)).trans (H.out.below.block g (HSS.out g hg))))) ?_
              rintro e w' ⟨rfl, hb⟩
              exact ⟨(), rfl, fun _ _ => rfl, hM.trans (hb.mono hM.size)⟩
          · intro listed b W4 hJ hr
            obtain ⟨hsz, hC, x, hF, hM⟩ := hJ
            have hall := all_upB (by rfl) hsz hr
            have hb : b = putAll _ _ _ 7 := hF.done (Slots.of (by rfl)) hall
            subst hb
            simp only [putAll]
            simp [dstOf, Act.put]
            have hb4 := H.out.below.trans (hM.mono H.out.below.size)
            have hs4 := (hM.block w.heap.size (by omega)).trans H.out.sbox
            have ht4 := (hM.block (w.heap.size + 1) (by omega)).trans H.out.tbox
            have hz4 := hM.size
            have HB4 := Lib.hid hb4; have HS4 := Lib.hid hs4; have HT4 := Lib.hid ht4
            clear hM hF hC hall hr hsz hb4 hs4 ht4
            cases hne : nestR s.types ks[j]
            · have hr2 : nestsR s.types (ks.drop (j + 1)) = B := by have := HRR.out; rw [hne, Bool.false_or] at this; exact this
              have HRN := Lib.hid hr2
              clear hr2 hne
              go_wp2
              go_roundw
              case rel => exact ⟨j + 1, by go_num, by omega, HRN.out, HS4.out, HT4.out, by omega, HB4.out⟩
              case measure => simp [intOf]; omega
            · have hr2 : B = true := by have := HRR.out; rw [hne, Bool.true_or] at this; exact this.symm
              have HRN := Lib.hid hr2
              clear hr2 hne
              go_wp2
              go_ret
              exact ⟨ret_boolZ HRN.out.symm, HB4.out⟩
        · have hjz : ¬ (j : Int) < (ks.length : Int) := by omega
          have hr2 : B = false := by rw [← H.out.rest, List.drop_of_length_le (by omega), nestsR]
          have HRN := Lib.hid hr2
          clear hr2
          go_wp2
          go_ret
          exact ⟨ret_boolZ HRN.out.symm, H.out.below⟩
theorem opts_all (S : Nat → Prop) (s : Sz) (c : C4) (a1 a2 : Option Addr) (us : List (List UInt8 × C4)) (gs : List (List UInt8 × G6)) (c1 c2 : Nat) (hl : s.types.length ≤ 1000000) : ∀ (N : Nat) (t : Tz), sizeZ t ≤ N → fitZ t = true → kidsOk t = true → OptP S s c a1 a2 us gs c1 c2 t
  | 0, .mk k n ns ks, h, _, _ => by simp only [sizeZ] at h; omega
  | N + 1, .mk k n ns ks, h, hf, hk => by
    obtain ⟨_, _, _, h4, h5⟩ := fitZ_mk hf
    have hk2 : kidsOks ks = true := by rw [kidsOk] at hk; simp only [Bool.and_eq_true] at hk; exact hk.2
    exact opts_step S s c a1 a2 us gs c1 c2 hl k n ns ks hk h4 fun i hi => opts_all S s c a1 a2 us gs c1 c2 hl N ks[i] (by have := sizeZ_mem ks i hi; simp only [sizeZ] at h; omega) (fitZs_mem ks h5 i hi) (kidsOks_mem ks hk2 i hi)
theorem opts_ref (S : Nat → Prop) (s : Sz) (c : C4) (a1 a2 : Option Addr) (us : List (List UInt8 × C4)) (gs : List (List UInt8 × G6)) (c1 c2 : Nat) (hl : s.types.length ≤ 1000000) (t : Tz) (hf : fitZ t = true) (hk : kidsOk t = true) : OptP S s c a1 a2 us gs c1 c2 t := opts_all S s c a1 a2 us gs c1 c2 hl _ t (Nat.le_refl _) hf hk
end Sp
end Go.Proofs.Ytjjpjkkaogfoaaa
