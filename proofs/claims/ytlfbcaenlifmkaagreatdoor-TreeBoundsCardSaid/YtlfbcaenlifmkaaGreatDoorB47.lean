/- What the laws of chapter 7 share: known, within. -/
import Derived.Test.YtlfbcaenlifmkaaGreatDoorB46
import Derived.KernelRfl
namespace Go.Proofs.YtlfbcaenlifmkaaGreatDoor
open Go.RowKit
namespace Tr
open Sc Sh Sp
theorem len_two {α : Type} : ∀ {l : List α}, l.length = 2 → ∃ a b, l = [a, b]
  | [a, b], _ => ⟨a, b, rfl⟩
  | [], h => by simp at h
  | [_], h => by simp at h
  | _ :: _ :: _ :: _, h => by simp at h
def srcK : List UInt8 := [97, 32, 123, 123, 105, 102, 32, 46, 120, 125, 125, 98, 123, 123, 101, 110, 100, 125, 125]
def nd1 : Nd := .mk 1 0 [97, 32] [] [] [] [] false []
def nd2 : Nd := .mk 5 2 [] [] [[.mk 1 [] [[120]] [] 0 false []]] [.mk 1 11 [98] [] [] [] [] false []] [] false []
theorem known_is : parseL srcK = ([([], [nd1, nd2])], 0, 0) := by kernel_rfl
theorem known_parts : Tx.splitL srcK = (0, [⟨false, [97, 32], 0⟩, ⟨true, [105, 102, 32, 46, 120], 2⟩, ⟨false, [98], 11⟩, ⟨true, [101, 110, 100], 12⟩]) := by kernel_rfl
theorem known_if : (actionL [105, 102, 32, 46, 120]).1.kind = 5 := by kernel_rfl
theorem known_end : (actionL [101, 110, 100]).1.kind = -2 := by kernel_rfl
theorem known_simp : Simp srcK := by
  unfold Simp
  rw [known_parts]
  intro p hp ha he
  simp only [List.mem_cons, List.not_mem_nil, or_false] at hp
  rcases hp with rfl | rfl | rfl | rfl
  · cases ha
  · rw [known_if]; unfold SimpK; omega
  · cases ha
  · rw [known_end]; unfold SimpK; omega
set_option maxRecDepth 100000 in
set_option maxHeartbeats 2000000 in
theorem known_any (w : World) (hL : Lean w) (hM : Tx.MaxTab w) : Calls Tryz.prog 15 #[] w fun e w' => e = .returned (.bool true) ∧ Below w.heap.size w w' := by
  have CP := Parse_any ⟨srcK.toArray⟩ w (by show srcK.length ≤ maxLen; unfold maxLen; decide) hL hM known_simp
  rw [show (⟨srcK.toArray⟩ : ByteArray).data.toList = srcK from rfl, known_is] at CP
  have HP := Lib.hid CP
  clear CP hL hM
  unfold srcK at HP
  go_enter Tryz.func15, Tryz.ntmps15
  go_upto_region 2 with (go_at_call 24; (refine HP.out.mono ?_); rintro e w1 ⟨a, us, k, rfl, b1, ht⟩; have B1 := Lib.hid b1; have HT := Lib.hid ht; clear b1 ht)
  obtain ⟨t1, t2, t3⟩ := HT.out
  obtain ⟨u, rfl⟩ : ∃ u, us = [u] := by
    have := congrArg List.length t1; simp at this
    exact List.length_eq_one_iff.1 this
  obtain ⟨ga, rfl, -, hca⟩ : ∃ g, a = some ⟨g, 0, none⟩ ∧ True ∧ ∀ j v, ([u].flatMap TpU.cells)[j]? = some v → w1.cell? ⟨g, j, none⟩ = some v := by
    rcases t2 with h | ⟨g, h1, h2, h3⟩
    · cases h
    · exact ⟨g, h1, trivial, h3⟩
  obtain ⟨tv1, tv2⟩ := t3 u (by simp)
  have hul : u.l.map (·.1) = [nd1, nd2] := by
    have : TpU.is u = ([], [nd1, nd2]) := by simpa using t1
    exact congrArg Prod.snd this
  obtain ⟨y1, y2, hy⟩ : ∃ y1 y2, u.l = [y1, y2] := by
    have := congrArg List.length hul; simp at this
    exact len_two this
  rw [hy] at hul tv1 tv2
  have hy2 : y2.1 = nd2 := by have := hul; simp at this; exact this.2
  obtain ⟨gb, hgb, -, hcb⟩ : ∃ g, u.a = some ⟨g, 0, none⟩ ∧ True ∧ ∀ j v, ([y1, y2].flatMap enc9)[j]? = some v → w1.cell? ⟨g, j, none⟩ = some v := by
    rcases tv1 with h | ⟨g, h1, h2, h3⟩
    · cases h
    · exact ⟨g, h1, trivial, h3⟩
  have hn2 := tv2 y2 (by simp)
  rw [hy2] at hn2
  have c1 : w1.cell? ⟨ga, 1, none⟩ = some (.slice (some ⟨gb, 0, none⟩) 2 u.c) := by
    have := hca 1 (.slice u.a u.l.length u.c) rfl
    rw [hgb, hy] at this; exact this
  have d0 : w1.cell? ⟨gb, 9, none⟩ = some (.int .i64 y2.2.k) := hcb 9 _ rfl
  have d5 : w1.cell? ⟨gb, 14, none⟩ = some (.slice y2.2.ba y2.2.bl y2.2.bc) := hcb 14 _ rfl
  obtain ⟨hk, hbl⟩ : y2.2.k = 5 ∧ y2.2.bl = 1 := by
    cases hn2 with
    | mk _ _ hk ht hs hn hh us hp hpl bs hb hbl =>
      refine ⟨hk, ?_⟩
      rw [hbl]
      have := congrArg List.length hb
      simpa [nd2, Nd.body] using this
  rw [hk] at d0
  rw [hbl] at d5
  clear t1 t2 t3 hca tv1 tv2 hul hcb hn2 hy hy2 hgb hk hbl HT
  go_wp2
  go_ret
  exact ⟨rfl, B1.out⟩
set_option maxHeartbeats 400000 in
/-- within: the remainder from 0 on. -/
theorem within_any (a n : Int) (w : World) (hn : 0 < n) (hn2 : n ≤ 1000000) (h1 : -9223372036854775808 ≤ a) (h2 : a ≤ 9223372036854775807) :
    Calls Tryz.prog 23 #[.int .i64 a, .int .i64 n] w fun e w' => e = .returned (.int .i64 (a % n)) ∧ w = w' := by
  have hb1 := Int.emod_nonneg a (show n ≠ 0 by omega)
  have hb2 := Int.emod_lt_of_pos a hn
  by_cases h0 : 0 ≤ a
  · go_enter Tryz.func23, Tryz.ntmps23
    go_wp2
    go_ret
    exact ⟨rfl, rfl⟩
  · have ht : a.tmod n = a % n - if 0 ≤ a ∨ n ∣ a then 0 else (n.natAbs : Int) := by rw [Int.tmod_eq_emod]; split <;> rfl
    by_cases hd : n ∣ a
    · have e0 : a % n = 0 := Int.emod_eq_zero_of_dvd hd
      rw [if_pos (Or.inr hd), e0] at ht
      rw [e0]
      clear hd e0
      have l1 : 0 ≤ a.tmod n := by omega
      have l2 : a.tmod n ≤ 0 := by omega
      clear hb1 hb2
      have HT := Lib.hid ht; clear ht
      go_enter Tryz.func23, Tryz.ntmps23
      go_wp2
      go_ret
      exact ⟨ret_int (by have := HT.out; omega), rfl⟩
    · rw [if_neg (fun h => h.elim h0 hd)] at ht
      have e0 : 0 < a % n := by
        rcases Int.lt_or_eq_of_le hb1 with h | h
        · exact h
        · exact absurd (Int.dvd_of_emod_eq_zero h.symm) hd
      have l1 : a.tmod n < 0 := by omega
      have l2 : -n < a.tmod n := by omega
      have l3 : a.tmod n + n = a % n := by omega
      clear hb1 hb2 ht hd e0
      have HT := Lib.hid l3; clear l3
      go_enter Tryz.func23, Tryz.ntmps23
      go_wp2
      go_ret
      exact ⟨ret_int (by have := HT.out; omega), rfl⟩
end Tr
end Go.Proofs.YtlfbcaenlifmkaaGreatDoor
