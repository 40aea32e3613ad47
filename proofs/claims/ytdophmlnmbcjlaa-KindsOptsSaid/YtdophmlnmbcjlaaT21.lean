/- A key's own texts. -/
import Derived.Test.YtdophmlnmbcjlaaT19
import Derived.Test.YtdophmlnmbcjlaaT20
import Derived.Deep.CutBlock
import Derived.Deep.DeepCutAuto
namespace Go.Proofs.Ytdophmlnmbcjlaa
open Go.RowKit
namespace Sp
open Sc
set_option maxRecDepth 100000
theorem clone_any (s : List UInt8) (w : World) (hs : s.length ≤ 1000) :
    Calls Try.prog 74 #[.string ⟨s.toArray⟩] w fun e w' => e = .returned (.string ⟨s.toArray⟩) ∧ Below w.heap.size w w' := by
  have HK := Try.stringslite_Clone ⟨s.toArray⟩
  have hs2 : (⟨s.toArray⟩ : ByteArray).size ≤ 281474976710656 := by simp [ByteArray.size]; omega
  go_enter Try.func74, Try.ntmps74
  go_wp2_with (go_at_call 94; refine (HK _ hs2).mono ?_; rintro e w1 ⟨rfl, hb⟩)
  go_ret
  exact ⟨rfl, by assumption⟩
/-- Nineteen cells of a block. -/
theorem key_blkF {w : World} {b : Nat} {t : TypeId} {v0 v1 v2 v3 v4 v5 v6 v7 v8 v9 v10 v11 v12 v13 v14 v15 v16 v17 v18 : Value} (h : w.heap[b]? = some (.cells #[v0, v1, v2, v3, v4, v5, v6, v7, v8, v9, v10, v11, v12, v13, v14, v15, v16, v17, v18] t (0, 0))) :
    (w.cell? ⟨b, 0, none⟩ = some v0 ∧ w.cell? ⟨b, 1, none⟩ = some v1 ∧ w.cell? ⟨b, 2, none⟩ = some v2 ∧ w.cell? ⟨b, 3, none⟩ = some v3 ∧ w.cell? ⟨b, 4, none⟩ = some v4 ∧ w.cell? ⟨b, 5, none⟩ = some v5 ∧ w.cell? ⟨b, 6, none⟩ = some v6 ∧ w.cell? ⟨b, 7, none⟩ = some v7 ∧ w.cell? ⟨b, 8, none⟩ = some v8 ∧ w.cell? ⟨b, 9, none⟩ = some v9 ∧ w.cell? ⟨b, 10, none⟩ = some v10 ∧ w.cell? ⟨b, 11, none⟩ = some v11 ∧ w.cell? ⟨b, 12, none⟩ = some v12 ∧ w.cell? ⟨b, 13, none⟩ = some v13 ∧ w.cell? ⟨b, 14, none⟩ = some v14 ∧ w.cell? ⟨b, 15, none⟩ = some v15 ∧ w.cell? ⟨b, 16, none⟩ = some v16 ∧ w.cell? ⟨b, 17, none⟩ = some v17 ∧ w.cell? ⟨b, 18, none⟩ = some v18) ∧
    (w.frozen? ⟨b, 0, none⟩ = false ∧ w.frozen? ⟨b, 1, none⟩ = false ∧ w.frozen? ⟨b, 2, none⟩ = false ∧ w.frozen? ⟨b, 3, none⟩ = false ∧ w.frozen? ⟨b, 4, none⟩ = false ∧ w.frozen? ⟨b, 5, none⟩ = false ∧ w.frozen? ⟨b, 6, none⟩ = false ∧ w.frozen? ⟨b, 7, none⟩ = false ∧ w.frozen? ⟨b, 8, none⟩ = false ∧ w.frozen? ⟨b, 9, none⟩ = false ∧ w.frozen? ⟨b, 10, none⟩ = false ∧ w.frozen? ⟨b, 11, none⟩ = false ∧ w.frozen? ⟨b, 12, none⟩ = false ∧ w.frozen? ⟨b, 13, none⟩ = false ∧ w.frozen? ⟨b, 14, none⟩ = false ∧ w.frozen? ⟨b, 15, none⟩ = false ∧ w.frozen? ⟨b, 16, none⟩ = false ∧ w.frozen? ⟨b, 17, none⟩ = false ∧ w.frozen? ⟨b, 18, none⟩ = false) := by
  refine ⟨⟨?_, ?_, ?_, ?_, ?_, ?_, ?_, ?_, ?_, ?_, ?_, ?_, ?_, ?_, ?_, ?_, ?_, ?_, ?_⟩, ⟨?_, ?_, ?_, ?_, ?_, ?_, ?_, ?_, ?_, ?_, ?_, ?_, ?_, ?_, ?_, ?_, ?_, ?_, ?_⟩⟩ <;> simp [World.cell?, World.frozen?, h]
/-- A place of eight texts. -/
theorem index8 (s : Nat → List UInt8) (j : Nat) (hj : j < 8) (w : World) : (Instr.index 88 (.agg #[.string ⟨(s 0).toArray⟩, .string ⟨(s 1).toArray⟩, .string ⟨(s 2).toArray⟩, .string ⟨(s 3).toArray⟩, .string ⟨(s 4).toArray⟩, .string ⟨(s 5).toArray⟩, .string ⟨(s 6).toArray⟩, .string ⟨(s 7).toArray⟩]) (.int .i64 (j : Nat))).run Try.prog w = .ok (.string ⟨(s j).toArray⟩) w := by
  match j, hj with
  | 0, _ => rfl
  | 1, _ => rfl
  | 2, _ => rfl
  | 3, _ => rfl
  | 4, _ => rfl
  | 5, _ => rfl
  | 6, _ => rfl
  | 7, _ => rfl
theorem cell8 {w : World} {b : Nat} {t : TypeId} {k sz : Int} {nm : List UInt8} {s : Nat → List UInt8} {i : Nat → Int} (h : w.heap[b]? = some (.cells #[.int .i64 k, .string ⟨nm.toArray⟩, .int .i64 sz, .string ⟨(s 0).toArray⟩, .string ⟨(s 1).toArray⟩, .string ⟨(s 2).toArray⟩, .string ⟨(s 3).toArray⟩, .string ⟨(s 4).toArray⟩, .string ⟨(s 5).toArray⟩, .string ⟨(s 6).toArray⟩, .string ⟨(s 7).toArray⟩, .int .i64 (i 0), .int .i64 (i 1), .int .i64 (i 2), .int .i64 (i 3), .int .i64 (i 4), .int .i64 (i 5), .int .i64 (i 6), .int .i64 (i 7)] t (0, 0))) (j : Nat) (hj : j < 8) :
    w.cell? ⟨b, 3 + j, none⟩ = some (.string ⟨(s j).toArray⟩) ∧ w.frozen? ⟨b, 3 + j, none⟩ = false := by
  refine ⟨?_, by simp [World.frozen?, h]⟩
  match j, hj with
  | 0, _ => simp [World.cell?, h]
  | 1, _ => simp [World.cell?, h]
  | 2, _ => simp [World.cell?, h]
  | 3, _ => simp [World.cell?, h]
  | 4, _ => simp [World.cell?, h]
  | 5, _ => simp [World.cell?, h]
  | 6, _ => simp [World.cell?, h]
  | 7, _ => simp [World.cell?, h]
/-- The slots of a round. -/
structure OwnR (w : World) (A Z : Array Value) (jv : Value) (wr : World) (j : Nat) : Prop where
  slot : jv = .int .i64 j
  le : j ≤ 8
  box : wr.heap[w.heap.size]? = some (.cells A 91 (0, 0))
  res : wr.heap[w.heap.size + 1]? = some (.cells Z 91 (0, 0))
  below : Below w.heap.size w wr
theorem infoKey : (Try.prog.info? 91).map (·.size) = some 19 := by kernel_rfl
theorem oneA {k sz : Int} {nm : List UInt8} {s : Nat → List UInt8} {i : Nat → Int} : ∀ v ∈ ([.int .i64 k, .string ⟨nm.toArray⟩, .int .i64 sz, .string ⟨(s 0).toArray⟩, .string ⟨(s 1).toArray⟩, .string ⟨(s 2).toArray⟩, .string ⟨(s 3).toArray⟩, .string ⟨(s 4).toArray⟩, .string ⟨(s 5).toArray⟩, .string ⟨(s 6).toArray⟩, .string ⟨(s 7).toArray⟩, .int .i64 (i 0), .int .i64 (i 1), .int .i64 (i 2), .int .i64 (i 3), .int .i64 (i 4), .int .i64 (i 5), .int .i64 (i 6), .int .i64 (i 7)] : List Value), v.oneCell' = true := by
  intro v hv
  simp only [List.mem_cons, List.not_mem_nil, or_false] at hv
  rcases hv with rfl | rfl | rfl | rfl | rfl | rfl | rfl | rfl | rfl | rfl | rfl | rfl | rfl | rfl | rfl | rfl | rfl | rfl | rfl <;> rfl
set_option maxHeartbeats 400000 in
theorem own_key (k sz : Int) (nm : List UInt8) (s : Nat → List UInt8) (i : Nat → Int) (w : World) (hn : nm.length ≤ 1000) (hs : ∀ j, (s j).length ≤ 1000) :
    Calls Try.prog 80 #[.agg #[.int .i64 k, .string ⟨nm.toArray⟩, .int .i64 sz, .string ⟨(s 0).toArray⟩, .string ⟨(s 1).toArray⟩, .string ⟨(s 2).toArray⟩, .string ⟨(s 3).toArray⟩, .string ⟨(s 4).toArray⟩, .string ⟨(s 5).toArray⟩, .string ⟨(s 6).toArray⟩, .string ⟨(s 7).toArray⟩, .int .i64 (i 0), .int .i64 (i 1), .int .i64 (i 2), .int .i64 (i 3), .int .i64 (i 4), .int .i64 (i 5), .int .i64 (i 6), .int .i64 (i 7)]] w fun e w' => e = .returned (.agg #[.int .i64 k, .string ⟨nm.toArray⟩, .int .i64 sz, .string ⟨(s 0).toArray⟩, .string ⟨(s 1).toArray⟩, .string ⟨(s 2).toArray⟩, .string ⟨(s 3).toArray⟩, .string ⟨(s 4).toArray⟩, .string ⟨(s 5).toArray⟩, .string ⟨(s 6).toArray⟩, .string ⟨(s 7).toArray⟩, .int .i64 (i 0), .int .i64 (i 1), .int .i64 (i 2), .int .i64 (i 3), .int .i64 (i 4), .int .i64 (i 5), .int .i64 (i 6), .int .i64 (i 7)]) ∧ Below w.heap.size w w' := by
  obtain ⟨W0, hW0⟩ : ∃ W0, W0 = (w.alloc (.cells #[.int .i64 k, .string ⟨nm.toArray⟩, .int .i64 sz, .string ⟨(s 0).toArray⟩, .string ⟨(s 1).toArray⟩, .string ⟨(s 2).toArray⟩, .string ⟨(s 3).toArray⟩, .string ⟨(s 4).toArray⟩, .string ⟨(s 5).toArray⟩, .string ⟨(s 6).toArray⟩, .string ⟨(s 7).toArray⟩, .int .i64 (i 0), .int .i64 (i 1), .int .i64 (i 2), .int .i64 (i 3), .int .i64 (i 4), .int .i64 (i 5), .int .i64 (i 6), .int .i64 (i 7)] 91)).alloc (.cells #[.int .i64 0, .string ⟨#[]⟩, .int .i64 0, .string ⟨#[]⟩, .string ⟨#[]⟩, .string ⟨#[]⟩, .string ⟨#[]⟩, .string ⟨#[]⟩, .string ⟨#[]⟩, .string ⟨#[]⟩, .string ⟨#[]⟩, .int .i64 0, .int .i64 0, .int .i64 0, .int .i64 0, .int .i64 0, .int .i64 0, .int .i64 0, .int .i64 0] 91) := ⟨_, rfl⟩
  have hb0 : Below w.heap.size w W0 := by rw [hW0]; exact ((Below.refl _ _).alloc (Nat.le_refl _) _).alloc (by simp) _
  have hz0 : W0.heap.size = w.heap.size + 2 := by rw [hW0]; simp
  have ha0 : W0.heap[w.heap.size]? = some (.cells #[.int .i64 k, .string ⟨nm.toArray⟩, .int .i64 sz, .string ⟨(s 0).toArray⟩, .string ⟨(s 1).toArray⟩, .string ⟨(s 2).toArray⟩, .string ⟨(s 3).toArray⟩, .string ⟨(s 4).toArray⟩, .string ⟨(s 5).toArray⟩, .string ⟨(s 6).toArray⟩, .string ⟨(s 7).toArray⟩, .int .i64 (i 0), .int .i64 (i 1), .int .i64 (i 2), .int .i64 (i 3), .int .i64 (i 4), .int .i64 (i 5), .int .i64 (i 6), .int .i64 (i 7)] 91 (0, 0)) := by rw [hW0, blk_if, if_neg (by simp), blk_if, if_pos rfl]
  have hc0 : W0.heap[w.heap.size + 1]? = some (.cells #[.int .i64 0, .string ⟨#[]⟩, .int .i64 0, .string ⟨#[]⟩, .string ⟨#[]⟩, .string ⟨#[]⟩, .string ⟨#[]⟩, .string ⟨#[]⟩, .string ⟨#[]⟩, .string ⟨#[]⟩, .string ⟨#[]⟩, .int .i64 0, .int .i64 0, .int .i64 0, .int .i64 0, .int .i64 0, .int .i64 0, .int .i64 0, .int .i64 0] 91 (0, 0)) := by rw [hW0, blk_if, if_pos (by simp)]
  obtain ⟨⟨-, a1, -⟩, _⟩ := key_blkF ha0
  have HW0 := Lib.hid hW0; have HB0 := Lib.hid hb0; have HA0 := Lib.hid ha0; have HC0 := Lib.hid hc0
  have C := fun W => clone_any nm W hn
  have D := fun j W => clone_any (s j) W (hs j)
  have HC := Lib.hid C; have HD := Lib.hid D
  clear hW0 hb0 ha0 hc0 C D hs
  go_enter Try.func80, Try.ntmps80
  go_upto_region 1 with fail
  rw [← HW0.out]
  go_upto_region 2 with (go_at_call 74; (refine (HC.out _).mono ?_); rintro e w1 ⟨rfl, x1⟩; have hz1 := x1.size; have ka := (x1.block w.heap.size (by omega)).trans HA0.out; have HK1 := Lib.hid ((x1.block (w.heap.size + 1) (by omega)).trans HC0.out); obtain ⟨⟨-, b1, -⟩, ⟨-, f1, -⟩⟩ := key_blkF ka; have HB1 := Lib.hid (HB0.out.trans (x1.mono (by omega))); have HKA := Lib.hid ka; clear ka x1)
  rw [setCell_same b1]
  obtain ⟨⟨b0, b1, b2, b3, b4, b5, b6, b7, b8, b9, b10, b11, b12, b13, b14, b15, b16, b17, b18⟩, _⟩ := key_blkF HKA.out
  go_wp2
  clear b0 b1 b2 b3 b4 b5 b6 b7 b8 b9 b10 b11 b12 b13 b14 b15 b16 b17 b18 f1 a1
  go_loopw [11] (fun jv wr => ∃ j, OwnR w #[.int .i64 k, .string ⟨nm.toArray⟩, .int .i64 sz, .string ⟨(s 0).toArray⟩, .string ⟨(s 1).toArray⟩, .string ⟨(s 2).toArray⟩, .string ⟨(s 3).toArray⟩, .string ⟨(s 4).toArray⟩, .string ⟨(s 5).toArray⟩, .string ⟨(s 6).toArray⟩, .string ⟨(s 7).toArray⟩, .int .i64 (i 0), .int .i64 (i 1), .int .i64 (i 2), .int .i64 (i 3), .int .i64 (i 4), .int .i64 (i 5), .int .i64 (i 6), .int .i64 (i 7)] #[.int .i64 0, .string ⟨#[]⟩, .int .i64 0, .string ⟨#[]⟩, .string ⟨#[]⟩, .string ⟨#[]⟩, .string ⟨#[]⟩, .string ⟨#[]⟩, .string ⟨#[]⟩, .string ⟨#[]⟩, .string ⟨#[]⟩, .int .i64 0, .int .i64 0, .int .i64 0, .int .i64 0, .int .i64 0, .int .i64 0, .int .i64 0, .int .i64 0] jv wr j) (fun jv _ => 8 - (intOf jv).toNat)
  case atStart => exact ⟨0, rfl, Nat.zero_le _, HKA.out, HK1.out, HB1.out⟩
  case round =>
    obtain ⟨j, h⟩ := hrel
    obtain rfl := h.slot
    have hle := h.le
    have hwz := h.below.size
    have hwl := (Array.getElem?_eq_some_iff.1 h.res).1
    have H := Lib.hid h
    clear h
    by_cases hj : j < 8
    · have hjz : (j : Int) < 8 := by omega
      have hj0 : (0 : Int) ≤ (j : Int) := by omega
      have hix := index8 s j hj wr
      have HCJ := Lib.hid (HD.out j)
      go_wp2_with (go_at_call 74; (refine (HCJ.out _).mono ?_); rintro e w2 ⟨rfl, x2⟩; have hz2 := x2.size; have ka := (x2.block w.heap.size (by omega)).trans H.out.box; have HC2 := Lib.hid ((x2.block (w.heap.size + 1) (by omega)).trans H.out.res); obtain ⟨g1, g2⟩ := cell8 ka j hj; have HB2 := Lib.hid (H.out.below.trans (x2.mono (by omega))); have HKA2 := Lib.hid ka; clear ka x2)
      rw [setCell_same g1]
      go_wp2
      go_roundw
      case rel => exact ⟨j + 1, by go_num, by omega, HKA2.out, HC2.out, HB2.out⟩
      case measure => simp [intOf]; omega
    · obtain rfl : j = 8 := by omega
      have RA := Lib.hid (rangeAt_blk (cs := [.int .i64 k, .string ⟨nm.toArray⟩, .int .i64 sz, .string ⟨(s 0).toArray⟩, .string ⟨(s 1).toArray⟩, .string ⟨(s 2).toArray⟩, .string ⟨(s 3).toArray⟩, .string ⟨(s 4).toArray⟩, .string ⟨(s 5).toArray⟩, .string ⟨(s 6).toArray⟩, .string ⟨(s 7).toArray⟩, .int .i64 (i 0), .int .i64 (i 1), .int .i64 (i 2), .int .i64 (i 3), .int .i64 (i 4), .int .i64 (i 5), .int .i64 (i 6), .int .i64 (i 7)]) H.out.box)
      have TH := Lib.hid (there_blk H.out.res)
      have HE := Lib.hid (setCells_blk (cs := [.int .i64 k, .string ⟨nm.toArray⟩, .int .i64 sz, .string ⟨(s 0).toArray⟩, .string ⟨(s 1).toArray⟩, .string ⟨(s 2).toArray⟩, .string ⟨(s 3).toArray⟩, .string ⟨(s 4).toArray⟩, .string ⟨(s 5).toArray⟩, .string ⟨(s 6).toArray⟩, .string ⟨(s 7).toArray⟩, .int .i64 (i 0), .int .i64 (i 1), .int .i64 (i 2), .int .i64 (i 3), .int .i64 (i 4), .int .i64 (i 5), .int .i64 (i 6), .int .i64 (i 7)]) H.out.res rfl)
      have HB := Lib.hid (setCells_below (w := w) (w.heap.size + 1) (Nat.le_succ _) [.int .i64 k, .string ⟨nm.toArray⟩, .int .i64 sz, .string ⟨(s 0).toArray⟩, .string ⟨(s 1).toArray⟩, .string ⟨(s 2).toArray⟩, .string ⟨(s 3).toArray⟩, .string ⟨(s 4).toArray⟩, .string ⟨(s 5).toArray⟩, .string ⟨(s 6).toArray⟩, .string ⟨(s 7).toArray⟩, .int .i64 (i 0), .int .i64 (i 1), .int .i64 (i 2), .int .i64 (i 3), .int .i64 (i 4), .int .i64 (i 5), .int .i64 (i 6), .int .i64 (i 7)] 0 wr H.out.below)
      have hes := setCells_size (w.heap.size + 1) [.int .i64 k, .string ⟨nm.toArray⟩, .int .i64 sz, .string ⟨(s 0).toArray⟩, .string ⟨(s 1).toArray⟩, .string ⟨(s 2).toArray⟩, .string ⟨(s 3).toArray⟩, .string ⟨(s 4).toArray⟩, .string ⟨(s 5).toArray⟩, .string ⟨(s 6).toArray⟩, .string ⟨(s 7).toArray⟩, .int .i64 (i 0), .int .i64 (i 1), .int .i64 (i 2), .int .i64 (i 3), .int .i64 (i 4), .int .i64 (i 5), .int .i64 (i 6), .int .i64 (i 7)] 0 wr
      go_upto_region 7 with fail
      refine wp_region_lit ?_
      refine wpList_load_mid rfl 91 _ rfl w.heap.size 0 rfl [.int .i64 k, .string ⟨nm.toArray⟩, .int .i64 sz, .string ⟨(s 0).toArray⟩, .string ⟨(s 1).toArray⟩, .string ⟨(s 2).toArray⟩, .string ⟨(s 3).toArray⟩, .string ⟨(s 4).toArray⟩, .string ⟨(s 5).toArray⟩, .string ⟨(s 6).toArray⟩, .string ⟨(s 7).toArray⟩, .int .i64 (i 0), .int .i64 (i 1), .int .i64 (i 2), .int .i64 (i 3), .int .i64 (i 4), .int .i64 (i 5), .int .i64 (i 6), .int .i64 (i 7)] _ RA.out Try.underlying91 rfl infoKey ?_
      refine wpList_store_mid rfl 91 _ _ rfl (w.heap.size + 1) 0 #[.int .i64 k, .string ⟨nm.toArray⟩, .int .i64 sz, .string ⟨(s 0).toArray⟩, .string ⟨(s 1).toArray⟩, .string ⟨(s 2).toArray⟩, .string ⟨(s 3).toArray⟩, .string ⟨(s 4).toArray⟩, .string ⟨(s 5).toArray⟩, .string ⟨(s 6).toArray⟩, .string ⟨(s 7).toArray⟩, .int .i64 (i 0), .int .i64 (i 1), .int .i64 (i 2), .int .i64 (i 3), .int .i64 (i 4), .int .i64 (i 5), .int .i64 (i 6), .int .i64 (i 7)] rfl rfl TH.out infoKey (all_oneCell_toArray oneA) ?_
      refine wpList_nil ?_
      obtain ⟨wE, hwE⟩ : ∃ wE, wE = wr.setCells (w.heap.size + 1) 0 [.int .i64 k, .string ⟨nm.toArray⟩, .int .i64 sz, .string ⟨(s 0).toArray⟩, .string ⟨(s 1).toArray⟩, .string ⟨(s 2).toArray⟩, .string ⟨(s 3).toArray⟩, .string ⟨(s 4).toArray⟩, .string ⟨(s 5).toArray⟩, .string ⟨(s 6).toArray⟩, .string ⟨(s 7).toArray⟩, .int .i64 (i 0), .int .i64 (i 1), .int .i64 (i 2), .int .i64 (i 3), .int .i64 (i 4), .int .i64 (i 5), .int .i64 (i 6), .int .i64 (i 7)] := ⟨_, rfl⟩
      rw [← hwE] at HE HB hes
      rw [show ([.int .i64 k, .string ⟨nm.toArray⟩, .int .i64 sz, .string ⟨(s 0).toArray⟩, .string ⟨(s 1).toArray⟩, .string ⟨(s 2).toArray⟩, .string ⟨(s 3).toArray⟩, .string ⟨(s 4).toArray⟩, .string ⟨(s 5).toArray⟩, .string ⟨(s 6).toArray⟩, .string ⟨(s 7).toArray⟩, .int .i64 (i 0), .int .i64 (i 1), .int .i64 (i 2), .int .i64 (i 3), .int .i64 (i 4), .int .i64 (i 5), .int .i64 (i 6), .int .i64 (i 7)] : List Value).toArray.toList = [.int .i64 k, .string ⟨nm.toArray⟩, .int .i64 sz, .string ⟨(s 0).toArray⟩, .string ⟨(s 1).toArray⟩, .string ⟨(s 2).toArray⟩, .string ⟨(s 3).toArray⟩, .string ⟨(s 4).toArray⟩, .string ⟨(s 5).toArray⟩, .string ⟨(s 6).toArray⟩, .string ⟨(s 7).toArray⟩, .int .i64 (i 0), .int .i64 (i 1), .int .i64 (i 2), .int .i64 (i 3), .int .i64 (i 4), .int .i64 (i 5), .int .i64 (i 6), .int .i64 (i 7)] from rfl, ← hwE]
      clear hwE RA TH
      simp only [Act.put]
      go_wp2
      have hl := run_loadVar_mid (P := Try.prog) wE (w.heap.size + 1) 0 91 [.int .i64 k, .string ⟨nm.toArray⟩, .int .i64 sz, .string ⟨(s 0).toArray⟩, .string ⟨(s 1).toArray⟩, .string ⟨(s 2).toArray⟩, .string ⟨(s 3).toArray⟩, .string ⟨(s 4).toArray⟩, .string ⟨(s 5).toArray⟩, .string ⟨(s 6).toArray⟩, .string ⟨(s 7).toArray⟩, .int .i64 (i 0), .int .i64 (i 1), .int .i64 (i 2), .int .i64 (i 3), .int .i64 (i 4), .int .i64 (i 5), .int .i64 (i 6), .int .i64 (i 7)] _ (rangeAt_blk HE.out) Try.underlying91 rfl infoKey
      refine bodyPost_ret (v := .agg #[.int .i64 k, .string ⟨nm.toArray⟩, .int .i64 sz, .string ⟨(s 0).toArray⟩, .string ⟨(s 1).toArray⟩, .string ⟨(s 2).toArray⟩, .string ⟨(s 3).toArray⟩, .string ⟨(s 4).toArray⟩, .string ⟨(s 5).toArray⟩, .string ⟨(s 6).toArray⟩, .string ⟨(s 7).toArray⟩, .int .i64 (i 0), .int .i64 (i 1), .int .i64 (i 2), .int .i64 (i 3), .int .i64 (i 4), .int .i64 (i 5), .int .i64 (i 6), .int .i64 (i 7)]) ?_ rfl ⟨rfl, HB.out⟩
      simp [results, Try.results80, asAddr, hl]
end Sp
end Go.Proofs.Ytdophmlnmbcjlaa
