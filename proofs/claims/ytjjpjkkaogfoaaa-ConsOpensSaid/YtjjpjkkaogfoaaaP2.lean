/- Tree: plain kinds. Written by gen_wtree.py. -/
import Derived.Test.YtjjpjkkaogfoaaaP1
import Derived.Test.YtjjpjkkaogfoaaaWFewAll
namespace Go.Proofs.Ytjjpjkkaogfoaaa
open Go.RowKit
namespace Sp
open Sc

set_option maxRecDepth 100000 in
set_option maxHeartbeats 8000000 in
theorem tree_0a (d : Nat) (_hd : d ≤ 1000) (kd n : Int) (ns : List Int) (ks : List Rw) (c : R4) (names : List (List UInt8)) (na : Option Addr) (nc : Nat) (w : World) (hV : RwV w (.mk kd n ns ks) c) (_hnl : names.length ≤ 1000) (hk0 : kd % 9 = 0) (hd1 : (d : Int) ≤ 1) :
    Calls Try.prog 22 #[.agg #[.int .i64 c.k, .int .i64 c.n, .slice c.an c.ln c.cn, .slice c.ak c.lk c.ck], .int .i64 d, .slice na names.length nc] w (TreeP (treeR names d (.mk kd n ns ks)) w) := by
  have hT : topK names.length d kd = 1 := by unfold topK; rw [hk0]; exact if_neg (by omega)
  rw [treeR_leaf names d kd n ns ks (by omega), hT]
  cases hV with
  | mk _ _ _ _ an cn ak ck us hk hn hii hln hlk hl ha hb hu =>
    obtain ⟨hkl, hkh⟩ := hk
    have HK0 := Lib.hid hk0
    clear hu hb ha hii hl hT hk0
    go_enter Try.func22, Try.ntmps22
    go_wp2_with (go_at_call 50; (with_reducible refine (within3_is _ _ _ _ (by omega) (by omega) hkl hkh HK0.out).mono ?_); rintro e w2 ⟨rfl, rfl⟩)
    refine bodyPost_ret (v := .agg #[.int .i64 1, .string ⟨#[]⟩, .slice none 0 0, .slice none 0 0]) (by simp [results, Try.results22, go_sem]) rfl ?_
    exact ⟨⟨1, ⟨#[]⟩, none, 0, 0, none, 0, 0⟩, rfl, TzV.leaf _ _ 1 [], (((Below.refl _ _).alloc (Nat.le_refl _) _).alloc (by simp) _).alloc (by simp; omega) _⟩

set_option maxRecDepth 100000 in
set_option maxHeartbeats 8000000 in
theorem tree_0b (d : Nat) (_hd : d ≤ 1000) (kd n : Int) (ns : List Int) (ks : List Rw) (c : R4) (names : List (List UInt8)) (na : Option Addr) (nc : Nat) (w : World) (hV : RwV w (.mk kd n ns ks) c) (_hnl : names.length ≤ 1000) (hk0 : kd % 9 = 0) (hd1 : ¬ (d : Int) ≤ 1) :
    Calls Try.prog 22 #[.agg #[.int .i64 c.k, .int .i64 c.n, .slice c.an c.ln c.cn, .slice c.ak c.lk c.ck], .int .i64 d, .slice na names.length nc] w (TreeP (treeR names d (.mk kd n ns ks)) w) := by
  have hT : topK names.length d kd = 1 := by unfold topK; rw [hk0]; exact if_neg (by omega)
  rw [treeR_leaf names d kd n ns ks (by omega), hT]
  cases hV with
  | mk _ _ _ _ an cn ak ck us hk hn hii hln hlk hl ha hb hu =>
    obtain ⟨hkl, hkh⟩ := hk
    have HK0 := Lib.hid hk0
    clear hu hb ha hii hl hT hk0
    go_enter Try.func22, Try.ntmps22
    go_wp2_with (go_at_call 50; (with_reducible refine (within3_is _ _ _ _ (by omega) (by omega) hkl hkh HK0.out).mono ?_); rintro e w2 ⟨rfl, rfl⟩)
    refine bodyPost_ret (v := .agg #[.int .i64 1, .string ⟨#[]⟩, .slice none 0 0, .slice none 0 0]) (by simp [results, Try.results22, go_sem]) rfl ?_
    exact ⟨⟨1, ⟨#[]⟩, none, 0, 0, none, 0, 0⟩, rfl, TzV.leaf _ _ 1 [], (((Below.refl _ _).alloc (Nat.le_refl _) _).alloc (by simp) _).alloc (by simp; omega) _⟩

set_option maxRecDepth 100000 in
set_option maxHeartbeats 8000000 in
theorem tree_1a (d : Nat) (_hd : d ≤ 1000) (kd n : Int) (ns : List Int) (ks : List Rw) (c : R4) (names : List (List UInt8)) (na : Option Addr) (nc : Nat) (w : World) (hV : RwV w (.mk kd n ns ks) c) (_hnl : names.length ≤ 1000) (hk0 : kd % 9 = 1) (hd1 : (d : Int) ≤ 1) :
    Calls Try.prog 22 #[.agg #[.int .i64 c.k, .int .i64 c.n, .slice c.an c.ln c.cn, .slice c.ak c.lk c.ck], .int .i64 d, .slice na names.length nc] w (TreeP (treeR names d (.mk kd n ns ks)) w) := by
  have hT : topK names.length d kd = 2 := by unfold topK; rw [hk0]; exact if_neg (by omega)
  rw [treeR_leaf names d kd n ns ks (by omega), hT]
  cases hV with
  | mk _ _ _ _ an cn ak ck us hk hn hii hln hlk hl ha hb hu =>
    obtain ⟨hkl, hkh⟩ := hk
    have HK0 := Lib.hid hk0
    clear hu hb ha hii hl hT hk0
    go_enter Try.func22, Try.ntmps22
    go_wp2_with (go_at_call 50; (with_reducible refine (within3_is _ _ _ _ (by omega) (by omega) hkl hkh HK0.out).mono ?_); rintro e w2 ⟨rfl, rfl⟩)
    refine bodyPost_ret (v := .agg #[.int .i64 2, .string ⟨#[]⟩, .slice none 0 0, .slice none 0 0]) (by simp [results, Try.results22, go_sem]) rfl ?_
    exact ⟨⟨2, ⟨#[]⟩, none, 0, 0, none, 0, 0⟩, rfl, TzV.leaf _ _ 2 [], (((Below.refl _ _).alloc (Nat.le_refl _) _).alloc (by simp) _).alloc (by simp; omega) _⟩

set_option maxRecDepth 100000 in
set_option maxHeartbeats 8000000 in
theorem tree_1b (d : Nat) (_hd : d ≤ 1000) (kd n : Int) (ns : List Int) (ks : List Rw) (c : R4) (names : List (List UInt8)) (na : Option Addr) (nc : Nat) (w : World) (hV : RwV w (.mk kd n ns ks) c) (_hnl : names.length ≤ 1000) (hk0 : kd % 9 = 1) (hd1 : ¬ (d : Int) ≤ 1) :
    Calls Try.prog 22 #[.agg #[.int .i64 c.k, .int .i64 c.n, .slice c.an c.ln c.cn, .slice c.ak c.lk c.ck], .int .i64 d, .slice na names.length nc] w (TreeP (treeR names d (.mk kd n ns ks)) w) := by
  have hT : topK names.length d kd = 2 := by unfold topK; rw [hk0]; exact if_neg (by omega)
  rw [treeR_leaf names d kd n ns ks (by omega), hT]
  cases hV with
  | mk _ _ _ _ an cn ak ck us hk hn hii hln hlk hl ha hb hu =>
    obtain ⟨hkl, hkh⟩ := hk
    have HK0 := Lib.hid hk0
    clear hu hb ha hii hl hT hk0
    go_enter Try.func22, Try.ntmps22
    go_wp2_with (go_at_call 50; (with_reducible refine (within3_is _ _ _ _ (by omega) (by omega) hkl hkh HK0.out).mono ?_); rintro e w2 ⟨rfl, rfl⟩)
    refine bodyPost_ret (v := .agg #[.int .i64 2, .string ⟨#[]⟩, .slice none 0 0, .slice none 0 0]) (by simp [results, Try.results22, go_sem]) rfl ?_
    exact ⟨⟨2, ⟨#[]⟩, none, 0, 0, none, 0, 0⟩, rfl, TzV.leaf _ _ 2 [], (((Below.refl _ _).alloc (Nat.le_refl _) _).alloc (by simp) _).alloc (by simp; omega) _⟩

set_option maxRecDepth 100000 in
set_option maxHeartbeats 8000000 in
theorem tree_2a (d : Nat) (_hd : d ≤ 1000) (kd n : Int) (ns : List Int) (ks : List Rw) (c : R4) (names : List (List UInt8)) (na : Option Addr) (nc : Nat) (w : World) (hV : RwV w (.mk kd n ns ks) c) (_hnl : names.length ≤ 1000) (hk0 : kd % 9 = 2) (hd1 : (d : Int) ≤ 1) :
    Calls Try.prog 22 #[.agg #[.int .i64 c.k, .int .i64 c.n, .slice c.an c.ln c.cn, .slice c.ak c.lk c.ck], .int .i64 d, .slice na names.length nc] w (TreeP (treeR names d (.mk kd n ns ks)) w) := by
  have hT : topK names.length d kd = 3 := by unfold topK; rw [hk0]; exact if_neg (by omega)
  rw [treeR_leaf names d kd n ns ks (by omega), hT]
  cases hV with
  | mk _ _ _ _ an cn ak ck us hk hn hii hln hlk hl ha hb hu =>
    obtain ⟨hkl, hkh⟩ := hk
    have HK0 := Lib.hid hk0
    clear hu hb ha hii hl hT hk0
    go_enter Try.func22, Try.ntmps22
    go_wp2_with (go_at_call 50; (with_reducible refine (within3_is _ _ _ _ (by omega) (by omega) hkl hkh HK0.out).mono ?_); rintro e w2 ⟨rfl, rfl⟩)
    refine bodyPost_ret (v := .agg #[.int .i64 3, .string ⟨#[]⟩, .slice none 0 0, .slice none 0 0]) (by simp [results, Try.results22, go_sem]) rfl ?_
    exact ⟨⟨3, ⟨#[]⟩, none, 0, 0, none, 0, 0⟩, rfl, TzV.leaf _ _ 3 [], (((Below.refl _ _).alloc (Nat.le_refl _) _).alloc (by simp) _).alloc (by simp; omega) _⟩

set_option maxRecDepth 100000 in
set_option maxHeartbeats 8000000 in
theorem tree_2b (d : Nat) (_hd : d ≤ 1000) (kd n : Int) (ns : List Int) (ks : List Rw) (c : R4) (names : List (List UInt8)) (na : Option Addr) (nc : Nat) (w : World) (hV : RwV w (.mk kd n ns ks) c) (_hnl : names.length ≤ 1000) (hk0 : kd % 9 = 2) (hd1 : ¬ (d : Int) ≤ 1) :
    Calls Try.prog 22 #[.agg #[.int .i64 c.k, .int .i64 c.n, .slice c.an c.ln c.cn, .slice c.ak c.lk c.ck], .int .i64 d, .slice na names.length nc] w (TreeP (treeR names d (.mk kd n ns ks)) w) := by
  have hT : topK names.length d kd = 3 := by unfold topK; rw [hk0]; exact if_neg (by omega)
  rw [treeR_leaf names d kd n ns ks (by omega), hT]
  cases hV with
  | mk _ _ _ _ an cn ak ck us hk hn hii hln hlk hl ha hb hu =>
    obtain ⟨hkl, hkh⟩ := hk
    have HK0 := Lib.hid hk0
    clear hu hb ha hii hl hT hk0
    go_enter Try.func22, Try.ntmps22
    go_wp2_with (go_at_call 50; (with_reducible refine (within3_is _ _ _ _ (by omega) (by omega) hkl hkh HK0.out).mono ?_); rintro e w2 ⟨rfl, rfl⟩)
    refine bodyPost_ret (v := .agg #[.int .i64 3, .string ⟨#[]⟩, .slice none 0 0, .slice none 0 0]) (by simp [results, Try.results22, go_sem]) rfl ?_
    exact ⟨⟨3, ⟨#[]⟩, none, 0, 0, none, 0, 0⟩, rfl, TzV.leaf _ _ 3 [], (((Below.refl _ _).alloc (Nat.le_refl _) _).alloc (by simp) _).alloc (by simp; omega) _⟩
end Sp
end Go.Proofs.Ytjjpjkkaogfoaaa

namespace Go.Proofs.Ytjjpjkkaogfoaaa
open Go.RowKit
namespace Sp
open Sc

set_option maxRecDepth 100000 in
set_option maxHeartbeats 8000000 in
theorem tree_8n (d : Nat) (_hd : d ≤ 1000) (kd n : Int) (ns : List Int) (ks : List Rw) (c : R4) (names : List (List UInt8)) (na : Option Addr) (nc : Nat) (w : World) (hV : RwV w (.mk kd n ns ks) c) (_hnl : names.length ≤ 1000) (hk0 : kd % 9 = 8) (hn0 : names = []) :
    Calls Try.prog 22 #[.agg #[.int .i64 c.k, .int .i64 c.n, .slice c.an c.ln c.cn, .slice c.ak c.lk c.ck], .int .i64 d, .slice na names.length nc] w (TreeP (treeR names d (.mk kd n ns ks)) w) := by
  have hT : topK names.length d kd = 2 := by unfold topK; rw [hk0]; exact if_pos (by rw [hn0]; simp)
  rw [treeR_leaf names d kd n ns ks (by omega), hT]
  cases hV with
  | mk _ _ _ _ an cn ak ck us hk hn hii hln hlk hl ha hb hu =>
    obtain ⟨hkl, hkh⟩ := hk
    have HK0 := Lib.hid hk0
    clear hu hb ha hii hl hT hk0
    subst hn0
    go_enter Try.func22, Try.ntmps22
    go_wp2_with (go_at_call 50; (with_reducible refine (within3_is _ _ _ _ (by omega) (by omega) hkl hkh HK0.out).mono ?_); rintro e w2 ⟨rfl, rfl⟩)
    refine bodyPost_ret (v := .agg #[.int .i64 2, .string ⟨#[]⟩, .slice none 0 0, .slice none 0 0]) (by simp [results, Try.results22, go_sem]) rfl ?_
    exact ⟨⟨2, ⟨#[]⟩, none, 0, 0, none, 0, 0⟩, rfl, TzV.leaf _ _ 2 [], (((Below.refl _ _).alloc (Nat.le_refl _) _).alloc (by simp) _).alloc (by simp; omega) _⟩

set_option maxRecDepth 100000 in
set_option maxHeartbeats 8000000 in
theorem tree_3 (d : Nat) (_hd : d ≤ 1000) (kd n : Int) (ns : List Int) (ks : List Rw) (c : R4) (names : List (List UInt8)) (na : Option Addr) (nc : Nat) (w : World) (hV : RwV w (.mk kd n ns ks) c) (_hnl : names.length ≤ 1000) (hk0 : kd % 9 = 3) (hd1 : (d : Int) ≤ 1) :
    Calls Try.prog 22 #[.agg #[.int .i64 c.k, .int .i64 c.n, .slice c.an c.ln c.cn, .slice c.ak c.lk c.ck], .int .i64 d, .slice na names.length nc] w (TreeP (treeR names d (.mk kd n ns ks)) w) := by
  have hT : topK names.length d kd = 2 := by unfold topK; rw [hk0]; exact if_pos (by omega)
  rw [treeR_leaf names d kd n ns ks (by omega), hT]
  cases hV with
  | mk _ _ _ _ an cn ak ck us hk hn hii hln hlk hl ha hb hu =>
    obtain ⟨hkl, hkh⟩ := hk
    have HK0 := Lib.hid hk0
    clear hu hb ha hii hl hT hk0
    go_enter Try.func22, Try.ntmps22
    go_wp2_with (go_at_call 50; (with_reducible refine (within3_is _ _ _ _ (by omega) (by omega) hkl hkh HK0.out).mono ?_); rintro e w2 ⟨rfl, rfl⟩)
    refine bodyPost_ret (v := .agg #[.int .i64 2, .string ⟨#[]⟩, .slice none 0 0, .slice none 0 0]) (by simp [results, Try.results22, go_sem]) rfl ?_
    exact ⟨⟨2, ⟨#[]⟩, none, 0, 0, none, 0, 0⟩, rfl, TzV.leaf _ _ 2 [], (((Below.refl _ _).alloc (Nat.le_refl _) _).alloc (by simp) _).alloc (by simp; omega) _⟩

set_option maxRecDepth 100000 in
set_option maxHeartbeats 8000000 in
theorem tree_4 (d : Nat) (_hd : d ≤ 1000) (kd n : Int) (ns : List Int) (ks : List Rw) (c : R4) (names : List (List UInt8)) (na : Option Addr) (nc : Nat) (w : World) (hV : RwV w (.mk kd n ns ks) c) (_hnl : names.length ≤ 1000) (hk0 : kd % 9 = 4) (hd1 : (d : Int) ≤ 1) :
    Calls Try.prog 22 #[.agg #[.int .i64 c.k, .int .i64 c.n, .slice c.an c.ln c.cn, .slice c.ak c.lk c.ck], .int .i64 d, .slice na names.length nc] w (TreeP (treeR names d (.mk kd n ns ks)) w) := by
  have hT : topK names.length d kd = 2 := by unfold topK; rw [hk0]; exact if_pos (by omega)
  rw [treeR_leaf names d kd n ns ks (by omega), hT]
  cases hV with
  | mk _ _ _ _ an cn ak ck us hk hn hii hln hlk hl ha hb hu =>
    obtain ⟨hkl, hkh⟩ := hk
    have HK0 := Lib.hid hk0
    clear hu hb ha hii hl hT hk0
    go_enter Try.func22, Try.ntmps22
    go_wp2_with (go_at_call 50; (with_reducible refine (within3_is _ _ _ _ (by omega) (by omega) hkl hkh HK0.out).mono ?_); rintro e w2 ⟨rfl, rfl⟩)
    refine bodyPost_ret (v := .agg #[.int .i64 2, .string ⟨#[]⟩, .slice none 0 0, .slice none 0 0]) (by simp [results, Try.results22, go_sem]) rfl ?_
    exact ⟨⟨2, ⟨#[]⟩, none, 0, 0, none, 0, 0⟩, rfl, TzV.leaf _ _ 2 [], (((Below.refl _ _).alloc (Nat.le_refl _) _).alloc (by simp) _).alloc (by simp; omega) _⟩

set_option maxRecDepth 100000 in
set_option maxHeartbeats 8000000 in
theorem tree_5 (d : Nat) (_hd : d ≤ 1000) (kd n : Int) (ns : List Int) (ks : List Rw) (c : R4) (names : List (List UInt8)) (na : Option Addr) (nc : Nat) (w : World) (hV : RwV w (.mk kd n ns ks) c) (_hnl : names.length ≤ 1000) (hk0 : kd % 9 = 5) (hd1 : (d : Int) ≤ 1) :
    Calls Try.prog 22 #[.agg #[.int .i64 c.k, .int .i64 c.n, .slice c.an c.ln c.cn, .slice c.ak c.lk c.ck], .int .i64 d, .slice na names.length nc] w (TreeP (treeR names d (.mk kd n ns ks)) w) := by
  have hT : topK names.length d kd = 2 := by unfold topK; rw [hk0]; exact if_pos (by omega)
  rw [treeR_leaf names d kd n ns ks (by omega), hT]
  cases hV with
  | mk _ _ _ _ an cn ak ck us hk hn hii hln hlk hl ha hb hu =>
    obtain ⟨hkl, hkh⟩ := hk
    have HK0 := Lib.hid hk0
    clear hu hb ha hii hl hT hk0
    go_enter Try.func22, Try.ntmps22
    go_wp2_with (go_at_call 50; (with_reducible refine (within3_is _ _ _ _ (by omega) (by omega) hkl hkh HK0.out).mono ?_); rintro e w2 ⟨rfl, rfl⟩)
    refine bodyPost_ret (v := .agg #[.int .i64 2, .string ⟨#[]⟩, .slice none 0 0, .slice none 0 0]) (by simp [results, Try.results22, go_sem]) rfl ?_
    exact ⟨⟨2, ⟨#[]⟩, none, 0, 0, none, 0, 0⟩, rfl, TzV.leaf _ _ 2 [], (((Below.refl _ _).alloc (Nat.le_refl _) _).alloc (by simp) _).alloc (by simp; omega) _⟩

set_option maxRecDepth 100000 in
set_option maxHeartbeats 8000000 in
theorem tree_6 (d : Nat) (_hd : d ≤ 1000) (kd n : Int) (ns : List Int) (ks : List Rw) (c : R4) (names : List (List UInt8)) (na : Option Addr) (nc : Nat) (w : World) (hV : RwV w (.mk kd n ns ks) c) (_hnl : names.length ≤ 1000) (hk0 : kd % 9 = 6) (hd1 : (d : Int) ≤ 1) :
    Calls Try.prog 22 #[.agg #[.int .i64 c.k, .int .i64 c.n, .slice c.an c.ln c.cn, .slice c.ak c.lk c.ck], .int .i64 d, .slice na names.length nc] w (TreeP (treeR names d (.mk kd n ns ks)) w) := by
  have hT : topK names.length d kd = 2 := by unfold topK; rw [hk0]; exact if_pos (by omega)
  rw [treeR_leaf names d kd n ns ks (by omega), hT]
  cases hV with
  | mk _ _ _ _ an cn ak ck us hk hn hii hln hlk hl ha hb hu =>
    obtain ⟨hkl, hkh⟩ := hk
    have HK0 := Lib.hid hk0
    clear hu hb ha hii hl hT hk0
    go_enter Try.func22, Try.ntmps22
    go_wp2_with (go_at_call 50; (with_reducible refine (within3_is _ _ _ _ (by omega) (by omega) hkl hkh HK0.out).mono ?_); rintro e w2 ⟨rfl, rfl⟩)
    refine bodyPost_ret (v := .agg #[.int .i64 2, .string ⟨#[]⟩, .slice none 0 0, .slice none 0 0]) (by simp [results, Try.results22, go_sem]) rfl ?_
    exact ⟨⟨2, ⟨#[]⟩, none, 0, 0, none, 0, 0⟩, rfl, TzV.leaf _ _ 2 [], (((Below.refl _ _).alloc (Nat.le_refl _) _).alloc (by simp) _).alloc (by simp; omega) _⟩

set_option maxRecDepth 100000 in
set_option maxHeartbeats 8000000 in
theorem tree_7 (d : Nat) (_hd : d ≤ 1000) (kd n : Int) (ns : List Int) (ks : List Rw) (c : R4) (names : List (List UInt8)) (na : Option Addr) (nc : Nat) (w : World) (hV : RwV w (.mk kd n ns ks) c) (_hnl : names.length ≤ 1000) (hk0 : kd % 9 = 7) (hd1 : (d : Int) ≤ 1) :
    Calls Try.prog 22 #[.agg #[.int .i64 c.k, .int .i64 c.n, .slice c.an c.ln c.cn, .slice c.ak c.lk c.ck], .int .i64 d, .slice na names.length nc] w (TreeP (treeR names d (.mk kd n ns ks)) w) := by
  have hT : topK names.length d kd = 2 := by unfold topK; rw [hk0]; exact if_pos (by omega)
  rw [treeR_leaf names d kd n ns ks (by omega), hT]
  cases hV with
  | mk _ _ _ _ an cn ak ck us hk hn hii hln hlk hl ha hb hu =>
    obtain ⟨hkl, hkh⟩ := hk
    have HK0 := Lib.hid hk0
    clear hu hb ha hii hl hT hk0
    go_enter Try.func22, Try.ntmps22
    go_wp2_with (go_at_call 50; (with_reducible refine (within3_is _ _ _ _ (by omega) (by omega) hkl hkh HK0.out).mono ?_); rintro e w2 ⟨rfl, rfl⟩)
    refine bodyPost_ret (v := .agg #[.int .i64 2, .string ⟨#[]⟩, .slice none 0 0, .slice none 0 0]) (by simp [results, Try.results22, go_sem]) rfl ?_
    exact ⟨⟨2, ⟨#[]⟩, none, 0, 0, none, 0, 0⟩, rfl, TzV.leaf _ _ 2 [], (((Below.refl _ _).alloc (Nat.le_refl _) _).alloc (by simp) _).alloc (by simp; omega) _⟩
end Sp
end Go.Proofs.Ytjjpjkkaogfoaaa

namespace Go.Proofs.Ytjjpjkkaogfoaaa
open Go.RowKit
namespace Sp
open Sc

set_option maxRecDepth 100000 in
set_option maxHeartbeats 8000000 in
theorem tree_8a (d : Nat) (_hd : d ≤ 1000) (kd n : Int) (ns : List Int) (ks : List Rw) (c : R4) (names : List (List UInt8)) (na : Option Addr) (nc : Nat) (w : World) (hV : RwV w (.mk kd n ns ks) c) (hnl : names.length ≤ 1000) (hnm : RowV w (Any w) na 1 (names.map fun n => [str n])) (hk0 : kd % 9 = 8) (hn0 : names ≠ []) (hd1 : (d : Int) ≤ 1) :
    Calls Try.prog 22 #[.agg #[.int .i64 c.k, .int .i64 c.n, .slice c.an c.ln c.cn, .slice c.ak c.lk c.ck], .int .i64 d, .slice na names.length nc] w (TreeP (treeR names d (.mk kd n ns ks)) w) := by
  have hpos : 0 < names.length := List.length_pos_iff.2 hn0
  have hT : topK names.length d kd = 9 := by unfold topK; rw [hk0]; exact if_neg (by omega)
  rw [treeR_name names d kd n ns ks hT]
  cases hV with
  | mk _ _ _ _ an cn ak ck us hk hn hii hln hlk hl ha hb hu =>
    obtain ⟨hkl, hkh⟩ := hk
    obtain ⟨hnl1, hnh1⟩ := hn
    obtain ⟨j, hj, hjl⟩ : ∃ j : Nat, n % (names.length : Int) = j ∧ j < names.length := ⟨(n % (names.length : Int)).toNat, by have := Int.emod_nonneg n (show (names.length : Int) ≠ 0 by omega); omega, by have := Int.emod_lt_of_pos n (show (0 : Int) < names.length by omega); have := Int.emod_nonneg n (show (names.length : Int) ≠ 0 by omega); omega⟩
    have he : names.getD (n % names.length).toNat [] = names[j] := by rw [hj]; simp [List.getD, List.getElem?_eq_getElem hjl]
    rw [he]
    obtain ⟨g, o, rfl, hg, hcell⟩ := name_at hnm (fun _ h => h) j hjl
    have HC := Lib.hid hcell; have HJ := Lib.hid hj
    have hjz : (j : Int) < (names.length : Int) := by omega
    have hj0 : (0 : Int) ≤ (j : Int) := by omega
    have hlz : ((names.length : Int) == 0) = false := by rw [beq_eq_false_iff_ne]; omega
    have hne : ¬ names.length = 0 := by omega
    have HK0 := Lib.hid hk0
    have HNP := Lib.hid hpos
    clear hu hb ha hii hl hT hk0 hcell hj he hnm hpos
    generalize names[j] = nm at *
    go_enter Try.func22, Try.ntmps22
    go_wp2_with (first
      | (go_at_call 50; (with_reducible refine (within3_is _ _ _ _ (by omega) (by omega) hkl hkh HK0.out).mono ?_); rintro e w2 ⟨rfl, hw⟩; have hz2 : w2.heap.size = w.heap.size + 2 := (by rw [← hw]; simp); have hb2 : Below w.heap.size w w2 := (by rw [← hw]; exact ((Below.refl _ _).alloc (Nat.le_refl _) _).alloc (by simp) _); have hr2 : w2.heap[w.heap.size]? = some (.cells #[.int .i64 kd, .int .i64 n, .slice an ns.length cn, .slice ak ks.length ck] 33 (0, 0)) := (by rw [← hw, blk_if, if_neg (by simp), blk_if, if_pos rfl]); have ho2 : w2.heap[w.heap.size + 1]? = some (.cells #[.int .i64 0, .string ⟨#[]⟩, .slice none 0 0, .slice none 0 0] 25 (0, 0)) := (by rw [← hw, blk_if, if_pos (by simp)]); obtain ⟨⟨r0, r1, r2, r3⟩, -⟩ := four_blk hr2; obtain ⟨⟨o0, o1, o2, o3⟩, ⟨f0, f1, f2, f3⟩⟩ := four_blk ho2; have HB2 := Lib.hid hb2; have HR2 := Lib.hid hr2; have HO2 := Lib.hid ho2; clear hw hb2 hr2 ho2)
      | (go_at_call 50; (with_reducible refine (within3_is _ _ _ _ (by have := HNP.out; omega) (by omega) hnl1 hnh1 HJ.out).mono ?_); rintro e w3 ⟨rfl, hw3⟩; have hz3 : w3.heap.size = w.heap.size + 3 := (by rw [← hw3]; simp; omega); have hb3 : Below w.heap.size w w3 := (by rw [← hw3]; exact HB2.out.alloc (by omega) _); have ht3 : w3.heap[w.heap.size + 2]? = some (.cells #[.int .i64 9, .string ⟨#[]⟩, .slice none 0 0, .slice none 0 0] 25 (0, 0)) := (by rw [← hw3, blk_if, if_pos (by omega)]); have ho3 : w3.heap[w.heap.size + 1]? = some (.cells #[.int .i64 0, .string ⟨#[]⟩, .slice none 0 0, .slice none 0 0] 25 (0, 0)) := (by rw [← hw3, blk_if, if_neg (by omega)]; exact HO2.out); have c3 := HC.out w3 hb3; obtain ⟨⟨t0, t1, t2, t3⟩, ⟨y0, y1, y2, y3⟩⟩ := four_blk ht3; obtain ⟨⟨q0, q1, q2, q3⟩, ⟨x0, x1, x2, x3⟩⟩ := four_blk ho3; have HB3 := Lib.hid hb3; have HO3 := Lib.hid ho3; clear hw3 hb3 ht3 ho3))
    have hs1 : (w3.setCell ⟨w.heap.size + 2, 1, none⟩ (.string ⟨nm.toArray⟩)).heap[w.heap.size + 1]? = some (.cells #[.int .i64 0, .string ⟨#[]⟩, .slice none 0 0, .slice none 0 0] 25 (0, 0)) := ((Only.refl _ w3).setCell 1 _).blk HO3.out (by omega)
    obtain ⟨⟨v0, v1, v2, v3⟩, -⟩ := four_blk (put4_at hs1 ⟨9, ⟨nm.toArray⟩, none, 0, 0, none, 0, 0⟩)
    have hbl := (HB3.out.trans (((Only.refl (w.heap.size + 2) w3).setCell 1 (.string ⟨nm.toArray⟩)).below (by omega) (by omega))).trans ((put4_only (w3.setCell ⟨w.heap.size + 2, 1, none⟩ (.string ⟨nm.toArray⟩)) (w.heap.size + 1) ⟨9, ⟨nm.toArray⟩, none, 0, 0, none, 0, 0⟩).below (by omega) (by simp; omega))
    unfold put4 at v0 v1 v2 v3 hbl
    refine bodyPost_ret (v := .agg #[.int .i64 9, .string ⟨nm.toArray⟩, .slice none 0 0, .slice none 0 0]) (by simp [results, Try.results22, go_sem, v0, v1, v2, v3]) rfl ?_
    exact ⟨⟨9, ⟨nm.toArray⟩, none, 0, 0, none, 0, 0⟩, rfl, TzV.leaf _ _ 9 nm, hbl⟩

set_option maxRecDepth 100000 in
set_option maxHeartbeats 8000000 in
theorem tree_8b (d : Nat) (_hd : d ≤ 1000) (kd n : Int) (ns : List Int) (ks : List Rw) (c : R4) (names : List (List UInt8)) (na : Option Addr) (nc : Nat) (w : World) (hV : RwV w (.mk kd n ns ks) c) (hnl : names.length ≤ 1000) (hnm : RowV w (Any w) na 1 (names.map fun n => [str n])) (hk0 : kd % 9 = 8) (hn0 : names ≠ []) (hd1 : ¬ (d : Int) ≤ 1) :
    Calls Try.prog 22 #[.agg #[.int .i64 c.k, .int .i64 c.n, .slice c.an c.ln c.cn, .slice c.ak c.lk c.ck], .int .i64 d, .slice na names.length nc] w (TreeP (treeR names d (.mk kd n ns ks)) w) := by
  have hpos : 0 < names.length := List.length_pos_iff.2 hn0
  have hT : topK names.length d kd = 9 := by unfold topK; rw [hk0]; exact if_neg (by omega)
  rw [treeR_name names d kd n ns ks hT]
  cases hV with
  | mk _ _ _ _ an cn ak ck us hk hn hii hln hlk hl ha hb hu =>
    obtain ⟨hkl, hkh⟩ := hk
    obtain ⟨hnl1, hnh1⟩ := hn
    obtain ⟨j, hj, hjl⟩ : ∃ j : Nat, n % (names.length : Int) = j ∧ j < names.length := ⟨(n % (names.length : Int)).toNat, by have := Int.emod_nonneg n (show (names.length : Int) ≠ 0 by omega); omega, by have := Int.emod_lt_of_pos n (show (0 : Int) < names.length by omega); have := Int.emod_nonneg n (show (names.length : Int) ≠ 0 by omega); omega⟩
    have he : names.getD (n % names.length).toNat [] = names[j] := by rw [hj]; simp [List.getD, List.getElem?_eq_getElem hjl]
    rw [he]
    obtain ⟨g, o, rfl, hg, hcell⟩ := name_at hnm (fun _ h => h) j hjl
    have HC := Lib.hid hcell; have HJ := Lib.hid hj
    have hjz : (j : Int) < (names.length : Int) := by omega
    have hj0 : (0 : Int) ≤ (j : Int) := by omega
    have hlz : ((names.length : Int) == 0) = false := by rw [beq_eq_false_iff_ne]; omega
    have hne : ¬ names.length = 0 := by omega
    have HK0 := Lib.hid hk0
    have HNP := Lib.hid hpos
    clear hu hb ha hii hl hT hk0 hcell hj he hnm hpos
    generalize names[j] = nm at *
    go_enter Try.func22, Try.ntmps22
    go_wp2_with (first
      | (go_at_call 50; (with_reducible refine (within3_is _ _ _ _ (by omega) (by omega) hkl hkh HK0.out).mono ?_); rintro e w2 ⟨rfl, hw⟩; have hz2 : w2.heap.size = w.heap.size + 2 := (by rw [← hw]; simp); have hb2 : Below w.heap.size w w2 := (by rw [← hw]; exact ((Below.refl _ _).alloc (Nat.le_refl _) _).alloc (by simp) _); have hr2 : w2.heap[w.heap.size]? = some (.cells #[.int .i64 kd, .int .i64 n, .slice an ns.length cn, .slice ak ks.length ck] 33 (0, 0)) := (by rw [← hw, blk_if, if_neg (by simp), blk_if, if_pos rfl]); have ho2 : w2.heap[w.heap.size + 1]? = some (.cells #[.int .i64 0, .string ⟨#[]⟩, .slice none 0 0, .slice none 0 0] 25 (0, 0)) := (by rw [← hw, blk_if, if_pos (by simp)]); obtain ⟨⟨r0, r1, r2, r3⟩, -⟩ := four_blk hr2; obtain ⟨⟨o0, o1, o2, o3⟩, ⟨f0, f1, f2, f3⟩⟩ := four_blk ho2; have HB2 := Lib.hid hb2; have HR2 := Lib.hid hr2; have HO2 := Lib.hid ho2; clear hw hb2 hr2 ho2)
      | (go_at_call 50; (with_reducible refine (within3_is _ _ _ _ (by have := HNP.out; omega) (by omega) hnl1 hnh1 HJ.out).mono ?_); rintro e w3 ⟨rfl, hw3⟩; have hz3 : w3.heap.size = w.heap.size + 3 := (by rw [← hw3]; simp; omega); have hb3 : Below w.heap.size w w3 := (by rw [← hw3]; exact HB2.out.alloc (by omega) _); have ht3 : w3.heap[w.heap.size + 2]? = some (.cells #[.int .i64 9, .string ⟨#[]⟩, .slice none 0 0, .slice none 0 0] 25 (0, 0)) := (by rw [← hw3, blk_if, if_pos (by omega)]); have ho3 : w3.heap[w.heap.size + 1]? = some (.cells #[.int .i64 0, .string ⟨#[]⟩, .slice none 0 0, .slice none 0 0] 25 (0, 0)) := (by rw [← hw3, blk_if, if_neg (by omega)]; exact HO2.out); have c3 := HC.out w3 hb3; obtain ⟨⟨t0, t1, t2, t3⟩, ⟨y0, y1, y2, y3⟩⟩ := four_blk ht3; obtain ⟨⟨q0, q1, q2, q3⟩, ⟨x0, x1, x2, x3⟩⟩ := four_blk ho3; have HB3 := Lib.hid hb3; have HO3 := Lib.hid ho3; clear hw3 hb3 ht3 ho3))
    have hs1 : (w3.setCell ⟨w.heap.size + 2, 1, none⟩ (.string ⟨nm.toArray⟩)).heap[w.heap.size + 1]? = some (.cells #[.int .i64 0, .string ⟨#[]⟩, .slice none 0 0, .slice none 0 0] 25 (0, 0)) := ((Only.refl _ w3).setCell 1 _).blk HO3.out (by omega)
    obtain ⟨⟨v0, v1, v2, v3⟩, -⟩ := four_blk (put4_at hs1 ⟨9, ⟨nm.toArray⟩, none, 0, 0, none, 0, 0⟩)
    have hbl := (HB3.out.trans (((Only.refl (w.heap.size + 2) w3).setCell 1 (.string ⟨nm.toArray⟩)).below (by omega) (by omega))).trans ((put4_only (w3.setCell ⟨w.heap.size + 2, 1, none⟩ (.string ⟨nm.toArray⟩)) (w.heap.size + 1) ⟨9, ⟨nm.toArray⟩, none, 0, 0, none, 0, 0⟩).below (by omega) (by simp; omega))
    unfold put4 at v0 v1 v2 v3 hbl
    refine bodyPost_ret (v := .agg #[.int .i64 9, .string ⟨nm.toArray⟩, .slice none 0 0, .slice none 0 0]) (by simp [results, Try.results22, go_sem, v0, v1, v2, v3]) rfl ?_
    exact ⟨⟨9, ⟨nm.toArray⟩, none, 0, 0, none, 0, 0⟩, rfl, TzV.leaf _ _ 9 nm, hbl⟩
end Sp
end Go.Proofs.Ytjjpjkkaogfoaaa

namespace Go.Proofs.Ytjjpjkkaogfoaaa
open Go.RowKit
namespace Sp
open Sc
theorem kid0_any (r : Rw) (c : R4) (w : World) (hV : RwV w r c) :
    Calls Try.prog 51 #[.agg #[.int .i64 c.k, .int .i64 c.n, .slice c.an c.ln c.cn, .slice c.ak c.lk c.ck], .int .i64 0] w (KidP (kidR r 0) w) := kid_any r c 0 w (by decide) hV

set_option maxRecDepth 100000 in
set_option maxHeartbeats 8000000 in
theorem tree_3k (D d : Nat) (hD : D = d + 1) (ih : TreeC d) (hd : d ≤ 1000) (hd1 : 1 ≤ d) (kd n : Int) (ns : List Int) (ks : List Rw) (c : R4) (names : List (List UInt8)) (na : Option Addr) (nc : Nat) (w : World) (hV : RwV w (.mk kd n ns ks) c) (hnl : names.length ≤ 1000) (hnm : RowV w (Any w) na 1 (names.map fun n => [str n])) (hk0 : kd % 9 = 3) :
    Calls Try.prog 22 #[.agg #[.int .i64 c.k, .int .i64 c.n, .slice c.an c.ln c.cn, .slice c.ak c.lk c.ck], .int .i64 D, .slice na names.length nc] w (TreeP (treeR names D (.mk kd n ns ks)) w) := by
  have hT : topK names.length (d + 1) kd = 4 := by unfold topK; rw [hk0]; exact if_neg (by omega)
  rw [hD, treeR_kid names d kd n ns ks 4 hT (by omega), if_neg (by omega), ← hD]
  have hV0 := hV
  cases hV with
  | mk _ _ _ _ an cn ak ck us hk hn hii hln hlk hl ha hb hu =>
    obtain ⟨hkl, hkh⟩ := hk
    have hdz : ¬ (D : Int) ≤ 1 := by omega
    have hdm : (D : Int) - 1 = (d : Int) := by omega
    have hdw : IntKind.i64.wrap ((D : Int) - 1) = (d : Int) := by rw [IntKind.wrap_i64]; omega
    have HK0 := Lib.hid hk0; have HV := Lib.hid hV0; have HNM := Lib.hid hnm; have HIH := Lib.hid ih; have HD := Lib.hid hD
    skip
    clear hu hb ha hii hl hT hk0 hnm hV0 ih hD
    go_enter Try.func22, Try.ntmps22
    go_wp2_with (first
      | (go_at_call 50; (with_reducible refine (within3_is _ _ _ _ (by omega) (by omega) hkl hkh HK0.out).mono ?_); rintro e w2 ⟨rfl, hw⟩; have hz2 : w2.heap.size = w.heap.size + 2 := (by rw [← hw]; simp); have hb2 : Below w.heap.size w w2 := (by rw [← hw]; exact ((Below.refl _ _).alloc (Nat.le_refl _) _).alloc (by simp) _); have hr2 : w2.heap[w.heap.size]? = some (.cells #[.int .i64 kd, .int .i64 n, .slice an ns.length cn, .slice ak ks.length ck] 33 (0, 0)) := (by rw [← hw, blk_if, if_neg (by simp), blk_if, if_pos rfl]); have ho2 : w2.heap[w.heap.size + 1]? = some (.cells #[.int .i64 0, .string ⟨#[]⟩, .slice none 0 0, .slice none 0 0] 25 (0, 0)) := (by rw [← hw, blk_if, if_pos (by simp)]); obtain ⟨⟨r0, r1, r2, r3⟩, -⟩ := four_blk hr2; obtain ⟨⟨o0, o1, o2, o3⟩, ⟨f0, f1, f2, f3⟩⟩ := four_blk ho2; have HB2 := Lib.hid hb2; have HR2 := Lib.hid hr2; have HO2 := Lib.hid ho2; clear hw hb2 hr2 ho2)
      | (go_at_call 51; (with_reducible refine (kid0_any (.mk kd n ns ks) ⟨kd, n, an, ns.length, cn, ak, ks.length, ck⟩ _ (HV.out.later (HB2.out.alloc (by omega) (.cells #[.int .i64 4, .string ⟨#[]⟩, .slice none 0 0, .slice none 0 0] 25)))).mono ?_); rintro e w3 ⟨rc, rfl, hrc, hb3⟩; have hz3 := hb3.size; simp at hz3; have hbw : Below w.heap.size w w3 := (HB2.out.alloc (by omega) _).trans (hb3.mono (by simp; omega)); have ht3 : w3.heap[w.heap.size + 2]? = some (.cells #[.int .i64 4, .string ⟨#[]⟩, .slice none 0 0, .slice none 0 0] 25 (0, 0)) := (hb3.block _ (by simp; omega)).trans (by rw [blk_if, if_pos (by omega)]); have ho3 : w3.heap[w.heap.size + 1]? = some (.cells #[.int .i64 0, .string ⟨#[]⟩, .slice none 0 0, .slice none 0 0] 25 (0, 0)) := (hb3.block _ (by simp; omega)).trans (by rw [blk_if, if_neg (by omega)]; exact HO2.out); have HRC := Lib.hid hrc; have HB3 := Lib.hid hbw; have HT3 := Lib.hid ht3; have HO3 := Lib.hid ho3; obtain ⟨rk, rn, ra1, ra2, ra3, ra4, ra5, ra6⟩ := rc; clear hrc hb3 hbw ht3 ho3)
      | (go_at_call 22; have CT := HIH.out _ _ names na nc w3 HRC.out (HNM.out.up HB3.out) hnl; (with_reducible refine CT.mono ?_); rintro e w4 ⟨xc, rfl, hxc, hb4⟩; have hz4 := hb4.size; have hbw : Below w.heap.size w w4 := HB3.out.trans (hb4.mono (by omega)); have ht4 : w4.heap[w.heap.size + 2]? = some (.cells #[.int .i64 4, .string ⟨#[]⟩, .slice none 0 0, .slice none 0 0] 25 (0, 0)) := (hb4.block _ (by omega)).trans HT3.out; have ho4 : w4.heap[w.heap.size + 1]? = some (.cells #[.int .i64 0, .string ⟨#[]⟩, .slice none 0 0, .slice none 0 0] 25 (0, 0)) := (hb4.block _ (by omega)).trans HO3.out; obtain ⟨⟨t0, t1, t2, t3⟩, ⟨y0, y1, y2, y3⟩⟩ := four_blk ht4; obtain ⟨⟨q0, q1, q2, q3⟩, ⟨x0, x1, x2, x3⟩⟩ := four_blk ho4; have hzw : w.heap.size + 2 < w4.heap.size := (by omega); have hzv : w.heap.size + 1 < w4.heap.size := (by omega); clear CT; have HXC := Lib.hid hxc; have HB4 := Lib.hid hbw; have HT4 := Lib.hid ht4; have HO4 := Lib.hid ho4; have hkk := hxc.kindZ; obtain ⟨xk, xn, xan, xln, xcn, xak, xlk, xck⟩ := xc; simp only at hkk; clear hkk; clear hxc hb4 hbw ht4 ho4))
    have hq6 : Only (w.heap.size + 2) w4 (w4.setCell ⟨w.heap.size + 2, 3, none⟩ (.slice (some ⟨w4.heap.size, 0, none⟩) 1 1)) := (Only.refl _ w4).setCell 3 _
    have hs1 := hq6.blk HO4.out (by omega)
    have hz6 : (w4.setCell ⟨w.heap.size + 2, 3, none⟩ (.slice (some ⟨w4.heap.size, 0, none⟩) 1 1)).heap.size = w4.heap.size := by simp
    have hPO := put4_only (w4.setCell ⟨w.heap.size + 2, 3, none⟩ (.slice (some ⟨w4.heap.size, 0, none⟩) 1 1)) (w.heap.size + 1) ⟨4, ⟨#[]⟩, none, 0, 0, some ⟨w4.heap.size, 0, none⟩, 1, 1⟩
    have hz7 := put4_size (w4.setCell ⟨w.heap.size + 2, 3, none⟩ (.slice (some ⟨w4.heap.size, 0, none⟩) 1 1)) (w.heap.size + 1) ⟨4, ⟨#[]⟩, none, 0, 0, some ⟨w4.heap.size, 0, none⟩, 1, 1⟩
    obtain ⟨⟨v0, v1, v2, v3⟩, -⟩ := four_blk (blk_allocZ (put4_at hs1 ⟨4, ⟨#[]⟩, none, 0, 0, some ⟨w4.heap.size, 0, none⟩, 1, 1⟩) (.cells #[.int .i64 xk, .string xn, .slice xan xln xcn, .slice xak xlk xck] 25))
    have hk1 : ((put4 (w4.setCell ⟨w.heap.size + 2, 3, none⟩ (.slice (some ⟨w4.heap.size, 0, none⟩) 1 1)) (w.heap.size + 1) ⟨4, ⟨#[]⟩, none, 0, 0, some ⟨w4.heap.size, 0, none⟩, 1, 1⟩).alloc (.cells #[.int .i64 xk, .string xn, .slice xan xln xcn, .slice xak xlk xck] 25)).heap[w4.heap.size]? = some (.cells #[.int .i64 xk, .string xn, .slice xan xln xcn, .slice xak xlk xck] 25 (0, 0)) := by rw [blk_if, if_pos (by omega)]
    have hb7 : Below w.heap.size w (put4 (w4.setCell ⟨w.heap.size + 2, 3, none⟩ (.slice (some ⟨w4.heap.size, 0, none⟩) 1 1)) (w.heap.size + 1) ⟨4, ⟨#[]⟩, none, 0, 0, some ⟨w4.heap.size, 0, none⟩, 1, 1⟩) := (HB4.out.trans (hq6.below (by omega) HB4.out.size)).trans (hPO.below (by omega) (by omega))
    have hbl : Below w.heap.size w ((put4 (w4.setCell ⟨w.heap.size + 2, 3, none⟩ (.slice (some ⟨w4.heap.size, 0, none⟩) 1 1)) (w.heap.size + 1) ⟨4, ⟨#[]⟩, none, 0, 0, some ⟨w4.heap.size, 0, none⟩, 1, 1⟩).alloc (.cells #[.int .i64 xk, .string xn, .slice xan xln xcn, .slice xak xlk xck] 25)) := hb7.alloc hb7.size _
    have hX : TzV ((put4 (w4.setCell ⟨w.heap.size + 2, 3, none⟩ (.slice (some ⟨w4.heap.size, 0, none⟩) 1 1)) (w.heap.size + 1) ⟨4, ⟨#[]⟩, none, 0, 0, some ⟨w4.heap.size, 0, none⟩, 1, 1⟩).alloc (.cells #[.int .i64 xk, .string xn, .slice xan xln xcn, .slice xak xlk xck] 25)) (New w.heap.size _) (treeR names d (kidR (.mk kd n ns ks) 0)) ⟨xk, xn, xan, xln, xcn, xak, xlk, xck⟩ := ((HXC.out.past (Nat.le_refl _) hq6 (by omega)).past (by omega) hPO (by omega)).growN (Below.of_allocZ _ _ (Nat.le_refl _))
    have hF := TzV.kidN (S := New w.heap.size _) (g := w4.heap.size) (ty := 25) (fr := (0, 0)) 4 hk1 ⟨by omega, (Array.getElem?_eq_some_iff.1 hk1).1⟩ hX
    unfold put4 at v0 v1 v2 v3 hbl hF
    refine bodyPost_ret (v := .agg #[.int .i64 4, .string ⟨#[]⟩, .slice none 0 0, .slice (some ⟨w4.heap.size, 0, none⟩) 1 1]) (by simp [results, Try.results22, go_sem, v0, v1, v2, v3]) rfl ?_
    exact ⟨⟨4, ⟨#[]⟩, none, 0, 0, some ⟨w4.heap.size, 0, none⟩, 1, 1⟩, rfl, hF, hbl⟩

set_option maxRecDepth 100000 in
set_option maxHeartbeats 8000000 in
theorem tree_4k (D d : Nat) (hD : D = d + 1) (ih : TreeC d) (hd : d ≤ 1000) (hd1 : 1 ≤ d) (kd n : Int) (ns : List Int) (ks : List Rw) (c : R4) (names : List (List UInt8)) (na : Option Addr) (nc : Nat) (w : World) (hV : RwV w (.mk kd n ns ks) c) (hnl : names.length ≤ 1000) (hnm : RowV w (Any w) na 1 (names.map fun n => [str n])) (hk0 : kd % 9 = 4) :
    Calls Try.prog 22 #[.agg #[.int .i64 c.k, .int .i64 c.n, .slice c.an c.ln c.cn, .slice c.ak c.lk c.ck], .int .i64 D, .slice na names.length nc] w (TreeP (treeR names D (.mk kd n ns ks)) w) := by
  have hT : topK names.length (d + 1) kd = 5 := by unfold topK; rw [hk0]; exact if_neg (by omega)
  rw [hD, treeR_kid names d kd n ns ks 5 hT (by omega), if_neg (by omega), ← hD]
  have hV0 := hV
  cases hV with
  | mk _ _ _ _ an cn ak ck us hk hn hii hln hlk hl ha hb hu =>
    obtain ⟨hkl, hkh⟩ := hk
    have hdz : ¬ (D : Int) ≤ 1 := by omega
    have hdm : (D : Int) - 1 = (d : Int) := by omega
    have hdw : IntKind.i64.wrap ((D : Int) - 1) = (d : Int) := by rw [IntKind.wrap_i64]; omega
    have HK0 := Lib.hid hk0; have HV := Lib.hid hV0; have HNM := Lib.hid hnm; have HIH := Lib.hid ih; have HD := Lib.hid hD
    skip
    clear hu hb ha hii hl hT hk0 hnm hV0 ih hD
    go_enter Try.func22, Try.ntmps22
    go_wp2_with (first
      | (go_at_call 50; (with_reducible refine (within3_is _ _ _ _ (by omega) (by omega) hkl hkh HK0.out).mono ?_); rintro e w2 ⟨rfl, hw⟩; have hz2 : w2.heap.size = w.heap.size + 2 := (by rw [← hw]; simp); have hb2 : Below w.heap.size w w2 := (by rw [← hw]; exact ((Below.refl _ _).alloc (Nat.le_refl _) _).alloc (by simp) _); have hr2 : w2.heap[w.heap.size]? = some (.cells #[.int .i64 kd, .int .i64 n, .slice an ns.length cn, .slice ak ks.length ck] 33 (0, 0)) := (by rw [← hw, blk_if, if_neg (by simp), blk_if, if_pos rfl]); have ho2 : w2.heap[w.heap.size + 1]? = some (.cells #[.int .i64 0, .string ⟨#[]⟩, .slice none 0 0, .slice none 0 0] 25 (0, 0)) := (by rw [← hw, blk_if, if_pos (by simp)]); obtain ⟨⟨r0, r1, r2, r3⟩, -⟩ := four_blk hr2; obtain ⟨⟨o0, o1, o2, o3⟩, ⟨f0, f1, f2, f3⟩⟩ := four_blk ho2; have HB2 := Lib.hid hb2; have HR2 := Lib.hid hr2; have HO2 := Lib.hid ho2; clear hw hb2 hr2 ho2)
      | (go_at_call 51; (with_reducible refine (kid0_any (.mk kd n ns ks) ⟨kd, n, an, ns.length, cn, ak, ks.length, ck⟩ _ (HV.out.later (HB2.out.alloc (by omega) (.cells #[.int .i64 5, .string ⟨#[]⟩, .slice none 0 0, .slice none 0 0] 25)))).mono ?_); rintro e w3 ⟨rc, rfl, hrc, hb3⟩; have hz3 := hb3.size; simp at hz3; have hbw : Below w.heap.size w w3 := (HB2.out.alloc (by omega) _).trans (hb3.mono (by simp; omega)); have ht3 : w3.heap[w.heap.size + 2]? = some (.cells #[.int .i64 5, .string ⟨#[]⟩, .slice none 0 0, .slice none 0 0] 25 (0, 0)) := (hb3.block _ (by simp; omega)).trans (by rw [blk_if, if_pos (by omega)]); have ho3 : w3.heap[w.heap.size + 1]? = some (.cells #[.int .i64 0, .string ⟨#[]⟩, .slice none 0 0, .slice none 0 0] 25 (0, 0)) := (hb3.block _ (by simp; omega)).trans (by rw [blk_if, if_neg (by omega)]; exact HO2.out); have HRC := Lib.hid hrc; have HB3 := Lib.hid hbw; have HT3 := Lib.hid ht3; have HO3 := Lib.hid ho3; obtain ⟨rk, rn, ra1, ra2, ra3, ra4, ra5, ra6⟩ := rc; clear hrc hb3 hbw ht3 ho3)
      | (go_at_call 22; have CT := HIH.out _ _ names na nc w3 HRC.out (HNM.out.up HB3.out) hnl; (with_reducible refine CT.mono ?_); rintro e w4 ⟨xc, rfl, hxc, hb4⟩; have hz4 := hb4.size; have hbw : Below w.heap.size w w4 := HB3.out.trans (hb4.mono (by omega)); have ht4 : w4.heap[w.heap.size + 2]? = some (.cells #[.int .i64 5, .string ⟨#[]⟩, .slice none 0 0, .slice none 0 0] 25 (0, 0)) := (hb4.block _ (by omega)).trans HT3.out; have ho4 : w4.heap[w.heap.size + 1]? = some (.cells #[.int .i64 0, .string ⟨#[]⟩, .slice none 0 0, .slice none 0 0] 25 (0, 0)) := (hb4.block _ (by omega)).trans HO3.out; obtain ⟨⟨t0, t1, t2, t3⟩, ⟨y0, y1, y2, y3⟩⟩ := four_blk ht4; obtain ⟨⟨q0, q1, q2, q3⟩, ⟨x0, x1, x2, x3⟩⟩ := four_blk ho4; have hzw : w.heap.size + 2 < w4.heap.size := (by omega); have hzv : w.heap.size + 1 < w4.heap.size := (by omega); clear CT; have HXC := Lib.hid hxc; have HB4 := Lib.hid hbw; have HT4 := Lib.hid ht4; have HO4 := Lib.hid ho4; have hkk := hxc.kindZ; obtain ⟨xk, xn, xan, xln, xcn, xak, xlk, xck⟩ := xc; simp only at hkk; clear hkk; clear hxc hb4 hbw ht4 ho4))
    have hq6 : Only (w.heap.size + 2) w4 (w4.setCell ⟨w.heap.size + 2, 3, none⟩ (.slice (some ⟨w4.heap.size, 0, none⟩) 1 1)) := (Only.refl _ w4).setCell 3 _
    have hs1 := hq6.blk HO4.out (by omega)
    have hz6 : (w4.setCell ⟨w.heap.size + 2, 3, none⟩ (.slice (some ⟨w4.heap.size, 0, none⟩) 1 1)).heap.size = w4.heap.size := by simp
    have hPO := put4_only (w4.setCell ⟨w.heap.size + 2, 3, none⟩ (.slice (some ⟨w4.heap.size, 0, none⟩) 1 1)) (w.heap.size + 1) ⟨5, ⟨#[]⟩, none, 0, 0, some ⟨w4.heap.size, 0, none⟩, 1, 1⟩
    have hz7 := put4_size (w4.setCell ⟨w.heap.size + 2, 3, none⟩ (.slice (some ⟨w4.heap.size, 0, none⟩) 1 1)) (w.heap.size + 1) ⟨5, ⟨#[]⟩, none, 0, 0, some ⟨w4.heap.size, 0, none⟩, 1, 1⟩
    obtain ⟨⟨v0, v1, v2, v3⟩, -⟩ := four_blk (blk_allocZ (put4_at hs1 ⟨5, ⟨#[]⟩, none, 0, 0, some ⟨w4.heap.size, 0, none⟩, 1, 1⟩) (.cells #[.int .i64 xk, .string xn, .slice xan xln xcn, .slice xak xlk xck] 25))
    have hk1 : ((put4 (w4.setCell ⟨w.heap.size + 2, 3, none⟩ (.slice (some ⟨w4.heap.size, 0, none⟩) 1 1)) (w.heap.size + 1) ⟨5, ⟨#[]⟩, none, 0, 0, some ⟨w4.heap.size, 0, none⟩, 1, 1⟩).alloc (.cells #[.int .i64 xk, .string xn, .slice xan xln xcn, .slice xak xlk xck] 25)).heap[w4.heap.size]? = some (.cells #[.int .i64 xk, .string xn, .slice xan xln xcn, .slice xak xlk xck] 25 (0, 0)) := by rw [blk_if, if_pos (by omega)]
    have hb7 : Below w.heap.size w (put4 (w4.setCell ⟨w.heap.size + 2, 3, none⟩ (.slice (some ⟨w4.heap.size, 0, none⟩) 1 1)) (w.heap.size + 1) ⟨5, ⟨#[]⟩, none, 0, 0, some ⟨w4.heap.size, 0, none⟩, 1, 1⟩) := (HB4.out.trans (hq6.below (by omega) HB4.out.size)).trans (hPO.below (by omega) (by omega))
    have hbl : Below w.heap.size w ((put4 (w4.setCell ⟨w.heap.size + 2, 3, none⟩ (.slice (some ⟨w4.heap.size, 0, none⟩) 1 1)) (w.heap.size + 1) ⟨5, ⟨#[]⟩, none, 0, 0, some ⟨w4.heap.size, 0, none⟩, 1, 1⟩).alloc (.cells #[.int .i64 xk, .string xn, .slice xan xln xcn, .slice xak xlk xck] 25)) := hb7.alloc hb7.size _
    have hX : TzV ((put4 (w4.setCell ⟨w.heap.size + 2, 3, none⟩ (.slice (some ⟨w4.heap.size, 0, none⟩) 1 1)) (w.heap.size + 1) ⟨5, ⟨#[]⟩, none, 0, 0, some ⟨w4.heap.size, 0, none⟩, 1, 1⟩).alloc (.cells #[.int .i64 xk, .string xn, .slice xan xln xcn, .slice xak xlk xck] 25)) (New w.heap.size _) (treeR names d (kidR (.mk kd n ns ks) 0)) ⟨xk, xn, xan, xln, xcn, xak, xlk, xck⟩ := ((HXC.out.past (Nat.le_refl _) hq6 (by omega)).past (by omega) hPO (by omega)).growN (Below.of_allocZ _ _ (Nat.le_refl _))
    have hF := TzV.kidN (S := New w.heap.size _) (g := w4.heap.size) (ty := 25) (fr := (0, 0)) 5 hk1 ⟨by omega, (Array.getElem?_eq_some_iff.1 hk1).1⟩ hX
    unfold put4 at v0 v1 v2 v3 hbl hF
    refine bodyPost_ret (v := .agg #[.int .i64 5, .string ⟨#[]⟩, .slice none 0 0, .slice (some ⟨w4.heap.size, 0, none⟩) 1 1]) (by simp [results, Try.results22, go_sem, v0, v1, v2, v3]) rfl ?_
    exact ⟨⟨5, ⟨#[]⟩, none, 0, 0, some ⟨w4.heap.size, 0, none⟩, 1, 1⟩, rfl, hF, hbl⟩

set_option maxRecDepth 100000 in
set_option maxHeartbeats 8000000 in
theorem tree_5y (D d : Nat) (hD : D = d + 1) (ih : TreeC d) (hd : d ≤ 1000) (hd1 : 1 ≤ d) (kd n : Int) (ns : List Int) (ks : List Rw) (c : R4) (names : List (List UInt8)) (na : Option Addr) (nc : Nat) (w : World) (hV : RwV w (.mk kd n ns ks) c) (hnl : names.length ≤ 1000) (hnm : RowV w (Any w) na 1 (names.map fun n => [str n])) (hk0 : kd % 9 = 5) (h6 : (treeR names d (kidR (.mk kd n ns ks) 0)).kind = 6) :
    Calls Try.prog 22 #[.agg #[.int .i64 c.k, .int .i64 c.n, .slice c.an c.ln c.cn, .slice c.ak c.lk c.ck], .int .i64 D, .slice na names.length nc] w (TreeP (treeR names D (.mk kd n ns ks)) w) := by
  have hT : topK names.length (d + 1) kd = 6 := by unfold topK; rw [hk0]; exact if_neg (by omega)
  rw [hD, treeR_kid names d kd n ns ks 6 hT (by omega), if_pos ⟨rfl, h6⟩, ← hD]
  have hV0 := hV
  cases hV with
  | mk _ _ _ _ an cn ak ck us hk hn hii hln hlk hl ha hb hu =>
    obtain ⟨hkl, hkh⟩ := hk
    have hdz : ¬ (D : Int) ≤ 1 := by omega
    have hdm : (D : Int) - 1 = (d : Int) := by omega
    have hdw : IntKind.i64.wrap ((D : Int) - 1) = (d : Int) := by rw [IntKind.wrap_i64]; omega
    have HK0 := Lib.hid hk0; have HV := Lib.hid hV0; have HNM := Lib.hid hnm; have HIH := Lib.hid ih; have HD := Lib.hid hD
    have H6 := Lib.hid h6
    clear hu hb ha hii hl hT hk0 hnm hV0 ih hD h6
    go_enter Try.func22, Try.ntmps22
    go_wp2_with (first
      | (go_at_call 50; (with_reducible refine (within3_is _ _ _ _ (by omega) (by omega) hkl hkh HK0.out).mono ?_); rintro e w2 ⟨rfl, hw⟩; have hz2 : w2.heap.size = w.heap.size + 2 := (by rw [← hw]; simp); have hb2 : Below w.heap.size w w2 := (by rw [← hw]; exact ((Below.refl _ _).alloc (Nat.le_refl _) _).alloc (by simp) _); have hr2 : w2.heap[w.heap.size]? = some (.cells #[.int .i64 kd, .int .i64 n, .slice an ns.length cn, .slice ak ks.length ck] 33 (0, 0)) := (by rw [← hw, blk_if, if_neg (by simp), blk_if, if_pos rfl]); have ho2 : w2.heap[w.heap.size + 1]? = some (.cells #[.int .i64 0, .string ⟨#[]⟩, .slice none 0 0, .slice none 0 0] 25 (0, 0)) := (by rw [← hw, blk_if, if_pos (by simp)]); obtain ⟨⟨r0, r1, r2, r3⟩, -⟩ := four_blk hr2; obtain ⟨⟨o0, o1, o2, o3⟩, ⟨f0, f1, f2, f3⟩⟩ := four_blk ho2; have HB2 := Lib.hid hb2; have HR2 := Lib.hid hr2; have HO2 := Lib.hid ho2; clear hw hb2 hr2 ho2)
      | (go_at_call 51; (with_reducible refine (kid0_any (.mk kd n ns ks) ⟨kd, n, an, ns.length, cn, ak, ks.length, ck⟩ _ (HV.out.later (HB2.out.alloc (by omega) (.cells #[.int .i64 6, .string ⟨#[]⟩, .slice none 0 0, .slice none 0 0] 25)))).mono ?_); rintro e w3 ⟨rc, rfl, hrc, hb3⟩; have hz3 := hb3.size; simp at hz3; have hbw : Below w.heap.size w w3 := (HB2.out.alloc (by omega) _).trans (hb3.mono (by simp; omega)); have ht3 : w3.heap[w.heap.size + 2]? = some (.cells #[.int .i64 6, .string ⟨#[]⟩, .slice none 0 0, .slice none 0 0] 25 (0, 0)) := (hb3.block _ (by simp; omega)).trans (by rw [blk_if, if_pos (by omega)]); have ho3 : w3.heap[w.heap.size + 1]? = some (.cells #[.int .i64 0, .string ⟨#[]⟩, .slice none 0 0, .slice none 0 0] 25 (0, 0)) := (hb3.block _ (by simp; omega)).trans (by rw [blk_if, if_neg (by omega)]; exact HO2.out); have HRC := Lib.hid hrc; have HB3 := Lib.hid hbw; have HT3 := Lib.hid ht3; have HO3 := Lib.hid ho3; obtain ⟨rk, rn, ra1, ra2, ra3, ra4, ra5, ra6⟩ := rc; clear hrc hb3 hbw ht3 ho3)
      | (go_at_call 22; have CT := HIH.out _ _ names na nc w3 HRC.out (HNM.out.up HB3.out) hnl; (with_reducible refine CT.mono ?_); rintro e w4 ⟨xc, rfl, hxc, hb4⟩; have hz4 := hb4.size; have hbw : Below w.heap.size w w4 := HB3.out.trans (hb4.mono (by omega)); have ht4 : w4.heap[w.heap.size + 2]? = some (.cells #[.int .i64 6, .string ⟨#[]⟩, .slice none 0 0, .slice none 0 0] 25 (0, 0)) := (hb4.block _ (by omega)).trans HT3.out; have ho4 : w4.heap[w.heap.size + 1]? = some (.cells #[.int .i64 0, .string ⟨#[]⟩, .slice none 0 0, .slice none 0 0] 25 (0, 0)) := (hb4.block _ (by omega)).trans HO3.out; obtain ⟨⟨t0, t1, t2, t3⟩, ⟨y0, y1, y2, y3⟩⟩ := four_blk ht4; obtain ⟨⟨q0, q1, q2, q3⟩, ⟨x0, x1, x2, x3⟩⟩ := four_blk ho4; have hzw : w.heap.size + 2 < w4.heap.size := (by omega); have hzv : w.heap.size + 1 < w4.heap.size := (by omega); clear CT; have HXC := Lib.hid hxc; have HB4 := Lib.hid hbw; have HT4 := Lib.hid ht4; have HO4 := Lib.hid ho4; have hkk := hxc.kindZ; obtain ⟨xk, xn, xan, xln, xcn, xak, xlk, xck⟩ := xc; simp only at hkk; (rw [H6.out] at hkk; subst hkk); clear hxc hb4 hbw ht4 ho4))
    have hq6 : Only (w.heap.size + 2) w4 (w4.setCell ⟨w.heap.size + 2, 3, none⟩ (.slice (some ⟨w4.heap.size, 0, none⟩) 1 1)) := (Only.refl _ w4).setCell 3 _
    have hs1 := hq6.blk HO4.out (by omega)
    have hz6 : (w4.setCell ⟨w.heap.size + 2, 3, none⟩ (.slice (some ⟨w4.heap.size, 0, none⟩) 1 1)).heap.size = w4.heap.size := by simp
    have hPO := put4_only (w4.setCell ⟨w.heap.size + 2, 3, none⟩ (.slice (some ⟨w4.heap.size, 0, none⟩) 1 1)) (w.heap.size + 1) ⟨6, xn, xan, xln, xcn, xak, xlk, xck⟩
    have hz7 := put4_size (w4.setCell ⟨w.heap.size + 2, 3, none⟩ (.slice (some ⟨w4.heap.size, 0, none⟩) 1 1)) (w.heap.size + 1) ⟨6, xn, xan, xln, xcn, xak, xlk, xck⟩
    obtain ⟨⟨v0, v1, v2, v3⟩, -⟩ := four_blk (blk_allocZ (put4_at hs1 ⟨6, xn, xan, xln, xcn, xak, xlk, xck⟩) (.cells #[.int .i64 6, .string xn, .slice xan xln xcn, .slice xak xlk xck] 25))
    have hb7 : Below w.heap.size w (put4 (w4.setCell ⟨w.heap.size + 2, 3, none⟩ (.slice (some ⟨w4.heap.size, 0, none⟩) 1 1)) (w.heap.size + 1) ⟨6, xn, xan, xln, xcn, xak, xlk, xck⟩) := (HB4.out.trans (hq6.below (by omega) HB4.out.size)).trans (hPO.below (by omega) (by omega))
    have hbl : Below w.heap.size w ((put4 (w4.setCell ⟨w.heap.size + 2, 3, none⟩ (.slice (some ⟨w4.heap.size, 0, none⟩) 1 1)) (w.heap.size + 1) ⟨6, xn, xan, xln, xcn, xak, xlk, xck⟩).alloc (.cells #[.int .i64 6, .string xn, .slice xan xln xcn, .slice xak xlk xck] 25)) := hb7.alloc hb7.size _
    have hF : TzV ((put4 (w4.setCell ⟨w.heap.size + 2, 3, none⟩ (.slice (some ⟨w4.heap.size, 0, none⟩) 1 1)) (w.heap.size + 1) ⟨6, xn, xan, xln, xcn, xak, xlk, xck⟩).alloc (.cells #[.int .i64 6, .string xn, .slice xan xln xcn, .slice xak xlk xck] 25)) (New w.heap.size _) (treeR names d (kidR (.mk kd n ns ks) 0)) ⟨6, xn, xan, xln, xcn, xak, xlk, xck⟩ := ((HXC.out.past (Nat.le_refl _) hq6 (by omega)).past (by omega) hPO (by omega)).growN (Below.of_allocZ _ _ (Nat.le_refl _))
    unfold put4 at v0 v1 v2 v3 hbl hF
    refine bodyPost_ret (v := .agg #[.int .i64 6, .string xn, .slice xan xln xcn, .slice xak xlk xck]) (by simp [results, Try.results22, go_sem, v0, v1, v2, v3]) rfl ?_
    exact ⟨⟨6, xn, xan, xln, xcn, xak, xlk, xck⟩, rfl, hF, hbl⟩

set_option maxRecDepth 100000 in
set_option maxHeartbeats 8000000 in
theorem tree_5n (D d : Nat) (hD : D = d + 1) (ih : TreeC d) (hd : d ≤ 1000) (hd1 : 1 ≤ d) (kd n : Int) (ns : List Int) (ks : List Rw) (c : R4) (names : List (List UInt8)) (na : Option Addr) (nc : Nat) (w : World) (hV : RwV w (.mk kd n ns ks) c) (hnl : names.length ≤ 1000) (hnm : RowV w (Any w) na 1 (names.map fun n => [str n])) (hk0 : kd % 9 = 5) (h6 : (treeR names d (kidR (.mk kd n ns ks) 0)).kind ≠ 6) :
    Calls Try.prog 22 #[.agg #[.int .i64 c.k, .int .i64 c.n, .slice c.an c.ln c.cn, .slice c.ak c.lk c.ck], .int .i64 D, .slice na names.length nc] w (TreeP (treeR names D (.mk kd n ns ks)) w) := by
  have hT : topK names.length (d + 1) kd = 6 := by unfold topK; rw [hk0]; exact if_neg (by omega)
  rw [hD, treeR_kid names d kd n ns ks 6 hT (by omega), if_neg (fun h => h6 h.2), ← hD]
  have hV0 := hV
  cases hV with
  | mk _ _ _ _ an cn ak ck us hk hn hii hln hlk hl ha hb hu =>
    obtain ⟨hkl, hkh⟩ := hk
    have hdz : ¬ (D : Int) ≤ 1 := by omega
    have hdm : (D : Int) - 1 = (d : Int) := by omega
    have hdw : IntKind.i64.wrap ((D : Int) - 1) = (d : Int) := by rw [IntKind.wrap_i64]; omega
    have HK0 := Lib.hid hk0; have HV := Lib.hid hV0; have HNM := Lib.hid hnm; have HIH := Lib.hid ih; have HD := Lib.hid hD
    have H6 := Lib.hid h6
    clear hu hb ha hii hl hT hk0 hnm hV0 ih hD h6
    go_enter Try.func22, Try.ntmps22
    go_wp2_with (first
      | (go_at_call 50; (with_reducible refine (within3_is _ _ _ _ (by omega) (by omega) hkl hkh HK0.out).mono ?_); rintro e w2 ⟨rfl, hw⟩; have hz2 : w2.heap.size = w.heap.size + 2 := (by rw [← hw]; simp); have hb2 : Below w.heap.size w w2 := (by rw [← hw]; exact ((Below.refl _ _).alloc (Nat.le_refl _) _).alloc (by simp) _); have hr2 : w2.heap[w.heap.size]? = some (.cells #[.int .i64 kd, .int .i64 n, .slice an ns.length cn, .slice ak ks.length ck] 33 (0, 0)) := (by rw [← hw, blk_if, if_neg (by simp), blk_if, if_pos rfl]); have ho2 : w2.heap[w.heap.size + 1]? = some (.cells #[.int .i64 0, .string ⟨#[]⟩, .slice none 0 0, .slice none 0 0] 25 (0, 0)) := (by rw [← hw, blk_if, if_pos (by simp)]); obtain ⟨⟨r0, r1, r2, r3⟩, -⟩ := four_blk hr2; obtain ⟨⟨o0, o1, o2, o3⟩, ⟨f0, f1, f2, f3⟩⟩ := four_blk ho2; have HB2 := Lib.hid hb2; have HR2 := Lib.hid hr2; have HO2 := Lib.hid ho2; clear hw hb2 hr2 ho2)
      | (go_at_call 51; (with_reducible refine (kid0_any (.mk kd n ns ks) ⟨kd, n, an, ns.length, cn, ak, ks.length, ck⟩ _ (HV.out.later (HB2.out.alloc (by omega) (.cells #[.int .i64 6, .string ⟨#[]⟩, .slice none 0 0, .slice none 0 0] 25)))).mono ?_); rintro e w3 ⟨rc, rfl, hrc, hb3⟩; have hz3 := hb3.size; simp at hz3; have hbw : Below w.heap.size w w3 := (HB2.out.alloc (by omega) _).trans (hb3.mono (by simp; omega)); have ht3 : w3.heap[w.heap.size + 2]? = some (.cells #[.int .i64 6, .string ⟨#[]⟩, .slice none 0 0, .slice none 0 0] 25 (0, 0)) := (hb3.block _ (by simp; omega)).trans (by rw [blk_if, if_pos (by omega)]); have ho3 : w3.heap[w.heap.size + 1]? = some (.cells #[.int .i64 0, .string ⟨#[]⟩, .slice none 0 0, .slice none 0 0] 25 (0, 0)) := (hb3.block _ (by simp; omega)).trans (by rw [blk_if, if_neg (by omega)]; exact HO2.out); have HRC := Lib.hid hrc; have HB3 := Lib.hid hbw; have HT3 := Lib.hid ht3; have HO3 := Lib.hid ho3; obtain ⟨rk, rn, ra1, ra2, ra3, ra4, ra5, ra6⟩ := rc; clear hrc hb3 hbw ht3 ho3)
      | (go_at_call 22; have CT := HIH.out _ _ names na nc w3 HRC.out (HNM.out.up HB3.out) hnl; (with_reducible refine CT.mono ?_); rintro e w4 ⟨xc, rfl, hxc, hb4⟩; have hz4 := hb4.size; have hbw : Below w.heap.size w w4 := HB3.out.trans (hb4.mono (by omega)); have ht4 : w4.heap[w.heap.size + 2]? = some (.cells #[.int .i64 6, .string ⟨#[]⟩, .slice none 0 0, .slice none 0 0] 25 (0, 0)) := (hb4.block _ (by omega)).trans HT3.out; have ho4 : w4.heap[w.heap.size + 1]? = some (.cells #[.int .i64 0, .string ⟨#[]⟩, .slice none 0 0, .slice none 0 0] 25 (0, 0)) := (hb4.block _ (by omega)).trans HO3.out; obtain ⟨⟨t0, t1, t2, t3⟩, ⟨y0, y1, y2, y3⟩⟩ := four_blk ht4; obtain ⟨⟨q0, q1, q2, q3⟩, ⟨x0, x1, x2, x3⟩⟩ := four_blk ho4; have hzw : w.heap.size + 2 < w4.heap.size := (by omega); have hzv : w.heap.size + 1 < w4.heap.size := (by omega); clear CT; have HXC := Lib.hid hxc; have HB4 := Lib.hid hbw; have HT4 := Lib.hid ht4; have HO4 := Lib.hid ho4; have hkk := hxc.kindZ; obtain ⟨xk, xn, xan, xln, xcn, xak, xlk, xck⟩ := xc; simp only at hkk; (have hk6 : (xk == 6) = false := (by rw [hkk, beq_eq_false_iff_ne]; exact H6.out); clear hkk); clear hxc hb4 hbw ht4 ho4))
    have hq6 : Only (w.heap.size + 2) w4 (w4.setCell ⟨w.heap.size + 2, 3, none⟩ (.slice (some ⟨w4.heap.size, 0, none⟩) 1 1)) := (Only.refl _ w4).setCell 3 _
    have hs1 := hq6.blk HO4.out (by omega)
    have hz6 : (w4.setCell ⟨w.heap.size + 2, 3, none⟩ (.slice (some ⟨w4.heap.size, 0, none⟩) 1 1)).heap.size = w4.heap.size := by simp
    have hPO := put4_only (w4.setCell ⟨w.heap.size + 2, 3, none⟩ (.slice (some ⟨w4.heap.size, 0, none⟩) 1 1)) (w.heap.size + 1) ⟨6, ⟨#[]⟩, none, 0, 0, some ⟨w4.heap.size, 0, none⟩, 1, 1⟩
    have hz7 := put4_size (w4.setCell ⟨w.heap.size + 2, 3, none⟩ (.slice (some ⟨w4.heap.size, 0, none⟩) 1 1)) (w.heap.size + 1) ⟨6, ⟨#[]⟩, none, 0, 0, some ⟨w4.heap.size, 0, none⟩, 1, 1⟩
    obtain ⟨⟨v0, v1, v2, v3⟩, -⟩ := four_blk (blk_allocZ (put4_at hs1 ⟨6, ⟨#[]⟩, none, 0, 0, some ⟨w4.heap.size, 0, none⟩, 1, 1⟩) (.cells #[.int .i64 xk, .string xn, .slice xan xln xcn, .slice xak xlk xck] 25))
    have hk1 : ((put4 (w4.setCell ⟨w.heap.size + 2, 3, none⟩ (.slice (some ⟨w4.heap.size, 0, none⟩) 1 1)) (w.heap.size + 1) ⟨6, ⟨#[]⟩, none, 0, 0, some ⟨w4.heap.size, 0, none⟩, 1, 1⟩).alloc (.cells #[.int .i64 xk, .string xn, .slice xan xln xcn, .slice xak xlk xck] 25)).heap[w4.heap.size]? = some (.cells #[.int .i64 xk, .string xn, .slice xan xln xcn, .slice xak xlk xck] 25 (0, 0)) := by rw [blk_if, if_pos (by omega)]
    have hb7 : Below w.heap.size w (put4 (w4.setCell ⟨w.heap.size + 2, 3, none⟩ (.slice (some ⟨w4.heap.size, 0, none⟩) 1 1)) (w.heap.size + 1) ⟨6, ⟨#[]⟩, none, 0, 0, some ⟨w4.heap.size, 0, none⟩, 1, 1⟩) := (HB4.out.trans (hq6.below (by omega) HB4.out.size)).trans (hPO.below (by omega) (by omega))
    have hbl : Below w.heap.size w ((put4 (w4.setCell ⟨w.heap.size + 2, 3, none⟩ (.slice (some ⟨w4.heap.size, 0, none⟩) 1 1)) (w.heap.size + 1) ⟨6, ⟨#[]⟩, none, 0, 0, some ⟨w4.heap.size, 0, none⟩, 1, 1⟩).alloc (.cells #[.int .i64 xk, .string xn, .slice xan xln xcn, .slice xak xlk xck] 25)) := hb7.alloc hb7.size _
    have hX : TzV ((put4 (w4.setCell ⟨w.heap.size + 2, 3, none⟩ (.slice (some ⟨w4.heap.size, 0, none⟩) 1 1)) (w.heap.size + 1) ⟨6, ⟨#[]⟩, none, 0, 0, some ⟨w4.heap.size, 0, none⟩, 1, 1⟩).alloc (.cells #[.int .i64 xk, .string xn, .slice xan xln xcn, .slice xak xlk xck] 25)) (New w.heap.size _) (treeR names d (kidR (.mk kd n ns ks) 0)) ⟨xk, xn, xan, xln, xcn, xak, xlk, xck⟩ := ((HXC.out.past (Nat.le_refl _) hq6 (by omega)).past (by omega) hPO (by omega)).growN (Below.of_allocZ _ _ (Nat.le_refl _))
    have hF := TzV.kidN (S := New w.heap.size _) (g := w4.heap.size) (ty := 25) (fr := (0, 0)) 6 hk1 ⟨by omega, (Array.getElem?_eq_some_iff.1 hk1).1⟩ hX
    unfold put4 at v0 v1 v2 v3 hbl hF
    refine bodyPost_ret (v := .agg #[.int .i64 6, .string ⟨#[]⟩, .slice none 0 0, .slice (some ⟨w4.heap.size, 0, none⟩) 1 1]) (by simp [results, Try.results22, go_sem, v0, v1, v2, v3]) rfl ?_
    exact ⟨⟨6, ⟨#[]⟩, none, 0, 0, some ⟨w4.heap.size, 0, none⟩, 1, 1⟩, rfl, hF, hbl⟩
end Sp
end Go.Proofs.Ytjjpjkkaogfoaaa

namespace Go.Proofs.Ytjjpjkkaogfoaaa
open Go.RowKit
namespace Sp
open Sc

set_option maxRecDepth 100000 in
set_option maxHeartbeats 16000000 in
theorem tree_6r (D d : Nat) (hD : D = d + 1) (ih : TreeC d) (hd : d ≤ 1000) (hd1 : 1 ≤ d) (kd n : Int) (ns : List Int) (ks : List Rw) (c : R4) (names : List (List UInt8)) (na : Option Addr) (nc : Nat) (w : World) (hV : RwV w (.mk kd n ns ks) c) (hnl : names.length ≤ 1000) (hnm : RowV w (Any w) na 1 (names.map fun n => [str n])) (hk0 : kd % 9 = 6) :
    Calls Try.prog 22 #[.agg #[.int .i64 c.k, .int .i64 c.n, .slice c.an c.ln c.cn, .slice c.ak c.lk c.ck], .int .i64 D, .slice na names.length nc] w (TreeP (treeR names D (.mk kd n ns ks)) w) := by
  have hT : topK names.length (d + 1) kd = 7 := by unfold topK; rw [hk0]; exact if_neg (by omega)
  rw [hD, treeR_recT names d kd n ns ks 7 hT (by omega), ← hD]
  have hV0 := hV
  cases hV with
  | mk _ _ _ _ an cn ak ck us hk hn hii hln hlk hl ha hb hu =>
    obtain ⟨hkl, hkh⟩ := hk
    have hdz : ¬ (D : Int) ≤ 1 := by omega
    have hdm : (D : Int) - 1 = (d : Int) := by omega
    have hdw : IntKind.i64.wrap ((D : Int) - 1) = (d : Int) := by rw [IntKind.wrap_i64]; omega
    have HK0 := Lib.hid hk0; have HV := Lib.hid hV0; have HNM := Lib.hid hnm; have HIH := Lib.hid ih; have HD := Lib.hid hD; have HA := Lib.hid ha; have HI := Lib.hid hii
    clear hu hb ha hii hl hT hk0 hnm hV0 ih hD
    go_enter Try.func22, Try.ntmps22
    go_wp2_with (go_at_call 50; (with_reducible refine (within3_is _ _ _ _ (by omega) (by omega) hkl hkh HK0.out).mono ?_); rintro e w2 ⟨rfl, hw⟩; have hz2 : w2.heap.size = w.heap.size + 2 := (by rw [← hw]; simp); have hb2 : Below w.heap.size w w2 := (by rw [← hw]; exact ((Below.refl _ _).alloc (Nat.le_refl _) _).alloc (by simp) _); have hr2 : w2.heap[w.heap.size]? = some (.cells #[.int .i64 kd, .int .i64 n, .slice an ns.length cn, .slice ak ks.length ck] 33 (0, 0)) := (by rw [← hw, blk_if, if_neg (by simp), blk_if, if_pos rfl]); have ho2 : w2.heap[w.heap.size + 1]? = some (.cells #[.int .i64 0, .string ⟨#[]⟩, .slice none 0 0, .slice none 0 0] 25 (0, 0)) := (by rw [← hw, blk_if, if_pos (by simp)]); obtain ⟨⟨r0, r1, r2, r3⟩, -⟩ := four_blk hr2; obtain ⟨⟨o0, o1, o2, o3⟩, ⟨f0, f1, f2, f3⟩⟩ := four_blk ho2; have HB2 := Lib.hid hb2; have HR2 := Lib.hid hr2; have HO2 := Lib.hid ho2; clear hw hb2 hr2 ho2)
    go_loopw [9] (fun iv wr => ∃ i, TRel w ⟨kd, n, an, ns.length, cn, ak, ks.length, ck⟩ names d kd n ns ks 7 iv wr i) (fun iv _ => 5 - (intOf iv).toNat)
    case atStart => exact ⟨0, rfl, Nat.zero_le _, by simp; omega, HB2.out.alloc (by omega) _, by rw [blk_if, if_neg (by omega)]; exact HR2.out, by rw [blk_if, if_neg (by omega)]; exact HO2.out, ⟨7, ⟨#[]⟩, none, 0, 0, none, 0, 0⟩, by rw [blk_if, if_pos (by omega)], TzV.leaf _ _ 7 [], ⟨Nat.le_refl _, Nat.le_refl _⟩⟩
    case round =>
      obtain ⟨i, h⟩ := hrel
      obtain rfl := h.slot
      have hzr := h.size
      have hle := h.le
      have hle4 : i ≤ 4 := by unfold fldM at hle; simp at hle; omega
      obtain ⟨⟨tk, tn, tan, tln, tcn, tak, tlk, tck⟩, htt, hvt, hct⟩ := h.var
      simp only at htt
      obtain ⟨⟨r0, r1, r2, r3⟩, _⟩ := four_blk h.raw
      obtain ⟨⟨t0, t1, t2, t3⟩, _⟩ := four_blk htt
      have H := Lib.hid h; have HTT := Lib.hid htt; have HVT := Lib.hid hvt; have HCT := Lib.hid hct
      clear h htt hvt hct
      by_cases hil : i < ns.length
      · by_cases hi4 : i < 4
        · have hiz : (i : Int) < (ns.length : Int) := by omega
          have hi4z : (i : Int) < 4 := by omega
          have hi0 : (0 : Int) ≤ (i : Int) := by omega
          obtain ⟨gi, oi, rfl, hgi, hci⟩ := int_name HA.out i hil
          have c0 := hci wr H.out.below
          have hii1 := HI.out _ (List.getElem_mem hil)
          have hnm' : fldN ns i = nameL ns[i] := by unfold fldN; rw [List.getElem?_eq_getElem hil]
          have HII := Lib.hid hii1; have HNE := Lib.hid hnm'
          clear hci hii1 hnm'
          generalize ns[i] = nz at *
          go_wp2_with (go_at_call 52; (with_reducible refine (Name3_any nz wr HII.out).mono ?_); rintro e w5 ⟨rfl, hb5⟩; have HB5 := Lib.hid hb5; have hz5 := hb5.size; clear hb5)
          generalize nameL nz = nm at *
          refine wp_region_by (TJ w w.heap.size D d i ⟨tk, tn, tan, tln, tcn, tak, tlk, tck⟩ nm ⟨kd, n, (some ⟨gi, oi, none⟩), ns.length, cn, ak, ks.length, ck⟩ na names.length nc (recT names d kd n ns ks 7 i) (treeR names d (kidR (.mk kd n ns ks) i)) (putT nm (treeR names d (kidR (.mk kd n ns ks) i)) (recT names d kd n ns ks 7 i)) (kidR (.mk kd n ns ks) i)) (by kernel_rfl) ?_ ?_ ?_
          · exact ⟨by simp, Closed.start _, fun q => match q with
              | 0 => .agg #[.int .i64 tk, .string tn, .slice tan tln tcn, .slice tak tlk tck]
              | 1 => .string ⟨(nm : List UInt8).toArray⟩
              | 2 => .agg #[.int .i64 kd, .int .i64 n, .slice (some ⟨gi, oi, none⟩) ns.length cn, .slice ak ks.length ck]
              | 3 => .int .i64 i
              | 5 => .int .i64 D
              | 6 => .int .i64 d
              | 7 => .slice na names.length nc
              | _ => undef, Fr.start _ _ _, ⟨rfl, rfl, rfl, rfl, rfl, rfl, rfl⟩, by simp only [rep_getD]; exact TM.start (by omega) (H.out.below.trans (HB5.out.mono (by omega))) ((HB5.out.block _ (by omega)).trans H.out.raw) ((HB5.out.block _ (by omega)).trans H.out.zer) ((HB5.out.block _ (by omega)).trans HTT.out) (HVT.out.growN HB5.out)⟩
          · intro listed b v q hJ hi
            obtain ⟨hsz, hC, vals, hF, hV, hM⟩ := hJ
            obtain ⟨hl1, hi11⟩ := not_up hsz hi
            obtain ⟨_, o, ho, hdeps⟩ := mem_ready.1 hi
            have hi11 : q < 11 := hi11
            have h10 : listed.getD 10 false = true → listed.getD 9 false = true := fun h => hC 10 _ rfl h ⟨9, .data⟩ (by simp) rfl
            have h9 : listed.getD 9 false = true → listed.getD 8 false = true := fun h => hC 9 _ rfl h ⟨8, .data⟩ (by simp) rfl
            have h90 : listed.getD 9 false = true → listed.getD 0 false = true := fun h => hC 9 _ rfl h ⟨0, .data⟩ (by simp) rfl
            have h8 : listed.getD 8 false = true → listed.getD 4 false = true := fun h => hC 8 _ rfl h ⟨4, .data⟩ (by simp) rfl
            obtain rfl | rfl | rfl | rfl | rfl | rfl | rfl | rfl | rfl | rfl | rfl : q = 0 ∨ q = 1 ∨ q = 2 ∨ q = 3 ∨ q = 5 ∨ q = 6 ∨ q = 7 ∨ q = 4 ∨ q = 8 ∨ q = 9 ∨ q = 10 := by omega
            · cases ho
              have l10 : listed.getD 10 false = false := by
                cases hh : listed.getD 10 false
                · rfl
                · have := h90 (h10 hh); rw [hl1] at this; cases this
              obtain ⟨⟨z0, z1, z2, z3⟩, _⟩ := four_blk (hM.told l10)
              have e := hF.old_is 8 (by rfl) rfl
              refine TJ.quiet hsz hC hi hF hV hM (Slots.of (by rfl)) rfl rfl (by decide) ?_
              rw [hV.v0]
              simp [execOp, go_sem, e, z0, z1, z2, z3]
            · cases ho
              have e := hF.old_is 10 (by rfl) rfl
              refine TJ.quiet hsz hC hi hF hV hM (Slots.of (by rfl)) rfl rfl (by decide) ?_
              rw [hV.v1]
              simp [execOp, go_sem, e]
            · cases ho
              obtain ⟨⟨z0, z1, z2, z3⟩, _⟩ := four_blk hM.raw
              have e := hF.old_is 3 (by rfl) rfl
              refine TJ.quiet hsz hC hi hF hV hM (Slots.of (by rfl)) rfl rfl (by decide) ?_
              rw [hV.v2]
              simp [execOp, go_sem, e, z0, z1, z2, z3]
            · cases ho
              have e := hF.old_is 9 (by rfl) rfl
              refine TJ.quiet hsz hC hi hF hV hM (Slots.of (by rfl)) rfl rfl (by decide) ?_
              rw [hV.v3]
              simp [execOp, go_sem, e]
            · cases ho
              have e := hF.old_is 1 (by rfl) rfl
              refine TJ.quiet hsz hC hi hF hV hM (Slots.of (by rfl)) rfl rfl (by decide) ?_
              rw [hV.v5]
              simp [execOp, go_sem, e]
            · cases ho
              have e := hF.up 5 112 rfl (hdeps ⟨5, .data⟩ (by simp) rfl)
              rw [hV.v5] at e
              refine TJ.quiet hsz hC hi hF hV hM (Slots.of (by rfl)) rfl rfl (by decide) ?_
              rw [hV.v6]
              simp [execOp, go_sem, e, hdw]
            · cases ho
              have e := hF.old_is 2 (by rfl) rfl
              refine TJ.quiet hsz hC hi hF hV hM (Slots.of (by rfl)) rfl rfl (by decide) ?_
              rw [hV.v7]
              simp [execOp, go_sem, e]
            · cases ho
              have l8 : listed.getD 8 false = false := by
                cases hh : listed.getD 8 false
                · rfl
                · have := h8 hh; rw [hl1] at this; cases this
              have l9 : listed.getD 9 false = false := by
                cases hh : listed.getD 9 false
                · rfl
                · have := h9 hh; rw [l8] at this; cases this
              have l10 : listed.getD 10 false = false := by
                cases hh : listed.getD 10 false
                · rfl
                · have := h10 hh; rw [l9] at this; cases this
              have e := hF.up 2 109 rfl (hdeps ⟨2, .data⟩ (by simp) rfl)
              rw [hV.v2] at e
              have f := hF.up 3 110 rfl (hdeps ⟨3, .data⟩ (by simp) rfl)
              rw [hV.v3] at f
              rw [hl1, l8, l9, l10] at hM
              refine wpOp_call (f := 51) (args := #[.agg #[.int .i64 kd, .int .i64 n, .slice (some ⟨gi, oi, none⟩) ns.length cn, .slice ak ks.length ck], .int .i64 i]) rfl rfl (by simp [execOp, go_sem, e, f]) (kid_any (.mk kd n ns ks) ⟨kd, n, (some ⟨gi, oi, none⟩), ns.length, cn, ak, ks.length, ck⟩ i v (by omega) (HV.out.later hM.below)) ?_
              rintro e w' ⟨kc, rfl, hk, hb⟩
              refine ⟨_, rfl, ?_⟩
              obtain ⟨vals', hvals⟩ : ∃ vals' : Nat → Value, vals' = fun q => if q = 4 then (Value.agg #[.int .i64 kc.k, .int .i64 kc.n, .slice kc.an kc.ln kc.cn, .slice kc.ak kc.lk kc.ck]) else vals q := ⟨_, rfl⟩
              have hF' : Fr _ _ vals' listed b := hF.congr (fun i h => by rw [hvals]; exact if_neg (by rintro rfl; rw [hl1] at h; cases h))
              have hV' : TV D d i ⟨tk, tn, tan, tln, tcn, tak, tlk, tck⟩ nm ⟨kd, n, (some ⟨gi, oi, none⟩), ns.length, cn, ak, ks.length, ck⟩ na names.length nc vals' := by rw [hvals]; exact ⟨hV.v0, hV.v1, hV.v2, hV.v3, hV.v5, hV.v6, hV.v7⟩
              have hn : vals' 4 = (Value.agg #[.int .i64 kc.k, .int .i64 kc.n, .slice kc.an kc.ln kc.cn, .slice kc.ak kc.lk kc.ck]) := by rw [hvals]; rfl
              refine ⟨by simpa using hsz, hC.put hi, vals', hn ▸ hF'.put (Slots.of (by rfl)) hsz rfl, hV', ?_⟩
              rw [getD_setE (i := 4) (by simp [hsz]), getD_setN (show 4 ≠ 8 by decide), getD_setN (show 4 ≠ 9 by decide), getD_setN (show 4 ≠ 10 by decide), l8, l9, l10]
              exact hM.kidded hn hk hb
            · cases ho
              have l4 := hdeps ⟨4, .data⟩ (by simp) rfl
              have l9 : listed.getD 9 false = false := by
                cases hh : listed.getD 9 false
                · rfl
                · have := h9 hh; rw [hl1] at this; cases this
              have l10 : listed.getD 10 false = false := by
                cases hh : listed.getD 10 false
                · rfl
                · have := h10 hh; rw [l9] at this; cases this
              rw [l4, hl1, l9, l10] at hM
              obtain ⟨kc, hkc, hkv⟩ := hM.kid rfl rfl
              have e := hF.up 4 111 rfl l4
              rw [hkc] at e
              have f := hF.up 6 113 rfl (hdeps ⟨6, .data⟩ (by simp) rfl)
              rw [hV.v6] at f
              have g := hF.up 7 114 rfl (hdeps ⟨7, .data⟩ (by simp) rfl)
              rw [hV.v7] at g
              have CT := HIH.out _ kc names na nc v hkv (HNM.out.up hM.below) hnl
              refine wpOp_call (f := 22) (args := #[.agg #[.int .i64 kc.k, .int .i64 kc.n, .slice kc.an kc.ln kc.cn, .slice kc.ak kc.lk kc.ck], .int .i64 d, .slice na names.length nc]) rfl rfl (by simp [execOp, go_sem, e, f, g]) CT ?_
              rintro e w' ⟨xc, rfl, hk, hb⟩
              refine ⟨_, rfl, ?_⟩
              obtain ⟨vals', hvals⟩ : ∃ vals' : Nat → Value, vals' = fun q => if q = 8 then (Value.agg #[.int .i64 xc.k, .string xc.n, .slice xc.an xc.ln xc.cn, .slice xc.ak xc.lk xc.ck]) else vals q := ⟨_, rfl⟩
              have hF' : Fr _ _ vals' listed b := hF.congr (fun i h => by rw [hvals]; exact if_neg (by rintro rfl; rw [hl1] at h; cases h))
              have hV' : TV D d i ⟨tk, tn, tan, tln, tcn, tak, tlk, tck⟩ nm ⟨kd, n, (some ⟨gi, oi, none⟩), ns.length, cn, ak, ks.length, ck⟩ na names.length nc vals' := by rw [hvals]; exact ⟨hV.v0, hV.v1, hV.v2, hV.v3, hV.v5, hV.v6, hV.v7⟩
              have hn : vals' 8 = (Value.agg #[.int .i64 xc.k, .string xc.n, .slice xc.an xc.ln xc.cn, .slice xc.ak xc.lk xc.ck]) := by rw [hvals]; rfl
              refine ⟨by simpa using hsz, hC.put hi, vals', hn ▸ hF'.put (Slots.of (by rfl)) hsz rfl, hV', ?_⟩
              rw [getD_setE (i := 8) (by simp [hsz]), getD_setN (show 8 ≠ 4 by decide), getD_setN (show 8 ≠ 9 by decide), getD_setN (show 8 ≠ 10 by decide), l4, l9, l10]
              exact hM.treed hn hk hb
            · cases ho
              have l8 := hdeps ⟨8, .data⟩ (by simp) rfl
              have l4 := h8 l8
              have l10 : listed.getD 10 false = false := by
                cases hh : listed.getD 10 false
                · rfl
                · have := h10 hh; rw [hl1] at this; cases this
              rw [l4, l8, hl1, l10] at hM
              obtain ⟨xc, hxc, hxv⟩ := hM.tree rfl rfl
              have hov := hM.old rfl
              have e := hF.up 0 107 rfl (hdeps ⟨0, .data⟩ (by simp) rfl)
              rw [hV.v0] at e
              have f := hF.up 1 108 rfl (hdeps ⟨1, .data⟩ (by simp) rfl)
              rw [hV.v1] at f
              have g := hF.up 8 115 rfl l8
              rw [hxc] at g
              obtain ⟨ms, us, hrf, hr1, hr2⟩ := recT_form names d kd n ns ks 7 i
              rw [hrf] at hov
              have CT := put_any 7 [] ms us nm _ ⟨tk, tn, tan, tln, tcn, tak, tlk, tck⟩ xc (w.heap.size + 3) v hM.size hov hxv hr1 (by omega) HCT.out
              refine wpOp_call (f := 53) (args := #[.agg #[.int .i64 tk, .string tn, .slice tan tln tcn, .slice tak tlk tck], .string ⟨(nm : List UInt8).toArray⟩, .agg #[.int .i64 xc.k, .string xc.n, .slice xc.an xc.ln xc.cn, .slice xc.ak xc.lk xc.ck]]) rfl rfl (by simp [execOp, go_sem, e, f, g]) CT ?_
              rintro e w' ⟨pc, rfl, hk, hcap, hb⟩
              rw [← hrf] at hk
              refine ⟨_, rfl, ?_⟩
              obtain ⟨vals', hvals⟩ : ∃ vals' : Nat → Value, vals' = fun q => if q = 9 then (Value.agg #[.int .i64 pc.k, .string pc.n, .slice pc.an pc.ln pc.cn, .slice pc.ak pc.lk pc.ck]) else vals q := ⟨_, rfl⟩
              have hF' : Fr _ _ vals' listed b := hF.congr (fun i h => by rw [hvals]; exact if_neg (by rintro rfl; rw [hl1] at h; cases h))
              have hV' : TV D d i ⟨tk, tn, tan, tln, tcn, tak, tlk, tck⟩ nm ⟨kd, n, (some ⟨gi, oi, none⟩), ns.length, cn, ak, ks.length, ck⟩ na names.length nc vals' := by rw [hvals]; exact ⟨hV.v0, hV.v1, hV.v2, hV.v3, hV.v5, hV.v6, hV.v7⟩
              have hn : vals' 9 = (Value.agg #[.int .i64 pc.k, .string pc.n, .slice pc.an pc.ln pc.cn, .slice pc.ak pc.lk pc.ck]) := by rw [hvals]; rfl
              refine ⟨by simpa using hsz, hC.put hi, vals', hn ▸ hF'.put (Slots.of (by rfl)) hsz rfl, hV', ?_⟩
              rw [getD_setE (i := 9) (by simp [hsz]), getD_setN (show 9 ≠ 4 by decide), getD_setN (show 9 ≠ 8 by decide), getD_setN (show 9 ≠ 10 by decide), l4, l8, l10]
              exact hM.putted hn hk hcap hb
            · cases ho
              have l9 := hdeps ⟨9, .data⟩ (by simp) rfl
              have l8 := h9 l9
              have l4 := h8 l8
              rw [l4, l8, l9, hl1] at hM
              obtain ⟨⟨z0, z1, z2, z3⟩, ⟨y0, y1, y2, y3⟩⟩ := four_blk (hM.told rfl)
              obtain ⟨pc, hpc, _⟩ := hM.put rfl
              have e := hF.old_is 8 (by rfl) rfl
              have f := hF.up 9 116 rfl l9
              rw [hpc] at f
              refine wpOp_wp rfl rfl ?_
              unfold Oper.wp Oper.upon
              simp [execOp, go_sem, e, f, z0, z1, z2, z3, y0, y1, y2, y3]
              refine ⟨by simpa using hsz, hC.put hi, vals, hF.put (i := 10) (Slots.of (by rfl)) hsz rfl, hV, ?_⟩
              rw [getD_setE (i := 10) (by simp [hsz]), getD_setN (show 10 ≠ 4 by decide), getD_setN (show 10 ≠ 8 by decide), getD_setN (show 10 ≠ 9 by decide), l4, l8, l9]
              exact hM.stored hpc
          · intro listed b v hJ hr
            obtain ⟨hsz, hC, vals, hF, hV, hM⟩ := hJ
            have hall := all_upB (by rfl) hsz hr
            have hb : b = putAll _ vals _ 11 := hF.done (Slots.of (by rfl)) hall
            rw [hall 4 (by decide), hall 8 (by decide), hall 9 (by decide), hall 10 (by decide)] at hM
            subst hb
            simp only [putAll, hV.v0, hV.v1, hV.v2, hV.v3, hV.v5, hV.v6, hV.v7]
            simp [dstOf]
            obtain ⟨pc, _, hk, hcap, hat⟩ := hM.put rfl
            have HM := Lib.hid hM; have HK := Lib.hid hk; have HCAP := Lib.hid hcap; have HAT := Lib.hid (hat rfl)
            clear hM hk hcap hat hF hV hC hall hr hsz
            go_wp2
            go_roundw
            case rel => exact ⟨i + 1, by go_num, by rw [fldM, if_neg (by decide)]; omega, HM.out.size, HM.out.below, HM.out.raw, HM.out.zer, pc, HAT.out, by rw [recT_succ, HNE.out]; exact HK.out, HCAP.out⟩
            case measure => simp [intOf]; omega
        · have hiz : (i : Int) < (ns.length : Int) := by omega
          have hi4z : ¬ (i : Int) < 4 := by omega
          have hi0 : ((i : Int) == 0) = false := by rw [beq_eq_false_iff_ne]; omega
          have hend : recT names d kd n ns ks 7 i = recT names d kd n ns ks 7 (fldM 7 ns) := by rw [show i = fldM 7 ns by unfold fldM at hle ⊢; simp at hle ⊢; omega]
          have HL := Lib.hid hend
          clear hend
          obtain ⟨⟨q0, q1, q2, q3⟩, ⟨x0, x1, x2, x3⟩⟩ := four_blk H.out.zer
          obtain ⟨⟨v0, v1, v2, v3⟩, _⟩ := four_blk (put4_at H.out.zer ⟨tk, tn, tan, tln, tcn, tak, tlk, tck⟩)
          have hPO := put4_only wr (w.heap.size + 1) ⟨tk, tn, tan, tln, tcn, tak, tlk, tck⟩
          have HBL := Lib.hid (H.out.below.trans (hPO.below (by omega) (by omega)))
          have HF := Lib.hid ((HVT.out.past (a := w.heap.size) (by omega) hPO (by omega)))
          clear hPO
          have hzw : w.heap.size + 1 < wr.heap.size := (by omega)
          unfold put4 at v0 v1 v2 v3
          go_wp2
          refine bodyPost_ret (v := .agg #[.int .i64 tk, .string tn, .slice tan tln tcn, .slice tak tlk tck]) (by simp [results, Try.results22, go_sem, v0, v1, v2, v3]) rfl ?_
          have hF := HF.out
          rw [HL.out] at hF
          exact ⟨⟨tk, tn, tan, tln, tcn, tak, tlk, tck⟩, rfl, hF, HBL.out⟩
      · by_cases hi0n : i = 0
        · have hiz : ¬ (i : Int) < (ns.length : Int) := by omega
          have hi0 : ((i : Int) == 0) = true := by rw [beq_iff_eq]; omega
          have hend : recT names d kd n ns ks 7 i = recT names d kd n ns ks 7 (fldM 7 ns) := by rw [show i = fldM 7 ns by unfold fldM at hle ⊢; simp at hle ⊢; omega]
          have HL := Lib.hid hend
          clear hend
          obtain ⟨⟨q0, q1, q2, q3⟩, ⟨x0, x1, x2, x3⟩⟩ := four_blk H.out.zer
          obtain ⟨⟨v0, v1, v2, v3⟩, _⟩ := four_blk (put4_at H.out.zer ⟨tk, tn, tan, tln, tcn, tak, tlk, tck⟩)
          have hPO := put4_only wr (w.heap.size + 1) ⟨tk, tn, tan, tln, tcn, tak, tlk, tck⟩
          have HBL := Lib.hid (H.out.below.trans (hPO.below (by omega) (by omega)))
          have HF := Lib.hid ((HVT.out.past (a := w.heap.size) (by omega) hPO (by omega)))
          clear hPO
          have hzw : w.heap.size + 1 < wr.heap.size := (by omega)
          unfold put4 at v0 v1 v2 v3
          go_wp2
          refine bodyPost_ret (v := .agg #[.int .i64 tk, .string tn, .slice tan tln tcn, .slice tak tlk tck]) (by simp [results, Try.results22, go_sem, v0, v1, v2, v3]) rfl ?_
          have hF := HF.out
          rw [HL.out] at hF
          exact ⟨⟨tk, tn, tan, tln, tcn, tak, tlk, tck⟩, rfl, hF, HBL.out⟩
        · have hiz : ¬ (i : Int) < (ns.length : Int) := by omega
          have hi0 : ((i : Int) == 0) = false := by rw [beq_eq_false_iff_ne]; omega
          have hend : recT names d kd n ns ks 7 i = recT names d kd n ns ks 7 (fldM 7 ns) := by rw [show i = fldM 7 ns by unfold fldM at hle ⊢; simp at hle ⊢; omega]
          have HL := Lib.hid hend
          clear hend
          obtain ⟨⟨q0, q1, q2, q3⟩, ⟨x0, x1, x2, x3⟩⟩ := four_blk H.out.zer
          obtain ⟨⟨v0, v1, v2, v3⟩, _⟩ := four_blk (put4_at H.out.zer ⟨tk, tn, tan, tln, tcn, tak, tlk, tck⟩)
          have hPO := put4_only wr (w.heap.size + 1) ⟨tk, tn, tan, tln, tcn, tak, tlk, tck⟩
          have HBL := Lib.hid (H.out.below.trans (hPO.below (by omega) (by omega)))
          have HF := Lib.hid ((HVT.out.past (a := w.heap.size) (by omega) hPO (by omega)))
          clear hPO
          have hzw : w.heap.size + 1 < wr.heap.size := (by omega)
          unfold put4 at v0 v1 v2 v3
          go_wp2
          refine bodyPost_ret (v := .agg #[.int .i64 tk, .string tn, .slice tan tln tcn, .slice tak tlk tck]) (by simp [results, Try.results22, go_sem, v0, v1, v2, v3]) rfl ?_
          have hF := HF.out
          rw [HL.out] at hF
          exact ⟨⟨tk, tn, tan, tln, tcn, tak, tlk, tck⟩, rfl, hF, HBL.out⟩
end Sp
end Go.Proofs.Ytjjpjkkaogfoaaa

namespace Go.Proofs.Ytjjpjkkaogfoaaa
open Go.RowKit
namespace Sp
open Sc

set_option maxRecDepth 100000 in
set_option maxHeartbeats 16000000 in
theorem tree_7r (D d : Nat) (hD : D = d + 1) (ih : TreeC d) (hd : d ≤ 1000) (hd1 : 1 ≤ d) (kd n : Int) (ns : List Int) (ks : List Rw) (c : R4) (names : List (List UInt8)) (na : Option Addr) (nc : Nat) (w : World) (hV : RwV w (.mk kd n ns ks) c) (hnl : names.length ≤ 1000) (hnm : RowV w (Any w) na 1 (names.map fun n => [str n])) (hk0 : kd % 9 = 7) :
    Calls Try.prog 22 #[.agg #[.int .i64 c.k, .int .i64 c.n, .slice c.an c.ln c.cn, .slice c.ak c.lk c.ck], .int .i64 D, .slice na names.length nc] w (TreeP (treeR names D (.mk kd n ns ks)) w) := by
  have hT : topK names.length (d + 1) kd = 8 := by unfold topK; rw [hk0]; exact if_neg (by omega)
  rw [hD, treeR_recT names d kd n ns ks 8 hT (by omega), ← hD]
  have hV0 := hV
  cases hV with
  | mk _ _ _ _ an cn ak ck us hk hn hii hln hlk hl ha hb hu =>
    obtain ⟨hkl, hkh⟩ := hk
    have hdz : ¬ (D : Int) ≤ 1 := by omega
    have hdm : (D : Int) - 1 = (d : Int) := by omega
    have hdw : IntKind.i64.wrap ((D : Int) - 1) = (d : Int) := by rw [IntKind.wrap_i64]; omega
    have HK0 := Lib.hid hk0; have HV := Lib.hid hV0; have HNM := Lib.hid hnm; have HIH := Lib.hid ih; have HD := Lib.hid hD; have HA := Lib.hid ha; have HI := Lib.hid hii
    clear hu hb ha hii hl hT hk0 hnm hV0 ih hD
    go_enter Try.func22, Try.ntmps22
    go_wp2_with (go_at_call 50; (with_reducible refine (within3_is _ _ _ _ (by omega) (by omega) hkl hkh HK0.out).mono ?_); rintro e w2 ⟨rfl, hw⟩; have hz2 : w2.heap.size = w.heap.size + 2 := (by rw [← hw]; simp); have hb2 : Below w.heap.size w w2 := (by rw [← hw]; exact ((Below.refl _ _).alloc (Nat.le_refl _) _).alloc (by simp) _); have hr2 : w2.heap[w.heap.size]? = some (.cells #[.int .i64 kd, .int .i64 n, .slice an ns.length cn, .slice ak ks.length ck] 33 (0, 0)) := (by rw [← hw, blk_if, if_neg (by simp), blk_if, if_pos rfl]); have ho2 : w2.heap[w.heap.size + 1]? = some (.cells #[.int .i64 0, .string ⟨#[]⟩, .slice none 0 0, .slice none 0 0] 25 (0, 0)) := (by rw [← hw, blk_if, if_pos (by simp)]); obtain ⟨⟨r0, r1, r2, r3⟩, -⟩ := four_blk hr2; obtain ⟨⟨o0, o1, o2, o3⟩, ⟨f0, f1, f2, f3⟩⟩ := four_blk ho2; have HB2 := Lib.hid hb2; have HR2 := Lib.hid hr2; have HO2 := Lib.hid ho2; clear hw hb2 hr2 ho2)
    go_loopw [9] (fun iv wr => ∃ i, TRel w ⟨kd, n, an, ns.length, cn, ak, ks.length, ck⟩ names d kd n ns ks 8 iv wr i) (fun iv _ => 5 - (intOf iv).toNat)
    case atStart => exact ⟨0, rfl, Nat.zero_le _, by simp; omega, HB2.out.alloc (by omega) _, by rw [blk_if, if_neg (by omega)]; exact HR2.out, by rw [blk_if, if_neg (by omega)]; exact HO2.out, ⟨8, ⟨#[]⟩, none, 0, 0, none, 0, 0⟩, by rw [blk_if, if_pos (by omega)], TzV.leaf _ _ 8 [], ⟨Nat.le_refl _, Nat.le_refl _⟩⟩
    case round =>
      obtain ⟨i, h⟩ := hrel
      obtain rfl := h.slot
      have hzr := h.size
      have hle := h.le
      have hle4 : i ≤ 4 := by unfold fldM at hle; simp at hle; omega
      obtain ⟨⟨tk, tn, tan, tln, tcn, tak, tlk, tck⟩, htt, hvt, hct⟩ := h.var
      simp only at htt
      obtain ⟨⟨r0, r1, r2, r3⟩, _⟩ := four_blk h.raw
      obtain ⟨⟨t0, t1, t2, t3⟩, _⟩ := four_blk htt
      have H := Lib.hid h; have HTT := Lib.hid htt; have HVT := Lib.hid hvt; have HCT := Lib.hid hct
      clear h htt hvt hct
      by_cases hil : i < ns.length
      · by_cases hi4 : i < 4
        · have hiz : (i : Int) < (ns.length : Int) := by omega
          have hi4z : (i : Int) < 4 := by omega
          have hi0 : (0 : Int) ≤ (i : Int) := by omega
          obtain ⟨gi, oi, rfl, hgi, hci⟩ := int_name HA.out i hil
          have c0 := hci wr H.out.below
          have hii1 := HI.out _ (List.getElem_mem hil)
          have hnm' : fldN ns i = nameL ns[i] := by unfold fldN; rw [List.getElem?_eq_getElem hil]
          have HII := Lib.hid hii1; have HNE := Lib.hid hnm'
          clear hci hii1 hnm'
          generalize ns[i] = nz at *
          go_wp2_with (go_at_call 52; (with_reducible refine (Name3_any nz wr HII.out).mono ?_); rintro e w5 ⟨rfl, hb5⟩; have HB5 := Lib.hid hb5; have hz5 := hb5.size; clear hb5)
          generalize nameL nz = nm at *
          refine wp_region_by (TJ w w.heap.size D d i ⟨tk, tn, tan, tln, tcn, tak, tlk, tck⟩ nm ⟨kd, n, (some ⟨gi, oi, none⟩), ns.length, cn, ak, ks.length, ck⟩ na names.length nc (recT names d kd n ns ks 8 i) (treeR names d (kidR (.mk kd n ns ks) i)) (putT nm (treeR names d (kidR (.mk kd n ns ks) i)) (recT names d kd n ns ks 8 i)) (kidR (.mk kd n ns ks) i)) (by kernel_rfl) ?_ ?_ ?_
          · exact ⟨by simp, Closed.start _, fun q => match q with
              | 0 => .agg #[.int .i64 tk, .string tn, .slice tan tln tcn, .slice tak tlk tck]
              | 1 => .string ⟨(nm : List UInt8).toArray⟩
              | 2 => .agg #[.int .i64 kd, .int .i64 n, .slice (some ⟨gi, oi, none⟩) ns.length cn, .slice ak ks.length ck]
              | 3 => .int .i64 i
              | 5 => .int .i64 D
              | 6 => .int .i64 d
              | 7 => .slice na names.length nc
              | _ => undef, Fr.start _ _ _, ⟨rfl, rfl, rfl, rfl, rfl, rfl, rfl⟩, by simp only [rep_getD]; exact TM.start (by omega) (H.out.below.trans (HB5.out.mono (by omega))) ((HB5.out.block _ (by omega)).trans H.out.raw) ((HB5.out.block _ (by omega)).trans H.out.zer) ((HB5.out.block _ (by omega)).trans HTT.out) (HVT.out.growN HB5.out)⟩
          · intro listed b v q hJ hi
            obtain ⟨hsz, hC, vals, hF, hV, hM⟩ := hJ
            obtain ⟨hl1, hi11⟩ := not_up hsz hi
            obtain ⟨_, o, ho, hdeps⟩ := mem_ready.1 hi
            have hi11 : q < 11 := hi11
            have h10 : listed.getD 10 false = true → listed.getD 9 false = true := fun h => hC 10 _ rfl h ⟨9, .data⟩ (by simp) rfl
            have h9 : listed.getD 9 false = true → listed.getD 8 false = true := fun h => hC 9 _ rfl h ⟨8, .data⟩ (by simp) rfl
            have h90 : listed.getD 9 false = true → listed.getD 0 false = true := fun h => hC 9 _ rfl h ⟨0, .data⟩ (by simp) rfl
            have h8 : listed.getD 8 false = true → listed.getD 4 false = true := fun h => hC 8 _ rfl h ⟨4, .data⟩ (by simp) rfl
            obtain rfl | rfl | rfl | rfl | rfl | rfl | rfl | rfl | rfl | rfl | rfl : q = 0 ∨ q = 1 ∨ q = 2 ∨ q = 3 ∨ q = 5 ∨ q = 6 ∨ q = 7 ∨ q = 4 ∨ q = 8 ∨ q = 9 ∨ q = 10 := by omega
            · cases ho
              have l10 : listed.getD 10 false = false := by
                cases hh : listed.getD 10 false
                · rfl
                · have := h90 (h10 hh); rw [hl1] at this; cases this
              obtain ⟨⟨z0, z1, z2, z3⟩, _⟩ := four_blk (hM.told l10)
              have e := hF.old_is 8 (by rfl) rfl
              refine TJ.quiet hsz hC hi hF hV hM (Slots.of (by rfl)) rfl rfl (by decide) ?_
              rw [hV.v0]
              simp [execOp, go_sem, e, z0, z1, z2, z3]
            · cases ho
              have e := hF.old_is 10 (by rfl) rfl
              refine TJ.quiet hsz hC hi hF hV hM (Slots.of (by rfl)) rfl rfl (by decide) ?_
              rw [hV.v1]
              simp [execOp, go_sem, e]
            · cases ho
              obtain ⟨⟨z0, z1, z2, z3⟩, _⟩ := four_blk hM.raw
              have e := hF.old_is 3 (by rfl) rfl
              refine TJ.quiet hsz hC hi hF hV hM (Slots.of (by rfl)) rfl rfl (by decide) ?_
              rw [hV.v2]
              simp [execOp, go_sem, e, z0, z1, z2, z3]
            · cases ho
              have e := hF.old_is 9 (by rfl) rfl
              refine TJ.quiet hsz hC hi hF hV hM (Slots.of (by rfl)) rfl rfl (by decide) ?_
              rw [hV.v3]
              simp [execOp, go_sem, e]
            · cases ho
              have e := hF.old_is 1 (by rfl) rfl
              refine TJ.quiet hsz hC hi hF hV hM (Slots.of (by rfl)) rfl rfl (by decide) ?_
              rw [hV.v5]
              simp [execOp, go_sem, e]
            · cases ho
              have e := hF.up 5 112 rfl (hdeps ⟨5, .data⟩ (by simp) rfl)
              rw [hV.v5] at e
              refine TJ.quiet hsz hC hi hF hV hM (Slots.of (by rfl)) rfl rfl (by decide) ?_
              rw [hV.v6]
              simp [execOp, go_sem, e, hdw]
            · cases ho
              have e := hF.old_is 2 (by rfl) rfl
              refine TJ.quiet hsz hC hi hF hV hM (Slots.of (by rfl)) rfl rfl (by decide) ?_
              rw [hV.v7]
              simp [execOp, go_sem, e]
            · cases ho
              have l8 : listed.getD 8 false = false := by
                cases hh : listed.getD 8 false
                · rfl
                · have := h8 hh; rw [hl1] at this; cases this
              have l9 : listed.getD 9 false = false := by
                cases hh : listed.getD 9 false
                · rfl
                · have := h9 hh; rw [l8] at this; cases this
              have l10 : listed.getD 10 false = false := by
                cases hh : listed.getD 10 false
                · rfl
                · have := h10 hh; rw [l9] at this; cases this
              have e := hF.up 2 109 rfl (hdeps ⟨2, .data⟩ (by simp) rfl)
              rw [hV.v2] at e
              have f := hF.up 3 110 rfl (hdeps ⟨3, .data⟩ (by simp) rfl)
              rw [hV.v3] at f
              rw [hl1, l8, l9, l10] at hM
              refine wpOp_call (f := 51) (args := #[.agg #[.int .i64 kd, .int .i64 n, .slice (some ⟨gi, oi, none⟩) ns.length cn, .slice ak ks.length ck], .int .i64 i]) rfl rfl (by simp [execOp, go_sem, e, f]) (kid_any (.mk kd n ns ks) ⟨kd, n, (some ⟨gi, oi, none⟩), ns.length, cn, ak, ks.length, ck⟩ i v (by omega) (HV.out.later hM.below)) ?_
              rintro e w' ⟨kc, rfl, hk, hb⟩
              refine ⟨_, rfl, ?_⟩
              obtain ⟨vals', hvals⟩ : ∃ vals' : Nat → Value, vals' = fun q => if q = 4 then (Value.agg #[.int .i64 kc.k, .int .i64 kc.n, .slice kc.an kc.ln kc.cn, .slice kc.ak kc.lk kc.ck]) else vals q := ⟨_, rfl⟩
              have hF' : Fr _ _ vals' listed b := hF.congr (fun i h => by rw [hvals]; exact if_neg (by rintro rfl; rw [hl1] at h; cases h))
              have hV' : TV D d i ⟨tk, tn, tan, tln, tcn, tak, tlk, tck⟩ nm ⟨kd, n, (some ⟨gi, oi, none⟩), ns.length, cn, ak, ks.length, ck⟩ na names.length nc vals' := by rw [hvals]; exact ⟨hV.v0, hV.v1, hV.v2, hV.v3, hV.v5, hV.v6, hV.v7⟩
              have hn : vals' 4 = (Value.agg #[.int .i64 kc.k, .int .i64 kc.n, .slice kc.an kc.ln kc.cn, .slice kc.ak kc.lk kc.ck]) := by rw [hvals]; rfl
              refine ⟨by simpa using hsz, hC.put hi, vals', hn ▸ hF'.put (Slots.of (by rfl)) hsz rfl, hV', ?_⟩
              rw [getD_setE (i := 4) (by simp [hsz]), getD_setN (show 4 ≠ 8 by decide), getD_setN (show 4 ≠ 9 by decide), getD_setN (show 4 ≠ 10 by decide), l8, l9, l10]
              exact hM.kidded hn hk hb
            · cases ho
              have l4 := hdeps ⟨4, .data⟩ (by simp) rfl
              have l9 : listed.getD 9 false = false := by
                cases hh : listed.getD 9 false
                · rfl
                · have := h9 hh; rw [hl1] at this; cases this
              have l10 : listed.getD 10 false = false := by
                cases hh : listed.getD 10 false
                · rfl
                · have := h10 hh; rw [l9] at this; cases this
              rw [l4, hl1, l9, l10] at hM
              obtain ⟨kc, hkc, hkv⟩ := hM.kid rfl rfl
              have e := hF.up 4 111 rfl l4
              rw [hkc] at e
              have f := hF.up 6 113 rfl (hdeps ⟨6, .data⟩ (by simp) rfl)
              rw [hV.v6] at f
              have g := hF.up 7 114 rfl (hdeps ⟨7, .data⟩ (by simp) rfl)
              rw [hV.v7] at g
              have CT := HIH.out _ kc names na nc v hkv (HNM.out.up hM.below) hnl
              refine wpOp_call (f := 22) (args := #[.agg #[.int .i64 kc.k, .int .i64 kc.n, .slice kc.an kc.ln kc.cn, .slice kc.ak kc.lk kc.ck], .int .i64 d, .slice na names.length nc]) rfl rfl (by simp [execOp, go_sem, e, f, g]) CT ?_
              rintro e w' ⟨xc, rfl, hk, hb⟩
              refine ⟨_, rfl, ?_⟩
              obtain ⟨vals', hvals⟩ : ∃ vals' : Nat → Value, vals' = fun q => if q = 8 then (Value.agg #[.int .i64 xc.k, .string xc.n, .slice xc.an xc.ln xc.cn, .slice xc.ak xc.lk xc.ck]) else vals q := ⟨_, rfl⟩
              have hF' : Fr _ _ vals' listed b := hF.congr (fun i h => by rw [hvals]; exact if_neg (by rintro rfl; rw [hl1] at h; cases h))
              have hV' : TV D d i ⟨tk, tn, tan, tln, tcn, tak, tlk, tck⟩ nm ⟨kd, n, (some ⟨gi, oi, none⟩), ns.length, cn, ak, ks.length, ck⟩ na names.length nc vals' := by rw [hvals]; exact ⟨hV.v0, hV.v1, hV.v2, hV.v3, hV.v5, hV.v6, hV.v7⟩
              have hn : vals' 8 = (Value.agg #[.int .i64 xc.k, .string xc.n, .slice xc.an xc.ln xc.cn, .slice xc.ak xc.lk xc.ck]) := by rw [hvals]; rfl
              refine ⟨by simpa using hsz, hC.put hi, vals', hn ▸ hF'.put (Slots.of (by rfl)) hsz rfl, hV', ?_⟩
              rw [getD_setE (i := 8) (by simp [hsz]), getD_setN (show 8 ≠ 4 by decide), getD_setN (show 8 ≠ 9 by decide), getD_setN (show 8 ≠ 10 by decide), l4, l9, l10]
              exact hM.treed hn hk hb
            · cases ho
              have l8 := hdeps ⟨8, .data⟩ (by simp) rfl
              have l4 := h8 l8
              have l10 : listed.getD 10 false = false := by
                cases hh : listed.getD 10 false
                · rfl
                · have := h10 hh; rw [hl1] at this; cases this
              rw [l4, l8, hl1, l10] at hM
              obtain ⟨xc, hxc, hxv⟩ := hM.tree rfl rfl
              have hov := hM.old rfl
              have e := hF.up 0 107 rfl (hdeps ⟨0, .data⟩ (by simp) rfl)
              rw [hV.v0] at e
              have f := hF.up 1 108 rfl (hdeps ⟨1, .data⟩ (by simp) rfl)
              rw [hV.v1] at f
              have g := hF.up 8 115 rfl l8
              rw [hxc] at g
              obtain ⟨ms, us, hrf, hr1, hr2⟩ := recT_form names d kd n ns ks 8 i
              rw [hrf] at hov
              have CT := put_any 8 [] ms us nm _ ⟨tk, tn, tan, tln, tcn, tak, tlk, tck⟩ xc (w.heap.size + 3) v hM.size hov hxv hr1 (by omega) HCT.out
              refine wpOp_call (f := 53) (args := #[.agg #[.int .i64 tk, .string tn, .slice tan tln tcn, .slice tak tlk tck], .string ⟨(nm : List UInt8).toArray⟩, .agg #[.int .i64 xc.k, .string xc.n, .slice xc.an xc.ln xc.cn, .slice xc.ak xc.lk xc.ck]]) rfl rfl (by simp [execOp, go_sem, e, f, g]) CT ?_
              rintro e w' ⟨pc, rfl, hk, hcap, hb⟩
              rw [← hrf] at hk
              refine ⟨_, rfl, ?_⟩
              obtain ⟨vals', hvals⟩ : ∃ vals' : Nat → Value, vals' = fun q => if q = 9 then (Value.agg #[.int .i64 pc.k, .string pc.n, .slice pc.an pc.ln pc.cn, .slice pc.ak pc.lk pc.ck]) else vals q := ⟨_, rfl⟩
              have hF' : Fr _ _ vals' listed b := hF.congr (fun i h => by rw [hvals]; exact if_neg (by rintro rfl; rw [hl1] at h; cases h))
              have hV' : TV D d i ⟨tk, tn, tan, tln, tcn, tak, tlk, tck⟩ nm ⟨kd, n, (some ⟨gi, oi, none⟩), ns.length, cn, ak, ks.length, ck⟩ na names.length nc vals' := by rw [hvals]; exact ⟨hV.v0, hV.v1, hV.v2, hV.v3, hV.v5, hV.v6, hV.v7⟩
              have hn : vals' 9 = (Value.agg #[.int .i64 pc.k, .string pc.n, .slice pc.an pc.ln pc.cn, .slice pc.ak pc.lk pc.ck]) := by rw [hvals]; rfl
              refine ⟨by simpa using hsz, hC.put hi, vals', hn ▸ hF'.put (Slots.of (by rfl)) hsz rfl, hV', ?_⟩
              rw [getD_setE (i := 9) (by simp [hsz]), getD_setN (show 9 ≠ 4 by decide), getD_setN (show 9 ≠ 8 by decide), getD_setN (show 9 ≠ 10 by decide), l4, l8, l10]
              exact hM.putted hn hk hcap hb
            · cases ho
              have l9 := hdeps ⟨9, .data⟩ (by simp) rfl
              have l8 := h9 l9
              have l4 := h8 l8
              rw [l4, l8, l9, hl1] at hM
              obtain ⟨⟨z0, z1, z2, z3⟩, ⟨y0, y1, y2, y3⟩⟩ := four_blk (hM.told rfl)
              obtain ⟨pc, hpc, _⟩ := hM.put rfl
              have e := hF.old_is 8 (by rfl) rfl
              have f := hF.up 9 116 rfl l9
              rw [hpc] at f
              refine wpOp_wp rfl rfl ?_
              unfold Oper.wp Oper.upon
              simp [execOp, go_sem, e, f, z0, z1, z2, z3, y0, y1, y2, y3]
              refine ⟨by simpa using hsz, hC.put hi, vals, hF.put (i := 10) (Slots.of (by rfl)) hsz rfl, hV, ?_⟩
              rw [getD_setE (i := 10) (by simp [hsz]), getD_setN (show 10 ≠ 4 by decide), getD_setN (show 10 ≠ 8 by decide), getD_setN (show 10 ≠ 9 by decide), l4, l8, l9]
              exact hM.stored hpc
          · intro listed b v hJ hr
            obtain ⟨hsz, hC, vals, hF, hV, hM⟩ := hJ
            have hall := all_upB (by rfl) hsz hr
            have hb : b = putAll _ vals _ 11 := hF.done (Slots.of (by rfl)) hall
            rw [hall 4 (by decide), hall 8 (by decide), hall 9 (by decide), hall 10 (by decide)] at hM
            subst hb
            simp only [putAll, hV.v0, hV.v1, hV.v2, hV.v3, hV.v5, hV.v6, hV.v7]
            simp [dstOf]
            obtain ⟨pc, _, hk, hcap, hat⟩ := hM.put rfl
            have HM := Lib.hid hM; have HK := Lib.hid hk; have HCAP := Lib.hid hcap; have HAT := Lib.hid (hat rfl)
            clear hM hk hcap hat hF hV hC hall hr hsz
            go_wp2
            go_roundw
            case rel => exact ⟨i + 1, by go_num, by rw [fldM, if_pos rfl]; omega, HM.out.size, HM.out.below, HM.out.raw, HM.out.zer, pc, HAT.out, by rw [recT_succ, HNE.out]; exact HK.out, HCAP.out⟩
            case measure => simp [intOf]; omega
        · have hiz : (i : Int) < (ns.length : Int) := by omega
          have hi4z : ¬ (i : Int) < 4 := by omega
          have hi0 : ((i : Int) == 0) = false := by rw [beq_eq_false_iff_ne]; omega
          have hend : recT names d kd n ns ks 8 i = recT names d kd n ns ks 8 (fldM 8 ns) := by rw [show i = fldM 8 ns by unfold fldM at hle ⊢; simp at hle ⊢; omega]
          have HL := Lib.hid hend
          clear hend
          obtain ⟨⟨q0, q1, q2, q3⟩, ⟨x0, x1, x2, x3⟩⟩ := four_blk H.out.zer
          obtain ⟨⟨v0, v1, v2, v3⟩, _⟩ := four_blk (put4_at H.out.zer ⟨tk, tn, tan, tln, tcn, tak, tlk, tck⟩)
          have hPO := put4_only wr (w.heap.size + 1) ⟨tk, tn, tan, tln, tcn, tak, tlk, tck⟩
          have HBL := Lib.hid (H.out.below.trans (hPO.below (by omega) (by omega)))
          have HF := Lib.hid ((HVT.out.past (a := w.heap.size) (by omega) hPO (by omega)))
          clear hPO
          have hzw : w.heap.size + 1 < wr.heap.size := (by omega)
          unfold put4 at v0 v1 v2 v3
          go_wp2
          refine bodyPost_ret (v := .agg #[.int .i64 tk, .string tn, .slice tan tln tcn, .slice tak tlk tck]) (by simp [results, Try.results22, go_sem, v0, v1, v2, v3]) rfl ?_
          have hF := HF.out
          rw [HL.out] at hF
          exact ⟨⟨tk, tn, tan, tln, tcn, tak, tlk, tck⟩, rfl, hF, HBL.out⟩
      · by_cases hi0n : i = 0
        · have hiz : ¬ (i : Int) < (ns.length : Int) := by omega
          have hi0 : ((i : Int) == 0) = true := by rw [beq_iff_eq]; omega
          have hnm' : fldN ns i = [117] := by unfold fldN; rw [List.getElem?_eq_none (by omega)]
          have HNE := Lib.hid hnm'
          clear hnm'
          go_wp2
          refine wp_region_by (TJ w w.heap.size D d i ⟨tk, tn, tan, tln, tcn, tak, tlk, tck⟩ [117] ⟨kd, n, an, ns.length, cn, ak, ks.length, ck⟩ na names.length nc (recT names d kd n ns ks 8 i) (treeR names d (kidR (.mk kd n ns ks) i)) (putT [117] (treeR names d (kidR (.mk kd n ns ks) i)) (recT names d kd n ns ks 8 i)) (kidR (.mk kd n ns ks) i)) (by kernel_rfl) ?_ ?_ ?_
          · exact ⟨by simp, Closed.start _, fun q => match q with
              | 0 => .agg #[.int .i64 tk, .string tn, .slice tan tln tcn, .slice tak tlk tck]
              | 1 => .string ⟨([117] : List UInt8).toArray⟩
              | 2 => .agg #[.int .i64 kd, .int .i64 n, .slice an ns.length cn, .slice ak ks.length ck]
              | 3 => .int .i64 i
              | 5 => .int .i64 D
              | 6 => .int .i64 d
              | 7 => .slice na names.length nc
              | _ => undef, Fr.start _ _ _, ⟨rfl, rfl, rfl, rfl, rfl, rfl, rfl⟩, by simp only [rep_getD]; exact TM.start (by omega) H.out.below H.out.raw H.out.zer HTT.out HVT.out⟩
          · intro listed b v q hJ hi
            obtain ⟨hsz, hC, vals, hF, hV, hM⟩ := hJ
            obtain ⟨hl1, hi11⟩ := not_up hsz hi
            obtain ⟨_, o, ho, hdeps⟩ := mem_ready.1 hi
            have hi11 : q < 11 := hi11
            have h10 : listed.getD 10 false = true → listed.getD 9 false = true := fun h => hC 10 _ rfl h ⟨9, .data⟩ (by simp) rfl
            have h9 : listed.getD 9 false = true → listed.getD 8 false = true := fun h => hC 9 _ rfl h ⟨8, .data⟩ (by simp) rfl
            have h90 : listed.getD 9 false = true → listed.getD 0 false = true := fun h => hC 9 _ rfl h ⟨0, .data⟩ (by simp) rfl
            have h8 : listed.getD 8 false = true → listed.getD 4 false = true := fun h => hC 8 _ rfl h ⟨4, .data⟩ (by simp) rfl
            obtain rfl | rfl | rfl | rfl | rfl | rfl | rfl | rfl | rfl | rfl | rfl : q = 0 ∨ q = 1 ∨ q = 2 ∨ q = 3 ∨ q = 5 ∨ q = 6 ∨ q = 7 ∨ q = 4 ∨ q = 8 ∨ q = 9 ∨ q = 10 := by omega
            · cases ho
              have l10 : listed.getD 10 false = false := by
                cases hh : listed.getD 10 false
                · rfl
                · have := h90 (h10 hh); rw [hl1] at this; cases this
              obtain ⟨⟨z0, z1, z2, z3⟩, _⟩ := four_blk (hM.told l10)
              have e := hF.old_is 8 (by rfl) rfl
              refine TJ.quiet hsz hC hi hF hV hM (Slots.of (by rfl)) rfl rfl (by decide) ?_
              rw [hV.v0]
              simp [execOp, go_sem, e, z0, z1, z2, z3]
            · cases ho
              have e := hF.old_is 10 (by rfl) rfl
              refine TJ.quiet hsz hC hi hF hV hM (Slots.of (by rfl)) rfl rfl (by decide) ?_
              rw [hV.v1]
              simp [execOp, go_sem, e]
            · cases ho
              obtain ⟨⟨z0, z1, z2, z3⟩, _⟩ := four_blk hM.raw
              have e := hF.old_is 3 (by rfl) rfl
              refine TJ.quiet hsz hC hi hF hV hM (Slots.of (by rfl)) rfl rfl (by decide) ?_
              rw [hV.v2]
              simp [execOp, go_sem, e, z0, z1, z2, z3]
            · cases ho
              have e := hF.old_is 9 (by rfl) rfl
              refine TJ.quiet hsz hC hi hF hV hM (Slots.of (by rfl)) rfl rfl (by decide) ?_
              rw [hV.v3]
              simp [execOp, go_sem, e]; omega
            · cases ho
              have e := hF.old_is 1 (by rfl) rfl
              refine TJ.quiet hsz hC hi hF hV hM (Slots.of (by rfl)) rfl rfl (by decide) ?_
              rw [hV.v5]
              simp [execOp, go_sem, e]
            · cases ho
              have e := hF.up 5 112 rfl (hdeps ⟨5, .data⟩ (by simp) rfl)
              rw [hV.v5] at e
              refine TJ.quiet hsz hC hi hF hV hM (Slots.of (by rfl)) rfl rfl (by decide) ?_
              rw [hV.v6]
              simp [execOp, go_sem, e, hdw]
            · cases ho
              have e := hF.old_is 2 (by rfl) rfl
              refine TJ.quiet hsz hC hi hF hV hM (Slots.of (by rfl)) rfl rfl (by decide) ?_
              rw [hV.v7]
              simp [execOp, go_sem, e]
            · cases ho
              have l8 : listed.getD 8 false = false := by
                cases hh : listed.getD 8 false
                · rfl
                · have := h8 hh; rw [hl1] at this; cases this
              have l9 : listed.getD 9 false = false := by
                cases hh : listed.getD 9 false
                · rfl
                · have := h9 hh; rw [l8] at this; cases this
              have l10 : listed.getD 10 false = false := by
                cases hh : listed.getD 10 false
                · rfl
                · have := h10 hh; rw [l9] at this; cases this
              have e := hF.up 2 109 rfl (hdeps ⟨2, .data⟩ (by simp) rfl)
              rw [hV.v2] at e
              have f := hF.up 3 110 rfl (hdeps ⟨3, .data⟩ (by simp) rfl)
              rw [hV.v3] at f
              rw [hl1, l8, l9, l10] at hM
              refine wpOp_call (f := 51) (args := #[.agg #[.int .i64 kd, .int .i64 n, .slice an ns.length cn, .slice ak ks.length ck], .int .i64 i]) rfl rfl (by simp [execOp, go_sem, e, f]) (kid_any (.mk kd n ns ks) ⟨kd, n, an, ns.length, cn, ak, ks.length, ck⟩ i v (by omega) (HV.out.later hM.below)) ?_
              rintro e w' ⟨kc, rfl, hk, hb⟩
              refine ⟨_, rfl, ?_⟩
              obtain ⟨vals', hvals⟩ : ∃ vals' : Nat → Value, vals' = fun q => if q = 4 then (Value.agg #[.int .i64 kc.k, .int .i64 kc.n, .slice kc.an kc.ln kc.cn, .slice kc.ak kc.lk kc.ck]) else vals q := ⟨_, rfl⟩
              have hF' : Fr _ _ vals' listed b := hF.congr (fun i h => by rw [hvals]; exact if_neg (by rintro rfl; rw [hl1] at h; cases h))
              have hV' : TV D d i ⟨tk, tn, tan, tln, tcn, tak, tlk, tck⟩ [117] ⟨kd, n, an, ns.length, cn, ak, ks.length, ck⟩ na names.length nc vals' := by rw [hvals]; exact ⟨hV.v0, hV.v1, hV.v2, hV.v3, hV.v5, hV.v6, hV.v7⟩
              have hn : vals' 4 = (Value.agg #[.int .i64 kc.k, .int .i64 kc.n, .slice kc.an kc.ln kc.cn, .slice kc.ak kc.lk kc.ck]) := by rw [hvals]; rfl
              refine ⟨by simpa using hsz, hC.put hi, vals', hn ▸ hF'.put (Slots.of (by rfl)) hsz rfl, hV', ?_⟩
              rw [getD_setE (i := 4) (by simp [hsz]), getD_setN (show 4 ≠ 8 by decide), getD_setN (show 4 ≠ 9 by decide), getD_setN (show 4 ≠ 10 by decide), l8, l9, l10]
              exact hM.kidded hn hk hb
            · cases ho
              have l4 := hdeps ⟨4, .data⟩ (by simp) rfl
              have l9 : listed.getD 9 false = false := by
                cases hh : listed.getD 9 false
                · rfl
                · have := h9 hh; rw [hl1] at this; cases this
              have l10 : listed.getD 10 false = false := by
                cases hh : listed.getD 10 false
                · rfl
                · have := h10 hh; rw [l9] at this; cases this
              rw [l4, hl1, l9, l10] at hM
              obtain ⟨kc, hkc, hkv⟩ := hM.kid rfl rfl
              have e := hF.up 4 111 rfl l4
              rw [hkc] at e
              have f := hF.up 6 113 rfl (hdeps ⟨6, .data⟩ (by simp) rfl)
              rw [hV.v6] at f
              have g := hF.up 7 114 rfl (hdeps ⟨7, .data⟩ (by simp) rfl)
              rw [hV.v7] at g
              have CT := HIH.out _ kc names na nc v hkv (HNM.out.up hM.below) hnl
              refine wpOp_call (f := 22) (args := #[.agg #[.int .i64 kc.k, .int .i64 kc.n, .slice kc.an kc.ln kc.cn, .slice kc.ak kc.lk kc.ck], .int .i64 d, .slice na names.length nc]) rfl rfl (by simp [execOp, go_sem, e, f, g]) CT ?_
              rintro e w' ⟨xc, rfl, hk, hb⟩
              refine ⟨_, rfl, ?_⟩
              obtain ⟨vals', hvals⟩ : ∃ vals' : Nat → Value, vals' = fun q => if q = 8 then (Value.agg #[.int .i64 xc.k, .string xc.n, .slice xc.an xc.ln xc.cn, .slice xc.ak xc.lk xc.ck]) else vals q := ⟨_, rfl⟩
              have hF' : Fr _ _ vals' listed b := hF.congr (fun i h => by rw [hvals]; exact if_neg (by rintro rfl; rw [hl1] at h; cases h))
              have hV' : TV D d i ⟨tk, tn, tan, tln, tcn, tak, tlk, tck⟩ [117] ⟨kd, n, an, ns.length, cn, ak, ks.length, ck⟩ na names.length nc vals' := by rw [hvals]; exact ⟨hV.v0, hV.v1, hV.v2, hV.v3, hV.v5, hV.v6, hV.v7⟩
              have hn : vals' 8 = (Value.agg #[.int .i64 xc.k, .string xc.n, .slice xc.an xc.ln xc.cn, .slice xc.ak xc.lk xc.ck]) := by rw [hvals]; rfl
              refine ⟨by simpa using hsz, hC.put hi, vals', hn ▸ hF'.put (Slots.of (by rfl)) hsz rfl, hV', ?_⟩
              rw [getD_setE (i := 8) (by simp [hsz]), getD_setN (show 8 ≠ 4 by decide), getD_setN (show 8 ≠ 9 by decide), getD_setN (show 8 ≠ 10 by decide), l4, l9, l10]
              exact hM.treed hn hk hb
            · cases ho
              have l8 := hdeps ⟨8, .data⟩ (by simp) rfl
              have l4 := h8 l8
              have l10 : listed.getD 10 false = false := by
                cases hh : listed.getD 10 false
                · rfl
                · have := h10 hh; rw [hl1] at this; cases this
              rw [l4, l8, hl1, l10] at hM
              obtain ⟨xc, hxc, hxv⟩ := hM.tree rfl rfl
              have hov := hM.old rfl
              have e := hF.up 0 107 rfl (hdeps ⟨0, .data⟩ (by simp) rfl)
              rw [hV.v0] at e
              have f := hF.up 1 108 rfl (hdeps ⟨1, .data⟩ (by simp) rfl)
              rw [hV.v1] at f
              have g := hF.up 8 115 rfl l8
              rw [hxc] at g
              obtain ⟨ms, us, hrf, hr1, hr2⟩ := recT_form names d kd n ns ks 8 i
              rw [hrf] at hov
              have CT := put_any 8 [] ms us [117] _ ⟨tk, tn, tan, tln, tcn, tak, tlk, tck⟩ xc (w.heap.size + 3) v hM.size hov hxv hr1 (by omega) HCT.out
              refine wpOp_call (f := 53) (args := #[.agg #[.int .i64 tk, .string tn, .slice tan tln tcn, .slice tak tlk tck], .string ⟨([117] : List UInt8).toArray⟩, .agg #[.int .i64 xc.k, .string xc.n, .slice xc.an xc.ln xc.cn, .slice xc.ak xc.lk xc.ck]]) rfl rfl (by simp [execOp, go_sem, e, f, g]) CT ?_
              rintro e w' ⟨pc, rfl, hk, hcap, hb⟩
              rw [← hrf] at hk
              refine ⟨_, rfl, ?_⟩
              obtain ⟨vals', hvals⟩ : ∃ vals' : Nat → Value, vals' = fun q => if q = 9 then (Value.agg #[.int .i64 pc.k, .string pc.n, .slice pc.an pc.ln pc.cn, .slice pc.ak pc.lk pc.ck]) else vals q := ⟨_, rfl⟩
              have hF' : Fr _ _ vals' listed b := hF.congr (fun i h => by rw [hvals]; exact if_neg (by rintro rfl; rw [hl1] at h; cases h))
              have hV' : TV D d i ⟨tk, tn, tan, tln, tcn, tak, tlk, tck⟩ [117] ⟨kd, n, an, ns.length, cn, ak, ks.length, ck⟩ na names.length nc vals' := by rw [hvals]; exact ⟨hV.v0, hV.v1, hV.v2, hV.v3, hV.v5, hV.v6, hV.v7⟩
              have hn : vals' 9 = (Value.agg #[.int .i64 pc.k, .string pc.n, .slice pc.an pc.ln pc.cn, .slice pc.ak pc.lk pc.ck]) := by rw [hvals]; rfl
              refine ⟨by simpa using hsz, hC.put hi, vals', hn ▸ hF'.put (Slots.of (by rfl)) hsz rfl, hV', ?_⟩
              rw [getD_setE (i := 9) (by simp [hsz]), getD_setN (show 9 ≠ 4 by decide), getD_setN (show 9 ≠ 8 by decide), getD_setN (show 9 ≠ 10 by decide), l4, l8, l10]
              exact hM.putted hn hk hcap hb
            · cases ho
              have l9 := hdeps ⟨9, .data⟩ (by simp) rfl
              have l8 := h9 l9
              have l4 := h8 l8
              rw [l4, l8, l9, hl1] at hM
              obtain ⟨⟨z0, z1, z2, z3⟩, ⟨y0, y1, y2, y3⟩⟩ := four_blk (hM.told rfl)
              obtain ⟨pc, hpc, _⟩ := hM.put rfl
              have e := hF.old_is 8 (by rfl) rfl
              have f := hF.up 9 116 rfl l9
              rw [hpc] at f
              refine wpOp_wp rfl rfl ?_
              unfold Oper.wp Oper.upon
              simp [execOp, go_sem, e, f, z0, z1, z2, z3, y0, y1, y2, y3]
              refine ⟨by simpa using hsz, hC.put hi, vals, hF.put (i := 10) (Slots.of (by rfl)) hsz rfl, hV, ?_⟩
              rw [getD_setE (i := 10) (by simp [hsz]), getD_setN (show 10 ≠ 4 by decide), getD_setN (show 10 ≠ 8 by decide), getD_setN (show 10 ≠ 9 by decide), l4, l8, l9]
              exact hM.stored hpc
          · intro listed b v hJ hr
            obtain ⟨hsz, hC, vals, hF, hV, hM⟩ := hJ
            have hall := all_upB (by rfl) hsz hr
            have hb : b = putAll _ vals _ 11 := hF.done (Slots.of (by rfl)) hall
            rw [hall 4 (by decide), hall 8 (by decide), hall 9 (by decide), hall 10 (by decide)] at hM
            subst hb
            simp only [putAll, hV.v0, hV.v1, hV.v2, hV.v3, hV.v5, hV.v6, hV.v7]
            simp [dstOf]
            obtain ⟨pc, _, hk, hcap, hat⟩ := hM.put rfl
            have HM := Lib.hid hM; have HK := Lib.hid hk; have HCAP := Lib.hid hcap; have HAT := Lib.hid (hat rfl)
            clear hM hk hcap hat hF hV hC hall hr hsz
            go_wp2
            go_roundw
            case rel => exact ⟨i + 1, by go_num, by rw [fldM, if_pos rfl]; omega, HM.out.size, HM.out.below, HM.out.raw, HM.out.zer, pc, HAT.out, by rw [recT_succ, HNE.out]; exact HK.out, HCAP.out⟩
            case measure => simp [intOf]; omega
        · have hiz : ¬ (i : Int) < (ns.length : Int) := by omega
          have hi0 : ((i : Int) == 0) = false := by rw [beq_eq_false_iff_ne]; omega
          have hend : recT names d kd n ns ks 8 i = recT names d kd n ns ks 8 (fldM 8 ns) := by rw [show i = fldM 8 ns by unfold fldM at hle ⊢; simp at hle ⊢; omega]
          have HL := Lib.hid hend
          clear hend
          obtain ⟨⟨q0, q1, q2, q3⟩, ⟨x0, x1, x2, x3⟩⟩ := four_blk H.out.zer
          obtain ⟨⟨v0, v1, v2, v3⟩, _⟩ := four_blk (put4_at H.out.zer ⟨tk, tn, tan, tln, tcn, tak, tlk, tck⟩)
          have hPO := put4_only wr (w.heap.size + 1) ⟨tk, tn, tan, tln, tcn, tak, tlk, tck⟩
          have HBL := Lib.hid (H.out.below.trans (hPO.below (by omega) (by omega)))
          have HF := Lib.hid ((HVT.out.past (a := w.heap.size) (by omega) hPO (by omega)))
          clear hPO
          have hzw : w.heap.size + 1 < wr.heap.size := (by omega)
          unfold put4 at v0 v1 v2 v3
          go_wp2
          refine bodyPost_ret (v := .agg #[.int .i64 tk, .string tn, .slice tan tln tcn, .slice tak tlk tck]) (by simp [results, Try.results22, go_sem, v0, v1, v2, v3]) rfl ?_
          have hF := HF.out
          rw [HL.out] at hF
          exact ⟨⟨tk, tn, tan, tln, tcn, tak, tlk, tck⟩, rfl, hF, HBL.out⟩
end Sp
end Go.Proofs.Ytjjpjkkaogfoaaa

namespace Go.Proofs.Ytjjpjkkaogfoaaa
open Go.RowKit
namespace Sp
open Sc

theorem Tree_any : ∀ d : Nat, d ≤ 1000 → TreeC d
  | d, hd => by
    intro r c names na nc w hV hnm hnl
    obtain ⟨kd, n, ns, ks⟩ := r
    obtain h | h | h | h | h | h | h | h | h : kd % 9 = 0 ∨ kd % 9 = 1 ∨ kd % 9 = 2 ∨ kd % 9 = 3 ∨ kd % 9 = 4 ∨ kd % 9 = 5 ∨ kd % 9 = 6 ∨ kd % 9 = 7 ∨ kd % 9 = 8 := by omega
    · by_cases h1 : (d : Int) ≤ 1
      · exact tree_0a d hd kd n ns ks c names na nc w hV hnl h h1
      · exact tree_0b d hd kd n ns ks c names na nc w hV hnl h h1
    · by_cases h1 : (d : Int) ≤ 1
      · exact tree_1a d hd kd n ns ks c names na nc w hV hnl h h1
      · exact tree_1b d hd kd n ns ks c names na nc w hV hnl h h1
    · by_cases h1 : (d : Int) ≤ 1
      · exact tree_2a d hd kd n ns ks c names na nc w hV hnl h h1
      · exact tree_2b d hd kd n ns ks c names na nc w hV hnl h h1
    · by_cases h1 : (d : Int) ≤ 1
      · exact tree_3 d hd kd n ns ks c names na nc w hV hnl h h1
      · have ih := Tree_any (d - 1) (by omega)
        exact tree_3k d (d - 1) (by omega) ih (by omega) (by omega) kd n ns ks c names na nc w hV hnl hnm h
    · by_cases h1 : (d : Int) ≤ 1
      · exact tree_4 d hd kd n ns ks c names na nc w hV hnl h h1
      · have ih := Tree_any (d - 1) (by omega)
        exact tree_4k d (d - 1) (by omega) ih (by omega) (by omega) kd n ns ks c names na nc w hV hnl hnm h
    · by_cases h1 : (d : Int) ≤ 1
      · exact tree_5 d hd kd n ns ks c names na nc w hV hnl h h1
      · have ih := Tree_any (d - 1) (by omega)
        by_cases h6 : (treeR names (d - 1) (kidR (.mk kd n ns ks) 0)).kind = 6
        · exact tree_5y d (d - 1) (by omega) ih (by omega) (by omega) kd n ns ks c names na nc w hV hnl hnm h h6
        · exact tree_5n d (d - 1) (by omega) ih (by omega) (by omega) kd n ns ks c names na nc w hV hnl hnm h h6
    · by_cases h1 : (d : Int) ≤ 1
      · exact tree_6 d hd kd n ns ks c names na nc w hV hnl h h1
      · have ih := Tree_any (d - 1) (by omega)
        exact tree_6r d (d - 1) (by omega) ih (by omega) (by omega) kd n ns ks c names na nc w hV hnl hnm h
    · by_cases h1 : (d : Int) ≤ 1
      · exact tree_7 d hd kd n ns ks c names na nc w hV hnl h h1
      · have ih := Tree_any (d - 1) (by omega)
        exact tree_7r d (d - 1) (by omega) ih (by omega) (by omega) kd n ns ks c names na nc w hV hnl hnm h
    · by_cases h0 : names = []
      · exact tree_8n d hd kd n ns ks c names na nc w hV hnl h h0
      · by_cases h1 : (d : Int) ≤ 1
        · exact tree_8a d hd kd n ns ks c names na nc w hV hnl hnm h h0 h1
        · exact tree_8b d hd kd n ns ks c names na nc w hV hnl hnm h h0 h1
termination_by d => d
decreasing_by all_goals omega
end Sp
end Go.Proofs.Ytjjpjkkaogfoaaa

namespace Go.Proofs.Ytjjpjkkaogfoaaa
open Go.RowKit
namespace Sp
open Sc

def nm4 : List (List UInt8) := [[65], [66, 101, 101], [67, 97, 116], [68, 111, 103]]
def fn4 : List (List UInt8) := [[102, 97], [102, 98], [102, 99], [102, 100]]
/-- The names of the named types. -/
def namesR (types : List Rw) : List (List UInt8) := nm4.take types.length
def ntR (names : List (List UInt8)) (types : List Rw) (j : Nat) : List NT := (List.range j).map fun i => (names.getD i [], treeR names 5 (types.getD i default))
def parR (names : List (List UInt8)) (ks : List Rw) (k : Nat) : List Tz := (List.range k).map fun i => treeR names 4 (ks.getD i default)
def kidsR : Rw → List Rw | .mk _ _ _ ks => ks
def sgR (names : List (List UInt8)) (sigs : List Rw) (i : Nat) : Sg := ⟨fn4.getD i [], parR names (kidsR (sigs.getD i default)) (min (kidsR (sigs.getD i default)).length 3), treeR names 4 (sigs.getD i default)⟩
def sgsR (names : List (List UInt8)) (sigs : List Rw) (j : Nat) : List Sg := (List.range j).map fun i => sgR names sigs i
/-- What Schema answers. -/
def schR (main : Rw) (types sigs : List Rw) : Sz :=
  ⟨treeR (namesR types) 6 main, ntR (namesR types) types (namesR types).length, sgsR (namesR types) sigs (min sigs.length 4)⟩
theorem namesR_len (types : List Rw) : (namesR types).length = min types.length 4 := by unfold namesR nm4; simp
theorem ntR_succ (names : List (List UInt8)) (types : List Rw) (j : Nat) : ntR names types (j + 1) = ntR names types j ++ [(names.getD j [], treeR names 5 (types.getD j default))] := by simp [ntR, List.range_succ]
theorem parR_succ (names : List (List UInt8)) (ks : List Rw) (j : Nat) : parR names ks (j + 1) = parR names ks j ++ [treeR names 4 (ks.getD j default)] := by simp [parR, List.range_succ]
theorem sgsR_succ (names : List (List UInt8)) (sigs : List Rw) (j : Nat) : sgsR names sigs (j + 1) = sgsR names sigs j ++ [sgR names sigs j] := by simp [sgsR, List.range_succ]

theorem TzV.free {b : Nat} {X : List Nat} {vs : List Value} {w : World} {t : Tz} {c : C4} (h : TzV w (New b w) t c) (hX : ∀ x ∈ X, x < b) (hv : ∀ v ∈ vs, ∀ g, v.ownBlock = some g → g < b) : TzV w (Free w X vs) t c :=
  h.keep (fun g hg => ⟨hg.2, fun e => by have := hX g e; omega, fun v hm e => by have := hv v hm g e; omega⟩) (fun _ _ => rfl)

/-! ### A call whose answer is appended -/
/-- What the append leaves. -/
structure AP (v0 : World) (base : Nat) (e : TypeId) (sz n : Nat) (xs new : List Value) (xv : Value) (v : World) (v' : Value) : Prop where
  own : v.ownsRow base e sz v' (n + 1) (xs ++ new)
  grown : (v0.alloc (.cells new.toArray e)).grownBy v xv.ownBlock
  fresh : ∀ g, v'.ownBlock = some g → xv.ownBlock = some g ∨ (v0.alloc (.cells new.toArray e)).heap.size ≤ g
/-- Memory by what has come up: the answer laid, appended, stored. -/
def AMs (v0 : World) (sb off base : Nat) (e : TypeId) (sz n : Nat) (xs new : List Value) (xv bs ap : Value) (v : World) : Bool → Bool → Bool → Prop
  | false, false, false => v = v0
  | true, false, false => v = v0.alloc (.cells new.toArray e) ∧ bs = .slice (some ⟨v0.heap.size, 0, none⟩) 1 1
  | true, true, false => AP v0 base e sz n xs new xv v ap
  | true, true, true => ∃ w3, AP v0 base e sz n xs new xv w3 ap ∧ v = w3.setCell ⟨sb, off, none⟩ ap
  | _, _, _ => False
structure AM (W0 : World) (sb off base : Nat) (e : TypeId) (sz n : Nat) (xs : List Value) (enc : C4 → List Value) (x : Tz) (xv : Value) (xc : C4) (bs ap : Value) (lc lb la ls : Bool) (v : World) : Prop where
  ex : ∃ v0 : World, Below W0.heap.size W0 v0 ∧ (lc = false → v0 = W0) ∧ (lc = true → TzV v0 (New W0.heap.size v0) x xc) ∧ AMs v0 sb off base e sz n xs (enc xc) xv bs ap v lb la ls
section
variable {W0 : World} {sb off base : Nat} {e : TypeId} {sz n : Nat} {xs : List Value} {enc : C4 → List Value} {x : Tz} {xv : Value} {xc xc' : C4} {bs ap bs' ap' : Value} {lc lb la ls : Bool} {v v' : World}
theorem AM.start : AM W0 sb off base e sz n xs enc x xv xc bs ap false false false false W0 := ⟨W0, Below.refl _ _, fun _ => rfl, (fun h => by cases h), rfl⟩
theorem AM.called (h : AM W0 sb off base e sz n xs enc x xv xc bs ap false false false false v) (hb : Below v.heap.size v v') (hV : TzV v' (New v.heap.size v') x xc') : AM W0 sb off base e sz n xs enc x xv xc' bs' ap' true false false false v' := by
  obtain ⟨v0, _, h1, _, h3⟩ := h.ex
  obtain rfl := h1 rfl
  obtain rfl : v = v0 := h3
  exact ⟨v', hb, (fun h => by cases h), fun _ => hV, rfl⟩
theorem AM.laid (h : AM W0 sb off base e sz n xs enc x xv xc bs ap true false false false v) : AM W0 sb off base e sz n xs enc x xv xc (.slice (some ⟨v.heap.size, 0, none⟩) 1 1) ap' true true false false (v.alloc (.cells (enc xc).toArray e)) := by
  obtain ⟨v0, h0, _, h2, h3⟩ := h.ex
  obtain rfl : v = v0 := h3
  exact ⟨v, h0, (fun h => by cases h), h2, rfl, rfl⟩
theorem AM.bs_at (h : AM W0 sb off base e sz n xs enc x xv xc bs ap true true false false v) : ∃ v0, Below W0.heap.size W0 v0 ∧ TzV v0 (New W0.heap.size v0) x xc ∧ v = v0.alloc (.cells (enc xc).toArray e) ∧ bs = .slice (some ⟨v0.heap.size, 0, none⟩) 1 1 := by
  obtain ⟨v0, h0, _, h2, h3⟩ := h.ex
  exact ⟨v0, h0, h2 rfl, h3.1, h3.2⟩
theorem AM.appended {v0 : World} (h0 : Below W0.heap.size W0 v0) (h2 : TzV v0 (New W0.heap.size v0) x xc) (hp : AP v0 base e sz n xs (enc xc) xv v' ap') : AM W0 sb off base e sz n xs enc x xv xc bs ap' true true true false v' :=
  ⟨v0, h0, (fun h => by cases h), fun _ => h2, hp⟩
theorem AM.stored (h : AM W0 sb off base e sz n xs enc x xv xc bs ap true true true false v) : AM W0 sb off base e sz n xs enc x xv xc bs ap true true true true (v.setCell ⟨sb, off, none⟩ ap) := by
  obtain ⟨v0, h0, _, h2, h3⟩ := h.ex
  exact ⟨v0, h0, (fun h => by cases h), h2, v, h3, rfl⟩
theorem AM.row_at (h : AM W0 sb off base e sz n xs enc x xv xc bs ap true true true false v) : ∃ a c, ap = .slice a (n + 1) c := by
  obtain ⟨v0, h0, _, h2, h3⟩ := h.ex
  exact own_sliceZ (AP.own h3)
/-- Blocks that were there stay. -/
theorem AM.far (h : AM W0 sb off base e sz n xs enc x xv xc bs ap lc lb la ls v) {g : Nat} (hg : g < W0.heap.size) (hx : xv.ownBlock ≠ some g) (hn : g ≠ sb ∨ ls = false) : v.heap[g]? = W0.heap[g]? := by
  obtain ⟨v0, h0, _, _, h3⟩ := h.ex
  have hs := h0.size
  have gr : ∀ {w3 : World} {y : Value}, AP v0 base e sz n xs (enc xc) xv w3 y → w3.heap[g]? = W0.heap[g]? := fun hp => ((hp.grown.block g (by simp; omega) (fun e => hx e.symm)).trans (Below.heap_alloc _ _ _ (by omega))).trans (h0.block g hg)
  match lb, la, ls, h3 with
  | false, false, false, h => rw [show v = v0 from h]; exact h0.block g hg
  | true, false, false, h => rw [show v = _ from h.1]; exact (Below.heap_alloc _ _ _ (by omega)).trans (h0.block g hg)
  | true, true, false, h => exact gr h
  | true, true, true, ⟨w3, hp, e⟩ =>
    rcases hn with hn | hn
    · rw [e, ← gr hp]
      exact ((Only.refl sb w3).setCell off _).block g (Nat.lt_of_lt_of_le (by simp; omega) hp.grown.size) (fun e => hn (by cases e; rfl))
    · cases hn
/-- Blocks that were there stay below, while nothing is stored. -/
theorem AM.below (h : AM W0 sb off base e sz n xs enc x xv xc bs ap lc false false false v) : Below W0.heap.size W0 v := by
  obtain ⟨v0, h0, _, _, h3⟩ := h.ex
  obtain rfl : v = v0 := h3
  exact h0
theorem AM.done (h : AM W0 sb off base e sz n xs enc x xv xc bs ap true true true true v) : ∃ v0 w3, Below W0.heap.size W0 v0 ∧ TzV v0 (New W0.heap.size v0) x xc ∧ AP v0 base e sz n xs (enc xc) xv w3 ap ∧ v = w3.setCell ⟨sb, off, none⟩ ap := by
  obtain ⟨v0, h0, _, h2, w3, h3, h4⟩ := h.ex
  exact ⟨v0, w3, h0, h2 rfl, h3, h4⟩
end
theorem row4_at {w : World} {l : List Rw} {a : Option Addr} {us : List R4} (h : RwsV w l a us) (j : Nat) (hj : j < l.length) : ∃ g o c, a = some ⟨g, o, none⟩ ∧ g < w.heap.size ∧ RwV w (l.getD j default) c ∧ (∀ W : World, W.heap[g]? = w.heap[g]? → W.cell? ⟨g, o + j * 4, none⟩ = some (.int .i64 c.k) ∧ W.cell? ⟨g, o + j * 4 + 1, none⟩ = some (.int .i64 c.n) ∧
      W.cell? ⟨g, o + j * 4 + 2, none⟩ = some (.slice c.an c.ln c.cn) ∧ W.cell? ⟨g, o + j * 4 + 3, none⟩ = some (.slice c.ak c.lk c.ck)) := by
  have hju : j < us.length := by rw [h.len]; exact hj
  obtain ⟨g, o, e, hg, hc⟩ := kid_at h.row j hju
  have hc := hc w (Below.refl _ _)
  refine ⟨g, o, us[j], e, hg, ?_, fun W hW => ?_⟩
  · rw [show l.getD j default = l[j] by simp [List.getD, hj]]
    exact h.val j hj hju
  · exact ⟨(World.cell?_of_block (a := ⟨g, o + j * 4, none⟩) hW).trans hc.1, (World.cell?_of_block (a := ⟨g, o + j * 4 + 1, none⟩) hW).trans hc.2.1, (World.cell?_of_block (a := ⟨g, o + j * 4 + 2, none⟩) hW).trans hc.2.2.1, (World.cell?_of_block (a := ⟨g, o + j * 4 + 3, none⟩) hW).trans hc.2.2.2⟩
/-- All but one block stay. -/
structure Kp (sb : Nat) (W wr : World) : Prop where
  size : W.heap.size ≤ wr.heap.size
  blk : ∀ g, g < W.heap.size → g ≠ sb → wr.heap[g]? = W.heap[g]?
theorem Kp.refl (sb : Nat) (W : World) : Kp sb W W := ⟨Nat.le_refl _, fun _ _ _ => rfl⟩
theorem Kp.below {sb : Nat} {W wr w' : World} (h : Kp sb W wr) (hb : Below wr.heap.size wr w') : Kp sb W w' :=
  ⟨Nat.le_trans h.size hb.size, fun g h1 h2 => (hb.block g (Nat.lt_of_lt_of_le h1 h.size)).trans (h.blk g h1 h2)⟩
theorem Kp.only {sb : Nat} {W wr w' : World} (h : Kp sb W wr) (ho : Only sb wr w') : Kp sb W w' :=
  ⟨Nat.le_trans h.size ho.size, fun g h1 h2 => (ho.block g (Nat.lt_of_lt_of_le h1 h.size) (fun e => h2 (by cases e; rfl))).trans (h.blk g h1 h2)⟩
theorem Kp.grown {sb : Nat} {W wr w' : World} {r : Option Nat} (h : Kp sb W wr) (hg : wr.grownBy w' r) (hr : ∀ g, r = some g → W.heap.size ≤ g) : Kp sb W w' :=
  ⟨Nat.le_trans h.size hg.size, fun g h1 h2 => (hg.block g (Nat.lt_of_lt_of_le h1 h.size) (fun e => by have := hr g e.symm; omega)).trans (h.blk g h1 h2)⟩
theorem Kp.past {sb sc : Nat} {W W' wr : World} (h : Kp sb W W') (k : Kp sc W' wr) (hs : W.heap.size ≤ sc ∨ sc = sb) : Kp sb W wr :=
  ⟨Nat.le_trans h.size k.size, fun g h1 h2 => (k.blk g (Nat.lt_of_lt_of_le h1 h.size) (by omega)).trans (h.blk g h1 h2)⟩
theorem AP.below {v0 v : World} {base : Nat} {e : TypeId} {sz n : Nat} {xs new : List Value} {xv v' : Value} {B : Nat} {w : World} (h : AP v0 base e sz n xs new xv v v') (hw : Below B w v0) (hB : ∀ g, xv.ownBlock = some g → B ≤ g) (hs : B ≤ v0.heap.size) : Below B w v :=
  (hw.alloc hs _).trans (below_grown h.grown hB (by simp; omega))
theorem AP.kp {v0 v : World} {base : Nat} {e : TypeId} {sz n : Nat} {xs new : List Value} {xv v' : Value} {sb : Nat} {W : World} (h : AP v0 base e sz n xs new xv v v') (hw : Kp sb W v0) (hB : ∀ g, xv.ownBlock = some g → W.heap.size ≤ g) : Kp sb W v :=
  (hw.below ((Below.refl _ _).alloc (Nat.le_refl _) _)).grown h.grown hB
theorem name_kp {w : World} {S : Nat → Prop} {a : Option Addr} {ns : List (List UInt8)} (h : RowV w S a 1 (ns.map fun n => [str n])) (j : Nat) (hj : j < ns.length) :
    ∃ g o, a = some ⟨g, o, none⟩ ∧ S g ∧ ∀ W : World, W.heap[g]? = w.heap[g]? → W.cell? ⟨g, o + j, none⟩ = some (.string ⟨(ns.getD j []).toArray⟩) := by
  rcases h with h | ⟨g, o, ha, hg, hc⟩
  · rw [List.map_eq_nil_iff.1 h] at hj; exact absurd hj (by simp)
  · refine ⟨g, o, ha, hg, fun W hW => ?_⟩
    have := hc j (by rw [List.length_map]; exact hj) 0 (str (ns.getD j [])) (by simp [List.getD, hj])
    rw [Nat.mul_one, Nat.add_zero] at this
    exact (World.cell?_of_block (a := ⟨g, o + j, none⟩) hW).trans this
/-- A schema that was made, in memory: its two rows are blocks of their own, made since z. -/
structure SchO (w : World) (z : Nat) (s : Sz) (c : C4) (v1 : Value) (us : List (List UInt8 × C4)) (v2 : Value) (gs : List (List UInt8 × G6)) : Prop where
  main : TzV w (Free w (List.range z) [v1, v2]) s.main c
  town : w.ownsRow z 44 5 v1 us.length (us.flatMap encZ)
  tlen : us.length = s.types.length
  tval : ∀ i (h : i < s.types.length) (h' : i < us.length), us[i].1 = s.types[i].1 ∧ TzV w (Free w (List.range z) [v1, v2]) s.types[i].2 us[i].2
  sown : w.ownsRow z 46 6 v2 gs.length (gs.flatMap encG)
  slen : gs.length = s.sigs.length
  sval : ∀ i (h : i < s.sigs.length) (h' : i < gs.length), SgV w (Free w (List.range z) [v1, v2]) s.sigs[i] gs[i]
  ap : ApartV v1 v2
/-- What a call of Schema leaves. -/
def SchP (s : Sz) (w : World) (e : Ending) (w' : World) : Prop := ∃ (c : C4) (a1 : Option Addr) (n1 : Nat) (us : List (List UInt8 × C4)) (a2 : Option Addr) (n2 : Nat) (gs : List (List UInt8 × G6)),
  e = .returned (.agg #[.int .i64 c.k, .string c.n, .slice c.an c.ln c.cn, .slice c.ak c.lk c.ck, .slice a1 s.types.length n1, .slice a2 s.sigs.length n2]) ∧ SchO w' w.heap.size s c (.slice a1 s.types.length n1) us (.slice a2 s.sigs.length n2) gs ∧ Below w.heap.size w w'
end Sp
end Go.Proofs.Ytjjpjkkaogfoaaa

namespace Go.Proofs.Ytjjpjkkaogfoaaa
open Go.RowKit
namespace Sp
open Sc

/-- What the operations yield. -/
structure SV (sb : Nat) (xv NA TY : Value) (j gn on gt ot : Nat) (n : List UInt8) (rc : R4) (xc : C4) (vals : Nat → Value) : Prop where
  v0 : vals 0 = .pointer (some ⟨sb, 4, none⟩)
  v1 : vals 1 = xv
  v2 : vals 2 = NA
  v3 : vals 3 = .int .i64 j
  v4 : vals 4 = .pointer (some ⟨gn, on, none⟩)
  v5 : vals 5 = .string ⟨n.toArray⟩
  v6 : vals 6 = TY
  v7 : vals 7 = .int .i64 j
  v8 : vals 8 = .pointer (some ⟨gt, ot, none⟩)
  v9 : vals 9 = .agg #[.int .i64 rc.k, .int .i64 rc.n, .slice rc.an rc.ln rc.cn, .slice rc.ak rc.lk rc.ck]
  v10 : vals 10 = NA
  v11 : vals 11 = .agg #[.int .i64 xc.k, .string xc.n, .slice xc.an xc.ln xc.cn, .slice xc.ak xc.lk xc.ck]
  v12 : vals 12 = .agg #[.string ⟨n.toArray⟩, .int .i64 xc.k, .string xc.n, .slice xc.an xc.ln xc.cn, .slice xc.ak xc.lk xc.ck]
  v15 : vals 15 = .pointer (some ⟨sb, 4, none⟩)
structure SJ (W0 : World) (sb base : Nat) (xv NA TY : Value) (j gn on gt ot : Nat) (n : List UInt8) (rc : R4) (x : Tz) (us : List (List UInt8 × C4)) (ops : Array Oper) (a0 : Act) (listed : Array Bool) (b : Act) (v : World) : Prop where
  size : listed.size = ops.size
  closed : Closed ops listed
  rest : ∃ (vals : Nat → Value) (xc : C4), Fr ops a0 vals listed b ∧ SV sb xv NA TY j gn on gt ot n rc xc vals ∧ AM W0 sb 4 base 44 5 us.length (us.flatMap encZ) (fun c => encZ (n, c)) x xv xc (vals 13) (vals 14) (listed.getD 11 false) (listed.getD 13 false) (listed.getD 14 false) (listed.getD 16 false) v
theorem SJ.quiet {W0 : World} {sb base : Nat} {xv NA TY : Value} {j gn on gt ot : Nat} {n : List UInt8} {rc : R4} {x : Tz} {us : List (List UInt8 × C4)} {ops : Array Oper} {a0 b : Act} {listed : Array Bool} {v : World} {i : Nat} {o : Oper} {vals : Nat → Value} {xc : C4} {Q : Exit → Act → World → Prop} (hz : listed.size = ops.size) (hC : Closed ops listed) (hi : i ∈ Region.ready .any ops listed) (hF : Fr ops a0 vals listed b) (hV : SV sb xv NA TY j gn on gt ot n rc xc vals)
    (hM : AM W0 sb 4 base 44 5 us.length (us.flatMap encZ) (fun c => encZ (n, c)) x xv xc (vals 13) (vals 14) (listed.getD 11 false) (listed.getD 13 false) (listed.getD 14 false) (listed.getD 16 false) v)
    (hs : Slots ops a0.tmps.size) (ho : ops[i]? = some o) (hg : o.guard = none) (h9 : i ≠ 11 ∧ i ≠ 13 ∧ i ≠ 14 ∧ i ≠ 16) (hr : (execOp b.eval o).run Try.prog v = .ok (.value (vals i)) v) :
    wpOp Try.prog ops Q i (fun b' v' => SJ W0 sb base xv NA TY j gn on gt ot n rc x us ops a0 (listed.setIfInBounds i true) b' v') b v := by
  refine wpOp_run ho hg hr ⟨by simp [hz], hC.put hi, vals, xc, hF.put hs hz ho, hV, ?_⟩
  simp only [getD_setF]
  simpa [h9.1, h9.2.1, h9.2.2.1, h9.2.2.2] using hM
theorem nm4_at (k : Nat) (hk : k < 4) : ([.string ⟨#[65]⟩, .string ⟨#[66, 101, 101]⟩, .string ⟨#[67, 97, 116]⟩, .string ⟨#[68, 111, 103]⟩] : List Value)[k]? = some (.string ⟨(nm4.getD k []).toArray⟩) := by
  match k, hk with
  | 0, _ => rfl
  | 1, _ => rfl
  | 2, _ => rfl
  | 3, _ => rfl
theorem fn4_at (k : Nat) (hk : k < 4) : ([.string ⟨#[102, 97]⟩, .string ⟨#[102, 98]⟩, .string ⟨#[102, 99]⟩, .string ⟨#[102, 100]⟩] : List Value)[k]? = some (.string ⟨(fn4.getD k []).toArray⟩) := by
  match k, hk with
  | 0, _ => rfl
  | 1, _ => rfl
  | 2, _ => rfl
  | 3, _ => rfl
theorem cells_new1Z (w : World) (o : Obj) (l : List Value) (t : TypeId) : ∀ (j : Nat) (u : Value), l[j]? = some u → ((w.alloc o).alloc (.cells l.toArray t)).cell? ((⟨w.heap.size + 1, 0, none⟩ : Addr).add j) = some u := by
  have h := cells_newZ (w.alloc o) l t
  rw [show (w.alloc o).heap.size = w.heap.size + 1 by simp] at h
  exact h
theorem nmF_snoc (l : List (List UInt8)) (n : List UInt8) : nmF l ++ [.string ⟨n.toArray⟩] = nmF (l ++ [n]) := by simp [nmF, str]
theorem take_snoc (l : List (List UInt8)) (i : Nat) (h : i < l.length) : l.take (i + 1) = l.take i ++ [l.getD i []] := by
  rw [List.take_add_one, List.getD, List.getElem?_eq_getElem h]; rfl
/-- The names that are gathered. -/
structure L1 (w W0 : World) (types : List Rw) (v8 v9 : Value) (wr : World) (i : Nat) : Prop where
  slot : v9 = .int .i64 i
  le : i ≤ types.length ∧ i ≤ 4
  own : wr.ownsRow (w.heap.size + 3) 9 1 v8 i (nmF (nm4.take i))
  below : Below (w.heap.size + 3) W0 wr
/-- The named types that are gathered. -/
structure L2 (w W1 : World) (names : List (List UInt8)) (types : List Rw) (v10 : Value) (wr : World) (j : Nat) (v : Value) (us : List (List UInt8 × C4)) : Prop where
  slot : v10 = .int .i64 j
  le : j ≤ names.length
  sat : wr.heap[w.heap.size + 2]? = some (.cells #[.int .i64 0, .string ⟨#[]⟩, .slice none 0 0, .slice none 0 0, v, .slice none 0 0] 29 (0, 0))
  row : GRow wr W1.heap.size ((w.heap.size + 2) :: (w.heap.size + 1) :: List.range w.heap.size) v (ntR names types j) us
  below : Below w.heap.size w wr
  kp : Kp (w.heap.size + 2) W1 wr
/-- What the operations yield. -/
structure FV (NA TY : Value) (i gt ot : Nat) (n : List UInt8) (rc : R4) (lb fb : Nat) (xc : C4) (vals : Nat → Value) : Prop where
  v0 : vals 0 = .slice (some ⟨lb, 0, none⟩) 4 4
  v1 : vals 1 = .int .i64 i
  v2 : vals 2 = .pointer (some ⟨lb, i, none⟩)
  v3 : vals 3 = .string ⟨n.toArray⟩
  v4 : vals 4 = TY
  v5 : vals 5 = .int .i64 i
  v6 : vals 6 = .pointer (some ⟨gt, ot, none⟩)
  v7 : vals 7 = .agg #[.int .i64 rc.k, .int .i64 rc.n, .slice rc.an rc.ln rc.cn, .slice rc.ak rc.lk rc.ck]
  v8 : vals 8 = NA
  v9 : vals 9 = .agg #[.int .i64 xc.k, .string xc.n, .slice xc.an xc.ln xc.cn, .slice xc.ak xc.lk xc.ck]
  v10 : vals 10 = .agg #[.string ⟨n.toArray⟩, .slice none 0 0, .int .i64 xc.k, .string xc.n, .slice xc.an xc.ln xc.cn, .slice xc.ak xc.lk xc.ck]
  v11 : vals 11 = .pointer (some ⟨fb, 0, none⟩)
/-- Memory: the row of names, the answer of Tree, the variable. -/
structure FM (W0 : World) (n : List UInt8) (x : Tz) (lb fb : Nat) (xc : C4) (l0 l9 l11 l12 : Bool) (v : World) : Prop where
  below : Below W0.heap.size W0 v
  lit : l0 = true → l12 = false → v.heap[lb]? = some (.cells #[.string ⟨#[102, 97]⟩, .string ⟨#[102, 98]⟩, .string ⟨#[102, 99]⟩, .string ⟨#[102, 100]⟩] 9 (0, 0))
  tree : l9 = true → TzV v (fun g => New W0.heap.size v g ∧ (l11 = true → g ≠ fb)) x xc
  fvar : l11 = true → W0.heap.size ≤ fb ∧ v.heap[fb]? = some (.cells (if l12 then #[.string ⟨n.toArray⟩, .slice none 0 0, .int .i64 xc.k, .string xc.n, .slice xc.an xc.ln xc.cn, .slice xc.ak xc.lk xc.ck] else #[.string ⟨#[]⟩, .slice none 0 0, .int .i64 0, .string ⟨#[]⟩, .slice none 0 0, .slice none 0 0]) 46 (0, 0))
section
variable {W0 : World} {n : List UInt8} {x : Tz} {lb fb : Nat} {xc xc' : C4} {l0 l9 l11 l12 : Bool} {v v' : World}
theorem FM.start : FM W0 n x lb fb xc false false false false W0 := ⟨Below.refl _ _, (fun h => by cases h), (fun h => by cases h), (fun h => by cases h)⟩
theorem FM.later (h : FM W0 n x lb fb xc l0 l9 l11 l12 v) (hb : Below v.heap.size v v') : FM W0 n x lb fb xc l0 l9 l11 l12 v' :=
  ⟨h.below.trans (hb.mono h.below.size), fun a b => (hb.block _ (Array.getElem?_eq_some_iff.1 (h.lit a b)).1).trans (h.lit a b), fun a => (h.tree a).keep (fun _ hg => ⟨⟨hg.1.1, Nat.lt_of_lt_of_le hg.1.2 hb.size⟩, hg.2⟩) (fun g hg => hb.block g hg.1.2), fun a => ⟨(h.fvar a).1, (hb.block _ (Array.getElem?_eq_some_iff.1 (h.fvar a).2).1).trans (h.fvar a).2⟩⟩
theorem FM.litted (h : FM W0 n x lb fb xc false l9 l11 l12 v) : FM W0 n x v.heap.size fb xc true l9 l11 l12 (v.alloc (.cells #[.string ⟨#[102, 97]⟩, .string ⟨#[102, 98]⟩, .string ⟨#[102, 99]⟩, .string ⟨#[102, 100]⟩] 9)) :=
  have k := h.later ((Below.refl _ v).alloc (Nat.le_refl _) (.cells #[.string ⟨#[102, 97]⟩, .string ⟨#[102, 98]⟩, .string ⟨#[102, 99]⟩, .string ⟨#[102, 100]⟩] 9))
  ⟨k.below, fun _ _ => heap_alloc_new v _, k.tree, k.fvar⟩
theorem FM.called (h : FM W0 n x lb fb xc l0 false l11 false v) (hb : Below v.heap.size v v') (hV : TzV v' (New v.heap.size v') x xc') : FM W0 n x lb fb xc' l0 true l11 false v' :=
  have k := h.later hb
  ⟨k.below, k.lit, fun _ => hV.keep (fun g hg => ⟨⟨Nat.le_trans h.below.size hg.1, hg.2⟩, fun a e => by have := (Array.getElem?_eq_some_iff.1 (h.fvar a).2).1; have := hg.1; omega⟩) (fun _ _ => rfl), fun a => by simpa using k.fvar a⟩
theorem FM.made (h : FM W0 n x lb fb xc l0 l9 false false v) : FM W0 n x lb v.heap.size xc l0 l9 true false (v.alloc (.cells #[.string ⟨#[]⟩, .slice none 0 0, .int .i64 0, .string ⟨#[]⟩, .slice none 0 0, .slice none 0 0] 46)) :=
  have k := h.later ((Below.refl _ v).alloc (Nat.le_refl _) (.cells #[.string ⟨#[]⟩, .slice none 0 0, .int .i64 0, .string ⟨#[]⟩, .slice none 0 0, .slice none 0 0] 46))
  ⟨k.below, k.lit, fun a => (h.tree a).keep (fun g hg => ⟨⟨hg.1.1, by simp; have := hg.1.2; omega⟩, fun _ e => by have := hg.1.2; omega⟩) (fun g hg => Below.heap_alloc _ _ _ hg.1.2), fun _ => ⟨h.below.size, heap_alloc_new v _⟩⟩
def putS (w : World) (b : Nat) (n : List UInt8) (xc : C4) : World :=
  (((((w.setCell ⟨b, 0, none⟩ (.string ⟨n.toArray⟩)).setCell ⟨b, 1, none⟩ (.slice none 0 0)).setCell ⟨b, 2, none⟩ (.int .i64 xc.k)).setCell ⟨b, 3, none⟩ (.string xc.n)).setCell ⟨b, 4, none⟩ (.slice xc.an xc.ln xc.cn)).setCell ⟨b, 5, none⟩ (.slice xc.ak xc.lk xc.ck)
theorem putS_only (w : World) (b : Nat) (n : List UInt8) (xc : C4) : Only b w (putS w b n xc) := ((((((Only.refl b w).setCell 0 _).setCell 1 _).setCell 2 _).setCell 3 _).setCell 4 _).setCell 5 _
theorem FM.stored (h : FM W0 n x lb fb xc true true true false v) : FM W0 n x lb fb xc true true true true (putS v fb n xc) := by
  have ho := putS_only v fb n xc
  obtain ⟨f1, f2⟩ := h.fvar rfl
  have f2 : v.heap[fb]? = some (.cells #[.string ⟨#[]⟩, .slice none 0 0, .int .i64 0, .string ⟨#[]⟩, .slice none 0 0, .slice none 0 0] 46 (0, 0)) := f2
  refine ⟨h.below.trans (ho.below f1 h.below.size), (fun _ h => by cases h), fun _ => (h.tree rfl).keep (fun g hg => ⟨⟨hg.1.1, Nat.lt_of_lt_of_le hg.1.2 ho.size⟩, hg.2⟩) (fun g hg => ho.block g hg.1.2 (fun e => hg.2 rfl (by cases e; rfl))), fun _ => ⟨f1, ?_⟩⟩
  simp [putS, World.setCell, Array.getElem?_modify, f2]
end
structure FJ (W0 : World) (NA TY : Value) (k gt ot : Nat) (n : List UInt8) (rc : R4) (x : Tz) (ops : Array Oper) (a0 : Act) (listed : Array Bool) (b : Act) (v : World) : Prop where
  size : listed.size = ops.size
  closed : Closed ops listed
  rest : ∃ (vals : Nat → Value) (lb : Nat) (fb : Nat) (xc : C4), Fr ops a0 vals listed b ∧ FV NA TY k gt ot n rc lb fb xc vals ∧ FM W0 n x lb fb xc (listed.getD 0 false) (listed.getD 9 false) (listed.getD 11 false) (listed.getD 12 false) v
theorem FJ.quiet {W0 : World} {NA TY : Value} {k gt ot : Nat} {n : List UInt8} {rc : R4} {x : Tz} {ops : Array Oper} {a0 b : Act} {listed : Array Bool} {v : World} {i : Nat} {o : Oper} {vals : Nat → Value} {lb : Nat} {fb : Nat} {xc : C4} {Q : Exit → Act → World → Prop} (hz : listed.size = ops.size) (hC : Closed ops listed) (hi : i ∈ Region.ready .any ops listed) (hF : Fr ops a0 vals listed b) (hV : FV NA TY k gt ot n rc lb fb xc vals)
    (hM : FM W0 n x lb fb xc (listed.getD 0 false) (listed.getD 9 false) (listed.getD 11 false) (listed.getD 12 false) v)
    (hs : Slots ops a0.tmps.size) (ho : ops[i]? = some o) (hg : o.guard = none) (h9 : i ≠ 0 ∧ i ≠ 9 ∧ i ≠ 11 ∧ i ≠ 12) (hr : (execOp b.eval o).run Try.prog v = .ok (.value (vals i)) v) :
    wpOp Try.prog ops Q i (fun b' v' => FJ W0 NA TY k gt ot n rc x ops a0 (listed.setIfInBounds i true) b' v') b v := by
  refine wpOp_run ho hg hr ⟨by simp [hz], hC.put hi, vals, lb, fb, xc, hF.put hs hz ho, hV, ?_⟩
  simp only [getD_setF]
  simpa [h9.1, h9.2.1, h9.2.2.1, h9.2.2.2] using hM
/-- What the operations yield. -/
structure PVs (sb : Nat) (xv NA TY KS : Value) (i k gt ot gk ok : Nat) (rc : R4) (xc : C4) (vals : Nat → Value) : Prop where
  v0 : vals 0 = .pointer (some ⟨sb, 1, none⟩)
  v1 : vals 1 = xv
  v2 : vals 2 = TY
  v3 : vals 3 = .int .i64 i
  v4 : vals 4 = .pointer (some ⟨gt, ot, none⟩)
  v5 : vals 5 = .pointer (some ⟨gt, ot + 3, none⟩)
  v6 : vals 6 = KS
  v7 : vals 7 = .int .i64 k
  v8 : vals 8 = .pointer (some ⟨gk, ok, none⟩)
  v9 : vals 9 = .agg #[.int .i64 rc.k, .int .i64 rc.n, .slice rc.an rc.ln rc.cn, .slice rc.ak rc.lk rc.ck]
  v10 : vals 10 = NA
  v11 : vals 11 = .agg #[.int .i64 xc.k, .string xc.n, .slice xc.an xc.ln xc.cn, .slice xc.ak xc.lk xc.ck]
  v14 : vals 14 = .pointer (some ⟨sb, 1, none⟩)
structure PJs (W0 : World) (sb base : Nat) (xv NA TY KS : Value) (m k gt ot gk ok : Nat) (rc : R4) (x : Tz) (us : List C4) (ops : Array Oper) (a0 : Act) (listed : Array Bool) (b : Act) (v : World) : Prop where
  size : listed.size = ops.size
  closed : Closed ops listed
  rest : ∃ (vals : Nat → Value) (xc : C4), Fr ops a0 vals listed b ∧ PVs sb xv NA TY KS m k gt ot gk ok rc xc vals ∧ AM W0 sb 1 base 25 4 us.length (us.flatMap C4.cells) C4.cells x xv xc (vals 12) (vals 13) (listed.getD 11 false) (listed.getD 12 false) (listed.getD 13 false) (listed.getD 15 false) v
theorem PJs.quiet {W0 : World} {sb base : Nat} {xv NA TY KS : Value} {m k gt ot gk ok : Nat} {rc : R4} {x : Tz} {us : List C4} {ops : Array Oper} {a0 b : Act} {listed : Array Bool} {v : World} {i : Nat} {o : Oper} {vals : Nat → Value} {xc : C4} {Q : Exit → Act → World → Prop} (hz : listed.size = ops.size) (hC : Closed ops listed) (hi : i ∈ Region.ready .any ops listed) (hF : Fr ops a0 vals listed b) (hV : PVs sb xv NA TY KS m k gt ot gk ok rc xc vals)
    (hM : AM W0 sb 1 base 25 4 us.length (us.flatMap C4.cells) C4.cells x xv xc (vals 12) (vals 13) (listed.getD 11 false) (listed.getD 12 false) (listed.getD 13 false) (listed.getD 15 false) v)
    (hs : Slots ops a0.tmps.size) (ho : ops[i]? = some o) (hg : o.guard = none) (h9 : i ≠ 11 ∧ i ≠ 12 ∧ i ≠ 13 ∧ i ≠ 15) (hr : (execOp b.eval o).run Try.prog v = .ok (.value (vals i)) v) :
    wpOp Try.prog ops Q i (fun b' v' => PJs W0 sb base xv NA TY KS m k gt ot gk ok rc x us ops a0 (listed.setIfInBounds i true) b' v') b v := by
  refine wpOp_run ho hg hr ⟨by simp [hz], hC.put hi, vals, xc, hF.put hs hz ho, hV, ?_⟩
  simp only [getD_setF]
  simpa [h9.1, h9.2.1, h9.2.2.1, h9.2.2.2] using hM
theorem own_kp {W wr : World} {base b sz n : Nat} {e : TypeId} {v : Value} {xs : List Value} (h : W.ownsRow base e sz v n xs) (hb : b ≤ base) (hk : ∀ g, v.ownBlock = some g → wr.heap[g]? = W.heap[g]?) : wr.ownsRow b e sz v n xs := by
  rcases h.2 with ⟨rfl, h0⟩ | ⟨g, cap, cur, rfl, hg, hc, hr⟩
  · exact ⟨h.1, .inl ⟨rfl, h0⟩⟩
  · exact ⟨h.1, .inr ⟨g, cap, cur, rfl, Nat.le_trans hb hg, (hk g rfl).trans hc, hr⟩⟩
/-- Blocks of a row. -/
def blkL (v : Value) : List Nat := v.ownBlock.toList
theorem mem_blkL {v : Value} {g : Nat} : g ∈ blkL v ↔ v.ownBlock = some g := by unfold blkL; cases v.ownBlock <;> simp [eq_comm]
theorem lit_at {w : World} {b : Nat} {t : TypeId} {l : List Value} (h : w.heap[b]? = some (.cells l.toArray t (0, 0))) {k : Nat} {nm : List UInt8} (hk : l[k]? = some (.string ⟨nm.toArray⟩)) : w.cell? ⟨b, k, none⟩ = some (.string ⟨nm.toArray⟩) := by
  simp [World.cell?, h, hk]
/-- The functions that are gathered. -/
structure L3 (w W3 : World) (X3 : List Nat) (names : List (List UInt8)) (sigs : List Rw) (mc : C4) (v1 : Value) (v11 : Value) (wr : World) (j : Nat) (v : Value) (gs : List (List UInt8 × G6)) : Prop where
  slot : v11 = .int .i64 j
  le : j ≤ sigs.length ∧ j ≤ 4
  sat : wr.heap[w.heap.size + 2]? = some (.cells #[.int .i64 mc.k, .string mc.n, .slice mc.an mc.ln mc.cn, .slice mc.ak mc.lk mc.ck, v1, v] 29 (0, 0))
  row : SRow wr W3.heap.size X3 v (sgsR names sigs j) gs
  below : Below w.heap.size w wr
  kp : Kp (w.heap.size + 2) W3 wr
/-- A function's parameters that are gathered. -/
structure L4 (W4 : World) (fb : Nat) (X : List Nat) (v2 : Value) (n : List UInt8) (names : List (List UInt8)) (ks : List Rw) (xc : C4) (v13 : Value) (wr : World) (k : Nat) (v : Value) (us : List C4) : Prop where
  slot : v13 = .int .i64 k
  le : k ≤ ks.length ∧ k ≤ 3
  fat : wr.heap[fb]? = some (.cells #[.string ⟨n.toArray⟩, v, .int .i64 xc.k, .string xc.n, .slice xc.an xc.ln xc.cn, .slice xc.ak xc.lk xc.ck] 46 (0, 0))
  row : TRow wr W4.heap.size (fb :: X) [v, v2] v (parR names ks k) us
  kp : Kp fb W4 wr
  below : Below fb W4 wr
end Sp
end Go.Proofs.Ytjjpjkkaogfoaaa
