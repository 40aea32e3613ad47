/- Tree: plain kinds. Written by gen_wtree.py. -/
import Derived.Test.YtdophmlnmbcjlaaT27
namespace Go.Proofs.Ytdophmlnmbcjlaa
open Go.RowKit
namespace Sp
open Sc
set_option maxRecDepth 100000 in
set_option maxHeartbeats 8000000 in
theorem tree_0a (d : Nat) (_hd : d ≤ 1000) (kd n : Int) (ns : List Int) (ks : List Rw) (c : R4) (names : List (List UInt8)) (na : Option Addr) (nc : Nat) (w : World) (hV : RwV w (.mk kd n ns ks) c) (_hnl : names.length ≤ 1000) (hk0 : kd % 9 = 0) (hd1 : (d : Int) ≤ 1) :
    Calls Try.prog 19 #[.agg #[.int .i64 c.k, .int .i64 c.n, .slice c.an c.ln c.cn, .slice c.ak c.lk c.ck], .int .i64 d, .slice na names.length nc] w (TreeP (treeR names d (.mk kd n ns ks)) w) := by
  have hT : topK names.length d kd = 1 := by unfold topK; rw [hk0]; exact if_neg (by omega)
  rw [treeR_leaf names d kd n ns ks (by omega), hT]
  cases hV with
  | mk _ _ _ _ an cn ak ck us hk hn hii hln hlk hl ha hb hu =>
    obtain ⟨hkl, hkh⟩ := hk
    have HK0 := Lib.hid hk0
    clear hu hb ha hii hl hT hk0
    go_enter Try.func19, Try.ntmps19
    go_wp2_with (go_at_call 30; (with_reducible refine (within3_is _ _ _ _ (by omega) (by omega) hkl hkh HK0.out).mono ?_); rintro e w2 ⟨rfl, rfl⟩)
    refine bodyPost_ret (v := .agg #[.int .i64 1, .string ⟨#[]⟩, .slice none 0 0, .slice none 0 0]) (by simp [results, Try.results19, go_sem]) rfl ?_
    exact ⟨⟨1, ⟨#[]⟩, none, 0, 0, none, 0, 0⟩, rfl, TzV.leaf _ _ 1 [], (((Below.refl _ _).alloc (Nat.le_refl _) _).alloc (by simp) _).alloc (by simp; omega) _⟩
set_option maxRecDepth 100000 in
set_option maxHeartbeats 8000000 in
theorem tree_0b (d : Nat) (_hd : d ≤ 1000) (kd n : Int) (ns : List Int) (ks : List Rw) (c : R4) (names : List (List UInt8)) (na : Option Addr) (nc : Nat) (w : World) (hV : RwV w (.mk kd n ns ks) c) (_hnl : names.length ≤ 1000) (hk0 : kd % 9 = 0) (hd1 : ¬ (d : Int) ≤ 1) :
    Calls Try.prog 19 #[.agg #[.int .i64 c.k, .int .i64 c.n, .slice c.an c.ln c.cn, .slice c.ak c.lk c.ck], .int .i64 d, .slice na names.length nc] w (TreeP (treeR names d (.mk kd n ns ks)) w) := by
  have hT : topK names.length d kd = 1 := by unfold topK; rw [hk0]; exact if_neg (by omega)
  rw [treeR_leaf names d kd n ns ks (by omega), hT]
  cases hV with
  | mk _ _ _ _ an cn ak ck us hk hn hii hln hlk hl ha hb hu =>
    obtain ⟨hkl, hkh⟩ := hk
    have HK0 := Lib.hid hk0
    clear hu hb ha hii hl hT hk0
    go_enter Try.func19, Try.ntmps19
    go_wp2_with (go_at_call 30; (with_reducible refine (within3_is _ _ _ _ (by omega) (by omega) hkl hkh HK0.out).mono ?_); rintro e w2 ⟨rfl, rfl⟩)
    refine bodyPost_ret (v := .agg #[.int .i64 1, .string ⟨#[]⟩, .slice none 0 0, .slice none 0 0]) (by simp [results, Try.results19, go_sem]) rfl ?_
    exact ⟨⟨1, ⟨#[]⟩, none, 0, 0, none, 0, 0⟩, rfl, TzV.leaf _ _ 1 [], (((Below.refl _ _).alloc (Nat.le_refl _) _).alloc (by simp) _).alloc (by simp; omega) _⟩
set_option maxRecDepth 100000 in
set_option maxHeartbeats 8000000 in
theorem tree_1a (d : Nat) (_hd : d ≤ 1000) (kd n : Int) (ns : List Int) (ks : List Rw) (c : R4) (names : List (List UInt8)) (na : Option Addr) (nc : Nat) (w : World) (hV : RwV w (.mk kd n ns ks) c) (_hnl : names.length ≤ 1000) (hk0 : kd % 9 = 1) (hd1 : (d : Int) ≤ 1) :
    Calls Try.prog 19 #[.agg #[.int .i64 c.k, .int .i64 c.n, .slice c.an c.ln c.cn, .slice c.ak c.lk c.ck], .int .i64 d, .slice na names.length nc] w (TreeP (treeR names d (.mk kd n ns ks)) w) := by
  have hT : topK names.length d kd = 2 := by unfold topK; rw [hk0]; exact if_neg (by omega)
  rw [treeR_leaf names d kd n ns ks (by omega), hT]
  cases hV with
  | mk _ _ _ _ an cn ak ck us hk hn hii hln hlk hl ha hb hu =>
    obtain ⟨hkl, hkh⟩ := hk
    have HK0 := Lib.hid hk0
    clear hu hb ha hii hl hT hk0
    go_enter Try.func19, Try.ntmps19
    go_wp2_with (go_at_call 30; (with_reducible refine (within3_is _ _ _ _ (by omega) (by omega) hkl hkh HK0.out).mono ?_); rintro e w2 ⟨rfl, rfl⟩)
    refine bodyPost_ret (v := .agg #[.int .i64 2, .string ⟨#[]⟩, .slice none 0 0, .slice none 0 0]) (by simp [results, Try.results19, go_sem]) rfl ?_
    exact ⟨⟨2, ⟨#[]⟩, none, 0, 0, none, 0, 0⟩, rfl, TzV.leaf _ _ 2 [], (((Below.refl _ _).alloc (Nat.le_refl _) _).alloc (by simp) _).alloc (by simp; omega) _⟩
set_option maxRecDepth 100000 in
set_option maxHeartbeats 8000000 in
theorem tree_1b (d : Nat) (_hd : d ≤ 1000) (kd n : Int) (ns : List Int) (ks : List Rw) (c : R4) (names : List (List UInt8)) (na : Option Addr) (nc : Nat) (w : World) (hV : RwV w (.mk kd n ns ks) c) (_hnl : names.length ≤ 1000) (hk0 : kd % 9 = 1) (hd1 : ¬ (d : Int) ≤ 1) :
    Calls Try.prog 19 #[.agg #[.int .i64 c.k, .int .i64 c.n, .slice c.an c.ln c.cn, .slice c.ak c.lk c.ck], .int .i64 d, .slice na names.length nc] w (TreeP (treeR names d (.mk kd n ns ks)) w) := by
  have hT : topK names.length d kd = 2 := by unfold topK; rw [hk0]; exact if_neg (by omega)
  rw [treeR_leaf names d kd n ns ks (by omega), hT]
  cases hV with
  | mk _ _ _ _ an cn ak ck us hk hn hii hln hlk hl ha hb hu =>
    obtain ⟨hkl, hkh⟩ := hk
    have HK0 := Lib.hid hk0
    clear hu hb ha hii hl hT hk0
    go_enter Try.func19, Try.ntmps19
    go_wp2_with (go_at_call 30; (with_reducible refine (within3_is _ _ _ _ (by omega) (by omega) hkl hkh HK0.out).mono ?_); rintro e w2 ⟨rfl, rfl⟩)
    refine bodyPost_ret (v := .agg #[.int .i64 2, .string ⟨#[]⟩, .slice none 0 0, .slice none 0 0]) (by simp [results, Try.results19, go_sem]) rfl ?_
    exact ⟨⟨2, ⟨#[]⟩, none, 0, 0, none, 0, 0⟩, rfl, TzV.leaf _ _ 2 [], (((Below.refl _ _).alloc (Nat.le_refl _) _).alloc (by simp) _).alloc (by simp; omega) _⟩
set_option maxRecDepth 100000 in
set_option maxHeartbeats 8000000 in
theorem tree_2a (d : Nat) (_hd : d ≤ 1000) (kd n : Int) (ns : List Int) (ks : List Rw) (c : R4) (names : List (List UInt8)) (na : Option Addr) (nc : Nat) (w : World) (hV : RwV w (.mk kd n ns ks) c) (_hnl : names.length ≤ 1000) (hk0 : kd % 9 = 2) (hd1 : (d : Int) ≤ 1) :
    Calls Try.prog 19 #[.agg #[.int .i64 c.k, .int .i64 c.n, .slice c.an c.ln c.cn, .slice c.ak c.lk c.ck], .int .i64 d, .slice na names.length nc] w (TreeP (treeR names d (.mk kd n ns ks)) w) := by
  have hT : topK names.length d kd = 3 := by unfold topK; rw [hk0]; exact if_neg (by omega)
  rw [treeR_leaf names d kd n ns ks (by omega), hT]
  cases hV with
  | mk _ _ _ _ an cn ak ck us hk hn hii hln hlk hl ha hb hu =>
    obtain ⟨hkl, hkh⟩ := hk
    have HK0 := Lib.hid hk0
    clear hu hb ha hii hl hT hk0
    go_enter Try.func19, Try.ntmps19
    go_wp2_with (go_at_call 30; (with_reducible refine (within3_is _ _ _ _ (by omega) (by omega) hkl hkh HK0.out).mono ?_); rintro e w2 ⟨rfl, rfl⟩)
    refine bodyPost_ret (v := .agg #[.int .i64 3, .string ⟨#[]⟩, .slice none 0 0, .slice none 0 0]) (by simp [results, Try.results19, go_sem]) rfl ?_
    exact ⟨⟨3, ⟨#[]⟩, none, 0, 0, none, 0, 0⟩, rfl, TzV.leaf _ _ 3 [], (((Below.refl _ _).alloc (Nat.le_refl _) _).alloc (by simp) _).alloc (by simp; omega) _⟩
set_option maxRecDepth 100000 in
set_option maxHeartbeats 8000000 in
theorem tree_2b (d : Nat) (_hd : d ≤ 1000) (kd n : Int) (ns : List Int) (ks : List Rw) (c : R4) (names : List (List UInt8)) (na : Option Addr) (nc : Nat) (w : World) (hV : RwV w (.mk kd n ns ks) c) (_hnl : names.length ≤ 1000) (hk0 : kd % 9 = 2) (hd1 : ¬ (d : Int) ≤ 1) :
    Calls Try.prog 19 #[.agg #[.int .i64 c.k, .int .i64 c.n, .slice c.an c.ln c.cn, .slice c.ak c.lk c.ck], .int .i64 d, .slice na names.length nc] w (TreeP (treeR names d (.mk kd n ns ks)) w) := by
  have hT : topK names.length d kd = 3 := by unfold topK; rw [hk0]; exact if_neg (by omega)
  rw [treeR_leaf names d kd n ns ks (by omega), hT]
  cases hV with
  | mk _ _ _ _ an cn ak ck us hk hn hii hln hlk hl ha hb hu =>
    obtain ⟨hkl, hkh⟩ := hk
    have HK0 := Lib.hid hk0
    clear hu hb ha hii hl hT hk0
    go_enter Try.func19, Try.ntmps19
    go_wp2_with (go_at_call 30; (with_reducible refine (within3_is _ _ _ _ (by omega) (by omega) hkl hkh HK0.out).mono ?_); rintro e w2 ⟨rfl, rfl⟩)
    refine bodyPost_ret (v := .agg #[.int .i64 3, .string ⟨#[]⟩, .slice none 0 0, .slice none 0 0]) (by simp [results, Try.results19, go_sem]) rfl ?_
    exact ⟨⟨3, ⟨#[]⟩, none, 0, 0, none, 0, 0⟩, rfl, TzV.leaf _ _ 3 [], (((Below.refl _ _).alloc (Nat.le_refl _) _).alloc (by simp) _).alloc (by simp; omega) _⟩
end Sp
end Go.Proofs.Ytdophmlnmbcjlaa
namespace Go.Proofs.Ytdophmlnmbcjlaa
open Go.RowKit
namespace Sp
open Sc
set_option maxRecDepth 100000 in
set_option maxHeartbeats 8000000 in
theorem tree_8n (d : Nat) (_hd : d ≤ 1000) (kd n : Int) (ns : List Int) (ks : List Rw) (c : R4) (names : List (List UInt8)) (na : Option Addr) (nc : Nat) (w : World) (hV : RwV w (.mk kd n ns ks) c) (_hnl : names.length ≤ 1000) (hk0 : kd % 9 = 8) (hn0 : names = []) :
    Calls Try.prog 19 #[.agg #[.int .i64 c.k, .int .i64 c.n, .slice c.an c.ln c.cn, .slice c.ak c.lk c.ck], .int .i64 d, .slice na names.length nc] w (TreeP (treeR names d (.mk kd n ns ks)) w) := by
  have hT : topK names.length d kd = 2 := by unfold topK; rw [hk0]; exact if_pos (by rw [hn0]; simp)
  rw [treeR_leaf names d kd n ns ks (by omega), hT]
  cases hV with
  | mk _ _ _ _ an cn ak ck us hk hn hii hln hlk hl ha hb hu =>
    obtain ⟨hkl, hkh⟩ := hk
    have HK0 := Lib.hid hk0
    clear hu hb ha hii hl hT hk0
    subst hn0
    go_enter Try.func19, Try.ntmps19
    go_wp2_with (go_at_call 30; (with_reducible refine (within3_is _ _ _ _ (by omega) (by omega) hkl hkh HK0.out).mono ?_); rintro e w2 ⟨rfl, rfl⟩)
    refine bodyPost_ret (v := .agg #[.int .i64 2, .string ⟨#[]⟩, .slice none 0 0, .slice none 0 0]) (by simp [results, Try.results19, go_sem]) rfl ?_
    exact ⟨⟨2, ⟨#[]⟩, none, 0, 0, none, 0, 0⟩, rfl, TzV.leaf _ _ 2 [], (((Below.refl _ _).alloc (Nat.le_refl _) _).alloc (by simp) _).alloc (by simp; omega) _⟩
set_option maxRecDepth 100000 in
set_option maxHeartbeats 8000000 in
theorem tree_3 (d : Nat) (_hd : d ≤ 1000) (kd n : Int) (ns : List Int) (ks : List Rw) (c : R4) (names : List (List UInt8)) (na : Option Addr) (nc : Nat) (w : World) (hV : RwV w (.mk kd n ns ks) c) (_hnl : names.length ≤ 1000) (hk0 : kd % 9 = 3) (hd1 : (d : Int) ≤ 1) :
    Calls Try.prog 19 #[.agg #[.int .i64 c.k, .int .i64 c.n, .slice c.an c.ln c.cn, .slice c.ak c.lk c.ck], .int .i64 d, .slice na names.length nc] w (TreeP (treeR names d (.mk kd n ns ks)) w) := by
  have hT : topK names.length d kd = 2 := by unfold topK; rw [hk0]; exact if_pos (by omega)
  rw [treeR_leaf names d kd n ns ks (by omega), hT]
  cases hV with
  | mk _ _ _ _ an cn ak ck us hk hn hii hln hlk hl ha hb hu =>
    obtain ⟨hkl, hkh⟩ := hk
    have HK0 := Lib.hid hk0
    clear hu hb ha hii hl hT hk0
    go_enter Try.func19, Try.ntmps19
    go_wp2_with (go_at_call 30; (with_reducible refine (within3_is _ _ _ _ (by omega) (by omega) hkl hkh HK0.out).mono ?_); rintro e w2 ⟨rfl, rfl⟩)
    refine bodyPost_ret (v := .agg #[.int .i64 2, .string ⟨#[]⟩, .slice none 0 0, .slice none 0 0]) (by simp [results, Try.results19, go_sem]) rfl ?_
    exact ⟨⟨2, ⟨#[]⟩, none, 0, 0, none, 0, 0⟩, rfl, TzV.leaf _ _ 2 [], (((Below.refl _ _).alloc (Nat.le_refl _) _).alloc (by simp) _).alloc (by simp; omega) _⟩
set_option maxRecDepth 100000 in
set_option maxHeartbeats 8000000 in
theorem tree_4 (d : Nat) (_hd : d ≤ 1000) (kd n : Int) (ns : List Int) (ks : List Rw) (c : R4) (names : List (List UInt8)) (na : Option Addr) (nc : Nat) (w : World) (hV : RwV w (.mk kd n ns ks) c) (_hnl : names.length ≤ 1000) (hk0 : kd % 9 = 4) (hd1 : (d : Int) ≤ 1) :
    Calls Try.prog 19 #[.agg #[.int .i64 c.k, .int .i64 c.n, .slice c.an c.ln c.cn, .slice c.ak c.lk c.ck], .int .i64 d, .slice na names.length nc] w (TreeP (treeR names d (.mk kd n ns ks)) w) := by
  have hT : topK names.length d kd = 2 := by unfold topK; rw [hk0]; exact if_pos (by omega)
  rw [treeR_leaf names d kd n ns ks (by omega), hT]
  cases hV with
  | mk _ _ _ _ an cn ak ck us hk hn hii hln hlk hl ha hb hu =>
    obtain ⟨hkl, hkh⟩ := hk
    have HK0 := Lib.hid hk0
    clear hu hb ha hii hl hT hk0
    go_enter Try.func19, Try.ntmps19
    go_wp2_with (go_at_call 30; (with_reducible refine (within3_is _ _ _ _ (by omega) (by omega) hkl hkh HK0.out).mono ?_); rintro e w2 ⟨rfl, rfl⟩)
    refine bodyPost_ret (v := .agg #[.int .i64 2, .string ⟨#[]⟩, .slice none 0 0, .slice none 0 0]) (by simp [results, Try.results19, go_sem]) rfl ?_
    exact ⟨⟨2, ⟨#[]⟩, none, 0, 0, none, 0, 0⟩, rfl, TzV.leaf _ _ 2 [], (((Below.refl _ _).alloc (Nat.le_refl _) _).alloc (by simp) _).alloc (by simp; omega) _⟩
set_option maxRecDepth 100000 in
set_option maxHeartbeats 8000000 in
theorem tree_5 (d : Nat) (_hd : d ≤ 1000) (kd n : Int) (ns : List Int) (ks : List Rw) (c : R4) (names : List (List UInt8)) (na : Option Addr) (nc : Nat) (w : World) (hV : RwV w (.mk kd n ns ks) c) (_hnl : names.length ≤ 1000) (hk0 : kd % 9 = 5) (hd1 : (d : Int) ≤ 1) :
    Calls Try.prog 19 #[.agg #[.int .i64 c.k, .int .i64 c.n, .slice c.an c.ln c.cn, .slice c.ak c.lk c.ck], .int .i64 d, .slice na names.length nc] w (TreeP (treeR names d (.mk kd n ns ks)) w) := by
  have hT : topK names.length d kd = 2 := by unfold topK; rw [hk0]; exact if_pos (by omega)
  rw [treeR_leaf names d kd n ns ks (by omega), hT]
  cases hV with
  | mk _ _ _ _ an cn ak ck us hk hn hii hln hlk hl ha hb hu =>
    obtain ⟨hkl, hkh⟩ := hk
    have HK0 := Lib.hid hk0
    clear hu hb ha hii hl hT hk0
    go_enter Try.func19, Try.ntmps19
    go_wp2_with (go_at_call 30; (with_reducible refine (within3_is _ _ _ _ (by omega) (by omega) hkl hkh HK0.out).mono ?_); rintro e w2 ⟨rfl, rfl⟩)
    refine bodyPost_ret (v := .agg #[.int .i64 2, .string ⟨#[]⟩, .slice none 0 0, .slice none 0 0]) (by simp [results, Try.results19, go_sem]) rfl ?_
    exact ⟨⟨2, ⟨#[]⟩, none, 0, 0, none, 0, 0⟩, rfl, TzV.leaf _ _ 2 [], (((Below.refl _ _).alloc (Nat.le_refl _) _).alloc (by simp) _).alloc (by simp; omega) _⟩
set_option maxRecDepth 100000 in
set_option maxHeartbeats 8000000 in
theorem tree_6 (d : Nat) (_hd : d ≤ 1000) (kd n : Int) (ns : List Int) (ks : List Rw) (c : R4) (names : List (List UInt8)) (na : Option Addr) (nc : Nat) (w : World) (hV : RwV w (.mk kd n ns ks) c) (_hnl : names.length ≤ 1000) (hk0 : kd % 9 = 6) (hd1 : (d : Int) ≤ 1) :
    Calls Try.prog 19 #[.agg #[.int .i64 c.k, .int .i64 c.n, .slice c.an c.ln c.cn, .slice c.ak c.lk c.ck], .int .i64 d, .slice na names.length nc] w (TreeP (treeR names d (.mk kd n ns ks)) w) := by
  have hT : topK names.length d kd = 2 := by unfold topK; rw [hk0]; exact if_pos (by omega)
  rw [treeR_leaf names d kd n ns ks (by omega), hT]
  cases hV with
  | mk _ _ _ _ an cn ak ck us hk hn hii hln hlk hl ha hb hu =>
    obtain ⟨hkl, hkh⟩ := hk
    have HK0 := Lib.hid hk0
    clear hu hb ha hii hl hT hk0
    go_enter Try.func19, Try.ntmps19
    go_wp2_with (go_at_call 30; (with_reducible refine (within3_is _ _ _ _ (by omega) (by omega) hkl hkh HK0.out).mono ?_); rintro e w2 ⟨rfl, rfl⟩)
    refine bodyPost_ret (v := .agg #[.int .i64 2, .string ⟨#[]⟩, .slice none 0 0, .slice none 0 0]) (by simp [results, Try.results19, go_sem]) rfl ?_
    exact ⟨⟨2, ⟨#[]⟩, none, 0, 0, none, 0, 0⟩, rfl, TzV.leaf _ _ 2 [], (((Below.refl _ _).alloc (Nat.le_refl _) _).alloc (by simp) _).alloc (by simp; omega) _⟩
set_option maxRecDepth 100000 in
set_option maxHeartbeats 8000000 in
theorem tree_7 (d : Nat) (_hd : d ≤ 1000) (kd n : Int) (ns : List Int) (ks : List Rw) (c : R4) (names : List (List UInt8)) (na : Option Addr) (nc : Nat) (w : World) (hV : RwV w (.mk kd n ns ks) c) (_hnl : names.length ≤ 1000) (hk0 : kd % 9 = 7) (hd1 : (d : Int) ≤ 1) :
    Calls Try.prog 19 #[.agg #[.int .i64 c.k, .int .i64 c.n, .slice c.an c.ln c.cn, .slice c.ak c.lk c.ck], .int .i64 d, .slice na names.length nc] w (TreeP (treeR names d (.mk kd n ns ks)) w) := by
  have hT : topK names.length d kd = 2 := by unfold topK; rw [hk0]; exact if_pos (by omega)
  rw [treeR_leaf names d kd n ns ks (by omega), hT]
  cases hV with
  | mk _ _ _ _ an cn ak ck us hk hn hii hln hlk hl ha hb hu =>
    obtain ⟨hkl, hkh⟩ := hk
    have HK0 := Lib.hid hk0
    clear hu hb ha hii hl hT hk0
    go_enter Try.func19, Try.ntmps19
    go_wp2_with (go_at_call 30; (with_reducible refine (within3_is _ _ _ _ (by omega) (by omega) hkl hkh HK0.out).mono ?_); rintro e w2 ⟨rfl, rfl⟩)
    refine bodyPost_ret (v := .agg #[.int .i64 2, .string ⟨#[]⟩, .slice none 0 0, .slice none 0 0]) (by simp [results, Try.results19, go_sem]) rfl ?_
    exact ⟨⟨2, ⟨#[]⟩, none, 0, 0, none, 0, 0⟩, rfl, TzV.leaf _ _ 2 [], (((Below.refl _ _).alloc (Nat.le_refl _) _).alloc (by simp) _).alloc (by simp; omega) _⟩
end Sp
end Go.Proofs.Ytdophmlnmbcjlaa
