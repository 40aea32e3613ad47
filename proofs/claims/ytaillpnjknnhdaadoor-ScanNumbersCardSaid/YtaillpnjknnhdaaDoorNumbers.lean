/- ScanNumbers: the walk. -/
import Derived.Test.YtaillpnjknnhdaaDoorStrings
import Derived.Test.YtaillpnjknnhdaaDoorNumbersQ
namespace Go.Proofs.YtaillpnjknnhdaaDoor
open Go.RowKit
namespace Sc

theorem ten_pow_bound (U j N v : Nat) (hU : 0 < U) (hj : 0 < j) (hN : N = U * 10 ^ j + v) (hb : N ≤ 9223372036854775808) : j ≤ 18 := by
  rcases Nat.lt_or_ge 18 j with h | h
  · exfalso
    have h1 : 10 ^ 19 ≤ 10 ^ j := Nat.pow_le_pow_right (by omega) h
    have h2 : 1 * 10 ^ j ≤ U * 10 ^ j := Nat.mul_le_mul_right _ hU
    have h3 : (10 : Nat) ^ 19 = 10000000000000000000 := by decide
    omega
  · exact h

theorem digit_step (U j N : Nat) (l : List UInt8) (hl : l.length = j) (hN : N = U * 10 ^ j + vl 0 l) (hd : ∀ c ∈ l, isD c = true) :
    N = (U / 10) * 10 ^ (j + 1) + vl 0 (UInt8.ofNat (48 + U % 10) :: l) ∧ (∀ c ∈ UInt8.ofNat (48 + U % 10) :: l, isD c = true) ∧ (UInt8.ofNat (48 + U % 10)).toNat = 48 + U % 10 := by
  have hlt : U % 10 < 10 := Nat.mod_lt _ (by omega)
  have ht : (UInt8.ofNat (48 + U % 10)).toNat = 48 + U % 10 := UInt8.toNat_ofNat_of_lt' (by show _ < 256; omega)
  refine ⟨?_, ?_, ht⟩
  · show N = (U / 10) * 10 ^ (j + 1) + vl (0 * 10 + ((UInt8.ofNat (48 + U % 10)).toNat - 48)) l
    rw [vl_acc, hl, ht, Nat.pow_succ, hN]
    generalize hp : 10 ^ j = p
    generalize vl 0 l = v
    have e : U = U / 10 * 10 + U % 10 := by omega
    generalize U / 10 = a at *
    generalize U % 10 = b at *
    subst e
    rw [Nat.zero_mul, Nat.zero_add, show 48 + b - 48 = b by omega, Nat.add_mul, Nat.mul_comm p 10, ← Nat.mul_assoc]
    omega
  · intro c hc
    rcases List.mem_cons.1 hc with rfl | h
    · unfold isD; rw [ht]; simp; omega
    · exact hd c h

theorem beh_cell (w : World) (t : TypeId) (n : Nat) (h : n < 5) : (w.alloc (.cells #[.string ⟨#[]⟩, .string ⟨#[32]⟩, .string ⟨#[46]⟩, .string ⟨#[41]⟩, .string ⟨#[97]⟩] t)).cell? ⟨w.heap.size, n, none⟩ = some (.string ⟨(beh n).toArray⟩) := by
  rw [lit5 w _ _ _ _ _ t n h]
  match n, h with
  | 0, _ => rfl
  | 1, _ => rfl
  | 2, _ => rfl
  | 3, _ => rfl
  | 4, _ => rfl

theorem wrap_neg (n : Int) (h : n < 0) (h1 : -9223372036854775808 ≤ n) : IntKind.u64.wrap (-IntKind.u64.wrap n) = ((-n).toNat : Nat) := by
  simp only [IntKind.wrap, IntKind.signed, IntKind.bits]
  simp
  omega
theorem conv_new (w : World) (x : Int) (cc : UInt8) (h : x = (cc.toNat : Int)) (c : Nat) : (convert 42 9 (.slice (some ⟨w.heap.size, 0, none⟩) 1 c)).run Tryd.prog (w.alloc (.cells #[.int .u8 x] 5)) = .ok (.string (oneB cc)) (w.alloc (.cells #[.int .u8 x] 5)) :=
  conv_one _ _ _ c cc (by rw [h]; simp)

set_option maxRecDepth 100000 in
set_option maxHeartbeats 4000000 in
theorem numbers_any (n : Int) (more : Int) (sgn : Bool) (w : World) (hT : Tabs w) (hn1 : -9223372036854775808 ≤ n) (hn2 : n ≤ 9223372036854775807) (hb1 : -9223372036854775808 ≤ more) (hb2 : more ≤ 9223372036854775807) :
    Calls Tryd.prog 6 #[.int .i64 n, .int .i64 more, .bool sgn] w fun e w' => e = .returned (.bool true) ∧ Below w.heap.size w w' := by
  have cK := known_any w hT
  have cA := fun w => within_any more 5 w (by omega) (by omega) hb1 hb2
  have a5 := Int.emod_nonneg more (show (5 : Int) ≠ 0 by omega)
  have a5' := Int.emod_lt_of_pos more (show (0 : Int) < 5 by omega)
  obtain ⟨q, hq⟩ : ∃ q : Nat, more % 5 = q := ⟨(more % 5).toNat, by omega⟩
  rw [hq] at cA a5 a5'
  have HT := Lib.hid hT; have HK := Lib.hid cK; have HA := Lib.hid cA
  clear hT cK cA hq hb1 hb2
  by_cases hneg : n < 0
  · have hwr := wrap_neg n hneg hn1
    obtain ⟨N, hN⟩ : ∃ N : Nat, (-n).toNat = N := ⟨_, rfl⟩
    rw [hN] at hwr
    have hNb : N ≤ 9223372036854775808 := by omega
    have HN := Lib.hid hN
    clear hN
    go_enter Tryd.func6, Tryd.ntmps6
    go_wp2_with (go_at_call 12; (with_reducible refine HK.out.mono ?_); rintro e w1 ⟨rfl, hb⟩)
    clear hwr
    go_loopw [7, 8, 9] (fun dv uv kv wr => ∃ (j U : Nat) (t : ByteArray), kv = .int .i64 j ∧ uv = .int .u64 U ∧ dv = .string t ∧ t.size = j ∧ j ≤ 19 ∧ U ≤ N ∧ Hid (N = U * 10 ^ j + vl 0 t.data.toList) ∧ Hid (∀ c ∈ t.data.toList, isD c = true) ∧ Hid (Below w.heap.size w wr)) (fun _ _ kv _ => 20 - (intOf kv).toNat)
    case atStart => exact ⟨0, N, _, rfl, rfl, rfl, rfl, by omega, Nat.le_refl _, (by show N = N * 10 ^ 0 + 0; rw [Nat.pow_zero, Nat.mul_one, Nat.add_zero]), by intro c h; simp at h, Lib.hid hb⟩
    case round =>
      obtain ⟨j, U, t, rfl, rfl, rfl, hts, hj19, hUN, hv, hd, hm⟩ := hrel
      have hbw := hm.out.size
      by_cases hgo : j = 0 ∨ 0 < U
      · have hj18 : j ≤ 18 := by
          rcases hgo with h | h
          · omega
          · rcases Nat.eq_zero_or_pos j with h0 | h0
            · omega
            · exact ten_pow_bound U j N _ h h0 hv.out hNb
        obtain ⟨s1, s2, s3⟩ := digit_step U j N t.data.toList (by rw [bytes_len]; exact hts) hv.out hd.out
        have hcc : (48 + (U : Int) % 10) = ((UInt8.ofNat (48 + U % 10)).toNat : Int) := by rw [s3]; omega
        generalize UInt8.ofNat (48 + U % 10) = cc at *
        have hcv := conv_new wr (48 + (U : Int) % 10) cc hcc
        have hU10 : ((U / 10 : Nat) : Int) = (U : Int) / 10 := by omega
        have hmod : (U : Int) % 10 < 10 := by omega
        have hmod0 : 0 ≤ (U : Int) % 10 := by omega
        have hUb : (U : Int) ≤ 9223372036854775808 := by omega
        have hos : (oneB cc).size ≤ 1 := Nat.le_refl _
        have key : (oneB cc ++ t).size = j + 1 ∧ N = (U / 10) * 10 ^ (j + 1) + vl 0 (oneB cc ++ t).data.toList ∧ ∀ c ∈ (oneB cc ++ t).data.toList, isD c = true := by
          refine ⟨?_, ?_, ?_⟩
          · rw [ByteArray.size_append, hts, oneB_size]; omega
          · rw [cat_bytes, oneB_list]; exact s1
          · rw [cat_bytes, oneB_list]; exact s2
        have KY := Lib.hid key
        have HU := Lib.hid hU10
        clear key s1 s2 s3 hcc hU10
        rcases hgo with h0 | h0
        · have tj : ((j : Int) == 0) = true := by simp [h0]
          clear h0
          go_wp2
          go_roundw
          case rel => exact ⟨j + 1, U / 10, _, by go_num, by rw [HU.out], rfl, KY.out.1, by omega, by omega, KY.out.2.1, KY.out.2.2, Lib.hid (hm.out.alloc hbw _)⟩
          case measure => simp [intOf]; omega
        · by_cases hj0 : j = 0
          · have tj : ((j : Int) == 0) = true := by simp [hj0]
            clear hj0
            go_wp2
            go_roundw
            case rel => exact ⟨j + 1, U / 10, _, by go_num, by rw [HU.out], rfl, KY.out.1, by omega, by omega, KY.out.2.1, KY.out.2.2, Lib.hid (hm.out.alloc hbw _)⟩
            case measure => simp [intOf]; omega
          · have tj : ((j : Int) == 0) = false := by simp; omega
            have h0' : (0 : Int) < U := by omega
            clear hj0
            go_wp2
            go_roundw
            case rel => exact ⟨j + 1, U / 10, _, by go_num, by rw [HU.out], rfl, KY.out.1, by omega, by omega, KY.out.2.1, KY.out.2.2, Lib.hid (hm.out.alloc hbw _)⟩
            case measure => simp [intOf]; omega
      · have hU0 : U = 0 := by omega
        have hj1 : 0 < t.data.toList.length := by rw [bytes_len]; omega
        have hj2 : t.data.toList.length ≤ 19 := by rw [bytes_len]; omega
        have hval : vl 0 t.data.toList = N := by have := hv.out; rw [hU0, Nat.zero_mul, Nat.zero_add] at this; exact this.symm
        have hfin := fun s => num_all s true t.data.toList q hd.out hj1 hj2 (by rw [hval]; exact hNb) (fun h => by cases h)
        rw [show numVal true t.data.toList = n from by unfold numVal; rw [hval]; simp; have := HN.out; omega] at hfin
        have tj : ((j : Int) == 0) = false := by simp; omega
        have htsz : t.size ≤ 19 := by omega
        have hbq := beh_len q
        have hbqs : (⟨(beh q).toArray⟩ : ByteArray).size ≤ 1 := hbq
        have hbc := beh_cell wr 9 q (by omega)
        have hm2 : Below w.heap.size w (wr.alloc (.cells #[.string ⟨#[]⟩, .string ⟨#[32]⟩, .string ⟨#[46]⟩, .string ⟨#[41]⟩, .string ⟨#[97]⟩] 9)) := hm.out.alloc hbw _
        have HM2 := Lib.hid hm2
        have HF := Lib.hid hfin
        clear hfin hm2 hgo hval hj1 hj2 hbq
        subst hU0
        have hs1 : (⟨#[45]⟩ ++ t : ByteArray).size ≤ 20 := by rw [ByteArray.size_append]; show 1 + _ ≤ _; omega
        have hs2 : (⟨#[44]⟩ ++ (⟨#[45]⟩ ++ t) : ByteArray).size ≤ 21 := by rw [ByteArray.size_append]; show 1 + _ ≤ _; omega
        cases sgn
        · obtain ⟨ts, hts1, hk, htk⟩ := HF.out false
          simp only [Bool.false_eq_true, if_false] at hk htk
          have hres : ((⟨#[45]⟩ ++ t) ++ ⟨(beh q).toArray⟩ : ByteArray).data.toList = numSrc false true t.data.toList q := by
            simp only [cat_bytes]; rfl
          have cT := Tokens_any ((⟨#[45]⟩ ++ t) ++ ⟨(beh q).toArray⟩) _ (by rw [ByteArray.size_append]; unfold maxLen; omega) (HT.out.below HM2.out).1 (HT.out.below HM2.out).2
          unfold ToksPost at cT
          rw [hres, hts1] at cT
          have CT := Lib.hid cT; have HK0 := Lib.hid htk
          clear cT hres hts1 htk
          go_wp2_with (go_at_call 14; (with_reducible refine (HA.out _).mono ?_); rintro e w' ⟨rfl, rfl⟩)
          (with_reducible refine CT.out.mono ?_)
          rintro e w2 ⟨hb2, v, rfl, ho⟩
          obtain ⟨g1, c1, rfl, hg1, hg1w⟩ := row_some ho hk
          obtain ⟨r1, _, r3, _⟩ := row_at ho 0 hk
          rw [HK0.out] at r1 r3
          simp only [Nat.zero_mul, Nat.zero_add] at r1 r3
          have hb3 := HM2.out.trans (hb2.mono HM2.out.size)
          have hki : (0 : Int) < ts.length := by omega
          have hk1 : ¬ (ts.length : Int) < 1 := by omega
          clear ho hb2 CT
          go_wp2
          go_ret
          exact ⟨rfl, hb3⟩
        · obtain ⟨ts, hts1, hk, htk⟩ := HF.out true
          simp only [if_true] at hk htk
          have hres : ((⟨#[44]⟩ ++ (⟨#[45]⟩ ++ t)) ++ ⟨(beh q).toArray⟩ : ByteArray).data.toList = numSrc true true t.data.toList q := by
            simp only [cat_bytes, List.append_assoc]; rfl
          have cT := Tokens_any ((⟨#[44]⟩ ++ (⟨#[45]⟩ ++ t)) ++ ⟨(beh q).toArray⟩) _ (by rw [ByteArray.size_append]; unfold maxLen; omega) (HT.out.below HM2.out).1 (HT.out.below HM2.out).2
          unfold ToksPost at cT
          rw [hres, hts1] at cT
          have CT := Lib.hid cT; have HK0 := Lib.hid htk
          clear cT hres hts1 htk
          go_wp2_with (go_at_call 14; (with_reducible refine (HA.out _).mono ?_); rintro e w' ⟨rfl, rfl⟩)
          (with_reducible refine CT.out.mono ?_)
          rintro e w2 ⟨hb2, v, rfl, ho⟩
          obtain ⟨g1, c1, rfl, hg1, hg1w⟩ := row_some ho (by omega)
          obtain ⟨r1, _, r3, _⟩ := row_at ho 1 hk
          rw [HK0.out] at r1 r3
          simp only [Nat.one_mul, Nat.reduceAdd] at r1 r3
          have hb3 := HM2.out.trans (hb2.mono HM2.out.size)
          have hki : (1 : Int) < ts.length := by omega
          have hk1 : ¬ (ts.length : Int) < 1 := by omega
          clear ho hb2 CT
          go_wp2
          go_ret
          exact ⟨rfl, hb3⟩
  · obtain ⟨N, rfl⟩ : ∃ N : Nat, n = N := ⟨n.toNat, by omega⟩
    have hNb : N ≤ 9223372036854775808 := by omega
    have hN2 : N ≤ 9223372036854775807 := by omega
    go_enter Tryd.func6, Tryd.ntmps6
    go_wp2_with (go_at_call 12; (with_reducible refine HK.out.mono ?_); rintro e w1 ⟨rfl, hb⟩)
    go_loopw [7, 8, 9] (fun dv uv kv wr => ∃ (j U : Nat) (t : ByteArray), kv = .int .i64 j ∧ uv = .int .u64 U ∧ dv = .string t ∧ t.size = j ∧ j ≤ 19 ∧ U ≤ N ∧ Hid (N = U * 10 ^ j + vl 0 t.data.toList) ∧ Hid (∀ c ∈ t.data.toList, isD c = true) ∧ Hid (Below w.heap.size w wr)) (fun _ _ kv _ => 20 - (intOf kv).toNat)
    case atStart => exact ⟨0, N, _, rfl, rfl, rfl, rfl, by omega, Nat.le_refl _, (by show N = N * 10 ^ 0 + 0; rw [Nat.pow_zero, Nat.mul_one, Nat.add_zero]), by intro c h; simp at h, Lib.hid hb⟩
    case round =>
      obtain ⟨j, U, t, rfl, rfl, rfl, hts, hj19, hUN, hv, hd, hm⟩ := hrel
      have hbw := hm.out.size
      by_cases hgo : j = 0 ∨ 0 < U
      · have hj18 : j ≤ 18 := by
          rcases hgo with h | h
          · omega
          · rcases Nat.eq_zero_or_pos j with h0 | h0
            · omega
            · exact ten_pow_bound U j N _ h h0 hv.out hNb
        obtain ⟨s1, s2, s3⟩ := digit_step U j N t.data.toList (by rw [bytes_len]; exact hts) hv.out hd.out
        have hcc : (48 + (U : Int) % 10) = ((UInt8.ofNat (48 + U % 10)).toNat : Int) := by rw [s3]; omega
        generalize UInt8.ofNat (48 + U % 10) = cc at *
        have hcv := conv_new wr (48 + (U : Int) % 10) cc hcc
        have hU10 : ((U / 10 : Nat) : Int) = (U : Int) / 10 := by omega
        have hmod : (U : Int) % 10 < 10 := by omega
        have hmod0 : 0 ≤ (U : Int) % 10 := by omega
        have hUb : (U : Int) ≤ 9223372036854775808 := by omega
        have hos : (oneB cc).size ≤ 1 := Nat.le_refl _
        have key : (oneB cc ++ t).size = j + 1 ∧ N = (U / 10) * 10 ^ (j + 1) + vl 0 (oneB cc ++ t).data.toList ∧ ∀ c ∈ (oneB cc ++ t).data.toList, isD c = true := by
          refine ⟨?_, ?_, ?_⟩
          · rw [ByteArray.size_append, hts, oneB_size]; omega
          · rw [cat_bytes, oneB_list]; exact s1
          · rw [cat_bytes, oneB_list]; exact s2
        have KY := Lib.hid key
        have HU := Lib.hid hU10
        clear key s1 s2 s3 hcc hU10
        rcases hgo with h0 | h0
        · have tj : ((j : Int) == 0) = true := by simp [h0]
          clear h0
          go_wp2
          go_roundw
          case rel => exact ⟨j + 1, U / 10, _, by go_num, by rw [HU.out], rfl, KY.out.1, by omega, by omega, KY.out.2.1, KY.out.2.2, Lib.hid (hm.out.alloc hbw _)⟩
          case measure => simp [intOf]; omega
        · by_cases hj0 : j = 0
          · have tj : ((j : Int) == 0) = true := by simp [hj0]
            clear hj0
            go_wp2
            go_roundw
            case rel => exact ⟨j + 1, U / 10, _, by go_num, by rw [HU.out], rfl, KY.out.1, by omega, by omega, KY.out.2.1, KY.out.2.2, Lib.hid (hm.out.alloc hbw _)⟩
            case measure => simp [intOf]; omega
          · have tj : ((j : Int) == 0) = false := by simp; omega
            have h0' : (0 : Int) < U := by omega
            clear hj0
            go_wp2
            go_roundw
            case rel => exact ⟨j + 1, U / 10, _, by go_num, by rw [HU.out], rfl, KY.out.1, by omega, by omega, KY.out.2.1, KY.out.2.2, Lib.hid (hm.out.alloc hbw _)⟩
            case measure => simp [intOf]; omega
      · have hU0 : U = 0 := by omega
        have hj1 : 0 < t.data.toList.length := by rw [bytes_len]; omega
        have hj2 : t.data.toList.length ≤ 19 := by rw [bytes_len]; omega
        have hval : vl 0 t.data.toList = N := by have := hv.out; rw [hU0, Nat.zero_mul, Nat.zero_add] at this; exact this.symm
        have hfin := fun s => num_all s false t.data.toList q hd.out hj1 hj2 (by rw [hval]; exact hNb) (fun _ => by rw [hval]; exact hN2)
        rw [show numVal false t.data.toList = (N : Int) from by unfold numVal; rw [hval]; simp] at hfin
        have tj : ((j : Int) == 0) = false := by simp; omega
        have htsz : t.size ≤ 19 := by omega
        have hbq := beh_len q
        have hbqs : (⟨(beh q).toArray⟩ : ByteArray).size ≤ 1 := hbq
        have hbc := beh_cell wr 9 q (by omega)
        have hm2 : Below w.heap.size w (wr.alloc (.cells #[.string ⟨#[]⟩, .string ⟨#[32]⟩, .string ⟨#[46]⟩, .string ⟨#[41]⟩, .string ⟨#[97]⟩] 9)) := hm.out.alloc hbw _
        have HM2 := Lib.hid hm2
        have HF := Lib.hid hfin
        clear hfin hm2 hgo hval hj1 hj2 hbq
        subst hU0
        have hs1 : (⟨#[45]⟩ ++ t : ByteArray).size ≤ 20 := by rw [ByteArray.size_append]; show 1 + _ ≤ _; omega
        have hs2 : (⟨#[44]⟩ ++ (t) : ByteArray).size ≤ 21 := by rw [ByteArray.size_append]; show 1 + _ ≤ _; omega
        cases sgn
        · obtain ⟨ts, hts1, hk, htk⟩ := HF.out false
          simp only [Bool.false_eq_true, if_false] at hk htk
          have hres : ((t) ++ ⟨(beh q).toArray⟩ : ByteArray).data.toList = numSrc false false t.data.toList q := by
            simp only [cat_bytes]; rfl
          have cT := Tokens_any ((t) ++ ⟨(beh q).toArray⟩) _ (by rw [ByteArray.size_append]; unfold maxLen; omega) (HT.out.below HM2.out).1 (HT.out.below HM2.out).2
          unfold ToksPost at cT
          rw [hres, hts1] at cT
          have CT := Lib.hid cT; have HK0 := Lib.hid htk
          clear cT hres hts1 htk
          go_wp2_with (go_at_call 14; (with_reducible refine (HA.out _).mono ?_); rintro e w' ⟨rfl, rfl⟩)
          (with_reducible refine CT.out.mono ?_)
          rintro e w2 ⟨hb2, v, rfl, ho⟩
          obtain ⟨g1, c1, rfl, hg1, hg1w⟩ := row_some ho hk
          obtain ⟨r1, _, r3, _⟩ := row_at ho 0 hk
          rw [HK0.out] at r1 r3
          simp only [Nat.zero_mul, Nat.zero_add] at r1 r3
          have hb3 := HM2.out.trans (hb2.mono HM2.out.size)
          have hki : (0 : Int) < ts.length := by omega
          have hk1 : ¬ (ts.length : Int) < 1 := by omega
          clear ho hb2 CT
          go_wp2
          go_ret
          exact ⟨rfl, hb3⟩
        · obtain ⟨ts, hts1, hk, htk⟩ := HF.out true
          simp only [if_true] at hk htk
          have hres : ((⟨#[44]⟩ ++ (t)) ++ ⟨(beh q).toArray⟩ : ByteArray).data.toList = numSrc true false t.data.toList q := by
            simp only [cat_bytes, List.append_assoc]; rfl
          have cT := Tokens_any ((⟨#[44]⟩ ++ (t)) ++ ⟨(beh q).toArray⟩) _ (by rw [ByteArray.size_append]; unfold maxLen; omega) (HT.out.below HM2.out).1 (HT.out.below HM2.out).2
          unfold ToksPost at cT
          rw [hres, hts1] at cT
          have CT := Lib.hid cT; have HK0 := Lib.hid htk
          clear cT hres hts1 htk
          go_wp2_with (go_at_call 14; (with_reducible refine (HA.out _).mono ?_); rintro e w' ⟨rfl, rfl⟩)
          (with_reducible refine CT.out.mono ?_)
          rintro e w2 ⟨hb2, v, rfl, ho⟩
          obtain ⟨g1, c1, rfl, hg1, hg1w⟩ := row_some ho (by omega)
          obtain ⟨r1, _, r3, _⟩ := row_at ho 1 hk
          rw [HK0.out] at r1 r3
          simp only [Nat.one_mul, Nat.reduceAdd] at r1 r3
          have hb3 := HM2.out.trans (hb2.mono HM2.out.size)
          have hki : (1 : Int) < ts.length := by omega
          have hk1 : ¬ (ts.length : Int) < 1 := by omega
          clear ho hb2 CT
          go_wp2
          go_ret
          exact ⟨rfl, hb3⟩
end Sc
end Go.Proofs.YtaillpnjknnhdaaDoor
