/- tree: the number of a type, that of each of its kids ahead of its own. -/
import Derived.Test.YtdophmlnmbcjlaaT28
import Derived.Test.YtdophmlnmbcjlaaT29
namespace Go.Proofs.Ytdophmlnmbcjlaa
open Go.RowKit
namespace Sp
open Sc
set_option maxRecDepth 100000
mutual
/-- Names of a thousand letters at most. -/
def shortZ : Tz → Bool
  | .mk _ nm ns ks => decide (nm.length ≤ 1000) && (ns.all fun n => decide (n.length ≤ 1000)) && shortZs ks
def shortZs : List Tz → Bool
  | [] => true
  | t :: ks => shortZ t && shortZs ks
end
theorem shortZs_mem : ∀ (ks : List Tz), shortZs ks = true → ∀ (k : Nat) (h : k < ks.length), shortZ ks[k] = true
  | t :: ks, hg, 0, _ => by simp only [shortZs, Bool.and_eq_true] at hg; exact hg.1
  | t :: ks, hg, k + 1, h => by simp only [shortZs, Bool.and_eq_true] at hg; exact shortZs_mem ks hg.2 k (by simpa using h)
theorem shortZ_mk {k : Int} {nm : List UInt8} {ns : List (List UInt8)} {ks : List Tz} (h : shortZ (.mk k nm ns ks) = true) : nm.length ≤ 1000 ∧ (∀ n ∈ ns, n.length ≤ 1000) ∧ shortZs ks = true := by
  simp only [shortZ, Bool.and_eq_true, decide_eq_true_eq, List.all_eq_true] at h
  exact ⟨h.1.1, h.1.2, h.2⟩
/-- The cells of a key behind the copying of its names. -/
theorem keyL_names (k : Int) (nm : List UInt8) (sz : Nat) : ∀ (ns : List (List UInt8)), ns.length ≤ 8 → (keyL k nm sz [] []).take 3 ++ ns.map str ++ (keyL k nm sz [] []).drop (3 + ns.length) = keyL k nm sz ns []
  | [], _ => rfl
  | [_], _ => rfl
  | [_, _], _ => rfl
  | [_, _, _], _ => rfl
  | [_, _, _, _], _ => rfl
  | [_, _, _, _, _], _ => rfl
  | [_, _, _, _, _, _], _ => rfl
  | [_, _, _, _, _, _, _], _ => rfl
  | [_, _, _, _, _, _, _, _], _ => rfl
  | _ :: _ :: _ :: _ :: _ :: _ :: _ :: _ :: _ :: _, h => by simp at h
theorem keyL_one (k : Int) (nm : List UInt8) (sz : Nat) (ns : List (List UInt8)) (ids : List Nat) : ∀ v ∈ keyL k nm sz ns ids, v.oneCell' = true := by
  intro v hv
  simp only [keyL, List.mem_cons, List.not_mem_nil, or_false] at hv
  rcases hv with rfl | rfl | rfl | rfl | rfl | rfl | rfl | rfl | rfl | rfl | rfl | rfl | rfl | rfl | rfl | rfl | rfl | rfl | rfl <;> rfl
/-- .. behind one more kid. -/
theorem keyL_kid (k : Int) (nm : List UInt8) (sz : Nat) (ns : List (List UInt8)) (i : Nat) : ∀ (ids : List Nat), ids.length < 8 → (keyL k nm sz ns ids).toArray.setIfInBounds (11 + ids.length) (.int .i64 (i : Nat)) = (keyL k nm sz ns (ids ++ [i])).toArray
  | [], _ => rfl
  | [_], _ => rfl
  | [_, _], _ => rfl
  | [_, _, _], _ => rfl
  | [_, _, _, _], _ => rfl
  | [_, _, _, _, _], _ => rfl
  | [_, _, _, _, _, _], _ => rfl
  | [_, _, _, _, _, _, _], _ => rfl
  | _ :: _ :: _ :: _ :: _ :: _ :: _ :: _ :: _, h => by simp at h; omega
theorem exec_copy {P : Program} {b : Act} {o : Oper} {v v' : World} {t t' : TypeId} {x y : Operand} {p q u : Value} (ho : o.op = .call { callee := .builtin .copy, args := #[x, y], argTypes := #[t, t'] }) (hx : b.eval x = p) (hy : b.eval y = q) (hr : (Builtin.copy_ #[t, t'] o.type #[p, q]).run P v = .ok u v') :
    (execOp b.eval o).run P v = .ok (.value u) v' := by
  unfold execOp
  simp only [ho, resolve, invoke, builtin, Sem.run_bind, Sem.run_pure, Result.andThen_ok, List.map_toArray, List.map_cons, List.map_nil, hx, hy, hr]
theorem exec_build3 {P : Program} {b : Act} {o : Oper} {v v' : World} {t : TypeId} {x y z : Operand} {p q r u : Value} (ho : o.op = .build t #[(0, x), (1, y), (2, z)]) (hx : b.eval x = p) (hy : b.eval y = q) (hz : b.eval z = r) (hr : (Instr.build t #[(0, p), (1, q), (2, r)]).run P v = .ok u v') :
    (execOp b.eval o).run P v = .ok (.value u) v' := by
  unfold execOp
  simp only [ho, List.map_toArray, List.map_cons, List.map_nil, hx, hy, hz, Sem.run_bind, hr, Result.andThen_ok, Sem.run_pure]
theorem exec_alloc {P : Program} {b : Act} {o : Oper} {v v' : World} {t : TypeId} {u : Value} (ho : o.op = .alloc t) (hr : (Instr.alloc t true (.tuple #[])).run P v = .ok u v') : (execOp b.eval o).run P v = .ok (.value u) v' := by
  unfold execOp
  simp only [ho, Sem.run_bind, hr, Result.andThen_ok, Sem.run_pure]
theorem build_head (k n : Int) (s : ByteArray) (w : World) : (Instr.build 91 #[(0, .int .i64 k), (1, .string s), (2, .int .i64 n)]).run Try.prog w = .ok (.agg #[.int .i64 k, .string s, .int .i64 n, .string ⟨#[]⟩, .string ⟨#[]⟩, .string ⟨#[]⟩, .string ⟨#[]⟩, .string ⟨#[]⟩, .string ⟨#[]⟩, .string ⟨#[]⟩, .string ⟨#[]⟩, .int .i64 0, .int .i64 0, .int .i64 0, .int .i64 0, .int .i64 0, .int .i64 0, .int .i64 0, .int .i64 0]) w := by kernel_rfl
theorem alloc_key (w : World) : (Instr.alloc 91 true (.tuple #[])).run Try.prog w = .ok (.pointer (some ⟨w.heap.size, 0, none⟩)) (w.alloc (.cells #[.int .i64 0, .string ⟨#[]⟩, .int .i64 0, .string ⟨#[]⟩, .string ⟨#[]⟩, .string ⟨#[]⟩, .string ⟨#[]⟩, .string ⟨#[]⟩, .string ⟨#[]⟩, .string ⟨#[]⟩, .string ⟨#[]⟩, .int .i64 0, .int .i64 0, .int .i64 0, .int .i64 0, .int .i64 0, .int .i64 0, .int .i64 0, .int .i64 0] 91)) := by kernel_rfl
/-- A tree is added. -/
def TreeK (t : Tz) : Prop := ∀ (w : World) (tb rb nb mb sb m : Nat) (ty nu : Value) (T : List Kz) (S : Nat → Prop) (c : C4), TabV w tb rb nb mb sb m ty nu T → TzV w S t c → (∀ g, S g → g < w.heap.size ∧ ¬ Own tb rb nb g) →
  Calls Try.prog 35 #[.pointer (some ⟨tb, 0, none⟩), .agg #[.int .i64 c.k, .string c.n, .slice c.an c.ln c.cn, .slice c.ak c.lk c.ck]] w fun e w' => ∃ rb' nb' ty' nu', e = .returned (.tuple #[.int .i64 ((treeK T t).1 : Nat), .int .i64 ((treeK T t).2.1 : Nat)]) ∧ Added w w' tb rb nb mb sb m (treeK T t).2.2 rb' nb' ty' nu'
/-- The names lie in the key's block. -/
theorem names_copied {w : World} {S : Nat → Prop} {an : Option Addr} {cn kb : Nat} {k : Int} {nm : List UInt8} {sz : Nat} {ns : List (List UInt8)} (ty : TypeId) (hn : RowV w S an 1 (ns.map fun n => [str n])) (h8 : ns.length ≤ 8) (hk : w.heap[kb]? = some (.cells (keyL k nm sz [] []).toArray 91 (0, 0))) :
    ∃ w' u, (Builtin.copy_ #[27, 27] ty #[.slice (some ⟨kb, 3, none⟩) 8 8, .slice an ns.length cn]).run Try.prog w = .ok u w' ∧ w'.heap[kb]? = some (.cells (keyL k nm sz ns []).toArray 91 (0, 0)) ∧ Only kb w w' := by
  have hz : (Try.prog.info? 9).map (·.size) = some 1 := by kernel_rfl
  rcases hn with hn | ⟨g, o, rfl, hg, hc⟩
  · have : ns = [] := by simpa using hn
    subst this
    exact ⟨w, _, run_copy_none w 27 27 ty 9 _ _ 8 8 0 cn Try.underlying27 hz (by decide), hk, Only.refl _ _⟩
  · have hr := run_copy_row Try.prog w 27 27 ty 9 kb 3 8 8 ⟨g, o, none⟩ ns.length cn (keyL k nm sz [] []).toArray 91 (ns.map str) Try.underlying27 hz hk (by simp [Nat.min_def]; omega) (fun j v hv => by
      rw [List.getElem?_map] at hv
      cases hj : ns[j]? with
      | none => rw [hj] at hv; cases hv
      | some x =>
        rw [hj] at hv
        obtain ⟨hj1, hj2⟩ := List.getElem?_eq_some_iff.1 hj
        have := hc j (by simpa using hj1) 0 v (by simp [hj2]; simpa using hv)
        rw [Addr.add_mid]; simpa using this) (by simp [keyL]; omega) (fun v hv => by obtain ⟨x, _, rfl⟩ := List.mem_map.1 hv; rfl)
    refine ⟨_, _, hr, ?_, ?_⟩
    · rw [setRow_heap w kb _ _ _ _ hk]
      congr 2
      have := keyL_names k nm sz ns h8
      simpa using this
    · refine ⟨rfl, rfl, rfl, by simp [World.setRow], fun g hg hne => ?_⟩
      unfold World.setRow
      simp only [Array.getElem?_modify]
      rw [if_neg (fun e => hne (by rw [e]))]
theorem kidsK_len2 : ∀ (ks : List Tz) (T : List Kz), (kidsK T ks).2.1 = 0 → (kidsK T ks).1.length = ks.length
  | [], T, _ => by rw [kidsK]; rfl
  | t :: ks, T, h => by
    rw [kidsK] at h ⊢
    split at h
    · rename_i h1
      rw [if_pos h1]
      simp [kidsK_len2 ks (treeK T t).2.2 h]
    · rename_i h1; exact absurd h h1
theorem Grew.older {w W : World} {tb rb nb rb' nb' : Nat} (h : Grew W tb rb nb rb' nb') (hs : w.heap.size ≤ W.heap.size) : Grew w tb rb nb rb' nb' :=
  ⟨h.row.imp id fun h => by omega, h.num.imp id fun h => by omega⟩
/-- A kid's cell. -/
theorem kid_cell {w : World} {b : Nat} {k : Int} {nm : List UInt8} {sz : Nat} {ns : List (List UInt8)} {ids : List Nat} {t : TypeId} (h : w.heap[b]? = some (.cells (keyL k nm sz ns ids).toArray t (0, 0))) (j : Nat) (hj : j < 8) :
    (∃ v, w.cell? ⟨b, 11 + j, none⟩ = some v) ∧ w.frozen? ⟨b, 11 + j, none⟩ = false := by
  refine ⟨?_, by simp [World.frozen?, h]⟩
  have : 11 + j < (keyL k nm sz ns ids).length := by simp [keyL]; omega
  exact ⟨(keyL k nm sz ns ids)[11 + j], by simp [World.cell?, h, this]⟩
/-- The loop over the kids. -/
structure TrR (W2 : World) (tb rb nb mb sb m xb kb : Nat) (T : List Kz) (k : Int) (nm : List UInt8) (ns : List (List UInt8)) (ks : List Tz) (xc : Array Value) (iv : Value) (wr : World) (j : Nat) (ids : List Nat) (Tj : List Kz) (rb' nb' : Nat) (ty' nu' : Value) : Prop where
  slot : iv = .int .i64 j
  le : j ≤ ks.length
  done : kidsK T (ks.take j) = (ids, 0, Tj)
  tab : TabV wr tb rb' nb' mb sb m ty' nu' Tj
  keeps : Keeps (fun g => Own tb rb nb g ∨ g = kb) W2 wr
  grew : Grew W2 tb rb nb rb' nb'
  key : wr.heap[kb]? = some (.cells (keyL k nm ks.length ns ids).toArray 91 (0, 0))
  box : wr.heap[xb]? = some (.cells xc 30 (0, 0))
theorem Keeps.drop {O : Nat → Prop} {kb : Nat} {w W2 wr : World} (hb : Below w.heap.size w W2) (h : Keeps (fun g => O g ∨ g = kb) W2 wr) (hk : w.heap.size ≤ kb) : Keeps O w wr :=
  (Keeps.of_below (O := O) hb).trans h fun g hg => by
    rcases hg with hg | rfl
    · exact .inl hg
    · exact .inr hk
set_option maxHeartbeats 8000000 in
theorem tree_step {has : List UInt8 → Bool} (k : Int) (nm : List UInt8) (ns : List (List UInt8)) (ks : List Tz) (hok : okK has (.mk k nm ns ks) = true) (hsh : shortZ (.mk k nm ns ks) = true) (IH : ∀ i (h : i < ks.length), TreeK ks[i]) : TreeK (.mk k nm ns ks) := by
  intro w tb rb nb mb sb m ty nu T S c hT hV hS
  cases hV with
  | mk _ _ _ _ an cn ak ck us hl hnr hkr hu =>
  dsimp only
  have hok' := hok
  rw [okK, Bool.and_eq_true, decide_eq_true_eq] at hok
  obtain ⟨hs1, hs2, hs3⟩ := shortZ_mk hsh
  have hwk := fun (ids : List Nat) (h : ids.length = ks.length) => wfK_of (has := has) (k := k) (nm := nm) (ns := ns) (ids := ids) (by rw [h]; exact hok.1)
  have hk8 : ks.length ≤ 8 := by
    have := (hwk (List.replicate ks.length 0) (by simp)).few
    simpa using this
  have hn8 : ns.length ≤ 8 := (hwk (List.replicate ks.length 0) (by simp)).names8
  obtain ⟨v, hv⟩ : ∃ v, v = treeK T (.mk k nm ns ks) := ⟨_, rfl⟩
  rw [← hv]
  rw [treeK] at hv
  -- the boxes
  obtain ⟨W0, hW0⟩ : ∃ W0, W0 = w.alloc (.cells #[.int .i64 k, .string ⟨nm.toArray⟩, .slice an ns.length cn, .slice ak ks.length ck] 30) := ⟨_, rfl⟩
  have hz0 : W0.heap.size = w.heap.size + 1 := by rw [hW0]; simp
  have hx0 : W0.heap[w.heap.size]? = some (.cells #[.int .i64 k, .string ⟨nm.toArray⟩, .slice an ns.length cn, .slice ak ks.length ck] 30 (0, 0)) := by rw [hW0]; exact heap_alloc_new w _
  obtain ⟨WA, hWA⟩ : ∃ WA, WA = W0.alloc (.cells #[.int .i64 0, .string ⟨#[]⟩, .int .i64 0, .string ⟨#[]⟩, .string ⟨#[]⟩, .string ⟨#[]⟩, .string ⟨#[]⟩, .string ⟨#[]⟩, .string ⟨#[]⟩, .string ⟨#[]⟩, .string ⟨#[]⟩, .int .i64 0, .int .i64 0, .int .i64 0, .int .i64 0, .int .i64 0, .int .i64 0, .int .i64 0, .int .i64 0] 91) := ⟨_, rfl⟩
  have hzA : WA.heap.size = w.heap.size + 2 := by rw [hWA]; simp; omega
  have hkA : WA.heap[w.heap.size + 1]? = some (.cells ([.int .i64 0, .string ⟨#[]⟩, .int .i64 0, .string ⟨#[]⟩, .string ⟨#[]⟩, .string ⟨#[]⟩, .string ⟨#[]⟩, .string ⟨#[]⟩, .string ⟨#[]⟩, .string ⟨#[]⟩, .string ⟨#[]⟩, .int .i64 0, .int .i64 0, .int .i64 0, .int .i64 0, .int .i64 0, .int .i64 0, .int .i64 0, .int .i64 0] : List Value).toArray 91 (0, 0)) := by rw [hWA, ← hz0]; exact heap_alloc_new W0 _
  have hbA : Below w.heap.size w WA := by rw [hWA, hW0]; exact ((Below.refl _ _).alloc (Nat.le_refl _) _).alloc (by simp) _
  obtain ⟨W1, hW1⟩ : ∃ W1, W1 = WA.setCells (w.heap.size + 1) 0 [.int .i64 k, .string ⟨nm.toArray⟩, .int .i64 (ks.length : Nat), .string ⟨#[]⟩, .string ⟨#[]⟩, .string ⟨#[]⟩, .string ⟨#[]⟩, .string ⟨#[]⟩, .string ⟨#[]⟩, .string ⟨#[]⟩, .string ⟨#[]⟩, .int .i64 0, .int .i64 0, .int .i64 0, .int .i64 0, .int .i64 0, .int .i64 0, .int .i64 0, .int .i64 0] := ⟨_, rfl⟩
  have hz1 : W1.heap.size = w.heap.size + 2 := by rw [hW1, setCells_size]; exact hzA
  have hb1 : Below w.heap.size w W1 := by rw [hW1]; exact setCells_below _ (Nat.le_succ _) _ 0 WA hbA
  have hx1 : W1.heap[w.heap.size]? = some (.cells #[.int .i64 k, .string ⟨nm.toArray⟩, .slice an ns.length cn, .slice ak ks.length ck] 30 (0, 0)) := by rw [hW1, setCells_other _ _ _ _ _ (by omega), hWA, Below.heap_alloc _ _ _ (by omega)]; exact hx0
  have hk1 : W1.heap[w.heap.size + 1]? = some (.cells (keyL k nm ks.length [] []).toArray 91 (0, 0)) := by rw [hW1]; exact setCells_blk hkA rfl
  have hn1 : RowV W1 (fun g => g < w.heap.size) an 1 (ns.map fun n => [str n]) := hnr.keep (fun g hg => (hS g hg).1) (fun g hg => hb1.block g (hS g hg).1)
  obtain ⟨W2, u2, hr2, hk2, ho2⟩ := names_copied (w := W1.drew) (cn := cn) 3 hn1 hn8 hk1
  have hz2 : w.heap.size + 2 ≤ W2.heap.size := by have := ho2.size; show _ ≤ _; have e : W1.drew.heap.size = W1.heap.size := rfl; omega
  have hx2 : W2.heap[w.heap.size]? = some (.cells #[.int .i64 k, .string ⟨nm.toArray⟩, .slice an ns.length cn, .slice ak ks.length ck] 30 (0, 0)) := ho2.blk (w := W1.drew) hx1 (by omega)
  have hb2 : Below w.heap.size w W2 := hb1.trans ((show Only (w.heap.size + 1) W1 W2 from ⟨ho2.os, ho2.tape, ho2.output, ho2.size, ho2.block⟩).below (by omega) (by omega))
  obtain ⟨⟨p0, p1, p2, p3⟩, _⟩ := four_blk hx0
  have hT2 := hT.below hb2
  have ht1 := hT.tlt
  have CT := fun W (hk : Keeps (fun g => Own tb rb nb g ∨ g = w.heap.size + 1) W2 W) i (h : i < ks.length) (h' : i < us.length) => (hu i h h').keep (S' := S) (fun _ h => h) (fun g hg => (hk.block g (by have := (hS g hg).1; omega) (by rintro (h | h); exact (hS g hg).2 h; have := (hS g hg).1; omega)).trans (hb2.block g (hS g hg).1))
  have CR := fun W (hk : Keeps (fun g => Own tb rb nb g ∨ g = w.heap.size + 1) W2 W) => hkr.keep (w' := W) (S' := S) (fun _ h => h) (fun g hg => (hk.block g (by have := (hS g hg).1; omega) (by rintro (h | h); exact (hS g hg).2 h; have := (hS g hg).1; omega)).trans (hb2.block g (hS g hg).1))
  have HW0 := Lib.hid hW0; have HWA := Lib.hid hWA; have HKA := Lib.hid hkA
  have HV := Lib.hid hv; have HW1 := Lib.hid hW1; have HX1 := Lib.hid hx1; have HK1 := Lib.hid hk1; have HR2 := Lib.hid hr2; have HK2 := Lib.hid hk2; have HX2 := Lib.hid hx2; have HB2 := Lib.hid hb2; have HT2 := Lib.hid hT2; have HS := Lib.hid hS; have HIH := Lib.hid IH; have HUL := Lib.hid hl; have HCT := Lib.hid CT; have HCR := Lib.hid CR; have HWK := Lib.hid hwk; have HOK := Lib.hid hok; have HS1 := Lib.hid hs1; have HS2 := Lib.hid hs2; have HT := Lib.hid hT
  clear hv hr2 hk2 hx2 hb2 hT2 IH hl CT CR hwk hok hok' hs1 hs2 hs3 hsh hT hkr hu ho2 hx0 hkA hbA hx1 hk1 hb1 hnr hn1 hW1 hWA
  rw [hW0] at p0 p1 p2 p3
  clear hW0
  go_enter Try.func35, Try.ntmps35
  go_upto_region 1 with fail
  rw [← HW0.out]
  rw [← HW0.out] at p0 p1 p2 p3
  refine wp_region_lit ?_
  refine wpList_runV (w' := W0) rfl (.pointer (some ⟨w.heap.size, 0, none⟩)) (by simp [execOp, go_sem]) ?_
  simp only [Act.put, List.setIfInBounds_toArray, List.set_cons_zero, List.set_cons_succ]
  refine wpList_runV (w' := W0) rfl (.int .i64 k) (by simp [execOp, go_sem, p0]) ?_
  refine wpList_runV (w' := W0) rfl (.pointer (some ⟨w.heap.size, 1, none⟩)) (by simp [execOp, go_sem]) ?_
  refine wpList_runV (w' := W0) rfl (.string ⟨nm.toArray⟩) (by simp [execOp, go_sem, p1]) ?_
  refine wpList_runV (w' := W0) rfl (.pointer (some ⟨w.heap.size, 3, none⟩)) (by simp [execOp, go_sem]) ?_
  refine wpList_runV (w' := W0) rfl (.slice ak ks.length ck) (by simp [execOp, go_sem, p3]) ?_
  refine wpList_runV (w' := W0) rfl (.int .i64 (ks.length : Nat)) (by simp [go_sem]) ?_
  simp only [Act.put, List.setIfInBounds_toArray, List.set_cons_zero, List.set_cons_succ]
  refine wpList_runV (w' := W0) rfl _ (exec_build3 rfl rfl rfl rfl (build_head k (ks.length : Nat) ⟨nm.toArray⟩ W0)) ?_
  simp only [Act.put, List.setIfInBounds_toArray, List.set_cons_zero, List.set_cons_succ]
  refine wpList_runV (w' := WA) rfl (.pointer (some ⟨w.heap.size + 1, 0, none⟩)) (by rw [HWA.out, ← hz0]; exact exec_alloc rfl (alloc_key W0)) ?_
  simp only [Act.put, List.setIfInBounds_toArray, List.set_cons_zero, List.set_cons_succ]
  refine wpList_store_mid rfl 91 _ _ rfl (w.heap.size + 1) 0 #[.int .i64 k, .string ⟨nm.toArray⟩, .int .i64 (ks.length : Nat), .string ⟨#[]⟩, .string ⟨#[]⟩, .string ⟨#[]⟩, .string ⟨#[]⟩, .string ⟨#[]⟩, .string ⟨#[]⟩, .string ⟨#[]⟩, .string ⟨#[]⟩, .int .i64 0, .int .i64 0, .int .i64 0, .int .i64 0, .int .i64 0, .int .i64 0, .int .i64 0, .int .i64 0] rfl rfl (show WA.there (w.heap.size + 1) 0 19 from there_blk (cs := [.int .i64 0, .string ⟨#[]⟩, .int .i64 0, .string ⟨#[]⟩, .string ⟨#[]⟩, .string ⟨#[]⟩, .string ⟨#[]⟩, .string ⟨#[]⟩, .string ⟨#[]⟩, .string ⟨#[]⟩, .string ⟨#[]⟩, .int .i64 0, .int .i64 0, .int .i64 0, .int .i64 0, .int .i64 0, .int .i64 0, .int .i64 0, .int .i64 0]) HKA.out) infoKey (all_oneCell_toArray (keyL_one k nm ks.length [] [])) ?_
  rw [show ([.int .i64 k, .string ⟨nm.toArray⟩, .int .i64 (ks.length : Nat), .string ⟨#[]⟩, .string ⟨#[]⟩, .string ⟨#[]⟩, .string ⟨#[]⟩, .string ⟨#[]⟩, .string ⟨#[]⟩, .string ⟨#[]⟩, .string ⟨#[]⟩, .int .i64 0, .int .i64 0, .int .i64 0, .int .i64 0, .int .i64 0, .int .i64 0, .int .i64 0, .int .i64 0] : List Value).toArray.toList = [.int .i64 k, .string ⟨nm.toArray⟩, .int .i64 (ks.length : Nat), .string ⟨#[]⟩, .string ⟨#[]⟩, .string ⟨#[]⟩, .string ⟨#[]⟩, .string ⟨#[]⟩, .string ⟨#[]⟩, .string ⟨#[]⟩, .string ⟨#[]⟩, .int .i64 0, .int .i64 0, .int .i64 0, .int .i64 0, .int .i64 0, .int .i64 0, .int .i64 0, .int .i64 0] from rfl, ← HW1.out]
  refine wpList_nil ?_
  simp only [Act.put]
  go_upto_region 2 with fail
  clear p0 p1 p2 p3
  obtain ⟨⟨p0, p1, p2, p3⟩, _⟩ := four_blk HX1.out
  refine wp_region_still_tail 4 (by kernel_rfl) (by kernel_rfl) ?_
  simp only [List.take_succ_cons, List.take_zero, List.drop_succ_cons, List.drop_zero]
  iterate 4 still_step
  refine wpStill_nil ?_
  refine wpList_runV (w' := W2) rfl u2 (exec_copy rfl rfl rfl HR2.out) ?_
  refine wpList_nil ?_
  simp only [Act.put]
  clear p0 p1 p2 p3
  obtain ⟨⟨p0, p1, p2, p3⟩, _⟩ := four_blk HX2.out
  go_wp2_with fail
  clear p0 p1 p2 p3
  go_loopw [27] (fun iv wr => ∃ j ids Tj rb' nb' ty' nu', TrR W2 tb rb nb mb sb m w.heap.size (w.heap.size + 1) T k nm ns ks #[.int .i64 k, .string ⟨nm.toArray⟩, .slice an ns.length cn, .slice ak ks.length ck] iv wr j ids Tj rb' nb' ty' nu') (fun iv _ => ks.length - (intOf iv).toNat)
  case atStart => exact ⟨0, [], T, rb, nb, ty, nu, rfl, Nat.zero_le _, by rw [List.take_zero, kidsK], HT2.out, Keeps.refl _ _, Grew.refl _ _ _ _, HK2.out, HX2.out⟩
  case round =>
    obtain ⟨j, ids, Tj, rb', nb', ty', nu', h⟩ := hrel
    obtain rfl := h.slot
    have hj := h.le
    have hwz := h.keeps.size
    have hidl : ids.length = j := by
      have := kidsK_len2 (ks.take j) T (by rw [h.done])
      rw [h.done] at this
      simpa [Nat.min_eq_left hj] using this
    have H := Lib.hid h
    clear h
    by_cases hlt : j < ks.length
    · have hlu : j < us.length := by rw [HUL.out]; exact hlt
      have hjz : (j : Int) < (ks.length : Int) := by omega
      have hj8 : (j : Int) < 8 := by omega
      have hj0 : (0 : Int) ≤ (j : Int) := by omega
      obtain ⟨g, o, rfl, hg, hc⟩ := four_at (wb := w.heap.size) (HCR.out wr H.out.keeps) (fun g hg => (HS.out g hg).1) j hlu
      obtain ⟨c0, c1, c2, c3⟩ := hc wr (fun _ _ => rfl)
      have hTk := HCT.out wr H.out.keeps j hlt hlu
      have hI := HIH.out j hlt
      have htk : ks.take (j + 1) = ks.take j ++ [ks[j]] := by rw [List.take_add_one, List.getElem?_eq_getElem hlt]; rfl
      have hsn := kidsK_snoc T (ks.take j) ks[j]
      rw [← htk, H.out.done] at hsn
      dsimp only at hsn
      rw [if_pos rfl] at hsn
      have hee := treeK_e ks[j] Tj
      clear hc htk
      generalize ks[j] = t at *
      generalize us[j] = x at *
      obtain ⟨x1, x2, x3, x4, x5, x6, x7, x8⟩ := x
      dsimp only at *
      obtain ⟨W3, hW3⟩ : ∃ W3, W3 = wr.alloc (.cells #[.int .i64 x1, .string x2, .slice x3 x4 x5, .slice x6 x7 x8] 30) := ⟨_, rfl⟩
      have hBB : Below wr.heap.size wr W3 := by rw [hW3]; exact (Below.refl _ _).alloc (Nat.le_refl _) _
      have hO' : ∀ g, Own tb rb' nb' g → Own tb rb nb g ∨ W2.heap.size ≤ g := H.out.grew.own
      have hC3 := hI W3 tb rb' nb' mb sb m ty' nu' Tj S ⟨x1, x2, x3, x4, x5, x6, x7, x8⟩ (H.out.tab.below hBB) (hTk.later (fun g hg => by have := (HS.out g hg).1; omega) hBB) (fun g hg => ⟨by have := (HS.out g hg).1; have := hBB.size; omega, fun ho => by
        rcases hO' g ho with h | h
        · exact (HS.out g hg).2 h
        · have := (HS.out g hg).1; omega⟩)
      have hkb : w.heap.size + 1 < wr.heap.size := by omega
      have hnk : ∀ g, w.heap.size ≤ g → g < W2.heap.size → ¬ Own tb rb' nb' g := fun g h1 h2 ho => by
        rcases hO' g ho with h | h
        · have := HT.out.lt h; omega
        · omega
      have HC3 := Lib.hid hC3; have HBB := Lib.hid hBB; have HNK := Lib.hid hnk; have HSN := Lib.hid hsn; have HEE := Lib.hid hee
      have hzb := hBB.size
      clear hI hTk hC3 hBB hO' hnk hsn hee
      subst hW3
      obtain ⟨⟨q1, q2, q3⟩, hq⟩ : ∃ q, treeK Tj t = q := ⟨_, rfl⟩
      rw [hq] at HC3 HSN HEE
      clear hq
      dsimp only at HC3 HSN HEE
      by_cases h0 : q2 = 0
      · subst h0
        have hd := HSN.out
        rw [if_pos rfl] at hd
        have HDD := Lib.hid hd
        clear hd
        go_wp2_with (go_at_call 35; (with_reducible refine HC3.out.mono ?_); rintro e w5 ⟨rb2, nb2, ty2, nu2, rfl, ha⟩; have HA := Lib.hid ha; have hz5 := ha.keeps.size; have kb5 := (ha.keeps.block (w.heap.size + 1) (by omega) (HNK.out _ (by omega) (by omega))).trans ((HBB.out.block _ hkb).trans H.out.key); obtain ⟨⟨dv, d0⟩, d1⟩ := kid_cell kb5 j (by omega); have HK5 := Lib.hid kb5; clear ha kb5)
        go_roundw
        case rel =>
          have hkk := HNK.out (w.heap.size + 1) (by omega) (by omega)
          have hnk2 : ∀ g, Own tb rb2 nb2 g → g ≠ w.heap.size + 1 := fun g hg e => by
            rcases HA.out.grew.own g hg with h | h
            · exact hkk (e ▸ h)
            · omega
          have hK1 : Keeps (Own tb rb' nb') wr w5 := (Keeps.of_below HBB.out).trans HA.out.keeps (fun g h => .inl h)
          refine ⟨j + 1, ids ++ [q1], q3, rb2, nb2, ty2, nu2, by go_num, by omega, HDD.out, ?_, ?_, ?_, ?_, ?_⟩
          · exact HA.out.tab.keep (fun g hg => RowKit.Below.heap_setCell _ _ _ _ (hnk2 g hg)) (by simp)
          · refine (H.out.keeps.trans hK1 fun g hg => ?_).setCell _ _ (.inr rfl)
            rcases H.out.grew.own g hg with h | h
            · exact .inl (.inl h)
            · exact .inr h
          · exact H.out.grew.trans HA.out.grew (by omega)
          · rw [Go.setCell_eq_setRow w5 (w.heap.size + 1) (11 + j) _ 91 (0, 0) _ HK5.out, setRow_heap w5 _ _ _ _ _ HK5.out, ← keyL_kid k nm ks.length ns q1 ids (by omega), hidl]
          · rw [RowKit.Below.heap_setCell _ _ _ _ (by show w.heap.size ≠ w.heap.size + 1; omega)]
            exact (HA.out.keeps.block w.heap.size (by omega) (HNK.out _ (by omega) (by omega))).trans ((HBB.out.block _ (by omega)).trans H.out.box)
        case measure => simp [intOf]; omega
      · have hd := HSN.out
        rw [if_neg h0] at hd
        have hbad := kidsK_bad (T := T) (ks := ks) (i := j + 1) (by rw [hd]; exact h0)
        rw [hd] at hbad
        have hvv := HV.out
        rw [hbad] at hvv
        dsimp only at hvv
        rw [if_neg h0] at hvv
        have HVV := Lib.hid hvv
        have hq20 : q2 = 20 := by rcases HEE.out with h | h; exact absurd h h0; exact h
        clear hd hbad hvv
        subst hq20
        go_wp2_with (go_at_call 35; (with_reducible refine HC3.out.mono ?_); rintro e w5 ⟨rb2, nb2, ty2, nu2, rfl, ha⟩; have HA := Lib.hid ha; clear ha)
        go_ret2
        rw [HVV.out]
        have hK1 : Keeps (Own tb rb' nb') wr w5 := (Keeps.of_below HBB.out).trans HA.out.keeps (fun g h => .inl h)
        have hK2 : Keeps (fun g => Own tb rb nb g ∨ g = w.heap.size + 1) W2 w5 := H.out.keeps.trans hK1 fun g hg => by
          rcases H.out.grew.own g hg with h | h
          · exact .inl (.inl h)
          · exact .inr h
        exact ⟨rb2, nb2, ty2, nu2, rfl, HA.out.tab, hK2.drop HB2.out (Nat.le_succ _), (H.out.grew.trans HA.out.grew (by omega)).older (by omega)⟩
    · obtain rfl : j = ks.length := by omega
      have hd := H.out.done
      rw [List.take_length] at hd
      have hvv := HV.out
      rw [hd] at hvv
      dsimp only at hvv
      rw [if_pos rfl] at hvv
      have hw := kidsK_wf ks T HT.out.wf HOK.out.2
      rw [hd] at hw
      have hfit : KFit ⟨k, nm, ns, ids⟩ := ⟨HWK.out ids hidl, HS1.out, HS2.out, fun j hj => by have := (hw.2 rfl).2.1 j hj; have := hw.1.len; dsimp only at *; omega⟩
      have hCN := fun W (hT : TabV W tb rb' nb' mb sb m ty' nu' Tj) => number_any ⟨k, nm, ns, ids⟩ hfit W tb rb' nb' mb sb m ty' nu' Tj hT (fun j hj => (hw.2 rfl).2.1 j hj)
      rw [← hvv] at hCN
      have hkey := H.out.key
      rw [← hidl] at hkey
      have hcl : (Kz.cells ⟨k, nm, ns, ids⟩).length = 19 := rfl
      have RA := Lib.hid (rangeAt_blk (cs := Kz.cells ⟨k, nm, ns, ids⟩) hkey)
      have HCN := Lib.hid hCN
      have HT4 := Lib.hid H.out.tab
      clear hd hvv hw hfit hCN hkey
      go_upto_region 11 with fail
      refine wp_region_lit ?_
      refine wpList_runV (w' := wr) rfl (.pointer (some ⟨tb, 0, none⟩)) (by simp [execOp, go_sem]) ?_
      refine wpList_load_mid rfl 91 _ rfl (w.heap.size + 1) 0 rfl (Kz.cells ⟨k, nm, ns, ids⟩) _ RA.out Try.underlying91 rfl (by rw [hcl]; exact infoKey) ?_
      simp only [Act.put, List.setIfInBounds_toArray, List.set_cons_zero, List.set_cons_succ]
      refine wpList_enter (f := 55) (args := #[.pointer (some ⟨tb, 0, none⟩), .agg (Kz.cells ⟨k, nm, ns, ids⟩).toArray]) rfl (by simp [go_sem]) (HCN.out wr HT4.out) ?_
      rintro e w5 ⟨rb2, nb2, ty2, nu2, rfl, ha⟩
      refine ⟨_, rfl, ?_⟩
      have HA := Lib.hid ha
      clear ha
      simp only [Act.put, List.setIfInBounds_toArray, List.set_cons_zero, List.set_cons_succ]
      go_wp2
      go_ret2
      have hK2 : Keeps (fun g => Own tb rb nb g ∨ g = w.heap.size + 1) W2 w5 := H.out.keeps.trans HA.out.keeps fun g hg => by
        rcases H.out.grew.own g hg with h | h
        · exact .inl (.inl h)
        · exact .inr h
      exact ⟨rb2, nb2, ty2, nu2, rfl, HA.out.tab, hK2.drop HB2.out (Nat.le_succ _), (H.out.grew.trans HA.out.grew (by omega)).older (by omega)⟩
/-- Any tree that may be added. -/
theorem tree_any {has : List UInt8 → Bool} : ∀ (n : Nat) (t : Tz), sizeZ t ≤ n → okK has t = true → shortZ t = true → TreeK t
  | 0, t, h, _, _ => by have := sizeZ_pos t; omega
  | n + 1, .mk k nm ns ks, h, hok, hs => tree_step k nm ns ks hok hs fun i hi => by
    rw [sizeZ] at h
    have := sizeZ_mem ks i hi
    rw [okK, Bool.and_eq_true] at hok
    exact tree_any n ks[i] (by omega) (okKs_mem hok.2 _ (List.getElem_mem hi)) (shortZs_mem ks (shortZ_mk hs).2.2 i hi)
end Sp
end Go.Proofs.Ytdophmlnmbcjlaa
