/- Raw and lists of Raw as arguments: what the reading says of the value. -/
import Derived.Test.YtdophmlnmbcjlaaT18
import Derived.WideShapes
import Derived.ChangeShapes
import Derived.Test.YtdophmlnmbcjlaaT17
import Derived.ProofKit
import Derived.OpenShut
import Derived.KernelRfl
namespace Go.Proofs.Ytdophmlnmbcjlaa
open Go.RowKit
namespace Sp
open Sc
set_option maxRecDepth 100000
theorem open_rawV {H : Type} {enc : TypeId × Value → H} {w : World} {base : Nat} {v : Value} {d : DataW H} {ps : List MemPlace} (hv : Value.okWide Try.prog w .any base 54 v) (h : DataW.Trod enc Try.prog w 0 (fun _ => true) true 54 v d ps) :
    ∃ r c, v = .agg #[.int .i64 c.k, .int .i64 c.n, .slice c.an c.ln c.cn, .slice c.ak c.lk c.ck] ∧ RwV w r c := by
  obtain ⟨cs, rfl, -⟩ := Go.WideShapes.okWide_struct Try.underlying54 hv
  obtain ⟨fuel, hf⟩ := h
  obtain ⟨r, c, hc, hr⟩ := open_raw fuel _ _ hf
  refine ⟨r, c, ?_, hr⟩
  have hc : cs.toList = R4.cells c := hc
  rw [← Array.toArray_toList (xs := cs), hc]
  rfl
end Sp
end Go.Proofs.Ytdophmlnmbcjlaa
namespace Go.Proofs.Ytdophmlnmbcjlaa
namespace Sp
theorem own : ownKnob Try.prog.godebug = none := by kernel_rfl
theorem laidOut : laidOutB Try.prog = true := by kernel_rfl
end Sp
end Go.Proofs.Ytdophmlnmbcjlaa
