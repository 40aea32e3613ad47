/- Four statements of chapter 8 (KindsTable, KindsNamed, KindsCounts, KindsNumbers): for every input each law returns true, and each argument reads as before. No condition. -/
import Derived.Test.YtdophmlnmbcjlaaS50
import Derived.Test.YtdophmlnmbcjlaaS51
import Derived.Test.YtdophmlnmbcjlaaS52
import Derived.Test.YtdophmlnmbcjlaaS54
namespace Go.Proofs.Ytdophmlnmbcjlaa.kindsAll
theorem said : Rows.KindsTableSaid ∧ Rows.KindsNamedSaid ∧ Rows.KindsCountsSaid ∧ Rows.KindsNumbersSaid := ⟨kindsTable.said, kindsNamed.said, kindsCounts.said, kindsNumbers.said⟩
end Go.Proofs.Ytdophmlnmbcjlaa.kindsAll
