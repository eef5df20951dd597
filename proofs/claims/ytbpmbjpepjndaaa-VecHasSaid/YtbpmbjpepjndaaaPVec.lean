/- The program's nine functions of layer vec answer what the walks ask of them. -/
import Derived.Test.YtbpmbjpepjndaaaPNorm
import Derived.Test.YtbpmbjpepjndaaaPGood
import Derived.Test.YtbpmbjpepjndaaaPMeet
import Derived.Test.YtbpmbjpepjndaaaPOrder
import Derived.Test.YtbpmbjpepjndaaaPLack
import Derived.Test.YtbpmbjpepjndaaaPDSort
namespace Go.Proofs.Ytbpmbjpepjndaaa.Dt

theorem sorts : Sorts := psort_any
theorem pvec : PVec := ⟨pnorm_any sorts, pgoodv_any, pof_any, phas_any, pput_any sorts, pjoin_any sorts, pmeet_any sorts, porder_any, plack_any⟩
end Go.Proofs.Ytbpmbjpepjndaaa.Dt
