/- Plain arithmetic for RunsLaws: sets are sets. No program is walked here. -/
import Derived.Test.YtaoojiacdkabbaaJoined
namespace Go.Proofs.Ytaoojiacdkabbaa.Ru
set_option linter.unusedVariables false

theorem has0 (a b : List Run) (n : Nat) : has (setL a b 0) n = (has a n || has b n) := (set_spec a b 0).2 n
theorem has1 (a b : List Run) (n : Nat) : has (setL a b 1) n = (has a n && has b n) := (set_spec a b 1).2 n
theorem has2 (a b : List Run) (n : Nat) : has (setL a b 2) n = (has a n && !has b n) := (set_spec a b 2).2 n
theorem join_turn (a b : List Run) : setL b a 0 = setL a b 0 := uniq (set_spec b a 0).1 (set_spec a b 0).1 fun n => by rw [has0, has0, Bool.or_comm]
theorem meet_turn (a b : List Run) : setL b a 1 = setL a b 1 := uniq (set_spec b a 1).1 (set_spec a b 1).1 fun n => by rw [has1, has1, Bool.and_comm]
theorem both_parts (a b : List Run) : nrm (setL (setL a b 2) (setL a b 1) 0) = nrm a := uniq (nrm_spec _).1 (nrm_spec _).1 fun n => by
  rw [(nrm_spec _).2, (nrm_spec _).2, has0, has1, has2]
  cases has a n <;> cases has b n <;> rfl
theorem empty_of {l : List Run} (h : InOrder l) (hn : ∀ n, has l n = false) : l = [] := uniq h order_nil fun n => by rw [hn n]; rfl
theorem apart_parts (a b : List Run) : (setL (setL a b 2) b 1).length = 0 := by
  rw [empty_of (set_spec _ _ 1).1 fun n => by rw [has1, has2]; cases has a n <;> cases has b n <;> rfl]
  rfl
theorem within_meet (a b : List Run) : (setL (setL a b 1) a 2).length = 0 := by
  rw [empty_of (set_spec _ _ 2).1 fun n => by rw [has2, has1]; cases has a n <;> cases has b n <;> rfl]
  rfl
theorem within_join (a b : List Run) : (setL a (setL a b 0) 2).length = 0 := by
  rw [empty_of (set_spec _ _ 2).1 fun n => by rw [has2, has0]; cases has a n <;> cases has b n <;> rfl]
  rfl
theorem set_good (a b : List Run) (how : Int) : decide (setL a b how = nrm (setL a b how)) = true := decide_eq_true ((good_comes _).1 (set_spec a b how).1)
theorem sizes (a b : List Run) : sizeR (nrm (setL a b 0)) + sizeR (nrm (setL a b 1)) = sizeR (nrm a) + sizeR (nrm b) := by
  have top : ∀ l : List Run, ∀ r ∈ nrm l, r.2 < 281474976710656 := fun l r hr => by
    have := (may_iff r).1 ((nrm_spec l).1.1 r hr)
    omega
  rw [← size_cnt (nrm_spec _).1 (top _), ← size_cnt (nrm_spec _).1 (top _), ← size_cnt (nrm_spec a).1 (top a), ← size_cnt (nrm_spec b).1 (top b)]
  have h := cnt_or_and (has a) (has b) 281474976710656
  rw [cnt_congr (f := has (nrm (setL a b 0))) (g := fun n => has a n || has b n) (fun n => by rw [(nrm_spec _).2, has0]),
    cnt_congr (f := has (nrm (setL a b 1))) (g := fun n => has a n && has b n) (fun n => by rw [(nrm_spec _).2, has1]),
    cnt_congr (f := has (nrm a)) (g := has a) (fun n => (nrm_spec _).2 n), cnt_congr (f := has (nrm b)) (g := has b) (fun n => (nrm_spec _).2 n)]
  exact h
end Go.Proofs.Ytaoojiacdkabbaa.Ru
