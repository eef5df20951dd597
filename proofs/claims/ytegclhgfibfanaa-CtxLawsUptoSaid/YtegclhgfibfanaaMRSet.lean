/- The contract of the document's 'set': what two lists of runs come to. Condition: at most 32768 runs on either side. -/
import Derived.Test.YtegclhgfibfanaaKR
import Derived.Deep.RegionHeld3
import Derived.WalkSmall
import Derived.Deep.RegionLaw
namespace Go.Proofs.Ytegclhgfibfanaa.Ru
open Go.ChangeShapes Go.WideShapes Go.ChangeAt Go.RowKit
set_option linter.unusedVariables false

theorem addR_length (o : List Run) (p q : Nat) : (addR o p q).length ≤ o.length + 1 := by
  unfold addR
  split
  · rename_i r h
    split
    · have hne : o ≠ [] := fun e => by rw [e] at h; simp at h
      rw [List.length_append, List.length_dropLast, List.length_singleton]
      have : 0 < o.length := List.length_pos_iff.2 hne
      omega
    · rw [List.length_append]; simp
  · simp
theorem stF_length (a b : List Run) (how : Int) (P : List Nat) (k : Nat) : (stF a b how P k).length ≤ k := by
  induction k with
  | zero => simp [stF]
  | succ k ih =>
    rw [stF_succ]
    unfold stS
    split
    · have := addR_length (stF a b how P k) (P.getD k 0) (P.getD (k + 1) 0)
      omega
    · omega
theorem getD_some {P : List Nat} {i p : Nat} (h : P[i]? = some p) : P.getD i 0 = p := by
  rw [List.getD_eq_getElem?_getD, h]; rfl

theorem putL_bound {l : List Nat} {n : Nat} (C : Nat → Prop) (hl : ∀ x ∈ l, C x) (hn : C n) : ∀ x ∈ putL l n, C x := by
  have key : ∀ (l : List Nat), (∀ x ∈ l, C x) → ∀ s : List Nat × Bool, (∀ x ∈ s.1, C x) → ∀ x ∈ (l.foldl (putS n) s).1, C x := by
    intro l
    induction l with
    | nil => intro _ s hs; exact hs
    | cons y l ih =>
      intro h s hs
      rw [List.foldl_cons]
      refine ih (fun x hx => h x (by simp [hx])) _ ?_
      have hy : C y := h y (by simp)
      unfold putS
      intro x hx
      split at hx <;> split at hx <;> simp at hx
      all_goals (first
        | (rcases hx with hx | rfl | rfl <;> first | exact hs x hx | exact hn | exact hy)
        | (rcases hx with hx | rfl <;> first | exact hs x hx | exact hn | exact hy)
        | exact hs x hx)
  have h1 := key l hl ([], false) (fun x hx => by cases hx)
  unfold putL
  split
  · exact h1
  · intro x hx
    rcases List.mem_append.1 hx with hx | hx
    · exact h1 x hx
    · obtain rfl := List.mem_singleton.1 hx
      exact hn
/-- points lie from 1 to 2^48. -/
theorem ptL_bound (l : List Run) : ∀ x ∈ ptL l, 1 ≤ x ∧ x ≤ 281474976710656 := by
  suffices h : ∀ o : List Nat, (∀ x ∈ o, 1 ≤ x ∧ x ≤ 281474976710656) → ∀ x ∈ l.foldl ptS o, 1 ≤ x ∧ x ≤ 281474976710656 from h [] (fun x hx => by cases hx)
  induction l with
  | nil => intro o ho; exact ho
  | cons r l ih =>
    intro o ho
    rw [List.foldl_cons]
    refine ih _ ?_
    unfold ptS
    split
    · rename_i hm
      have := of_decide_eq_true hm
      exact putL_bound _ (putL_bound _ ho (by omega)) (by omega)
    · exact ho

def RunPost (w : World) (m : List Run) (e : Ending) (w' : World) : Prop :=
  ∃ A n c, e = .returned (.slice A n c) ∧ m.length = n ∧ w'.ownsRow w.heap.size 59 2 (.slice A n c) n (rv m) ∧ Below w.heap.size w w'
theorem bel_drew {w W : World} (h : Below w.heap.size w W) : Below w.heap.size w W.drew := h.drew

def Low (o : List Run) : Prop := ∀ r ∈ o, r.1 ≤ 281474976710656 ∧ r.2 ≤ 281474976710656
theorem addR_nil (p q : Nat) : addR [] p q = [(p, q - 1)] := rfl
theorem addR_last (o : List Run) (lo hi p q : Nat) : addR (o ++ [(lo, hi)]) p q = if hi + 1 = p then o ++ [(lo, q - 1)] else o ++ [(lo, hi)] ++ [(p, q - 1)] := by
  unfold addR
  rw [List.getLast?_append]
  simp only [List.getLast?_singleton, Option.some_or, List.dropLast_concat]
theorem last_of {o : List Run} {z : Nat} (h : o.length = z + 1) : ∃ o' lo hi, o = o' ++ [(lo, hi)] ∧ o'.length = z := by
  have hne : o ≠ [] := fun e => by rw [e] at h; simp at h
  refine ⟨o.dropLast, (o.getLast hne).1, (o.getLast hne).2, (List.dropLast_concat_getLast hne).symm, by rw [List.length_dropLast]; omega⟩
theorem low_last {o : List Run} {lo hi : Nat} (h : Low (o ++ [(lo, hi)])) : lo ≤ 281474976710656 ∧ hi ≤ 281474976710656 := h (lo, hi) (by simp)
theorem low_snoc {o : List Run} {lo hi : Nat} (h : Low o) (h1 : lo ≤ 281474976710656) (h2 : hi ≤ 281474976710656) : Low (o ++ [(lo, hi)]) := fun r hr => by
  rcases List.mem_append.1 hr with hr | hr
  · exact h r hr
  · obtain rfl := List.mem_singleton.1 hr
    exact ⟨h1, h2⟩
theorem low_init {o : List Run} {r : Run} (h : Low (o ++ [r])) : Low o := fun x hx => h x (List.mem_append_left _ hx)
theorem rv_snoc (o : List Run) (lo hi : Nat) : rv (o ++ [(lo, hi)]) = rv o ++ [.int .u64 (lo : Int), .int .u64 (hi : Int)] := rv_append o [(lo, hi)]
theorem rv_set_last (o : List Run) (lo hi v z : Nat) (h : o.length = z) : (rv (o ++ [(lo, hi)])).set (z * 2 + 1) (.int .u64 (v : Int)) = rv (o ++ [(lo, v)]) := by
  have hl : (rv o).length = z * 2 := by rw [rv_length, h]
  rw [rv_snoc, rv_snoc, List.set_append, if_neg (by omega), hl]
  have e : z * 2 + 1 - z * 2 = 1 := by omega
  rw [e]
  rfl
theorem rv_last (o : List Run) (lo hi z : Nat) (h : o.length = z) : (rv (o ++ [(lo, hi)]))[z * 2]? = some (.int .u64 (lo : Int)) ∧ (rv (o ++ [(lo, hi)]))[z * 2 + 1]? = some (.int .u64 (hi : Int)) := by
  refine rv_get (l := o ++ [(lo, hi)]) (r := (lo, hi)) ?_
  rw [List.getElem?_append_right (by omega), h]
  simp
def StRel (w : World) (a b : List Run) (how : Int) (P : List Nat) (len : Nat) (o i : Value) (wr : World) : Prop :=
  ∃ (k m : Nat) (A : Option Addr) (c : Nat), k ≤ len - 1 ∧ i = .int .i64 (k : Int) ∧ o = .slice A m c ∧ (stF a b how P k).length = m ∧ Low (stF a b how P k) ∧ wr.ownsRow w.heap.size 59 2 (.slice A m c) m (rv (stF a b how P k)) ∧ Below w.heap.size w wr
theorem st_rel {w wr : World} {a b : List Run} {how : Int} {P : List Nat} {len k m : Nat} {A : Option Addr} {c : Nat} {o : List Run} (hk : k < len - 1) (hs : stF a b how P (k + 1) = o) (hm : o.length = m) (hf : Low o) (ho : wr.ownsRow w.heap.size 59 2 (.slice A m c) m (rv o)) (hb : Below w.heap.size w wr) :
    StRel w a b how P len (.slice A m c) (.int .i64 ((k : Int) + 1)) wr :=
  ⟨k + 1, m, A, c, hk, by go_num, rfl, by rw [hs]; exact hm, by rw [hs]; exact hf, by rw [hs]; exact ho, hb⟩
theorem st_drewN {w V : World} {a b : List Run} {how : Int} {P : List Nat} {len : Nat} {o i : Value} (h : StRel w a b how P len o i V) (n : Nat) : StRel w a b how P len o i (V.drewN n) := by
  obtain ⟨k, m, A, c, h1, h2, h3, h4, h5, h6, h7⟩ := h
  exact ⟨k, m, A, c, h1, h2, h3, h4, h5, h6, Go.below_drewN h7 n⟩
theorem news_run (W : World) (p q : Nat) (z : Int) (h : z = (q : Int)) : ∀ (j : Nat) (u : Value), (rv [(p, q)])[j]? = some u → (W.alloc (.cells #[.int .u64 (p : Int), .int .u64 z] 59)).cell? ((⟨W.heap.size, 0, none⟩ : Addr).add j) = some u := by
  subst h
  intro j u hu
  rw [zero_add, World.cell?_alloc_new]
  simpa [rv] using hu
theorem run_grown {w wr w2 : World} {v : Value} {m : Nat} {xs : List Value} {o : Obj} (ho : wr.ownsRow w.heap.size 59 2 v m xs) (hb : Below w.heap.size w wr) (hg : (wr.alloc o).grownBy w2 v.ownBlock) : Below w.heap.size w w2 :=
  (hb.alloc hb.size _).grown hg (Nat.le_trans hb.size (by simp)) (fun k hk => (ho.lt k hk).1)
theorem own_drewN {V : World} {B n size : Nat} {e : TypeId} {v : Value} {xs : List Value} (h : V.ownsRow B e size v n xs) (k : Nat) : (V.drewN k).ownsRow B e size v n xs := h
theorem own_drewS {V : World} {B n size : Nat} {e : TypeId} {v : Value} {xs : List Value} (h : V.ownsRow B e size v n xs) (k : Nat) : ((V.drewN k).drew).ownsRow B e size v n xs := h
theorem low_drewS {w V : World} (h : Below w.heap.size w V) (k : Nat) : Below w.heap.size w ((V.drewN k).drew) := (Go.below_drewN h k).drew
theorem lies_num {w : World} {B n c : Nat} {A : Option Addr} {m : List Nat} (h : w.ownsRow B 25 1 (.slice A n c) n (nv m)) (hf : FitN m) : Nums w w.heap.size A m := ⟨hf, lies_any (by decide) h⟩

end Go.Proofs.Ytegclhgfibfanaa.Ru
