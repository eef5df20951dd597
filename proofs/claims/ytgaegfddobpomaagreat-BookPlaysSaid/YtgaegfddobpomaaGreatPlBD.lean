/- Words and contracts that the proofs of this seat stand on, part 30 of 30. -/
import Derived.Test.YtgaegfddobpomaaGreatPlR
import Derived.Test.YtgaegfddobpomaaGreatPlBA
import Derived.Test.YtgaegfddobpomaaGreatPlG
import Derived.Test.YtgaegfddobpomaaGreatPlBC
import Derived.Test.YtgaegfddobpomaaGreatPlO
import Derived.Test.YtgaegfddobpomaaGreatPlQ
import Derived.Test.YtgaegfddobpomaaGreatPlZ
import Derived.Test.YtgaegfddobpomaaGreatPlX
import Derived.Test.YtgaegfddobpomaaGreatPlY

namespace Go.Proofs.YtgaegfddobpomaaGreat.Bk
open Go.ChangeShapes Go.WideShapes Go.ChangeAt Go.RowKit Go.Proofs.YtgaegfddobpomaaGreat.Kl
set_option linter.unusedVariables false
set_option maxRecDepth 4000
def riseE (l : List Ev.Evt) : Bool := l.all Ev.goodE && Dt.riseB (l.map (·.dot))
noncomputable def standE (l : List Ev.Evt) : Bool := decide ((l.filter (kindB 1)).length = (liveE l).length)
end Go.Proofs.YtgaegfddobpomaaGreat.Bk

namespace Go.Proofs.YtgaegfddobpomaaGreat.Bk
open Go.ChangeShapes Go.WideShapes Go.ChangeAt Go.RowKit Go.Proofs.YtgaegfddobpomaaGreat.Kl Go.Maps
set_option linter.unusedVariables false
set_option maxRecDepth 4000
end Go.Proofs.YtgaegfddobpomaaGreat.Bk

namespace Go.Proofs.YtgaegfddobpomaaGreat.Bk
open Go.ChangeShapes Go.WideShapes Go.ChangeAt Go.RowKit Go.Proofs.YtgaegfddobpomaaGreat.Kl
set_option linter.unusedVariables false
set_option maxRecDepth 4000
theorem few_wide {c : List Cx.Part} (hf : Cx.FitC c) (h : Cx.fewC c = true) : Cx.Wide 134217728 c := by
 have h1 := Cx.wt_few hf h
 exact ⟨Nat.le_trans h1.parts (by decide), Nat.le_trans h1.runs (by decide)⟩
theorem fresh_of {w w' : World} {p : Nat} {A : Option Addr} {n k : Nat} {m1 m2 : Option Nat} {L1 L2 : List Ev.EV} {S : Bt} (h : BkIs w' p A n k m1 m2 L1 L2 S) (ho : ∀ b, Own p m1 m2 b → w.heap.size ≤ b) (hb : Below w.heap.size w w') : Fresh Lb w S p w' := ⟨Own p m1 m2, lb_of h, ho, hb⟩
theorem pbk : PBk Lb where
 ord := fun w p T S ⟨A, n, k, m1, m2, L1, L2, h, _⟩ => ⟨h.leg.ctx, h.leg.rise⟩
 dom := fun w p T S ⟨A, n, k, m1, m2, L1, L2, h, hT⟩ => ⟨(hT p).2 (.inl rfl), fun b hb => h.mem.lt ((hT b).1 hb)⟩
 off := fun w W p T S G ⟨A, n, k, m1, m2, L1, L2, h, hT⟩ ho hG hn => ⟨A, n, k, m1, m2, L1, L2, h.off ho hG (fun b hb => hn b ((hT b).2 hb)), hT⟩
 new := fun w => (pnew_any w).mono fun e w' ⟨p, h1, h2, h3, h4⟩ => ⟨p, h1, fresh_of h2 (fun b hb => by
   rcases hb with rfl | hb | hb
   · exact h3
   · cases hb
   · cases hb) h4⟩
 put := fun w p T S q x ⟨A, n, k, m1, m2, L1, L2, h, hT⟩ hs hq => (pput_is w p A n k m1 m2 L1 L2 S q x h hs hq).mono fun e w' ⟨h1, h2⟩ => ⟨h1, went_of h hT h2⟩
 make := fun w p T S q x ⟨A, n, k, m1, m2, L1, L2, h, hT⟩ hs hq => pmake_is w p A n k m1 m2 L1 L2 S q x h hs hq
 see := fun w p T S A2 c n2 k2 ⟨A, n, k, m1, m2, L1, L2, h, hT⟩ hs hc hf => (psee_is w p A n k m1 m2 L1 L2 S A2 c n2 k2 h hs hc (few_wide hc.fit hf)).mono fun e w' ⟨h1, h2⟩ => ⟨h1, went_of h hT h2⟩
 prune := fun w p T S A2 c n2 k2 ⟨A, n, k, m1, m2, L1, L2, h, hT⟩ hs hc hf => (pprune_is w p A n k m1 m2 L1 L2 S A2 c n2 k2 h hs hc hf).mono fun e w' ⟨h1, h2⟩ => ⟨h1, went_of h hT h2⟩
 ctx := fun w p T S ⟨A, n, k, m1, m2, L1, L2, h, hT⟩ hs => pctx_is w p A n k m1 m2 L1 L2 S h hs
 all := fun w p T S ⟨A, n, k, m1, m2, L1, L2, h, hT⟩ hs => (pall_is w p A n k m1 m2 L1 L2 S h hs).mono fun _ _ hp => owns_far hp
 live := fun w p T S ⟨A, n, k, m1, m2, L1, L2, h, hT⟩ hs => (plive_is w p A n k m1 m2 L1 L2 S h hs).mono fun _ _ hp => owns_evt hp
 tombs := fun w p T S ⟨A, n, k, m1, m2, L1, L2, h, hT⟩ hs => (ptombs_is w p A n k m1 m2 L1 L2 S h hs).mono fun _ _ hp => owns_evt hp
 of := fun w p T S cid ⟨A, n, k, m1, m2, L1, L2, h, hT⟩ hs _ => (pof_is w p A n k m1 m2 L1 L2 S cid h hs).mono fun _ _ hp => owns_evt hp
 copy := fun w p T S ⟨A, n, k, m1, m2, L1, L2, h, hT⟩ _ => (pcopy_is w p A n k m1 m2 L1 L2 S h).mono fun e w' ⟨p', m3, m4, h1, h2, h3, h4⟩ => ⟨p', h1, fresh_of h2 h3 h4⟩
 same := fun w p T S p2 T2 S2 ⟨A, n, k, m1, m2, L1, L2, h, hT⟩ ⟨A3, n3, k3, m3, m4, L3, L4, h2, hT2⟩ hs hs2 => psame_is w p A n k m1 m2 L1 L2 S p2 A3 n3 k3 m3 m4 L3 L4 S2 h h2 hs hs2
end Go.Proofs.YtgaegfddobpomaaGreat.Bk
