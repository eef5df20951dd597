/- The program's functions of layer ctx answer what the walks ask of them. -/
import Derived.Test.YtegclhgfibfanaaGreatKO
import Derived.Test.YtegclhgfibfanaaGreatMPCSize
import Derived.Test.YtegclhgfibfanaaGreatMPCJoin
import Derived.Test.YtegclhgfibfanaaGreatMPCPlain
import Derived.Test.YtegclhgfibfanaaGreatMPCBy
import Derived.Test.YtegclhgfibfanaaGreatMPCHas
import Derived.Test.YtegclhgfibfanaaGreatMPCGood
namespace Go.Proofs.YtegclhgfibfanaaGreat.Cx
open Go.ChangeShapes Go.WideShapes Go.ChangeAt Go.RowKit
set_option linter.unusedVariables false

theorem pctx : PCtx where
  norm w A a n c h hw := (pnorm_any w A a n c h (hw.more (by decide))).mono fun _ _ hp => ctx_has hp
  good w A a n c h _ := pgood_any w A a n c h
  of w A l n c h hn := (pof_any w A l n c h (by omega)).mono fun _ _ hp => ctx_has hp
  runs w A a n c d h hw _ := (pruns_any w A a n c d h (hw.more (by decide))).mono fun _ _ hp => runs_has' (runs_order a d) hp
  has w A a n c d h _ hd := phas_any w A a n c d h hd
  add w A A2 a l n n2 c c2 h h2 hw hn := (padd_any w A A2 a l n n2 c c2 h h2 (hw.more (by decide)) (by omega)).mono fun _ _ hp => ctx_has hp
  only w A a n c d h hw hd := (ponly_any w A a n c d h (hw.more (by decide)) hd).mono fun _ _ hp => ctx_has hp
  size w A a n c h hw := psize_any w A a n c h (hw.more (by decide))
  base w A a n c h hw := (pbase_any w A a n c h (hw.more (by decide))).mono fun _ _ hp => dots_has (fit_base h.fit) hp
  plain w A l n c h hn := (pplain_any w A l n c h (by omega)).mono fun _ _ hp => ctx_has hp
  join w A1 A2 a b n1 n2 c1 c2 h1 h2 ha hb := (pjoin_any w A1 A2 a b n1 n2 c1 c2 h1 h2 (ha.more (by decide)) (hb.more (by decide))).mono fun _ _ hp => ctx_has hp
  meet w A1 A2 a b n1 n2 c1 c2 h1 h2 ha hb := (pmeet_any w A1 A2 a b n1 n2 c1 c2 h1 h2 (ha.more (by decide)) (hb.more (by decide))).mono fun _ _ hp => ctx_has hp
  minus w A1 A2 a b n1 n2 c1 c2 h1 h2 ha hb := (pminus_any w A1 A2 a b n1 n2 c1 c2 h1 h2 (ha.more (by decide)) (hb.more (by decide))).mono fun _ _ hp => ctx_has hp
  within w A1 A2 a b n1 n2 c1 c2 h1 h2 ha hb := pwithin_any w A1 A2 a b n1 n2 c1 c2 h1 h2 (ha.more (by decide)) (hb.more (by decide))
  same w A1 A2 a b n1 n2 c1 c2 h1 h2 ha hb := psame_any w A1 A2 a b n1 n2 c1 c2 h1 h2 (ha.more (by decide)) (hb.more (by decide))
end Go.Proofs.YtegclhgfibfanaaGreat.Cx
