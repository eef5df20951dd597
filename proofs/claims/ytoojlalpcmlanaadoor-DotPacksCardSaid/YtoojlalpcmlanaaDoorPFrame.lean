/- What the frames of layer dot's laws share: what the rows' lists give the walks; a world that holds what they list. No condition. -/
import Derived.Test.YtoojlalpcmlanaaDoorCards
import Derived.Test.YtoojlalpcmlanaaDoorTie
import Derived.Test.YtoojlalpcmlanaaDoorDFrame
import Derived.Test.YtoojlalpcmlanaaDoorPRead
import Derived.ShutString
import Derived.ChangeOld
import Derived.Deep.DeepHandedRow
import Derived.Lib.LaidTab
import Derived.Stop.LaidErr
import Derived.Deep.Matrix
import Derived.SizedLaws
namespace Go.Proofs.YtoojlalpcmlanaaDoor.Dt
open Go.ChangeShapes Go.WideShapes Go.ChangeAt Go.RowKit Go.Deep
set_option linter.unusedVariables false

theorem gPowType : (Tryd.prog.globals[0]?).map (·.type) = some 91 := by kernel_rfl
theorem gSyn : Tryd.prog.globalNamed "strconv.ErrSyntax" = some 2 := by kernel_rfl
theorem gRng : Tryd.prog.globalNamed "strconv.ErrRange" = some 3 := by kernel_rfl
theorem gSynType : (Tryd.prog.globals[2]?).map (·.type) = some 55 := by kernel_rfl
theorem gRngType : (Tryd.prog.globals[3]?).map (·.type) = some 55 := by kernel_rfl
theorem cells91 : Tryd.prog.cellsOf 91 = 20 := by kernel_rfl
theorem cells113 : Tryd.prog.cellsOf 113 = 1 := by kernel_rfl
theorem cells9 : Tryd.prog.cellsOf 9 = 1 := by kernel_rfl
theorem star : "*" ++ "errors.errorString" = "*errors.errorString" := by decide
theorem row111 (u : TypeId) (h : Tryd.prog.typeName? 3 u = some "*errors.errorString") : u = 111 :=
  typeName_ptr_named (nm := "errors.errorString") (by rw [star]; kernel_rfl) (by kernel_rfl) (by decide) u (by rw [star]; exact h)

theorem pow_tab : Lib.pow10Tab = [1, 10, 100, 1000, 10000, 100000, 1000000, 10000000, 100000000, 1000000000, 10000000000, 100000000000, 1000000000000, 10000000000000, 100000000000000, 1000000000000000, 10000000000000000, 100000000000000000, 1000000000000000000, 10000000000000000000] := by decide +kernel
/-- what a row's list gives. -/
theorem pow_of {W : World} {r : List (String × DataW Unit)} (h : laidMet Tryd.prog (("internal/strconv.uint64pow10", Rows.laid_internal_strconv_uint64pow10) :: r) W) : Pow W := by
  unfold Pow
  rw [pow_tab]
  exact Lib.tabIs_of_head (rest := r) gPow gPowType Tryd.underlying91 Tryd.underlying23 cells64 cells91 h
theorem pow3 {W : World} (h : laidMetH Tryd.prog Rows.dotTellsRow.laid W) : Pow W := by
  have h' : laidMet Tryd.prog Rows.dotTellsRow.laid W := h
  exact pow_of h'.tail.tail
theorem vars5 {W : World} (h : laidMetH Tryd.prog Rows.dotParsesRow.laid W) : Vars W := by
  have h' : laidMet Tryd.prog Rows.dotParsesRow.laid W := h
  have h3 := h'.tail.tail.tail
  obtain ⟨a0, s0, hv0, _⟩ := laid_sentinel h3 gRng gRngType Tryd.underlying55 row111 Tryd.underlying111 Tryd.underlying113 rfl rfl Tryd.underlying9 cells113 cells9
  obtain ⟨a1, s1, hv1, _⟩ := laid_sentinel h3.tail gSyn gSynType Tryd.underlying55 row111 Tryd.underlying111 Tryd.underlying113 rfl rfl Tryd.underlying9 cells113 cells9
  refine ⟨pow_of h'.tail.tail, ⟨111, .pointer (some a1), ?_⟩, ⟨111, .pointer (some a0), ?_⟩⟩
  · simpa using World.var?_cell gSyn hv1 0
  · simpa using World.var?_cell gRng hv0 0

/-- the form's own reach, at a text that came first. -/
theorem reach_text {H : Type} {ts : List TypeId} {bytes : List UInt8} {ds : List (DataW H)} (hsz : (DataW.weightsEach Tryd.prog (9 :: ts) (.lit (.string bytes) :: ds)).all (· ≤ reachBytes) = true) : bytes.length ≤ 281474976710656 := by
  have := sized_string hsz (j := 0) (t := 9) rfl rfl
  simp only [reachBytes] at this
  omega

/-- A WORLD FOR THE WITNESS: the settled one, the variables holding what their initialisers lay. -/
noncomputable def low : Nat := (World.holding Tryd.prog default ⟨#[], #[], []⟩).heap.size
abbrev rangeS : ByteArray := ⟨#[118, 97, 108, 117, 101, 32, 111, 117, 116, 32, 111, 102, 32, 114, 97, 110, 103, 101]⟩
abbrev syntaxS : ByteArray := ⟨#[105, 110, 118, 97, 108, 105, 100, 32, 115, 121, 110, 116, 97, 120]⟩
def fill (cs : Array Value) : Obj → Obj
  | .cells _ t frozen => .cells cs t frozen
  | o => o
def ints (k : IntKind) (l : List Int) : Array Value := (l.map (Value.int k)).toArray
noncomputable def laidWorld (os : Os) : World :=
  let w0 := World.holding Tryd.prog os ⟨#[.cells #[.string rangeS] 113, .cells #[.string syntaxS] 113], #[], []⟩
  { w0 with heap := ((((w0.heap.modify 4 (fill (ints .u8 [0, 1, 28, 2, 29, 14, 24, 3, 30, 22, 20, 15, 25, 17, 4, 8, 31, 27, 13, 23, 21, 19, 16, 7, 26, 12, 18, 6, 11, 5, 10, 9]))).modify 5 (fill (ints .u8 [0, 1, 56, 2, 57, 49, 28, 3, 61, 58, 42, 50, 38, 29, 17, 4, 62, 47, 59, 36, 45, 43, 51, 22, 53, 39, 33, 30, 24, 18, 12, 5, 63, 55, 48, 27, 60, 41, 37, 16, 46, 35, 44, 21, 52, 32, 23, 11, 54, 26, 40, 15, 34, 20, 31, 10, 25, 14, 19, 9, 13, 8, 7, 6]))).modify 0 (fill (ints .u64 [1, 10, 100, 1000, 10000, 100000, 1000000, 10000000, 100000000, 1000000000, 10000000000, 100000000000, 1000000000000, 10000000000000, 100000000000000, 1000000000000000, 10000000000000000, 100000000000000000, 1000000000000000000, 10000000000000000000]))).modify 3 (fill #[.iface 111 (.pointer (some ⟨low, 0, none⟩))])).modify 2 (fill #[.iface 111 (.pointer (some ⟨low + 1, 0, none⟩))]) }
end Go.Proofs.YtoojlalpcmlanaaDoor.Dt
