/- The frame of the rows that reach Print: what is laid, and what it gives. -/
import Derived.Test.YtibenegbjpoclabDoorArA
import Derived.Test.YtibenegbjpoclabDoorArB
import Derived.Test.YtibenegbjpoclabDoorTie
import Derived.Test.YtibenegbjpoclabDoorCards
import Derived.ProofKit
import Derived.LaidMore
import Derived.Lib.SmallJoins
import Derived.OpenShut
import Derived.Stop.Joined
import Derived.Stop.LaidErr
import Derived.ShutString
import Derived.ChangeOld
import Derived.SevenTiedAt
import Derived.SizedLaws
import Derived.Lib.LaidTab
import Derived.Lay
namespace Go.Proofs.YtibenegbjpoclabDoor
open Go.ChangeShapes Go.WideShapes Go.ChangeAt Go.RowKit Go.Joins

theorem own : ownKnob Tryd.prog.godebug = none := by kernel_rfl
theorem laidOut : laidOutB Tryd.prog = true := by kernel_rfl

/-- The list of what is laid, as the rows have it. -/
def laidL : List (String × DataW Unit) := [("math/bits.deBruijn32tab", Rows.laid_math_bits_deBruijn32tab), ("math/bits.deBruijn64tab", Rows.laid_math_bits_deBruijn64tab), ("internal/strconv.uint64pow10", Rows.laid_internal_strconv_uint64pow10), ("platelayer/expr.kinds", Rows.laid_platelayer_expr_kinds)]

theorem gPow : Tryd.prog.globalNamed "internal/strconv.uint64pow10" = some 1 := by kernel_rfl
theorem gBru : Tryd.prog.globalNamed "math/bits.deBruijn32tab" = some 2 := by kernel_rfl
theorem powData : (Rows.laid_internal_strconv_uint64pow10 : DataW Unit) = Lib.tabData .u64 Lib.pow10Tab := by kernel_rfl
theorem cellsU64 : Tryd.prog.cellsOf 80 = 1 := by kernel_rfl
theorem cellsU20 : Tryd.prog.cellsOf 111 = 20 := by kernel_rfl

theorem glob_of {W : World} (h : laidMetH Tryd.prog laidL W) : KLaid W ∧ Lib.TabIs Tryd.prog W "internal/strconv.uint64pow10" .u64 Lib.pow10Tab ∧ 1 < W.heap.size := by
  rw [MakeChecks.laidMetH_plain _ _ _ (by kernel_rfl)] at h
  have h2 : laidMet Tryd.prog (("internal/strconv.uint64pow10", Rows.laid_internal_strconv_uint64pow10) :: _) W := h.tail.tail
  have h3 : laidMet Tryd.prog (("platelayer/expr.kinds", Rows.laid_platelayer_expr_kinds) :: _) W := h2.tail
  have hsz : 2 < W.heap.size := by
    obtain ⟨ps, ⟨g, t, cs, f, p, q, hg, _, hv, _⟩, _⟩ := h
    obtain rfl := Option.some.inj (gBru.symm.trans hg)
    obtain ⟨bt, bfr, hblk⟩ := bvar_block hg hv
    exact (Array.getElem?_eq_some_iff.1 hblk).1
  refine ⟨klaid_of h3, ?_, by omega⟩
  rw [powData] at h2
  exact Lib.tabIs_of_head gPow (by kernel_rfl) Tryd.underlying111 Tryd.underlying80 cellsU64 cellsU20 h2

theorem wit (os : Os) (args : Array Value) : laidMetH Tryd.prog laidL ((World.laidAll Tryd.prog os laidL).forCall (fun _ _ => 0) ⟨#[], args, []⟩).memory := by
  rw [MakeChecks.laidMetH_plain _ _ _ (by kernel_rfl)]
  exact laidMet_laidAll _ (by kernel_rfl) (by kernel_rfl)

theorem weights_of {H : Type} {ts : List TypeId} {ds : List (DataW H)} {j : Nat} {t : TypeId} {d : DataW H} (hsz : (DataW.weightsEach Tryd.prog ts ds).all (· ≤ reachBytes) = true) (ht : ts[j]? = some t) (hd : ds[j]? = some d) :
    ∀ n, n ∈ d.weights Tryd.prog t → n ≤ reachBytes := fun n hn => by
  have := List.all_eq_true.1 hsz _ (DataW.weights_mem_each ht hd n hn)
  simpa using this

end Go.Proofs.YtibenegbjpoclabDoor
