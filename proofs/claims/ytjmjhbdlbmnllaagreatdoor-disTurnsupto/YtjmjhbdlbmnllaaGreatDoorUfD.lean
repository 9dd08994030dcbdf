/- What the listed variables' reading gives: the table of package asm; all that the walks ask; the frame of pllaw5's rows. -/
import Derived.Test.YtjmjhbdlbmnllaaGreatDoorPut52
import Derived.Test.YtjmjhbdlbmnllaaGreatDoorIsaLaid
import Derived.Test.YtjmjhbdlbmnllaaGreatDoorArB
import Derived.Test.YtjmjhbdlbmnllaaGreatDoorTie
import Derived.Test.YtjmjhbdlbmnllaaGreatDoorCards
import Derived.ProofKit
import Derived.LaidMore
import Derived.Deep.Strs
import Derived.Lib.SmallJoins
import Derived.OpenShut
import Derived.Stop.Joined
import Derived.Stop.LaidErr
import Derived.ShutString
import Derived.ChangeOld
import Derived.SevenTiedAt
import Derived.SizedLaws
import Derived.HandedShaped
import Derived.Lib.LaidTab
import Derived.Shelf.Vars
import Derived.Lay
namespace Go.Proofs.YtjmjhbdlbmnllaaGreatDoor
open Go.ChangeShapes Go.WideShapes Go.ChangeAt Go.RowKit Go.Joins

theorem own : ownKnob Tryz.prog.godebug = none := by kernel_rfl
theorem laidOut : laidOutB Tryz.prog = true := by kernel_rfl

theorem gFrm : Tryz.prog.globalNamed "platelayer/asm.forms" = some 4 := by kernel_rfl
theorem tFrm : (Tryz.prog.globals[(4 : Nat)]?).map (·.type) = some 257 := by kernel_rfl
def frmD (k : Nat) : DataW Unit := .agg [.lit (.string (formKd k).data.toList), .lit (.int .i64 k)]
theorem frmD_eq : (Rows.laid_platelayer_asm_forms : DataW Unit) = .agg ((List.range 12).map frmD) := by kernel_rfl
theorem fcells_row : Tryz.prog.cellsOf 256 = 2 := by kernel_rfl
theorem fcells_tab : Tryz.prog.cellsOf 257 = 24 := by kernel_rfl
theorem fcells3 : Tryz.prog.cellsOf 3 = 1 := by kernel_rfl
theorem fcells9 : Tryz.prog.cellsOf 9 = 1 := by kernel_rfl

theorem row_frm {W : World} {enc : TypeId × Value → Unit} {base : Nat} {spare : Nat → Bool} {held : Bool} {fuel : Nat} {cs : List Value} {ps : List MemPlace}
    (h : DataW.trod enc Tryz.prog W base spare held fuel 257 cs = some (Rows.laid_platelayer_asm_forms, ps)) :
    cs.length = 24 ∧ ∀ i : Nat, i < 12 → cs[i * 2]? = some (.string (formKd i)) ∧ cs[i * 2 + 1]? = some (.int .i64 i) := by
  obtain ⟨xs, m, rfl, hx, hlen, hn, hel⟩ := DataW.trod_array Tryz.underlying257 h
  refine ⟨by rw [hlen, fcells_tab], fun i hi => ?_⟩
  have hxi := hel i hi
  rw [fcells_row] at hxi
  have hlt : i < xs.length := by omega
  rw [List.getElem?_eq_getElem hlt] at hxi
  obtain ⟨y0, y1, n, e, _, g0, g1⟩ := trod_struct2 Tryz.underlying256 hxi
  simp only [fcells9, fcells3] at g0 g1
  obtain ⟨s, k0, rfl, _⟩ := DataW.trod_string Tryz.underlying9 g0
  obtain ⟨a, k1, rfl, _⟩ := DataW.trod_int Tryz.underlying3 g1
  have hd : (xs[i]).1 = frmD i := by
    rw [frmD_eq] at hx
    have := congrArg Prod.fst hx
    simp only [DataW.agg.injEq] at this
    have := congrArg (fun l => l[i]?) this
    simp [hi, hlt] at this
    exact this.symm
  rw [e] at hd
  simp only [frmD, DataW.agg.injEq, List.cons.injEq, DataW.lit.injEq, Lit.string.injEq, Lit.int.injEq, true_and, and_true] at hd
  obtain ⟨d0, d1⟩ := hd
  have hs : s = formKd i := by
    obtain ⟨⟨l⟩⟩ := s
    generalize formKd i = t at d0
    obtain ⟨⟨l'⟩⟩ := t
    simpa using d0
  rw [hs] at k0
  rw [d1] at k1
  exact ⟨Xp.btake1_in (a := i * 2) (b := 0) (n := 2) (by omega) k0, Xp.btake1_in (by omega) k1⟩

set_option maxRecDepth 100000 in
theorem formCells_at : (List.range 12).map (fun i => (formCells[i * 2]?, formCells[i * 2 + 1]?)) = (List.range 12).map (fun i : Nat => (some (Value.string (formKd i)), some (Value.int .i64 (i : Int)))) := by kernel_rfl
theorem formCells_row (i : Nat) (hi : i < 12) : formCells[i * 2]? = some (.string (formKd i)) ∧ formCells[i * 2 + 1]? = some (.int .i64 i) := by
  have h := congrArg (fun l => l[i]?) formCells_at
  simp only [List.getElem?_map, List.getElem?_range hi, Option.map_some, Option.some.injEq, Prod.mk.injEq] at h
  exact h
theorem formCells_size : formCells.size = 24 := by kernel_rfl

theorem flaid_of {W : World} {rest : List (String × DataW Unit)} (h : laidMet Tryz.prog (("platelayer/asm.forms", Rows.laid_platelayer_asm_forms) :: rest) W) : FLaid W := by
  obtain ⟨ps, ⟨g0, t0, cs0, f0, p0, q0, hg0, ht0, hv0, hd0, _⟩, _⟩ := h
  obtain rfl := Option.some.inj (gFrm.symm.trans hg0)
  obtain rfl := Option.some.inj (tFrm.symm.trans ht0)
  obtain ⟨hlen, r0⟩ := row_frm hd0
  obtain ⟨bt, bfr, hblk⟩ := Xp.bvar_block hg0 hv0
  have hall : cs0 = formCells := by
    apply Array.ext_getElem?
    intro j
    have hsz : cs0.size = 24 := by simpa using hlen
    by_cases hj : j < 24
    · have hi : j / 2 < 12 := by omega
      obtain ⟨x0, x1⟩ := r0 (j / 2) hi
      obtain ⟨y0, y1⟩ := formCells_row (j / 2) hi
      have hc : j = j / 2 * 2 ∨ j = j / 2 * 2 + 1 := by omega
      rcases hc with hc | hc
      · rw [hc, y0, ← Array.getElem?_toList]; exact x0
      · rw [hc, y1, ← Array.getElem?_toList]; exact x1
    · rw [Array.getElem?_eq_none (by omega), Array.getElem?_eq_none (by rw [formCells_size]; omega)]
  subst hall
  exact ⟨(Array.getElem?_eq_some_iff.1 hblk).1, bt, bfr, hblk⟩

/-- The list of what is laid, as the rows have it. -/
def laidL : List (String × DataW Unit) := [("math/bits.deBruijn32tab", Rows.laid_math_bits_deBruijn32tab), ("math/bits.deBruijn64tab", Rows.laid_math_bits_deBruijn64tab), ("internal/strconv.uint64pow10", Rows.laid_internal_strconv_uint64pow10), ("platelayer/isa.operations", Rows.laid_platelayer_isa_operations), ("platelayer/isa.layouts", Rows.laid_platelayer_isa_layouts), ("unicode/utf8.acceptRanges", Rows.laid_unicode_utf8_acceptRanges), ("strconv.ErrRange", Rows.laid_strconv_ErrRange), ("strconv.ErrSyntax", Rows.laid_strconv_ErrSyntax), ("platelayer/expr.kinds", Rows.laid_platelayer_expr_kinds), ("platelayer/asm.forms", Rows.laid_platelayer_asm_forms), ("unicode/utf8.first", Rows.laid_unicode_utf8_first)]

theorem gSyn : Tryz.prog.globalNamed "strconv.ErrSyntax" = some 9 := by kernel_rfl
theorem gRng : Tryz.prog.globalNamed "strconv.ErrRange" = some 10 := by kernel_rfl
theorem gPow : Tryz.prog.globalNamed "internal/strconv.uint64pow10" = some 2 := by kernel_rfl

theorem powData : (Rows.laid_internal_strconv_uint64pow10 : DataW Unit) = Lib.tabData .u64 Lib.pow10Tab := by kernel_rfl
theorem errStar : "*" ++ "errors.errorString" = "*errors.errorString" := by decide
theorem errRow (u : TypeId) (h : Tryz.prog.typeName? 3 u = some "*errors.errorString") : u = 317 :=
  typeName_ptr_named (nm := "errors.errorString") (by rw [errStar]; kernel_rfl) (by kernel_rfl) (by decide) u (by rw [errStar]; exact h)
theorem cellsErr : Tryz.prog.cellsOf 319 = 1 := by kernel_rfl
theorem cellsU64 : Tryz.prog.cellsOf 155 = 1 := by kernel_rfl
theorem cellsU20 : Tryz.prog.cellsOf 199 = 20 := by kernel_rfl

theorem all_of {W : World} (h : laidMetH Tryz.prog laidL W) (hs : W.ShapedOpen Tryz.prog) : AllLaid W := by
  rw [MakeChecks.laidMetH_plain _ _ _ (by kernel_rfl)] at h
  have h2 : laidMet Tryz.prog (("internal/strconv.uint64pow10", Rows.laid_internal_strconv_uint64pow10) :: _) W := h.tail.tail
  have h3 : laidMet Tryz.prog (("platelayer/isa.operations", Rows.laid_platelayer_isa_operations) :: ("platelayer/isa.layouts", Rows.laid_platelayer_isa_layouts) :: _) W := h2.tail
  have h4 : laidMet Tryz.prog (("strconv.ErrRange", Rows.laid_strconv_ErrRange) :: _) W := h3.tail.tail.tail
  have h5 : laidMet Tryz.prog (("strconv.ErrSyntax", Rows.laid_strconv_ErrSyntax) :: _) W := h4.tail
  have h6 : laidMet Tryz.prog (("platelayer/expr.kinds", Rows.laid_platelayer_expr_kinds) :: _) W := h5.tail
  have h7 : laidMet Tryz.prog (("platelayer/asm.forms", Rows.laid_platelayer_asm_forms) :: _) W := h6.tail
  obtain ⟨a1, s1, hv1, _⟩ := laid_sentinel h4 gRng (by kernel_rfl) Tryz.underlying48 errRow Tryz.underlying317 Tryz.underlying319 rfl rfl Tryz.underlying9 cellsErr fcells9
  obtain ⟨a2, s2, hv2, _⟩ := laid_sentinel h5 gSyn (by kernel_rfl) Tryz.underlying48 errRow Tryz.underlying317 Tryz.underlying319 rfl rfl Tryz.underlying9 cellsErr fcells9
  have c1 := World.var?_cell gRng hv1 0
  have c2 := World.var?_cell gSyn hv2 0
  have hF := flaid_of h7
  have hsz : max (max 3 9) (max 10 2) < W.heap.size := by have u1 := hF.sz; have u2 := (Xp.klaid_of h6).sz; have u3 := World.block_lt_of_cell? W _ c1; have u4 := (Isa.laid_rest h3).sz; simp only at u3; omega
  rw [powData] at h2
  exact ⟨Isa.laid_rest h3, hF, Xp.klaid_of h6, hsz, cell_of_shapedOpen_int (zero := #[.int .i64 0]) (t := 3) hs (of_decide_eq_true (by kernel_rfl)) (by kernel_rfl) rfl (by kernel_rfl) (by kernel_rfl) Tryz.underlying3,
    ⟨_, _, by simpa using c2⟩, ⟨_, _, by simpa using c1⟩, Lib.tabIs_of_head gPow (by kernel_rfl) Tryz.underlying199 Tryz.underlying155 cellsU64 cellsU20 h2⟩

theorem wit (os : Os) (args : Array Value) : laidMetH Tryz.prog laidL ((World.laidAll Tryz.prog os laidL).forCall (fun _ _ => 0) ⟨#[], args, []⟩).memory := by
  rw [MakeChecks.laidMetH_plain _ _ _ (by kernel_rfl)]
  exact laidMet_laidAll _ (by kernel_rfl) (by kernel_rfl)

end Go.Proofs.YtjmjhbdlbmnllaaGreatDoor
