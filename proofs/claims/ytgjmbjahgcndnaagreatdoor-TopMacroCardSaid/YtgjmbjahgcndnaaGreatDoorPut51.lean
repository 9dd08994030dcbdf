import Derived.Test.YtgjmbjahgcndnaaGreatDoorPut40
import Derived.Test.YtgjmbjahgcndnaaGreatDoorIsaLaid
import Derived.Test.YtgjmbjahgcndnaaGreatDoorArB
import Derived.Test.YtgjmbjahgcndnaaGreatDoorTie
import Derived.Test.YtgjmbjahgcndnaaGreatDoorCards
import Derived.OpenShut
import Derived.Stop.Joined
import Derived.Stop.LaidErr
import Derived.ShutString
import Derived.ChangeOld
import Derived.SizedLaws
import Derived.HandedShaped
import Derived.Lib.LaidTab
import Derived.Shelf.Vars
import Derived.Lay
set_option maxRecDepth 100000
namespace Go.Proofs.YtgjmbjahgcndnaaGreatDoor
open Go.ChangeShapes Go.WideShapes Go.ChangeAt Go.RowKit Go.Joins
theorem own : ownKnob Tryz.prog.godebug = none := by kernel_rfl
theorem laidOut : laidOutB Tryz.prog = true := by kernel_rfl
theorem gFrm : Tryz.prog.globalNamed "platelayer/asm.forms" = some 6 := by kernel_rfl
theorem tFrm : (Tryz.prog.globals[(6 : Nat)]?).map (·.type) = some 300 := by kernel_rfl
def frmD (k : Nat) : DataW Unit := .agg [.lit (.string (qBf k).data.toList), .lit (.int .i64 k)]
theorem frmD_eq : (Rows.laid_platelayer_asm_forms : DataW Unit) = .agg ((List.range 12).map frmD) := by kernel_rfl
theorem qIy : Tryz.prog.cellsOf 299 = 2 := by kernel_rfl
theorem qIl : Tryz.prog.cellsOf 300 = 24 := by kernel_rfl
theorem fcells3 : Tryz.prog.cellsOf 3 = 1 := by kernel_rfl
theorem fcells9 : Tryz.prog.cellsOf 9 = 1 := by kernel_rfl
theorem row_frm {W : World} {enc : TypeId × Value -> Unit} {base : Nat} {spare : Nat -> Bool} {held : Bool} {fuel : Nat} {cs : List Value} {ps : List MemPlace}
  (h : DataW.trod enc Tryz.prog W base spare held fuel 300 cs = some (Rows.laid_platelayer_asm_forms, ps)) :
  cs.length = 24 /\ ∀ i : Nat, i < 12 -> cs[i * 2]? = some (.string (qBf i)) /\ cs[i * 2 + 1]? = some (.int .i64 i) := by
 obtain ⟨xs, m, rfl, hx, hlen, hn, hel⟩ := DataW.trod_array Tryz.underlying300 h
 refine ⟨by rw [hlen, qIl], fun i hi => ?_⟩
 have hxi := hel i hi
 rw [qIy] at hxi
 have hlt : i < xs.length := by omega
 rw [List.getElem?_eq_getElem hlt] at hxi
 obtain ⟨y0, y1, n, e, _, g0, g1⟩ := trod_struct2 Tryz.underlying299 hxi
 simp only [fcells9, fcells3] at g0 g1
 obtain ⟨s, k0, rfl, _⟩ := DataW.trod_string Tryz.underlying9 g0
 obtain ⟨a, k1, rfl, _⟩ := DataW.trod_int Tryz.underlying3 g1
 have hd : (xs[i]).1 = frmD i := by
  rw [frmD_eq] at hx
  have := congrArg Prod.fst hx
  simp only [DataW.agg.injEq] at this
  have := congrArg (fun l => l[i]?) this
  simp [hi, hlt] at this
  exact this.symm
 rw [e] at hd
 simp only [frmD, DataW.agg.injEq, List.cons.injEq, DataW.lit.injEq, Lit.string.injEq, Lit.int.injEq, true_and, and_true] at hd
 obtain ⟨d0, d1⟩ := hd
 have hs : s = qBf i := by
  obtain ⟨⟨l⟩⟩ := s
  generalize qBf i = t at d0
  obtain ⟨⟨l'⟩⟩ := t
  simpa using d0
 rw [hs] at k0
 rw [d1] at k1
 exact ⟨Xp.qCK (a := i * 2) (b := 0) (n := 2) (by omega) k0, Xp.qCK (by omega) k1⟩
theorem qFg : (List.range 12).map (fun i => (qAb[i * 2]?, qAb[i * 2 + 1]?)) = (List.range 12).map (fun i : Nat => (some (Value.string (qBf i)), some (Value.int .i64 (i : Int)))) := by kernel_rfl
theorem qEu (i : Nat) (hi : i < 12) : qAb[i * 2]? = some (.string (qBf i)) /\ qAb[i * 2 + 1]? = some (.int .i64 i) := by
 have h := congrArg (fun l => l[i]?) qFg
 simp only [List.getElem?_map, List.getElem?_range hi, Option.map_some, Option.some.injEq, Prod.mk.injEq] at h
 exact h
theorem qEL : qAb.size = 24 := by kernel_rfl
theorem flaid_of {W : World} {rest : List (String × DataW Unit)} (h : laidMet Tryz.prog (("platelayer/asm.forms", Rows.laid_platelayer_asm_forms) :: rest) W) : qGf W := by
 obtain ⟨ps, ⟨g0, t0, cs0, f0, p0, q0, hg0, ht0, hv0, hd0, _⟩, _⟩ := h
 obtain rfl := Option.some.inj (gFrm.symm.trans hg0)
 obtain rfl := Option.some.inj (tFrm.symm.trans ht0)
 obtain ⟨hlen, r0⟩ := row_frm hd0
 obtain ⟨bt, bfr, hblk⟩ := Xp.qES hg0 hv0
 have hall : cs0 = qAb := by
  apply Array.ext_getElem?
  intro j
  have hsz : cs0.size = 24 := by simpa using hlen
  by_cases hj : j < 24
  ·have hi : j / 2 < 12 := by omega
   obtain ⟨x0, x1⟩ := r0 (j / 2) hi
   obtain ⟨y0, y1⟩ := qEu (j / 2) hi
   have hc : j = j / 2 * 2 \/ j = j / 2 * 2 + 1 := by omega
   rcases hc with hc | hc
   ·rw [hc, y0, <- Array.getElem?_toList]; exact x0
   ·rw [hc, y1, <- Array.getElem?_toList]; exact x1
  ·rw [Array.getElem?_eq_none (by omega), Array.getElem?_eq_none (by rw [qEL]; omega)]
 subst hall
 exact ⟨(Array.getElem?_eq_some_iff.1 hblk).1, bt, bfr, hblk⟩
def qGS : List (String × DataW Unit) := [("math/bits.deBruijn32tab", Rows.laid_math_bits_deBruijn32tab), ("math/bits.deBruijn64tab", Rows.laid_math_bits_deBruijn64tab), ("internal/strconv.uint64pow10", Rows.laid_internal_strconv_uint64pow10), ("platelayer/isa.operations", Rows.laid_platelayer_isa_operations), ("platelayer/isa.layouts", Rows.laid_platelayer_isa_layouts), ("unicode/utf8.acceptRanges", Rows.laid_unicode_utf8_acceptRanges), ("strconv.ErrRange", Rows.laid_strconv_ErrRange), ("strconv.ErrSyntax", Rows.laid_strconv_ErrSyntax), ("platelayer/expr.kinds", Rows.laid_platelayer_expr_kinds), ("platelayer/asm.forms", Rows.laid_platelayer_asm_forms), ("unicode/utf8.first", Rows.laid_unicode_utf8_first)]
theorem qCt {H : Type} {enc : TypeId × Value -> H} {a : Assume} {C : Checked} {os : Os} {f : FuncId} {fn : Func} {s : ChangeSpec} {conds : List PathCond} {apart fresh handsOn again : Bool} {X : World -> Array Value -> Prop}
  (hX : ∀ (w w' : World) (args : Array Value), w.heap = w'.heap -> X w args -> X w' args)
  (own : ownKnob C.prog.godebug = none) (started : os.Started) (noInit : C.prog.inits.idxOf? f = none) (hfn : C.prog.funcs[f]? = some fn)
  (witness : ∃ (w : World) (tape : Tape) (i : Input), w.os = os /\ (w.forCall tape i).Shaped C.prog /\ i.vars = [] /\ Input.okWide C.prog (w.forCall tape i) .any w.heap.size f i /\
   ((s.pre enc C.prog fn conds apart (w.forCall tape i).memory i.args /\ X (w.forCall tape i).memory i.args) /\ sizedMet enc C.prog fn (OpenSpec.ofChange s) apart (w.forCall tape i).memory i.args) /\ a.holds C.prog (lone (Frame.enter C.prog f i.args .normal) [] (w.forCall tape i)))
  (contract : ∀ (W : World) (base : Nat) (args : Array Value) (ds gs : List (DataW H)) (before : List MemPlace),
   (∀ (j : Nat) t v, fn.params[j]? = some t -> args[j]? = some v -> Value.okWide C.prog W .any base t v) ->
   DataW.Whole enc C.prog fn.params.toList s.vars apart W args.toList ds gs before ->
   (DataW.weightsEach C.prog (fn.params.toList ++ s.plain.varTypes C.prog) (ds ++ gs)).all (· <= reachBytes) = true -> X W args -> W.ShapedOpen C.prog ->
   Calls C.prog f args W fun e W' => ∃ v, e = .returned v /\ s.post enc C.prog fn apart fresh handsOn again W args v W') :
  ReturnsInHanded a C os f .any (fun w args => (s.pre enc C.prog fn conds apart w args /\ X w args) /\ sizedMet enc C.prog fn (OpenSpec.ofChange s) apart w args) (s.post enc C.prog fn apart fresh handsOn again) := by
 refine returnsInHanded_of_calls own started noInit witness ?_
 intro w tape i _ hsh _ hok hpre _
 obtain ⟨_, _, _, fn', hfn', _, _, _, _, hval⟩ := hok
 have e : fn' = fn := Option.some.inj (hfn'.symm.trans hfn)
 subst e
 obtain ⟨⟨⟨ds, gs, before, hw, hc⟩, hx⟩, hz⟩ := hpre
 have hw' := DataW.Whole.of_heap (w' := w.forCall tape i) (by rfl) hw
 refine (contract (w.forCall tape i) w.heap.size i.args ds gs before hval hw' (hz.weights hw) (hX _ _ _ (by rfl) hx) hsh).mono fun e W' ⟨v, he, hp⟩ => ?_
 subst he
 exact ChangeSpec.post_blind hp
theorem gSyn : Tryz.prog.globalNamed "strconv.ErrSyntax" = some 9 := by kernel_rfl
theorem gRng : Tryz.prog.globalNamed "strconv.ErrRange" = some 10 := by kernel_rfl
theorem gPow : Tryz.prog.globalNamed "internal/strconv.uint64pow10" = some 0 := by kernel_rfl
theorem powData : (Rows.laid_internal_strconv_uint64pow10 : DataW Unit) = Lib.tabData .u64 Lib.pow10Tab := by kernel_rfl
theorem qKb : "*" ++ "errors.errorString" = "*errors.errorString" := by decide
theorem errRow (u : TypeId) (h : Tryz.prog.typeName? 3 u = some "*errors.errorString") : u = 361 :=
 typeName_ptr_named (nm := "errors.errorString") (by rw [qKb]; kernel_rfl) (by kernel_rfl) (by decide) u (by rw [qKb]; exact h)
theorem qIK : Tryz.prog.cellsOf 363 = 1 := by kernel_rfl
theorem cellsU64 : Tryz.prog.cellsOf 59 = 1 := by kernel_rfl
theorem cellsU20 : Tryz.prog.cellsOf 84 = 20 := by kernel_rfl
theorem all_of {W : World} (h : laidMetH Tryz.prog qGS W) (hs : W.ShapedOpen Tryz.prog) : qAi W := by
 rw [MakeChecks.laidMetH_plain _ _ _ (by kernel_rfl)] at h
 have h2 : laidMet Tryz.prog (("internal/strconv.uint64pow10", Rows.laid_internal_strconv_uint64pow10) :: _) W := h.tail.tail
 have h3 : laidMet Tryz.prog (("platelayer/isa.operations", Rows.laid_platelayer_isa_operations) :: ("platelayer/isa.layouts", Rows.laid_platelayer_isa_layouts) :: _) W := h2.tail
 have h4 : laidMet Tryz.prog (("strconv.ErrRange", Rows.laid_strconv_ErrRange) :: _) W := h3.tail.tail.tail
 have h5 : laidMet Tryz.prog (("strconv.ErrSyntax", Rows.laid_strconv_ErrSyntax) :: _) W := h4.tail
 have h6 : laidMet Tryz.prog (("platelayer/expr.kinds", Rows.laid_platelayer_expr_kinds) :: _) W := h5.tail
 have h7 : laidMet Tryz.prog (("platelayer/asm.forms", Rows.laid_platelayer_asm_forms) :: _) W := h6.tail
 obtain ⟨a1, s1, hv1, _⟩ := laid_sentinel h4 gRng (by kernel_rfl) Tryz.underlying247 errRow Tryz.underlying361 Tryz.underlying363 rfl rfl Tryz.underlying9 qIK fcells9
 obtain ⟨a2, s2, hv2, _⟩ := laid_sentinel h5 gSyn (by kernel_rfl) Tryz.underlying247 errRow Tryz.underlying361 Tryz.underlying363 rfl rfl Tryz.underlying9 qIK fcells9
 have c1 := World.var?_cell gRng hv1 0
 have c2 := World.var?_cell gSyn hv2 0
 have hF := flaid_of h7
 have hmx : ∃ n, W.cell? ⟨5, 0, none⟩ = some (.int .i64 n) := cell_of_shapedOpen_int (zero := #[.int .i64 0]) (t := 3) hs (of_decide_eq_true (by kernel_rfl)) (by kernel_rfl) rfl (by kernel_rfl) (by kernel_rfl) Tryz.underlying3
 obtain ⟨n5, hn5⟩ := id hmx
 rw [powData] at h2
 have t6 := Lib.tabIs_of_head gPow (by kernel_rfl) Tryz.underlying84 Tryz.underlying59 cellsU64 cellsU20 h2
 have c6 : W.cell? ⟨0, 0, none⟩ = some (.int .u64 1) := by rw [World.var?_cell gPow t6 0]; rfl
 have hsz : max (max 5 9) (max 10 0) < W.heap.size := by have u1 := hF.sz; have u2 := (Xp.qIE h6).sz; have u3 := World.block_lt_of_cell? W _ c1; have u4 := (Isa.qFf h3).sz; have u5 := World.block_lt_of_cell? W _ hn5; have u6 := World.block_lt_of_cell? W _ c6; simp only at u3 u5 u6; omega
 exact ⟨Isa.qFf h3, hF, Xp.qIE h6, hsz, hmx,
  ⟨_, _, by simpa using c2⟩, ⟨_, _, by simpa using c1⟩, t6⟩
theorem wit (os : Os) (args : Array Value) : laidMetH Tryz.prog qGS ((World.laidAll Tryz.prog os qGS).forCall (fun _ _ => 0) ⟨#[], args, []⟩).memory := by
 rw [MakeChecks.laidMetH_plain _ _ _ (by kernel_rfl)]
 exact laidMet_laidAll _ (by kernel_rfl) (by kernel_rfl)
theorem and_u {a b : Bool} (ha : a = true) (hb : b = true) : (a && b) = true := by rw [ha, hb]; rfl
theorem jm_wf : Rows.topMacroRow.wf (OpenSpec.ofChange Rows.topMacroSpec) = true := by kernel_rfl
theorem qIg : (Rows.topMacroRow.inPlace == Tryz.prog.inPlace 3) = true := by kernel_rfl
theorem jm_unf : (Rows.topMacroRow.unfollowed == Tryz.prog.unfollowed 3) = true := by kernel_rfl
theorem jm_rec : (Rows.topMacroRow.recurses == Tryz.prog.recurses 3) = true := by kernel_rfl
theorem jm_named : (Rows.topMacroRow.named == Tryz.prog.varsNamed 3) = true := by kernel_rfl
theorem qL5 : (Rows.topMacroRow.lifted == Tryz.prog.liftsFinal) = true := by kernel_rfl
theorem jm_maps : mapsRowed Tryz.prog = true := by kernel_rfl
theorem jm_heard : Tryz.prog.stopsHeard = true := by kernel_rfl
theorem jm_may : Tryz.prog.mayEnter = true := by kernel_rfl
theorem qGA : joinedFacts Tryz.prog 3 Tryz.f3 Rows.topMacroSpec Rows.topMacroRow = true := by
 unfold joinedFacts
 refine and_u (and_u (and_u (and_u (and_u (and_u (and_u (and_u (and_u (and_u (and_u (and_u (and_u (and_u (and_u (and_u (and_u (and_u (and_u (and_u (and_u (and_u (and_u (and_u (and_u (and_u (and_u (and_u (and_u (and_u (and_u jm_wf ?_) jm_maps) ?_) ?_) ?_) ?_) ?_) ?_) qIg) jm_unf) jm_rec) jm_named) ?_) ?_) ?_) ?_) ?_) ?_) ?_) ?_) ?_) ?_) ?_) jm_heard) jm_may) qL5) ?_) ?_) ?_) ?_) ?_
 all_goals kernel_rfl
end Go.Proofs.YtgjmbjahgcndnaaGreatDoor
