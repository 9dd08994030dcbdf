/- What FairDead's row gives: the sources that the argument reads as; the listed variables. The row's closed facts, a heavy one a declaration. PROVED: 'FairDead' answers true for all lists of sources, every base and every number of workers, the arguments read behind the call as they read before it; the listed variables are tied to the program's text. No other condition. -/
import Derived.Test.YtbpoiajpcahdhaaGreatDoorPut50
import Derived.Test.YtbpoiajpcahdhaaGreatDoorUfD
import Derived.Deep.Slices
import Derived.Deep.Strs
namespace Go.Proofs.YtbpoiajpcahdhaaGreatDoor.Wi
open Go.ChangeShapes Go.WideShapes Go.ChangeAt Go.RowKit Go.Joins

theorem ocells_byte : Tryz.prog.cellsOf 5 = 1 := by kernel_rfl
theorem ocells_int : Tryz.prog.cellsOf 3 = 1 := by kernel_rfl
theorem ocells_sl : Tryz.prog.cellsOf 36 = 1 := by kernel_rfl
theorem obytes_byte : Tryz.prog.bytesOf 5 = 1 := by kernel_rfl
theorem obytes_sl : Tryz.prog.bytesOf 36 = 24 := by kernel_rfl
theorem gWid : Tryz.prog.globalNamed "platelayer/wire.widths" = some 0 := by kernel_rfl
theorem tWid : (Tryz.prog.globals[0]?).map (·.type) = some 78 := by kernel_rfl
def wid : Nat → Int := fun k => [1, 1, 1, 2, 1, 2, 4].getD k 0
theorem widD_eq : (Rows.laid_platelayer_wire_widths : DataW Unit) = .agg ((List.range 7).map fun k => .lit (.int .i64 (wid k))) := by kernel_rfl

theorem row_wid {W : World} {enc : TypeId × Value → Unit} {base : Nat} {spare : Nat → Bool} {held : Bool} {fuel : Nat} {cs : List Value} {ps : List MemPlace}
    (h : DataW.trod enc Tryz.prog W base spare held fuel 78 cs = some (Rows.laid_platelayer_wire_widths, ps)) : ∀ i, i < 7 → cs[i]? = some (.int .i64 (wid i)) := by
  obtain ⟨xs, m, rfl, hx, hlen, hn, hel⟩ := DataW.trod_array Tryz.underlying78 h
  intro i hi
  have hxi := hel i hi
  rw [ocells_int] at hxi
  have hlt : i < xs.length := by omega
  rw [List.getElem?_eq_getElem hlt] at hxi
  obtain ⟨a, k0, e, _⟩ := DataW.trod_int Tryz.underlying3 hxi
  have hd : (xs[i]).1 = .lit (.int .i64 (wid i)) := by
    rw [widD_eq] at hx
    have := congrArg Prod.fst hx
    simp only [DataW.agg.injEq] at this
    have := congrArg (fun l => l[i]?) this
    simp [hi, hlt] at this
    exact this.symm
  rw [e] at hd
  simp only [DataW.lit.injEq, Lit.int.injEq, true_and] at hd
  rw [hd] at k0
  have := congrArg (fun x => x[0]?) k0
  simpa using this

theorem var_block {P : Program} {w : World} {n : String} {g : Nat} {cs : Array Value} (hg : P.globalNamed n = some g) (hv : w.var? P n = some cs) : ∃ t fr, w.heap[g]? = some (.cells cs t fr) := by
  simp only [World.var?, hg, Option.bind_some] at hv
  split at hv
  · rename_i c e f hh
    exact ⟨e, f, by rw [hh]; simpa using hv⟩
  · simp at hv

theorem wl_of {W : World} {rest : List (String × DataW Unit)} (h : laidMet Tryz.prog (("platelayer/wire.widths", Rows.laid_platelayer_wire_widths) :: rest) W) : WL W := by
  obtain ⟨ps, ⟨g0, t0, cs0, f0, p0, q0, hg0, ht0, hv0, hd0, _⟩, _⟩ := h
  obtain rfl := Option.some.inj (gWid.symm.trans hg0)
  obtain rfl := Option.some.inj (tWid.symm.trans ht0)
  have r0 := row_wid hd0
  have c0 := World.var?_cell hg0 hv0
  obtain ⟨bt, bfr, hblk⟩ := var_block hg0 hv0
  have key : ∀ i, i < 7 → W.cell? ⟨0, i, none⟩ = some (.int .i64 (wid i)) := fun i hi => by
    rw [c0, ← Array.getElem?_toList]; exact r0 i hi
  exact ⟨key 0 (by decide), key 1 (by decide), key 2 (by decide), key 3 (by decide), key 4 (by decide), key 5 (by decide), key 6 (by decide), (Array.getElem?_eq_some_iff.1 hblk).1⟩

section
variable {H : Type} {enc : TypeId × Value → H} {W : World} {base : Nat} {spare : Nat → Bool} {held : Bool}

theorem oweights {P : Program} {e : TypeId} {n : Nat} : ∀ {l : List (DataW H)} {d : DataW H}, d ∈ l → n ∈ d.weights P e → n ∈ DataW.weightsAll P e l
  | x :: r, d, hd, hn => by
    rw [DataW.weightsAll]
    rcases List.mem_cons.1 hd with rfl | hd
    · exact List.mem_append_left _ hn
    · exact List.mem_append_right _ (oweights hd hn)

set_option maxRecDepth 100000 in
theorem bytes_arg {fuel : Nat} {cs : List Value} {d : DataW H} {ps : List MemPlace} (hf : DataW.trod enc Tryz.prog W base spare held fuel 36 cs = some (d, ps)) (hw : ∀ n, n ∈ d.weights Tryz.prog 36 → n ≤ reachBytes) :
    ∃ v l, cs = [v] ∧ RB W W.heap.size v l ∧ l.length ≤ 140737488351232 := by
  rcases Deep.open_slice Tryz.underlying36 hf with ⟨rfl, _⟩ | ⟨x, len, cap, m, n, D, Pl, rfl, _, hl, hm, hmm, hx, hel⟩
  · exact ⟨_, [], rfl, ⟨none, 0, rfl, .inl ⟨rfl, rfl, rfl⟩⟩, by simp⟩
  · have hlm : len ≤ m := by rw [hmm]; split <;> omega
    obtain ⟨hd, _⟩ := Prod.mk.inj hx
    have hbound : len ≤ 140737488351232 := by
      have h1 := hw ((((List.range len).map D).length + ((List.range (m - len)).map fun j => D (len + j)).length) * Tryz.prog.bytesOf 5) (by rw [hd, DataW.weights, Tryz.underlying36]; exact List.mem_cons_self)
      rw [obytes_byte] at h1
      have hr : reachBytes = 140737488351232 := rfl
      simp at h1
      omega
    have each : ∀ i, i < len → ∃ t : UInt8, W.cell? (x.add i) = some (.int .u8 (t.toNat : Int)) := by
      intro i hi
      obtain ⟨cs', h1, h2⟩ := hel i (by omega)
      rw [ocells_byte] at h1
      obtain ⟨_, hlen, hcell⟩ := World.cells?_some h1
      match cs', hlen with
      | [v0], _ =>
        have e0 := hcell 0 (by omega)
        rw [Deep.add_add] at e0
        obtain ⟨z0, q0, r0, w0⟩ := DataW.trod_int Tryz.underlying5 h2
        simp only [List.cons.injEq, and_true] at q0
        subst q0
        have hb := bounds_u8 w0
        refine ⟨UInt8.ofNat z0.toNat, ?_⟩
        have e1 : ((UInt8.ofNat z0.toNat).toNat : Int) = z0 := by rw [UInt8.toNat_ofNat']; omega
        rw [e1]
        simpa using e0
    obtain ⟨q, hq⟩ := Deep.choose_lt each
    have hts : ((List.range len).map q).length = len := by simp
    refine ⟨_, (List.range len).map q, rfl, ⟨some x, cap, by rw [hts], .inr ⟨x, rfl, by rw [hts]; omega, fun h0 => ?_⟩⟩, by rw [hts]; exact hbound⟩
    rw [hts] at h0
    obtain ⟨b, off, spot⟩ := x
    have hc := hq 0 h0
    have hspot : spot = none := by simpa [Addr.add] using World.cell?_spot hc
    subst hspot
    have hlt : b < W.heap.size := by
      rw [addr_add] at hc
      exact World.block_lt_of_cell? W _ hc
    refine ⟨b, off, rfl, hlt, fun i hi => ?_⟩
    rw [hts] at hi
    have h3 := hq i hi
    rw [addr_add] at h3
    simp only [List.getElem_map, List.getElem_range]
    exact h3



set_option maxRecDepth 100000 in
theorem srcs_arg {fuel : Nat} {cs : List Value} {d : DataW H} {ps : List MemPlace} (hf : DataW.trod enc Tryz.prog W base spare held fuel 22 cs = some (d, ps)) (hw : ∀ n, n ∈ d.weights Tryz.prog 22 → n ≤ reachBytes) :
    ∃ v l, cs = [v] ∧ LS W v l := by
  rcases Deep.open_slice Tryz.underlying22 hf with ⟨rfl, _⟩ | ⟨x, len, cap, m, n, D, Pl, rfl, _, hl, hm, hmm, hx, hel⟩
  · exact ⟨_, [], rfl, none, 0, rfl, Nat.zero_le _, fun h0 => absurd h0 (by simp)⟩
  · have hlm : len ≤ m := by rw [hmm]; split <;> omega
    obtain ⟨hd, _⟩ := Prod.mk.inj hx
    have hr : reachBytes = 140737488351232 := rfl
    have hbound : len * 24 ≤ 140737488351232 := by
      have h1 := hw ((((List.range len).map D).length + ((List.range (m - len)).map fun j => D (len + j)).length) * Tryz.prog.bytesOf 36) (by rw [hd, DataW.weights, Tryz.underlying22]; exact List.mem_cons_self)
      rw [obytes_sl] at h1
      simp at h1
      omega
    have each : ∀ i, i < len → ∃ t : List UInt8, ∃ u, W.cell? (x.add i) = some u ∧ RB W W.heap.size u t ∧ t.length ≤ 140737488351232 := by
      intro i hi
      obtain ⟨cs', h1, h2⟩ := hel i (by omega)
      rw [ocells_sl] at h1
      obtain ⟨_, hlen, hcell⟩ := World.cells?_some h1
      have hmem : D i ∈ (List.range len).map D := List.mem_map.2 ⟨i, List.mem_range.2 hi, rfl⟩
      obtain ⟨u, t, q0, hB, hBl⟩ := bytes_arg h2 (fun n hn => hw n (by
        rw [hd, DataW.weights, Tryz.underlying22]
        exact List.mem_cons_of_mem _ (List.mem_append_left _ (oweights hmem hn))))
      subst q0
      have e0 := hcell 0 (by simp)
      rw [Deep.add_add] at e0
      exact ⟨t, u, by simpa using e0, hB, hBl⟩
    obtain ⟨q, hq⟩ := Deep.choose_lt each
    have hts : ((List.range len).map q).length = len := by simp
    refine ⟨_, (List.range len).map q, rfl, some x, cap, by rw [hts], by rw [hts]; omega, fun h0 => ?_⟩
    rw [hts] at h0
    obtain ⟨b, off, spot⟩ := x
    obtain ⟨u0, hc, _⟩ := hq 0 h0
    have hspot : spot = none := by simpa [Addr.add] using World.cell?_spot hc
    subst hspot
    have hlt : b < W.heap.size := by
      rw [addr_add] at hc
      exact World.block_lt_of_cell? W _ hc
    refine ⟨b, off, rfl, hlt, fun i hi => ?_⟩
    rw [hts] at hi
    obtain ⟨u, h3, h4, h5⟩ := hq i hi
    rw [addr_add] at h3
    simp only [List.getElem_map, List.getElem_range]
    exact ⟨u, h3, h4, by omega⟩

theorem oweights_of {ts : List TypeId} {ds : List (DataW H)} {j : Nat} {t : TypeId} {d : DataW H} (hsz : (DataW.weightsEach Tryz.prog ts ds).all (· ≤ reachBytes) = true) (ht : ts[j]? = some t) (hd : ds[j]? = some d) : ∀ n, n ∈ d.weights Tryz.prog t → n ≤ reachBytes := fun n hn => by
  have := List.all_eq_true.1 hsz n (DataW.weights_mem_each ht hd n hn)
  simpa using this
end

/-- The list of what is laid, as the row has it. -/
def laidF : List (String × DataW Unit) := [("math/bits.deBruijn32tab", Rows.laid_math_bits_deBruijn32tab), ("math/bits.deBruijn64tab", Rows.laid_math_bits_deBruijn64tab), ("internal/strconv.uint64pow10", Rows.laid_internal_strconv_uint64pow10), ("platelayer/isa.operations", Rows.laid_platelayer_isa_operations), ("platelayer/isa.layouts", Rows.laid_platelayer_isa_layouts), ("platelayer/wire.widths", Rows.laid_platelayer_wire_widths), ("unicode/utf8.acceptRanges", Rows.laid_unicode_utf8_acceptRanges), ("strconv.ErrRange", Rows.laid_strconv_ErrRange), ("strconv.ErrSyntax", Rows.laid_strconv_ErrSyntax), ("platelayer/expr.kinds", Rows.laid_platelayer_expr_kinds), ("platelayer/asm.forms", Rows.laid_platelayer_asm_forms), ("unicode/utf8.first", Rows.laid_unicode_utf8_first)]
theorem laid_all {W : World} (h : laidMetH Tryz.prog laidF W) (hs : W.ShapedOpen Tryz.prog) : AllLaid W ∧ WL W := by
  rw [MakeChecks.laidMetH_plain _ _ _ (by kernel_rfl)] at h
  have h2 : laidMet Tryz.prog (("internal/strconv.uint64pow10", Rows.laid_internal_strconv_uint64pow10) :: _) W := h.tail.tail
  have h3 : laidMet Tryz.prog (("platelayer/isa.operations", Rows.laid_platelayer_isa_operations) :: ("platelayer/isa.layouts", Rows.laid_platelayer_isa_layouts) :: _) W := h2.tail
  have hw : laidMet Tryz.prog (("platelayer/wire.widths", Rows.laid_platelayer_wire_widths) :: _) W := h3.tail.tail
  have h4 : laidMet Tryz.prog (("strconv.ErrRange", Rows.laid_strconv_ErrRange) :: _) W := hw.tail.tail
  have h5 : laidMet Tryz.prog (("strconv.ErrSyntax", Rows.laid_strconv_ErrSyntax) :: _) W := h4.tail
  have h6 : laidMet Tryz.prog (("platelayer/expr.kinds", Rows.laid_platelayer_expr_kinds) :: _) W := h5.tail
  have h7 : laidMet Tryz.prog (("platelayer/asm.forms", Rows.laid_platelayer_asm_forms) :: _) W := h6.tail
  obtain ⟨a1, s1, hv1, _⟩ := laid_sentinel h4 gRng (by kernel_rfl) Tryz.underlying231 errRow Tryz.underlying361 Tryz.underlying363 rfl rfl Tryz.underlying9 cellsErr fcells9
  obtain ⟨a2, s2, hv2, _⟩ := laid_sentinel h5 gSyn (by kernel_rfl) Tryz.underlying231 errRow Tryz.underlying361 Tryz.underlying363 rfl rfl Tryz.underlying9 cellsErr fcells9
  have c1 := World.var?_cell gRng hv1 0
  have c2 := World.var?_cell gSyn hv2 0
  have hF := flaid_of h7
  have hmx : ∃ n, W.cell? ⟨1, 0, none⟩ = some (.int .i64 n) := cell_of_shapedOpen_int (zero := #[.int .i64 0]) (t := 3) hs (of_decide_eq_true (by kernel_rfl)) (by kernel_rfl) rfl (by kernel_rfl) (by kernel_rfl) Tryz.underlying3
  obtain ⟨n5, hn5⟩ := id hmx
  rw [powData] at h2
  have t6 := Lib.tabIs_of_head gPow (by kernel_rfl) Tryz.underlying393 Tryz.underlying229 cellsU64 cellsU20 h2
  have c6 : W.cell? ⟨10, 0, none⟩ = some (.int .u64 1) := by rw [World.var?_cell gPow t6 0]; rfl
  have hsz : max (max 1 6) (max 7 10) < W.heap.size := by have u1 := hF.sz; have u2 := (Xp.klaid_of h6).sz; have u3 := World.block_lt_of_cell? W _ c1; have u4 := (Isa.laid_rest h3).sz; have u5 := World.block_lt_of_cell? W _ hn5; have u6 := World.block_lt_of_cell? W _ c6; simp only at u3 u5 u6; omega
  exact ⟨⟨Isa.laid_rest h3, hF, Xp.klaid_of h6, hsz, hmx,
    ⟨_, _, by simpa using c2⟩, ⟨_, _, by simpa using c1⟩, t6⟩, wl_of hw⟩
theorem witF (os : Os) (args : Array Value) : laidMetH Tryz.prog laidF ((World.laidAll Tryz.prog os laidF).forCall (fun _ _ => 0) ⟨#[], args, []⟩).memory := by
  rw [MakeChecks.laidMetH_plain _ _ _ (by kernel_rfl)]
  exact laidMet_laidAll _ (by kernel_rfl) (by kernel_rfl)

theorem law_any (l : List (List UInt8)) (v : Value) (base workers : Int) (w : World) (hA : AllLaid w) (hW : WL w) (hv : LS w v l) :
    Calls Tryz.prog 3 #[v, .int .i64 base, .int .i64 workers] w fun e w' => e = .returned (.bool true) ∧ Below w.heap.size w w' := by
  by_cases hx : wrongN l base workers = 0
  · exact law_ok l v base workers w hA hW hv hx
  · exact law_bad l v base workers w hA hW hv hx

end Go.Proofs.YtbpoiajpcahdhaaGreatDoor.Wi

namespace Go.Proofs.YtbpoiajpcahdhaaGreatDoor.Wi
open Go.ChangeShapes Go.WideShapes Go.ChangeAt Go.RowKit Go.Joins

theorem and_t {a b : Bool} (ha : a = true) (hb : b = true) : (a && b) = true := by rw [ha, hb]; rfl

theorem jl_wf : Rows.fairDeadRow.wf (OpenSpec.ofChange Rows.fairDeadSpec) = true := by kernel_rfl
theorem jl_inPlace : (Rows.fairDeadRow.inPlace == Tryz.prog.inPlace 3) = true := by kernel_rfl
theorem jl_unf : (Rows.fairDeadRow.unfollowed == Tryz.prog.unfollowed 3) = true := by kernel_rfl
theorem jl_rec : (Rows.fairDeadRow.recurses == Tryz.prog.recurses 3) = true := by kernel_rfl
theorem jl_named : (Rows.fairDeadRow.named == Tryz.prog.varsNamed 3) = true := by kernel_rfl
theorem jl_lifted : (Rows.fairDeadRow.lifted == Tryz.prog.liftsFinal) = true := by kernel_rfl
theorem jl_maps : mapsRowed Tryz.prog = true := by kernel_rfl
theorem jl_heard : Tryz.prog.stopsHeard = true := by kernel_rfl
theorem jl_may : Tryz.prog.mayEnter = true := by kernel_rfl

theorem dead_closed : joinedFacts Tryz.prog 3 Tryz.f3 Rows.fairDeadSpec Rows.fairDeadRow = true := by
  unfold joinedFacts
  refine and_t (and_t (and_t (and_t (and_t (and_t (and_t (and_t (and_t (and_t (and_t (and_t (and_t (and_t (and_t (and_t (and_t (and_t (and_t (and_t (and_t (and_t (and_t (and_t (and_t (and_t (and_t (and_t (and_t (and_t (and_t jl_wf ?_) jl_maps) ?_) ?_) ?_) ?_) ?_) ?_) jl_inPlace) jl_unf) jl_rec) jl_named) ?_) ?_) ?_) ?_) ?_) ?_) ?_) ?_) ?_) ?_) ?_) jl_heard) jl_may) jl_lifted) ?_) ?_) ?_) ?_) ?_
  all_goals kernel_rfl

end Go.Proofs.YtbpoiajpcahdhaaGreatDoor.Wi

namespace Go.Proofs.YtbpoiajpcahdhaaGreatDoor.Wi
open Go.ChangeShapes Go.WideShapes Go.ChangeAt Go.RowKit Go.Joins

set_option maxRecDepth 100000 in
theorem dead_lifted (os : Os) (started : os.Started) (H : Type) (enc : TypeId × Value → H) :
    ReturnsInHanded {} Tryz.checked os 3 .any (fun w args => (Rows.fairDeadSpec.pre enc Tryz.prog Tryz.f3 [] false w args ∧ laidMetH Tryz.prog laidF w) ∧ sizedMet enc Tryz.prog Tryz.f3 (OpenSpec.ofChange Rows.fairDeadSpec) false w args)
      (Rows.fairDeadSpec.post enc Tryz.prog Tryz.f3 false true false false) := by
  refine returns_laid_shaped (C := Tryz.checked) (X := fun w _ => laidMetH Tryz.prog laidF w) (fun _ _ _ hh h => h.of_heap hh) own started (by kernel_rfl) Tryz.func3
    (ChangeSpec.witness_shaped (enc := enc) (C := Tryz.checked) (os := os) (X := fun w _ => laidMetH Tryz.prog laidF w) false (World.laidAll Tryz.prog os laidF) #[.slice none 0 0, .int .i64 0, .int .i64 0] 8 (World.laidAll_os _ _ _)
      (World.shaped_of_ZipB (by kernel_rfl) (by kernel_rfl)) (by kernel_rfl) (by kernel_rfl) (by kernel_rfl) (witF os _)) ?_
  intro W base args ds gs before hval0 hW hsz hL hsh
  have hval : ∀ (j : Nat) t v, Tryz.f3.params[j]? = some t → args[j]? = some v → Value.okWide Tryz.prog W .any base t v := hval0
  have hW' := hW
  obtain ⟨p, q, hA0, hV, rfl, hfz, hnd⟩ := hW
  have hA : DataW.TrodAll enc Tryz.prog W 0 (fun _ => true) true Tryz.f3.params.toList args.toList ds p := hA0
  rw [Tryz.params3] at hA hval
  obtain ⟨v0, vs0, d0, ds0, p0, q0, hargs0, rfl, rfl, h0, r0⟩ := trodAll_cons hA
  obtain ⟨v1, vs1, d1, ds1, p1, q1, hargs1, rfl, rfl, h1, r1⟩ := trodAll_cons r0
  obtain ⟨v2, vs2, d2, ds2, p2, q2, hargs2, rfl, rfl, h2, r2⟩ := trodAll_cons r1
  obtain ⟨rfl, rfl, rfl⟩ := trodAll_nil r2
  obtain rfl : args = #[v0, v1, v2] := by cases args; simp_all
  obtain ⟨rfl, rfl⟩ := trodVars_none hV
  obtain ⟨n, rfl⟩ := okWide_int Tryz.underlying3 (hval 1 3 v1 rfl rfl)
  obtain ⟨t, rfl⟩ := okWide_int Tryz.underlying3 (hval 2 3 v2 rfl rfl)
  obtain ⟨a0, len0, cap0, rfl⟩ := okWide_slice Tryz.underlying22 (hval 0 22 v0 rfl rfl)
  have k0 := h0
  have k1 := h1
  have k2 := h2
  have lt0 : ∀ x ∈ p0, x.block < W.heap.size := by obtain ⟨m, hm⟩ := k0; exact DataW.trod_lt m _ _ _ hm
  have lt1 : ∀ x ∈ p1, x.block < W.heap.size := by obtain ⟨m, hm⟩ := k1; exact DataW.trod_lt m _ _ _ hm
  have lt2 : ∀ x ∈ p2, x.block < W.heap.size := by obtain ⟨m, hm⟩ := k2; exact DataW.trod_lt m _ _ _ hm
  have hwt0 := oweights_of (j := 0) hsz (by rw [Tryz.params3]; rfl) rfl
  obtain ⟨fuel0, hf0⟩ := h0
  obtain ⟨bv, l, f3, hLS⟩ := srcs_arg hf0 hwt0
  simp only [Value.cells, List.cons.injEq, and_true] at f3
  have hbv : bv = .slice a0 len0 cap0 := by simpa using f3.symm
  subst hbv
  have hAL := laid_all hL hsh
  clear hA0 hval0 hsz
  refine (law_any l _ n t W hAL.1 hAL.2 hLS).mono fun e W' ⟨he, bel⟩ => ?_
  subst he
  exact ⟨_, rfl, _, _, _, [], _, [], hW', trodAll_mk1 (shut_bool Tryz.underlying4 _), (trodAll_cons_mk (Below.trod laidOut (by kernel_rfl) (of_decide_eq_true (by kernel_rfl)) k0 bel lt0) (trodAll_cons_mk (Below.trod laidOut (by kernel_rfl) (of_decide_eq_true (by kernel_rfl)) k1 bel lt1) (trodAll_cons_mk (Below.trod laidOut (by kernel_rfl) (of_decide_eq_true (by kernel_rfl)) k2 bel lt2) trodAll_mk0))), rfl, bel.frame _, fun h => by cases h⟩

theorem dead_said : Rows.FairDeadSaid :=
  OpenClaim.holds_of_wide 3 Tryz.f3 rfl rfl rfl rfl rfl rfl rfl ⟨rfl, rfl, rfl, rfl, rfl⟩ rfl rfl rfl rfl rfl (by kernel_rfl) Tryz.func3 dead_closed
    (of_decide_eq_true (by kernel_rfl)) (by unfold Func.isWrapper; rw [if_neg (of_decide_eq_false (by kernel_rfl))]; exact ⟨rfl, rfl⟩)
    (fun os started H enc _ => dead_lifted os started H enc)

theorem dead_card : Rows.FairDeadCardSaid :=
  Claim7.holds_tied_plain_at .later [] _ _ _ _
    dead_said (fun _ h => by cases h) (by kernel_rfl) (fun _ h => by cases h) fairDead_row_tie rfl ⟨rfl, rfl⟩ (by kernel_rfl) rfl
    (fun f fn hf hfn => by
      obtain rfl : f = 3 := Option.some.inj ((show Tryz.prog.funcNamed "platelayer/pllaw12.FairDead" = some 3 by kernel_rfl).symm.trans hf) |>.symm
      obtain rfl : fn = Tryz.f3 := (Option.some.inj (Tryz.func3.symm.trans hfn)).symm
      exact ⟨by kernel_rfl, fun j t ht => by
        rw [Tryz.params3] at ht
        have hm : t ∈ [22, 3, 3] := by simpa using Array.mem_of_getElem? ht
        have hall : (([22, 3, 3] : List TypeId).all fun u => !Tryz.prog.wantsStandIn u) = true := by kernel_rfl
        exact (show Tryz.prog.wantsStandIn t = false by simpa using List.all_eq_true.1 hall t hm)⟩)
    (by kernel_rfl)
#print axioms dead_card

end Go.Proofs.YtbpoiajpcahdhaaGreatDoor.Wi
