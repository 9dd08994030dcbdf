/- PROVED: 'WireTurns' answers true for every message and all bytes, the arguments read behind the call as they read before it; the table of widths of package wire is tied to the program's text. No other condition. -/
import Derived.Test.YtmbjahjkgjkbhaaDoorWrArg
namespace Go.Proofs.YtmbjahjkgjkbhaaDoor
open Go.ChangeShapes Go.WideShapes Go.ChangeAt Go.RowKit Go.Joins

theorem wturns_any (m : Ms) (ad : Option Addr) (cap : Nat) (l : List UInt8) (v : Value) (w : World) (hM : RB w w.heap.size (.slice ad m.data.length cap) m.data) (hMl : m.data.length ≤ 140737488351232) (hv : RB w w.heap.size v l) (hl : l.length ≤ 140737488351232) (hW : WL w) :
    Calls Tryd.prog 4 #[msV m (.slice ad m.data.length cap), v] w fun e w' => e = .returned (.bool true) ∧ Below w.heap.size w w' := by
  have hD := hM.bytes (Nat.le_refl _) (by unfold maxLen; omega)
  obtain ⟨bad, bcap, rfl, h2⟩ := id hv
  by_cases hw : wrongM m = 0
  · cases hp : parseM l with
    | ok q => exact turns_gg m ad cap l bad bcap w hD hv (by omega) hW hw q hp
    | error q => exact turns_ge m ad cap l bad bcap w hD hv (by omega) hW hw q hp
  · cases hp : parseM l with
    | ok q => exact turns_bg m ad cap l bad bcap w hD hv (by omega) hW hw q hp
    | error q => exact turns_be m ad cap l bad bcap w hD hv (by omega) hW hw q hp

set_option maxRecDepth 100000 in
theorem wturns_lifted (os : Os) (started : os.Started) (H : Type) (enc : TypeId × Value → H) :
    ReturnsInHanded {} Tryd.checked os 4 .any (fun w args => (Rows.wireTurnsSpec.pre enc Tryd.prog Tryd.f4 [] false w args ∧ laidMetH Tryd.prog laidL w) ∧ sizedMet enc Tryd.prog Tryd.f4 (OpenSpec.ofChange Rows.wireTurnsSpec) false w args)
      (Rows.wireTurnsSpec.post enc Tryd.prog Tryd.f4 false true false false) := by
  refine returnsInHanded_of_change_and (C := Tryd.checked) (X := fun w _ => laidMetH Tryd.prog laidL w) (fun _ _ _ hh h => h.of_heap hh) own started (by kernel_rfl) Tryd.func4
    (ChangeSpec.witness_shaped (enc := enc) (C := Tryd.checked) (os := os) (X := fun w _ => laidMetH Tryd.prog laidL w) false (World.doorLaid Tryd.prog 400 os) #[.agg #[.int .i64 0, .int .i64 0, .int .i64 0, .int .i64 0, .int .i64 0, .int .i64 0, .slice none 0 0], .slice none 0 0] 8 rfl (World.shaped_of_RefB (by kernel_rfl) (by kernel_rfl)) (by kernel_rfl) (by kernel_rfl) (by kernel_rfl) (door_met os _)) ?_
  intro W base args ds gs before hval0 hW _ hsz hL _
  have hval : ∀ (j : Nat) t v, Tryd.f4.params[j]? = some t → args[j]? = some v → Value.okWide Tryd.prog W .any base t v := hval0
  have hW' := hW
  obtain ⟨p, q, hA0, hV, rfl, hfz, hnd⟩ := hW
  have hA : DataW.TrodAll enc Tryd.prog W 0 (fun _ => true) true Tryd.f4.params.toList args.toList ds p := hA0
  rw [Tryd.params4] at hA hval
  obtain ⟨v0, vs0, d0, ds0, p0, q0, hargs, rfl, rfl, h0, r0⟩ := trodAll_cons hA
  obtain ⟨v1, vs1, d1, ds1, p1, q1, rfl, rfl, rfl, h1, r1⟩ := trodAll_cons r0
  obtain ⟨rfl, rfl, rfl⟩ := trodAll_nil r1
  obtain rfl : args = #[v0, v1] := by cases args; simp_all
  obtain ⟨rfl, rfl⟩ := trodVars_none hV
  obtain ⟨cs0, rfl, hsz0⟩ := okWide_struct Tryd.underlying27 (hval 0 27 v0 rfl rfl)
  have k0 := h0
  have lt0 : ∀ x ∈ p0, x.block < W.heap.size := by obtain ⟨m, hm⟩ := k0; exact DataW.trod_lt m _ _ _ hm
  have hwt0 := oweights_of (j := 0) hsz (by rw [Tryd.params4]; rfl) rfl
  obtain ⟨fuel0, hf0⟩ := h0
  obtain ⟨m, ad, cap, hcs, hM, hMl⟩ := msg_arg hf0 hwt0
  obtain rfl : cs0 = msC m (.slice ad m.data.length cap) := by
    have : cs0.toList = (msC m (.slice ad m.data.length cap)).toList := hcs
    exact Array.toList_inj.1 this
  obtain ⟨a1, len1, cap1, rfl⟩ := okWide_slice Tryd.underlying25 (hval 1 25 v1 rfl rfl)
  have k1 := h1
  have lt1 : ∀ x ∈ p1, x.block < W.heap.size := by obtain ⟨m, hm⟩ := k1; exact DataW.trod_lt m _ _ _ hm
  have hwt1 := oweights_of (j := 1) hsz (by rw [Tryd.params4]; rfl) rfl
  obtain ⟨fuel1, hf1⟩ := h1
  obtain ⟨bv, bl, f3, hbb, hbl⟩ := bytes_arg hf1 hwt1
  simp only [Value.cells, List.cons.injEq, and_true] at f3
  have hbv : bv = .slice a1 len1 cap1 := by simpa using f3.symm
  subst hbv
  have hLd := wl_of hL
  clear hA0 hval0
  refine (wturns_any m ad cap bl _ W hM hMl hbb hbl hLd).mono fun e W' ⟨he, bel⟩ => ?_
  subst he
  exact ⟨_, rfl, _, _, _, [], _, [], hW', trodAll_mk1 (shut_bool Tryd.underlying4 _), (trodAll_cons_mk (Below.trod laidOut (by kernel_rfl) (of_decide_eq_true (by kernel_rfl)) k0 bel lt0) (trodAll_cons_mk (Below.trod laidOut (by kernel_rfl) (of_decide_eq_true (by kernel_rfl)) k1 bel lt1) trodAll_mk0)), rfl, bel.frame _, fun h => by cases h⟩

theorem wturns_said : Rows.WireTurnsSaid :=
  OpenClaim.holds_of_wide 4 Tryd.f4 rfl rfl rfl rfl rfl rfl rfl ⟨rfl, rfl, rfl, rfl, rfl⟩ rfl rfl rfl rfl rfl (by kernel_rfl) Tryd.func4 (by kernel_rfl)
    (of_decide_eq_true (by kernel_rfl)) (by unfold Func.isWrapper; rw [if_neg (of_decide_eq_false (by kernel_rfl))]; exact ⟨rfl, rfl⟩)
    (fun os started H enc _ => wturns_lifted os started H enc)

theorem wturns_card : Rows.WireTurnsCardSaid :=
  Claim7.holds_tied_plain_at .later [] _ _ _ _
    wturns_said (fun _ h => by cases h) (by kernel_rfl) (fun _ h => by cases h) wireTurns_row_tie rfl ⟨rfl, rfl⟩ (by kernel_rfl) rfl
    (fun f fn hf hfn => by
      obtain rfl : f = 4 := Option.some.inj ((show Tryd.prog.funcNamed "platelayer/pllaw10.WireTurns" = some 4 by kernel_rfl).symm.trans hf) |>.symm
      obtain rfl : fn = Tryd.f4 := (Option.some.inj (Tryd.func4.symm.trans hfn)).symm
      exact ⟨by kernel_rfl, fun j t ht => by
        rw [Tryd.params4] at ht
        have hm : t ∈ [27, 25] := by simpa using Array.mem_of_getElem? ht
        have hall : ([27, 25].all fun u => !Tryd.prog.wantsStandIn u) = true := by kernel_rfl
        exact (show Tryd.prog.wantsStandIn t = false by simpa using List.all_eq_true.1 hall t hm)⟩)
    (by kernel_rfl)
#print axioms wturns_card

end Go.Proofs.YtmbjahjkgjkbhaaDoor
