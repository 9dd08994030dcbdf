/- PROVED: 'ObjTells' answers true for every object and all bytes, the arguments read behind the call as they read before it. No other condition. -/
import Derived.Test.YtobdcnpifbnjaacOcArg
import Derived.Test.YtobdcnpifbnjaacOrL
import Derived.OpenShut
import Derived.Stop.Joined
import Derived.ShutString
import Derived.ChangeOld
namespace Go.Proofs.Ytobdcnpifbnjaac
open Go.ChangeShapes Go.WideShapes Go.ChangeAt Go.RowKit Go.Joins

theorem own : ownKnob Try.prog.godebug = none := by kernel_rfl
theorem laidOut : laidOutB Try.prog = true := by kernel_rfl

set_option maxRecDepth 100000 in
theorem tells_lifted (os : Os) (started : os.Started) (H : Type) (enc : TypeId × Value → H) :
    ReturnsInHanded {} Try.checked os 3 .any (Rows.objTellsSpec.pre6 enc Try.prog Try.f3 Rows.objTellsRow.domain false) (Rows.objTellsSpec.post enc Try.prog Try.f3 false true false false) := by
  refine returnsInHanded_of_change_sized (C := Try.checked) own started (by kernel_rfl) Try.func3
    (ChangeSpec.witness6 (enc := enc) (C := Try.checked) false ⟨#[], #[.agg #[.slice none 0 0, .slice none 0 0, .slice none 0 0], .slice none 0 0], []⟩ 8 (by kernel_rfl) (by kernel_rfl) (by kernel_rfl) (by kernel_rfl)) ?_
  intro W base args ds gs before hval0 hW _ hsz _
  have hval : ∀ (j : Nat) t v, Try.f3.params[j]? = some t → args[j]? = some v → Value.okWide Try.prog W .any base t v := hval0
  have hW' := hW
  obtain ⟨p, q, hA0, hV, rfl, hfz, hnd⟩ := hW
  have hA : DataW.TrodAll enc Try.prog W 0 (fun _ => true) true Try.f3.params.toList args.toList ds p := hA0
  rw [Try.params3] at hA hval
  obtain ⟨v0, vs0, d0, ds0, p0, q0, hargs, rfl, rfl, h0, r0⟩ := trodAll_cons hA
  obtain ⟨v1, vs1, d1, ds1, p1, q1, rfl, rfl, rfl, h1, r1⟩ := trodAll_cons r0
  obtain ⟨rfl, rfl, rfl⟩ := trodAll_nil r1
  obtain rfl : args = #[v0, v1] := by cases args; simp_all
  obtain ⟨rfl, rfl⟩ := trodVars_none hV
  have k0 := h0
  have k1 := h1
  have lt0 : ∀ x ∈ p0, x.block < W.heap.size := by obtain ⟨m, hm⟩ := k0; exact DataW.trod_lt m _ _ _ hm
  have lt1 : ∀ x ∈ p1, x.block < W.heap.size := by obtain ⟨m, hm⟩ := k1; exact DataW.trod_lt m _ _ _ hm
  have hwt0 := oweights_of (j := 0) hsz (by rw [Try.params3]; rfl) rfl
  have hwt1 := oweights_of (j := 1) hsz (by rw [Try.params3]; rfl) rfl
  obtain ⟨c0, c1, c2, y0, y1, y2, mm, rfl, e0, e1, g0, g1, g2⟩ := open_agg3 Try.underlying26 (by kernel_rfl) ocells_ob (hval 0 26 v0 rfl rfl) h0
  obtain ⟨cv, cl, f0, hcb, hcl⟩ := bytes_arg g0 (fun n hn => hwt0 n (by
    rw [e0, DataW.weights, Try.underlying26]
    simp [DataW.weightsEach, hn]))
  obtain ⟨sv, sl, f1, hsb, hsl, hnm⟩ := syms_arg g1 (fun n hn => hwt0 n (by
    rw [e0, DataW.weights, Try.underlying26]
    simp [DataW.weightsEach, hn]))
  obtain ⟨rv, rl, f2, hrb, hrl⟩ := rels_arg g2 (fun n hn => hwt0 n (by
    rw [e0, DataW.weights, Try.underlying26]
    simp [DataW.weightsEach, hn]))
  simp only [List.cons.injEq, and_true] at f0 f1 f2
  subst f0 f1 f2
  obtain ⟨a1, len1, cap1, rfl⟩ := okWide_slice Try.underlying22 (hval 1 22 v1 rfl rfl)
  obtain ⟨fuel1, hf1⟩ := h1
  obtain ⟨bv, bl, f3, hbb, hbl⟩ := bytes_arg hf1 hwt1
  simp only [Value.cells, List.cons.injEq, and_true] at f3
  clear hA0 hval0
  have hbv : RB W W.heap.size (.slice a1 len1 cap1) bl := by
    have : bv = .slice a1 len1 cap1 := by simpa using f3.symm
    rw [← this]; exact hbb
  refine (tells_any ⟨cl, sl, rl⟩ bl _ _ _ _ W ⟨hcb.bytes (Nat.le_refl _) (by unfold maxLen; omega), hsb, hrb⟩ hbv (by omega) hnm (by show cl.length ≤ _; omega) (by show sl.length * 24 ≤ _; omega) (by show rl.length * 40 ≤ _; omega)).mono fun e W' ⟨he, bel⟩ => ?_
  subst he
  exact ⟨_, rfl, _, _, _, [], _, [], hW', trodAll_mk1 (shut_bool Try.underlying4 _), (trodAll_cons_mk (Below.trod laidOut (by kernel_rfl) (of_decide_eq_true (by kernel_rfl)) k0 bel lt0) (trodAll_cons_mk (Below.trod laidOut (by kernel_rfl) (of_decide_eq_true (by kernel_rfl)) k1 bel lt1) trodAll_mk0)), rfl, bel.frame _, fun h => by cases h⟩

theorem tells_holds : Rows.ObjTellsSaid :=
  OpenClaim.holds_of_wide 3 Try.f3 rfl rfl rfl rfl rfl rfl rfl ⟨rfl, rfl, rfl, rfl, rfl⟩ rfl rfl rfl rfl rfl (by kernel_rfl) Try.func3 (by kernel_rfl)
    (of_decide_eq_true (by kernel_rfl)) (by unfold Func.isWrapper; rw [if_neg (of_decide_eq_false (by kernel_rfl))]; exact ⟨rfl, rfl⟩)
    (fun os started H enc _ => tells_lifted os started H enc)
#print axioms tells_holds

end Go.Proofs.Ytobdcnpifbnjaac
