/- PROVED: 'TopMacro' answers true for every list of numbers, the arguments read behind the call as they read before it; the listed variables are tied to the program's text. No other condition. -/
import Derived.Test.YtgjmbjahgcndnaaGreatDoorPut51
import Derived.Test.YtgjmbjahgcndnaaGreatDoorPut50
set_option maxRecDepth 100000
namespace Go.Proofs.YtgjmbjahgcndnaaGreatDoor
open Go.ChangeShapes Go.WideShapes Go.ChangeAt Go.RowKit Go.Joins
theorem qLp {H : Type} {enc : TypeId × Value -> H} {W : World} {base : Nat} {spare : Nat -> Bool} {held : Bool} {a : Option Addr} {len cap : Nat} {d : DataW H} {ps : List MemPlace}
  (h : DataW.Trod enc Tryz.prog W base spare held 22 (.slice a len cap) d ps) {ts : List TypeId} {ds : List (DataW H)} {j : Nat} (ht : ts[j]? = some 22) (hd : ds[j]? = some d)
  (hsz : (DataW.weightsEach Tryz.prog ts ds).all (· <= reachBytes) = true) :
  ∃ l : List Int, l.length = len /\ IRd W a l := by
 obtain ⟨fuel, hf⟩ := h
 rcases open_ints Tryz.underlying22 Tryz.underlying3 (by kernel_rfl) hf with ⟨hcs, _⟩ | ⟨x, l, c, zs, hcs, _, hl, hm, hz, hx, hcell, hwz⟩
 ·simp [Value.cells] at hcs
  obtain ⟨rfl, rfl, rfl⟩ := hcs
  exact ⟨[], rfl, by simp, by simp, by simp⟩
 ·simp [Value.cells] at hcs
  obtain ⟨rfl, rfl, rfl⟩ := hcs
  have hlen : len <= zs.length := by rw [hz]; split <;> omega
  have hdd : d = .slice (lits .i64 (zs.take len)) (lits .i64 (zs.drop len)) := by simpa using congrArg Prod.fst hx
  have hs := sized_slice hsz ht (hdd ▸ hd) Tryz.underlying22
  have hb1 : Tryz.prog.bytesOf 3 = 8 := by kernel_rfl
  rw [hb1] at hs
  have hr : reachBytes = 140737488351232 := rfl
  simp [lits] at hs
  refine ⟨zs.take len, by simp; omega, ?_, by simp; omega, ?_⟩
  ·intro n hn
   have hw := hwz n (List.mem_of_mem_take hn)
   exact bounds_i64 hw
  ·intro h0
   have h0' : 0 < len := by simp at h0; omega
   obtain ⟨b, off, spot⟩ := x
   have hc := hcell 0 (by omega)
   have hspot : spot = none := by simpa [Addr.add] using World.cell?_spot hc
   subst hspot
   have hadd : ∀ i, (⟨b, off, none⟩ : Addr).add i = ⟨b, off + i, none⟩ := fun i => by
    unfold Addr.add
    split
    ·simp_all
    ·rfl
   refine ⟨b, off, rfl, ?_, fun i hi => ?_⟩
   ·exact World.block_lt_of_cell? W _ hc
   ·have hi' : i < len := by simp at hi; omega
    have hc2 := hcell i (by omega)
    rw [hadd] at hc2
    rw [hc2]
    simp [List.getElem_take, List.getD_eq_getElem?_getD, List.getElem?_eq_getElem (show i < zs.length by omega)]
theorem qFu (os : Os) (started : os.Started) (H : Type) (enc : TypeId × Value -> H) :
  ReturnsInHanded {} Tryz.checked os 3 .any (fun w args => (Rows.topMacroSpec.pre enc Tryz.prog Tryz.f3 [] false w args /\ laidMetH Tryz.prog qGS w) /\ sizedMet enc Tryz.prog Tryz.f3 (OpenSpec.ofChange Rows.topMacroSpec) false w args)
   (Rows.topMacroSpec.post enc Tryz.prog Tryz.f3 false true false false) := by
 refine qCt (C := Tryz.checked) (X := fun w _ => laidMetH Tryz.prog qGS w) (fun _ _ _ hh h => h.of_heap hh) own started (by kernel_rfl) Tryz.func3
  (ChangeSpec.witness_shaped (enc := enc) (C := Tryz.checked) (os := os) (X := fun w _ => laidMetH Tryz.prog qGS w) false (World.laidAll Tryz.prog os qGS) #[.slice none 0 0] 8 (World.laidAll_os _ _ _)
   (World.shaped_of_ZipB (by kernel_rfl) (by kernel_rfl)) (by kernel_rfl) (by kernel_rfl) (by kernel_rfl) (wit os _)) ?_
 intro W base args ds gs before hval0 hW hsz hL hsh
 have hval : ∀ (j : Nat) t v, Tryz.f3.params[j]? = some t -> args[j]? = some v -> Value.okWide Tryz.prog W .any base t v := hval0
 have hW' := hW
 obtain ⟨p, q, hA0, hV, rfl, hfz, hnd⟩ := hW
 have hA : DataW.TrodAll enc Tryz.prog W 0 (fun _ => true) true Tryz.f3.params.toList args.toList ds p := hA0
 rw [Tryz.params3] at hA hval
 obtain ⟨v0, vs0, d0, ds0, p0, q0, hargs, rfl, rfl, h0, r0⟩ := trodAll_cons hA
 obtain ⟨rfl, rfl, rfl⟩ := trodAll_nil r0
 obtain rfl : args = #[v0] := by cases args; simp_all
 obtain ⟨rfl, rfl⟩ := trodVars_none hV
 obtain ⟨a0, len0, cap0, rfl⟩ := okWide_slice Tryz.underlying22 (hval 0 22 v0 rfl rfl)
 have k0 := h0
 have lt0 : ∀ x ∈ p0, x.block < W.heap.size := by obtain ⟨m, hm⟩ := k0; exact DataW.trod_lt m _ _ _ hm
 obtain ⟨al, rfl, hal⟩ := qLp (j := 0) k0 (by rw [Tryz.params3]; rfl) rfl hsz
 clear hA0 hval0
 refine (qK2 a0 cap0 al W (all_of hL hsh) hal).mono fun e W' ⟨he, bel⟩ => ?_
 subst he
 exact ⟨_, rfl, _, _, _, [], _, [], hW', trodAll_mk1 (shut_bool Tryz.underlying4 _), (trodAll_cons_mk (Below.trod laidOut (by kernel_rfl) (of_decide_eq_true (by kernel_rfl)) k0 bel lt0) trodAll_mk0), rfl, bel.frame _, fun h => by cases h⟩
theorem qI6 : Rows.TopMacroSaid :=
 OpenClaim.holds_of_wide 3 Tryz.f3 rfl rfl rfl rfl rfl rfl rfl ⟨rfl, rfl, rfl, rfl, rfl⟩ rfl rfl rfl rfl rfl (by kernel_rfl) Tryz.func3 qGA
  (of_decide_eq_true (by kernel_rfl)) (by unfold Func.isWrapper; rw [if_neg (of_decide_eq_false (by kernel_rfl))]; exact ⟨rfl, rfl⟩)
  (fun os started H enc _ => qFu os started H enc)
theorem macro_card : Rows.TopMacroCardSaid :=
 Claim7.holds_tied_plain_at .later [] _ _ _ _
  qI6 (fun _ h => by cases h) (by kernel_rfl) (fun _ h => by cases h) topMacro_row_tie rfl ⟨rfl, rfl⟩ (by kernel_rfl) rfl
  (fun f fn hf hfn => by
   obtain rfl : f = 3 := Option.some.inj ((show Tryz.prog.funcNamed "platelayer/pltop.TopMacro" = some 3 by kernel_rfl).symm.trans hf) |>.symm
   obtain rfl : fn = Tryz.f3 := (Option.some.inj (Tryz.func3.symm.trans hfn)).symm
   exact ⟨by kernel_rfl, fun j t ht => by
    rw [Tryz.params3] at ht
    have hm : t ∈ [22] := by simpa using Array.mem_of_getElem? ht
    have hall : (([22] : List TypeId).all fun u => !Tryz.prog.wantsStandIn u) = true := by kernel_rfl
    exact (show Tryz.prog.wantsStandIn t = false by simpa using List.all_eq_true.1 hall t hm)⟩)
  (by kernel_rfl)
#print axioms macro_card
end Go.Proofs.YtgjmbjahgcndnaaGreatDoor
