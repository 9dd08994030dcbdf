/- What a slice of bytes among the arguments reads as. -/
import Derived.Test.YtajeijhmlkbjgaaDoorLinesB
import Derived.Test.YtajeijhmlkbjgaaDoorFrame
namespace Go.Proofs.YtajeijhmlkbjgaaDoor
open Go.ChangeShapes Go.WideShapes Go.ChangeAt Go.RowKit Go.Joins

/-- What the reading of a slice of bytes gives: its cells, and a bound on its length. -/
theorem bytes_row {H : Type} {enc : TypeId × Value → H} {W : World} {base : Nat} {spare : Nat → Bool} {held : Bool} {a : Option Addr} {len cap : Nat} {d : DataW H} {ps : List MemPlace}
    (h : DataW.Trod enc Tryd.prog W base spare held 24 (.slice a len cap) d ps) {ts : List TypeId} {ds : List (DataW H)} {j : Nat} (ht : ts[j]? = some 24) (hd : ds[j]? = some d)
    (hsz : (DataW.weightsEach Tryd.prog ts ds).all (· ≤ reachBytes) = true) :
    len ≤ 140737488351232 ∧ ∃ bs : Nat → Int, (∀ i, 0 ≤ bs i ∧ bs i ≤ 255) ∧ (0 < len → ∃ b off, a = some ⟨b, off, none⟩ ∧ ∀ i, i < len → W.cell? ⟨b, off + i, none⟩ = some (.int .u8 (bs i))) := by
  obtain ⟨fuel, hf⟩ := h
  rcases open_ints Tryd.underlying24 Tryd.underlying5 (by kernel_rfl) hf with ⟨hcs, _⟩ | ⟨x, l, c, zs, hcs, _, hl, hm, hz, hx, hcell, hwz⟩
  · simp [Value.cells] at hcs
    obtain ⟨rfl, rfl, rfl⟩ := hcs
    exact ⟨by omega, fun _ => 0, fun _ => by simp, fun h => by omega⟩
  · simp [Value.cells] at hcs
    obtain ⟨rfl, rfl, rfl⟩ := hcs
    have hlen : len ≤ zs.length := by rw [hz]; split <;> omega
    have hdd : d = .slice (lits .u8 (zs.take len)) (lits .u8 (zs.drop len)) := by simpa using congrArg Prod.fst hx
    have hs := sized_slice hsz ht (hdd ▸ hd) Tryd.underlying24
    have hb1 : Tryd.prog.bytesOf 5 = 1 := by kernel_rfl
    rw [hb1] at hs
    have hr : reachBytes = 140737488351232 := rfl
    simp [lits] at hs
    refine ⟨by omega, fun i => zs.getD i 0, ?_, ?_⟩
    · intro i
      show 0 ≤ zs.getD i 0 ∧ zs.getD i 0 ≤ 255
      by_cases hi : i < zs.length
      · have hw := hwz (zs.getD i 0) (by rw [List.getD_eq_getElem?_getD, List.getElem?_eq_getElem hi]; simp)
        have := bounds_u8 hw
        omega
      · have : zs.getD i 0 = 0 := by rw [List.getD_eq_getElem?_getD, List.getElem?_eq_none (by omega)]; rfl
        rw [this]; omega
    · intro h0
      obtain ⟨b, off, spot⟩ := x
      have hc := hcell 0 (by omega)
      have hspot : spot = none := by simpa [Addr.add] using World.cell?_spot hc
      subst hspot
      refine ⟨b, off, rfl, fun i hi => ?_⟩
      have hadd : (⟨b, off, none⟩ : Addr).add i = ⟨b, off + i, none⟩ := by
        unfold Addr.add
        split
        · simp_all
        · rfl
      rw [← hadd]
      exact hcell i (by omega)

theorem bytes_read {H : Type} {enc : TypeId × Value → H} {W : World} {base : Nat} {spare : Nat → Bool} {held : Bool} {a : Option Addr} {len cap : Nat} {d : DataW H} {ps : List MemPlace}
    (h : DataW.Trod enc Tryd.prog W base spare held 24 (.slice a len cap) d ps) {ts : List TypeId} {ds : List (DataW H)} {j : Nat} (ht : ts[j]? = some 24) (hd : ds[j]? = some d)
    (hsz : (DataW.weightsEach Tryd.prog ts ds).all (· ≤ reachBytes) = true) :
    len ≤ 140737488351232 ∧ ∃ bs : List UInt8, bs.length = len ∧ BReads W (.slice a len cap) bs := by
  obtain ⟨hlen, f, hf, hrow⟩ := bytes_row h ht hd hsz
  refine ⟨hlen, (List.range len).map fun i => UInt8.ofNat (f i).toNat, by simp, a, cap, by simp, by simp [maxLen]; omega, ?_⟩
  simp only [List.length_map, List.length_range]
  intro h0
  obtain ⟨b, off, rfl, hc⟩ := hrow h0
  refine ⟨b, off, rfl, ?_, fun i hi => ?_⟩
  · have h1 := hc 0 h0
    exact World.block_lt_of_cell? W _ h1
  · rw [hc i hi]
    have h2 := hf i
    simp
    omega

end Go.Proofs.YtajeijhmlkbjgaaDoor
