/- The contract of Text. -/
import Derived.Test.YtgadpimknobljaaDoorDsG
namespace Go.Proofs.YtgadpimknobljaaDoor
open Go.RowKit Isa

set_option maxHeartbeats 4000000 in
theorem text_any {w : World} {ad : Option Addr} {len cap : Nat} {bs : Nat → Int} (hD : DL w) (hR : BR w ad len bs) :
    Calls Tryd.prog 4 #[.slice ad len cap] w fun e w' => e = .returned (.string ⟨(textTo bs len ((len + 1) / 2)).toArray⟩) ∧ Below w.heap.size w w' := by
  have HB0 := Lib.hid (oalloc w (.cells #[.slice ad len cap] 22))
  have HGO := Lib.hid (goals_any (cap := cap) (hD.next HB0.out) (hR.next HB0.out))
  have HEA := Lib.hid (fun (W : World) (g q p c : Nat) (hI : TI bs ad len cap w g q p c (textTo bs len 0) W) => each_any (cap := cap) (w := W) hD hR 13 #[.pointer (some ⟨q, 0, none⟩), .pointer (some ⟨c, 0, none⟩), .pointer (some ⟨p, 0, none⟩)] (by intro args w; rfl) (fun k W => TI bs ad len cap w g q p c (textTo bs len k) W) (fun _ _ h => h.bel) (fun _ _ _ h hb => h.next hb) (fun k a W ha hk h => text1_any hD hR a ha hk h) hI)
  clear hD hR
  have HST := Lib.hid (fun (W : World) (g q p c : Nat) (hI : TI bs ad len cap w g q p c (textTo bs len ((len + 1) / 2)) W) => Tryd.Builder_String_any_k w.heap.size c (textTo bs len ((len + 1) / 2)) W hI.bld hI.bel.size)
  have HNEW : Hid (∀ (W1 : World) (g : Nat), (w.alloc (.cells #[.slice ad len cap] 22)).heap.size ≤ g → Below (w.alloc (.cells #[.slice ad len cap] 22)).heap.size (w.alloc (.cells #[.slice ad len cap] 22)) W1 → BRow W1 g ((len + 1) / 2) (ledB bs len ((len + 1) / 2)) →
      TI bs ad len cap w g W1.heap.size w.heap.size (W1.heap.size + 1) (textTo bs len 0) ((W1.alloc (.cells #[.slice (some ⟨g, 0, none⟩) ((len + 1) / 2) ((len + 1) / 2)] 32)).alloc (.cells #[.pointer none, .slice none 0 0] 36))) := by
    intro W1 g hge hb1 hrow
    have hz := hb1.size
    simp at hz hge
    have hgl := hrow.lt
    have hb2 : Below W1.heap.size W1 ((W1.alloc (.cells #[.slice (some ⟨g, 0, none⟩) ((len + 1) / 2) ((len + 1) / 2)] 32)).alloc (.cells #[.pointer none, .slice none 0 0] 36)) := (oalloc _ _).trans ((oalloc _ _).mono (by simp))
    have hbk : ((W1.alloc (.cells #[.slice (some ⟨g, 0, none⟩) ((len + 1) / 2) ((len + 1) / 2)] 32)).alloc (.cells #[.pointer none, .slice none 0 0] 36)).heap[W1.heap.size + 1]? = some (.cells #[.pointer none, .slice none 0 0] 36 (0, 0)) := by
      have := blk_new (W1.alloc (.cells #[.slice (some ⟨g, 0, none⟩) ((len + 1) / 2) ((len + 1) / 2)] 32)) #[.pointer none, .slice none 0 0] 36
      simpa using this
    refine ⟨(HB0.out.trans (hb1.mono (by simp))).trans (hb2.mono (by omega)), ?_, hrow.go (hb2.block _ hgl), ?_, Or.inl ⟨by omega, .slice none 0 0, hbk, World.ownsRowF_nil _ _ _ _, by simp [Value.ownBlock]⟩, by omega, by omega, by omega⟩
    · rw [(oalloc _ _).block _ (by simp)]
      exact blk_new _ _ _
    · rw [hb2.block _ (by omega), hb1.block _ (by simp)]
      exact blk_new _ _ _
  go_enter Tryd.func4, Tryd.ntmps4
  go_wp2_with (first | (go_at_call 11; refine HGO.out.mono ?_; rintro e W1 ⟨g, rfl, hge, hb1, hrow⟩; have HI0 := Lib.hid (HNEW.out W1 g hge hb1 hrow); have hlt : w.heap.size < W1.heap.size := (by have := hb1.size; simp at this; omega); have c0 := cell_of_block (i := 0) ((hb1.block w.heap.size (by simp)).trans (blk_new _ _ _)) rfl; clear hge hb1 hrow) | (go_at_call 12; refine (HEA.out _ _ _ _ _ HI0.out).mono ?_; rintro e W2 ⟨rfl, hi2⟩; have HS := Lib.hid (HST.out _ _ _ _ _ hi2); have HB2 := Lib.hid hi2.bel; clear hi2) | (go_at_call 17; refine HS.out.mono ?_; rintro e W3 ⟨rfl, _, hb3, _⟩; have HB3 := Lib.hid (HB2.out.trans hb3); clear hb3) | fail)
  go_ret
  exact ⟨rfl, HB3.out⟩

end Go.Proofs.YtgadpimknobljaaDoor
