/- The contract of package expr's Print. -/
import Derived.Test.YtibenegbjpoclabDoorPrG
namespace Go.Proofs.YtibenegbjpoclabDoor
open Go.RowKit

set_option maxHeartbeats 2000000 in
set_option maxRecDepth 100000 in
theorem print_any {e : Ex} (kv : Value) (w : World) (p : Nat → Prop) (hW : Wf e) (hL : KLaid w) (hT : Lib.TabIs Tryd.prog w "internal/strconv.uint64pow10" .u64 Lib.pow10Tab) (hs : 1 < w.heap.size) (hk : KR w p kv e.kids) (hl : (prE e).length ≤ 140737488355328) :
    Calls Tryd.prog 13 #[exV e kv] w fun en w' => en = .returned (.string ⟨(prE e).toArray⟩) ∧ Below w.heap.size w w' := by
  obtain ⟨ad, cap, rfl⟩ := hk.shape
  obtain ⟨W, hw⟩ : ∃ W, W = ((w.alloc (.cells #[.int .i64 e.kind, .int .i64 e.n, .string ⟨e.name.toArray⟩, .slice ad e.kids.length cap] 25)).alloc (.cells #[.pointer none, .slice none 0 0] 73)).alloc (.cells #[putV (w.heap.size + 1) (w.heap.size + 2)] 74) := ⟨_, rfl⟩
  have hb : Below w.heap.size w W := by rw [hw]; exact (((Below.refl _ _).alloc (Nat.le_refl _) _).alloc (by simp) _).alloc (by simp; omega) _
  have hz : W.heap.size = w.heap.size + 3 := by rw [hw]; simp
  have hbld : W.heap[w.heap.size + 1]? = some (.cells #[.pointer none, .slice none 0 0] 73 (0, 0)) := by rw [hw, Below.heap_alloc _ _ _ (by simp)]; exact new_at _ (by simp)
  have hfn : W.heap[w.heap.size + 2]? = some (.cells #[putV (w.heap.size + 1) (w.heap.size + 2)] 74 (0, 0)) := by rw [hw]; exact new_at _ (by simp)
  have hM : PrM W w.heap.size (w.heap.size + 1) (w.heap.size + 2) [] :=
    ⟨Or.inl ⟨Nat.le_succ _, .slice none 0 0, hbld, World.ownsRowF_nil _ _ _ _, by simp [Value.ownBlock]⟩, hfn, by omega, hL.below hb (by omega), tab_below hT hb hs, hs, by omega⟩
  have hkW : KR W (fun k => k < w.heap.size) (.slice ad e.kids.length cap) e.kids := hk.keep fun b _ hlt => ⟨hlt, by omega, fun o => hb.cell (by exact hlt)⟩
  have hcall := put_any w.heap.size (w.heap.size + 1) (w.heap.size + 2) hW _ [] W hM hkW (by simpa using hl)
  have hent : ∀ args w, (callFunc 27 args).run Tryd.prog w = .ok (.enter 27 args) w := enters_of Tryd.func27 (by kernel_rfl) rfl
  have HB : Hid (Below w.heap.size w W) := hb
  simp only [exV, List.nil_append] at hcall ⊢
  clear hk hL hT hb hbld hfn hM hkW
  go_enter Tryd.func13, Tryd.ntmps13
  go_wp2_with fail
  simp only [putV] at hw
  rw [← hw]
  refine hcall.mono ?_
  rintro en w1 ⟨rfl, hM1, hN1⟩
  have hstr := Any.Builder_String_any_k Tryd.lays169 Tryd.Builder_Extra_169 w.heap.size (w.heap.size + 1) (prE e) w1 hM1.bld hM1.le
  have HB1 : Hid (Below w.heap.size w w1) := HB.out.trans hN1.bel
  clear hcall hM1 hN1 hw HB
  go_wp2_with fail
  refine hstr.mono ?_
  rintro en w2 ⟨rfl, _, hb2, _⟩
  have HB2 : Hid (Below w.heap.size w w2) := HB1.out.trans hb2
  clear hstr hb2 HB1
  go_wp2
  go_ret
  exact ⟨rfl, HB2.out⟩

end Go.Proofs.YtibenegbjpoclabDoor
