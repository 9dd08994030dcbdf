/- The document's SameExpr at equal expressions. -/
import Derived.Test.YtibenegbjpoclabDoorReG
namespace Go.Proofs.YtibenegbjpoclabDoor
open Go.RowKit

def SameOK (w0 : World) (va vb : Value) : Prop := ∀ (kind n : Int) (nm : List UInt8) (w : World), Below w0.heap.size w0 w →
  Calls Tryd.prog 8 #[.agg #[.int .i64 kind, .int .i64 n, .string ⟨nm.toArray⟩, va], .agg #[.int .i64 kind, .int .i64 n, .string ⟨nm.toArray⟩, vb]] w fun e w' => e = .returned (.bool true) ∧ Below w.heap.size w w'

set_option maxHeartbeats 4000000 in
set_option maxRecDepth 100000 in
theorem same_loop (w0 : World) (p q : Nat → Prop) (ad bd : Option Addr) (ca cb : Nat) (ks : List Ex) (vi ui : Nat → Value) (hm : ks.length ≤ 2513169434843)
    (hc : 0 < ks.length → ∃ b o, ad = some ⟨b, o, none⟩ ∧ p b ∧ b < w0.heap.size ∧ ∀ i (h : i < ks.length),
        w0.cell? ⟨b, o + i * 4, none⟩ = some (.int .i64 ks[i].kind) ∧ w0.cell? ⟨b, o + i * 4 + 1, none⟩ = some (.int .i64 ks[i].n) ∧ w0.cell? ⟨b, o + i * 4 + 2, none⟩ = some (.string ⟨ks[i].name.toArray⟩) ∧ w0.cell? ⟨b, o + i * 4 + 3, none⟩ = some (vi i))
    (hc2 : 0 < ks.length → ∃ b o, bd = some ⟨b, o, none⟩ ∧ q b ∧ b < w0.heap.size ∧ ∀ i (h : i < ks.length),
        w0.cell? ⟨b, o + i * 4, none⟩ = some (.int .i64 ks[i].kind) ∧ w0.cell? ⟨b, o + i * 4 + 1, none⟩ = some (.int .i64 ks[i].n) ∧ w0.cell? ⟨b, o + i * 4 + 2, none⟩ = some (.string ⟨ks[i].name.toArray⟩) ∧ w0.cell? ⟨b, o + i * 4 + 3, none⟩ = some (ui i))
    (hk : ∀ i (h : i < ks.length), KR w0 p (vi i) ks[i].kids) (hk2 : ∀ i (h : i < ks.length), KR w0 q (ui i) ks[i].kids)
    (ih : ∀ i, i < ks.length → SameOK w0 (vi i) (ui i)) : SameOK w0 (.slice ad ks.length ca) (.slice bd ks.length cb) := by
  intro kind n nm w hB0
  have hz0 := hB0.size
  have HB0 : Hid (Below w0.heap.size w0 w) := hB0
  clear hB0
  go_enter Tryd.func8, Tryd.ntmps8
  go_wp2
  go_loopw [37] (fun i wr => ∃ k : Nat, k ≤ ks.length ∧ i = .int .i64 k ∧ Hid (Below w.heap.size w wr) ∧ w.heap.size + 1 < wr.heap.size ∧ Hid (Var4 wr w.heap.size (.int .i64 kind) (.int .i64 n) (.string ⟨nm.toArray⟩) (.slice ad ks.length ca)) ∧ Hid (Var4 wr (w.heap.size + 1) (.int .i64 kind) (.int .i64 n) (.string ⟨nm.toArray⟩) (.slice bd ks.length cb))) (fun i _ => ks.length - (intOf i).toNat)
  case atStart =>
    refine ⟨0, Nat.zero_le _, rfl, ((Below.refl _ _).alloc (Nat.le_refl _) _).alloc (by simp) _, by simp, (var4_new w _ _ _ _ _).alloc (by simp) _, var4_of (new_at _ (by simp))⟩
  case round =>
    obtain ⟨k, hkl, rfl, HB, hsz, HA, HV⟩ := hrel
    by_cases hlt : k < ks.length
    · have hk1 : (k : Int) < ks.length := by omega
      obtain ⟨b, o, rfl, _, hbl, hcs⟩ := hc (by omega)
      obtain ⟨c0, c1, c2, c3⟩ := hcs k hlt
      obtain ⟨b', o', rfl, _, hbl', hcs'⟩ := hc2 (by omega)
      obtain ⟨d0, d1, d2, d3⟩ := hcs' k hlt
      have hBr : Below w0.heap.size w0 wr := HB0.out.trans (HB.out.mono hz0)
      rw [← hBr.cell (by exact hbl)] at c0 c1 c2 c3
      rw [← hBr.cell (by exact hbl')] at d0 d1 d2 d3
      obtain ⟨ad2, cap2, hvi⟩ := (hk k hlt).shape
      obtain ⟨bd2, bcap2, hui⟩ := (hk2 k hlt).shape
      have hcall := ih k hlt ks[k].kind ks[k].n ks[k].name wr.drew (hBr.trans (Below.refl _ _).drew)
      rw [hvi, hui] at hcall
      rw [hvi] at c3
      rw [hui] at d3
      obtain ⟨⟨_, _, _, e3⟩, _⟩ := HA.out
      obtain ⟨⟨_, _, _, g3⟩, _⟩ := HV.out
      clear hcs hcs' hvi hui hBr
      go_wp2
      go_region_with (go_at_call 8; refine hcall.mono ?_; rintro e w2 ⟨rfl, hb2⟩)
      all_goals
        have HB2 : Hid (Below w.heap.size w w2) := (HB.out.trans (Below.refl _ _).drew).trans (hb2.mono (by show _ ≤ wr.heap.size; omega))
        have hs2 : w.heap.size + 1 < w2.heap.size := Nat.lt_of_lt_of_le hsz hb2.size
        have HA2 : Hid (Var4 w2 w.heap.size (.int .i64 kind) (.int .i64 n) (.string ⟨nm.toArray⟩) (.slice (some ⟨b, o, none⟩) ks.length ca)) := HA.out.keep (hb2.block _ (by show _ < wr.heap.size; omega))
        have HV2 : Hid (Var4 w2 (w.heap.size + 1) (.int .i64 kind) (.int .i64 n) (.string ⟨nm.toArray⟩) (.slice (some ⟨b', o', none⟩) ks.length cb)) := HV.out.keep (hb2.block _ (by show _ < wr.heap.size; omega))
        clear hb2
        go_wp2
        exact ⟨⟨k + 1, by omega, by go_num, HB2, hs2, HA2, HV2⟩, by simp [intOf]; omega⟩
    · have hk1 : ¬ (k : Int) < ks.length := by omega
      go_wp2
      go_ret
      exact ⟨rfl, HB.out⟩

theorem same_kr (w0 : World) (p q : Nat → Prop) {va vb : Value} {ks : List Ex} (h : KR w0 p va ks) : KR w0 q vb ks → SameOK w0 va vb := by
  induction h generalizing vb with
  | mk ad cap ks vi hm hc hk ih =>
    intro h2
    cases h2 with
    | mk bd cb _ ui hm2 hc2 hk2 => exact same_loop w0 p q ad bd cap cb ks vi ui hm hc hc2 hk hk2 (fun i hi => ih i hi (hk2 i hi))

theorem same_any (x : Ex) (va vb : Value) (w : World) (p q : Nat → Prop) (ha : KR w p va x.kids) (hb : KR w q vb x.kids) :
    Calls Tryd.prog 8 #[exV x va, exV x vb] w fun e w' => e = .returned (.bool true) ∧ Below w.heap.size w w' :=
  same_kr w p q ha hb x.kind x.n x.name w (Below.refl _ _)

end Go.Proofs.YtibenegbjpoclabDoor
