/- The program's own reader of bytes in memory, and the contracts of its take. -/
import Derived.Test.YtobdcnpifbnjaacOcBytes
namespace Go.Proofs.Ytobdcnpifbnjaac
open Go.RowKit

theorem oconv {w : World} {v : Value} {bs : List UInt8} (h : OBytes w v bs) : (convert 22 9 v).run Try.prog w = .ok (.string ⟨bs.toArray⟩) w := by
  obtain ⟨ad, cap, rfl, _, hc⟩ := h
  by_cases h0 : 0 < bs.length
  · obtain ⟨b, o, rfl, _, hcell⟩ := hc h0
    have hrun := run_convert_bytes_arg (P := Try.prog) w 22 5 Try.underlying22 Try.underlying5 b o bs.length cap (bs.map fun c => (c.toNat : Int)) (by simp) (fun i hi => by rw [hcell i hi]; simp [List.getD, hi]) 9 Try.underlying9
    have e : strOfNums (bs.map fun c => (c.toNat : Int)) = ⟨bs.toArray⟩ := by
      have hm : (bs.map fun c => (c.toNat : Int)).map (fun n : Int => UInt8.ofNat n.toNat) = bs := by
        rw [List.map_map]
        have : (bs.map ((fun n : Int => UInt8.ofNat n.toNat) ∘ fun c => (c.toNat : Int))) = bs.map id := List.map_congr_left (fun c _ => by simp)
        rw [this, List.map_id]
      unfold strOfNums
      rw [hm]
    rw [e] at hrun
    exact hrun
  · have hb : bs = [] := List.eq_nil_of_length_eq_zero (by omega)
    subst hb
    cases ad with
    | none => exact run_convert_bytes_nil (P := Try.prog) w 22 5 Try.underlying22 Try.underlying5 0 cap 9 Try.underlying9
    | some a =>
      show (convert 22 9 (.slice (some a) 0 cap)).run Try.prog w = _
      rw [run_convert_bytes_string w 22 9 5 _ 0 cap Try.underlying22 Try.underlying5 Try.underlying9]
      have hl : (loadCells a 0).run Try.prog w = .ok (([] : List Int).map (Value.int .u8)).toArray w := by
        have := run_loadCells_list (P := Try.prog) w a ([] : List Value) (fun j v hj => by simp at hj)
        simpa using this
      rw [run_bytesToString w a 0 cap [] hl]
      rfl

/-- Bytes that lie ahead of block Q. -/
def BSrc (w : World) (Q : Nat) (ad : Option Addr) (cap : Nat) (l : List UInt8) : Prop :=
  (ad = none ∧ cap = 0 ∧ l = []) ∨ (∃ a, ad = some a ∧ l.length ≤ cap ∧ (0 < l.length → ∃ b o, a = ⟨b, o, none⟩ ∧ b < Q ∧ ∀ i (h : i < l.length), w.cell? ⟨b, o + i, none⟩ = some (.int .u8 (l[i].toNat : Int))))
def RB (w : World) (Q : Nat) (v : Value) (l : List UInt8) : Prop := ∃ ad cap, v = .slice ad l.length cap ∧ BSrc w Q ad cap l
theorem BSrc.keep {w w' : World} {Q cap : Nat} {ad : Option Addr} {l : List UInt8} (h : BSrc w Q ad cap l) (hk : ∀ b, b < Q → w'.heap[b]? = w.heap[b]?) : BSrc w' Q ad cap l := by
  rcases h with h | ⟨a, rfl, hc, h⟩
  · exact .inl h
  · refine .inr ⟨a, rfl, hc, fun h0 => ?_⟩
    obtain ⟨b, o, rfl, hb, hcs⟩ := h h0
    exact ⟨b, o, rfl, hb, fun i hi => (World.cell?_of_block (w := w) (hk b hb)).trans (hcs i hi)⟩
theorem RB.keep {w w' : World} {Q : Nat} {v : Value} {l : List UInt8} (h : RB w Q v l) (hk : ∀ b, b < Q → w'.heap[b]? = w.heap[b]?) : RB w' Q v l := by
  obtain ⟨ad, cap, rfl, h⟩ := h
  exact ⟨ad, cap, rfl, h.keep hk⟩
theorem RB.bytes {w : World} {Q : Nat} {v : Value} {l : List UInt8} (h : RB w Q v l) (hQ : Q ≤ w.heap.size) (hl : l.length ≤ maxLen) : OBytes w v l := by
  obtain ⟨ad, cap, rfl, h⟩ := h
  refine ⟨ad, cap, rfl, hl, fun h0 => ?_⟩
  rcases h with ⟨_, _, rfl⟩ | ⟨a, rfl, _, h⟩
  · simp at h0
  · obtain ⟨b, o, rfl, hb, hcs⟩ := h h0
    exact ⟨b, o, rfl, Nat.lt_of_lt_of_le hb hQ, hcs⟩

/-- The reader at block Q: what is left, and whether more was asked for than there was. -/
structure DR (w : World) (Q : Nat) (l : List UInt8) (s : Bool) : Prop where
  few : l.length ≤ 140737488355328
  blk : ∃ ad cap, w.heap[Q]? = some (.cells #[.slice ad l.length cap, .bool s] 52 (0, 0)) ∧ BSrc w Q ad cap l
theorem DR.lt {w : World} {Q : Nat} {l : List UInt8} {s : Bool} (h : DR w Q l s) : Q < w.heap.size := by
  obtain ⟨_, _, h, _⟩ := h.blk
  exact (Array.getElem?_eq_some_iff.1 h).1
theorem DR.keep {w w' : World} {Q : Nat} {l : List UInt8} {s : Bool} (h : DR w Q l s) (hk : ∀ b, b ≤ Q → w'.heap[b]? = w.heap[b]?) : DR w' Q l s := by
  obtain ⟨ad, cap, h1, h2⟩ := h.blk
  exact ⟨h.few, ad, cap, (hk Q (Nat.le_refl _)).trans h1, h2.keep fun b hb => hk b (Nat.le_of_lt hb)⟩
theorem DR.below {w w' : World} {Q N : Nat} {l : List UInt8} {s : Bool} (h : DR w Q l s) (hb : Below N w w') (hN : Q < N) : DR w' Q l s := h.keep fun b hl => hb.block b (by omega)

theorem BSrc.take {w : World} {Q cap n : Nat} {a : Addr} {l : List UInt8} (hc : l.length ≤ cap) (hn : n ≤ l.length) (h : 0 < l.length → ∃ b o, a = ⟨b, o, none⟩ ∧ b < Q ∧ ∀ i (h : i < l.length), w.cell? ⟨b, o + i, none⟩ = some (.int .u8 (l[i].toNat : Int))) : RB w Q (.slice (some a) n cap) (l.take n) := by
  have e : (l.take n).length = n := by simp; omega
  refine ⟨some a, cap, by rw [e], .inr ⟨a, rfl, by omega, fun h0 => ?_⟩⟩
  obtain ⟨b, o, rfl, hb, hcs⟩ := h (by omega)
  exact ⟨b, o, rfl, hb, fun i hi => by rw [hcs i (by omega)]; simp⟩
theorem BSrc.drop {w : World} {Q cap n : Nat} {a : Addr} {l : List UInt8} (hc : l.length ≤ cap) (hn : n ≤ l.length) (h : 0 < l.length → ∃ b o, a = ⟨b, o, none⟩ ∧ b < Q ∧ ∀ i (h : i < l.length), w.cell? ⟨b, o + i, none⟩ = some (.int .u8 (l[i].toNat : Int))) : BSrc w Q (some (a.add n)) (cap - n) (l.drop n) := by
  have e : (l.drop n).length = l.length - n := by simp
  refine .inr ⟨_, rfl, by omega, fun h0 => ?_⟩
  obtain ⟨b, o, rfl, hb, hcs⟩ := h (by omega)
  exact ⟨b, o + n, by rw [addr_add], hb, fun i hi => by rw [show o + n + i = o + (n + i) by omega, hcs (n + i) (by omega)]; simp⟩

set_option maxHeartbeats 2000000 in
theorem take_short (Q : Nat) (l : List UInt8) (s : Bool) (n : Int) (w : World) (h : DR w Q l s) (hn : (l.length : Int) < n) :
    Calls Try.prog 22 #[.pointer (some ⟨Q, 0, none⟩), .int .i64 n] w fun e w' => e = .returned (.slice none 0 0) ∧ DR w' Q l true ∧ w.grownBy w' (some Q) := by
  obtain ⟨ad, cap, hb, hs⟩ := h.blk
  have c0 : w.cell? ⟨Q, 0, none⟩ = some (.slice ad l.length cap) := cell_of_block hb rfl
  have c1 : w.cell? ⟨Q, 1, none⟩ = some (.bool s) := cell_of_block hb rfl
  have f1 : w.frozen? ⟨Q, 1, none⟩ = false := by unfold World.frozen?; simp only [hb]; rfl
  have HR : Hid (DR (w.setCell ⟨Q, 1, none⟩ (.bool true)) Q l true) := ⟨h.few, ad, cap, _root_.Go.heap_setCell_same w Q _ _ _ _ hb, hs.keep fun b hl => Below.heap_setCell _ _ _ _ (by show b ≠ Q; omega)⟩
  clear hb hs h
  go_enter Try.func22, Try.ntmps22
  go_wp2
  go_ret
  exact ⟨rfl, HR.out, ogset _ _ _ _⟩

set_option maxHeartbeats 2000000 in
theorem take_some (Q : Nat) (l : List UInt8) (s : Bool) (n : Nat) (w : World) (h : DR w Q l s) (hn : n ≤ l.length) :
    Calls Try.prog 22 #[.pointer (some ⟨Q, 0, none⟩), .int .i64 (n : Int)] w fun e w' => ∃ v, e = .returned v ∧ RB w' Q v (l.take n) ∧ DR w' Q (l.drop n) s ∧ w.grownBy w' (some Q) := by
  obtain ⟨ad, cap, hb, hs⟩ := h.blk
  have c0 : w.cell? ⟨Q, 0, none⟩ = some (.slice ad l.length cap) := cell_of_block hb rfl
  have f0 : w.frozen? ⟨Q, 0, none⟩ = false := by unfold World.frozen?; simp only [hb]; rfl
  have hn1 : ¬ (l.length : Int) < n := by omega
  have hfew := h.few
  have hfix : ∀ x, ∀ b, b < Q → (w.setCell ⟨Q, 0, none⟩ x).heap[b]? = w.heap[b]? := fun x b hl => Below.heap_setCell _ _ _ _ (by show b ≠ Q; omega)
  rcases hs with ⟨rfl, rfl, rfl⟩ | ⟨a, rfl, hcap, hs⟩
  · have hn0 : n = 0 := by simpa using hn
    subst hn0
    have HR : Hid (DR (w.setCell ⟨Q, 0, none⟩ (.slice none 0 0)) Q [] s) := ⟨by simp, none, 0, _root_.Go.heap_setCell_same w Q _ _ _ _ hb, .inl ⟨rfl, rfl, rfl⟩⟩
    clear hb h hfix hn hn1
    simp only [List.length_nil] at c0
    go_enter Try.func22, Try.ntmps22
    go_wp2
    go_ret
    exact ⟨_, rfl, ⟨none, 0, rfl, .inl ⟨rfl, rfl, rfl⟩⟩, HR.out, ogset _ _ _ _⟩
  · have HB := Lib.hid hb
    have HS := Lib.hid hs
    have HF := Lib.hid hfix
    clear hb hs h hfix
    have hc1 : (n : Int) ≤ cap := by omega
    have hc2 : (l.length : Int) ≤ cap := by omega
    go_enter Try.func22, Try.ntmps22
    go_wp2
    · have he : l.length = n := by omega
      go_ret
      refine ⟨_, rfl, ?_, ⟨by simp; omega, some a, 0, ?_, ?_⟩, ogset _ _ _ _⟩
      · exact (BSrc.take (cap := n) (by omega) hn HS.out).keep (HF.out _)
      · rw [List.length_drop]
        exact _root_.Go.heap_setCell_same w Q _ _ _ _ HB.out
      · exact .inr ⟨a, rfl, by simp; omega, fun h0 => by simp at h0; omega⟩
    · go_ret
      refine ⟨_, rfl, ?_, ⟨by simp; omega, some (a.add n), cap - n, ?_, ?_⟩, ogset _ _ _ _⟩
      · exact (BSrc.take hcap hn HS.out).keep (HF.out _)
      · rw [List.length_drop]
        exact _root_.Go.heap_setCell_same w Q _ _ _ _ HB.out
      · exact (BSrc.drop hcap hn HS.out).keep (HF.out _)

end Go.Proofs.Ytobdcnpifbnjaac
