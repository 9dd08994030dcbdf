/- The program's own sim: get. -/
import Derived.Test.YtabepbaldadmgaaDoorSnC
namespace Go.Proofs.YtabepbaldadmgaaDoor
open Go.RowKit Isa

theorem load2 (x : Int) : wrap32 (x * 65536) / 65536 = wrap32 (IntKind.i16.wrap x) := by
  have e : IntKind.i16.wrap x = (x + 32768) % 65536 - 32768 := by simp [IntKind.wrap, IntKind.bits, IntKind.signed]; omega
  rw [e]
  unfold wrap32
  omega

/-- What a region's reads of a machine ask for. -/
def RdS (K g : Nat) (m : Ma) (gb bc : Nat) (sv : Value) (ta : Option Addr) (tc : Nat) (W : World) (i j : Nat) (w' : World) : Prop :=
  w'.cell? ⟨g, i, none⟩ = some (.int .i64 (m.r i)) ∧ w'.cell? ⟨g, j, none⟩ = some (.int .i64 (m.r j)) ∧ w'.cell? ⟨g, 20, none⟩ = some (.slice (some ⟨gb, 0, none⟩) m.by'.length bc) ∧ w'.frozen? ⟨g, i, none⟩ = false ∧ Below W.heap.size W w' ∧ MR K g m gb bc sv ta tc w'
theorem rds {K g : Nat} {m : Ma} {gb bc : Nat} {sv : Value} {ta : Option Addr} {tc : Nat} {W w' : World} {i j : Nat} (hi : i < 16) (hj : j < 16) (h : MR K g m gb bc sv ta tc W) (hb : Below W.heap.size W w') : RdS K g m gb bc sv ta tc W i j w' := by
  have h' := h.next hb
  exact ⟨h'.rn i hi, h'.rn j hj, h'.cells.2.2.2.2.1, h'.fz i, hb, h'⟩

theorem keep_draw {W : World} {p : Addr} {v : Value} (h : W.cell? p = some v) : W.drew.cell? p = some v := by simpa using h
theorem keep_set {W : World} {g k j : Nat} {v x : Value} (hk : k ≠ j) (h : W.cell? ⟨g, j, none⟩ = some v) : (W.setCell ⟨g, k, none⟩ x).cell? ⟨g, j, none⟩ = some v := by
  rw [World.cell?_setCell_other _ _ _ _ (by intro e; cases e; exact hk rfl)]; exact h

set_option maxHeartbeats 2000000 in
theorem get_no (K g : Nat) (m : Ma) (gb bc : Nat) (s0 : Option Addr) (s1 s2 : Nat) (ta : Option Addr) (tc : Nat) (n a size : Int) (W : World) (h : MR K g m gb bc (.slice s0 s1 s2) ta tc W) (hs : size = 2 ∨ size = 4) (hM : MOk m) (ha0 : -4611686018427387904 ≤ a) (ha1 : a ≤ 4611686018427387904) (hh : hasB m a size = false) :
    Calls Tryd.prog 46 #[.pointer (some ⟨g, 0, none⟩), .int .i64 n, .int .i64 a, .int .i64 size] W fun e W' => e = .returned (.int .i64 3) ∧ Below W.heap.size W W' := by
  have HT : Hid (∀ V, Calls Tryd.prog 40 #[.agg #[.int .i64 m.base, .slice (some ⟨gb, 0, none⟩) m.by'.length bc, .slice s0 s1 s2], .int .i64 a, .int .i64 size] V fun e w' => e = .returned (.tuple #[.int .i64 (a - m.base), .bool false]) ∧ Below V.heap.size V w') := fun V => by
    have := there_any m (some ⟨gb, 0, none⟩) bc (.slice s0 s1 s2) a size V hs hM.b0 hM.b1 (by have := hM.bl; omega) ha0 ha1
    rw [hh] at this
    exact this
  obtain ⟨_, _, _, c19, c20, c21, _, _⟩ := h.cells
  clear h hM hh
  go_enter Tryd.func46, Tryd.ntmps46
  go_wp2_with (first | (go_at_call 40; refine (HT.out _).mono ?_; rintro e W1 ⟨rfl, hb1⟩) | fail)
  go_ret
  exact ⟨rfl, hb1⟩

set_option maxHeartbeats 2000000 in
theorem get_yes (K g : Nat) (m : Ma) (gb bc : Nat) (s0 : Option Addr) (s1 s2 : Nat) (ta : Option Addr) (tc : Nat) (n a size : Int) (W : World) (h : MR K g m gb bc (.slice s0 s1 s2) ta tc W) (hs : size = 2 ∨ size = 4) (hM : MOk m) (ha0 : -4611686018427387904 ≤ a) (ha1 : a ≤ 4611686018427387904) (hn0 : 0 ≤ n) (hn1 : n ≤ 15) (hh : hasB m a size = true) :
    Calls Tryd.prog 46 #[.pointer (some ⟨g, 0, none⟩), .int .i64 n, .int .i64 a, .int .i64 size] W fun e W' => e = .returned (.int .i64 0) ∧ PP W.heap.size K g gb bc (.slice s0 s1 s2) (setR m n.toNat (loadS m a size)) W W' := by
  have HZ : Hid (∀ V v, Below W.heap.size W V → PP W.heap.size K g gb bc (.slice s0 s1 s2) (setR m n.toNat v) W ((V.setCell ⟨g, n.toNat, none⟩ (.int .i64 v)).drew)) := fun V v hb => ((PP.of h hb (Nat.le_refl _)).reg n.toNat (by omega) v).drew
  have HT : Hid (∀ V, Calls Tryd.prog 40 #[.agg #[.int .i64 m.base, .slice (some ⟨gb, 0, none⟩) m.by'.length bc, .slice s0 s1 s2], .int .i64 a, .int .i64 size] V fun e w' => e = .returned (.tuple #[.int .i64 (a - m.base), .bool true]) ∧ Below V.heap.size V w') := fun V => by
    have := there_any m (some ⟨gb, 0, none⟩) bc (.slice s0 s1 s2) a size V hs hM.b0 hM.b1 (by have := hM.bl; omega) ha0 ha1
    rw [hh] at this
    exact this
  obtain ⟨q1, q2, q3⟩ := hasB_in hh
  have hbl := hM.bl
  have HG : Hid (∀ V, Below W.heap.size W V → Calls Tryd.prog 42 #[.slice (some ⟨gb, 0, none⟩) m.by'.length bc, .int .i64 (a - m.base), .int .i64 size] V fun e w' => e = .returned (.int .i64 (getTo (bsOf m.by') m.by'.length (a - m.base) size.toNat)) ∧ V = w') := fun V hb => (get_any (some ⟨gb, 0, none⟩) m.by'.length bc (bsOf m.by') (a - m.base) size V (bsOf_byte _) (by unfold maxLen; omega) (fun h0 => by
      obtain ⟨b, off, e, _, hc⟩ := ((h.next hb).brd) h0
      exact ⟨b, off, e, hc⟩) (by omega) (by omega) (by omega) (by omega)).mono fun _ _ ⟨h1, h2⟩ => ⟨h1, h2.symm⟩
  have HS := Lib.hid sgn_any
  have HR : Hid (∀ V, Below W.heap.size W V → RdS K g m gb bc (.slice s0 s1 s2) ta tc W n.toNat n.toNat V) := fun V hb => rds (by omega) (by omega) h hb
  have hx : 0 ≤ getTo (bsOf m.by') m.by'.length (a - m.base) size.toNat ∧ (size = 2 → getTo (bsOf m.by') m.by'.length (a - m.base) size.toNat ≤ 65535) ∧ getTo (bsOf m.by') m.by'.length (a - m.base) size.toNat ≤ 4294967295 := by
    rcases hs with rfl | rfl
    · have := get2_bd m (a - m.base)
      exact ⟨this.1, fun _ => this.2, by have := this.2; exact Int.le_trans this (by decide)⟩
    · have := get4_bd m (a - m.base)
      exact ⟨this.1, fun h => absurd h (by decide), this.2⟩
  have hLs : loadS m a size = if size = 2 then wrap32 (IntKind.i16.wrap (getTo (bsOf m.by') m.by'.length (a - m.base) size.toNat)) else wrap32 (getTo (bsOf m.by') m.by'.length (a - m.base) size.toNat) := by
    rcases hs with rfl | rfl <;> rfl
  obtain ⟨_, _, _, c19, c20, c21, _, _⟩ := h.cells
  have hn2 : n < 16 := by omega
  have hn20 : n.toNat ≠ 20 := by omega
  obtain ⟨L, hL⟩ : ∃ L, L = loadS m a size := ⟨_, rfl⟩
  rw [← hL]
  rw [hLs] at hL
  clear hLs
  generalize getTo (bsOf m.by') m.by'.length (a - m.base) size.toNat = x at *
  clear h hM hh
  rcases hs with rfl | rfl
  · have HL : Hid (wrap32 (x * 65536) / 65536 = L) := by rw [hL]; exact load2 x
    obtain ⟨x0, x1, _⟩ := hx
    have x1 := x1 rfl
    clear hL
    go_enter Tryd.func46, Tryd.ntmps46
    go_wp2_with (first | (go_at_call 40; refine (HT.out _).mono ?_; rintro e W1 ⟨rfl, hb1⟩) | fail)
    have c20' : W1.cell? ⟨g, 20, none⟩ = some (.slice (some ⟨gb, 0, none⟩) m.by'.length bc) := (HR.out W1 hb1).2.2.1
    have cn := (HR.out W1 hb1).1
    have fn := (HR.out W1 hb1).2.2.2.1
    go_region_held3 (fun w' => w'.cell? ⟨g, 20, none⟩ = some (.slice (some ⟨gb, 0, none⟩) m.by'.length bc))
      (repeat (first | assumption | refine keep_draw ?_ | refine keep_set hn20 ?_))
      (first | (go_at_call 42; refine (HG.out _ hb1.drew).mono ?_; rintro e w' ⟨rfl, rfl⟩) | (go_at_call 51; refine (HS.out _ _).mono ?_; rintro e w' ⟨rfl, rfl⟩))
    have e1 : IntKind.i64.wrap (x * 65536) = x * 65536 := by rw [IntKind.wrap_i64]; omega
    rw [e1, HL.out]
    go_wp2
    go_ret
    exact ⟨rfl, HZ.out _ _ hb1⟩
  · have HL : Hid (wrap32 x = L) := by rw [hL]; rfl
    obtain ⟨x0, _, x1⟩ := hx
    clear hL
    go_enter Tryd.func46, Tryd.ntmps46
    go_wp2_with (first | (go_at_call 40; refine (HT.out _).mono ?_; rintro e W1 ⟨rfl, hb1⟩) | fail)
    have c20' : W1.cell? ⟨g, 20, none⟩ = some (.slice (some ⟨gb, 0, none⟩) m.by'.length bc) := (HR.out W1 hb1).2.2.1
    have cn := (HR.out W1 hb1).1
    have fn := (HR.out W1 hb1).2.2.2.1
    go_region_held3 (fun w' => w'.cell? ⟨g, 20, none⟩ = some (.slice (some ⟨gb, 0, none⟩) m.by'.length bc))
      (repeat (first | assumption | refine keep_draw ?_ | refine keep_set hn20 ?_))
      (first | (go_at_call 42; refine (HG.out _ hb1.drew).mono ?_; rintro e w' ⟨rfl, rfl⟩) | (go_at_call 51; refine (HS.out _ _).mono ?_; rintro e w' ⟨rfl, rfl⟩))
    have e1 : IntKind.i64.wrap x = x := by rw [IntKind.wrap_i64]; omega
    rw [e1, HL.out]
    go_wp2
    go_ret
    exact ⟨rfl, HZ.out _ _ hb1⟩

end Go.Proofs.YtabepbaldadmgaaDoor
