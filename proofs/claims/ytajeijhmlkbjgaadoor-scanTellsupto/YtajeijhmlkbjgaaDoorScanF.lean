/- Contracts of strconv.ParseUint at 32 bits, base 10 and 16, and of scan's number. -/
import Derived.Test.YtajeijhmlkbjgaaDoorScanE
import Derived.WalkSmall
namespace Go.Proofs.YtajeijhmlkbjgaaDoor
open Go.RowKit

/-- What the library's variables hold. -/
structure Glob (w : World) : Prop where
  sz : 10 ≤ w.heap.size
  m : ∃ m, w.cell? ⟨2, 0, none⟩ = some (.int .i64 m)
  es : ∃ t p, w.cell? ⟨4, 0, none⟩ = some (.iface t p)
  er : ∃ t p, w.cell? ⟨5, 0, none⟩ = some (.iface t p)
  tab : Lib.TabIs Tryd.prog w "internal/strconv.uint64pow10" .u64 Lib.pow10Tab

theorem gPow : Tryd.prog.globalNamed "internal/strconv.uint64pow10" = some 3 := by kernel_rfl

theorem Glob.below {B : Nat} {w w' : World} (h : Glob w) (hb : Below B w w') (hB : 10 ≤ B) : Glob w' where
  sz := Nat.le_trans h.sz hb.size
  m := by rw [hb.cell (by show 2 < B; omega)]; exact h.m
  es := by rw [hb.cell (by show 4 < B; omega)]; exact h.es
  er := by rw [hb.cell (by show 5 < B; omega)]; exact h.er
  tab := var?_below hb gPow (by omega) h.tab

theorem par16_ok : ∀ (l : List UInt8) (acc u : Nat), parseN 16 acc l = some u → par16 acc l = .ok u
  | [], acc, u, h => by simp [parseN] at h; simp [par16, h]
  | c :: r, acc, u, h => by
    unfold parseN at h
    unfold par16
    split at h
    · cases h
    · rename_i d hd
      rw [hd]
      split at h
      · rename_i hle
        simp only [if_neg (show ¬ 4294967295 < acc * 16 + d by omega)]
        exact par16_ok r _ u h
      · cases h

theorem par16_no : ∀ (l : List UInt8) (acc : Nat), parseN 16 acc l = none → par16 acc l = .syntax ∨ par16 acc l = .range
  | [], acc, h => by simp [parseN] at h
  | c :: r, acc, h => by
    unfold parseN at h
    unfold par16
    split at h
    · rename_i hd
      rw [hd]; exact Or.inl rfl
    · rename_i d hd
      rw [hd]
      split at h
      · rename_i hle
        simp only [if_neg (show ¬ 4294967295 < acc * 16 + d by omega)]
        exact par16_no r _ h
      · exact Or.inr (by simp only [if_pos (show 4294967295 < acc * 16 + d by omega)])

theorem par10_eq : ∀ (l : List UInt8) (acc : Nat), acc ≤ 4294967295 → (∀ u, parseN 10 acc l = some u → Lib.parseUintM 4294967295 acc l = .ok u) ∧ (parseN 10 acc l = none → Lib.parseUintM 4294967295 acc l = .syntax ∨ Lib.parseUintM 4294967295 acc l = .range)
  | [], acc, _ => ⟨fun u h => by simp [parseN] at h; simp [Lib.parseUintM, h], fun h => by simp [parseN] at h⟩
  | c :: r, acc, hacc => by
    unfold parseN Lib.parseUintM
    by_cases hd : 48 ≤ c.toNat ∧ c.toNat ≤ 57
    · have e : digV 10 c.toNat = some (c.toNat - 48) := by simp [digV, hd]
      rw [e]
      simp only [if_pos hd, if_neg (show ¬ 1844674407370955162 ≤ acc by omega)]
      by_cases hle : acc * 10 + (c.toNat - 48) ≤ 4294967295
      · simp only [if_pos hle, if_neg (show ¬ 4294967295 < acc * 10 + (c.toNat - 48) by omega)]
        exact par10_eq r _ hle
      · simp only [if_neg hle, if_pos (show 4294967295 < acc * 10 + (c.toNat - 48) by omega)]
        exact ⟨fun u h => (by cases h), fun _ => (by first | exact Or.inr rfl | exact Or.inr trivial)⟩
    · have e : digV 10 c.toNat = none := by simp [digV, hd]
      rw [e]
      simp only [if_neg hd]
      exact ⟨fun u h => (by cases h), fun _ => (by first | exact Or.inl rfl | exact Or.inl trivial)⟩

theorem pu10_ok (s : ByteArray) (hs : s.size ≤ 281474976710656) (u : Nat) (h : parseU 10 s.data.toList = some u) (w : World) :
    Calls Tryd.prog 75 #[.string s, .int .i64 10, .int .i64 32] w fun e w' => e = .returned (.tuple #[.int .u64 u, .nilIface]) ∧ Below w.heap.size w w' := by
  have hp : Lib.parseUintB 32 s.data.toList = .ok u := by
    unfold parseU at h
    unfold Lib.parseUintB
    split at h
    · cases h
    · rename_i hne
      rw [if_neg hne]
      exact (par10_eq _ 0 (by omega)).1 u h
  refine (Tryd.strconv_ParseUint_10_at32_ok s (by omega) u hp w).mono ?_
  rintro e w' ⟨rfl, rfl | rfl⟩
  · exact ⟨rfl, Below.refl _ _⟩
  · exact ⟨rfl, Lib.bytesWorld_below _ _ _⟩

theorem pu10_no (s : ByteArray) (hs : s.size ≤ 281474976710656) (h : parseU 10 s.data.toList = none) (w : World) (hG : Glob w) :
    Calls Tryd.prog 75 #[.string s, .int .i64 10, .int .i64 32] w fun e w' => ∃ x N, e = .returned (.tuple #[.int .u64 x, .iface 134 (.pointer (some ⟨N, 0, none⟩))]) ∧ Below w.heap.size w w' := by
  have hp : Lib.parseUintB 32 s.data.toList = .syntax ∨ Lib.parseUintB 32 s.data.toList = .range := by
    unfold parseU at h
    unfold Lib.parseUintB
    split at h
    · rename_i he
      rw [if_pos he]
      exact Or.inl rfl
    · rename_i hne
      rw [if_neg hne]
      exact (par10_eq _ 0 (by omega)).2 h
  obtain ⟨t1, p1, h1⟩ := hG.es
  obtain ⟨t2, p2, h2⟩ := hG.er
  rcases hp with hp | hp
  · refine (Tryd.strconv_ParseUint_10_at32_syntax s hs hp _ w h1 (Or.inr ⟨_, _, rfl⟩)).mono ?_
    rintro e w' ⟨N, rfl, _, _, hb⟩
    exact ⟨_, N, rfl, hb⟩
  · refine (Tryd.strconv_ParseUint_10_at32_range s hs hp _ w h2 (Or.inr ⟨_, _, rfl⟩)).mono ?_
    rintro e w' ⟨N, rfl, _, _, hb⟩
    exact ⟨_, N, rfl, hb⟩

theorem pu16_ok (s : ByteArray) (hs : s.size ≤ 281474976710656) (u : Nat) (h : parseU 16 s.data.toList = some u) (w : World) :
    Calls Tryd.prog 75 #[.string s, .int .i64 16, .int .i64 32] w fun e w' => e = .returned (.tuple #[.int .u64 u, .nilIface]) ∧ Below w.heap.size w w' := by
  have hne : s.data.toList ≠ [] := by intro he; simp [parseU, he] at h
  have hsz : s.size ≠ 0 := by
    intro h0
    apply hne
    have : s.data.toList.length = s.size := Array.length_toList
    exact List.eq_nil_of_length_eq_zero (by omega)
  have hp : par16 0 s.data.toList = .ok u := by
    simp only [parseU, if_neg hne] at h
    exact par16_ok _ _ _ h
  have hc : ∀ w, Calls Tryd.prog 88 #[.string s, .int .i64 16, .int .i64 32] w fun e w' => e = .returned (.tuple #[.int .u64 u, .nilIface]) ∧ Below w.heap.size w w' := by
    intro w
    refine (parse16_any s hsz (by omega) w).mono ?_
    rintro e w' ⟨rfl, rfl⟩
    rw [hp]
    exact ⟨rfl, Lib.bytesWorld_below _ _ _⟩
  go_enter Tryd.func75, Tryd.ntmps75
  go_wp2_with (go_at_call 88; refine (hc _).mono ?_; rintro e w' ⟨rfl, hb⟩)
  go_ret2
  exact ⟨rfl, hb⟩

theorem pu16_no (s : ByteArray) (hs : s.size ≤ 281474976710656) (h : parseU 16 s.data.toList = none) (w : World) (hG : Glob w) :
    Calls Tryd.prog 75 #[.string s, .int .i64 16, .int .i64 32] w fun e w' => ∃ x N, e = .returned (.tuple #[.int .u64 x, .iface 134 (.pointer (some ⟨N, 0, none⟩))]) ∧ Below w.heap.size w w' := by
  have hc : ∀ w, Calls Tryd.prog 88 #[.string s, .int .i64 16, .int .i64 32] w fun e w' => ∃ x k, (k = 1 ∨ k = 2) ∧ e = .returned (.tuple #[.int .u64 x, .iface 133 (.int .i64 k)]) ∧ Below w.heap.size w w' := by
    intro w
    by_cases hne : s.data.toList = []
    · have : s = ⟨#[]⟩ := by
        apply ByteArray.ext
        exact Array.toList_inj.1 hne
      subst this
      refine (Tryd.internal_strconv_ParseUint_empty 16 32 w).mono ?_
      rintro e w' ⟨rfl, rfl⟩
      exact ⟨0, 2, Or.inr rfl, rfl, Below.refl _ _⟩
    · have hsz : s.size ≠ 0 := by
        intro h0
        apply hne
        have : s.data.toList.length = s.size := Array.length_toList
        exact List.eq_nil_of_length_eq_zero (by omega)
      simp only [parseU, if_neg hne] at h
      refine (parse16_any s hsz (by omega) w).mono ?_
      rintro e w' ⟨rfl, rfl⟩
      rcases par16_no _ _ h with hp | hp
      · rw [hp]; exact ⟨0, 2, Or.inr rfl, rfl, Lib.bytesWorld_below _ _ _⟩
      · rw [hp]; exact ⟨4294967295, 1, Or.inl rfl, rfl, Lib.bytesWorld_below _ _ _⟩
  go_enter Tryd.func75, Tryd.ntmps75
  go_wp2_with fail
  refine (hc _).mono ?_
  rintro e w1 ⟨x, k, hk, rfl, hb⟩
  have hG1 := hG.below hb hG.sz
  obtain ⟨t1, p1, h1⟩ := hG1.es
  obtain ⟨t2, p2, h2⟩ := hG1.er
  clear hG1 hG
  rcases hk with rfl | rfl
  · go_wp2_with fail
    refine (Tryd.strconv_toError_range _ s _ _ _ w1 hs h2 (Or.inr ⟨_, _, rfl⟩)).mono ?_
    rintro e w2 ⟨N, rfl, _, _, hb2⟩
    go_wp2
    go_ret2
    exact ⟨_, N, rfl, hb.trans (hb2.mono hb.size)⟩
  · go_wp2_with fail
    refine (Tryd.strconv_toError_syntax _ s _ _ _ w1 hs h1 (Or.inr ⟨_, _, rfl⟩)).mono ?_
    rintro e w2 ⟨N, rfl, _, _, hb2⟩
    go_wp2
    go_ret2
    exact ⟨_, N, rfl, hb.trans (hb2.mono hb.size)⟩

end Go.Proofs.YtajeijhmlkbjgaaDoor
