/- Contracts of the document's own Get and Put. -/
import Derived.Test.YtabepbaldadmgaaDoorPut5
import Derived.Deep.AppendLies
import Derived.Deep.AppendSrc
import Derived.Laws.BytesArg
namespace Go.Proofs.YtabepbaldadmgaaDoor.Isa
open Go.RowKit

theorem rGet_any (ad : Option Addr) (len cap : Nat) (bs : Nat → Int) (a size : Int) (w : World) (hbs : IsByte bs) (hlen : len ≤ maxLen)
    (hrow : 0 < len → ∃ b off, ad = some ⟨b, off, none⟩ ∧ ∀ i, i < len → w.cell? ⟨b, off + i, none⟩ = some (.int .u8 (bs i)))
    (hs0 : 0 ≤ size) (hs1 : size ≤ 6) (ha0 : -1000000000 ≤ a) (ha1 : a ≤ 9223372036854775000) :
    Calls Tryd.prog 19 #[.slice ad len cap, .int .i64 a, .int .i64 size] w fun e w' => e = .returned (.int .i64 (getTo bs len a size.toNat)) ∧ w' = w := by
  unfold maxLen at hlen
  go_enter Tryd.func19, Tryd.ntmps19
  go_wp2
  go_loop [7, 10] (fun n i => ∃ k : Nat, k ≤ size.toNat ∧ i = .int .i64 k ∧ n = .int .i64 (getTo bs len a k)) (fun _ i => size.toNat - (intOf i).toNat)
  case atStart => exact ⟨0, Nat.zero_le _, rfl, rfl⟩
  case round =>
    obtain ⟨k, hk, rfl, rfl⟩ := hrel
    by_cases hlt : k < size.toNat
    · have hk1 : (k : Int) < size := by omega
      have hg := getTo_bd hbs len a k
      have hg1 : getTo bs len a k < 281474976710656 := by
        have hk6 : k = 0 ∨ k = 1 ∨ k = 2 ∨ k = 3 ∨ k = 4 ∨ k = 5 := by omega
        have h2 := hg.2
        rcases hk6 with h | h | h | h | h | h <;> (rw [h] at h2 ⊢; simp at h2; omega)
      have hg0 := hg.1
      have HS : Hid (getTo bs len a (k + 1) = getTo bs len a k * 256 + byteAt bs len (a + k)) := rfl
      clear hg
      generalize getTo bs len a k = g at *
      by_cases hp : 0 ≤ a + k ∧ a + k < (len : Int)
      · obtain ⟨hp0, hp1⟩ := hp
        have HB : Hid (byteAt bs len (a + k) = bs (a + k).toNat) := by simp [Hid, byteAt, hp0, hp1]
        obtain ⟨b, off, rfl, hcell⟩ := hrow (by omega)
        have hc := hcell (a + k).toNat (by omega)
        have hb := hbs (a + k).toNat
        obtain ⟨hb0, hb1⟩ := hb
        clear hcell
        go_wp2
        exact ⟨⟨k + 1, by omega, by go_num, by rw [HS.out, HB.out]⟩, by simp [intOf]; omega⟩
      · have HB : Hid (byteAt bs len (a + k) = 0) := by simp [Hid, byteAt]; omega
        by_cases hp0 : 0 ≤ a + k
        · have hp1 : ¬ a + k < (len : Int) := by omega
          go_wp2
          exact ⟨⟨k + 1, by omega, by go_num, by rw [HS.out, HB.out, Int.add_zero]⟩, by simp [intOf]; omega⟩
        · go_wp2
          exact ⟨⟨k + 1, by omega, by go_num, by rw [HS.out, HB.out, Int.add_zero]⟩, by simp [intOf]; omega⟩
    · have hk1 : ¬ (k : Int) < size := by omega
      have hke : k = size.toNat := by omega
      subst hke
      go_wp2
      go_ret
      exact ⟨rfl, rfl⟩

theorem info5' : ∃ i, Tryd.prog.info? 5 = some i ∧ i.zero = some (.int .u8 0) ∧ i.size = 1 ∧ i.bytes = 1 := by
  have h := info5
  obtain ⟨i, hi, hh⟩ := Option.map_eq_some_iff.1 h
  simp only [Prod.mk.injEq] at hh
  exact ⟨i, hi, hh.1, hh.2.1, hh.2.2⟩

/-- Nothing is appended to nothing. -/
theorem append_nothing (ad : Option Addr) (cap b : Nat) (ty : TypeId) (w : World) : (Builtin.append_ #[23, 23] ty #[.slice (some ⟨b, 0, none⟩) 0 0, .slice ad 0 cap]).run Tryd.prog w = .ok (.slice (some ⟨b, 0, none⟩) 0 0) w := by
  obtain ⟨i, hi, hz, hs, hb⟩ := info5'
  cases ad with
  | none =>
    have := run_append_room_src (P := Tryd.prog) w 23 23 ty 5 i Tryd.underlying23 hi b 0 0 0 (.slice none 0 cap) 0 [] (Src.ofNil w Tryd.underlying23 cap) (by omega) (by simp) (by simp)
    simpa [World.setCells] using this
  | some a =>
    have := run_append_room_src (P := Tryd.prog) w 23 23 ty 5 i Tryd.underlying23 hi b 0 0 0 (.slice (some a) 0 cap) 0 [] (Src.ofSlice w Tryd.underlying23 a 0 cap [] (by simp) (by simp) (by simp)) (by omega) (by simp) (by simp)
    simpa [World.setCells] using this

theorem wpList_app0 {w : World} {ops : Array Oper} {rest : List Oper} {o : Oper} {a : Act} {Q : Exit → Act → World → Prop} (hgd : o.guard = none) (s x : Operand)
    (ho : o.op = .call { callee := .builtin .append, args := #[s, x], argTypes := #[23, 23] }) (b cap : Nat) (ad : Option Addr) (hs : a.eval s = .slice (some ⟨b, 0, none⟩) 0 0) (hx : a.eval x = .slice ad 0 cap)
    (h : wpList Tryd.prog ops Q rest (a.put o.dst (.slice (some ⟨b, 0, none⟩) 0 0)) w) : wpList Tryd.prog ops Q (o :: rest) a w := by
  refine wpList_plain hgd fun K hK => ?_
  have hrun := append_nothing ad cap b o.type w
  unfold Oper.wp
  simp [execOp, ho, resolve, invoke, builtin, hs, hx, hrun, Result.andThen]
  exact hK _ _ h

set_option maxHeartbeats 1000000 in
theorem rPut_none (ad : Option Addr) (cap : Nat) (a size n : Int) (w : World) (hs0 : 0 ≤ size) (hs1 : size ≤ 6) (ha0 : -1000000000000 ≤ a) (ha1 : a ≤ 1000000000000) :
    Calls Tryd.prog 39 #[.slice ad 0 cap, .int .i64 a, .int .i64 size, .int .i64 n] w fun e w' => ∃ g c', e = .returned (.slice (some ⟨g, 0, none⟩) 0 c') ∧ Below w.heap.size w w' ∧ g < w'.heap.size ∧ w.heap.size ≤ g := by
  go_enter Tryd.func39, Tryd.ntmps39
  go_wp2_with (at_builtin; refine wpList_app0 rfl _ _ rfl _ _ _ rfl rfl ?_)
  go_loop [16] (fun i => ∃ k : Nat, k ≤ size.toNat ∧ i = .int .i64 k) (fun i => size.toNat - (intOf i).toNat)
  case atStart => exact ⟨0, Nat.zero_le _, rfl⟩
  case round =>
    obtain ⟨k, hk, rfl⟩ := hrel
    by_cases hlt : k < size.toNat
    · have hk' : (k : Int) < size := by omega
      by_cases h0 : 0 ≤ a + size - 1 - k
      · have h1 : ¬ a + size - 1 - k < 0 := by omega
        go_wp2
        exact ⟨⟨k + 1, by omega, by go_num⟩, by simp [intOf]; omega⟩
      · go_wp2
        exact ⟨⟨k + 1, by omega, by go_num⟩, by simp [intOf]; omega⟩
    · have hk' : ¬ (k : Int) < size := by omega
      go_wp2
      go_ret
      exact ⟨w.heap.size, ⟨0, rfl⟩, (Below.refl _ _).alloc (Nat.le_refl _) _, by simp, Nat.le_refl _⟩

/-- The byte at place i behind k steps of the document's Put. -/
def putK (bs : Nat → Int) (a size n : Int) (k i : Nat) : Int := if 0 ≤ a + size - 1 - (i : Int) ∧ a + size - 1 - (i : Int) < (k : Int) then putAt bs a size n i else bs i

theorem putK_step {wr : World} {g len k : Nat} {bs : Nat → Int} {a size n : Int} {p : Nat} (hp : (p : Int) = a + size - 1 - k) (hk : (k : Int) < size) (hlt : p < len)
    (hc : ∀ i, i < len → wr.cell? ⟨g, i, none⟩ = some (.int .u8 (putK bs a size n k i))) :
    ∀ i, i < len → (wr.setCell ⟨g, p, none⟩ (.int .u8 (n / 2 ^ (8 * (k : Int)).toNat % 256))).cell? ⟨g, i, none⟩ = some (.int .u8 (putK bs a size n (k + 1) i)) := by
  intro i hi
  by_cases h : i = p
  · subst h
    rw [World.cell?_setCell_same _ _ _ (hc i hlt)]
    unfold putK
    rw [if_pos (by omega)]
    unfold putAt
    rw [if_pos (by omega), show size - 1 - ((i : Int) - a) = k by omega]
  · rw [World.cell?_setCell_other _ _ _ _ (by intro e; cases e; exact h rfl), hc i hi]
    unfold putK
    by_cases h2 : 0 ≤ a + size - 1 - (i : Int) ∧ a + size - 1 - (i : Int) < (k : Int)
    · rw [if_pos h2, if_pos (by omega)]
    · rw [if_neg h2, if_neg (by omega)]

theorem putK_skip {wr : World} {g len k : Nat} {bs : Nat → Int} {a size n : Int} (ho : ¬ (0 ≤ a + size - 1 - (k : Int) ∧ a + size - 1 - (k : Int) < (len : Int)))
    (hc : ∀ i, i < len → wr.cell? ⟨g, i, none⟩ = some (.int .u8 (putK bs a size n k i))) :
    ∀ i, i < len → wr.cell? ⟨g, i, none⟩ = some (.int .u8 (putK bs a size n (k + 1) i)) := by
  intro i hi
  rw [hc i hi]
  unfold putK
  by_cases h2 : 0 ≤ a + size - 1 - (i : Int) ∧ a + size - 1 - (i : Int) < (k : Int)
  · rw [if_pos h2, if_pos (by omega)]
  · rw [if_neg h2, if_neg (by omega)]

theorem putK_end (bs : Nat → Int) (a size n : Int) (k i : Nat) (hk : (k : Int) = size) : putK bs a size n k i = putAt bs a size n i := by
  unfold putK
  split
  · rfl
  · unfold putAt
    rw [if_neg (by omega)]

theorem own_cells {w1 : World} {B g len c1 : Nat} {bs : Nat → Int} {a size n : Int} (h : w1.ownsRow B 5 1 (.slice (some ⟨g, 0, none⟩) len c1) len (rowOf bs len)) :
    (∀ i, i < len → w1.cell? ⟨g, i, none⟩ = some (.int .u8 (putK bs a size n 0 i))) ∧ ∀ i, w1.frozen? ⟨g, i, none⟩ = false := by
  obtain ⟨_, h⟩ := h
  rcases h with ⟨h, _⟩ | ⟨g', cap', cur, hv, _, hh, _, _, _, htk⟩
  · simp at h
  · simp only [Value.slice.injEq, Option.some.injEq, Addr.mk.injEq, and_true, true_and] at hv
    obtain ⟨rfl, _⟩ := hv
    refine ⟨fun i hi => ?_, fun i => by simp [World.frozen?, hh]⟩
    have h2 := congrArg (fun l => l[i]?) htk
    simp only [Nat.mul_one, List.getElem?_take_of_lt hi] at h2
    have h3 : (rowOf bs len)[i]? = some (.int .u8 (bs i)) := by simp [rowOf, hi]
    rw [h3] at h2
    have h4 : putK bs a size n 0 i = bs i := by unfold putK; rw [if_neg (by omega)]
    rw [h4]
    simpa [World.cell?, hh] using h2

set_option maxHeartbeats 1000000 in
theorem rPut_some (b off len cap : Nat) (bs : Nat → Int) (a size n : Int) (w : World) (hpos : 0 < len) (hlen : len ≤ 140737488351232)
    (hrow : ∀ i, i < len → w.cell? ⟨b, off + i, none⟩ = some (.int .u8 (bs i)))
    (hs0 : 0 ≤ size) (hs1 : size ≤ 6) (ha0 : -1000000000000 ≤ a) (ha1 : a ≤ 1000000000000) :
    Calls Tryd.prog 39 #[.slice (some ⟨b, off, none⟩) len cap, .int .i64 a, .int .i64 size, .int .i64 n] w fun e w' => ∃ g c', e = .returned (.slice (some ⟨g, 0, none⟩) len c') ∧ Below w.heap.size w w' ∧ g < w'.heap.size ∧ w.heap.size ≤ g ∧ ∀ i, i < len → w'.cell? ⟨g, i, none⟩ = some (.int .u8 (putAt bs a size n i)) := by
  obtain ⟨i5, hi5, hz5, hsz5, hby5⟩ := info5'
  have hb : b < w.heap.size := World.block_lt_of_cell? w _ (hrow 0 hpos)
  have hown : (w.alloc (.cells #[] 5)).ownsRow w.heap.size 5 1 (.slice (some ⟨w.heap.size, 0, none⟩) 0 0) 0 [] := World.ownsRow_made w #[] 0 (Nat.le_refl _) (by simp) rfl
  have hnl : (rowOf bs len).length = len * 1 := by simp [rowOf]
  have hnews : ∀ j u, (rowOf bs len)[j]? = some u → (w.alloc (.cells #[] 5)).cell? ((⟨b, off, none⟩ : Addr).add j) = some u := by
    intro j u hu
    by_cases hj : j < len
    · have hadd : (⟨b, off, none⟩ : Addr).add j = ⟨b, off + j, none⟩ := by simp [Addr.add]
      rw [hadd, World.cell?_alloc_lt _ _ _ (by simpa using hb), hrow j hj]
      simpa [rowOf, hj] using hu
    · simp [rowOf, hj] at hu
  have hone : ∀ u ∈ rowOf bs len, u.oneCell' = true := by
    intro v hv
    simp [rowOf] at hv
    obtain ⟨i, _, rfl⟩ := hv
    rfl
  have H63 : 0 + len ≤ maxLen := by unfold maxLen; omega
  have HBY : (0 + len) * 1 ≤ 140737488355328 := by omega
  have HBA : w.heap.size ≤ (w.alloc (.cells #[] 5)).heap.size := by simp
  have HSZ : (w.alloc (.cells #[] 5)).heap.size = w.heap.size + 1 := by simp
  go_enter Tryd.func39, Tryd.ntmps39
  go_wp2_with (at_builtin; refine wpList_append_lies _ rfl _ _ 23 rfl w.heap.size 5 i5 (.int .u8 0) 1 1 Tryd.underlying23 hi5 hz5 hsz5 hby5 rfl (by omega) (.slice (some ⟨w.heap.size, 0, none⟩) 0 0) 0 [] rfl hown ⟨b, off, none⟩ len cap (rowOf bs len) rfl hnl hnews hone hpos H63 HBY HBA (w.heap.size + 1) HSZ ?_; intro g c1 w1 hown1 hgrow hat hglt; clear hown hnl hnews hone H63 HBY HBA HSZ)
  have HG : Hid (Below w.heap.size w w1) := ((Below.refl w.heap.size w).alloc (Nat.le_refl _) _).grown hgrow (by simp) (fun k hk => by simp [Value.ownBlock] at hk; omega)
  have hge : w.heap.size ≤ g := by
    rcases hat with h | h
    · simp [Value.ownBlock] at h; omega
    · omega
  have HC : Hid ((∀ i, i < len → w1.cell? ⟨g, i, none⟩ = some (.int .u8 (putK bs a size n 0 i))) ∧ ∀ i, w1.frozen? ⟨g, i, none⟩ = false) := own_cells (by simpa using hown1)
  clear hown1 hgrow hat hi5 hz5 hsz5 hby5
  go_wp2_with fail
  go_loopw [16] (fun i wr => ∃ k : Nat, k ≤ size.toNat ∧ i = .int .i64 k ∧ Below w.heap.size w wr ∧ g < wr.heap.size ∧ (∀ i, i < len → wr.cell? ⟨g, i, none⟩ = some (.int .u8 (putK bs a size n k i))) ∧ (∀ i, wr.frozen? ⟨g, i, none⟩ = false)) (fun i _ => size.toNat - (intOf i).toNat)
  case atStart => exact ⟨0, Nat.zero_le _, rfl, HG.out, hglt, HC.out.1, HC.out.2⟩
  case round =>
    obtain ⟨k, hk, rfl, hB, hz, hcell, hfro⟩ := hrel
    have HC2 : Hid (∀ i, i < len → wr.cell? ⟨g, i, none⟩ = some (.int .u8 (putK bs a size n k i))) := hcell
    have HF2 : Hid (∀ i, wr.frozen? ⟨g, i, none⟩ = false) := hfro
    clear hcell hfro HC
    by_cases hlt : k < size.toNat
    · have hk' : (k : Int) < size := by omega
      by_cases h0 : 0 ≤ a + size - 1 - (k : Int)
      · by_cases h1 : a + size - 1 - (k : Int) < (len : Int)
        · obtain ⟨p, hp⟩ : ∃ p : Nat, (p : Int) = a + size - 1 - k := ⟨(a + size - 1 - (k : Int)).toNat, by omega⟩
          have hpt : (a + size - 1 - (k : Int)).toNat = p := by omega
          have hcp := HC2.out p (by omega)
          have hfp := HF2.out p
          have HP : Hid ((p : Int) = a + size - 1 - k) := hp
          clear hp
          go_wp2
          exact ⟨⟨k + 1, by omega, by go_num, hB.setCell hge _, by simpa using hz, putK_step HP.out hk' (by have := HP.out; omega) HC2.out, fun i => by rw [World.frozen?_setCell]; exact HF2.out i⟩, by simp [intOf]; omega⟩
        · go_wp2
          exact ⟨⟨k + 1, by omega, by go_num, hB, hz, putK_skip (by omega) HC2.out, HF2.out⟩, by simp [intOf]; omega⟩
      · go_wp2
        exact ⟨⟨k + 1, by omega, by go_num, hB, hz, putK_skip (by omega) HC2.out, HF2.out⟩, by simp [intOf]; omega⟩
    · have hk' : ¬ (k : Int) < size := by omega
      go_wp2
      go_ret
      exact ⟨g, ⟨c1, rfl⟩, hB, hz, hge, fun i hi => by rw [HC2.out i hi, putK_end bs a size n k i (by omega)]⟩

theorem rPut_any (ad : Option Addr) (len cap : Nat) (bs : Nat → Int) (a size n : Int) (w : World) (hlen : len ≤ 140737488351232)
    (hrow : 0 < len → ∃ b off, ad = some ⟨b, off, none⟩ ∧ ∀ i, i < len → w.cell? ⟨b, off + i, none⟩ = some (.int .u8 (bs i)))
    (hs0 : 0 ≤ size) (hs1 : size ≤ 6) (ha0 : -1000000000000 ≤ a) (ha1 : a ≤ 1000000000000) :
    Calls Tryd.prog 39 #[.slice ad len cap, .int .i64 a, .int .i64 size, .int .i64 n] w fun e w' => ∃ g c', e = .returned (.slice (some ⟨g, 0, none⟩) len c') ∧ Below w.heap.size w w' ∧ g < w'.heap.size ∧ w.heap.size ≤ g ∧ ∀ i, i < len → w'.cell? ⟨g, i, none⟩ = some (.int .u8 (putAt bs a size n i)) := by
  by_cases h : 0 < len
  · obtain ⟨b, off, rfl, hc⟩ := hrow h
    exact rPut_some b off len cap bs a size n w h hlen hc hs0 hs1 ha0 ha1
  · obtain rfl : len = 0 := by omega
    refine (rPut_none ad cap a size n w hs0 hs1 ha0 ha1).mono ?_
    rintro e w' ⟨g, c, he, hb, h1, h2⟩
    exact ⟨g, c, he, hb, h1, h2, fun i hi => by omega⟩

/-- Bytes as a text. -/
def strOf (f : Nat → Int) (len : Nat) : ByteArray := strOfNums ((List.range len).map f)
theorem conv_any (w : World) (g len cap : Nat) (f : Nat → Int) (h : ∀ i, i < len → w.cell? ⟨g, i, none⟩ = some (.int .u8 (f i))) : (convert 23 9 (.slice (some ⟨g, 0, none⟩) len cap)).run Tryd.prog w = .ok (.string (strOf f len)) w := by
  refine run_convert_bytes_arg w 23 5 Tryd.underlying23 Tryd.underlying5 g 0 len cap ((List.range len).map f) (by simp) (fun i hi => ?_) 9 Tryd.underlying9
  rw [Nat.zero_add, h i hi]
  simp [hi]

end Go.Proofs.YtabepbaldadmgaaDoor.Isa
