/- The contract of isa.Put: a number of at most six bytes. asm: the bytes of a number. Bytes of one's own in memory, and bytes put behind them (as link's texts have it). -/
import Derived.Test.YtagkmgdjkailkaaGreatDoorPut26
import Derived.Laws.CopyOwn
import Derived.Deep.OwnRows
import Derived.Test.YtagkmgdjkailkaaGreatDoorPut21
import Derived.Maps.OwnOps
import Derived.Maps.OwnSet
import Derived.Deep.AppendSrc
import Derived.Lib.ConvBytes
import Derived.Deep.Upon
namespace Go.Proofs.YtagkmgdjkailkaaGreatDoor.Isa
open Go.RowKit

theorem info5 : (Tryz.prog.info? 5).map (fun i => (i.zero, i.size, i.bytes)) = some (some (.int .u8 0), 1, 1) := by kernel_rfl
theorem size5 : (Tryz.prog.info? 5).map (·.size) = some 1 := by kernel_rfl

/-- The byte at place i behind a Put. -/
def putAt (bs : Nat → Int) (a size n : Int) (i : Nat) : Int :=
  if 0 ≤ (i : Int) - a ∧ (i : Int) - a < size then n / 2 ^ (8 * (size - 1 - ((i : Int) - a))).toNat % 256 else bs i

def rowOf (bs : Nat → Int) (len : Nat) : List Value := (List.range len).map fun i => .int .u8 (bs i)

theorem put_step {wr : World} {g len p : Nat} {bs : Nat → Int} {a size n : Int} (hlt : p < len)
    (hc : ∀ i, i < len → wr.cell? ⟨g, i, none⟩ = some (.int .u8 (if i < p then putAt bs a size n i else bs i))) (hin : 0 ≤ (p : Int) - a ∧ (p : Int) - a < size) :
    ∀ i, i < len → (wr.setCell ⟨g, p, none⟩ (.int .u8 (n / 2 ^ (8 * (size - 1 - ((p : Int) - a))).toNat % 256))).cell? ⟨g, i, none⟩ = some (.int .u8 (if i < p + 1 then putAt bs a size n i else bs i)) := by
  intro i hi
  by_cases h : i = p
  · subst h
    rw [World.cell?_setCell_same _ _ _ (hc i hlt), if_pos (by omega)]
    unfold putAt
    rw [if_pos hin]
  · rw [World.cell?_setCell_other _ _ _ _ (by intro e; cases e; exact h rfl), hc i hi]
    by_cases h2 : i < p
    · rw [if_pos h2, if_pos (by omega)]
    · rw [if_neg h2, if_neg (by omega)]

theorem put_skip {wr : World} {g len p : Nat} {bs : Nat → Int} {a size n : Int}
    (hc : ∀ i, i < len → wr.cell? ⟨g, i, none⟩ = some (.int .u8 (if i < p then putAt bs a size n i else bs i))) (hin : ¬ (0 ≤ (p : Int) - a ∧ (p : Int) - a < size)) :
    ∀ i, i < len → wr.cell? ⟨g, i, none⟩ = some (.int .u8 (if i < p + 1 then putAt bs a size n i else bs i)) := by
  intro i hi
  rw [hc i hi]
  by_cases h : i = p
  · subst h
    rw [if_neg (by omega), if_pos (by omega)]
    unfold putAt
    rw [if_neg hin]
  · by_cases h2 : i < p
    · rw [if_pos h2, if_pos (by omega)]
    · rw [if_neg h2, if_neg (by omega)]

set_option maxHeartbeats 1000000 in
theorem put_any (ad : Option Addr) (len cap : Nat) (bs : Nat → Int) (a size n : Int) (w : World) (hlen : len ≤ 281474976710656)
    (hrow : 0 < len → ∃ b off, ad = some ⟨b, off, none⟩ ∧ ∀ i, i < len → w.cell? ⟨b, off + i, none⟩ = some (.int .u8 (bs i)))
    (hs0 : 0 ≤ size) (hs1 : size ≤ 6) (ha0 : -1000000000 ≤ a) (ha1 : a ≤ 9223372036854775000) :
    Calls Tryz.prog 92 #[.slice ad len cap, .int .i64 a, .int .i64 size, .int .i64 n] w fun e w' => e = .returned (.slice (some ⟨w.heap.size, 0, none⟩) len len) ∧ Below w.heap.size w w' ∧ w.heap.size < w'.heap.size ∧ ∀ i, i < len → w'.cell? ⟨w.heap.size, i, none⟩ = some (.int .u8 (putAt bs a size n i)) := by
  have hmk := run_make_row' (P := Tryz.prog) 24 5 (.int .u8 0) 1 Tryz.underlying24 info5 rfl .i64 .i64 len (by omega) (by omega)
  have hsrc : 0 < (rowOf bs len).length → (some (⟨w.heap.size, 0, none⟩ : Addr)) = some ⟨w.heap.size, 0, none⟩ ∧ ∃ x, ad = some x ∧ ∀ j v, (rowOf bs len)[j]? = some v → (w.alloc (.cells (madeCells #[.int .u8 0] len) 5)).cell? (x.add j) = some v := by
    intro h0
    refine ⟨rfl, ?_⟩
    obtain ⟨b, off, rfl, hc⟩ := hrow (by simpa [rowOf] using h0)
    refine ⟨_, rfl, fun j v hv => ?_⟩
    by_cases hj : j < len
    · have := hc j hj
      have hb : b < w.heap.size := World.block_lt_of_cell? w _ this
      have hadd : (⟨b, off, none⟩ : Addr).add j = ⟨b, off + j, none⟩ := by simp [Addr.add]
      rw [hadd, World.cell?_alloc_lt _ _ _ (by simpa using hb), this]
      simpa [rowOf, hj] using hv
    · simp [rowOf, hj] at hv
  have hone : ∀ v ∈ rowOf bs len, v.oneCell' = true := by
    intro v hv
    simp [rowOf] at hv
    obtain ⟨i, _, rfl⟩ := hv
    rfl
  have hrl : (rowOf bs len).length = len := by simp [rowOf]
  have H1 : (w.alloc (.cells (madeCells #[.int .u8 0] len) 5)).heap[w.heap.size]? = some (.cells (madeCells #[.int .u8 0] len).toList.toArray 5 (0, 0)) := by
    rw [heap_alloc_new]
  have H2 : (rowOf bs len).length = Nat.min len len := by rw [hrl]; simp
  have H3 : 0 + (rowOf bs len).length ≤ (madeCells #[.int .u8 0] len).toList.length := by rw [hrl]; simp [size_madeCells]
  have H4 : Below w.heap.size w (w.alloc (.cells (madeCells #[.int .u8 0] len) 5)) := (Below.refl _ _).alloc (Nat.le_refl _) _
  have hspl : splice (madeCells #[.int .u8 0] len).toList 0 (rowOf bs len) = rowOf bs len := by
    simp [splice, hrl, size_madeCells]
  have HSPL : Hid (splice (madeCells #[.int .u8 0] len).toList 0 (rowOf bs len) = rowOf bs len) := hspl
  clear hspl hrl hrow
  go_enter Tryz.func92, Tryz.ntmps92
  go_wp2_with (refine wpList_copy_splice rfl _ _ 24 24 rfl 5 Tryz.underlying24 size5 _ _ len len len cap rfl rfl w.heap.size 0 (madeCells #[.int .u8 0] len).toList 5 H1 (rowOf bs len) H2 hsrc H3 hone w.heap.size w H4 (Nat.le_refl _) ?_; intro w2 HR hB2; clear H1 H2 H3 H4 hsrc hone hmk)
  have HR' : w2.heap[w.heap.size]? = some (.cells (rowOf bs len).toArray 5 (0, 0)) := by rw [← HSPL.out]; exact HR.out
  have hz2 : w.heap.size < w2.heap.size := by
    by_cases h : w.heap.size < w2.heap.size
    · exact h
    · rw [Array.getElem?_eq_none (by omega)] at HR'; simp at HR'
  have hcell2 : ∀ i, i < len → w2.cell? ⟨w.heap.size, i, none⟩ = some (.int .u8 (bs i)) := by
    intro i hi
    simp [World.cell?, HR', rowOf, hi]
  have hfro2 : ∀ i, w2.frozen? ⟨w.heap.size, i, none⟩ = false := by
    intro i
    simp [World.frozen?, HR']
  clear HR HR' HSPL
  go_loopw [20] (fun i wr => ∃ p : Nat, p ≤ len ∧ i = .int .i64 p ∧ Below w.heap.size w wr ∧ w.heap.size < wr.heap.size ∧ (∀ i, i < len → wr.cell? ⟨w.heap.size, i, none⟩ = some (.int .u8 (if i < p then putAt bs a size n i else bs i))) ∧ (∀ i, wr.frozen? ⟨w.heap.size, i, none⟩ = false)) (fun i _ => len - (intOf i).toNat)
  case atStart => exact ⟨0, Nat.zero_le _, rfl, hB2, hz2, by simpa using hcell2, hfro2⟩
  case round =>
    obtain ⟨p, hp, rfl, hB, hz, hcell, hfro⟩ := hrel
    clear hcell2 hfro2 hB2 hz2
    by_cases hlt : p < len
    · have hp1 : (p : Int) < (len : Int) := by omega
      have hcp := hcell p hlt
      have hfp := hfro p
      have HC : Hid (∀ i, i < len → wr.cell? ⟨w.heap.size, i, none⟩ = some (.int .u8 (if i < p then putAt bs a size n i else bs i))) := hcell
      have HF : Hid (∀ i, wr.frozen? ⟨w.heap.size, i, none⟩ = false) := hfro
      rw [if_neg (by omega)] at hcp
      clear hcell hfro
      by_cases hin : 0 ≤ (p : Int) - a ∧ (p : Int) - a < size
      · obtain ⟨hi0, hi1⟩ := hin
        go_wp2
        exact ⟨⟨p + 1, by omega, by go_num, hB.setCell (Nat.le_refl _) _, by simpa using hz, put_step hlt HC.out ⟨hi0, hi1⟩, fun i => by rw [World.frozen?_setCell]; exact HF.out i⟩, by simp [intOf]; omega⟩
      · by_cases hi0 : 0 ≤ (p : Int) - a
        · have hi1 : ¬ (p : Int) - a < size := by omega
          go_wp2
          exact ⟨⟨p + 1, by omega, by go_num, hB, hz, put_skip HC.out (by omega), HF.out⟩, by simp [intOf]; omega⟩
        · go_wp2
          exact ⟨⟨p + 1, by omega, by go_num, hB, hz, put_skip HC.out (by omega), HF.out⟩, by simp [intOf]; omega⟩
    · have hp1 : ¬ (p : Int) < (len : Int) := by omega
      have HC : Hid (∀ i, i < len → wr.cell? ⟨w.heap.size, i, none⟩ = some (.int .u8 (putAt bs a size n i))) := by
        intro i hi
        have := hcell i hi
        rwa [if_pos (by omega)] at this
      clear hcell hfro
      go_wp2
      go_ret
      exact ⟨rfl, hB, hz, HC.out⟩

end Go.Proofs.YtagkmgdjkailkaaGreatDoor.Isa

namespace Go.Proofs.YtagkmgdjkailkaaGreatDoor
open Go.RowKit

set_option maxHeartbeats 4000000 in
theorem number1_any (p s : Int) (gu gs gv : Nat) (size : Nat) (n : Int) (w : World) (hs : w.cell? ⟨gs, 0, none⟩ = some (.int .i64 size)) (hv0 : w.cell? ⟨gv, 0, none⟩ = some (.string ⟨#[]⟩)) (hv1 : w.cell? ⟨gv, 1, none⟩ = some (.int .i64 n)) (h4 : size ≤ 4) (hgs : gs < w.heap.size) (hgv : gv < w.heap.size) :
    Calls Tryz.prog 91 #[.int .i64 p, .int .i64 s, .pointer (some ⟨gv, 0, none⟩), .pointer (some ⟨gs, 0, none⟩), .pointer (some ⟨gu, 0, none⟩)] w fun r w' =>
      (∃ g, r = .returned (.tuple #[.slice (some ⟨g, 0, none⟩) size size, .int .i64 0]) ∧ w.heap.size ≤ g ∧ g < w'.heap.size ∧ ∀ i, i < size → w'.cell? ⟨g, i, none⟩ = some (.int .u8 (Isa.putAt (fun _ => 0) 0 size n i))) ∧ Below w.heap.size w w' := by
  have hm := fun W => makeB size (by omega) W
  have HZ : Hid (∀ i, i < size → (w.alloc (.cells (madeCells #[.int .u8 0] size) 5)).cell? ⟨w.heap.size, i, none⟩ = some (.int .u8 0)) := fun i hi =>
    (World.rowIs_made w (.int .u8 0) size 5).cell hi
  have HP : Hid (∀ W, Below w.heap.size w W → (∀ i, i < size → W.cell? ⟨w.heap.size, i, none⟩ = some (.int .u8 0)) → Calls Tryz.prog 92 #[.slice (some ⟨w.heap.size, 0, none⟩) size size, .int .i64 0, .int .i64 size, .int .i64 n] W fun e w' => ∃ g, e = .returned (.slice (some ⟨g, 0, none⟩) size size) ∧ w.heap.size ≤ g ∧ g < w'.heap.size ∧ (∀ i, i < size → w'.cell? ⟨g, i, none⟩ = some (.int .u8 (Isa.putAt (fun _ => 0) 0 size n i))) ∧ Below w.heap.size w w') := by
    intro W hW hc
    refine (Isa.put_any (some ⟨w.heap.size, 0, none⟩) size size (fun _ => 0) 0 size n W (by omega) (fun _ => ⟨w.heap.size, 0, rfl, fun i hi => by rw [Nat.zero_add]; exact hc i hi⟩) (by omega) (by omega) (by omega) (by omega)).mono ?_
    rintro e w' ⟨rfl, hb, hlt, hcell⟩
    exact ⟨_, rfl, hW.size, hlt, hcell, hW.trans (hb.mono hW.size)⟩
  go_enter Tryz.func91, Tryz.ntmps91
  go_wp2
  go_region_with (go_at_call 92; refine (HP.out _ (by repeat' first | exact oalloc w _ | apply Below.drew) (by intro i hi; exact HZ.out i hi)).mono ?_; rintro e w2 ⟨g, rfl, hg1, hg2, hc2, hb2⟩)
  all_goals go_wp2
  all_goals go_ret2
  all_goals exact ⟨⟨g, rfl, hg1, hg2, hc2⟩, hb2⟩

end Go.Proofs.YtagkmgdjkailkaaGreatDoor

namespace Go.Proofs.YtagkmgdjkailkaaGreatDoor
open Go.RowKit

def bcells (l : List UInt8) : List Value := l.map fun c => .int .u8 (c.toNat : Int)
theorem bcells_len (l : List UInt8) : (bcells l).length = l.length * 1 := by simp [bcells]
theorem bcells_one (l : List UInt8) : ∀ v ∈ bcells l, v.oneCell' = true := by
  intro v hv
  obtain ⟨c, _, rfl⟩ := List.mem_map.1 hv
  rfl
theorem addr_add (b o j : Nat) : (⟨b, o, none⟩ : Addr).add j = ⟨b, o + j, none⟩ := by unfold Addr.add; split <;> simp_all
def Out (w : World) (base : Nat) (v : Value) (l : List UInt8) : Prop := w.ownsRow base 5 1 v l.length (bcells l) ∧ base ≤ w.heap.size
theorem Out.lt {w : World} {base : Nat} {v : Value} {l : List UInt8} (h : Out w base v l) : ∀ k, v.ownBlock = some k → base ≤ k ∧ k < w.heap.size := h.1.lt
theorem Out.other {w : World} {base : Nat} {v : Value} {l : List UInt8} (h : Out w base v l) {b : Nat} {c : Array Value} {t : TypeId} {f : Nat × Nat} (hb : w.heap[b]? = some (.cells c t f)) (ht : t ≠ 5) : some b ≠ v.ownBlock := by
  rcases h.1.2 with ⟨rfl, _⟩ | ⟨g, cap, cur, rfl, _, hg, _⟩
  · simp [Value.ownBlock]
  · intro e
    simp only [Value.ownBlock, Option.some.injEq] at e
    subst e
    rw [hb] at hg
    injection hg with hg
    injection hg with _ h2
    exact ht h2
theorem Out.box {w w' : World} {base : Nat} {v : Value} {l : List UInt8} (h : Out w base v l) (hg : w.grownBy w' v.ownBlock) {b : Nat} {c : Array Value} {t : TypeId} {f : Nat × Nat} (hb : w.heap[b]? = some (.cells c t f)) (ht : t ≠ 5) : w'.heap[b]? = some (.cells c t f) := by
  rw [hg.block b (Array.getElem?_eq_some_iff.1 hb).1 (h.other hb ht)]
  exact hb
theorem Out.alloc {w : World} {base : Nat} {v : Value} {l : List UInt8} (h : Out w base v l) (o : Obj) : Out (w.alloc o) base v l := ⟨h.1.alloc o, by have := h.2; simp; omega⟩
theorem Out.below {w w' : World} {base B : Nat} {v : Value} {l : List UInt8} (h : Out w base v l) (hb : Below B w w') (hB : w.heap.size ≤ B) : Out w' base v l :=
  ⟨h.1.kept (ogbelow none hb hB) (by cases v.ownBlock <;> simp), Nat.le_trans h.2 hb.size⟩
theorem Out.grown {w0 w w' : World} {base B : Nat} {v : Value} {l : List UInt8} (h : Out w base v l) (hb : Below B w0 w) (hg : w.grownBy w' v.ownBlock) (hB : B ≤ base) : Below B w0 w' :=
  hb.grown hg (Nat.le_trans hB h.2) (fun j hj => Nat.le_trans hB (h.lt j hj).1)
theorem Out.bytes {w : World} {base : Nat} {v : Value} {l : List UInt8} (h : Out w base v l) (hl : l.length ≤ maxLen) : OBytes w v l := by
  rcases h.1.2 with ⟨rfl, h0⟩ | ⟨g, cap, cur, rfl, _, hg, _, _, _, htake⟩
  · exact ⟨none, 0, by rw [h0], hl, fun h1 => by omega⟩
  · refine ⟨_, cap, rfl, hl, fun _ => ⟨g, 0, rfl, (Array.getElem?_eq_some_iff.1 hg).1, fun i hi => ?_⟩⟩
    have := h.1.cells (g := g) rfl i (.int .u8 (l[i].toNat : Int)) (by simp [bcells, hi])
    rwa [addr_add] at this
theorem bcells_app (a b : List UInt8) : bcells (a ++ b) = bcells a ++ bcells b := by simp [bcells]
theorem app_bytes {w : World} {base : Nat} {v : Value} {l : List UInt8} (ho : Out w base v l) (a : Addr) (m c : Nat) (news : List UInt8) (hm : news.length = m) (hsrc : ∀ j u, (bcells news)[j]? = some u → w.cell? (a.add j) = some u) (hl : l.length + m ≤ 140737488355328) :
    ∃ v' w', (∀ ty, (Builtin.append_ #[24, 24] ty #[v, .slice (some a) m c]).run Tryz.prog w = .ok v' w') ∧ Out w' base v' (l ++ news) ∧ w.grownBy w' v.ownBlock := by
  obtain ⟨i, hi, hz0, hz1, hz2⟩ := info_parts infoB
  have key := fun ty => run_append_own (P := Tryz.prog) w base 24 ty 5 i _ 1 1 Tryz.underlying24 hi hz0 hz1 hz2 rfl (by decide) v l.length (bcells l) ho.1 a m c (bcells news) (by rw [bcells_len, hm]) hsrc (bcells_one news) (by unfold maxLen; omega) (by omega) ho.2
  obtain ⟨v', w', hr, h2, h3, _⟩ := key 0
  refine ⟨v', w', fun ty => ?_, ⟨?_, Nat.le_trans ho.2 h3.size⟩, h3⟩
  · obtain ⟨v2, w2, hr2, _⟩ := key ty
    have e : (Builtin.append_ #[24, 24] ty #[v, .slice (some a) m c]).run Tryz.prog w = (Builtin.append_ #[24, 24] 0 #[v, .slice (some a) m c]).run Tryz.prog w := rfl
    rw [e, hr]
  · rw [bcells_app, List.length_append, hm]
    exact h2
theorem app_obytes {w : World} {base : Nat} {v x : Value} {l news : List UInt8} (ho : Out w base v l) (hx : OBytes w x news) (hl : l.length + news.length ≤ 140737488355328) :
    ∃ v' w', (∀ ty, (Builtin.append_ #[24, 24] ty #[v, x]).run Tryz.prog w = .ok v' w') ∧ Out w' base v' (l ++ news) ∧ w.grownBy w' v.ownBlock := by
  obtain ⟨ad, cap, rfl, _, hc⟩ := hx
  by_cases h0 : 0 < news.length
  · obtain ⟨b, o, rfl, _, hcell⟩ := hc h0
    refine app_bytes ho ⟨b, o, none⟩ news.length cap news rfl (fun j u hj => ?_) hl
    rw [addr_add]
    simp only [bcells, List.getElem?_map, Option.map_eq_some_iff] at hj
    obtain ⟨c, hj, rfl⟩ := hj
    obtain ⟨hlt, rfl⟩ := List.getElem?_eq_some_iff.1 hj
    exact hcell j hlt
  · have hn : news = [] := List.eq_nil_of_length_eq_zero (by omega)
    subst hn
    obtain ⟨i, hi, _, hz1, _⟩ := info_parts infoB
    have key : ∃ a n c, v = .slice a n c ∧ n ≤ c := by
      rcases ho.1.2 with ⟨rfl, h⟩ | ⟨g, cap, cur, rfl, _, _, hnc, _⟩
      · exact ⟨none, 0, 0, rfl, Nat.le_refl _⟩
      · exact ⟨_, _, _, rfl, hnc⟩
    obtain ⟨a, n, c, rfl, hle⟩ := key
    refine ⟨_, w, fun ty => run_append_nothing (P := Tryz.prog) w 24 24 ty 5 i Tryz.underlying24 hi a n c hle _ ?_, by simpa using ho, World.grownBy.refl w _⟩
    cases ad with
    | none => exact Src.ofNil w Tryz.underlying24 cap
    | some ad => exact Src.ofSlice w Tryz.underlying24 ad 0 cap [] (by simp) (by simp) (by simp)

theorem cell_of_block {w : World} {b i : Nat} {c : Array Value} {t : TypeId} {f : Nat × Nat} {v : Value} (h : w.heap[b]? = some (.cells c t f)) (hv : c[i]? = some v) : w.cell? ⟨b, i, none⟩ = some v := by
  unfold World.cell?
  simp only [h]
  exact hv
theorem grown_block {w w' : World} {Q b : Nat} {o : Obj} (hg : w.grownBy w' (some Q)) (hb : w.heap[b]? = some o) (hne : b ≠ Q) : w'.heap[b]? = some o := by
  rw [hg.block b (Array.getElem?_eq_some_iff.1 hb).1 (by simpa using hne)]
  exact hb
theorem take_at {P : Program} {md : Region.Mode} {ops : Array Oper} {Q : Exit → Act → World → Prop} {S : World → Prop} (i d : Nat) {oi : Oper} {v : Value} {fuel : Nat} {listed : Array Bool} {T : Array Value} {D : List Deferred} {w : World} (hi : ops[i]? = some oi) (hd : oi.dst = some d)
    (hs : Region.noSelect ops = true) (hf : Region.free md ops listed i = true) (hr : (Region.ready md ops listed).contains i = true)
    (hQ : ∀ c a w, Q (.panic c) (a.put oi.dst v) w → Q (.panic c) a w) (hw : Region.wanted oi (yielded ops T) = true) (hy : ∀ w, S w → (execOp (Act.eval ⟨T, D⟩) oi).run P w = .ok (.value v) w) (hS : S w)
    (h : wpAnyH P md ops Q S fuel (listed.setIfInBounds i true) ⟨T.setIfInBounds d v, D⟩ w) : wpAnyH P md ops Q S (fuel + 1) listed ⟨T, D⟩ w := by
  refine wpAnyH_take hi hs hf hr hQ (Or.inl ⟨hw, hy⟩) hS ?_
  rw [hd]
  exact h
theorem step_app_eq {P : Program} {ops : Array Oper} {o : Oper} {a : Act} {w : World} {K : Act → World → Prop} {Q : Exit → Act → World → Prop} {E : Prop} (hgd : o.guard = none) (d : Nat) (hd : o.dst = some d) (sl x : Operand) (t u : TypeId)
    (ho : o.op = .call { callee := .builtin .append, args := #[sl, x], argTypes := #[t, u] }) (v v2 : Value) (hs : a.eval sl = v) (hx : a.eval x = v2) {v' : Value} {w' : World}
    (hr : ∀ ty, (Builtin.append_ #[t, u] ty #[v, v2]).run P w = .ok v' w') (h : K ⟨a.tmps.setIfInBounds d v', a.defers⟩ w') : if Region.wanted o (yielded ops a.tmps) = true then Oper.wp P o a w K Q else E := by
  have hw : Region.wanted o (yielded ops a.tmps) = true := by simp [Region.wanted, hgd]
  rw [if_pos hw]
  have hr := hr o.type
  unfold Oper.wp execOp
  simp only [ho, resolve, invoke, builtin, Sem.run_bind, Sem.run_pure, Result.andThen_ok, List.map_toArray, List.map_cons, List.map_nil, hs, hx, hr]
  show K (a.put o.dst v') w'
  rw [hd]
  exact h
theorem row_apart {W : World} {base base' size size' n n' : Nat} {e e' : TypeId} {v v' : Value} {ys ys' : List Value} (h : W.ownsRow base e size v n ys) (h' : W.ownsRow base' e' size' v' n' ys') (he : e ≠ e') : v'.ownBlock = none ∨ v'.ownBlock ≠ v.ownBlock := by
  rcases h'.2 with ⟨rfl, _⟩ | ⟨g', cap', cur', rfl, _, hg', _⟩
  · exact .inl rfl
  · refine .inr fun e0 => ?_
    rcases h.2 with ⟨rfl, _⟩ | ⟨g, cap, cur, rfl, _, hg, _⟩
    · simp [Value.ownBlock] at e0
    · simp only [Value.ownBlock, Option.some.injEq] at e0
      subst e0
      rw [hg] at hg'
      injection hg' with hg'
      injection hg' with _ h2
      exact he h2

end Go.Proofs.YtagkmgdjkailkaaGreatDoor
