/- The contract of scan's Print. -/
import Derived.Test.YtajeijhmlkbjgaaDoorSameA
import Derived.Laws.CopyOwn
import Derived.Deep.OwnRows
import Derived.Lib.ItoaMem
import Derived.Lib.AppendIntMem
import Derived.Lib.ItoaLen
namespace Go.Proofs.YtajeijhmlkbjgaaDoor
open Go.RowKit

/-- What is written of a token. -/
def prT (t : Tok) : List UInt8 := if t.kind = 2 then Lib.itoa t.n else t.text
def printL (ts : List Tok) : List UInt8 := Lib.join (ts.map prT) [32]
def prB (t : Tok) : ByteArray := ⟨(prT t).toArray⟩

def Fits (ts : List Tok) : Prop := ∀ i (h : i < ts.length), -9223372036854775808 ≤ ts[i].n ∧ ts[i].n ≤ 9223372036854775807

theorem info9 : (Tryd.prog.info? 9).map (fun i => (i.zero, i.size, i.bytes)) = some (some (.string ⟨#[]⟩), 1, 16) := by kernel_rfl

theorem made_at (w : World) (n i : Nat) (hi : i < n) : (w.alloc (.cells (madeCells #[.string ⟨#[]⟩] n) 9)).cell? ⟨w.heap.size, i, none⟩ = some (.string ⟨#[]⟩) := by
  have h := heap_alloc_new w (.cells (madeCells #[.string ⟨#[]⟩] n) 9)
  have h2 := toList_madeCells_one (.string ⟨#[]⟩) n
  unfold World.cell?
  simp only [h]
  rw [← Array.getElem?_toList, h2]
  simp [hi]
theorem made_fr (w : World) (n i : Nat) : (w.alloc (.cells (madeCells #[.string ⟨#[]⟩] n) 9)).frozen? ⟨w.heap.size, i, none⟩ = false := by
  have h := heap_alloc_new w (.cells (madeCells #[.string ⟨#[]⟩] n) 9)
  unfold World.frozen?
  simp only [h]
  simp

/-- The row of texts, of which the first k are written. -/
def Texts (wr : World) (g : Nat) (ts : List Tok) (k : Nat) : Prop :=
  (∀ i (h : i < ts.length), wr.cell? ⟨g, i, none⟩ = some (.string (if i < k then prB ts[i] else ⟨#[]⟩))) ∧ ∀ i, wr.frozen? ⟨g, i, none⟩ = false

theorem Texts.set {wr : World} {g k : Nat} {ts : List Tok} (h : Texts wr g ts k) (hk : k < ts.length) {x : ByteArray} (hx : x = prB ts[k]) : Texts (wr.setCell ⟨g, k, none⟩ (.string x)) g ts (k + 1) := by
  refine ⟨fun i hi => ?_, fun i => by rw [World.frozen?_setCell]; exact h.2 i⟩
  by_cases e : i = k
  · subst e
    rw [World.cell?_setCell_same _ _ _ (h.1 i hi), if_pos (by omega), hx]
  · rw [World.cell?_setCell_other _ _ _ _ (by intro e'; cases e'; exact e rfl), h.1 i hi]
    by_cases h2 : i < k
    · rw [if_pos h2, if_pos (by omega)]
    · rw [if_neg h2, if_neg (by omega)]

/-- Written twice at one place. -/
theorem Texts.set2 {wr : World} {g k : Nat} {ts : List Tok} (h : Texts wr g ts k) (hk : k < ts.length) {x y : ByteArray} (hx : x = prB ts[k]) : Texts ((wr.setCell ⟨g, k, none⟩ (.string y)).setCell ⟨g, k, none⟩ (.string x)) g ts (k + 1) := by
  have hc : (wr.setCell ⟨g, k, none⟩ (.string y)).cell? ⟨g, k, none⟩ = some (.string y) := World.cell?_setCell_same _ _ _ (h.1 k hk)
  refine ⟨fun i hi => ?_, fun i => by rw [World.frozen?_setCell, World.frozen?_setCell]; exact h.2 i⟩
  by_cases e : i = k
  · subst e
    rw [World.cell?_setCell_same _ _ _ hc, if_pos (by omega), hx]
  · rw [World.cell?_setCell_other _ _ _ _ (by intro e'; cases e'; exact e rfl), World.cell?_setCell_other _ _ _ _ (by intro e'; cases e'; exact e rfl), h.1 i hi]
    by_cases h2 : i < k
    · rw [if_pos h2, if_pos (by omega)]
    · rw [if_neg h2, if_neg (by omega)]

theorem Texts.below {w w' : World} {B g k : Nat} {ts : List Tok} (h : Texts w g ts k) (hb : Below B w w') (hg : g < B) : Texts w' g ts k :=
  ⟨fun i hi => by rw [hb.cell (by exact hg)]; exact h.1 i hi, fun i => by rw [hb.frozen (by exact hg)]; exact h.2 i⟩

theorem Texts.redo {wr w2 : World} {g k : Nat} {ts : List Tok} {x y : ByteArray} (h : Texts wr g ts k) (hk : k < ts.length) (hc : ∀ i, w2.cell? ⟨g, i, none⟩ = (wr.setCell ⟨g, k, none⟩ (.string y)).cell? ⟨g, i, none⟩) (hf : ∀ i, w2.frozen? ⟨g, i, none⟩ = false) (hx : x = prB ts[k]) : Texts (w2.setCell ⟨g, k, none⟩ (.string x)) g ts (k + 1) := by
  have hck : w2.cell? ⟨g, k, none⟩ = some (.string y) := by rw [hc]; exact World.cell?_setCell_same _ _ _ (h.1 k hk)
  refine ⟨fun i hi => ?_, fun i => by rw [World.frozen?_setCell]; exact hf i⟩
  by_cases e : i = k
  · subst e
    rw [World.cell?_setCell_same _ _ _ hck, if_pos (by omega), hx]
  · rw [World.cell?_setCell_other _ _ _ _ (by intro e'; cases e'; exact e rfl), hc, World.cell?_setCell_other _ _ _ _ (by intro e'; cases e'; exact e rfl), h.1 i hi]
    by_cases h2 : i < k
    · rw [if_pos h2, if_pos (by omega)]
    · rw [if_neg h2, if_neg (by omega)]

theorem itoa_any (n : Int) (h0 : -9223372036854775808 ≤ n) (h1 : n ≤ 9223372036854775807) (w : World) (hG : Glob w) :
    Calls Tryd.prog 54 #[.int .i64 n] w fun e w' => e = .returned (.string ⟨(Lib.itoa n).toArray⟩) ∧ Below w.heap.size w w' := by
  refine (Tryd.strconv_Itoa n h0 h1 w hG.tab).mono ?_
  rintro e w' ⟨rfl, k, os, rfl⟩
  exact ⟨rfl, Lib.below_grow _ _ (Nat.le_refl _) _ _⟩

theorem join_any (ts : List Tok) (w : World) (g : Nat) (hg : g < w.heap.size) (hX : Texts w g ts ts.length) (hn : ts.length ≤ 4398046511104) (hlen : (printL ts).length ≤ 140737488355328) :
    Calls Tryd.prog 55 #[.slice (some ⟨g, 0, none⟩) ts.length ts.length, .string ⟨#[32]⟩] w fun e w' => e = .returned (.string ⟨(printL ts).toArray⟩) ∧ Below w.heap.size w w' := by
  have hmap : (ts.map prB).map (·.data.toList) = ts.map prT := by
    rw [List.map_map]
    apply List.map_congr_left
    intro t _
    rfl
  have hl : (Lib.join ((ts.map prB).map (·.data.toList)) [32]).length ≤ 140737488355328 := by rw [hmap]; exact hlen
  have := Tryd.strings_Join g 0 ts.length (ts.map prB) ⟨#[32]⟩ w (fun j x hx => by
    rw [List.getElem?_map] at hx
    obtain ⟨t, ht, rfl⟩ := Option.map_eq_some_iff.1 hx
    obtain ⟨hj, rfl⟩ := List.getElem?_eq_some_iff.1 ht
    have := hX.1 j hj
    rw [if_pos hj] at this
    rw [Nat.zero_add]
    exact this) hg (by rw [List.length_map]; omega) (by rw [List.length_map]; exact Nat.le_refl _) hl
  rw [List.length_map] at this
  refine this.mono ?_
  rintro e w' ⟨rfl, hb⟩
  refine ⟨?_, hb⟩
  unfold printL
  rw [← hmap]

set_option maxHeartbeats 1000000 in
theorem print_any (v : Value) (ts : List Tok) (w : World) (hG : Glob w) (hv : TReads w v ts) (hn : ts.length ≤ 4398046511104) (hf : Fits ts) (hlen : (printL ts).length ≤ 140737488355328) :
    Calls Tryd.prog 32 #[v] w fun e w' => e = .returned (.string ⟨(printL ts).toArray⟩) ∧ Below w.heap.size w w' := by
  obtain ⟨ad, ca, rfl, hm, hca⟩ := hv
  have hmk := run_make_row' (P := Tryd.prog) 91 9 (.string ⟨#[]⟩) 16 Tryd.underlying91 info9 rfl .i64 .i64 ts.length (by omega) (by omega)
  have hG0 : Hid (Glob w) := hG
  have hsz := hG.sz
  clear hm hG
  go_enter Tryd.func32, Tryd.ntmps32
  go_wp2
  go_loopw [11] (fun i wr => ∃ k : Nat, k ≤ ts.length ∧ i = .int .i64 k ∧ Below w.heap.size w wr ∧ w.heap.size < wr.heap.size ∧ Hid (Texts wr w.heap.size ts k)) (fun i _ => ts.length - (intOf i).toNat)
  case atStart =>
    refine ⟨0, Nat.zero_le _, rfl, (Below.refl _ _).alloc (Nat.le_refl _) _, by simp, ?_⟩
    exact ⟨fun i hi => by rw [made_at _ _ _ hi]; simp, fun i => made_fr _ _ _⟩
  case round =>
    obtain ⟨k, hk, rfl, hB, hz, HX⟩ := hrel
    clear hmk
    by_cases hlt : k < ts.length
    · have hk1 : (k : Int) < ts.length := by omega
      obtain ⟨b1, o1, rfl, hl1, hc1⟩ := hca (by omega)
      obtain ⟨x0, x1, x2⟩ := hc1 k hlt
      rw [← hB.cell (by exact hl1)] at x0 x1 x2
      have hcx := HX.out.1 k hlt
      rw [if_neg (by omega)] at hcx
      have hfx := HX.out.2 k
      obtain ⟨hf0, hf1⟩ := hf k hlt
      have HP : Hid (prB ts[k] = ⟨(if ts[k].kind = 2 then Lib.itoa ts[k].n else ts[k].text).toArray⟩) := rfl
      have HB : Hid (Below w.heap.size w wr) := hB
      have hGr : Hid (Glob wr) := hG0.out.below hB hsz
      have hne : b1 ≠ w.heap.size := by omega
      clear hc1 hca hB
      generalize ts[k].kind = kd at *
      generalize ts[k].n = nn at *
      generalize ts[k].text = tx at *
      by_cases h2 : kd = 2
      · subst h2
        rw [if_pos rfl] at HP
        go_wp2_with fail
        refine (itoa_any nn hf0 hf1 _ ((hGr.out.below ((Below.refl 10 wr).setCell (by exact hsz) _) (Nat.le_refl _)).below ((Below.refl _ _).alloc (Nat.le_refl _) _) (by simp; omega))).mono ?_
        rintro e w2 ⟨rfl, hb2⟩
        have hlt2 := hb2.size
        simp at hlt2
        have hcell : ∀ i, w2.cell? ⟨w.heap.size, i, none⟩ = (wr.setCell ⟨w.heap.size, k, none⟩ (.string ⟨tx.toArray⟩)).cell? ⟨w.heap.size, i, none⟩ := by
          intro i
          rw [hb2.cell (by simp; omega), World.cell?_alloc_lt _ _ _ (by simpa using hz)]
        have hfroz : ∀ i, w2.frozen? ⟨w.heap.size, i, none⟩ = false := by
          intro i
          have hbb : Below wr.heap.size (wr.setCell ⟨w.heap.size, k, none⟩ (.string ⟨tx.toArray⟩)) w2 := ((Below.refl _ _).alloc (by simp) _).trans (hb2.mono (by simp))
          rw [hbb.frozen (by exact hz), World.frozen?_setCell]
          exact HX.out.2 i
        have hck : w2.cell? ⟨w.heap.size, k, none⟩ = some (.string ⟨tx.toArray⟩) := by rw [hcell]; exact World.cell?_setCell_same _ _ _ hcx
        have hfk := hfroz k
        have HN : Hid (Texts (w2.setCell ⟨w.heap.size, k, none⟩ (.string ⟨(Lib.itoa nn).toArray⟩)) w.heap.size ts (k + 1)) := HX.out.redo hlt hcell hfroz HP.out.symm
        have HB2 : Hid (Below w.heap.size w w2) := ((HB.out.setCell (by exact Nat.le_refl _) _).alloc (by simp; omega) _).trans (hb2.mono (by simp; omega))
        clear hcell hfroz hb2 hcx hfx x0 x1 x2 HX HP
        go_wp2
        exact ⟨⟨k + 1, by omega, by go_num, HB2.out.setCell (by exact Nat.le_refl _) _, by simp; omega, HN.out⟩, by simp [intOf]; omega⟩
      · have h2' : (kd == 2) = false := by simpa using h2
        rw [if_neg h2] at HP
        have HN : Hid (Texts (wr.setCell ⟨w.heap.size, k, none⟩ (.string ⟨tx.toArray⟩)) w.heap.size ts (k + 1)) := HX.out.set hlt HP.out.symm
        clear HX HP
        go_wp2
        exact ⟨⟨k + 1, by omega, by go_num, (HB.out.setCell (by exact Nat.le_refl _) _).alloc (by simp; omega) _, by simp; omega, HN.out.below ((Below.refl _ _).alloc (Nat.le_refl _) _) (by simpa using hz)⟩, by simp [intOf]; omega⟩
    · have hk1 : ¬ (k : Int) < ts.length := by omega
      have hke : k = ts.length := by omega
      subst hke
      go_wp2_with fail
      refine (join_any ts _ w.heap.size hz HX.out hn hlen).mono ?_
      rintro e w2 ⟨rfl, hb2⟩
      have HB2 : Hid (Below w.heap.size w w2) := hB.trans (hb2.mono (by omega))
      clear hb2
      go_wp2
      go_ret
      exact ⟨rfl, HB2.out⟩

end Go.Proofs.YtajeijhmlkbjgaaDoor
