/- A number in sixteens: digits, and the library's formatBits at base 16. asm: the bytes of a number. The library's FormatInt at base 16. -/
import Derived.Test.YtjmjhbdlbmnllaaGreatDoorPut10
import Derived.Laws.Rows
import Derived.Test.YtjmjhbdlbmnllaaGreatDoorIsaPut
namespace Go.Proofs.YtjmjhbdlbmnllaaGreatDoor.Di
open Go.RowKit

/-- A digit, and a number's digits ahead of those that are there. -/
def hexD (d : Nat) : UInt8 := if d < 10 then UInt8.ofNat (48 + d) else UInt8.ofNat (87 + d)
def hexGo : Nat → Nat → List UInt8 → List UInt8
  | 0, u, acc => hexD (u % 16) :: acc
  | f + 1, u, acc => if u < 16 then hexD u :: acc else hexGo f (u / 16) (hexD (u % 16) :: acc)
def hexL (u : Nat) : List UInt8 := hexGo 15 u []
theorem hexGo_end {f m : Nat} (h : m < 16) (acc : List UInt8) : hexGo f m acc = hexD m :: acc := by
  cases f with
  | zero => rw [hexGo, Nat.mod_eq_of_lt h]
  | succ f => rw [hexGo, if_pos h]
theorem hexGo_len : ∀ (f m : Nat) (acc : List UInt8), (hexGo f m acc).length ≤ acc.length + f + 1
  | 0, m, acc => by simp [hexGo]
  | f + 1, m, acc => by
    unfold hexGo
    split
    · simp
    · have := hexGo_len f (m / 16) (hexD (m % 16) :: acc)
      simp at this ⊢
      omega

def digitsS : ByteArray := ⟨#[48, 49, 50, 51, 52, 53, 54, 55, 56, 57, 97, 98, 99, 100, 101, 102, 103, 104, 105, 106, 107, 108, 109, 110, 111, 112, 113, 114, 115, 116, 117, 118, 119, 120, 121, 122]⟩
theorem digit_at (d : Nat) (h : d < 16) : ∃ hk : d < digitsS.size, digitsS[d] = hexD d := by
  have key : (List.range 16).all (fun d => decide (digitsS.data[d]? = some (hexD d))) = true := by decide +kernel
  have h2 := List.all_eq_true.1 key d (List.mem_range.2 h)
  have h3 : digitsS.data[d]? = some (hexD d) := of_decide_eq_true h2
  obtain ⟨hk, he⟩ := Array.getElem?_eq_some_iff.1 h3
  exact ⟨hk, he⟩
theorem index9u (s : ByteArray) (k : Nat) (hk : k < s.size) (w : World) : (Instr.index 9 (.string s) (.int .u64 (k : Int))).run Tryz.prog w = .ok (.int .u8 (s[k].toNat : Int)) w := by
  simp [Instr.index, run_underlying Tryz.underlying9, asIntOf, hk]
theorem digit_run (d : Nat) (h : d < 16) (w : World) : (Instr.index 9 (.string digitsS) (.int .u64 (d : Int))).run Tryz.prog w = .ok (.int .u8 ((hexD d).toNat : Int)) w := by
  obtain ⟨hk, he⟩ := digit_at d h
  rw [index9u digitsS d hk w, he]
theorem and15 (n : Nat) : bits .and .u64 n 15 = ((n % 16 : Nat) : Int) := by
  have h15 : (BitVec.ofInt 64 15).toNat = 2 ^ 4 - 1 := by decide
  have key : (BitVec.ofInt 64 (n : Int) &&& BitVec.ofInt 64 15).toNat = n % 2 ^ 4 := by
    rw [BitVec.toNat_and, BitVec.toNat_ofInt, h15, Nat.and_two_pow_sub_one_eq_mod]
    omega
  show IntKind.u64.wrap ((BitVec.ofInt 64 (n : Int) &&& BitVec.ofInt 64 15).toNat : Nat) = _
  rw [key]
  simp [IntKind.wrap, IntKind.bits, IntKind.signed]
  omega

theorem hb_cell {w : World} {b i : Nat} {c : Array Value} {t : TypeId} {v : Value} (h : w.heap[b]? = some (.cells c t (0, 0))) (hv : c[i]? = some v) : w.cell? ⟨b, i, none⟩ = some v := by
  unfold World.cell?
  simp only [h]
  exact hv
theorem hb_froz {w : World} {b i : Nat} {c : Array Value} {t : TypeId} (h : w.heap[b]? = some (.cells c t (0, 0))) : w.frozen? ⟨b, i, none⟩ = false := by
  unfold World.frozen?
  simp [h]
/-- The row of digits, from place i on. -/
structure HX (w W : World) (acc : List UInt8) : Prop where
  bel : Below w.heap.size w W
  row : ∃ cs : Array Value, W.heap[w.heap.size]? = some (.cells cs 201 (0, 0)) ∧ cs.size = 65 ∧ acc.length ≤ 65 ∧ ∀ j (h : j < acc.length), cs[65 - acc.length + j]? = some (.int .u8 (acc[j].toNat : Int))
  all : ∀ j, j < 65 → ∃ x : Int, W.cell? ⟨w.heap.size, j, none⟩ = some (.int .u8 x) ∧ W.frozen? ⟨w.heap.size, j, none⟩ = false
theorem HX.put {w W : World} {acc : List UInt8} (h : HX w W acc) (c : UInt8) (hl : acc.length < 65) : HX w (W.setCell ⟨w.heap.size, 64 - acc.length, none⟩ (.int .u8 (c.toNat : Int))) (c :: acc) := by
  obtain ⟨cs, hb, hs, hl2, hc⟩ := h.row
  refine ⟨h.bel.setCell (Nat.le_refl _) _, ⟨_, _root_.Go.heap_setCell_same W _ _ cs _ _ hb, by simpa using hs, by simp; omega, fun j hj => ?_⟩, fun j hj => ?_⟩
  · cases j with
    | zero =>
      rw [show 65 - (c :: acc).length + 0 = 64 - acc.length by simp, Array.getElem?_setIfInBounds_self, if_pos (by omega)]
      rfl
    | succ j =>
      have hj' : j < acc.length := by simpa using hj
      rw [show 65 - (c :: acc).length + (j + 1) = 65 - acc.length + j by simp; omega, Array.getElem?_setIfInBounds_ne (by omega)]
      simpa using hc j hj'
  · obtain ⟨x, h1, h2⟩ := h.all j hj
    by_cases e : j = 64 - acc.length
    · subst e
      exact ⟨_, World.cell?_setCell_same _ _ _ h1, by rw [World.frozen?_setCell]; exact h2⟩
    · exact ⟨x, by rw [World.cell?_setCell_other _ _ _ _ (by intro e2; cases e2; exact e rfl)]; exact h1, by rw [World.frozen?_setCell]; exact h2⟩
def zeros65 : Array Value := Array.replicate 65 (.int .u8 0)
theorem zero65 (w : World) : (zeroValue 201).run Tryz.prog w = .ok (.agg zeros65) w := by kernel_rfl
theorem HX.new (w : World) : HX w (w.alloc (.cells zeros65 201)) [] := by
  have hn : (w.alloc (.cells zeros65 201)).heap[w.heap.size]? = some (.cells zeros65 201 (0, 0)) := by unfold World.alloc; simp only [Array.getElem?_push_size]
  refine ⟨oalloc _ _, ⟨_, hn, by simp [zeros65], by simp, fun j hj => by cases hj⟩, fun j hj => ⟨0, ?_, ?_⟩⟩
  · exact hb_cell hn (by simp [zeros65, hj])
  · exact hb_froz hn
theorem HX.bytes {w W : World} {acc : List UInt8} (h : HX w W acc) (cap : Nat) : OBytes W (.slice (some ⟨w.heap.size, 65 - acc.length, none⟩) acc.length cap) acc := by
  obtain ⟨cs, hb, hs, hl2, hc⟩ := h.row
  refine ⟨_, _, rfl, by unfold maxLen; omega, fun _ => ⟨w.heap.size, 65 - acc.length, rfl, (Array.getElem?_eq_some_iff.1 hb).1, fun i hi => ?_⟩⟩
  exact hb_cell hb (hc i hi)

theorem oconv {w : World} {v : Value} {bs : List UInt8} (h : OBytes w v bs) : (convert 22 9 v).run Tryz.prog w = .ok (.string ⟨bs.toArray⟩) w := by
  obtain ⟨ad, cap, rfl, _, hc⟩ := h
  by_cases h0 : 0 < bs.length
  · obtain ⟨b, o, rfl, _, hcell⟩ := hc h0
    have hrun := run_convert_bytes_arg (P := Tryz.prog) w 22 5 Tryz.underlying22 Tryz.underlying5 b o bs.length cap (bs.map fun c => (c.toNat : Int)) (by simp) (fun i hi => by rw [hcell i hi]; simp [List.getD, hi]) 9 Tryz.underlying9
    have e : strOfNums (bs.map fun c => (c.toNat : Int)) = ⟨bs.toArray⟩ := by
      have hm : (bs.map fun c => (c.toNat : Int)).map (fun n : Int => UInt8.ofNat n.toNat) = bs := by
        rw [List.map_map]
        have : (bs.map ((fun n : Int => UInt8.ofNat n.toNat) ∘ fun c => (c.toNat : Int))) = bs.map id := List.map_congr_left (fun c _ => by simp)
        rw [this, List.map_id]
      unfold strOfNums
      rw [hm]
    rw [e] at hrun
    exact hrun
  · have hb : bs = [] := List.eq_nil_of_length_eq_zero (by omega)
    subst hb
    cases ad with
    | none => exact run_convert_bytes_nil (P := Tryz.prog) w 22 5 Tryz.underlying22 Tryz.underlying5 0 cap 9 Tryz.underlying9
    | some a =>
      show (convert 22 9 (.slice (some a) 0 cap)).run Tryz.prog w = _
      rw [run_convert_bytes_string w 22 9 5 _ 0 cap Tryz.underlying22 Tryz.underlying5 Tryz.underlying9]
      have hl : (loadCells a 0).run Tryz.prog w = .ok (([] : List Int).map (Value.int .u8)).toArray w := by
        have := run_loadCells_list (P := Tryz.prog) w a ([] : List Value) (fun j v hj => by simp at hj)
        simpa using this
      rw [run_bytesToString w a 0 cap [] hl]
      rfl

theorem pow2_16 (w : World) : Calls Tryz.prog 112 #[.int .i64 16] w fun e w' => e = .returned (.bool true) ∧ w = w' := by
  have h : bits .and .i64 16 15 = 0 := by decide +kernel
  go_enter Tryz.func112, Tryz.ntmps112
  go_wp2
  go_ret
  exact ⟨rfl, rfl⟩

set_option maxHeartbeats 4000000 in
theorem formatBits_pos (u : Nat) (w : World) (hu : u < 18446744073709551616)
    (htz : ∀ W, Below w.heap.size w W → Calls Tryz.prog 113 #[.int .u64 16] W fun e w' => e = .returned (.int .i64 4) ∧ W = w') :
    Calls Tryz.prog 69 #[.slice none 0 0, .int .u64 u, .int .i64 16, .bool false, .bool false] w fun e w' => e = .returned (.tuple #[.slice none 0 0, .string ⟨(hexL u).toArray⟩]) ∧ Below w.heap.size w w' := by
  have HTZ := Lib.hid htz
  have hz := zero65
  have HX0 := Lib.hid (HX.new w)
  obtain ⟨Z, hZ⟩ : ∃ Z, Z = zeros65 := ⟨_, rfl⟩
  rw [← hZ] at hz HX0
  clear htz hZ
  go_enter Tryz.func69, Tryz.ntmps69
  go_wp2_with (first | (go_at_call 113; refine (HTZ.out _ (oalloc w _)).mono ?_; rintro e w' ⟨rfl, rfl⟩) | (go_at_call 112; refine (pow2_16 _).mono ?_; rintro e w' ⟨rfl, rfl⟩) | fail)
  go_loopw [1, 13] (fun a i W => ∃ (m f : Nat) (acc : List UInt8), a = .int .u64 (m : Int) ∧ i = .int .i64 ((65 - acc.length : Nat) : Int) ∧ acc.length + f = 15 ∧ Hid (hexL u = hexGo f m acc) ∧ Hid (m < 16 ^ (f + 1)) ∧ m ≤ u ∧ Hid (HX w W acc)) (fun a _ _ => (intOf a).toNat)
  case atStart => exact ⟨u, 15, [], rfl, rfl, rfl, rfl, by unfold Hid; simpa using hu, Nat.le_refl _, HX0⟩
  case round =>
    obtain ⟨m, f, acc, rfl, rfl, hf, HE, HM, hmu, HH⟩ := hrel
    clear HX0 hz
    obtain ⟨q, hq⟩ : ∃ q, q + acc.length = 64 := ⟨64 - acc.length, by omega⟩
    have hq1 : 65 - acc.length = q + 1 := by omega
    have hq2 : 64 - acc.length = q := by omega
    have hq64 : q ≤ 64 := by omega
    rw [hq1]
    obtain ⟨x, c0, f0⟩ := HH.out.all q (by omega)
    have HF := Lib.hid hf
    have HQ := Lib.hid hq
    by_cases hm : m < 16
    · have hm1 : ¬ (16 : Int) ≤ m := by omega
      have HE2 := Lib.hid (HE.out.trans (hexGo_end hm acc))
      have hp := HH.out.put (hexD m) (by omega)
      rw [hq2] at hp
      have hd := digit_run m hm
      unfold digitsS at hd
      generalize hexD m = dg at *
      have hal : Tryz.prog.arrayLen 201 = 65 := by simp [Program.arrayLen, Tryz.underlying201]
      have hsl : ∀ W, (Instr.sliceAt 201 (.pointer (some ⟨w.heap.size, 0, none⟩)) (some (.int .i64 (q : Int))) none none).run Tryz.prog W = .ok (.slice (some ⟨w.heap.size, q, none⟩) (65 - q) (65 - q)) W := fun W => by
        rw [run_sliceAt_array_l W 201 ⟨w.heap.size, 0, none⟩ (by simp [Program.arrayLen, Program.elem, Tryz.underlying201]) .i64 (q : Int) (by omega) (by rw [hal]; omega)]
        go_simp
        omega
      have hcv := oconv (hp.bytes (65 - q))
      rw [show 65 - (dg :: acc).length = q by simp; omega, show (dg :: acc).length = 65 - q by simp; omega] at hcv
      have HB := Lib.hid hp.bel
      clear HE HM HH hp hq hq1 hq2 hf hal
      go_wp2
      go_ret2
      exact ⟨by rw [HE2.out]; rfl, HB.out⟩
    · have hm1 : (16 : Int) ≤ m := by omega
      cases f with
      | zero => exact absurd HM.out (by simp; omega)
      | succ f =>
        have HE2 := Lib.hid (HE.out.trans (by rw [hexGo, if_neg hm] : hexGo (f + 1) m acc = hexGo f (m / 16) (hexD (m % 16) :: acc)))
        have HM2 : Hid (m / 16 < 16 ^ (f + 1)) := by
          have := HM.out
          unfold Hid
          rw [Nat.pow_succ] at this
          omega
        have hp := HH.out.put (hexD (m % 16)) (by omega)
        rw [hq2] at hp
        have HP := Lib.hid hp
        have hd := digit_run (m % 16) (Nat.mod_lt _ (by decide))
        unfold digitsS at hd
        have ha := and15 m
        have hmod : m % 16 < 16 := Nat.mod_lt _ (by decide)
        generalize hexD (m % 16) = dg at *
        generalize hmm : m % 16 = r at *
        have HMM := Lib.hid hmm
        clear HE HM HH hp hq hq1 hq2 hf hmm
        go_wp2
        have h1 := HF.out
        have h2 := HQ.out
        exact ⟨⟨m / 16, f, dg :: acc, by simp, by simp; omega, by simp; omega, HE2, HM2, by omega, HP⟩, by simp [intOf]; omega⟩

set_option maxHeartbeats 4000000 in
theorem formatBits_neg (u : Nat) (v0 : Int) (w : World) (hu : u < 18446744073709551616) (hneg : IntKind.u64.wrap (-v0) = u)
    (htz : ∀ W, Below w.heap.size w W → Calls Tryz.prog 113 #[.int .u64 16] W fun e w' => e = .returned (.int .i64 4) ∧ W = w') :
    Calls Tryz.prog 69 #[.slice none 0 0, .int .u64 v0, .int .i64 16, .bool true, .bool false] w fun e w' => e = .returned (.tuple #[.slice none 0 0, .string ⟨(45 :: hexL u).toArray⟩]) ∧ Below w.heap.size w w' := by
  have HTZ := Lib.hid htz
  have hz := zero65
  have HX0 := Lib.hid (HX.new w)
  obtain ⟨Z, hZ⟩ : ∃ Z, Z = zeros65 := ⟨_, rfl⟩
  rw [← hZ] at hz HX0
  clear htz hZ
  go_enter Tryz.func69, Tryz.ntmps69
  go_wp2_with (first | (go_at_call 113; refine (HTZ.out _ (oalloc w _)).mono ?_; rintro e w' ⟨rfl, rfl⟩) | (go_at_call 112; refine (pow2_16 _).mono ?_; rintro e w' ⟨rfl, rfl⟩) | fail)
  go_loopw [1, 13] (fun a i W => ∃ (m f : Nat) (acc : List UInt8), a = .int .u64 (m : Int) ∧ i = .int .i64 ((65 - acc.length : Nat) : Int) ∧ acc.length + f = 15 ∧ Hid (hexL u = hexGo f m acc) ∧ Hid (m < 16 ^ (f + 1)) ∧ m ≤ u ∧ Hid (HX w W acc)) (fun a _ _ => (intOf a).toNat)
  case atStart => exact ⟨u, 15, [], rfl, rfl, rfl, rfl, by unfold Hid; simpa using hu, Nat.le_refl _, HX0⟩
  case round =>
    obtain ⟨m, f, acc, rfl, rfl, hf, HE, HM, hmu, HH⟩ := hrel
    clear HX0 hz hneg
    obtain ⟨q, hq⟩ : ∃ q, q + acc.length = 64 := ⟨64 - acc.length, by omega⟩
    have hq1 : 65 - acc.length = q + 1 := by omega
    have hq2 : 64 - acc.length = q := by omega
    have hq64 : q ≤ 64 := by omega
    rw [hq1]
    obtain ⟨x, c0, f0⟩ := HH.out.all q (by omega)
    have HF := Lib.hid hf
    have HQ := Lib.hid hq
    by_cases hm : m < 16
    · have hm1 : ¬ (16 : Int) ≤ m := by omega
      have HE2 := Lib.hid (HE.out.trans (hexGo_end hm acc))
      have hp := HH.out.put (hexD m) (by omega)
      rw [hq2] at hp
      have hd := digit_run m hm
      unfold digitsS at hd
      generalize hexD m = dg at *
      obtain ⟨p, hpq⟩ : ∃ p, q = p + 1 := ⟨q - 1, by omega⟩
      subst hpq
      have hp2 := hp.put 45 (by simp; omega)
      rw [show 64 - (dg :: acc).length = p by simp; omega, show (((45 : UInt8).toNat : Nat) : Int) = 45 from rfl] at hp2
      obtain ⟨x2, c1, f1⟩ := HH.out.all p (by omega)
      have hal : Tryz.prog.arrayLen 201 = 65 := by simp [Program.arrayLen, Tryz.underlying201]
      have hsl : ∀ W, (Instr.sliceAt 201 (.pointer (some ⟨w.heap.size, 0, none⟩)) (some (.int .i64 (p : Int))) none none).run Tryz.prog W = .ok (.slice (some ⟨w.heap.size, p, none⟩) (65 - p) (65 - p)) W := fun W => by
        rw [run_sliceAt_array_l W 201 ⟨w.heap.size, 0, none⟩ (by simp [Program.arrayLen, Program.elem, Tryz.underlying201]) .i64 (p : Int) (by omega) (by rw [hal]; omega)]
        go_simp
        omega
      have hcv := oconv (hp2.bytes (65 - p))
      rw [show 65 - ((45 : UInt8) :: dg :: acc).length = p by simp; omega, show ((45 : UInt8) :: dg :: acc).length = 65 - p by simp; omega] at hcv
      have HB := Lib.hid hp2.bel
      clear HE HM HH hp hp2 hq hq1 hq2 hf hal
      go_wp2
      go_ret2
      exact ⟨by rw [HE2.out]; rfl, HB.out⟩
    · have hm1 : (16 : Int) ≤ m := by omega
      cases f with
      | zero => exact absurd HM.out (by simp; omega)
      | succ f =>
        have HE2 := Lib.hid (HE.out.trans (by rw [hexGo, if_neg hm] : hexGo (f + 1) m acc = hexGo f (m / 16) (hexD (m % 16) :: acc)))
        have HM2 : Hid (m / 16 < 16 ^ (f + 1)) := by
          have := HM.out
          unfold Hid
          rw [Nat.pow_succ] at this
          omega
        have hp := HH.out.put (hexD (m % 16)) (by omega)
        rw [hq2] at hp
        have HP := Lib.hid hp
        have hd := digit_run (m % 16) (Nat.mod_lt _ (by decide))
        unfold digitsS at hd
        have ha := and15 m
        have hmod : m % 16 < 16 := Nat.mod_lt _ (by decide)
        generalize hexD (m % 16) = dg at *
        generalize hmm : m % 16 = r at *
        have HMM := Lib.hid hmm
        clear HE HM HH hp hq hq1 hq2 hf hmm
        go_wp2
        have h1 := HF.out
        have h2 := HQ.out
        exact ⟨⟨m / 16, f, dg :: acc, by simp, by simp; omega, by simp; omega, HE2, HM2, by omega, HP⟩, by simp [intOf]; omega⟩

end Go.Proofs.YtjmjhbdlbmnllaaGreatDoor.Di

namespace Go.Proofs.YtjmjhbdlbmnllaaGreatDoor
open Go.RowKit

set_option maxHeartbeats 4000000 in
theorem number1_any (p s : Int) (gu gs gv : Nat) (size : Nat) (n : Int) (w : World) (hs : w.cell? ⟨gs, 0, none⟩ = some (.int .i64 size)) (hv0 : w.cell? ⟨gv, 0, none⟩ = some (.string ⟨#[]⟩)) (hv1 : w.cell? ⟨gv, 1, none⟩ = some (.int .i64 n)) (h4 : size ≤ 4) (hgs : gs < w.heap.size) (hgv : gv < w.heap.size) :
    Calls Tryz.prog 104 #[.int .i64 p, .int .i64 s, .pointer (some ⟨gv, 0, none⟩), .pointer (some ⟨gs, 0, none⟩), .pointer (some ⟨gu, 0, none⟩)] w fun r w' =>
      (∃ g, r = .returned (.tuple #[.slice (some ⟨g, 0, none⟩) size size, .int .i64 0]) ∧ w.heap.size ≤ g ∧ g < w'.heap.size ∧ ∀ i, i < size → w'.cell? ⟨g, i, none⟩ = some (.int .u8 (Isa.putAt (fun _ => 0) 0 size n i))) ∧ Below w.heap.size w w' := by
  have hm := fun W => makeB size (by omega) W
  have HZ : Hid (∀ i, i < size → (w.alloc (.cells (madeCells #[.int .u8 0] size) 5)).cell? ⟨w.heap.size, i, none⟩ = some (.int .u8 0)) := fun i hi =>
    (World.rowIs_made w (.int .u8 0) size 5).cell hi
  have HP : Hid (∀ W, Below w.heap.size w W → (∀ i, i < size → W.cell? ⟨w.heap.size, i, none⟩ = some (.int .u8 0)) → Calls Tryz.prog 105 #[.slice (some ⟨w.heap.size, 0, none⟩) size size, .int .i64 0, .int .i64 size, .int .i64 n] W fun e w' => ∃ g, e = .returned (.slice (some ⟨g, 0, none⟩) size size) ∧ w.heap.size ≤ g ∧ g < w'.heap.size ∧ (∀ i, i < size → w'.cell? ⟨g, i, none⟩ = some (.int .u8 (Isa.putAt (fun _ => 0) 0 size n i))) ∧ Below w.heap.size w w') := by
    intro W hW hc
    refine (Isa.put_any (some ⟨w.heap.size, 0, none⟩) size size (fun _ => 0) 0 size n W (by omega) (fun _ => ⟨w.heap.size, 0, rfl, fun i hi => by rw [Nat.zero_add]; exact hc i hi⟩) (by omega) (by omega) (by omega) (by omega)).mono ?_
    rintro e w' ⟨rfl, hb, hlt, hcell⟩
    exact ⟨_, rfl, hW.size, hlt, hcell, hW.trans (hb.mono hW.size)⟩
  go_enter Tryz.func104, Tryz.ntmps104
  go_wp2
  go_region_with (go_at_call 105; refine (HP.out _ (by repeat' first | exact oalloc w _ | apply Below.drew) (by intro i hi; exact HZ.out i hi)).mono ?_; rintro e w2 ⟨g, rfl, hg1, hg2, hc2, hb2⟩)
  all_goals go_wp2
  all_goals go_ret2
  all_goals exact ⟨⟨g, rfl, hg1, hg2, hc2⟩, hb2⟩

end Go.Proofs.YtjmjhbdlbmnllaaGreatDoor

namespace Go.Proofs.YtjmjhbdlbmnllaaGreatDoor.Di
open Go.RowKit

theorem tz64_16 (w : World) (h : w.cell? ⟨6, 15, none⟩ = some (.int .u8 4)) : Calls Tryz.prog 152 #[.int .u64 16] w fun e w' => e = .returned (.int .i64 4) ∧ w = w' := by
  have hk : (IntKind.u64.wrap (bits BinOp.and IntKind.u64 16 (IntKind.u64.wrap (-16)) * 285870213051353865) / 288230376151711744) = 15 := by decide +kernel
  go_enter Tryz.func152, Tryz.ntmps152
  go_wp2
  go_ret
  exact ⟨rfl, rfl⟩
theorem tz_16 (w : World) (h : w.cell? ⟨6, 15, none⟩ = some (.int .u8 4)) : Calls Tryz.prog 113 #[.int .u64 16] w fun e w' => e = .returned (.int .i64 4) ∧ w = w' := by
  have H := Lib.hid (tz64_16 w h)
  clear h
  go_enter Tryz.func113, Tryz.ntmps113
  go_wp2_with (first | (go_at_call 152; refine H.out.mono ?_; rintro e w' ⟨rfl, rfl⟩) | fail)
  go_ret
  exact ⟨rfl, rfl⟩

/-- A number in sixteens, with its sign. -/
def hexS (n : Int) : List UInt8 := if n < 0 then 45 :: hexL (-n).toNat else hexL n.toNat

theorem tz_below {w : World} (h : w.cell? ⟨6, 15, none⟩ = some (.int .u8 4)) : ∀ W, Below w.heap.size w W → Calls Tryz.prog 113 #[.int .u64 16] W fun e w' => e = .returned (.int .i64 4) ∧ W = w' := fun W hb =>
  tz_16 W ((hb.cell (World.block_lt_of_cell? w _ h)).trans h)

theorem fmtInt16_in (n : Int) (w : World) (h0 : -9223372036854775808 ≤ n) (h1 : n ≤ 9223372036854775807) (h : w.cell? ⟨6, 15, none⟩ = some (.int .u8 4)) :
    Calls Tryz.prog 44 #[.int .i64 n, .int .i64 16] w fun e w' => e = .returned (.string ⟨(hexS n).toArray⟩) ∧ Below w.heap.size w w' := by
  by_cases hn : n < 0
  · have HS : Hid (hexS n = 45 :: hexL (-n).toNat) := by unfold Hid hexS; rw [if_pos hn]
    have hw : IntKind.u64.wrap n = n + 18446744073709551616 := by simp [IntKind.wrap, IntKind.bits, IntKind.signed]; omega
    have HF := Lib.hid (formatBits_neg (-n).toNat (IntKind.u64.wrap n) w (by omega) (by rw [hw]; simp [IntKind.wrap, IntKind.bits, IntKind.signed]; omega) (tz_below h))
    clear h hw
    go_enter Tryz.func44, Tryz.ntmps44
    go_wp2_with (first | (go_at_call 69; refine HF.out.mono ?_; rintro e w1 ⟨rfl, hb⟩; have HB := Lib.hid hb; clear hb) | fail)
    go_ret
    exact ⟨by rw [HS.out]; rfl, HB.out⟩
  · have HS : Hid (hexS n = hexL n.toNat) := by unfold Hid hexS; rw [if_neg hn]
    obtain ⟨m, rfl⟩ := Int.eq_ofNat_of_zero_le (show 0 ≤ n by omega)
    have HF := Lib.hid (formatBits_pos m w (by omega) (tz_below h))
    have hw : IntKind.u64.wrap (m : Int) = m := by simp [IntKind.wrap, IntKind.bits, IntKind.signed]; omega
    clear h
    go_enter Tryz.func44, Tryz.ntmps44
    go_wp2_with (first | (go_at_call 69; refine HF.out.mono ?_; rintro e w1 ⟨rfl, hb⟩; have HB := Lib.hid hb; clear hb) | fail)
    go_ret
    exact ⟨by rw [HS.out]; rfl, HB.out⟩

theorem fmtInt16_any (n : Int) (w : World) (h0 : -9223372036854775808 ≤ n) (h1 : n ≤ 9223372036854775807) (h : w.cell? ⟨6, 15, none⟩ = some (.int .u8 4)) :
    Calls Tryz.prog 25 #[.int .i64 n, .int .i64 16] w fun e w' => e = .returned (.string ⟨(hexS n).toArray⟩) ∧ Below w.heap.size w w' := by
  have HF := Lib.hid (fmtInt16_in n w h0 h1 h)
  clear h
  go_enter Tryz.func25, Tryz.ntmps25
  go_wp2_with (first | (go_at_call 44; refine HF.out.mono ?_; rintro e w1 ⟨rfl, hb⟩; have HB := Lib.hid hb; clear hb) | fail)
  go_ret
  exact ⟨rfl, HB.out⟩

theorem hexL_len (u : Nat) : (hexL u).length ≤ 16 := by
  have := hexGo_len 15 u []
  simpa [hexL] using this
theorem hexS_len (n : Int) : (hexS n).length ≤ 17 := by
  unfold hexS
  split
  · have := hexL_len (-n).toNat; simp; omega
  · have := hexL_len n.toNat; omega

theorem bcat (a b : List UInt8) : (⟨a.toArray⟩ : ByteArray) ++ ⟨b.toArray⟩ = ⟨(a ++ b).toArray⟩ := by
  apply ByteArray.ext
  simp
end Go.Proofs.YtjmjhbdlbmnllaaGreatDoor.Di
