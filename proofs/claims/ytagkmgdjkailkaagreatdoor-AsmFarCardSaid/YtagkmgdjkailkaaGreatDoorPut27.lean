/- The source of AsmData, and its lines: functions of lists; no program in this text. The document's own Lines: what its walk wants. Bytes that are read in a later world. The contract of the document's own Lines: the walk. -/
import Derived.Test.YtagkmgdjkailkaaGreatDoorPut25
import Derived.Test.YtagkmgdjkailkaaGreatDoorPut26
import Derived.Test.YtagkmgdjkailkaaGreatDoorDocF
namespace Go.Proofs.YtagkmgdjkailkaaGreatDoor.Sc
open Go.RowKit

def tLong : Tok := ⟨1, 0, [46, 108, 111, 110, 103]⟩
def tNum (n : Int) : Tok := ⟨2, n, []⟩
/-- One line, without its end. -/
def dataL (n : Int) : List UInt8 := [46, 108, 111, 110, 103, 32] ++ Lib.itoa n
/-- All lines. -/
def dataS (l : List Int) : List UInt8 := l.flatMap fun n => dataL n ++ [10]

theorem itoa_nat (n : Int) (h0 : 0 ≤ n) : Lib.itoa n = Lib.decDigits n.toNat := by
  obtain ⟨u, rfl⟩ : ∃ u : Nat, n = u := ⟨n.toNat, by omega⟩
  simp [Lib.itoa]

theorem split_one : ∀ (a r : List UInt8), (∀ c, c ∈ a → c ≠ 10) → splitNL (a ++ 10 :: r) = a :: splitNL r
  | [], r, _ => by simp [splitNL]
  | c :: a, r, h => by
    have ih := split_one a r fun d hd => h d (by simp [hd])
    rw [List.cons_append, splitNL, if_neg (h c (by simp)), ih]

def dataLn : Nat → List Int → List Ln
  | _, [] => []
  | k, n :: r => ⟨k, [tLong, tNum n]⟩ :: dataLn (k + 1) r

end Go.Proofs.YtagkmgdjkailkaaGreatDoor.Sc

namespace Go.Proofs.YtagkmgdjkailkaaGreatDoor.Sc
open Go.RowKit

theorem splitNL_hit : ∀ (m : Nat) (l : List UInt8), (∀ j, j < m → l[j]? ≠ some 10) → l[m]? = some 10 → splitNL l = l.take m :: splitNL (l.drop (m + 1))
  | _, [], _, h => by simp at h
  | 0, c :: r, _, h => by
    simp at h
    subst h
    simp [splitNL]
  | m + 1, c :: r, hn, h => by
    have hc : c ≠ 10 := by
      intro e
      exact hn 0 (by omega) (by simp [e])
    have ih := splitNL_hit m r (fun j hj => by have := hn (j + 1) (by omega); simpa using this) (by simpa using h)
    rw [splitNL, if_neg hc, ih]
    rfl
theorem splitNL_miss : ∀ (l : List UInt8), (∀ j, j < l.length → l[j]? ≠ some 10) → splitNL l = [l]
  | [], _ => rfl
  | c :: r, hn => by
    have hc : c ≠ 10 := by
      intro e
      exact hn 0 (by simp) (by simp [e])
    have ih := splitNL_miss r (fun j hj => by have := hn (j + 1) (by simpa using hj); simpa using this)
    rw [splitNL, if_neg hc, ih]

/-- The lines from a place on; none behind the end. -/
def restAt (bs : List UInt8) (f : Nat) : List (List UInt8) := if f ≤ bs.length then splitNL (bs.drop f) else []

/-- What holds at the loop's head: line n begins at f, and no line feed is from there to i. -/
structure LnAt (bs : List UInt8) (n f i : Nat) (ps : List (Ln × Value)) : Prop where
  few : ps.length ≤ f
  small : n ≤ f + 1
  le : f ≤ i
  none : ∀ j, f ≤ j → j < i → bs[j]? ≠ some 10
  ended : bs.length < i → f = i
  left : linesR 1 (splitNL bs) = addLn (ps.map (·.1)) (linesR n (restAt bs f))

theorem addLn_nil (X : Except (Int × Int) (List Ln)) : addLn [] X = X := by
  cases X <;> simp [addLn]

theorem lnAt_start (bs : List UInt8) : LnAt bs 1 0 0 [] := ⟨by simp, by omega, by omega, fun j _ h => by omega, fun _ => rfl, by simp [restAt, addLn_nil]⟩

theorem LnAt.on {bs : List UInt8} {n f i : Nat} {ps : List (Ln × Value)} (h : LnAt bs n f i ps) (hi : bs[i]? ≠ some 10) (hlt : i < bs.length) : LnAt bs n f (i + 1) ps :=
  ⟨h.few, h.small, by have := h.le; omega, fun j h1 h2 => by
    by_cases e : j = i
    · subst e; exact hi
    · exact h.none j h1 (by omega), fun h1 => by omega, h.left⟩

theorem LnAt.seg {bs : List UInt8} {n f i : Nat} {ps : List (Ln × Value)} (h : LnAt bs n f i ps) (hi : bs[i]? = some 10 ∨ i = bs.length) : restAt bs f = (bs.drop f).take (i - f) :: restAt bs (i + 1) := by
  have hle := h.le
  have hn : ∀ j, j < i - f → (bs.drop f)[j]? ≠ some 10 := by
    intro j hj
    rw [List.getElem?_drop]
    exact h.none _ (by omega) (by omega)
  unfold restAt
  rcases hi with hi | hi
  · have hlt : i < bs.length := (List.getElem?_eq_some_iff.1 hi).1
    rw [if_pos (by omega), if_pos (by omega), splitNL_hit (i - f) (bs.drop f) hn (by rw [List.getElem?_drop, show f + (i - f) = i by omega]; exact hi), List.drop_drop]
    congr 3
    omega
  · subst hi
    rw [if_pos hle, if_neg (by omega), splitNL_miss (bs.drop f) (by rw [List.length_drop]; exact hn), List.take_of_length_le (by rw [List.length_drop]; exact Nat.le_refl _)]

theorem LnAt.err {bs : List UInt8} {n f i : Nat} {ps : List (Ln × Value)} (h : LnAt bs n f i ps) (hi : bs[i]? = some 10 ∨ i = bs.length) (hb : bs.length ≤ 1200) (he : lineErr ((bs.drop f).take (i - f)) ≠ 0) :
    srcErr bs = lineErr ((bs.drop f).take (i - f)) ∧ srcAt bs = n ∧ srcList bs = [] := by
  refine src_no (src_few hb ?_)
  rw [h.left, h.seg hi, linesR_err he]
  rfl
theorem LnAt.skip {bs : List UInt8} {n f i : Nat} {ps : List (Ln × Value)} (h : LnAt bs n f i ps) (hi : bs[i]? = some 10 ∨ i = bs.length) (he : lineErr ((bs.drop f).take (i - f)) = 0) (hl : lineList ((bs.drop f).take (i - f)) = []) :
    LnAt bs (n + 1) (i + 1) (i + 1) ps := by
  have hle := h.le
  refine ⟨by have := h.few; omega, by have := h.small; omega, Nat.le_refl _, fun j h1 h2 => by omega, fun _ => rfl, ?_⟩
  have := h.left
  rw [h.seg hi] at this
  exact linesR_none this he hl
theorem LnAt.line {bs : List UInt8} {n f i : Nat} {ps : List (Ln × Value)} (h : LnAt bs n f i ps) (hi : bs[i]? = some 10 ∨ i = bs.length) (he : lineErr ((bs.drop f).take (i - f)) = 0) (hl : lineList ((bs.drop f).take (i - f)) ≠ []) (v : Value) :
    LnAt bs (n + 1) (i + 1) (i + 1) (ps ++ [(⟨n, lineList ((bs.drop f).take (i - f))⟩, v)]) := by
  have hle := h.le
  refine ⟨by have := h.few; simp; omega, by have := h.small; omega, Nat.le_refl _, fun j h1 h2 => by omega, fun _ => rfl, ?_⟩
  have := h.left
  rw [h.seg hi] at this
  rw [List.map_append]
  exact linesR_some this he hl
theorem LnAt.fin {bs : List UInt8} {n f i : Nat} {ps : List (Ln × Value)} (h : LnAt bs n f i ps) (hf : bs.length < f) (hb : bs.length ≤ 1200) : srcErr bs = 0 ∧ srcAt bs = 0 ∧ srcList bs = ps.map (·.1) := by
  refine src_ok (src_few hb ?_)
  rw [h.left]
  unfold restAt
  rw [if_neg (by omega)]
  simp [linesR, addLn]

theorem elem24 : Tryz.prog.underlying 24 = some (.slice (Tryz.prog.elem 24)) := by kernel_rfl
theorem size24 (w : World) : (sizeOf (Tryz.prog.elem 24)).run Tryz.prog w = .ok 1 w := by kernel_rfl

theorem slice_bytes (ad : Option Addr) (cap : Nat) (bs : List UInt8) (hcap : bs.length ≤ cap) (f i : Nat) (hfi : f ≤ i) (hi : i ≤ bs.length) :
    ∃ ad' cap', (∀ w, (Instr.slice 24 (.slice ad bs.length cap) (some (.int .i64 (f : Int))) (some (.int .i64 (i : Int))) none).run Tryz.prog w = .ok (.slice ad' (i - f) cap') w) ∧
      ∀ w, BReads w (.slice ad bs.length cap) bs → BReads w (.slice ad' (i - f) cap') ((bs.drop f).take (i - f)) := by
  refine ⟨if cap = f then ad else ad.map (·.add (f * 1)), cap - f, fun w => ?_, fun w h => ?_⟩
  · rw [run_slice_lh w 24 ad bs.length cap elem24 .i64 .i64 f i (by omega) (by omega) (by omega), size24]
    simp [Result.andThen, sliced]
  · obtain ⟨ad1, cap1, e, hm, hc⟩ := h
    injection e with e1 _ _
    subst e1
    have hlen : ((bs.drop f).take (i - f)).length = i - f := by simp; omega
    refine ⟨_, _, by rw [hlen], by rw [hlen]; omega, fun h0 => ?_⟩
    rw [hlen] at h0
    obtain ⟨b, o, rfl, hlt, hcell⟩ := hc (by omega)
    refine ⟨b, o + f, ?_, hlt, fun j hj => ?_⟩
    · rw [if_neg (by omega)]
      simp [Addr.add]
    · rw [hlen] at hj
      have := hcell (f + j) (by omega)
      rw [show o + f + j = o + (f + j) by omega, this]
      simp

end Go.Proofs.YtagkmgdjkailkaaGreatDoor.Sc

namespace Go.Proofs.YtagkmgdjkailkaaGreatDoor.Sc
open Go.RowKit

theorem BReads.below {w w' : World} {B : Nat} {v : Value} {bs : List UInt8} (h : BReads w v bs) (hb : Below B w w') (hB : w.heap.size ≤ B) : BReads w' v bs := by
  obtain ⟨ad, cap, rfl, hm, hc⟩ := h
  refine ⟨ad, cap, rfl, hm, fun h0 => ?_⟩
  obtain ⟨b, o, rfl, hlt, hcell⟩ := hc h0
  refine ⟨b, o, rfl, Nat.lt_of_lt_of_le hlt hb.size, fun i hi => ?_⟩
  rw [hb.cell (by show b < B; omega)]
  exact hcell i hi

end Go.Proofs.YtagkmgdjkailkaaGreatDoor.Sc

namespace Go.Proofs.YtagkmgdjkailkaaGreatDoor.Sc
open Go.RowKit

theorem new2 (w : World) (a b : Value) (t : TypeId) : ∀ j u, [a, b][j]? = some u → (w.alloc (.cells #[a, b] t)).cell? ((⟨w.heap.size, 0, none⟩ : Addr).add j) = some u := by
  intro j u hj
  match j, hj with
  | 0, hj => simp at hj; subst hj; simp [go_sem, Addr.add]
  | 1, hj => simp at hj; subst hj; simp [go_sem, Addr.add]
theorem one2 (a : Int) (ad : Option Addr) (n c : Nat) : ∀ u ∈ [Value.int .i64 a, .slice ad n c], u.oneCell' = true := by
  intro u hu
  simp at hu
  rcases hu with rfl | rfl <;> rfl
theorem lns_max {n : Nat} (h : n ≤ 1201) : n + 1 ≤ maxLen := by unfold maxLen; omega
theorem lns_bytes {n : Nat} (h : n ≤ 1201) : (n + 1) * 32 ≤ 140737488355328 := by omega

theorem rlines_much (v : Value) (bs : List UInt8) (w : World) (hv : BReads w v bs) (h : 1200 < bs.length) :
    Calls Tryz.prog 10 #[v] w fun e w' => LinAns w.heap.size w' bs e ∧ Below w.heap.size w w' := by
  obtain ⟨ad, cap, rfl, hm, _⟩ := hv
  have h' : (1200 : Int) < bs.length := by omega
  have hs : srcLines bs = .error (4, 0) := by unfold srcLines; rw [if_pos h]
  have HF : Hid (srcErr bs = 4 ∧ srcAt bs = 0 ∧ srcList bs = []) := src_no hs
  clear hs
  go_enter Tryz.func10, Tryz.ntmps10
  go_wp2
  refine bodyPost_ret (v := .tuple #[.slice none 0 0, .agg #[.int .i64 4, .int .i64 0]]) (by simp [results, Tryz.results10, go_sem]) rfl ⟨⟨_, [], by rw [HF.out.1, HF.out.2.1], by rw [HF.out.2.2]; rfl, LOwn.nil _ _⟩, ?_⟩
  exact (Below.refl _ _).alloc (Nat.le_refl _) _

set_option maxHeartbeats 4000000 in
set_option maxRecDepth 100000 in
theorem rlines_few (ad : Option Addr) (cap : Nat) (bs : List UInt8) (w : World) (hv : BReads w (.slice ad bs.length cap) bs) (hcap : bs.length ≤ cap) (h : bs.length ≤ 1200) :
    Calls Tryz.prog 10 #[.slice ad bs.length cap] w fun e w' => LinAns w.heap.size w' bs e ∧ Below w.heap.size w w' := by
  have h' : ¬ (1200 : Int) < bs.length := by omega
  obtain ⟨i0, hi, hz0, hz1, hz2⟩ := info_parts info64
  have HV : Hid (BReads w (.slice ad bs.length cap) bs) := hv
  clear hv
  go_enter Tryz.func10, Tryz.ntmps10
  go_wp2
  have hWs : (w.alloc (.cells #[.int .i64 0, .int .i64 0] 31)).heap.size = w.heap.size + 1 := by simp
  have HWB : Hid (Below w.heap.size w (w.alloc (.cells #[.int .i64 0, .int .i64 0] 31))) := (Below.refl _ _).alloc (Nat.le_refl _) _
  have HW0 : Hid ((w.alloc (.cells #[.int .i64 0, .int .i64 0] 31)).cell? ⟨w.heap.size, 0, none⟩ = some (.int .i64 0) ∧ (w.alloc (.cells #[.int .i64 0, .int .i64 0] 31)).cell? ⟨w.heap.size, 1, none⟩ = some (.int .i64 0) ∧ (w.alloc (.cells #[.int .i64 0, .int .i64 0] 31)).frozen? ⟨w.heap.size, 0, none⟩ = false ∧ (w.alloc (.cells #[.int .i64 0, .int .i64 0] 31)).frozen? ⟨w.heap.size, 1, none⟩ = false) := by simp [Hid, go_sem]
  generalize (w.alloc (.cells #[.int .i64 0, .int .i64 0] 31)) = W at *
  go_loopw [4, 5, 6, 7] (fun v n f i wr => ∃ (a b k : Nat) (ps : List (Ln × Value)), k ≤ bs.length + 1 ∧ n = .int .i64 a ∧ f = .int .i64 b ∧ i = .int .i64 k ∧ LOwn wr (w.heap.size + 1) v ps ∧ Below (w.heap.size + 1) W wr ∧ Hid (LnAt bs a b k ps)) (fun _ _ _ i _ => bs.length + 1 - (intOf i).toNat)
  case atStart => exact ⟨1, 0, 0, [], Nat.zero_le _, rfl, rfl, rfl, LOwn.nil _ _, Below.refl _ _, lnAt_start _⟩
  case round =>
    obtain ⟨a, b, k, ps, hk, rfl, rfl, rfl, hown, hB, HL⟩ := hrel
    have hbk := HL.out.le
    have hab := HL.out.small
    have hszr : w.heap.size + 1 ≤ wr.heap.size := by have := hB.size; omega
    obtain ⟨g00, g01, g10, g11⟩ := HW0.out
    have f00 : wr.cell? ⟨w.heap.size, 0, none⟩ = some (.int .i64 0) := by rw [hB.cell (by show w.heap.size < _; omega)]; exact g00
    have f01 : wr.cell? ⟨w.heap.size, 1, none⟩ = some (.int .i64 0) := by rw [hB.cell (by show w.heap.size < _; omega)]; exact g01
    have f10 : wr.frozen? ⟨w.heap.size, 0, none⟩ = false := by rw [hB.frozen (by show w.heap.size < _; omega)]; exact g10
    have f11 : wr.frozen? ⟨w.heap.size, 1, none⟩ = false := by rw [hB.frozen (by show w.heap.size < _; omega)]; exact g11
    clear g00 g01 g10 g11
    have HB : Hid (Below (w.heap.size + 1) W wr) := hB
    have HO : Hid (LOwn wr (w.heap.size + 1) u4 ps) := hown
    have HVr : Hid (BReads wr (.slice ad bs.length cap) bs) := (HV.out.below HWB.out (Nat.le_refl _)).below hB (by omega)
    clear hown hB
    by_cases hle : k ≤ bs.length
    · have hk1 : (k : Int) ≤ bs.length := by omega
      by_cases hon : k < bs.length ∧ bs[k]? ≠ some 10
      · obtain ⟨hlt, hne⟩ := hon
        have hk2 : (k : Int) < bs.length := by omega
        obtain ⟨ad1, cap1, e, _, hc⟩ := HVr.out
        injection e with e1 _ e3
        subst e1
        subst e3
        obtain ⟨b1, o1, rfl, hl1, hc1⟩ := hc (by omega)
        have hck := hc1 k hlt
        have hb10 : ((bs[k].toNat : Int) != 10) = true := by
          rw [List.getElem?_eq_getElem hlt] at hne
          simp only [bne_iff_ne, ne_eq]
          intro e
          apply hne
          have : bs[k] = 10 := UInt8.toNat_inj.1 (by show bs[k].toNat = 10; omega)
          rw [this]
        have HN : Hid (LnAt bs a b (k + 1) ps) := HL.out.on hne hlt
        clear hc hc1 hne
        generalize bs[k] = c at *
        go_wp2
        exact ⟨⟨a, b, k + 1, ps, by omega, rfl, rfl, by go_num, HO.out, HB.out, HN.out⟩, by simp [intOf]; omega⟩
      · have HI : Hid (bs[k]? = some 10 ∨ k = bs.length) := by
          by_cases hlt : k < bs.length
          · refine Or.inl (Classical.byContradiction fun hh => hon ⟨hlt, hh⟩)
          · exact Or.inr (by omega)
        clear hon
        obtain ⟨ad', cap', hsl, hrd⟩ := slice_bytes ad cap bs hcap b k hbk hle
        have hcv := conv_bytes (hrd wr HVr.out)
        have hck : k < bs.length → ∃ b1 o1, ad = some ⟨b1, o1, none⟩ ∧ wr.cell? ⟨b1, o1 + k, none⟩ = some (.int .u8 10) := by
          intro hlt
          obtain ⟨ad1, cap1, e, _, hc⟩ := HVr.out
          injection e with e1 _ e3
          subst e1
          obtain ⟨b1, o1, rfl, hl1, hc1⟩ := hc (by omega)
          refine ⟨b1, o1, rfl, ?_⟩
          rw [hc1 k hlt]
          rcases HI.out with hh | hh
          · rw [List.getElem?_eq_getElem hlt] at hh
            injection hh with hh
            rw [hh]
            rfl
          · omega
        clear hrd
        by_cases hlt : k < bs.length
        · have hk2 : (k : Int) < bs.length := by omega
          obtain ⟨b1, o1, rfl, hcell⟩ := hck hlt
          clear hck
          go_wp2_with fail
          refine (rtokens_any _ wr).mono ?_
          rintro e w2 ⟨⟨tv, rfl, htv⟩, hb2⟩
          have hgl : (⟨((bs.drop b).take (k - b)).toArray⟩ : ByteArray).data.toList = (bs.drop b).take (k - b) := rfl
          rw [hgl] at htv ⊢
          clear hgl hcv
          have HB2 : Hid (Below (w.heap.size + 1) W w2) := HB.out.trans (hb2.mono hszr)
          have HO2 : Hid (LOwn w2 (w.heap.size + 1) u4 ps) := HO.out.below hb2 (Nat.le_refl _)
          have HT2 : Hid (w2.ownsRow (w.heap.size + 1) 89 3 tv (lineList ((bs.drop b).take (k - b))).length (tcells (lineList ((bs.drop b).take (k - b))))) := ownsRow_base htv hszr
          have hy2 : w.heap.size + 1 ≤ w2.heap.size := by have := hb2.size; omega
          have F00 : w2.cell? ⟨w.heap.size, 0, none⟩ = some (.int .i64 0) := by rw [hb2.cell (by show w.heap.size < _; omega)]; exact f00
          have F01 : w2.cell? ⟨w.heap.size, 1, none⟩ = some (.int .i64 0) := by rw [hb2.cell (by show w.heap.size < _; omega)]; exact f01
          have F10 : w2.frozen? ⟨w.heap.size, 0, none⟩ = false := by rw [hb2.frozen (by show w.heap.size < _; omega)]; exact f10
          have F11 : w2.frozen? ⟨w.heap.size, 1, none⟩ = false := by rw [hb2.frozen (by show w.heap.size < _; omega)]; exact f11
          obtain ⟨td, tc, htr, hrest⟩ := reads_of_owns htv
          clear hrest htv hb2 HB HO f00 f01 f10 f11 hsl hcell
          by_cases he : lineErr ((bs.drop b).take (k - b)) = 0
          · by_cases hn : lineList ((bs.drop b).take (k - b)) = []
            · have HN : Hid (LnAt bs (a + 1) (k + 1) (k + 1) ps) := HL.out.skip HI.out he hn
              rw [hn] at htr
              simp only [List.length_nil] at htr
              subst htr
              rw [he]
              clear HT2 hn he
              go_wp2
              exact ⟨⟨a + 1, k + 1, k + 1, ps, by omega, by go_num, by go_num, by go_num, HO2.out, HB2.out, HN.out⟩, by simp [intOf]; omega⟩
            · have HN : Hid (∀ v, LnAt bs (a + 1) (k + 1) (k + 1) (ps ++ [(⟨a, lineList ((bs.drop b).take (k - b))⟩, v)])) := fun v => HL.out.line HI.out he hn v
              have hpos : 0 < (lineList ((bs.drop b).take (k - b))).length := List.length_pos_iff.2 hn
              rw [he]
              clear hn he
              subst htr
              generalize hgl : lineList ((bs.drop b).take (k - b)) = TL at *
              have hpos' : (0 : Int) < TL.length := by omega
              have hrow := HO2.out.row
              have hps : ps.length ≤ 1201 := by have := HL.out.few; omega
              clear hgl
              go_wp2_with (first
                | (at_builtin; refine wpList_append_own _ rfl _ _ 44 rfl (w.heap.size + 1) 65 i0 _ 2 32 Tryz.underlying44 hi hz0 hz1 hz2 rfl (by decide) _ _ _ rfl (hrow.alloc _) ⟨w2.heap.size, 0, none⟩ 1 1 [.int .i64 (a : Int), .slice td TL.length tc] rfl rfl (new2 _ _ _ _) (one2 _ _ _ _) (lns_max hps) (lns_bytes hps) (le_alloc hy2 _) ?_)
                | go_in)
              · intro v' w3 hown3 hgrow _
                have hrb : ∀ j, u4.ownBlock = some j → w.heap.size + 1 ≤ j := fun j hj => (hrow.lt j hj).1
                have HB3 : Hid (Below (w.heap.size + 1) W w3) := (HB2.out.alloc hy2 _).grown hgrow (by simp; omega) hrb
                have HO3 : Hid (LOwn w3 (w.heap.size + 1) v' (ps ++ [((⟨a, TL⟩ : Ln), .slice td TL.length tc)])) := by
                  refine ⟨?_, fun p hp => ?_⟩
                  · rw [lcells_app, List.length_append]
                    exact hown3
                  · rcases List.mem_append.1 hp with hp | hp
                    · exact tok_kept ((HO2.out.toks p hp).alloc _) (hrow.alloc _) hgrow
                    · simp at hp
                      subst hp
                      exact tok_kept (HT2.out.alloc _) (hrow.alloc _) hgrow
                clear hown3 hgrow hrb hrow HT2 HO2 HB2
                go_wp2
                exact ⟨⟨a + 1, k + 1, k + 1, _, by omega, by go_num, by go_num, by go_num, HO3.out, HB3.out, HN.out _⟩, by simp [intOf]; omega⟩
          · have HF : Hid (srcErr bs = lineErr ((bs.drop b).take (k - b)) ∧ srcAt bs = a ∧ srcList bs = []) := HL.out.err HI.out h he
            have he' : (lineErr ((bs.drop b).take (k - b)) == 0) = false := by simpa using he
            clear HO2 HT2 htr he
            generalize lineErr ((bs.drop b).take (k - b)) = E at *
            go_wp2
            refine bodyPost_ret (v := .tuple #[.slice none 0 0, .agg #[.int .i64 E, .int .i64 (a : Int)]]) (by simp [results, Tryz.results10, go_sem, F00, F01]) rfl ⟨⟨_, [], by rw [HF.out.1, HF.out.2.1], by rw [HF.out.2.2]; rfl, LOwn.nil _ _⟩, ?_⟩
            exact ((HWB.out.trans (HB2.out.mono (by omega))).setCell (by exact Nat.le_refl _) _).setCell (by exact Nat.le_refl _) _
        · have hk2 : ¬ (k : Int) < bs.length := by omega
          clear hck
          go_wp2_with fail
          refine (rtokens_any _ wr).mono ?_
          rintro e w2 ⟨⟨tv, rfl, htv⟩, hb2⟩
          have hgl : (⟨((bs.drop b).take (k - b)).toArray⟩ : ByteArray).data.toList = (bs.drop b).take (k - b) := rfl
          rw [hgl] at htv ⊢
          clear hgl hcv
          have HB2 : Hid (Below (w.heap.size + 1) W w2) := HB.out.trans (hb2.mono hszr)
          have HO2 : Hid (LOwn w2 (w.heap.size + 1) u4 ps) := HO.out.below hb2 (Nat.le_refl _)
          have HT2 : Hid (w2.ownsRow (w.heap.size + 1) 89 3 tv (lineList ((bs.drop b).take (k - b))).length (tcells (lineList ((bs.drop b).take (k - b))))) := ownsRow_base htv hszr
          have hy2 : w.heap.size + 1 ≤ w2.heap.size := by have := hb2.size; omega
          have F00 : w2.cell? ⟨w.heap.size, 0, none⟩ = some (.int .i64 0) := by rw [hb2.cell (by show w.heap.size < _; omega)]; exact f00
          have F01 : w2.cell? ⟨w.heap.size, 1, none⟩ = some (.int .i64 0) := by rw [hb2.cell (by show w.heap.size < _; omega)]; exact f01
          have F10 : w2.frozen? ⟨w.heap.size, 0, none⟩ = false := by rw [hb2.frozen (by show w.heap.size < _; omega)]; exact f10
          have F11 : w2.frozen? ⟨w.heap.size, 1, none⟩ = false := by rw [hb2.frozen (by show w.heap.size < _; omega)]; exact f11
          obtain ⟨td, tc, htr, hrest⟩ := reads_of_owns htv
          clear hrest htv hb2 HB HO f00 f01 f10 f11 hsl
          by_cases he : lineErr ((bs.drop b).take (k - b)) = 0
          · by_cases hn : lineList ((bs.drop b).take (k - b)) = []
            · have HN : Hid (LnAt bs (a + 1) (k + 1) (k + 1) ps) := HL.out.skip HI.out he hn
              rw [hn] at htr
              simp only [List.length_nil] at htr
              subst htr
              rw [he]
              clear HT2 hn he
              go_wp2
              exact ⟨⟨a + 1, k + 1, k + 1, ps, by omega, by go_num, by go_num, by go_num, HO2.out, HB2.out, HN.out⟩, by simp [intOf]; omega⟩
            · have HN : Hid (∀ v, LnAt bs (a + 1) (k + 1) (k + 1) (ps ++ [(⟨a, lineList ((bs.drop b).take (k - b))⟩, v)])) := fun v => HL.out.line HI.out he hn v
              have hpos : 0 < (lineList ((bs.drop b).take (k - b))).length := List.length_pos_iff.2 hn
              rw [he]
              clear hn he
              subst htr
              generalize hgl : lineList ((bs.drop b).take (k - b)) = TL at *
              have hpos' : (0 : Int) < TL.length := by omega
              have hrow := HO2.out.row
              have hps : ps.length ≤ 1201 := by have := HL.out.few; omega
              clear hgl
              go_wp2_with (first
                | (at_builtin; refine wpList_append_own _ rfl _ _ 44 rfl (w.heap.size + 1) 65 i0 _ 2 32 Tryz.underlying44 hi hz0 hz1 hz2 rfl (by decide) _ _ _ rfl (hrow.alloc _) ⟨w2.heap.size, 0, none⟩ 1 1 [.int .i64 (a : Int), .slice td TL.length tc] rfl rfl (new2 _ _ _ _) (one2 _ _ _ _) (lns_max hps) (lns_bytes hps) (le_alloc hy2 _) ?_)
                | go_in)
              · intro v' w3 hown3 hgrow _
                have hrb : ∀ j, u4.ownBlock = some j → w.heap.size + 1 ≤ j := fun j hj => (hrow.lt j hj).1
                have HB3 : Hid (Below (w.heap.size + 1) W w3) := (HB2.out.alloc hy2 _).grown hgrow (by simp; omega) hrb
                have HO3 : Hid (LOwn w3 (w.heap.size + 1) v' (ps ++ [((⟨a, TL⟩ : Ln), .slice td TL.length tc)])) := by
                  refine ⟨?_, fun p hp => ?_⟩
                  · rw [lcells_app, List.length_append]
                    exact hown3
                  · rcases List.mem_append.1 hp with hp | hp
                    · exact tok_kept ((HO2.out.toks p hp).alloc _) (hrow.alloc _) hgrow
                    · simp at hp
                      subst hp
                      exact tok_kept (HT2.out.alloc _) (hrow.alloc _) hgrow
                clear hown3 hgrow hrb hrow HT2 HO2 HB2
                go_wp2
                exact ⟨⟨a + 1, k + 1, k + 1, _, by omega, by go_num, by go_num, by go_num, HO3.out, HB3.out, HN.out _⟩, by simp [intOf]; omega⟩
          · have HF : Hid (srcErr bs = lineErr ((bs.drop b).take (k - b)) ∧ srcAt bs = a ∧ srcList bs = []) := HL.out.err HI.out h he
            have he' : (lineErr ((bs.drop b).take (k - b)) == 0) = false := by simpa using he
            clear HO2 HT2 htr he
            generalize lineErr ((bs.drop b).take (k - b)) = E at *
            go_wp2
            refine bodyPost_ret (v := .tuple #[.slice none 0 0, .agg #[.int .i64 E, .int .i64 (a : Int)]]) (by simp [results, Tryz.results10, go_sem, F00, F01]) rfl ⟨⟨_, [], by rw [HF.out.1, HF.out.2.1], by rw [HF.out.2.2]; rfl, LOwn.nil _ _⟩, ?_⟩
            exact ((HWB.out.trans (HB2.out.mono (by omega))).setCell (by exact Nat.le_refl _) _).setCell (by exact Nat.le_refl _) _
    · have hk1 : ¬ (k : Int) ≤ bs.length := by omega
      have HF : Hid (srcErr bs = 0 ∧ srcAt bs = 0 ∧ srcList bs = ps.map (·.1)) := HL.out.fin (by have := HL.out.ended (by omega); omega) h
      go_wp2
      refine bodyPost_ret (v := .tuple #[u4, .agg #[.int .i64 0, .int .i64 0]]) (by simp [results, Tryz.results10, go_sem, f00, f01]) rfl ⟨⟨u4, ps, by rw [HF.out.1, HF.out.2.1], HF.out.2.2.symm, ?_⟩, ?_⟩
      · exact lown_base (lown_set (lown_set HO.out (by show w.heap.size < _; omega) _) (by show w.heap.size < _; omega) _) (by omega)
      · exact ((HWB.out.trans (HB.out.mono (by omega))).setCell (by exact Nat.le_refl _) _).setCell (by exact Nat.le_refl _) _

theorem rlines_any (ad : Option Addr) (cap : Nat) (bs : List UInt8) (w : World) (hv : BReads w (.slice ad bs.length cap) bs) (hcap : bs.length ≤ cap) :
    Calls Tryz.prog 10 #[.slice ad bs.length cap] w fun e w' => LinAns w.heap.size w' bs e ∧ Below w.heap.size w w' := by
  by_cases h : bs.length ≤ 1200
  · exact rlines_few ad cap bs w hv hcap h
  · exact rlines_much _ bs w hv (by omega)

end Go.Proofs.YtagkmgdjkailkaaGreatDoor.Sc
