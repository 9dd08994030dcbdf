/- The contract of scan's Lines: the loop. -/
import Derived.Test.YtagkmgdjkailkaaGreatDoorPut19
namespace Go.Proofs.YtagkmgdjkailkaaGreatDoor.Sc
open Go.RowKit

theorem split_any (s : ByteArray) (w : World) (hG : Glob w) (hs : s.size ≤ 1200) :
    Calls Tryz.prog 21 #[.string s, .string ⟨#[10]⟩] w fun e w' => ∃ L : List ByteArray, L.map (·.data.toList) = splitNL s.data.toList ∧ L.length ≤ 1201 ∧
      e = .returned (.slice (some ⟨w.heap.size, 0, none⟩) L.length L.length) ∧ w' = w.alloc (.cells (L.map Value.string).toArray 9) := by
  obtain ⟨m, hm⟩ := hG.m
  refine (Tryz.strings_Split s ⟨#[10]⟩ m w (by omega) hm (by decide)).mono ?_
  rintro e w' ⟨rfl, rfl⟩
  have hcnt : Lib.countB s ⟨#[10]⟩ = s.data.toList.count 10 := by
    unfold Lib.countB
    exact Lib.count_one 10 s.data.toList
  have hlen := Lib.splitB_all ⟨#[10]⟩ (by decide) 0 _ s rfl
  have hle : s.data.toList.count 10 ≤ s.data.toList.length := List.count_le_length
  have hsz := size_of (rfl : s.data.toList = _)
  refine ⟨Lib.splitB ⟨#[10]⟩ 0 (Lib.countB s ⟨#[10]⟩) s, ?_, by omega, by rw [hlen], rfl⟩
  rw [Lib.splitB_data, hcnt]
  exact splitK_eq _

theorem strs_at (w : World) (L : List ByteArray) (i : Nat) (h : i < L.length) : (w.alloc (.cells (L.map Value.string).toArray 9)).cell? ⟨w.heap.size, i, none⟩ = some (.string L[i]) := by
  have hn := heap_alloc_new w (.cells (L.map Value.string).toArray 9)
  unfold World.cell?
  simp only [hn]
  simp [h]

theorem src_few {bs : List UInt8} {X : Except (Int × Int) (List Ln)} (h : bs.length ≤ 1200) (hX : linesR 1 (splitNL bs) = X) : srcLines bs = X := by
  unfold srcLines
  rw [if_neg (by omega), hX]
theorem src_ok {bs : List UInt8} {ls : List Ln} (h : srcLines bs = .ok ls) : srcErr bs = 0 ∧ srcAt bs = 0 ∧ srcList bs = ls := by
  unfold srcErr srcAt srcList
  rw [h]
  exact ⟨rfl, rfl, rfl⟩
theorem src_no {bs : List UInt8} {a b : Int} (h : srcLines bs = .error (a, b)) : srcErr bs = a ∧ srcAt bs = b ∧ srcList bs = [] := by
  unfold srcErr srcAt srcList
  rw [h]
  exact ⟨rfl, rfl, rfl⟩

theorem lown_base {w : World} {b b' : Nat} {v : Value} {ps : List (Ln × Value)} (h : LOwn w b v ps) (hb : b' ≤ b) : LOwn w b' v ps := ⟨ownsRow_base h.row hb, fun p hp => ownsRow_base (h.toks p hp) hb⟩

theorem lown_set {w : World} {b : Nat} {v : Value} {ps : List (Ln × Value)} (h : LOwn w b v ps) {a : Addr} (ha : a.block < b) (u : Value) : LOwn (w.setCell a u) b v ps := ⟨ownsRow_setCell_below h.row ha u, fun p hp => ownsRow_setCell_below (h.toks p hp) ha u⟩

set_option maxHeartbeats 1000000 in
set_option maxRecDepth 100000 in
theorem lines_few (v : Value) (bs : List UInt8) (w : World) (hG : Glob w) (hv : BReads w v bs) (h : bs.length ≤ 1200) :
    Calls Tryz.prog 13 #[v] w fun e w' => LinAns w.heap.size w' bs e ∧ Below w.heap.size w w' := by
  have hconv : ∀ o : Obj, (convert 24 9 v).run Tryz.prog (w.alloc o) = .ok (.string ⟨bs.toArray⟩) (w.alloc o) := by
    intro o
    refine conv_bytes ?_
    obtain ⟨ad, cap, rfl, hm, hc⟩ := hv
    refine ⟨ad, cap, rfl, hm, fun h0 => ?_⟩
    obtain ⟨b, o', rfl, hlt, hcell⟩ := hc h0
    exact ⟨b, o', rfl, by simp; omega, fun i hi => by rw [World.cell?_alloc_lt _ _ _ (by exact hlt)]; exact hcell i hi⟩
  obtain ⟨ad, cap, rfl, hm, hc⟩ := hv
  clear hc
  unfold maxLen at hm
  have h' : ¬ (1200 : Int) < bs.length := by omega
  obtain ⟨i0, hi, hz0, hz1, hz2⟩ := info_parts info64
  have hsz := hG.sz
  have hbsz : (⟨bs.toArray⟩ : ByteArray).size = bs.length := by simp [ByteArray.size]
  have hG0 : ∀ o : Obj, Glob (w.alloc o) := fun o => hG.below ((Below.refl w.heap.size w).alloc (Nat.le_refl _) o) hsz
  have HG : Hid (Glob w) := hG
  clear hG
  go_enter Tryz.func13, Tryz.ntmps13
  go_wp2_with fail
  refine (split_any ⟨bs.toArray⟩ _ (hG0 _) (by omega)).mono ?_
  rintro e w1 ⟨L, hL, hL12, rfl, rfl⟩
  have hLl : L.length = (splitNL bs).length := by rw [← hL]; simp
  clear hconv hG0
  have hWs : ((w.alloc (.cells #[.int .i64 0, .int .i64 0] 31)).alloc (.cells (L.map Value.string).toArray 9)).heap.size = w.heap.size + 2 := by simp
  have hWB : Below w.heap.size w ((w.alloc (.cells #[.int .i64 0, .int .i64 0] 31)).alloc (.cells (L.map Value.string).toArray 9)) := ((Below.refl _ _).alloc (Nat.le_refl _) _).alloc (by simp) _
  have hWL : ∀ i (h : i < L.length), ((w.alloc (.cells #[.int .i64 0, .int .i64 0] 31)).alloc (.cells (L.map Value.string).toArray 9)).cell? ⟨w.heap.size + 1, i, none⟩ = some (.string L[i]) := by
    intro i h
    simp
  have hW0 : ((w.alloc (.cells #[.int .i64 0, .int .i64 0] 31)).alloc (.cells (L.map Value.string).toArray 9)).cell? ⟨w.heap.size, 0, none⟩ = some (.int .i64 0) ∧ ((w.alloc (.cells #[.int .i64 0, .int .i64 0] 31)).alloc (.cells (L.map Value.string).toArray 9)).cell? ⟨w.heap.size, 1, none⟩ = some (.int .i64 0) ∧ ((w.alloc (.cells #[.int .i64 0, .int .i64 0] 31)).alloc (.cells (L.map Value.string).toArray 9)).frozen? ⟨w.heap.size, 0, none⟩ = false ∧ ((w.alloc (.cells #[.int .i64 0, .int .i64 0] 31)).alloc (.cells (L.map Value.string).toArray 9)).frozen? ⟨w.heap.size, 1, none⟩ = false := by simp [go_sem]
  generalize ((w.alloc (.cells #[.int .i64 0, .int .i64 0] 31)).alloc (.cells (L.map Value.string).toArray 9)) = W at *
  have HWB : Hid (Below w.heap.size w W) := hWB
  have HWL : Hid (∀ i (h : i < L.length), W.cell? ⟨w.heap.size + 1, i, none⟩ = some (.string L[i])) := hWL
  have HW0 : Hid (W.cell? ⟨w.heap.size, 0, none⟩ = some (.int .i64 0) ∧ W.cell? ⟨w.heap.size, 1, none⟩ = some (.int .i64 0) ∧ W.frozen? ⟨w.heap.size, 0, none⟩ = false ∧ W.frozen? ⟨w.heap.size, 1, none⟩ = false) := hW0
  have HL : Hid (L.map (·.data.toList) = splitNL bs) := hL
  clear hWB hWL hW0 hL
  go_wp2
  go_loopw [4, 17] (fun v i wr => ∃ (k : Nat) (ps : List (Ln × Value)), k ≤ L.length ∧ i = .int .i64 k ∧ LOwn wr (w.heap.size + 2) v ps ∧ Below (w.heap.size + 2) W wr ∧ w.heap.size + 2 ≤ wr.heap.size ∧ Hid (ps.length ≤ k ∧ linesR 1 (splitNL bs) = addLn (ps.map (·.1)) (linesR (k + 1) ((splitNL bs).drop k)))) (fun _ i _ => L.length - (intOf i).toNat)
  case atStart =>
    refine ⟨0, [], Nat.zero_le _, rfl, LOwn.nil _ _, Below.refl _ _, by omega, Nat.le_refl _, ?_⟩
    show _ = addLn [] (linesR 1 (splitNL bs))
    cases linesR 1 (splitNL bs) <;> simp [addLn]
  case round =>
    obtain ⟨k, ps, hk, rfl, hown, hB, hz, HH⟩ := hrel
    by_cases hlt : k < L.length
    · have hk1 : (k : Int) < L.length := by omega
      have hck : wr.cell? ⟨w.heap.size + 1, k, none⟩ = some (.string L[k]) := by rw [hB.cell (by show w.heap.size + 1 < _; omega)]; exact HWL.out k hlt
      have hdrop : Hid ((splitNL bs).drop k = L[k].data.toList :: (splitNL bs).drop (k + 1)) := by
        have hk2 : k < (splitNL bs).length := by omega
        unfold Hid
        rw [List.drop_eq_getElem_cons hk2]
        have e : (splitNL bs)[k] = L[k].data.toList := by simp only [← HL.out, List.getElem_map]
        rw [e]
      have hGr : Glob wr := (HG.out.below HWB.out hsz).below hB (by omega)
      have f0 : Hid (wr.cell? ⟨w.heap.size, 0, none⟩ = some (.int .i64 0) ∧ wr.cell? ⟨w.heap.size, 1, none⟩ = some (.int .i64 0) ∧ wr.frozen? ⟨w.heap.size, 0, none⟩ = false ∧ wr.frozen? ⟨w.heap.size, 1, none⟩ = false) := by
        unfold Hid
        rw [hB.cell (by show w.heap.size < _; omega), hB.cell (by show w.heap.size < _; omega), hB.frozen (by show w.heap.size < _; omega), hB.frozen (by show w.heap.size < _; omega)]
        exact HW0.out
      have HB : Hid (Below (w.heap.size + 2) W wr) := hB
      have HO : Hid (LOwn wr (w.heap.size + 2) u4 ps) := hown
      clear hB hown
      obtain ⟨x, hx⟩ : ∃ x, L[k] = x := ⟨_, rfl⟩
      rw [hx] at hck hdrop
      clear hx
      go_wp2_with fail
      refine (tokens_any x wr hGr).mono ?_
      rintro e w2 ⟨⟨tv, rfl, htv⟩, hb2⟩
      obtain ⟨g00, g01, g10, g11⟩ := f0.out
      have f00 : w2.cell? ⟨w.heap.size, 0, none⟩ = some (.int .i64 0) := by rw [hb2.cell (by show w.heap.size < _; omega)]; exact g00
      have f01 : w2.cell? ⟨w.heap.size, 1, none⟩ = some (.int .i64 0) := by rw [hb2.cell (by show w.heap.size < _; omega)]; exact g01
      have f10 : w2.frozen? ⟨w.heap.size, 0, none⟩ = false := by rw [hb2.frozen (by show w.heap.size < _; omega)]; exact g10
      have f11 : w2.frozen? ⟨w.heap.size, 1, none⟩ = false := by rw [hb2.frozen (by show w.heap.size < _; omega)]; exact g11
      have HB2 : Hid (Below (w.heap.size + 2) W w2) := HB.out.trans (hb2.mono hz)
      have HO2 : Hid (LOwn w2 (w.heap.size + 2) u4 ps) := HO.out.below hb2 (Nat.le_refl _)
      have HT2 : Hid (w2.ownsRow (w.heap.size + 2) 89 3 tv (lineList x.data.toList).length (tcells (lineList x.data.toList))) := ownsRow_base htv hz
      have hy2 : w.heap.size + 2 ≤ w2.heap.size := by have := hb2.size; omega
      obtain ⟨td, tc, htr, hrest⟩ := reads_of_owns htv
      clear hrest
      clear hb2 htv HB HO hGr hck g00 g01 g10 g11
      by_cases he : lineErr x.data.toList = 0
      · by_cases hn : lineList x.data.toList = []
        · rw [hn] at htr
          simp only [List.length_nil] at htr
          subst htr
          have HN : Hid (ps.length ≤ k + 1 ∧ linesR 1 (splitNL bs) = addLn (ps.map (·.1)) (linesR (k + 1 + 1) ((splitNL bs).drop (k + 1)))) := by
            refine ⟨by have := HH.out.1; omega, ?_⟩
            exact linesR_none (by rw [HH.out.2, hdrop.out]) he hn
          rw [he]
          clear HH hdrop HT2 hn
          go_wp2
          exact ⟨⟨k + 1, ps, by omega, by go_num, HO2.out, HB2.out, hy2, HN.out⟩, by simp [intOf]; omega⟩
        · have hpos : 0 < (lineList x.data.toList).length := List.length_pos_iff.2 hn
          have HN : Hid (ps.length + 1 ≤ k + 1 ∧ linesR 1 (splitNL bs) = addLn ((ps ++ [((⟨(k : Int) + 1, lineList x.data.toList⟩ : Ln), tv)]).map (·.1)) (linesR (k + 1 + 1) ((splitNL bs).drop (k + 1)))) := by
            refine ⟨by have := HH.out.1; omega, ?_⟩
            rw [List.map_append]
            exact linesR_some (by rw [HH.out.2, hdrop.out]) he hn
          have hpl : ps.length ≤ 1201 := by have := HH.out.1; omega
          rw [he]
          clear HH hdrop hn
          subst htr
          generalize hgl : lineList x.data.toList = TL at *
          have hpos' : (0 : Int) < TL.length := by omega
          have hrow := HO2.out.row
          go_wp2_with (first
            | (at_builtin; refine wpList_append_own _ rfl _ _ 44 rfl (w.heap.size + 2) 65 i0 _ 2 32 Tryz.underlying44 hi hz0 hz1 hz2 rfl (by decide) _ _ _ rfl (hrow.alloc _) ⟨w2.heap.size, 0, none⟩ 1 1 [.int .i64 ((k : Int) + 1), .slice td TL.length tc] rfl rfl ?c1 ?c2 ?c3 ?c4 ?c5 ?_)
            | go_in)
          case c1 =>
            intro j u hj
            match j, hj with
            | 0, hj => simp at hj; subst hj; simp [go_sem, Addr.add]
            | 1, hj => simp at hj; subst hj; simp [go_sem, Addr.add]
          case c2 => intro u hu; simp at hu; rcases hu with rfl | rfl <;> rfl
          case c3 => unfold maxLen; omega
          case c4 => omega
          case c5 => simp; omega
          · intro v' w3 hown3 hgrow _
            have hrb : ∀ j, u4.ownBlock = some j → w.heap.size + 2 ≤ j := fun j hj => (hrow.lt j hj).1
            have HB3 : Hid (Below (w.heap.size + 2) W w3) := (HB2.out.alloc hy2 _).grown hgrow (by simp; omega) hrb
            have hz3 : w.heap.size + 2 ≤ w3.heap.size := by have := hgrow.size; simp at this; omega
            have HO3 : Hid (LOwn w3 (w.heap.size + 2) v' (ps ++ [((⟨(k : Int) + 1, TL⟩ : Ln), .slice td TL.length tc)])) := by
              refine ⟨?_, fun p hp => ?_⟩
              · rw [lcells_app, List.length_append]
                exact hown3
              · rcases List.mem_append.1 hp with hp | hp
                · exact tok_kept ((HO2.out.toks p hp).alloc _) (hrow.alloc _) hgrow
                · simp at hp
                  subst hp
                  exact tok_kept (HT2.out.alloc _) (hrow.alloc _) hgrow
            clear hown3 hgrow hrb hrow HT2 HO2 HB2
            go_wp2
            exact ⟨⟨k + 1, _, by omega, by go_num, HO3.out, HB3.out, hz3, by rw [List.length_append]; exact HN.out.1, HN.out.2⟩, by simp [intOf]; omega⟩
      · have HF : Hid (srcErr bs = lineErr x.data.toList ∧ srcAt bs = (k : Int) + 1 ∧ srcList bs = []) := by
          refine src_no (src_few h ?_)
          rw [HH.out.2, hdrop.out, linesR_err he]
          rfl
        have he' : (lineErr x.data.toList == 0) = false := by simpa using he
        have HH0 := HH
        clear HH hdrop HH0 HO2 HT2 htr
        generalize lineErr x.data.toList = E at *
        go_wp2
        refine bodyPost_ret (v := .tuple #[.slice none 0 0, .agg #[.int .i64 E, .int .i64 ((k : Int) + 1)]]) (by simp [results, Tryz.results13, go_sem, f00, f01]) rfl ⟨⟨_, [], by rw [HF.out.1, HF.out.2.1], by rw [HF.out.2.2]; rfl, LOwn.nil _ _⟩, ?_⟩
        exact ((HWB.out.trans (HB2.out.mono (by omega))).setCell (by exact Nat.le_refl _) _).setCell (by exact Nat.le_refl _) _
    · have hk1 : ¬ (k : Int) < L.length := by omega
      have HF : Hid (srcErr bs = 0 ∧ srcAt bs = 0 ∧ srcList bs = ps.map (·.1)) := by
        refine src_ok (src_few h ?_)
        rw [HH.out.2, List.drop_eq_nil_of_le (by omega)]
        simp [linesR, addLn]
      have f0 : wr.cell? ⟨w.heap.size, 0, none⟩ = some (.int .i64 0) ∧ wr.cell? ⟨w.heap.size, 1, none⟩ = some (.int .i64 0) ∧ wr.frozen? ⟨w.heap.size, 0, none⟩ = false ∧ wr.frozen? ⟨w.heap.size, 1, none⟩ = false := by
        rw [hB.cell (by show w.heap.size < _; omega), hB.cell (by show w.heap.size < _; omega), hB.frozen (by show w.heap.size < _; omega), hB.frozen (by show w.heap.size < _; omega)]
        exact HW0.out
      obtain ⟨f00, f01, f10, f11⟩ := f0
      have HB : Hid (Below (w.heap.size + 2) W wr) := hB
      have HO : Hid (LOwn wr (w.heap.size + 2) u4 ps) := hown
      clear hB hown HH
      go_wp2
      refine bodyPost_ret (v := .tuple #[u4, .agg #[.int .i64 0, .int .i64 0]]) (by simp [results, Tryz.results13, go_sem, f00, f01]) rfl ⟨⟨u4, ps, by rw [HF.out.1, HF.out.2.1], HF.out.2.2.symm, ?_⟩, ?_⟩
      · exact lown_base (lown_set (lown_set HO.out (by show w.heap.size < _; omega) _) (by show w.heap.size < _; omega) _) (by omega)
      · exact ((HWB.out.trans (HB.out.mono (by omega))).setCell (by exact Nat.le_refl _) _).setCell (by exact Nat.le_refl _) _

theorem lines_any (v : Value) (bs : List UInt8) (w : World) (hG : Glob w) (hv : BReads w v bs) :
    Calls Tryz.prog 13 #[v] w fun e w' => LinAns w.heap.size w' bs e ∧ Below w.heap.size w w' := by
  by_cases h : bs.length ≤ 1200
  · exact lines_few v bs w hG hv h
  · exact lines_much v bs w hv (by omega)

end Go.Proofs.YtagkmgdjkailkaaGreatDoor.Sc
