/- The contracts of the program's own wrongSyms and Wrong of an object. -/
import Derived.Test.YtalghejeekajgadOcW
namespace Go.Proofs.Ytalghejeekajgad
open Go.RowKit Go.Maps Go.MapKept

theorem lawS : Keyed Try.prog 9 := string_keyed Try.underlying9
theorem zeroU (w : World) : (zeroValue 81).run Try.prog w = .ok (.agg #[]) w := by kernel_rfl

/-- The set of the names of syms. -/
def nameSet (l : List Sy) : DataW Unit := setOf (.agg []) (l.map fun s => Lit.string s.name)
theorem nameSet_nil : nameSet [] = .map [] := rfl
theorem nameSet_snoc (l : List Sy) (s : Sy) : nameSet (l ++ [s]) = (nameSet l).put (.string s.name) (.agg []) := by
  unfold nameSet
  rw [List.map_append, List.map_singleton, setOf_snoc]
theorem sameKey_str (a b : List UInt8) : (Lit.string a).sameKey (.string b) = decide (a = b) := by
  by_cases h : a = b
  · subst h
    rw [WideAt.sameKey_self (by trivial)]
    simp
  · rw [sameKey_ne (fun e => h (by injection e))]
    simp [h]
theorem has_nameSet (l : List Sy) (n : List UInt8) : Maps.has (nameSet l) (.string n) = l.any (fun t => decide (t.name = n)) := by
  unfold nameSet
  rw [has_setOf _ _ _ (fun y hy => by obtain ⟨_, _, rfl⟩ := List.mem_map.1 hy; trivial), List.any_map]
  congr 1
  funext t
  exact sameKey_str _ _

theorem syms_err {l : List Sy} {len k : Nat} {E e : Int} (hk : k < l.length) (hE : E = symsErr nameR len (l.take k) (l.drop k)) (he : symErr nameR len (l.take k) l[k] = e) (h0 : e ≠ 0) : E = e := by
  rw [hE, symsErr_at hk, he, if_neg h0]

set_option maxRecDepth 100000 in
set_option maxHeartbeats 8000000 in
theorem wsyms_any (l : List Sy) (len : Nat) (v : Value) (w : World) (hv : OSyms w v l) (_hlen : len ≤ 8000) (hll : l.length ≤ 256) (hnl : ∀ s, s ∈ l → s.name.length ≤ maxLen) :
    Calls Try.prog 16 #[v, .int .i64 (len : Int)] w fun e w' => e = .returned (.int .i64 (symsErr nameR len [] l)) ∧ Below w.heap.size w w' := by
  obtain ⟨sad, scap, rfl, hsm, hsc⟩ := hv
  have HSC : Hid (0 < l.length → ∃ b f, sad = some ⟨b, f, none⟩ ∧ b < w.heap.size ∧ ∀ i (h : i < l.length),
    w.cell? ⟨b, f + i * 2, none⟩ = some (.string ⟨l[i].name.toArray⟩) ∧ w.cell? ⟨b, f + i * 2 + 1, none⟩ = some (.int .i64 l[i].pos)) := hsc
  clear hsc hsm
  have HNL := Lib.hid hnl
  clear hnl
  obtain ⟨E, hE⟩ : ∃ E, E = symsErr nameR len [] l := ⟨_, rfl⟩
  rw [← hE]
  have HE0 := Lib.hid hE
  clear hE
  have hmm := @run_makeMap Try.prog
  go_enter Try.func16, Try.ntmps16
  go_wp2
  go_loopw [13] (fun i wr => ∃ (k : Nat), k ≤ l.length ∧ i = .int .i64 k ∧ Hid (Below w.heap.size w wr) ∧ w.heap.size < wr.heap.size ∧ wr.ownsMap Try.prog 9 unitElem w.heap.size k (nameSet (l.take k)) ∧ Hid (E = symsErr nameR len (l.take k) (l.drop k))) (fun i _ => l.length - (intOf i).toNat)
  case atStart => exact ⟨0, Nat.zero_le _, rfl, (Below.refl _ _).alloc (Nat.le_refl _) _, by simp, World.ownsMap_made _ _ _ _, HE0⟩
  case round =>
    obtain ⟨k, hk, rfl, HB, hws, hown, HE⟩ := hrel
    clear HE0
    by_cases hlt : k < l.length
    · have hk1 : (k : Int) < l.length := by omega
      obtain ⟨b, f, rfl, hbl, hcell⟩ := HSC.out (by omega)
      obtain ⟨c0, c1⟩ := hcell k hlt
      rw [← HB.out.cell (by exact hbl)] at c0 c1
      clear hcell
      obtain ⟨s, hs⟩ : ∃ s, s = l[k] := ⟨_, rfl⟩
      rw [← hs] at c0 c1
      have HS := Lib.hid hs
      have hnlen : s.name.length ≤ maxLen := HNL.out s (hs ▸ List.getElem_mem hlt)
      clear hs
      have hkey : keyOf Try.prog 9 (.string ⟨s.name.toArray⟩) = some (.string s.name) := Go.WideMaps.keyOf_string_mk Try.underlying9 (s := ⟨s.name.toArray⟩) (by simpa [ByteArray.size] using hnlen)
      have hnm : ∀ W, Calls Try.prog 39 #[.string ⟨s.name.toArray⟩] W fun e w' => e = .returned (.bool (nameR s.name)) ∧ W = w' := fun W => name_same ⟨s.name.toArray⟩ W
      have hhas := has_nameSet (l.take k) s.name
      have HSN : Hid (nameSet (l.take (k + 1)) = (nameSet (l.take k)).put (.string s.name) (.agg [])) := by
        unfold Hid
        rw [List.take_succ_eq_append_getElem hlt, ← HS.out, nameSet_snoc]
      obtain ⟨D, hD⟩ : ∃ D, D = nameSet (l.take k) := ⟨_, rfl⟩
      rw [← hD] at hown hhas
      have HD := Lib.hid hD
      clear hD hnlen
      have HBB : Hid (Below w.heap.size w ((wr.alloc (.cells #[.string ⟨s.name.toArray⟩, .int .i64 s.pos] 49)).alloc (.cells #[] 81))) := (HB.out.alloc HB.out.size _).alloc (by simp; omega) _
      cases hT : (l.take k).any (fun t => decide (t.name = s.name))
      · rw [hT] at hhas
        cases hN : nameR s.name
        · have HX : Hid (E = 7) := syms_err hlt HE.out (by unfold symErr; rw [← HS.out, if_pos hN]) (by decide)
          rw [hN] at hnm
          clear HE
          go_wp2_with (first | (at_lookup; refine wpList_lookup_own_unit _ rfl _ _ 80 rfl 9 81 lawS Try.underlying80 (zeroU _) w.heap.size k _ rfl (hown.alloc _) _ _ rfl hkey ?_; rw [hhas]) | (go_at_call 39; refine (hnm _).mono ?_; rintro e w' ⟨rfl, rfl⟩) | go_in)
          go_ret
          exact ⟨ret_int HX.out.symm, HBB.out⟩
        · rw [hN] at hnm
          by_cases hp0 : s.pos < 0
          · have HX : Hid (E = 3) := syms_err hlt HE.out (by unfold symErr; rw [← HS.out, if_neg (by rw [hN]; decide), if_neg (by rw [hT]; decide), if_pos (.inl hp0)]) (by decide)
            clear HE
            go_wp2_with (first | (at_lookup; refine wpList_lookup_own_unit _ rfl _ _ 80 rfl 9 81 lawS Try.underlying80 (zeroU _) w.heap.size k _ rfl (hown.alloc _) _ _ rfl hkey ?_; rw [hhas]) | (go_at_call 39; refine (hnm _).mono ?_; rintro e w' ⟨rfl, rfl⟩) | go_in)
            go_ret
            exact ⟨ret_int HX.out.symm, HBB.out⟩
          · by_cases hp1 : (len : Int) < s.pos
            · have HX : Hid (E = 3) := syms_err hlt HE.out (by unfold symErr; rw [← HS.out, if_neg (by rw [hN]; decide), if_neg (by rw [hT]; decide), if_pos (.inr hp1)]) (by decide)
              clear HE
              go_wp2_with (first | (at_lookup; refine wpList_lookup_own_unit _ rfl _ _ 80 rfl 9 81 lawS Try.underlying80 (zeroU _) w.heap.size k _ rfl (hown.alloc _) _ _ rfl hkey ?_; rw [hhas]) | (go_at_call 39; refine (hnm _).mono ?_; rintro e w' ⟨rfl, rfl⟩) | go_in)
              go_ret
              exact ⟨ret_int HX.out.symm, HBB.out⟩
            · have HX : Hid (E = symsErr nameR len (l.take (k + 1)) (l.drop (k + 1))) := by
                unfold Hid
                rw [HE.out, symsErr_at hlt, if_pos]
                unfold symErr
                rw [← HS.out, if_neg (by rw [hN]; decide), if_neg (by rw [hT]; decide), if_neg (by omega)]
              clear HE
              go_wp2_with (first | (at_lookup; refine wpList_lookup_own_unit _ rfl _ _ 80 rfl 9 81 lawS Try.underlying80 (zeroU _) w.heap.size k _ rfl (hown.alloc _) _ _ rfl hkey ?_; rw [hhas]) | (go_at_call 39; refine (hnm _).mono ?_; rintro e w' ⟨rfl, rfl⟩) | (at_mapUpdate; refine wpList_mapUpdate_own _ rfl _ _ _ 80 rfl 9 81 lawS Try.underlying80 (unitElem (H := Unit)) w.heap.size k _ rfl ((hown.alloc _).alloc _) (by unfold maxLen; omega) _ _ _ rfl rfl hkey _ [] unitElem_mk ?_; intro w1 hown1 hgrow1) | go_in)
              have s1 := hgrow1.size
              simp at s1
              exact ⟨⟨k + 1, by omega, by go_num, HBB.out.grown hgrow1 (by simp; omega) (fun j hj => by cases hj; exact Nat.le_refl _), by omega, by rw [HSN.out, ← HD.out]; exact hown1, HX⟩, by simp [intOf]; omega⟩
      · rw [hT] at hhas
        have HX : Hid (E = 7) := syms_err hlt HE.out (by
          unfold symErr
          rw [← HS.out]
          split
          · rfl
          · first | rfl | rw [if_pos hT]) (by decide)
        clear HE
        go_wp2_with (first | (at_lookup; refine wpList_lookup_own_unit _ rfl _ _ 80 rfl 9 81 lawS Try.underlying80 (zeroU _) w.heap.size k _ rfl (hown.alloc _) _ _ rfl hkey ?_; rw [hhas]) | (go_at_call 39; refine (hnm _).mono ?_; rintro e w' ⟨rfl, rfl⟩) | go_in)
        go_ret
        exact ⟨ret_int HX.out.symm, HBB.out⟩
    · have hk1 : ¬ (k : Int) < l.length := by omega
      have HX : Hid (E = 0) := by unfold Hid; rw [HE.out, symsErr_end (by omega)]
      clear HE
      go_wp2
      go_ret
      exact ⟨ret_int HX.out.symm, HB.out⟩

set_option maxHeartbeats 4000000 in
theorem wrong_any (o : Ob) (cv sv rv : Value) (w : World) (hC : OBytes w cv o.code) (hS : OSyms w sv o.syms) (hR : ORels w rv o.rels) (hnl : ∀ s, s ∈ o.syms → s.name.length ≤ maxLen) :
    Calls Try.prog 6 #[obV cv sv rv] w fun e w' => e = .returned (.int .i64 (wrongO nameR o)) ∧ Below w.heap.size w w' := by
  have hS2 := fun (h1 : o.code.length ≤ 8000) (h2 : o.syms.length ≤ 256) (W : World) (hb : Below w.heap.size w W) => wsyms_any o.syms o.code.length sv W (hS.below hb (Nat.le_refl _)) h1 h2 hnl
  have hR2 := fun (h1 : o.code.length ≤ 8000) (h2 : o.rels.length ≤ 16001) (W : World) (hb : Below w.heap.size w W) => wrels_any o.rels o.code.length rv W (hR.below hb (Nat.le_refl _)) h1 h2
  clear hnl
  obtain ⟨cad, ccap, rfl, hcm, z1⟩ := hC
  obtain ⟨sad, scap, rfl, hsm, z2⟩ := hS
  obtain ⟨rad, rcap, rfl, hrm, z3⟩ := hR
  clear z1 z2 z3
  unfold maxLen at hcm hsm hrm
  unfold obV
  by_cases h : 8000 < o.code.length ∨ 255 < o.syms.length ∨ 16000 < o.rels.length
  · have HX : Hid (wrongO nameR o = 4) := by unfold Hid wrongO; rw [if_pos h]
    clear hS2 hR2
    by_cases h1 : (8000 : Int) < o.code.length
    · clear h
      go_enter Try.func6, Try.ntmps6
      go_wp2
      go_ret
      exact ⟨ret_int HX.out.symm, oalloc _ _⟩
    · by_cases h2 : (255 : Int) < o.syms.length
      · clear h
        go_enter Try.func6, Try.ntmps6
        go_wp2
        go_ret
        exact ⟨ret_int HX.out.symm, oalloc _ _⟩
      · have h3 : (16000 : Int) < o.rels.length := by omega
        clear h
        go_enter Try.func6, Try.ntmps6
        go_wp2
        go_ret
        exact ⟨ret_int HX.out.symm, oalloc _ _⟩
  · have HW : Hid (wrongO nameR o = if symsErr nameR o.code.length [] o.syms = 0 then relsErr nameR o.code.length 0 o.rels else symsErr nameR o.code.length [] o.syms) := by unfold Hid wrongO; rw [if_neg h]
    have h1 : ¬ (8000 : Int) < o.code.length := by omega
    have h2 : ¬ (255 : Int) < o.syms.length := by omega
    have h3 : ¬ (16000 : Int) < o.rels.length := by omega
    have HS2 := Lib.hid (hS2 (by omega) (by omega))
    have HR2 := Lib.hid (hR2 (by omega) (by omega))
    clear h hS2 hR2
    generalize symsErr nameR o.code.length [] o.syms = es at *
    generalize relsErr nameR o.code.length 0 o.rels = er at *
    have HNX : Hid (∀ w2, Below (w.heap.size + 1) (w.alloc (.cells #[.slice cad o.code.length ccap, .slice sad o.syms.length scap, .slice rad o.rels.length rcap] 26)) w2 → Below w.heap.size w w2 ∧ w2.cell? ⟨w.heap.size, 0, none⟩ = some (.slice cad o.code.length ccap) ∧ w2.cell? ⟨w.heap.size, 2, none⟩ = some (.slice rad o.rels.length rcap)) := fun w2 h2 =>
      ⟨(oalloc _ _).trans (h2.mono (by omega)), (h2.cell (by show w.heap.size < w.heap.size + 1; omega)).trans (by rw [World.cell?_alloc_new]; rfl), (h2.cell (by show w.heap.size < w.heap.size + 1; omega)).trans (by rw [World.cell?_alloc_new]; rfl)⟩
    by_cases h0 : es = 0
    · subst h0
      have HX : Hid (wrongO nameR o = er) := by unfold Hid; rw [HW.out, if_pos rfl]
      clear HW
      go_enter Try.func6, Try.ntmps6
      go_wp2_with (first | (go_at_call 16; refine (HS2.out _ (oalloc _ _)).mono ?_; rintro e w2 ⟨rfl, hb2⟩; obtain ⟨hb3, y0, y1⟩ := HNX.out w2 (by simpa using hb2); have HB3 := Lib.hid hb3; clear hb2 hb3) | (go_at_call 17; refine (HR2.out _ HB3.out).mono ?_; rintro e w3 ⟨rfl, hb3⟩; have HB4 := Lib.hid (HB3.out.trans (hb3.mono HB3.out.size)); clear hb3))
      go_ret
      exact ⟨ret_int HX.out.symm, HB4.out⟩
    · have HX : Hid (wrongO nameR o = es) := by unfold Hid; rw [HW.out, if_neg h0]
      have h0b : (es != 0) = true := bne_iff_ne.2 h0
      clear h0 HW
      go_enter Try.func6, Try.ntmps6
      go_wp2_with (go_at_call 16; refine (HS2.out _ (oalloc _ _)).mono ?_; rintro e w2 ⟨rfl, hb2⟩; obtain ⟨hb3, y0, y1⟩ := HNX.out w2 (by simpa using hb2); have HB3 := Lib.hid hb3; clear hb2 hb3)
      go_ret
      exact ⟨ret_int HX.out.symm, HB3.out⟩

end Go.Proofs.Ytalghejeekajgad
