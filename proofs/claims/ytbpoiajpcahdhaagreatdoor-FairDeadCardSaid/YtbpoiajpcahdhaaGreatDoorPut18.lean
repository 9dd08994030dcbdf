/- slices.Clone of a farm's lists. slices.Delete of one message; farm.take. -/
import Derived.Test.YtbpoiajpcahdhaaGreatDoorPut14
import Derived.Lib.SliceRun
namespace Go.Proofs.YtbpoiajpcahdhaaGreatDoor.Wi
open Go.RowKit

set_option maxRecDepth 100000 in
/-- Cells appended onto a new slice without any. -/
theorem app0 (t e : TypeId) (z : Value) (size bytes : Nat) (ht : Tryz.prog.underlying t = some (.slice e)) (hinfo : (Tryz.prog.info? e).map (fun i => (i.zero, i.size, i.bytes)) = some (some z, size, bytes)) (hzs : z.cells.size = size) (hsz : 0 < size) (hby : bytes ≤ 1000)
    (W : World) (g : Nat) (hg : W.heap[g]? = some (.cells #[] e (0, 0))) (a : Addr) (n c : Nat) (news : List Value) (hl : news.length = n * size) (hnews : ∀ j u, news[j]? = some u → W.cell? (a.add j) = some u) (h1 : ∀ u ∈ news, u.oneCell' = true) (hn : n ≤ 100000000000) :
    ∃ q lc w', (∀ ty, (Builtin.append_ #[t, t] ty #[.slice (some ⟨g, 0, none⟩) 0 0, .slice (some a) n c]).run Tryz.prog W = .ok (.slice (some ⟨q, 0, none⟩) n lc) w') ∧ w'.ownsRow g e size (.slice (some ⟨q, 0, none⟩) n lc) n news ∧ Below g W w' := by
  obtain ⟨i, hi, hz0, hz1, hz2⟩ := info_parts hinfo
  have hb2 : n * bytes ≤ 140737488355328 := Nat.le_trans (Nat.mul_le_mul hn hby) (by decide)
  subst hz1 hz2
  by_cases h0 : n = 0
  · subst h0
    have hnil : news = [] := List.eq_nil_of_length_eq_zero (by omega)
    subst hnil
    have hr := fun ty => run_append_room (P := Tryz.prog) W t ty e i ht hi g 0 0 #[] hg a 0 c [] (by simp) (by simp) (by simp) (by omega) (by simp)
    refine ⟨g, 0, _, hr, ⟨by simp, .inr ⟨g, 0, _, rfl, Nat.le_refl _, setRow_heap W g #[] _ e (0, 0) hg, by omega, by omega, by simp, by simp⟩⟩, below_setRow (Below.refl _ _) (Nat.le_refl _) _⟩
  · have hml : n ≤ maxLen := by unfold maxLen; omega
    have hge := grownCap_ge W (0 + n) 0 e
    have hcm : grownCap W (0 + n) 0 e ≤ maxLen := grownCap_le_maxLen W (0 + n) 0 e (by omega)
    have hr := fun ty => run_append_grow (P := Tryz.prog) W t ty e i z ht hi hz0 ⟨g, 0, none⟩ 0 0 [] (by simp) (by simp) a n c news hl hnews (by omega) (by omega) (growslice_fits (by omega) (by rw [Nat.zero_add]; exact hb2))
    have hlt := fblk_lt hg
    have key : World.ownsRow (W.drew.alloc (.cells (([] : List Value).toArray ++ news.toArray ++ Builtin.zeroCells z.cells (grownCap W (0 + n) 0 e - (0 + n))) e)) g e i.size (.slice (some ⟨W.heap.size, 0, none⟩) (0 + n) (grownCap W (0 + n) 0 e)) (0 + n) news := by
      refine ⟨by rw [Nat.zero_add]; exact hl, .inr ⟨W.heap.size, _, _, rfl, Nat.le_of_lt hlt, heap_alloc_new W.drew _, hge, hcm, ?_, ?_⟩⟩
      · simp only [Array.size_append, List.size_toArray, size_zeroCells, hzs, hl, List.length_nil, Nat.zero_add]
        rw [← Nat.add_mul]
        congr 1
        rw [Nat.zero_add] at hge
        omega
      · simp only [Array.toList_append, List.nil_append, Nat.zero_add]
        rw [← hl]
        exact List.take_left
    rw [Nat.zero_add] at key hr
    exact ⟨_, _, _, hr, key, ⟨rfl, rfl, rfl, by simp, fun k hk => _root_.Go.heap_alloc_old W.drew _ (by show k < W.heap.size; omega)⟩⟩

theorem infoJ : (Tryz.prog.info? 40).map (fun i => (i.zero, i.size, i.bytes)) = some (some (.agg #[.slice none 0 0, .int .i64 0, .int .i64 0, .int .i64 0, .bool false, .slice none 0 0, .int .i64 0, .int .i64 0]), 8, 96) := by kernel_rfl
theorem infoBo : (Tryz.prog.info? 4).map (fun i => (i.zero, i.size, i.bytes)) = some (some (.bool false), 1, 1) := by kernel_rfl
theorem infoBy : (Tryz.prog.info? 5).map (fun i => (i.zero, i.size, i.bytes)) = some (some (.int .u8 0), 1, 1) := by kernel_rfl

set_option maxHeartbeats 2000000 in
set_option maxRecDepth 100000 in
theorem cloneJ (a : Addr) (n c : Nat) (news : List Value) (w : World) (hl : news.length = n * 8) (hnews : ∀ j u, news[j]? = some u → w.cell? (a.add j) = some u) (h1 : ∀ u ∈ news, u.oneCell' = true) (hn : n ≤ 100000000000) :
    Calls Tryz.prog 19 #[.slice (some a) n c] w fun e w' => ∃ q lc, e = .returned (.slice (some ⟨q, 0, none⟩) n lc) ∧ w'.ownsRow w.heap.size 40 8 (.slice (some ⟨q, 0, none⟩) n lc) n news ∧ Below w.heap.size w w' := by
  have hA := oalloc w (.cells #[] 40)
  obtain ⟨q, lc, w', happ, hrow, hb⟩ := app0 24 40 _ 8 96 Tryz.underlying24 infoJ rfl (by decide) (by decide) (w.alloc (.cells #[] 40)) w.heap.size (fblk_new w _ _) a n c news hl (fun j u hj => by have h := hnews j u hj; rw [hA.cell (World.block_lt_of_cell? w _ h)]; exact h) h1 hn
  have HAP := Lib.hid happ
  have HR := Lib.hid (And.intro hrow (hA.trans (hb.mono (Nat.le_refl _))))
  have hq : ∀ W, (binOp .eql 24 (.slice (some a) n c) (.slice none 0 0)).run Tryz.prog W = .ok (.bool false) W := fun W => Lib.run_eql_slice_nil W 24 _ (some a) n c 0 0 Tryz.underlying24
  clear hA happ hrow hb hnews
  obtain ⟨b, o, sp⟩ := a
  go_enter Tryz.func19, Tryz.ntmps19
  go_wp2_with (at_builtin; refine fwpList_app rfl _ _ _ _ rfl _ _ rfl rfl HAP.out ?_)
  go_ret
  exact ⟨q, lc, rfl, HR.out.1, HR.out.2⟩
set_option maxHeartbeats 2000000 in
set_option maxRecDepth 100000 in
theorem cloneD (a : Addr) (n c : Nat) (news : List Value) (w : World) (hl : news.length = n * 1) (hnews : ∀ j u, news[j]? = some u → w.cell? (a.add j) = some u) (h1 : ∀ u ∈ news, u.oneCell' = true) (hn : n ≤ 100000000000) :
    Calls Tryz.prog 20 #[.slice (some a) n c] w fun e w' => ∃ q lc, e = .returned (.slice (some ⟨q, 0, none⟩) n lc) ∧ w'.ownsRow w.heap.size 4 1 (.slice (some ⟨q, 0, none⟩) n lc) n news ∧ Below w.heap.size w w' := by
  have hA := oalloc w (.cells #[] 4)
  obtain ⟨q, lc, w', happ, hrow, hb⟩ := app0 25 4 _ 1 1 Tryz.underlying25 infoBo rfl (by decide) (by decide) (w.alloc (.cells #[] 4)) w.heap.size (fblk_new w _ _) a n c news hl (fun j u hj => by have h := hnews j u hj; rw [hA.cell (World.block_lt_of_cell? w _ h)]; exact h) h1 hn
  have HAP := Lib.hid happ
  have HR := Lib.hid (And.intro hrow (hA.trans (hb.mono (Nat.le_refl _))))
  have hq : ∀ W, (binOp .eql 25 (.slice (some a) n c) (.slice none 0 0)).run Tryz.prog W = .ok (.bool false) W := fun W => Lib.run_eql_slice_nil W 25 _ (some a) n c 0 0 Tryz.underlying25
  clear hA happ hrow hb hnews
  obtain ⟨b, o, sp⟩ := a
  go_enter Tryz.func20, Tryz.ntmps20
  go_wp2_with (at_builtin; refine fwpList_app rfl _ _ _ _ rfl _ _ rfl rfl HAP.out ?_)
  go_ret
  exact ⟨q, lc, rfl, HR.out.1, HR.out.2⟩
set_option maxHeartbeats 2000000 in
set_option maxRecDepth 100000 in
theorem cloneW (a : Addr) (n c : Nat) (news : List Value) (w : World) (hl : news.length = n * 1) (hnews : ∀ j u, news[j]? = some u → w.cell? (a.add j) = some u) (h1 : ∀ u ∈ news, u.oneCell' = true) (hn : n ≤ 100000000000) :
    Calls Tryz.prog 21 #[.slice (some a) n c] w fun e w' => ∃ q lc, e = .returned (.slice (some ⟨q, 0, none⟩) n lc) ∧ w'.ownsRow w.heap.size 36 1 (.slice (some ⟨q, 0, none⟩) n lc) n news ∧ Below w.heap.size w w' := by
  have hA := oalloc w (.cells #[] 36)
  obtain ⟨q, lc, w', happ, hrow, hb⟩ := app0 22 36 _ 1 24 Tryz.underlying22 infoSl rfl (by decide) (by decide) (w.alloc (.cells #[] 36)) w.heap.size (fblk_new w _ _) a n c news hl (fun j u hj => by have h := hnews j u hj; rw [hA.cell (World.block_lt_of_cell? w _ h)]; exact h) h1 hn
  have HAP := Lib.hid happ
  have HR := Lib.hid (And.intro hrow (hA.trans (hb.mono (Nat.le_refl _))))
  have hq : ∀ W, (binOp .eql 22 (.slice (some a) n c) (.slice none 0 0)).run Tryz.prog W = .ok (.bool false) W := fun W => Lib.run_eql_slice_nil W 22 _ (some a) n c 0 0 Tryz.underlying22
  clear hA happ hrow hb hnews
  obtain ⟨b, o, sp⟩ := a
  go_enter Tryz.func21, Tryz.ntmps21
  go_wp2_with (at_builtin; refine fwpList_app rfl _ _ _ _ rfl _ _ rfl rfl HAP.out ?_)
  go_ret
  exact ⟨q, lc, rfl, HR.out.1, HR.out.2⟩
set_option maxRecDepth 100000 in
theorem cloneW_nil (n c : Nat) (w : World) : Calls Tryz.prog 21 #[.slice none n c] w fun e w' => e = .returned (.slice none 0 0) ∧ w' = w := by
  have hq : ∀ W, (binOp .eql 22 (.slice none n c) (.slice none 0 0)).run Tryz.prog W = .ok (.bool true) W := fun W => Lib.run_eql_slice_nil W 22 _ none n c 0 0 Tryz.underlying22
  go_enter Tryz.func21, Tryz.ntmps21
  go_wp2
  go_ret
  exact ⟨rfl, rfl⟩

set_option maxHeartbeats 2000000 in
set_option maxRecDepth 100000 in
theorem cloneB (a : Addr) (n c : Nat) (news : List Value) (w : World) (hl : news.length = n * 1) (hnews : ∀ j u, news[j]? = some u → w.cell? (a.add j) = some u) (h1 : ∀ u ∈ news, u.oneCell' = true) (hn : n ≤ 100000000000) :
    Calls Tryz.prog 12 #[.slice (some a) n c] w fun e w' => ∃ q lc, e = .returned (.slice (some ⟨q, 0, none⟩) n lc) ∧ w'.ownsRow w.heap.size 5 1 (.slice (some ⟨q, 0, none⟩) n lc) n news ∧ Below w.heap.size w w' := by
  have hA := oalloc w (.cells #[] 5)
  obtain ⟨q, lc, w', happ, hrow, hb⟩ := app0 36 5 _ 1 1 Tryz.underlying36 infoBy rfl (by decide) (by decide) (w.alloc (.cells #[] 5)) w.heap.size (fblk_new w _ _) a n c news hl (fun j u hj => by have h := hnews j u hj; rw [hA.cell (World.block_lt_of_cell? w _ h)]; exact h) h1 hn
  have HAP := Lib.hid happ
  have HR := Lib.hid (And.intro hrow (hA.trans (hb.mono (Nat.le_refl _))))
  have hq : ∀ W, (binOp .eql 36 (.slice (some a) n c) (.slice none 0 0)).run Tryz.prog W = .ok (.bool false) W := fun W => Lib.run_eql_slice_nil W 36 _ (some a) n c 0 0 Tryz.underlying36
  clear hA happ hrow hb hnews
  obtain ⟨b, o, sp⟩ := a
  go_enter Tryz.func12, Tryz.ntmps12
  go_wp2_with (at_builtin; refine fwpList_app rfl _ _ _ _ rfl _ _ rfl rfl HAP.out ?_)
  go_ret
  exact ⟨q, lc, rfl, HR.out.1, HR.out.2⟩
set_option maxRecDepth 100000 in
theorem cloneB_nil (n c : Nat) (w : World) : Calls Tryz.prog 12 #[.slice none n c] w fun e w' => e = .returned (.slice none 0 0) ∧ w' = w := by
  have hq : ∀ W, (binOp .eql 36 (.slice none n c) (.slice none 0 0)).run Tryz.prog W = .ok (.bool true) W := fun W => Lib.run_eql_slice_nil W 36 _ none n c 0 0 Tryz.underlying36
  go_enter Tryz.func12, Tryz.ntmps12
  go_wp2
  go_ret
  exact ⟨rfl, rfl⟩

/-- Bytes copied. -/
theorem clone_bytes (v : Value) (l : List UInt8) (w : World) (h : RB w w.heap.size v l) (hl : l.length ≤ 100000000000) :
    Calls Tryz.prog 12 #[v] w fun e w' => ∃ v', e = .returned v' ∧ BK w' v' l ∧ Below w.heap.size w w' := by
  obtain ⟨ad, cap, rfl, hs⟩ := h
  rcases hs with ⟨rfl, rfl, rfl⟩ | ⟨a, rfl, hc, hcs⟩
  · refine (cloneB_nil _ _ w).mono ?_
    rintro e w' ⟨rfl, rfl⟩
    exact ⟨_, rfl, BK.nil _, Below.refl _ _⟩
  · refine (cloneB a l.length cap (bcells l) w (bcells_len l) (fun j u hj => ?_) (bcells_one l) hl).mono ?_
    · have hj1 : j < (bcells l).length := (List.getElem?_eq_some_iff.1 hj).1
      rw [bcells_len] at hj1
      obtain ⟨b, o, rfl, _, h⟩ := hcs (by omega)
      rw [faddr, h j (by omega)]
      rw [← hj]
      simp [bcells, show j < l.length by omega]
    · rintro e w' ⟨q, lc, rfl, hr, hb⟩
      exact ⟨_, rfl, Out.bk (base := w.heap.size) ⟨hr, hb.size⟩, hb⟩

end Go.Proofs.YtbpoiajpcahdhaaGreatDoor.Wi

namespace Go.Proofs.YtbpoiajpcahdhaaGreatDoor.Wi
open Go.RowKit

set_option maxHeartbeats 2000000 in
set_option maxRecDepth 100000 in
theorem delete_any (B g n cap i j : Nat) (xs : List Value) (w : World) (h : w.ownsRow B 36 1 (.slice (some ⟨g, 0, none⟩) n cap) n xs) (hi : i < n) (hj : j = i + 1) (hn : n ≤ 1000) (h1 : ∀ u ∈ xs, u.oneCell' = true) :
    Calls Tryz.prog 42 #[.slice (some ⟨g, 0, none⟩) n cap, .int .i64 (i : Int), .int .i64 (j : Int)] w fun e w' => e = .returned (.slice (some ⟨g, 0, none⟩) (n - 1) cap) ∧ w'.ownsRow B 36 1 (.slice (some ⟨g, 0, none⟩) (n - 1) cap) (n - 1) (xs.eraseIdx i) ∧ SG w w' g := by
  obtain ⟨hl, h⟩ := h
  rcases h with ⟨he, _⟩ | ⟨g', cap', cur, he, hBg, hg, hnc, hcm, hcs, ht⟩
  · cases he
  injection he with e1 e2 e3
  injection e1 with e1
  injection e1 with e1 _ _
  subst e1 e3
  have hH := Lib.hid hg
  have hi1 : (j : Int) ≤ (n : Int) := by omega
  have hi2 : (i : Int) ≤ (cap : Int) := by omega
  have hi3 : (n : Int) ≤ (cap : Int) := by omega
  have hi4 : (j : Int) ≤ (cap : Int) := by omega
  have hi5 : (i : Int) ≤ (j : Int) := by omega
  have hij : ((i : Int) == (j : Int)) = false := by simp; omega
  obtain ⟨ti, hti, _, hz1, _⟩ := info_parts infoSl
  obtain ⟨q, hq⟩ : ∃ q, q = i + (n - j) := ⟨_, rfl⟩
  have hdl : (xs.drop j).length = n - j := by rw [List.length_drop, hl]; omega
  have hcell : ∀ m u, xs[m]? = some u → w.cell? ⟨g, m, none⟩ = some u := fun m u hm => by
    refine fblk_cell hg ?_
    have hm1 := (List.getElem?_eq_some_iff.1 hm).1
    rw [hl] at hm1
    rw [← ht, List.getElem?_take_of_lt hm1] at hm
    rw [← Array.getElem?_toList]
    exact hm
  obtain ⟨nx, hnx⟩ : ∃ nx : List Value, nx = cur.toList.take i ++ xs.drop j ++ cur.toList.drop (i + (n - j)) := ⟨_, rfl⟩
  have happ : ∀ ty, (Builtin.append_ #[22, 22] ty #[.slice (some ⟨g, 0, none⟩) i cap, .slice (if cap = j then some ⟨g, 0, none⟩ else some ⟨g, j, none⟩) (n - j) (cap - j)]).run Tryz.prog w.drew = .ok (.slice (some ⟨g, 0, none⟩) q cap) (w.drew.setRow g nx.toArray) := fun ty => by
    have key : ∀ a : Addr, (∀ m u, (xs.drop j)[m]? = some u → w.cell? (a.add m) = some u) → (Builtin.append_ #[22, 22] ty #[.slice (some ⟨g, 0, none⟩) i cap, .slice (some a) (n - j) (cap - j)]).run Tryz.prog w.drew = .ok (.slice (some ⟨g, 0, none⟩) q cap) (w.drew.setRow g nx.toArray) := fun a ha => by
      have := run_append_room (P := Tryz.prog) w.drew 22 ty 36 ti Tryz.underlying22 hti g i cap cur hg a (n - j) (cap - j) (xs.drop j) (by rw [hdl, hz1, Nat.mul_one]) ha (fun u hu => h1 u (List.mem_of_mem_drop hu)) (by omega) (by rw [hz1, hdl]; omega)
      rw [hz1, hdl, Nat.mul_one] at this
      rw [hq, hnx]
      exact this
    split
    · exact key _ (fun m u hm => by
        have := (List.getElem?_eq_some_iff.1 hm).1
        rw [hdl] at this
        omega)
    · exact key _ (fun m u hm => by
        rw [faddr]
        rw [List.getElem?_drop] at hm
        exact hcell _ _ hm)
  have HAP := Lib.hid happ
  have hgr : (w.drew.setRow g nx.toArray).heap[g]? = some (.cells nx.toArray 36 (0, 0)) := setRow_heap w.drew g cur _ _ (0, 0) hg
  have hnl : nx.length = cur.size := by rw [hnx]; simp; omega
  have hqn : q + 1 = n := by omega
  have hclr : ∀ ty, (Builtin.clear_ #[22] ty #[.slice (some ⟨g, q, none⟩) (n - q) (cap - q)]).run Tryz.prog (w.drew.setRow g nx.toArray) = .ok (.tuple #[]) ((w.drew.setRow g nx.toArray).setCell ⟨g, q, none⟩ (.slice none 0 0)) := fun ty => by
    have := Lib.run_clear_slice (P := Tryz.prog) (w.drew.setRow g nx.toArray) 22 36 ty (.slice none 0 0) Tryz.underlying22 Tryz.zeroValue36 rfl rfl g q (n - q) (cap - q) (by omega) (fun m hm => by
      obtain ⟨u, hu⟩ : ∃ u, nx.toArray[q + m]? = some u := ⟨_, Array.getElem?_eq_getElem (by simp; omega)⟩
      rw [fblk_cell hgr hu]
      rfl) (fun m _ => fblk_froz hgr)
    rw [show n - q = 1 by omega] at this ⊢
    exact this
  have HCL := Lib.hid hclr
  have hq0 : ¬ cap = q := by omega
  have hq1 : (q : Int) ≤ (n : Int) := by omega
  have hq2 : (n : Int) ≤ (cap : Int) := by omega
  have hq3 : (q : Int) ≤ (cap : Int) := by omega
  have HE : Hid ((((w.drew.setRow g nx.toArray).setCell ⟨g, q, none⟩ (.slice none 0 0)).ownsRow B 36 1 (.slice (some ⟨g, 0, none⟩) (n - 1) cap) (n - 1) (xs.eraseIdx i)) ∧ SG w ((w.drew.setRow g nx.toArray).setCell ⟨g, q, none⟩ (.slice none 0 0)) g) := by
    refine ⟨⟨by rw [List.length_eraseIdx, if_pos (by rw [hl]; omega), hl, Nat.mul_one, Nat.mul_one], .inr ⟨g, cap, _, rfl, hBg, fblk_set hgr, by omega, hcm, by simp; omega, ?_⟩⟩, ⟨rfl, rfl, rfl, by simp, fun k hk => ?_⟩⟩
    · rw [Array.toList_setIfInBounds, List.take_set_of_le (by omega), hnx]
      have e1 : cur.toList.take i = xs.take i := by rw [← ht, List.take_take, Nat.min_eq_left (by omega)]
      have e2 : xs.eraseIdx i = xs.take i ++ xs.drop j := by rw [List.eraseIdx_eq_take_drop_succ, hj]
      rw [e1, e2]
      have e3 : (n - 1) * 1 = (xs.take i ++ xs.drop j).length := by rw [List.length_append, hdl, List.length_take, hl]; omega
      rw [e3]
      exact List.take_left
    · rw [Below.heap_setCell _ _ _ _ hk, setRow_other _ _ _ _ hk]
      rfl
  have hqe : q = n - 1 := by omega
  have HQ := Lib.hid hqe
  clear happ hclr hgr hcell hdl hnx hnl hqe hqn hq hj hti hz1 h1 hl ht hcs hcm hnc hBg hg hn
  go_enter Tryz.func42, Tryz.ntmps42
  go_wp2_with fail
  go_region_law (refine fstep_app1 rfl _ _ _ _ rfl _ _ rfl rfl HAP.out ?_)
  all_goals
    generalize w.drew.setRow g nx.toArray = w2 at *
    have hcl := HCL.out
    go_wp2_with fail
    all_goals
      try subst h
      go_ret
      exact ⟨by have := HQ.out; subst this; rfl, HE.out⟩

theorem jb_one {w : World} {xs : List Value} {l : List (List UInt8)} (h : WRow w xs l) : ∀ u ∈ xs, u.oneCell' = true := by
  intro u hu
  obtain ⟨k, hk, e⟩ := List.mem_iff_getElem.1 hu
  obtain ⟨v, h1, h2⟩ := h.2 k (by rw [← h.1]; exact hk)
  rw [List.getElem?_eq_getElem hk] at h1
  injection h1 with h1
  obtain ⟨a, c, e2⟩ := h2.slice
  rw [← e, h1, e2]
  rfl
theorem WRow.erase {w : World} {xs : List Value} {l : List (List UInt8)} (h : WRow w xs l) (i : Nat) (hi : i < l.length) : WRow w (xs.eraseIdx i) (l.eraseIdx i) := by
  refine ⟨by rw [List.length_eraseIdx, List.length_eraseIdx, h.1], fun k hk => ?_⟩
  rw [List.length_eraseIdx, if_pos hi] at hk
  rw [List.getElem?_eraseIdx, List.getElem_eraseIdx]
  by_cases e : k < i
  · obtain ⟨v, h1, h2⟩ := h.2 k (by omega)
    exact ⟨v, by rw [if_pos e]; exact h1, by rw [dif_pos e]; exact h2⟩
  · obtain ⟨v, h1, h2⟩ := h.2 (k + 1) (by omega)
    exact ⟨v, by rw [if_neg e]; exact h1, by rw [dif_neg e]; exact h2⟩

set_option maxHeartbeats 2000000 in
set_option maxRecDepth 100000 in
theorem take_any (B F gJ cJ gD cD n : Nat) (wv : Value) (f : Fm) (w : World) (h : FO w B F gJ cJ gD cD wv f) (hn : n < f.way.length) (hl : f.way.length ≤ 12) (hB : B ≤ w.heap.size) :
    Calls Tryz.prog 26 #[.pointer (some ⟨F, 0, none⟩), .int .i64 (n : Int)] w fun e w' => ∃ v, e = .returned v ∧ BK w' v f.way[n] ∧ FW w w' B F gJ cJ gD cD (dropF f n) := by
  obtain ⟨xs, hx, hxl⟩ := h.rows.way
  obtain ⟨wa, wc, rfl⟩ := h.rows.way_shape
  have c3 := fblk_cell (i := 3) (v := .slice wa f.way.length wc) h.box rfl
  have hF := fblk_lt h.box
  rcases id hx.2 with ⟨e0, h0⟩ | ⟨g, cap, cur, e0, hBg, hg, hnc, hcm, hcs, ht⟩
  · omega
  injection e0 with e1 _ e3
  subst e1 e3
  obtain ⟨v, hv, hbv⟩ := hxl.2 n hn
  have cg : w.cell? ⟨g, n, none⟩ = some v := by
    have := hx.cells (g := g) rfl n v hv
    rwa [faddr, Nat.zero_add] at this
  have hz := fblk_lt hg
  obtain ⟨va, vc, rfl⟩ := hbv.slice
  have HBV := Lib.hid hbv
  have HDE : Hid (∀ W, W.ownsRow B 36 1 (.slice (some ⟨g, 0, none⟩) f.way.length wc) f.way.length xs → Calls Tryz.prog 42 #[.slice (some ⟨g, 0, none⟩) f.way.length wc, .int .i64 (n : Int), .int .i64 ((n : Int) + 1)] W fun e w' => e = .returned (.slice (some ⟨g, 0, none⟩) (f.way.length - 1) wc) ∧ w'.ownsRow B 36 1 (.slice (some ⟨g, 0, none⟩) (f.way.length - 1) wc) (f.way.length - 1) (xs.eraseIdx n) ∧ SG W w' g) := fun W hW => delete_any B g f.way.length wc n (n + 1) xs W hW hn rfl (by omega) (jb_one hxl)
  have HOW : Hid (∀ W, Below w.heap.size w W → W.ownsRow B 36 1 (.slice (some ⟨g, 0, none⟩) f.way.length wc) f.way.length xs) := fun W hb => ownsRow_go hx hb (Nat.le_refl _)
  have hnn : (n : Int) < (f.way.length : Int) := by omega
  have hne : F ≠ g := by
    intro e
    subst e
    have := h.box.symm.trans hg
    injection this with this
    injection this with _ h2 _
    exact absurd h2 (by decide)
  have HFIN : Hid (∀ W1 w', Below w.heap.size w W1 → w'.ownsRow B 36 1 (.slice (some ⟨g, 0, none⟩) (f.way.length - 1) wc) (f.way.length - 1) (xs.eraseIdx n) → SG W1 w' g → w'.heap[F]? = w.heap[F]? ∧ BK (w'.setCell ⟨F, 3, none⟩ (.slice (some ⟨g, 0, none⟩) (f.way.length - 1) wc)) (.slice va f.way[n].length vc) f.way[n] ∧ FW w (w'.setCell ⟨F, 3, none⟩ (.slice (some ⟨g, 0, none⟩) (f.way.length - 1) wc)) B F gJ cJ gD cD (dropF f n)) := fun W1 w' hb hr hs => by
    have hg1 := (hb.block g hz).trans hg
    have kf1 : KF W1 w' := KF.own hg1 mine3 (Nat.le_of_eq hs.size.symm) (fun q hq _ => hs.blk q hq)
    have hFb : w'.heap[F]? = w.heap[F]? := (hs.blk F hne).trans (hb.block F hF)
    have hbx := hFb.trans h.box
    have kf2 : KF w' (w'.setCell ⟨F, 3, none⟩ (.slice (some ⟨g, 0, none⟩) (f.way.length - 1) wc)) := KF.set hbx mine0 _
    have kf := ((KF.of hb).trans kf1).trans kf2
    have oth : ∀ q, q ≠ F → (w'.setCell ⟨F, 3, none⟩ (.slice (some ⟨g, 0, none⟩) (f.way.length - 1) wc)).heap[q]? = w'.heap[q]? := fun q hq => Below.heap_setCell _ _ _ _ hq
    refine ⟨hFb, hbv.keep kf, ⟨.slice (some ⟨g, 0, none⟩) (f.way.length - 1) wc, ?_⟩, ((hb.mono hB).trans (hs.below hBg)).trans ((Below.refl B w').setCell (p := ⟨F, 3, none⟩) h.lF _), kf⟩
    have hle : (f.way.eraseIdx n).length = f.way.length - 1 := by rw [List.length_eraseIdx, if_pos hn]
    unfold dropF
    refine h.setWay (xs := xs.eraseIdx n) ?_ ((hxl.erase n hn).keep kf) (fun {q c t z} hq h1 h2 => ?_) kf.size ?_
    · rw [hle]
      refine ⟨hr.1, ?_⟩
      rcases hr.2 with ⟨h1, h2⟩ | ⟨g2, cap, cu, h1, h2, h3, h4⟩
      · cases h1
      · refine .inr ⟨g2, cap, cu, h1, h2, ?_, h4⟩
        injection h1 with h1 _ _
        injection h1 with h1
        injection h1 with h1 _ _
        subst h1
        rw [oth _ (fun e => hne e.symm)]
        exact h3
    · have hqF : q ≠ F := by
        intro e0
        subst e0
        rw [h.box] at hq
        injection hq with hq
        injection hq with _ h3 _
        exact h2 h3.symm
      have hqg : q ≠ g := by
        intro e0
        subst e0
        rw [hg] at hq
        injection hq with hq
        injection hq with _ h3 _
        exact h1 h3.symm
      rw [oth q hqF, hs.blk q hqg, hb.block q (fblk_lt hq)]
      exact hq
    · exact fblk_set hbx
  have HBX := Lib.hid h.box
  clear h hx hxl hbv hg ht hcs hcm hv
  go_enter Tryz.func26, Tryz.ntmps26
  go_wp2_with fail
  refine (HDE.out w (HOW.out _ (Below.refl _ _))).mono ?_
  rintro e w1 ⟨rfl, hr, hs⟩
  obtain ⟨hFb, hbk, hfw⟩ := HFIN.out w w1 (Below.refl _ _) hr hs
  have HR := Lib.hid (And.intro hbk hfw)
  have hbx := hFb.trans HBX.out
  have d3 : w1.cell? ⟨F, 3, none⟩ = some (.slice (some ⟨g, 0, none⟩) f.way.length wc) := fblk_cell hbx rfl
  have f3 : w1.frozen? ⟨F, 3, none⟩ = false := fblk_froz hbx
  have hF1 := fblk_lt hbx
  clear hr hs hFb hbk hfw hbx HFIN HDE HOW c3 cg
  go_wp2_with fail
  go_ret
  exact ⟨_, rfl, HR.out.1, HR.out.2⟩

end Go.Proofs.YtbpoiajpcahdhaaGreatDoor.Wi
