/- The document's own Line. -/
import Derived.Test.YtgadpimknobljaaDoorDsD
import Derived.Test.YtgadpimknobljaaDoorIsaRefX
namespace Go.Proofs.YtgadpimknobljaaDoor
open Go.RowKit Isa

/-- A stronger condition may be taken in the midst of a region. -/
theorem wpAnyH_switch {P : Program} {md : Region.Mode} {ops : Array Oper} {Q : Exit → Act → World → Prop} {S S' : World → Prop} (hSS : ∀ w, S' w → S w) :
    ∀ (fuel : Nat) (listed : Array Bool) (a : Act) (w : World), wpAnyH P md ops Q S' fuel listed a w → wpAnyH P md ops Q S fuel listed a w
  | 0, _, _, _, h => h
  | fuel + 1, _, _, _, h => ⟨h.1, fun i hi => wpOp_mono (fun a' w' h' => ⟨hSS _ h'.1, wpAnyH_switch hSS fuel _ a' w' h'.2⟩) (h.2 i hi)⟩

theorem zeroRow (w : World) : (zeroValue 51).run Tryd.prog w = .ok (.agg #[.string ⟨#[]⟩, .int .i64 0, .string ⟨#[]⟩]) w := by kernel_rfl

/-- What a sign of a form stands for. -/
def fillC (n m imm p : Int) (c : UInt8) : List UInt8 := if c = 105 then Lib.itoa imm else if c = 110 then 114 :: Lib.itoa n else if c = 109 then 114 :: Lib.itoa m else if c = 112 then placeL p else [c]
/-- How operands of a shape are written. -/
def formL (s : Int) : List UInt8 := [[], [32, 35, 105, 44, 110], [32, 109, 44, 110], [32, 110], [32, 112], [32, 112], [32, 64, 110], [32, 112, 44, 110], [32, 112, 44, 110], [32, 109, 44, 64, 110], [32, 64, 109, 44, 110], [32, 35, 105]].getD s.toNat []

/-- The line so far. -/
def accL (nl : List UInt8) (F : UInt8 → List UInt8) (fm : List UInt8) (k : Nat) : List UInt8 := nl ++ (fm.take k).flatMap F
theorem accL_succ (nl : List UInt8) (F : UInt8 → List UInt8) (fm : List UInt8) (k : Nat) (hk : k < fm.length) : accL nl F fm (k + 1) = accL nl F fm k ++ F fm[k] := by
  unfold accL
  rw [List.take_succ_eq_append_getElem hk, List.flatMap_append]
  simp
theorem accL_few (nl : List UInt8) (F : UInt8 → List UInt8) (fm : List UInt8) (h : ∀ c, (F c).length ≤ 22) : ∀ k, k ≤ fm.length → (accL nl F fm k).length ≤ nl.length + 22 * k
  | 0, _ => by simp [accL]
  | k + 1, hk => by
    have h1 := accL_few nl F fm h k (by omega)
    have h2 := h fm[k]
    rw [accL_succ nl F fm k (by omega), List.length_append]
    omega
theorem fillC_few (n m imm p : Int) (hn0 : 0 ≤ n) (hn1 : n ≤ 15) (hm0 : 0 ≤ m) (hm1 : m ≤ 15) (h2 : -10000 ≤ imm) (h3 : imm ≤ 10000) (c : UInt8) : (fillC n m imm p c).length ≤ 22 := by
  have e1 := regL_few n (by omega) (by omega)
  have e2 := regL_few m (by omega) (by omega)
  have e3 := itoa_few imm (by omega) (by omega)
  have e4 := placeL_few p
  simp only [regL] at e1 e2
  unfold fillC
  repeat' split
  all_goals first | omega | simp
theorem formL_few (s : Int) (h0 : 0 ≤ s) (h1 : s < 12) : (formL s).length ≤ 6 := by
  obtain rfl | rfl | rfl | rfl | rfl | rfl | rfl | rfl | rfl | rfl | rfl | rfl : s = 0 ∨ s = 1 ∨ s = 2 ∨ s = 3 ∨ s = 4 ∨ s = 5 ∨ s = 6 ∨ s = 7 ∨ s = 8 ∨ s = 9 ∨ s = 10 ∨ s = 11 := by omega
  all_goals decide
theorem form_at (s : Int) (h0 : 0 ≤ s) (h1 : s < 12) : ∀ h : s.toNat < ([.string ⟨#[]⟩, .string ⟨#[32, 35, 105, 44, 110]⟩, .string ⟨#[32, 109, 44, 110]⟩, .string ⟨#[32, 110]⟩, .string ⟨#[32, 112]⟩, .string ⟨#[32, 112]⟩, .string ⟨#[32, 64, 110]⟩, .string ⟨#[32, 112, 44, 110]⟩, .string ⟨#[32, 112, 44, 110]⟩, .string ⟨#[32, 109, 44, 64, 110]⟩, .string ⟨#[32, 64, 109, 44, 110]⟩, .string ⟨#[32, 35, 105]⟩] : List Value).length, ([.string ⟨#[]⟩, .string ⟨#[32, 35, 105, 44, 110]⟩, .string ⟨#[32, 109, 44, 110]⟩, .string ⟨#[32, 110]⟩, .string ⟨#[32, 112]⟩, .string ⟨#[32, 112]⟩, .string ⟨#[32, 64, 110]⟩, .string ⟨#[32, 112, 44, 110]⟩, .string ⟨#[32, 112, 44, 110]⟩, .string ⟨#[32, 109, 44, 64, 110]⟩, .string ⟨#[32, 64, 109, 44, 110]⟩, .string ⟨#[32, 35, 105]⟩] : List Value)[s.toNat]'h = .string ⟨(formL s).toArray⟩ := by
  obtain rfl | rfl | rfl | rfl | rfl | rfl | rfl | rfl | rfl | rfl | rfl | rfl : s = 0 ∨ s = 1 ∨ s = 2 ∨ s = 3 ∨ s = 4 ∨ s = 5 ∨ s = 6 ∨ s = 7 ∨ s = 8 ∨ s = 9 ∨ s = 10 ∨ s = 11 := by omega
  all_goals (intro h; rfl)
theorem line_form (op n m imm at' : Int) (s : Int) (hs : infoShape op = s) (h0 : 0 ≤ s) (h1 : s < 12) : lineL op n m imm at' = (infoName op).data.toList ++ (formL s).flatMap (fillC n m imm (toI op imm at')) := by
  unfold lineL
  rw [hs]
  obtain rfl | rfl | rfl | rfl | rfl | rfl | rfl | rfl | rfl | rfl | rfl | rfl : s = 0 ∨ s = 1 ∨ s = 2 ∨ s = 3 ∨ s = 4 ∨ s = 5 ∨ s = 6 ∨ s = 7 ∨ s = 8 ∨ s = 9 ∨ s = 10 ∨ s = 11 := by omega
  all_goals simp [formL, fillC, operL, numL, regL]
theorem u8ne {c d : UInt8} (h : c ≠ d) : ((c.toNat : Int) == (d.toNat : Int)) = false := by
  simp only [beq_eq_false_iff_ne, ne_eq]
  intro e
  exact h (UInt8.toNat_inj.1 (by omega))
theorem index_at (fm : List UInt8) (k : Nat) (hk : k < fm.length) (w : World) : (Instr.index 9 (.string ⟨fm.toArray⟩) (.int .i64 k)).run Tryd.prog w = .ok (.int .u8 (fm[k].toNat : Int)) w := by
  have hk' : k < (⟨fm.toArray⟩ : ByteArray).size := by simpa [ByteArray.size] using hk
  have e : (⟨fm.toArray⟩ : ByteArray)[k] = fm[k] := by show fm.toArray[k] = _; simp
  rw [← e]
  simp [Instr.index, run_underlying Tryd.underlying9, asIntOf, hk']
theorem ext_at (fm : List UInt8) (k : Nat) (hk : k < fm.length) : (⟨fm.toArray⟩ : ByteArray).extract k (k + 1) = ⟨#[fm[k]]⟩ := by
  apply ByteArray.ext
  rw [ByteArray.data_extract]
  apply Array.ext'
  simp
  rw [List.drop_eq_getElem_cons hk]
  rfl

set_option maxHeartbeats 4000000 in
set_option maxRecDepth 100000 in
theorem rline_any (op n m imm at' : Int) (w : World) (hD : DL w) (h0 : 0 ≤ at') (h1 : at' ≤ 1000000000000) (hn0 : 0 ≤ n) (hn1 : n ≤ 15) (hm0 : 0 ≤ m) (hm1 : m ≤ 15) (h2 : -10000 ≤ imm) (h3 : imm ≤ 10000) :
    Calls Tryd.prog 10 #[.agg #[.int .i64 op, .int .i64 n, .int .i64 m, .int .i64 imm], .int .i64 at'] w fun e w' => e = .returned (.string ⟨(lineL op n m imm at').toArray⟩) ∧ Below w.heap.size w w' := by
  have HR := Lib.hid rows_any
  have HLK : Hid (∀ (W : World) (g : Nat), W.heap[g]? = some (mapOf 27) → (Instr.lookup 53 (.map (some g)) (.int .i64 op) true).run Tryd.prog W = .ok (.tuple #[.agg #[.string (infoName op), .int .i64 (infoShape op), .string (refTxt op)], .bool (knownB op)]) W) := fun W g h => run_look_ok W g op h
  have hfm := form_at (infoShape op) (shape_bd op).1 (by have := shape_bd op; omega)
  have hfl := formL_few (infoShape op) (shape_bd op).1 (by have := shape_bd op; omega)
  have HLL := Lib.hid (line_form op n m imm at' (infoShape op) rfl (shape_bd op).1 (by have := shape_bd op; omega))
  obtain ⟨nl, hnl⟩ : ∃ x, x = (infoName op).data.toList := ⟨_, rfl⟩
  have hnl' : infoName op = ⟨nl.toArray⟩ := by rw [hnl]
  have hnf : nl.length ≤ 20 := by rw [hnl]; exact name_few op
  rw [← hnl] at HLL
  rw [hnl'] at HLK
  have HF := Lib.hid (fillC_few n m imm (toI op imm at') hn0 hn1 hm0 hm1 h2 h3)
  have HIT : Hid (∀ W, Below w.heap.size w W → ∀ x, x = imm ∨ x = n ∨ x = m → Calls Tryd.prog 18 #[.int .i64 x] W fun e w' => e = .returned (.string ⟨(Lib.itoa x).toArray⟩) ∧ Below W.heap.size W w') := fun W hb x hx => itoa_any x (by omega) (by omega) W (hD.next hb)
  have HPL : Hid (∀ W, Below w.heap.size w W → Calls Tryd.prog 20 #[.int .i64 (toI op imm at')] W fun e w' => e = .returned (.string ⟨(placeL (toI op imm at')).toArray⟩) ∧ Below W.heap.size W w') := fun W hb => rhex_any _ W (toI_bd op imm at' h0 h1 h2 h3).1 (toI_bd op imm at' h0 h1 h2 h3).2 (hD.next hb).tz
  have HFD : Hid (∀ c, fillC n m imm (toI op imm at') c = if c = 105 then Lib.itoa imm else if c = 110 then 114 :: Lib.itoa n else if c = 109 then 114 :: Lib.itoa m else if c = 112 then placeL (toI op imm at') else [c]) := fun _ => rfl
  have hin := itoa_few n (by omega) (by omega)
  have him := itoa_few m (by omega) (by omega)
  have hii := itoa_few imm (by omega) (by omega)
  have hpl := placeL_few (toI op imm at')
  clear hnl hnl' hD
  generalize fillC n m imm (toI op imm at') = F at *
  have HLN : Hid (knownB op = false → lineL op n m imm at' = []) := fun h => by unfold lineL infoShape infoName; simp [h]
  have HTO : Hid (∀ W, Calls Tryd.prog 8 #[.agg #[.int .i64 op, .int .i64 n, .int .i64 m, .int .i64 imm], .int .i64 at'] W fun e w' => e = .returned (.tuple #[.int .i64 (toI op imm at'), .bool (toB op)]) ∧ Below W.heap.size W w') := fun W => rto_any op n m imm at' W h0 h1 h2 h3
  generalize lineL op n m imm at' = LL at *
  generalize toI op imm at' = p at *
  generalize toB op = tb at *
  have hsb := shape_bd op
  generalize formL (infoShape op) = fm at *
  generalize infoShape op = sh at *
  obtain ⟨hs0, hs11⟩ := hsb
  have hs1 : sh < 12 := by omega
  generalize refTxt op = rt at *
  generalize knownB op = kn at *
  obtain ⟨V, hV⟩ : ∃ V, V = w.alloc (.cells #[.int .i64 op, .int .i64 n, .int .i64 m, .int .i64 imm] 24) := ⟨_, rfl⟩
  have HB : Hid (V.heap[w.heap.size]? = some (.cells #[.int .i64 op, .int .i64 n, .int .i64 m, .int .i64 imm] 24 (0, 0))) := by unfold Hid; rw [hV]; exact blk_new _ _ _
  have HBel : Hid (Below w.heap.size w V) := by unfold Hid; rw [hV]; exact oalloc _ _
  have HV := Lib.hid hV
  clear hV
  go_enter Tryd.func10, Tryd.ntmps10
  go_wp2_with fail
  rw [← HV.out]
  have hbS := HB.out
  refine wp_region_noPanic ?_
  refine wp_region_held_drew (S := fun X => X.heap[w.heap.size]? = some (.cells #[.int .i64 op, .int .i64 n, .int .i64 m, .int .i64 imm] 24 (0, 0))) (by kernel_rfl) hbS (fun hHeld => ?_)
  obtain ⟨V0, hV0⟩ : ∃ X, X = V.drew := ⟨_, rfl⟩
  have HB0 : Hid (Below w.heap.size w V0) := by unfold Hid; rw [hV0]; exact HBel.out.trans (Below.refl _ _).drew
  have hsz0 : w.heap.size < V0.heap.size := by rw [hV0]; exact (Array.getElem?_eq_some_iff.1 hbS).1
  rw [← hV0] at hHeld ⊢
  clear hV0 hbS HB HBel HV
  refine take_at 1 14 (v := ?_) rfl rfl (by kernel_rfl) (by kernel_rfl) (by kernel_rfl) (fun _ _ _ h => h) rfl ?_ hHeld ?_
  rotate_left
  · intro w hSw
    go_simp
    try with_reducible rfl
  simp only [List.setIfInBounds_toArray, List.set_cons_zero, List.set_cons_succ]
  refine take_at 2 15 (v := ?_) rfl rfl (by kernel_rfl) (by kernel_rfl) (by kernel_rfl) (fun _ _ _ h => h) rfl ?_ hHeld ?_
  rotate_left
  · intro w hSw
    have x0 := cell_of_block (i := 0) hSw rfl
    go_simp
    try with_reducible rfl
  simp only [List.setIfInBounds_toArray, List.set_cons_zero, List.set_cons_succ]
  refine wpAnyH_ready (rs := [0, 7]) (by kernel_rfl) (by simp) ?_
  refine AllReadyH.cons rfl (fun K hK => ?_) (AllReadyH.cons rfl (fun K hK => ?_) AllReadyH.nil)
  · go_simp
    refine (HR.out _).mono ?_
    rintro e W1 ⟨rfl, rfl⟩
    have hmp : (V0.alloc (mapOf 27)).heap[V0.heap.size]? = some (mapOf 27) := by unfold World.alloc; simp only [Array.getElem?_push_size]
    have hH1 : (V0.alloc (mapOf 27)).heap[w.heap.size]? = some (.cells #[.int .i64 op, .int .i64 n, .int .i64 m, .int .i64 imm] 24 (0, 0)) := ((oalloc V0 _).block _ hsz0).trans hHeld
    go_simp
    refine hK.out _ _ hH1 (fun _ => ?_)
    clear hK K
    refine wpAnyH_switch (S' := fun X => X.heap[w.heap.size]? = some (.cells #[.int .i64 op, .int .i64 n, .int .i64 m, .int .i64 imm] 24 (0, 0)) ∧ X.heap[V0.heap.size]? = some (mapOf 27)) (fun _ h => h.1) _ _ _ _ ?_
    have hHeld2 := And.intro hH1 hmp
    refine take_at 3 16 (v := .tuple #[.agg #[.string ⟨nl.toArray⟩, .int .i64 sh, .string rt], .bool kn]) rfl rfl (by kernel_rfl) (by kernel_rfl) (by kernel_rfl) (fun _ _ _ h => h) rfl ?_ hHeld2 ?_
    · intro w hSw
      have hlk := HLK.out w V0.heap.size hSw.2
      go_simp
      try with_reducible rfl
    simp only [List.setIfInBounds_toArray, List.set_cons_zero, List.set_cons_succ]
    refine take_at 4 12 (v := ?_) rfl rfl (by kernel_rfl) (by kernel_rfl) (by kernel_rfl) (fun _ _ _ h => h) rfl ?_ hHeld2 ?_
    rotate_left
    · intro w hSw
      go_simp
      try with_reducible rfl
    simp only [List.setIfInBounds_toArray, List.set_cons_zero, List.set_cons_succ]
    refine take_at 5 17 (v := ?_) rfl rfl (by kernel_rfl) (by kernel_rfl) (by kernel_rfl) (fun _ _ _ h => h) rfl ?_ hHeld2 ?_
    rotate_left
    · intro w hSw
      go_simp
      try with_reducible rfl
    simp only [List.setIfInBounds_toArray, List.set_cons_zero, List.set_cons_succ]
    refine take_at 6 18 (v := ?_) rfl rfl (by kernel_rfl) (by kernel_rfl) (by kernel_rfl) (fun _ _ _ h => h) rfl ?_ hHeld2 ?_
    rotate_left
    · intro w hSw
      go_simp
      try with_reducible rfl
    simp only [List.setIfInBounds_toArray, List.set_cons_zero, List.set_cons_succ]
    refine wpAnyH_ready (rs := [7]) (by kernel_rfl) (by simp) ?_
    refine AllReadyH.cons rfl (fun K hK => ?_) AllReadyH.nil
    have hzr := zeroRow
    go_simp
    refine hK.out _ _ ⟨((oalloc _ _).block _ (by simp; omega)).trans hH1, ((oalloc _ _).block _ (by simp)).trans hmp⟩ (fun _ => ?_)
    clear hK K
    refine wpAnyH_ready (rs := [8]) (by kernel_rfl) (by simp) ?_
    refine AllReadyH.cons rfl (fun K hK => ?_) AllReadyH.nil
    go_simp
    refine hK.out _ _ ⟨((oalloc _ _).block _ (by simp; omega)).trans hH1, ((oalloc _ _).block _ (by simp)).trans hmp⟩ (fun hHeld3 => ?_)
    clear hK K
    refine take_at 9 6 (v := ?_) rfl rfl (by kernel_rfl) (by kernel_rfl) (by kernel_rfl) (fun _ _ _ h => h) rfl ?_ hHeld3 ?_
    rotate_left
    · intro w hSw
      go_simp
      try with_reducible rfl
    simp only [List.setIfInBounds_toArray, List.set_cons_zero, List.set_cons_succ]
    refine wpAnyH_done (by kernel_rfl) ?_ _
    refine NoPanic.normal ?_
    obtain ⟨W, hW⟩ : ∃ W, W = ((V0.alloc (mapOf 27)).alloc (.cells #[.string ⟨nl.toArray⟩, .int .i64 sh, .string rt] 51)) := ⟨_, rfl⟩
    rw [← hW]
    have k0 : W.heap[w.heap.size]? = some (.cells #[.int .i64 op, .int .i64 n, .int .i64 m, .int .i64 imm] 24 (0, 0)) := by rw [hW]; exact ((oalloc _ _).block _ (by simp; omega)).trans hH1
    have k1 : W.heap[V0.heap.size + 1]? = some (.cells #[.string ⟨nl.toArray⟩, .int .i64 sh, .string rt] 51 (0, 0)) := by rw [hW]; have := blk_new (V0.alloc (mapOf 27)) #[.string ⟨nl.toArray⟩, .int .i64 sh, .string rt] 51; simpa using this
    have HBW : Hid (Below w.heap.size w W) := by unfold Hid; rw [hW]; exact (HB0.out.trans ((oalloc V0 _).mono HB0.out.size)).trans ((oalloc _ _).mono (by have := HB0.out.size; simp; omega))
    have hrne : ¬ V0.heap.size + 1 = w.heap.size := by omega
    clear hW hHeld hHeld2 hHeld3 hH1 hmp HB0 hsz0 hzr
    generalize V0.heap.size + 1 = r at *
    generalize V0.heap.size = gm at *
    cases kn
    · go_wp2
      go_ret
      exact ⟨by rw [HLN.out (by simp)]; rfl, HBW.out⟩
    · have x0 := cell_of_block (i := 0) k0 rfl
      have x1 := cell_of_block (i := 1) k0 rfl
      have x2 := cell_of_block (i := 2) k0 rfl
      have x3 := cell_of_block (i := 3) k0 rfl
      have hrW : r < W.heap.size := (Array.getElem?_eq_some_iff.1 k1).1
      have hwW : w.heap.size < W.heap.size := (Array.getElem?_eq_some_iff.1 k0).1
      go_wp2_with (first | (go_at_call 8; refine (HTO.out W).mono ?_; rintro e W1 ⟨rfl, hb1⟩; have y0 := cell_of_block (i := 0) ((hb1.block r hrW).trans k1) rfl; have y1 := cell_of_block (i := 1) ((hb1.block r hrW).trans k1) rfl; have z0 := (hb1.block w.heap.size hwW).trans k0; have HB1 := Lib.hid (HBW.out.trans (hb1.mono HBW.out.size)); have hr1 := Nat.lt_of_lt_of_le hrW hb1.size; have hw1 := Nat.lt_of_lt_of_le hwW hb1.size; clear hb1) | fail)
      go_loopw [10, 36] (fun s i W => ∃ k : Nat, k ≤ fm.length ∧ i = .int .i64 k ∧ s = .string ⟨(accL nl F fm k).toArray⟩ ∧ Hid (Below w.heap.size w W) ∧ Hid (W.heap[w.heap.size]? = some (.cells #[.int .i64 op, .int .i64 n, .int .i64 m, .int .i64 imm] 24 (0, 0)))) (fun _ i _ => fm.length - (intOf i).toNat)
      case atStart => exact ⟨0, Nat.zero_le _, rfl, by simp [accL], HB1.out.alloc (by have := HB1.out.size; omega) _, ((oalloc _ _).block _ hw1).trans z0⟩
      case round =>
        obtain ⟨k, hk, rfl, rfl, HB, HX⟩ := hrel
        clear hfm y0 y1 z0
        by_cases hlt : k < fm.length
        · have hk1 : (k : Int) < fm.length := by omega
          have hix := index_at fm k hlt
          have HEX := Lib.hid (ext_at fm k hlt)
          have HS := Lib.hid (accL_succ nl F fm k hlt)
          have hac : (accL nl F fm k).length ≤ 200 := by have := accL_few nl F fm HF.out k hk; omega
          have HFC := Lib.hid (HFD.out fm[k])
          have x1 := cell_of_block (i := 1) HX.out rfl
          have x2 := cell_of_block (i := 2) HX.out rfl
          have x3 := cell_of_block (i := 3) HX.out rfl
          have HIX := Lib.hid (HIT.out wr HB.out)
          have HPX := Lib.hid (HPL.out wr HB.out)
          have HNX : Hid (∀ W, Below wr.heap.size wr W → Below w.heap.size w W ∧ W.heap[w.heap.size]? = some (.cells #[.int .i64 op, .int .i64 n, .int .i64 m, .int .i64 imm] 24 (0, 0))) := fun W hb => ⟨HB.out.trans (hb.mono HB.out.size), (hb.block _ (Array.getElem?_eq_some_iff.1 HX.out).1).trans HX.out⟩
          have hwr : w.heap.size < wr.heap.size := (Array.getElem?_eq_some_iff.1 HX.out).1
          have HM : Hid (fm.length - (k + 1) < fm.length - k) := by unfold Hid; omega
          rw [HFC.out] at HS
          clear HFC HFD HF HIT HPL HB1 HLL HLN HLK HTO
          generalize fm[k] = c at *
          generalize accL nl F fm k = ac at *
          by_cases c1 : c = 105
          · subst c1
            rw [if_pos rfl] at HS
            obtain ⟨l3, hl3⟩ : ∃ x, x = ac ++ Lib.itoa imm := ⟨_, rfl⟩
            have hc1 : (⟨ac.toArray⟩ : ByteArray) ++ ⟨(Lib.itoa imm).toArray⟩ = ⟨l3.toArray⟩ := by rw [hl3]; exact bcat ac _
            have hs1 := few_cat (a := ac) (b := Lib.itoa imm) (by omega) (by omega)
            rw [← hl3] at HS
            clear hl3
            go_wp2_with (first | (go_at_call 18; refine (HIX.out imm (by simp)).mono ?_; rintro e W2 ⟨rfl, hb2⟩; have HB2 := Lib.hid hb2; clear hb2) | fail)
            exact ⟨⟨k + 1, by omega, by go_num, by rw [HS.out], (HNX.out _ HB2.out).1, (HNX.out _ HB2.out).2⟩, by simpa [intOf] using HM.out⟩
          · have b1 : ((c.toNat : Int) == 105) = false := u8ne c1
            rw [if_neg c1] at HS
            by_cases c2 : c = 110
            · subst c2
              rw [if_pos rfl] at HS
              obtain ⟨l3, hl3⟩ : ∃ y, y = ac ++ [114] := ⟨_, rfl⟩
              have hl3' : l3.length ≤ 201 := by rw [hl3]; simp; omega
              have hc1 : (⟨ac.toArray⟩ : ByteArray) ++ ⟨#[114]⟩ = ⟨l3.toArray⟩ := by rw [hl3]; exact bcat ac [114]
              have hs1 := few_cat1 (a := ac) (by omega)
              obtain ⟨l4, hl4⟩ : ∃ y, y = l3 ++ Lib.itoa n := ⟨_, rfl⟩
              have hc2 : (⟨l3.toArray⟩ : ByteArray) ++ ⟨(Lib.itoa n).toArray⟩ = ⟨l4.toArray⟩ := by rw [hl4]; exact bcat l3 _
              have hs2 := few_cat (a := l3) (b := Lib.itoa n) (by omega) (by omega)
              have HS : Hid (accL nl F fm (k + 1) = l4) := by unfold Hid; rw [HS.out, hl4, hl3]; simp
              clear hl3 hl4
              go_wp2_with (first | (go_at_call 18; refine (HIX.out n (by simp)).mono ?_; rintro e W2 ⟨rfl, hb2⟩; have HB2 := Lib.hid hb2; clear hb2) | fail)
              exact ⟨⟨k + 1, by omega, by go_num, by rw [HS.out], (HNX.out _ HB2.out).1, (HNX.out _ HB2.out).2⟩, by simpa [intOf] using HM.out⟩
            · have b2 : ((c.toNat : Int) == 110) = false := u8ne c2
              rw [if_neg c2] at HS
              by_cases c3 : c = 109
              · subst c3
                rw [if_pos rfl] at HS
                obtain ⟨l3, hl3⟩ : ∃ y, y = ac ++ [114] := ⟨_, rfl⟩
                have hl3' : l3.length ≤ 201 := by rw [hl3]; simp; omega
                have hc1 : (⟨ac.toArray⟩ : ByteArray) ++ ⟨#[114]⟩ = ⟨l3.toArray⟩ := by rw [hl3]; exact bcat ac [114]
                have hs1 := few_cat1 (a := ac) (by omega)
                obtain ⟨l4, hl4⟩ : ∃ y, y = l3 ++ Lib.itoa m := ⟨_, rfl⟩
                have hc2 : (⟨l3.toArray⟩ : ByteArray) ++ ⟨(Lib.itoa m).toArray⟩ = ⟨l4.toArray⟩ := by rw [hl4]; exact bcat l3 _
                have hs2 := few_cat (a := l3) (b := Lib.itoa m) (by omega) (by omega)
                have HS : Hid (accL nl F fm (k + 1) = l4) := by unfold Hid; rw [HS.out, hl4, hl3]; simp
                clear hl3 hl4
                go_wp2_with (first | (go_at_call 18; refine (HIX.out m (by simp)).mono ?_; rintro e W2 ⟨rfl, hb2⟩; have HB2 := Lib.hid hb2; clear hb2) | fail)
                exact ⟨⟨k + 1, by omega, by go_num, by rw [HS.out], (HNX.out _ HB2.out).1, (HNX.out _ HB2.out).2⟩, by simpa [intOf] using HM.out⟩
              · have b3 : ((c.toNat : Int) == 109) = false := u8ne c3
                rw [if_neg c3] at HS
                by_cases c4 : c = 112
                · subst c4
                  rw [if_pos rfl] at HS
                  obtain ⟨l3, hl3⟩ : ∃ x, x = ac ++ placeL p := ⟨_, rfl⟩
                  have hc1 : (⟨ac.toArray⟩ : ByteArray) ++ ⟨(placeL p).toArray⟩ = ⟨l3.toArray⟩ := by rw [hl3]; exact bcat ac _
                  have hs1 := few_cat (a := ac) (b := placeL p) (by omega) (by omega)
                  rw [← hl3] at HS
                  clear hl3
                  go_wp2_with (first | (go_at_call 20; refine (HPX.out).mono ?_; rintro e W2 ⟨rfl, hb2⟩; have HB2 := Lib.hid hb2; clear hb2) | fail)
                  exact ⟨⟨k + 1, by omega, by go_num, by rw [HS.out], (HNX.out _ HB2.out).1, (HNX.out _ HB2.out).2⟩, by simpa [intOf] using HM.out⟩
                · have b4 : ((c.toNat : Int) == 112) = false := u8ne c4
                  rw [if_neg c4] at HS
                  obtain ⟨l3, hl3⟩ : ∃ y, y = ac ++ [c] := ⟨_, rfl⟩
                  have hc1 : (⟨ac.toArray⟩ : ByteArray) ++ ⟨#[c]⟩ = ⟨l3.toArray⟩ := by rw [hl3]; exact bcat ac [c]
                  have hs1 := few_cat1 (a := ac) (by omega)
                  rw [← hl3] at HS
                  clear hl3 c1 c2 c3 c4 hs1
                  have HC1 := Lib.hid hc1
                  clear hc1
                  go_wp2
                  exact ⟨⟨k + 1, by omega, by go_num, by rw [HS.out, HEX.out, HC1.out], HB, HX⟩, by simpa [intOf] using HM.out⟩
        · obtain rfl : k = fm.length := by omega
          have HE : Hid (LL = accL nl F fm fm.length) := by unfold Hid accL; rw [HLL.out, List.take_length]
          go_wp2
          go_ret
          exact ⟨by rw [HE.out]; rfl, HB.out⟩
  · have hzr := zeroRow
    go_simp
    have hHb : (V0.alloc (.cells #[.string ⟨#[]⟩, .int .i64 0, .string ⟨#[]⟩] 51)).heap[w.heap.size]? = some (.cells #[.int .i64 op, .int .i64 n, .int .i64 m, .int .i64 imm] 24 (0, 0)) := ((oalloc V0 _).block _ hsz0).trans hHeld
    refine hK.out _ _ hHb (fun _ => ?_)
    clear hK K
    refine wpAnyH_ready (rs := [0]) (by kernel_rfl) (by simp) ?_
    refine AllReadyH.cons rfl (fun K hK => ?_) AllReadyH.nil
    go_simp
    refine (HR.out _).mono ?_
    rintro e W1 ⟨rfl, rfl⟩
    have hmp : ((V0.alloc (.cells #[.string ⟨#[]⟩, .int .i64 0, .string ⟨#[]⟩] 51)).alloc (mapOf 27)).heap[V0.heap.size + 1]? = some (mapOf 27) := by
      have : ((V0.alloc (.cells #[.string ⟨#[]⟩, .int .i64 0, .string ⟨#[]⟩] 51)).alloc (mapOf 27)).heap[(V0.alloc (.cells #[.string ⟨#[]⟩, .int .i64 0, .string ⟨#[]⟩] 51)).heap.size]? = some (mapOf 27) := by unfold World.alloc; simp only [Array.getElem?_push_size]
      simpa using this
    have hH1 : ((V0.alloc (.cells #[.string ⟨#[]⟩, .int .i64 0, .string ⟨#[]⟩] 51)).alloc (mapOf 27)).heap[w.heap.size]? = some (.cells #[.int .i64 op, .int .i64 n, .int .i64 m, .int .i64 imm] 24 (0, 0)) := ((oalloc _ _).block _ (by simp; omega)).trans hHb
    go_simp
    refine hK.out _ _ hH1 (fun _ => ?_)
    clear hK K
    refine wpAnyH_switch (S' := fun X => X.heap[w.heap.size]? = some (.cells #[.int .i64 op, .int .i64 n, .int .i64 m, .int .i64 imm] 24 (0, 0)) ∧ X.heap[V0.heap.size + 1]? = some (mapOf 27)) (fun _ h => h.1) _ _ _ _ ?_
    have hHeld2 := And.intro hH1 hmp
    refine take_at 3 16 (v := .tuple #[.agg #[.string ⟨nl.toArray⟩, .int .i64 sh, .string rt], .bool kn]) rfl rfl (by kernel_rfl) (by kernel_rfl) (by kernel_rfl) (fun _ _ _ h => h) rfl ?_ hHeld2 ?_
    · intro w hSw
      have hlk := HLK.out w (V0.heap.size + 1) hSw.2
      go_simp
      try with_reducible rfl
    simp only [List.setIfInBounds_toArray, List.set_cons_zero, List.set_cons_succ]
    refine take_at 4 12 (v := ?_) rfl rfl (by kernel_rfl) (by kernel_rfl) (by kernel_rfl) (fun _ _ _ h => h) rfl ?_ hHeld2 ?_
    rotate_left
    · intro w hSw
      go_simp
      try with_reducible rfl
    simp only [List.setIfInBounds_toArray, List.set_cons_zero, List.set_cons_succ]
    refine take_at 5 17 (v := ?_) rfl rfl (by kernel_rfl) (by kernel_rfl) (by kernel_rfl) (fun _ _ _ h => h) rfl ?_ hHeld2 ?_
    rotate_left
    · intro w hSw
      go_simp
      try with_reducible rfl
    simp only [List.setIfInBounds_toArray, List.set_cons_zero, List.set_cons_succ]
    refine take_at 6 18 (v := ?_) rfl rfl (by kernel_rfl) (by kernel_rfl) (by kernel_rfl) (fun _ _ _ h => h) rfl ?_ hHeld2 ?_
    rotate_left
    · intro w hSw
      go_simp
      try with_reducible rfl
    simp only [List.setIfInBounds_toArray, List.set_cons_zero, List.set_cons_succ]
    refine wpAnyH_ready (rs := [8]) (by kernel_rfl) (by simp) ?_
    refine AllReadyH.cons rfl (fun K hK => ?_) AllReadyH.nil
    go_simp
    have hmp3 : ((V0.alloc (.cells #[.string ⟨nl.toArray⟩, .int .i64 sh, .string rt] 51)).alloc (mapOf 27)).heap[V0.heap.size + 1]? = some (mapOf 27) := by
      have : ((V0.alloc (.cells #[.string ⟨nl.toArray⟩, .int .i64 sh, .string rt] 51)).alloc (mapOf 27)).heap[(V0.alloc (.cells #[.string ⟨nl.toArray⟩, .int .i64 sh, .string rt] 51)).heap.size]? = some (mapOf 27) := by unfold World.alloc; simp only [Array.getElem?_push_size]
      simpa using this
    have hH3 : ((V0.alloc (.cells #[.string ⟨nl.toArray⟩, .int .i64 sh, .string rt] 51)).alloc (mapOf 27)).heap[w.heap.size]? = some (.cells #[.int .i64 op, .int .i64 n, .int .i64 m, .int .i64 imm] 24 (0, 0)) := ((oalloc _ _).block _ (by simp; omega)).trans (((oalloc V0 _).block _ hsz0).trans hHeld)
    refine hK.out _ _ ⟨hH3, hmp3⟩ (fun hHeld3 => ?_)
    clear hK K
    refine take_at 9 6 (v := ?_) rfl rfl (by kernel_rfl) (by kernel_rfl) (by kernel_rfl) (fun _ _ _ h => h) rfl ?_ hHeld3 ?_
    rotate_left
    · intro w hSw
      go_simp
      try with_reducible rfl
    simp only [List.setIfInBounds_toArray, List.set_cons_zero, List.set_cons_succ]
    refine wpAnyH_done (by kernel_rfl) ?_ _
    refine NoPanic.normal ?_
    obtain ⟨W, hW⟩ : ∃ W, W = ((V0.alloc (.cells #[.string ⟨nl.toArray⟩, .int .i64 sh, .string rt] 51)).alloc (mapOf 27)) := ⟨_, rfl⟩
    rw [← hW]
    have k0 : W.heap[w.heap.size]? = some (.cells #[.int .i64 op, .int .i64 n, .int .i64 m, .int .i64 imm] 24 (0, 0)) := by rw [hW]; exact hH3
    have k1 : W.heap[V0.heap.size]? = some (.cells #[.string ⟨nl.toArray⟩, .int .i64 sh, .string rt] 51 (0, 0)) := by rw [hW]; exact ((oalloc _ _).block _ (by simp)).trans (blk_new _ _ _)
    have HBW : Hid (Below w.heap.size w W) := by unfold Hid; rw [hW]; exact (HB0.out.trans ((oalloc V0 _).mono HB0.out.size)).trans ((oalloc _ _).mono (by have := HB0.out.size; simp; omega))
    have hrne : ¬ V0.heap.size = w.heap.size := by omega
    clear hW hHeld hHeld2 hHeld3 hH1 hmp HB0 hsz0 hzr hHb hmp3 hH3
    generalize V0.heap.size + 1 = gm at *
    generalize V0.heap.size = r at *
    cases kn
    · go_wp2
      go_ret
      exact ⟨by rw [HLN.out (by simp)]; rfl, HBW.out⟩
    · have x0 := cell_of_block (i := 0) k0 rfl
      have x1 := cell_of_block (i := 1) k0 rfl
      have x2 := cell_of_block (i := 2) k0 rfl
      have x3 := cell_of_block (i := 3) k0 rfl
      have hrW : r < W.heap.size := (Array.getElem?_eq_some_iff.1 k1).1
      have hwW : w.heap.size < W.heap.size := (Array.getElem?_eq_some_iff.1 k0).1
      go_wp2_with (first | (go_at_call 8; refine (HTO.out W).mono ?_; rintro e W1 ⟨rfl, hb1⟩; have y0 := cell_of_block (i := 0) ((hb1.block r hrW).trans k1) rfl; have y1 := cell_of_block (i := 1) ((hb1.block r hrW).trans k1) rfl; have z0 := (hb1.block w.heap.size hwW).trans k0; have HB1 := Lib.hid (HBW.out.trans (hb1.mono HBW.out.size)); have hr1 := Nat.lt_of_lt_of_le hrW hb1.size; have hw1 := Nat.lt_of_lt_of_le hwW hb1.size; clear hb1) | fail)
      go_loopw [10, 36] (fun s i W => ∃ k : Nat, k ≤ fm.length ∧ i = .int .i64 k ∧ s = .string ⟨(accL nl F fm k).toArray⟩ ∧ Hid (Below w.heap.size w W) ∧ Hid (W.heap[w.heap.size]? = some (.cells #[.int .i64 op, .int .i64 n, .int .i64 m, .int .i64 imm] 24 (0, 0)))) (fun _ i _ => fm.length - (intOf i).toNat)
      case atStart => exact ⟨0, Nat.zero_le _, rfl, by simp [accL], HB1.out.alloc (by have := HB1.out.size; omega) _, ((oalloc _ _).block _ hw1).trans z0⟩
      case round =>
        obtain ⟨k, hk, rfl, rfl, HB, HX⟩ := hrel
        clear hfm y0 y1 z0
        by_cases hlt : k < fm.length
        · have hk1 : (k : Int) < fm.length := by omega
          have hix := index_at fm k hlt
          have HEX := Lib.hid (ext_at fm k hlt)
          have HS := Lib.hid (accL_succ nl F fm k hlt)
          have hac : (accL nl F fm k).length ≤ 200 := by have := accL_few nl F fm HF.out k hk; omega
          have HFC := Lib.hid (HFD.out fm[k])
          have x1 := cell_of_block (i := 1) HX.out rfl
          have x2 := cell_of_block (i := 2) HX.out rfl
          have x3 := cell_of_block (i := 3) HX.out rfl
          have HIX := Lib.hid (HIT.out wr HB.out)
          have HPX := Lib.hid (HPL.out wr HB.out)
          have HNX : Hid (∀ W, Below wr.heap.size wr W → Below w.heap.size w W ∧ W.heap[w.heap.size]? = some (.cells #[.int .i64 op, .int .i64 n, .int .i64 m, .int .i64 imm] 24 (0, 0))) := fun W hb => ⟨HB.out.trans (hb.mono HB.out.size), (hb.block _ (Array.getElem?_eq_some_iff.1 HX.out).1).trans HX.out⟩
          have hwr : w.heap.size < wr.heap.size := (Array.getElem?_eq_some_iff.1 HX.out).1
          have HM : Hid (fm.length - (k + 1) < fm.length - k) := by unfold Hid; omega
          rw [HFC.out] at HS
          clear HFC HFD HF HIT HPL HB1 HLL HLN HLK HTO
          generalize fm[k] = c at *
          generalize accL nl F fm k = ac at *
          by_cases c1 : c = 105
          · subst c1
            rw [if_pos rfl] at HS
            obtain ⟨l3, hl3⟩ : ∃ x, x = ac ++ Lib.itoa imm := ⟨_, rfl⟩
            have hc1 : (⟨ac.toArray⟩ : ByteArray) ++ ⟨(Lib.itoa imm).toArray⟩ = ⟨l3.toArray⟩ := by rw [hl3]; exact bcat ac _
            have hs1 := few_cat (a := ac) (b := Lib.itoa imm) (by omega) (by omega)
            rw [← hl3] at HS
            clear hl3
            go_wp2_with (first | (go_at_call 18; refine (HIX.out imm (by simp)).mono ?_; rintro e W2 ⟨rfl, hb2⟩; have HB2 := Lib.hid hb2; clear hb2) | fail)
            exact ⟨⟨k + 1, by omega, by go_num, by rw [HS.out], (HNX.out _ HB2.out).1, (HNX.out _ HB2.out).2⟩, by simpa [intOf] using HM.out⟩
          · have b1 : ((c.toNat : Int) == 105) = false := u8ne c1
            rw [if_neg c1] at HS
            by_cases c2 : c = 110
            · subst c2
              rw [if_pos rfl] at HS
              obtain ⟨l3, hl3⟩ : ∃ y, y = ac ++ [114] := ⟨_, rfl⟩
              have hl3' : l3.length ≤ 201 := by rw [hl3]; simp; omega
              have hc1 : (⟨ac.toArray⟩ : ByteArray) ++ ⟨#[114]⟩ = ⟨l3.toArray⟩ := by rw [hl3]; exact bcat ac [114]
              have hs1 := few_cat1 (a := ac) (by omega)
              obtain ⟨l4, hl4⟩ : ∃ y, y = l3 ++ Lib.itoa n := ⟨_, rfl⟩
              have hc2 : (⟨l3.toArray⟩ : ByteArray) ++ ⟨(Lib.itoa n).toArray⟩ = ⟨l4.toArray⟩ := by rw [hl4]; exact bcat l3 _
              have hs2 := few_cat (a := l3) (b := Lib.itoa n) (by omega) (by omega)
              have HS : Hid (accL nl F fm (k + 1) = l4) := by unfold Hid; rw [HS.out, hl4, hl3]; simp
              clear hl3 hl4
              go_wp2_with (first | (go_at_call 18; refine (HIX.out n (by simp)).mono ?_; rintro e W2 ⟨rfl, hb2⟩; have HB2 := Lib.hid hb2; clear hb2) | fail)
              exact ⟨⟨k + 1, by omega, by go_num, by rw [HS.out], (HNX.out _ HB2.out).1, (HNX.out _ HB2.out).2⟩, by simpa [intOf] using HM.out⟩
            · have b2 : ((c.toNat : Int) == 110) = false := u8ne c2
              rw [if_neg c2] at HS
              by_cases c3 : c = 109
              · subst c3
                rw [if_pos rfl] at HS
                obtain ⟨l3, hl3⟩ : ∃ y, y = ac ++ [114] := ⟨_, rfl⟩
                have hl3' : l3.length ≤ 201 := by rw [hl3]; simp; omega
                have hc1 : (⟨ac.toArray⟩ : ByteArray) ++ ⟨#[114]⟩ = ⟨l3.toArray⟩ := by rw [hl3]; exact bcat ac [114]
                have hs1 := few_cat1 (a := ac) (by omega)
                obtain ⟨l4, hl4⟩ : ∃ y, y = l3 ++ Lib.itoa m := ⟨_, rfl⟩
                have hc2 : (⟨l3.toArray⟩ : ByteArray) ++ ⟨(Lib.itoa m).toArray⟩ = ⟨l4.toArray⟩ := by rw [hl4]; exact bcat l3 _
                have hs2 := few_cat (a := l3) (b := Lib.itoa m) (by omega) (by omega)
                have HS : Hid (accL nl F fm (k + 1) = l4) := by unfold Hid; rw [HS.out, hl4, hl3]; simp
                clear hl3 hl4
                go_wp2_with (first | (go_at_call 18; refine (HIX.out m (by simp)).mono ?_; rintro e W2 ⟨rfl, hb2⟩; have HB2 := Lib.hid hb2; clear hb2) | fail)
                exact ⟨⟨k + 1, by omega, by go_num, by rw [HS.out], (HNX.out _ HB2.out).1, (HNX.out _ HB2.out).2⟩, by simpa [intOf] using HM.out⟩
              · have b3 : ((c.toNat : Int) == 109) = false := u8ne c3
                rw [if_neg c3] at HS
                by_cases c4 : c = 112
                · subst c4
                  rw [if_pos rfl] at HS
                  obtain ⟨l3, hl3⟩ : ∃ x, x = ac ++ placeL p := ⟨_, rfl⟩
                  have hc1 : (⟨ac.toArray⟩ : ByteArray) ++ ⟨(placeL p).toArray⟩ = ⟨l3.toArray⟩ := by rw [hl3]; exact bcat ac _
                  have hs1 := few_cat (a := ac) (b := placeL p) (by omega) (by omega)
                  rw [← hl3] at HS
                  clear hl3
                  go_wp2_with (first | (go_at_call 20; refine (HPX.out).mono ?_; rintro e W2 ⟨rfl, hb2⟩; have HB2 := Lib.hid hb2; clear hb2) | fail)
                  exact ⟨⟨k + 1, by omega, by go_num, by rw [HS.out], (HNX.out _ HB2.out).1, (HNX.out _ HB2.out).2⟩, by simpa [intOf] using HM.out⟩
                · have b4 : ((c.toNat : Int) == 112) = false := u8ne c4
                  rw [if_neg c4] at HS
                  obtain ⟨l3, hl3⟩ : ∃ y, y = ac ++ [c] := ⟨_, rfl⟩
                  have hc1 : (⟨ac.toArray⟩ : ByteArray) ++ ⟨#[c]⟩ = ⟨l3.toArray⟩ := by rw [hl3]; exact bcat ac [c]
                  have hs1 := few_cat1 (a := ac) (by omega)
                  rw [← hl3] at HS
                  clear hl3 c1 c2 c3 c4 hs1
                  have HC1 := Lib.hid hc1
                  clear hc1
                  go_wp2
                  exact ⟨⟨k + 1, by omega, by go_num, by rw [HS.out, HEX.out, HC1.out], HB, HX⟩, by simpa [intOf] using HM.out⟩
        · obtain rfl : k = fm.length := by omega
          have HE : Hid (LL = accL nl F fm fm.length) := by unfold Hid accL; rw [HLL.out, List.take_length]
          go_wp2
          go_ret
          exact ⟨by rw [HE.out]; rfl, HB.out⟩

end Go.Proofs.YtgadpimknobljaaDoor
