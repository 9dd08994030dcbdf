/- The contract of the document's own Parse of bytes. -/
import Derived.Test.YtobdcnpifbnjaacOrP
namespace Go.Proofs.Ytobdcnpifbnjaac
open Go.RowKit

theorem eN4 (Q : Nat) (l r : List UInt8) (s : Bool) (w : World) (h : ER w Q l r s) :
    Calls Try.prog 29 #[.pointer (some ⟨Q, 0, none⟩), .int .i64 4] w fun e w' => e = .returned (.int .i64 ((eN 4 r s).1 : Int)) ∧ ER w' Q l (eN 4 r s).2.1 (eN 4 r s).2.2 ∧ w.grownBy w' (some Q) := eN_any Q l r s 4 (by decide) w h
theorem eN1 (Q : Nat) (l r : List UInt8) (s : Bool) (w : World) (h : ER w Q l r s) :
    Calls Try.prog 29 #[.pointer (some ⟨Q, 0, none⟩), .int .i64 1] w fun e w' => e = .returned (.int .i64 ((eN 1 r s).1 : Int)) ∧ ER w' Q l (eN 1 r s).2.1 (eN 1 r s).2.2 ∧ w.grownBy w' (some Q) := eN_any Q l r s 1 (by decide) w h

/-- The worlds that Parse begins with. -/
theorem er_new {w : World} {ad : Option Addr} {cap : Nat} {l : List UInt8} (h : RB w w.heap.size (.slice ad l.length cap) l) (hl : l.length ≤ 140737488355328) (o : Obj) : ER ((w.alloc o).alloc (.cells #[.slice ad l.length cap, .int .i64 0, .bool false] 60)) (w.heap.size + 1) l l false := by
  have e := heap_alloc_new (w.alloc o) (.cells #[.slice ad l.length cap, .int .i64 0, .bool false] 60)
  simp only [World.size_alloc] at e
  refine ⟨0, ⟨Nat.zero_le _, by omega, by simp, cell_of_block e rfl, cell_of_block e rfl, by unfold World.frozen?; simp only [e]; rfl, by unfold World.frozen?; simp only [e]; rfl, ad, cap, cell_of_block e rfl, ?_, fun h0 => ?_⟩, rfl⟩
  · obtain ⟨ad', cap', e', hs⟩ := h
    cases e'
    rcases hs with ⟨_, h1, h2⟩ | ⟨a, _, hc, _⟩
    · rw [h2]; exact Nat.zero_le _
    · exact hc
  · obtain ⟨ad', cap', e', hs⟩ := h
    cases e'
    rcases hs with ⟨_, _, h2⟩ | ⟨a, rfl, hc, h3⟩
    · rw [h2] at h0; simp at h0
    · obtain ⟨b, p, rfl, hb, hcs⟩ := h3 h0
      refine ⟨b, p, rfl, by omega, fun i hi => ?_⟩
      rw [World.cell?_alloc_lt _ _ _ (by simp; omega), World.cell?_alloc_lt _ _ _ (by exact hb)]
      exact hcs i hi

theorem qk_new {w : World} {ad : Option Addr} {cap : Nat} {l : List UInt8} (h : RB w w.heap.size (.slice ad l.length cap) l) (hl : l.length ≤ 140737488355328) :
    QK w (((w.alloc (.cells #[.slice none 0 0, .slice none 0 0, .slice none 0 0] 26)).alloc (.cells #[.slice ad l.length cap, .int .i64 0, .bool false] 60)).alloc (.cells #[.slice none 0 0, .slice none 0 0, .slice none 0 0] 26)) (.slice none 0 0) (.slice none 0 0) (.slice none 0 0) (.slice none 0 0) (.slice none 0 0) (.slice none 0 0) [] [] [] l l false := by
  refine ⟨((oalloc w _).alloc (by simp) _).alloc (by simp; omega) _, ?_, ?_, ⟨World.ownsRow_nil _ _ _ _, by simp⟩, World.ownsRow_nil _ _ _ _, World.ownsRow_nil _ _ _ _, (er_new h hl _).below (oalloc _ _) (by simp)⟩
  · rw [Below.heap_alloc _ _ _ (by simp; omega), Below.heap_alloc _ _ _ (by simp)]
    exact heap_alloc_new w _
  · have := heap_alloc_new ((w.alloc (.cells #[.slice none 0 0, .slice none 0 0, .slice none 0 0] 26)).alloc (.cells #[.slice ad l.length cap, .int .i64 0, .bool false] 60)) (.cells #[.slice none 0 0, .slice none 0 0, .slice none 0 0] 26)
    simp only [World.size_alloc] at this
    exact this

theorem QK.newCode {w W : World} {a b c vc vs vr v : Value} {code code' : List UInt8} {xs : List Sy} {rs : List Re} {l r : List UInt8} {s : Bool} {base : Nat} (h : QK w W a b c vc vs vr code xs rs l r s) (ho : Out W base v code') (hb : w.heap.size + 3 ≤ base) : QK w W a b c v vs vr code' xs rs l r s :=
  ⟨h.bel, h.n, h.m, ⟨row_base ho.1 hb, h.code.2⟩, h.syms, h.rels, h.er⟩
theorem QK.nCells {w W : World} {a b c vc vs vr : Value} {code : List UInt8} {xs : List Sy} {rs : List Re} {l r : List UInt8} {s : Bool} (h : QK w W a b c vc vs vr code xs rs l r s) : W.cell? ⟨w.heap.size, 0, none⟩ = some (.slice none 0 0) ∧ W.cell? ⟨w.heap.size, 1, none⟩ = some (.slice none 0 0) ∧ W.cell? ⟨w.heap.size, 2, none⟩ = some (.slice none 0 0) ∧ W.frozen? ⟨w.heap.size, 0, none⟩ = false ∧ W.frozen? ⟨w.heap.size, 1, none⟩ = false ∧ W.frozen? ⟨w.heap.size, 2, none⟩ = false := by
  refine ⟨cell_of_block h.n rfl, cell_of_block h.n rfl, cell_of_block h.n rfl, ?_, ?_, ?_⟩ <;> (unfold World.frozen?; simp only [h.n]; rfl)

/-- A row of one's own stands where its blocks do. -/
theorem row_moved {w W : World} {base n size : Nat} {e : TypeId} {v : Value} {ys : List Value} (h : w.ownsRow base e size v n ys) (_ : w.heap.size ≤ W.heap.size) (hk : ∀ b, base ≤ b → W.heap[b]? = w.heap[b]?) : W.ownsRow base e size v n ys := by
  refine ⟨h.1, ?_⟩
  rcases h.2 with h | ⟨g, cap, cur, e, hb, hg, r⟩
  · exact .inl h
  · exact .inr ⟨g, cap, cur, e, hb, by rw [hk g hb]; exact hg, r⟩

set_option maxHeartbeats 16000000 in
set_option maxRecDepth 100000 in
theorem rparse_any (l : List UInt8) (v : Value) (w : World) (hv : RB w w.heap.size v l) (hl : l.length ≤ 140737488355328) :
    Calls Try.prog 11 #[v] w fun e w' => ParseEnd w l e w' := by
  obtain ⟨ad, cap, rfl, z⟩ := hv
  have HQ0 := Lib.hid (qk_new (w := w) ⟨ad, cap, rfl, z⟩ hl)
  clear z
  have HM : Hid (readO l = if (eT 3 l false).1 = [79, 66, 74] then readAllE (l.drop 3) else none) := readO_markE l
  have HT3 : Hid (∀ W, ER W (w.heap.size + 1) l l false → Calls Try.prog 28 #[.pointer (some ⟨w.heap.size + 1, 0, none⟩), .int .i64 3] W fun e w' => ∃ v, e = .returned v ∧ Out w' W.heap.size v (eT 3 l false).1 ∧ ER w' (w.heap.size + 1) l (eT 3 l false).2.1 (eT 3 l false).2.2 ∧ W.grownBy w' (some (w.heap.size + 1))) := fun W h => eT_any _ l l false 3 W h (by decide) hl
  have hfew : (eT 3 l false).1.length ≤ maxLen := by
    unfold eT maxLen
    split <;> simp; omega
  go_enter Try.func11, Try.ntmps11
  go_wp2_with fail
  refine (HT3.out _ HQ0.out.er).mono ?_
  rintro e w1 ⟨v1, rfl, ho1, he1, hg1⟩
  have hcv := oconv (ho1.bytes hfew)
  have HQ1 := Lib.hid (HQ0.out.read hg1 he1)
  clear ho1 he1 hg1 HT3 HQ0
  by_cases hm : (eT 3 l false).1 = [79, 66, 74]
  · rw [hm] at hcv
    have h3 : 3 ≤ l.length := by
      by_cases h : 3 ≤ l.length
      · exact h
      · rw [eT_no h] at hm; cases hm
    have hdt : eT 3 l false = ([79, 66, 74], l.drop 3, false) := by
      rw [eT_ok h3] at hm ⊢
      simp only at hm
      rw [hm]
    rw [hdt] at HQ1 HM
    simp only [if_true] at HQ1 HM
    obtain ⟨a2, h2⟩ : ∃ a, a = eN 4 (l.drop 3) false := ⟨_, rfl⟩
    obtain ⟨a3, h3x⟩ : ∃ a, a = eT a2.1 a2.2.1 a2.2.2 := ⟨_, rfl⟩
    obtain ⟨a4, h4⟩ : ∃ a, a = eN 4 a3.2.1 a3.2.2 := ⟨_, rfl⟩
    obtain ⟨a5, h5⟩ : ∃ a, a = dMany eSym a4.1 a4.2.1 a4.2.2 := ⟨_, rfl⟩
    obtain ⟨a7, h7y⟩ : ∃ a, a = dMany eRel (eN 4 a5.2.1 a5.2.2).1 (eN 4 a5.2.1 a5.2.2).2.1 (eN 4 a5.2.1 a5.2.2).2.2 := ⟨_, rfl⟩
    have hSS : esteps (l.drop 3) = ⟨a2, a3, a5, a7⟩ := by unfold esteps; simp only [← h2, ← h3x, ← h4, ← h5, ← h7y]
    have HP : Hid (parseO nameR l = match (if a7.2.2 = true ∨ a7.2.1 ≠ [] then none else some ⟨a3.1, a5.1, a7.1⟩ : Option Ob) with
        | none => .error 2
        | some o => if wrongO nameR o = 0 then .ok o else .error (wrongO nameR o)) := by
      unfold Hid parseO
      rw [HM.out]
      unfold readAllE
      rw [hSS]
      rfl
    have h7 := Lib.hid h7y
    have HD0 := Lib.hid h5
    have hf3 : a3.1.length ≤ maxLen := by
      rw [h3x, h2]
      unfold eT maxLen
      split
      · simp
      · simp only [List.length_take]
        have := eN_lt4 (l.drop 3) false
        omega
    have ha2 : a2.1 < 4294967296 := by rw [h2]; exact eN_lt4 _ _
    have hlt4 : a4.1 < 4294967296 := by rw [h4]; exact eN_lt4 _ _
    have H2 := eN4 (w.heap.size + 1) l (l.drop 3) false w1 HQ1.out.er
    rw [← h2] at H2
    have H3 : Hid (∀ W, ER W (w.heap.size + 1) l a2.2.1 a2.2.2 → Calls Try.prog 28 #[.pointer (some ⟨w.heap.size + 1, 0, none⟩), .int .i64 (a2.1 : Int)] W fun e w' => ∃ v, e = .returned v ∧ Out w' W.heap.size v a3.1 ∧ ER w' (w.heap.size + 1) l a3.2.1 a3.2.2 ∧ W.grownBy w' (some (w.heap.size + 1))) := fun W he => by
      have := eT_any (w.heap.size + 1) l a2.2.1 a2.2.2 a2.1 W he (by omega) hl
      rwa [← h3x] at this
    have H4 : Hid (∀ W, ER W (w.heap.size + 1) l a3.2.1 a3.2.2 → Calls Try.prog 29 #[.pointer (some ⟨w.heap.size + 1, 0, none⟩), .int .i64 4] W fun e w' => e = .returned (.int .i64 (a4.1 : Int)) ∧ ER w' (w.heap.size + 1) l a4.2.1 a4.2.2 ∧ W.grownBy w' (some (w.heap.size + 1))) := fun W he => by
      have := eN4 (w.heap.size + 1) l a3.2.1 a3.2.2 W he
      rwa [← h4] at this
    clear h2 h3x h4 h5 h7y hSS HM hdt hm h3 hfew
    go_wp2_with fail
    refine H2.mono ?_
    rintro e w2 ⟨rfl, he2, hg2⟩
    have HQ2 := Lib.hid (HQ1.out.read hg2 he2)
    clear he2 hg2 H2 HQ1 hcv
    go_wp2_with fail
    refine (H3.out w2 HQ2.out.er).mono ?_
    rintro e w3 ⟨v3, rfl, ho3, he3, hg3⟩
    have HQ3 := Lib.hid ((HQ2.out.read hg3 he3).newCode ho3 HQ2.out.size)
    obtain ⟨ad3, cap3, rfl⟩ := row_shape ho3.1
    have y0 := HQ3.out.cells.1
    have yf := HQ3.out.frozen 0 (by decide)
    have HQ3s : Hid (QK w (w3.setCell ⟨w.heap.size + 2, 0, none⟩ (.slice ad3 a3.1.length cap3)) (.slice ad3 a3.1.length cap3) (.slice none 0 0) (.slice none 0 0) (.slice ad3 a3.1.length cap3) (.slice none 0 0) (.slice none 0 0) a3.1 [] [] l a3.2.1 a3.2.2) := HQ3.out.set 0 (.slice ad3 a3.1.length cap3)
    clear he3 hg3 H3 HQ2 ho3 HQ3
    go_wp2_with fail
    refine (H4.out _ HQ3s.out.er).mono ?_
    rintro e w4 ⟨rfl, he4, hg4⟩
    have HQ4 := Lib.hid (HQ3s.out.read hg4 he4)
    clear he4 hg4 H4 HQ3s y0 yf
    go_wp2
    go_loopw [6] (fun i wr => ∃ (m : Nat) (r : List UInt8) (s : Bool) (xs : List Sy) (adS : Option Addr) (nS capS : Nat), m < 4294967296 ∧ xs.length + m ≤ 4294967296 ∧ i = .int .i64 m ∧ Hid (QK w wr (.slice ad3 a3.1.length cap3) (.slice adS nS capS) (.slice none 0 0) (.slice ad3 a3.1.length cap3) (.slice adS nS capS) (.slice none 0 0) a3.1 xs [] l r s) ∧ Hid (a5 = (xs ++ (dMany eSym m r s).1, (dMany eSym m r s).2))) (fun i _ => (intOf i).toNat)
    case atStart => exact ⟨a4.1, a4.2.1, a4.2.2, [], none, 0, 0, hlt4, by simp; omega, rfl, HQ4, by simpa using HD0⟩
    case round =>
      obtain ⟨m, r, s, xs, adS, nS, capS, hm, hml, rfl, HQ, HD⟩ := hrel
      clear HQ4 HD0
      by_cases hm0 : 0 < m
      · have hm1 : (0 : Int) < m := by omega
        cases s
        · have HD2 : Hid (a5 = ((xs ++ [(eSym r false).1]) ++ (dMany eSym (m - 1) (eSym r false).2.1 (eSym r false).2.2).1, (dMany eSym (m - 1) (eSym r false).2.1 (eSym r false).2.2).2)) := by
            unfold Hid
            rw [HD.out, dMany_pos _ hm0]
            simp
          obtain ⟨p3, hp3⟩ : ∃ a, a = eN 1 r false := ⟨_, rfl⟩
          obtain ⟨p4, hp4⟩ : ∃ a, a = eT p3.1 p3.2.1 p3.2.2 := ⟨_, rfl⟩
          obtain ⟨p5, hp5⟩ : ∃ a, a = eN 4 p4.2.1 p4.2.2 := ⟨_, rfl⟩
          obtain ⟨x, hx⟩ : ∃ x : Sy, x = ⟨p4.1, p5.1⟩ := ⟨_, rfl⟩
          have hxx : eSym r false = (x, p5.2) := by
            rw [hx, hp5, hp4, hp3]
            rfl
          rw [hxx] at HD2
          simp only at HD2
          have H1 := eN1 (w.heap.size + 1) l r false wr HQ.out.er
          rw [← hp3] at H1
          have hp3l : p3.1 < 256 := by rw [hp3]; exact eN_lt1 _ _
          have H2 : Hid (∀ W, ER W (w.heap.size + 1) l p3.2.1 p3.2.2 → Calls Try.prog 28 #[.pointer (some ⟨w.heap.size + 1, 0, none⟩), .int .i64 (p3.1 : Int)] W fun e w' => ∃ v, e = .returned v ∧ (convert 22 9 v).run Try.prog w' = .ok (.string ⟨x.name.toArray⟩) w' ∧ ER w' (w.heap.size + 1) l p4.2.1 p4.2.2 ∧ W.grownBy w' (some (w.heap.size + 1))) := fun W he => by
            refine (eT_any (w.heap.size + 1) l p3.2.1 p3.2.2 p3.1 W he (by omega) hl).mono ?_
            rintro e w' ⟨v, rfl, h1, h2, h3⟩
            rw [← hp4] at h1 h2
            refine ⟨v, rfl, ?_, h2, h3⟩
            rw [hx]
            exact oconv (h1.bytes (by rw [hp4]; unfold eT maxLen; split <;> simp; omega))
          have H3 : Hid (∀ W, ER W (w.heap.size + 1) l p4.2.1 p4.2.2 → Calls Try.prog 29 #[.pointer (some ⟨w.heap.size + 1, 0, none⟩), .int .i64 4] W fun e w' => e = .returned (.int .i64 x.pos) ∧ ER w' (w.heap.size + 1) l p5.2.1 p5.2.2 ∧ W.grownBy w' (some (w.heap.size + 1))) := fun W he => by
            have := eN4 (w.heap.size + 1) l p4.2.1 p4.2.2 W he
            rw [← hp5] at this
            rw [hx]
            exact this
          have qb := HQ.out.badCell
          clear hp3 hp4 hp5 hx hxx HD
          go_wp2_with fail
          refine H1.mono ?_
          rintro e t1 ⟨rfl, he1, hg1⟩
          have HT1 := Lib.hid (HQ.out.read hg1 he1)
          clear he1 hg1 H1 HQ qb
          go_wp2_with fail
          refine (H2.out t1 HT1.out.er).mono ?_
          rintro e t2 ⟨vn, rfl, hcvn, he2, hg2⟩
          have HT2 := Lib.hid (HT1.out.read hg2 he2)
          clear he2 hg2 H2 HT1
          go_wp2_with fail
          clear hcvn
          refine wp_region_noPanic ?_
          refine wp_region_held_drew (S := fun _ => True) (by kernel_rfl) trivial (fun _ => ?_)
          have HQa := Lib.hid (HT2.out.grow (W' := t2.drew) (Below.refl _ _).drew)
          generalize t2.drew = V0 at *
          clear HT2
          refine take_at 0 45 (v := ?_) rfl rfl (by kernel_rfl) (by kernel_rfl) (by kernel_rfl) (fun _ _ _ h => h) rfl ?_ trivial ?_
          rotate_left
          · intro w hSw
            go_simp
            try with_reducible rfl
          simp only [List.setIfInBounds_toArray, List.set_cons_zero, List.set_cons_succ]
          refine take_at 2 47 (v := ?_) rfl rfl (by kernel_rfl) (by kernel_rfl) (by kernel_rfl) (fun _ _ _ h => h) rfl ?_ trivial ?_
          rotate_left
          · intro w hSw
            go_simp
            try with_reducible rfl
          simp only [List.setIfInBounds_toArray, List.set_cons_zero, List.set_cons_succ]
          refine take_at 3 48 (v := ?_) rfl rfl (by kernel_rfl) (by kernel_rfl) (by kernel_rfl) (fun _ _ _ h => h) rfl ?_ trivial ?_
          rotate_left
          · intro w hSw
            go_simp
            try with_reducible rfl
          simp only [List.setIfInBounds_toArray, List.set_cons_zero, List.set_cons_succ]
          refine wpAnyH_ready (rs := [1, 4]) (by kernel_rfl) (by simp) ?_
          refine AllReadyH.cons rfl (fun K hK => ?_) (AllReadyH.cons rfl (fun K hK => ?_) AllReadyH.nil)
          · have xl := HQa.out.cells.2.1
            go_simp
            refine hK.out _ _ trivial (fun _ => ?_)
            clear hK K xl
            refine wpAnyH_ready (rs := [4]) (by kernel_rfl) (by simp) ?_
            refine AllReadyH.cons rfl (fun K hK => ?_) AllReadyH.nil
            go_simp
            refine (H3.out V0 HQa.out.er).mono ?_
            rintro e V2 ⟨rfl, he, hg⟩
            have HQ2 := Lib.hid (HQa.out.read hg he)
            refine hK.out _ _ trivial (fun _ => ?_)
            clear hK K he hg HQa
            refine take_at 5 50 (v := ?_) rfl rfl (by kernel_rfl) (by kernel_rfl) (by kernel_rfl) (fun _ _ _ h => h) rfl ?_ trivial ?_
            rotate_left
            · intro w hSw
              go_simp
              try with_reducible rfl
            simp only [List.setIfInBounds_toArray, List.set_cons_zero, List.set_cons_succ]
            refine wpAnyH_ready (rs := [6]) (by kernel_rfl) (by simp) ?_
            refine AllReadyH.cons rfl (fun K hK => ?_) AllReadyH.nil
            go_simp
            generalize hWn : World.alloc V2 _ = V3
            have HQ3 := Lib.hid (HQ2.out.grow (W' := V3) (by rw [← hWn]; exact oalloc _ _))
            have HBN : Hid (V3.heap[V2.heap.size]? = some (.cells #[.string ⟨x.name.toArray⟩, .int .i64 x.pos] 38 (0, 0))) := by unfold Hid; rw [← hWn]; exact heap_alloc_new V2 _
            refine hK.out _ _ trivial (fun _ => ?_)
            clear hK K hWn HQ2
            refine wpAnyH_ready (rs := [7]) (by kernel_rfl) (by simp) ?_
            refine AllReadyH.cons rfl (fun K hK => ?_) AllReadyH.nil
            obtain ⟨y4, V4, happ, hqn, ad4, nn4, cap4, hsh⟩ := HQ3.out.appS x V2.heap.size HBN.out (by omega)
            subst hsh
            have HA := Lib.hid happ
            have HQ4 := Lib.hid hqn
            clear happ hqn HBN
            refine step_app_eq (by rfl) 52 (by rfl) _ _ _ _ (by rfl) _ _ (by rfl) (by rfl) HA.out ?_
            simp only [List.setIfInBounds_toArray, List.set_cons_zero, List.set_cons_succ]
            refine hK.out _ _ trivial (fun _ => ?_)
            clear hK K HA HQ3
            refine take_at 8 53 (v := ?_) rfl rfl (by kernel_rfl) (by kernel_rfl) (by kernel_rfl) (fun _ _ _ h => h) rfl ?_ trivial ?_
            rotate_left
            · intro w hSw
              go_simp
              try with_reducible rfl
            simp only [List.setIfInBounds_toArray, List.set_cons_zero, List.set_cons_succ]
            refine wpAnyH_ready (rs := [9]) (by kernel_rfl) (by simp) ?_
            refine AllReadyH.cons rfl (fun K hK => ?_) AllReadyH.nil
            have xs0 := HQ4.out.cells.2.1
            have xf0 := HQ4.out.frozen 1 (by decide)
            go_simp
            have HQ5 := Lib.hid (HQ4.out.set 1 (.slice ad4 nn4 cap4))
            refine hK.out _ _ trivial (fun _ => ?_)
            clear hK K xs0 xf0 HQ4
            refine wpAnyH_done (by kernel_rfl) ?_ _
            refine NoPanic.normal ?_
            have HQe : Hid (QK w (V4.setCell ⟨w.heap.size + 2, 1, none⟩ (.slice ad4 nn4 cap4)) (.slice ad3 a3.1.length cap3) (.slice ad4 nn4 cap4) (.slice none 0 0) (.slice ad3 a3.1.length cap3) (.slice ad4 nn4 cap4) (.slice none 0 0) a3.1 (xs ++ [x]) [] l p5.2.1 p5.2.2) := HQ5.out
            clear HQ5
            go_wp2
            exact ⟨⟨m - 1, _, _, _, _, _, _, by omega, by simp; omega, by go_num, HQe, HD2⟩, by simp [intOf]; omega⟩
          · go_simp
            refine (H3.out V0 HQa.out.er).mono ?_
            rintro e V6 ⟨rfl, he, hg⟩
            have HQ6 := Lib.hid (HQa.out.read hg he)
            refine hK.out _ _ trivial (fun _ => ?_)
            clear hK K he hg HQa
            refine take_at 5 50 (v := ?_) rfl rfl (by kernel_rfl) (by kernel_rfl) (by kernel_rfl) (fun _ _ _ h => h) rfl ?_ trivial ?_
            rotate_left
            · intro w hSw
              go_simp
              try with_reducible rfl
            simp only [List.setIfInBounds_toArray, List.set_cons_zero, List.set_cons_succ]
            refine wpAnyH_ready (rs := [1, 6]) (by kernel_rfl) (by simp) ?_
            refine AllReadyH.cons rfl (fun K hK => ?_) (AllReadyH.cons rfl (fun K hK => ?_) AllReadyH.nil)
            · have xl := HQ6.out.cells.2.1
              go_simp
              refine hK.out _ _ trivial (fun _ => ?_)
              clear hK K xl
              refine wpAnyH_ready (rs := [6]) (by kernel_rfl) (by simp) ?_
              refine AllReadyH.cons rfl (fun K hK => ?_) AllReadyH.nil
              go_simp
              generalize hWn : World.alloc V6 _ = V8
              have HQ8 := Lib.hid (HQ6.out.grow (W' := V8) (by rw [← hWn]; exact oalloc _ _))
              have HBN : Hid (V8.heap[V6.heap.size]? = some (.cells #[.string ⟨x.name.toArray⟩, .int .i64 x.pos] 38 (0, 0))) := by unfold Hid; rw [← hWn]; exact heap_alloc_new V6 _
              refine hK.out _ _ trivial (fun _ => ?_)
              clear hK K hWn HQ6
              refine wpAnyH_ready (rs := [7]) (by kernel_rfl) (by simp) ?_
              refine AllReadyH.cons rfl (fun K hK => ?_) AllReadyH.nil
              obtain ⟨y9, V9, happ, hqn, ad9, nn9, cap9, hsh⟩ := HQ8.out.appS x V6.heap.size HBN.out (by omega)
              subst hsh
              have HA := Lib.hid happ
              have HQ9 := Lib.hid hqn
              clear happ hqn HBN
              refine step_app_eq (by rfl) 52 (by rfl) _ _ _ _ (by rfl) _ _ (by rfl) (by rfl) HA.out ?_
              simp only [List.setIfInBounds_toArray, List.set_cons_zero, List.set_cons_succ]
              refine hK.out _ _ trivial (fun _ => ?_)
              clear hK K HA HQ8
              refine take_at 8 53 (v := ?_) rfl rfl (by kernel_rfl) (by kernel_rfl) (by kernel_rfl) (fun _ _ _ h => h) rfl ?_ trivial ?_
              rotate_left
              · intro w hSw
                go_simp
                try with_reducible rfl
              simp only [List.setIfInBounds_toArray, List.set_cons_zero, List.set_cons_succ]
              refine wpAnyH_ready (rs := [9]) (by kernel_rfl) (by simp) ?_
              refine AllReadyH.cons rfl (fun K hK => ?_) AllReadyH.nil
              have xs0 := HQ9.out.cells.2.1
              have xf0 := HQ9.out.frozen 1 (by decide)
              go_simp
              have HQ10 := Lib.hid (HQ9.out.set 1 (.slice ad9 nn9 cap9))
              refine hK.out _ _ trivial (fun _ => ?_)
              clear hK K xs0 xf0 HQ9
              refine wpAnyH_done (by kernel_rfl) ?_ _
              refine NoPanic.normal ?_
              have HQe : Hid (QK w (V9.setCell ⟨w.heap.size + 2, 1, none⟩ (.slice ad9 nn9 cap9)) (.slice ad3 a3.1.length cap3) (.slice ad9 nn9 cap9) (.slice none 0 0) (.slice ad3 a3.1.length cap3) (.slice ad9 nn9 cap9) (.slice none 0 0) a3.1 (xs ++ [x]) [] l p5.2.1 p5.2.2) := HQ10.out
              clear HQ10
              go_wp2
              exact ⟨⟨m - 1, _, _, _, _, _, _, by omega, by simp; omega, by go_num, HQe, HD2⟩, by simp [intOf]; omega⟩
            · go_simp
              generalize hWn : World.alloc V6 _ = V11
              have HQ11 := Lib.hid (HQ6.out.grow (W' := V11) (by rw [← hWn]; exact oalloc _ _))
              have HBN : Hid (V11.heap[V6.heap.size]? = some (.cells #[.string ⟨x.name.toArray⟩, .int .i64 x.pos] 38 (0, 0))) := by unfold Hid; rw [← hWn]; exact heap_alloc_new V6 _
              refine hK.out _ _ trivial (fun _ => ?_)
              clear hK K hWn HQ6
              refine wpAnyH_ready (rs := [1]) (by kernel_rfl) (by simp) ?_
              refine AllReadyH.cons rfl (fun K hK => ?_) AllReadyH.nil
              have xl := HQ11.out.cells.2.1
              go_simp
              refine hK.out _ _ trivial (fun _ => ?_)
              clear hK K xl
              refine wpAnyH_ready (rs := [7]) (by kernel_rfl) (by simp) ?_
              refine AllReadyH.cons rfl (fun K hK => ?_) AllReadyH.nil
              obtain ⟨y13, V13, happ, hqn, ad13, nn13, cap13, hsh⟩ := HQ11.out.appS x V6.heap.size HBN.out (by omega)
              subst hsh
              have HA := Lib.hid happ
              have HQ13 := Lib.hid hqn
              clear happ hqn HBN
              refine step_app_eq (by rfl) 52 (by rfl) _ _ _ _ (by rfl) _ _ (by rfl) (by rfl) HA.out ?_
              simp only [List.setIfInBounds_toArray, List.set_cons_zero, List.set_cons_succ]
              refine hK.out _ _ trivial (fun _ => ?_)
              clear hK K HA HQ11
              refine take_at 8 53 (v := ?_) rfl rfl (by kernel_rfl) (by kernel_rfl) (by kernel_rfl) (fun _ _ _ h => h) rfl ?_ trivial ?_
              rotate_left
              · intro w hSw
                go_simp
                try with_reducible rfl
              simp only [List.setIfInBounds_toArray, List.set_cons_zero, List.set_cons_succ]
              refine wpAnyH_ready (rs := [9]) (by kernel_rfl) (by simp) ?_
              refine AllReadyH.cons rfl (fun K hK => ?_) AllReadyH.nil
              have xs0 := HQ13.out.cells.2.1
              have xf0 := HQ13.out.frozen 1 (by decide)
              go_simp
              have HQ14 := Lib.hid (HQ13.out.set 1 (.slice ad13 nn13 cap13))
              refine hK.out _ _ trivial (fun _ => ?_)
              clear hK K xs0 xf0 HQ13
              refine wpAnyH_done (by kernel_rfl) ?_ _
              refine NoPanic.normal ?_
              have HQe : Hid (QK w (V13.setCell ⟨w.heap.size + 2, 1, none⟩ (.slice ad13 nn13 cap13)) (.slice ad3 a3.1.length cap3) (.slice ad13 nn13 cap13) (.slice none 0 0) (.slice ad3 a3.1.length cap3) (.slice ad13 nn13 cap13) (.slice none 0 0) a3.1 (xs ++ [x]) [] l p5.2.1 p5.2.2) := HQ14.out
              clear HQ14
              go_wp2
              exact ⟨⟨m - 1, _, _, _, _, _, _, by omega, by simp; omega, by go_num, HQe, HD2⟩, by simp [intOf]; omega⟩
        · have HE5 : Hid (a5 = (xs, r, true)) := by unfold Hid; rw [HD.out, dMany_true, List.append_nil]
          have qb0 := HQ.out.badCell
          clear HD
          obtain ⟨s, hs⟩ : ∃ s, s = true := ⟨_, rfl⟩
          rw [← hs] at HE5 HQ
          go_wp2_with fail
          clear qb0 hs
          have H5x : Hid (a5.1 = xs) := by unfold Hid; rw [HE5.out]
          have hlt6 := eN_lt4 r s
          have hn6 := eN4 (w.heap.size + 1) l r s wr HQ.out.er
          have H7x : Hid (a7 = dMany eRel (eN 4 r s).1 (eN 4 r s).2.1 (eN 4 r s).2.2) := by unfold Hid; rw [h7.out, HE5.out]
          obtain ⟨n6, hn6x⟩ : ∃ n6, n6 = (eN 4 r s).1 := ⟨_, rfl⟩
          rw [← hn6x] at hn6 hlt6 H7x
          generalize (eN 4 r s).2 = y6 at *
          clear hn6x
          go_wp2_with fail
          refine hn6.mono ?_
          rintro e w6 ⟨rfl, he6, hg6⟩
          have HQ6 := Lib.hid (HQ.out.read hg6 he6)
          clear he6 hg6 hn6 HQ HE5
          go_wp2
          go_loopw [8] (fun i wr => ∃ (m : Nat) (r : List UInt8) (s : Bool) (rs : List Re) (adR : Option Addr) (nR capR : Nat), m < 4294967296 ∧ rs.length + m ≤ 4294967296 ∧ i = .int .i64 m ∧ Hid (QK w wr (.slice ad3 a3.1.length cap3) (.slice adS nS capS) (.slice adR nR capR) (.slice ad3 a3.1.length cap3) (.slice adS nS capS) (.slice adR nR capR) a3.1 xs rs l r s) ∧ Hid (a7 = (rs ++ (dMany eRel m r s).1, (dMany eRel m r s).2))) (fun i _ => (intOf i).toNat)
          case atStart => exact ⟨n6, y6.1, y6.2, [], none, 0, 0, hlt6, by simp; omega, rfl, HQ6, by simpa using H7x⟩
          case round =>
            obtain ⟨m, r, s, rs, adR, nR, capR, hm, hml, rfl, HQ, HD⟩ := hrel
            clear HQ6 H7x
            by_cases hm0 : 0 < m
            · have hm1 : (0 : Int) < m := by omega
              cases s
              · have HD2 : Hid (a7 = ((rs ++ [(eRel r false).1]) ++ (dMany eRel (m - 1) (eRel r false).2.1 (eRel r false).2.2).1, (dMany eRel (m - 1) (eRel r false).2.1 (eRel r false).2.2).2)) := by
                  unfold Hid
                  rw [HD.out, dMany_pos _ hm0]
                  simp
                obtain ⟨p1, hp1⟩ : ∃ a, a = eN 4 r false := ⟨_, rfl⟩
                obtain ⟨p2, hp2⟩ : ∃ a, a = eN 1 p1.2.1 p1.2.2 := ⟨_, rfl⟩
                obtain ⟨p3, hp3⟩ : ∃ a, a = eN 1 p2.2.1 p2.2.2 := ⟨_, rfl⟩
                obtain ⟨p4, hp4⟩ : ∃ a, a = eT p3.1 p3.2.1 p3.2.2 := ⟨_, rfl⟩
                obtain ⟨p5, hp5⟩ : ∃ a, a = eN 4 p4.2.1 p4.2.2 := ⟨_, rfl⟩
                obtain ⟨x, hx⟩ : ∃ x : Re, x = ⟨p1.1, p2.1, p4.1, wrap32 p5.1⟩ := ⟨_, rfl⟩
                have hxx : eRel r false = (x, p5.2) := by
                  rw [hx, hp5, hp4, hp3, hp2, hp1]
                  rfl
                rw [hxx] at HD2
                simp only at HD2
                have H1 := eN4 (w.heap.size + 1) l r false wr HQ.out.er
                have H2 := Lib.hid (fun W he => eN1 (w.heap.size + 1) l p1.2.1 p1.2.2 W he)
                have H3 := Lib.hid (fun W he => eN1 (w.heap.size + 1) l p2.2.1 p2.2.2 W he)
                have hp3l : p3.1 < 256 := by rw [hp3]; exact eN_lt1 _ _
                have H4 : Hid (∀ W, ER W (w.heap.size + 1) l p3.2.1 p3.2.2 → Calls Try.prog 28 #[.pointer (some ⟨w.heap.size + 1, 0, none⟩), .int .i64 (p3.1 : Int)] W fun e w' => ∃ v, e = .returned v ∧ (convert 22 9 v).run Try.prog w' = .ok (.string ⟨x.name.toArray⟩) w' ∧ ER w' (w.heap.size + 1) l p4.2.1 p4.2.2 ∧ W.grownBy w' (some (w.heap.size + 1))) := fun W he => by
                  refine (eT_any (w.heap.size + 1) l p3.2.1 p3.2.2 p3.1 W he (by omega) hl).mono ?_
                  rintro e w' ⟨v, rfl, h1, h2, h3⟩
                  rw [← hp4] at h1 h2
                  refine ⟨v, rfl, ?_, h2, h3⟩
                  rw [hx]
                  exact oconv (h1.bytes (by rw [hp4]; unfold eT maxLen; split <;> simp; omega))
                have H5 : Hid (∀ W, ER W (w.heap.size + 1) l p4.2.1 p4.2.2 → Calls Try.prog 29 #[.pointer (some ⟨w.heap.size + 1, 0, none⟩), .int .i64 4] W fun e w' => e = .returned (.int .i64 (p5.1 : Int)) ∧ ER w' (w.heap.size + 1) l p5.2.1 p5.2.2 ∧ W.grownBy w' (some (w.heap.size + 1))) := fun W he => by
                  have := eN4 (w.heap.size + 1) l p4.2.1 p4.2.2 W he
                  rwa [← hp5] at this
                rw [← hp1] at H1
                rw [← hp2] at H2
                rw [← hp3] at H3
                have hX1 : x.pos = (p1.1 : Int) := by rw [hx]
                have hX2 : x.size = (p2.1 : Int) := by rw [hx]
                have hX4 : x.add = wrap32 p5.1 := by rw [hx]
                have HX := Lib.hid (And.intro hX1 (And.intro hX2 hX4))
                have qb := HQ.out.badCell
                clear hp1 hp2 hp3 hp4 hp5 hx hxx HD hX1 hX2 hX4
                go_wp2_with fail
                refine H1.mono ?_
                rintro e t1 ⟨rfl, he1, hg1⟩
                have HT1 := Lib.hid (HQ.out.read hg1 he1)
                clear he1 hg1 H1 HQ qb
                go_wp2_with fail
                refine (H2.out t1 HT1.out.er).mono ?_
                rintro e t2 ⟨rfl, he2, hg2⟩
                have HT2 := Lib.hid (HT1.out.read hg2 he2)
                clear he2 hg2 H2 HT1
                go_wp2_with fail
                refine (H3.out t2 HT2.out.er).mono ?_
                rintro e t3 ⟨rfl, he3, hg3⟩
                have HT3 := Lib.hid (HT2.out.read hg3 he3)
                clear he3 hg3 H3 HT2
                go_wp2_with fail
                refine (H4.out t3 HT3.out.er).mono ?_
                rintro e t4 ⟨vn, rfl, hcvn, he4, hg4⟩
                have HT4 := Lib.hid (HT3.out.read hg4 he4)
                clear he4 hg4 H4 HT3
                go_wp2_with fail
                clear hcvn
                rw [← HX.out.1, ← HX.out.2.1]
                refine wp_region_noPanic ?_
                refine wp_region_held_drew (S := fun _ => True) (by kernel_rfl) trivial (fun _ => ?_)
                have HQa := Lib.hid (HT4.out.grow (W' := t4.drew) (Below.refl _ _).drew)
                generalize t4.drew = V0 at *
                clear HT4
                refine take_at 0 76 (v := ?_) rfl rfl (by kernel_rfl) (by kernel_rfl) (by kernel_rfl) (fun _ _ _ h => h) rfl ?_ trivial ?_
                rotate_left
                · intro w hSw
                  go_simp
                  try with_reducible rfl
                simp only [List.setIfInBounds_toArray, List.set_cons_zero, List.set_cons_succ]
                refine take_at 2 78 (v := ?_) rfl rfl (by kernel_rfl) (by kernel_rfl) (by kernel_rfl) (fun _ _ _ h => h) rfl ?_ trivial ?_
                rotate_left
                · intro w hSw
                  go_simp
                  try with_reducible rfl
                simp only [List.setIfInBounds_toArray, List.set_cons_zero, List.set_cons_succ]
                refine take_at 3 79 (v := ?_) rfl rfl (by kernel_rfl) (by kernel_rfl) (by kernel_rfl) (fun _ _ _ h => h) rfl ?_ trivial ?_
                rotate_left
                · intro w hSw
                  go_simp
                  try with_reducible rfl
                simp only [List.setIfInBounds_toArray, List.set_cons_zero, List.set_cons_succ]
                refine take_at 4 80 (v := ?_) rfl rfl (by kernel_rfl) (by kernel_rfl) (by kernel_rfl) (fun _ _ _ h => h) rfl ?_ trivial ?_
                rotate_left
                · intro w hSw
                  go_simp
                  try with_reducible rfl
                simp only [List.setIfInBounds_toArray, List.set_cons_zero, List.set_cons_succ]
                refine take_at 5 81 (v := ?_) rfl rfl (by kernel_rfl) (by kernel_rfl) (by kernel_rfl) (fun _ _ _ h => h) rfl ?_ trivial ?_
                rotate_left
                · intro w hSw
                  go_simp
                  try with_reducible rfl
                simp only [List.setIfInBounds_toArray, List.set_cons_zero, List.set_cons_succ]
                refine wpAnyH_ready (rs := [1, 6]) (by kernel_rfl) (by simp) ?_
                refine AllReadyH.cons rfl (fun K hK => ?_) (AllReadyH.cons rfl (fun K hK => ?_) AllReadyH.nil)
                · have xl := HQa.out.cells.2.2
                  go_simp
                  refine hK.out _ _ trivial (fun _ => ?_)
                  clear hK K xl
                  refine wpAnyH_ready (rs := [6]) (by kernel_rfl) (by simp) ?_
                  refine AllReadyH.cons rfl (fun K hK => ?_) AllReadyH.nil
                  go_simp
                  refine (H5.out V0 HQa.out.er).mono ?_
                  rintro e V37 ⟨rfl, he, hg⟩
                  have HQ37 := Lib.hid (HQa.out.read hg he)
                  refine hK.out _ _ trivial (fun _ => ?_)
                  clear hK K he hg HQa
                  refine wpAnyH_ready (rs := [7]) (by kernel_rfl) (by simp) ?_
                  refine AllReadyH.cons rfl (fun K hK => ?_) AllReadyH.nil
                  go_simp
                  refine (rsigned_ob _ _).mono ?_
                  rintro e wsg ⟨rfl, hWs⟩
                  rw [hWs]
                  refine hK.out _ _ trivial (fun _ => ?_)
                  clear hK K hWs
                  refine take_at 8 84 (v := ?_) rfl rfl (by kernel_rfl) (by kernel_rfl) (by kernel_rfl) (fun _ _ _ h => h) rfl ?_ trivial ?_
                  rotate_left
                  · intro w hSw
                    go_simp
                    try with_reducible rfl
                  simp only [List.setIfInBounds_toArray, List.set_cons_zero, List.set_cons_succ]
                  refine wpAnyH_ready (rs := [9]) (by kernel_rfl) (by simp) ?_
                  refine AllReadyH.cons rfl (fun K hK => ?_) AllReadyH.nil
                  go_simp
                  generalize hWn : World.alloc V37 _ = V39
                  have HQ39 := Lib.hid (HQ37.out.grow (W' := V39) (by rw [← hWn]; exact oalloc _ _))
                  have HBN : Hid (V39.heap[V37.heap.size]? = some (.cells #[.int .i64 x.pos, .int .i64 x.size, .string ⟨x.name.toArray⟩, .int .i64 x.add] 41 (0, 0))) := by unfold Hid; rw [← hWn, HX.out.2.2]; exact heap_alloc_new V37 _
                  refine hK.out _ _ trivial (fun _ => ?_)
                  clear hK K hWn HQ37
                  refine wpAnyH_ready (rs := [10]) (by kernel_rfl) (by simp) ?_
                  refine AllReadyH.cons rfl (fun K hK => ?_) AllReadyH.nil
                  obtain ⟨y40, V40, happ, hqn, ad40, nn40, cap40, hsh⟩ := HQ39.out.appR x V37.heap.size HBN.out (by omega)
                  subst hsh
                  have HA := Lib.hid happ
                  have HQ40 := Lib.hid hqn
                  clear happ hqn HBN
                  refine step_app_eq (by rfl) 86 (by rfl) _ _ _ _ (by rfl) _ _ (by rfl) (by rfl) HA.out ?_
                  simp only [List.setIfInBounds_toArray, List.set_cons_zero, List.set_cons_succ]
                  refine hK.out _ _ trivial (fun _ => ?_)
                  clear hK K HA HQ39
                  refine take_at 11 87 (v := ?_) rfl rfl (by kernel_rfl) (by kernel_rfl) (by kernel_rfl) (fun _ _ _ h => h) rfl ?_ trivial ?_
                  rotate_left
                  · intro w hSw
                    go_simp
                    try with_reducible rfl
                  simp only [List.setIfInBounds_toArray, List.set_cons_zero, List.set_cons_succ]
                  refine wpAnyH_ready (rs := [12]) (by kernel_rfl) (by simp) ?_
                  refine AllReadyH.cons rfl (fun K hK => ?_) AllReadyH.nil
                  have xs0 := HQ40.out.cells.2.2
                  have xf0 := HQ40.out.frozen 2 (by decide)
                  go_simp
                  have HQ41 := Lib.hid (HQ40.out.set 2 (.slice ad40 nn40 cap40))
                  refine hK.out _ _ trivial (fun _ => ?_)
                  clear hK K xs0 xf0 HQ40
                  refine wpAnyH_done (by kernel_rfl) ?_ _
                  refine NoPanic.normal ?_
                  have HQe : Hid (QK w (V40.setCell ⟨w.heap.size + 2, 2, none⟩ (.slice ad40 nn40 cap40)) (.slice ad3 a3.1.length cap3) (.slice adS nS capS) (.slice ad40 nn40 cap40) (.slice ad3 a3.1.length cap3) (.slice adS nS capS) (.slice ad40 nn40 cap40) a3.1 xs (rs ++ [x]) l p5.2.1 p5.2.2) := HQ41.out
                  clear HQ41
                  go_wp2
                  exact ⟨⟨m - 1, _, _, _, _, _, _, by omega, by simp; omega, by go_num, HQe, HD2⟩, by simp [intOf]; omega⟩
                · go_simp
                  refine (H5.out V0 HQa.out.er).mono ?_
                  rintro e V42 ⟨rfl, he, hg⟩
                  have HQ42 := Lib.hid (HQa.out.read hg he)
                  refine hK.out _ _ trivial (fun _ => ?_)
                  clear hK K he hg HQa
                  refine wpAnyH_ready (rs := [1, 7]) (by kernel_rfl) (by simp) ?_
                  refine AllReadyH.cons rfl (fun K hK => ?_) (AllReadyH.cons rfl (fun K hK => ?_) AllReadyH.nil)
                  · have xl := HQ42.out.cells.2.2
                    go_simp
                    refine hK.out _ _ trivial (fun _ => ?_)
                    clear hK K xl
                    refine wpAnyH_ready (rs := [7]) (by kernel_rfl) (by simp) ?_
                    refine AllReadyH.cons rfl (fun K hK => ?_) AllReadyH.nil
                    go_simp
                    refine (rsigned_ob _ _).mono ?_
                    rintro e wsg ⟨rfl, hWs⟩
                    rw [hWs]
                    refine hK.out _ _ trivial (fun _ => ?_)
                    clear hK K hWs
                    refine take_at 8 84 (v := ?_) rfl rfl (by kernel_rfl) (by kernel_rfl) (by kernel_rfl) (fun _ _ _ h => h) rfl ?_ trivial ?_
                    rotate_left
                    · intro w hSw
                      go_simp
                      try with_reducible rfl
                    simp only [List.setIfInBounds_toArray, List.set_cons_zero, List.set_cons_succ]
                    refine wpAnyH_ready (rs := [9]) (by kernel_rfl) (by simp) ?_
                    refine AllReadyH.cons rfl (fun K hK => ?_) AllReadyH.nil
                    go_simp
                    generalize hWn : World.alloc V42 _ = V45
                    have HQ45 := Lib.hid (HQ42.out.grow (W' := V45) (by rw [← hWn]; exact oalloc _ _))
                    have HBN : Hid (V45.heap[V42.heap.size]? = some (.cells #[.int .i64 x.pos, .int .i64 x.size, .string ⟨x.name.toArray⟩, .int .i64 x.add] 41 (0, 0))) := by unfold Hid; rw [← hWn, HX.out.2.2]; exact heap_alloc_new V42 _
                    refine hK.out _ _ trivial (fun _ => ?_)
                    clear hK K hWn HQ42
                    refine wpAnyH_ready (rs := [10]) (by kernel_rfl) (by simp) ?_
                    refine AllReadyH.cons rfl (fun K hK => ?_) AllReadyH.nil
                    obtain ⟨y46, V46, happ, hqn, ad46, nn46, cap46, hsh⟩ := HQ45.out.appR x V42.heap.size HBN.out (by omega)
                    subst hsh
                    have HA := Lib.hid happ
                    have HQ46 := Lib.hid hqn
                    clear happ hqn HBN
                    refine step_app_eq (by rfl) 86 (by rfl) _ _ _ _ (by rfl) _ _ (by rfl) (by rfl) HA.out ?_
                    simp only [List.setIfInBounds_toArray, List.set_cons_zero, List.set_cons_succ]
                    refine hK.out _ _ trivial (fun _ => ?_)
                    clear hK K HA HQ45
                    refine take_at 11 87 (v := ?_) rfl rfl (by kernel_rfl) (by kernel_rfl) (by kernel_rfl) (fun _ _ _ h => h) rfl ?_ trivial ?_
                    rotate_left
                    · intro w hSw
                      go_simp
                      try with_reducible rfl
                    simp only [List.setIfInBounds_toArray, List.set_cons_zero, List.set_cons_succ]
                    refine wpAnyH_ready (rs := [12]) (by kernel_rfl) (by simp) ?_
                    refine AllReadyH.cons rfl (fun K hK => ?_) AllReadyH.nil
                    have xs0 := HQ46.out.cells.2.2
                    have xf0 := HQ46.out.frozen 2 (by decide)
                    go_simp
                    have HQ47 := Lib.hid (HQ46.out.set 2 (.slice ad46 nn46 cap46))
                    refine hK.out _ _ trivial (fun _ => ?_)
                    clear hK K xs0 xf0 HQ46
                    refine wpAnyH_done (by kernel_rfl) ?_ _
                    refine NoPanic.normal ?_
                    have HQe : Hid (QK w (V46.setCell ⟨w.heap.size + 2, 2, none⟩ (.slice ad46 nn46 cap46)) (.slice ad3 a3.1.length cap3) (.slice adS nS capS) (.slice ad46 nn46 cap46) (.slice ad3 a3.1.length cap3) (.slice adS nS capS) (.slice ad46 nn46 cap46) a3.1 xs (rs ++ [x]) l p5.2.1 p5.2.2) := HQ47.out
                    clear HQ47
                    go_wp2
                    exact ⟨⟨m - 1, _, _, _, _, _, _, by omega, by simp; omega, by go_num, HQe, HD2⟩, by simp [intOf]; omega⟩
                  · go_simp
                    refine (rsigned_ob _ _).mono ?_
                    rintro e wsg ⟨rfl, hWs⟩
                    rw [hWs]
                    refine hK.out _ _ trivial (fun _ => ?_)
                    clear hK K hWs
                    refine take_at 8 84 (v := ?_) rfl rfl (by kernel_rfl) (by kernel_rfl) (by kernel_rfl) (fun _ _ _ h => h) rfl ?_ trivial ?_
                    rotate_left
                    · intro w hSw
                      go_simp
                      try with_reducible rfl
                    simp only [List.setIfInBounds_toArray, List.set_cons_zero, List.set_cons_succ]
                    refine wpAnyH_ready (rs := [1, 9]) (by kernel_rfl) (by simp) ?_
                    refine AllReadyH.cons rfl (fun K hK => ?_) (AllReadyH.cons rfl (fun K hK => ?_) AllReadyH.nil)
                    · have xl := HQ42.out.cells.2.2
                      go_simp
                      refine hK.out _ _ trivial (fun _ => ?_)
                      clear hK K xl
                      refine wpAnyH_ready (rs := [9]) (by kernel_rfl) (by simp) ?_
                      refine AllReadyH.cons rfl (fun K hK => ?_) AllReadyH.nil
                      go_simp
                      generalize hWn : World.alloc V42 _ = V50
                      have HQ50 := Lib.hid (HQ42.out.grow (W' := V50) (by rw [← hWn]; exact oalloc _ _))
                      have HBN : Hid (V50.heap[V42.heap.size]? = some (.cells #[.int .i64 x.pos, .int .i64 x.size, .string ⟨x.name.toArray⟩, .int .i64 x.add] 41 (0, 0))) := by unfold Hid; rw [← hWn, HX.out.2.2]; exact heap_alloc_new V42 _
                      refine hK.out _ _ trivial (fun _ => ?_)
                      clear hK K hWn HQ42
                      refine wpAnyH_ready (rs := [10]) (by kernel_rfl) (by simp) ?_
                      refine AllReadyH.cons rfl (fun K hK => ?_) AllReadyH.nil
                      obtain ⟨y51, V51, happ, hqn, ad51, nn51, cap51, hsh⟩ := HQ50.out.appR x V42.heap.size HBN.out (by omega)
                      subst hsh
                      have HA := Lib.hid happ
                      have HQ51 := Lib.hid hqn
                      clear happ hqn HBN
                      refine step_app_eq (by rfl) 86 (by rfl) _ _ _ _ (by rfl) _ _ (by rfl) (by rfl) HA.out ?_
                      simp only [List.setIfInBounds_toArray, List.set_cons_zero, List.set_cons_succ]
                      refine hK.out _ _ trivial (fun _ => ?_)
                      clear hK K HA HQ50
                      refine take_at 11 87 (v := ?_) rfl rfl (by kernel_rfl) (by kernel_rfl) (by kernel_rfl) (fun _ _ _ h => h) rfl ?_ trivial ?_
                      rotate_left
                      · intro w hSw
                        go_simp
                        try with_reducible rfl
                      simp only [List.setIfInBounds_toArray, List.set_cons_zero, List.set_cons_succ]
                      refine wpAnyH_ready (rs := [12]) (by kernel_rfl) (by simp) ?_
                      refine AllReadyH.cons rfl (fun K hK => ?_) AllReadyH.nil
                      have xs0 := HQ51.out.cells.2.2
                      have xf0 := HQ51.out.frozen 2 (by decide)
                      go_simp
                      have HQ52 := Lib.hid (HQ51.out.set 2 (.slice ad51 nn51 cap51))
                      refine hK.out _ _ trivial (fun _ => ?_)
                      clear hK K xs0 xf0 HQ51
                      refine wpAnyH_done (by kernel_rfl) ?_ _
                      refine NoPanic.normal ?_
                      have HQe : Hid (QK w (V51.setCell ⟨w.heap.size + 2, 2, none⟩ (.slice ad51 nn51 cap51)) (.slice ad3 a3.1.length cap3) (.slice adS nS capS) (.slice ad51 nn51 cap51) (.slice ad3 a3.1.length cap3) (.slice adS nS capS) (.slice ad51 nn51 cap51) a3.1 xs (rs ++ [x]) l p5.2.1 p5.2.2) := HQ52.out
                      clear HQ52
                      go_wp2
                      exact ⟨⟨m - 1, _, _, _, _, _, _, by omega, by simp; omega, by go_num, HQe, HD2⟩, by simp [intOf]; omega⟩
                    · go_simp
                      generalize hWn : World.alloc V42 _ = V53
                      have HQ53 := Lib.hid (HQ42.out.grow (W' := V53) (by rw [← hWn]; exact oalloc _ _))
                      have HBN : Hid (V53.heap[V42.heap.size]? = some (.cells #[.int .i64 x.pos, .int .i64 x.size, .string ⟨x.name.toArray⟩, .int .i64 x.add] 41 (0, 0))) := by unfold Hid; rw [← hWn, HX.out.2.2]; exact heap_alloc_new V42 _
                      refine hK.out _ _ trivial (fun _ => ?_)
                      clear hK K hWn HQ42
                      refine wpAnyH_ready (rs := [1]) (by kernel_rfl) (by simp) ?_
                      refine AllReadyH.cons rfl (fun K hK => ?_) AllReadyH.nil
                      have xl := HQ53.out.cells.2.2
                      go_simp
                      refine hK.out _ _ trivial (fun _ => ?_)
                      clear hK K xl
                      refine wpAnyH_ready (rs := [10]) (by kernel_rfl) (by simp) ?_
                      refine AllReadyH.cons rfl (fun K hK => ?_) AllReadyH.nil
                      obtain ⟨y55, V55, happ, hqn, ad55, nn55, cap55, hsh⟩ := HQ53.out.appR x V42.heap.size HBN.out (by omega)
                      subst hsh
                      have HA := Lib.hid happ
                      have HQ55 := Lib.hid hqn
                      clear happ hqn HBN
                      refine step_app_eq (by rfl) 86 (by rfl) _ _ _ _ (by rfl) _ _ (by rfl) (by rfl) HA.out ?_
                      simp only [List.setIfInBounds_toArray, List.set_cons_zero, List.set_cons_succ]
                      refine hK.out _ _ trivial (fun _ => ?_)
                      clear hK K HA HQ53
                      refine take_at 11 87 (v := ?_) rfl rfl (by kernel_rfl) (by kernel_rfl) (by kernel_rfl) (fun _ _ _ h => h) rfl ?_ trivial ?_
                      rotate_left
                      · intro w hSw
                        go_simp
                        try with_reducible rfl
                      simp only [List.setIfInBounds_toArray, List.set_cons_zero, List.set_cons_succ]
                      refine wpAnyH_ready (rs := [12]) (by kernel_rfl) (by simp) ?_
                      refine AllReadyH.cons rfl (fun K hK => ?_) AllReadyH.nil
                      have xs0 := HQ55.out.cells.2.2
                      have xf0 := HQ55.out.frozen 2 (by decide)
                      go_simp
                      have HQ56 := Lib.hid (HQ55.out.set 2 (.slice ad55 nn55 cap55))
                      refine hK.out _ _ trivial (fun _ => ?_)
                      clear hK K xs0 xf0 HQ55
                      refine wpAnyH_done (by kernel_rfl) ?_ _
                      refine NoPanic.normal ?_
                      have HQe : Hid (QK w (V55.setCell ⟨w.heap.size + 2, 2, none⟩ (.slice ad55 nn55 cap55)) (.slice ad3 a3.1.length cap3) (.slice adS nS capS) (.slice ad55 nn55 cap55) (.slice ad3 a3.1.length cap3) (.slice adS nS capS) (.slice ad55 nn55 cap55) a3.1 xs (rs ++ [x]) l p5.2.1 p5.2.2) := HQ56.out
                      clear HQ56
                      go_wp2
                      exact ⟨⟨m - 1, _, _, _, _, _, _, by omega, by simp; omega, by go_num, HQe, HD2⟩, by simp [intOf]; omega⟩
              · have HE7 : Hid (a7 = (rs, r, true)) := by unfold Hid; rw [HD.out, dMany_true, List.append_nil]
                have qb0 := HQ.out.badCell
                clear HD
                have HE : Hid (parseO nameR l = .error 2) := by unfold Hid; rw [HP.out, if_pos (.inl (by rw [HE7.out]))]
                obtain ⟨n0, n1, n2, f0, f1, f2⟩ := HQ.out.nCells
                have qb := HQ.out.badCell
                have HB := Lib.hid HQ.out.bel
                clear HP HE7 HQ
                go_wp2
                exact bodyPost_ret (v := .tuple #[obZ, .int .i64 2]) (by simp [results, Try.results11, go_sem, n0, n1, n2, obZ, obV]) rfl
                  ⟨((HB.out.setCell (Nat.le_refl _) _).setCell (Nat.le_refl _) _).setCell (Nat.le_refl _) _, by rw [HE.out]⟩
            · have hm1 : ¬ (0 : Int) < m := by omega
              have hm2 : m = 0 := by omega
              subst hm2
              have HE7 : Hid (a7 = (rs, r, s)) := by unfold Hid; rw [HD.out, dMany, List.append_nil]
              clear HD hm0
              cases s with
              | true =>
                have HE : Hid (parseO nameR l = .error 2) := by unfold Hid; rw [HP.out, if_pos (.inl (by rw [HE7.out]))]
                obtain ⟨n0, n1, n2, f0, f1, f2⟩ := HQ.out.nCells
                have qb := HQ.out.badCell
                have HB := Lib.hid HQ.out.bel
                clear HP HE7 HQ
                go_wp2
                exact bodyPost_ret (v := .tuple #[obZ, .int .i64 2]) (by simp [results, Try.results11, go_sem, n0, n1, n2, obZ, obV]) rfl
                  ⟨((HB.out.setCell (Nat.le_refl _) _).setCell (Nat.le_refl _) _).setCell (Nat.le_refl _) _, by rw [HE.out]⟩
              | false =>
                obtain ⟨c, hrd, hrr⟩ := HQ.out.er
                have qb := hrd.c2
                have qc := hrd.c1
                have hcle := hrd.le
                clear hrd
                by_cases hcl : c < l.length
                · have hcl1 : (c : Int) < l.length := by omega
                  have HE : Hid (parseO nameR l = .error 2) := by
                    unfold Hid
                    rw [HP.out, if_pos (.inr (by
                      rw [HE7.out]
                      intro e
                      simp only at e
                      rw [hrr] at e
                      have := congrArg List.length e
                      simp at this
                      omega))]
                  obtain ⟨n0, n1, n2, f0, f1, f2⟩ := HQ.out.nCells
                  have HB := Lib.hid HQ.out.bel
                  clear HP HE7 HQ hrr
                  go_wp2
                  exact bodyPost_ret (v := .tuple #[obZ, .int .i64 2]) (by simp [results, Try.results11, go_sem, n0, n1, n2, obZ, obV]) rfl
                    ⟨((HB.out.setCell (Nat.le_refl _) _).setCell (Nat.le_refl _) _).setCell (Nat.le_refl _) _, by rw [HE.out]⟩
                · have hcl1 : ¬ (c : Int) < l.length := by omega
                  have hrn : r = [] := by rw [hrr]; exact List.drop_eq_nil_of_le (by omega)
                  have HE : Hid (parseO nameR l = if wrongO nameR ⟨a3.1, xs, rs⟩ = 0 then .ok ⟨a3.1, xs, rs⟩ else .error (wrongO nameR ⟨a3.1, xs, rs⟩)) := by
                    unfold Hid
                    rw [HP.out, if_neg (by rw [HE7.out]; simp [hrn]), HE7.out, H5x.out]
                  have hcall := rwrong_any ⟨a3.1, xs, rs⟩ _ _ _ wr (HQ.out.code.bytes hf3) (ownS_row HQ.out.syms) (ownR_row HQ.out.rels)
                  obtain ⟨x0, x1, x2⟩ := HQ.out.cells
                  clear HP HE7 hrr hrn
                  generalize wrongO nameR ⟨a3.1, xs, rs⟩ = er at *
                  have HC := Lib.hid hcall
                  clear hcall
                  go_wp2_with fail
                  refine HC.out.mono ?_
                  rintro e w8 ⟨rfl, hb8⟩
                  have HQ8 := Lib.hid (HQ.out.grow hb8)
                  clear hb8 HC x0 x1 x2 qb qc HQ
                  obtain ⟨n0, n1, n2, f0, f1, f2⟩ := HQ8.out.nCells
                  have HB := Lib.hid HQ8.out.bel
                  by_cases her : er = 0
                  · subst her
                    rw [if_pos rfl] at HE
                    obtain ⟨x0, x1, x2⟩ := HQ8.out.cells
                    have HFIN : Hid (∀ W, w8.heap.size ≤ W.heap.size → (∀ b, w.heap.size + 3 ≤ b → W.heap[b]? = w8.heap[b]?) → OBytes W (.slice ad3 a3.1.length cap3) a3.1 ∧ OSyms W (.slice adS nS capS) xs ∧ ORels W (.slice adR nR capR) rs) := fun W hs hk => by
                      exact ⟨(show Out W (w.heap.size + 3) _ _ from ⟨row_moved HQ8.out.code.1 hs hk, by have := HQ8.out.size; omega⟩).bytes hf3, ownS_row (row_moved HQ8.out.syms hs hk), ownR_row (row_moved HQ8.out.rels hs hk)⟩
                    clear HQ8
                    go_wp2
                    refine bodyPost_ret (v := .tuple #[obV (.slice ad3 a3.1.length cap3) (.slice adS nS capS) (.slice adR nR capR), .int .i64 0]) (by simp [results, Try.results11, go_sem, n0, n1, n2, obV]) rfl
                      ⟨((HB.out.setCell (Nat.le_refl _) _).setCell (Nat.le_refl _) _).setCell (Nat.le_refl _) _, ?_⟩
                    rw [HE.out]
                    exact ⟨_, _, _, rfl, HFIN.out _ (by simp) (fun b hb => by rw [Below.heap_setCell _ _ _ _ (by show b ≠ w.heap.size; omega), Below.heap_setCell _ _ _ _ (by show b ≠ w.heap.size; omega), Below.heap_setCell _ _ _ _ (by show b ≠ w.heap.size; omega)])⟩
                  · have her2 : (er != 0) = true := bne_iff_ne.2 her
                    rw [if_neg her] at HE
                    clear her HQ8
                    go_wp2
                    exact bodyPost_ret (v := .tuple #[obZ, .int .i64 er]) (by simp [results, Try.results11, go_sem, n0, n1, n2, obZ, obV]) rfl
                      ⟨((HB.out.setCell (Nat.le_refl _) _).setCell (Nat.le_refl _) _).setCell (Nat.le_refl _) _, by rw [HE.out]⟩
      · have hm1 : ¬ (0 : Int) < m := by omega
        have hm2 : m = 0 := by omega
        subst hm2
        have HE5 : Hid (a5 = (xs, r, s)) := by unfold Hid; rw [HD.out, dMany, List.append_nil]
        clear HD hm0
        have H5x : Hid (a5.1 = xs) := by unfold Hid; rw [HE5.out]
        have hlt6 := eN_lt4 r s
        have hn6 := eN4 (w.heap.size + 1) l r s wr HQ.out.er
        have H7x : Hid (a7 = dMany eRel (eN 4 r s).1 (eN 4 r s).2.1 (eN 4 r s).2.2) := by unfold Hid; rw [h7.out, HE5.out]
        obtain ⟨n6, hn6x⟩ : ∃ n6, n6 = (eN 4 r s).1 := ⟨_, rfl⟩
        rw [← hn6x] at hn6 hlt6 H7x
        generalize (eN 4 r s).2 = y6 at *
        clear hn6x
        go_wp2_with fail
        refine hn6.mono ?_
        rintro e w6 ⟨rfl, he6, hg6⟩
        have HQ6 := Lib.hid (HQ.out.read hg6 he6)
        clear he6 hg6 hn6 HQ HE5
        go_wp2
        go_loopw [8] (fun i wr => ∃ (m : Nat) (r : List UInt8) (s : Bool) (rs : List Re) (adR : Option Addr) (nR capR : Nat), m < 4294967296 ∧ rs.length + m ≤ 4294967296 ∧ i = .int .i64 m ∧ Hid (QK w wr (.slice ad3 a3.1.length cap3) (.slice adS nS capS) (.slice adR nR capR) (.slice ad3 a3.1.length cap3) (.slice adS nS capS) (.slice adR nR capR) a3.1 xs rs l r s) ∧ Hid (a7 = (rs ++ (dMany eRel m r s).1, (dMany eRel m r s).2))) (fun i _ => (intOf i).toNat)
        case atStart => exact ⟨n6, y6.1, y6.2, [], none, 0, 0, hlt6, by simp; omega, rfl, HQ6, by simpa using H7x⟩
        case round =>
          obtain ⟨m, r, s, rs, adR, nR, capR, hm, hml, rfl, HQ, HD⟩ := hrel
          clear HQ6 H7x
          by_cases hm0 : 0 < m
          · have hm1 : (0 : Int) < m := by omega
            cases s
            · have HD2 : Hid (a7 = ((rs ++ [(eRel r false).1]) ++ (dMany eRel (m - 1) (eRel r false).2.1 (eRel r false).2.2).1, (dMany eRel (m - 1) (eRel r false).2.1 (eRel r false).2.2).2)) := by
                unfold Hid
                rw [HD.out, dMany_pos _ hm0]
                simp
              obtain ⟨p1, hp1⟩ : ∃ a, a = eN 4 r false := ⟨_, rfl⟩
              obtain ⟨p2, hp2⟩ : ∃ a, a = eN 1 p1.2.1 p1.2.2 := ⟨_, rfl⟩
              obtain ⟨p3, hp3⟩ : ∃ a, a = eN 1 p2.2.1 p2.2.2 := ⟨_, rfl⟩
              obtain ⟨p4, hp4⟩ : ∃ a, a = eT p3.1 p3.2.1 p3.2.2 := ⟨_, rfl⟩
              obtain ⟨p5, hp5⟩ : ∃ a, a = eN 4 p4.2.1 p4.2.2 := ⟨_, rfl⟩
              obtain ⟨x, hx⟩ : ∃ x : Re, x = ⟨p1.1, p2.1, p4.1, wrap32 p5.1⟩ := ⟨_, rfl⟩
              have hxx : eRel r false = (x, p5.2) := by
                rw [hx, hp5, hp4, hp3, hp2, hp1]
                rfl
              rw [hxx] at HD2
              simp only at HD2
              have H1 := eN4 (w.heap.size + 1) l r false wr HQ.out.er
              have H2 := Lib.hid (fun W he => eN1 (w.heap.size + 1) l p1.2.1 p1.2.2 W he)
              have H3 := Lib.hid (fun W he => eN1 (w.heap.size + 1) l p2.2.1 p2.2.2 W he)
              have hp3l : p3.1 < 256 := by rw [hp3]; exact eN_lt1 _ _
              have H4 : Hid (∀ W, ER W (w.heap.size + 1) l p3.2.1 p3.2.2 → Calls Try.prog 28 #[.pointer (some ⟨w.heap.size + 1, 0, none⟩), .int .i64 (p3.1 : Int)] W fun e w' => ∃ v, e = .returned v ∧ (convert 22 9 v).run Try.prog w' = .ok (.string ⟨x.name.toArray⟩) w' ∧ ER w' (w.heap.size + 1) l p4.2.1 p4.2.2 ∧ W.grownBy w' (some (w.heap.size + 1))) := fun W he => by
                refine (eT_any (w.heap.size + 1) l p3.2.1 p3.2.2 p3.1 W he (by omega) hl).mono ?_
                rintro e w' ⟨v, rfl, h1, h2, h3⟩
                rw [← hp4] at h1 h2
                refine ⟨v, rfl, ?_, h2, h3⟩
                rw [hx]
                exact oconv (h1.bytes (by rw [hp4]; unfold eT maxLen; split <;> simp; omega))
              have H5 : Hid (∀ W, ER W (w.heap.size + 1) l p4.2.1 p4.2.2 → Calls Try.prog 29 #[.pointer (some ⟨w.heap.size + 1, 0, none⟩), .int .i64 4] W fun e w' => e = .returned (.int .i64 (p5.1 : Int)) ∧ ER w' (w.heap.size + 1) l p5.2.1 p5.2.2 ∧ W.grownBy w' (some (w.heap.size + 1))) := fun W he => by
                have := eN4 (w.heap.size + 1) l p4.2.1 p4.2.2 W he
                rwa [← hp5] at this
              rw [← hp1] at H1
              rw [← hp2] at H2
              rw [← hp3] at H3
              have hX1 : x.pos = (p1.1 : Int) := by rw [hx]
              have hX2 : x.size = (p2.1 : Int) := by rw [hx]
              have hX4 : x.add = wrap32 p5.1 := by rw [hx]
              have HX := Lib.hid (And.intro hX1 (And.intro hX2 hX4))
              have qb := HQ.out.badCell
              clear hp1 hp2 hp3 hp4 hp5 hx hxx HD hX1 hX2 hX4
              go_wp2_with fail
              refine H1.mono ?_
              rintro e t1 ⟨rfl, he1, hg1⟩
              have HT1 := Lib.hid (HQ.out.read hg1 he1)
              clear he1 hg1 H1 HQ qb
              go_wp2_with fail
              refine (H2.out t1 HT1.out.er).mono ?_
              rintro e t2 ⟨rfl, he2, hg2⟩
              have HT2 := Lib.hid (HT1.out.read hg2 he2)
              clear he2 hg2 H2 HT1
              go_wp2_with fail
              refine (H3.out t2 HT2.out.er).mono ?_
              rintro e t3 ⟨rfl, he3, hg3⟩
              have HT3 := Lib.hid (HT2.out.read hg3 he3)
              clear he3 hg3 H3 HT2
              go_wp2_with fail
              refine (H4.out t3 HT3.out.er).mono ?_
              rintro e t4 ⟨vn, rfl, hcvn, he4, hg4⟩
              have HT4 := Lib.hid (HT3.out.read hg4 he4)
              clear he4 hg4 H4 HT3
              go_wp2_with fail
              clear hcvn
              rw [← HX.out.1, ← HX.out.2.1]
              refine wp_region_noPanic ?_
              refine wp_region_held_drew (S := fun _ => True) (by kernel_rfl) trivial (fun _ => ?_)
              have HQa := Lib.hid (HT4.out.grow (W' := t4.drew) (Below.refl _ _).drew)
              generalize t4.drew = V0 at *
              clear HT4
              refine take_at 0 76 (v := ?_) rfl rfl (by kernel_rfl) (by kernel_rfl) (by kernel_rfl) (fun _ _ _ h => h) rfl ?_ trivial ?_
              rotate_left
              · intro w hSw
                go_simp
                try with_reducible rfl
              simp only [List.setIfInBounds_toArray, List.set_cons_zero, List.set_cons_succ]
              refine take_at 2 78 (v := ?_) rfl rfl (by kernel_rfl) (by kernel_rfl) (by kernel_rfl) (fun _ _ _ h => h) rfl ?_ trivial ?_
              rotate_left
              · intro w hSw
                go_simp
                try with_reducible rfl
              simp only [List.setIfInBounds_toArray, List.set_cons_zero, List.set_cons_succ]
              refine take_at 3 79 (v := ?_) rfl rfl (by kernel_rfl) (by kernel_rfl) (by kernel_rfl) (fun _ _ _ h => h) rfl ?_ trivial ?_
              rotate_left
              · intro w hSw
                go_simp
                try with_reducible rfl
              simp only [List.setIfInBounds_toArray, List.set_cons_zero, List.set_cons_succ]
              refine take_at 4 80 (v := ?_) rfl rfl (by kernel_rfl) (by kernel_rfl) (by kernel_rfl) (fun _ _ _ h => h) rfl ?_ trivial ?_
              rotate_left
              · intro w hSw
                go_simp
                try with_reducible rfl
              simp only [List.setIfInBounds_toArray, List.set_cons_zero, List.set_cons_succ]
              refine take_at 5 81 (v := ?_) rfl rfl (by kernel_rfl) (by kernel_rfl) (by kernel_rfl) (fun _ _ _ h => h) rfl ?_ trivial ?_
              rotate_left
              · intro w hSw
                go_simp
                try with_reducible rfl
              simp only [List.setIfInBounds_toArray, List.set_cons_zero, List.set_cons_succ]
              refine wpAnyH_ready (rs := [1, 6]) (by kernel_rfl) (by simp) ?_
              refine AllReadyH.cons rfl (fun K hK => ?_) (AllReadyH.cons rfl (fun K hK => ?_) AllReadyH.nil)
              · have xl := HQa.out.cells.2.2
                go_simp
                refine hK.out _ _ trivial (fun _ => ?_)
                clear hK K xl
                refine wpAnyH_ready (rs := [6]) (by kernel_rfl) (by simp) ?_
                refine AllReadyH.cons rfl (fun K hK => ?_) AllReadyH.nil
                go_simp
                refine (H5.out V0 HQa.out.er).mono ?_
                rintro e V16 ⟨rfl, he, hg⟩
                have HQ16 := Lib.hid (HQa.out.read hg he)
                refine hK.out _ _ trivial (fun _ => ?_)
                clear hK K he hg HQa
                refine wpAnyH_ready (rs := [7]) (by kernel_rfl) (by simp) ?_
                refine AllReadyH.cons rfl (fun K hK => ?_) AllReadyH.nil
                go_simp
                refine (rsigned_ob _ _).mono ?_
                rintro e wsg ⟨rfl, hWs⟩
                rw [hWs]
                refine hK.out _ _ trivial (fun _ => ?_)
                clear hK K hWs
                refine take_at 8 84 (v := ?_) rfl rfl (by kernel_rfl) (by kernel_rfl) (by kernel_rfl) (fun _ _ _ h => h) rfl ?_ trivial ?_
                rotate_left
                · intro w hSw
                  go_simp
                  try with_reducible rfl
                simp only [List.setIfInBounds_toArray, List.set_cons_zero, List.set_cons_succ]
                refine wpAnyH_ready (rs := [9]) (by kernel_rfl) (by simp) ?_
                refine AllReadyH.cons rfl (fun K hK => ?_) AllReadyH.nil
                go_simp
                generalize hWn : World.alloc V16 _ = V18
                have HQ18 := Lib.hid (HQ16.out.grow (W' := V18) (by rw [← hWn]; exact oalloc _ _))
                have HBN : Hid (V18.heap[V16.heap.size]? = some (.cells #[.int .i64 x.pos, .int .i64 x.size, .string ⟨x.name.toArray⟩, .int .i64 x.add] 41 (0, 0))) := by unfold Hid; rw [← hWn, HX.out.2.2]; exact heap_alloc_new V16 _
                refine hK.out _ _ trivial (fun _ => ?_)
                clear hK K hWn HQ16
                refine wpAnyH_ready (rs := [10]) (by kernel_rfl) (by simp) ?_
                refine AllReadyH.cons rfl (fun K hK => ?_) AllReadyH.nil
                obtain ⟨y19, V19, happ, hqn, ad19, nn19, cap19, hsh⟩ := HQ18.out.appR x V16.heap.size HBN.out (by omega)
                subst hsh
                have HA := Lib.hid happ
                have HQ19 := Lib.hid hqn
                clear happ hqn HBN
                refine step_app_eq (by rfl) 86 (by rfl) _ _ _ _ (by rfl) _ _ (by rfl) (by rfl) HA.out ?_
                simp only [List.setIfInBounds_toArray, List.set_cons_zero, List.set_cons_succ]
                refine hK.out _ _ trivial (fun _ => ?_)
                clear hK K HA HQ18
                refine take_at 11 87 (v := ?_) rfl rfl (by kernel_rfl) (by kernel_rfl) (by kernel_rfl) (fun _ _ _ h => h) rfl ?_ trivial ?_
                rotate_left
                · intro w hSw
                  go_simp
                  try with_reducible rfl
                simp only [List.setIfInBounds_toArray, List.set_cons_zero, List.set_cons_succ]
                refine wpAnyH_ready (rs := [12]) (by kernel_rfl) (by simp) ?_
                refine AllReadyH.cons rfl (fun K hK => ?_) AllReadyH.nil
                have xs0 := HQ19.out.cells.2.2
                have xf0 := HQ19.out.frozen 2 (by decide)
                go_simp
                have HQ20 := Lib.hid (HQ19.out.set 2 (.slice ad19 nn19 cap19))
                refine hK.out _ _ trivial (fun _ => ?_)
                clear hK K xs0 xf0 HQ19
                refine wpAnyH_done (by kernel_rfl) ?_ _
                refine NoPanic.normal ?_
                have HQe : Hid (QK w (V19.setCell ⟨w.heap.size + 2, 2, none⟩ (.slice ad19 nn19 cap19)) (.slice ad3 a3.1.length cap3) (.slice adS nS capS) (.slice ad19 nn19 cap19) (.slice ad3 a3.1.length cap3) (.slice adS nS capS) (.slice ad19 nn19 cap19) a3.1 xs (rs ++ [x]) l p5.2.1 p5.2.2) := HQ20.out
                clear HQ20
                go_wp2
                exact ⟨⟨m - 1, _, _, _, _, _, _, by omega, by simp; omega, by go_num, HQe, HD2⟩, by simp [intOf]; omega⟩
              · go_simp
                refine (H5.out V0 HQa.out.er).mono ?_
                rintro e V21 ⟨rfl, he, hg⟩
                have HQ21 := Lib.hid (HQa.out.read hg he)
                refine hK.out _ _ trivial (fun _ => ?_)
                clear hK K he hg HQa
                refine wpAnyH_ready (rs := [1, 7]) (by kernel_rfl) (by simp) ?_
                refine AllReadyH.cons rfl (fun K hK => ?_) (AllReadyH.cons rfl (fun K hK => ?_) AllReadyH.nil)
                · have xl := HQ21.out.cells.2.2
                  go_simp
                  refine hK.out _ _ trivial (fun _ => ?_)
                  clear hK K xl
                  refine wpAnyH_ready (rs := [7]) (by kernel_rfl) (by simp) ?_
                  refine AllReadyH.cons rfl (fun K hK => ?_) AllReadyH.nil
                  go_simp
                  refine (rsigned_ob _ _).mono ?_
                  rintro e wsg ⟨rfl, hWs⟩
                  rw [hWs]
                  refine hK.out _ _ trivial (fun _ => ?_)
                  clear hK K hWs
                  refine take_at 8 84 (v := ?_) rfl rfl (by kernel_rfl) (by kernel_rfl) (by kernel_rfl) (fun _ _ _ h => h) rfl ?_ trivial ?_
                  rotate_left
                  · intro w hSw
                    go_simp
                    try with_reducible rfl
                  simp only [List.setIfInBounds_toArray, List.set_cons_zero, List.set_cons_succ]
                  refine wpAnyH_ready (rs := [9]) (by kernel_rfl) (by simp) ?_
                  refine AllReadyH.cons rfl (fun K hK => ?_) AllReadyH.nil
                  go_simp
                  generalize hWn : World.alloc V21 _ = V24
                  have HQ24 := Lib.hid (HQ21.out.grow (W' := V24) (by rw [← hWn]; exact oalloc _ _))
                  have HBN : Hid (V24.heap[V21.heap.size]? = some (.cells #[.int .i64 x.pos, .int .i64 x.size, .string ⟨x.name.toArray⟩, .int .i64 x.add] 41 (0, 0))) := by unfold Hid; rw [← hWn, HX.out.2.2]; exact heap_alloc_new V21 _
                  refine hK.out _ _ trivial (fun _ => ?_)
                  clear hK K hWn HQ21
                  refine wpAnyH_ready (rs := [10]) (by kernel_rfl) (by simp) ?_
                  refine AllReadyH.cons rfl (fun K hK => ?_) AllReadyH.nil
                  obtain ⟨y25, V25, happ, hqn, ad25, nn25, cap25, hsh⟩ := HQ24.out.appR x V21.heap.size HBN.out (by omega)
                  subst hsh
                  have HA := Lib.hid happ
                  have HQ25 := Lib.hid hqn
                  clear happ hqn HBN
                  refine step_app_eq (by rfl) 86 (by rfl) _ _ _ _ (by rfl) _ _ (by rfl) (by rfl) HA.out ?_
                  simp only [List.setIfInBounds_toArray, List.set_cons_zero, List.set_cons_succ]
                  refine hK.out _ _ trivial (fun _ => ?_)
                  clear hK K HA HQ24
                  refine take_at 11 87 (v := ?_) rfl rfl (by kernel_rfl) (by kernel_rfl) (by kernel_rfl) (fun _ _ _ h => h) rfl ?_ trivial ?_
                  rotate_left
                  · intro w hSw
                    go_simp
                    try with_reducible rfl
                  simp only [List.setIfInBounds_toArray, List.set_cons_zero, List.set_cons_succ]
                  refine wpAnyH_ready (rs := [12]) (by kernel_rfl) (by simp) ?_
                  refine AllReadyH.cons rfl (fun K hK => ?_) AllReadyH.nil
                  have xs0 := HQ25.out.cells.2.2
                  have xf0 := HQ25.out.frozen 2 (by decide)
                  go_simp
                  have HQ26 := Lib.hid (HQ25.out.set 2 (.slice ad25 nn25 cap25))
                  refine hK.out _ _ trivial (fun _ => ?_)
                  clear hK K xs0 xf0 HQ25
                  refine wpAnyH_done (by kernel_rfl) ?_ _
                  refine NoPanic.normal ?_
                  have HQe : Hid (QK w (V25.setCell ⟨w.heap.size + 2, 2, none⟩ (.slice ad25 nn25 cap25)) (.slice ad3 a3.1.length cap3) (.slice adS nS capS) (.slice ad25 nn25 cap25) (.slice ad3 a3.1.length cap3) (.slice adS nS capS) (.slice ad25 nn25 cap25) a3.1 xs (rs ++ [x]) l p5.2.1 p5.2.2) := HQ26.out
                  clear HQ26
                  go_wp2
                  exact ⟨⟨m - 1, _, _, _, _, _, _, by omega, by simp; omega, by go_num, HQe, HD2⟩, by simp [intOf]; omega⟩
                · go_simp
                  refine (rsigned_ob _ _).mono ?_
                  rintro e wsg ⟨rfl, hWs⟩
                  rw [hWs]
                  refine hK.out _ _ trivial (fun _ => ?_)
                  clear hK K hWs
                  refine take_at 8 84 (v := ?_) rfl rfl (by kernel_rfl) (by kernel_rfl) (by kernel_rfl) (fun _ _ _ h => h) rfl ?_ trivial ?_
                  rotate_left
                  · intro w hSw
                    go_simp
                    try with_reducible rfl
                  simp only [List.setIfInBounds_toArray, List.set_cons_zero, List.set_cons_succ]
                  refine wpAnyH_ready (rs := [1, 9]) (by kernel_rfl) (by simp) ?_
                  refine AllReadyH.cons rfl (fun K hK => ?_) (AllReadyH.cons rfl (fun K hK => ?_) AllReadyH.nil)
                  · have xl := HQ21.out.cells.2.2
                    go_simp
                    refine hK.out _ _ trivial (fun _ => ?_)
                    clear hK K xl
                    refine wpAnyH_ready (rs := [9]) (by kernel_rfl) (by simp) ?_
                    refine AllReadyH.cons rfl (fun K hK => ?_) AllReadyH.nil
                    go_simp
                    generalize hWn : World.alloc V21 _ = V29
                    have HQ29 := Lib.hid (HQ21.out.grow (W' := V29) (by rw [← hWn]; exact oalloc _ _))
                    have HBN : Hid (V29.heap[V21.heap.size]? = some (.cells #[.int .i64 x.pos, .int .i64 x.size, .string ⟨x.name.toArray⟩, .int .i64 x.add] 41 (0, 0))) := by unfold Hid; rw [← hWn, HX.out.2.2]; exact heap_alloc_new V21 _
                    refine hK.out _ _ trivial (fun _ => ?_)
                    clear hK K hWn HQ21
                    refine wpAnyH_ready (rs := [10]) (by kernel_rfl) (by simp) ?_
                    refine AllReadyH.cons rfl (fun K hK => ?_) AllReadyH.nil
                    obtain ⟨y30, V30, happ, hqn, ad30, nn30, cap30, hsh⟩ := HQ29.out.appR x V21.heap.size HBN.out (by omega)
                    subst hsh
                    have HA := Lib.hid happ
                    have HQ30 := Lib.hid hqn
                    clear happ hqn HBN
                    refine step_app_eq (by rfl) 86 (by rfl) _ _ _ _ (by rfl) _ _ (by rfl) (by rfl) HA.out ?_
                    simp only [List.setIfInBounds_toArray, List.set_cons_zero, List.set_cons_succ]
                    refine hK.out _ _ trivial (fun _ => ?_)
                    clear hK K HA HQ29
                    refine take_at 11 87 (v := ?_) rfl rfl (by kernel_rfl) (by kernel_rfl) (by kernel_rfl) (fun _ _ _ h => h) rfl ?_ trivial ?_
                    rotate_left
                    · intro w hSw
                      go_simp
                      try with_reducible rfl
                    simp only [List.setIfInBounds_toArray, List.set_cons_zero, List.set_cons_succ]
                    refine wpAnyH_ready (rs := [12]) (by kernel_rfl) (by simp) ?_
                    refine AllReadyH.cons rfl (fun K hK => ?_) AllReadyH.nil
                    have xs0 := HQ30.out.cells.2.2
                    have xf0 := HQ30.out.frozen 2 (by decide)
                    go_simp
                    have HQ31 := Lib.hid (HQ30.out.set 2 (.slice ad30 nn30 cap30))
                    refine hK.out _ _ trivial (fun _ => ?_)
                    clear hK K xs0 xf0 HQ30
                    refine wpAnyH_done (by kernel_rfl) ?_ _
                    refine NoPanic.normal ?_
                    have HQe : Hid (QK w (V30.setCell ⟨w.heap.size + 2, 2, none⟩ (.slice ad30 nn30 cap30)) (.slice ad3 a3.1.length cap3) (.slice adS nS capS) (.slice ad30 nn30 cap30) (.slice ad3 a3.1.length cap3) (.slice adS nS capS) (.slice ad30 nn30 cap30) a3.1 xs (rs ++ [x]) l p5.2.1 p5.2.2) := HQ31.out
                    clear HQ31
                    go_wp2
                    exact ⟨⟨m - 1, _, _, _, _, _, _, by omega, by simp; omega, by go_num, HQe, HD2⟩, by simp [intOf]; omega⟩
                  · go_simp
                    generalize hWn : World.alloc V21 _ = V32
                    have HQ32 := Lib.hid (HQ21.out.grow (W' := V32) (by rw [← hWn]; exact oalloc _ _))
                    have HBN : Hid (V32.heap[V21.heap.size]? = some (.cells #[.int .i64 x.pos, .int .i64 x.size, .string ⟨x.name.toArray⟩, .int .i64 x.add] 41 (0, 0))) := by unfold Hid; rw [← hWn, HX.out.2.2]; exact heap_alloc_new V21 _
                    refine hK.out _ _ trivial (fun _ => ?_)
                    clear hK K hWn HQ21
                    refine wpAnyH_ready (rs := [1]) (by kernel_rfl) (by simp) ?_
                    refine AllReadyH.cons rfl (fun K hK => ?_) AllReadyH.nil
                    have xl := HQ32.out.cells.2.2
                    go_simp
                    refine hK.out _ _ trivial (fun _ => ?_)
                    clear hK K xl
                    refine wpAnyH_ready (rs := [10]) (by kernel_rfl) (by simp) ?_
                    refine AllReadyH.cons rfl (fun K hK => ?_) AllReadyH.nil
                    obtain ⟨y34, V34, happ, hqn, ad34, nn34, cap34, hsh⟩ := HQ32.out.appR x V21.heap.size HBN.out (by omega)
                    subst hsh
                    have HA := Lib.hid happ
                    have HQ34 := Lib.hid hqn
                    clear happ hqn HBN
                    refine step_app_eq (by rfl) 86 (by rfl) _ _ _ _ (by rfl) _ _ (by rfl) (by rfl) HA.out ?_
                    simp only [List.setIfInBounds_toArray, List.set_cons_zero, List.set_cons_succ]
                    refine hK.out _ _ trivial (fun _ => ?_)
                    clear hK K HA HQ32
                    refine take_at 11 87 (v := ?_) rfl rfl (by kernel_rfl) (by kernel_rfl) (by kernel_rfl) (fun _ _ _ h => h) rfl ?_ trivial ?_
                    rotate_left
                    · intro w hSw
                      go_simp
                      try with_reducible rfl
                    simp only [List.setIfInBounds_toArray, List.set_cons_zero, List.set_cons_succ]
                    refine wpAnyH_ready (rs := [12]) (by kernel_rfl) (by simp) ?_
                    refine AllReadyH.cons rfl (fun K hK => ?_) AllReadyH.nil
                    have xs0 := HQ34.out.cells.2.2
                    have xf0 := HQ34.out.frozen 2 (by decide)
                    go_simp
                    have HQ35 := Lib.hid (HQ34.out.set 2 (.slice ad34 nn34 cap34))
                    refine hK.out _ _ trivial (fun _ => ?_)
                    clear hK K xs0 xf0 HQ34
                    refine wpAnyH_done (by kernel_rfl) ?_ _
                    refine NoPanic.normal ?_
                    have HQe : Hid (QK w (V34.setCell ⟨w.heap.size + 2, 2, none⟩ (.slice ad34 nn34 cap34)) (.slice ad3 a3.1.length cap3) (.slice adS nS capS) (.slice ad34 nn34 cap34) (.slice ad3 a3.1.length cap3) (.slice adS nS capS) (.slice ad34 nn34 cap34) a3.1 xs (rs ++ [x]) l p5.2.1 p5.2.2) := HQ35.out
                    clear HQ35
                    go_wp2
                    exact ⟨⟨m - 1, _, _, _, _, _, _, by omega, by simp; omega, by go_num, HQe, HD2⟩, by simp [intOf]; omega⟩
            · have HE7 : Hid (a7 = (rs, r, true)) := by unfold Hid; rw [HD.out, dMany_true, List.append_nil]
              have qb0 := HQ.out.badCell
              clear HD
              have HE : Hid (parseO nameR l = .error 2) := by unfold Hid; rw [HP.out, if_pos (.inl (by rw [HE7.out]))]
              obtain ⟨n0, n1, n2, f0, f1, f2⟩ := HQ.out.nCells
              have qb := HQ.out.badCell
              have HB := Lib.hid HQ.out.bel
              clear HP HE7 HQ
              go_wp2
              exact bodyPost_ret (v := .tuple #[obZ, .int .i64 2]) (by simp [results, Try.results11, go_sem, n0, n1, n2, obZ, obV]) rfl
                ⟨((HB.out.setCell (Nat.le_refl _) _).setCell (Nat.le_refl _) _).setCell (Nat.le_refl _) _, by rw [HE.out]⟩
          · have hm1 : ¬ (0 : Int) < m := by omega
            have hm2 : m = 0 := by omega
            subst hm2
            have HE7 : Hid (a7 = (rs, r, s)) := by unfold Hid; rw [HD.out, dMany, List.append_nil]
            clear HD hm0
            cases s with
            | true =>
              have HE : Hid (parseO nameR l = .error 2) := by unfold Hid; rw [HP.out, if_pos (.inl (by rw [HE7.out]))]
              obtain ⟨n0, n1, n2, f0, f1, f2⟩ := HQ.out.nCells
              have qb := HQ.out.badCell
              have HB := Lib.hid HQ.out.bel
              clear HP HE7 HQ
              go_wp2
              exact bodyPost_ret (v := .tuple #[obZ, .int .i64 2]) (by simp [results, Try.results11, go_sem, n0, n1, n2, obZ, obV]) rfl
                ⟨((HB.out.setCell (Nat.le_refl _) _).setCell (Nat.le_refl _) _).setCell (Nat.le_refl _) _, by rw [HE.out]⟩
            | false =>
              obtain ⟨c, hrd, hrr⟩ := HQ.out.er
              have qb := hrd.c2
              have qc := hrd.c1
              have hcle := hrd.le
              clear hrd
              by_cases hcl : c < l.length
              · have hcl1 : (c : Int) < l.length := by omega
                have HE : Hid (parseO nameR l = .error 2) := by
                  unfold Hid
                  rw [HP.out, if_pos (.inr (by
                    rw [HE7.out]
                    intro e
                    simp only at e
                    rw [hrr] at e
                    have := congrArg List.length e
                    simp at this
                    omega))]
                obtain ⟨n0, n1, n2, f0, f1, f2⟩ := HQ.out.nCells
                have HB := Lib.hid HQ.out.bel
                clear HP HE7 HQ hrr
                go_wp2
                exact bodyPost_ret (v := .tuple #[obZ, .int .i64 2]) (by simp [results, Try.results11, go_sem, n0, n1, n2, obZ, obV]) rfl
                  ⟨((HB.out.setCell (Nat.le_refl _) _).setCell (Nat.le_refl _) _).setCell (Nat.le_refl _) _, by rw [HE.out]⟩
              · have hcl1 : ¬ (c : Int) < l.length := by omega
                have hrn : r = [] := by rw [hrr]; exact List.drop_eq_nil_of_le (by omega)
                have HE : Hid (parseO nameR l = if wrongO nameR ⟨a3.1, xs, rs⟩ = 0 then .ok ⟨a3.1, xs, rs⟩ else .error (wrongO nameR ⟨a3.1, xs, rs⟩)) := by
                  unfold Hid
                  rw [HP.out, if_neg (by rw [HE7.out]; simp [hrn]), HE7.out, H5x.out]
                have hcall := rwrong_any ⟨a3.1, xs, rs⟩ _ _ _ wr (HQ.out.code.bytes hf3) (ownS_row HQ.out.syms) (ownR_row HQ.out.rels)
                obtain ⟨x0, x1, x2⟩ := HQ.out.cells
                clear HP HE7 hrr hrn
                generalize wrongO nameR ⟨a3.1, xs, rs⟩ = er at *
                have HC := Lib.hid hcall
                clear hcall
                go_wp2_with fail
                refine HC.out.mono ?_
                rintro e w8 ⟨rfl, hb8⟩
                have HQ8 := Lib.hid (HQ.out.grow hb8)
                clear hb8 HC x0 x1 x2 qb qc HQ
                obtain ⟨n0, n1, n2, f0, f1, f2⟩ := HQ8.out.nCells
                have HB := Lib.hid HQ8.out.bel
                by_cases her : er = 0
                · subst her
                  rw [if_pos rfl] at HE
                  obtain ⟨x0, x1, x2⟩ := HQ8.out.cells
                  have HFIN : Hid (∀ W, w8.heap.size ≤ W.heap.size → (∀ b, w.heap.size + 3 ≤ b → W.heap[b]? = w8.heap[b]?) → OBytes W (.slice ad3 a3.1.length cap3) a3.1 ∧ OSyms W (.slice adS nS capS) xs ∧ ORels W (.slice adR nR capR) rs) := fun W hs hk => by
                    exact ⟨(show Out W (w.heap.size + 3) _ _ from ⟨row_moved HQ8.out.code.1 hs hk, by have := HQ8.out.size; omega⟩).bytes hf3, ownS_row (row_moved HQ8.out.syms hs hk), ownR_row (row_moved HQ8.out.rels hs hk)⟩
                  clear HQ8
                  go_wp2
                  refine bodyPost_ret (v := .tuple #[obV (.slice ad3 a3.1.length cap3) (.slice adS nS capS) (.slice adR nR capR), .int .i64 0]) (by simp [results, Try.results11, go_sem, n0, n1, n2, obV]) rfl
                    ⟨((HB.out.setCell (Nat.le_refl _) _).setCell (Nat.le_refl _) _).setCell (Nat.le_refl _) _, ?_⟩
                  rw [HE.out]
                  exact ⟨_, _, _, rfl, HFIN.out _ (by simp) (fun b hb => by rw [Below.heap_setCell _ _ _ _ (by show b ≠ w.heap.size; omega), Below.heap_setCell _ _ _ _ (by show b ≠ w.heap.size; omega), Below.heap_setCell _ _ _ _ (by show b ≠ w.heap.size; omega)])⟩
                · have her2 : (er != 0) = true := bne_iff_ne.2 her
                  rw [if_neg her] at HE
                  clear her HQ8
                  go_wp2
                  exact bodyPost_ret (v := .tuple #[obZ, .int .i64 er]) (by simp [results, Try.results11, go_sem, n0, n1, n2, obZ, obV]) rfl
                    ⟨((HB.out.setCell (Nat.le_refl _) _).setCell (Nat.le_refl _) _).setCell (Nat.le_refl _) _, by rw [HE.out]⟩
  · have hne : ((eT 3 l false).1 == [79, 66, 74]) = false := by simpa using hm
    have HP : Hid (parseO nameR l = .error 2) := by unfold Hid parseO; rw [HM.out, if_neg hm]
    obtain ⟨x0, x1, x2⟩ := HQ1.out.cells
    obtain ⟨n0, n1, n2, f0, f1, f2⟩ := HQ1.out.nCells
    have HB := Lib.hid HQ1.out.bel
    clear hm HM HQ1 hfew
    generalize eT 3 l false = a1 at *
    go_wp2
    exact bodyPost_ret (v := .tuple #[obZ, .int .i64 2]) (by simp [results, Try.results11, go_sem, n0, n1, n2, obZ, obV]) rfl
      ⟨((HB.out.setCell (Nat.le_refl _) _).setCell (Nat.le_refl _) _).setCell (Nat.le_refl _) _, by rw [HP.out]⟩

end Go.Proofs.Ytobdcnpifbnjaac
