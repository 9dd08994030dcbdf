import Derived.Test.YtgjmbjahgcndnaaGreatDoorPut28
import Derived.Test.YtgjmbjahgcndnaaGreatDoorPut13
import Derived.Handy
set_option maxHeartbeats 2000000
namespace Go.Proofs.YtgjmbjahgcndnaaGreatDoor
open Go.RowKit
theorem qS {w w1 : World} {cs : Array Value} {t : TypeId} (hb : Below (w.alloc (.cells cs t)).heap.size (w.alloc (.cells cs t)) w1) :
  Below w.heap.size w w1 /\ w.heap.size < w1.heap.size /\ w1.heap[w.heap.size]? = some (.cells cs t (0, 0)) := by
 refine ⟨Below.trans (qE w _) (hb.mono (by simp)), Nat.lt_of_lt_of_le (by simp) hb.size, ?_⟩
 rw [hb.block _ (by simp)]
 exact qH _ _ rfl
theorem qFS (g q : Nat) (b : Bool) (ev : Value) (u : Bool) (e : Int) (nm : ByteArray) (n : Int) (w : World) (h : PR w g q ⟨#[]⟩ b ev u e false ⟨#[]⟩ 0) :
  Calls Tryz.prog 255 #[.pointer (some ⟨g, 0, none⟩), .agg #[.string nm, .int .i64 n]] w fun r w' => r = .returned (.tuple #[]) /\ PR w' g q ⟨#[]⟩ true ev u e true nm n /\ F2 g q w w' := by
 have c0 : w.cell? ⟨g, 0, none⟩ = some (.string ⟨#[]⟩) := qB h.pt rfl
 have hq := qC h.pt
 have HW := Lib.hid (qAC ⟨#[]⟩ (.inl rfl))
 have HP := Lib.hid fun W (hb : Below w.heap.size w W) => qCI g q ⟨#[]⟩ (.inl rfl) b ev u e nm n W (h.go hb)
 clear h
 go_enter Tryz.func255, Tryz.ntmps255
 go_wp2_with (go_at_call 258; refine (HW.out _).mono ?_; rintro e w1 ⟨rfl, rfl⟩)
 refine wp_loop_rounds 1 ?_
 rw [rounds_succ]
 go_wp2_with (go_at_call 256; refine (HP.out _ (qE w _)).mono ?_; rintro e w2 ⟨rfl, hp2, hb2⟩)
 exact bodyPost_end (v := .tuple #[]) (by simp [results, Tryz.results255, go_sem]) rfl ⟨rfl, hp2, (F2.below (qE _ _)).trans hb2⟩
def xtok (k n : Int) (t : ByteArray) : Xp.Tok := ⟨k, n, t.data.toList⟩
theorem qHm (n : Int) (t : ByteArray) (w : World) : Calls Tryz.prog 253 #[tokV 2 n t] w fun r w' => r = .returned (.tuple #[.agg #[.int .i64 1, .int .i64 (wrap32 n), .string ⟨#[]⟩, .slice none 0 0], .int .i64 0]) /\ Below w.heap.size w w' := by
 have := Xp.qHl (xtok 2 n t) w
 simpa [xtok, tokV, Xp.qDu, Xp.qDy, Xp.exV, Xp.Ex.kind, Xp.Ex.n, Xp.Ex.name, Xp.sgn] using this
theorem qJl (n : Int) (t : ByteArray) (w : World) (h : Xp.qL t.data.toList = true) : Calls Tryz.prog 253 #[tokV 1 n t] w fun r w' => r = .returned (.tuple #[.agg #[.int .i64 2, .int .i64 0, .string t, .slice none 0 0], .int .i64 0]) /\ Below w.heap.size w w' := by
 have := Xp.qHl (xtok 1 n t) w
 simpa [xtok, tokV, Xp.qDu, Xp.qDy, Xp.exV, Xp.Ex.kind, Xp.Ex.n, Xp.Ex.name, Xp.sgn, h] using this
theorem makeV0 (w : World) : (Instr.makeSlice 182 (.int .i64 0) (.int .i64 0)).run Tryz.prog w = .ok (.slice (some ⟨w.heap.size, 0, none⟩) 0 0) (w.alloc (.cells #[] 201)) := by kernel_rfl
theorem qDH (n : Int) : wrap32 (wrap32 n) = wrap32 n := by unfold wrap32; omega
theorem qFp (k n : Int) (hk : k = 1 \/ k = 2) (nm : ByteArray) (w : World) (hL : Xp.qAT w) : Calls Tryz.prog 263 #[.agg #[.int .i64 k, .int .i64 n, .string nm, .slice none 0 0]] w fun e w' => e = .returned (.bool true) /\ Below w.heap.size w w' := by
 have := Xp.qJk k n nm.data.toList none 0 0 w hL
 rcases hk with rfl | rfl <;> simpa [Xp.qCF] using this
theorem qHY (n : Int) (w : World) (hL : Xp.qAT w) : Calls Tryz.prog 254 #[.agg #[.int .i64 1, .int .i64 n, .string ⟨#[]⟩, .slice none 0 0], .slice none 0 0] w fun r w' => r = .returned (.tuple #[.agg #[.string ⟨#[]⟩, .int .i64 (wrap32 n)], .int .i64 0]) /\ Below w.heap.size w w' := by
 have hm := makeV0
 have HW := Lib.hid fun W (hb : Below w.heap.size w W) => qFp 1 n (.inl rfl) ⟨#[]⟩ W (hL.below hb hL.sz)
 have HN := Lib.hid fun W => Xp.qAI n W
 go_enter Tryz.func254, Tryz.ntmps254
 go_wp2_with fail
 refine wp_loop_rounds 1 ?_
 rw [rounds_succ]
 go_wp2_with fail
 refine (HW.out _ (by go_grown)).mono ?_
 rintro e w1 ⟨rfl, hb1⟩
 have HB1 : Hid (Below w.heap.size w w1) := by
  refine Below.trans ?_ (hb1.mono (by simp; omega))
  go_grown
 have hz1 : w.heap.size + 3 <= w1.heap.size := Nat.le_trans (by simp) hb1.size
 have x0 : w1.cell? ⟨w.heap.size, 0, none⟩ = some (.int .i64 1) := by rw [hb1.cell (by simp; omega)]; simp [go_sem]
 have x1 : w1.cell? ⟨w.heap.size, 1, none⟩ = some (.int .i64 n) := by rw [hb1.cell (by simp; omega)]; simp [go_sem]
 have HR : Hid (w1.heap[w.heap.size + 1]? = some (.cells #[.string ⟨#[]⟩, .int .i64 0] 201 (0, 0))) := by
  unfold Hid
  rw [hb1.block _ (by simp), old2 _ _ (by simp)]
  exact qH _ _ (by simp)
 clear hb1 HW hm
 go_wp2_with (go_at_call 267; refine (HN.out _).mono ?_; rintro e w2 ⟨rfl, hb2⟩; obtain ⟨⟨y0, y1⟩, f0, f1⟩ := Xp.qo ((hb2.block _ (by omega)).trans HR.out); have HB2 := Lib.hid (HB1.out.trans (hb2.mono (by omega))); clear hb2)
 exact bodyPost_ret (v := .tuple #[.agg #[.string ⟨#[]⟩, .int .i64 (wrap32 n)], .int .i64 0]) (by simp [results, Tryz.results254, go_sem, y0, y1, Xp.sgn]) rfl ⟨rfl, Xp.bput2 HB2.out (Nat.le_succ _)⟩
theorem qKE (nm : ByteArray) (w : World) (hL : Xp.qAT w) : Calls Tryz.prog 254 #[.agg #[.int .i64 2, .int .i64 0, .string nm, .slice none 0 0], .slice none 0 0] w fun r w' => r = .returned (.tuple #[.agg #[.string nm, .int .i64 0], .int .i64 0]) /\ Below w.heap.size w w' := by
 have hm := makeV0
 have HW := Lib.hid fun W (hb : Below w.heap.size w W) => qFp 2 0 (.inr rfl) nm W (hL.below hb hL.sz)
 have HN : Hid (∀ W, Calls Tryz.prog 266 #[.string nm, .slice none 0 0] W fun e w' => e = .returned (.agg #[.string nm, .int .i64 0]) /\ Below W.heap.size W w') := fun W => by
  have := Xp.qJx nm.data.toList (.slice none 0 0) [] W (Xp.qDd.nil W)
  simpa [Xp.vaV, Xp.qEj, Xp.qGG] using this
 go_enter Tryz.func254, Tryz.ntmps254
 go_wp2_with fail
 refine wp_loop_rounds 1 ?_
 rw [rounds_succ]
 go_wp2_with fail
 refine (HW.out _ (by go_grown)).mono ?_
 rintro e w1 ⟨rfl, hb1⟩
 have HB1 : Hid (Below w.heap.size w w1) := by
  refine Below.trans ?_ (hb1.mono (by simp; omega))
  go_grown
 have hz1 : w.heap.size + 3 <= w1.heap.size := Nat.le_trans (by simp) hb1.size
 have x0 : w1.cell? ⟨w.heap.size, 0, none⟩ = some (.int .i64 2) := by rw [hb1.cell (by simp; omega)]; simp [go_sem]
 have x2 : w1.cell? ⟨w.heap.size, 2, none⟩ = some (.string nm) := by rw [hb1.cell (by simp; omega)]; simp [go_sem]
 have HR : Hid (w1.heap[w.heap.size + 1]? = some (.cells #[.string ⟨#[]⟩, .int .i64 0] 201 (0, 0))) := by
  unfold Hid
  rw [hb1.block _ (by simp), old2 _ _ (by simp)]
  exact qH _ _ (by simp)
 clear hb1 HW hm
 go_wp2_with (go_at_call 266; refine (HN.out _).mono ?_; rintro e w2 ⟨rfl, hb2⟩; obtain ⟨⟨y0, y1⟩, f0, f1⟩ := Xp.qo ((hb2.block _ (by omega)).trans HR.out); have HB2 := Lib.hid (HB1.out.trans (hb2.mono (by omega))); clear hb2)
 exact bodyPost_ret (v := .tuple #[.agg #[.string nm, .int .i64 0], .int .i64 0]) (by simp [results, Tryz.results254, go_sem, y0, y1]) rfl ⟨rfl, Xp.bput2 HB2.out (Nat.le_succ _)⟩
theorem fold_one (p : Value) (g : Nat) (s : Int) (w : World) : Calls Tryz.prog 259 #[p, .slice (some ⟨g, 0, none⟩) 1 1, .int .i64 s] w fun r w' => r = .returned (.slice (some ⟨g, 0, none⟩) 1 1) /\ w' = w := by
 go_enter Tryz.func259, Tryz.ntmps259
 go_wp2_with fail
 refine wp_loop_rounds 1 ?_
 rw [rounds_succ]
 go_wp2_with fail
 go_ret
 exact ⟨rfl, rfl⟩
theorem qK8 (p : Value) (b : Bool) (nm : ByteArray) (n : Int) (w : World) : Calls Tryz.prog 245 #[p, .agg #[.bool b, .string nm, .int .i64 n, .slice none 0 0, .int .i64 0]] w fun r w' => r = .returned (.agg #[.string nm, .int .i64 n]) /\ Below w.heap.size w w' := by
 go_enter Tryz.func245, Tryz.ntmps245
 go_wp2_with fail
 refine wp_loop_rounds 1 ?_
 rw [rounds_succ]
 go_wp2_with (go_at_call 259; refine (fold_one _ _ _ _).mono ?_; rintro e w2 ⟨rfl, rfl⟩)
 exact bodyPost_ret (v := .agg #[.string nm, .int .i64 n]) (by simp [results, Tryz.results245, go_sem]) rfl ⟨rfl, by go_grown⟩
theorem qDt (g q : Nat) (ev : Value) (nm : ByteArray) (n : Int) (e : Int) (w : World) (h : PR w g q ⟨#[]⟩ true ev false e true nm n) :
  Calls Tryz.prog 223 #[.pointer (some ⟨g, 0, none⟩)] w fun r w' => r = .returned (.tuple #[.agg #[.string nm, .int .i64 n], .int .i64 0]) /\ Below w.heap.size w w' := by
 have c0 : w.cell? ⟨g, 0, none⟩ = some (.string ⟨#[]⟩) := qB h.pt rfl
 have c1 : w.cell? ⟨g, 1, none⟩ = some (.bool true) := qB h.pt rfl
 have c4 : w.cell? ⟨g, 4, none⟩ = some (.slice (some ⟨q, 0, none⟩) 1 1) := qB h.pt rfl
 have c5 : w.cell? ⟨g, 5, none⟩ = some (.bool false) := qB h.pt rfl
 have d0 : w.cell? ⟨q, 0, none⟩ = some (.bool true) := qB h.ch rfl
 have d1 : w.cell? ⟨q, 1, none⟩ = some (.string nm) := qB h.ch rfl
 have d2 : w.cell? ⟨q, 2, none⟩ = some (.int .i64 n) := qB h.ch rfl
 have d3 : w.cell? ⟨q, 3, none⟩ = some (.slice none 0 0) := qB h.ch rfl
 have d4 : w.cell? ⟨q, 4, none⟩ = some (.int .i64 0) := qB h.ch rfl
 have hg := qC h.pt
 have hq := qC h.ch
 clear h
 go_enter Tryz.func223, Tryz.ntmps223
 go_wp2_with (go_at_call 245; refine (qK8 _ _ _ _ _).mono ?_; rintro e w1 ⟨rfl, hb1⟩; obtain ⟨hb2, hz1, xr⟩ := qS hb1; clear hb1; have x5 := (hb2.cell (by show g < w.heap.size; exact hg)).trans c5; have hg1 : g < w1.heap.size := Nat.lt_of_lt_of_le hg hb2.size; obtain ⟨⟨y0, y1⟩, f0, f1⟩ := Xp.qo xr; have HB2 := Lib.hid hb2; clear xr hb2)
 exact bodyPost_ret (v := .tuple #[.agg #[.string nm, .int .i64 n], .int .i64 0]) (by simp [results, Tryz.results223, go_sem, World.cell?_alloc_lt, hz1, y0, y1]) rfl ⟨rfl, (Xp.bput2 HB2.out (Nat.le_refl _)).alloc (by simp; omega) _⟩
theorem KL.below {w w' : World} (h : Xp.qAT w) (hb : Below w.heap.size w w') : Xp.qAT w' := h.below hb h.sz
theorem qE0 (g q : Nat) (u : Bool) (n : Int) (t : ByteArray) (w : World) (hL : Xp.qAT w) (h : PR w g q ⟨#[]⟩ false (.slice none 0 0) u 0 false ⟨#[]⟩ 0) :
  Calls Tryz.prog 241 #[.pointer (some ⟨g, 0, none⟩), tokV 2 n t] w fun r w' => r = .returned (.int .i64 0) /\ PR w' g q ⟨#[]⟩ true (.slice none 0 0) u 0 true ⟨#[]⟩ (wrap32 n) /\ F2 g q w w' := by
 have c2 : w.cell? ⟨g, 2, none⟩ = some (.slice none 0 0) := qB h.pt rfl
 have hg := qC h.pt
 have HK : Hid (∀ W, Below w.heap.size w W -> Calls Tryz.prog 249 #[tokV 2 n t, .int .i64 1] W fun e w' => e = .returned (.int .i64 0) /\ Below W.heap.size W w') := fun W hb => by
  have := Xp.qCW (xtok 2 n t) 1 W (KL.below hL hb)
  simpa [xtok, tokV, Xp.qGI, Xp.qf, Xp.qCm] using this
 have HS : Hid (∀ W, Calls Tryz.prog 251 #[tokV 2 n t, .string ⟨#[40]⟩] W fun e w' => e = .returned (.bool false) /\ Below W.heap.size W w') := fun W => by
  have := Xp.qCd (xtok 2 n t) ⟨#[40]⟩ W
  simpa [xtok, tokV, Xp.qCm] using this
 have HF := Lib.hid fun W => qHm n t W
 have HE := Lib.hid fun W (hb : Below w.heap.size w W) => qHY (wrap32 n) W (KL.below hL hb)
 have HP := Lib.hid fun W (hb : Below w.heap.size w W) => qFS g q false (.slice none 0 0) u 0 ⟨#[]⟩ (wrap32 n) W (h.go hb)
 have HO := Lib.hid h
 try simp only [qDH] at HE
 clear h hL
 unfold tokV at *
 go_enter Tryz.func241, Tryz.ntmps241
 go_wp2_with fail
 refine (HK.out _ (qE _ _)).mono ?_
 rintro e w1 ⟨rfl, hb1⟩
 obtain ⟨hb, hz1, xr⟩ := qS hb1
 clear hb1 HK
 have x0 : w1.cell? ⟨w.heap.size, 0, none⟩ = some (.int .i64 2) := qB xr rfl
 have x1 : w1.cell? ⟨w.heap.size, 1, none⟩ = some (.int .i64 n) := qB xr rfl
 have x2 : w1.cell? ⟨w.heap.size, 2, none⟩ = some (.string t) := qB xr rfl
 have HB := Lib.hid hb
 clear hb xr
 go_wp2_with fail
 refine (HS.out _).mono ?_
 rintro e w2 ⟨rfl, hb2⟩
 replace x0 := (hb2.cell (by show w.heap.size < w1.heap.size; omega)).trans x0
 replace x1 := (hb2.cell (by show w.heap.size < w1.heap.size; omega)).trans x1
 replace x2 := (hb2.cell (by show w.heap.size < w1.heap.size; omega)).trans x2
 replace HB := Lib.hid (HB.out.trans (hb2.mono (by omega)))
 have hz2 := Nat.lt_of_lt_of_le hz1 hb2.size
 clear hb2 hz1
 go_wp2_with fail
 refine (HF.out _).mono ?_
 rintro e w3 ⟨rfl, hb3⟩
 replace HB := Lib.hid (HB.out.trans (hb3.mono (by omega)))
 have hz3 := Nat.lt_of_lt_of_le hz2 hb3.size
 have y2 := (HB.out.cell (by show g < w.heap.size; exact hg)).trans c2
 have hg3 : g < w3.heap.size := by omega
 clear hb3 hz2 x0 x1 x2
 go_wp2_with fail
 go_region_with (go_at_call 254; refine (HE.out _ (HB.out.trans (Below.drew (by go_grown)))).mono ?_; rintro e w4 ⟨rfl, hb4⟩; have HB4 : Hid (Below w.heap.size w w4) := (by refine Below.trans ?_ (hb4.mono (by go_size)); have hb := HB.out; go_grown); have hz4 : w3.heap.size < w4.heap.size := Nat.lt_of_lt_of_le (by go_size) hb4.size; first | (have zr : w4.heap[w3.heap.size + 1]? = some (.cells #[.string ⟨#[]⟩, .int .i64 0] 201 (0, 0)) := (hb4.block _ (by simp)).trans (qH _ _ (by simp)); obtain ⟨⟨z0, z1⟩, f0, f1⟩ := Xp.qo zr; have hz4 := qC zr; clear zr hb4) | clear hb4)
 all_goals
  go_wp2_with (go_at_call 255; refine (HP.out _ (by have hb := HB4.out; go_grown)).mono ?_; rintro e w5 ⟨rfl, hp5, hb5⟩)
  go_returns
  refine ⟨rfl, hp5, F2.trans (F2.below ?_) hb5⟩
  have hb := HB4.out
  go_grown
theorem qKp (g q : Nat) (u : Bool) (n : Int) (t : ByteArray) (hn : Xp.qL t.data.toList = true) (w : World) (hL : Xp.qAT w) (h : PR w g q ⟨#[]⟩ false (.slice none 0 0) u 0 false ⟨#[]⟩ 0) :
  Calls Tryz.prog 241 #[.pointer (some ⟨g, 0, none⟩), tokV 1 n t] w fun r w' => r = .returned (.int .i64 0) /\ PR w' g q ⟨#[]⟩ true (.slice none 0 0) u 0 true t 0 /\ F2 g q w w' := by
 have c2 : w.cell? ⟨g, 2, none⟩ = some (.slice none 0 0) := qB h.pt rfl
 have hg := qC h.pt
 have HK : Hid (∀ W, Below w.heap.size w W -> Calls Tryz.prog 249 #[tokV 1 n t, .int .i64 1] W fun e w' => e = .returned (.int .i64 0) /\ Below W.heap.size W w') := fun W hb => by
  have := Xp.qCW (xtok 1 n t) 1 W (KL.below hL hb)
  simpa [xtok, tokV, Xp.qGI, Xp.qf, Xp.qCm] using this
 have HS : Hid (∀ W, Calls Tryz.prog 251 #[tokV 1 n t, .string ⟨#[40]⟩] W fun e w' => e = .returned (.bool false) /\ Below W.heap.size W w') := fun W => by
  have := Xp.qCd (xtok 1 n t) ⟨#[40]⟩ W
  simpa [xtok, tokV, Xp.qCm] using this
 have HF := Lib.hid fun W => qJl n t W hn
 have HE := Lib.hid fun W (hb : Below w.heap.size w W) => qKE t W (KL.below hL hb)
 have HP := Lib.hid fun W (hb : Below w.heap.size w W) => qFS g q false (.slice none 0 0) u 0 t 0 W (h.go hb)
 have HO := Lib.hid h
 try simp only [qDH] at HE
 clear h hL
 unfold tokV at *
 go_enter Tryz.func241, Tryz.ntmps241
 go_wp2_with fail
 refine (HK.out _ (qE _ _)).mono ?_
 rintro e w1 ⟨rfl, hb1⟩
 obtain ⟨hb, hz1, xr⟩ := qS hb1
 clear hb1 HK
 have x0 : w1.cell? ⟨w.heap.size, 0, none⟩ = some (.int .i64 1) := qB xr rfl
 have x1 : w1.cell? ⟨w.heap.size, 1, none⟩ = some (.int .i64 n) := qB xr rfl
 have x2 : w1.cell? ⟨w.heap.size, 2, none⟩ = some (.string t) := qB xr rfl
 have HB := Lib.hid hb
 clear hb xr
 go_wp2_with fail
 refine (HS.out _).mono ?_
 rintro e w2 ⟨rfl, hb2⟩
 replace x0 := (hb2.cell (by show w.heap.size < w1.heap.size; omega)).trans x0
 replace x1 := (hb2.cell (by show w.heap.size < w1.heap.size; omega)).trans x1
 replace x2 := (hb2.cell (by show w.heap.size < w1.heap.size; omega)).trans x2
 replace HB := Lib.hid (HB.out.trans (hb2.mono (by omega)))
 have hz2 := Nat.lt_of_lt_of_le hz1 hb2.size
 clear hb2 hz1
 go_wp2_with fail
 refine (HF.out _).mono ?_
 rintro e w3 ⟨rfl, hb3⟩
 replace HB := Lib.hid (HB.out.trans (hb3.mono (by omega)))
 have hz3 := Nat.lt_of_lt_of_le hz2 hb3.size
 have y2 := (HB.out.cell (by show g < w.heap.size; exact hg)).trans c2
 have hg3 : g < w3.heap.size := by omega
 clear hb3 hz2 x0 x1 x2
 go_wp2_with fail
 go_region_with (go_at_call 254; refine (HE.out _ (HB.out.trans (Below.drew (by go_grown)))).mono ?_; rintro e w4 ⟨rfl, hb4⟩; have HB4 : Hid (Below w.heap.size w w4) := (by refine Below.trans ?_ (hb4.mono (by go_size)); have hb := HB.out; go_grown); have hz4 : w3.heap.size < w4.heap.size := Nat.lt_of_lt_of_le (by go_size) hb4.size; first | (have zr : w4.heap[w3.heap.size + 1]? = some (.cells #[.string ⟨#[]⟩, .int .i64 0] 201 (0, 0)) := (hb4.block _ (by simp)).trans (qH _ _ (by simp)); obtain ⟨⟨z0, z1⟩, f0, f1⟩ := Xp.qo zr; have hz4 := qC zr; clear zr hb4) | clear hb4)
 all_goals
  go_wp2_with (go_at_call 255; refine (HP.out _ (by have hb := HB4.out; go_grown)).mono ?_; rintro e w5 ⟨rfl, hp5, hb5⟩)
  go_returns
  refine ⟨rfl, hp5, F2.trans (F2.below ?_) hb5⟩
  have hb := HB4.out
  go_grown
end Go.Proofs.YtgjmbjahgcndnaaGreatDoor
