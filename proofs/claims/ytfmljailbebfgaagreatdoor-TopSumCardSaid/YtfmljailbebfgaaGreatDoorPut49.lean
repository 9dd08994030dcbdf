import Derived.Test.YtfmljailbebfgaaGreatDoorPut48
set_option maxHeartbeats 4000000
set_option maxRecDepth 100000
namespace Go.Proofs.YtfmljailbebfgaaGreatDoor
open Go.RowKit
theorem qCp : regU 1 r0' = 0 := by kernel_rfl
theorem qD4 : regU 1 r1' = 1 := by kernel_rfl
theorem ok_iNop : iNop.Ok := ⟨by decide, by simp [iNop], by simp [iNop], by decide, find_nop, by decide, by kernel_rfl, by simp [labelled, Ins.toks, iNop, qBY, qA3]⟩
theorem qLx : qBt ⟨#[109, 111, 118]⟩ ⟨#[35, 114]⟩ 12 0 = 3 := by
 rw [qBS]
 kernel_rfl
theorem qKO : qBt ⟨#[97, 100, 100]⟩ ⟨#[35, 114]⟩ 12 0 = 4 := by
 rw [qBS]
 kernel_rfl
theorem find_dt : qBt ⟨#[100, 116]⟩ ⟨#[114]⟩ 12 0 = 16 := by
 rw [qBS]
 kernel_rfl
theorem find_tr : qBt ⟨#[116, 114, 97, 112, 97]⟩ ⟨#[35]⟩ 12 0 = 27 := by
 rw [qBS]
 kernel_rfl
theorem qF0 (n : Int) (r : List UInt8) : qAY ([OpK.num n, .reg r].map OpK.opd) = [35, 114] := by simp [qAY, OpK.opd]
theorem form_r (r : List UInt8) : qAY ([OpK.reg r].map OpK.opd) = [114] := by simp [qAY, OpK.opd]
theorem form_n (n : Int) : qAY ([OpK.num n].map OpK.opd) = [35] := by simp [qAY, OpK.opd]
theorem form_p (nm : List UInt8) : qAY ([OpK.name nm].map OpK.opd) = [112] := by simp [qAY, OpK.opd]
theorem qH8 (n : Int) (r : List UInt8) : (iMov n r).fill = ⟨3, regU 1 r, 0, wrap32 n⟩ := by
 simp [Ins.fill, iMov, OpK.opd, qW, ByteArray.toList_eq, kdN, kdP]
theorem qIm (n : Int) (r : List UInt8) : (iAdd n r).fill = ⟨4, regU 1 r, 0, wrap32 n⟩ := by
 simp [Ins.fill, iAdd, OpK.opd, qW, ByteArray.toList_eq, kdN, kdP]
theorem qLW (r : List UInt8) : (iDt r).fill = ⟨16, regU 1 r, 0, 0⟩ := by
 simp [Ins.fill, iDt, OpK.opd, qW, ByteArray.toList_eq, kdN, kdP]
theorem qKZ (n : Int) : (iTr n).fill = ⟨27, 0, 0, wrap32 n⟩ := by
 simp [Ins.fill, iTr, OpK.opd, qW, ByteArray.toList_eq, kdN]
theorem qLC (nm : List UInt8) : (iBf nm).fill = ⟨18, 0, 0, 0⟩ := by
 simp [Ins.fill, iBf, OpK.opd, qW, ByteArray.toList_eq, kdN, kdP]
theorem qHq (nm : List UInt8) (k : OpK) (r : List OpK) (op : Int) (h2 : ∀ n m, k.toks.head? = some ⟨3, n, m⟩ -> m.toList ≠ [58]) : labelled (Ins.toks ⟨nm, k :: r, op⟩) = false := by
 have e : ∃ x y, qBY (k :: r) = x :: y /\ k.toks.head? = some x := by
  cases hk : k.toks with
  | nil => exact absurd hk (qKl k)
  | cons x y =>
    cases r with
    | nil => exact ⟨x, y, by rw [qBY, hk], rfl⟩
    | cons b r => exact ⟨x, y ++ (qFn :: qBY (b :: r)), by rw [qBY, hk]; rfl, rfl⟩
 obtain ⟨⟨xk, xn, xt⟩, y, e1, e2⟩ := e
 unfold labelled Ins.toks
 rw [e1]
 simp only [qA3, wd, List.tail_cons]
 by_cases h3 : xk = 3
 ·subst h3
  have := h2 xn xt e2
  simp [this]
 ·simp [h3]
theorem qHU (nm : List UInt8) (n : Int) (r : List OpK) (op : Int) : labelled (Ins.toks ⟨nm, .num n :: r, op⟩) = false :=
 qHq nm (.num n) r op (by intro a m h; simp [OpK.toks, sg] at h; obtain ⟨rfl, rfl⟩ := h; simp [ByteArray.toList_eq])
theorem lab_reg (nm t : List UInt8) (r : List OpK) (op : Int) : labelled (Ins.toks ⟨nm, .reg t :: r, op⟩) = false :=
 qHq nm (.reg t) r op (by intro a m h; simp [OpK.toks, wd] at h)
theorem lab_name (nm t : List UInt8) (r : List OpK) (op : Int) : labelled (Ins.toks ⟨nm, .name t :: r, op⟩) = false :=
 qHq nm (.name t) r op (by intro a m h; simp [OpK.toks, wd] at h)
theorem qEc (n : Int) (r : List UInt8) (hr : 0 <= regU 1 r) (hw : Isa.qV 3 (regU 1 r) 0 (wrap32 n) = 0) : (iMov n r).Ok :=
 ⟨by show [109, 111, 118] ∉ dirs; decide, by intro k hk; simp [iMov] at hk; rcases hk with rfl | rfl; trivial; exact hr, by simp [iMov], by rw [iMov, qF0]; decide, by rw [iMov, qF0]; exact qLx, by show (3 : Int) ≠ 0; decide, by rw [qH8]; exact hw, qHU _ _ _ _⟩
theorem qMH (n : Int) (r : List UInt8) (hr : 0 <= regU 1 r) (hw : Isa.qV 4 (regU 1 r) 0 (wrap32 n) = 0) : (iAdd n r).Ok :=
 ⟨by show [97, 100, 100] ∉ dirs; decide, by intro k hk; simp [iAdd] at hk; rcases hk with rfl | rfl; trivial; exact hr, by simp [iAdd], by rw [iAdd, qF0]; decide, by rw [iAdd, qF0]; exact qKO, by show (4 : Int) ≠ 0; decide, by rw [qIm]; exact hw, qHU _ _ _ _⟩
theorem ok_iDt (r : List UInt8) (hr : 0 <= regU 1 r) (hw : Isa.qV 16 (regU 1 r) 0 0 = 0) : (iDt r).Ok :=
 ⟨by show [100, 116] ∉ dirs; decide, by intro k hk; simp [iDt] at hk; subst hk; exact hr, by simp [iDt], by rw [iDt, form_r]; decide, by rw [iDt, form_r]; exact find_dt, by show (16 : Int) ≠ 0; decide, by rw [qLW]; exact hw, lab_reg _ _ _ _⟩
theorem qEu (n : Int) (hw : Isa.qV 27 0 0 (wrap32 n) = 0) : (iTr n).Ok :=
 ⟨by show [116, 114, 97, 112, 97] ∉ dirs; decide, by intro k hk; simp [iTr] at hk; subst hk; trivial, by simp [iTr], by rw [iTr, form_n]; decide, by rw [iTr, form_n]; exact find_tr, by show (27 : Int) ≠ 0; decide, by rw [qKZ]; exact hw, qHU _ _ _ _⟩
theorem ok_iBf (nm : List UInt8) (h1 : Xp.qO nm = true) (h2 : regU 1 nm < 0) : (iBf nm).Ok :=
 ⟨by show [98, 102] ∉ dirs; decide, by intro k hk; simp [iBf] at hk; subst hk; exact ⟨h1, h2⟩, by simp [iBf], by rw [iBf, form_p]; decide, by rw [iBf, form_p]; exact find_bf, by show (18 : Int) ≠ 0; decide, by rw [qLC]; kernel_rfl, lab_name _ _ _ _⟩
theorem w_mov (t : Nat) (h1 : t <= 9) : Isa.qV 3 1 0 t = 0 := by
 have a : Isa.qAB (Isa.qF 3) = -128 := rfl
 have b : Isa.qX (Isa.qF 3) = 127 := rfl
 unfold Isa.qV
 rw [if_pos (by decide), a, b, if_pos ⟨by decide, by decide, by simp [Isa.qR]; omega⟩]
theorem qBy (t : Nat) (h : t <= 9) : wrap32 (t : Int) = t := by unfold wrap32; omega
theorem it_mov (n : Int) (r : List UInt8) (ln : Int) : (iMov n r).it ln = qAG ln 3 (regU 1 r) 0 (wrap32 n) := by
 show qAG ln (iMov n r).fill.op (iMov n r).fill.n (iMov n r).fill.m (iMov n r).fill.imm = _
 rw [qH8]
theorem it_add (n : Int) (r : List UInt8) (ln : Int) : (iAdd n r).it ln = qAG ln 4 (regU 1 r) 0 (wrap32 n) := by
 show qAG ln (iAdd n r).fill.op (iAdd n r).fill.n (iAdd n r).fill.m (iAdd n r).fill.imm = _
 rw [qIm]
theorem it_dt (r : List UInt8) (ln : Int) : (iDt r).it ln = qAG ln 16 (regU 1 r) 0 0 := by
 show qAG ln (iDt r).fill.op (iDt r).fill.n (iDt r).fill.m (iDt r).fill.imm = _
 rw [qLW]
theorem it_tr (n : Int) (ln : Int) : (iTr n).it ln = qAG ln 27 0 0 (wrap32 n) := by
 show qAG ln (iTr n).fill.op (iTr n).fill.n (iTr n).fill.m (iTr n).fill.imm = _
 rw [qKZ]
theorem it_bf (nm : List UInt8) (ln : Int) : (iBf nm).it ln = ledI ln 18 2 nm := by
 show qDd ln (iBf nm).fill.op (iBf nm).fill.n (iBf nm).fill.m (iBf nm).fill.imm (.val nm 0) = _
 rw [qLC]
 rfl
theorem ok_leapK (t b : Nat) (h1 : t <= 9) : ∀ a, a ∈ ksL t b -> a.2.Ok := by
 intro a ha
 simp only [ksL, List.mem_append, List.mem_cons, List.not_mem_nil, or_false, List.mem_replicate] at ha
 have hr0 : 0 <= regU 1 r0' := by rw [qCp]; decide
 have hr1 : 0 <= regU 1 r1' := by rw [qD4]; decide
 rcases ha with (rfl | rfl | rfl) | ⟨_, rfl⟩ | rfl | rfl | rfl | rfl
 ·exact ⟨qEc 0 r0' hr0 (by rw [qCp]; kernel_rfl), by simp⟩
 ·exact ⟨qEc t r1' hr1 (by rw [qD4, qBy t h1]; exact w_mov t h1), by simp⟩
 ·refine ⟨qMH 1 r0' hr0 (by rw [qCp]; kernel_rfl), fun nm h => ?_⟩
  obtain rfl : qz = nm := by simpa using h
  exact ⟨by decide, by unfold regU; decide, by decide⟩
 ·exact ⟨ok_iNop, by simp⟩
 ·exact ⟨ok_iDt r1' hr1 (by rw [qD4]; kernel_rfl), by simp⟩
 ·exact ⟨ok_iBf qz (by decide) (by unfold regU; decide), by simp⟩
 ·exact ⟨qEu 1 (by kernel_rfl), by simp⟩
 ·exact ⟨qEu 0 (by kernel_rfl), by simp⟩
def mov5L : List UInt8 := [109, 111, 118, 32, 35, 53, 44, 114, 48]
def qKw : List Sc.Tok := [⟨1, 0, [109, 111, 118]⟩, ⟨3, 0, [35]⟩, ⟨2, 5, []⟩, ⟨3, 0, [44]⟩, ⟨1, 0, [114, 48]⟩]
theorem ok_mov5 : OkL mov5L qKw := ⟨by kernel_rfl, by kernel_rfl, by simp [qKw], by decide, by decide⟩
def qK9 : List (List UInt8 × List Sc.Tok) := [(mov5L, qKw), (tr1L, tr1T), (tr0L, tr0T)]
def qHp : List UInt8 := qK9.flatMap fun a => a.1 ++ [10]
def qIZ : List Sc.Ln := qBv 1 (qK9.map (·.2))
theorem five_src : Sc.qAW qHp = .ok qIZ := src_of _ (by
 intro a ha
 simp only [qK9, List.mem_cons, List.not_mem_nil, or_false] at ha
 rcases ha with rfl | rfl | rfl
 ·exact ok_mov5
 ·exact ok_tr1
 ·exact ok_tr0) (by simp [qK9])
def qC8 : List (Int × Lk) := [(1, ⟨none, iMov 5 r0'⟩), (2, ⟨none, iTr 1⟩), (3, ⟨none, iTr 0⟩)]
def qFa : List In := [⟨3, 0, 0, 5⟩, ⟨27, 0, 0, 1⟩, ⟨27, 0, 0, 0⟩]
theorem five_its : itsG qC8 = [qAG 1 3 0 0 5, qAG 2 27 0 0 1, qAG 3 27 0 0 0] := by
 simp only [itsG, qC8, List.map_cons, List.map_nil, it_mov, it_tr, qCp]
 simp [wrap32]
end Go.Proofs.YtfmljailbebfgaaGreatDoor
namespace Go.Proofs.YtfmljailbebfgaaGreatDoor
open Go.RowKit Go.Maps Go.MapKept
theorem qJO (w W1 : World) (gu mb gp mi : Nat) (ks : List (Int × Lk)) (ob : Ob) (hA : qAL w) (h : qJm w W1 gu mb gp mi) (hn : ks.length <= 3000) (hok : ∀ a, a ∈ ks -> a.2.Ok) (hfree : ∀ k (hk : k < ks.length) nm, ks[k].2.lab = some nm -> qP nm (qBO 0 (ks.take k)) = none) (hfin : ∀ W, FinQ w W gu mb (qBO 0 ks) (fun _ => 0) (itsG ks) ob) : Makes w gu (ks.map fun a => (a.1, a.2.toks)) ob W1 := by
 have hge := h.ge
 refine ⟨⟨fun k W => ∃ ln, AlQ w W gu mb gp mi ln (qBO 0 (ks.take k)) (itsG (ks.take k)) none none, fun W => ∃ ln, AlQ w W gu mb gp mi ln (qBO 0 ks) (itsG ks) none none, fun W' => RdyQ w W' gu ob, ⟨0, AlQ.of h.al⟩, ?_, ?_, ?_, ?_, ?_⟩⟩
 ·rintro k W ⟨ln, hn⟩
  obtain ⟨nv, hu, _⟩ := hn.ur
  obtain ⟨_, _, x1, _⟩ := hu.its
  exact ⟨hn.bx, _, x1, ln, rfl⟩
 ·rintro k hk W v ⟨ln, hn'⟩ hv
  have hk' : k < ks.length := by simpa using hk
  simp only [List.getElem_map] at hv ⊢
  have hli : (itsG (ks.take k)).length = k := by simp [itsG]; omega
  have hll := qD9 (ks.take k) 0
  rw [List.length_take] at hll
  refine (qIc w _ gu mb gp mi v ks[k].1 (qBO 0 (ks.take k)) (itsG (ks.take k)) none none ks[k].2 (hok _ (List.getElem_mem _)) hA ⟨hge.1, hge.2.1⟩ h.ne (hn'.line hge.1 _ _) (by omega) (by omega) (hfree k hk') hv).mono ?_
  rintro r w' ⟨rfl, hr⟩
  refine ⟨rfl, ks[k].1, ?_⟩
  have e1 : qBO 0 (ks.take (k + 1)) = qBO 0 (ks.take k) ++ ks[k].2.labs (itsG (ks.take k)).length := by
   rw [List.take_succ_eq_append_getElem hk', qDN, hli, Nat.zero_add, List.length_take, Nat.min_eq_left (by omega)]
  have e2 : itsG (ks.take (k + 1)) = itsG (ks.take k) ++ [ks[k].2.ins.it ks[k].1] := by
   rw [List.take_succ_eq_append_getElem hk']
   simp only [itsG, List.map_append, List.map_cons, List.map_nil]
  rw [e1, e2]
  exact hr
 ·rintro W ⟨ln, hn'⟩
  rw [List.length_map, List.take_length] at hn'
  have hp := hn'.po
  obtain ⟨nv, hu, _⟩ := hn'.ur
  obtain ⟨_, _, x1, _⟩ := hu.its
  refine (qDj gu gp none 0 W (qB x1 rfl) (qB hp.1 rfl)).mono ?_
  rintro r w' ⟨rfl, rfl⟩
  exact ⟨rfl, ln, hn'⟩
 ·rintro W ⟨ln, hn'⟩
  exact qIC w W gu mb gp mi ln (qBO 0 ks) (fun _ => 0) (itsG ks) none none ob hA hge.1 hn' (hfin W)
 ·rintro W' hr
  exact qFB w W' gu ob hA hge.1 hr
theorem qLu (w W : World) (gu mb : Nat) : FinQ w W gu mb (qBO 0 qC8) (fun _ => 0) (itsG qC8) ⟨qB3 qFa, [], []⟩ := by
 have hlb : qBO 0 qC8 = [] := rfl
 rw [five_its, hlb]
 have pl : ∀ ln op n m imm, qGy [] (qAG ln op n m imm) /\ EndK W (fun _ => 0) 3 (qAG ln op n m imm) := fun ln op n m imm => ⟨trivial, ⟨by show (0 : Int) <= 2; decide, by show (2 : Int) <= 6; decide, by show (1 : Int) <= 1; decide, by show (1 : Int) <= 16; decide⟩, ⟨by show (1 : Int) <= 2; decide, by show (2 : Int) <= 16; decide⟩, by show (2 : Int) <= 4; decide, trivial⟩
 have hall : ∀ i, i ∈ [qAG 1 3 0 0 5, qAG 2 27 0 0 1, qAG 3 27 0 0 0] -> qGy [] i /\ EndK W (fun _ => 0) 3 i := by
  intro i hi
  simp only [List.mem_cons, List.not_mem_nil, or_false] at hi
  rcases hi with rfl | rfl | rfl <;> exact pl _ _ _ _ _
 exact ⟨fun i hi => (hall i hi).1, fun i hi => (hall i hi).2, by simp, by simp, by simp [qP], by simp, by simp, by decide +kernel, by kernel_rfl, by kernel_rfl, rfl, ⟨by decide +kernel, by simp⟩⟩
theorem qFA (v : Value) (w : World) (hA : qAL w) (hv : Sc.qCL w v qHp) :
  Calls Tryz.prog 25 #[v] w fun e w' => (∃ ca cl cc sa sl sc qa ql qc, e = .returned (.tuple #[.agg #[.slice ca cl cc, .slice sa sl sc, .slice qa ql qc], .agg #[.int .i64 0, .int .i64 0]]) /\ qBl w' (.slice ca cl cc) (.slice sa sl sc) (.slice qa ql qc) ⟨qB3 qFa, [], []⟩) /\ Below w.heap.size w w' := by
 refine qIA v qHp qIZ _ w hv five_src (by decide) ?_ hA.gl ?_
 ·intro x hx
  have hin : x = ⟨1, qKw⟩ \/ x = ⟨2, tr1T⟩ \/ x = ⟨3, tr0T⟩ := by simpa [qIZ, qK9, qBv] using hx
  rcases hin with rfl | rfl | rfl <;> exact ⟨by simp [qKw, tr1T, tr0T], ph_of _ _ (by decide)⟩
 ·intro u W hbw hl
  have hAW : qAL W := ⟨hA.isa.below hbw hA.isa.sz, hA.frm.below hbw hA.frm.sz, KL.below hA.ex hbw, hA.gl.below hbw hA.gl.sz⟩
  have e : qIZ.map lnOf = qC8.map fun a => (a.1, a.2.toks) := rfl
  rw [e] at hl
  refine qGN u _ _ W hl (by decide) (fun gu mb gp mi W1 h => qJO W W1 gu mb gp mi qC8 _ hAW h (by decide) ?_ (fun k hk nm hnm => ?_) (fun X => qLu W X gu mb))
  rotate_left
  ·have h3 : k = 0 \/ k = 1 \/ k = 2 := by simp [qC8] at hk; omega
   rcases h3 with rfl | rfl | rfl <;> rfl
  intro a ha
  have hr0 : 0 <= regU 1 r0' := by rw [qCp]; decide
  simp only [qC8, List.mem_cons, List.not_mem_nil, or_false] at ha
  rcases ha with rfl | rfl | rfl
  ·exact ⟨qEc 5 r0' hr0 (by rw [qCp]; kernel_rfl), by simp⟩
  ·exact ⟨qEu 1 (by kernel_rfl), by simp⟩
  ·exact ⟨qEu 0 (by kernel_rfl), by simp⟩
end Go.Proofs.YtfmljailbebfgaaGreatDoor
namespace Go.Proofs.YtfmljailbebfgaaGreatDoor
open Go.RowKit
def qKR (v : Value) (ob : Ob) (W : World) : Prop := Calls Tryz.prog 25 #[v] W fun e w' => (∃ ca cl cc sa sl sc qa ql qc, e = .returned (.tuple #[.agg #[.slice ca cl cc, .slice sa sl sc, .slice qa ql qc], .agg #[.int .i64 0, .int .i64 0]]) /\ qBl w' (.slice ca cl cc) (.slice sa sl sc) (.slice qa ql qc) ob) /\ Below W.heap.size W w'
theorem built_ok (va : Option Addr) (vl vc : Nat) (ob : Ob) (w : World) (hun : ∀ W, Below w.heap.size w W -> qKR (.slice va vl vc) ob W) (hwr : ∀ W c s q, qBl W c s q ob -> Calls Tryz.prog 26 #[.agg #[c, s, q]] W fun r w' => r = .returned (.int .i64 0) /\ Below W.heap.size W w') :
  Calls Tryz.prog 16 #[.slice va vl vc] w fun e w' => (∃ ca cl cc sa sl sc qa ql qc, e = .returned (.tuple #[.agg #[.slice ca cl cc, .slice sa sl sc, .slice qa ql qc], .int .i64 0]) /\ qBl w' (.slice ca cl cc) (.slice sa sl sc) (.slice qa ql qc) ob) /\ Below w.heap.size w w' := by
 have HUN := Lib.hid hun
 have HWR := Lib.hid hwr
 clear hun hwr
 go_enter Tryz.func16, Tryz.ntmps16
 go_wp2_with fail
 refine (HUN.out _ (qD _ _)).mono ?_
 rintro e w1 ⟨⟨ca, cl, cc, sa, sl, sc, qa, ql, qc, rfl, hob⟩, hb1⟩
 obtain ⟨hB1, hz1, xr⟩ := qd hb1
 have HB1 := Lib.hid hB1
 have HO1 := Lib.hid hob
 have XR := Lib.hid xr
 clear hb1 hB1 hob xr HUN
 go_wp2_with fail
 have hb2 : Below w1.heap.size w1 ((w1.alloc (.cells #[.slice ca cl cc, .slice sa sl sc, .slice qa ql qc] 51)).alloc (.cells #[.int .i64 0, .int .i64 0] 38)) := by go_grown
 have hO2 : qBl ((w1.alloc (.cells #[.slice ca cl cc, .slice sa sl sc, .slice qa ql qc] 51)).alloc (.cells #[.int .i64 0, .int .i64 0] 38)) (.slice ca cl cc) (.slice sa sl sc) (.slice qa ql qc) ob := ⟨HO1.out.1.below hb2 (Nat.le_refl _), HO1.out.2.1.below hb2 (Nat.le_refl _), HO1.out.2.2.below hb2 (Nat.le_refl _)⟩
 refine (HWR.out _ _ _ _ hO2).mono ?_
 rintro e w3 ⟨rfl, hb3⟩
 have hb13 : Below w1.heap.size w1 w3 := hb2.trans (hb3.mono hb2.size)
 have z0 := (hb13.block _ (qC XR.out)).trans XR.out
 have y0 : w3.heap[w1.heap.size]? = some (.cells #[.slice ca cl cc, .slice sa sl sc, .slice qa ql qc] 51 (0, 0)) := by
  rw [hb3.block _ (by go_size), old2 _ _ (by go_size)]
  exact qI _ _ rfl
 have k0 : w3.cell? ⟨w1.heap.size, 0, none⟩ = some (.slice ca cl cc) := qB y0 rfl
 have k1 : w3.cell? ⟨w1.heap.size, 1, none⟩ = some (.slice sa sl sc) := qB y0 rfl
 have k2 : w3.cell? ⟨w1.heap.size, 2, none⟩ = some (.slice qa ql qc) := qB y0 rfl
 have g0 : w3.cell? ⟨w.heap.size, 0, none⟩ = some (.slice none 0 0) := qB z0 rfl
 have g1 : w3.cell? ⟨w.heap.size, 1, none⟩ = some (.slice none 0 0) := qB z0 rfl
 have g2 : w3.cell? ⟨w.heap.size, 2, none⟩ = some (.slice none 0 0) := qB z0 rfl
 have q0 : w3.frozen? ⟨w.heap.size, 0, none⟩ = false := qE z0
 have q1 : w3.frozen? ⟨w.heap.size, 1, none⟩ = false := qE z0
 have q2 : w3.frozen? ⟨w.heap.size, 2, none⟩ = false := qE z0
 have hzz := qC z0
 have hzy := qC y0
 have Z0 := Lib.hid z0
 have HOB : Hid (qBl w3 (.slice ca cl cc) (.slice sa sl sc) (.slice qa ql qc) ob) := ⟨HO1.out.1.below hb13 (Nat.le_refl _), HO1.out.2.1.below hb13 (Nat.le_refl _), HO1.out.2.2.below hb13 (Nat.le_refl _)⟩
 have HB3 := Lib.hid (HB1.out.trans (hb13.mono HB1.out.size))
 clear hb2 hb3 hb13 hO2 z0 y0 HO1 HB1 XR HWR
 go_wp2_with fail
 have n3 : ∀ (x y z : Option Addr) (a b c d e f : Nat) (j : Nat) (n : Int), (#[Value.slice x a b, .slice y c d, .slice z e f] : Array Value)[j]? ≠ some (.int .u8 n) := by
  intro x y z a b c d e f j n h
  rcases j with _ | _ | _ | j <;> simp at h
 have m3 : ∀ (x y z : Option Addr) (a b c d e f : Nat) (j : Nat) (n : ByteArray), (#[Value.slice x a b, .slice y c d, .slice z e f] : Array Value)[j]? ≠ some (.string n) := by
  intro x y z a b c d e f j n h
  rcases j with _ | _ | _ | j <;> simp at h
 have o1 := HOB.out.set (i := 0) (v := .slice ca cl cc) Z0.out (m3 _ _ _ _ _ _ _ _ _) (n3 _ _ _ _ _ _ _ _ _)
 have z1 := qQ (i := 0) (v := .slice ca cl cc) Z0.out
 have o2 := o1.set (i := 1) (v := .slice sa sl sc) z1 (m3 _ _ _ _ _ _ _ _ _) (n3 _ _ _ _ _ _ _ _ _)
 have z2 := qQ (i := 1) (v := .slice sa sl sc) z1
 have o3 := o2.set (i := 2) (v := .slice qa ql qc) z2 (m3 _ _ _ _ _ _ _ _ _) (n3 _ _ _ _ _ _ _ _ _)
 exact bodyPost_ret (v := .tuple #[.agg #[.slice ca cl cc, .slice sa sl sc, .slice qa ql qc], .int .i64 0]) (by simp [results, Tryz.results16, go_sem, g0, g1, g2]) rfl ⟨⟨ca, cl, cc, sa, sl, sc, qa, ql, qc, rfl, o3⟩, ((HB3.out.setCell (Nat.le_refl _) _).setCell (Nat.le_refl _) _).setCell (Nat.le_refl _) _⟩
end Go.Proofs.YtfmljailbebfgaaGreatDoor
