/- asm: the units of TopLeap's source, and of what pltop asks ahead of all else. asm: what is asked at the end of lines where nothing leads near; lines of instructions alone; what pltop asks first, so read. asm: lines of instructions, one of which asks for a name's place; the pool behind them all. The sources of TopMacro, and their lines. farm: the object of a source. asm: a line of parts some of which are inner texts: labels, reading. asm: lines built, whatever each of them reads as, and makes. asm: the unit of a source, whatever its lines come to, and make. -/
import Derived.Test.YtgjmbjahgcndnaaGreatDoorPut41
import Derived.Test.YtgjmbjahgcndnaaGreatDoorPut39
import Derived.Test.YtgjmbjahgcndnaaGreatDoorPut34
import Derived.Test.YtgjmbjahgcndnaaGreatDoorPut37
namespace Go.Proofs.YtgjmbjahgcndnaaGreatDoor
open Go.RowKit

theorem ok_leapK (t b : Nat) (h1 : t ≤ 9) : ∀ a, a ∈ ksL t b → a.2.Ok := by
  intro a ha
  simp only [ksL, List.mem_append, List.mem_cons, List.not_mem_nil, or_false, List.mem_replicate] at ha
  have hr0 : 0 ≤ regU 1 r0' := by rw [reg_r0]; decide
  have hr1 : 0 ≤ regU 1 r1' := by rw [reg_r1]; decide
  rcases ha with (rfl | rfl | rfl) | ⟨_, rfl⟩ | rfl | rfl | rfl | rfl
  · exact ⟨ok_iMov 0 r0' hr0 (by rw [reg_r0]; kernel_rfl), by simp⟩
  · exact ⟨ok_iMov t r1' hr1 (by rw [reg_r1, wrap_small t h1]; exact w_mov t h1), by simp⟩
  · refine ⟨ok_iAdd 1 r0' hr0 (by rw [reg_r0]; kernel_rfl), fun nm h => ?_⟩
    obtain rfl : nmAgain = nm := by simpa using h
    exact ⟨by decide, by unfold regU; decide, by decide⟩
  · exact ⟨ok_iNop, by simp⟩
  · exact ⟨ok_iDt r1' hr1 (by rw [reg_r1]; kernel_rfl), by simp⟩
  · exact ⟨ok_iBf nmAgain (by decide) (by unfold regU; decide), by simp⟩
  · exact ⟨ok_iTr 1 (by kernel_rfl), by simp⟩
  · exact ⟨ok_iTr 0 (by kernel_rfl), by simp⟩

/-! What pltop asks first. -/
def mov5L : List UInt8 := [109, 111, 118, 32, 35, 53, 44, 114, 48]
def mov5T : List Sc.Tok := [⟨1, 0, [109, 111, 118]⟩, ⟨3, 0, [35]⟩, ⟨2, 5, []⟩, ⟨3, 0, [44]⟩, ⟨1, 0, [114, 48]⟩]
theorem ok_mov5 : OkL mov5L mov5T := ⟨by kernel_rfl, by kernel_rfl, by simp [mov5T], by decide, by decide⟩
def fiveL : List (List UInt8 × List Sc.Tok) := [(mov5L, mov5T), (tr1L, tr1T), (tr0L, tr0T)]
def fiveS : List UInt8 := fiveL.flatMap fun a => a.1 ++ [10]
def fiveLn : List Sc.Ln := numLn 1 (fiveL.map (·.2))
theorem five_src : Sc.srcLines fiveS = .ok fiveLn := src_of _ (by
  intro a ha
  simp only [fiveL, List.mem_cons, List.not_mem_nil, or_false] at ha
  rcases ha with rfl | rfl | rfl
  · exact ok_mov5
  · exact ok_tr1
  · exact ok_tr0) (by simp [fiveL])
def ksFive : List (Int × Lk) := [(1, ⟨none, iMov 5 r0'⟩), (2, ⟨none, iTr 1⟩), (3, ⟨none, iTr 0⟩)]
def fiveI : List In := [⟨3, 0, 0, 5⟩, ⟨27, 0, 0, 1⟩, ⟨27, 0, 0, 0⟩]
theorem five_its : itsG ksFive = [plainI 1 3 0 0 5, plainI 2 27 0 0 1, plainI 3 27 0 0 0] := by
  simp only [itsG, ksFive, List.map_cons, List.map_nil, it_mov, it_tr, reg_r0]
  simp [wrap32]
end Go.Proofs.YtgjmbjahgcndnaaGreatDoor

namespace Go.Proofs.YtgjmbjahgcndnaaGreatDoor
open Go.RowKit Go.Maps Go.MapKept

/-- All that is asked at the end of lines. -/
structure FinE (W : World) (labs : List (List UInt8 × Nat)) (firsts : Nat → Nat) (its : List It) (ob : Ob) : Prop where
  ok : ∀ i, i ∈ its → EndOk W firsts its.length i
  n : its.length ≤ 1000
  lbk : ∀ nm k, labelAt nm labs = some k → k ≤ its.length
  lbs : ∀ j (h : j < labs.length), labelAt labs[j].1 labs = some labs[j].2 ∧ labs[j].1.length ≤ maxLen
  ll : labs.length ≤ 100000
  last : (tellU 0 its).getD its.length 0 ≤ 8000
  wr : writeU ⟨labs, its, firsts⟩ (tellU 0 its) 0 [] [] its = .ok (ob.code, ob.rels)
  sy : ob.syms = symsU ⟨labs, its, firsts⟩ (tellU 0 its)
  cl : ob.code.length ≤ 100000 ∧ ob.rels.length ≤ 100000
/-- Laid, and ready to be written. -/
def RdyE (w W' : World) (gu : Nat) (ob : Ob) : Prop :=
  ∃ W mb labs firsts its, Told w W W' gu mb labs firsts its ob.code ob.rels ∧ ob.syms = symsU ⟨labs, its, firsts⟩ (tellU 0 its)
theorem lay_finE (w W : World) (gu mb gp mi : Nat) (ln : Int) (labs : List (List UInt8 × Nat)) (firsts : Nat → Nat) (its : List It) (q : Option (List UInt8 × Int)) (old : Option (Nat × Nat)) (ob : Ob) (hA : AllLaid w) (hge : w.heap.size + 2 ≤ gu) (hn : AlQ w W gu mb gp mi ln labs its q old) (hf : FinE W labs firsts its ob) :
    Calls Tryz.prog 73 #[.pointer (some ⟨gu, 0, none⟩)] W fun r w' => r = .returned (.int .i64 0) ∧ RdyE w w' gu ob := by
  have hsz := hA.isa.sz
  obtain ⟨nv, hu, hnv⟩ := hn.ur
  have he : Ended w W gu mb labs firsts its ob.code ob.rels := ⟨hn.bx, hge, ⟨ln, nv, _, hu, hnv⟩, hn.lb, hA.isa.below hn.bx.bel hA.isa.sz, by omega, hf.n, hf.ok, hf.last, hf.wr, hf.cl, hf.lbk, hf.lbs, hf.ll⟩
  refine (lay_end he).mono ?_
  rintro r W' ⟨rfl, ht⟩
  exact ⟨rfl, W, mb, labs, firsts, its, ht, hf.sy⟩
theorem write_finE (w W' : World) (gu : Nat) (ob : Ob) (hr : RdyE w W' gu ob) :
    Calls Tryz.prog 74 #[.pointer (some ⟨gu, 0, none⟩)] W' fun r w' => ∃ ca cl cc sa sl sc qa ql qc, r = .returned (.tuple #[.agg #[.slice ca cl cc, .slice sa sl sc, .slice qa ql qc], .agg #[.int .i64 0, .int .i64 0]]) ∧ ObjAt w' (.slice ca cl cc) (.slice sa sl sc) (.slice qa ql qc) ob ∧ Bx w w' := by
  obtain ⟨W, mb, labs, firsts, its, ht, hs⟩ := hr
  refine (write_end ht).mono ?_
  rintro r w' ⟨ca, cl, cc, sa, sl, sc, qa, ql, qc, rfl, ho, hb⟩
  rw [← hs] at ho
  exact ⟨ca, cl, cc, sa, sl, sc, qa, ql, qc, rfl, ho, hb⟩

theorem makes_ins0 (w W1 : World) (gu mb gp mi : Nat) (ks : List (Int × Lk)) (ob : Ob) (hA : AllLaid w) (h : Begun w W1 gu mb gp mi) (hn : ks.length ≤ 1000) (hok : ∀ a, a ∈ ks → a.2.Ok) (hfree : ∀ k (hk : k < ks.length) nm, ks[k].2.lab = some nm → labelAt nm (labsG 0 (ks.take k)) = none) (hfin : ∀ W, FinE W (labsG 0 ks) (fun _ => 0) (itsG ks) ob) : Makes w gu (ks.map fun a => (a.1, a.2.toks)) ob W1 := by
  have hge := h.ge
  refine ⟨⟨fun k W => ∃ ln, AlQ w W gu mb gp mi ln (labsG 0 (ks.take k)) (itsG (ks.take k)) none none, fun W => ∃ ln, AlQ w W gu mb gp mi ln (labsG 0 ks) (itsG ks) none none, fun W' => RdyE w W' gu ob, ⟨0, AlQ.of h.al⟩, ?_, ?_, ?_, ?_, ?_⟩⟩
  · rintro k W ⟨ln, hn⟩
    obtain ⟨nv, hu, _⟩ := hn.ur
    obtain ⟨_, _, x1, _⟩ := hu.its
    exact ⟨hn.bx, _, x1, ln, rfl⟩
  · rintro k hk W v ⟨ln, hn'⟩ hv
    have hk' : k < ks.length := by simpa using hk
    simp only [List.getElem_map] at hv ⊢
    have hli : (itsG (ks.take k)).length = k := by simp [itsG]; omega
    have hll := labsG_len (ks.take k) 0
    rw [List.length_take] at hll
    refine (read_lkQ w _ gu mb gp mi v ks[k].1 (labsG 0 (ks.take k)) (itsG (ks.take k)) none none ks[k].2 (hok _ (List.getElem_mem _)) hA ⟨hge.1, hge.2.1⟩ h.ne (hn'.line hge.1 _ _) (by omega) (by omega) (hfree k hk') hv).mono ?_
    rintro r w' ⟨rfl, hr⟩
    refine ⟨rfl, ks[k].1, ?_⟩
    have e1 : labsG 0 (ks.take (k + 1)) = labsG 0 (ks.take k) ++ ks[k].2.labs (itsG (ks.take k)).length := by
      rw [List.take_succ_eq_append_getElem hk', labsG_snoc, hli, Nat.zero_add, List.length_take, Nat.min_eq_left (by omega)]
    have e2 : itsG (ks.take (k + 1)) = itsG (ks.take k) ++ [ks[k].2.ins.it ks[k].1] := by
      rw [List.take_succ_eq_append_getElem hk']
      simp only [itsG, List.map_append, List.map_cons, List.map_nil]
    rw [e1, e2]
    exact hr
  · rintro W ⟨ln, hn'⟩
    rw [List.length_map, List.take_length] at hn'
    have hp := hn'.po
    obtain ⟨nv, hu, _⟩ := hn'.ur
    obtain ⟨_, _, x1, _⟩ := hu.its
    refine (endPool_none gu gp none 0 W (blk_cell x1 rfl) (blk_cell hp.1 rfl)).mono ?_
    rintro r w' ⟨rfl, rfl⟩
    exact ⟨rfl, ln, hn'⟩
  · rintro W ⟨ln, hn'⟩
    exact lay_finE w W gu mb gp mi ln (labsG 0 ks) (fun _ => 0) (itsG ks) none none ob hA hge.1 hn' (hfin W)
  · rintro W' hr
    exact write_finE w W' gu ob hr

theorem end_plain (W : World) (f : Nat → Nat) (n : Nat) (ln op nn m imm : Int) : EndOk W f n (plainI ln op nn m imm) := ⟨trivial, ⟨by show (0 : Int) ≤ 2; decide, by show (2 : Int) ≤ 6; decide, by show (1 : Int) ≤ 1; decide, by show (1 : Int) ≤ 16; decide⟩, ⟨by show (1 : Int) ≤ 2; decide, by show (2 : Int) ≤ 16; decide⟩, by show (2 : Int) ≤ 4; decide, trivial⟩
theorem finE_five (W : World) : FinE W (labsG 0 ksFive) (fun _ => 0) (itsG ksFive) ⟨encsB fiveI, [], []⟩ := by
  have hlb : labsG 0 ksFive = [] := rfl
  rw [five_its, hlb]
  have hall : ∀ i, i ∈ [plainI 1 3 0 0 5, plainI 2 27 0 0 1, plainI 3 27 0 0 0] → EndOk W (fun _ => 0) 3 i := by
    intro i hi
    simp only [List.mem_cons, List.not_mem_nil, or_false] at hi
    rcases hi with rfl | rfl | rfl <;> exact end_plain _ _ _ _ _ _ _ _
  exact ⟨fun i hi => hall i hi, by simp, by simp [labelAt], by simp, by simp, by decide +kernel, by kernel_rfl, rfl, ⟨by decide +kernel, by simp⟩⟩
theorem unit_five3 (v : Value) (w : World) (hA : AllLaid w) (hv : Sc.BReads w v fiveS) :
    Calls Tryz.prog 23 #[v] w fun e w' => (∃ ca cl cc sa sl sc qa ql qc, e = .returned (.tuple #[.agg #[.slice ca cl cc, .slice sa sl sc, .slice qa ql qc], .agg #[.int .i64 0, .int .i64 0]]) ∧ ObjAt w' (.slice ca cl cc) (.slice sa sl sc) (.slice qa ql qc) ⟨encsB fiveI, [], []⟩) ∧ Below w.heap.size w w' := by
  refine unit_gen v fiveS fiveLn _ w hv five_src (by decide) ?_ hA.gl ?_
  · intro x hx
    have hin : x = ⟨1, mov5T⟩ ∨ x = ⟨2, tr1T⟩ ∨ x = ⟨3, tr0T⟩ := by simpa [fiveLn, fiveL, numLn] using hx
    rcases hin with rfl | rfl | rfl <;> exact ⟨by simp [mov5T, tr1T, tr0T], ph_of _ _ (by decide)⟩
  · intro u W hbw hl
    have hAW : AllLaid W := ⟨hA.isa.below hbw hA.isa.sz, hA.frm.below hbw hA.frm.sz, KL.below hA.ex hbw, hA.gl.below hbw hA.gl.sz⟩
    have e : fiveLn.map lnOf = ksFive.map fun a => (a.1, a.2.toks) := rfl
    rw [e] at hl
    refine build_gen u _ _ W hl (by decide) (fun gu mb gp mi W1 h => makes_ins0 W W1 gu mb gp mi ksFive _ hAW h (by decide) ?_ (fun k hk nm hnm => ?_) finE_five)
    rotate_left
    · have h3 : k = 0 ∨ k = 1 ∨ k = 2 := by simp [ksFive] at hk; omega
      rcases h3 with rfl | rfl | rfl <;> rfl
    intro a ha
    have hr0 : 0 ≤ regU 1 r0' := by rw [reg_r0]; decide
    simp only [ksFive, List.mem_cons, List.not_mem_nil, or_false] at ha
    rcases ha with rfl | rfl | rfl
    · exact ⟨ok_iMov 5 r0' hr0 (by rw [reg_r0]; kernel_rfl), by simp⟩
    · exact ⟨ok_iTr 1 (by kernel_rfl), by simp⟩
    · exact ⟨ok_iTr 0 (by kernel_rfl), by simp⟩

end Go.Proofs.YtgjmbjahgcndnaaGreatDoor

namespace Go.Proofs.YtgjmbjahgcndnaaGreatDoor
open Go.RowKit Go.Maps Go.MapKept

end Go.Proofs.YtgjmbjahgcndnaaGreatDoor

namespace Go.Proofs.YtgjmbjahgcndnaaGreatDoor
open Go.RowKit

def mcrL : List UInt8 := [46, 109, 97, 99, 114, 111, 32, 109, 111, 114, 101, 32, 110]
def mcrT : List Sc.Tok := [⟨1, 0, [46, 109, 97, 99, 114, 111]⟩, ⟨1, 0, nmMore⟩, ⟨1, 0, [110]⟩]
theorem ok_mcr : OkL mcrL mcrT := ⟨by kernel_rfl, by kernel_rfl, by simp [mcrT], by decide, by decide⟩
def addnL : List UInt8 := [97, 100, 100, 32, 35, 110, 44, 114, 48]
def addnT : List Sc.Tok := [⟨1, 0, [97, 100, 100]⟩, ⟨3, 0, [35]⟩, ⟨1, 0, [110]⟩, ⟨3, 0, [44]⟩, ⟨1, 0, [114, 48]⟩]
theorem ok_addn : OkL addnL addnT := ⟨by kernel_rfl, by kernel_rfl, by simp [addnT], by decide, by decide⟩
def endmL : List UInt8 := [46, 101, 110, 100, 109]
def endmT : List Sc.Tok := [⟨1, 0, [46, 101, 110, 100, 109]⟩]
theorem ok_endm : OkL endmL endmT := ⟨by kernel_rfl, by kernel_rfl, by simp [endmT], by decide, by decide⟩
def callL (a : Int) : List UInt8 := [109, 111, 114, 101, 32] ++ Lib.itoa a
def callT (a : Int) : List Sc.Tok := ⟨1, 0, nmMore⟩ :: numT a
theorem ok_call : ∀ a : Int, -100 ≤ a → a ≤ 100 → OkL (callL a) (callT a) := enum_ok (by kernel_rfl) (by kernel_rfl) (by kernel_rfl) (by simp [callT])

/-- The source with a macro, and the one whose lines stand there. -/
def macSL (l : List Int) : List (List UInt8 × List Sc.Tok) := [(mcrL, mcrT), (addnL, addnT), (endmL, endmT), (mov0L, mov0T)] ++ (l.map (fun n => (callL n, callT n)) ++ [(tr1L, tr1T), (tr0L, tr0T)])
def adsSL (l : List Int) : List (List UInt8 × List Sc.Tok) := (mov0L, mov0T) :: (l.map (fun n => (addAL n, addAT n)) ++ [(tr1L, tr1T), (tr0L, tr0T)])

theorem macS_ok (l : List Int) (h : ∀ n, n ∈ l → -100 ≤ n ∧ n ≤ 100) : ∀ x, x ∈ macSL l → OkL x.1 x.2 := by
  intro x hx
  simp only [macSL, List.mem_append, List.mem_cons, List.not_mem_nil, or_false, List.mem_map] at hx
  rcases hx with (rfl | rfl | rfl | rfl) | ⟨n, hn, rfl⟩ | rfl | rfl
  · exact ok_mcr
  · exact ok_addn
  · exact ok_endm
  · exact ok_mov0
  · exact ok_call n (h n hn).1 (h n hn).2
  · exact ok_tr1
  · exact ok_tr0
theorem adsS_ok (l : List Int) (h : ∀ n, n ∈ l → -100 ≤ n ∧ n ≤ 100) : ∀ x, x ∈ adsSL l → OkL x.1 x.2 := by
  intro x hx
  simp only [adsSL, List.mem_append, List.mem_cons, List.not_mem_nil, or_false, List.mem_map] at hx
  rcases hx with rfl | ⟨n, hn, rfl⟩ | rfl | rfl
  · exact ok_mov0
  · exact ok_addA n (h n hn).1 (h n hn).2
  · exact ok_tr1
  · exact ok_tr0
theorem itoa32 (n : Int) (h0 : -100 ≤ n) (h1 : n ≤ 100) : (Lib.itoa n).length ≤ 21 := Lib.itoa_length_le n (by omega) (by omega)
theorem srcB_app (a b : List (List UInt8 × List Sc.Tok)) : srcB (a ++ b) = srcB a ++ srcB b := by simp [srcB]
theorem mapB_len' (p q : List UInt8) (g : Int → List Sc.Tok) : ∀ l : List Int, (∀ n, n ∈ l → -100 ≤ n ∧ n ≤ 100) → (srcB (l.map fun n => (p ++ (Lib.itoa n ++ q), g n))).length ≤ (p.length + q.length + 22) * l.length
  | [], _ => by simp [srcB]
  | n :: l, h => by
    have ih := mapB_len' p q g l fun m hm => h m (by simp [hm])
    have := itoa32 n (h n (by simp)).1 (h n (by simp)).2
    simp only [srcB, List.map_cons, List.flatMap_cons, List.length_append, List.length_cons, List.length_nil] at ih ⊢
    rw [Nat.mul_add]
    omega
theorem macS_len (l : List Int) (hl : l.length ≤ 12) (h : ∀ n, n ∈ l → -100 ≤ n ∧ n ≤ 100) : (srcB (macSL l)).length ≤ 1000 := by
  have := mapB_len' [109, 111, 114, 101, 32] [] callT l h
  have e : (fun n : Int => (callL n, callT n)) = fun n => ([109, 111, 114, 101, 32] ++ (Lib.itoa n ++ []), callT n) := by
    funext n
    simp [callL]
  unfold macSL
  rw [srcB_app, srcB_app, List.length_append, List.length_append, e]
  have h1 : (srcB [(mcrL, mcrT), (addnL, addnT), (endmL, endmT), (mov0L, mov0T)]).length = 40 := by decide +kernel
  have h2 : (srcB [(tr1L, tr1T), (tr0L, tr0T)]).length = 18 := by decide +kernel
  rw [h1, h2]
  simp only [List.length_cons, List.length_nil] at this
  omega
theorem adsS_len (l : List Int) (hl : l.length ≤ 12) (h : ∀ n, n ∈ l → -100 ≤ n ∧ n ≤ 100) : (srcB (adsSL l)).length ≤ 1000 := by
  have := mapB_len' [97, 100, 100, 32, 35] [44, 114, 48] addAT l h
  have e : (fun n : Int => (addAL n, addAT n)) = fun n => ([97, 100, 100, 32, 35] ++ (Lib.itoa n ++ [44, 114, 48]), addAT n) := rfl
  unfold adsSL
  rw [← List.singleton_append, srcB_app, srcB_app, List.length_append, List.length_append, e]
  have h1 : (srcB [(mov0L, mov0T)]).length = 10 := by decide +kernel
  have h2 : (srcB [(tr1L, tr1T), (tr0L, tr0T)]).length = 18 := by decide +kernel
  rw [h1, h2]
  simp only [List.length_cons, List.length_nil] at this
  omega
theorem macS_src (l : List Int) (hl : l.length ≤ 12) (h : ∀ n, n ∈ l → -100 ≤ n ∧ n ≤ 100) : Sc.srcLines (srcB (macSL l)) = .ok (srcN (macSL l)) :=
  src_len _ (macS_ok l h) (by have := macS_len l hl h; unfold srcB at this; omega)
theorem adsS_src (l : List Int) (hl : l.length ≤ 12) (h : ∀ n, n ∈ l → -100 ≤ n ∧ n ≤ 100) : Sc.srcLines (srcB (adsSL l)) = .ok (srcN (adsSL l)) :=
  src_len _ (adsS_ok l h) (by have := adsS_len l hl h; unfold srcB at this; omega)

theorem adsS_plain (l : List Int) : ∀ x, x ∈ adsSL l → x.2.length ≤ 100 ∧ PlainHead (headS (x.2.map tkOf)) := by
  intro x hx
  simp only [adsSL, List.mem_append, List.mem_cons, List.not_mem_nil, or_false, List.mem_map] at hx
  rcases hx with rfl | ⟨n, hn, rfl⟩ | rfl | rfl
  · exact ⟨by simp [mov0T], ph_of _ _ (by decide)⟩
  · have := numT_len n
    exact ⟨by simp [addAT, endT]; omega, ph_of _ _ (by decide)⟩
  · exact ⟨by simp [tr1T], ph_of _ _ (by decide)⟩
  · exact ⟨by simp [tr0T], ph_of _ _ (by decide)⟩

theorem numLn_app (a : List (List Sc.Tok)) : ∀ (k : Nat) (b : List (List Sc.Tok)), numLn k (a ++ b) = numLn k a ++ numLn (k + a.length) b := by
  induction a with
  | nil => intro k b; simp [numLn]
  | cons x a ih =>
    intro k b
    rw [List.cons_append, numLn, ih, numLn, List.cons_append, List.length_cons, show k + 1 + a.length = k + (a.length + 1) by omega]
theorem numLn_len : ∀ (l : List (List Sc.Tok)) (k : Nat), (numLn k l).length = l.length
  | [], k => rfl
  | a :: r, k => by simp [numLn, numLn_len r]

end Go.Proofs.YtgjmbjahgcndnaaGreatDoor

namespace Go.Proofs.YtgjmbjahgcndnaaGreatDoor
open Go.RowKit

/-- What a call answers that makes an object. -/
def UnitTo (v : Value) (ob : Ob) (W : World) : Prop := Calls Tryz.prog 23 #[v] W fun e w' => (∃ ca cl cc sa sl sc qa ql qc, e = .returned (.tuple #[.agg #[.slice ca cl cc, .slice sa sl sc, .slice qa ql qc], .agg #[.int .i64 0, .int .i64 0]]) ∧ ObjAt w' (.slice ca cl cc) (.slice sa sl sc) (.slice qa ql qc) ob) ∧ Below W.heap.size W w'

set_option maxHeartbeats 4000000 in
set_option maxRecDepth 100000 in
theorem built_ok (va : Option Addr) (vl vc : Nat) (ob : Ob) (w : World) (hun : ∀ W, Below w.heap.size w W → UnitTo (.slice va vl vc) ob W) (hwr : ∀ W c s q, ObjAt W c s q ob → Calls Tryz.prog 24 #[.agg #[c, s, q]] W fun r w' => r = .returned (.int .i64 0) ∧ Below W.heap.size W w') :
    Calls Tryz.prog 14 #[.slice va vl vc] w fun e w' => (∃ ca cl cc sa sl sc qa ql qc, e = .returned (.tuple #[.agg #[.slice ca cl cc, .slice sa sl sc, .slice qa ql qc], .int .i64 0]) ∧ ObjAt w' (.slice ca cl cc) (.slice sa sl sc) (.slice qa ql qc) ob) ∧ Below w.heap.size w w' := by
  have HUN := Lib.hid hun
  have HWR := Lib.hid hwr
  clear hun hwr
  go_enter Tryz.func14, Tryz.ntmps14
  go_wp2_with fail
  refine (HUN.out _ (oalloc _ _)).mono ?_
  rintro e w1 ⟨⟨ca, cl, cc, sa, sl, sc, qa, ql, qc, rfl, hob⟩, hb1⟩
  obtain ⟨hB1, hz1, xr⟩ := box_keep hb1
  have HB1 := Lib.hid hB1
  have HO1 := Lib.hid hob
  have XR := Lib.hid xr
  clear hb1 hB1 hob xr HUN
  go_wp2_with fail
  have hb2 : Below w1.heap.size w1 ((w1.alloc (.cells #[.slice ca cl cc, .slice sa sl sc, .slice qa ql qc] 49)).alloc (.cells #[.int .i64 0, .int .i64 0] 36)) := by go_grown
  have hO2 : ObjAt ((w1.alloc (.cells #[.slice ca cl cc, .slice sa sl sc, .slice qa ql qc] 49)).alloc (.cells #[.int .i64 0, .int .i64 0] 36)) (.slice ca cl cc) (.slice sa sl sc) (.slice qa ql qc) ob := ⟨HO1.out.1.below hb2 (Nat.le_refl _), HO1.out.2.1.below hb2 (Nat.le_refl _), HO1.out.2.2.below hb2 (Nat.le_refl _)⟩
  refine (HWR.out _ _ _ _ hO2).mono ?_
  rintro e w3 ⟨rfl, hb3⟩
  have hb13 : Below w1.heap.size w1 w3 := hb2.trans (hb3.mono hb2.size)
  have z0 := (hb13.block _ (blk_lt XR.out)).trans XR.out
  have y0 : w3.heap[w1.heap.size]? = some (.cells #[.slice ca cl cc, .slice sa sl sc, .slice qa ql qc] 49 (0, 0)) := by
    rw [hb3.block _ (by go_size), old2 _ _ (by go_size)]
    exact new_at _ _ rfl
  have k0 : w3.cell? ⟨w1.heap.size, 0, none⟩ = some (.slice ca cl cc) := blk_cell y0 rfl
  have k1 : w3.cell? ⟨w1.heap.size, 1, none⟩ = some (.slice sa sl sc) := blk_cell y0 rfl
  have k2 : w3.cell? ⟨w1.heap.size, 2, none⟩ = some (.slice qa ql qc) := blk_cell y0 rfl
  have g0 : w3.cell? ⟨w.heap.size, 0, none⟩ = some (.slice none 0 0) := blk_cell z0 rfl
  have g1 : w3.cell? ⟨w.heap.size, 1, none⟩ = some (.slice none 0 0) := blk_cell z0 rfl
  have g2 : w3.cell? ⟨w.heap.size, 2, none⟩ = some (.slice none 0 0) := blk_cell z0 rfl
  have q0 : w3.frozen? ⟨w.heap.size, 0, none⟩ = false := blk_froz z0
  have q1 : w3.frozen? ⟨w.heap.size, 1, none⟩ = false := blk_froz z0
  have q2 : w3.frozen? ⟨w.heap.size, 2, none⟩ = false := blk_froz z0
  have hzz := blk_lt z0
  have hzy := blk_lt y0
  have Z0 := Lib.hid z0
  have HOB : Hid (ObjAt w3 (.slice ca cl cc) (.slice sa sl sc) (.slice qa ql qc) ob) := ⟨HO1.out.1.below hb13 (Nat.le_refl _), HO1.out.2.1.below hb13 (Nat.le_refl _), HO1.out.2.2.below hb13 (Nat.le_refl _)⟩
  have HB3 := Lib.hid (HB1.out.trans (hb13.mono HB1.out.size))
  clear hb2 hb3 hb13 hO2 z0 y0 HO1 HB1 XR HWR
  go_wp2_with fail
  have n3 : ∀ (x y z : Option Addr) (a b c d e f : Nat) (j : Nat) (n : Int), (#[Value.slice x a b, .slice y c d, .slice z e f] : Array Value)[j]? ≠ some (.int .u8 n) := by
    intro x y z a b c d e f j n h
    rcases j with _ | _ | _ | j <;> simp at h
  have m3 : ∀ (x y z : Option Addr) (a b c d e f : Nat) (j : Nat) (n : ByteArray), (#[Value.slice x a b, .slice y c d, .slice z e f] : Array Value)[j]? ≠ some (.string n) := by
    intro x y z a b c d e f j n h
    rcases j with _ | _ | _ | j <;> simp at h
  have o1 := HOB.out.set (i := 0) (v := .slice ca cl cc) Z0.out (m3 _ _ _ _ _ _ _ _ _) (n3 _ _ _ _ _ _ _ _ _)
  have z1 := blk_set (i := 0) (v := .slice ca cl cc) Z0.out
  have o2 := o1.set (i := 1) (v := .slice sa sl sc) z1 (m3 _ _ _ _ _ _ _ _ _) (n3 _ _ _ _ _ _ _ _ _)
  have z2 := blk_set (i := 1) (v := .slice sa sl sc) z1
  have o3 := o2.set (i := 2) (v := .slice qa ql qc) z2 (m3 _ _ _ _ _ _ _ _ _) (n3 _ _ _ _ _ _ _ _ _)
  exact bodyPost_ret (v := .tuple #[.agg #[.slice ca cl cc, .slice sa sl sc, .slice qa ql qc], .int .i64 0]) (by simp [results, Tryz.results14, go_sem, g0, g1, g2]) rfl ⟨⟨ca, cl, cc, sa, sl, sc, qa, ql, qc, rfl, o3⟩, ((HB3.out.setCell (Nat.le_refl _) _).setCell (Nat.le_refl _) _).setCell (Nat.le_refl _) _⟩

end Go.Proofs.YtgjmbjahgcndnaaGreatDoor

namespace Go.Proofs.YtgjmbjahgcndnaaGreatDoor
open Go.RowKit

set_option maxHeartbeats 2000000 in
theorem labels_x (gu : Nat) (v : Value) (x y : Tk) (r : List Pc) (w : World) (h : XReads w v (pc x :: pc y :: r)) (hl2 : (x.k == 1 && (y.k == 3 && y.t.toList == [58])) = false) :
    Calls Tryz.prog 89 #[.pointer (some ⟨gu, 0, none⟩), v] w fun r w' => r = .returned (.tuple #[v, .int .i64 0]) ∧ Below w.heap.size w w' := by
  have HN := Lib.hid fun W (hb : Below w.heap.size w W) => xnext v x (pc y :: r) W W (h.below hb (Nat.le_refl _)) (Below.refl _ _)
  have HN2 := Lib.hid fun v' W (_ : Below w.heap.size w W) (hv : XReads W v' (pc y :: r)) => xnext v' y r W W hv (Below.refl _ _)
  have HW := Lib.hid fun W => aword_any x.k x.n x.t W
  have HS := Lib.hid fun W => asign_any y.k y.n y.t ⟨#[58]⟩ W
  have e58 : (⟨#[58]⟩ : ByteArray).toList = [58] := by simp [ByteArray.toList_eq]
  rw [e58] at HS
  clear e58
  obtain ⟨ad, cap, rfl, _⟩ := h
  generalize ((x.k == 1) : Bool) = p1 at *
  generalize ((y.k == 3 && y.t.toList == [58]) : Bool) = p2 at *
  obtain ⟨xk, xn, xt⟩ := x
  obtain ⟨yk, yn, yt⟩ := y
  unfold Tk.V tokV at *
  simp only [List.length_cons] at *
  go_enter Tryz.func89, Tryz.ntmps89
  go_wp2_with fail
  refine wp_loop_rounds 1 ?_
  rw [rounds_succ]
  go_wp2_with fail
  refine (HN.out _ (Below.refl _ _)).mono ?_
  rintro e w1 ⟨⟨v', rfl, hv⟩, hb1⟩
  obtain ⟨ad', cap', rfl, _⟩ := id hv
  have HV := Lib.hid hv
  have HB1 := Lib.hid hb1
  clear hv hb1 HN
  go_wp2_with fail
  refine (HN2.out _ _ (HB1.out.alloc HB1.out.size _) (HV.out.below (HB1.out.alloc HB1.out.size _) (Nat.le_refl _))).mono ?_
  rintro e w2 ⟨⟨v2, rfl, hv2⟩, hb2⟩
  obtain ⟨ad2, cap2, rfl, _⟩ := hv2
  obtain ⟨hB2, hz2, xr⟩ := box_keep hb2
  have t0 : w2.cell? ⟨w1.heap.size, 0, none⟩ = some (.int .i64 xk) := blk_cell xr rfl
  have t1 : w2.cell? ⟨w1.heap.size, 1, none⟩ = some (.int .i64 xn) := blk_cell xr rfl
  have t2 : w2.cell? ⟨w1.heap.size, 2, none⟩ = some (.string xt) := blk_cell xr rfl
  have HB2 := Lib.hid (HB1.out.trans (hB2.mono HB1.out.size))
  clear hb2 hB2 xr HB1 HN2 HV
  cases p1
  · go_wp2_with (first
      | (go_at_call 91; refine (HW.out _).mono ?_; rintro e w3 ⟨rfl, hb3⟩; have HB3 : Hid (Below w.heap.size w w3) := Below.trans (by have hb := HB2.out; have := HB2.out.size; go_grown) (hb3.mono (by have := HB2.out.size; go_size)); clear hb3)
      | fail)
    go_ret2
    exact ⟨rfl, HB3.out⟩
  · have hp2 : p2 = false := by simpa using hl2
    subst hp2
    go_wp2_with (first
      | (go_at_call 91; refine (HW.out _).mono ?_; rintro e w3 ⟨rfl, hb3⟩; obtain ⟨hB3, hz3, yr⟩ := box_keep hb3; have s0 : w3.cell? ⟨w2.heap.size, 0, none⟩ = some (.int .i64 yk) := blk_cell yr rfl; have s1 : w3.cell? ⟨w2.heap.size, 1, none⟩ = some (.int .i64 yn) := blk_cell yr rfl; have s2 : w3.cell? ⟨w2.heap.size, 2, none⟩ = some (.string yt) := blk_cell yr rfl; have HB3 : Hid (Below w.heap.size w w3) := HB2.out.trans (hB3.mono HB2.out.size); clear hb3 hB3 yr)
      | (go_at_call 125; refine (HS.out _).mono ?_; rintro e w4 ⟨rfl, hb4⟩; have HB4 : Hid (Below w.heap.size w w4) := HB3.out.trans (hb4.mono HB3.out.size); clear hb4))
    go_ret2
    exact ⟨rfl, HB4.out⟩

set_option maxHeartbeats 4000000 in
/-- A line: what stands behind its labels is a word and operands. -/
theorem read_gx (gu : Nat) (v : Value) (hn : Int) (ht : ByteArray) (rest : List Pc) (ops : List Opd) (w0 w : World) (PL Q : World → Prop)
    (hlab : Calls Tryz.prog 89 #[.pointer (some ⟨gu, 0, none⟩), v] w fun r w1 => ∃ v', r = .returned (.tuple #[v', .int .i64 0]) ∧ XReads w0 v' (pc ⟨1, hn, ht⟩ :: rest) ∧ PL w1)
    (hst : ∀ W W', PL W → Below W.heap.size W W' → PL W') (hB : ∀ W, PL W → Below w0.heap.size w0 W)
    (hop : ∀ W v2, PL W → XReads w0 v2 rest → Calls Tryz.prog 92 #[.pointer (some ⟨gu, 0, none⟩), v2] W fun r w' => (∃ oa oc, r = .returned (.tuple #[.slice oa ops.length oc, .int .i64 0]) ∧ OpsR w' oa ops) ∧ Below W.heap.size W w')
    (hs : ∀ W oa oc, PL W → OpsR W oa ops → Calls Tryz.prog 93 #[.pointer (some ⟨gu, 0, none⟩), .string ht, .slice oa ops.length oc] W fun r w' => r = .returned (.int .i64 0) ∧ Q w') (hv : ∃ ad l c, v = .slice ad l c) :
    Calls Tryz.prog 71 #[.pointer (some ⟨gu, 0, none⟩), v] w fun r w' => r = .returned (.int .i64 0) ∧ Q w' := by
  have HLB := Lib.hid hlab
  have HN := Lib.hid fun v' W (hp : PL W) (hv : XReads w0 v' (pc ⟨1, hn, ht⟩ :: rest)) => xnext v' ⟨1, hn, ht⟩ rest w0 W hv (hB W hp)
  have HAW := Lib.hid fun W => aword_any 1 hn ht W
  have HOP := Lib.hid hop
  have HST := Lib.hid hs
  have HGO := Lib.hid hst
  obtain ⟨ad, vl, vc, rfl⟩ := hv
  clear hlab hop hs hst hB
  unfold Tk.V tokV at *
  go_enter Tryz.func71, Tryz.ntmps71
  go_wp2_with fail
  refine HLB.out.mono ?_
  rintro e w1 ⟨v1, rfl, hv1, hp1⟩
  obtain ⟨ad1, cap1, hv1s, _⟩ := id hv1
  simp only [List.length_cons] at hv1s
  subst hv1s
  have HV1 := Lib.hid hv1
  have HP1 := Lib.hid hp1
  clear hv1 hp1 HLB
  go_wp2_with fail
  refine (HN.out _ _ HP1.out HV1.out).mono ?_
  rintro e w2 ⟨⟨v2, rfl, hv2⟩, hb2⟩
  obtain ⟨ad2, cap2, hv2s, _⟩ := id hv2
  subst hv2s
  have HV2 := Lib.hid hv2
  have HP2 := Lib.hid (HGO.out _ _ HP1.out hb2)
  clear hv2 hb2 HN HP1
  go_wp2_with fail
  refine (HAW.out _).mono ?_
  rintro e w3 ⟨rfl, hb3⟩
  obtain ⟨hB3, hz3, xr⟩ := box_keep hb3
  have HP3 := Lib.hid (HGO.out _ _ HP2.out hB3)
  have XR := Lib.hid xr
  clear hb3 hB3 xr HP2
  go_wp2_with fail
  refine (HOP.out _ _ HP3.out HV2.out).mono ?_
  rintro e w4 ⟨⟨oa, oc, rfl, ho4⟩, hb4⟩
  have xr4 := (hb4.block _ hz3).trans XR.out
  have t2 : w4.cell? ⟨w2.heap.size, 2, none⟩ = some (.string ht) := blk_cell xr4 rfl
  have hz4 := blk_lt xr4
  have HC := Lib.hid (HST.out w4 oa oc (HGO.out _ _ HP3.out hb4) ho4)
  clear ho4 hb4 xr4 XR HST HOP HAW HP3 HV1 HV2
  go_wp2_with (first | (go_at_call 93; refine HC.out.mono ?_; rintro e w5 ⟨rfl, hq⟩) | fail)
  go_ret
  exact ⟨rfl, hq⟩

end Go.Proofs.YtgjmbjahgcndnaaGreatDoor

namespace Go.Proofs.YtgjmbjahgcndnaaGreatDoor
open Go.RowKit

/-- A slice reads as lines, each one's text as RD says. -/
def LX (W : World) (v : Value) (n : Nat) (pos : Nat → Int) (RD : Nat → Value → Prop) : Prop :=
  ∃ ad cap, v = .slice ad n cap ∧ n ≤ maxLen ∧ (0 < n → ∃ b o, ad = some ⟨b, o, none⟩ ∧ b < W.heap.size ∧ ∀ i, i < n → ∃ td tn tc, W.cell? ⟨b, o + i * 2, none⟩ = some (.slice td tn tc) ∧ W.cell? ⟨b, o + i * 2 + 1, none⟩ = some (.int .i64 (pos i)) ∧ RD i (.slice td tn tc))

/-- What lines make: a state behind each, and what comes of the last one. -/
structure MakesX (w : World) (gu n : Nat) (pos : Nat → Int) (RD : Nat → Value → Prop) (o : Ob) (W1 : World) : Prop where
  ex : ∃ (ST : Nat → World → Prop) (E F : World → Prop), ST 0 W1 ∧ (∀ k W, ST k W → Bx w W ∧ ∃ c, W.heap[gu]? = some (.cells c 141 (0, 0)) ∧ (∃ z, c[1]? = some (.int .i64 z))) ∧
    (∀ k (_ : k < n) W v, ST k W → RD k v → Calls Tryz.prog 71 #[.pointer (some ⟨gu, 0, none⟩), v] ((W.setCell ⟨gu, 1, none⟩ (.int .i64 (pos k))).alloc (.cells #[v, .int .i64 (pos k)] 145)) fun r w' => r = .returned (.int .i64 0) ∧ ST (k + 1) w') ∧
    (∀ W, ST n W → Calls Tryz.prog 72 #[.pointer (some ⟨gu, 0, none⟩)] W fun r w' => r = .returned (.tuple #[]) ∧ E w') ∧
    (∀ W, E W → Calls Tryz.prog 73 #[.pointer (some ⟨gu, 0, none⟩)] W fun r w' => r = .returned (.int .i64 0) ∧ F w') ∧
    (∀ W, F W → Calls Tryz.prog 74 #[.pointer (some ⟨gu, 0, none⟩)] W fun r w' => ∃ ca cl cc sa sl sc qa ql qc, r = .returned (.tuple #[.agg #[.slice ca cl cc, .slice sa sl sc, .slice qa ql qc], .agg #[.int .i64 0, .int .i64 0]]) ∧ ObjAt w' (.slice ca cl cc) (.slice sa sl sc) (.slice qa ql qc) o ∧ Bx w w')

set_option maxHeartbeats 8000000 in
set_option maxRecDepth 100000 in
theorem build_gx (v : Value) (n : Nat) (pos : Nat → Int) (RD : Nat → Value → Prop) (o : Ob) (w : World) (h : LX w v n pos RD) (hn : n ≤ 1000) (hall : ∀ gu mb gp mi W1, Begun w W1 gu mb gp mi → MakesX w gu n pos RD o W1) :
    Calls Tryz.prog 44 #[v, .slice none 0 0] w fun r w' => (∃ ca cl cc sa sl sc qa ql qc, r = .returned (.tuple #[.agg #[.slice ca cl cc, .slice sa sl sc, .slice qa ql qc], .agg #[.int .i64 0, .int .i64 0]]) ∧ ObjAt w' (.slice ca cl cc) (.slice sa sl sc) (.slice qa ql qc) o) ∧ Below w.heap.size w w' := by
  have HALL := Lib.hid hall
  clear hall
  have hmm : ∀ w, (Instr.makeMap 89 none).run Tryz.prog w = .ok (.map (some w.heap.size)) (w.alloc (.map #[] 0)) := fun w => rfl
  obtain ⟨va, vc, rfl, _⟩ := id h
  have HV := Lib.hid h
  clear h
  go_enter Tryz.func44, Tryz.ntmps44
  go_wp2_with fail
  refine (newPool_more _).mono ?_
  rintro e w1 ⟨rfl, rfl⟩
  go_wp2_with fail
  obtain ⟨W1, hW1⟩ : ∃ X, X = ((((((w.alloc (.cells #[.slice none 0 0, .slice none 0 0, .slice none 0 0] 49)).alloc (.cells #[.int .i64 0, .int .i64 0] 36)).alloc (.map #[] 0)).alloc (.map #[] 0)).alloc (.cells #[.int .i64 0, .slice none 0 0, .map (some (w.heap.size + 1 + 1 + 1))] 184)).alloc (.cells #[.slice none 0 0, .int .i64 0, .slice none 0 0, .map (some (w.heap.size + 1 + 1)), .slice none 0 0, .pointer (some ⟨w.heap.size + 1 + 1 + 1 + 1, 0, none⟩), .slice none 0 0, .slice none 0 0] 141)) := ⟨_, rfl⟩
  have hz : W1.heap.size = w.heap.size + 1 + 1 + 1 + 1 + 1 + 1 := by rw [hW1]; simp
  have hbeg : Begun w W1 (w.heap.size + 1 + 1 + 1 + 1 + 1) (w.heap.size + 1 + 1) (w.heap.size + 1 + 1 + 1 + 1) (w.heap.size + 1 + 1 + 1) := by
    refine ⟨⟨?_, ?_, ?_⟩, ⟨by omega, by omega, .slice none 0 0, [], ?_, World.ownsRow_nil _ _ _ _, rfl, fun p hp => by simp at hp⟩, ?_, ?_, ?_, by omega, by omega, by omega⟩
    · rw [hW1]; go_grown
    · rw [hW1, old2 _ _ (by go_size), old2 _ _ (by go_size), old2 _ _ (by go_size), old2 _ _ (by go_size), old2 _ _ (by go_size)]; exact new_at _ _ rfl
    · rw [hW1, old2 _ _ (by go_size), old2 _ _ (by go_size), old2 _ _ (by go_size), old2 _ _ (by go_size)]; exact new_at _ _ (by go_size)
    · rw [hW1]; exact new_at _ _ (by go_size)
    · rw [hW1, old2 _ _ (by go_size), old2 _ _ (by go_size), old2 _ _ (by go_size)]; exact new_at _ _ (by go_size)
    · rw [hW1, old2 _ _ (by go_size)]; exact new_at _ _ (by go_size)
    · rw [hW1, old2 _ _ (by go_size), old2 _ _ (by go_size)]; exact new_at _ _ (by go_size)
  obtain ⟨ST, E, F, h0, hbx, hrd, hen, hly, hwr⟩ := (HALL.out _ _ _ _ W1 hbeg).ex
  rw [← hW1]
  obtain ⟨gu, hgu⟩ : ∃ gu, gu = w.heap.size + 1 + 1 + 1 + 1 + 1 := ⟨_, rfl⟩
  rw [← hgu] at hbx hrd hen hly hwr ⊢
  have hg0 : w.heap.size + 2 ≤ gu := by omega
  have HBX := Lib.hid hbx
  have HRD := Lib.hid hrd
  have HEN := Lib.hid hen
  have HLY := Lib.hid hly
  have HWR := Lib.hid hwr
  have H0 := Lib.hid h0
  clear hW1 hz hbeg hbx hrd hen hly hwr h0 HALL hmm hgu
  go_loopw [17] (fun iv wr => ∃ k : Nat, k ≤ n ∧ iv = .int .i64 k ∧ Hid (ST k wr)) (fun iv _ => n - (intOf iv).toNat)
  case atStart => exact ⟨0, Nat.zero_le _, rfl, H0⟩
  case round =>
    obtain ⟨k, hk, rfl, HS⟩ := hrel
    obtain ⟨hbxk, cU, hcu, z, hz⟩ := HBX.out k wr HS.out
    by_cases hlt : k < n
    · have hk' : (k : Int) < n := by omega
      obtain ⟨va', vc', ev, _, hcl⟩ := id HV.out
      injection ev with e1 _ e3
      subst e1 e3
      obtain ⟨b, o', rfl, hbl, hcell⟩ := hcl (by omega)
      obtain ⟨td, tn, tc, r0, r1, r2⟩ := hcell k hlt
      have HC := Lib.hid (HRD.out k hlt wr _ HS.out r2)
      generalize pos k = p at *
      have c1 : wr.cell? ⟨gu, 1, none⟩ = some (.int .i64 z) := blk_cell hcu hz
      have f1 : wr.frozen? ⟨gu, 1, none⟩ = false := blk_froz hcu
      have hgw := blk_lt hcu
      have hBw := hbxk.bel
      replace r0 := (hBw.cell (by show b < w.heap.size; exact hbl)).trans r0
      replace r1 := (hBw.cell (by show b < w.heap.size; exact hbl)).trans r1
      have hbr : b < wr.heap.size := Nat.lt_of_lt_of_le hbl hBw.size
      have hbn : b ≠ gu := by omega
      clear r2 hBw hcell hcl hbxk hcu hz
      go_wp2_with (first | (go_at_call 71; refine HC.out.mono ?_; rintro e' w3 ⟨rfl, hs3⟩; have HS3 := Lib.hid hs3; clear hs3) | fail)
      exact ⟨⟨k + 1, by omega, by go_num, HS3⟩, by simp [intOf]; omega⟩
    · have hkn : n = k := by omega
      subst hkn
      have hk' : ¬ ((n : Nat) : Int) < n := by omega
      have HE := Lib.hid (HEN.out wr HS.out)
      clear hbxk hcu hz
      go_wp2_with (first
        | (go_at_call 72; refine HE.out.mono ?_; rintro e' w4 ⟨rfl, hE4⟩)
        | fail)
      refine (HLY.out _ hE4).mono ?_
      rintro e' w5 ⟨rfl, hF5⟩
      have HC := Lib.hid (HWR.out _ hF5)
      clear hF5 hE4 HE HLY HEN HWR HRD HBX
      go_wp2_with (first | (go_at_call 74; refine HC.out.mono ?_; rintro e' w6 ⟨ca, cl, cc, sa, sl, sc, qa, ql, qc, rfl, hob, hbx6⟩; have z0 := hbx6.x0; have z1 := hbx6.x1; have g0 : w6.cell? ⟨w.heap.size, 0, none⟩ = some (.slice none 0 0) := blk_cell z0 rfl; have g1 : w6.cell? ⟨w.heap.size, 1, none⟩ = some (.slice none 0 0) := blk_cell z0 rfl; have g2 : w6.cell? ⟨w.heap.size, 2, none⟩ = some (.slice none 0 0) := blk_cell z0 rfl; have q0 : w6.frozen? ⟨w.heap.size, 0, none⟩ = false := blk_froz z0; have q1 : w6.frozen? ⟨w.heap.size, 1, none⟩ = false := blk_froz z0; have q2 : w6.frozen? ⟨w.heap.size, 2, none⟩ = false := blk_froz z0; obtain ⟨⟨u0, u1⟩, t0, t1⟩ := var2_of z1; have HOB := Lib.hid hob; have HB6 := Lib.hid hbx6.bel; have Z0 := Lib.hid z0; have Z1 := Lib.hid z1; have zz := blk_lt z1; clear hob hbx6 z0 z1) | fail)
      have n3 : ∀ (x y z : Option Addr) (a b c d e f : Nat) (j : Nat) (n : Int), (#[Value.slice x a b, .slice y c d, .slice z e f] : Array Value)[j]? ≠ some (.int .u8 n) := by
        intro x y z a b c d e f j n h
        rcases j with _ | _ | _ | j <;> simp at h
      have m3 : ∀ (x y z : Option Addr) (a b c d e f : Nat) (j : Nat) (n : ByteArray), (#[Value.slice x a b, .slice y c d, .slice z e f] : Array Value)[j]? ≠ some (.string n) := by
        intro x y z a b c d e f j n h
        rcases j with _ | _ | _ | j <;> simp at h
      have n2 : ∀ (a b : Int) (j : Nat) (n : Int), (#[Value.int .i64 a, .int .i64 b] : Array Value)[j]? ≠ some (.int .u8 n) := by
        intro a b j n h
        rcases j with _ | _ | j <;> simp at h
      have m2 : ∀ (a b : Int) (j : Nat) (n : ByteArray), (#[Value.int .i64 a, .int .i64 b] : Array Value)[j]? ≠ some (.string n) := by
        intro a b j n h
        rcases j with _ | _ | j <;> simp at h
      have o1 := HOB.out.set (i := 0) (v := .slice ca cl cc) Z0.out (m3 _ _ _ _ _ _ _ _ _) (n3 _ _ _ _ _ _ _ _ _)
      have z1 := blk_set (i := 0) (v := .slice ca cl cc) Z0.out
      have o2 := o1.set (i := 1) (v := .slice sa sl sc) z1 (m3 _ _ _ _ _ _ _ _ _) (n3 _ _ _ _ _ _ _ _ _)
      have z2 := blk_set (i := 1) (v := .slice sa sl sc) z1
      have o3 := o2.set (i := 2) (v := .slice qa ql qc) z2 (m3 _ _ _ _ _ _ _ _ _) (n3 _ _ _ _ _ _ _ _ _)
      have Z1b : (((w6.setCell ⟨w.heap.size, 0, none⟩ (.slice ca cl cc)).setCell ⟨w.heap.size, 1, none⟩ (.slice sa sl sc)).setCell ⟨w.heap.size, 2, none⟩ (.slice qa ql qc)).heap[w.heap.size + 1]? = some (.cells #[.int .i64 0, .int .i64 0] 36 (0, 0)) := by
        rw [Below.heap_setCell _ _ _ _ (by show w.heap.size + 1 ≠ w.heap.size; omega), Below.heap_setCell _ _ _ _ (by show w.heap.size + 1 ≠ w.heap.size; omega), Below.heap_setCell _ _ _ _ (by show w.heap.size + 1 ≠ w.heap.size; omega)]
        exact Z1.out
      have o4 := o3.set (i := 0) (v := .int .i64 0) Z1b (m2 _ _) (n2 _ _)
      have o5 := o4.set (i := 1) (v := .int .i64 0) (blk_set (i := 0) (v := .int .i64 0) Z1b) (m2 _ _) (n2 _ _)
      exact bodyPost_ret (v := .tuple #[.agg #[.slice ca cl cc, .slice sa sl sc, .slice qa ql qc], .agg #[.int .i64 0, .int .i64 0]]) (by simp [results, Tryz.results44, go_sem, g0, g1, g2, u0, u1]) rfl ⟨⟨ca, cl, cc, sa, sl, sc, qa, ql, qc, rfl, o5⟩, ((((HB6.out.setCell (Nat.le_refl _) _).setCell (Nat.le_refl _) _).setCell (Nat.le_refl _) _).setCell (Nat.le_succ _) _).setCell (Nat.le_succ _) _⟩

end Go.Proofs.YtgjmbjahgcndnaaGreatDoor

namespace Go.Proofs.YtgjmbjahgcndnaaGreatDoor
open Go.RowKit

set_option maxHeartbeats 4000000 in
theorem unit_sx (v : Value) (src : List UInt8) (lns : List Sc.Ln) (o : Ob) (w : World) (LR : World → Value → Prop) (hv : Sc.BReads w v src) (hsrc : Sc.srcLines src = .ok lns) (hG : Sc.Glob w)
    (hLR : ∀ W v, LR W v → ∃ a n c, v = .slice a n c) (hgo : ∀ W W' v, LR W v → Below W.heap.size W W' → LR W' v)
    (hsh : ∀ v W, Below w.heap.size w W → LIn W v lns → Calls Tryz.prog 43 #[v] W fun r w' => (∃ lv, r = .returned (.tuple #[lv, .slice none 0 0, .agg #[.int .i64 0, .int .i64 0]]) ∧ LR w' lv) ∧ Below W.heap.size W w')
    (hbd : ∀ v W, Below w.heap.size w W → LR W v → Calls Tryz.prog 44 #[v, .slice none 0 0] W fun r w' => (∃ ca cl cc sa sl sc qa ql qc, r = .returned (.tuple #[.agg #[.slice ca cl cc, .slice sa sl sc, .slice qa ql qc], .agg #[.int .i64 0, .int .i64 0]]) ∧ ObjAt w' (.slice ca cl cc) (.slice sa sl sc) (.slice qa ql qc) o) ∧ Below W.heap.size W w') :
    Calls Tryz.prog 23 #[v] w fun r w' => (∃ ca cl cc sa sl sc qa ql qc, r = .returned (.tuple #[.agg #[.slice ca cl cc, .slice sa sl sc, .slice qa ql qc], .agg #[.int .i64 0, .int .i64 0]]) ∧ ObjAt w' (.slice ca cl cc) (.slice sa sl sc) (.slice qa ql qc) o) ∧ Below w.heap.size w w' := by
  have hs := Sc.src_ok hsrc
  have HLN := Lib.hid fun W (hb : Below w.heap.size w W) => Sc.lines_any v (src) W (hG.below hb hG.sz) (by
    obtain ⟨ad, cap, rfl, hm, hc⟩ := hv
    refine ⟨ad, cap, rfl, hm, fun h0 => ?_⟩
    obtain ⟨b, o, rfl, hlt, hcell⟩ := hc h0
    exact ⟨b, o, rfl, Nat.lt_of_lt_of_le hlt hb.size, fun i hi => by rw [hb.cell (by exact hlt)]; exact hcell i hi⟩)
  obtain ⟨ad, cap, rfl, _⟩ := hv
  obtain ⟨hs1, hs2, hs3⟩ := hs
  have HSH := Lib.hid hsh
  have HLR0 := Lib.hid hLR
  have HGO := Lib.hid hgo
  have HBD := Lib.hid hbd
  clear hG hbd hsh hLR hgo
  go_enter Tryz.func23, Tryz.ntmps23
  go_wp2_with fail
  refine (HLN.out _ (by go_grown)).mono ?_
  rintro e w1 ⟨⟨lv, ps, rfl, hps, hlo⟩, hb1⟩
  rw [hs1, hs2]
  rw [hs3] at hps
  have hlin := lin_of hlo
  rw [hps] at hlin
  obtain ⟨la, lc, hlv⟩ := row_shape hlo.row
  subst hlv
  have x0 : w1.heap[w.heap.size]? = some (.cells #[.slice none 0 0, .slice none 0 0, .slice none 0 0] 49 (0, 0)) := by
    rw [hb1.block _ (by go_size), old2 _ _ (by go_size)]
    exact new_at _ _ rfl
  have x1 : w1.heap[w.heap.size + 1]? = some (.cells #[.int .i64 0, .int .i64 0] 36 (0, 0)) := by
    rw [hb1.block _ (by go_size)]
    exact new_at _ _ (by go_size)
  have HB1 : Hid (Below w.heap.size w w1) := Below.trans (by go_grown) (hb1.mono (by go_size))
  have HSC := Lib.hid fun W (hb : Below w1.heap.size w1 W) => HSH.out (.slice la ps.length lc) W (HB1.out.trans (hb.mono HB1.out.size)) (by
    obtain ⟨ad', cap', e, hh⟩ := hlin
    refine ⟨ad', cap', e, fun h0 => ?_⟩
    obtain ⟨b, o, rfl, hlt, hc⟩ := hh h0
    refine ⟨b, o, rfl, Nat.lt_of_lt_of_le hlt hb.size, fun i hi => ?_⟩
    obtain ⟨tv, a1, a2, a3⟩ := hc i hi
    exact ⟨tv, by rw [hb.cell (by exact hlt)]; exact a1, by rw [hb.cell (by exact hlt)]; exact a2, a3.below hb (Nat.le_refl _)⟩)
  have X0 := Lib.hid x0
  have X1 := Lib.hid x1
  clear hb1 hlo hlin hps x0 x1 HLN HSH hs1 hs2 hs3
  go_wp2_with fail
  refine (HSC.out _ (oalloc _ _)).mono ?_
  rintro e w2 ⟨⟨sv, rfl, hlr⟩, hb2⟩
  obtain ⟨sa, sn, sc, hsv⟩ := HLR0.out _ _ hlr
  subst hsv
  obtain ⟨hB2, hz2, yr⟩ := box_keep hb2
  have HB2 := Lib.hid (HB1.out.trans (hB2.mono HB1.out.size))
  have X02 := Lib.hid ((hB2.block _ (blk_lt X0.out)).trans X0.out)
  have X12 := Lib.hid ((hB2.block _ (blk_lt X1.out)).trans X1.out)
  have HLR := Lib.hid hlr
  have YR := Lib.hid yr
  obtain ⟨⟨u0, u1⟩, f0, f1⟩ := var2_of yr
  clear hb2 hB2 yr hlr HSC X0 X1 HB1
  go_wp2_with fail
  have hsame : Below w2.heap.size w2 ((w2.setCell ⟨w1.heap.size, 0, none⟩ (.int .i64 0)).setCell ⟨w1.heap.size, 1, none⟩ (.int .i64 0)) := (same_set YR.out rfl).trans (same_set (same_blk YR.out rfl) rfl)
  have hlr3 := HGO.out _ _ _ HLR.out hsame
  refine (HBD.out _ _ (HB2.out.trans (hsame.mono HB2.out.size)) hlr3).mono ?_
  rintro e w6 ⟨⟨ca, cl, cc, sa', sl, sc', qa, ql, qc, rfl, hob⟩, hb6⟩
  have hb7 : Below w2.heap.size w2 w6 := hsame.trans (hb6.mono hsame.size)
  have z0 := (hb7.block _ (blk_lt X02.out)).trans X02.out
  have z1 := (hb7.block _ (blk_lt X12.out)).trans X12.out
  have g0 : w6.cell? ⟨w.heap.size, 0, none⟩ = some (.slice none 0 0) := blk_cell z0 rfl
  have g1 : w6.cell? ⟨w.heap.size, 1, none⟩ = some (.slice none 0 0) := blk_cell z0 rfl
  have g2 : w6.cell? ⟨w.heap.size, 2, none⟩ = some (.slice none 0 0) := blk_cell z0 rfl
  have q0 : w6.frozen? ⟨w.heap.size, 0, none⟩ = false := blk_froz z0
  have q1 : w6.frozen? ⟨w.heap.size, 1, none⟩ = false := blk_froz z0
  have q2 : w6.frozen? ⟨w.heap.size, 2, none⟩ = false := blk_froz z0
  obtain ⟨⟨v0, v1⟩, t0, t1⟩ := var2_of z1
  have HOB := Lib.hid hob
  have HB6 := Lib.hid (HB2.out.trans (hb7.mono HB2.out.size))
  have Z0 := Lib.hid z0
  have Z1 := Lib.hid z1
  clear hob hb6 hb7 z0 z1 hsame hlr3 HBD HLR u0 u1 f0 f1
  go_wp2_with fail
  have n3 : ∀ (x y z : Option Addr) (a b c d e f : Nat) (j : Nat) (n : Int), (#[Value.slice x a b, .slice y c d, .slice z e f] : Array Value)[j]? ≠ some (.int .u8 n) := by
    intro x y z a b c d e f j n h
    rcases j with _ | _ | _ | j <;> simp at h
  have m3 : ∀ (x y z : Option Addr) (a b c d e f : Nat) (j : Nat) (n : ByteArray), (#[Value.slice x a b, .slice y c d, .slice z e f] : Array Value)[j]? ≠ some (.string n) := by
    intro x y z a b c d e f j n h
    rcases j with _ | _ | _ | j <;> simp at h
  have n2 : ∀ (a b : Int) (j : Nat) (n : Int), (#[Value.int .i64 a, .int .i64 b] : Array Value)[j]? ≠ some (.int .u8 n) := by
    intro a b j n h
    rcases j with _ | _ | j <;> simp at h
  have m2 : ∀ (a b : Int) (j : Nat) (n : ByteArray), (#[Value.int .i64 a, .int .i64 b] : Array Value)[j]? ≠ some (.string n) := by
    intro a b j n h
    rcases j with _ | _ | j <;> simp at h
  have o1 := HOB.out.set (i := 0) (v := .slice ca cl cc) Z0.out (m3 _ _ _ _ _ _ _ _ _) (n3 _ _ _ _ _ _ _ _ _)
  have z1 := blk_set (i := 0) (v := .slice ca cl cc) Z0.out
  have o2 := o1.set (i := 1) (v := .slice sa' sl sc') z1 (m3 _ _ _ _ _ _ _ _ _) (n3 _ _ _ _ _ _ _ _ _)
  have z2 := blk_set (i := 1) (v := .slice sa' sl sc') z1
  have o3 := o2.set (i := 2) (v := .slice qa ql qc) z2 (m3 _ _ _ _ _ _ _ _ _) (n3 _ _ _ _ _ _ _ _ _)
  have Z1b : (((w6.setCell ⟨w.heap.size, 0, none⟩ (.slice ca cl cc)).setCell ⟨w.heap.size, 1, none⟩ (.slice sa' sl sc')).setCell ⟨w.heap.size, 2, none⟩ (.slice qa ql qc)).heap[w.heap.size + 1]? = some (.cells #[.int .i64 0, .int .i64 0] 36 (0, 0)) := by
    rw [Below.heap_setCell _ _ _ _ (by show w.heap.size + 1 ≠ w.heap.size; omega), Below.heap_setCell _ _ _ _ (by show w.heap.size + 1 ≠ w.heap.size; omega), Below.heap_setCell _ _ _ _ (by show w.heap.size + 1 ≠ w.heap.size; omega)]
    exact Z1.out
  have o4 := o3.set (i := 0) (v := .int .i64 0) Z1b (m2 _ _) (n2 _ _)
  have o5 := o4.set (i := 1) (v := .int .i64 0) (blk_set (i := 0) (v := .int .i64 0) Z1b) (m2 _ _) (n2 _ _)
  exact bodyPost_ret (v := .tuple #[.agg #[.slice ca cl cc, .slice sa' sl sc', .slice qa ql qc], .agg #[.int .i64 0, .int .i64 0]]) (by simp [results, Tryz.results23, go_sem, g0, g1, g2, v0, v1]) rfl ⟨⟨ca, cl, cc, sa', sl, sc', qa, ql, qc, rfl, o5⟩, ((((HB6.out.setCell (Nat.le_refl _) _).setCell (Nat.le_refl _) _).setCell (Nat.le_refl _) _).setCell (Nat.le_succ _) _).setCell (Nat.le_succ _) _⟩

end Go.Proofs.YtgjmbjahgcndnaaGreatDoor
