/- What is laid stays; numbers as texts. asm: the unit of dis' lines (DisTurns). asm: the unit of TopLeap's source. asm: the unit of TopLeap's source: what comes of it. asm: the units of TopLeap's source, and of what pltop asks ahead of all else. -/
import Derived.Test.YtjmjhbdlbmnllaaGreatDoorPut46
import Derived.Test.YtjmjhbdlbmnllaaGreatDoorDsShelf
import Derived.Lib.ConvBytes
import Derived.Lib.AtoiErrMem
import Derived.Test.YtjmjhbdlbmnllaaGreatDoorPut51
import Derived.Test.YtjmjhbdlbmnllaaGreatDoorPut50
import Derived.Test.YtjmjhbdlbmnllaaGreatDoorPut49
namespace Go.Proofs.YtjmjhbdlbmnllaaGreatDoor
open Go.RowKit Go.Maps Go.MapKept

theorem AllLaid.next {w w' : World} (h : AllLaid w) (hb : Below w.heap.size w w') : AllLaid w' := ⟨h.isa.below hb h.isa.sz, h.frm.below hb h.frm.sz, KL.below h.ex hb, h.gl.below hb h.gl.sz⟩

end Go.Proofs.YtjmjhbdlbmnllaaGreatDoor

namespace Go.Proofs.YtjmjhbdlbmnllaaGreatDoor
open Go.RowKit Go.Maps Go.MapKept

def dataG (size n : Int) : List (Bool × Sc.Tok) := [(false, wdT (if size = 1 then byteN else wordN)), (true, ⟨2, n, []⟩)]
def labG (p : Nat) : List (Bool × Sc.Tok) := [(false, wdT (plW p)), (false, sgT 58)]
def Dl.glue : Dl → List (Bool × Sc.Tok)
  | .lab p => labG p
  | .ins k n m imm p => lineG (nameN k) (Isa.opShape k) n m imm p
  | .num size n => dataG size n
def Dl.line (d : Dl) : List UInt8 × List Sc.Tok := (Sc.glue d.glue, d.glue.map (·.2))
theorem line_toks (d : Dl) : d.line.2.map tkOf = d.toks := by
  cases d with
  | lab p => rfl
  | ins k n m imm p =>
    have := toks_insD k n m imm p
    show ((lineG (nameN k) (Isa.opShape k) n m imm p).map (·.2)).map tkOf = _
    rw [List.map_map]
    exact this
  | num size n => rfl
/-- What is asked of a line. -/
def Dl.fine : Dl → Prop
  | .lab p => p ≤ 2000
  | .ins k n m imm p => Known k n m imm ∧ Isa.wrongI k n m imm = 0 ∧ p ≤ 2000
  | .num size n => (size = 1 ∧ 0 ≤ n ∧ n ≤ 255) ∨ (size = 2 ∧ 0 ≤ n ∧ n ≤ 65535)
theorem fine_ok {d : Dl} (h : d.fine) : d.ok := by
  cases d with
  | lab p => exact h
  | ins k n m imm p => exact known_ok h.1 h.2.1 p h.2.2
  | num size n =>
    rcases h with ⟨rfl, h0, h1⟩ | ⟨rfl, h0, h1⟩
    · refine ⟨.inl rfl, h0, by omega, ?_⟩
      unfold fitsU
      rw [if_pos (by decide)]
      simp
      omega
    · refine ⟨.inr rfl, h0, by omega, ?_⟩
      unfold fitsU
      rw [if_neg (by decide), if_pos (by decide)]
      simp
      omega
theorem name_of {k : Nat} (h0 : 1 ≤ k) (h1 : k ≤ 27) : goodW (nameN k) = true ∧ (nameN k).length ≤ 20 := by
  have hnm := range_all name_all (k - 1) (by omega)
  have hk1 : k - 1 + 1 = k := by omega
  simp only [nameB', hk1, Bool.and_eq_true, decide_eq_true_eq] at hnm
  exact ⟨hnm.1.1, hnm.1.2⟩
theorem fine_line {d : Dl} (h : d.fine) : OkL d.line.1 d.line.2 := by
  cases d with
  | lab p =>
    have gp := plW_good p h
    have hf : Sc.Fit (labG p) := ⟨good_wd gp.1, .inr rfl, good_sg (by decide), .inl rfl, trivial⟩
    have hl : (Sc.glue (labG p)).length ≤ 80 := by
      have := glue_len (labG p)
      have e : Sc.prT (wdT (plW p)) = plW p := rfl
      have e2 : (Sc.prT (sgT 58)).length = 1 := rfl
      simp only [labG, List.map_cons, List.map_nil, List.sum_cons, List.sum_nil, e, e2] at this
      have := gp.2.2.2
      unfold labG
      omega
    obtain ⟨e1, e2, e3⟩ := Sc.glue_line hf hl
    exact ⟨e1, e2, by simp [Dl.line, Dl.glue, labG], e3, hl⟩
  | ins k n m imm p =>
    obtain ⟨hk, hw, hp⟩ := h
    obtain ⟨hn, hl⟩ := name_of hk.k0 hk.k1
    exact ok_lineG (nameN k) hn hl _ n m imm p hk.n0 hk.n1 hk.m0 hk.m1 (by have := hk.i0; omega) (by have := hk.i1; omega) hp
  | num size n =>
    have hn : 0 ≤ n ∧ n ≤ 65535 := by rcases h with ⟨_, h⟩ | ⟨_, h⟩ <;> omega
    have hg : goodW (if size = 1 then byteN else wordN) = true := by split <;> decide
    have hf : Sc.Fit (dataG size n) := ⟨good_wd hg, .inr rfl, good_nat n hn.1 (by omega), .inr rfl, trivial⟩
    have hl : (Sc.glue (dataG size n)).length ≤ 80 := by
      have := glue_len (dataG size n)
      have e : Sc.prT (wdT (if size = 1 then byteN else wordN)) = (if size = 1 then byteN else wordN) := rfl
      have e2 : Sc.prT ⟨2, n, []⟩ = Lib.itoa n := rfl
      have e3 := Lib.itoa_length_le n (by omega) (by omega)
      have e4 : (if size = 1 then byteN else wordN).length = 5 := by split <;> rfl
      simp only [dataG, List.map_cons, List.map_nil, List.sum_cons, List.sum_nil, e, e2, e4] at this
      unfold dataG
      omega
    obtain ⟨e1, e2, e3⟩ := Sc.glue_line hf hl
    exact ⟨e1, e2, by simp [Dl.line, Dl.glue, dataG], e3, hl⟩

theorem head_all : (List.range 27).all (fun (k : Nat) => heads.all fun q => !(nameN (k + 1) == q)) = true := by kernel_rfl
theorem fine_plain {d : Dl} (h : d.fine) : d.line.2.length ≤ 100 ∧ PlainHead (headS (d.line.2.map tkOf)) := by
  cases d with
  | lab p =>
    refine ⟨by simp [Dl.line, Dl.glue, labG], ph_of _ _ (fun q hq => ?_)⟩
    simp only [heads, List.mem_cons, List.not_mem_nil, or_false] at hq
    rcases hq with rfl | rfl | rfl | rfl | rfl | rfl | rfl | rfl <;> rfl
  | ins k n m imm p =>
    obtain ⟨hk, hw, hp⟩ := h
    refine ⟨?_, ph_of (nameN k) _ (fun q hq => ?_)⟩
    · show ((lineG (nameN k) (Isa.opShape k) n m imm p).map (·.2)).length ≤ 100
      unfold lineG operG numG
      repeat' split
      all_goals simp
    · have := range_all head_all (k - 1) (by have := hk.k0; have := hk.k1; omega)
      rw [show k - 1 + 1 = k by have := hk.k0; omega] at this
      have := List.all_eq_true.1 this q hq
      simpa using this
  | num size n =>
    refine ⟨by simp [Dl.line, Dl.glue, dataG], ph_of _ _ (fun q hq => ?_)⟩
    simp only [heads, List.mem_cons, List.not_mem_nil, or_false] at hq
    rcases hq with rfl | rfl | rfl | rfl | rfl | rfl | rfl | rfl <;> (split <;> rfl)

theorem lns_dl : ∀ (l : List Dl) (j : Nat), (numLn j (l.map fun d => d.line.2)).map lnOf = (numD j l).map fun a => (a.1, a.2.toks)
  | [], j => rfl
  | d :: l, j => by
    have ih := lns_dl l (j + 1)
    have e := line_toks d
    simp only [List.map_cons, numLn, numD, lnOf] at ih ⊢
    rw [ih, e]
theorem numD_mem : ∀ (l : List Dl) (j : Nat) (a : Int × Dl), a ∈ numD j l → a.2 ∈ l
  | [], j, a, h => by simp [numD] at h
  | d :: l, j, a, h => by
    simp only [numD, List.mem_cons] at h
    rcases h with rfl | h
    · simp
    · exact List.mem_cons_of_mem _ (numD_mem l (j + 1) a h)
theorem numD_len : ∀ (l : List Dl) (j : Nat), (numD j l).length = l.length
  | [], j => rfl
  | d :: l, j => by simp [numD, numD_len l (j + 1)]
theorem labsD_app (b : List (Int × Dl)) : ∀ (a : List (Int × Dl)) (k : Nat), labsD k (a ++ b) = labsD k a ++ labsD (k + (itsD a).length) b
  | [], k => by simp [labsD, itsD]
  | x :: a, k => by
    have ih := labsD_app b a (k + (x.2.its x.1).length)
    rw [List.cons_append, labsD, ih, labsD, List.append_assoc]
    have e : k + (x.2.its x.1).length + (itsD a).length = k + (itsD (x :: a)).length := by simp [itsD]; omega
    rw [e]
theorem labelAt_none (nm : List UInt8) : ∀ l : List (List UInt8 × Nat), (∀ x, x ∈ l → x.1 ≠ nm) → labelAt nm l = none
  | [], _ => rfl
  | (a, k) :: l, h => by
    have h1 := h (a, k) (by simp)
    rw [labelAt, if_neg h1]
    exact labelAt_none nm l fun x hx => h x (by simp [hx])
/-- Each name stands once. -/
theorem free_dl (led : Nat → Bool) (r : List Dl) (hr : ∀ d, d ∈ r → d.row = true) (hn : r.length ≤ 1000) : ∀ k (hk : k < (numD 1 (withLabs led 0 r)).length) p, (numD 1 (withLabs led 0 r))[k].2 = .lab p → labelAt (plW p) (labsD 0 ((numD 1 (withLabs led 0 r)).take k)) = none := by
  intro k hk p e
  have hf := labs_of led r 0 1 hr
  generalize numD 1 (withLabs led 0 r) = ls at *
  have hsp : ls = ls.take k ++ (ls[k] :: ls.drop (k + 1)) := by rw [List.getElem_cons_drop, List.take_append_drop]
  have happ := labsD_app (ls[k] :: ls.drop (k + 1)) (ls.take k) 0
  rw [← hsp, hf] at happ
  rw [labsD, e] at happ
  have hnd : ((labP ((List.range' 0 r.length).filter led)).map (·.1)).Nodup := by
    have : (labP ((List.range' 0 r.length).filter led)).map (·.1) = ((List.range' 0 r.length).filter led).map fun i => plW (2 * i) := by simp [labP]
    rw [this]
    have hL : ((List.range' 0 r.length).filter led).Nodup := List.Pairwise.filter _ (List.nodup_range' ..)
    refine List.pairwise_map.2 (List.Pairwise.imp_of_mem ?_ hL)
    intro x y hx hy hne hxy
    simp at hx hy
    exact hne (by have := plW_inj (by omega) (by omega) hxy; omega)
  rw [happ, List.map_append] at hnd
  refine labelAt_none _ _ fun x hx hxe => ?_
  have h3 := (List.nodup_append.1 hnd).2.2 x.1 (List.mem_map.2 ⟨x, hx, rfl⟩) (plW p) (by simp [Dl.labs])
  exact h3 hxe

theorem row_fine {led : Nat → Bool} {n i : Nat} {d : Dl} (h : RowOk led n i d) : d.fine := by
  cases d with
  | lab p => cases h
  | ins k a b imm p => exact ⟨h.1, h.2.1, h.2.2.1⟩
  | num size u =>
    rcases h with ⟨h1, h2, h3⟩ | ⟨h1, _, h2, h3⟩
    · exact .inr ⟨h1, h2, h3⟩
    · exact .inl ⟨h1, h2, h3⟩
theorem with_mem (led : Nat → Bool) : ∀ (r : List Dl) (k : Nat) (d : Dl), d ∈ withLabs led k r → d ∈ r ∨ ∃ i, k ≤ i ∧ i < k + r.length ∧ d = .lab (2 * i)
  | [], k, d, h => by simp [withLabs] at h
  | x :: r, k, d, h => by
    unfold withLabs at h
    have ih := with_mem led r (k + 1) d
    have key : d ∈ withLabs led (k + 1) r → d ∈ x :: r ∨ ∃ i, k ≤ i ∧ i < k + (x :: r).length ∧ d = .lab (2 * i) := by
      intro h
      rcases ih h with h | ⟨i, h1, h2, h3⟩
      · exact .inl (List.mem_cons_of_mem _ h)
      · exact .inr ⟨i, by omega, by simp; omega, h3⟩
    split at h
    · rcases List.mem_cons.1 h with rfl | h
      · exact .inr ⟨k, Nat.le_refl _, by simp, rfl⟩
      · rcases List.mem_cons.1 h with rfl | h
        · exact .inl (by simp)
        · exact key h
    · rcases List.mem_cons.1 h with rfl | h
      · exact .inl (by simp)
      · exact key h

/-- What Unit makes of a source. -/
def UnitIs (v : Value) (ob : Ob) (W : World) : Prop := Calls Tryz.prog 6 #[v] W fun e w' => (∃ ca cl cc sa sl sc qa ql qc, e = .returned (.tuple #[.agg #[.slice ca cl cc, .slice sa sl sc, .slice qa ql qc], .agg #[.int .i64 0, .int .i64 0]]) ∧ ObjAt w' (.slice ca cl cc) (.slice sa sl sc) (.slice qa ql qc) ob) ∧ Below W.heap.size W w'
def obDl (led : Nat → Bool) (r : List Dl) : Ob := ⟨(r.map Dl.bytes).flatten, symsU ⟨labP ((List.range' 0 r.length).filter led), itsD (numD 1 (withLabs led 0 r)), fun _ => 0⟩ (tellU 0 (itsD (numD 1 (withLabs led 0 r)))), []⟩
theorem unit_dl (v : Value) (led : Nat → Bool) (r : List Dl) (hR : ∀ i (h : i < r.length), RowOk led r.length i r[i]) (hn : r.length ≤ 1000) (h0 : 0 < r.length) (hl : (withLabs led 0 r).length ≤ 200) (hS : (srcB ((withLabs led 0 r).map Dl.line)).length ≤ 1200) (w : World) (hA : AllLaid w) (hv : Sc.BReads w v (srcB ((withLabs led 0 r).map Dl.line))) : UnitIs v (obDl led r) w := by
  have hrow : ∀ d, d ∈ r → d.row = true := by
    intro d hd
    obtain ⟨i, hi, rfl⟩ := List.getElem_of_mem hd
    exact (hR i hi).row
  have hfine : ∀ d, d ∈ withLabs led 0 r → d.fine := by
    intro d hd
    rcases with_mem led r 0 d hd with hd | ⟨i, _, hi, rfl⟩
    · obtain ⟨i, hi, rfl⟩ := List.getElem_of_mem hd
      exact row_fine (hR i hi)
    · show 2 * i ≤ 2000
      omega
  have hL : ∀ x, x ∈ (withLabs led 0 r).map Dl.line → OkL x.1 x.2 := by
    intro x hx
    obtain ⟨d, hd, rfl⟩ := List.mem_map.1 hx
    exact fine_line (hfine d hd)
  have hP : ∀ x, x ∈ (withLabs led 0 r).map Dl.line → x.2.length ≤ 100 ∧ PlainHead (headS (x.2.map tkOf)) := by
    intro x hx
    obtain ⟨d, hd, rfl⟩ := List.mem_map.1 hx
    exact fine_plain (hfine d hd)
  have hnl : ∀ (l : List (List Sc.Tok)) (k : Nat), (numLn k l).length = l.length := by
    intro l
    induction l with
    | nil => intro k; rfl
    | cons a r ih => intro k; simp [numLn, ih]
  refine unit_gen v _ (srcN ((withLabs led 0 r).map Dl.line)) (obDl led r) w hv (src_len _ hL hS) (by rw [srcN, hnl]; simpa using hl) (srcN_plain _ hP) hA.gl ?_
  intro u W hbw hlr
  have e : (srcN ((withLabs led 0 r).map Dl.line)).map lnOf = (numD 1 (withLabs led 0 r)).map fun a => (a.1, a.2.toks) := by
    rw [srcN, List.map_map]
    exact lns_dl (withLabs led 0 r) 1
  rw [e] at hlr
  refine build_gen u _ _ W hlr (by rw [List.length_map, numD_len]; omega) (fun gu mb gp mi W1 h => ?_)
  have hlab := labs_of led r 0 1 hrow
  refine makes_dl W W1 gu mb gp mi (numD 1 (withLabs led 0 r)) (obDl led r) (hA.next hbw) h (by rw [numD_len]; omega) (fun a ha => fine_ok (hfine _ (numD_mem _ 1 a ha))) (free_dl led r hrow hn) (fun X => ?_)
  rw [hlab]
  exact fin_dl (its_of led r 0 1 hrow) hR hn W X gu mb h0

end Go.Proofs.YtjmjhbdlbmnllaaGreatDoor

namespace Go.Proofs.YtjmjhbdlbmnllaaGreatDoor
open Go.RowKit

end Go.Proofs.YtjmjhbdlbmnllaaGreatDoor

namespace Go.Proofs.YtjmjhbdlbmnllaaGreatDoor
open Go.RowKit

end Go.Proofs.YtjmjhbdlbmnllaaGreatDoor

namespace Go.Proofs.YtjmjhbdlbmnllaaGreatDoor
open Go.RowKit

/-! What pltop asks first. -/
end Go.Proofs.YtjmjhbdlbmnllaaGreatDoor
