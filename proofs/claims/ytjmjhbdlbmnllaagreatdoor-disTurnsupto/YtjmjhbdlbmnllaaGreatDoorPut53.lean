/- asm: what is asked at the end of lines where nothing leads near; lines of instructions alone; what pltop asks first, so read. asm.Unit of no source (DisTurns). Macro and asm: more lines than may be; a source that is too long (DisTurns). Macro: do of more lines than may be (DisTurns). Macro.Short, and asm.Unit, of more lines than may be, or of a source that is too long (DisTurns). asm.Unit of a source that is too long, or has more lines than may be (DisTurns). asm.Unit of a source that has more lines than may be (DisTurns). The text of bytes is of lines as asm reads them: the mathematics (DisTurns). How long dis' text is, how many lines it has, and what its rows' bytes are (DisTurns). pllaw8.DisTurns answers true. -/
import Derived.Test.YtjmjhbdlbmnllaaGreatDoorPut51
import Derived.Test.YtjmjhbdlbmnllaaGreatDoorPut45
import Derived.Test.YtjmjhbdlbmnllaaGreatDoorPut52
import Derived.Test.YtjmjhbdlbmnllaaGreatDoorPut20
import Derived.Test.YtjmjhbdlbmnllaaGreatDoorPut27
import Derived.Test.YtjmjhbdlbmnllaaGreatDoorDtR
namespace Go.Proofs.YtjmjhbdlbmnllaaGreatDoor
open Go.RowKit Go.Maps Go.MapKept

/-- All that is asked at the end of lines. -/
structure FinE (W : World) (labs : List (List UInt8 × Nat)) (firsts : Nat → Nat) (its : List It) (ob : Ob) : Prop where
  ok : ∀ i, i ∈ its → EndOk W firsts its.length i
  n : its.length ≤ 1000
  lbk : ∀ nm k, labelAt nm labs = some k → k ≤ its.length
  lbs : ∀ j (h : j < labs.length), labelAt labs[j].1 labs = some labs[j].2 ∧ labs[j].1.length ≤ maxLen
  ll : labs.length ≤ 100000
  last : (tellU 0 its).getD its.length 0 ≤ 8000
  wr : writeU ⟨labs, its, firsts⟩ (tellU 0 its) 0 [] [] its = .ok (ob.code, ob.rels)
  sy : ob.syms = symsU ⟨labs, its, firsts⟩ (tellU 0 its)
  cl : ob.code.length ≤ 100000 ∧ ob.rels.length ≤ 100000
/-- Laid, and ready to be written. -/
def RdyE (w W' : World) (gu : Nat) (ob : Ob) : Prop :=
  ∃ W mb labs firsts its, Told w W W' gu mb labs firsts its ob.code ob.rels ∧ ob.syms = symsU ⟨labs, its, firsts⟩ (tellU 0 its)
theorem lay_finE (w W : World) (gu mb gp mi : Nat) (ln : Int) (labs : List (List UInt8 × Nat)) (firsts : Nat → Nat) (its : List It) (q : Option (List UInt8 × Int)) (old : Option (Nat × Nat)) (ob : Ob) (hA : AllLaid w) (hge : w.heap.size + 2 ≤ gu) (hn : AlQ w W gu mb gp mi ln labs its q old) (hf : FinE W labs firsts its ob) :
    Calls Tryz.prog 36 #[.pointer (some ⟨gu, 0, none⟩)] W fun r w' => r = .returned (.int .i64 0) ∧ RdyE w w' gu ob := by
  have hsz := hA.isa.sz
  obtain ⟨nv, hu, hnv⟩ := hn.ur
  have he : Ended w W gu mb labs firsts its ob.code ob.rels := ⟨hn.bx, hge, ⟨ln, nv, _, hu, hnv⟩, hn.lb, hA.isa.below hn.bx.bel hA.isa.sz, by omega, hf.n, hf.ok, hf.last, hf.wr, hf.cl, hf.lbk, hf.lbs, hf.ll⟩
  refine (lay_end he).mono ?_
  rintro r W' ⟨rfl, ht⟩
  exact ⟨rfl, W, mb, labs, firsts, its, ht, hf.sy⟩
theorem write_finE (w W' : World) (gu : Nat) (ob : Ob) (hr : RdyE w W' gu ob) :
    Calls Tryz.prog 37 #[.pointer (some ⟨gu, 0, none⟩)] W' fun r w' => ∃ ca cl cc sa sl sc qa ql qc, r = .returned (.tuple #[.agg #[.slice ca cl cc, .slice sa sl sc, .slice qa ql qc], .agg #[.int .i64 0, .int .i64 0]]) ∧ ObjAt w' (.slice ca cl cc) (.slice sa sl sc) (.slice qa ql qc) ob ∧ Bx w w' := by
  obtain ⟨W, mb, labs, firsts, its, ht, hs⟩ := hr
  refine (write_end ht).mono ?_
  rintro r w' ⟨ca, cl, cc, sa, sl, sc, qa, ql, qc, rfl, ho, hb⟩
  rw [← hs] at ho
  exact ⟨ca, cl, cc, sa, sl, sc, qa, ql, qc, rfl, ho, hb⟩

theorem makes_ins0 (w W1 : World) (gu mb gp mi : Nat) (ks : List (Int × Lk)) (ob : Ob) (hA : AllLaid w) (h : Begun w W1 gu mb gp mi) (hn : ks.length ≤ 1000) (hok : ∀ a, a ∈ ks → a.2.Ok) (hfree : ∀ k (hk : k < ks.length) nm, ks[k].2.lab = some nm → labelAt nm (labsG 0 (ks.take k)) = none) (hfin : ∀ W, FinE W (labsG 0 ks) (fun _ => 0) (itsG ks) ob) : Makes w gu (ks.map fun a => (a.1, a.2.toks)) ob W1 := by
  have hge := h.ge
  refine ⟨⟨fun k W => ∃ ln, AlQ w W gu mb gp mi ln (labsG 0 (ks.take k)) (itsG (ks.take k)) none none, fun W => ∃ ln, AlQ w W gu mb gp mi ln (labsG 0 ks) (itsG ks) none none, fun W' => RdyE w W' gu ob, ⟨0, AlQ.of h.al⟩, ?_, ?_, ?_, ?_, ?_⟩⟩
  · rintro k W ⟨ln, hn⟩
    obtain ⟨nv, hu, _⟩ := hn.ur
    obtain ⟨_, _, x1, _⟩ := hu.its
    exact ⟨hn.bx, _, x1, ln, rfl⟩
  · rintro k hk W v ⟨ln, hn'⟩ hv
    have hk' : k < ks.length := by simpa using hk
    simp only [List.getElem_map] at hv ⊢
    have hli : (itsG (ks.take k)).length = k := by simp [itsG]; omega
    have hll := labsG_len (ks.take k) 0
    rw [List.length_take] at hll
    refine (read_lkQ w _ gu mb gp mi v ks[k].1 (labsG 0 (ks.take k)) (itsG (ks.take k)) none none ks[k].2 (hok _ (List.getElem_mem _)) hA ⟨hge.1, hge.2.1⟩ h.ne (hn'.line hge.1 _ _) (by omega) (by omega) (hfree k hk') hv).mono ?_
    rintro r w' ⟨rfl, hr⟩
    refine ⟨rfl, ks[k].1, ?_⟩
    have e1 : labsG 0 (ks.take (k + 1)) = labsG 0 (ks.take k) ++ ks[k].2.labs (itsG (ks.take k)).length := by
      rw [List.take_succ_eq_append_getElem hk', labsG_snoc, hli, Nat.zero_add, List.length_take, Nat.min_eq_left (by omega)]
    have e2 : itsG (ks.take (k + 1)) = itsG (ks.take k) ++ [ks[k].2.ins.it ks[k].1] := by
      rw [List.take_succ_eq_append_getElem hk']
      simp only [itsG, List.map_append, List.map_cons, List.map_nil]
    rw [e1, e2]
    exact hr
  · rintro W ⟨ln, hn'⟩
    rw [List.length_map, List.take_length] at hn'
    have hp := hn'.po
    obtain ⟨nv, hu, _⟩ := hn'.ur
    obtain ⟨_, _, x1, _⟩ := hu.its
    refine (endPool_none gu gp none 0 W (blk_cell x1 rfl) (blk_cell hp.1 rfl)).mono ?_
    rintro r w' ⟨rfl, rfl⟩
    exact ⟨rfl, ln, hn'⟩
  · rintro W ⟨ln, hn'⟩
    exact lay_finE w W gu mb gp mi ln (labsG 0 ks) (fun _ => 0) (itsG ks) none none ob hA hge.1 hn' (hfin W)
  · rintro W' hr
    exact write_finE w W' gu ob hr

end Go.Proofs.YtjmjhbdlbmnllaaGreatDoor

namespace Go.Proofs.YtjmjhbdlbmnllaaGreatDoor
open Go.RowKit Go.Maps Go.MapKept

def obNil : Ob := ⟨[], symsU ⟨[], [], fun _ => 0⟩ (tellU 0 []), []⟩
theorem fin_nil (W : World) : FinE W (labsG 0 []) (fun _ => 0) (itsG []) obNil := by
  refine ⟨?_, ?_, ?_, ?_, ?_, ?_, ?_, ?_, ?_⟩
  · intro i hi; cases hi
  · show 0 ≤ 1000; omega
  · intro nm k h; cases h
  · intro j h; exact absurd h (by show ¬ j < 0; omega)
  · show 0 ≤ 100000; omega
  · show (tellU 0 []).getD 0 0 ≤ 8000
    decide
  · rfl
  · rfl
  · exact ⟨by show 0 ≤ 100000; omega, by show 0 ≤ 100000; omega⟩
theorem unit_none (v : Value) (w : World) (hA : AllLaid w) (hv : Sc.BReads w v []) : UnitIs v obNil w := by
  refine unit_gen v [] (numLn 1 []) obNil w hv (src_len [] (fun a h => by cases h) (by simp)) (by show 0 ≤ 200; omega) (fun x h => by cases h) hA.gl ?_
  intro u W hbw hlr
  refine build_gen u _ _ W hlr (by show 0 ≤ 1000; omega) (fun gu mb gp mi W1 h => ?_)
  exact makes_ins0 W W1 gu mb gp mi [] obNil (hA.next hbw) h (by show 0 ≤ 1000; omega) (fun a h => by cases h) (fun k hk => absurd hk (by show ¬ k < 0; omega)) (fun X => fin_nil X)

end Go.Proofs.YtjmjhbdlbmnllaaGreatDoor

namespace Go.Proofs.YtjmjhbdlbmnllaaGreatDoor
open Go.RowKit

theorem stand_full (gw mb : Nat) (lv : Value) (k : Int) (ps : List (Value × Int)) (ad : Option Addr) (len cap : Nat) (p : Int) (w : World) (B : Nat) (h : WR w B gw lv mb k ps) (hl : ps.length = 200) :
    Calls Tryz.prog 92 #[.pointer (some ⟨gw, 0, none⟩), .agg #[.slice ad len cap, .int .i64 p]] w fun r w' => r = .returned (.int .i64 4) ∧ Below w.heap.size w w' := by
  obtain ⟨la, lc, rfl⟩ := row_shape h.row
  have c0 : w.cell? ⟨gw, 0, none⟩ = some (.slice la ps.length lc) := blk_cell h.box rfl
  rw [hl] at c0
  have hg := blk_lt h.box
  clear h
  go_enter Tryz.func92, Tryz.ntmps92
  go_wp2_with fail
  go_ret
  exact ⟨rfl, oalloc _ _⟩

set_option maxHeartbeats 2000000 in
theorem step_full (gw mb : Nat) (lv : Value) (k : Int) (ps : List (Value × Int)) (b o n cap : Nat) (ad : Option Addr) (len lcap : Nat) (p d : Int) (ts : List Tk) (w : World) (B : Nat) (h : WR w B gw lv mb k ps) (hl : ps.length = 200)
    (c0 : w.cell? ⟨b, o, none⟩ = some (.slice ad len lcap)) (c1 : w.cell? ⟨b, o + 1, none⟩ = some (.int .i64 p)) (hb : b < w.heap.size) (ht : PReads w (.slice ad len lcap) ts) (hp : PlainHead (headS ts)) :
    Calls Tryz.prog 51 #[.pointer (some ⟨gw, 0, none⟩), .slice (some ⟨b, o, none⟩) (n + 1) cap, .int .i64 d] w fun r w' => r = .returned (.tuple #[.int .i64 1, .agg #[.int .i64 4, .int .i64 p]]) ∧ Below w.heap.size w w' := by
  have HH := Lib.hid fun W (hb : Below w.heap.size w W) => head_any (.slice ad len lcap) ts W (ht.below hb (Nat.le_refl _))
  generalize headS ts = s at *
  have q0 := hp _ (List.mem_of_getElem? (show heads[0]? = _ from rfl))
  have q1 := hp _ (List.mem_of_getElem? (show heads[1]? = _ from rfl))
  have q2 := hp _ (List.mem_of_getElem? (show heads[2]? = _ from rfl))
  have q3 := hp _ (List.mem_of_getElem? (show heads[3]? = _ from rfl))
  have q4 := hp _ (List.mem_of_getElem? (show heads[4]? = _ from rfl))
  have q5 := hp _ (List.mem_of_getElem? (show heads[5]? = _ from rfl))
  have q6 := hp _ (List.mem_of_getElem? (show heads[6]? = _ from rfl))
  have q7 := hp _ (List.mem_of_getElem? (show heads[7]? = _ from rfl))
  have hW : ∀ W, Below w.heap.size w W → WR W B gw lv mb k ps := fun W hb => ⟨by rw [hb.block _ (blk_lt h.box)]; exact h.box, Sc.owns_below h.row hb (Nat.le_refl _), by rw [hb.block _ (blk_lt h.mp)]; exact h.mp, h.lt⟩
  have HS := Lib.hid fun W (hb : Below w.heap.size w W) => stand_full gw mb lv k ps ad len lcap p W B (hW W hb) hl
  have HW := Lib.hid hW
  clear hW h ht hp
  go_enter Tryz.func51, Tryz.ntmps51
  go_wp2_with fail
  refine (HH.out _ (by go_grown)).mono ?_
  rintro e w1 ⟨rfl, hb1⟩
  have HB1 : Hid (Below w.heap.size w w1) := by
    refine Below.trans ?_ (hb1.mono (by go_size))
    go_grown
  have x0 : w1.heap[w.heap.size]? = some (.cells #[.int .i64 0, .int .i64 0] 31 (0, 0)) := by
    rw [hb1.block _ (by go_size), old2 _ _ (by go_size)]
    exact new_at _ _ (by go_size)
  have x1 : w1.heap[w.heap.size + 1]? = some (.cells #[.slice ad len lcap, .int .i64 p] 94 (0, 0)) := by
    rw [hb1.block _ (by go_size)]
    exact new_at _ _ (by go_size)
  have y0 : w1.cell? ⟨w.heap.size + 1, 0, none⟩ = some (.slice ad len lcap) := blk_cell x1 rfl
  have y1 : w1.cell? ⟨w.heap.size + 1, 1, none⟩ = some (.int .i64 p) := blk_cell x1 rfl
  have hm := look_none mb s w1 (HW.out w1 HB1.out).mp
  have hg1 : w1.cell? ⟨gw, 2, none⟩ = some (.map (some mb)) := blk_cell (HW.out w1 HB1.out).box rfl
  have X0 := Lib.hid x0
  have X1 := Lib.hid x1
  have hz1 := blk_lt x1
  have HF := Lib.hid fun W => fault_any (.slice ad len lcap) p 4 W
  rw [if_neg (by decide)] at HF
  clear hb1 x0 x1 HH
  go_wp2_with fail
  go_region_with (first
    | (go_at_call 92; refine (HS.out _ (HB1.out.drew)).mono ?_; rintro e w2 ⟨rfl, hb2⟩; have x2 : w2.heap[w.heap.size + 1]? = some (.cells #[.slice ad len lcap, .int .i64 p] 94 (0, 0)) := (hb2.block _ hz1).trans X1.out; have z0 : w2.cell? ⟨w.heap.size + 1, 0, none⟩ = some (.slice ad len lcap) := blk_cell x2 rfl; have z1 : w2.cell? ⟨w.heap.size + 1, 1, none⟩ = some (.int .i64 p) := blk_cell x2 rfl; have X2 := Lib.hid ((hb2.block _ (by show w.heap.size < w1.heap.size; omega)).trans X0.out); have hz2 := blk_lt x2; have HB2 := Lib.hid (HB1.out.drew.trans (hb2.mono HB1.out.size)); clear x2 hb2)
    | (go_at_call 50; refine (HF.out _).mono ?_; rintro e w3 ⟨rfl, hb3⟩; obtain ⟨⟨u0, u1⟩, f0, f1⟩ := var2_of ((hb3.block _ (by show w.heap.size < w2.heap.size; omega)).trans X2.out); have HB3 := Lib.hid (HB2.out.trans (hb3.mono HB2.out.size)); clear hb3))
  all_goals
    go_wp2
    refine bodyPost_ret (v := .tuple #[.int .i64 1, .agg #[.int .i64 4, .int .i64 p]]) (by simp [results, Tryz.results51, go_sem, u0, u1]) rfl ⟨rfl, (HB3.out.setCell (Nat.le_refl _) _).setCell (Nat.le_refl _) _⟩

end Go.Proofs.YtjmjhbdlbmnllaaGreatDoor

namespace Go.Proofs.YtjmjhbdlbmnllaaGreatDoor
open Go.RowKit

set_option maxRecDepth 100000 in
set_option maxHeartbeats 2000000 in
theorem do_over (gw mb : Nat) (lv : Value) (k : Int) (ps : List (Value × Int)) (b o cap : Nat) (ls : List (Value × Int)) (ts : List (List Tk)) (d : Int) (w : World) (B : Nat) (hB : B ≤ w.heap.size) (h : WR w B gw lv mb k ps) (hd0 : 0 ≤ d) (hd : d ≤ 6)
    (hl0 : ps.length = 0) (hl : 200 < ls.length) (hk0 : 0 ≤ k) (hk : k + ls.length ≤ 4000) (hcap : ls.length ≤ cap) (hmax : cap ≤ maxLen)
    (hts : ts.length = ls.length) (hL : ∀ W, Fr gw B w W → b < W.heap.size ∧ ∀ i (h : i < ls.length), (∃ ad len lcap, ls[i].1 = .slice ad len lcap) ∧ W.cell? ⟨b, o + i * 2, none⟩ = some ls[i].1 ∧ W.cell? ⟨b, o + i * 2 + 1, none⟩ = some (.int .i64 ls[i].2) ∧ PReads W ls[i].1 (ts[i]'(by omega)))
    (hp : ∀ t, t ∈ ts → PlainHead (headS t)) :
    Calls Tryz.prog 31 #[.pointer (some ⟨gw, 0, none⟩), .slice (some ⟨b, o, none⟩) ls.length cap, .int .i64 d] w fun r w' => r = .returned (.agg #[.int .i64 4, .int .i64 ls[200].2]) ∧ Fr gw B w w' := by
  have HL := Lib.hid hL
  have HP := Lib.hid hp
  have H0 := Lib.hid h
  have hg := blk_lt h.box
  clear hL hp h
  have hd' : ¬ (6 : Int) < d := by omega
  have HI : Hid (∃ lv', WR (w.alloc (.cells #[.int .i64 0, .int .i64 0] 31)) B gw lv' mb (k + (0 : Nat)) (ps ++ ls.take 0)) := ⟨lv, by simpa using H0.out.go (oalloc w _)⟩
  have HR : Hid ((w.alloc (.cells #[.int .i64 0, .int .i64 0] 31)).heap[w.heap.size]? = some (.cells #[.int .i64 0, .int .i64 0] 31 (0, 0))) := new_at _ _ rfl
  go_enter Tryz.func31, Tryz.ntmps31
  go_wp2_with fail
  go_loopw [1] (fun v wr => ∃ (j : Nat) (ad : Option Addr), j ≤ 200 ∧ v = .slice ad (ls.length - j) (cap - j) ∧ Hid (j < ls.length → ad = some ⟨b, o + j * 2, none⟩) ∧ Hid (∃ lv', WR wr B gw lv' mb (k + j) (ps ++ ls.take j)) ∧ Hid (Fr gw B w wr) ∧ Hid (wr.heap[w.heap.size]? = some (.cells #[.int .i64 0, .int .i64 0] 31 (0, 0)))) (fun v _ => lenV v)
  case atStart => exact ⟨0, _, Nat.zero_le _, rfl, fun _ => by simp, HI, Fr.below ((oalloc w _).mono hB), HR⟩
  case round =>
    obtain ⟨j, ad, hj, rfl, HA, HW, HF, HX⟩ := hrel
    clear HI HR H0
    have hlt : j < ls.length := by omega
    by_cases hj2 : j < 200
    · obtain ⟨lv1, hw1⟩ := HW.out
      obtain ⟨hb0, hrow⟩ := HL.out wr HF.out
      obtain ⟨⟨ad1, len1, lcap1, e1⟩, r0, r1, r2⟩ := hrow j hlt
      rw [e1] at r0 r2
      have c3 : wr.cell? ⟨gw, 3, none⟩ = some (.int .i64 (k + j)) := blk_cell hw1.box rfl
      have f3 : wr.frozen? ⟨gw, 3, none⟩ = false := blk_froz hw1.box
      have hg1 := blk_lt hw1.box
      have e2 := HA.out hlt
      subst e2
      obtain ⟨n, en⟩ : ∃ n, ls.length - j = n + 1 := ⟨ls.length - j - 1, by omega⟩
      obtain ⟨c, ec⟩ : ∃ c, cap - j = c + 1 := ⟨cap - j - 1, by omega⟩
      have hc : c + 1 ≤ maxLen := by omega
      have hnc : n ≤ c := by omega
      rw [en, ec]
      have hkk : ¬ (4000 : Int) < k + j + 1 := by omega
      have hkk2 : k + (j : Int) + 1 ≤ 4000 := by omega
      have hW2 : WR (wr.setCell ⟨gw, 3, none⟩ (.int .i64 (k + j + 1))) B gw lv1 mb (k + j + 1) (ps ++ ls.take j) := hw1.look _
      have hF2 : Fr gw B w (wr.setCell ⟨gw, 3, none⟩ (.int .i64 (k + j + 1))) := HF.out.trans (Fr.of (gset _ _ _ _) (Nat.le_trans hB HF.out.size))
      obtain ⟨hb2, hrow2⟩ := HL.out _ hF2
      obtain ⟨_, s0, s1, s2⟩ := hrow2 j hlt
      rw [e1] at s0 s2
      have HS := Lib.hid (step_any gw mb lv1 (k + j + 1) (ps ++ ls.take j) b (o + j * 2) n (c + 1) ad1 len1 lcap1 ls[j].2 d (ts[j]'(by omega)) _ B (by simpa using Nat.le_trans hB HF.out.size) hW2 (by simp; omega) s0 s1 hb2 s2 (HP.out _ (List.getElem_mem _)))
      have HX2 : Hid ((wr.setCell ⟨gw, 3, none⟩ (.int .i64 (k + j + 1))).heap[w.heap.size]? = some (.cells #[.int .i64 0, .int .i64 0] 31 (0, 0))) := by
        unfold Hid
        rw [Below.heap_setCell _ _ _ _ (by show w.heap.size ≠ gw; omega)]
        exact HX.out
      have HRB : Hid (some w.heap.size ≠ lv1.ownBlock) := row_box hw1.row HX.out (by decide)
      have HF3 := Lib.hid hF2
      have HT : Hid (ls.take (j + 1) = ls.take j ++ [(.slice ad1 len1 lcap1, ls[j].2)]) := by
        unfold Hid
        rw [List.take_succ_eq_append_getElem hlt, ← e1]
      clear hw1 hrow r0 r1 r2 hW2 hF2 hrow2 s0 s1 s2 hb2 HW HF HX
      obtain ⟨ad', HA'⟩ : ∃ ad' : Option Addr, Hid ((if c = 0 then some (⟨b, o + j * 2, none⟩ : Addr) else some ⟨b, o + j * 2 + 2, none⟩) = ad') := ⟨_, Lib.hid rfl⟩
      go_wp2_with (go_at_call 51; refine HS.out.mono ?_; rintro e w2 ⟨rfl, hw2, hf2, ho2⟩; have HW2 := Lib.hid hw2; have HF2 := Lib.hid hf2; have HX3 := Lib.hid ((ho2 _ (by simpa using blk_lt HX2.out) (by omega) HRB.out).trans HX2.out); clear hw2 hf2 ho2)
      refine ⟨⟨j + 1, _, by omega, by rw [show ls.length - (j + 1) = n by omega, show cap - (j + 1) = c by omega], fun h => ?_, ?_, ?_, ?_⟩, by simp [lenV]⟩
      · rw [show o + (j + 1) * 2 = o + j * 2 + 2 by omega]
      · obtain ⟨lv', h2⟩ := HW2.out
        refine ⟨lv', ?_⟩
        rw [HT.out, ← List.append_assoc, show k + ((j + 1 : Nat) : Int) = k + j + 1 by omega]
        exact h2.go (oalloc _ _)
      · exact (HF3.out.trans HF2.out).trans (Fr.below ((oalloc _ _).mono (Nat.le_trans hB (HF3.out.trans HF2.out).size)))
      · unfold Hid
        rw [old2 _ _ (blk_lt HX3.out)]
        exact HX3.out
    · obtain ⟨lv1, hw1⟩ := HW.out
      obtain ⟨hb0, hrow⟩ := HL.out wr HF.out
      obtain ⟨⟨ad1, len1, lcap1, e1⟩, r0, r1, r2⟩ := hrow j hlt
      rw [e1] at r0 r2
      have c3 : wr.cell? ⟨gw, 3, none⟩ = some (.int .i64 (k + j)) := blk_cell hw1.box rfl
      have f3 : wr.frozen? ⟨gw, 3, none⟩ = false := blk_froz hw1.box
      have hg1 := blk_lt hw1.box
      have e2 := HA.out hlt
      subst e2
      obtain ⟨n, en⟩ : ∃ n, ls.length - j = n + 1 := ⟨ls.length - j - 1, by omega⟩
      obtain ⟨c, ec⟩ : ∃ c, cap - j = c + 1 := ⟨cap - j - 1, by omega⟩
      have hc : c + 1 ≤ maxLen := by omega
      have hnc : n ≤ c := by omega
      rw [en, ec]
      have hkk : ¬ (4000 : Int) < k + j + 1 := by omega
      have hkk2 : k + (j : Int) + 1 ≤ 4000 := by omega
      have hW2 : WR (wr.setCell ⟨gw, 3, none⟩ (.int .i64 (k + j + 1))) B gw lv1 mb (k + j + 1) (ps ++ ls.take j) := hw1.look _
      have hF2 : Fr gw B w (wr.setCell ⟨gw, 3, none⟩ (.int .i64 (k + j + 1))) := HF.out.trans (Fr.of (gset _ _ _ _) (Nat.le_trans hB HF.out.size))
      obtain ⟨hb2, hrow2⟩ := HL.out _ hF2
      obtain ⟨_, s0, s1, s2⟩ := hrow2 j hlt
      rw [e1] at s0 s2
      have HS := Lib.hid (step_full gw mb lv1 (k + j + 1) (ps ++ ls.take j) b (o + j * 2) n (c + 1) ad1 len1 lcap1 ls[j].2 d (ts[j]'(by omega)) _ B hW2 (by rw [List.length_append, List.length_take]; omega) s0 s1 hb2 s2 (HP.out _ (List.getElem_mem _)))
      have HX2 : Hid ((wr.setCell ⟨gw, 3, none⟩ (.int .i64 (k + j + 1))).heap[w.heap.size]? = some (.cells #[.int .i64 0, .int .i64 0] 31 (0, 0))) := by
        unfold Hid
        rw [Below.heap_setCell _ _ _ _ (by show w.heap.size ≠ gw; omega)]
        exact HX.out
      have HF3 := Lib.hid hF2
      clear hw1 hrow r0 r1 r2 hW2 hF2 hrow2 s0 s1 s2 hb2 HW HF HX
      have hj3 : j = 200 := by omega
      have HPE : Hid (ls[j].2 = ls[200].2) := by
        have : ∀ i (h : i < ls.length), i = 200 → ls[i].2 = ls[200].2 := by
          intro i h e
          subst e
          rfl
        exact this j hlt hj3
      generalize ls[j].2 = pj at *
      clear hj2 hj3
      go_wp2_with (go_at_call 51; refine HS.out.mono ?_; rintro e w2 ⟨rfl, hb2⟩; obtain ⟨⟨u0, u1⟩, f0, f1⟩ := var2_of ((hb2.block _ (by simpa using blk_lt HX2.out)).trans HX2.out); have hz2 : w.heap.size < w2.heap.size := Nat.lt_of_lt_of_le (by simpa using blk_lt HX2.out) hb2.size; have HB2 := Lib.hid hb2; clear hb2)
      refine bodyPost_ret (v := .agg #[.int .i64 4, .int .i64 pj]) (by simp [results, Tryz.results31, go_sem, World.cell?_alloc_lt, hz2, u0, u1]) rfl ⟨by rw [← HPE.out], ?_⟩
      have hB2 : Fr gw B w w2 := HF3.out.trans (Fr.below (HB2.out.mono (Nat.le_trans hB HF3.out.size)))
      exact hB2.trans (Fr.below ((((Below.refl _ _).setCell hB _).setCell hB _).alloc (by simpa using Nat.le_trans hB hB2.size) _))

end Go.Proofs.YtjmjhbdlbmnllaaGreatDoor

namespace Go.Proofs.YtjmjhbdlbmnllaaGreatDoor
open Go.RowKit

set_option maxRecDepth 100000 in
set_option maxHeartbeats 4000000 in
theorem short_over (v : Value) (ls : List Sc.Ln) (w : World) (h : LIn w v ls) (hn : 200 < ls.length) (hn2 : ls.length ≤ 3000) (hts : ∀ l, l ∈ ls → l.toks.length ≤ 100000) (hp : ∀ l, l ∈ ls → PlainHead (headS (l.toks.map tkOf))) :
    Calls Tryz.prog 18 #[v] w fun r w' => (∃ p : Int, r = .returned (.tuple #[.slice none 0 0, .slice none 0 0, .agg #[.int .i64 4, .int .i64 p]])) ∧ Below w.heap.size w w' := by
  have hmm : ∀ w, (Instr.makeMap 79 none).run Tryz.prog w = .ok (.map (some w.heap.size)) (w.alloc (.map #[] 0)) := fun w => rfl
  obtain ⟨ad, cap, rfl, _⟩ := id h
  have HI := Lib.hid h
  have HP := Lib.hid hp
  have HTS := Lib.hid hts
  clear h hp hts
  go_enter Tryz.func18, Tryz.ntmps18
  go_wp2_with fail
  have hB0 : Below w.heap.size w (((w.alloc (.cells #[.int .i64 0, .int .i64 0] 31)).alloc (.map #[] 0)).alloc (.cells #[.slice none 0 0, .slice none 0 0, .map (some (w.heap.size + 1)), .int .i64 0] 81)) := by go_grown
  have hb1 : (((w.alloc (.cells #[.int .i64 0, .int .i64 0] 31)).alloc (.map #[] 0)).alloc (.cells #[.slice none 0 0, .slice none 0 0, .map (some (w.heap.size + 1)), .int .i64 0] 81)).heap[w.heap.size + 1 + 1]? = some (.cells #[.slice none 0 0, .slice none 0 0, .map (some (w.heap.size + 1)), .int .i64 0] 81 (0, 0)) := new_at _ _ (by go_size)
  have hb2 : (((w.alloc (.cells #[.int .i64 0, .int .i64 0] 31)).alloc (.map #[] 0)).alloc (.cells #[.slice none 0 0, .slice none 0 0, .map (some (w.heap.size + 1)), .int .i64 0] 81)).heap[w.heap.size + 1]? = some (.map #[] 0) := by
    rw [old2 _ _ (by go_size)]
    exact new_at _ _ (by go_size)
  have hb3 : (((w.alloc (.cells #[.int .i64 0, .int .i64 0] 31)).alloc (.map #[] 0)).alloc (.cells #[.slice none 0 0, .slice none 0 0, .map (some (w.heap.size + 1)), .int .i64 0] 81)).heap[w.heap.size]? = some (.cells #[.int .i64 0, .int .i64 0] 31 (0, 0)) := by
    rw [old2 _ _ (by go_size), old2 _ _ (by go_size)]
    exact new_at _ _ (by go_size)
  have hz0 : (((w.alloc (.cells #[.int .i64 0, .int .i64 0] 31)).alloc (.map #[] 0)).alloc (.cells #[.slice none 0 0, .slice none 0 0, .map (some (w.heap.size + 1)), .int .i64 0] 81)).heap.size = w.heap.size + 3 := by simp
  generalize (((w.alloc (.cells #[.int .i64 0, .int .i64 0] 31)).alloc (.map #[] 0)).alloc (.cells #[.slice none 0 0, .slice none 0 0, .map (some (w.heap.size + 1)), .int .i64 0] 81)) = W0 at *
  have hI0 : LIn W0 (.slice ad ls.length cap) ls := by
    obtain ⟨ad', cap', e, hh⟩ := HI.out
    refine ⟨ad', cap', e, fun h0 => ?_⟩
    obtain ⟨b, o, rfl, hlt, hc⟩ := hh h0
    refine ⟨b, o, rfl, by omega, fun i hi => ?_⟩
    obtain ⟨tv, a1, a2, a3⟩ := hc i hi
    exact ⟨tv, by rw [hB0.cell (by exact hlt)]; exact a1, by rw [hB0.cell (by exact hlt)]; exact a2, a3.below hB0 (Nat.le_refl _)⟩
  refine (read_any _ ls W0 hI0 (by omega) HTS.out).mono ?_
  rintro e W1 ⟨rfl, ⟨f, hf⟩, hB1⟩
  have hz1 : W0.heap.size < W1.heap.size := hf.1.lt
  have hW1 : WR W1 W1.heap.size (w.heap.size + 1 + 1) (.slice none 0 0) (w.heap.size + 1) 0 [] := ⟨by rw [hB1.block _ (by omega)]; exact hb1, by simpa [lnC] using World.ownsRow_nil W1 _ _ _, by rw [hB1.block _ (by omega)]; exact hb2, by omega⟩
  have hlen : ((List.range ls.length).map f).length = ls.length := by simp
  have HD := Lib.hid (do_over (w.heap.size + 1 + 1) (w.heap.size + 1) (.slice none 0 0) 0 [] W0.heap.size 0 ls.length ((List.range ls.length).map f) (ls.map fun l => l.toks.map tkOf) 0 W1 W1.heap.size (Nat.le_refl _) hW1 (by omega) (by omega) rfl (by rw [hlen]; exact hn) (by omega) (by rw [hlen]; omega) (by rw [hlen]; exact Nat.le_refl _) (by unfold maxLen; omega) (by simp)
    (fun W hF => by
      have hk := hF.block W0.heap.size (by omega) (by omega)
      refine ⟨Nat.lt_of_lt_of_le hz1 hF.size, fun i hi => ?_⟩
      have hi' : i < ls.length := by simpa using hi
      obtain ⟨a1, a2, a3⟩ := hf.2.1 i hi' hi'
      have hr := hf.1.keep hk
      have hcc := hr.cell0 hi'
      have hcd := hr.cell1 hi'
      have hpr := a2.fr (fun e => by have := a3 _ e; omega) hF (Nat.le_refl _)
      simp only [List.getElem_map, List.getElem_range, Nat.zero_add]
      exact ⟨hpr.shape, hcc, hcd, hpr⟩)
    (fun t ht => by
      obtain ⟨l, hl, rfl⟩ := List.mem_map.1 ht
      exact HP.out l hl))
  generalize (((List.range ls.length).map f)[200]'(by rw [hlen]; exact hn)).2 = pe at HD
  rw [hlen] at HD
  have HAft : Hid (∀ W2, Fr (w.heap.size + 1 + 1) W1.heap.size W1 W2 → W2.heap[w.heap.size]? = some (.cells #[.int .i64 0, .int .i64 0] 31 (0, 0)) ∧ Below w.heap.size w W2) := fun W2 hF => by
    refine ⟨?_, ?_⟩
    · rw [hF.block _ (by omega) (by omega), hB1.block _ (by omega)]
      exact hb3
    · have h01 : Below w.heap.size w W1 := hB0.trans (hB1.mono (by omega))
      exact ⟨hF.os.trans h01.os, hF.tape.trans h01.tape, hF.output.trans h01.output, Nat.le_trans h01.size hF.size, fun i hi => (hF.block i (by omega) (by omega)).trans (h01.block i hi)⟩
  clear hf hB1 hW1 hb1 hb2 hb3 hI0 hB0 HTS HP HI hlen hz0 hz1
  go_wp2_with (go_at_call 31; refine HD.out.mono ?_; rintro e W2 ⟨rfl, hf2⟩; obtain ⟨x0, hB2⟩ := HAft.out W2 hf2; obtain ⟨⟨u0, u1⟩, f0, f1⟩ := var2_of x0; have hz2 := blk_lt x0; have HB2 := Lib.hid hB2; have X0 := Lib.hid x0; clear hf2 hB2 x0)
  have hzr : w.heap.size < W2.heap.size := hz2
  have hx3 : (W2.alloc (.cells #[.int .i64 4, .int .i64 pe] 31)).heap[w.heap.size]? = some (.cells #[.int .i64 0, .int .i64 0] 31 (0, 0)) := by
    rw [old2 _ _ hzr]
    exact X0.out
  obtain ⟨⟨v0, v1⟩, g0, g1⟩ := var2_of hx3
  go_region
  all_goals
    go_wp2
    refine bodyPost_ret (v := .tuple #[.slice none 0 0, .slice none 0 0, .agg #[.int .i64 4, .int .i64 pe]]) (by simp [results, Tryz.results18, go_sem, World.cell?_alloc_lt, hzr, u0, u1]) rfl ⟨⟨pe, rfl⟩, ?_⟩
    have hb := HB2.out
    go_grown

end Go.Proofs.YtjmjhbdlbmnllaaGreatDoor

namespace Go.Proofs.YtjmjhbdlbmnllaaGreatDoor
open Go.RowKit

set_option maxRecDepth 100000 in
set_option maxHeartbeats 4000000 in
theorem unit_toolong (v : Value) (src : List UInt8) (w : World) (hv : Sc.BReads w v src) (hl : 1200 < src.length) (hG : Sc.Glob w) :
    Calls Tryz.prog 6 #[v] w fun r w' => (∃ p : Int, r = .returned (.tuple #[.agg #[.slice none 0 0, .slice none 0 0, .slice none 0 0], .agg #[.int .i64 4, .int .i64 p]])) ∧ Below w.heap.size w w' := by
  have hsrc : Sc.srcLines src = .error (4, 0) := by unfold Sc.srcLines; rw [if_pos hl]
  have hs := Sc.src_no hsrc
  have HLN := Lib.hid fun W (hb : Below w.heap.size w W) => Sc.lines_any v (src) W (hG.below hb hG.sz) (by
    obtain ⟨ad, cap, rfl, hm, hc⟩ := hv
    refine ⟨ad, cap, rfl, hm, fun h0 => ?_⟩
    obtain ⟨b, o, rfl, hlt, hcell⟩ := hc h0
    exact ⟨b, o, rfl, Nat.lt_of_lt_of_le hlt hb.size, fun i hi => by rw [hb.cell (by exact hlt)]; exact hcell i hi⟩)
  obtain ⟨ad, cap, rfl, _⟩ := hv
  obtain ⟨hs1, hs2, hs3⟩ := hs
  clear hG hl hsrc
  go_enter Tryz.func6, Tryz.ntmps6
  go_wp2_with fail
  refine (HLN.out _ (by go_grown)).mono ?_
  rintro e w1 ⟨⟨lv, ps, rfl, hps, hlo⟩, hb1⟩
  rw [hs1, hs2]
  obtain ⟨la, lc, hlv⟩ := row_shape hlo.row
  subst hlv
  have x0 : w1.heap[w.heap.size]? = some (.cells #[.slice none 0 0, .slice none 0 0, .slice none 0 0] 28 (0, 0)) := by
    rw [hb1.block _ (by go_size), old2 _ _ (by go_size)]
    exact new_at _ _ rfl
  have x1 : w1.heap[w.heap.size + 1]? = some (.cells #[.int .i64 0, .int .i64 0] 31 (0, 0)) := by
    rw [hb1.block _ (by go_size)]
    exact new_at _ _ (by go_size)
  have HB1 : Hid (Below w.heap.size w w1) := Below.trans (by go_grown) (hb1.mono (by go_size))
  have X0 := Lib.hid x0
  have X1 := Lib.hid x1
  obtain ⟨⟨u0, u1⟩, f0, f1⟩ := var2_of x1
  have d0 : w1.cell? ⟨w.heap.size, 0, none⟩ = some (.slice none 0 0) := blk_cell x0 rfl
  have d1 : w1.cell? ⟨w.heap.size, 1, none⟩ = some (.slice none 0 0) := blk_cell x0 rfl
  have d2 : w1.cell? ⟨w.heap.size, 2, none⟩ = some (.slice none 0 0) := blk_cell x0 rfl
  have e0 : w1.frozen? ⟨w.heap.size, 0, none⟩ = false := blk_froz x0
  have e1 : w1.frozen? ⟨w.heap.size, 1, none⟩ = false := blk_froz x0
  have e2 : w1.frozen? ⟨w.heap.size, 2, none⟩ = false := blk_froz x0
  have hz0 := blk_lt x0
  have hz1 := blk_lt x1
  clear hb1 hlo hps x0 x1 HLN hs1 hs2 hs3
  go_wp2_with fail
  go_region
  all_goals
    go_wp2
    refine bodyPost_ret (v := .tuple #[.agg #[.slice none 0 0, .slice none 0 0, .slice none 0 0], .agg #[.int .i64 4, .int .i64 0]]) (by simp [results, Tryz.results6, go_sem, World.cell?_alloc_lt, hz0, hz1, d0, d1, d2, u0, u1]) rfl ⟨⟨0, rfl⟩, ?_⟩
    have hb := HB1.out
    go_grown

end Go.Proofs.YtjmjhbdlbmnllaaGreatDoor

namespace Go.Proofs.YtjmjhbdlbmnllaaGreatDoor
open Go.RowKit

set_option maxRecDepth 100000 in
set_option maxHeartbeats 4000000 in
theorem unit_over (v : Value) (src : List UInt8) (lns : List Sc.Ln) (w : World) (hv : Sc.BReads w v src) (hsrc : Sc.srcLines src = .ok lns) (hln : 200 < lns.length) (hln2 : lns.length ≤ 3000) (hpl : ∀ x, x ∈ lns → x.toks.length ≤ 100000 ∧ PlainHead (headS (x.toks.map tkOf))) (hG : Sc.Glob w) :
    Calls Tryz.prog 6 #[v] w fun r w' => (∃ p : Int, r = .returned (.tuple #[.agg #[.slice none 0 0, .slice none 0 0, .slice none 0 0], .agg #[.int .i64 4, .int .i64 p]])) ∧ Below w.heap.size w w' := by
  have hs := Sc.src_ok hsrc
  have HLN := Lib.hid fun W (hb : Below w.heap.size w W) => Sc.lines_any v (src) W (hG.below hb hG.sz) (by
    obtain ⟨ad, cap, rfl, hm, hc⟩ := hv
    refine ⟨ad, cap, rfl, hm, fun h0 => ?_⟩
    obtain ⟨b, o, rfl, hlt, hcell⟩ := hc h0
    exact ⟨b, o, rfl, Nat.lt_of_lt_of_le hlt hb.size, fun i hi => by rw [hb.cell (by exact hlt)]; exact hcell i hi⟩)
  obtain ⟨ad, cap, rfl, _⟩ := hv
  obtain ⟨hs1, hs2, hs3⟩ := hs
  have HSH : Hid (∀ v W, LIn W v lns → Calls Tryz.prog 18 #[v] W fun r w' => (∃ p : Int, r = .returned (.tuple #[.slice none 0 0, .slice none 0 0, .agg #[.int .i64 4, .int .i64 p]])) ∧ Below W.heap.size W w') := fun v W h => short_over v lns W h hln hln2 (fun x hx => (hpl x hx).1) (fun x hx => (hpl x hx).2)
  clear hG hpl
  go_enter Tryz.func6, Tryz.ntmps6
  go_wp2_with fail
  refine (HLN.out _ (by go_grown)).mono ?_
  rintro e w1 ⟨⟨lv, ps, rfl, hps, hlo⟩, hb1⟩
  rw [hs1, hs2]
  rw [hs3] at hps
  have hlin := lin_of hlo
  rw [hps] at hlin
  obtain ⟨la, lc, hlv⟩ := row_shape hlo.row
  subst hlv
  have x0 : w1.heap[w.heap.size]? = some (.cells #[.slice none 0 0, .slice none 0 0, .slice none 0 0] 28 (0, 0)) := by
    rw [hb1.block _ (by go_size), old2 _ _ (by go_size)]
    exact new_at _ _ rfl
  have x1 : w1.heap[w.heap.size + 1]? = some (.cells #[.int .i64 0, .int .i64 0] 31 (0, 0)) := by
    rw [hb1.block _ (by go_size)]
    exact new_at _ _ (by go_size)
  have HB1 : Hid (Below w.heap.size w w1) := Below.trans (by go_grown) (hb1.mono (by go_size))
  have HSC := Lib.hid fun W (hb : Below w1.heap.size w1 W) => HSH.out (.slice la ps.length lc) W (by
    obtain ⟨ad', cap', e, hh⟩ := hlin
    refine ⟨ad', cap', e, fun h0 => ?_⟩
    obtain ⟨b, o, rfl, hlt, hc⟩ := hh h0
    refine ⟨b, o, rfl, Nat.lt_of_lt_of_le hlt hb.size, fun i hi => ?_⟩
    obtain ⟨tv, a1, a2, a3⟩ := hc i hi
    exact ⟨tv, by rw [hb.cell (by exact hlt)]; exact a1, by rw [hb.cell (by exact hlt)]; exact a2, a3.below hb (Nat.le_refl _)⟩)
  have X0 := Lib.hid x0
  have X1 := Lib.hid x1
  clear hb1 hlo hlin hps x0 x1 HLN HSH hs1 hs2 hs3
  go_wp2_with fail
  refine (HSC.out _ (oalloc _ _)).mono ?_
  rintro e w2 ⟨⟨pe, rfl⟩, hb2⟩
  obtain ⟨hB2, hz2, yr⟩ := box_keep hb2
  have HB2 := Lib.hid (HB1.out.trans (hB2.mono HB1.out.size))
  have x02 := (hB2.block _ (blk_lt X0.out)).trans X0.out
  have x12 := (hB2.block _ (blk_lt X1.out)).trans X1.out
  obtain ⟨⟨y0, y1⟩, k0, k1⟩ := var2_of yr
  have hzy := blk_lt yr
  have X02 := Lib.hid x02
  have X12 := Lib.hid x12
  have YR := Lib.hid yr
  have hlt : w.heap.size + 1 < w1.heap.size := blk_lt X1.out
  clear hb2 hB2 yr x02 x12 HSC X0 X1 HB1
  go_wp2_with fail
  have yr2 := blk_set (i := 1) (v := .int .i64 pe) (blk_set (i := 0) (v := .int .i64 4) YR.out)
  have x02 : ((w2.setCell ⟨w1.heap.size, 0, none⟩ (.int .i64 4)).setCell ⟨w1.heap.size, 1, none⟩ (.int .i64 pe)).heap[w.heap.size]? = some (.cells #[.slice none 0 0, .slice none 0 0, .slice none 0 0] 28 (0, 0)) := by
    rw [Below.heap_setCell _ _ _ _ (by show w.heap.size ≠ w1.heap.size; omega), Below.heap_setCell _ _ _ _ (by show w.heap.size ≠ w1.heap.size; omega)]
    exact X02.out
  have x12 : ((w2.setCell ⟨w1.heap.size, 0, none⟩ (.int .i64 4)).setCell ⟨w1.heap.size, 1, none⟩ (.int .i64 pe)).heap[w.heap.size + 1]? = some (.cells #[.int .i64 0, .int .i64 0] 31 (0, 0)) := by
    rw [Below.heap_setCell _ _ _ _ (by show w.heap.size + 1 ≠ w1.heap.size; omega), Below.heap_setCell _ _ _ _ (by show w.heap.size + 1 ≠ w1.heap.size; omega)]
    exact X12.out
  have hbV : Below w.heap.size w ((w2.setCell ⟨w1.heap.size, 0, none⟩ (.int .i64 4)).setCell ⟨w1.heap.size, 1, none⟩ (.int .i64 pe)) := (HB2.out.setCell (by show w.heap.size ≤ w1.heap.size; omega) _).setCell (by show w.heap.size ≤ w1.heap.size; omega) _
  have HV := Lib.hid hbV
  clear y0 y1 k0 k1 hzy X02 X12 YR HB2 hbV
  generalize (w2.setCell ⟨w1.heap.size, 0, none⟩ (.int .i64 4)).setCell ⟨w1.heap.size, 1, none⟩ (.int .i64 pe) = V at *
  obtain ⟨⟨y0, y1⟩, k0, k1⟩ := var2_of yr2
  obtain ⟨⟨u0, u1⟩, f0, f1⟩ := var2_of x12
  have d0 : V.cell? ⟨w.heap.size, 0, none⟩ = some (.slice none 0 0) := blk_cell x02 rfl
  have d1 : V.cell? ⟨w.heap.size, 1, none⟩ = some (.slice none 0 0) := blk_cell x02 rfl
  have d2 : V.cell? ⟨w.heap.size, 2, none⟩ = some (.slice none 0 0) := blk_cell x02 rfl
  have e0 : V.frozen? ⟨w.heap.size, 0, none⟩ = false := blk_froz x02
  have e1 : V.frozen? ⟨w.heap.size, 1, none⟩ = false := blk_froz x02
  have e2 : V.frozen? ⟨w.heap.size, 2, none⟩ = false := blk_froz x02
  have hz0 := blk_lt x02
  have hz1 := blk_lt x12
  have hzy := blk_lt yr2
  have hne0 : ¬ w1.heap.size = w.heap.size := by omega
  have hne1 : ¬ w1.heap.size = w.heap.size + 1 := by omega
  clear yr2 x02 x12
  go_region
  all_goals
    go_wp2
    refine bodyPost_ret (v := .tuple #[.agg #[.slice none 0 0, .slice none 0 0, .slice none 0 0], .agg #[.int .i64 4, .int .i64 pe]]) (by simp [results, Tryz.results6, go_sem, d0, d1, d2, u0, u1]) rfl ⟨⟨pe, rfl⟩, ?_⟩
    have hb := HV.out
    go_grown

end Go.Proofs.YtjmjhbdlbmnllaaGreatDoor

namespace Go.Proofs.YtjmjhbdlbmnllaaGreatDoor
open Go.RowKit Go.Maps Go.MapKept

/-- Half word k's row. -/
def rowD (bs : Nat → Int) (len k : Nat) : Dl :=
  if Di.toldB bs len k = true then .ins (Di.dV (Di.halfW bs k) 0).toNat (Di.dV (Di.halfW bs k) 1) (Di.dV (Di.halfW bs k) 2) (Di.dV (Di.halfW bs k) 3) (Di.goalOf bs k).toNat
  else if 2 * k + 1 < len then .num 2 (Di.halfW bs k) else .num 1 (bs (2 * k))
def numR (len : Nat) : Nat := (len + 1) / 2
def rowsD (bs : Nat → Int) (len : Nat) : List Dl := (List.range (numR len)).map (rowD bs len)
def ledD (bs : Nat → Int) (len k : Nat) : Bool := Di.ledB bs len (numR len) k

theorem dec_told {bs : Nat → Int} {len k : Nat} (h : Di.toldB bs len k = true) : ∃ (q : Nat) (n m imm : Int), Known q n m imm ∧ Isa.wrongI q n m imm = 0 ∧ Isa.encI q n m imm = Di.halfW bs k ∧ Di.dV (Di.halfW bs k) 0 = q ∧ Di.dV (Di.halfW bs k) 1 = n ∧ Di.dV (Di.halfW bs k) 2 = m ∧ Di.dV (Di.halfW bs k) 3 = imm := by
  have hd : Isa.decE (Di.halfW bs k) = 0 := by
    unfold Di.toldB at h
    simp only [Bool.and_eq_true, decide_eq_true_eq] at h
    exact h.1.2
  obtain ⟨op, n, m, imm, h1, h2, h3⟩ := Isa.turn2 hd
  obtain ⟨q, rfl, hk⟩ := known_of h2
  refine ⟨q, n, m, imm, hk, h2, h3, ?_, ?_, ?_, ?_⟩ <;> (unfold Di.dV; rw [h1]; rfl)
theorem lead_to {q : Nat} (h0 : 1 ≤ q) (h1 : q ≤ 27) : Di.toB (q : Int) = true ↔ leadS (Isa.opShape q) := by
  unfold Di.toB leadS
  rw [shape_is h0 h1]
  simp
theorem lead_iff (s : Int) : leadS s ↔ (s = 4 ∨ s = 5 ∨ s = 7 ∨ s = 8) := Iff.rfl
theorem goal_is {q : Nat} (h0 : 1 ≤ q) (h1 : q ≤ 27) (imm at' : Int) : Di.toI (q : Int) imm at' = if leadS (Isa.opShape q) then goalS (Isa.opShape q) imm at' else 0 := by
  unfold Di.toI goalS
  rw [shape_is h0 h1]
  generalize Isa.opShape q = s
  by_cases h8 : s = 8
  · rw [if_pos ((lead_iff s).2 (.inr (.inr (.inr h8)))), if_pos h8, if_neg (by omega), if_pos h8]
  · by_cases h4 : s = 4 ∨ s = 5 ∨ s = 7
    · rw [if_pos h4, if_pos ((lead_iff s).2 (by omega)), if_neg h8]
    · rw [if_neg h4, if_neg h8, if_neg (fun h => by have := (lead_iff s).1 h; omega)]
theorem goal_in {bs : Nat → Int} {len k : Nat} (h : Di.toldB bs len k = true) (hl : Di.toB (Di.dV (Di.halfW bs k) 0) = true) : 0 ≤ Di.goalOf bs k ∧ Di.goalOf bs k < len := by
  unfold Di.toldB at h
  simp only [Bool.and_eq_true, hl, Bool.true_and, Bool.not_eq_true', Bool.or_eq_false_iff, decide_eq_false_iff_not] at h
  obtain ⟨_, h1, h2⟩ := h
  omega
theorem told_two {bs : Nat → Int} {len k : Nat} (h : Di.toldB bs len k = true) : 2 * k + 1 < len := by
  unfold Di.toldB at h
  simp only [Bool.and_eq_true, decide_eq_true_eq] at h
  exact h.1.1
theorem hw_in {bs : Nat → Int} (hb : Isa.IsByte bs) (k : Nat) : 0 ≤ Di.halfW bs k ∧ Di.halfW bs k ≤ 65535 := Di.hw_bd hb k

theorem rowD_ok {bs : Nat → Int} {len : Nat} (hb : Isa.IsByte bs) (hlen : len ≤ 2000) (i : Nat) (hi : i < numR len) : RowOk (ledD bs len) (numR len) i (rowD bs len i) := by
  unfold rowD
  split
  · rename_i ht
    obtain ⟨q, n, m, imm, hk, hw, he, e0, e1, e2, e3⟩ := dec_told ht
    have hg : Di.goalOf bs i = if leadS (Isa.opShape q) then goalS (Isa.opShape q) imm ((2 * i : Nat) : Int) else 0 := by
      unfold Di.goalOf
      rw [e0, e3]
      have := goal_is hk.k0 hk.k1 imm ((2 * i : Nat) : Int)
      rw [← this]
      congr 1
    rw [e0, e1, e2, e3, Int.toNat_natCast]
    by_cases hl : leadS (Isa.opShape q)
    · have hin := goal_in ht (by rw [e0]; exact (lead_to hk.k0 hk.k1).2 hl)
      rw [if_pos hl] at hg
      have hev : Di.goalOf bs i % 2 = 0 := by rw [hg]; unfold goalS; split <;> omega
      refine ⟨hk, hw, by omega, fun _ => ⟨(Di.goalOf bs i / 2).toNat, by omega, by unfold numR; omega, ?_, ?_⟩⟩
      · unfold ledD Di.ledB
        refine List.any_eq_true.2 ⟨i, by simpa using hi, ?_⟩
        simp only [Bool.and_eq_true, decide_eq_true_eq]
        refine ⟨?_, by omega⟩
        unfold Di.leadB
        rw [ht, e0, (lead_to hk.k0 hk.k1).2 hl]
        rfl
      · rw [Int.toNat_of_nonneg hin.1, hg]
    · rw [if_neg hl] at hg
      exact ⟨hk, hw, by rw [hg]; decide, fun h => absurd h hl⟩
  · split
    · have := hw_in hb i
      exact .inl ⟨rfl, this.1, this.2⟩
    · rename_i h2
      have := hb (2 * i)
      exact .inr ⟨rfl, by unfold numR at *; omega, this.1, this.2⟩
theorem rowsD_len (bs : Nat → Int) (len : Nat) : (rowsD bs len).length = numR len := by simp [rowsD]
theorem rowsD_ok {bs : Nat → Int} {len : Nat} (hb : Isa.IsByte bs) (hlen : len ≤ 2000) : ∀ i (h : i < (rowsD bs len).length), RowOk (ledD bs len) (rowsD bs len).length i (rowsD bs len)[i] := by
  intro i hi
  have hi' : i < numR len := by rw [← rowsD_len bs len]; exact hi
  have e : (rowsD bs len)[i] = rowD bs len i := by simp [rowsD]
  rw [e, rowsD_len]
  exact rowD_ok hb hlen i hi'

/-! The text. -/
theorem glue_num (imm : Int) (r : List (Bool × Sc.Tok)) : Sc.glue (numG imm r) = Lib.itoa imm ++ Sc.glue r := by
  unfold numG
  split
  · rename_i h
    obtain ⟨u, hu, rfl⟩ : ∃ u : Nat, 1 ≤ u ∧ imm = -(u : Int) := ⟨(-imm).toNat, by omega, by omega⟩
    have e2 : Sc.prT (sgT 45) = [45] := rfl
    simp only [Sc.glue, e2, Int.neg_neg, Lib.itoa_neg u hu]
    rfl
  · rfl
theorem pl_is (p : Int) (h : 0 ≤ p) : Di.placeL p = plW p.toNat := by
  unfold Di.placeL plW Di.hexS
  rw [if_neg (by omega)]
theorem oper_glue (s n m imm p : Int) (hs : 0 ≤ s ∧ s ≤ 11) (h0 : ¬ s = 0) (hp : leadS s → 0 ≤ p) : Sc.glue (operG s n m imm p.toNat) = 32 :: Di.operL s n m imm p := by
  have hG1 := glue_num imm [(false, sgT 44), (false, wdT (regW n))]
  have hG2 := glue_num imm []
  have er : ∀ x, Di.regL x = regW x := fun _ => rfl
  have en : ∀ x, Di.numL x = 35 :: Lib.itoa x := fun _ => rfl
  have pw : ∀ l, Sc.prT (wdT l) = l := fun _ => rfl
  have ps : ∀ c, Sc.prT (sgT c) = [c] := fun _ => rfl
  have h12 : s = 1 ∨ s = 2 ∨ s = 3 ∨ s = 4 ∨ s = 5 ∨ s = 6 ∨ s = 7 ∨ s = 8 ∨ s = 9 ∨ s = 10 ∨ s = 11 := by omega
  rcases h12 with rfl | rfl | rfl | rfl | rfl | rfl | rfl | rfl | rfl | rfl | rfl
  · simp [operG, Di.operL, Sc.glue, hG1, er, en, pw, ps]
  · simp [operG, Di.operL, Sc.glue, er, pw, ps]
  · simp [operG, Di.operL, Sc.glue, er, pw]
  · simp [operG, Di.operL, Sc.glue, pw, pl_is p (hp (by simp [leadS]))]
  · simp [operG, Di.operL, Sc.glue, pw, pl_is p (hp (by simp [leadS]))]
  · simp [operG, Di.operL, Sc.glue, er, pw, ps]
  · simp [operG, Di.operL, Sc.glue, er, pw, ps, pl_is p (hp (by simp [leadS]))]
  · simp [operG, Di.operL, Sc.glue, er, pw, ps, pl_is p (hp (by simp [leadS]))]
  · simp [operG, Di.operL, Sc.glue, er, pw, ps]
  · simp [operG, Di.operL, Sc.glue, er, pw, ps]
  · simp [operG, Di.operL, Sc.glue, hG2, en, ps]
theorem name_is {q : Nat} (h0 : 1 ≤ q) (h1 : q ≤ 27) : (Isa.infoName (q : Int)).data.toList = nameN q := by
  unfold Isa.infoName nameN Isa.knownB Isa.withinB
  rw [if_pos (by simp; omega)]
theorem row_line (bs : Nat → Int) (len k : Nat) : (rowD bs len k).line.1 = Di.rowL bs len k := by
  unfold rowD Di.rowL
  split
  · rename_i ht
    obtain ⟨q, n, m, imm, hk, hw, he, e0, e1, e2, e3⟩ := dec_told ht
    have hg : Di.goalOf bs k = Di.toI (q : Int) imm (2 * (k : Int)) := by unfold Di.goalOf; rw [e0, e3]
    rw [e0, e1, e2, e3, Int.toNat_natCast]
    show Sc.glue (lineG (nameN q) (Isa.opShape q) n m imm (Di.goalOf bs k).toNat) = _
    have hpw : Sc.prT (wdT (nameN q)) = nameN q := rfl
    unfold Di.lineL
    rw [shape_is hk.k0 hk.k1, name_is hk.k0 hk.k1, ← hg]
    unfold lineG
    simp only [Sc.glue, hpw]
    split
    · rename_i hs
      rw [hs]
      simp [operG, Sc.glue]
    · rename_i hs
      rw [oper_glue (Isa.opShape q) n m imm (Di.goalOf bs k) hk.s hs (fun hl => (goal_in ht (by rw [e0]; exact (lead_to hk.k0 hk.k1).2 hl)).1)]
      simp
  · have hp : ∀ x : Int, Sc.prT ⟨2, x, []⟩ = Lib.itoa x := fun _ => rfl
    have pw : ∀ l, Sc.prT (wdT l) = l := fun _ => rfl
    split
    · show Sc.glue [(false, wdT wordN), (true, ⟨2, Di.halfW bs k, []⟩)] = _
      simp [Sc.glue, hp, pw, wordN]
    · show Sc.glue [(false, wdT byteN), (true, ⟨2, bs (2 * k), []⟩)] = _
      simp [Sc.glue, hp, pw, byteN]
theorem with_snoc (led : Nat → Bool) (d : Dl) : ∀ (r : List Dl) (k : Nat), withLabs led k (r ++ [d]) = withLabs led k r ++ (if led (k + r.length) = true then [.lab (2 * (k + r.length)), d] else [d])
  | [], k => by simp [withLabs]
  | x :: r, k => by
    have ih := with_snoc led d r (k + 1)
    rw [List.cons_append, withLabs, ih, withLabs, List.length_cons, show k + (r.length + 1) = k + 1 + r.length by omega]
    split <;> rfl
theorem srcB_app (a b : List (List UInt8 × List Sc.Tok)) : srcB (a ++ b) = srcB a ++ srcB b := by simp [srcB]
theorem text_is (bs : Nat → Int) (len : Nat) : ∀ k, Di.textTo bs len k = srcB ((withLabs (ledD bs len) 0 ((List.range k).map (rowD bs len))).map Dl.line)
  | 0 => rfl
  | k + 1 => by
    have ih := text_is bs len k
    rw [Di.textTo, ih, List.range_succ, List.map_append, List.map_cons, List.map_nil, with_snoc, List.map_append, srcB_app, List.append_assoc]
    congr 1
    have hl : 0 + ((List.range k).map (rowD bs len)).length = k := by simp
    rw [hl]
    have hr := row_line bs len k
    unfold Di.nameL
    show (if ledD bs len k = true then _ else _) ++ _ = _
    split
    · have e : (Dl.lab (2 * k)).line.1 = plW (2 * k) ++ [58] := rfl
      have e2 := pl_is (2 * (k : Int)) (by omega)
      rw [show (2 * (k : Int)).toNat = 2 * k by omega] at e2
      simp [srcB, hr, e, e2]
    · simp [srcB, hr]

end Go.Proofs.YtjmjhbdlbmnllaaGreatDoor

namespace Go.Proofs.YtjmjhbdlbmnllaaGreatDoor
open Go.RowKit Go.Maps Go.MapKept

def byteL (bs : Nat → Int) (n : Nat) : List UInt8 := (List.range n).map fun i => UInt8.ofNat (bs i).toNat
theorem lowB_byte (a : Int) (h0 : 0 ≤ a) (h1 : a ≤ 255) : lowB a = UInt8.ofNat a.toNat := by
  unfold lowB
  rw [Int.emod_eq_of_lt h0 (by omega)]
theorem half_of {bs : Nat → Int} (hb : Isa.IsByte bs) (k : Nat) : half (Di.halfW bs k) = [UInt8.ofNat (bs (2 * k)).toNat, UInt8.ofNat (bs (2 * k + 1)).toNat] := by
  have a := hb (2 * k)
  have b := hb (2 * k + 1)
  unfold half Di.halfW
  rw [show (bs (2 * k) * 256 + bs (2 * k + 1)) / 256 = bs (2 * k) by omega, lowB_byte _ a.1 a.2]
  have : lowB (bs (2 * k) * 256 + bs (2 * k + 1)) = UInt8.ofNat (bs (2 * k + 1)).toNat := by
    unfold lowB
    rw [show (bs (2 * k) * 256 + bs (2 * k + 1)) % 256 = bs (2 * k + 1) by omega]
  rw [this]
theorem row_bytes {bs : Nat → Int} (hb : Isa.IsByte bs) (len k : Nat) : (rowD bs len k).bytes = if 2 * k + 1 < len then [UInt8.ofNat (bs (2 * k)).toNat, UInt8.ofNat (bs (2 * k + 1)).toNat] else [UInt8.ofNat (bs (2 * k)).toNat] := by
  unfold rowD
  split
  · rename_i ht
    obtain ⟨q, n, m, imm, hk, hw, he, e0, e1, e2, e3⟩ := dec_told ht
    rw [if_pos (told_two ht), e0, e1, e2, e3, Int.toNat_natCast]
    show half (Isa.encI q n m imm) = _
    rw [he, half_of hb]
  · split
    · show (if (2 : Int) = 1 then [lowB (Di.halfW bs k)] else half (Di.halfW bs k)) = _
      rw [if_neg (by decide), half_of hb]
    · have := hb (2 * k)
      show (if (1 : Int) = 1 then [lowB (bs (2 * k))] else half (bs (2 * k))) = _
      rw [if_pos rfl, lowB_byte _ this.1 this.2]
theorem rows_bytes {bs : Nat → Int} (hb : Isa.IsByte bs) (len : Nat) : ∀ k, k ≤ numR len → (((List.range k).map (rowD bs len)).map Dl.bytes).flatten = byteL bs (min (2 * k) len)
  | 0, _ => by simp [byteL]
  | k + 1, h => by
    have ih := rows_bytes hb len k (by omega)
    rw [List.range_succ, List.map_append, List.map_append, List.flatten_append, ih]
    simp only [List.map_cons, List.map_nil, List.flatten_cons, List.flatten_nil, List.append_nil]
    rw [row_bytes hb]
    unfold numR at h
    split
    · rename_i h2
      rw [show min (2 * k) len = 2 * k by omega, show min (2 * (k + 1)) len = 2 * k + 1 + 1 by omega]
      unfold byteL
      rw [List.range_succ, List.range_succ, List.map_append, List.map_append, List.append_assoc]
      rfl
    · rename_i h2
      rw [show min (2 * k) len = 2 * k by omega, show min (2 * (k + 1)) len = 2 * k + 1 by omega]
      unfold byteL
      rw [List.range_succ, List.map_append]
      rfl
theorem code_is {bs : Nat → Int} (hb : Isa.IsByte bs) (len : Nat) : (obDl (ledD bs len) (rowsD bs len)).code = byteL bs len := by
  show ((rowsD bs len).map Dl.bytes).flatten = _
  unfold rowsD
  rw [rows_bytes hb len _ (Nat.le_refl _)]
  congr 1
  unfold numR
  omega

theorem rowL_pos (bs : Nat → Int) (len k : Nat) : 1 ≤ (Di.rowL bs len k).length := by
  rw [← row_line]
  unfold rowD
  split
  · rename_i ht
    obtain ⟨q, n, m, imm, hk, hw, he, e0, e1, e2, e3⟩ := dec_told ht
    rw [e0, Int.toNat_natCast]
    have hg := (name_of hk.k0 hk.k1).1
    have e : Sc.prT (wdT (nameN q)) = nameN q := rfl
    show 1 ≤ (Sc.prT (wdT (nameN q)) ++ _).length
    rw [e, List.length_append]
    have : nameN q ≠ [] := by intro h; rw [h] at hg; cases hg
    have := List.length_pos_iff.2 this
    omega
  · split
    · show 1 ≤ (Sc.prT (wdT wordN) ++ _).length
      have e : Sc.prT (wdT wordN) = wordN := rfl
      rw [e, List.length_append]
      show 1 ≤ 5 + _
      omega
    · show 1 ≤ (Sc.prT (wdT byteN) ++ _).length
      have e : Sc.prT (wdT byteN) = byteN := rfl
      rw [e, List.length_append]
      show 1 ≤ 5 + _
      omega
theorem text_long (bs : Nat → Int) (len : Nat) : ∀ k, 2 * k ≤ (Di.textTo bs len k).length
  | 0 => by simp
  | k + 1 => by
    have ih := text_long bs len k
    have := rowL_pos bs len k
    rw [Di.textTo]
    simp only [List.length_append, List.length_cons, List.length_nil]
    omega
theorem count_src : ∀ l : List (List UInt8 × List Sc.Tok), (∀ x, x ∈ l → OkL x.1 x.2) → (srcB l).count 10 = l.length
  | [], _ => rfl
  | x :: l, h => by
    have ih := count_src l fun y hy => h y (by simp [hy])
    have hx := (h x (by simp)).2.2.2.1
    have e : srcB (x :: l) = x.1 ++ ([10] ++ srcB l) := by simp [srcB]
    rw [e, List.count_append, List.count_append, ih, List.count_eq_zero_of_not_mem (fun hm => hx 10 hm rfl), List.length_cons]
    simp
    omega
/-- The lines of the text, where it is short. -/
def linesD (bs : Nat → Int) (len : Nat) : List Dl := withLabs (ledD bs len) 0 (rowsD bs len)
theorem text_lines (bs : Nat → Int) (len : Nat) : Di.textTo bs len (numR len) = srcB ((linesD bs len).map Dl.line) := text_is bs len (numR len)
theorem linesD_fine {bs : Nat → Int} (hb : Isa.IsByte bs) {len : Nat} (hl : len ≤ 1202) : ∀ d, d ∈ linesD bs len → d.fine := by
  intro d hd
  rcases with_mem (ledD bs len) (rowsD bs len) 0 d hd with hd | ⟨i, _, hi, rfl⟩
  · obtain ⟨i, hi, rfl⟩ := List.getElem_of_mem hd
    exact row_fine (rowsD_ok hb (by omega) i hi)
  · rw [rowsD_len] at hi
    show 2 * i ≤ 2000
    unfold numR at hi
    omega
theorem linesD_ok {bs : Nat → Int} (hb : Isa.IsByte bs) {len : Nat} (hl : len ≤ 1202) : ∀ x, x ∈ (linesD bs len).map Dl.line → OkL x.1 x.2 := by
  intro x hx
  obtain ⟨d, hd, rfl⟩ := List.mem_map.1 hx
  exact fine_line (linesD_fine hb hl d hd)

end Go.Proofs.YtjmjhbdlbmnllaaGreatDoor

namespace Go.Proofs.YtjmjhbdlbmnllaaGreatDoor
open Go.RowKit Go.Maps Go.MapKept

theorem byteL_len (bs : Nat → Int) (n : Nat) : (byteL bs n).length = n := by simp [byteL]
theorem bytes_rd {w : World} {ad : Option Addr} {len : Nat} (cap : Nat) {bs : Nat → Int} (h : Di.BR w ad len bs) : Sc.BReads w (.slice ad (byteL bs len).length cap) (byteL bs len) := by
  refine ⟨ad, cap, rfl, by rw [byteL_len]; have := h.few; unfold maxLen; omega, fun h0 => ?_⟩
  rw [byteL_len] at h0
  obtain ⟨b, off, e, hl, hc⟩ := h.row h0
  refine ⟨b, off, e, hl, fun i hi => ?_⟩
  rw [byteL_len] at hi
  have hb := h.byt i
  have e2 : (byteL bs len)[i]'(by rw [byteL_len]; exact hi) = UInt8.ofNat (bs i).toNat := by simp [byteL]
  rw [hc i hi, e2, UInt8.toNat_ofNat', Nat.mod_eq_of_lt (by omega), Int.toNat_of_nonneg hb.1]
theorem tn_of {w : World} {ad : Option Addr} {len : Nat} (cap : Nat) {bs : Nat → Int} (hD : Di.DL w) (hR : Di.BR w ad len bs) : Tn w (.slice ad len cap) (Di.textTo bs len (numR len)) := by
  have hl : (Di.textTo bs len (numR len)).length ≤ 1000000000 := by
    have := Di.textTo_few hR.byt len (numR len)
    have h2 := hR.few
    unfold numR at *
    omega
  refine ⟨alive8 w hD, fun W hb => Di.text_any (hD.next hb) (hR.next hb), fun W => ?_, hl⟩
  exact feeds_any ⟨(Di.textTo bs len (numR len)).toArray⟩ W (by simpa [ByteArray.size] using hl)

theorem turns_any {w : World} {ad : Option Addr} {len : Nat} (cap : Nat) {bs : Nat → Int} (hD : Di.DL w) (hA : AllLaid w) (hR : Di.BR w ad len bs) :
    Calls Tryz.prog 3 #[.slice ad len cap] w fun e w' => e = .returned (.bool true) ∧ Below w.heap.size w w' := by
  have hT := tn_of cap hD hR
  have hb : Isa.IsByte bs := hR.byt
  have htl := text_long bs len (numR len)
  have hte := text_lines bs len
  obtain ⟨S, hS⟩ : ∃ S, S = Di.textTo bs len (numR len) := ⟨_, rfl⟩
  rw [← hS] at hT htl hte
  by_cases hl : 1200 < S.length
  · exact turns_long _ S w hT (fun v W hbw hv => unit_toolong v S W hv hl (hA.next hbw).gl) hl
  have hlen : len ≤ 1200 := by unfold numR at htl; omega
  have hok := linesD_ok hb (len := len) (by omega)
  have hfine := linesD_fine hb (len := len) (by omega)
  have hcount : S.count 10 = (linesD bs len).length := by rw [hte, count_src _ hok, List.length_map]
  have hcl : S.count 10 ≤ S.length := List.count_le_length
  have hnl : ∀ (l : List (List Sc.Tok)) (k : Nat), (numLn k l).length = l.length := by
    intro l
    induction l with
    | nil => intro k; rfl
    | cons a r ih => intro k; simp [numLn, ih]
  have hP : ∀ x, x ∈ (linesD bs len).map Dl.line → x.2.length ≤ 100 ∧ PlainHead (headS (x.2.map tkOf)) := by
    intro x hx
    obtain ⟨d, hd, rfl⟩ := List.mem_map.1 hx
    exact fine_plain (hfine d hd)
  have hsrc : Sc.srcLines S = .ok (srcN ((linesD bs len).map Dl.line)) := by
    have := src_len _ hok (by rw [hte] at hl; exact Nat.not_lt.1 hl)
    rw [hte]
    exact this
  by_cases hn : 200 < S.count 10
  · exact turns_many _ S w hT (fun v W hbw hv => unit_over v S _ W hv hsrc (by rw [srcN, hnl, List.length_map, List.length_map]; omega) (by rw [srcN, hnl, List.length_map, List.length_map]; omega) (srcN_plain _ hP) (hA.next hbw).gl) (by omega) hn
  · have hgood : ∃ ob : Ob, Good w S ob ∧ ob.code = byteL bs len ∧ ob.rels = [] := by
      by_cases h0 : len = 0
      · subst h0
        refine ⟨obNil, fun v W hbw hv => ?_, rfl, rfl⟩
        have hs0 : S = [] := by rw [hS]; rfl
        rw [hs0] at hv
        exact unit_none v W (hA.next hbw) hv
      · refine ⟨obDl (ledD bs len) (rowsD bs len), fun v W hbw hv => ?_, code_is hb len, rfl⟩
        rw [hte] at hv hl hn
        have hcc := hcount
        rw [hte] at hcc
        exact unit_dl v (ledD bs len) (rowsD bs len) (rowsD_ok hb (by omega)) (by rw [rowsD_len]; unfold numR; omega) (by rw [rowsD_len]; unfold numR; omega) (by show (linesD bs len).length ≤ 200; omega) (Nat.not_lt.1 hl) W (hA.next hbw) hv
    obtain ⟨ob, hg, hc, hq⟩ := hgood
    have := turns_good ad cap (byteL bs len) S ob w (by rw [byteL_len]; exact hT) hg (bytes_rd cap hR) hc hq (by omega) (by omega)
    rw [byteL_len] at this
    exact this

end Go.Proofs.YtjmjhbdlbmnllaaGreatDoor
