/- farm.free: the first worker without a job. The contract of the program's scan.Name. farm.put: a message on the way. farm.send: a message sent. -/
import Derived.Test.YtbpoiajpcahdhaaGreatDoorPut10
import Derived.Shelf.Abstract
import Derived.Test.YtbpoiajpcahdhaaGreatDoorPut8
import Derived.WalkKit
import Derived.WalkSpells
import Derived.WalkLawsBesides
import Derived.Deep.RegionHeld3
import Derived.BigQuiet
import Derived.Lib.ParseIntB
import Derived.Lib.Strings
import Derived.Lib.Split
import Derived.Laws.EntriesVeiled
import Derived.Maps.AppendAt
import Derived.Deep.DeepCutAuto
import Derived.Lib.ConvBytes
import Derived.Lib.ParseIntBMem
import Derived.Lib.AtoiErrMem
import Derived.Lib.Hide
import Derived.Laws.Strings3
import Derived.Laws.Closers25
import Derived.Laws.Closers25b
import Derived.BigCall
import Derived.BigGuard
import Derived.WalkSmall
import Derived.Lib.IndexBytes
import Derived.Lib.SmallJoins
import Derived.Laws.CopyOwn
import Derived.Deep.OwnRows
import Derived.Lib.ItoaMem
import Derived.Lib.AppendIntMem
import Derived.Lib.ItoaLen
import Derived.Laws.BytesArg
import Derived.Lib.SplitLaws
import Derived.Deep.AppendSrc
import Derived.Deep.RegionLaw
import Derived.Test.YtbpoiajpcahdhaaGreatDoorPut11
namespace Go.Proofs.YtbpoiajpcahdhaaGreatDoor.Wi
open Go.RowKit

set_option maxHeartbeats 2000000 in
set_option maxRecDepth 100000 in
theorem free1_any (j : Jb) (sa oa : Option Addr) (sl sc ol oc : Nat) (x : Int) (gw : Nat) (w : World) (hx : w.heap[gw]? = some (.cells #[.int .i64 x] 3 (0, 0))) : Calls Tryz.prog 52 #[.agg (jV j (.slice sa sl sc) (.slice oa ol oc)), .pointer (some ⟨gw, 0, none⟩)] w fun e w' => e = .returned (.bool (!j.done && decide (j.worker = x))) ∧ Below w.heap.size w w' := by
  have HO := Lib.hid fun W => open_any j sa oa sl sc ol oc W
  have HA : Hid (∀ o, Below w.heap.size w (w.alloc o)) := fun o => oalloc w o
  have c0 : w.cell? ⟨gw, 0, none⟩ = some (.int .i64 x) := fblk_cell hx rfl
  have hz := fblk_lt hx
  have HX := Lib.hid hx
  clear hx
  obtain ⟨src, wk, tu, wa, dn, ob, er, pl⟩ := j
  unfold jV at *
  simp only at *
  cases dn
  all_goals
    go_enter Tryz.func52, Tryz.ntmps52
    go_wp2_with fail
    refine (HO.out _).mono ?_
    rintro e w1 ⟨rfl, hb1⟩
    have HB1 := Lib.hid (bnext (HA.out _) hb1)
    have d0 : w1.cell? ⟨gw, 0, none⟩ = some (.int .i64 x) := fblk_cell ((HB1.out.block gw hz).trans HX.out) rfl
    have d1 : w1.cell? ⟨w.heap.size, 1, none⟩ = some (.int .i64 wk) := fblk_cell ((hb1.block _ (by simp)).trans (fblk_new w _ _)) rfl
    have hz1 : w.heap.size < w1.heap.size := Nat.lt_of_lt_of_le (by simp) hb1.size
    have hz2 : gw < w1.heap.size := by omega
    clear hb1 HO HA c0
    go_wp2_with fail
    go_ret
    exact ⟨ret_bool (by first | rfl | simp), HB1.out⟩

/-- The first place, from k on, at which p holds. -/
def idxF (p : Jb → Bool) : List Jb → Nat → Int
  | [], _ => -1
  | j :: r, k => if p j then (k : Int) else idxF p r (k + 1)
theorem idxF_any (p : Jb → Bool) : ∀ (l : List Jb) (k : Nat), (decide (0 ≤ idxF p l k)) = l.any p
  | [], _ => rfl
  | j :: r, k => by
    unfold idxF
    rw [List.any_cons]
    cases h : p j
    · simpa using idxF_any p r (k + 1)
    · simp
theorem idxF_step (p : Jb → Bool) (l : List Jb) (k : Nat) (h : k < l.length) : idxF p (l.drop k) k = if p l[k] then (k : Int) else idxF p (l.drop (k + 1)) (k + 1) := by
  rw [List.drop_eq_getElem_cons h]
  rfl
theorem idxF_none (p : Jb → Bool) (l : List Jb) (k : Nat) (h : l.length ≤ k) : idxF p (l.drop k) k = -1 := by rw [List.drop_eq_nil_of_le h]; rfl

set_option maxHeartbeats 2000000 in
set_option maxRecDepth 100000 in
theorem index_jobs (g : FuncId) (caps : Array Value) (hent : ∀ args w, (callFunc g args).run Tryz.prog w = .ok (.enter g args) w) (p : Jb → Bool) (js : List Jb) (gJ cJ : Nat) (cur : Array Value) (w : World) (hcu : w.heap[gJ]? = some (.cells cur 40 (0, 0))) (hrow : JRow w cur js) (hlen : js.length ≤ 4)
    (hp : ∀ (j : Jb) (sa oa : Option Addr) (sl sc ol oc : Nat) (W : World), Below w.heap.size w W → Calls Tryz.prog g (#[.agg (jV j (.slice sa sl sc) (.slice oa ol oc))] ++ caps) W fun e w' => e = .returned (.bool (p j)) ∧ Below W.heap.size W w') :
    Calls Tryz.prog 31 #[.slice (some ⟨gJ, 0, none⟩) js.length cJ, .func (.func g) #[] caps] w fun e w' => e = .returned (.int .i64 (idxF p js 0)) ∧ Below w.heap.size w w' := by
  have HC := Lib.hid hcu
  have HR := Lib.hid hrow
  have HP := Lib.hid hp
  have hg := fblk_lt hcu
  clear hcu hrow hp
  go_enter Tryz.func31, Tryz.ntmps31
  go_wp2_with fail
  go_loopw [8] (fun i W => ∃ k : Nat, k ≤ js.length ∧ i = .int .i64 k ∧ Hid (Below w.heap.size w W) ∧ Hid (idxF p (js.drop k) k = idxF p js 0)) (fun i _ => js.length - (intOf i).toNat)
  case atStart => exact ⟨0, Nat.zero_le _, rfl, Below.refl _ _, by show idxF p (js.drop 0) 0 = _; rw [List.drop_zero]⟩
  case round =>
    obtain ⟨k, hk, rfl, HB, HI⟩ := hrel
    by_cases hlt : k < js.length
    · have hk1 : (k : Int) < js.length := by omega
      have hcr := (HB.out.block gJ hg).trans HC.out
      have hgr := fblk_lt hcr
      obtain ⟨sv, ov, hj, hsv, hov⟩ := HR.out k hlt
      obtain ⟨sa, sc, rfl⟩ := hsv.slice
      obtain ⟨oa, oc, rfl⟩ := hov.slice
      obtain ⟨e0, e1, e2, e3, e4, e5, e6, e7⟩ := jc_of hcr hj
      have HCALL := Lib.hid (HP.out js[k] sa oa js[k].src.length sc js[k].obj.length oc wr HB.out)
      have HST := Lib.hid (idxF_step p js k hlt)
      obtain ⟨P, hP⟩ : ∃ P, k * 8 = P := ⟨_, rfl⟩
      rw [hP] at e0 e1 e2 e3 e4 e5 e6 e7
      obtain ⟨b, hb⟩ : ∃ b, p js[k] = b := ⟨_, rfl⟩
      rw [hb] at HCALL HST
      unfold jV at HCALL
      generalize js[k] = j at *
      clear hcr hj hsv hov hb
      obtain ⟨src, wk, tu, wa, dn, ob, er, pl⟩ := j
      simp only at *
      cases b
      all_goals
        go_wp2_with fail
        refine HCALL.out.mono ?_
        rintro e w1 ⟨rfl, hb1⟩
        have HB1 := Lib.hid (HB.out.trans (hb1.mono HB.out.size))
        clear hb1 HCALL e0 e1 e2 e3 e4 e5 e6 e7
        go_wp2_with fail
      · refine ⟨⟨k + 1, by omega, by go_num, HB1, ?_⟩, by simp [intOf]; omega⟩
        have := HST.out
        exact this.symm.trans HI.out
      · go_ret
        have := HST.out
        refine ⟨?_, HB1.out⟩
        rw [← HI.out]
        rw [this]
        rfl
    · have hk1 : ¬ (k : Int) < js.length := by omega
      have HN := Lib.hid (idxF_none p js k (by omega))
      go_wp2_with fail
      go_ret
      refine ⟨?_, HB.out⟩
      rw [← HI.out, HN.out]
      rfl

set_option maxHeartbeats 2000000 in
set_option maxRecDepth 100000 in
theorem contains_jobs (g : FuncId) (caps : Array Value) (hent : ∀ args w, (callFunc g args).run Tryz.prog w = .ok (.enter g args) w) (p : Jb → Bool) (js : List Jb) (gJ cJ : Nat) (cur : Array Value) (w : World) (hcu : w.heap[gJ]? = some (.cells cur 40 (0, 0))) (hrow : JRow w cur js) (hlen : js.length ≤ 4)
    (hp : ∀ (j : Jb) (sa oa : Option Addr) (sl sc ol oc : Nat) (W : World), Below w.heap.size w W → Calls Tryz.prog g (#[.agg (jV j (.slice sa sl sc) (.slice oa ol oc))] ++ caps) W fun e w' => e = .returned (.bool (p j)) ∧ Below W.heap.size W w') :
    Calls Tryz.prog 15 #[.slice (some ⟨gJ, 0, none⟩) js.length cJ, .func (.func g) #[] caps] w fun e w' => e = .returned (.bool (js.any p)) ∧ Below w.heap.size w w' := by
  have HI := Lib.hid (index_jobs g caps hent p js gJ cJ cur w hcu hrow hlen hp)
  have HE := Lib.hid (idxF_any p js 0)
  generalize idxF p js 0 = x at *
  clear hcu hrow hp hent
  go_enter Tryz.func15, Tryz.ntmps15
  go_wp2_with fail
  refine HI.out.mono ?_
  rintro e w1 ⟨rfl, hb1⟩
  have HB1 := Lib.hid hb1
  clear hb1
  go_wp2_with fail
  go_ret
  refine ⟨?_, HB1.out⟩
  rw [← HE.out]
  exact ret_bool (by simp)

theorem two_args (a b : Value) : (#[a] ++ #[b] : Array Value) = #[a, b] := by simp
theorem freeK_step (l : List Jb) (many : Nat) (frm : Int) (k : Nat) (h : k < many) : freeK l many frm (many - k) k = if busyW l ((frm + (k : Int)) % (many : Int)) then freeK l many frm (many - (k + 1)) (k + 1) else (frm + (k : Int)) % (many : Int) := by
  rw [show many - k = (many - (k + 1)) + 1 by omega]
  rfl

set_option maxHeartbeats 2000000 in
set_option maxRecDepth 100000 in
theorem free_any (B F gJ cJ gD cD : Nat) (wv : Value) (f : Fm) (frm : Int) (w : World) (h : FO w B F gJ cJ gD cD wv f) (hj : f.jobs.length ≤ 4) (hd : f.dead.length ≤ 3) (h0 : 0 ≤ frm) (h1 : frm ≤ 1000000000000) :
    Calls Tryz.prog 44 #[.pointer (some ⟨F, 0, none⟩), .int .i64 frm] w fun e w' => e = .returned (.int .i64 (freeL f.jobs f.dead.length frm)) ∧ Below w.heap.size w w' := by
  have HO := Lib.hid h
  have c2 := fblk_cell (i := 2) (v := .slice (some ⟨gD, 0, none⟩) f.dead.length cD) h.box rfl
  have hF := fblk_lt h.box
  have HCT : Hid (∀ (x : Int) (W : World), FO W B F gJ cJ gD cD wv f → Calls Tryz.prog 15 #[.slice (some ⟨gJ, 0, none⟩) f.jobs.length cJ, .func (.func 52) #[] #[.pointer (some ⟨W.heap.size, 0, none⟩)]] (W.alloc (.cells #[.int .i64 x] 3)) fun e w' => e = .returned (.bool (busyW f.jobs x)) ∧ Below W.heap.size W w' ∧ w'.heap[W.heap.size]? = some (.cells #[.int .i64 x] 3 (0, 0))) := fun x W hO => by
    have hA := oalloc W (.cells #[.int .i64 x] 3)
    obtain ⟨cur, hcu, hrow⟩ := (hO.go hA).rows.jobs
    have hbx := fblk_new W #[.int .i64 x] 3
    refine (contains_jobs 52 _ (enters_of Tryz.func52 (by kernel_rfl) rfl) (fun j => !j.done && decide (j.worker = x)) f.jobs gJ cJ cur _ hcu hrow hj (fun j sa oa sl sc ol oc V hV => by rw [two_args]; exact free1_any j sa oa sl sc ol oc x W.heap.size V ((hV.block _ (by simp)).trans hbx))).mono ?_
    rintro e w' ⟨rfl, hb⟩
    exact ⟨rfl, bnext hA hb, (hb.block _ (by simp)).trans hbx⟩
  clear h
  go_enter Tryz.func44, Tryz.ntmps44
  go_wp2_with fail
  go_loopw [14] (fun i W => ∃ k : Nat, k ≤ f.dead.length ∧ i = .int .i64 k ∧ Hid (Below w.heap.size w W) ∧ Hid (freeK f.jobs f.dead.length frm (f.dead.length - k) k = freeL f.jobs f.dead.length frm)) (fun i _ => f.dead.length - (intOf i).toNat)
  case atStart => exact ⟨0, Nat.zero_le _, rfl, Below.refl _ _, rfl⟩
  case round =>
    obtain ⟨k, hk, rfl, HB, HI⟩ := hrel
    clear c2 hF
    by_cases hlt : k < f.dead.length
    · have hk1 : (k : Int) < f.dead.length := by omega
      have hO := HO.out.go HB.out
      have d1 := fblk_cell (i := 1) (v := .slice (some ⟨gJ, 0, none⟩) f.jobs.length cJ) hO.box rfl
      have hF := fblk_lt hO.box
      have HOR := Lib.hid hO
      clear hO
      have HST := Lib.hid (freeK_step f.jobs f.dead.length frm k hlt)
      have hx0 : (frm + (k : Int)) % (f.dead.length : Int) = (frm + (k : Int)).tmod (f.dead.length : Int) := (Int.tmod_eq_emod_of_nonneg (by omega)).symm
      obtain ⟨x, hx⟩ : ∃ x, (frm + (k : Int)) % (f.dead.length : Int) = x := ⟨_, rfl⟩
      have hxt : (frm + (k : Int)).tmod (f.dead.length : Int) = x := hx0.symm.trans hx
      rw [hx] at HST
      have hdz : ((f.dead.length : Nat) : Int) ≠ 0 := by omega
      clear hx0 hx
      go_wp2_with fail
      refine (HCT.out x wr HOR.out).mono ?_
      rintro e w1 ⟨rfl, hb1, hbox⟩
      have HB1 := Lib.hid (HB.out.trans (hb1.mono HB.out.size))
      have e0 : w1.cell? ⟨wr.heap.size, 0, none⟩ = some (.int .i64 x) := fblk_cell hbox rfl
      have hzb := fblk_lt hbox
      clear hb1 hbox d1 hF HOR HB hxt
      obtain ⟨b, hb⟩ : ∃ b, busyW f.jobs x = b := ⟨_, rfl⟩
      rw [hb] at HST ⊢
      clear hb
      cases b
      all_goals go_wp2_with fail
      · go_ret
        refine ⟨?_, HB1.out⟩
        rw [← HI.out, HST.out]
        rfl
      · refine ⟨⟨k + 1, by omega, by go_num, HB1, ?_⟩, by simp [intOf]; omega⟩
        exact (show _ = _ from HST.out.symm.trans HI.out)
    · have hk1 : ¬ (k : Int) < f.dead.length := by omega
      have hke : f.dead.length - k = 0 := by omega
      go_wp2_with fail
      go_ret
      refine ⟨?_, HB.out⟩
      rw [← HI.out, hke]
      rfl

end Go.Proofs.YtbpoiajpcahdhaaGreatDoor.Wi

namespace Go.Proofs.YtbpoiajpcahdhaaGreatDoor.Li
open Go.RowKit

theorem digit_any (c : Int) (w : World) :
    Calls Tryz.prog 107 #[.int .u8 c] w fun e w' => e = .returned (.bool (digitB c)) ∧ w' = w := by
  by_cases h1 : 48 ≤ c
  all_goals by_cases h2 : c ≤ 57
  all_goals
    go_enter Tryz.func107, Tryz.ntmps107
    go_wp2
    go_ret
    exact ⟨ret_bool (by simp [digitB]; omega), rfl⟩

theorem letter_any (c : Int) (w : World) :
    Calls Tryz.prog 105 #[.int .u8 c] w fun e w' => e = .returned (.bool (letterB c)) ∧ w' = w := by
  by_cases h1 : 97 ≤ c
  all_goals by_cases h2 : c ≤ 122
  all_goals by_cases h3 : 65 ≤ c
  all_goals by_cases h4 : c ≤ 90
  all_goals by_cases h5 : c = 95
  all_goals by_cases h6 : c = 46
  all_goals first
    | (exfalso; omega)
    | (have e5 : (c == 95) = decide (c = 95) := by rfl
       have e6 : (c == 46) = decide (c = 46) := by rfl
       simp only [h5, h6] at e5 e6
       go_enter Tryz.func105, Tryz.ntmps105
       go_wp2
       go_ret
       exact ⟨ret_bool (by first | (simp [letterB]; omega) | simp [letterB]), rfl⟩)

def Enters1 (f : FuncId) : Prop := ∀ args w, (callFunc f args).run Tryz.prog w = .ok (.enter f args) w

def Asks (f : FuncId) (p : Int → Bool) : Prop := ∀ (c : UInt8) (w : World), Calls Tryz.prog f #[.int .u8 (c.toNat : Int)] w fun e w' => e = .returned (.bool (p c.toNat)) ∧ w' = w

def spanL (p : Int → Bool) (l : List UInt8) : Nat := (l.takeWhile (pb p)).length

theorem spanL_yes {p : Int → Bool} {s : ByteArray} {k : Nat} (hk : k < s.size) (hp : p s[k].toNat = true) (h : spanL p s.data.toList = k + spanL p (s.data.toList.drop k)) :
    spanL p s.data.toList = (k + 1) + spanL p (s.data.toList.drop (k + 1)) := by
  rw [h, drop_at hk]
  have hp' : pb p s[k] = true := hp
  simp only [spanL, List.takeWhile_cons, hp', if_true, List.length_cons]
  omega

theorem spanL_no {p : Int → Bool} {s : ByteArray} {k : Nat} (hk : k < s.size) (hp : p s[k].toNat = false) (h : spanL p s.data.toList = k + spanL p (s.data.toList.drop k)) :
    spanL p s.data.toList = k := by
  rw [h, drop_at hk]
  have hp' : pb p s[k] = false := hp
  simp [spanL, hp']

theorem spanL_end {p : Int → Bool} {s : ByteArray} {k : Nat} (hk : s.size ≤ k) (h : spanL p s.data.toList = k + spanL p (s.data.toList.drop k)) : spanL p s.data.toList = k := by
  rw [h, List.drop_eq_nil_of_le (by simpa using hk)]
  simp [spanL]

theorem span_any (s : ByteArray) (f : FuncId) (p : Int → Bool) (w : World) (hs : s.size ≤ 9223372036854775000) (he : Enters1 f) (hp : Asks f p) :
    Calls Tryz.prog 102 #[.string s, .func (.func f) #[] #[]] w fun e w' => e = .returned (.int .i64 (spanL p s.data.toList)) ∧ w' = w := by
  unfold Enters1 at he
  go_enter Tryz.func102, Tryz.ntmps102
  go_wp2
  go_loop [5] (fun i => ∃ k : Nat, k ≤ s.size ∧ i = .int .i64 k ∧ Hid (spanL p s.data.toList = k + spanL p (s.data.toList.drop k))) (fun i => s.size - (intOf i).toNat)
  case atStart => exact ⟨0, Nat.zero_le _, rfl, by simp [Hid]⟩
  case round =>
    obtain ⟨k, hk, rfl, HS⟩ := hrel
    by_cases hlt : k < s.size
    · have hk1 : (k : Int) < s.size := by omega
      have hidx := index9 s k k rfl hlt
      cases hb : p (s[k].toNat : Int)
      · go_wp2_with fail
        refine (hp _ _).mono ?_
        rintro e w1 ⟨rfl, rfl⟩
        simp only [hb]
        go_wp2
        go_ret
        exact ⟨ret_int (by rw [spanL_no hlt hb HS.out]), rfl⟩
      · go_wp2_with fail
        refine (hp _ _).mono ?_
        rintro e w1 ⟨rfl, rfl⟩
        simp only [hb]
        go_wp2
        exact ⟨⟨k + 1, by omega, by go_num, spanL_yes hlt hb HS.out⟩, by simp [intOf]; omega⟩
    · have hk1 : ¬ (k : Int) < s.size := by omega
      go_wp2
      go_ret
      exact ⟨ret_int (by rw [spanL_end (by omega) HS.out]), rfl⟩

theorem inName_any (c : UInt8) (w : World) :
    Calls Tryz.prog 133 #[.int .u8 (c.toNat : Int)] w fun e w' => e = .returned (.bool (nameB c.toNat)) ∧ w' = w := by
  by_cases h0 : (c.toNat : Int) = 46
  · have e0 : ((c.toNat : Int) == 46) = true := by simp [h0]
    go_enter Tryz.func133, Tryz.ntmps133
    go_wp2
    go_ret
    exact ⟨ret_bool (by simp [nameB, h0]), rfl⟩
  · have e0 : ((c.toNat : Int) == 46) = false := by simp [h0]
    cases h1 : letterB c.toNat
    · cases h2 : digitB c.toNat
      all_goals
        go_enter Tryz.func133, Tryz.ntmps133
        go_wp2_with (first | (go_at_call 105; refine (letter_any _ _).mono ?_; rintro e w' ⟨rfl, rfl⟩; simp only [h1]) | (go_at_call 107; refine (digit_any _ _).mono ?_; rintro e w' ⟨rfl, rfl⟩; simp only [h2]))
        go_ret
        exact ⟨ret_bool (by simp [nameB, h1, h2, h0]), rfl⟩
    · go_enter Tryz.func133, Tryz.ntmps133
      go_wp2_with (go_at_call 105; refine (letter_any _ _).mono ?_; rintro e w' ⟨rfl, rfl⟩; simp only [h1])
      go_ret
      exact ⟨ret_bool (by simp [nameB, h1, h0]), rfl⟩

theorem enters52 : Enters1 133 := enters_of Tryz.func133 (by kernel_rfl) rfl

theorem size_of {s : ByteArray} {l : List UInt8} (h : s.data.toList = l) : s.size = l.length := by rw [← h]; exact Array.length_toList.symm

theorem spanL_all (p : Int → Bool) : ∀ l : List UInt8, decide (spanL p l = l.length) = l.all (pb p)
  | [] => rfl
  | c :: r => by
    have ih := spanL_all p r
    simp only [spanL, List.takeWhile_cons, List.all_cons] at ih ⊢
    cases hc : pb p c
    · simp
    · rw [← ih]; simp only [if_true, List.length_cons, Bool.true_and, Nat.add_right_cancel_iff]; exact decide_eq_decide.2 Iff.rfl

theorem name_any (s : ByteArray) (w : World) :
    Calls Tryz.prog 94 #[.string s] w fun e w' => e = .returned (.bool (nameR s.data.toList)) ∧ w' = w := by
  have hlen := size_of (rfl : s.data.toList = _)
  cases hl : s.data.toList with
  | nil =>
    have hs : s = ⟨#[]⟩ := empty_of hl
    subst hs
    go_enter Tryz.func94, Tryz.ntmps94
    go_wp2
    go_ret
    exact ⟨rfl, rfl⟩
  | cons c r =>
    rw [hl] at hlen
    simp only [List.length_cons] at hlen
    have h0 : 0 < s.size := by omega
    have h1 : ¬ (s.size : Int) < 1 := by omega
    by_cases h10 : (10 : Int) < s.size
    · have HF : Hid (nameR (c :: r) = false) := by
        have : ¬ r.length < 10 := by omega
        simp [Hid, nameR, this]
      clear hlen
      go_enter Tryz.func94, Tryz.ntmps94
      go_wp2
      go_ret
      exact ⟨ret_bool HF.out.symm, rfl⟩
    · have hat : s[0] = c := by
        have := drop_at h0
        rw [List.drop_zero, hl] at this
        injection this with h1 _
        exact h1.symm
      have hidx := index9 s 0 0 rfl h0
      rw [hat] at hidx
      cases hd : digitB c.toNat
      · have HF : Hid (nameR (c :: r) = decide (spanL nameB (c :: r) = (c :: r).length)) := by
          have h2 : r.length < 10 := by omega
          have h3 : pb digitB c = false := hd
          rw [spanL_all]
          simp [Hid, nameR, h2, h3]
        have hsp : ∀ w, Calls Tryz.prog 102 #[.string s, .func (.func 133) #[] #[]] w fun e w' => e = .returned (.int .i64 (spanL nameB (c :: r))) ∧ w' = w := by
          intro w
          have := span_any s 133 nameB w (by omega) enters52 (fun c w => inName_any c w)
          rw [hl] at this
          exact this
        have hsz : (s.size : Int) = ((c :: r).length : Nat) := by simp; omega
        rw [HF.out]
        clear HF hl hat
        go_enter Tryz.func94, Tryz.ntmps94
        go_wp2_with (first | (go_at_call 107; refine (digit_any _ _).mono ?_; rintro e w' ⟨rfl, rfl⟩; simp only [hd]) | (go_at_call 102; refine (hsp _).mono ?_; rintro e w' ⟨rfl, rfl⟩))
        go_ret
        refine ⟨ret_bool ?_, rfl⟩
        show decide (((spanL nameB (c :: r) : Nat) : Int) = (r.length : Int) + 1) = _
        exact decide_eq_decide.2 (by omega)
      · have HF : Hid (nameR (c :: r) = false) := by
          have h3 : pb digitB c = true := hd
          simp [Hid, nameR, h3]
        clear hlen hl hat
        go_enter Tryz.func94, Tryz.ntmps94
        go_wp2_with (go_at_call 107; refine (digit_any _ _).mono ?_; rintro e w' ⟨rfl, rfl⟩; simp only [hd])
        go_ret
        exact ⟨ret_bool HF.out.symm, rfl⟩

end Go.Proofs.YtbpoiajpcahdhaaGreatDoor.Li

namespace Go.Proofs.YtbpoiajpcahdhaaGreatDoor.Wi
open Go.RowKit

/-- An append whose run is known, as a step of a region that draws. -/
theorem fstep_app1 {P : Program} {ops : Array Oper} {o : Oper} {a : Act} {w : World} {K : Act → World → Prop} {Q : Exit → Act → World → Prop} {E : Prop} (hgd : o.guard = none) (sl x : Operand) (t u : TypeId)
    (ho : o.op = .call { callee := .builtin .append, args := #[sl, x], argTypes := #[t, u] }) (v v2 : Value) (hs : a.eval sl = v) (hx : a.eval x = v2) {v' : Value} {w' : World}
    (hr : ∀ ty, (Builtin.append_ #[t, u] ty #[v, v2]).run P w = .ok v' w') (h : K (a.put o.dst v') w') : if Region.wanted o (yielded ops a.tmps) = true then Oper.wp P o a w K Q else E := by
  have hw : Region.wanted o (yielded ops a.tmps) = true := by simp [Region.wanted, hgd]
  rw [if_pos hw]
  have hr := hr o.type
  unfold Oper.wp execOp
  simp only [ho, resolve, invoke, builtin, Sem.run_bind, Sem.run_pure, Result.andThen_ok, List.map_toArray, List.map_cons, List.map_nil, hs, hx, hr]
  exact h
theorem fwpList_app {P : Program} {w : World} {ops : Array Oper} {rest : List Oper} {o : Oper} {a : Act} {Q : Exit → Act → World → Prop} (hgd : o.guard = none) (sl x : Operand) (t u : TypeId)
    (ho : o.op = .call { callee := .builtin .append, args := #[sl, x], argTypes := #[t, u] }) (v v2 : Value) (hs : a.eval sl = v) (hx : a.eval x = v2) {v' : Value} {w' : World}
    (hr : ∀ ty, (Builtin.append_ #[t, u] ty #[v, v2]).run P w = .ok v' w') (h : wpList P ops Q rest (a.put o.dst v') w') : wpList P ops Q (o :: rest) a w := by
  refine wpList_plain hgd fun K hK => ?_
  have hr := hr o.type
  unfold Oper.wp execOp
  simp only [ho, resolve, invoke, builtin, Sem.run_bind, Sem.run_pure, Result.andThen_ok, List.map_toArray, List.map_cons, List.map_nil, hs, hx, hr]
  exact hK _ _ h

theorem faddr (b o j : Nat) : (⟨b, o, none⟩ : Addr).add j = ⟨b, o + j, none⟩ := by unfold Addr.add; split <;> simp_all
/-- One value, of so many cells, appended onto one's own row. -/
theorem fapp1 (t e : TypeId) (z : Value) (size bytes : Nat) (ht : Tryz.prog.underlying t = some (.slice e)) (hinfo : (Tryz.prog.info? e).map (fun i => (i.zero, i.size, i.bytes)) = some (some z, size, bytes)) (hzs : z.cells.size = size) (hsz : 0 < size) (hby : bytes ≤ 1000)
    {w : World} {base n : Nat} {v : Value} {xs : List Value} (ho : w.ownsRow base e size v n xs) (hb : base ≤ w.heap.size) (news : List Value) (hl : news.length = size) (g : Nat) (hg : w.heap[g]? = some (.cells news.toArray e (0, 0))) (h1 : ∀ u ∈ news, u.oneCell' = true) (hn : n ≤ 1000000) :
    ∃ la lc w', (∀ ty, (Builtin.append_ #[t, t] ty #[v, .slice (some ⟨g, 0, none⟩) 1 1]).run Tryz.prog w = .ok (.slice la (n + 1) lc) w') ∧ w'.ownsRow base e size (.slice la (n + 1) lc) (n + 1) (xs ++ news) ∧ w.grownBy w' v.ownBlock := by
  obtain ⟨i, hi, hz0, hz1, hz2⟩ := info_parts hinfo
  have hb2 : (n + 1) * bytes ≤ 140737488355328 := Nat.le_trans (Nat.mul_le_mul (Nat.add_le_add_right hn 1) hby) (by decide)
  obtain ⟨v', w', hr, h2, h3, _⟩ := run_append_own (P := Tryz.prog) w base t 0 e i z size bytes ht hi hz0 hz1 hz2 hzs hsz v n xs ho ⟨g, 0, none⟩ 1 1 news (by omega) (fun j u hj => by
    rw [faddr, Nat.zero_add]
    exact fblk_cell hg (by simpa using hj)) h1 (by unfold maxLen; omega) hb2 hb
  rcases h2.2 with ⟨_, h0⟩ | ⟨g', c', u', rfl, h4⟩
  · omega
  · exact ⟨_, _, w', fun ty => hr, h2, h3⟩
theorem infoSl : (Tryz.prog.info? 36).map (fun i => (i.zero, i.size, i.bytes)) = some (some (.slice none 0 0), 1, 24) := by kernel_rfl

/-- A row that grows: blocks of other types are as they were. -/
theorem grown_types {w w' : World} {B : Nat} {e : TypeId} {size n : Nat} {v : Value} {xs : List Value} (ho : w.ownsRow B e size v n xs) (hg : w.grownBy w' v.ownBlock) {q : Nat} {c : Array Value} {t : TypeId} {z : Nat × Nat} (hq : w.heap[q]? = some (.cells c t z)) (ht : t ≠ e) : w'.heap[q]? = some (.cells c t z) := by
  rw [hg.block q (fblk_lt hq) ?_]
  · exact hq
  · rcases ho.2 with ⟨rfl, _⟩ | ⟨g, cap, cur, rfl, _, hgg, _⟩
    · simp [Value.ownBlock]
    · intro e0
      have : q = g := by simpa [Value.ownBlock] using e0
      subst this
      rw [hgg] at hq
      injection hq with hq
      injection hq with _ h2 _
      exact ht h2.symm
theorem grown_below {w w' : World} {B : Nat} {e : TypeId} {size n : Nat} {v : Value} {xs : List Value} (ho : w.ownsRow B e size v n xs) (hg : w.grownBy w' v.ownBlock) (hB : B ≤ w.heap.size) : Below B w w' :=
  (Below.refl B w).grown hg hB (fun k hk => (ho.lt k hk).1)

set_option maxHeartbeats 2000000 in
set_option maxRecDepth 100000 in
theorem put_any (B F gJ cJ gD cD : Nat) (wv v : Value) (f : Fm) (b : List UInt8) (w : World) (h : FO w B F gJ cJ gD cD wv f) (hv : BK w v b) (hB : B ≤ w.heap.size) (hl : f.way.length ≤ 12) :
    Calls Tryz.prog 29 #[.pointer (some ⟨F, 0, none⟩), v] w fun e w' => e = .returned (.tuple #[]) ∧ FW w w' B F gJ cJ gD cD (putF f b) := by
  have HO := Lib.hid h
  have HBK := Lib.hid hv
  obtain ⟨wa, wc, rfl⟩ := h.rows.way_shape
  obtain ⟨va, vc, rfl⟩ := hv.slice
  have c3 := fblk_cell (i := 3) (v := .slice wa f.way.length wc) h.box rfl
  have hF := fblk_lt h.box
  clear h hv
  by_cases hlt : f.way.length < 12
  · have hk1 : (f.way.length : Int) < 12 := by omega
    have e : (World.alloc w (.cells #[.slice va b.length vc] 36)).heap.size = w.heap.size + 1 := by simp
    have HA := Lib.hid (oalloc w (.cells #[.slice va b.length vc] 36))
    have hN : (World.alloc w (.cells #[.slice va b.length vc] 36)).heap[w.heap.size]? = some (.cells [Value.slice va b.length vc].toArray 36 (0, 0)) := fblk_new w _ _
    have HOA := HO.out.go HA.out
    have HBA := HBK.out.below HA.out
    obtain ⟨xs, hx, hxl⟩ := HOA.rows.way
    obtain ⟨la, lc, w', happ, hx', hgr⟩ := fapp1 22 36 _ 1 24 Tryz.underlying22 infoSl rfl (by decide) (by decide) hx (by rw [e]; omega) [.slice va b.length vc] rfl w.heap.size hN (by intro u hu; simp at hu; subst hu; rfl) (by omega)
    have hbl := grown_below hx hgr (by rw [e]; omega)
    have hbox' := grown_types hx hgr HOA.box (by decide)
    have d3 : w'.cell? ⟨F, 3, none⟩ = some (.slice wa f.way.length wc) := fblk_cell hbox' rfl
    have f3 : w'.frozen? ⟨F, 3, none⟩ = false := fblk_froz hbox'
    have hF' := fblk_lt hbox'
    have HAP := Lib.hid happ
    have HW : Hid (FW w (w'.setCell ⟨F, 3, none⟩ (.slice la (f.way.length + 1) lc)) B F gJ cJ gD cD (putF f b)) := by
      have kf1 : KF (World.alloc w (.cells #[.slice va b.length vc] 36)) w' := ⟨hgr.size, fun q c t z hq hn => grown_types hx hgr hq (fun e => hn (e ▸ mine3))⟩
      have kf2 : KF w' (w'.setCell ⟨F, 3, none⟩ (.slice la (f.way.length + 1) lc)) := KF.set hbox' mine0 _
      have kf := (KF.of HA.out).trans (kf1.trans kf2)
      have oth : ∀ q, q ≠ F → (w'.setCell ⟨F, 3, none⟩ (.slice la (f.way.length + 1) lc)).heap[q]? = w'.heap[q]? := fun q hq => Below.heap_setCell _ _ _ _ hq
      refine ⟨⟨.slice la (f.way.length + 1) lc, ?_⟩, (below_go (Below.refl B w) HA.out hB).trans (hbl.trans ((Below.refl B w').setCell (p := ⟨F, 3, none⟩) HO.out.lF _)), kf⟩
      unfold putF
      rw [if_pos hlt]
      refine HOA.setWay (xs := xs ++ [.slice va b.length vc]) ⟨hx'.1.trans (by simp), ?_⟩ ((hxl.keep (kf1.trans kf2)).app (HBA.keep (kf1.trans kf2))) (fun {q c t z} hq h1 h2 => ?_) (by simp; exact Nat.le_trans (by simp) hgr.size) ?_
      · rcases hx'.2 with ⟨h1, h2⟩ | ⟨g, cap, cur, h1, h2, h3, h4⟩
        · cases h1
        · refine .inr ⟨g, cap, cur, by rw [h1]; simp, h2, ?_, by simpa using h4⟩
          rw [oth]
          · exact h3
          · intro e0
            subst e0
            rw [h3] at hbox'
            injection hbox' with hbox'
            injection hbox' with _ h2 _
            exact absurd h2 (by decide)
      · rw [oth]
        · exact grown_types hx hgr hq h1
        · intro e0
          subst e0
          rw [HOA.box] at hq
          injection hq with hq
          injection hq with _ h3 _
          exact h2 h3.symm
      · exact fblk_set hbox'
    clear HA hN HOA HBA hx hxl happ hx' hgr hbl hbox'
    go_enter Tryz.func29, Tryz.ntmps29
    go_wp2_with (at_builtin; refine fwpList_app rfl _ _ _ _ rfl _ _ rfl rfl HAP.out ?_)
    exact bodyPost_end (v := .tuple #[]) (by simp [results, Tryz.results29, go_sem]) rfl ⟨rfl, HW.out⟩
  · have hk1 : ¬ (f.way.length : Int) < 12 := by omega
    have HW : Hid (FW w w B F gJ cJ gD cD (putF f b)) := by
      unfold putF
      rw [if_neg hlt]
      exact FW.of HO.out
    go_enter Tryz.func29, Tryz.ntmps29
    go_wp2_with fail
    exact bodyPost_end (v := .tuple #[]) (by simp [results, Tryz.results29, go_sem]) rfl ⟨rfl, HW.out⟩

end Go.Proofs.YtbpoiajpcahdhaaGreatDoor.Wi

namespace Go.Proofs.YtbpoiajpcahdhaaGreatDoor.Wi
open Go.RowKit

theorem rb_bytes {w : World} {v : Value} {l : List UInt8} (h : RB w w.heap.size v l) (hl : l.length ≤ 1000000000) : OBytes w v l := h.bytes (Nat.le_refl _) (by unfold maxLen; omega)

set_option maxHeartbeats 2000000 in
set_option maxRecDepth 100000 in
theorem send_any (B F gJ cJ gD cD : Nat) (wv dv : Value) (f : Fm) (m : Ms) (w : World) (h : FO w B F gJ cJ gD cD wv f) (hv : RB w w.heap.size dv m.data) (hd : m.data.length ≤ 1000000000) (hB : B ≤ w.heap.size) (hl : f.way.length ≤ 12) (hW : WL w) :
    Calls Tryz.prog 45 #[.pointer (some ⟨F, 0, none⟩), msV m dv] w fun e w' => e = .returned (.tuple #[]) ∧ FW w w' B F gJ cJ gD cD (sendF f m) := by
  have HO := Lib.hid h
  have HD := Lib.hid (rb_bytes hv hd)
  obtain ⟨ad, cap, rfl, _⟩ := id hv
  have HA : Hid (∀ o, Below w.heap.size w (w.alloc o)) := fun o => oalloc w o
  by_cases hm : wrongM m = 0
  · have HC : Hid (∀ W, Below w.heap.size w W → Calls Tryz.prog 53 #[msV m (.slice ad m.data.length cap)] W fun e w' => ∃ v, e = .returned (.tuple #[v, .int .i64 0]) ∧ Below W.heap.size W w' ∧ Out w' (W.heap.size + 1) v (bytesM m)) := fun W hb => mbytes_good m _ W (HD.out.below hb (Nat.le_refl _)) (hW.below hb (Nat.le_refl _)) hm
    have HP : Hid (∀ W v, Below w.heap.size w W → BK W v (bytesM m) → Calls Tryz.prog 29 #[.pointer (some ⟨F, 0, none⟩), v] W fun e w' => e = .returned (.tuple #[]) ∧ FW W w' B F gJ cJ gD cD (sendF f m)) := fun W v hb hk => by
      unfold sendF
      rw [if_pos hm]
      exact put_any B F gJ cJ gD cD wv v f (bytesM m) W (HO.out.go hb) hk (Nat.le_trans hB hb.size) hl
    have HFW : Hid (∀ W W', Below w.heap.size w W → FW W W' B F gJ cJ gD cD (sendF f m) → FW w W' B F gJ cJ gD cD (sendF f m)) := fun W W' hb h => FW.ahead (hb.mono hB) (KF.of hb) h
    clear h hv hW hm hd
    obtain ⟨k, wk, u, t, x, p, l⟩ := m
    unfold msV at *
    simp only at *
    go_enter Tryz.func45, Tryz.ntmps45
    go_wp2_with fail
    refine (HC.out _ (HA.out _)).mono ?_
    rintro e w1 ⟨v, rfl, hb1, ho1⟩
    have HB1 := Lib.hid (bnext (HA.out _) hb1)
    have HK1 := Lib.hid ho1.bk
    obtain ⟨va, vc, rfl⟩ := ho1.bk.slice
    clear hb1 ho1 HC HA
    go_wp2_with fail
    refine (HP.out _ _ HB1.out HK1.out).mono ?_
    rintro e w2 ⟨rfl, h2⟩
    have H2 := Lib.hid (HFW.out _ _ HB1.out h2)
    clear h2 HP HFW
    go_wp2_with fail
    exact bodyPost_end (v := .tuple #[]) (by simp [results, Tryz.results45, go_sem]) rfl ⟨rfl, H2.out⟩
  · have HC := Lib.hid fun W => mbytes_bad m ad cap W hm
    have HFW : Hid (∀ W', Below w.heap.size w W' → FW w W' B F gJ cJ gD cD (sendF f m)) := fun W' hb => by
      unfold sendF
      rw [if_neg hm]
      exact (FW.of HO.out).go hb hB
    have hm' : (wrongM m == 0) = false := by simpa using hm
    clear h hv hW hd
    generalize wrongM m = y at *
    obtain ⟨k, wk, u, t, x, p, l⟩ := m
    unfold msV at *
    simp only at *
    clear hm
    go_enter Tryz.func45, Tryz.ntmps45
    go_wp2_with fail
    refine (HC.out _).mono ?_
    rintro e w1 ⟨rfl, hb1⟩
    have HB1 := Lib.hid (bnext (HA.out _) hb1)
    clear hb1 HC HA
    go_wp2_with fail
    exact bodyPost_end (v := .tuple #[]) (by simp [results, Tryz.results45, go_sem]) rfl ⟨rfl, HFW.out _ HB1.out⟩

end Go.Proofs.YtbpoiajpcahdhaaGreatDoor.Wi
