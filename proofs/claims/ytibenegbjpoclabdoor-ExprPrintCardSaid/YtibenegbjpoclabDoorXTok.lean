/- What is taken over from the texts of stage 2. -/
import Derived.Test.YtibenegbjpoclabDoorXBase
import Derived.WalkKit
import Derived.WalkSpells
import Derived.WalkLawsBesides
import Derived.Deep.RegionHeld3
import Derived.BigQuiet
import Derived.Lib.ParseIntB
import Derived.Lib.Strings
import Derived.Lib.Split
import Derived.Laws.EntriesVeiled
import Derived.Maps.AppendAt
import Derived.Deep.DeepCutAuto
import Derived.Lib.ConvBytes
import Derived.Lib.ParseIntBMem
import Derived.Lib.AtoiErrMem
import Derived.Lib.Hide
import Derived.Laws.Strings3
import Derived.Laws.Closers25
import Derived.Laws.Closers25b
import Derived.BigCall
import Derived.BigGuard
import Derived.WalkSmall
import Derived.Lib.IndexBytes
import Derived.Lib.SmallJoins
import Derived.Laws.CopyOwn
import Derived.Deep.OwnRows
import Derived.Lib.ItoaMem
import Derived.Lib.AppendIntMem
import Derived.Lib.ItoaLen
import Derived.Laws.BytesArg
import Derived.Lib.SplitLaws
import Derived.Deep.AppendSrc
namespace Go.Proofs.YtibenegbjpoclabDoor
open Go.RowKit

theorem toks_fin {l : List UInt8} (h : nextT (l.dropWhile (pb blankB)) = .fin) : toks l = some [] := by rw [toks_eq, h]

theorem toks_bad {l : List UInt8} (h : nextT (l.dropWhile (pb blankB)) = .bad) : toks l = none := by rw [toks_eq, h]

theorem extract_drop (s : ByteArray) (n : Nat) : (s.extract n s.size).data.toList = s.data.toList.drop n := by
  have h : s.data.toList.length = s.size := Array.length_toList
  simp [ByteArray.data_extract]
  rw [List.take_of_length_le (by rw [List.length_drop]; omega)]

theorem extract_take (s : ByteArray) (n : Nat) : s.extract 0 n = ⟨(s.data.toList.take n).toArray⟩ := by
  apply ByteArray.ext
  apply Array.toList_inj.1
  rw [Lib.extract_from_zero]

theorem drop_span (p : Int → Bool) : ∀ l : List UInt8, l.drop (spanL p l) = l.dropWhile (pb p)
  | [] => rfl
  | c :: r => by
    have := drop_span p r
    simp only [spanL, List.takeWhile_cons, List.dropWhile_cons] at this ⊢
    split <;> simp_all

theorem take_span (p : Int → Bool) : ∀ l : List UInt8, l.take (spanL p l) = l.takeWhile (pb p)
  | [] => rfl
  | c :: r => by
    have := take_span p r
    simp only [spanL, List.takeWhile_cons] at this ⊢
    split <;> simp_all

theorem info84 : (Tryd.prog.info? 63).map (fun i => (i.zero, i.size, i.bytes)) = some (some (.agg #[.int .i64 0, .int .i64 0, .string ⟨#[]⟩]), 3, 32) := by kernel_rfl


theorem tcells_app (a : List Tok) (t : Tok) : tcells (a ++ [t]) = tcells a ++ t.cells := by simp [tcells]

/-- What Tokens answers. -/
def TokAns (base : Nat) (w' : World) (l : List UInt8) (e : Ending) : Prop :=
  ∃ v, e = .returned (.tuple #[v, .int .i64 (lineErr l)]) ∧ w'.ownsRow base 63 3 v (lineList l).length (tcells (lineList l))

/-- Has a text this byte? -/
def hasB (s : ByteArray) (c : Int) : Bool := s.data.toList.any fun x => (x.toNat : Int) == c

theorem has_yes {s : ByteArray} {c : Int} {k : Nat} (hk : k < s.size) (h : ((s[k].toNat : Int) == c) = true) : hasB s c = true := by
  unfold hasB
  rw [List.any_eq_true]
  exact ⟨s[k], by rw [Array.mem_toList_iff]; exact Array.getElem_mem _, h⟩

theorem has_no {s : ByteArray} {c : Int} (h : ∀ j, (hj : j < s.size) → ¬ ((s[j].toNat : Int) = c)) : hasB s c = false := by
  unfold hasB
  rw [List.any_eq_false]
  intro x hx
  rw [Array.mem_toList_iff, Array.mem_iff_getElem] at hx
  obtain ⟨j, hj, rfl⟩ := hx
  intro e
  exact h j hj (beq_iff_eq.1 e)

theorem has_any (s : ByteArray) (c : Int) (w : World) (hs : s.size ≤ maxLen) :
    Calls Tryd.prog 26 #[.string s, .int .u8 c] w fun e w' => e = .returned (.bool (hasB s c)) ∧ w' = w := by
  unfold maxLen at hs
  go_enter Tryd.func26, Tryd.ntmps26
  go_wp2
  go_loop [8] (fun i => ∃ k : Nat, k ≤ s.size ∧ i = .int .i64 k ∧ Hid (∀ j, (hj : j < s.size) → j < k → ¬ ((s[j].toNat : Int) = c))) (fun i => s.size - (intOf i).toNat)
  case atStart => exact ⟨0, Nat.zero_le _, rfl, fun j _ h => by omega⟩
  case round =>
    obtain ⟨k, hk, rfl, HN⟩ := hrel
    by_cases hlt : k < s.size
    · go_wp2
      · have h : ((s[k].toNat : Int) == c) = true := by assumption
        have hh := has_yes hlt h
        go_ret
        exact ⟨ret_bool hh.symm, rfl⟩
      · have h : ((s[k].toNat : Int) == c) = false := by assumption
        refine ⟨⟨k + 1, by omega, by go_num, fun j hj hjk => ?_⟩, by simp [intOf]; omega⟩
        by_cases e : j = k
        · subst e; simpa using h
        · exact HN.out j hj (by omega)
    · have HH : Hid (hasB s c = false) := has_no fun j hj => HN.out j hj (by omega)
      go_wp2
      go_ret
      exact ⟨ret_bool HH.out.symm, rfl⟩

theorem signs_all (c : UInt8) : hasB ⟨#[58, 44, 35, 64, 40, 41, 43, 45, 42, 38, 124, 126, 61]⟩ c.toNat = signB c.toNat := by
  have := all8 (fun c => hasB ⟨#[58, 44, 35, 64, 40, 41, 43, 45, 42, 38, 124, 126, 61]⟩ c.toNat == signB c.toNat) (by decide +kernel) c
  simpa using this

theorem signs_any (c : UInt8) (w : World) :
    Calls Tryd.prog 26 #[.string ⟨#[58, 44, 35, 64, 40, 41, 43, 45, 42, 38, 124, 126, 61]⟩, .int .u8 (c.toNat : Int)] w fun e w' => e = .returned (.bool (signB c.toNat)) ∧ w' = w := by
  have := has_any ⟨#[58, 44, 35, 64, 40, 41, 43, 45, 42, 38, 124, 126, 61]⟩ c.toNat w (by decide)
  rw [signs_all] at this
  exact this


/-- How far a number has been read: what is left gives the answer; or it is too large already. -/
def NumAt (b : Nat) (D : List UInt8) (k n : Nat) : Prop :=
  n ≤ 68719476735 ∧ (n ≤ 4294967295 → parseN b 0 D = parseN b n (D.drop k)) ∧ (4294967295 < n → parseN b 0 D = none)

theorem numAt_start (b : Nat) (D : List UInt8) : NumAt b D 0 0 := ⟨by omega, fun _ => by simp, fun h => by omega⟩

theorem numAt_no {b : Nat} {D : List UInt8} {k n : Nat} {c : UInt8} {r : List UInt8} (h : NumAt b D k n) (hd : D.drop k = c :: r) (hc : digV b c.toNat = none ∨ 4294967295 < n) : parseN b 0 D = none := by
  by_cases hn : n ≤ 4294967295
  · rw [h.2.1 hn, hd]
    rcases hc with hc | hc
    · simp [parseN, hc]
    · omega
  · exact h.2.2 (by omega)

theorem digV_lt {b c d : Nat} (hb : b = 10 ∨ b = 16) (h : digV b c = some d) : d < b := by
  unfold digV at h
  rcases hb with rfl | rfl
  · split at h
    · injection h with h; omega
    · simp at h
  · split at h
    · injection h with h; omega
    · split at h
      · injection h with h; omega
      · split at h
        · injection h with h; omega
        · cases h

theorem numAt_step {b : Nat} (hb : b = 10 ∨ b = 16) {D : List UInt8} {k n d : Nat} {c : UInt8} {r : List UInt8} (h : NumAt b D k n) (hd : D.drop k = c :: r) (hc : digV b c.toNat = some d) (hn : n ≤ 4294967295) : NumAt b D (k + 1) (n * b + d) := by
  have hlt := digV_lt hb hc
  have hr : D.drop (k + 1) = r := by
    have : D.drop (k + 1) = (D.drop k).drop 1 := by rw [List.drop_drop]
    rw [this, hd]
    rfl
  have hp := h.2.1 hn
  rw [hd] at hp
  simp only [parseN, hc] at hp
  refine ⟨by rcases hb with rfl | rfl <;> omega, fun h1 => ?_, fun h1 => ?_⟩
  · rw [hp, if_pos h1, hr]
  · rw [hp, if_neg (by omega)]

theorem numAt_end {b : Nat} {D : List UInt8} {k n : Nat} (h : NumAt b D k n) (hk : D.length ≤ k) (hn : n ≤ 4294967295) : parseN b 0 D = some n := by
  rw [h.2.1 hn, List.drop_eq_nil_of_le hk]
  rfl

/-- What the document's own number answers. -/
def NumAns (o : Option Nat) (e : Ending) : Prop := ∃ x : Int, e = .returned (.tuple #[.int .i64 x, .bool o.isSome]) ∧ ∀ n, o = some n → x = n


set_option maxHeartbeats 2000000 in
set_option maxRecDepth 100000 in
theorem rnum16 (s : ByteArray) (hs : s.size ≤ 9223372036854775000) (w : World) (h2 : (2 : Int) < s.size) (hp : ((s.extract 0 2).toList == [48, 120]) = true) (ho : numL s.data.toList = parseN 16 0 (s.extract 2 s.size).data.toList) :
    Calls Tryd.prog 25 #[.string s] w fun e w' => NumAns (numL s.data.toList) e ∧ ∃ m, w' = w.drewN m := by
  have h2' : 2 ≤ s.size := by omega
  have HO0 : Hid (numL s.data.toList = parseN 16 0 (s.extract 2 s.size).data.toList) := ho
  clear ho
  go_enter Tryd.func25, Tryd.ntmps25
  go_wp2
  go_quiet (fail)
  go_wp2
  obtain ⟨ds, hds⟩ : ∃ ds : ByteArray, ds = s.extract 2 s.size := ⟨_, rfl⟩
  have HO : Hid (numL s.data.toList = parseN 16 0 ds.data.toList) := by rw [hds]; exact HO0
  rw [← hds]
  have hsz : ds.size ≤ 9223372036854775000 := by rw [hds]; simp; omega
  have esz : s.size - 2 = ds.size := by rw [hds]; simp
  have hne : (ds.toList == []) = false := not_empty (by omega)
  rw [esz]
  clear hds hp h2 h2' esz HO0
  go_loop [6, 23] (fun n i => ∃ k m : Nat, k ≤ ds.size ∧ i = .int .i64 k ∧ n = .int .i64 m ∧ Hid (NumAt 16 ds.data.toList k m)) (fun _ i => ds.size - (intOf i).toNat)
  case atStart => exact ⟨0, 0, Nat.zero_le _, rfl, rfl, numAt_start _ _⟩
  case round =>
    obtain ⟨k, m, hk, rfl, rfl, HN⟩ := hrel
    have hmb := HN.out.1
    by_cases hlt : k < ds.size
    · have hk1 : (k : Int) < ds.size := by omega
      have hidx := index9 ds k k rfl hlt
      have HDR : Hid (ds.data.toList.drop k = ds[k] :: ds.data.toList.drop (k + 1)) := drop_at hlt
      generalize ds[k] = c at *
      by_cases h1 : 48 ≤ (c.toNat : Int)
      · by_cases h2 : (c.toNat : Int) ≤ 57
        · have hdv : digV 16 c.toNat = some (c.toNat - 48) := by
            unfold digV
            rw [if_pos (by omega)]
          by_cases hm : (4294967295 : Int) < m
          · have HF : Hid (parseN 16 0 ds.data.toList = none) := numAt_no HN.out HDR.out (Or.inr (by omega))
            clear hdv
            go_wp2
            go_ret2
            exact ⟨⟨0, by rw [HO.out, HF.out]; rfl, fun n h => by rw [HO.out, HF.out] at h; cases h⟩, nq, rfl⟩
          · have HF : Hid (NumAt 16 ds.data.toList (k + 1) (m * 16 + (c.toNat - 48))) := numAt_step (by omega) HN.out HDR.out hdv (by omega)
            clear hdv
            go_wp2
            exact ⟨⟨k + 1, m * 16 + (c.toNat - 48), by omega, by go_num, by go_num, HF.out⟩, by simp [intOf]; omega⟩
        · by_cases h3 : 65 ≤ (c.toNat : Int)
          · by_cases h4 : (c.toNat : Int) ≤ 70
            · have h5 : ¬ 97 ≤ (c.toNat : Int) := by omega
              have hdv : digV 16 c.toNat = some (c.toNat - 55) := by
                unfold digV
                rw [if_neg (by omega), if_neg (by omega), if_pos (by omega)]
              by_cases hm : (4294967295 : Int) < m
              · have HF : Hid (parseN 16 0 ds.data.toList = none) := numAt_no HN.out HDR.out (Or.inr (by omega))
                clear hdv
                go_wp2
                go_ret2
                exact ⟨⟨0, by rw [HO.out, HF.out]; rfl, fun n h => by rw [HO.out, HF.out] at h; cases h⟩, nq, rfl⟩
              · have HF : Hid (NumAt 16 ds.data.toList (k + 1) (m * 16 + (c.toNat - 55))) := numAt_step (by omega) HN.out HDR.out hdv (by omega)
                clear hdv
                go_wp2
                exact ⟨⟨k + 1, m * 16 + (c.toNat - 55), by omega, by go_num, by go_num, HF.out⟩, by simp [intOf]; omega⟩
            · by_cases h5 : 97 ≤ (c.toNat : Int)
              · by_cases h6 : (c.toNat : Int) ≤ 102
                · have hdv : digV 16 c.toNat = some (c.toNat - 87) := by
                    unfold digV
                    rw [if_neg (by omega), if_pos (by omega)]
                  by_cases hm : (4294967295 : Int) < m
                  · have HF : Hid (parseN 16 0 ds.data.toList = none) := numAt_no HN.out HDR.out (Or.inr (by omega))
                    clear hdv
                    go_wp2
                    go_ret2
                    exact ⟨⟨0, by rw [HO.out, HF.out]; rfl, fun n h => by rw [HO.out, HF.out] at h; cases h⟩, nq, rfl⟩
                  · have HF : Hid (NumAt 16 ds.data.toList (k + 1) (m * 16 + (c.toNat - 87))) := numAt_step (by omega) HN.out HDR.out hdv (by omega)
                    clear hdv
                    go_wp2
                    exact ⟨⟨k + 1, m * 16 + (c.toNat - 87), by omega, by go_num, by go_num, HF.out⟩, by simp [intOf]; omega⟩
                · have hdv : digV 16 c.toNat = none := by
                    unfold digV
                    rw [if_neg (by omega), if_neg (by omega), if_neg (by omega)]
                  have HF : Hid (parseN 16 0 ds.data.toList = none) := numAt_no HN.out HDR.out (Or.inl hdv)
                  clear hdv
                  go_wp2
                  go_ret2
                  exact ⟨⟨0, by rw [HO.out, HF.out]; rfl, fun n h => by rw [HO.out, HF.out] at h; cases h⟩, nq, rfl⟩
              · have hdv : digV 16 c.toNat = none := by
                  unfold digV
                  rw [if_neg (by omega), if_neg (by omega), if_neg (by omega)]
                have HF : Hid (parseN 16 0 ds.data.toList = none) := numAt_no HN.out HDR.out (Or.inl hdv)
                clear hdv
                go_wp2
                go_ret2
                exact ⟨⟨0, by rw [HO.out, HF.out]; rfl, fun n h => by rw [HO.out, HF.out] at h; cases h⟩, nq, rfl⟩
          · have h5 : ¬ 97 ≤ (c.toNat : Int) := by omega
            have hdv : digV 16 c.toNat = none := by
              unfold digV
              rw [if_neg (by omega), if_neg (by omega), if_neg (by omega)]
            have HF : Hid (parseN 16 0 ds.data.toList = none) := numAt_no HN.out HDR.out (Or.inl hdv)
            clear hdv
            go_wp2
            go_ret2
            exact ⟨⟨0, by rw [HO.out, HF.out]; rfl, fun n h => by rw [HO.out, HF.out] at h; cases h⟩, nq, rfl⟩
      · have h3 : ¬ 65 ≤ (c.toNat : Int) := by omega
        have h5 : ¬ 97 ≤ (c.toNat : Int) := by omega
        have hdv : digV 16 c.toNat = none := by
          unfold digV
          rw [if_neg (by omega), if_neg (by omega), if_neg (by omega)]
        have HF : Hid (parseN 16 0 ds.data.toList = none) := numAt_no HN.out HDR.out (Or.inl hdv)
        clear hdv
        go_wp2
        go_ret2
        exact ⟨⟨0, by rw [HO.out, HF.out]; rfl, fun n h => by rw [HO.out, HF.out] at h; cases h⟩, nq, rfl⟩
    · have hk1 : ¬ (k : Int) < ds.size := by omega
      by_cases hm : (m : Int) < 4294967296
      · have HF : Hid (parseN 16 0 ds.data.toList = some m) := numAt_end HN.out (by have := size_of (rfl : ds.data.toList = _); omega) (by omega)
        go_wp2
        go_ret2
        exact ⟨⟨m, by rw [HO.out, HF.out]; rfl, fun n h => by rw [HO.out, HF.out] at h; injection h with h; omega⟩, nq, rfl⟩
      · have HF : Hid (parseN 16 0 ds.data.toList = none) := HN.out.2.2 (by omega)
        go_wp2
        go_ret2
        exact ⟨⟨m, by rw [HO.out, HF.out]; rfl, fun n h => by rw [HO.out, HF.out] at h; cases h⟩, nq, rfl⟩

set_option maxHeartbeats 2000000 in
set_option maxRecDepth 100000 in
theorem rnum10 (ds : ByteArray) (hs : ds.size ≤ 9223372036854775000) (w : World) (h0 : 0 < ds.size) (hp : ¬ (2 : Int) < ds.size ∨ ((2 : Int) < ds.size ∧ ((ds.extract 0 2).toList == [48, 120]) = false)) (ho : numL ds.data.toList = parseN 10 0 ds.data.toList) :
    Calls Tryd.prog 25 #[.string ds] w fun e w' => NumAns (numL ds.data.toList) e ∧ ∃ m, w' = w.drewN m := by
  have HO : Hid (numL ds.data.toList = parseN 10 0 ds.data.toList) := ho
  have hne : (ds.toList == []) = false := not_empty h0
  clear ho
  rcases hp with hp | ⟨h2, hp⟩
  · go_enter Tryd.func25, Tryd.ntmps25
    go_wp2
    go_loop [6, 23] (fun n i => ∃ k m : Nat, k ≤ ds.size ∧ i = .int .i64 k ∧ n = .int .i64 m ∧ Hid (NumAt 10 ds.data.toList k m)) (fun _ i => ds.size - (intOf i).toNat)
    case atStart => exact ⟨0, 0, Nat.zero_le _, rfl, rfl, numAt_start _ _⟩
    case round =>
      obtain ⟨k, m, hk, rfl, rfl, HN⟩ := hrel
      have hmb := HN.out.1
      by_cases hlt : k < ds.size
      · have hk1 : (k : Int) < ds.size := by omega
        have hidx := index9 ds k k rfl hlt
        have HDR : Hid (ds.data.toList.drop k = ds[k] :: ds.data.toList.drop (k + 1)) := drop_at hlt
        generalize ds[k] = c at *
        by_cases h1 : 48 ≤ (c.toNat : Int)
        · by_cases h2 : (c.toNat : Int) ≤ 57
          · have hdv : digV 10 c.toNat = some (c.toNat - 48) := by
              unfold digV
              rw [if_pos (by omega)]
            by_cases hm : (4294967295 : Int) < m
            · have HF : Hid (parseN 10 0 ds.data.toList = none) := numAt_no HN.out HDR.out (Or.inr (by omega))
              clear hdv
              go_wp2
              go_ret2
              exact ⟨⟨0, by rw [HO.out, HF.out]; rfl, fun n h => by rw [HO.out, HF.out] at h; cases h⟩, 0, rfl⟩
            · have HF : Hid (NumAt 10 ds.data.toList (k + 1) (m * 10 + (c.toNat - 48))) := numAt_step (by omega) HN.out HDR.out hdv (by omega)
              clear hdv
              go_wp2
              exact ⟨⟨k + 1, m * 10 + (c.toNat - 48), by omega, by go_num, by go_num, HF.out⟩, by simp [intOf]; omega⟩
          · have hdv : digV 10 c.toNat = none := by
              unfold digV
              rw [if_neg (by omega), if_neg (by omega), if_neg (by omega)]
            have HF : Hid (parseN 10 0 ds.data.toList = none) := numAt_no HN.out HDR.out (Or.inl hdv)
            clear hdv
            go_wp2
            go_ret2
            exact ⟨⟨0, by rw [HO.out, HF.out]; rfl, fun n h => by rw [HO.out, HF.out] at h; cases h⟩, 0, rfl⟩
        · have hdv : digV 10 c.toNat = none := by
            unfold digV
            rw [if_neg (by omega), if_neg (by omega), if_neg (by omega)]
          have HF : Hid (parseN 10 0 ds.data.toList = none) := numAt_no HN.out HDR.out (Or.inl hdv)
          clear hdv
          go_wp2
          go_ret2
          exact ⟨⟨0, by rw [HO.out, HF.out]; rfl, fun n h => by rw [HO.out, HF.out] at h; cases h⟩, 0, rfl⟩
      · have hk1 : ¬ (k : Int) < ds.size := by omega
        by_cases hm : (m : Int) < 4294967296
        · have HF : Hid (parseN 10 0 ds.data.toList = some m) := numAt_end HN.out (by have := size_of (rfl : ds.data.toList = _); omega) (by omega)
          go_wp2
          go_ret2
          exact ⟨⟨m, by rw [HO.out, HF.out]; rfl, fun n h => by rw [HO.out, HF.out] at h; injection h with h; omega⟩, 0, rfl⟩
        · have HF : Hid (parseN 10 0 ds.data.toList = none) := HN.out.2.2 (by omega)
          go_wp2
          go_ret2
          exact ⟨⟨m, by rw [HO.out, HF.out]; rfl, fun n h => by rw [HO.out, HF.out] at h; cases h⟩, 0, rfl⟩
  · have h2' : 2 ≤ ds.size := by omega
    go_enter Tryd.func25, Tryd.ntmps25
    go_wp2
    clear hp h2 h2'
    go_loop [6, 23] (fun n i => ∃ k m : Nat, k ≤ ds.size ∧ i = .int .i64 k ∧ n = .int .i64 m ∧ Hid (NumAt 10 ds.data.toList k m)) (fun _ i => ds.size - (intOf i).toNat)
    case atStart => exact ⟨0, 0, Nat.zero_le _, rfl, rfl, numAt_start _ _⟩
    case round =>
      obtain ⟨k, m, hk, rfl, rfl, HN⟩ := hrel
      have hmb := HN.out.1
      by_cases hlt : k < ds.size
      · have hk1 : (k : Int) < ds.size := by omega
        have hidx := index9 ds k k rfl hlt
        have HDR : Hid (ds.data.toList.drop k = ds[k] :: ds.data.toList.drop (k + 1)) := drop_at hlt
        generalize ds[k] = c at *
        by_cases h1 : 48 ≤ (c.toNat : Int)
        · by_cases h2 : (c.toNat : Int) ≤ 57
          · have hdv : digV 10 c.toNat = some (c.toNat - 48) := by
              unfold digV
              rw [if_pos (by omega)]
            by_cases hm : (4294967295 : Int) < m
            · have HF : Hid (parseN 10 0 ds.data.toList = none) := numAt_no HN.out HDR.out (Or.inr (by omega))
              clear hdv
              go_wp2
              go_ret2
              exact ⟨⟨0, by rw [HO.out, HF.out]; rfl, fun n h => by rw [HO.out, HF.out] at h; cases h⟩, 0, rfl⟩
            · have HF : Hid (NumAt 10 ds.data.toList (k + 1) (m * 10 + (c.toNat - 48))) := numAt_step (by omega) HN.out HDR.out hdv (by omega)
              clear hdv
              go_wp2
              exact ⟨⟨k + 1, m * 10 + (c.toNat - 48), by omega, by go_num, by go_num, HF.out⟩, by simp [intOf]; omega⟩
          · have hdv : digV 10 c.toNat = none := by
              unfold digV
              rw [if_neg (by omega), if_neg (by omega), if_neg (by omega)]
            have HF : Hid (parseN 10 0 ds.data.toList = none) := numAt_no HN.out HDR.out (Or.inl hdv)
            clear hdv
            go_wp2
            go_ret2
            exact ⟨⟨0, by rw [HO.out, HF.out]; rfl, fun n h => by rw [HO.out, HF.out] at h; cases h⟩, 0, rfl⟩
        · have hdv : digV 10 c.toNat = none := by
            unfold digV
            rw [if_neg (by omega), if_neg (by omega), if_neg (by omega)]
          have HF : Hid (parseN 10 0 ds.data.toList = none) := numAt_no HN.out HDR.out (Or.inl hdv)
          clear hdv
          go_wp2
          go_ret2
          exact ⟨⟨0, by rw [HO.out, HF.out]; rfl, fun n h => by rw [HO.out, HF.out] at h; cases h⟩, 0, rfl⟩
      · have hk1 : ¬ (k : Int) < ds.size := by omega
        by_cases hm : (m : Int) < 4294967296
        · have HF : Hid (parseN 10 0 ds.data.toList = some m) := numAt_end HN.out (by have := size_of (rfl : ds.data.toList = _); omega) (by omega)
          go_wp2
          go_ret2
          exact ⟨⟨m, by rw [HO.out, HF.out]; rfl, fun n h => by rw [HO.out, HF.out] at h; injection h with h; omega⟩, 0, rfl⟩
        · have HF : Hid (parseN 10 0 ds.data.toList = none) := HN.out.2.2 (by omega)
          go_wp2
          go_ret2
          exact ⟨⟨m, by rw [HO.out, HF.out]; rfl, fun n h => by rw [HO.out, HF.out] at h; cases h⟩, 0, rfl⟩

theorem rnum_any (s : ByteArray) (hs : s.size ≤ 9223372036854775000) (h0 : 0 < s.size) (w : World) :
    Calls Tryd.prog 25 #[.string s] w fun e w' => NumAns (numL s.data.toList) e ∧ ∃ m, w' = w.drewN m := by
  have hln := size_of (rfl : s.data.toList = _)
  have hx : (s.extract 0 2).toList = s.data.toList.take 2 := by rw [ByteArray.toList_eq, extract_take]
  by_cases h2 : (2 : Int) < s.size
  · by_cases hp : s.data.toList.take 2 = [48, 120]
    · have hpre : Lib.hasPrefix s.data.toList [48, 120] = true := by
        unfold Lib.hasPrefix
        exact List.isPrefixOf_iff_prefix.2 ⟨s.data.toList.drop 2, by rw [← hp, List.take_append_drop]⟩
      refine rnum16 s hs w h2 (by rw [hx, hp]; rfl) ?_
      rw [extract_drop]
      unfold numL parseU
      rw [if_pos hpre, if_neg]
      intro h
      have := congrArg List.length h
      simp at this
      omega
    · have hpre : ¬ Lib.hasPrefix s.data.toList [48, 120] = true := by
        intro h
        unfold Lib.hasPrefix at h
        obtain ⟨t, ht⟩ := List.isPrefixOf_iff_prefix.1 h
        apply hp
        rw [← ht]
        rfl
      refine rnum10 s hs w h0 (Or.inr ⟨h2, by rw [hx]; exact beq_eq_false_iff_ne.2 hp⟩) ?_
      unfold numL parseU
      rw [if_neg hpre, if_neg]
      intro h
      have h1 : s.size = 0 := by rw [hln, h]; rfl
      omega
  · refine rnum10 s hs w h0 (Or.inl h2) ?_
    by_cases hpre : Lib.hasPrefix s.data.toList [48, 120] = true
    · have e : s.data.toList = [48, 120] := by
        unfold Lib.hasPrefix at hpre
        obtain ⟨t, ht⟩ := List.isPrefixOf_iff_prefix.1 hpre
        rw [← ht] at hln ⊢
        simp at hln
        have : t = [] := List.eq_nil_of_length_eq_zero (by omega)
        rw [this]
        rfl
      rw [e]
      decide
    · unfold numL parseU
      rw [if_neg hpre, if_neg]
      intro h
      have h1 : s.size = 0 := by rw [hln, h]; rfl
      omega


theorem code_cons {c : UInt8} (r : List UInt8) (h : c ≠ 59) : code (c :: r) = c :: code r := by
  unfold code
  rw [List.takeWhile_cons, if_pos (by simpa using h)]

theorem code_rem (r : List UInt8) : code (59 :: r) = [] := by
  unfold code
  rw [List.takeWhile_cons, if_neg (by simp)]

theorem takeWhile_code {p : UInt8 → Bool} (hp : p 59 = false) : ∀ l : List UInt8, (code l).takeWhile p = l.takeWhile p
  | [] => rfl
  | c :: r => by
    by_cases h : c = 59
    · subst h; rw [code_rem, List.takeWhile_cons, hp]; rfl
    · rw [code_cons r h, List.takeWhile_cons, List.takeWhile_cons, takeWhile_code hp r]

theorem dropWhile_code {p : UInt8 → Bool} (hp : p 59 = false) : ∀ l : List UInt8, (code l).dropWhile p = code (l.dropWhile p)
  | [] => rfl
  | c :: r => by
    by_cases h : c = 59
    · subst h
      rw [code_rem, List.dropWhile_cons, hp]
      simp [code_rem]
    · rw [code_cons r h, List.dropWhile_cons, List.dropWhile_cons, dropWhile_code hp r]
      split
      · rfl
      · rw [code_cons r h]

theorem tk_nil : toks (code []) = some [] := toks_fin rfl

theorem tk_rem (r : List UInt8) : toks (code (59 :: r)) = some [] := by rw [code_rem]; exact toks_fin rfl

theorem ne59 {p : Int → Bool} (hp : p 59 = false) {c : UInt8} (h : p c.toNat = true) : c ≠ 59 := by
  rintro rfl
  have : p 59 = true := h
  rw [hp] at this
  cases this

theorem tk_blank {c : UInt8} (r : List UInt8) (h : blankB c.toNat = true) : toks (code (c :: r)) = toks (code r) := by
  rw [code_cons r (ne59 (by decide) h), toks_eq, toks_eq (code r)]
  have hp : pb blankB c = true := h
  rw [List.dropWhile_cons, if_pos hp]

theorem dropB {c : UInt8} (r : List UInt8) (h : blankB c.toNat = false) : (c :: r).dropWhile (pb blankB) = c :: r := by
  have hp : pb blankB c = false := h
  rw [List.dropWhile_cons, hp]
  rfl

theorem tk_word {c : UInt8} (r : List UInt8) (hb : blankB c.toNat = false) (h : letterB c.toNat = true) :
    toks (code (c :: r)) = (toks (code ((c :: r).dropWhile (pb wordB)))).map ((⟨1, 0, (c :: r).takeWhile (pb wordB)⟩ : Tok) :: ·) := by
  have h59 := ne59 (by decide) h
  rw [← dropWhile_code (by decide), ← takeWhile_code (by decide)]
  refine toks_tok ?_
  rw [code_cons r h59, dropB _ hb]
  unfold nextT
  have hp : pb letterB c = true := h
  simp only [hp, if_true]

theorem tk_num {c : UInt8} (r : List UInt8) (hb : blankB c.toNat = false) (hl : letterB c.toNat = false) (h : digitB c.toNat = true) {n : Nat} (hn : numL ((c :: r).takeWhile (pb numB)) = some n) :
    toks (code (c :: r)) = (toks (code ((c :: r).dropWhile (pb numB)))).map ((⟨2, n, []⟩ : Tok) :: ·) := by
  have h59 := ne59 (by decide) h
  rw [← dropWhile_code (by decide)]
  refine toks_tok ?_
  rw [← takeWhile_code (by decide), code_cons r h59] at hn
  rw [code_cons r h59, dropB _ hb]
  unfold nextT
  have hp : pb letterB c = false := hl
  have hq : pb digitB c = true := h
  simp [hp, hq, hn]

theorem tk_nonum {c : UInt8} (r : List UInt8) (hb : blankB c.toNat = false) (hl : letterB c.toNat = false) (h : digitB c.toNat = true) (hn : numL ((c :: r).takeWhile (pb numB)) = none) :
    toks (code (c :: r)) = none := by
  have h59 := ne59 (by decide) h
  refine toks_bad ?_
  rw [← takeWhile_code (by decide), code_cons r h59] at hn
  rw [code_cons r h59, dropB _ hb]
  unfold nextT
  have hp : pb letterB c = false := hl
  have hq : pb digitB c = true := h
  simp [hp, hq, hn]

theorem hasPrefix_pair (a : UInt8) (c : UInt8) : ∀ r : List UInt8, Lib.hasPrefix (c :: r) [a, a] = (c == a && r.head? == some a)
  | [] => by simp [Lib.hasPrefix, List.isPrefixOf]
  | d :: r => by
    simp only [Lib.hasPrefix, List.isPrefixOf, Bool.and_true, List.head?_cons]
    rw [Bool.beq_comm (a := a), Bool.beq_comm (a := a)]
    rfl

theorem hasPrefix_code {a c : UInt8} (r : List UInt8) (ha : a ≠ 59) : Lib.hasPrefix (c :: code r) [a, a] = Lib.hasPrefix (c :: r) [a, a] := by
  rw [hasPrefix_pair, hasPrefix_pair]
  cases r with
  | nil => rfl
  | cons d r =>
    by_cases h : d = 59
    · subst h
      rw [code_rem]
      have : ((59 : UInt8) == a) = false := by simpa using fun e => ha e.symm
      simp [this]
    · rw [code_cons r h]; rfl

theorem signN_code {c : UInt8} (r : List UInt8) : signN (c :: code r) = signN (c :: r) := by
  unfold signN
  rw [hasPrefix_code r (by decide), hasPrefix_code r (by decide)]

theorem drop_sign {c : UInt8} (r : List UInt8) (h : c ≠ 59) : (c :: code r).drop (signN (c :: r)) = code ((c :: r).drop (signN (c :: r))) := by
  unfold signN
  split
  · rename_i hh
    rw [hasPrefix_pair, hasPrefix_pair] at hh
    cases r with
    | nil => simp at hh
    | cons d r =>
      have hd : d ≠ 59 := by
        rintro rfl
        simp at hh
      rw [code_cons r hd]
      rfl
  · show (c :: code r).drop (if pb signB c = true then 1 else 0) = code ((c :: r).drop (if pb signB c = true then 1 else 0))
    split
    · rfl
    · rw [List.drop_zero, List.drop_zero, code_cons r h]

theorem take_sign {c : UInt8} (r : List UInt8) : (c :: code r).take (signN (c :: r)) = (c :: r).take (signN (c :: r)) := by
  unfold signN
  split
  · rename_i hh
    rw [hasPrefix_pair, hasPrefix_pair] at hh
    cases r with
    | nil => simp at hh
    | cons d r =>
      have hd : d ≠ 59 := by
        rintro rfl
        simp at hh
      rw [code_cons r hd]
      rfl
  · show (c :: code r).take (if pb signB c = true then 1 else 0) = (c :: r).take (if pb signB c = true then 1 else 0)
    split <;> rfl

theorem tk_nosign {c : UInt8} (r : List UInt8) (hb : blankB c.toNat = false) (hl : letterB c.toNat = false) (hd : digitB c.toNat = false) (h59 : c ≠ 59) (h : signN (c :: r) = 0) :
    toks (code (c :: r)) = none := by
  refine toks_bad ?_
  rw [code_cons r h59, dropB _ hb]
  unfold nextT
  have hp : pb letterB c = false := hl
  have hq : pb digitB c = false := hd
  simp [hp, hq, signN_code, h]

theorem tk_sign {c : UInt8} (r : List UInt8) (hb : blankB c.toNat = false) (hl : letterB c.toNat = false) (hd : digitB c.toNat = false) (h59 : c ≠ 59) (h : signN (c :: r) ≠ 0) :
    toks (code (c :: r)) = (toks (code ((c :: r).drop (signN (c :: r))))).map ((⟨3, 0, (c :: r).take (signN (c :: r))⟩ : Tok) :: ·) := by
  rw [← drop_sign r h59, ← take_sign r]
  refine toks_tok ?_
  rw [code_cons r h59, dropB _ hb]
  unfold nextT
  have hp : pb letterB c = false := hl
  have hq : pb digitB c = false := hd
  simp [hp, hq, signN_code, h]

theorem digit_blank (c : UInt8) : (digitB c.toNat && blankB c.toNat) = false := by
  have := all8 (fun c => (digitB c.toNat && blankB c.toNat) == false) (by decide +kernel) c
  exact beq_iff_eq.1 this

theorem kind_word {c : Int} (h : letterB c = true) : kindR c = 97 := by simp [kindR, h]

theorem kind_num {c : Int} (h : letterB c = false) (h1 : digitB c = true) : kindR c = 48 := by simp [kindR, h, h1]

theorem kind_blank {c : Int} (h : letterB c = false) (h1 : digitB c = false) (h2 : blankB c = true) : kindR c = 32 := by simp [kindR, h, h1, h2]

theorem kind_other {c : Int} (h : letterB c = false) (h1 : digitB c = false) (h2 : blankB c = false) : kindR c = 0 := by simp [kindR, h, h1, h2]

/-- How far the inner loops have come: from k on, at j. -/
def SpanAt (p : Int → Bool) (l : List UInt8) (k j : Nat) : Prop := spanL p (l.drop k) = (j - k) + spanL p (l.drop j)

theorem spanAt_start (p : Int → Bool) (l : List UInt8) (k : Nat) : SpanAt p l k k := by unfold SpanAt; omega

theorem spanAt_yes {p : Int → Bool} {l r : List UInt8} {k j : Nat} {c : UInt8} (h : SpanAt p l k j) (hkj : k ≤ j) (hd : l.drop j = c :: r) (hp : p c.toNat = true) : SpanAt p l k (j + 1) := by
  unfold SpanAt at h ⊢
  have hr : l.drop (j + 1) = r := by rw [← List.drop_drop, hd]; rfl
  rw [h, hd, hr]
  have hp' : pb p c = true := hp
  simp only [spanL, List.takeWhile_cons, hp', if_true, List.length_cons]
  omega

theorem spanAt_no {p : Int → Bool} {l r : List UInt8} {k j : Nat} {c : UInt8} (h : SpanAt p l k j) (hd : l.drop j = c :: r) (hp : p c.toNat = false) : spanL p (l.drop k) = j - k := by
  unfold SpanAt at h
  rw [h, hd]
  have hp' : pb p c = false := hp
  simp [spanL, hp']

theorem spanAt_end {p : Int → Bool} {l : List UInt8} {k j : Nat} (h : SpanAt p l k j) (hd : l.length ≤ j) : spanL p (l.drop k) = j - k := by
  unfold SpanAt at h
  rw [h, List.drop_eq_nil_of_le hd]
  simp [spanL]

theorem span_take {p : Int → Bool} {l : List UInt8} {k j : Nat} (h : spanL p (l.drop k) = j - k) : (l.drop k).takeWhile (pb p) = (l.drop k).take (j - k) := by rw [← take_span, h]

theorem span_drop {p : Int → Bool} {l : List UInt8} {k j : Nat} (h : spanL p (l.drop k) = j - k) (hkj : k ≤ j) : (l.drop k).dropWhile (pb p) = l.drop j := by
  rw [← drop_span, h, List.drop_drop]
  congr 1
  omega

theorem extract_list (s : ByteArray) (k j : Nat) : (s.extract k j).data.toList = (s.data.toList.drop k).take (j - k) := by
  simp [ByteArray.data_extract]

theorem extract_bytes (s : ByteArray) (k j : Nat) : s.extract k j = ⟨((s.data.toList.drop k).take (j - k)).toArray⟩ := by
  apply ByteArray.ext
  apply Array.toList_inj.1
  rw [extract_list]

theorem tk_step {l rest : List UInt8} {X : Option (List Tok)} {done : List Tok} {t : Tok} {k : Nat} (h : X = (toks (code (l.drop k))).map (done ++ ·)) (hn : toks (code (l.drop k)) = (toks (code rest)).map (t :: ·)) : X = (toks (code rest)).map ((done ++ [t]) ++ ·) := by
  rw [h, hn]
  cases toks (code rest) <;> simp

/-- What holds at the loop's head. -/
structure TkAt (l : List UInt8) (k : Nat) (done : List Tok) : Prop where
  few : done.length ≤ k
  left : toks (code l) = (toks (code (l.drop k))).map (done ++ ·)

theorem tkAt_start (l : List UInt8) : TkAt l 0 [] := ⟨Nat.le_refl _, by simp⟩

theorem TkAt.word {l : List UInt8} {k j : Nat} {done : List Tok} {c : UInt8} {r : List UInt8} (h : TkAt l k done) (hd : l.drop k = c :: r) (hl : letterB c.toNat = true) (hkj : k ≤ j) (hs : spanL wordB (l.drop k) = j - k) :
    k < j ∧ TkAt l j (done ++ [⟨1, 0, (l.drop k).take (j - k)⟩]) := by
  have hb : blankB c.toNat = false := by have := letter_blank c; rw [hl] at this; simp at this; exact this.1
  have hp : pb wordB c = true := by simp [pb, wordB, hl]
  have hlt : k < j := by
    rw [hd] at hs
    simp only [spanL, List.takeWhile_cons, hp, if_true, List.length_cons] at hs
    omega
  refine ⟨hlt, by simp; have := h.few; omega, ?_⟩
  refine tk_step h.left ?_
  rw [hd, tk_word r hb hl, ← hd, span_take hs, span_drop hs hkj]

theorem TkAt.num {l : List UInt8} {k j : Nat} {done : List Tok} {c : UInt8} {r : List UInt8} {n : Nat} (h : TkAt l k done) (hd : l.drop k = c :: r) (hl : letterB c.toNat = false) (hg : digitB c.toNat = true) (hkj : k ≤ j) (hs : spanL numB (l.drop k) = j - k)
    (hn : numL ((l.drop k).take (j - k)) = some n) : k < j ∧ TkAt l j (done ++ [⟨2, n, []⟩]) := by
  have hb : blankB c.toNat = false := by have := digit_blank c; rw [hg] at this; simpa using this
  have hp : pb numB c = true := by simp [pb, numB, hg]
  have hlt : k < j := by
    rw [hd] at hs
    simp only [spanL, List.takeWhile_cons, hp, if_true, List.length_cons] at hs
    omega
  refine ⟨hlt, by simp; have := h.few; omega, ?_⟩
  refine tk_step h.left ?_
  rw [← span_take hs] at hn
  rw [hd] at hn
  rw [hd, tk_num r hb hl hg hn, ← hd, span_drop hs hkj]

theorem TkAt.nonum {l : List UInt8} {k j : Nat} {done : List Tok} {c : UInt8} {r : List UInt8} (h : TkAt l k done) (hd : l.drop k = c :: r) (hl : letterB c.toNat = false) (hg : digitB c.toNat = true) (hs : spanL numB (l.drop k) = j - k)
    (hn : numL ((l.drop k).take (j - k)) = none) : toks (code l) = none := by
  have hb : blankB c.toNat = false := by have := digit_blank c; rw [hg] at this; simpa using this
  rw [← span_take hs, hd] at hn
  rw [h.left, hd, tk_nonum r hb hl hg hn]
  rfl

theorem TkAt.blank {l : List UInt8} {k : Nat} {done : List Tok} {c : UInt8} {r : List UInt8} (h : TkAt l k done) (hd : l.drop k = c :: r) (hb : blankB c.toNat = true) : TkAt l (k + 1) done := by
  have hr : l.drop (k + 1) = r := by rw [← List.drop_drop, hd]; rfl
  refine ⟨by have := h.few; omega, ?_⟩
  rw [h.left, hd, tk_blank r hb, hr]

theorem TkAt.rem {l : List UInt8} {k : Nat} {done : List Tok} {r : List UInt8} (h : TkAt l k done) (hd : l.drop k = 59 :: r) : toks (code l) = some done := by
  rw [h.left, hd, tk_rem]
  simp

theorem TkAt.fin {l : List UInt8} {k : Nat} {done : List Tok} (h : TkAt l k done) (hd : l.length ≤ k) : toks (code l) = some done := by
  rw [h.left, List.drop_eq_nil_of_le hd, tk_nil]
  simp

theorem TkAt.nosign {l : List UInt8} {k : Nat} {done : List Tok} {c : UInt8} {r : List UInt8} (h : TkAt l k done) (hd : l.drop k = c :: r) (hb : blankB c.toNat = false) (hl : letterB c.toNat = false) (hg : digitB c.toNat = false) (h59 : c ≠ 59) (hs : signN (c :: r) = 0) : toks (code l) = none := by
  rw [h.left, hd, tk_nosign r hb hl hg h59 hs]
  rfl

theorem TkAt.sign {l : List UInt8} {k m : Nat} {done : List Tok} {c : UInt8} {r : List UInt8} (h : TkAt l k done) (hd : l.drop k = c :: r) (hb : blankB c.toNat = false) (hl : letterB c.toNat = false) (hg : digitB c.toNat = false) (h59 : c ≠ 59) (hs : signN (c :: r) = m) (hm : 0 < m) :
    TkAt l (k + m) (done ++ [⟨3, 0, (l.drop k).take m⟩]) := by
  refine ⟨by simp; have := h.few; omega, ?_⟩
  refine tk_step h.left ?_
  rw [hd, tk_sign r hb hl hg h59 (by omega), hs, ← hd, List.drop_drop]


theorem kind_at (c : Int) (w : World) :
    Calls Tryd.prog 24 #[.int .u8 c] w fun e w' => e = .returned (.int .u8 (kindR c)) ∧ w = w' :=
  (kind_any c w).mono fun _ _ h => ⟨h.1, h.2.symm⟩

theorem new3 (w : World) (a b c : Value) : ∀ j u, [a, b, c][j]? = some u → (w.alloc (.cells #[a, b, c] 63)).cell? ((⟨w.heap.size, 0, none⟩ : Addr).add j) = some u := by
  intro j u hj
  match j, hj with
  | 0, hj => simp at hj; subst hj; simp [go_sem, Addr.add]
  | 1, hj => simp at hj; subst hj; simp [go_sem, Addr.add]
  | 2, hj => simp at hj; subst hj; simp [go_sem, Addr.add]

theorem one3 (a b : Int) (c : ByteArray) : ∀ u ∈ [Value.int .i64 a, .int .i64 b, .string c], u.oneCell' = true := by
  intro u hu
  simp at hu
  rcases hu with rfl | rfl | rfl <;> rfl

theorem few_max {n : Nat} (h : n ≤ 80) : n + 1 ≤ maxLen := by unfold maxLen; omega

theorem few_bytes {n : Nat} (h : n ≤ 80) : (n + 1) * 32 ≤ 140737488355328 := by omega

theorem le_alloc {n : Nat} {w : World} (h : n ≤ w.heap.size) (o : Obj) : n ≤ (w.alloc o).heap.size := by simp; omega

theorem numB_letter {c : Int} (h : letterB c = true) (h46 : ¬ c = 46) : numB c = true := by simp [numB, h, h46]

theorem signs_at (c : UInt8) (w : World) :
    Calls Tryd.prog 26 #[.string ⟨#[58, 44, 35, 64, 40, 41, 43, 45, 42, 38, 124, 126, 61]⟩, .int .u8 (c.toNat : Int)] w fun e w' => e = .returned (.bool (signB c.toNat)) ∧ w = w' :=
  (signs_any c w).mono fun _ _ h => ⟨h.1, h.2.symm⟩

set_option maxHeartbeats 8000000 in
set_option maxRecDepth 100000 in
theorem rtokens_few (s : ByteArray) (w : World) (h : s.size ≤ 80) :
    Calls Tryd.prog 12 #[.string s] w fun e w' => TokAns w.heap.size w' s.data.toList e ∧ Below w.heap.size w w' := by
  have h' : ¬ (80 : Int) < s.size := by omega
  obtain ⟨i0, hi, hz0, hz1, hz2⟩ := info_parts info84
  have HLN : Hid (s.data.toList.length = s.size) := Array.length_toList
  go_enter Tryd.func12, Tryd.ntmps12
  go_wp2
  go_loopw [4, 5] (fun v i wr => ∃ (k : Nat) (done : List Tok), k ≤ s.size ∧ i = .int .i64 k ∧ wr.ownsRow w.heap.size 63 3 v done.length (tcells done) ∧ Below w.heap.size w wr ∧ Hid (TkAt s.data.toList k done)) (fun _ i _ => s.size - (intOf i).toNat)
  case atStart => exact ⟨0, [], Nat.zero_le _, rfl, World.ownsRow_nil _ _ _ _, Below.refl _ _, tkAt_start _⟩
  case round =>
    obtain ⟨k, done, hk, rfl, hown, hB, HT⟩ := hrel
    have hfew := HT.out.few
    have hszr := hB.size
    have h80 : done.length ≤ 80 := by omega
    by_cases hlt : k < s.size
    · have hk1 : (k : Int) < s.size := by omega
      have hidx := index9 s k k rfl hlt
      have HDR : Hid (s.data.toList.drop k = s[k] :: s.data.toList.drop (k + 1)) := drop_at hlt
      generalize s[k] = c at *
      have HO : Hid (wr.ownsRow w.heap.size 63 3 u4 done.length (tcells done)) := hown
      have HB : Hid (Below w.heap.size w wr) := hB
      clear hown hB
      cases hl : letterB c.toNat
      · cases hg : digitB c.toNat
        · cases hb : blankB c.toNat
          · have hkd := kind_other hl hg hb
            by_cases h59 : (c.toNat : Int) = 59
            · have e59 : ((c.toNat : Int) == 59) = true := by simpa using h59
              have hc : c = 59 := UInt8.toNat_inj.1 (by show c.toNat = 59; omega)
              have HF : Hid (lineErr s.data.toList = 0 ∧ lineList s.data.toList = done) := line_done (by rw [HLN.out]; exact h) (HT.out.rem (by rw [HDR.out, hc]))
              clear hc
              go_wp2_with (go_at_call 24; refine (kind_at _ _).mono ?_; rintro e w' ⟨rfl, rfl⟩)
              go_ret2
              refine ⟨⟨u4, by rw [HF.out.1]; rfl, ?_⟩, HB.out⟩
              rw [HF.out.2]
              exact HO.out
            · have e59 : ((c.toNat : Int) == 59) = false := beq_no h59
              have h59' : c ≠ 59 := by rintro rfl; exact h59 rfl
              by_cases hnx : (k : Int) + 1 < s.size
              · have hkl : k + 1 < s.size := by omega
                have hslice : k + 2 ≤ s.size := by omega
                have hdd : s.data.toList.drop (k + 1) = s[k + 1] :: s.data.toList.drop (k + 2) := drop_at hkl
                have hxl : (s.extract k (k + 2)).toList = [c, s[k + 1]] := by
                  rw [ByteArray.toList_eq, extract_list, show k + 2 - k = 2 by omega, HDR.out, hdd]
                  rfl
                have HDD : Hid (s.data.toList.drop k = c :: s[k + 1] :: s.data.toList.drop (k + 2)) := by rw [← hdd]; exact HDR.out
                clear hdd
                generalize s[k + 1] = d at *
                cases h2 : ((c == 60 && d == 60) || (c == 62 && d == 62))
                · have x1 : ((s.extract k (k + 2)).toList == [60, 60]) = false := by rw [hxl]; simp at h2 ⊢; exact h2.1
                  have x2 : ((s.extract k (k + 2)).toList == [62, 62]) = false := by rw [hxl]; simp at h2 ⊢; exact h2.2
                  have HSN : Hid (signN (c :: d :: s.data.toList.drop (k + 2)) = if signB c.toNat = true then 1 else 0) := by
                    unfold Hid signN
                    rw [hasPrefix_pair, hasPrefix_pair, if_neg]
                    · rfl
                    · simp at h2 ⊢; exact h2
                  clear hxl h2
                  cases hs : signB c.toNat
                  · rw [hs] at HSN
                    have HF : Hid (lineErr s.data.toList = 2 ∧ lineList s.data.toList = []) := line_bad (by rw [HLN.out]; exact h) (HT.out.nosign HDD.out hb hl hg h59' HSN.out)
                    clear HSN
                    go_wp2_with (first | (go_at_call 24; refine (kind_at _ _).mono ?_; rintro e w' ⟨rfl, rfl⟩; simp only [hkd]) | (go_at_call 26; refine (signs_at _ _).mono ?_; rintro e w' ⟨rfl, rfl⟩; simp only [hs]))
                    go_ret2
                    refine ⟨⟨.slice none 0 0, by rw [HF.out.1]; rfl, ?_⟩, HB.out⟩
                    rw [HF.out.2]
                    exact World.ownsRow_nil _ _ _ _
                  · rw [hs] at HSN
                    have HT2 : Hid (TkAt s.data.toList (k + 1) (done ++ [⟨3, 0, (s.data.toList.drop k).take 1⟩])) := HT.out.sign HDD.out hb hl hg h59' HSN.out (by decide)
                    clear HSN
                    go_wp2_with (first
                      | (at_builtin; refine wpList_append_own _ rfl _ _ 22 rfl w.heap.size 63 i0 _ 3 32 Tryd.underlying22 hi hz0 hz1 hz2 rfl (by decide) _ _ _ rfl (HO.out.alloc _) ⟨wr.heap.size, 0, none⟩ 1 1 [.int .i64 3, .int .i64 0, .string (s.extract k (k + 1))] rfl rfl (new3 _ _ _ _) (one3 _ _ _) (few_max h80) (few_bytes h80) (le_alloc hszr _) ?_)
                      | (go_at_call 24; refine (kind_at _ _).mono ?_; rintro e w' ⟨rfl, rfl⟩; simp only [hkd])
                      | (go_at_call 26; refine (signs_at _ _).mono ?_; rintro e w' ⟨rfl, rfl⟩; simp only [hs])
                      | go_in)
                    · intro v' w3 hown3 hgrow _
                      have HO3 : Hid (w3.ownsRow w.heap.size 63 3 v' (done.length + 1) (tcells done ++ [.int .i64 3, .int .i64 0, .string (s.extract k (k + 1))])) := hown3
                      have HB3 : Hid (Below w.heap.size w w3) := (HB.out.alloc hszr _).grown hgrow (by simp; omega) (fun k hk => (HO.out.lt k hk).1)
                      clear hown3 hgrow HO HB
                      go_wp2
                      go_roundw
                      case rel =>
                        refine ⟨k + 1, done ++ [⟨3, 0, (s.data.toList.drop k).take 1⟩], by omega, by go_num, ?_, HB3.out, HT2⟩
                        rw [tcells_app, List.length_append]
                        have ex : k + 1 - k = 1 := by omega
                        rw [extract_bytes, ex] at HO3
                        exact HO3.out
                      case measure => simp [intOf]; omega
                · have hcd : (c = 60 ∧ d = 60) ∨ (c = 62 ∧ d = 62) := by simpa using h2
                  have HSN : Hid (signN (c :: d :: s.data.toList.drop (k + 2)) = 2) := by
                    unfold Hid signN
                    rw [hasPrefix_pair, hasPrefix_pair, if_pos]
                    rcases hcd with ⟨rfl, rfl⟩ | ⟨rfl, rfl⟩ <;> simp
                  have HT2 : Hid (TkAt s.data.toList (k + 2) (done ++ [⟨3, 0, (s.data.toList.drop k).take 2⟩])) := HT.out.sign HDD.out hb hl hg h59' HSN.out (by decide)
                  clear HSN h2
                  rcases hcd with ⟨rfl, rfl⟩ | ⟨rfl, rfl⟩
                  · have x1 : ((s.extract k (k + 2)).toList == [60, 60]) = true := by rw [hxl]; rfl
                    clear hxl
                    go_wp2_with (first
                      | (at_builtin; refine wpList_append_own _ rfl _ _ 22 rfl w.heap.size 63 i0 _ 3 32 Tryd.underlying22 hi hz0 hz1 hz2 rfl (by decide) _ _ _ rfl (HO.out.alloc _) ⟨wr.heap.size, 0, none⟩ 1 1 [.int .i64 3, .int .i64 0, .string (s.extract k (k + 2))] rfl rfl (new3 _ _ _ _) (one3 _ _ _) (few_max h80) (few_bytes h80) (le_alloc hszr _) ?_)
                      | (go_at_call 24; refine (kind_at _ _).mono ?_; rintro e w' ⟨rfl, rfl⟩)
                      | go_in)
                    · intro v' w3 hown3 hgrow _
                      have HO3 : Hid (w3.ownsRow w.heap.size 63 3 v' (done.length + 1) (tcells done ++ [.int .i64 3, .int .i64 0, .string (s.extract k (k + 2))])) := hown3
                      have HB3 : Hid (Below w.heap.size w w3) := (HB.out.alloc hszr _).grown hgrow (by simp; omega) (fun k hk => (HO.out.lt k hk).1)
                      clear hown3 hgrow HO HB
                      go_wp2
                      go_roundw
                      case rel =>
                        refine ⟨k + 2, done ++ [⟨3, 0, (s.data.toList.drop k).take 2⟩], by omega, by go_num, ?_, HB3.out, HT2⟩
                        rw [tcells_app, List.length_append]
                        have ex : k + 2 - k = 2 := by omega
                        rw [extract_bytes, ex] at HO3
                        exact HO3.out
                      case measure => simp [intOf]; omega
                  · have x1 : ((s.extract k (k + 2)).toList == [60, 60]) = false := by rw [hxl]; rfl
                    have x2 : ((s.extract k (k + 2)).toList == [62, 62]) = true := by rw [hxl]; rfl
                    clear hxl
                    go_wp2_with (first
                      | (at_builtin; refine wpList_append_own _ rfl _ _ 22 rfl w.heap.size 63 i0 _ 3 32 Tryd.underlying22 hi hz0 hz1 hz2 rfl (by decide) _ _ _ rfl (HO.out.alloc _) ⟨wr.heap.size, 0, none⟩ 1 1 [.int .i64 3, .int .i64 0, .string (s.extract k (k + 2))] rfl rfl (new3 _ _ _ _) (one3 _ _ _) (few_max h80) (few_bytes h80) (le_alloc hszr _) ?_)
                      | (go_at_call 24; refine (kind_at _ _).mono ?_; rintro e w' ⟨rfl, rfl⟩)
                      | go_in)
                    · intro v' w3 hown3 hgrow _
                      have HO3 : Hid (w3.ownsRow w.heap.size 63 3 v' (done.length + 1) (tcells done ++ [.int .i64 3, .int .i64 0, .string (s.extract k (k + 2))])) := hown3
                      have HB3 : Hid (Below w.heap.size w w3) := (HB.out.alloc hszr _).grown hgrow (by simp; omega) (fun k hk => (HO.out.lt k hk).1)
                      clear hown3 hgrow HO HB
                      go_wp2
                      go_roundw
                      case rel =>
                        refine ⟨k + 2, done ++ [⟨3, 0, (s.data.toList.drop k).take 2⟩], by omega, by go_num, ?_, HB3.out, HT2⟩
                        rw [tcells_app, List.length_append]
                        have ex : k + 2 - k = 2 := by omega
                        rw [extract_bytes, ex] at HO3
                        exact HO3.out
                      case measure => simp [intOf]; omega
              · have HDD : Hid (s.data.toList.drop k = [c]) := by
                  unfold Hid
                  rw [HDR.out, List.drop_eq_nil_of_le (by rw [HLN.out]; omega)]
                have HSN : Hid (signN [c] = if signB c.toNat = true then 1 else 0) := by
                  unfold Hid signN
                  rw [hasPrefix_pair, hasPrefix_pair, if_neg]
                  · rfl
                  · simp
                cases hs : signB c.toNat
                · rw [hs] at HSN
                  have HF : Hid (lineErr s.data.toList = 2 ∧ lineList s.data.toList = []) := line_bad (by rw [HLN.out]; exact h) (HT.out.nosign HDD.out hb hl hg h59' HSN.out)
                  clear HSN
                  go_wp2_with (first | (go_at_call 24; refine (kind_at _ _).mono ?_; rintro e w' ⟨rfl, rfl⟩; simp only [hkd]) | (go_at_call 26; refine (signs_at _ _).mono ?_; rintro e w' ⟨rfl, rfl⟩; simp only [hs]))
                  go_ret2
                  refine ⟨⟨.slice none 0 0, by rw [HF.out.1]; rfl, ?_⟩, HB.out⟩
                  rw [HF.out.2]
                  exact World.ownsRow_nil _ _ _ _
                · rw [hs] at HSN
                  have HT2 : Hid (TkAt s.data.toList (k + 1) (done ++ [⟨3, 0, (s.data.toList.drop k).take 1⟩])) := HT.out.sign HDD.out hb hl hg h59' HSN.out (by decide)
                  clear HSN
                  go_wp2_with (first
                    | (at_builtin; refine wpList_append_own _ rfl _ _ 22 rfl w.heap.size 63 i0 _ 3 32 Tryd.underlying22 hi hz0 hz1 hz2 rfl (by decide) _ _ _ rfl (HO.out.alloc _) ⟨wr.heap.size, 0, none⟩ 1 1 [.int .i64 3, .int .i64 0, .string (s.extract k (k + 1))] rfl rfl (new3 _ _ _ _) (one3 _ _ _) (few_max h80) (few_bytes h80) (le_alloc hszr _) ?_)
                    | (go_at_call 24; refine (kind_at _ _).mono ?_; rintro e w' ⟨rfl, rfl⟩; simp only [hkd])
                    | (go_at_call 26; refine (signs_at _ _).mono ?_; rintro e w' ⟨rfl, rfl⟩; simp only [hs])
                    | go_in)
                  · intro v' w3 hown3 hgrow _
                    have HO3 : Hid (w3.ownsRow w.heap.size 63 3 v' (done.length + 1) (tcells done ++ [.int .i64 3, .int .i64 0, .string (s.extract k (k + 1))])) := hown3
                    have HB3 : Hid (Below w.heap.size w w3) := (HB.out.alloc hszr _).grown hgrow (by simp; omega) (fun k hk => (HO.out.lt k hk).1)
                    clear hown3 hgrow HO HB
                    go_wp2
                    go_roundw
                    case rel =>
                      refine ⟨k + 1, done ++ [⟨3, 0, (s.data.toList.drop k).take 1⟩], by omega, by go_num, ?_, HB3.out, HT2⟩
                      rw [tcells_app, List.length_append]
                      have ex : k + 1 - k = 1 := by omega
                      rw [extract_bytes, ex] at HO3
                      exact HO3.out
                    case measure => simp [intOf]; omega
          · have hkd := kind_blank hl hg hb
            have HT2 : Hid (TkAt s.data.toList (k + 1) done) := HT.out.blank HDR.out hb
            go_wp2_with (go_at_call 24; refine (kind_at _ _).mono ?_; rintro e w' ⟨rfl, rfl⟩; simp only [hkd])
            exact ⟨⟨k + 1, done, by omega, by go_num, HO.out, HB.out, HT2.out⟩, by simp [intOf]; omega⟩
        · have hkd := kind_num hl hg
          go_wp2_with (go_at_call 24; refine (kind_at _ _).mono ?_; rintro e w' ⟨rfl, rfl⟩; simp only [hkd])
          clear hidx hkd
          go_loop [6] (fun i => ∃ j : Nat, k ≤ j ∧ j ≤ s.size ∧ i = .int .i64 j ∧ Hid (SpanAt numB s.data.toList k j)) (fun i => s.size - (intOf i).toNat)
          case atStart => exact ⟨k, Nat.le_refl _, by omega, rfl, spanAt_start _ _ _⟩
          case round =>
            obtain ⟨j, hkj, hj, rfl, HS⟩ := hrel
            by_cases hjl : j < s.size
            · have hj1 : (j : Int) < s.size := by omega
              have hidx2 := index9 s j j rfl hjl
              have HD2 : Hid (s.data.toList.drop j = s[j] :: s.data.toList.drop (j + 1)) := drop_at hjl
              generalize s[j] = d at *
              have k97 := kind97 d.toNat
              cases hl2 : letterB d.toNat
              · have k48 := kind48 hl2
                rw [hl2] at k97
                cases hg2 : digitB d.toNat
                · rw [hg2] at k48
                  have HSPAN : Hid (spanL numB (s.data.toList.drop k) = j - k) := (spanAt_no HS.out HD2.out (by simp [numB, hl2, hg2]))
                  have hkj'' : k < j := by
                    have h1 := HSPAN.out
                    rw [HDR.out] at h1
                    have hp : pb numB c = true := by simp [pb, numB, hg]
                    simp only [spanL, List.takeWhile_cons, hp, if_true, List.length_cons] at h1
                    omega
                  have hx0 : 0 < (s.extract k j).size := by simp; omega
                  have hx1 : (s.extract k j).size ≤ 9223372036854775000 := by simp; omega
                  have HXL := Hid.out (extract_list s k j)
                  clear HD2
                  go_wp2_with (go_at_call 24; refine (kind_at _ _).mono ?_; rintro e w' ⟨rfl, rfl⟩)
                  refine (rnum_any _ hx1 hx0 _).mono ?_
                  rintro e w2 ⟨⟨x, rfl, hx⟩, m, rfl⟩
                  rw [HXL] at hx ⊢
                  have hBd := Go.Joins.below_draws wr.heap.size wr m
                  have HO2 : Hid ((wr.drewN m).ownsRow w.heap.size 63 3 u4 done.length (tcells done)) := owns_belowT HO.out hBd
                  have HB2 : Hid (Below w.heap.size w (wr.drewN m)) := HB.out.trans (hBd.mono hszr)
                  clear hx0 hx1 hBd HO HB
                  cases hn : numL ((s.data.toList.drop k).take (j - k)) with
                  | none =>
                    have HF : Hid (lineErr s.data.toList = 2 ∧ lineList s.data.toList = []) := line_bad (by rw [HLN.out]; exact h) (HT.out.nonum HDR.out hl hg HSPAN.out hn)
                    clear hn hx
                    simp only [Option.isSome_none]
                    go_wp2
                    go_ret2
                    refine ⟨⟨.slice none 0 0, by rw [HF.out.1]; rfl, ?_⟩, HB2.out⟩
                    rw [HF.out.2]
                    exact World.ownsRow_nil _ _ _ _
                  | some n =>
                    obtain rfl := hx n hn
                    clear hx
                    simp only [Option.isSome_some]
                    have HSP : Hid (k < j ∧ TkAt s.data.toList j (done ++ [⟨2, n, []⟩])) := HT.out.num HDR.out hl hg hkj HSPAN.out hn
                    have hkj' := HSP.out.1
                    have HT2 : Hid (TkAt s.data.toList j (done ++ [⟨2, n, []⟩])) := HSP.out.2
                    clear hn HSP
                    go_wp2_with (first
                      | (at_builtin; refine wpList_append_own _ rfl _ _ 22 rfl w.heap.size 63 i0 _ 3 32 Tryd.underlying22 hi hz0 hz1 hz2 rfl (by decide) _ _ _ rfl (HO2.out.alloc _) ⟨(wr.drewN m).heap.size, 0, none⟩ 1 1 [.int .i64 2, .int .i64 n, .string ⟨#[]⟩] rfl rfl (new3 _ _ _ _) (one3 _ _ _) (few_max h80) (few_bytes h80) (le_alloc hszr _) ?_)
                      | (go_at_call 24; refine (kind_at _ _).mono ?_; rintro e w' ⟨rfl, rfl⟩)
                      | go_in)
                    · intro v' w3 hown3 hgrow _
                      have HO3 : Hid (w3.ownsRow w.heap.size 63 3 v' (done.length + 1) (tcells done ++ [.int .i64 2, .int .i64 n, .string ⟨#[]⟩])) := hown3
                      have HB3 : Hid (Below w.heap.size w w3) := (HB2.out.alloc hszr _).grown hgrow (by simp; omega) (fun k hk => (HO2.out.lt k hk).1)
                      clear hown3 hgrow HO2 HB2
                      go_wp2
                      go_roundw
                      case rel =>
                        refine ⟨j, done ++ [⟨2, n, []⟩], by omega, by go_num, ?_, HB3.out, HT2⟩
                        rw [tcells_app, List.length_append]
                        exact HO3.out
                      case measure => simp [intOf]; omega
                · rw [hg2] at k48
                  go_wp2_with (go_at_call 24; refine (kind_at _ _).mono ?_; rintro e w' ⟨rfl, rfl⟩)
                  exact ⟨⟨j + 1, by omega, by omega, by go_num, spanAt_yes HS.out hkj HD2.out (by simp [numB, hg2])⟩, by simp [intOf]; omega⟩
              · rw [hl2] at k97
                by_cases h46 : (d.toNat : Int) = 46
                · have e46 : ((d.toNat : Int) == 46) = true := by simpa using h46
                  have hg2 : digitB d.toNat = false := by rw [h46]; decide
                  have hkd : kindR d.toNat = 97 := kind_word hl2
                  have k48 : (kindR d.toNat == 48) = false := by rw [hkd]; rfl
                  clear hkd
                  have HSPAN : Hid (spanL numB (s.data.toList.drop k) = j - k) := (spanAt_no HS.out HD2.out (by rw [h46]; decide))
                  have hkj'' : k < j := by
                    have h1 := HSPAN.out
                    rw [HDR.out] at h1
                    have hp : pb numB c = true := by simp [pb, numB, hg]
                    simp only [spanL, List.takeWhile_cons, hp, if_true, List.length_cons] at h1
                    omega
                  have hx0 : 0 < (s.extract k j).size := by simp; omega
                  have hx1 : (s.extract k j).size ≤ 9223372036854775000 := by simp; omega
                  have HXL := Hid.out (extract_list s k j)
                  clear HD2
                  go_wp2_with (go_at_call 24; refine (kind_at _ _).mono ?_; rintro e w' ⟨rfl, rfl⟩)
                  refine (rnum_any _ hx1 hx0 _).mono ?_
                  rintro e w2 ⟨⟨x, rfl, hx⟩, m, rfl⟩
                  rw [HXL] at hx ⊢
                  have hBd := Go.Joins.below_draws wr.heap.size wr m
                  have HO2 : Hid ((wr.drewN m).ownsRow w.heap.size 63 3 u4 done.length (tcells done)) := owns_belowT HO.out hBd
                  have HB2 : Hid (Below w.heap.size w (wr.drewN m)) := HB.out.trans (hBd.mono hszr)
                  clear hx0 hx1 hBd HO HB
                  cases hn : numL ((s.data.toList.drop k).take (j - k)) with
                  | none =>
                    have HF : Hid (lineErr s.data.toList = 2 ∧ lineList s.data.toList = []) := line_bad (by rw [HLN.out]; exact h) (HT.out.nonum HDR.out hl hg HSPAN.out hn)
                    clear hn hx
                    simp only [Option.isSome_none]
                    go_wp2
                    go_ret2
                    refine ⟨⟨.slice none 0 0, by rw [HF.out.1]; rfl, ?_⟩, HB2.out⟩
                    rw [HF.out.2]
                    exact World.ownsRow_nil _ _ _ _
                  | some n =>
                    obtain rfl := hx n hn
                    clear hx
                    simp only [Option.isSome_some]
                    have HSP : Hid (k < j ∧ TkAt s.data.toList j (done ++ [⟨2, n, []⟩])) := HT.out.num HDR.out hl hg hkj HSPAN.out hn
                    have hkj' := HSP.out.1
                    have HT2 : Hid (TkAt s.data.toList j (done ++ [⟨2, n, []⟩])) := HSP.out.2
                    clear hn HSP
                    go_wp2_with (first
                      | (at_builtin; refine wpList_append_own _ rfl _ _ 22 rfl w.heap.size 63 i0 _ 3 32 Tryd.underlying22 hi hz0 hz1 hz2 rfl (by decide) _ _ _ rfl (HO2.out.alloc _) ⟨(wr.drewN m).heap.size, 0, none⟩ 1 1 [.int .i64 2, .int .i64 n, .string ⟨#[]⟩] rfl rfl (new3 _ _ _ _) (one3 _ _ _) (few_max h80) (few_bytes h80) (le_alloc hszr _) ?_)
                      | (go_at_call 24; refine (kind_at _ _).mono ?_; rintro e w' ⟨rfl, rfl⟩)
                      | go_in)
                    · intro v' w3 hown3 hgrow _
                      have HO3 : Hid (w3.ownsRow w.heap.size 63 3 v' (done.length + 1) (tcells done ++ [.int .i64 2, .int .i64 n, .string ⟨#[]⟩])) := hown3
                      have HB3 : Hid (Below w.heap.size w w3) := (HB2.out.alloc hszr _).grown hgrow (by simp; omega) (fun k hk => (HO2.out.lt k hk).1)
                      clear hown3 hgrow HO2 HB2
                      go_wp2
                      go_roundw
                      case rel =>
                        refine ⟨j, done ++ [⟨2, n, []⟩], by omega, by go_num, ?_, HB3.out, HT2⟩
                        rw [tcells_app, List.length_append]
                        exact HO3.out
                      case measure => simp [intOf]; omega
                · have e46 : ((d.toNat : Int) == 46) = false := beq_no h46
                  go_wp2_with (go_at_call 24; refine (kind_at _ _).mono ?_; rintro e w' ⟨rfl, rfl⟩)
                  exact ⟨⟨j + 1, by omega, by omega, by go_num, spanAt_yes HS.out hkj HD2.out (numB_letter hl2 h46)⟩, by simp [intOf]; omega⟩
            · have hj1 : ¬ (j : Int) < s.size := by omega
              have HSPAN : Hid (spanL numB (s.data.toList.drop k) = j - k) := (spanAt_end HS.out (by rw [HLN.out]; omega))
              have hkj'' : k < j := by
                have h1 := HSPAN.out
                rw [HDR.out] at h1
                have hp : pb numB c = true := by simp [pb, numB, hg]
                simp only [spanL, List.takeWhile_cons, hp, if_true, List.length_cons] at h1
                omega
              have hx0 : 0 < (s.extract k j).size := by simp; omega
              have hx1 : (s.extract k j).size ≤ 9223372036854775000 := by simp; omega
              have HXL := Hid.out (extract_list s k j)
              go_wp2_with (go_at_call 24; refine (kind_at _ _).mono ?_; rintro e w' ⟨rfl, rfl⟩)
              refine (rnum_any _ hx1 hx0 _).mono ?_
              rintro e w2 ⟨⟨x, rfl, hx⟩, m, rfl⟩
              rw [HXL] at hx ⊢
              have hBd := Go.Joins.below_draws wr.heap.size wr m
              have HO2 : Hid ((wr.drewN m).ownsRow w.heap.size 63 3 u4 done.length (tcells done)) := owns_belowT HO.out hBd
              have HB2 : Hid (Below w.heap.size w (wr.drewN m)) := HB.out.trans (hBd.mono hszr)
              clear hx0 hx1 hBd HO HB
              cases hn : numL ((s.data.toList.drop k).take (j - k)) with
              | none =>
                have HF : Hid (lineErr s.data.toList = 2 ∧ lineList s.data.toList = []) := line_bad (by rw [HLN.out]; exact h) (HT.out.nonum HDR.out hl hg HSPAN.out hn)
                clear hn hx
                simp only [Option.isSome_none]
                go_wp2
                go_ret2
                refine ⟨⟨.slice none 0 0, by rw [HF.out.1]; rfl, ?_⟩, HB2.out⟩
                rw [HF.out.2]
                exact World.ownsRow_nil _ _ _ _
              | some n =>
                obtain rfl := hx n hn
                clear hx
                simp only [Option.isSome_some]
                have HSP : Hid (k < j ∧ TkAt s.data.toList j (done ++ [⟨2, n, []⟩])) := HT.out.num HDR.out hl hg hkj HSPAN.out hn
                have hkj' := HSP.out.1
                have HT2 : Hid (TkAt s.data.toList j (done ++ [⟨2, n, []⟩])) := HSP.out.2
                clear hn HSP
                go_wp2_with (first
                  | (at_builtin; refine wpList_append_own _ rfl _ _ 22 rfl w.heap.size 63 i0 _ 3 32 Tryd.underlying22 hi hz0 hz1 hz2 rfl (by decide) _ _ _ rfl (HO2.out.alloc _) ⟨(wr.drewN m).heap.size, 0, none⟩ 1 1 [.int .i64 2, .int .i64 n, .string ⟨#[]⟩] rfl rfl (new3 _ _ _ _) (one3 _ _ _) (few_max h80) (few_bytes h80) (le_alloc hszr _) ?_)
                  | (go_at_call 24; refine (kind_at _ _).mono ?_; rintro e w' ⟨rfl, rfl⟩)
                  | go_in)
                · intro v' w3 hown3 hgrow _
                  have HO3 : Hid (w3.ownsRow w.heap.size 63 3 v' (done.length + 1) (tcells done ++ [.int .i64 2, .int .i64 n, .string ⟨#[]⟩])) := hown3
                  have HB3 : Hid (Below w.heap.size w w3) := (HB2.out.alloc hszr _).grown hgrow (by simp; omega) (fun k hk => (HO2.out.lt k hk).1)
                  clear hown3 hgrow HO2 HB2
                  go_wp2
                  go_roundw
                  case rel =>
                    refine ⟨j, done ++ [⟨2, n, []⟩], by omega, by go_num, ?_, HB3.out, HT2⟩
                    rw [tcells_app, List.length_append]
                    exact HO3.out
                  case measure => simp [intOf]; omega
      · have hkd := kind_word hl
        go_wp2_with (go_at_call 24; refine (kind_at _ _).mono ?_; rintro e w' ⟨rfl, rfl⟩; simp only [hkd])
        clear hidx hkd
        go_loop [6] (fun i => ∃ j : Nat, k ≤ j ∧ j ≤ s.size ∧ i = .int .i64 j ∧ Hid (SpanAt wordB s.data.toList k j)) (fun i => s.size - (intOf i).toNat)
        case atStart => exact ⟨k, Nat.le_refl _, by omega, rfl, spanAt_start _ _ _⟩
        case round =>
          obtain ⟨j, hkj, hj, rfl, HS⟩ := hrel
          by_cases hjl : j < s.size
          · have hj1 : (j : Int) < s.size := by omega
            have hidx2 := index9 s j j rfl hjl
            have HD2 : Hid (s.data.toList.drop j = s[j] :: s.data.toList.drop (j + 1)) := drop_at hjl
            generalize s[j] = d at *
            have k97 := kind97 d.toNat
            cases hl2 : letterB d.toNat
            · have k48 := kind48 hl2
              rw [hl2] at k97
              cases hg2 : digitB d.toNat
              · rw [hg2] at k48
                by_cases h47 : (d.toNat : Int) = 47
                · have e47 : ((d.toNat : Int) == 47) = true := by simpa using h47
                  go_wp2_with (go_at_call 24; refine (kind_at _ _).mono ?_; rintro e w' ⟨rfl, rfl⟩)
                  exact ⟨⟨j + 1, by omega, by omega, by go_num, spanAt_yes HS.out hkj HD2.out (by simp [wordB, h47])⟩, by simp [intOf]; omega⟩
                · have e47 : ((d.toNat : Int) == 47) = false := beq_no h47
                  have HSP : Hid (k < j ∧ TkAt s.data.toList j (done ++ [⟨1, 0, (s.data.toList.drop k).take (j - k)⟩])) := HT.out.word HDR.out hl hkj (spanAt_no HS.out HD2.out (by simp [wordB, hl2, hg2, h47]))
                  have hkj' := HSP.out.1
                  have HT2 : Hid (TkAt s.data.toList j (done ++ [⟨1, 0, (s.data.toList.drop k).take (j - k)⟩])) := HSP.out.2
                  clear HSP
                  go_wp2_with (first
                    | (at_builtin; refine wpList_append_own _ rfl _ _ 22 rfl w.heap.size 63 i0 _ 3 32 Tryd.underlying22 hi hz0 hz1 hz2 rfl (by decide) _ _ _ rfl (HO.out.alloc _) ⟨wr.heap.size, 0, none⟩ 1 1 [.int .i64 1, .int .i64 0, .string (s.extract k j)] rfl rfl (new3 _ _ _ _) (one3 _ _ _) (few_max h80) (few_bytes h80) (le_alloc hszr _) ?_)
                    | (go_at_call 24; refine (kind_at _ _).mono ?_; rintro e w' ⟨rfl, rfl⟩)
                    | go_in)
                  · intro v' w3 hown3 hgrow _
                    have HO3 : Hid (w3.ownsRow w.heap.size 63 3 v' (done.length + 1) (tcells done ++ [.int .i64 1, .int .i64 0, .string (s.extract k j)])) := hown3
                    have HB3 : Hid (Below w.heap.size w w3) := (HB.out.alloc hszr _).grown hgrow (by simp; omega) (fun k hk => (HO.out.lt k hk).1)
                    clear hown3 hgrow HO HB
                    go_wp2
                    go_roundw
                    case rel =>
                      refine ⟨j, done ++ [⟨1, 0, (s.data.toList.drop k).take (j - k)⟩], by omega, by go_num, ?_, HB3.out, HT2⟩
                      rw [tcells_app, List.length_append]
                      rw [extract_bytes] at HO3
                      exact HO3.out
                    case measure => simp [intOf]; omega
              · rw [hg2] at k48
                go_wp2_with (go_at_call 24; refine (kind_at _ _).mono ?_; rintro e w' ⟨rfl, rfl⟩)
                exact ⟨⟨j + 1, by omega, by omega, by go_num, spanAt_yes HS.out hkj HD2.out (by simp [wordB, hg2])⟩, by simp [intOf]; omega⟩
            · rw [hl2] at k97
              go_wp2_with (go_at_call 24; refine (kind_at _ _).mono ?_; rintro e w' ⟨rfl, rfl⟩)
              exact ⟨⟨j + 1, by omega, by omega, by go_num, spanAt_yes HS.out hkj HD2.out (by simp [wordB, hl2])⟩, by simp [intOf]; omega⟩
          · have hj1 : ¬ (j : Int) < s.size := by omega
            have HSP : Hid (k < j ∧ TkAt s.data.toList j (done ++ [⟨1, 0, (s.data.toList.drop k).take (j - k)⟩])) := HT.out.word HDR.out hl hkj (spanAt_end HS.out (by rw [HLN.out]; omega))
            have hkj' := HSP.out.1
            have HT2 : Hid (TkAt s.data.toList j (done ++ [⟨1, 0, (s.data.toList.drop k).take (j - k)⟩])) := HSP.out.2
            clear HSP
            go_wp2_with (first
              | (at_builtin; refine wpList_append_own _ rfl _ _ 22 rfl w.heap.size 63 i0 _ 3 32 Tryd.underlying22 hi hz0 hz1 hz2 rfl (by decide) _ _ _ rfl (HO.out.alloc _) ⟨wr.heap.size, 0, none⟩ 1 1 [.int .i64 1, .int .i64 0, .string (s.extract k j)] rfl rfl (new3 _ _ _ _) (one3 _ _ _) (few_max h80) (few_bytes h80) (le_alloc hszr _) ?_)
              | (go_at_call 24; refine (kind_at _ _).mono ?_; rintro e w' ⟨rfl, rfl⟩)
              | go_in)
            · intro v' w3 hown3 hgrow _
              have HO3 : Hid (w3.ownsRow w.heap.size 63 3 v' (done.length + 1) (tcells done ++ [.int .i64 1, .int .i64 0, .string (s.extract k j)])) := hown3
              have HB3 : Hid (Below w.heap.size w w3) := (HB.out.alloc hszr _).grown hgrow (by simp; omega) (fun k hk => (HO.out.lt k hk).1)
              clear hown3 hgrow HO HB
              go_wp2
              go_roundw
              case rel =>
                refine ⟨j, done ++ [⟨1, 0, (s.data.toList.drop k).take (j - k)⟩], by omega, by go_num, ?_, HB3.out, HT2⟩
                rw [tcells_app, List.length_append]
                rw [extract_bytes] at HO3
                exact HO3.out
              case measure => simp [intOf]; omega
    · have hk1 : ¬ (k : Int) < s.size := by omega
      have HF : Hid (lineErr s.data.toList = 0 ∧ lineList s.data.toList = done) := line_done (by rw [HLN.out]; exact h) (HT.out.fin (by rw [HLN.out]; omega))
      go_wp2
      go_ret2
      refine ⟨⟨u4, by rw [HF.out.1]; rfl, ?_⟩, hB⟩
      rw [HF.out.2]
      exact hown

theorem rtokens_much (s : ByteArray) (w : World) (h : 80 < s.size) :
    Calls Tryd.prog 12 #[.string s] w fun e w' => e = .returned (.tuple #[.slice none 0 0, .int .i64 4]) ∧ w = w' := by
  have h' : (80 : Int) < s.size := by omega
  go_enter Tryd.func12, Tryd.ntmps12
  go_wp2
  go_ret2
  exact ⟨rfl, rfl⟩

theorem rtokens_any (s : ByteArray) (w : World) :
    Calls Tryd.prog 12 #[.string s] w fun e w' => TokAns w.heap.size w' s.data.toList e ∧ Below w.heap.size w w' := by
  by_cases h : s.size ≤ 80
  · exact rtokens_few s w h
  · refine (rtokens_much s w (by omega)).mono ?_
    rintro e w' ⟨rfl, rfl⟩
    have hl : 80 < s.data.toList.length := by have := size_of (rfl : s.data.toList = _); omega
    refine ⟨⟨.slice none 0 0, by rw [(line_much hl).1], ?_⟩, Below.refl _ _⟩
    rw [(line_much hl).2]
    exact World.ownsRow_nil _ _ _ _

end Go.Proofs.YtibenegbjpoclabDoor
