/- The contract of the document's own Print. -/
import Derived.Test.YtajeijhmlkbjgaaDoorPrintA
namespace Go.Proofs.YtajeijhmlkbjgaaDoor
open Go.RowKit

/-- What is printed of the first k tokens. -/
def prK (ts : List Tok) (k : Nat) : List UInt8 := Lib.join ((ts.take k).map prT) [32]

theorem prK_zero (ts : List Tok) : prK ts 0 = [] := rfl
theorem prK_all (ts : List Tok) : prK ts ts.length = printL ts := by simp [prK, printL]
theorem prK_cons (t : Tok) (r : List Tok) (j : Nat) : prK (t :: r) (j + 1) = prT t ++ Lib.joinTail [32] ((r.map prT).take j) := by
  unfold prK
  rw [List.take_succ_cons, List.map_cons, Lib.join_cons, List.map_take]
theorem prK_succ (ts : List Tok) (k : Nat) (h : k < ts.length) : prK ts (k + 1) = prK ts k ++ ((if k = 0 then [] else [32]) ++ prT ts[k]) := by
  cases ts with
  | nil => simp at h
  | cons t r =>
    cases k with
    | zero => rw [prK_cons]; simp [prK_zero, Lib.joinTail]
    | succ j =>
      have hj : j < r.length := by simpa using h
      rw [prK_cons, prK_cons, Lib.joinTail_take_succ [32] (r.map prT) j (prT r[j]) (by simp [hj])]
      simp
theorem prK_le (ts : List Tok) (k : Nat) : (prK ts k).length ≤ (printL ts).length := by
  rw [← prK_all]
  cases ts with
  | nil => simp [prK]
  | cons t r =>
    cases k with
    | zero => simp [prK_zero]
    | succ j =>
      rw [List.length_cons, prK_cons, prK_cons, List.length_append, List.length_append]
      have h1 := Lib.joinTail_take_le [32] (r.map prT) j
      have h2 : (r.map prT).take r.length = r.map prT := by rw [List.take_of_length_le (by simp)]
      rw [h2]
      omega

theorem bytes_app {x y : ByteArray} {a b : List UInt8} (hx : x.data.toList = a) (hy : y.data.toList = b) : (x ++ y).data.toList = a ++ b := by
  rw [← hx, ← hy]
  simp

set_option maxHeartbeats 1000000 in
set_option maxRecDepth 100000 in
theorem rprint_any (v : Value) (ts : List Tok) (w : World) (hG : Glob w) (hv : TReads w v ts) (hf : Fits ts) (hlen : (printL ts).length ≤ 140737488355328) :
    Calls Tryd.prog 33 #[v] w fun e w' => e = .returned (.string ⟨(printL ts).toArray⟩) ∧ Below w.heap.size w w' := by
  obtain ⟨ad, ca, rfl, hm, hca⟩ := hv
  have hG0 : Hid (Glob w) := hG
  have hsz := hG.sz
  unfold maxLen at hm
  clear hG
  go_enter Tryd.func33, Tryd.ntmps33
  go_wp2
  go_loopw [3, 8] (fun v i wr => ∃ (k : Nat) (x : ByteArray), k ≤ ts.length ∧ v = .string x ∧ i = .int .i64 k ∧ Below w.heap.size w wr ∧ Hid (x.data.toList = prK ts k)) (fun _ i _ => ts.length - (intOf i).toNat)
  case atStart => exact ⟨0, ⟨#[]⟩, Nat.zero_le _, rfl, rfl, Below.refl _ _, rfl⟩
  case round =>
    obtain ⟨k, x, hk, rfl, rfl, hB, HX⟩ := hrel
    by_cases hlt : k < ts.length
    · have hk1 : (k : Int) < ts.length := by omega
      obtain ⟨b1, o1, rfl, hl1, hc1⟩ := hca (by omega)
      obtain ⟨x0, x1, x2⟩ := hc1 k hlt
      rw [← hB.cell (by exact hl1)] at x0 x1 x2
      obtain ⟨hf0, hf1⟩ := hf k hlt
      have HS : Hid (prK ts (k + 1) = prK ts k ++ ((if k = 0 then [] else [32]) ++ (if ts[k].kind = 2 then Lib.itoa ts[k].n else ts[k].text))) := prK_succ ts k hlt
      have HB : Hid (Below w.heap.size w wr) := hB
      have hGr : Hid (Glob wr) := hG0.out.below hB hsz
      have hle := prK_le ts (k + 1)
      rw [HS.out] at hle
      simp only [List.length_append] at hle
      have hxs : x.size = (prK ts k).length := by rw [← HX.out]; exact Array.length_toList.symm
      rw [← hxs] at hle
      have hszr := hB.size
      clear hc1 hca hB hxs
      generalize ts[k].kind = kd at *
      generalize ts[k].n = nn at *
      generalize ts[k].text = tx at *
      by_cases h0 : (0 : Int) < k
      · simp only [if_neg (show ¬ k = 0 by omega)] at hle HS
        by_cases h2 : kd = 2
        · subst h2
          simp only [if_true, List.length_cons, List.length_nil, Nat.zero_add] at hle HS
          have HI : Hid ((⟨(Lib.itoa nn).toArray⟩ : ByteArray).size = (Lib.itoa nn).length) := by simp [Hid, ByteArray.size]
          have hle2 : x.size + 2 + (⟨(Lib.itoa nn).toArray⟩ : ByteArray).size ≤ 140737488355330 := by rw [HI.out]; omega
          clear hle
          go_wp2_with fail
          refine (itoa_any nn hf0 hf1 _ (hGr.out.below ((Below.refl _ _).alloc (Nat.le_refl _) _) (by omega))).mono ?_
          rintro e w2 ⟨rfl, hb2⟩
          have HB2 : Hid (Below w.heap.size w w2) := (HB.out.alloc hszr _).trans (hb2.mono (by simp; omega))
          have HN : Hid ((x ++ ⟨#[32]⟩ ++ ⟨(Lib.itoa nn).toArray⟩ : ByteArray).data.toList = prK ts (k + 1)) := by rw [HS.out, ← List.append_assoc]; exact bytes_app (bytes_app HX.out rfl) rfl
          clear hb2 HI x0 x1 x2 HB hGr
          generalize (⟨(Lib.itoa nn).toArray⟩ : ByteArray) = y at *
          go_wp2
          exact ⟨⟨k + 1, _, by omega, rfl, by go_num, HB2.out, HN.out⟩, by simp [intOf]; omega⟩
        · have h2' : (kd == 2) = false := beq_eq_false_iff_ne.2 h2
          simp only [if_neg h2, List.length_cons, List.length_nil, Nat.zero_add] at hle HS
          have HI : Hid ((⟨tx.toArray⟩ : ByteArray).size = tx.length) := by simp [Hid, ByteArray.size]
          have hle2 : x.size + 2 + (⟨tx.toArray⟩ : ByteArray).size ≤ 140737488355330 := by rw [HI.out]; omega
          have HN : Hid ((x ++ ⟨#[32]⟩ ++ ⟨tx.toArray⟩ : ByteArray).data.toList = prK ts (k + 1)) := by rw [HS.out, ← List.append_assoc]; exact bytes_app (bytes_app HX.out rfl) rfl
          have HB2 : ∀ o, Hid (Below w.heap.size w (wr.alloc o)) := fun o => HB.out.alloc hszr o
          clear hle HI h2 HB hGr
          generalize (⟨tx.toArray⟩ : ByteArray) = y at *
          go_wp2
          exact ⟨⟨k + 1, _, by omega, rfl, by go_num, (HB2 _).out, HN.out⟩, by simp [intOf]; omega⟩
      · simp only [if_pos (show k = 0 by omega)] at hle HS
        by_cases h2 : kd = 2
        · subst h2
          simp only [if_true, List.length_nil, Nat.zero_add] at hle HS
          have HI : Hid ((⟨(Lib.itoa nn).toArray⟩ : ByteArray).size = (Lib.itoa nn).length) := by simp [Hid, ByteArray.size]
          have hle2 : x.size + 1 + (⟨(Lib.itoa nn).toArray⟩ : ByteArray).size ≤ 140737488355330 := by rw [HI.out]; omega
          clear hle
          go_wp2_with fail
          refine (itoa_any nn hf0 hf1 _ (hGr.out.below ((Below.refl _ _).alloc (Nat.le_refl _) _) (by omega))).mono ?_
          rintro e w2 ⟨rfl, hb2⟩
          have HB2 : Hid (Below w.heap.size w w2) := (HB.out.alloc hszr _).trans (hb2.mono (by simp; omega))
          have HN : Hid ((x ++ ⟨(Lib.itoa nn).toArray⟩ : ByteArray).data.toList = prK ts (k + 1)) := by rw [HS.out, List.nil_append]; exact bytes_app HX.out rfl
          clear hb2 HI x0 x1 x2 HB hGr
          generalize (⟨(Lib.itoa nn).toArray⟩ : ByteArray) = y at *
          go_wp2
          exact ⟨⟨k + 1, _, by omega, rfl, by go_num, HB2.out, HN.out⟩, by simp [intOf]; omega⟩
        · have h2' : (kd == 2) = false := beq_eq_false_iff_ne.2 h2
          simp only [if_neg h2, List.length_nil, Nat.zero_add] at hle HS
          have HI : Hid ((⟨tx.toArray⟩ : ByteArray).size = tx.length) := by simp [Hid, ByteArray.size]
          have hle2 : x.size + 1 + (⟨tx.toArray⟩ : ByteArray).size ≤ 140737488355330 := by rw [HI.out]; omega
          have HN : Hid ((x ++ ⟨tx.toArray⟩ : ByteArray).data.toList = prK ts (k + 1)) := by rw [HS.out, List.nil_append]; exact bytes_app HX.out rfl
          have HB2 : ∀ o, Hid (Below w.heap.size w (wr.alloc o)) := fun o => HB.out.alloc hszr o
          clear hle HI h2 HB hGr
          generalize (⟨tx.toArray⟩ : ByteArray) = y at *
          go_wp2
          exact ⟨⟨k + 1, _, by omega, rfl, by go_num, (HB2 _).out, HN.out⟩, by simp [intOf]; omega⟩
    · have hk1 : ¬ (k : Int) < ts.length := by omega
      have hke : k = ts.length := by omega
      have HE : Hid (x = ⟨(printL ts).toArray⟩) := by
        apply ByteArray.ext
        apply Array.toList_inj.1
        rw [HX.out, hke, prK_all]
      clear hke
      go_wp2
      go_ret
      exact ⟨by rw [HE.out]; rfl, hB⟩

end Go.Proofs.YtajeijhmlkbjgaaDoor
