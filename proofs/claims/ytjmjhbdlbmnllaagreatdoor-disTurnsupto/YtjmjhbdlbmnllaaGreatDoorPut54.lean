/- The text of bytes is of lines as asm reads them: the mathematics (DisTurns). How long dis' text is, how many lines it has, and what its rows' bytes are (DisTurns). pllaw8.DisTurns answers true. -/
import Derived.Test.YtjmjhbdlbmnllaaGreatDoorPut52
import Derived.Test.YtjmjhbdlbmnllaaGreatDoorPut20
import Derived.Test.YtjmjhbdlbmnllaaGreatDoorPut53
import Derived.Test.YtjmjhbdlbmnllaaGreatDoorPut27
import Derived.Test.YtjmjhbdlbmnllaaGreatDoorDtR
namespace Go.Proofs.YtjmjhbdlbmnllaaGreatDoor
open Go.RowKit Go.Maps Go.MapKept

/-- Half word k's row. -/
def rowD (bs : Nat → Int) (len k : Nat) : Dl :=
  if Di.toldB bs len k = true then .ins (Di.dV (Di.halfW bs k) 0).toNat (Di.dV (Di.halfW bs k) 1) (Di.dV (Di.halfW bs k) 2) (Di.dV (Di.halfW bs k) 3) (Di.goalOf bs k).toNat
  else if 2 * k + 1 < len then .num 2 (Di.halfW bs k) else .num 1 (bs (2 * k))
def numR (len : Nat) : Nat := (len + 1) / 2
def rowsD (bs : Nat → Int) (len : Nat) : List Dl := (List.range (numR len)).map (rowD bs len)
def ledD (bs : Nat → Int) (len k : Nat) : Bool := Di.ledB bs len (numR len) k

theorem dec_told {bs : Nat → Int} {len k : Nat} (h : Di.toldB bs len k = true) : ∃ (q : Nat) (n m imm : Int), Known q n m imm ∧ Isa.wrongI q n m imm = 0 ∧ Isa.encI q n m imm = Di.halfW bs k ∧ Di.dV (Di.halfW bs k) 0 = q ∧ Di.dV (Di.halfW bs k) 1 = n ∧ Di.dV (Di.halfW bs k) 2 = m ∧ Di.dV (Di.halfW bs k) 3 = imm := by
  have hd : Isa.decE (Di.halfW bs k) = 0 := by
    unfold Di.toldB at h
    simp only [Bool.and_eq_true, decide_eq_true_eq] at h
    exact h.1.2
  obtain ⟨op, n, m, imm, h1, h2, h3⟩ := Isa.turn2 hd
  obtain ⟨q, rfl, hk⟩ := known_of h2
  refine ⟨q, n, m, imm, hk, h2, h3, ?_, ?_, ?_, ?_⟩ <;> (unfold Di.dV; rw [h1]; rfl)
theorem lead_to {q : Nat} (h0 : 1 ≤ q) (h1 : q ≤ 27) : Di.toB (q : Int) = true ↔ leadS (Isa.opShape q) := by
  unfold Di.toB leadS
  rw [shape_is h0 h1]
  simp
theorem lead_iff (s : Int) : leadS s ↔ (s = 4 ∨ s = 5 ∨ s = 7 ∨ s = 8) := Iff.rfl
theorem goal_is {q : Nat} (h0 : 1 ≤ q) (h1 : q ≤ 27) (imm at' : Int) : Di.toI (q : Int) imm at' = if leadS (Isa.opShape q) then goalS (Isa.opShape q) imm at' else 0 := by
  unfold Di.toI goalS
  rw [shape_is h0 h1]
  generalize Isa.opShape q = s
  by_cases h8 : s = 8
  · rw [if_pos ((lead_iff s).2 (.inr (.inr (.inr h8)))), if_pos h8, if_neg (by omega), if_pos h8]
  · by_cases h4 : s = 4 ∨ s = 5 ∨ s = 7
    · rw [if_pos h4, if_pos ((lead_iff s).2 (by omega)), if_neg h8]
    · rw [if_neg h4, if_neg h8, if_neg (fun h => by have := (lead_iff s).1 h; omega)]
theorem goal_in {bs : Nat → Int} {len k : Nat} (h : Di.toldB bs len k = true) (hl : Di.toB (Di.dV (Di.halfW bs k) 0) = true) : 0 ≤ Di.goalOf bs k ∧ Di.goalOf bs k < len := by
  unfold Di.toldB at h
  simp only [Bool.and_eq_true, hl, Bool.true_and, Bool.not_eq_true', Bool.or_eq_false_iff, decide_eq_false_iff_not] at h
  obtain ⟨_, h1, h2⟩ := h
  omega
theorem told_two {bs : Nat → Int} {len k : Nat} (h : Di.toldB bs len k = true) : 2 * k + 1 < len := by
  unfold Di.toldB at h
  simp only [Bool.and_eq_true, decide_eq_true_eq] at h
  exact h.1.1
theorem hw_in {bs : Nat → Int} (hb : Isa.IsByte bs) (k : Nat) : 0 ≤ Di.halfW bs k ∧ Di.halfW bs k ≤ 65535 := Di.hw_bd hb k

theorem rowD_ok {bs : Nat → Int} {len : Nat} (hb : Isa.IsByte bs) (hlen : len ≤ 2000) (i : Nat) (hi : i < numR len) : RowOk (ledD bs len) (numR len) i (rowD bs len i) := by
  unfold rowD
  split
  · rename_i ht
    obtain ⟨q, n, m, imm, hk, hw, he, e0, e1, e2, e3⟩ := dec_told ht
    have hg : Di.goalOf bs i = if leadS (Isa.opShape q) then goalS (Isa.opShape q) imm ((2 * i : Nat) : Int) else 0 := by
      unfold Di.goalOf
      rw [e0, e3]
      have := goal_is hk.k0 hk.k1 imm ((2 * i : Nat) : Int)
      rw [← this]
      congr 1
    rw [e0, e1, e2, e3, Int.toNat_natCast]
    by_cases hl : leadS (Isa.opShape q)
    · have hin := goal_in ht (by rw [e0]; exact (lead_to hk.k0 hk.k1).2 hl)
      rw [if_pos hl] at hg
      have hev : Di.goalOf bs i % 2 = 0 := by rw [hg]; unfold goalS; split <;> omega
      refine ⟨hk, hw, by omega, fun _ => ⟨(Di.goalOf bs i / 2).toNat, by omega, by unfold numR; omega, ?_, ?_⟩⟩
      · unfold ledD Di.ledB
        refine List.any_eq_true.2 ⟨i, by simpa using hi, ?_⟩
        simp only [Bool.and_eq_true, decide_eq_true_eq]
        refine ⟨?_, by omega⟩
        unfold Di.leadB
        rw [ht, e0, (lead_to hk.k0 hk.k1).2 hl]
        rfl
      · rw [Int.toNat_of_nonneg hin.1, hg]
    · rw [if_neg hl] at hg
      exact ⟨hk, hw, by rw [hg]; decide, fun h => absurd h hl⟩
  · split
    · have := hw_in hb i
      exact .inl ⟨rfl, this.1, this.2⟩
    · rename_i h2
      have := hb (2 * i)
      exact .inr ⟨rfl, by unfold numR at *; omega, this.1, this.2⟩
theorem rowsD_len (bs : Nat → Int) (len : Nat) : (rowsD bs len).length = numR len := by simp [rowsD]
theorem rowsD_ok {bs : Nat → Int} {len : Nat} (hb : Isa.IsByte bs) (hlen : len ≤ 2000) : ∀ i (h : i < (rowsD bs len).length), RowOk (ledD bs len) (rowsD bs len).length i (rowsD bs len)[i] := by
  intro i hi
  have hi' : i < numR len := by rw [← rowsD_len bs len]; exact hi
  have e : (rowsD bs len)[i] = rowD bs len i := by simp [rowsD]
  rw [e, rowsD_len]
  exact rowD_ok hb hlen i hi'

/-! The text. -/
theorem glue_num (imm : Int) (r : List (Bool × Sc.Tok)) : Sc.glue (numG imm r) = Lib.itoa imm ++ Sc.glue r := by
  unfold numG
  split
  · rename_i h
    obtain ⟨u, hu, rfl⟩ : ∃ u : Nat, 1 ≤ u ∧ imm = -(u : Int) := ⟨(-imm).toNat, by omega, by omega⟩
    have e2 : Sc.prT (sgT 45) = [45] := rfl
    simp only [Sc.glue, e2, Int.neg_neg, Lib.itoa_neg u hu]
    rfl
  · rfl
theorem pl_is (p : Int) (h : 0 ≤ p) : Di.placeL p = plW p.toNat := by
  unfold Di.placeL plW Di.hexS
  rw [if_neg (by omega)]
theorem oper_glue (s n m imm p : Int) (hs : 0 ≤ s ∧ s ≤ 11) (h0 : ¬ s = 0) (hp : leadS s → 0 ≤ p) : Sc.glue (operG s n m imm p.toNat) = 32 :: Di.operL s n m imm p := by
  have hG1 := glue_num imm [(false, sgT 44), (false, wdT (regW n))]
  have hG2 := glue_num imm []
  have er : ∀ x, Di.regL x = regW x := fun _ => rfl
  have en : ∀ x, Di.numL x = 35 :: Lib.itoa x := fun _ => rfl
  have pw : ∀ l, Sc.prT (wdT l) = l := fun _ => rfl
  have ps : ∀ c, Sc.prT (sgT c) = [c] := fun _ => rfl
  have h12 : s = 1 ∨ s = 2 ∨ s = 3 ∨ s = 4 ∨ s = 5 ∨ s = 6 ∨ s = 7 ∨ s = 8 ∨ s = 9 ∨ s = 10 ∨ s = 11 := by omega
  rcases h12 with rfl | rfl | rfl | rfl | rfl | rfl | rfl | rfl | rfl | rfl | rfl
  · simp [operG, Di.operL, Sc.glue, hG1, er, en, pw, ps]
  · simp [operG, Di.operL, Sc.glue, er, pw, ps]
  · simp [operG, Di.operL, Sc.glue, er, pw]
  · simp [operG, Di.operL, Sc.glue, pw, pl_is p (hp (by simp [leadS]))]
  · simp [operG, Di.operL, Sc.glue, pw, pl_is p (hp (by simp [leadS]))]
  · simp [operG, Di.operL, Sc.glue, er, pw, ps]
  · simp [operG, Di.operL, Sc.glue, er, pw, ps, pl_is p (hp (by simp [leadS]))]
  · simp [operG, Di.operL, Sc.glue, er, pw, ps, pl_is p (hp (by simp [leadS]))]
  · simp [operG, Di.operL, Sc.glue, er, pw, ps]
  · simp [operG, Di.operL, Sc.glue, er, pw, ps]
  · simp [operG, Di.operL, Sc.glue, hG2, en, ps]
theorem name_is {q : Nat} (h0 : 1 ≤ q) (h1 : q ≤ 27) : (Isa.infoName (q : Int)).data.toList = nameN q := by
  unfold Isa.infoName nameN Isa.knownB Isa.withinB
  rw [if_pos (by simp; omega)]
theorem row_line (bs : Nat → Int) (len k : Nat) : (rowD bs len k).line.1 = Di.rowL bs len k := by
  unfold rowD Di.rowL
  split
  · rename_i ht
    obtain ⟨q, n, m, imm, hk, hw, he, e0, e1, e2, e3⟩ := dec_told ht
    have hg : Di.goalOf bs k = Di.toI (q : Int) imm (2 * (k : Int)) := by unfold Di.goalOf; rw [e0, e3]
    rw [e0, e1, e2, e3, Int.toNat_natCast]
    show Sc.glue (lineG (nameN q) (Isa.opShape q) n m imm (Di.goalOf bs k).toNat) = _
    have hpw : Sc.prT (wdT (nameN q)) = nameN q := rfl
    unfold Di.lineL
    rw [shape_is hk.k0 hk.k1, name_is hk.k0 hk.k1, ← hg]
    unfold lineG
    simp only [Sc.glue, hpw]
    split
    · rename_i hs
      rw [hs]
      simp [operG, Sc.glue]
    · rename_i hs
      rw [oper_glue (Isa.opShape q) n m imm (Di.goalOf bs k) hk.s hs (fun hl => (goal_in ht (by rw [e0]; exact (lead_to hk.k0 hk.k1).2 hl)).1)]
      simp
  · have hp : ∀ x : Int, Sc.prT ⟨2, x, []⟩ = Lib.itoa x := fun _ => rfl
    have pw : ∀ l, Sc.prT (wdT l) = l := fun _ => rfl
    split
    · show Sc.glue [(false, wdT wordN), (true, ⟨2, Di.halfW bs k, []⟩)] = _
      simp [Sc.glue, hp, pw, wordN]
    · show Sc.glue [(false, wdT byteN), (true, ⟨2, bs (2 * k), []⟩)] = _
      simp [Sc.glue, hp, pw, byteN]
theorem with_snoc (led : Nat → Bool) (d : Dl) : ∀ (r : List Dl) (k : Nat), withLabs led k (r ++ [d]) = withLabs led k r ++ (if led (k + r.length) = true then [.lab (2 * (k + r.length)), d] else [d])
  | [], k => by simp [withLabs]
  | x :: r, k => by
    have ih := with_snoc led d r (k + 1)
    rw [List.cons_append, withLabs, ih, withLabs, List.length_cons, show k + (r.length + 1) = k + 1 + r.length by omega]
    split <;> rfl
theorem srcB_app (a b : List (List UInt8 × List Sc.Tok)) : srcB (a ++ b) = srcB a ++ srcB b := by simp [srcB]
theorem text_is (bs : Nat → Int) (len : Nat) : ∀ k, Di.textTo bs len k = srcB ((withLabs (ledD bs len) 0 ((List.range k).map (rowD bs len))).map Dl.line)
  | 0 => rfl
  | k + 1 => by
    have ih := text_is bs len k
    rw [Di.textTo, ih, List.range_succ, List.map_append, List.map_cons, List.map_nil, with_snoc, List.map_append, srcB_app, List.append_assoc]
    congr 1
    have hl : 0 + ((List.range k).map (rowD bs len)).length = k := by simp
    rw [hl]
    have hr := row_line bs len k
    unfold Di.nameL
    show (if ledD bs len k = true then _ else _) ++ _ = _
    split
    · have e : (Dl.lab (2 * k)).line.1 = plW (2 * k) ++ [58] := rfl
      have e2 := pl_is (2 * (k : Int)) (by omega)
      rw [show (2 * (k : Int)).toNat = 2 * k by omega] at e2
      simp [srcB, hr, e, e2]
    · simp [srcB, hr]

end Go.Proofs.YtjmjhbdlbmnllaaGreatDoor

namespace Go.Proofs.YtjmjhbdlbmnllaaGreatDoor
open Go.RowKit Go.Maps Go.MapKept

def byteL (bs : Nat → Int) (n : Nat) : List UInt8 := (List.range n).map fun i => UInt8.ofNat (bs i).toNat
theorem lowB_byte (a : Int) (h0 : 0 ≤ a) (h1 : a ≤ 255) : lowB a = UInt8.ofNat a.toNat := by
  unfold lowB
  rw [Int.emod_eq_of_lt h0 (by omega)]
theorem half_of {bs : Nat → Int} (hb : Isa.IsByte bs) (k : Nat) : half (Di.halfW bs k) = [UInt8.ofNat (bs (2 * k)).toNat, UInt8.ofNat (bs (2 * k + 1)).toNat] := by
  have a := hb (2 * k)
  have b := hb (2 * k + 1)
  unfold half Di.halfW
  rw [show (bs (2 * k) * 256 + bs (2 * k + 1)) / 256 = bs (2 * k) by omega, lowB_byte _ a.1 a.2]
  have : lowB (bs (2 * k) * 256 + bs (2 * k + 1)) = UInt8.ofNat (bs (2 * k + 1)).toNat := by
    unfold lowB
    rw [show (bs (2 * k) * 256 + bs (2 * k + 1)) % 256 = bs (2 * k + 1) by omega]
  rw [this]
theorem row_bytes {bs : Nat → Int} (hb : Isa.IsByte bs) (len k : Nat) : (rowD bs len k).bytes = if 2 * k + 1 < len then [UInt8.ofNat (bs (2 * k)).toNat, UInt8.ofNat (bs (2 * k + 1)).toNat] else [UInt8.ofNat (bs (2 * k)).toNat] := by
  unfold rowD
  split
  · rename_i ht
    obtain ⟨q, n, m, imm, hk, hw, he, e0, e1, e2, e3⟩ := dec_told ht
    rw [if_pos (told_two ht), e0, e1, e2, e3, Int.toNat_natCast]
    show half (Isa.encI q n m imm) = _
    rw [he, half_of hb]
  · split
    · show (if (2 : Int) = 1 then [lowB (Di.halfW bs k)] else half (Di.halfW bs k)) = _
      rw [if_neg (by decide), half_of hb]
    · have := hb (2 * k)
      show (if (1 : Int) = 1 then [lowB (bs (2 * k))] else half (bs (2 * k))) = _
      rw [if_pos rfl, lowB_byte _ this.1 this.2]
theorem rows_bytes {bs : Nat → Int} (hb : Isa.IsByte bs) (len : Nat) : ∀ k, k ≤ numR len → (((List.range k).map (rowD bs len)).map Dl.bytes).flatten = byteL bs (min (2 * k) len)
  | 0, _ => by simp [byteL]
  | k + 1, h => by
    have ih := rows_bytes hb len k (by omega)
    rw [List.range_succ, List.map_append, List.map_append, List.flatten_append, ih]
    simp only [List.map_cons, List.map_nil, List.flatten_cons, List.flatten_nil, List.append_nil]
    rw [row_bytes hb]
    unfold numR at h
    split
    · rename_i h2
      rw [show min (2 * k) len = 2 * k by omega, show min (2 * (k + 1)) len = 2 * k + 1 + 1 by omega]
      unfold byteL
      rw [List.range_succ, List.range_succ, List.map_append, List.map_append, List.append_assoc]
      rfl
    · rename_i h2
      rw [show min (2 * k) len = 2 * k by omega, show min (2 * (k + 1)) len = 2 * k + 1 by omega]
      unfold byteL
      rw [List.range_succ, List.map_append]
      rfl
theorem code_is {bs : Nat → Int} (hb : Isa.IsByte bs) (len : Nat) : (obDl (ledD bs len) (rowsD bs len)).code = byteL bs len := by
  show ((rowsD bs len).map Dl.bytes).flatten = _
  unfold rowsD
  rw [rows_bytes hb len _ (Nat.le_refl _)]
  congr 1
  unfold numR
  omega

theorem rowL_pos (bs : Nat → Int) (len k : Nat) : 1 ≤ (Di.rowL bs len k).length := by
  rw [← row_line]
  unfold rowD
  split
  · rename_i ht
    obtain ⟨q, n, m, imm, hk, hw, he, e0, e1, e2, e3⟩ := dec_told ht
    rw [e0, Int.toNat_natCast]
    have hg := (name_of hk.k0 hk.k1).1
    have e : Sc.prT (wdT (nameN q)) = nameN q := rfl
    show 1 ≤ (Sc.prT (wdT (nameN q)) ++ _).length
    rw [e, List.length_append]
    have : nameN q ≠ [] := by intro h; rw [h] at hg; cases hg
    have := List.length_pos_iff.2 this
    omega
  · split
    · show 1 ≤ (Sc.prT (wdT wordN) ++ _).length
      have e : Sc.prT (wdT wordN) = wordN := rfl
      rw [e, List.length_append]
      show 1 ≤ 5 + _
      omega
    · show 1 ≤ (Sc.prT (wdT byteN) ++ _).length
      have e : Sc.prT (wdT byteN) = byteN := rfl
      rw [e, List.length_append]
      show 1 ≤ 5 + _
      omega
theorem text_long (bs : Nat → Int) (len : Nat) : ∀ k, 2 * k ≤ (Di.textTo bs len k).length
  | 0 => by simp
  | k + 1 => by
    have ih := text_long bs len k
    have := rowL_pos bs len k
    rw [Di.textTo]
    simp only [List.length_append, List.length_cons, List.length_nil]
    omega
theorem count_src : ∀ l : List (List UInt8 × List Sc.Tok), (∀ x, x ∈ l → OkL x.1 x.2) → (srcB l).count 10 = l.length
  | [], _ => rfl
  | x :: l, h => by
    have ih := count_src l fun y hy => h y (by simp [hy])
    have hx := (h x (by simp)).2.2.2.1
    have e : srcB (x :: l) = x.1 ++ ([10] ++ srcB l) := by simp [srcB]
    rw [e, List.count_append, List.count_append, ih, List.count_eq_zero_of_not_mem (fun hm => hx 10 hm rfl), List.length_cons]
    simp
    omega
/-- The lines of the text, where it is short. -/
def linesD (bs : Nat → Int) (len : Nat) : List Dl := withLabs (ledD bs len) 0 (rowsD bs len)
theorem text_lines (bs : Nat → Int) (len : Nat) : Di.textTo bs len (numR len) = srcB ((linesD bs len).map Dl.line) := text_is bs len (numR len)
theorem linesD_fine {bs : Nat → Int} (hb : Isa.IsByte bs) {len : Nat} (hl : len ≤ 1202) : ∀ d, d ∈ linesD bs len → d.fine := by
  intro d hd
  rcases with_mem (ledD bs len) (rowsD bs len) 0 d hd with hd | ⟨i, _, hi, rfl⟩
  · obtain ⟨i, hi, rfl⟩ := List.getElem_of_mem hd
    exact row_fine (rowsD_ok hb (by omega) i hi)
  · rw [rowsD_len] at hi
    show 2 * i ≤ 2000
    unfold numR at hi
    omega
theorem linesD_ok {bs : Nat → Int} (hb : Isa.IsByte bs) {len : Nat} (hl : len ≤ 1202) : ∀ x, x ∈ (linesD bs len).map Dl.line → OkL x.1 x.2 := by
  intro x hx
  obtain ⟨d, hd, rfl⟩ := List.mem_map.1 hx
  exact fine_line (linesD_fine hb hl d hd)

end Go.Proofs.YtjmjhbdlbmnllaaGreatDoor

namespace Go.Proofs.YtjmjhbdlbmnllaaGreatDoor
open Go.RowKit Go.Maps Go.MapKept

theorem byteL_len (bs : Nat → Int) (n : Nat) : (byteL bs n).length = n := by simp [byteL]
theorem bytes_rd {w : World} {ad : Option Addr} {len : Nat} (cap : Nat) {bs : Nat → Int} (h : Di.BR w ad len bs) : Sc.BReads w (.slice ad (byteL bs len).length cap) (byteL bs len) := by
  refine ⟨ad, cap, rfl, by rw [byteL_len]; have := h.few; unfold maxLen; omega, fun h0 => ?_⟩
  rw [byteL_len] at h0
  obtain ⟨b, off, e, hl, hc⟩ := h.row h0
  refine ⟨b, off, e, hl, fun i hi => ?_⟩
  rw [byteL_len] at hi
  have hb := h.byt i
  have e2 : (byteL bs len)[i]'(by rw [byteL_len]; exact hi) = UInt8.ofNat (bs i).toNat := by simp [byteL]
  rw [hc i hi, e2, UInt8.toNat_ofNat', Nat.mod_eq_of_lt (by omega), Int.toNat_of_nonneg hb.1]
theorem tn_of {w : World} {ad : Option Addr} {len : Nat} (cap : Nat) {bs : Nat → Int} (hD : Di.DL w) (hR : Di.BR w ad len bs) : Tn w (.slice ad len cap) (Di.textTo bs len (numR len)) := by
  have hl : (Di.textTo bs len (numR len)).length ≤ 1000000000 := by
    have := Di.textTo_few hR.byt len (numR len)
    have h2 := hR.few
    unfold numR at *
    omega
  refine ⟨alive8 w hD, fun W hb => Di.text_any (hD.next hb) (hR.next hb), fun W => ?_, hl⟩
  exact feeds_any ⟨(Di.textTo bs len (numR len)).toArray⟩ W (by simpa [ByteArray.size] using hl)

theorem turns_any {w : World} {ad : Option Addr} {len : Nat} (cap : Nat) {bs : Nat → Int} (hD : Di.DL w) (hA : AllLaid w) (hR : Di.BR w ad len bs) :
    Calls Tryz.prog 3 #[.slice ad len cap] w fun e w' => e = .returned (.bool true) ∧ Below w.heap.size w w' := by
  have hT := tn_of cap hD hR
  have hb : Isa.IsByte bs := hR.byt
  have htl := text_long bs len (numR len)
  have hte := text_lines bs len
  obtain ⟨S, hS⟩ : ∃ S, S = Di.textTo bs len (numR len) := ⟨_, rfl⟩
  rw [← hS] at hT htl hte
  by_cases hl : 1200 < S.length
  · exact turns_long _ S w hT (fun v W hbw hv => unit_toolong v S W hv hl (hA.next hbw).gl) hl
  have hlen : len ≤ 1200 := by unfold numR at htl; omega
  have hok := linesD_ok hb (len := len) (by omega)
  have hfine := linesD_fine hb (len := len) (by omega)
  have hcount : S.count 10 = (linesD bs len).length := by rw [hte, count_src _ hok, List.length_map]
  have hcl : S.count 10 ≤ S.length := List.count_le_length
  have hnl : ∀ (l : List (List Sc.Tok)) (k : Nat), (numLn k l).length = l.length := by
    intro l
    induction l with
    | nil => intro k; rfl
    | cons a r ih => intro k; simp [numLn, ih]
  have hP : ∀ x, x ∈ (linesD bs len).map Dl.line → x.2.length ≤ 100 ∧ PlainHead (headS (x.2.map tkOf)) := by
    intro x hx
    obtain ⟨d, hd, rfl⟩ := List.mem_map.1 hx
    exact fine_plain (hfine d hd)
  have hsrc : Sc.srcLines S = .ok (srcN ((linesD bs len).map Dl.line)) := by
    have := src_len _ hok (by rw [hte] at hl; exact Nat.not_lt.1 hl)
    rw [hte]
    exact this
  by_cases hn : 200 < S.count 10
  · exact turns_many _ S w hT (fun v W hbw hv => unit_over v S _ W hv hsrc (by rw [srcN, hnl, List.length_map, List.length_map]; omega) (by rw [srcN, hnl, List.length_map, List.length_map]; omega) (srcN_plain _ hP) (hA.next hbw).gl) (by omega) hn
  · have hgood : ∃ ob : Ob, Good w S ob ∧ ob.code = byteL bs len ∧ ob.rels = [] := by
      by_cases h0 : len = 0
      · subst h0
        refine ⟨obNil, fun v W hbw hv => ?_, rfl, rfl⟩
        have hs0 : S = [] := by rw [hS]; rfl
        rw [hs0] at hv
        exact unit_none v W (hA.next hbw) hv
      · refine ⟨obDl (ledD bs len) (rowsD bs len), fun v W hbw hv => ?_, code_is hb len, rfl⟩
        rw [hte] at hv hl hn
        have hcc := hcount
        rw [hte] at hcc
        exact unit_dl v (ledD bs len) (rowsD bs len) (rowsD_ok hb (by omega)) (by rw [rowsD_len]; unfold numR; omega) (by rw [rowsD_len]; unfold numR; omega) (by show (linesD bs len).length ≤ 200; omega) (Nat.not_lt.1 hl) W (hA.next hbw) hv
    obtain ⟨ob, hg, hc, hq⟩ := hgood
    have := turns_good ad cap (byteL bs len) S ob w (by rw [byteL_len]; exact hT) hg (bytes_rd cap hR) hc hq (by omega) (by omega)
    rw [byteL_len] at this
    exact this

end Go.Proofs.YtjmjhbdlbmnllaaGreatDoor
