/- asm: TopCall's units. asm: whole instructions alone: what comes of them; TopMacro's object. -/
import Derived.Test.YtgjmbjahgcndnaaGreatDoorPut41
import Derived.Test.YtgjmbjahgcndnaaGreatDoorPut42
import Derived.Test.YtgjmbjahgcndnaaGreatDoorPut19
namespace Go.Proofs.YtgjmbjahgcndnaaGreatDoor
open Go.RowKit Go.Maps Go.MapKept

theorem opd_opS (a : Int) (h0 : -100 ≤ a) (h1 : a ≤ 100) : (opS a).opd = ⟨⟨#[35]⟩, 0, ⟨#[]⟩, a⟩ := by
  unfold opS
  split
  · show (⟨⟨#[35]⟩, 0, ⟨#[]⟩, wrap32 (-wrap32 (-a))⟩ : Opd) = _
    rw [show wrap32 (-wrap32 (-a)) = a by unfold wrap32; omega]
  · show (⟨⟨#[35]⟩, 0, ⟨#[]⟩, wrap32 a⟩ : Opd) = _
    rw [show wrap32 a = a by unfold wrap32; omega]
theorem lab_opS (nm : List UInt8) (a : Int) (r : List OpK) (op : Int) : labelled (Ins.toks ⟨nm, opS a :: r, op⟩) = false :=
  lab_two nm (opS a) r op (by intro x m h; unfold opS at h; split at h <;> (simp [OpK.toks, sg] at h; obtain ⟨rfl, rfl⟩ := h; simp [ByteArray.toList_eq]))
def iMovS (a : Int) : Ins := ⟨[109, 111, 118], [opS a, .reg r0'], 3⟩
def iAddS (a : Int) : Ins := ⟨[97, 100, 100], [opS a, .reg r0'], 4⟩
theorem form_S (a : Int) (h0 : -100 ≤ a) (h1 : a ≤ 100) : formU ([opS a, .reg r0'].map OpK.opd) = [35, 114] := by
  simp only [List.map_cons, opd_opS a h0 h1]
  simp [formU, OpK.opd]
theorem fill_S (op a : Int) (nm : List UInt8) (h0 : -100 ≤ a) (h1 : a ≤ 100) : (Ins.mk nm [opS a, .reg r0'] op).fill = ⟨op, 0, 0, a⟩ := by
  simp only [Ins.fill, List.map_cons, opd_opS a h0 h1]
  simp [OpK.opd, fillU, ByteArray.toList_eq, kdN, kdP, reg_r0]
theorem ok_iMovS (a : Int) (h0 : -100 ≤ a) (h1 : a ≤ 100) : (iMovS a).Ok := by
  refine ⟨by show [109, 111, 118] ∉ dirs; decide, ?_, by simp [iMovS], by rw [iMovS, form_S a h0 h1]; decide, by rw [iMovS, form_S a h0 h1]; exact find_movI, by show (3 : Int) ≠ 0; decide, ?_, lab_opS _ _ _ _⟩
  · intro k hk
    simp only [iMovS, List.mem_cons, List.not_mem_nil, or_false] at hk
    rcases hk with rfl | rfl
    · exact ok_opS a
    · show 0 ≤ regU 1 r0'; rw [reg_r0]; decide
  · rw [iMovS, fill_S 3 a _ h0 h1]
    exact Si.ok_mov 0 a (.inl rfl) (by omega) (by omega)
theorem ok_iAddS (a : Int) (h0 : -100 ≤ a) (h1 : a ≤ 100) : (iAddS a).Ok := by
  refine ⟨by show [97, 100, 100] ∉ dirs; decide, ?_, by simp [iAddS], by rw [iAddS, form_S a h0 h1]; decide, by rw [iAddS, form_S a h0 h1]; exact find_addI, by show (4 : Int) ≠ 0; decide, ?_, lab_opS _ _ _ _⟩
  · intro k hk
    simp only [iAddS, List.mem_cons, List.not_mem_nil, or_false] at hk
    rcases hk with rfl | rfl
    · exact ok_opS a
    · show 0 ≤ regU 1 r0'; rw [reg_r0]; decide
  · rw [iAddS, fill_S 4 a _ h0 h1]
    exact Si.ok_addi 0 a (.inl rfl) (by omega) (by omega)
theorem it_movS (a ln : Int) (h0 : -100 ≤ a) (h1 : a ≤ 100) : (iMovS a).it ln = plainI ln 3 0 0 a := by
  have e : (iMovS a).it ln = plainI ln (iMovS a).fill.op (iMovS a).fill.n (iMovS a).fill.m (iMovS a).fill.imm := by by_cases h : a < 0 <;> simp [Ins.it, iMovS, opS, h]
  rw [e, iMovS, fill_S 3 a _ h0 h1]
theorem it_addS (a ln : Int) (h0 : -100 ≤ a) (h1 : a ≤ 100) : (iAddS a).it ln = plainI ln 4 0 0 a := by
  have e : (iAddS a).it ln = plainI ln (iAddS a).fill.op (iAddS a).fill.n (iAddS a).fill.m (iAddS a).fill.imm := by by_cases h : a < 0 <;> simp [Ins.it, iAddS, opS, h]
  rw [e, iAddS, fill_S 4 a _ h0 h1]
/-! What is asked of each item. -/
section
variable (W : World) (f : Nat → Nat) (n : Nat)
end

end Go.Proofs.YtgjmbjahgcndnaaGreatDoor

namespace Go.Proofs.YtgjmbjahgcndnaaGreatDoor
open Go.RowKit Go.Maps Go.MapKept

def itsP (L : List (Int × In)) : List It := L.map fun a => plainI a.1 a.2.op a.2.n a.2.m a.2.imm
theorem tellP : ∀ (L : List (Int × In)) (p : Int) (k : Nat), k ≤ L.length → (tellU p (itsP L)).getD k 0 = p + 2 * k
  | [], p, k, h => by
    obtain rfl : k = 0 := by simpa using h
    simp [itsP, tellU]
  | a :: L, p, 0, h => by simp [itsP, tellU]
  | a :: L, p, k + 1, h => by
    have ih := tellP L (p + 2) k (by simpa using h)
    have e : tellU p (itsP (a :: L)) = p :: tellU (p + 2) (itsP L) := by
      show p :: tellU (p + (2 + (1 - p.tmod 1).tmod 1)) (itsP L) = _
      have : (1 - p.tmod 1).tmod 1 = 0 := Int.tmod_one _
      rw [this]
      rfl
    rw [e, List.getD_cons_succ, ih]
    omega
theorem writeP (u : Un) (ps : List Int) : ∀ (L : List (Int × In)) (k : Nat) (code : List UInt8), (∀ a, a ∈ L → Isa.wrongI a.2.op a.2.n a.2.m a.2.imm = 0) → (∀ i, i ≤ L.length → ps.getD (k + i) 0 = 2 * ((k + i : Nat) : Int)) → writeU u ps k code [] (itsP L) = .ok (code ++ encsB (L.map (·.2)), [])
  | [], k, code, _, _ => by simp [itsP, writeU, encsB]
  | a :: L, k, code, hw, hp => by
    have h0 := hp 0 (by simp)
    rw [Nat.add_zero] at h0
    have ih := writeP u ps L (k + 1) (code ++ half a.2.enc) (fun b hb => hw b (by simp [hb])) (fun i hi => by
      have := hp (i + 1) (by simpa using hi)
      rw [show k + 1 + i = k + (i + 1) by omega]
      exact this)
    have hb : bytesU u ps (ps.getD k 0) (ps.getD (k + 1) 0 - ps.getD k 0) [] (plainI a.1 a.2.op a.2.n a.2.m a.2.imm) = .ok (half a.2.enc, []) := by
      show (encU a.2.op a.2.n a.2.m a.2.imm).map _ = _
      rw [enc_ok (hw a (by simp))]
      rfl
    have e : itsP (a :: L) = plainI a.1 a.2.op a.2.n a.2.m a.2.imm :: itsP L := rfl
    rw [e, writeU, if_neg (by
      rw [h0]
      show ¬ (2 * (k : Int)).tmod 2 ≠ 0
      simp [Int.mul_tmod_right]), hb]
    simp only
    rw [ih]
    simp [encsB]
theorem encsB_len : ∀ l : List In, (encsB l).length = 2 * l.length
  | [] => rfl
  | a :: l => by
    have ih := encsB_len l
    have e : encsB (a :: l) = half a.enc ++ encsB l := by simp [encsB]
    rw [e, List.length_append, ih, half_len, List.length_cons]
    omega
theorem finP (W : World) (L : List (Int × In)) (hn : L.length ≤ 1000) (hw : ∀ a, a ∈ L → Isa.wrongI a.2.op a.2.n a.2.m a.2.imm = 0) : FinE W [] (fun _ => 0) (itsP L) ⟨encsB (L.map (·.2)), [], []⟩ := by
  have hl : (itsP L).length = L.length := by simp [itsP]
  refine ⟨?_, by omega, by simp [labelAt], by simp, by simp, ?_, ?_, rfl, ⟨?_, by simp⟩⟩
  · intro i hi
    obtain ⟨a, _, rfl⟩ := List.mem_map.1 hi
    exact end_plain _ _ _ _ _ _ _ _
  · rw [hl, tellP L 0 L.length (Nat.le_refl _)]
    omega
  · have := writeP ⟨[], itsP L, fun _ => 0⟩ (tellU 0 (itsP L)) L 0 [] hw (fun i hi => by rw [Nat.zero_add, tellP L 0 i hi]; omega)
    simpa using this
  · show (encsB _).length ≤ _
    rw [encsB_len, List.length_map]
    omega

/-- TopMacro's code. -/
def macI (l : List Int) : List In := ⟨3, 0, 0, 0⟩ :: (l.map (fun n => (⟨4, 0, 0, n⟩ : In)) ++ [⟨27, 0, 0, 1⟩, ⟨27, 0, 0, 0⟩])
def obMac (l : List Int) : Ob := ⟨encsB (macI l), [], []⟩
/-- The lines that make it, from a number on: each one's number, and what it is. -/
def addK (k : Nat) : List Int → List (Int × Lk)
  | [] => []
  | n :: l => ((k : Int), ⟨none, iAddS n⟩) :: addK (k + 1) l
def ksMac (k : Nat) (l : List Int) : List (Int × Lk) := ((k : Int), ⟨none, iMovS 0⟩) :: (addK (k + 1) l ++ [(((k + 1 + l.length : Nat) : Int), ⟨none, iTr 1⟩), (((k + 2 + l.length : Nat) : Int), ⟨none, iTr 0⟩)])
def addP (k : Nat) : List Int → List (Int × In)
  | [] => []
  | n :: l => ((k : Int), ⟨4, 0, 0, n⟩) :: addP (k + 1) l
def lnMac (k : Nat) (l : List Int) : List (Int × In) := ((k : Int), ⟨3, 0, 0, 0⟩) :: (addP (k + 1) l ++ [(((k + 1 + l.length : Nat) : Int), ⟨27, 0, 0, 1⟩), (((k + 2 + l.length : Nat) : Int), ⟨27, 0, 0, 0⟩)])
theorem addP_in : ∀ (l : List Int) (k : Nat), (addP k l).map (·.2) = l.map fun n => (⟨4, 0, 0, n⟩ : In)
  | [], k => rfl
  | n :: l, k => by simp [addP, addP_in l]
theorem addP_len (l : List Int) (k : Nat) : (addP k l).length = l.length := by
  have := congrArg List.length (addP_in l k)
  simpa using this
theorem lnMac_in (k : Nat) (l : List Int) : (lnMac k l).map (·.2) = macI l := by
  simp [lnMac, macI, addP_in]
theorem addK_its : ∀ (l : List Int) (k : Nat), (∀ n, n ∈ l → -100 ≤ n ∧ n ≤ 100) → itsG (addK k l) = itsP (addP k l)
  | [], k, _ => rfl
  | n :: l, k, h => by
    have ih := addK_its l (k + 1) fun m hm => h m (by simp [hm])
    have := it_addS n k (h n (by simp)).1 (h n (by simp)).2
    simp only [itsG, itsP, addK, addP, List.map_cons] at ih ⊢
    rw [ih, this]
theorem ksMac_its (k : Nat) (l : List Int) (h : ∀ n, n ∈ l → -100 ≤ n ∧ n ≤ 100) : itsG (ksMac k l) = itsP (lnMac k l) := by
  have e := addK_its l (k + 1) h
  have e0 := it_movS 0 k (by decide) (by decide)
  simp only [itsG, itsP, ksMac, lnMac, List.map_cons, List.map_append, List.map_nil] at e ⊢
  rw [e, e0, it_tr, it_tr, show wrap32 1 = 1 by unfold wrap32; omega, show wrap32 0 = 0 by unfold wrap32; omega]
theorem addK_labs : ∀ (l : List Int) (k c : Nat), labsG c (addK k l) = []
  | [], k, c => rfl
  | n :: l, k, c => by rw [addK, labsG, addK_labs l]; rfl
theorem ksMac_labs (k : Nat) (l : List Int) (c : Nat) : labsG c (ksMac k l) = [] := by
  rw [ksMac, labsG, labsG_app, addK_labs]
  rfl
theorem mem_addP : ∀ (l : List Int) (k : Nat) (a : Int × In), a ∈ addP k l → ∃ n, n ∈ l ∧ a.2 = ⟨4, 0, 0, n⟩
  | [], k, a, h => by simp [addP] at h
  | n :: l, k, a, h => by
    simp only [addP, List.mem_cons] at h
    rcases h with rfl | h
    · exact ⟨n, by simp, rfl⟩
    · obtain ⟨m, hm, e⟩ := mem_addP l (k + 1) a h
      exact ⟨m, by simp [hm], e⟩
theorem mem_addK : ∀ (l : List Int) (k : Nat) (a : Int × Lk), a ∈ addK k l → ∃ n, n ∈ l ∧ a.2 = ⟨none, iAddS n⟩
  | [], k, a, h => by simp [addK] at h
  | n :: l, k, a, h => by
    simp only [addK, List.mem_cons] at h
    rcases h with rfl | h
    · exact ⟨n, by simp, rfl⟩
    · obtain ⟨m, hm, e⟩ := mem_addK l (k + 1) a h
      exact ⟨m, by simp [hm], e⟩
theorem addK_len (l : List Int) : ∀ k, (addK k l).length = l.length := by
  induction l with
  | nil => intro k; rfl
  | cons n l ih => intro k; simp [addK, ih]
theorem addI_wrong (n : Int) (h0 : -100 ≤ n) (h1 : n ≤ 100) : Isa.wrongI 4 0 0 n = 0 := by
  have a : Isa.layLow (Isa.opShape 4) = -128 := rfl
  have b : Isa.layHigh (Isa.opShape 4) = 127 := rfl
  unfold Isa.wrongI
  rw [if_pos (by decide), a, b, if_pos ⟨by decide, by decide, by simp [Isa.withinB]; omega⟩]
theorem finMac (W : World) (k : Nat) (l : List Int) (hl : l.length ≤ 12) (h : ∀ n, n ∈ l → -100 ≤ n ∧ n ≤ 100) : FinE W (labsG 0 (ksMac k l)) (fun _ => 0) (itsG (ksMac k l)) (obMac l) := by
  rw [ksMac_labs, ksMac_its k l h]
  have := finP W (lnMac k l) (by simp [lnMac, addP_len]; omega) (fun a ha => by
    simp only [lnMac, List.mem_cons, List.mem_append, List.not_mem_nil, or_false] at ha
    rcases ha with rfl | ha | rfl | rfl
    · kernel_rfl
    · obtain ⟨n, hn, e⟩ := mem_addP l _ a ha
      rw [e]
      exact addI_wrong n (h n hn).1 (h n hn).2
    · kernel_rfl
    · kernel_rfl)
  rw [lnMac_in] at this
  exact this
theorem ksMac_ok (k : Nat) (l : List Int) (h : ∀ n, n ∈ l → -100 ≤ n ∧ n ≤ 100) : ∀ a, a ∈ ksMac k l → a.2.Ok ∧ a.2.lab = none := by
  intro a ha
  simp only [ksMac, List.mem_cons, List.mem_append, List.not_mem_nil, or_false] at ha
  rcases ha with rfl | ha | rfl | rfl
  · exact ⟨⟨ok_iMovS 0 (by decide) (by decide), by simp⟩, rfl⟩
  · obtain ⟨n, hn, e⟩ := mem_addK l _ a ha
    rw [e]
    exact ⟨⟨ok_iAddS n (h n hn).1 (h n hn).2, by simp⟩, rfl⟩
  · exact ⟨⟨ok_iTr 1 (by kernel_rfl), by simp⟩, rfl⟩
  · exact ⟨⟨ok_iTr 0 (by kernel_rfl), by simp⟩, rfl⟩
theorem ksMac_len (k : Nat) (l : List Int) : (ksMac k l).length = l.length + 3 := by simp [ksMac, addK_len]

end Go.Proofs.YtgjmbjahgcndnaaGreatDoor
