import Derived.Test.YtgjmbjahgcndnaaGreatDoorPut43
import Derived.Test.YtgjmbjahgcndnaaGreatDoorPut19
namespace Go.Proofs.YtgjmbjahgcndnaaGreatDoor
open Go.RowKit Go.Maps Go.MapKept
theorem qGv (a : Int) (h0 : -100 <= a) (h1 : a <= 100) : (opS a).opd = ⟨⟨#[35]⟩, 0, ⟨#[]⟩, a⟩ := by
 unfold opS
 split
 ·show (⟨⟨#[35]⟩, 0, ⟨#[]⟩, wrap32 (-wrap32 (-a))⟩ : Opd) = _
  rw [show wrap32 (-wrap32 (-a)) = a by unfold wrap32; omega]
 ·show (⟨⟨#[35]⟩, 0, ⟨#[]⟩, wrap32 a⟩ : Opd) = _
  rw [show wrap32 a = a by unfold wrap32; omega]
theorem qKy (nm : List UInt8) (a : Int) (r : List OpK) (op : Int) : labelled (Ins.toks ⟨nm, opS a :: r, op⟩) = false :=
 qFE nm (opS a) r op (by intro x m h; unfold opS at h; split at h <;> (simp [OpK.toks, sg] at h; obtain ⟨rfl, rfl⟩ := h; simp [ByteArray.toList_eq]))
def qCA (a : Int) : Ins := ⟨[109, 111, 118], [opS a, .reg r0'], 3⟩
def qAx (a : Int) : Ins := ⟨[97, 100, 100], [opS a, .reg r0'], 4⟩
theorem qIF (a : Int) (h0 : -100 <= a) (h1 : a <= 100) : qAq ([opS a, .reg r0'].map OpK.opd) = [35, 114] := by
 simp only [List.map_cons, qGv a h0 h1]
 simp [qAq, OpK.opd]
theorem qHy (op a : Int) (nm : List UInt8) (h0 : -100 <= a) (h1 : a <= 100) : (Ins.mk nm [opS a, .reg r0'] op).fill = ⟨op, 0, 0, a⟩ := by
 simp only [Ins.fill, List.map_cons, qGv a h0 h1]
 simp [OpK.opd, qx, ByteArray.toList_eq, kdN, kdP, qCn]
theorem ok_iMovS (a : Int) (h0 : -100 <= a) (h1 : a <= 100) : (qCA a).Ok := by
 refine ⟨by show [109, 111, 118] ∉ dirs; decide, ?_, by simp [qCA], by rw [qCA, qIF a h0 h1]; decide, by rw [qCA, qIF a h0 h1]; exact qF6, by show (3 : Int) ≠ 0; decide, ?_, qKy _ _ _ _⟩
 ·intro k hk
  simp only [qCA, List.mem_cons, List.not_mem_nil, or_false] at hk
  rcases hk with rfl | rfl
  ·exact ok_opS a
  ·show 0 <= regU 1 r0'; rw [qCn]; decide
 ·rw [qCA, qHy 3 a _ h0 h1]
  exact Si.qLN 0 a (.inl rfl) (by omega) (by omega)
theorem qHV (a : Int) (h0 : -100 <= a) (h1 : a <= 100) : (qAx a).Ok := by
 refine ⟨by show [97, 100, 100] ∉ dirs; decide, ?_, by simp [qAx], by rw [qAx, qIF a h0 h1]; decide, by rw [qAx, qIF a h0 h1]; exact qFb, by show (4 : Int) ≠ 0; decide, ?_, qKy _ _ _ _⟩
 ·intro k hk
  simp only [qAx, List.mem_cons, List.not_mem_nil, or_false] at hk
  rcases hk with rfl | rfl
  ·exact ok_opS a
  ·show 0 <= regU 1 r0'; rw [qCn]; decide
 ·rw [qAx, qHy 4 a _ h0 h1]
  exact Si.qKS 0 a (.inl rfl) (by omega) (by omega)
theorem it_movS (a ln : Int) (h0 : -100 <= a) (h1 : a <= 100) : (qCA a).it ln = qAf ln 3 0 0 a := by
 have e : (qCA a).it ln = qAf ln (qCA a).fill.op (qCA a).fill.n (qCA a).fill.m (qCA a).fill.imm := by by_cases h : a < 0 <;> simp [Ins.it, qCA, opS, h]
 rw [e, qCA, qHy 3 a _ h0 h1]
theorem it_addS (a ln : Int) (h0 : -100 <= a) (h1 : a <= 100) : (qAx a).it ln = qAf ln 4 0 0 a := by
 have e : (qAx a).it ln = qAf ln (qAx a).fill.op (qAx a).fill.n (qAx a).fill.m (qAx a).fill.imm := by by_cases h : a < 0 <;> simp [Ins.it, qAx, opS, h]
 rw [e, qAx, qHy 4 a _ h0 h1]
section
variable (W : World) (f : Nat -> Nat) (n : Nat)
end
def itsP (L : List (Int × In)) : List It := L.map fun a => qAf a.1 a.2.op a.2.n a.2.m a.2.imm
theorem tellP : ∀ (L : List (Int × In)) (p : Int) (k : Nat), k <= L.length -> (qAL p (itsP L)).getD k 0 = p + 2 * k
 | [], p, k, h => by
   obtain rfl : k = 0 := by simpa using h
   simp [itsP, qAL]
 | a :: L, p, 0, h => by simp [itsP, qAL]
 | a :: L, p, k + 1, h => by
   have ih := tellP L (p + 2) k (by simpa using h)
   have e : qAL p (itsP (a :: L)) = p :: qAL (p + 2) (itsP L) := by
    show p :: qAL (p + (2 + (1 - p.tmod 1).tmod 1)) (itsP L) = _
    have : (1 - p.tmod 1).tmod 1 = 0 := Int.tmod_one _
    rw [this]
    rfl
   rw [e, List.getD_cons_succ, ih]
   omega
theorem writeP (u : Un) (ps : List Int) : ∀ (L : List (Int × In)) (k : Nat) (code : List UInt8), (∀ a, a ∈ L -> Isa.qV a.2.op a.2.n a.2.m a.2.imm = 0) -> (∀ i, i <= L.length -> ps.getD (k + i) 0 = 2 * ((k + i : Nat) : Int)) -> qBT u ps k code [] (itsP L) = .ok (code ++ qAo (L.map (·.2)), [])
 | [], k, code, _, _ => by simp [itsP, qBT, qAo]
 | a :: L, k, code, hw, hp => by
   have h0 := hp 0 (by simp)
   rw [Nat.add_zero] at h0
   have ih := writeP u ps L (k + 1) (code ++ half a.2.enc) (fun b hb => hw b (by simp [hb])) (fun i hi => by
    have := hp (i + 1) (by simpa using hi)
    rw [show k + 1 + i = k + (i + 1) by omega]
    exact this)
   have hb : qDx u ps (ps.getD k 0) (ps.getD (k + 1) 0 - ps.getD k 0) [] (qAf a.1 a.2.op a.2.n a.2.m a.2.imm) = .ok (half a.2.enc, []) := by
    show (encU a.2.op a.2.n a.2.m a.2.imm).map _ = _
    rw [enc_ok (hw a (by simp))]
    rfl
   have e : itsP (a :: L) = qAf a.1 a.2.op a.2.n a.2.m a.2.imm :: itsP L := rfl
   rw [e, qBT, if_neg (by
    rw [h0]
    show ¬ (2 * (k : Int)).tmod 2 ≠ 0
    simp [Int.mul_tmod_right]), hb]
   simp only
   rw [ih]
   simp [qAo]
theorem qDA : ∀ l : List In, (qAo l).length = 2 * l.length
 | [] => rfl
 | a :: l => by
   have ih := qDA l
   have e : qAo (a :: l) = half a.enc ++ qAo l := by simp [qAo]
   rw [e, List.length_append, ih, half_len, List.length_cons]
   omega
theorem finP (W : World) (L : List (Int × In)) (hn : L.length <= 1000) (hw : ∀ a, a ∈ L -> Isa.qV a.2.op a.2.n a.2.m a.2.imm = 0) : FinE W [] (fun _ => 0) (itsP L) ⟨qAo (L.map (·.2)), [], []⟩ := by
 have hl : (itsP L).length = L.length := by simp [itsP]
 refine ⟨?_, by omega, by simp [qAX], by simp, by simp, ?_, ?_, rfl, ⟨?_, by simp⟩⟩
 ·intro i hi
  obtain ⟨a, _, rfl⟩ := List.mem_map.1 hi
  exact qF4 _ _ _ _ _ _ _ _
 ·rw [hl, tellP L 0 L.length (Nat.le_refl _)]
  omega
 ·have := writeP ⟨[], itsP L, fun _ => 0⟩ (qAL 0 (itsP L)) L 0 [] hw (fun i hi => by rw [Nat.zero_add, tellP L 0 i hi]; omega)
  simpa using this
 ·show (qAo _).length <= _
  rw [qDA, List.length_map]
  omega
def macI (l : List Int) : List In := ⟨3, 0, 0, 0⟩ :: (l.map (fun n => (⟨4, 0, 0, n⟩ : In)) ++ [⟨27, 0, 0, 1⟩, ⟨27, 0, 0, 0⟩])
def qCT (l : List Int) : Ob := ⟨qAo (macI l), [], []⟩
def addK (k : Nat) : List Int -> List (Int × Lk)
 | [] => []
 | n :: l => ((k : Int), ⟨none, qAx n⟩) :: addK (k + 1) l
def qBI (k : Nat) (l : List Int) : List (Int × Lk) := ((k : Int), ⟨none, qCA 0⟩) :: (addK (k + 1) l ++ [(((k + 1 + l.length : Nat) : Int), ⟨none, iTr 1⟩), (((k + 2 + l.length : Nat) : Int), ⟨none, iTr 0⟩)])
def addP (k : Nat) : List Int -> List (Int × In)
 | [] => []
 | n :: l => ((k : Int), ⟨4, 0, 0, n⟩) :: addP (k + 1) l
def qGd (k : Nat) (l : List Int) : List (Int × In) := ((k : Int), ⟨3, 0, 0, 0⟩) :: (addP (k + 1) l ++ [(((k + 1 + l.length : Nat) : Int), ⟨27, 0, 0, 1⟩), (((k + 2 + l.length : Nat) : Int), ⟨27, 0, 0, 0⟩)])
theorem qHK : ∀ (l : List Int) (k : Nat), (addP k l).map (·.2) = l.map fun n => (⟨4, 0, 0, n⟩ : In)
 | [], k => rfl
 | n :: l, k => by simp [addP, qHK l]
theorem addP_len (l : List Int) (k : Nat) : (addP k l).length = l.length := by
 have := congrArg List.length (qHK l k)
 simpa using this
theorem lnMac_in (k : Nat) (l : List Int) : (qGd k l).map (·.2) = macI l := by
 simp [qGd, macI, qHK]
theorem qIC : ∀ (l : List Int) (k : Nat), (∀ n, n ∈ l -> -100 <= n /\ n <= 100) -> itsG (addK k l) = itsP (addP k l)
 | [], k, _ => rfl
 | n :: l, k, h => by
   have ih := qIC l (k + 1) fun m hm => h m (by simp [hm])
   have := it_addS n k (h n (by simp)).1 (h n (by simp)).2
   simp only [itsG, itsP, addK, addP, List.map_cons] at ih ⊢
   rw [ih, this]
theorem qLn (k : Nat) (l : List Int) (h : ∀ n, n ∈ l -> -100 <= n /\ n <= 100) : itsG (qBI k l) = itsP (qGd k l) := by
 have e := qIC l (k + 1) h
 have e0 := it_movS 0 k (by decide) (by decide)
 simp only [itsG, itsP, qBI, qGd, List.map_cons, List.map_append, List.map_nil] at e ⊢
 rw [e, e0, it_tr, it_tr, show wrap32 1 = 1 by unfold wrap32; omega, show wrap32 0 = 0 by unfold wrap32; omega]
theorem qFP : ∀ (l : List Int) (k c : Nat), qAv c (addK k l) = []
 | [], k, c => rfl
 | n :: l, k, c => by rw [addK, qAv, qFP l]; rfl
theorem qJK (k : Nat) (l : List Int) (c : Nat) : qAv c (qBI k l) = [] := by
 rw [qBI, qAv, qGE, qFP]
 rfl
theorem qHf : ∀ (l : List Int) (k : Nat) (a : Int × In), a ∈ addP k l -> ∃ n, n ∈ l /\ a.2 = ⟨4, 0, 0, n⟩
 | [], k, a, h => by simp [addP] at h
 | n :: l, k, a, h => by
   simp only [addP, List.mem_cons] at h
   rcases h with rfl | h
   ·exact ⟨n, by simp, rfl⟩
   ·obtain ⟨m, hm, e⟩ := qHf l (k + 1) a h
    exact ⟨m, by simp [hm], e⟩
theorem qFG : ∀ (l : List Int) (k : Nat) (a : Int × Lk), a ∈ addK k l -> ∃ n, n ∈ l /\ a.2 = ⟨none, qAx n⟩
 | [], k, a, h => by simp [addK] at h
 | n :: l, k, a, h => by
   simp only [addK, List.mem_cons] at h
   rcases h with rfl | h
   ·exact ⟨n, by simp, rfl⟩
   ·obtain ⟨m, hm, e⟩ := qFG l (k + 1) a h
    exact ⟨m, by simp [hm], e⟩
theorem addK_len (l : List Int) : ∀ k, (addK k l).length = l.length := by
 induction l with
 | nil => intro k; rfl
 | cons n l ih => intro k; simp [addK, ih]
theorem qJW (n : Int) (h0 : -100 <= n) (h1 : n <= 100) : Isa.qV 4 0 0 n = 0 := by
 have a : Isa.qu (Isa.qF 4) = -128 := rfl
 have b : Isa.qU (Isa.qF 4) = 127 := rfl
 unfold Isa.qV
 rw [if_pos (by decide), a, b, if_pos ⟨by decide, by decide, by simp [Isa.qP]; omega⟩]
theorem finMac (W : World) (k : Nat) (l : List Int) (hl : l.length <= 12) (h : ∀ n, n ∈ l -> -100 <= n /\ n <= 100) : FinE W (qAv 0 (qBI k l)) (fun _ => 0) (itsG (qBI k l)) (qCT l) := by
 rw [qJK, qLn k l h]
 have := finP W (qGd k l) (by simp [qGd, addP_len]; omega) (fun a ha => by
  simp only [qGd, List.mem_cons, List.mem_append, List.not_mem_nil, or_false] at ha
  rcases ha with rfl | ha | rfl | rfl
  ·kernel_rfl
  ·obtain ⟨n, hn, e⟩ := qHf l _ a ha
   rw [e]
   exact qJW n (h n hn).1 (h n hn).2
  ·kernel_rfl
  ·kernel_rfl)
 rw [lnMac_in] at this
 exact this
theorem ksMac_ok (k : Nat) (l : List Int) (h : ∀ n, n ∈ l -> -100 <= n /\ n <= 100) : ∀ a, a ∈ qBI k l -> a.2.Ok /\ a.2.lab = none := by
 intro a ha
 simp only [qBI, List.mem_cons, List.mem_append, List.not_mem_nil, or_false] at ha
 rcases ha with rfl | ha | rfl | rfl
 ·exact ⟨⟨ok_iMovS 0 (by decide) (by decide), by simp⟩, rfl⟩
 ·obtain ⟨n, hn, e⟩ := qFG l _ a ha
  rw [e]
  exact ⟨⟨qHV n (h n hn).1 (h n hn).2, by simp⟩, rfl⟩
 ·exact ⟨⟨qEY 1 (by kernel_rfl), by simp⟩, rfl⟩
 ·exact ⟨⟨qEY 0 (by kernel_rfl), by simp⟩, rfl⟩
theorem qDz (k : Nat) (l : List Int) : (qBI k l).length = l.length + 3 := by simp [qBI, addK_len]
end Go.Proofs.YtgjmbjahgcndnaaGreatDoor
