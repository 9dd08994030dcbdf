/- The table of package expr, its reader in memory, and the contracts of takeSign and takeKind. The contracts of isSign and of the reader's takeSign. The contract of the reader's takeKind. The contracts of isa's Signed and of package expr's leaf. -/
import Derived.Test.YtgjmbjahgcndnaaGreatDoorPut9
import Derived.Laws.Rows
namespace Go.Proofs.YtgjmbjahgcndnaaGreatDoor.Xp
open Go.RowKit

/-- The columns of the table 'kinds'. -/
def kKids (k : Int) : Int := [0, 0, 0, 1, 1, 2, 2, 2, 2, 2, 2, 2].getD k.toNat 0
def kSign (k : Int) : List UInt8 := [[], [], [], [45], [126], [42], [43], [45], [60, 60], [62, 62], [38], [124]].getD k.toNat []
def kStr (k : Int) : Int := [0, 0, 0, 0, 0, 5, 4, 4, 3, 3, 2, 1].getD k.toNat 0
def kCells : Array Value := ((List.range 12).flatMap fun k => [.int .i64 (kKids k), .string ⟨(kSign k).toArray⟩, .int .i64 (kStr k)]).toArray

/-- The table lies in memory as the text lays it. -/
structure KLaid (w : World) : Prop where
  sz : 11 < w.heap.size
  blk : ∃ t fr, w.heap[11]? = some (.cells kCells t fr)
  k0 : ∀ s : Int, 0 ≤ s → s ≤ 11 → w.cell? ⟨11, s.toNat * 3, none⟩ = some (.int .i64 (kKids s))
  k1 : ∀ s : Int, 0 ≤ s → s ≤ 11 → w.cell? ⟨11, s.toNat * 3 + 1, none⟩ = some (.string ⟨(kSign s).toArray⟩)
  k2 : ∀ s : Int, 0 ≤ s → s ≤ 11 → w.cell? ⟨11, s.toNat * 3 + 2, none⟩ = some (.int .i64 (kStr s))

theorem KLaid.below {B : Nat} {w w' : World} (h : KLaid w) (hb : Below B w w') (hB : 11 < B) : KLaid w' where
  sz := Nat.lt_of_lt_of_le h.sz hb.size
  blk := by rw [hb.block 11 (by omega)]; exact h.blk
  k0 s a b := by rw [hb.cell (by exact hB)]; exact h.k0 s a b
  k1 s a b := by rw [hb.cell (by exact hB)]; exact h.k1 s a b
  k2 s a b := by rw [hb.cell (by exact hB)]; exact h.k2 s a b

set_option maxRecDepth 100000 in
theorem kIndexAll (w : World) : ((List.range 12).map fun k : Nat => (Instr.index 377 (.agg kCells) (.int .i64 (k : Int))).run Tryz.prog w) = (List.range 12).map fun k : Nat => .ok (.agg #[.int .i64 (kKids k), .string ⟨(kSign k).toArray⟩, .int .i64 (kStr k)]) w := by kernel_rfl
theorem kIndex (k : Nat) (hk : k < 12) (w : World) : (Instr.index 377 (.agg kCells) (.int .i64 (k : Int))).run Tryz.prog w = .ok (.agg #[.int .i64 (kKids k), .string ⟨(kSign k).toArray⟩, .int .i64 (kStr k)]) w := by
  have h := congrArg (fun l => l[k]?) (kIndexAll w)
  simpa [hk] using h
theorem kSize : (Tryz.prog.info? 377).map (·.size) = some kCells.size := by kernel_rfl

/-- Whether the next token is that sign. -/
def signIs (l : List Tok) (s : List UInt8) : Bool := match l with
  | [] => false
  | t :: _ => decide (t.kind = 3 ∧ t.text = s)

end Go.Proofs.YtgjmbjahgcndnaaGreatDoor.Xp

namespace Go.Proofs.YtgjmbjahgcndnaaGreatDoor.Xp
open Go.RowKit

theorem bytes_beq (a : List UInt8) (s : ByteArray) : (a == s.toList) = decide (a = s.data.toList) := by
  rw [ByteArray.toList_eq]
  exact Bool.eq_iff_iff.2 (by simp)

/-- Whether a token is that sign. -/
def signT (t : Tok) (s : List UInt8) : Bool := decide (t.kind = 3 ∧ t.text = s)
theorem isSign_any (t : Tok) (s : ByteArray) (w : World) :
    Calls Tryz.prog 251 #[.agg #[.int .i64 t.kind, .int .i64 t.n, .string ⟨t.text.toArray⟩], .string s] w fun e w' => e = .returned (.bool (signT t s.data.toList)) ∧ Below w.heap.size w w' := by
  obtain ⟨kd, n, tx⟩ := t
  by_cases h3 : kd = 3
  · have HV : Hid (signT ⟨kd, n, tx⟩ s.data.toList = (tx == s.toList)) := by
      unfold Hid signT
      rw [bytes_beq]
      simp [h3]
    subst h3
    go_enter Tryz.func251, Tryz.ntmps251
    go_wp2
    go_ret
    exact ⟨by rw [HV.out]; rfl, (Below.refl _ _).alloc (Nat.le_refl _) _⟩
  · have e3 : (kd == 3) = false := by simp [h3]
    have HV : Hid (signT ⟨kd, n, tx⟩ s.data.toList = false) := by simp [Hid, signT, h3]
    go_enter Tryz.func251, Tryz.ntmps251
    go_wp2
    go_ret
    exact ⟨by rw [HV.out]; rfl, (Below.refl _ _).alloc (Nat.le_refl _) _⟩

end Go.Proofs.YtgjmbjahgcndnaaGreatDoor.Xp

namespace Go.Proofs.YtgjmbjahgcndnaaGreatDoor.Xp
open Go.RowKit

/-- Which kind, from k on, has so many Kids, is so strong, and has the next token as its sign: 0, if none has. -/
def kindFrom (kids st : Int) (l : List Tok) : Nat → Nat → Int
  | 0, _ => 0
  | f + 1, k => if kKids k = kids ∧ kStr k = st ∧ signIs l (kSign k) = true then (k : Int) else kindFrom kids st l f (k + 1)

/-- Which kind, from k on, has so many Kids, and has the token as its sign: 0, if none has. -/
def kindFromT (kids : Int) (t : Tok) : Nat → Nat → Int
  | 0, _ => 0
  | f + 1, k => if kKids k = kids ∧ signT t (kSign k) = true then (k : Int) else kindFromT kids t f (k + 1)
theorem kindT_yes {kids : Int} {t : Tok} {k : Nat} (hk : k < 12) (hf : kindFromT kids t 12 0 = kindFromT kids t (12 - k) k) (h : kKids k = kids ∧ signT t (kSign k) = true) : kindFromT kids t 12 0 = (k : Int) := by
  rw [hf]
  obtain ⟨j, hj⟩ : ∃ j, 12 - k = j + 1 := ⟨11 - k, by omega⟩
  rw [hj]
  unfold kindFromT
  rw [if_pos h]
theorem kindT_no {kids : Int} {t : Tok} {k : Nat} (hk : k < 12) (hf : kindFromT kids t 12 0 = kindFromT kids t (12 - k) k) (h : ¬ (kKids k = kids ∧ signT t (kSign k) = true)) : kindFromT kids t 12 0 = kindFromT kids t (12 - (k + 1)) (k + 1) := by
  rw [hf]
  obtain ⟨j, hj⟩ : ∃ j, 12 - k = j + 1 := ⟨11 - k, by omega⟩
  have hj' : 12 - (k + 1) = j := by omega
  rw [hj, hj']
  rw [kindFromT, if_neg h]
def kindT (kids : Int) (t : Tok) : Int := kindFromT kids t 12 0

/-- The token's box. -/
def TBox (w : World) (R : Nat) (t : Tok) : Prop := w.cell? ⟨R, 0, none⟩ = some (.int .i64 t.kind) ∧ w.cell? ⟨R, 1, none⟩ = some (.int .i64 t.n) ∧ w.cell? ⟨R, 2, none⟩ = some (.string ⟨t.text.toArray⟩)
theorem TBox.below {w w' : World} {R B : Nat} {t : Tok} (h : TBox w R t) (hb : Below B w w') (hR : R < B) : TBox w' R t :=
  ⟨by rw [hb.cell (by exact hR)]; exact h.1, by rw [hb.cell (by exact hR)]; exact h.2.1, by rw [hb.cell (by exact hR)]; exact h.2.2⟩
theorem tbox_new (w : World) (t : Tok) (ty : TypeId) : TBox (w.alloc (.cells #[.int .i64 t.kind, .int .i64 t.n, .string ⟨t.text.toArray⟩] ty)) w.heap.size t := by
  have h := heap_alloc_new w (.cells #[.int .i64 t.kind, .int .i64 t.n, .string ⟨t.text.toArray⟩] ty)
  refine ⟨?_, ?_, ?_⟩ <;> simp only [World.cell?, h] <;> rfl
theorem balloc (w : World) (o : Obj) : Below w.heap.size w (w.alloc o) := (Below.refl _ _).alloc (Nat.le_refl _) _

set_option maxHeartbeats 2000000 in
theorem kindOf_any (t : Tok) (kids : Int) (w : World) (hL : KLaid w) :
    Calls Tryz.prog 249 #[.agg #[.int .i64 t.kind, .int .i64 t.n, .string ⟨t.text.toArray⟩], .int .i64 kids] w fun e w' => e = .returned (.int .i64 (kindT kids t)) ∧ Below w.heap.size w w' := by
  obtain ⟨tt, fr, hblk0⟩ := hL.blk
  have hsz := hL.sz
  have hblk : ∀ O : Obj, (w.alloc O).heap[11]? = some (.cells kCells tt fr) := fun O => ((balloc w O).block 11 hsz).trans hblk0
  clear hblk0
  go_enter Tryz.func249, Tryz.ntmps249
  go_wp2_with (refine wpList_load_row rfl 377 _ rfl 11 rfl tt kCells fr _ (hblk _) Tryz.underlying377 rfl kSize ?_)
  clear hblk hL
  go_loopw [8] (fun i wr => ∃ k : Nat, k ≤ 12 ∧ i = .int .i64 k ∧ Hid (TBox wr w.heap.size t) ∧ w.heap.size < wr.heap.size ∧ Hid (Below w.heap.size w wr) ∧ Hid (kindFromT kids t 12 0 = kindFromT kids t (12 - k) k)) (fun i _ => 12 - (intOf i).toNat)
  case atStart => exact ⟨0, Nat.zero_le _, rfl, tbox_new _ _ _, by simp, balloc _ _, rfl⟩
  case round =>
    obtain ⟨k, hk, rfl, HT, hz, HB, HF⟩ := hrel
    by_cases hlt : k < 12
    · have hi := kIndex k hlt
      have hk' : (k : Int) < 12 := by omega
      obtain ⟨q0, q1, q2⟩ := HT.out
      have hN : ∀ O : Obj, Hid (TBox (wr.alloc O) w.heap.size t) ∧ w.heap.size < (wr.alloc O).heap.size ∧ Hid (Below w.heap.size w (wr.alloc O)) := fun O => ⟨HT.out.below (balloc wr O) hz, by simp; omega, HB.out.trans ((balloc wr O).mono (by omega))⟩
      have HN : Hid (∀ O : Obj, Hid (TBox (wr.alloc O) w.heap.size t) ∧ w.heap.size < (wr.alloc O).heap.size ∧ Hid (Below w.heap.size w (wr.alloc O))) := hN
      clear hN HT HB
      by_cases h1 : kKids k = kids
      · have e1 : (kKids k == kids) = true := by simpa using h1
        have HCall : Hid (∀ W, Calls Tryz.prog 251 #[.agg #[.int .i64 t.kind, .int .i64 t.n, .string ⟨t.text.toArray⟩], .string ⟨(kSign k).toArray⟩] W fun e w' => e = .returned (.bool (signT t (kSign k))) ∧ Below W.heap.size W w') := fun W => isSign_any t ⟨(kSign k).toArray⟩ W
        cases h3 : signT t (kSign k)
        · have HN2 : Hid (kindFromT kids t 12 0 = kindFromT kids t (12 - (k + 1)) (k + 1)) := kindT_no hlt HF.out (by simp [h3])
          clear HF
          go_wp2_with (go_at_call 251; refine (HCall.out _).mono ?_; rintro e w2 ⟨rfl, hb2⟩; rw [h3]; have HB2 : Hid (Below _ _ w2) := hb2; clear hb2)
          obtain ⟨n1, n2, n3⟩ := HN.out (.cells #[.int .i64 kids, .string ⟨(kSign k).toArray⟩, .int .i64 (kStr k)] 376)
          have hz2 : w.heap.size < wr.heap.size + 1 := by omega
          exact ⟨⟨k + 1, by omega, by go_num, n1.out.below HB2.out (by simpa using hz2), Nat.lt_of_lt_of_le n2 HB2.out.size, n3.out.trans (HB2.out.mono (by simpa using Nat.le_of_lt hz2)), HN2⟩, by simp [intOf]; omega⟩
        · have HN2 : Hid (kindT kids t = (k : Int)) := kindT_yes hlt HF.out ⟨h1, h3⟩
          clear HF
          go_wp2_with (go_at_call 251; refine (HCall.out _).mono ?_; rintro e w2 ⟨rfl, hb2⟩; rw [h3]; have HB2 : Hid (Below _ _ w2) := hb2; clear hb2)
          go_ret
          rw [HN2.out]
          obtain ⟨n1, n2, n3⟩ := HN.out (.cells #[.int .i64 kids, .string ⟨(kSign k).toArray⟩, .int .i64 (kStr k)] 376)
          have hz2 : w.heap.size < wr.heap.size + 1 := by omega
          exact ⟨rfl, n3.out.trans (HB2.out.mono (by simpa using Nat.le_of_lt hz2))⟩
      · have e1 : (kKids k == kids) = false := by simpa using h1
        have HN2 : Hid (kindFromT kids t 12 0 = kindFromT kids t (12 - (k + 1)) (k + 1)) := kindT_no hlt HF.out (by simp [h1])
        clear HF
        go_wp2
        obtain ⟨n1, n2, n3⟩ := HN.out (.cells #[.int .i64 (kKids k), .string ⟨(kSign k).toArray⟩, .int .i64 (kStr k)] 376)
        exact ⟨⟨k + 1, by omega, by go_num, n1, n2, n3, HN2⟩, by simp [intOf]; omega⟩
    · have hk' : ¬ (k : Int) < 12 := by omega
      have HX : Hid (kindT kids t = 0) := by
        unfold Hid kindT
        rw [HF.out, show 12 - k = 0 by omega]; rfl
      clear HF
      go_wp2
      go_ret
      rw [HX.out]
      exact ⟨rfl, HB.out⟩

end Go.Proofs.YtgjmbjahgcndnaaGreatDoor.Xp

namespace Go.Proofs.YtgjmbjahgcndnaaGreatDoor.Xp
open Go.RowKit

theorem wrap_both (n : Int) : wrap64 (wrap32 n) = wrap32 n := by unfold wrap64 wrap32; omega

theorem signed_any (n : Int) (w : World) :
    Calls Tryz.prog 58 #[.int .i64 n] w fun e w' => e = .returned (.int .i64 (sgn n)) ∧ w = w' := by
  go_enter Tryz.func58, Tryz.ntmps58
  go_wp2
  go_ret
  refine ⟨ret_int ?_, rfl⟩
  unfold sgn
  exact wrap_both n

/-- What one token alone is. -/
def leafE (t : Tok) : Except Int Ex :=
  if t.kind = 2 then .ok (.mk 1 (sgn t.n) [] [])
  else if t.kind ≠ 1 then .error 2
  else if nameR t.text = true then .ok (.mk 2 0 t.text [])
  else .error 7
theorem leaf_cons (t : Tok) (r : List Tok) : leafR (t :: r) = match leafE t with
    | .ok e => .ok (e, r)
    | .error x => .error x := by
  unfold leafR leafE
  repeat' split
  all_goals simp_all

def exZ : Value := .agg #[.int .i64 0, .int .i64 0, .string ⟨#[]⟩, .slice none 0 0]
def leafV : Except Int Ex → Value
  | .ok e => .tuple #[exV e (.slice none 0 0), .int .i64 0]
  | .error x => .tuple #[exZ, .int .i64 x]

theorem leaf_any (t : Tok) (w : World) :
    Calls Tryz.prog 253 #[.agg #[.int .i64 t.kind, .int .i64 t.n, .string ⟨t.text.toArray⟩]] w fun e w' => e = .returned (leafV (leafE t)) ∧ Below w.heap.size w w' := by
  by_cases h2 : t.kind = 2
  · have e2 : (t.kind == 2) = true := by simpa using h2
    have HV : Hid (leafV (leafE t) = .tuple #[.agg #[.int .i64 1, .int .i64 (sgn t.n), .string ⟨#[]⟩, .slice none 0 0], .int .i64 0]) := by simp [Hid, leafV, leafE, h2, exV, Ex.kind, Ex.n, Ex.name]
    go_enter Tryz.func253, Tryz.ntmps253
    go_wp2_with (go_at_call 58; refine (signed_any _ _).mono ?_; rintro e w' ⟨rfl, rfl⟩)
    exact bodyPost_ret (v := .tuple #[.agg #[.int .i64 1, .int .i64 (sgn t.n), .string ⟨#[]⟩, .slice none 0 0], .int .i64 0]) (by simp [results, Tryz.results253, go_sem]) rfl ⟨by rw [HV.out], ((Below.refl _ _).alloc (Nat.le_refl _) _).alloc (by simp) _⟩
  · have e2 : (t.kind == 2) = false := by simpa using h2
    by_cases h1 : t.kind = 1
    · have e1 : (t.kind != 1) = false := by simp [h1]
      cases hn : nameR t.text
      · have HV : Hid (leafV (leafE t) = .tuple #[.agg #[.int .i64 0, .int .i64 0, .string ⟨#[]⟩, .slice none 0 0], .int .i64 7]) := by simp [Hid, leafV, leafE, h1, hn, exZ]
        go_enter Tryz.func253, Tryz.ntmps253
        go_wp2_with (go_at_call 75; refine (name_any _ _).mono ?_; rintro e w' ⟨rfl, rfl⟩; simp only [hn])
        exact bodyPost_ret (v := .tuple #[.agg #[.int .i64 0, .int .i64 0, .string ⟨#[]⟩, .slice none 0 0], .int .i64 7]) (by simp [results, Tryz.results253, go_sem]) rfl ⟨by rw [HV.out], ((Below.refl _ _).alloc (Nat.le_refl _) _).alloc (by simp) _⟩
      · have HV : Hid (leafV (leafE t) = .tuple #[.agg #[.int .i64 2, .int .i64 0, .string ⟨t.text.toArray⟩, .slice none 0 0], .int .i64 0]) := by simp [Hid, leafV, leafE, h1, hn, exV, Ex.kind, Ex.n, Ex.name]
        go_enter Tryz.func253, Tryz.ntmps253
        go_wp2_with (go_at_call 75; refine (name_any _ _).mono ?_; rintro e w' ⟨rfl, rfl⟩; simp only [hn])
        exact bodyPost_ret (v := .tuple #[.agg #[.int .i64 2, .int .i64 0, .string ⟨t.text.toArray⟩, .slice none 0 0], .int .i64 0]) (by simp [results, Tryz.results253, go_sem]) rfl ⟨by rw [HV.out], ((Below.refl _ _).alloc (Nat.le_refl _) _).alloc (by simp) _⟩
    · have e1 : (t.kind != 1) = true := by simp [h1]
      have HV : Hid (leafV (leafE t) = .tuple #[.agg #[.int .i64 0, .int .i64 0, .string ⟨#[]⟩, .slice none 0 0], .int .i64 2]) := by simp [Hid, leafV, leafE, h1, h2, exZ]
      go_enter Tryz.func253, Tryz.ntmps253
      go_wp2
      exact bodyPost_ret (v := .tuple #[.agg #[.int .i64 0, .int .i64 0, .string ⟨#[]⟩, .slice none 0 0], .int .i64 2]) (by simp [results, Tryz.results253, go_sem]) rfl ⟨by rw [HV.out], ((Below.refl _ _).alloc (Nat.le_refl _) _).alloc (by simp) _⟩

end Go.Proofs.YtgjmbjahgcndnaaGreatDoor.Xp
