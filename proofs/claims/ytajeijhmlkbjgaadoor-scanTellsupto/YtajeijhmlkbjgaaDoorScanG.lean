/- The contract of scan's number. -/
import Derived.Test.YtajeijhmlkbjgaaDoorScanF
namespace Go.Proofs.YtajeijhmlkbjgaaDoor
open Go.RowKit

theorem parseN_le (base : Nat) : ∀ (l : List UInt8) (acc u : Nat), acc ≤ 4294967295 → parseN base acc l = some u → u ≤ 4294967295
  | [], acc, u, ha, h => by simp [parseN] at h; omega
  | c :: r, acc, u, _, h => by
    unfold parseN at h
    split at h
    · cases h
    · split at h
      · rename_i d _ hle
        exact parseN_le base r _ u hle h
      · cases h

theorem parseU_le {base u : Nat} {l : List UInt8} (h : parseU base l = some u) : u ≤ 4294967295 := by
  unfold parseU at h
  split at h
  · cases h
  · exact parseN_le base l 0 u (by omega) h

def tokV (t : Tok) : Value := .agg #[.int .i64 t.kind, .int .i64 t.n, .string ⟨t.text.toArray⟩]
def tokZ : Value := .agg #[.int .i64 0, .int .i64 0, .string ⟨#[]⟩]

theorem trimPrefix_yes {l : List UInt8} (h : Lib.hasPrefix l [48, 120] = true) : Lib.trimPrefix l [48, 120] = l.drop 2 := by
  simp [Lib.trimPrefix, h]

theorem bcell {W w1 : World} (hb : Below W.heap.size W w1) : (∀ b o, b < W.heap.size → w1.cell? ⟨b, o, none⟩ = W.cell? ⟨b, o, none⟩) ∧ (∀ b o, b < W.heap.size → w1.frozen? ⟨b, o, none⟩ = W.frozen? ⟨b, o, none⟩) :=
  ⟨fun b o h => hb.cell (p := ⟨b, o, none⟩) h, fun b o h => hb.frozen (p := ⟨b, o, none⟩) h⟩

def CutsTo (s d : ByteArray) (b : Bool) : Prop := ∀ w, Calls Tryd.prog 74 #[.string s, .string ⟨#[48, 120]⟩] w fun e w' => e = .returned (.tuple #[.string d, .bool b]) ∧ w' = w
def PuOk (s : ByteArray) (base n : Int) : Prop := ∀ w, Calls Tryd.prog 75 #[.string s, .int .i64 base, .int .i64 32] w fun e w' => e = .returned (.tuple #[.int .u64 n, .nilIface]) ∧ Below w.heap.size w w'
def PuNo (s : ByteArray) (base : Int) : Prop := ∀ w, Glob w → Calls Tryd.prog 75 #[.string s, .int .i64 base, .int .i64 32] w fun e w' => ∃ x N, e = .returned (.tuple #[.int .u64 x, .iface 134 (.pointer (some ⟨N, 0, none⟩))]) ∧ Below w.heap.size w w'

theorem number_hex_ok (s d : ByteArray) (n : Nat) (hn : (n : Int) ≤ 4294967295) (hcp : CutsTo s d true) (h : PuOk d 16 n) (w : World) :
    Calls Tryd.prog 63 #[.string s] w fun e w' => e = .returned (.tuple #[tokV ⟨2, n, []⟩, .int .i64 0]) ∧ Below w.heap.size w w' := by
  go_enter Tryd.func63, Tryd.ntmps63
  go_wp2_with (go_at_call 74; refine (hcp _).mono ?_; rintro e w' ⟨rfl, rfl⟩)
  refine (h _).mono ?_
  rintro e w1 ⟨rfl, hb⟩
  obtain ⟨hc, hf⟩ := bcell hb
  have hB : Hid (Below w.heap.size w w1) := ((Below.refl _ _).alloc (Nat.le_refl _) _).trans (hb.mono (by simp))
  clear hb
  go_wp2
  refine bodyPost_ret (v := .tuple #[tokV ⟨2, n, []⟩, .int .i64 0]) (by simp [results, Tryd.results63, go_sem, hc, tokV]) rfl ⟨rfl, ?_⟩
  exact ((hB.out.setCell (by simp) _).setCell (by simp) _).setCell (by simp) _

theorem number_dec_ok (s d : ByteArray) (n : Nat) (hn : (n : Int) ≤ 4294967295) (hcp : CutsTo s d false) (h : PuOk s 10 n) (w : World) :
    Calls Tryd.prog 63 #[.string s] w fun e w' => e = .returned (.tuple #[tokV ⟨2, n, []⟩, .int .i64 0]) ∧ Below w.heap.size w w' := by
  go_enter Tryd.func63, Tryd.ntmps63
  go_wp2_with (go_at_call 74; refine (hcp _).mono ?_; rintro e w' ⟨rfl, rfl⟩)
  refine (h _).mono ?_
  rintro e w1 ⟨rfl, hb⟩
  obtain ⟨hc, hf⟩ := bcell hb
  have hB : Hid (Below w.heap.size w w1) := ((Below.refl _ _).alloc (Nat.le_refl _) _).trans (hb.mono (by simp))
  clear hb
  go_wp2
  refine bodyPost_ret (v := .tuple #[tokV ⟨2, n, []⟩, .int .i64 0]) (by simp [results, Tryd.results63, go_sem, hc, tokV]) rfl ⟨rfl, ?_⟩
  exact ((hB.out.setCell (by simp) _).setCell (by simp) _).setCell (by simp) _

theorem number_hex_no (s d : ByteArray) (hcp : CutsTo s d true) (h : PuNo d 16) (w : World) (hG : Glob w) :
    Calls Tryd.prog 63 #[.string s] w fun e w' => e = .returned (.tuple #[tokZ, .int .i64 2]) ∧ Below w.heap.size w w' := by
  go_enter Tryd.func63, Tryd.ntmps63
  go_wp2_with (go_at_call 74; refine (hcp _).mono ?_; rintro e w' ⟨rfl, rfl⟩)
  refine (h _ (hG.below ((Below.refl _ _).alloc (Nat.le_refl _) _) hG.sz)).mono ?_
  rintro e w1 ⟨x, N, rfl, hb⟩
  obtain ⟨hc, hf⟩ := bcell hb
  have hB : Hid (Below w.heap.size w w1) := ((Below.refl _ _).alloc (Nat.le_refl _) _).trans (hb.mono (by simp))
  clear hb hG
  go_wp2
  refine bodyPost_ret (v := .tuple #[tokZ, .int .i64 2]) (by simp [results, Tryd.results63, go_sem, hc, tokZ]) rfl ⟨rfl, ?_⟩
  exact ((hB.out.setCell (by simp) _).setCell (by simp) _).setCell (by simp) _

theorem number_dec_no (s d : ByteArray) (hcp : CutsTo s d false) (h : PuNo s 10) (w : World) (hG : Glob w) :
    Calls Tryd.prog 63 #[.string s] w fun e w' => e = .returned (.tuple #[tokZ, .int .i64 2]) ∧ Below w.heap.size w w' := by
  go_enter Tryd.func63, Tryd.ntmps63
  go_wp2_with (go_at_call 74; refine (hcp _).mono ?_; rintro e w' ⟨rfl, rfl⟩)
  refine (h _ (hG.below ((Below.refl _ _).alloc (Nat.le_refl _) _) hG.sz)).mono ?_
  rintro e w1 ⟨x, N, rfl, hb⟩
  obtain ⟨hc, hf⟩ := bcell hb
  have hB : Hid (Below w.heap.size w w1) := ((Below.refl _ _).alloc (Nat.le_refl _) _).trans (hb.mono (by simp))
  clear hb hG
  go_wp2
  refine bodyPost_ret (v := .tuple #[tokZ, .int .i64 2]) (by simp [results, Tryd.results63, go_sem, hc, tokZ]) rfl ⟨rfl, ?_⟩
  exact ((hB.out.setCell (by simp) _).setCell (by simp) _).setCell (by simp) _

theorem cutsTo_any (s : ByteArray) : CutsTo s ⟨(Lib.trimPrefix s.data.toList [48, 120]).toArray⟩ (Lib.hasPrefix s.data.toList [48, 120]) := by
  intro w
  refine (Tryd.strings_CutPrefix s ⟨#[48, 120]⟩ w).mono ?_
  rintro e w' ⟨rfl, rfl⟩
  exact ⟨rfl, rfl⟩

/-- What number answers, as a value. -/
def numV (l : List UInt8) : Value := match numL l with
  | none => .tuple #[tokZ, .int .i64 2]
  | some n => .tuple #[tokV ⟨2, n, []⟩, .int .i64 0]

theorem number_any (s : ByteArray) (hs : s.size ≤ 281474976710656) (w : World) (hG : Glob w) :
    Calls Tryd.prog 63 #[.string s] w fun e w' => e = .returned (numV s.data.toList) ∧ Below w.heap.size w w' := by
  have hcp := cutsTo_any s
  cases hp : Lib.hasPrefix s.data.toList [48, 120]
  · rw [hp] at hcp
    have hn : numL s.data.toList = parseU 10 s.data.toList := by simp [numL, hp]
    cases h : parseU 10 s.data.toList with
    | none =>
      rw [show numV s.data.toList = .tuple #[tokZ, .int .i64 2] by simp [numV, hn, h]]
      exact number_dec_no s _ hcp (fun w hG => pu10_no s hs h w hG) w hG
    | some n =>
      rw [show numV s.data.toList = .tuple #[tokV ⟨2, n, []⟩, .int .i64 0] by simp [numV, hn, h]]
      exact number_dec_ok s _ n (by have := parseU_le h; omega) hcp (fun w => pu10_ok s hs n h w) w
  · rw [hp, trimPrefix_yes hp] at hcp
    have hn : numL s.data.toList = parseU 16 (s.data.toList.drop 2) := by simp [numL, hp]
    obtain ⟨d, hd⟩ : ∃ d : ByteArray, d = ⟨(s.data.toList.drop 2).toArray⟩ := ⟨_, rfl⟩
    have hdl : d.data.toList = s.data.toList.drop 2 := by rw [hd]
    have hds : d.size ≤ 281474976710656 := by
      have h1 : d.data.toList.length = d.size := Array.length_toList
      have h2 : s.data.toList.length = s.size := Array.length_toList
      rw [hdl, List.length_drop] at h1
      omega
    rw [← hd] at hcp
    rw [← hdl] at hn
    cases h : parseU 16 d.data.toList with
    | none =>
      rw [show numV s.data.toList = .tuple #[tokZ, .int .i64 2] by simp [numV, hn, h]]
      exact number_hex_no s d hcp (fun w hG => pu16_no d hds h w hG) w hG
    | some n =>
      rw [show numV s.data.toList = .tuple #[tokV ⟨2, n, []⟩, .int .i64 0] by simp [numV, hn, h]]
      exact number_hex_ok s d n (by have := parseU_le h; omega) hcp (fun w => pu16_ok d hds n h w) w

end Go.Proofs.YtajeijhmlkbjgaaDoor
