/- Contracts of the small functions of package scan: bytes' classes by name, span, the closures cut and take. -/
import Derived.Test.YtajeijhmlkbjgaaDoorSpec
import Derived.Test.YtajeijhmlkbjgaaDoorShelf
import Derived.Laws.EntriesVeiled
import Derived.Maps.AppendAt
namespace Go.Proofs.YtajeijhmlkbjgaaDoor
open Go.RowKit

theorem index9 (s : ByteArray) (k : Nat) (i : Int) (hi : i = (k : Int)) (hk : k < s.size) (w : World) : (Instr.index 9 (.string s) (.int .i64 i)).run Tryd.prog w = .ok (.int .u8 (s[k].toNat : Int)) w := by
  subst hi
  simp [Instr.index, run_underlying Tryd.underlying9, asIntOf, hk]

def Enters1 (f : FuncId) : Prop := ∀ args w, (callFunc f args).run Tryd.prog w = .ok (.enter f args) w
def Asks (f : FuncId) (p : Int → Bool) : Prop := ∀ (c : UInt8) (w : World), Calls Tryd.prog f #[.int .u8 (c.toNat : Int)] w fun e w' => e = .returned (.bool (p c.toNat)) ∧ w' = w

def spanL (p : Int → Bool) (l : List UInt8) : Nat := (l.takeWhile (pb p)).length

theorem spanL_le (p : Int → Bool) : ∀ l : List UInt8, spanL p l ≤ l.length
  | [] => by simp [spanL]
  | c :: r => by
    have := spanL_le p r
    simp only [spanL, List.takeWhile_cons] at this ⊢
    split <;> simp <;> omega

theorem drop_at {s : ByteArray} {k : Nat} (hk : k < s.size) : s.data.toList.drop k = s[k] :: s.data.toList.drop (k + 1) := by
  have h : k < s.data.toList.length := by simpa using hk
  rw [List.drop_eq_getElem_cons h]
  rfl

theorem spanL_yes {p : Int → Bool} {s : ByteArray} {k : Nat} (hk : k < s.size) (hp : p s[k].toNat = true) (h : spanL p s.data.toList = k + spanL p (s.data.toList.drop k)) :
    spanL p s.data.toList = (k + 1) + spanL p (s.data.toList.drop (k + 1)) := by
  rw [h, drop_at hk]
  have hp' : pb p s[k] = true := hp
  simp only [spanL, List.takeWhile_cons, hp', if_true, List.length_cons]
  omega

theorem spanL_no {p : Int → Bool} {s : ByteArray} {k : Nat} (hk : k < s.size) (hp : p s[k].toNat = false) (h : spanL p s.data.toList = k + spanL p (s.data.toList.drop k)) :
    spanL p s.data.toList = k := by
  rw [h, drop_at hk]
  have hp' : pb p s[k] = false := hp
  simp [spanL, hp']

theorem spanL_end {p : Int → Bool} {s : ByteArray} {k : Nat} (hk : s.size ≤ k) (h : spanL p s.data.toList = k + spanL p (s.data.toList.drop k)) : spanL p s.data.toList = k := by
  rw [h, List.drop_eq_nil_of_le (by simpa using hk)]
  simp [spanL]

theorem span_any (s : ByteArray) (f : FuncId) (p : Int → Bool) (w : World) (hs : s.size ≤ 9223372036854775000) (he : Enters1 f) (hp : Asks f p) :
    Calls Tryd.prog 51 #[.string s, .func (.func f) #[] #[]] w fun e w' => e = .returned (.int .i64 (spanL p s.data.toList)) ∧ w' = w := by
  unfold Enters1 at he
  go_enter Tryd.func51, Tryd.ntmps51
  go_wp2
  go_loop [5] (fun i => ∃ k : Nat, k ≤ s.size ∧ i = .int .i64 k ∧ Hid (spanL p s.data.toList = k + spanL p (s.data.toList.drop k))) (fun i => s.size - (intOf i).toNat)
  case atStart => exact ⟨0, Nat.zero_le _, rfl, by simp [Hid]⟩
  case round =>
    obtain ⟨k, hk, rfl, HS⟩ := hrel
    by_cases hlt : k < s.size
    · have hk1 : (k : Int) < s.size := by omega
      have hidx := index9 s k k rfl hlt
      cases hb : p (s[k].toNat : Int)
      · go_wp2_with fail
        refine (hp _ _).mono ?_
        rintro e w1 ⟨rfl, rfl⟩
        simp only [hb]
        go_wp2
        go_ret
        exact ⟨ret_int (by rw [spanL_no hlt hb HS.out]), rfl⟩
      · go_wp2_with fail
        refine (hp _ _).mono ?_
        rintro e w1 ⟨rfl, rfl⟩
        simp only [hb]
        go_wp2
        exact ⟨⟨k + 1, by omega, by go_num, spanL_yes hlt hb HS.out⟩, by simp [intOf]; omega⟩
    · have hk1 : ¬ (k : Int) < s.size := by omega
      go_wp2
      go_ret
      exact ⟨ret_int (by rw [spanL_end (by omega) HS.out]), rfl⟩

theorem cut_any (s : ByteArray) (n : Nat) (B : Nat) (w : World) (hn : n ≤ s.size) (hc : w.cell? ⟨B, 0, none⟩ = some (.string s)) (hf : w.frozen? ⟨B, 0, none⟩ = false) :
    Calls Tryd.prog 58 #[.int .i64 n, .pointer (some ⟨B, 0, none⟩)] w fun e w' => e = .returned (.string (s.extract 0 n)) ∧ w' = w.setCell ⟨B, 0, none⟩ (.string (s.extract n s.size)) := by
  go_enter Tryd.func58, Tryd.ntmps58
  go_wp2
  go_ret
  exact ⟨rfl, rfl⟩

theorem inWord_any (c : UInt8) (w : World) :
    Calls Tryd.prog 62 #[.int .u8 (c.toNat : Int)] w fun e w' => e = .returned (.bool (wordB c.toNat)) ∧ w' = w := by
  cases h1 : letterB c.toNat
  · cases h2 : digitB c.toNat
    · go_enter Tryd.func62, Tryd.ntmps62
      go_wp2_with (first | (go_at_call 53; refine (letter_any _ _).mono ?_; rintro e w' ⟨rfl, rfl⟩; simp only [h1]) | (go_at_call 50; refine (digit_any _ _).mono ?_; rintro e w' ⟨rfl, rfl⟩; simp only [h2]))
      go_ret
      exact ⟨ret_bool (by simp [wordB, h1, h2]; rfl), rfl⟩
    · go_enter Tryd.func62, Tryd.ntmps62
      go_wp2_with (first | (go_at_call 53; refine (letter_any _ _).mono ?_; rintro e w' ⟨rfl, rfl⟩; simp only [h1]) | (go_at_call 50; refine (digit_any _ _).mono ?_; rintro e w' ⟨rfl, rfl⟩; simp only [h2]))
      go_ret
      exact ⟨ret_bool (by simp [wordB, h1, h2]), rfl⟩
  · go_enter Tryd.func62, Tryd.ntmps62
    go_wp2_with (go_at_call 53; refine (letter_any _ _).mono ?_; rintro e w' ⟨rfl, rfl⟩; simp only [h1])
    go_ret
    exact ⟨ret_bool (by simp [wordB, h1]), rfl⟩

end Go.Proofs.YtajeijhmlkbjgaaDoor
