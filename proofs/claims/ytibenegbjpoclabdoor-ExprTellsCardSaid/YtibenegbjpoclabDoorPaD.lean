/- The contracts of isa's Signed and of package expr's leaf. -/
import Derived.Test.YtibenegbjpoclabDoorPaC
namespace Go.Proofs.YtibenegbjpoclabDoor
open Go.RowKit

theorem wrap_both (n : Int) : wrap64 (wrap32 n) = wrap32 n := by unfold wrap64 wrap32; omega

theorem signed_any (n : Int) (w : World) :
    Calls Tryd.prog 38 #[.int .i64 n] w fun e w' => e = .returned (.int .i64 (sgn n)) ∧ w = w' := by
  go_enter Tryd.func38, Tryd.ntmps38
  go_wp2
  go_ret
  refine ⟨ret_int ?_, rfl⟩
  unfold sgn
  exact wrap_both n

/-- What one token alone is. -/
def leafE (t : Tok) : Except Int Ex :=
  if t.kind = 2 then .ok (.mk 1 (sgn t.n) [] [])
  else if t.kind ≠ 1 then .error 2
  else if nameR t.text = true then .ok (.mk 2 0 t.text [])
  else .error 7
theorem leaf_cons (t : Tok) (r : List Tok) : leafR (t :: r) = match leafE t with
    | .ok e => .ok (e, r)
    | .error x => .error x := by
  unfold leafR leafE
  repeat' split
  all_goals simp_all

def exZ : Value := .agg #[.int .i64 0, .int .i64 0, .string ⟨#[]⟩, .slice none 0 0]
def leafV : Except Int Ex → Value
  | .ok e => .tuple #[exV e (.slice none 0 0), .int .i64 0]
  | .error x => .tuple #[exZ, .int .i64 x]

theorem leaf_any (t : Tok) (w : World) :
    Calls Tryd.prog 46 #[.agg #[.int .i64 t.kind, .int .i64 t.n, .string ⟨t.text.toArray⟩]] w fun e w' => e = .returned (leafV (leafE t)) ∧ Below w.heap.size w w' := by
  by_cases h2 : t.kind = 2
  · have e2 : (t.kind == 2) = true := by simpa using h2
    have HV : Hid (leafV (leafE t) = .tuple #[.agg #[.int .i64 1, .int .i64 (sgn t.n), .string ⟨#[]⟩, .slice none 0 0], .int .i64 0]) := by simp [Hid, leafV, leafE, h2, exV, Ex.kind, Ex.n, Ex.name]
    go_enter Tryd.func46, Tryd.ntmps46
    go_wp2_with (go_at_call 38; refine (signed_any _ _).mono ?_; rintro e w' ⟨rfl, rfl⟩)
    exact bodyPost_ret (v := .tuple #[.agg #[.int .i64 1, .int .i64 (sgn t.n), .string ⟨#[]⟩, .slice none 0 0], .int .i64 0]) (by simp [results, Tryd.results46, go_sem]) rfl ⟨by rw [HV.out], ((Below.refl _ _).alloc (Nat.le_refl _) _).alloc (by simp) _⟩
  · have e2 : (t.kind == 2) = false := by simpa using h2
    by_cases h1 : t.kind = 1
    · have e1 : (t.kind != 1) = false := by simp [h1]
      cases hn : nameR t.text
      · have HV : Hid (leafV (leafE t) = .tuple #[.agg #[.int .i64 0, .int .i64 0, .string ⟨#[]⟩, .slice none 0 0], .int .i64 7]) := by simp [Hid, leafV, leafE, h1, hn, exZ]
        go_enter Tryd.func46, Tryd.ntmps46
        go_wp2_with (go_at_call 57; refine (name_any _ _).mono ?_; rintro e w' ⟨rfl, rfl⟩; simp only [hn])
        exact bodyPost_ret (v := .tuple #[.agg #[.int .i64 0, .int .i64 0, .string ⟨#[]⟩, .slice none 0 0], .int .i64 7]) (by simp [results, Tryd.results46, go_sem]) rfl ⟨by rw [HV.out], ((Below.refl _ _).alloc (Nat.le_refl _) _).alloc (by simp) _⟩
      · have HV : Hid (leafV (leafE t) = .tuple #[.agg #[.int .i64 2, .int .i64 0, .string ⟨t.text.toArray⟩, .slice none 0 0], .int .i64 0]) := by simp [Hid, leafV, leafE, h1, hn, exV, Ex.kind, Ex.n, Ex.name]
        go_enter Tryd.func46, Tryd.ntmps46
        go_wp2_with (go_at_call 57; refine (name_any _ _).mono ?_; rintro e w' ⟨rfl, rfl⟩; simp only [hn])
        exact bodyPost_ret (v := .tuple #[.agg #[.int .i64 2, .int .i64 0, .string ⟨t.text.toArray⟩, .slice none 0 0], .int .i64 0]) (by simp [results, Tryd.results46, go_sem]) rfl ⟨by rw [HV.out], ((Below.refl _ _).alloc (Nat.le_refl _) _).alloc (by simp) _⟩
    · have e1 : (t.kind != 1) = true := by simp [h1]
      have HV : Hid (leafV (leafE t) = .tuple #[.agg #[.int .i64 0, .int .i64 0, .string ⟨#[]⟩, .slice none 0 0], .int .i64 2]) := by simp [Hid, leafV, leafE, h1, h2, exZ]
      go_enter Tryd.func46, Tryd.ntmps46
      go_wp2
      exact bodyPost_ret (v := .tuple #[.agg #[.int .i64 0, .int .i64 0, .string ⟨#[]⟩, .slice none 0 0], .int .i64 2]) (by simp [results, Tryd.results46, go_sem]) rfl ⟨by rw [HV.out], ((Below.refl _ _).alloc (Nat.le_refl _) _).alloc (by simp) _⟩

end Go.Proofs.YtibenegbjpoclabDoor
