/- All parsers, by what is left to be read; expression, and Parse. -/
import Derived.Test.YtibenegbjpoclabDoorPaK
namespace Go.Proofs.YtibenegbjpoclabDoor
open Go.RowKit

set_option maxHeartbeats 1000000 in
theorem level_zero (B : Nat) (V : Value) (ts : List Tok) (c : Nat) (h : SingleOK B V ts c) : LevelOK B V ts 0 c := by
  intro deep w v f0 caps0 hd hR hE hv hv0
  obtain ⟨a1, a2, rfl, h1, h2, c1, c2⟩ := hv
  injection hv0 with e1 _ e2
  injection e1 with e1
  subst e1 e2
  have hBw := hR.lt
  have hl1 : a1 < w.heap.size := World.block_lt_of_cell? w _ c1
  have hl2 : a2 < w.heap.size := World.block_lt_of_cell? w _ c2
  show Calls Tryd.prog 31 #[.int .i64 deep, .pointer (some ⟨a1, 0, none⟩), .pointer (some ⟨a2, 0, none⟩)] w _
  go_enter Tryd.func31, Tryd.ntmps31
  go_wp2_with fail
  refine (h deep _ hd (hR.alloc _) (hE.keep (galloc _ _ _))).mono ?_
  rintro e w1 ⟨⟨r, hr, ha⟩, hg⟩
  have hv1 := (var4_new w (.int .i64 0) (.int .i64 0) (.string ⟨#[]⟩) (.slice none 0 0) 25).by hg (by omega) (by simp)
  obtain ⟨⟨x0, x1, x2, x3⟩, f0, f1, f2, f3⟩ := hv1
  have HG : Hid (w.grownBy w1 (some B)) := gtrans (galloc _ _ _) hg
  have HL : Hid (Lv 6 deep (ts.drop c) r) := .six hr
  clear hg hr h hR hE
  cases r with
  | error y =>
    obtain ⟨a, b, s, ad, n, m, c', rfl, hy, hR⟩ := ha
    have HR : Hid (Rdr w1 B ts c') := hR
    have HY : Hid (y ≠ 0) := hy
    clear hy hR
    go_wp2
    exact bodyPost_ret (v := .tuple #[.agg #[.int .i64 a, .int .i64 b, .string s, .slice ad n m], .int .i64 y]) (by simp [results, Tryd.results31, go_sem, x0, x1, x2, x3]) rfl
      ⟨⟨_, HL.out, _, _, _, _, _, _, _, rfl, HY.out, HR.out.put4 hBw⟩, gput4 HG.out (Nat.le_refl _)⟩
  | ok q =>
    obtain ⟨x, l⟩ := q
    obtain ⟨kv, c', rfl, hkr, hR, rfl, hc'⟩ := ha
    obtain ⟨ad, m, rfl⟩ := hkr.shape
    have HR : Hid (Rdr w1 B ts c') := hR
    have HK : Hid (KR w1 (fun b => w.heap.size < b) (.slice ad x.kids.length m) x.kids) := hkr.weak fun b hb _ => by simp at hb; omega
    clear hkr hR
    simp only [exV]
    go_wp2
    exact bodyPost_ret (v := .tuple #[.agg #[.int .i64 x.kind, .int .i64 x.n, .string ⟨x.name.toArray⟩, .slice ad x.kids.length m], .int .i64 0]) (by simp [results, Tryd.results31, go_sem, x0, x1, x2, x3]) rfl
      ⟨⟨_, HL.out, _, _, rfl, (HK.out.set4p (fun b hb => by omega)).weak (fun b hb _ => Nat.le_of_lt hb), HR.out.put4 hBw, rfl, hc'⟩, gput4 HG.out (Nat.le_refl _)⟩

theorem all_ok (B : Nat) (V : Value) (ts : List Tok) : ∀ (n c : Nat), ts.length - c < n → SingleOK B V ts c ∧ ∀ m, m ≤ 5 → LevelOK B V ts m c
  | 0, c, h => by omega
  | n + 1, c, h => by
    have later : ∀ c', c < c' → c' ≤ ts.length → SingleOK B V ts c' ∧ ∀ m, m ≤ 5 → LevelOK B V ts m c' := fun c' h1 h2 => all_ok B V ts n c' (by omega)
    have out : ∀ c', ts.length < c' → SingleOK B V ts c' ∧ ∀ m, m ≤ 5 → LevelOK B V ts m c' := fun c' h1 =>
      ⟨fun deep w _ hR _ => absurd hR.le (by omega), fun m _ deep w v f caps _ hR _ _ _ => absurd hR.le (by omega)⟩
    have both : ∀ c', c < c' → SingleOK B V ts c' ∧ ∀ m, m ≤ 5 → LevelOK B V ts m c' := fun c' h1 => by
      by_cases h2 : c' ≤ ts.length
      · exact later c' h1 h2
      · exact out c' (by omega)
    have hs := single_step B V ts c (fun c' h1 => (both c' h1).1) (fun c' h1 => (both c' h1).2 5 (by omega))
    refine ⟨hs, ?_⟩
    intro m
    induction m with
    | zero => exact fun _ => level_zero B V ts c hs
    | succ m ih => exact fun hm => chain_step B V ts m c (by omega) (ih (by omega)) (fun c' h1 => (both c' h1).2 m (by omega))

theorem chain_any (B s : Nat) (v : Value) (hv : ∃ f caps, v = .func (.func f) #[] caps) (w : World) :
    Calls Tryd.prog 33 #[.pointer (some ⟨B, 0, none⟩), v, .int .i64 s] w fun e w' =>
      e = .returned (.func (.func 47) #[] #[.pointer (some ⟨w.heap.size + 1, 0, none⟩), .pointer (some ⟨w.heap.size, 0, none⟩), .pointer (some ⟨w.heap.size + 2, 0, none⟩)]) ∧
      w' = ((w.alloc (.cells #[.pointer (some ⟨B, 0, none⟩)] 84)).alloc (.cells #[v] 48)).alloc (.cells #[.int .i64 s] 3) := by
  obtain ⟨f, caps, rfl⟩ := hv
  have hmf : ∀ (fn : Fn) (first cap : Array Value) (w : World), (Instr.makeFunc fn first cap).run Tryd.prog w = .ok (.func fn first cap) w := fun _ _ _ _ => rfl
  go_enter Tryd.func33, Tryd.ntmps33
  go_wp2
  go_ret
  exact ⟨rfl, rfl⟩

end Go.Proofs.YtibenegbjpoclabDoor
