/- The contract of scan's Tokens: the loop. -/
import Derived.Test.YtajeijhmlkbjgaaDoorScanJ
namespace Go.Proofs.YtajeijhmlkbjgaaDoor
open Go.RowKit

theorem tcells_app (a : List Tok) (t : Tok) : tcells (a ++ [t]) = tcells a ++ t.cells := by simp [tcells]

/-- What Tokens answers. -/
def TokAns (base : Nat) (w' : World) (l : List UInt8) (e : Ending) : Prop :=
  ∃ v, e = .returned (.tuple #[v, .int .i64 (lineErr l)]) ∧ w'.ownsRow base 84 3 v (lineList l).length (tcells (lineList l))

theorem kept_new {w w' : World} {base B n : Nat} {v : Value} {xs : List Value} (h : w.ownsRow base 84 3 v n xs) (hg : w.grownBy w' (some B)) (hB : B < base) : w'.ownsRow base 84 3 v n xs := by
  refine h.kept hg ?_
  cases hv : v.ownBlock with
  | none => exact Or.inl rfl
  | some k =>
    have := (h.lt k hv).1
    refine Or.inr ?_
    intro e
    cases e
    omega

theorem toks_step {l r : List UInt8} {X : Option (List Tok)} {done : List Tok} {t : Tok} (h : X = (toks l).map (done ++ ·)) (hn : nextT (l.dropWhile (pb blankB)) = .tok t r) : X = (toks r).map ((done ++ [t]) ++ ·) := by
  rw [h, toks_tok hn]
  cases toks r <;> simp

theorem line_done {l : List UInt8} {done : List Tok} (h : l.length ≤ 80) (e : toks (code l) = some done) : lineErr l = 0 ∧ lineList l = done := by
  have h' : ¬ 80 < l.length := by omega
  unfold lineErr lineList lineToks
  rw [if_neg h', if_neg h', e]
  exact ⟨rfl, rfl⟩
theorem line_bad {l : List UInt8} (h : l.length ≤ 80) (e : toks (code l) = none) : lineErr l = 2 ∧ lineList l = [] := by
  have h' : ¬ 80 < l.length := by omega
  unfold lineErr lineList lineToks
  rw [if_neg h', if_neg h', e]
  exact ⟨rfl, rfl⟩
theorem line_much {l : List UInt8} (h : 80 < l.length) : lineErr l = 4 ∧ lineList l = [] := by
  unfold lineErr lineList lineToks
  rw [if_pos h, if_pos h]
  exact ⟨rfl, rfl⟩

theorem ownsRow_base {w : World} {b b' n : Nat} {e : TypeId} {size : Nat} {v : Value} {xs : List Value} (h : w.ownsRow b e size v n xs) (hb : b' ≤ b) : w.ownsRow b' e size v n xs := by
  refine ⟨h.1, ?_⟩
  rcases h.2 with h | ⟨g, cap, cur, rfl, hg, rest⟩
  · exact Or.inl h
  · exact Or.inr ⟨g, cap, cur, rfl, by omega, rest⟩

theorem Rd.by {w w' : World} {B : Nat} {s : ByteArray} {row : Option Nat} (h : Rd w B s) (hg : w.grownBy w' row) (hr : ∀ k, row = some k → B + 3 ≤ k) : Rd w' B s := by
  have hlt := h.lt
  have hk : ∀ k, k < B + 3 → w'.heap[k]? = w.heap[k]? := fun k hk => hg.block k (by omega) (by intro e; have := hr k e.symm; omega)
  exact ⟨(World.cell?_of_block (w := w) (hk _ (by show B < _; omega))).trans h.c0, (World.frozen?_of_block (w := w) (hk _ (by show B < _; omega))).trans h.f0,
    (World.cell?_of_block (w := w) (hk _ (by show B + 1 < _; omega))).trans h.c1, (World.cell?_of_block (w := w) (hk _ (by show B + 2 < _; omega))).trans h.c2⟩

theorem tokens_few (s : ByteArray) (w : World) (hG : Glob w) (h : s.size ≤ 80) :
    Calls Tryd.prog 27 #[.string s] w fun e w' => TokAns w.heap.size w' s.data.toList e ∧ Below w.heap.size w w' := by
  have h' : ¬ (80 : Int) < s.size := by omega
  have hlen : s.data.toList.length = s.size := Array.length_toList
  have hcl := code_len s.data.toList
  obtain ⟨cs, hcs⟩ : ∃ cs : ByteArray, cs = ⟨(code s.data.toList).toArray⟩ := ⟨_, rfl⟩
  have hcsl : cs.data.toList = code s.data.toList := by rw [hcs]
  have hcss := size_of hcsl
  obtain ⟨c2, c3, hcut⟩ : ∃ (c2 : ByteArray) (c3 : Bool), ∀ w, Glob w → Calls Tryd.prog 46 #[.string s, .string ⟨#[59]⟩] w fun e w' => e = .returned (.tuple #[.string cs, .string c2, .bool c3]) ∧ ∃ n, w' = w.drewN n := by
    refine ⟨⟨(Lib.cut s.data.toList [59]).2.1.toArray⟩, (Lib.cut s.data.toList [59]).2.2, fun w hG => ?_⟩
    obtain ⟨m, hm⟩ := hG.m
    refine (Tryd.strings_Cut s ⟨#[59]⟩ m w (by omega) hm).mono ?_
    rintro e w' ⟨rfl, hw⟩
    refine ⟨?_, hw⟩
    show _ = Ending.returned (.tuple #[.string cs, .string ⟨(Lib.cut s.data.toList [59]).2.1.toArray⟩, .bool (Lib.cut s.data.toList [59]).2.2])
    rw [hcs, ← cut_code]
  have hsz := hG.sz
  clear hcs
  obtain ⟨i0, hi, hz0, hz1, hz2⟩ := info_parts info84
  go_enter Tryd.func27, Tryd.ntmps27
  go_wp2_with fail
  refine (hcut _ hG).mono ?_
  rintro e w0 ⟨rfl, n, rfl⟩
  have hG0 : Glob (w.drewN n) := hG.below (Go.Joins.below_draws w.heap.size w n) hsz
  go_wp2_with fail
  refine (reader_any cs _).mono ?_
  rintro e w1 ⟨rfl, hR, hb, hsz1⟩
  have hB1 : Hid (Below w.heap.size w w1) := (Go.Joins.below_draws w.heap.size w n).trans hb
  simp only [World.heap_drewN] at hR hsz1
  clear hb hcut hG0
  unfold readerV
  have hGw : Hid (Glob w) := hG
  have HB0 : Hid (10 ≤ w.heap.size) := hsz
  clear hG hsz
  go_wp2
  go_loopw [8] (fun v wr => ∃ (x : ByteArray) (done : List Tok), wr.ownsRow (w.heap.size + 3) 84 3 v done.length (tcells done) ∧ Rd wr w.heap.size x ∧ Below w.heap.size w wr ∧ Hid (done.length + x.size ≤ 80 ∧ w.heap.size + 3 ≤ wr.heap.size ∧ toks (code s.data.toList) = (toks x.data.toList).map (done ++ ·))) (fun _ wr => boxLen wr w.heap.size)
  case atStart =>
    refine ⟨cs, [], World.ownsRow_nil _ _ _ _, hR, hB1.out, by simp; omega, by omega, ?_⟩
    rw [hcsl]
    simp
  case round =>
    obtain ⟨x, done, hown, hRr, hBr, HH⟩ := hrel
    obtain ⟨h80, hszr, htk⟩ := HH.out
    clear HH
    have hGr : Glob wr := hGw.out.below hBr HB0.out
    have hbl := hRr.boxLen
    have HT : Hid (toks (code s.data.toList) = (toks x.data.toList).map (done ++ ·)) := htk
    have HBr : Hid (Below w.heap.size w wr) := hBr
    have HO : Hid (wr.ownsRow (w.heap.size + 3) 84 3 u8 done.length (tcells done)) := hown
    clear htk hBr hown
    go_wp2_with fail
    refine (next_any x w.heap.size wr (by omega) hGr HB0.out hRr).mono ?_
    rintro e w2 ⟨rfl, htok, hg⟩
    have hown2 : w2.ownsRow (w.heap.size + 3) 84 3 u8 done.length (tcells done) := kept_new HO.out hg (by omega)
    have hB2 : Hid (Below w.heap.size w w2) := HBr.out.grown hg (by omega) (by intro k hk; cases hk; exact Nat.le_refl _)
    have hsz2 : w.heap.size + 3 ≤ w2.heap.size := by have := hg.size; omega
    clear hg hRr HO HBr hGr
    cases hn : nextT (x.data.toList.dropWhile (pb blankB)) with
    | fin =>
      have HF : Hid (lineErr s.data.toList = 0 ∧ lineList s.data.toList = done) := line_done (by omega) (by rw [HT.out, toks_fin hn]; simp)
      have HW : Hid (w2.ownsRow (w.heap.size + 3) 84 3 u8 done.length (tcells done)) := hown2
      clear hn htok HT hown2
      simp only [nxtV, tokZ]
      go_wp2
      go_ret2
      refine ⟨⟨u8, by rw [HF.out.1]; rfl, ?_⟩, hB2.out.alloc (by omega) _⟩
      rw [HF.out.2]
      exact ownsRow_base (HW.out.alloc _) (by omega)
    | bad =>
      have HF : Hid (lineErr s.data.toList = 2 ∧ lineList s.data.toList = []) := line_bad (by omega) (by rw [HT.out, toks_bad hn]; simp)
      clear hn htok HT hown2
      simp only [nxtV, tokZ]
      go_wp2
      go_ret2
      refine ⟨⟨.slice none 0 0, by rw [HF.out.1]; rfl, ?_⟩, hB2.out.alloc (by omega) _⟩
      rw [HF.out.2]
      exact World.ownsRow_nil _ _ _ _
    | tok t r =>
      have hkd := nextT_kind hn
      obtain ⟨x', hx', hR'⟩ := htok t r hn
      have hlen' : x'.size < x.size := by
        have h1 := size_of hx'
        have h2 := nextT_len hn
        have h3 := dropWhile_len (p := pb blankB) x.data.toList
        have h4 := size_of (rfl : x.data.toList = _)
        omega
      have HT2 : Hid (toks (code s.data.toList) = (toks x'.data.toList).map ((done ++ [t]) ++ ·)) := by
        rw [hx']
        exact toks_step HT.out hn
      have HR2 : Hid (Rd w2 w.heap.size x') := hR'
      clear hn htok HT hR' hx'
      obtain ⟨kd, nn, tx⟩ := t
      simp only [nxtV, tokV] at hkd ⊢
      go_wp2_with (first
        | (at_builtin; refine wpList_append_own _ rfl _ _ 49 rfl (w.heap.size + 3) 84 i0 _ 3 32 Tryd.underlying49 hi hz0 hz1 hz2 rfl (by decide) _ _ _ rfl ((hown2.alloc _).alloc _) ⟨w2.heap.size + 1, 0, none⟩ 1 1 [.int .i64 kd, .int .i64 nn, .string ⟨tx.toArray⟩] rfl rfl ?c1 ?c2 ?c3 ?c4 ?c5 ?_)
        | go_in)
      case c1 =>
        intro j u hj
        match j, hj with
        | 0, hj => simp at hj; subst hj; simp [go_sem, Addr.add]
        | 1, hj => simp at hj; subst hj; simp [go_sem, Addr.add]
        | 2, hj => simp at hj; subst hj; simp [go_sem, Addr.add]
      case c2 => intro u hu; simp at hu; rcases hu with rfl | rfl | rfl <;> rfl
      case c3 => unfold maxLen; omega
      case c4 => omega
      case c5 => simp; omega
      · intro v' w3 hown3 hgrow _
        have hrow : ∀ k, u8.ownBlock = some k → w.heap.size + 3 ≤ k := fun k hk => (hown2.lt k hk).1
        have hR3 : Hid (Rd w3 w.heap.size x') := ((HR2.out.grown ((Below.refl _ _).alloc (Nat.le_refl _) _)).grown ((Below.refl _ _).alloc (Nat.le_refl _) _)).by hgrow hrow
        have hB3 : Hid (Below w.heap.size w w3) := ((hB2.out.alloc (by omega) _).alloc (by simp; omega) _).grown hgrow (by simp; omega) (fun k hk => by have := hrow k hk; omega)
        have hsz3 : w.heap.size + 3 ≤ w3.heap.size := by have := hgrow.size; simp at this; omega
        have HO3 : Hid (w3.ownsRow (w.heap.size + 3) 84 3 v' (done.length + 1) (tcells done ++ [.int .i64 kd, .int .i64 nn, .string ⟨tx.toArray⟩])) := hown3
        clear hown3 hgrow hrow HR2 hB2 hown2
        go_wp2
        go_roundw
        case rel =>
          refine ⟨x', done ++ [⟨kd, nn, tx⟩], ?_, hR3.out, hB3.out, by simp; omega, hsz3, HT2.out⟩
          rw [tcells_app, List.length_append]
          exact HO3.out
        case measure =>
          rw [hbl, hR3.out.boxLen]
          exact hlen'

theorem tokens_any (s : ByteArray) (w : World) (hG : Glob w) :
    Calls Tryd.prog 27 #[.string s] w fun e w' => TokAns w.heap.size w' s.data.toList e ∧ Below w.heap.size w w' := by
  by_cases h : s.size ≤ 80
  · exact tokens_few s w hG h
  · refine (tokens_much s w (by omega)).mono ?_
    rintro e w' ⟨rfl, rfl⟩
    have hl : 80 < s.data.toList.length := by have := size_of (rfl : s.data.toList = _); omega
    refine ⟨⟨.slice none 0 0, by rw [(line_much hl).1], ?_⟩, Below.refl _ _⟩
    rw [(line_much hl).2]
    exact World.ownsRow_nil _ _ _ _

end Go.Proofs.YtajeijhmlkbjgaaDoor
