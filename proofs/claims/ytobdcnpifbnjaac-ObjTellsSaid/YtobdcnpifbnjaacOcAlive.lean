/- The contract of the closed fact that is asked first. -/
import Derived.Test.YtobdcnpifbnjaacOcSame
namespace Go.Proofs.Ytobdcnpifbnjaac
open Go.RowKit

theorem Out.rb {w : World} {base : Nat} {v : Value} {l : List UInt8} (h : Out w base v l) : RB w w.heap.size v l := by
  rcases h.1.2 with ⟨rfl, h0⟩ | ⟨g, cap, cur, rfl, _, hg, hnc, _⟩
  · exact ⟨none, 0, by rw [h0], .inl ⟨rfl, rfl, List.eq_nil_of_length_eq_zero h0⟩⟩
  · refine ⟨_, cap, rfl, .inr ⟨_, rfl, hnc, fun _ => ⟨g, 0, rfl, (Array.getElem?_eq_some_iff.1 hg).1, fun i hi => ?_⟩⟩⟩
    have := h.1.cells (g := g) rfl i (.int .u8 (l[i].toNat : Int)) (by simp [bcells, hi])
    rwa [addr_add] at this

theorem nameR_256 : ∀ l, nameR l = true → l.length < 256 := fun l h => by have := nameR_len h; omega

/-- How long the bytes of an object are that is right. -/
theorem flat_len_le {α : Type} (f : α → List UInt8) (m : Nat) : ∀ (l : List α), (∀ x, x ∈ l → (f x).length ≤ m) → (l.flatMap f).length ≤ l.length * m
  | [], _ => by simp
  | x :: l, h => by
    have h1 := h x (List.mem_cons_self ..)
    have h2 := flat_len_le f m l fun y hy => h y (List.mem_cons_of_mem _ hy)
    rw [List.flatMap_cons, List.length_append, List.length_cons, Nat.succ_mul]
    omega
theorem bytesO_few {o : Ob} (h : wrongO nameR o = 0) : (bytesO o).length ≤ 1000000 := by
  have hf := wrong_few h
  unfold wrongO at h
  split at h
  · cases h
  · split at h
    case isFalse h1 => exact absurd h h1
    rename_i hs
    have ks := symsErr_ok _ _ hs
    have kr := relsErr_ok _ 0 (by decide) h
    have h1 := flat_len_le symB 15 o.syms fun x hx => by have := nameR_len (ks x hx).1; simp [symB, be4_len]; omega
    have h2 := flat_len_le relB 20 o.rels fun x hx => by
      have : x.name.length ≤ 10 := by
        rcases (kr x hx).2.2.2.1 with e | e
        · rw [e]; decide
        · exact nameR_len e
      simp [relB, be4_len]; omega
    unfold bytesO
    simp only [List.length_append, be4_len, List.length_cons, List.length_nil]
    omega

/-- Parse of the bytes of an object that is right. -/
theorem parse_back (o : Ob) (h : wrongO nameR o = 0) (v : Value) (w : World) (base : Nat) (hv : Out w base v (bytesO o)) :
    Calls Try.prog 10 #[v] w fun e w' => Below w.heap.size w w' ∧ ∃ ca cc sa sc ra rc, e = .returned (.tuple #[.agg #[.slice ca o.code.length cc, .slice sa o.syms.length sc, .slice ra o.rels.length rc], .int .i64 0]) ∧ OBytes w' (.slice ca o.code.length cc) o.code ∧ OSyms w' (.slice sa o.syms.length sc) o.syms ∧ ORels w' (.slice ra o.rels.length rc) o.rels := by
  refine (parse_any (bytesO o) v w hv.rb (by have := bytesO_few h; omega)).mono ?_
  rintro e w' ⟨hb, he⟩
  rw [parse_bytes nameR_256 o h] at he
  obtain ⟨c, s, r, rfl, h1, h2, h3⟩ := he
  obtain ⟨ca, cc, rfl, _⟩ := id h1
  obtain ⟨sa, sc, rfl, _⟩ := id h2
  obtain ⟨ra, rc, rfl, _⟩ := id h3
  exact ⟨hb, ca, cc, sa, sc, ra, rc, rfl, h1, h2, h3⟩

def aOb : Ob := ⟨[1, 2, 3, 4], [⟨[97], 2⟩], [⟨0, 4, [98], -1⟩]⟩
theorem aOb_right : wrongO nameR aOb = 0 := by decide +kernel

/-- An object in memory. -/
def ObAt (w : World) (cv sv rv : Value) (o : Ob) : Prop := OBytes w cv o.code ∧ OSyms w sv o.syms ∧ ORels w rv o.rels
theorem ObAt.below {w w' : World} {cv sv rv : Value} {o : Ob} {B : Nat} (h : ObAt w cv sv rv o) (hb : Below B w w') (hB : w.heap.size ≤ B) : ObAt w' cv sv rv o := ⟨h.1.below hb hB, h.2.1.below hb hB, h.2.2.below hb hB⟩

def aliveW (w : World) : World := (((w.alloc (.cells #[.int .u8 1, .int .u8 2, .int .u8 3, .int .u8 4] 5)).alloc (.cells #[.string ⟨#[97]⟩, .int .i64 2] 38)).alloc (.cells #[.int .i64 0, .int .i64 4, .string ⟨#[98]⟩, .int .i64 (-1)] 41))
theorem alive_at (w : World) : Below w.heap.size w (aliveW w) ∧ ObAt (aliveW w) (.slice (some ⟨w.heap.size, 0, none⟩) 4 4) (.slice (some ⟨w.heap.size + 1, 0, none⟩) 1 1) (.slice (some ⟨w.heap.size + 2, 0, none⟩) 1 1) aOb := by
  have h2 : (aliveW w).heap[w.heap.size + 2]? = some (.cells (rcells aOb.rels).toArray 41 (0, 0)) := by
    have := heap_alloc_new ((w.alloc (.cells #[.int .u8 1, .int .u8 2, .int .u8 3, .int .u8 4] 5)).alloc (.cells #[.string ⟨#[97]⟩, .int .i64 2] 38)) (.cells #[.int .i64 0, .int .i64 4, .string ⟨#[98]⟩, .int .i64 (-1)] 41)
    simp only [World.size_alloc] at this
    exact this
  have h1 : (aliveW w).heap[w.heap.size + 1]? = some (.cells (scells aOb.syms).toArray 38 (0, 0)) := by
    have := heap_alloc_new (w.alloc (.cells #[.int .u8 1, .int .u8 2, .int .u8 3, .int .u8 4] 5)) (.cells #[.string ⟨#[97]⟩, .int .i64 2] 38)
    simp only [World.size_alloc] at this
    unfold aliveW
    rw [Below.heap_alloc _ _ _ (by simp)]
    exact this
  have h0 : (aliveW w).heap[w.heap.size]? = some (.cells (bcells aOb.code).toArray 5 (0, 0)) := by
    have := heap_alloc_new w (.cells #[.int .u8 1, .int .u8 2, .int .u8 3, .int .u8 4] 5)
    unfold aliveW
    rw [Below.heap_alloc _ _ _ (by simp; omega), Below.heap_alloc _ _ _ (by simp)]
    exact this
  refine ⟨((oalloc w _).alloc (by simp) _).alloc (by simp; omega) _, ?_, ?_, ?_⟩
  · exact bytes_of_src (cap := 4) (src_of_block (size := 1) h0 rfl) (by unfold maxLen; decide)
  · exact syms_of_src (cap := 1) (src_of_block (size := 2) h1 rfl) (by unfold maxLen; decide) (by decide)
  · exact rels_of_src (cap := 1) (src_of_block (size := 4) h2 rfl) (by unfold maxLen; decide)

/-- A box of an object, in every later world. -/
def Boxed (w : World) (B : Nat) (a b c : Value) : Prop := w.heap[B]? = some (.cells #[a, b, c] 26 (0, 0))
theorem Boxed.below {w w' : World} {B N : Nat} {a b c : Value} (h : Boxed w B a b c) (hb : Below N w w') (hN : w.heap.size ≤ N) : Boxed w' B a b c := by
  unfold Boxed
  rw [hb.block B (by have := (Array.getElem?_eq_some_iff.1 h).1; omega)]
  exact h
theorem Boxed.cells {w : World} {B : Nat} {a b c : Value} (h : Boxed w B a b c) : w.cell? ⟨B, 0, none⟩ = some a ∧ w.cell? ⟨B, 1, none⟩ = some b ∧ w.cell? ⟨B, 2, none⟩ = some c := ⟨cell_of_block h rfl, cell_of_block h rfl, cell_of_block h rfl⟩
theorem boxed_new (w : World) (a b c : Value) : Boxed (w.alloc (.cells #[a, b, c] 26)) w.heap.size a b c := heap_alloc_new w _
theorem bnext {w w1 w2 : World} (h : Below w.heap.size w w1) (k : Below w1.heap.size w1 w2) : Below w.heap.size w w2 := h.trans (k.mono h.size)

end Go.Proofs.Ytobdcnpifbnjaac
