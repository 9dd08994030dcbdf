/- What the line of an instruction is; what the callees may count on. -/
import Derived.Test.YtgadpimknobljaaDoorDhC
import Derived.Test.YtgadpimknobljaaDoorDsShelf
import Derived.Lib.ItoaMem
import Derived.Lib.ItoaLen
import Derived.Lib.AppendIntMem
namespace Go.Proofs.YtgadpimknobljaaDoor
open Go.RowKit Isa

def regL (n : Int) : List UInt8 := 114 :: Lib.itoa n
def numL (n : Int) : List UInt8 := 35 :: Lib.itoa n
def placeL (n : Int) : List UInt8 := 120 :: hexS n
/-- The operands of an instruction of that shape. -/
def operL (s n m imm p : Int) : List UInt8 :=
  if s = 1 then numL imm ++ [44] ++ regL n
  else if s = 2 then regL m ++ [44] ++ regL n
  else if s = 3 then regL n
  else if s = 4 then placeL p
  else if s = 5 then placeL p
  else if s = 6 then [64] ++ regL n
  else if s = 7 then placeL p ++ [44] ++ regL n
  else if s = 8 then placeL p ++ [44] ++ regL n
  else if s = 9 then regL m ++ [44, 64] ++ regL n
  else if s = 10 then [64] ++ regL m ++ [44] ++ regL n
  else numL imm
/-- An instruction's line. -/
def lineL (op n m imm at' : Int) : List UInt8 :=
  if infoShape op = 0 then (infoName op).data.toList else (infoName op).data.toList ++ [32] ++ operL (infoShape op) n m imm (toI op imm at')

/-- What the variables hold that the callees read. -/
structure DL (w : World) : Prop where
  laid : Laid w
  tab : Lib.TabIs Tryd.prog w "internal/strconv.uint64pow10" .u64 Lib.pow10Tab
  tz : w.cell? ⟨4, 15, none⟩ = some (.int .u8 4)
  sz : 4 < w.heap.size

theorem DL.below {B : Nat} {w w' : World} (h : DL w) (hb : Below B w w') (hB : 4 < B) : DL w' where
  laid := h.laid.below hb (by omega)
  tab := by
    have ht := h.tab
    have hg : Tryd.prog.globalNamed "internal/strconv.uint64pow10" = some 2 := by kernel_rfl
    unfold Lib.TabIs World.var? at *
    simp only [hg, Option.bind_some] at ht ⊢
    rw [hb.block 2 (by omega)]
    exact ht
  tz := (hb.cell (p := ⟨4, 15, none⟩) hB).trans h.tz
  sz := Nat.lt_of_lt_of_le h.sz hb.size
theorem DL.next {w w' : World} (h : DL w) (hb : Below w.heap.size w w') : DL w' := h.below hb h.sz
theorem DL.draws {w : World} (h : DL w) (n : Nat) : DL (w.drewN n) := h.next (Go.Joins.below_draws _ w n)

theorem itoa_any (n : Int) (h0 : -9223372036854775808 ≤ n) (h1 : n ≤ 9223372036854775807) (w : World) (hD : DL w) :
    Calls Tryd.prog 18 #[.int .i64 n] w fun e w' => e = .returned (.string ⟨(Lib.itoa n).toArray⟩) ∧ Below w.heap.size w w' := by
  refine (Tryd.strconv_Itoa n h0 h1 w hD.tab).mono ?_
  rintro e w' ⟨rfl, k, os, rfl⟩
  exact ⟨rfl, Lib.below_grow _ w (Nat.le_refl _) k os⟩

end Go.Proofs.YtgadpimknobljaaDoor
