/- What an object is, what is wrong with it, its bytes, and the object of bytes: functions of lists; no program in this text. -/
import Derived.RowKit
namespace Go.Proofs.YtjmjhbdlbmnllaaGreatDoor
open Go.RowKit

structure Sy where
  name : List UInt8
  pos : Int

structure Re where
  pos : Int
  size : Int
  name : List UInt8
  add : Int

structure Ob where
  code : List UInt8
  syms : List Sy
  rels : List Re

/-- A number's lowest byte, and its lowest four, the uppermost one first. -/
def lowB (n : Int) : UInt8 := UInt8.ofNat (n % 256).toNat
def be4 (n : Int) : List UInt8 := [lowB (n / 16777216), lowB (n / 65536), lowB (n / 256), lowB n]

/-! There, and back. -/

theorem lowB_nat (n : Int) : ((lowB n).toNat : Int) = n % 256 := by
  have h0 : 0 ≤ n % 256 := Int.emod_nonneg _ (by decide)
  have h1 : n % 256 < 256 := Int.emod_lt_of_pos _ (by decide)
  unfold lowB
  rw [UInt8.toNat_ofNat']
  omega
end Go.Proofs.YtjmjhbdlbmnllaaGreatDoor
