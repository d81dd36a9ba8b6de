/- Scripts of layer 7 as they lie; a page's bytes. -/
import Derived.Test.YtpmbpadckbkglaaP7Q
namespace Go.Proofs.Ytpmbpadckbkglaa
open Go.RowKit Go.Maps
set_option linter.unusedVariables false
set_option linter.unusedSimpArgs false

/-- A step of a script. -/
structure OpP where
  kind : Int
  page : Int
  by_ : UInt8
  mark : Int
def cellsP (x : OpP) : List Value := [.int .i64 x.kind, .int .i64 x.page, bv x.by_, .int .u64 x.mark]
/-- A script that lies somewhere. -/
def OpsP (w : World) (v : Value) (rs : List OpP) : Prop :=
  ∃ (ao : Option Addr) (cap : Nat), v = .slice ao rs.length cap ∧ rs.length ≤ cap ∧ (rs = [] ∨ ∃ g o, ao = some ⟨g, o, none⟩ ∧ ∀ k (h : k < rs.length), w.rangeAt g (o + k * 4) (cellsP rs[k]))
structure OpPOk (x : OpP) : Prop where
  kind : -9223372036854775808 ≤ x.kind ∧ x.kind ≤ 9223372036854775807
  page : -9223372036854775808 ≤ x.page ∧ x.page ≤ 9223372036854775807
  mark : 0 ≤ x.mark ∧ x.mark ≤ 18446744073709551615
/-- The bytes of a page that a step puts. -/
def bodyL (page : Int) (c : UInt8) (n : Nat) : List UInt8 := if n = 0 then [] else UInt8.ofNat (page % 256).toNat :: List.replicate (n - 1) c
theorem bodyL_len (page : Int) (c : UInt8) (n : Nat) : (bodyL page c n).length = n := by
  unfold bodyL; split
  · simp [*]
  · simp; omega
end Go.Proofs.Ytpmbpadckbkglaa
