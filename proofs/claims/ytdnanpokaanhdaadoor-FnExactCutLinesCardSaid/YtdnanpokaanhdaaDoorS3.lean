/-
  CHAPTER 10: sessions and servers, how the laws copy, compare and measure them.
-/
import Derived.Test.YtdnanpokaanhdaaDoorP16
import Derived.Test.YtdnanpokaanhdaaDoorS1
namespace Go.Proofs.YtdnanpokaanhdaaDoor
open Go Go.Am Go.RowKit
set_option linter.unusedVariables false
set_option linter.unusedSimpArgs false
structure SessD where
  rest : ByteArray
  extra : Int
  worker : ByteArray
  level : Int
abbrev sessR (x : SessD) : List AV := [sv x.rest, iv x.extra, sv x.worker, iv x.level]
structure ServD where
  sess : List SessD
  next : Int
abbrev servC (s : ServD) : List AV := [.lst (s.sess.map sessR), iv s.next]
abbrev servV (s : ServD) : AV := .agg (servC s)
def sizeS (x : SessD) : Nat := x.rest.size + x.worker.size
def sizeSv (s : ServD) : Nat := s.sess.length + psum sizeS s.sess
structure MemS (x : SessD) : Prop where
  rest : x.rest.size ≤ 9223372036854775807
  worker : x.worker.size ≤ 9223372036854775807
  extra : isI64 x.extra
  level : isI64 x.level
structure MemSv (s : ServD) : Prop where
  len : s.sess.length ≤ 9223372036854775807
  sess : ∀ x ∈ s.sess, MemS x
  next : isI64 s.next
structure FitsS (x : SessD) : Prop where
  rest : x.rest.size ≤ 1048576
  worker : x.worker.size ≤ 1048576
structure FitsSv (s : ServD) : Prop where
  len : s.sess.length ≤ 1048576
  sess : ∀ x ∈ s.sess, FitsS x
theorem fitsSv_of {s : ServD} (h : sizeSv s ≤ 1048576) : FitsSv s := by
  unfold sizeSv at h
  refine ⟨by omega, fun x hx => ?_⟩
  have := psum_mem sizeS s.sess x hx
  unfold sizeS at *
  exact ⟨by omega, by omega⟩
end Go.Proofs.YtdnanpokaanhdaaDoor
