/-
  Bytes as strings: the text of a list of bytes, as memory holds it.
-/
import Derived.RowKit
namespace Go.Proofs.YtnckpjcfgeajbaaDoor

/-- The text of a list of bytes, as memory holds it. -/
def bs (l : List UInt8) : ByteArray := ⟨l.toArray⟩
theorem bsTo (l : List UInt8) : (bs l).data.toList = l := by simp [bs]
end Go.Proofs.YtnckpjcfgeajbaaDoor
