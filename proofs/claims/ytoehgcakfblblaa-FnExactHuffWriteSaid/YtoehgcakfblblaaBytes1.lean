/- Contracts of the laws' own copies, comparisons, marks and tests of lists of bytes (written by bytesgen.py out of those of words). -/
import Derived.Test.YtoehgcakfblblaaVar1
import Derived.Test.YtoehgcakfblblaaInts1
namespace Go.Proofs.Ytoehgcakfblblaa
open Go.RowKit
set_option maxRecDepth 100000

/-- What is marked: a number's last byte. -/
abbrev mk8 (v : Int) : Value := .int .u8 (v % 256)

end Go.Proofs.Ytoehgcakfblblaa
