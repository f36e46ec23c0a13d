/- Plain mathematics of chapter 2: cells. -/
import Derived.Test.YtpmkhpokelomiaaMem
namespace Go.Proofs.Ytpmkhpokelomiaa
open Go.ChangeShapes Go.WideShapes Go.ChangeAt Go.RowKit

def cellV (v s : Int) : Value := .agg #[.int .i64 v, .int .i64 s]
def cellOkZ (v s : Int) : Bool := inB v 0 32767 && inB s 0 65520
/-- the value and the sum of CellOf -/
def cofV (d p v : Int) : Int := if sumZ d p v < 0 then 0 else v
def cofS (d p v : Int) : Int := if sumZ d p v < 0 then 0 else sumZ d p v
def goodZ (v s d p : Int) : Bool := cellOkZ v s && fitsZ d p v s
/-- the value and the sum of Rotten -/
def rotV (v s b : Int) : Int := if cellOkZ v s then (if inB b 1 32767 then (v + b) % 32768 else v) else 0
def rotS (v s : Int) : Int := if cellOkZ v s then s else 0
end Go.Proofs.Ytpmkhpokelomiaa
