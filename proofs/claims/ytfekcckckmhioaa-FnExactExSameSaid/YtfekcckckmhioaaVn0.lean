/- How many bins an attribute has, in plain words. -/
import Derived.Test.YtfekcckckmhioaaVap
namespace Go.Proofs.Ytfekcckckmhioaa
def bins (a : AttrD) : Int := if attrOk a = true then (if a.vals.length = 0 then (a.cuts.length : Int) + 1 else a.vals.length) else 0
end Go.Proofs.Ytfekcckckmhioaa
