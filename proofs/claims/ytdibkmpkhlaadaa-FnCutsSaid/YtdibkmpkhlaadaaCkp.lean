/- Which cuts are right, in plain words. -/
import Derived.Test.YtdibkmpkhlaadaaVap
namespace Go.Proofs.Ytdibkmpkhlaadaa
def cutsR (cs : List Int) : Bool := decide (cs.length ≠ 0) && (decide (cs.length ≤ 3) && cutsRise cs)
end Go.Proofs.Ytdibkmpkhlaadaa
