/-
  How long a new sender waits.
-/
import Derived.Test.YtafenhodfoflbaaPcsMath
namespace Go.Proofs.Ytafenhodfoflbaa

def M.newW (s : ByteArray) : Int := if (M.piecesOf s).length = 0 then 0 else 1
end Go.Proofs.Ytafenhodfoflbaa
