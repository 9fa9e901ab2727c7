/-
  Own walks: the next lock of a lane (RuB without the rest: for programs that call no Len).
-/
import Derived.Test.YtdlfbkiihkhmmaaRuA
namespace Go.Proofs.Ytdlfbkiihkhmmaa
set_option maxRecDepth 8000
open Go.RowKit Go.Lib

end Go.Proofs.Ytdlfbkiihkhmmaa
