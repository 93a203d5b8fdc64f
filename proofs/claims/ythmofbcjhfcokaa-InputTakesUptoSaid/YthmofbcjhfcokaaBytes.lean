/- The head of the parts. -/
import Derived.Test.YthmofbcjhfcokaaChecked
import Derived.WalkKit
import Derived.WalkSmall
import Derived.WalkSpells
import Derived.WalkLawsBesides
import Derived.Lib.AppendStr
import Derived.Laws.IdiomStrings
import Derived.Laws.BytesArg
namespace Go.Proofs.Ythmofbcjhfcokaa
open Go.RowKit

end Go.Proofs.Ythmofbcjhfcokaa
