/- What the parts of lines share with those of paths, where both are laid. -/
import Derived.Test.YtmbpebdceaihaacDoorBytes
import Derived.Test.YtmbpebdceaihaacDoorNames
import Derived.Deep.AppendLies
