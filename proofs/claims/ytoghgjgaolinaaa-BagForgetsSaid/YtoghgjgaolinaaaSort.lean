/-
  A helper of ours: no claim of its own. This program sorts none of these.
-/
import Derived.Shelf.SlSortCmp.WholeK
import Derived.Shelf.SlSortCmp.NoneTotal
import Derived.Test.YtoghgjgaolinaaaProg
namespace Go.Proofs.Ytoghgjgaolinaaa
end Go.Proofs.Ytoghgjgaolinaaa
