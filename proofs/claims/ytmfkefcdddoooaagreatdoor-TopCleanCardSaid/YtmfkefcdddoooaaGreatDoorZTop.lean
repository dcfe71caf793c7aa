/- What the laws of package show, and those of the whole with it, want. -/
import Derived.Test.YtmfkefcdddoooaaGreatDoorP06
import Derived.Test.YtmfkefcdddoooaaGreatDoorP10
import Derived.Test.YtmfkefcdddoooaaGreatDoorP22
import Derived.Test.YtmfkefcdddoooaaGreatDoorP05
import Derived.Test.YtmfkefcdddoooaaGreatDoorP28
import Derived.Test.YtmfkefcdddoooaaGreatDoorP18
namespace Go.Proofs.YtmfkefcdddoooaaGreatDoor
end Go.Proofs.YtmfkefcdddoooaaGreatDoor
