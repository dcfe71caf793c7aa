/- All that the laws of the door's seat share. -/
import Derived.Test.YtfockedeikdbjaaGreatDoorP26
import Derived.Test.YtfockedeikdbjaaGreatDoorP10
import Derived.Test.YtfockedeikdbjaaGreatDoorP24
namespace Go.Proofs.YtfockedeikdbjaaGreatDoor

end Go.Proofs.YtfockedeikdbjaaGreatDoor
