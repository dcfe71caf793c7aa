/- All that the law of the door's seat wants. -/
import Derived.Test.YtankcnikebcpkaaGreatDoorTreeClosed
import Derived.Test.YtankcnikebcpkaaGreatDoorTokLaid
import Derived.Test.YtankcnikebcpkaaGreatDoorP21
namespace Go.Proofs.YtankcnikebcpkaaGreatDoor

end Go.Proofs.YtankcnikebcpkaaGreatDoor
