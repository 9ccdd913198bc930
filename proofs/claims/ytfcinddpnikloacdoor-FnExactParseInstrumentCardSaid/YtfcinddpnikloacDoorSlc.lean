/- (No notes in this seat: what the texts on instruments ask for from here is imports.) -/
import Derived.Test.YtfcinddpnikloacDoorTwo
import Derived.Test.YtfcinddpnikloacDoorPlain
import Derived.LoopTactic
import Derived.Maps.AppendAt
