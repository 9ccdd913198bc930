/- (No notes in this seat: what the texts on instruments ask for from here is imports.) -/
import Derived.Test.YtfjcnomingbneacDoorTwo
import Derived.Test.YtfjcnomingbneacDoorPlain
import Derived.LoopTactic
import Derived.Maps.AppendAt
