/- (No notes in this seat: what the texts on instruments ask for from here is imports.) -/
import Derived.Test.YtinnangdldehgaaDoorTwo
import Derived.Test.YtinnangdldehgaaDoorPlain
import Derived.LoopTactic
import Derived.Maps.AppendAt
