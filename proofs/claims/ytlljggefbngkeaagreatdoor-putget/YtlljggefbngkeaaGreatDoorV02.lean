import Derived.Test.YtlljggefbngkeaaGreatDoorProg
import Derived.Test.YtlljggefbngkeaaGreatDoorV01
import Derived.WalkKit
import Derived.WalkSpells
import Derived.WalkLawsBesides
import Derived.Deep.QuietTactic
import Derived.BigQuiet
namespace Go.Proofs.YtlljggefbngkeaaGreatDoor
open Go.RowKit

theorem hide {p : Prop} (h : p) : Hid p := h
theorem unhide {p : Prop} (h : Hid p) : p := h







end Go.Proofs.YtlljggefbngkeaaGreatDoor
