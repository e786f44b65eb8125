import Derived.Lib.Hide
import Derived.Test.YtbcemjhaecelnaaGreatDoorProg
section
namespace Go.Proofs.YtbcemjhaecelnaaGreatDoor
theorem zh {p : Prop} (h : p) : Go.RowKit.Hid p := h
end Go.Proofs.YtbcemjhaecelnaaGreatDoor
end
