/- Rings: the sum by Moebius is the sum over the turns; nothing of the program. -/
namespace Go.Proofs.YtgpkhfpejopacabGreatDoor.Gc

end Go.Proofs.YtgpkhfpejopacabGreatDoor.Gc
