import Derived.Test.YtlnlbahggbbaeaaGreatGh
section
/- Vectors: what comes of pairs: the walk. -/

namespace Go.Proofs.YtlnlbahggbbaeaaGreat.Vec
open Go.RowKit

end Go.Proofs.YtlnlbahggbbaeaaGreat.Vec
end

section
/- Vectors: Tidy and Scale: the walks. -/

namespace Go.Proofs.YtlnlbahggbbaeaaGreat.Vec
open Go.RowKit

end Go.Proofs.YtlnlbahggbbaeaaGreat.Vec
end

section
/- Vectors: Scale: the walk. -/

namespace Go.Proofs.YtlnlbahggbbaeaaGreat.Vec
open Go.RowKit

theorem seesNil (w : World) : SeesN w none [] := .inl rfl

end Go.Proofs.YtlnlbahggbbaeaaGreat.Vec
end

section
/- Vectors: Match: the walk. -/

namespace Go.Proofs.YtlnlbahggbbaeaaGreat.Vec
open Go.RowKit Go.Maps Go.WideMaps

end Go.Proofs.YtlnlbahggbbaeaaGreat.Vec
end
