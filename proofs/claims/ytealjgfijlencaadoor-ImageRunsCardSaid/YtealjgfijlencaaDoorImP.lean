/- Programs as bytes, the package's: all three contracts (pcheck_im, penc_im, pdec_im). -/
import Derived.Test.YtealjgfijlencaaDoorImP8
import Derived.Test.YtealjgfijlencaaDoorNum
import Derived.Test.YtealjgfijlencaaDoorImG
namespace Go.Proofs.YtealjgfijlencaaDoor
end Go.Proofs.YtealjgfijlencaaDoor
