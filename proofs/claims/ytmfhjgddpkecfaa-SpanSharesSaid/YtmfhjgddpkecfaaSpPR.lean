/-
  What the laws of layer 8 ask of the program: qNormal_any, qUnion_any, qInter_any, qMinus_any, qGaps_any (SpP7), qHas_any, qTotal_any, qFit_any (SpP8).
-/
import Derived.Test.YtmfhjgddpkecfaaSpP8
namespace Go.Proofs.Ytmfhjgddpkecfaa.Sp
end Go.Proofs.Ytmfhjgddpkecfaa.Sp
