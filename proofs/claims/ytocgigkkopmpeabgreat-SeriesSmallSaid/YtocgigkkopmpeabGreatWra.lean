/- Calls come to what is told of them, the calls in them answered by a table. No condition. -/
import Derived.Test.YtocgigkkopmpeabGreatWta
import Derived.Test.YtocgigkkopmpeabGreatWtb
namespace Go.Proofs.YtocgigkkopmpeabGreat
open Go Go.RowKit Go.Proofs.YtocgigkkopmpeabGreat.Canon

theorem e1_runs : entB Tryz.prog X R 100000 (torc Tryz.prog X R 100000 [] 1000) e1 = true := by kernel_rfl
theorem e5_runs : entB Tryz.prog X R 100000 (torc Tryz.prog X R 100000 [] 1000) e5 = true := by kernel_rfl
theorem e9_runs : entB Tryz.prog X R 100000 (torc Tryz.prog X R 100000 [] 1000) e9 = true := by kernel_rfl
theorem e13_runs : entB Tryz.prog X R 100000 (torc Tryz.prog X R 100000 [e11, e12] 1000) e13 = true := by kernel_rfl
theorem e17_runs : entB Tryz.prog X R 100000 (torc Tryz.prog X R 100000 [e14, e15, e16] 1000) e17 = true := by kernel_rfl
theorem e21_runs : entB Tryz.prog X R 100000 (torc Tryz.prog X R 100000 [] 1000) e21 = true := by kernel_rfl
theorem e25_runs : entB Tryz.prog X R 100000 (torc Tryz.prog X R 100000 [e22, e24] 1000) e25 = true := by kernel_rfl
theorem e29_runs : entB Tryz.prog X R 100000 (torc Tryz.prog X R 100000 [e26, e27, e28] 1000) e29 = true := by kernel_rfl
theorem e33_runs : entB Tryz.prog X R 100000 (torc Tryz.prog X R 100000 [e18, e25, e29, e32] 1000) e33 = true := by kernel_rfl
theorem e37_runs : entB Tryz.prog X R 100000 (torc Tryz.prog X R 100000 [e34, e35, e36] 1000) e37 = true := by kernel_rfl
theorem e41_runs : entB Tryz.prog X R 100000 (torc Tryz.prog X R 100000 [e38, e39, e40] 1000) e41 = true := by kernel_rfl
theorem e45_runs : entB Tryz.prog X R 100000 (torc Tryz.prog X R 100000 [] 1000) e45 = true := by kernel_rfl
theorem e49_runs : entB Tryz.prog X R 100000 (torc Tryz.prog X R 100000 [] 1000) e49 = true := by kernel_rfl
theorem e53_runs : entB Tryz.prog X R 100000 (torc Tryz.prog X R 100000 [e7, e13, e52] 1000) e53 = true := by kernel_rfl
theorem e57_runs : entB Tryz.prog X R 100000 (torc Tryz.prog X R 100000 [] 1000) e57 = true := by kernel_rfl
theorem e61_runs : entB Tryz.prog X R 100000 (torc Tryz.prog X R 100000 [] 1000) e61 = true := by kernel_rfl
theorem e65_runs : entB Tryz.prog X R 100000 (torc Tryz.prog X R 100000 [] 1000) e65 = true := by kernel_rfl
theorem e69_runs : entB Tryz.prog X R 100000 (torc Tryz.prog X R 100000 [] 1000) e69 = true := by kernel_rfl
theorem e73_runs : entB Tryz.prog X R 100000 (torc Tryz.prog X R 100000 [] 1000) e73 = true := by kernel_rfl
theorem e77_runs : entB Tryz.prog X R 100000 (torc Tryz.prog X R 100000 [e72, e73, e70, e74, e75, e67, e76] 1000) e77 = true := by kernel_rfl
theorem e81_runs : entB Tryz.prog X R 100000 (torc Tryz.prog X R 100000 [] 1000) e81 = true := by kernel_rfl
theorem e85_runs : entB Tryz.prog X R 100000 (torc Tryz.prog X R 100000 [] 1000) e85 = true := by kernel_rfl
theorem e89_runs : entB Tryz.prog X R 100000 (torc Tryz.prog X R 100000 [e80, e81, e82, e83, e84, e85, e86, e87, e88] 1000) e89 = true := by kernel_rfl
theorem e93_runs : entB Tryz.prog X R 100000 (torc Tryz.prog X R 100000 [e79, e47, e92] 1000) e93 = true := by kernel_rfl
theorem e97_runs : entB Tryz.prog X R 100000 (torc Tryz.prog X R 100000 [] 1000) e97 = true := by kernel_rfl
theorem e101_runs : entB Tryz.prog X R 100000 (torc Tryz.prog X R 100000 [] 1000) e101 = true := by kernel_rfl
theorem e105_runs : entB Tryz.prog X R 100000 (torc Tryz.prog X R 100000 [] 1000) e105 = true := by kernel_rfl
theorem e109_runs : entB Tryz.prog X R 100000 (torc Tryz.prog X R 100000 [] 1000) e109 = true := by kernel_rfl
theorem e113_runs : entB Tryz.prog X R 100000 (torc Tryz.prog X R 100000 [] 1000) e113 = true := by kernel_rfl
theorem e117_runs : entB Tryz.prog X R 100000 (torc Tryz.prog X R 100000 [] 1000) e117 = true := by kernel_rfl
theorem e121_runs : entB Tryz.prog X R 100000 (torc Tryz.prog X R 100000 [] 1000) e121 = true := by kernel_rfl
theorem e125_runs : entB Tryz.prog X R 100000 (torc Tryz.prog X R 100000 [] 1000) e125 = true := by kernel_rfl
theorem e129_runs : entB Tryz.prog X R 100000 (torc Tryz.prog X R 100000 [] 1000) e129 = true := by kernel_rfl
theorem e133_runs : entB Tryz.prog X R 100000 (torc Tryz.prog X R 100000 [] 1000) e133 = true := by kernel_rfl
theorem e137_runs : entB Tryz.prog X R 100000 (torc Tryz.prog X R 100000 [] 1000) e137 = true := by kernel_rfl
theorem e141_runs : entB Tryz.prog X R 100000 (torc Tryz.prog X R 100000 [] 1000) e141 = true := by kernel_rfl
theorem e145_runs : entB Tryz.prog X R 100000 (torc Tryz.prog X R 100000 [] 1000) e145 = true := by kernel_rfl
theorem e149_runs : entB Tryz.prog X R 100000 (torc Tryz.prog X R 100000 [] 1000) e149 = true := by kernel_rfl
theorem e153_runs : entB Tryz.prog X R 100000 (torc Tryz.prog X R 100000 [] 1000) e153 = true := by kernel_rfl
theorem e157_runs : entB Tryz.prog X R 100000 (torc Tryz.prog X R 100000 [] 1000) e157 = true := by kernel_rfl
theorem e161_runs : entB Tryz.prog X R 100000 (torc Tryz.prog X R 100000 [] 1000) e161 = true := by kernel_rfl
theorem e165_runs : entB Tryz.prog X R 100000 (torc Tryz.prog X R 100000 [] 1000) e165 = true := by kernel_rfl
theorem e169_runs : entB Tryz.prog X R 100000 (torc Tryz.prog X R 100000 [e167, e168] 1000) e169 = true := by kernel_rfl
theorem e173_runs : entB Tryz.prog X R 100000 (torc Tryz.prog X R 100000 [e111] 1000) e173 = true := by kernel_rfl
theorem e177_runs : entB Tryz.prog X R 100000 (torc Tryz.prog X R 100000 [e176] 1000) e177 = true := by kernel_rfl
theorem e181_runs : entB Tryz.prog X R 100000 (torc Tryz.prog X R 100000 [e110] 1000) e181 = true := by kernel_rfl
theorem e185_runs : entB Tryz.prog X R 100000 (torc Tryz.prog X R 100000 [e184] 1000) e185 = true := by kernel_rfl
theorem e189_runs : entB Tryz.prog X R 100000 (torc Tryz.prog X R 100000 [] 1000) e189 = true := by kernel_rfl
theorem e193_runs : entB Tryz.prog X R 100000 (torc Tryz.prog X R 100000 [] 1000) e193 = true := by kernel_rfl
theorem e197_runs : entB Tryz.prog X R 100000 (torc Tryz.prog X R 100000 [] 1000) e197 = true := by kernel_rfl
theorem e201_runs : entB Tryz.prog X R 100000 (torc Tryz.prog X R 100000 [e112, e199, e200] 1000) e201 = true := by kernel_rfl
theorem e205_runs : entB Tryz.prog X R 100000 (torc Tryz.prog X R 100000 [] 1000) e205 = true := by kernel_rfl
theorem e209_runs : entB Tryz.prog X R 100000 (torc Tryz.prog X R 100000 [e80, e81, e204, e205, e206, e207, e208] 1000) e209 = true := by kernel_rfl
theorem e213_runs : entB Tryz.prog X R 100000 (torc Tryz.prog X R 100000 [] 1000) e213 = true := by kernel_rfl
theorem e217_runs : entB Tryz.prog X R 100000 (torc Tryz.prog X R 100000 [] 1000) e217 = true := by kernel_rfl
theorem e221_runs : entB Tryz.prog X R 100000 (torc Tryz.prog X R 100000 [] 1000) e221 = true := by kernel_rfl
theorem e225_runs : entB Tryz.prog X R 100000 (torc Tryz.prog X R 100000 [] 1000) e225 = true := by kernel_rfl
theorem e229_runs : entB Tryz.prog X R 100000 (torc Tryz.prog X R 100000 [] 1000) e229 = true := by kernel_rfl
theorem e233_runs : entB Tryz.prog X R 100000 (torc Tryz.prog X R 100000 [] 1000) e233 = true := by kernel_rfl
theorem e237_runs : entB Tryz.prog X R 100000 (torc Tryz.prog X R 100000 [e236] 1000) e237 = true := by kernel_rfl
theorem e241_runs : entB Tryz.prog X R 100000 (torc Tryz.prog X R 100000 [] 1000) e241 = true := by kernel_rfl
theorem e245_runs : entB Tryz.prog X R 100000 (torc Tryz.prog X R 100000 [e239, e240, e241, e80, e242, e81, e243, e244] 1000) e245 = true := by kernel_rfl
theorem e249_runs : entB Tryz.prog X R 100000 (torc Tryz.prog X R 100000 [e248] 1000) e249 = true := by kernel_rfl
theorem e253_runs : entB Tryz.prog X R 100000 (torc Tryz.prog X R 100000 [] 1000) e253 = true := by kernel_rfl
theorem e257_runs : entB Tryz.prog X R 100000 (torc Tryz.prog X R 100000 [] 1000) e257 = true := by kernel_rfl
theorem e261_runs : entB Tryz.prog X R 100000 (torc Tryz.prog X R 100000 [] 1000) e261 = true := by kernel_rfl
theorem e265_runs : entB Tryz.prog X R 100000 (torc Tryz.prog X R 100000 [] 1000) e265 = true := by kernel_rfl
theorem e269_runs : entB Tryz.prog X R 100000 (torc Tryz.prog X R 100000 [e258] 1000) e269 = true := by kernel_rfl
theorem e273_runs : entB Tryz.prog X R 100000 (torc Tryz.prog X R 100000 [e258, e260, e262] 1000) e273 = true := by kernel_rfl
theorem e277_runs : entB Tryz.prog X R 100000 (torc Tryz.prog X R 100000 [e276] 1000) e277 = true := by kernel_rfl
theorem e281_runs : entB Tryz.prog X R 100000 (torc Tryz.prog X R 100000 [] 1000) e281 = true := by kernel_rfl
theorem e285_runs : entB Tryz.prog X R 100000 (torc Tryz.prog X R 100000 [] 1000) e285 = true := by kernel_rfl
theorem e289_runs : entB Tryz.prog X R 100000 (torc Tryz.prog X R 100000 [] 1000) e289 = true := by kernel_rfl
theorem e293_runs : entB Tryz.prog X R 100000 (torc Tryz.prog X R 100000 [e285, e286, e287, e288, e289, e290, e291, e292] 1000) e293 = true := by kernel_rfl
theorem e297_runs : entB Tryz.prog X R 100000 (torc Tryz.prog X R 100000 [] 1000) e297 = true := by kernel_rfl
theorem e301_runs : entB Tryz.prog X R 100000 (torc Tryz.prog X R 100000 [] 1000) e301 = true := by kernel_rfl
theorem e305_runs : entB Tryz.prog X R 100000 (torc Tryz.prog X R 100000 [e299, e300, e301, e302, e303, e304] 1000) e305 = true := by kernel_rfl
theorem e309_runs : entB Tryz.prog X R 100000 (torc Tryz.prog X R 100000 [] 1000) e309 = true := by kernel_rfl
theorem e313_runs : entB Tryz.prog X R 100000 (torc Tryz.prog X R 100000 [] 1000) e313 = true := by kernel_rfl
theorem e317_runs : entB Tryz.prog X R 100000 (torc Tryz.prog X R 100000 [e310, e316] 1000) e317 = true := by kernel_rfl

end Go.Proofs.YtocgigkkopmpeabGreat
