/- Calls come to what is told of them, the calls in them answered by a table. No condition. -/
import Derived.Test.YtocgigkkopmpeabGreatWta
import Derived.Test.YtocgigkkopmpeabGreatWtb
namespace Go.Proofs.YtocgigkkopmpeabGreat
open Go Go.RowKit Go.Proofs.YtocgigkkopmpeabGreat.Canon

theorem e4_runs : entB Tryz.prog X R 100000 (torc Tryz.prog X R 100000 [e1, e2, e3] 1000) e4 = true := by kernel_rfl
theorem e8_runs : entB Tryz.prog X R 100000 (torc Tryz.prog X R 100000 [] 1000) e8 = true := by kernel_rfl
theorem e12_runs : entB Tryz.prog X R 100000 (torc Tryz.prog X R 100000 [] 1000) e12 = true := by kernel_rfl
theorem e16_runs : entB Tryz.prog X R 100000 (torc Tryz.prog X R 100000 [] 1000) e16 = true := by kernel_rfl
theorem e20_runs : entB Tryz.prog X R 100000 (torc Tryz.prog X R 100000 [] 1000) e20 = true := by kernel_rfl
theorem e24_runs : entB Tryz.prog X R 100000 (torc Tryz.prog X R 100000 [e23, e20, e21] 1000) e24 = true := by kernel_rfl
theorem e28_runs : entB Tryz.prog X R 100000 (torc Tryz.prog X R 100000 [] 1000) e28 = true := by kernel_rfl
theorem e32_runs : entB Tryz.prog X R 100000 (torc Tryz.prog X R 100000 [e30, e31, e28] 1000) e32 = true := by kernel_rfl
theorem e36_runs : entB Tryz.prog X R 100000 (torc Tryz.prog X R 100000 [] 1000) e36 = true := by kernel_rfl
theorem e40_runs : entB Tryz.prog X R 100000 (torc Tryz.prog X R 100000 [] 1000) e40 = true := by kernel_rfl
theorem e44_runs : entB Tryz.prog X R 100000 (torc Tryz.prog X R 100000 [e33, e37, e41, e43] 1000) e44 = true := by kernel_rfl
theorem e48_runs : entB Tryz.prog X R 100000 (torc Tryz.prog X R 100000 [e45, e46, e47] 1000) e48 = true := by kernel_rfl
theorem e52_runs : entB Tryz.prog X R 100000 (torc Tryz.prog X R 100000 [e44, e18, e48, e51] 1000) e52 = true := by kernel_rfl
theorem e56_runs : entB Tryz.prog X R 100000 (torc Tryz.prog X R 100000 [] 1000) e56 = true := by kernel_rfl
theorem e60_runs : entB Tryz.prog X R 100000 (torc Tryz.prog X R 100000 [] 1000) e60 = true := by kernel_rfl
theorem e64_runs : entB Tryz.prog X R 100000 (torc Tryz.prog X R 100000 [] 1000) e64 = true := by kernel_rfl
theorem e68_runs : entB Tryz.prog X R 100000 (torc Tryz.prog X R 100000 [] 1000) e68 = true := by kernel_rfl
theorem e72_runs : entB Tryz.prog X R 100000 (torc Tryz.prog X R 100000 [e56, e57, e58, e59, e60, e61, e62, e63, e64, e65, e66, e67, e68, e69, e70, e71] 1000) e72 = true := by kernel_rfl
theorem e76_runs : entB Tryz.prog X R 100000 (torc Tryz.prog X R 100000 [e64] 1000) e76 = true := by kernel_rfl
theorem e80_runs : entB Tryz.prog X R 100000 (torc Tryz.prog X R 100000 [] 1000) e80 = true := by kernel_rfl
theorem e84_runs : entB Tryz.prog X R 100000 (torc Tryz.prog X R 100000 [] 1000) e84 = true := by kernel_rfl
theorem e88_runs : entB Tryz.prog X R 100000 (torc Tryz.prog X R 100000 [] 1000) e88 = true := by kernel_rfl
theorem e92_runs : entB Tryz.prog X R 100000 (torc Tryz.prog X R 100000 [e89, e90, e83, e86, e91] 1000) e92 = true := by kernel_rfl
theorem e96_runs : entB Tryz.prog X R 100000 (torc Tryz.prog X R 100000 [e94, e95] 1000) e96 = true := by kernel_rfl
theorem e100_runs : entB Tryz.prog X R 100000 (torc Tryz.prog X R 100000 [e99] 1000) e100 = true := by kernel_rfl
theorem e104_runs : entB Tryz.prog X R 100000 (torc Tryz.prog X R 100000 [] 1000) e104 = true := by kernel_rfl
theorem e108_runs : entB Tryz.prog X R 100000 (torc Tryz.prog X R 100000 [e96, e107] 1000) e108 = true := by kernel_rfl
theorem e112_runs : entB Tryz.prog X R 100000 (torc Tryz.prog X R 100000 [] 1000) e112 = true := by kernel_rfl
theorem e116_runs : entB Tryz.prog X R 100000 (torc Tryz.prog X R 100000 [] 1000) e116 = true := by kernel_rfl
theorem e120_runs : entB Tryz.prog X R 100000 (torc Tryz.prog X R 100000 [] 1000) e120 = true := by kernel_rfl
theorem e124_runs : entB Tryz.prog X R 100000 (torc Tryz.prog X R 100000 [] 1000) e124 = true := by kernel_rfl
theorem e128_runs : entB Tryz.prog X R 100000 (torc Tryz.prog X R 100000 [] 1000) e128 = true := by kernel_rfl
theorem e132_runs : entB Tryz.prog X R 100000 (torc Tryz.prog X R 100000 [] 1000) e132 = true := by kernel_rfl
theorem e136_runs : entB Tryz.prog X R 100000 (torc Tryz.prog X R 100000 [] 1000) e136 = true := by kernel_rfl
theorem e140_runs : entB Tryz.prog X R 100000 (torc Tryz.prog X R 100000 [] 1000) e140 = true := by kernel_rfl
theorem e144_runs : entB Tryz.prog X R 100000 (torc Tryz.prog X R 100000 [] 1000) e144 = true := by kernel_rfl
theorem e148_runs : entB Tryz.prog X R 100000 (torc Tryz.prog X R 100000 [] 1000) e148 = true := by kernel_rfl
theorem e152_runs : entB Tryz.prog X R 100000 (torc Tryz.prog X R 100000 [] 1000) e152 = true := by kernel_rfl
theorem e156_runs : entB Tryz.prog X R 100000 (torc Tryz.prog X R 100000 [] 1000) e156 = true := by kernel_rfl
theorem e160_runs : entB Tryz.prog X R 100000 (torc Tryz.prog X R 100000 [] 1000) e160 = true := by kernel_rfl
theorem e164_runs : entB Tryz.prog X R 100000 (torc Tryz.prog X R 100000 [e111, e112, e113, e114, e115, e116, e117, e118, e119, e120, e121, e122, e123, e124, e125, e126, e127, e128, e129, e130, e131, e132, e133, e134, e135, e136, e137, e138, e139, e140, e141, e142, e143, e144, e145, e146, e147, e148, e149, e150, e151, e152, e153, e154, e155, e156, e157, e158, e159, e163] 1000) e164 = true := by kernel_rfl
theorem e168_runs : entB Tryz.prog X R 100000 (torc Tryz.prog X R 100000 [] 1000) e168 = true := by kernel_rfl
theorem e172_runs : entB Tryz.prog X R 100000 (torc Tryz.prog X R 100000 [e111] 1000) e172 = true := by kernel_rfl
theorem e176_runs : entB Tryz.prog X R 100000 (torc Tryz.prog X R 100000 [e110, e175] 1000) e176 = true := by kernel_rfl
theorem e180_runs : entB Tryz.prog X R 100000 (torc Tryz.prog X R 100000 [e111] 1000) e180 = true := by kernel_rfl
theorem e184_runs : entB Tryz.prog X R 100000 (torc Tryz.prog X R 100000 [] 1000) e184 = true := by kernel_rfl
theorem e188_runs : entB Tryz.prog X R 100000 (torc Tryz.prog X R 100000 [e187] 1000) e188 = true := by kernel_rfl
theorem e192_runs : entB Tryz.prog X R 100000 (torc Tryz.prog X R 100000 [] 1000) e192 = true := by kernel_rfl
theorem e196_runs : entB Tryz.prog X R 100000 (torc Tryz.prog X R 100000 [] 1000) e196 = true := by kernel_rfl
theorem e200_runs : entB Tryz.prog X R 100000 (torc Tryz.prog X R 100000 [] 1000) e200 = true := by kernel_rfl
theorem e204_runs : entB Tryz.prog X R 100000 (torc Tryz.prog X R 100000 [] 1000) e204 = true := by kernel_rfl
theorem e208_runs : entB Tryz.prog X R 100000 (torc Tryz.prog X R 100000 [] 1000) e208 = true := by kernel_rfl
theorem e212_runs : entB Tryz.prog X R 100000 (torc Tryz.prog X R 100000 [] 1000) e212 = true := by kernel_rfl
theorem e216_runs : entB Tryz.prog X R 100000 (torc Tryz.prog X R 100000 [] 1000) e216 = true := by kernel_rfl
theorem e220_runs : entB Tryz.prog X R 100000 (torc Tryz.prog X R 100000 [] 1000) e220 = true := by kernel_rfl
theorem e224_runs : entB Tryz.prog X R 100000 (torc Tryz.prog X R 100000 [] 1000) e224 = true := by kernel_rfl
theorem e228_runs : entB Tryz.prog X R 100000 (torc Tryz.prog X R 100000 [] 1000) e228 = true := by kernel_rfl
theorem e232_runs : entB Tryz.prog X R 100000 (torc Tryz.prog X R 100000 [] 1000) e232 = true := by kernel_rfl
theorem e236_runs : entB Tryz.prog X R 100000 (torc Tryz.prog X R 100000 [e233, e234, e235] 1000) e236 = true := by kernel_rfl
theorem e240_runs : entB Tryz.prog X R 100000 (torc Tryz.prog X R 100000 [] 1000) e240 = true := by kernel_rfl
theorem e244_runs : entB Tryz.prog X R 100000 (torc Tryz.prog X R 100000 [] 1000) e244 = true := by kernel_rfl
theorem e248_runs : entB Tryz.prog X R 100000 (torc Tryz.prog X R 100000 [e245, e246, e83, e247, e244] 1000) e248 = true := by kernel_rfl
theorem e252_runs : entB Tryz.prog X R 100000 (torc Tryz.prog X R 100000 [] 1000) e252 = true := by kernel_rfl
theorem e256_runs : entB Tryz.prog X R 100000 (torc Tryz.prog X R 100000 [] 1000) e256 = true := by kernel_rfl
theorem e260_runs : entB Tryz.prog X R 100000 (torc Tryz.prog X R 100000 [] 1000) e260 = true := by kernel_rfl
theorem e264_runs : entB Tryz.prog X R 100000 (torc Tryz.prog X R 100000 [] 1000) e264 = true := by kernel_rfl
theorem e268_runs : entB Tryz.prog X R 100000 (torc Tryz.prog X R 100000 [] 1000) e268 = true := by kernel_rfl
theorem e272_runs : entB Tryz.prog X R 100000 (torc Tryz.prog X R 100000 [] 1000) e272 = true := by kernel_rfl
theorem e276_runs : entB Tryz.prog X R 100000 (torc Tryz.prog X R 100000 [] 1000) e276 = true := by kernel_rfl
theorem e280_runs : entB Tryz.prog X R 100000 (torc Tryz.prog X R 100000 [] 1000) e280 = true := by kernel_rfl
theorem e284_runs : entB Tryz.prog X R 100000 (torc Tryz.prog X R 100000 [] 1000) e284 = true := by kernel_rfl
theorem e288_runs : entB Tryz.prog X R 100000 (torc Tryz.prog X R 100000 [] 1000) e288 = true := by kernel_rfl
theorem e292_runs : entB Tryz.prog X R 100000 (torc Tryz.prog X R 100000 [] 1000) e292 = true := by kernel_rfl
theorem e296_runs : entB Tryz.prog X R 100000 (torc Tryz.prog X R 100000 [e111, e284, e295] 1000) e296 = true := by kernel_rfl
theorem e300_runs : entB Tryz.prog X R 100000 (torc Tryz.prog X R 100000 [] 1000) e300 = true := by kernel_rfl
theorem e304_runs : entB Tryz.prog X R 100000 (torc Tryz.prog X R 100000 [] 1000) e304 = true := by kernel_rfl
theorem e308_runs : entB Tryz.prog X R 100000 (torc Tryz.prog X R 100000 [e298, e307] 1000) e308 = true := by kernel_rfl
theorem e312_runs : entB Tryz.prog X R 100000 (torc Tryz.prog X R 100000 [] 1000) e312 = true := by kernel_rfl
theorem e316_runs : entB Tryz.prog X R 100000 (torc Tryz.prog X R 100000 [e311, e312, e313, e314, e315] 1000) e316 = true := by kernel_rfl

end Go.Proofs.YtocgigkkopmpeabGreat
