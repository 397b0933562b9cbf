/- Calls come to what is told of them, the calls in them answered by a table. No condition. -/
import Derived.Test.YtocgigkkopmpeabGreatWta
import Derived.Test.YtocgigkkopmpeabGreatWtb
namespace Go.Proofs.YtocgigkkopmpeabGreat
open Go Go.RowKit Go.Proofs.YtocgigkkopmpeabGreat.Canon

theorem e2_runs : entB Tryz.prog X R 100000 (torc Tryz.prog X R 100000 [] 1000) e2 = true := by kernel_rfl
theorem e6_runs : entB Tryz.prog X R 100000 (torc Tryz.prog X R 100000 [] 1000) e6 = true := by kernel_rfl
theorem e10_runs : entB Tryz.prog X R 100000 (torc Tryz.prog X R 100000 [e8, e9] 1000) e10 = true := by kernel_rfl
theorem e14_runs : entB Tryz.prog X R 100000 (torc Tryz.prog X R 100000 [] 1000) e14 = true := by kernel_rfl
theorem e18_runs : entB Tryz.prog X R 100000 (torc Tryz.prog X R 100000 [e17] 1000) e18 = true := by kernel_rfl
theorem e22_runs : entB Tryz.prog X R 100000 (torc Tryz.prog X R 100000 [e19, e20, e21] 1000) e22 = true := by kernel_rfl
theorem e26_runs : entB Tryz.prog X R 100000 (torc Tryz.prog X R 100000 [] 1000) e26 = true := by kernel_rfl
theorem e30_runs : entB Tryz.prog X R 100000 (torc Tryz.prog X R 100000 [] 1000) e30 = true := by kernel_rfl
theorem e34_runs : entB Tryz.prog X R 100000 (torc Tryz.prog X R 100000 [] 1000) e34 = true := by kernel_rfl
theorem e38_runs : entB Tryz.prog X R 100000 (torc Tryz.prog X R 100000 [] 1000) e38 = true := by kernel_rfl
theorem e42_runs : entB Tryz.prog X R 100000 (torc Tryz.prog X R 100000 [] 1000) e42 = true := by kernel_rfl
theorem e46_runs : entB Tryz.prog X R 100000 (torc Tryz.prog X R 100000 [] 1000) e46 = true := by kernel_rfl
theorem e50_runs : entB Tryz.prog X R 100000 (torc Tryz.prog X R 100000 [] 1000) e50 = true := by kernel_rfl
theorem e54_runs : entB Tryz.prog X R 100000 (torc Tryz.prog X R 100000 [] 1000) e54 = true := by kernel_rfl
theorem e58_runs : entB Tryz.prog X R 100000 (torc Tryz.prog X R 100000 [] 1000) e58 = true := by kernel_rfl
theorem e62_runs : entB Tryz.prog X R 100000 (torc Tryz.prog X R 100000 [] 1000) e62 = true := by kernel_rfl
theorem e66_runs : entB Tryz.prog X R 100000 (torc Tryz.prog X R 100000 [] 1000) e66 = true := by kernel_rfl
theorem e70_runs : entB Tryz.prog X R 100000 (torc Tryz.prog X R 100000 [] 1000) e70 = true := by kernel_rfl
theorem e74_runs : entB Tryz.prog X R 100000 (torc Tryz.prog X R 100000 [] 1000) e74 = true := by kernel_rfl
theorem e78_runs : entB Tryz.prog X R 100000 (torc Tryz.prog X R 100000 [e54, e55, e77] 1000) e78 = true := by kernel_rfl
theorem e82_runs : entB Tryz.prog X R 100000 (torc Tryz.prog X R 100000 [] 1000) e82 = true := by kernel_rfl
theorem e86_runs : entB Tryz.prog X R 100000 (torc Tryz.prog X R 100000 [] 1000) e86 = true := by kernel_rfl
theorem e90_runs : entB Tryz.prog X R 100000 (torc Tryz.prog X R 100000 [] 1000) e90 = true := by kernel_rfl
theorem e94_runs : entB Tryz.prog X R 100000 (torc Tryz.prog X R 100000 [] 1000) e94 = true := by kernel_rfl
theorem e98_runs : entB Tryz.prog X R 100000 (torc Tryz.prog X R 100000 [] 1000) e98 = true := by kernel_rfl
theorem e102_runs : entB Tryz.prog X R 100000 (torc Tryz.prog X R 100000 [] 1000) e102 = true := by kernel_rfl
theorem e106_runs : entB Tryz.prog X R 100000 (torc Tryz.prog X R 100000 [e99, e105] 1000) e106 = true := by kernel_rfl
theorem e110_runs : entB Tryz.prog X R 100000 (torc Tryz.prog X R 100000 [] 1000) e110 = true := by kernel_rfl
theorem e114_runs : entB Tryz.prog X R 100000 (torc Tryz.prog X R 100000 [] 1000) e114 = true := by kernel_rfl
theorem e118_runs : entB Tryz.prog X R 100000 (torc Tryz.prog X R 100000 [] 1000) e118 = true := by kernel_rfl
theorem e122_runs : entB Tryz.prog X R 100000 (torc Tryz.prog X R 100000 [] 1000) e122 = true := by kernel_rfl
theorem e126_runs : entB Tryz.prog X R 100000 (torc Tryz.prog X R 100000 [] 1000) e126 = true := by kernel_rfl
theorem e130_runs : entB Tryz.prog X R 100000 (torc Tryz.prog X R 100000 [] 1000) e130 = true := by kernel_rfl
theorem e134_runs : entB Tryz.prog X R 100000 (torc Tryz.prog X R 100000 [] 1000) e134 = true := by kernel_rfl
theorem e138_runs : entB Tryz.prog X R 100000 (torc Tryz.prog X R 100000 [] 1000) e138 = true := by kernel_rfl
theorem e142_runs : entB Tryz.prog X R 100000 (torc Tryz.prog X R 100000 [] 1000) e142 = true := by kernel_rfl
theorem e146_runs : entB Tryz.prog X R 100000 (torc Tryz.prog X R 100000 [] 1000) e146 = true := by kernel_rfl
theorem e150_runs : entB Tryz.prog X R 100000 (torc Tryz.prog X R 100000 [] 1000) e150 = true := by kernel_rfl
theorem e154_runs : entB Tryz.prog X R 100000 (torc Tryz.prog X R 100000 [] 1000) e154 = true := by kernel_rfl
theorem e158_runs : entB Tryz.prog X R 100000 (torc Tryz.prog X R 100000 [] 1000) e158 = true := by kernel_rfl
theorem e162_runs : entB Tryz.prog X R 100000 (torc Tryz.prog X R 100000 [e160, e161] 1000) e162 = true := by kernel_rfl
theorem e166_runs : entB Tryz.prog X R 100000 (torc Tryz.prog X R 100000 [e165] 1000) e166 = true := by kernel_rfl
theorem e170_runs : entB Tryz.prog X R 100000 (torc Tryz.prog X R 100000 [e169] 1000) e170 = true := by kernel_rfl
theorem e174_runs : entB Tryz.prog X R 100000 (torc Tryz.prog X R 100000 [] 1000) e174 = true := by kernel_rfl
theorem e178_runs : entB Tryz.prog X R 100000 (torc Tryz.prog X R 100000 [e111] 1000) e178 = true := by kernel_rfl
theorem e182_runs : entB Tryz.prog X R 100000 (torc Tryz.prog X R 100000 [] 1000) e182 = true := by kernel_rfl
theorem e186_runs : entB Tryz.prog X R 100000 (torc Tryz.prog X R 100000 [] 1000) e186 = true := by kernel_rfl
theorem e190_runs : entB Tryz.prog X R 100000 (torc Tryz.prog X R 100000 [e182, e183, e185, e186, e188, e189] 1000) e190 = true := by kernel_rfl
theorem e194_runs : entB Tryz.prog X R 100000 (torc Tryz.prog X R 100000 [] 1000) e194 = true := by kernel_rfl
theorem e198_runs : entB Tryz.prog X R 100000 (torc Tryz.prog X R 100000 [] 1000) e198 = true := by kernel_rfl
theorem e202_runs : entB Tryz.prog X R 100000 (torc Tryz.prog X R 100000 [e111, e201] 1000) e202 = true := by kernel_rfl
theorem e206_runs : entB Tryz.prog X R 100000 (torc Tryz.prog X R 100000 [] 1000) e206 = true := by kernel_rfl
theorem e210_runs : entB Tryz.prog X R 100000 (torc Tryz.prog X R 100000 [e203, e209] 1000) e210 = true := by kernel_rfl
theorem e214_runs : entB Tryz.prog X R 100000 (torc Tryz.prog X R 100000 [] 1000) e214 = true := by kernel_rfl
theorem e218_runs : entB Tryz.prog X R 100000 (torc Tryz.prog X R 100000 [] 1000) e218 = true := by kernel_rfl
theorem e222_runs : entB Tryz.prog X R 100000 (torc Tryz.prog X R 100000 [] 1000) e222 = true := by kernel_rfl
theorem e226_runs : entB Tryz.prog X R 100000 (torc Tryz.prog X R 100000 [] 1000) e226 = true := by kernel_rfl
theorem e230_runs : entB Tryz.prog X R 100000 (torc Tryz.prog X R 100000 [] 1000) e230 = true := by kernel_rfl
theorem e234_runs : entB Tryz.prog X R 100000 (torc Tryz.prog X R 100000 [] 1000) e234 = true := by kernel_rfl
theorem e238_runs : entB Tryz.prog X R 100000 (torc Tryz.prog X R 100000 [e203, e205, e207, e211, e212, e213, e214, e215, e216, e217, e218, e219, e220, e221, e222, e223, e224, e225, e226, e227, e228, e229, e230, e231, e232, e237] 1000) e238 = true := by kernel_rfl
theorem e242_runs : entB Tryz.prog X R 100000 (torc Tryz.prog X R 100000 [] 1000) e242 = true := by kernel_rfl
theorem e246_runs : entB Tryz.prog X R 100000 (torc Tryz.prog X R 100000 [] 1000) e246 = true := by kernel_rfl
theorem e250_runs : entB Tryz.prog X R 100000 (torc Tryz.prog X R 100000 [] 1000) e250 = true := by kernel_rfl
theorem e254_runs : entB Tryz.prog X R 100000 (torc Tryz.prog X R 100000 [] 1000) e254 = true := by kernel_rfl
theorem e258_runs : entB Tryz.prog X R 100000 (torc Tryz.prog X R 100000 [] 1000) e258 = true := by kernel_rfl
theorem e262_runs : entB Tryz.prog X R 100000 (torc Tryz.prog X R 100000 [] 1000) e262 = true := by kernel_rfl
theorem e266_runs : entB Tryz.prog X R 100000 (torc Tryz.prog X R 100000 [e252, e253, e254, e255, e256, e257, e258, e259, e260, e261, e262, e263, e264, e265] 1000) e266 = true := by kernel_rfl
theorem e270_runs : entB Tryz.prog X R 100000 (torc Tryz.prog X R 100000 [] 1000) e270 = true := by kernel_rfl
theorem e274_runs : entB Tryz.prog X R 100000 (torc Tryz.prog X R 100000 [e266, e267, e268, e269, e270, e271, e272, e273, e265] 1000) e274 = true := by kernel_rfl
theorem e278_runs : entB Tryz.prog X R 100000 (torc Tryz.prog X R 100000 [] 1000) e278 = true := by kernel_rfl
theorem e282_runs : entB Tryz.prog X R 100000 (torc Tryz.prog X R 100000 [e278, e279, e280, e281] 1000) e282 = true := by kernel_rfl
theorem e286_runs : entB Tryz.prog X R 100000 (torc Tryz.prog X R 100000 [] 1000) e286 = true := by kernel_rfl
theorem e290_runs : entB Tryz.prog X R 100000 (torc Tryz.prog X R 100000 [] 1000) e290 = true := by kernel_rfl
theorem e294_runs : entB Tryz.prog X R 100000 (torc Tryz.prog X R 100000 [] 1000) e294 = true := by kernel_rfl
theorem e298_runs : entB Tryz.prog X R 100000 (torc Tryz.prog X R 100000 [e297] 1000) e298 = true := by kernel_rfl
theorem e302_runs : entB Tryz.prog X R 100000 (torc Tryz.prog X R 100000 [] 1000) e302 = true := by kernel_rfl
theorem e306_runs : entB Tryz.prog X R 100000 (torc Tryz.prog X R 100000 [] 1000) e306 = true := by kernel_rfl
theorem e310_runs : entB Tryz.prog X R 100000 (torc Tryz.prog X R 100000 [e309] 1000) e310 = true := by kernel_rfl
theorem e314_runs : entB Tryz.prog X R 100000 (torc Tryz.prog X R 100000 [] 1000) e314 = true := by kernel_rfl
theorem e318_runs : entB Tryz.prog X R 100000 (torc Tryz.prog X R 100000 [e109, e202, e174, e210, e238, e249, e275, e283, e296, e308, e317] 1000) e318 = true := by kernel_rfl

end Go.Proofs.YtocgigkkopmpeabGreat
