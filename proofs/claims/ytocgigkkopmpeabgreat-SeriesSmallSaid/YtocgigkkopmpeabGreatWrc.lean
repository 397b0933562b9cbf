/- Calls come to what is told of them, the calls in them answered by a table. No condition. -/
import Derived.Test.YtocgigkkopmpeabGreatWta
import Derived.Test.YtocgigkkopmpeabGreatWtb
namespace Go.Proofs.YtocgigkkopmpeabGreat
open Go Go.RowKit Go.Proofs.YtocgigkkopmpeabGreat.Canon

theorem e3_runs : entB Tryz.prog X R 100000 (torc Tryz.prog X R 100000 [] 1000) e3 = true := by kernel_rfl
theorem e7_runs : entB Tryz.prog X R 100000 (torc Tryz.prog X R 100000 [e6] 1000) e7 = true := by kernel_rfl
theorem e11_runs : entB Tryz.prog X R 100000 (torc Tryz.prog X R 100000 [e10] 1000) e11 = true := by kernel_rfl
theorem e15_runs : entB Tryz.prog X R 100000 (torc Tryz.prog X R 100000 [] 1000) e15 = true := by kernel_rfl
theorem e19_runs : entB Tryz.prog X R 100000 (torc Tryz.prog X R 100000 [] 1000) e19 = true := by kernel_rfl
theorem e23_runs : entB Tryz.prog X R 100000 (torc Tryz.prog X R 100000 [] 1000) e23 = true := by kernel_rfl
theorem e27_runs : entB Tryz.prog X R 100000 (torc Tryz.prog X R 100000 [] 1000) e27 = true := by kernel_rfl
theorem e31_runs : entB Tryz.prog X R 100000 (torc Tryz.prog X R 100000 [] 1000) e31 = true := by kernel_rfl
theorem e35_runs : entB Tryz.prog X R 100000 (torc Tryz.prog X R 100000 [] 1000) e35 = true := by kernel_rfl
theorem e39_runs : entB Tryz.prog X R 100000 (torc Tryz.prog X R 100000 [] 1000) e39 = true := by kernel_rfl
theorem e43_runs : entB Tryz.prog X R 100000 (torc Tryz.prog X R 100000 [e40, e42] 1000) e43 = true := by kernel_rfl
theorem e47_runs : entB Tryz.prog X R 100000 (torc Tryz.prog X R 100000 [] 1000) e47 = true := by kernel_rfl
theorem e51_runs : entB Tryz.prog X R 100000 (torc Tryz.prog X R 100000 [e47, e49, e50] 1000) e51 = true := by kernel_rfl
theorem e55_runs : entB Tryz.prog X R 100000 (torc Tryz.prog X R 100000 [] 1000) e55 = true := by kernel_rfl
theorem e59_runs : entB Tryz.prog X R 100000 (torc Tryz.prog X R 100000 [] 1000) e59 = true := by kernel_rfl
theorem e63_runs : entB Tryz.prog X R 100000 (torc Tryz.prog X R 100000 [] 1000) e63 = true := by kernel_rfl
theorem e67_runs : entB Tryz.prog X R 100000 (torc Tryz.prog X R 100000 [] 1000) e67 = true := by kernel_rfl
theorem e71_runs : entB Tryz.prog X R 100000 (torc Tryz.prog X R 100000 [] 1000) e71 = true := by kernel_rfl
theorem e75_runs : entB Tryz.prog X R 100000 (torc Tryz.prog X R 100000 [e62] 1000) e75 = true := by kernel_rfl
theorem e79_runs : entB Tryz.prog X R 100000 (torc Tryz.prog X R 100000 [] 1000) e79 = true := by kernel_rfl
theorem e83_runs : entB Tryz.prog X R 100000 (torc Tryz.prog X R 100000 [] 1000) e83 = true := by kernel_rfl
theorem e87_runs : entB Tryz.prog X R 100000 (torc Tryz.prog X R 100000 [] 1000) e87 = true := by kernel_rfl
theorem e91_runs : entB Tryz.prog X R 100000 (torc Tryz.prog X R 100000 [e84] 1000) e91 = true := by kernel_rfl
theorem e95_runs : entB Tryz.prog X R 100000 (torc Tryz.prog X R 100000 [] 1000) e95 = true := by kernel_rfl
theorem e99_runs : entB Tryz.prog X R 100000 (torc Tryz.prog X R 100000 [] 1000) e99 = true := by kernel_rfl
theorem e103_runs : entB Tryz.prog X R 100000 (torc Tryz.prog X R 100000 [e102] 1000) e103 = true := by kernel_rfl
theorem e107_runs : entB Tryz.prog X R 100000 (torc Tryz.prog X R 100000 [e97, e98, e100, e101, e103, e104, e106] 1000) e107 = true := by kernel_rfl
theorem e111_runs : entB Tryz.prog X R 100000 (torc Tryz.prog X R 100000 [e110] 1000) e111 = true := by kernel_rfl
theorem e115_runs : entB Tryz.prog X R 100000 (torc Tryz.prog X R 100000 [] 1000) e115 = true := by kernel_rfl
theorem e119_runs : entB Tryz.prog X R 100000 (torc Tryz.prog X R 100000 [] 1000) e119 = true := by kernel_rfl
theorem e123_runs : entB Tryz.prog X R 100000 (torc Tryz.prog X R 100000 [] 1000) e123 = true := by kernel_rfl
theorem e127_runs : entB Tryz.prog X R 100000 (torc Tryz.prog X R 100000 [] 1000) e127 = true := by kernel_rfl
theorem e131_runs : entB Tryz.prog X R 100000 (torc Tryz.prog X R 100000 [] 1000) e131 = true := by kernel_rfl
theorem e135_runs : entB Tryz.prog X R 100000 (torc Tryz.prog X R 100000 [] 1000) e135 = true := by kernel_rfl
theorem e139_runs : entB Tryz.prog X R 100000 (torc Tryz.prog X R 100000 [] 1000) e139 = true := by kernel_rfl
theorem e143_runs : entB Tryz.prog X R 100000 (torc Tryz.prog X R 100000 [] 1000) e143 = true := by kernel_rfl
theorem e147_runs : entB Tryz.prog X R 100000 (torc Tryz.prog X R 100000 [] 1000) e147 = true := by kernel_rfl
theorem e151_runs : entB Tryz.prog X R 100000 (torc Tryz.prog X R 100000 [] 1000) e151 = true := by kernel_rfl
theorem e155_runs : entB Tryz.prog X R 100000 (torc Tryz.prog X R 100000 [] 1000) e155 = true := by kernel_rfl
theorem e159_runs : entB Tryz.prog X R 100000 (torc Tryz.prog X R 100000 [] 1000) e159 = true := by kernel_rfl
theorem e163_runs : entB Tryz.prog X R 100000 (torc Tryz.prog X R 100000 [e162] 1000) e163 = true := by kernel_rfl
theorem e167_runs : entB Tryz.prog X R 100000 (torc Tryz.prog X R 100000 [] 1000) e167 = true := by kernel_rfl
theorem e171_runs : entB Tryz.prog X R 100000 (torc Tryz.prog X R 100000 [e166, e170] 1000) e171 = true := by kernel_rfl
theorem e175_runs : entB Tryz.prog X R 100000 (torc Tryz.prog X R 100000 [] 1000) e175 = true := by kernel_rfl
theorem e179_runs : entB Tryz.prog X R 100000 (torc Tryz.prog X R 100000 [e111] 1000) e179 = true := by kernel_rfl
theorem e183_runs : entB Tryz.prog X R 100000 (torc Tryz.prog X R 100000 [] 1000) e183 = true := by kernel_rfl
theorem e187_runs : entB Tryz.prog X R 100000 (torc Tryz.prog X R 100000 [] 1000) e187 = true := by kernel_rfl
theorem e191_runs : entB Tryz.prog X R 100000 (torc Tryz.prog X R 100000 [e181, e190] 1000) e191 = true := by kernel_rfl
theorem e195_runs : entB Tryz.prog X R 100000 (torc Tryz.prog X R 100000 [] 1000) e195 = true := by kernel_rfl
theorem e199_runs : entB Tryz.prog X R 100000 (torc Tryz.prog X R 100000 [] 1000) e199 = true := by kernel_rfl
theorem e203_runs : entB Tryz.prog X R 100000 (torc Tryz.prog X R 100000 [e175] 1000) e203 = true := by kernel_rfl
theorem e207_runs : entB Tryz.prog X R 100000 (torc Tryz.prog X R 100000 [] 1000) e207 = true := by kernel_rfl
theorem e211_runs : entB Tryz.prog X R 100000 (torc Tryz.prog X R 100000 [] 1000) e211 = true := by kernel_rfl
theorem e215_runs : entB Tryz.prog X R 100000 (torc Tryz.prog X R 100000 [] 1000) e215 = true := by kernel_rfl
theorem e219_runs : entB Tryz.prog X R 100000 (torc Tryz.prog X R 100000 [] 1000) e219 = true := by kernel_rfl
theorem e223_runs : entB Tryz.prog X R 100000 (torc Tryz.prog X R 100000 [] 1000) e223 = true := by kernel_rfl
theorem e227_runs : entB Tryz.prog X R 100000 (torc Tryz.prog X R 100000 [] 1000) e227 = true := by kernel_rfl
theorem e231_runs : entB Tryz.prog X R 100000 (torc Tryz.prog X R 100000 [] 1000) e231 = true := by kernel_rfl
theorem e235_runs : entB Tryz.prog X R 100000 (torc Tryz.prog X R 100000 [] 1000) e235 = true := by kernel_rfl
theorem e239_runs : entB Tryz.prog X R 100000 (torc Tryz.prog X R 100000 [] 1000) e239 = true := by kernel_rfl
theorem e243_runs : entB Tryz.prog X R 100000 (torc Tryz.prog X R 100000 [] 1000) e243 = true := by kernel_rfl
theorem e247_runs : entB Tryz.prog X R 100000 (torc Tryz.prog X R 100000 [e242] 1000) e247 = true := by kernel_rfl
theorem e251_runs : entB Tryz.prog X R 100000 (torc Tryz.prog X R 100000 [e250] 1000) e251 = true := by kernel_rfl
theorem e255_runs : entB Tryz.prog X R 100000 (torc Tryz.prog X R 100000 [] 1000) e255 = true := by kernel_rfl
theorem e259_runs : entB Tryz.prog X R 100000 (torc Tryz.prog X R 100000 [] 1000) e259 = true := by kernel_rfl
theorem e263_runs : entB Tryz.prog X R 100000 (torc Tryz.prog X R 100000 [] 1000) e263 = true := by kernel_rfl
theorem e267_runs : entB Tryz.prog X R 100000 (torc Tryz.prog X R 100000 [] 1000) e267 = true := by kernel_rfl
theorem e271_runs : entB Tryz.prog X R 100000 (torc Tryz.prog X R 100000 [e258, e260] 1000) e271 = true := by kernel_rfl
theorem e275_runs : entB Tryz.prog X R 100000 (torc Tryz.prog X R 100000 [e251, e274] 1000) e275 = true := by kernel_rfl
theorem e279_runs : entB Tryz.prog X R 100000 (torc Tryz.prog X R 100000 [] 1000) e279 = true := by kernel_rfl
theorem e283_runs : entB Tryz.prog X R 100000 (torc Tryz.prog X R 100000 [e277, e282] 1000) e283 = true := by kernel_rfl
theorem e287_runs : entB Tryz.prog X R 100000 (torc Tryz.prog X R 100000 [] 1000) e287 = true := by kernel_rfl
theorem e291_runs : entB Tryz.prog X R 100000 (torc Tryz.prog X R 100000 [] 1000) e291 = true := by kernel_rfl
theorem e295_runs : entB Tryz.prog X R 100000 (torc Tryz.prog X R 100000 [e293, e294, e290, e292] 1000) e295 = true := by kernel_rfl
theorem e299_runs : entB Tryz.prog X R 100000 (torc Tryz.prog X R 100000 [] 1000) e299 = true := by kernel_rfl
theorem e303_runs : entB Tryz.prog X R 100000 (torc Tryz.prog X R 100000 [] 1000) e303 = true := by kernel_rfl
theorem e307_runs : entB Tryz.prog X R 100000 (torc Tryz.prog X R 100000 [e305, e306, e304] 1000) e307 = true := by kernel_rfl
theorem e311_runs : entB Tryz.prog X R 100000 (torc Tryz.prog X R 100000 [] 1000) e311 = true := by kernel_rfl
theorem e315_runs : entB Tryz.prog X R 100000 (torc Tryz.prog X R 100000 [] 1000) e315 = true := by kernel_rfl

end Go.Proofs.YtocgigkkopmpeabGreat
