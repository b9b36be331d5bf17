/-
  PLAIN: the Go function lintel/lintellaw25.CureKnown, called in one state of a run: run in pieces by the evaluator, which is sound.
-/
import Derived.Test.YtninnodoofafpaaGreatDoorChecked
import Derived.Test.YtninnodoofafpaaGreatDoorPrCureKnown0T0
import Derived.Test.YtninnodoofafpaaGreatDoorPrCureKnown0T1
import Derived.Test.YtninnodoofafpaaGreatDoorPrCureKnown0T2
import Derived.Test.YtninnodoofafpaaGreatDoorPrCureKnown0T3
import Derived.Test.YtninnodoofafpaaGreatDoorPrCureKnown0T4
namespace Go.Proofs.YtninnodoofafpaaGreatDoor.rCureKnown0
open Go.RowKit Ev
theorem g316 : GoodM Tryz.prog Tryz.f3 s0 v1 s1 S316 n316 L316 e216 t158 := GoodM.done c316
theorem g315 : GoodM Tryz.prog Tryz.f3 s0 v1 s1 S315 n315 L315 e216 t158 := GoodM.nav3 (n := 2) g316
theorem g314 : GoodM Tryz.prog Tryz.f3 s0 v1 s1 S314 n314 L314 e215 t157 := by rw [z314]; exact GoodM.ops (named_of namesOk) hF0 c314 g315
theorem g313 : GoodM Tryz.prog Tryz.f3 s0 v1 s1 S313 n313 L313 e214 t157 := GoodM.back c313 g314
theorem g312 : GoodM Tryz.prog Tryz.f3 s0 v1 s1 S312 n312 L312 e214 t157 := GoodM.nav3 (n := 2) g313
theorem g311 : GoodM Tryz.prog Tryz.f3 s0 v1 s1 S311 n311 L311 e213 t156 := by rw [z311]; exact GoodM.ops (named_of namesOk) hF0 c311 g312
theorem g310 : GoodM Tryz.prog Tryz.f3 s0 v1 s1 S310 n310 L310 e212 t156 := GoodM.back c310 g311
theorem g309 : GoodM Tryz.prog Tryz.f3 s0 v1 s1 S309 n309 L309 e211 t155 := GoodM.step hG c309 g310
theorem g308 : GoodM Tryz.prog Tryz.f3 s0 v1 s1 S308 n308 L308 e210 t154 := GoodM.step hG c308 g309
theorem g307 : GoodM Tryz.prog Tryz.f3 s0 v1 s1 S307 n307 L307 e209 t154 := by rw [z307]; exact GoodM.enter (named_of namesOk) c307 g308
theorem g306 : GoodM Tryz.prog Tryz.f3 s0 v1 s1 S306 n306 L306 e208 t153 := by rw [z306]; exact GoodM.ops (named_of namesOk) hF0 c306 g307
theorem g305 : GoodM Tryz.prog Tryz.f3 s0 v1 s1 S305 n305 L305 e208 t153 := GoodM.nav3 (n := 1) g306
theorem g304 : GoodM Tryz.prog Tryz.f3 s0 v1 s1 S304 n304 L304 e207 t152 := GoodM.step hG c304 g305
theorem g303 : GoodM Tryz.prog Tryz.f3 s0 v1 s1 S303 n303 L303 e206 t152 := by rw [z303]; exact GoodM.enter (named_of namesOk) c303 g304
theorem g302 : GoodM Tryz.prog Tryz.f3 s0 v1 s1 S302 n302 L302 e205 t151 := by rw [z302]; exact GoodM.ops (named_of namesOk) hF0 c302 g303
theorem g301 : GoodM Tryz.prog Tryz.f3 s0 v1 s1 S301 n301 L301 e205 t151 := GoodM.nav3 (n := 3) g302
theorem g300 : GoodM Tryz.prog Tryz.f3 s0 v1 s1 S300 n300 L300 e204 t150 := by rw [z300]; exact GoodM.ops (named_of namesOk) hF0 c300 g301
theorem g299 : GoodM Tryz.prog Tryz.f3 s0 v1 s1 S299 n299 L299 e203 t150 := GoodM.back c299 g300
theorem g298 : GoodM Tryz.prog Tryz.f3 s0 v1 s1 S298 n298 L298 e202 t149 := GoodM.step hG c298 g299
theorem g297 : GoodM Tryz.prog Tryz.f3 s0 v1 s1 S297 n297 L297 e202 t149 := GoodM.nav3 (n := 2) g298
theorem g296 : GoodM Tryz.prog Tryz.f3 s0 v1 s1 S296 n296 L296 e201 t148 := by rw [z296]; exact GoodM.ops (named_of namesOk) hF0 c296 g297
theorem g295 : GoodM Tryz.prog Tryz.f3 s0 v1 s1 S295 n295 L295 e200 t148 := GoodM.back c295 g296
theorem g294 : GoodM Tryz.prog Tryz.f3 s0 v1 s1 S294 n294 L294 e199 t147 := GoodM.step hG c294 g295
theorem g293 : GoodM Tryz.prog Tryz.f3 s0 v1 s1 S293 n293 L293 e198 t146 := GoodM.step hG c293 g294
theorem g292 : GoodM Tryz.prog Tryz.f3 s0 v1 s1 S292 n292 L292 e197 t146 := by rw [z292]; exact GoodM.enter (named_of namesOk) c292 g293
theorem g291 : GoodM Tryz.prog Tryz.f3 s0 v1 s1 S291 n291 L291 e196 t145 := by rw [z291]; exact GoodM.ops (named_of namesOk) hF0 c291 g292
theorem g290 : GoodM Tryz.prog Tryz.f3 s0 v1 s1 S290 n290 L290 e196 t145 := GoodM.nav3 (n := 1) g291
theorem g289 : GoodM Tryz.prog Tryz.f3 s0 v1 s1 S289 n289 L289 e195 t144 := GoodM.step hG c289 g290
theorem g288 : GoodM Tryz.prog Tryz.f3 s0 v1 s1 S288 n288 L288 e194 t144 := by rw [z288]; exact GoodM.enter (named_of namesOk) c288 g289
theorem g287 : GoodM Tryz.prog Tryz.f3 s0 v1 s1 S287 n287 L287 e193 t143 := by rw [z287]; exact GoodM.ops (named_of namesOk) hF0 c287 g288
theorem g286 : GoodM Tryz.prog Tryz.f3 s0 v1 s1 S286 n286 L286 e193 t143 := GoodM.nav3 (n := 1) g287
theorem g285 : GoodM Tryz.prog Tryz.f3 s0 v1 s1 S285 n285 L285 e192 t142 := GoodM.step hG c285 g286
theorem g284 : GoodM Tryz.prog Tryz.f3 s0 v1 s1 S284 n284 L284 e192 t142 := GoodM.nav3 (n := 2) g285
theorem g283 : GoodM Tryz.prog Tryz.f3 s0 v1 s1 S283 n283 L283 e191 t141 := by rw [z283]; exact GoodM.ops (named_of namesOk) hF0 c283 g284
theorem g282 : GoodM Tryz.prog Tryz.f3 s0 v1 s1 S282 n282 L282 e190 t141 := GoodM.back c282 g283
theorem g281 : GoodM Tryz.prog Tryz.f3 s0 v1 s1 S281 n281 L281 e189 t140 := GoodM.step hG c281 g282
theorem g280 : GoodM Tryz.prog Tryz.f3 s0 v1 s1 S280 n280 L280 e189 t140 := GoodM.nav3 (n := 2) g281
theorem g279 : GoodM Tryz.prog Tryz.f3 s0 v1 s1 S279 n279 L279 e188 t139 := by rw [z279]; exact GoodM.ops (named_of namesOk) hF0 c279 g280
theorem g278 : GoodM Tryz.prog Tryz.f3 s0 v1 s1 S278 n278 L278 e187 t139 := GoodM.back c278 g279
theorem g277 : GoodM Tryz.prog Tryz.f3 s0 v1 s1 S277 n277 L277 e186 t138 := GoodM.step hG c277 g278
theorem g276 : GoodM Tryz.prog Tryz.f3 s0 v1 s1 S276 n276 L276 e186 t138 := GoodM.nav3 (n := 3) g277
theorem g275 : GoodM Tryz.prog Tryz.f3 s0 v1 s1 S275 n275 L275 e185 t137 := GoodM.step hG c275 g276
theorem g274 : GoodM Tryz.prog Tryz.f3 s0 v1 s1 S274 n274 L274 e185 t137 := GoodM.nav3 (n := 1) g275
theorem g273 : GoodM Tryz.prog Tryz.f3 s0 v1 s1 S273 n273 L273 e184 t136 := GoodM.rounds hG x273 y273 c273 g274
theorem g272 : GoodM Tryz.prog Tryz.f3 s0 v1 s1 S272 n272 L272 e183 t135 := GoodM.rounds hG x272 y272 c272 g273
theorem g271 : GoodM Tryz.prog Tryz.f3 s0 v1 s1 S271 n271 L271 e182 t134 := GoodM.rounds hG x271 y271 c271 g272
theorem g270 : GoodM Tryz.prog Tryz.f3 s0 v1 s1 S270 n270 L270 e182 t134 := GoodM.nav3 (n := 1) g271
theorem g269 : GoodM Tryz.prog Tryz.f3 s0 v1 s1 S269 n269 L269 e181 t133 := GoodM.step hG c269 g270
theorem g268 : GoodM Tryz.prog Tryz.f3 s0 v1 s1 S268 n268 L268 e181 t133 := GoodM.nav3 (n := 2) g269
theorem g267 : GoodM Tryz.prog Tryz.f3 s0 v1 s1 S267 n267 L267 e180 t132 := GoodM.step hG c267 g268
theorem g266 : GoodM Tryz.prog Tryz.f3 s0 v1 s1 S266 n266 L266 e180 t132 := GoodM.nav3 (n := 2) g267
theorem g265 : GoodM Tryz.prog Tryz.f3 s0 v1 s1 S265 n265 L265 e179 t132 := GoodM.back c265 g266
theorem g264 : GoodM Tryz.prog Tryz.f3 s0 v1 s1 S264 n264 L264 e178 t131 := GoodM.step hG c264 g265
theorem g263 : GoodM Tryz.prog Tryz.f3 s0 v1 s1 S263 n263 L263 e178 t131 := GoodM.nav3 (n := 2) g264
theorem g262 : GoodM Tryz.prog Tryz.f3 s0 v1 s1 S262 n262 L262 e177 t130 := by rw [z262]; exact GoodM.ops (named_of namesOk) hF0 c262 g263
theorem g261 : GoodM Tryz.prog Tryz.f3 s0 v1 s1 S261 n261 L261 e176 t130 := GoodM.back c261 g262
theorem g260 : GoodM Tryz.prog Tryz.f3 s0 v1 s1 S260 n260 L260 e175 t129 := GoodM.step hG c260 g261
theorem g259 : GoodM Tryz.prog Tryz.f3 s0 v1 s1 S259 n259 L259 e174 t128 := GoodM.step hG c259 g260
theorem g258 : GoodM Tryz.prog Tryz.f3 s0 v1 s1 S258 n258 L258 e173 t128 := by rw [z258]; exact GoodM.enter (named_of namesOk) c258 g259
theorem g257 : GoodM Tryz.prog Tryz.f3 s0 v1 s1 S257 n257 L257 e172 t127 := by rw [z257]; exact GoodM.ops (named_of namesOk) hF0 c257 g258
theorem g256 : GoodM Tryz.prog Tryz.f3 s0 v1 s1 S256 n256 L256 e172 t127 := GoodM.nav3 (n := 1) g257
theorem g255 : GoodM Tryz.prog Tryz.f3 s0 v1 s1 S255 n255 L255 e171 t127 := by rw [z255]; exact GoodM.enter (named_of namesOk) c255 g256
theorem g254 : GoodM Tryz.prog Tryz.f3 s0 v1 s1 S254 n254 L254 e170 t126 := by rw [z254]; exact GoodM.ops (named_of namesOk) hF0 c254 g255
theorem g253 : GoodM Tryz.prog Tryz.f3 s0 v1 s1 S253 n253 L253 e170 t126 := GoodM.nav3 (n := 1) g254
theorem g252 : GoodM Tryz.prog Tryz.f3 s0 v1 s1 S252 n252 L252 e169 t125 := GoodM.step hG c252 g253
theorem g251 : GoodM Tryz.prog Tryz.f3 s0 v1 s1 S251 n251 L251 e169 t125 := GoodM.nav3 (n := 1) g252
theorem g250 : GoodM Tryz.prog Tryz.f3 s0 v1 s1 S250 n250 L250 e168 t124 := GoodM.step hG c250 g251
theorem g249 : GoodM Tryz.prog Tryz.f3 s0 v1 s1 S249 n249 L249 e168 t124 := GoodM.nav3 (n := 1) g250
theorem g248 : GoodM Tryz.prog Tryz.f3 s0 v1 s1 S248 n248 L248 e167 t123 := GoodM.rounds hG x248 y248 c248 g249
theorem g247 : GoodM Tryz.prog Tryz.f3 s0 v1 s1 S247 n247 L247 e167 t123 := GoodM.nav3 (n := 1) g248
theorem g246 : GoodM Tryz.prog Tryz.f3 s0 v1 s1 S246 n246 L246 e166 t122 := GoodM.step hG c246 g247
theorem g245 : GoodM Tryz.prog Tryz.f3 s0 v1 s1 S245 n245 L245 e166 t122 := GoodM.nav3 (n := 2) g246
theorem g244 : GoodM Tryz.prog Tryz.f3 s0 v1 s1 S244 n244 L244 e165 t121 := GoodM.step hG c244 g245
theorem g243 : GoodM Tryz.prog Tryz.f3 s0 v1 s1 S243 n243 L243 e165 t121 := GoodM.nav3 (n := 2) g244
theorem g242 : GoodM Tryz.prog Tryz.f3 s0 v1 s1 S242 n242 L242 e164 t121 := GoodM.back c242 g243
theorem g241 : GoodM Tryz.prog Tryz.f3 s0 v1 s1 S241 n241 L241 e163 t120 := GoodM.step hG c241 g242
theorem g240 : GoodM Tryz.prog Tryz.f3 s0 v1 s1 S240 n240 L240 e163 t120 := GoodM.nav3 (n := 2) g241
theorem g239 : GoodM Tryz.prog Tryz.f3 s0 v1 s1 S239 n239 L239 e162 t119 := by rw [z239]; exact GoodM.ops (named_of namesOk) hF0 c239 g240
theorem g238 : GoodM Tryz.prog Tryz.f3 s0 v1 s1 S238 n238 L238 e161 t119 := GoodM.back c238 g239
theorem g237 : GoodM Tryz.prog Tryz.f3 s0 v1 s1 S237 n237 L237 e160 t118 := GoodM.step hG c237 g238
theorem g236 : GoodM Tryz.prog Tryz.f3 s0 v1 s1 S236 n236 L236 e159 t117 := GoodM.step hG c236 g237
theorem g235 : GoodM Tryz.prog Tryz.f3 s0 v1 s1 S235 n235 L235 e158 t117 := by rw [z235]; exact GoodM.enter (named_of namesOk) c235 g236
theorem g234 : GoodM Tryz.prog Tryz.f3 s0 v1 s1 S234 n234 L234 e157 t116 := by rw [z234]; exact GoodM.ops (named_of namesOk) hF0 c234 g235
theorem g233 : GoodM Tryz.prog Tryz.f3 s0 v1 s1 S233 n233 L233 e157 t116 := GoodM.nav3 (n := 1) g234
theorem g232 : GoodM Tryz.prog Tryz.f3 s0 v1 s1 S232 n232 L232 e156 t116 := by rw [z232]; exact GoodM.enter (named_of namesOk) c232 g233
theorem g231 : GoodM Tryz.prog Tryz.f3 s0 v1 s1 S231 n231 L231 e155 t115 := by rw [z231]; exact GoodM.ops (named_of namesOk) hF0 c231 g232
theorem g230 : GoodM Tryz.prog Tryz.f3 s0 v1 s1 S230 n230 L230 e155 t115 := GoodM.nav3 (n := 1) g231
theorem g229 : GoodM Tryz.prog Tryz.f3 s0 v1 s1 S229 n229 L229 e154 t114 := GoodM.step hG c229 g230
theorem g228 : GoodM Tryz.prog Tryz.f3 s0 v1 s1 S228 n228 L228 e154 t114 := GoodM.nav3 (n := 1) g229
theorem g227 : GoodM Tryz.prog Tryz.f3 s0 v1 s1 S227 n227 L227 e153 t113 := GoodM.step hG c227 g228
theorem g226 : GoodM Tryz.prog Tryz.f3 s0 v1 s1 S226 n226 L226 e153 t113 := GoodM.nav3 (n := 1) g227
theorem g225 : GoodM Tryz.prog Tryz.f3 s0 v1 s1 S225 n225 L225 e152 t112 := GoodM.rounds hG x225 y225 c225 g226
theorem g224 : GoodM Tryz.prog Tryz.f3 s0 v1 s1 S224 n224 L224 e152 t112 := GoodM.nav3 (n := 2) g225
theorem g223 : GoodM Tryz.prog Tryz.f3 s0 v1 s1 S223 n223 L223 e151 t111 := GoodM.step hG c223 g224
theorem g222 : GoodM Tryz.prog Tryz.f3 s0 v1 s1 S222 n222 L222 e150 t111 := by rw [z222]; exact GoodM.enter (named_of namesOk) c222 g223
theorem g221 : GoodM Tryz.prog Tryz.f3 s0 v1 s1 S221 n221 L221 e149 t110 := by rw [z221]; exact GoodM.ops (named_of namesOk) hF0 c221 g222
theorem g220 : GoodM Tryz.prog Tryz.f3 s0 v1 s1 S220 n220 L220 e149 t110 := GoodM.nav3 (n := 1) g221
theorem g219 : GoodM Tryz.prog Tryz.f3 s0 v1 s1 S219 n219 L219 e148 t109 := GoodM.step hG c219 g220
theorem g218 : GoodM Tryz.prog Tryz.f3 s0 v1 s1 S218 n218 L218 e147 t109 := by rw [z218]; exact GoodM.enter (named_of namesOk) c218 g219
theorem g217 : GoodM Tryz.prog Tryz.f3 s0 v1 s1 S217 n217 L217 e146 t108 := by rw [z217]; exact GoodM.ops (named_of namesOk) hF0 c217 g218
theorem g216 : GoodM Tryz.prog Tryz.f3 s0 v1 s1 S216 n216 L216 e146 t108 := GoodM.nav3 (n := 1) g217
theorem g215 : GoodM Tryz.prog Tryz.f3 s0 v1 s1 S215 n215 L215 e145 t107 := GoodM.step hG c215 g216
theorem g214 : GoodM Tryz.prog Tryz.f3 s0 v1 s1 S214 n214 L214 e145 t107 := GoodM.nav3 (n := 2) g215
theorem g213 : GoodM Tryz.prog Tryz.f3 s0 v1 s1 S213 n213 L213 e144 t106 := by rw [z213]; exact GoodM.ops (named_of namesOk) hF0 c213 g214
theorem g212 : GoodM Tryz.prog Tryz.f3 s0 v1 s1 S212 n212 L212 e143 t106 := GoodM.back c212 g213
theorem g211 : GoodM Tryz.prog Tryz.f3 s0 v1 s1 S211 n211 L211 e142 t105 := GoodM.step hG c211 g212
theorem g210 : GoodM Tryz.prog Tryz.f3 s0 v1 s1 S210 n210 L210 e142 t105 := GoodM.nav3 (n := 2) g211
theorem g209 : GoodM Tryz.prog Tryz.f3 s0 v1 s1 S209 n209 L209 e141 t104 := by rw [z209]; exact GoodM.ops (named_of namesOk) hF0 c209 g210
theorem g208 : GoodM Tryz.prog Tryz.f3 s0 v1 s1 S208 n208 L208 e140 t104 := GoodM.back c208 g209
theorem g207 : GoodM Tryz.prog Tryz.f3 s0 v1 s1 S207 n207 L207 e139 t103 := GoodM.step hG c207 g208
theorem g206 : GoodM Tryz.prog Tryz.f3 s0 v1 s1 S206 n206 L206 e139 t103 := GoodM.nav3 (n := 3) g207
theorem g205 : GoodM Tryz.prog Tryz.f3 s0 v1 s1 S205 n205 L205 e138 t102 := GoodM.step hG c205 g206
theorem g204 : GoodM Tryz.prog Tryz.f3 s0 v1 s1 S204 n204 L204 e138 t102 := GoodM.nav3 (n := 1) g205
theorem g203 : GoodM Tryz.prog Tryz.f3 s0 v1 s1 S203 n203 L203 e137 t101 := GoodM.rounds hG x203 y203 c203 g204
theorem g202 : GoodM Tryz.prog Tryz.f3 s0 v1 s1 S202 n202 L202 e136 t100 := GoodM.rounds hG x202 y202 c202 g203
theorem g201 : GoodM Tryz.prog Tryz.f3 s0 v1 s1 S201 n201 L201 e135 t99 := GoodM.rounds hG x201 y201 c201 g202
theorem g200 : GoodM Tryz.prog Tryz.f3 s0 v1 s1 S200 n200 L200 e135 t99 := GoodM.nav3 (n := 1) g201
theorem g199 : GoodM Tryz.prog Tryz.f3 s0 v1 s1 S199 n199 L199 e134 t98 := GoodM.step hG c199 g200
theorem g198 : GoodM Tryz.prog Tryz.f3 s0 v1 s1 S198 n198 L198 e134 t98 := GoodM.nav3 (n := 2) g199
theorem g197 : GoodM Tryz.prog Tryz.f3 s0 v1 s1 S197 n197 L197 e133 t97 := GoodM.step hG c197 g198
theorem g196 : GoodM Tryz.prog Tryz.f3 s0 v1 s1 S196 n196 L196 e133 t97 := GoodM.nav3 (n := 2) g197
theorem g195 : GoodM Tryz.prog Tryz.f3 s0 v1 s1 S195 n195 L195 e132 t97 := GoodM.back c195 g196
theorem g194 : GoodM Tryz.prog Tryz.f3 s0 v1 s1 S194 n194 L194 e131 t96 := GoodM.step hG c194 g195
theorem g193 : GoodM Tryz.prog Tryz.f3 s0 v1 s1 S193 n193 L193 e131 t96 := GoodM.nav3 (n := 2) g194
theorem g192 : GoodM Tryz.prog Tryz.f3 s0 v1 s1 S192 n192 L192 e130 t95 := by rw [z192]; exact GoodM.ops (named_of namesOk) hF0 c192 g193
theorem g191 : GoodM Tryz.prog Tryz.f3 s0 v1 s1 S191 n191 L191 e129 t95 := GoodM.back c191 g192
theorem g190 : GoodM Tryz.prog Tryz.f3 s0 v1 s1 S190 n190 L190 e128 t94 := GoodM.step hG c190 g191
theorem g189 : GoodM Tryz.prog Tryz.f3 s0 v1 s1 S189 n189 L189 e127 t93 := GoodM.step hG c189 g190
theorem g188 : GoodM Tryz.prog Tryz.f3 s0 v1 s1 S188 n188 L188 e126 t93 := by rw [z188]; exact GoodM.enter (named_of namesOk) c188 g189
theorem g187 : GoodM Tryz.prog Tryz.f3 s0 v1 s1 S187 n187 L187 e125 t92 := by rw [z187]; exact GoodM.ops (named_of namesOk) hF0 c187 g188
theorem g186 : GoodM Tryz.prog Tryz.f3 s0 v1 s1 S186 n186 L186 e125 t92 := GoodM.nav3 (n := 1) g187
theorem g185 : GoodM Tryz.prog Tryz.f3 s0 v1 s1 S185 n185 L185 e124 t92 := by rw [z185]; exact GoodM.enter (named_of namesOk) c185 g186
theorem g184 : GoodM Tryz.prog Tryz.f3 s0 v1 s1 S184 n184 L184 e123 t91 := by rw [z184]; exact GoodM.ops (named_of namesOk) hF0 c184 g185
theorem g183 : GoodM Tryz.prog Tryz.f3 s0 v1 s1 S183 n183 L183 e123 t91 := GoodM.nav3 (n := 1) g184
theorem g182 : GoodM Tryz.prog Tryz.f3 s0 v1 s1 S182 n182 L182 e122 t90 := GoodM.step hG c182 g183
theorem g181 : GoodM Tryz.prog Tryz.f3 s0 v1 s1 S181 n181 L181 e122 t90 := GoodM.nav3 (n := 1) g182
theorem g180 : GoodM Tryz.prog Tryz.f3 s0 v1 s1 S180 n180 L180 e121 t89 := GoodM.step hG c180 g181
theorem g179 : GoodM Tryz.prog Tryz.f3 s0 v1 s1 S179 n179 L179 e121 t89 := GoodM.nav3 (n := 1) g180
theorem g178 : GoodM Tryz.prog Tryz.f3 s0 v1 s1 S178 n178 L178 e120 t88 := GoodM.rounds hG x178 y178 c178 g179
theorem g177 : GoodM Tryz.prog Tryz.f3 s0 v1 s1 S177 n177 L177 e120 t88 := GoodM.nav3 (n := 1) g178
theorem g176 : GoodM Tryz.prog Tryz.f3 s0 v1 s1 S176 n176 L176 e119 t87 := GoodM.step hG c176 g177
theorem g175 : GoodM Tryz.prog Tryz.f3 s0 v1 s1 S175 n175 L175 e119 t87 := GoodM.nav3 (n := 2) g176
theorem g174 : GoodM Tryz.prog Tryz.f3 s0 v1 s1 S174 n174 L174 e118 t86 := GoodM.step hG c174 g175
theorem g173 : GoodM Tryz.prog Tryz.f3 s0 v1 s1 S173 n173 L173 e118 t86 := GoodM.nav3 (n := 2) g174
theorem g172 : GoodM Tryz.prog Tryz.f3 s0 v1 s1 S172 n172 L172 e117 t86 := GoodM.back c172 g173
theorem g171 : GoodM Tryz.prog Tryz.f3 s0 v1 s1 S171 n171 L171 e116 t85 := GoodM.step hG c171 g172
theorem g170 : GoodM Tryz.prog Tryz.f3 s0 v1 s1 S170 n170 L170 e116 t85 := GoodM.nav3 (n := 2) g171
theorem g169 : GoodM Tryz.prog Tryz.f3 s0 v1 s1 S169 n169 L169 e115 t84 := by rw [z169]; exact GoodM.ops (named_of namesOk) hF0 c169 g170
theorem g168 : GoodM Tryz.prog Tryz.f3 s0 v1 s1 S168 n168 L168 e114 t84 := GoodM.back c168 g169
theorem g167 : GoodM Tryz.prog Tryz.f3 s0 v1 s1 S167 n167 L167 e113 t83 := GoodM.step hG c167 g168
theorem g166 : GoodM Tryz.prog Tryz.f3 s0 v1 s1 S166 n166 L166 e112 t82 := GoodM.step hG c166 g167
theorem g165 : GoodM Tryz.prog Tryz.f3 s0 v1 s1 S165 n165 L165 e111 t82 := by rw [z165]; exact GoodM.enter (named_of namesOk) c165 g166
theorem g164 : GoodM Tryz.prog Tryz.f3 s0 v1 s1 S164 n164 L164 e110 t81 := by rw [z164]; exact GoodM.ops (named_of namesOk) hF0 c164 g165
theorem g163 : GoodM Tryz.prog Tryz.f3 s0 v1 s1 S163 n163 L163 e110 t81 := GoodM.nav3 (n := 1) g164
theorem g162 : GoodM Tryz.prog Tryz.f3 s0 v1 s1 S162 n162 L162 e109 t81 := by rw [z162]; exact GoodM.enter (named_of namesOk) c162 g163
theorem g161 : GoodM Tryz.prog Tryz.f3 s0 v1 s1 S161 n161 L161 e108 t80 := by rw [z161]; exact GoodM.ops (named_of namesOk) hF0 c161 g162
theorem g160 : GoodM Tryz.prog Tryz.f3 s0 v1 s1 S160 n160 L160 e108 t80 := GoodM.nav3 (n := 1) g161
theorem g159 : GoodM Tryz.prog Tryz.f3 s0 v1 s1 S159 n159 L159 e107 t79 := GoodM.step hG c159 g160
theorem g158 : GoodM Tryz.prog Tryz.f3 s0 v1 s1 S158 n158 L158 e107 t79 := GoodM.nav3 (n := 1) g159
theorem g157 : GoodM Tryz.prog Tryz.f3 s0 v1 s1 S157 n157 L157 e106 t78 := GoodM.step hG c157 g158
theorem g156 : GoodM Tryz.prog Tryz.f3 s0 v1 s1 S156 n156 L156 e106 t78 := GoodM.nav3 (n := 1) g157
theorem g155 : GoodM Tryz.prog Tryz.f3 s0 v1 s1 S155 n155 L155 e105 t77 := GoodM.rounds hG x155 y155 c155 g156
theorem g154 : GoodM Tryz.prog Tryz.f3 s0 v1 s1 S154 n154 L154 e105 t77 := GoodM.nav3 (n := 2) g155
theorem g153 : GoodM Tryz.prog Tryz.f3 s0 v1 s1 S153 n153 L153 e104 t76 := GoodM.step hG c153 g154
theorem g152 : GoodM Tryz.prog Tryz.f3 s0 v1 s1 S152 n152 L152 e103 t76 := by rw [z152]; exact GoodM.enter (named_of namesOk) c152 g153
theorem g151 : GoodM Tryz.prog Tryz.f3 s0 v1 s1 S151 n151 L151 e102 t75 := by rw [z151]; exact GoodM.ops (named_of namesOk) hF0 c151 g152
theorem g150 : GoodM Tryz.prog Tryz.f3 s0 v1 s1 S150 n150 L150 e102 t75 := GoodM.nav3 (n := 1) g151
theorem g149 : GoodM Tryz.prog Tryz.f3 s0 v1 s1 S149 n149 L149 e101 t74 := GoodM.step hG c149 g150
theorem g148 : GoodM Tryz.prog Tryz.f3 s0 v1 s1 S148 n148 L148 e100 t74 := by rw [z148]; exact GoodM.enter (named_of namesOk) c148 g149
theorem g147 : GoodM Tryz.prog Tryz.f3 s0 v1 s1 S147 n147 L147 e99 t73 := by rw [z147]; exact GoodM.ops (named_of namesOk) hF0 c147 g148
theorem g146 : GoodM Tryz.prog Tryz.f3 s0 v1 s1 S146 n146 L146 e99 t73 := GoodM.nav3 (n := 1) g147
theorem g145 : GoodM Tryz.prog Tryz.f3 s0 v1 s1 S145 n145 L145 e98 t72 := GoodM.step hG c145 g146
theorem g144 : GoodM Tryz.prog Tryz.f3 s0 v1 s1 S144 n144 L144 e98 t72 := GoodM.nav3 (n := 2) g145
theorem g143 : GoodM Tryz.prog Tryz.f3 s0 v1 s1 S143 n143 L143 e97 t71 := by rw [z143]; exact GoodM.ops (named_of namesOk) hF0 c143 g144
theorem g142 : GoodM Tryz.prog Tryz.f3 s0 v1 s1 S142 n142 L142 e96 t71 := GoodM.back c142 g143
theorem g141 : GoodM Tryz.prog Tryz.f3 s0 v1 s1 S141 n141 L141 e95 t70 := GoodM.step hG c141 g142
theorem g140 : GoodM Tryz.prog Tryz.f3 s0 v1 s1 S140 n140 L140 e95 t70 := GoodM.nav3 (n := 2) g141
theorem g139 : GoodM Tryz.prog Tryz.f3 s0 v1 s1 S139 n139 L139 e94 t69 := by rw [z139]; exact GoodM.ops (named_of namesOk) hF0 c139 g140
theorem g138 : GoodM Tryz.prog Tryz.f3 s0 v1 s1 S138 n138 L138 e93 t69 := GoodM.back c138 g139
theorem g137 : GoodM Tryz.prog Tryz.f3 s0 v1 s1 S137 n137 L137 e92 t68 := GoodM.step hG c137 g138
theorem g136 : GoodM Tryz.prog Tryz.f3 s0 v1 s1 S136 n136 L136 e92 t68 := GoodM.nav3 (n := 2) g137
theorem g135 : GoodM Tryz.prog Tryz.f3 s0 v1 s1 S135 n135 L135 e91 t67 := by rw [z135]; exact GoodM.ops (named_of namesOk) hF0 c135 g136
theorem g134 : GoodM Tryz.prog Tryz.f3 s0 v1 s1 S134 n134 L134 e90 t67 := GoodM.back c134 g135
theorem g133 : GoodM Tryz.prog Tryz.f3 s0 v1 s1 S133 n133 L133 e89 t66 := GoodM.step hG c133 g134
theorem g132 : GoodM Tryz.prog Tryz.f3 s0 v1 s1 S132 n132 L132 e89 t66 := GoodM.nav3 (n := 3) g133
theorem g131 : GoodM Tryz.prog Tryz.f3 s0 v1 s1 S131 n131 L131 e88 t65 := GoodM.step hG c131 g132
theorem g130 : GoodM Tryz.prog Tryz.f3 s0 v1 s1 S130 n130 L130 e88 t65 := GoodM.nav3 (n := 1) g131
theorem g129 : GoodM Tryz.prog Tryz.f3 s0 v1 s1 S129 n129 L129 e87 t64 := GoodM.rounds hG x129 y129 c129 g130
theorem g128 : GoodM Tryz.prog Tryz.f3 s0 v1 s1 S128 n128 L128 e86 t63 := GoodM.rounds hG x128 y128 c128 g129
theorem g127 : GoodM Tryz.prog Tryz.f3 s0 v1 s1 S127 n127 L127 e85 t62 := GoodM.rounds hG x127 y127 c127 g128
theorem g126 : GoodM Tryz.prog Tryz.f3 s0 v1 s1 S126 n126 L126 e85 t62 := GoodM.nav3 (n := 1) g127
theorem g125 : GoodM Tryz.prog Tryz.f3 s0 v1 s1 S125 n125 L125 e84 t61 := GoodM.step hG c125 g126
theorem g124 : GoodM Tryz.prog Tryz.f3 s0 v1 s1 S124 n124 L124 e84 t61 := GoodM.nav3 (n := 2) g125
theorem g123 : GoodM Tryz.prog Tryz.f3 s0 v1 s1 S123 n123 L123 e83 t60 := GoodM.step hG c123 g124
theorem g122 : GoodM Tryz.prog Tryz.f3 s0 v1 s1 S122 n122 L122 e83 t60 := GoodM.nav3 (n := 2) g123
theorem g121 : GoodM Tryz.prog Tryz.f3 s0 v1 s1 S121 n121 L121 e82 t60 := GoodM.back c121 g122
theorem g120 : GoodM Tryz.prog Tryz.f3 s0 v1 s1 S120 n120 L120 e81 t59 := GoodM.step hG c120 g121
theorem g119 : GoodM Tryz.prog Tryz.f3 s0 v1 s1 S119 n119 L119 e81 t59 := GoodM.nav3 (n := 2) g120
theorem g118 : GoodM Tryz.prog Tryz.f3 s0 v1 s1 S118 n118 L118 e80 t58 := by rw [z118]; exact GoodM.ops (named_of namesOk) hF0 c118 g119
theorem g117 : GoodM Tryz.prog Tryz.f3 s0 v1 s1 S117 n117 L117 e79 t58 := GoodM.back c117 g118
theorem g116 : GoodM Tryz.prog Tryz.f3 s0 v1 s1 S116 n116 L116 e78 t57 := GoodM.step hG c116 g117
theorem g115 : GoodM Tryz.prog Tryz.f3 s0 v1 s1 S115 n115 L115 e77 t56 := GoodM.step hG c115 g116
theorem g114 : GoodM Tryz.prog Tryz.f3 s0 v1 s1 S114 n114 L114 e76 t56 := by rw [z114]; exact GoodM.enter (named_of namesOk) c114 g115
theorem g113 : GoodM Tryz.prog Tryz.f3 s0 v1 s1 S113 n113 L113 e75 t55 := by rw [z113]; exact GoodM.ops (named_of namesOk) hF0 c113 g114
theorem g112 : GoodM Tryz.prog Tryz.f3 s0 v1 s1 S112 n112 L112 e75 t55 := GoodM.nav3 (n := 1) g113
theorem g111 : GoodM Tryz.prog Tryz.f3 s0 v1 s1 S111 n111 L111 e74 t55 := by rw [z111]; exact GoodM.enter (named_of namesOk) c111 g112
theorem g110 : GoodM Tryz.prog Tryz.f3 s0 v1 s1 S110 n110 L110 e73 t54 := by rw [z110]; exact GoodM.ops (named_of namesOk) hF0 c110 g111
theorem g109 : GoodM Tryz.prog Tryz.f3 s0 v1 s1 S109 n109 L109 e73 t54 := GoodM.nav3 (n := 1) g110
theorem g108 : GoodM Tryz.prog Tryz.f3 s0 v1 s1 S108 n108 L108 e72 t53 := GoodM.step hG c108 g109
theorem g107 : GoodM Tryz.prog Tryz.f3 s0 v1 s1 S107 n107 L107 e72 t53 := GoodM.nav3 (n := 1) g108
theorem g106 : GoodM Tryz.prog Tryz.f3 s0 v1 s1 S106 n106 L106 e71 t52 := GoodM.step hG c106 g107
theorem g105 : GoodM Tryz.prog Tryz.f3 s0 v1 s1 S105 n105 L105 e71 t52 := GoodM.nav3 (n := 1) g106
theorem g104 : GoodM Tryz.prog Tryz.f3 s0 v1 s1 S104 n104 L104 e70 t51 := GoodM.rounds hG x104 y104 c104 g105
theorem g103 : GoodM Tryz.prog Tryz.f3 s0 v1 s1 S103 n103 L103 e70 t51 := GoodM.nav3 (n := 1) g104
theorem g102 : GoodM Tryz.prog Tryz.f3 s0 v1 s1 S102 n102 L102 e69 t50 := GoodM.step hG c102 g103
theorem g101 : GoodM Tryz.prog Tryz.f3 s0 v1 s1 S101 n101 L101 e69 t50 := GoodM.nav3 (n := 2) g102
theorem g100 : GoodM Tryz.prog Tryz.f3 s0 v1 s1 S100 n100 L100 e68 t49 := GoodM.step hG c100 g101
theorem g99 : GoodM Tryz.prog Tryz.f3 s0 v1 s1 S99 n99 L99 e68 t49 := GoodM.nav3 (n := 2) g100
theorem g98 : GoodM Tryz.prog Tryz.f3 s0 v1 s1 S98 n98 L98 e67 t49 := GoodM.back c98 g99
theorem g97 : GoodM Tryz.prog Tryz.f3 s0 v1 s1 S97 n97 L97 e66 t48 := GoodM.step hG c97 g98
theorem g96 : GoodM Tryz.prog Tryz.f3 s0 v1 s1 S96 n96 L96 e66 t48 := GoodM.nav3 (n := 2) g97
theorem g95 : GoodM Tryz.prog Tryz.f3 s0 v1 s1 S95 n95 L95 e65 t47 := by rw [z95]; exact GoodM.ops (named_of namesOk) hF0 c95 g96
theorem g94 : GoodM Tryz.prog Tryz.f3 s0 v1 s1 S94 n94 L94 e64 t47 := GoodM.back c94 g95
theorem g93 : GoodM Tryz.prog Tryz.f3 s0 v1 s1 S93 n93 L93 e63 t46 := GoodM.step hG c93 g94
theorem g92 : GoodM Tryz.prog Tryz.f3 s0 v1 s1 S92 n92 L92 e62 t45 := GoodM.step hG c92 g93
theorem g91 : GoodM Tryz.prog Tryz.f3 s0 v1 s1 S91 n91 L91 e61 t45 := by rw [z91]; exact GoodM.enter (named_of namesOk) c91 g92
theorem g90 : GoodM Tryz.prog Tryz.f3 s0 v1 s1 S90 n90 L90 e60 t44 := by rw [z90]; exact GoodM.ops (named_of namesOk) hF0 c90 g91
theorem g89 : GoodM Tryz.prog Tryz.f3 s0 v1 s1 S89 n89 L89 e60 t44 := GoodM.nav3 (n := 1) g90
theorem g88 : GoodM Tryz.prog Tryz.f3 s0 v1 s1 S88 n88 L88 e59 t44 := by rw [z88]; exact GoodM.enter (named_of namesOk) c88 g89
theorem g87 : GoodM Tryz.prog Tryz.f3 s0 v1 s1 S87 n87 L87 e58 t43 := by rw [z87]; exact GoodM.ops (named_of namesOk) hF0 c87 g88
theorem g86 : GoodM Tryz.prog Tryz.f3 s0 v1 s1 S86 n86 L86 e58 t43 := GoodM.nav3 (n := 1) g87
theorem g85 : GoodM Tryz.prog Tryz.f3 s0 v1 s1 S85 n85 L85 e57 t42 := GoodM.step hG c85 g86
theorem g84 : GoodM Tryz.prog Tryz.f3 s0 v1 s1 S84 n84 L84 e57 t42 := GoodM.nav3 (n := 1) g85
theorem g83 : GoodM Tryz.prog Tryz.f3 s0 v1 s1 S83 n83 L83 e56 t41 := GoodM.step hG c83 g84
theorem g82 : GoodM Tryz.prog Tryz.f3 s0 v1 s1 S82 n82 L82 e56 t41 := GoodM.nav3 (n := 1) g83
theorem g81 : GoodM Tryz.prog Tryz.f3 s0 v1 s1 S81 n81 L81 e55 t40 := GoodM.rounds hG x81 y81 c81 g82
theorem g80 : GoodM Tryz.prog Tryz.f3 s0 v1 s1 S80 n80 L80 e55 t40 := GoodM.nav3 (n := 2) g81
theorem g79 : GoodM Tryz.prog Tryz.f3 s0 v1 s1 S79 n79 L79 e54 t39 := GoodM.step hG c79 g80
theorem g78 : GoodM Tryz.prog Tryz.f3 s0 v1 s1 S78 n78 L78 e53 t39 := by rw [z78]; exact GoodM.enter (named_of namesOk) c78 g79
theorem g77 : GoodM Tryz.prog Tryz.f3 s0 v1 s1 S77 n77 L77 e52 t38 := by rw [z77]; exact GoodM.ops (named_of namesOk) hF0 c77 g78
theorem g76 : GoodM Tryz.prog Tryz.f3 s0 v1 s1 S76 n76 L76 e52 t38 := GoodM.nav3 (n := 1) g77
theorem g75 : GoodM Tryz.prog Tryz.f3 s0 v1 s1 S75 n75 L75 e51 t37 := GoodM.step hG c75 g76
theorem g74 : GoodM Tryz.prog Tryz.f3 s0 v1 s1 S74 n74 L74 e50 t37 := by rw [z74]; exact GoodM.enter (named_of namesOk) c74 g75
theorem g73 : GoodM Tryz.prog Tryz.f3 s0 v1 s1 S73 n73 L73 e49 t36 := by rw [z73]; exact GoodM.ops (named_of namesOk) hF0 c73 g74
theorem g72 : GoodM Tryz.prog Tryz.f3 s0 v1 s1 S72 n72 L72 e49 t36 := GoodM.nav3 (n := 3) g73
theorem g71 : GoodM Tryz.prog Tryz.f3 s0 v1 s1 S71 n71 L71 e48 t35 := by rw [z71]; exact GoodM.ops (named_of namesOk) hF0 c71 g72
theorem g70 : GoodM Tryz.prog Tryz.f3 s0 v1 s1 S70 n70 L70 e47 t35 := GoodM.back c70 g71
theorem g69 : GoodM Tryz.prog Tryz.f3 s0 v1 s1 S69 n69 L69 e46 t34 := GoodM.step hG c69 g70
theorem g68 : GoodM Tryz.prog Tryz.f3 s0 v1 s1 S68 n68 L68 e46 t34 := GoodM.nav3 (n := 2) g69
theorem g67 : GoodM Tryz.prog Tryz.f3 s0 v1 s1 S67 n67 L67 e45 t33 := by rw [z67]; exact GoodM.ops (named_of namesOk) hF0 c67 g68
theorem g66 : GoodM Tryz.prog Tryz.f3 s0 v1 s1 S66 n66 L66 e44 t33 := GoodM.back c66 g67
theorem g65 : GoodM Tryz.prog Tryz.f3 s0 v1 s1 S65 n65 L65 e43 t32 := GoodM.step hG c65 g66
theorem g64 : GoodM Tryz.prog Tryz.f3 s0 v1 s1 S64 n64 L64 e43 t32 := GoodM.nav3 (n := 3) g65
theorem g63 : GoodM Tryz.prog Tryz.f3 s0 v1 s1 S63 n63 L63 e42 t31 := GoodM.step hG c63 g64
theorem g62 : GoodM Tryz.prog Tryz.f3 s0 v1 s1 S62 n62 L62 e42 t31 := GoodM.nav3 (n := 1) g63
theorem g61 : GoodM Tryz.prog Tryz.f3 s0 v1 s1 S61 n61 L61 e41 t30 := GoodM.rounds hG x61 y61 c61 g62
theorem g60 : GoodM Tryz.prog Tryz.f3 s0 v1 s1 S60 n60 L60 e40 t29 := GoodM.rounds hG x60 y60 c60 g61
theorem g59 : GoodM Tryz.prog Tryz.f3 s0 v1 s1 S59 n59 L59 e39 t28 := GoodM.rounds hG x59 y59 c59 g60
theorem g58 : GoodM Tryz.prog Tryz.f3 s0 v1 s1 S58 n58 L58 e39 t28 := GoodM.nav3 (n := 1) g59
theorem g57 : GoodM Tryz.prog Tryz.f3 s0 v1 s1 S57 n57 L57 e38 t27 := GoodM.step hG c57 g58
theorem g56 : GoodM Tryz.prog Tryz.f3 s0 v1 s1 S56 n56 L56 e38 t27 := GoodM.nav3 (n := 2) g57
theorem g55 : GoodM Tryz.prog Tryz.f3 s0 v1 s1 S55 n55 L55 e37 t26 := GoodM.step hG c55 g56
theorem g54 : GoodM Tryz.prog Tryz.f3 s0 v1 s1 S54 n54 L54 e37 t26 := GoodM.nav3 (n := 2) g55
theorem g53 : GoodM Tryz.prog Tryz.f3 s0 v1 s1 S53 n53 L53 e36 t26 := GoodM.back c53 g54
theorem g52 : GoodM Tryz.prog Tryz.f3 s0 v1 s1 S52 n52 L52 e35 t25 := GoodM.step hG c52 g53
theorem g51 : GoodM Tryz.prog Tryz.f3 s0 v1 s1 S51 n51 L51 e35 t25 := GoodM.nav3 (n := 2) g52
theorem g50 : GoodM Tryz.prog Tryz.f3 s0 v1 s1 S50 n50 L50 e34 t24 := by rw [z50]; exact GoodM.ops (named_of namesOk) hF0 c50 g51
theorem g49 : GoodM Tryz.prog Tryz.f3 s0 v1 s1 S49 n49 L49 e33 t24 := GoodM.back c49 g50
theorem g48 : GoodM Tryz.prog Tryz.f3 s0 v1 s1 S48 n48 L48 e32 t23 := GoodM.step hG c48 g49
theorem g47 : GoodM Tryz.prog Tryz.f3 s0 v1 s1 S47 n47 L47 e31 t22 := GoodM.step hG c47 g48
theorem g46 : GoodM Tryz.prog Tryz.f3 s0 v1 s1 S46 n46 L46 e30 t22 := by rw [z46]; exact GoodM.enter (named_of namesOk) c46 g47
theorem g45 : GoodM Tryz.prog Tryz.f3 s0 v1 s1 S45 n45 L45 e29 t21 := by rw [z45]; exact GoodM.ops (named_of namesOk) hF0 c45 g46
theorem g44 : GoodM Tryz.prog Tryz.f3 s0 v1 s1 S44 n44 L44 e29 t21 := GoodM.nav3 (n := 1) g45
theorem g43 : GoodM Tryz.prog Tryz.f3 s0 v1 s1 S43 n43 L43 e28 t21 := by rw [z43]; exact GoodM.enter (named_of namesOk) c43 g44
theorem g42 : GoodM Tryz.prog Tryz.f3 s0 v1 s1 S42 n42 L42 e27 t20 := by rw [z42]; exact GoodM.ops (named_of namesOk) hF0 c42 g43
theorem g41 : GoodM Tryz.prog Tryz.f3 s0 v1 s1 S41 n41 L41 e27 t20 := GoodM.nav3 (n := 1) g42
theorem g40 : GoodM Tryz.prog Tryz.f3 s0 v1 s1 S40 n40 L40 e26 t19 := GoodM.step hG c40 g41
theorem g39 : GoodM Tryz.prog Tryz.f3 s0 v1 s1 S39 n39 L39 e26 t19 := GoodM.nav3 (n := 1) g40
theorem g38 : GoodM Tryz.prog Tryz.f3 s0 v1 s1 S38 n38 L38 e25 t18 := GoodM.step hG c38 g39
theorem g37 : GoodM Tryz.prog Tryz.f3 s0 v1 s1 S37 n37 L37 e25 t18 := GoodM.nav3 (n := 1) g38
theorem g36 : GoodM Tryz.prog Tryz.f3 s0 v1 s1 S36 n36 L36 e24 t17 := GoodM.rounds hG x36 y36 c36 g37
theorem g35 : GoodM Tryz.prog Tryz.f3 s0 v1 s1 S35 n35 L35 e24 t17 := GoodM.nav3 (n := 1) g36
theorem g34 : GoodM Tryz.prog Tryz.f3 s0 v1 s1 S34 n34 L34 e23 t16 := GoodM.step hG c34 g35
theorem g33 : GoodM Tryz.prog Tryz.f3 s0 v1 s1 S33 n33 L33 e23 t16 := GoodM.nav3 (n := 2) g34
theorem g32 : GoodM Tryz.prog Tryz.f3 s0 v1 s1 S32 n32 L32 e22 t15 := GoodM.step hG c32 g33
theorem g31 : GoodM Tryz.prog Tryz.f3 s0 v1 s1 S31 n31 L31 e22 t15 := GoodM.nav3 (n := 2) g32
theorem g30 : GoodM Tryz.prog Tryz.f3 s0 v1 s1 S30 n30 L30 e21 t15 := GoodM.back c30 g31
theorem g29 : GoodM Tryz.prog Tryz.f3 s0 v1 s1 S29 n29 L29 e20 t14 := GoodM.step hG c29 g30
theorem g28 : GoodM Tryz.prog Tryz.f3 s0 v1 s1 S28 n28 L28 e20 t14 := GoodM.nav3 (n := 2) g29
theorem g27 : GoodM Tryz.prog Tryz.f3 s0 v1 s1 S27 n27 L27 e19 t13 := by rw [z27]; exact GoodM.ops (named_of namesOk) hF0 c27 g28
theorem g26 : GoodM Tryz.prog Tryz.f3 s0 v1 s1 S26 n26 L26 e18 t13 := GoodM.back c26 g27
theorem g25 : GoodM Tryz.prog Tryz.f3 s0 v1 s1 S25 n25 L25 e17 t12 := GoodM.step hG c25 g26
theorem g24 : GoodM Tryz.prog Tryz.f3 s0 v1 s1 S24 n24 L24 e16 t11 := GoodM.step hG c24 g25
theorem g23 : GoodM Tryz.prog Tryz.f3 s0 v1 s1 S23 n23 L23 e15 t11 := by rw [z23]; exact GoodM.enter (named_of namesOk) c23 g24
theorem g22 : GoodM Tryz.prog Tryz.f3 s0 v1 s1 S22 n22 L22 e14 t10 := by rw [z22]; exact GoodM.ops (named_of namesOk) hF0 c22 g23
theorem g21 : GoodM Tryz.prog Tryz.f3 s0 v1 s1 S21 n21 L21 e14 t10 := GoodM.nav3 (n := 1) g22
theorem g20 : GoodM Tryz.prog Tryz.f3 s0 v1 s1 S20 n20 L20 e13 t10 := by rw [z20]; exact GoodM.enter (named_of namesOk) c20 g21
theorem g19 : GoodM Tryz.prog Tryz.f3 s0 v1 s1 S19 n19 L19 e12 t9 := by rw [z19]; exact GoodM.ops (named_of namesOk) hF0 c19 g20
theorem g18 : GoodM Tryz.prog Tryz.f3 s0 v1 s1 S18 n18 L18 e12 t9 := GoodM.nav3 (n := 1) g19
theorem g17 : GoodM Tryz.prog Tryz.f3 s0 v1 s1 S17 n17 L17 e11 t8 := GoodM.step hG c17 g18
theorem g16 : GoodM Tryz.prog Tryz.f3 s0 v1 s1 S16 n16 L16 e11 t8 := GoodM.nav3 (n := 1) g17
theorem g15 : GoodM Tryz.prog Tryz.f3 s0 v1 s1 S15 n15 L15 e10 t7 := GoodM.step hG c15 g16
theorem g14 : GoodM Tryz.prog Tryz.f3 s0 v1 s1 S14 n14 L14 e10 t7 := GoodM.nav3 (n := 1) g15
theorem g13 : GoodM Tryz.prog Tryz.f3 s0 v1 s1 S13 n13 L13 e9 t6 := GoodM.rounds hG x13 y13 c13 g14
theorem g12 : GoodM Tryz.prog Tryz.f3 s0 v1 s1 S12 n12 L12 e9 t6 := GoodM.nav3 (n := 2) g13
theorem g11 : GoodM Tryz.prog Tryz.f3 s0 v1 s1 S11 n11 L11 e8 t5 := GoodM.step hG c11 g12
theorem g10 : GoodM Tryz.prog Tryz.f3 s0 v1 s1 S10 n10 L10 e7 t5 := by rw [z10]; exact GoodM.enter (named_of namesOk) c10 g11
theorem g9 : GoodM Tryz.prog Tryz.f3 s0 v1 s1 S9 n9 L9 e6 t4 := by rw [z9]; exact GoodM.ops (named_of namesOk) hF0 c9 g10
theorem g8 : GoodM Tryz.prog Tryz.f3 s0 v1 s1 S8 n8 L8 e6 t4 := GoodM.nav3 (n := 1) g9
theorem g7 : GoodM Tryz.prog Tryz.f3 s0 v1 s1 S7 n7 L7 e5 t3 := GoodM.step hG c7 g8
theorem g6 : GoodM Tryz.prog Tryz.f3 s0 v1 s1 S6 n6 L6 e4 t3 := by rw [z6]; exact GoodM.enter (named_of namesOk) c6 g7
theorem g5 : GoodM Tryz.prog Tryz.f3 s0 v1 s1 S5 n5 L5 e3 t2 := by rw [z5]; exact GoodM.ops (named_of namesOk) hF0 c5 g6
theorem g4 : GoodM Tryz.prog Tryz.f3 s0 v1 s1 S4 n4 L4 e3 t2 := GoodM.nav3 (n := 1) g5
theorem g3 : GoodM Tryz.prog Tryz.f3 s0 v1 s1 S3 n3 L3 e2 t1 := GoodM.step hG c3 g4
theorem g2 : GoodM Tryz.prog Tryz.f3 s0 v1 s1 S2 n2 L2 e1 t1 := by rw [z2]; exact GoodM.enter (named_of namesOk) c2 g3
theorem g1 : GoodM Tryz.prog Tryz.f3 s0 v1 s1 S1 n1 L1 e1 t1 := GoodM.nav3 (n := 1) g2
theorem g0 : GoodM Tryz.prog Tryz.f3 s0 v1 s1 S0 n0 L0 e0 s0 := GoodM.step hG c0 g1
theorem good : Ev.Good Tryz.prog Tryz.f3 B0 e0 ⟨0, .lf⟩ := GoodM.good g0
end Go.Proofs.YtninnodoofafpaaGreatDoor.rCureKnown0
namespace Go.Proofs.YtninnodoofafpaaGreatDoor
open Go.RowKit
theorem pr_CureKnown (W : World) : Calls Tryz.prog 3 #[] W fun e W' => e = .returned (.bool true) ∧ Below W.heap.size W W' := Ev.Good.calls Tryz.func3 rCureKnown0.body rCureKnown0.good W
end Go.Proofs.YtninnodoofafpaaGreatDoor
