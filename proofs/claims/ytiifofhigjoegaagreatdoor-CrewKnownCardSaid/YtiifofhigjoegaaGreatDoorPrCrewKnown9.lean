/-
  PLAIN: the Go function lintel/lintellaw24.CrewKnown, called in one state of a run: run in pieces by the evaluator, which is sound.
-/
import Derived.Test.YtiifofhigjoegaaGreatDoorChecked
import Derived.Test.YtiifofhigjoegaaGreatDoorPrCrewKnown9T0
import Derived.Test.YtiifofhigjoegaaGreatDoorPrCrewKnown9T1
import Derived.Test.YtiifofhigjoegaaGreatDoorPrCrewKnown9T2
namespace Go.Proofs.YtiifofhigjoegaaGreatDoor.rCrewKnown9
open Go.RowKit Ev
open cCrewKnown
open rCrewKnown0 (namesOk mixes)
theorem g185 : GoodM Tryz.prog Tryz.f3 s0 v1 s1 S185 n185 L185 e126 t94 := GoodM.done c185
theorem g184 : GoodM Tryz.prog Tryz.f3 s0 v1 s1 S184 n184 L184 e125 t93 := GoodM.step hG c184 g185
theorem g183 : GoodM Tryz.prog Tryz.f3 s0 v1 s1 S183 n183 L183 e125 t93 := GoodM.nav3 (n := 2) g184
theorem g182 : GoodM Tryz.prog Tryz.f3 s0 v1 s1 S182 n182 L182 e124 t93 := GoodM.back c182 g183
theorem g181 : GoodM Tryz.prog Tryz.f3 s0 v1 s1 S181 n181 L181 e123 t92 := GoodM.step hG c181 g182
theorem g180 : GoodM Tryz.prog Tryz.f3 s0 v1 s1 S180 n180 L180 e123 t92 := GoodM.nav3 (n := 2) g181
theorem g179 : GoodM Tryz.prog Tryz.f3 s0 v1 s1 S179 n179 L179 e122 t91 := by rw [z179]; exact GoodM.ops (named_of namesOk) hF0 c179 g180
theorem g178 : GoodM Tryz.prog Tryz.f3 s0 v1 s1 S178 n178 L178 e121 t91 := GoodM.back c178 g179
theorem g177 : GoodM Tryz.prog Tryz.f3 s0 v1 s1 S177 n177 L177 e120 t90 := GoodM.step hG c177 g178
theorem g176 : GoodM Tryz.prog Tryz.f3 s0 v1 s1 S176 n176 L176 e120 t90 := GoodM.nav3 (n := 2) g177
theorem g175 : GoodM Tryz.prog Tryz.f3 s0 v1 s1 S175 n175 L175 e119 t89 := GoodM.step hG c175 g176
theorem g174 : GoodM Tryz.prog Tryz.f3 s0 v1 s1 S174 n174 L174 e119 t89 := GoodM.nav3 (n := 1) g175
theorem g173 : GoodM Tryz.prog Tryz.f3 s0 v1 s1 S173 n173 L173 e118 t88 := GoodM.step hG c173 g174
theorem g172 : GoodM Tryz.prog Tryz.f3 s0 v1 s1 S172 n172 L172 e118 t88 := GoodM.nav3 (n := 1) g173
theorem g171 : GoodM Tryz.prog Tryz.f3 s0 v1 s1 S171 n171 L171 e117 t87 := GoodM.step hG c171 g172
theorem g170 : GoodM Tryz.prog Tryz.f3 s0 v1 s1 S170 n170 L170 e116 t87 := by rw [z170]; exact GoodM.enter (named_of namesOk) c170 g171
theorem g169 : GoodM Tryz.prog Tryz.f3 s0 v1 s1 S169 n169 L169 e115 t86 := by rw [z169]; exact GoodM.ops (named_of namesOk) hF0 c169 g170
theorem g168 : GoodM Tryz.prog Tryz.f3 s0 v1 s1 S168 n168 L168 e115 t86 := GoodM.nav3 (n := 1) g169
theorem g167 : GoodM Tryz.prog Tryz.f3 s0 v1 s1 S167 n167 L167 e114 t85 := GoodM.step hG c167 g168
theorem g166 : GoodM Tryz.prog Tryz.f3 s0 v1 s1 S166 n166 L166 e113 t85 := by rw [z166]; exact GoodM.enter (named_of namesOk) c166 g167
theorem g165 : GoodM Tryz.prog Tryz.f3 s0 v1 s1 S165 n165 L165 e112 t84 := by rw [z165]; exact GoodM.ops (named_of namesOk) hF0 c165 g166
theorem g164 : GoodM Tryz.prog Tryz.f3 s0 v1 s1 S164 n164 L164 e112 t84 := GoodM.nav3 (n := 1) g165
theorem g163 : GoodM Tryz.prog Tryz.f3 s0 v1 s1 S163 n163 L163 e111 t83 := GoodM.step hG c163 g164
theorem g162 : GoodM Tryz.prog Tryz.f3 s0 v1 s1 S162 n162 L162 e111 t83 := GoodM.nav3 (n := 2) g163
theorem g161 : GoodM Tryz.prog Tryz.f3 s0 v1 s1 S161 n161 L161 e110 t83 := GoodM.back c161 g162
theorem g160 : GoodM Tryz.prog Tryz.f3 s0 v1 s1 S160 n160 L160 e109 t82 := GoodM.step hG c160 g161
theorem g159 : GoodM Tryz.prog Tryz.f3 s0 v1 s1 S159 n159 L159 e109 t82 := GoodM.nav3 (n := 2) g160
theorem g158 : GoodM Tryz.prog Tryz.f3 s0 v1 s1 S158 n158 L158 e108 t81 := by rw [z158]; exact GoodM.ops (named_of namesOk) hF0 c158 g159
theorem g157 : GoodM Tryz.prog Tryz.f3 s0 v1 s1 S157 n157 L157 e107 t81 := GoodM.back c157 g158
theorem g156 : GoodM Tryz.prog Tryz.f3 s0 v1 s1 S156 n156 L156 e106 t80 := GoodM.step hG c156 g157
theorem g155 : GoodM Tryz.prog Tryz.f3 s0 v1 s1 S155 n155 L155 e106 t80 := GoodM.nav3 (n := 2) g156
theorem g154 : GoodM Tryz.prog Tryz.f3 s0 v1 s1 S154 n154 L154 e105 t79 := GoodM.step hG c154 g155
theorem g153 : GoodM Tryz.prog Tryz.f3 s0 v1 s1 S153 n153 L153 e105 t79 := GoodM.nav3 (n := 1) g154
theorem g152 : GoodM Tryz.prog Tryz.f3 s0 v1 s1 S152 n152 L152 e104 t78 := GoodM.step hG c152 g153
theorem g151 : GoodM Tryz.prog Tryz.f3 s0 v1 s1 S151 n151 L151 e104 t78 := GoodM.nav3 (n := 1) g152
theorem g150 : GoodM Tryz.prog Tryz.f3 s0 v1 s1 S150 n150 L150 e103 t77 := GoodM.step hG c150 g151
theorem g149 : GoodM Tryz.prog Tryz.f3 s0 v1 s1 S149 n149 L149 e102 t77 := by rw [z149]; exact GoodM.enter (named_of namesOk) c149 g150
theorem g148 : GoodM Tryz.prog Tryz.f3 s0 v1 s1 S148 n148 L148 e101 t76 := by rw [z148]; exact GoodM.ops (named_of namesOk) hF0 c148 g149
theorem g147 : GoodM Tryz.prog Tryz.f3 s0 v1 s1 S147 n147 L147 e101 t76 := GoodM.nav3 (n := 1) g148
theorem g146 : GoodM Tryz.prog Tryz.f3 s0 v1 s1 S146 n146 L146 e100 t75 := GoodM.step hG c146 g147
theorem g145 : GoodM Tryz.prog Tryz.f3 s0 v1 s1 S145 n145 L145 e99 t75 := by rw [z145]; exact GoodM.enter (named_of namesOk) c145 g146
theorem g144 : GoodM Tryz.prog Tryz.f3 s0 v1 s1 S144 n144 L144 e98 t74 := by rw [z144]; exact GoodM.ops (named_of namesOk) hF0 c144 g145
theorem g143 : GoodM Tryz.prog Tryz.f3 s0 v1 s1 S143 n143 L143 e98 t74 := GoodM.nav3 (n := 1) g144
theorem g142 : GoodM Tryz.prog Tryz.f3 s0 v1 s1 S142 n142 L142 e97 t73 := GoodM.step hG c142 g143
theorem g141 : GoodM Tryz.prog Tryz.f3 s0 v1 s1 S141 n141 L141 e97 t73 := GoodM.nav3 (n := 2) g142
theorem g140 : GoodM Tryz.prog Tryz.f3 s0 v1 s1 S140 n140 L140 e96 t72 := by rw [z140]; exact GoodM.ops (named_of namesOk) hF0 c140 g141
theorem g139 : GoodM Tryz.prog Tryz.f3 s0 v1 s1 S139 n139 L139 e95 t72 := GoodM.back c139 g140
theorem g138 : GoodM Tryz.prog Tryz.f3 s0 v1 s1 S138 n138 L138 e94 t71 := GoodM.step hG c138 g139
theorem g137 : GoodM Tryz.prog Tryz.f3 s0 v1 s1 S137 n137 L137 e94 t71 := GoodM.nav3 (n := 2) g138
theorem g136 : GoodM Tryz.prog Tryz.f3 s0 v1 s1 S136 n136 L136 e93 t70 := by rw [z136]; exact GoodM.ops (named_of namesOk) hF0 c136 g137
theorem g135 : GoodM Tryz.prog Tryz.f3 s0 v1 s1 S135 n135 L135 e92 t70 := GoodM.back c135 g136
theorem g134 : GoodM Tryz.prog Tryz.f3 s0 v1 s1 S134 n134 L134 e91 t69 := GoodM.step hG c134 g135
theorem g133 : GoodM Tryz.prog Tryz.f3 s0 v1 s1 S133 n133 L133 e91 t69 := GoodM.nav3 (n := 2) g134
theorem g132 : GoodM Tryz.prog Tryz.f3 s0 v1 s1 S132 n132 L132 e90 t68 := by rw [z132]; exact GoodM.ops (named_of namesOk) hF0 c132 g133
theorem g131 : GoodM Tryz.prog Tryz.f3 s0 v1 s1 S131 n131 L131 e89 t68 := GoodM.back c131 g132
theorem g130 : GoodM Tryz.prog Tryz.f3 s0 v1 s1 S130 n130 L130 e88 t67 := GoodM.step hG c130 g131
theorem g129 : GoodM Tryz.prog Tryz.f3 s0 v1 s1 S129 n129 L129 e88 t67 := GoodM.nav3 (n := 3) g130
theorem g128 : GoodM Tryz.prog Tryz.f3 s0 v1 s1 S128 n128 L128 e87 t66 := GoodM.step hG c128 g129
theorem g127 : GoodM Tryz.prog Tryz.f3 s0 v1 s1 S127 n127 L127 e87 t66 := GoodM.nav3 (n := 1) g128
theorem g126 : GoodM Tryz.prog Tryz.f3 s0 v1 s1 S126 n126 L126 e86 t65 := GoodM.rounds hG x126 y126 c126 g127
theorem g125 : GoodM Tryz.prog Tryz.f3 s0 v1 s1 S125 n125 L125 e85 t64 := GoodM.rounds hG x125 y125 c125 g126
theorem g124 : GoodM Tryz.prog Tryz.f3 s0 v1 s1 S124 n124 L124 e84 t63 := GoodM.rounds hG x124 y124 c124 g125
theorem g123 : GoodM Tryz.prog Tryz.f3 s0 v1 s1 S123 n123 L123 e84 t63 := GoodM.nav3 (n := 2) g124
theorem g122 : GoodM Tryz.prog Tryz.f3 s0 v1 s1 S122 n122 L122 e83 t62 := GoodM.step hG c122 g123
theorem g121 : GoodM Tryz.prog Tryz.f3 s0 v1 s1 S121 n121 L121 e82 t62 := by rw [z121]; exact GoodM.enter (named_of namesOk) c121 g122
theorem g120 : GoodM Tryz.prog Tryz.f3 s0 v1 s1 S120 n120 L120 e81 t61 := by rw [z120]; exact GoodM.ops (named_of namesOk) hF0 c120 g121
theorem g119 : GoodM Tryz.prog Tryz.f3 s0 v1 s1 S119 n119 L119 e81 t61 := GoodM.nav3 (n := 1) g120
theorem g118 : GoodM Tryz.prog Tryz.f3 s0 v1 s1 S118 n118 L118 e80 t60 := GoodM.step hG c118 g119
theorem g117 : GoodM Tryz.prog Tryz.f3 s0 v1 s1 S117 n117 L117 e80 t60 := GoodM.nav3 (n := 2) g118
theorem g116 : GoodM Tryz.prog Tryz.f3 s0 v1 s1 S116 n116 L116 e79 t59 := by rw [z116]; exact GoodM.ops (named_of namesOk) hF0 c116 g117
theorem g115 : GoodM Tryz.prog Tryz.f3 s0 v1 s1 S115 n115 L115 e78 t59 := GoodM.back c115 g116
theorem g114 : GoodM Tryz.prog Tryz.f3 s0 v1 s1 S114 n114 L114 e77 t58 := GoodM.step hG c114 g115
theorem g113 : GoodM Tryz.prog Tryz.f3 s0 v1 s1 S113 n113 L113 e77 t58 := GoodM.nav3 (n := 2) g114
theorem g112 : GoodM Tryz.prog Tryz.f3 s0 v1 s1 S112 n112 L112 e76 t57 := by rw [z112]; exact GoodM.ops (named_of namesOk) hF0 c112 g113
theorem g111 : GoodM Tryz.prog Tryz.f3 s0 v1 s1 S111 n111 L111 e75 t57 := GoodM.back c111 g112
theorem g110 : GoodM Tryz.prog Tryz.f3 s0 v1 s1 S110 n110 L110 e74 t56 := GoodM.step hG c110 g111
theorem g109 : GoodM Tryz.prog Tryz.f3 s0 v1 s1 S109 n109 L109 e74 t56 := GoodM.nav3 (n := 3) g110
theorem g108 : GoodM Tryz.prog Tryz.f3 s0 v1 s1 S108 n108 L108 e73 t55 := GoodM.step hG c108 g109
theorem g107 : GoodM Tryz.prog Tryz.f3 s0 v1 s1 S107 n107 L107 e73 t55 := GoodM.nav3 (n := 1) g108
theorem g106 : GoodM Tryz.prog Tryz.f3 s0 v1 s1 S106 n106 L106 e72 t54 := GoodM.rounds hG x106 y106 c106 g107
theorem g105 : GoodM Tryz.prog Tryz.f3 s0 v1 s1 S105 n105 L105 e71 t53 := GoodM.rounds hG x105 y105 c105 g106
theorem g104 : GoodM Tryz.prog Tryz.f3 s0 v1 s1 S104 n104 L104 e70 t52 := GoodM.rounds hG x104 y104 c104 g105
theorem g103 : GoodM Tryz.prog Tryz.f3 s0 v1 s1 S103 n103 L103 e70 t52 := GoodM.nav3 (n := 2) g104
theorem g102 : GoodM Tryz.prog Tryz.f3 s0 v1 s1 S102 n102 L102 e69 t51 := GoodM.step hG c102 g103
theorem g101 : GoodM Tryz.prog Tryz.f3 s0 v1 s1 S101 n101 L101 e68 t51 := by rw [z101]; exact GoodM.enter (named_of namesOk) c101 g102
theorem g100 : GoodM Tryz.prog Tryz.f3 s0 v1 s1 S100 n100 L100 e67 t50 := by rw [z100]; exact GoodM.ops (named_of namesOk) hF0 c100 g101
theorem g99 : GoodM Tryz.prog Tryz.f3 s0 v1 s1 S99 n99 L99 e67 t50 := GoodM.nav3 (n := 1) g100
theorem g98 : GoodM Tryz.prog Tryz.f3 s0 v1 s1 S98 n98 L98 e66 t49 := GoodM.step hG c98 g99
theorem g97 : GoodM Tryz.prog Tryz.f3 s0 v1 s1 S97 n97 L97 e65 t49 := by rw [z97]; exact GoodM.enter (named_of namesOk) c97 g98
theorem g96 : GoodM Tryz.prog Tryz.f3 s0 v1 s1 S96 n96 L96 e64 t48 := by rw [z96]; exact GoodM.ops (named_of namesOk) hF0 c96 g97
theorem g95 : GoodM Tryz.prog Tryz.f3 s0 v1 s1 S95 n95 L95 e64 t48 := GoodM.nav3 (n := 1) g96
theorem g94 : GoodM Tryz.prog Tryz.f3 s0 v1 s1 S94 n94 L94 e63 t47 := GoodM.step hG c94 g95
theorem g93 : GoodM Tryz.prog Tryz.f3 s0 v1 s1 S93 n93 L93 e63 t47 := GoodM.nav3 (n := 2) g94
theorem g92 : GoodM Tryz.prog Tryz.f3 s0 v1 s1 S92 n92 L92 e62 t46 := by rw [z92]; exact GoodM.ops (named_of namesOk) hF0 c92 g93
theorem g91 : GoodM Tryz.prog Tryz.f3 s0 v1 s1 S91 n91 L91 e61 t46 := GoodM.back c91 g92
theorem g90 : GoodM Tryz.prog Tryz.f3 s0 v1 s1 S90 n90 L90 e60 t45 := GoodM.step hG c90 g91
theorem g89 : GoodM Tryz.prog Tryz.f3 s0 v1 s1 S89 n89 L89 e60 t45 := GoodM.nav3 (n := 3) g90
theorem g88 : GoodM Tryz.prog Tryz.f3 s0 v1 s1 S88 n88 L88 e59 t44 := GoodM.step hG c88 g89
theorem g87 : GoodM Tryz.prog Tryz.f3 s0 v1 s1 S87 n87 L87 e59 t44 := GoodM.nav3 (n := 1) g88
theorem g86 : GoodM Tryz.prog Tryz.f3 s0 v1 s1 S86 n86 L86 e58 t43 := GoodM.rounds hG x86 y86 c86 g87
theorem g85 : GoodM Tryz.prog Tryz.f3 s0 v1 s1 S85 n85 L85 e57 t42 := GoodM.rounds hG x85 y85 c85 g86
theorem g84 : GoodM Tryz.prog Tryz.f3 s0 v1 s1 S84 n84 L84 e57 t42 := GoodM.nav3 (n := 2) g85
theorem g83 : GoodM Tryz.prog Tryz.f3 s0 v1 s1 S83 n83 L83 e56 t41 := GoodM.step hG c83 g84
theorem g82 : GoodM Tryz.prog Tryz.f3 s0 v1 s1 S82 n82 L82 e55 t41 := by rw [z82]; exact GoodM.enter (named_of namesOk) c82 g83
theorem g81 : GoodM Tryz.prog Tryz.f3 s0 v1 s1 S81 n81 L81 e54 t40 := by rw [z81]; exact GoodM.ops (named_of namesOk) hF0 c81 g82
theorem g80 : GoodM Tryz.prog Tryz.f3 s0 v1 s1 S80 n80 L80 e54 t40 := GoodM.nav3 (n := 1) g81
theorem g79 : GoodM Tryz.prog Tryz.f3 s0 v1 s1 S79 n79 L79 e53 t39 := GoodM.step hG c79 g80
theorem g78 : GoodM Tryz.prog Tryz.f3 s0 v1 s1 S78 n78 L78 e52 t39 := by rw [z78]; exact GoodM.enter (named_of namesOk) c78 g79
theorem g77 : GoodM Tryz.prog Tryz.f3 s0 v1 s1 S77 n77 L77 e51 t38 := by rw [z77]; exact GoodM.ops (named_of namesOk) hF0 c77 g78
theorem g76 : GoodM Tryz.prog Tryz.f3 s0 v1 s1 S76 n76 L76 e51 t38 := GoodM.nav3 (n := 1) g77
theorem g75 : GoodM Tryz.prog Tryz.f3 s0 v1 s1 S75 n75 L75 e50 t37 := GoodM.step hG c75 g76
theorem g74 : GoodM Tryz.prog Tryz.f3 s0 v1 s1 S74 n74 L74 e49 t37 := by rw [z74]; exact GoodM.enter (named_of namesOk) c74 g75
theorem g73 : GoodM Tryz.prog Tryz.f3 s0 v1 s1 S73 n73 L73 e49 t37 := GoodM.nav3 (n := 1) g74
theorem g72 : GoodM Tryz.prog Tryz.f3 s0 v1 s1 S72 n72 L72 e48 t36 := GoodM.step hG c72 g73
theorem g71 : GoodM Tryz.prog Tryz.f3 s0 v1 s1 S71 n71 L71 e48 t36 := GoodM.nav3 (n := 2) g72
theorem g70 : GoodM Tryz.prog Tryz.f3 s0 v1 s1 S70 n70 L70 e47 t35 := by rw [z70]; exact GoodM.ops (named_of namesOk) hF0 c70 g71
theorem g69 : GoodM Tryz.prog Tryz.f3 s0 v1 s1 S69 n69 L69 e46 t35 := GoodM.back c69 g70
theorem g68 : GoodM Tryz.prog Tryz.f3 s0 v1 s1 S68 n68 L68 e45 t34 := GoodM.step hG c68 g69
theorem g67 : GoodM Tryz.prog Tryz.f3 s0 v1 s1 S67 n67 L67 e45 t34 := GoodM.nav3 (n := 3) g68
theorem g66 : GoodM Tryz.prog Tryz.f3 s0 v1 s1 S66 n66 L66 e44 t33 := GoodM.step hG c66 g67
theorem g65 : GoodM Tryz.prog Tryz.f3 s0 v1 s1 S65 n65 L65 e44 t33 := GoodM.nav3 (n := 1) g66
theorem g64 : GoodM Tryz.prog Tryz.f3 s0 v1 s1 S64 n64 L64 e43 t32 := GoodM.rounds hG x64 y64 c64 g65
theorem g63 : GoodM Tryz.prog Tryz.f3 s0 v1 s1 S63 n63 L63 e43 t32 := GoodM.nav3 (n := 1) g64
theorem g62 : GoodM Tryz.prog Tryz.f3 s0 v1 s1 S62 n62 L62 e42 t31 := GoodM.step hG c62 g63
theorem g61 : GoodM Tryz.prog Tryz.f3 s0 v1 s1 S61 n61 L61 e42 t31 := GoodM.nav3 (n := 2) g62
theorem g60 : GoodM Tryz.prog Tryz.f3 s0 v1 s1 S60 n60 L60 e41 t30 := GoodM.step hG c60 g61
theorem g59 : GoodM Tryz.prog Tryz.f3 s0 v1 s1 S59 n59 L59 e41 t30 := GoodM.nav3 (n := 2) g60
theorem g58 : GoodM Tryz.prog Tryz.f3 s0 v1 s1 S58 n58 L58 e40 t29 := by rw [z58]; exact GoodM.ops (named_of namesOk) hF0 c58 g59
theorem g57 : GoodM Tryz.prog Tryz.f3 s0 v1 s1 S57 n57 L57 e39 t29 := GoodM.back c57 g58
theorem g56 : GoodM Tryz.prog Tryz.f3 s0 v1 s1 S56 n56 L56 e38 t28 := GoodM.step hG c56 g57
theorem g55 : GoodM Tryz.prog Tryz.f3 s0 v1 s1 S55 n55 L55 e38 t28 := GoodM.nav3 (n := 2) g56
theorem g54 : GoodM Tryz.prog Tryz.f3 s0 v1 s1 S54 n54 L54 e37 t27 := by rw [z54]; exact GoodM.ops (named_of namesOk) hF0 c54 g55
theorem g53 : GoodM Tryz.prog Tryz.f3 s0 v1 s1 S53 n53 L53 e36 t27 := GoodM.back c53 g54
theorem g52 : GoodM Tryz.prog Tryz.f3 s0 v1 s1 S52 n52 L52 e35 t26 := GoodM.step hG c52 g53
theorem g51 : GoodM Tryz.prog Tryz.f3 s0 v1 s1 S51 n51 L51 e35 t26 := GoodM.nav3 (n := 2) g52
theorem g50 : GoodM Tryz.prog Tryz.f3 s0 v1 s1 S50 n50 L50 e34 t25 := GoodM.step hG c50 g51
theorem g49 : GoodM Tryz.prog Tryz.f3 s0 v1 s1 S49 n49 L49 e34 t25 := GoodM.nav3 (n := 1) g50
theorem g48 : GoodM Tryz.prog Tryz.f3 s0 v1 s1 S48 n48 L48 e33 t24 := GoodM.step hG c48 g49
theorem g47 : GoodM Tryz.prog Tryz.f3 s0 v1 s1 S47 n47 L47 e33 t24 := GoodM.nav3 (n := 1) g48
theorem g46 : GoodM Tryz.prog Tryz.f3 s0 v1 s1 S46 n46 L46 e32 t23 := GoodM.step hG c46 g47
theorem g45 : GoodM Tryz.prog Tryz.f3 s0 v1 s1 S45 n45 L45 e31 t23 := by rw [z45]; exact GoodM.enter (named_of namesOk) c45 g46
theorem g44 : GoodM Tryz.prog Tryz.f3 s0 v1 s1 S44 n44 L44 e30 t22 := by rw [z44]; exact GoodM.ops (named_of namesOk) hF0 c44 g45
theorem g43 : GoodM Tryz.prog Tryz.f3 s0 v1 s1 S43 n43 L43 e30 t22 := GoodM.nav3 (n := 1) g44
theorem g42 : GoodM Tryz.prog Tryz.f3 s0 v1 s1 S42 n42 L42 e29 t21 := GoodM.step hG c42 g43
theorem g41 : GoodM Tryz.prog Tryz.f3 s0 v1 s1 S41 n41 L41 e28 t21 := by rw [z41]; exact GoodM.enter (named_of namesOk) c41 g42
theorem g40 : GoodM Tryz.prog Tryz.f3 s0 v1 s1 S40 n40 L40 e27 t20 := by rw [z40]; exact GoodM.ops (named_of namesOk) hF0 c40 g41
theorem g39 : GoodM Tryz.prog Tryz.f3 s0 v1 s1 S39 n39 L39 e27 t20 := GoodM.nav3 (n := 2) g40
theorem g38 : GoodM Tryz.prog Tryz.f3 s0 v1 s1 S38 n38 L38 e26 t19 := GoodM.step hG c38 g39
theorem g37 : GoodM Tryz.prog Tryz.f3 s0 v1 s1 S37 n37 L37 e26 t19 := GoodM.nav3 (n := 1) g38
theorem g36 : GoodM Tryz.prog Tryz.f3 s0 v1 s1 S36 n36 L36 e25 t18 := GoodM.rounds hG x36 y36 c36 g37
theorem g35 : GoodM Tryz.prog Tryz.f3 s0 v1 s1 S35 n35 L35 e25 t18 := GoodM.nav3 (n := 2) g36
theorem g34 : GoodM Tryz.prog Tryz.f3 s0 v1 s1 S34 n34 L34 e24 t17 := GoodM.step hG c34 g35
theorem g33 : GoodM Tryz.prog Tryz.f3 s0 v1 s1 S33 n33 L33 e24 t17 := GoodM.nav3 (n := 2) g34
theorem g32 : GoodM Tryz.prog Tryz.f3 s0 v1 s1 S32 n32 L32 e23 t16 := by rw [z32]; exact GoodM.ops (named_of namesOk) hF0 c32 g33
theorem g31 : GoodM Tryz.prog Tryz.f3 s0 v1 s1 S31 n31 L31 e22 t16 := GoodM.back c31 g32
theorem g30 : GoodM Tryz.prog Tryz.f3 s0 v1 s1 S30 n30 L30 e21 t15 := GoodM.step hG c30 g31
theorem g29 : GoodM Tryz.prog Tryz.f3 s0 v1 s1 S29 n29 L29 e21 t15 := GoodM.nav3 (n := 2) g30
theorem g28 : GoodM Tryz.prog Tryz.f3 s0 v1 s1 S28 n28 L28 e20 t14 := by rw [z28]; exact GoodM.ops (named_of namesOk) hF0 c28 g29
theorem g27 : GoodM Tryz.prog Tryz.f3 s0 v1 s1 S27 n27 L27 e19 t14 := GoodM.back c27 g28
theorem g26 : GoodM Tryz.prog Tryz.f3 s0 v1 s1 S26 n26 L26 e18 t13 := GoodM.step hG c26 g27
theorem g25 : GoodM Tryz.prog Tryz.f3 s0 v1 s1 S25 n25 L25 e17 t12 := GoodM.step hG c25 g26
theorem g24 : GoodM Tryz.prog Tryz.f3 s0 v1 s1 S24 n24 L24 e17 t12 := GoodM.nav3 (n := 2) g25
theorem g23 : GoodM Tryz.prog Tryz.f3 s0 v1 s1 S23 n23 L23 e16 t11 := by rw [z23]; exact GoodM.ops (named_of namesOk) hF0 c23 g24
theorem g22 : GoodM Tryz.prog Tryz.f3 s0 v1 s1 S22 n22 L22 e15 t11 := GoodM.back c22 g23
theorem g21 : GoodM Tryz.prog Tryz.f3 s0 v1 s1 S21 n21 L21 e14 t10 := GoodM.step hG c21 g22
theorem g20 : GoodM Tryz.prog Tryz.f3 s0 v1 s1 S20 n20 L20 e14 t10 := GoodM.nav3 (n := 3) g21
theorem g19 : GoodM Tryz.prog Tryz.f3 s0 v1 s1 S19 n19 L19 e13 t9 := GoodM.step hG c19 g20
theorem g18 : GoodM Tryz.prog Tryz.f3 s0 v1 s1 S18 n18 L18 e13 t9 := GoodM.nav3 (n := 1) g19
theorem g17 : GoodM Tryz.prog Tryz.f3 s0 v1 s1 S17 n17 L17 e12 t8 := GoodM.rounds hG x17 y17 c17 g18
theorem g16 : GoodM Tryz.prog Tryz.f3 s0 v1 s1 S16 n16 L16 e11 t7 := GoodM.rounds hG x16 y16 c16 g17
theorem g15 : GoodM Tryz.prog Tryz.f3 s0 v1 s1 S15 n15 L15 e11 t7 := GoodM.nav3 (n := 2) g16
theorem g14 : GoodM Tryz.prog Tryz.f3 s0 v1 s1 S14 n14 L14 e10 t6 := GoodM.step hG c14 g15
theorem g13 : GoodM Tryz.prog Tryz.f3 s0 v1 s1 S13 n13 L13 e9 t6 := by rw [z13]; exact GoodM.enter (named_of namesOk) c13 g14
theorem g12 : GoodM Tryz.prog Tryz.f3 s0 v1 s1 S12 n12 L12 e8 t5 := by rw [z12]; exact GoodM.ops (named_of namesOk) hF0 c12 g13
theorem g11 : GoodM Tryz.prog Tryz.f3 s0 v1 s1 S11 n11 L11 e8 t5 := GoodM.nav3 (n := 1) g12
theorem g10 : GoodM Tryz.prog Tryz.f3 s0 v1 s1 S10 n10 L10 e7 t4 := GoodM.step hG c10 g11
theorem g9 : GoodM Tryz.prog Tryz.f3 s0 v1 s1 S9 n9 L9 e6 t4 := by rw [z9]; exact GoodM.enter (named_of namesOk) c9 g10
theorem g8 : GoodM Tryz.prog Tryz.f3 s0 v1 s1 S8 n8 L8 e5 t3 := by rw [z8]; exact GoodM.ops (named_of namesOk) hF0 c8 g9
theorem g7 : GoodM Tryz.prog Tryz.f3 s0 v1 s1 S7 n7 L7 e5 t3 := GoodM.nav3 (n := 1) g8
theorem g6 : GoodM Tryz.prog Tryz.f3 s0 v1 s1 S6 n6 L6 e4 t2 := GoodM.step hG c6 g7
theorem g5 : GoodM Tryz.prog Tryz.f3 s0 v1 s1 S5 n5 L5 e3 t2 := by rw [z5]; exact GoodM.enter (named_of namesOk) c5 g6
theorem g4 : GoodM Tryz.prog Tryz.f3 s0 v1 s1 S4 n4 L4 e3 t2 := GoodM.nav3 (n := 1) g5
theorem g3 : GoodM Tryz.prog Tryz.f3 s0 v1 s1 S3 n3 L3 e2 t1 := GoodM.step hG c3 g4
theorem g2 : GoodM Tryz.prog Tryz.f3 s0 v1 s1 S2 n2 L2 e1 t1 := by rw [z2]; exact GoodM.enter (named_of namesOk) c2 g3
theorem g1 : GoodM Tryz.prog Tryz.f3 s0 v1 s1 S1 n1 L1 e1 t1 := GoodM.nav3 (n := 1) g2
theorem g0 : GoodM Tryz.prog Tryz.f3 s0 v1 s1 S0 n0 L0 e0 s0 := GoodM.step hG c0 g1
theorem good : Ev.Good Tryz.prog Tryz.f3 B0 e0 ⟨0, .lf⟩ := GoodM.good g0
end Go.Proofs.YtiifofhigjoegaaGreatDoor.rCrewKnown9
namespace Go.Proofs.YtiifofhigjoegaaGreatDoor
open Go.RowKit
theorem pr_CrewKnown (W : World) : Calls Tryz.prog 3 #[] W fun e W' => e = .returned (.bool true) ∧ Below W.heap.size W W' := Ev.Good.calls Tryz.func3 rCrewKnown9.body rCrewKnown9.good W
end Go.Proofs.YtiifofhigjoegaaGreatDoor
