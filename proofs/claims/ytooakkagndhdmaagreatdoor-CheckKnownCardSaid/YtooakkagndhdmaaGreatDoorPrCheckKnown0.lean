/-
  PLAIN: the Go function lintel/lintellaw19.CheckKnown, called in one state of a run: run in pieces by the evaluator, which is sound.
-/
import Derived.Test.YtooakkagndhdmaaGreatDoorChecked
import Derived.Test.YtooakkagndhdmaaGreatDoorPrCheckKnown0T0
import Derived.Test.YtooakkagndhdmaaGreatDoorPrCheckKnown0T1
namespace Go.Proofs.YtooakkagndhdmaaGreatDoor.rCheckKnown0
open Go.RowKit Ev
open cCheckKnown
theorem g139 : GoodM Tryz.prog Tryz.f3 s0 v1 s1 S139 n139 L139 e97 t65 := GoodM.done c139
theorem g138 : GoodM Tryz.prog Tryz.f3 s0 v1 s1 S138 n138 L138 e96 t64 := GoodM.step hG c138 g139
theorem g137 : GoodM Tryz.prog Tryz.f3 s0 v1 s1 S137 n137 L137 e96 t64 := GoodM.nav3 (n := 2) g138
theorem g136 : GoodM Tryz.prog Tryz.f3 s0 v1 s1 S136 n136 L136 e95 t63 := by rw [z136]; exact GoodM.ops (named_of namesOk) hF0 c136 g137
theorem g135 : GoodM Tryz.prog Tryz.f3 s0 v1 s1 S135 n135 L135 e94 t63 := GoodM.back c135 g136
theorem g134 : GoodM Tryz.prog Tryz.f3 s0 v1 s1 S134 n134 L134 e93 t62 := GoodM.step hG c134 g135
theorem g133 : GoodM Tryz.prog Tryz.f3 s0 v1 s1 S133 n133 L133 e93 t62 := GoodM.nav3 (n := 2) g134
theorem g132 : GoodM Tryz.prog Tryz.f3 s0 v1 s1 S132 n132 L132 e92 t62 := GoodM.back c132 g133
theorem g131 : GoodM Tryz.prog Tryz.f3 s0 v1 s1 S131 n131 L131 e92 t62 := GoodM.nav3 (n := 1) g132
theorem g130 : GoodM Tryz.prog Tryz.f3 s0 v1 s1 S130 n130 L130 e91 t61 := GoodM.step hG c130 g131
theorem g129 : GoodM Tryz.prog Tryz.f3 s0 v1 s1 S129 n129 L129 e91 t61 := GoodM.nav3 (n := 4) g130
theorem g128 : GoodM Tryz.prog Tryz.f3 s0 v1 s1 S128 n128 L128 e90 t60 := GoodM.step hG c128 g129
theorem g127 : GoodM Tryz.prog Tryz.f3 s0 v1 s1 S127 n127 L127 e89 t60 := by rw [z127]; exact GoodM.enter (named_of namesOk) c127 g128
theorem g126 : GoodM Tryz.prog Tryz.f3 s0 v1 s1 S126 n126 L126 e88 t59 := by rw [z126]; exact GoodM.ops (named_of namesOk) hF0 c126 g127
theorem g125 : GoodM Tryz.prog Tryz.f3 s0 v1 s1 S125 n125 L125 e88 t59 := GoodM.nav3 (n := 1) g126
theorem g124 : GoodM Tryz.prog Tryz.f3 s0 v1 s1 S124 n124 L124 e87 t58 := GoodM.step hG c124 g125
theorem g123 : GoodM Tryz.prog Tryz.f3 s0 v1 s1 S123 n123 L123 e86 t57 := GoodM.step hG c123 g124
theorem g122 : GoodM Tryz.prog Tryz.f3 s0 v1 s1 S122 n122 L122 e85 t57 := by rw [z122]; exact GoodM.enter (named_of namesOk) c122 g123
theorem g121 : GoodM Tryz.prog Tryz.f3 s0 v1 s1 S121 n121 L121 e84 t56 := by rw [z121]; exact GoodM.ops (named_of namesOk) hF0 c121 g122
theorem g120 : GoodM Tryz.prog Tryz.f3 s0 v1 s1 S120 n120 L120 e84 t56 := GoodM.nav3 (n := 3) g121
theorem g119 : GoodM Tryz.prog Tryz.f3 s0 v1 s1 S119 n119 L119 e83 t55 := by rw [z119]; exact GoodM.ops (named_of namesOk) hF0 c119 g120
theorem g118 : GoodM Tryz.prog Tryz.f3 s0 v1 s1 S118 n118 L118 e82 t55 := GoodM.back c118 g119
theorem g117 : GoodM Tryz.prog Tryz.f3 s0 v1 s1 S117 n117 L117 e81 t54 := GoodM.step hG c117 g118
theorem g116 : GoodM Tryz.prog Tryz.f3 s0 v1 s1 S116 n116 L116 e81 t54 := GoodM.nav3 (n := 2) g117
theorem g115 : GoodM Tryz.prog Tryz.f3 s0 v1 s1 S115 n115 L115 e80 t54 := GoodM.back c115 g116
theorem g114 : GoodM Tryz.prog Tryz.f3 s0 v1 s1 S114 n114 L114 e80 t54 := GoodM.nav3 (n := 1) g115
theorem g113 : GoodM Tryz.prog Tryz.f3 s0 v1 s1 S113 n113 L113 e79 t53 := GoodM.step hG c113 g114
theorem g112 : GoodM Tryz.prog Tryz.f3 s0 v1 s1 S112 n112 L112 e79 t53 := GoodM.nav3 (n := 4) g113
theorem g111 : GoodM Tryz.prog Tryz.f3 s0 v1 s1 S111 n111 L111 e78 t52 := GoodM.step hG c111 g112
theorem g110 : GoodM Tryz.prog Tryz.f3 s0 v1 s1 S110 n110 L110 e77 t52 := by rw [z110]; exact GoodM.enter (named_of namesOk) c110 g111
theorem g109 : GoodM Tryz.prog Tryz.f3 s0 v1 s1 S109 n109 L109 e76 t51 := by rw [z109]; exact GoodM.ops (named_of namesOk) hF0 c109 g110
theorem g108 : GoodM Tryz.prog Tryz.f3 s0 v1 s1 S108 n108 L108 e76 t51 := GoodM.nav3 (n := 1) g109
theorem g107 : GoodM Tryz.prog Tryz.f3 s0 v1 s1 S107 n107 L107 e75 t50 := GoodM.step hG c107 g108
theorem g106 : GoodM Tryz.prog Tryz.f3 s0 v1 s1 S106 n106 L106 e74 t49 := GoodM.step hG c106 g107
theorem g105 : GoodM Tryz.prog Tryz.f3 s0 v1 s1 S105 n105 L105 e73 t49 := by rw [z105]; exact GoodM.enter (named_of namesOk) c105 g106
theorem g104 : GoodM Tryz.prog Tryz.f3 s0 v1 s1 S104 n104 L104 e72 t48 := by rw [z104]; exact GoodM.ops (named_of namesOk) hF0 c104 g105
theorem g103 : GoodM Tryz.prog Tryz.f3 s0 v1 s1 S103 n103 L103 e72 t48 := GoodM.nav3 (n := 1) g104
theorem g102 : GoodM Tryz.prog Tryz.f3 s0 v1 s1 S102 n102 L102 e71 t47 := GoodM.step hG c102 g103
theorem g101 : GoodM Tryz.prog Tryz.f3 s0 v1 s1 S101 n101 L101 e71 t47 := GoodM.nav3 (n := 2) g102
theorem g100 : GoodM Tryz.prog Tryz.f3 s0 v1 s1 S100 n100 L100 e70 t46 := by rw [z100]; exact GoodM.ops (named_of namesOk) hF0 c100 g101
theorem g99 : GoodM Tryz.prog Tryz.f3 s0 v1 s1 S99 n99 L99 e69 t46 := GoodM.back c99 g100
theorem g98 : GoodM Tryz.prog Tryz.f3 s0 v1 s1 S98 n98 L98 e68 t45 := GoodM.step hG c98 g99
theorem g97 : GoodM Tryz.prog Tryz.f3 s0 v1 s1 S97 n97 L97 e68 t45 := GoodM.nav3 (n := 2) g98
theorem g96 : GoodM Tryz.prog Tryz.f3 s0 v1 s1 S96 n96 L96 e67 t45 := GoodM.back c96 g97
theorem g95 : GoodM Tryz.prog Tryz.f3 s0 v1 s1 S95 n95 L95 e67 t45 := GoodM.nav3 (n := 1) g96
theorem g94 : GoodM Tryz.prog Tryz.f3 s0 v1 s1 S94 n94 L94 e66 t44 := GoodM.step hG c94 g95
theorem g93 : GoodM Tryz.prog Tryz.f3 s0 v1 s1 S93 n93 L93 e66 t44 := GoodM.nav3 (n := 4) g94
theorem g92 : GoodM Tryz.prog Tryz.f3 s0 v1 s1 S92 n92 L92 e65 t43 := GoodM.step hG c92 g93
theorem g91 : GoodM Tryz.prog Tryz.f3 s0 v1 s1 S91 n91 L91 e64 t43 := by rw [z91]; exact GoodM.enter (named_of namesOk) c91 g92
theorem g90 : GoodM Tryz.prog Tryz.f3 s0 v1 s1 S90 n90 L90 e63 t42 := by rw [z90]; exact GoodM.ops (named_of namesOk) hF0 c90 g91
theorem g89 : GoodM Tryz.prog Tryz.f3 s0 v1 s1 S89 n89 L89 e63 t42 := GoodM.nav3 (n := 1) g90
theorem g88 : GoodM Tryz.prog Tryz.f3 s0 v1 s1 S88 n88 L88 e62 t41 := GoodM.step hG c88 g89
theorem g87 : GoodM Tryz.prog Tryz.f3 s0 v1 s1 S87 n87 L87 e61 t40 := GoodM.step hG c87 g88
theorem g86 : GoodM Tryz.prog Tryz.f3 s0 v1 s1 S86 n86 L86 e60 t40 := by rw [z86]; exact GoodM.enter (named_of namesOk) c86 g87
theorem g85 : GoodM Tryz.prog Tryz.f3 s0 v1 s1 S85 n85 L85 e59 t39 := by rw [z85]; exact GoodM.ops (named_of namesOk) hF0 c85 g86
theorem g84 : GoodM Tryz.prog Tryz.f3 s0 v1 s1 S84 n84 L84 e59 t39 := GoodM.nav3 (n := 1) g85
theorem g83 : GoodM Tryz.prog Tryz.f3 s0 v1 s1 S83 n83 L83 e58 t38 := GoodM.step hG c83 g84
theorem g82 : GoodM Tryz.prog Tryz.f3 s0 v1 s1 S82 n82 L82 e58 t38 := GoodM.nav3 (n := 2) g83
theorem g81 : GoodM Tryz.prog Tryz.f3 s0 v1 s1 S81 n81 L81 e57 t37 := by rw [z81]; exact GoodM.ops (named_of namesOk) hF0 c81 g82
theorem g80 : GoodM Tryz.prog Tryz.f3 s0 v1 s1 S80 n80 L80 e56 t37 := GoodM.back c80 g81
theorem g79 : GoodM Tryz.prog Tryz.f3 s0 v1 s1 S79 n79 L79 e55 t36 := GoodM.step hG c79 g80
theorem g78 : GoodM Tryz.prog Tryz.f3 s0 v1 s1 S78 n78 L78 e55 t36 := GoodM.nav3 (n := 2) g79
theorem g77 : GoodM Tryz.prog Tryz.f3 s0 v1 s1 S77 n77 L77 e54 t36 := GoodM.back c77 g78
theorem g76 : GoodM Tryz.prog Tryz.f3 s0 v1 s1 S76 n76 L76 e54 t36 := GoodM.nav3 (n := 1) g77
theorem g75 : GoodM Tryz.prog Tryz.f3 s0 v1 s1 S75 n75 L75 e53 t35 := GoodM.step hG c75 g76
theorem g74 : GoodM Tryz.prog Tryz.f3 s0 v1 s1 S74 n74 L74 e53 t35 := GoodM.nav3 (n := 4) g75
theorem g73 : GoodM Tryz.prog Tryz.f3 s0 v1 s1 S73 n73 L73 e52 t34 := GoodM.step hG c73 g74
theorem g72 : GoodM Tryz.prog Tryz.f3 s0 v1 s1 S72 n72 L72 e51 t34 := by rw [z72]; exact GoodM.enter (named_of namesOk) c72 g73
theorem g71 : GoodM Tryz.prog Tryz.f3 s0 v1 s1 S71 n71 L71 e50 t33 := by rw [z71]; exact GoodM.ops (named_of namesOk) hF0 c71 g72
theorem g70 : GoodM Tryz.prog Tryz.f3 s0 v1 s1 S70 n70 L70 e50 t33 := GoodM.nav3 (n := 1) g71
theorem g69 : GoodM Tryz.prog Tryz.f3 s0 v1 s1 S69 n69 L69 e49 t32 := GoodM.step hG c69 g70
theorem g68 : GoodM Tryz.prog Tryz.f3 s0 v1 s1 S68 n68 L68 e48 t31 := GoodM.step hG c68 g69
theorem g67 : GoodM Tryz.prog Tryz.f3 s0 v1 s1 S67 n67 L67 e47 t31 := by rw [z67]; exact GoodM.enter (named_of namesOk) c67 g68
theorem g66 : GoodM Tryz.prog Tryz.f3 s0 v1 s1 S66 n66 L66 e46 t30 := by rw [z66]; exact GoodM.ops (named_of namesOk) hF0 c66 g67
theorem g65 : GoodM Tryz.prog Tryz.f3 s0 v1 s1 S65 n65 L65 e46 t30 := GoodM.nav3 (n := 3) g66
theorem g64 : GoodM Tryz.prog Tryz.f3 s0 v1 s1 S64 n64 L64 e45 t29 := by rw [z64]; exact GoodM.ops (named_of namesOk) hF0 c64 g65
theorem g63 : GoodM Tryz.prog Tryz.f3 s0 v1 s1 S63 n63 L63 e44 t29 := GoodM.back c63 g64
theorem g62 : GoodM Tryz.prog Tryz.f3 s0 v1 s1 S62 n62 L62 e43 t28 := GoodM.step hG c62 g63
theorem g61 : GoodM Tryz.prog Tryz.f3 s0 v1 s1 S61 n61 L61 e43 t28 := GoodM.nav3 (n := 2) g62
theorem g60 : GoodM Tryz.prog Tryz.f3 s0 v1 s1 S60 n60 L60 e42 t28 := GoodM.back c60 g61
theorem g59 : GoodM Tryz.prog Tryz.f3 s0 v1 s1 S59 n59 L59 e42 t28 := GoodM.nav3 (n := 1) g60
theorem g58 : GoodM Tryz.prog Tryz.f3 s0 v1 s1 S58 n58 L58 e41 t27 := GoodM.step hG c58 g59
theorem g57 : GoodM Tryz.prog Tryz.f3 s0 v1 s1 S57 n57 L57 e41 t27 := GoodM.nav3 (n := 4) g58
theorem g56 : GoodM Tryz.prog Tryz.f3 s0 v1 s1 S56 n56 L56 e40 t26 := GoodM.step hG c56 g57
theorem g55 : GoodM Tryz.prog Tryz.f3 s0 v1 s1 S55 n55 L55 e39 t26 := by rw [z55]; exact GoodM.enter (named_of namesOk) c55 g56
theorem g54 : GoodM Tryz.prog Tryz.f3 s0 v1 s1 S54 n54 L54 e38 t25 := by rw [z54]; exact GoodM.ops (named_of namesOk) hF0 c54 g55
theorem g53 : GoodM Tryz.prog Tryz.f3 s0 v1 s1 S53 n53 L53 e38 t25 := GoodM.nav3 (n := 1) g54
theorem g52 : GoodM Tryz.prog Tryz.f3 s0 v1 s1 S52 n52 L52 e37 t24 := GoodM.step hG c52 g53
theorem g51 : GoodM Tryz.prog Tryz.f3 s0 v1 s1 S51 n51 L51 e36 t23 := GoodM.step hG c51 g52
theorem g50 : GoodM Tryz.prog Tryz.f3 s0 v1 s1 S50 n50 L50 e35 t23 := by rw [z50]; exact GoodM.enter (named_of namesOk) c50 g51
theorem g49 : GoodM Tryz.prog Tryz.f3 s0 v1 s1 S49 n49 L49 e34 t22 := by rw [z49]; exact GoodM.ops (named_of namesOk) hF0 c49 g50
theorem g48 : GoodM Tryz.prog Tryz.f3 s0 v1 s1 S48 n48 L48 e34 t22 := GoodM.nav3 (n := 1) g49
theorem g47 : GoodM Tryz.prog Tryz.f3 s0 v1 s1 S47 n47 L47 e33 t21 := GoodM.step hG c47 g48
theorem g46 : GoodM Tryz.prog Tryz.f3 s0 v1 s1 S46 n46 L46 e33 t21 := GoodM.nav3 (n := 2) g47
theorem g45 : GoodM Tryz.prog Tryz.f3 s0 v1 s1 S45 n45 L45 e32 t20 := by rw [z45]; exact GoodM.ops (named_of namesOk) hF0 c45 g46
theorem g44 : GoodM Tryz.prog Tryz.f3 s0 v1 s1 S44 n44 L44 e31 t20 := GoodM.back c44 g45
theorem g43 : GoodM Tryz.prog Tryz.f3 s0 v1 s1 S43 n43 L43 e31 t20 := GoodM.nav3 (n := 2) g44
theorem g42 : GoodM Tryz.prog Tryz.f3 s0 v1 s1 S42 n42 L42 e30 t19 := by rw [z42]; exact GoodM.ops (named_of namesOk) hF0 c42 g43
theorem g41 : GoodM Tryz.prog Tryz.f3 s0 v1 s1 S41 n41 L41 e29 t19 := GoodM.back c41 g42
theorem g40 : GoodM Tryz.prog Tryz.f3 s0 v1 s1 S40 n40 L40 e29 t19 := GoodM.nav3 (n := 2) g41
theorem g39 : GoodM Tryz.prog Tryz.f3 s0 v1 s1 S39 n39 L39 e28 t18 := by rw [z39]; exact GoodM.ops (named_of namesOk) hF0 c39 g40
theorem g38 : GoodM Tryz.prog Tryz.f3 s0 v1 s1 S38 n38 L38 e27 t18 := GoodM.back c38 g39
theorem g37 : GoodM Tryz.prog Tryz.f3 s0 v1 s1 S37 n37 L37 e26 t17 := GoodM.step hG c37 g38
theorem g36 : GoodM Tryz.prog Tryz.f3 s0 v1 s1 S36 n36 L36 e26 t17 := GoodM.nav3 (n := 2) g37
theorem g35 : GoodM Tryz.prog Tryz.f3 s0 v1 s1 S35 n35 L35 e25 t17 := GoodM.back c35 g36
theorem g34 : GoodM Tryz.prog Tryz.f3 s0 v1 s1 S34 n34 L34 e25 t17 := GoodM.nav3 (n := 1) g35
theorem g33 : GoodM Tryz.prog Tryz.f3 s0 v1 s1 S33 n33 L33 e24 t16 := GoodM.step hG c33 g34
theorem g32 : GoodM Tryz.prog Tryz.f3 s0 v1 s1 S32 n32 L32 e24 t16 := GoodM.nav3 (n := 4) g33
theorem g31 : GoodM Tryz.prog Tryz.f3 s0 v1 s1 S31 n31 L31 e23 t15 := GoodM.step hG c31 g32
theorem g30 : GoodM Tryz.prog Tryz.f3 s0 v1 s1 S30 n30 L30 e22 t15 := by rw [z30]; exact GoodM.enter (named_of namesOk) c30 g31
theorem g29 : GoodM Tryz.prog Tryz.f3 s0 v1 s1 S29 n29 L29 e21 t14 := by rw [z29]; exact GoodM.ops (named_of namesOk) hF0 c29 g30
theorem g28 : GoodM Tryz.prog Tryz.f3 s0 v1 s1 S28 n28 L28 e21 t14 := GoodM.nav3 (n := 1) g29
theorem g27 : GoodM Tryz.prog Tryz.f3 s0 v1 s1 S27 n27 L27 e20 t13 := GoodM.step hG c27 g28
theorem g26 : GoodM Tryz.prog Tryz.f3 s0 v1 s1 S26 n26 L26 e19 t12 := GoodM.step hG c26 g27
theorem g25 : GoodM Tryz.prog Tryz.f3 s0 v1 s1 S25 n25 L25 e18 t12 := by rw [z25]; exact GoodM.enter (named_of namesOk) c25 g26
theorem g24 : GoodM Tryz.prog Tryz.f3 s0 v1 s1 S24 n24 L24 e17 t11 := by rw [z24]; exact GoodM.ops (named_of namesOk) hF0 c24 g25
theorem g23 : GoodM Tryz.prog Tryz.f3 s0 v1 s1 S23 n23 L23 e17 t11 := GoodM.nav3 (n := 1) g24
theorem g22 : GoodM Tryz.prog Tryz.f3 s0 v1 s1 S22 n22 L22 e16 t10 := GoodM.step hG c22 g23
theorem g21 : GoodM Tryz.prog Tryz.f3 s0 v1 s1 S21 n21 L21 e15 t10 := by rw [z21]; exact GoodM.enter (named_of namesOk) c21 g22
theorem g20 : GoodM Tryz.prog Tryz.f3 s0 v1 s1 S20 n20 L20 e14 t9 := by rw [z20]; exact GoodM.ops (named_of namesOk) hF0 c20 g21
theorem g19 : GoodM Tryz.prog Tryz.f3 s0 v1 s1 S19 n19 L19 e13 t9 := GoodM.back c19 g20
theorem g18 : GoodM Tryz.prog Tryz.f3 s0 v1 s1 S18 n18 L18 e12 t8 := GoodM.step hG c18 g19
theorem g17 : GoodM Tryz.prog Tryz.f3 s0 v1 s1 S17 n17 L17 e12 t8 := GoodM.nav3 (n := 2) g18
theorem g16 : GoodM Tryz.prog Tryz.f3 s0 v1 s1 S16 n16 L16 e11 t8 := GoodM.back c16 g17
theorem g15 : GoodM Tryz.prog Tryz.f3 s0 v1 s1 S15 n15 L15 e11 t8 := GoodM.nav3 (n := 1) g16
theorem g14 : GoodM Tryz.prog Tryz.f3 s0 v1 s1 S14 n14 L14 e10 t7 := GoodM.step hG c14 g15
theorem g13 : GoodM Tryz.prog Tryz.f3 s0 v1 s1 S13 n13 L13 e10 t7 := GoodM.nav3 (n := 4) g14
theorem g12 : GoodM Tryz.prog Tryz.f3 s0 v1 s1 S12 n12 L12 e9 t6 := GoodM.step hG c12 g13
theorem g11 : GoodM Tryz.prog Tryz.f3 s0 v1 s1 S11 n11 L11 e8 t6 := by rw [z11]; exact GoodM.enter (named_of namesOk) c11 g12
theorem g10 : GoodM Tryz.prog Tryz.f3 s0 v1 s1 S10 n10 L10 e7 t5 := by rw [z10]; exact GoodM.ops (named_of namesOk) hF0 c10 g11
theorem g9 : GoodM Tryz.prog Tryz.f3 s0 v1 s1 S9 n9 L9 e7 t5 := GoodM.nav3 (n := 1) g10
theorem g8 : GoodM Tryz.prog Tryz.f3 s0 v1 s1 S8 n8 L8 e6 t4 := GoodM.step hG c8 g9
theorem g7 : GoodM Tryz.prog Tryz.f3 s0 v1 s1 S7 n7 L7 e5 t3 := GoodM.step hG c7 g8
theorem g6 : GoodM Tryz.prog Tryz.f3 s0 v1 s1 S6 n6 L6 e4 t3 := by rw [z6]; exact GoodM.enter (named_of namesOk) c6 g7
theorem g5 : GoodM Tryz.prog Tryz.f3 s0 v1 s1 S5 n5 L5 e3 t2 := by rw [z5]; exact GoodM.ops (named_of namesOk) hF0 c5 g6
theorem g4 : GoodM Tryz.prog Tryz.f3 s0 v1 s1 S4 n4 L4 e3 t2 := GoodM.nav3 (n := 1) g5
theorem g3 : GoodM Tryz.prog Tryz.f3 s0 v1 s1 S3 n3 L3 e2 t1 := GoodM.step hG c3 g4
theorem g2 : GoodM Tryz.prog Tryz.f3 s0 v1 s1 S2 n2 L2 e1 t1 := by rw [z2]; exact GoodM.enter (named_of namesOk) c2 g3
theorem g1 : GoodM Tryz.prog Tryz.f3 s0 v1 s1 S1 n1 L1 e1 t1 := GoodM.nav3 (n := 1) g2
theorem g0 : GoodM Tryz.prog Tryz.f3 s0 v1 s1 S0 n0 L0 e0 s0 := GoodM.step hG c0 g1
theorem good : Ev.Good Tryz.prog Tryz.f3 B0 e0 ⟨0, .lf⟩ := GoodM.good g0
end Go.Proofs.YtooakkagndhdmaaGreatDoor.rCheckKnown0
namespace Go.Proofs.YtooakkagndhdmaaGreatDoor
open Go.RowKit
theorem pr_CheckKnown (W : World) : Calls Tryz.prog 3 #[] W fun e W' => e = .returned (.bool true) ∧ Below W.heap.size W W' := Ev.Good.calls Tryz.func3 rCheckKnown0.body rCheckKnown0.good W
end Go.Proofs.YtooakkagndhdmaaGreatDoor
