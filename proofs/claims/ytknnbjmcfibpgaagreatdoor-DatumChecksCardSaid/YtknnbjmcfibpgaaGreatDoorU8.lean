import Derived.Test.YtknnbjmcfibpgaaGreatDoorU3
import Derived.Test.YtknnbjmcfibpgaaGreatDoorU7
import Derived.Test.YtknnbjmcfibpgaaGreatDoorU4
import Derived.Test.YtknnbjmcfibpgaaGreatDoorU6
import Derived.Sort.Walk0
import Derived.Test.YtknnbjmcfibpgaaGreatDoorU5
set_option linter.unusedSimpArgs false
set_option linter.unusedVariables false
noncomputable section
namespace Go.Proofs.YtknnbjmcfibpgaaGreatDoor
section
open Go Go.Eng
variable (E:Env) (ro:Option Nat) (last:List Nat->aZ) (cl:List Nat) (a:aV) (u:Option FrameMode) (Z:aC)
def AxZ(_:Unit):List COp:=[⟨fun a Z=>.val (a.get 3) Z,some 45,tT⟩,
 ⟨fun a Z=>.enter 9 [(a.get 45)] Z,some 46,tT⟩,
 ⟨fun a Z=>.val (a.get 46) Z,some 9,tT⟩]
def Ayi:List COp:=AxZ ()
def Ax0(_:Unit):List COp:=[⟨fun a Z=>.val (a.get 9) Z,some 47,tT⟩,
 ⟨fun a Z=>.enter 8 [(a.get 47),(.int .i64 4)] Z,some 48,tT⟩,
 ⟨fun a Z=>aP [(.int .i64 0),(.int .i64 0),(.string ⟨#[]⟩),(.slice none 0 0)] 24 none Z,some 10,tT⟩,
 ⟨fun a Z=>aK 4 (a.get 10) (a.get 48) Z,none,tT⟩]
def Ayj:List COp:=Ax0 ()
def Ax1(_:Unit):List COp:=[⟨fun a Z=>aG (some 4) (a.get 10) Z,some 49,tT⟩,
 ⟨fun a Z=>.enter 31 [(a.get 49),(.slice none 0 0)] Z,some 50,tT⟩,
 ⟨fun a Z=>.val (a.get 50) Z,some 11,tT⟩]
def Ayk:List COp:=Ax1 ()
def Ax2(_:Unit):List COp:=[⟨fun a Z=>.val (a.get 11) Z,some 51,tT⟩,
 ⟨fun a Z=>.val (a.get 9) Z,some 52,tT⟩,
 ⟨fun a Z=>.val (a.get 11) Z,some 53,tT⟩,
 ⟨fun a Z=>flenL (a.get 53) Z,some 54,tT⟩,
 ⟨fun a Z=>i_sub Tryz.prog 3 (.tmp 54) (.const (.int .i64 1)) (a.get 54) (.int .i64 1) Z,some 55,tT⟩,
 ⟨fun a Z=>.enter 19 [(a.get 52),(a.get 55)] Z,some 56,tT⟩,
 ⟨fun a Z=>bB (none,1) (a.get 51) (a.get 56) Z,some 57,tT⟩,
 ⟨fun a Z=>aG none (a.get 57) Z,some 58,tT⟩,
 ⟨fun a Z=>.val (a.get 58) Z,some 12,tT⟩]
def Ayl:List COp:=Ax2 ()
def Ax3(_:Unit):List DOp:=[⟨fun a Z=>.val (a.get 9) Z,some 62,tT,some 0,false⟩,
 ⟨fun a Z=>.val (a.get 11) Z,some 63,tT,some 0,false⟩,
 ⟨fun a Z=>flenL (a.get 63) Z,some 64,tT,some 0,false⟩,
 ⟨fun a Z=>i_sub Tryz.prog 3 (.tmp 64) (.const (.int .i64 1)) (a.get 64) (.int .i64 1) Z,some 65,tT,some 0,false⟩,
 ⟨fun a Z=>.enter 19 [(a.get 62),(a.get 65)] Z,some 66,tT,none,false⟩,
 ⟨fun a Z=>aG (some 4) (a.get 10) Z,some 60,tT,some 0,false⟩,
 ⟨fun a Z=>.val (a.get 11) Z,some 61,tT,some 0,false⟩,
 ⟨fun a Z=>bB (none,1) (a.get 61) (a.get 66) Z,some 67,tT,some 1,false⟩,
 ⟨fun a Z=>aG none (a.get 67) Z,some 68,tT,some 1,false⟩,
 ⟨fun a Z=>.enter 32 [(a.get 60),(a.get 68)] Z,some 69,tT,none,false⟩,
 ⟨fun a Z=>.val (a.get 69) Z,some 59,tT,some 2,false⟩,
 ⟨fun a Z=>aJ 0 (a.get 59) Z,some 70,tT,some 2,false⟩,
 ⟨fun a Z=>aP [(.int .i64 0),(.int .i64 0),(.string ⟨#[]⟩),(.slice none 0 0)] 24 none Z,some 13,tT,some 0,false⟩,
 ⟨fun a Z=>aK 4 (a.get 13) (a.get 70) Z,none,tT,none,false⟩,
 ⟨fun a Z=>aJ 1 (a.get 59) Z,some 71,tT,some 2,false⟩,
 ⟨fun a Z=>.val (a.get 71) Z,some 14,tT,some 3,false⟩]
def Aym:List DOp:=Ax3 ()
def Ax4(_:Unit):List DOp:=[⟨fun a Z=>.val (a.get 12) Z,some 82,tT,some 0,false⟩,
 ⟨fun a Z=>.enter 33 [(a.get 82)] Z,some 83,tT,none,false⟩,
 ⟨fun a Z=>.val (a.get 9) Z,some 84,tT,some 0,false⟩,
 ⟨fun a Z=>.enter 19 [(a.get 84),(.int .i64 2)] Z,some 85,tT,none,false⟩,
 ⟨fun a Z=>aX 3 1 1 [(.int .i64 0)] [(0,(a.get 85))] Z,some 86,tT,some 2,false⟩,
 ⟨fun a Z=>fappend 3 1 8 (a.get 83) (a.get 86) Z,some 87,tT,none,false⟩,
 ⟨fun a Z=>aG (some 4) (a.get 4) Z,some 72,tT,some 0,false⟩,
 ⟨fun a Z=>aG (some 4) (a.get 10) Z,some 73,tT,some 0,false⟩,
 ⟨fun a Z=>aG (some 4) (a.get 10) Z,some 74,tT,some 0,false⟩,
 ⟨fun a Z=>aX 24 3 4 [(.int .i64 0),(.int .i64 0),(.string ⟨#[]⟩),(.slice none 0 0)] [(0,(a.get 72)),(1,(a.get 73)),(2,(a.get 74))] Z,some 75,tT,some 0,false⟩,
 ⟨fun a Z=>aG (some 4) (a.get 5) Z,some 76,tT,some 0,false⟩,
 ⟨fun a Z=>aG (some 4) (a.get 13) Z,some 77,tT,some 0,false⟩,
 ⟨fun a Z=>aG (some 4) (a.get 5) Z,some 78,tT,some 0,false⟩,
 ⟨fun a Z=>aX 24 3 4 [(.int .i64 0),(.int .i64 0),(.string ⟨#[]⟩),(.slice none 0 0)] [(0,(a.get 76)),(1,(a.get 77)),(2,(a.get 78))] Z,some 79,tT,some 0,false⟩,
 ⟨fun a Z=>.val (a.get 2) Z,some 80,tT,some 0,false⟩,
 ⟨fun a Z=>.val (a.get 12) Z,some 81,tT,some 0,false⟩,
 ⟨fun a Z=>aX 25 3 1 [(.slice none 0 0)] [(0,(a.get 80)),(1,(a.get 81)),(2,(a.get 87))] Z,some 88,tT,some 3,false⟩,
 ⟨fun a Z=>.val (a.get 75) Z,some 15,tT,some 3,false⟩,
 ⟨fun a Z=>.val (a.get 79) Z,some 16,tT,some 3,false⟩,
 ⟨fun a Z=>.val (a.get 88) Z,some 17,tT,some 3,false⟩]
def Ayn:List DOp:=Ax4 ()
def Ax5(_:Unit):List COp:=[⟨fun a Z=>.val (.int .i64 0) Z,some 18,tT⟩]
def Ayo:List COp:=Ax5 ()
def AwH(_:Unit):List COp:=[⟨fun a Z=>.val (a.get 18) Z,some 89,tT⟩,
 ⟨fun a Z=>.val (a.get 15) Z,some 90,tT⟩,
 ⟨fun a Z=>flenL (a.get 90) Z,some 91,tT⟩,
 ⟨fun a Z=>i_lss Tryz.prog 3 (.tmp 89) (.tmp 91) (a.get 89) (a.get 91) Z,some 92,tT⟩]
def AxN:List COp:=AwH ()
def AwJ(_:Unit):List DOp:=[⟨fun a Z=>.val (a.get 15) Z,some 95,tT,some 0,false⟩,
 ⟨fun a Z=>.val (a.get 18) Z,some 96,tT,some 0,false⟩,
 ⟨fun a Z=>bB (none,4) (a.get 95) (a.get 96) Z,some 97,tT,some 0,false⟩,
 ⟨fun a Z=>aG (some 4) (a.get 97) Z,some 98,tT,some 0,false⟩,
 ⟨fun a Z=>.enter 10 [(a.get 98)] Z,some 99,tT,none,false⟩,
 ⟨fun a Z=>.val (a.get 17) Z,some 100,tT,some 0,false⟩,
 ⟨fun a Z=>.val (a.get 18) Z,some 101,tT,some 0,false⟩,
 ⟨fun a Z=>bB (none,1) (a.get 100) (a.get 101) Z,some 102,tT,some 0,false⟩,
 ⟨fun a Z=>aG none (a.get 102) Z,some 103,tT,some 0,false⟩,
 ⟨fun a Z=>.enter 33 [(a.get 103)] Z,some 104,tT,none,false⟩,
 ⟨fun a Z=>aP [(.int .i64 0),(.int .i64 0),(.string ⟨#[]⟩),(.slice none 0 0)] 24 none Z,some 19,tT,some 0,false⟩,
 ⟨fun a Z=>aK 4 (a.get 19) (a.get 99) Z,none,tT,none,true⟩,
 ⟨fun a Z=>.val (a.get 104) Z,some 20,tT,some 3,false⟩]
def AxP:List DOp:=AwJ ()
def AwK(_:Unit):List COp:=[⟨fun a Z=>aG (some 4) (a.get 19) Z,some 106,tT⟩,
 ⟨fun a Z=>.val (a.get 20) Z,some 107,tT⟩,
 ⟨fun a Z=>.enter 34 [(a.get 106),(a.get 107)] Z,some 108,tT⟩,
 ⟨fun a Z=>.val (a.get 108) Z,some 105,tT⟩,
 ⟨fun a Z=>aJ 0 (a.get 105) Z,some 109,tT⟩,
 ⟨fun a Z=>aJ 1 (a.get 105) Z,some 110,tT⟩,
 ⟨fun a Z=>aP [(.int .i64 0),(.int .i64 0),(.string ⟨#[]⟩),(.slice none 0 0)] 24 none Z,some 21,tT⟩,
 ⟨fun a Z=>aK 4 (a.get 21) (a.get 109) Z,none,tT⟩,
 ⟨fun a Z=>.val (a.get 110) Z,some 22,tT⟩]
def AxQ:List COp:=AwK ()
def AwL(_:Unit):List DOp:=[⟨fun a Z=>.val (a.get 15) Z,some 112,tT,some 0,false⟩,
 ⟨fun a Z=>.val (a.get 18) Z,some 113,tT,some 0,false⟩,
 ⟨fun a Z=>bB (none,4) (a.get 112) (a.get 113) Z,some 114,tT,some 0,false⟩,
 ⟨fun a Z=>aG (some 4) (a.get 114) Z,some 115,tT,some 0,false⟩,
 ⟨fun a Z=>.val (a.get 17) Z,some 116,tT,some 0,false⟩,
 ⟨fun a Z=>.val (a.get 18) Z,some 117,tT,some 0,false⟩,
 ⟨fun a Z=>bB (none,1) (a.get 116) (a.get 117) Z,some 118,tT,some 0,false⟩,
 ⟨fun a Z=>aG none (a.get 118) Z,some 119,tT,some 0,false⟩,
 ⟨fun a Z=>.enter 35 [(a.get 115),(a.get 119)] Z,some 120,tT,none,false⟩,
 ⟨fun a Z=>.val (a.get 120) Z,some 111,tT,some 1,false⟩,
 ⟨fun a Z=>aJ 0 (a.get 111) Z,some 121,tT,some 1,false⟩,
 ⟨fun a Z=>aP [(.int .i64 0),(.int .i64 0),(.string ⟨#[]⟩),(.slice none 0 0)] 24 none Z,some 23,tT,some 0,false⟩,
 ⟨fun a Z=>aK 4 (a.get 23) (a.get 121) Z,none,tT,none,false⟩,
 ⟨fun a Z=>aJ 1 (a.get 111) Z,some 122,tT,some 1,false⟩,
 ⟨fun a Z=>.val (a.get 122) Z,some 24,tT,some 2,false⟩]
def AxR:List DOp:=AwL ()
def AwM(_:Unit):List DOp:=[⟨fun a Z=>aG (some 4) (a.get 19) Z,some 124,tT,some 0,false⟩,
 ⟨fun a Z=>.val (a.get 20) Z,some 125,tT,some 0,false⟩,
 ⟨fun a Z=>.val (a.get 16) Z,some 126,tT,some 0,false⟩,
 ⟨fun a Z=>.val (a.get 18) Z,some 127,tT,some 0,false⟩,
 ⟨fun a Z=>bB (none,4) (a.get 126) (a.get 127) Z,some 128,tT,some 0,false⟩,
 ⟨fun a Z=>aG (some 4) (a.get 128) Z,some 129,tT,some 0,false⟩,
 ⟨fun a Z=>.enter 36 [(a.get 124),(a.get 125),(a.get 129)] Z,some 130,tT,none,false⟩,
 ⟨fun a Z=>.val (a.get 130) Z,some 123,tT,some 1,false⟩,
 ⟨fun a Z=>aJ 0 (a.get 123) Z,some 131,tT,some 1,false⟩,
 ⟨fun a Z=>aP [(.int .i64 0),(.int .i64 0),(.string ⟨#[]⟩),(.slice none 0 0)] 24 none Z,some 25,tT,some 0,false⟩,
 ⟨fun a Z=>aK 4 (a.get 25) (a.get 131) Z,none,tT,none,false⟩,
 ⟨fun a Z=>aJ 1 (a.get 123) Z,some 132,tT,some 1,false⟩,
 ⟨fun a Z=>.val (a.get 132) Z,some 26,tT,some 2,false⟩]
def AxS:List DOp:=AwM ()
def AwN(_:Unit):List DOp:=[⟨fun a Z=>.val (a.get 15) Z,some 134,tT,some 0,false⟩,
 ⟨fun a Z=>.val (a.get 18) Z,some 135,tT,some 0,false⟩,
 ⟨fun a Z=>bB (none,4) (a.get 134) (a.get 135) Z,some 136,tT,some 0,false⟩,
 ⟨fun a Z=>aG (some 4) (a.get 136) Z,some 137,tT,some 0,false⟩,
 ⟨fun a Z=>.val (a.get 17) Z,some 138,tT,some 0,false⟩,
 ⟨fun a Z=>.val (a.get 18) Z,some 139,tT,some 0,false⟩,
 ⟨fun a Z=>bB (none,1) (a.get 138) (a.get 139) Z,some 140,tT,some 0,false⟩,
 ⟨fun a Z=>aG none (a.get 140) Z,some 141,tT,some 0,false⟩,
 ⟨fun a Z=>.val (a.get 16) Z,some 142,tT,some 0,false⟩,
 ⟨fun a Z=>.val (a.get 18) Z,some 143,tT,some 0,false⟩,
 ⟨fun a Z=>bB (none,4) (a.get 142) (a.get 143) Z,some 144,tT,some 0,false⟩,
 ⟨fun a Z=>aG (some 4) (a.get 144) Z,some 145,tT,some 0,false⟩,
 ⟨fun a Z=>.enter 37 [(a.get 137),(a.get 141),(a.get 145)] Z,some 146,tT,none,false⟩,
 ⟨fun a Z=>.val (a.get 146) Z,some 133,tT,some 1,false⟩,
 ⟨fun a Z=>aJ 0 (a.get 133) Z,some 147,tT,some 1,false⟩,
 ⟨fun a Z=>aP [(.int .i64 0),(.int .i64 0),(.string ⟨#[]⟩),(.slice none 0 0)] 24 none Z,some 27,tT,some 0,false⟩,
 ⟨fun a Z=>aK 4 (a.get 27) (a.get 147) Z,none,tT,none,false⟩,
 ⟨fun a Z=>aJ 1 (a.get 133) Z,some 148,tT,some 1,false⟩,
 ⟨fun a Z=>.val (a.get 148) Z,some 28,tT,some 2,false⟩]
def AxT:List DOp:=AwN ()
def AwO(_:Unit):List DOp:=[⟨fun a Z=>aG (some 4) (a.get 19) Z,some 150,tT,some 0,false⟩,
 ⟨fun a Z=>.val (a.get 16) Z,some 151,tT,some 0,false⟩,
 ⟨fun a Z=>.val (a.get 18) Z,some 152,tT,some 0,false⟩,
 ⟨fun a Z=>bB (none,4) (a.get 151) (a.get 152) Z,some 153,tT,some 0,false⟩,
 ⟨fun a Z=>aG (some 4) (a.get 153) Z,some 154,tT,some 0,false⟩,
 ⟨fun a Z=>.enter 38 [(a.get 150),(a.get 154)] Z,some 155,tT,none,true⟩,
 ⟨fun a Z=>.val (a.get 155) Z,some 149,tT,some 1,false⟩,
 ⟨fun a Z=>aJ 0 (a.get 149) Z,some 156,tT,some 1,false⟩,
 ⟨fun a Z=>aJ 1 (a.get 149) Z,some 157,tT,some 1,false⟩,
 ⟨fun a Z=>.val (a.get 156) Z,some 29,tT,some 1,false⟩,
 ⟨fun a Z=>.val (a.get 157) Z,some 30,tT,some 1,false⟩]
def AxU:List DOp:=AwO ()
def AwP(_:Unit):List DOp:=[⟨fun a Z=>.val (a.get 15) Z,some 159,tT,some 0,false⟩,
 ⟨fun a Z=>.val (a.get 18) Z,some 160,tT,some 0,false⟩,
 ⟨fun a Z=>bB (none,4) (a.get 159) (a.get 160) Z,some 161,tT,some 0,false⟩,
 ⟨fun a Z=>aG (some 4) (a.get 161) Z,some 162,tT,some 0,false⟩,
 ⟨fun a Z=>.val (a.get 16) Z,some 163,tT,some 0,false⟩,
 ⟨fun a Z=>.val (a.get 18) Z,some 164,tT,some 0,false⟩,
 ⟨fun a Z=>bB (none,4) (a.get 163) (a.get 164) Z,some 165,tT,some 0,false⟩,
 ⟨fun a Z=>aG (some 4) (a.get 165) Z,some 166,tT,some 0,false⟩,
 ⟨fun a Z=>.enter 39 [(a.get 162),(a.get 166)] Z,some 167,tT,none,true⟩,
 ⟨fun a Z=>.val (a.get 167) Z,some 158,tT,some 1,false⟩,
 ⟨fun a Z=>aJ 0 (a.get 158) Z,some 168,tT,some 1,false⟩,
 ⟨fun a Z=>aJ 1 (a.get 158) Z,some 169,tT,some 1,false⟩,
 ⟨fun a Z=>.val (a.get 168) Z,some 31,tT,some 1,false⟩,
 ⟨fun a Z=>.val (a.get 169) Z,some 32,tT,some 1,false⟩]
def AxV:List DOp:=AwP ()
def AwQ(_:Unit):List DOp:=[⟨fun a Z=>.val (a.get 22) Z,some 170,tT,some 0,false⟩,
 ⟨fun a Z=>.val (a.get 24) Z,some 171,tT,some 0,false⟩,
 ⟨fun a Z=>i_neq Tryz.prog 32 (.tmp 170) (.tmp 171) (a.get 170) (a.get 171) Z,some 172,tT,some 0,false⟩,
 ⟨fun a Z=>.val (a.get 172) Z,some 173,tT,some 0,false⟩,
 ⟨fun a Z=>aG (some 4) (a.get 21) Z,some 174,fun a=>gd (a.get 173) false,some 0,false⟩,
 ⟨fun a Z=>aG (some 4) (a.get 23) Z,some 175,fun a=>gd (a.get 173) false,some 0,false⟩,
 ⟨fun a Z=>.enter 18 [(a.get 174),(a.get 175)] Z,some 176,fun a=>gd (a.get 173) false,none,true⟩,
 ⟨fun a Z=>fun1 Tryz.prog (Op.unary .not) (a.get 176) Z,some 177,fun a=>gd (a.get 173) false,some 1,false⟩,
 ⟨fun a Z=>bG (a.get 173) (.bool true) (a.get 177) Z,some 178,tT,some 1,false⟩,
 ⟨fun a Z=>.val (a.get 178) Z,some 179,tT,some 1,false⟩,
 ⟨fun a Z=>.val (a.get 26) Z,some 180,fun a=>gd (a.get 179) false,some 1,false⟩,
 ⟨fun a Z=>.val (a.get 28) Z,some 181,fun a=>gd (a.get 179) false,some 1,false⟩,
 ⟨fun a Z=>i_neq Tryz.prog 32 (.tmp 180) (.tmp 181) (a.get 180) (a.get 181) Z,some 182,fun a=>gd (a.get 179) false,some 1,false⟩,
 ⟨fun a Z=>bG (a.get 179) (.bool true) (a.get 182) Z,some 183,tT,some 1,false⟩,
 ⟨fun a Z=>.val (a.get 183) Z,some 184,tT,some 1,false⟩,
 ⟨fun a Z=>aG (some 4) (a.get 25) Z,some 185,fun a=>gd (a.get 184) false,some 1,false⟩,
 ⟨fun a Z=>aG (some 4) (a.get 27) Z,some 186,fun a=>gd (a.get 184) false,some 1,false⟩,
 ⟨fun a Z=>.enter 18 [(a.get 185),(a.get 186)] Z,some 187,fun a=>gd (a.get 184) false,none,true⟩,
 ⟨fun a Z=>fun1 Tryz.prog (Op.unary .not) (a.get 187) Z,some 188,fun a=>gd (a.get 184) false,some 2,false⟩,
 ⟨fun a Z=>bG (a.get 184) (.bool true) (a.get 188) Z,some 189,tT,some 2,false⟩,
 ⟨fun a Z=>.val (a.get 189) Z,some 190,tT,some 2,false⟩,
 ⟨fun a Z=>.val (a.get 30) Z,some 191,fun a=>gd (a.get 190) false,some 2,false⟩,
 ⟨fun a Z=>.val (a.get 32) Z,some 192,fun a=>gd (a.get 190) false,some 2,false⟩,
 ⟨fun a Z=>i_neq Tryz.prog 32 (.tmp 191) (.tmp 192) (a.get 191) (a.get 192) Z,some 193,fun a=>gd (a.get 190) false,some 2,false⟩,
 ⟨fun a Z=>bG (a.get 190) (.bool true) (a.get 193) Z,some 194,tT,some 2,false⟩,
 ⟨fun a Z=>.val (a.get 194) Z,some 195,tT,some 2,false⟩,
 ⟨fun a Z=>.val (a.get 29) Z,some 196,fun a=>gd (a.get 195) false,some 2,false⟩,
 ⟨fun a Z=>.val (a.get 31) Z,some 197,fun a=>gd (a.get 195) false,some 2,false⟩,
 ⟨fun a Z=>.enter 40 [(a.get 196),(a.get 197)] Z,some 198,fun a=>gd (a.get 195) false,none,true⟩,
 ⟨fun a Z=>fun1 Tryz.prog (Op.unary .not) (a.get 198) Z,some 199,fun a=>gd (a.get 195) false,some 3,false⟩,
 ⟨fun a Z=>bG (a.get 195) (.bool true) (a.get 199) Z,some 200,tT,some 3,false⟩,
 ⟨fun a Z=>.val (a.get 200) Z,some 201,tT,some 3,false⟩,
 ⟨fun a Z=>aG (some 4) (a.get 19) Z,some 202,fun a=>gd (a.get 201) false,some 3,false⟩,
 ⟨fun a Z=>.val (a.get 15) Z,some 203,fun a=>gd (a.get 201) false,some 3,false⟩,
 ⟨fun a Z=>.val (a.get 18) Z,some 204,fun a=>gd (a.get 201) false,some 3,false⟩,
 ⟨fun a Z=>bB (none,4) (a.get 203) (a.get 204) Z,some 205,fun a=>gd (a.get 201) false,some 3,false⟩,
 ⟨fun a Z=>aG (some 4) (a.get 205) Z,some 206,fun a=>gd (a.get 201) false,some 3,false⟩,
 ⟨fun a Z=>.enter 18 [(a.get 202),(a.get 206)] Z,some 207,fun a=>gd (a.get 201) false,none,true⟩,
 ⟨fun a Z=>fun1 Tryz.prog (Op.unary .not) (a.get 207) Z,some 208,fun a=>gd (a.get 201) false,some 4,false⟩,
 ⟨fun a Z=>bG (a.get 201) (.bool true) (a.get 208) Z,some 209,tT,some 4,false⟩,
 ⟨fun a Z=>.val (a.get 209) Z,some 210,tT,some 4,false⟩,
 ⟨fun a Z=>.val (a.get 20) Z,some 211,fun a=>gd (a.get 210) false,some 4,false⟩,
 ⟨fun a Z=>.val (a.get 17) Z,some 212,fun a=>gd (a.get 210) false,some 4,false⟩,
 ⟨fun a Z=>.val (a.get 18) Z,some 213,fun a=>gd (a.get 210) false,some 4,false⟩,
 ⟨fun a Z=>bB (none,1) (a.get 212) (a.get 213) Z,some 214,fun a=>gd (a.get 210) false,some 4,false⟩,
 ⟨fun a Z=>aG none (a.get 214) Z,some 215,fun a=>gd (a.get 210) false,some 4,false⟩,
 ⟨fun a Z=>.enter 41 [(a.get 211),(a.get 215)] Z,some 216,fun a=>gd (a.get 210) false,none,true⟩,
 ⟨fun a Z=>fun1 Tryz.prog (Op.unary .not) (a.get 216) Z,some 217,fun a=>gd (a.get 210) false,some 5,false⟩,
 ⟨fun a Z=>bG (a.get 210) (.bool true) (a.get 217) Z,some 218,tT,some 5,false⟩]
def AxW:List DOp:=AwQ ()
def AwR(_:Unit):List COp:=[⟨fun a Z=>.val (.bool false) Z,some 8,tT⟩]
def AxX:List COp:=AwR ()
def AwI(_:Unit):List COp:=[⟨fun a Z=>.val (a.get 18) Z,some 93,tT⟩,
 ⟨fun a Z=>i_add Tryz.prog 3 (.tmp 93) (.const (.int .i64 1)) (a.get 93) (.int .i64 1) Z,some 94,tT⟩,
 ⟨fun a Z=>.val (a.get 94) Z,some 18,tT⟩]
def AxO:List COp:=AwI ()
def Ayg(E:Env)(ro:Option Nat)(fn:FuncId):aZ:=(aF (aF (aD E ro AxN) (aL (fun a=>(a.get 92)) aQ (exitR 0))) (aF (aR 1 (aF (drawR E ro AxP) (aF (aD E ro AxQ) (aF (drawR E ro AxR) (aF (drawR E ro AxS) (aF (drawR E ro AxT) (aF (drawR E ro AxU) (aF (drawR E ro AxV) (aF (drawR E ro AxW) (aL (fun a=>(a.get 218)) (aF (aD E ro AxX) bO) aQ)))))))))) (aD E ro AxO)))
def AwS(_:Unit):List COp:=[⟨fun a Z=>.enter 7 [] Z,some 219,tT⟩,
 ⟨fun a Z=>.val (a.get 219) Z,some 8,tT⟩]
def AxY:List COp:=AwS ()
end
section
open Go Go.Eng
attribute [local congr] Aa Af Ad Ab Ac
attribute [-go_sem] List.range_succ
end
section
open Go Go.Eng
def PathO(Z:aC)(v:Value)(path:List Nat):Prop:=
 ∃q c,v=.slice q path.length c/\(path=[]\/∃b off cs el ro fz ver,q=some ⟨b,off,none⟩/\Z.heap.get b=some ⟨.cells cs el,ro,fz,ver⟩/\(el=TI\/ro=true)/\(fz=none\/fz=some 1)/\path.length<=c/\∀(i j:Nat),path[i]? = some j->cs[off+i]? = some (.int .i64 (.ofNat j)))
theorem PathO.keep{Z V:aC}{v:Value}{path:List Nat}(h:PathO Z v path)(hw:Wf Z)(hk:∀b,b<Z.next->V.heap.get b=Z.heap.get b\/∃cs el fz ver,Z.heap.get b=some ⟨.cells cs el,false,fz,ver⟩/\el≠TI):PathO V v path:=by
 obtain⟨q,c,rfl,h|⟨b,off,cs,el,ro,fz,ver,rfl,hb,hr,hf,hl,hc⟩⟩:=h
 .exact⟨q,c,rfl,.inl h⟩
 .rcases hk b (hw _ _ hb).1 with h|⟨cs',el',fz',ver',h,hne⟩
  .exact⟨_,c,rfl,.inr ⟨b,off,cs,el,ro,fz,ver,rfl,h.trans hb,hr,hf,hl,hc⟩⟩
  .rw[hb] at h
   have h1:=congrArg (fun e:Option Ent=>match e with|some ⟨.cells _ el,ro,_,_⟩=>(el,ro)|_=>(0,true)) h
   simp only[Prod.mk.injEq] at h1
   rcases hr with hr|hr
   .exact absurd (h1.1.symm.trans hr) hne
   .rw[hr] at h1
    exact absurd h1.2 (by decide)
theorem PathO.ext{Z V:aC}{v:Value}{path:List Nat}(h:PathO Z v path)(hw:Wf Z)(hx:Ext Z V):PathO V v path:=h.keep hw fun b hb=>.inl (hx.get b hb)
theorem PathO.tail{Z:aC}{q:Option Addr}{c i:Nat}{path:List Nat}(h:PathO Z (.slice q (i::path).length c) (i::path)):∃b off cs el ro fz ver,q=some ⟨b,off,none⟩/\Z.heap.get b=some ⟨.cells cs el,ro,fz,ver⟩/\(fz=none\/fz=some 1)/\path.length+1<=c/\cs[off]? = some (.int .i64 (.ofNat i))/\PathO Z (.slice (some ⟨b,off+1*1,none⟩) path.length (c-1)) path:=by
 obtain⟨q',c',e,h|⟨b,off,cs,el,ro,fz,ver,rfl,hb,hr,hf,hl,hc⟩⟩:=h
 .cases h
 .cases e
  refine⟨b,off,cs,el,ro,fz,ver,rfl,hb,hf,by simpa using hl,by simpa using hc 0 i rfl,_,_,rfl,.inr ⟨b,off+1*1,cs,el,ro,fz,ver,rfl,hb,hr,hf,by simp at hl;omega,fun j k hj=>?_⟩⟩
  have:=hc (j+1) k (by simpa using hj)
  rw[show off+1*1+j=off+(j+1) by omega]
  exact this
def putP:List Nat->D->D->D
 | [],x,_=>x
 | i::p,x,.mk k z t ds=>match ds[i]? with
  | some d'=>.mk k z t (ds.set i (putP p x d'))
  | none=>.mk k z t ds
structure Okay (m:Nat) (d:D):Prop where
 good:AllGood m (d.pieces [])
 few:d.count<=2000
 small:Small (d.pieces [])
 deep:d.deep<=8
end
section
open Go Go.Eng
attribute [local congr] Aa Af Ad Ab Ac
attribute [-go_sem] List.range_succ
structure PlI (Rin:Nat->Prop) (base bd bx bo bv i:Nat) (k z:Int) (t:ByteArray) (p:Option Addr) (c:Nat) (ds:List D) (x y:D) (xv:List Value) (path:List Nat) (q:Nat) (f:Nat->Value) (Z:aC):Prop where
 f1:PathO Z (f 1) (i::path)
 f3:f 3=.pointer (some ⟨bd,0,none⟩)
 f5:f 5=.pointer (some ⟨bx,0,none⟩)
 f7:f 7=.pointer (some ⟨bo,0,none⟩)
 f8:f 8=.int .i64 (.ofNat q)
 cd:Z.cells bd=some [.int .i64 k,.int .i64 z,.string t,.slice p ds.length c]
 cx:Z.cells bx=some xv
 hE:bF Rin Z p 0 ds
 hx:aU Rin Z (.agg xv.toArray) x
 out:∃s ver,Z.heap.get bo=some ⟨.cells [.int .i64 k,.int .i64 0,.string ⟨#[]⟩,s] TD,false,none,ver⟩/\VecG (· = bv) (fun b=>(Rin b\/base<=b)/\b<Z.next/\b≠bo/\b≠bv) Z s ((ds.set i y).take q)
 lo:True/\True/\base<=bo/\bd≠bo/\bx≠bo/\(∀b,Rin b->b≠bv)/\bv≠bo/\bv≠bd/\bv≠bx
 bvT:∃cs fz ver,Z.heap.get bv=some ⟨.cells cs TD,false,fz,ver⟩
 wf:Wf Z
def BareD:D->Prop
 | .mk _ z t ds=>0<ds.length->z=0/\t=⟨#[]⟩
def PlR(Rin:Nat->Prop)(base:Nat)(y:D)(w:Value)(Z:aC):Prop:=∃ws:List Value,w=.agg ws.toArray/\ws.length=4/\ws.all oneCell=true/\aU (fun b=>Rin b\/base<=b) Z w y
end
section
open Go Go.Eng
def AllWhole(d:D):Prop:=∀p,∀y∈d.pieces p,y.2.parts.length<=3/\WholeD y.2
theorem AllWhole.head{k z:Int}{t:ByteArray}{ds:List D}(h:AllWhole (.mk k z t ds)):ds.length<=3/\Whole k z t ds.length:=by
 have h1:=h [] ([],.mk k z t ds) (by rw[D.pieces_eq];exact List.mem_cons_self)
 exact h1
theorem AllWhole.part{k z:Int}{t:ByteArray}{ds:List D}(h:AllWhole (.mk k z t ds)){i:Nat}{d:D}(hd:ds[i]? = some d):∀y∈d.pieces ([]++[0+i]),y.2.parts.length<=3/\WholeD y.2:=fun y hy=>
 h [] y (by rw[D.pieces_eq];exact List.mem_cons_of_mem _ (JC [] ds 0 i d hd y hy))
end
section
open Go Go.Eng
attribute [local congr] Aa Af Ad Ab Ac
attribute [-go_sem] List.range_succ
def CapV(v:Value):Prop:=∃a n c,v=.slice a n c/\n<=c
def FulB(Z:aC)(b:Nat):Prop:=∃vs fz ver,Z.heap.get b=some ⟨.cells vs TI,false,fz,ver⟩/\(fz=none\/fz=some 1)
theorem FulB.keep{Z V:aC}{b:Nat}(h:FulB Z b)(hb:V.heap.get b=Z.heap.get b):FulB V b:=by
 obtain⟨vs,fz,ver,h1,h2⟩:=h
 exact⟨vs,fz,ver,hb.trans h1,h2⟩
structure HeadPb (bd bo base:Nat) (R:Nat->Prop) (k z:Int) (t:ByteArray) (q:Option Addr) (c:Nat) (ds:List D) (at':List Nat) (atv:Value) (us:List Value) (ps:List (List Nat)) (bU:aC) (i:Nat) (f:Nat->Value) (Z:aC):Prop where
 f1:f 1=atv
 f2:f 2=.pointer (some ⟨bd,0,none⟩)
 f5:Ful TP Z bo (f 5) us
 f6:f 6=.int .i64 (.ofNat i)
 cd:Z.cells bd=some [.int .i64 k,.int .i64 z,.string t,.slice q ds.length c]
 lay:bF R Z q 0 ds
 low:∀b,R b->b<base
 atp:PathV (· < base) Z atv at'
 hbd:base<=bd/\bd≠bo
 hbo:base<=bo
 lst:PathsL (fun b=>base<=b/\b≠bo/\FulB Z b) Z us ps
 caps:∀u,u∈us->CapV u
 wf:Wf Z
 ext:Ext bU Z
 le:i<=ds.length
 few:ds.length<10000
def PathsBt(m:Nat)(d:D):Prop:=∀(at':List Nat) (v atv:Value) (R Q:Nat->Prop) (Z:aC),Wf Z->aU R Z v d->PathV Q Z atv at'->at'.length+d.deep<1000->(d.pieces at').length<10000->
 Gives ((env m).call 31 [v,atv] none Z) Z fun w V=>∃b us,Z.next<=b/\Ful TP V b w us/\PathsL (fun b=>Z.next<=b/\FulB V b) V us ((d.pieces at').map (·.1))/\∀u,u∈us->CapV u
end
section
open Go Go.Eng
end
section
open Go Go.Eng
attribute [local congr] Aa Af Ad Ab Ac
attribute [-go_sem] List.range_succ
structure HeadFp (b2 b3 ba:Nat) (d x:D) (us:List Value) (bU:aC) (i:Nat) (f:Nat->Value) (Z:aC):Prop where
 f2:f 2=.pointer (some ⟨b2,0,none⟩)
 f3:f 3=.pointer (some ⟨b3,0,none⟩)
 f6:f 6=.slice (some ⟨ba,0,none⟩) us.length us.length
 f7:f 7=.int .i64 (.ofNat i)
 vec:∃ws,Vecs TP (fun b=>bU.next<=b) Z (f 5) ws/\PathsL (fun b=>b<bU.next) Z ws (foundIn x ((d.pieces []).take i))
 ext:Ext bU Z
 wf:Wf Z
 le:i<=(d.pieces []).length
def intsZ(l:List Int):List Value:=l.map fun z=>.int .i64 z
theorem GQ(l:List Int):(intsZ l).length=l.length:=List.length_map ..
theorem OZ{l:List Int}{i:Nat}{z:Int}(h:l[i]? = some z):(intsZ l)[i]? = some (.int .i64 z):=by rw[intsZ,List.getElem?_map,h];rfl
def IntsO(Z:aC)(p:Option Addr)(c:Nat)(l:List Int):Prop:=
 (p=none/\l=[])\/∃b off cs el ro fz ver,p=some ⟨b,off,none⟩/\Z.heap.get b=some ⟨.cells cs el,ro,fz,ver⟩/\(el=TI\/ro=true)/\(fz=none\/fz=some 1)/\l.length<=c/\off+l.length<=cs.length/\∀(i:Nat) (z:Int),l[i]? = some z->cs[off+i]? = some (.int .i64 z)
theorem IntsO.ext{Z V:aC}{p:Option Addr}{c:Nat}{l:List Int}(h:IntsO Z p c l)(hw:Wf Z)(hX:Ext Z V):IntsO V p c l:=by
 rcases h with h|⟨b,off,cs,el,ro,fz,ver,rfl,hb,h1⟩
 .exact .inl h
 .exact .inr ⟨b,off,cs,el,ro,fz,ver,rfl,(hX.get b (hw _ _ hb).1).trans hb,h1⟩
theorem Agp{l:List Int}(h:∀z∈l,0<=z){i j:Nat}(hj:(l.map Int.toNat)[i]? = some j):l[i]? = some (.ofNat j):=by
 rw[List.getElem?_map] at hj
 cases hz:l[i]? with
 | none=>rw[hz] at hj;cases hj
 | some z=>
  rw[hz] at hj
  have h0:=h z (List.mem_of_getElem? hz)
  have:z.toNat=j:=Option.some.inj hj
  rw[<-this]
  congr 1
  simp only[Int.ofNat_eq_natCast]
  omega
theorem IntsO.path{Z:aC}{p:Option Addr}{c:Nat}{l:List Int}(h:IntsO Z p c l)(h0:∀z∈l,0<=z):PathO Z (.slice p l.length c) (l.map Int.toNat):=by
 refine⟨p,c,by rw[List.length_map],?_⟩
 rcases h with⟨_,rfl⟩|⟨b,off,cs,el,ro,fz,ver,rfl,hb,hr,hf,hl,_,hc⟩
 .exact .inl rfl
 .exact .inr ⟨b,off,cs,el,ro,fz,ver,rfl,hb,hr,hf,by rw[List.length_map];exact hl,fun i j hj=>hc i _ (Agp h0 hj)⟩
theorem IntsO.fnew{Z:aC}{p:Option Addr}{c:Nat}{l:List Int}(h:IntsO Z p c l):Eng.fnew 1 (.slice p l.length c) Z=some ((intsZ l).length,intsZ l):=by
 rcases h with⟨rfl,rfl⟩|⟨b,off,cs,el,ro,fz,ver,rfl,hb,hr,hf,hl,hle,hc⟩
 .rfl
 .have hcs:=AB hb
  have e:(cs.drop off).take l.length=intsZ l:=by
   apply List.ext_getElem?
   intro i
   by_cases hi:i<l.length
   .rw[List.getElem?_take_of_lt hi,List.getElem?_drop,hc i l[i] (List.getElem?_eq_getElem hi),OZ (List.getElem?_eq_getElem hi)]
   .rw[List.getElem?_eq_none (by rw[List.length_take];omega),List.getElem?_eq_none (by rw[GQ];omega)]
  unfold Eng.fnew
  simp only[En,hcs,Nat.mul_one]
  rw[if_pos (by omega),e,GQ]
abbrev FulZ(Z:aC)(b:Nat)(l:List Int):Prop:=Ful TI Z b (.slice (some ⟨b,0,none⟩) l.length l.length) (intsZ l)
theorem FulZ.o{Z:aC}{b:Nat}{l:List Int}(h:FulZ Z b l):IntsO Z (some ⟨b,0,none⟩) l.length l:=by
 obtain⟨fz,ver,_,hb,hf⟩:=h
 exact .inr ⟨b,0,_,TI,false,fz,ver,rfl,hb,.inl rfl,hf,Nat.le_refl _,by rw[GQ];omega,fun i z hz=>by rw[Nat.zero_add];exact OZ hz⟩
theorem FulZ.pathV{Z:aC}{b:Nat}{l:List Int}(h:FulZ Z b l)(h0:∀z∈l,0<=z)(Q:Nat->Prop)(hQ:Q b):PathV Q Z (.slice (some ⟨b,0,none⟩) l.length l.length) (l.map Int.toNat):=by
 refine .inr ⟨b,l.length,[],by rw[List.length_map],hQ,?_⟩
 rw[h.cells.2,List.append_nil,intsZ,intsOf,List.map_map]
 refine congrArg some (List.map_congr_left fun z hz=>?_)
 have:=h0 z hz
 simp only[Function.comp,Int.ofNat_eq_natCast]
 congr 1
 omega
end
section
open Go Go.Eng
inductive LaidI (Z:aC):Nat->Nat->Value->D->Prop
 | leaf (lo hi:Nat) (k n:Int) (t:ByteArray) (p:Option Addr) (c:Nat):LaidI Z lo hi (.agg #[.int .i64 k,.int .i64 n,.string t,.slice p 0 c]) (.mk k n t [])
 | node (lo hi:Nat) (k n:Int) (t:ByteArray) (b c:Nat) (cs:List Value) (ds:List D) (mid:Nat->Nat) (ver:Nat) (h1:lo<=b) (h2:b<mid 0) (h3:mid ds.length<=hi) (h4:∀i,i<ds.length->mid i<=mid (i+1)) (h5:Z.heap.get b=some ⟨.cells cs TD,false,none,ver⟩) (h6:cs.length=ds.length*4) (h7:∀i d,ds[i]? = some d->LaidI Z (mid i) (mid (i+1)) (.agg ((cs.drop (i*4)).take 4).toArray) d):LaidI Z lo hi (.agg #[.int .i64 k,.int .i64 n,.string t,.slice (some ⟨b,0,none⟩) ds.length c]) (.mk k n t ds)
theorem I0{mid:Nat->Nat}{n:Nat}(h4:∀i,i<n->mid i<=mid (i+1)):∀(j i:Nat),i+j<=n->mid i<=mid (i+j)
 | 0,i,_=>Nat.le_refl _
 | j+1,i,h=>Nat.le_trans (I0 h4 j i (by omega)) (h4 (i+j) (by omega))
theorem O0{R:Nat->Prop}{Z:aC}{b:Nat}{cs:List Value}(hb:Z.cells b=some cs)(hR:R b):∀(es:List D) (i:Nat),(i+es.length)*4<=cs.length->(∀j e,es[j]? = some e->aU R Z (.agg ((cs.drop ((i+j)*4)).take 4).toArray) e)->bF R Z (some ⟨b,0,none⟩) i es
 | [],_,_,_=>trivial
 | e::es,i,hl,h=>⟨⟨b,0,cs,rfl,hR,hb,by rw[List.length_cons] at hl;omega,by have:=h 0 e rfl;rwa [Nat.add_zero,<-Nat.zero_add (i*4)] at this⟩,O0 hb hR es (i+1) (by rw[List.length_cons] at hl;omega) fun j e' he=>by
  have:=h (j+1) e' (by simpa using he)
  rwa [show i+(j+1)=i+1+j by omega] at this⟩
theorem LaidI.laid{Z:aC}{lo hi:Nat}{v:Value}{d:D}(h:LaidI Z lo hi v d):aU (fun b=>lo<=b/\b<hi) Z v d:=by
 induction h with
 | leaf lo hi k n t p c=>exact⟨p,c,rfl,trivial⟩
 | node lo hi k n t b c cs ds mid ver h1 h2 h3 h4 h5 h6 h7 ih=>
  have m0:=I0 h4 ds.length 0 (by omega)
  rw[Nat.zero_add] at m0
  refine⟨_,c,rfl,O0 (AB h5) ⟨h1,by omega⟩ ds 0 (by omega) fun j e he=>?_⟩
  have hj:=(List.getElem?_eq_some_iff.1 he).1
  rw[Nat.zero_add]
  have a1:=I0 h4 j 0 (by omega)
  have a2:=I0 h4 (ds.length-(j+1)) (j+1) (by omega)
  rw[show j+1+(ds.length-(j+1))=ds.length by omega] at a2
  rw[Nat.zero_add] at a1
  exact(ih j e he).keep fun c cs hc hcs=>⟨hcs,by omega,by omega⟩
theorem LaidI.keep{Z V:aC}{lo hi:Nat}{v:Value}{d:D}(h:LaidI Z lo hi v d):(∀b e,lo<=b->b<hi->Z.heap.get b=some e->V.heap.get b=some e)->LaidI V lo hi v d:=by
 induction h with
 | leaf lo hi k n t p c=>exact fun _=>.leaf lo hi k n t p c
 | node lo hi k n t b c cs ds mid ver h1 h2 h3 h4 h5 h6 h7 ih=>
  intro hk
  have m0:=I0 h4 ds.length 0 (by omega)
  rw[Nat.zero_add] at m0
  refine .node lo hi k n t b c cs ds mid ver h1 h2 h3 h4 (hk b _ h1 (by omega) h5) h6 fun i d hd=>ih i d hd fun x xs hx hx' hc=>?_
  have hi':=(List.getElem?_eq_some_iff.1 hd).1
  have a1:=I0 h4 i 0 (by omega)
  have a2:=I0 h4 (ds.length-(i+1)) (i+1) (by omega)
  rw[show i+1+(ds.length-(i+1))=ds.length by omega] at a2
  rw[Nat.zero_add] at a1
  exact hk x xs (by omega) (by omega) hc
inductive SpotAt (Z:aC):List Nat->Nat->Nat->Nat->Nat->Prop
 | nil (b off:Nat):SpotAt Z [] b off b off
 | cons (i:Nat) (p:List Nat) (b off bb o l c b' off':Nat) (cs:List Value) (h1:Z.cells b=some cs) (h2:cs[off+3]? = some (.slice (some ⟨bb,o,none⟩) l c)) (h3:SpotAt Z p bb (o+i*4) b' off'):SpotAt Z (i::p) b off b' off'
end
section
open Go Go.Eng
attribute [local congr] Aa Af Ad Ab Ac
attribute [-go_sem] List.range_succ
def CopyI(m:Nat)(d:D):Prop:=∀(lv:List Value) (R:Nat->Prop) (Z:aC),Wf Z->aU R Z (.agg lv.toArray) d->Gives ((env m).call 88 [.agg lv.toArray] none Z) Z fun w V=>LaidI V Z.next V.next w d
structure HeadEi' (bo base:Nat) (R:Nat->Prop) (q:Option Addr) (c:Nat) (ds:List D) (bU:aC) (i:Nat) (f g:Nat->Value) (Z:aC):Prop where
 f0:f 0=.slice q ds.length c
 f1:f 1=.func (.func 88) #[] #[]
 f5:f 5=.slice (some ⟨bo,0,none⟩) ds.length ds.length
 g14:g 14=.int .i64 (.ofNat ds.length)
 g15:g 15=.int .i64 (.ofNat i)
 cs:∃(done rest:List Value) (ver:Nat) (mid:Nat->Nat),Z.heap.get bo=some ⟨.cells (done++rest) TD,false,none,ver⟩/\done.length=i*4/\rest.length=(ds.length-i)*4/\bo<mid 0/\mid i<=Z.next/\(∀j,j<i->mid j<=mid (j+1))/\∀j e,j<i->ds[j]? = some e->LaidI Z (mid j) (mid (j+1)) (.agg ((done.drop (j*4)).take 4).toArray) e
 hbo:base<=bo
 lay:bF R Z q 0 ds
 low:∀b,R b->b<base
 wf:Wf Z
 ext:Ext bU Z
 le:i<=ds.length
end
section
open Go Go.Eng
variable (E:Env) (ro:Option Nat) (last:List Nat->aZ) (cl:List Nat) (a:aV) (u:Option FrameMode) (Z:aC)
end
section
open Go Go.Eng
attribute [local congr] Aa Af Ad Ab Ac
attribute [-go_sem] List.range_succ
theorem SpotAt.keep{Z V:aC}{p:List Nat}{b off b' off':Nat}(h:SpotAt Z p b off b' off')(hk:∀b cs,Z.cells b=some cs->V.cells b=some cs):SpotAt V p b off b' off':=by
 induction h with
 | nil b off=>exact .nil b off
 | cons i p b off bb o l c b' off' cs h1 h2 h3 ih=>exact .cons i p b off bb o l c b' off' cs (hk _ _ h1) h2 ih
def putE(d x:D)(l:List Int):Nat:=if twoE d x=0 then (match atZ l d with|some _=>0|none=>9) else twoE d x
def putR(d x:D)(l:List Int):D:=if twoE d x=0 then (match atZ l d with|some _=>putP (l.map Int.toNat) x d|none=>zeroD) else zeroD
def PutOk(d x:D)(l:List Int)(S:Nat->Prop)(Z:aC)(w:Value):Prop:=∃u,w=.tuple #[u,.int .i64 (putE d x l:Nat)]/\aU S Z u (putR d x l)
section
variable (M m n:Nat) (hm:M=m+22) (hM:M=n+295) (d x:D) (hd:d.count<=150) (hx:x.count<=150) (lv xv:List Value) (h4:lv.length=4) (hx4:xv.length=4) (l:List Int) (hs:l.length<50000) (bv:Nat)
include hm hM hd hx h4 hx4 hs
end
end
section
open Go Go.Eng
variable (E:Env) (ro:Option Nat) (last:List Nat->aZ) (cl:List Nat) (a:aV) (u:Option FrameMode) (Z:aC)
def ZI(_:Unit):List COp:=[⟨fun a Z=>fbox 24 (a.get 0) Z,some 1,tT⟩,
 ⟨fun a Z=>.val (.slice none 0 0) Z,some 2,tT⟩]
def At5:List COp:=ZI ()
def ZJ(_:Unit):List COp:=[⟨fun a Z=>.val (.slice none 0 0) Z,some 3,tT⟩]
def At6:List COp:=ZJ ()
def S1(_:Unit):List COp:=[⟨fun a Z=>aH 0 (a.get 1) Z,some 5,tT⟩,
 ⟨fun a Z=>aG none (a.get 5) Z,some 6,tT⟩,
 ⟨fun a Z=>bJ Tryz.prog 3 (.tmp 6) (.const (.int .i64 3)) (a.get 6) (.int .i64 3) Z,some 7,tT⟩]
def At7:List COp:=S1 ()
def ZK(_:Unit):List COp:=[⟨fun a Z=>.val (a.get 3) Z,some 8,tT⟩,
 ⟨fun a Z=>aH 2 (a.get 1) Z,some 9,tT⟩,
 ⟨fun a Z=>aG none (a.get 9) Z,some 10,tT⟩,
 ⟨fun a Z=>aX 9 1 1 [(.string ⟨#[]⟩)] [(0,(a.get 10))] Z,some 11,tT⟩,
 ⟨fun a Z=>fappend 9 1 16 (a.get 8) (a.get 11) Z,some 12,tT⟩,
 ⟨fun a Z=>.val (a.get 12) Z,some 3,tT⟩]
def At8:List COp:=ZK ()
def S3(_:Unit):List COp:=[⟨fun a Z=>.val (.int .i64 0) Z,some 4,tT⟩]
def At9:List COp:=S3 ()
def S5(_:Unit):List COp:=[⟨fun a Z=>.val (a.get 4) Z,some 13,tT⟩,
 ⟨fun a Z=>aH 3 (a.get 1) Z,some 14,tT⟩,
 ⟨fun a Z=>aG none (a.get 14) Z,some 15,tT⟩,
 ⟨fun a Z=>flenL (a.get 15) Z,some 16,tT⟩,
 ⟨fun a Z=>i_lss Tryz.prog 3 (.tmp 13) (.tmp 16) (a.get 13) (a.get 16) Z,some 17,tT⟩]
def Aua:List COp:=S5 ()
def ZM(_:Unit):List COp:=[⟨fun a Z=>.val (a.get 3) Z,some 20,tT⟩,
 ⟨fun a Z=>aH 3 (a.get 1) Z,some 21,tT⟩,
 ⟨fun a Z=>aG none (a.get 21) Z,some 22,tT⟩,
 ⟨fun a Z=>.val (a.get 4) Z,some 23,tT⟩,
 ⟨fun a Z=>bB (none,4) (a.get 22) (a.get 23) Z,some 24,tT⟩,
 ⟨fun a Z=>aG (some 4) (a.get 24) Z,some 25,tT⟩,
 ⟨fun a Z=>.enter 71 [(a.get 25)] Z,some 26,tT⟩,
 ⟨fun a Z=>.enter 118 [(a.get 20),(a.get 26)] Z,some 27,tT⟩,
 ⟨fun a Z=>.val (a.get 27) Z,some 3,tT⟩]
def Auc:List COp:=ZM ()
def ZL(_:Unit):List COp:=[⟨fun a Z=>.val (a.get 4) Z,some 18,tT⟩,
 ⟨fun a Z=>i_add Tryz.prog 3 (.tmp 18) (.const (.int .i64 1)) (a.get 18) (.int .i64 1) Z,some 19,tT⟩,
 ⟨fun a Z=>.val (a.get 19) Z,some 4,tT⟩]
def Aub:List COp:=ZL ()
def Abn(E:Env)(ro:Option Nat)(fn:FuncId):aZ:=(aF (aF (aD E ro Aua) (aL (fun a=>(a.get 17)) aQ (exitR 0))) (aF (aR 1 (aD E ro Auc)) (aD E ro Aub)))
def S9(_:Unit):List COp:=[⟨fun a Z=>.val (a.get 3) Z,some 28,tT⟩,
 ⟨fun a Z=>.val (a.get 28) Z,some 2,tT⟩]
def Aud:List COp:=S9 ()
def AnC(E:Env)(ro:Option Nat)(fn:FuncId):aZ:=(aF (aD E ro At5) (aF (aD E ro At6) (aF (aF (aD E ro At7) (aL (fun a=>(a.get 7)) (aD E ro At8) aQ)) (aF (aF (aD E ro At9) (aR 0 (loopR (bH nls fn) (Abn E ro fn)))) (aF (aD E ro Aud) bO)))))
theorem Amd:aD E ro At5 a u Z=aD E ro (ZI ()) a u Z:=rfl
theorem Ame:aD E ro At6 a u Z=aD E ro (ZJ ()) a u Z:=rfl
theorem Wq:aD E ro At7 a u Z=aD E ro (S1 ()) a u Z:=rfl
theorem Amf:aD E ro At8 a u Z=aD E ro (ZK ()) a u Z:=rfl
theorem Ws:aD E ro At9 a u Z=aD E ro (S3 ()) a u Z:=rfl
theorem Wt:aD E ro Aua a u Z=aD E ro (S5 ()) a u Z:=rfl
theorem Amh:aD E ro Auc a u Z=aD E ro (ZM ()) a u Z:=rfl
theorem Amg:aD E ro Aub a u Z=aD E ro (ZL ()) a u Z:=rfl
theorem Wu:aD E ro Aud a u Z=aD E ro (S9 ()) a u Z:=rfl
theorem AvD(E:Env)(ro:Option Nat)(fn:FuncId):code Tryz.prog nls (Tryz.f71.body.getD .skip) E ro fn=AnC E ro fn:=by kernel_rfl
theorem Apr(E:Env)(args:List Value)(u:Option FrameMode)(Z:aC)(hn:args.length<=(5:Nat)):bA Tryz.prog nls E 71 args u Z=aN Tryz.prog E [.tmp 2] (AnC E none 71 ⟨aY undef 5 args,fun _=>undef,5,29,[]⟩ u Z):=by
 rw[Am (body:=Tryz.f71.body.getD .skip) Tryz.func71 rfl E args u Z 5 29 (by kernel_rfl) rfl ⟨hn,by decide⟩,AvD]
 rfl
def Yv(_:Unit):List COp:=[⟨fun a Z=>fbox 24 (a.get 0) Z,some 1,tT⟩,
 ⟨fun a Z=>.val (.slice none 0 0) Z,some 2,tT⟩,
 ⟨fun a Z=>.val (.int .i64 0) Z,some 3,tT⟩]
def Ar4:List COp:=Yv ()
def RQ(_:Unit):List COp:=[⟨fun a Z=>aG (some 4) (a.get 1) Z,some 5,tT⟩,
 ⟨fun a Z=>.enter 16 [(a.get 5)] Z,some 6,tT⟩,
 ⟨fun a Z=>.val (a.get 6) Z,some 4,tT⟩]
def Ar5:List COp:=RQ ()
def RR(_:Unit):List COp:=[⟨fun a Z=>.val (a.get 4) Z,some 7,tT⟩,
 ⟨fun a Z=>i_neq Tryz.prog 32 (.tmp 7) (.const (.int .i64 0)) (a.get 7) (.int .i64 0) Z,some 8,tT⟩]
def Ar6:List COp:=RR ()
def Yw(_:Unit):List COp:=[⟨fun a Z=>.val (a.get 4) Z,some 9,tT⟩,
 ⟨fun a Z=>.val (.slice none 0 0) Z,some 2,tT⟩,
 ⟨fun a Z=>.val (a.get 9) Z,some 3,tT⟩]
def Ar7:List COp:=Yw ()
def Yx(_:Unit):List COp:=[⟨fun a Z=>aG (some 4) (a.get 1) Z,some 10,tT⟩,
 ⟨fun a Z=>.enter 71 [(a.get 10)] Z,some 11,tT⟩,
 ⟨fun a Z=>.val (a.get 11) Z,some 2,tT⟩,
 ⟨fun a Z=>.val (.int .i64 0) Z,some 3,tT⟩]
def Ar8:List COp:=Yx ()
def Anf(E:Env)(ro:Option Nat)(fn:FuncId):aZ:=(aF (aD E ro Ar4) (aF (aF (aD E ro Ar5) (aF (aD E ro Ar6) (aL (fun a=>(a.get 8)) (aF (aD E ro Ar7) bO) aQ))) (aF (aD E ro Ar8) bO)))
theorem Ajy:aD E ro Ar4 a u Z=aD E ro (Yv ()) a u Z:=rfl
theorem VI:aD E ro Ar5 a u Z=aD E ro (RQ ()) a u Z:=rfl
theorem VJ:aD E ro Ar6 a u Z=aD E ro (RR ()) a u Z:=rfl
theorem Ajz:aD E ro Ar7 a u Z=aD E ro (Yw ()) a u Z:=rfl
theorem AjA:aD E ro Ar8 a u Z=aD E ro (Yx ()) a u Z:=rfl
theorem Avc(E:Env)(ro:Option Nat)(fn:FuncId):code Tryz.prog nls (Tryz.f14.body.getD .skip) E ro fn=Anf E ro fn:=by kernel_rfl
theorem Ao5(E:Env)(args:List Value)(u:Option FrameMode)(Z:aC)(hn:args.length<=(5:Nat)):bA Tryz.prog nls E 14 args u Z=aN Tryz.prog E [.tmp 2,.tmp 3] (Anf E none 14 ⟨aY undef 5 args,fun _=>undef,5,12,[]⟩ u Z):=by
 rw[Am (body:=Tryz.f14.body.getD .skip) Tryz.func14 rfl E args u Z 5 12 (by kernel_rfl) rfl ⟨hn,by decide⟩,Avc]
 rfl
def Yp(_:Unit):List COp:=[⟨fun a Z=>fbox 24 (a.get 0) Z,some 1,tT⟩,
 ⟨fun a Z=>.val (.int .i64 0) Z,some 2,tT⟩,
 ⟨fun a Z=>.val (.int .i64 0) Z,some 3,tT⟩,
 ⟨fun a Z=>.val (.int .i64 0) Z,some 4,tT⟩]
def ArW:List COp:=Yp ()
def Rc(_:Unit):List COp:=[⟨fun a Z=>aG (some 4) (a.get 1) Z,some 8,tT⟩,
 ⟨fun a Z=>.enter 16 [(a.get 8)] Z,some 9,tT⟩,
 ⟨fun a Z=>.val (a.get 9) Z,some 5,tT⟩]
def ArX:List COp:=Rc ()
def Rd(_:Unit):List COp:=[⟨fun a Z=>.val (a.get 5) Z,some 10,tT⟩,
 ⟨fun a Z=>i_neq Tryz.prog 32 (.tmp 10) (.const (.int .i64 0)) (a.get 10) (.int .i64 0) Z,some 11,tT⟩]
def ArY:List COp:=Rd ()
def Yq(_:Unit):List COp:=[⟨fun a Z=>.val (a.get 5) Z,some 12,tT⟩,
 ⟨fun a Z=>.val (.int .i64 0) Z,some 2,tT⟩,
 ⟨fun a Z=>.val (.int .i64 0) Z,some 3,tT⟩,
 ⟨fun a Z=>.val (a.get 12) Z,some 4,tT⟩]
def ArZ:List COp:=Yq ()
def Yr(_:Unit):List COp:=[⟨fun a Z=>aG (some 4) (a.get 1) Z,some 14,tT⟩,
 ⟨fun a Z=>.enter 66 [(a.get 14)] Z,some 15,tT⟩,
 ⟨fun a Z=>.val (a.get 15) Z,some 13,tT⟩,
 ⟨fun a Z=>aJ 0 (a.get 13) Z,some 16,tT⟩,
 ⟨fun a Z=>aJ 1 (a.get 13) Z,some 17,tT⟩,
 ⟨fun a Z=>.val (a.get 16) Z,some 6,tT⟩,
 ⟨fun a Z=>.val (a.get 17) Z,some 7,tT⟩]
def Ar0:List COp:=Yr ()
def Ys(_:Unit):List COp:=[⟨fun a Z=>.val (a.get 6) Z,some 18,tT⟩,
 ⟨fun a Z=>.val (a.get 7) Z,some 19,tT⟩,
 ⟨fun a Z=>.val (a.get 18) Z,some 2,tT⟩,
 ⟨fun a Z=>.val (a.get 19) Z,some 3,tT⟩,
 ⟨fun a Z=>.val (.int .i64 0) Z,some 4,tT⟩]
def Ar1:List COp:=Ys ()
def Anc(E:Env)(ro:Option Nat)(fn:FuncId):aZ:=(aF (aD E ro ArW) (aF (aF (aD E ro ArX) (aF (aD E ro ArY) (aL (fun a=>(a.get 11)) (aF (aD E ro ArZ) bO) aQ))) (aF (aD E ro Ar0) (aF (aD E ro Ar1) bO))))
theorem AhT:aD E ro ArW a u Z=aD E ro (Yp ()) a u Z:=rfl
theorem VE:aD E ro ArX a u Z=aD E ro (Rc ()) a u Z:=rfl
theorem VF:aD E ro ArY a u Z=aD E ro (Rd ()) a u Z:=rfl
theorem AhU:aD E ro ArZ a u Z=aD E ro (Yq ()) a u Z:=rfl
theorem AhV:aD E ro Ar0 a u Z=aD E ro (Yr ()) a u Z:=rfl
theorem AhW:aD E ro Ar1 a u Z=aD E ro (Ys ()) a u Z:=rfl
theorem Ava(E:Env)(ro:Option Nat)(fn:FuncId):code Tryz.prog nls (Tryz.f12.body.getD .skip) E ro fn=Anc E ro fn:=by kernel_rfl
theorem Ao3(E:Env)(args:List Value)(u:Option FrameMode)(Z:aC)(hn:args.length<=(8:Nat)):bA Tryz.prog nls E 12 args u Z=aN Tryz.prog E [.tmp 2,.tmp 3,.tmp 4] (Anc E none 12 ⟨aY undef 8 args,fun _=>undef,8,20,[]⟩ u Z):=by
 rw[Am (body:=Tryz.f12.body.getD .skip) Tryz.func12 rfl E args u Z 8 20 (by kernel_rfl) rfl ⟨hn,by decide⟩,Ava]
 rfl
def Ab5(_:Unit):List COp:=[⟨fun a Z=>fbox 24 (a.get 0) Z,some 2,tT⟩,
 ⟨fun a Z=>.val (.bool false) Z,some 4,tT⟩]
def AxC:List COp:=Ab5 ()
def Ab7(_:Unit):List COp:=[⟨fun a Z=>aG (some 4) (a.get 2) Z,some 18,tT⟩,
 ⟨fun a Z=>.enter 6 [(a.get 18)] Z,some 19,tT⟩]
def AxD:List COp:=Ab7 ()
def Alg(_:Unit):List COp:=[⟨fun a Z=>.enter 7 [] Z,some 20,tT⟩,
 ⟨fun a Z=>.val (a.get 20) Z,some 4,tT⟩]
def AxF:List COp:=Alg ()
def Alh(_:Unit):List DOp:=[⟨fun a Z=>.val (a.get 1) Z,some 22,tT,some 0,false⟩,
 ⟨fun a Z=>.enter 9 [(a.get 22)] Z,some 23,tT,none,false⟩,
 ⟨fun a Z=>.enter 8 [(a.get 23),(.int .i64 5)] Z,some 24,tT,none,false⟩,
 ⟨fun a Z=>aG (some 4) (a.get 2) Z,some 21,tT,some 0,false⟩,
 ⟨fun a Z=>aX 24 2 4 [(.int .i64 0),(.int .i64 0),(.string ⟨#[]⟩),(.slice none 0 0)] [(0,(a.get 21)),(1,(a.get 24))] Z,some 25,tT,some 2,false⟩,
 ⟨fun a Z=>.val (a.get 25) Z,some 5,tT,some 2,false⟩]
def AxG:List DOp:=Alh ()
def Ali(_:Unit):List COp:=[⟨fun a Z=>.val (.int .i64 0) Z,some 6,tT⟩]
def AxH:List COp:=Ali ()
def Ab9(_:Unit):List COp:=[⟨fun a Z=>.val (a.get 6) Z,some 26,tT⟩,
 ⟨fun a Z=>.val (a.get 5) Z,some 27,tT⟩,
 ⟨fun a Z=>flenL (a.get 27) Z,some 28,tT⟩,
 ⟨fun a Z=>i_lss Tryz.prog 3 (.tmp 26) (.tmp 28) (a.get 26) (a.get 28) Z,some 29,tT⟩]
def AxI:List COp:=Ab9 ()
def Alk(_:Unit):List COp:=[⟨fun a Z=>.val (a.get 5) Z,some 32,tT⟩,
 ⟨fun a Z=>.val (a.get 6) Z,some 33,tT⟩,
 ⟨fun a Z=>bB (none,4) (a.get 32) (a.get 33) Z,some 34,tT⟩,
 ⟨fun a Z=>aG (some 4) (a.get 34) Z,some 35,tT⟩,
 ⟨fun a Z=>.enter 10 [(a.get 35)] Z,some 36,tT⟩,
 ⟨fun a Z=>aP [(.int .i64 0),(.int .i64 0),(.string ⟨#[]⟩),(.slice none 0 0)] 24 none Z,some 7,tT⟩,
 ⟨fun a Z=>aK 4 (a.get 7) (a.get 36) Z,none,tT⟩]
def AxK:List COp:=Alk ()
def Alm(_:Unit):List COp:=[⟨fun a Z=>aG (some 4) (a.get 7) Z,some 38,tT⟩,
 ⟨fun a Z=>.enter 11 [(a.get 38)] Z,some 39,tT⟩,
 ⟨fun a Z=>.val (a.get 39) Z,some 37,tT⟩,
 ⟨fun a Z=>aJ 0 (a.get 37) Z,some 40,tT⟩,
 ⟨fun a Z=>aJ 1 (a.get 37) Z,some 41,tT⟩,
 ⟨fun a Z=>aJ 2 (a.get 37) Z,some 42,tT⟩,
 ⟨fun a Z=>.val (a.get 40) Z,some 8,tT⟩,
 ⟨fun a Z=>.val (a.get 41) Z,some 9,tT⟩,
 ⟨fun a Z=>.val (a.get 42) Z,some 10,tT⟩]
def AxL:List COp:=Alm ()
def Aln(_:Unit):List COp:=[⟨fun a Z=>.val (a.get 5) Z,some 44,tT⟩,
 ⟨fun a Z=>.val (a.get 6) Z,some 45,tT⟩,
 ⟨fun a Z=>bB (none,4) (a.get 44) (a.get 45) Z,some 46,tT⟩,
 ⟨fun a Z=>aG (some 4) (a.get 46) Z,some 47,tT⟩,
 ⟨fun a Z=>.enter 12 [(a.get 47)] Z,some 48,tT⟩,
 ⟨fun a Z=>.val (a.get 48) Z,some 43,tT⟩,
 ⟨fun a Z=>aJ 0 (a.get 43) Z,some 49,tT⟩,
 ⟨fun a Z=>aJ 1 (a.get 43) Z,some 50,tT⟩,
 ⟨fun a Z=>aJ 2 (a.get 43) Z,some 51,tT⟩,
 ⟨fun a Z=>.val (a.get 49) Z,some 11,tT⟩,
 ⟨fun a Z=>.val (a.get 50) Z,some 12,tT⟩,
 ⟨fun a Z=>.val (a.get 51) Z,some 13,tT⟩]
def AxM:List COp:=Aln ()
def YQ(_:Unit):List COp:=[⟨fun a Z=>aG (some 4) (a.get 7) Z,some 53,tT⟩,
 ⟨fun a Z=>.enter 13 [(a.get 53)] Z,some 54,tT⟩,
 ⟨fun a Z=>.val (a.get 54) Z,some 52,tT⟩,
 ⟨fun a Z=>aJ 0 (a.get 52) Z,some 55,tT⟩,
 ⟨fun a Z=>aJ 1 (a.get 52) Z,some 56,tT⟩,
 ⟨fun a Z=>.val (a.get 55) Z,some 14,tT⟩,
 ⟨fun a Z=>.val (a.get 56) Z,some 15,tT⟩]
def AsG:List COp:=YQ ()
def YR(_:Unit):List COp:=[⟨fun a Z=>.val (a.get 5) Z,some 58,tT⟩,
 ⟨fun a Z=>.val (a.get 6) Z,some 59,tT⟩,
 ⟨fun a Z=>bB (none,4) (a.get 58) (a.get 59) Z,some 60,tT⟩,
 ⟨fun a Z=>aG (some 4) (a.get 60) Z,some 61,tT⟩,
 ⟨fun a Z=>.enter 14 [(a.get 61)] Z,some 62,tT⟩,
 ⟨fun a Z=>.val (a.get 62) Z,some 57,tT⟩,
 ⟨fun a Z=>aJ 0 (a.get 57) Z,some 63,tT⟩,
 ⟨fun a Z=>aJ 1 (a.get 57) Z,some 64,tT⟩,
 ⟨fun a Z=>.val (a.get 63) Z,some 16,tT⟩,
 ⟨fun a Z=>.val (a.get 64) Z,some 17,tT⟩]
def AsH:List COp:=YR ()
def YS(_:Unit):List DOp:=[⟨fun a Z=>aG (some 4) (a.get 7) Z,some 65,tT,some 0,false⟩,
 ⟨fun a Z=>.enter 15 [(a.get 65)] Z,some 66,tT,none,false⟩,
 ⟨fun a Z=>.val (a.get 5) Z,some 67,tT,some 0,false⟩,
 ⟨fun a Z=>.val (a.get 6) Z,some 68,tT,some 0,false⟩,
 ⟨fun a Z=>bB (none,4) (a.get 67) (a.get 68) Z,some 69,tT,some 0,false⟩,
 ⟨fun a Z=>aG (some 4) (a.get 69) Z,some 70,tT,some 0,false⟩,
 ⟨fun a Z=>.enter 16 [(a.get 70)] Z,some 71,tT,none,true⟩,
 ⟨fun a Z=>i_neq Tryz.prog 32 (.tmp 66) (.tmp 71) (a.get 66) (a.get 71) Z,some 72,tT,some 2,false⟩,
 ⟨fun a Z=>.val (a.get 72) Z,some 73,tT,some 2,false⟩,
 ⟨fun a Z=>.val (a.get 8) Z,some 74,fun a=>gd (a.get 73) false,some 2,false⟩,
 ⟨fun a Z=>.val (a.get 11) Z,some 75,fun a=>gd (a.get 73) false,some 2,false⟩,
 ⟨fun a Z=>i_neq Tryz.prog 3 (.tmp 74) (.tmp 75) (a.get 74) (a.get 75) Z,some 76,fun a=>gd (a.get 73) false,some 2,false⟩,
 ⟨fun a Z=>bG (a.get 73) (.bool true) (a.get 76) Z,some 77,tT,some 2,false⟩,
 ⟨fun a Z=>.val (a.get 77) Z,some 78,tT,some 2,false⟩,
 ⟨fun a Z=>.val (a.get 9) Z,some 79,fun a=>gd (a.get 78) false,some 2,false⟩,
 ⟨fun a Z=>.val (a.get 12) Z,some 80,fun a=>gd (a.get 78) false,some 2,false⟩,
 ⟨fun a Z=>i_neq Tryz.prog 3 (.tmp 79) (.tmp 80) (a.get 79) (a.get 80) Z,some 81,fun a=>gd (a.get 78) false,some 2,false⟩,
 ⟨fun a Z=>bG (a.get 78) (.bool true) (a.get 81) Z,some 82,tT,some 2,false⟩,
 ⟨fun a Z=>.val (a.get 82) Z,some 83,tT,some 2,false⟩,
 ⟨fun a Z=>.val (a.get 10) Z,some 84,fun a=>gd (a.get 83) false,some 2,false⟩,
 ⟨fun a Z=>.val (a.get 13) Z,some 85,fun a=>gd (a.get 83) false,some 2,false⟩,
 ⟨fun a Z=>i_neq Tryz.prog 32 (.tmp 84) (.tmp 85) (a.get 84) (a.get 85) Z,some 86,fun a=>gd (a.get 83) false,some 2,false⟩,
 ⟨fun a Z=>bG (a.get 83) (.bool true) (a.get 86) Z,some 87,tT,some 2,false⟩,
 ⟨fun a Z=>.val (a.get 87) Z,some 88,tT,some 2,false⟩,
 ⟨fun a Z=>.val (a.get 14) Z,some 89,fun a=>gd (a.get 88) false,some 2,false⟩,
 ⟨fun a Z=>.val (a.get 16) Z,some 90,fun a=>gd (a.get 88) false,some 2,false⟩,
 ⟨fun a Z=>.enter 17 [(a.get 89),(a.get 90)] Z,some 91,fun a=>gd (a.get 88) false,none,true⟩,
 ⟨fun a Z=>fun1 Tryz.prog (Op.unary .not) (a.get 91) Z,some 92,fun a=>gd (a.get 88) false,some 3,false⟩,
 ⟨fun a Z=>bG (a.get 88) (.bool true) (a.get 92) Z,some 93,tT,some 3,false⟩,
 ⟨fun a Z=>.val (a.get 93) Z,some 94,tT,some 3,false⟩,
 ⟨fun a Z=>.val (a.get 15) Z,some 95,fun a=>gd (a.get 94) false,some 3,false⟩,
 ⟨fun a Z=>.val (a.get 17) Z,some 96,fun a=>gd (a.get 94) false,some 3,false⟩,
 ⟨fun a Z=>i_neq Tryz.prog 32 (.tmp 95) (.tmp 96) (a.get 95) (a.get 96) Z,some 97,fun a=>gd (a.get 94) false,some 3,false⟩,
 ⟨fun a Z=>bG (a.get 94) (.bool true) (a.get 97) Z,some 98,tT,some 3,false⟩,
 ⟨fun a Z=>.val (a.get 98) Z,some 99,tT,some 3,false⟩,
 ⟨fun a Z=>aG (some 4) (a.get 7) Z,some 100,fun a=>gd (a.get 99) false,some 3,false⟩,
 ⟨fun a Z=>.val (a.get 5) Z,some 101,fun a=>gd (a.get 99) false,some 3,false⟩,
 ⟨fun a Z=>.val (a.get 6) Z,some 102,fun a=>gd (a.get 99) false,some 3,false⟩,
 ⟨fun a Z=>bB (none,4) (a.get 101) (a.get 102) Z,some 103,fun a=>gd (a.get 99) false,some 3,false⟩,
 ⟨fun a Z=>aG (some 4) (a.get 103) Z,some 104,fun a=>gd (a.get 99) false,some 3,false⟩,
 ⟨fun a Z=>.enter 18 [(a.get 100),(a.get 104)] Z,some 105,fun a=>gd (a.get 99) false,none,true⟩,
 ⟨fun a Z=>fun1 Tryz.prog (Op.unary .not) (a.get 105) Z,some 106,fun a=>gd (a.get 99) false,some 4,false⟩,
 ⟨fun a Z=>bG (a.get 99) (.bool true) (a.get 106) Z,some 107,tT,some 4,false⟩]
def AsI:List DOp:=YS ()
def AwG(_:Unit):List COp:=[⟨fun a Z=>.val (.bool false) Z,some 4,tT⟩]
def AxE:List COp:=AwG ()
def Alj(_:Unit):List COp:=[⟨fun a Z=>.val (a.get 6) Z,some 30,tT⟩,
 ⟨fun a Z=>i_add Tryz.prog 3 (.tmp 30) (.const (.int .i64 1)) (a.get 30) (.int .i64 1) Z,some 31,tT⟩,
 ⟨fun a Z=>.val (a.get 31) Z,some 6,tT⟩]
def AxJ:List COp:=Alj ()
def Agd(E:Env)(ro:Option Nat)(fn:FuncId):aZ:=(aF (aF (aD E ro AxI) (aL (fun a=>(a.get 29)) aQ (exitR 0))) (aF (aR 1 (aF (aD E ro AxK) (aF (aD E ro AxL) (aF (aD E ro AxM) (aF (aD E ro AsG) (aF (aD E ro AsH) (aF (drawR E ro AsI) (aL (fun a=>(a.get 107)) (aF (aD E ro AxE) bO) aQ)))))))) (aD E ro AxJ)))
def YT(_:Unit):List COp:=[⟨fun a Z=>.enter 7 [] Z,some 108,tT⟩,
 ⟨fun a Z=>.val (a.get 108) Z,some 4,tT⟩]
def AsJ:List COp:=YT ()
def Aw7(E:Env)(ro:Option Nat)(fn:FuncId):aZ:=(aF (aD E ro AxC) (aF (aF (aD E ro AxD) (aL (fun a=>(a.get 19)) (aF (aD E ro AxF) bO) aQ)) (aF (drawR E ro AxG) (aF (aF (aD E ro AxH) (aR 0 (loopR (bH nls fn) (Agd E ro fn)))) (aF (aD E ro AsJ) bO)))))
theorem Ab6:aD E ro AxC a u Z=aD E ro (Ab5 ()) a u Z:=rfl
theorem Ab8:aD E ro AxD a u Z=aD E ro (Ab7 ()) a u Z:=rfl
theorem Arf:aD E ro AxF a u Z=aD E ro (Alg ()) a u Z:=rfl
theorem Arh:bM E ro last AxG cl a u Z=bM E ro last (Alh ()) cl a u Z:=rfl
theorem Ari:aD E ro AxH a u Z=aD E ro (Ali ()) a u Z:=rfl
theorem Aca:aD E ro AxI a u Z=aD E ro (Ab9 ()) a u Z:=rfl
theorem Ark:aD E ro AxK a u Z=aD E ro (Alk ()) a u Z:=rfl
theorem Arl:aD E ro AxL a u Z=aD E ro (Alm ()) a u Z:=rfl
theorem Arm:aD E ro AxM a u Z=aD E ro (Aln ()) a u Z:=rfl
theorem Alc:aD E ro AsG a u Z=aD E ro (YQ ()) a u Z:=rfl
theorem Ald:aD E ro AsH a u Z=aD E ro (YR ()) a u Z:=rfl
theorem Ale:bM E ro last AsI cl a u Z=bM E ro last (YS ()) cl a u Z:=rfl
theorem Arj:aD E ro AxJ a u Z=aD E ro (Alj ()) a u Z:=rfl
theorem Alf:aD E ro AsJ a u Z=aD E ro (YT ()) a u Z:=rfl
theorem Axq(E:Env)(ro:Option Nat)(fn:FuncId):code Tryz.prog nls (Tryz.f3.body.getD .skip) E ro fn=Aw7 E ro fn:=by kernel_rfl
theorem AvO(E:Env)(args:List Value)(u:Option FrameMode)(Z:aC)(hn:args.length<=(18:Nat)):bA Tryz.prog nls E 3 args u Z=aN Tryz.prog E [.tmp 4] (Aw7 E none 3 ⟨aY undef 18 args,fun _=>undef,18,109,[]⟩ u Z):=by
 rw[Am (body:=Tryz.f3.body.getD .skip) Tryz.func3 rfl E args u Z 18 109 (by kernel_rfl) rfl ⟨hn,by decide⟩,Axq]
 rfl
def RT(_:Unit):List COp:=[⟨fun a Z=>fbox 24 (a.get 0) Z,some 1,tT⟩,
 ⟨fun a Z=>.val (.int .i64 0) Z,some 2,tT⟩]
def Ar9:List COp:=RT ()
def RU(_:Unit):List COp:=[⟨fun a Z=>.val (.func (.func 73) #[] #[(a.get 1)]) Z,some 6,tT⟩,
 ⟨fun a Z=>.enter 72 [(a.get 6)] Z,some 7,tT⟩,
 ⟨fun a Z=>.val (a.get 7) Z,some 5,tT⟩,
 ⟨fun a Z=>aJ 0 (a.get 5) Z,some 8,tT⟩,
 ⟨fun a Z=>aJ 1 (a.get 5) Z,some 9,tT⟩,
 ⟨fun a Z=>.val (a.get 8) Z,some 3,tT⟩,
 ⟨fun a Z=>.val (a.get 9) Z,some 4,tT⟩]
def Asa:List COp:=RU ()
def RV(_:Unit):List COp:=[⟨fun a Z=>.val (a.get 4) Z,some 10,tT⟩,
 ⟨fun a Z=>.val (a.get 10) Z,some 2,tT⟩]
def Asb:List COp:=RV ()
def Ang(E:Env)(ro:Option Nat)(fn:FuncId):aZ:=(aF (aD E ro Ar9) (aF (aD E ro Asa) (aF (aD E ro Asb) bO)))
theorem VK:aD E ro Ar9 a u Z=aD E ro (RT ()) a u Z:=rfl
theorem VL:aD E ro Asa a u Z=aD E ro (RU ()) a u Z:=rfl
theorem VM:aD E ro Asb a u Z=aD E ro (RV ()) a u Z:=rfl
theorem Avd(E:Env)(ro:Option Nat)(fn:FuncId):code Tryz.prog nls (Tryz.f15.body.getD .skip) E ro fn=Ang E ro fn:=by kernel_rfl
theorem Ao6(E:Env)(args:List Value)(u:Option FrameMode)(Z:aC)(hn:args.length<=(5:Nat)):bA Tryz.prog nls E 15 args u Z=aN Tryz.prog E [.tmp 2] (Ang E none 15 ⟨aY undef 5 args,fun _=>undef,5,11,[]⟩ u Z):=by
 rw[Am (body:=Tryz.f15.body.getD .skip) Tryz.func15 rfl E args u Z 5 11 (by kernel_rfl) rfl ⟨hn,by decide⟩,Avd]
 rfl
def Td(_:Unit):List COp:=[⟨fun a Z=>.val (.int .i64 0) Z,some 1,tT⟩]
def Auh:List COp:=Td ()
def Te(_:Unit):List COp:=[⟨fun a Z=>aG (some 4) (a.get 0) Z,some 2,tT⟩,
 ⟨fun a Z=>.enter 64 [(a.get 2)] Z,some 3,tT⟩,
 ⟨fun a Z=>.val (a.get 3) Z,some 1,tT⟩]
def Aui:List COp:=Te ()
def AnD(E:Env)(ro:Option Nat)(fn:FuncId):aZ:=(aF (aD E ro Auh) (aF (aD E ro Aui) bO))
theorem Wy:aD E ro Auh a u Z=aD E ro (Td ()) a u Z:=rfl
theorem Wz:aD E ro Aui a u Z=aD E ro (Te ()) a u Z:=rfl
theorem AvF(E:Env)(ro:Option Nat)(fn:FuncId):code Tryz.prog nls (Tryz.f73.body.getD .skip) E ro fn=AnD E ro fn:=by kernel_rfl
theorem Aps(E:Env)(args:List Value)(u:Option FrameMode)(Z:aC)(hn:args.length<=(1:Nat)):bA Tryz.prog nls E 73 args u Z=aN Tryz.prog E [.tmp 1] (AnD E none 73 ⟨aY undef 1 args,fun _=>undef,1,4,[]⟩ u Z):=by
 rw[Am (body:=Tryz.f73.body.getD .skip) Tryz.func73 rfl E args u Z 1 4 (by kernel_rfl) rfl ⟨hn,by decide⟩,AvF]
 rfl
end
section
open Go Go.Eng
attribute [local congr] Aa Af Ad Ab Ac
attribute [-go_sem] List.range_succ
theorem My(n b1 b2:Nat)(c z x1 x2:Int)(v1 v2:Nat)(Z:aC)(hw:Wf Z)(hne:b1≠b2)(g1:Z.heap.get b1=some ⟨.cells [.int .i64 x1] 3,false,none,v1⟩)(g2:Z.heap.get b2=some ⟨.cells [.int .i64 x2] 32,false,none,v2⟩):
  ∃bS,Ext Z bS/\Wf bS/\(env (n+3)).call 135 [.pointer (some ⟨b1,0,none⟩),.pointer (some ⟨b2,0,none⟩)] (some (.panicking [failing c z])) Z=
   .ret (.tuple #[]) (some (.panicking [failed c z])) ((bS.put b1 (.cells [.int .i64 z] 3) none).put b2 (.cells [.int .i64 c] 32) none):=by
 rw[Fz,UF _ _ _ _ (by simp),Ah]
 unfold TC
 obtain⟨_,a_,e2,hX2,hw2,rfl⟩:=EU n c z Z hw
 have m1:=(hw _ _ g1).1
 have m2:=(hw _ _ g2).1
 have k1:a_.heap.get b1=_:=(hX2.get b1 m1).trans g1
 have k2:a_.heap.get b2=_:=(hX2.get b2 m2).trans g2
 have l1:a_.next≠b1:=by have:=hX2.next;omega
 have l2:a_.next≠b2:=by have:=hX2.next;omega
 have w4:Wf ((a_.push (.cells [.int .i64 0,.int .i64 0] 171) none).put a_.next (.cells [.int .i64 c,.int .i64 z] 171) none):=(hw2.push (.cells [.int .i64 0,.int .i64 0] 171) none).put _ _ _ (by simp only[Ae];omega)
 have hv4:=D1 (lam:=a_.clock+2) w4 (Nat.le_refl _)
 simp -implicitDefEqProofs only[go_sem,N8,hv4,AP,Pp,LW,Pq,LX,AdT,Rf,AdU,Rg,AdV,Rh,AdW,Ri,FM,Xz,Ku,e2,k1,k2,l1,l2,l1.symm,l2.symm,hne,hne.symm,Bb,AH]
 refine⟨_,(hX2.push _ _).put _ _ _ hX2.next,w4,rfl⟩
theorem P_(n w:Nat)(cap:Array Value)(c z:Int)(Z:aC)(hw:Wf Z)(h:∀V,Ext Z V->Wf V->Fails ((env (n+3)).call w cap.toList none V) V c z):
  Gives ((env (n+4)).call 109 [.func (.func w) #[] cap] none Z) Z fun v _=>v=.tuple #[.agg #[.int .i64 0,.int .i64 0],.int .i64 z,.int .i64 c]:=by
 rw[Ai _ 109 _ _ rfl,UA _ _ _ _ (by simp),Ah]
 unfold Tx
 have hX1:Ext Z (((Z.push (.cells [.int .i64 0,.int .i64 0] 86) none).push (.cells [.int .i64 0] 3) none).push (.cells [.int .i64 0] 32) none):=(((Ext.refl _).push _ _).push _ _).push _ _
 have hw1:=((hw.push (.cells [.int .i64 0,.int .i64 0] 86) none).push (.cells [.int .i64 0] 3) none).push (.cells [.int .i64 0] 32) none
 obtain⟨a_,e2,hX2,hw2⟩:=h _ hX1 hw1
 have g0:a_.heap.get Z.next=_:=(hX2.get Z.next (by simp only[Ae];omega)).trans (by simp -implicitDefEqProofs only[Aj,Ae,Nat.add_assoc,Nat.reduceAdd,Nat.left_eq_add,reduceCtorEq,↓reduceIte,Nat.reduceEqDiff]<;>rfl)
 have g1:a_.heap.get (Z.next+1)=_:=(hX2.get (Z.next+1) (by simp only[Ae];omega)).trans (by simp -implicitDefEqProofs only[Aj,Ae,Nat.add_assoc,Nat.reduceAdd,Nat.add_left_cancel_iff,reduceCtorEq,↓reduceIte,Nat.reduceEqDiff]<;>rfl)
 have g2:a_.heap.get (Z.next+2)=_:=(hX2.get (Z.next+2) (by simp only[Ae];omega)).trans (by simp -implicitDefEqProofs only[Aj,Ae,Nat.add_assoc,Nat.reduceAdd,Nat.add_left_cancel_iff,reduceCtorEq,↓reduceIte,Nat.reduceEqDiff]<;>rfl)
 obtain⟨bT,hX3,hw3,e3⟩:=My n (Z.next+1) (Z.next+2) c z 0 0 _ _ a_ hw2 (by omega) g1 g2
 have m0:=(hw2 _ _ g0).1
 have m1:=(hw2 _ _ g1).1
 have m2:=(hw2 _ _ g2).1
 have hn3:=hX3.next
 have h0:bT.cells Z.next=some [.int .i64 0,.int .i64 0]:=AB ((hX3.get _ m0).trans g0)
 simp -implicitDefEqProofs only[go_sem,AP,O8,LD,O9,LF,O_,LG,e2,Bi,Aw,AG,IY,e3,h0,Nat.le_refl,E9,Gh,Kg,Gg,Bb,AH,AL,Dl,BD]
 refine⟨_,_,rfl,?_,?_,rfl⟩
 .exact(((hX1.trans hX2).trans hX3).put (Z.next+1) _ _ (Nat.le_add_right _ _)).put (Z.next+2) _ _ (Nat.le_add_right _ _)
 .exact(hw3.put (Z.next+1) _ _ (by omega)).put (Z.next+2) _ _ (by simp only[Ao];omega)
theorem Xm(n w:Nat)(cap:Array Value)(c z:Int)(Z:aC)(hw:Wf Z)(h:∀V,Ext Z V->Wf V->Fails ((env (n+3)).call w cap.toList none V) V c z):
  Gives ((env (n+5)).call 62 [.func (.func w) #[] cap] none Z) Z fun v _=>v=.tuple #[.agg #[.int .i64 0,.int .i64 0],.int .i64 c]:=by
 rw[Ai _ 62 _ _ rfl,Aa9 _ _ _ _ (by simp),Ah]
 unfold Acj
 have hX1:Ext Z (Z.push (.cells [.int .i64 0,.int .i64 0] 86) none):=(Ext.refl _).push _ _
 obtain⟨_,a_,e2,hX2,hw2,rfl⟩:=P_ n w cap c z _ (hw.push (.cells [.int .i64 0,.int .i64 0] 86) none) fun V hx hw'=>h V (hX1.trans hx) hw'
 have g0:a_.heap.get Z.next=_:=(hX2.get Z.next (Nat.lt_succ_self _)).trans (by rw[Aj,if_pos rfl])
 have m0:=(hw2 _ _ g0).1
 have hne:(Z.next=a_.next)=False:=by simp;omega
 have hne':(a_.next=Z.next)=False:=by simp;omega
 simp -implicitDefEqProofs only[go_sem,AP,V7,SI,V8,SJ,V9,SK,e2,g0,Gh,Bb,AH,AL,Dl,BD,hne,hne']
 exact⟨_,_,rfl,(((hX1.trans hX2).push _ _).put _ _ _ (by have:=(hX1.trans hX2).next;omega)).put _ _ _ (Nat.le_refl _),((hw2.push _ _).put _ _ _ (Nat.lt_succ_self _)).put _ _ _ (by rw[Ao,Ae];omega),rfl⟩
def sizeV(d:D):Value:=if bC d=0 then .tuple #[.int .i64 (.ofNat d.count),.int .i64 (.ofNat d.deep),.int .i64 0] else .tuple #[.int .i64 0,.int .i64 0,.int .i64 (bC d:Nat)]
section
variable (M m:Nat) (hm:M=m+22) (d:D) (hc:d.count<=400) (lv:List Value) (h4:lv.length=4)
include hm hc h4
theorem Ae6(he:bC d≠0)(b:Nat)(Z:aC)(hw:Wf Z)(hb:Z.cells b=some lv)(hL:aU (fun b=>b<Z.next) Z (.agg lv.toArray) d):
  Fails ((env (M+6)).call 63 [.pointer (some ⟨b,0,none⟩)] none Z) Z (bC d:Nat) 0:=by
 have ht:lv.take 4=lv:=List.take_of_length_le (by omega)
 rw[Ai _ 63 _ _ rfl,Aba _ _ _ _ (by simp),Ah]
 unfold Ack
 have hX1:Ext Z (Z.push (.cells [.int .i64 0,.int .i64 0] 86) none):=(Ext.refl _).push _ _
 have hw1:=hw.push (.cells [.int .i64 0,.int .i64 0] 86) none
 have c1:=(hX1.cells (hw.cells hb)).trans hb
 have hbn:=hw.cells hb
 have ne1:(b=Z.next)=False:=by simp;omega
 obtain⟨a_,e2,x2,hw2⟩:=K2 m d he (by omega) lv h4 _ _ hw1 (hL.keep (R':=fun b=>b<Z.next) fun b cs hb hc=>⟨(hX1.cells hb).trans hc,hb⟩) (fun b hb=>Nat.lt_succ_of_lt hb)
 rw[show m+27=M+5 by omega] at e2
 simp -implicitDefEqProofs only[go_sem,V_,SL,Wc,SM,hb,ne1,h4,ht,e2,Nat.le_refl,Bi,Aw,AG,Bd]
 exact⟨_,rfl,hX1.trans x2,hw2⟩
theorem AnR(Z:aC)(hw:Wf Z)(hL:aU (fun b=>b<Z.next) Z (.agg lv.toArray) d):
  Gives ((env (M+9)).call 11 [.agg lv.toArray] none Z) Z fun w _=>w=sizeV d:=by
 have dd:=D_ d
 unfold sizeV
 by_cases e0:bC d=0
 .rw[if_pos e0]
  refine Ayf (M+5) lv _ _ Z hw h4 (fun V hx hw'=>?_) (fun V hx hw'=>?_)
  .have h:=K1 m d e0 (by omega) lv h4 _ V hw' (hL.keep (R':=fun b=>b<Z.next) fun b cs hb hc=>⟨(hx.cells hb).trans hc,hb⟩) (fun b hb=>Nat.lt_of_lt_of_le hb hx.next)
   rwa [show m+27=M+5 by omega] at h
  .have h:=Xx (M+1) d lv h4 (fun b=>b<Z.next) V hw' (hL.keep fun b cs hb hc=>⟨(hx.cells hb).trans hc,hb⟩) (fun b hb=>Nat.lt_of_lt_of_le hb hx.next) (KZ (by omega)) (by rw[DY];omega)
   rw[FQ,List.length_nil,Nat.zero_add] at h
   exact h
 .rw[if_neg e0]
  rw[Ai _ 11 _ _ rfl,Aa8 _ _ _ _ (by simp),Ah]
  unfold Aci
  have hX1:Ext Z (Z.push (.cells lv TD) none):=(Ext.refl _).push _ _
  have hw1:=hw.push (.cells lv TD) none
  have c1:(Z.push (.cells lv TD) none).cells Z.next=some lv:=by rw[Al,if_pos rfl];rfl
  obtain⟨_,a_,e2,hX2,hw2,rfl⟩:=Xm (M+3) 63 #[.pointer (some ⟨Z.next,0,none⟩)] (bC d:Nat) 0 _ hw1 fun V hx' hw'=>
   Ae6 M m hm d hc lv h4 e0 Z.next V hw' ((hx'.cells (hw1.cells c1)).trans c1) (hL.keep fun b cs hb hc=>⟨((hX1.trans hx').cells hb).trans hc,by have:=(hX1.trans hx').next;omega⟩)
  have hX:=hX1.trans hX2
  have w3:=(hw2.push (.cells [.int .i64 0,.int .i64 0] 86) none).put a_.next (.cells [.int .i64 0,.int .i64 0] 86) none (Nat.lt_succ_self _)
  have hv3:=D1 (lam:=a_.clock+2) w3 (Nat.le_refl _)
  have x3:Ext Z ((a_.push (.cells [.int .i64 0,.int .i64 0] 86) none).put a_.next (.cells [.int .i64 0,.int .i64 0] 86) none):=(hX.push _ _).put _ _ _ hX.next
  have hc3:((a_.push (.cells [.int .i64 0,.int .i64 0] 86) none).put a_.next (.cells [.int .i64 0,.int .i64 0] 86) none).cells a_.next=some [.int .i64 0,.int .i64 0]:=by
   rw[Aq,if_pos rfl];rfl
  simp -implicitDefEqProofs only[go_sem,AP,VB,Q2,VC,Q3,h4,e2]
  generalize aC.put (aC.push a_ _ _) _ _ _=bT at w3 hv3 hc3 x3 ⊢
  simp -implicitDefEqProofs only[go_sem,VD,Q4,hv3,hc3]
  exact⟨_,_,rfl,x3,w3,rfl⟩
theorem Mt(b:Nat)(Z:aC)(hw:Wf Z)(hb:Z.cells b=some lv)(hL:aU (fun b=>b<Z.next) Z (.agg lv.toArray) d):
  (bC d=0->Gives ((env (M+6)).call 73 [.pointer (some ⟨b,0,none⟩)] none Z) Z fun w _=>w=.int .i64 (.ofNat d.count))/\
  (bC d≠0->Fails ((env (M+6)).call 73 [.pointer (some ⟨b,0,none⟩)] none Z) Z (bC d:Nat) 0):=by
 have ht:lv.take 4=lv:=List.take_of_length_le (by omega)
 rw[Ai _ 73 _ _ rfl,Aps _ _ _ _ (by simp),Ah]
 unfold AnD
 refine⟨fun e0=>?_,fun e0=>?_⟩
 .obtain⟨_,a_,e2,x2,hw2,rfl⟩:=K1 m d e0 (by omega) lv h4 _ Z hw hL (fun b hb=>hb)
  rw[show m+27=M+5 by omega] at e2
  simp -implicitDefEqProofs only[go_sem,Wy,Td,Wz,Te,hb,h4,ht,e2,Nat.le_refl]
  exact⟨_,_,rfl,x2,hw2,rfl⟩
 .obtain⟨a_,e2,x2,hw2⟩:=K2 m d e0 (by omega) lv h4 _ Z hw hL (fun b hb=>hb)
  rw[show m+27=M+5 by omega] at e2
  simp -implicitDefEqProofs only[go_sem,Wy,Td,Wz,Te,hb,h4,ht,e2,Nat.le_refl,Bi,Aw,AG,Bd]
  exact⟨_,rfl,x2,hw2⟩
theorem AcK(Z:aC)(hw:Wf Z)(hL:aU (fun b=>b<Z.next) Z (.agg lv.toArray) d):
  Gives ((env (M+9)).call 15 [.agg lv.toArray] none Z) Z fun w _=>w=.int .i64 (bC d:Nat):=by
 rw[Ai _ 15 _ _ rfl,Ao6 _ _ _ _ (by simp),Ah]
 unfold Ang
 have hX1:Ext Z (Z.push (.cells lv TD) none):=(Ext.refl _).push _ _
 have hw1:=hw.push (.cells lv TD) none
 have c1:(Z.push (.cells lv TD) none).cells Z.next=some lv:=by rw[Al,if_pos rfl];rfl
 have st:∀ {τ:aC},Ext Z τ->aU (fun b=>b<τ.next) τ (.agg lv.toArray) d:=fun hX=>hL.keep fun b cs hb hc=>⟨(hX.cells hb).trans hc,by have:=hX.next;omega⟩
 by_cases e0:bC d=0
 .obtain⟨_,a_,e2,hX2,hw2,u,rfl,hq⟩:=Axn (M+5) 73 #[.pointer (some ⟨Z.next,0,none⟩)] (Adt (Int.ofNat d.count)) (fun _ v _ h=>by subst h;exact⟨rfl,rfl,rfl⟩) _ hw1 fun V hx' hw'=>
   (Mt M m hm d hc lv h4 Z.next V hw' ((hx'.cells (hw1.cells c1)).trans c1) (st (hX1.trans hx'))).1 e0
  subst hq
  simp -implicitDefEqProofs only[go_sem,VK,RT,VL,RU,VM,RV,h4,e2,Bb,AH,AL,BD]
  exact⟨_,_,rfl,hX1.trans hX2,hw2,by rw[e0];rfl⟩
 .obtain⟨_,a_,e2,hX2,hw2,rfl⟩:=Xl (M+3) 73 #[.pointer (some ⟨Z.next,0,none⟩)] (bC d:Nat) 0 _ hw1 fun V hx' hw'=>
   (Mt M m hm d hc lv h4 Z.next V hw' ((hx'.cells (hw1.cells c1)).trans c1) (st (hX1.trans hx'))).2 e0
  simp -implicitDefEqProofs only[go_sem,VK,RT,VL,RU,VM,RV,h4,e2,Bb,AH,AL,BD]
  exact⟨_,_,rfl,hX1.trans hX2,hw2,rfl⟩
end
section
variable (M n:Nat) (hM:M=n+404) (d:D) (hc:d.count<=400) (lv:List Value) (h4:lv.length=4)
include hM hc h4
theorem Aan(Z:aC)(hw:Wf Z)(hL:aU (fun b=>b<Z.next) Z (.agg lv.toArray) d):
  Gives ((env (M+3)).call 12 [.agg lv.toArray] none Z) Z fun w _=>w=sizeV d:=by
 have dd:=D_ d
 have ht:lv.take 4=lv:=List.take_of_length_le (by omega)
 rw[Ai _ 12 _ _ rfl,Ao3 _ _ _ _ (by simp),Ah]
 unfold Anc sizeV
 have x1:Ext Z (Z.push (.cells lv TD) none):=(Ext.refl _).push _ _
 have hw1:=hw.push (.cells lv TD) none
 have c1:(Z.push (.cells lv TD) none).cells Z.next=some lv:=by rw[Al,if_pos rfl];rfl
 have st:∀ {τ:aC},Ext Z τ->aU (fun b=>b<τ.next) τ (.agg lv.toArray) d:=fun hX=>hL.keep fun b cs hb hc=>⟨(hX.cells hb).trans hc,by have:=hX.next;omega⟩
 simp -implicitDefEqProofs only[go_sem,AhT,Yp]
 generalize aC.push _ _ _=bS at x1 hw1 c1 ⊢
 obtain⟨_,a_,e2,x2,hw2,rfl⟩:=Hm _ d lv h4 bS hw1 (st x1) M n 400 (by omega) (by omega) (by omega)
 have c2:=(x2.cells (hw1.cells c1)).trans c1
 have X2:=x1.trans x2
 by_cases e0:bC d=0
 .have z0:(((bC d:Nat):Int)==0)=true:=by rw[e0];rfl
  rw[if_pos e0]
  obtain⟨_,bT,e3,x3,hw3,rfl⟩:=Us (n+6) 400 d (by omega) lv _ a_ hw2 (st X2) (by omega)
  rw[show n+6+400=M+2 by omega] at e3
  simp -implicitDefEqProofs only[go_sem,VE,Rc,VF,Rd,AhV,Yr,AhW,Ys,c1,c2,h4,ht,e2,z0,e3,Ag,Bb,AH,AL,BD,Nat.le_refl]
  exact⟨_,_,rfl,X2.trans x3,hw3,rfl⟩
 .have z0:(((bC d:Nat):Int)==0)=false:=by simp;omega
  rw[if_neg e0]
  simp -implicitDefEqProofs only[go_sem,VE,Rc,VF,Rd,AhU,Yq,c1,h4,ht,e2,z0,Ag,Bb,AH,AL,BD,Nat.le_refl]
  exact⟨_,_,rfl,X2,hw2,rfl⟩
end
mutual
def apartP:D->D->Option (List Nat)
 | .mk k z t ds,.mk k' z' t' es=>if likeD (.mk k z t ds) (.mk k' z' t' es) then apartPs 0 ds es else some []
def apartPs(i:Nat):List D->List D->Option (List Nat)
 | d::ds,e::es=>match apartP d e with
  | some p=>some (i::p)
  | none=>apartPs (i+1) ds es
 | [],_=>none
 | _::_,[]=>none
end
def SplitAt(P:List Nat)(A B:List (List Nat×D)):Prop:=∃pre pre' x y ra rb,A=pre++(P,x)::ra/\B=pre'++(P,y)::rb/\Agree pre pre'/\likeD x y=false
mutual
theorem P1(p:List Nat):∀d e:D,(apartP d e=none/\d=e)\/∃q,apartP d e=some q/\SplitAt (p++q) (d.pieces p) (e.pieces p)
 | .mk k z t ds,.mk k' z' t' es=>by
  rw[apartP]
  cases h:likeD (.mk k z t ds) (.mk k' z' t' es) with
  | false=>exact .inr ⟨[],by simp,[],[],_,_,_,_,by rw[D.pieces,List.append_nil];rfl,by rw[D.pieces,List.append_nil];rfl,.nil,h⟩
  | true=>
   rw[if_pos rfl]
   have h':=h
   simp only[likeD,Bool.and_eq_true,beq_iff_eq] at h'
   obtain⟨⟨⟨h1,h2⟩,h3⟩,h4⟩:=h'
   have h5:=toList_inj h3
   subst h1 h2 h5
   rcases IB p ds es 0 (Int.ofNat.inj h4) with⟨e0,rfl⟩|⟨q,e0,pre,pre',x,y,ra,rb,e1,e2,e3,e4⟩
   .exact .inl ⟨e0,rfl⟩
   .exact .inr ⟨q,e0,(p,.mk k z t ds)::pre,(p,.mk k z t es)::pre',x,y,ra,rb,by rw[D.pieces,e1];rfl,by rw[D.pieces,e2];rfl,.cons rfl h e3,e4⟩
theorem IB(p:List Nat):∀(ds es:List D) (i:Nat),ds.length=es.length->(apartPs i ds es=none/\ds=es)\/∃q,apartPs i ds es=some q/\SplitAt (p++q) (D.piecesL p i ds) (D.piecesL p i es)
 | [],[],_,_=>.inl ⟨by rw[apartPs],rfl⟩
 | [],_::_,_,h=>by simp at h
 | _::_,[],_,h=>by simp at h
 | d::ds,e::es,i,h=>by
  rw[apartPs]
  rcases P1 (p++[i]) d e with⟨e0,rfl⟩|⟨q,e0,pre,pre',x,y,ra,rb,e1,e2,e3,e4⟩
  .rw[e0]
   rcases IB p ds es (i+1) (by simpa using h) with⟨e0,rfl⟩|⟨q,e0,pre,pre',x,y,ra,rb,e1,e2,e3,e4⟩
   .exact .inl ⟨e0,rfl⟩
   .exact .inr ⟨q,e0,d.pieces (p++[i])++pre,d.pieces (p++[i])++pre',x,y,ra,rb,by rw[D.piecesL,e1,List.append_assoc],by rw[D.piecesL,e2,List.append_assoc],(Agree.refl _).append e3,e4⟩
  .rw[e0]
   rw[List.append_assoc,List.singleton_append] at e1 e2
   exact .inr ⟨i::q,rfl,pre,pre',x,y,ra++D.piecesL p (i+1) ds,rb++D.piecesL p (i+1) es,by rw[D.piecesL,e1,List.append_assoc,List.cons_append],by rw[D.piecesL,e2,List.append_assoc,List.cons_append],e3,e4⟩
end
def DifOk(d e:D)(S:Nat->Prop)(Z:aC)(w:Value):Prop:=
 if twoE d e=0 then match apartP d e with
  | some p=>∃u,w=.tuple #[u,.int .i64 0]/\PathV S Z u p
  | none=>w=.tuple #[.slice none 0 0,.int .i64 10]
 else w=.tuple #[.slice none 0 0,.int .i64 (twoE d e:Nat)]
end
section
open Go Go.Eng
attribute [local congr] Aa Af Ad Ab Ac
attribute [-go_sem] List.range_succ
theorem Axx(P:Program)(t:TypeId)(x y:Operand)(s r:ByteArray)(Z:aC):i_lss P t x y (.string s) (.string r) Z=.val (.bool (Op.bytesLess s.toList r.toList)) Z:=by
 show fbin0 P .lss t x y (.string s) (.string r) Z=_
 unfold fbin0 orPure
 simp[eqGuard,binOp,flat,Op.stringOp]
 rfl
theorem ID(a b:ByteArray):(a==b)=decide (a=b):=by
 obtain⟨x⟩:=a
 obtain⟨y⟩:=b
 show (x==y)=_
 by_cases h:x=y
 .subst h;simp
 .rw[decide_eq_false (by simpa using h)];simpa using h
instance:LawfulBEq ByteArray where
 eq_of_beq {a b} h:=by rw[ID] at h;simpa using h
 rfl {a}:=by rw[ID];simp
class Tb where
 tab:List ByteArray
 asc:tab.Pairwise fun a b=>a.data.toList<b.data.toList
 few:tab.length<=400
section
variable [Tb]
def nT:Nat:=Tb.tab.length
theorem Agn:nT<=400:=Tb.few
def tx(r:Nat):ByteArray:=Tb.tab.getD r ⟨#[]⟩
def rank(t:ByteArray):Nat:=Tb.tab.idxOf t
theorem W8{r s:Nat}(hr:r<nT)(hs:s<nT)(h:r<s):(tx r).data.toList<(tx s).data.toList:=by
 have:=List.pairwise_iff_getElem.1 Tb.asc r s hr hs h
 unfold tx
 rw[List.getD_eq_getElem?_getD,List.getD_eq_getElem?_getD,List.getElem?_eq_getElem hr,List.getElem?_eq_getElem hs]
 exact this
theorem ArF{r s:Nat}(hr:r<nT)(hs:s<nT):decide ((tx r).data.toList<(tx s).data.toList)=decide (r<s):=by
 rw[decide_eq_decide]
 refine⟨fun h=>?_,W8 hr hs⟩
 rcases Nat.lt_trichotomy r s with h'|h'|h'
 .exact h'
 .subst h';exact absurd h (List.lt_irrefl _)
 .exact absurd (List.lt_trans h (W8 hs hr h')) (List.lt_irrefl _)
theorem TT{r s:Nat}(hr:r<nT)(hs:s<nT)(h:tx r=tx s):r=s:=by
 rcases Nat.lt_trichotomy r s with h'|h'|h'
 .have:=W8 hr hs h';rw[h] at this;exact absurd this (List.lt_irrefl _)
 .exact h'
 .have:=W8 hs hr h';rw[h] at this;exact absurd this (List.lt_irrefl _)
theorem Axh{x m:Nat}(hx:x<nT)(hm:m<nT):(tx x==tx m)=decide (x=m):=by
 by_cases h:x=m
 .subst h;rw[decide_eq_true rfl];exact beq_self_eq_true _
 .rw[decide_eq_false h,beq_eq_false_iff_ne]
  exact fun e=>h (TT hx hm e)
theorem J1{t:ByteArray}(h:t∈Tb.tab):tx (rank t)=t/\rank t<nT:=by
 have hl:=List.idxOf_lt_length_of_mem h
 refine⟨?_,hl⟩
 unfold tx
 rw[List.getD_eq_getElem?_getD]
 show (Tb.tab[List.idxOf t Tb.tab]?).getD _=t
 rw[List.getElem?_eq_getElem hl,Option.getD_some,List.getElem_idxOf]
theorem Axi{r:Nat}(h:r<nT):tx r∈Tb.tab:=by
 unfold tx
 rw[List.getD_eq_getElem?_getD,List.getElem?_eq_getElem h]
 exact List.getElem_mem _
theorem Ars{r:Nat}(h:r<nT):rank (tx r)=r:=by
 have:=J1 (Axi h)
 exact TT this.2 h this.1
theorem Agk(x y:Operand)(Z:aC){r s:Nat}(hr:r<nT)(hs:s<nT):i_lss Tryz.prog 9 x y (.string (tx r)) (.string (tx s)) Z=.val (.bool (decide (r<s))) Z:=by
 rw[Axx,bytesLess_eq,ByteArray.toList_eq,ByteArray.toList_eq,ArF hr hs]
theorem Af0(x y:Operand)(Z:aC){r s:Nat}(hr:r<nT)(hs:s<nT):bJ Tryz.prog 9 x y (.string (tx r)) (.string (tx s)) Z=.val (.bool (decide (r=s))) Z:=by
 rw[Dk]
 congr 2
 by_cases h:r=s
 .subst h;rw[decide_eq_true rfl];exact beq_self_eq_true _
 .rw[decide_eq_false h,beq_eq_false_iff_ne]
  exact fun e=>h (TT hr hs (toList_inj e))
theorem Av4(x y:Operand)(Z:aC){r s:Nat}(hr:r<nT)(hs:s<nT):i_neq Tryz.prog 9 x y (.string (tx r)) (.string (tx s)) Z=.val (.bool (decide (r≠s))) Z:=by
 rw[Dp]
 congr 2
 by_cases h:r=s
 .subst h;rw[decide_eq_false (fun h=>h rfl)];simp
 .rw[decide_eq_true h]
  have:((tx r).toList==(tx s).toList)=false:=by
   rw[beq_eq_false_iff_ne]
   exact fun e=>h (TT hr hs (toList_inj e))
  rw[this];rfl
def symR:D->Option Nat
 | .mk k _ t _=>if k=3 then some (rank t) else none
def rkP(l:List (List Nat×D)):List Nat:=l.filterMap fun x=>symR x.2
def rk(d:D):List Nat:=rkP (d.pieces [])
theorem Ha(a b:List (List Nat×D)):rkP (a++b)=rkP a++rkP b:=List.filterMap_append
mutual
theorem WT:∀(d:D) (p q:List Nat),rkP (d.pieces p)=rkP (d.pieces q)
 | .mk k z t ds,p,q=>by
  rw[D.pieces,D.pieces,rkP,rkP,List.filterMap_cons,List.filterMap_cons]
  have:=PO ds p q 0 0
  rw[rkP,rkP] at this
  rw[this]
theorem PO:∀(ds:List D) (p q:List Nat) (i j:Nat),rkP (D.piecesL p i ds)=rkP (D.piecesL q j ds)
 | [],p,q,i,j=>rfl
 | d::ds,p,q,i,j=>by rw[D.piecesL,D.piecesL,Ha,Ha,WT d (p++[i]) (q++[j]),PO ds p q (i+1) (j+1)]
end
theorem PN:∀(ds:List D) (p:List Nat) (i:Nat),rkP (D.piecesL p i ds)=ds.flatMap rk
 | [],p,i=>rfl
 | d::ds,p,i=>by rw[D.piecesL,Ha,PN ds p (i+1),List.flatMap_cons,WT d (p++[i]) []];rfl
theorem AuW(k z:Int)(t:ByteArray)(ds:List D):rk (.mk k z t ds)=(symR (.mk k z t ds)).toList++ds.flatMap rk:=by
 rw[rk,D.pieces,rkP,List.filterMap_cons]
 have:=PN ds [] 0
 rw[rkP] at this
 rw[this]
 cases symR (.mk k z t ds)<;>rfl
theorem NK(done:List (List Nat×D))(x:List Nat×D):rkP (done++[x])=rkP done++(symR x.2).toList:=by
 rw[Ha,rkP,rkP,List.filterMap_cons]
 cases symR x.2<;>rfl
omit [Tb] in
theorem NU:∀(l l':List Nat),l.Pairwise (· < ·)->l'.Pairwise (· < ·)->(∀x,x∈l↔x∈l')->l=l'
 | [],[],_,_,_=>rfl
 | [],y::l',_,_,h=>by have:=(h y).2 List.mem_cons_self;cases this
 | x::l,[],_,_,h=>by have:=(h x).1 List.mem_cons_self;cases this
 | x::l,y::l',h1,h2,h=>by
  rw[List.pairwise_cons] at h1 h2
  have e:x=y:=by
   have a:=(h x).1 List.mem_cons_self
   have b:=(h y).2 List.mem_cons_self
   rcases List.mem_cons.1 a with a|a
   .exact a
   .rcases List.mem_cons.1 b with b|b
    .exact b.symm
    .have:=h2.1 x a;have:=h1.1 y b;omega
  subst e
  rw[NU l l' h1.2 h2.2 fun z=>⟨fun hz=>by
   have:=h1.1 z hz
   rcases List.mem_cons.1 ((h z).1 (List.mem_cons_of_mem _ hz)) with c|c
   .omega
   .exact c,fun hz=>by
   have:=h2.1 z hz
   rcases List.mem_cons.1 ((h z).2 (List.mem_cons_of_mem _ hz)) with c|c
   .omega
   .exact c⟩]
def asc(P:Nat->Bool):List Nat:=(List.range nT).filter P
theorem IM(P:Nat->Bool):(asc P).Pairwise (· < ·):=List.Pairwise.filter _ List.pairwise_lt_range
theorem HJ(P:Nat->Bool)(x:Nat):x∈asc P↔x<nT/\P x=true:=by rw[asc,List.mem_filter,List.mem_range]
theorem P5(P:Nat->Bool):(asc P).length<=400:=by
 have:=List.length_filter_le P (List.range nT)
 rw[List.length_range] at this
 exact Nat.le_trans this Agn
theorem P6(l:List Nat)(P:Nat->Bool)(h:l.Pairwise (· < ·))(hm:∀x,x∈l↔x<nT/\P x=true):l=asc P:=NU l (asc P) h (IM P) fun x=>by rw[hm,HJ]
def mrg:List Nat->List Nat->List Nat
 | [],b=>b
 | x::a,[]=>x::a
 | x::a,y::b=>if x<y then x::mrg a (y::b) else if x=y then y::mrg a b else y::mrg (x::a) b
termination_by a b=>a.length+b.length
omit [Tb] in
theorem LB(z:Nat):∀(n:Nat) (a b:List Nat),a.length+b.length<=n->(z∈mrg a b↔z∈a\/z∈b):=by
 intro n
 induction n with
 | zero=>
  intro a b h
  have h1:a=[]:=List.length_eq_zero_iff.1 (by omega)
  subst h1
  rw[mrg];simp
 | succ n ih=>
  intro a b h
  match a,b with
  | [],b=>rw[mrg];simp
  | x::a,[]=>rw[mrg];simp
  | x::a,y::b=>
   rw[mrg]
   simp only[List.length_cons] at h
   split
   .rw[List.mem_cons,ih a (y::b) (by simp only[List.length_cons];omega),List.mem_cons,List.mem_cons,or_assoc]
   .split
    .rename_i e
     subst e
     rw[List.mem_cons,ih a b (by omega),List.mem_cons,List.mem_cons]
     constructor
     .rintro(h|h|h)
      .exact .inl (.inl h)
      .exact .inl (.inr h)
      .exact .inr (.inr h)
     .rintro((h|h)|(h|h))
      .exact .inl h
      .exact .inr (.inl h)
      .exact .inl h
      .exact .inr (.inr h)
    .rw[List.mem_cons,ih (x::a) b (by simp only[List.length_cons];omega),List.mem_cons,List.mem_cons]
     constructor
     .rintro(h|h|h)
      .exact .inr (.inl h)
      .exact .inl h
      .exact .inr (.inr h)
     .rintro(h|(h|h))
      .exact .inr (.inl h)
      .exact .inl h
      .exact .inr (.inr h)
omit [Tb] in
theorem XX:∀(n:Nat) (a b:List Nat),a.length+b.length<=n->a.Pairwise (· < ·)->b.Pairwise (· < ·)->(mrg a b).Pairwise (· < ·):=by
 intro n
 induction n with
 | zero=>
  intro a b h _ hb
  have h1:a=[]:=List.length_eq_zero_iff.1 (by omega)
  subst h1
  rw[mrg];exact hb
 | succ n ih=>
  intro a b h ha hb
  match a,b with
  | [],b=>rw[mrg];exact hb
  | x::a,[]=>rw[mrg];exact ha
  | x::a,y::b=>
   rw[mrg]
   simp only[List.length_cons] at h
   have ha':=List.pairwise_cons.1 ha
   have hb':=List.pairwise_cons.1 hb
   split
   .rename_i hxy
    refine List.pairwise_cons.2 ⟨fun z hz=>?_,ih a (y::b) (by simp only[List.length_cons];omega) ha'.2 hb⟩
    rcases (LB z _ a (y::b) (Nat.le_refl _)).1 hz with hz|hz
    .exact ha'.1 z hz
    .rcases List.mem_cons.1 hz with rfl|hz
     .exact hxy
     .have:=hb'.1 z hz;omega
   .split
    .rename_i e
     subst e
     refine List.pairwise_cons.2 ⟨fun z hz=>?_,ih a b (by omega) ha'.2 hb'.2⟩
     rcases (LB z _ a b (Nat.le_refl _)).1 hz with hz|hz
     .exact ha'.1 z hz
     .exact hb'.1 z hz
    .rename_i h1 h2
     refine List.pairwise_cons.2 ⟨fun z hz=>?_,ih (x::a) b (by simp only[List.length_cons];omega) ha hb'.2⟩
     rcases (LB z _ (x::a) b (Nat.le_refl _)).1 hz with hz|hz
     .rcases List.mem_cons.1 hz with rfl|hz
      .omega
      .have:=ha'.1 z hz;omega
     .exact hb'.1 z hz
theorem ApO(P Q:Nat->Bool):mrg (asc P) (asc Q)=asc (fun r=>P r||Q r):=by
 refine P6 _ _ (XX _ _ _ (Nat.le_refl _) (IM P) (IM Q)) fun x=>?_
 rw[LB x _ _ _ (Nat.le_refl _),HJ,HJ,Bool.or_eq_true]
 constructor
 .rintro(⟨h,h'⟩|⟨h,h'⟩)
  .exact⟨h,.inl h'⟩
  .exact⟨h,.inr h'⟩
 .rintro⟨h,h'|h'⟩
  .exact .inl ⟨h,h'⟩
  .exact .inr ⟨h,h'⟩
def ded(acc:List Nat)(r:Nat):List Nat:=if r∈acc then acc else acc++[r]
def dedL(l:List Nat):List Nat:=l.foldl ded []
omit [Tb] in
theorem AcS(l:List Nat)(r:Nat):dedL (l++[r])=ded (dedL l) r:=by simp[dedL]
omit [Tb] in
theorem Ao0(acc:List Nat)(r x:Nat):x∈ded acc r↔x∈acc\/x=r:=by
 rw[ded]
 split
 .rename_i h
  exact⟨.inl,fun h'=>h'.elim id fun e=>e ▸ h⟩
 .rw[List.mem_append,List.mem_singleton]
omit [Tb] in
theorem Uu(x:Nat):∀(l acc:List Nat),x∈l.foldl ded acc↔x∈acc\/x∈l
 | [],acc=>by simp
 | r::l,acc=>by
  rw[List.foldl_cons,Uu x l (ded acc r),Ao0,List.mem_cons,or_assoc]
omit [Tb] in
theorem Jl(l:List Nat)(x:Nat):x∈dedL l↔x∈l:=by rw[dedL,Uu];simp
omit [Tb] in
theorem AcT{acc:List Nat}(h:acc.Nodup)(r:Nat):(ded acc r).Nodup:=by
 rw[ded]
 split
 .exact h
 .rename_i hr
  rw[List.nodup_append]
  exact⟨h,by simp,fun a ha b hb=>by rw[List.mem_singleton.1 hb];exact fun e=>hr (e ▸ ha)⟩
omit [Tb] in
theorem Mv:∀(l acc:List Nat),acc.Nodup->(l.foldl ded acc).Nodup
 | [],acc,h=>h
 | r::l,acc,h=>Mv l (ded acc r) (AcT h r)
omit [Tb] in
theorem Mw(l:List Nat):(dedL l).Nodup:=Mv l [] List.nodup_nil
structure Syms (d:D):Prop where
 good:∀path k z t ds,(path,D.mk k z t ds)∈d.pieces []->∃k':Nat,k=(k':Int)/\k'<=6/\(k'=3->t∈Tb.tab/\z=0/\ds=[])
 small:Small (d.pieces [])
 few:(d.pieces []).length<=1093
theorem Ach{d:D}(h:Syms d):∀r∈rk d,r<nT:=fun r hr=>by
 rw[rk,rkP,List.mem_filterMap] at hr
 obtain⟨x,hx,e⟩:=hr
 obtain⟨p,k,z,t,ds⟩:=x
 simp only[symR] at e
 split at e
 .rename_i hk
  obtain⟨k',hk',_,h3⟩:=h.good p k z t ds hx
  cases e
  exact(J1 (h3 (by omega)).1).2
 .cases e
omit [Tb] in
theorem Lf:∀(n:Nat) (l:List Nat),l.Nodup->(∀x∈l,x<n)->l.length<=n
 | 0,l,_,h=>by
  cases l with
  | nil=>simp
  | cons x l=>have:=h x (List.mem_cons_self ..);omega
 | n+1,l,hn,h=>by
  have h1:=Lf n (l.erase n) (hn.erase n) fun x hx=>by
   have h2:=h x (List.mem_of_mem_erase hx)
   have:x≠n:=fun e=>by subst e;exact(List.Nodup.not_mem_erase hn) hx
   omega
  have:=List.length_erase_of_mem (a:=n) (l:=l)
  by_cases hm:n∈l
  .rw[List.length_erase_of_mem hm] at h1;omega
  .rw[List.erase_of_not_mem hm] at h1;omega
theorem Uv{d:D}(h:Syms d)(done:List (List Nat×D))(hd:∀x∈done,x∈d.pieces []):(dedL (rkP done)).length<=400:=
 Nat.le_trans (Lf nT _ (Mw _) fun x hx=>Ach h x (by
  rw[Jl,rkP,List.mem_filterMap] at hx
  obtain⟨y,hy,e⟩:=hx
  rw[rk,rkP,List.mem_filterMap]
  exact⟨y,hd y hy,e⟩)) Agn
end
end
section
open Go Go.Eng
variable (E:Env) (ro:Option Nat) (last:List Nat->aZ) (cl:List Nat) (a:aV) (u:Option FrameMode) (Z:aC)
def Rt(_:Unit):List COp:=[⟨fun a Z=>fbox 24 (a.get 0) Z,some 1,tT⟩,
 ⟨fun a Z=>.val (.slice none 0 0) Z,some 2,tT⟩,
 ⟨fun a Z=>.val (.int .i64 0) Z,some 3,tT⟩]
def Ar2:List COp:=Rt ()
def Ru(_:Unit):List COp:=[⟨fun a Z=>.val (.func (.func 68) #[] #[(a.get 1)]) Z,some 4,tT⟩,
 ⟨fun a Z=>.enter 67 [(a.get 4)] Z,some 5,tT⟩,
 ⟨fun a Z=>aJ 0 (a.get 5) Z,some 6,tT⟩,
 ⟨fun a Z=>aJ 1 (a.get 5) Z,some 7,tT⟩,
 ⟨fun a Z=>.val (a.get 6) Z,some 2,tT⟩,
 ⟨fun a Z=>.val (a.get 7) Z,some 3,tT⟩]
def Ar3:List COp:=Ru ()
def Ane(E:Env)(ro:Option Nat)(fn:FuncId):aZ:=(aF (aD E ro Ar2) (aF (aD E ro Ar3) bO))
theorem VG:aD E ro Ar2 a u Z=aD E ro (Rt ()) a u Z:=rfl
theorem VH:aD E ro Ar3 a u Z=aD E ro (Ru ()) a u Z:=rfl
theorem Avb(E:Env)(ro:Option Nat)(fn:FuncId):code Tryz.prog nls (Tryz.f13.body.getD .skip) E ro fn=Ane E ro fn:=by kernel_rfl
theorem Ao4(E:Env)(args:List Value)(u:Option FrameMode)(Z:aC)(hn:args.length<=(2:Nat)):bA Tryz.prog nls E 13 args u Z=aN Tryz.prog E [.tmp 2,.tmp 3] (Ane E none 13 ⟨aY undef 2 args,fun _=>undef,2,8,[]⟩ u Z):=by
 rw[Am (body:=Tryz.f13.body.getD .skip) Tryz.func13 rfl E args u Z 2 8 (by kernel_rfl) rfl ⟨hn,by decide⟩,Avb]
 rfl
def SW(_:Unit):List COp:=[⟨fun a Z=>.val (.slice none 0 0) Z,some 1,tT⟩]
def AtP:List COp:=SW ()
def SX(_:Unit):List COp:=[⟨fun a Z=>aG (some 4) (a.get 0) Z,some 2,tT⟩,
 ⟨fun a Z=>.enter 64 [(a.get 2)] Z,some 3,tT⟩]
def AtQ:List COp:=SX ()
def Zx(_:Unit):List COp:=[⟨fun a Z=>aG (some 4) (a.get 0) Z,some 4,tT⟩,
 ⟨fun a Z=>.enter 70 [(a.get 4)] Z,some 5,tT⟩,
 ⟨fun a Z=>.enter 69 [(a.get 5)] Z,some 6,tT⟩,
 ⟨fun a Z=>.val (a.get 6) Z,some 1,tT⟩]
def AtS:List COp:=Zx ()
def Anz(E:Env)(ro:Option Nat)(fn:FuncId):aZ:=(aF (aD E ro AtP) (aF (aD E ro AtQ) (aF (aD E ro AtS) bO)))
theorem Wm:aD E ro AtP a u Z=aD E ro (SW ()) a u Z:=rfl
theorem Wn:aD E ro AtQ a u Z=aD E ro (SX ()) a u Z:=rfl
theorem Al1:aD E ro AtS a u Z=aD E ro (Zx ()) a u Z:=rfl
theorem AvA(E:Env)(ro:Option Nat)(fn:FuncId):code Tryz.prog nls (Tryz.f68.body.getD .skip) E ro fn=Anz E ro fn:=by kernel_rfl
theorem Apo(E:Env)(args:List Value)(u:Option FrameMode)(Z:aC)(hn:args.length<=(1:Nat)):bA Tryz.prog nls E 68 args u Z=aN Tryz.prog E [.tmp 1] (Anz E none 68 ⟨aY undef 1 args,fun _=>undef,1,7,[]⟩ u Z):=by
 rw[Am (body:=Tryz.f68.body.getD .skip) Tryz.func68 rfl E args u Z 1 7 (by kernel_rfl) rfl ⟨hn,by decide⟩,AvA]
 rfl
def ZG(_:Unit):List COp:=[⟨fun a Z=>fbox 24 (a.get 0) Z,some 1,tT⟩,
 ⟨fun a Z=>.val .nilFunc Z,some 2,tT⟩]
def At3:List COp:=ZG ()
def ZH(_:Unit):List COp:=[⟨fun a Z=>.val (.func (.func 116) #[] #[(a.get 1)]) Z,some 3,tT⟩,
 ⟨fun a Z=>.val (a.get 3) Z,some 2,tT⟩]
def At4:List COp:=ZH ()
def AnB(E:Env)(ro:Option Nat)(fn:FuncId):aZ:=(aF (aD E ro At3) (aF (aD E ro At4) bO))
theorem Amb:aD E ro At3 a u Z=aD E ro (ZG ()) a u Z:=rfl
theorem Amc:aD E ro At4 a u Z=aD E ro (ZH ()) a u Z:=rfl
theorem AvC(E:Env)(ro:Option Nat)(fn:FuncId):code Tryz.prog nls (Tryz.f70.body.getD .skip) E ro fn=AnB E ro fn:=by kernel_rfl
theorem Apq(E:Env)(args:List Value)(u:Option FrameMode)(Z:aC)(hn:args.length<=(2:Nat)):bA Tryz.prog nls E 70 args u Z=aN Tryz.prog E [.tmp 2] (AnB E none 70 ⟨aY undef 2 args,fun _=>undef,2,4,[]⟩ u Z):=by
 rw[Am (body:=Tryz.f70.body.getD .skip) Tryz.func70 rfl E args u Z 2 4 (by kernel_rfl) rfl ⟨hn,by decide⟩,AvC]
 rfl
def QU(_:Unit):List COp:=[⟨fun a Z=>fbox 143 (a.get 0) Z,some 2,tT⟩]
def Ag5:List COp:=QU ()
def QV(_:Unit):List COp:=[⟨fun a Z=>aG (some 4) (a.get 1) Z,some 7,tT⟩,
 ⟨fun a Z=>.enter 113 [(a.get 7)] Z,some 8,tT⟩]
def Ag6:List COp:=QV ()
def QW(_:Unit):List COp:=[⟨fun a Z=>aP [(.int .i64 0),(.int .i64 0),(.string ⟨#[]⟩),(.slice none 0 0)] 24 none Z,some 4,tT⟩,
 ⟨fun a Z=>aK 4 (a.get 4) (a.get 10) Z,none,tT⟩]
def Ag7:List COp:=QW ()
def QX(_:Unit):List COp:=[⟨fun a Z=>aG (some 4) (a.get 4) Z,some 12,tT⟩,
 ⟨fun a Z=>.enter 117 [(a.get 12)] Z,some 13,tT⟩,
 ⟨fun a Z=>fassert Tryz.prog (a.get 13) 145 true Z,some 14,tT⟩,
 ⟨fun a Z=>.val (a.get 14) Z,some 11,tT⟩,
 ⟨fun a Z=>aJ 0 (a.get 11) Z,some 15,tT⟩,
 ⟨fun a Z=>aJ 1 (a.get 11) Z,some 16,tT⟩,
 ⟨fun a Z=>aP [(.int .i64 0),(.int .i64 0),(.string ⟨#[]⟩),(.slice none 0 0)] 145 none Z,some 5,tT⟩,
 ⟨fun a Z=>aK 4 (a.get 5) (a.get 15) Z,none,tT⟩,
 ⟨fun a Z=>.val (a.get 16) Z,some 6,tT⟩]
def Ag8:List COp:=QX ()
def JE(_:Unit):List COp:=[⟨fun a Z=>.val (a.get 6) Z,some 17,tT⟩,
 ⟨fun a Z=>.val (a.get 17) Z,some 18,tT⟩,
 ⟨fun a Z=>aH 0 (a.get 5) Z,some 19,fun a=>gd (a.get 18) true⟩,
 ⟨fun a Z=>aH 0 (a.get 19) Z,some 20,fun a=>gd (a.get 18) true⟩,
 ⟨fun a Z=>aG none (a.get 20) Z,some 21,fun a=>gd (a.get 18) true⟩,
 ⟨fun a Z=>bJ Tryz.prog 3 (.tmp 21) (.const (.int .i64 3)) (a.get 21) (.int .i64 3) Z,some 22,fun a=>gd (a.get 18) true⟩,
 ⟨fun a Z=>bG (a.get 18) (a.get 22) (.bool false) Z,some 23,tT⟩,
 ⟨fun a Z=>.val (a.get 23) Z,some 24,tT⟩,
 ⟨fun a Z=>aG none (a.get 2) Z,some 25,fun a=>gd (a.get 24) true⟩,
 ⟨fun a Z=>aH 0 (a.get 5) Z,some 26,fun a=>gd (a.get 24) true⟩,
 ⟨fun a Z=>aH 2 (a.get 26) Z,some 27,fun a=>gd (a.get 24) true⟩,
 ⟨fun a Z=>aG none (a.get 27) Z,some 28,fun a=>gd (a.get 24) true⟩,
 ⟨fun a Z=>fcallV (a.get 25) [(a.get 28)] Z,some 29,fun a=>gd (a.get 24) true⟩,
 ⟨fun a Z=>fun1 Tryz.prog (Op.unary .not) (a.get 29) Z,some 30,fun a=>gd (a.get 24) true⟩,
 ⟨fun a Z=>bG (a.get 24) (a.get 30) (.bool false) Z,some 31,tT⟩]
def Ag9:List COp:=JE ()
noncomputable def Ew:Code:=((bP (Tryz.f116.body.getD .skip)).getD 0 (.skip,.skip)).1
noncomputable def Ex:Code:=((bP (Tryz.f116.body.getD .skip)).getD 0 (.skip,.skip)).2
def Aat(E:Env)(ro:Option Nat)(fn:FuncId):aZ:=(aF (aD E ro Ag5) (aF (aD E ro Ag6) (aR 0 (frange E ro fn (.tmp 8) [9,10] Ew Ex))))
theorem AdC:aD E ro Ag5 a u Z=aD E ro (QU ()) a u Z:=rfl
theorem AdD:aD E ro Ag6 a u Z=aD E ro (QV ()) a u Z:=rfl
theorem AdE:aD E ro Ag7 a u Z=aD E ro (QW ()) a u Z:=rfl
theorem AdF:aD E ro Ag8 a u Z=aD E ro (QX ()) a u Z:=rfl
theorem KF:aD E ro Ag9 a u Z=aD E ro (JE ()) a u Z:=rfl
theorem Xi(E:Env)(ro:Option Nat)(fn:FuncId):code Tryz.prog nls Ew E ro fn=(aD E ro Ag7):=by kernel_rfl
theorem Xj(E:Env)(ro:Option Nat)(fn:FuncId):code Tryz.prog nls Ex E ro fn=(aR 1 (aF (aD E ro Ag8) (aF (aD E ro Ag9) (aL (fun a=>(a.get 31)) bO aQ)))):=by kernel_rfl
theorem Aor(E:Env)(ro:Option Nat)(fn:FuncId):code Tryz.prog nls (Tryz.f116.body.getD .skip) E ro fn=Aat E ro fn:=by kernel_rfl
theorem AfG(E:Env)(args:List Value)(u:Option FrameMode)(Z:aC)(hn:args.length<=(7:Nat)):bA Tryz.prog nls E 116 args u Z=aN Tryz.prog E [] (Aat E none 116 ⟨aY undef 7 args,fun _=>undef,7,32,[]⟩ u Z):=by
 rw[Am (body:=Tryz.f116.body.getD .skip) Tryz.func116 rfl E args u Z 7 32 (by kernel_rfl) rfl ⟨hn,by decide⟩,Aor]
 rfl
def Zy(_:Unit):List COp:=[⟨fun a Z=>.val (.slice none 0 0) Z,some 2,tT⟩]
def AtT:List COp:=Zy ()
def Zz(_:Unit):List COp:=[⟨fun a Z=>.val (.map (some Z.next)) (Z.push (.map [] 0) none),some 8,tT⟩,
 ⟨fun a Z=>aP [(.map none)] 140 none Z,some 3,tT⟩,
 ⟨fun a Z=>aK 1 (a.get 3) (a.get 8) Z,none,tT⟩]
def AtU:List COp:=Zz ()
def ZA(_:Unit):List COp:=[⟨fun a Z=>aP [(.slice none 0 0)] 35 none Z,some 4,tT⟩]
def AtV:List COp:=ZA ()
def ZB(_:Unit):List COp:=[⟨fun a Z=>.val (a.get 0) Z,some 9,tT⟩]
def AtW:List COp:=ZB ()
def ZC(_:Unit):List COp:=[⟨fun a Z=>.val (a.get 10) Z,some 5,tT⟩]
def AtX:List COp:=ZC ()
def SZ(_:Unit):List COp:=[⟨fun a Z=>aG none (a.get 3) Z,some 12,tT⟩,
 ⟨fun a Z=>.val (a.get 5) Z,some 13,tT⟩,
 ⟨fun a Z=>(cop Tryz.prog (.lookup 140 (.tmp 12) (.tmp 13) true)).un a Z,some 14,tT⟩,
 ⟨fun a Z=>.val (a.get 14) Z,some 11,tT⟩,
 ⟨fun a Z=>aJ 0 (a.get 11) Z,some 15,tT⟩,
 ⟨fun a Z=>aJ 1 (a.get 11) Z,some 16,tT⟩,
 ⟨fun a Z=>.val (a.get 15) Z,some 6,tT⟩,
 ⟨fun a Z=>.val (a.get 16) Z,some 7,tT⟩]
def AtY:List COp:=SZ ()
def S0(_:Unit):List COp:=[⟨fun a Z=>.val (a.get 7) Z,some 17,tT⟩,
 ⟨fun a Z=>fun1 Tryz.prog (Op.unary .not) (a.get 17) Z,some 18,tT⟩]
def AtZ:List COp:=S0 ()
def ZD(_:Unit):List COp:=[⟨fun a Z=>aG none (a.get 3) Z,some 19,tT⟩,
 ⟨fun a Z=>.val (a.get 5) Z,some 20,tT⟩,
 ⟨fun a Z=>(cop Tryz.prog (.mapUpdate 140 (.tmp 19) (.tmp 20) (.const (.bool true)))).un a Z,none,tT⟩]
def At0:List COp:=ZD ()
def ZE(_:Unit):List COp:=[⟨fun a Z=>aG none (a.get 4) Z,some 21,tT⟩,
 ⟨fun a Z=>.val (a.get 5) Z,some 22,tT⟩,
 ⟨fun a Z=>aX 9 1 1 [(.string ⟨#[]⟩)] [(0,(a.get 22))] Z,some 23,tT⟩,
 ⟨fun a Z=>fappend 9 1 16 (a.get 21) (a.get 23) Z,some 24,tT⟩,
 ⟨fun a Z=>aK 1 (a.get 4) (a.get 24) Z,none,tT⟩]
def At1:List COp:=ZE ()
noncomputable def El:Code:=((bP (Tryz.f69.body.getD .skip)).getD 0 (.skip,.skip)).1
noncomputable def Em:Code:=((bP (Tryz.f69.body.getD .skip)).getD 0 (.skip,.skip)).2
def ZF(_:Unit):List COp:=[⟨fun a Z=>aG none (a.get 4) Z,some 25,tT⟩,
 ⟨fun a Z=>.enter 115 [(a.get 25)] Z,some 26,tT⟩]
def At2:List COp:=ZF ()
def SY(_:Unit):List COp:=[⟨fun a Z=>aG none (a.get 4) Z,some 27,tT⟩,
 ⟨fun a Z=>.val (a.get 27) Z,some 2,tT⟩]
def Al3:List COp:=SY ()
def AnA(E:Env)(ro:Option Nat)(fn:FuncId):aZ:=(aF (aD E ro AtT) (aF (aD E ro AtU) (aF (aD E ro AtV) (aF (aF (aD E ro AtW) (aR 0 (frange E ro fn (.tmp 9) [10] El Em))) (aF (aD E ro At2) (aF (aD E ro Al3) bO))))))
theorem Al2:aD E ro AtT a u Z=aD E ro (Zy ()) a u Z:=rfl
theorem Al4:aD E ro AtU a u Z=aD E ro (Zz ()) a u Z:=rfl
theorem Al5:aD E ro AtV a u Z=aD E ro (ZA ()) a u Z:=rfl
theorem Al6:aD E ro AtW a u Z=aD E ro (ZB ()) a u Z:=rfl
theorem Al7:aD E ro AtX a u Z=aD E ro (ZC ()) a u Z:=rfl
theorem Wo:aD E ro AtY a u Z=aD E ro (SZ ()) a u Z:=rfl
theorem Wp:aD E ro AtZ a u Z=aD E ro (S0 ()) a u Z:=rfl
theorem Al8:aD E ro At0 a u Z=aD E ro (ZD ()) a u Z:=rfl
theorem Al9:aD E ro At1 a u Z=aD E ro (ZE ()) a u Z:=rfl
theorem AcI(E:Env)(ro:Option Nat)(fn:FuncId):code Tryz.prog nls El E ro fn=(aD E ro AtX):=by kernel_rfl
theorem AcJ(E:Env)(ro:Option Nat)(fn:FuncId):code Tryz.prog nls Em E ro fn=(aR 1 (aF (aD E ro AtY) (aF (aD E ro AtZ) (aL (fun a=>(a.get 18)) (aF (aD E ro At0) (aD E ro At1)) aQ)))):=by kernel_rfl
theorem Ama:aD E ro At2 a u Z=aD E ro (ZF ()) a u Z:=rfl
theorem AeR:aD E ro Al3 a u Z=aD E ro (SY ()) a u Z:=rfl
theorem AvB(E:Env)(ro:Option Nat)(fn:FuncId):code Tryz.prog nls (Tryz.f69.body.getD .skip) E ro fn=AnA E ro fn:=by kernel_rfl
theorem App(E:Env)(args:List Value)(u:Option FrameMode)(Z:aC)(hn:args.length<=(8:Nat)):bA Tryz.prog nls E 69 args u Z=aN Tryz.prog E [.tmp 2] (AnA E none 69 ⟨aY undef 8 args,fun _=>undef,8,28,[]⟩ u Z):=by
 rw[Am (body:=Tryz.f69.body.getD .skip) Tryz.func69 rfl E args u Z 8 28 (by kernel_rfl) rfl ⟨hn,by decide⟩,AvB]
 rfl
def QS(_:Unit):List COp:=[⟨fun a Z=>.val (a.get 0) Z,some 3,tT⟩,
 ⟨fun a Z=>flenL (a.get 3) Z,some 4,tT⟩,
 ⟨fun a Z=>.val (a.get 4) Z,some 2,tT⟩]
def Ag3:List COp:=QS ()
def QT(_:Unit):List COp:=[⟨fun a Z=>.val (a.get 0) Z,some 5,tT⟩,
 ⟨fun a Z=>.val (a.get 2) Z,some 6,tT⟩,
 ⟨fun a Z=>.val (a.get 2) Z,some 7,tT⟩,
 ⟨fun a Z=>fun1 Tryz.prog (convert 3 152) (a.get 7) Z,some 8,tT⟩,
 ⟨fun a Z=>.enter 144 [(a.get 8)] Z,some 9,tT⟩,
 ⟨fun a Z=>.enter 143 [(a.get 5),(.int .i64 0),(a.get 6),(a.get 9)] Z,some 10,tT⟩]
def Ag4:List COp:=QT ()
def Aas(E:Env)(ro:Option Nat)(fn:FuncId):aZ:=(aF (aD E ro Ag3) (aD E ro Ag4))
theorem AdA:aD E ro Ag3 a u Z=aD E ro (QS ()) a u Z:=rfl
theorem AdB:aD E ro Ag4 a u Z=aD E ro (QT ()) a u Z:=rfl
theorem Aoq(E:Env)(ro:Option Nat)(fn:FuncId):code Tryz.prog nls (Tryz.f115.body.getD .skip) E ro fn=Aas E ro fn:=by kernel_rfl
theorem AfF(E:Env)(args:List Value)(u:Option FrameMode)(Z:aC)(hn:args.length<=(3:Nat)):bA Tryz.prog nls E 115 args u Z=aN Tryz.prog E [] (Aas E none 115 ⟨aY undef 3 args,fun _=>undef,3,11,[]⟩ u Z):=by
 rw[Am (body:=Tryz.f115.body.getD .skip) Tryz.func115 rfl E args u Z 3 11 (by kernel_rfl) rfl ⟨hn,by decide⟩,Aoq]
 rfl
def RC(_:Unit):List COp:=[⟨fun a Z=>.val (.bool true) Z,some 8,tT⟩]
def AiH:List COp:=RC ()
def RD(_:Unit):List COp:=[⟨fun a Z=>.val (.bool true) Z,some 9,tT⟩]
def AiI:List COp:=RD ()
def RE(_:Unit):List COp:=[⟨fun a Z=>.val (a.get 2) Z,some 19,tT⟩,
 ⟨fun a Z=>.val (a.get 1) Z,some 20,tT⟩,
 ⟨fun a Z=>i_sub Tryz.prog 3 (.tmp 19) (.tmp 20) (a.get 19) (a.get 20) Z,some 21,tT⟩,
 ⟨fun a Z=>.val (a.get 21) Z,some 10,tT⟩]
def AiT:List COp:=RE ()
def RF(_:Unit):List COp:=[⟨fun a Z=>.val (a.get 10) Z,some 22,tT⟩,
 ⟨fun a Z=>i_leq Tryz.prog 3 (.tmp 22) (.const (.int .i64 12)) (a.get 22) (.int .i64 12) Z,some 23,tT⟩]
def Ai4:List COp:=RF ()
def RG(_:Unit):List COp:=[⟨fun a Z=>.val (a.get 0) Z,some 24,tT⟩,
 ⟨fun a Z=>.val (a.get 1) Z,some 25,tT⟩,
 ⟨fun a Z=>.val (a.get 2) Z,some 26,tT⟩,
 ⟨fun a Z=>.enter 160 [(a.get 24),(a.get 25),(a.get 26)] Z,some 27,tT⟩]
def Ai6:List COp:=RG ()
def Aqt(_:Unit):List COp:=[⟨fun a Z=>.val (a.get 3) Z,some 28,tT⟩,
 ⟨fun a Z=>bJ Tryz.prog 3 (.tmp 28) (.const (.int .i64 0)) (a.get 28) (.int .i64 0) Z,some 29,tT⟩]
def Awp:List COp:=Aqt ()
def Aqu(_:Unit):List COp:=[⟨fun a Z=>.val (a.get 0) Z,some 30,tT⟩,
 ⟨fun a Z=>.val (a.get 1) Z,some 31,tT⟩,
 ⟨fun a Z=>.val (a.get 2) Z,some 32,tT⟩,
 ⟨fun a Z=>.enter 161 [(a.get 30),(a.get 31),(a.get 32)] Z,some 33,tT⟩]
def Awq:List COp:=Aqu ()
def Aqv(_:Unit):List COp:=[⟨fun a Z=>.val (a.get 8) Z,some 34,tT⟩,
 ⟨fun a Z=>fun1 Tryz.prog (Op.unary .not) (a.get 34) Z,some 35,tT⟩]
def Awr:List COp:=Aqv ()
def Aqw(_:Unit):List COp:=[⟨fun a Z=>.val (a.get 0) Z,some 36,tT⟩,
 ⟨fun a Z=>.val (a.get 1) Z,some 37,tT⟩,
 ⟨fun a Z=>.val (a.get 2) Z,some 38,tT⟩,
 ⟨fun a Z=>.enter 162 [(a.get 36),(a.get 37),(a.get 38)] Z,some 39,tT⟩]
def Aws:List COp:=Aqw ()
def Aqx(_:Unit):List COp:=[⟨fun a Z=>.val (a.get 3) Z,some 40,tT⟩,
 ⟨fun a Z=>i_sub Tryz.prog 3 (.tmp 40) (.const (.int .i64 1)) (a.get 40) (.int .i64 1) Z,some 41,tT⟩,
 ⟨fun a Z=>.val (a.get 41) Z,some 3,tT⟩]
def Awt:List COp:=Aqx ()
def AiJ(_:Unit):List COp:=[⟨fun a Z=>.val (a.get 0) Z,some 43,tT⟩,
 ⟨fun a Z=>.val (a.get 1) Z,some 44,tT⟩,
 ⟨fun a Z=>.val (a.get 2) Z,some 45,tT⟩,
 ⟨fun a Z=>.enter 163 [(a.get 43),(a.get 44),(a.get 45)] Z,some 46,tT⟩,
 ⟨fun a Z=>.val (a.get 46) Z,some 42,tT⟩,
 ⟨fun a Z=>aJ 0 (a.get 42) Z,some 47,tT⟩,
 ⟨fun a Z=>aJ 1 (a.get 42) Z,some 48,tT⟩,
 ⟨fun a Z=>.val (a.get 47) Z,some 11,tT⟩,
 ⟨fun a Z=>.val (a.get 48) Z,some 12,tT⟩]
def Ap8:List COp:=AiJ ()
def AiK(_:Unit):List COp:=[⟨fun a Z=>.val (a.get 12) Z,some 49,tT⟩,
 ⟨fun a Z=>bJ Tryz.prog 192 (.tmp 49) (.const (.int .i64 2)) (a.get 49) (.int .i64 2) Z,some 50,tT⟩]
def Ap9:List COp:=AiK ()
def AiL(_:Unit):List COp:=[⟨fun a Z=>.val (a.get 0) Z,some 51,tT⟩,
 ⟨fun a Z=>.val (a.get 1) Z,some 52,tT⟩,
 ⟨fun a Z=>.val (a.get 2) Z,some 53,tT⟩,
 ⟨fun a Z=>.enter 164 [(a.get 51),(a.get 52),(a.get 53)] Z,some 54,tT⟩]
def Aqa:List COp:=AiL ()
def AiM(_:Unit):List COp:=[⟨fun a Z=>.val (a.get 2) Z,some 55,tT⟩,
 ⟨fun a Z=>i_sub Tryz.prog 3 (.tmp 55) (.const (.int .i64 1)) (a.get 55) (.int .i64 1) Z,some 56,tT⟩,
 ⟨fun a Z=>.val (a.get 11) Z,some 57,tT⟩,
 ⟨fun a Z=>.val (a.get 1) Z,some 58,tT⟩,
 ⟨fun a Z=>i_sub Tryz.prog 3 (.tmp 57) (.tmp 58) (a.get 57) (a.get 58) Z,some 59,tT⟩,
 ⟨fun a Z=>i_sub Tryz.prog 3 (.tmp 56) (.tmp 59) (a.get 56) (a.get 59) Z,some 60,tT⟩,
 ⟨fun a Z=>.val (a.get 60) Z,some 11,tT⟩]
def Aqb:List COp:=AiM ()
def AiN(_:Unit):List COp:=[⟨fun a Z=>.val (.int .i64 1) Z,some 12,tT⟩]
def Aqc:List COp:=AiN ()
def AiO(_:Unit):List COp:=[⟨fun a Z=>.val (a.get 8) Z,some 61,tT⟩,
 ⟨fun a Z=>.val (a.get 61) Z,some 62,tT⟩,
 ⟨fun a Z=>.val (a.get 9) Z,some 63,fun a=>gd (a.get 62) true⟩,
 ⟨fun a Z=>bG (a.get 62) (a.get 63) (.bool false) Z,some 64,tT⟩,
 ⟨fun a Z=>.val (a.get 64) Z,some 65,tT⟩,
 ⟨fun a Z=>.val (a.get 12) Z,some 66,fun a=>gd (a.get 65) true⟩,
 ⟨fun a Z=>bJ Tryz.prog 192 (.tmp 66) (.const (.int .i64 1)) (a.get 66) (.int .i64 1) Z,some 67,fun a=>gd (a.get 65) true⟩,
 ⟨fun a Z=>bG (a.get 65) (a.get 67) (.bool false) Z,some 68,tT⟩]
def Aqd:List COp:=AiO ()
def AiP(_:Unit):List COp:=[⟨fun a Z=>.val (a.get 0) Z,some 69,tT⟩,
 ⟨fun a Z=>.val (a.get 1) Z,some 70,tT⟩,
 ⟨fun a Z=>.val (a.get 2) Z,some 71,tT⟩,
 ⟨fun a Z=>.enter 165 [(a.get 69),(a.get 70),(a.get 71)] Z,some 72,tT⟩]
def Aqe:List COp:=AiP ()
def AiQ(_:Unit):List DOp:=[⟨fun a Z=>.val (a.get 1) Z,some 73,tT,some 0,false⟩,
 ⟨fun a Z=>i_gtr Tryz.prog 3 (.tmp 73) (.const (.int .i64 0)) (a.get 73) (.int .i64 0) Z,some 74,tT,some 0,false⟩,
 ⟨fun a Z=>.val (a.get 74) Z,some 75,tT,some 0,false⟩,
 ⟨fun a Z=>.val (a.get 0) Z,some 76,fun a=>gd (a.get 75) true,some 0,false⟩,
 ⟨fun a Z=>.val (a.get 1) Z,some 77,fun a=>gd (a.get 75) true,some 0,false⟩,
 ⟨fun a Z=>i_sub Tryz.prog 3 (.tmp 77) (.const (.int .i64 1)) (a.get 77) (.int .i64 1) Z,some 78,fun a=>gd (a.get 75) true,some 0,false⟩,
 ⟨fun a Z=>bB (none,1) (a.get 76) (a.get 78) Z,some 79,fun a=>gd (a.get 75) true,some 0,false⟩,
 ⟨fun a Z=>aG none (a.get 79) Z,some 80,fun a=>gd (a.get 75) true,some 0,false⟩,
 ⟨fun a Z=>.val (a.get 0) Z,some 81,fun a=>gd (a.get 75) true,some 0,false⟩,
 ⟨fun a Z=>.val (a.get 11) Z,some 82,fun a=>gd (a.get 75) true,some 0,false⟩,
 ⟨fun a Z=>bB (none,1) (a.get 81) (a.get 82) Z,some 83,fun a=>gd (a.get 75) true,some 0,false⟩,
 ⟨fun a Z=>aG none (a.get 83) Z,some 84,fun a=>gd (a.get 75) true,some 0,false⟩,
 ⟨fun a Z=>.enter 166 [(a.get 80),(a.get 84)] Z,some 85,fun a=>gd (a.get 75) true,none,true⟩,
 ⟨fun a Z=>fun1 Tryz.prog (Op.unary .not) (a.get 85) Z,some 86,fun a=>gd (a.get 75) true,some 1,false⟩,
 ⟨fun a Z=>bG (a.get 75) (a.get 86) (.bool false) Z,some 87,tT,some 1,false⟩]
def Aqf:List DOp:=AiQ ()
def AiR(_:Unit):List COp:=[⟨fun a Z=>.val (a.get 0) Z,some 88,tT⟩,
 ⟨fun a Z=>.val (a.get 1) Z,some 89,tT⟩,
 ⟨fun a Z=>.val (a.get 2) Z,some 90,tT⟩,
 ⟨fun a Z=>.val (a.get 11) Z,some 91,tT⟩,
 ⟨fun a Z=>.enter 167 [(a.get 88),(a.get 89),(a.get 90),(a.get 91)] Z,some 92,tT⟩,
 ⟨fun a Z=>.val (a.get 92) Z,some 13,tT⟩]
def Aqg:List COp:=AiR ()
def AiS(_:Unit):List COp:=[⟨fun a Z=>.val (a.get 13) Z,some 93,tT⟩,
 ⟨fun a Z=>.val (a.get 93) Z,some 1,tT⟩]
def Aqh:List COp:=AiS ()
def AiU(_:Unit):List COp:=[⟨fun a Z=>.val (a.get 0) Z,some 95,tT⟩,
 ⟨fun a Z=>.val (a.get 1) Z,some 96,tT⟩,
 ⟨fun a Z=>.val (a.get 2) Z,some 97,tT⟩,
 ⟨fun a Z=>.val (a.get 11) Z,some 98,tT⟩,
 ⟨fun a Z=>.enter 168 [(a.get 95),(a.get 96),(a.get 97),(a.get 98)] Z,some 99,tT⟩,
 ⟨fun a Z=>.val (a.get 99) Z,some 94,tT⟩,
 ⟨fun a Z=>aJ 0 (a.get 94) Z,some 100,tT⟩,
 ⟨fun a Z=>aJ 1 (a.get 94) Z,some 101,tT⟩,
 ⟨fun a Z=>.val (a.get 100) Z,some 14,tT⟩,
 ⟨fun a Z=>.val (a.get 101) Z,some 15,tT⟩]
def Aqi:List COp:=AiU ()
def AiV(_:Unit):List COp:=[⟨fun a Z=>.val (a.get 15) Z,some 102,tT⟩,
 ⟨fun a Z=>.val (a.get 102) Z,some 9,tT⟩]
def Aqj:List COp:=AiV ()
def AiW(_:Unit):List COp:=[⟨fun a Z=>.val (a.get 14) Z,some 103,tT⟩,
 ⟨fun a Z=>.val (a.get 1) Z,some 104,tT⟩,
 ⟨fun a Z=>i_sub Tryz.prog 3 (.tmp 103) (.tmp 104) (a.get 103) (a.get 104) Z,some 105,tT⟩,
 ⟨fun a Z=>.val (a.get 2) Z,some 106,tT⟩,
 ⟨fun a Z=>.val (a.get 14) Z,some 107,tT⟩,
 ⟨fun a Z=>i_sub Tryz.prog 3 (.tmp 106) (.tmp 107) (a.get 106) (a.get 107) Z,some 108,tT⟩,
 ⟨fun a Z=>.val (a.get 105) Z,some 16,tT⟩,
 ⟨fun a Z=>.val (a.get 108) Z,some 17,tT⟩]
def Aqk:List COp:=AiW ()
def AiX(_:Unit):List COp:=[⟨fun a Z=>.val (a.get 10) Z,some 109,tT⟩,
 ⟨fun a Z=>fbin0 Tryz.prog .quo 3 (.tmp 109) (.const (.int .i64 8)) (a.get 109) (.int .i64 8) Z,some 110,tT⟩,
 ⟨fun a Z=>.val (a.get 110) Z,some 18,tT⟩]
def Aql:List COp:=AiX ()
def AiY(_:Unit):List COp:=[⟨fun a Z=>.val (a.get 16) Z,some 111,tT⟩,
 ⟨fun a Z=>.val (a.get 17) Z,some 112,tT⟩,
 ⟨fun a Z=>i_lss Tryz.prog 3 (.tmp 111) (.tmp 112) (a.get 111) (a.get 112) Z,some 113,tT⟩]
def Aqm:List COp:=AiY ()
def AiZ(_:Unit):List COp:=[⟨fun a Z=>.val (a.get 16) Z,some 114,tT⟩,
 ⟨fun a Z=>.val (a.get 18) Z,some 115,tT⟩,
 ⟨fun a Z=>i_geq Tryz.prog 3 (.tmp 114) (.tmp 115) (a.get 114) (a.get 115) Z,some 116,tT⟩,
 ⟨fun a Z=>.val (a.get 116) Z,some 8,tT⟩]
def Aqn:List COp:=AiZ ()
def Ai0(_:Unit):List COp:=[⟨fun a Z=>.val (a.get 0) Z,some 117,tT⟩,
 ⟨fun a Z=>.val (a.get 1) Z,some 118,tT⟩,
 ⟨fun a Z=>.val (a.get 14) Z,some 119,tT⟩,
 ⟨fun a Z=>.val (a.get 3) Z,some 120,tT⟩,
 ⟨fun a Z=>.enter 143 [(a.get 117),(a.get 118),(a.get 119),(a.get 120)] Z,some 121,tT⟩]
def Aqo:List COp:=Ai0 ()
def Ai1(_:Unit):List COp:=[⟨fun a Z=>.val (a.get 14) Z,some 122,tT⟩,
 ⟨fun a Z=>i_add Tryz.prog 3 (.tmp 122) (.const (.int .i64 1)) (a.get 122) (.int .i64 1) Z,some 123,tT⟩,
 ⟨fun a Z=>.val (a.get 123) Z,some 1,tT⟩]
def Aqp:List COp:=Ai1 ()
def Ai2(_:Unit):List COp:=[⟨fun a Z=>.val (a.get 17) Z,some 124,tT⟩,
 ⟨fun a Z=>.val (a.get 18) Z,some 125,tT⟩,
 ⟨fun a Z=>i_geq Tryz.prog 3 (.tmp 124) (.tmp 125) (a.get 124) (a.get 125) Z,some 126,tT⟩,
 ⟨fun a Z=>.val (a.get 126) Z,some 8,tT⟩]
def Aqq:List COp:=Ai2 ()
def Ai3(_:Unit):List COp:=[⟨fun a Z=>.val (a.get 0) Z,some 127,tT⟩,
 ⟨fun a Z=>.val (a.get 14) Z,some 128,tT⟩,
 ⟨fun a Z=>i_add Tryz.prog 3 (.tmp 128) (.const (.int .i64 1)) (a.get 128) (.int .i64 1) Z,some 129,tT⟩,
 ⟨fun a Z=>.val (a.get 2) Z,some 130,tT⟩,
 ⟨fun a Z=>.val (a.get 3) Z,some 131,tT⟩,
 ⟨fun a Z=>.enter 143 [(a.get 127),(a.get 129),(a.get 130),(a.get 131)] Z,some 132,tT⟩]
def Aqr:List COp:=Ai3 ()
def Ai5(_:Unit):List COp:=[⟨fun a Z=>.val (a.get 14) Z,some 133,tT⟩,
 ⟨fun a Z=>.val (a.get 133) Z,some 2,tT⟩]
def Aqs:List COp:=Ai5 ()
def Aga(E:Env)(ro:Option Nat)(fn:FuncId):aZ:=(aR 1 (aF (aD E ro AiT) (aF (aF (aD E ro Ai4) (aL (fun a=>(a.get 23)) (aF (aD E ro Ai6) bO) aQ)) (aF (aF (aD E ro Awp) (aL (fun a=>(a.get 29)) (aF (aD E ro Awq) bO) aQ)) (aF (aF (aD E ro Awr) (aL (fun a=>(a.get 35)) (aF (aD E ro Aws) (aD E ro Awt)) aQ)) (aF (aD E ro Ap8) (aF (aF (aD E ro Ap9) (aL (fun a=>(a.get 50)) (aF (aD E ro Aqa) (aF (aD E ro Aqb) (aD E ro Aqc))) aQ)) (aF (aF (aD E ro Aqd) (aL (fun a=>(a.get 68)) (aF (aD E ro Aqe) (aL (fun a=>(a.get 72)) bO aQ)) aQ)) (aF (aF (drawR E ro Aqf) (aL (fun a=>(a.get 87)) (aF (aD E ro Aqg) (aF (aD E ro Aqh) (exitR 1))) aQ)) (aF (aD E ro Aqi) (aF (aD E ro Aqj) (aF (aD E ro Aqk) (aF (aD E ro Aql) (aF (aD E ro Aqm) (aL (fun a=>(a.get 113)) (aF (aD E ro Aqn) (aF (aD E ro Aqo) (aD E ro Aqp))) (aF (aD E ro Aqq) (aF (aD E ro Aqr) (aD E ro Aqs))))))))))))))))))
def AaA(E:Env)(ro:Option Nat)(fn:FuncId):aZ:=(aF (aD E ro AiH) (aF (aD E ro AiI) (aR 0 (loopR (bH nls fn) (Aga E ro fn)))))
theorem Aed:aD E ro AiH a u Z=aD E ro (RC ()) a u Z:=rfl
theorem Aee:aD E ro AiI a u Z=aD E ro (RD ()) a u Z:=rfl
theorem Aef:aD E ro AiT a u Z=aD E ro (RE ()) a u Z:=rfl
theorem Aeg:aD E ro Ai4 a u Z=aD E ro (RF ()) a u Z:=rfl
theorem Aeh:aD E ro Ai6 a u Z=aD E ro (RG ()) a u Z:=rfl
theorem AoG(E:Env)(ro:Option Nat)(fn:FuncId):code Tryz.prog nls (Tryz.f143.body.getD .skip) E ro fn=AaA E ro fn:=by kernel_rfl
theorem AfN(E:Env)(args:List Value)(u:Option FrameMode)(Z:aC)(hn:args.length<=(19:Nat)):bA Tryz.prog nls E 143 args u Z=aN Tryz.prog E [] (AaA E none 143 ⟨aY undef 19 args,fun _=>undef,19,134,[]⟩ u Z):=by
 rw[Am (body:=Tryz.f143.body.getD .skip) Tryz.func143 rfl E args u Z 19 134 (by kernel_rfl) rfl ⟨hn,by decide⟩,AoG]
 rfl
def RW(_:Unit):List COp:=[⟨fun a Z=>.val (a.get 1) Z,some 8,tT⟩,
 ⟨fun a Z=>i_add Tryz.prog 3 (.tmp 8) (.const (.int .i64 1)) (a.get 8) (.int .i64 1) Z,some 9,tT⟩,
 ⟨fun a Z=>.val (a.get 9) Z,some 6,tT⟩]
def AjS:List COp:=RW ()
def RY(_:Unit):List COp:=[⟨fun a Z=>.val (a.get 6) Z,some 10,tT⟩,
 ⟨fun a Z=>.val (a.get 2) Z,some 11,tT⟩,
 ⟨fun a Z=>i_lss Tryz.prog 3 (.tmp 10) (.tmp 11) (a.get 10) (a.get 11) Z,some 12,tT⟩]
def AjT:List COp:=RY ()
def AqB(_:Unit):List COp:=[⟨fun a Z=>.val (a.get 6) Z,some 15,tT⟩,
 ⟨fun a Z=>.val (a.get 15) Z,some 7,tT⟩]
def Awx:List COp:=AqB ()
def AqC(_:Unit):List DOp:=[⟨fun a Z=>.val (a.get 7) Z,some 16,tT,some 0,false⟩,
 ⟨fun a Z=>.val (a.get 1) Z,some 17,tT,some 0,false⟩,
 ⟨fun a Z=>i_gtr Tryz.prog 3 (.tmp 16) (.tmp 17) (a.get 16) (a.get 17) Z,some 18,tT,some 0,false⟩,
 ⟨fun a Z=>.val (a.get 18) Z,some 19,tT,some 0,false⟩,
 ⟨fun a Z=>.val (a.get 0) Z,some 20,fun a=>gd (a.get 19) true,some 0,false⟩,
 ⟨fun a Z=>.val (a.get 7) Z,some 21,fun a=>gd (a.get 19) true,some 0,false⟩,
 ⟨fun a Z=>bB (none,1) (a.get 20) (a.get 21) Z,some 22,fun a=>gd (a.get 19) true,some 0,false⟩,
 ⟨fun a Z=>aG none (a.get 22) Z,some 23,fun a=>gd (a.get 19) true,some 0,false⟩,
 ⟨fun a Z=>.val (a.get 0) Z,some 24,fun a=>gd (a.get 19) true,some 0,false⟩,
 ⟨fun a Z=>.val (a.get 7) Z,some 25,fun a=>gd (a.get 19) true,some 0,false⟩,
 ⟨fun a Z=>i_sub Tryz.prog 3 (.tmp 25) (.const (.int .i64 1)) (a.get 25) (.int .i64 1) Z,some 26,fun a=>gd (a.get 19) true,some 0,false⟩,
 ⟨fun a Z=>bB (none,1) (a.get 24) (a.get 26) Z,some 27,fun a=>gd (a.get 19) true,some 0,false⟩,
 ⟨fun a Z=>aG none (a.get 27) Z,some 28,fun a=>gd (a.get 19) true,some 0,false⟩,
 ⟨fun a Z=>.enter 166 [(a.get 23),(a.get 28)] Z,some 29,fun a=>gd (a.get 19) true,none,true⟩,
 ⟨fun a Z=>bG (a.get 19) (a.get 29) (.bool false) Z,some 30,tT,some 1,false⟩]
def Awy:List DOp:=AqC ()
def AqE(_:Unit):List DOp:=[⟨fun a Z=>.val (a.get 0) Z,some 33,tT,some 0,false⟩,
 ⟨fun a Z=>.val (a.get 7) Z,some 34,tT,some 0,false⟩,
 ⟨fun a Z=>.val (a.get 0) Z,some 38,tT,some 0,false⟩,
 ⟨fun a Z=>.val (a.get 7) Z,some 39,tT,some 0,false⟩,
 ⟨fun a Z=>i_sub Tryz.prog 3 (.tmp 39) (.const (.int .i64 1)) (a.get 39) (.int .i64 1) Z,some 40,tT,some 0,false⟩,
 ⟨fun a Z=>bB (none,1) (a.get 38) (a.get 40) Z,some 41,tT,some 0,false⟩,
 ⟨fun a Z=>aG none (a.get 41) Z,some 42,tT,some 0,false⟩,
 ⟨fun a Z=>.val (a.get 0) Z,some 43,tT,some 0,false⟩,
 ⟨fun a Z=>.val (a.get 7) Z,some 44,tT,some 0,false⟩,
 ⟨fun a Z=>bB (none,1) (a.get 43) (a.get 44) Z,some 45,tT,some 0,false⟩,
 ⟨fun a Z=>aG none (a.get 45) Z,some 46,tT,some 0,false⟩,
 ⟨fun a Z=>bB (none,1) (a.get 33) (a.get 34) Z,some 47,tT,some 0,false⟩,
 ⟨fun a Z=>aK 1 (a.get 47) (a.get 42) Z,none,tT,none,false⟩,
 ⟨fun a Z=>.val (a.get 0) Z,some 35,tT,some 0,false⟩,
 ⟨fun a Z=>.val (a.get 7) Z,some 36,tT,some 0,false⟩,
 ⟨fun a Z=>i_sub Tryz.prog 3 (.tmp 36) (.const (.int .i64 1)) (a.get 36) (.int .i64 1) Z,some 37,tT,some 0,false⟩,
 ⟨fun a Z=>bB (none,1) (a.get 35) (a.get 37) Z,some 48,tT,some 1,false⟩,
 ⟨fun a Z=>aK 1 (a.get 48) (a.get 46) Z,none,tT,none,true⟩]
def AwA:List DOp:=AqE ()
def AqD(_:Unit):List COp:=[⟨fun a Z=>.val (a.get 7) Z,some 31,tT⟩,
 ⟨fun a Z=>i_sub Tryz.prog 3 (.tmp 31) (.const (.int .i64 1)) (a.get 31) (.int .i64 1) Z,some 32,tT⟩,
 ⟨fun a Z=>.val (a.get 32) Z,some 7,tT⟩]
def Awz:List COp:=AqD ()
def AvZ(E:Env)(ro:Option Nat)(fn:FuncId):aZ:=(aF (aF (drawR E ro Awy) (aL (fun a=>(a.get 30)) aQ (exitR 2))) (aF (aR 3 (drawR E ro AwA)) (aD E ro Awz)))
def AqA(_:Unit):List COp:=[⟨fun a Z=>.val (a.get 6) Z,some 13,tT⟩,
 ⟨fun a Z=>i_add Tryz.prog 3 (.tmp 13) (.const (.int .i64 1)) (a.get 13) (.int .i64 1) Z,some 14,tT⟩,
 ⟨fun a Z=>.val (a.get 14) Z,some 6,tT⟩]
def Aww:List COp:=AqA ()
def Agb(E:Env)(ro:Option Nat)(fn:FuncId):aZ:=(aF (aF (aD E ro AjT) (aL (fun a=>(a.get 12)) aQ (exitR 0))) (aF (aR 1 (aF (aD E ro Awx) (aR 2 (loopR (bH nls fn) (AvZ E ro fn))))) (aD E ro Aww)))
def AaE(E:Env)(ro:Option Nat)(fn:FuncId):aZ:=(aF (aD E ro AjS) (aR 0 (loopR (bH nls fn) (Agb E ro fn))))
theorem Aes:aD E ro AjS a u Z=aD E ro (RW ()) a u Z:=rfl
theorem Aet:aD E ro AjT a u Z=aD E ro (RY ()) a u Z:=rfl
theorem AoN(E:Env)(ro:Option Nat)(fn:FuncId):code Tryz.prog nls (Tryz.f160.body.getD .skip) E ro fn=AaE E ro fn:=by kernel_rfl
theorem AfR(E:Env)(args:List Value)(u:Option FrameMode)(Z:aC)(hn:args.length<=(8:Nat)):bA Tryz.prog nls E 160 args u Z=aN Tryz.prog E [] (AaE E none 160 ⟨aY undef 8 args,fun _=>undef,8,49,[]⟩ u Z):=by
 rw[Am (body:=Tryz.f160.body.getD .skip) Tryz.func160 rfl E args u Z 8 49 (by kernel_rfl) rfl ⟨hn,by decide⟩,AoN]
 rfl
def QZ(_:Unit):List COp:=[⟨fun a Z=>.val (.slice none 0 0) Z,some 4,tT⟩]
def Ahl:List COp:=QZ ()
def Q0(_:Unit):List COp:=[⟨fun a Z=>.val (.slice none 0 0) Z,some 5,tT⟩]
def Ahm:List COp:=Q0 ()
def Q1(_:Unit):List COp:=[⟨fun a Z=>.val (.int .i64 0) Z,some 6,tT⟩,
 ⟨fun a Z=>.val (.int .i64 0) Z,some 7,tT⟩]
def Ahn:List COp:=Q1 ()
def Fv(_:Unit):List COp:=[⟨fun a Z=>.val (a.get 6) Z,some 8,tT⟩,
 ⟨fun a Z=>.val (a.get 0) Z,some 9,tT⟩,
 ⟨fun a Z=>flenL (a.get 9) Z,some 10,tT⟩,
 ⟨fun a Z=>i_lss Tryz.prog 3 (.tmp 8) (.tmp 10) (a.get 8) (a.get 10) Z,some 11,tT⟩,
 ⟨fun a Z=>.val (a.get 11) Z,some 12,tT⟩,
 ⟨fun a Z=>.val (a.get 7) Z,some 13,fun a=>gd (a.get 12) false⟩,
 ⟨fun a Z=>.val (a.get 1) Z,some 14,fun a=>gd (a.get 12) false⟩,
 ⟨fun a Z=>flenL (a.get 14) Z,some 15,fun a=>gd (a.get 12) false⟩,
 ⟨fun a Z=>i_lss Tryz.prog 3 (.tmp 13) (.tmp 15) (a.get 13) (a.get 15) Z,some 16,fun a=>gd (a.get 12) false⟩,
 ⟨fun a Z=>bG (a.get 12) (.bool true) (a.get 16) Z,some 17,tT⟩]
def Aho:List COp:=Fv ()
def GY(_:Unit):List DOp:=[⟨fun a Z=>.val (a.get 7) Z,some 18,tT,some 0,false⟩,
 ⟨fun a Z=>.val (a.get 1) Z,some 19,tT,some 0,false⟩,
 ⟨fun a Z=>flenL (a.get 19) Z,some 20,tT,some 0,false⟩,
 ⟨fun a Z=>i_geq Tryz.prog 3 (.tmp 18) (.tmp 20) (a.get 18) (a.get 20) Z,some 21,tT,some 0,false⟩,
 ⟨fun a Z=>.val (a.get 21) Z,some 22,tT,some 0,false⟩,
 ⟨fun a Z=>.val (a.get 6) Z,some 23,fun a=>gd (a.get 22) false,some 0,false⟩,
 ⟨fun a Z=>.val (a.get 0) Z,some 24,fun a=>gd (a.get 22) false,some 0,false⟩,
 ⟨fun a Z=>flenL (a.get 24) Z,some 25,fun a=>gd (a.get 22) false,some 0,false⟩,
 ⟨fun a Z=>i_lss Tryz.prog 3 (.tmp 23) (.tmp 25) (a.get 23) (a.get 25) Z,some 26,fun a=>gd (a.get 22) false,some 0,false⟩,
 ⟨fun a Z=>.val (a.get 26) Z,some 27,fun a=>gd (a.get 22) false,some 0,false⟩,
 ⟨fun a Z=>.val (a.get 0) Z,some 28,fun a=>gd (a.get 27) true,some 0,false⟩,
 ⟨fun a Z=>.val (a.get 6) Z,some 29,fun a=>gd (a.get 27) true,some 0,false⟩,
 ⟨fun a Z=>bB (none,1) (a.get 28) (a.get 29) Z,some 30,fun a=>gd (a.get 27) true,some 0,false⟩,
 ⟨fun a Z=>aG none (a.get 30) Z,some 31,fun a=>gd (a.get 27) true,some 0,false⟩,
 ⟨fun a Z=>.val (a.get 1) Z,some 32,fun a=>gd (a.get 27) true,some 0,false⟩,
 ⟨fun a Z=>.val (a.get 7) Z,some 33,fun a=>gd (a.get 27) true,some 0,false⟩,
 ⟨fun a Z=>bB (none,1) (a.get 32) (a.get 33) Z,some 34,fun a=>gd (a.get 27) true,some 0,false⟩,
 ⟨fun a Z=>aG none (a.get 34) Z,some 35,fun a=>gd (a.get 27) true,some 0,false⟩,
 ⟨fun a Z=>i_lss Tryz.prog 9 (.tmp 31) (.tmp 35) (a.get 31) (a.get 35) Z,some 36,fun a=>gd (a.get 27) true,some 0,false⟩,
 ⟨fun a Z=>bG (a.get 27) (a.get 36) (.bool false) Z,some 37,fun a=>gd (a.get 22) false,some 0,false⟩,
 ⟨fun a Z=>bG (a.get 22) (.bool true) (a.get 37) Z,some 38,tT,some 0,false⟩]
def Ahp:List DOp:=GY ()
def GZ(_:Unit):List COp:=[⟨fun a Z=>.val (a.get 5) Z,some 39,tT⟩,
 ⟨fun a Z=>.val (a.get 0) Z,some 40,tT⟩,
 ⟨fun a Z=>.val (a.get 6) Z,some 41,tT⟩,
 ⟨fun a Z=>bB (none,1) (a.get 40) (a.get 41) Z,some 42,tT⟩,
 ⟨fun a Z=>aG none (a.get 42) Z,some 43,tT⟩,
 ⟨fun a Z=>aX 9 1 1 [(.string ⟨#[]⟩)] [(0,(a.get 43))] Z,some 44,tT⟩,
 ⟨fun a Z=>fappend 9 1 16 (a.get 39) (a.get 44) Z,some 45,tT⟩,
 ⟨fun a Z=>.val (a.get 45) Z,some 5,tT⟩]
def Ahq:List COp:=GZ ()
def G0(_:Unit):List COp:=[⟨fun a Z=>.val (a.get 6) Z,some 46,tT⟩,
 ⟨fun a Z=>i_add Tryz.prog 3 (.tmp 46) (.const (.int .i64 1)) (a.get 46) (.int .i64 1) Z,some 47,tT⟩,
 ⟨fun a Z=>.val (a.get 47) Z,some 6,tT⟩]
def Ahr:List COp:=G0 ()
def H4(_:Unit):List DOp:=[⟨fun a Z=>.val (a.get 6) Z,some 48,tT,some 0,false⟩,
 ⟨fun a Z=>.val (a.get 0) Z,some 49,tT,some 0,false⟩,
 ⟨fun a Z=>flenL (a.get 49) Z,some 50,tT,some 0,false⟩,
 ⟨fun a Z=>i_lss Tryz.prog 3 (.tmp 48) (.tmp 50) (a.get 48) (a.get 50) Z,some 51,tT,some 0,false⟩,
 ⟨fun a Z=>.val (a.get 51) Z,some 52,tT,some 0,false⟩,
 ⟨fun a Z=>.val (a.get 0) Z,some 53,fun a=>gd (a.get 52) true,some 0,false⟩,
 ⟨fun a Z=>.val (a.get 6) Z,some 54,fun a=>gd (a.get 52) true,some 0,false⟩,
 ⟨fun a Z=>bB (none,1) (a.get 53) (a.get 54) Z,some 55,fun a=>gd (a.get 52) true,some 0,false⟩,
 ⟨fun a Z=>aG none (a.get 55) Z,some 56,fun a=>gd (a.get 52) true,some 0,false⟩,
 ⟨fun a Z=>.val (a.get 1) Z,some 57,fun a=>gd (a.get 52) true,some 0,false⟩,
 ⟨fun a Z=>.val (a.get 7) Z,some 58,fun a=>gd (a.get 52) true,some 0,false⟩,
 ⟨fun a Z=>bB (none,1) (a.get 57) (a.get 58) Z,some 59,fun a=>gd (a.get 52) true,some 0,false⟩,
 ⟨fun a Z=>aG none (a.get 59) Z,some 60,fun a=>gd (a.get 52) true,some 0,false⟩,
 ⟨fun a Z=>bJ Tryz.prog 9 (.tmp 56) (.tmp 60) (a.get 56) (a.get 60) Z,some 61,fun a=>gd (a.get 52) true,some 0,false⟩,
 ⟨fun a Z=>bG (a.get 52) (a.get 61) (.bool false) Z,some 62,tT,some 0,false⟩]
def Ahs:List DOp:=H4 ()
def H6(_:Unit):List COp:=[⟨fun a Z=>.val (a.get 6) Z,some 63,tT⟩,
 ⟨fun a Z=>i_add Tryz.prog 3 (.tmp 63) (.const (.int .i64 1)) (a.get 63) (.int .i64 1) Z,some 64,tT⟩,
 ⟨fun a Z=>.val (a.get 64) Z,some 6,tT⟩]
def Aht:List COp:=H6 ()
def H8(_:Unit):List COp:=[⟨fun a Z=>.val (a.get 5) Z,some 65,tT⟩,
 ⟨fun a Z=>.val (a.get 1) Z,some 66,tT⟩,
 ⟨fun a Z=>.val (a.get 7) Z,some 67,tT⟩,
 ⟨fun a Z=>bB (none,1) (a.get 66) (a.get 67) Z,some 68,tT⟩,
 ⟨fun a Z=>aG none (a.get 68) Z,some 69,tT⟩,
 ⟨fun a Z=>aX 9 1 1 [(.string ⟨#[]⟩)] [(0,(a.get 69))] Z,some 70,tT⟩,
 ⟨fun a Z=>fappend 9 1 16 (a.get 65) (a.get 70) Z,some 71,tT⟩,
 ⟨fun a Z=>.val (a.get 71) Z,some 5,tT⟩]
def Ahu:List COp:=H8 ()
def Gq(_:Unit):List COp:=[⟨fun a Z=>.val (a.get 7) Z,some 72,tT⟩,
 ⟨fun a Z=>i_add Tryz.prog 3 (.tmp 72) (.const (.int .i64 1)) (a.get 72) (.int .i64 1) Z,some 73,tT⟩,
 ⟨fun a Z=>.val (a.get 73) Z,some 7,tT⟩]
def Abz:List COp:=Gq ()
def GR(E:Env)(ro:Option Nat)(fn:FuncId):aZ:=(aF (aF (aD E ro Aho) (aL (fun a=>(a.get 17)) aQ (exitR 0))) (aR 1 (aF (aF (drawR E ro Ahp) (aL (fun a=>(a.get 38)) (aF (aD E ro Ahq) (aF (aD E ro Ahr) (exitR 1))) aQ)) (aF (aF (drawR E ro Ahs) (aL (fun a=>(a.get 62)) (aD E ro Aht) aQ)) (aF (aD E ro Ahu) (aD E ro Abz))))))
def Nf(_:Unit):List COp:=[⟨fun a Z=>.val (a.get 5) Z,some 74,tT⟩,
 ⟨fun a Z=>.val (a.get 74) Z,some 4,tT⟩]
def AbA:List COp:=Nf ()
def Aau(E:Env)(ro:Option Nat)(fn:FuncId):aZ:=(aF (aD E ro Ahl) (aF (aD E ro Ahm) (aF (aD E ro Ahn) (aF (aR 0 (loopR (bH nls fn) (GR E ro fn))) (aF (aD E ro AbA) bO)))))
theorem AdH:aD E ro Ahl a u Z=aD E ro (QZ ()) a u Z:=rfl
theorem AdI:aD E ro Ahm a u Z=aD E ro (Q0 ()) a u Z:=rfl
theorem AdJ:aD E ro Ahn a u Z=aD E ro (Q1 ()) a u Z:=rfl
theorem E6:aD E ro Aho a u Z=aD E ro (Fv ()) a u Z:=rfl
theorem Gr:bM E ro last Ahp cl a u Z=bM E ro last (GY ()) cl a u Z:=rfl
theorem Gs:aD E ro Ahq a u Z=aD E ro (GZ ()) a u Z:=rfl
theorem Gt:aD E ro Ahr a u Z=aD E ro (G0 ()) a u Z:=rfl
theorem H5:bM E ro last Ahs cl a u Z=bM E ro last (H4 ()) cl a u Z:=rfl
theorem H7:aD E ro Aht a u Z=aD E ro (H6 ()) a u Z:=rfl
theorem H9:aD E ro Ahu a u Z=aD E ro (H8 ()) a u Z:=rfl
theorem GX:aD E ro Abz a u Z=aD E ro (Gq ()) a u Z:=rfl
theorem Yo:aD E ro AbA a u Z=aD E ro (Nf ()) a u Z:=rfl
theorem Aot(E:Env)(ro:Option Nat)(fn:FuncId):code Tryz.prog nls (Tryz.f118.body.getD .skip) E ro fn=Aau E ro fn:=by kernel_rfl
theorem AfH(E:Env)(args:List Value)(u:Option FrameMode)(Z:aC)(hn:args.length<=(8:Nat)):bA Tryz.prog nls E 118 args u Z=aN Tryz.prog E [.tmp 4] (Aau E none 118 ⟨aY undef 8 args,fun _=>undef,8,75,[]⟩ u Z):=by
 rw[Am (body:=Tryz.f118.body.getD .skip) Tryz.func118 rfl E args u Z 8 75 (by kernel_rfl) rfl ⟨hn,by decide⟩,Aot]
 rfl
def YA(_:Unit):List COp:=[⟨fun a Z=>.val (.bool false) Z,some 4,tT⟩]
def Ash:List COp:=YA ()
def YB(_:Unit):List COp:=[⟨fun a Z=>.val (a.get 0) Z,some 6,tT⟩,
 ⟨fun a Z=>flenL (a.get 6) Z,some 7,tT⟩,
 ⟨fun a Z=>.val (a.get 1) Z,some 8,tT⟩,
 ⟨fun a Z=>flenL (a.get 8) Z,some 9,tT⟩,
 ⟨fun a Z=>i_neq Tryz.prog 3 (.tmp 7) (.tmp 9) (a.get 7) (a.get 9) Z,some 10,tT⟩]
def Asi:List COp:=YB ()
def AwB(_:Unit):List COp:=[⟨fun a Z=>.val (.bool false) Z,some 4,tT⟩]
def AxA:List COp:=AwB ()
def YC(_:Unit):List COp:=[⟨fun a Z=>.val (.int .i64 0) Z,some 5,tT⟩]
def Asj:List COp:=YC ()
def R_(_:Unit):List COp:=[⟨fun a Z=>.val (a.get 5) Z,some 11,tT⟩,
 ⟨fun a Z=>.val (a.get 0) Z,some 12,tT⟩,
 ⟨fun a Z=>flenL (a.get 12) Z,some 13,tT⟩,
 ⟨fun a Z=>i_lss Tryz.prog 3 (.tmp 11) (.tmp 13) (a.get 11) (a.get 13) Z,some 14,tT⟩]
def Asl:List COp:=R_ ()
def YE(_:Unit):List DOp:=[⟨fun a Z=>.val (a.get 0) Z,some 17,tT,some 0,false⟩,
 ⟨fun a Z=>.val (a.get 5) Z,some 18,tT,some 0,false⟩,
 ⟨fun a Z=>bB (none,1) (a.get 17) (a.get 18) Z,some 19,tT,some 0,false⟩,
 ⟨fun a Z=>aG none (a.get 19) Z,some 20,tT,some 0,false⟩,
 ⟨fun a Z=>.val (a.get 1) Z,some 21,tT,some 0,false⟩,
 ⟨fun a Z=>.val (a.get 5) Z,some 22,tT,some 0,false⟩,
 ⟨fun a Z=>bB (none,1) (a.get 21) (a.get 22) Z,some 23,tT,some 0,false⟩,
 ⟨fun a Z=>aG none (a.get 23) Z,some 24,tT,some 0,false⟩,
 ⟨fun a Z=>i_neq Tryz.prog 9 (.tmp 20) (.tmp 24) (a.get 20) (a.get 24) Z,some 25,tT,some 0,false⟩]
def Asn:List DOp:=YE ()
def AwC(_:Unit):List COp:=[⟨fun a Z=>.val (.bool false) Z,some 4,tT⟩]
def AxB:List COp:=AwC ()
def YD(_:Unit):List COp:=[⟨fun a Z=>.val (a.get 5) Z,some 15,tT⟩,
 ⟨fun a Z=>i_add Tryz.prog 3 (.tmp 15) (.const (.int .i64 1)) (a.get 15) (.int .i64 1) Z,some 16,tT⟩,
 ⟨fun a Z=>.val (a.get 16) Z,some 5,tT⟩]
def Asm:List COp:=YD ()
def Abk(E:Env)(ro:Option Nat)(fn:FuncId):aZ:=(aF (aF (aD E ro Asl) (aL (fun a=>(a.get 14)) aQ (exitR 0))) (aF (aR 1 (aF (drawR E ro Asn) (aL (fun a=>(a.get 25)) (aF (aD E ro AxB) bO) aQ))) (aD E ro Asm)))
def YF(_:Unit):List COp:=[⟨fun a Z=>.val (.bool true) Z,some 4,tT⟩]
def Aso:List COp:=YF ()
def Ani(E:Env)(ro:Option Nat)(fn:FuncId):aZ:=(aF (aD E ro Ash) (aF (aF (aD E ro Asi) (aL (fun a=>(a.get 10)) (aF (aD E ro AxA) bO) aQ)) (aF (aF (aD E ro Asj) (aR 0 (loopR (bH nls fn) (Abk E ro fn)))) (aF (aD E ro Aso) bO))))
theorem Aj6:aD E ro Ash a u Z=aD E ro (YA ()) a u Z:=rfl
theorem Aj7:aD E ro Asi a u Z=aD E ro (YB ()) a u Z:=rfl
theorem Aj8:aD E ro Asj a u Z=aD E ro (YC ()) a u Z:=rfl
theorem VQ:aD E ro Asl a u Z=aD E ro (R_ ()) a u Z:=rfl
theorem Aka:bM E ro last Asn cl a u Z=bM E ro last (YE ()) cl a u Z:=rfl
theorem Aj9:aD E ro Asm a u Z=aD E ro (YD ()) a u Z:=rfl
theorem Akb:aD E ro Aso a u Z=aD E ro (YF ()) a u Z:=rfl
theorem Avf(E:Env)(ro:Option Nat)(fn:FuncId):code Tryz.prog nls (Tryz.f17.body.getD .skip) E ro fn=Ani E ro fn:=by kernel_rfl
theorem Ao8(E:Env)(args:List Value)(u:Option FrameMode)(Z:aC)(hn:args.length<=(6:Nat)):bA Tryz.prog nls E 17 args u Z=aN Tryz.prog E [.tmp 4] (Ani E none 17 ⟨aY undef 6 args,fun _=>undef,6,26,[]⟩ u Z):=by
 rw[Am (body:=Tryz.f17.body.getD .skip) Tryz.func17 rfl E args u Z 6 26 (by kernel_rfl) rfl ⟨hn,by decide⟩,Avf]
 rfl
def ST(_:Unit):List COp:=[⟨fun a Z=>.val (.slice none 0 0) Z,some 2,tT⟩,
 ⟨fun a Z=>.val (.int .i64 0) Z,some 3,tT⟩]
def AtM:List COp:=ST ()
def SU(_:Unit):List COp:=[⟨fun a Z=>.val (a.get 0) Z,some 8,tT⟩,
 ⟨fun a Z=>.enter 114 [(a.get 8)] Z,some 9,tT⟩,
 ⟨fun a Z=>.val (a.get 9) Z,some 7,tT⟩,
 ⟨fun a Z=>aJ 0 (a.get 7) Z,some 10,tT⟩,
 ⟨fun a Z=>aJ 1 (a.get 7) Z,some 11,tT⟩,
 ⟨fun a Z=>aJ 2 (a.get 7) Z,some 12,tT⟩,
 ⟨fun a Z=>.val (a.get 10) Z,some 4,tT⟩,
 ⟨fun a Z=>.val (a.get 11) Z,some 5,tT⟩,
 ⟨fun a Z=>.val (a.get 12) Z,some 6,tT⟩]
def AtN:List COp:=SU ()
def SV(_:Unit):List COp:=[⟨fun a Z=>.val (a.get 4) Z,some 13,tT⟩,
 ⟨fun a Z=>.val (a.get 6) Z,some 14,tT⟩,
 ⟨fun a Z=>.val (a.get 13) Z,some 2,tT⟩,
 ⟨fun a Z=>.val (a.get 14) Z,some 3,tT⟩]
def AtO:List COp:=SV ()
def Acm(E:Env)(ro:Option Nat)(fn:FuncId):aZ:=(aF (aD E ro AtM) (aF (aD E ro AtN) (aF (aD E ro AtO) bO)))
theorem Wj:aD E ro AtM a u Z=aD E ro (ST ()) a u Z:=rfl
theorem Wk:aD E ro AtN a u Z=aD E ro (SU ()) a u Z:=rfl
theorem Wl:aD E ro AtO a u Z=aD E ro (SV ()) a u Z:=rfl
theorem Avz(E:Env)(ro:Option Nat)(fn:FuncId):code Tryz.prog nls (Tryz.f67.body.getD .skip) E ro fn=Acm E ro fn:=by kernel_rfl
theorem Abc(E:Env)(args:List Value)(u:Option FrameMode)(Z:aC)(hn:args.length<=(7:Nat)):bA Tryz.prog nls E 67 args u Z=aN Tryz.prog E [.tmp 2,.tmp 3] (Acm E none 67 ⟨aY undef 7 args,fun _=>undef,7,15,[]⟩ u Z):=by
 rw[Am (body:=Tryz.f67.body.getD .skip) Tryz.func67 rfl E args u Z 7 15 (by kernel_rfl) rfl ⟨hn,by decide⟩,Avz]
 rfl
def LK(_:Unit):List COp:=[⟨fun a Z=>.val (.slice none 0 0) Z,some 2,tT⟩,
 ⟨fun a Z=>aP [(.int .i64 0)] 3 none Z,some 3,tT⟩,
 ⟨fun a Z=>aP [(.int .i64 0)] 32 none Z,some 4,tT⟩]
def Ag0:List COp:=LK ()
def LL(_:Unit):List COp:=[⟨fun a Z=>.val (.func (.func 142) #[] #[(a.get 3),(a.get 4)]) Z,some 5,tT⟩,
 ⟨fun a Z=>fdefer (a.get 5) [] Z,none,tT⟩]
def Ag1:List COp:=LL ()
def LM(_:Unit):List COp:=[⟨fun a Z=>.val (a.get 0) Z,some 6,tT⟩,
 ⟨fun a Z=>fcallV (a.get 6) [] Z,some 7,tT⟩,
 ⟨fun a Z=>.val (a.get 7) Z,some 2,tT⟩,
 ⟨fun a Z=>aK 1 (a.get 3) (.int .i64 0) Z,none,tT⟩,
 ⟨fun a Z=>aK 1 (a.get 4) (.int .i64 0) Z,none,tT⟩]
def Ag2:List COp:=LM ()
def Tz(E:Env)(ro:Option Nat)(fn:FuncId):aZ:=(aF (aD E ro Ag0) (aF (aD E ro Ag1) (aF (aD E ro Ag2) bO)))
theorem Pd:aD E ro Ag0 a u Z=aD E ro (LK ()) a u Z:=rfl
theorem Pe:aD E ro Ag1 a u Z=aD E ro (LL ()) a u Z:=rfl
theorem Pf:aD E ro Ag2 a u Z=aD E ro (LM ()) a u Z:=rfl
theorem Aop(E:Env)(ro:Option Nat)(fn:FuncId):code Tryz.prog nls (Tryz.f114.body.getD .skip) E ro fn=Tz E ro fn:=by kernel_rfl
theorem UC(E:Env)(args:List Value)(u:Option FrameMode)(Z:aC)(hn:args.length<=(5:Nat)):bA Tryz.prog nls E 114 args u Z=aN Tryz.prog E [.tmp 2,.cell 3 3,.cell 4 32] (Tz E none 114 ⟨aY undef 5 args,fun _=>undef,5,8,[]⟩ u Z):=by
 rw[Am (body:=Tryz.f114.body.getD .skip) Tryz.func114 rfl E args u Z 5 8 (by kernel_rfl) rfl ⟨hn,by decide⟩,Aop]
 rfl
def L7(_:Unit):List COp:=[⟨fun a Z=>.recover Z,some 6,tT⟩]
def AiA:List COp:=L7 ()
def L8(_:Unit):List COp:=[⟨fun a Z=>bJ Tryz.prog 20 (.tmp 6) (.const .nilIface) (a.get 6) .nilIface Z,some 7,tT⟩]
def AiB:List COp:=L8 ()
def Rx(_:Unit):List COp:=[⟨fun a Z=>.val (a.get 6) Z,some 2,tT⟩]
def AiC:List COp:=Rx ()
def Ry(_:Unit):List COp:=[⟨fun a Z=>fassert Tryz.prog (a.get 6) 169 true Z,some 8,tT⟩,
 ⟨fun a Z=>aJ 1 (a.get 8) Z,some 9,tT⟩,
 ⟨fun a Z=>aJ 0 (a.get 8) Z,some 10,tT⟩]
def AiD:List COp:=Ry ()
def Rz(_:Unit):List COp:=[⟨fun a Z=>.val (a.get 10) Z,some 3,tT⟩]
def AiE:List COp:=Rz ()
def RA(_:Unit):List COp:=[⟨fun a Z=>.val (a.get 3) Z,some 11,tT⟩,
 ⟨fun a Z=>.enter 136 [(a.get 11)] Z,some 12,tT⟩,
 ⟨fun a Z=>aP [(.int .i64 0),(.int .i64 0)] 171 none Z,some 4,tT⟩,
 ⟨fun a Z=>aK 2 (a.get 4) (a.get 12) Z,none,tT⟩]
def AiF:List COp:=RA ()
def RB(_:Unit):List DOp:=[⟨fun a Z=>aH 1 (a.get 4) Z,some 13,tT,some 0,false⟩,
 ⟨fun a Z=>aG none (a.get 13) Z,some 14,tT,some 0,false⟩,
 ⟨fun a Z=>aK 1 (a.get 0) (a.get 14) Z,none,tT,none,false⟩,
 ⟨fun a Z=>aH 0 (a.get 4) Z,some 15,tT,some 0,false⟩,
 ⟨fun a Z=>aG none (a.get 15) Z,some 16,tT,some 0,false⟩,
 ⟨fun a Z=>aK 1 (a.get 1) (a.get 16) Z,none,tT,none,true⟩]
def AiG:List DOp:=RB ()
def Ap6(_:Unit):List COp:=[⟨fun a Z=>.val (a.get 6) Z,some 5,tT⟩]
def Awn:List COp:=Ap6 ()
def Ap7(_:Unit):List COp:=[⟨fun a Z=>aK 1 (a.get 1) (.int .i64 1) Z,none,tT⟩]
def Awo:List COp:=Ap7 ()
def TE(E:Env)(ro:Option Nat)(fn:FuncId):aZ:=(aF (aD E ro AiA) (aR 0 (aF (aD E ro AiB) (aL (fun a=>(a.get 7)) (aD E ro AiC) (aF (aD E ro AiD) (aL (fun a=>(a.get 9)) (aF (aD E ro AiE) (aF (aD E ro AiF) (drawR E ro AiG))) (aF (aD E ro Awn) (aD E ro Awo))))))))
theorem Pv:aD E ro AiA a u Z=aD E ro (L7 ()) a u Z:=rfl
theorem Pw:aD E ro AiB a u Z=aD E ro (L8 ()) a u Z:=rfl
theorem Ad8:aD E ro AiC a u Z=aD E ro (Rx ()) a u Z:=rfl
theorem Ad9:aD E ro AiD a u Z=aD E ro (Ry ()) a u Z:=rfl
theorem Aea:aD E ro AiE a u Z=aD E ro (Rz ()) a u Z:=rfl
theorem Aeb:aD E ro AiF a u Z=aD E ro (RA ()) a u Z:=rfl
theorem Aec:bM E ro last AiG cl a u Z=bM E ro last (RB ()) cl a u Z:=rfl
theorem AoF(E:Env)(ro:Option Nat)(fn:FuncId):code Tryz.prog nls (Tryz.f142.body.getD .skip) E ro fn=TE E ro fn:=by kernel_rfl
theorem UG(E:Env)(args:List Value)(u:Option FrameMode)(Z:aC)(hn:args.length<=(6:Nat)):bA Tryz.prog nls E 142 args u Z=aN Tryz.prog E [] (TE E none 142 ⟨aY undef 6 args,fun _=>undef,6,17,[]⟩ u Z):=by
 rw[Am (body:=Tryz.f142.body.getD .skip) Tryz.func142 rfl E args u Z 6 17 (by kernel_rfl) rfl ⟨hn,by decide⟩,AoF]
 rfl
end
section
open Go Go.Eng
attribute [local congr] Aa Af Ad Ab Ac
attribute [-go_sem] List.range_succ
variable [Tb]
def strs(l:List Nat):List Value:=l.map fun r=>.string (tx r)
theorem EF(l:List Nat):(strs l).length=l.length:=List.length_map ..
theorem J8(l:List Nat)(i r:Nat)(h:l[i]? = some r):(strs l)[i]? = some (.string (tx r)):=by rw[strs,List.getElem?_map,h];rfl
def bytesOf(r:Nat):List UInt8:=(tx r).data.toList
theorem Ka:∀l:List Nat,textsOf (strs l)=some (l.map bytesOf)
 | []=>rfl
 | r::l=>by
  show (match textsOf (strs l) with|some x=>some ((tx r).data.toList::x)|none=>none)=_
  rw[Ka l];rfl
theorem AnS{l:List Nat}(hnd:l.Nodup)(h8:∀r∈l,r<nT):∃l':List Nat,(sortS (l.map bytesOf)).map encS=strs l'/\l'.Pairwise (· < ·)/\(∀z,z∈l'↔z∈l)/\l'.length=l.length:=by
 have hp:(l.mergeSort fun x y=>decide (x<=y)).Perm l:=List.mergeSort_perm _ _
 have hs:(l.mergeSort fun x y=>decide (x<=y)).Pairwise (· < ·):=by
  have h1:(l.mergeSort fun x y=>decide (x<=y)).Pairwise fun a b=>decide (a<=b)=true:=List.pairwise_mergeSort (fun a b c h1 h2=>by simp only[decide_eq_true_eq] at *;omega) (fun a b=>by simp only[Bool.or_eq_true,decide_eq_true_eq];omega) l
  have h2:(l.mergeSort fun x y=>decide (x<=y)).Nodup:=hp.nodup_iff.2 hnd
  exact(h1.and h2).imp fun ⟨h,h'⟩=>by simp only[decide_eq_true_eq] at h;omega
 generalize (l.mergeSort fun x y=>decide (x<=y))=l' at hp hs
 have hm:∀z,z∈l'↔z∈l:=fun z=>hp.mem_iff
 refine⟨l',?_,hs,hm,hp.length_eq⟩
 have e:sortS (l.map bytesOf)=l'.map bytesOf:=by
  refine List.Perm.eq_of_pairwise (le:=fun x y=>x<=y) (fun a b _ _=>List.le_antisymm) (Hc _) ?_ ((Hb _).trans (hp.symm.map _))
  rw[List.pairwise_map]
  exact hs.imp_of_mem fun ha hb h=>List.le_of_lt (W8 (h8 _ ((hm _).1 ha)) (h8 _ ((hm _).1 hb)) h)
 rw[e,List.map_map]
 rfl
omit [Tb] in
theorem AfY(n:Nat)(f:FuncId)(args:List Value)(Z:aC)(h:sums f args Z=none):(env (n+1)).call f args none Z=bA Tryz.prog nls (env n) f args none Z:=OT _ _ _ _ _ _ _ h
omit [Tb] in
theorem ApF(n:Nat)(s:Value)(Z:aC):(env (n+1)).call 160 [s,.int .i64 0,.int .i64 0] none Z=.ret (.tuple #[]) none Z:=by
 rw[Ai _ 160 _ _ rfl,AfR _ _ _ _ (by simp),Ah]
 unfold AaE
 have w1:wrapI (0+1)=Int.ofNat 1:=by decide
 have d1:decide (Int.ofNat 1<(0:Int))=false:=by decide
 simp -implicitDefEqProofs only[go_sem,Aes,RW,w1]
 rw[show bL=999999999999+1 from rfl,Ap]
 unfold Agb
 simp -implicitDefEqProofs only[go_sem,Aet,RY,d1]
omit [Tb] in
theorem ApR(n:Nat)(s lim:Value)(Z:aC):(env (n+2)).call 143 [s,.int .i64 0,.int .i64 0,lim] none Z=.ret (.tuple #[]) none Z:=by
 have e:=ApF n s Z
 rw[Ai _ 143 _ _ rfl,AfN _ _ _ _ (by simp),Ah]
 unfold AaA
 have w1:wrapI (0-0)=0:=by decide
 have d1:decide ((0:Int)<=(12:Int))=true:=by decide
 simp -implicitDefEqProofs only[go_sem,Aed,RC,Aee,RD]
 rw[show bL=999999999999+1 from rfl,Ap]
 unfold Aga
 simp -implicitDefEqProofs only[go_sem,Aef,RE,Aeg,RF,Aeh,RG,w1,d1,e]
omit [Tb] in
theorem W4(n:Nat)(p:Option Addr)(c:Nat)(Z:aC)(h:sums 115 [.slice p 0 c] Z=none):(env (n+6)).call 115 [.slice p 0 c] none Z=.ret (.tuple #[]) none Z:=by
 have e1:(env (n+5)).call 144 [.int .u64 (.ofNat 0)] none Z=.ret (.int .i64 0) none Z:=by kernel_rfl
 have cv:fun1 Tryz.prog (convert 3 152) (.int .i64 (.ofNat 0)) Z=.val (.int .u64 (.ofNat 0)) Z:=by show _=_;kernel_rfl
 have e2:=ApR (n+3) (.slice p 0 c) (.int .i64 0) Z
 have e2':(env (n+5)).call 143 [.slice p 0 c,.int .i64 0,.int .i64 (Int.ofNat 0),.int .i64 0] none Z=.ret (.tuple #[]) none Z:=e2
 rw[AfY _ _ _ _ h,AfF _ _ _ _ (by simp),Ah]
 unfold Aas
 simp -implicitDefEqProofs only[go_sem,AdA,QS,AdB,QT,cv,e1,e2']
theorem Arx(n:Nat){T:TypeId}{Q:Nat->Prop}{s:Value}{l:List Nat}(Z:aC)(hw:Wf Z)(hV:Vecs T Q Z s (strs l))(hnd:l.Nodup)(h8:∀r∈l,r<nT)(hl:l.length<=400):
  ∃V l',(env (n+6)).call 115 [s] none Z=.ret (.tuple #[]) none V/\Chg Q Z V/\Wf V/\Vecs T Q V s (strs l')/\l'.Pairwise (· < ·)/\(∀z,z∈l'↔z∈l)/\l'.length=l.length:=by
 rcases hV with⟨h1,h2⟩|⟨b,hF,hq⟩
 .rw[strs,List.map_eq_nil_iff] at h2
  subst h1 h2
  exact⟨Z,[],W4 n none 0 Z rfl,Chg.refl _ _,hw,.inl ⟨rfl,rfl⟩,.nil,fun z=>.rfl,rfl⟩
 .obtain⟨l',e,hs,hm,hll⟩:=AnS hnd h8
  obtain⟨fz,ver,hs',hb,hfz⟩:=hF
  by_cases h0:l.length=0
  .have:l=[]:=List.length_eq_zero_iff.1 h0
   subst this
   subst hs'
   exact⟨Z,[],W4 n _ _ Z rfl,Chg.refl _ _,hw,.inr ⟨b,⟨fz,ver,rfl,hb,hfz⟩,hq⟩,.nil,fun z=>.rfl,rfl⟩
  .subst hs'
   rw[EF]
   have hc:=AB hb
   have hst:aK l.length (.pointer (some ⟨b,0,none⟩)) (.agg ((sortS (l.map bytesOf)).map encS).toArray) Z=.skip (Z.put b (.cells (strs l') T) fz):=by
    rw[e]
    have ho:(strs l').all oneCell=true:=by rw[List.all_eq_true];intro v hv;rw[strs,List.mem_map] at hv;obtain⟨r,_,rfl⟩:=hv;rfl
    rw[AP,hb]
    show (if aM (.agg (strs l').toArray)=true/\(strs l').length=l.length/\(strs l').all oneCell=true then (if 0+(strs l').length<=(strs l).length then ORes.skip (Z.put b (.cells ((strs l).take 0++strs l'++(strs l).drop (0+(strs l').length)) T) fz) else .no) else .no)=_
    rw[if_pos ⟨rfl,by rw[EF,hll],ho⟩,if_pos (by rw[EF,EF];omega),List.take_zero,List.nil_append,List.drop_of_length_le (by rw[EF,EF];omega),List.append_nil]
   refine⟨_,l',AvS (n+5) b 0 l.length l.length Z _ (strs l) (l.map bytesOf) hc (by rw[List.drop_zero,List.take_of_length_le (by rw[EF];exact Nat.le_refl _)];exact Ka l) (List.length_map ..) (by omega) (by omega) hst,?_,?_,?_,hs,hm,hll⟩
   .exact(Chg.refl _ _).put _ _ _ (.inr hq)
   .exact hw.put _ _ _ (hw _ _ hb).1
   .exact .inr ⟨b,⟨fz,Z.clock,by rw[EF,hll],by rw[Ak,if_pos rfl],hfz⟩,hq⟩
end
section
open Go Go.Eng
attribute [local congr] Aa Af Ad Ab Ac
attribute [-go_sem] List.range_succ
variable [Tb]
def TxtR(R:Nat->Prop)(Z:aC)(s:Value)(l:List Nat):Prop:=(l=[]/\s=.slice none 0 0)\/(∃b c,s=.slice (some ⟨b,0,none⟩) l.length c/\Z.cells b=some (strs l)/\R b)
theorem TxtR.keep{R R':Nat->Prop}{Z V:aC}{s:Value}{l:List Nat}(h:TxtR R Z s l)(hk:∀b cs,R b->Z.cells b=some cs->V.cells b=some cs/\R' b):TxtR R' V s l:=by
 rcases h with h|⟨b,c,rfl,hb,hR⟩
 .exact .inl h
 .exact .inr ⟨b,c,rfl,(hk b _ hR hb).1,(hk b _ hR hb).2⟩
theorem TxtR.slice{R:Nat->Prop}{Z:aC}{s:Value}{l:List Nat}(h:TxtR R Z s l):∃p c,s=.slice p l.length c/\(l≠[]->∃b,p=some ⟨b,0,none⟩/\Z.cells b=some (strs l)):=by
 rcases h with⟨rfl,rfl⟩|⟨b,c,rfl,hb,_⟩
 .exact⟨none,0,rfl,fun h=>absurd rfl h⟩
 .exact⟨_,c,rfl,fun _=>⟨b,rfl,hb⟩⟩
theorem N7{T:TypeId}{Q:Nat->Prop}{Z:aC}{s:Value}{l:List Nat}(h:Vecs T Q Z s (strs l)):TxtR Q Z s l:=by
 rcases h with⟨h1,h2⟩|⟨b,⟨fz,ver,h1,h2,_⟩,hq⟩
 .rw[strs,List.map_eq_nil_iff] at h2
  exact .inl ⟨h2,h1⟩
 .rw[EF] at h1
  exact .inr ⟨b,_,h1,AB h2,hq⟩
theorem GJ{Q:Nat->Prop}{Z:aC}{s:Value}{l:List Nat}(h:Vecs 9 Q Z s (strs l))(hw:Wf Z)(r:Nat)(hQ:∀b,Z.next<=b->Q b)(hlen:l.length<1000):
  ∃s' τ,fappend 9 1 16 s (.slice (some ⟨Z.next,0,none⟩) 1 1) (Z.push (.cells [.string (tx r)] 9) none)=.val s' τ/\Vecs 9 Q τ s' (strs (l++[r]))/\Chg Q Z τ/\Wf τ:=by
 have h1:Vecs 9 Q (Z.push (.cells [.string (tx r)] 9) none) s (strs l):=h.keep (fun b hq hb=>⟨by rw[Aj,if_neg (by omega)],hq⟩) hw
 obtain⟨b',s',τ,e,hF,hb',ch,hwτ⟩:=h1.append (hw.push _ _) Z.next 1 (.string (tx r)) 16 (by rw[Al,if_pos rfl];rfl) rfl (by decide) (by rw[EF];omega)
 refine⟨s',τ,e,.inr ⟨b',by rw[strs,List.map_append];exact hF,hb'.elim id fun h=>hQ _ (by rw[h,Ae];omega)⟩,?_,hwτ⟩
 exact(((Chg.refl Q Z).push _ _).trans ch fun _ _ h=>h)
omit [Tb] in
theorem AvX:bH nls 118=[74]:=by kernel_rfl
structure HeadUn (pa pb:Option Addr) (ca cb:Nat) (A B:List Nat) (out:List Nat) (i k:Nat) (bU:aC) (f:Nat->Value) (Z:aC):Prop where
 f0:f 0=.slice pa A.length ca
 f1:f 1=.slice pb B.length cb
 f6:f 6=.int .i64 (.ofNat i)
 f7:f 7=.int .i64 (.ofNat k)
 vec:Vecs 9 (fun b=>bU.next<=b) Z (f 5) (strs out)
 ha:A≠[]->∃b,pa=some ⟨b,0,none⟩/\bU.cells b=some (strs A)
 hb:B≠[]->∃b,pb=some ⟨b,0,none⟩/\bU.cells b=some (strs B)
 wf:Wf Z
 ext:Ext bU Z
 ilt:i<=A.length
 klt:k<=B.length
omit [Tb] in
theorem HM{l:List Nat}{i:Nat}(h:i<l.length):∃x,l[i]? = some x/\l.drop i=x::l.drop (i+1):=⟨l[i],List.getElem?_eq_getElem h,List.drop_eq_getElem_cons h⟩
theorem AaT(E:Env){pa pb:Option Addr}{ca cb:Nat}{A B:List Nat}{bU:aC}(hw0:Wf bU)(hA8:∀r∈A,r<nT)(hB8:∀r∈B,r<nT)(hla:A.length<500)(hlb:B.length<500):
  ∀(m fuel i k:Nat) (out:List Nat) (f g:Nat->Value) (Z:aC),(A.length-i)+(B.length-k)<=m->m<fuel->out.length+m<900->HeadUn pa pb ca cb A B out i k bU f Z->
   ∃f' g' V,floop [74] (GR E none 118) fuel (Sl 8 75 f g []) none Z=.done (.exit 0) (Sl 8 75 f' g' []) none V/\Vecs 9 (fun b=>bU.next<=b) V (f' 5) (strs (out++mrg (A.drop i) (B.drop k)))/\Ext bU V/\Wf V:=by
 intro m
 induction m with
 | zero=>
  intro fuel i k out f g Z hm hf hl h
  obtain⟨fuel,rfl⟩:∃q,fuel=q+1:=⟨fuel-1,by omega⟩
  have hi:=h.ilt
  have hk:=h.klt
  have d1:decide (Int.ofNat i<Int.ofNat A.length)=false:=by simp;omega
  have d2:decide (Int.ofNat k<Int.ofNat B.length)=false:=by simp;omega
  rw[Ap]
  unfold GR
  simp -implicitDefEqProofs only[go_sem,E6,Fv,h.f0,h.f1,h.f6,h.f7,d1,d2]
  refine⟨_,_,_,rfl,?_,h.ext,h.wf⟩
  rw[List.drop_eq_nil_of_le (by omega),List.drop_eq_nil_of_le (by omega),mrg,List.append_nil]
  exact h.vec
 | succ m ih=>
  intro fuel i k out f g Z hm hf hl h
  obtain⟨fuel,rfl⟩:∃q,fuel=q+1:=⟨fuel-1,by omega⟩
  have hvw:=D1 h.wf (lam:=Z.clock) (Nat.le_refl _)
  have hn:=h.ext.next
  have o:=h.vec.one
  by_cases hk:k<B.length
  .have d2:decide (Int.ofNat k<Int.ofNat B.length)=true:=by simp;omega
   have d3:decide (Int.ofNat k≥Int.ofNat B.length)=false:=by simp;omega
   obtain⟨y,hy,hdy⟩:=HM hk
   obtain⟨bb,rfl,hcb⟩:=h.hb (by intro e;rw[e] at hk;simp at hk)
   have hcbσ:=(h.ext.cells (hw0.cells hcb)).trans hcb
   have gy:=J8 _ _ _ hy
   have hy8:=hB8 y (List.mem_of_getElem? hy)
   have wk:=FT k (by omega)
   by_cases hi:i<A.length
   .have d1:decide (Int.ofNat i<Int.ofNat A.length)=true:=by simp;omega
    obtain⟨x,hx,hdx⟩:=HM hi
    obtain⟨ba,rfl,hca⟩:=h.ha (by intro e;rw[e] at hi;simp at hi)
    have hcaσ:=(h.ext.cells (hw0.cells hca)).trans hca
    have gx:=J8 _ _ _ hx
    have hx8:=hA8 x (List.mem_of_getElem? hx)
    have wi:=FT i (by omega)
    by_cases hxy:x<y
    .have e1:=fun X Y Z=>Agk X Y Z hx8 hy8
     simp only[decide_eq_true hxy] at e1
     obtain⟨s',τ,ea,hV,ch,hwτ⟩:=GJ h.vec h.wf x (fun b hb=>by omega) (by omega)
     have o':=hV.one
     rw[Ap]
     unfold GR
     simp -implicitDefEqProofs only[go_sem,E6,Fv,Gr,GY,Gs,GZ,Gt,G0,h.f0,h.f1,h.f6,h.f7,d1,d2,d3,hi,hk,hvw,hcaσ,hcbσ,gx,gy,e1,o.1,o.2.1,o.2.2,ea,o'.1,o'.2.1,o'.2.2,wi]
     generalize hff:upd _ 6 _=f1'
     have hE:Ext bU τ:=((h.ext.chg _).trans ch fun _ _ h=>h).ext fun b hb h=>by omega
     have q5:f1' 5=s':=by rw[<-hff];simp -implicitDefEqProofs only[go_sem,reduceCtorEq]
     obtain⟨f',g',V,a1,a2,a3,a4⟩:=ih fuel (i+1) k (out++[x]) f1' _ τ (by omega) (by omega) (by rw[List.length_append,List.length_singleton];omega) {
      f0:=by rw[<-hff];simp -implicitDefEqProofs only[go_sem,reduceCtorEq,h.f0]
      f1:=by rw[<-hff];simp -implicitDefEqProofs only[go_sem,reduceCtorEq,h.f1]
      f6:=by rw[<-hff];simp -implicitDefEqProofs only[go_sem,reduceCtorEq]
      f7:=by rw[<-hff];simp -implicitDefEqProofs only[go_sem,reduceCtorEq,h.f7]
      vec:=by rw[q5];exact hV
      ha:=h.ha
      hb:=h.hb
      wf:=hwτ
      ext:=hE
      ilt:=hi
      klt:=h.klt }
     refine⟨f',g',V,a1,?_,a3,a4⟩
     rw[hdx,hdy,mrg,if_pos hxy,<-hdy]
     rw[List.append_assoc] at a2
     exact a2
    .have e1:=fun X Y Z=>Agk X Y Z hx8 hy8
     simp only[decide_eq_false hxy] at e1
     obtain⟨s',τ,ea,hV,ch,hwτ⟩:=GJ h.vec h.wf y (fun b hb=>by omega) (by omega)
     have o':=hV.one
     by_cases he:x=y
     .have e2:=fun X Y Z=>Af0 X Y Z hx8 hy8
      simp only[decide_eq_true he] at e2
      rw[Ap]
      unfold GR
      simp -implicitDefEqProofs only[go_sem,E6,Fv,Gr,GY,Gs,GZ,Gt,G0,H5,H4,H7,H6,H9,H8,GX,Gq,h.f0,h.f1,h.f6,h.f7,d1,d2,d3,hi,hk,hvw,hcaσ,hcbσ,gx,gy,e1,e2,o.1,o.2.1,o.2.2,ea,o'.1,o'.2.1,o'.2.2,wi,wk]
      generalize hff:upd _ 7 _=f1'
      have hE:Ext bU τ:=((h.ext.chg _).trans ch fun _ _ h=>h).ext fun b hb h=>by omega
      have q5:f1' 5=s':=by rw[<-hff];simp -implicitDefEqProofs only[go_sem,reduceCtorEq]
      obtain⟨f',g',V,a1,a2,a3,a4⟩:=ih fuel (i+1) (k+1) (out++[y]) f1' _ τ (by omega) (by omega) (by rw[List.length_append,List.length_singleton];omega) {
       f0:=by rw[<-hff];simp -implicitDefEqProofs only[go_sem,reduceCtorEq,h.f0]
       f1:=by rw[<-hff];simp -implicitDefEqProofs only[go_sem,reduceCtorEq,h.f1]
       f6:=by rw[<-hff];simp -implicitDefEqProofs only[go_sem,reduceCtorEq]
       f7:=by rw[<-hff];simp -implicitDefEqProofs only[go_sem,reduceCtorEq]
       vec:=by rw[q5];exact hV
       ha:=h.ha
       hb:=h.hb
       wf:=hwτ
       ext:=hE
       ilt:=hi
       klt:=hk }
      refine⟨f',g',V,a1,?_,a3,a4⟩
      rw[hdx,hdy,mrg,if_neg hxy,if_pos he]
      rw[List.append_assoc] at a2
      exact a2
     .have e2:=fun X Y Z=>Af0 X Y Z hx8 hy8
      simp only[decide_eq_false he] at e2
      rw[Ap]
      unfold GR
      simp -implicitDefEqProofs only[go_sem,E6,Fv,Gr,GY,Gs,GZ,Gt,G0,H5,H4,H7,H6,H9,H8,GX,Gq,h.f0,h.f1,h.f6,h.f7,d1,d2,d3,hi,hk,hvw,hcaσ,hcbσ,gx,gy,e1,e2,o.1,o.2.1,o.2.2,ea,o'.1,o'.2.1,o'.2.2,wk]
      generalize hff:upd _ 7 _=f1'
      have hE:Ext bU τ:=((h.ext.chg _).trans ch fun _ _ h=>h).ext fun b hb h=>by omega
      have q5:f1' 5=s':=by rw[<-hff];simp -implicitDefEqProofs only[go_sem,reduceCtorEq]
      obtain⟨f',g',V,a1,a2,a3,a4⟩:=ih fuel i (k+1) (out++[y]) f1' _ τ (by omega) (by omega) (by rw[List.length_append,List.length_singleton];omega) {
       f0:=by rw[<-hff];simp -implicitDefEqProofs only[go_sem,reduceCtorEq,h.f0]
       f1:=by rw[<-hff];simp -implicitDefEqProofs only[go_sem,reduceCtorEq,h.f1]
       f6:=by rw[<-hff];simp -implicitDefEqProofs only[go_sem,reduceCtorEq,h.f6]
       f7:=by rw[<-hff];simp -implicitDefEqProofs only[go_sem,reduceCtorEq]
       vec:=by rw[q5];exact hV
       ha:=h.ha
       hb:=h.hb
       wf:=hwτ
       ext:=hE
       ilt:=h.ilt
       klt:=hk }
      refine⟨f',g',V,a1,?_,a3,a4⟩
      rw[hdx,hdy,mrg,if_neg hxy,if_neg he,<-hdx]
      rw[List.append_assoc] at a2
      exact a2
   .have d1:decide (Int.ofNat i<Int.ofNat A.length)=false:=by simp;omega
    obtain⟨s',τ,ea,hV,ch,hwτ⟩:=GJ h.vec h.wf y (fun b hb=>by omega) (by omega)
    have o':=hV.one
    rw[Ap]
    unfold GR
    simp -implicitDefEqProofs only[go_sem,E6,Fv,Gr,GY,Gs,GZ,Gt,G0,H5,H4,H7,H6,H9,H8,GX,Gq,h.f0,h.f1,h.f6,h.f7,d1,d2,d3,hk,hvw,hcbσ,gy,o.1,o.2.1,o.2.2,ea,o'.1,o'.2.1,o'.2.2,wk]
    generalize hff:upd _ 7 _=f1'
    have hE:Ext bU τ:=((h.ext.chg _).trans ch fun _ _ h=>h).ext fun b hb h=>by omega
    have q5:f1' 5=s':=by rw[<-hff];simp -implicitDefEqProofs only[go_sem,reduceCtorEq]
    obtain⟨f',g',V,a1,a2,a3,a4⟩:=ih fuel i (k+1) (out++[y]) f1' _ τ (by omega) (by omega) (by rw[List.length_append,List.length_singleton];omega) {
     f0:=by rw[<-hff];simp -implicitDefEqProofs only[go_sem,reduceCtorEq,h.f0]
     f1:=by rw[<-hff];simp -implicitDefEqProofs only[go_sem,reduceCtorEq,h.f1]
     f6:=by rw[<-hff];simp -implicitDefEqProofs only[go_sem,reduceCtorEq,h.f6]
     f7:=by rw[<-hff];simp -implicitDefEqProofs only[go_sem,reduceCtorEq]
     vec:=by rw[q5];exact hV
     ha:=h.ha
     hb:=h.hb
     wf:=hwτ
     ext:=hE
     ilt:=h.ilt
     klt:=hk }
    refine⟨f',g',V,a1,?_,a3,a4⟩
    rw[hdy]
    rw[List.drop_eq_nil_of_le (by omega:A.length<=i),mrg] at a2 ⊢
    rw[List.append_assoc] at a2
    exact a2
  .have d2:decide (Int.ofNat k<Int.ofNat B.length)=false:=by simp;omega
   have d3:decide (Int.ofNat k≥Int.ofNat B.length)=true:=by simp;omega
   by_cases hi:i<A.length
   case neg=>
    have d1:decide (Int.ofNat i<Int.ofNat A.length)=false:=by simp;omega
    rw[Ap]
    unfold GR
    simp -implicitDefEqProofs only[go_sem,E6,Fv,h.f0,h.f1,h.f6,h.f7,d1,d2]
    refine⟨_,_,_,rfl,?_,h.ext,h.wf⟩
    rw[List.drop_eq_nil_of_le (by omega),List.drop_eq_nil_of_le (by omega),mrg,List.append_nil]
    exact h.vec
   have d1:decide (Int.ofNat i<Int.ofNat A.length)=true:=by simp;omega
   obtain⟨x,hx,hdx⟩:=HM hi
   obtain⟨ba,rfl,hca⟩:=h.ha (by intro e;rw[e] at hi;simp at hi)
   have hcaσ:=(h.ext.cells (hw0.cells hca)).trans hca
   have gx:=J8 _ _ _ hx
   have wi:=FT i (by omega)
   obtain⟨s',τ,ea,hV,ch,hwτ⟩:=GJ h.vec h.wf x (fun b hb=>by omega) (by omega)
   have o':=hV.one
   rw[Ap]
   unfold GR
   simp -implicitDefEqProofs only[go_sem,E6,Fv,Gr,GY,Gs,GZ,Gt,G0,H5,H4,H7,H6,H9,H8,GX,Gq,h.f0,h.f1,h.f6,h.f7,d1,d2,d3,hi,hvw,hcaσ,gx,o.1,o.2.1,o.2.2,ea,o'.1,o'.2.1,o'.2.2,wi]
   generalize hff:upd _ 6 _=f1'
   have hE:Ext bU τ:=((h.ext.chg _).trans ch fun _ _ h=>h).ext fun b hb h=>by omega
   have q5:f1' 5=s':=by rw[<-hff];simp -implicitDefEqProofs only[go_sem,reduceCtorEq]
   obtain⟨f',g',V,a1,a2,a3,a4⟩:=ih fuel (i+1) k (out++[x]) f1' _ τ (by omega) (by omega) (by rw[List.length_append,List.length_singleton];omega) {
    f0:=by rw[<-hff];simp -implicitDefEqProofs only[go_sem,reduceCtorEq,h.f0]
    f1:=by rw[<-hff];simp -implicitDefEqProofs only[go_sem,reduceCtorEq,h.f1]
    f6:=by rw[<-hff];simp -implicitDefEqProofs only[go_sem,reduceCtorEq]
    f7:=by rw[<-hff];simp -implicitDefEqProofs only[go_sem,reduceCtorEq,h.f7]
    vec:=by rw[q5];exact hV
    ha:=h.ha
    hb:=h.hb
    wf:=hwτ
    ext:=hE
    ilt:=hi
    klt:=h.klt }
   refine⟨f',g',V,a1,?_,a3,a4⟩
   rw[hdx,List.drop_eq_nil_of_le (by omega:B.length<=k)]
   rw[List.drop_eq_nil_of_le (by omega:B.length<=k),List.append_assoc] at a2
   rw[mrg]
   have hz:∀l:List Nat,mrg l []=l:=fun l=>by cases l<;>rw[mrg]
   rw[hz] at a2
   exact a2
theorem An1(n:Nat){R R':Nat->Prop}{s t:Value}(P Q:Nat->Bool)(Z:aC)(hw:Wf Z)(hs:TxtR R Z s (asc P))(ht:TxtR R' Z t (asc Q)):
  Gives ((env (n+1)).call 118 [s,t] none Z) Z fun w V=>Vecs 9 (fun b=>Z.next<=b) V w (strs (asc fun r=>P r||Q r)):=by
 obtain⟨pa,ca,rfl,ha⟩:=hs.slice
 obtain⟨pb,cb,rfl,hb⟩:=ht.slice
 have la:=P5 P
 have lb:=P5 Q
 rw[Ai _ 118 _ _ rfl,AfH _ _ _ _ (by simp),Ah]
 unfold Aau
 simp -implicitDefEqProofs only[go_sem,AdH,QZ,AdI,Q0,AdJ,Q1,AvX]
 generalize hff:upd _ 7 _=f1
 generalize hbf:bL=fuel
 obtain⟨f',g',V,a1,a2,a3,a4⟩:=AaT (env n) (pa:=pa) (pb:=pb) (ca:=ca) (cb:=cb) hw (fun r hr=>((HJ P r).1 hr).1) (fun r hr=>((HJ Q r).1 hr).1) (by omega) (by omega) 800 fuel 0 0 [] f1 (fun _=>undef) Z (by omega) (by rw[<-hbf];show 800<1000000000000;omega) (by simp) {
  f0:=by rw[<-hff];simp -implicitDefEqProofs only[go_sem,reduceCtorEq]
  f1:=by rw[<-hff];simp -implicitDefEqProofs only[go_sem,reduceCtorEq]
  f6:=by rw[<-hff];simp -implicitDefEqProofs only[go_sem,reduceCtorEq]<;>rfl
  f7:=by rw[<-hff];simp -implicitDefEqProofs only[go_sem,reduceCtorEq]<;>rfl
  vec:=.inl ⟨by rw[<-hff];simp -implicitDefEqProofs only[go_sem,reduceCtorEq],rfl⟩
  ha:=ha
  hb:=hb
  wf:=hw
  ext:=Ext.refl _
  ilt:=Nat.zero_le _
  klt:=Nat.zero_le _ }
 rw[a1]
 rw[List.drop_zero,List.drop_zero,List.nil_append,ApO] at a2
 have o:=a2.one
 simp -implicitDefEqProofs only[go_sem,Yo,Nf,o.1,o.2.1,o.2.2]
 exact⟨_,_,rfl,a3,a4,a2⟩
end
section
open Go Go.Eng
attribute [local congr] Aa Af Ad Ab Ac
attribute [-go_sem] List.range_succ
variable [Tb]
omit [Tb] in
theorem M0(a:aV)(Z:aC):(cop Tryz.prog (.lookup 140 (.tmp 12) (.tmp 13) true)).un a Z=flookup2 Tryz.prog 9 .string (.bool false) (a.get 12) (a.get 13) true Z:=by kernel_rfl
omit [Tb] in
theorem AaU(a:aV)(Z:aC):(cop Tryz.prog (.mapUpdate 140 (.tmp 19) (.tmp 20) (.const (.bool true)))).un a Z=fmapUpdate Tryz.prog 9 .string (a.get 19) (a.get 20) (.bool true) Z:=by kernel_rfl
def Ents(es:List MapEntry)(ms:List Nat):Prop:=es.map (·.key)=strs ms/\∀e∈es,e.val=.bool true
theorem Kv{x:Nat}(hx:x<nT):∀(ms:List Nat) (es:List MapEntry) (i:Nat),(∀m∈ms,m<nT)->Ents es ms->(x ∉ ms->Instr.findNow .string (.string (tx x)) es i=some none)/\(x∈ms->∃j,Instr.findNow .string (.string (tx x)) es i=some (some (j,.bool true)))
 | [],es,i,_,h=>by
  obtain⟨h1,_⟩:=h
  have:es=[]:=by
   rw[strs,List.map_nil,List.map_eq_nil_iff] at h1
   exact h1
  subst this
  exact⟨fun _=>rfl,fun h=>by cases h⟩
 | m::ms,es,i,hm,h=>by
  obtain⟨h1,h2⟩:=h
  cases es with
  | nil=>simp[strs] at h1
  | cons e es=>
   rw[strs,List.map_cons,List.map_cons,List.cons.injEq] at h1
   have ih:=Kv hx ms es (i+1) (fun m' h'=>hm m' (List.mem_cons_of_mem _ h')) ⟨h1.2,fun e' h'=>h2 e' (List.mem_cons_of_mem _ h')⟩
   have hs:Instr.sameNow .string (.string (tx x)) e.key=some (decide (x=m)):=by
    rw[h1.1]
    show some (tx x==tx m)=_
    rw[Axh hx (hm m List.mem_cons_self)]
   by_cases hxm:x=m
   .rw[decide_eq_true hxm] at hs
    refine⟨fun h'=>absurd (by rw[hxm];exact List.mem_cons_self) h',fun _=>⟨i,?_⟩⟩
    unfold Instr.findNow
    rw[hs]
    simp only
    rw[h2 e List.mem_cons_self]
   .rw[decide_eq_false hxm] at hs
    have hu:Instr.findNow .string (.string (tx x)) (e::es) i=Instr.findNow .string (.string (tx x)) es (i+1):=by
     conv=>lhs;unfold Instr.findNow
     rw[hs]
    rw[hu]
    refine⟨fun h'=>ih.1 fun h''=>h' (List.mem_cons_of_mem _ h''),fun h'=>ih.2 ?_⟩
    rcases List.mem_cons.1 h' with h'|h'
    .exact absurd h' hxm
    .exact h'
theorem Adk{x:Nat}(hx:x<nT){ms:List Nat}{es:List MapEntry}{bm ck ver:Nat}{Z:aC}(hm:∀m∈ms,m<nT)(h:Ents es ms)(hg:Z.heap.get bm=some ⟨.map es ck,false,none,ver⟩):
  flookup2 Tryz.prog 9 .string (.bool false) (.map (some bm)) (.string (tx x)) true Z=.val (.tuple #[.bool (decide (x∈ms)),.bool (decide (x∈ms))]) Z:=by
 have hf:=Kv hx ms es 0 hm h
 unfold flookup2
 simp only[hg]
 unfold flook
 show (match Instr.findNow .string (.string (tx x)) es 0 with
  | some (some (_,v))=>cond true (ORes.val (.tuple #[v,.bool true]) Z) (ORes.val v Z)
  | some none=>cond true (ORes.val (.tuple #[.bool false,.bool false]) Z) (ORes.val (.bool false) Z)
  | none=>ORes.no)=_
 by_cases hxm:x∈ms
 .obtain⟨j,hj⟩:=hf.2 hxm
  rw[hj,decide_eq_true hxm];rfl
 .rw[hf.1 hxm,decide_eq_false hxm];rfl
theorem Agw{x:Nat}(hx:x<nT){ms:List Nat}{es:List MapEntry}{bm ck ver:Nat}{Z:aC}(hm:∀m∈ms,m<nT)(h:Ents es ms)(hxm:x ∉ ms)(hg:Z.heap.get bm=some ⟨.map es ck,false,none,ver⟩):
  ∃es',fmapUpdate Tryz.prog 9 .string (.map (some bm)) (.string (tx x)) (.bool true) Z=.skip (Z.put bm (.map es' (ck+1)) none)/\Ents es' (ms++[x]):=by
 have hf:=(Kv hx ms es 0 hm h).1 hxm
 refine⟨es++[(⟨.string (tx x),.bool true,ck⟩:MapEntry)],?_,?_⟩
 .unfold fmapUpdate
  simp only[hg]
  show fmapPut Tryz.prog 9 .string bm (.string (tx x)) (.bool true) es ck Z=_
  unfold fmapPut
  show (match Instr.findNow .string (.string (tx x)) es 0 with
   | some (some (i,_))=>(match nth es i with
    | some old=>cond (Instr.sameBits 10000 old.key (.string (tx x))) (ORes.skip (Z.put bm (.map (setNth (⟨.string (tx x),.bool true,old.born⟩:MapEntry) es i) ck) none)) .no
    | none=>.no)
   | some none=>ORes.skip (Z.put bm (.map (es++[(⟨.string (tx x),.bool true,ck⟩:MapEntry)]) (ck+1)) none)
   | none=>.no)=_
  rw[hf]
 .obtain⟨h1,h2⟩:=h
  refine⟨by rw[List.map_append,h1,strs,strs,List.map_append];rfl,fun e he=>?_⟩
  rcases List.mem_append.1 he with he|he
  .exact h2 e he
  .rw[List.mem_singleton.1 he]
end
section
open Go Go.Eng
attribute [local congr] Aa Af Ad Ab Ac
attribute [-go_sem] List.range_succ
variable [Tb]
structure OutJ (l r bk bm bo:Nat) (fA gA:Nat->Value) (ms:List Nat) (Q:Nat->Prop) (Z:aC):Prop where
 loop:bR 69 [10] El Em 8 28 fA gA l r .ready Z
 col:∃ver,Z.heap.get r=some ⟨.defd true,false,none,ver⟩
 key:Z.cells bk=some [.map (some bm)]
 map:∃es ck ver,Z.heap.get bm=some ⟨.map es ck,false,none,ver⟩/\Ents es ms
 out:∃s ver,Z.heap.get bo=some ⟨.cells [s] 35,false,none,ver⟩/\Vecs 9 Q Z s (strs ms)
theorem AcB(n:Nat){l r bk bm bo:Nat}{fA gA:Nat->Value}{ms:List Nat}{Q:Nat->Prop}{Z:aC}(hw:Wf Z)(h:OutJ l r bk bm bo fA gA ms Q Z)(hlt:bm<bk/\bk<bo/\bo<r/\r<l/\l<Z.next)(h3:fA 3=.pointer (some ⟨bk,0,none⟩))(h4:fA 4=.pointer (some ⟨bo,0,none⟩)){x:Nat}(hx:x<nT)(hms:∀m∈ms,m<nT)(hlen:ms.length<=400)(hQ:∀b,Z.next<=b->Q b)(hQl:∀b,Q b->l<b):
  ∃V,(env (n+1)).round l [.string (tx x)] Z=.ret (.bool true) none V/\Wf V/\Chg (fun b=>b=l\/b=bm\/b=bo\/Q b) Z V/\OutJ l r bk bm bo fA gA (ded ms x) Q V:=by
 obtain⟨hl,⟨vr,hr⟩,hk,⟨es,ck,vm,hm,hE⟩,⟨s,vo,ho,hV⟩⟩:=h
 rw[GG _ _ _ _ _ _ _ _ _ n l r _ hl rfl,AcI]
 simp -implicitDefEqProofs only[go_sem,Al7,ZC,List.zip_cons_cons,List.zip_nil_right,EN,E2]
 rw[Es _ _ _ _ _ _ _ _ _ l r _ hl,AcJ]
 have w1:=hw.put l (.loop .busy none 69 ((List.range 8).map fA) gA 8 28 [10] El Em r) none (by omega)
 have hl1:bR 69 [10] El Em 8 28 fA gA l r .busy (Z.put l (.loop .busy none 69 ((List.range 8).map fA) gA 8 28 [10] El Em r) none):=bR.put _ _ _ _ _ _ _ _ _ _ _ _
 have k1:(Z.put l (.loop .busy none 69 ((List.range 8).map fA) gA 8 28 [10] El Em r) none).cells bk=some [.map (some bm)]:=by rw[Aq,if_neg (by omega)];exact hk
 have m1:(Z.put l (.loop .busy none 69 ((List.range 8).map fA) gA 8 28 [10] El Em r) none).heap.get bm=some ⟨.map es ck,false,none,vm⟩:=by rw[Ak,if_neg (by omega)];exact hm
 have o1:(Z.put l (.loop .busy none 69 ((List.range 8).map fA) gA 8 28 [10] El Em r) none).heap.get bo=some ⟨.cells [s] 35,false,none,vo⟩:=by rw[Ak,if_neg (by omega)];exact ho
 have r1:(Z.put l (.loop .busy none 69 ((List.range 8).map fA) gA 8 28 [10] El Em r) none).heap.get r=some ⟨.defd true,false,none,vr⟩:=by rw[Ak,if_neg (by omega)];exact hr
 have V1:Vecs 9 Q (Z.put l (.loop .busy none 69 ((List.range 8).map fA) gA 8 28 [10] El Em r) none) s (strs ms):=hV.keep (fun b hq hb=>⟨by rw[Ak,if_neg (by have:=hQl b hq;omega)],hq⟩) hw
 have C1:Chg (fun b=>b=l\/b=bm\/b=bo\/Q b) Z (Z.put l (.loop .busy none 69 ((List.range 8).map fA) gA 8 28 [10] El Em r) none):=(Chg.refl _ Z).put _ _ _ (.inr (.inl rfl))
 have n1:(Z.put l (.loop .busy none 69 ((List.range 8).map fA) gA 8 28 [10] El Em r) none).next=Z.next:=rfl
 generalize aC.put _ l _ _=bS at w1 hl1 k1 m1 o1 r1 V1 C1 n1 ⊢
 have e1:=Adk hx hms hE m1
 by_cases hxm:x∈ms
 .rw[decide_eq_true hxm] at e1
  simp -implicitDefEqProofs only[go_sem,Wo,SZ,Wp,S0,h3,k1,M0,e1]
  rw[Ej _ _ _ _ _ _ _ _ _ _ l r _ _ hl1]
  refine⟨_,rfl,w1.put _ _ _ (by omega),C1.put _ _ _ (.inr (.inl rfl)),⟨bR.put _ _ _ _ _ _ _ _ _ _ _ _,⟨vr,by rw[Ak,if_neg (by omega)];exact r1⟩,by rw[Aq,if_neg (by omega)];exact k1,⟨es,ck,vm,by rw[Ak,if_neg (by omega)];exact m1,?_⟩,⟨s,vo,by rw[Ak,if_neg (by omega)];exact o1,?_⟩⟩⟩
  .rw[ded,if_pos hxm];exact hE
  .rw[ded,if_pos hxm];exact V1.keep (fun b hq hb=>⟨by rw[Ak,if_neg (by have:=hQl b hq;omega)],hq⟩) w1
 .rw[decide_eq_false hxm] at e1
  obtain⟨es',e2,hE'⟩:=Agw hx hms hE hxm m1
  have w2:=w1.put bm (.map es' (ck+1)) none (by omega)
  have k2:(bS.put bm (.map es' (ck+1)) none).cells bk=some [.map (some bm)]:=by rw[Aq,if_neg (by omega)];exact k1
  have o2:(bS.put bm (.map es' (ck+1)) none).heap.get bo=some ⟨.cells [s] 35,false,none,vo⟩:=by rw[Ak,if_neg (by omega)];exact o1
  have co2:=AB o2
  have V2:Vecs 9 Q (bS.put bm (.map es' (ck+1)) none) s (strs ms):=V1.keep (fun b hq hb=>⟨by rw[Ak,if_neg (by have:=hQl b hq;omega)],hq⟩) w1
  obtain⟨s',τ,ea,hV3,ch3,hwτ⟩:=GJ V2 w2 x (fun b hb=>hQ b (by rw[Ao] at hb;omega)) (by omega)
  have nτ:=ch3.next
  rw[Ao] at nτ ea
  have o3:τ.heap.get bo=some ⟨.cells [s] 35,false,none,vo⟩:=(ch3.get bo (by rw[Ao];omega) (fun hq=>by have:=hQl bo hq;omega)).trans o2
  have os:=V2.one
  have os':=hV3.one
  simp -implicitDefEqProofs only[go_sem,Wo,SZ,Wp,S0,Al8,ZD,Al9,ZE,h3,h4,k1,M0,AaU,e1,e2,co2,os.1,os.2.1,os.2.2,ea,o3,os'.1,os'.2.1,os'.2.2]
  have hl3:∀o:FObj,bR 69 [10] El Em 8 28 fA gA l r .busy (τ.put bo o none):=fun o=>hl1.keep (by rw[Ak,if_neg (by omega),ch3.get l (by rw[Ao];omega) (fun hq=>by have:=hQl l hq;omega),Ak,if_neg (by omega)])
  rw[Ej _ _ _ _ _ _ _ _ _ _ l r _ _ (hl3 _)]
  have gk:∀(o o':FObj) b,b<Z.next->b≠l->b≠bm->b≠bo->¬ Q b->((τ.put bo o none).put l o' none).heap.get b=bS.heap.get b:=fun o o' b hb h1 h2 h3 h4=>by
   rw[Ak,if_neg h1,Ak,if_neg h3,ch3.get b (by rw[Ao];omega) h4,Ak,if_neg h2]
  have hq:∀b,b<=l->¬ Q b:=fun b hb hq=>by have:=hQl b hq;omega
  refine⟨_,rfl,(hwτ.put _ _ _ (by omega)).put _ _ _ (by rw[Ao];omega),⟨by rw[Ao,Ao];omega,by have:=C1.clock;have:=ch3.clock;rw[AX] at this;rw[AX,AX];omega,fun b hb hF=>(gk _ _ b hb (fun h=>hF (.inl h)) (fun h=>hF (.inr (.inl h))) (fun h=>hF (.inr (.inr (.inl h)))) (fun h=>hF (.inr (.inr (.inr h))))).trans (C1.get b hb hF)⟩,⟨bR.put _ _ _ _ _ _ _ _ _ _ _ _,⟨vr,(gk _ _ r (by omega) (by omega) (by omega) (by omega) (hq r (by omega))).trans r1⟩,by rw[Av,gk _ _ bk (by omega) (by omega) (by omega) (by omega) (hq bk (by omega)),<-Av];exact k1,⟨es',ck+1,bS.clock,?_,?_⟩,⟨s',τ.clock,by rw[Ak,if_neg (by omega),Ak,if_pos rfl],?_⟩⟩⟩
  .rw[Ak,if_neg (by omega),Ak,if_neg (by omega),ch3.get bm (by rw[Ao];omega) (hq bm (by omega)),Ak,if_pos rfl]
  .rw[ded,if_neg hxm];exact hE'
  .rw[ded,if_neg hxm];exact hV3.keep (fun b hqb hb=>⟨by rw[Ak,if_neg (by have:=hQl b hqb;omega),Ak,if_neg (by have:=hQl b hqb;omega)],hqb⟩) hwτ
end
section
open Go Go.Eng
attribute [local congr] Aa Af Ad Ab Ac
attribute [-go_sem] List.range_succ
variable [Tb]
theorem OutJ.keep{l r bk bm bo:Nat}{fA gA:Nat->Value}{ms:List Nat}{Q Q':Nat->Prop}{Z V:aC}(h:OutJ l r bk bm bo fA gA ms Q Z)(hw:Wf Z)(hk:∀b,(b=l\/b=r\/b=bk\/b=bm\/b=bo\/Q b)->b<Z.next->V.heap.get b=Z.heap.get b)(hQ:∀b,b<Z.next->Q b->Q' b):OutJ l r bk bm bo fA gA ms Q' V:=by
 obtain⟨hl,⟨vr,hr⟩,hkk,⟨es,ck,vm,hm,hE⟩,⟨s,vo,ho,hV⟩⟩:=h
 have hl0:=hl
 obtain⟨vl,hl'⟩:=hl
 exact⟨hl0.keep (hk l (by simp) (hw _ _ hl').1),⟨vr,(hk r (by simp) (hw _ _ hr).1).trans hr⟩,by rw[Av,hk bk (by simp) (hw.cells hkk),<-Av];exact hkk,⟨es,ck,vm,(hk bm (by simp) (hw _ _ hm).1).trans hm,hE⟩,⟨s,vo,(hk bo (by simp) (hw _ _ ho).1).trans ho,hV.keep (fun b hq hb=>⟨hk b (by simp[hq]) hb,hQ b hb hq⟩) hw⟩⟩
omit [Tb] in
theorem OH(v:Value)(Z:aC):fassert Tryz.prog (.iface 177 v) 145 true Z=.val (.tuple #[.agg #[.int .i64 0,.int .i64 0,.string ⟨#[]⟩,.slice none 0 0],.bool false]) Z:=by kernel_rfl
omit [Tb] in
theorem Aob(k:Nat)(hk:k<=6)(a b c d:Value):∃tv:List Value,tv.length=4/\(k=3\/k=4->tv=[a,b,c,d])/\(¬ (k=3\/k=4)->tv=[.int .i64 0,.int .i64 0,.string ⟨#[]⟩,.slice none 0 0])/\∀Z,fassert Tryz.prog (.iface (workType k) (.agg #[a,b,c,d])) 145 true Z=.val (.tuple #[.agg tv.toArray,.bool (decide (k=3\/k=4))]) Z:=by
 obtain rfl|rfl|rfl|rfl|rfl|rfl|rfl:k=0\/k=1\/k=2\/k=3\/k=4\/k=5\/k=6:=by omega
 .exact⟨[.int .i64 0,.int .i64 0,.string ⟨#[]⟩,.slice none 0 0],rfl,fun h=>by omega,fun _=>rfl,fun Z=>Ud _ Z⟩
 .exact⟨[.int .i64 0,.int .i64 0,.string ⟨#[]⟩,.slice none 0 0],rfl,fun h=>by omega,fun _=>rfl,fun Z=>OH _ Z⟩
 .exact⟨[.int .i64 0,.int .i64 0,.string ⟨#[]⟩,.slice none 0 0],rfl,fun h=>by omega,fun _=>rfl,fun Z=>OH _ Z⟩
 .exact⟨[a,b,c,d],rfl,fun _=>rfl,fun h=>by omega,fun Z=>Kh _ Z⟩
 .exact⟨[a,b,c,d],rfl,fun _=>rfl,fun h=>by omega,fun Z=>Kh _ Z⟩
 .exact⟨[.int .i64 0,.int .i64 0,.string ⟨#[]⟩,.slice none 0 0],rfl,fun h=>by omega,fun _=>rfl,fun Z=>HI _ Z⟩
 .exact⟨[.int .i64 0,.int .i64 0,.string ⟨#[]⟩,.slice none 0 0],rfl,fun h=>by omega,fun _=>rfl,fun Z=>HI _ Z⟩
end
section
open Go Go.Eng
attribute [local congr] Aa Af Ad Ab Ac
attribute [-go_sem] List.range_succ
variable [Tb]
structure NamesI (l0 r0 bk bm bo l1 r1 bY:Nat) (fA gA f g:Nat->Value) (done:List (List Nat×D)) (B:Nat->Prop) (Z:aC):Prop where
 has:∀b,b=l0\/b=r0\/b=bk\/b=bm\/b=bo\/b=l1\/b=r1\/b=bY->B b
 own:∀b,B b->b<Z.next/\(b=l0\/b=r0\/b=bk\/b=bm\/b=bo\/b=l1\/b=r1\/b=bY\/l1<b)
 loop:bR 116 [9,10] Ew Ex 7 32 f g l1 r1 .ready Z
 col:∃ver,Z.heap.get r1=some ⟨.defd true,false,none,ver⟩
 yld:Z.cells bY=some [.func (.yield l0) #[] #[]]
 out:OutJ l0 r0 bk bm bo fA gA (dedL (rkP done)) (fun b=>B b/\l1<b) Z
theorem XY(n l0 r0 bk bm bo l1 r1 bY:Nat)(fA gA f g:Nat->Value)(R:Nat->Prop)(d0:D)(hM:Syms d0)(hlt:bm<bk/\bk<bo/\bo<r0/\r0<l0/\l0<bY/\bY<r1/\r1<l1)(h2:f 2=.pointer (some ⟨bY,0,none⟩))(h3:fA 3=.pointer (some ⟨bk,0,none⟩))(h4:fA 4=.pointer (some ⟨bo,0,none⟩))(hR:∀b,R b->b<bm):
  Body (env (n+2)) l1 R (.func (.func 141) #[] #[]) (NamesI l0 r0 bk bm bo l1 r1 bY fA gA f g) (d0.pieces []) where
 stays:=fun done B Z V h hw hC=>by
  have k:∀b,B b->b<Z.next->V.heap.get b=Z.heap.get b:=fun b hb hn=>hC.get b hn fun h=>h.1 hb
  have hn:=hC.next
  obtain⟨vr,hr⟩:=h.col
  exact⟨h.has,fun b hb=>⟨Nat.lt_of_lt_of_le (h.own b hb).1 hn,(h.own b hb).2⟩,h.loop.keep (k l1 (h.has l1 (by simp)) (h.own l1 (h.has l1 (by simp))).1),⟨vr,(k r1 (h.has r1 (by simp)) (hw _ _ hr).1).trans hr⟩,by rw[Av,k bY (h.has bY (by simp)) (hw.cells h.yld),<-Av];exact h.yld,h.out.keep hw (fun b hb hn=>k b (by
   rcases hb with h'|h'|h'|h'|h'|h'
   .exact h.has b (by simp[h'])
   .exact h.has b (by simp[h'])
   .exact h.has b (by simp[h'])
   .exact h.has b (by simp[h'])
   .exact h.has b (by simp[h'])
   .exact h'.1) hn) fun _ _ h=>h⟩
 own:=fun done B Z h b hb=>⟨(h.own b hb).1,fun hr=>by
  have:=hR b hr
  rcases (h.own b hb).2 with h'|h'|h'|h'|h'|h'|h'|h'|h'<;>omega⟩
 inside:=fun done B Z k z t p ln c _ hw=>HP (n+1) _ 141 #[] rfl k z t (.slice p ln c) (Au _ _ _) Z hw fun V _ hw'=>⟨_,V,T_ n _ V,Ext.refl _,hw',rfl⟩
 go:=fun done path d rest B Z pv v hall hw h hpath hL=>by
  have hmem:(path,d)∈d0.pieces []:=by rw[hall];simp
  obtain⟨k,z,t,ps⟩:=d
  obtain⟨p,c,rfl,hq⟩:=hL
  obtain⟨k',rfl,hk6,hsy⟩:=hM.good path k z t ps hmem
  obtain⟨tv,htv4,htv1,htv2,has⟩:=Aob k' hk6 (.int .i64 (k':Int)) (.int .i64 z) (.string t) (.slice p ps.length c)
  generalize hok:decide (k'=3\/k'=4)=ok at has
  obtain⟨vr,hr⟩:=h.col
  have ol:=(h.own l1 (h.has l1 (by simp))).1
  have or':=(h.own r1 (h.has r1 (by simp))).1
  rw[GG _ _ _ _ _ _ _ _ _ (n+1) l1 r1 _ h.loop rfl,Xi]
  simp -implicitDefEqProofs only[go_sem,AP,AdE,QW,List.zip_cons_cons,List.zip_nil_right,EN,E2]
  have x1:Ext Z ((Z.push (.cells [.int .i64 0,.int .i64 0,.string ⟨#[]⟩,.slice none 0 0] TD) none).put Z.next (.cells [.int .i64 (k':Int),.int .i64 z,.string t,.slice p ps.length c] TD) none):=((Ext.refl _).push _ _).put _ _ _ (Nat.le_refl _)
  have hw1:=(hw.push (.cells [.int .i64 0,.int .i64 0,.string ⟨#[]⟩,.slice none 0 0] TD) none).put Z.next (.cells [.int .i64 (k':Int),.int .i64 z,.string t,.slice p ps.length c] TD) none (Nat.lt_succ_self _)
  have b1:((Z.push (.cells [.int .i64 0,.int .i64 0,.string ⟨#[]⟩,.slice none 0 0] TD) none).put Z.next (.cells [.int .i64 (k':Int),.int .i64 z,.string t,.slice p ps.length c] TD) none).cells Z.next=some [.int .i64 (k':Int),.int .i64 z,.string t,.slice p ps.length c]:=by rw[Aq,if_pos rfl];rfl
  have n1:((Z.push (.cells [.int .i64 0,.int .i64 0,.string ⟨#[]⟩,.slice none 0 0] TD) none).put Z.next (.cells [.int .i64 (k':Int),.int .i64 z,.string t,.slice p ps.length c] TD) none).next=Z.next+1:=rfl
  generalize aC.put _ _ _ _=bS at x1 hw1 b1 n1 ⊢
  have lp1:=h.loop.keep (x1.get l1 ol)
  rw[Es _ _ _ _ _ _ _ _ _ l1 r1 _ lp1,Xj]
  have hw2:=hw1.put l1 (.loop .busy none 116 ((List.range 7).map f) g 7 32 [9,10] Ew Ex r1) none (by omega)
  have lp2:bR 116 [9,10] Ew Ex 7 32 f g l1 r1 .busy (bS.put l1 (.loop .busy none 116 ((List.range 7).map f) g 7 32 [9,10] Ew Ex r1) none):=bR.put _ _ _ _ _ _ _ _ _ _ _ _
  have n2:(bS.put l1 (.loop .busy none 116 ((List.range 7).map f) g 7 32 [9,10] Ew Ex r1) none).next=Z.next+1:=n1
  have C2:Chg (· = l1) Z (bS.put l1 (.loop .busy none 116 ((List.range 7).map f) g 7 32 [9,10] Ew Ex r1) none):=(x1.chg _).put _ _ _ (.inr rfl)
  have b2:(bS.put l1 (.loop .busy none 116 ((List.range 7).map f) g 7 32 [9,10] Ew Ex r1) none).cells Z.next=some [.int .i64 (k':Int),.int .i64 z,.string t,.slice p ps.length c]:=by rw[Aq,if_neg (by omega)];exact b1
  generalize aC.put _ l1 _ _=a_ at hw2 lp2 b2 C2 n2 ⊢
  obtain⟨_,bT,e3,x3,hw3,rfl⟩:=EY n k' hk6 z t (.slice p ps.length c) (Au _ _ _) a_ hw2
  have n3:=x3.next
  have x4:Ext bT ((bT.push (.cells [.int .i64 0,.int .i64 0,.string ⟨#[]⟩,.slice none 0 0] 145) none).put bT.next (.cells tv 145) none):=((Ext.refl _).push _ _).put _ _ _ (Nat.le_refl _)
  have hw4:=(hw3.push (.cells [.int .i64 0,.int .i64 0,.string ⟨#[]⟩,.slice none 0 0] 145) none).put bT.next (.cells tv 145) none (Nat.lt_succ_self _)
  have b4:((bT.push (.cells [.int .i64 0,.int .i64 0,.string ⟨#[]⟩,.slice none 0 0] 145) none).put bT.next (.cells tv 145) none).cells bT.next=some tv:=by rw[Aq,if_pos rfl];rfl
  have n4:((bT.push (.cells [.int .i64 0,.int .i64 0,.string ⟨#[]⟩,.slice none 0 0] 145) none).put bT.next (.cells tv 145) none).next=bT.next+1:=rfl
  have hto:tv.all oneCell=true:=by
   by_cases hkk:k'=3\/k'=4
   .rw[htv1 hkk];rfl
   .rw[htv2 hkk];rfl
  have tt4:tv.take 4=tv:=List.take_of_length_le (by omega)
  simp -implicitDefEqProofs only[go_sem,AP,AdF,QX,b2,e3,has,htv4,hto,tt4]
  generalize aC.put _ _ _ _=bW at x4 hw4 b4 n4 ⊢
  have C4:Chg (· = l1) Z bW:=(C2.trans ((x3.trans x4).chg _) fun _ _ h=>h)
  have lp4:=lp2.keep ((x3.trans x4).get l1 (by omega))
  have g4:∀b,b<Z.next->b≠l1->bW.heap.get b=Z.heap.get b:=fun b hb hne=>C4.get b hb hne
  have y4:bW.cells bY=some [.func (.yield l0) #[] #[]]:=by
   rw[Av,g4 bY (hw.cells h.yld) (by omega),<-Av];exact h.yld
  have J4:OutJ l0 r0 bk bm bo fA gA (dedL (rkP done)) (fun b=>(B b/\l1<b)\/bW.next<=b) bW:=h.out.keep hw (fun b hb hn=>g4 b hn (by
   rcases hb with h'|h'|h'|h'|h'|h'
   .omega
   .omega
   .omega
   .omega
   .omega
   .have:=h'.2;omega)) fun b _ hb=>.inl hb
  have nn4:=C4.next
  have fin:∀bX:aC,bX=bW->dedL (rkP (done++[(path,D.mk (k':Int) z t ps)]))=dedL (rkP done)->∃B' V,CRes.ret (.bool true) none (bX.put l1 (.loop .ready none 116 ((List.range 7).map f) g 7 32 [9,10] Ew Ex r1) none)=.ret (.bool true) none V/\Wf V/\Chg B Z V/\(∀b,B' b->B b\/Z.next<=b)/\NamesI l0 r0 bk bm bo l1 r1 bY fA gA f g (done++[(path,D.mk (k':Int) z t ps)]) B' V:=fun bX h5 hded=>by
   subst h5
   have g5:∀(o:FObj) b,b<Z.next->b≠l1->(bX.put l1 o none).heap.get b=Z.heap.get b:=fun o b hb hne=>by rw[Ak,if_neg hne];exact g4 b hb hne
   refine⟨B,_,rfl,hw4.put _ _ _ (by omega),⟨by rw[Ao];omega,by have:=C4.clock;rw[AX];omega,fun b hb hB=>g5 _ b hb fun e=>hB (e ▸ h.has l1 (by simp))⟩,fun b hb=>.inl hb,⟨h.has,fun b hb=>⟨by rw[Ao];have:=(h.own b hb).1;omega,(h.own b hb).2⟩,bR.put _ _ _ _ _ _ _ _ _ _ _ _,⟨vr,(g5 _ r1 or' (by omega)).trans hr⟩,by rw[Av,g5 _ bY (hw.cells h.yld) (by omega),<-Av];exact h.yld,?_⟩⟩
   rw[hded]
   exact h.out.keep hw (fun b hb hn=>g5 _ b hn (by
    rcases hb with h'|h'|h'|h'|h'|h'
    .omega
    .omega
    .omega
    .omega
    .omega
    .have:=h'.2;omega)) fun _ _ h=>h
  by_cases hk34:k'=3\/k'=4
  .rw[htv1 hk34] at b4
   by_cases hk3:k'=3
   .subst hk3
    obtain⟨hts,rfl,rfl⟩:=hsy rfl
    obtain⟨r,hr8,rfl⟩:∃r,r<nT/\t=tx r:=⟨rank t,(J1 hts).2,(J1 hts).1.symm⟩
    have hms:∀m∈dedL (rkP done),m<nT:=fun m hm=>Ach hM m (by
     rw[Jl,rkP,List.mem_filterMap] at hm
     obtain⟨x,hx,e⟩:=hm
     rw[rk,rkP,List.mem_filterMap]
     exact⟨x,by rw[hall];simp[hx],e⟩)
    have hln:=Uv hM done (fun x hx=>by rw[hall];simp[hx])
    obtain⟨cA,e6,hw6,C6,J6⟩:=AcB n hw4 J4 ⟨hlt.1,hlt.2.1,hlt.2.2.1,hlt.2.2.2.1,by omega⟩ h3 h4 hr8 hms hln (fun b hb=>.inr hb) (fun b hb=>by
     rcases hb with hb|hb
     .have:=hb.2;omega
     .omega)
    have k3:(((3:Nat):Int)==3)=true:=by decide
    obtain rfl:ok=true:=hok.symm.trans (by decide)
    simp -implicitDefEqProofs only[go_sem,KF,JE,b4,k3,h2,y4,Ey,EJ,e6]
    have n6:=C6.next
    have lp6:=lp4.keep (C6.get l1 (by omega) (fun hq=>by
     rcases hq with h'|h'|h'|h'|h'
     .omega
     .omega
     .omega
     .have:=h'.2;omega
     .omega))
    rw[Ej _ _ _ _ _ _ _ _ _ _ l1 r1 _ _ lp6]
    have g6:∀(o:FObj) b,b<Z.next->¬ B b->(cA.put l1 o none).heap.get b=Z.heap.get b:=fun o b hb hB=>by
     have hne:b≠l1:=fun e=>hB (e ▸ h.has l1 (by simp))
     rw[Ak,if_neg hne,C6.get b (by omega) (fun hq=>by
      rcases hq with h'|h'|h'|h'|h'
      .exact hB (h.has b (by simp[h']))
      .exact hB (h.has b (by simp[h']))
      .exact hB (h.has b (by simp[h']))
      .exact hB h'.1
      .omega)]
     exact g4 b hb hne
    have g7:∀(o:FObj) b,b<Z.next->b≠l1->b≠l0->b≠bm->b≠bo->b<=l1->(cA.put l1 o none).heap.get b=Z.heap.get b:=fun o b hb h1 h2 h3 h4 h5=>by
     rw[Ak,if_neg h1,C6.get b (by omega) (fun hq=>by
      rcases hq with h'|h'|h'|h'|h'
      .omega
      .omega
      .omega
      .have:=h'.2;omega
      .omega)]
     exact g4 b hb h1
    refine⟨fun b=>B b\/(Z.next<=b/\b<cA.next),_,rfl,hw6.put _ _ _ (by omega),⟨by rw[Ao];omega,by have:=C4.clock;have:=C6.clock;rw[AX];omega,fun b hb hB=>g6 _ b hb hB⟩,fun b hb=>hb.imp id fun h=>h.1,⟨fun b hb=>.inl (h.has b hb),fun b hb=>?_,bR.put _ _ _ _ _ _ _ _ _ _ _ _,⟨vr,(g7 _ r1 or' (by omega) (by omega) (by omega) (by omega) (by omega)).trans hr⟩,by rw[Av,g7 _ bY (hw.cells h.yld) (by omega) (by omega) (by omega) (by omega) (by omega),<-Av];exact h.yld,?_⟩⟩
    .rw[Ao]
     rcases hb with hb|hb
     .exact⟨by have:=(h.own b hb).1;omega,(h.own b hb).2⟩
     .exact⟨hb.2,.inr (.inr (.inr (.inr (.inr (.inr (.inr (.inr (by omega)))))))) ⟩
    .rw[NK,show symR (path,D.mk ((3:Nat):Int) 0 (tx r) []).2=some r by show (if ((3:Nat):Int)=3 then some (rank (tx r)) else none)=_;rw[if_pos (show ((3:Nat):Int)=3 from rfl),Ars hr8],show (some r).toList=[r] from rfl,AcS]
     exact J6.keep hw6 (fun b hb hn=>by
      rw[Ak,if_neg (by
       rcases hb with h'|h'|h'|h'|h'|h'
       .omega
       .omega
       .omega
       .omega
       .omega
       .rcases h' with h'|h'
        .have:=h'.2;omega
        .omega)]) fun b hn hb=>by
      rcases hb with hb|hb
      .exact⟨.inl hb.1,hb.2⟩
      .exact⟨.inr ⟨by omega,hn⟩,by omega⟩
   .obtain rfl:k'=4:=by omega
    have k4:(((4:Nat):Int)==3)=false:=by decide
    obtain rfl:ok=true:=hok.symm.trans (by decide)
    simp -implicitDefEqProofs only[go_sem,KF,JE,b4,k4]
    rw[Ej _ _ _ _ _ _ _ _ _ _ l1 r1 _ _ lp4]
    exact fin bW rfl (by rw[NK,show symR (path,D.mk ((4:Nat):Int) z t ps).2=none from rfl];simp)
  .obtain rfl:ok=false:=hok.symm.trans (decide_eq_false hk34)
   simp -implicitDefEqProofs only[go_sem,KF,JE,b4]
   rw[Ej _ _ _ _ _ _ _ _ _ _ l1 r1 _ _ lp4]
   refine fin bW rfl ?_
   rw[NK,show symR (path,D.mk (k':Int) z t ps).2=none by show (if (k':Int)=3 then _ else none)=none;rw[if_neg (by omega)]]
   simp
end
section
open Go Go.Eng
attribute [local congr] Aa Af Ad Ab Ac
attribute [-go_sem] List.range_succ
variable [Tb]
theorem Adm(n:Nat){l0 r0 bk bm bo:Nat}{fA gA:Nat->Value}{d:D}(hM:Syms d)(lv:List Value)(h4:lv.length=4){R:Nat->Prop}{b0:Nat}(Z:aC)(hw:Wf Z)(hb0:Z.cells b0=some lv)(hLd:aU R Z (.agg lv.toArray) d)(hR:∀b,R b->b<bm)(hlt:bm<bk/\bk<bo/\bo<r0/\r0<l0/\l0<Z.next)(J:OutJ l0 r0 bk bm bo fA gA [] (fun _=>False) Z)(h3:fA 3=.pointer (some ⟨bk,0,none⟩))(h4':fA 4=.pointer (some ⟨bo,0,none⟩)):
  ∃V,(env (n+4)).call 116 [.func (.yield l0) #[] #[],.pointer (some ⟨b0,0,none⟩)] none Z=.ret (.tuple #[]) none V/\Wf V/\Chg (fun b=>b=l0\/b=bm\/b=bo\/b=bk\/b=r0) Z V/\OutJ l0 r0 bk bm bo fA gA (dedL (rk d)) (fun b=>Z.next<=b) V:=by
 rw[Ai _ 116 _ _ rfl,AfG _ _ _ _ (by simp),Ah]
 unfold Aat
 have x1:Ext Z (Z.push (.cells [.func (.yield l0) #[] #[]] 143) none):=(Ext.refl _).push _ _
 have hw1:=hw.push (.cells [.func (.yield l0) #[] #[]] 143) none
 have y1:(Z.push (.cells [.func (.yield l0) #[] #[]] 143) none).cells Z.next=some [.func (.yield l0) #[] #[]]:=by rw[Al,if_pos rfl];rfl
 have n1:(Z.push (.cells [.func (.yield l0) #[] #[]] 143) none).next=Z.next+1:=rfl
 simp -implicitDefEqProofs only[go_sem,AdC,QU,DX,Eu,EW]
 have c1:=(x1.cells (hw.cells hb0)).trans hb0
 generalize aC.push Z _ _=bS at x1 hw1 y1 n1 c1 ⊢
 generalize hff:upd _ 2 _=f1
 have q1:f1 1=.pointer (some ⟨b0,0,none⟩):=by rw[<-hff];simp -implicitDefEqProofs only[go_sem,reduceCtorEq]
 have q2:f1 2=.pointer (some ⟨Z.next,0,none⟩):=by rw[<-hff];simp -implicitDefEqProofs only[go_sem,reduceCtorEq]
 clear hff
 obtain⟨a_,b1,b2,e2,x2,hw2,hb1,hb2,cb2,cb1⟩:=Xc (n+1) lv h4 bS hw1
 have ht:lv.take 4=lv:=List.take_of_length_le (by omega)
 simp -implicitDefEqProofs only[go_sem,AdD,QV,q1,c1,h4,ht,e2,Nat.le_refl]
 generalize hgg:upd _ 8 _=gg
 have n2:=x2.next
 have hL2:aU R a_ (.agg lv.toArray) d:=hLd.keep fun b cs hb hc=>⟨((x1.trans x2).cells (hw.cells hc)).trans hc,hb⟩
 have y2:Ext a_ ((a_.push (.defd true) none).push (.loop .ready none 116 ((List.range 7).map f1) gg 7 32 [9,10] Ew Ex a_.next) none):=((Ext.refl _).push _ _).push _ _
 have x12:=x1.trans x2
 have yY:a_.cells Z.next=some [.func (.yield l0) #[] #[]]:=(x2.cells (by omega)).trans y1
 have J3:OutJ l0 r0 bk bm bo fA gA [] (fun b=>(b=l0\/b=r0\/b=bk\/b=bm\/b=bo\/b=a_.next+1\/b=a_.next\/b=Z.next)/\a_.next+1<b) ((a_.push (.defd true) none).push (.loop .ready none 116 ((List.range 7).map f1) gg 7 32 [9,10] Ew Ex a_.next) none):=J.keep hw (fun b _ hn=>(x12.trans y2).get b hn) fun _ _ h=>h.elim
 obtain⟨bT,B3,e3,ch3,n3,hB3,hw3,i3⟩:=I7 (n+2) 116 [9,10] Ew Ex 7 32 f1 gg [] none 8 b1 b2 a_ (.func (.func 141) #[] #[]) R d lv (NamesI l0 r0 bk bm bo (a_.next+1) a_.next Z.next fA gA f1 gg) (fun b=>b=l0\/b=r0\/b=bk\/b=bm\/b=bo\/b=a_.next+1\/b=a_.next\/b=Z.next)
  (XY n l0 r0 bk bm bo (a_.next+1) a_.next Z.next fA gA f1 gg R d hM ⟨hlt.1,hlt.2.1,hlt.2.2.1,hlt.2.2.2.1,hlt.2.2.2.2,by omega,by omega⟩ q2 h3 h4' hR) hM.small (by have:=hM.few;omega)
  (fun done B V h=>⟨h.loop,h.col⟩)
  ⟨fun b hb=>hb,fun b hb=>⟨by
   simp only[Ae]
   rcases hb with h|h|h|h|h|h|h|h<;>omega,by
   rcases hb with h|h|h|h|h|h|h|h<;>simp[h]⟩,Gk ..,⟨_,by rw[Aj,if_neg (by rw[Ae];omega),Aj,if_pos rfl]⟩,(y2.cells (by omega)).trans yY,J3⟩
  (by rw[Kf,<-hgg];simp -implicitDefEqProofs only[go_sem,reduceCtorEq]) hw2 cb1 (fun h=>by have:=hw2.cells cb1;rcases h with h|h|h|h|h|h|h|h<;>omega) hL2 (fun b hb=>by have:=hR b hb;omega) cb2 (fun h=>by have:=hw2.cells cb2;rcases h with h|h|h|h|h|h|h|h<;>omega)
 rw[e3]
 obtain⟨vr,hr⟩:=i3.col
 have hcol:∀(o:FObj),(bT.put (a_.next+1) o none).heap.get a_.next=some ⟨.defd true,false,none,vr⟩:=fun o=>by rw[Ak,if_neg (by omega)];exact hr
 simp -implicitDefEqProofs only[go_sem]
 rw[Ez _ _ _ _ _ _ _ _ _ _ (hcol _)]
 simp -implicitDefEqProofs only[go_sem]
 refine⟨_,rfl,(hw3.put _ _ _ (by omega)).put _ _ _ (by rw[Ao];omega),⟨by rw[Ao,Ao];omega,by have:=x12.clock;have:=ch3.clock;rw[AX,AX];omega,fun b hb hF=>?_⟩,i3.out.keep hw3 (fun b hb hn=>?_) fun b _ hb=>by have:=hb.2;omega⟩
 .rw[Ak,if_neg (by omega),Ak,if_neg (by omega),ch3.get b (by omega) (fun h=>?_)]
  .exact x12.get b hb
  .rcases h with h|h|h|h|h|h|h|h
   .exact hF (.inl h)
   .exact hF (.inr (.inr (.inr (.inr h))))
   .exact hF (.inr (.inr (.inr (.inl h))))
   .exact hF (.inr (.inl h))
   .exact hF (.inr (.inr (.inl h)))
   all_goals omega
 .have:b≠a_.next+1/\b≠a_.next:=by
   rcases hb with h|h|h|h|h|h
   .omega
   .omega
   .omega
   .omega
   .omega
   .have:=h.2;omega
  rw[Ak,if_neg this.2,Ak,if_neg this.1]
end
section
open Go Go.Eng
attribute [local congr] Aa Af Ad Ab Ac
attribute [-go_sem] List.range_succ
variable [Tb]
omit [Tb] in
theorem Ago(n:Nat)(lv:List Value)(h4:lv.length=4)(Z:aC)(hw:Wf Z):
  ∃V,(env (n+1)).call 70 [.agg lv.toArray] none Z=.ret (.func (.func 116) #[] #[.pointer (some ⟨Z.next,0,none⟩)]) none V/\Ext Z V/\Wf V/\V.cells Z.next=some lv:=by
 rw[Ai _ 70 _ _ rfl,Apq _ _ _ _ (by simp),Ah]
 unfold AnB
 simp -implicitDefEqProofs only[go_sem,Amb,ZG,Amc,ZH,h4,DX,Eu,EW]
 exact⟨_,rfl,(Ext.refl _).push _ _,hw.push _ _,by rw[Al,if_pos rfl];rfl⟩
theorem Aw6{d:D}(hM:Syms d){l:List Nat}(h:l.Pairwise (· < ·))(hm:∀z,z∈l↔z∈dedL (rk d)):l=asc fun r=>decide (r∈rk d):=P6 l _ h fun x=>by
 rw[hm,Jl]
 exact⟨fun h=>⟨Ach hM x h,decide_eq_true h⟩,fun h=>of_decide_eq_true h.2⟩
theorem P7(m:Nat){d:D}(hM:Syms d)(lv:List Value)(h4:lv.length=4){R:Nat->Prop}{b0:Nat}(Z:aC)(hw:Wf Z)(hb0:Z.cells b0=some lv)(hLd:aU R Z (.agg lv.toArray) d)(hR:∀b,R b->b<Z.next):
  Gives ((env (m+7)).call 69 [.func (.func 116) #[] #[.pointer (some ⟨b0,0,none⟩)]] none Z) Z fun w V=>Vecs 9 (fun b=>Z.next<=b) V w (strs (asc fun r=>decide (r∈rk d))):=by
 rw[Ai _ 69 _ _ rfl,App _ _ _ _ (by simp),Ah]
 unfold AnA
 have x1:Ext Z ((((Z.push (.map [] 0) none).push (.cells [.map none] 140) none).put (Z.next+1) (.cells [.map (some Z.next)] 140) none).push (.cells [.slice none 0 0] 35) none):=((((Ext.refl _).push _ _).push _ _).put _ _ _ (by omega)).push _ _
 have hw1:=(((hw.push (.map [] 0) none).push (.cells [.map none] 140) none).put (Z.next+1) (.cells [.map (some Z.next)] 140) none (by simp only[Ae];omega)).push (.cells [.slice none 0 0] 35) none
 have m1:((((Z.push (.map [] 0) none).push (.cells [.map none] 140) none).put (Z.next+1) (.cells [.map (some Z.next)] 140) none).push (.cells [.slice none 0 0] 35) none).heap.get Z.next=some ⟨.map [] 0,false,none,Z.clock⟩:=by
  rw[Aj,if_neg (by simp only[Ao,Ae];omega),Ak,if_neg (by omega),Aj,if_neg (by rw[Ae];omega),Aj,if_pos rfl]
 have k1:((((Z.push (.map [] 0) none).push (.cells [.map none] 140) none).put (Z.next+1) (.cells [.map (some Z.next)] 140) none).push (.cells [.slice none 0 0] 35) none).cells (Z.next+1)=some [.map (some Z.next)]:=by
  rw[Al,if_neg (by simp only[Ao,Ae];omega),Aq,if_pos rfl];rfl
 have o1:((((Z.push (.map [] 0) none).push (.cells [.map none] 140) none).put (Z.next+1) (.cells [.map (some Z.next)] 140) none).push (.cells [.slice none 0 0] 35) none).heap.get (Z.next+2)=some ⟨.cells [.slice none 0 0] 35,false,none,Z.clock+3⟩:=by
  rw[Aj,if_pos (by simp only[Ao,Ae])];rfl
 have n1:((((Z.push (.map [] 0) none).push (.cells [.map none] 140) none).put (Z.next+1) (.cells [.map (some Z.next)] 140) none).push (.cells [.slice none 0 0] 35) none).next=Z.next+3:=rfl
 have c1:=(x1.cells (hw.cells hb0)).trans hb0
 have om:oneCell (.map (some Z.next))=true/\aM (.map (some Z.next))=true/\aI (.map (some Z.next))=[.map (some Z.next)]:=⟨rfl,rfl,rfl⟩
 simp -implicitDefEqProofs only[go_sem,AP,Al2,Zy,Al4,Zz,Al5,ZA,Al6,ZB,om.1,om.2.1,om.2.2]
 generalize aC.push (aC.put _ _ _ _) _ _=bS at x1 hw1 m1 k1 o1 n1 c1 ⊢
 generalize hff:upd _ 4 _=f1
 generalize hgg:upd _ 9 _=gg
 have q3:f1 3=.pointer (some ⟨Z.next+1,0,none⟩):=by rw[<-hff];simp -implicitDefEqProofs only[go_sem,reduceCtorEq]
 have q4:f1 4=.pointer (some ⟨Z.next+2,0,none⟩):=by rw[<-hff];simp -implicitDefEqProofs only[go_sem,reduceCtorEq]
 clear hff
 rw[Kz _ _ _ _ _ _ _ _ _ _ _ _ 9 116 #[] #[.pointer (some ⟨b0,0,none⟩)] (by rw[Kf,<-hgg];simp -implicitDefEqProofs only[go_sem,reduceCtorEq])]
 clear hgg
 have x2:Ext bS ((bS.push (.defd true) none).push (.loop .ready none 69 ((List.range 8).map f1) gg 8 28 [10] El Em bS.next) none):=((Ext.refl _).push _ _).push _ _
 have hw2:=(hw1.push (.defd true) none).push (.loop .ready none 69 ((List.range 8).map f1) gg 8 28 [10] El Em bS.next) none
 have J2:OutJ (bS.next+1) bS.next (Z.next+1) Z.next (Z.next+2) f1 gg [] (fun _=>False) ((bS.push (.defd true) none).push (.loop .ready none 69 ((List.range 8).map f1) gg 8 28 [10] El Em bS.next) none):=
  ⟨Gk ..,⟨_,by rw[Aj,if_neg (by rw[Ae];omega),Aj,if_pos rfl]⟩,(x2.cells (by omega)).trans k1,⟨[],0,_,(x2.get _ (by omega)).trans m1,rfl,fun e he=>by cases he⟩,⟨_,_,(x2.get _ (by omega)).trans o1,.inl ⟨rfl,rfl⟩⟩⟩
 have n2:((bS.push (.defd true) none).push (.loop .ready none 69 ((List.range 8).map f1) gg 8 28 [10] El Em bS.next) none).next=bS.next+2:=rfl
 generalize aC.push (aC.push bS _ _) _ _=a_ at x2 hw2 J2 n2 ⊢
 have x02:=x1.trans x2
 obtain⟨bT,e3,hw3,ch3,J3⟩:=Adm (m+2) hM lv h4 (R:=R) a_ hw2 ((x2.cells (hw1.cells c1)).trans c1) (hLd.keep fun b cs hb hc=>⟨(x02.cells (hw.cells hc)).trans hc,hb⟩) hR ⟨by omega,by omega,by omega,by omega,by omega⟩ J2 q3 q4
 have hargs:(#[]:Array Value).toList++[Value.func (.yield (bS.next+1)) #[] #[]]++(#[.pointer (some ⟨b0,0,none⟩)]:Array Value).toList=[.func (.yield (bS.next+1)) #[] #[],.pointer (some ⟨b0,0,none⟩)]:=rfl
 obtain⟨hl3,⟨vr,hr3⟩,_,_,⟨s,vo,ho3,hV3⟩⟩:=J3
 rw[hargs,e3,Jt _ _ _ _ _ _ _ _ _ _ _ _ _ _ _ _ hl3]
 have n3:=ch3.next
 have o4:∀o:FObj,(bT.put (bS.next+1) o none).cells (Z.next+2)=some [s]:=fun o=>by rw[Aq,if_neg (by omega)];exact AB ho3
 have hV4:∀o:FObj,Vecs 9 (fun b=>a_.next<=b) (bT.put (bS.next+1) o none) s (strs (dedL (rk d))):=fun o=>hV3.keep (fun b hb hn=>⟨by rw[Ak,if_neg (by omega)],hb⟩) hw3
 have hw4:∀o:FObj,Wf (bT.put (bS.next+1) o none):=fun o=>hw3.put _ _ _ (by omega)
 obtain⟨bX,l',e5,ch5,hw5,hV5,hp5,hm5,_⟩:=Arx m _ (hw4 (.loop .exhausted none 69 ((List.range 8).map f1) gg 8 28 [10] El Em bS.next)) (hV4 _) (Mw _) (fun r hr=>Ach hM r ((Jl _ r).1 hr)) (Uv hM _ fun x hx=>hx)
 have n5:=ch5.next
 rw[Ao] at n5
 have o5:bX.cells (Z.next+2)=some [s]:=(ch5.cells (by rw[Ao];omega) (by omega)).trans (o4 _)
 have r5:bX.heap.get bS.next=some ⟨.defd true,false,none,vr⟩:=(ch5.get _ (by rw[Ao];omega) (by omega)).trans (by rw[Ak,if_neg (by omega)];exact hr3)
 rw[Aw6 hM hp5 hm5] at hV5
 have o:=hV5.one
 simp -implicitDefEqProofs only[go_sem,Ama,ZF,AeR,SY,q4,o4,e5,o5,o.1,o.2.1,o.2.2]
 rw[Ez _ _ _ _ _ _ _ _ _ _ r5]
 simp -implicitDefEqProofs only[go_sem]
 refine⟨_,_,rfl,⟨by rw[Ao];have:=x1.next;omega,by have:=x02.clock;have:=ch3.clock;have:=ch5.clock;rw[AX] at this;rw[AX];omega,fun b hb=>?_⟩,hw5.put _ _ _ (by omega),hV5.keep (fun b hb hn=>⟨by rw[Ak,if_neg (by omega)],by omega⟩) hw5⟩
 rw[Ak,if_neg (by omega),ch5.get b (by rw[Ao];omega) (by omega),Ak,if_neg (by omega),ch3.get b (by omega) (by omega)]
 exact x02.get b hb
end
section
open Go Go.Eng
attribute [local congr] Aa Af Ad Ab Ac
attribute [-go_sem] List.range_succ
theorem Lt(n b1 b2:Nat)(c z x1 x2:Int)(v1 v2:Nat)(Z:aC)(hw:Wf Z)(hne:b1≠b2)(g1:Z.heap.get b1=some ⟨.cells [.int .i64 x1] 3,false,none,v1⟩)(g2:Z.heap.get b2=some ⟨.cells [.int .i64 x2] 32,false,none,v2⟩):
  ∃bS,Ext Z bS/\Wf bS/\(env (n+3)).call 142 [.pointer (some ⟨b1,0,none⟩),.pointer (some ⟨b2,0,none⟩)] (some (.panicking [failing c z])) Z=
   .ret (.tuple #[]) (some (.panicking [failed c z])) ((bS.put b1 (.cells [.int .i64 z] 3) none).put b2 (.cells [.int .i64 c] 32) none):=by
 rw[Fz,UG _ _ _ _ (by simp),Ah]
 unfold TE
 obtain⟨_,a_,e2,hX2,hw2,rfl⟩:=EU n c z Z hw
 have m1:=(hw _ _ g1).1
 have m2:=(hw _ _ g2).1
 have k1:a_.heap.get b1=_:=(hX2.get b1 m1).trans g1
 have k2:a_.heap.get b2=_:=(hX2.get b2 m2).trans g2
 have l1:a_.next≠b1:=by have:=hX2.next;omega
 have l2:a_.next≠b2:=by have:=hX2.next;omega
 have w4:Wf ((a_.push (.cells [.int .i64 0,.int .i64 0] 171) none).put a_.next (.cells [.int .i64 c,.int .i64 z] 171) none):=(hw2.push (.cells [.int .i64 0,.int .i64 0] 171) none).put _ _ _ (by simp only[Ae];omega)
 have hv4:=D1 (lam:=a_.clock+2) w4 (Nat.le_refl _)
 simp -implicitDefEqProofs only[go_sem,N8,hv4,AP,Pv,L7,Pw,L8,Ad9,Ry,Aea,Rz,Aeb,RA,Aec,RB,FM,Xz,Ku,e2,k1,k2,l1,l2,l1.symm,l2.symm,hne,hne.symm,Bb,AH]
 refine⟨_,(hX2.push _ _).put _ _ _ hX2.next,w4,rfl⟩
theorem Oc(n w:Nat)(cap:Array Value)(c z:Int)(Z:aC)(hw:Wf Z)(h:∀V,Ext Z V->Wf V->Fails ((env (n+3)).call w cap.toList none V) V c z):
  Gives ((env (n+4)).call 114 [.func (.func w) #[] cap] none Z) Z fun v _=>v=.tuple #[.slice none 0 0,.int .i64 z,.int .i64 c]:=by
 rw[Ai _ 114 _ _ rfl,UC _ _ _ _ (by simp),Ah]
 unfold Tz
 have hX1:Ext Z ((Z.push (.cells [.int .i64 0] 3) none).push (.cells [.int .i64 0] 32) none):=((Ext.refl _).push _ _).push _ _
 have hw1:=(hw.push (.cells [.int .i64 0] 3) none).push (.cells [.int .i64 0] 32) none
 obtain⟨a_,e2,hX2,hw2⟩:=h _ hX1 hw1
 have g1:a_.heap.get Z.next=_:=(hX2.get Z.next (by simp only[Ae];omega)).trans (by simp -implicitDefEqProofs only[Aj,Ae,Nat.add_assoc,Nat.reduceAdd,Nat.left_eq_add,reduceCtorEq,↓reduceIte,Nat.reduceEqDiff]<;>rfl)
 have g2:a_.heap.get (Z.next+1)=_:=(hX2.get (Z.next+1) (by simp only[Ae];omega)).trans (by simp -implicitDefEqProofs only[Aj,Ae,Nat.add_assoc,Nat.reduceAdd,Nat.add_left_cancel_iff,reduceCtorEq,↓reduceIte,Nat.reduceEqDiff]<;>rfl)
 obtain⟨bT,hX3,hw3,e3⟩:=Lt n Z.next (Z.next+1) c z 0 0 _ _ a_ hw2 (by omega) g1 g2
 have m1:=(hw2 _ _ g1).1
 have m2:=(hw2 _ _ g2).1
 simp -implicitDefEqProofs only[go_sem,AP,Pd,LK,Pe,LL,Pf,LM,e2,Bi,Aw,AG,IY,e3,E9,Kg,Gg,Bb,AH,AL,Dl,BD]
 have hn3:=hX3.next
 refine⟨_,_,rfl,?_,?_,rfl⟩
 .exact(((hX1.trans hX2).trans hX3).put Z.next _ _ (Nat.le_refl _)).put (Z.next+1) _ _ (Nat.le_add_right _ _)
 .exact(hw3.put Z.next _ _ (by omega)).put (Z.next+1) _ _ (by simp only[Ao];omega)
theorem Uj(n w:Nat)(cap:Array Value)(c z:Int)(Z:aC)(hw:Wf Z)(h:∀V,Ext Z V->Wf V->Fails ((env (n+3)).call w cap.toList none V) V c z):
  Gives ((env (n+5)).call 67 [.func (.func w) #[] cap] none Z) Z fun v _=>v=.tuple #[.slice none 0 0,.int .i64 c]:=by
 rw[Ai _ 67 _ _ rfl,Abc _ _ _ _ (by simp),Ah]
 unfold Acm
 obtain⟨_,a_,e2,hX2,hw2,rfl⟩:=Oc n w cap c z Z hw h
 simp -implicitDefEqProofs only[go_sem,Wj,ST,Wk,SU,Wl,SV,e2,Bb,AH,AL,BD]
 exact⟨_,_,rfl,hX2,hw2,rfl⟩
variable [Tb]
omit [Tb] in
theorem Uz(n:Nat)(p q:Value)(Z:aC):(env (n+1)).call 142 [p,q] (some .returning) Z=.ret (.tuple #[]) (some .returning) Z:=by
 rw[Fz,UG _ _ _ _ (by simp),Ah]
 unfold TE
 simp -implicitDefEqProofs only[go_sem,Pv,L7,Pw,L8,Ad8,Rx,X0]
theorem Aoi(n w:Nat)(cap:Array Value)(l:List Nat)(Z:aC)(hw:Wf Z)(h:∀V,Ext Z V->Wf V->Gives ((env (n+1)).call w cap.toList none V) V fun v bZ=>Vecs 9 (fun b=>V.next<=b) bZ v (strs l)):
  Gives ((env (n+2)).call 114 [.func (.func w) #[] cap] none Z) Z fun v V=>∃s,v=.tuple #[s,.int .i64 0,.int .i64 0]/\Vecs 9 (fun b=>Z.next<=b) V s (strs l):=by
 rw[Ai _ 114 _ _ rfl,UC _ _ _ _ (by simp),Ah]
 unfold Tz
 have hX1:Ext Z ((Z.push (.cells [.int .i64 0] 3) none).push (.cells [.int .i64 0] 32) none):=((Ext.refl _).push _ _).push _ _
 have hw1:=(hw.push (.cells [.int .i64 0] 3) none).push (.cells [.int .i64 0] 32) none
 obtain⟨s,a_,e2,hX2,hw2,hV⟩:=h _ hX1 hw1
 have g0:a_.heap.get Z.next=_:=(hX2.get Z.next (by simp only[Ae];omega)).trans (by simp -implicitDefEqProofs only[Aj,Ae,Nat.add_assoc,Nat.reduceAdd,Nat.left_eq_add,reduceCtorEq,↓reduceIte,Nat.reduceEqDiff]<;>rfl)
 have g1:a_.heap.get (Z.next+1)=_:=(hX2.get (Z.next+1) (by simp only[Ae];omega)).trans (by simp -implicitDefEqProofs only[Aj,Ae,Nat.add_assoc,Nat.reduceAdd,Nat.add_left_cancel_iff,reduceCtorEq,↓reduceIte,Nat.reduceEqDiff]<;>rfl)
 have o:=hV.one
 simp -implicitDefEqProofs only[go_sem,AP,Pd,LK,Pe,LL,Pf,LM,e2,o.1,o.2.1,o.2.2,g0,g1,Kg,Gg,Uz,Bb,AH,AL,Dl,BD]
 have m0:=(hw2 _ _ g0).1
 have m1:=(hw2 _ _ g1).1
 exact⟨_,_,rfl,((hX1.trans hX2).put _ _ _ (Nat.le_refl _)).put _ _ _ (Nat.le_add_right _ _),(hw2.put _ _ _ m0).put _ _ _ m1,s,rfl,hV.keep (fun b hb hn=>by
  simp only[Ae] at hb
  exact⟨by rw[Ak,if_neg (by omega),Ak,if_neg (by omega)],by omega⟩) hw2⟩
theorem Axo(n w:Nat)(cap:Array Value)(l:List Nat)(Z:aC)(hw:Wf Z)(h:∀V,Ext Z V->Wf V->Gives ((env (n+1)).call w cap.toList none V) V fun v bZ=>Vecs 9 (fun b=>V.next<=b) bZ v (strs l)):
  Gives ((env (n+3)).call 67 [.func (.func w) #[] cap] none Z) Z fun v V=>∃s,v=.tuple #[s,.int .i64 0]/\Vecs 9 (fun b=>Z.next<=b) V s (strs l):=by
 rw[Ai _ 67 _ _ rfl,Abc _ _ _ _ (by simp),Ah]
 unfold Acm
 obtain⟨_,a_,e2,hX2,hw2,s,rfl,hV⟩:=Aoi n w cap l Z hw h
 have o:=hV.one
 simp -implicitDefEqProofs only[go_sem,Wj,ST,Wk,SU,Wl,SV,e2,o.1,o.2.1,o.2.2,Bb,AH,AL,BD]
 exact⟨_,_,rfl,hX2,hw2,s,rfl,hV⟩
def symsR(d:D):List Nat:=if bC d=0 then asc (fun r=>decide (r∈rk d)) else []
def SymOk(d:D)(S:Nat->Prop)(Z:aC)(w:Value):Prop:=∃s,w=.tuple #[s,.int .i64 (bC d:Nat)]/\TxtR S Z s (symsR d)
section
variable (M m:Nat) (hm:M=m+22) (d:D) (hc:d.count<=400) (hS:bC d=0->Syms d) (lv:List Value) (h4:lv.length=4)
include hm hc hS h4
theorem PT(b0:Nat)(Z:aC)(hw:Wf Z)(hb0:Z.cells b0=some lv)(hLd:aU (fun b=>b<Z.next) Z (.agg lv.toArray) d):
  (bC d=0->Gives ((env (M+6)).call 68 [.pointer (some ⟨b0,0,none⟩)] none Z) Z fun w V=>Vecs 9 (fun b=>Z.next<=b) V w (strs (asc fun r=>decide (r∈rk d))))/\
  (bC d≠0->Fails ((env (M+6)).call 68 [.pointer (some ⟨b0,0,none⟩)] none Z) Z (bC d:Nat) 0):=by
 rw[Ai _ 68 _ _ rfl,Apo _ _ _ _ (by simp),Ah]
 unfold Anz
 have ht:lv.take 4=lv:=List.take_of_length_le (by omega)
 refine⟨fun e0=>?_,fun e0=>?_⟩
 .obtain⟨_,bS,e1,x1,hw1,rfl⟩:=K1 m d e0 (by omega) lv h4 _ Z hw hLd (fun b hb=>hb)
  rw[show m+27=M+5 by omega] at e1
  have c1:=(x1.cells (hw.cells hb0)).trans hb0
  obtain⟨a_,e2,x2,hw2,c2⟩:=Ago (M+4) lv h4 bS hw1
  have x02:=x1.trans x2
  obtain⟨s,bT,e3,x3,hw3,hV⟩:=P7 (m+20) (hS e0) lv h4 (R:=fun b=>b<Z.next) a_ hw2 c2 (hLd.keep fun b cs hb hc=>⟨(x02.cells (hw.cells hc)).trans hc,hb⟩) (fun b hb=>by have:=x02.next;omega)
  rw[show m+20+7=M+5 by omega] at e3
  have o:=hV.one
  simp -implicitDefEqProofs only[go_sem,Wm,SW,Wn,SX,Al1,Zx,hb0,c1,h4,ht,e1,e2,e3,o.1,o.2.1,o.2.2,Nat.le_refl]
  exact⟨_,_,rfl,x02.trans x3,hw3,hV.keep (fun b hb hn=>⟨rfl,by have:=x02.next;omega⟩) hw3⟩
 .obtain⟨bS,e1,x1,hw1⟩:=K2 m d e0 (by omega) lv h4 _ Z hw hLd (fun b hb=>hb)
  rw[show m+27=M+5 by omega] at e1
  simp -implicitDefEqProofs only[go_sem,Wm,SW,Wn,SX,hb0,h4,ht,e1,Nat.le_refl,Bi,Aw,AG,Bd]
  exact⟨_,rfl,x1,hw1⟩
theorem W7(Z:aC)(hw:Wf Z)(hLd:aU (fun b=>b<Z.next) Z (.agg lv.toArray) d):
  Gives ((env (M+9)).call 13 [.agg lv.toArray] none Z) Z fun w V=>SymOk d (fun _=>True) V w:=by
 rw[Ai _ 13 _ _ rfl,Ao4 _ _ _ _ (by simp),Ah]
 unfold Ane SymOk symsR
 have x1:Ext Z (Z.push (.cells lv TD) none):=(Ext.refl _).push _ _
 have hw1:=hw.push (.cells lv TD) none
 have c1:(Z.push (.cells lv TD) none).cells Z.next=some lv:=by rw[Al,if_pos rfl];rfl
 have st:∀ {τ:aC},Ext Z τ->aU (fun b=>b<τ.next) τ (.agg lv.toArray) d:=fun hX=>hLd.keep fun b cs hb hc=>⟨(hX.cells hb).trans hc,by have:=hX.next;omega⟩
 by_cases e0:bC d=0
 .simp only[if_pos e0]
  obtain⟨_,a_,e2,x2,hw2,s,rfl,hV⟩:=Axo (M+5) 68 #[.pointer (some ⟨Z.next,0,none⟩)] (asc fun r=>decide (r∈rk d)) _ hw1 fun V hx' hw'=>
   (PT M m hm d hc hS lv h4 Z.next V hw' ((hx'.cells (hw1.cells c1)).trans c1) (st (x1.trans hx'))).1 e0
  have o:=hV.one
  simp -implicitDefEqProofs only[go_sem,VG,Rt,VH,Ru,e2,h4,o.1,o.2.1,o.2.2,Bb,AH,AL,BD]
  exact⟨_,_,rfl,x1.trans x2,hw2,s,by rw[e0];rfl,(N7 hV).keep fun b cs _ hc=>⟨hc,trivial⟩⟩
 .simp only[if_neg e0]
  obtain⟨_,a_,e2,x2,hw2,rfl⟩:=Uj (M+3) 68 #[.pointer (some ⟨Z.next,0,none⟩)] (bC d:Nat) 0 _ hw1 fun V hx' hw'=>
   (PT M m hm d hc hS lv h4 Z.next V hw' ((hx'.cells (hw1.cells c1)).trans c1) (st (x1.trans hx'))).2 e0
  simp -implicitDefEqProofs only[go_sem,VG,Rt,VH,Ru,e2,h4,Bb,AH,AL,BD]
  exact⟨_,_,rfl,x1.trans x2,hw2,_,rfl,.inl ⟨rfl,rfl⟩⟩
end
end
end Go.Proofs.YtknnbjmcfibpgaaGreatDoor
end
