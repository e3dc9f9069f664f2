import Derived.Test.YtknnbjmcfibpgaaGreatDoorU3
import Derived.Test.YtknnbjmcfibpgaaGreatDoorU7
import Derived.Test.YtknnbjmcfibpgaaGreatDoorU5
import Derived.Test.YtknnbjmcfibpgaaGreatDoorZSymTL
import Derived.Test.YtknnbjmcfibpgaaGreatDoorU4
import Derived.ChangeArms
import Derived.DataReads
import Derived.ChangeSlices
import Derived.OpenShut
import Derived.Carry
set_option linter.unusedSimpArgs false
set_option linter.unusedVariables false
noncomputable section
namespace Go.Proofs.YtknnbjmcfibpgaaGreatDoor
section
open Go Go.Eng
variable (E:Env) (ro:Option Nat) (last:List Nat->aZ) (cl:List Nat) (a:aY) (u:Option FrameMode) (Z:aC)
def PB(_:Unit):List COp:=[⟨fun a Z=>fbox 24 (a.get 0) Z,some 4,tT⟩,
 ⟨fun a Z=>fbox 24 (a.get 1) Z,some 5,tT⟩,
 ⟨fun a Z=>.val (.bool false) Z,some 8,tT⟩]
def Av4:List COp:=PB ()
def PD(_:Unit):List COp:=[⟨fun a Z=>aG (some 4) (a.get 4) Z,some 31,tT⟩,
 ⟨fun a Z=>.enter 6 [(a.get 31)] Z,some 32,tT⟩,
 ⟨fun a Z=>.val (a.get 32) Z,some 33,tT⟩,
 ⟨fun a Z=>aG (some 4) (a.get 5) Z,some 34,fun a=>gd (a.get 33) false⟩,
 ⟨fun a Z=>.enter 6 [(a.get 34)] Z,some 35,fun a=>gd (a.get 33) false⟩,
 ⟨fun a Z=>bM (a.get 33) (.bool true) (a.get 35) Z,some 36,tT⟩,
 ⟨fun a Z=>.val (a.get 36) Z,some 37,tT⟩,
 ⟨fun a Z=>.val (a.get 2) Z,some 38,fun a=>gd (a.get 37) false⟩,
 ⟨fun a Z=>flenL (a.get 38) Z,some 39,fun a=>gd (a.get 37) false⟩,
 ⟨fun a Z=>i_gtr Tryz.prog 3 (.tmp 39) (.const (.int .i64 8)) (a.get 39) (.int .i64 8) Z,some 40,fun a=>gd (a.get 37) false⟩,
 ⟨fun a Z=>bM (a.get 37) (.bool true) (a.get 40) Z,some 41,tT⟩]
def Av5:List COp:=PD ()
def VH(_:Unit):List COp:=[⟨fun a Z=>.enter 7 [] Z,some 42,tT⟩,
 ⟨fun a Z=>.val (a.get 42) Z,some 8,tT⟩]
def Av6:List COp:=VH ()
def Akw(_:Unit):List COp:=[⟨fun a Z=>.val (.int .i64 0) Z,some 9,tT⟩]
def Av8:List COp:=Akw ()
def VI(_:Unit):List COp:=[⟨fun a Z=>.val (a.get 9) Z,some 43,tT⟩,
 ⟨fun a Z=>.val (a.get 2) Z,some 44,tT⟩,
 ⟨fun a Z=>flenL (a.get 44) Z,some 45,tT⟩,
 ⟨fun a Z=>i_lss Tryz.prog 3 (.tmp 43) (.tmp 45) (a.get 43) (a.get 45) Z,some 46,tT⟩]
def AwY:List COp:=VI ()
def Ab1(_:Unit):List COp:=[⟨fun a Z=>.val (a.get 2) Z,some 49,tT⟩,
 ⟨fun a Z=>.val (a.get 9) Z,some 50,tT⟩,
 ⟨fun a Z=>bC (none,4) (a.get 49) (a.get 50) Z,some 51,tT⟩,
 ⟨fun a Z=>aG (some 4) (a.get 51) Z,some 52,tT⟩,
 ⟨fun a Z=>.enter 6 [(a.get 52)] Z,some 53,tT⟩]
def Aw0:List COp:=Ab1 ()
def Aky(_:Unit):List COp:=[⟨fun a Z=>.enter 7 [] Z,some 54,tT⟩,
 ⟨fun a Z=>.val (a.get 54) Z,some 8,tT⟩]
def Aw1:List COp:=Aky ()
def Akx(_:Unit):List COp:=[⟨fun a Z=>.val (a.get 9) Z,some 47,tT⟩,
 ⟨fun a Z=>i_add Tryz.prog 3 (.tmp 47) (.const (.int .i64 1)) (a.get 47) (.int .i64 1) Z,some 48,tT⟩,
 ⟨fun a Z=>.val (a.get 48) Z,some 9,tT⟩]
def AwZ:List COp:=Akx ()
def UN(E:Env)(ro:Option Nat)(fn:FuncId):aZ:=(aF (aF (aD E ro AwY) (aN (fun a=>(a.get 46)) aV (exitR 0))) (aF (aW 1 (aF (aD E ro Aw0) (aN (fun a=>(a.get 53)) (aF (aD E ro Aw1) bL) aV))) (aD E ro AwZ)))
def Akz(_:Unit):List COp:=[⟨fun a Z=>.val (a.get 3) Z,some 55,tT⟩,
 ⟨fun a Z=>.enter 9 [(a.get 55)] Z,some 56,tT⟩,
 ⟨fun a Z=>.val (a.get 56) Z,some 10,tT⟩]
def Awa:List COp:=Akz ()
def AkA(_:Unit):List COp:=[⟨fun a Z=>.val (.slice none 0 0) Z,some 11,tT⟩]
def Awb:List COp:=AkA ()
def YJ(_:Unit):List COp:=[⟨fun a Z=>.val (a.get 10) Z,some 57,tT⟩,
 ⟨fun a Z=>.enter 19 [(a.get 57),(.int .i64 4)] Z,some 58,tT⟩,
 ⟨fun a Z=>.val (a.get 58) Z,some 12,tT⟩]
def Aka:List COp:=YJ ()
def Se(_:Unit):List COp:=[⟨fun a Z=>.val (a.get 12) Z,some 59,tT⟩,
 ⟨fun a Z=>i_gtr Tryz.prog 3 (.tmp 59) (.const (.int .i64 0)) (a.get 59) (.int .i64 0) Z,some 60,tT⟩]
def Ar4:List COp:=Se ()
def YL(_:Unit):List COp:=[⟨fun a Z=>.val (a.get 11) Z,some 63,tT⟩,
 ⟨fun a Z=>.val (a.get 10) Z,some 64,tT⟩,
 ⟨fun a Z=>.enter 8 [(a.get 64),(.int .i64 3)] Z,some 65,tT⟩,
 ⟨fun a Z=>aX 24 1 4 [(.int .i64 0),(.int .i64 0),(.string ⟨#[]⟩),(.slice none 0 0)] [(0,(a.get 65))] Z,some 66,tT⟩,
 ⟨fun a Z=>fappend 24 4 56 (a.get 63) (a.get 66) Z,some 67,tT⟩,
 ⟨fun a Z=>.val (a.get 67) Z,some 11,tT⟩]
def Ar6:List COp:=YL ()
def YK(_:Unit):List COp:=[⟨fun a Z=>.val (a.get 12) Z,some 61,tT⟩,
 ⟨fun a Z=>i_sub Tryz.prog 3 (.tmp 61) (.const (.int .i64 1)) (a.get 61) (.int .i64 1) Z,some 62,tT⟩,
 ⟨fun a Z=>.val (a.get 62) Z,some 12,tT⟩]
def Ar5:List COp:=YK ()
def AfG(E:Env)(ro:Option Nat)(fn:FuncId):aZ:=(aF (aF (aD E ro Ar4) (aN (fun a=>(a.get 60)) aV (exitR 2))) (aF (aW 3 (aD E ro Ar6)) (aD E ro Ar5)))
def YM(_:Unit):List DOp:=[⟨fun a Z=>.val (a.get 11) Z,some 69,tT,some 0,false⟩,
 ⟨fun a Z=>bP (fun i=>nth [(0,1),(1,1),(2,1),(3,1)] i) [(.int .i64 0),(.int .i64 0),(.string ⟨#[]⟩),(.slice none 0 0)] [] Z,some 70,tT,some 0,false⟩,
 ⟨fun a Z=>.enter 20 [(a.get 69),(a.get 70)] Z,some 71,tT,none,false⟩,
 ⟨fun a Z=>.val (a.get 11) Z,some 72,tT,some 0,false⟩,
 ⟨fun a Z=>bP (fun i=>nth [(0,1),(1,1),(2,1),(3,1)] i) [(.int .i64 0),(.int .i64 0),(.string ⟨#[]⟩),(.slice none 0 0)] [] Z,some 73,tT,some 0,false⟩,
 ⟨fun a Z=>.enter 20 [(a.get 72),(a.get 73)] Z,some 74,tT,none,false⟩,
 ⟨fun a Z=>.val (a.get 10) Z,some 77,tT,some 0,false⟩,
 ⟨fun a Z=>.enter 8 [(a.get 77),(.int .i64 3)] Z,some 78,tT,none,false⟩,
 ⟨fun a Z=>aG (some 4) (a.get 4) Z,some 68,tT,some 0,false⟩,
 ⟨fun a Z=>aX 24 3 4 [(.int .i64 0),(.int .i64 0),(.string ⟨#[]⟩),(.slice none 0 0)] [(0,(a.get 68)),(1,(a.get 71)),(2,(a.get 74))] Z,some 75,tT,some 2,false⟩,
 ⟨fun a Z=>aG (some 4) (a.get 5) Z,some 76,tT,some 0,false⟩,
 ⟨fun a Z=>aG (some 4) (a.get 5) Z,some 79,tT,some 0,false⟩,
 ⟨fun a Z=>aX 24 3 4 [(.int .i64 0),(.int .i64 0),(.string ⟨#[]⟩),(.slice none 0 0)] [(0,(a.get 76)),(1,(a.get 78)),(2,(a.get 79))] Z,some 80,tT,some 3,false⟩,
 ⟨fun a Z=>.val (a.get 2) Z,some 81,tT,some 0,false⟩,
 ⟨fun a Z=>.val (a.get 11) Z,some 82,tT,some 0,false⟩,
 ⟨fun a Z=>.val (a.get 2) Z,some 83,tT,some 0,false⟩,
 ⟨fun a Z=>aX 22 3 1 [(.slice none 0 0)] [(0,(a.get 81)),(1,(a.get 82)),(2,(a.get 83))] Z,some 84,tT,some 0,false⟩,
 ⟨fun a Z=>.val (a.get 75) Z,some 13,tT,some 3,false⟩,
 ⟨fun a Z=>.val (a.get 80) Z,some 14,tT,some 3,false⟩,
 ⟨fun a Z=>.val (a.get 84) Z,some 15,tT,some 3,false⟩]
def Ake:List DOp:=YM ()
def YN(_:Unit):List COp:=[⟨fun a Z=>.val (.int .i64 0) Z,some 16,tT⟩]
def Akg:List COp:=YN ()
def Sf(_:Unit):List COp:=[⟨fun a Z=>.val (a.get 16) Z,some 85,tT⟩,
 ⟨fun a Z=>.val (a.get 13) Z,some 86,tT⟩,
 ⟨fun a Z=>flenL (a.get 86) Z,some 87,tT⟩,
 ⟨fun a Z=>i_lss Tryz.prog 3 (.tmp 85) (.tmp 87) (a.get 85) (a.get 87) Z,some 88,tT⟩]
def Ar7:List COp:=Sf ()
def YP(_:Unit):List DOp:=[⟨fun a Z=>.val (a.get 13) Z,some 91,tT,some 0,false⟩,
 ⟨fun a Z=>.val (a.get 16) Z,some 92,tT,some 0,false⟩,
 ⟨fun a Z=>bC (none,4) (a.get 91) (a.get 92) Z,some 93,tT,some 0,false⟩,
 ⟨fun a Z=>aG (some 4) (a.get 93) Z,some 94,tT,some 0,false⟩,
 ⟨fun a Z=>.enter 10 [(a.get 94)] Z,some 95,tT,none,false⟩,
 ⟨fun a Z=>.val (a.get 15) Z,some 96,tT,some 0,false⟩,
 ⟨fun a Z=>.val (a.get 16) Z,some 97,tT,some 0,false⟩,
 ⟨fun a Z=>bC (none,1) (a.get 96) (a.get 97) Z,some 98,tT,some 0,false⟩,
 ⟨fun a Z=>aG none (a.get 98) Z,some 99,tT,some 0,false⟩,
 ⟨fun a Z=>.enter 21 [(a.get 99)] Z,some 100,tT,none,false⟩,
 ⟨fun a Z=>aM [(.int .i64 0),(.int .i64 0),(.string ⟨#[]⟩),(.slice none 0 0)] 24 none Z,some 17,tT,some 0,false⟩,
 ⟨fun a Z=>aK 4 (a.get 17) (a.get 95) Z,none,tT,none,true⟩,
 ⟨fun a Z=>.val (a.get 100) Z,some 18,tT,some 3,false⟩]
def Ar9:List DOp:=YP ()
def YQ(_:Unit):List COp:=[⟨fun a Z=>aG (some 4) (a.get 17) Z,some 102,tT⟩,
 ⟨fun a Z=>.enter 22 [(a.get 102)] Z,some 103,tT⟩,
 ⟨fun a Z=>.val (a.get 103) Z,some 101,tT⟩,
 ⟨fun a Z=>aJ 0 (a.get 101) Z,some 104,tT⟩,
 ⟨fun a Z=>aJ 1 (a.get 101) Z,some 105,tT⟩,
 ⟨fun a Z=>.val (a.get 104) Z,some 19,tT⟩,
 ⟨fun a Z=>.val (a.get 105) Z,some 20,tT⟩]
def Asa:List COp:=YQ ()
def YR(_:Unit):List COp:=[⟨fun a Z=>.val (a.get 13) Z,some 107,tT⟩,
 ⟨fun a Z=>.val (a.get 16) Z,some 108,tT⟩,
 ⟨fun a Z=>bC (none,4) (a.get 107) (a.get 108) Z,some 109,tT⟩,
 ⟨fun a Z=>aG (some 4) (a.get 109) Z,some 110,tT⟩,
 ⟨fun a Z=>.enter 23 [(a.get 110)] Z,some 111,tT⟩,
 ⟨fun a Z=>.val (a.get 111) Z,some 106,tT⟩,
 ⟨fun a Z=>aJ 0 (a.get 106) Z,some 112,tT⟩,
 ⟨fun a Z=>aJ 1 (a.get 106) Z,some 113,tT⟩,
 ⟨fun a Z=>.val (a.get 112) Z,some 21,tT⟩,
 ⟨fun a Z=>.val (a.get 113) Z,some 22,tT⟩]
def Asb:List COp:=YR ()
def YS(_:Unit):List COp:=[⟨fun a Z=>.val (a.get 18) Z,some 115,tT⟩,
 ⟨fun a Z=>.enter 24 [(a.get 115)] Z,some 116,tT⟩,
 ⟨fun a Z=>.val (a.get 116) Z,some 114,tT⟩,
 ⟨fun a Z=>aJ 0 (a.get 114) Z,some 117,tT⟩,
 ⟨fun a Z=>aJ 1 (a.get 114) Z,some 118,tT⟩,
 ⟨fun a Z=>aM [(.int .i64 0),(.int .i64 0),(.string ⟨#[]⟩),(.slice none 0 0)] 24 none Z,some 23,tT⟩,
 ⟨fun a Z=>aK 4 (a.get 23) (a.get 117) Z,none,tT⟩,
 ⟨fun a Z=>.val (a.get 118) Z,some 24,tT⟩]
def Asc:List COp:=YS ()
def YT(_:Unit):List COp:=[⟨fun a Z=>.val (a.get 15) Z,some 120,tT⟩,
 ⟨fun a Z=>.val (a.get 16) Z,some 121,tT⟩,
 ⟨fun a Z=>bC (none,1) (a.get 120) (a.get 121) Z,some 122,tT⟩,
 ⟨fun a Z=>aG none (a.get 122) Z,some 123,tT⟩,
 ⟨fun a Z=>.enter 25 [(a.get 123)] Z,some 124,tT⟩,
 ⟨fun a Z=>.val (a.get 124) Z,some 119,tT⟩,
 ⟨fun a Z=>aJ 0 (a.get 119) Z,some 125,tT⟩,
 ⟨fun a Z=>aJ 1 (a.get 119) Z,some 126,tT⟩,
 ⟨fun a Z=>aM [(.int .i64 0),(.int .i64 0),(.string ⟨#[]⟩),(.slice none 0 0)] 24 none Z,some 25,tT⟩,
 ⟨fun a Z=>aK 4 (a.get 25) (a.get 125) Z,none,tT⟩,
 ⟨fun a Z=>.val (a.get 126) Z,some 26,tT⟩]
def Asd:List COp:=YT ()
def YU(_:Unit):List COp:=[⟨fun a Z=>.val (a.get 20) Z,some 127,tT⟩,
 ⟨fun a Z=>.val (a.get 22) Z,some 128,tT⟩,
 ⟨fun a Z=>i_neq Tryz.prog 32 (.tmp 127) (.tmp 128) (a.get 127) (a.get 128) Z,some 129,tT⟩,
 ⟨fun a Z=>.val (a.get 129) Z,some 130,tT⟩,
 ⟨fun a Z=>.val (a.get 19) Z,some 131,fun a=>gd (a.get 130) false⟩,
 ⟨fun a Z=>.val (a.get 21) Z,some 132,fun a=>gd (a.get 130) false⟩,
 ⟨fun a Z=>.enter 26 [(a.get 131),(a.get 132)] Z,some 133,fun a=>gd (a.get 130) false⟩,
 ⟨fun a Z=>fun1 Tryz.prog (Op.unary .not) (a.get 133) Z,some 134,fun a=>gd (a.get 130) false⟩,
 ⟨fun a Z=>bM (a.get 130) (.bool true) (a.get 134) Z,some 135,tT⟩,
 ⟨fun a Z=>.val (a.get 135) Z,some 136,tT⟩,
 ⟨fun a Z=>.val (a.get 24) Z,some 137,fun a=>gd (a.get 136) false⟩,
 ⟨fun a Z=>.val (a.get 26) Z,some 138,fun a=>gd (a.get 136) false⟩,
 ⟨fun a Z=>i_neq Tryz.prog 32 (.tmp 137) (.tmp 138) (a.get 137) (a.get 138) Z,some 139,fun a=>gd (a.get 136) false⟩,
 ⟨fun a Z=>bM (a.get 136) (.bool true) (a.get 139) Z,some 140,tT⟩,
 ⟨fun a Z=>.val (a.get 140) Z,some 141,tT⟩,
 ⟨fun a Z=>aG (some 4) (a.get 23) Z,some 142,fun a=>gd (a.get 141) false⟩,
 ⟨fun a Z=>aG (some 4) (a.get 25) Z,some 143,fun a=>gd (a.get 141) false⟩,
 ⟨fun a Z=>.enter 18 [(a.get 142),(a.get 143)] Z,some 144,fun a=>gd (a.get 141) false⟩,
 ⟨fun a Z=>fun1 Tryz.prog (Op.unary .not) (a.get 144) Z,some 145,fun a=>gd (a.get 141) false⟩,
 ⟨fun a Z=>bM (a.get 141) (.bool true) (a.get 145) Z,some 146,tT⟩]
def Ase:List COp:=YU ()
def Av7(_:Unit):List COp:=[⟨fun a Z=>.val (.bool false) Z,some 8,tT⟩]
def AwW:List COp:=Av7 ()
def YV(_:Unit):List DOp:=[⟨fun a Z=>aG (some 4) (a.get 17) Z,some 148,tT,some 0,false⟩,
 ⟨fun a Z=>.val (a.get 14) Z,some 149,tT,some 0,false⟩,
 ⟨fun a Z=>.val (a.get 16) Z,some 150,tT,some 0,false⟩,
 ⟨fun a Z=>bC (none,4) (a.get 149) (a.get 150) Z,some 151,tT,some 0,false⟩,
 ⟨fun a Z=>aG (some 4) (a.get 151) Z,some 152,tT,some 0,false⟩,
 ⟨fun a Z=>.enter 27 [(a.get 148),(a.get 152)] Z,some 153,tT,none,true⟩,
 ⟨fun a Z=>.val (a.get 153) Z,some 147,tT,some 1,false⟩,
 ⟨fun a Z=>aJ 0 (a.get 147) Z,some 154,tT,some 1,false⟩,
 ⟨fun a Z=>aK 4 (a.get 23) (a.get 154) Z,none,tT,none,false⟩,
 ⟨fun a Z=>aJ 1 (a.get 147) Z,some 155,tT,some 1,false⟩,
 ⟨fun a Z=>.val (a.get 155) Z,some 24,tT,some 2,false⟩]
def Asf:List DOp:=YV ()
def YW(_:Unit):List DOp:=[⟨fun a Z=>.val (a.get 13) Z,some 157,tT,some 0,false⟩,
 ⟨fun a Z=>.val (a.get 16) Z,some 158,tT,some 0,false⟩,
 ⟨fun a Z=>bC (none,4) (a.get 157) (a.get 158) Z,some 159,tT,some 0,false⟩,
 ⟨fun a Z=>aG (some 4) (a.get 159) Z,some 160,tT,some 0,false⟩,
 ⟨fun a Z=>.val (a.get 14) Z,some 161,tT,some 0,false⟩,
 ⟨fun a Z=>.val (a.get 16) Z,some 162,tT,some 0,false⟩,
 ⟨fun a Z=>bC (none,4) (a.get 161) (a.get 162) Z,some 163,tT,some 0,false⟩,
 ⟨fun a Z=>aG (some 4) (a.get 163) Z,some 164,tT,some 0,false⟩,
 ⟨fun a Z=>.enter 28 [(a.get 160),(a.get 164)] Z,some 165,tT,none,true⟩,
 ⟨fun a Z=>.val (a.get 165) Z,some 156,tT,some 1,false⟩,
 ⟨fun a Z=>aJ 0 (a.get 156) Z,some 166,tT,some 1,false⟩,
 ⟨fun a Z=>aK 4 (a.get 25) (a.get 166) Z,none,tT,none,false⟩,
 ⟨fun a Z=>aJ 1 (a.get 156) Z,some 167,tT,some 1,false⟩,
 ⟨fun a Z=>.val (a.get 167) Z,some 26,tT,some 2,false⟩]
def Asg:List DOp:=YW ()
def YX(_:Unit):List COp:=[⟨fun a Z=>aG (some 4) (a.get 17) Z,some 169,tT⟩,
 ⟨fun a Z=>.enter 29 [(a.get 169)] Z,some 170,tT⟩,
 ⟨fun a Z=>.val (a.get 170) Z,some 168,tT⟩,
 ⟨fun a Z=>aJ 0 (a.get 168) Z,some 171,tT⟩,
 ⟨fun a Z=>aJ 1 (a.get 168) Z,some 172,tT⟩,
 ⟨fun a Z=>aM [(.int .i64 0),(.int .i64 0),(.string ⟨#[]⟩),(.slice none 0 0)] 24 none Z,some 27,tT⟩,
 ⟨fun a Z=>aK 4 (a.get 27) (a.get 171) Z,none,tT⟩,
 ⟨fun a Z=>.val (a.get 172) Z,some 28,tT⟩]
def Ash:List COp:=YX ()
def YY(_:Unit):List COp:=[⟨fun a Z=>.val (a.get 13) Z,some 174,tT⟩,
 ⟨fun a Z=>.val (a.get 16) Z,some 175,tT⟩,
 ⟨fun a Z=>bC (none,4) (a.get 174) (a.get 175) Z,some 176,tT⟩,
 ⟨fun a Z=>aG (some 4) (a.get 176) Z,some 177,tT⟩,
 ⟨fun a Z=>.enter 30 [(a.get 177)] Z,some 178,tT⟩,
 ⟨fun a Z=>.val (a.get 178) Z,some 173,tT⟩,
 ⟨fun a Z=>aJ 0 (a.get 173) Z,some 179,tT⟩,
 ⟨fun a Z=>aJ 1 (a.get 173) Z,some 180,tT⟩,
 ⟨fun a Z=>aM [(.int .i64 0),(.int .i64 0),(.string ⟨#[]⟩),(.slice none 0 0)] 24 none Z,some 29,tT⟩,
 ⟨fun a Z=>aK 4 (a.get 29) (a.get 179) Z,none,tT⟩,
 ⟨fun a Z=>.val (a.get 180) Z,some 30,tT⟩]
def Asi:List COp:=YY ()
def YZ(_:Unit):List DOp:=[⟨fun a Z=>.val (a.get 24) Z,some 181,tT,some 0,false⟩,
 ⟨fun a Z=>.val (a.get 26) Z,some 182,tT,some 0,false⟩,
 ⟨fun a Z=>i_neq Tryz.prog 32 (.tmp 181) (.tmp 182) (a.get 181) (a.get 182) Z,some 183,tT,some 0,false⟩,
 ⟨fun a Z=>.val (a.get 183) Z,some 184,tT,some 0,false⟩,
 ⟨fun a Z=>aG (some 4) (a.get 23) Z,some 185,fun a=>gd (a.get 184) false,some 0,false⟩,
 ⟨fun a Z=>aG (some 4) (a.get 25) Z,some 186,fun a=>gd (a.get 184) false,some 0,false⟩,
 ⟨fun a Z=>.enter 18 [(a.get 185),(a.get 186)] Z,some 187,fun a=>gd (a.get 184) false,none,true⟩,
 ⟨fun a Z=>fun1 Tryz.prog (Op.unary .not) (a.get 187) Z,some 188,fun a=>gd (a.get 184) false,some 1,false⟩,
 ⟨fun a Z=>bM (a.get 184) (.bool true) (a.get 188) Z,some 189,tT,some 1,false⟩,
 ⟨fun a Z=>.val (a.get 189) Z,some 190,tT,some 1,false⟩,
 ⟨fun a Z=>.val (a.get 28) Z,some 191,fun a=>gd (a.get 190) false,some 1,false⟩,
 ⟨fun a Z=>.val (a.get 30) Z,some 192,fun a=>gd (a.get 190) false,some 1,false⟩,
 ⟨fun a Z=>i_neq Tryz.prog 32 (.tmp 191) (.tmp 192) (a.get 191) (a.get 192) Z,some 193,fun a=>gd (a.get 190) false,some 1,false⟩,
 ⟨fun a Z=>bM (a.get 190) (.bool true) (a.get 193) Z,some 194,tT,some 1,false⟩,
 ⟨fun a Z=>.val (a.get 194) Z,some 195,tT,some 1,false⟩,
 ⟨fun a Z=>aG (some 4) (a.get 27) Z,some 196,fun a=>gd (a.get 195) false,some 1,false⟩,
 ⟨fun a Z=>aG (some 4) (a.get 29) Z,some 197,fun a=>gd (a.get 195) false,some 1,false⟩,
 ⟨fun a Z=>.enter 18 [(a.get 196),(a.get 197)] Z,some 198,fun a=>gd (a.get 195) false,none,true⟩,
 ⟨fun a Z=>fun1 Tryz.prog (Op.unary .not) (a.get 198) Z,some 199,fun a=>gd (a.get 195) false,some 2,false⟩,
 ⟨fun a Z=>bM (a.get 195) (.bool true) (a.get 199) Z,some 200,tT,some 2,false⟩,
 ⟨fun a Z=>.val (a.get 200) Z,some 201,tT,some 2,false⟩,
 ⟨fun a Z=>aG (some 4) (a.get 17) Z,some 202,fun a=>gd (a.get 201) false,some 2,false⟩,
 ⟨fun a Z=>.val (a.get 13) Z,some 203,fun a=>gd (a.get 201) false,some 2,false⟩,
 ⟨fun a Z=>.val (a.get 16) Z,some 204,fun a=>gd (a.get 201) false,some 2,false⟩,
 ⟨fun a Z=>bC (none,4) (a.get 203) (a.get 204) Z,some 205,fun a=>gd (a.get 201) false,some 2,false⟩,
 ⟨fun a Z=>aG (some 4) (a.get 205) Z,some 206,fun a=>gd (a.get 201) false,some 2,false⟩,
 ⟨fun a Z=>.enter 18 [(a.get 202),(a.get 206)] Z,some 207,fun a=>gd (a.get 201) false,none,true⟩,
 ⟨fun a Z=>fun1 Tryz.prog (Op.unary .not) (a.get 207) Z,some 208,fun a=>gd (a.get 201) false,some 3,false⟩,
 ⟨fun a Z=>bM (a.get 201) (.bool true) (a.get 208) Z,some 209,tT,some 3,false⟩,
 ⟨fun a Z=>.val (a.get 209) Z,some 210,tT,some 3,false⟩,
 ⟨fun a Z=>.val (a.get 18) Z,some 211,fun a=>gd (a.get 210) false,some 3,false⟩,
 ⟨fun a Z=>.val (a.get 15) Z,some 212,fun a=>gd (a.get 210) false,some 3,false⟩,
 ⟨fun a Z=>.val (a.get 16) Z,some 213,fun a=>gd (a.get 210) false,some 3,false⟩,
 ⟨fun a Z=>bC (none,1) (a.get 212) (a.get 213) Z,some 214,fun a=>gd (a.get 210) false,some 3,false⟩,
 ⟨fun a Z=>aG none (a.get 214) Z,some 215,fun a=>gd (a.get 210) false,some 3,false⟩,
 ⟨fun a Z=>.enter 26 [(a.get 211),(a.get 215)] Z,some 216,fun a=>gd (a.get 210) false,none,true⟩,
 ⟨fun a Z=>fun1 Tryz.prog (Op.unary .not) (a.get 216) Z,some 217,fun a=>gd (a.get 210) false,some 4,false⟩,
 ⟨fun a Z=>bM (a.get 210) (.bool true) (a.get 217) Z,some 218,tT,some 4,false⟩]
def Asj:List DOp:=YZ ()
def Av9(_:Unit):List COp:=[⟨fun a Z=>.val (.bool false) Z,some 8,tT⟩]
def AwX:List COp:=Av9 ()
def YO(_:Unit):List COp:=[⟨fun a Z=>.val (a.get 16) Z,some 89,tT⟩,
 ⟨fun a Z=>i_add Tryz.prog 3 (.tmp 89) (.const (.int .i64 1)) (a.get 89) (.int .i64 1) Z,some 90,tT⟩,
 ⟨fun a Z=>.val (a.get 90) Z,some 16,tT⟩]
def Ar8:List COp:=YO ()
def AcW(E:Env)(ro:Option Nat)(fn:FuncId):aZ:=(aF (aF (aD E ro Ar7) (aN (fun a=>(a.get 88)) aV (exitR 4))) (aF (aW 5 (aF (drawR E ro Ar9) (aF (aD E ro Asa) (aF (aD E ro Asb) (aF (aD E ro Asc) (aF (aD E ro Asd) (aF (aF (aD E ro Ase) (aN (fun a=>(a.get 146)) (aF (aD E ro AwW) bL) aV)) (aF (drawR E ro Asf) (aF (drawR E ro Asg) (aF (aD E ro Ash) (aF (aD E ro Asi) (aF (drawR E ro Asj) (aN (fun a=>(a.get 218)) (aF (aD E ro AwX) bL) aV))))))))))))) (aD E ro Ar8)))
def Y0(_:Unit):List COp:=[⟨fun a Z=>.enter 7 [] Z,some 219,tT⟩,
 ⟨fun a Z=>.val (a.get 219) Z,some 8,tT⟩]
def Aku:List COp:=Y0 ()
def AwA(E:Env)(ro:Option Nat)(fn:FuncId):aZ:=(aF (aD E ro Av4) (aF (aF (aD E ro Av5) (aN (fun a=>(a.get 41)) (aF (aD E ro Av6) bL) aV)) (aF (aF (aD E ro Av8) (aW 0 (loopR (bE nls fn) (UN E ro fn)))) (aF (aD E ro Awa) (aF (aD E ro Awb) (aF (aF (aD E ro Aka) (aW 2 (loopR (bE nls fn) (AfG E ro fn)))) (aF (drawR E ro Ake) (aF (aF (aD E ro Akg) (aW 4 (loopR (bE nls fn) (AcW E ro fn)))) (aF (aD E ro Aku) bL)))))))))
theorem LB:aD E ro Av4 a u Z=aD E ro (PB ()) a u Z:=rfl
theorem LC:aD E ro Av5 a u Z=aD E ro (PD ()) a u Z:=rfl
theorem Sg:aD E ro Av6 a u Z=aD E ro (VH ()) a u Z:=rfl
theorem ApX:aD E ro Av8 a u Z=aD E ro (Akw ()) a u Z:=rfl
theorem Sh:aD E ro AwY a u Z=aD E ro (VI ()) a u Z:=rfl
theorem Ab2:aD E ro Aw0 a u Z=aD E ro (Ab1 ()) a u Z:=rfl
theorem ApZ:aD E ro Aw1 a u Z=aD E ro (Aky ()) a u Z:=rfl
theorem ApY:aD E ro AwZ a u Z=aD E ro (Akx ()) a u Z:=rfl
theorem Ap0:aD E ro Awa a u Z=aD E ro (Akz ()) a u Z:=rfl
theorem Ap1:aD E ro Awb a u Z=aD E ro (AkA ()) a u Z:=rfl
theorem Akb:aD E ro Aka a u Z=aD E ro (YJ ()) a u Z:=rfl
theorem VF:aD E ro Ar4 a u Z=aD E ro (Se ()) a u Z:=rfl
theorem Akd:aD E ro Ar6 a u Z=aD E ro (YL ()) a u Z:=rfl
theorem Akc:aD E ro Ar5 a u Z=aD E ro (YK ()) a u Z:=rfl
theorem Akf:bI E ro last Ake cl a u Z=bI E ro last (YM ()) cl a u Z:=rfl
theorem Akh:aD E ro Akg a u Z=aD E ro (YN ()) a u Z:=rfl
theorem VG:aD E ro Ar7 a u Z=aD E ro (Sf ()) a u Z:=rfl
theorem Akj:bI E ro last Ar9 cl a u Z=bI E ro last (YP ()) cl a u Z:=rfl
theorem Akk:aD E ro Asa a u Z=aD E ro (YQ ()) a u Z:=rfl
theorem Akl:aD E ro Asb a u Z=aD E ro (YR ()) a u Z:=rfl
theorem Akm:aD E ro Asc a u Z=aD E ro (YS ()) a u Z:=rfl
theorem Akn:aD E ro Asd a u Z=aD E ro (YT ()) a u Z:=rfl
theorem Ako:aD E ro Ase a u Z=aD E ro (YU ()) a u Z:=rfl
theorem Akp:bI E ro last Asf cl a u Z=bI E ro last (YV ()) cl a u Z:=rfl
theorem Akq:bI E ro last Asg cl a u Z=bI E ro last (YW ()) cl a u Z:=rfl
theorem Akr:aD E ro Ash a u Z=aD E ro (YX ()) a u Z:=rfl
theorem Aks:aD E ro Asi a u Z=aD E ro (YY ()) a u Z:=rfl
theorem Akt:bI E ro last Asj cl a u Z=bI E ro last (YZ ()) cl a u Z:=rfl
theorem Aki:aD E ro Ar8 a u Z=aD E ro (YO ()) a u Z:=rfl
theorem Akv:aD E ro Aku a u Z=aD E ro (Y0 ()) a u Z:=rfl
theorem AwN(E:Env)(ro:Option Nat)(fn:FuncId):code Tryz.prog nls (Tryz.f4.body.getD .skip) E ro fn=AwA E ro fn:=by kernel_rfl
theorem Avo(E:Env)(args:List Value)(u:Option FrameMode)(Z:aC)(hn:args.length<=(31:Nat)):bD Tryz.prog nls E 4 args u Z=aP Tryz.prog E [.tmp 8] (AwA E none 4 ⟨bB undef 31 args,fun _=>undef,31,220,[]⟩ u Z):=by
 rw[Ap (body:=Tryz.f4.body.getD .skip) Tryz.func4 rfl E args u Z 31 220 (by kernel_rfl) rfl ⟨hn,by decide⟩,AwN]
 rfl
def Yh(_:Unit):List COp:=[⟨fun a Z=>fbox 24 (a.get 0) Z,some 1,tT⟩,
 ⟨fun a Z=>.val (.slice none 0 0) Z,some 2,tT⟩,
 ⟨fun a Z=>.val (.int .i64 0) Z,some 3,tT⟩]
def AqZ:List COp:=Yh ()
def MG(_:Unit):List COp:=[⟨fun a Z=>aG (some 4) (a.get 1) Z,some 7,tT⟩,
 ⟨fun a Z=>.enter 16 [(a.get 7)] Z,some 8,tT⟩,
 ⟨fun a Z=>.val (a.get 8) Z,some 4,tT⟩]
def Aq0:List COp:=MG ()
def MI(_:Unit):List COp:=[⟨fun a Z=>.val (a.get 4) Z,some 9,tT⟩,
 ⟨fun a Z=>i_neq Tryz.prog 32 (.tmp 9) (.const (.int .i64 0)) (a.get 9) (.int .i64 0) Z,some 10,tT⟩]
def Aq1:List COp:=MI ()
def Yi(_:Unit):List COp:=[⟨fun a Z=>.val (a.get 4) Z,some 11,tT⟩,
 ⟨fun a Z=>.val (.slice none 0 0) Z,some 2,tT⟩,
 ⟨fun a Z=>.val (a.get 11) Z,some 3,tT⟩]
def Aq2:List COp:=Yi ()
def RN(_:Unit):List COp:=[⟨fun a Z=>aG (some 4) (a.get 1) Z,some 13,tT⟩,
 ⟨fun a Z=>.enter 81 [(a.get 13)] Z,some 14,tT⟩,
 ⟨fun a Z=>.val (a.get 14) Z,some 12,tT⟩,
 ⟨fun a Z=>aJ 0 (a.get 12) Z,some 15,tT⟩,
 ⟨fun a Z=>aJ 1 (a.get 12) Z,some 16,tT⟩,
 ⟨fun a Z=>aM [(.int .i64 0),(.int .i64 0),(.string ⟨#[]⟩),(.slice none 0 0)] 24 none Z,some 6,tT⟩,
 ⟨fun a Z=>.val (a.get 15) Z,some 5,tT⟩,
 ⟨fun a Z=>aK 4 (a.get 6) (a.get 16) Z,none,tT⟩]
def Aq3:List COp:=RN ()
def RO(_:Unit):List COp:=[⟨fun a Z=>aH 0 (a.get 6) Z,some 17,tT⟩,
 ⟨fun a Z=>aG none (a.get 17) Z,some 18,tT⟩,
 ⟨fun a Z=>i_neq Tryz.prog 3 (.tmp 18) (.const (.int .i64 0)) (a.get 18) (.int .i64 0) Z,some 19,tT⟩]
def Aq4:List COp:=RO ()
def Yj(_:Unit):List COp:=[⟨fun a Z=>.val (.slice none 0 0) Z,some 2,tT⟩,
 ⟨fun a Z=>.val (.int .i64 4) Z,some 3,tT⟩]
def Aq5:List COp:=Yj ()
def Yk(_:Unit):List COp:=[⟨fun a Z=>.val (a.get 5) Z,some 20,tT⟩,
 ⟨fun a Z=>.val (a.get 20) Z,some 2,tT⟩,
 ⟨fun a Z=>.val (.int .i64 0) Z,some 3,tT⟩]
def Aq6:List COp:=Yk ()
def Ams(E:Env)(ro:Option Nat)(fn:FuncId):aZ:=(aF (aD E ro AqZ) (aF (aF (aD E ro Aq0) (aF (aD E ro Aq1) (aN (fun a=>(a.get 10)) (aF (aD E ro Aq2) bL) aV))) (aF (aD E ro Aq3) (aF (aF (aD E ro Aq4) (aN (fun a=>(a.get 19)) (aF (aD E ro Aq5) bL) aV)) (aF (aD E ro Aq6) bL)))))
theorem AjF:aD E ro AqZ a u Z=aD E ro (Yh ()) a u Z:=rfl
theorem MH:aD E ro Aq0 a u Z=aD E ro (MG ()) a u Z:=rfl
theorem MJ:aD E ro Aq1 a u Z=aD E ro (MI ()) a u Z:=rfl
theorem AjG:aD E ro Aq2 a u Z=aD E ro (Yi ()) a u Z:=rfl
theorem Vh:aD E ro Aq3 a u Z=aD E ro (RN ()) a u Z:=rfl
theorem Vi:aD E ro Aq4 a u Z=aD E ro (RO ()) a u Z:=rfl
theorem AjH:aD E ro Aq5 a u Z=aD E ro (Yj ()) a u Z:=rfl
theorem AjI:aD E ro Aq6 a u Z=aD E ro (Yk ()) a u Z:=rfl
theorem AuJ(E:Env)(ro:Option Nat)(fn:FuncId):code Tryz.prog nls (Tryz.f23.body.getD .skip) E ro fn=Ams E ro fn:=by kernel_rfl
theorem Aog(E:Env)(args:List Value)(u:Option FrameMode)(Z:aC)(hn:args.length<=(7:Nat)):bD Tryz.prog nls E 23 args u Z=aP Tryz.prog E [.tmp 2,.tmp 3] (Ams E none 23 ⟨bB undef 7 args,fun _=>undef,7,21,[]⟩ u Z):=by
 rw[Ap (body:=Tryz.f23.body.getD .skip) Tryz.func23 rfl E args u Z 7 21 (by kernel_rfl) rfl ⟨hn,by decide⟩,AuJ]
 rfl
def Yl(_:Unit):List COp:=[⟨fun a Z=>aM [(.int .i64 0),(.int .i64 0),(.string ⟨#[]⟩),(.slice none 0 0)] 24 none Z,some 2,tT⟩,
 ⟨fun a Z=>.val (.int .i64 0) Z,some 3,tT⟩]
def Aq9:List COp:=Yl ()
def Ym(_:Unit):List COp:=[⟨fun a Z=>.val (.int .i64 0) Z,some 4,tT⟩]
def Ara:List COp:=Ym ()
def MK(_:Unit):List COp:=[⟨fun a Z=>.val (a.get 4) Z,some 6,tT⟩,
 ⟨fun a Z=>.val (a.get 0) Z,some 7,tT⟩,
 ⟨fun a Z=>flenL (a.get 7) Z,some 8,tT⟩,
 ⟨fun a Z=>i_lss Tryz.prog 3 (.tmp 6) (.tmp 8) (a.get 6) (a.get 8) Z,some 9,tT⟩]
def Arb:List COp:=MK ()
def RR(_:Unit):List COp:=[⟨fun a Z=>.val (a.get 0) Z,some 12,tT⟩,
 ⟨fun a Z=>.val (a.get 4) Z,some 13,tT⟩,
 ⟨fun a Z=>bC (none,4) (a.get 12) (a.get 13) Z,some 14,tT⟩,
 ⟨fun a Z=>aG (some 4) (a.get 14) Z,some 15,tT⟩,
 ⟨fun a Z=>.enter 16 [(a.get 15)] Z,some 16,tT⟩,
 ⟨fun a Z=>.val (a.get 16) Z,some 5,tT⟩]
def Ard:List COp:=RR ()
def RS(_:Unit):List COp:=[⟨fun a Z=>.val (a.get 5) Z,some 17,tT⟩,
 ⟨fun a Z=>i_neq Tryz.prog 32 (.tmp 17) (.const (.int .i64 0)) (a.get 17) (.int .i64 0) Z,some 18,tT⟩]
def Arf:List COp:=RS ()
def Yo(_:Unit):List COp:=[⟨fun a Z=>bP (fun i=>nth [(0,1),(1,1),(2,1),(3,1)] i) [(.int .i64 0),(.int .i64 0),(.string ⟨#[]⟩),(.slice none 0 0)] [] Z,some 19,tT⟩,
 ⟨fun a Z=>.val (a.get 5) Z,some 20,tT⟩,
 ⟨fun a Z=>aK 4 (a.get 2) (a.get 19) Z,none,tT⟩,
 ⟨fun a Z=>.val (a.get 20) Z,some 3,tT⟩]
def Arh:List COp:=Yo ()
def Yn(_:Unit):List COp:=[⟨fun a Z=>.val (a.get 4) Z,some 10,tT⟩,
 ⟨fun a Z=>i_add Tryz.prog 3 (.tmp 10) (.const (.int .i64 1)) (a.get 10) (.int .i64 1) Z,some 11,tT⟩,
 ⟨fun a Z=>.val (a.get 11) Z,some 4,tT⟩]
def Arc:List COp:=Yn ()
def OU(E:Env)(ro:Option Nat)(fn:FuncId):aZ:=(aF (aF (aD E ro Arb) (aN (fun a=>(a.get 9)) aV (exitR 0))) (aF (aW 1 (aF (aD E ro Ard) (aF (aD E ro Arf) (aN (fun a=>(a.get 18)) (aF (aD E ro Arh) bL) aV)))) (aD E ro Arc)))
def Yp(_:Unit):List COp:=[⟨fun a Z=>.val (a.get 0) Z,some 21,tT⟩,
 ⟨fun a Z=>bP (fun i=>nth [(0,1),(1,1),(2,1),(3,1)] i) [(.int .i64 0),(.int .i64 0),(.string ⟨#[]⟩),(.slice none 0 0)] [] Z,some 22,tT⟩,
 ⟨fun a Z=>.enter 20 [(a.get 21),(a.get 22)] Z,some 23,tT⟩,
 ⟨fun a Z=>.enter 86 [(a.get 23)] Z,some 24,tT⟩,
 ⟨fun a Z=>aJ 0 (a.get 24) Z,some 25,tT⟩,
 ⟨fun a Z=>aJ 1 (a.get 24) Z,some 26,tT⟩,
 ⟨fun a Z=>aK 4 (a.get 2) (a.get 25) Z,none,tT⟩,
 ⟨fun a Z=>.val (a.get 26) Z,some 3,tT⟩]
def Ari:List COp:=Yp ()
def Amu(E:Env)(ro:Option Nat)(fn:FuncId):aZ:=(aF (aD E ro Aq9) (aF (aF (aD E ro Ara) (aW 0 (loopR (bE nls fn) (OU E ro fn)))) (aF (aD E ro Ari) bL)))
theorem AjJ:aD E ro Aq9 a u Z=aD E ro (Yl ()) a u Z:=rfl
theorem AjK:aD E ro Ara a u Z=aD E ro (Ym ()) a u Z:=rfl
theorem ML:aD E ro Arb a u Z=aD E ro (MK ()) a u Z:=rfl
theorem Vl:aD E ro Ard a u Z=aD E ro (RR ()) a u Z:=rfl
theorem Vm:aD E ro Arf a u Z=aD E ro (RS ()) a u Z:=rfl
theorem AjM:aD E ro Arh a u Z=aD E ro (Yo ()) a u Z:=rfl
theorem AjL:aD E ro Arc a u Z=aD E ro (Yn ()) a u Z:=rfl
theorem AjN:aD E ro Ari a u Z=aD E ro (Yp ()) a u Z:=rfl
theorem AuL(E:Env)(ro:Option Nat)(fn:FuncId):code Tryz.prog nls (Tryz.f25.body.getD .skip) E ro fn=Amu E ro fn:=by kernel_rfl
theorem Aoi(E:Env)(args:List Value)(u:Option FrameMode)(Z:aC)(hn:args.length<=(6:Nat)):bD Tryz.prog nls E 25 args u Z=aP Tryz.prog E [.cell 2 24,.tmp 3] (Amu E none 25 ⟨bB undef 6 args,fun _=>undef,6,27,[]⟩ u Z):=by
 rw[Ap (body:=Tryz.f25.body.getD .skip) Tryz.func25 rfl E args u Z 6 27 (by kernel_rfl) rfl ⟨hn,by decide⟩,AuL]
 rfl
def Yv(_:Unit):List COp:=[⟨fun a Z=>fbox 24 (a.get 0) Z,some 2,tT⟩,
 ⟨fun a Z=>fbox 24 (a.get 1) Z,some 3,tT⟩,
 ⟨fun a Z=>aM [(.int .i64 0),(.int .i64 0),(.string ⟨#[]⟩),(.slice none 0 0)] 24 none Z,some 4,tT⟩,
 ⟨fun a Z=>.val (.int .i64 0) Z,some 5,tT⟩]
def Aru:List COp:=Yv ()
def MM(_:Unit):List COp:=[⟨fun a Z=>aG (some 4) (a.get 2) Z,some 9,tT⟩,
 ⟨fun a Z=>aG (some 4) (a.get 3) Z,some 10,tT⟩,
 ⟨fun a Z=>.enter 89 [(a.get 9),(a.get 10)] Z,some 11,tT⟩,
 ⟨fun a Z=>.val (a.get 11) Z,some 6,tT⟩]
def Arv:List COp:=MM ()
def MO(_:Unit):List COp:=[⟨fun a Z=>.val (a.get 6) Z,some 12,tT⟩,
 ⟨fun a Z=>i_neq Tryz.prog 32 (.tmp 12) (.const (.int .i64 0)) (a.get 12) (.int .i64 0) Z,some 13,tT⟩]
def Arw:List COp:=MO ()
def Yw(_:Unit):List COp:=[⟨fun a Z=>bP (fun i=>nth [(0,1),(1,1),(2,1),(3,1)] i) [(.int .i64 0),(.int .i64 0),(.string ⟨#[]⟩),(.slice none 0 0)] [] Z,some 14,tT⟩,
 ⟨fun a Z=>.val (a.get 6) Z,some 15,tT⟩,
 ⟨fun a Z=>aK 4 (a.get 4) (a.get 14) Z,none,tT⟩,
 ⟨fun a Z=>.val (a.get 15) Z,some 5,tT⟩]
def Arx:List COp:=Yw ()
def R0(_:Unit):List COp:=[⟨fun a Z=>aG (some 4) (a.get 2) Z,some 17,tT⟩,
 ⟨fun a Z=>.enter 81 [(a.get 17)] Z,some 18,tT⟩,
 ⟨fun a Z=>.val (a.get 18) Z,some 16,tT⟩,
 ⟨fun a Z=>aJ 0 (a.get 16) Z,some 19,tT⟩,
 ⟨fun a Z=>aJ 1 (a.get 16) Z,some 20,tT⟩,
 ⟨fun a Z=>aM [(.int .i64 0),(.int .i64 0),(.string ⟨#[]⟩),(.slice none 0 0)] 24 none Z,some 8,tT⟩,
 ⟨fun a Z=>.val (a.get 19) Z,some 7,tT⟩,
 ⟨fun a Z=>aK 4 (a.get 8) (a.get 20) Z,none,tT⟩]
def Ary:List COp:=R0 ()
def R1(_:Unit):List COp:=[⟨fun a Z=>aH 0 (a.get 8) Z,some 21,tT⟩,
 ⟨fun a Z=>aG none (a.get 21) Z,some 22,tT⟩,
 ⟨fun a Z=>i_neq Tryz.prog 3 (.tmp 22) (.const (.int .i64 0)) (a.get 22) (.int .i64 0) Z,some 23,tT⟩]
def Arz:List COp:=R1 ()
def Yx(_:Unit):List COp:=[⟨fun a Z=>bP (fun i=>nth [(0,1),(1,1),(2,1),(3,1)] i) [(.int .i64 0),(.int .i64 0),(.string ⟨#[]⟩),(.slice none 0 0)] [] Z,some 24,tT⟩,
 ⟨fun a Z=>aK 4 (a.get 4) (a.get 24) Z,none,tT⟩,
 ⟨fun a Z=>.val (.int .i64 4) Z,some 5,tT⟩]
def ArA:List COp:=Yx ()
def Yy(_:Unit):List COp:=[⟨fun a Z=>.val (a.get 7) Z,some 25,tT⟩,
 ⟨fun a Z=>aG (some 4) (a.get 3) Z,some 26,tT⟩,
 ⟨fun a Z=>.enter 20 [(a.get 25),(a.get 26)] Z,some 27,tT⟩,
 ⟨fun a Z=>.enter 86 [(a.get 27)] Z,some 28,tT⟩,
 ⟨fun a Z=>aJ 0 (a.get 28) Z,some 29,tT⟩,
 ⟨fun a Z=>aJ 1 (a.get 28) Z,some 30,tT⟩,
 ⟨fun a Z=>aK 4 (a.get 4) (a.get 29) Z,none,tT⟩,
 ⟨fun a Z=>.val (a.get 30) Z,some 5,tT⟩]
def ArB:List COp:=Yy ()
def Amx(E:Env)(ro:Option Nat)(fn:FuncId):aZ:=(aF (aD E ro Aru) (aF (aF (aD E ro Arv) (aF (aD E ro Arw) (aN (fun a=>(a.get 13)) (aF (aD E ro Arx) bL) aV))) (aF (aD E ro Ary) (aF (aF (aD E ro Arz) (aN (fun a=>(a.get 23)) (aF (aD E ro ArA) bL) aV)) (aF (aD E ro ArB) bL)))))
theorem AjT:aD E ro Aru a u Z=aD E ro (Yv ()) a u Z:=rfl
theorem MN:aD E ro Arv a u Z=aD E ro (MM ()) a u Z:=rfl
theorem MP:aD E ro Arw a u Z=aD E ro (MO ()) a u Z:=rfl
theorem AjU:aD E ro Arx a u Z=aD E ro (Yw ()) a u Z:=rfl
theorem Vt:aD E ro Ary a u Z=aD E ro (R0 ()) a u Z:=rfl
theorem Vu:aD E ro Arz a u Z=aD E ro (R1 ()) a u Z:=rfl
theorem AjV:aD E ro ArA a u Z=aD E ro (Yx ()) a u Z:=rfl
theorem AjW:aD E ro ArB a u Z=aD E ro (Yy ()) a u Z:=rfl
theorem AuO(E:Env)(ro:Option Nat)(fn:FuncId):code Tryz.prog nls (Tryz.f28.body.getD .skip) E ro fn=Amx E ro fn:=by kernel_rfl
theorem Aol(E:Env)(args:List Value)(u:Option FrameMode)(Z:aC)(hn:args.length<=(9:Nat)):bD Tryz.prog nls E 28 args u Z=aP Tryz.prog E [.cell 4 24,.tmp 5] (Amx E none 28 ⟨bB undef 9 args,fun _=>undef,9,31,[]⟩ u Z):=by
 rw[Ap (body:=Tryz.f28.body.getD .skip) Tryz.func28 rfl E args u Z 9 31 (by kernel_rfl) rfl ⟨hn,by decide⟩,AuO]
 rfl
def Yz(_:Unit):List COp:=[⟨fun a Z=>fbox 24 (a.get 0) Z,some 1,tT⟩,
 ⟨fun a Z=>aM [(.int .i64 0),(.int .i64 0),(.string ⟨#[]⟩),(.slice none 0 0)] 24 none Z,some 2,tT⟩,
 ⟨fun a Z=>.val (.int .i64 0) Z,some 3,tT⟩]
def ArE:List COp:=Yz ()
def MQ(_:Unit):List COp:=[⟨fun a Z=>aG (some 4) (a.get 1) Z,some 9,tT⟩,
 ⟨fun a Z=>.enter 16 [(a.get 9)] Z,some 10,tT⟩,
 ⟨fun a Z=>.val (a.get 10) Z,some 4,tT⟩]
def ArF:List COp:=MQ ()
def MS(_:Unit):List COp:=[⟨fun a Z=>.val (a.get 4) Z,some 11,tT⟩,
 ⟨fun a Z=>i_neq Tryz.prog 32 (.tmp 11) (.const (.int .i64 0)) (a.get 11) (.int .i64 0) Z,some 12,tT⟩]
def ArG:List COp:=MS ()
def YA(_:Unit):List COp:=[⟨fun a Z=>bP (fun i=>nth [(0,1),(1,1),(2,1),(3,1)] i) [(.int .i64 0),(.int .i64 0),(.string ⟨#[]⟩),(.slice none 0 0)] [] Z,some 13,tT⟩,
 ⟨fun a Z=>.val (a.get 4) Z,some 14,tT⟩,
 ⟨fun a Z=>aK 4 (a.get 2) (a.get 13) Z,none,tT⟩,
 ⟨fun a Z=>.val (a.get 14) Z,some 3,tT⟩]
def ArH:List COp:=YA ()
def R7(_:Unit):List COp:=[⟨fun a Z=>aG (some 4) (a.get 1) Z,some 16,tT⟩,
 ⟨fun a Z=>.enter 81 [(a.get 16)] Z,some 17,tT⟩,
 ⟨fun a Z=>.val (a.get 17) Z,some 15,tT⟩,
 ⟨fun a Z=>aJ 0 (a.get 15) Z,some 18,tT⟩,
 ⟨fun a Z=>aJ 1 (a.get 15) Z,some 19,tT⟩,
 ⟨fun a Z=>aM [(.int .i64 0),(.int .i64 0),(.string ⟨#[]⟩),(.slice none 0 0)] 24 none Z,some 6,tT⟩,
 ⟨fun a Z=>.val (a.get 18) Z,some 5,tT⟩,
 ⟨fun a Z=>aK 4 (a.get 6) (a.get 19) Z,none,tT⟩]
def ArI:List COp:=R7 ()
def R8(_:Unit):List COp:=[⟨fun a Z=>aH 0 (a.get 6) Z,some 20,tT⟩,
 ⟨fun a Z=>aG none (a.get 20) Z,some 21,tT⟩,
 ⟨fun a Z=>i_neq Tryz.prog 3 (.tmp 21) (.const (.int .i64 0)) (a.get 21) (.int .i64 0) Z,some 22,tT⟩]
def ArJ:List COp:=R8 ()
def YB(_:Unit):List COp:=[⟨fun a Z=>bP (fun i=>nth [(0,1),(1,1),(2,1),(3,1)] i) [(.int .i64 0),(.int .i64 0),(.string ⟨#[]⟩),(.slice none 0 0)] [] Z,some 23,tT⟩,
 ⟨fun a Z=>aK 4 (a.get 2) (a.get 23) Z,none,tT⟩,
 ⟨fun a Z=>.val (.int .i64 4) Z,some 3,tT⟩]
def ArK:List COp:=YB ()
def YC(_:Unit):List COp:=[⟨fun a Z=>bP (fun i=>nth [(0,1),(1,1),(2,1),(3,1)] i) [(.int .i64 0),(.int .i64 0),(.string ⟨#[]⟩),(.slice none 0 0)] [] Z,some 24,tT⟩,
 ⟨fun a Z=>aM [(.int .i64 0),(.int .i64 0),(.string ⟨#[]⟩),(.slice none 0 0)] 24 none Z,some 7,tT⟩,
 ⟨fun a Z=>aK 4 (a.get 7) (a.get 24) Z,none,tT⟩]
def ArL:List COp:=YC ()
def YD(_:Unit):List COp:=[⟨fun a Z=>.val (.int .i64 0) Z,some 8,tT⟩]
def ArM:List COp:=YD ()
def R9(_:Unit):List COp:=[⟨fun a Z=>.val (a.get 8) Z,some 25,tT⟩,
 ⟨fun a Z=>.val (a.get 5) Z,some 26,tT⟩,
 ⟨fun a Z=>flenL (a.get 26) Z,some 27,tT⟩,
 ⟨fun a Z=>i_lss Tryz.prog 3 (.tmp 25) (.tmp 27) (a.get 25) (a.get 27) Z,some 28,tT⟩]
def ArN:List COp:=R9 ()
def R5(_:Unit):List DOp:=[⟨fun a Z=>.val (a.get 5) Z,some 31,tT,some 0,false⟩,
 ⟨fun a Z=>.val (a.get 8) Z,some 32,tT,some 0,false⟩,
 ⟨fun a Z=>bC (none,4) (a.get 31) (a.get 32) Z,some 33,tT,some 0,false⟩,
 ⟨fun a Z=>aG (some 4) (a.get 33) Z,some 34,tT,some 0,false⟩,
 ⟨fun a Z=>aG (some 4) (a.get 7) Z,some 35,tT,some 0,false⟩,
 ⟨fun a Z=>.enter 61 [(a.get 34),(a.get 35)] Z,some 36,tT,none,true⟩,
 ⟨fun a Z=>aK 4 (a.get 7) (a.get 36) Z,none,tT,none,true⟩]
def AjZ:List DOp:=R5 ()
def R4(_:Unit):List COp:=[⟨fun a Z=>.val (a.get 8) Z,some 29,tT⟩,
 ⟨fun a Z=>i_add Tryz.prog 3 (.tmp 29) (.const (.int .i64 1)) (a.get 29) (.int .i64 1) Z,some 30,tT⟩,
 ⟨fun a Z=>.val (a.get 30) Z,some 8,tT⟩]
def AjY:List COp:=R4 ()
def Abo(E:Env)(ro:Option Nat)(fn:FuncId):aZ:=(aF (aF (aD E ro ArN) (aN (fun a=>(a.get 28)) aV (exitR 0))) (aF (aW 1 (drawR E ro AjZ)) (aD E ro AjY)))
def R6(_:Unit):List COp:=[⟨fun a Z=>aG (some 4) (a.get 7) Z,some 37,tT⟩,
 ⟨fun a Z=>aK 4 (a.get 2) (a.get 37) Z,none,tT⟩,
 ⟨fun a Z=>.val (.int .i64 0) Z,some 3,tT⟩]
def Aj0:List COp:=R6 ()
def Amz(E:Env)(ro:Option Nat)(fn:FuncId):aZ:=(aF (aD E ro ArE) (aF (aF (aD E ro ArF) (aF (aD E ro ArG) (aN (fun a=>(a.get 12)) (aF (aD E ro ArH) bL) aV))) (aF (aD E ro ArI) (aF (aF (aD E ro ArJ) (aN (fun a=>(a.get 22)) (aF (aD E ro ArK) bL) aV)) (aF (aD E ro ArL) (aF (aF (aD E ro ArM) (aW 0 (loopR (bE nls fn) (Abo E ro fn)))) (aF (aD E ro Aj0) bL)))))))
theorem AjX:aD E ro ArE a u Z=aD E ro (Yz ()) a u Z:=rfl
theorem MR:aD E ro ArF a u Z=aD E ro (MQ ()) a u Z:=rfl
theorem MT:aD E ro ArG a u Z=aD E ro (MS ()) a u Z:=rfl
theorem Aj1:aD E ro ArH a u Z=aD E ro (YA ()) a u Z:=rfl
theorem Vx:aD E ro ArI a u Z=aD E ro (R7 ()) a u Z:=rfl
theorem Vy:aD E ro ArJ a u Z=aD E ro (R8 ()) a u Z:=rfl
theorem Aj2:aD E ro ArK a u Z=aD E ro (YB ()) a u Z:=rfl
theorem Aj3:aD E ro ArL a u Z=aD E ro (YC ()) a u Z:=rfl
theorem Aj4:aD E ro ArM a u Z=aD E ro (YD ()) a u Z:=rfl
theorem Vz:aD E ro ArN a u Z=aD E ro (R9 ()) a u Z:=rfl
theorem Aeh:bI E ro last AjZ cl a u Z=bI E ro last (R5 ()) cl a u Z:=rfl
theorem Aeg:aD E ro AjY a u Z=aD E ro (R4 ()) a u Z:=rfl
theorem Aei:aD E ro Aj0 a u Z=aD E ro (R6 ()) a u Z:=rfl
theorem AuQ(E:Env)(ro:Option Nat)(fn:FuncId):code Tryz.prog nls (Tryz.f30.body.getD .skip) E ro fn=Amz E ro fn:=by kernel_rfl
theorem Aon(E:Env)(args:List Value)(u:Option FrameMode)(Z:aC)(hn:args.length<=(9:Nat)):bD Tryz.prog nls E 30 args u Z=aP Tryz.prog E [.cell 2 24,.tmp 3] (Amz E none 30 ⟨bB undef 9 args,fun _=>undef,9,38,[]⟩ u Z):=by
 rw[Ap (body:=Tryz.f30.body.getD .skip) Tryz.func30 rfl E args u Z 9 38 (by kernel_rfl) rfl ⟨hn,by decide⟩,AuQ]
 rfl
def ZD(_:Unit):List COp:=[⟨fun a Z=>fbox 24 (a.get 0) Z,some 1,tT⟩,
 ⟨fun a Z=>.val (.slice none 0 0) Z,some 2,tT⟩,
 ⟨fun a Z=>aM [(.int .i64 0),(.int .i64 0),(.string ⟨#[]⟩),(.slice none 0 0)] 24 none Z,some 3,tT⟩]
def Atm:List COp:=ZD ()
def ZE(_:Unit):List COp:=[⟨fun a Z=>.val (.slice none 0 0) Z,some 4,tT⟩]
def Atn:List COp:=ZE ()
def SH(_:Unit):List COp:=[⟨fun a Z=>aH 0 (a.get 1) Z,some 5,tT⟩,
 ⟨fun a Z=>aG none (a.get 5) Z,some 6,tT⟩,
 ⟨fun a Z=>bO Tryz.prog 3 (.tmp 6) (.const (.int .i64 5)) (a.get 6) (.int .i64 5) Z,some 7,tT⟩]
def Ato:List COp:=SH ()
def ZF(_:Unit):List COp:=[⟨fun a Z=>.val (a.get 4) Z,some 8,tT⟩,
 ⟨fun a Z=>aH 3 (a.get 1) Z,some 9,tT⟩,
 ⟨fun a Z=>aG none (a.get 9) Z,some 10,tT⟩,
 ⟨fun a Z=>bC (none,4) (a.get 10) (.int .i64 0) Z,some 11,tT⟩,
 ⟨fun a Z=>aG (some 4) (a.get 11) Z,some 12,tT⟩,
 ⟨fun a Z=>aX 24 1 4 [(.int .i64 0),(.int .i64 0),(.string ⟨#[]⟩),(.slice none 0 0)] [(0,(a.get 12))] Z,some 13,tT⟩,
 ⟨fun a Z=>fappend 24 4 56 (a.get 8) (a.get 13) Z,some 14,tT⟩,
 ⟨fun a Z=>.val (a.get 14) Z,some 4,tT⟩]
def Atp:List COp:=ZF ()
def ZG(_:Unit):List COp:=[⟨fun a Z=>aH 3 (a.get 1) Z,some 15,tT⟩,
 ⟨fun a Z=>aG none (a.get 15) Z,some 16,tT⟩,
 ⟨fun a Z=>bC (none,4) (a.get 16) (.int .i64 1) Z,some 17,tT⟩,
 ⟨fun a Z=>aG (some 4) (a.get 17) Z,some 18,tT⟩,
 ⟨fun a Z=>aK 4 (a.get 1) (a.get 18) Z,none,tT⟩]
def Atq:List COp:=ZG ()
def Abp(E:Env)(ro:Option Nat)(fn:FuncId):aZ:=(aF (aF (aD E ro Ato) (aN (fun a=>(a.get 7)) aV (exitR 0))) (aW 1 (aF (aD E ro Atp) (aD E ro Atq))))
def ZH(_:Unit):List DOp:=[⟨fun a Z=>.val (a.get 4) Z,some 19,tT,some 0,false⟩,
 ⟨fun a Z=>aG (some 4) (a.get 1) Z,some 20,tT,some 0,false⟩,
 ⟨fun a Z=>.val (a.get 19) Z,some 2,tT,some 0,false⟩,
 ⟨fun a Z=>aK 4 (a.get 3) (a.get 20) Z,none,tT,none,true⟩]
def Atr:List DOp:=ZH ()
def AmP(E:Env)(ro:Option Nat)(fn:FuncId):aZ:=(aF (aD E ro Atm) (aF (aD E ro Atn) (aF (aW 0 (loopR (bE nls fn) (Abp E ro fn))) (aF (drawR E ro Atr) bL))))
theorem Alg:aD E ro Atm a u Z=aD E ro (ZD ()) a u Z:=rfl
theorem Alh:aD E ro Atn a u Z=aD E ro (ZE ()) a u Z:=rfl
theorem V2:aD E ro Ato a u Z=aD E ro (SH ()) a u Z:=rfl
theorem Ali:aD E ro Atp a u Z=aD E ro (ZF ()) a u Z:=rfl
theorem Alj:aD E ro Atq a u Z=aD E ro (ZG ()) a u Z:=rfl
theorem Alk:bI E ro last Atr cl a u Z=bI E ro last (ZH ()) cl a u Z:=rfl
theorem Ava(E:Env)(ro:Option Nat)(fn:FuncId):code Tryz.prog nls (Tryz.f81.body.getD .skip) E ro fn=AmP E ro fn:=by kernel_rfl
theorem AoD(E:Env)(args:List Value)(u:Option FrameMode)(Z:aC)(hn:args.length<=(5:Nat)):bD Tryz.prog nls E 81 args u Z=aP Tryz.prog E [.tmp 2,.cell 3 24] (AmP E none 81 ⟨bB undef 5 args,fun _=>undef,5,21,[]⟩ u Z):=by
 rw[Ap (body:=Tryz.f81.body.getD .skip) Tryz.func81 rfl E args u Z 5 21 (by kernel_rfl) rfl ⟨hn,by decide⟩,Ava]
 rfl
def X0(_:Unit):List COp:=[⟨fun a Z=>fbox 24 (a.get 1) Z,some 3,tT⟩,
 ⟨fun a Z=>aM [(.int .i64 0),(.int .i64 0),(.string ⟨#[]⟩),(.slice none 0 0)] 24 none Z,some 4,tT⟩]
def AqJ:List COp:=X0 ()
def X5(_:Unit):List COp:=[⟨fun a Z=>aG (some 4) (a.get 3) Z,some 7,tT⟩,
 ⟨fun a Z=>aM [(.int .i64 0),(.int .i64 0),(.string ⟨#[]⟩),(.slice none 0 0)] 24 none Z,some 5,tT⟩,
 ⟨fun a Z=>aK 4 (a.get 5) (a.get 7) Z,none,tT⟩]
def AqK:List COp:=X5 ()
def X7(_:Unit):List COp:=[⟨fun a Z=>.val (a.get 0) Z,some 8,tT⟩,
 ⟨fun a Z=>flenL (a.get 8) Z,some 9,tT⟩,
 ⟨fun a Z=>i_sub Tryz.prog 3 (.tmp 9) (.const (.int .i64 1)) (a.get 9) (.int .i64 1) Z,some 10,tT⟩,
 ⟨fun a Z=>.val (a.get 10) Z,some 6,tT⟩]
def AqL:List COp:=X7 ()
def RJ(_:Unit):List COp:=[⟨fun a Z=>.val (a.get 6) Z,some 11,tT⟩,
 ⟨fun a Z=>i_geq Tryz.prog 3 (.tmp 11) (.const (.int .i64 0)) (a.get 11) (.int .i64 0) Z,some 12,tT⟩]
def AqM:List COp:=RJ ()
def X_(_:Unit):List DOp:=[⟨fun a Z=>.val (a.get 0) Z,some 15,tT,some 0,false⟩,
 ⟨fun a Z=>.val (a.get 6) Z,some 16,tT,some 0,false⟩,
 ⟨fun a Z=>bC (none,4) (a.get 15) (a.get 16) Z,some 17,tT,some 0,false⟩,
 ⟨fun a Z=>aG (some 4) (a.get 17) Z,some 18,tT,some 0,false⟩,
 ⟨fun a Z=>aG (some 4) (a.get 5) Z,some 19,tT,some 0,false⟩,
 ⟨fun a Z=>.enter 61 [(a.get 18),(a.get 19)] Z,some 20,tT,none,true⟩,
 ⟨fun a Z=>aK 4 (a.get 5) (a.get 20) Z,none,tT,none,true⟩]
def AqO:List DOp:=X_ ()
def X9(_:Unit):List COp:=[⟨fun a Z=>.val (a.get 6) Z,some 13,tT⟩,
 ⟨fun a Z=>i_sub Tryz.prog 3 (.tmp 13) (.const (.int .i64 1)) (a.get 13) (.int .i64 1) Z,some 14,tT⟩,
 ⟨fun a Z=>.val (a.get 14) Z,some 6,tT⟩]
def AqN:List COp:=X9 ()
def Abl(E:Env)(ro:Option Nat)(fn:FuncId):aZ:=(aF (aF (aD E ro AqM) (aN (fun a=>(a.get 12)) aV (exitR 0))) (aF (aW 1 (drawR E ro AqO)) (aD E ro AqN)))
def Ya(_:Unit):List COp:=[⟨fun a Z=>aG (some 4) (a.get 5) Z,some 21,tT⟩,
 ⟨fun a Z=>aK 4 (a.get 4) (a.get 21) Z,none,tT⟩]
def AqP:List COp:=Ya ()
def Amp(E:Env)(ro:Option Nat)(fn:FuncId):aZ:=(aF (aD E ro AqJ) (aF (aD E ro AqK) (aF (aF (aD E ro AqL) (aW 0 (loopR (bE nls fn) (Abl E ro fn)))) (aF (aD E ro AqP) bL))))
theorem Ajl:aD E ro AqJ a u Z=aD E ro (X0 ()) a u Z:=rfl
theorem Ajm:aD E ro AqK a u Z=aD E ro (X5 ()) a u Z:=rfl
theorem Ajn:aD E ro AqL a u Z=aD E ro (X7 ()) a u Z:=rfl
theorem Vd:aD E ro AqM a u Z=aD E ro (RJ ()) a u Z:=rfl
theorem Ajp:bI E ro last AqO cl a u Z=bI E ro last (X_ ()) cl a u Z:=rfl
theorem Ajo:aD E ro AqN a u Z=aD E ro (X9 ()) a u Z:=rfl
theorem Ajq:aD E ro AqP a u Z=aD E ro (Ya ()) a u Z:=rfl
theorem AuG(E:Env)(ro:Option Nat)(fn:FuncId):code Tryz.prog nls (Tryz.f20.body.getD .skip) E ro fn=Amp E ro fn:=by kernel_rfl
theorem Aod(E:Env)(args:List Value)(u:Option FrameMode)(Z:aC)(hn:args.length<=(7:Nat)):bD Tryz.prog nls E 20 args u Z=aP Tryz.prog E [.cell 4 24] (Amp E none 20 ⟨bB undef 7 args,fun _=>undef,7,22,[]⟩ u Z):=by
 rw[Ap (body:=Tryz.f20.body.getD .skip) Tryz.func20 rfl E args u Z 7 22 (by kernel_rfl) rfl ⟨hn,by decide⟩,AuG]
 rfl
end
section
open Go Go.Eng
attribute [local congr] Aa Af Ae Ab Ad
attribute [-go_sem] List.range_succ
theorem Avz:bE nls 81=[19,20]:=by kernel_rfl
structure HeadRe (R:Nat->Prop) (bU:aC) (bd bt:Nat) (rest:D) (done:List D) (f:Nat->Value) (Z:aC):Prop where
 f1:f 1=.pointer (some ⟨bd,0,none⟩)
 f3:f 3=.pointer (some ⟨bt,0,none⟩)
 vec:VecG (fun b=>bU.next<=b/\b≠bd/\b≠bt) R Z (f 4) done
 hd:∃ver lv,Z.heap.get bd=some ⟨.cells lv TD,false,none,ver⟩/\lv.length=4/\aL R Z (.agg lv.toArray) rest
 ht:∃ver,Z.heap.get bt=some ⟨.cells [.int .i64 0,.int .i64 0,.string ⟨#[]⟩,.slice none 0 0] TD,false,none,ver⟩
 ne:bd≠bt
 lo:bU.next<=bd/\bU.next<=bt
 wf:Wf Z
 ext:Ext bU Z
theorem Amh(E:Env){R:Nat->Prop}{bU:aC}{bd bt:Nat}(hR:∀b,R b->b<bU.next)(k z:Int)(tt:ByteArray)(td:List D)(hk:(k==5)=false):∀(es:List D) (fuel:Nat) (done:List D) (f g:Nat->Value) (Z:aC),es.length<fuel->done.length+es.length<900->HeadRe R bU bd bt (bS (.mk k z tt td) es) done f Z->
  ∃f' g' V,floop [19,20] (Abp E none 81) fuel (Sl 5 21 f g []) none Z=.done (.exit 0) (Sl 5 21 f' g' []) none V/\HeadRe R bU bd bt (.mk k z tt td) (done++es) f' V:=by
 intro es
 induction es with
 | nil=>
  intro fuel done f g Z hf hlen h
  obtain⟨fuel,rfl⟩:∃q,fuel=q+1:=⟨fuel-1,by omega⟩
  obtain⟨ver,lv,hg,h4,hL⟩:=h.hd
  have hL0:=hL
  rw[bS] at hL
  obtain⟨q,c,hv,hE⟩:=hL
  have hlv:lv=[.int .i64 k,.int .i64 z,.string tt,.slice q td.length c]:=by
   have:=Value.agg.inj hv
   simpa using congrArg Array.toList this
  subst hlv
  have hc:=Aq hg
  rw[Ao,Bl]
  unfold Abp
  simp -implicitDefEqProofs only[go_sem,V2,SH,h.f1,hc,hk]
  rw[bS] at h
  exact⟨_,_,_,rfl,h⟩
 | cons d es ih=>
  intro fuel done f g Z hf hlen h
  obtain⟨fuel,rfl⟩:∃q,fuel=q+1:=⟨fuel-1,by omega⟩
  rw[List.length_cons] at hf hlen
  obtain⟨ver,lv,hg,h4,hL⟩:=h.hd
  rw[bS,pairD] at hL
  obtain⟨q,c,hv,⟨b,off,cs,rfl,hRb,hcs,hle,hd⟩,⟨b',off',cs',hq',_,hcs',hle',hd'⟩,_⟩:=hL
  cases hq'
  rw[hcs] at hcs'
  cases hcs'
  have hlv:lv=[.int .i64 5,.int .i64 0,.string ⟨#[]⟩,.slice (some ⟨b,off,none⟩) 2 c]:=by
   have:=Value.agg.inj hv
   simpa using congrArg Array.toList this
  subst hlv
  have hc:=Aq hg
  obtain⟨vt,ht⟩:=h.ht
  have hbd:=h.lo.1
  have hbt:=h.lo.2
  have hbn:=hR b hRb
  have hle0:=h.ext.next
  obtain⟨l4,e4,hl4,ho4⟩:=hd.agg
  have e4':(cs.drop (off+0*4)).take 4=l4:=by
   have:=Value.agg.inj e4
   simpa using congrArg Array.toList this
  rw[e4'] at hd
  obtain⟨m4,e5,hm4,hom4⟩:=hd'.agg
  have e5':(cs.drop (off+(0+1)*4)).take 4=m4:=by
   have:=Value.agg.inj e5
   simpa using congrArg Array.toList this
  rw[e5'] at hd'
  have hdl:bd<Z.next:=(h.wf _ _ hg).1
  obtain⟨s',τ,ha,hV,hwτ,hch⟩:=KP (fun b=>bU.next<=b/\b≠bd/\b≠bt) R (fun b=>bU.next<=b/\b≠bd/\b≠bt) Z (f 4) done d l4 h.wf hl4 ho4 (by omega) h.vec hd (fun x hx hr=>by have:=hR x hr;omega) (fun x hx=>⟨by omega,by omega,by have:=(h.wf _ _ ht).1;omega⟩)
  have kR:∀x xs,R x->Z.cells x=some xs->τ.cells x=some xs:=fun x xs hx hxs=>(hch.cells (h.wf.cells hxs) (fun hq=>by have:=hR x hx;omega)).trans hxs
  have hgτ:τ.heap.get bd=_:=(hch.get bd hdl (fun hq=>hq.2.1 rfl)).trans hg
  have hcτ:=Aq hgτ
  have htτ:τ.heap.get bt=_:=(hch.get bt (h.wf _ _ ht).1 (fun hq=>hq.2.2 rfl)).trans ht
  have hcsτ:=kR _ _ hRb hcs
  have l1:4<=cs.length-off:=by omega
  have l2:4<=cs.length-(off+4):=by omega
  have e6:List.take 4 (List.drop off cs)=l4:=by simpa using e4'
  have e7:List.take 4 (List.drop (off+4) cs)=m4:=by simpa using e5'
  have nb:(b=bd)=False:=by simp;omega
  have tl4:l4.take 4=l4:=List.take_of_length_le (by omega)
  have tm4:m4.take 4=m4:=List.take_of_length_le (by omega)
  have hone:=(show VecG _ R τ s' _ from hV).one
  rw[Ao,Bl]
  unfold Abp
  simp -implicitDefEqProofs only[go_sem,Ar,V2,SH,Ali,ZF,Alj,ZG,h.f1,hc,hcs,l1,e6,l2,e7,hl4,ho4,hm4,hom4,tl4,tm4,ha,hcτ,hcsτ,hgτ,hone.1,hone.2.1,hone.2.2,OJ,OK,List.mem_cons]
  generalize hff:upd _ 4 _=f1
  generalize hgg:upd _ 18 _=g1
  have q2:f1 4=s':=by rw[<-hff];simp -implicitDefEqProofs only[go_sem,reduceCtorEq]
  have hnτ:=hch.next
  have hX:Ext bU (τ.put bd (.cells m4 TD) none):=(((h.ext.chg _).trans hch fun b _ hq=>hq).ext fun x hx hq=>by omega).put _ _ _ hbd
  obtain⟨f2,g2,a9,r1,r2⟩:=ih fuel (done++[d]) f1 g1 (τ.put bd (.cells m4 TD) none) (by omega) (by rw[List.length_append,List.length_singleton];omega) {
   f1:=by rw[<-hff];simp -implicitDefEqProofs only[go_sem,reduceCtorEq,h.f1]
   f3:=by rw[<-hff];simp -implicitDefEqProofs only[go_sem,reduceCtorEq,h.f3]
   vec:=by rw[q2];exact hV.keep (fun x e hx hc=>⟨by rw[Am,if_neg hx.2.1];exact hc,hx⟩) fun x xs hx hxs=>⟨by rw[Ak,if_neg (by have:=hR x hx;omega)];exact hxs,hx⟩
   hd:=⟨_,m4,by rw[Am,if_pos rfl],hm4,hd'.keep fun x xs hx hxs=>⟨by rw[Ak,if_neg (by have:=hR x hx;omega)];exact kR x xs hx hxs,hx⟩⟩
   ht:=⟨vt,by rw[Am,if_neg (Ne.symm h.ne)];exact htτ⟩
   ne:=h.ne
   lo:=h.lo
   wf:=hwτ.put _ _ _ (by omega)
   ext:=hX }
  rw[List.append_assoc] at r2
  exact⟨f2,g2,a9,r1,r2⟩
theorem FJ(n:Nat){R:Nat->Prop}{d t:D}{es:List D}(hS:LSplit d t es)(hc:d.count<=800)(lv:List Value)(h4:lv.length=4)(Z:aC)(hw:Wf Z)(hL:aL R Z (.agg lv.toArray) d)(hR:∀b,R b->b<Z.next):
  Gives ((env (n+1)).call 81 [.agg lv.toArray] none Z) Z fun w V=>∃(s:Value) (tv:List Value),w=.tuple #[s,.agg tv.toArray]/\tv.length=4/\VecG (fun b=>Z.next<=b) R V s es/\aL R V (.agg tv.toArray) t:=by
 have hfew:=hS.few
 have hkn:=hS.knd
 obtain⟨rfl,_,_,_⟩:=hS
 obtain⟨k,z,tt,td⟩:=t
 have ht:lv.take 4=lv:=List.take_of_length_le (by omega)
 have hk5:(k==5)=false:=by rw[beq_eq_false_iff_ne];exact hkn
 have hge:=En es
 rw[Al _ 81 _ _ rfl,AoD _ _ _ _ (by simp),Aj]
 unfold AmP
 have x1:Ext Z ((Z.push (.cells lv TD) none).push (.cells [.int .i64 0,.int .i64 0,.string ⟨#[]⟩,.slice none 0 0] TD) none):=((Ext.refl _).push _ _).push _ _
 have hw1:=(hw.push (.cells lv TD) none).push (.cells [.int .i64 0,.int .i64 0,.string ⟨#[]⟩,.slice none 0 0] TD) none
 have g1:((Z.push (.cells lv TD) none).push (.cells [.int .i64 0,.int .i64 0,.string ⟨#[]⟩,.slice none 0 0] TD) none).heap.get Z.next=some ⟨.cells lv TD,false,none,Z.clock⟩:=by rw[Ai,if_neg (by rw[Ac];omega),Ai,if_pos rfl]
 have g2:((Z.push (.cells lv TD) none).push (.cells [.int .i64 0,.int .i64 0,.string ⟨#[]⟩,.slice none 0 0] TD) none).heap.get (Z.next+1)=some ⟨.cells [.int .i64 0,.int .i64 0,.string ⟨#[]⟩,.slice none 0 0] TD,false,none,Z.clock+1⟩:=by rw[Ai,if_pos (by rw[Ac])];rfl
 simp -implicitDefEqProofs only[go_sem,Alg,ZD,Alh,ZE,Avz]
 generalize aC.push (aC.push Z _ _) _ _=a_ at x1 hw1 g1 g2 ⊢
 generalize hff:upd _ 4 _=f1
 generalize hbf:bF=fuel
 obtain⟨f2,g2',a9,r1,h⟩:=Amh (env n) (bU:=Z) (bd:=Z.next) (bt:=Z.next+1) hR k z tt td hk5 es fuel [] f1 (fun _=>undef) a_ (by rw[<-hbf];show es.length<1000000000000;omega) (by simp;omega) {
  f1:=by rw[<-hff];simp -implicitDefEqProofs only[go_sem,reduceCtorEq]
  f3:=by rw[<-hff];simp -implicitDefEqProofs only[go_sem,reduceCtorEq]
  vec:=.inl ⟨rfl,by rw[<-hff];simp -implicitDefEqProofs only[go_sem,reduceCtorEq]⟩
  hd:=⟨_,lv,g1,h4,hL.keep fun b cs hb hc=>⟨(x1.cells (hw.cells hc)).trans hc,hb⟩⟩
  ht:=⟨_,g2⟩
  ne:=by omega
  lo:=⟨by omega,by omega⟩
  wf:=hw1
  ext:=x1 }
 rw[r1]
 obtain⟨ver,tv,hg,t4,hT⟩:=h.hd
 obtain⟨vt,hbt⟩:=h.ht
 have hc1:=Aq hg
 have o:=h.vec.one
 have ttv:tv.take 4=tv:=List.take_of_length_le (by omega)
 have hvw:=Dw h.wf (lam:=a9.clock) (Nat.le_refl _)
 obtain⟨l5,e5,_,ho5⟩:=hT.agg
 have e5':tv=l5:=by
  have:=Value.agg.inj e5
  simpa using congrArg Array.toList this
 subst e5'
 simp -implicitDefEqProofs only[go_sem,Ar,Alk,ZH,h.f1,h.f3,hc1,hvw,t4,ttv,ho5,hbt,o.1,o.2.1,o.2.2,Bg,AB,Av,Au,AH,AU]
 have hbl:=(h.wf _ _ hbt).1
 refine⟨_,_,rfl,h.ext.put _ _ _ (by omega),h.wf.put _ _ _ hbl,_,_,rfl,t4,h.vec.keep (fun b e hb hc=>⟨by rw[Am,if_neg hb.2.2];exact hc,hb.1⟩) (fun b cs hb hc=>⟨by rw[Ak,if_neg (by have:=hR b hb;omega)];exact hc,hb⟩),hT.keep fun b cs hb hc=>⟨by rw[Ak,if_neg (by have:=hR b hb;omega)];exact hc,hb⟩⟩
theorem Avy:bE nls 20=[21]:=by kernel_rfl
def BoxD(R:Nat->Prop)(lo bx br:Nat)(d:D)(Z:aC):Prop:=∃ver lv,Z.heap.get bx=some ⟨.cells lv TD,false,none,ver⟩/\lv.length=4/\lv.all oneCell=true/\aL (fun b=>(R b\/lo<=b)/\b≠bx/\b≠br) Z (.agg lv.toArray) d
structure HeadLs (q:Option Addr) (c:Nat) (ds:List D) (R:Nat->Prop) (bU:aC) (bx br:Nat) (t:D) (j:Nat) (f:Nat->Value) (Z:aC):Prop where
 f0:f 0=.slice q ds.length c
 f4:f 4=.pointer (some ⟨br,0,none⟩)
 f5:f 5=.pointer (some ⟨bx,0,none⟩)
 f6:f 6=.int .i64 (pre j)
 gx:BoxD R bU.next bx br (bS t (ds.drop j)) Z
 gr:∃ver,Z.heap.get br=some ⟨.cells [.int .i64 0,.int .i64 0,.string ⟨#[]⟩,.slice none 0 0] TD,false,none,ver⟩
 lo:bU.next<=bx/\bU.next<=br
 ne:bx≠br
 wf:Wf Z
 ext:Ext bU Z
theorem Ao1(n:Nat){q:Option Addr}{c:Nat}{ds:List D}{R:Nat->Prop}{bU:aC}{bx br:Nat}{t:D}(hlen:ds.length<1000000)(hw0:Wf bU)(hR:∀b,R b->b<bU.next)(hE:aO R bU q 0 ds):
  ∀(j fuel:Nat) (f g:Nat->Value) (Z:aC),j<=ds.length->j<fuel->HeadLs q c ds R bU bx br t j f Z->
   ∃f' g' V,floop [21] (Abl (env (n+1)) none 20) fuel (Sl 7 22 f g []) none Z=.done (.exit 0) (Sl 7 22 f' g' []) none V/\HeadLs q c ds R bU bx br t 0 f' V:=by
 intro j
 induction j with
 | zero=>
  intro fuel f g Z hj hf h
  obtain⟨fuel,rfl⟩:∃q,fuel=q+1:=⟨fuel-1,by omega⟩
  have d1:decide (pre 0≥0)=false:=by decide
  rw[Ao,Bl]
  unfold Abl
  simp -implicitDefEqProofs only[go_sem,Vd,RJ,h.f6,d1]
  exact⟨_,_,_,rfl,h⟩
 | succ j ih=>
  intro fuel f g Z hj hf h
  obtain⟨fuel,rfl⟩:∃q,fuel=q+1:=⟨fuel-1,by omega⟩
  have f6:=h.f6
  rw[pre] at f6
  have d1:decide (Int.ofNat j≥0)=true:=by simp
  have hd:ds[j]? = some ds[j]:=List.getElem?_eq_getElem (by omega)
  obtain⟨b,off,cs,rfl,hRb,hcs0,hle,hL0⟩:=aO.get hE hd
  rw[Nat.zero_add] at hle hL0
  obtain⟨ver,lv,gx,lx4,lxo,hX⟩:=h.gx
  have hcs:=(h.ext.cells (hw0.cells hcs0)).trans hcs0
  have hL:aL (fun b=>(R b\/bU.next<=b)/\b≠bx/\b≠br) Z _ ds[j]:=hL0.keep fun b cs hb hc=>⟨(h.ext.cells (hw0.cells hc)).trans hc,.inl hb,by have:=hR b hb;have:=h.lo;omega,by have:=hR b hb;have:=h.lo;omega⟩
  obtain⟨u,a_,e1,x1,hw1,hP⟩:=Ms n _ ds[j] (bS t (ds.drop (j+1))) _ _ Z h.wf hL hX
  rw[show D.mk 5 0 ⟨#[]⟩ [ds[j],bS t (ds.drop (j+1))]=bS t (ds.drop j) by rw[List.drop_eq_getElem_cons (by omega:j<ds.length)];rfl] at hP
  obtain⟨l4,rfl,hl4,ho4⟩:=hP.agg
  have w1:=K1 j (by omega)
  have hjl:j<ds.length:=by omega
  have hvw:=Dw h.wf (lam:=Z.clock) (Nat.le_refl _)
  have cx:=Aq gx
  have bl:=(h.wf _ _ gx).1
  have gx1:=(x1.get _ bl).trans gx
  obtain⟨vr,gr⟩:=h.gr
  have gr1:=(x1.get _ (h.wf _ _ gr).1).trans gr
  have tl4:l4.take 4=l4:=List.take_of_length_le (by omega)
  have tlx:lv.take 4=lv:=List.take_of_length_le (by omega)
  have dlx:lv.drop 4=[]:=List.drop_of_length_le (by omega)
  have n1:=x1.next
  have nn:=h.ext.next
  rw[Ao,Bl]
  unfold Abl
  simp -implicitDefEqProofs only[go_sem,Ar,Vd,RJ,Ajo,X9,Ajp,X_,h.f0,h.f5,f6,d1,hjl,hcs,hle,hvw,cx,lx4,tlx,dlx,e1,gx1,hl4,ho4,tl4,w1,List.mem_cons]
  generalize hff:upd _ 6 _=f1
  exact ih fuel f1 _ _ (by omega) (by omega) {
   f0:=by rw[<-hff];simp -implicitDefEqProofs only[go_sem,reduceCtorEq,h.f0]
   f4:=by rw[<-hff];simp -implicitDefEqProofs only[go_sem,reduceCtorEq,h.f4]
   f5:=by rw[<-hff];simp -implicitDefEqProofs only[go_sem,reduceCtorEq,h.f5]
   f6:=by rw[<-hff];simp -implicitDefEqProofs only[go_sem,reduceCtorEq]
   gx:=⟨_,l4,by rw[Am,if_pos rfl],hl4,ho4,hP.keep fun b cs hb hc=>by
    have hb':(R b\/bU.next<=b)/\b≠bx/\b≠br:=by
     rcases hb with hb|hb
     .exact hb
     .have h1:=hb.1
      have h2:=(h.wf _ _ gr).1
      exact⟨.inr (by omega),by omega,by omega⟩
    exact⟨by rw[Ak,if_neg hb'.2.1];exact hc,hb'⟩⟩
   gr:=⟨vr,by rw[Am,if_neg (Ne.symm h.ne)];exact gr1⟩
   lo:=h.lo
   ne:=h.ne
   wf:=hw1.put _ _ _ (by omega)
   ext:=(h.ext.trans x1).put _ _ _ h.lo.1 }
theorem HG(n:Nat){q:Option Addr}{c:Nat}{ds:List D}{R:Nat->Prop}{t:D}(hlen:ds.length<1000000)(tv:List Value)(h4:tv.length=4)(ho:tv.all oneCell=true)(Z:aC)(hw:Wf Z)(hR:∀b,R b->b<Z.next)(hE:aO R Z q 0 ds)(hT:aL R Z (.agg tv.toArray) t):
  Gives ((env (n+2)).call 20 [.slice q ds.length c,.agg tv.toArray] none Z) Z fun w V=>aL (fun b=>R b\/Z.next<=b) V w (bS t ds):=by
 have tt4:tv.take 4=tv:=List.take_of_length_le (by omega)
 rw[Al _ 20 _ _ rfl,Aod _ _ _ _ (by simp),Aj]
 unfold Amp
 have w1:=K1 ds.length (by omega)
 have x1:Ext Z ((((Z.push (.cells tv TD) none).push (.cells [.int .i64 0,.int .i64 0,.string ⟨#[]⟩,.slice none 0 0] TD) none).push (.cells [.int .i64 0,.int .i64 0,.string ⟨#[]⟩,.slice none 0 0] TD) none).put (Z.next+2) (.cells tv TD) none):=((((Ext.refl _).push _ _).push _ _).push _ _).put _ _ _ (by omega)
 have hw1:=(((hw.push (.cells tv TD) none).push (.cells [.int .i64 0,.int .i64 0,.string ⟨#[]⟩,.slice none 0 0] TD) none).push (.cells [.int .i64 0,.int .i64 0,.string ⟨#[]⟩,.slice none 0 0] TD) none).put (Z.next+2) (.cells tv TD) none (by simp only[Ac];omega)
 have g2:∃v,((((Z.push (.cells tv TD) none).push (.cells [.int .i64 0,.int .i64 0,.string ⟨#[]⟩,.slice none 0 0] TD) none).push (.cells [.int .i64 0,.int .i64 0,.string ⟨#[]⟩,.slice none 0 0] TD) none).put (Z.next+2) (.cells tv TD) none).heap.get (Z.next+1)=some ⟨.cells [.int .i64 0,.int .i64 0,.string ⟨#[]⟩,.slice none 0 0] TD,false,none,v⟩:=⟨_,by rw[Am,if_neg (by omega),Ai,if_neg (by simp only[Ac];omega),Ai,if_pos (by rw[Ac])]⟩
 have g3:∃v,((((Z.push (.cells tv TD) none).push (.cells [.int .i64 0,.int .i64 0,.string ⟨#[]⟩,.slice none 0 0] TD) none).push (.cells [.int .i64 0,.int .i64 0,.string ⟨#[]⟩,.slice none 0 0] TD) none).put (Z.next+2) (.cells tv TD) none).heap.get (Z.next+2)=some ⟨.cells tv TD,false,none,v⟩:=⟨_,by rw[Am,if_pos rfl]⟩
 simp -implicitDefEqProofs only[go_sem,Ar,Ajl,X0,Ajm,X5,Ajn,X7,h4,ho,tt4,w1,Avy]
 generalize aC.put _ _ _ _=a_ at x1 hw1 g2 g3 ⊢
 generalize hff:upd _ 6 _=f1
 generalize hbf:bF=fuel
 obtain⟨v3,g3⟩:=g3
 obtain⟨f2,g2',a9,r1,h⟩:=Ao1 n (c:=c) (bx:=Z.next+2) (br:=Z.next+1) (t:=t) hlen hw hR hE ds.length fuel f1 _ a_ (Nat.le_refl _) (by rw[<-hbf];show ds.length<1000000000000;omega) {
  f0:=by rw[<-hff];simp -implicitDefEqProofs only[go_sem,reduceCtorEq]
  f4:=by rw[<-hff];simp -implicitDefEqProofs only[go_sem,reduceCtorEq]
  f5:=by rw[<-hff];simp -implicitDefEqProofs only[go_sem,reduceCtorEq]
  f6:=by rw[<-hff];simp -implicitDefEqProofs only[go_sem,reduceCtorEq]
  gx:=⟨_,tv,g3,h4,ho,by rw[List.drop_length];exact hT.keep fun b cs hb hc=>⟨(x1.cells (hw.cells hc)).trans hc,.inl hb,by have:=hR b hb;omega,by have:=hR b hb;omega⟩⟩
  gr:=g2
  lo:=⟨by omega,by omega⟩
  ne:=by omega
  wf:=hw1
  ext:=x1 }
 rw[r1]
 obtain⟨ver,lv,gx,lx4,lxo,hX⟩:=h.gx
 obtain⟨vr,gr⟩:=h.gr
 have cx:=Aq gx
 have bl:=(h.wf _ _ gr).1
 have tlx:lv.take 4=lv:=List.take_of_length_le (by omega)
 simp -implicitDefEqProofs only[go_sem,Ar,Ajq,Ya,h.f4,h.f5,cx,gr,lx4,lxo,tlx,Bg,AB,Av,Au,AH]
 rw[List.drop_zero] at hX
 exact⟨_,_,rfl,h.ext.put _ _ _ (by omega),h.wf.put _ _ _ bl,hX.keep fun b cs hb hc=>⟨by rw[Ak,if_neg hb.2.2];exact hc,hb.1⟩⟩
section
variable (M n N:Nat) (hM:M=n+4+N) (d e:D) (hdN:d.deep<=N) (heN:e.deep<=N) (hN:N<10000) (hd:d.count<900) (he:e.count<900) (lv mv:List Value) (h4:lv.length=4) (hm4:mv.length=4) (Z:aC) (hw:Wf Z) (hL:aL (fun b=>b<Z.next) Z (.agg lv.toArray) d) (hLe:aL (fun b=>b<Z.next) Z (.agg mv.toArray) e)
include hM hdN heN hd he h4 hm4 hw hL hLe
theorem AeD:Gives ((env (M+3)).call 89 [.agg lv.toArray,.agg mv.toArray] none Z) Z fun r _=>r=.int .i64 (twoE d e:Nat):=by
 have ht:lv.take 4=lv:=List.take_of_length_le (by omega)
 have htm:mv.take 4=mv:=List.take_of_length_le (by omega)
 rw[Al _ 89 _ _ rfl,AoK _ _ _ _ (by simp),Aj]
 unfold AmW
 have x1:Ext Z ((Z.push (.cells lv TD) none).push (.cells mv TD) none):=((Ext.refl _).push _ _).push _ _
 have hw1:=(hw.push (.cells lv TD) none).push (.cells mv TD) none
 have c1:((Z.push (.cells lv TD) none).push (.cells mv TD) none).cells Z.next=some lv:=by rw[Ah,if_neg (by rw[Ac];omega),Ah,if_pos rfl];rfl
 have c2:((Z.push (.cells lv TD) none).push (.cells mv TD) none).cells (Z.next+1)=some mv:=by rw[Ah,if_pos (by rw[Ac])];rfl
 obtain⟨_,a9,e2,x2,hw2,rfl⟩:=E9 (fun b=>b<Z.next) d lv h4 _ hw1 (hL.keep fun b cs hb hc=>⟨(x1.cells hb).trans hc,hb⟩) M n N hM hdN (by omega)
 have d2:=(x2.cells (hw1.cells c2)).trans c2
 have X2:=x1.trans x2
 unfold twoE
 by_cases h1:aR d=0
 .obtain⟨_,bT,e3,x3,hw3,rfl⟩:=E9 (fun b=>b<Z.next) e mv hm4 a9 hw2 (hLe.keep fun b cs hb hc=>⟨(X2.cells hb).trans hc,hb⟩) M n N hM heN (by omega)
  have z0:(((aR d:Nat):Int)==0)=true:=by rw[h1];rfl
  simp -implicitDefEqProofs only[go_sem,Wd,SS,We,ST,Wg,SU,AlG,Z2,c1,h4,hm4,ht,htm,e2,z0,d2,e3,Ag,Nat.le_refl]
  exact⟨_,_,rfl,X2.trans x3,hw3,by simp[h1]⟩
 .have z0:(((aR d:Nat):Int)==0)=false:=by simp;omega
  simp -implicitDefEqProofs only[go_sem,Wd,SS,We,ST,Wg,SU,AlF,Z1,c1,h4,hm4,ht,htm,e2,z0,Ag,Nat.le_refl]
  exact⟨_,_,rfl,X2,hw2,by simp[h1]⟩
end
def bigE(d:D):Nat:=if d.count<=2000 then 0 else 8
section
variable (M n:Nat) (hM:M=n+2001) (R:Nat->Prop) (d:D) (lv:List Value) (h4:lv.length=4) (Z:aC) (hw:Wf Z) (hL:aL R Z (.agg lv.toArray) d)
include hM h4 hw hL
theorem UO:Gives ((env (M+1)).call 75 [.agg lv.toArray] none Z) Z fun r _=>r=.int .i64 (bigE d:Nat):=by
 have ht:lv.take 4=lv:=List.take_of_length_le (by omega)
 rw[Al _ 75 _ _ rfl,Abc _ _ _ _ (by simp),Aj]
 unfold Aca
 have x1:Ext Z (Z.push (.cells lv TD) none):=(Ext.refl _).push _ _
 have hw1:=hw.push (.cells lv TD) none
 have c1:(Z.push (.cells lv TD) none).cells Z.next=some lv:=by rw[Ah,if_pos rfl];rfl
 obtain⟨_,a9,e2,x2,hw2,rfl⟩:=AfE n R 2000 2000 d (Nat.le_refl _) (by omega) (.agg lv.toArray) _ hw1 (hL.keep fun b cs hb hc=>⟨(x1.cells (hw.cells hc)).trans hc,hb⟩)
 rw[show n+2000+1=M by omega] at e2
 have e2':(env M).call 42 [.agg lv.toArray,.int .i64 2000] none (Z.push (.cells lv TD) none)=_:=e2
 unfold bigE
 by_cases h:d.count<=2000
 .have d0:decide (Int.ofNat (min d.count (2000+1))>2000)=false:=by
   simp only[Int.ofNat_eq_natCast,decide_eq_false_iff_not]
   omega
  generalize hq:min d.count (2000+1)=qq at *
  simp -implicitDefEqProofs only[go_sem,Nc,Nb,Nf,Nd,VU,Sz,h4,ht,e2',d0,Ag,Nat.le_refl]
  exact⟨_,_,rfl,x1.trans x2,hw2,by simp[h]⟩
 .have d0:decide (Int.ofNat (min d.count (2000+1))>2000)=true:=by
   simp only[Int.ofNat_eq_natCast,decide_eq_true_eq]
   omega
  generalize hq:min d.count (2000+1)=qq at *
  simp -implicitDefEqProofs only[go_sem,Nc,Nb,Nf,Nd,Ak0,Zo,h4,ht,e2',d0,Ag,Nat.le_refl]
  exact⟨_,_,rfl,x1.trans x2,hw2,by simp[h]⟩
theorem Mi(ho:lv.all oneCell=true):Gives ((env (M+2)).call 86 [.agg lv.toArray] none Z) Z fun r V=>r=.tuple #[if d.count<=2000 then .agg lv.toArray else .agg #[.int .i64 0,.int .i64 0,.string ⟨#[]⟩,.slice none 0 0],.int .i64 (bigE d:Nat)]:=by
 have ht:lv.take 4=lv:=List.take_of_length_le (by omega)
 rw[Al _ 86 _ _ rfl,AoH _ _ _ _ (by simp),Aj]
 unfold AmT
 have x1:Ext Z ((Z.push (.cells lv TD) none).push (.cells [.int .i64 0,.int .i64 0,.string ⟨#[]⟩,.slice none 0 0] TD) none):=((Ext.refl _).push _ _).push _ _
 have hw1:=(hw.push (.cells lv TD) none).push (.cells [.int .i64 0,.int .i64 0,.string ⟨#[]⟩,.slice none 0 0] TD) none
 have c1:((Z.push (.cells lv TD) none).push (.cells [.int .i64 0,.int .i64 0,.string ⟨#[]⟩,.slice none 0 0] TD) none).cells Z.next=some lv:=by rw[Ah,if_neg (by rw[Ac];omega),Ah,if_pos rfl];rfl
 have g2:((Z.push (.cells lv TD) none).push (.cells [.int .i64 0,.int .i64 0,.string ⟨#[]⟩,.slice none 0 0] TD) none).heap.get (Z.next+1)=some ⟨.cells [.int .i64 0,.int .i64 0,.string ⟨#[]⟩,.slice none 0 0] TD,false,none,Z.clock+1⟩:=by rw[Ai,if_pos (by rw[Ac])];rfl
 obtain⟨_,a9,e2,x2,hw2,rfl⟩:=UO M n hM R d lv h4 _ hw1 (hL.keep fun b cs hb hc=>⟨(x1.cells (hw.cells hc)).trans hc,hb⟩)
 have c2:=(x2.cells (hw1.cells c1)).trans c1
 have g3:=(x2.get (Z.next+1) (hw1 _ _ g2).1).trans g2
 have m3:=(hw2 _ _ g3).1
 by_cases h:d.count<=2000
 .have z0:(((bigE d:Nat):Int)==0)=true:=by unfold bigE;rw[if_pos h];rfl
  have b0:bigE d=0:=by unfold bigE;rw[if_pos h]
  rw[if_pos h]
  simp -implicitDefEqProofs only[go_sem,Ar,V8,SN,V9,SP,V_,SQ,Alz,ZV,h4,ht,e2,z0,c2,g3,ho,Bg,Ag,AB,Av,Au,AH,AU,Nat.le_refl]
  exact⟨_,_,rfl,(x1.trans x2).put _ _ _ (by omega),hw2.put _ _ _ m3,by rw[b0];rfl⟩
 .have z0:(((bigE d:Nat):Int)==0)=false:=by unfold bigE;rw[if_neg h];rfl
  rw[if_neg h]
  simp -implicitDefEqProofs only[go_sem,Ar,V8,SN,V9,SP,V_,SQ,Aly,ZU,h4,ht,e2,z0,c2,g3,Bg,Ag,AB,Av,Au,AH,AU,Nat.le_refl]
  exact⟨_,_,rfl,(x1.trans x2).put _ _ _ (by omega),hw2.put _ _ _ m3,rfl⟩
end
theorem P1{R:Nat->Prop}{Z:aC}{tv:List Value}{t:D}(h:aL R Z (.agg tv.toArray) t):∃v1 v2 v3,tv=[.int .i64 (kindD t),v1,v2,v3]/\oneCell v1=true/\oneCell v2=true/\oneCell v3=true:=by
 obtain⟨k,z,tt,td⟩:=t
 obtain⟨q,c,hv,_⟩:=h
 have:=congrArg (fun v=>match v with|Value.agg a=>a.toList|_=>[]) hv
 simp at this
 subst this
 exact⟨_,_,_,rfl,rfl,rfl,rfl⟩
section
variable (M n n2:Nat) (hM:M=n+2001) (hM2:M=n2+200) (d t:D) (es:List D) (hd:d.count<=170) (hS:aR d=0->LSplit d t es) (lv:List Value) (h4:lv.length=4)
include hM hM2 hd hS h4
theorem S_(Z:aC)(hw:Wf Z)(hL:aL (fun b=>b<Z.next) Z (.agg lv.toArray) d):
  Gives ((env (M+9)).call 23 [.agg lv.toArray] none Z) Z fun w V=>TolOk d t es (fun b=>b<V.next) V w:=by
 have dd:=Bz d
 have ht:lv.take 4=lv:=List.take_of_length_le (by omega)
 rw[Al _ 23 _ _ rfl,Aog _ _ _ _ (by simp),Aj]
 unfold Ams TolOk
 have x1:Ext Z (Z.push (.cells lv TD) none):=(Ext.refl _).push _ _
 have hw1:=hw.push (.cells lv TD) none
 have c1:(Z.push (.cells lv TD) none).cells Z.next=some lv:=by rw[Ah,if_pos rfl];rfl
 have st:∀ {τ:aC},Ext Z τ->∀ {v:Value} {d:D},aL (fun b=>b<Z.next) Z v d->aL (fun b=>b<τ.next) τ v d:=fun hX v d h=>h.keep fun b cs hb hc=>⟨(hX.cells hb).trans hc,by have:=hX.next;omega⟩
 simp -implicitDefEqProofs only[go_sem,AjF,Yh]
 generalize aC.push _ _ _=a_ at x1 hw1 c1 ⊢
 obtain⟨_,a9,e2,x2,hw2,rfl⟩:=E9 _ d lv h4 a_ hw1 (st x1 hL) (M+6) (n2+32) 170 (by omega) (by omega) (by omega)
 have c2:=(x2.cells (hw1.cells c1)).trans c1
 have X2:=x1.trans x2
 by_cases e0:aR d=0
 .have z0:(((aR d:Nat):Int)==0)=true:=by rw[e0];rfl
  have hs:=hS e0
  obtain⟨_,bT,e3,x3,hw3,s,tv,rfl,t4,hV,hT⟩:=FJ (M+7) hs (by omega) lv h4 a9 hw2 (st X2 hL) (fun b hb=>hb)
  obtain⟨v1,v2,v3,rfl,o1,o2,o3⟩:=P1 hT
  have o:=hV.one
  have hl:=UV (t:=t) (es:=es) e0
  rw[hl]
  have x4:Ext bT ((bT.push (.cells [.int .i64 0,.int .i64 0,.string ⟨#[]⟩,.slice none 0 0] TD) none).put bT.next (.cells [.int .i64 (kindD t),v1,v2,v3] TD) none):=((Ext.refl _).push _ _).put _ _ _ (Nat.le_refl _)
  have hw4:=(hw3.push (.cells [.int .i64 0,.int .i64 0,.string ⟨#[]⟩,.slice none 0 0] TD) none).put bT.next (.cells [.int .i64 (kindD t),v1,v2,v3] TD) none (Nat.lt_succ_self _)
  by_cases hk:kindD t=0
  .have k0:(kindD t==0)=true:=by rw[hk];rfl
   simp -implicitDefEqProofs only[go_sem,Ar,MH,MG,MJ,MI,Vh,RN,Vi,RO,AjI,Yk,c1,c2,h4,ht,e2,z0,e3,o1,o2,o3,o.1,o.2.1,o.2.2,k0,Ag,AB,Av,Au,AU,Nat.le_refl]
   obtain⟨p,hs',hE⟩:=hV.slice
   refine⟨_,_,rfl,(X2.trans x3).trans x4,hw4,p,es.length,by rw[if_pos hk,hs'];rfl,?_⟩
   rw[if_pos hk,if_pos rfl]
   exact hE.keep fun b cs hb hc=>⟨(x4.cells (hw3.cells hc)).trans hc,Nat.lt_of_lt_of_le (hw3.cells hc) x4.next⟩
  .have k0:(kindD t==0)=false:=beq_eq_false_iff_ne.2 hk
   simp -implicitDefEqProofs only[go_sem,Ar,MH,MG,MJ,MI,Vh,RN,Vi,RO,AjH,Yj,c1,c2,h4,ht,e2,z0,e3,o1,o2,o3,o.1,o.2.1,o.2.2,k0,Ag,AB,Av,Au,AU,Nat.le_refl]
   exact⟨_,_,rfl,(X2.trans x3).trans x4,hw4,none,0,by rw[if_neg hk];rfl,by rw[if_neg hk,if_neg (by decide)];trivial⟩
 .have z0:(((aR d:Nat):Int)==0)=false:=by simp;omega
  have hl:listE d t=aR d:=by unfold listE;rw[if_neg e0]
  rw[hl]
  simp -implicitDefEqProofs only[go_sem,MH,MG,MJ,MI,AjG,Yi,c1,h4,ht,e2,z0,Ag,AB,Av,Au,AU,Nat.le_refl]
  exact⟨_,_,rfl,X2,hw2,none,0,by rw[if_neg e0];rfl,by rw[if_neg e0];trivial⟩
theorem S9(x:D)(xv:List Value)(hx:x.count<=170)(hx4:xv.length=4)(S:Nat->Prop)(Z:aC)(hw:Wf Z)(hSn:∀b,S b->b<Z.next)(hL:aL S Z (.agg lv.toArray) d)(hLx:aL S Z (.agg xv.toArray) x):
  Gives ((env (M+9)).call 28 [.agg lv.toArray,.agg xv.toArray] none Z) Z fun w V=>AppOk d x t es (fun b=>S b\/Z.next<=b) V w:=by
 have dd:=Bz d
 have dx:=Bz x
 have ht:lv.take 4=lv:=List.take_of_length_le (by omega)
 have htx:xv.take 4=xv:=List.take_of_length_le (by omega)
 obtain⟨lx,rlx,_,hxo⟩:=hLx.agg
 have hxo:xv.all oneCell=true:=by
  have:=congrArg (fun v=>match v with|Value.agg a=>a.toList|_=>[]) rlx
  simp at this
  rw[this];exact hxo
 rw[Al _ 28 _ _ rfl,Aol _ _ _ _ (by simp),Aj]
 unfold Amx AppOk appR
 have x1:Ext Z (((Z.push (.cells lv TD) none).push (.cells xv TD) none).push (.cells [.int .i64 0,.int .i64 0,.string ⟨#[]⟩,.slice none 0 0] TD) none):=(((Ext.refl _).push _ _).push _ _).push _ _
 have hw1:=((hw.push (.cells lv TD) none).push (.cells xv TD) none).push (.cells [.int .i64 0,.int .i64 0,.string ⟨#[]⟩,.slice none 0 0] TD) none
 have c1:(((Z.push (.cells lv TD) none).push (.cells xv TD) none).push (.cells [.int .i64 0,.int .i64 0,.string ⟨#[]⟩,.slice none 0 0] TD) none).cells Z.next=some lv:=by rw[Ah,if_neg (by simp only[Ac];omega),Ah,if_neg (by rw[Ac];omega),Ah,if_pos rfl];rfl
 have c2:(((Z.push (.cells lv TD) none).push (.cells xv TD) none).push (.cells [.int .i64 0,.int .i64 0,.string ⟨#[]⟩,.slice none 0 0] TD) none).cells (Z.next+1)=some xv:=by rw[Ah,if_neg (by simp only[Ac];omega),Ah,if_pos (by rw[Ac])];rfl
 have g3:(((Z.push (.cells lv TD) none).push (.cells xv TD) none).push (.cells [.int .i64 0,.int .i64 0,.string ⟨#[]⟩,.slice none 0 0] TD) none).heap.get (Z.next+2)=some ⟨.cells [.int .i64 0,.int .i64 0,.string ⟨#[]⟩,.slice none 0 0] TD,false,none,Z.clock+2⟩:=by rw[Ai,if_pos (by simp only[Ac])];rfl
 have n1':(((Z.push (.cells lv TD) none).push (.cells xv TD) none).push (.cells [.int .i64 0,.int .i64 0,.string ⟨#[]⟩,.slice none 0 0] TD) none).next=Z.next+3:=rfl
 have st:∀ {τ:aC},Ext Z τ->∀ {v:Value} {d:D},aL S Z v d->aL (fun b=>b<τ.next) τ v d:=fun hX v d h=>h.keep fun b cs hb hc=>⟨(hX.cells (hSn b hb)).trans hc,by have:=hSn b hb;have:=hX.next;omega⟩
 have kl:∀ {τ:aC},Ext Z τ->∀ {v:Value} {d:D},aL S Z v d->aL S τ v d:=fun hX v d h=>h.keep fun b cs hb hc=>⟨(hX.cells (hSn b hb)).trans hc,hb⟩
 simp -implicitDefEqProofs only[go_sem,AjT,Yv]
 generalize aC.push _ _ _=a_ at x1 hw1 c1 c2 g3 n1' ⊢
 obtain⟨_,a9,e2,x2,hw2,rfl⟩:=AeD (M+5) (n2+31) 170 (by omega) d x (by omega) (by omega) (by omega) (by omega) lv xv h4 hx4 a_ hw1 (st x1 hL) (st x1 hLx)
 have X2:=x1.trans x2
 have c12:=(x2.cells (hw1.cells c1)).trans c1
 have c22:=(x2.cells (hw1.cells c2)).trans c2
 have g32:=(x2.get _ (hw1 _ _ g3).1).trans g3
 have m2:=(hw2 _ _ g32).1
 unfold appE
 by_cases h1:twoE d x=0
 .rw[if_pos h1]
  obtain⟨e0,ex⟩:=WF h1
  have z0:(((twoE d x:Nat):Int)==0)=true:=by rw[h1];rfl
  have hs:=hS e0
  have hfew:=hs.few
  have n2':=X2.next
  have n21:=x2.next
  obtain⟨_,bT,e3,x3,hw3,s,tv,rfl,t4,hV,hT⟩:=FJ (M+7) hs (by omega) lv h4 a9 hw2 (kl X2 hL) (fun b hb=>by have:=hSn b hb;omega)
  obtain⟨v1,v2,v3,rfl,o1,o2,o3⟩:=P1 hT
  have o:=hV.one
  have x4:Ext bT ((bT.push (.cells [.int .i64 0,.int .i64 0,.string ⟨#[]⟩,.slice none 0 0] TD) none).put bT.next (.cells [.int .i64 (kindD t),v1,v2,v3] TD) none):=((Ext.refl _).push _ _).put _ _ _ (Nat.le_refl _)
  have hw4:=(hw3.push (.cells [.int .i64 0,.int .i64 0,.string ⟨#[]⟩,.slice none 0 0] TD) none).put bT.next (.cells [.int .i64 (kindD t),v1,v2,v3] TD) none (Nat.lt_succ_self _)
  have X4:=(X2.trans x3).trans x4
  have y4:=(x2.trans x3).trans x4
  have c24:=(y4.cells (hw1.cells c2)).trans c2
  have g34:=(y4.get _ (hw1 _ _ g3).1).trans g3
  have m4:=(hw4 _ _ g34).1
  by_cases hk:kindD t=0
  .rw[if_pos hk,if_pos rfl]
   have k0:(kindD t==0)=true:=by rw[hk];rfl
   obtain⟨p,hs',hE⟩:=hV.slice
   generalize hτ:aC.put _ bT.next _ _=bX at x4 hw4 X4 y4 c24 g34 m4 ⊢
   have cc:bX.cells bT.next=some [.int .i64 (kindD t),v1,v2,v3]:=by rw[<-hτ,Ak,if_pos rfl];rfl
   have hE4:=hE.keep (R':=fun b=>(S b\/a9.next<=b)/\b<bX.next) (fun b cs hb hc=>⟨(x4.cells (hw3.cells hc)).trans hc,hb.symm,Nat.lt_of_lt_of_le (hw3.cells hc) x4.next⟩)
   have hX4:=(kl X4 hLx).keep (R':=fun b=>(S b\/a9.next<=b)/\b<bX.next) (fun b cs hb hc=>⟨hc,.inl hb,hw4.cells hc⟩)
   have hlen:es.length<1000000:=by have:=En es;omega
   obtain⟨_,bV,e5,x5,hw5,hL5⟩:=HG (M+6) (c:=es.length) hlen xv hx4 hxo _ hw4 (fun b hb=>hb.2) hE4 hX4
   rw[<-hs'] at e5
   obtain⟨l5,rfl,hl5,ho5⟩:=hL5.agg
   have hL5':aL (fun b=>b<bV.next) bV (.agg l5.toArray) (bS x es):=hL5.keep fun b cs hb hc=>⟨hc,hw5.cells hc⟩
   obtain⟨_,cB,e6,x6,hw6,rfl⟩:=Mi (M+6) (n+6) (by omega) _ (bS x es) l5 hl5 bV hw5 hL5' ho5
   have hcnt:=Ec x es
   have hz:(bS x es).count<=2000:=by omega
   have b0:bigE (bS x es)=0:=by unfold bigE;rw[if_pos hz]
   rw[if_pos hz,b0] at e6
   have t5:l5.take 4=l5:=List.take_of_length_le (by omega)
   have g36:=((x5.trans x6).get _ m4).trans g34
   have m6:=(hw6 _ _ g36).1
   simp -implicitDefEqProofs only[go_sem,Ar,MN,MM,MP,MO,Vt,R0,Vu,R1,AjW,Yy,c1,c2,c12,c24,h4,ht,hx4,htx,e2,z0,e3,hτ,cc,e5,e6,o1,o2,o3,o.1,o.2.1,o.2.2,k0,g36,hl5,ho5,t5,Ag,Bg,AB,Av,Au,AH,AU,Nat.le_refl]
   exact⟨_,_,rfl,((X4.trans x5).trans x6).put _ _ _ (by omega),hw6.put _ _ _ m6,_,rfl,hL5.keep fun b cs hb hc=>by
    have n4':=y4.next
    have hne:b≠Z.next+2:=by
     rcases hb with⟨hb|hb,_⟩|hb
     .have:=hSn b hb;omega
     .omega
     .omega
    exact⟨by rw[Ak,if_neg hne];exact(x6.cells (hw5.cells hc)).trans hc,by
     rcases hb with⟨hb|hb,_⟩|hb
     .exact .inl hb
     .exact .inr (by omega)
     .exact .inr (by omega)⟩⟩
  .have k0:(kindD t==0)=false:=beq_eq_false_iff_ne.2 hk
   rw[if_neg hk,if_neg (by decide)]
   simp -implicitDefEqProofs only[go_sem,Ar,MN,MM,MP,MO,Vt,R0,Vu,R1,AjV,Yx,c1,c2,c12,c24,h4,ht,hx4,htx,e2,z0,e3,o1,o2,o3,o.1,o.2.1,o.2.2,k0,g34,Ag,Bg,AB,Av,Au,AH,AU,Nat.le_refl]
   exact⟨_,_,rfl,X4.put _ _ _ (by omega),hw4.put _ _ _ m4,_,rfl,EI _ _⟩
 .have z0:(((twoE d x:Nat):Int)==0)=false:=by simp;omega
  simp only[if_neg h1]
  simp -implicitDefEqProofs only[go_sem,Ar,MN,MM,MP,MO,AjU,Yw,c1,c2,h4,ht,hx4,htx,e2,z0,g32,Ag,Bg,AB,Av,Au,AH,AU,Nat.le_refl]
  exact⟨_,_,rfl,X2.put _ _ _ (by omega),hw2.put _ _ _ m2,_,rfl,EI _ _⟩
end
theorem AvB:bE nls 30=[37]:=by kernel_rfl
structure HeadTu (q:Option Addr) (c:Nat) (es:List D) (v2:Value) (R:Nat->Prop) (bU:aC) (bx br:Nat) (i:Nat) (f:Nat->Value) (Z:aC):Prop where
 f2:f 2=v2
 f5:f 5=.slice q es.length c
 f7:f 7=.pointer (some ⟨bx,0,none⟩)
 f8:f 8=.int .i64 (.ofNat i)
 gx:BoxD R bU.next bx br (bS nilD (es.take i).reverse) Z
 lo:bU.next<=bx/\br<bU.next
 wf:Wf Z
 ext:Ext bU Z
theorem Aqh(n:Nat){q:Option Addr}{c:Nat}{es:List D}{v2:Value}{R:Nat->Prop}{bU:aC}{bx br:Nat}(hlen:es.length<1000000)(hw0:Wf bU)(hR:∀b,R b->b<bU.next/\b≠br)(hE:aO R bU q 0 es):
  ∀(j fuel i:Nat) (f g:Nat->Value) (Z:aC),i+j=es.length->j<fuel->HeadTu q c es v2 R bU bx br i f Z->
   ∃f' g' V,floop [37] (Abo (env (n+1)) none 30) fuel (Sl 9 38 f g []) none Z=.done (.exit 0) (Sl 9 38 f' g' []) none V/\HeadTu q c es v2 R bU bx br es.length f' V:=by
 intro j
 induction j with
 | zero=>
  intro fuel i f g Z hij hf h
  obtain⟨fuel,rfl⟩:∃q,fuel=q+1:=⟨fuel-1,by omega⟩
  obtain rfl:i=es.length:=by omega
  have d1:decide (Int.ofNat es.length<Int.ofNat es.length)=false:=by simp
  rw[Ao,Bl]
  unfold Abo
  simp -implicitDefEqProofs only[go_sem,Vz,R9,h.f5,h.f8,d1]
  exact⟨_,_,_,rfl,h⟩
 | succ j ih=>
  intro fuel i f g Z hij hf h
  obtain⟨fuel,rfl⟩:∃q,fuel=q+1:=⟨fuel-1,by omega⟩
  have hi:i<es.length:=by omega
  have d1:decide (Int.ofNat i<Int.ofNat es.length)=true:=by simp;omega
  have hd:es[i]? = some es[i]:=List.getElem?_eq_getElem hi
  obtain⟨b,off,cs,rfl,hRb,hcs0,hle,hL0⟩:=aO.get hE hd
  rw[Nat.zero_add] at hle hL0
  obtain⟨ver,lv,gx,lx4,lxo,hX⟩:=h.gx
  have hcs:=(h.ext.cells (hw0.cells hcs0)).trans hcs0
  have hL:aL (fun b=>(R b\/bU.next<=b)/\b≠bx/\b≠br) Z _ es[i]:=hL0.keep fun b cs hb hc=>⟨(h.ext.cells (hw0.cells hc)).trans hc,.inl hb,by have:=hR b hb;have:=h.lo;omega,(hR b hb).2⟩
  obtain⟨u,a_,e1,x1,hw1,hP⟩:=Ms n _ es[i] (bS nilD (es.take i).reverse) _ _ Z h.wf hL hX
  rw[show D.mk 5 0 ⟨#[]⟩ [es[i],bS nilD (es.take i).reverse]=bS nilD (es.take (i+1)).reverse by rw[List.take_add_one,hd];show _=bS nilD (es.take i++[es[i]]).reverse;rw[List.reverse_append,List.reverse_singleton,List.singleton_append,bS,pairD]] at hP
  obtain⟨l4,rfl,hl4,ho4⟩:=hP.agg
  have a1:=Ga i (by omega)
  have hvw:=Dw h.wf (lam:=Z.clock) (Nat.le_refl _)
  have cx:=Aq gx
  have bl:=(h.wf _ _ gx).1
  have gx1:=(x1.get _ bl).trans gx
  have tl4:l4.take 4=l4:=List.take_of_length_le (by omega)
  have tlx:lv.take 4=lv:=List.take_of_length_le (by omega)
  have dlx:lv.drop 4=[]:=List.drop_of_length_le (by omega)
  have n1:=x1.next
  have nn:=h.ext.next
  rw[Ao,Bl]
  unfold Abo
  simp -implicitDefEqProofs only[go_sem,Ar,Vz,R9,Aeg,R4,Aeh,R5,h.f5,h.f7,h.f8,d1,hi,hcs,hle,hvw,cx,lx4,tlx,dlx,e1,gx1,hl4,ho4,tl4,a1,List.mem_cons]
  generalize hff:upd _ 8 _=f1
  exact ih fuel (i+1) f1 _ _ (by omega) (by omega) {
   f2:=by rw[<-hff];simp -implicitDefEqProofs only[go_sem,reduceCtorEq,h.f2]
   f5:=by rw[<-hff];simp -implicitDefEqProofs only[go_sem,reduceCtorEq,h.f5]
   f7:=by rw[<-hff];simp -implicitDefEqProofs only[go_sem,reduceCtorEq,h.f7]
   f8:=by rw[<-hff];simp -implicitDefEqProofs only[go_sem,reduceCtorEq]
   gx:=⟨_,l4,by rw[Am,if_pos rfl],hl4,ho4,hP.keep fun b cs hb hc=>by
    have hb':(R b\/bU.next<=b)/\b≠bx/\b≠br:=by
     rcases hb with hb|hb
     .exact hb
     .have h1:=hb.1
      have h2:=h.lo
      exact⟨.inr (by omega),by omega,by omega⟩
    exact⟨by rw[Ak,if_neg hb'.2.1];exact hc,hb'⟩⟩
   lo:=h.lo
   wf:=hw1.put _ _ _ (by omega)
   ext:=(h.ext.trans x1).put _ _ _ h.lo.1 }
section
variable (M n n2:Nat) (hM:M=n+2001) (hM2:M=n2+200) (d t:D) (es:List D) (hd:d.count<=170) (hS:aR d=0->LSplit d t es) (lv:List Value) (h4:lv.length=4)
include hM hM2 hd hS h4
theorem Aas(Z:aC)(hw:Wf Z)(hL:aL (fun b=>b<Z.next) Z (.agg lv.toArray) d):
  Gives ((env (M+9)).call 30 [.agg lv.toArray] none Z) Z fun w V=>TurnOk d t es (fun b=>b<V.next) V w:=by
 have dd:=Bz d
 have ht:lv.take 4=lv:=List.take_of_length_le (by omega)
 rw[Al _ 30 _ _ rfl,Aon _ _ _ _ (by simp),Aj]
 unfold Amz TurnOk TurnR
 have x1:Ext Z ((Z.push (.cells lv TD) none).push (.cells [.int .i64 0,.int .i64 0,.string ⟨#[]⟩,.slice none 0 0] TD) none):=((Ext.refl _).push _ _).push _ _
 have hw1:=(hw.push (.cells lv TD) none).push (.cells [.int .i64 0,.int .i64 0,.string ⟨#[]⟩,.slice none 0 0] TD) none
 have c1:((Z.push (.cells lv TD) none).push (.cells [.int .i64 0,.int .i64 0,.string ⟨#[]⟩,.slice none 0 0] TD) none).cells Z.next=some lv:=by rw[Ah,if_neg (by rw[Ac];omega),Ah,if_pos rfl];rfl
 have g2:((Z.push (.cells lv TD) none).push (.cells [.int .i64 0,.int .i64 0,.string ⟨#[]⟩,.slice none 0 0] TD) none).heap.get (Z.next+1)=some ⟨.cells [.int .i64 0,.int .i64 0,.string ⟨#[]⟩,.slice none 0 0] TD,false,none,Z.clock+1⟩:=by rw[Ai,if_pos (by rw[Ac])];rfl
 have n1':((Z.push (.cells lv TD) none).push (.cells [.int .i64 0,.int .i64 0,.string ⟨#[]⟩,.slice none 0 0] TD) none).next=Z.next+2:=rfl
 have st:∀ {τ:aC},Ext Z τ->∀ {v:Value} {d:D},aL (fun b=>b<Z.next) Z v d->aL (fun b=>b<τ.next) τ v d:=fun hX v d h=>h.keep fun b cs hb hc=>⟨(hX.cells hb).trans hc,by have:=hX.next;omega⟩
 have kl:∀ {τ:aC},Ext Z τ->∀ {v:Value} {d:D},aL (fun b=>b<Z.next) Z v d->aL (fun b=>b<Z.next) τ v d:=fun hX v d h=>h.keep fun b cs hb hc=>⟨(hX.cells hb).trans hc,hb⟩
 simp -implicitDefEqProofs only[go_sem,AjX,Yz]
 generalize aC.push _ _ _=a_ at x1 hw1 c1 g2 n1' ⊢
 obtain⟨_,a9,e2,x2,hw2,rfl⟩:=E9 _ d lv h4 a_ hw1 (st x1 hL) (M+6) (n2+32) 170 (by omega) (by omega) (by omega)
 have c2:=(x2.cells (hw1.cells c1)).trans c1
 have X2:=x1.trans x2
 have g22:=(x2.get _ (hw1 _ _ g2).1).trans g2
 have m2:=(hw2 _ _ g22).1
 have n2':=X2.next
 have n21:=x2.next
 by_cases e0:aR d=0
 .have z0:(((aR d:Nat):Int)==0)=true:=by rw[e0];rfl
  have hs:=hS e0
  have hfew:=hs.few
  obtain⟨_,bT,e3,x3,hw3,s,tv,rfl,t4,hV,hT⟩:=FJ (M+7) hs (by omega) lv h4 a9 hw2 (kl X2 hL) (fun b hb=>by omega)
  obtain⟨v1,v2,v3,rfl,o1,o2,o3⟩:=P1 hT
  have o:=hV.one
  have hl:=UV (t:=t) (es:=es) e0
  rw[hl]
  have x4:Ext bT ((bT.push (.cells [.int .i64 0,.int .i64 0,.string ⟨#[]⟩,.slice none 0 0] TD) none).put bT.next (.cells [.int .i64 (kindD t),v1,v2,v3] TD) none):=((Ext.refl _).push _ _).put _ _ _ (Nat.le_refl _)
  have hw4:=(hw3.push (.cells [.int .i64 0,.int .i64 0,.string ⟨#[]⟩,.slice none 0 0] TD) none).put bT.next (.cells [.int .i64 (kindD t),v1,v2,v3] TD) none (Nat.lt_succ_self _)
  have X4:=(X2.trans x3).trans x4
  have y4:=(x2.trans x3).trans x4
  have g24:=(y4.get _ (hw1 _ _ g2).1).trans g2
  have m4:=(hw4 _ _ g24).1
  by_cases hk:kindD t=0
  .rw[if_pos hk,if_pos rfl]
   have k0:(kindD t==0)=true:=by rw[hk];rfl
   obtain⟨p,hs',hE⟩:=hV.slice
   have cc:((bT.push (.cells [.int .i64 0,.int .i64 0,.string ⟨#[]⟩,.slice none 0 0] TD) none).put bT.next (.cells [.int .i64 (kindD t),v1,v2,v3] TD) none).cells bT.next=some [.int .i64 (kindD t),v1,v2,v3]:=by rw[Ak,if_pos rfl];rfl
   simp -implicitDefEqProofs only[go_sem,Ar,MR,MQ,MT,MS,Vx,R7,Vy,R8,c1,c2,h4,ht,e2,z0,e3,o1,o2,o3,o.1,o.2.1,o.2.2,k0,Ag,Nat.le_refl]
   have hE4:=hE.keep (R':=fun b=>(b<Z.next\/a9.next<=b)/\b<((bT.push (.cells [.int .i64 0,.int .i64 0,.string ⟨#[]⟩,.slice none 0 0] TD) none).put bT.next (.cells [.int .i64 (kindD t),v1,v2,v3] TD) none).next) (fun b cs hb hc=>⟨(x4.cells (hw3.cells hc)).trans hc,hb.symm,Nat.lt_of_lt_of_le (hw3.cells hc) x4.next⟩)
   generalize aC.put _ bT.next _ _=bX at x4 hw4 X4 y4 g24 m4 cc hE4 ⊢
   generalize hff:upd _ 5 _=f1
   generalize hgg:upd _ 22 _=g1
   have q2:f1 2=.pointer (some ⟨Z.next+1,0,none⟩):=by rw[<-hff];simp -implicitDefEqProofs only[go_sem,reduceCtorEq]
   have q5:f1 5=.slice p es.length es.length:=by rw[<-hff,<-hs'];simp -implicitDefEqProofs only[go_sem,reduceCtorEq]
   clear hff hgg
   have x5:Ext bX ((bX.push (.cells [.int .i64 0,.int .i64 0,.string ⟨#[]⟩,.slice none 0 0] TD) none).put bX.next (.cells [.int .i64 0,.int .i64 0,.string ⟨#[]⟩,.slice none 0 0] TD) none):=((Ext.refl _).push _ _).put _ _ _ (Nat.le_refl _)
   have hw5:=(hw4.push (.cells [.int .i64 0,.int .i64 0,.string ⟨#[]⟩,.slice none 0 0] TD) none).put bX.next (.cells [.int .i64 0,.int .i64 0,.string ⟨#[]⟩,.slice none 0 0] TD) none (Nat.lt_succ_self _)
   have g5:∃v,((bX.push (.cells [.int .i64 0,.int .i64 0,.string ⟨#[]⟩,.slice none 0 0] TD) none).put bX.next (.cells [.int .i64 0,.int .i64 0,.string ⟨#[]⟩,.slice none 0 0] TD) none).heap.get bX.next=some ⟨.cells [.int .i64 0,.int .i64 0,.string ⟨#[]⟩,.slice none 0 0] TD,false,none,v⟩:=⟨_,by rw[Am,if_pos rfl]⟩
   simp -implicitDefEqProofs only[go_sem,Ar,Aj3,YC,Aj4,YD,AvB]
   generalize aC.put _ _ _ _=bV at x5 hw5 g5 ⊢
   generalize hff:upd _ 8 _=f2
   generalize hgg:upd _ 24 _=g2
   generalize hbf:bF=fuel
   obtain⟨v5,g5⟩:=g5
   have hge:=En es
   have ny4:=y4.next
   obtain⟨f3,g3,cB,r1,h⟩:=Aqh (M+7) (c:=es.length) (v2:=.pointer (some ⟨Z.next+1,0,none⟩)) (bx:=bX.next) (br:=Z.next+1) (by omega) hw4 (fun b hb=>⟨hb.2,by omega⟩) hE4 es.length fuel 0 f2 g2 bV (by omega) (by rw[<-hbf];show es.length<1000000000000;omega) {
    f2:=by rw[<-hff];simp -implicitDefEqProofs only[go_sem,reduceCtorEq,q2]
    f5:=by rw[<-hff];simp -implicitDefEqProofs only[go_sem,reduceCtorEq,q5]
    f7:=by rw[<-hff];simp -implicitDefEqProofs only[go_sem,reduceCtorEq]
    f8:=by rw[<-hff];simp -implicitDefEqProofs only[go_sem,reduceCtorEq]<;>rfl
    gx:=⟨_,_,g5,rfl,rfl,Ja _ _⟩
    lo:=⟨Nat.le_refl _,m4⟩
    wf:=hw5
    ext:=x5 }
   rw[r1]
   obtain⟨ver,lw,gx,lx4,lxo,hX⟩:=h.gx
   rw[List.take_length] at hX
   have cx:=Aq gx
   have tlx:lw.take 4=lw:=List.take_of_length_le (by omega)
   have X6:=X4.trans h.ext
   have g26:=(h.ext.get _ m4).trans g24
   have m6:=(h.wf _ _ g26).1
   simp -implicitDefEqProofs only[go_sem,Ar,Aei,R6,h.f2,h.f7,cx,g26,lx4,lxo,tlx,Bg,AB,Av,Au,AH,AU]
   exact⟨_,_,rfl,X6.put _ _ _ (by omega),h.wf.put _ _ _ m6,_,rfl,hX.keep fun b cs hb hc=>⟨by rw[Ak,if_neg hb.2.2];exact hc,h.wf.cells hc⟩⟩
  .have k0:(kindD t==0)=false:=beq_eq_false_iff_ne.2 hk
   rw[if_neg hk,if_neg (by decide)]
   simp -implicitDefEqProofs only[go_sem,Ar,MR,MQ,MT,MS,Vx,R7,Vy,R8,Aj2,YB,c1,c2,h4,ht,e2,z0,e3,o1,o2,o3,o.1,o.2.1,o.2.2,k0,g24,Ag,Bg,AB,Av,Au,AH,AU,Nat.le_refl]
   exact⟨_,_,rfl,X4.put _ _ _ (by omega),hw4.put _ _ _ m4,_,rfl,EI _ _⟩
 .have z0:(((aR d:Nat):Int)==0)=false:=by simp;omega
  have hl:listE d t=aR d:=by unfold listE;rw[if_neg e0]
  rw[hl,if_neg e0]
  simp -implicitDefEqProofs only[go_sem,Ar,MR,MQ,MT,MS,Aj1,YA,c1,h4,ht,e2,z0,g22,Ag,Bg,AB,Av,Au,AH,AU,Nat.le_refl]
  exact⟨_,_,rfl,X2.put _ _ _ (by omega),hw2.put _ _ _ m2,_,rfl,EI _ _⟩
end
theorem AvA:bE nls 25=[21,22,23,24,25,26]:=by kernel_rfl
structure HeadFf (q:Option Addr) (c:Nat) (es:List D) (br:Nat) (bU:aC) (i:Nat) (f:Nat->Value) (Z:aC):Prop where
 f0:f 0=.slice q es.length c
 f2:f 2=.pointer (some ⟨br,0,none⟩)
 f4:f 4=.int .i64 (.ofNat i)
 wf:Wf Z
 ext:Ext bU Z
theorem AoS(M n:Nat)(hM:M=n+174){q:Option Addr}{c:Nat}{es:List D}{br:Nat}{bU:aC}{ver:Nat}(hlen:es.length<1000000)(hsm:∀e∈es,e.count<=170)(hw0:Wf bU)(hE:aO (fun b=>b<bU.next) bU q 0 es)(hr:bU.heap.get br=some ⟨.cells [.int .i64 0,.int .i64 0,.string ⟨#[]⟩,.slice none 0 0] TD,false,none,ver⟩):
  ∀(j fuel i:Nat) (f g:Nat->Value) (Z:aC),i+j=es.length->j<fuel->HeadFf q c es br bU i f Z->
   (bR (es.drop i)=0/\∃f' g' V,floop [21,22,23,24,25,26] (OU (env (M+2)) none 25) fuel (Sl 6 27 f g []) none Z=.done (.exit 0) (Sl 6 27 f' g' []) none V/\HeadFf q c es br bU es.length f' V)\/
   (bR (es.drop i)≠0/\∃f' g' V τ o,floop [21,22,23,24,25,26] (OU (env (M+2)) none 25) fuel (Sl 6 27 f g []) none Z=.done .ret (Sl 6 27 f' g' []) none V/\V=τ.put br o none/\Ext bU τ/\Wf τ/\f' 2=.pointer (some ⟨br,0,none⟩)/\f' 3=.int .i64 (bR (es.drop i):Nat)/\V.cells br=some [.int .i64 0,.int .i64 0,.string ⟨#[]⟩,.slice none 0 0]):=by
 intro j
 induction j with
 | zero=>
  intro fuel i f g Z hij hf h
  obtain⟨fuel,rfl⟩:∃q,fuel=q+1:=⟨fuel-1,by omega⟩
  obtain rfl:i=es.length:=by omega
  have d1:decide (Int.ofNat es.length<Int.ofNat es.length)=false:=by simp
  refine .inl ⟨by rw[List.drop_length];rfl,?_⟩
  rw[Ao,Bl]
  unfold OU
  simp -implicitDefEqProofs only[go_sem,ML,MK,h.f0,h.f4,d1]
  exact⟨_,_,_,rfl,h⟩
 | succ j ih=>
  intro fuel i f g Z hij hf h
  obtain⟨fuel,rfl⟩:∃q,fuel=q+1:=⟨fuel-1,by omega⟩
  have hi:i<es.length:=by omega
  have d1:decide (Int.ofNat i<Int.ofNat es.length)=true:=by simp;omega
  have hd:es[i]? = some es[i]:=List.getElem?_eq_getElem hi
  have hmem:=List.getElem_mem hi
  have hone:=hsm _ hmem
  obtain⟨b,off,cs,rfl,hRb,hcs0,hle,hL0⟩:=aO.get hE hd
  rw[Nat.zero_add] at hle hL0
  have hcs:=(h.ext.cells (hw0.cells hcs0)).trans hcs0
  obtain⟨l4,e4,hl4,ho4⟩:=hL0.agg
  have e4':(cs.drop (off+i*4)).take 4=l4:=by
   have:=Value.agg.inj e4
   simpa using congrArg Array.toList this
  rw[e4'] at hL0
  have dd:=Bz es[i]
  obtain⟨_,a_,e1,x1,hw1,rfl⟩:=E9 (fun b=>b<bU.next) es[i] l4 hl4 Z h.wf (hL0.keep fun b cs hb hc=>⟨(h.ext.cells (hw0.cells hc)).trans hc,hb⟩) M n 170 (by omega) (by omega) (by omega)
  have a1:=Ga i (by omega)
  have tl4:l4.take 4=l4:=List.take_of_length_le (by omega)
  rw[List.drop_eq_getElem_cons hi,bR]
  by_cases he:aR es[i]=0
  .rw[if_pos he]
   have z0:(((aR es[i]:Nat):Int)==0)=true:=by rw[he];rfl
   rw[Ao,Bl]
   unfold OU
   simp -implicitDefEqProofs only[go_sem,ML,MK,AjL,Yn,Vl,RR,Vm,RS,h.f0,h.f4,d1,hi,hcs,hle,e4',hl4,tl4,e1,z0,a1,Ag,List.mem_cons]
   generalize hff:upd _ 4 _=f1
   exact ih fuel (i+1) f1 _ a_ (by omega) (by omega) {
    f0:=by rw[<-hff];simp -implicitDefEqProofs only[go_sem,reduceCtorEq,h.f0]
    f2:=by rw[<-hff];simp -implicitDefEqProofs only[go_sem,reduceCtorEq,h.f2]
    f4:=by rw[<-hff];simp -implicitDefEqProofs only[go_sem,reduceCtorEq]
    wf:=hw1
    ext:=h.ext.trans x1 }
  .rw[if_neg he]
   refine .inr ⟨he,?_⟩
   have z0:(((aR es[i]:Nat):Int)==0)=false:=by simp;omega
   have X1:=h.ext.trans x1
   have g1:=(X1.get _ (hw0 _ _ hr).1).trans hr
   rw[Ao,Bl]
   unfold OU
   simp -implicitDefEqProofs only[go_sem,Ar,ML,MK,Vl,RR,Vm,RS,AjM,Yo,h.f0,h.f2,h.f4,d1,hi,hcs,hle,e4',hl4,tl4,e1,z0,g1,a1,Ag,List.mem_cons]
   exact⟨_,_,_,a_,_,rfl,rfl,X1,hw1,by simp -implicitDefEqProofs only[go_sem,reduceCtorEq,h.f2],by simp -implicitDefEqProofs only[go_sem,reduceCtorEq],by rw[Ak,if_pos rfl];rfl⟩
section
variable (M n n2:Nat) (hM:M=n+2001) (hM2:M=n2+200) (es:List D) (hlen:es.length<=12) (hfew:D.counts es<=1900) (hsm:∀e∈es,e.count<=170) (q:Option Addr) (c:Nat)
include hM hM2 hlen hfew hsm
theorem Aar(Z:aC)(hw:Wf Z)(hE:aO (fun b=>b<Z.next) Z q 0 es):
  Gives ((env (M+9)).call 25 [.slice q es.length c] none Z) Z fun w V=>FromOk es (fun b=>b<V.next) V w:=by
 rw[Al _ 25 _ _ rfl,Aoi _ _ _ _ (by simp),Aj]
 unfold Amu FromOk fromR
 have x1:Ext Z (Z.push (.cells [.int .i64 0,.int .i64 0,.string ⟨#[]⟩,.slice none 0 0] TD) none):=(Ext.refl _).push _ _
 have hw1:=hw.push (.cells [.int .i64 0,.int .i64 0,.string ⟨#[]⟩,.slice none 0 0] TD) none
 have g1:∃v,(Z.push (.cells [.int .i64 0,.int .i64 0,.string ⟨#[]⟩,.slice none 0 0] TD) none).heap.get Z.next=some ⟨.cells [.int .i64 0,.int .i64 0,.string ⟨#[]⟩,.slice none 0 0] TD,false,none,v⟩:=⟨_,by rw[Ai,if_pos rfl]⟩
 have n1':(Z.push (.cells [.int .i64 0,.int .i64 0,.string ⟨#[]⟩,.slice none 0 0] TD) none).next=Z.next+1:=rfl
 simp -implicitDefEqProofs only[go_sem,AjJ,Yl,AjK,Ym,AvA]
 generalize aC.push _ _ _=a_ at x1 hw1 g1 n1' ⊢
 obtain⟨ver,g1⟩:=g1
 generalize hff:upd _ 4 _=f1
 generalize hbf:bF=fuel
 have hE1:=hE.keep (R':=fun b=>b<a_.next) (fun b cs hb hc=>⟨(x1.cells (hw.cells hc)).trans hc,by omega⟩)
 have hloop:=AoS (M+6) (n2+32) (by omega) (c:=c) (by omega) hsm hw1 hE1 g1 es.length fuel 0 f1 (fun _=>undef) a_ (by omega) (by rw[<-hbf];show es.length<1000000000000;omega) {
  f0:=by rw[<-hff];simp -implicitDefEqProofs only[go_sem,reduceCtorEq]
  f2:=by rw[<-hff];simp -implicitDefEqProofs only[go_sem,reduceCtorEq]
  f4:=by rw[<-hff];simp -implicitDefEqProofs only[go_sem,reduceCtorEq]<;>rfl
  wf:=hw1
  ext:=Ext.refl _ }
 rw[List.drop_zero] at hloop
 rcases hloop with⟨hz,f2,g2,a9,e2,h2⟩|⟨hz,f2,g2,a9,τ,o,e2,rfl,hx2,hw2,q2,q3,cb⟩
 .rw[e2,hz,if_pos rfl]
  have X2:=x1.trans h2.ext
  have g2':=(h2.ext.get _ (hw1 _ _ g1).1).trans g1
  have m2:=(h2.wf _ _ g2').1
  have hE2:=hE.keep (R':=fun b=>b<Z.next) (fun b cs hb hc=>⟨(X2.cells (hw.cells hc)).trans hc,hb⟩)
  have nn:=X2.next
  obtain⟨_,bT,e3,x3,hw3,hL3⟩:=HG (M+6) (c:=c) (R:=fun b=>b<Z.next) (t:=nilD) (by omega) [.int .i64 0,.int .i64 0,.string ⟨#[]⟩,.slice none 0 0] rfl rfl a9 h2.wf (fun b hb=>by omega) hE2 (Ja _ _)
  obtain⟨l3,rfl,hl3,ho3⟩:=hL3.agg
  have hL3':aL (fun b=>b<bT.next) bT (.agg l3.toArray) (bS nilD es):=hL3.keep fun b cs hb hc=>⟨hc,hw3.cells hc⟩
  obtain⟨_,bX,e4,x4,hw4,rfl⟩:=Mi (M+6) (n+6) (by omega) _ (bS nilD es) l3 hl3 bT hw3 hL3' ho3
  have hcnt:=Ec nilD es
  have hnc:=Gd
  have hz2:(bS nilD es).count<=2000:=by omega
  have b0:bigE (bS nilD es)=0:=by unfold bigE;rw[if_pos hz2]
  rw[if_pos hz2,b0] at e4
  have t3:l3.take 4=l3:=List.take_of_length_le (by omega)
  have x24:=x3.trans x4
  have g4:=(x24.get _ m2).trans g2'
  have m4:=(hw4 _ _ g4).1
  simp -implicitDefEqProofs only[go_sem,Ar,AjN,Yp,h2.f0,h2.f2,e3,e4,g4,hl3,ho3,t3,Bg,AB,Av,Au,AH,AU]
  exact⟨_,_,rfl,(X2.trans x24).put _ _ _ (by omega),hw4.put _ _ _ m4,_,rfl,hL3.keep fun b cs hb hc=>⟨by rw[Ak,if_neg (by omega)];exact(x4.cells (hw3.cells hc)).trans hc,Nat.lt_of_lt_of_le (hw3.cells hc) x4.next⟩⟩
 .simp only[if_neg hz]
  rw[e2]
  have m2:=Nat.lt_of_lt_of_le (hw1 _ _ g1).1 hx2.next
  simp -implicitDefEqProofs only[go_sem,Ar,q2,q3,cb,Bg,AB,Av,Au,AH,AU]
  exact⟨_,_,rfl,(x1.trans hx2).put _ _ _ (by omega),hw2.put _ _ _ m2,_,rfl,EI _ _⟩
end
structure HeadKl (lo:Nat) (R:Nat->Prop) (q:Option Addr) (c:Nat) (ds:List D) (bU:aC) (i:Nat) (f:Nat->Value) (Z:aC):Prop where
 f0:f 0=.slice q ds.length c
 f4:f 4=.int .i64 (.ofNat i)
 vec:Vec Z lo (f 3) (ds.take i)
 lay:aO R Z q 0 ds
 wf:Wf Z
 ext:Ext bU Z
theorem Xl(m:Nat){lo:Nat}{R:Nat->Prop}{q:Option Addr}{c:Nat}{ds:List D}{bU:aC}(hC:∀d∈ds,KeepAt m d)(hlo:bU.next=lo+1)(hR:∀b,R b->b<=lo)(hfew:ds.length<900):
  ∀(j fuel i:Nat) (f g:Nat->Value) (Z:aC),i+j=ds.length->j<fuel->HeadKl lo R q c ds bU i f Z->
   ∃f' g' V,floop [19] (Abm (env m) none 21) fuel (Sl 5 20 f g []) none Z=.done (.exit 0) (Sl 5 20 f' g' []) none V/\HeadKl lo R q c ds bU ds.length f' V:=by
 intro j
 induction j with
 | zero=>
  intro fuel i f g Z hij hf h
  obtain⟨fuel,rfl⟩:∃q,fuel=q+1:=⟨fuel-1,by omega⟩
  obtain rfl:i=ds.length:=by omega
  have d1:decide (Int.ofNat ds.length<Int.ofNat ds.length)=false:=by simp
  rw[Ao]
  unfold Abm
  simp -implicitDefEqProofs only[go_sem,Ve,RK,h.f0,h.f4,d1]
  exact⟨_,_,_,rfl,h⟩
 | succ j ih=>
  intro fuel i f g Z hij hf h
  obtain⟨fuel,rfl⟩:∃q,fuel=q+1:=⟨fuel-1,by omega⟩
  have hi:i<ds.length:=by omega
  have d1:decide (Int.ofNat i<Int.ofNat ds.length)=true:=by simp;omega
  have hd:ds[i]? = some ds[i]:=List.getElem?_eq_getElem hi
  have hmem:=List.getElem_mem hi
  have hw:=h.wf
  have hx:=h.ext
  have n0:=hx.next
  obtain⟨b,off,cs,rfl,hRb,hcs,hle,hL⟩:=aO.get h.lay hd
  rw[Nat.zero_add] at hle hL
  have hV:=h.vec
  obtain⟨_,a_,e1,x1,hw1,hL1⟩:=hC _ hmem ((cs.drop (off+i*4)).take 4) R Z hw hL (fun b hb=>by have:=hR b hb;omega)
  obtain⟨l4,rfl,hl4,ho4⟩:=hL1.agg
  have n1:=x1.next
  have hsp:=hV.spot hw
  have hV1:Vec a_ lo (f 3) (ds.take i):=hV.keep hw fun c h1 h2=>x1.get c h2
  obtain⟨s',τ,ha,ho,hVτ,hwτ,hnτ,hcτ,hg1,hg2⟩:=G3 a_ lo (f 3) (ds.take i) ds[i] l4 hw1 (by omega) hl4 ho4 (by rw[List.length_take];omega) hV1 (hL1.keep fun c cs hc h=>⟨h,by omega,fun b n m hs=>by have:=hsp b n m hs;omega⟩)
  rw[show ds.take i++[ds[i]]=ds.take (i+1) by rw[List.take_add_one,hd];rfl] at hVτ
  have w3:=Ga i (by omega)
  have o:=hV.ones
  have o':=hVτ.ones
  rw[Ao]
  unfold Abm
  simp -implicitDefEqProofs only[go_sem,Ve,RK,Ajy,Ye,Ajz,Yf,h.f0,h.f4,d1,hi,hcs,hle,e1,hl4,ho4,ha,o.1,o.2.1,o.2.2,o'.1,o'.2.1,o'.2.2,w3]
  generalize hff:upd _ 4 _=f1
  have kR:∀b cs,b<=lo->Z.cells b=some cs->τ.cells b=some cs:=fun b cs hb hc=>by
   rw[AO,hg1 b hb,<-AO]
   exact(x1.cells (hw.cells hc)).trans hc
  exact ih fuel (i+1) f1 _ _ (by omega) (by omega) {
   f0:=by rw[<-hff];simp -implicitDefEqProofs only[go_sem,reduceCtorEq,h.f0]
   f4:=by rw[<-hff];simp -implicitDefEqProofs only[go_sem,reduceCtorEq]
   vec:=by rw[show f1 3=s' by rw[<-hff];simp -implicitDefEqProofs only[go_sem,reduceCtorEq]];exact hVτ
   lay:=h.lay.keep fun b cs hb hc=>⟨kR b cs (hR b hb) hc,hb⟩
   wf:=hwτ
   ext:=⟨by omega,by have:=hx.clock;have:=x1.clock;omega,fun b hb=>by
    rw[hg2 b (by omega) (fun b' n m hs=>by have:=hsp b' n m hs;omega),x1.get b (by omega)]
    exact hx.get b hb⟩ }
theorem AfD(n N lo:Nat){R:Nat->Prop}(q:Option Addr)(c:Nat)(ds:List D)(hN:∀d∈ds,d.deep<=N/\d.count<900)(hfew:ds.length<900)(Z:aC)(hw:Wf Z)(hlo:Z.next=lo+1)(hE:aO R Z q 0 ds)(hR:∀b,R b->b<Z.next):
  Gives ((env (n+N+1)).call 21 [.slice q ds.length c] none Z) Z fun w V=>Vec V lo w ds:=by
 rw[Al _ 21 _ _ rfl,Aoe _ _ _ _ (by simp),Aj]
 unfold Amq
 simp -implicitDefEqProofs only[go_sem,Ajv,Yb,Ajw,Yc,Ajx,Yd,Avx]
 generalize hff:upd _ 4 _=f1
 generalize hbf:bF=fuel
 obtain⟨f2,g2,a9,e2,h2⟩:=Xl (n+N) (lo:=lo) (q:=q) (c:=c) (ds:=ds) (bU:=Z) (R:=R) (fun d hd=>Mh n N d (hN d hd).1 (hN d hd).2) hlo (fun b hb=>by have:=hR b hb;omega) hfew ds.length fuel 0 f1 _ Z (by omega) (by rw[<-hbf];show ds.length<1000000000000;omega) {
  f0:=by rw[<-hff];simp -implicitDefEqProofs only[go_sem,reduceCtorEq]
  f4:=by rw[<-hff];simp -implicitDefEqProofs only[go_sem,reduceCtorEq]<;>rfl
  vec:=.inl ⟨rfl,by rw[<-hff];simp -implicitDefEqProofs only[go_sem,reduceCtorEq]⟩
  lay:=hE
  wf:=hw
  ext:=Ext.refl _ }
 rw[e2]
 have hV:=h2.vec
 rw[List.take_length] at hV
 have o:=hV.ones
 simp -implicitDefEqProofs only[go_sem,AjA,Yg,o.1,o.2.1,o.2.2]
 exact⟨_,_,rfl,h2.ext,h2.wf,hV⟩
theorem Am6(d:D):∃t es,aR d=0->LSplit d t es:=by
 by_cases h:aR d=0
 .obtain⟨es,t,h1,h2,h3,h4⟩:=WD _ d (Nat.le_refl _) h
  exact⟨t,es,fun _=>⟨h1,h2,h3,h4⟩⟩
 .exact⟨d,[],fun h'=>absurd h' h⟩
theorem LSplit.listed{d t:D}{es:List D}(h:LSplit d t es)(hd:d.count<=170):D.counts es<=170:=by have:=h.few;omega
theorem AcD{d t:D}{es:List D}(hS:aR d=0->LSplit d t es)(hd:d.count<=170):D.counts (if listE d t=0 then es else [])<=170:=by
 by_cases h:listE d t=0
 .rw[if_pos h];exact(hS (Ml h).1).listed hd
 .rw[if_neg h];simp[D.counts]
theorem WS{d x t:D}{es:List D}(hS:aR d=0->LSplit d t es)(hd:d.count<=170)(hx:x.count<=170):(appR d x t es).count<=400:=by
 unfold appR appE
 by_cases h:twoE d x=0
 .simp only[if_pos h]
  by_cases hk:kindD t=0
  .rw[if_pos hk,if_pos rfl,Ec]
   have:=(hS (WF h).1).few
   omega
  .rw[if_neg hk,if_neg (by decide)];decide
 .simp only[if_neg h];decide
theorem Ang{d t:D}{es:List D}(hS:aR d=0->LSplit d t es)(hd:d.count<=170):(TurnR d t es).count<=400:=by
 unfold TurnR
 by_cases h:listE d t=0
 .rw[if_pos h,Ec,EM,List.length_reverse]
  have:=(hS (Ml h).1).few
  have:=Gd
  omega
 .rw[if_neg h];decide
theorem Afv{es:List D}(h:es.length<=12)(hc:D.counts es<=1900):(fromR es).count<=1950:=by
 unfold fromR
 by_cases h0:bR es=0
 .rw[if_pos h0,Ec]
  have:=Gd
  omega
 .rw[if_neg h0];decide
theorem Afp(q:Nat)(l:List D)(hl:D.counts l<=1900){p p':Option Addr}{c c':Nat}(Z:aC)(hw:Wf Z)(h1:LaidE Z p 0 l)(h2:LaidE Z p' 0 l):
  Gives ((env (q+6000)).call 26 [.slice p l.length c,.slice p' l.length c'] none Z) Z fun w _=>w=.bool true:=by
 have hd:=Ew l
 obtain⟨v,V,e,x,w,rfl⟩:=I3 (q+5999) 1950 (fun d d' v v' Z h1 h2 h3 h4 h5=>by
  have:=ER (q+2099) 1950 d d' v v' Z h1 h2 h3 h4 h5
  rwa [show q+2099+2*1950=q+5999 by omega] at this) p p' c c' l l Z (by omega) (by omega) hw h1 h2
 exact⟨_,V,e,x,w,by rw[IK]⟩
def LsL(S:Nat->Prop)(Z:aC)(us:List Value)(ls:List (List D)):Prop:=∀(i:Nat) (l:List D),ls[i]? = some l->∃p c,us[i]? = some (.slice p l.length c)/\aO S Z p 0 l
theorem LsL.ext{S:Nat->Prop}{Z V:aC}{us:List Value}{ls:List (List D)}(h:LsL S Z us ls)(hw:Wf Z)(hX:Ext Z V):LsL S V us ls:=fun i l hl=>by
 obtain⟨p,c,h1,h2⟩:=h i l hl
 exact⟨p,c,h1,h2.keep fun b cs hb hc=>⟨(hX.cells (hw.cells hc)).trans hc,hb⟩⟩
theorem Xr(q:Nat)(keep:List Nat)(ds xs:List D)(ls:List (List D))(p1 p2:Option Addr)(b3 c1 c2 c3:Nat)(us:List Value)(hx:xs.length=ds.length)(hy:ls.length=ds.length)(hu:us.length=ds.length)(hds:ds.length<1000)(hD:∀d∈ds,d.count<=170)(hX:∀d∈xs,d.count<=170)(hY:∀l∈ls,l.length<=12/\D.counts l<=1900/\∀e∈l,e.count<=170):
  ∀(j fuel i:Nat) (f g:Nat->Value) (Z:aC),ds.length-i=j->j<fuel->i<=ds.length->Wf Z->aO (fun b=>b<Z.next) Z p1 0 ds->aO (fun b=>b<Z.next) Z p2 0 xs->Z.cells b3=some us->LsL (fun b=>b<Z.next) Z us ls->
   f 13=.slice p1 ds.length c1->f 14=.slice p2 xs.length c2->f 15=.slice (some ⟨b3,0,none⟩) us.length c3->f 16=.int .i64 (.ofNat i)->
   ∃f' g' V,floop keep (AcW (top (q+6000)) none 4) fuel (Sl 31 220 f g []) none Z=.done (.exit 4) (Sl 31 220 f' g' []) none V:=by
 intro j
 induction j with
 | zero=>
  intro fuel i f g Z hj hf hi hw hE hEx h3 hP f13 f14 f15 f16
  obtain⟨fuel,rfl⟩:∃q,fuel=q+1:=⟨fuel-1,by omega⟩
  obtain rfl:i=ds.length:=by omega
  have d0:decide (Int.ofNat ds.length<Int.ofNat ds.length)=false:=by simp
  rw[Ao]
  unfold AcW
  simp -implicitDefEqProofs only[go_sem,VG,Sf,f13,f16,d0,Bool.false_eq_true]
  exact⟨_,_,_,rfl⟩
 | succ j ih=>
  intro fuel i f g Z hj hf hi hw hE hEx h3 hP f13 f14 f15 f16
  obtain⟨fuel,rfl⟩:∃q,fuel=q+1:=⟨fuel-1,by omega⟩
  have l1:i<ds.length:=by omega
  have l2:i<xs.length:=by omega
  have l3:i<us.length:=by omega
  have l4:i<ls.length:=by omega
  have d0:decide (Int.ofNat i<Int.ofNat ds.length)=true:=by simp;omega
  obtain⟨b1,o1,s1,rfl,hb1,hs1,hl1,hL⟩:=aO.get hE (List.getElem?_eq_getElem l1)
  obtain⟨b2,o2,s2,rfl,hb2,hs2,hl2,hLx⟩:=aO.get hEx (List.getElem?_eq_getElem l2)
  obtain⟨pp,pc,hup,hPL⟩:=hP i _ (List.getElem?_eq_getElem l4)
  rw[Nat.zero_add] at hl1 hl2 hL hLx
  have a1:=Ga i (by omega)
  have kd:=hD _ (List.getElem_mem l1)
  have kx:=hX _ (List.getElem_mem l2)
  have kl:=hY _ (List.getElem_mem l4)
  generalize ds[i]=d at hL kd
  generalize xs[i]=x at hLx kx
  generalize ls[i]=l at hup hPL kl
  obtain⟨kl1,kl2,kl3⟩:=kl
  obtain⟨t,es,hS⟩:=Am6 d
  have n1:(List.take 4 (List.drop (o1+i*4) s1)).length=4:=by rw[List.length_take,List.length_drop];omega
  have n2:(List.take 4 (List.drop (o2+i*4) s2)).length=4:=by rw[List.length_take,List.length_drop];omega
  have st:∀ {τ τ':aC},Ext τ τ'->∀ {v:Value} {d:D},aL (fun b=>b<τ.next) τ v d->aL (fun b=>b<τ'.next) τ' v d:=fun hX v d h=>h.keep fun b cs hb hc=>⟨(hX.cells hb).trans hc,by have:=hX.next;omega⟩
  have stL:∀ {τ τ':aC},Ext τ τ'->∀ {p:Option Addr} {l:List D},aO (fun b=>b<τ.next) τ p 0 l->aO (fun b=>b<τ'.next) τ' p 0 l:=fun hX p l h=>h.keep fun b cs hb hc=>⟨(hX.cells hb).trans hc,by have:=hX.next;omega⟩
  have dd:=Bz d
  have dx:=Bz x
  have dl:=Ew l
  obtain⟨uw,a_,e1,x1,hw1,hLu⟩:=Mh (q+5830) 170 d (by omega) (by omega) _ (fun b=>b<Z.next) Z hw hL (fun b hb=>hb)
  rw[show q+5830+170=q+6000 by omega] at e1
  replace e1:=(C9 (q+6000) 10 _ Z rfl).trans e1
  obtain⟨uv,rfl,hu4,huo⟩:=hLu.agg
  have tuv:uv.take 4=uv:=List.take_of_length_le (by omega)
  have nx1:=x1.next
  obtain⟨lo,hlo⟩:∃lo,a_.next=lo+1:=⟨a_.next-1,by omega⟩
  obtain⟨wk,b_,eb,xb,hwb,hVk⟩:=AfD (q+5829) 170 lo pp pc l (fun e he=>⟨by have:=Bz e;have:=kl3 e he;omega,by have:=kl3 e he;omega⟩) (by omega) a_ hw1 hlo (hPL.keep (R':=fun b=>b<a_.next) fun b cs hb hc=>⟨(x1.cells hb).trans hc,by omega⟩) (fun b hb=>hb)
  rw[show q+5829+170+1=q+6000 by omega] at eb
  replace eb:=(C9 (q+6000) 21 _ a_ rfl).trans eb
  obtain⟨kp,rfl,hKL⟩:=hVk.slice
  have v0:=Dw hw (Nat.le_refl _)
  have v01:(view a_ Z.clock).cells b3=some us:=JP hw (Nat.le_refl _) (x1.get _ (hw.cells h3)) h3
  have x2:Ext b_ ((b_.push (.cells [.int .i64 0,.int .i64 0,.string ⟨#[]⟩,.slice none 0 0] TD) none).put b_.next (.cells uv TD) none):=((Ext.refl _).push _ _).put _ _ _ (Nat.le_refl _)
  have hw2:=(hwb.push (.cells [.int .i64 0,.int .i64 0,.string ⟨#[]⟩,.slice none 0 0] TD) none).put b_.next (.cells uv TD) none (Nat.lt_succ_self _)
  have c2':((b_.push (.cells [.int .i64 0,.int .i64 0,.string ⟨#[]⟩,.slice none 0 0] TD) none).put b_.next (.cells uv TD) none).cells b_.next=some uv:=by rw[Ak,if_pos rfl];rfl
  have X2:=(x1.trans xb).trans x2
  rw[Ao]
  unfold AcW
  simp -implicitDefEqProofs only[go_sem,Ar,VG,Sf,Akj,YP,f13,f14,f15,f16,d0,l1,l3,v0,v01,hs1,hl1,hup,h3,e1,eb,hu4,huo,Ag,Bool.false_eq_true]
  have lu2:aL (fun b=>b<((b_.push (.cells [.int .i64 0,.int .i64 0,.string ⟨#[]⟩,.slice none 0 0] TD) none).put b_.next (.cells uv TD) none).next) ((b_.push (.cells [.int .i64 0,.int .i64 0,.string ⟨#[]⟩,.slice none 0 0] TD) none).put b_.next (.cells uv TD) none) (.agg uv.toArray) d:=hLu.keep fun b cs hb hc=>⟨((xb.trans x2).cells (hw1.cells hc)).trans hc,Nat.lt_of_lt_of_le (hw1.cells hc) (xb.trans x2).next⟩
  have lk2:aO (fun b=>b<((b_.push (.cells [.int .i64 0,.int .i64 0,.string ⟨#[]⟩,.slice none 0 0] TD) none).put b_.next (.cells uv TD) none).next) ((b_.push (.cells [.int .i64 0,.int .i64 0,.string ⟨#[]⟩,.slice none 0 0] TD) none).put b_.next (.cells uv TD) none) kp 0 l:=hKL.keep fun b cs hb hc=>⟨(x2.cells (hwb.cells hc)).trans hc,Nat.lt_of_lt_of_le (hwb.cells hc) x2.next⟩
  generalize aC.put _ b_.next _ _=a9 at x2 hw2 c2' X2 lu2 lk2 ⊢
  generalize hff:upd _ 18 _=fA
  generalize hgg:upd _ 100 _=gA
  have A13:fA 13=.slice (some ⟨b1,o1,none⟩) ds.length c1:=by rw[<-hff];simp -implicitDefEqProofs only[go_sem,reduceCtorEq,f13]
  have A14:fA 14=.slice (some ⟨b2,o2,none⟩) xs.length c2:=by rw[<-hff];simp -implicitDefEqProofs only[go_sem,reduceCtorEq,f14]
  have A15:fA 15=.slice (some ⟨b3,0,none⟩) us.length c3:=by rw[<-hff];simp -implicitDefEqProofs only[go_sem,reduceCtorEq,f15]
  have A16:fA 16=.int .i64 (.ofNat i):=by rw[<-hff];simp -implicitDefEqProofs only[go_sem,reduceCtorEq,f16]
  have A17:fA 17=.pointer (some ⟨b_.next,0,none⟩):=by rw[<-hff];simp -implicitDefEqProofs only[go_sem,reduceCtorEq]
  have A18:fA 18=.slice kp l.length l.length:=by rw[<-hff];simp -implicitDefEqProofs only[go_sem,reduceCtorEq]
  clear hff hgg
  have ub1:=hw.cells hs1
  have ub2:=hw.cells hs2
  have ub3:=hw.cells h3
  obtain⟨_,bT,e3,x3,hw3,qa,ca,rfl,hEa⟩:=AaW (q+5991) (q+5969) (q+5654) (by omega) (by omega) d t es kd hS uv hu4 a9 hw2 lu2
  replace e3:=(C9 (q+6000) 22 _ a9 rfl).trans e3
  have X3:=X2.trans x3
  obtain⟨_,bX,e4,x4,hw4,qb,cb,rfl,hEb⟩:=S_ (q+5991) (q+3990) (q+5791) (by omega) (by omega) d t es kd hS _ n1 bT hw3 (st X3 hL)
  replace e4:=(C9 (q+6000) 23 _ bT rfl).trans e4
  have X4:=X3.trans x4
  have c13:=(X3.cells ub1).trans hs1
  simp -implicitDefEqProofs only[go_sem,Akk,YQ,Akl,YR,A13,A14,A15,A16,A17,A18,c2',hu4,tuv,e3,c13,l1,hl1,e4,Nat.le_refl]
  generalize hff:upd _ 22 _=fB
  generalize hgg:upd _ 113 _=gB
  have B13:fB 13=.slice (some ⟨b1,o1,none⟩) ds.length c1:=by rw[<-hff];simp -implicitDefEqProofs only[go_sem,reduceCtorEq,A13]
  have B14:fB 14=.slice (some ⟨b2,o2,none⟩) xs.length c2:=by rw[<-hff];simp -implicitDefEqProofs only[go_sem,reduceCtorEq,A14]
  have B15:fB 15=.slice (some ⟨b3,0,none⟩) us.length c3:=by rw[<-hff];simp -implicitDefEqProofs only[go_sem,reduceCtorEq,A15]
  have B16:fB 16=.int .i64 (.ofNat i):=by rw[<-hff];simp -implicitDefEqProofs only[go_sem,reduceCtorEq,A16]
  have B17:fB 17=.pointer (some ⟨b_.next,0,none⟩):=by rw[<-hff];simp -implicitDefEqProofs only[go_sem,reduceCtorEq,A17]
  have B18:fB 18=.slice kp l.length l.length:=by rw[<-hff];simp -implicitDefEqProofs only[go_sem,reduceCtorEq,A18]
  have B19:fB 19=.slice qa (if listE d t=0 then es else []).length ca:=by rw[<-hff];simp -implicitDefEqProofs only[go_sem,reduceCtorEq]
  have B20:fB 20=.int .i64 (listE d t:Nat):=by rw[<-hff];simp -implicitDefEqProofs only[go_sem,reduceCtorEq]
  have B21:fB 21=.slice qb (if listE d t=0 then es else []).length cb:=by rw[<-hff];simp -implicitDefEqProofs only[go_sem,reduceCtorEq]
  have B22:fB 22=.int .i64 (listE d t:Nat):=by rw[<-hff];simp -implicitDefEqProofs only[go_sem,reduceCtorEq]
  clear hff hgg
  have y24:=x3.trans x4
  obtain⟨_,bV,e5,x5,hw5,vu,rfl,hLv⟩:=Afu (q+5991) (q+5969) (q+5654) (by omega) (by omega) l kl1 kl2 kl3 kp l.length bX hw4 (stL y24 lk2)
  replace e5:=(C9 (q+6000) 24 _ bX rfl).trans e5
  obtain⟨lvv,rfl,hv4,hvo⟩:=hLv.agg
  have tvv:lvv.take 4=lvv:=List.take_of_length_le (by omega)
  have x6:Ext bV ((bV.push (.cells [.int .i64 0,.int .i64 0,.string ⟨#[]⟩,.slice none 0 0] TD) none).put bV.next (.cells lvv TD) none):=((Ext.refl _).push _ _).put _ _ _ (Nat.le_refl _)
  have hw6:=(hw5.push (.cells [.int .i64 0,.int .i64 0,.string ⟨#[]⟩,.slice none 0 0] TD) none).put bV.next (.cells lvv TD) none (Nat.lt_succ_self _)
  have g6:∃ver,((bV.push (.cells [.int .i64 0,.int .i64 0,.string ⟨#[]⟩,.slice none 0 0] TD) none).put bV.next (.cells lvv TD) none).heap.get bV.next=some ⟨.cells lvv TD,false,none,ver⟩:=⟨_,by rw[Am,if_pos rfl]⟩
  have X6:=(X4.trans x5).trans x6
  simp -implicitDefEqProofs only[go_sem,Ar,Akm,YS,B18,e5,hv4,hvo,Nat.le_refl]
  generalize aC.put _ bV.next _ _=cB at x6 hw6 g6 X6 ⊢
  obtain⟨ver6,g6⟩:=g6
  obtain⟨_,bZ,e7,x7,hw7,wu,rfl,hLw⟩:=Aar (q+5991) (q+3990) (q+5791) (by omega) (by omega) l kl1 kl2 kl3 pp pc cB hw6 (hPL.keep fun b cs hb hc=>⟨(X6.cells hb).trans hc,by have:=X6.next;omega⟩)
  replace e7:=(C9 (q+6000) 25 _ cB rfl).trans e7
  obtain⟨lwv,rfl,hw4',hwo⟩:=hLw.agg
  have twv:lwv.take 4=lwv:=List.take_of_length_le (by omega)
  have x8:Ext bZ ((bZ.push (.cells [.int .i64 0,.int .i64 0,.string ⟨#[]⟩,.slice none 0 0] TD) none).put bZ.next (.cells lwv TD) none):=((Ext.refl _).push _ _).put _ _ _ (Nat.le_refl _)
  have hw8:=(hw7.push (.cells [.int .i64 0,.int .i64 0,.string ⟨#[]⟩,.slice none 0 0] TD) none).put bZ.next (.cells lwv TD) none (Nat.lt_succ_self _)
  have g8:∃ver,((bZ.push (.cells [.int .i64 0,.int .i64 0,.string ⟨#[]⟩,.slice none 0 0] TD) none).put bZ.next (.cells lwv TD) none).heap.get bZ.next=some ⟨.cells lwv TD,false,none,ver⟩:=⟨_,by rw[Am,if_pos rfl]⟩
  have X8:=(X6.trans x7).trans x8
  have c36:=(X6.cells ub3).trans h3
  simp -implicitDefEqProofs only[go_sem,Ar,Akn,YT,B15,B16,c36,l3,hup,e7,hw4',hwo,Nat.le_refl]
  generalize aC.put _ bZ.next _ _=cT at x8 hw8 g8 X8 ⊢
  obtain⟨ver8,g8⟩:=g8
  have y38:=((((x4.trans x5).trans x6).trans x7).trans x8)
  have y48:=(((x5.trans x6).trans x7).trans x8)
  have y58:=((x6.trans x7).trans x8)
  have y68:=x7.trans x8
  have g68:=(y68.get _ (hw6 _ _ g6).1).trans g6
  obtain⟨_,cU,e9,x9,hw9,rfl⟩:=Afp q (if listE d t=0 then es else []) (by have:=AcD hS kd;omega) (c:=ca) (c':=cb) cT hw8 (hEa.keep (R':=fun _=>True) fun b cs hb hc=>⟨(y38.cells (hw3.cells hc)).trans hc,trivial⟩).laid (hEb.keep (R':=fun _=>True) fun b cs hb hc=>⟨(y48.cells (hw4.cells hc)).trans hc,trivial⟩).laid
  replace e9:=(C9 (q+6000) 26 _ cT rfl).trans e9
  have g69:=(x9.get _ (hw8 _ _ g68).1).trans g68
  have g89:=(x9.get _ (hw8 _ _ g8).1).trans g8
  have c69:=Aq g69
  have c89:=Aq g89
  have rs1:=Afv kl1 kl2
  have rd1:=Bz (fromR l)
  obtain⟨_,cI,e10,x10,hw10,rfl⟩:=ER (q+2000) 2000 (fromR l) (fromR l) (.agg lvv.toArray) (.agg lwv.toArray) cU (by omega) (by omega) hw9 (hLv.keep (R':=fun _=>True) fun b cs hb hc=>⟨((y58.trans x9).cells (hw5.cells hc)).trans hc,trivial⟩).laid (hLw.keep (R':=fun _=>True) fun b cs hb hc=>⟨((x8.trans x9).cells (hw7.cells hc)).trans hc,trivial⟩).laid
  rw[EX,show q+2000+2*2000=q+6000 by omega] at e10
  replace e10:=(C9 (q+6000) 18 _ cU rfl).trans e10
  simp -implicitDefEqProofs only[go_sem,Ako,YU,B19,B20,B21,B22,e9,c69,c89,hv4,hw4',tvv,twv,e10,Ag,Bool.false_eq_true,Bool.or_false,Bool.or_self,Bool.not_true,beq_self_eq_true,Nat.le_refl]
  generalize hff:upd _ 26 _=fC
  generalize hgg:upd _ 146 _=gC
  have C13:fC 13=.slice (some ⟨b1,o1,none⟩) ds.length c1:=by rw[<-hff];simp -implicitDefEqProofs only[go_sem,reduceCtorEq,B13]
  have C14:fC 14=.slice (some ⟨b2,o2,none⟩) xs.length c2:=by rw[<-hff];simp -implicitDefEqProofs only[go_sem,reduceCtorEq,B14]
  have C15:fC 15=.slice (some ⟨b3,0,none⟩) us.length c3:=by rw[<-hff];simp -implicitDefEqProofs only[go_sem,reduceCtorEq,B15]
  have C16:fC 16=.int .i64 (.ofNat i):=by rw[<-hff];simp -implicitDefEqProofs only[go_sem,reduceCtorEq,B16]
  have C17:fC 17=.pointer (some ⟨b_.next,0,none⟩):=by rw[<-hff];simp -implicitDefEqProofs only[go_sem,reduceCtorEq,B17]
  have C18:fC 18=.slice kp l.length l.length:=by rw[<-hff];simp -implicitDefEqProofs only[go_sem,reduceCtorEq,B18]
  have C23:fC 23=.pointer (some ⟨bV.next,0,none⟩):=by rw[<-hff];simp -implicitDefEqProofs only[go_sem,reduceCtorEq]
  have C25:fC 25=.pointer (some ⟨bZ.next,0,none⟩):=by rw[<-hff];simp -implicitDefEqProofs only[go_sem,reduceCtorEq]
  clear hff hgg
  have y210:=((y24.trans x5).trans (y58.trans x9)).trans x10
  have X10:=X2.trans y210
  have g610:=(x10.get _ (hw9 _ _ g69).1).trans g69
  have g810:=(x10.get _ (hw9 _ _ g89).1).trans g89
  have c210:=(y210.cells (hw2.cells c2')).trans c2'
  have c2x:=(X10.cells ub2).trans hs2
  obtain⟨_,cF,e11,x11,hw11,au,rfl,hLa⟩:=WR (q+5991) (q+5969) (q+5654) (by omega) (by omega) d x t es kd kx hS uv _ hu4 n2 cI hw10 (st y210 lu2) (st X10 hLx)
  replace e11:=(C9 (q+6000) 27 _ cI rfl).trans e11
  obtain⟨lav,rfl,ha4,hao⟩:=hLa.agg
  have tav:lav.take 4=lav:=List.take_of_length_le (by omega)
  have v10:=Dw hw10 (Nat.le_refl _)
  have g611:=(x11.get _ (hw10 _ _ g610).1).trans g610
  have nb5:a9.next<=bV.next:=((y24.trans x5)).next
  have nb57:bV.next<bZ.next:=by have h1:=x7.next;have h2:=(hw6 _ _ g6).1;omega
  have nb7:bZ.next<cI.next:=(hw10 _ _ g810).1
  have n12:=X2.next
  have hlv0:lvv.drop 4=[]:=List.drop_of_length_le (by omega)
  have hlw0:lwv.drop 4=[]:=List.drop_of_length_le (by omega)
  simp -implicitDefEqProofs only[go_sem,Ar,Akp,YV,C14,C16,C17,C23,v10,c210,hu4,tuv,c2x,l2,hl2,e11,g611,hv4,hlv0,ha4,hao,tav,Nat.le_refl]
  have x12:Ext a9 (cF.put bV.next (.cells lav TD) none):=(y210.trans x11).put _ _ _ nb5
  have X12:Ext Z (cF.put bV.next (.cells lav TD) none):=(X10.trans x11).put _ _ _ (by omega)
  have hw12:=hw11.put bV.next (.cells lav TD) none (hw11 _ _ g611).1
  have g612:∃ver,(cF.put bV.next (.cells lav TD) none).heap.get bV.next=some ⟨.cells lav TD,false,none,ver⟩:=⟨_,by rw[Am,if_pos rfl]⟩
  have g812:(cF.put bV.next (.cells lav TD) none).heap.get bZ.next=some ⟨.cells lwv TD,false,none,ver8⟩:=by rw[Am,if_neg (by omega)];exact(x11.get _ nb7).trans g810
  have hLa12:aL (fun b=>cI.next<=b) (cF.put bV.next (.cells lav TD) none) (.agg lav.toArray) (appR d x t es):=hLa.keep fun b cs hb hc=>⟨by rw[Ak,if_neg (by omega)];exact hc,hb⟩
  have kc12:(cF.put bV.next (.cells lav TD) none).clock=cF.clock+1:=rfl
  have nn12:cI.next<=(cF.put bV.next (.cells lav TD) none).next:=x11.next
  generalize aC.put cF bV.next _ _=cK at x12 X12 hw12 g612 g812 hLa12 kc12 nn12 ⊢
  rw[<-kc12]
  obtain⟨ver12,g612⟩:=g612
  obtain⟨_,cG,e13,x13,hw13,bu,rfl,hLb⟩:=S9 (q+5991) (q+3990) (q+5791) (by omega) (by omega) d t es kd hS _ n1 x _ kx n2 (fun b=>b<Z.next) cK hw12 (fun b hb=>by have:=X12.next;omega) (hL.keep fun b cs hb hc=>⟨(X12.cells hb).trans hc,hb⟩) (hLx.keep fun b cs hb hc=>⟨(X12.cells hb).trans hc,hb⟩)
  replace e13:=(C9 (q+6000) 28 _ cK rfl).trans e13
  obtain⟨lbv,rfl,hb4,hbo⟩:=hLb.agg
  have tbv:lbv.take 4=lbv:=List.take_of_length_le (by omega)
  have v12:=Dw hw12 (Nat.le_refl _)
  have g813:=(x13.get _ (hw12 _ _ g812).1).trans g812
  have g613:=(x13.get _ (hw12 _ _ g612).1).trans g612
  have c112:=(X12.cells ub1).trans hs1
  have c212:=(X12.cells ub2).trans hs2
  simp -implicitDefEqProofs only[go_sem,Ar,Akq,YW,C13,C14,C16,C25,v12,c112,c212,l1,hl1,l2,hl2,e13,g813,hw4',hb4,hbo,tbv,hlw0,Nat.le_refl]
  have x14:Ext a9 (cG.put bZ.next (.cells lbv TD) none):=(x12.trans x13).put _ _ _ (by omega)
  have X14:Ext Z (cG.put bZ.next (.cells lbv TD) none):=(X12.trans x13).put _ _ _ (by omega)
  have hw14:=hw13.put bZ.next (.cells lbv TD) none (hw13 _ _ g813).1
  have g814:∃ver,(cG.put bZ.next (.cells lbv TD) none).heap.get bZ.next=some ⟨.cells lbv TD,false,none,ver⟩:=⟨_,by rw[Am,if_pos rfl]⟩
  have g614:(cG.put bZ.next (.cells lbv TD) none).heap.get bV.next=some ⟨.cells lav TD,false,none,ver12⟩:=by rw[Am,if_neg (by omega)];exact g613
  have hLa14:aL (fun _=>True) (cG.put bZ.next (.cells lbv TD) none) (.agg lav.toArray) (appR d x t es):=hLa12.keep fun b cs hb hc=>⟨by rw[Ak,if_neg (by omega)];exact(x13.cells (hw12.cells hc)).trans hc,trivial⟩
  have hLb14:aL (fun _=>True) (cG.put bZ.next (.cells lbv TD) none) (.agg lbv.toArray) (appR d x t es):=hLb.keep fun b cs hb hc=>⟨by rw[Ak,if_neg (by omega)];exact hc,trivial⟩
  have kc14:(cG.put bZ.next (.cells lbv TD) none).clock=cG.clock+1:=rfl
  generalize aC.put cG bZ.next _ _=cL at x14 X14 hw14 g814 g614 hLa14 hLb14 kc14 ⊢
  obtain⟨ver14,g814⟩:=g814
  generalize hff:upd _ 26 _=fD
  generalize hgg:upd _ 167 _=gD
  have D13:fD 13=.slice (some ⟨b1,o1,none⟩) ds.length c1:=by rw[<-hff];simp -implicitDefEqProofs only[go_sem,reduceCtorEq,C13]
  have D14:fD 14=.slice (some ⟨b2,o2,none⟩) xs.length c2:=by rw[<-hff];simp -implicitDefEqProofs only[go_sem,reduceCtorEq,C14]
  have D15:fD 15=.slice (some ⟨b3,0,none⟩) us.length c3:=by rw[<-hff];simp -implicitDefEqProofs only[go_sem,reduceCtorEq,C15]
  have D16:fD 16=.int .i64 (.ofNat i):=by rw[<-hff];simp -implicitDefEqProofs only[go_sem,reduceCtorEq,C16]
  have D17:fD 17=.pointer (some ⟨b_.next,0,none⟩):=by rw[<-hff];simp -implicitDefEqProofs only[go_sem,reduceCtorEq,C17]
  have D18:fD 18=.slice kp l.length l.length:=by rw[<-hff];simp -implicitDefEqProofs only[go_sem,reduceCtorEq,C18]
  have D23:fD 23=.pointer (some ⟨bV.next,0,none⟩):=by rw[<-hff];simp -implicitDefEqProofs only[go_sem,reduceCtorEq,C23]
  have D25:fD 25=.pointer (some ⟨bZ.next,0,none⟩):=by rw[<-hff];simp -implicitDefEqProofs only[go_sem,reduceCtorEq,C25]
  have D24:fD 24=.int .i64 (appE d x t:Nat):=by rw[<-hff];simp -implicitDefEqProofs only[go_sem,reduceCtorEq]
  have D26:fD 26=.int .i64 (appE d x t:Nat):=by rw[<-hff];simp -implicitDefEqProofs only[go_sem,reduceCtorEq]
  clear hff hgg
  have c214:=(x14.cells (hw2.cells c2')).trans c2'
  obtain⟨_,cH,e15,x15,hw15,tu,rfl,hLt⟩:=Anf (q+5991) (q+5969) (q+5654) (by omega) (by omega) d t es kd hS uv hu4 cL hw14 (st x14 lu2)
  replace e15:=(C9 (q+6000) 29 _ cL rfl).trans e15
  obtain⟨ltv,rfl,ht4,hto⟩:=hLt.agg
  have ttv:ltv.take 4=ltv:=List.take_of_length_le (by omega)
  have x16:Ext cH ((cH.push (.cells [.int .i64 0,.int .i64 0,.string ⟨#[]⟩,.slice none 0 0] TD) none).put cH.next (.cells ltv TD) none):=((Ext.refl _).push _ _).put _ _ _ (Nat.le_refl _)
  have hw16:=(hw15.push (.cells [.int .i64 0,.int .i64 0,.string ⟨#[]⟩,.slice none 0 0] TD) none).put cH.next (.cells ltv TD) none (Nat.lt_succ_self _)
  have c16:((cH.push (.cells [.int .i64 0,.int .i64 0,.string ⟨#[]⟩,.slice none 0 0] TD) none).put cH.next (.cells ltv TD) none).cells cH.next=some ltv:=by rw[Ak,if_pos rfl];rfl
  have X16:=(X14.trans x15).trans x16
  simp -implicitDefEqProofs only[go_sem,Ar,Akr,YX,D17,c214,hu4,tuv,e15,ht4,hto,Nat.le_refl]
  generalize aC.put _ cH.next _ _=cM at x16 hw16 c16 X16 ⊢
  obtain⟨_,cE,e17,x17,hw17,ru,rfl,hLr⟩:=Aas (q+5991) (q+3990) (q+5791) (by omega) (by omega) d t es kd hS _ n1 cM hw16 (st X16 hL)
  replace e17:=(C9 (q+6000) 30 _ cM rfl).trans e17
  obtain⟨lrv,rfl,hr4,hro⟩:=hLr.agg
  have trv:lrv.take 4=lrv:=List.take_of_length_le (by omega)
  have x18:Ext cE ((cE.push (.cells [.int .i64 0,.int .i64 0,.string ⟨#[]⟩,.slice none 0 0] TD) none).put cE.next (.cells lrv TD) none):=((Ext.refl _).push _ _).put _ _ _ (Nat.le_refl _)
  have hw18:=(hw17.push (.cells [.int .i64 0,.int .i64 0,.string ⟨#[]⟩,.slice none 0 0] TD) none).put cE.next (.cells lrv TD) none (Nat.lt_succ_self _)
  have c18:((cE.push (.cells [.int .i64 0,.int .i64 0,.string ⟨#[]⟩,.slice none 0 0] TD) none).put cE.next (.cells lrv TD) none).cells cE.next=some lrv:=by rw[Ak,if_pos rfl];rfl
  have kc18:((cE.push (.cells [.int .i64 0,.int .i64 0,.string ⟨#[]⟩,.slice none 0 0] TD) none).put cE.next (.cells lrv TD) none).clock=cE.clock+2:=rfl
  have X18:=(X16.trans x17).trans x18
  have c116:=(X16.cells ub1).trans hs1
  simp -implicitDefEqProofs only[go_sem,Ar,Aks,YY,D13,D16,c116,l1,hl1,e17,hr4,hro,Nat.le_refl]
  generalize aC.put _ cE.next _ _=cN at x18 hw18 c18 X18 kc18 ⊢
  rw[<-kc18]
  have y1418:=((x15.trans x16).trans x17).trans x18
  have y1618:=x17.trans x18
  have y1518:=x16.trans y1618
  have x218:=x14.trans y1418
  have c618:=(y1418.cells (hw14.cells (Aq g614))).trans (Aq g614)
  have c818:=(y1418.cells (hw14.cells (Aq g814))).trans (Aq g814)
  have c1618:=(y1618.cells (hw16.cells c16)).trans c16
  have rs2:=WS hS kd kx
  have rd2:=Bz (appR d x t es)
  have rs3:=Ang hS kd
  have rd3:=Bz (TurnR d t es)
  obtain⟨_,cO,e19,x19,hw19,rfl⟩:=ER (q+2000) 2000 (appR d x t es) (appR d x t es) (.agg lav.toArray) (.agg lbv.toArray) cN (by omega) (by omega) hw18 (hLa14.keep (R':=fun _=>True) fun b cs hb hc=>⟨(y1418.cells (hw14.cells hc)).trans hc,trivial⟩).laid (hLb14.keep (R':=fun _=>True) fun b cs hb hc=>⟨(y1418.cells (hw14.cells hc)).trans hc,trivial⟩).laid
  rw[EX,show q+2000+2*2000=q+6000 by omega] at e19
  replace e19:=(C9 (q+6000) 18 _ cN rfl).trans e19
  obtain⟨_,cR,e20,x20,hw20,rfl⟩:=ER (q+2000) 2000 (TurnR d t es) (TurnR d t es) (.agg ltv.toArray) (.agg lrv.toArray) cO (by omega) (by omega) hw19 (hLt.keep (R':=fun _=>True) fun b cs hb hc=>⟨((y1518.trans x19).cells (hw15.cells hc)).trans hc,trivial⟩).laid (hLr.keep (R':=fun _=>True) fun b cs hb hc=>⟨((x18.trans x19).cells (hw17.cells hc)).trans hc,trivial⟩).laid
  rw[EX,show q+2000+2*2000=q+6000 by omega] at e20
  replace e20:=(C9 (q+6000) 18 _ cO rfl).trans e20
  have x1820:=x19.trans x20
  obtain⟨_,cS,e21,x21,hw21,rfl⟩:=ER (q+2000) 2000 d d (.agg uv.toArray) _ cR (by omega) (by omega) hw20 (st (x218.trans x1820) lu2).laid (st (X18.trans x1820) hL).laid
  rw[EX,show q+2000+2*2000=q+6000 by omega] at e21
  replace e21:=(C9 (q+6000) 18 _ cR rfl).trans e21
  have x1821:=x1820.trans x21
  have X21:=X18.trans x1821
  obtain⟨_,cW,e22,x22,hw22,rfl⟩:=Afp q l kl2 (c:=l.length) (c':=pc) cS hw21 (stL (x218.trans x1821) lk2).laid (hPL.keep (R':=fun _=>True) fun b cs hb hc=>⟨(X21.cells hb).trans hc,trivial⟩).laid
  replace e22:=(C9 (q+6000) 26 _ cS rfl).trans e22
  have X22:=X21.trans x22
  have v18:=Dw hw18 (Nat.le_refl _)
  have v19:=Dw hw19 (Nat.le_refl _)
  have v20:=Dw hw20 (Nat.le_refl _)
  have v21:=Dw hw21 (Nat.le_refl _)
  have c1619:=(x19.cells (hw18.cells c1618)).trans c1618
  have c1819:=(x19.cells (hw18.cells c18)).trans c18
  have c220:=((x218.trans x1820).cells (hw2.cells c2')).trans c2'
  have c120:=((X18.trans x1820).cells ub1).trans hs1
  have c321:=(X21.cells ub3).trans h3
  simp -implicitDefEqProofs only[go_sem,Ar,Akt,YZ,Aki,YO,D13,D15,D16,D17,D18,D23,D24,D25,D26,l1,l3,v18,v19,v20,v21,c618,c818,c1619,c1819,c220,c120,c321,hl1,hup,ha4,hb4,ht4,hr4,hu4,tav,tbv,ttv,trv,tuv,e19,e20,e21,e22,a1,Ag,Bool.false_eq_true,Bool.or_false,Bool.or_self,Bool.not_true,beq_self_eq_true,Nat.le_refl]
  generalize hff:upd _ 16 _=f2'
  generalize hgg:upd _ 90 _=g2'
  have ih':=ih fuel (i+1) f2' g2' cW (by omega) (by omega) (by omega) hw22 (stL X22 hE) (stL X22 hEx) ((X22.cells ub3).trans h3) (fun i m hm=>by
   obtain⟨p,c,h1,h2⟩:=hP i m hm
   exact⟨p,c,h1,stL X22 h2⟩) (by rw[<-hff];simp -implicitDefEqProofs only[go_sem,reduceCtorEq,D13]) (by rw[<-hff];simp -implicitDefEqProofs only[go_sem,reduceCtorEq,D14]) (by rw[<-hff];simp -implicitDefEqProofs only[go_sem,reduceCtorEq,D15]) (by rw[<-hff];simp -implicitDefEqProofs only[go_sem,reduceCtorEq])
  unfold AcW at ih'
  exact ih'
section
variable (M m n:Nat) (hm:M=m+22) (hM:M=n+300) (d x:D) (hd:d.count<=150) (hx:x.count<=150) (lv xv:List Value) (h4:lv.length=4) (hx4:xv.length=4)
include hm hM hd hx h4 hx4
def FindOk(d x:D)(base:Nat)(w:Value)(Z:aC):Prop:=if twoE d x=0 then ∃u,w=.tuple #[u,.int .i64 0]/\ResP x (d.pieces []) base u Z else w=.tuple #[.slice none 0 0,.int .i64 (twoE d x:Nat)]
end
section
variable (M n n2:Nat) (hM:M=n+2001) (hM2:M=n2+200) (d x:D) (hd:d.count<=150) (hx:x.count<=150) (lv xv:List Value) (h4:lv.length=4) (hx4:xv.length=4)
include hM hM2 hd hx h4 hx4
end
def FindRef(d x:D)(w:Value)(Z:aC):Prop:=∃u us,w=.tuple #[u,.int .i64 (twoE d x:Nat)]/\Vecs TP (fun _=>True) Z u us/\PathsL (fun _=>True) Z us (if twoE d x=0 then foundIn x (d.pieces []) else [])
def PsL(Z:aC)(us:List Value)(ls:List (List Int)):Prop:=∀(i:Nat) (l:List Int),ls[i]? = some l->∃p c,us[i]? = some (.slice p l.length c)/\IntsO Z p c l
theorem PsL.ext{Z V:aC}{us:List Value}{ls:List (List Int)}(h:PsL Z us ls)(hw:Wf Z)(hX:Ext Z V):PsL V us ls:=fun i l hl=>by
 obtain⟨p,c,h1,h2⟩:=h i l hl
 exact⟨p,c,h1,h2.ext hw hX⟩
theorem KE{l:List Value}(h:l.length=4):∃a b c d,l=[a,b,c,d]:=by
 match l,h with
 | [a,b,c,d],_=>exact⟨a,b,c,d,rfl⟩
theorem Aqo(R:Nat->Prop)(Z:aC)(b:Nat)(l0 l1 l2:List Value)(h0:l0.length=4)(h1:l1.length=4)(h2:l2.length=4)(d0 d1 d2:D)(hR:R b)(hc:Z.cells b=some (l0++l1++l2))(k0:aL R Z (.agg l0.toArray) d0)(k1:aL R Z (.agg l1.toArray) d1)(k2:aL R Z (.agg l2.toArray) d2):aO R Z (some ⟨b,0,none⟩) 0 [d0,d1,d2]:=by
 obtain⟨a0,a1,a2,a3,rfl⟩:=KE h0
 obtain⟨b0,b1,b2,b3,rfl⟩:=KE h1
 obtain⟨c0,c1,c2,c3,rfl⟩:=KE h2
 exact⟨⟨b,0,_,rfl,hR,hc,by simp,k0⟩,⟨b,0,_,rfl,hR,hc,by simp,k1⟩,⟨b,0,_,rfl,hR,hc,by simp,k2⟩,trivial⟩
theorem IntsO.keep{Z V:aC}{p:Option Addr}{c:Nat}{l:List Int}(h:IntsO Z p c l)(hk:∀b off,p=some ⟨b,off,none⟩->b<Z.next->V.heap.get b=Z.heap.get b)(hw:Wf Z):IntsO V p c l:=by
 rcases h with h|⟨b,off,cs,el,ro,fz,ver,rfl,hb,h1⟩
 .exact .inl h
 .exact .inr ⟨b,off,cs,el,ro,fz,ver,rfl,(hk b off rfl (hw _ _ hb).1).trans hb,h1⟩
def Axr(E:Env)(ro:Option Nat)(fn:FuncId):aZ:=aF (drawR E ro Axz) (aF (aF (aD E ro AxA) (aW 0 (loopR (bE nls fn) (Axs E ro fn)))) (aF (aD E ro Axd) bL))
def AxD(E:Env)(ro:Option Nat)(fn:FuncId):aZ:=aF (aD E ro Axu) (aF (aD E ro Axv) (aF (aD E ro Axw) (aF (aD E ro Axx) (aF (drawR E ro Axy) (Axr E ro fn)))))
theorem Ha(k:Nat):∀l:List D,(∀e∈l,e.count<=k)->D.counts l<=l.length*k
 | [],_=>by simp[D.counts]
 | d::l,h=>by
  have h1:=h d (List.mem_cons_self ..)
  have h2:=Ha k l fun e he=>h e (List.mem_cons_of_mem _ he)
  rw[D.counts,List.length_cons,Nat.add_mul]
  omega
theorem UY{L:Nat}{d:D}(h:Made L d):d.count<=most L:=by
 have:=(Ac2 0 h []).1
 rwa [Ed] at this
def Aav(E:Env)(ro:Option Nat)(fn:FuncId):aZ:=aF (drawR E ro Ake) (aF (aF (aD E ro Akg) (aW 4 (loopR (bE nls fn) (AcW E ro fn)))) (aF (aD E ro Aku) bL))
def Aau(E:Env)(ro:Option Nat)(fn:FuncId):aZ:=aF (aD E ro Awa) (aF (aD E ro Awb) (aF (aF (aD E ro Aka) (aW 2 (loopR (bE nls fn) (AfG E ro fn)))) (Aav E ro fn)))
theorem AaP(E:Env)(ro:Option Nat)(fn:FuncId):AwA E ro fn=aF (aD E ro Av4) (aF (aF (aD E ro Av5) (aN (fun a=>a.get 41) (aF (aD E ro Av6) bL) aV)) (aF (aF (aD E ro Av8) (aW 0 (loopR (bE nls fn) (UN E ro fn)))) (Aau E ro fn))):=rfl
theorem Xt(q b4 b5 cn kk:Nat)(a b:D)(la lb:List Value)(ha4:la.length=4)(hb4:lb.length=4)(mp pe:Option Addr)(mc ce:Nat)(made es:List D)(f g:Nat->Value)(Z:aC)(hw:Wf Z)(hC:Coil Z cn kk)(hkk:kk+1000<100000000)(c4:Z.cells b4=some la)(c5:Z.cells b5=some lb)(m4:b4≠cn)(m5:b5≠cn)(hcn:cn<Z.next)(hA:aL (fun b=>b<Z.next/\b≠cn) Z (.agg la.toArray) a)(hB:aL (fun b=>b<Z.next/\b≠cn) Z (.agg lb.toArray) b)(hM:aO (fun b=>b<Z.next/\b≠cn) Z mp 0 made)(hEs:aO (fun b=>b<Z.next/\b≠cn) Z pe 0 es)(ka:a.count<=150)(kb:b.count<=150)(km:made.length<=4)(km2:∀e∈made,e.count<=40)(ke:es.length<=8)(ke2:∀e∈es,e.count<=150)(f2:f 2=.slice pe es.length ce)(f4:f 4=.pointer (some ⟨b4,0,none⟩))(f5:f 5=.pointer (some ⟨b5,0,none⟩))(f10:f 10=.pointer (some ⟨cn,0,none⟩))(f11:f 11=.slice mp made.length mc):
  ∃V,aP Tryz.prog (top (q+6000)) [.tmp 8] (Aav (top (q+6000)) none 4 (Sl 31 220 f g []) none Z)=.ret (.bool true) none V:=by
 have kmc:=Ha 40 made km2
 have kec:=Ha 150 es ke2
 have hml:made.length*40<=4*40:=Nat.mul_le_mul_right _ km
 have hel:es.length*150<=8*150:=Nat.mul_le_mul_right _ ke
 have nz:aL (fun b=>b<Z.next/\b≠cn) Z (.agg ([.int .i64 0,.int .i64 0,.string ⟨#[]⟩,.slice none 0 0]:List Value).toArray) nilD:=⟨none,0,rfl,trivial⟩
 obtain⟨u1,a_,e1,x1,hw1,hL1⟩:=HG (q+5998) (c:=mc) (by omega) [.int .i64 0,.int .i64 0,.string ⟨#[]⟩,.slice none 0 0] rfl rfl Z hw (fun b hb=>hb.1) hM nz
 replace e1:=(C9 (q+6000) 20 _ Z rfl).trans e1
 have n1:=x1.next
 obtain⟨u2,a9,e2,x2,hw2,hL2⟩:=HG (q+5998) (c:=mc) (R:=fun b=>b<Z.next/\b≠cn) (t:=nilD) (by omega) [.int .i64 0,.int .i64 0,.string ⟨#[]⟩,.slice none 0 0] rfl rfl a_ hw1 (fun b hb=>by omega) (hM.keep fun b cs hb hc=>⟨(x1.cells hb.1).trans hc,hb⟩) ⟨none,0,rfl,trivial⟩
 replace e2:=(C9 (q+6000) 20 _ a_ rfl).trans e2
 have n2:=x2.next
 have X2:=x1.trans x2
 have hv3:wound 3<=1000:=by simp[wound]
 obtain⟨vx,x,bT,k3,e3,hX,mX,x3,hw3,hC3,_,_⟩:=Iu (q+5993) cn 3 (by omega) kk a9 (by omega) hw2 ((hC.ext hw x1).ext hw1 x2)
 replace e3:(top (q+6000)).call 8 [.pointer (some ⟨cn,0,none⟩),.int .i64 3] none a9=.ret vx none bT:=(C9 _ _ _ _ rfl).trans e3
 have n3:=x3.next
 have kx:=UY mX
 have km3:most 3=40:=by decide
 obtain⟨l1,rfl,h14,h1o⟩:=hL1.agg
 obtain⟨l2,rfl,h24,h2o⟩:=hL2.agg
 obtain⟨xv,rfl,hx4,hxo⟩:=hX.agg
 have kt':∀b cs,Z.cells b=some cs->b≠cn->bT.cells b=some cs:=fun b cs hc hne=>(x3.cells (by have:=hw.cells hc;omega) hne).trans ((X2.cells (hw.cells hc)).trans hc)
 have gt:∀b,b<Z.next->b≠cn->bT.heap.get b=Z.heap.get b:=fun b hb hne=>by rw[x3.get b (by omega) hne,x2.get b (by omega),x1.get b hb]
 obtain⟨a0,a1,a2,a3,rfl⟩:=KE ha4
 obtain⟨i0,i1,i2,i3,rfl⟩:=KE hb4
 obtain⟨x0,y1,y2,y3,rfl⟩:=KE hx4
 obtain⟨t0,t1,t2,t3,rfl⟩:=KE h14
 obtain⟨z0,z1,z2,z3,rfl⟩:=KE h24
 have vo:∀ {υ:aC} {b:Nat} {cs:List Value},Z.cells b=some cs->b≠cn->(∀b,b<bT.next->υ.heap.get b=bT.heap.get b)->(view υ Z.clock).cells b=some cs:=fun hc hb hk=>JP hw (Nat.le_refl _) ((hk _ (by have:=hw.cells hc;omega)).trans (gt _ (hw.cells hc) hb)) hc
 have p1:∀b,b<bT.next->(bT.push (.cells [a0,a1,a2,a3,t0,t1,t2,t3,z0,z1,z2,z3] TD) none).heap.get b=bT.heap.get b:=fun b hb=>by rw[Ai,if_neg (by omega)]
 have v4:=vo c4 m4 (υ:=bT) fun b hb=>rfl
 have v5:=vo c5 m5 p1
 have v5':=vo c5 m5 (υ:=bT) fun b hb=>rfl
 unfold Aav
 simp -implicitDefEqProofs only[go_sem,Akf,YM,f2,f4,f5,f10,f11,e1,e2,e3,v4,v5,v5',Nat.le_refl]
 have X:Ext bT (((bT.push (.cells [a0,a1,a2,a3,t0,t1,t2,t3,z0,z1,z2,z3] TD) none).push (.cells [i0,i1,i2,i3,x0,y1,y2,y3,i0,i1,i2,i3] TD) none).push (.cells [.slice pe es.length ce,.slice mp made.length mc,.slice pe es.length ce] 22) none):=(((Ext.refl _).push _ _).push _ _).push _ _
 have hw4:=((hw3.push (.cells [a0,a1,a2,a3,t0,t1,t2,t3,z0,z1,z2,z3] TD) none).push (.cells [i0,i1,i2,i3,x0,y1,y2,y3,i0,i1,i2,i3] TD) none).push (.cells [.slice pe es.length ce,.slice mp made.length mc,.slice pe es.length ce] 22) none
 have g1:(((bT.push (.cells [a0,a1,a2,a3,t0,t1,t2,t3,z0,z1,z2,z3] TD) none).push (.cells [i0,i1,i2,i3,x0,y1,y2,y3,i0,i1,i2,i3] TD) none).push (.cells [.slice pe es.length ce,.slice mp made.length mc,.slice pe es.length ce] 22) none).cells bT.next=some [a0,a1,a2,a3,t0,t1,t2,t3,z0,z1,z2,z3]:=by rw[Ah,if_neg (by simp only[Ac];omega),Ah,if_neg (by rw[Ac];omega),Ah,if_pos rfl];rfl
 have g2:(((bT.push (.cells [a0,a1,a2,a3,t0,t1,t2,t3,z0,z1,z2,z3] TD) none).push (.cells [i0,i1,i2,i3,x0,y1,y2,y3,i0,i1,i2,i3] TD) none).push (.cells [.slice pe es.length ce,.slice mp made.length mc,.slice pe es.length ce] 22) none).cells (bT.next+1)=some [i0,i1,i2,i3,x0,y1,y2,y3,i0,i1,i2,i3]:=by rw[Ah,if_neg (by simp only[Ac];omega),Ah,if_pos (by rw[Ac])];rfl
 have g3:(((bT.push (.cells [a0,a1,a2,a3,t0,t1,t2,t3,z0,z1,z2,z3] TD) none).push (.cells [i0,i1,i2,i3,x0,y1,y2,y3,i0,i1,i2,i3] TD) none).push (.cells [.slice pe es.length ce,.slice mp made.length mc,.slice pe es.length ce] 22) none).cells (bT.next+2)=some [.slice pe es.length ce,.slice mp made.length mc,.slice pe es.length ce]:=by rw[Ah,if_pos (by simp only[Ac])];rfl
 have n4:(((bT.push (.cells [a0,a1,a2,a3,t0,t1,t2,t3,z0,z1,z2,z3] TD) none).push (.cells [i0,i1,i2,i3,x0,y1,y2,y3,i0,i1,i2,i3] TD) none).push (.cells [.slice pe es.length ce,.slice mp made.length mc,.slice pe es.length ce] 22) none).next=bT.next+3:=rfl
 generalize hPS:([.slice pe es.length ce,.slice mp made.length mc,.slice pe es.length ce]:List Value)=us at g3 X hw4 g1 g2 n4 ⊢
 generalize (((bT.push (.cells [a0,a1,a2,a3,t0,t1,t2,t3,z0,z1,z2,z3] TD) none).push (.cells [i0,i1,i2,i3,x0,y1,y2,y3,i0,i1,i2,i3] TD) none).push (.cells us 22) none)=bV at X hw4 g1 g2 g3 n4 ⊢
 have hus:us.length=3:=by rw[<-hPS];rfl
 have kTau:∀b cs,Z.cells b=some cs->b≠cn->bV.cells b=some cs:=fun b cs hc hne=>(X.cells (hw3.cells (kt' b cs hc hne))).trans (kt' b cs hc hne)
 have st:∀ {v:Value} {d:D},aL (fun b=>b<Z.next/\b≠cn) Z v d->aL (fun b=>b<bV.next) bV v d:=fun h=>h.keep fun b cs hb hc=>⟨kTau b cs hc hb.2,by have:=hb.1;omega⟩
 have stE:∀ {p:Option Addr} {l:List D},aO (fun b=>b<Z.next/\b≠cn) Z p 0 l->aO (fun b=>b<bV.next) bV p 0 l:=fun h=>h.keep fun b cs hb hc=>⟨kTau b cs hc hb.2,by have:=hb.1;omega⟩
 have k35:∀b cs,b≠cn->a9.cells b=some cs->bV.cells b=some cs:=fun b cs hne hc=>by
  have h1:=(x3.cells (hw2.cells hc) hne).trans hc
  exact(X.cells (hw3.cells h1)).trans h1
 have s1:aL (fun b=>b<bV.next) bV (.agg ([t0,t1,t2,t3]:List Value).toArray) (bS nilD made):=hL1.keep fun b cs hb hc=>by
  have hne:b≠cn:=by
   rcases hb with hb|hb
   .exact hb.2
   .omega
  have h1:=(x2.cells (hw1.cells hc)).trans hc
  have:=hw2.cells h1
  exact⟨k35 b cs hne h1,by omega⟩
 have s2:aL (fun b=>b<bV.next) bV (.agg ([z0,z1,z2,z3]:List Value).toArray) (bS nilD made):=hL2.keep fun b cs hb hc=>by
  have hne:b≠cn:=by
   rcases hb with hb|hb
   .exact hb.2
   .omega
  have:=hw2.cells hc
  exact⟨k35 b cs hne hc,by omega⟩
 have s3:aL (fun b=>b<bV.next) bV (.agg ([x0,y1,y2,y3]:List Value).toArray) x:=hX.keep fun b cs hb hc=>⟨(X.cells (hw3.cells hc)).trans hc,by have:=hw3.cells hc;omega⟩
 have hls:LsL (fun b=>b<bV.next) bV us [es,made,es]:=fun i m hm=>by
  match i,hm with
  | 0,hm=>cases hm;exact⟨pe,ce,by rw[<-hPS];rfl,stE hEs⟩
  | 1,hm=>cases hm;exact⟨mp,mc,by rw[<-hPS];rfl,stE hM⟩
  | 2,hm=>cases hm;exact⟨pe,ce,by rw[<-hPS];rfl,stE hEs⟩
  | i+3,hm=>simp at hm
 have kml:(bS nilD made).count<=170:=by rw[Ec];have:=Gd;omega
 have lp:=fun keep fuel f g hf h13 h14 h15 h16=>Xr q keep [a,bS nilD made,bS nilD made] [b,x,b] [es,made,es] (some ⟨bT.next,0,none⟩) (some ⟨bT.next+1,0,none⟩) (bT.next+2) 3 3 3 us rfl rfl hus (by simp) (fun d hd=>by simp only[List.mem_cons,List.not_mem_nil,or_false] at hd;rcases hd with rfl|rfl|rfl<;>omega) (fun d hd=>by simp only[List.mem_cons,List.not_mem_nil,or_false] at hd;rcases hd with rfl|rfl|rfl<;>omega) (fun l hl=>by
   simp only[List.mem_cons,List.not_mem_nil,or_false] at hl
   rcases hl with rfl|rfl|rfl
   .exact⟨by omega,by omega,fun e he=>by have:=ke2 e he;omega⟩
   .exact⟨by omega,by omega,fun e he=>by have:=km2 e he;omega⟩
   .exact⟨by omega,by omega,fun e he=>by have:=ke2 e he;omega⟩)
  3 fuel 0 f g bV rfl hf (by simp) hw4 (Aqo _ _ _ _ _ _ rfl rfl rfl a (bS nilD made) (bS nilD made) (by omega) g1 (st hA) s1 s2) (Aqo _ _ _ _ _ _ rfl rfl rfl b x b (by omega) g2 (st hB) s3 (st hB)) g3 hls h13 h14 h15 h16
 simp -implicitDefEqProofs only[go_sem,Akh,YN]
 generalize hbf:bF=fuel
 generalize hff:upd _ 16 _=f1
 generalize hgg:upd _ 84 _=gg
 obtain⟨f',g',V,h⟩:=lp (bE nls 4) fuel f1 gg (by rw[<-hbf];show 3<1000000000000;omega) (by rw[<-hff];simp -implicitDefEqProofs only[go_sem,reduceCtorEq]<;>rfl) (by rw[<-hff];simp -implicitDefEqProofs only[go_sem,reduceCtorEq]<;>rfl) (by rw[<-hff,hus];simp -implicitDefEqProofs only[go_sem,reduceCtorEq]<;>rfl) (by rw[<-hff];simp -implicitDefEqProofs only[go_sem,reduceCtorEq]<;>rfl)
 rw[h]
 simp -implicitDefEqProofs only[go_sem,Akv,Y0,Gt]
 exact⟨_,rfl⟩
end
section
open Go Go.Eng
variable (E:Env) (ro:Option Nat) (last:List Nat->aZ) (cl:List Nat) (a:aY) (u:Option FrameMode) (Z:aC)
end
section
open Go Go.Eng
attribute [local congr] Aa Af Ae Ab Ad
attribute [-go_sem] List.range_succ
mutual
theorem Aer:∀(a:D),D.same a a=true
 | .mk k n t ds=>by
  rw[show D.same (.mk k n t ds) (.mk k n t ds)=(decide (k=k)&&decide (n=n)&&(t.toList==t.toList)&&D.sames ds ds) from rfl,NE ds]
  simp
theorem NE:∀(l:List D),D.sames l l=true
 | []=>rfl
 | a::l=>by
  rw[show D.sames (a::l) (a::l)=(D.same a a&&D.sames l l) from rfl,Aer a,NE l]
  rfl
end
def Held(R:Nat->Prop)(Z:aC)(s:Value)(ds:List D):Prop:=
 (ds=[]/\s=.slice none 0 0)\/(∃b cs,s=.slice (some ⟨b,0,none⟩) ds.length ds.length/\Z.cells b=some cs/\R b/\Row R Z cs ds)
theorem Held.keep{R R':Nat->Prop}{Z V:aC}{s:Value}{ds:List D}(h:Held R Z s ds)(hk:∀b cs,R b->Z.cells b=some cs->V.cells b=some cs/\R' b):Held R' V s ds:=by
 rcases h with h|⟨b,cs,rfl,hb,hR,hr⟩
 .exact .inl h
 .exact .inr ⟨b,cs,rfl,(hk b cs hR hb).1,(hk b cs hR hb).2,hr.keep hk⟩
theorem Held.slice{R:Nat->Prop}{Z:aC}{s:Value}{ds:List D}(h:Held R Z s ds):∃p,s=.slice p ds.length ds.length/\aO R Z p 0 ds:=by
 rcases h with⟨rfl,rfl⟩|⟨b,cs,rfl,hb,hR,hr⟩
 .exact⟨none,rfl,trivial⟩
 .exact⟨_,rfl,hr.elems hb hR (fun c hc=>hc) 0 ds fun j e he=>by rwa [Nat.zero_add]⟩
theorem Held.ones{R:Nat->Prop}{Z:aC}{s:Value}{ds:List D}(h:Held R Z s ds):oneCell s=true/\aU s=true/\aI s=[s]:=by
 rcases h with⟨rfl,rfl⟩|⟨b,cs,rfl,_⟩<;>exact⟨rfl,rfl,rfl⟩
theorem Vec.held{Z:aC}{lo:Nat}{s:Value}{ds:List D}(h:Vec Z lo s ds):Held (fun b=>lo<b) Z s ds:=by
 rcases h with h|⟨b,cs,ver,rfl,hb,hq,hr⟩
 .exact .inl h
 .exact .inr ⟨b,cs,rfl,Aq hb,hq,hr.keep fun c cs hc h=>⟨h,hc.1⟩⟩
end
section
open Go Go.Eng
attribute [local congr] Aa Af Ae Ab Ad
attribute [-go_sem] List.range_succ
structure HeadMk (cn lo:Nat) (v2 v4 v5:Value) (bU:aC) (ds:List D) (j:Nat) (f:Nat->Value) (Z:aC):Prop where
 f2:f 2=v2
 f4:f 4=v4
 f5:f 5=v5
 f10:f 10=.pointer (some ⟨cn,0,none⟩)
 f12:f 12=.int .i64 (.ofNat j)
 vec:Vec Z lo (f 11) ds
 same:∀b,b<=lo->b≠cn->Z.heap.get b=bU.heap.get b
 wf:Wf Z
 next:bU.next<=Z.next
 made:∀d∈ds,Made 3 d
 len:ds.length+j<=4
theorem Ao3(q:Nat)(keep:List Nat){cn lo K:Nat}{v2 v4 v5:Value}{bU:aC}(hlt:cn<=lo/\lo<bU.next)(hK:K<100000000000)(k0:Nat):
  ∀(j fuel:Nat) (ds:List D) (f g:Nat->Value) (Z:aC),j<fuel->HeadMk cn lo v2 v4 v5 bU ds j f Z->(∃k,Coil Z cn k/\k0<=k/\k+j*wound 3<=K)->
   ∃f' g' V ds',floop keep (AfG (top (q+6000)) none 4) fuel (Sl 31 220 f g []) none Z=.done (.exit 2) (Sl 31 220 f' g' []) none V/\HeadMk cn lo v2 v4 v5 bU ds' 0 f' V/\(∃k,Coil V cn k/\k0<=k/\k<=K):=by
 intro j
 induction j with
 | zero=>
  intro fuel ds f g Z hf h hk
  obtain⟨fuel,rfl⟩:∃q,fuel=q+1:=⟨fuel-1,by omega⟩
  have hd:decide (Int.ofNat 0>0)=false:=rfl
  rw[Ao]
  unfold AfG
  simp -implicitDefEqProofs only[go_sem,VF,Se,h.f12,hd]
  exact⟨_,_,_,ds,rfl,h,by simpa using hk⟩
 | succ j ih=>
  intro fuel ds f g Z hf h hk
  obtain⟨k,hC,hk0,hkK⟩:=hk
  obtain⟨fuel,rfl⟩:∃q,fuel=q+1:=⟨fuel-1,by omega⟩
  have hd:decide (Int.ofNat (j+1)>0)=true:=by simp
  have hjW:(j+1)*wound 3=j*wound 3+wound 3:=Nat.succ_mul j _
  have hlen:=h.len
  have hwj:=AaV j (by omega)
  obtain⟨v,d,a_,k1,e,hLd,hMd,hX1,hw1,hC1,hk1,hk2⟩:=Iu (q+5993) cn 3 (by omega) k Z (by omega) h.wf hC
  have e':(top (q+6000)).call 8 [.pointer (some ⟨cn,0,none⟩),.int .i64 3] none Z=.ret v none a_:=(C9 _ _ _ _ rfl).trans e
  have hV:=h.vec
  have hn0:=h.next
  have hnx:=hX1.next
  have hV1:Vec a_ lo (f 11) ds:=hV.keep h.wf fun c h1 h2=>hX1.get c h2 (by omega)
  have hsp:=hV.spot h.wf
  obtain⟨l4,rfl,hl4,ho4⟩:=hLd.agg
  obtain⟨s',τ,ha,ho,hVτ,hwτ,hnτ,hcτ,hg1,hg2⟩:=G3 a_ lo (f 11) ds d l4 hw1 (by omega) hl4 ho4 (by omega) hV1
   (hLd.keep fun c cs hc h=>⟨h,by have:=hc.1;omega,fun b n m hsb=>by have:=(hsp b n m hsb).1;have:=hc.1;omega⟩)
  have o':=hVτ.ones
  rw[Ao]
  unfold AfG
  simp -implicitDefEqProofs only[go_sem,Ar,VF,Se,Akc,YK,Akd,YL,h.f10,h.f12,hd,e',hl4,ho4,ha,o'.1,o'.2.1,o'.2.2,hwj]
  generalize hff:upd _ 12 _=f1
  refine ih fuel (ds++[d]) f1 _ τ (by omega) {
   f2:=by rw[<-hff];simp -implicitDefEqProofs only[go_sem,reduceCtorEq,h.f2]
   f4:=by rw[<-hff];simp -implicitDefEqProofs only[go_sem,reduceCtorEq,h.f4]
   f5:=by rw[<-hff];simp -implicitDefEqProofs only[go_sem,reduceCtorEq,h.f5]
   f10:=by rw[<-hff];simp -implicitDefEqProofs only[go_sem,reduceCtorEq,h.f10]
   f12:=by rw[<-hff];simp -implicitDefEqProofs only[go_sem,reduceCtorEq]
   vec:=by rw[<-hff];simp -implicitDefEqProofs only[go_sem,reduceCtorEq];exact hVτ
   same:=fun b hb h1=>by
    rw[hg1 b hb,hX1.get b (by omega) h1]
    exact h.same b hb h1
   wf:=hwτ
   next:=by omega
   made:=fun e he=>by
    rcases List.mem_append.1 he with h'|h'
    .exact h.made e h'
    .rw[List.mem_singleton.1 h'];exact hMd
   len:=by rw[List.length_append,List.length_singleton];omega } ⟨k1,hC1.low fun c hc=>hg1 c (by omega),by omega,by omega⟩
theorem Ac1(q b4 b5:Nat)(a b:D)(la lb:List Value)(ha4:la.length=4)(hb4:lb.length=4)(pe pn:Option Addr)(es:List D)(ln:List Int)(ce cpn:Nat)(ke:es.length<=8)(ke2:∀e∈es,e.count<=150)(hln:ln.length<9223372036854775808)(f g:Nat->Value)(Z:aC)(hw:Wf Z)(hI:Ints Z pn ln)(hp:∀a,pn=some a->a.block<Z.next)(c4:Z.cells b4=some la)(c5:Z.cells b5=some lb)(hA:aL (fun b=>b<Z.next) Z (.agg la.toArray) a)(hB:aL (fun b=>b<Z.next) Z (.agg lb.toArray) b)(hEs:aO (fun b=>b<Z.next) Z pe 0 es)(ka:a.count<=150)(kb:b.count<=150)(f2:f 2=.slice pe es.length ce)(f3:f 3=.slice pn ln.length cpn)(f4:f 4=.pointer (some ⟨b4,0,none⟩))(f5:f 5=.pointer (some ⟨b5,0,none⟩)):
  ∃V,aP Tryz.prog (top (q+6000)) [.tmp 8] (Aau (top (q+6000)) none 4 (Sl 31 220 f g []) none Z)=.ret (.bool true) none V:=by
 obtain⟨a9,e2,x2,hw2,hC2⟩:=Xx (q+5999) pn ln cpn hln Z hw hI hp
 have hn2:Z.next<a9.next:=by obtain⟨_,_,_,_,_,h,_⟩:=hC2;exact(hw2 _ _ h).1
 replace e2:(top (q+6000)).call 9 [.slice pn ln.length cpn] none Z=.ret (.pointer (some ⟨Z.next,0,none⟩)) none a9:=(C9 _ _ _ _ rfl).trans e2
 obtain⟨r,bT,e3,h30,h31,W3⟩:=NN (q+5998) Z.next 0 4 (by omega) (by omega) a9 hw2 hC2
 obtain⟨j,rfl⟩:∃i:Nat,r=Int.ofNat i:=⟨r.toNat,by simp only[Int.ofNat_eq_natCast];omega⟩
 have hj:j<=4:=by simp only[Int.ofNat_eq_natCast] at h31;omega
 replace e3:(top (q+6000)).call 19 [.pointer (some ⟨Z.next,0,none⟩),.int .i64 4] none a9=.ret (.int .i64 (.ofNat j)) none bT:=(C9 _ _ _ _ rfl).trans e3
 have n2:=x2.next
 have n3:=W3.ext.next
 obtain⟨lo,hlo⟩:∃lo,lo+1=bT.next:=⟨bT.next-1,by omega⟩
 have hw3':4*wound 3+1<=10000:=by simp[wound]
 have hrW:j*wound 3<=4*wound 3:=Nat.mul_le_mul_right _ hj
 unfold Aau
 simp -implicitDefEqProofs only[go_sem,Ap0,Akz,Ap1,AkA,Akb,YJ,f3,e2,e3]
 generalize hff:upd _ 12 _=f1
 generalize hgg:upd _ 58 _=g1
 generalize hbf:bF=fuel
 obtain⟨f6,g6,cB,made,r6,h6,⟨k6,hC6,_,hk6⟩⟩:=Ao3 q (bE nls 4) (cn:=Z.next) (lo:=lo) (K:=1+4*wound 3) (v2:=.slice pe es.length ce) (v4:=.pointer (some ⟨b4,0,none⟩)) (v5:=.pointer (some ⟨b5,0,none⟩)) (bU:=bT) ⟨by omega,by omega⟩ (by omega) 1 j fuel [] f1 g1 bT (by rw[<-hbf];show j<1000000000000;omega) {
  f2:=by rw[<-hff];simp -implicitDefEqProofs only[go_sem,reduceCtorEq,f2]
  f4:=by rw[<-hff];simp -implicitDefEqProofs only[go_sem,reduceCtorEq,f4]
  f5:=by rw[<-hff];simp -implicitDefEqProofs only[go_sem,reduceCtorEq,f5]
  f10:=by rw[<-hff];simp -implicitDefEqProofs only[go_sem,reduceCtorEq]
  f12:=by rw[<-hff];simp -implicitDefEqProofs only[go_sem,reduceCtorEq]
  vec:=.inl ⟨rfl,by rw[<-hff];simp -implicitDefEqProofs only[go_sem,reduceCtorEq]⟩
  same:=fun b _ _=>rfl
  wf:=W3.wf
  next:=Nat.le_refl _
  made:=fun e he=>by simp at he
  len:=by simp;omega } ⟨0+1,W3.coil,by omega,by omega⟩
 rw[r6]
 simp -implicitDefEqProofs only[go_sem]
 obtain⟨mp,hmp,hMd⟩:=h6.vec.slice
 have n6:=h6.next
 have k06:∀b cs,b<Z.next->Z.cells b=some cs->cB.cells b=some cs:=fun b cs hb hc=>by
  have g6:=h6.same b (by omega) (by omega)
  have g3:=W3.ext.get b (by omega) (by omega)
  have g2:=x2.get b hb
  rw[AO] at hc ⊢
  rw[g6,g3,g2];exact hc
 have old:∀ {v:Value} {d:D},aL (fun b=>b<Z.next) Z v d->aL (fun b=>b<cB.next/\b≠Z.next) cB v d:=fun h=>h.keep fun b cs hb hc=>⟨k06 b cs hb hc,by omega,by omega⟩
 have km3:most 3=40:=by decide
 exact Xt q b4 b5 Z.next k6 a b la lb ha4 hb4 mp pe made.length ce made es f6 g6 cB h6.wf hC6 (by omega) (k06 _ _ (hw.cells c4) c4) (k06 _ _ (hw.cells c5) c5) (by have:=hw.cells c4;omega) (by have:=hw.cells c5;omega) (by omega) (old hA) (old hB)
  (hMd.keep fun b cs hb hc=>⟨hc,h6.wf.cells hc,by omega⟩) (hEs.keep fun b cs hb hc=>⟨k06 b cs hb hc,by omega,by omega⟩) ka kb (by have:=h6.len;omega) (fun e he=>by have:=UY (h6.made e he);omega) ke ke2 h6.f2 h6.f4 h6.f5 h6.f10 hmp
end
section
open Go Go.Eng
def isCells(W:World)(b:Nat):Bool:=match W.heap[b]? with
 | some (.cells ..)=>true
 | _=>false
def seenV(W:World)(v:Value):Value:=
 match v with
 | .int k n=>.int k n
 | .string s=>.string s
 | .slice none l c=>.slice none l c
 | .slice (some a) l c=>if l=0/\c=0 then .slice (some ⟨0,0,none⟩) 0 0 else if a.spot=none/\isCells W a.block=true then .slice (some ⟨a.block,a.off,none⟩) l c else .tuple #[]
 | _=>.tuple #[]
def seenM(W:World):Mp:=fun b=>if isCells W b=true then some ⟨b,0,true,none⟩ else none
def seenE(W:World)(b:Nat):Option Ent:=match W.heap[b]? with
 | some (.cells c t _)=>some ⟨.cells (c.toList.map (seenV W)) t,true,none,0⟩
 | _=>none
def seenT(W:World):Nat->Tr Ent
 | 0=>.lf
 | n+1=>match seenE W n with
  | some e=>(seenT W n).set n e
  | none=>seenT W n
def seenS(W:World):aC:=⟨seenT W W.heap.size,W.heap.size,1⟩
theorem Kr(W:World):∀n b,(seenT W n).get b=if b<n then seenE W b else none
 | 0,b=>by rw[if_neg (Nat.not_lt_zero b)];rfl
 | n+1,b=>by
  rw[seenT]
  cases h:seenE W n with
  | some e=>
   rw[Tr.get_set,Kr W n b]
   by_cases hb:b=n
   .subst hb
    rw[if_pos rfl,if_pos (Nat.lt_succ_self b),h]
   .rw[if_neg hb]
    by_cases hl:b<n
    .rw[if_pos hl,if_pos (by omega)]
    .rw[if_neg hl,if_neg (by omega)]
  | none=>
   show (seenT W n).get b=_
   rw[Kr W n b]
   by_cases hb:b=n
   .subst hb
    rw[if_neg (Nat.lt_irrefl b),if_pos (Nat.lt_succ_self b),h]
   .by_cases hl:b<n
    .rw[if_pos hl,if_pos (by omega)]
    .rw[if_neg hl,if_neg (by omega)]
theorem Kq(W:World)(b:Nat):(seenS W).heap.get b=seenE W b:=by
 show (seenT W W.heap.size).get b=_
 rw[Kr]
 by_cases h:b<W.heap.size
 .rw[if_pos h]
 .rw[if_neg h]
  unfold seenE
  rw[Array.getElem?_eq_none (by omega)]
theorem NG{W:World}{b:Nat}{e:Ent}(h:seenE W b=some e):∃c t fr,W.heap[b]? = some (.cells c t fr)/\e=⟨.cells (c.toList.map (seenV W)) t,true,none,0⟩/\b<W.heap.size:=by
 unfold seenE at h
 split at h
 .rename_i c t fr hb
  cases h
  exact⟨c,t,fr,hb,rfl,(Array.getElem?_eq_some_iff.1 hb).1⟩
 .cases h
theorem Ace(W:World):Wf (seenS W):=fun b e h=>by
 rw[Kq] at h
 obtain⟨c,t,fr,h1,rfl,h2⟩:=NG h
 exact⟨h2,Nat.lt_succ_self 0⟩
theorem FP{W:World}{b:Nat}:isCells W b=true↔∃c t fr,W.heap[b]? = some (.cells c t fr):=by
 unfold isCells
 split
 .rename_i c t fr h
  exact⟨fun _=>⟨c,t,fr,h⟩,fun _=>rfl⟩
 .rename_i h
  exact⟨fun h'=>(by cases h'),fun ⟨c,t,fr,h'⟩=>absurd h' (h c t fr)⟩
theorem IL{W:World}{b:Nat}{c:Array Value}{t:TypeId}{fr:Nat×Nat}(h:W.heap[b]? = some (.cells c t fr)):(seenS W).cells b=some (c.toList.map (seenV W)):=by
 rw[AO,Kq]
 unfold seenE
 rw[h]
 rfl
theorem Ez{W:World}{a:Addr}{v:Value}(h:W.cell? a=some v):a.spot=none/\isCells W a.block=true/\∃c t fr,W.heap[a.block]? = some (.cells c t fr)/\c[a.off]? = some v:=by
 unfold World.cell? at h
 split at h
 .rename_i c t fr hb
  split at h
  .cases h
  .rename_i hs
   exact⟨by simpa using hs,FP.2 ⟨c,t,fr,hb⟩,c,t,fr,hb,h⟩
 .cases h
theorem Ks{W:World}(hg:isCells W 0=true)(v:Value):bH (seenM W) (seenV W v) v:=by
 unfold seenV
 split
 .exact .int _ _
 .exact .string _
 .exact .nilSlice _ _
 .rename_i a l c
  by_cases h:l=0/\c=0
  .rw[if_pos h]
   obtain⟨rfl,rfl⟩:=h
   exact .empty (e:=⟨0,0,true,none⟩) (by unfold seenM;rw[if_pos hg])
  .rw[if_neg h]
   by_cases h2:a.spot=none/\isCells W a.block=true
   .rw[if_pos h2]
    have:=bH.slice (m:=seenM W) (b:=a.block) (off:=a.off) (l:=l) (c:=c) (c':=c) (e:=⟨a.block,0,true,none⟩) (by unfold seenM;rw[if_pos h2.2]) (.inl rfl)
    obtain⟨b,off,sp⟩:=a
    obtain⟨rfl,_⟩:=h2
    simpa using this
   .rw[if_neg h2]
    exact .unknown _
 .exact .unknown _
theorem Am5{W:World}(hg:isCells W 0=true):@Rel (varPins W) Top (seenM W) (seenS W) W:=by
 letI:=varPins W
 refine⟨fun b ent e _ hb he=>?_,fun b b' ent ent' e e' hne hb hb' _ _ he he'=>?_,fun b e he=>?_,fun b ent hb=>(Ace W b ent hb).1,fun k o hk=>⟨hk.2,fun b e he hro=>?_⟩⟩
 .rw[Kq] at hb
  obtain⟨c,t,fr,h1,rfl,h2⟩:=NG hb
  unfold seenM at he
  rw[if_pos (FP.2 ⟨c,t,fr,h1⟩)] at he
  cases he
  refine⟨rfl,c,t,fr,h1,(fun h=>by cases h),fun i v hv=>?_,trivial⟩
  rw[List.getElem?_map] at hv
  cases hc:c.toList[i]? with
  | none=>rw[hc] at hv;cases hv
  | some v'=>
   rw[hc] at hv
   cases hv
   exact⟨v',by rw[Nat.zero_add];simpa using hc,Ks hg v'⟩
 .unfold seenM at he he'
  split at he
  .split at he'
   .cases he
    cases he'
    exact hne
   .cases he'
  .cases he
 .unfold seenM at he
  split at he
  .rename_i h
   cases he
   obtain⟨c,t,fr,h1⟩:=FP.1 h
   have:=(Array.getElem?_eq_some_iff.1 h1).1
   exact⟨this,this⟩
  .cases he
 .unfold seenM at he
  split at he
  .cases he
   cases hro
  .cases he
theorem Ap9{W:World}:∀b e,seenM W b=some e->e.ro=true:=fun b e h=>by
 unfold seenM at h
 split at h
 .cases h
  rfl
 .cases h
def seenA(W:World)(v:Value):Value:=match v with
 | .agg cs=>.agg (cs.toList.map (seenV W)).toArray
 | v=>seenV W v
theorem Aeu{W:World}(hg:isCells W 0=true)(v:Value):bH (seenM W) (seenA W v) v:=by
 unfold seenA
 split
 .rename_i cs
  refine .agg (by simp) fun i x x' hx hx'=>?_
  simp only[List.getElem?_toArray,List.getElem?_map,Array.getElem?_toList,hx',Option.map_some,Option.some.injEq] at hx
  subst hx
  exact Ks hg x'
 .exact Ks hg _
theorem Tm{W:World}(hg:isCells W 0=true)(vs:List Value):LRel (seenM W) (vs.map (seenA W)) vs:=by
 refine⟨by simp,fun i v v' h h'=>?_⟩
 rw[List.getElem?_map,h'] at h
 cases h
 exact Aeu hg v'
theorem Aev{W:World}{a:Addr}{len cap:Nat}{zs:List Int}(hl:len<=cap)(hz:zs.length=cap)(hc:∀i,i<zs.length->W.cell? (a.add i)=some (.int .i64 (zs.getD i 0))):
  ∃p c,seenV W (.slice (some a) len cap)=.slice p len c/\Ints (seenS W) p (zs.take len)/\(zs.take len).length=len/\∀q,p=some q->q.block=0\/isCells W q.block=true:=by
 have hlen:(zs.take len).length=len:=by rw[List.length_take];omega
 by_cases h0:len=0/\cap=0
 .obtain⟨rfl,rfl⟩:=h0
  refine⟨some ⟨0,0,none⟩,0,rfl,fun i n h=>by simp at h,hlen,fun q hq=>.inl (by cases hq;rfl)⟩
 .have hfirst:=hc 0 (by omega)
  have ha0:a.add 0=a:=by unfold Addr.add;rw[if_pos rfl]
  rw[ha0] at hfirst
  obtain⟨hs,hcl,c,t,fr,hb,_⟩:=Ez hfirst
  refine⟨some ⟨a.block,a.off,none⟩,cap,?_,fun i n h=>?_,hlen,fun q hq=>.inr (by cases hq;exact hcl)⟩
  .unfold seenV
   simp only
   rw[if_neg h0,if_pos ⟨hs,hcl⟩]
  .refine⟨a.block,a.off,_,rfl,IL hb,?_⟩
   have hi:i<len:=by
    have:=(List.getElem?_eq_some_iff.1 h).1
    omega
   have h1:=hc i (by omega)
   have hadd:a.add i=⟨a.block,a.off+i,none⟩:=by
    unfold Addr.add
    by_cases hi0:i=0
    .rw[if_pos hi0]
     subst hi0
     obtain⟨x,y,z⟩:=a
     cases hs
     rfl
    .rw[if_neg hi0]
   rw[hadd] at h1
   obtain⟨_,_,c',t',fr',hb',hcv⟩:=Ez h1
   simp only at hb' hcv
   rw[hb] at hb'
   cases hb'
   rw[List.getElem?_map,Array.getElem?_toList,hcv]
   rw[List.getElem?_take,if_pos hi] at h
   rw[List.getD_eq_getElem?_getD,h]
   rfl
noncomputable def fieldsD:Array Field:=match Tryz.prog.underlying TD with
 | some (.struct fs)=>fs
 | _=>#[]
theorem Ku:Tryz.prog.underlying TD=some (.struct fieldsD):=by kernel_rfl
theorem WG:Tryz.prog.underlying TL=some (.slice TD):=by kernel_rfl
theorem Tp:Tryz.prog.underlying TI=some (.int .i64):=by kernel_rfl
theorem AaX:Tryz.prog.underlying 9=some .string:=by kernel_rfl
theorem AcH:(fieldsD[0]?).map (fun f=>(f.type,f.offset))=some (TI,0):=by kernel_rfl
theorem AcI:(fieldsD[1]?).map (fun f=>(f.type,f.offset))=some (TI,1):=by kernel_rfl
theorem AcJ:(fieldsD[2]?).map (fun f=>(f.type,f.offset))=some (9,2):=by kernel_rfl
theorem AcK:(fieldsD[3]?).map (fun f=>(f.type,f.offset))=some (TL,3):=by kernel_rfl
theorem F6:Tryz.prog.cellsOf TD=4:=by kernel_rfl
theorem TJ:Tryz.prog.cellsOf TI=1:=by kernel_rfl
theorem LM:Tryz.prog.cellsOf 9=1:=by kernel_rfl
theorem PW:Tryz.prog.cellsOf TL=1:=by kernel_rfl
theorem Hd{α:Type}{P:Nat->α->Prop}:∀(n:Nat),(∀i,i<n->∃d,P i d)->∃ds:List α,ds.length=n/\∀i d,ds[i]? = some d->P i d
 | 0,_=>⟨[],rfl,fun i d h=>by simp at h⟩
 | n+1,h=>by
  obtain⟨ds,h1,h2⟩:=Hd n fun i hi=>h i (by omega)
  obtain⟨d,hd⟩:=h n (by omega)
  refine⟨ds++[d],by simp[h1],fun i e he=>?_⟩
  by_cases hi:i<ds.length
  .rw[List.getElem?_append_left hi] at he
   exact h2 i e he
  .rw[List.getElem?_append_right (by omega)] at he
   have:i-ds.length=0:=by
    have:=(List.getElem?_eq_some_iff.1 he).1
    simp at this
    omega
   rw[this] at he
   cases he
   obtain rfl:i=n:=by omega
   exact hd
theorem Iy{R:Nat->Prop}{Z:aC}{b off:Nat}{cs:List Value}(hb:Z.cells b=some cs)(hR:R b):∀(es:List D) (i:Nat),(∀j e,es[j]? = some e->4<=cs.length-(off+(i+j)*4)/\aL R Z (.agg ((cs.drop (off+(i+j)*4)).take 4).toArray) e)->aO R Z (some ⟨b,off,none⟩) i es
 | [],_,_=>trivial
 | e::es,i,h=>by
  have h0:=h 0 e rfl
  refine⟨⟨b,off,cs,rfl,hR,hb,h0.1,h0.2⟩,Iy hb hR es (i+1) fun j e' he=>?_⟩
  have:=h (j+1) e' (by simpa using he)
  rwa [show i+(j+1)=i+1+j by omega] at this
theorem IM{a:Addr}(h:a.spot=none)(n:Nat):a.add n=⟨a.block,a.off+n,none⟩:=by
 unfold Addr.add
 by_cases hn:n=0
 .rw[if_pos hn]
  subst hn
  obtain⟨x,y,z⟩:=a
  cases h
  rfl
 .rw[if_neg hn]
theorem Aa7{W:World}{b o:Nat}{c:Array Value}{t:TypeId}{fr:Nat×Nat}(h:W.heap[b]? = some (.cells c t fr)):W.cell? ⟨b,o,none⟩=c[o]?:=by
 unfold World.cell?
 simp only[h]
 rfl
theorem Afr{i t o:Nat}(h:(fieldsD[i]?).map (fun f=>(f.type,f.offset))=some (t,o)):∃f,fieldsD[i]? = some f/\f.type=t/\f.offset=o:=by
 cases hf:fieldsD[i]? with
 | none=>rw[hf] at h;cases h
 | some f=>
  rw[hf] at h
  cases h
  exact⟨f,rfl,rfl,rfl⟩
theorem Ac0{α:Type}{l:List α}(h:l.length=4):∃a b c d,l=[a,b,c,d]:=by
 match l,h with
 | [a,b,c,d],_=>exact⟨a,b,c,d,rfl⟩
theorem NL{H:Type}{enc:TypeId×Value->H}{W:World}{held:Bool}:∀(n:Nat) (cs:List Value) (x:DataW H×List MemPlace),DataW.trod enc Tryz.prog W 0 (fun _=>true) held n TD cs=some x->
  cs.length=4/\∃d:D,aL (fun b=>b<W.heap.size) (seenS W) (.agg (cs.map (seenV W)).toArray) d:=by
 intro n
 induction n with
 | zero=>intro cs x h;simp[DataW.trod] at h
 | succ n ih=>
  intro cs x h
  obtain⟨xs,m,hm,hx,hl,hxl,hf⟩:=DataW.trod_struct Ku h
  obtain rfl:m=n:=by omega
  rw[F6] at hl
  refine⟨hl,?_⟩
  have hsz:fieldsD.size=4:=by kernel_rfl
  rw[hsz] at hxl
  obtain⟨c0,c1,c2,c3,rfl⟩:=Ac0 hl
  have get:∀ {i t o:Nat},(fieldsD[i]?).map (fun f=>(f.type,f.offset))=some (t,o)->∃y,DataW.trod enc Tryz.prog W 0 (fun _=>true) held m t (([c0,c1,c2,c3].drop o).take (Tryz.prog.cellsOf t))=some y:=fun {i t o} hi=>by
   obtain⟨f,h1,h2,h3⟩:=Afr hi
   have:=hf i f h1
   rw[h2,h3] at this
   have hlt:i<xs.length:=by
    have:=(Array.getElem?_eq_some_iff.1 h1).1
    omega
   exact⟨xs[i],by rw[this,List.getElem?_eq_getElem hlt]⟩
  obtain⟨y0,h0⟩:=get AcH
  obtain⟨y1,h1⟩:=get AcI
  obtain⟨y2,h2⟩:=get AcJ
  obtain⟨y3,h3⟩:=get AcK
  rw[TJ] at h0 h1
  rw[LM] at h2
  rw[PW] at h3
  obtain⟨k,e0,_,_⟩:=DataW.trod_int Tp h0
  obtain⟨z,e1,_,_⟩:=DataW.trod_int Tp h1
  obtain⟨t,e2,_,_⟩:=DataW.trod_string AaX h2
  obtain rfl:c0=.int .i64 k:=by simpa using e0
  obtain rfl:c1=.int .i64 z:=by simpa using e1
  obtain rfl:c2=.string t:=by simpa using e2
  rcases DataW.trod_slice WG h3 with⟨e3,_⟩|⟨a,len,cap,elems,rest,m',hm',e3,_,_,hle,hmx,hel,hes,hsp,_⟩
  .obtain rfl:c3=.slice none 0 0:=by simpa using e3
   exact⟨.mk k z t [],none,0,rfl,trivial⟩
  .obtain rfl:c3=.slice (some a) len cap:=by simpa using e3
   obtain⟨hrl,hrs⟩:=hsp rfl
   rw[F6] at hes hrs
   by_cases h00:len=0/\cap=0
   .obtain⟨rfl,rfl⟩:=h00
    exact⟨.mk k z t [],some ⟨0,0,none⟩,0,rfl,trivial⟩
   .have hfirst:∃v,W.cell? a=some v:=by
     have ha0:a.add 0=a:=by unfold Addr.add;rw[if_pos rfl]
     have key:∀ {y:DataW H×List MemPlace},(W.cells? 0 (a.add 0) 4).bind (DataW.trod enc Tryz.prog W 0 (fun _=>true) held m' TD)=some y->∃v,W.cell? a=some v:=fun hb=>by
      rw[Option.bind_eq_some_iff] at hb
      obtain⟨cs',hc',_⟩:=hb
      obtain⟨_,hl',hg⟩:=World.cells?_some hc'
      have:=hg 0 (by omega)
      rw[ha0,ha0,List.getElem?_eq_getElem (by omega)] at this
      exact⟨_,this⟩
     by_cases hl0:0<len
     .have:=hes 0 hl0
      rw[Nat.zero_mul,List.getElem?_eq_getElem (by omega)] at this
      exact key this
     .have:=hrs 0 (by omega)
      obtain rfl:len=0:=by omega
      rw[Nat.add_zero,Nat.zero_mul,List.getElem?_eq_getElem (by omega)] at this
      exact key this
    obtain⟨v0,hv0⟩:=hfirst
    obtain⟨hsn,hic,c,ty,fr,hb,_⟩:=Ez hv0
    have hlt:a.block<W.heap.size:=(Array.getElem?_eq_some_iff.1 hb).1
    have hσ:=IL hb
    have each:∀i,i<len->∃d:D,4<=(c.toList.map (seenV W)).length-(a.off+i*4)/\aL (fun b=>b<W.heap.size) (seenS W) (.agg (((c.toList.map (seenV W)).drop (a.off+i*4)).take 4).toArray) d:=fun i hi=>by
     have hb':=hes i hi
     rw[List.getElem?_eq_getElem (by omega),Option.bind_eq_some_iff] at hb'
     obtain⟨cs',hc',ht'⟩:=hb'
     obtain⟨_,hl',hg⟩:=World.cells?_some hc'
     have hcell:∀j,j<4->c[a.off+i*4+j]? = cs'[j]?:=fun j hj=>by
      have:=hg j hj
      rw[IM hsn,IM rfl,Aa7 hb] at this
      exact this
     obtain⟨_,d,hd⟩:=ih cs' _ (by obtain rfl:m'+1=m:=hm'.symm;exact DataW.trod_le (Nat.le_succ _) ht')
     have h3':=hcell 3 (by omega)
     rw[List.getElem?_eq_getElem (by omega)] at h3'
     have hsz':=(Array.getElem?_eq_some_iff.1 h3').1
     refine⟨d,by simp;omega,?_⟩
     have e:((c.toList.map (seenV W)).drop (a.off+i*4)).take 4=cs'.map (seenV W):=by
      apply List.ext_getElem?
      intro j
      rw[List.getElem?_take]
      by_cases hj:j<4
      .rw[if_pos hj,List.getElem?_drop,List.getElem?_map,Array.getElem?_toList,hcell j hj,List.getElem?_map]
      .rw[if_neg hj,List.getElem?_eq_none (by simp;omega)]
     rw[e]
     exact hd
    obtain⟨ds,hds,hD⟩:=Hd len each
    refine⟨.mk k z t ds,some ⟨a.block,a.off,none⟩,cap,?_,?_⟩
    .show Value.agg _=_
     have:seenV W (.slice (some a) len cap)=.slice (some ⟨a.block,a.off,none⟩) len cap:=by
      unfold seenV
      simp only
      rw[if_neg h00,if_pos ⟨hsn,hic⟩]
     rw[hds]
     simp only[List.map_cons,List.map_nil,this]
     rfl
    .refine Iy hσ hlt ds 0 fun j e he=>?_
     rw[Nat.zero_add]
     exact hD j e he
end
section
open Go Go.Eng Go.ChangeShapes Go.WideShapes Go.RowKit
abbrev Fine4(W:World)(e:Ending)(W':World):Prop:=e=.returned (.bool true)/\W'.os=W.os/\W'.output=W.output/\W'.tape=W.tape/\W.heap.size<=W'.heap.size/\∀i,i<W.heap.size->W'.heap[i]? = W.heap[i]?
theorem AfI{f:FuncId}{fn:Func}{body:Code}(hf:Tryz.prog.funcs[f]? = some fn)(hb:fn.body=some body)(n:Nat)(W:World)(vs:List Value)(hg:W.cell? ⟨0,0,none⟩=some handle)(h:∃V,bD Tryz.prog nls (top n) f (vs.map (seenA W)) none (seenS W)=.ret (.bool true) none V):Calls Tryz.prog f vs.toArray W (Fine4 W):=
 AcY hf hb n (seenS W) (seenM W) W (vs.map (seenA W)) vs.toArray hg (Am5 (Ez hg).2.1) (by simpa using Tm (Ez hg).2.1 vs) Ap9 h
theorem Oq{H:Type}{enc:TypeId×Value->H}{W:World}{v:Value}{d:DataW H}{p:List MemPlace}(h:DataW.Trod enc Tryz.prog W 0 (fun _=>true) true TD v d p)(hv:∃cs,v=.agg cs/\cs.size=Tryz.prog.cellsOf TD):
  ∃(lv:List Value) (x:D),seenA W v=.agg lv.toArray/\lv.length=4/\aL (fun b=>b<(seenS W).next) (seenS W) (.agg lv.toArray) x:=by
 obtain⟨cs,rfl,_⟩:=hv
 obtain⟨fuel,h⟩:=h
 obtain⟨hl,x,hx⟩:=NL fuel _ _ h
 have hl':cs.toList.length=4:=hl
 exact⟨_,x,rfl,by simpa using hl',hx⟩
theorem AeK{H:Type}{enc:TypeId×Value->H}{W:World}{v:Value}{d:DataW H}{p:List MemPlace}(hg:W.cell? ⟨0,0,none⟩=some handle)(h:DataW.Trod enc Tryz.prog W 0 (fun _=>true) true 25 v d p)(hv:∃a len cap,v=.slice a len cap):
  ∃(q:Option Addr) (l:List Int) (cp:Nat),seenA W v=.slice q l.length cp/\l.length<9223372036854775808/\Ints (seenS W) q l/\∀a,q=some a->a.block<(seenS W).next:=by
 obtain⟨a0,len0,cap0,rfl⟩:=hv
 obtain⟨fuel,h⟩:=h
 have und:Tryz.prog.underlying 25=some (.slice TI):=by kernel_rfl
 rcases open_ints und Tp (by kernel_rfl) h with⟨hc,hx⟩|⟨a,len,cap,zs,hc,hb,hl,hm,hz,hx,hcell,hwf⟩
 .have hv:Value.slice a0 len0 cap0=.slice none 0 0:=by simpa [Value.cells] using hc
  rw[hv]
  exact⟨none,[],0,rfl,by simp,fun i n h=>by simp at h,fun a h=>by cases h⟩
 .have hv:Value.slice a0 len0 cap0=.slice (some a) len cap:=by simpa [Value.cells] using hc
  rw[hv]
  rw[if_pos rfl] at hz
  obtain⟨q,c,h1,h2,h3,h4⟩:=Aev hl hz hcell
  refine⟨q,zs.take len,c,by rw[h3];exact h1,by unfold maxLen at hm;omega,h2,fun b hb=>?_⟩
  have hgs:isCells W 0=true:=(Ez hg).2.1
  have key:isCells W b.block=true:=by
   rcases h4 b hb with h|h
   .rw[h];exact hgs
   .exact h
  obtain⟨c',t',fr',h5⟩:=FP.1 key
  exact(Array.getElem?_eq_some_iff.1 h5).1
end
section
open Go Go.Eng Go.ChangeShapes Go.WideShapes Go.RowKit
attribute [local congr] Aa Af Ae Ab Ad
attribute [-go_sem] List.range_succ
theorem AeJ{H:Type}{enc:TypeId×Value->H}{W:World}{v:Value}{d:DataW H}{p:List MemPlace}(h:DataW.Trod enc Tryz.prog W 0 (fun _=>true) true TL v d p)(hv:∃a len cap,v=.slice a len cap):
  ∃(q:Option Addr) (es:List D) (cp:Nat),seenA W v=.slice q es.length cp/\aO (fun b=>b<(seenS W).next) (seenS W) q 0 es:=by
 obtain⟨a0,len0,cap0,rfl⟩:=hv
 obtain⟨fuel,h⟩:=h
 rcases DataW.trod_slice WG h with⟨e3,_⟩|⟨a,len,cap,elems,rest,m',hm',e3,_,_,hle,hmx,hel,hes,hsp,_⟩
 .have hv:Value.slice a0 len0 cap0=.slice none 0 0:=by simpa [Value.cells] using e3
  rw[hv]
  exact⟨none,[],0,rfl,trivial⟩
 .have hv:Value.slice a0 len0 cap0=.slice (some a) len cap:=by simpa [Value.cells] using e3
  rw[hv]
  obtain⟨hrl,hrs⟩:=hsp rfl
  rw[F6] at hes hrs
  by_cases h00:len=0/\cap=0
  .obtain⟨rfl,rfl⟩:=h00
   exact⟨some ⟨0,0,none⟩,[],0,rfl,trivial⟩
  .have hfirst:∃v,W.cell? a=some v:=by
    have ha0:a.add 0=a:=by unfold Addr.add;rw[if_pos rfl]
    have key:∀ {y:DataW H×List MemPlace},(W.cells? 0 (a.add 0) 4).bind (DataW.trod enc Tryz.prog W 0 (fun _=>true) true m' TD)=some y->∃v,W.cell? a=some v:=fun hb=>by
     rw[Option.bind_eq_some_iff] at hb
     obtain⟨cs',hc',_⟩:=hb
     obtain⟨_,hl',hg⟩:=World.cells?_some hc'
     have:=hg 0 (by omega)
     rw[ha0,ha0,List.getElem?_eq_getElem (by omega)] at this
     exact⟨_,this⟩
    by_cases hl0:0<len
    .have:=hes 0 hl0
     rw[Nat.zero_mul,List.getElem?_eq_getElem (by omega)] at this
     exact key this
    .have:=hrs 0 (by omega)
     obtain rfl:len=0:=by omega
     rw[Nat.add_zero,Nat.zero_mul,List.getElem?_eq_getElem (by omega)] at this
     exact key this
   obtain⟨v0,hv0⟩:=hfirst
   obtain⟨hsn,hic,c,ty,fr,hb,_⟩:=Ez hv0
   have hlt:a.block<W.heap.size:=(Array.getElem?_eq_some_iff.1 hb).1
   have hσ:=IL hb
   have each:∀i,i<len->∃d:D,4<=(c.toList.map (seenV W)).length-(a.off+i*4)/\aL (fun b=>b<W.heap.size) (seenS W) (.agg (((c.toList.map (seenV W)).drop (a.off+i*4)).take 4).toArray) d:=fun i hi=>by
    have hb':=hes i hi
    rw[List.getElem?_eq_getElem (by omega),Option.bind_eq_some_iff] at hb'
    obtain⟨cs',hc',ht'⟩:=hb'
    obtain⟨_,hl',hg⟩:=World.cells?_some hc'
    have hcell:∀j,j<4->c[a.off+i*4+j]? = cs'[j]?:=fun j hj=>by
     have:=hg j hj
     rw[IM hsn,IM rfl,Aa7 hb] at this
     exact this
    obtain⟨_,d,hd⟩:=NL _ cs' _ ht'
    have h3':=hcell 3 (by omega)
    rw[List.getElem?_eq_getElem (by omega)] at h3'
    have hsz':=(Array.getElem?_eq_some_iff.1 h3').1
    refine⟨d,by simp;omega,?_⟩
    have e:((c.toList.map (seenV W)).drop (a.off+i*4)).take 4=cs'.map (seenV W):=by
     apply List.ext_getElem?
     intro j
     rw[List.getElem?_take]
     by_cases hj:j<4
     .rw[if_pos hj,List.getElem?_drop,List.getElem?_map,Array.getElem?_toList,hcell j hj,List.getElem?_map]
     .rw[if_neg hj,List.getElem?_eq_none (by simp;omega)]
    rw[e]
    exact hd
   obtain⟨ds,hds,hD⟩:=Hd len each
   refine⟨some ⟨a.block,a.off,none⟩,ds,cap,?_,?_⟩
   .show seenV W (.slice (some a) len cap)=_
    rw[hds]
    unfold seenV
    simp only
    rw[if_neg h00,if_pos ⟨hsn,hic⟩]
   .exact Iy hσ hlt ds 0 fun j e he=>by
     rw[Nat.zero_add]
     exact hD j e he
structure HeadVs (q:Option Addr) (c:Nat) (es:List D) (v3 v4 v5:Value) (bU:aC) (i:Nat) (f:Nat->Value) (Z:aC):Prop where
 f2:f 2=.slice q es.length c
 f3:f 3=v3
 f4:f 4=v4
 f5:f 5=v5
 f9:f 9=.int .i64 (.ofNat i)
 wf:Wf Z
 ext:Ext bU Z
theorem Aqi(N:Nat)(keep:List Nat){q:Option Addr}{c:Nat}{es:List D}{v3 v4 v5:Value}{bU:aC}(hlen:es.length<1000000)(hw0:Wf bU)(hE:aO (fun b=>b<bU.next) bU q 0 es):
  ∀(j fuel i:Nat) (f g:Nat->Value) (Z:aC),i+j=es.length->j<fuel->HeadVs q c es v3 v4 v5 bU i f Z->
   ((∀e∈es.drop i,vastB e=false)/\∃f' g' V,floop keep (UN (top (N+6000)) none 4) fuel (Sl 31 220 f g []) none Z=.done (.exit 0) (Sl 31 220 f' g' []) none V/\HeadVs q c es v3 v4 v5 bU es.length f' V)\/
   ∃f' g' V,floop keep (UN (top (N+6000)) none 4) fuel (Sl 31 220 f g []) none Z=.done .ret (Sl 31 220 f' g' []) none V/\f' 8=.bool true:=by
 intro j
 induction j with
 | zero=>
  intro fuel i f g Z hij hf h
  obtain⟨fuel,rfl⟩:∃q,fuel=q+1:=⟨fuel-1,by omega⟩
  obtain rfl:i=es.length:=by omega
  have d1:decide (Int.ofNat es.length<Int.ofNat es.length)=false:=by simp
  refine .inl ⟨fun e he=>by rw[List.drop_length] at he;simp at he,?_⟩
  rw[Ao]
  unfold UN
  simp -implicitDefEqProofs only[go_sem,Sh,VI,h.f2,h.f9,d1]
  exact⟨_,_,_,rfl,h⟩
 | succ j ih=>
  intro fuel i f g Z hij hf h
  obtain⟨fuel,rfl⟩:∃q,fuel=q+1:=⟨fuel-1,by omega⟩
  have hi:i<es.length:=by omega
  have d1:decide (Int.ofNat i<Int.ofNat es.length)=true:=by simp;omega
  obtain⟨b,off,cs,rfl,hRb,hcs0,hle,hL0⟩:=aO.get hE (List.getElem?_eq_getElem hi)
  rw[Nat.zero_add] at hle hL0
  have hcs:=(h.ext.cells (hw0.cells hcs0)).trans hcs0
  have a1:=Ga i (by omega)
  have n1:(List.take 4 (List.drop (off+i*4) cs)).length=4:=by rw[List.length_take,List.length_drop];omega
  obtain⟨_,a_,e1,x1,hw1,rfl⟩:=Ach (N+5848) (fun b=>b<bU.next) es[i] _ n1 Z h.wf (hL0.keep fun b cs hb hc=>⟨(h.ext.cells (hw0.cells hc)).trans hc,hb⟩)
  rw[show N+5848+152=N+6000 by omega] at e1
  replace e1:=(C9 (N+6000) 6 _ Z rfl).trans e1
  cases hv:vastB es[i] with
  | true=>
   rw[hv] at e1
   refine .inr ?_
   rw[Ao]
   unfold UN
   simp -implicitDefEqProofs only[go_sem,Sh,VI,Ab2,Ab1,ApZ,Aky,h.f2,h.f9,d1,hi,hcs,hle,e1,Gt]
   exact⟨_,_,_,rfl,by simp -implicitDefEqProofs only[go_sem,reduceCtorEq]⟩
  | false=>
   rw[hv] at e1
   have ih':=fun f g hh=>ih fuel (i+1) f g a_ (by omega) (by omega) hh
   unfold UN at ih'
   rw[Ao]
   unfold UN
   simp -implicitDefEqProofs only[go_sem,Sh,VI,ApY,Akx,Ab2,Ab1,h.f2,h.f9,d1,hi,hcs,hle,e1,a1,Ag,Bool.false_eq_true]
   generalize hff:upd _ 9 _=f1
   generalize hgg:upd _ 48 _=g1
   rcases ih' f1 g1 {
    f2:=by rw[<-hff];simp -implicitDefEqProofs only[go_sem,reduceCtorEq,h.f2]
    f3:=by rw[<-hff];simp -implicitDefEqProofs only[go_sem,reduceCtorEq,h.f3]
    f4:=by rw[<-hff];simp -implicitDefEqProofs only[go_sem,reduceCtorEq,h.f4]
    f5:=by rw[<-hff];simp -implicitDefEqProofs only[go_sem,reduceCtorEq,h.f5]
    f9:=by rw[<-hff];simp -implicitDefEqProofs only[go_sem,reduceCtorEq]
    wf:=hw1
    ext:=h.ext.trans x1 } with⟨h1,h2⟩|h2
   .exact .inl ⟨fun e he=>by
     rw[List.drop_eq_getElem_cons hi] at he
     rcases List.mem_cons.1 he with rfl|he
     .exact hv
     .exact h1 e he,h2⟩
   .exact .inr h2
theorem Xs(q:Nat)(la lb:List Value)(a b:D)(pe pn:Option Addr)(es:List D)(ln:List Int)(ce cpn:Nat)(hl:ln.length<9223372036854775808)(Z:aC)(hw:Wf Z)(hEs:aO (fun b=>b<Z.next) Z pe 0 es)(hI:Ints Z pn ln)(hp:∀a,pn=some a->a.block<Z.next)(ha4:la.length=4)(hb4:lb.length=4)(hA:aL (fun b=>b<Z.next) Z (.agg la.toArray) a)(hB:aL (fun b=>b<Z.next) Z (.agg lb.toArray) b):
  ∃V,bD Tryz.prog nls (top (q+6000)) 4 [.agg la.toArray,.agg lb.toArray,.slice pe es.length ce,.slice pn ln.length cpn] none Z=.ret (.bool true) none V:=by
 have hta:la.take 4=la:=List.take_of_length_le (by omega)
 have htb:lb.take 4=lb:=List.take_of_length_le (by omega)
 have x1:Ext Z ((Z.push (.cells la TD) none).push (.cells lb TD) none):=((Ext.refl _).push _ _).push _ _
 have hw1:=(hw.push (.cells la TD) none).push (.cells lb TD) none
 have c4:((Z.push (.cells la TD) none).push (.cells lb TD) none).cells Z.next=some la:=by rw[Ah,if_neg (by rw[Ac];omega),Ah,if_pos rfl];rfl
 have c5:((Z.push (.cells la TD) none).push (.cells lb TD) none).cells (Z.next+1)=some lb:=by rw[Ah,if_pos (by rw[Ac])];rfl
 have VAc:∀(d:D) (wv:List Value) (hw4:wv.length=4) (τ:aC),Wf τ->aL (fun b=>b<τ.next) τ (.agg wv.toArray) d->∃τ',(top (q+6000)).call 6 [.agg wv.toArray] none τ=.ret (.bool (vastB d)) none τ'/\Ext τ τ'/\Wf τ':=fun d wv hw4 τ hwt hLd=>by
  obtain⟨_,τ',e,x,w,rfl⟩:=Ach (q+5848) _ d wv hw4 τ hwt hLd
  rw[show q+5848+152=q+6000 by omega] at e
  exact⟨τ',(C9 _ _ _ _ rfl).trans e,x,w⟩
 have small:∀ {d:D},vastB d=false->d.count<=150:=fun h=>by
  unfold vastB at h
  rw[Bool.or_eq_false_iff,decide_eq_false_iff_not] at h
  omega
 have step:∀ {τ τ':aC},Ext τ τ'->Wf τ->∀ {v:Value} {d:D},aL (fun b=>b<τ.next) τ v d->aL (fun b=>b<τ'.next) τ' v d:=fun hX hw v d h=>h.keep fun b cs hb hc=>⟨(hX.cells hb).trans hc,by have:=hX.next;omega⟩
 rw[Avo _ _ _ _ (by simp),Aj,AaP]
 generalize hS:((Z.push (.cells la TD) none).push (.cells lb TD) none)=a_ at x1 hw1 c4 c5
 obtain⟨a9,e2,x2,hw2⟩:=VAc a la ha4 a_ hw1 (step x1 hw hA)
 have d5:=(x2.cells (hw1.cells c5)).trans c5
 cases hva:vastB a with
 | true=>
  rw[hva] at e2
  simp -implicitDefEqProofs only[go_sem,LB,PB,LC,PD,Sg,VH,hS,c4,ha4,hta,e2,Gt,Nat.le_refl]
  exact⟨_,rfl⟩
 | false=>
  rw[hva] at e2
  have X2:=x1.trans x2
  obtain⟨bT,e3,x3,hw3⟩:=VAc b lb hb4 a9 hw2 (step X2 hw hB)
  have X3:=X2.trans x3
  have X23:=x2.trans x3
  cases hvb:vastB b with
  | true=>
   rw[hvb] at e3
   simp -implicitDefEqProofs only[go_sem,LB,PB,LC,PD,Sg,VH,hS,c4,d5,ha4,hb4,hta,htb,e2,e3,Gt,Nat.le_refl]
   exact⟨_,rfl⟩
  | false=>
   rw[hvb] at e3
   by_cases h8:es.length<=8
   .have d0:decide (Int.ofNat es.length>8)=false:=by simp only[Int.ofNat_eq_natCast,decide_eq_false_iff_not];omega
    simp -implicitDefEqProofs only[go_sem,LB,PB,LC,PD,ApX,Akw,hS,c4,d5,ha4,hb4,hta,htb,e2,e3,d0,Ag,Nat.le_refl]
    generalize hff:upd _ 9 _=f1
    generalize hgg:upd _ 41 _=g1
    generalize hbf:bF=fuel
    have hE3:aO (fun b=>b<bT.next) bT pe 0 es:=hEs.keep fun b cs hb hc=>⟨(X3.cells hb).trans hc,by have:=X3.next;omega⟩
    have hloop:=Aqi q (bE nls 4) (c:=ce) (v3:=.slice pn ln.length cpn) (v4:=.pointer (some ⟨Z.next,0,none⟩)) (v5:=.pointer (some ⟨Z.next+1,0,none⟩)) (by omega) hw3 hE3 es.length fuel 0 f1 g1 bT (by omega) (by rw[<-hbf];show es.length<1000000000000;omega) {
     f2:=by rw[<-hff];simp -implicitDefEqProofs only[go_sem,reduceCtorEq]<;>rfl
     f3:=by rw[<-hff];simp -implicitDefEqProofs only[go_sem,reduceCtorEq]<;>rfl
     f4:=by rw[<-hff];simp -implicitDefEqProofs only[go_sem,reduceCtorEq]
     f5:=by rw[<-hff];simp -implicitDefEqProofs only[go_sem,reduceCtorEq]
     f9:=by rw[<-hff];simp -implicitDefEqProofs only[go_sem,reduceCtorEq]<;>rfl
     wf:=hw3
     ext:=Ext.refl _ }
    clear hff hgg
    rw[List.drop_zero] at hloop
    rcases hloop with⟨hall,f2,g2,bX,r1,h4⟩|⟨f2,g2,bX,r1,h4⟩
    .rw[r1]
     simp -implicitDefEqProofs only[go_sem]
     have X4:=X3.trans h4.ext
     have X14:=X23.trans h4.ext
     have hI4:Ints bX pn ln:=fun i n h=>by
      obtain⟨b,off,cs,h1,h2,h3⟩:=hI i n h
      exact⟨b,off,cs,h1,(X4.cells (hw.cells h2)).trans h2,h3⟩
     exact Ac1 q Z.next (Z.next+1) a b la lb ha4 hb4 pe pn es ln ce cpn h8 (fun e he=>small (hall e he)) hl f2 g2 bX h4.wf hI4 (fun a h=>by have:=hp a h;have:=X4.next;omega) ((X14.cells (hw1.cells c4)).trans c4) ((X14.cells (hw1.cells c5)).trans c5) (step X4 hw hA) (step X4 hw hB) (hEs.keep fun b cs hb hc=>⟨(X4.cells hb).trans hc,by have:=X4.next;omega⟩) (small hva) (small hvb) h4.f2 h4.f3 h4.f4 h4.f5
    .rw[r1]
     simp -implicitDefEqProofs only[go_sem,h4]
     exact⟨_,rfl⟩
   .have d0:decide (Int.ofNat es.length>8)=true:=by simp only[Int.ofNat_eq_natCast,decide_eq_true_eq];omega
    simp -implicitDefEqProofs only[go_sem,LB,PB,LC,PD,Sg,VH,hS,c4,d5,ha4,hb4,hta,htb,e2,e3,d0,Gt,Nat.le_refl]
    exact⟨_,rfl⟩
theorem UW{H:Type}{enc:TypeId×Value->H}(W:World)(hg:W.cell? ⟨0,0,none⟩=some handle){v0 v1 v2 v3:Value}{d0 d1 d2 d3:DataW H}{p0 p1 p2 p3:List MemPlace}(h0:DataW.Trod enc Tryz.prog W 0 (fun _=>true) true TD v0 d0 p0)(h1:DataW.Trod enc Tryz.prog W 0 (fun _=>true) true TD v1 d1 p1)(h2:DataW.Trod enc Tryz.prog W 0 (fun _=>true) true 22 v2 d2 p2)(h3:DataW.Trod enc Tryz.prog W 0 (fun _=>true) true 25 v3 d3 p3)(k0:∃cs,v0=.agg cs/\cs.size=Tryz.prog.cellsOf TD)(k1:∃cs,v1=.agg cs/\cs.size=Tryz.prog.cellsOf TD)(k2:∃a len cap,v2=.slice a len cap)(k3:∃a len cap,v3=.slice a len cap):
  Calls Tryz.prog 4 #[v0,v1,v2,v3] W (Fine4 W):=by
 obtain⟨la,a,ea,ha4,hA⟩:=Oq h0 k0
 obtain⟨lb,b,eb,hb4,hB⟩:=Oq h1 k1
 obtain⟨qo,lo,cpo,ec,hEs⟩:=AeJ h2 k2
 obtain⟨q,l,cp,el,hl,hI,hq⟩:=AeK hg h3 k3
 refine AfI Tryz.func4 rfl 6000 W [v0,v1,v2,v3] hg ?_
 have e:[v0,v1,v2,v3].map (seenA W)=[.agg la.toArray,.agg lb.toArray,.slice qo lo.length cpo,.slice q l.length cp]:=by simp only[List.map_cons,List.map_nil,ea,eb,ec,el]
 rw[e]
 obtain⟨V,h⟩:=Xs 0 la lb a b qo q lo l cpo cp hl (seenS W) (Ace W) hEs hI hq ha4 hb4 hA hB
 exact⟨V,by rwa [Nat.zero_add] at h⟩
end
end Go.Proofs.YtknnbjmcfibpgaaGreatDoor
end
