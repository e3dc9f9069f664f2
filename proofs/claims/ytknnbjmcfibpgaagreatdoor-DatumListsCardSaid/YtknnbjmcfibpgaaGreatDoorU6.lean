import Derived.Test.YtknnbjmcfibpgaaGreatDoorU3
import Derived.Test.YtknnbjmcfibpgaaGreatDoorU5
import Derived.Test.YtknnbjmcfibpgaaGreatDoorU4
set_option linter.unusedSimpArgs false
set_option linter.unusedVariables false
noncomputable section
namespace Go.Proofs.YtknnbjmcfibpgaaGreatDoor
section
open Go Go.Eng
variable (E:Env) (ro:Option Nat) (last:List Nat->aZ) (cl:List Nat) (a:aY) (u:Option FrameMode) (Z:aC)
def SS(_:Unit):List COp:=[⟨fun a Z=>fbox 24 (a.get 0) Z,some 2,tT⟩,
 ⟨fun a Z=>fbox 24 (a.get 1) Z,some 3,tT⟩,
 ⟨fun a Z=>.val (.int .i64 0) Z,some 4,tT⟩]
def AtY:List COp:=SS ()
def ST(_:Unit):List COp:=[⟨fun a Z=>aG (some 4) (a.get 2) Z,some 6,tT⟩,
 ⟨fun a Z=>.enter 16 [(a.get 6)] Z,some 7,tT⟩,
 ⟨fun a Z=>.val (a.get 7) Z,some 5,tT⟩]
def AtZ:List COp:=ST ()
def SU(_:Unit):List COp:=[⟨fun a Z=>.val (a.get 5) Z,some 8,tT⟩,
 ⟨fun a Z=>i_neq Tryz.prog 32 (.tmp 8) (.const (.int .i64 0)) (a.get 8) (.int .i64 0) Z,some 9,tT⟩]
def At0:List COp:=SU ()
def Z1(_:Unit):List COp:=[⟨fun a Z=>.val (a.get 5) Z,some 10,tT⟩,
 ⟨fun a Z=>.val (a.get 10) Z,some 4,tT⟩]
def At1:List COp:=Z1 ()
def Z2(_:Unit):List COp:=[⟨fun a Z=>aG (some 4) (a.get 3) Z,some 11,tT⟩,
 ⟨fun a Z=>.enter 16 [(a.get 11)] Z,some 12,tT⟩,
 ⟨fun a Z=>.val (a.get 12) Z,some 4,tT⟩]
def At2:List COp:=Z2 ()
def AmW(E:Env)(ro:Option Nat)(fn:FuncId):aZ:=(aF (aD E ro AtY) (aF (aF (aD E ro AtZ) (aF (aD E ro At0) (aN (fun a=>(a.get 9)) (aF (aD E ro At1) bL) aV))) (aF (aD E ro At2) bL)))
theorem Wd:aD E ro AtY a u Z=aD E ro (SS ()) a u Z:=rfl
theorem We:aD E ro AtZ a u Z=aD E ro (ST ()) a u Z:=rfl
theorem Wg:aD E ro At0 a u Z=aD E ro (SU ()) a u Z:=rfl
theorem AlF:aD E ro At1 a u Z=aD E ro (Z1 ()) a u Z:=rfl
theorem AlG:aD E ro At2 a u Z=aD E ro (Z2 ()) a u Z:=rfl
theorem Avi(E:Env)(ro:Option Nat)(fn:FuncId):code Tryz.prog nls (Tryz.f89.body.getD .skip) E ro fn=AmW E ro fn:=by kernel_rfl
theorem AoK(E:Env)(args:List Value)(u:Option FrameMode)(Z:aC)(hn:args.length<=(6:Nat)):bD Tryz.prog nls E 89 args u Z=aP Tryz.prog E [.tmp 4] (AmW E none 89 ⟨bB undef 6 args,fun _=>undef,6,13,[]⟩ u Z):=by
 rw[Ap (body:=Tryz.f89.body.getD .skip) Tryz.func89 rfl E args u Z 6 13 (by kernel_rfl) rfl ⟨hn,by decide⟩,Avi]
 rfl
def SN(_:Unit):List COp:=[⟨fun a Z=>fbox 24 (a.get 0) Z,some 1,tT⟩,
 ⟨fun a Z=>aM [(.int .i64 0),(.int .i64 0),(.string ⟨#[]⟩),(.slice none 0 0)] 24 none Z,some 2,tT⟩,
 ⟨fun a Z=>.val (.int .i64 0) Z,some 3,tT⟩]
def AtK:List COp:=SN ()
def SP(_:Unit):List COp:=[⟨fun a Z=>aG (some 4) (a.get 1) Z,some 5,tT⟩,
 ⟨fun a Z=>.enter 75 [(a.get 5)] Z,some 6,tT⟩,
 ⟨fun a Z=>.val (a.get 6) Z,some 4,tT⟩]
def AtL:List COp:=SP ()
def SQ(_:Unit):List COp:=[⟨fun a Z=>.val (a.get 4) Z,some 7,tT⟩,
 ⟨fun a Z=>i_neq Tryz.prog 32 (.tmp 7) (.const (.int .i64 0)) (a.get 7) (.int .i64 0) Z,some 8,tT⟩]
def AtM:List COp:=SQ ()
def ZU(_:Unit):List COp:=[⟨fun a Z=>bP (fun i=>nth [(0,1),(1,1),(2,1),(3,1)] i) [(.int .i64 0),(.int .i64 0),(.string ⟨#[]⟩),(.slice none 0 0)] [] Z,some 9,tT⟩,
 ⟨fun a Z=>.val (a.get 4) Z,some 10,tT⟩,
 ⟨fun a Z=>aK 4 (a.get 2) (a.get 9) Z,none,tT⟩,
 ⟨fun a Z=>.val (a.get 10) Z,some 3,tT⟩]
def AtN:List COp:=ZU ()
def ZV(_:Unit):List COp:=[⟨fun a Z=>aG (some 4) (a.get 1) Z,some 11,tT⟩,
 ⟨fun a Z=>aK 4 (a.get 2) (a.get 11) Z,none,tT⟩,
 ⟨fun a Z=>.val (.int .i64 0) Z,some 3,tT⟩]
def AtO:List COp:=ZV ()
def AmT(E:Env)(ro:Option Nat)(fn:FuncId):aZ:=(aF (aD E ro AtK) (aF (aF (aD E ro AtL) (aF (aD E ro AtM) (aN (fun a=>(a.get 8)) (aF (aD E ro AtN) bL) aV))) (aF (aD E ro AtO) bL)))
theorem V8:aD E ro AtK a u Z=aD E ro (SN ()) a u Z:=rfl
theorem V9:aD E ro AtL a u Z=aD E ro (SP ()) a u Z:=rfl
theorem V_:aD E ro AtM a u Z=aD E ro (SQ ()) a u Z:=rfl
theorem Aly:aD E ro AtN a u Z=aD E ro (ZU ()) a u Z:=rfl
theorem Alz:aD E ro AtO a u Z=aD E ro (ZV ()) a u Z:=rfl
theorem Avf(E:Env)(ro:Option Nat)(fn:FuncId):code Tryz.prog nls (Tryz.f86.body.getD .skip) E ro fn=AmT E ro fn:=by kernel_rfl
theorem AoH(E:Env)(args:List Value)(u:Option FrameMode)(Z:aC)(hn:args.length<=(5:Nat)):bD Tryz.prog nls E 86 args u Z=aP Tryz.prog E [.cell 2 24,.tmp 3] (AmT E none 86 ⟨bB undef 5 args,fun _=>undef,5,12,[]⟩ u Z):=by
 rw[Ap (body:=Tryz.f86.body.getD .skip) Tryz.func86 rfl E args u Z 5 12 (by kernel_rfl) rfl ⟨hn,by decide⟩,Avf]
 rfl
def Rf(_:Unit):List COp:=[⟨fun a Z=>fbox 24 (a.get 0) Z,some 1,tT⟩,
 ⟨fun a Z=>.val (.int .i64 0) Z,some 2,tT⟩]
def Aqx:List COp:=Rf ()
def Rg(_:Unit):List COp:=[⟨fun a Z=>aG (some 4) (a.get 1) Z,some 4,tT⟩,
 ⟨fun a Z=>.enter 74 [(a.get 4)] Z,some 5,tT⟩,
 ⟨fun a Z=>.val (a.get 5) Z,some 3,tT⟩]
def Aqy:List COp:=Rg ()
def Rh(_:Unit):List COp:=[⟨fun a Z=>.val (a.get 3) Z,some 6,tT⟩,
 ⟨fun a Z=>i_neq Tryz.prog 32 (.tmp 6) (.const (.int .i64 0)) (a.get 6) (.int .i64 0) Z,some 7,tT⟩]
def Aqz:List COp:=Rh ()
def XT(_:Unit):List COp:=[⟨fun a Z=>.val (a.get 3) Z,some 8,tT⟩,
 ⟨fun a Z=>.val (a.get 8) Z,some 2,tT⟩]
def AqA:List COp:=XT ()
def XU(_:Unit):List COp:=[⟨fun a Z=>aG (some 4) (a.get 1) Z,some 9,tT⟩,
 ⟨fun a Z=>.enter 75 [(a.get 9)] Z,some 10,tT⟩,
 ⟨fun a Z=>.val (a.get 10) Z,some 2,tT⟩]
def AqB:List COp:=XU ()
def Amm(E:Env)(ro:Option Nat)(fn:FuncId):aZ:=(aF (aD E ro Aqx) (aF (aF (aD E ro Aqy) (aF (aD E ro Aqz) (aN (fun a=>(a.get 7)) (aF (aD E ro AqA) bL) aV))) (aF (aD E ro AqB) bL)))
theorem U8:aD E ro Aqx a u Z=aD E ro (Rf ()) a u Z:=rfl
theorem U9:aD E ro Aqy a u Z=aD E ro (Rg ()) a u Z:=rfl
theorem U_:aD E ro Aqz a u Z=aD E ro (Rh ()) a u Z:=rfl
theorem Aim:aD E ro AqA a u Z=aD E ro (XT ()) a u Z:=rfl
theorem Ain:aD E ro AqB a u Z=aD E ro (XU ()) a u Z:=rfl
theorem AuD(E:Env)(ro:Option Nat)(fn:FuncId):code Tryz.prog nls (Tryz.f16.body.getD .skip) E ro fn=Amm E ro fn:=by kernel_rfl
theorem Aoa(E:Env)(args:List Value)(u:Option FrameMode)(Z:aC)(hn:args.length<=(4:Nat)):bD Tryz.prog nls E 16 args u Z=aP Tryz.prog E [.tmp 2] (Amm E none 16 ⟨bB undef 4 args,fun _=>undef,4,11,[]⟩ u Z):=by
 rw[Ap (body:=Tryz.f16.body.getD .skip) Tryz.func16 rfl E args u Z 4 11 (by kernel_rfl) rfl ⟨hn,by decide⟩,AuD]
 rfl
def Sr(_:Unit):List COp:=[⟨fun a Z=>fbox 24 (a.get 0) Z,some 1,tT⟩,
 ⟨fun a Z=>.val (.int .i64 0) Z,some 2,tT⟩]
def AsO:List COp:=Sr ()
def Su(_:Unit):List COp:=[⟨fun a Z=>aG (some 4) (a.get 1) Z,some 6,tT⟩,
 ⟨fun a Z=>.enter 120 [(a.get 6)] Z,some 7,tT⟩,
 ⟨fun a Z=>.val (a.get 7) Z,some 3,tT⟩]
def AsP:List COp:=Su ()
def Sv(_:Unit):List COp:=[⟨fun a Z=>.val (a.get 3) Z,some 8,tT⟩,
 ⟨fun a Z=>i_neq Tryz.prog 32 (.tmp 8) (.const (.int .i64 0)) (a.get 8) (.int .i64 0) Z,some 9,tT⟩]
def AsQ:List COp:=Sv ()
def Zk(_:Unit):List COp:=[⟨fun a Z=>.val (a.get 3) Z,some 10,tT⟩,
 ⟨fun a Z=>.val (a.get 10) Z,some 2,tT⟩]
def AsR:List COp:=Zk ()
def Zl(_:Unit):List COp:=[⟨fun a Z=>.val (.int .i64 0) Z,some 4,tT⟩]
def AsS:List COp:=Zl ()
def M_(_:Unit):List COp:=[⟨fun a Z=>.val (a.get 4) Z,some 11,tT⟩,
 ⟨fun a Z=>aH 3 (a.get 1) Z,some 12,tT⟩,
 ⟨fun a Z=>aG none (a.get 12) Z,some 13,tT⟩,
 ⟨fun a Z=>flenL (a.get 13) Z,some 14,tT⟩,
 ⟨fun a Z=>i_lss Tryz.prog 3 (.tmp 11) (.tmp 14) (a.get 11) (a.get 14) Z,some 15,tT⟩]
def AsT:List COp:=M_ ()
def Sx(_:Unit):List COp:=[⟨fun a Z=>aH 3 (a.get 1) Z,some 18,tT⟩,
 ⟨fun a Z=>aG none (a.get 18) Z,some 19,tT⟩,
 ⟨fun a Z=>.val (a.get 4) Z,some 20,tT⟩,
 ⟨fun a Z=>bC (none,4) (a.get 19) (a.get 20) Z,some 21,tT⟩,
 ⟨fun a Z=>aG (some 4) (a.get 21) Z,some 22,tT⟩,
 ⟨fun a Z=>.enter 74 [(a.get 22)] Z,some 23,tT⟩,
 ⟨fun a Z=>.val (a.get 23) Z,some 5,tT⟩]
def AsV:List COp:=Sx ()
def Sy(_:Unit):List COp:=[⟨fun a Z=>.val (a.get 5) Z,some 24,tT⟩,
 ⟨fun a Z=>i_neq Tryz.prog 32 (.tmp 24) (.const (.int .i64 0)) (a.get 24) (.int .i64 0) Z,some 25,tT⟩]
def AsW:List COp:=Sy ()
def Zn(_:Unit):List COp:=[⟨fun a Z=>.val (a.get 5) Z,some 26,tT⟩,
 ⟨fun a Z=>.val (a.get 26) Z,some 2,tT⟩]
def AsX:List COp:=Zn ()
def Zm(_:Unit):List COp:=[⟨fun a Z=>.val (a.get 4) Z,some 16,tT⟩,
 ⟨fun a Z=>i_add Tryz.prog 3 (.tmp 16) (.const (.int .i64 1)) (a.get 16) (.int .i64 1) Z,some 17,tT⟩,
 ⟨fun a Z=>.val (a.get 17) Z,some 4,tT⟩]
def AsU:List COp:=Zm ()
def Mj(E:Env)(ro:Option Nat)(fn:FuncId):aZ:=(aF (aF (aD E ro AsT) (aN (fun a=>(a.get 15)) aV (exitR 0))) (aF (aW 1 (aF (aD E ro AsV) (aF (aD E ro AsW) (aN (fun a=>(a.get 25)) (aF (aD E ro AsX) bL) aV)))) (aD E ro AsU)))
def Ss(_:Unit):List COp:=[⟨fun a Z=>.val (.int .i64 0) Z,some 2,tT⟩]
def AkV:List COp:=Ss ()
def AmK(E:Env)(ro:Option Nat)(fn:FuncId):aZ:=(aF (aD E ro AsO) (aF (aF (aD E ro AsP) (aF (aD E ro AsQ) (aN (fun a=>(a.get 9)) (aF (aD E ro AsR) bL) aV))) (aF (aF (aD E ro AsS) (aW 0 (loopR (bE nls fn) (Mj E ro fn)))) (aF (aD E ro AkV) bL))))
theorem VP:aD E ro AsO a u Z=aD E ro (Sr ()) a u Z:=rfl
theorem VQ:aD E ro AsP a u Z=aD E ro (Su ()) a u Z:=rfl
theorem VR:aD E ro AsQ a u Z=aD E ro (Sv ()) a u Z:=rfl
theorem AkW:aD E ro AsR a u Z=aD E ro (Zk ()) a u Z:=rfl
theorem AkX:aD E ro AsS a u Z=aD E ro (Zl ()) a u Z:=rfl
theorem Na:aD E ro AsT a u Z=aD E ro (M_ ()) a u Z:=rfl
theorem VS:aD E ro AsV a u Z=aD E ro (Sx ()) a u Z:=rfl
theorem VT:aD E ro AsW a u Z=aD E ro (Sy ()) a u Z:=rfl
theorem AkZ:aD E ro AsX a u Z=aD E ro (Zn ()) a u Z:=rfl
theorem AkY:aD E ro AsU a u Z=aD E ro (Zm ()) a u Z:=rfl
theorem Aej:aD E ro AkV a u Z=aD E ro (Ss ()) a u Z:=rfl
theorem Au3(E:Env)(ro:Option Nat)(fn:FuncId):code Tryz.prog nls (Tryz.f74.body.getD .skip) E ro fn=AmK E ro fn:=by kernel_rfl
theorem Aoy(E:Env)(args:List Value)(u:Option FrameMode)(Z:aC)(hn:args.length<=(6:Nat)):bD Tryz.prog nls E 74 args u Z=aP Tryz.prog E [.tmp 2] (AmK E none 74 ⟨bB undef 6 args,fun _=>undef,6,27,[]⟩ u Z):=by
 rw[Ap (body:=Tryz.f74.body.getD .skip) Tryz.func74 rfl E args u Z 6 27 (by kernel_rfl) rfl ⟨hn,by decide⟩,Au3]
 rfl
def C4(_:Unit):List COp:=[⟨fun a Z=>fbox 24 (a.get 0) Z,some 1,tT⟩,
 ⟨fun a Z=>.val (.int .i64 0) Z,some 2,tT⟩]
def Agv:List COp:=C4 ()
def C5(_:Unit):List COp:=[⟨fun a Z=>aH 0 (a.get 1) Z,some 6,tT⟩,
 ⟨fun a Z=>aG none (a.get 6) Z,some 7,tT⟩,
 ⟨fun a Z=>.enter 92 [(a.get 7),(.int .i64 0),(.int .i64 6)] Z,some 8,tT⟩,
 ⟨fun a Z=>fun1 Tryz.prog (Op.unary .not) (a.get 8) Z,some 9,tT⟩]
def Agw:List COp:=C5 ()
def C6(_:Unit):List COp:=[⟨fun a Z=>.val (.int .i64 4) Z,some 2,tT⟩]
def Agx:List COp:=C6 ()
def C_(_:Unit):List COp:=[⟨fun a Z=>aH 0 (a.get 1) Z,some 10,tT⟩,
 ⟨fun a Z=>aG none (a.get 10) Z,some 11,tT⟩,
 ⟨fun a Z=>bO Tryz.prog 3 (.tmp 11) (.const (.int .i64 1)) (a.get 11) (.int .i64 1) Z,some 12,tT⟩,
 ⟨fun a Z=>.val (a.get 12) Z,some 13,tT⟩,
 ⟨fun a Z=>aH 0 (a.get 1) Z,some 14,fun a=>gd (a.get 13) false⟩,
 ⟨fun a Z=>aG none (a.get 14) Z,some 15,fun a=>gd (a.get 13) false⟩,
 ⟨fun a Z=>bO Tryz.prog 3 (.tmp 15) (.const (.int .i64 2)) (a.get 15) (.int .i64 2) Z,some 16,fun a=>gd (a.get 13) false⟩,
 ⟨fun a Z=>bM (a.get 13) (.bool true) (a.get 16) Z,some 17,tT⟩,
 ⟨fun a Z=>.val (a.get 17) Z,some 3,tT⟩]
def Agy:List COp:=C_ ()
def Da(_:Unit):List COp:=[⟨fun a Z=>aH 0 (a.get 1) Z,some 18,tT⟩,
 ⟨fun a Z=>aG none (a.get 18) Z,some 19,tT⟩,
 ⟨fun a Z=>bO Tryz.prog 3 (.tmp 19) (.const (.int .i64 3)) (a.get 19) (.int .i64 3) Z,some 20,tT⟩,
 ⟨fun a Z=>.val (a.get 20) Z,some 21,tT⟩,
 ⟨fun a Z=>aH 0 (a.get 1) Z,some 22,fun a=>gd (a.get 21) false⟩,
 ⟨fun a Z=>aG none (a.get 22) Z,some 23,fun a=>gd (a.get 21) false⟩,
 ⟨fun a Z=>bO Tryz.prog 3 (.tmp 23) (.const (.int .i64 4)) (a.get 23) (.int .i64 4) Z,some 24,fun a=>gd (a.get 21) false⟩,
 ⟨fun a Z=>bM (a.get 21) (.bool true) (a.get 24) Z,some 25,tT⟩,
 ⟨fun a Z=>.val (a.get 25) Z,some 4,tT⟩]
def Agz:List COp:=Da ()
def Db(_:Unit):List COp:=[⟨fun a Z=>aH 0 (a.get 1) Z,some 26,tT⟩,
 ⟨fun a Z=>aG none (a.get 26) Z,some 27,tT⟩,
 ⟨fun a Z=>bO Tryz.prog 3 (.tmp 27) (.const (.int .i64 5)) (a.get 27) (.int .i64 5) Z,some 28,tT⟩,
 ⟨fun a Z=>.val (a.get 28) Z,some 29,tT⟩,
 ⟨fun a Z=>aH 0 (a.get 1) Z,some 30,fun a=>gd (a.get 29) false⟩,
 ⟨fun a Z=>aG none (a.get 30) Z,some 31,fun a=>gd (a.get 29) false⟩,
 ⟨fun a Z=>bO Tryz.prog 3 (.tmp 31) (.const (.int .i64 6)) (a.get 31) (.int .i64 6) Z,some 32,fun a=>gd (a.get 29) false⟩,
 ⟨fun a Z=>bM (a.get 29) (.bool true) (a.get 32) Z,some 33,tT⟩,
 ⟨fun a Z=>.val (a.get 33) Z,some 5,tT⟩]
def AgA:List COp:=Db ()
def Dc(_:Unit):List COp:=[⟨fun a Z=>.val (a.get 3) Z,some 34,tT⟩,
 ⟨fun a Z=>fun1 Tryz.prog (Op.unary .not) (a.get 34) Z,some 35,tT⟩,
 ⟨fun a Z=>.val (a.get 35) Z,some 36,tT⟩,
 ⟨fun a Z=>aH 1 (a.get 1) Z,some 37,fun a=>gd (a.get 36) true⟩,
 ⟨fun a Z=>aG none (a.get 37) Z,some 38,fun a=>gd (a.get 36) true⟩,
 ⟨fun a Z=>i_neq Tryz.prog 3 (.tmp 38) (.const (.int .i64 0)) (a.get 38) (.int .i64 0) Z,some 39,fun a=>gd (a.get 36) true⟩,
 ⟨fun a Z=>bM (a.get 36) (a.get 39) (.bool false) Z,some 40,tT⟩,
 ⟨fun a Z=>.val (a.get 40) Z,some 41,tT⟩,
 ⟨fun a Z=>.val (a.get 4) Z,some 42,fun a=>gd (a.get 41) false⟩,
 ⟨fun a Z=>fun1 Tryz.prog (Op.unary .not) (a.get 42) Z,some 43,fun a=>gd (a.get 41) false⟩,
 ⟨fun a Z=>.val (a.get 43) Z,some 44,fun a=>gd (a.get 41) false⟩,
 ⟨fun a Z=>aH 2 (a.get 1) Z,some 45,fun a=>gd (a.get 44) true⟩,
 ⟨fun a Z=>aG none (a.get 45) Z,some 46,fun a=>gd (a.get 44) true⟩,
 ⟨fun a Z=>i_neq Tryz.prog 9 (.tmp 46) (.const (.string ⟨#[]⟩)) (a.get 46) (.string ⟨#[]⟩) Z,some 47,fun a=>gd (a.get 44) true⟩,
 ⟨fun a Z=>bM (a.get 44) (a.get 47) (.bool false) Z,some 48,fun a=>gd (a.get 41) false⟩,
 ⟨fun a Z=>bM (a.get 41) (.bool true) (a.get 48) Z,some 49,tT⟩,
 ⟨fun a Z=>.val (a.get 49) Z,some 50,tT⟩,
 ⟨fun a Z=>.val (a.get 5) Z,some 51,fun a=>gd (a.get 50) false⟩,
 ⟨fun a Z=>fun1 Tryz.prog (Op.unary .not) (a.get 51) Z,some 52,fun a=>gd (a.get 50) false⟩,
 ⟨fun a Z=>.val (a.get 52) Z,some 53,fun a=>gd (a.get 50) false⟩,
 ⟨fun a Z=>aH 3 (a.get 1) Z,some 54,fun a=>gd (a.get 53) true⟩,
 ⟨fun a Z=>aG none (a.get 54) Z,some 55,fun a=>gd (a.get 53) true⟩,
 ⟨fun a Z=>flenL (a.get 55) Z,some 56,fun a=>gd (a.get 53) true⟩,
 ⟨fun a Z=>i_gtr Tryz.prog 3 (.tmp 56) (.const (.int .i64 0)) (a.get 56) (.int .i64 0) Z,some 57,fun a=>gd (a.get 53) true⟩,
 ⟨fun a Z=>bM (a.get 53) (a.get 57) (.bool false) Z,some 58,fun a=>gd (a.get 50) false⟩,
 ⟨fun a Z=>bM (a.get 50) (.bool true) (a.get 58) Z,some 59,tT⟩,
 ⟨fun a Z=>.val (a.get 59) Z,some 60,tT⟩,
 ⟨fun a Z=>aH 0 (a.get 1) Z,some 61,fun a=>gd (a.get 60) false⟩,
 ⟨fun a Z=>aG none (a.get 61) Z,some 62,fun a=>gd (a.get 60) false⟩,
 ⟨fun a Z=>bO Tryz.prog 3 (.tmp 62) (.const (.int .i64 5)) (a.get 62) (.int .i64 5) Z,some 63,fun a=>gd (a.get 60) false⟩,
 ⟨fun a Z=>.val (a.get 63) Z,some 64,fun a=>gd (a.get 60) false⟩,
 ⟨fun a Z=>aH 3 (a.get 1) Z,some 65,fun a=>gd (a.get 64) true⟩,
 ⟨fun a Z=>aG none (a.get 65) Z,some 66,fun a=>gd (a.get 64) true⟩,
 ⟨fun a Z=>flenL (a.get 66) Z,some 67,fun a=>gd (a.get 64) true⟩,
 ⟨fun a Z=>i_neq Tryz.prog 3 (.tmp 67) (.const (.int .i64 2)) (a.get 67) (.int .i64 2) Z,some 68,fun a=>gd (a.get 64) true⟩,
 ⟨fun a Z=>bM (a.get 64) (a.get 68) (.bool false) Z,some 69,fun a=>gd (a.get 60) false⟩,
 ⟨fun a Z=>bM (a.get 60) (.bool true) (a.get 69) Z,some 70,tT⟩]
def AgB:List COp:=Dc ()
def Dd(_:Unit):List COp:=[⟨fun a Z=>.val (.int .i64 1) Z,some 2,tT⟩]
def AgC:List COp:=Dd ()
def De(_:Unit):List COp:=[⟨fun a Z=>aH 0 (a.get 1) Z,some 71,tT⟩,
 ⟨fun a Z=>aG none (a.get 71) Z,some 72,tT⟩]
def AgD:List COp:=De ()
def Df(_:Unit):List COp:=[⟨fun a Z=>bO Tryz.prog 3 (.tmp 72) (.const (.int .i64 1)) (a.get 72) (.int .i64 1) Z,some 74,tT⟩,
 ⟨fun a Z=>.val (a.get 74) Z,some 73,tT⟩]
def AgE:List COp:=Df ()
def Cp(_:Unit):List COp:=[⟨fun a Z=>aH 1 (a.get 1) Z,some 75,tT⟩,
 ⟨fun a Z=>aG none (a.get 75) Z,some 76,tT⟩,
 ⟨fun a Z=>.enter 92 [(a.get 76),(.int .i64 0),(.int .i64 1)] Z,some 77,tT⟩,
 ⟨fun a Z=>fun1 Tryz.prog (Op.unary .not) (a.get 77) Z,some 78,tT⟩]
def Abx:List COp:=Cp ()
def Cq(_:Unit):List COp:=[⟨fun a Z=>.val (.int .i64 13) Z,some 2,tT⟩]
def Aby:List COp:=Cq ()
def Cr(_:Unit):List COp:=[⟨fun a Z=>bO Tryz.prog 3 (.tmp 72) (.const (.int .i64 2)) (a.get 72) (.int .i64 2) Z,some 80,tT⟩,
 ⟨fun a Z=>.val (a.get 80) Z,some 79,tT⟩]
def Abz:List COp:=Cr ()
def Cs(_:Unit):List COp:=[⟨fun a Z=>aH 1 (a.get 1) Z,some 81,tT⟩,
 ⟨fun a Z=>aG none (a.get 81) Z,some 82,tT⟩,
 ⟨fun a Z=>.enter 92 [(a.get 82),(.int .i64 (-999999999)),(.int .i64 999999999)] Z,some 83,tT⟩,
 ⟨fun a Z=>fun1 Tryz.prog (Op.unary .not) (a.get 83) Z,some 84,tT⟩]
def AbA:List COp:=Cs ()
def Ct(_:Unit):List COp:=[⟨fun a Z=>.val (.int .i64 13) Z,some 2,tT⟩]
def AbB:List COp:=Ct ()
def Cu(_:Unit):List COp:=[⟨fun a Z=>bO Tryz.prog 3 (.tmp 72) (.const (.int .i64 3)) (a.get 72) (.int .i64 3) Z,some 86,tT⟩,
 ⟨fun a Z=>.val (a.get 86) Z,some 85,tT⟩]
def AbC:List COp:=Cu ()
def Cv(_:Unit):List COp:=[⟨fun a Z=>aH 2 (a.get 1) Z,some 87,tT⟩,
 ⟨fun a Z=>aG none (a.get 87) Z,some 88,tT⟩,
 ⟨fun a Z=>.enter 146 [(a.get 88)] Z,some 89,tT⟩,
 ⟨fun a Z=>fun1 Tryz.prog (Op.unary .not) (a.get 89) Z,some 90,tT⟩]
def AbD:List COp:=Cv ()
def Cw(_:Unit):List COp:=[⟨fun a Z=>.val (.int .i64 2) Z,some 2,tT⟩]
def AbE:List COp:=Cw ()
def Cx(_:Unit):List COp:=[⟨fun a Z=>bO Tryz.prog 3 (.tmp 72) (.const (.int .i64 4)) (a.get 72) (.int .i64 4) Z,some 92,tT⟩,
 ⟨fun a Z=>.val (a.get 92) Z,some 91,tT⟩]
def AbF:List COp:=Cx ()
def Cy(_:Unit):List COp:=[⟨fun a Z=>aH 2 (a.get 1) Z,some 93,tT⟩,
 ⟨fun a Z=>aG none (a.get 93) Z,some 94,tT⟩,
 ⟨fun a Z=>.enter 147 [(a.get 94)] Z,some 95,tT⟩,
 ⟨fun a Z=>.val (a.get 95) Z,some 2,tT⟩]
def AbG:List COp:=Cy ()
def Cz(_:Unit):List COp:=[⟨fun a Z=>.val (.int .i64 0) Z,some 2,tT⟩]
def AbH:List COp:=Cz ()
def F_(E:Env)(ro:Option Nat)(fn:FuncId):aZ:=(aF (aD E ro Agv) (aF (aF (aD E ro Agw) (aN (fun a=>(a.get 9)) (aF (aD E ro Agx) bL) aV)) (aF (aD E ro Agy) (aF (aD E ro Agz) (aF (aD E ro AgA) (aF (aF (aD E ro AgB) (aN (fun a=>(a.get 70)) (aF (aD E ro AgC) bL) aV)) (aF (aF (aD E ro AgD) (aW 0 (aF (aD E ro AgE) (aN (fun a=>(a.get 73)) (aF (aD E ro Abx) (aN (fun a=>(a.get 78)) (aF (aD E ro Aby) bL) aV)) (aF (aD E ro Abz) (aN (fun a=>(a.get 79)) (aF (aD E ro AbA) (aN (fun a=>(a.get 84)) (aF (aD E ro AbB) bL) aV)) (aF (aD E ro AbC) (aN (fun a=>(a.get 85)) (aF (aD E ro AbD) (aN (fun a=>(a.get 90)) (aF (aD E ro AbE) bL) aV)) (aF (aD E ro AbF) (aN (fun a=>(a.get 91)) (aF (aD E ro AbG) bL) aV)))))))))) (aF (aD E ro AbH) bL))))))))
theorem BJ:aD E ro Agv a u Z=aD E ro (C4 ()) a u Z:=rfl
theorem BK:aD E ro Agw a u Z=aD E ro (C5 ()) a u Z:=rfl
theorem BL:aD E ro Agx a u Z=aD E ro (C6 ()) a u Z:=rfl
theorem BZ:aD E ro Agy a u Z=aD E ro (C_ ()) a u Z:=rfl
theorem B0:aD E ro Agz a u Z=aD E ro (Da ()) a u Z:=rfl
theorem B6:aD E ro AgA a u Z=aD E ro (Db ()) a u Z:=rfl
theorem B_:aD E ro AgB a u Z=aD E ro (Dc ()) a u Z:=rfl
theorem Ca:aD E ro AgC a u Z=aD E ro (Dd ()) a u Z:=rfl
theorem Cb:aD E ro AgD a u Z=aD E ro (De ()) a u Z:=rfl
theorem Cc:aD E ro AgE a u Z=aD E ro (Df ()) a u Z:=rfl
theorem Bm:aD E ro Abx a u Z=aD E ro (Cp ()) a u Z:=rfl
theorem Bn:aD E ro Aby a u Z=aD E ro (Cq ()) a u Z:=rfl
theorem Bo:aD E ro Abz a u Z=aD E ro (Cr ()) a u Z:=rfl
theorem Bp:aD E ro AbA a u Z=aD E ro (Cs ()) a u Z:=rfl
theorem Bq:aD E ro AbB a u Z=aD E ro (Ct ()) a u Z:=rfl
theorem Br:aD E ro AbC a u Z=aD E ro (Cu ()) a u Z:=rfl
theorem Bs:aD E ro AbD a u Z=aD E ro (Cv ()) a u Z:=rfl
theorem Bt:aD E ro AbE a u Z=aD E ro (Cw ()) a u Z:=rfl
theorem Bu:aD E ro AbF a u Z=aD E ro (Cx ()) a u Z:=rfl
theorem Bv:aD E ro AbG a u Z=aD E ro (Cy ()) a u Z:=rfl
theorem Bw:aD E ro AbH a u Z=aD E ro (Cz ()) a u Z:=rfl
theorem AnC(E:Env)(ro:Option Nat)(fn:FuncId):code Tryz.prog nls (Tryz.f120.body.getD .skip) E ro fn=F_ E ro fn:=by kernel_rfl
theorem E_(E:Env)(args:List Value)(u:Option FrameMode)(Z:aC)(hn:args.length<=(6:Nat)):bD Tryz.prog nls E 120 args u Z=aP Tryz.prog E [.tmp 2] (F_ E none 120 ⟨bB undef 6 args,fun _=>undef,6,96,[]⟩ u Z):=by
 rw[Ap (body:=Tryz.f120.body.getD .skip) Tryz.func120 rfl E args u Z 6 96 (by kernel_rfl) rfl ⟨hn,by decide⟩,AnC]
 rfl
def Nb(_:Unit):List COp:=[⟨fun a Z=>fbox 24 (a.get 0) Z,some 1,tT⟩,
 ⟨fun a Z=>.val (.int .i64 0) Z,some 2,tT⟩]
def AsY:List COp:=Nb ()
def Nd(_:Unit):List COp:=[⟨fun a Z=>aG (some 4) (a.get 1) Z,some 3,tT⟩,
 ⟨fun a Z=>.enter 42 [(a.get 3),(.int .i64 2000)] Z,some 4,tT⟩,
 ⟨fun a Z=>i_gtr Tryz.prog 3 (.tmp 4) (.const (.int .i64 2000)) (a.get 4) (.int .i64 2000) Z,some 5,tT⟩]
def AsZ:List COp:=Nd ()
def Zo(_:Unit):List COp:=[⟨fun a Z=>.val (.int .i64 8) Z,some 2,tT⟩]
def As0:List COp:=Zo ()
def Sz(_:Unit):List COp:=[⟨fun a Z=>.val (.int .i64 0) Z,some 2,tT⟩]
def As1:List COp:=Sz ()
def Aca(E:Env)(ro:Option Nat)(fn:FuncId):aZ:=(aF (aD E ro AsY) (aF (aF (aD E ro AsZ) (aN (fun a=>(a.get 5)) (aF (aD E ro As0) bL) aV)) (aF (aD E ro As1) bL)))
theorem Nc:aD E ro AsY a u Z=aD E ro (Nb ()) a u Z:=rfl
theorem Nf:aD E ro AsZ a u Z=aD E ro (Nd ()) a u Z:=rfl
theorem Ak0:aD E ro As0 a u Z=aD E ro (Zo ()) a u Z:=rfl
theorem VU:aD E ro As1 a u Z=aD E ro (Sz ()) a u Z:=rfl
theorem Au4(E:Env)(ro:Option Nat)(fn:FuncId):code Tryz.prog nls (Tryz.f75.body.getD .skip) E ro fn=Aca E ro fn:=by kernel_rfl
theorem Abc(E:Env)(args:List Value)(u:Option FrameMode)(Z:aC)(hn:args.length<=(2:Nat)):bD Tryz.prog nls E 75 args u Z=aP Tryz.prog E [.tmp 2] (Aca E none 75 ⟨bB undef 2 args,fun _=>undef,2,6,[]⟩ u Z):=by
 rw[Ap (body:=Tryz.f75.body.getD .skip) Tryz.func75 rfl E args u Z 2 6 (by kernel_rfl) rfl ⟨hn,by decide⟩,Au4]
 rfl
def MU(_:Unit):List COp:=[⟨fun a Z=>fbox 24 (a.get 0) Z,some 2,tT⟩,
 ⟨fun a Z=>.val (.int .i64 0) Z,some 4,tT⟩]
def ArO:List COp:=MU ()
def MW(_:Unit):List COp:=[⟨fun a Z=>.val (.int .i64 1) Z,some 5,tT⟩]
def ArP:List COp:=MW ()
def MY(_:Unit):List COp:=[⟨fun a Z=>.val (.int .i64 0) Z,some 6,tT⟩]
def ArQ:List COp:=MY ()
def Ht(_:Unit):List COp:=[⟨fun a Z=>.val (a.get 6) Z,some 7,tT⟩,
 ⟨fun a Z=>aH 3 (a.get 2) Z,some 8,tT⟩,
 ⟨fun a Z=>aG none (a.get 8) Z,some 9,tT⟩,
 ⟨fun a Z=>flenL (a.get 9) Z,some 10,tT⟩,
 ⟨fun a Z=>i_lss Tryz.prog 3 (.tmp 7) (.tmp 10) (a.get 7) (a.get 10) Z,some 11,tT⟩,
 ⟨fun a Z=>.val (a.get 11) Z,some 12,tT⟩,
 ⟨fun a Z=>.val (a.get 5) Z,some 13,fun a=>gd (a.get 12) true⟩,
 ⟨fun a Z=>.val (a.get 1) Z,some 14,fun a=>gd (a.get 12) true⟩,
 ⟨fun a Z=>i_leq Tryz.prog 3 (.tmp 13) (.tmp 14) (a.get 13) (a.get 14) Z,some 15,fun a=>gd (a.get 12) true⟩,
 ⟨fun a Z=>bM (a.get 12) (a.get 15) (.bool false) Z,some 16,tT⟩]
def ArR:List COp:=Ht ()
def Sa(_:Unit):List COp:=[⟨fun a Z=>.val (a.get 5) Z,some 19,tT⟩,
 ⟨fun a Z=>aH 3 (a.get 2) Z,some 20,tT⟩,
 ⟨fun a Z=>aG none (a.get 20) Z,some 21,tT⟩,
 ⟨fun a Z=>.val (a.get 6) Z,some 22,tT⟩,
 ⟨fun a Z=>bC (none,4) (a.get 21) (a.get 22) Z,some 23,tT⟩,
 ⟨fun a Z=>aG (some 4) (a.get 23) Z,some 24,tT⟩,
 ⟨fun a Z=>.val (a.get 1) Z,some 25,tT⟩,
 ⟨fun a Z=>.val (a.get 5) Z,some 26,tT⟩,
 ⟨fun a Z=>i_sub Tryz.prog 3 (.tmp 25) (.tmp 26) (a.get 25) (a.get 26) Z,some 27,tT⟩,
 ⟨fun a Z=>.enter 42 [(a.get 24),(a.get 27)] Z,some 28,tT⟩,
 ⟨fun a Z=>i_add Tryz.prog 3 (.tmp 19) (.tmp 28) (a.get 19) (a.get 28) Z,some 29,tT⟩,
 ⟨fun a Z=>.val (a.get 29) Z,some 5,tT⟩]
def ArT:List COp:=Sa ()
def R_(_:Unit):List COp:=[⟨fun a Z=>.val (a.get 6) Z,some 17,tT⟩,
 ⟨fun a Z=>i_add Tryz.prog 3 (.tmp 17) (.const (.int .i64 1)) (a.get 17) (.int .i64 1) Z,some 18,tT⟩,
 ⟨fun a Z=>.val (a.get 18) Z,some 6,tT⟩]
def ArS:List COp:=R_ ()
def Hk(E:Env)(ro:Option Nat)(fn:FuncId):aZ:=(aF (aF (aD E ro ArR) (aN (fun a=>(a.get 16)) aV (exitR 0))) (aF (aW 1 (aD E ro ArT)) (aD E ro ArS)))
def M0(_:Unit):List COp:=[⟨fun a Z=>.val (a.get 5) Z,some 30,tT⟩,
 ⟨fun a Z=>.val (a.get 30) Z,some 4,tT⟩]
def ArU:List COp:=M0 ()
def Wx(E:Env)(ro:Option Nat)(fn:FuncId):aZ:=(aF (aD E ro ArO) (aF (aD E ro ArP) (aF (aF (aD E ro ArQ) (aW 0 (loopR (bE nls fn) (Hk E ro fn)))) (aF (aD E ro ArU) bL))))
theorem MV:aD E ro ArO a u Z=aD E ro (MU ()) a u Z:=rfl
theorem MX:aD E ro ArP a u Z=aD E ro (MW ()) a u Z:=rfl
theorem MZ:aD E ro ArQ a u Z=aD E ro (MY ()) a u Z:=rfl
theorem Gr:aD E ro ArR a u Z=aD E ro (Ht ()) a u Z:=rfl
theorem VB:aD E ro ArT a u Z=aD E ro (Sa ()) a u Z:=rfl
theorem VA:aD E ro ArS a u Z=aD E ro (R_ ()) a u Z:=rfl
theorem M3:aD E ro ArU a u Z=aD E ro (M0 ()) a u Z:=rfl
theorem AuR(E:Env)(ro:Option Nat)(fn:FuncId):code Tryz.prog nls (Tryz.f42.body.getD .skip) E ro fn=Wx E ro fn:=by kernel_rfl
theorem P2(E:Env)(args:List Value)(u:Option FrameMode)(Z:aC)(hn:args.length<=(7:Nat)):bD Tryz.prog nls E 42 args u Z=aP Tryz.prog E [.tmp 4] (Wx E none 42 ⟨bB undef 7 args,fun _=>undef,7,31,[]⟩ u Z):=by
 rw[Ap (body:=Tryz.f42.body.getD .skip) Tryz.func42 rfl E args u Z 7 31 (by kernel_rfl) rfl ⟨hn,by decide⟩,AuR]
 rfl
def Fl(_:Unit):List COp:=[⟨fun a Z=>.val (.bool false) Z,some 2,tT⟩]
def Aht:List COp:=Fl ()
def Fm(_:Unit):List COp:=[⟨fun a Z=>.val (a.get 0) Z,some 5,tT⟩,
 ⟨fun a Z=>flenS (a.get 5) Z,some 6,tT⟩,
 ⟨fun a Z=>i_lss Tryz.prog 3 (.tmp 6) (.const (.int .i64 1)) (a.get 6) (.int .i64 1) Z,some 7,tT⟩,
 ⟨fun a Z=>.val (a.get 7) Z,some 8,tT⟩,
 ⟨fun a Z=>.val (a.get 0) Z,some 9,fun a=>gd (a.get 8) false⟩,
 ⟨fun a Z=>flenS (a.get 9) Z,some 10,fun a=>gd (a.get 8) false⟩,
 ⟨fun a Z=>i_gtr Tryz.prog 3 (.tmp 10) (.const (.int .i64 20)) (a.get 10) (.int .i64 20) Z,some 11,fun a=>gd (a.get 8) false⟩,
 ⟨fun a Z=>bM (a.get 8) (.bool true) (a.get 11) Z,some 12,tT⟩,
 ⟨fun a Z=>.val (a.get 12) Z,some 13,tT⟩,
 ⟨fun a Z=>.val (a.get 0) Z,some 14,fun a=>gd (a.get 13) false⟩,
 ⟨fun a Z=>bQ (a.get 14) (.int .i64 0) Z,some 15,fun a=>gd (a.get 13) false⟩,
 ⟨fun a Z=>.enter 171 [(a.get 15)] Z,some 16,fun a=>gd (a.get 13) false⟩,
 ⟨fun a Z=>bM (a.get 13) (.bool true) (a.get 16) Z,some 17,tT⟩,
 ⟨fun a Z=>.val (a.get 17) Z,some 18,tT⟩,
 ⟨fun a Z=>.val (a.get 0) Z,some 19,fun a=>gd (a.get 18) false⟩,
 ⟨fun a Z=>bQ (a.get 19) (.int .i64 0) Z,some 20,fun a=>gd (a.get 18) false⟩,
 ⟨fun a Z=>bO Tryz.prog 5 (.tmp 20) (.const (.int .u8 45)) (a.get 20) (.int .u8 45) Z,some 21,fun a=>gd (a.get 18) false⟩,
 ⟨fun a Z=>.val (a.get 21) Z,some 22,fun a=>gd (a.get 18) false⟩,
 ⟨fun a Z=>.val (a.get 0) Z,some 23,fun a=>gd (a.get 22) true⟩,
 ⟨fun a Z=>flenS (a.get 23) Z,some 24,fun a=>gd (a.get 22) true⟩,
 ⟨fun a Z=>i_gtr Tryz.prog 3 (.tmp 24) (.const (.int .i64 1)) (a.get 24) (.int .i64 1) Z,some 25,fun a=>gd (a.get 22) true⟩,
 ⟨fun a Z=>bM (a.get 22) (a.get 25) (.bool false) Z,some 26,fun a=>gd (a.get 18) false⟩,
 ⟨fun a Z=>.val (a.get 26) Z,some 27,fun a=>gd (a.get 18) false⟩,
 ⟨fun a Z=>.val (a.get 0) Z,some 28,fun a=>gd (a.get 27) true⟩,
 ⟨fun a Z=>bQ (a.get 28) (.int .i64 1) Z,some 29,fun a=>gd (a.get 27) true⟩,
 ⟨fun a Z=>.enter 171 [(a.get 29)] Z,some 30,fun a=>gd (a.get 27) true⟩,
 ⟨fun a Z=>bM (a.get 27) (a.get 30) (.bool false) Z,some 31,fun a=>gd (a.get 18) false⟩,
 ⟨fun a Z=>bM (a.get 18) (.bool true) (a.get 31) Z,some 32,tT⟩]
def Ahu:List COp:=Fm ()
def HU(_:Unit):List COp:=[⟨fun a Z=>.val (.bool false) Z,some 2,tT⟩]
def Ahv:List COp:=HU ()
def Ju(_:Unit):List COp:=[⟨fun a Z=>.val (.int .i64 0) Z,some 3,tT⟩]
def Ahw:List COp:=Ju ()
def Dk(_:Unit):List COp:=[⟨fun a Z=>.val (a.get 3) Z,some 33,tT⟩,
 ⟨fun a Z=>.val (a.get 0) Z,some 34,tT⟩,
 ⟨fun a Z=>flenS (a.get 34) Z,some 35,tT⟩,
 ⟨fun a Z=>i_lss Tryz.prog 3 (.tmp 33) (.tmp 35) (a.get 33) (a.get 35) Z,some 36,tT⟩]
def Ahx:List COp:=Dk ()
def Dr(_:Unit):List COp:=[⟨fun a Z=>.val (a.get 0) Z,some 39,tT⟩,
 ⟨fun a Z=>.val (a.get 3) Z,some 40,tT⟩,
 ⟨fun a Z=>bQ (a.get 39) (a.get 40) Z,some 41,tT⟩,
 ⟨fun a Z=>.val (a.get 41) Z,some 4,tT⟩]
def Ahz:List COp:=Dr ()
def Dt(_:Unit):List COp:=[⟨fun a Z=>.val (a.get 4) Z,some 42,tT⟩,
 ⟨fun a Z=>i_leq Tryz.prog 5 (.const (.int .u8 97)) (.tmp 42) (.int .u8 97) (a.get 42) Z,some 43,tT⟩,
 ⟨fun a Z=>.val (a.get 43) Z,some 44,tT⟩,
 ⟨fun a Z=>.val (a.get 4) Z,some 45,fun a=>gd (a.get 44) true⟩,
 ⟨fun a Z=>i_leq Tryz.prog 5 (.tmp 45) (.const (.int .u8 122)) (a.get 45) (.int .u8 122) Z,some 46,fun a=>gd (a.get 44) true⟩,
 ⟨fun a Z=>bM (a.get 44) (a.get 46) (.bool false) Z,some 47,tT⟩,
 ⟨fun a Z=>.val (a.get 47) Z,some 48,tT⟩,
 ⟨fun a Z=>.val (a.get 4) Z,some 49,fun a=>gd (a.get 48) false⟩,
 ⟨fun a Z=>.enter 171 [(a.get 49)] Z,some 50,fun a=>gd (a.get 48) false⟩,
 ⟨fun a Z=>bM (a.get 48) (.bool true) (a.get 50) Z,some 51,tT⟩]
def AhA:List COp:=Dt ()
def Du(_:Unit):List COp:=[⟨fun a Z=>.val (a.get 4) Z,some 52,tT⟩]
def AhB:List COp:=Du ()
def Dv(_:Unit):List COp:=[⟨fun a Z=>bO Tryz.prog 5 (.tmp 52) (.const (.int .u8 45)) (a.get 52) (.int .u8 45) Z,some 54,tT⟩,
 ⟨fun a Z=>.val (a.get 54) Z,some 53,tT⟩]
def AhC:List COp:=Dv ()
def CI(_:Unit):List COp:=[⟨fun a Z=>bO Tryz.prog 5 (.tmp 52) (.const (.int .u8 43)) (a.get 52) (.int .u8 43) Z,some 55,tT⟩,
 ⟨fun a Z=>.val (a.get 55) Z,some 53,tT⟩]
def AbL:List COp:=CI ()
def CJ(_:Unit):List COp:=[⟨fun a Z=>bO Tryz.prog 5 (.tmp 52) (.const (.int .u8 42)) (a.get 52) (.int .u8 42) Z,some 56,tT⟩,
 ⟨fun a Z=>.val (a.get 56) Z,some 53,tT⟩]
def AbM:List COp:=CJ ()
def CK(_:Unit):List COp:=[⟨fun a Z=>bO Tryz.prog 5 (.tmp 52) (.const (.int .u8 47)) (a.get 52) (.int .u8 47) Z,some 57,tT⟩,
 ⟨fun a Z=>.val (a.get 57) Z,some 53,tT⟩]
def AbN:List COp:=CK ()
def CL(_:Unit):List COp:=[⟨fun a Z=>bO Tryz.prog 5 (.tmp 52) (.const (.int .u8 60)) (a.get 52) (.int .u8 60) Z,some 58,tT⟩,
 ⟨fun a Z=>.val (a.get 58) Z,some 53,tT⟩]
def AbO:List COp:=CL ()
def CM(_:Unit):List COp:=[⟨fun a Z=>bO Tryz.prog 5 (.tmp 52) (.const (.int .u8 62)) (a.get 52) (.int .u8 62) Z,some 59,tT⟩,
 ⟨fun a Z=>.val (a.get 59) Z,some 53,tT⟩]
def AbP:List COp:=CM ()
def CN(_:Unit):List COp:=[⟨fun a Z=>bO Tryz.prog 5 (.tmp 52) (.const (.int .u8 61)) (a.get 52) (.int .u8 61) Z,some 60,tT⟩,
 ⟨fun a Z=>.val (a.get 60) Z,some 53,tT⟩]
def AbQ:List COp:=CN ()
def CO(_:Unit):List COp:=[⟨fun a Z=>bO Tryz.prog 5 (.tmp 52) (.const (.int .u8 63)) (a.get 52) (.int .u8 63) Z,some 61,tT⟩,
 ⟨fun a Z=>.val (a.get 61) Z,some 53,tT⟩]
def AbR:List COp:=CO ()
def CP(_:Unit):List COp:=[⟨fun a Z=>bO Tryz.prog 5 (.tmp 52) (.const (.int .u8 33)) (a.get 52) (.int .u8 33) Z,some 62,tT⟩,
 ⟨fun a Z=>.val (a.get 62) Z,some 53,tT⟩]
def AbS:List COp:=CP ()
def CQ(_:Unit):List COp:=[⟨fun a Z=>.val (.bool false) Z,some 2,tT⟩]
def AbT:List COp:=CQ ()
def Dq(_:Unit):List COp:=[⟨fun a Z=>.val (a.get 3) Z,some 37,tT⟩,
 ⟨fun a Z=>i_add Tryz.prog 3 (.tmp 37) (.const (.int .i64 1)) (a.get 37) (.int .i64 1) Z,some 38,tT⟩,
 ⟨fun a Z=>.val (a.get 38) Z,some 3,tT⟩]
def Ahy:List COp:=Dq ()
def F9(E:Env)(ro:Option Nat)(fn:FuncId):aZ:=(aF (aF (aD E ro Ahx) (aN (fun a=>(a.get 36)) aV (exitR 0))) (aF (aW 1 (aF (aD E ro Ahz) (aF (aF (aD E ro AhA) (aN (fun a=>(a.get 51)) (exitR 1) aV)) (aF (aF (aD E ro AhB) (aW 2 (aF (aF (aD E ro AhC) (aN (fun a=>(a.get 53)) aV (aF (aD E ro AbL) (aN (fun a=>(a.get 53)) aV (aF (aD E ro AbM) (aN (fun a=>(a.get 53)) aV (aF (aD E ro AbN) (aN (fun a=>(a.get 53)) aV (aF (aD E ro AbO) (aN (fun a=>(a.get 53)) aV (aF (aD E ro AbP) (aN (fun a=>(a.get 53)) aV (aF (aD E ro AbQ) (aN (fun a=>(a.get 53)) aV (aF (aD E ro AbR) (aN (fun a=>(a.get 53)) aV (aD E ro AbS))))))))))))))))) (aN (fun a=>(a.get 53)) (exitR 1) aV)))) (aF (aD E ro AbT) bL))))) (aD E ro Ahy)))
def Hq(_:Unit):List COp:=[⟨fun a Z=>.val (.bool true) Z,some 2,tT⟩]
def AbU:List COp:=Hq ()
def AaF(E:Env)(ro:Option Nat)(fn:FuncId):aZ:=(aF (aD E ro Aht) (aF (aF (aD E ro Ahu) (aN (fun a=>(a.get 32)) (aF (aD E ro Ahv) bL) aV)) (aF (aF (aD E ro Ahw) (aW 0 (loopR (bE nls fn) (F9 E ro fn)))) (aF (aD E ro AbU) bL))))
theorem EV:aD E ro Aht a u Z=aD E ro (Fl ()) a u Z:=rfl
theorem EW:aD E ro Ahu a u Z=aD E ro (Fm ()) a u Z:=rfl
theorem HV:aD E ro Ahv a u Z=aD E ro (HU ()) a u Z:=rfl
theorem Kd:aD E ro Ahw a u Z=aD E ro (Ju ()) a u Z:=rfl
theorem Cj:aD E ro Ahx a u Z=aD E ro (Dk ()) a u Z:=rfl
theorem CE:aD E ro Ahz a u Z=aD E ro (Dr ()) a u Z:=rfl
theorem CF:aD E ro AhA a u Z=aD E ro (Dt ()) a u Z:=rfl
theorem CG:aD E ro AhB a u Z=aD E ro (Du ()) a u Z:=rfl
theorem CH:aD E ro AhC a u Z=aD E ro (Dv ()) a u Z:=rfl
theorem BO:aD E ro AbL a u Z=aD E ro (CI ()) a u Z:=rfl
theorem BP:aD E ro AbM a u Z=aD E ro (CJ ()) a u Z:=rfl
theorem BQ:aD E ro AbN a u Z=aD E ro (CK ()) a u Z:=rfl
theorem BR:aD E ro AbO a u Z=aD E ro (CL ()) a u Z:=rfl
theorem BS:aD E ro AbP a u Z=aD E ro (CM ()) a u Z:=rfl
theorem BT:aD E ro AbQ a u Z=aD E ro (CN ()) a u Z:=rfl
theorem BU:aD E ro AbR a u Z=aD E ro (CO ()) a u Z:=rfl
theorem BV:aD E ro AbS a u Z=aD E ro (CP ()) a u Z:=rfl
theorem BW:aD E ro AbT a u Z=aD E ro (CQ ()) a u Z:=rfl
theorem CD:aD E ro Ahy a u Z=aD E ro (Dq ()) a u Z:=rfl
theorem ID:aD E ro AbU a u Z=aD E ro (Hq ()) a u Z:=rfl
theorem AnO(E:Env)(ro:Option Nat)(fn:FuncId):code Tryz.prog nls (Tryz.f146.body.getD .skip) E ro fn=AaF E ro fn:=by kernel_rfl
theorem Afe(E:Env)(args:List Value)(u:Option FrameMode)(Z:aC)(hn:args.length<=(5:Nat)):bD Tryz.prog nls E 146 args u Z=aP Tryz.prog E [.tmp 2] (AaF E none 146 ⟨bB undef 5 args,fun _=>undef,5,63,[]⟩ u Z):=by
 rw[Ap (body:=Tryz.f146.body.getD .skip) Tryz.func146 rfl E args u Z 5 63 (by kernel_rfl) rfl ⟨hn,by decide⟩,AnO]
 rfl
def Lm(_:Unit):List COp:=[⟨fun a Z=>.val (.int .i64 0) Z,some 2,tT⟩]
def AhD:List COp:=Lm ()
def Ln(_:Unit):List COp:=[⟨fun a Z=>.val (a.get 0) Z,some 4,tT⟩,
 ⟨fun a Z=>flenS (a.get 4) Z,some 5,tT⟩,
 ⟨fun a Z=>i_gtr Tryz.prog 3 (.tmp 5) (.const (.int .i64 60)) (a.get 5) (.int .i64 60) Z,some 6,tT⟩]
def AhE:List COp:=Ln ()
def QY(_:Unit):List COp:=[⟨fun a Z=>.val (.int .i64 8) Z,some 2,tT⟩]
def AhF:List COp:=QY ()
def QZ(_:Unit):List COp:=[⟨fun a Z=>.val (.int .i64 0) Z,some 3,tT⟩]
def AhG:List COp:=QZ ()
def HW(_:Unit):List COp:=[⟨fun a Z=>.val (a.get 3) Z,some 7,tT⟩,
 ⟨fun a Z=>.val (a.get 0) Z,some 8,tT⟩,
 ⟨fun a Z=>flenS (a.get 8) Z,some 9,tT⟩,
 ⟨fun a Z=>i_lss Tryz.prog 3 (.tmp 7) (.tmp 9) (a.get 7) (a.get 9) Z,some 10,tT⟩]
def AhH:List COp:=HW ()
def Jw(_:Unit):List COp:=[⟨fun a Z=>.val (a.get 0) Z,some 13,tT⟩,
 ⟨fun a Z=>.val (a.get 3) Z,some 14,tT⟩,
 ⟨fun a Z=>bQ (a.get 13) (a.get 14) Z,some 15,tT⟩,
 ⟨fun a Z=>i_lss Tryz.prog 5 (.tmp 15) (.const (.int .u8 32)) (a.get 15) (.int .u8 32) Z,some 16,tT⟩,
 ⟨fun a Z=>.val (a.get 16) Z,some 17,tT⟩,
 ⟨fun a Z=>.val (a.get 0) Z,some 18,fun a=>gd (a.get 17) false⟩,
 ⟨fun a Z=>.val (a.get 3) Z,some 19,fun a=>gd (a.get 17) false⟩,
 ⟨fun a Z=>bQ (a.get 18) (a.get 19) Z,some 20,fun a=>gd (a.get 17) false⟩,
 ⟨fun a Z=>i_gtr Tryz.prog 5 (.tmp 20) (.const (.int .u8 126)) (a.get 20) (.int .u8 126) Z,some 21,fun a=>gd (a.get 17) false⟩,
 ⟨fun a Z=>bM (a.get 17) (.bool true) (a.get 21) Z,some 22,tT⟩]
def AhJ:List COp:=Jw ()
def Jy(_:Unit):List COp:=[⟨fun a Z=>.val (.int .i64 13) Z,some 2,tT⟩]
def AhK:List COp:=Jy ()
def Jv(_:Unit):List COp:=[⟨fun a Z=>.val (a.get 3) Z,some 11,tT⟩,
 ⟨fun a Z=>i_add Tryz.prog 3 (.tmp 11) (.const (.int .i64 1)) (a.get 11) (.int .i64 1) Z,some 12,tT⟩,
 ⟨fun a Z=>.val (a.get 12) Z,some 3,tT⟩]
def AhI:List COp:=Jv ()
def Hi(E:Env)(ro:Option Nat)(fn:FuncId):aZ:=(aF (aF (aD E ro AhH) (aN (fun a=>(a.get 10)) aV (exitR 0))) (aF (aW 1 (aF (aD E ro AhJ) (aN (fun a=>(a.get 22)) (aF (aD E ro AhK) bL) aV))) (aD E ro AhI)))
def Q0(_:Unit):List COp:=[⟨fun a Z=>.val (.int .i64 0) Z,some 2,tT⟩]
def AhL:List COp:=Q0 ()
def AaG(E:Env)(ro:Option Nat)(fn:FuncId):aZ:=(aF (aD E ro AhD) (aF (aF (aD E ro AhE) (aN (fun a=>(a.get 6)) (aF (aD E ro AhF) bL) aV)) (aF (aF (aD E ro AhG) (aW 0 (loopR (bE nls fn) (Hi E ro fn)))) (aF (aD E ro AhL) bL))))
theorem Pn:aD E ro AhD a u Z=aD E ro (Lm ()) a u Z:=rfl
theorem Po:aD E ro AhE a u Z=aD E ro (Ln ()) a u Z:=rfl
theorem AdB:aD E ro AhF a u Z=aD E ro (QY ()) a u Z:=rfl
theorem AdC:aD E ro AhG a u Z=aD E ro (QZ ()) a u Z:=rfl
theorem HX:aD E ro AhH a u Z=aD E ro (HW ()) a u Z:=rfl
theorem Kf:aD E ro AhJ a u Z=aD E ro (Jw ()) a u Z:=rfl
theorem Kg:aD E ro AhK a u Z=aD E ro (Jy ()) a u Z:=rfl
theorem Ke:aD E ro AhI a u Z=aD E ro (Jv ()) a u Z:=rfl
theorem AdD:aD E ro AhL a u Z=aD E ro (Q0 ()) a u Z:=rfl
theorem AnP(E:Env)(ro:Option Nat)(fn:FuncId):code Tryz.prog nls (Tryz.f147.body.getD .skip) E ro fn=AaG E ro fn:=by kernel_rfl
theorem Aff(E:Env)(args:List Value)(u:Option FrameMode)(Z:aC)(hn:args.length<=(4:Nat)):bD Tryz.prog nls E 147 args u Z=aP Tryz.prog E [.tmp 2] (AaG E none 147 ⟨bB undef 4 args,fun _=>undef,4,23,[]⟩ u Z):=by
 rw[Ap (body:=Tryz.f147.body.getD .skip) Tryz.func147 rfl E args u Z 4 23 (by kernel_rfl) rfl ⟨hn,by decide⟩,AnP]
 rfl
end
section
open Go Go.Eng
attribute [local congr] Aa Af Ae Ab Ad
attribute [-go_sem] List.range_succ
inductive Whole:Int->Int->ByteArray->Nat->Prop
 | nil:Whole 0 0 ⟨#[]⟩ 0
 | bool (z:Int) (h:0<=z/\z<=1):Whole 1 z ⟨#[]⟩ 0
 | num (z:Int) (h : -999999999<=z/\z<=999999999):Whole 2 z ⟨#[]⟩ 0
 | sym (t:ByteArray) (h:t∈symTexts):Whole 3 0 t 0
 | str (t:ByteArray) (h:t∈strTexts):Whole 4 0 t 0
 | pair:Whole 5 0 ⟨#[]⟩ 2
 | vec (l:Nat):Whole 6 0 ⟨#[]⟩ l
def WholeD:D->Prop
 | .mk k z t ds=>Whole k z t ds.length
theorem IZ(ds:List D)(i:Nat)(d:D)(h:ds[i]? = some d):D.counts (ds.take (i+1))=D.counts (ds.take i)+d.count:=by
 rw[List.take_add_one,h,Eu]
 simp[D.counts]
theorem EN:∀(ds:List D) (i:Nat),D.counts (ds.take i)<=D.counts ds
 | [],i=>by simp
 | d::ds,0=>by simp[D.counts]
 | d::ds,i+1=>by
  rw[List.take_succ_cons,D.counts,D.counts]
  have:=EN ds i
  omega
def KPs(m:Nat)(R:Nat->Prop)(d:D):Prop:=∀(v:Value) (mx:Nat) (V:aC),Wf V->aL R V v d->d.count<=mx->mx<=100000->Gives ((env m).call 42 [v,.int .i64 (.ofNat mx)] none V) V fun r _=>r=.int .i64 (.ofNat d.count)
theorem AoY(m:Nat)(R:Nat->Prop)(ds:List D)(p:Option Addr)(c bx mx:Nat)(k z:Int)(t:ByteArray)(hmx:1+D.counts ds<=mx)(hmx2:mx<=100000)(hds:ds.length<1000000)(hO:∀(i:Nat) (d:D),ds[i]? = some d->KPs m R d):
  ∀(j fuel i:Nat) (f g:Nat->Value) (Z:aC),ds.length-i=j->j<fuel->i<=ds.length->Wf Z->aO R Z p 0 ds->Z.cells bx=some [.int .i64 k,.int .i64 z,.string t,.slice p ds.length c]->f 2=.pointer (some ⟨bx,0,none⟩)->f 1=.int .i64 (.ofNat mx)->f 5=.int .i64 (.ofNat (1+D.counts (ds.take i)))->f 6=.int .i64 (.ofNat i)->
   ∃f' g' V,floop [30] (Hk (env m) none 42) fuel (Sl 7 31 f g []) none Z=.done (.exit 0) (Sl 7 31 f' g' []) none V/\Ext Z V/\Wf V/\f' 5=.int .i64 (.ofNat (1+D.counts ds)):=by
 intro j
 induction j with
 | zero=>
  intro fuel i f g Z hj hf hi hw hE hc f2 f1 f5 f6
  obtain⟨fuel,rfl⟩:∃q,fuel=q+1:=⟨fuel-1,by omega⟩
  obtain rfl:i=ds.length:=by omega
  have d0:decide (Int.ofNat ds.length<Int.ofNat ds.length)=false:=by simp
  rw[Ao]
  unfold Hk
  simp -implicitDefEqProofs only[go_sem,Gr,Ht,f2,f6,hc,d0]
  exact⟨_,_,_,rfl,Ext.refl _,hw,by rw[f5,List.take_length]⟩
 | succ j ih=>
  intro fuel i f g Z hj hf hi hw hE hc f2 f1 f5 f6
  obtain⟨fuel,rfl⟩:∃q,fuel=q+1:=⟨fuel-1,by omega⟩
  have hlt:i<ds.length:=by omega
  have d0:decide (Int.ofNat i<Int.ofNat ds.length)=true:=by simp;omega
  have hd:ds[i]? = some ds[i]:=List.getElem?_eq_getElem hlt
  have ht1:=IZ ds i ds[i] hd
  have ht2:=EN ds (i+1)
  have ht3:=EN ds i
  have d1:decide (Int.ofNat (1+D.counts (ds.take i))<=Int.ofNat mx)=true:=by simp only[Int.ofNat_eq_natCast,decide_eq_true_eq];omega
  obtain⟨b,off,cs,rfl,hRb,hcs,hle,hL⟩:=aO.get hE hd
  rw[Nat.zero_add] at hle hL
  obtain⟨_,bT,e3,x3,hw3,rfl⟩:=hO i ds[i] hd _ (mx-(1+D.counts (ds.take i))) Z hw hL (by omega) (by omega)
  have a1:=Ga i (by omega)
  have s1:wrapI (Int.ofNat mx-Int.ofNat (1+D.counts (ds.take i)))=Int.ofNat (mx-(1+D.counts (ds.take i))):=by
   simp only[Int.ofNat_eq_natCast]
   rw[Dj (by omega)]
   omega
  have s2:wrapI (Int.ofNat (1+D.counts (ds.take i))+Int.ofNat ds[i].count)=Int.ofNat (1+D.counts (ds.take (i+1))):=by
   simp only[Int.ofNat_eq_natCast]
   rw[Dj (by omega)]
   omega
  have ih':=fun f g h2 h1 h5 h6=>ih fuel (i+1) f g bT (by omega) (by omega) (by omega) hw3 (hE.keep fun b cs hb hc=>⟨(x3.cells (hw.cells hc)).trans hc,hb⟩) ((x3.cells (hw.cells hc)).trans hc) h2 h1 h5 h6
  unfold Hk at ih'
  rw[Ao]
  unfold Hk
  generalize hq:1+D.counts (ds.take i)=q at *
  generalize hq2:1+D.counts (ds.take (i+1))=q2 at *
  simp -implicitDefEqProofs only[go_sem,Gr,Ht,VA,R_,VB,Sa,f1,f2,f5,f6,hc,d0,d1,hlt,hcs,hle,e3,s1,s2,a1,Ag]
  generalize hff:upd _ 6 _=f2'
  generalize hgg:upd _ 18 _=g2
  obtain⟨f3,g3,bX,e4,x4,hw4,r5⟩:=ih' f2' g2 (by rw[<-hff];simp -implicitDefEqProofs only[go_sem,reduceCtorEq,f2]) (by rw[<-hff];simp -implicitDefEqProofs only[go_sem,reduceCtorEq,f1]) (by rw[<-hff];simp -implicitDefEqProofs only[go_sem,reduceCtorEq]) (by rw[<-hff];simp -implicitDefEqProofs only[go_sem,reduceCtorEq])
  exact⟨f3,g3,bX,e4,x3.trans x4,hw4,r5⟩
theorem Qk(n:Nat)(R:Nat->Prop):∀(N:Nat) (d:D),d.deep<=N->KPs (n+N) R d:=by
 intro N
 induction N with
 | zero=>
  intro d hN
  obtain⟨k,z,t,ds⟩:=d
  rw[D.deep] at hN
  omega
 | succ N ih=>
  intro d hN v mx Z hw hL hcm hmx
  obtain⟨k,z,t,ds⟩:=d
  obtain⟨p,c,rfl,hE⟩:=hL
  obtain⟨M,hM⟩:∃M,n+N=M:=⟨_,rfl⟩
  rw[hM] at ih
  have hcd:(D.mk k z t ds).count=1+D.counts ds:=by rw[D.count];omega
  have hdl:ds.length<1000000:=by
   have:=KK ds [] 0
   rw[FI] at this
   omega
  rw[show n+(N+1)=M+1 by omega,Al _ 42 _ _ rfl,P2 _ _ _ _ (by simp),Aj]
  unfold Wx
  have x1:Ext Z (Z.push (.cells [.int .i64 k,.int .i64 z,.string t,.slice p ds.length c] TD) none):=(Ext.refl _).push _ _
  have hw1:=hw.push (.cells [.int .i64 k,.int .i64 z,.string t,.slice p ds.length c] TD) none
  have c1:(Z.push (.cells [.int .i64 k,.int .i64 z,.string t,.slice p ds.length c] TD) none).cells Z.next=some [.int .i64 k,.int .i64 z,.string t,.slice p ds.length c]:=by rw[Ah,if_pos rfl];rfl
  have hkeep:bE nls 42=[30]:=by kernel_rfl
  have lp:=fun fuel f g hf h2 h1 h5 h6=>AoY M R ds p c Z.next mx k z t (by omega) hmx hdl (fun i d hdi=>ih d (by rw[D.deep] at hN;have:=Ft (List.mem_of_getElem? hdi);omega))
   ds.length fuel 0 f g _ (by omega) hf (by omega) hw1 (hE.keep fun b cs hb hc=>⟨(x1.cells (hw.cells hc)).trans hc,hb⟩) c1 h2 h1 h5 h6
  simp -implicitDefEqProofs only[go_sem,MV,MU,MX,MW,MZ,MY,Ag,hkeep]
  generalize hbf:bF=fuel
  generalize hff:upd _ 6 _=f1
  obtain⟨f',g',bT,e3,x3,hw3,r5⟩:=lp fuel f1 (fun _=>undef) (by rw[<-hbf];show ds.length<1000000000000;omega) (by rw[<-hff];simp -implicitDefEqProofs only[go_sem,reduceCtorEq]) (by rw[<-hff];simp -implicitDefEqProofs only[go_sem,reduceCtorEq]) (by rw[<-hff];simp -implicitDefEqProofs only[go_sem,reduceCtorEq]<;>rfl) (by rw[<-hff];simp -implicitDefEqProofs only[go_sem,reduceCtorEq]<;>rfl)
  rw[e3]
  simp -implicitDefEqProofs only[go_sem,M3,M0,r5]
  exact⟨_,_,rfl,x1.trans x3,hw3,by rw[hcd]⟩
theorem OA(d:D):1<=d.count:=by
 cases d
 rw[D.count]
 omega
theorem En:∀ds:List D,ds.length<=D.counts ds
 | []=>by simp
 | d::ds=>by
  rw[D.counts,List.length_cons]
  have:=OA d
  have:=En ds
  omega
def KPm(m mx:Nat)(R:Nat->Prop)(d:D):Prop:=∀(v:Value) (V:aC),Wf V->aL R V v d->Gives ((env m).call 42 [v,.int .i64 (.ofNat mx)] none V) V fun r _=>r=.int .i64 (.ofNat (min d.count (mx+1)))
theorem UM(m:Nat)(R:Nat->Prop)(ds:List D)(p:Option Addr)(c bx mx:Nat)(k z:Int)(t:ByteArray)(fuel i:Nat)(f g:Nat->Value)(Z:aC)(hbig:mx<=D.counts (ds.take i))(hi:i<=ds.length)(hw:Wf Z)(hE:aO R Z p 0 ds)(hc:Z.cells bx=some [.int .i64 k,.int .i64 z,.string t,.slice p ds.length c])(f2:f 2=.pointer (some ⟨bx,0,none⟩))(f1:f 1=.int .i64 (.ofNat mx))(f5:f 5=.int .i64 (.ofNat (min (1+D.counts (ds.take i)) (mx+1))))(f6:f 6=.int .i64 (.ofNat i)):
  ∃f' g' V,floop [30] (Hk (env m) none 42) (fuel+1) (Sl 7 31 f g []) none Z=.done (.exit 0) (Sl 7 31 f' g' []) none V/\Ext Z V/\Wf V/\f' 5=.int .i64 (.ofNat (min (1+D.counts ds) (mx+1))):=by
 have h3:=EN ds i
 have e0:min (1+D.counts (ds.take i)) (mx+1)=mx+1:=by omega
 have e1:min (1+D.counts ds) (mx+1)=mx+1:=by omega
 rw[e0] at f5
 rw[e1]
 have d1:decide (Int.ofNat (mx+1)<=Int.ofNat mx)=false:=by simp only[Int.ofNat_eq_natCast,decide_eq_false_iff_not];omega
 rw[Ao]
 unfold Hk
 by_cases hlt:i<ds.length
 .have d0:decide (Int.ofNat i<Int.ofNat ds.length)=true:=by simp;omega
  simp -implicitDefEqProofs only[go_sem,Gr,Ht,f1,f2,f5,f6,hc,d0,d1]
  exact⟨_,_,_,rfl,Ext.refl _,hw,f5⟩
 .have d0:decide (Int.ofNat i<Int.ofNat ds.length)=false:=by simp;omega
  simp -implicitDefEqProofs only[go_sem,Gr,Ht,f1,f2,f5,f6,hc,d0]
  exact⟨_,_,_,rfl,Ext.refl _,hw,f5⟩
theorem UL(m:Nat)(R:Nat->Prop)(ds:List D)(p:Option Addr)(c bx mx:Nat)(k z:Int)(t:ByteArray)(hmx2:mx<=100000)(hO:∀(d:D) (mx':Nat),mx'<mx->KPm m mx' R d):
  ∀(j fuel i:Nat) (f g:Nat->Value) (Z:aC),mx+1-min (1+D.counts (ds.take i)) (mx+1)<=j->j<fuel->i<=ds.length->Wf Z->aO R Z p 0 ds->Z.cells bx=some [.int .i64 k,.int .i64 z,.string t,.slice p ds.length c]->f 2=.pointer (some ⟨bx,0,none⟩)->f 1=.int .i64 (.ofNat mx)->f 5=.int .i64 (.ofNat (min (1+D.counts (ds.take i)) (mx+1)))->f 6=.int .i64 (.ofNat i)->
   ∃f' g' V,floop [30] (Hk (env m) none 42) fuel (Sl 7 31 f g []) none Z=.done (.exit 0) (Sl 7 31 f' g' []) none V/\Ext Z V/\Wf V/\f' 5=.int .i64 (.ofNat (min (1+D.counts ds) (mx+1))):=by
 intro j
 induction j with
 | zero=>
  intro fuel i f g Z hj hf hi hw hE hc f2 f1 f5 f6
  obtain⟨fuel,rfl⟩:∃q,fuel=q+1:=⟨fuel-1,by omega⟩
  exact UM m R ds p c bx mx k z t fuel i f g Z (by omega) hi hw hE hc f2 f1 f5 f6
 | succ j ih=>
  intro fuel i f g Z hj hf hi hw hE hc f2 f1 f5 f6
  obtain⟨fuel,rfl⟩:∃q,fuel=q+1:=⟨fuel-1,by omega⟩
  by_cases hbig:mx<=D.counts (ds.take i)
  .exact UM m R ds p c bx mx k z t fuel i f g Z hbig hi hw hE hc f2 f1 f5 f6
  have e0:min (1+D.counts (ds.take i)) (mx+1)=1+D.counts (ds.take i):=by omega
  rw[e0] at f5
  by_cases hlt:i<ds.length
  .have d0:decide (Int.ofNat i<Int.ofNat ds.length)=true:=by simp;omega
   have hd:ds[i]? = some ds[i]:=List.getElem?_eq_getElem hlt
   have ht1:=IZ ds i ds[i] hd
   have hpos:=OA ds[i]
   have hge:=En (ds.take i)
   rw[List.length_take] at hge
   have d1:decide (Int.ofNat (1+D.counts (ds.take i))<=Int.ofNat mx)=true:=by simp only[Int.ofNat_eq_natCast,decide_eq_true_eq];omega
   obtain⟨b,off,cs,rfl,hRb,hcs,hle,hL⟩:=aO.get hE hd
   rw[Nat.zero_add] at hle hL
   obtain⟨_,bT,e3,x3,hw3,rfl⟩:=hO ds[i] (mx-(1+D.counts (ds.take i))) (by omega) _ Z hw hL
   have a1:=Ga i (by omega)
   have s1:wrapI (Int.ofNat mx-Int.ofNat (1+D.counts (ds.take i)))=Int.ofNat (mx-(1+D.counts (ds.take i))):=by
    simp only[Int.ofNat_eq_natCast]
    rw[Dj (by omega)]
    omega
   have s2:wrapI (Int.ofNat (1+D.counts (ds.take i))+Int.ofNat (min ds[i].count (mx-(1+D.counts (ds.take i))+1)))=Int.ofNat (min (1+D.counts (ds.take (i+1))) (mx+1)):=by
    simp only[Int.ofNat_eq_natCast]
    rw[Dj (by omega)]
    omega
   have ih':=fun f g h2 h1 h5 h6=>ih fuel (i+1) f g bT (by omega) (by omega) (by omega) hw3 (hE.keep fun b cs hb hc=>⟨(x3.cells (hw.cells hc)).trans hc,hb⟩) ((x3.cells (hw.cells hc)).trans hc) h2 h1 h5 h6
   unfold Hk at ih'
   rw[Ao]
   unfold Hk
   generalize hq:1+D.counts (ds.take i)=q at *
   generalize hq2:min (1+D.counts (ds.take (i+1))) (mx+1)=q2 at *
   generalize hq3:min ds[i].count (mx-q+1)=q3 at *
   simp -implicitDefEqProofs only[go_sem,Gr,Ht,VA,R_,VB,Sa,f1,f2,f5,f6,hc,d0,d1,hlt,hcs,hle,e3,s1,s2,a1,Ag]
   generalize hff:upd _ 6 _=f2'
   generalize hgg:upd _ 18 _=g2
   obtain⟨f3,g3,bX,e4,x4,hw4,r5⟩:=ih' f2' g2 (by rw[<-hff];simp -implicitDefEqProofs only[go_sem,reduceCtorEq,f2]) (by rw[<-hff];simp -implicitDefEqProofs only[go_sem,reduceCtorEq,f1]) (by rw[<-hff];simp -implicitDefEqProofs only[go_sem,reduceCtorEq]) (by rw[<-hff];simp -implicitDefEqProofs only[go_sem,reduceCtorEq])
   exact⟨f3,g3,bX,e4,x3.trans x4,hw4,r5⟩
  .obtain rfl:i=ds.length:=by omega
   rw[List.take_length] at e0 f5
   rw[e0]
   have d0:decide (Int.ofNat ds.length<Int.ofNat ds.length)=false:=by simp
   rw[Ao]
   unfold Hk
   simp -implicitDefEqProofs only[go_sem,Gr,Ht,f2,f6,hc,d0]
   exact⟨_,_,_,rfl,Ext.refl _,hw,f5⟩
theorem AfE(n:Nat)(R:Nat->Prop):∀(N mx:Nat) (d:D),mx<=N->N<=100000->KPm (n+N+1) mx R d:=by
 intro N
 induction N with
 | zero=>
  intro mx d hN hN2 v Z hw hL
  obtain⟨k,z,t,ds⟩:=d
  obtain⟨p,c,rfl,hE⟩:=hL
  have hcd:(D.mk k z t ds).count=1+D.counts ds:=by rw[D.count];omega
  obtain rfl:mx=0:=by omega
  rw[show n+0+1=n+1 by omega,Al _ 42 _ _ rfl,P2 _ _ _ _ (by simp),Aj]
  unfold Wx
  have x1:Ext Z (Z.push (.cells [.int .i64 k,.int .i64 z,.string t,.slice p ds.length c] TD) none):=(Ext.refl _).push _ _
  have hw1:=hw.push (.cells [.int .i64 k,.int .i64 z,.string t,.slice p ds.length c] TD) none
  have c1:(Z.push (.cells [.int .i64 k,.int .i64 z,.string t,.slice p ds.length c] TD) none).cells Z.next=some [.int .i64 k,.int .i64 z,.string t,.slice p ds.length c]:=by rw[Ah,if_pos rfl];rfl
  have hkeep:bE nls 42=[30]:=by kernel_rfl
  have lp:=fun fuel f g hf h2 h1 h5 h6=>UL n R ds p c Z.next 0 k z t (by omega) (fun d mx' h=>by omega)
   0 fuel 0 f g _ (by omega) hf (by omega) hw1 (hE.keep fun b cs hb hc=>⟨(x1.cells (hw.cells hc)).trans hc,hb⟩) c1 h2 h1 h5 h6
  simp -implicitDefEqProofs only[go_sem,MV,MU,MX,MW,MZ,MY,Ag,hkeep]
  generalize hbf:bF=fuel
  generalize hff:upd _ 6 _=f1
  obtain⟨f',g',bT,e3,x3,hw3,r5⟩:=lp fuel f1 (fun _=>undef) (by rw[<-hbf];show 0<1000000000000;omega) (by rw[<-hff];simp -implicitDefEqProofs only[go_sem,reduceCtorEq]) (by rw[<-hff];simp -implicitDefEqProofs only[go_sem,reduceCtorEq]<;>rfl) (by rw[<-hff];simp -implicitDefEqProofs only[go_sem,reduceCtorEq]<;>rfl) (by rw[<-hff];simp -implicitDefEqProofs only[go_sem,reduceCtorEq]<;>rfl)
  rw[e3]
  simp -implicitDefEqProofs only[go_sem,M3,M0,r5]
  exact⟨_,_,rfl,x1.trans x3,hw3,by rw[hcd]⟩
 | succ N ih=>
  intro mx d hN hN2 v Z hw hL
  obtain⟨k,z,t,ds⟩:=d
  obtain⟨p,c,rfl,hE⟩:=hL
  obtain⟨M,hM⟩:∃M,n+N+1=M:=⟨_,rfl⟩
  rw[hM] at ih
  have hcd:(D.mk k z t ds).count=1+D.counts ds:=by rw[D.count];omega
  rw[show n+(N+1)+1=M+1 by omega,Al _ 42 _ _ rfl,P2 _ _ _ _ (by simp),Aj]
  unfold Wx
  have x1:Ext Z (Z.push (.cells [.int .i64 k,.int .i64 z,.string t,.slice p ds.length c] TD) none):=(Ext.refl _).push _ _
  have hw1:=hw.push (.cells [.int .i64 k,.int .i64 z,.string t,.slice p ds.length c] TD) none
  have c1:(Z.push (.cells [.int .i64 k,.int .i64 z,.string t,.slice p ds.length c] TD) none).cells Z.next=some [.int .i64 k,.int .i64 z,.string t,.slice p ds.length c]:=by rw[Ah,if_pos rfl];rfl
  have hkeep:bE nls 42=[30]:=by kernel_rfl
  have lp:=fun fuel f g hf h2 h1 h5 h6=>UL M R ds p c Z.next mx k z t (by omega) (fun d mx' h=>ih mx' d (by omega) (by omega))
   mx fuel 0 f g _ (by simp[D.counts]) hf (by omega) hw1 (hE.keep fun b cs hb hc=>⟨(x1.cells (hw.cells hc)).trans hc,hb⟩) c1 h2 h1 h5 h6
  simp -implicitDefEqProofs only[go_sem,MV,MU,MX,MW,MZ,MY,Ag,hkeep]
  generalize hbf:bF=fuel
  generalize hff:upd _ 6 _=f1
  obtain⟨f',g',bT,e3,x3,hw3,r5⟩:=lp fuel f1 (fun _=>undef) (by rw[<-hbf];show mx<1000000000000;omega) (by rw[<-hff];simp -implicitDefEqProofs only[go_sem,reduceCtorEq]) (by rw[<-hff];simp -implicitDefEqProofs only[go_sem,reduceCtorEq]) (by rw[<-hff];simp -implicitDefEqProofs only[go_sem,reduceCtorEq,List.take_zero,D.counts,Nat.add_zero];rw[show min 1 (mx+1)=1 by omega];rfl) (by rw[<-hff];simp -implicitDefEqProofs only[go_sem,reduceCtorEq]<;>rfl)
  rw[e3]
  simp -implicitDefEqProofs only[go_sem,M3,M0,r5]
  exact⟨_,_,rfl,x1.trans x3,hw3,by rw[hcd]⟩
end
section
open Go Go.Eng
variable (E:Env) (ro:Option Nat) (last:List Nat->aZ) (cl:List Nat) (a:aY) (u:Option FrameMode) (Z:aC)
def Ab3(_:Unit):List COp:=[⟨fun a Z=>fbox 24 (a.get 0) Z,some 1,tT⟩,
 ⟨fun a Z=>.val (.bool false) Z,some 2,tT⟩]
def Axl:List COp:=Ab3 ()
def Ab5(_:Unit):List COp:=[⟨fun a Z=>aG (some 4) (a.get 1) Z,some 3,tT⟩,
 ⟨fun a Z=>.enter 42 [(a.get 3),(.int .i64 150)] Z,some 4,tT⟩,
 ⟨fun a Z=>i_gtr Tryz.prog 3 (.tmp 4) (.const (.int .i64 150)) (a.get 4) (.int .i64 150) Z,some 5,tT⟩,
 ⟨fun a Z=>.val (a.get 5) Z,some 6,tT⟩,
 ⟨fun a Z=>aG (some 4) (a.get 1) Z,some 7,fun a=>gd (a.get 6) false⟩,
 ⟨fun a Z=>.enter 43 [(a.get 7)] Z,some 8,fun a=>gd (a.get 6) false⟩,
 ⟨fun a Z=>bM (a.get 6) (.bool true) (a.get 8) Z,some 9,tT⟩,
 ⟨fun a Z=>.val (a.get 9) Z,some 2,tT⟩]
def Axm:List COp:=Ab5 ()
def AwB(E:Env)(ro:Option Nat)(fn:FuncId):aZ:=(aF (aD E ro Axl) (aF (aD E ro Axm) bL))
theorem Ab4:aD E ro Axl a u Z=aD E ro (Ab3 ()) a u Z:=rfl
theorem Ab6:aD E ro Axm a u Z=aD E ro (Ab5 ()) a u Z:=rfl
theorem AwO(E:Env)(ro:Option Nat)(fn:FuncId):code Tryz.prog nls (Tryz.f6.body.getD .skip) E ro fn=AwB E ro fn:=by kernel_rfl
theorem Avp(E:Env)(args:List Value)(u:Option FrameMode)(Z:aC)(hn:args.length<=(2:Nat)):bD Tryz.prog nls E 6 args u Z=aP Tryz.prog E [.tmp 2] (AwB E none 6 ⟨bB undef 2 args,fun _=>undef,2,10,[]⟩ u Z):=by
 rw[Ap (body:=Tryz.f6.body.getD .skip) Tryz.func6 rfl E args u Z 2 10 (by kernel_rfl) rfl ⟨hn,by decide⟩,AwO]
 rfl
def Sb(_:Unit):List COp:=[⟨fun a Z=>fbox 24 (a.get 0) Z,some 1,tT⟩,
 ⟨fun a Z=>.val (.bool false) Z,some 2,tT⟩]
def ArV:List COp:=Sb ()
def Sc(_:Unit):List COp:=[⟨fun a Z=>aH 2 (a.get 1) Z,some 4,tT⟩,
 ⟨fun a Z=>aG none (a.get 4) Z,some 5,tT⟩,
 ⟨fun a Z=>flenS (a.get 5) Z,some 6,tT⟩,
 ⟨fun a Z=>i_gtr Tryz.prog 3 (.tmp 6) (.const (.int .i64 100)) (a.get 6) (.int .i64 100) Z,some 7,tT⟩]
def ArW:List COp:=Sc ()
def YE(_:Unit):List COp:=[⟨fun a Z=>.val (.bool true) Z,some 2,tT⟩]
def ArX:List COp:=YE ()
def YF(_:Unit):List COp:=[⟨fun a Z=>.val (.int .i64 0) Z,some 3,tT⟩]
def ArY:List COp:=YF ()
def M4(_:Unit):List COp:=[⟨fun a Z=>.val (a.get 3) Z,some 8,tT⟩,
 ⟨fun a Z=>aH 3 (a.get 1) Z,some 9,tT⟩,
 ⟨fun a Z=>aG none (a.get 9) Z,some 10,tT⟩,
 ⟨fun a Z=>flenL (a.get 10) Z,some 11,tT⟩,
 ⟨fun a Z=>i_lss Tryz.prog 3 (.tmp 8) (.tmp 11) (a.get 8) (a.get 11) Z,some 12,tT⟩]
def ArZ:List COp:=M4 ()
def Sd(_:Unit):List COp:=[⟨fun a Z=>aH 3 (a.get 1) Z,some 15,tT⟩,
 ⟨fun a Z=>aG none (a.get 15) Z,some 16,tT⟩,
 ⟨fun a Z=>.val (a.get 3) Z,some 17,tT⟩,
 ⟨fun a Z=>bC (none,4) (a.get 16) (a.get 17) Z,some 18,tT⟩,
 ⟨fun a Z=>aG (some 4) (a.get 18) Z,some 19,tT⟩,
 ⟨fun a Z=>.enter 43 [(a.get 19)] Z,some 20,tT⟩]
def Ar1:List COp:=Sd ()
def YH(_:Unit):List COp:=[⟨fun a Z=>.val (.bool true) Z,some 2,tT⟩]
def Ar2:List COp:=YH ()
def YG(_:Unit):List COp:=[⟨fun a Z=>.val (a.get 3) Z,some 13,tT⟩,
 ⟨fun a Z=>i_add Tryz.prog 3 (.tmp 13) (.const (.int .i64 1)) (a.get 13) (.int .i64 1) Z,some 14,tT⟩,
 ⟨fun a Z=>.val (a.get 14) Z,some 3,tT⟩]
def Ar0:List COp:=YG ()
def KD(E:Env)(ro:Option Nat)(fn:FuncId):aZ:=(aF (aF (aD E ro ArZ) (aN (fun a=>(a.get 12)) aV (exitR 0))) (aF (aW 1 (aF (aD E ro Ar1) (aN (fun a=>(a.get 20)) (aF (aD E ro Ar2) bL) aV))) (aD E ro Ar0)))
def YI(_:Unit):List COp:=[⟨fun a Z=>.val (.bool false) Z,some 2,tT⟩]
def Ar3:List COp:=YI ()
def AmA(E:Env)(ro:Option Nat)(fn:FuncId):aZ:=(aF (aD E ro ArV) (aF (aF (aD E ro ArW) (aN (fun a=>(a.get 7)) (aF (aD E ro ArX) bL) aV)) (aF (aF (aD E ro ArY) (aW 0 (loopR (bE nls fn) (KD E ro fn)))) (aF (aD E ro Ar3) bL))))
theorem VC:aD E ro ArV a u Z=aD E ro (Sb ()) a u Z:=rfl
theorem VD:aD E ro ArW a u Z=aD E ro (Sc ()) a u Z:=rfl
theorem Aj5:aD E ro ArX a u Z=aD E ro (YE ()) a u Z:=rfl
theorem Aj6:aD E ro ArY a u Z=aD E ro (YF ()) a u Z:=rfl
theorem M5:aD E ro ArZ a u Z=aD E ro (M4 ()) a u Z:=rfl
theorem VE:aD E ro Ar1 a u Z=aD E ro (Sd ()) a u Z:=rfl
theorem Aj8:aD E ro Ar2 a u Z=aD E ro (YH ()) a u Z:=rfl
theorem Aj7:aD E ro Ar0 a u Z=aD E ro (YG ()) a u Z:=rfl
theorem Aj9:aD E ro Ar3 a u Z=aD E ro (YI ()) a u Z:=rfl
theorem AuS(E:Env)(ro:Option Nat)(fn:FuncId):code Tryz.prog nls (Tryz.f43.body.getD .skip) E ro fn=AmA E ro fn:=by kernel_rfl
theorem Aoo(E:Env)(args:List Value)(u:Option FrameMode)(Z:aC)(hn:args.length<=(4:Nat)):bD Tryz.prog nls E 43 args u Z=aP Tryz.prog E [.tmp 2] (AmA E none 43 ⟨bB undef 4 args,fun _=>undef,4,21,[]⟩ u Z):=by
 rw[Ap (body:=Tryz.f43.body.getD .skip) Tryz.func43 rfl E args u Z 4 21 (by kernel_rfl) rfl ⟨hn,by decide⟩,AuS]
 rfl
def Lz(_:Unit):List COp:=[⟨fun a Z=>.val (.bool false) Z,some 2,tT⟩]
def Aio:List COp:=Lz ()
def LA(_:Unit):List COp:=[⟨fun a Z=>.val (a.get 0) Z,some 3,tT⟩,
 ⟨fun a Z=>i_leq Tryz.prog 5 (.const (.int .u8 48)) (.tmp 3) (.int .u8 48) (a.get 3) Z,some 4,tT⟩,
 ⟨fun a Z=>.val (a.get 4) Z,some 5,tT⟩,
 ⟨fun a Z=>.val (a.get 0) Z,some 6,fun a=>gd (a.get 5) true⟩,
 ⟨fun a Z=>i_leq Tryz.prog 5 (.tmp 6) (.const (.int .u8 57)) (a.get 6) (.int .u8 57) Z,some 7,fun a=>gd (a.get 5) true⟩,
 ⟨fun a Z=>bM (a.get 5) (a.get 7) (.bool false) Z,some 8,tT⟩,
 ⟨fun a Z=>.val (a.get 8) Z,some 2,tT⟩]
def Aip:List COp:=LA ()
def AaJ(E:Env)(ro:Option Nat)(fn:FuncId):aZ:=(aF (aD E ro Aio) (aF (aD E ro Aip) bL))
theorem Pz:aD E ro Aio a u Z=aD E ro (Lz ()) a u Z:=rfl
theorem PA:aD E ro Aip a u Z=aD E ro (LA ()) a u Z:=rfl
theorem AnW(E:Env)(ro:Option Nat)(fn:FuncId):code Tryz.prog nls (Tryz.f171.body.getD .skip) E ro fn=AaJ E ro fn:=by kernel_rfl
theorem Afi(E:Env)(args:List Value)(u:Option FrameMode)(Z:aC)(hn:args.length<=(2:Nat)):bD Tryz.prog nls E 171 args u Z=aP Tryz.prog E [.tmp 2] (AaJ E none 171 ⟨bB undef 2 args,fun _=>undef,2,9,[]⟩ u Z):=by
 rw[Ap (body:=Tryz.f171.body.getD .skip) Tryz.func171 rfl E args u Z 2 9 (by kernel_rfl) rfl ⟨hn,by decide⟩,AnW]
 rfl
end
section
open Go Go.Eng
attribute [local congr] Aa Af Ae Ab Ad
attribute [-go_sem] List.range_succ
def digC(c:Nat):Bool:=decide (48<=c)&&decide (c<=57)
def signs:List Nat:=[45,43,42,47,60,62,61,63,33]
def symC(c:Nat):Bool:=(decide (97<=c)&&decide (c<=122))||digC c||signs.contains c
def bA(t:ByteArray)(i:Nat):Nat:=t[i]!.toNat
def symB(t:ByteArray):Bool:=decide (1<=t.size)&&decide (t.size<=20)&&!digC (bA t 0)&&!(bA t 0==45&&decide (1<t.size)&&digC (bA t 1))&&(List.range t.size).all fun i=>symC (bA t i)
theorem EA(s:ByteArray)(i:Nat)(h:i<s.size)(Z:aC):bQ (.string s) (.int .i64 (.ofNat i)) Z=.val (.int .u8 (bA s i:Nat)) Z:=by
 have e:s[i]? = some s[i]!:=by rw[getElem?_pos s i h,getElem!_pos s i h]
 unfold bQ natOf
 simp only[e]
 rfl
theorem OL(s:ByteArray)(h:0<s.size)(Z:aC):bQ (.string s) (.int .i64 0) Z=.val (.int .u8 (bA s 0:Nat)) Z:=EA s 0 h Z
theorem OM(s:ByteArray)(h:1<s.size)(Z:aC):bQ (.string s) (.int .i64 1) Z=.val (.int .u8 (bA s 1:Nat)) Z:=EA s 1 h Z
theorem D1(x y:Operand)(a b:Int)(Z:aC):i_leq Tryz.prog 5 x y (.int .u8 a) (.int .u8 b) Z=.val (.bool (decide (a<=b))) Z:=by kernel_rfl
theorem Xw(x y:Operand)(a b:Int)(Z:aC):i_lss Tryz.prog 5 x y (.int .u8 a) (.int .u8 b) Z=.val (.bool (decide (a<b))) Z:=by kernel_rfl
theorem Xe(x y:Operand)(a b:Int)(Z:aC):i_gtr Tryz.prog 5 x y (.int .u8 a) (.int .u8 b) Z=.val (.bool (decide (a>b))) Z:=by kernel_rfl
theorem D4(x y:Operand)(a b:Int)(Z:aC):bO Tryz.prog 5 x y (.int .u8 a) (.int .u8 b) Z=.val (.bool (a==b)) Z:=by kernel_rfl
theorem LO(n c:Nat)(Z:aC):(env (n+1)).call 171 [.int .u8 (c:Int)] none Z=.ret (.bool (digC c)) none Z:=by
 rw[Al _ 171 _ _ rfl,Afi _ _ _ _ (by simp),Aj]
 unfold AaJ digC
 by_cases h:48<=c
 .have d0:decide ((48:Int)<=(c:Int))=true:=by simp;omega
  have d1:decide ((c:Int)<=57)=decide (c<=57):=by simp;omega
  have d2:decide (48<=c)=true:=by simp;omega
  simp -implicitDefEqProofs only[go_sem,Pz,Lz,PA,LA,D1,d0,d1,d2,Bool.true_and]
 .have d0:decide ((48:Int)<=(c:Int))=false:=by simp;omega
  have d2:decide (48<=c)=false:=by simp;omega
  simp -implicitDefEqProofs only[go_sem,Pz,Lz,PA,LA,D1,d0,d2,Bool.false_and]
theorem Aqe(n i c:Nat)(t:ByteArray)(f g:Nat->Value)(Z:aC)(hi:i<t.size)(hsz:i<1000000)(hc:bA t i=c)(f0:f 0=.string t)(f3:f 3=.int .i64 (.ofNat i)):
  ∃f' g',f' 0=.string t/\((symC c=true/\F9 (env (n+1)) none 146 (Sl 5 63 f g []) none Z=.done .normal (Sl 5 63 f' g' []) none Z/\f' 3=.int .i64 (.ofNat (i+1)))\/
   (symC c=false/\F9 (env (n+1)) none 146 (Sl 5 63 f g []) none Z=.done .ret (Sl 5 63 f' g' []) none Z/\f' 2=.bool false)):=by
 have d0:decide (Int.ofNat i<Int.ofNat t.size)=true:=by simp;omega
 have hb:=EA t i hi Z
 rw[hc] at hb
 have a1:=Ga i (by omega)
 have hdg:=LO n c Z
 unfold F9
 by_cases hl:97<=c/\c<=122
 .have l1:decide ((97:Int)<=(c:Int))=true:=by simp;omega
  have l2:decide ((c:Int)<=122)=true:=by simp;omega
  simp -implicitDefEqProofs only[go_sem,Cj,Dk,CD,Dq,CE,Dr,CF,Dt,CG,Du,CH,Dv,BO,CI,BP,CJ,BQ,CK,BR,CL,BS,CM,BT,CN,BU,CO,BV,CP,BW,CQ,f0,f3,d0,hb,a1,l1,l2,Ag,D1]
  refine⟨_,_,?_,.inl ⟨by unfold symC;simp;omega,rfl,?_⟩⟩
  .simp -implicitDefEqProofs only[go_sem,reduceCtorEq,f0]
  .simp -implicitDefEqProofs only[go_sem,reduceCtorEq]
 .have hnl:(decide (97<=c)&&decide (c<=122))=false:=by simp;omega
  cases hd:digC c with
  | true=>
   rw[hd] at hdg
   by_cases h97:97<=c
   .have l1:decide ((97:Int)<=(c:Int))=true:=by simp;omega
    have l2:decide ((c:Int)<=122)=false:=by simp;omega
    simp -implicitDefEqProofs only[go_sem,Cj,Dk,CD,Dq,CE,Dr,CF,Dt,CG,Du,CH,Dv,BO,CI,BP,CJ,BQ,CK,BR,CL,BS,CM,BT,CN,BU,CO,BV,CP,BW,CQ,f0,f3,d0,hb,a1,l1,l2,hdg,Ag,D1]
    refine⟨_,_,?_,.inl ⟨by unfold symC;rw[hd];simp,rfl,?_⟩⟩
    .simp -implicitDefEqProofs only[go_sem,reduceCtorEq,f0]
    .simp -implicitDefEqProofs only[go_sem,reduceCtorEq]
   .have l1:decide ((97:Int)<=(c:Int))=false:=by simp;omega
    simp -implicitDefEqProofs only[go_sem,Cj,Dk,CD,Dq,CE,Dr,CF,Dt,CG,Du,CH,Dv,BO,CI,BP,CJ,BQ,CK,BR,CL,BS,CM,BT,CN,BU,CO,BV,CP,BW,CQ,f0,f3,d0,hb,a1,l1,hdg,Ag,D1]
    refine⟨_,_,?_,.inl ⟨by unfold symC;rw[hd];simp,rfl,?_⟩⟩
    .simp -implicitDefEqProofs only[go_sem,reduceCtorEq,f0]
    .simp -implicitDefEqProofs only[go_sem,reduceCtorEq]
  | false=>
   rw[hd] at hdg
   have hsg:symC c=signs.contains c:=by unfold symC;rw[hnl,hd];rfl
   rw[hsg]
   by_cases h0:c=45
   .have e0:((c:Int)==45)=true:=by simp;omega
    by_cases h97:97<=c
    .have l1:decide ((97:Int)<=(c:Int))=true:=by simp;omega
     have l2:decide ((c:Int)<=122)=false:=by simp;omega
     simp -implicitDefEqProofs only[go_sem,Cj,Dk,CD,Dq,CE,Dr,CF,Dt,CG,Du,CH,Dv,BO,CI,BP,CJ,BQ,CK,BR,CL,BS,CM,BT,CN,BU,CO,BV,CP,BW,CQ,f0,f3,d0,hb,a1,l1,l2,hdg,e0,Ag,D4,D1]
     refine⟨_,_,?_,.inl ⟨?_,rfl,?_⟩⟩
     .simp -implicitDefEqProofs only[go_sem,reduceCtorEq,f0]
     .simp[signs];omega
     .simp -implicitDefEqProofs only[go_sem,reduceCtorEq]
    .have l1:decide ((97:Int)<=(c:Int))=false:=by simp;omega
     simp -implicitDefEqProofs only[go_sem,Cj,Dk,CD,Dq,CE,Dr,CF,Dt,CG,Du,CH,Dv,BO,CI,BP,CJ,BQ,CK,BR,CL,BS,CM,BT,CN,BU,CO,BV,CP,BW,CQ,f0,f3,d0,hb,a1,l1,hdg,e0,Ag,D4,D1]
     refine⟨_,_,?_,.inl ⟨?_,rfl,?_⟩⟩
     .simp -implicitDefEqProofs only[go_sem,reduceCtorEq,f0]
     .simp[signs];omega
     .simp -implicitDefEqProofs only[go_sem,reduceCtorEq]
   .have e0:((c:Int)==45)=false:=by simp;omega
    by_cases h1:c=43
    .have e1:((c:Int)==43)=true:=by simp;omega
     by_cases h97:97<=c
     .have l1:decide ((97:Int)<=(c:Int))=true:=by simp;omega
      have l2:decide ((c:Int)<=122)=false:=by simp;omega
      simp -implicitDefEqProofs only[go_sem,Cj,Dk,CD,Dq,CE,Dr,CF,Dt,CG,Du,CH,Dv,BO,CI,BP,CJ,BQ,CK,BR,CL,BS,CM,BT,CN,BU,CO,BV,CP,BW,CQ,f0,f3,d0,hb,a1,l1,l2,hdg,e0,e1,Ag,D4,D1]
      refine⟨_,_,?_,.inl ⟨?_,rfl,?_⟩⟩
      .simp -implicitDefEqProofs only[go_sem,reduceCtorEq,f0]
      .simp[signs];omega
      .simp -implicitDefEqProofs only[go_sem,reduceCtorEq]
     .have l1:decide ((97:Int)<=(c:Int))=false:=by simp;omega
      simp -implicitDefEqProofs only[go_sem,Cj,Dk,CD,Dq,CE,Dr,CF,Dt,CG,Du,CH,Dv,BO,CI,BP,CJ,BQ,CK,BR,CL,BS,CM,BT,CN,BU,CO,BV,CP,BW,CQ,f0,f3,d0,hb,a1,l1,hdg,e0,e1,Ag,D4,D1]
      refine⟨_,_,?_,.inl ⟨?_,rfl,?_⟩⟩
      .simp -implicitDefEqProofs only[go_sem,reduceCtorEq,f0]
      .simp[signs];omega
      .simp -implicitDefEqProofs only[go_sem,reduceCtorEq]
    .have e1:((c:Int)==43)=false:=by simp;omega
     by_cases h2:c=42
     .have e2:((c:Int)==42)=true:=by simp;omega
      by_cases h97:97<=c
      .have l1:decide ((97:Int)<=(c:Int))=true:=by simp;omega
       have l2:decide ((c:Int)<=122)=false:=by simp;omega
       simp -implicitDefEqProofs only[go_sem,Cj,Dk,CD,Dq,CE,Dr,CF,Dt,CG,Du,CH,Dv,BO,CI,BP,CJ,BQ,CK,BR,CL,BS,CM,BT,CN,BU,CO,BV,CP,BW,CQ,f0,f3,d0,hb,a1,l1,l2,hdg,e0,e1,e2,Ag,D4,D1]
       refine⟨_,_,?_,.inl ⟨?_,rfl,?_⟩⟩
       .simp -implicitDefEqProofs only[go_sem,reduceCtorEq,f0]
       .simp[signs];omega
       .simp -implicitDefEqProofs only[go_sem,reduceCtorEq]
      .have l1:decide ((97:Int)<=(c:Int))=false:=by simp;omega
       simp -implicitDefEqProofs only[go_sem,Cj,Dk,CD,Dq,CE,Dr,CF,Dt,CG,Du,CH,Dv,BO,CI,BP,CJ,BQ,CK,BR,CL,BS,CM,BT,CN,BU,CO,BV,CP,BW,CQ,f0,f3,d0,hb,a1,l1,hdg,e0,e1,e2,Ag,D4,D1]
       refine⟨_,_,?_,.inl ⟨?_,rfl,?_⟩⟩
       .simp -implicitDefEqProofs only[go_sem,reduceCtorEq,f0]
       .simp[signs];omega
       .simp -implicitDefEqProofs only[go_sem,reduceCtorEq]
     .have e2:((c:Int)==42)=false:=by simp;omega
      by_cases h3:c=47
      .have e3:((c:Int)==47)=true:=by simp;omega
       by_cases h97:97<=c
       .have l1:decide ((97:Int)<=(c:Int))=true:=by simp;omega
        have l2:decide ((c:Int)<=122)=false:=by simp;omega
        simp -implicitDefEqProofs only[go_sem,Cj,Dk,CD,Dq,CE,Dr,CF,Dt,CG,Du,CH,Dv,BO,CI,BP,CJ,BQ,CK,BR,CL,BS,CM,BT,CN,BU,CO,BV,CP,BW,CQ,f0,f3,d0,hb,a1,l1,l2,hdg,e0,e1,e2,e3,Ag,D4,D1]
        refine⟨_,_,?_,.inl ⟨?_,rfl,?_⟩⟩
        .simp -implicitDefEqProofs only[go_sem,reduceCtorEq,f0]
        .simp[signs];omega
        .simp -implicitDefEqProofs only[go_sem,reduceCtorEq]
       .have l1:decide ((97:Int)<=(c:Int))=false:=by simp;omega
        simp -implicitDefEqProofs only[go_sem,Cj,Dk,CD,Dq,CE,Dr,CF,Dt,CG,Du,CH,Dv,BO,CI,BP,CJ,BQ,CK,BR,CL,BS,CM,BT,CN,BU,CO,BV,CP,BW,CQ,f0,f3,d0,hb,a1,l1,hdg,e0,e1,e2,e3,Ag,D4,D1]
        refine⟨_,_,?_,.inl ⟨?_,rfl,?_⟩⟩
        .simp -implicitDefEqProofs only[go_sem,reduceCtorEq,f0]
        .simp[signs];omega
        .simp -implicitDefEqProofs only[go_sem,reduceCtorEq]
      .have e3:((c:Int)==47)=false:=by simp;omega
       by_cases h4:c=60
       .have e4:((c:Int)==60)=true:=by simp;omega
        by_cases h97:97<=c
        .have l1:decide ((97:Int)<=(c:Int))=true:=by simp;omega
         have l2:decide ((c:Int)<=122)=false:=by simp;omega
         simp -implicitDefEqProofs only[go_sem,Cj,Dk,CD,Dq,CE,Dr,CF,Dt,CG,Du,CH,Dv,BO,CI,BP,CJ,BQ,CK,BR,CL,BS,CM,BT,CN,BU,CO,BV,CP,BW,CQ,f0,f3,d0,hb,a1,l1,l2,hdg,e0,e1,e2,e3,e4,Ag,D4,D1]
         refine⟨_,_,?_,.inl ⟨?_,rfl,?_⟩⟩
         .simp -implicitDefEqProofs only[go_sem,reduceCtorEq,f0]
         .simp[signs];omega
         .simp -implicitDefEqProofs only[go_sem,reduceCtorEq]
        .have l1:decide ((97:Int)<=(c:Int))=false:=by simp;omega
         simp -implicitDefEqProofs only[go_sem,Cj,Dk,CD,Dq,CE,Dr,CF,Dt,CG,Du,CH,Dv,BO,CI,BP,CJ,BQ,CK,BR,CL,BS,CM,BT,CN,BU,CO,BV,CP,BW,CQ,f0,f3,d0,hb,a1,l1,hdg,e0,e1,e2,e3,e4,Ag,D4,D1]
         refine⟨_,_,?_,.inl ⟨?_,rfl,?_⟩⟩
         .simp -implicitDefEqProofs only[go_sem,reduceCtorEq,f0]
         .simp[signs];omega
         .simp -implicitDefEqProofs only[go_sem,reduceCtorEq]
       .have e4:((c:Int)==60)=false:=by simp;omega
        by_cases h5:c=62
        .have e5:((c:Int)==62)=true:=by simp;omega
         by_cases h97:97<=c
         .have l1:decide ((97:Int)<=(c:Int))=true:=by simp;omega
          have l2:decide ((c:Int)<=122)=false:=by simp;omega
          simp -implicitDefEqProofs only[go_sem,Cj,Dk,CD,Dq,CE,Dr,CF,Dt,CG,Du,CH,Dv,BO,CI,BP,CJ,BQ,CK,BR,CL,BS,CM,BT,CN,BU,CO,BV,CP,BW,CQ,f0,f3,d0,hb,a1,l1,l2,hdg,e0,e1,e2,e3,e4,e5,Ag,D4,D1]
          refine⟨_,_,?_,.inl ⟨?_,rfl,?_⟩⟩
          .simp -implicitDefEqProofs only[go_sem,reduceCtorEq,f0]
          .simp[signs];omega
          .simp -implicitDefEqProofs only[go_sem,reduceCtorEq]
         .have l1:decide ((97:Int)<=(c:Int))=false:=by simp;omega
          simp -implicitDefEqProofs only[go_sem,Cj,Dk,CD,Dq,CE,Dr,CF,Dt,CG,Du,CH,Dv,BO,CI,BP,CJ,BQ,CK,BR,CL,BS,CM,BT,CN,BU,CO,BV,CP,BW,CQ,f0,f3,d0,hb,a1,l1,hdg,e0,e1,e2,e3,e4,e5,Ag,D4,D1]
          refine⟨_,_,?_,.inl ⟨?_,rfl,?_⟩⟩
          .simp -implicitDefEqProofs only[go_sem,reduceCtorEq,f0]
          .simp[signs];omega
          .simp -implicitDefEqProofs only[go_sem,reduceCtorEq]
        .have e5:((c:Int)==62)=false:=by simp;omega
         by_cases h6:c=61
         .have e6:((c:Int)==61)=true:=by simp;omega
          by_cases h97:97<=c
          .have l1:decide ((97:Int)<=(c:Int))=true:=by simp;omega
           have l2:decide ((c:Int)<=122)=false:=by simp;omega
           simp -implicitDefEqProofs only[go_sem,Cj,Dk,CD,Dq,CE,Dr,CF,Dt,CG,Du,CH,Dv,BO,CI,BP,CJ,BQ,CK,BR,CL,BS,CM,BT,CN,BU,CO,BV,CP,BW,CQ,f0,f3,d0,hb,a1,l1,l2,hdg,e0,e1,e2,e3,e4,e5,e6,Ag,D4,D1]
           refine⟨_,_,?_,.inl ⟨?_,rfl,?_⟩⟩
           .simp -implicitDefEqProofs only[go_sem,reduceCtorEq,f0]
           .simp[signs];omega
           .simp -implicitDefEqProofs only[go_sem,reduceCtorEq]
          .have l1:decide ((97:Int)<=(c:Int))=false:=by simp;omega
           simp -implicitDefEqProofs only[go_sem,Cj,Dk,CD,Dq,CE,Dr,CF,Dt,CG,Du,CH,Dv,BO,CI,BP,CJ,BQ,CK,BR,CL,BS,CM,BT,CN,BU,CO,BV,CP,BW,CQ,f0,f3,d0,hb,a1,l1,hdg,e0,e1,e2,e3,e4,e5,e6,Ag,D4,D1]
           refine⟨_,_,?_,.inl ⟨?_,rfl,?_⟩⟩
           .simp -implicitDefEqProofs only[go_sem,reduceCtorEq,f0]
           .simp[signs];omega
           .simp -implicitDefEqProofs only[go_sem,reduceCtorEq]
         .have e6:((c:Int)==61)=false:=by simp;omega
          by_cases h7:c=63
          .have e7:((c:Int)==63)=true:=by simp;omega
           by_cases h97:97<=c
           .have l1:decide ((97:Int)<=(c:Int))=true:=by simp;omega
            have l2:decide ((c:Int)<=122)=false:=by simp;omega
            simp -implicitDefEqProofs only[go_sem,Cj,Dk,CD,Dq,CE,Dr,CF,Dt,CG,Du,CH,Dv,BO,CI,BP,CJ,BQ,CK,BR,CL,BS,CM,BT,CN,BU,CO,BV,CP,BW,CQ,f0,f3,d0,hb,a1,l1,l2,hdg,e0,e1,e2,e3,e4,e5,e6,e7,Ag,D4,D1]
            refine⟨_,_,?_,.inl ⟨?_,rfl,?_⟩⟩
            .simp -implicitDefEqProofs only[go_sem,reduceCtorEq,f0]
            .simp[signs];omega
            .simp -implicitDefEqProofs only[go_sem,reduceCtorEq]
           .have l1:decide ((97:Int)<=(c:Int))=false:=by simp;omega
            simp -implicitDefEqProofs only[go_sem,Cj,Dk,CD,Dq,CE,Dr,CF,Dt,CG,Du,CH,Dv,BO,CI,BP,CJ,BQ,CK,BR,CL,BS,CM,BT,CN,BU,CO,BV,CP,BW,CQ,f0,f3,d0,hb,a1,l1,hdg,e0,e1,e2,e3,e4,e5,e6,e7,Ag,D4,D1]
            refine⟨_,_,?_,.inl ⟨?_,rfl,?_⟩⟩
            .simp -implicitDefEqProofs only[go_sem,reduceCtorEq,f0]
            .simp[signs];omega
            .simp -implicitDefEqProofs only[go_sem,reduceCtorEq]
          .have e7:((c:Int)==63)=false:=by simp;omega
           by_cases h8:c=33
           .have e8:((c:Int)==33)=true:=by simp;omega
            by_cases h97:97<=c
            .have l1:decide ((97:Int)<=(c:Int))=true:=by simp;omega
             have l2:decide ((c:Int)<=122)=false:=by simp;omega
             simp -implicitDefEqProofs only[go_sem,Cj,Dk,CD,Dq,CE,Dr,CF,Dt,CG,Du,CH,Dv,BO,CI,BP,CJ,BQ,CK,BR,CL,BS,CM,BT,CN,BU,CO,BV,CP,BW,CQ,f0,f3,d0,hb,a1,l1,l2,hdg,e0,e1,e2,e3,e4,e5,e6,e7,e8,Ag,D4,D1]
             refine⟨_,_,?_,.inl ⟨?_,rfl,?_⟩⟩
             .simp -implicitDefEqProofs only[go_sem,reduceCtorEq,f0]
             .simp[signs];omega
             .simp -implicitDefEqProofs only[go_sem,reduceCtorEq]
            .have l1:decide ((97:Int)<=(c:Int))=false:=by simp;omega
             simp -implicitDefEqProofs only[go_sem,Cj,Dk,CD,Dq,CE,Dr,CF,Dt,CG,Du,CH,Dv,BO,CI,BP,CJ,BQ,CK,BR,CL,BS,CM,BT,CN,BU,CO,BV,CP,BW,CQ,f0,f3,d0,hb,a1,l1,hdg,e0,e1,e2,e3,e4,e5,e6,e7,e8,Ag,D4,D1]
             refine⟨_,_,?_,.inl ⟨?_,rfl,?_⟩⟩
             .simp -implicitDefEqProofs only[go_sem,reduceCtorEq,f0]
             .simp[signs];omega
             .simp -implicitDefEqProofs only[go_sem,reduceCtorEq]
           .have e8:((c:Int)==33)=false:=by simp;omega
            by_cases h97:97<=c
            .have l1:decide ((97:Int)<=(c:Int))=true:=by simp;omega
             have l2:decide ((c:Int)<=122)=false:=by simp;omega
             simp -implicitDefEqProofs only[go_sem,Cj,Dk,CD,Dq,CE,Dr,CF,Dt,CG,Du,CH,Dv,BO,CI,BP,CJ,BQ,CK,BR,CL,BS,CM,BT,CN,BU,CO,BV,CP,BW,CQ,f0,f3,d0,hb,a1,l1,l2,hdg,e0,e1,e2,e3,e4,e5,e6,e7,e8,Ag,D4,D1]
             refine⟨_,_,?_,.inr ⟨?_,rfl,?_⟩⟩
             .simp -implicitDefEqProofs only[go_sem,reduceCtorEq,f0]
             .simp[signs];omega
             .simp -implicitDefEqProofs only[go_sem,reduceCtorEq]
            .have l1:decide ((97:Int)<=(c:Int))=false:=by simp;omega
             simp -implicitDefEqProofs only[go_sem,Cj,Dk,CD,Dq,CE,Dr,CF,Dt,CG,Du,CH,Dv,BO,CI,BP,CJ,BQ,CK,BR,CL,BS,CM,BT,CN,BU,CO,BV,CP,BW,CQ,f0,f3,d0,hb,a1,l1,hdg,e0,e1,e2,e3,e4,e5,e6,e7,e8,Ag,D4,D1]
             refine⟨_,_,?_,.inr ⟨?_,rfl,?_⟩⟩
             .simp -implicitDefEqProofs only[go_sem,reduceCtorEq,f0]
             .simp[signs];omega
             .simp -implicitDefEqProofs only[go_sem,reduceCtorEq]
theorem Aqd(n:Nat)(t:ByteArray)(hsz:t.size<=20)(Z:aC):∀(j fuel i:Nat) (f g:Nat->Value),t.size-i=j->j<fuel->i<=t.size->f 0=.string t->f 3=.int .i64 (.ofNat i)->
  ∃f' g',((∀k,i<=k->k<t.size->symC (bA t k)=true)/\floop [] (F9 (env (n+1)) none 146) fuel (Sl 5 63 f g []) none Z=.done (.exit 0) (Sl 5 63 f' g' []) none Z)\/
   ((∃k,i<=k/\k<t.size/\symC (bA t k)=false)/\floop [] (F9 (env (n+1)) none 146) fuel (Sl 5 63 f g []) none Z=.done .ret (Sl 5 63 f' g' []) none Z/\f' 2=.bool false):=by
 intro j
 induction j with
 | zero=>
  intro fuel i f g hj hf hi f0 f3
  obtain⟨fuel,rfl⟩:∃q,fuel=q+1:=⟨fuel-1,by omega⟩
  obtain rfl:i=t.size:=by omega
  have d0:decide (Int.ofNat t.size<Int.ofNat t.size)=false:=by simp
  rw[Ao]
  have h:∃f' g',F9 (env (n+1)) none 146 (Sl 5 63 f (kept [] g) []) none Z=.done (.exit 0) (Sl 5 63 f' g' []) none Z:=by
   unfold F9
   simp -implicitDefEqProofs only[go_sem,Cj,Dk,f0,f3,d0]
   exact⟨_,_,rfl⟩
  obtain⟨f',g',e⟩:=h
  refine⟨f',g',.inl ⟨fun k h1 h2=>by omega,?_⟩⟩
  simp -implicitDefEqProofs only[Bl,e,AR]
 | succ j ih=>
  intro fuel i f g hj hf hi f0 f3
  obtain⟨fuel,rfl⟩:∃q,fuel=q+1:=⟨fuel-1,by omega⟩
  have hlt:i<t.size:=by omega
  rw[Ao]
  obtain⟨f1,g1,h0,h⟩:=Aqe n i (bA t i) t f (kept [] g) Z hlt (by omega) rfl f0 f3
  rcases h with⟨hc,e,h3⟩|⟨hc,e,h2⟩
  .obtain⟨f2,g2,h⟩:=ih fuel (i+1) f1 g1 (by omega) (by omega) (by omega) h0 h3
   refine⟨f2,g2,?_⟩
   simp -implicitDefEqProofs only[Bl,e,Az]
   rcases h with⟨h4,h5⟩|⟨⟨k,h4,h5,h6⟩,h7,h8⟩
   .refine .inl ⟨fun k h1 h2=>?_,h5⟩
    by_cases hk:k=i
    .subst hk;exact hc
    .exact h4 k (by omega) h2
   .exact .inr ⟨⟨k,by omega,h5,h6⟩,h7,h8⟩
  .refine⟨f1,g1,.inr ⟨⟨i,Nat.le_refl _,hlt,hc⟩,?_,h2⟩⟩
   simp -implicitDefEqProofs only[Bl,e,A0]
theorem Aqf{t:ByteArray}(h1:1<=t.size)(h2:t.size<=20)(h3:digC (bA t 0)=false)(h4:(bA t 0==45&&decide (1<t.size)&&digC (bA t 1))=false):symB t=(List.range t.size).all fun i=>symC (bA t i):=by
 unfold symB
 rw[h3,h4]
 simp[h1,h2]
theorem PF(n:Nat)(t:ByteArray)(Z:aC):(env (n+2)).call 146 [.string t] none Z=.ret (.bool (symB t)) none Z:=by
 rw[Al _ 146 _ _ rfl,Afe _ _ _ _ (by simp),Aj]
 unfold AaF
 have hkeep:bE nls 146=[]:=by kernel_rfl
 by_cases hs1:t.size<1
 .have d0:decide (Int.ofNat t.size<1)=true:=by simp;omega
  have e:symB t=false:=by unfold symB;rw[show decide (1<=t.size)=false from decide_eq_false (by omega)];rfl
  simp -implicitDefEqProofs only[go_sem,EV,Fl,EW,Fm,HV,HU,d0,e]
 .have d0:decide (Int.ofNat t.size<1)=false:=by simp;omega
  by_cases hs2:t.size>20
  .have d1:decide (Int.ofNat t.size>20)=true:=by simp;omega
   have e:symB t=false:=by unfold symB;rw[show decide (t.size<=20)=false from decide_eq_false (by omega),Bool.and_false];rfl
   simp -implicitDefEqProofs only[go_sem,EV,Fl,EW,Fm,HV,HU,d0,d1,e]
  .have d1:decide (Int.ofNat t.size>20)=false:=by simp;omega
   have b0:=OL t (by omega) Z
   have g0:=LO n (bA t 0) Z
   cases hd0:digC (bA t 0) with
   | true=>
    rw[hd0] at g0
    have e:symB t=false:=by unfold symB;rw[hd0];simp
    simp -implicitDefEqProofs only[go_sem,EV,Fl,EW,Fm,HV,HU,d0,d1,b0,g0,e]
   | false=>
    rw[hd0] at g0
    have fin:∀(f g:Nat->Value),f 0=.string t->f 3=.int .i64 (.ofNat 0)->(bA t 0==45&&decide (1<t.size)&&digC (bA t 1))=false->∃f' g',(symB t=true/\floop [] (F9 (env (n+1)) none 146) bF (Sl 5 63 f g []) none Z=.done (.exit 0) (Sl 5 63 f' g' []) none Z)\/
      (symB t=false/\floop [] (F9 (env (n+1)) none 146) bF (Sl 5 63 f g []) none Z=.done .ret (Sl 5 63 f' g' []) none Z/\f' 2=.bool false):=fun f g f0 f3 h4=>by
     obtain⟨f',g',h⟩:=Aqd n t (by omega) Z t.size bF 0 f g (by omega) (by show t.size<1000000000000;omega) (by omega) f0 f3
     refine⟨f',g',?_⟩
     rw[Aqf (by omega) (by omega) hd0 h4]
     rcases h with⟨h1,h2⟩|⟨⟨k,h1,h2,h3⟩,h5,h6⟩
     .exact .inl ⟨List.all_eq_true.2 fun k hk=>h1 k (Nat.zero_le _) (List.mem_range.1 hk),h2⟩
     .refine .inr ⟨?_,h5,h6⟩
      rw[<-Bool.not_eq_true,List.all_eq_true]
      intro h
      have:=h k (List.mem_range.2 h2)
      rw[h3] at this
      cases this
    by_cases h45:bA t 0=45
    .have e45:((bA t 0:Int)==45)=true:=by simp;omega
     by_cases hs3:t.size>1
     .have d3:decide (Int.ofNat t.size>1)=true:=by simp;omega
      have b1:=OM t (by omega) Z
      have g1:=LO n (bA t 1) Z
      cases hd1:digC (bA t 1) with
      | true=>
       rw[hd1] at g1
       have e:symB t=false:=by unfold symB;rw[hd1,hd0];simp[h45,hs3]
       simp -implicitDefEqProofs only[go_sem,EV,Fl,EW,Fm,HV,HU,d0,d1,d3,b0,g0,b1,g1,D4,e45,e]
      | false=>
       rw[hd1] at g1
       simp -implicitDefEqProofs only[go_sem,EV,Fl,EW,Fm,Kd,Ju,d0,d1,d3,b0,g0,b1,g1,D4,e45,Ag,hkeep]
       generalize hff:upd _ 3 _=f1
       generalize hgg:upd _ 32 _=gg1
       obtain⟨f',g',h⟩:=fin f1 gg1 (by rw[<-hff];simp -implicitDefEqProofs only[go_sem,reduceCtorEq]) (by rw[<-hff];simp -implicitDefEqProofs only[go_sem,reduceCtorEq]<;>rfl) (by rw[hd1,Bool.and_false])
       rcases h with⟨h1,h2⟩|⟨h1,h2,h3⟩
       .rw[h2];simp -implicitDefEqProofs only[go_sem,ID,Hq,h1]
       .rw[h2];simp -implicitDefEqProofs only[go_sem,h1,h3]
     .have d3:decide (Int.ofNat t.size>1)=false:=by simp;omega
      simp -implicitDefEqProofs only[go_sem,EV,Fl,EW,Fm,Kd,Ju,d0,d1,d3,b0,g0,D4,e45,Ag,hkeep]
      generalize hff:upd _ 3 _=f1
      generalize hgg:upd _ 32 _=gg1
      obtain⟨f',g',h⟩:=fin f1 gg1 (by rw[<-hff];simp -implicitDefEqProofs only[go_sem,reduceCtorEq]) (by rw[<-hff];simp -implicitDefEqProofs only[go_sem,reduceCtorEq]<;>rfl) (by rw[show decide (1<t.size)=false from decide_eq_false (by omega)];simp)
      rcases h with⟨h1,h2⟩|⟨h1,h2,h3⟩
      .rw[h2];simp -implicitDefEqProofs only[go_sem,ID,Hq,h1]
      .rw[h2];simp -implicitDefEqProofs only[go_sem,h1,h3]
    .have e45:((bA t 0:Int)==45)=false:=by simp;omega
     simp -implicitDefEqProofs only[go_sem,EV,Fl,EW,Fm,Kd,Ju,d0,d1,b0,g0,D4,e45,Ag,hkeep]
     generalize hff:upd _ 3 _=f1
     generalize hgg:upd _ 32 _=gg1
     obtain⟨f',g',h⟩:=fin f1 gg1 (by rw[<-hff];simp -implicitDefEqProofs only[go_sem,reduceCtorEq]) (by rw[<-hff];simp -implicitDefEqProofs only[go_sem,reduceCtorEq]<;>rfl) (by rw[show (bA t 0==45)=false by simpa using h45];rfl)
     rcases h with⟨h1,h2⟩|⟨h1,h2,h3⟩
     .rw[h2];simp -implicitDefEqProofs only[go_sem,ID,Hq,h1]
     .rw[h2];simp -implicitDefEqProofs only[go_sem,h1,h3]
def plainC(c:Nat):Bool:=decide (32<=c)&&decide (c<=126)
def plainB(t:ByteArray):Bool:=(List.range t.size).all fun i=>plainC (bA t i)
def textE(t:ByteArray):Nat:=if 60<t.size then 8 else if plainB t=true then 0 else 13
theorem An7(n i c:Nat)(t:ByteArray)(f g:Nat->Value)(Z:aC)(hi:i<t.size)(hsz:i<1000000)(hc:bA t i=c)(f0:f 0=.string t)(f3:f 3=.int .i64 (.ofNat i)):
  ∃f' g',f' 0=.string t/\((plainC c=true/\Hi (env n) none 147 (Sl 4 23 f g []) none Z=.done .normal (Sl 4 23 f' g' []) none Z/\f' 3=.int .i64 (.ofNat (i+1)))\/
   (plainC c=false/\Hi (env n) none 147 (Sl 4 23 f g []) none Z=.done .ret (Sl 4 23 f' g' []) none Z/\f' 2=.int .i64 13)):=by
 have d0:decide (Int.ofNat i<Int.ofNat t.size)=true:=by simp;omega
 have hb:=EA t i hi Z
 rw[hc] at hb
 have a1:=Ga i (by omega)
 unfold Hi
 by_cases h1:c<32
 .have l1:decide ((c:Int)<32)=true:=by simp;omega
  simp -implicitDefEqProofs only[go_sem,HX,HW,Ke,Jv,Kf,Jw,Kg,Jy,f0,f3,d0,hb,a1,l1,Xw,Xe,Ag]
  refine⟨_,_,?_,.inr ⟨by unfold plainC;simp;omega,rfl,?_⟩⟩
  .simp -implicitDefEqProofs only[go_sem,reduceCtorEq,f0]
  .simp -implicitDefEqProofs only[go_sem,reduceCtorEq]
 .have l1:decide ((c:Int)<32)=false:=by simp;omega
  by_cases h2:126<c
  .have l2:decide ((c:Int)>126)=true:=by simp;omega
   simp -implicitDefEqProofs only[go_sem,HX,HW,Ke,Jv,Kf,Jw,Kg,Jy,f0,f3,d0,hb,a1,l1,l2,Xw,Xe,Ag]
   refine⟨_,_,?_,.inr ⟨by unfold plainC;simp;omega,rfl,?_⟩⟩
   .simp -implicitDefEqProofs only[go_sem,reduceCtorEq,f0]
   .simp -implicitDefEqProofs only[go_sem,reduceCtorEq]
  .have l2:decide ((c:Int)>126)=false:=by simp;omega
   simp -implicitDefEqProofs only[go_sem,HX,HW,Ke,Jv,Kf,Jw,Kg,Jy,f0,f3,d0,hb,a1,l1,l2,Xw,Xe,Ag]
   refine⟨_,_,?_,.inl ⟨by unfold plainC;simp;omega,rfl,?_⟩⟩
   .simp -implicitDefEqProofs only[go_sem,reduceCtorEq,f0]
   .simp -implicitDefEqProofs only[go_sem,reduceCtorEq]
theorem An6(n:Nat)(t:ByteArray)(hsz:t.size<=60)(Z:aC):∀(j fuel i:Nat) (f g:Nat->Value),t.size-i=j->j<fuel->i<=t.size->f 0=.string t->f 3=.int .i64 (.ofNat i)->
  ∃f' g',((∀k,i<=k->k<t.size->plainC (bA t k)=true)/\floop [] (Hi (env n) none 147) fuel (Sl 4 23 f g []) none Z=.done (.exit 0) (Sl 4 23 f' g' []) none Z)\/
   ((∃k,i<=k/\k<t.size/\plainC (bA t k)=false)/\floop [] (Hi (env n) none 147) fuel (Sl 4 23 f g []) none Z=.done .ret (Sl 4 23 f' g' []) none Z/\f' 2=.int .i64 13):=by
 intro j
 induction j with
 | zero=>
  intro fuel i f g hj hf hi f0 f3
  obtain⟨fuel,rfl⟩:∃q,fuel=q+1:=⟨fuel-1,by omega⟩
  obtain rfl:i=t.size:=by omega
  have d0:decide (Int.ofNat t.size<Int.ofNat t.size)=false:=by simp
  rw[Ao]
  have h:∃f' g',Hi (env n) none 147 (Sl 4 23 f (kept [] g) []) none Z=.done (.exit 0) (Sl 4 23 f' g' []) none Z:=by
   unfold Hi
   simp -implicitDefEqProofs only[go_sem,HX,HW,f0,f3,d0]
   exact⟨_,_,rfl⟩
  obtain⟨f',g',e⟩:=h
  refine⟨f',g',.inl ⟨fun k h1 h2=>by omega,?_⟩⟩
  simp -implicitDefEqProofs only[Bl,e,AR]
 | succ j ih=>
  intro fuel i f g hj hf hi f0 f3
  obtain⟨fuel,rfl⟩:∃q,fuel=q+1:=⟨fuel-1,by omega⟩
  have hlt:i<t.size:=by omega
  rw[Ao]
  obtain⟨f1,g1,h0,h⟩:=An7 n i (bA t i) t f (kept [] g) Z hlt (by omega) rfl f0 f3
  rcases h with⟨hc,e,h3⟩|⟨hc,e,h2⟩
  .obtain⟨f2,g2,h⟩:=ih fuel (i+1) f1 g1 (by omega) (by omega) (by omega) h0 h3
   refine⟨f2,g2,?_⟩
   simp -implicitDefEqProofs only[Bl,e,Az]
   rcases h with⟨h4,h5⟩|⟨⟨k,h4,h5,h6⟩,h7,h8⟩
   .refine .inl ⟨fun k h1 h2=>?_,h5⟩
    by_cases hk:k=i
    .subst hk;exact hc
    .exact h4 k (by omega) h2
   .exact .inr ⟨⟨k,by omega,h5,h6⟩,h7,h8⟩
  .refine⟨f1,g1,.inr ⟨⟨i,Nat.le_refl _,hlt,hc⟩,?_,h2⟩⟩
   simp -implicitDefEqProofs only[Bl,e,A0]
theorem Amg(n:Nat)(t:ByteArray)(Z:aC):(env (n+1)).call 147 [.string t] none Z=.ret (.int .i64 (textE t:Nat)) none Z:=by
 rw[Al _ 147 _ _ rfl,Aff _ _ _ _ (by simp),Aj]
 unfold AaG
 have hkeep:bE nls 147=[]:=by kernel_rfl
 by_cases hs:60<t.size
 .have d0:decide (Int.ofNat t.size>60)=true:=by simp;omega
  have e:textE t=8:=by unfold textE;rw[if_pos hs]
  simp -implicitDefEqProofs only[go_sem,Pn,Lm,Po,Ln,AdB,QY,d0,e]
  rfl
 .have d0:decide (Int.ofNat t.size>60)=false:=by simp;omega
  simp -implicitDefEqProofs only[go_sem,Pn,Lm,Po,Ln,AdC,QZ,d0,Ag,hkeep]
  generalize hff:upd _ 3 _=f1
  generalize hgg:upd _ 6 _=g1
  obtain⟨f',g',h⟩:=An6 n t (by omega) Z t.size bF 0 f1 g1 (by omega) (by show t.size<1000000000000;omega) (by omega) (by rw[<-hff];simp -implicitDefEqProofs only[go_sem,reduceCtorEq]) (by rw[<-hff];simp -implicitDefEqProofs only[go_sem,reduceCtorEq]<;>rfl)
  rcases h with⟨h1,h2⟩|⟨⟨k,h1,h2,h3⟩,h5,h6⟩
  .have e:textE t=0:=by
    unfold textE
    rw[if_neg hs,if_pos]
    exact List.all_eq_true.2 fun k hk=>h1 k (Nat.zero_le _) (List.mem_range.1 hk)
   rw[h2];simp -implicitDefEqProofs only[go_sem,AdD,Q0,e]
   rfl
  .have e:textE t=13:=by
    unfold textE
    rw[if_neg hs,if_neg]
    intro h
    have:=List.all_eq_true.1 h k (List.mem_range.2 h2)
    rw[h3] at this
    cases this
   rw[h5];simp -implicitDefEqProofs only[go_sem,h6,e]
   rfl
def formB(k z:Int)(t:ByteArray)(l:Nat):Bool:=(!(k==1||k==2)&&z != 0)||(!(k==3||k==4)&&decide (t.size≠0))||(!(k==5||k==6)&&decide (0<l))||(k==5&&decide (l≠2))
def aQ(k z:Int)(t:ByteArray)(l:Nat):Nat:=
 if 0<=k/\k<=6 then
  if formB k z t l=true then 1
  else if k=1 then (if 0<=z/\z<=1 then 0 else 13)
  else if k=2 then (if -999999999<=z/\z<=999999999 then 0 else 13)
  else if k=3 then (if symB t=true then 0 else 2)
  else if k=4 then textE t
  else 0
 else 4
theorem D0{t:ByteArray}(h:t.size=0):t=⟨#[]⟩:=by
 apply ByteArray.ext
 exact Array.eq_empty_of_size_eq_zero h
theorem EC{t:ByteArray}(h:t.size≠0):(t.toList==(⟨#[]⟩:ByteArray).toList)=false:=by
 rw[<-Bool.not_eq_true,beq_iff_eq]
 intro h'
 have:=toList_inj h'
 subst this
 exact h rfl
theorem AvJ(n:Nat)(z:Int)(t:ByteArray)(l:Nat)(p:Option Addr)(c:Nat)(Z:aC)(hw:Wf Z):
  Gives ((env (n+4)).call 120 [.agg #[.int .i64 0,.int .i64 z,.string t,.slice p l c]] none Z) Z fun w _=>w=.int .i64 (aQ 0 z t l:Nat):=by
 rw[Al _ 120 _ _ rfl,E_ _ _ _ _ (by simp),Aj]
 unfold F_
 have fin:Ext Z (Z.push (.cells [.int .i64 0,.int .i64 z,.string t,.slice p l c] TD) none)/\Wf (Z.push (.cells [.int .i64 0,.int .i64 z,.string t,.slice p l c] TD) none):=⟨(Ext.refl _).push _ _,hw.push _ _⟩
 have w0:(decide ((0:Int)<=0)&&decide ((0:Int)<=6))=true:=by decide
 by_cases hz:z=0
 .have z1:(z==0)=true:=by simpa using hz
  by_cases ht:t.size=0
  .have t1:(t.toList==(⟨#[]⟩:ByteArray).toList)=true:=by rw[D0 ht];exact beq_self_eq_true _
   by_cases hl:0<l
   .have l1:decide (Int.ofNat l>0)=true:=by simp;omega
    have hE:aQ 0 z t l=1:=by unfold aQ formB;simp[hz,ht,hl]
    simp -implicitDefEqProofs only[go_sem,Int.reduceBEq,BJ,C4,BK,C5,BL,C6,BZ,C_,B0,Da,B6,Db,B_,Dc,Ca,Dd,Cb,De,Cc,Df,Bm,Cp,Bn,Cq,Bo,Cr,Bp,Cs,Bq,Ct,Br,Cu,Bs,Cv,Bt,Cw,Bu,Cx,Bv,Cy,Bw,Cz,BM,Bool.or_true,Bool.or_false,Ag,w0,z1,t1,l1,Bool.not_false,Bool.not_true]
    exact⟨_,_,rfl,fin.1,fin.2,by rw[hE]<;>rfl⟩
   .have l1:decide (Int.ofNat l>0)=false:=by simp;omega
    have hE:aQ 0 z t l=0:=by unfold aQ formB;simp[hz,ht,hl]
    simp -implicitDefEqProofs only[go_sem,Int.reduceBEq,BJ,C4,BK,C5,BL,C6,BZ,C_,B0,Da,B6,Db,B_,Dc,Ca,Dd,Cb,De,Cc,Df,Bm,Cp,Bn,Cq,Bo,Cr,Bp,Cs,Bq,Ct,Br,Cu,Bs,Cv,Bt,Cw,Bu,Cx,Bv,Cy,Bw,Cz,BM,Bool.or_true,Bool.or_false,Ag,w0,z1,t1,l1,Bool.not_false,Bool.not_true]
    exact⟨_,_,rfl,fin.1,fin.2,by rw[hE]<;>rfl⟩
  .have t1:=EC ht
   have hE:aQ 0 z t l=1:=by unfold aQ formB;simp[hz,ht]
   simp -implicitDefEqProofs only[go_sem,Int.reduceBEq,BJ,C4,BK,C5,BL,C6,BZ,C_,B0,Da,B6,Db,B_,Dc,Ca,Dd,Cb,De,Cc,Df,Bm,Cp,Bn,Cq,Bo,Cr,Bp,Cs,Bq,Ct,Br,Cu,Bs,Cv,Bt,Cw,Bu,Cx,Bv,Cy,Bw,Cz,BM,Bool.or_true,Bool.or_false,Ag,w0,z1,t1,Bool.not_false,Bool.not_true]
   exact⟨_,_,rfl,fin.1,fin.2,by rw[hE]<;>rfl⟩
 .have z1:(z==0)=false:=by simpa using hz
  have hE:aQ 0 z t l=1:=by unfold aQ formB;simp[hz]
  simp -implicitDefEqProofs only[go_sem,Int.reduceBEq,BJ,C4,BK,C5,BL,C6,BZ,C_,B0,Da,B6,Db,B_,Dc,Ca,Dd,Cb,De,Cc,Df,Bm,Cp,Bn,Cq,Bo,Cr,Bp,Cs,Bq,Ct,Br,Cu,Bs,Cv,Bt,Cw,Bu,Cx,Bv,Cy,Bw,Cz,BM,Bool.or_true,Bool.or_false,Ag,w0,z1,Bool.not_false,Bool.not_true]
  exact⟨_,_,rfl,fin.1,fin.2,by rw[hE]<;>rfl⟩
theorem AvK(n:Nat)(z:Int)(t:ByteArray)(l:Nat)(p:Option Addr)(c:Nat)(Z:aC)(hw:Wf Z):
  Gives ((env (n+4)).call 120 [.agg #[.int .i64 1,.int .i64 z,.string t,.slice p l c]] none Z) Z fun w _=>w=.int .i64 (aQ 1 z t l:Nat):=by
 rw[Al _ 120 _ _ rfl,E_ _ _ _ _ (by simp),Aj]
 unfold F_
 have fin:Ext Z (Z.push (.cells [.int .i64 1,.int .i64 z,.string t,.slice p l c] TD) none)/\Wf (Z.push (.cells [.int .i64 1,.int .i64 z,.string t,.slice p l c] TD) none):=⟨(Ext.refl _).push _ _,hw.push _ _⟩
 have w0:(decide ((0:Int)<=1)&&decide ((1:Int)<=6))=true:=by decide
 by_cases ht:t.size=0
 .have t1:(t.toList==(⟨#[]⟩:ByteArray).toList)=true:=by rw[D0 ht];exact beq_self_eq_true _
  by_cases hl:0<l
  .have l1:decide (Int.ofNat l>0)=true:=by simp;omega
   have hE:aQ 1 z t l=1:=by unfold aQ formB;simp[ht,hl]
   simp -implicitDefEqProofs only[go_sem,Int.reduceBEq,BJ,C4,BK,C5,BL,C6,BZ,C_,B0,Da,B6,Db,B_,Dc,Ca,Dd,Cb,De,Cc,Df,Bm,Cp,Bn,Cq,Bo,Cr,Bp,Cs,Bq,Ct,Br,Cu,Bs,Cv,Bt,Cw,Bu,Cx,Bv,Cy,Bw,Cz,BM,Bool.or_true,Bool.or_false,Ag,w0,t1,l1,Bool.not_false,Bool.not_true]
   exact⟨_,_,rfl,fin.1,fin.2,by rw[hE]<;>rfl⟩
  .have l1:decide (Int.ofNat l>0)=false:=by simp;omega
   by_cases hr:0<=z/\z<=1
   .have r1:(decide ((0:Int)<=z)&&decide (z<=1))=true:=by simp;omega
    have hE:aQ 1 z t l=0:=by unfold aQ formB;simp[ht,hl,hr]
    simp -implicitDefEqProofs only[go_sem,Int.reduceBEq,BJ,C4,BK,C5,BL,C6,BZ,C_,B0,Da,B6,Db,B_,Dc,Ca,Dd,Cb,De,Cc,Df,Bm,Cp,Bn,Cq,Bo,Cr,Bp,Cs,Bq,Ct,Br,Cu,Bs,Cv,Bt,Cw,Bu,Cx,Bv,Cy,Bw,Cz,BM,Bool.or_true,Bool.or_false,Ag,w0,t1,l1,r1,Bool.not_false,Bool.not_true]
    exact⟨_,_,rfl,fin.1,fin.2,by rw[hE]<;>rfl⟩
   .have r1:(decide ((0:Int)<=z)&&decide (z<=1))=false:=by simp;omega
    have hr1:¬ (0<=z/\z<=1):=hr
    have hE:aQ 1 z t l=13:=by unfold aQ formB;simp[ht,hl];omega
    simp -implicitDefEqProofs only[go_sem,Int.reduceBEq,BJ,C4,BK,C5,BL,C6,BZ,C_,B0,Da,B6,Db,B_,Dc,Ca,Dd,Cb,De,Cc,Df,Bm,Cp,Bn,Cq,Bo,Cr,Bp,Cs,Bq,Ct,Br,Cu,Bs,Cv,Bt,Cw,Bu,Cx,Bv,Cy,Bw,Cz,BM,Bool.or_true,Bool.or_false,Ag,w0,t1,l1,r1,Bool.not_false,Bool.not_true]
    exact⟨_,_,rfl,fin.1,fin.2,by rw[hE]<;>rfl⟩
 .have t1:=EC ht
  have hE:aQ 1 z t l=1:=by unfold aQ formB;simp[ht]
  simp -implicitDefEqProofs only[go_sem,Int.reduceBEq,BJ,C4,BK,C5,BL,C6,BZ,C_,B0,Da,B6,Db,B_,Dc,Ca,Dd,Cb,De,Cc,Df,Bm,Cp,Bn,Cq,Bo,Cr,Bp,Cs,Bq,Ct,Br,Cu,Bs,Cv,Bt,Cw,Bu,Cx,Bv,Cy,Bw,Cz,BM,Bool.or_true,Bool.or_false,Ag,w0,t1,Bool.not_false,Bool.not_true]
  exact⟨_,_,rfl,fin.1,fin.2,by rw[hE]<;>rfl⟩
theorem AvL(n:Nat)(z:Int)(t:ByteArray)(l:Nat)(p:Option Addr)(c:Nat)(Z:aC)(hw:Wf Z):
  Gives ((env (n+4)).call 120 [.agg #[.int .i64 2,.int .i64 z,.string t,.slice p l c]] none Z) Z fun w _=>w=.int .i64 (aQ 2 z t l:Nat):=by
 rw[Al _ 120 _ _ rfl,E_ _ _ _ _ (by simp),Aj]
 unfold F_
 have fin:Ext Z (Z.push (.cells [.int .i64 2,.int .i64 z,.string t,.slice p l c] TD) none)/\Wf (Z.push (.cells [.int .i64 2,.int .i64 z,.string t,.slice p l c] TD) none):=⟨(Ext.refl _).push _ _,hw.push _ _⟩
 have w0:(decide ((0:Int)<=2)&&decide ((2:Int)<=6))=true:=by decide
 by_cases ht:t.size=0
 .have t1:(t.toList==(⟨#[]⟩:ByteArray).toList)=true:=by rw[D0 ht];exact beq_self_eq_true _
  by_cases hl:0<l
  .have l1:decide (Int.ofNat l>0)=true:=by simp;omega
   have hE:aQ 2 z t l=1:=by unfold aQ formB;simp[ht,hl]
   simp -implicitDefEqProofs only[go_sem,Int.reduceBEq,BJ,C4,BK,C5,BL,C6,BZ,C_,B0,Da,B6,Db,B_,Dc,Ca,Dd,Cb,De,Cc,Df,Bm,Cp,Bn,Cq,Bo,Cr,Bp,Cs,Bq,Ct,Br,Cu,Bs,Cv,Bt,Cw,Bu,Cx,Bv,Cy,Bw,Cz,BM,Bool.or_true,Bool.or_false,Ag,w0,t1,l1,Bool.not_false,Bool.not_true]
   exact⟨_,_,rfl,fin.1,fin.2,by rw[hE]<;>rfl⟩
  .have l1:decide (Int.ofNat l>0)=false:=by simp;omega
   by_cases hr : -999999999<=z/\z<=999999999
   .have r1:(decide ((-999999999:Int)<=z)&&decide (z<=999999999))=true:=by simp;omega
    have hE:aQ 2 z t l=0:=by unfold aQ formB;simp[ht,hl,hr]
    simp -implicitDefEqProofs only[go_sem,Int.reduceBEq,BJ,C4,BK,C5,BL,C6,BZ,C_,B0,Da,B6,Db,B_,Dc,Ca,Dd,Cb,De,Cc,Df,Bm,Cp,Bn,Cq,Bo,Cr,Bp,Cs,Bq,Ct,Br,Cu,Bs,Cv,Bt,Cw,Bu,Cx,Bv,Cy,Bw,Cz,BM,Bool.or_true,Bool.or_false,Ag,w0,t1,l1,r1,Bool.not_false,Bool.not_true]
    exact⟨_,_,rfl,fin.1,fin.2,by rw[hE]<;>rfl⟩
   .have r1:(decide ((-999999999:Int)<=z)&&decide (z<=999999999))=false:=by simp;omega
    have hr1:¬ (-999999999<=z/\z<=999999999):=hr
    have hE:aQ 2 z t l=13:=by unfold aQ formB;simp[ht,hl];omega
    simp -implicitDefEqProofs only[go_sem,Int.reduceBEq,BJ,C4,BK,C5,BL,C6,BZ,C_,B0,Da,B6,Db,B_,Dc,Ca,Dd,Cb,De,Cc,Df,Bm,Cp,Bn,Cq,Bo,Cr,Bp,Cs,Bq,Ct,Br,Cu,Bs,Cv,Bt,Cw,Bu,Cx,Bv,Cy,Bw,Cz,BM,Bool.or_true,Bool.or_false,Ag,w0,t1,l1,r1,Bool.not_false,Bool.not_true]
    exact⟨_,_,rfl,fin.1,fin.2,by rw[hE]<;>rfl⟩
 .have t1:=EC ht
  have hE:aQ 2 z t l=1:=by unfold aQ formB;simp[ht]
  simp -implicitDefEqProofs only[go_sem,Int.reduceBEq,BJ,C4,BK,C5,BL,C6,BZ,C_,B0,Da,B6,Db,B_,Dc,Ca,Dd,Cb,De,Cc,Df,Bm,Cp,Bn,Cq,Bo,Cr,Bp,Cs,Bq,Ct,Br,Cu,Bs,Cv,Bt,Cw,Bu,Cx,Bv,Cy,Bw,Cz,BM,Bool.or_true,Bool.or_false,Ag,w0,t1,Bool.not_false,Bool.not_true]
  exact⟨_,_,rfl,fin.1,fin.2,by rw[hE]<;>rfl⟩
theorem AvM(n:Nat)(z:Int)(t:ByteArray)(l:Nat)(p:Option Addr)(c:Nat)(Z:aC)(hw:Wf Z):
  Gives ((env (n+4)).call 120 [.agg #[.int .i64 3,.int .i64 z,.string t,.slice p l c]] none Z) Z fun w _=>w=.int .i64 (aQ 3 z t l:Nat):=by
 rw[Al _ 120 _ _ rfl,E_ _ _ _ _ (by simp),Aj]
 unfold F_
 have fin:Ext Z (Z.push (.cells [.int .i64 3,.int .i64 z,.string t,.slice p l c] TD) none)/\Wf (Z.push (.cells [.int .i64 3,.int .i64 z,.string t,.slice p l c] TD) none):=⟨(Ext.refl _).push _ _,hw.push _ _⟩
 have w0:(decide ((0:Int)<=3)&&decide ((3:Int)<=6))=true:=by decide
 by_cases hz:z=0
 .have z1:(z==0)=true:=by simpa using hz
  by_cases hl:0<l
  .have l1:decide (Int.ofNat l>0)=true:=by simp;omega
   have hE:aQ 3 z t l=1:=by unfold aQ formB;simp[hz,hl]
   simp -implicitDefEqProofs only[go_sem,Int.reduceBEq,BJ,C4,BK,C5,BL,C6,BZ,C_,B0,Da,B6,Db,B_,Dc,Ca,Dd,Cb,De,Cc,Df,Bm,Cp,Bn,Cq,Bo,Cr,Bp,Cs,Bq,Ct,Br,Cu,Bs,Cv,Bt,Cw,Bu,Cx,Bv,Cy,Bw,Cz,BM,Bool.or_true,Bool.or_false,Ag,w0,z1,l1,Bool.not_false,Bool.not_true]
   exact⟨_,_,rfl,fin.1,fin.2,by rw[hE]<;>rfl⟩
  .have l1:decide (Int.ofNat l>0)=false:=by simp;omega
   cases hs:symB t with
   | true=>
    have hy:=fun Z=>PF (n+1) t Z
    rw[hs] at hy
    have hE:aQ 3 z t l=0:=by unfold aQ formB;simp[hz,hl,hs]
    simp -implicitDefEqProofs only[go_sem,Int.reduceBEq,BJ,C4,BK,C5,BL,C6,BZ,C_,B0,Da,B6,Db,B_,Dc,Ca,Dd,Cb,De,Cc,Df,Bm,Cp,Bn,Cq,Bo,Cr,Bp,Cs,Bq,Ct,Br,Cu,Bs,Cv,Bt,Cw,Bu,Cx,Bv,Cy,Bw,Cz,BM,Bool.or_true,Bool.or_false,Ag,w0,z1,l1,hy,Bool.not_false,Bool.not_true]
    exact⟨_,_,rfl,fin.1,fin.2,by rw[hE]<;>rfl⟩
   | false=>
    have hy:=fun Z=>PF (n+1) t Z
    rw[hs] at hy
    have hE:aQ 3 z t l=2:=by unfold aQ formB;simp[hz,hl,hs]
    simp -implicitDefEqProofs only[go_sem,Int.reduceBEq,BJ,C4,BK,C5,BL,C6,BZ,C_,B0,Da,B6,Db,B_,Dc,Ca,Dd,Cb,De,Cc,Df,Bm,Cp,Bn,Cq,Bo,Cr,Bp,Cs,Bq,Ct,Br,Cu,Bs,Cv,Bt,Cw,Bu,Cx,Bv,Cy,Bw,Cz,BM,Bool.or_true,Bool.or_false,Ag,w0,z1,l1,hy,Bool.not_false,Bool.not_true]
    exact⟨_,_,rfl,fin.1,fin.2,by rw[hE]<;>rfl⟩
 .have z1:(z==0)=false:=by simpa using hz
  have hE:aQ 3 z t l=1:=by unfold aQ formB;simp[hz]
  simp -implicitDefEqProofs only[go_sem,Int.reduceBEq,BJ,C4,BK,C5,BL,C6,BZ,C_,B0,Da,B6,Db,B_,Dc,Ca,Dd,Cb,De,Cc,Df,Bm,Cp,Bn,Cq,Bo,Cr,Bp,Cs,Bq,Ct,Br,Cu,Bs,Cv,Bt,Cw,Bu,Cx,Bv,Cy,Bw,Cz,BM,Bool.or_true,Bool.or_false,Ag,w0,z1,Bool.not_false,Bool.not_true]
  exact⟨_,_,rfl,fin.1,fin.2,by rw[hE]<;>rfl⟩
theorem AvN(n:Nat)(z:Int)(t:ByteArray)(l:Nat)(p:Option Addr)(c:Nat)(Z:aC)(hw:Wf Z):
  Gives ((env (n+4)).call 120 [.agg #[.int .i64 4,.int .i64 z,.string t,.slice p l c]] none Z) Z fun w _=>w=.int .i64 (aQ 4 z t l:Nat):=by
 rw[Al _ 120 _ _ rfl,E_ _ _ _ _ (by simp),Aj]
 unfold F_
 have fin:Ext Z (Z.push (.cells [.int .i64 4,.int .i64 z,.string t,.slice p l c] TD) none)/\Wf (Z.push (.cells [.int .i64 4,.int .i64 z,.string t,.slice p l c] TD) none):=⟨(Ext.refl _).push _ _,hw.push _ _⟩
 have w0:(decide ((0:Int)<=4)&&decide ((4:Int)<=6))=true:=by decide
 by_cases hz:z=0
 .have z1:(z==0)=true:=by simpa using hz
  by_cases hl:0<l
  .have l1:decide (Int.ofNat l>0)=true:=by simp;omega
   have hE:aQ 4 z t l=1:=by unfold aQ formB;simp[hz,hl]
   simp -implicitDefEqProofs only[go_sem,Int.reduceBEq,BJ,C4,BK,C5,BL,C6,BZ,C_,B0,Da,B6,Db,B_,Dc,Ca,Dd,Cb,De,Cc,Df,Bm,Cp,Bn,Cq,Bo,Cr,Bp,Cs,Bq,Ct,Br,Cu,Bs,Cv,Bt,Cw,Bu,Cx,Bv,Cy,Bw,Cz,BM,Bool.or_true,Bool.or_false,Ag,w0,z1,l1,Bool.not_false,Bool.not_true]
   exact⟨_,_,rfl,fin.1,fin.2,by rw[hE]<;>rfl⟩
  .have l1:decide (Int.ofNat l>0)=false:=by simp;omega
   have hy:=fun Z=>Amg (n+2) t Z
   have hE:aQ 4 z t l=textE t:=by unfold aQ formB;simp[hz,hl]
   simp -implicitDefEqProofs only[go_sem,Int.reduceBEq,BJ,C4,BK,C5,BL,C6,BZ,C_,B0,Da,B6,Db,B_,Dc,Ca,Dd,Cb,De,Cc,Df,Bm,Cp,Bn,Cq,Bo,Cr,Bp,Cs,Bq,Ct,Br,Cu,Bs,Cv,Bt,Cw,Bu,Cx,Bv,Cy,Bw,Cz,BM,Bool.or_true,Bool.or_false,Ag,w0,z1,l1,hy,Bool.not_false,Bool.not_true]
   exact⟨_,_,rfl,fin.1,fin.2,by rw[hE]<;>rfl⟩
 .have z1:(z==0)=false:=by simpa using hz
  have hE:aQ 4 z t l=1:=by unfold aQ formB;simp[hz]
  simp -implicitDefEqProofs only[go_sem,Int.reduceBEq,BJ,C4,BK,C5,BL,C6,BZ,C_,B0,Da,B6,Db,B_,Dc,Ca,Dd,Cb,De,Cc,Df,Bm,Cp,Bn,Cq,Bo,Cr,Bp,Cs,Bq,Ct,Br,Cu,Bs,Cv,Bt,Cw,Bu,Cx,Bv,Cy,Bw,Cz,BM,Bool.or_true,Bool.or_false,Ag,w0,z1,Bool.not_false,Bool.not_true]
  exact⟨_,_,rfl,fin.1,fin.2,by rw[hE]<;>rfl⟩
theorem AvO(n:Nat)(z:Int)(t:ByteArray)(l:Nat)(p:Option Addr)(c:Nat)(Z:aC)(hw:Wf Z):
  Gives ((env (n+4)).call 120 [.agg #[.int .i64 5,.int .i64 z,.string t,.slice p l c]] none Z) Z fun w _=>w=.int .i64 (aQ 5 z t l:Nat):=by
 rw[Al _ 120 _ _ rfl,E_ _ _ _ _ (by simp),Aj]
 unfold F_
 have fin:Ext Z (Z.push (.cells [.int .i64 5,.int .i64 z,.string t,.slice p l c] TD) none)/\Wf (Z.push (.cells [.int .i64 5,.int .i64 z,.string t,.slice p l c] TD) none):=⟨(Ext.refl _).push _ _,hw.push _ _⟩
 have w0:(decide ((0:Int)<=5)&&decide ((5:Int)<=6))=true:=by decide
 by_cases hz:z=0
 .have z1:(z==0)=true:=by simpa using hz
  by_cases ht:t.size=0
  .have t1:(t.toList==(⟨#[]⟩:ByteArray).toList)=true:=by rw[D0 ht];exact beq_self_eq_true _
   by_cases hl:l=2
   .have l1:(Int.ofNat l==2)=true:=by simp;omega
    have hE:aQ 5 z t l=0:=by unfold aQ formB;simp[hz,ht,hl]
    simp -implicitDefEqProofs only[go_sem,Int.reduceBEq,BJ,C4,BK,C5,BL,C6,BZ,C_,B0,Da,B6,Db,B_,Dc,Ca,Dd,Cb,De,Cc,Df,Bm,Cp,Bn,Cq,Bo,Cr,Bp,Cs,Bq,Ct,Br,Cu,Bs,Cv,Bt,Cw,Bu,Cx,Bv,Cy,Bw,Cz,BM,Bool.or_true,Bool.or_false,Ag,w0,z1,t1,l1,Bool.not_false,Bool.not_true]
    exact⟨_,_,rfl,fin.1,fin.2,by rw[hE]<;>rfl⟩
   .have l1:(Int.ofNat l==2)=false:=by simp;omega
    have hE:aQ 5 z t l=1:=by unfold aQ formB;simp[hz,ht,hl]
    simp -implicitDefEqProofs only[go_sem,Int.reduceBEq,BJ,C4,BK,C5,BL,C6,BZ,C_,B0,Da,B6,Db,B_,Dc,Ca,Dd,Cb,De,Cc,Df,Bm,Cp,Bn,Cq,Bo,Cr,Bp,Cs,Bq,Ct,Br,Cu,Bs,Cv,Bt,Cw,Bu,Cx,Bv,Cy,Bw,Cz,BM,Bool.or_true,Bool.or_false,Ag,w0,z1,t1,l1,Bool.not_false,Bool.not_true]
    exact⟨_,_,rfl,fin.1,fin.2,by rw[hE]<;>rfl⟩
  .have t1:=EC ht
   have hE:aQ 5 z t l=1:=by unfold aQ formB;simp[hz,ht]
   simp -implicitDefEqProofs only[go_sem,Int.reduceBEq,BJ,C4,BK,C5,BL,C6,BZ,C_,B0,Da,B6,Db,B_,Dc,Ca,Dd,Cb,De,Cc,Df,Bm,Cp,Bn,Cq,Bo,Cr,Bp,Cs,Bq,Ct,Br,Cu,Bs,Cv,Bt,Cw,Bu,Cx,Bv,Cy,Bw,Cz,BM,Bool.or_true,Bool.or_false,Ag,w0,z1,t1,Bool.not_false,Bool.not_true]
   exact⟨_,_,rfl,fin.1,fin.2,by rw[hE]<;>rfl⟩
 .have z1:(z==0)=false:=by simpa using hz
  have hE:aQ 5 z t l=1:=by unfold aQ formB;simp[hz]
  simp -implicitDefEqProofs only[go_sem,Int.reduceBEq,BJ,C4,BK,C5,BL,C6,BZ,C_,B0,Da,B6,Db,B_,Dc,Ca,Dd,Cb,De,Cc,Df,Bm,Cp,Bn,Cq,Bo,Cr,Bp,Cs,Bq,Ct,Br,Cu,Bs,Cv,Bt,Cw,Bu,Cx,Bv,Cy,Bw,Cz,BM,Bool.or_true,Bool.or_false,Ag,w0,z1,Bool.not_false,Bool.not_true]
  exact⟨_,_,rfl,fin.1,fin.2,by rw[hE]<;>rfl⟩
theorem AvP(n:Nat)(z:Int)(t:ByteArray)(l:Nat)(p:Option Addr)(c:Nat)(Z:aC)(hw:Wf Z):
  Gives ((env (n+4)).call 120 [.agg #[.int .i64 6,.int .i64 z,.string t,.slice p l c]] none Z) Z fun w _=>w=.int .i64 (aQ 6 z t l:Nat):=by
 rw[Al _ 120 _ _ rfl,E_ _ _ _ _ (by simp),Aj]
 unfold F_
 have fin:Ext Z (Z.push (.cells [.int .i64 6,.int .i64 z,.string t,.slice p l c] TD) none)/\Wf (Z.push (.cells [.int .i64 6,.int .i64 z,.string t,.slice p l c] TD) none):=⟨(Ext.refl _).push _ _,hw.push _ _⟩
 have w0:(decide ((0:Int)<=6)&&decide ((6:Int)<=6))=true:=by decide
 by_cases hz:z=0
 .have z1:(z==0)=true:=by simpa using hz
  by_cases ht:t.size=0
  .have t1:(t.toList==(⟨#[]⟩:ByteArray).toList)=true:=by rw[D0 ht];exact beq_self_eq_true _
   have hE:aQ 6 z t l=0:=by unfold aQ formB;simp[hz,ht]
   simp -implicitDefEqProofs only[go_sem,Int.reduceBEq,BJ,C4,BK,C5,BL,C6,BZ,C_,B0,Da,B6,Db,B_,Dc,Ca,Dd,Cb,De,Cc,Df,Bm,Cp,Bn,Cq,Bo,Cr,Bp,Cs,Bq,Ct,Br,Cu,Bs,Cv,Bt,Cw,Bu,Cx,Bv,Cy,Bw,Cz,BM,Bool.or_true,Bool.or_false,Ag,w0,z1,t1,Bool.not_false,Bool.not_true]
   exact⟨_,_,rfl,fin.1,fin.2,by rw[hE]<;>rfl⟩
  .have t1:=EC ht
   have hE:aQ 6 z t l=1:=by unfold aQ formB;simp[hz,ht]
   simp -implicitDefEqProofs only[go_sem,Int.reduceBEq,BJ,C4,BK,C5,BL,C6,BZ,C_,B0,Da,B6,Db,B_,Dc,Ca,Dd,Cb,De,Cc,Df,Bm,Cp,Bn,Cq,Bo,Cr,Bp,Cs,Bq,Ct,Br,Cu,Bs,Cv,Bt,Cw,Bu,Cx,Bv,Cy,Bw,Cz,BM,Bool.or_true,Bool.or_false,Ag,w0,z1,t1,Bool.not_false,Bool.not_true]
   exact⟨_,_,rfl,fin.1,fin.2,by rw[hE]<;>rfl⟩
 .have z1:(z==0)=false:=by simpa using hz
  have hE:aQ 6 z t l=1:=by unfold aQ formB;simp[hz]
  simp -implicitDefEqProofs only[go_sem,Int.reduceBEq,BJ,C4,BK,C5,BL,C6,BZ,C_,B0,Da,B6,Db,B_,Dc,Ca,Dd,Cb,De,Cc,Df,Bm,Cp,Bn,Cq,Bo,Cr,Bp,Cs,Bq,Ct,Br,Cu,Bs,Cv,Bt,Cw,Bu,Cx,Bv,Cy,Bw,Cz,BM,Bool.or_true,Bool.or_false,Ag,w0,z1,Bool.not_false,Bool.not_true]
  exact⟨_,_,rfl,fin.1,fin.2,by rw[hE]<;>rfl⟩
theorem U5(n:Nat)(k z:Int)(t:ByteArray)(l:Nat)(p:Option Addr)(c:Nat)(Z:aC)(hw:Wf Z):
  Gives ((env (n+4)).call 120 [.agg #[.int .i64 k,.int .i64 z,.string t,.slice p l c]] none Z) Z fun w _=>w=.int .i64 (aQ k z t l:Nat):=by
 by_cases hk:0<=k/\k<=6
 .have:k=0\/k=1\/k=2\/k=3\/k=4\/k=5\/k=6:=by omega
  rcases this with rfl|rfl|rfl|rfl|rfl|rfl|rfl
  .exact AvJ n z t l p c Z hw
  .exact AvK n z t l p c Z hw
  .exact AvL n z t l p c Z hw
  .exact AvM n z t l p c Z hw
  .exact AvN n z t l p c Z hw
  .exact AvO n z t l p c Z hw
  .exact AvP n z t l p c Z hw
 .have hE:aQ k z t l=4:=by unfold aQ;rw[if_neg hk]
  have w0:(decide ((0:Int)<=k)&&decide (k<=6))=false:=by simp;omega
  rw[Al _ 120 _ _ rfl,E_ _ _ _ _ (by simp),Aj]
  unfold F_
  simp -implicitDefEqProofs only[go_sem,BJ,C4,BK,C5,BL,C6,BM,w0,Bool.not_false]
  exact⟨_,_,rfl,(Ext.refl _).push _ _,hw.push _ _,by rw[hE]<;>rfl⟩
structure RefOK (N:Nat) (d:D):Prop where
 deep:d.deep<=N
 whole:∀x∈d.pieces [],x.2.parts.length<1000/\WholeD x.2
 count:d.count<=2000
section
variable (R:Nat->Prop) (d:D) (lv:List Value) (h4:lv.length=4) (Z:aC) (hw:Wf Z) (hL:aL R Z (.agg lv.toArray) d)
include h4 hw hL
end
mutual
def aR:D->Nat
 | .mk k z t ds=>if aQ k z t ds.length=0 then bR ds else aQ k z t ds.length
def bR:List D->Nat
 | []=>0
 | d::ds=>if aR d=0 then bR ds else aR d
end
mutual
theorem Bz:∀d:D,d.deep<=d.count
 | .mk k z t ds=>by
  rw[D.deep,D.count]
  have:=Ew ds
  omega
theorem Ew:∀ds:List D,D.deeps ds<=D.counts ds
 | []=>by simp[D.deeps]
 | d::ds=>by
  rw[D.deeps,D.counts]
  have:=Bz d
  have:=Ew ds
  omega
end
theorem Ir:∀ {ds:List D} {d:D},d∈ds->d.count<=D.counts ds
 | d0::ds,d,h=>by
  rw[D.counts]
  rcases List.mem_cons.1 h with rfl|h
  .omega
  .have:=Ir h
   omega
theorem Amk(m:Nat)(R:Nat->Prop)(ds:List D)(p:Option Addr)(c bx:Nat)(k z:Int)(t:ByteArray)(hds:ds.length<1000000)(hO:∀(i:Nat) (d:D),ds[i]? = some d->∀v V,Wf V->aL R V v d->Gives ((env m).call 74 [v] none V) V fun r _=>r=.int .i64 (aR d:Nat)):
  ∀(j fuel i:Nat) (f g:Nat->Value) (Z:aC),ds.length-i=j->j<fuel->i<=ds.length->Wf Z->aO R Z p 0 ds->Z.cells bx=some [.int .i64 k,.int .i64 z,.string t,.slice p ds.length c]->f 1=.pointer (some ⟨bx,0,none⟩)->f 4=.int .i64 (.ofNat i)->
   ∃f' g' V,Ext Z V/\Wf V/\((bR (ds.drop i)=0/\floop [] (Mj (env m) none 74) fuel (Sl 6 27 f g []) none Z=.done (.exit 0) (Sl 6 27 f' g' []) none V)\/
    (bR (ds.drop i)≠0/\floop [] (Mj (env m) none 74) fuel (Sl 6 27 f g []) none Z=.done .ret (Sl 6 27 f' g' []) none V/\f' 2=.int .i64 (bR (ds.drop i):Nat))):=by
 intro j
 induction j with
 | zero=>
  intro fuel i f g Z hj hf hi hw hE hc f1 f4
  obtain⟨fuel,rfl⟩:∃q,fuel=q+1:=⟨fuel-1,by omega⟩
  obtain rfl:i=ds.length:=by omega
  have d0:decide (Int.ofNat ds.length<Int.ofNat ds.length)=false:=by simp
  rw[Ao,List.drop_length]
  unfold Mj
  simp -implicitDefEqProofs only[go_sem,Na,M_,f1,f4,hc,d0]
  exact⟨_,_,_,Ext.refl _,hw,.inl ⟨rfl,rfl⟩⟩
 | succ j ih=>
  intro fuel i f g Z hj hf hi hw hE hc f1 f4
  obtain⟨fuel,rfl⟩:∃q,fuel=q+1:=⟨fuel-1,by omega⟩
  have hlt:i<ds.length:=by omega
  have d0:decide (Int.ofNat i<Int.ofNat ds.length)=true:=by simp;omega
  have hd:ds[i]? = some ds[i]:=List.getElem?_eq_getElem hlt
  obtain⟨b,off,cs,rfl,hRb,hcs,hle,hL⟩:=aO.get hE hd
  rw[Nat.zero_add] at hle hL
  obtain⟨_,bT,e3,x3,hw3,rfl⟩:=hO i ds[i] hd _ Z hw hL
  have a1:=Ga i (by omega)
  rw[List.drop_eq_getElem_cons hlt,bR]
  by_cases he:aR ds[i]=0
  .rw[if_pos he]
   have z0:(((aR ds[i]:Nat):Int)==0)=true:=by rw[he];rfl
   have ih':=fun f g h1 h4=>ih fuel (i+1) f g bT (by omega) (by omega) (by omega) hw3 (hE.keep fun b cs hb hc=>⟨(x3.cells (hw.cells hc)).trans hc,hb⟩) ((x3.cells (hw.cells hc)).trans hc) h1 h4
   unfold Mj at ih'
   rw[Ao]
   unfold Mj
   simp -implicitDefEqProofs only[go_sem,Na,M_,AkY,Zm,VS,Sx,VT,Sy,f1,f4,hc,d0,hlt,hcs,hle,e3,z0,a1,Ag]
   generalize hff:upd _ 4 _=f2
   generalize hgg:upd _ 17 _=g2
   obtain⟨f3,g3,bX,x4,hw4,h⟩:=ih' f2 g2 (by rw[<-hff];simp -implicitDefEqProofs only[go_sem,reduceCtorEq,f1]) (by rw[<-hff];simp -implicitDefEqProofs only[go_sem,reduceCtorEq])
   exact⟨f3,g3,bX,x3.trans x4,hw4,h⟩
  .rw[if_neg he]
   have z0:(((aR ds[i]:Nat):Int)==0)=false:=by simp;omega
   rw[Ao]
   unfold Mj
   simp -implicitDefEqProofs only[go_sem,Na,M_,VS,Sx,VT,Sy,AkZ,Zn,f1,f4,hc,d0,hlt,hcs,hle,e3,z0,a1,Ag]
   exact⟨_,_,_,x3,hw3,.inr ⟨he,rfl,by simp -implicitDefEqProofs only[go_sem,reduceCtorEq]⟩⟩
theorem Aek(n:Nat)(R:Nat->Prop):∀(N:Nat) (d:D) (v:Value) (Z:aC),d.deep<=N->d.count<=100000->Wf Z->aL R Z v d->
  Gives ((env (n+4+N)).call 74 [v] none Z) Z fun r _=>r=.int .i64 (aR d:Nat):=by
 intro N
 induction N with
 | zero=>
  intro d v Z hN
  obtain⟨k,z,t,ds⟩:=d
  rw[D.deep] at hN
  omega
 | succ N ih=>
  intro d v Z hN hcn hw hL
  obtain⟨k,z,t,ds⟩:=d
  rw[D.count] at hcn
  have hlen:=En ds
  obtain⟨p,c,rfl,hE⟩:=hL
  obtain⟨M,hM⟩:∃M,n+4+N=M:=⟨_,rfl⟩
  rw[hM] at ih
  rw[show n+4+(N+1)=M+1 by omega,Al _ 74 _ _ rfl,Aoy _ _ _ _ (by simp),Aj]
  unfold AmK
  have x1:Ext Z (Z.push (.cells [.int .i64 k,.int .i64 z,.string t,.slice p ds.length c] TD) none):=(Ext.refl _).push _ _
  have hw1:=hw.push (.cells [.int .i64 k,.int .i64 z,.string t,.slice p ds.length c] TD) none
  have c1:(Z.push (.cells [.int .i64 k,.int .i64 z,.string t,.slice p ds.length c] TD) none).cells Z.next=some [.int .i64 k,.int .i64 z,.string t,.slice p ds.length c]:=by rw[Ah,if_pos rfl];rfl
  obtain⟨_,a9,e2,x2,hw2,rfl⟩:=U5 (n+N) k z t ds.length p c _ hw1
  rw[show n+N+4=M by omega] at e2
  have c2:=(x2.cells (hw1.cells c1)).trans c1
  have hkeep:bE nls 74=[]:=by kernel_rfl
  rw[aR]
  by_cases hp:aQ k z t ds.length=0
  .rw[if_pos hp]
   have z0:(((aQ k z t ds.length:Nat):Int)==0)=true:=by rw[hp];rfl
   have lp:=fun fuel f g hf h1 h4=>Amk M R ds p c Z.next k z t (by omega) (fun i d hdi v V hw' hl=>ih d v V (by rw[D.deep] at hN;have:=Ft (List.mem_of_getElem? hdi);omega) (by have:=Ir (List.mem_of_getElem? hdi);omega) hw' hl)
    ds.length fuel 0 f g a9 (by omega) hf (by omega) hw2 (hE.keep fun b cs hb hc=>⟨((x1.trans x2).cells (hw.cells hc)).trans hc,hb⟩) c2 h1 h4
   simp -implicitDefEqProofs only[go_sem,VP,Sr,VQ,Su,VR,Sv,AkX,Zl,e2,z0,Ag,hkeep]
   generalize hbf:bF=fuel
   generalize hff:upd _ 4 _=f1
   generalize hgg:upd _ 9 _=g1
   obtain⟨f',g',bT,x3,hw3,h⟩:=lp fuel f1 g1 (by rw[<-hbf];show ds.length<1000000000000;omega) (by rw[<-hff];simp -implicitDefEqProofs only[go_sem,reduceCtorEq]) (by rw[<-hff];simp -implicitDefEqProofs only[go_sem,reduceCtorEq]<;>rfl)
   rw[List.drop_zero] at h
   rcases h with⟨h1,h2⟩|⟨h1,h2,h3⟩
   .rw[h2]
    simp -implicitDefEqProofs only[go_sem,Aej,Ss]
    exact⟨_,_,rfl,(x1.trans x2).trans x3,hw3,by rw[h1];rfl⟩
   .rw[h2]
    simp -implicitDefEqProofs only[go_sem,h3]
    exact⟨_,_,rfl,(x1.trans x2).trans x3,hw3,rfl⟩
  .rw[if_neg hp]
   have z0:(((aQ k z t ds.length:Nat):Int)==0)=false:=by simp;omega
   simp -implicitDefEqProofs only[go_sem,VP,Sr,VQ,Su,VR,Sv,AkW,Zk,e2,z0,Ag,hkeep]
   exact⟨_,_,rfl,x1.trans x2,hw2,rfl⟩
section
variable (R:Nat->Prop) (d:D) (lv:List Value) (h4:lv.length=4) (Z:aC) (hw:Wf Z) (hL:aL R Z (.agg lv.toArray) d)
include h4 hw hL
theorem AcX(M n N:Nat)(hM:M=n+N)(h1:d.deep<=N)(h2:d.count<=2000):Gives ((env (M+1)).call 75 [.agg lv.toArray] none Z) Z fun r _=>r=.int .i64 0:=by
 have ht:lv.take 4=lv:=List.take_of_length_le (by omega)
 rw[Al _ 75 _ _ rfl,Abc _ _ _ _ (by simp),Aj]
 unfold Aca
 have x1:Ext Z (Z.push (.cells lv TD) none):=(Ext.refl _).push _ _
 have hw1:=hw.push (.cells lv TD) none
 have c1:(Z.push (.cells lv TD) none).cells Z.next=some lv:=by rw[Ah,if_pos rfl];rfl
 obtain⟨_,a9,e2,x2,hw2,rfl⟩:=Qk n R N d h1 (.agg lv.toArray) 2000 _ hw1 (hL.keep fun b cs hb hc=>⟨(x1.cells (hw.cells hc)).trans hc,hb⟩) h2 (by omega)
 rw[<-hM] at e2
 have d0:decide (Int.ofNat d.count>2000)=false:=by
  simp only[Int.ofNat_eq_natCast,decide_eq_false_iff_not]
  omega
 have e2':(env M).call 42 [.agg lv.toArray,.int .i64 2000] none (Z.push (.cells lv TD) none)=_:=e2
 simp -implicitDefEqProofs only[go_sem,Nc,Nb,Nf,Nd,VU,Sz,h4,ht,e2',d0,Ag,Nat.le_refl]
 exact⟨_,_,rfl,x1.trans x2,hw2,rfl⟩
theorem E9(M n N:Nat)(hM:M=n+4+N)(h1:d.deep<=N)(h2:d.count<=2000):Gives ((env (M+2)).call 16 [.agg lv.toArray] none Z) Z fun r _=>r=.int .i64 (aR d:Nat):=by
 have ht:lv.take 4=lv:=List.take_of_length_le (by omega)
 rw[Al _ 16 _ _ rfl,Aoa _ _ _ _ (by simp),Aj]
 unfold Amm
 have x1:Ext Z (Z.push (.cells lv TD) none):=(Ext.refl _).push _ _
 have hw1:=hw.push (.cells lv TD) none
 have c1:(Z.push (.cells lv TD) none).cells Z.next=some lv:=by rw[Ah,if_pos rfl];rfl
 obtain⟨_,a9,e2,x2,hw2,rfl⟩:=Aek (n+1) R N d (.agg lv.toArray) _ h1 (by omega) hw1 (hL.keep fun b cs hb hc=>⟨(x1.cells (hw.cells hc)).trans hc,hb⟩)
 rw[show n+1+4+N=M+1 by omega] at e2
 have c2:=(x2.cells (hw1.cells c1)).trans c1
 by_cases he:aR d=0
 .have z0:(((aR d:Nat):Int)==0)=true:=by rw[he];rfl
  obtain⟨_,bT,e3,x3,hw3,rfl⟩:=AcX R d lv h4 a9 hw2 (hL.keep fun b cs hb hc=>⟨((x1.trans x2).cells (hw.cells hc)).trans hc,hb⟩) M (n+4) N (by omega) h1 h2
  simp -implicitDefEqProofs only[go_sem,U8,Rf,U9,Rg,U_,Rh,Ain,XU,h4,ht,c2,e2,e3,z0,Ag,Nat.le_refl]
  exact⟨_,_,rfl,(x1.trans x2).trans x3,hw3,by rw[he];rfl⟩
 .have z0:(((aR d:Nat):Int)==0)=false:=by simp;omega
  simp -implicitDefEqProofs only[go_sem,U8,Rf,U9,Rg,U_,Rh,Aim,XT,h4,ht,e2,z0,Ag,Nat.le_refl]
  exact⟨_,_,rfl,x1.trans x2,hw2,rfl⟩
end
end
section
open Go Go.Eng
attribute [local congr] Aa Af Ae Ab Ad
attribute [-go_sem] List.range_succ
mutual
def wordB:D->Bool
 | .mk _ _ t ds=>decide (100<t.size)||wordBs ds
def wordBs:List D->Bool
 | []=>false
 | d::ds=>wordB d||wordBs ds
end
theorem Aqk(m:Nat)(R:Nat->Prop)(ds:List D)(p:Option Addr)(c bx:Nat)(k z:Int)(t:ByteArray)(hds:ds.length<1000000)(hO:∀(i:Nat) (d:D),ds[i]? = some d->∀v V,Wf V->aL R V v d->Gives ((env m).call 43 [v] none V) V fun r _=>r=.bool (wordB d)):
  ∀(j fuel i:Nat) (f g:Nat->Value) (Z:aC),ds.length-i=j->j<fuel->i<=ds.length->Wf Z->aO R Z p 0 ds->Z.cells bx=some [.int .i64 k,.int .i64 z,.string t,.slice p ds.length c]->f 1=.pointer (some ⟨bx,0,none⟩)->f 3=.int .i64 (.ofNat i)->
   ∃f' g' V,Ext Z V/\Wf V/\((wordBs (ds.drop i)=false/\floop [] (KD (env m) none 43) fuel (Sl 4 21 f g []) none Z=.done (.exit 0) (Sl 4 21 f' g' []) none V)\/
    (wordBs (ds.drop i)=true/\floop [] (KD (env m) none 43) fuel (Sl 4 21 f g []) none Z=.done .ret (Sl 4 21 f' g' []) none V/\f' 2=.bool true)):=by
 intro j
 induction j with
 | zero=>
  intro fuel i f g Z hj hf hi hw hE hc f1 f3
  obtain⟨fuel,rfl⟩:∃q,fuel=q+1:=⟨fuel-1,by omega⟩
  obtain rfl:i=ds.length:=by omega
  have d0:decide (Int.ofNat ds.length<Int.ofNat ds.length)=false:=by simp
  rw[Ao,List.drop_length]
  unfold KD
  simp -implicitDefEqProofs only[go_sem,M5,M4,f1,f3,hc,d0]
  exact⟨_,_,_,Ext.refl _,hw,.inl ⟨rfl,rfl⟩⟩
 | succ j ih=>
  intro fuel i f g Z hj hf hi hw hE hc f1 f3
  obtain⟨fuel,rfl⟩:∃q,fuel=q+1:=⟨fuel-1,by omega⟩
  have hlt:i<ds.length:=by omega
  have d0:decide (Int.ofNat i<Int.ofNat ds.length)=true:=by simp;omega
  have hd:ds[i]? = some ds[i]:=List.getElem?_eq_getElem hlt
  obtain⟨b,off,cs,rfl,hRb,hcs,hle,hL⟩:=aO.get hE hd
  rw[Nat.zero_add] at hle hL
  obtain⟨_,bT,e3,x3,hw3,rfl⟩:=hO i ds[i] hd _ Z hw hL
  have a1:=Ga i (by omega)
  rw[List.drop_eq_getElem_cons hlt,wordBs]
  cases he:wordB ds[i] with
  | false=>
   rw[he] at e3
   rw[Bool.false_or]
   have ih':=fun f g h1 h4=>ih fuel (i+1) f g bT (by omega) (by omega) (by omega) hw3 (hE.keep fun b cs hb hc=>⟨(x3.cells (hw.cells hc)).trans hc,hb⟩) ((x3.cells (hw.cells hc)).trans hc) h1 h4
   unfold KD at ih'
   rw[Ao]
   unfold KD
   simp -implicitDefEqProofs only[go_sem,M5,M4,Aj7,YG,VE,Sd,f1,f3,hc,d0,hlt,hcs,hle,e3,a1,Ag]
   generalize hff:upd _ 3 _=f2
   generalize hgg:upd _ 14 _=g2
   obtain⟨f3',g3,bX,x4,hw4,h⟩:=ih' f2 g2 (by rw[<-hff];simp -implicitDefEqProofs only[go_sem,reduceCtorEq,f1]) (by rw[<-hff];simp -implicitDefEqProofs only[go_sem,reduceCtorEq])
   exact⟨f3',g3,bX,x3.trans x4,hw4,h⟩
  | true=>
   rw[he] at e3
   rw[Bool.true_or]
   have hl:∃f' g',floop [] (KD (env m) none 43) (fuel+1) (Sl 4 21 f g []) none Z=.done .ret (Sl 4 21 f' g' []) none bT/\f' 2=.bool true:=by
    rw[Ao]
    unfold KD
    simp -implicitDefEqProofs only[go_sem,M5,M4,VE,Sd,Aj8,YH,f1,f3,hc,d0,hlt,hcs,hle,e3,a1,Ag]
    exact⟨_,_,rfl,by simp -implicitDefEqProofs only[go_sem,reduceCtorEq]⟩
   obtain⟨f',g',h1,h2⟩:=hl
   exact⟨f',g',_,x3,hw3,.inr ⟨rfl,h1,h2⟩⟩
theorem Anj(n:Nat)(R:Nat->Prop):∀(N:Nat) (d:D) (v:Value) (Z:aC),d.deep<=N->d.count<=100000->Wf Z->aL R Z v d->
  Gives ((env (n+N)).call 43 [v] none Z) Z fun r _=>r=.bool (wordB d):=by
 intro N
 induction N with
 | zero=>
  intro d v Z hN
  obtain⟨k,z,t,ds⟩:=d
  rw[D.deep] at hN
  omega
 | succ N ih=>
  intro d v Z hN hcn hw hL
  obtain⟨k,z,t,ds⟩:=d
  rw[D.count] at hcn
  have hlen:=En ds
  obtain⟨p,c,rfl,hE⟩:=hL
  obtain⟨M,hM⟩:∃M,n+N=M:=⟨_,rfl⟩
  rw[hM] at ih
  rw[show n+(N+1)=M+1 by omega,Al _ 43 _ _ rfl,Aoo _ _ _ _ (by simp),Aj]
  unfold AmA
  have x1:Ext Z (Z.push (.cells [.int .i64 k,.int .i64 z,.string t,.slice p ds.length c] TD) none):=(Ext.refl _).push _ _
  have hw1:=hw.push (.cells [.int .i64 k,.int .i64 z,.string t,.slice p ds.length c] TD) none
  have c1:(Z.push (.cells [.int .i64 k,.int .i64 z,.string t,.slice p ds.length c] TD) none).cells Z.next=some [.int .i64 k,.int .i64 z,.string t,.slice p ds.length c]:=by rw[Ah,if_pos rfl];rfl
  have hkeep:bE nls 43=[]:=by kernel_rfl
  rw[wordB]
  by_cases hp:100<t.size
  .have d0:decide (Int.ofNat t.size>100)=true:=by simp;omega
   have d1:decide (100<t.size)=true:=decide_eq_true hp
   simp -implicitDefEqProofs only[go_sem,VC,Sb,VD,Sc,Aj5,YE,d0,d1,Bool.true_or]
   exact⟨_,_,rfl,x1,hw1,rfl⟩
  .have d0:decide (Int.ofNat t.size>100)=false:=by simp;omega
   have d1:decide (100<t.size)=false:=decide_eq_false hp
   have lp:=fun fuel f g hf h1 h4=>Aqk M R ds p c Z.next k z t (by omega) (fun i d hdi v V hw' hl=>ih d v V (by rw[D.deep] at hN;have:=Ft (List.mem_of_getElem? hdi);omega) (by have:=Ir (List.mem_of_getElem? hdi);omega) hw' hl)
    ds.length fuel 0 f g _ (by omega) hf (by omega) hw1 (hE.keep fun b cs hb hc=>⟨(x1.cells (hw.cells hc)).trans hc,hb⟩) c1 h1 h4
   simp -implicitDefEqProofs only[go_sem,VC,Sb,VD,Sc,Aj6,YF,d0,d1,Bool.false_or,Ag,hkeep]
   generalize hbf:bF=fuel
   generalize hff:upd _ 3 _=f1
   generalize hgg:upd _ 7 _=g1
   obtain⟨f',g',bT,x3,hw3,h⟩:=lp fuel f1 g1 (by rw[<-hbf];show ds.length<1000000000000;omega) (by rw[<-hff];simp -implicitDefEqProofs only[go_sem,reduceCtorEq]) (by rw[<-hff];simp -implicitDefEqProofs only[go_sem,reduceCtorEq]<;>rfl)
   rw[List.drop_zero] at h
   rcases h with⟨h1,h2⟩|⟨h1,h2,h3⟩
   .rw[h2,h1]
    simp -implicitDefEqProofs only[go_sem,Aj9,YI]
    exact⟨_,_,rfl,x1.trans x3,hw3,rfl⟩
   .rw[h2,h1]
    simp -implicitDefEqProofs only[go_sem,h3]
    exact⟨_,_,rfl,x1.trans x3,hw3,rfl⟩
def vastB(d:D):Bool:=decide (150<d.count)||wordB d
theorem Ach(n:Nat)(R:Nat->Prop)(d:D)(lv:List Value)(h4:lv.length=4)(Z:aC)(hw:Wf Z)(hL:aL R Z (.agg lv.toArray) d):
  Gives ((env (n+152)).call 6 [.agg lv.toArray] none Z) Z fun r _=>r=.bool (vastB d):=by
 have ht:lv.take 4=lv:=List.take_of_length_le (by omega)
 rw[show n+152=(n+151)+1 by omega,Al _ 6 _ _ rfl,Avp _ _ _ _ (by simp),Aj]
 unfold AwB
 have x1:Ext Z (Z.push (.cells lv TD) none):=(Ext.refl _).push _ _
 have hw1:=hw.push (.cells lv TD) none
 have c1:(Z.push (.cells lv TD) none).cells Z.next=some lv:=by rw[Ah,if_pos rfl];rfl
 obtain⟨_,a9,e2,x2,hw2,rfl⟩:=AfE n R 150 150 d (Nat.le_refl _) (by omega) (.agg lv.toArray) _ hw1 (hL.keep fun b cs hb hc=>⟨(x1.cells (hw.cells hc)).trans hc,hb⟩)
 rw[show n+150+1=n+151 by omega] at e2
 have e2':(env (n+151)).call 42 [.agg lv.toArray,.int .i64 150] none (Z.push (.cells lv TD) none)=_:=e2
 have c2:=(x2.cells (hw1.cells c1)).trans c1
 generalize hM:n+151=M at *
 unfold vastB
 by_cases hv:150<d.count
 .have d0:decide (Int.ofNat (min d.count (150+1))>150)=true:=by simp only[Int.ofNat_eq_natCast,decide_eq_true_eq];omega
  have d1:decide (150<d.count)=true:=decide_eq_true hv
  generalize min d.count (150+1)=q at *
  simp -implicitDefEqProofs only[go_sem,Ab4,Ab3,Ab6,Ab5,h4,ht,e2',d0,d1,Bool.true_or,Nat.le_refl]
  exact⟨_,_,rfl,x1.trans x2,hw2,rfl⟩
 .have d0:decide (Int.ofNat (min d.count (150+1))>150)=false:=by simp only[Int.ofNat_eq_natCast,decide_eq_false_iff_not];omega
  have d1:decide (150<d.count)=false:=decide_eq_false hv
  have hdc:=Bz d
  obtain⟨_,bT,e3,x3,hw3,rfl⟩:=Anj (n+1) R 150 d (.agg lv.toArray) a9 (by omega) (by omega) hw2 (hL.keep fun b cs hb hc=>⟨((x1.trans x2).cells (hw.cells hc)).trans hc,hb⟩)
  rw[show n+1+150=M by omega] at e3
  generalize min d.count (150+1)=q at *
  simp -implicitDefEqProofs only[go_sem,Ab4,Ab3,Ab6,Ab5,h4,ht,e2',c2,e3,d0,d1,Bool.false_or,Nat.le_refl]
  exact⟨_,_,rfl,(x1.trans x2).trans x3,hw3,rfl⟩
end
section
open Go Go.Eng
attribute [local congr] Aa Af Ae Ab Ad
attribute [-go_sem] List.range_succ
theorem AeB:(List.range 123).filter symC=[33,42,43,45,47,48,49,50,51,52,53,54,55,56,57,60,61,62,63,97,98,99,100,101,102,103,104,105,106,107,108,109,110,111,112,113,114,115,116,117,118,119,120,121,122]:=by decide
theorem Am9{c:Nat}(h:symC c=true):c∈(List.range 123).filter symC:=by
 rw[List.mem_filter,List.mem_range]
 refine⟨?_,h⟩
 unfold symC digC signs at h
 simp at h
 omega
def clsN(c:Nat):Int:=if digC c=true then 2 else if 97<=c/\c<=122 then 1 else 3
def symNums:List Nat:=[33,42,43,45,47,48,49,50,51,52,53,54,55,56,57,60,61,62,63,97,98,99,100,101,102,103,104,105,106,107,108,109,110,111,112,113,114,115,116,117,118,119,120,121,122]
theorem WY(n c:Nat)(hm:c∈symNums)(Z:aC):(env (n+20)).call 176 [.int .i32 (c:Int)] none Z=.ret (.int .i64 (clsN c)) none Z:=by
 simp only[symNums,List.mem_cons,List.not_mem_nil,or_false] at hm
 rcases hm with rfl|rfl|rfl|rfl|rfl|rfl|rfl|rfl|rfl|rfl|rfl|rfl|rfl|rfl|rfl|rfl|rfl|rfl|rfl|rfl|rfl|rfl|rfl|rfl|rfl|rfl|rfl|rfl|rfl|rfl|rfl|rfl|rfl|rfl|rfl|rfl|rfl|rfl|rfl|rfl|rfl|rfl|rfl|rfl|rfl<;>kernel_rfl
theorem Acy(c:Nat)(hm:c∈symNums)(Z:aC):fun1 Tryz.prog (convert 5 21) (.int .u8 (c:Int)) Z=.val (.int .i32 (c:Int)) Z:=by
 simp only[symNums,List.mem_cons,List.not_mem_nil,or_false] at hm
 rcases hm with rfl|rfl|rfl|rfl|rfl|rfl|rfl|rfl|rfl|rfl|rfl|rfl|rfl|rfl|rfl|rfl|rfl|rfl|rfl|rfl|rfl|rfl|rfl|rfl|rfl|rfl|rfl|rfl|rfl|rfl|rfl|rfl|rfl|rfl|rfl|rfl|rfl|rfl|rfl|rfl|rfl|rfl|rfl|rfl|rfl<;>kernel_rfl
theorem PL{c:Nat}(h:symC c=true):c∈symNums:=by
 have hm:=Am9 h
 rw[AeB] at hm
 exact hm
theorem TM(n c:Nat)(h:symC c=true)(Z:aC):(env (n+20)).call 176 [.int .i32 (c:Int)] none Z=.ret (.int .i64 (clsN c)) none Z:=WY n c (PL h) Z
theorem An5(c:Nat)(h:symC c=true)(Z:aC):fun1 Tryz.prog (convert 5 21) (.int .u8 (c:Int)) Z=.val (.int .i32 (c:Int)) Z:=Acy c (PL h) Z
theorem Abi(n i c:Nat)(t:ByteArray)(f g:Nat->Value)(Z:aC)(hi:i<t.size)(hsz:i<1000000)(hc:bA t i=c)(hs:symC c=true)(hd:digC c=true->1<i\/(i=1/\bA t 0≠45))(f0:f 0=.string t)(g13:g 13=.int .i64 (.ofNat t.size))(g14:g 14=.int .i64 (.ofNat i)):
  ∃f' g',f' 0=.string t/\g' 13=.int .i64 (.ofNat t.size)/\Fb (env (n+20)) none 158 (Sl 4 38 f g []) none Z=.done .normal (Sl 4 38 f' g' []) none Z/\g' 14=.int .i64 (.ofNat (i+1)):=by
 have d0:decide (Int.ofNat i<Int.ofNat t.size)=true:=by simp;omega
 have hb:=EA t i hi Z
 rw[hc] at hb
 have a1:=Ga i (by omega)
 have hcl:=TM n c hs Z
 have hcv:=An5 c hs Z
 unfold Fb
 cases hdd:digC c with
 | false=>
  have e2:(clsN c==2)=false:=by unfold clsN;rw[hdd];simp;split<;>decide
  have e0:(clsN c==0)=false:=by unfold clsN;rw[hdd];simp;split<;>decide
  generalize clsN c=q at *
  simp -implicitDefEqProofs only[go_sem,EH,E5,FA,FX,FB,FY,FC,FZ,FD,F2,FE,F3,IG,Hs,f0,g13,g14,d0,hb,hcv,hcl,a1,e2,e0,Ag]
  refine⟨_,_,?_,?_,rfl,?_⟩
  .simp -implicitDefEqProofs only[go_sem,reduceCtorEq,f0]
  .simp -implicitDefEqProofs only[go_sem,reduceCtorEq,g13]
  .simp -implicitDefEqProofs only[go_sem,reduceCtorEq]
 | true=>
  have hq:clsN c=2:=by unfold clsN;rw[hdd];rfl
  rw[hq] at hcl
  have e2:((2:Int)==2)=true:=rfl
  by_cases h1:1<i
  .have d1:decide (Int.ofNat i>1)=true:=by simp;omega
   simp -implicitDefEqProofs only[go_sem,EH,E5,FA,FX,FB,FY,FC,FZ,FD,F2,FE,F3,IG,Hs,f0,g13,g14,d0,hb,hcv,hcl,a1,e2,d1,Ag]
   refine⟨_,_,?_,?_,rfl,?_⟩
   .simp -implicitDefEqProofs only[go_sem,reduceCtorEq,f0]
   .simp -implicitDefEqProofs only[go_sem,reduceCtorEq,g13]
   .simp -implicitDefEqProofs only[go_sem,reduceCtorEq]
  .obtain⟨h2,h3⟩:i=1/\bA t 0≠45:=by
    rcases hd hdd with h|h
    .omega
    .exact h
   have d1:decide (Int.ofNat i>1)=false:=by simp;omega
   have d2:(Int.ofNat i==1)=true:=by subst h2;rfl
   have b0:=OL t (by omega) Z
   have e45:((bA t 0:Int)==45)=false:=by simp;omega
   have neq_u8:∀(x y:Operand) (a b:Int) (Z:aC),i_neq Tryz.prog 5 x y (.int .u8 a) (.int .u8 b) Z=.val (.bool (!(a==b))) Z:=fun x y a b Z=>by kernel_rfl
   simp -implicitDefEqProofs only[go_sem,EH,E5,FA,FX,FB,FY,FC,FZ,FD,F2,FE,F3,IG,Hs,f0,g13,g14,d0,hb,hcv,hcl,a1,e2,d1,d2,b0,e45,neq_u8,Bool.not_false,Ag]
   refine⟨_,_,?_,?_,rfl,?_⟩
   .simp -implicitDefEqProofs only[go_sem,reduceCtorEq,f0]
   .simp -implicitDefEqProofs only[go_sem,reduceCtorEq,g13]
   .simp -implicitDefEqProofs only[go_sem,reduceCtorEq]
theorem AoW(n:Nat)(t:ByteArray)(hsz:t.size<=20)(hs:∀i,i<t.size->symC (bA t i)=true/\(digC (bA t i)=true->1<i\/(i=1/\bA t 0≠45)))(keep:List Nat)(hk:13∈keep/\14∈keep)(Z:aC):∀(j fuel i:Nat) (f g:Nat->Value),t.size-i=j->j<fuel->i<=t.size->f 0=.string t->g 13=.int .i64 (.ofNat t.size)->g 14=.int .i64 (.ofNat i)->
  ∃f' g',floop keep (Fb (env (n+20)) none 158) fuel (Sl 4 38 f g []) none Z=.done (.exit 0) (Sl 4 38 f' g' []) none Z:=by
 intro j
 induction j with
 | zero=>
  intro fuel i f g hj hf hi f0 g13 g14
  obtain⟨fuel,rfl⟩:∃q,fuel=q+1:=⟨fuel-1,by omega⟩
  obtain rfl:i=t.size:=by omega
  have d0:decide (Int.ofNat t.size<Int.ofNat t.size)=false:=by simp
  rw[Ao]
  have k13:kept keep g 13=.int .i64 (.ofNat t.size):=by rw[Fe,if_pos hk.1,g13]
  have k14:kept keep g 14=.int .i64 (.ofNat t.size):=by rw[Fe,if_pos hk.2,g14]
  have h:∃f' g',Fb (env (n+20)) none 158 (Sl 4 38 f (kept keep g) []) none Z=.done (.exit 0) (Sl 4 38 f' g' []) none Z:=by
   generalize kept keep g=g1 at *
   unfold Fb
   simp -implicitDefEqProofs only[go_sem,EH,E5,f0,k13,k14,d0]
   exact⟨_,_,rfl⟩
  obtain⟨f',g',e⟩:=h
  refine⟨f',g',?_⟩
  simp -implicitDefEqProofs only[Bl,e,AR]
 | succ j ih=>
  intro fuel i f g hj hf hi f0 g13 g14
  obtain⟨fuel,rfl⟩:∃q,fuel=q+1:=⟨fuel-1,by omega⟩
  have hlt:i<t.size:=by omega
  rw[Ao]
  obtain⟨f1,g1,h0,h13,e,h14⟩:=Abi n i (bA t i) t f (kept keep g) Z hlt (by omega) rfl (hs i hlt).1 (hs i hlt).2 f0 (by rw[Fe,if_pos hk.1,g13]) (by rw[Fe,if_pos hk.2,g14])
  obtain⟨f2,g2,h⟩:=ih fuel (i+1) f1 g1 (by omega) (by omega) (by omega) h0 h13 h14
  refine⟨f2,g2,?_⟩
  simp -implicitDefEqProofs only[Bl,e,Az]
  exact h
theorem AfB(n:Nat)(t:ByteArray)(h:symB t=true)(Z:aC):(env (n+21)).call 158 [.string t] none Z=.ret (.bool true) none Z:=by
 unfold symB at h
 simp only[Bool.and_eq_true,decide_eq_true_eq,Bool.not_eq_true',List.all_eq_true,List.mem_range] at h
 obtain⟨⟨⟨⟨h1,h2⟩,h3⟩,h4⟩,h5⟩:=h
 have hs:∀i,i<t.size->symC (bA t i)=true/\(digC (bA t i)=true->1<i\/(i=1/\bA t 0≠45)):=fun i hi=>⟨h5 i hi,fun hd=>by
  by_cases hi0:i=0
  .subst hi0
   rw[h3] at hd
   cases hd
  .by_cases hi1:i=1
   .subst hi1
    refine .inr ⟨rfl,fun h45=>?_⟩
    rw[hd,h45] at h4
    simp[hi] at h4
   .exact .inl (by omega)⟩
 rw[Al _ 158 _ _ rfl,Uc _ _ _ _ (by simp),Aj]
 unfold Th
 have d0:(Int.ofNat t.size==0)=false:=by rw[beq_eq_false_iff_ne];simp only[Int.ofNat_eq_natCast,ne_eq];omega
 have d1:decide (Int.ofNat t.size>20)=false:=by simp;omega
 have hkeep:∃keep,bE nls 158=keep/\13∈keep/\14∈keep:=⟨_,rfl,by decide,by decide⟩
 obtain⟨keep,hkp,hk⟩:=hkeep
 simp -implicitDefEqProofs only[go_sem,HZ,HY,H3,H0,Pv,Lv,d0,d1,Ag,hkp]
 generalize hff:upd _ 2 _=f1
 generalize hgg:upd _ 14 _=g1
 obtain⟨f',g',e⟩:=AoW n t h2 hs keep hk Z t.size bF 0 f1 g1 (by omega) (by show t.size<1000000000000;omega) (by omega) (by rw[<-hff];simp -implicitDefEqProofs only[go_sem,reduceCtorEq]) (by rw[<-hgg];simp -implicitDefEqProofs only[go_sem,reduceCtorEq]) (by rw[<-hgg];simp -implicitDefEqProofs only[go_sem,reduceCtorEq]<;>rfl)
 rw[e]
 simp -implicitDefEqProofs only[go_sem,MC,Jz]
end
section
open Go Go.Eng
variable (E:Env) (ro:Option Nat) (last:List Nat->aZ) (cl:List Nat) (a:aY) (u:Option FrameMode) (Z:aC)
def Rt(_:Unit):List COp:=[⟨fun a Z=>.val (.int .i64 0) Z,some 4,tT⟩]
def AiA:List COp:=Rt ()
def MD(_:Unit):List COp:=[⟨fun a Z=>.val (a.get 1) Z,some 161,tT⟩,
 ⟨fun a Z=>i_leq Tryz.prog 21 (.const (.int .i32 0)) (.tmp 161) (.int .i32 0) (a.get 161) Z,some 162,tT⟩,
 ⟨fun a Z=>.val (a.get 162) Z,some 163,tT⟩,
 ⟨fun a Z=>.val (a.get 1) Z,some 164,fun a=>gd (a.get 163) true⟩,
 ⟨fun a Z=>i_lss Tryz.prog 21 (.tmp 164) (.const (.int .i32 128)) (a.get 164) (.int .i32 128) Z,some 165,fun a=>gd (a.get 163) true⟩,
 ⟨fun a Z=>bM (a.get 163) (a.get 165) (.bool false) Z,some 166,tT⟩,
 ⟨fun a Z=>.val (a.get 166) Z,some 160,tT⟩]
def AbY:List COp:=MD ()
def Ai2(_:Unit):List COp:=[⟨fun a Z=>.val (a.get 0) Z,some 167,tT⟩,
 ⟨fun a Z=>.val (a.get 1) Z,some 168,tT⟩,
 ⟨fun a Z=>fun1 Tryz.prog (convert 21 5) (a.get 168) Z,some 169,tT⟩,
 ⟨fun a Z=>.enter 189 [(a.get 167),(a.get 169)] Z,some 170,tT⟩,
 ⟨fun a Z=>.val (a.get 170) Z,some 4,tT⟩]
def ApM:List COp:=Ai2 ()
def ME(_:Unit):List COp:=[⟨fun a Z=>.val (a.get 1) Z,some 172,tT⟩,
 ⟨fun a Z=>bO Tryz.prog 21 (.tmp 172) (.const (.int .i32 65533)) (a.get 172) (.int .i32 65533) Z,some 173,tT⟩,
 ⟨fun a Z=>.val (a.get 173) Z,some 171,tT⟩]
def AbZ:List COp:=ME ()
def Ai3(_:Unit):List COp:=[⟨fun a Z=>.val (a.get 0) Z,some 174,tT⟩,
 ⟨fun a Z=>frangeS (a.get 174) Z,some 175,tT⟩]
def ApN:List COp:=Ai3 ()
def Ai4(_:Unit):List COp:=[⟨fun a Z=>fnext (a.get 175) Z,some 176,tT⟩,
 ⟨fun a Z=>aJ 0 (a.get 176) Z,some 177,tT⟩]
def ApO:List COp:=Ai4 ()
def Ai5(_:Unit):List COp:=[⟨fun a Z=>aJ 1 (a.get 176) Z,some 178,tT⟩,
 ⟨fun a Z=>aJ 2 (a.get 176) Z,some 179,tT⟩,
 ⟨fun a Z=>.val (a.get 178) Z,some 5,tT⟩,
 ⟨fun a Z=>.val (a.get 179) Z,some 6,tT⟩]
def ApP:List COp:=Ai5 ()
def Ai7(_:Unit):List COp:=[⟨fun a Z=>.val (a.get 6) Z,some 180,tT⟩,
 ⟨fun a Z=>bO Tryz.prog 21 (.tmp 180) (.const (.int .i32 65533)) (a.get 180) (.int .i32 65533) Z,some 181,tT⟩]
def ApQ:List COp:=Ai7 ()
def Ai8(_:Unit):List COp:=[⟨fun a Z=>.val (a.get 5) Z,some 182,tT⟩,
 ⟨fun a Z=>.val (a.get 182) Z,some 4,tT⟩]
def ApR:List COp:=Ai8 ()
def AvC(E:Env)(ro:Option Nat)(fn:FuncId):aZ:=(aF (aD E ro ApO) (aF (aN (fun a=>(a.get 177)) aV (exitR 9)) (aW 10 (aF (aD E ro ApP) (aF (aD E ro ApQ) (aN (fun a=>(a.get 181)) (aF (aD E ro ApR) bL) aV))))))
def Ai9(_:Unit):List COp:=[⟨fun a Z=>.val (.int .i64 (-1)) Z,some 4,tT⟩]
def ApS:List COp:=Ai9 ()
def MF(_:Unit):List COp:=[⟨fun a Z=>.val (a.get 1) Z,some 184,tT⟩,
 ⟨fun a Z=>.enter 190 [(a.get 184)] Z,some 185,tT⟩,
 ⟨fun a Z=>fun1 Tryz.prog (Op.unary .not) (a.get 185) Z,some 186,tT⟩,
 ⟨fun a Z=>.val (a.get 186) Z,some 183,tT⟩]
def Ab0:List COp:=MF ()
def Aja(_:Unit):List COp:=[⟨fun a Z=>.val (.int .i64 (-1)) Z,some 4,tT⟩]
def ApT:List COp:=Aja ()
def Ru(_:Unit):List COp:=[⟨fun a Z=>.val (a.get 1) Z,some 17,tT⟩,
 ⟨fun a Z=>fun1 Tryz.prog (convert 21 9) (a.get 17) Z,some 18,tT⟩,
 ⟨fun a Z=>.val (a.get 18) Z,some 7,tT⟩]
def AiB:List COp:=Ru ()
def Rv(_:Unit):List COp:=[⟨fun a Z=>.val (a.get 7) Z,some 19,tT⟩,
 ⟨fun a Z=>flenS (a.get 19) Z,some 20,tT⟩,
 ⟨fun a Z=>i_sub Tryz.prog 3 (.tmp 20) (.const (.int .i64 1)) (a.get 20) (.int .i64 1) Z,some 21,tT⟩,
 ⟨fun a Z=>.val (a.get 21) Z,some 8,tT⟩]
def AiM:List COp:=Rv ()
def Rw(_:Unit):List COp:=[⟨fun a Z=>.val (a.get 8) Z,some 22,tT⟩,
 ⟨fun a Z=>.val (a.get 22) Z,some 9,tT⟩]
def AiX:List COp:=Rw ()
def Rx(_:Unit):List COp:=[⟨fun a Z=>.val (.int .i64 0) Z,some 10,tT⟩]
def Ai6:List COp:=Rx ()
def Ry(_:Unit):List COp:=[⟨fun a Z=>.val (a.get 9) Z,some 23,tT⟩,
 ⟨fun a Z=>.val (a.get 0) Z,some 24,tT⟩,
 ⟨fun a Z=>flenS (a.get 24) Z,some 25,tT⟩,
 ⟨fun a Z=>i_lss Tryz.prog 3 (.tmp 23) (.tmp 25) (a.get 23) (a.get 25) Z,some 26,tT⟩]
def Ajb:List COp:=Ry ()
def Rz(_:Unit):List DOp:=[⟨fun a Z=>.val (a.get 0) Z,some 27,tT,some 0,false⟩,
 ⟨fun a Z=>.val (a.get 9) Z,some 28,tT,some 0,false⟩,
 ⟨fun a Z=>bQ (a.get 27) (a.get 28) Z,some 29,tT,some 0,false⟩,
 ⟨fun a Z=>.val (a.get 7) Z,some 30,tT,some 0,false⟩,
 ⟨fun a Z=>.val (a.get 8) Z,some 31,tT,some 0,false⟩,
 ⟨fun a Z=>bQ (a.get 30) (a.get 31) Z,some 32,tT,some 0,false⟩,
 ⟨fun a Z=>i_neq Tryz.prog 5 (.tmp 29) (.tmp 32) (a.get 29) (a.get 32) Z,some 33,tT,some 0,false⟩]
def Ajc:List DOp:=Rz ()
def RA(_:Unit):List DOp:=[⟨fun a Z=>.val (a.get 0) Z,some 34,tT,some 0,false⟩,
 ⟨fun a Z=>.val (a.get 9) Z,some 35,tT,some 0,false⟩,
 ⟨fun a Z=>i_add Tryz.prog 3 (.tmp 35) (.const (.int .i64 1)) (a.get 35) (.int .i64 1) Z,some 36,tT,some 0,false⟩,
 ⟨fun a Z=>fslice Tryz.prog 9 (a.get 34) (some (a.get 36)) none none Z,some 37,tT,some 0,false⟩,
 ⟨fun a Z=>.val (a.get 7) Z,some 38,tT,some 0,false⟩,
 ⟨fun a Z=>.val (a.get 8) Z,some 39,tT,some 0,false⟩,
 ⟨fun a Z=>bQ (a.get 38) (a.get 39) Z,some 40,tT,some 0,false⟩,
 ⟨fun a Z=>.enter 189 [(a.get 37),(a.get 40)] Z,some 41,tT,none,true⟩,
 ⟨fun a Z=>.val (a.get 41) Z,some 11,tT,some 1,false⟩]
def Ajd:List DOp:=RA ()
def RB(_:Unit):List COp:=[⟨fun a Z=>.val (a.get 11) Z,some 42,tT⟩,
 ⟨fun a Z=>i_lss Tryz.prog 3 (.tmp 42) (.const (.int .i64 0)) (a.get 42) (.int .i64 0) Z,some 43,tT⟩]
def Aje:List COp:=RB ()
def RC(_:Unit):List COp:=[⟨fun a Z=>.val (.int .i64 (-1)) Z,some 4,tT⟩]
def Ajf:List COp:=RC ()
def AiC(_:Unit):List COp:=[⟨fun a Z=>.val (a.get 9) Z,some 44,tT⟩,
 ⟨fun a Z=>.val (a.get 11) Z,some 45,tT⟩,
 ⟨fun a Z=>i_add Tryz.prog 3 (.tmp 45) (.const (.int .i64 1)) (a.get 45) (.int .i64 1) Z,some 46,tT⟩,
 ⟨fun a Z=>i_add Tryz.prog 3 (.tmp 44) (.tmp 46) (a.get 44) (a.get 46) Z,some 47,tT⟩,
 ⟨fun a Z=>.val (a.get 47) Z,some 9,tT⟩]
def Apo:List COp:=AiC ()
def AiD(_:Unit):List COp:=[⟨fun a Z=>.val (.int .i64 1) Z,some 12,tT⟩]
def App:List COp:=AiD ()
def AiE(_:Unit):List COp:=[⟨fun a Z=>.val (a.get 12) Z,some 48,tT⟩,
 ⟨fun a Z=>.val (a.get 7) Z,some 49,tT⟩,
 ⟨fun a Z=>flenS (a.get 49) Z,some 50,tT⟩,
 ⟨fun a Z=>i_lss Tryz.prog 3 (.tmp 48) (.tmp 50) (a.get 48) (a.get 50) Z,some 51,tT⟩]
def Apq:List COp:=AiE ()
def AiG(_:Unit):List DOp:=[⟨fun a Z=>.val (a.get 0) Z,some 54,tT,some 0,false⟩,
 ⟨fun a Z=>.val (a.get 9) Z,some 55,tT,some 0,false⟩,
 ⟨fun a Z=>.val (a.get 12) Z,some 56,tT,some 0,false⟩,
 ⟨fun a Z=>i_sub Tryz.prog 3 (.tmp 55) (.tmp 56) (a.get 55) (a.get 56) Z,some 57,tT,some 0,false⟩,
 ⟨fun a Z=>bQ (a.get 54) (a.get 57) Z,some 58,tT,some 0,false⟩,
 ⟨fun a Z=>.val (a.get 7) Z,some 59,tT,some 0,false⟩,
 ⟨fun a Z=>.val (a.get 8) Z,some 60,tT,some 0,false⟩,
 ⟨fun a Z=>.val (a.get 12) Z,some 61,tT,some 0,false⟩,
 ⟨fun a Z=>i_sub Tryz.prog 3 (.tmp 60) (.tmp 61) (a.get 60) (a.get 61) Z,some 62,tT,some 0,false⟩,
 ⟨fun a Z=>bQ (a.get 59) (a.get 62) Z,some 63,tT,some 0,false⟩,
 ⟨fun a Z=>i_neq Tryz.prog 5 (.tmp 58) (.tmp 63) (a.get 58) (a.get 63) Z,some 64,tT,some 0,false⟩]
def Aps:List DOp:=AiG ()
def AiF(_:Unit):List COp:=[⟨fun a Z=>.val (a.get 12) Z,some 52,tT⟩,
 ⟨fun a Z=>i_add Tryz.prog 3 (.tmp 52) (.const (.int .i64 1)) (a.get 52) (.int .i64 1) Z,some 53,tT⟩,
 ⟨fun a Z=>.val (a.get 53) Z,some 12,tT⟩]
def Apr:List COp:=AiF ()
def AvD(E:Env)(ro:Option Nat)(fn:FuncId):aZ:=(aF (aF (aD E ro Apq) (aN (fun a=>(a.get 51)) aV (exitR 3))) (aF (aW 4 (aF (drawR E ro Aps) (aN (fun a=>(a.get 64)) (gotoR 0) aV))) (aD E ro Apr)))
def AiH(_:Unit):List COp:=[⟨fun a Z=>.val (a.get 9) Z,some 65,tT⟩,
 ⟨fun a Z=>.val (a.get 8) Z,some 66,tT⟩,
 ⟨fun a Z=>i_sub Tryz.prog 3 (.tmp 65) (.tmp 66) (a.get 65) (a.get 66) Z,some 67,tT⟩,
 ⟨fun a Z=>.val (a.get 67) Z,some 4,tT⟩]
def Apt:List COp:=AiH ()
def AiI(_:Unit):List COp:=[⟨fun a Z=>.val (a.get 10) Z,some 68,tT⟩,
 ⟨fun a Z=>i_add Tryz.prog 3 (.tmp 68) (.const (.int .i64 1)) (a.get 68) (.int .i64 1) Z,some 69,tT⟩,
 ⟨fun a Z=>.val (a.get 69) Z,some 10,tT⟩]
def Apu:List COp:=AiI ()
def AiJ(_:Unit):List COp:=[⟨fun a Z=>.val (a.get 9) Z,some 70,tT⟩,
 ⟨fun a Z=>i_add Tryz.prog 3 (.tmp 70) (.const (.int .i64 1)) (a.get 70) (.int .i64 1) Z,some 71,tT⟩,
 ⟨fun a Z=>.val (a.get 71) Z,some 9,tT⟩]
def Apv:List COp:=AiJ ()
def AiK(_:Unit):List COp:=[⟨fun a Z=>.val (.bool true) Z,some 72,tT⟩,
 ⟨fun a Z=>.val (a.get 10) Z,some 73,fun a=>gd (a.get 72) true⟩,
 ⟨fun a Z=>.val (a.get 9) Z,some 74,fun a=>gd (a.get 72) true⟩,
 ⟨fun a Z=>.enter 191 [(a.get 74)] Z,some 75,fun a=>gd (a.get 72) true⟩,
 ⟨fun a Z=>i_gtr Tryz.prog 3 (.tmp 73) (.tmp 75) (a.get 73) (a.get 75) Z,some 76,fun a=>gd (a.get 72) true⟩,
 ⟨fun a Z=>bM (a.get 72) (a.get 76) (.bool false) Z,some 77,tT⟩,
 ⟨fun a Z=>.val (a.get 77) Z,some 78,tT⟩,
 ⟨fun a Z=>.val (a.get 9) Z,some 79,fun a=>gd (a.get 78) true⟩,
 ⟨fun a Z=>.val (a.get 0) Z,some 80,fun a=>gd (a.get 78) true⟩,
 ⟨fun a Z=>flenS (a.get 80) Z,some 81,fun a=>gd (a.get 78) true⟩,
 ⟨fun a Z=>i_lss Tryz.prog 3 (.tmp 79) (.tmp 81) (a.get 79) (a.get 81) Z,some 82,fun a=>gd (a.get 78) true⟩,
 ⟨fun a Z=>bM (a.get 78) (a.get 82) (.bool false) Z,some 83,tT⟩,
 ⟨fun a Z=>.val (a.get 83) Z,some 84,tT⟩,
 ⟨fun a Z=>.val (.bool false) Z,some 85,fun a=>gd (a.get 84) false⟩,
 ⟨fun a Z=>.val (a.get 10) Z,some 86,fun a=>gd (a.get 85) true⟩,
 ⟨fun a Z=>.val (a.get 9) Z,some 87,fun a=>gd (a.get 85) true⟩,
 ⟨fun a Z=>fbin0 Tryz.prog .shr 3 (.tmp 87) (.const (.int .u64 4)) (a.get 87) (.int .u64 4) Z,some 88,fun a=>gd (a.get 85) true⟩,
 ⟨fun a Z=>i_add Tryz.prog 3 (.const (.int .i64 4)) (.tmp 88) (.int .i64 4) (a.get 88) Z,some 89,fun a=>gd (a.get 85) true⟩,
 ⟨fun a Z=>i_geq Tryz.prog 3 (.tmp 86) (.tmp 89) (a.get 86) (a.get 89) Z,some 90,fun a=>gd (a.get 85) true⟩,
 ⟨fun a Z=>bM (a.get 85) (a.get 90) (.bool false) Z,some 91,fun a=>gd (a.get 84) false⟩,
 ⟨fun a Z=>.val (a.get 91) Z,some 92,fun a=>gd (a.get 84) false⟩,
 ⟨fun a Z=>.val (a.get 9) Z,some 93,fun a=>gd (a.get 92) true⟩,
 ⟨fun a Z=>.val (a.get 0) Z,some 94,fun a=>gd (a.get 92) true⟩,
 ⟨fun a Z=>flenS (a.get 94) Z,some 95,fun a=>gd (a.get 92) true⟩,
 ⟨fun a Z=>i_lss Tryz.prog 3 (.tmp 93) (.tmp 95) (a.get 93) (a.get 95) Z,some 96,fun a=>gd (a.get 92) true⟩,
 ⟨fun a Z=>bM (a.get 92) (a.get 96) (.bool false) Z,some 97,fun a=>gd (a.get 84) false⟩,
 ⟨fun a Z=>bM (a.get 84) (.bool true) (a.get 97) Z,some 98,tT⟩]
def Apw:List COp:=AiK ()
noncomputable def x188_1:Code:=(scopesOf (Tryz.f188.body.getD .skip)).getD 1 .skip
def find188_1(E:Env)(ro:Option Nat)(fn:FuncId):Nat->Option (Bx aZ):=fun l=>match findLabel x188_1 l with|some rest=>some ⟨(ccode Tryz.prog nls 981 rest).un E ro fn⟩|none=>none
def AfF(E:Env)(ro:Option Nat)(fn:FuncId):aZ:=(aF (aF (aD E ro Ajb) (aN (fun a=>(a.get 26)) aV (exitR 1))) (aW 2 (fscope (find188_1 E ro fn) bF (aF (aF (drawR E ro Ajc) (aN (fun a=>(a.get 33)) (aF (drawR E ro Ajd) (aF (aF (aD E ro Aje) (aN (fun a=>(a.get 43)) (aF (aD E ro Ajf) bL) aV)) (aD E ro Apo))) aV)) (aF (aF (aD E ro App) (aW 3 (loopR (bE nls fn) (AvD E ro fn)))) (aF (aF (aD E ro Apt) bL) (aF aV (aF (aD E ro Apu) (aF (aD E ro Apv) (aF (aD E ro Apw) (aN (fun a=>(a.get 98)) (gotoR 1) aV)))))))))))
def AiL(_:Unit):List COp:=[⟨fun a Z=>.val (.int .i64 (-1)) Z,some 4,tT⟩]
def Apx:List COp:=AiL ()
def AiN(_:Unit):List COp:=[⟨fun a Z=>.val (a.get 0) Z,some 99,tT⟩,
 ⟨fun a Z=>.val (a.get 9) Z,some 100,tT⟩,
 ⟨fun a Z=>.val (a.get 8) Z,some 101,tT⟩,
 ⟨fun a Z=>i_sub Tryz.prog 3 (.tmp 100) (.tmp 101) (a.get 100) (a.get 101) Z,some 102,tT⟩,
 ⟨fun a Z=>fslice Tryz.prog 9 (a.get 99) (some (a.get 102)) none none Z,some 103,tT⟩,
 ⟨fun a Z=>.val (a.get 1) Z,some 104,tT⟩,
 ⟨fun a Z=>fun1 Tryz.prog (convert 21 9) (a.get 104) Z,some 105,tT⟩,
 ⟨fun a Z=>.enter 192 [(a.get 103),(a.get 105)] Z,some 106,tT⟩,
 ⟨fun a Z=>.val (a.get 106) Z,some 13,tT⟩]
def Apy:List COp:=AiN ()
def AiO(_:Unit):List COp:=[⟨fun a Z=>.val (a.get 13) Z,some 107,tT⟩,
 ⟨fun a Z=>i_geq Tryz.prog 3 (.tmp 107) (.const (.int .i64 0)) (a.get 107) (.int .i64 0) Z,some 108,tT⟩]
def Apz:List COp:=AiO ()
def AiP(_:Unit):List COp:=[⟨fun a Z=>.val (a.get 9) Z,some 109,tT⟩,
 ⟨fun a Z=>.val (a.get 13) Z,some 110,tT⟩,
 ⟨fun a Z=>i_add Tryz.prog 3 (.tmp 109) (.tmp 110) (a.get 109) (a.get 110) Z,some 111,tT⟩,
 ⟨fun a Z=>.val (a.get 8) Z,some 112,tT⟩,
 ⟨fun a Z=>i_sub Tryz.prog 3 (.tmp 111) (.tmp 112) (a.get 111) (a.get 112) Z,some 113,tT⟩,
 ⟨fun a Z=>.val (a.get 113) Z,some 4,tT⟩]
def ApA:List COp:=AiP ()
def AiQ(_:Unit):List COp:=[⟨fun a Z=>.val (a.get 7) Z,some 114,tT⟩,
 ⟨fun a Z=>.val (a.get 8) Z,some 115,tT⟩,
 ⟨fun a Z=>bQ (a.get 114) (a.get 115) Z,some 116,tT⟩,
 ⟨fun a Z=>.val (a.get 116) Z,some 14,tT⟩]
def ApB:List COp:=AiQ ()
def AiR(_:Unit):List COp:=[⟨fun a Z=>.val (a.get 7) Z,some 117,tT⟩,
 ⟨fun a Z=>.val (a.get 8) Z,some 118,tT⟩,
 ⟨fun a Z=>i_sub Tryz.prog 3 (.tmp 118) (.const (.int .i64 1)) (a.get 118) (.int .i64 1) Z,some 119,tT⟩,
 ⟨fun a Z=>bQ (a.get 117) (a.get 119) Z,some 120,tT⟩,
 ⟨fun a Z=>.val (a.get 120) Z,some 15,tT⟩]
def ApC:List COp:=AiR ()
def AiS(_:Unit):List COp:=[⟨fun a Z=>.val (a.get 9) Z,some 121,tT⟩,
 ⟨fun a Z=>.val (a.get 0) Z,some 122,tT⟩,
 ⟨fun a Z=>flenS (a.get 122) Z,some 123,tT⟩,
 ⟨fun a Z=>i_lss Tryz.prog 3 (.tmp 121) (.tmp 123) (a.get 121) (a.get 123) Z,some 124,tT⟩]
def ApD:List COp:=AiS ()
def AiU(_:Unit):List COp:=[⟨fun a Z=>.val (a.get 0) Z,some 127,tT⟩,
 ⟨fun a Z=>.val (a.get 9) Z,some 128,tT⟩,
 ⟨fun a Z=>bQ (a.get 127) (a.get 128) Z,some 129,tT⟩,
 ⟨fun a Z=>.val (a.get 14) Z,some 130,tT⟩,
 ⟨fun a Z=>bO Tryz.prog 5 (.tmp 129) (.tmp 130) (a.get 129) (a.get 130) Z,some 131,tT⟩,
 ⟨fun a Z=>.val (a.get 131) Z,some 132,tT⟩,
 ⟨fun a Z=>.val (a.get 0) Z,some 133,fun a=>gd (a.get 132) true⟩,
 ⟨fun a Z=>.val (a.get 9) Z,some 134,fun a=>gd (a.get 132) true⟩,
 ⟨fun a Z=>i_sub Tryz.prog 3 (.tmp 134) (.const (.int .i64 1)) (a.get 134) (.int .i64 1) Z,some 135,fun a=>gd (a.get 132) true⟩,
 ⟨fun a Z=>bQ (a.get 133) (a.get 135) Z,some 136,fun a=>gd (a.get 132) true⟩,
 ⟨fun a Z=>.val (a.get 15) Z,some 137,fun a=>gd (a.get 132) true⟩,
 ⟨fun a Z=>bO Tryz.prog 5 (.tmp 136) (.tmp 137) (a.get 136) (a.get 137) Z,some 138,fun a=>gd (a.get 132) true⟩,
 ⟨fun a Z=>bM (a.get 132) (a.get 138) (.bool false) Z,some 139,tT⟩]
def ApF:List COp:=AiU ()
def AiV(_:Unit):List COp:=[⟨fun a Z=>.val (.int .i64 2) Z,some 16,tT⟩]
def ApG:List COp:=AiV ()
def AiW(_:Unit):List COp:=[⟨fun a Z=>.val (a.get 16) Z,some 140,tT⟩,
 ⟨fun a Z=>.val (a.get 7) Z,some 141,tT⟩,
 ⟨fun a Z=>flenS (a.get 141) Z,some 142,tT⟩,
 ⟨fun a Z=>i_lss Tryz.prog 3 (.tmp 140) (.tmp 142) (a.get 140) (a.get 142) Z,some 143,tT⟩]
def ApH:List COp:=AiW ()
def AiZ(_:Unit):List DOp:=[⟨fun a Z=>.val (a.get 0) Z,some 146,tT,some 0,false⟩,
 ⟨fun a Z=>.val (a.get 9) Z,some 147,tT,some 0,false⟩,
 ⟨fun a Z=>.val (a.get 16) Z,some 148,tT,some 0,false⟩,
 ⟨fun a Z=>i_sub Tryz.prog 3 (.tmp 147) (.tmp 148) (a.get 147) (a.get 148) Z,some 149,tT,some 0,false⟩,
 ⟨fun a Z=>bQ (a.get 146) (a.get 149) Z,some 150,tT,some 0,false⟩,
 ⟨fun a Z=>.val (a.get 7) Z,some 151,tT,some 0,false⟩,
 ⟨fun a Z=>.val (a.get 8) Z,some 152,tT,some 0,false⟩,
 ⟨fun a Z=>.val (a.get 16) Z,some 153,tT,some 0,false⟩,
 ⟨fun a Z=>i_sub Tryz.prog 3 (.tmp 152) (.tmp 153) (a.get 152) (a.get 153) Z,some 154,tT,some 0,false⟩,
 ⟨fun a Z=>bQ (a.get 151) (a.get 154) Z,some 155,tT,some 0,false⟩,
 ⟨fun a Z=>i_neq Tryz.prog 5 (.tmp 150) (.tmp 155) (a.get 150) (a.get 155) Z,some 156,tT,some 0,false⟩]
def ApJ:List DOp:=AiZ ()
def AiY(_:Unit):List COp:=[⟨fun a Z=>.val (a.get 16) Z,some 144,tT⟩,
 ⟨fun a Z=>i_add Tryz.prog 3 (.tmp 144) (.const (.int .i64 1)) (a.get 144) (.int .i64 1) Z,some 145,tT⟩,
 ⟨fun a Z=>.val (a.get 145) Z,some 16,tT⟩]
def ApI:List COp:=AiY ()
def AvE(E:Env)(ro:Option Nat)(fn:FuncId):aZ:=(aF (aF (aD E ro ApH) (aN (fun a=>(a.get 143)) aV (exitR 7))) (aF (aW 8 (aF (drawR E ro ApJ) (aN (fun a=>(a.get 156)) (exitR 6) aV))) (aD E ro ApI)))
def Ai0(_:Unit):List COp:=[⟨fun a Z=>.val (a.get 9) Z,some 157,tT⟩,
 ⟨fun a Z=>.val (a.get 8) Z,some 158,tT⟩,
 ⟨fun a Z=>i_sub Tryz.prog 3 (.tmp 157) (.tmp 158) (a.get 157) (a.get 158) Z,some 159,tT⟩,
 ⟨fun a Z=>.val (a.get 159) Z,some 4,tT⟩]
def ApK:List COp:=Ai0 ()
def AiT(_:Unit):List COp:=[⟨fun a Z=>.val (a.get 9) Z,some 125,tT⟩,
 ⟨fun a Z=>i_add Tryz.prog 3 (.tmp 125) (.const (.int .i64 1)) (a.get 125) (.int .i64 1) Z,some 126,tT⟩,
 ⟨fun a Z=>.val (a.get 126) Z,some 9,tT⟩]
def ApE:List COp:=AiT ()
def AvF(E:Env)(ro:Option Nat)(fn:FuncId):aZ:=(aF (aF (aD E ro ApD) (aN (fun a=>(a.get 124)) aV (exitR 5))) (aF (aW 6 (aF (aD E ro ApF) (aN (fun a=>(a.get 139)) (aF (aF (aD E ro ApG) (aW 7 (loopR (bE nls fn) (AvE E ro fn)))) (aF (aD E ro ApK) bL)) aV))) (aD E ro ApE)))
noncomputable def x188_2:Code:=(scopesOf (Tryz.f188.body.getD .skip)).getD 2 .skip
def find188_2(E:Env)(ro:Option Nat)(fn:FuncId):Nat->Option (Bx aZ):=fun l=>match findLabel x188_2 l with|some rest=>some ⟨(ccode Tryz.prog nls 981 rest).un E ro fn⟩|none=>none
def Ai1(_:Unit):List COp:=[⟨fun a Z=>.val (.int .i64 (-1)) Z,some 4,tT⟩]
def ApL:List COp:=Ai1 ()
noncomputable def x188_0:Code:=(scopesOf (Tryz.f188.body.getD .skip)).getD 0 .skip
def find188_0(E:Env)(ro:Option Nat)(fn:FuncId):Nat->Option (Bx aZ):=fun l=>match findLabel x188_0 l with|some rest=>some ⟨(ccode Tryz.prog nls 991 rest).un E ro fn⟩|none=>none
noncomputable def x188_3:Code:=(scopesOf (Tryz.f188.body.getD .skip)).getD 3 .skip
def find188_3(E:Env)(ro:Option Nat)(fn:FuncId):Nat->Option (Bx aZ):=fun l=>match findLabel x188_3 l with|some rest=>some ⟨(ccode Tryz.prog nls 987 rest).un E ro fn⟩|none=>none
def AaM(E:Env)(ro:Option Nat)(fn:FuncId):aZ:=(aF (aD E ro AiA) (aW 0 (aF (aD E ro AbY) (aN (fun a=>(a.get 160)) (aF (aD E ro ApM) bL) (aF (aD E ro AbZ) (aN (fun a=>(a.get 171)) (aF (aF (aD E ro ApN) (aW 9 (loopR (bE nls fn) (AvC E ro fn)))) (aF (aD E ro ApS) bL)) (aF (aD E ro Ab0) (aN (fun a=>(a.get 183)) (aF (aD E ro ApT) bL) (fscope (find188_0 E ro fn) bF (aF (aD E ro AiB) (aF (aD E ro AiM) (aF (aD E ro AiX) (aF (aD E ro Ai6) (aF (aW 1 (loopR (bE nls fn) (AfF E ro fn))) (aF (aF (aD E ro Apx) bL) (aF aV (aF (aN (fun a=>(.bool true)) (aF (aD E ro Apy) (aF (aD E ro Apz) (aN (fun a=>(a.get 108)) (aF (aD E ro ApA) bL) aV))) (fscope (find188_2 E ro fn) bF (aF (aD E ro ApB) (aF (aD E ro ApC) (aF aV (aW 5 (loopR (bE nls fn) (AvF E ro fn)))))))) (aF (aD E ro ApL) bL))))))))))))))))))
theorem Ad3:aD E ro AiA a u Z=aD E ro (Rt ()) a u Z:=rfl
theorem XV:aD E ro AbY a u Z=aD E ro (MD ()) a u Z:=rfl
theorem XW:aD E ro AbZ a u Z=aD E ro (ME ()) a u Z:=rfl
theorem XX:aD E ro Ab0 a u Z=aD E ro (MF ()) a u Z:=rfl
theorem Ad4:aD E ro AiB a u Z=aD E ro (Ru ()) a u Z:=rfl
theorem Ad5:aD E ro AiM a u Z=aD E ro (Rv ()) a u Z:=rfl
theorem Ad6:aD E ro AiX a u Z=aD E ro (Rw ()) a u Z:=rfl
theorem Ad7:aD E ro Ai6 a u Z=aD E ro (Rx ()) a u Z:=rfl
theorem Ad8:aD E ro Ajb a u Z=aD E ro (Ry ()) a u Z:=rfl
theorem Ad9:bI E ro last Ajc cl a u Z=bI E ro last (Rz ()) cl a u Z:=rfl
theorem Aea:bI E ro last Ajd cl a u Z=bI E ro last (RA ()) cl a u Z:=rfl
theorem Aeb:aD E ro Aje a u Z=aD E ro (RB ()) a u Z:=rfl
theorem Aec:aD E ro Ajf a u Z=aD E ro (RC ()) a u Z:=rfl
theorem AnZ(E:Env)(ro:Option Nat)(fn:FuncId):code Tryz.prog nls (Tryz.f188.body.getD .skip) E ro fn=AaM E ro fn:=by kernel_rfl
theorem Afl(E:Env)(args:List Value)(u:Option FrameMode)(Z:aC)(hn:args.length<=(17:Nat)):bD Tryz.prog nls E 188 args u Z=aP Tryz.prog E [.tmp 4] (AaM E none 188 ⟨bB undef 17 args,fun _=>undef,17,187,[]⟩ u Z):=by
 rw[Ap (body:=Tryz.f188.body.getD .skip) Tryz.func188 rfl E args u Z 17 187 (by kernel_rfl) rfl ⟨hn,by decide⟩,AnZ]
 rfl
def Rq(_:Unit):List COp:=[⟨fun a Z=>.val (.bool false) Z,some 4,tT⟩]
def Aiy:List COp:=Rq ()
def Rs(_:Unit):List COp:=[⟨fun a Z=>.val (a.get 0) Z,some 5,tT⟩,
 ⟨fun a Z=>.val (a.get 1) Z,some 6,tT⟩,
 ⟨fun a Z=>.enter 188 [(a.get 5),(a.get 6)] Z,some 7,tT⟩,
 ⟨fun a Z=>i_geq Tryz.prog 3 (.tmp 7) (.const (.int .i64 0)) (a.get 7) (.int .i64 0) Z,some 8,tT⟩,
 ⟨fun a Z=>.val (a.get 8) Z,some 4,tT⟩]
def Aiz:List COp:=Rs ()
def AaL(E:Env)(ro:Option Nat)(fn:FuncId):aZ:=(aF (aD E ro Aiy) (aF (aD E ro Aiz) bL))
theorem Ad1:aD E ro Aiy a u Z=aD E ro (Rq ()) a u Z:=rfl
theorem Ad2:aD E ro Aiz a u Z=aD E ro (Rs ()) a u Z:=rfl
theorem AnY(E:Env)(ro:Option Nat)(fn:FuncId):code Tryz.prog nls (Tryz.f186.body.getD .skip) E ro fn=AaL E ro fn:=by kernel_rfl
theorem Afk(E:Env)(args:List Value)(u:Option FrameMode)(Z:aC)(hn:args.length<=(4:Nat)):bD Tryz.prog nls E 186 args u Z=aP Tryz.prog E [.tmp 4] (AaL E none 186 ⟨bB undef 4 args,fun _=>undef,4,9,[]⟩ u Z):=by
 rw[Ap (body:=Tryz.f186.body.getD .skip) Tryz.func186 rfl E args u Z 4 9 (by kernel_rfl) rfl ⟨hn,by decide⟩,AnY]
 rfl
def RD(_:Unit):List COp:=[⟨fun a Z=>.val (.bool false) Z,some 2,tT⟩]
def Ajg:List COp:=RD ()
def RE(_:Unit):List COp:=[⟨fun a Z=>.val (a.get 0) Z,some 4,tT⟩,
 ⟨fun a Z=>i_leq Tryz.prog 21 (.const (.int .i32 0)) (.tmp 4) (.int .i32 0) (a.get 4) Z,some 5,tT⟩,
 ⟨fun a Z=>.val (a.get 5) Z,some 6,tT⟩,
 ⟨fun a Z=>.val (a.get 0) Z,some 7,fun a=>gd (a.get 6) true⟩,
 ⟨fun a Z=>i_lss Tryz.prog 21 (.tmp 7) (.const (.int .i32 55296)) (a.get 7) (.int .i32 55296) Z,some 8,fun a=>gd (a.get 6) true⟩,
 ⟨fun a Z=>bM (a.get 6) (a.get 8) (.bool false) Z,some 9,tT⟩,
 ⟨fun a Z=>.val (a.get 9) Z,some 3,tT⟩]
def Ajh:List COp:=RE ()
def RF(_:Unit):List COp:=[⟨fun a Z=>.val (.bool true) Z,some 2,tT⟩]
def Aji:List COp:=RF ()
def ApU(_:Unit):List COp:=[⟨fun a Z=>.val (a.get 0) Z,some 11,tT⟩,
 ⟨fun a Z=>i_lss Tryz.prog 21 (.const (.int .i32 57343)) (.tmp 11) (.int .i32 57343) (a.get 11) Z,some 12,tT⟩,
 ⟨fun a Z=>.val (a.get 12) Z,some 13,tT⟩,
 ⟨fun a Z=>.val (a.get 0) Z,some 14,fun a=>gd (a.get 13) true⟩,
 ⟨fun a Z=>i_leq Tryz.prog 21 (.tmp 14) (.const (.int .i32 1114111)) (a.get 14) (.int .i32 1114111) Z,some 15,fun a=>gd (a.get 13) true⟩,
 ⟨fun a Z=>bM (a.get 13) (a.get 15) (.bool false) Z,some 16,tT⟩,
 ⟨fun a Z=>.val (a.get 16) Z,some 10,tT⟩]
def Av1:List COp:=ApU ()
def ApV(_:Unit):List COp:=[⟨fun a Z=>.val (.bool true) Z,some 2,tT⟩]
def Av2:List COp:=ApV ()
def ApW(_:Unit):List COp:=[⟨fun a Z=>.val (.bool false) Z,some 2,tT⟩]
def Av3:List COp:=ApW ()
def AaN(E:Env)(ro:Option Nat)(fn:FuncId):aZ:=(aF (aD E ro Ajg) (aF (aW 0 (aF (aD E ro Ajh) (aN (fun a=>(a.get 3)) (aF (aD E ro Aji) bL) (aF (aD E ro Av1) (aN (fun a=>(a.get 10)) (aF (aD E ro Av2) bL) aV))))) (aF (aD E ro Av3) bL)))
theorem Aed:aD E ro Ajg a u Z=aD E ro (RD ()) a u Z:=rfl
theorem Aee:aD E ro Ajh a u Z=aD E ro (RE ()) a u Z:=rfl
theorem Aef:aD E ro Aji a u Z=aD E ro (RF ()) a u Z:=rfl
theorem An0(E:Env)(ro:Option Nat)(fn:FuncId):code Tryz.prog nls (Tryz.f190.body.getD .skip) E ro fn=AaN E ro fn:=by kernel_rfl
theorem Afm(E:Env)(args:List Value)(u:Option FrameMode)(Z:aC)(hn:args.length<=(2:Nat)):bD Tryz.prog nls E 190 args u Z=aP Tryz.prog E [.tmp 2] (AaN E none 190 ⟨bB undef 2 args,fun _=>undef,2,17,[]⟩ u Z):=by
 rw[Ap (body:=Tryz.f190.body.getD .skip) Tryz.func190 rfl E args u Z 2 17 (by kernel_rfl) rfl ⟨hn,by decide⟩,An0]
 rfl
def Ri(_:Unit):List COp:=[⟨fun a Z=>.val (.int .i64 0) Z,some 2,tT⟩]
def Aiq:List COp:=Ri ()
def Rj(_:Unit):List COp:=[⟨fun a Z=>.val (a.get 0) Z,some 4,tT⟩,
 ⟨fun a Z=>i_geq Tryz.prog 21 (.tmp 4) (.const (.int .i32 97)) (a.get 4) (.int .i32 97) Z,some 5,tT⟩,
 ⟨fun a Z=>.val (a.get 5) Z,some 6,tT⟩,
 ⟨fun a Z=>.val (a.get 0) Z,some 7,fun a=>gd (a.get 6) true⟩,
 ⟨fun a Z=>i_leq Tryz.prog 21 (.tmp 7) (.const (.int .i32 122)) (a.get 7) (.int .i32 122) Z,some 8,fun a=>gd (a.get 6) true⟩,
 ⟨fun a Z=>bM (a.get 6) (a.get 8) (.bool false) Z,some 9,tT⟩,
 ⟨fun a Z=>.val (a.get 9) Z,some 3,tT⟩]
def Air:List COp:=Rj ()
def Rk(_:Unit):List COp:=[⟨fun a Z=>.val (.int .i64 1) Z,some 2,tT⟩]
def Ais:List COp:=Rk ()
def Rl(_:Unit):List COp:=[⟨fun a Z=>.val (a.get 0) Z,some 11,tT⟩,
 ⟨fun a Z=>i_geq Tryz.prog 21 (.tmp 11) (.const (.int .i32 48)) (a.get 11) (.int .i32 48) Z,some 12,tT⟩,
 ⟨fun a Z=>.val (a.get 12) Z,some 13,tT⟩,
 ⟨fun a Z=>.val (a.get 0) Z,some 14,fun a=>gd (a.get 13) true⟩,
 ⟨fun a Z=>i_leq Tryz.prog 21 (.tmp 14) (.const (.int .i32 57)) (a.get 14) (.int .i32 57) Z,some 15,fun a=>gd (a.get 13) true⟩,
 ⟨fun a Z=>bM (a.get 13) (a.get 15) (.bool false) Z,some 16,tT⟩,
 ⟨fun a Z=>.val (a.get 16) Z,some 10,tT⟩]
def Ait:List COp:=Rl ()
def Rm(_:Unit):List COp:=[⟨fun a Z=>.val (.int .i64 2) Z,some 2,tT⟩]
def Aiu:List COp:=Rm ()
def Rn(_:Unit):List COp:=[⟨fun a Z=>.val (a.get 0) Z,some 18,tT⟩,
 ⟨fun a Z=>.enter 186 [(.string ⟨#[45,43,42,47,60,62,61,63,33]⟩),(a.get 18)] Z,some 19,tT⟩,
 ⟨fun a Z=>.val (a.get 19) Z,some 17,tT⟩]
def Aiv:List COp:=Rn ()
def Ro(_:Unit):List COp:=[⟨fun a Z=>.val (.int .i64 3) Z,some 2,tT⟩]
def Aiw:List COp:=Ro ()
def Rp(_:Unit):List COp:=[⟨fun a Z=>.val (.int .i64 0) Z,some 2,tT⟩]
def Aix:List COp:=Rp ()
def AaK(E:Env)(ro:Option Nat)(fn:FuncId):aZ:=(aF (aD E ro Aiq) (aF (aW 0 (aF (aD E ro Air) (aN (fun a=>(a.get 3)) (aF (aD E ro Ais) bL) (aF (aD E ro Ait) (aN (fun a=>(a.get 10)) (aF (aD E ro Aiu) bL) (aF (aD E ro Aiv) (aN (fun a=>(a.get 17)) (aF (aD E ro Aiw) bL) aV))))))) (aF (aD E ro Aix) bL)))
theorem AdT:aD E ro Aiq a u Z=aD E ro (Ri ()) a u Z:=rfl
theorem AdU:aD E ro Air a u Z=aD E ro (Rj ()) a u Z:=rfl
theorem AdV:aD E ro Ais a u Z=aD E ro (Rk ()) a u Z:=rfl
theorem AdW:aD E ro Ait a u Z=aD E ro (Rl ()) a u Z:=rfl
theorem AdX:aD E ro Aiu a u Z=aD E ro (Rm ()) a u Z:=rfl
theorem AdY:aD E ro Aiv a u Z=aD E ro (Rn ()) a u Z:=rfl
theorem AdZ:aD E ro Aiw a u Z=aD E ro (Ro ()) a u Z:=rfl
theorem Ad0:aD E ro Aix a u Z=aD E ro (Rp ()) a u Z:=rfl
theorem AnX(E:Env)(ro:Option Nat)(fn:FuncId):code Tryz.prog nls (Tryz.f176.body.getD .skip) E ro fn=AaK E ro fn:=by kernel_rfl
theorem Afj(E:Env)(args:List Value)(u:Option FrameMode)(Z:aC)(hn:args.length<=(2:Nat)):bD Tryz.prog nls E 176 args u Z=aP Tryz.prog E [.tmp 2] (AaK E none 176 ⟨bB undef 2 args,fun _=>undef,2,20,[]⟩ u Z):=by
 rw[Ap (body:=Tryz.f176.body.getD .skip) Tryz.func176 rfl E args u Z 2 20 (by kernel_rfl) rfl ⟨hn,by decide⟩,AnX]
 rfl
end
section
open Go Go.Eng
attribute [local congr] Aa Af Ae Ab Ad
attribute [-go_sem] List.range_succ
def otherNums:List Nat:=[0,1,2,3,4,5,6,7,8,9,10,11,12,13,14,15,16,17,18,19,20,21,22,23,24,25,26,27,28,29,30,31,32,34,35,36,37,38,39,40,41,44,46,58,59,64,65,66,67,68,69,70,71,72,73,74,75,76,77,78,79,80,81,82,83,84,85,86,87,88,89,90,91,92,93,94,95,96,123,124,125,126,127]
def highNums:List Nat:=[128,129,130,131,132,133,134,135,136,137,138,139,140,141,142,143,144,145,146,147,148,149,150,151,152,153,154,155,156,157,158,159,160,161,162,163,164,165,166,167,168,169,170,171,172,173,174,175,176,177,178,179,180,181,182,183,184,185,186,187,188,189,190,191,192,193,194,195,196,197,198,199,200,201,202,203,204,205,206,207,208,209,210,211,212,213,214,215,216,217,218,219,220,221,222,223,224,225,226,227,228,229,230,231,232,233,234,235,236,237,238,239,240,241,242,243,244,245,246,247,248,249,250,251,252,253,254,255]
def tailNums:List Nat:=[128,129,130,131,132,133,134,135,136,137,138,139,140,141,142,143,144,145,146,147,148,149,150,151,152,153,154,155,156,157,158,159,160,161,162,163,164,165,166,167,168,169,170,171,172,173,174,175,176,177,178,179,180,181,182,183,184,185,186,187,188,189,190,191]
theorem TN(n c:Nat)(hm:c∈otherNums)(Z:aC):(env (n+20)).call 176 [.int .i32 (c:Int)] none Z=.ret (.int .i64 0) none Z:=by
 simp only[otherNums,List.mem_cons,List.not_mem_nil,or_false] at hm
 rcases hm with rfl|rfl|rfl|rfl|rfl|rfl|rfl|rfl|rfl|rfl|rfl|rfl|rfl|rfl|rfl|rfl|rfl|rfl|rfl|rfl|rfl|rfl|rfl|rfl|rfl|rfl|rfl|rfl|rfl|rfl|rfl|rfl|rfl|rfl|rfl|rfl|rfl|rfl|rfl|rfl|rfl|rfl|rfl|rfl|rfl|rfl|rfl|rfl|rfl|rfl|rfl|rfl|rfl|rfl|rfl|rfl|rfl|rfl|rfl|rfl|rfl|rfl|rfl|rfl|rfl|rfl|rfl|rfl|rfl|rfl|rfl|rfl|rfl|rfl|rfl|rfl|rfl|rfl|rfl|rfl|rfl|rfl|rfl<;>kernel_rfl
def rsOf(c:Nat):ByteArray:=⟨#[(192+c / 64).toUInt8,(128+c % 64).toUInt8]⟩
theorem Ap8(c:Nat)(hm:c∈highNums)(Z:aC):fun1 Tryz.prog (convert 21 9) (.int .i32 (c:Int)) Z=.val (.string (rsOf c)) Z:=by
 simp only[highNums,List.mem_cons,List.not_mem_nil,or_false] at hm
 rcases hm with rfl|rfl|rfl|rfl|rfl|rfl|rfl|rfl|rfl|rfl|rfl|rfl|rfl|rfl|rfl|rfl|rfl|rfl|rfl|rfl|rfl|rfl|rfl|rfl|rfl|rfl|rfl|rfl|rfl|rfl|rfl|rfl|rfl|rfl|rfl|rfl|rfl|rfl|rfl|rfl|rfl|rfl|rfl|rfl|rfl|rfl|rfl|rfl|rfl|rfl|rfl|rfl|rfl|rfl|rfl|rfl|rfl|rfl|rfl|rfl|rfl|rfl|rfl|rfl|rfl|rfl|rfl|rfl|rfl|rfl|rfl|rfl|rfl|rfl|rfl|rfl|rfl|rfl|rfl|rfl|rfl|rfl|rfl|rfl|rfl|rfl|rfl|rfl|rfl|rfl|rfl|rfl|rfl|rfl|rfl|rfl|rfl|rfl|rfl|rfl|rfl|rfl|rfl|rfl|rfl|rfl|rfl|rfl|rfl|rfl|rfl|rfl|rfl|rfl|rfl|rfl|rfl|rfl|rfl|rfl|rfl|rfl|rfl|rfl|rfl|rfl|rfl|rfl<;>kernel_rfl
theorem Acr(n c:Nat)(hm:c∈tailNums)(Z:aC):(env (n+12)).call 189 [.string ⟨#[42,47,60,62,61,63,33]⟩,.int .u8 (c:Int)] none Z=.ret (.int .i64 (-1)) none Z:=by
 simp only[tailNums,List.mem_cons,List.not_mem_nil,or_false] at hm
 rcases hm with rfl|rfl|rfl|rfl|rfl|rfl|rfl|rfl|rfl|rfl|rfl|rfl|rfl|rfl|rfl|rfl|rfl|rfl|rfl|rfl|rfl|rfl|rfl|rfl|rfl|rfl|rfl|rfl|rfl|rfl|rfl|rfl|rfl|rfl|rfl|rfl|rfl|rfl|rfl|rfl|rfl|rfl|rfl|rfl|rfl|rfl|rfl|rfl|rfl|rfl|rfl|rfl|rfl|rfl|rfl|rfl|rfl|rfl|rfl|rfl|rfl|rfl|rfl|rfl<;>kernel_rfl
theorem Acz(c:Int)(Z:aC):fun1 Tryz.prog (convert 5 21) (.int .u8 c) Z=.val (.int .i32 (IntKind.i32.wrap c)) Z:=by kernel_rfl
theorem Acx(c:Nat)(h:c<256)(Z:aC):fun1 Tryz.prog (convert 5 21) (.int .u8 (c:Int)) Z=.val (.int .i32 (c:Int)) Z:=by
 rw[Acz]
 have:IntKind.i32.wrap (c:Int)=c:=by
  show (if (true&&decide ((c:Int) % 4294967296≥2147483648))=true then (c:Int) % 4294967296-4294967296 else (c:Int) % 4294967296)=c
  have e:(c:Int) % 4294967296=c:=by omega
  rw[e,if_neg (by simp;omega)]
 rw[this]
theorem AoU(x y:Operand)(a b:Int)(Z:aC):i_geq Tryz.prog 21 x y (.int .i32 a) (.int .i32 b) Z=.val (.bool (decide (a≥b))) Z:=by kernel_rfl
theorem Qn(x y:Operand)(a b:Int)(Z:aC):i_leq Tryz.prog 21 x y (.int .i32 a) (.int .i32 b) Z=.val (.bool (decide (a<=b))) Z:=by kernel_rfl
theorem AoQ(x y:Operand)(a b:Int)(Z:aC):bO Tryz.prog 21 x y (.int .i32 a) (.int .i32 b) Z=.val (.bool (a==b)) Z:=by kernel_rfl
theorem Abr(x y:Operand)(a b:Int)(Z:aC):i_neq Tryz.prog 5 x y (.int .u8 a) (.int .u8 b) Z=.val (.bool (!(a==b))) Z:=by kernel_rfl
theorem Tq(n c:Nat)(h:c<256)(Z:aC):(env (n+1)).call 190 [.int .i32 (c:Int)] none Z=.ret (.bool true) none Z:=by
 rw[Al _ 190 _ _ rfl,Afm _ _ _ _ (by simp),Aj]
 unfold AaN
 have d0:decide ((0:Int)<=(c:Int))=true:=by simp
 have d1:decide ((c:Int)<55296)=true:=by simp;omega
 simp -implicitDefEqProofs only[go_sem,Aed,RD,Aee,RE,Aef,RF,Qn,HH,d0,d1]
def signsT:ByteArray:=⟨#[45,43,42,47,60,62,61,63,33]⟩
theorem WA(Z:aC):fslice Tryz.prog 9 (.string signsT) (some (.int .i64 2)) none none Z=.val (.string ⟨#[42,47,60,62,61,63,33]⟩) Z:=by kernel_rfl
theorem Afz{c:Nat}(h:128<=c/\c<256):c∈highNums:=by
 have e:highNums=(List.range 128).map (· + 128):=by decide
 rw[e,List.mem_map]
 exact⟨c-128,List.mem_range.2 (by omega),by omega⟩
theorem Ana{c:Nat}(h:128<=c/\c<192):c∈tailNums:=by
 have e:tailNums=(List.range 64).map (· + 128):=by decide
 rw[e,List.mem_map]
 exact⟨c-128,List.mem_range.2 (by omega),by omega⟩
theorem Me(n c:Nat)(h:128<=c/\c<256)(Z:aC):(env (n+13)).call 188 [.string signsT,.int .i32 (c:Int)] none Z=.ret (.int .i64 (-1)) none Z:=by
 rw[Al _ 188 _ _ rfl,Afl _ _ _ _ (by simp),Aj]
 unfold AaM
 have d0:decide ((0:Int)<=(c:Int))=true:=by simp
 have d1:decide ((c:Int)<128)=false:=by simp;omega
 have d2:((c:Int)==65533)=false:=by rw[beq_eq_false_iff_ne];omega
 have vr:=Tq (n+11) c h.2 Z
 have rs:=Ap8 c (Afz h) Z
 have hsz:(rsOf c).size=2:=rfl
 have hby:bA (rsOf c) 1=128+c % 64:=by
  show (128+c % 64).toUInt8.toNat=_
  rw[Nat.toUInt8_eq,UInt8.toNat_ofNat']
  omega
 have f1:∀τ,bQ (.string (rsOf c)) (.int .i64 1) τ=.val (.int .u8 ((128+c % 64:Nat):Int)) τ:=fun τ=>by rw[OM (rsOf c) (by rw[hsz];omega) τ,hby]
 have f2:∀τ,bQ (.string signsT) (.int .i64 1) τ=.val (.int .u8 43) τ:=fun τ=>by kernel_rfl
 have ib:=Acr n (128+c % 64) (Ana (by omega)) Z
 have ne:((43:Int)==((128+c % 64:Nat):Int))=false:=by rw[beq_eq_false_iff_ne];omega
 generalize rsOf c=rr at *
 generalize 128+c % 64=bb at *
 have s1:wrapI (Int.ofNat 2-1)=1:=by decide
 have s2:wrapI ((1:Int)+1)=2:=by decide
 have l9:decide ((1:Int)<Int.ofNat signsT.size)=true:=by decide
 have lo:decide ((-1:Int)<0)=true:=by decide
 simp -implicitDefEqProofs only[go_sem,Ad3,Rt,XV,MD,XW,ME,XX,MF,Qn,HH,AoQ,d0,d1,d2,vr,Bool.not_true,Ag]
 have hfu:∃q,bF=q+1:=⟨999999999999,rfl⟩
 obtain⟨fu,hfu⟩:=hfu
 rw[hfu,FN]
 have hk:bE nls 188=bE nls 188:=rfl
 generalize hkk:bE nls 188=keep
 simp -implicitDefEqProofs only[go_sem,Ad4,Ru,Ad5,Rv,Ad6,Rw,Ad7,Rx,rs,hsz,s1,hkk]
 rw[hfu,Ao]
 unfold AfF
 simp -implicitDefEqProofs only[go_sem,Ad8,Ry,l9,Ag]
 rw[hfu,FN]
 have nb:(!((43:Int)==(bb:Int)))=true:=by rw[ne];rfl
 simp -implicitDefEqProofs only[go_sem,Ad9,Rz,Aea,RA,Aeb,RB,Aec,RC,f1,f2,Abr,nb,s2,WA,ib,lo,Ag,NF]
def clsA(c:Nat):Int:=if symC c=true then clsN c else 0
theorem XA{c:Nat}(h:symC c=false)(hc:c<128):c∈otherNums:=by
 have e:otherNums=(List.range 128).filter (fun c=>!symC c):=by decide
 rw[e,List.mem_filter,List.mem_range]
 exact⟨hc,by rw[h];rfl⟩
theorem WX(n c:Nat)(h:128<=c/\c<256)(Z:aC):(env (n+15)).call 176 [.int .i32 (c:Int)] none Z=.ret (.int .i64 0) none Z:=by
 have e:(env (n+14)).call 186 [.string ⟨#[45,43,42,47,60,62,61,63,33]⟩,.int .i32 (c:Int)] none Z=.ret (.bool false) none Z:=by
  have hi:(env (n+13)).call 188 [.string ⟨#[45,43,42,47,60,62,61,63,33]⟩,.int .i32 (c:Int)] none Z=_:=Me n c h Z
  have g:decide ((-1:Int)≥0)=false:=by decide
  rw[Al _ 186 _ _ rfl,Afk _ _ _ _ (by simp),Aj]
  unfold AaL
  simp -implicitDefEqProofs only[go_sem,Ad1,Rq,Ad2,Rs,hi,g]
 have d0:decide ((c:Int)≥97)=true:=by simp;omega
 have d1:decide ((c:Int)<=122)=false:=by simp;omega
 have d2:decide ((c:Int)≥48)=true:=by simp;omega
 have d3:decide ((c:Int)<=57)=false:=by simp;omega
 rw[Al _ 176 _ _ rfl,Afj _ _ _ _ (by simp),Aj]
 unfold AaK
 simp -implicitDefEqProofs only[go_sem,AdT,Ri,AdU,Rj,AdV,Rk,AdW,Rl,AdX,Rm,AdY,Rn,AdZ,Ro,Ad0,Rp,AoU,Qn,d0,d1,d2,d3,e,Ag]
theorem Acv(n c:Nat)(h:c<256)(Z:aC):(env (n+20)).call 176 [.int .i32 (c:Int)] none Z=.ret (.int .i64 (clsA c)) none Z:=by
 unfold clsA
 cases hs:symC c with
 | true=>rw[if_pos rfl];exact TM n c hs Z
 | false=>
  rw[if_neg (by decide)]
  by_cases hc:c<128
  .exact TN n c (XA hs hc) Z
  .exact WX (n+5) c ⟨by omega,h⟩ Z
theorem Acq(t:ByteArray)(i:Nat):bA t i<256:=UInt8.toNat_lt _
def okAt(t:ByteArray)(i:Nat):Bool:=symC (bA t i)&&(!digC (bA t i)||decide (1<i)||(decide (i=1)&&!(bA t 0==45)))
theorem AoV(n i c:Nat)(t:ByteArray)(f g:Nat->Value)(Z:aC)(hi:i<t.size)(hsz:i<1000000)(hc:bA t i=c)(hok:okAt t i=false)(f0:f 0=.string t)(g13:g 13=.int .i64 (.ofNat t.size))(g14:g 14=.int .i64 (.ofNat i)):
  ∃f' g',Fb (env (n+20)) none 158 (Sl 4 38 f g []) none Z=.done .ret (Sl 4 38 f' g' []) none Z/\f' 2=.bool false:=by
 have d0:decide (Int.ofNat i<Int.ofNat t.size)=true:=by simp;omega
 have hb:=EA t i hi Z
 rw[hc] at hb
 have hlt:c<256:=hc ▸ Acq t i
 have hcl:=Acv n c hlt Z
 have hcv:=Acx c hlt Z
 unfold okAt at hok
 rw[hc] at hok
 unfold Fb
 cases hs:symC c with
 | false=>
  have hq:clsA c=0:=by unfold clsA;rw[hs];rfl
  rw[hq] at hcl
  have e2:((0:Int)==2)=false:=rfl
  have e0:((0:Int)==0)=true:=rfl
  simp -implicitDefEqProofs only[go_sem,EH,E5,FA,FX,FB,FY,FC,FZ,FD,F2,FE,F3,IE,Hr,f0,g13,g14,d0,hb,hcv,hcl,e2,e0,Ag]
  exact⟨_,_,rfl,by simp -implicitDefEqProofs only[go_sem,reduceCtorEq]⟩
 | true=>
  rw[hs,Bool.true_and,Bool.or_eq_false_iff,Bool.or_eq_false_iff] at hok
  obtain⟨⟨h1,h2⟩,h3⟩:=hok
  have hd:digC c=true:=by simpa using h1
  have hi1:¬ 1<i:=by simpa using h2
  have hq:clsA c=2:=by unfold clsA clsN;rw[hs,hd];rfl
  rw[hq] at hcl
  have e2:((2:Int)==2)=true:=rfl
  have d1:decide (Int.ofNat i>1)=false:=by simp;omega
  by_cases h0:i=1
  .have h45:bA t 0=45:=by
    rw[h0] at h3
    simpa using h3
   have d2:(Int.ofNat i==1)=true:=by subst h0;rfl
   have b0:=EA t 0 (by omega) Z
   have b0':bQ (.string t) (.int .i64 0) Z=.val (.int .u8 (bA t 0:Nat)) Z:=b0
   have e45:((bA t 0:Int)==45)=true:=by rw[h45];rfl
   simp -implicitDefEqProofs only[go_sem,EH,E5,FA,FX,FB,FY,FC,FZ,FD,F2,FE,F3,IE,Hr,f0,g13,g14,d0,hb,hcv,hcl,e2,d1,d2,b0',e45,Abr,Bool.not_true,Ag]
   exact⟨_,_,rfl,by simp -implicitDefEqProofs only[go_sem,reduceCtorEq]⟩
  .obtain rfl:i=0:=by omega
   have d2:(Int.ofNat 0==1)=false:=rfl
   simp -implicitDefEqProofs only[go_sem,EH,E5,FA,FX,FB,FY,FC,FZ,FD,F2,FE,F3,IE,Hr,f0,g13,g14,d0,hb,hcv,hcl,e2,d1,d2,Ag]
   exact⟨_,_,rfl,by simp -implicitDefEqProofs only[go_sem,reduceCtorEq]⟩
theorem GD{t:ByteArray}{i:Nat}(hi:i<t.size)(h:bA t i<128):Utf8.decode t i=(bA t i,1):=by
 have e:(t.get! (i+0)).toNat=bA t i:=by
  unfold bA
  rw[Nat.add_zero,getElem!_pos t i hi]
  obtain⟨a⟩:=t
  show (a[i]!).toNat=_
  rw[getElem!_pos a i hi]
  rfl
 unfold Utf8.decode
 simp only[e]
 rw[if_pos (by omega)]
theorem XC{t:ByteArray}(h:plainB t=true):PlainText t:=fun pos hp=>by
 have:=List.all_eq_true.1 h pos (List.mem_range.2 hp)
 unfold plainC at this
 simp only[Bool.and_eq_true,decide_eq_true_eq] at this
 exact⟨bA t pos,GD hp (by omega),this.1,this.2⟩
theorem KJ(m:Nat){k z:Int}{t:ByteArray}{l:Nat}(h:aQ k z t l=0):∃k':Nat,k=(k':Int)/\Good (m+21) k' z t l:=by
 unfold aQ at h
 split at h
 .rename_i hk
  split at h
  .cases h
  .rename_i hf
   rw[Bool.not_eq_true] at hf
   have hk':k=0\/k=1\/k=2\/k=3\/k=4\/k=5\/k=6:=by omega
   unfold formB at hf
   rcases hk' with rfl|rfl|rfl|rfl|rfl|rfl|rfl
   .simp at hf
    obtain⟨⟨rfl,ht⟩,rfl⟩:=hf
    obtain rfl:t=⟨#[]⟩:=ht.trans rfl
    exact⟨0,rfl,.nil⟩
   .simp at hf h
    obtain⟨ht,rfl⟩:=hf
    obtain rfl:t=⟨#[]⟩:=ht.trans rfl
    exact⟨1,rfl,.bool z h⟩
   .simp at hf h
    obtain⟨ht,rfl⟩:=hf
    obtain rfl:t=⟨#[]⟩:=ht.trans rfl
    exact⟨2,rfl,.num z h⟩
   .simp at hf h
    obtain⟨rfl,rfl⟩:=hf
    exact⟨3,rfl,.sym t fun V hw=>⟨_,V,AfB m t h V,Ext.refl _,hw,rfl⟩⟩
   .simp at hf h
    obtain⟨rfl,rfl⟩:=hf
    unfold textE at h
    split at h
    .cases h
    .split at h
     .rename_i h1 h2
      exact⟨4,rfl,.str t (by omega) fun V hw=>Mg (m+20) t (XC h2) (by omega) V hw⟩
     .cases h
   .simp at hf
    obtain⟨⟨rfl,ht⟩,rfl⟩:=hf
    obtain rfl:t=⟨#[]⟩:=ht.trans rfl
    exact⟨5,rfl,.pair⟩
   .simp at hf
    obtain⟨rfl,ht⟩:=hf
    obtain rfl:t=⟨#[]⟩:=ht.trans rfl
    exact⟨6,rfl,.vec l⟩
 .cases h
mutual
theorem Aus(m:Nat):∀(d:D) (path:List Nat),aR d=0->d.count<=900->∀x∈d.pieces path,x.2.parts.length<=900/\GoodD (m+21) x.2
 | .mk k z t ds,path,h,hc=>fun x hx=>by
  rw[aR] at h
  rw[D.count] at hc
  have hl:=En ds
  split at h
  .rename_i hp
   rw[D.pieces] at hx
   rcases List.mem_cons.1 hx with rfl|hx
   .refine⟨by show ds.length<=900;omega,fun k' z' t' ds' e=>?_⟩
    cases e
    exact KJ m hp
   .exact Am3 m ds path 0 h (by omega) x hx
  .omega
theorem Am3(m:Nat):∀(ds:List D) (path:List Nat) (i:Nat),bR ds=0->D.counts ds<=900->∀x∈D.piecesL path i ds,x.2.parts.length<=900/\GoodD (m+21) x.2
 | [],path,i,_,_=>fun x hx=>by simp[D.piecesL] at hx
 | d::ds,path,i,h,hc=>fun x hx=>by
  rw[bR] at h
  rw[D.counts] at hc
  rw[D.piecesL] at hx
  split at h
  .rename_i hp
   rcases List.mem_append.1 hx with hx|hx
   .exact Aus m d _ hp (by omega) x hx
   .exact Am3 m ds path (i+1) h (by omega) x hx
  .omega
end
theorem AeI(m:Nat){d:D}(h:aR d=0)(hc:d.count<900):Apart (m+21) d:=⟨fun path=>Aus m d path h (by omega),hc,by have:=Bz d;omega⟩
end
end Go.Proofs.YtknnbjmcfibpgaaGreatDoor
end
