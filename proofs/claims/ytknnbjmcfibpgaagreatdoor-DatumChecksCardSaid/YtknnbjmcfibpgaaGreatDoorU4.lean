import Derived.Test.YtknnbjmcfibpgaaGreatDoorU3
import Derived.Laws.StructEq
set_option linter.unusedSimpArgs false
set_option linter.unusedVariables false
noncomputable section
namespace Go.Proofs.YtknnbjmcfibpgaaGreatDoor
open Go Go.Eng
variable (E:Env) (ro:Option Nat) (last:List Nat->aZ) (cl:List Nat) (a:aV) (u:Option FrameMode) (Z:aC)
def LD(_:Unit):List COp:=[⟨fun a Z=>aP [(.int .i64 0),(.int .i64 0)] 86 none Z,some 2,tT⟩,
 ⟨fun a Z=>aP [(.int .i64 0)] 3 none Z,some 3,tT⟩,
 ⟨fun a Z=>aP [(.int .i64 0)] 32 none Z,some 4,tT⟩]
def AgA:List COp:=LD ()
def LF(_:Unit):List COp:=[⟨fun a Z=>.val (.func (.func 135) #[] #[(a.get 3),(a.get 4)]) Z,some 5,tT⟩,
 ⟨fun a Z=>fdefer (a.get 5) [] Z,none,tT⟩]
def AgB:List COp:=LF ()
def LG(_:Unit):List COp:=[⟨fun a Z=>.val (a.get 0) Z,some 6,tT⟩,
 ⟨fun a Z=>fcallV (a.get 6) [] Z,some 7,tT⟩,
 ⟨fun a Z=>aK 2 (a.get 2) (a.get 7) Z,none,tT⟩,
 ⟨fun a Z=>aK 1 (a.get 3) (.int .i64 0) Z,none,tT⟩,
 ⟨fun a Z=>aK 1 (a.get 4) (.int .i64 0) Z,none,tT⟩]
def AgC:List COp:=LG ()
def Tx(E:Env)(ro:Option Nat)(fn:FuncId):aZ:=(aF (aD E ro AgA) (aF (aD E ro AgB) (aF (aD E ro AgC) bO)))
theorem O8:aD E ro AgA a u Z=aD E ro (LD ()) a u Z:=rfl
theorem O9:aD E ro AgB a u Z=aD E ro (LF ()) a u Z:=rfl
theorem O_:aD E ro AgC a u Z=aD E ro (LG ()) a u Z:=rfl
theorem Aok(E:Env)(ro:Option Nat)(fn:FuncId):code Tryz.prog nls (Tryz.f109.body.getD .skip) E ro fn=Tx E ro fn:=by kernel_rfl
theorem UA(E:Env)(args:List Value)(u:Option FrameMode)(Z:aC)(hn:args.length<=(5:Nat)):bA Tryz.prog nls E 109 args u Z=aN Tryz.prog E [.cell 2 86,.cell 3 3,.cell 4 32] (Tx E none 109 ⟨aY undef 5 args,fun _=>undef,5,8,[]⟩ u Z):=by
 rw[Am (body:=Tryz.f109.body.getD .skip) Tryz.func109 rfl E args u Z 5 8 (by kernel_rfl) rfl ⟨hn,by decide⟩,Aok]
 rfl
def LW(_:Unit):List COp:=[⟨fun a Z=>.recover Z,some 6,tT⟩]
def AhX:List COp:=LW ()
def LX(_:Unit):List COp:=[⟨fun a Z=>bJ Tryz.prog 20 (.tmp 6) (.const .nilIface) (a.get 6) .nilIface Z,some 7,tT⟩]
def AhY:List COp:=LX ()
def Re(_:Unit):List COp:=[⟨fun a Z=>.val (a.get 6) Z,some 2,tT⟩]
def AhZ:List COp:=Re ()
def Rf(_:Unit):List COp:=[⟨fun a Z=>fassert Tryz.prog (a.get 6) 169 true Z,some 8,tT⟩,
 ⟨fun a Z=>aJ 1 (a.get 8) Z,some 9,tT⟩,
 ⟨fun a Z=>aJ 0 (a.get 8) Z,some 10,tT⟩]
def Ah0:List COp:=Rf ()
def Rg(_:Unit):List COp:=[⟨fun a Z=>.val (a.get 10) Z,some 3,tT⟩]
def Ah1:List COp:=Rg ()
def Rh(_:Unit):List COp:=[⟨fun a Z=>.val (a.get 3) Z,some 11,tT⟩,
 ⟨fun a Z=>.enter 136 [(a.get 11)] Z,some 12,tT⟩,
 ⟨fun a Z=>aP [(.int .i64 0),(.int .i64 0)] 171 none Z,some 4,tT⟩,
 ⟨fun a Z=>aK 2 (a.get 4) (a.get 12) Z,none,tT⟩]
def Ah2:List COp:=Rh ()
def Ri(_:Unit):List DOp:=[⟨fun a Z=>aH 1 (a.get 4) Z,some 13,tT,some 0,false⟩,
 ⟨fun a Z=>aG none (a.get 13) Z,some 14,tT,some 0,false⟩,
 ⟨fun a Z=>aK 1 (a.get 0) (a.get 14) Z,none,tT,none,false⟩,
 ⟨fun a Z=>aH 0 (a.get 4) Z,some 15,tT,some 0,false⟩,
 ⟨fun a Z=>aG none (a.get 15) Z,some 16,tT,some 0,false⟩,
 ⟨fun a Z=>aK 1 (a.get 1) (a.get 16) Z,none,tT,none,true⟩]
def Ah3:List DOp:=Ri ()
def Ap2(_:Unit):List COp:=[⟨fun a Z=>.val (a.get 6) Z,some 5,tT⟩]
def Awj:List COp:=Ap2 ()
def Ap3(_:Unit):List COp:=[⟨fun a Z=>aK 1 (a.get 1) (.int .i64 1) Z,none,tT⟩]
def Awk:List COp:=Ap3 ()
def TC(E:Env)(ro:Option Nat)(fn:FuncId):aZ:=(aF (aD E ro AhX) (aR 0 (aF (aD E ro AhY) (aL (fun a=>(a.get 7)) (aD E ro AhZ) (aF (aD E ro Ah0) (aL (fun a=>(a.get 9)) (aF (aD E ro Ah1) (aF (aD E ro Ah2) (drawR E ro Ah3))) (aF (aD E ro Awj) (aD E ro Awk))))))))
theorem Pp:aD E ro AhX a u Z=aD E ro (LW ()) a u Z:=rfl
theorem Pq:aD E ro AhY a u Z=aD E ro (LX ()) a u Z:=rfl
theorem AdS:aD E ro AhZ a u Z=aD E ro (Re ()) a u Z:=rfl
theorem AdT:aD E ro Ah0 a u Z=aD E ro (Rf ()) a u Z:=rfl
theorem AdU:aD E ro Ah1 a u Z=aD E ro (Rg ()) a u Z:=rfl
theorem AdV:aD E ro Ah2 a u Z=aD E ro (Rh ()) a u Z:=rfl
theorem AdW:bM E ro last Ah3 cl a u Z=bM E ro last (Ri ()) cl a u Z:=rfl
theorem Aoy(E:Env)(ro:Option Nat)(fn:FuncId):code Tryz.prog nls (Tryz.f135.body.getD .skip) E ro fn=TC E ro fn:=by kernel_rfl
theorem UF(E:Env)(args:List Value)(u:Option FrameMode)(Z:aC)(hn:args.length<=(6:Nat)):bA Tryz.prog nls E 135 args u Z=aN Tryz.prog E [] (TC E none 135 ⟨aY undef 6 args,fun _=>undef,6,17,[]⟩ u Z):=by
 rw[Am (body:=Tryz.f135.body.getD .skip) Tryz.func135 rfl E args u Z 6 17 (by kernel_rfl) rfl ⟨hn,by decide⟩,Aoy]
 rfl
def SI(_:Unit):List COp:=[⟨fun a Z=>aP [(.int .i64 0),(.int .i64 0)] 86 none Z,some 2,tT⟩,
 ⟨fun a Z=>.val (.int .i64 0) Z,some 3,tT⟩]
def Atk:List COp:=SI ()
def SJ(_:Unit):List COp:=[⟨fun a Z=>.val (a.get 0) Z,some 8,tT⟩,
 ⟨fun a Z=>.enter 109 [(a.get 8)] Z,some 9,tT⟩,
 ⟨fun a Z=>.val (a.get 9) Z,some 7,tT⟩,
 ⟨fun a Z=>aJ 0 (a.get 7) Z,some 10,tT⟩,
 ⟨fun a Z=>aJ 1 (a.get 7) Z,some 11,tT⟩,
 ⟨fun a Z=>aJ 2 (a.get 7) Z,some 12,tT⟩,
 ⟨fun a Z=>aP [(.int .i64 0),(.int .i64 0)] 86 none Z,some 4,tT⟩,
 ⟨fun a Z=>aK 2 (a.get 4) (a.get 10) Z,none,tT⟩,
 ⟨fun a Z=>.val (a.get 11) Z,some 5,tT⟩,
 ⟨fun a Z=>.val (a.get 12) Z,some 6,tT⟩]
def Atl:List COp:=SJ ()
def SK(_:Unit):List COp:=[⟨fun a Z=>aG (some 2) (a.get 4) Z,some 13,tT⟩,
 ⟨fun a Z=>.val (a.get 6) Z,some 14,tT⟩,
 ⟨fun a Z=>aK 2 (a.get 2) (a.get 13) Z,none,tT⟩,
 ⟨fun a Z=>.val (a.get 14) Z,some 3,tT⟩]
def Atm:List COp:=SK ()
def Acj(E:Env)(ro:Option Nat)(fn:FuncId):aZ:=(aF (aD E ro Atk) (aF (aD E ro Atl) (aF (aD E ro Atm) bO)))
theorem V7:aD E ro Atk a u Z=aD E ro (SI ()) a u Z:=rfl
theorem V8:aD E ro Atl a u Z=aD E ro (SJ ()) a u Z:=rfl
theorem V9:aD E ro Atm a u Z=aD E ro (SK ()) a u Z:=rfl
theorem Avu(E:Env)(ro:Option Nat)(fn:FuncId):code Tryz.prog nls (Tryz.f62.body.getD .skip) E ro fn=Acj E ro fn:=by kernel_rfl
theorem Aa9(E:Env)(args:List Value)(u:Option FrameMode)(Z:aC)(hn:args.length<=(7:Nat)):bA Tryz.prog nls E 62 args u Z=aN Tryz.prog E [.cell 2 86,.tmp 3] (Acj E none 62 ⟨aY undef 7 args,fun _=>undef,7,15,[]⟩ u Z):=by
 rw[Am (body:=Tryz.f62.body.getD .skip) Tryz.func62 rfl E args u Z 7 15 (by kernel_rfl) rfl ⟨hn,by decide⟩,Avu]
 rfl
def Q2(_:Unit):List COp:=[⟨fun a Z=>fbox 24 (a.get 0) Z,some 1,tT⟩,
 ⟨fun a Z=>.val (.int .i64 0) Z,some 2,tT⟩,
 ⟨fun a Z=>.val (.int .i64 0) Z,some 3,tT⟩,
 ⟨fun a Z=>.val (.int .i64 0) Z,some 4,tT⟩]
def ArT:List COp:=Q2 ()
def Q3(_:Unit):List COp:=[⟨fun a Z=>.val (.func (.func 63) #[] #[(a.get 1)]) Z,some 7,tT⟩,
 ⟨fun a Z=>.enter 62 [(a.get 7)] Z,some 8,tT⟩,
 ⟨fun a Z=>.val (a.get 8) Z,some 6,tT⟩,
 ⟨fun a Z=>aJ 0 (a.get 6) Z,some 9,tT⟩,
 ⟨fun a Z=>aJ 1 (a.get 6) Z,some 10,tT⟩,
 ⟨fun a Z=>aP [(.int .i64 0),(.int .i64 0)] 86 none Z,some 5,tT⟩,
 ⟨fun a Z=>aK 2 (a.get 5) (a.get 9) Z,none,tT⟩,
 ⟨fun a Z=>.val (a.get 10) Z,some 4,tT⟩]
def ArU:List COp:=Q3 ()
def Q4(_:Unit):List DOp:=[⟨fun a Z=>aH 0 (a.get 5) Z,some 11,tT,some 0,false⟩,
 ⟨fun a Z=>aG none (a.get 11) Z,some 12,tT,some 0,false⟩,
 ⟨fun a Z=>aH 1 (a.get 5) Z,some 13,tT,some 0,false⟩,
 ⟨fun a Z=>aG none (a.get 13) Z,some 14,tT,some 0,false⟩,
 ⟨fun a Z=>.val (a.get 4) Z,some 15,tT,some 0,false⟩,
 ⟨fun a Z=>.val (a.get 12) Z,some 2,tT,some 0,false⟩,
 ⟨fun a Z=>.val (a.get 14) Z,some 3,tT,some 0,false⟩,
 ⟨fun a Z=>.val (a.get 15) Z,some 4,tT,some 0,false⟩]
def ArV:List DOp:=Q4 ()
def Aci(E:Env)(ro:Option Nat)(fn:FuncId):aZ:=(aF (aD E ro ArT) (aF (aD E ro ArU) (aF (drawR E ro ArV) bO)))
theorem VB:aD E ro ArT a u Z=aD E ro (Q2 ()) a u Z:=rfl
theorem VC:aD E ro ArU a u Z=aD E ro (Q3 ()) a u Z:=rfl
theorem VD:bM E ro last ArV cl a u Z=bM E ro last (Q4 ()) cl a u Z:=rfl
theorem Au9(E:Env)(ro:Option Nat)(fn:FuncId):code Tryz.prog nls (Tryz.f11.body.getD .skip) E ro fn=Aci E ro fn:=by kernel_rfl
theorem Aa8(E:Env)(args:List Value)(u:Option FrameMode)(Z:aC)(hn:args.length<=(6:Nat)):bA Tryz.prog nls E 11 args u Z=aN Tryz.prog E [.tmp 2,.tmp 3,.tmp 4] (Aci E none 11 ⟨aY undef 6 args,fun _=>undef,6,16,[]⟩ u Z):=by
 rw[Am (body:=Tryz.f11.body.getD .skip) Tryz.func11 rfl E args u Z 6 16 (by kernel_rfl) rfl ⟨hn,by decide⟩,Au9]
 rfl
def SL(_:Unit):List COp:=[⟨fun a Z=>aP [(.int .i64 0),(.int .i64 0)] 86 none Z,some 1,tT⟩]
def Atn:List COp:=SL ()
def SM(_:Unit):List COp:=[⟨fun a Z=>aG (some 4) (a.get 0) Z,some 3,tT⟩,
 ⟨fun a Z=>.enter 64 [(a.get 3)] Z,some 4,tT⟩,
 ⟨fun a Z=>.val (a.get 4) Z,some 2,tT⟩]
def Ato:List COp:=SM ()
def Zg(_:Unit):List COp:=[⟨fun a Z=>.val (a.get 2) Z,some 5,tT⟩,
 ⟨fun a Z=>aG (some 4) (a.get 0) Z,some 6,tT⟩,
 ⟨fun a Z=>.enter 65 [(a.get 6)] Z,some 7,tT⟩,
 ⟨fun a Z=>fbuild (fun i=>nth [(0,1),(1,1)] i) [(.int .i64 0),(.int .i64 0)] [(0,(a.get 5)),(1,(a.get 7))] Z,some 8,tT⟩,
 ⟨fun a Z=>aK 2 (a.get 1) (a.get 8) Z,none,tT⟩]
def Atp:List COp:=Zg ()
def Ack(E:Env)(ro:Option Nat)(fn:FuncId):aZ:=(aF (aD E ro Atn) (aF (aD E ro Ato) (aF (aD E ro Atp) bO)))
theorem V_:aD E ro Atn a u Z=aD E ro (SL ()) a u Z:=rfl
theorem Wc:aD E ro Ato a u Z=aD E ro (SM ()) a u Z:=rfl
theorem AlL:aD E ro Atp a u Z=aD E ro (Zg ()) a u Z:=rfl
theorem Avv(E:Env)(ro:Option Nat)(fn:FuncId):code Tryz.prog nls (Tryz.f63.body.getD .skip) E ro fn=Ack E ro fn:=by kernel_rfl
theorem Aba(E:Env)(args:List Value)(u:Option FrameMode)(Z:aC)(hn:args.length<=(3:Nat)):bA Tryz.prog nls E 63 args u Z=aN Tryz.prog E [.cell 1 86] (Ack E none 63 ⟨aY undef 3 args,fun _=>undef,3,9,[]⟩ u Z):=by
 rw[Am (body:=Tryz.f63.body.getD .skip) Tryz.func63 rfl E args u Z 3 9 (by kernel_rfl) rfl ⟨hn,by decide⟩,Avv]
 rfl
def Z2(_:Unit):List COp:=[⟨fun a Z=>.val (a.get 0) Z,some 2,tT⟩,
 ⟨fun a Z=>i_gtr Tryz.prog 3 (.tmp 2) (.const (.int .i64 2000)) (a.get 2) (.int .i64 2000) Z,some 3,tT⟩]
def AuD:List COp:=Z2 ()
def AwU(_:Unit):List COp:=[⟨fun a Z=>.enter 124 [(.int .i64 8)] Z,some 4,tT⟩]
def Ax9:List COp:=AwU ()
def AnH(E:Env)(ro:Option Nat)(fn:FuncId):aZ:=(aF (aD E ro AuD) (aL (fun a=>(a.get 3)) (aD E ro Ax9) aQ))
theorem AmA:aD E ro AuD a u Z=aD E ro (Z2 ()) a u Z:=rfl
theorem AvJ(E:Env)(ro:Option Nat)(fn:FuncId):code Tryz.prog nls (Tryz.f84.body.getD .skip) E ro fn=AnH E ro fn:=by kernel_rfl
theorem Apw(E:Env)(args:List Value)(u:Option FrameMode)(Z:aC)(hn:args.length<=(2:Nat)):bA Tryz.prog nls E 84 args u Z=aN Tryz.prog E [] (AnH E none 84 ⟨aY undef 2 args,fun _=>undef,2,5,[]⟩ u Z):=by
 rw[Am (body:=Tryz.f84.body.getD .skip) Tryz.func84 rfl E args u Z 2 5 (by kernel_rfl) rfl ⟨hn,by decide⟩,AvJ]
 rfl
def SN(_:Unit):List COp:=[⟨fun a Z=>fbox 24 (a.get 0) Z,some 1,tT⟩,
 ⟨fun a Z=>.val (.int .i64 0) Z,some 2,tT⟩]
def Atq:List COp:=SN ()
def SP(_:Unit):List COp:=[⟨fun a Z=>.val (.map (some Z.next)) (Z.push (.map [] 0) none),some 6,tT⟩,
 ⟨fun a Z=>fbuild (fun i=>nth [(0,1),(1,1)] i) [(.int .i64 0),(.map none)] [(1,(a.get 6))] Z,some 7,tT⟩,
 ⟨fun a Z=>aP [(.int .i64 0),(.map none)] 130 none Z,some 3,tT⟩,
 ⟨fun a Z=>aK 2 (a.get 3) (a.get 7) Z,none,tT⟩]
def Atr:List COp:=SP ()
def SQ(_:Unit):List COp:=[⟨fun a Z=>.val (.func (.func 110) #[(a.get 3)] #[]) Z,some 8,tT⟩,
 ⟨fun a Z=>fbuild (fun i=>nth [(0,1)] i) [.nilFunc] [(0,(a.get 8))] Z,some 9,tT⟩,
 ⟨fun a Z=>aG (some 4) (a.get 1) Z,some 10,tT⟩,
 ⟨fun a Z=>.enter 111 [(a.get 9),(a.get 10)] Z,some 11,tT⟩]
def Ats:List COp:=SQ ()
def Nz(_:Unit):List COp:=[⟨fun a Z=>aP [(.int .i64 0),(.int .i64 0),(.string ⟨#[]⟩),(.slice none 0 0)] 24 none Z,some 5,tT⟩,
 ⟨fun a Z=>aK 4 (a.get 5) (a.get 13) Z,none,tT⟩]
def Att:List COp:=Nz ()
def NB(_:Unit):List COp:=[⟨fun a Z=>aG (some 4) (a.get 5) Z,some 14,tT⟩,
 ⟨fun a Z=>.enter 112 [(a.get 14)] Z,some 15,tT⟩]
def Atu:List COp:=NB ()
def SR(_:Unit):List COp:=[⟨fun a Z=>aH 0 (a.get 3) Z,some 16,tT⟩,
 ⟨fun a Z=>aG none (a.get 16) Z,some 17,tT⟩,
 ⟨fun a Z=>i_add Tryz.prog 3 (.tmp 17) (.const (.int .i64 1)) (a.get 17) (.int .i64 1) Z,some 18,tT⟩,
 ⟨fun a Z=>aH 0 (a.get 3) Z,some 19,tT⟩,
 ⟨fun a Z=>aK 1 (a.get 19) (a.get 18) Z,none,tT⟩]
def Atv:List COp:=SR ()
noncomputable def Dx:Code:=((bP (Tryz.f64.body.getD .skip)).getD 0 (.skip,.skip)).1
noncomputable def Dy:Code:=((bP (Tryz.f64.body.getD .skip)).getD 0 (.skip,.skip)).2
def Zh(_:Unit):List COp:=[⟨fun a Z=>aH 0 (a.get 3) Z,some 20,tT⟩,
 ⟨fun a Z=>aG none (a.get 20) Z,some 21,tT⟩,
 ⟨fun a Z=>.enter 84 [(a.get 21)] Z,some 22,tT⟩]
def Atw:List COp:=Zh ()
def Zi(_:Unit):List COp:=[⟨fun a Z=>aH 0 (a.get 3) Z,some 23,tT⟩,
 ⟨fun a Z=>aG none (a.get 23) Z,some 24,tT⟩,
 ⟨fun a Z=>.val (a.get 24) Z,some 2,tT⟩]
def Atx:List COp:=Zi ()
def Acl(E:Env)(ro:Option Nat)(fn:FuncId):aZ:=(aF (aD E ro Atq) (aF (aD E ro Atr) (aF (aF (aD E ro Ats) (aR 0 (frange E ro fn (.tmp 11) [12,13] Dx Dy))) (aF (aD E ro Atw) (aF (aD E ro Atx) bO)))))
theorem Wd:aD E ro Atq a u Z=aD E ro (SN ()) a u Z:=rfl
theorem We:aD E ro Atr a u Z=aD E ro (SP ()) a u Z:=rfl
theorem Wg:aD E ro Ats a u Z=aD E ro (SQ ()) a u Z:=rfl
theorem NA:aD E ro Att a u Z=aD E ro (Nz ()) a u Z:=rfl
theorem NC:aD E ro Atu a u Z=aD E ro (NB ()) a u Z:=rfl
theorem Wh:aD E ro Atv a u Z=aD E ro (SR ()) a u Z:=rfl
theorem Kj(E:Env)(ro:Option Nat)(fn:FuncId):code Tryz.prog nls Dx E ro fn=(aD E ro Att):=by kernel_rfl
theorem Kk(E:Env)(ro:Option Nat)(fn:FuncId):code Tryz.prog nls Dy E ro fn=(aR 1 (aF (aD E ro Atu) (aD E ro Atv))):=by kernel_rfl
theorem AlM:aD E ro Atw a u Z=aD E ro (Zh ()) a u Z:=rfl
theorem AlN:aD E ro Atx a u Z=aD E ro (Zi ()) a u Z:=rfl
theorem Avw(E:Env)(ro:Option Nat)(fn:FuncId):code Tryz.prog nls (Tryz.f64.body.getD .skip) E ro fn=Acl E ro fn:=by kernel_rfl
theorem Abb(E:Env)(args:List Value)(u:Option FrameMode)(Z:aC)(hn:args.length<=(6:Nat)):bA Tryz.prog nls E 64 args u Z=aN Tryz.prog E [.tmp 2] (Acl E none 64 ⟨aY undef 6 args,fun _=>undef,6,25,[]⟩ u Z):=by
 rw[Am (body:=Tryz.f64.body.getD .skip) Tryz.func64 rfl E args u Z 6 25 (by kernel_rfl) rfl ⟨hn,by decide⟩,Avw]
 rfl
def Zj(_:Unit):List COp:=[⟨fun a Z=>fbox 24 (a.get 0) Z,some 1,tT⟩,
 ⟨fun a Z=>.val (.int .i64 0) Z,some 2,tT⟩]
def Aty:List COp:=Zj ()
def Zk(_:Unit):List COp:=[⟨fun a Z=>aP [(.int .i64 0)] 3 none Z,some 3,tT⟩,
 ⟨fun a Z=>aK 1 (a.get 3) (.int .i64 0) Z,none,tT⟩]
def Atz:List COp:=Zk ()
def Zl(_:Unit):List COp:=[⟨fun a Z=>aG (some 4) (a.get 1) Z,some 5,tT⟩,
 ⟨fun a Z=>.enter 113 [(a.get 5)] Z,some 6,tT⟩]
def AtA:List COp:=Zl ()
def Zm(_:Unit):List COp:=[⟨fun a Z=>.val (a.get 7) Z,some 4,tT⟩]
def AtB:List COp:=Zm ()
def Zn(_:Unit):List COp:=[⟨fun a Z=>aG none (a.get 3) Z,some 9,tT⟩,
 ⟨fun a Z=>.val (a.get 4) Z,some 10,tT⟩,
 ⟨fun a Z=>flenL (a.get 10) Z,some 11,tT⟩,
 ⟨fun a Z=>i_add Tryz.prog 3 (.tmp 11) (.const (.int .i64 1)) (a.get 11) (.int .i64 1) Z,some 12,tT⟩,
 ⟨fun a Z=>fun2 Tryz.prog Builtin.max2 (a.get 9) (a.get 12) Z,some 13,tT⟩,
 ⟨fun a Z=>aK 1 (a.get 3) (a.get 13) Z,none,tT⟩]
def AtC:List COp:=Zn ()
noncomputable def Kl:Code:=((bP (Tryz.f65.body.getD .skip)).getD 0 (.skip,.skip)).1
noncomputable def Km:Code:=((bP (Tryz.f65.body.getD .skip)).getD 0 (.skip,.skip)).2
def Zo(_:Unit):List COp:=[⟨fun a Z=>aG none (a.get 3) Z,some 14,tT⟩,
 ⟨fun a Z=>.val (a.get 14) Z,some 2,tT⟩]
def AtD:List COp:=Zo ()
def Anw(E:Env)(ro:Option Nat)(fn:FuncId):aZ:=(aF (aD E ro Aty) (aF (aD E ro Atz) (aF (aF (aD E ro AtA) (aR 0 (frange E ro fn (.tmp 6) [7,8] Kl Km))) (aF (aD E ro AtD) bO))))
theorem AlO:aD E ro Aty a u Z=aD E ro (Zj ()) a u Z:=rfl
theorem AlP:aD E ro Atz a u Z=aD E ro (Zk ()) a u Z:=rfl
theorem AlQ:aD E ro AtA a u Z=aD E ro (Zl ()) a u Z:=rfl
theorem AlR:aD E ro AtB a u Z=aD E ro (Zm ()) a u Z:=rfl
theorem AlS:aD E ro AtC a u Z=aD E ro (Zn ()) a u Z:=rfl
theorem AcG(E:Env)(ro:Option Nat)(fn:FuncId):code Tryz.prog nls Kl E ro fn=(aD E ro AtB):=by kernel_rfl
theorem AcH(E:Env)(ro:Option Nat)(fn:FuncId):code Tryz.prog nls Km E ro fn=(aR 1 (aD E ro AtC)):=by kernel_rfl
theorem AlT:aD E ro AtD a u Z=aD E ro (Zo ()) a u Z:=rfl
theorem Avx(E:Env)(ro:Option Nat)(fn:FuncId):code Tryz.prog nls (Tryz.f65.body.getD .skip) E ro fn=Anw E ro fn:=by kernel_rfl
theorem Apm(E:Env)(args:List Value)(u:Option FrameMode)(Z:aC)(hn:args.length<=(5:Nat)):bA Tryz.prog nls E 65 args u Z=aN Tryz.prog E [.tmp 2] (Anw E none 65 ⟨aY undef 5 args,fun _=>undef,5,15,[]⟩ u Z):=by
 rw[Am (body:=Tryz.f65.body.getD .skip) Tryz.func65 rfl E args u Z 5 15 (by kernel_rfl) rfl ⟨hn,by decide⟩,Avx]
 rfl
def LH(_:Unit):List COp:=[⟨fun a Z=>.val (.bool false) Z,some 4,tT⟩]
def AgJ:List COp:=LH ()
def LI(_:Unit):List COp:=[⟨fun a Z=>.val (a.get 1) Z,some 6,tT⟩,
 ⟨fun a Z=>flenL (a.get 6) Z,some 7,tT⟩,
 ⟨fun a Z=>bJ Tryz.prog 3 (.tmp 7) (.const (.int .i64 0)) (a.get 7) (.int .i64 0) Z,some 8,tT⟩,
 ⟨fun a Z=>.val (a.get 8) Z,some 9,tT⟩,
 ⟨fun a Z=>.val (a.get 0) Z,some 10,fun a=>gd (a.get 9) false⟩,
 ⟨fun a Z=>bI (a.get 10) Z,some 11,fun a=>gd (a.get 9) false⟩,
 ⟨fun a Z=>aH 0 (a.get 11) Z,some 12,fun a=>gd (a.get 9) false⟩,
 ⟨fun a Z=>aG none (a.get 12) Z,some 13,fun a=>gd (a.get 9) false⟩,
 ⟨fun a Z=>i_leq Tryz.prog 3 (.tmp 13) (.const (.int .i64 2000)) (a.get 13) (.int .i64 2000) Z,some 14,fun a=>gd (a.get 9) false⟩,
 ⟨fun a Z=>bG (a.get 9) (.bool true) (a.get 14) Z,some 15,tT⟩]
def AgK:List COp:=LI ()
def LJ(_:Unit):List COp:=[⟨fun a Z=>.val (.bool true) Z,some 4,tT⟩]
def AgL:List COp:=LJ ()
def ApW(_:Unit):List COp:=[⟨fun a Z=>.val (a.get 1) Z,some 16,tT⟩,
 ⟨fun a Z=>bB (none,4) (a.get 16) (.int .i64 0) Z,some 17,tT⟩,
 ⟨fun a Z=>.val (a.get 1) Z,some 18,tT⟩,
 ⟨fun a Z=>flenL (a.get 18) Z,some 19,tT⟩,
 ⟨fun a Z=>fbuild (fun i=>nth [(0,1),(1,1)] i) [(.pointer none),(.int .i64 0)] [(0,(a.get 17)),(1,(a.get 19))] Z,some 20,tT⟩,
 ⟨fun a Z=>aP [(.pointer none),(.int .i64 0)] 175 none Z,some 5,tT⟩,
 ⟨fun a Z=>aK 2 (a.get 5) (a.get 20) Z,none,tT⟩]
def Awe:List COp:=ApW ()
def ApX(_:Unit):List DOp:=[⟨fun a Z=>.val (a.get 0) Z,some 21,tT,some 0,false⟩,
 ⟨fun a Z=>bI (a.get 21) Z,some 22,tT,some 0,false⟩,
 ⟨fun a Z=>aH 1 (a.get 22) Z,some 23,tT,some 0,false⟩,
 ⟨fun a Z=>aG none (a.get 23) Z,some 24,tT,some 0,false⟩,
 ⟨fun a Z=>aG (some 2) (a.get 5) Z,some 25,tT,some 0,false⟩,
 ⟨fun a Z=>(cop Tryz.prog (.lookup 128 (.tmp 24) (.tmp 25) false)).un a Z,some 26,tT,some 0,false⟩]
def Awf:List DOp:=ApX ()
def ApY(_:Unit):List COp:=[⟨fun a Z=>.val (.bool false) Z,some 4,tT⟩]
def Awg:List COp:=ApY ()
def ApZ(_:Unit):List DOp:=[⟨fun a Z=>.val (a.get 0) Z,some 27,tT,some 0,false⟩,
 ⟨fun a Z=>bI (a.get 27) Z,some 28,tT,some 0,false⟩,
 ⟨fun a Z=>aH 1 (a.get 28) Z,some 29,tT,some 0,false⟩,
 ⟨fun a Z=>aG none (a.get 29) Z,some 30,tT,some 0,false⟩,
 ⟨fun a Z=>aG (some 2) (a.get 5) Z,some 31,tT,some 0,false⟩,
 ⟨fun a Z=>(cop Tryz.prog (.mapUpdate 128 (.tmp 30) (.tmp 31) (.const (.bool true)))).un a Z,none,tT,none,true⟩]
def Awh:List DOp:=ApZ ()
def Ap0(_:Unit):List COp:=[⟨fun a Z=>.val (.bool true) Z,some 4,tT⟩]
def Awi:List COp:=Ap0 ()
def Aap(E:Env)(ro:Option Nat)(fn:FuncId):aZ:=(aF (aD E ro AgJ) (aF (aF (aD E ro AgK) (aL (fun a=>(a.get 15)) (aF (aD E ro AgL) bO) aQ)) (aF (aD E ro Awe) (aF (aF (drawR E ro Awf) (aL (fun a=>(a.get 26)) (aF (aD E ro Awg) bO) aQ)) (aF (drawR E ro Awh) (aF (aD E ro Awi) bO))))))
theorem Pa:aD E ro AgJ a u Z=aD E ro (LH ()) a u Z:=rfl
theorem Pb:aD E ro AgK a u Z=aD E ro (LI ()) a u Z:=rfl
theorem Pc:aD E ro AgL a u Z=aD E ro (LJ ()) a u Z:=rfl
theorem Aol(E:Env)(ro:Option Nat)(fn:FuncId):code Tryz.prog nls (Tryz.f110.body.getD .skip) E ro fn=Aap E ro fn:=by kernel_rfl
theorem AfC(E:Env)(args:List Value)(u:Option FrameMode)(Z:aC)(hn:args.length<=(6:Nat)):bA Tryz.prog nls E 110 args u Z=aN Tryz.prog E [.tmp 4] (Aap E none 110 ⟨aY undef 6 args,fun _=>undef,6,32,[]⟩ u Z):=by
 rw[Am (body:=Tryz.f110.body.getD .skip) Tryz.func110 rfl E args u Z 6 32 (by kernel_rfl) rfl ⟨hn,by decide⟩,Aol]
 rfl
def QO(_:Unit):List COp:=[⟨fun a Z=>fbox 135 (a.get 0) Z,some 2,tT⟩,
 ⟨fun a Z=>fbox 24 (a.get 1) Z,some 3,tT⟩,
 ⟨fun a Z=>.val .nilFunc Z,some 4,tT⟩]
def AgM:List COp:=QO ()
def QP(_:Unit):List COp:=[⟨fun a Z=>.val (.func (.func 137) #[] #[(a.get 3),(a.get 2)]) Z,some 5,tT⟩,
 ⟨fun a Z=>.val (a.get 5) Z,some 4,tT⟩]
def AgN:List COp:=QP ()
def Aaq(E:Env)(ro:Option Nat)(fn:FuncId):aZ:=(aF (aD E ro AgM) (aF (aD E ro AgN) bO))
theorem Adw:aD E ro AgM a u Z=aD E ro (QO ()) a u Z:=rfl
theorem Adx:aD E ro AgN a u Z=aD E ro (QP ()) a u Z:=rfl
theorem Aom(E:Env)(ro:Option Nat)(fn:FuncId):code Tryz.prog nls (Tryz.f111.body.getD .skip) E ro fn=Aaq E ro fn:=by kernel_rfl
theorem AfD(E:Env)(args:List Value)(u:Option FrameMode)(Z:aC)(hn:args.length<=(4:Nat)):bA Tryz.prog nls E 111 args u Z=aN Tryz.prog E [.tmp 4] (Aaq E none 111 ⟨aY undef 4 args,fun _=>undef,4,6,[]⟩ u Z):=by
 rw[Am (body:=Tryz.f111.body.getD .skip) Tryz.func111 rfl E args u Z 4 6 (by kernel_rfl) rfl ⟨hn,by decide⟩,Aom]
 rfl
def JH(_:Unit):List COp:=[⟨fun a Z=>.val (a.get 0) Z,some 8,tT⟩,
 ⟨fun a Z=>aG (some 4) (a.get 1) Z,some 9,tT⟩,
 ⟨fun a Z=>fcallV (a.get 8) [(.slice none 0 0),(a.get 9)] Z,some 10,tT⟩,
 ⟨fun a Z=>fun1 Tryz.prog (Op.unary .not) (a.get 10) Z,some 11,tT⟩]
def Ah8:List COp:=JH ()
def LY(_:Unit):List COp:=[⟨fun a Z=>aG (some 1) (a.get 2) Z,some 12,tT⟩,
 ⟨fun a Z=>aG (some 4) (a.get 1) Z,some 13,tT⟩,
 ⟨fun a Z=>.enter 138 [(a.get 12),(a.get 13)] Z,some 14,tT⟩,
 ⟨fun a Z=>aX 22 1 1 [(.slice none 0 0)] [(0,(a.get 14))] Z,some 15,tT⟩,
 ⟨fun a Z=>.val (a.get 15) Z,some 4,tT⟩]
def Ah9:List COp:=LY ()
def LZ(_:Unit):List COp:=[⟨fun a Z=>aX 3 1 1 [(.int .i64 0)] [(0,(.int .i64 0))] Z,some 16,tT⟩,
 ⟨fun a Z=>.val (a.get 16) Z,some 5,tT⟩]
def Aia:List COp:=LZ ()
def H_(_:Unit):List COp:=[⟨fun a Z=>.val (a.get 4) Z,some 17,tT⟩,
 ⟨fun a Z=>flenL (a.get 17) Z,some 18,tT⟩,
 ⟨fun a Z=>i_gtr Tryz.prog 3 (.tmp 18) (.const (.int .i64 0)) (a.get 18) (.int .i64 0) Z,some 19,tT⟩]
def Aib:List COp:=H_ ()
def JJ(_:Unit):List COp:=[⟨fun a Z=>.val (a.get 5) Z,some 20,tT⟩,
 ⟨fun a Z=>flenL (a.get 20) Z,some 21,tT⟩,
 ⟨fun a Z=>.val (a.get 21) Z,some 6,tT⟩]
def Aic:List COp:=JJ ()
def JK(_:Unit):List DOp:=[⟨fun a Z=>.val (a.get 5) Z,some 22,tT,some 0,false⟩,
 ⟨fun a Z=>.val (a.get 6) Z,some 23,tT,some 0,false⟩,
 ⟨fun a Z=>i_sub Tryz.prog 3 (.tmp 23) (.const (.int .i64 1)) (a.get 23) (.int .i64 1) Z,some 24,tT,some 0,false⟩,
 ⟨fun a Z=>bB (none,1) (a.get 22) (a.get 24) Z,some 25,tT,some 0,false⟩,
 ⟨fun a Z=>aG none (a.get 25) Z,some 26,tT,some 0,false⟩,
 ⟨fun a Z=>.val (a.get 4) Z,some 27,tT,some 0,false⟩,
 ⟨fun a Z=>.val (a.get 6) Z,some 28,tT,some 0,false⟩,
 ⟨fun a Z=>i_sub Tryz.prog 3 (.tmp 28) (.const (.int .i64 1)) (a.get 28) (.int .i64 1) Z,some 29,tT,some 0,false⟩,
 ⟨fun a Z=>bB (none,1) (a.get 27) (a.get 29) Z,some 30,tT,some 0,false⟩,
 ⟨fun a Z=>aG none (a.get 30) Z,some 31,tT,some 0,false⟩,
 ⟨fun a Z=>flenL (a.get 31) Z,some 32,tT,some 0,false⟩,
 ⟨fun a Z=>bJ Tryz.prog 3 (.tmp 26) (.tmp 32) (a.get 26) (a.get 32) Z,some 33,tT,some 0,false⟩]
def Aid:List DOp:=JK ()
def Rn(_:Unit):List DOp:=[⟨fun a Z=>.val (a.get 4) Z,some 34,tT,some 0,false⟩,
 ⟨fun a Z=>.val (a.get 6) Z,some 35,tT,some 0,false⟩,
 ⟨fun a Z=>i_sub Tryz.prog 3 (.tmp 35) (.const (.int .i64 1)) (a.get 35) (.int .i64 1) Z,some 36,tT,some 0,false⟩,
 ⟨fun a Z=>fslice Tryz.prog 44 (a.get 34) none (some (a.get 36)) none Z,some 37,tT,some 0,false⟩,
 ⟨fun a Z=>.val (a.get 5) Z,some 38,tT,some 0,false⟩,
 ⟨fun a Z=>.val (a.get 6) Z,some 39,tT,some 0,false⟩,
 ⟨fun a Z=>i_sub Tryz.prog 3 (.tmp 39) (.const (.int .i64 1)) (a.get 39) (.int .i64 1) Z,some 40,tT,some 0,false⟩,
 ⟨fun a Z=>fslice Tryz.prog 25 (a.get 38) none (some (a.get 40)) none Z,some 41,tT,some 0,false⟩,
 ⟨fun a Z=>.val (a.get 37) Z,some 4,tT,some 0,false⟩,
 ⟨fun a Z=>.val (a.get 41) Z,some 5,tT,some 0,false⟩]
def Aie:List DOp:=Rn ()
def L5(_:Unit):List COp:=[⟨fun a Z=>.val (a.get 6) Z,some 42,tT⟩,
 ⟨fun a Z=>i_gtr Tryz.prog 3 (.tmp 42) (.const (.int .i64 1)) (a.get 42) (.int .i64 1) Z,some 43,tT⟩]
def Aif:List COp:=L5 ()
def Ro(_:Unit):List COp:=[⟨fun a Z=>.val (a.get 5) Z,some 44,tT⟩,
 ⟨fun a Z=>.val (a.get 6) Z,some 45,tT⟩,
 ⟨fun a Z=>i_sub Tryz.prog 3 (.tmp 45) (.const (.int .i64 2)) (a.get 45) (.int .i64 2) Z,some 46,tT⟩,
 ⟨fun a Z=>bB (none,1) (a.get 44) (a.get 46) Z,some 47,tT⟩,
 ⟨fun a Z=>aG none (a.get 47) Z,some 48,tT⟩,
 ⟨fun a Z=>i_add Tryz.prog 3 (.tmp 48) (.const (.int .i64 1)) (a.get 48) (.int .i64 1) Z,some 49,tT⟩,
 ⟨fun a Z=>bB (none,1) (a.get 44) (a.get 46) Z,some 50,tT⟩,
 ⟨fun a Z=>aK 1 (a.get 50) (a.get 49) Z,none,tT⟩]
def Aig:List COp:=Ro ()
def L6(_:Unit):List DOp:=[⟨fun a Z=>.val (a.get 4) Z,some 51,tT,some 0,false⟩,
 ⟨fun a Z=>.val (a.get 6) Z,some 52,tT,some 0,false⟩,
 ⟨fun a Z=>i_sub Tryz.prog 3 (.tmp 52) (.const (.int .i64 1)) (a.get 52) (.int .i64 1) Z,some 53,tT,some 0,false⟩,
 ⟨fun a Z=>bB (none,1) (a.get 51) (a.get 53) Z,some 54,tT,some 0,false⟩,
 ⟨fun a Z=>aG none (a.get 54) Z,some 55,tT,some 0,false⟩,
 ⟨fun a Z=>.val (a.get 5) Z,some 56,tT,some 0,false⟩,
 ⟨fun a Z=>.val (a.get 6) Z,some 57,tT,some 0,false⟩,
 ⟨fun a Z=>i_sub Tryz.prog 3 (.tmp 57) (.const (.int .i64 1)) (a.get 57) (.int .i64 1) Z,some 58,tT,some 0,false⟩,
 ⟨fun a Z=>bB (none,1) (a.get 56) (a.get 58) Z,some 59,tT,some 0,false⟩,
 ⟨fun a Z=>aG none (a.get 59) Z,some 60,tT,some 0,false⟩,
 ⟨fun a Z=>bB (none,4) (a.get 55) (a.get 60) Z,some 61,tT,some 0,false⟩,
 ⟨fun a Z=>aG (some 4) (a.get 61) Z,some 62,tT,some 0,false⟩,
 ⟨fun a Z=>aP [(.int .i64 0),(.int .i64 0),(.string ⟨#[]⟩),(.slice none 0 0)] 24 none Z,some 7,tT,some 0,false⟩,
 ⟨fun a Z=>aK 4 (a.get 7) (a.get 62) Z,none,tT,none,true⟩]
def Aih:List DOp:=L6 ()
def JI(_:Unit):List DOp:=[⟨fun a Z=>.val (a.get 0) Z,some 63,tT,some 0,false⟩,
 ⟨fun a Z=>.val (a.get 5) Z,some 64,tT,some 0,false⟩,
 ⟨fun a Z=>.val (a.get 6) Z,some 65,tT,some 0,false⟩,
 ⟨fun a Z=>.val (a.get 6) Z,some 66,tT,some 0,false⟩,
 ⟨fun a Z=>fslice Tryz.prog 25 (a.get 64) none (some (a.get 65)) (some (a.get 66)) Z,some 67,tT,some 0,false⟩,
 ⟨fun a Z=>aG (some 4) (a.get 7) Z,some 68,tT,some 0,false⟩,
 ⟨fun a Z=>fcallV (a.get 63) [(a.get 67),(a.get 68)] Z,some 69,tT,none,true⟩,
 ⟨fun a Z=>fun1 Tryz.prog (Op.unary .not) (a.get 69) Z,some 70,tT,some 1,false⟩]
def AbM:List DOp:=JI ()
def Nh(_:Unit):List COp:=[⟨fun a Z=>.val (a.get 4) Z,some 71,tT⟩,
 ⟨fun a Z=>aG (some 1) (a.get 2) Z,some 72,tT⟩,
 ⟨fun a Z=>aG (some 4) (a.get 7) Z,some 73,tT⟩,
 ⟨fun a Z=>.enter 138 [(a.get 72),(a.get 73)] Z,some 74,tT⟩,
 ⟨fun a Z=>aX 22 1 1 [(.slice none 0 0)] [(0,(a.get 74))] Z,some 75,tT⟩,
 ⟨fun a Z=>fappend 22 1 24 (a.get 71) (a.get 75) Z,some 76,tT⟩,
 ⟨fun a Z=>.val (a.get 76) Z,some 4,tT⟩]
def AbN:List COp:=Nh ()
def Ni(_:Unit):List COp:=[⟨fun a Z=>.val (a.get 5) Z,some 77,tT⟩,
 ⟨fun a Z=>aX 3 1 1 [(.int .i64 0)] [(0,(.int .i64 0))] Z,some 78,tT⟩,
 ⟨fun a Z=>fappend 3 1 8 (a.get 77) (a.get 78) Z,some 79,tT⟩,
 ⟨fun a Z=>.val (a.get 79) Z,some 5,tT⟩]
def AbO:List COp:=Ni ()
def Gd(E:Env)(ro:Option Nat)(fn:FuncId):aZ:=(aF (aF (aD E ro Aib) (aL (fun a=>(a.get 19)) aQ (exitR 0))) (aR 1 (aF (aD E ro Aic) (aF (aF (drawR E ro Aid) (aL (fun a=>(a.get 33)) (aF (drawR E ro Aie) (aF (aF (aD E ro Aif) (aL (fun a=>(a.get 43)) (aD E ro Aig) aQ)) (exitR 1))) aQ)) (aF (drawR E ro Aih) (aF (aF (drawR E ro AbM) (aL (fun a=>(a.get 70)) bO aQ)) (aF (aD E ro AbN) (aD E ro AbO))))))))
def NL(E:Env)(ro:Option Nat)(fn:FuncId):aZ:=(aF (aF (aD E ro Ah8) (aL (fun a=>(a.get 11)) bO aQ)) (aF (aD E ro Ah9) (aF (aD E ro Aia) (aR 0 (loopR (bH nls fn) (Gd E ro fn))))))
theorem KG:aD E ro Ah8 a u Z=aD E ro (JH ()) a u Z:=rfl
theorem Pr:aD E ro Ah9 a u Z=aD E ro (LY ()) a u Z:=rfl
theorem Ps:aD E ro Aia a u Z=aD E ro (LZ ()) a u Z:=rfl
theorem Ia:aD E ro Aib a u Z=aD E ro (H_ ()) a u Z:=rfl
theorem KH:aD E ro Aic a u Z=aD E ro (JJ ()) a u Z:=rfl
theorem KI:bM E ro last Aid cl a u Z=bM E ro last (JK ()) cl a u Z:=rfl
theorem Ad1:bM E ro last Aie cl a u Z=bM E ro last (Rn ()) cl a u Z:=rfl
theorem Pt:aD E ro Aif a u Z=aD E ro (L5 ()) a u Z:=rfl
theorem Ad2:aD E ro Aig a u Z=aD E ro (Ro ()) a u Z:=rfl
theorem Pu:bM E ro last Aih cl a u Z=bM E ro last (L6 ()) cl a u Z:=rfl
theorem Ng:bM E ro last AbM cl a u Z=bM E ro last (JI ()) cl a u Z:=rfl
theorem Yt:aD E ro AbN a u Z=aD E ro (Nh ()) a u Z:=rfl
theorem Yu:aD E ro AbO a u Z=aD E ro (Ni ()) a u Z:=rfl
theorem AoA(E:Env)(ro:Option Nat)(fn:FuncId):code Tryz.prog nls (Tryz.f137.body.getD .skip) E ro fn=NL E ro fn:=by kernel_rfl
theorem MA(E:Env)(args:List Value)(u:Option FrameMode)(Z:aC)(hn:args.length<=(8:Nat)):bA Tryz.prog nls E 137 args u Z=aN Tryz.prog E [] (NL E none 137 ⟨aY undef 8 args,fun _=>undef,8,80,[]⟩ u Z):=by
 rw[Am (body:=Tryz.f137.body.getD .skip) Tryz.func137 rfl E args u Z 8 80 (by kernel_rfl) rfl ⟨hn,by decide⟩,AoA]
 rfl
def Rp(_:Unit):List COp:=[⟨fun a Z=>fbox 135 (a.get 0) Z,some 2,tT⟩,
 ⟨fun a Z=>fbox 24 (a.get 1) Z,some 3,tT⟩,
 ⟨fun a Z=>.val (.slice none 0 0) Z,some 4,tT⟩]
def Aii:List COp:=Rp ()
def Rq(_:Unit):List COp:=[⟨fun a Z=>aH 0 (a.get 2) Z,some 5,tT⟩,
 ⟨fun a Z=>aG none (a.get 5) Z,some 6,tT⟩,
 ⟨fun a Z=>aH 3 (a.get 3) Z,some 7,tT⟩,
 ⟨fun a Z=>aG none (a.get 7) Z,some 8,tT⟩,
 ⟨fun a Z=>fcallV (a.get 6) [(a.get 8)] Z,some 9,tT⟩,
 ⟨fun a Z=>fun1 Tryz.prog (Op.unary .not) (a.get 9) Z,some 10,tT⟩]
def Aij:List COp:=Rq ()
def Ap5(_:Unit):List COp:=[⟨fun a Z=>.val (.slice none 0 0) Z,some 4,tT⟩]
def Awm:List COp:=Ap5 ()
def Rs(_:Unit):List COp:=[⟨fun a Z=>aH 3 (a.get 3) Z,some 11,tT⟩,
 ⟨fun a Z=>aG none (a.get 11) Z,some 12,tT⟩,
 ⟨fun a Z=>.val (a.get 12) Z,some 4,tT⟩]
def Aik:List COp:=Rs ()
def Aay(E:Env)(ro:Option Nat)(fn:FuncId):aZ:=(aF (aD E ro Aii) (aF (aF (aD E ro Aij) (aL (fun a=>(a.get 10)) (aF (aD E ro Awm) bO) aQ)) (aF (aD E ro Aik) bO)))
theorem Ad3:aD E ro Aii a u Z=aD E ro (Rp ()) a u Z:=rfl
theorem Ad4:aD E ro Aij a u Z=aD E ro (Rq ()) a u Z:=rfl
theorem Ad5:aD E ro Aik a u Z=aD E ro (Rs ()) a u Z:=rfl
theorem AoB(E:Env)(ro:Option Nat)(fn:FuncId):code Tryz.prog nls (Tryz.f138.body.getD .skip) E ro fn=Aay E ro fn:=by kernel_rfl
theorem AfL(E:Env)(args:List Value)(u:Option FrameMode)(Z:aC)(hn:args.length<=(4:Nat)):bA Tryz.prog nls E 138 args u Z=aN Tryz.prog E [.tmp 4] (Aay E none 138 ⟨aY undef 4 args,fun _=>undef,4,13,[]⟩ u Z):=by
 rw[Am (body:=Tryz.f138.body.getD .skip) Tryz.func138 rfl E args u Z 4 13 (by kernel_rfl) rfl ⟨hn,by decide⟩,AoB]
 rfl
def DZ(_:Unit):List COp:=[⟨fun a Z=>fbox 24 (a.get 0) Z,some 1,tT⟩]
def AgO:List COp:=DZ ()
def D0(_:Unit):List COp:=[⟨fun a Z=>aG (some 4) (a.get 1) Z,some 5,tT⟩,
 ⟨fun a Z=>.enter 117 [(a.get 5)] Z,some 6,tT⟩,
 ⟨fun a Z=>.val (a.get 6) Z,some 2,tT⟩]
def AgP:List COp:=D0 ()
def D2(_:Unit):List COp:=[⟨fun a Z=>.val (a.get 2) Z,some 7,tT⟩,
 ⟨fun a Z=>finvoke Tryz.prog (a.get 7) "caracole/datum.formed" [] Z,some 8,tT⟩,
 ⟨fun a Z=>fun1 Tryz.prog (Op.unary .not) (a.get 8) Z,some 9,tT⟩]
def AgQ:List COp:=D2 ()
def Fs(_:Unit):List COp:=[⟨fun a Z=>.enter 124 [(.int .i64 1)] Z,some 10,tT⟩]
def AgR:List COp:=Fs ()
def EA(_:Unit):List COp:=[⟨fun a Z=>.val (a.get 2) Z,some 11,tT⟩]
def AgS:List COp:=EA ()
def EB(_:Unit):List COp:=[⟨fun a Z=>fassert Tryz.prog (a.get 11) 177 true Z,some 12,tT⟩,
 ⟨fun a Z=>aJ 1 (a.get 12) Z,some 13,tT⟩,
 ⟨fun a Z=>aJ 0 (a.get 12) Z,some 14,tT⟩]
def AgT:List COp:=EB ()
def HU(_:Unit):List COp:=[⟨fun a Z=>aP [(.int .i64 0),(.int .i64 0),(.string ⟨#[]⟩),(.slice none 0 0)] 177 none Z,some 3,tT⟩,
 ⟨fun a Z=>aK 4 (a.get 3) (a.get 14) Z,none,tT⟩]
def AgU:List COp:=HU ()
def HW(_:Unit):List COp:=[⟨fun a Z=>aG (some 4) (a.get 3) Z,some 15,tT⟩,
 ⟨fun a Z=>.enter 139 [(a.get 15)] Z,some 16,tT⟩]
def AgV:List COp:=HW ()
def Ft(_:Unit):List COp:=[⟨fun a Z=>fassert Tryz.prog (a.get 11) 145 true Z,some 17,tT⟩,
 ⟨fun a Z=>aJ 1 (a.get 17) Z,some 18,tT⟩,
 ⟨fun a Z=>aJ 0 (a.get 17) Z,some 19,tT⟩]
def AgW:List COp:=Ft ()
def HY(_:Unit):List COp:=[⟨fun a Z=>aP [(.int .i64 0),(.int .i64 0),(.string ⟨#[]⟩),(.slice none 0 0)] 145 none Z,some 4,tT⟩,
 ⟨fun a Z=>aK 4 (a.get 4) (a.get 19) Z,none,tT⟩]
def AgX:List COp:=HY ()
def Gn(_:Unit):List COp:=[⟨fun a Z=>aG (some 4) (a.get 4) Z,some 20,tT⟩,
 ⟨fun a Z=>.enter 140 [(a.get 20)] Z,some 21,tT⟩]
def Abu:List COp:=Gn ()
def Ty(E:Env)(ro:Option Nat)(fn:FuncId):aZ:=(aF (aD E ro AgO) (aF (aD E ro AgP) (aF (aF (aD E ro AgQ) (aL (fun a=>(a.get 9)) (aD E ro AgR) aQ)) (aF (aD E ro AgS) (aR 0 (aF (aD E ro AgT) (aL (fun a=>(a.get 13)) (aF (aD E ro AgU) (aD E ro AgV)) (aF (aD E ro AgW) (aL (fun a=>(a.get 18)) (aF (aD E ro AgX) (aD E ro Abu)) aQ)))))))))
theorem Dg:aD E ro AgO a u Z=aD E ro (DZ ()) a u Z:=rfl
theorem Dh:aD E ro AgP a u Z=aD E ro (D0 ()) a u Z:=rfl
theorem Dj:aD E ro AgQ a u Z=aD E ro (D2 ()) a u Z:=rfl
theorem E3:aD E ro AgR a u Z=aD E ro (Fs ()) a u Z:=rfl
theorem Eh:aD E ro AgS a u Z=aD E ro (EA ()) a u Z:=rfl
theorem Ei:aD E ro AgT a u Z=aD E ro (EB ()) a u Z:=rfl
theorem HV:aD E ro AgU a u Z=aD E ro (HU ()) a u Z:=rfl
theorem HX:aD E ro AgV a u Z=aD E ro (HW ()) a u Z:=rfl
theorem E4:aD E ro AgW a u Z=aD E ro (Ft ()) a u Z:=rfl
theorem HZ:aD E ro AgX a u Z=aD E ro (HY ()) a u Z:=rfl
theorem GV:aD E ro Abu a u Z=aD E ro (Gn ()) a u Z:=rfl
theorem Aon(E:Env)(ro:Option Nat)(fn:FuncId):code Tryz.prog nls (Tryz.f112.body.getD .skip) E ro fn=Ty E ro fn:=by kernel_rfl
theorem UB(E:Env)(args:List Value)(u:Option FrameMode)(Z:aC)(hn:args.length<=(5:Nat)):bA Tryz.prog nls E 112 args u Z=aN Tryz.prog E [] (Ty E none 112 ⟨aY undef 5 args,fun _=>undef,5,22,[]⟩ u Z):=by
 rw[Am (body:=Tryz.f112.body.getD .skip) Tryz.func112 rfl E args u Z 5 22 (by kernel_rfl) rfl ⟨hn,by decide⟩,Aon]
 rfl
def Fb(_:Unit):List COp:=[⟨fun a Z=>fbox 24 (a.get 0) Z,some 1,tT⟩,
 ⟨fun a Z=>.val .nilIface Z,some 2,tT⟩]
def Aha:List COp:=Fb ()
def Fc(_:Unit):List COp:=[⟨fun a Z=>aH 0 (a.get 1) Z,some 3,tT⟩,
 ⟨fun a Z=>aG none (a.get 3) Z,some 4,tT⟩]
def Ahb:List COp:=Fc ()
def Fe(_:Unit):List COp:=[⟨fun a Z=>bJ Tryz.prog 3 (.tmp 4) (.const (.int .i64 0)) (a.get 4) (.int .i64 0) Z,some 6,tT⟩,
 ⟨fun a Z=>.val (a.get 6) Z,some 5,tT⟩]
def Ahd:List COp:=Fe ()
def QY(_:Unit):List COp:=[⟨fun a Z=>aG (some 4) (a.get 1) Z,some 7,tT⟩,
 ⟨fun a Z=>fbuild (fun i=>nth [(0,4)] i) [(.int .i64 0),(.int .i64 0),(.string ⟨#[]⟩),(.slice none 0 0)] [(0,(a.get 7))] Z,some 8,tT⟩,
 ⟨fun a Z=>.val (.iface 180 (a.get 8)) Z,some 9,tT⟩,
 ⟨fun a Z=>.val (a.get 9) Z,some 2,tT⟩]
def Ahe:List COp:=QY ()
def Fu(_:Unit):List COp:=[⟨fun a Z=>bJ Tryz.prog 3 (.tmp 4) (.const (.int .i64 1)) (a.get 4) (.int .i64 1) Z,some 11,tT⟩,
 ⟨fun a Z=>.val (a.get 11) Z,some 10,tT⟩]
def Ahf:List COp:=Fu ()
def FY(_:Unit):List COp:=[⟨fun a Z=>bJ Tryz.prog 3 (.tmp 4) (.const (.int .i64 2)) (a.get 4) (.int .i64 2) Z,some 12,tT⟩,
 ⟨fun a Z=>.val (a.get 12) Z,some 10,tT⟩]
def Ahg:List COp:=FY ()
def LN(_:Unit):List COp:=[⟨fun a Z=>aG (some 4) (a.get 1) Z,some 13,tT⟩,
 ⟨fun a Z=>fbuild (fun i=>nth [(0,4)] i) [(.int .i64 0),(.int .i64 0),(.string ⟨#[]⟩),(.slice none 0 0)] [(0,(a.get 13))] Z,some 14,tT⟩,
 ⟨fun a Z=>.val (.iface 177 (a.get 14)) Z,some 15,tT⟩,
 ⟨fun a Z=>.val (a.get 15) Z,some 2,tT⟩]
def Ahh:List COp:=LN ()
def GW(_:Unit):List COp:=[⟨fun a Z=>bJ Tryz.prog 3 (.tmp 4) (.const (.int .i64 3)) (a.get 4) (.int .i64 3) Z,some 17,tT⟩,
 ⟨fun a Z=>.val (a.get 17) Z,some 16,tT⟩]
def Ahi:List COp:=GW ()
def H0(_:Unit):List COp:=[⟨fun a Z=>bJ Tryz.prog 3 (.tmp 4) (.const (.int .i64 4)) (a.get 4) (.int .i64 4) Z,some 18,tT⟩,
 ⟨fun a Z=>.val (a.get 18) Z,some 16,tT⟩]
def Ahj:List COp:=H0 ()
def LO(_:Unit):List COp:=[⟨fun a Z=>aG (some 4) (a.get 1) Z,some 19,tT⟩,
 ⟨fun a Z=>fbuild (fun i=>nth [(0,4)] i) [(.int .i64 0),(.int .i64 0),(.string ⟨#[]⟩),(.slice none 0 0)] [(0,(a.get 19))] Z,some 20,tT⟩,
 ⟨fun a Z=>.val (.iface 145 (a.get 20)) Z,some 21,tT⟩,
 ⟨fun a Z=>.val (a.get 21) Z,some 2,tT⟩]
def Ahk:List COp:=LO ()
def HA(_:Unit):List COp:=[⟨fun a Z=>bJ Tryz.prog 3 (.tmp 4) (.const (.int .i64 5)) (a.get 4) (.int .i64 5) Z,some 23,tT⟩,
 ⟨fun a Z=>.val (a.get 23) Z,some 22,tT⟩]
def Abv:List COp:=HA ()
def JF(_:Unit):List COp:=[⟨fun a Z=>bJ Tryz.prog 3 (.tmp 4) (.const (.int .i64 6)) (a.get 4) (.int .i64 6) Z,some 24,tT⟩,
 ⟨fun a Z=>.val (a.get 24) Z,some 22,tT⟩]
def Abw:List COp:=JF ()
def JG(_:Unit):List COp:=[⟨fun a Z=>aG (some 4) (a.get 1) Z,some 25,tT⟩,
 ⟨fun a Z=>fbuild (fun i=>nth [(0,4)] i) [(.int .i64 0),(.int .i64 0),(.string ⟨#[]⟩),(.slice none 0 0)] [(0,(a.get 25))] Z,some 26,tT⟩,
 ⟨fun a Z=>.val (.iface 181 (a.get 26)) Z,some 27,tT⟩,
 ⟨fun a Z=>.val (a.get 27) Z,some 2,tT⟩]
def Abx:List COp:=JG ()
def Nd(_:Unit):List COp:=[⟨fun a Z=>.enter 124 [(.int .i64 4)] Z,some 28,tT⟩]
def Aby:List COp:=Nd ()
def Ahc(_:Unit):List COp:=[⟨fun a Z=>.val .nilIface Z,some 2,tT⟩]
def Ap1:List COp:=Ahc ()
def TA(E:Env)(ro:Option Nat)(fn:FuncId):aZ:=(aF (aD E ro Aha) (aF (aF (aD E ro Ahb) (aR 0 (aF (aD E ro Ahd) (aL (fun a=>(a.get 5)) (aF (aD E ro Ahe) bO) (aF (aF (aD E ro Ahf) (aL (fun a=>(a.get 10)) aQ (aD E ro Ahg))) (aL (fun a=>(a.get 10)) (aF (aD E ro Ahh) bO) (aF (aF (aD E ro Ahi) (aL (fun a=>(a.get 16)) aQ (aD E ro Ahj))) (aL (fun a=>(a.get 16)) (aF (aD E ro Ahk) bO) (aF (aF (aD E ro Abv) (aL (fun a=>(a.get 22)) aQ (aD E ro Abw))) (aL (fun a=>(a.get 22)) (aF (aD E ro Abx) bO) aQ)))))))))) (aF (aD E ro Aby) (aF (aD E ro Ap1) bO))))
theorem EO:aD E ro Aha a u Z=aD E ro (Fb ()) a u Z:=rfl
theorem EP:aD E ro Ahb a u Z=aD E ro (Fc ()) a u Z:=rfl
theorem EQ:aD E ro Ahd a u Z=aD E ro (Fe ()) a u Z:=rfl
theorem AdG:aD E ro Ahe a u Z=aD E ro (QY ()) a u Z:=rfl
theorem E5:aD E ro Ahf a u Z=aD E ro (Fu ()) a u Z:=rfl
theorem FB:aD E ro Ahg a u Z=aD E ro (FY ()) a u Z:=rfl
theorem Pg:aD E ro Ahh a u Z=aD E ro (LN ()) a u Z:=rfl
theorem Gp:aD E ro Ahi a u Z=aD E ro (GW ()) a u Z:=rfl
theorem H3:aD E ro Ahj a u Z=aD E ro (H0 ()) a u Z:=rfl
theorem Ph:aD E ro Ahk a u Z=aD E ro (LO ()) a u Z:=rfl
theorem I3:aD E ro Abv a u Z=aD E ro (HA ()) a u Z:=rfl
theorem Nb:aD E ro Abw a u Z=aD E ro (JF ()) a u Z:=rfl
theorem Nc:aD E ro Abx a u Z=aD E ro (JG ()) a u Z:=rfl
theorem Yn:aD E ro Aby a u Z=aD E ro (Nd ()) a u Z:=rfl
theorem Aos(E:Env)(ro:Option Nat)(fn:FuncId):code Tryz.prog nls (Tryz.f117.body.getD .skip) E ro fn=TA E ro fn:=by kernel_rfl
theorem UD(E:Env)(args:List Value)(u:Option FrameMode)(Z:aC)(hn:args.length<=(2:Nat)):bA Tryz.prog nls E 117 args u Z=aN Tryz.prog E [.tmp 2] (TA E none 117 ⟨aY undef 2 args,fun _=>undef,2,29,[]⟩ u Z):=by
 rw[Am (body:=Tryz.f117.body.getD .skip) Tryz.func117 rfl E args u Z 2 29 (by kernel_rfl) rfl ⟨hn,by decide⟩,Aos]
 rfl
def QQ(_:Unit):List COp:=[⟨fun a Z=>fbox 24 (a.get 0) Z,some 1,tT⟩,
 ⟨fun a Z=>.val .nilFunc Z,some 2,tT⟩]
def AgY:List COp:=QQ ()
def QR(_:Unit):List COp:=[⟨fun a Z=>fbuild (fun i=>nth [(0,1)] i) [.nilFunc] [(0,(.func (.func 141) #[] #[]))] Z,some 3,tT⟩,
 ⟨fun a Z=>aG (some 4) (a.get 1) Z,some 4,tT⟩,
 ⟨fun a Z=>.enter 111 [(a.get 3),(a.get 4)] Z,some 5,tT⟩,
 ⟨fun a Z=>.val (a.get 5) Z,some 2,tT⟩]
def AgZ:List COp:=QR ()
def Aar(E:Env)(ro:Option Nat)(fn:FuncId):aZ:=(aF (aD E ro AgY) (aF (aD E ro AgZ) bO))
theorem Ady:aD E ro AgY a u Z=aD E ro (QQ ()) a u Z:=rfl
theorem Adz:aD E ro AgZ a u Z=aD E ro (QR ()) a u Z:=rfl
theorem Aoo(E:Env)(ro:Option Nat)(fn:FuncId):code Tryz.prog nls (Tryz.f113.body.getD .skip) E ro fn=Aar E ro fn:=by kernel_rfl
theorem AfE(E:Env)(args:List Value)(u:Option FrameMode)(Z:aC)(hn:args.length<=(2:Nat)):bA Tryz.prog nls E 113 args u Z=aN Tryz.prog E [.tmp 2] (Aar E none 113 ⟨aY undef 2 args,fun _=>undef,2,6,[]⟩ u Z):=by
 rw[Am (body:=Tryz.f113.body.getD .skip) Tryz.func113 rfl E args u Z 2 6 (by kernel_rfl) rfl ⟨hn,by decide⟩,Aoo]
 rfl
def Rv(_:Unit):List COp:=[⟨fun a Z=>.val (.bool false) Z,some 2,tT⟩]
def Aiy:List COp:=Rv ()
def Rw(_:Unit):List COp:=[⟨fun a Z=>.val (.bool true) Z,some 2,tT⟩]
def Aiz:List COp:=Rw ()
def Aaz(E:Env)(ro:Option Nat)(fn:FuncId):aZ:=(aF (aD E ro Aiy) (aF (aD E ro Aiz) bO))
theorem Ad6:aD E ro Aiy a u Z=aD E ro (Rv ()) a u Z:=rfl
theorem Ad7:aD E ro Aiz a u Z=aD E ro (Rw ()) a u Z:=rfl
theorem AoE(E:Env)(ro:Option Nat)(fn:FuncId):code Tryz.prog nls (Tryz.f141.body.getD .skip) E ro fn=Aaz E ro fn:=by kernel_rfl
theorem AfM(E:Env)(args:List Value)(u:Option FrameMode)(Z:aC)(hn:args.length<=(1:Nat)):bA Tryz.prog nls E 141 args u Z=aN Tryz.prog E [.tmp 2] (Aaz E none 141 ⟨aY undef 1 args,fun _=>undef,1,3,[]⟩ u Z):=by
 rw[Am (body:=Tryz.f141.body.getD .skip) Tryz.func141 rfl E args u Z 1 3 (by kernel_rfl) rfl ⟨hn,by decide⟩,AoE]
 rfl
def FZ(_:Unit):List COp:=[⟨fun a Z=>fbox 177 (a.get 0) Z,some 1,tT⟩]
def Ail:List COp:=FZ ()
def F2(_:Unit):List COp:=[⟨fun a Z=>.val (.int .i64 (-999999999)) Z,some 2,tT⟩,
 ⟨fun a Z=>.val (.int .i64 999999999) Z,some 3,tT⟩]
def Aim:List COp:=F2 ()
def F3(_:Unit):List COp:=[⟨fun a Z=>aH 0 (a.get 1) Z,some 4,tT⟩,
 ⟨fun a Z=>aH 0 (a.get 4) Z,some 5,tT⟩,
 ⟨fun a Z=>aG none (a.get 5) Z,some 6,tT⟩,
 ⟨fun a Z=>bJ Tryz.prog 3 (.tmp 6) (.const (.int .i64 1)) (a.get 6) (.int .i64 1) Z,some 7,tT⟩]
def Ain:List COp:=F3 ()
def G1(_:Unit):List COp:=[⟨fun a Z=>.val (.int .i64 0) Z,some 2,tT⟩,
 ⟨fun a Z=>.val (.int .i64 1) Z,some 3,tT⟩]
def Aio:List COp:=G1 ()
def F4(_:Unit):List COp:=[⟨fun a Z=>aH 0 (a.get 1) Z,some 8,tT⟩,
 ⟨fun a Z=>aH 1 (a.get 8) Z,some 9,tT⟩,
 ⟨fun a Z=>aG none (a.get 9) Z,some 10,tT⟩,
 ⟨fun a Z=>.val (a.get 2) Z,some 11,tT⟩,
 ⟨fun a Z=>i_lss Tryz.prog 3 (.tmp 10) (.tmp 11) (a.get 10) (a.get 11) Z,some 12,tT⟩,
 ⟨fun a Z=>.val (a.get 12) Z,some 13,tT⟩,
 ⟨fun a Z=>aH 0 (a.get 1) Z,some 14,fun a=>gd (a.get 13) false⟩,
 ⟨fun a Z=>aH 1 (a.get 14) Z,some 15,fun a=>gd (a.get 13) false⟩,
 ⟨fun a Z=>aG none (a.get 15) Z,some 16,fun a=>gd (a.get 13) false⟩,
 ⟨fun a Z=>.val (a.get 3) Z,some 17,fun a=>gd (a.get 13) false⟩,
 ⟨fun a Z=>i_gtr Tryz.prog 3 (.tmp 16) (.tmp 17) (a.get 16) (a.get 17) Z,some 18,fun a=>gd (a.get 13) false⟩,
 ⟨fun a Z=>bG (a.get 13) (.bool true) (a.get 18) Z,some 19,tT⟩]
def Aip:List COp:=F4 ()
def Ib(_:Unit):List COp:=[⟨fun a Z=>.enter 124 [(.int .i64 13)] Z,some 20,tT⟩]
def Aiq:List COp:=Ib ()
def NM(E:Env)(ro:Option Nat)(fn:FuncId):aZ:=(aF (aD E ro Ail) (aF (aD E ro Aim) (aF (aF (aD E ro Ain) (aL (fun a=>(a.get 7)) (aD E ro Aio) aQ)) (aF (aD E ro Aip) (aL (fun a=>(a.get 19)) (aD E ro Aiq) aQ)))))
theorem FC:aD E ro Ail a u Z=aD E ro (FZ ()) a u Z:=rfl
theorem FD:aD E ro Aim a u Z=aD E ro (F2 ()) a u Z:=rfl
theorem FE:aD E ro Ain a u Z=aD E ro (F3 ()) a u Z:=rfl
theorem Gu:aD E ro Aio a u Z=aD E ro (G1 ()) a u Z:=rfl
theorem FF:aD E ro Aip a u Z=aD E ro (F4 ()) a u Z:=rfl
theorem Ic:aD E ro Aiq a u Z=aD E ro (Ib ()) a u Z:=rfl
theorem AoC(E:Env)(ro:Option Nat)(fn:FuncId):code Tryz.prog nls (Tryz.f139.body.getD .skip) E ro fn=NM E ro fn:=by kernel_rfl
theorem MB(E:Env)(args:List Value)(u:Option FrameMode)(Z:aC)(hn:args.length<=(4:Nat)):bA Tryz.prog nls E 139 args u Z=aN Tryz.prog E [] (NM E none 139 ⟨aY undef 4 args,fun _=>undef,4,21,[]⟩ u Z):=by
 rw[Am (body:=Tryz.f139.body.getD .skip) Tryz.func139 rfl E args u Z 4 21 (by kernel_rfl) rfl ⟨hn,by decide⟩,AoC]
 rfl
def G3(_:Unit):List COp:=[⟨fun a Z=>fbox 145 (a.get 0) Z,some 1,tT⟩]
def Air:List COp:=G3 ()
def G5(_:Unit):List COp:=[⟨fun a Z=>aH 0 (a.get 1) Z,some 3,tT⟩,
 ⟨fun a Z=>aH 0 (a.get 3) Z,some 4,tT⟩,
 ⟨fun a Z=>aG none (a.get 4) Z,some 5,tT⟩,
 ⟨fun a Z=>bJ Tryz.prog 3 (.tmp 5) (.const (.int .i64 3)) (a.get 5) (.int .i64 3) Z,some 6,tT⟩,
 ⟨fun a Z=>.val (a.get 6) Z,some 7,tT⟩,
 ⟨fun a Z=>aH 0 (a.get 1) Z,some 8,fun a=>gd (a.get 7) true⟩,
 ⟨fun a Z=>aH 2 (a.get 8) Z,some 9,fun a=>gd (a.get 7) true⟩,
 ⟨fun a Z=>aG none (a.get 9) Z,some 10,fun a=>gd (a.get 7) true⟩,
 ⟨fun a Z=>.enter 158 [(a.get 10)] Z,some 11,fun a=>gd (a.get 7) true⟩,
 ⟨fun a Z=>fun1 Tryz.prog (Op.unary .not) (a.get 11) Z,some 12,fun a=>gd (a.get 7) true⟩,
 ⟨fun a Z=>bG (a.get 7) (a.get 12) (.bool false) Z,some 13,tT⟩,
 ⟨fun a Z=>.val (a.get 13) Z,some 2,tT⟩]
def Ais:List COp:=G5 ()
def JL(_:Unit):List COp:=[⟨fun a Z=>.enter 124 [(.int .i64 2)] Z,some 14,tT⟩]
def Ait:List COp:=JL ()
def G6(_:Unit):List COp:=[⟨fun a Z=>aH 0 (a.get 1) Z,some 16,tT⟩,
 ⟨fun a Z=>aH 0 (a.get 16) Z,some 17,tT⟩,
 ⟨fun a Z=>aG none (a.get 17) Z,some 18,tT⟩,
 ⟨fun a Z=>bJ Tryz.prog 3 (.tmp 18) (.const (.int .i64 4)) (a.get 18) (.int .i64 4) Z,some 19,tT⟩,
 ⟨fun a Z=>.val (a.get 19) Z,some 20,tT⟩,
 ⟨fun a Z=>aH 0 (a.get 1) Z,some 21,fun a=>gd (a.get 20) true⟩,
 ⟨fun a Z=>aH 2 (a.get 21) Z,some 22,fun a=>gd (a.get 20) true⟩,
 ⟨fun a Z=>aG none (a.get 22) Z,some 23,fun a=>gd (a.get 20) true⟩,
 ⟨fun a Z=>flenS (a.get 23) Z,some 24,fun a=>gd (a.get 20) true⟩,
 ⟨fun a Z=>i_gtr Tryz.prog 3 (.tmp 24) (.const (.int .i64 60)) (a.get 24) (.int .i64 60) Z,some 25,fun a=>gd (a.get 20) true⟩,
 ⟨fun a Z=>bG (a.get 20) (a.get 25) (.bool false) Z,some 26,tT⟩,
 ⟨fun a Z=>.val (a.get 26) Z,some 15,tT⟩]
def Aiu:List COp:=G6 ()
def JM(_:Unit):List COp:=[⟨fun a Z=>.enter 124 [(.int .i64 8)] Z,some 27,tT⟩]
def Aiv:List COp:=JM ()
def G7(_:Unit):List COp:=[⟨fun a Z=>aH 0 (a.get 1) Z,some 29,tT⟩,
 ⟨fun a Z=>aH 0 (a.get 29) Z,some 30,tT⟩,
 ⟨fun a Z=>aG none (a.get 30) Z,some 31,tT⟩,
 ⟨fun a Z=>bJ Tryz.prog 3 (.tmp 31) (.const (.int .i64 4)) (a.get 31) (.int .i64 4) Z,some 32,tT⟩,
 ⟨fun a Z=>.val (a.get 32) Z,some 33,tT⟩,
 ⟨fun a Z=>aH 0 (a.get 1) Z,some 34,fun a=>gd (a.get 33) true⟩,
 ⟨fun a Z=>aH 2 (a.get 34) Z,some 35,fun a=>gd (a.get 33) true⟩,
 ⟨fun a Z=>aG none (a.get 35) Z,some 36,fun a=>gd (a.get 33) true⟩,
 ⟨fun a Z=>.enter 159 [(a.get 36)] Z,some 37,fun a=>gd (a.get 33) true⟩,
 ⟨fun a Z=>fun1 Tryz.prog (Op.unary .not) (a.get 37) Z,some 38,fun a=>gd (a.get 33) true⟩,
 ⟨fun a Z=>bG (a.get 33) (a.get 38) (.bool false) Z,some 39,tT⟩,
 ⟨fun a Z=>.val (a.get 39) Z,some 28,tT⟩]
def Aiw:List COp:=G7 ()
def JN(_:Unit):List COp:=[⟨fun a Z=>.enter 124 [(.int .i64 13)] Z,some 40,tT⟩]
def Aix:List COp:=JN ()
def NN(E:Env)(ro:Option Nat)(fn:FuncId):aZ:=(aF (aD E ro Air) (aR 0 (aF (aD E ro Ais) (aL (fun a=>(a.get 2)) (aD E ro Ait) (aF (aD E ro Aiu) (aL (fun a=>(a.get 15)) (aD E ro Aiv) (aF (aD E ro Aiw) (aL (fun a=>(a.get 28)) (aD E ro Aix) aQ))))))))
theorem Gv:aD E ro Air a u Z=aD E ro (G3 ()) a u Z:=rfl
theorem Gw:aD E ro Ais a u Z=aD E ro (G5 ()) a u Z:=rfl
theorem KJ:aD E ro Ait a u Z=aD E ro (JL ()) a u Z:=rfl
theorem Gx:aD E ro Aiu a u Z=aD E ro (G6 ()) a u Z:=rfl
theorem KK:aD E ro Aiv a u Z=aD E ro (JM ()) a u Z:=rfl
theorem Gy:aD E ro Aiw a u Z=aD E ro (G7 ()) a u Z:=rfl
theorem KL:aD E ro Aix a u Z=aD E ro (JN ()) a u Z:=rfl
theorem AoD(E:Env)(ro:Option Nat)(fn:FuncId):code Tryz.prog nls (Tryz.f140.body.getD .skip) E ro fn=NN E ro fn:=by kernel_rfl
theorem MC(E:Env)(args:List Value)(u:Option FrameMode)(Z:aC)(hn:args.length<=(2:Nat)):bA Tryz.prog nls E 140 args u Z=aN Tryz.prog E [] (NN E none 140 ⟨aY undef 2 args,fun _=>undef,2,41,[]⟩ u Z):=by
 rw[Am (body:=Tryz.f140.body.getD .skip) Tryz.func140 rfl E args u Z 2 41 (by kernel_rfl) rfl ⟨hn,by decide⟩,AoD]
 rfl
def JV(_:Unit):List COp:=[⟨fun a Z=>fbox 145 (a.get 0) Z,some 1,tT⟩,
 ⟨fun a Z=>.val (.bool false) Z,some 2,tT⟩]
def AkZ:List COp:=JV ()
def JW(_:Unit):List COp:=[⟨fun a Z=>aH 0 (a.get 1) Z,some 3,tT⟩,
 ⟨fun a Z=>aH 1 (a.get 3) Z,some 4,tT⟩,
 ⟨fun a Z=>aG none (a.get 4) Z,some 5,tT⟩,
 ⟨fun a Z=>bJ Tryz.prog 3 (.tmp 5) (.const (.int .i64 0)) (a.get 5) (.int .i64 0) Z,some 6,tT⟩,
 ⟨fun a Z=>.val (a.get 6) Z,some 7,tT⟩,
 ⟨fun a Z=>aH 0 (a.get 1) Z,some 8,fun a=>gd (a.get 7) true⟩,
 ⟨fun a Z=>aH 3 (a.get 8) Z,some 9,fun a=>gd (a.get 7) true⟩,
 ⟨fun a Z=>aG none (a.get 9) Z,some 10,fun a=>gd (a.get 7) true⟩,
 ⟨fun a Z=>flenL (a.get 10) Z,some 11,fun a=>gd (a.get 7) true⟩,
 ⟨fun a Z=>bJ Tryz.prog 3 (.tmp 11) (.const (.int .i64 0)) (a.get 11) (.int .i64 0) Z,some 12,fun a=>gd (a.get 7) true⟩,
 ⟨fun a Z=>bG (a.get 7) (a.get 12) (.bool false) Z,some 13,tT⟩,
 ⟨fun a Z=>.val (a.get 13) Z,some 2,tT⟩]
def Ak0:List COp:=JW ()
def TJ(E:Env)(ro:Option Nat)(fn:FuncId):aZ:=(aF (aD E ro AkZ) (aF (aD E ro Ak0) bO))
theorem KS:aD E ro AkZ a u Z=aD E ro (JV ()) a u Z:=rfl
theorem KT:aD E ro Ak0 a u Z=aD E ro (JW ()) a u Z:=rfl
theorem AoT(E:Env)(ro:Option Nat)(fn:FuncId):code Tryz.prog nls (Tryz.f213.body.getD .skip) E ro fn=TJ E ro fn:=by kernel_rfl
theorem UK(E:Env)(args:List Value)(u:Option FrameMode)(Z:aC)(hn:args.length<=(2:Nat)):bA Tryz.prog nls E 213 args u Z=aN Tryz.prog E [.tmp 2] (TJ E none 213 ⟨aY undef 2 args,fun _=>undef,2,14,[]⟩ u Z):=by
 rw[Am (body:=Tryz.f213.body.getD .skip) Tryz.func213 rfl E args u Z 2 14 (by kernel_rfl) rfl ⟨hn,by decide⟩,AoT]
 rfl
def JX(_:Unit):List COp:=[⟨fun a Z=>fbox 177 (a.get 0) Z,some 1,tT⟩,
 ⟨fun a Z=>.val (.bool false) Z,some 2,tT⟩]
def Ak1:List COp:=JX ()
def JY(_:Unit):List COp:=[⟨fun a Z=>aH 0 (a.get 1) Z,some 3,tT⟩,
 ⟨fun a Z=>aH 2 (a.get 3) Z,some 4,tT⟩,
 ⟨fun a Z=>aG none (a.get 4) Z,some 5,tT⟩,
 ⟨fun a Z=>bJ Tryz.prog 9 (.tmp 5) (.const (.string ⟨#[]⟩)) (a.get 5) (.string ⟨#[]⟩) Z,some 6,tT⟩,
 ⟨fun a Z=>.val (a.get 6) Z,some 7,tT⟩,
 ⟨fun a Z=>aH 0 (a.get 1) Z,some 8,fun a=>gd (a.get 7) true⟩,
 ⟨fun a Z=>aH 3 (a.get 8) Z,some 9,fun a=>gd (a.get 7) true⟩,
 ⟨fun a Z=>aG none (a.get 9) Z,some 10,fun a=>gd (a.get 7) true⟩,
 ⟨fun a Z=>flenL (a.get 10) Z,some 11,fun a=>gd (a.get 7) true⟩,
 ⟨fun a Z=>bJ Tryz.prog 3 (.tmp 11) (.const (.int .i64 0)) (a.get 11) (.int .i64 0) Z,some 12,fun a=>gd (a.get 7) true⟩,
 ⟨fun a Z=>bG (a.get 7) (a.get 12) (.bool false) Z,some 13,tT⟩,
 ⟨fun a Z=>.val (a.get 13) Z,some 2,tT⟩]
def Ak2:List COp:=JY ()
def TK(E:Env)(ro:Option Nat)(fn:FuncId):aZ:=(aF (aD E ro Ak1) (aF (aD E ro Ak2) bO))
theorem KU:aD E ro Ak1 a u Z=aD E ro (JX ()) a u Z:=rfl
theorem KV:aD E ro Ak2 a u Z=aD E ro (JY ()) a u Z:=rfl
theorem AoU(E:Env)(ro:Option Nat)(fn:FuncId):code Tryz.prog nls (Tryz.f219.body.getD .skip) E ro fn=TK E ro fn:=by kernel_rfl
theorem UL(E:Env)(args:List Value)(u:Option FrameMode)(Z:aC)(hn:args.length<=(2:Nat)):bA Tryz.prog nls E 219 args u Z=aN Tryz.prog E [.tmp 2] (TK E none 219 ⟨aY undef 2 args,fun _=>undef,2,14,[]⟩ u Z):=by
 rw[Am (body:=Tryz.f219.body.getD .skip) Tryz.func219 rfl E args u Z 2 14 (by kernel_rfl) rfl ⟨hn,by decide⟩,AoU]
 rfl
def Iu(_:Unit):List COp:=[⟨fun a Z=>fbox 180 (a.get 0) Z,some 1,tT⟩,
 ⟨fun a Z=>.val (.bool false) Z,some 2,tT⟩]
def Ak3:List COp:=Iu ()
def Iw(_:Unit):List COp:=[⟨fun a Z=>aH 0 (a.get 1) Z,some 3,tT⟩,
 ⟨fun a Z=>aH 1 (a.get 3) Z,some 4,tT⟩,
 ⟨fun a Z=>aG none (a.get 4) Z,some 5,tT⟩,
 ⟨fun a Z=>bJ Tryz.prog 3 (.tmp 5) (.const (.int .i64 0)) (a.get 5) (.int .i64 0) Z,some 6,tT⟩,
 ⟨fun a Z=>.val (a.get 6) Z,some 7,tT⟩,
 ⟨fun a Z=>aH 0 (a.get 1) Z,some 8,fun a=>gd (a.get 7) true⟩,
 ⟨fun a Z=>aH 2 (a.get 8) Z,some 9,fun a=>gd (a.get 7) true⟩,
 ⟨fun a Z=>aG none (a.get 9) Z,some 10,fun a=>gd (a.get 7) true⟩,
 ⟨fun a Z=>bJ Tryz.prog 9 (.tmp 10) (.const (.string ⟨#[]⟩)) (a.get 10) (.string ⟨#[]⟩) Z,some 11,fun a=>gd (a.get 7) true⟩,
 ⟨fun a Z=>bG (a.get 7) (a.get 11) (.bool false) Z,some 12,tT⟩,
 ⟨fun a Z=>.val (a.get 12) Z,some 13,tT⟩,
 ⟨fun a Z=>aH 0 (a.get 1) Z,some 14,fun a=>gd (a.get 13) true⟩,
 ⟨fun a Z=>aH 3 (a.get 14) Z,some 15,fun a=>gd (a.get 13) true⟩,
 ⟨fun a Z=>aG none (a.get 15) Z,some 16,fun a=>gd (a.get 13) true⟩,
 ⟨fun a Z=>flenL (a.get 16) Z,some 17,fun a=>gd (a.get 13) true⟩,
 ⟨fun a Z=>bJ Tryz.prog 3 (.tmp 17) (.const (.int .i64 0)) (a.get 17) (.int .i64 0) Z,some 18,fun a=>gd (a.get 13) true⟩,
 ⟨fun a Z=>bG (a.get 13) (a.get 18) (.bool false) Z,some 19,tT⟩,
 ⟨fun a Z=>.val (a.get 19) Z,some 2,tT⟩]
def Ak4:List COp:=Iw ()
def TM(E:Env)(ro:Option Nat)(fn:FuncId):aZ:=(aF (aD E ro Ak3) (aF (aD E ro Ak4) bO))
theorem Iv:aD E ro Ak3 a u Z=aD E ro (Iu ()) a u Z:=rfl
theorem Iy:aD E ro Ak4 a u Z=aD E ro (Iw ()) a u Z:=rfl
theorem AoV(E:Env)(ro:Option Nat)(fn:FuncId):code Tryz.prog nls (Tryz.f221.body.getD .skip) E ro fn=TM E ro fn:=by kernel_rfl
theorem UM(E:Env)(args:List Value)(u:Option FrameMode)(Z:aC)(hn:args.length<=(2:Nat)):bA Tryz.prog nls E 221 args u Z=aN Tryz.prog E [.tmp 2] (TM E none 221 ⟨aY undef 2 args,fun _=>undef,2,20,[]⟩ u Z):=by
 rw[Am (body:=Tryz.f221.body.getD .skip) Tryz.func221 rfl E args u Z 2 20 (by kernel_rfl) rfl ⟨hn,by decide⟩,AoV]
 rfl
def G9(_:Unit):List COp:=[⟨fun a Z=>fbox 181 (a.get 0) Z,some 1,tT⟩,
 ⟨fun a Z=>.val (.bool false) Z,some 2,tT⟩]
def Ak5:List COp:=G9 ()
def G_(_:Unit):List COp:=[⟨fun a Z=>aH 0 (a.get 1) Z,some 3,tT⟩,
 ⟨fun a Z=>aH 1 (a.get 3) Z,some 4,tT⟩,
 ⟨fun a Z=>aG none (a.get 4) Z,some 5,tT⟩,
 ⟨fun a Z=>bJ Tryz.prog 3 (.tmp 5) (.const (.int .i64 0)) (a.get 5) (.int .i64 0) Z,some 6,tT⟩,
 ⟨fun a Z=>.val (a.get 6) Z,some 7,tT⟩,
 ⟨fun a Z=>aH 0 (a.get 1) Z,some 8,fun a=>gd (a.get 7) true⟩,
 ⟨fun a Z=>aH 2 (a.get 8) Z,some 9,fun a=>gd (a.get 7) true⟩,
 ⟨fun a Z=>aG none (a.get 9) Z,some 10,fun a=>gd (a.get 7) true⟩,
 ⟨fun a Z=>bJ Tryz.prog 9 (.tmp 10) (.const (.string ⟨#[]⟩)) (a.get 10) (.string ⟨#[]⟩) Z,some 11,fun a=>gd (a.get 7) true⟩,
 ⟨fun a Z=>bG (a.get 7) (a.get 11) (.bool false) Z,some 12,tT⟩,
 ⟨fun a Z=>.val (a.get 12) Z,some 13,tT⟩,
 ⟨fun a Z=>aH 0 (a.get 1) Z,some 14,fun a=>gd (a.get 13) true⟩,
 ⟨fun a Z=>aH 0 (a.get 14) Z,some 15,fun a=>gd (a.get 13) true⟩,
 ⟨fun a Z=>aG none (a.get 15) Z,some 16,fun a=>gd (a.get 13) true⟩,
 ⟨fun a Z=>bJ Tryz.prog 3 (.tmp 16) (.const (.int .i64 6)) (a.get 16) (.int .i64 6) Z,some 17,fun a=>gd (a.get 13) true⟩,
 ⟨fun a Z=>.val (a.get 17) Z,some 18,fun a=>gd (a.get 13) true⟩,
 ⟨fun a Z=>aH 0 (a.get 1) Z,some 19,fun a=>gd (a.get 18) false⟩,
 ⟨fun a Z=>aH 3 (a.get 19) Z,some 20,fun a=>gd (a.get 18) false⟩,
 ⟨fun a Z=>aG none (a.get 20) Z,some 21,fun a=>gd (a.get 18) false⟩,
 ⟨fun a Z=>flenL (a.get 21) Z,some 22,fun a=>gd (a.get 18) false⟩,
 ⟨fun a Z=>bJ Tryz.prog 3 (.tmp 22) (.const (.int .i64 2)) (a.get 22) (.int .i64 2) Z,some 23,fun a=>gd (a.get 18) false⟩,
 ⟨fun a Z=>bG (a.get 18) (.bool true) (a.get 23) Z,some 24,fun a=>gd (a.get 13) true⟩,
 ⟨fun a Z=>bG (a.get 13) (a.get 24) (.bool false) Z,some 25,tT⟩,
 ⟨fun a Z=>.val (a.get 25) Z,some 2,tT⟩]
def Ak6:List COp:=G_ ()
def NP(E:Env)(ro:Option Nat)(fn:FuncId):aZ:=(aF (aD E ro Ak5) (aF (aD E ro Ak6) bO))
theorem GA:aD E ro Ak5 a u Z=aD E ro (G9 ()) a u Z:=rfl
theorem GD:aD E ro Ak6 a u Z=aD E ro (G_ ()) a u Z:=rfl
theorem AoW(E:Env)(ro:Option Nat)(fn:FuncId):code Tryz.prog nls (Tryz.f223.body.getD .skip) E ro fn=NP E ro fn:=by kernel_rfl
theorem MD(E:Env)(args:List Value)(u:Option FrameMode)(Z:aC)(hn:args.length<=(2:Nat)):bA Tryz.prog nls E 223 args u Z=aN Tryz.prog E [.tmp 2] (NP E none 223 ⟨aY undef 2 args,fun _=>undef,2,26,[]⟩ u Z):=by
 rw[Am (body:=Tryz.f223.body.getD .skip) Tryz.func223 rfl E args u Z 2 26 (by kernel_rfl) rfl ⟨hn,by decide⟩,AoW]
 rfl
def Ij(_:Unit):List COp:=[⟨fun a Z=>.val (.bool false) Z,some 2,tT⟩]
def AjB:List COp:=Ij ()
def Il(_:Unit):List COp:=[⟨fun a Z=>.val (a.get 0) Z,some 4,tT⟩,
 ⟨fun a Z=>flenS (a.get 4) Z,some 5,tT⟩,
 ⟨fun a Z=>bJ Tryz.prog 3 (.tmp 5) (.const (.int .i64 0)) (a.get 5) (.int .i64 0) Z,some 6,tT⟩,
 ⟨fun a Z=>.val (a.get 6) Z,some 7,tT⟩,
 ⟨fun a Z=>.val (a.get 0) Z,some 8,fun a=>gd (a.get 7) false⟩,
 ⟨fun a Z=>flenS (a.get 8) Z,some 9,fun a=>gd (a.get 7) false⟩,
 ⟨fun a Z=>i_gtr Tryz.prog 3 (.tmp 9) (.const (.int .i64 20)) (a.get 9) (.int .i64 20) Z,some 10,fun a=>gd (a.get 7) false⟩,
 ⟨fun a Z=>bG (a.get 7) (.bool true) (a.get 10) Z,some 11,tT⟩]
def AjC:List COp:=Il ()
def Mc(_:Unit):List COp:=[⟨fun a Z=>.val (.bool false) Z,some 2,tT⟩]
def AjD:List COp:=Mc ()
def Md(_:Unit):List COp:=[⟨fun a Z=>.val (a.get 0) Z,some 12,tT⟩,
 ⟨fun a Z=>flenS (a.get 12) Z,some 13,tT⟩,
 ⟨fun a Z=>.val (.int .i64 0) Z,some 14,tT⟩]
def AjE:List COp:=Md ()
def Ff(_:Unit):List COp:=[⟨fun a Z=>i_lss Tryz.prog 3 (.tmp 14) (.tmp 13) (a.get 14) (a.get 13) Z,some 15,tT⟩]
def AjF:List COp:=Ff ()
def F5(_:Unit):List COp:=[⟨fun a Z=>.val (a.get 14) Z,some 16,tT⟩,
 ⟨fun a Z=>.val (a.get 16) Z,some 3,tT⟩]
def AjG:List COp:=F5 ()
def F6(_:Unit):List COp:=[⟨fun a Z=>.val (a.get 0) Z,some 17,tT⟩,
 ⟨fun a Z=>.val (a.get 3) Z,some 18,tT⟩,
 ⟨fun a Z=>bQ (a.get 17) (a.get 18) Z,some 19,tT⟩,
 ⟨fun a Z=>fun1 Tryz.prog (convert 5 21) (a.get 19) Z,some 20,tT⟩,
 ⟨fun a Z=>.enter 176 [(a.get 20)] Z,some 21,tT⟩]
def AjH:List COp:=F6 ()
def F7(_:Unit):List COp:=[⟨fun a Z=>bJ Tryz.prog 216 (.tmp 21) (.const (.int .i64 2)) (a.get 21) (.int .i64 2) Z,some 23,tT⟩,
 ⟨fun a Z=>.val (a.get 23) Z,some 22,tT⟩]
def AjI:List COp:=F7 ()
def F8(_:Unit):List COp:=[⟨fun a Z=>bJ Tryz.prog 216 (.tmp 21) (.const (.int .i64 0)) (a.get 21) (.int .i64 0) Z,some 25,tT⟩,
 ⟨fun a Z=>.val (a.get 25) Z,some 24,tT⟩]
def AjJ:List COp:=F8 ()
def F9(_:Unit):List COp:=[⟨fun a Z=>.val (a.get 3) Z,some 26,tT⟩,
 ⟨fun a Z=>i_gtr Tryz.prog 3 (.tmp 26) (.const (.int .i64 1)) (a.get 26) (.int .i64 1) Z,some 27,tT⟩,
 ⟨fun a Z=>.val (a.get 27) Z,some 28,tT⟩,
 ⟨fun a Z=>.val (a.get 3) Z,some 29,fun a=>gd (a.get 28) false⟩,
 ⟨fun a Z=>bJ Tryz.prog 3 (.tmp 29) (.const (.int .i64 1)) (a.get 29) (.int .i64 1) Z,some 30,fun a=>gd (a.get 28) false⟩,
 ⟨fun a Z=>.val (a.get 30) Z,some 31,fun a=>gd (a.get 28) false⟩,
 ⟨fun a Z=>.val (a.get 0) Z,some 32,fun a=>gd (a.get 31) true⟩,
 ⟨fun a Z=>bQ (a.get 32) (.int .i64 0) Z,some 33,fun a=>gd (a.get 31) true⟩,
 ⟨fun a Z=>i_neq Tryz.prog 5 (.tmp 33) (.const (.int .u8 45)) (a.get 33) (.int .u8 45) Z,some 34,fun a=>gd (a.get 31) true⟩,
 ⟨fun a Z=>bG (a.get 31) (a.get 34) (.bool false) Z,some 35,fun a=>gd (a.get 28) false⟩,
 ⟨fun a Z=>bG (a.get 28) (.bool true) (a.get 35) Z,some 36,tT⟩]
def AjK:List COp:=F9 ()
def HC(_:Unit):List COp:=[⟨fun a Z=>.val (.bool false) Z,some 2,tT⟩]
def AbZ:List COp:=HC ()
def HE(_:Unit):List COp:=[⟨fun a Z=>i_add Tryz.prog 3 (.tmp 14) (.const (.int .i64 1)) (a.get 14) (.int .i64 1) Z,some 37,tT⟩,
 ⟨fun a Z=>.val (a.get 37) Z,some 14,tT⟩]
def Ab0:List COp:=HE ()
def Fl(E:Env)(ro:Option Nat)(fn:FuncId):aZ:=(aF (aD E ro AjF) (aF (aL (fun a=>(a.get 15)) aQ (exitR 0)) (aF (aR 1 (aF (aD E ro AjG) (aF (aD E ro AjH) (aR 2 (aF (aR 4 (aF (aR 3 (aF (aF (aF (aD E ro AjI) (aL (fun a=>(a.get 22)) (exitR 3) aQ)) (aF (aD E ro AjJ) (aL (fun a=>(a.get 24)) (exitR 4) aQ))) (exitR 2))) (aF (aD E ro AjK) (aL (fun a=>(a.get 36)) (exitR 1) aQ)))) (aF (aF (aD E ro AbZ) bO) (exitR 2))))))) (aD E ro Ab0))))
def JS(_:Unit):List COp:=[⟨fun a Z=>.val (.bool true) Z,some 2,tT⟩]
def Ab1:List COp:=JS ()
def TG(E:Env)(ro:Option Nat)(fn:FuncId):aZ:=(aF (aD E ro AjB) (aF (aF (aD E ro AjC) (aL (fun a=>(a.get 11)) (aF (aD E ro AjD) bO) aQ)) (aF (aF (aD E ro AjE) (aR 0 (loopR (bH nls fn) (Fl E ro fn)))) (aF (aD E ro Ab1) bO))))
theorem Ik:aD E ro AjB a u Z=aD E ro (Ij ()) a u Z:=rfl
theorem Im:aD E ro AjC a u Z=aD E ro (Il ()) a u Z:=rfl
theorem PB:aD E ro AjD a u Z=aD E ro (Mc ()) a u Z:=rfl
theorem PD:aD E ro AjE a u Z=aD E ro (Md ()) a u Z:=rfl
theorem ER:aD E ro AjF a u Z=aD E ro (Ff ()) a u Z:=rfl
theorem FG:aD E ro AjG a u Z=aD E ro (F5 ()) a u Z:=rfl
theorem FH:aD E ro AjH a u Z=aD E ro (F6 ()) a u Z:=rfl
theorem FI:aD E ro AjI a u Z=aD E ro (F7 ()) a u Z:=rfl
theorem FJ:aD E ro AjJ a u Z=aD E ro (F8 ()) a u Z:=rfl
theorem FK:aD E ro AjK a u Z=aD E ro (F9 ()) a u Z:=rfl
theorem I5:aD E ro AbZ a u Z=aD E ro (HC ()) a u Z:=rfl
theorem I6:aD E ro Ab0 a u Z=aD E ro (HE ()) a u Z:=rfl
theorem Nj:aD E ro Ab1 a u Z=aD E ro (JS ()) a u Z:=rfl
theorem AoL(E:Env)(ro:Option Nat)(fn:FuncId):code Tryz.prog nls (Tryz.f158.body.getD .skip) E ro fn=TG E ro fn:=by kernel_rfl
theorem UI(E:Env)(args:List Value)(u:Option FrameMode)(Z:aC)(hn:args.length<=(4:Nat)):bA Tryz.prog nls E 158 args u Z=aN Tryz.prog E [.tmp 2] (TG E none 158 ⟨aY undef 4 args,fun _=>undef,4,38,[]⟩ u Z):=by
 rw[Am (body:=Tryz.f158.body.getD .skip) Tryz.func158 rfl E args u Z 4 38 (by kernel_rfl) rfl ⟨hn,by decide⟩,AoL]
 rfl
def Me(_:Unit):List COp:=[⟨fun a Z=>.val (.bool false) Z,some 2,tT⟩]
def AjL:List COp:=Me ()
def Mf(_:Unit):List COp:=[⟨fun a Z=>.val (a.get 0) Z,some 5,tT⟩,
 ⟨fun a Z=>frangeS (a.get 5) Z,some 6,tT⟩]
def AjM:List COp:=Mf ()
def G8(_:Unit):List COp:=[⟨fun a Z=>fnext (a.get 6) Z,some 7,tT⟩,
 ⟨fun a Z=>aJ 0 (a.get 7) Z,some 8,tT⟩]
def AjN:List COp:=G8 ()
def Io(_:Unit):List COp:=[⟨fun a Z=>aJ 2 (a.get 7) Z,some 9,tT⟩,
 ⟨fun a Z=>.val (a.get 9) Z,some 4,tT⟩]
def AjO:List COp:=Io ()
def Iq(_:Unit):List COp:=[⟨fun a Z=>.val (a.get 4) Z,some 10,tT⟩,
 ⟨fun a Z=>i_lss Tryz.prog 21 (.tmp 10) (.const (.int .i32 32)) (a.get 10) (.int .i32 32) Z,some 11,tT⟩,
 ⟨fun a Z=>.val (a.get 11) Z,some 12,tT⟩,
 ⟨fun a Z=>.val (a.get 4) Z,some 13,fun a=>gd (a.get 12) false⟩,
 ⟨fun a Z=>i_gtr Tryz.prog 21 (.tmp 13) (.const (.int .i32 126)) (a.get 13) (.int .i32 126) Z,some 14,fun a=>gd (a.get 12) false⟩,
 ⟨fun a Z=>bG (a.get 12) (.bool true) (a.get 14) Z,some 15,tT⟩]
def AjP:List COp:=Iq ()
def Mg(_:Unit):List COp:=[⟨fun a Z=>.val (.bool false) Z,some 2,tT⟩]
def AjQ:List COp:=Mg ()
def Hv(E:Env)(ro:Option Nat)(fn:FuncId):aZ:=(aF (aD E ro AjN) (aF (aL (fun a=>(a.get 8)) aQ (exitR 0)) (aR 1 (aF (aD E ro AjO) (aF (aD E ro AjP) (aL (fun a=>(a.get 15)) (aF (aD E ro AjQ) bO) aQ))))))
def RS(_:Unit):List COp:=[⟨fun a Z=>.val (.bool true) Z,some 2,tT⟩]
def AjR:List COp:=RS ()
def TH(E:Env)(ro:Option Nat)(fn:FuncId):aZ:=(aF (aD E ro AjL) (aF (aF (aD E ro AjM) (aR 0 (loopR (bH nls fn) (Hv E ro fn)))) (aF (aD E ro AjR) bO)))
theorem PE:aD E ro AjL a u Z=aD E ro (Me ()) a u Z:=rfl
theorem PF:aD E ro AjM a u Z=aD E ro (Mf ()) a u Z:=rfl
theorem Gz:aD E ro AjN a u Z=aD E ro (G8 ()) a u Z:=rfl
theorem Ip:aD E ro AjO a u Z=aD E ro (Io ()) a u Z:=rfl
theorem Ir:aD E ro AjP a u Z=aD E ro (Iq ()) a u Z:=rfl
theorem PG:aD E ro AjQ a u Z=aD E ro (Mg ()) a u Z:=rfl
theorem Aer:aD E ro AjR a u Z=aD E ro (RS ()) a u Z:=rfl
theorem AoM(E:Env)(ro:Option Nat)(fn:FuncId):code Tryz.prog nls (Tryz.f159.body.getD .skip) E ro fn=TH E ro fn:=by kernel_rfl
theorem UJ(E:Env)(args:List Value)(u:Option FrameMode)(Z:aC)(hn:args.length<=(5:Nat)):bA Tryz.prog nls E 159 args u Z=aN Tryz.prog E [.tmp 2] (TH E none 159 ⟨aY undef 5 args,fun _=>undef,5,16,[]⟩ u Z):=by
 rw[Am (body:=Tryz.f159.body.getD .skip) Tryz.func159 rfl E args u Z 5 16 (by kernel_rfl) rfl ⟨hn,by decide⟩,AoM]
 rfl
end Go.Proofs.YtknnbjmcfibpgaaGreatDoor
namespace Go.Proofs.YtknnbjmcfibpgaaGreatDoor
open Go Go.Eng
attribute [local congr] Aa Af Ad Ab Ac
attribute [-go_sem] List.range_succ
theorem Gh:aggSize Tryz.prog 86=some (some 2):=by kernel_rfl
theorem Kg:aggSize Tryz.prog 3=some none:=by kernel_rfl
theorem Gg:aggSize Tryz.prog 32=some none:=by kernel_rfl
theorem X0(x:Nat)(Z:aC):bJ Tryz.prog 20 (.tmp x) (.const .nilIface) .nilIface .nilIface Z=.val (.bool true) Z:=by kernel_rfl
theorem Ks(n:Nat)(p q:Value)(Z:aC):(env (n+1)).call 135 [p,q] (some .returning) Z=.ret (.tuple #[]) (some .returning) Z:=by
 rw[Fz,UF _ _ _ _ (by simp),Ah]
 unfold TC
 simp -implicitDefEqProofs only[go_sem,Pp,LW,Pq,LX,AdS,Re,X0]
theorem P8(n w:Nat)(cap:Array Value)(p d:Int)(Z:aC)(hw:Wf Z)(h:∀V,Ext Z V->Wf V->Gives ((env (n+1)).call w cap.toList none V) V fun v _=>v=.agg #[.int .i64 p,.int .i64 d]):
  Gives ((env (n+2)).call 109 [.func (.func w) #[] cap] none Z) Z fun v _=>v=.tuple #[.agg #[.int .i64 p,.int .i64 d],.int .i64 0,.int .i64 0]:=by
 rw[Ai _ 109 _ _ rfl,UA _ _ _ _ (by simp),Ah]
 unfold Tx
 have hX1:Ext Z (((Z.push (.cells [.int .i64 0,.int .i64 0] 86) none).push (.cells [.int .i64 0] 3) none).push (.cells [.int .i64 0] 32) none):=(((Ext.refl _).push _ _).push _ _).push _ _
 have hw1:=((hw.push (.cells [.int .i64 0,.int .i64 0] 86) none).push (.cells [.int .i64 0] 3) none).push (.cells [.int .i64 0] 32) none
 obtain⟨_,a_,e2,hX2,hw2,rfl⟩:=h _ hX1 hw1
 have g0:a_.heap.get Z.next=_:=(hX2.get Z.next (by simp only[Ae];omega)).trans (by simp -implicitDefEqProofs only[Aj,Ae,Nat.add_assoc,Nat.reduceAdd,Nat.left_eq_add,reduceCtorEq,↓reduceIte,Nat.reduceEqDiff]<;>rfl)
 have g1:a_.heap.get (Z.next+1)=_:=(hX2.get (Z.next+1) (by simp only[Ae];omega)).trans (by simp -implicitDefEqProofs only[Aj,Ae,Nat.add_assoc,Nat.reduceAdd,Nat.add_left_cancel_iff,reduceCtorEq,↓reduceIte,Nat.reduceEqDiff]<;>rfl)
 have g2:a_.heap.get (Z.next+2)=_:=(hX2.get (Z.next+2) (by simp only[Ae];omega)).trans (by simp -implicitDefEqProofs only[Aj,Ae,Nat.add_assoc,Nat.reduceAdd,Nat.add_left_cancel_iff,reduceCtorEq,↓reduceIte,Nat.reduceEqDiff]<;>rfl)
 simp -implicitDefEqProofs only[go_sem,AP,O8,LD,O9,LF,O_,LG,e2,g0,g1,g2,Gh,Kg,Gg,Ks,Bb,AH,AL,Dl]
 have m0:=(hw2 _ _ g0).1
 have m1:=(hw2 _ _ g1).1
 have m2:=(hw2 _ _ g2).1
 exact⟨_,_,rfl,(((hX1.trans hX2).put _ _ _ (Nat.le_refl _)).put _ _ _ (Nat.le_add_right _ _)).put _ _ _ (Nat.le_add_right _ _),((hw2.put _ _ _ m0).put _ _ _ m1).put _ _ _ m2,rfl⟩
theorem Xk(n w:Nat)(cap:Array Value)(p d:Int)(Z:aC)(hw:Wf Z)(h:∀V,Ext Z V->Wf V->Gives ((env (n+1)).call w cap.toList none V) V fun v _=>v=.agg #[.int .i64 p,.int .i64 d]):
  Gives ((env (n+3)).call 62 [.func (.func w) #[] cap] none Z) Z fun v _=>v=.tuple #[.agg #[.int .i64 p,.int .i64 d],.int .i64 0]:=by
 rw[Ai _ 62 _ _ rfl,Aa9 _ _ _ _ (by simp),Ah]
 unfold Acj
 have hX1:Ext Z (Z.push (.cells [.int .i64 0,.int .i64 0] 86) none):=(Ext.refl _).push _ _
 obtain⟨_,a_,e2,hX2,hw2,rfl⟩:=P8 n w cap p d _ (hw.push (.cells [.int .i64 0,.int .i64 0] 86) none) fun V hx hw'=>h V (hX1.trans hx) hw'
 have g0:a_.heap.get Z.next=_:=(hX2.get Z.next (Nat.lt_succ_self _)).trans (by rw[Aj,if_pos rfl])
 have m0:=(hw2 _ _ g0).1
 have hne:(Z.next=a_.next)=False:=by simp;omega
 have hne':(a_.next=Z.next)=False:=by simp;omega
 simp -implicitDefEqProofs only[go_sem,AP,V7,SI,V8,SJ,V9,SK,e2,g0,Gh,Bb,AH,AL,Dl,BD,hne,hne']
 exact⟨_,_,rfl,(((hX1.trans hX2).push _ _).put _ _ _ (by have:=(hX1.trans hX2).next;omega)).put _ _ _ (Nat.le_refl _),((hw2.push _ _).put _ _ _ (Nat.lt_succ_self _)).put _ _ _ (by rw[Ao,Ae];omega),rfl⟩
theorem Aye(n:Nat)(b:Nat)(v:List Value)(p d:Int)(Z:aC)(hw:Wf Z)(hb:Z.cells b=some v)(hv:v.length=4)(h1:∀V,Ext Z V->Wf V->Gives ((env n).call 64 [.agg v.toArray] none V) V fun w _=>w=.int .i64 p)(h2:∀V,Ext Z V->Wf V->Gives ((env n).call 65 [.agg v.toArray] none V) V fun w _=>w=.int .i64 d):
  Gives ((env (n+1)).call 63 [.pointer (some ⟨b,0,none⟩)] none Z) Z fun w _=>w=.agg #[.int .i64 p,.int .i64 d]:=by
 rw[Ai _ 63 _ _ rfl,Aba _ _ _ _ (by simp),Ah]
 unfold Ack
 have hX1:Ext Z (Z.push (.cells [.int .i64 0,.int .i64 0] 86) none):=(Ext.refl _).push _ _
 obtain⟨_,a_,e2,hX2,hw2,rfl⟩:=h1 _ hX1 (hw.push (.cells [.int .i64 0,.int .i64 0] 86) none)
 obtain⟨_,bT,e3,hX3,hw3,rfl⟩:=h2 _ (hX1.trans hX2) hw2
 have hbn:=hw.cells hb
 have c1:(Z.push (.cells [.int .i64 0,.int .i64 0] 86) none).cells b=some v:=(hX1.cells hbn).trans hb
 have c2:a_.cells b=some v:=((hX1.trans hX2).cells hbn).trans hb
 have g0:bT.heap.get Z.next=_:=((hX2.trans hX3).get Z.next (Nat.lt_succ_self _)).trans (by rw[Aj,if_pos rfl])
 have m0:=(hw3 _ _ g0).1
 have hb1:(b=Z.next)=False:=by simp;omega
 have ht:v.take 4=v:=List.take_of_length_le (by omega)
 simp -implicitDefEqProofs only[go_sem,AP,V_,SL,Wc,SM,AlL,Zg,hb,hb1,c2,hv,ht,e2,e3,g0,Gh,Nat.le_refl]
 exact⟨_,_,rfl,(((hX1.trans hX2).trans hX3).put _ _ _ (Nat.le_refl _)),hw3.put _ _ _ m0,rfl⟩
theorem Ayf(n:Nat)(v:List Value)(p d:Int)(Z:aC)(hw:Wf Z)(hv:v.length=4)(h1:∀V,Ext Z V->Wf V->Gives ((env n).call 64 [.agg v.toArray] none V) V fun w _=>w=.int .i64 p)(h2:∀V,Ext Z V->Wf V->Gives ((env n).call 65 [.agg v.toArray] none V) V fun w _=>w=.int .i64 d):
  Gives ((env (n+4)).call 11 [.agg v.toArray] none Z) Z fun w _=>w=.tuple #[.int .i64 p,.int .i64 d,.int .i64 0]:=by
 rw[Ai _ 11 _ _ rfl,Aa8 _ _ _ _ (by simp),Ah]
 unfold Aci
 have hX1:Ext Z (Z.push (.cells v 24) none):=(Ext.refl _).push _ _
 have hw1:=hw.push (.cells v 24) none
 obtain⟨_,a_,e2,hX2,hw2,rfl⟩:=Xk n 63 #[.pointer (some ⟨Z.next,0,none⟩)] p d _ hw1 fun V hx hw'=>
  Aye n Z.next v p d V hw' ((hx.cells (Nat.lt_succ_self _)).trans (by rw[Al,if_pos rfl];rfl)) hv (fun bZ hy=>h1 bZ ((hX1.trans hx).trans hy)) (fun bZ hy=>h2 bZ ((hX1.trans hx).trans hy))
 have hX:=hX1.trans hX2
 have w3:=(hw2.push (.cells [.int .i64 0,.int .i64 0] 86) none).put a_.next (.cells [.int .i64 p,.int .i64 d] 86) none (Nat.lt_succ_self _)
 have hv3:=D1 (lam:=a_.clock+2) w3 (Nat.le_refl _)
 have x3:Ext Z ((a_.push (.cells [.int .i64 0,.int .i64 0] 86) none).put a_.next (.cells [.int .i64 p,.int .i64 d] 86) none):=(hX.push _ _).put _ _ _ hX.next
 have hc:((a_.push (.cells [.int .i64 0,.int .i64 0] 86) none).put a_.next (.cells [.int .i64 p,.int .i64 d] 86) none).cells a_.next=some [.int .i64 p,.int .i64 d]:=by
  rw[Aq,if_pos rfl];rfl
 simp -implicitDefEqProofs only[go_sem,AP,VB,Q2,VC,Q3,e2]
 generalize aC.put (aC.push a_ _ _) _ _ _=bT at w3 hv3 hc x3 ⊢
 simp -implicitDefEqProofs only[go_sem,VD,Q4,hv3,hc]
 exact⟨_,_,rfl,x3,w3,rfl⟩
end Go.Proofs.YtknnbjmcfibpgaaGreatDoor
namespace Go.Proofs.YtknnbjmcfibpgaaGreatDoor
open Go Go.Eng
attribute [local congr] Aa Af Ad Ab Ac
attribute [-go_sem] List.range_succ
theorem Agi(n:Nat)(p:Int)(hp:p<=2000)(Z:aC):(env (n+1)).call 84 [.int .i64 p] none Z=.ret (.tuple #[]) none Z:=by
 have hd:decide (p>2000)=false:=by simp;omega
 rw[Ai _ 84 _ _ rfl,Apw _ _ _ _ (by simp),Ah]
 unfold AnH
 simp -implicitDefEqProofs only[go_sem,AmA,Z2,hd]
theorem Fa(n:Nat)(k z:Int)(p:Option Addr)(c:Nat)(Z:aC)(hw:Wf Z):
  Gives ((env (n+1)).call 219 [.agg #[.int .i64 k,.int .i64 z,.string ⟨#[]⟩,.slice p 0 c]] none Z) Z fun w _=>w=.bool true:=by
 have h0:(Int.ofNat 0==0)=true:=rfl
 rw[Ai _ 219 _ _ rfl,UL _ _ _ _ (by simp),Ah]
 unfold TK
 simp -implicitDefEqProofs only[go_sem,KU,JX,KV,JY,h0]
 exact⟨_,_,rfl,(Ext.refl _).push _ _,hw.push _ _,rfl⟩
theorem FV(n:Nat)(k:Int)(t:ByteArray)(p:Option Addr)(c:Nat)(Z:aC)(hw:Wf Z):
  Gives ((env (n+1)).call 213 [.agg #[.int .i64 k,.int .i64 0,.string t,.slice p 0 c]] none Z) Z fun w _=>w=.bool true:=by
 have h0:(Int.ofNat 0==0)=true:=rfl
 rw[Ai _ 213 _ _ rfl,UK _ _ _ _ (by simp),Ah]
 unfold TJ
 simp -implicitDefEqProofs only[go_sem,KS,JV,KT,JW,h0]
 exact⟨_,_,rfl,(Ext.refl _).push _ _,hw.push _ _,rfl⟩
theorem Qs(n:Nat)(k:Int)(p:Option Addr)(c:Nat)(Z:aC)(hw:Wf Z):
  Gives ((env (n+1)).call 221 [.agg #[.int .i64 k,.int .i64 0,.string ⟨#[]⟩,.slice p 0 c]] none Z) Z fun w _=>w=.bool true:=by
 have h0:(Int.ofNat 0==0)=true:=rfl
 rw[Ai _ 221 _ _ rfl,UM _ _ _ _ (by simp),Ah]
 unfold TM
 simp -implicitDefEqProofs only[go_sem,Iv,Iu,Iy,Iw,h0]
 exact⟨_,_,rfl,(Ext.refl _).push _ _,hw.push _ _,rfl⟩
theorem XH(n:Nat)(p:Option Addr)(l c:Nat)(Z:aC)(hw:Wf Z):
  Gives ((env (n+1)).call 223 [.agg #[.int .i64 6,.int .i64 0,.string ⟨#[]⟩,.slice p l c]] none Z) Z fun w _=>w=.bool true:=by
 rw[Ai _ 223 _ _ rfl,MD _ _ _ _ (by simp),Ah]
 unfold NP
 simp -implicitDefEqProofs only[go_sem,GA,G9,GD,G_]
 exact⟨_,_,rfl,(Ext.refl _).push _ _,hw.push _ _,rfl⟩
theorem U_(n:Nat)(p:Option Addr)(c:Nat)(Z:aC)(hw:Wf Z):
  Gives ((env (n+1)).call 223 [.agg #[.int .i64 5,.int .i64 0,.string ⟨#[]⟩,.slice p 2 c]] none Z) Z fun w _=>w=.bool true:=by
 have h0:(Int.ofNat 2==2)=true:=rfl
 have h1:((5:Int)==6)=false:=rfl
 rw[Ai _ 223 _ _ rfl,MD _ _ _ _ (by simp),Ah]
 unfold NP
 simp -implicitDefEqProofs only[go_sem,GA,G9,GD,G_,h0,h1]
 exact⟨_,_,rfl,(Ext.refl _).push _ _,hw.push _ _,rfl⟩
def workType(k:Nat):Nat:=if k=0 then 180 else if k<=2 then 177 else if k<=4 then 145 else 181
theorem EY(n k:Nat)(hk:k<=6)(z:Int)(t:ByteArray)(q:Value)(hq:oneCell q=true)(Z:aC)(hw:Wf Z):
  Gives ((env (n+1)).call 117 [.agg #[.int .i64 (k:Int),.int .i64 z,.string t,q]] none Z) Z fun w _=>w=.iface (workType k) (.agg #[.int .i64 (k:Int),.int .i64 z,.string t,q]):=by
 rw[Ai _ 117 _ _ rfl,UD _ _ _ _ (by simp),Ah]
 unfold TA
 have fin:∀(o:FObj) (f:Option Nat),Ext Z (Z.push o f)/\Wf (Z.push o f):=fun o f=>⟨(Ext.refl _).push _ _,hw.push _ _⟩
 obtain rfl|rfl|rfl|rfl|rfl|rfl|rfl:k=0\/k=1\/k=2\/k=3\/k=4\/k=5\/k=6:=by omega
 .have e0:(((0:Nat):Int)==0)=true:=rfl
  simp -implicitDefEqProofs only[go_sem,EO,Fb,EP,Fc,EQ,Fe,AdG,QY,e0]
  exact⟨_,_,rfl,(fin ..).1,(fin ..).2,rfl⟩
 .have e0:(((1:Nat):Int)==0)=false:=rfl
  have e1:(((1:Nat):Int)==1)=true:=rfl
  simp -implicitDefEqProofs only[go_sem,EO,Fb,EP,Fc,EQ,Fe,E5,Fu,Pg,LN,e0,e1]
  exact⟨_,_,rfl,(fin ..).1,(fin ..).2,rfl⟩
 .have e0:(((2:Nat):Int)==0)=false:=rfl
  have e1:(((2:Nat):Int)==1)=false:=rfl
  have e2:(((2:Nat):Int)==2)=true:=rfl
  simp -implicitDefEqProofs only[go_sem,EO,Fb,EP,Fc,EQ,Fe,E5,Fu,FB,FY,Pg,LN,e0,e1,e2]
  exact⟨_,_,rfl,(fin ..).1,(fin ..).2,rfl⟩
 .have e0:(((3:Nat):Int)==0)=false:=rfl
  have e1:(((3:Nat):Int)==1)=false:=rfl
  have e2:(((3:Nat):Int)==2)=false:=rfl
  have e3:(((3:Nat):Int)==3)=true:=rfl
  simp -implicitDefEqProofs only[go_sem,EO,Fb,EP,Fc,EQ,Fe,E5,Fu,FB,FY,Gp,GW,Ph,LO,e0,e1,e2,e3]
  exact⟨_,_,rfl,(fin ..).1,(fin ..).2,rfl⟩
 .have e0:(((4:Nat):Int)==0)=false:=rfl
  have e1:(((4:Nat):Int)==1)=false:=rfl
  have e2:(((4:Nat):Int)==2)=false:=rfl
  have e3:(((4:Nat):Int)==3)=false:=rfl
  have e4:(((4:Nat):Int)==4)=true:=rfl
  simp -implicitDefEqProofs only[go_sem,EO,Fb,EP,Fc,EQ,Fe,E5,Fu,FB,FY,Gp,GW,H3,H0,Ph,LO,e0,e1,e2,e3,e4]
  exact⟨_,_,rfl,(fin ..).1,(fin ..).2,rfl⟩
 .have e0:(((5:Nat):Int)==0)=false:=rfl
  have e1:(((5:Nat):Int)==1)=false:=rfl
  have e2:(((5:Nat):Int)==2)=false:=rfl
  have e3:(((5:Nat):Int)==3)=false:=rfl
  have e4:(((5:Nat):Int)==4)=false:=rfl
  have e5:(((5:Nat):Int)==5)=true:=rfl
  simp -implicitDefEqProofs only[go_sem,EO,Fb,EP,Fc,EQ,Fe,E5,Fu,FB,FY,Gp,GW,H3,H0,I3,HA,Nc,JG,e0,e1,e2,e3,e4,e5]
  exact⟨_,_,rfl,(fin ..).1,(fin ..).2,rfl⟩
 .have e0:(((6:Nat):Int)==0)=false:=rfl
  have e1:(((6:Nat):Int)==1)=false:=rfl
  have e2:(((6:Nat):Int)==2)=false:=rfl
  have e3:(((6:Nat):Int)==3)=false:=rfl
  have e4:(((6:Nat):Int)==4)=false:=rfl
  have e5:(((6:Nat):Int)==5)=false:=rfl
  have e6:(((6:Nat):Int)==6)=true:=rfl
  simp -implicitDefEqProofs only[go_sem,EO,Fb,EP,Fc,EQ,Fe,E5,Fu,FB,FY,Gp,GW,H3,H0,I3,HA,Nb,JF,Nc,JG,e0,e1,e2,e3,e4,e5,e6]
  exact⟨_,_,rfl,(fin ..).1,(fin ..).2,rfl⟩
theorem IG(n k:Nat)(z:Int)(hk:k=1/\0<=z/\z<=1\/k=2 /\ -999999999<=z/\z<=999999999)(t:ByteArray)(q:Value)(hq:oneCell q=true)(Z:aC)(hw:Wf Z):
  Gives ((env (n+1)).call 139 [.agg #[.int .i64 (k:Int),.int .i64 z,.string t,q]] none Z) Z fun w _=>w=.tuple #[]:=by
 rw[Ai _ 139 _ _ rfl,MB _ _ _ _ (by simp),Ah]
 unfold NM
 rcases hk with⟨rfl,h1,h2⟩|⟨rfl,h1,h2⟩
 .have e1:(((1:Nat):Int)==1)=true:=rfl
  have d1:decide (z<0)=false:=by simpa using h1
  have d2:decide (z>1)=false:=by simpa using h2
  simp -implicitDefEqProofs only[go_sem,FC,FZ,FD,F2,FE,F3,Gu,G1,FF,F4,e1,d1,d2]
  exact⟨_,_,rfl,(Ext.refl _).push _ _,hw.push _ _,rfl⟩
 .have e1:(((2:Nat):Int)==1)=false:=rfl
  have d1:decide (z < -999999999)=false:=by simp;omega
  have d2:decide (z>999999999)=false:=by simp;omega
  simp -implicitDefEqProofs only[go_sem,FC,FZ,FD,F2,FE,F3,FF,F4,e1,d1,d2]
  exact⟨_,_,rfl,(Ext.refl _).push _ _,hw.push _ _,rfl⟩
theorem Ht(n k:Nat)(z:Int)(t:ByteArray)(q:Value)(hq:oneCell q=true)(Z:aC)(hw:Wf Z)(hk:k=3/\(∀V,Ext Z V->Wf V->Gives ((env n).call 158 [.string t] none V) V fun w _=>w=.bool true)\/
   k=4/\t.size<=60/\(∀V,Ext Z V->Wf V->Gives ((env n).call 159 [.string t] none V) V fun w _=>w=.bool true)):
  Gives ((env (n+1)).call 140 [.agg #[.int .i64 (k:Int),.int .i64 z,.string t,q]] none Z) Z fun w _=>w=.tuple #[]:=by
 have hX:=(Ext.refl Z).push (.cells [.int .i64 (k:Int),.int .i64 z,.string t,q] 145) none
 have hw1:=hw.push (.cells [.int .i64 (k:Int),.int .i64 z,.string t,q] 145) none
 have hc:(Z.push (.cells [.int .i64 (k:Int),.int .i64 z,.string t,q] 145) none).cells Z.next=some [.int .i64 (k:Int),.int .i64 z,.string t,q]:=by rw[Al,if_pos rfl];rfl
 rw[Ai _ 140 _ _ rfl,MC _ _ _ _ (by simp),Ah]
 unfold NN
 rcases hk with⟨rfl,h⟩|⟨rfl,hs,h⟩
 .have e3:(((3:Nat):Int)==3)=true:=rfl
  have e4:(((3:Nat):Int)==4)=false:=rfl
  obtain⟨_,a_,e,hX2,hw2,rfl⟩:=h _ hX hw1
  have hc2:=(hX2.cells (Nat.lt_succ_self _)).trans hc
  simp -implicitDefEqProofs only[go_sem,Gv,G3,Gw,G5,Gx,G6,Gy,G7,e3,e4,e,hc2]
  exact⟨_,_,rfl,hX.trans hX2,hw2,rfl⟩
 .have e3:(((4:Nat):Int)==3)=false:=rfl
  have e4:(((4:Nat):Int)==4)=true:=rfl
  have d1:decide ((Int.ofNat t.size)>60)=false:=by simp;omega
  obtain⟨_,a_,e,hX2,hw2,rfl⟩:=h _ hX hw1
  have hc2:=(hX2.cells (Nat.lt_succ_self _)).trans hc
  simp -implicitDefEqProofs only[go_sem,Gv,G3,Gw,G5,Gx,G6,Gy,G7,e3,e4,e,hc2,d1]
  exact⟨_,_,rfl,hX.trans hX2,hw2,rfl⟩
theorem Vg(v:Value)(Z:aC):finvoke Tryz.prog (.iface 180 v) "caracole/datum.formed" [] Z=.enter 221 [v] Z:=by kernel_rfl
theorem FA(v:Value)(Z:aC):finvoke Tryz.prog (.iface 177 v) "caracole/datum.formed" [] Z=.enter 219 [v] Z:=by kernel_rfl
theorem HR(v:Value)(Z:aC):finvoke Tryz.prog (.iface 145 v) "caracole/datum.formed" [] Z=.enter 213 [v] Z:=by kernel_rfl
theorem HQ(v:Value)(Z:aC):finvoke Tryz.prog (.iface 181 v) "caracole/datum.formed" [] Z=.enter 223 [v] Z:=by kernel_rfl
theorem Ja(v:Value)(Z:aC):fassert Tryz.prog (.iface 177 v) 177 true Z=.val (.tuple #[v,.bool true]) Z:=by kernel_rfl
theorem Kh(v:Value)(Z:aC):fassert Tryz.prog (.iface 145 v) 145 true Z=.val (.tuple #[v,.bool true]) Z:=by kernel_rfl
theorem Afj(v:Value)(Z:aC):fassert Tryz.prog (.iface 180 v) 177 true Z=.val (.tuple #[.agg #[.int .i64 0,.int .i64 0,.string ⟨#[]⟩,.slice none 0 0],.bool false]) Z:=by kernel_rfl
theorem Ud(v:Value)(Z:aC):fassert Tryz.prog (.iface 180 v) 145 true Z=.val (.tuple #[.agg #[.int .i64 0,.int .i64 0,.string ⟨#[]⟩,.slice none 0 0],.bool false]) Z:=by kernel_rfl
theorem Lz(v:Value)(Z:aC):fassert Tryz.prog (.iface 145 v) 177 true Z=.val (.tuple #[.agg #[.int .i64 0,.int .i64 0,.string ⟨#[]⟩,.slice none 0 0],.bool false]) Z:=by kernel_rfl
theorem OG(v:Value)(Z:aC):fassert Tryz.prog (.iface 181 v) 177 true Z=.val (.tuple #[.agg #[.int .i64 0,.int .i64 0,.string ⟨#[]⟩,.slice none 0 0],.bool false]) Z:=by kernel_rfl
theorem HI(v:Value)(Z:aC):fassert Tryz.prog (.iface 181 v) 145 true Z=.val (.tuple #[.agg #[.int .i64 0,.int .i64 0,.string ⟨#[]⟩,.slice none 0 0],.bool false]) Z:=by kernel_rfl
inductive Good (m:Nat):Nat->Int->ByteArray->Nat->Prop
 | nil:Good m 0 0 ⟨#[]⟩ 0
 | bool (z:Int) (h:0<=z/\z<=1):Good m 1 z ⟨#[]⟩ 0
 | num (z:Int) (h : -999999999<=z/\z<=999999999):Good m 2 z ⟨#[]⟩ 0
 | sym (t:ByteArray) (h:∀V,Wf V->Gives ((env m).call 158 [.string t] none V) V fun w _=>w=.bool true):Good m 3 0 t 0
 | str (t:ByteArray) (hs:t.size<=60) (h:∀V,Wf V->Gives ((env m).call 159 [.string t] none V) V fun w _=>w=.bool true):Good m 4 0 t 0
 | pair:Good m 5 0 ⟨#[]⟩ 2
 | vec (l:Nat):Good m 6 0 ⟨#[]⟩ l
theorem MV(n k:Nat)(z:Int)(t:ByteArray)(p:Option Addr)(l c:Nat)(hG:Good n k z t l)(Z:aC)(hw:Wf Z):
  Gives ((env (n+2)).call 112 [.agg #[.int .i64 (k:Int),.int .i64 z,.string t,.slice p l c]] none Z) Z fun w _=>w=.tuple #[]:=by
 have hk:k<=6:=by cases hG<;>decide
 have hX1:=(Ext.refl Z).push (.cells [.int .i64 (k:Int),.int .i64 z,.string t,.slice p l c] 24) none
 have hw1:=hw.push (.cells [.int .i64 (k:Int),.int .i64 z,.string t,.slice p l c] 24) none
 obtain⟨_,a_,e2,hX2,hw2,rfl⟩:=EY n k hk z t (.slice p l c) rfl _ hw1
 have hX:=hX1.trans hX2
 rw[Ai _ 112 _ _ rfl,UB _ _ _ _ (by simp),Ah]
 unfold Ty
 cases hG with
 | nil=>
  obtain⟨_,bT,e3,hX3,hw3,rfl⟩:=Qs n ((0:Nat):Int) p c a_ hw2
  have wt:workType 0=180:=rfl
  simp -implicitDefEqProofs only[go_sem,Dg,DZ,Dh,D0,Dj,D2,Eh,EA,Ei,EB,E4,Ft,e2,wt,Vg,e3,Afj,Ud]
  exact⟨_,_,rfl,hX.trans hX3,hw3,rfl⟩
 | bool z h=>
  obtain⟨_,bT,e3,hX3,hw3,rfl⟩:=Fa n ((1:Nat):Int) z p c a_ hw2
  obtain⟨_,bX,e5,hX5,hw5,rfl⟩:=IG n 1 z (.inl ⟨rfl,h⟩) ⟨#[]⟩ (.slice p 0 c) rfl ((bT.push (.cells [.int .i64 0,.int .i64 0,.string ⟨#[]⟩,.slice none 0 0] 177) none).put bT.next (.cells [.int .i64 ((1:Nat):Int),.int .i64 z,.string ⟨#[]⟩,.slice p 0 c] 177) none) ((hw3.push _ _).put _ _ _ (Nat.lt_succ_self _))
  have hX4:=(((hX.trans hX3).push (.cells [.int .i64 0,.int .i64 0,.string ⟨#[]⟩,.slice none 0 0] 177) none).put bT.next (.cells [.int .i64 ((1:Nat):Int),.int .i64 z,.string ⟨#[]⟩,.slice p 0 c] 177) none (hX.trans hX3).next).trans hX5
  have wt:workType 1=177:=rfl
  simp -implicitDefEqProofs only[go_sem,AP,Dg,DZ,Dh,D0,Dj,D2,Eh,EA,Ei,EB,HV,HU,HX,HW,e2,wt,FA,e3,Ja,e5]
  exact⟨_,_,rfl,hX4,hw5,rfl⟩
 | num z h=>
  obtain⟨_,bT,e3,hX3,hw3,rfl⟩:=Fa n ((2:Nat):Int) z p c a_ hw2
  obtain⟨_,bX,e5,hX5,hw5,rfl⟩:=IG n 2 z (.inr ⟨rfl,h⟩) ⟨#[]⟩ (.slice p 0 c) rfl ((bT.push (.cells [.int .i64 0,.int .i64 0,.string ⟨#[]⟩,.slice none 0 0] 177) none).put bT.next (.cells [.int .i64 ((2:Nat):Int),.int .i64 z,.string ⟨#[]⟩,.slice p 0 c] 177) none) ((hw3.push _ _).put _ _ _ (Nat.lt_succ_self _))
  have hX4:=(((hX.trans hX3).push (.cells [.int .i64 0,.int .i64 0,.string ⟨#[]⟩,.slice none 0 0] 177) none).put bT.next (.cells [.int .i64 ((2:Nat):Int),.int .i64 z,.string ⟨#[]⟩,.slice p 0 c] 177) none (hX.trans hX3).next).trans hX5
  have wt:workType 2=177:=rfl
  simp -implicitDefEqProofs only[go_sem,AP,Dg,DZ,Dh,D0,Dj,D2,Eh,EA,Ei,EB,HV,HU,HX,HW,e2,wt,FA,e3,Ja,e5]
  exact⟨_,_,rfl,hX4,hw5,rfl⟩
 | sym t h=>
  obtain⟨_,bT,e3,hX3,hw3,rfl⟩:=FV n ((3:Nat):Int) t p c a_ hw2
  obtain⟨_,bX,e5,hX5,hw5,rfl⟩:=Ht n 3 0 t (.slice p 0 c) rfl ((bT.push (.cells [.int .i64 0,.int .i64 0,.string ⟨#[]⟩,.slice none 0 0] 145) none).put bT.next (.cells [.int .i64 ((3:Nat):Int),.int .i64 0,.string t,.slice p 0 c] 145) none) ((hw3.push _ _).put _ _ _ (Nat.lt_succ_self _)) (.inl ⟨rfl,fun V _=>h V⟩)
  have hX4:=(((hX.trans hX3).push (.cells [.int .i64 0,.int .i64 0,.string ⟨#[]⟩,.slice none 0 0] 145) none).put bT.next (.cells [.int .i64 ((3:Nat):Int),.int .i64 0,.string t,.slice p 0 c] 145) none (hX.trans hX3).next).trans hX5
  have wt:workType 3=145:=rfl
  simp -implicitDefEqProofs only[go_sem,AP,Dg,DZ,Dh,D0,Dj,D2,Eh,EA,Ei,EB,E4,Ft,HZ,HY,GV,Gn,e2,wt,HR,e3,Kh,Lz,e5]
  exact⟨_,_,rfl,hX4,hw5,rfl⟩
 | str t hs h=>
  obtain⟨_,bT,e3,hX3,hw3,rfl⟩:=FV n ((4:Nat):Int) t p c a_ hw2
  obtain⟨_,bX,e5,hX5,hw5,rfl⟩:=Ht n 4 0 t (.slice p 0 c) rfl ((bT.push (.cells [.int .i64 0,.int .i64 0,.string ⟨#[]⟩,.slice none 0 0] 145) none).put bT.next (.cells [.int .i64 ((4:Nat):Int),.int .i64 0,.string t,.slice p 0 c] 145) none) ((hw3.push _ _).put _ _ _ (Nat.lt_succ_self _)) (.inr ⟨rfl,hs,fun V _=>h V⟩)
  have hX4:=(((hX.trans hX3).push (.cells [.int .i64 0,.int .i64 0,.string ⟨#[]⟩,.slice none 0 0] 145) none).put bT.next (.cells [.int .i64 ((4:Nat):Int),.int .i64 0,.string t,.slice p 0 c] 145) none (hX.trans hX3).next).trans hX5
  have wt:workType 4=145:=rfl
  simp -implicitDefEqProofs only[go_sem,AP,Dg,DZ,Dh,D0,Dj,D2,Eh,EA,Ei,EB,E4,Ft,HZ,HY,GV,Gn,e2,wt,HR,e3,Kh,Lz,e5]
  exact⟨_,_,rfl,hX4,hw5,rfl⟩
 | pair=>
  obtain⟨_,bT,e3,hX3,hw3,rfl⟩:=U_ n p c a_ hw2
  have e3':(env (n+1)).call 223 [.agg #[.int .i64 ((5:Nat):Int),.int .i64 0,.string ⟨#[]⟩,.slice p 2 c]] none a_=.ret (.bool true) none bT:=e3
  have wt:workType 5=181:=rfl
  simp -implicitDefEqProofs only[go_sem,Dg,DZ,Dh,D0,Dj,D2,Eh,EA,Ei,EB,E4,Ft,e2,wt,HQ,e3',OG,HI]
  exact⟨_,_,rfl,hX.trans hX3,hw3,rfl⟩
 | vec l=>
  obtain⟨_,bT,e3,hX3,hw3,rfl⟩:=XH n p l c a_ hw2
  have e3':(env (n+1)).call 223 [.agg #[.int .i64 ((6:Nat):Int),.int .i64 0,.string ⟨#[]⟩,.slice p l c]] none a_=.ret (.bool true) none bT:=e3
  have wt:workType 6=181:=rfl
  simp -implicitDefEqProofs only[go_sem,Dg,DZ,Dh,D0,Dj,D2,Eh,EA,Ei,EB,E4,Ft,e2,wt,HQ,e3',OG,HI]
  exact⟨_,_,rfl,hX.trans hX3,hw3,rfl⟩
end Go.Proofs.YtknnbjmcfibpgaaGreatDoor
namespace Go.Proofs.YtknnbjmcfibpgaaGreatDoor
open Go Go.Eng
attribute [local congr] Aa Af Ad Ab Ac
attribute [-go_sem] List.range_succ
theorem Afb(n:Nat)(t:ByteArray)(ht:t∈symTexts)(Z:aC):(env (n+20)).call 158 [.string t] none Z=.ret (.bool true) none Z:=by
 simp only[symTexts,List.mem_cons,List.not_mem_nil,or_false] at ht
 rcases ht with rfl|rfl|rfl|rfl|rfl|rfl|rfl|rfl<;>kernel_rfl
theorem HT(x y:Operand)(a b:Int)(Z:aC):i_lss Tryz.prog 21 x y (.int .i32 a) (.int .i32 b) Z=.val (.bool (decide (a<b))) Z:=by kernel_rfl
theorem LA(x y:Operand)(a b:Int)(Z:aC):i_gtr Tryz.prog 21 x y (.int .i32 a) (.int .i32 b) Z=.val (.bool (decide (a>b))) Z:=by kernel_rfl
theorem IZ{r:Nat}{Z:aC}{s:ByteArray}{pos w ver c:Nat}(hg:Z.heap.get r=some ⟨.siter s pos,false,none,ver⟩)(h:pos<s.size)(hd:Utf8.decode s pos=(c,w)):
  fnext (.pointer (some ⟨r,0,none⟩)) Z=.val (.tuple #[.bool true,goInt pos,.int .i32 (c:Int)]) (Z.put r (.siter s (pos+w)) none):=by
 unfold fnext
 simp only[hg,hd]
 rw[show Nat.blt pos s.size=true by simpa [Nat.blt_eq] using h]
 rfl
theorem Ac7{r:Nat}{Z:aC}{s:ByteArray}{pos ver:Nat}(hg:Z.heap.get r=some ⟨.siter s pos,false,none,ver⟩)(h:¬ pos<s.size):
  fnext (.pointer (some ⟨r,0,none⟩)) Z=.val (.tuple #[.bool false]) Z:=by
 unfold fnext
 simp only[hg]
 rw[show Nat.blt pos s.size=false by rw[<-Bool.not_eq_true,Nat.blt_eq];exact h]
 rfl
def PlainText(s:ByteArray):Prop:=∀pos,pos<s.size->∃c:Nat,Utf8.decode s pos=(c,1)/\32<=c/\c<=126
theorem Abi:bH nls 159=[6]:=by kernel_rfl
theorem Qz(n r:Nat)(s:ByteArray)(hs:PlainText s)(bU:aC)(hr:bU.next<=r):∀(m pos fuel:Nat) (f g:Nat->Value) (Z:aC),pos+m=s.size->m<fuel->g 6=.pointer (some ⟨r,0,none⟩)->Wf Z->Ext bU Z->
  (∃ver,Z.heap.get r=some ⟨.siter s pos,false,none,ver⟩)->
  ∃f' g' V,floop [6] (Hv (env n) none 159) fuel (Sl 5 16 f g []) none Z=.done (.exit 0) (Sl 5 16 f' g' []) none V/\Wf V/\Ext bU V:=by
 intro m
 induction m with
 | zero=>
  intro pos fuel f g Z hp hf h6 hw hX ⟨ver,hg⟩
  obtain⟨fuel,rfl⟩:∃q,fuel=q+1:=⟨fuel-1,by omega⟩
  have hn:=Ac7 hg (by omega)
  rw[Ap]
  unfold Hv
  simp -implicitDefEqProofs only[go_sem,Gz,G8,h6,hn,List.mem_cons,List.not_mem_nil]
  exact⟨_,_,_,rfl,hw,hX⟩
 | succ m ih=>
  intro pos fuel f g Z hp hf h6 hw hX ⟨ver,hg⟩
  obtain⟨fuel,rfl⟩:∃q,fuel=q+1:=⟨fuel-1,by omega⟩
  obtain⟨c,hd,h1,h2⟩:=hs pos (by omega)
  have hn:=IZ hg (by omega) hd
  have d1:decide ((c:Int)<32)=false:=by simp;omega
  have d2:decide ((c:Int)>126)=false:=by simp;omega
  rw[Ap]
  unfold Hv
  simp -implicitDefEqProofs only[go_sem,Gz,G8,Ip,Io,Ir,Iq,h6,hn,List.mem_cons,List.not_mem_nil,HT,LA,d1,d2]
  refine ih (pos+1) fuel _ _ _ (by omega) (by omega) ?_ (hw.put _ _ _ (hw _ _ hg).1) (hX.put _ _ _ hr) ⟨_,by rw[Ak,if_pos rfl]⟩
  simp -implicitDefEqProofs only[go_sem,reduceCtorEq,h6,List.mem_cons,List.not_mem_nil,true_or]
theorem MW(n:Nat)(s:ByteArray)(hs:PlainText s)(hsz:s.size<1000000)(Z:aC)(hw:Wf Z):Gives ((env (n+1)).call 159 [.string s] none Z) Z fun w _=>w=.bool true:=by
 rw[Ai _ 159 _ _ rfl,UJ _ _ _ _ (by simp),Ah]
 unfold TH
 have hfr:frangeS (.string s) Z=.val (.pointer (some ⟨Z.next,0,none⟩)) (Z.push (.siter s 0) none):=rfl
 simp -implicitDefEqProofs only[go_sem,PE,Me,PF,Mf,hfr,Abi]
 generalize hf:upd (fun _=>_) 2 _=f1
 generalize hbf:bL=fuel
 obtain⟨f',g',V,e,hw',hX'⟩:=Qz n Z.next s hs Z (Nat.le_refl _) s.size 0 fuel f1 (upd (upd (fun _=>undef) 5 (.string s)) 6 (.pointer (some ⟨Z.next,0,none⟩))) (Z.push (.siter s 0) none) (by omega) (by rw[<-hbf];show s.size<1000000000000;omega) (by simp -implicitDefEqProofs only[go_sem,reduceCtorEq]) (hw.push _ _) ((Ext.refl _).push _ _) ⟨_,by rw[Aj,if_pos rfl]⟩
 rw[e]
 simp -implicitDefEqProofs only[go_sem,Aer,RS]
 exact⟨_,_,rfl,hX',hw',rfl⟩
theorem Agv(s:ByteArray)(h:((List.range s.size).all fun p=>(Utf8.decode s p).2==1&&decide (32<=(Utf8.decode s p).1)&&decide ((Utf8.decode s p).1<=126))=true):PlainText s:=by
 intro pos hp
 have:=List.all_eq_true.1 h pos (List.mem_range.2 hp)
 simp only[Bool.and_eq_true,beq_iff_eq,decide_eq_true_eq] at this
 exact⟨(Utf8.decode s pos).1,by rw[<-this.1.1],this.1.2,this.2⟩
theorem Ae9(n:Nat)(t:ByteArray)(ht:t∈strTexts)(Z:aC)(hw:Wf Z):Gives ((env (n+1)).call 159 [.string t] none Z) Z fun w _=>w=.bool true:=by
 simp only[strTexts,List.mem_cons,List.not_mem_nil,or_false] at ht
 rcases ht with rfl|rfl|rfl|rfl|rfl<;>exact MW n _ (Agv _ (by kernel_rfl)) (by decide) Z hw
theorem Adi(n:Nat){k:Int}{z:Int}{t:ByteArray}{l:List D}(h:Leaf (.mk k z t l)):∃k':Nat,k=(k':Int)/\Good (n+20) k' z t 0/\l=[]:=by
 cases h with
 | nil=>exact⟨0,rfl,.nil,rfl⟩
 | bool b=>exact⟨1,rfl,.bool _ (by cases b<;>simp),rfl⟩
 | num z h=>exact⟨2,rfl,.num _ (by omega),rfl⟩
 | sym t ht=>exact⟨3,rfl,.sym _ fun V hw=>⟨_,V,Afb n t ht V,Ext.refl _,hw,rfl⟩,rfl⟩
 | str t ht=>exact⟨4,rfl,.str _ (by
   simp only[strTexts,List.mem_cons,List.not_mem_nil,or_false] at ht
   rcases ht with rfl|rfl|rfl|rfl|rfl<;>decide) fun V hw=>Ae9 (n+19) t ht V hw,rfl⟩
end Go.Proofs.YtknnbjmcfibpgaaGreatDoor
namespace Go.Proofs.YtknnbjmcfibpgaaGreatDoor
open Go Go.Eng
attribute [local congr] Aa Af Ad Ab Ac
attribute [-go_sem] List.range_succ
theorem XZ(n:Nat)(p:Option Addr)(l:List Int)(cp:Nat)(hl:l.length<9223372036854775808)(Z:aC)(hw:Wf Z)(hI:Ints Z p l)(hp:∀a,p=some a->a.block<Z.next):
  ∃V,(env (n+1)).call 9 [.slice p l.length cp] none Z=.ret (.pointer (some ⟨Z.next,0,none⟩)) none V/\Ext Z V/\Wf V/\Coil V Z.next 0:=by
 rw[Ai _ 9 _ _ rfl,AvQ _ _ _ _ (by simp),Ah]
 unfold Axa
 simp -implicitDefEqProofs only[go_sem,AP,Arq,Am5,Arr,Am6]
 refine⟨_,rfl,(Ext.refl _).push _ _,hw.push _ _,p,l,cp,_,_,by rw[Aj,if_pos rfl];rfl,?_,hl,hp⟩
 intro i z hi
 obtain⟨b,off,cs,hb,h1,h2⟩:=hI i z hi
 exact⟨b,off,cs,hb,by rw[Al,if_neg (Nat.ne_of_lt (hp _ hb))];exact h1,h2⟩
theorem UN(n x:Nat)(k:Int)(hk:k<=2000)(p:Option Addr)(l c:Nat)(Z:aC)(m:Value)(hc:Z.cells x=some [.int .i64 k,m]):
  (env (n+1)).call 110 [.pointer (some ⟨x,0,none⟩),.slice p l c] none Z=.ret (.bool true) none Z:=by
 have d1:decide (k<=2000)=true:=by simpa using hk
 rw[Ai _ 110 _ _ rfl,AfC _ _ _ _ (by simp),Ah]
 unfold Aap
 cases e:(Int.ofNat l==0) with
 | true=>simp -implicitDefEqProofs only[go_sem,Pa,LH,Pb,LI,Pc,LJ,e]
 | false=>simp -implicitDefEqProofs only[go_sem,Pa,LH,Pb,LI,Pc,LJ,e,hc,d1]
theorem HP(n:Nat)(g:Value)(w:Nat)(first:Array Value)(hg:g=.func (.func w) first #[])(k z:Int)(t:ByteArray)(s:Value)(hs:oneCell s=true)(Z:aC)(hw:Wf Z)(h:∀V,Ext Z V->Wf V->Gives ((env n).call w (first.toList++[s]) none V) V fun v _=>v=.bool true):
  Gives ((env (n+1)).call 138 [.agg #[g],.agg #[.int .i64 k,.int .i64 z,.string t,s]] none Z) Z fun v _=>v=s:=by
 subst hg
 have hX1:=((Ext.refl Z).push (.cells [.func (.func w) first #[]] 135) none).push (.cells [.int .i64 k,.int .i64 z,.string t,s] 24) none
 have hw1:=(hw.push (.cells [.func (.func w) first #[]] 135) none).push (.cells [.int .i64 k,.int .i64 z,.string t,s] 24) none
 obtain⟨_,a_,e2,hX2,hw2,rfl⟩:=h _ hX1 hw1
 have c2:a_.cells (Z.next+1)=some [.int .i64 k,.int .i64 z,.string t,s]:=(hX2.cells (Nat.lt_succ_self _)).trans (by rw[Al,if_pos (by rw[Ae])];rfl)
 rw[Ai _ 138 _ _ rfl,AfL _ _ _ _ (by simp),Ah]
 unfold Aay
 simp -implicitDefEqProofs only[go_sem,Ad3,Rp,Ad4,Rq,Ad5,Rs,e2,c2,DX,Eu]
 exact⟨_,_,rfl,hX1.trans hX2,hw2,rfl⟩
end Go.Proofs.YtknnbjmcfibpgaaGreatDoor
namespace Go.Eng
open Go
def D.parts:D->List D
 | .mk _ _ _ ds=>ds
mutual
def D.pieces(path:List Nat):D->List (List Nat×D)
 | .mk k n t ds=>(path,.mk k n t ds)::D.piecesL path 0 ds
def D.piecesL(path:List Nat)(i:Nat):List D->List (List Nat×D)
 | []=>[]
 | d::ds=>D.pieces (path++[i]) d++D.piecesL path (i+1) ds
end
theorem D.pieces_eq(path:List Nat)(d:D):d.pieces path=(path,d)::D.piecesL path 0 d.parts:=by
 cases d
 simp[D.pieces,D.parts]
def wayOf(st:List (List D×Nat)):List Nat:=(st.map (·.2)).reverse
theorem E_(ds:List D)(i:Nat)(r:List (List D×Nat)):wayOf ((ds,i)::r)=wayOf r++[i]:=by simp[wayOf]
theorem Dw(st:List (List D×Nat)):(wayOf st).length=st.length:=by simp[wayOf]
def below:List (List D×Nat)->List (List Nat×D)
 | []=>[]
 | (ds,i)::r=>D.piecesL (wayOf r) (i+1) (ds.drop (i+1))++below r
def todo:List (List D×Nat)->List (List Nat×D)
 | []=>[]
 | (ds,i)::r=>D.piecesL (wayOf r) i (ds.drop i)++below r
theorem FL{ds:List D}{i:Nat}{d:D}(r:List (List D×Nat))(h:ds[i]? = some d):todo ((ds,i)::r)=(wayOf r++[i],d)::todo ((d.parts,0)::(ds,i)::r):=by
 have hd:ds.drop i=d::ds.drop (i+1):=by
  obtain⟨hi,rfl⟩:=List.getElem?_eq_some_iff.1 h
  rw[List.drop_eq_getElem_cons hi]
 show D.piecesL (wayOf r) i (ds.drop i)++below r=_
 rw[hd,D.piecesL,D.pieces_eq]
 show _=(wayOf r++[i],d)::(D.piecesL (wayOf ((ds,i)::r)) 0 (d.parts.drop 0)++below ((ds,i)::r))
 rw[E_,below,List.drop_zero]
 simp
theorem NY{ds:List D}(r:List (List D×Nat)):todo ((ds,ds.length)::r)=below r:=by
 show D.piecesL (wayOf r) ds.length (ds.drop ds.length)++below r=_
 rw[List.drop_length,D.piecesL,List.nil_append]
def bump:List (List D×Nat)->List (List D×Nat)
 | []=>[]
 | (ds,i)::r=>(ds,i+1)::r
theorem IP(r:List (List D×Nat)):below r=todo (bump r):=by cases r<;>rfl
structure Chg (F:Nat->Prop) (Z V:aC):Prop where
 next:Z.next<=V.next
 clock:Z.clock<=V.clock
 get:∀b,b<Z.next->¬ F b->V.heap.get b=Z.heap.get b
theorem Chg.refl(F:Nat->Prop)(Z:aC):Chg F Z Z:=⟨Nat.le_refl _,Nat.le_refl _,fun _ _ _=>rfl⟩
theorem Chg.trans{F G:Nat->Prop}{Z bV b_:aC}(h:Chg F Z bV)(k:Chg G bV b_)(hG:∀b,b<Z.next->G b->F b):Chg F Z b_:=
 ⟨Nat.le_trans h.next k.next,Nat.le_trans h.clock k.clock,fun b hb hF=>(k.get b (Nat.lt_of_lt_of_le hb h.next) fun hg=>hF (hG b hb hg)).trans (h.get b hb hF)⟩
theorem Chg.weaken{F G:Nat->Prop}{Z V:aC}(h:Chg F Z V)(hG:∀b,b<Z.next->F b->G b):Chg G Z V:=⟨h.next,h.clock,fun b hb hg=>h.get b hb fun hf=>hg (hG b hb hf)⟩
theorem Ext.chg{Z V:aC}(h:Ext Z V)(F:Nat->Prop):Chg F Z V:=⟨h.next,h.clock,fun b hb _=>h.get b hb⟩
theorem Chg.push{F:Nat->Prop}{Z bV:aC}(h:Chg F Z bV)(o:FObj)(fz:Option Nat):Chg F Z (bV.push o fz):=
 ⟨Nat.le_succ_of_le h.next,Nat.le_succ_of_le h.clock,fun b hb hF=>by
  rw[Aj,if_neg (by have:=h.next;omega)]
  exact h.get b hb hF⟩
theorem Chg.put{F:Nat->Prop}{Z bV:aC}(h:Chg F Z bV)(c:Nat)(o:FObj)(fz:Option Nat)(hc:Z.next<=c\/F c):Chg F Z (bV.put c o fz):=
 ⟨h.next,Nat.le_succ_of_le h.clock,fun b hb hF=>by
  rw[Ak,if_neg (by
   intro he
   subst he
   rcases hc with hc|hc
   .omega
   .exact hF hc)]
  exact h.get b hb hF⟩
theorem Chg.cells{F:Nat->Prop}{Z V:aC}(h:Chg F Z V){b:Nat}(hb:b<Z.next)(hF:¬ F b):V.cells b=Z.cells b:=by
 rw[Av,Av,h.get b hb hF]
theorem Chg.ext{F:Nat->Prop}{Z V:aC}(h:Chg F Z V)(hF:∀b,b<Z.next->¬ F b):Ext Z V:=⟨h.next,h.clock,fun b hb=>h.get b hb (hF b hb)⟩
def Stk(T:TypeId)(Z:aC)(b:Nat)(s:Value)(vs:List Value):Prop:=
 ∃c fz ver,s=.slice (some ⟨b,0,none⟩) vs.length c.length/\Z.heap.get b=some ⟨.cells c T,false,fz,ver⟩/\(fz=none\/fz=some 1)/\∃more,c=vs++more
section
variable {T:TypeId} {Z V:aC} {b:Nat} {s:Value} {vs:List Value}
theorem Stk.keep(h:Stk T Z b s vs)(hb:V.heap.get b=Z.heap.get b):Stk T V b s vs:=by
 obtain⟨c,fz,ver,h1,h2,h3⟩:=h
 exact⟨c,fz,ver,h1,hb.trans h2,h3⟩
theorem Stk.lt(h:Stk T Z b s vs)(hw:Wf Z):b<Z.next:=by
 obtain⟨c,fz,ver,h1,h2,h3⟩:=h
 exact(hw _ _ h2).1
theorem Stk.cells(h:Stk T Z b s vs):∃more,s=.slice (some ⟨b,0,none⟩) vs.length (vs++more).length/\Z.cells b=some (vs++more):=by
 obtain⟨c,fz,ver,h1,h2,h3,more,rfl⟩:=h
 exact⟨more,h1,AB h2⟩
theorem Stk.pop{v:Value}(h:Stk T Z b s (vs++[v])):∃n,s=.slice (some ⟨b,0,none⟩) (vs.length+1) n/\vs.length<=n/\Stk T Z b (.slice (some ⟨b,0,none⟩) vs.length n) vs:=by
 obtain⟨c,fz,ver,h1,h2,h3,more,rfl⟩:=h
 exact⟨_,by rw[h1];simp,by simp,_,fz,ver,rfl,h2,h3,v::more,by simp⟩
theorem Stk.set{v v':Value}(h:Stk T Z b s (vs++[v])):∃more fz,Z.heap.get b=some ⟨.cells (vs++v::more) T,false,fz,((Z.heap.get b).map (·.ver)).getD 0⟩/\Stk T (Z.put b (.cells (vs++v'::more) T) fz) b s (vs++[v']):=by
 obtain⟨c,fz,ver,h1,h2,h3,more,rfl⟩:=h
 refine⟨more,fz,by rw[h2];simp,vs++v'::more,fz,Z.clock,?_,by rw[Ak,if_pos rfl],h3,more,by simp⟩
 rw[h1]
 simp
theorem Stk.last{v:Value}(h:Stk T Z b s (vs++[v])):∃c,Z.cells b=some c/\c[vs.length]? = some v:=by
 obtain⟨c,fz,ver,h1,h2,h3,more,rfl⟩:=h
 exact⟨_,AB h2,by simp⟩
theorem Stk.store{v v':Value}(h:Stk T Z b s (vs++[v]))(hw:Wf Z)(ho:oneCell v'=true):
  ∃τ,aK 1 (.pointer (some ⟨b,vs.length,none⟩)) v' Z=.skip τ/\Stk T τ b s (vs++[v'])/\Chg (· = b) Z τ/\Wf τ:=by
 have hb:=h.lt hw
 obtain⟨c,fz,ver,h1,h2,h3,more,rfl⟩:=h
 have hs:(vs++[v]++more).set vs.length v'=vs++v'::more:=by simp
 have hl:vs.length<(vs++[v]++more).length:=by simp
 refine⟨Z.put b (.cells (vs++v'::more) T) fz,?_,⟨vs++v'::more,fz,Z.clock,?_,by rw[Ak,if_pos rfl],h3,more,by simp⟩,(Chg.refl (· = b) _).put _ _ _ (.inr rfl),hw.put _ _ _ hb⟩
 .rw[Dm _ _ _ _ ho,h2]
  simp only[]
  rw[if_pos hl,hs]
 .rw[h1]
  simp
theorem Stk.append(h:Stk T Z b s vs)(hw:Wf Z)(v:Value)(bytes bx cx:Nat)(hx:Z.cells bx=some [v])(ho:oneCell v=true)(hby:bytes<1000)(hlen:vs.length<100000):
  ∃b' s' τ,fappend T 1 bytes s (.slice (some ⟨bx,0,none⟩) 1 cx) Z=.val s' τ/\Stk T τ b' s' (vs++[v])/\(b'=b\/b'=Z.next)/\Chg (· = b) Z τ/\Wf τ:=by
 have hb:=h.lt hw
 obtain⟨c,fz,ver,rfl,h2,h3,more,rfl⟩:=h
 cases more with
 | nil=>
  rw[List.append_nil] at h2
  obtain⟨τ,e,hτ⟩:=P2 T bytes b bx cx vs.length ver fz vs v Z h2 h3 hx ho rfl hby hlen
  rw[List.append_nil]
  refine⟨Z.next,_,τ,e,?_,.inr rfl,?_,?_⟩
  .rcases hτ with rfl|rfl
   .exact⟨vs++[v],some 1,_,by simp,by rw[Aj,if_pos rfl],.inr rfl,[],by simp⟩
   .exact⟨vs++[v],some 1,_,by simp,by rw[Aj,if_pos (by rw[Ao])],.inr rfl,[],by simp⟩
  .rcases hτ with rfl|rfl
   .exact(Chg.refl (· = b) _).push _ _
   .exact((Chg.refl (· = b) _).put _ _ _ (.inr rfl)).push _ _
  .rcases hτ with rfl|rfl
   .exact hw.push _ _
   .exact(hw.put _ _ _ hb).push _ _
 | cons y more=>
  have hlt:vs.length<(vs++y::more).length:=by simp
  refine⟨b,_,_,P3 T bytes b bx cx vs.length (vs++y::more).length ver fz T _ v Z h2 hx ho hlt (Nat.le_refl _),?_,.inl rfl,(Chg.refl (· = b) _).put _ _ _ (.inr rfl),hw.put _ _ _ hb⟩
  have hs:(vs++y::more).set vs.length v=vs++v::more:=by
   rw[List.set_append_right _ _ (Nat.le_refl _),Nat.sub_self]
   rfl
  rw[hs]
  exact⟨vs++v::more,fz,_,by simp,by rw[Ak,if_pos rfl],h3,more,by simp⟩
end
end Go.Eng
namespace Go.Proofs.YtknnbjmcfibpgaaGreatDoor
open Go Go.Eng
section
variable (E:Env) (fn:FuncId) (params:List Tmp) (assign body:Code) (nl nt:Nat) (f g:Nat->Value) (ds:List Deferred) (u:Option FrameMode) (Z:aC)
def bR(l r:Nat)(st:LoopState)(Z:aC):Prop:=∃ver,Z.heap.get l=some ⟨.loop st none fn ((List.range nl).map f) g nl nt params assign body r,false,none,ver⟩
theorem Kz(t:Nat)(fx:FuncId)(first cap:Array Value)(h:(Sl nl nt f g ds).get t=.func (.func fx) first cap):
  frange E none fn (.tmp t) params assign body (Sl nl nt f g ds) u Z=leaveLoop (Z.next+1) [{ target:=.collected Z.next,args:=#[] }] (Sl nl nt f g ds) u
   (E.call fx (first.toList++[.func (.yield (Z.next+1)) #[] #[]]++cap.toList) none ((Z.push (.defd true) none).push (.loop .ready none fn ((List.range nl).map f) g nl nt params assign body Z.next) none)):=by
 show enterLoop E fn (.tmp t) params assign body Z.next _ _ u _=_
 unfold enterLoop
 rw[Afz,h]
 rfl
theorem Jt(l r:Nat)(mark:List Deferred)(v:Value)(u':Option FrameMode)(h:bR fn params assign body nl nt f g l r .ready Z):
  leaveLoop l mark (Sl nl nt f g ds) u (.ret v u' Z)=.done .normal (Sl nl nt f g (mark++ds)) u (Z.put l (.loop .exhausted none fn ((List.range nl).map f) g nl nt params assign body r) none):=by
 obtain⟨ver,h⟩:=h
 unfold leaveLoop
 simp only[h]
 rfl
theorem Gk:bR fn params assign body nl nt f g (Z.next+1) Z.next .ready ((Z.push (.defd true) none).push (.loop .ready none fn ((List.range nl).map f) g nl nt params assign body Z.next) none):=
 ⟨_,by rw[Aj,if_pos (by rw[Ae])]⟩
end
section
variable (fn:FuncId) (params:List Tmp) (assign body:Code) (nl nt:Nat) (f g:Nat->Value) (Z:aC)
theorem GG(n l r:Nat)(args:List Value)(h:bR fn params assign body nl nt f g l r .ready Z)(hn:args.length=params.length):
  (env (n+1)).round l args Z=(match code Tryz.prog nls assign (env n) (some l) fn (putAll (Sl nl nt f g []) (params.zip args)) none Z with
     | .done .normal a _ Z=>beginRound l (fun Z=>endRound (Tryz.prog.funcs[fn]?).isSome l (code Tryz.prog nls body (env n) (some l) fn a none Z)) Z
     | _=>.no):=by
 obtain⟨ver,h⟩:=h
 rw[AcY]
 unfold fround
 simp only[h]
 rw[show Nat.beq (len args) (len params)=true by rw[Nat.beq_eq,EC,EC];exact hn]
 rfl
theorem Es(l r:Nat)(k:aC->CRes)(h:bR fn params assign body nl nt f g l r .ready Z):
  beginRound l k Z=k (Z.put l (.loop .busy none fn ((List.range nl).map f) g nl nt params assign body r) none):=by
 obtain⟨ver,h⟩:=h
 unfold beginRound
 simp only[h]
 rfl
theorem Ej(known:Bool)(l r:Nat)(a:aV)(u:Option FrameMode)(h:bR fn params assign body nl nt f g l r .busy Z):
  endRound known l (.done .normal a u Z)=.ret (.bool true) none (Z.put l (.loop .ready none fn ((List.range nl).map f) g nl nt params assign body r) none):=by
 obtain⟨ver,h⟩:=h
 show endJump l .ready none true Z=_
 unfold endJump setJump
 simp only[h]
 rfl
theorem bR.put(l r:Nat)(st:LoopState)(Z:aC):bR fn params assign body nl nt f g l r st (Z.put l (.loop st none fn ((List.range nl).map f) g nl nt params assign body r) none):=⟨_,by rw[Ak,if_pos rfl]⟩
theorem E2(a:aV):putAll a []=a:=rfl
theorem EN(a:aV)(t:Tmp)(v:Value)(l:List (Tmp×Value)):putAll a ((t,v)::l)=putAll (a.put (some t) v) l:=rfl
end
section
variable (P:Program) (E:Env) (rs:List ResultVar) (a:aV) (u:Option FrameMode) (Z:aC)
theorem Ez(r:Nat)(args:Array Value)(ds:List Deferred)(ver:Nat)(h:Z.heap.get r=some ⟨.defd true,false,none,ver⟩):
  fleave P E rs a u ({ target:=.collected r,args:=args }::ds) .returning Z=fleave P E rs a u ds .returning (Z.put r (.defd false) none):=by
 show (cond (isRun .returning) CRes.no (match Z.heap.get r with
    | some e=>(match e.obj with
     | .defd true=>cond e.ro CRes.no (fleave P E rs a u ds .returning (Z.put r (.defd false) none))
     | _=>CRes.no)
    | none=>CRes.no))=_
 rw[h]
 rfl
theorem EJ(dst:Option Tmp)(k:aZ)(ro:Option Nat)(l:Nat)(args:List Value)(s:aC):afterOp E ro dst a u k (.yield l args s)=afterCall a dst u k (E.round l args s):=rfl
theorem Ey(l:Nat)(args:List Value):fcallV (.func (.yield l) #[] #[]) args Z=.yield l args Z:=rfl
end
theorem bR.keep{fn:FuncId}{params:List Tmp}{assign body:Code}{nl nt:Nat}{f g:Nat->Value}{l r:Nat}{st:LoopState}{Z V:aC}(h:bR fn params assign body nl nt f g l r st Z)(hb:V.heap.get l=Z.heap.get l):bR fn params assign body nl nt f g l r st V:=by
 obtain⟨ver,h⟩:=h
 exact⟨ver,hb.trans h⟩
theorem Afd{Z:aC}(hw:Wf Z){lam:Nat}(hl:Z.clock<=lam)(b:Nat):(view Z lam).heap.get b=Z.heap.get b:=by
 rw[Kc]
 cases hg:Z.heap.get b with
 | none=>rfl
 | some e=>simp only;rw[if_pos (by have:=(hw b e hg).2;omega)]
end Go.Proofs.YtknnbjmcfibpgaaGreatDoor
namespace Go.Proofs.YtknnbjmcfibpgaaGreatDoor
open Go Go.Eng
attribute [local congr] Aa Af Ad Ab Ac
attribute [-go_sem] List.range_succ
abbrev TD:TypeId:=24
abbrev TL:TypeId:=22
abbrev TI:TypeId:=3
def PathAt(Z:aC)(v:Value)(path:List Nat):Prop:=
 ∃p c,v=.slice p path.length c/\((path=[]/\p=none/\c=0)\/∃b more,p=some ⟨b,0,none⟩/\Z.cells b=some ((path.map fun i=>Value.int .i64 (.ofNat i))++more))
structure Body (E:Env) (l:Nat) (R:Nat->Prop) (g:Value) (I:List (List Nat×D)->(Nat->Prop)->aC->Prop) (all:List (List Nat×D)):Prop where
 stays:∀done B Z V,I done B Z->Wf Z->Chg (fun b=>¬ B b/\¬ R b) Z V->I done B V
 own:∀done B Z,I done B Z->∀b,B b->b<Z.next/\¬ R b
 inside:∀done B Z k z t p ln c,I done B Z->Wf Z->Gives (E.call 138 [.agg #[g],.agg #[.int .i64 k,.int .i64 z,.string t,.slice p ln c]] none Z) Z fun v _=>v=.slice p ln c
 go:∀done path d rest B Z pv v,all=done++(path,d)::rest->Wf Z->I done B Z->PathAt Z pv path->aU R Z v d->
  ∃B' V,E.round l [pv,v] Z=.ret (.bool true) none V/\Wf V/\Chg B Z V/\(∀b,B' b->B b\/Z.next<=b)/\I (done++[(path,d)]) B' V
structure BodyTo (kk:Nat) (E:Env) (l:Nat) (R:Nat->Prop) (g:Value) (I:List (List Nat×D)->(Nat->Prop)->aC->Prop) (all:List (List Nat×D)):Prop where
 stays:∀done B Z V,I done B Z->Wf Z->Chg (fun b=>¬ B b/\¬ R b) Z V->I done B V
 own:∀done B Z,I done B Z->∀b,B b->b<Z.next/\¬ R b
 inside:∀done B Z k z t p ln c,I done B Z->Wf Z->Gives (E.call 138 [.agg #[g],.agg #[.int .i64 k,.int .i64 z,.string t,.slice p ln c]] none Z) Z fun v _=>v=.slice p ln c
 go:∀done path d rest B Z pv v,done.length<kk->all=done++(path,d)::rest->Wf Z->I done B Z->PathAt Z pv path->aU R Z v d->
  ∃B' V,E.round l [pv,v] Z=.ret (.bool true) none V/\Wf V/\Chg B Z V/\(∀b,B' b->B b\/Z.next<=b)/\I (done++[(path,d)]) B' V
theorem Body.to{E:Env}{l:Nat}{R:Nat->Prop}{g:Value}{I:List (List Nat×D)->(Nat->Prop)->aC->Prop}{all:List (List Nat×D)}(h:Body E l R g I all):BodyTo all.length E l R g I all:=⟨h.stays,h.own,h.inside,fun done path d rest B Z pv v _=>h.go done path d rest B Z pv v⟩
def Levels(R:Nat->Prop)(Z:aC):Nat->List Value->List (List D×Nat)->Prop
 | _,[],[]=>True
 | m,u::us,(ds,i)::r=>(∃p c,u=.slice p ds.length c/\bF R Z p 0 ds)/\i+m<=ds.length/\ds.length<1000000000/\Levels R Z 1 us r
 | _,_,_=>False
theorem Levels.keep{R:Nat->Prop}{Z V:aC}(h:∀b cs,R b->Z.cells b=some cs->V.cells b=some cs):∀ {m:Nat} {us:List Value} {st:List (List D×Nat)},Levels R Z m us st->Levels R V m us st
 | _,[],[],_=>trivial
 | _,_::_,(_,_)::_,⟨⟨p,c,h1,h2⟩,h3,h4,h5⟩=>⟨⟨p,c,h1,h2.keep fun b cs hb hc=>⟨h b cs hb hc,hb⟩⟩,h3,h4,h5.keep h⟩
theorem Levels.length{R:Nat->Prop}{Z:aC}:∀ {m:Nat} {us:List Value} {st:List (List D×Nat)},Levels R Z m us st->us.length=st.length
 | _,[],[],_=>rfl
 | _,_::_,(_,_)::_,⟨_,_,_,h⟩=>congrArg (· + 1) h.length
theorem Levels.bump{R:Nat->Prop}{Z:aC}:∀ {us:List Value} {st:List (List D×Nat)},Levels R Z 1 us st->Levels R Z 0 us (bump st)
 | [],[],_=>trivial
 | _::_,(_,_)::_,⟨h1,h3,h4,h5⟩=>⟨h1,h3,h4,h5⟩
structure WHead (l:Nat) (R:Nat->Prop) (g:Value) (I:List (List Nat×D)->(Nat->Prop)->aC->Prop) (all:List (List Nat×D)) (bw bo bp base:Nat) (B:Nat->Prop) (us:List Value) (st:List (List D×Nat)) (done:List (List Nat×D)) (f:Nat->Value) (Z:aC):Prop where
 f0:f 0=.func (.yield l) #[] #[]
 f2:f 2=.pointer (some ⟨bw,0,none⟩)
 cw:Z.cells bw=some [g]
 hbw:bw<base/\¬ B bw
 opn:Stk TL Z bo (f 4) us.reverse
 hbo:base<=bo/\¬ B bo
 lev:Levels R Z 0 us st
 low:∀b,R b->b<base
 pth:Stk TI Z bp (f 5) ((wayOf st).map fun i=>.int .i64 (.ofNat i))
 hbp:base<=bp/\¬ B bp
 ne:bo≠bp
 inv:I done B Z
 all:all=done++todo st
 wf:Wf Z
 base:base<=Z.next
theorem aU.shape{R:Nat->Prop}{Z:aC}{v:Value}{d:D}(h:aU R Z v d):∃k z t p c,v=.agg #[.int .i64 k,.int .i64 z,.string t,.slice p d.parts.length c]/\bF R Z p 0 d.parts:=by
 obtain⟨k,z,t,ds⟩:=d
 obtain⟨p,c,h1,h2⟩:=h
 exact⟨k,z,t,p,c,h1,h2⟩
theorem bF.get{R:Nat->Prop}{Z:aC}{p:Option Addr}:∀ {i:Nat} {ds:List D} {k:Nat} {d:D},bF R Z p i ds->ds[k]? = some d->
  ∃b off cs,p=some ⟨b,off,none⟩/\R b/\Z.cells b=some cs/\4<=cs.length-(off+(i+k)*4)/\aU R Z (.agg ((cs.drop (off+(i+k)*4)).take 4).toArray) d
 | i,d::ds,0,_,h,hk=>by
  cases hk
  exact h.1
 | i,d::ds,k+1,_,h,hk=>by
  have:=bF.get (i:=i+1) h.2 (k:=k) (by simpa using hk)
  rwa [show i+1+k=i+(k+1) by omega] at this
 | _,[],_,_,_,hk=>by simp at hk
theorem An0:under Tryz.prog 44=some (.slice TL):=by kernel_rfl
theorem Arw:bN Tryz.prog TL=some 1:=by kernel_rfl
theorem NZ:under Tryz.prog 25=some (.slice TI):=by kernel_rfl
theorem TR:bN Tryz.prog TI=some 1:=by kernel_rfl
theorem PR{T t:TypeId}{Z:aC}{b:Nat}{s:Value}{vs:List Value}{v:Value}(h:Stk T Z b s (vs++[v]))(hw:Wf Z)(hu:under Tryz.prog t=some (.slice T))(hs:bN Tryz.prog T=some 1):
  ∃n,s=.slice (some ⟨b,0,none⟩) (vs.length+1) n/\Stk T Z b (.slice (some ⟨b,0,none⟩) vs.length n) vs/\
   fslice Tryz.prog t s none (some (.int .i64 (.ofNat vs.length))) none (view Z Z.clock)=.val (.slice (some ⟨b,0,none⟩) vs.length n) (view Z Z.clock):=by
 obtain⟨n,h1,h2,h3⟩:=h.pop
 obtain⟨c,fz,ver,k1,k2,k3,more,k4⟩:=h3
 refine⟨n,h1,⟨c,fz,ver,k1,k2,k3,more,k4⟩,?_⟩
 rw[h1]
 exact Adb Tryz.prog t T 1 b 0 (vs.length+1) n vs.length _ hu hs h2 c T false fz ver ((Afd hw (Nat.le_refl _) b).trans k2) k3
theorem WHead.top{l:Nat}{R:Nat->Prop}{g:Value}{I:List (List Nat×D)->(Nat->Prop)->aC->Prop}{all:List (List Nat×D)}{bw bo bp base:Nat}{B:Nat->Prop}{u:Value}{us:List Value}{ds:List D}{i:Nat}{r:List (List D×Nat)}{done:List (List Nat×D)}{f:Nat->Value}{Z:aC}(h:WHead l R g I all bw bo bp base B (u::us) ((ds,i)::r) done f Z):
  ∃p c mo mp,u=.slice p ds.length c/\bF R Z p 0 ds/\us.length=r.length/\
   f 4=.slice (some ⟨bo,0,none⟩) (r.length+1) (us.reverse++u::mo).length/\Z.cells bo=some (us.reverse++u::mo)/\(us.reverse++u::mo)[r.length]? = some u/\
   f 5=.slice (some ⟨bp,0,none⟩) (r.length+1) (((wayOf r).map fun i=>Value.int .i64 (.ofNat i))++.int .i64 (.ofNat i)::mp).length/\Z.cells bp=some (((wayOf r).map fun i=>Value.int .i64 (.ofNat i))++.int .i64 (.ofNat i)::mp)/\
   (((wayOf r).map fun i=>Value.int .i64 (.ofNat i))++.int .i64 (.ofNat i)::mp)[r.length]? = some (.int .i64 (.ofNat i)):=by
 obtain⟨⟨p,c,h1,h2⟩,h3,h4,h5⟩:=h.lev
 have hl:=h5.length
 obtain⟨mo,e1,e2⟩:=h.opn.cells
 obtain⟨mp,e3,e4⟩:=h.pth.cells
 rw[List.reverse_cons,List.append_assoc,List.singleton_append] at e1 e2
 rw[E_,List.map_append,List.append_assoc,List.map_singleton,List.singleton_append] at e3 e4
 refine⟨p,c,mo,mp,h1,h2,hl,?_,e2,?_,?_,e4,?_⟩
 .rw[e1]
  simp[hl]
 .rw[List.getElem?_append_right (by simp[hl])]
  simp[hl]
 .rw[e3]
  simp[Dw]
 .rw[List.getElem?_append_right (by simp[Dw])]
  simp[Dw]
end Go.Proofs.YtknnbjmcfibpgaaGreatDoor
namespace Go.Proofs.YtknnbjmcfibpgaaGreatDoor
open Go Go.Eng
attribute [local congr] Aa Af Ad Ab Ac
attribute [-go_sem] List.range_succ
section
variable {kk n l bw bo bp base:Nat} {R:Nat->Prop} {g:Value} {I:List (List Nat×D)->(Nat->Prop)->aC->Prop} {all done:List (List Nat×D)} {B:Nat->Prop} {u:Value} {us:List Value} {ds:List D} {i:Nat} {r:List (List D×Nat)} {f:Nat->Value} {Z:aC}
theorem Axd(k:Nat)(hk:k<1000000000000):wrapI (Int.ofNat (k+1)-1)=Int.ofNat k:=by
 rw[DV (by rw[Int.ofNat_eq_natCast];omega),Int.ofNat_eq_natCast,Int.ofNat_eq_natCast];omega
theorem Ayq(k:Nat)(hk:k<1000000000000):wrapI (Int.ofNat (k+1+1)-2)=Int.ofNat k:=by
 rw[DV (by rw[Int.ofNat_eq_natCast];omega),Int.ofNat_eq_natCast,Int.ofNat_eq_natCast];omega
theorem FT(k:Nat)(hk:k<1000000000000):wrapI (Int.ofNat k+1)=Int.ofNat (k+1):=by
 rw[DV (by rw[Int.ofNat_eq_natCast];omega),Int.ofNat_eq_natCast,Int.ofNat_eq_natCast];omega
theorem WV(hB:BodyTo kk (env n) l R g I all)(h:WHead l R g I all bw bo bp base B (u::us) ((ds,ds.length)::r) done f Z)(hr:r.length<100000)(gg:Nat->Value):
  ∃f' g' V,Gd (env n) none 137 (Sl 8 80 f gg []) none Z=.done .normal (Sl 8 80 f' g' []) none V/\Chg (fun b=>base<=b/\¬ B b) Z V/\
   WHead l R g I all bw bo bp base B us (bump r) done f' V:=by
 obtain⟨p,c,mo,mp,rfl,hE,hl,h4,co,ho,h5,cp,hp⟩:=h.top
 have hv:=D1 h.wf (Nat.le_refl Z.clock)
 have d0:decide (Int.ofNat (r.length+1)>0)=true:=by simp
 have w1:=Axd r.length (by omega)
 have lt1:r.length<r.length+1:=Nat.lt_succ_self _
 have hopn:=h.opn
 have hpth:=h.pth
 rw[List.reverse_cons] at hopn
 rw[E_,List.map_append,List.map_singleton] at hpth
 obtain⟨no,so1,so2,so3⟩:=PR hopn h.wf An0 Arw
 obtain⟨np,sp1,sp2,sp3⟩:=PR hpth h.wf NZ TR
 rw[List.length_reverse,hl] at so1 so2 so3
 rw[List.length_map,Dw] at sp1 sp2 sp3
 rw[h4] at so1 so3
 rw[h5] at sp1 sp3
 unfold Gd
 simp -implicitDefEqProofs only[go_sem,Ia,H_,KH,JJ,KI,JK,h4,h5,d0,w1,lt1,hv,co,cp,ho,hp]
 generalize hg:upd _ 33 _=g1
 clear hg
 have f4:upd f 6 (Value.int IntKind.i64 (Int.ofNat (r.length+1))) 4=f 4:=by simp -implicitDefEqProofs only[go_sem,reduceCtorEq]
 have f5:upd f 6 (Value.int IntKind.i64 (Int.ofNat (r.length+1))) 5=f 5:=by simp -implicitDefEqProofs only[go_sem,reduceCtorEq]
 have f0:upd f 6 (Value.int IntKind.i64 (Int.ofNat (r.length+1))) 0=f 0:=by simp -implicitDefEqProofs only[go_sem,reduceCtorEq]
 have f2:upd f 6 (Value.int IntKind.i64 (Int.ofNat (r.length+1))) 2=f 2:=by simp -implicitDefEqProofs only[go_sem,reduceCtorEq]
 have f6:upd f 6 (Value.int IntKind.i64 (Int.ofNat (r.length+1))) 6=Value.int IntKind.i64 (Int.ofNat (r.length+1)):=by simp -implicitDefEqProofs only[go_sem,reduceCtorEq]
 generalize upd f 6 _=f1 at f4 f5 f0 f2 f6 ⊢
 simp -implicitDefEqProofs only[go_sem,Ad1,Rn,f4,f5,f6,h4,h5,w1,so3,sp3]
 generalize hg:upd g1 _ _=g2
 clear hg
 have q4:upd (upd f1 4 (Value.slice (some ⟨bo,0,none⟩) r.length no)) 5 (Value.slice (some ⟨bp,0,none⟩) r.length np) 4=(Value.slice (some ⟨bo,0,none⟩) r.length no):=by simp -implicitDefEqProofs only[go_sem,reduceCtorEq]
 have q5:upd (upd f1 4 (Value.slice (some ⟨bo,0,none⟩) r.length no)) 5 (Value.slice (some ⟨bp,0,none⟩) r.length np) 5=(Value.slice (some ⟨bp,0,none⟩) r.length np):=by simp -implicitDefEqProofs only[go_sem,reduceCtorEq]
 have q0:upd (upd f1 4 (Value.slice (some ⟨bo,0,none⟩) r.length no)) 5 (Value.slice (some ⟨bp,0,none⟩) r.length np) 0=f 0:=by simp -implicitDefEqProofs only[go_sem,reduceCtorEq,f0]
 have q2:upd (upd f1 4 (Value.slice (some ⟨bo,0,none⟩) r.length no)) 5 (Value.slice (some ⟨bp,0,none⟩) r.length np) 2=f 2:=by simp -implicitDefEqProofs only[go_sem,reduceCtorEq,f2]
 have q6:upd (upd f1 4 (Value.slice (some ⟨bo,0,none⟩) r.length no)) 5 (Value.slice (some ⟨bp,0,none⟩) r.length np) 6=Value.int IntKind.i64 (Int.ofNat (r.length+1)):=by simp -implicitDefEqProofs only[go_sem,reduceCtorEq,f6]
 generalize upd (upd f1 4 _) 5 _=f2' at q4 q5 q0 q2 q6 ⊢
 obtain⟨_,hi,hds,hlev⟩:=h.lev
 have hall:=h.all
 rw[NY,IP] at hall
 cases r with
 | nil=>
  have d1:decide (Int.ofNat (([]:List (List D×Nat)).length+1)>1)=false:=by decide
  simp -implicitDefEqProofs only[go_sem,Pt,L5,q6,d1]
  refine⟨_,_,_,rfl,Chg.refl _ _,?_⟩
  exact { f0:=q0.trans h.f0,f2:=q2.trans h.f2,cw:=h.cw,hbw:=h.hbw,opn:=by rw[q4];exact so2,hbo:=h.hbo,lev:=hlev.bump,low:=h.low,pth:=by rw[q5];exact sp2,hbp:=h.hbp,ne:=h.ne,inv:=h.inv,all:=hall,wf:=h.wf,base:=h.base }
 | cons x r'=>
  obtain⟨e,j⟩:=x
  have d1:decide (Int.ofNat ((((e,j)::r'):List (List D×Nat)).length+1)>1)=true:=by simp;omega
  have w2:=Ayq r'.length (by simp at hr;omega)
  have hlen:(((e,j)::r'):List (List D×Nat)).length=r'.length+1:=rfl
  cases us with
  | nil=>exact absurd hlev (fun h=>h)
  | cons u' us'=>
   have hlevs:=hlev
   obtain⟨hu,hj,hje,hlev'⟩:=hlev
   have w3:=FT j (by omega)
   have sp2':=sp2
   rw[E_,List.map_append,List.map_singleton] at sp2'
   obtain⟨cc,k1,k2⟩:=sp2'.last
   obtain⟨τ,k3,k4,k5,k6⟩:=sp2'.store (v':=.int .i64 (.ofNat (j+1))) h.wf (Bc _ _)
   rw[List.length_map,Dw] at k2 k3
   rw[hlen] at q5 q6 d1
   have lt2:r'.length<r'.length+1:=Nat.lt_succ_self _
   simp -implicitDefEqProofs only[go_sem,Pt,L5,Ad2,Ro,q6,d1,q5,w2,lt2,k1,k2,w3,k3]
   refine⟨_,_,_,rfl,k5.weaken fun b _ hb=>by subst hb;exact h.hbp,?_⟩
   have hne:bw≠bp:=by have:=h.hbw.1;have:=h.hbp.1;omega
   exact {
       f0:=q0.trans h.f0,f2:=q2.trans h.f2,cw:=(k5.cells (h.wf.cells h.cw) hne).trans h.cw,hbw:=h.hbw,opn:=by rw[q4];exact so2.keep (k5.get bo (so2.lt h.wf) h.ne),hbo:=h.hbo,
       lev:=(Levels.bump hlevs).keep fun b cs hb hc=>(k5.cells (h.wf.cells hc) (by have:=h.low b hb;have:=h.hbp.1;omega)).trans hc,low:=h.low,
       pth:=by rw[q5];show Stk TI τ bp _ ((wayOf ((e,j+1)::r')).map _);rw[E_,List.map_append,List.map_singleton];exact k4,
       hbp:=h.hbp,ne:=h.ne,inv:=hB.stays _ _ _ _ h.inv h.wf (k5.weaken fun b _ hb=>by subst hb;exact⟨h.hbp.2,fun hr=>by have:=h.low _ hr;have:=h.hbp.1;omega⟩),all:=hall,wf:=k6,base:=Nat.le_trans h.base k5.next }
end
end Go.Proofs.YtknnbjmcfibpgaaGreatDoor
namespace Go.Proofs.YtknnbjmcfibpgaaGreatDoor
open Go Go.Eng
attribute [local congr] Aa Af Ad Ab Ac
attribute [-go_sem] List.range_succ
section
variable {kk n l bw bo bp base:Nat} {R:Nat->Prop} {g:Value} {I:List (List Nat×D)->(Nat->Prop)->aC->Prop} {all done:List (List Nat×D)} {B:Nat->Prop} {u:Value} {us:List Value} {ds:List D} {i:Nat} {d:D} {r:List (List D×Nat)} {f:Nat->Value} {Z:aC}
theorem WU(hB:BodyTo kk (env n) l R g I all)(hk:done.length<kk)(h:WHead l R g I all bw bo bp base B (u::us) ((ds,i)::r) done f Z)(hd:ds[i]? = some d)(hr:r.length<90000)(hps:d.parts.length<1000000000)(gg:Nat->Value):
  ∃f' g' V B' bo' bp' u',Gd (env n) none 137 (Sl 8 80 f gg []) none Z=.done .normal (Sl 8 80 f' g' []) none V/\Chg (fun b=>B b\/base<=b) Z V/\(∀b,B' b->B b\/base<=b)/\
   WHead l R g I all bw bo' bp' base B' (u'::u::us) ((d.parts,0)::(ds,i)::r) (done++[(wayOf r++[i],d)]) f' V:=by
 obtain⟨p,c,mo,mp,rfl,hE,hl,h4,co,ho,h5,cp,hp⟩:=h.top
 have hv:=D1 h.wf (Nat.le_refl Z.clock)
 have d0:decide (Int.ofNat (r.length+1)>0)=true:=by simp
 have w1:=Axd r.length (by omega)
 have lt1:r.length<r.length+1:=Nat.lt_succ_self _
 have hi:i<ds.length:=(List.getElem?_eq_some_iff.1 hd).1
 have ne1:(Int.ofNat i==Int.ofNat ds.length)=false:=by simp;omega
 obtain⟨b,off,cs,rfl,hRb,hcs,hle,hL⟩:=bF.get hE hd
 rw[Nat.zero_add] at hle hL
 obtain⟨k,z,t,q,c',hag,hq⟩:=aU.shape hL
 have htk:(cs.drop (off+i*4)).take 4=[.int .i64 k,.int .i64 z,.string t,.slice q d.parts.length c']:=by
  have:=congrArg (fun v=>match v with|.agg a=>a.toList|_=>[]) hag
  simpa using this
 rw[htk] at hL
 have hall:=h.all
 rw[FL r hd] at hall
 unfold Gd
 simp -implicitDefEqProofs only[go_sem,Ia,H_,KH,JJ,KI,JK,h4,h5,d0,w1,lt1,hv,co,cp,ho,hp,ne1]
 generalize hg:upd _ 33 _=g1
 clear hg
 have f4:upd f 6 (Value.int IntKind.i64 (Int.ofNat (r.length+1))) 4=f 4:=by simp -implicitDefEqProofs only[go_sem,reduceCtorEq]
 have f5:upd f 6 (Value.int IntKind.i64 (Int.ofNat (r.length+1))) 5=f 5:=by simp -implicitDefEqProofs only[go_sem,reduceCtorEq]
 have f0:upd f 6 (Value.int IntKind.i64 (Int.ofNat (r.length+1))) 0=f 0:=by simp -implicitDefEqProofs only[go_sem,reduceCtorEq]
 have f2:upd f 6 (Value.int IntKind.i64 (Int.ofNat (r.length+1))) 2=f 2:=by simp -implicitDefEqProofs only[go_sem,reduceCtorEq]
 have f6:upd f 6 (Value.int IntKind.i64 (Int.ofNat (r.length+1))) 6=Value.int IntKind.i64 (Int.ofNat (r.length+1)):=by simp -implicitDefEqProofs only[go_sem,reduceCtorEq]
 generalize upd f 6 _=f1 at f4 f5 f0 f2 f6 ⊢
 simp -implicitDefEqProofs only[go_sem,AP,Pu,L6,f4,f5,f6,h4,h5,w1,lt1,hv,co,cp,ho,hp,hi,hcs,hle,htk]
 generalize hg:upd _ 62 _=g2
 clear hg
 have p0:upd f1 7 (Value.pointer (some ⟨Z.next,0,none⟩)) 0=f 0:=by simp -implicitDefEqProofs only[go_sem,reduceCtorEq,f0]
 have p2:upd f1 7 (Value.pointer (some ⟨Z.next,0,none⟩)) 2=f 2:=by simp -implicitDefEqProofs only[go_sem,reduceCtorEq,f2]
 have p4:upd f1 7 (Value.pointer (some ⟨Z.next,0,none⟩)) 4=f 4:=by simp -implicitDefEqProofs only[go_sem,reduceCtorEq,f4]
 have p5:upd f1 7 (Value.pointer (some ⟨Z.next,0,none⟩)) 5=f 5:=by simp -implicitDefEqProofs only[go_sem,reduceCtorEq,f5]
 have p6:upd f1 7 (Value.pointer (some ⟨Z.next,0,none⟩)) 6=Value.int IntKind.i64 (Int.ofNat (r.length+1)):=by simp -implicitDefEqProofs only[go_sem,reduceCtorEq,f6]
 have p7:upd f1 7 (Value.pointer (some ⟨Z.next,0,none⟩)) 7=Value.pointer (some ⟨Z.next,0,none⟩):=by simp -implicitDefEqProofs only[go_sem,reduceCtorEq]
 generalize upd f1 7 _=f2' at p0 p2 p4 p5 p6 p7 ⊢
 have x1:Ext Z ((Z.push (.cells [.int .i64 0,.int .i64 0,.string ⟨#[]⟩,.slice none 0 0] TD) none).put Z.next (.cells [.int .i64 k,.int .i64 z,.string t,.slice q d.parts.length c'] TD) none):=((Ext.refl _).push _ _).put _ _ _ (Nat.le_refl _)
 have hw1:=(h.wf.push (.cells [.int .i64 0,.int .i64 0,.string ⟨#[]⟩,.slice none 0 0] TD) none).put Z.next (.cells [.int .i64 k,.int .i64 z,.string t,.slice q d.parts.length c'] TD) none (Nat.lt_succ_self _)
 have b1:((Z.push (.cells [.int .i64 0,.int .i64 0,.string ⟨#[]⟩,.slice none 0 0] TD) none).put Z.next (.cells [.int .i64 k,.int .i64 z,.string t,.slice q d.parts.length c'] TD) none).cells Z.next=some [.int .i64 k,.int .i64 z,.string t,.slice q d.parts.length c']:=by rw[Aq,if_pos rfl];rfl
 have hcl:((Z.push (.cells [.int .i64 0,.int .i64 0,.string ⟨#[]⟩,.slice none 0 0] TD) none).put Z.next (.cells [.int .i64 k,.int .i64 z,.string t,.slice q d.parts.length c'] TD) none).clock=Z.clock+2:=rfl
 have hnx:((Z.push (.cells [.int .i64 0,.int .i64 0,.string ⟨#[]⟩,.slice none 0 0] TD) none).put Z.next (.cells [.int .i64 k,.int .i64 z,.string t,.slice q d.parts.length c'] TD) none).next=Z.next+1:=rfl
 generalize aC.put _ _ _ _=bS at x1 hw1 b1 hcl hnx ⊢
 have hv1:=D1 hw1 (Nat.le_of_eq hcl)
 have hlp:r.length+1<=(List.map (fun i=>Value.int IntKind.i64 (Int.ofNat i)) (wayOf r)++Value.int IntKind.i64 (Int.ofNat i)::mp).length:=by simp[Dw]
 have sl3:=Vd Tryz.prog 25 TI 1 bp 0 (r.length+1) _ (r.length+1) (view bS (Z.clock+2)) NZ TR hlp
 have i1:I done B bS:=hB.stays _ _ _ _ h.inv h.wf (x1.chg _)
 have hbpn:=h.pth.lt h.wf
 have hbon:=h.opn.lt h.wf
 have hP:PathAt bS (.slice (some ⟨bp,0,none⟩) (r.length+1) (r.length+1)) (wayOf r++[i]):=⟨some ⟨bp,0,none⟩,r.length+1,by simp[Dw],.inr ⟨bp,mp,rfl,by rw[x1.cells hbpn,cp];simp⟩⟩
 have kR:∀b cs,R b->Z.cells b=some cs->bS.cells b=some cs/\R b:=fun b cs hb hc=>⟨(x1.cells (h.wf.cells hc)).trans hc,hb⟩
 obtain⟨B',a_,e2,hw2,ch2,hB',i2⟩:=hB.go done (wayOf r++[i]) d _ B bS _ _ hk hall hw1 i1 hP (hL.keep kR)
 have ownB:=hB.own _ _ _ h.inv
 have nB:∀b,Z.next<=b->¬ B b:=fun b hb hh=>by have:=(ownB b hh).1;omega
 have b2:a_.cells Z.next=some [.int .i64 k,.int .i64 z,.string t,.slice q d.parts.length c']:=(ch2.cells (by omega) (nB _ (Nat.le_refl _))).trans b1
 have hbwn:=h.wf.cells h.cw
 have cw2:a_.cells bw=some [g]:=(ch2.cells (by omega) h.hbw.2).trans ((x1.cells hbwn).trans h.cw)
 obtain⟨_,bT,e3,x3,hw3,rfl⟩:=hB.inside _ B' a_ k z t q d.parts.length c' i2 hw2
 simp -implicitDefEqProofs only[go_sem,Ng,JI,p0,p5,p6,p7,h.f0,h5,hv1,b1,sl3,Ey,EJ,e2]
 generalize hg:upd _ 70 _=g3
 clear hg
 have nB':∀b,b<bS.next->¬ B b->¬ B' b:=fun b hb h1 h2=>by
  rcases hB' b h2 with h3|h3
  .exact h1 h3
  .omega
 have opn2:Stk TL a_ bo (f 4) (.slice (some ⟨b,off,none⟩) ds.length c::us).reverse:=h.opn.keep ((ch2.get bo (by omega) h.hbo.2).trans (x1.get bo hbon))
 have opn3:Stk TL bT bo (f 4) (.slice (some ⟨b,off,none⟩) ds.length c::us).reverse:=opn2.keep (x3.get bo (opn2.lt hw2))
 have pth2:Stk TI a_ bp (f 5) ((wayOf ((ds,i)::r)).map fun i=>.int .i64 (.ofNat i)):=h.pth.keep ((ch2.get bp (by omega) h.hbp.2).trans (x1.get bp hbpn))
 have pth3:Stk TI bT bp (f 5) ((wayOf ((ds,i)::r)).map fun i=>.int .i64 (.ofNat i)):=pth2.keep (x3.get bp (pth2.lt hw2))
 have x4:Ext bT (bT.push (.cells [.slice q d.parts.length c'] TL) none):=(Ext.refl _).push _ _
 have hw4:=hw3.push (.cells [.slice q d.parts.length c'] TL) none
 have b4:(bT.push (.cells [.slice q d.parts.length c'] TL) none).cells bT.next=some [.slice q d.parts.length c']:=by rw[Al,if_pos rfl];rfl
 rw[h4] at opn3
 obtain⟨bo',s5,bX,e5,opn5,hbo',ch5,hw5⟩:=(opn3.keep (x4.get bo (opn3.lt hw3))).append hw4 (.slice q d.parts.length c') 24 bT.next 1 b4 (Au _ _ _) (by omega) (by simp[hl];omega)
 have b5:(bX.push (.cells [.int .i64 0] TI) none).cells bX.next=some [.int .i64 0]:=by rw[Al,if_pos rfl];rfl
 have x6:Ext bX (bX.push (.cells [.int .i64 0] TI) none):=(Ext.refl _).push _ _
 have hw6:=hw5.push (.cells [.int .i64 0] TI) none
 have hne45:bp≠bo:=fun h'=>h.ne h'.symm
 have pth4:=pth3.keep (x4.get bp (pth3.lt hw3))
 have pth5:Stk TI bX bp (f 5) ((wayOf ((ds,i)::r)).map fun i=>.int .i64 (.ofNat i)):=pth4.keep (ch5.get bp (pth4.lt hw4) hne45)
 obtain⟨bp',s7,cB,e7,pth7,hbp',ch7,hw7⟩:=(pth5.keep (x6.get bp (pth5.lt hw5))).append hw6 (.int .i64 0) 8 bX.next 1 b5 (Bc _ _) (by omega) (by simp[Dw];omega)
 simp -implicitDefEqProofs only[go_sem,Yt,Nh,p0,p2,p4,p7,h.f2,cw2,b2,e3,h4,EW,e5]
 generalize hg:upd _ 76 _=g4
 clear hg
 have t0:upd f2' 4 s5 0=f 0:=by simp -implicitDefEqProofs only[go_sem,reduceCtorEq,p0]
 have t2:upd f2' 4 s5 2=f 2:=by simp -implicitDefEqProofs only[go_sem,reduceCtorEq,p2]
 have t4:upd f2' 4 s5 4=s5:=by simp -implicitDefEqProofs only[go_sem,reduceCtorEq]
 have t5:upd f2' 4 s5 5=f 5:=by simp -implicitDefEqProofs only[go_sem,reduceCtorEq,p5]
 generalize upd f2' 4 s5=f3 at t0 t2 t4 t5 ⊢
 simp -implicitDefEqProofs only[go_sem,Yu,Ni,t5,e7]
 have v0:upd f3 5 s7 0=f 0:=by simp -implicitDefEqProofs only[go_sem,reduceCtorEq,t0]
 have v2:upd f3 5 s7 2=f 2:=by simp -implicitDefEqProofs only[go_sem,reduceCtorEq,t2]
 have v4:upd f3 5 s7 4=s5:=by simp -implicitDefEqProofs only[go_sem,reduceCtorEq,t4]
 have v5:upd f3 5 s7 5=s7:=by simp -implicitDefEqProofs only[go_sem,reduceCtorEq]
 have hbo4:bo<(bT.push (.cells [.slice q d.parts.length c'] TL) none).next:=(opn3.keep (x4.get bo (opn3.lt hw3))).lt hw4
 have n12:=x1.next
 have n23:=ch2.next
 have n34:=x3.next
 have n45:=x4.next
 have n56:=ch5.next
 have n67:=x6.next
 have n78:=ch7.next
 have hbase:=h.base
 have lowB':∀b,B' b->B b\/base<=b:=fun b hb=>by
  rcases hB' b hb with h3|h3
  .exact .inl h3
  .exact .inr (by omega)
 have ownB':=hB.own _ _ _ i2
 have hboB':¬ B' bo:=nB' bo (by omega) h.hbo.2
 have hbpB':¬ B' bp:=nB' bp (by omega) h.hbp.2
 have c27:∀b,b<a_.next->b≠bo->b≠bp->cB.heap.get b=a_.heap.get b:=fun b hb h1 h2=>
  ((ch7.get b (by omega) h2).trans (x6.get b (by omega))).trans ((ch5.get b (by omega) h1).trans ((x4.get b (by omega)).trans (x3.get b hb)))
 have c17:∀b,b<Z.next->¬ B b->b≠bo->b≠bp->cB.heap.get b=Z.heap.get b:=fun b hb h0 h1 h2=>
  (c27 b (by omega) h1 h2).trans ((ch2.get b (by omega) h0).trans (x1.get b hb))
 have nbo:base<=bo'/\¬ B' bo'/\bo'<bX.next:=by
  rcases hbo' with rfl|rfl
  .exact⟨h.hbo.1,hboB',by omega⟩
  .exact⟨by omega,fun hb=>by have:=(ownB' _ hb).1;omega,opn5.lt hw5⟩
 have nbp:base<=bp'/\¬ B' bp'/\bo'≠bp':=by
  rcases hbp' with rfl|rfl
  .refine⟨h.hbp.1,hbpB',?_⟩
   rcases hbo' with rfl|rfl
   .exact h.ne
   .omega
  .have:=nbo.2.2
   rw[Ae] at n67 ⊢
   exact⟨by omega,fun hb=>by have:=(ownB' _ hb).1;omega,by omega⟩
 have hcw7:cB.cells bw=some [g]:=by
  rw[Av,c17 bw hbwn h.hbw.2 (by have:=h.hbw.1;have:=h.hbo.1;omega) (by have:=h.hbw.1;have:=h.hbp.1;omega),<-Av]
  exact h.cw
 have kR7:∀b cs,R b->Z.cells b=some cs->cB.cells b=some cs:=fun b cs hb hc=>by
  have hlb:=h.low b hb
  rw[Av,c17 b (by omega) (fun hB0=>(ownB b hB0).2 hb) (by have:=h.hbo.1;omega) (by have:=h.hbp.1;omega),<-Av]
  exact hc
 refine⟨_,_,cB,B',bo',bp',.slice q d.parts.length c',rfl,⟨by omega,by have:=x1.clock;have:=ch2.clock;have:=x3.clock;have:=x4.clock;have:=ch5.clock;have:=x6.clock;have:=ch7.clock;omega,fun b hb hF=>?_⟩,lowB',?_⟩
 .exact c17 b hb (fun h'=>hF (.inl h')) (fun h'=>hF (.inr (by have:=h.hbo.1;omega))) (fun h'=>hF (.inr (by have:=h.hbp.1;omega)))
 .obtain⟨hu,hi0,hds,hlev⟩:=h.lev
  exact {
      f0:=v0.trans h.f0,f2:=v2.trans h.f2,cw:=hcw7,hbw:=⟨h.hbw.1,nB' bw (by omega) h.hbw.2⟩,
      opn:=by
       rw[v4,List.reverse_cons]
       exact opn5.keep ((ch7.get bo' (by omega) (fun h'=>by
        rcases hbp' with h''|h''
        .exact nbp.2.2 (h'.trans h''.symm)
        .have:=nbo.2.2;rw[Ae] at n67;exact absurd h' (by
          intro h3
          rcases hbo' with rfl|rfl
          .exact h.ne h3
          .have:=pth4.lt hw4;omega))).trans (x6.get bo' nbo.2.2)),
      hbo:=⟨nbo.1,nbo.2.1⟩,
      lev:=⟨⟨q,c',rfl,hq.keep fun b cs hb hc=>⟨kR7 b cs hb hc,hb⟩⟩,by omega,hps,⟨(hu.elim fun p' h'=>h'.elim fun c'' h''=>⟨p',c'',h''.1,h''.2.keep fun b cs hb hc=>⟨kR7 b cs hb hc,hb⟩⟩),by omega,hds,hlev.keep kR7⟩⟩,
      low:=h.low,
      pth:=by rw[v5,E_,List.map_append];exact pth7,
      hbp:=⟨nbp.1,nbp.2.1⟩,ne:=nbp.2.2,
      inv:=hB.stays _ _ _ _ i2 hw2 ⟨by omega,by have:=x3.clock;have:=x4.clock;have:=ch5.clock;have:=x6.clock;have:=ch7.clock;omega,fun b hb hn=>c27 b hb (fun h'=>hn ⟨fun hb'=>hboB' (h' ▸ hb'),fun hr=>by have:=h.low b hr;have:=nbo.1;have:=h.hbo.1;omega⟩) (fun h'=>hn ⟨fun hb'=>hbpB' (h' ▸ hb'),fun hr=>by have:=h.low b hr;have:=nbp.1;have:=h.hbp.1;omega⟩)⟩,
      all:=by rw[hall,List.append_assoc,List.singleton_append],wf:=hw7,base:=by omega }
end
end Go.Proofs.YtknnbjmcfibpgaaGreatDoor
namespace Go.Proofs.YtknnbjmcfibpgaaGreatDoor
open Go Go.Eng
attribute [local congr] Aa Af Ad Ab Ac
attribute [-go_sem] List.range_succ
section
variable {n l bw base:Nat} {R:Nat->Prop} {g:Value} {I:List (List Nat×D)->(Nat->Prop)->aC->Prop} {all:List (List Nat×D)}
theorem ArK:bH nls 137=[]:=by kernel_rfl
def Small(all:List (List Nat×D)):Prop:=∀x∈all,x.1.length<80000/\x.2.parts.length<1000000000
theorem Afe(hB:Body (env n) l R g I all)(hS:Small all):∀(m fuel:Nat) (st:List (List D×Nat)) (us:List Value) (done:List (List Nat×D)) (B:Nat->Prop) (bo bp:Nat) (f gg:Nat->Value) (Z:aC),
  2*(todo st).length+st.length<=m->m<fuel->st.length<=80000->WHead l R g I all bw bo bp base B us st done f Z->
  ∃f' g' V B',floop [] (Gd (env n) none 137) fuel (Sl 8 80 f gg []) none Z=.done (.exit 0) (Sl 8 80 f' g' []) none V/\Chg (fun b=>B b\/base<=b) Z V/\(∀b,B' b->B b\/base<=b)/\Wf V/\I all B' V:=by
 intro m
 induction m with
 | zero=>
  intro fuel st us done B bo bp f gg Z hm hf hst h
  obtain⟨fuel,rfl⟩:∃q,fuel=q+1:=⟨fuel-1,by omega⟩
  obtain rfl:st=[]:=by cases st with|nil=>rfl|cons _ _=>simp at hm
  obtain rfl:us=[]:=List.length_eq_zero_iff.1 h.lev.length
  obtain⟨mo,h4,_⟩:=h.opn.cells
  have hall:=h.all
  have d0:decide (Int.ofNat 0>0)=false:=by decide
  rw[show todo ([]:List (List D×Nat))=[] from rfl,List.append_nil] at hall
  simp only[List.reverse_nil,List.length_nil] at h4
  rw[Ap]
  unfold Gd
  simp -implicitDefEqProofs only[go_sem,Ia,H_,h4,d0]
  exact⟨_,_,_,B,rfl,Chg.refl _ _,fun _ hb=>.inl hb,h.wf,hall ▸ h.inv⟩
 | succ m ih=>
  intro fuel st us done B bo bp f gg Z hm hf hst h
  obtain⟨fuel,rfl⟩:∃q,fuel=q+1:=⟨fuel-1,by omega⟩
  cases st with
  | nil=>exact ih (fuel+1) [] us done B bo bp f gg Z (by simp[todo]) (by omega) hst h
  | cons x r=>
   obtain⟨ds,i⟩:=x
   cases us with
   | nil=>exact absurd h.lev (fun h=>h)
   | cons u us=>
    have hi:i<=ds.length:=h.lev.2.1
    have hr:r.length+1<=80000:=hst
    rw[Ap,CE]
    by_cases he:i=ds.length
    .subst he
     obtain⟨f',g',V,e,hC,hH⟩:=WV hB.to h (by omega) (kept [] gg)
     rw[e,Ar]
     rw[NY,IP] at hm
     have hlb:(bump r).length=r.length:=by cases r<;>rfl
     obtain⟨f2,g2,a_,B2,e2,hC2,hB2,hw2,hI2⟩:=ih fuel _ _ _ _ _ _ f' g' V (by simp at hm;omega) (by omega) (by omega) hH
     exact⟨f2,g2,a_,B2,e2,(hC.weaken fun b _ hb=>.inr hb.1).trans hC2 (fun b _ hb=>hb),hB2,hw2,hI2⟩
    .have hlt:i<ds.length:=by omega
     have hd:ds[i]? = some ds[i]:=List.getElem?_eq_getElem hlt
     have hall:=h.all
     rw[FL r hd] at hall
     have hx:=hS (wayOf r++[i],ds[i]) (by rw[hall];simp)
     obtain⟨f',g',V,B',bo',bp',u',e,hC,hBB,hH⟩:=WU hB.to (by rw[hall];simp) h hd (by omega) hx.2 (kept [] gg)
     rw[e,Ar]
     rw[FL r hd] at hm
     have hl:(wayOf r++[i]).length=r.length+1:=by simp[Dw]
     have hx1:=hx.1
     simp only[hl] at hx1
     obtain⟨f2,g2,a_,B2,e2,hC2,hB2,hw2,hI2⟩:=ih fuel _ _ _ _ _ _ f' g' V (by simp at hm ⊢;omega) (by omega) (by simp;omega) hH
     refine⟨f2,g2,a_,B2,e2,hC.trans hC2 fun b _ hb=>?_,fun b hb=>?_,hw2,hI2⟩
     .rcases hb with hb|hb
      .exact hBB b hb
      .exact .inr hb
     .rcases hB2 b hb with hb|hb
      .exact hBB b hb
      .exact .inr hb
theorem Axk(d:D)(hB:Body (env n) l R g I (d.pieces []))(hS:Small (d.pieces []))(hN:(d.pieces []).length<100000000000)(b1 b2:Nat)(Z:aC)(v:Value)(lv:List Value)(B:Nat->Prop)(hw:Wf Z)(hi:I [] B Z)(hcv:Z.cells b1=some lv)(hv:v=.agg lv.toArray)(hb1:¬ B b1)(hL:aU R Z v d)(hR:∀b,R b->b<Z.next)(hcw:Z.cells b2=some [g])(hb2:¬ B b2):
  ∃V B',(env (n+1)).call 137 [.func (.yield l) #[] #[],.pointer (some ⟨b1,0,none⟩),.pointer (some ⟨b2,0,none⟩)] none Z=.ret (.tuple #[]) none V/\Chg B Z V/\(∀b,B' b->B b\/Z.next<=b)/\Wf V/\I (d.pieces []) B' V:=by
 subst hv
 obtain⟨k,z,t,q,c',hag,hq⟩:=aU.shape hL
 have hlv:lv=[.int .i64 k,.int .i64 z,.string t,.slice q d.parts.length c']:=by
  have:=congrArg (fun v=>match v with|.agg a=>a.toList|_=>[]) hag
  simpa using this
 subst hlv
 have hpc:=D.pieces_eq [] d
 obtain⟨B',bS,e1,hw1,ch1,hB1,i1⟩:=hB.go [] [] d _ B Z (.slice none 0 0) _ (by rw[hpc];rfl) hw hi ⟨none,0,rfl,.inl ⟨rfl,rfl,rfl⟩⟩ hL
 have ownB:=hB.own _ _ _ hi
 have ownB1:=hB.own _ _ _ i1
 have hb1n:=hw.cells hcv
 have hb2n:=hw.cells hcw
 have n1:=ch1.next
 have cv1:bS.cells b1=some [.int .i64 k,.int .i64 z,.string t,.slice q d.parts.length c']:=(ch1.cells hb1n hb1).trans hcv
 have cw1:bS.cells b2=some [g]:=(ch1.cells hb2n hb2).trans hcw
 obtain⟨_,a_,e2,x2,hw2,rfl⟩:=hB.inside _ B' bS k z t q d.parts.length c' i1 hw1
 have n2:=x2.next
 have x3:Ext a_ ((a_.push (.cells [.slice q d.parts.length c'] TL) none).push (.cells [.int .i64 0] TI) none):=((Ext.refl _).push _ _).push _ _
 have hw3:=(hw2.push (.cells [.slice q d.parts.length c'] TL) none).push (.cells [.int .i64 0] TI) none
 have hlow:∀b,B' b->B b\/Z.next<=b:=hB1
 have nB:∀b,b<Z.next->¬ B b->¬ B' b:=fun b hb h1 h2=>by
  rcases hB1 b h2 with h3|h3
  .exact h1 h3
  .omega
 have c03:∀b,b<Z.next->¬ B b->((a_.push (.cells [.slice q d.parts.length c'] TL) none).push (.cells [.int .i64 0] TI) none).heap.get b=Z.heap.get b:=fun b hb h0=>
  (x3.get b (by omega)).trans ((x2.get b (by omega)).trans (ch1.get b hb h0))
 have kR:∀b cs,R b->Z.cells b=some cs->((a_.push (.cells [.slice q d.parts.length c'] TL) none).push (.cells [.int .i64 0] TI) none).cells b=some cs:=fun b cs hb hc=>by
  rw[Av,c03 b (hR b hb) (fun hB0=>(ownB b hB0).2 hb),<-Av]
  exact hc
 rw[Ai _ 137 _ _ rfl,MA _ _ _ _ (by simp),Ah]
 unfold NL
 have tk:List.take 4 [Value.int .i64 k,.int .i64 z,.string t,.slice q d.parts.length c']=[.int .i64 k,.int .i64 z,.string t,.slice q d.parts.length c']:=rfl
 simp -implicitDefEqProofs only[go_sem,KG,JH,Pr,LY,Ps,LZ,hcv,Ey,EJ,e1,cw1,cv1,e2,ArK,EW]
 generalize hff:upd _ 5 _=f1
 generalize hgg:upd _ 16 _=g1
 generalize hbf:bL=fuel
 have hH:WHead l R g I (d.pieces []) b2 a_.next (a_.next+1) Z.next B' [.slice q d.parts.length c'] [(d.parts,0)] ([]++[([],d)]) f1 ((a_.push (.cells [.slice q d.parts.length c'] TL) none).push (.cells [.int .i64 0] TI) none):={
  f0:=by rw[<-hff];simp -implicitDefEqProofs only[go_sem,reduceCtorEq]
  f2:=by rw[<-hff];simp -implicitDefEqProofs only[go_sem,reduceCtorEq]
  cw:=by rw[Av,c03 b2 hb2n hb2,<-Av];exact hcw
  hbw:=⟨hb2n,nB b2 hb2n hb2⟩
  opn:=⟨_,none,a_.clock,by rw[<-hff];simp -implicitDefEqProofs only[go_sem,reduceCtorEq]<;>rfl,by rw[Aj,if_neg (by rw[Ae];omega),Aj,if_pos rfl];rfl,.inl rfl,[],rfl⟩
  hbo:=⟨by omega,fun h=>by have:=(ownB1 _ h).1;omega⟩
  lev:=⟨⟨q,c',rfl,hq.keep fun b cs hb hc=>⟨kR b cs hb hc,hb⟩⟩,Nat.zero_le _,(hS ([],d) (by rw[hpc];exact List.mem_cons_self)).2,trivial⟩
  low:=hR
  pth:=⟨_,none,a_.clock+1,by rw[<-hff];simp -implicitDefEqProofs only[go_sem,reduceCtorEq]<;>rfl,by rw[Aj,if_pos (by rw[Ae])];rfl,.inl rfl,[],rfl⟩
  hbp:=⟨by omega,fun h=>by have:=(ownB1 _ h).1;omega⟩
  ne:=by omega
  inv:=hB.stays _ _ _ _ i1 hw1 (by
   have:=x2.clock
   have:=x3.clock
   have:=x3.next
   exact⟨by omega,by omega,fun b hb _=>(x3.get b (by omega)).trans (x2.get b hb)⟩)
  all:=by rw[hpc];show _=[]++[([],d)]++(D.piecesL [] 0 (d.parts.drop 0)++[]);simp
  wf:=hw3
  base:=by rw[Ae,Ae];omega }
 obtain⟨f2,g2,bW,B4,e4,ch4,hB4,hw4,i4⟩:=Afe hB hS _ fuel _ _ _ _ _ _ f1 g1 _ (Nat.le_refl _) (by
  rw[<-hbf]
  show _<1000000000000
  have h1:(todo [(d.parts,0)]).length=(D.piecesL [] 0 d.parts).length:=by simp[todo,below,wayOf]
  have h2:=congrArg List.length hpc
  rw[List.length_cons] at h2
  rw[h1,List.length_singleton]
  omega) (by simp) hH
 rw[e4]
 simp -implicitDefEqProofs only[go_sem]
 refine⟨_,B4,rfl,⟨?_,?_,?_⟩,?_,hw4,i4⟩
 .have:=x3.next;have:=ch4.next;omega
 .have:=ch1.clock;have:=x2.clock;have:=x3.clock;have:=ch4.clock;omega
 .intro b hb h0
  have:=x3.next
  rw[ch4.get b (by omega) (fun h=>by
   rcases h with h|h
   .exact nB b hb h0 h
   .omega)]
  exact c03 b hb h0
 .intro b hb
  rcases hB4 b hb with h|h
  .exact hB1 b h
  .exact .inr h
end
end Go.Proofs.YtknnbjmcfibpgaaGreatDoor
namespace Go.Eng
open Go
def Ful(T:TypeId)(Z:aC)(b:Nat)(s:Value)(vs:List Value):Prop:=
 ∃fz ver,s=.slice (some ⟨b,0,none⟩) vs.length vs.length/\Z.heap.get b=some ⟨.cells vs T,false,fz,ver⟩/\(fz=none\/fz=some 1)
section
variable {T:TypeId} {Z V:aC} {b:Nat} {s:Value} {vs:List Value}
theorem Ful.keep(h:Ful T Z b s vs)(hb:V.heap.get b=Z.heap.get b):Ful T V b s vs:=by
 obtain⟨fz,ver,h1,h2,h3⟩:=h
 exact⟨fz,ver,h1,hb.trans h2,h3⟩
theorem Ful.lt(h:Ful T Z b s vs)(hw:Wf Z):b<Z.next:=by
 obtain⟨fz,ver,h1,h2,h3⟩:=h
 exact(hw _ _ h2).1
theorem Ful.cells(h:Ful T Z b s vs):s=.slice (some ⟨b,0,none⟩) vs.length vs.length/\Z.cells b=some vs:=by
 obtain⟨fz,ver,h1,h2,h3⟩:=h
 exact⟨h1,AB h2⟩
theorem Ful.one(h:Ful T Z b s vs):oneCell s=true/\aM s=true/\aI s=[s]:=by
 obtain⟨fz,ver,rfl,_⟩:=h
 exact⟨Au _ _ _,AA _ _ _,rfl⟩
theorem Ful.push(T:TypeId)(Z:aC)(vs:List Value):Ful T (Z.push (.cells vs T) none) Z.next (.slice (some ⟨Z.next,0,none⟩) vs.length vs.length) vs:=⟨none,Z.clock,rfl,by rw[Aj,if_pos rfl],.inl rfl⟩
theorem Ky(bx n cx:Nat)(new rest:List Value)(hx:Z.cells bx=some (new++rest))(hn:new.length=n):fnew 1 (.slice (some ⟨bx,0,none⟩) n cx) Z=some (n,new):=by
 unfold fnew
 simp only[En,hx,Nat.mul_one,List.drop_zero,Nat.sub_zero,List.length_append]
 rw[if_pos (by omega),List.take_left' hn]
theorem Ful.append(h:Ful T Z b s vs)(hw:Wf Z)(src:Value)(new:List Value)(bytes:Nat)(hx:fnew 1 src Z=some (new.length,new))(ho:new.all oneCell=true)(hby:bytes<1000)(hlen:vs.length+new.length<100000):
  ∃b' s' τ,fappend T 1 bytes s src Z=.val s' τ/\Ful T τ b' s' (vs++new)/\(b'=b\/b'=Z.next)/\Chg (· = b) Z τ/\Wf τ:=by
 have hb:=h.lt hw
 obtain⟨fz,ver,rfl,h2,h3⟩:=h
 have e0:fappend T 1 bytes (.slice (some ⟨b,0,none⟩) vs.length vs.length) src Z=fappend2 T 1 bytes vs.length vs.length (some ⟨b,0,none⟩) new.length new Z:=by
  unfold fappend
  simp only[hx,ho]
  rfl
 rw[e0]
 unfold fappend2
 by_cases hz:new.length=0
 .obtain rfl:new=[]:=List.length_eq_zero_iff.1 hz
  rw[show Nat.ble (vs.length+([]:List Value).length) vs.length=true by rw[Nat.ble_eq];simp]
  show ∃b' s' τ,fappendRoom 1 vs.length vs.length (some ⟨b,0,none⟩) 0 [] Z=.val s' τ/\_
  unfold fappendRoom
  simp only[h2,DW,Nat.mul_one,Nat.zero_add,List.length_nil,Nat.add_zero,Nat.le_refl,if_true,List.append_nil]
  refine⟨b,_,_,rfl,⟨fz,Z.clock,rfl,?_,h3⟩,.inl rfl,(Chg.refl (· = b) _).put _ _ _ (.inr rfl),hw.put _ _ _ hb⟩
  rw[Ak,if_pos rfl]
  simp
 .have hm:(vs.length+new.length)*(bytes+1)<=100000*1000:=Nat.mul_le_mul (by omega) (by omega)
  rw[show Nat.ble (vs.length+new.length) vs.length=false by rw[<-Bool.not_eq_true,Nat.ble_eq];omega,show Nat.ble ((vs.length+new.length)*(bytes+1)) 1000000000=true by rw[Nat.ble_eq];omega]
  show ∃b' s' τ,fappendGrow T 1 vs.length vs.length (some ⟨b,0,none⟩) new.length new Z=.val s' τ/\_
  unfold fappendGrow
  have hc:=AB h2
  simp only[En,hc,h2,List.drop_zero,Nat.sub_zero,Nat.mul_one,Nat.le_refl,if_true]
  rw[List.take_of_length_le (Nat.le_refl _)]
  have hl:vs.length+new.length=(vs++new).length:=by simp
  rcases h3 with rfl|rfl
  .refine⟨Z.next,.slice (some ⟨Z.next,0,none⟩) (vs.length+new.length) (vs.length+new.length),Z.push (.cells (vs++new) T) (some 1),rfl,⟨some 1,Z.clock,by rw[hl],by rw[Aj,if_pos rfl],.inr rfl⟩,.inr rfl,(Chg.refl _ _).push _ _,hw.push _ _⟩
  .rw[show Nat.beq vs.length vs.length=true by rw[Nat.beq_eq]]
   refine⟨Z.next,.slice (some ⟨Z.next,0,none⟩) (vs.length+new.length) (vs.length+new.length),(Z.put b (.defd false) none).push (.cells (vs++new) T) (some 1),rfl,⟨some 1,(Z.put b (.defd false) none).clock,by rw[hl],by rw[Aj,if_pos (by rw[Ao])],.inr rfl⟩,.inr rfl,((Chg.refl (· = b) _).put _ _ _ (.inr rfl)).push _ _,(hw.put _ _ _ hb).push _ _⟩
theorem Kd{Z V:aC}(hw:Wf Z){lam:Nat}(hl:Z.clock<=lam){b:Nat}{c:List Value}(hb:V.heap.get b=Z.heap.get b)(hc:Z.cells b=some c):(view V lam).cells b=some c:=by
 rw[Av,Kc,hb]
 rw[Av] at hc
 cases hg:Z.heap.get b with
 | none=>rw[hg] at hc;cases hc
 | some e=>
  rw[hg] at hc
  simp only
  rw[if_pos (by have:=(hw b e hg).2;omega)]
  exact hc
def intsOf(path:List Nat):List Value:=path.map fun i=>.int .i64 (.ofNat i)
theorem Gc(path:List Nat):(intsOf path).length=path.length:=by simp[intsOf]
def PathV(Q:Nat->Prop)(Z:aC)(v:Value)(path:List Nat):Prop:=
 (v=.slice none 0 0/\path=[])\/∃b cx rest,v=.slice (some ⟨b,0,none⟩) path.length cx/\Q b/\Z.cells b=some (intsOf path++rest)
theorem PathV.keep{Q Q':Nat->Prop}{Z V:aC}{v:Value}{path:List Nat}(h:PathV Q Z v path)(hk:∀b c,Q b->Z.cells b=some c->V.cells b=some c/\Q' b):PathV Q' V v path:=by
 rcases h with h|⟨b,cx,rest,h1,h2,h3⟩
 .exact .inl h
 .exact .inr ⟨b,cx,rest,h1,(hk b _ h2 h3).2,(hk b _ h2 h3).1⟩
theorem PathV.fnew{Q:Nat->Prop}{Z:aC}{v:Value}{path:List Nat}(h:PathV Q Z v path):Eng.fnew 1 v Z=some ((intsOf path).length,intsOf path):=by
 rcases h with⟨rfl,rfl⟩|⟨b,cx,rest,rfl,h2,h3⟩
 .rfl
 .rw[Gc]
  exact Ky b path.length cx _ rest h3 (Gc _)
theorem PathV.one{Q:Nat->Prop}{Z:aC}{v:Value}{path:List Nat}(h:PathV Q Z v path):oneCell v=true/\aM v=true/\aI v=[v]:=by
 rcases h with⟨rfl,rfl⟩|⟨b,cx,rest,rfl,h2,h3⟩
 .exact⟨Au _ _ _,AA _ _ _,rfl⟩
 .exact⟨Au _ _ _,AA _ _ _,rfl⟩
def PathsL(Q:Nat->Prop)(Z:aC):List Value->List (List Nat)->Prop
 | [],[]=>True
 | u::us,p::ps=>PathV Q Z u p/\PathsL Q Z us ps
 | _,_=>False
theorem PathsL.keep{Q Q':Nat->Prop}{Z V:aC}(hk:∀b c,Q b->Z.cells b=some c->V.cells b=some c/\Q' b):∀ {us:List Value} {ps:List (List Nat)},PathsL Q Z us ps->PathsL Q' V us ps
 | [],[],_=>trivial
 | _::_,_::_,⟨h1,h2⟩=>⟨h1.keep hk,h2.keep hk⟩
theorem PathsL.length{Q:Nat->Prop}{Z:aC}:∀ {us:List Value} {ps:List (List Nat)},PathsL Q Z us ps->us.length=ps.length
 | [],[],_=>rfl
 | _::_,_::_,⟨_,h2⟩=>congrArg (· + 1) h2.length
theorem PathsL.append{Q:Nat->Prop}{Z:aC}:∀ {us us':List Value} {ps ps':List (List Nat)},PathsL Q Z us ps->PathsL Q Z us' ps'->PathsL Q Z (us++us') (ps++ps')
 | [],_,[],_,_,h=>h
 | _::_,_,_::_,_,⟨h1,h2⟩,h=>⟨h1,h2.append h⟩
theorem PathsL.all{Q:Nat->Prop}{Z:aC}:∀ {us:List Value} {ps:List (List Nat)},PathsL Q Z us ps->us.all oneCell=true
 | [],[],_=>rfl
 | _::_,_::_,⟨h1,h2⟩=>by rw[List.all_cons,h1.one.1,Bool.true_and];exact h2.all
theorem PathsL.get{Q:Nat->Prop}{Z:aC}:∀ {us:List Value} {ps:List (List Nat)} {i:Nat} {p:List Nat},PathsL Q Z us ps->ps[i]? = some p->∃u,us[i]? = some u/\PathV Q Z u p
 | u::_,_::_,0,_,⟨h1,_⟩,h=>by cases h;exact⟨u,rfl,h1⟩
 | _::us,_::ps,i+1,p,⟨_,h2⟩,h=>by
  obtain⟨u,h3,h4⟩:=PathsL.get (i:=i) h2 (by simpa using h)
  exact⟨u,by simpa using h3,h4⟩
 | [],[],_,_,_,h=>by simp at h
end
end Go.Eng
namespace Go.Proofs.YtknnbjmcfibpgaaGreatDoor
open Go Go.Eng
variable (E:Env) (ro:Option Nat) (last:List Nat->aZ) (cl:List Nat) (a:aV) (u:Option FrameMode) (Z:aC)
def Tu(_:Unit):List COp:=[⟨fun a Z=>.val (.bool false) Z,some 6,tT⟩]
def AuJ:List COp:=Tu ()
def Tv(_:Unit):List COp:=[⟨fun a Z=>.val (a.get 1) Z,some 7,tT⟩,
 ⟨fun a Z=>.val (a.get 0) Z,some 8,tT⟩,
 ⟨fun a Z=>i_leq Tryz.prog 3 (.tmp 7) (.tmp 8) (a.get 7) (a.get 8) Z,some 9,tT⟩,
 ⟨fun a Z=>.val (a.get 9) Z,some 10,tT⟩,
 ⟨fun a Z=>.val (a.get 0) Z,some 11,fun a=>gd (a.get 10) true⟩,
 ⟨fun a Z=>.val (a.get 2) Z,some 12,fun a=>gd (a.get 10) true⟩,
 ⟨fun a Z=>i_leq Tryz.prog 3 (.tmp 11) (.tmp 12) (a.get 11) (a.get 12) Z,some 13,fun a=>gd (a.get 10) true⟩,
 ⟨fun a Z=>bG (a.get 10) (a.get 13) (.bool false) Z,some 14,tT⟩,
 ⟨fun a Z=>.val (a.get 14) Z,some 6,tT⟩]
def AuK:List COp:=Tv ()
def AnJ(E:Env)(ro:Option Nat)(fn:FuncId):aZ:=(aF (aD E ro AuJ) (aF (aD E ro AuK) bO))
theorem WL:aD E ro AuJ a u Z=aD E ro (Tu ()) a u Z:=rfl
theorem WM:aD E ro AuK a u Z=aD E ro (Tv ()) a u Z:=rfl
theorem AvL(E:Env)(ro:Option Nat)(fn:FuncId):code Tryz.prog nls (Tryz.f92.body.getD .skip) E ro fn=AnJ E ro fn:=by kernel_rfl
theorem Apy(E:Env)(args:List Value)(u:Option FrameMode)(Z:aC)(hn:args.length<=(6:Nat)):bA Tryz.prog nls E 92 args u Z=aN Tryz.prog E [.tmp 6] (AnJ E none 92 ⟨aY undef 6 args,fun _=>undef,6,15,[]⟩ u Z):=by
 rw[Am (body:=Tryz.f92.body.getD .skip) Tryz.func92 rfl E args u Z 6 15 (by kernel_rfl) rfl ⟨hn,by decide⟩,AvL]
 rfl
end Go.Proofs.YtknnbjmcfibpgaaGreatDoor
namespace Go.Proofs.YtknnbjmcfibpgaaGreatDoor
open Go Go.Eng
attribute [local congr] Aa Af Ad Ab Ac
attribute [-go_sem] List.range_succ
abbrev TP:TypeId:=25
structure HeadPa (bd bo base:Nat) (R:Nat->Prop) (k z:Int) (t:ByteArray) (q:Option Addr) (c:Nat) (ds:List D) (at':List Nat) (atv:Value) (us:List Value) (ps:List (List Nat)) (bU:aC) (i:Nat) (f:Nat->Value) (Z:aC):Prop where
 f1:f 1=atv
 f2:f 2=.pointer (some ⟨bd,0,none⟩)
 f5:Ful TP Z bo (f 5) us
 f6:f 6=.int .i64 (.ofNat i)
 cd:Z.cells bd=some [.int .i64 k,.int .i64 z,.string t,.slice q ds.length c]
 lay:bF R Z q 0 ds
 low:∀b,R b->b<base
 atp:PathV (· < base) Z atv at'
 hbd:base<=bd/\bd≠bo
 hbo:base<=bo
 lst:PathsL (fun b=>base<=b/\b≠bo) Z us ps
 wf:Wf Z
 ext:Ext bU Z
 le:i<=ds.length
 few:ds.length<10000
def PathsAt(m:Nat)(d:D):Prop:=∀(at':List Nat) (v atv:Value) (R Q:Nat->Prop) (Z:aC),Wf Z->aU R Z v d->PathV Q Z atv at'->at'.length+d.deep<1000->(d.pieces at').length<10000->
 Gives ((env m).call 31 [v,atv] none Z) Z fun w V=>∃b us,Z.next<=b/\Ful TP V b w us/\PathsL (fun b=>Z.next<=b) V us ((d.pieces at').map (·.1))
theorem EK:∀ {ds:List D} {d:D},d∈ds->d.deep<=D.deeps ds
 | x::ds,d,h=>by
  rw[D.deeps]
  rcases List.mem_cons.1 h with rfl|h
  .omega
  .have:=EK h;omega
theorem Ll:∀(ds:List D) (at':List Nat) (i:Nat),ds.length<=(D.piecesL at' i ds).length
 | [],_,_=>Nat.zero_le _
 | d::ds,at',i=>by
  rw[D.piecesL,List.length_append,D.pieces_eq,List.length_cons,List.length_cons]
  have:=Ll ds at' (i+1)
  omega
end Go.Proofs.YtknnbjmcfibpgaaGreatDoor
namespace Go.Proofs.YtknnbjmcfibpgaaGreatDoor
open Go Go.Eng
attribute [local congr] Aa Af Ad Ab Ac
attribute [-go_sem] List.range_succ
theorem N9(n:Nat)(g:Value)(lv:List Value)(Z:aC)(hw:Wf Z)(hg:aM g=true):
  ∃V,(env (n+1)).call 111 [.agg #[g],.agg lv.toArray] none Z=.ret (.func (.func 137) #[] #[.pointer (some ⟨Z.next+1,0,none⟩),.pointer (some ⟨Z.next,0,none⟩)]) none V/\Ext Z V/\Wf V/\V.next=Z.next+2/\V.cells Z.next=some [g]/\V.cells (Z.next+1)=some lv:=by
 rw[Ai _ 111 _ _ rfl,AfD _ _ _ _ (by simp),Ah]
 unfold Aaq
 simp -implicitDefEqProofs only[go_sem,Adw,QO,Adx,QP]
 exact⟨_,rfl,((Ext.refl _).push _ _).push _ _,(hw.push _ _).push _ _,rfl,by rw[Al,if_neg (by rw[Ae];omega),Al,if_pos rfl];rfl,by rw[Al,if_pos (by rw[Ae])];rfl⟩
theorem T_(n:Nat)(s:Value)(Z:aC):(env (n+1)).call 141 [s] none Z=.ret (.bool true) none Z:=by
 rw[Ai _ 141 _ _ rfl,AfM _ _ _ _ (by simp),Ah]
 unfold Aaz
 simp -implicitDefEqProofs only[go_sem,Ad6,Rv,Ad7,Rw]
theorem Xc(n:Nat)(lv:List Value)(h4:lv.length=4)(Z:aC)(hw:Wf Z):
  ∃V b1 b2,(env (n+2)).call 113 [.agg lv.toArray] none Z=.ret (.func (.func 137) #[] #[.pointer (some ⟨b1,0,none⟩),.pointer (some ⟨b2,0,none⟩)]) none V/\Ext Z V/\Wf V/\Z.next<=b1/\Z.next<=b2/\V.cells b2=some [.func (.func 141) #[] #[]]/\V.cells b1=some lv:=by
 have hw1:=hw.push (.cells lv TD) none
 obtain⟨a_,e2,x2,hw2,_,c1,c2⟩:=N9 n (.func (.func 141) #[] #[]) lv (Z.push (.cells lv TD) none) hw1 (DX _ _ _)
 rw[Ai _ 113 _ _ rfl,AfE _ _ _ _ (by simp),Ah]
 unfold Aar
 have ht:lv.take 4=lv:=List.take_of_length_le (by omega)
 simp -implicitDefEqProofs only[go_sem,Ady,QQ,Adz,QR,DX,Eu,h4,ht,e2,Nat.le_refl]
 exact⟨_,_,_,rfl,((Ext.refl _).push _ _).trans x2,hw2,by omega,by omega,c1,c2⟩
theorem Abq(a b:Int)(Z:aC):fun2 Tryz.prog Builtin.max2 (.int .i64 a) (.int .i64 b) Z=.val (.int .i64 (if b>a then b else a)) Z:=by kernel_rfl
theorem I7(m:Nat)(fn:FuncId)(params:List Tmp)(assign body:Code)(nl nt:Nat)(f g:Nat->Value)(ds:List Deferred)(u:Option FrameMode)(t b1 b2:Nat)(Z:aC)(w:Value)(R:Nat->Prop)(d:D)(lv:List Value)(I:List (List Nat×D)->(Nat->Prop)->aC->Prop)(B:Nat->Prop)(hB:Body (env m) (Z.next+1) R w I (d.pieces []))(hS:Small (d.pieces []))(hN:(d.pieces []).length<100000000000)(hl:∀done B V,I done B V->bR fn params assign body nl nt f g (Z.next+1) Z.next .ready V/\∃ver,V.heap.get Z.next=some ⟨.defd true,false,none,ver⟩)(hi:I [] B ((Z.push (.defd true) none).push (.loop .ready none fn ((List.range nl).map f) g nl nt params assign body Z.next) none))(ht:(Sl nl nt f g ds).get t=.func (.func 137) #[] #[.pointer (some ⟨b1,0,none⟩),.pointer (some ⟨b2,0,none⟩)])(hw:Wf Z)(hcv:Z.cells b1=some lv)(hb1:¬ B b1)(hL:aU R Z (.agg lv.toArray) d)(hR:∀b,R b->b<Z.next)(hcw:Z.cells b2=some [w])(hb2:¬ B b2):
  ∃V B',frange (env (m+1)) none fn (.tmp t) params assign body (Sl nl nt f g ds) u Z=
    .done .normal (Sl nl nt f g ({ target:=.collected Z.next,args:=#[] }::ds)) u (V.put (Z.next+1) (.loop .exhausted none fn ((List.range nl).map f) g nl nt params assign body Z.next) none)/\
   Chg B Z V/\Z.next+2<=V.next/\(∀b,B' b->B b\/Z.next<=b)/\Wf V/\I (d.pieces []) B' V:=by
 rw[Kz _ _ _ _ _ _ _ _ _ _ _ _ t _ _ _ ht]
 have x1:Ext Z ((Z.push (.defd true) none).push (.loop .ready none fn ((List.range nl).map f) g nl nt params assign body Z.next) none):=((Ext.refl _).push _ _).push _ _
 have hw1:=(hw.push (.defd true) none).push (.loop .ready none fn ((List.range nl).map f) g nl nt params assign body Z.next) none
 have hn1:((Z.push (.defd true) none).push (.loop .ready none fn ((List.range nl).map f) g nl nt params assign body Z.next) none).next=Z.next+2:=rfl
 generalize aC.push _ (.loop .ready none fn ((List.range nl).map f) g nl nt params assign body Z.next) none=bS at hi x1 hw1 hn1 ⊢
 have hb1n:=hw.cells hcv
 have hb2n:=hw.cells hcw
 obtain⟨a_,B2,e2,ch2,hB2,hw2,i2⟩:=Axk d hB hS hN b1 b2 bS _ lv B hw1 hi ((x1.cells hb1n).trans hcv) rfl hb1 (hL.keep fun b cs hb hc=>⟨(x1.cells (hw.cells hc)).trans hc,hb⟩) (fun b hb=>by have:=hR b hb;omega) ((x1.cells hb2n).trans hcw) hb2
 have hargs:(#[]:Array Value).toList++[Value.func (.yield (Z.next+1)) #[] #[]]++(#[.pointer (some ⟨b1,0,none⟩),.pointer (some ⟨b2,0,none⟩)]:Array Value).toList=[.func (.yield (Z.next+1)) #[] #[],.pointer (some ⟨b1,0,none⟩),.pointer (some ⟨b2,0,none⟩)]:=rfl
 rw[hargs,e2,Jt _ _ _ _ _ _ _ _ _ _ _ _ _ _ _ _ (hl _ _ _ i2).1]
 have n2:=ch2.next
 refine⟨a_,B2,rfl,⟨by omega,Nat.le_trans x1.clock ch2.clock,fun b hb h0=>(ch2.get b (by omega) h0).trans (x1.get b hb)⟩,by omega,fun b hb=>?_,hw2,i2⟩
 rcases hB2 b hb with h|h
 .exact .inl h
 .exact .inr (by omega)
def longest(l:List (List Nat×D)):Nat:=l.foldl (fun m x=>max m (x.1.length+1)) 0
theorem QE(l:List (List Nat×D))(x:List Nat×D):longest (l++[x])=max (longest l) (x.1.length+1):=by simp[longest]
def DeepI(l r cm:Nat)(f g:Nat->Value)(done:List (List Nat×D))(B:Nat->Prop)(Z:aC):Prop:=
 (∀b,B b↔b=l\/b=r\/b=cm)/\l<Z.next/\r<Z.next/\cm<Z.next/\bR 65 [7,8] Kl Km 5 15 f g l r .ready Z/\(∃ver,Z.heap.get r=some ⟨.defd true,false,none,ver⟩)/\
  ∃ver,Z.heap.get cm=some ⟨.cells [.int .i64 (.ofNat (longest done))] TI,false,none,ver⟩
theorem AcU(n l r cm:Nat)(R:Nat->Prop)(f g:Nat->Value)(all:List (List Nat×D))(hne:cm<r/\r<l)(h3:f 3=.pointer (some ⟨cm,0,none⟩))(hR:∀b,R b->b<cm)(hlen:∀x∈all,x.1.length<80000):
  Body (env (n+2)) l R (.func (.func 141) #[] #[]) (DeepI l r cm f g) all where
 stays:=fun done B Z V ⟨h1,h2,h3,h4,h5,⟨v6,h6⟩,⟨v7,h7⟩⟩ hw hC=>by
  have k:∀b,B b->b<Z.next->V.heap.get b=Z.heap.get b:=fun b hb hn=>hC.get b hn fun h=>h.1 hb
  have hn:=hC.next
  exact⟨h1,by omega,by omega,by omega,h5.keep (k l ((h1 l).2 (.inl rfl)) h2),⟨v6,(k r ((h1 r).2 (.inr (.inl rfl))) h3).trans h6⟩,⟨v7,(k cm ((h1 cm).2 (.inr (.inr rfl))) h4).trans h7⟩⟩
 own:=fun done B Z ⟨h1,h2,h3,h4,_⟩ b hb=>by
  rcases (h1 b).1 hb with rfl|rfl|rfl
  .exact⟨h2,fun h=>by have:=hR _ h;omega⟩
  .exact⟨h3,fun h=>by have:=hR _ h;omega⟩
  .exact⟨h4,fun h=>by have:=hR _ h;omega⟩
 inside:=fun done B Z k z t p ln c _ hw=>HP (n+1) _ 141 #[] rfl k z t (.slice p ln c) (Au _ _ _) Z hw fun V _ hw'=>⟨_,V,T_ n _ V,Ext.refl _,hw',rfl⟩
 go:=fun done path d rest B Z pv v hall hw ⟨h1,h2,h4,h5,h6,⟨v6,h7⟩,⟨v7,h8⟩⟩ ⟨p,c,hpv,_⟩ hL=>by
  subst hpv
  have hx:path.length<80000:=hlen (path,d) (by rw[hall];simp)
  rw[GG _ _ _ _ _ _ _ _ _ (n+1) l r _ h6 rfl,AcG]
  have hcm:=AB h8
  have hput:∀(o:FObj),(Z.put l o none).cells cm=some [.int .i64 (.ofNat (longest done))]:=fun o=>by rw[Aq,if_neg (by omega)];exact hcm
  have hputg:∀(o:FObj),(Z.put l o none).heap.get cm=some ⟨.cells [.int .i64 (.ofNat (longest done))] TI,false,none,v7⟩:=fun o=>by rw[Ak,if_neg (by omega)];exact h8
  have w1:=FT path.length (by omega)
  simp -implicitDefEqProofs only[go_sem,AlR,Zm,List.zip_cons_cons,List.zip_nil_right,EN,E2]
  rw[Es _ _ _ _ _ _ _ _ _ l r _ h6,AcH]
  simp -implicitDefEqProofs only[go_sem,AlS,Zn,h3,hput,hputg,w1,Abq]
  have hmx:(if Int.ofNat (path.length+1)>Int.ofNat (longest done) then Int.ofNat (path.length+1) else Int.ofNat (longest done))=Int.ofNat (longest (done++[(path,d)])):=by
   rw[QE,Nat.max_def]
   by_cases h:longest done<=path.length+1
   .rw[if_pos h]
    by_cases h':path.length+1=longest done
    .rw[h',if_neg (by omega)]
    .rw[if_pos (by rw[Int.ofNat_eq_natCast,Int.ofNat_eq_natCast];omega)]
   .rw[if_neg h,if_neg (by rw[Int.ofNat_eq_natCast,Int.ofNat_eq_natCast];omega)]
  rw[hmx]
  have hB:∀(o o':FObj),bR 65 [7,8] Kl Km 5 15 f g l r .busy ((Z.put l (.loop .busy none 65 ((List.range 5).map f) g 5 15 [7,8] Kl Km r) none).put cm o' none):=fun _ _=>⟨Z.clock,by rw[Ak,if_neg (by omega),Ak,if_pos rfl]⟩
  rw[Ej _ _ _ _ _ _ _ _ _ _ l r _ _ (hB (.defd true) _)]
  refine⟨B,_,rfl,((hw.put _ _ _ h2).put _ _ _ h5).put _ _ _ h2,(((Chg.refl B Z).put _ _ _ (.inr ((h1 l).2 (.inl rfl)))).put _ _ _ (.inr ((h1 cm).2 (.inr (.inr rfl))))).put _ _ _ (.inr ((h1 l).2 (.inl rfl))),fun b hb=>.inl hb,h1,h2,h4,h5,bR.put _ _ _ _ _ _ _ _ _ _ _ _,⟨v6,by rw[Ak,if_neg (by omega),Ak,if_neg (by omega),Ak,if_neg (by omega)];exact h7⟩,⟨Z.clock+1,by rw[Ak,if_neg (by omega),Ak,if_pos rfl];rfl⟩⟩
theorem Xx(n:Nat)(d:D)(lv:List Value)(h4:lv.length=4)(R:Nat->Prop)(Z:aC)(hw:Wf Z)(hL:aU R Z (.agg lv.toArray) d)(hR:∀b,R b->b<Z.next)(hS:Small (d.pieces []))(hN:(d.pieces []).length<100000000000):
  Gives ((env (n+4)).call 65 [.agg lv.toArray] none Z) Z fun w _=>w=.int .i64 (.ofNat (longest (d.pieces []))):=by
 rw[Ai _ 65 _ _ rfl,Apm _ _ _ _ (by simp),Ah]
 unfold Anw
 have x1:Ext Z (((Z.push (.cells lv TD) none).push (.cells [.int .i64 0] TI) none).put (Z.next+1) (.cells [.int .i64 0] TI) none):=(((Ext.refl _).push _ _).push _ _).put _ _ _ (by omega)
 have hw1:=((hw.push (.cells lv TD) none).push (.cells [.int .i64 0] TI) none).put (Z.next+1) (.cells [.int .i64 0] TI) none (Nat.lt_succ_self _)
 have g1:(((Z.push (.cells lv TD) none).push (.cells [.int .i64 0] TI) none).put (Z.next+1) (.cells [.int .i64 0] TI) none).heap.get (Z.next+1)=some ⟨.cells [.int .i64 0] TI,false,none,Z.clock+2⟩:=by rw[Ak,if_pos rfl];rfl
 have c1:(((Z.push (.cells lv TD) none).push (.cells [.int .i64 0] TI) none).put (Z.next+1) (.cells [.int .i64 0] TI) none).cells Z.next=some lv:=by rw[Aq,if_neg (by omega),Al,if_neg (by rw[Ae];omega),Al,if_pos rfl];rfl
 have n1:(((Z.push (.cells lv TD) none).push (.cells [.int .i64 0] TI) none).put (Z.next+1) (.cells [.int .i64 0] TI) none).next=Z.next+2:=rfl
 simp -implicitDefEqProofs only[go_sem,AlO,Zj,AlP,Zk]
 generalize hff:upd _ 3 _=f1
 have q1:f1 1=.pointer (some ⟨Z.next,0,none⟩):=by rw[<-hff];simp -implicitDefEqProofs only[go_sem,reduceCtorEq]
 have q3:f1 3=.pointer (some ⟨Z.next+1,0,none⟩):=by rw[<-hff];simp -implicitDefEqProofs only[go_sem,reduceCtorEq]
 clear hff
 generalize aC.put _ _ _ _=bS at x1 hw1 g1 c1 n1 ⊢
 obtain⟨a_,b1,b2,e2,x2,hw2,hb1,hb2,cb2,cb1⟩:=Xc (n+1) lv h4 bS hw1
 have ht:lv.take 4=lv:=List.take_of_length_le (by omega)
 simp -implicitDefEqProofs only[go_sem,AlQ,Zl,q1,q3,c1,h4,ht,e2,Nat.le_refl]
 generalize hgg:upd _ 6 _=gg
 have n2:=x2.next
 have hL2:aU R a_ (.agg lv.toArray) d:=hL.keep fun b cs hb hc=>⟨((x1.trans x2).cells (hw.cells hc)).trans hc,hb⟩
 have hcm2:a_.heap.get (Z.next+1)=some ⟨.cells [.int .i64 0] TI,false,none,Z.clock+2⟩:=(x2.get _ (by omega)).trans g1
 obtain⟨bT,B3,e3,ch3,n3,hB3,hw3,i3⟩:=I7 (n+2) 65 [7,8] Kl Km 5 15 f1 gg [] none 6 b1 b2 a_ (.func (.func 141) #[] #[]) R d lv (DeepI (a_.next+1) a_.next (Z.next+1) f1 gg) (fun b=>b=a_.next+1\/b=a_.next\/b=Z.next+1)
  (AcU n (a_.next+1) a_.next (Z.next+1) R f1 gg _ ⟨by omega,by omega⟩ q3 (fun b hb=>by have:=hR b hb;omega) (fun x hx=>(hS x hx).1)) hS hN
  (fun done B V ⟨_,_,_,_,h5,h6,_⟩=>⟨h5,h6⟩)
  ⟨fun b=>Iff.rfl,by rw[Ae,Ae];omega,by rw[Ae,Ae];omega,by rw[Ae,Ae];omega,Gk ..,⟨_,by rw[Aj,if_neg (by rw[Ae];omega),Aj,if_pos rfl]⟩,⟨_,by rw[Aj,if_neg (by rw[Ae];omega),Aj,if_neg (by omega)];exact hcm2⟩⟩
  (by rw[Kf,<-hgg];simp -implicitDefEqProofs only[go_sem,reduceCtorEq]) hw2 cb1 (fun h=>by have:=hw2.cells cb1;rcases h with h|h|h<;>omega) hL2 (fun b hb=>by have:=hR b hb;omega) cb2 (fun h=>by have:=hw2.cells cb2;rcases h with h|h|h<;>omega)
 rw[e3]
 obtain⟨h1,h2,h4',h5,h6,⟨v6,h7⟩,⟨v7,h8⟩⟩:=i3
 have hcm:=AB h8
 have hputc:∀(o:FObj),(bT.put (a_.next+1) o none).cells (Z.next+1)=some [.int .i64 (.ofNat (longest (d.pieces [])))]:=fun o=>by rw[Aq,if_neg (by omega)];exact hcm
 have hcol:∀(o:FObj),(bT.put (a_.next+1) o none).heap.get a_.next=some ⟨.defd true,false,none,v6⟩:=fun o=>by rw[Ak,if_neg (by omega)];exact h7
 simp -implicitDefEqProofs only[go_sem,AlT,Zo,q3,hputc]
 rw[Ez _ _ _ _ _ _ _ _ _ _ (hcol _)]
 simp -implicitDefEqProofs only[go_sem]
 have x3:Ext Z bT:=⟨by have:=x1.next;omega,by have:=x1.clock;have:=x2.clock;have:=ch3.clock;omega,fun b hb=>(ch3.get b (by omega) (fun h=>by rcases h with h|h|h<;>omega)).trans ((x1.trans x2).get b hb)⟩
 exact⟨_,_,rfl,(x3.put _ _ _ (by omega)).put _ _ _ (by omega),(hw3.put _ _ _ (by omega)).put _ _ _ (by rw[Ao];omega),rfl⟩
end Go.Proofs.YtknnbjmcfibpgaaGreatDoor
namespace Go.Proofs.YtknnbjmcfibpgaaGreatDoor
open Go Go.Eng
attribute [local congr] Aa Af Ad Ab Ac
attribute [-go_sem] List.range_succ
def AllGood(m:Nat)(all:List (List Nat×D)):Prop:=∀path k z t ds,(path,D.mk k z t ds)∈all->∃k':Nat,k=(k':Int)/\Good m k' z t ds.length
def ValidI(l r cb mp:Nat)(f g:Nat->Value)(done:List (List Nat×D))(B:Nat->Prop)(Z:aC):Prop:=
 (∀b,B b↔b=l\/b=r\/b=cb)/\l<Z.next/\r<Z.next/\cb<Z.next/\bR 64 [12,13] Dx Dy 6 25 f g l r .ready Z/\(∃ver,Z.heap.get r=some ⟨.defd true,false,none,ver⟩)/\
  (∃ver,Z.heap.get cb=some ⟨.cells [.int .i64 (.ofNat done.length),.map (some mp)] 130,false,none,ver⟩)/\done.length<=2000
theorem AaV(m l r cb mp:Nat)(R:Nat->Prop)(f g:Nat->Value)(all:List (List Nat×D))(hne:cb<r/\r<l)(h3:f 3=.pointer (some ⟨cb,0,none⟩))(hR:∀b,R b->b<cb)(hG:AllGood m all)(hN:all.length<=2000):
  Body (env (m+3)) l R (.func (.func 110) #[.pointer (some ⟨cb,0,none⟩)] #[]) (ValidI l r cb mp f g) all where
 stays:=fun done B Z V ⟨h1,h2,h3,h4,h5,⟨v6,h6⟩,⟨v7,h7⟩,h8⟩ hw hC=>by
  have k:∀b,B b->b<Z.next->V.heap.get b=Z.heap.get b:=fun b hb hn=>hC.get b hn fun h=>h.1 hb
  have hn:=hC.next
  exact⟨h1,by omega,by omega,by omega,h5.keep (k l ((h1 l).2 (.inl rfl)) h2),⟨v6,(k r ((h1 r).2 (.inr (.inl rfl))) h3).trans h6⟩,⟨v7,(k cb ((h1 cb).2 (.inr (.inr rfl))) h4).trans h7⟩,h8⟩
 own:=fun done B Z ⟨h1,h2,h3,h4,_⟩ b hb=>by
  rcases (h1 b).1 hb with rfl|rfl|rfl
  .exact⟨h2,fun h=>by have:=hR _ h;omega⟩
  .exact⟨h3,fun h=>by have:=hR _ h;omega⟩
  .exact⟨h4,fun h=>by have:=hR _ h;omega⟩
 inside:=fun done B Z k z t p ln c ⟨h1,h2,h3,h4,h5,h6,⟨v7,h7⟩,h8⟩ hw=>by
  refine HP (m+2) _ 110 #[.pointer (some ⟨cb,0,none⟩)] rfl k z t (.slice p ln c) (Au _ _ _) Z hw fun V hx hw'=>?_
  have hc:=AB ((hx.get cb h4).trans h7)
  exact⟨_,V,UN (m+1) cb (Int.ofNat done.length) (by rw[Int.ofNat_eq_natCast];omega) p ln c V _ hc,Ext.refl _,hw',rfl⟩
 go:=fun done path d rest B Z pv v hall hw ⟨h1,h2,h4,h5,h6,⟨v6,h7⟩,⟨v7,h8⟩,h9⟩ _ hL=>by
  have hlen:done.length+1<=2000:=by have:=congrArg List.length hall;simp at this;omega
  obtain⟨k,z,t,ps⟩:=d
  obtain⟨k',rfl,hGd⟩:=hG path k z t ps (by rw[hall];simp)
  obtain⟨p,c,rfl,hq⟩:=hL
  rw[GG _ _ _ _ _ _ _ _ _ (m+2) l r _ h6 rfl,Kj]
  simp -implicitDefEqProofs only[go_sem,AP,NA,Nz,List.zip_cons_cons,List.zip_nil_right,EN,E2]
  have x1:Ext Z ((Z.push (.cells [.int .i64 0,.int .i64 0,.string ⟨#[]⟩,.slice none 0 0] TD) none).put Z.next (.cells [.int .i64 (k':Int),.int .i64 z,.string t,.slice p ps.length c] TD) none):=((Ext.refl _).push _ _).put _ _ _ (Nat.le_refl _)
  have hw1:=(hw.push (.cells [.int .i64 0,.int .i64 0,.string ⟨#[]⟩,.slice none 0 0] TD) none).put Z.next (.cells [.int .i64 (k':Int),.int .i64 z,.string t,.slice p ps.length c] TD) none (Nat.lt_succ_self _)
  have b1:((Z.push (.cells [.int .i64 0,.int .i64 0,.string ⟨#[]⟩,.slice none 0 0] TD) none).put Z.next (.cells [.int .i64 (k':Int),.int .i64 z,.string t,.slice p ps.length c] TD) none).cells Z.next=some [.int .i64 (k':Int),.int .i64 z,.string t,.slice p ps.length c]:=by rw[Aq,if_pos rfl];rfl
  have n1:((Z.push (.cells [.int .i64 0,.int .i64 0,.string ⟨#[]⟩,.slice none 0 0] TD) none).put Z.next (.cells [.int .i64 (k':Int),.int .i64 z,.string t,.slice p ps.length c] TD) none).next=Z.next+1:=rfl
  generalize aC.put _ _ _ _=bS at x1 hw1 b1 n1 ⊢
  have l1:=h6.keep (x1.get l h2)
  rw[Es _ _ _ _ _ _ _ _ _ l r _ l1,Kk]
  have hw2:=hw1.put l (.loop .busy none 64 ((List.range 6).map f) g 6 25 [12,13] Dx Dy r) none (by omega)
  have l2:bR 64 [12,13] Dx Dy 6 25 f g l r .busy (bS.put l (.loop .busy none 64 ((List.range 6).map f) g 6 25 [12,13] Dx Dy r) none):=bR.put _ _ _ _ _ _ _ _ _ _ _ _
  have b2:(bS.put l (.loop .busy none 64 ((List.range 6).map f) g 6 25 [12,13] Dx Dy r) none).cells Z.next=some [.int .i64 (k':Int),.int .i64 z,.string t,.slice p ps.length c]:=by rw[Aq,if_neg (by omega)];exact b1
  have g2:(bS.put l (.loop .busy none 64 ((List.range 6).map f) g 6 25 [12,13] Dx Dy r) none).heap.get cb=some ⟨.cells [.int .i64 (.ofNat done.length),.map (some mp)] 130,false,none,v7⟩:=by rw[Ak,if_neg (by omega)];exact(x1.get cb h5).trans h8
  have r2:(bS.put l (.loop .busy none 64 ((List.range 6).map f) g 6 25 [12,13] Dx Dy r) none).heap.get r=some ⟨.defd true,false,none,v6⟩:=by rw[Ak,if_neg (by omega)];exact(x1.get r h4).trans h7
  have hC2:Chg B Z (bS.put l (.loop .busy none 64 ((List.range 6).map f) g 6 25 [12,13] Dx Dy r) none):=(x1.chg B).put _ _ _ (.inr ((h1 l).2 (.inl rfl)))
  have n2:(bS.put l (.loop .busy none 64 ((List.range 6).map f) g 6 25 [12,13] Dx Dy r) none).next=Z.next+1:=n1
  generalize aC.put _ l _ _=a_ at hw2 l2 b2 g2 r2 hC2 n2 ⊢
  obtain⟨_,bT,e3,x3,hw3,rfl⟩:=MV m k' z t p ps.length c hGd a_ hw2
  have n3:=x3.next
  have g3:bT.heap.get cb=some ⟨.cells [.int .i64 (.ofNat done.length),.map (some mp)] 130,false,none,v7⟩:=(x3.get cb (by omega)).trans g2
  have c3:=AB g3
  have w1:=FT done.length (by omega)
  simp -implicitDefEqProofs only[go_sem,NC,NB,Wh,SR,h3,b2,e3,c3,g3,w1,Nat.le_refl]
  have l3:=(l2.keep (x3.get l (by omega)))
  have l4:∀o:FObj,bR 64 [12,13] Dx Dy 6 25 f g l r .busy (bT.put cb o none):=fun o=>l3.keep (by rw[Ak,if_neg (by omega)])
  rw[Ej _ _ _ _ _ _ _ _ _ _ l r _ _ (l4 _)]
  refine⟨B,_,rfl,(hw3.put _ _ _ (by omega)).put _ _ _ (by rw[Ao];omega),((hC2.trans (x3.chg B) (fun b _ h=>h)).put _ _ _ (.inr ((h1 cb).2 (.inr (.inr rfl))))).put _ _ _ (.inr ((h1 l).2 (.inl rfl))),fun b hb=>.inl hb,h1,?_,?_,?_,bR.put _ _ _ _ _ _ _ _ _ _ _ _,⟨v6,?_⟩,⟨bT.clock,?_⟩,by simp;omega⟩
  .rw[Ao,Ao];omega
  .rw[Ao,Ao];omega
  .rw[Ao,Ao];omega
  .rw[Ak,if_neg (by omega),Ak,if_neg (by omega),x3.get r (by omega)];exact r2
  .rw[Ak,if_neg (by omega),Ak,if_pos rfl,List.length_append,List.length_singleton]
theorem W_(m:Nat)(d:D)(lv:List Value)(h4:lv.length=4)(R:Nat->Prop)(Z:aC)(hw:Wf Z)(hL:aU R Z (.agg lv.toArray) d)(hR:∀b,R b->b<Z.next)(hS:Small (d.pieces []))(hN:(d.pieces []).length<=2000)(hG:AllGood m (d.pieces [])):
  Gives ((env (m+5)).call 64 [.agg lv.toArray] none Z) Z fun w _=>w=.int .i64 (.ofNat (d.pieces []).length):=by
 rw[Ai _ 64 _ _ rfl,Abb _ _ _ _ (by simp),Ah]
 unfold Acl
 have ht:lv.take 4=lv:=List.take_of_length_le (by omega)
 simp -implicitDefEqProofs only[go_sem,AP,Wd,SN,We,SP,Jz,Kb,Lg]
 generalize hff:upd _ 3 _=f1
 generalize hg0:upd _ 7 _=g0
 have q1:f1 1=.pointer (some ⟨Z.next,0,none⟩):=by rw[<-hff];simp -implicitDefEqProofs only[go_sem,reduceCtorEq]
 have q3:f1 3=.pointer (some ⟨Z.next+2,0,none⟩):=by rw[<-hff];simp -implicitDefEqProofs only[go_sem,reduceCtorEq]
 clear hff hg0
 have x1:Ext Z ((((Z.push (.cells lv TD) none).push (.map [] 0) none).push (.cells [.int .i64 0,.map none] 130) none).put (Z.next+2) (.cells [.int .i64 0,.map (some (Z.next+1))] 130) none):=((((Ext.refl _).push _ _).push _ _).push _ _).put _ _ _ (by omega)
 have hw1:=(((hw.push (.cells lv TD) none).push (.map [] 0) none).push (.cells [.int .i64 0,.map none] 130) none).put (Z.next+2) (.cells [.int .i64 0,.map (some (Z.next+1))] 130) none (Nat.lt_succ_self _)
 have g1:((((Z.push (.cells lv TD) none).push (.map [] 0) none).push (.cells [.int .i64 0,.map none] 130) none).put (Z.next+2) (.cells [.int .i64 0,.map (some (Z.next+1))] 130) none).heap.get (Z.next+2)=some ⟨.cells [.int .i64 0,.map (some (Z.next+1))] 130,false,none,Z.clock+3⟩:=by rw[Ak,if_pos rfl];rfl
 have c1:((((Z.push (.cells lv TD) none).push (.map [] 0) none).push (.cells [.int .i64 0,.map none] 130) none).put (Z.next+2) (.cells [.int .i64 0,.map (some (Z.next+1))] 130) none).cells Z.next=some lv:=by
  rw[Aq,if_neg (by omega),Al,if_neg (by simp only[Ae];omega),Al,if_neg (by simp only[Ae];omega),Al,if_pos rfl];rfl
 have n1:((((Z.push (.cells lv TD) none).push (.map [] 0) none).push (.cells [.int .i64 0,.map none] 130) none).put (Z.next+2) (.cells [.int .i64 0,.map (some (Z.next+1))] 130) none).next=Z.next+3:=rfl
 generalize aC.put _ _ _ _=bS at x1 hw1 g1 c1 n1 ⊢
 obtain⟨a_,e2,x2,hw2,n2,cb2,cb1⟩:=N9 (m+3) (.func (.func 110) #[.pointer (some ⟨Z.next+2,0,none⟩)] #[]) lv bS hw1 (DX _ _ _)
 simp -implicitDefEqProofs only[go_sem,Wg,SQ,q1,q3,c1,h4,ht,e2,Nat.le_refl,DX,Eu]
 generalize hgg:upd _ 11 _=gg
 have hL2:aU R a_ (.agg lv.toArray) d:=hL.keep fun b cs hb hc=>⟨((x1.trans x2).cells (hw.cells hc)).trans hc,hb⟩
 have hcm2:a_.heap.get (Z.next+2)=some ⟨.cells [.int .i64 0,.map (some (Z.next+1))] 130,false,none,Z.clock+3⟩:=(x2.get _ (by omega)).trans g1
 obtain⟨bT,B3,e3,ch3,n3,hB3,hw3,i3⟩:=I7 (m+3) 64 [12,13] Dx Dy 6 25 f1 gg [] none 11 (bS.next+1) bS.next a_ (.func (.func 110) #[.pointer (some ⟨Z.next+2,0,none⟩)] #[]) R d lv (ValidI (a_.next+1) a_.next (Z.next+2) (Z.next+1) f1 gg) (fun b=>b=a_.next+1\/b=a_.next\/b=Z.next+2)
  (AaV m (a_.next+1) a_.next (Z.next+2) (Z.next+1) R f1 gg _ ⟨by omega,by omega⟩ q3 (fun b hb=>by have:=hR b hb;omega) hG hN) hS (by omega)
  (fun done B V ⟨_,_,_,_,h5,h6,_⟩=>⟨h5,h6⟩)
  ⟨fun b=>Iff.rfl,by rw[Ae,Ae];omega,by rw[Ae,Ae];omega,by rw[Ae,Ae];omega,Gk ..,⟨_,by rw[Aj,if_neg (by rw[Ae];omega),Aj,if_pos rfl]⟩,⟨_,by rw[Aj,if_neg (by rw[Ae];omega),Aj,if_neg (by omega)];exact hcm2⟩,by simp⟩
  (by rw[Kf,<-hgg];simp -implicitDefEqProofs only[go_sem,reduceCtorEq]) hw2 cb1 (fun h=>by rcases h with h|h|h<;>omega) hL2 (fun b hb=>by have:=hR b hb;omega) cb2 (fun h=>by rcases h with h|h|h<;>omega)
 rw[e3]
 obtain⟨h1,h2,h4',h5,h6,⟨v6,h7⟩,⟨v7,h8⟩,h9⟩:=i3
 have hcm:=AB h8
 have hputc:∀(o:FObj),(bT.put (a_.next+1) o none).cells (Z.next+2)=some [.int .i64 (.ofNat (d.pieces []).length),.map (some (Z.next+1))]:=fun o=>by rw[Aq,if_neg (by omega)];exact hcm
 have hcol:∀(o:FObj),(bT.put (a_.next+1) o none).heap.get a_.next=some ⟨.defd true,false,none,v6⟩:=fun o=>by rw[Ak,if_neg (by omega)];exact h7
 have hlim:=fun τ=>Agi (m+3) (.ofNat (d.pieces []).length) (by rw[Int.ofNat_eq_natCast];omega) τ
 simp -implicitDefEqProofs only[go_sem,AlM,Zh,AlN,Zi,q3,hputc,hlim]
 rw[Ez _ _ _ _ _ _ _ _ _ _ (hcol _)]
 simp -implicitDefEqProofs only[go_sem]
 have x3:Ext Z bT:=⟨by omega,by have:=x1.clock;have:=x2.clock;have:=ch3.clock;omega,fun b hb=>(ch3.get b (by omega) (fun h=>by rcases h with h|h|h<;>omega)).trans ((x1.trans x2).get b hb)⟩
 exact⟨_,_,rfl,(x3.put _ _ _ (by omega)).put _ _ _ (by omega),(hw3.put _ _ _ (by omega)).put _ _ _ (by rw[Ao];omega),rfl⟩
end Go.Proofs.YtknnbjmcfibpgaaGreatDoor
namespace Go.Eng
mutual
def D.count:D->Nat
 | .mk _ _ _ ds=>D.counts ds+1
def D.counts:List D->Nat
 | []=>0
 | d::ds=>D.count d+D.counts ds
end
end Go.Eng
namespace Go.Proofs.YtknnbjmcfibpgaaGreatDoor
open Go Go.Eng
mutual
theorem DY:∀(d:D) (path:List Nat),(d.pieces path).length=d.count
 | .mk k z t ds,path=>by rw[D.pieces,List.length_cons,FR ds path 0,D.count]
theorem FR:∀(ds:List D) (path:List Nat) (i:Nat),(D.piecesL path i ds).length=D.counts ds
 | [],path,i=>rfl
 | d::ds,path,i=>by rw[D.piecesL,List.length_append,DY d (path++[i]),FR ds path (i+1),D.counts]
end
theorem Ac8(f:List Nat×D->Nat)(l:List (List Nat×D)):∀m,l.foldl (fun m x=>max m (f x)) m=max m (l.foldl (fun m x=>max m (f x)) 0):=by
 induction l with
 | nil=>intro m;simp
 | cons x l ih=>intro m;simp only[List.foldl_cons];rw[ih (max m (f x)),ih (max 0 (f x))];omega
theorem FP(a b:List (List Nat×D)):longest (a++b)=max (longest a) (longest b):=by
 unfold longest
 rw[List.foldl_append,Ac8 (fun x=>x.1.length+1)]
theorem Jv(x:List Nat×D)(l:List (List Nat×D)):longest (x::l)=max (x.1.length+1) (longest l):=by
 have:=FP [x] l
 rw[List.singleton_append] at this
 rw[this]
 simp[longest]
mutual
theorem FQ:∀(d:D) (path:List Nat),longest (d.pieces path)=path.length+d.deep
 | .mk k z t ds,path=>by
  rw[D.pieces,Jv,D.deep]
  have:=Hk ds path 0
  simp only
  omega
theorem Hk:∀(ds:List D) (path:List Nat) (i:Nat),max (path.length+1) (longest (D.piecesL path i ds))=path.length+1+D.deeps ds
 | [],path,i=>by simp[D.piecesL,longest,D.deeps]
 | d::ds,path,i=>by
  rw[D.piecesL,FP,D.deeps]
  have h1:=FQ d (path++[i])
  have h2:=Hk ds path (i+1)
  rw[List.length_append,List.length_singleton] at h1
  have h3:1<=d.deep:=by cases d;rw[D.deep];omega
  omega
end
def GoodD(m:Nat)(d:D):Prop:=∀k z t ds,d=D.mk k z t ds->∃k':Nat,k=(k':Int)/\Good m k' z t ds.length
def most:Nat->Nat
 | 0=>1
 | L+1=>3*most L+1
theorem Agm(L:Nat):1<=most L:=by cases L<;>simp[most]
def Fine(m L:Nat)(d:D):Prop:=∀path,(d.pieces path).length<=most L/\∀x∈d.pieces path,x.1.length<=path.length+L/\x.2.parts.length<=3/\GoodD m x.2
theorem ArJ{m L:Nat}(path:List Nat):∀(ds:List D) (i:Nat),(∀d∈ds,Fine m L d)->(D.piecesL path i ds).length<=ds.length*most L/\∀x∈D.piecesL path i ds,x.1.length<=path.length+(L+1)/\x.2.parts.length<=3/\GoodD m x.2
 | [],i,_=>⟨by simp[D.piecesL],fun x hx=>by simp[D.piecesL] at hx⟩
 | d::ds,i,h=>by
  obtain⟨h1,h2⟩:=h d List.mem_cons_self (path++[i])
  obtain⟨h3,h4⟩:=ArJ path ds (i+1) fun d' hd=>h d' (List.mem_cons_of_mem _ hd)
  refine⟨?_,fun x hx=>?_⟩
  .rw[D.piecesL,List.length_append,List.length_cons,Nat.add_mul]
   omega
  .rw[D.piecesL,List.mem_append] at hx
   rcases hx with hx|hx
   .have:=h2 x hx
    rw[List.length_append,List.length_singleton] at this
    exact⟨by omega,this.2⟩
   .exact h4 x hx
theorem Abf{m L:Nat}{k z:Int}{t:ByteArray}{ds:List D}(hl:ds.length<=3)(hg:GoodD m (.mk k z t ds))(h:∀d∈ds,Fine m L d):Fine m (L+1) (.mk k z t ds):=fun path=>by
 obtain⟨h1,h2⟩:=ArJ path ds 0 h
 rw[D.pieces]
 refine⟨?_,fun x hx=>?_⟩
 .rw[List.length_cons,most]
  have:=Nat.mul_le_mul_right (most L) hl
  omega
 .rcases List.mem_cons.1 hx with rfl|hx
  .exact⟨by simp,hl,hg⟩
  .exact h2 x hx
theorem Ac4{m L:Nat}{k z:Int}{t:ByteArray}(hg:GoodD m (.mk k z t [])):Fine m L (.mk k z t []):=fun path=>by
 rw[D.pieces,D.piecesL]
 refine⟨by have:=Agm L;simp;omega,fun x hx=>?_⟩
 rcases List.mem_cons.1 hx with rfl|hx
 .exact⟨by simp,by simp[D.parts],hg⟩
 .simp at hx
theorem Adl(n:Nat){L:Nat}{d:D}(h:Made L d):Fine (n+20) L d:=by
 induction h with
 | leaf L d h=>
  obtain⟨k,z,t,l⟩:=d
  obtain⟨k',rfl,hg,rfl⟩:=Adi n h
  exact Ac4 fun k z t ds e=>by cases e;exact⟨k',rfl,hg⟩
 | pair L a b ha hb iha ihb=>
  refine Abf (by simp) (fun k z t ds e=>?_) fun d hd=>?_
  .cases e
   exact⟨5,rfl,.pair⟩
  .simp only[List.mem_cons,List.not_mem_nil,or_false] at hd
   rcases hd with rfl|rfl
   .exact iha
   .exact ihb
 | vec L l hl h ih=>
  refine Abf hl (fun k z t ds e=>?_) fun d hd=>ih d hd
  cases e
  exact⟨6,rfl,.vec _⟩
theorem Fine.small{m L:Nat}{d:D}(h:Fine m L d)(hL:L<=6):Small (d.pieces []):=fun x hx=>by
 have:=(h []).2 x hx
 rw[List.length_nil] at this
 exact⟨by omega,by omega⟩
theorem Fine.good{m L:Nat}{d:D}(h:Fine m L d):AllGood m (d.pieces []):=fun path k z t ds hx=>((h []).2 _ hx).2.2 k z t ds rfl
theorem ApN{L:Nat}(h:L<=6):most L<=1093:=by
 obtain rfl|rfl|rfl|rfl|rfl|rfl|rfl:L=0\/L=1\/L=2\/L=3\/L=4\/L=5\/L=6:=by omega
 all_goals decide
theorem Fine.few{m L:Nat}{d:D}(h:Fine m L d)(hL:L<=6):(d.pieces []).length<=1093:=Nat.le_trans (h []).1 (ApN hL)
theorem Fine.part{m L:Nat}{k z:Int}{t:ByteArray}{ds:List D}{d:D}(h:Made L (.mk k z t ds))(hd:d∈ds):Made (L-1) d:=by
 cases h with
 | leaf L d h=>cases h<;>simp at hd
 | pair L a b ha hb=>
  simp only[List.mem_cons,List.not_mem_nil,or_false] at hd
  rcases hd with rfl|rfl
  .exact ha
  .exact hb
 | vec L l hl h=>exact h d hd
end Go.Proofs.YtknnbjmcfibpgaaGreatDoor
namespace Go.Proofs.YtknnbjmcfibpgaaGreatDoor
open Go Go.Eng
attribute [local congr] Aa Af Ad Ab Ac
attribute [-go_sem] List.range_succ
theorem Vx{Q:Nat->Prop}{Z:aC}{v:Value}{p:List Nat}(h:PathV Q Z v p):∃a cx,v=.slice a p.length cx/\(p≠[]->∃b rest,a=some ⟨b,0,none⟩/\Q b/\Z.cells b=some (intsOf p++rest)):=by
 rcases h with⟨rfl,rfl⟩|⟨b,cx,rest,rfl,hQ,hc⟩
 .exact⟨none,0,rfl,fun h=>absurd rfl h⟩
 .exact⟨_,cx,rfl,fun _=>⟨b,rest,rfl,hQ,hc⟩⟩
theorem XL{p:List Nat}{i:Nat}(rest:List Value)(h:i<p.length):(intsOf p++rest)[i]? = some (.int .i64 (.ofNat p[i])):=by
 rw[List.getElem?_append_left (by rw[Gc];exact h),intsOf,List.getElem?_map,List.getElem?_eq_getElem h];rfl
structure HeadEi (v w:Value) (i:Nat) (f:Nat->Value):Prop where
 f0:f 0=v
 f1:f 1=w
 f5:f 5=.int .i64 (.ofNat i)
theorem BI(n:Nat)(x y z:Int)(Z:aC):(env (n+1)).call 92 [.int .i64 x,.int .i64 y,.int .i64 z] none Z=.ret (.bool (decide (y<=x)&&decide (x<=z))) none Z:=by
 rw[Ai _ 92 _ _ rfl,Apy _ _ _ _ (by simp),Ah]
 unfold AnJ
 cases e:decide (y<=x) with
 | false=>simp -implicitDefEqProofs only[go_sem,WL,Tu,WM,Tv,e,Bool.false_and]
 | true=>simp -implicitDefEqProofs only[go_sem,WL,Tu,WM,Tv,e,Bool.true_and]
def atP:List Nat->D->Option D
 | [],d=>some d
 | i::p,d=>match d.parts[i]? with
  | some d'=>atP p d'
  | none=>none
theorem Et:∀ds:List D,ds.length<=D.counts ds
 | []=>Nat.zero_le _
 | .mk _ _ _ l::ds=>by rw[List.length_cons,D.counts,D.count];have:=Et ds;omega
theorem Gi:∀ {ds:List D} {d:D},d∈ds->d.count<=D.counts ds
 | x::ds,d,h=>by
  rw[D.counts]
  rcases List.mem_cons.1 h with rfl|h
  .omega
  .have:=Gi h;omega
structure HeadPt (b2 b4:Nat) (pv:Value) (R:Nat->Prop) (k z:Int) (t:ByteArray) (q:Option Addr) (c:Nat) (ds:List D) (i:Nat) (f:Nat->Value) (Z:aC):Prop where
 f1:f 1=pv
 f2:f 2=.pointer (some ⟨b2,0,none⟩)
 f4:f 4=.pointer (some ⟨b4,0,none⟩)
 f6:f 6=.int .i64 (.ofNat i)
 cd:∃fz ver,Z.heap.get b2=some ⟨.cells [.int .i64 k,.int .i64 z,.string t,.slice q ds.length c] TD,false,fz,ver⟩
 lay:bF R Z q 0 ds
 wf:Wf Z
end Go.Proofs.YtknnbjmcfibpgaaGreatDoor
namespace Go.Eng
open Go
end Go.Eng
namespace Go.Proofs.YtknnbjmcfibpgaaGreatDoor
open Go Go.Eng
variable (E:Env) (ro:Option Nat) (last:List Nat->aZ) (cl:List Nat) (a:aV) (u:Option FrameMode) (Z:aC)
noncomputable def Au5:Code:=((bP (Tryz.f99.body.getD .skip)).getD 0 (.skip,.skip)).1
noncomputable def Au6:Code:=((bP (Tryz.f99.body.getD .skip)).getD 0 (.skip,.skip)).2
def Aac(_:Unit):List COp:=[⟨fun a Z=>aP [(.int .i64 0),(.int .i64 0),(.string ⟨#[]⟩),(.slice none 0 0)] 24 none Z,some 2,tT⟩]
def AuL:List COp:=Aac ()
def Aad(_:Unit):List COp:=[⟨fun a Z=>aG (some 4) (a.get 0) Z,some 3,tT⟩,
 ⟨fun a Z=>.enter 64 [(a.get 3)] Z,some 4,tT⟩]
def AuM:List COp:=Aad ()
def Aae(_:Unit):List COp:=[⟨fun a Z=>aG none (a.get 1) Z,some 5,tT⟩,
 ⟨fun a Z=>.enter 94 [(a.get 0),(a.get 5)] Z,some 6,tT⟩,
 ⟨fun a Z=>bI (a.get 6) Z,some 7,tT⟩,
 ⟨fun a Z=>aG (some 4) (a.get 7) Z,some 8,tT⟩,
 ⟨fun a Z=>.enter 88 [(a.get 8)] Z,some 9,tT⟩,
 ⟨fun a Z=>aK 4 (a.get 2) (a.get 9) Z,none,tT⟩]
def AuN:List COp:=Aae ()
def AnK(E:Env)(ro:Option Nat)(fn:FuncId):aZ:=(aF (aD E ro AuL) (aF (aD E ro AuM) (aF (aD E ro AuN) bO)))
theorem AmV:aD E ro AuL a u Z=aD E ro (Aac ()) a u Z:=rfl
theorem AmW:aD E ro AuM a u Z=aD E ro (Aad ()) a u Z:=rfl
theorem AmX:aD E ro AuN a u Z=aD E ro (Aae ()) a u Z:=rfl
theorem AvM(E:Env)(ro:Option Nat)(fn:FuncId):code Tryz.prog nls (Tryz.f93.body.getD .skip) E ro fn=AnK E ro fn:=by kernel_rfl
theorem Apz(E:Env)(args:List Value)(u:Option FrameMode)(Z:aC)(hn:args.length<=(2:Nat)):bA Tryz.prog nls E 93 args u Z=aN Tryz.prog E [.cell 2 24] (AnK E none 93 ⟨aY undef 2 args,fun _=>undef,2,10,[]⟩ u Z):=by
 rw[Am (body:=Tryz.f93.body.getD .skip) Tryz.func93 rfl E args u Z 2 10 (by kernel_rfl) rfl ⟨hn,by decide⟩,AvM]
 rfl
def Aaf(_:Unit):List COp:=[⟨fun a Z=>.val (.pointer none) Z,some 4,tT⟩]
def AuO:List COp:=Aaf ()
def Aag(_:Unit):List COp:=[⟨fun a Z=>.val (a.get 1) Z,some 7,tT⟩,
 ⟨fun a Z=>flenL (a.get 7) Z,some 8,tT⟩,
 ⟨fun a Z=>.val (.int .i64 0) Z,some 9,tT⟩]
def AuP:List COp:=Aag ()
def Tw(_:Unit):List COp:=[⟨fun a Z=>i_lss Tryz.prog 3 (.tmp 9) (.tmp 8) (a.get 9) (a.get 8) Z,some 10,tT⟩]
def AuQ:List COp:=Tw ()
def Aah(_:Unit):List COp:=[⟨fun a Z=>bB (none,1) (a.get 7) (a.get 9) Z,some 11,tT⟩,
 ⟨fun a Z=>aG none (a.get 11) Z,some 12,tT⟩,
 ⟨fun a Z=>.val (a.get 12) Z,some 6,tT⟩]
def AuR:List COp:=Aah ()
def Aai(_:Unit):List COp:=[⟨fun a Z=>.val (a.get 6) Z,some 13,tT⟩,
 ⟨fun a Z=>i_lss Tryz.prog 3 (.tmp 13) (.const (.int .i64 0)) (a.get 13) (.int .i64 0) Z,some 14,tT⟩,
 ⟨fun a Z=>.val (a.get 14) Z,some 15,tT⟩,
 ⟨fun a Z=>.val (a.get 6) Z,some 16,fun a=>gd (a.get 15) false⟩,
 ⟨fun a Z=>.val (a.get 0) Z,some 17,fun a=>gd (a.get 15) false⟩,
 ⟨fun a Z=>bI (a.get 17) Z,some 18,fun a=>gd (a.get 15) false⟩,
 ⟨fun a Z=>aH 3 (a.get 18) Z,some 19,fun a=>gd (a.get 15) false⟩,
 ⟨fun a Z=>aG none (a.get 19) Z,some 20,fun a=>gd (a.get 15) false⟩,
 ⟨fun a Z=>flenL (a.get 20) Z,some 21,fun a=>gd (a.get 15) false⟩,
 ⟨fun a Z=>i_geq Tryz.prog 3 (.tmp 16) (.tmp 21) (a.get 16) (a.get 21) Z,some 22,fun a=>gd (a.get 15) false⟩,
 ⟨fun a Z=>bG (a.get 15) (.bool true) (a.get 22) Z,some 23,tT⟩]
def AuS:List COp:=Aai ()
def Aw5(_:Unit):List COp:=[⟨fun a Z=>.enter 124 [(.int .i64 9)] Z,some 24,tT⟩]
def Aya:List COp:=Aw5 ()
def Aaj(_:Unit):List COp:=[⟨fun a Z=>.val (a.get 0) Z,some 25,tT⟩,
 ⟨fun a Z=>bI (a.get 25) Z,some 26,tT⟩,
 ⟨fun a Z=>aH 3 (a.get 26) Z,some 27,tT⟩,
 ⟨fun a Z=>aG none (a.get 27) Z,some 28,tT⟩,
 ⟨fun a Z=>.val (a.get 6) Z,some 29,tT⟩,
 ⟨fun a Z=>bB (none,4) (a.get 28) (a.get 29) Z,some 30,tT⟩,
 ⟨fun a Z=>.val (a.get 30) Z,some 0,tT⟩]
def AuT:List COp:=Aaj ()
def Aak(_:Unit):List COp:=[⟨fun a Z=>i_add Tryz.prog 3 (.tmp 9) (.const (.int .i64 1)) (a.get 9) (.int .i64 1) Z,some 31,tT⟩,
 ⟨fun a Z=>.val (a.get 31) Z,some 9,tT⟩]
def AuU:List COp:=Aak ()
def Abo(E:Env)(ro:Option Nat)(fn:FuncId):aZ:=(aF (aD E ro AuQ) (aF (aL (fun a=>(a.get 10)) aQ (exitR 0)) (aF (aR 1 (aF (aD E ro AuR) (aF (aF (aD E ro AuS) (aL (fun a=>(a.get 23)) (aD E ro Aya) aQ)) (aD E ro AuT)))) (aD E ro AuU))))
def Aal(_:Unit):List COp:=[⟨fun a Z=>.val (a.get 0) Z,some 32,tT⟩,
 ⟨fun a Z=>.val (a.get 32) Z,some 4,tT⟩]
def AuV:List COp:=Aal ()
def AnL(E:Env)(ro:Option Nat)(fn:FuncId):aZ:=(aF (aD E ro AuO) (aF (aF (aD E ro AuP) (aR 0 (loopR (bH nls fn) (Abo E ro fn)))) (aF (aD E ro AuV) bO)))
theorem AmY:aD E ro AuO a u Z=aD E ro (Aaf ()) a u Z:=rfl
theorem AmZ:aD E ro AuP a u Z=aD E ro (Aag ()) a u Z:=rfl
theorem WN:aD E ro AuQ a u Z=aD E ro (Tw ()) a u Z:=rfl
theorem Am0:aD E ro AuR a u Z=aD E ro (Aah ()) a u Z:=rfl
theorem Am1:aD E ro AuS a u Z=aD E ro (Aai ()) a u Z:=rfl
theorem Am2:aD E ro AuT a u Z=aD E ro (Aaj ()) a u Z:=rfl
theorem Am3:aD E ro AuU a u Z=aD E ro (Aak ()) a u Z:=rfl
theorem Am4:aD E ro AuV a u Z=aD E ro (Aal ()) a u Z:=rfl
theorem AvN(E:Env)(ro:Option Nat)(fn:FuncId):code Tryz.prog nls (Tryz.f94.body.getD .skip) E ro fn=AnL E ro fn:=by kernel_rfl
theorem ApA(E:Env)(args:List Value)(u:Option FrameMode)(Z:aC)(hn:args.length<=(7:Nat)):bA Tryz.prog nls E 94 args u Z=aN Tryz.prog E [.tmp 4] (AnL E none 94 ⟨aY undef 7 args,fun _=>undef,7,33,[]⟩ u Z):=by
 rw[Am (body:=Tryz.f94.body.getD .skip) Tryz.func94 rfl E args u Z 7 33 (by kernel_rfl) rfl ⟨hn,by decide⟩,AvN]
 rfl
def Z3(_:Unit):List COp:=[⟨fun a Z=>fbox 24 (a.get 0) Z,some 1,tT⟩,
 ⟨fun a Z=>aP [(.int .i64 0),(.int .i64 0),(.string ⟨#[]⟩),(.slice none 0 0)] 24 none Z,some 2,tT⟩]
def AuE:List COp:=Z3 ()
def Z4(_:Unit):List DOp:=[⟨fun a Z=>aH 3 (a.get 1) Z,some 9,tT,some 0,false⟩,
 ⟨fun a Z=>aG none (a.get 9) Z,some 10,tT,some 0,false⟩,
 ⟨fun a Z=>.enter 122 [(a.get 10),(.func (.func 88) #[] #[])] Z,some 11,tT,none,false⟩,
 ⟨fun a Z=>aH 0 (a.get 1) Z,some 3,tT,some 0,false⟩,
 ⟨fun a Z=>aG none (a.get 3) Z,some 4,tT,some 0,false⟩,
 ⟨fun a Z=>aH 1 (a.get 1) Z,some 5,tT,some 0,false⟩,
 ⟨fun a Z=>aG none (a.get 5) Z,some 6,tT,some 0,false⟩,
 ⟨fun a Z=>aH 2 (a.get 1) Z,some 7,tT,some 0,false⟩,
 ⟨fun a Z=>aG none (a.get 7) Z,some 8,tT,some 0,false⟩,
 ⟨fun a Z=>fbuild (fun i=>nth [(0,1),(1,1),(2,1),(3,1)] i) [(.int .i64 0),(.int .i64 0),(.string ⟨#[]⟩),(.slice none 0 0)] [(0,(a.get 4)),(1,(a.get 6)),(2,(a.get 8)),(3,(a.get 11))] Z,some 12,tT,some 1,false⟩,
 ⟨fun a Z=>aK 4 (a.get 2) (a.get 12) Z,none,tT,none,true⟩]
def AuF:List DOp:=Z4 ()
def AnI(E:Env)(ro:Option Nat)(fn:FuncId):aZ:=(aF (aD E ro AuE) (aF (drawR E ro AuF) bO))
theorem AmB:aD E ro AuE a u Z=aD E ro (Z3 ()) a u Z:=rfl
theorem AmC:bM E ro last AuF cl a u Z=bM E ro last (Z4 ()) cl a u Z:=rfl
theorem AvK(E:Env)(ro:Option Nat)(fn:FuncId):code Tryz.prog nls (Tryz.f88.body.getD .skip) E ro fn=AnI E ro fn:=by kernel_rfl
theorem Apx(E:Env)(args:List Value)(u:Option FrameMode)(Z:aC)(hn:args.length<=(2:Nat)):bA Tryz.prog nls E 88 args u Z=aN Tryz.prog E [.cell 2 24] (AnI E none 88 ⟨aY undef 2 args,fun _=>undef,2,13,[]⟩ u Z):=by
 rw[Am (body:=Tryz.f88.body.getD .skip) Tryz.func88 rfl E args u Z 2 13 (by kernel_rfl) rfl ⟨hn,by decide⟩,AvK]
 rfl
def LS(_:Unit):List COp:=[⟨fun a Z=>.val (.slice none 0 0) Z,some 4,tT⟩]
def AhI:List COp:=LS ()
def LU(_:Unit):List COp:=[⟨fun a Z=>.val (a.get 0) Z,some 7,tT⟩,
 ⟨fun a Z=>flenL (a.get 7) Z,some 8,tT⟩,
 ⟨fun a Z=>bJ Tryz.prog 3 (.tmp 8) (.const (.int .i64 0)) (a.get 8) (.int .i64 0) Z,some 9,tT⟩]
def AhJ:List COp:=LU ()
def Q5(_:Unit):List COp:=[⟨fun a Z=>.val (.slice none 0 0) Z,some 4,tT⟩]
def AhK:List COp:=Q5 ()
def Q6(_:Unit):List COp:=[⟨fun a Z=>.val (a.get 0) Z,some 10,tT⟩,
 ⟨fun a Z=>flenL (a.get 10) Z,some 11,tT⟩,
 ⟨fun a Z=>fmakeSlice 24 56 [(.int .i64 0),(.int .i64 0),(.string ⟨#[]⟩),(.slice none 0 0)] (a.get 11) (a.get 11) Z,some 12,tT⟩,
 ⟨fun a Z=>.val (a.get 12) Z,some 5,tT⟩]
def AhL:List COp:=Q6 ()
def Q7(_:Unit):List COp:=[⟨fun a Z=>.val (a.get 0) Z,some 13,tT⟩,
 ⟨fun a Z=>flenL (a.get 13) Z,some 14,tT⟩,
 ⟨fun a Z=>.val (.int .i64 0) Z,some 15,tT⟩]
def AhM:List COp:=Q7 ()
def LV(_:Unit):List COp:=[⟨fun a Z=>i_lss Tryz.prog 3 (.tmp 15) (.tmp 14) (a.get 15) (a.get 14) Z,some 16,tT⟩]
def AhN:List COp:=LV ()
def Q8(_:Unit):List COp:=[⟨fun a Z=>.val (a.get 15) Z,some 17,tT⟩,
 ⟨fun a Z=>.val (a.get 17) Z,some 6,tT⟩]
def AhO:List COp:=Q8 ()
def Q9(_:Unit):List COp:=[⟨fun a Z=>.val (a.get 5) Z,some 18,tT⟩,
 ⟨fun a Z=>.val (a.get 6) Z,some 19,tT⟩,
 ⟨fun a Z=>.val (a.get 1) Z,some 20,tT⟩,
 ⟨fun a Z=>.val (a.get 0) Z,some 21,tT⟩,
 ⟨fun a Z=>.val (a.get 6) Z,some 22,tT⟩,
 ⟨fun a Z=>bB (none,4) (a.get 21) (a.get 22) Z,some 23,tT⟩,
 ⟨fun a Z=>aG (some 4) (a.get 23) Z,some 24,tT⟩,
 ⟨fun a Z=>fcallV (a.get 20) [(a.get 24)] Z,some 25,tT⟩,
 ⟨fun a Z=>bB (none,4) (a.get 18) (a.get 19) Z,some 26,tT⟩,
 ⟨fun a Z=>aK 4 (a.get 26) (a.get 25) Z,none,tT⟩]
def AhP:List COp:=Q9 ()
def Q_(_:Unit):List COp:=[⟨fun a Z=>i_add Tryz.prog 3 (.tmp 15) (.const (.int .i64 1)) (a.get 15) (.int .i64 1) Z,some 27,tT⟩,
 ⟨fun a Z=>.val (a.get 27) Z,some 15,tT⟩]
def AhQ:List COp:=Q_ ()
def QC(E:Env)(ro:Option Nat)(fn:FuncId):aZ:=(aF (aD E ro AhN) (aF (aL (fun a=>(a.get 16)) aQ (exitR 0)) (aF (aR 1 (aF (aD E ro AhO) (aD E ro AhP))) (aD E ro AhQ))))
def Ra(_:Unit):List COp:=[⟨fun a Z=>.val (a.get 5) Z,some 28,tT⟩,
 ⟨fun a Z=>.val (a.get 28) Z,some 4,tT⟩]
def AhR:List COp:=Ra ()
def Aav(E:Env)(ro:Option Nat)(fn:FuncId):aZ:=(aF (aD E ro AhI) (aF (aF (aD E ro AhJ) (aL (fun a=>(a.get 9)) (aF (aD E ro AhK) bO) aQ)) (aF (aD E ro AhL) (aF (aF (aD E ro AhM) (aR 0 (loopR (bH nls fn) (QC E ro fn)))) (aF (aD E ro AhR) bO)))))
theorem Pm:aD E ro AhI a u Z=aD E ro (LS ()) a u Z:=rfl
theorem Pn:aD E ro AhJ a u Z=aD E ro (LU ()) a u Z:=rfl
theorem AdK:aD E ro AhK a u Z=aD E ro (Q5 ()) a u Z:=rfl
theorem AdL:aD E ro AhL a u Z=aD E ro (Q6 ()) a u Z:=rfl
theorem AdM:aD E ro AhM a u Z=aD E ro (Q7 ()) a u Z:=rfl
theorem Po:aD E ro AhN a u Z=aD E ro (LV ()) a u Z:=rfl
theorem AdN:aD E ro AhO a u Z=aD E ro (Q8 ()) a u Z:=rfl
theorem AdO:aD E ro AhP a u Z=aD E ro (Q9 ()) a u Z:=rfl
theorem AdP:aD E ro AhQ a u Z=aD E ro (Q_ ()) a u Z:=rfl
theorem AdQ:aD E ro AhR a u Z=aD E ro (Ra ()) a u Z:=rfl
theorem Aow(E:Env)(ro:Option Nat)(fn:FuncId):code Tryz.prog nls (Tryz.f122.body.getD .skip) E ro fn=Aav E ro fn:=by kernel_rfl
theorem AfI(E:Env)(args:List Value)(u:Option FrameMode)(Z:aC)(hn:args.length<=(7:Nat)):bA Tryz.prog nls E 122 args u Z=aN Tryz.prog E [.tmp 4] (Aav E none 122 ⟨aY undef 7 args,fun _=>undef,7,29,[]⟩ u Z):=by
 rw[Am (body:=Tryz.f122.body.getD .skip) Tryz.func122 rfl E args u Z 7 29 (by kernel_rfl) rfl ⟨hn,by decide⟩,Aow]
 rfl
end Go.Proofs.YtknnbjmcfibpgaaGreatDoor
namespace Go.Proofs.YtknnbjmcfibpgaaGreatDoor
open Go Go.Eng
attribute [local congr] Aa Af Ad Ab Ac
attribute [-go_sem] List.range_succ
end Go.Proofs.YtknnbjmcfibpgaaGreatDoor
namespace Go.Proofs.YtknnbjmcfibpgaaGreatDoor
open Go Go.Eng
attribute [local congr] Aa Af Ad Ab Ac
attribute [-go_sem] List.range_succ
structure HeadEf (p p':Option Addr) (len c c':Nat) (k:Nat) (f g:Nat->Value):Prop where
 f1:f 1=.slice p' len c'
 f2:f 2=.func (.func 128) #[] #[]
 g15:g 15=.slice p len c
 g16:g 16=.int .i64 (.ofNat len)
 g17:g 17=.int .i64 (.ofNat k)
theorem AaZ(a b:Int):(a==b)=decide (a=b):=by
 by_cases h:a=b
 .rw[decide_eq_true h];simp[h]
 .rw[decide_eq_false h];simp[h]
end Go.Proofs.YtknnbjmcfibpgaaGreatDoor
end
