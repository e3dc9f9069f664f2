import Derived.Test.YtknnbjmcfibpgaaGreatDoorU1
import Derived.RecoverIn
import Derived.Scope
import Derived.RangeFuncLeaves
import Derived.RangeFuncRecord
import GoSem.ClaimChange
set_option linter.unusedSimpArgs false
set_option linter.unusedVariables false
noncomputable section
namespace Go.Eng
open Go
variable [Pins]
def EntRel(m:Mp)(e e':PanicEntry):Prop:=bE m e.v e'.v/\e.recovered=e'.recovered/\e.goexit=e'.goexit
inductive ChRel (m:Mp):List PanicEntry->List PanicEntry->Prop
 | nil:ChRel m [] []
 | cons {e e':PanicEntry} {l l':List PanicEntry} (h:EntRel m e e') (hl:ChRel m l l'):ChRel m (e::l) (e'::l')
inductive MRel (m:Mp):FrameMode->FrameMode->Prop
 | run:MRel m .run .run
 | returning:MRel m .returning .returning
 | panicking {l l':List PanicEntry} (h:ChRel m l l'):MRel m (.panicking l) (.panicking l')
inductive XRel (m:Mp):Exit->Exit->Prop
 | normal:XRel m .normal .normal
 | exit (id:Nat):XRel m (.exit id) (.exit id)
 | goto (l:Nat):XRel m (.goto l) (.goto l)
 | ret:XRel m .ret .ret
 | panic {l l':List PanicEntry} (h:ChRel m l l'):XRel m (.panic l) (.panic l')
omit [Pins] in
theorem ChRel.mono{m m':Mp}(h:m.le m'){l l':List PanicEntry}(hl:ChRel m l l'):ChRel m' l l':=by
 induction hl with
 | nil=>exact .nil
 | cons he _ ih=>exact .cons ⟨he.1.mono h,he.2⟩ ih
omit [Pins] in
theorem ChRel.append{m:Mp}{a a' b b':List PanicEntry}(h:ChRel m a a')(hb:ChRel m b b'):ChRel m (a++b) (a'++b'):=by
 induction h with
 | nil=>exact hb
 | cons he _ ih=>exact .cons he ih
omit [Pins] in
theorem MRel.mono{m m':Mp}(h:m.le m'){u u':FrameMode}(hu:MRel m u u'):MRel m' u u':=by
 cases hu with
 | run=>exact .run
 | returning=>exact .returning
 | panicking hl=>exact .panicking (hl.mono h)
omit [Pins] in
theorem ChRel.one{m:Mp}{v v':Value}(h:bE m v v'):ChRel m [{ v:=v,recovered:=false }] [{ v:=v',recovered:=false }]:=.cons ⟨h,rfl,rfl⟩ .nil
def kindOf(u:Option FrameMode):CallKind:=match u with|none=>.normal|some _=>.deferred
def URel(m:Mp)(u:Option FrameMode)(kind:CallKind)(cs:List Frame):Prop:=
 match u with
 | none=>kind=.normal
 | some md=>kind=.deferred/\∃c rest,cs=c::rest/\MRel m md c.mode
def Under(kind:CallKind)(cs cs':List Frame):Prop:=
 cs'=cs\/(kind=.deferred/\∃c rest md,cs=c::rest/\cs'={ c with mode:=md }::rest)
omit [Pins] in
theorem Under.refl(kind:CallKind)(cs:List Frame):Under kind cs cs:=.inl rfl
omit [Pins] in
theorem Under.trans{kind:CallKind}{cs cs₁ cs₂:List Frame}(h:Under kind cs cs₁)(h':Under kind cs₁ cs₂):Under kind cs cs₂:=by
 rcases h with rfl|⟨hk,c,rest,md,rfl,rfl⟩
 .exact h'
 .rcases h' with rfl|⟨_,c',rest',md',h1,rfl⟩
  .exact .inr ⟨hk,c,rest,md,rfl,rfl⟩
  .cases h1
   exact .inr ⟨hk,c,rest,md',rfl,rfl⟩
omit [Pins] in
theorem URel.mono{m m':Mp}(h:m.le m'){u:Option FrameMode}{kind:CallKind}{cs:List Frame}(hu:URel m u kind cs):URel m' u kind cs:=by
 cases u with
 | none=>exact hu
 | some md=>
  obtain⟨hk,c,rest,hc,hm⟩:=hu
  exact⟨hk,c,rest,hc,hm.mono h⟩
abbrev St(P:Program):=StepsIn (fun _=>True) P
def CallOK(P:Program)(m:Mp)(Z:aC)(w:World)(f:FuncId)(args:Array Value)(u:Option FrameMode):CRes->Prop
 | .no=>True
 | .ret v u' V=>(u=none/\u'=none/\V=Z/\∃v',(callFunc f args).run P w=.ok (.value v') w/\bE m v v')\/
   ((callFunc f args).run P w=.ok (.enter f args) w/\∀cs,URel m u (kindOf u) cs->∃m' w' v' fr cs',Rel Top m' V w'/\Step Z V m m' w w'/\bE m' v v'/\URel m' u' (kindOf u) cs'/\Under (kindOf u) cs cs'/\
    St P (lone (Frame.enter P f args (kindOf u)) cs w) (lone fr cs' w')/\fr.fn=f/\fr.kind=kindOf u/\fr.going P w' (.returned v'))
 | .pan ch u' V=>(callFunc f args).run P w=.ok (.enter f args) w/\∀cs,URel m u (kindOf u) cs->∃m' w' ch' fr cs',Rel Top m' V w'/\Step Z V m m' w w'/\ChRel m' ch ch'/\URel m' u' (kindOf u) cs'/\Under (kindOf u) cs cs'/\
    St P (lone (Frame.enter P f args (kindOf u)) cs w) (lone fr cs' w')/\fr.fn=f/\fr.kind=kindOf u/\fr.going P w' (.panicked ch')
def RoundOK(P:Program)(m:Mp)(Z:aC)(w:World)(l:Nat)(args:Array Value):CRes->Prop
 | .no=>True
 | .ret v _ V=>∃f tmps assign body,(Instr.yield l args).run P w=.ok (.round l f tmps assign body) w/\∀c cs,∃m' w' v',Rel Top m' V w'/\Step Z V m m' w w'/\bE m' v v'/\
   St P (lone (Frame.round l f tmps assign body .normal) (c::cs) w) (lone (c.finish v') cs w')
 | .pan ch _ V=>∃f tmps assign body,(Instr.yield l args).run P w=.ok (.round l f tmps assign body) w/\∀c cs,∃m' w' ch',Rel Top m' V w'/\Step Z V m m' w w'/\ChRel m' ch ch'/\
   St P (lone (Frame.round l f tmps assign body .normal) (c::cs) w) (lone (c.raise ch') cs w')
structure EnvOK (P:Program) (E:Env):Prop where
 call:∀(f:FuncId) (args:List Value) (u:Option FrameMode) (Z:aC) (m:Mp) (w:World) (args':Array Value),Rel Top m Z w->LRel m args args'.toList->(∀md,u=some md->md≠.run)->CallOK P m Z w f args' u (E.call f args u Z)
 round:∀(l:Nat) (args:List Value) (Z:aC) (m:Mp) (w:World) (args':Array Value) (e:MEnt),Rel Top m Z w->LRel m args args'.toList->m l=some e->RoundOK P m Z w e.blk args' (E.round l args Z)
omit [Pins] in
theorem Ea{P:Program}{fr:Frame}{w:World}{e:Ending}(hk:fr.kind=.normal)(h:fr.going P w e):fr.leaving P w e:=by
 cases e with
 | returned v=>
  obtain⟨h1,h2,h3⟩:=h
  exact⟨h1,h2,hk,h3⟩
 | panicked ch=>exact h
 | outgrown=>trivial
def OpOK(P:Program)(m:Mp)(Z:aC)(w:World)(b:Frame)(ops:Array Oper)(i:Nat)(o:Oper)(rest:List Nat)(k:List Item)(cs:List Frame)(a:aV)(c:Act):KRes->Prop
 | .no=>True
 | .done .normal a' u' V=>∃m' w' cs' v v' ds ds',Rel Top m' V w'/\Step Z V m m' w w'/\bE m' v v'/\DLRel m' ds ds'/\URel m' u' b.kind cs'/\Under b.kind cs cs'/\(b.roundOf.isSome=true->ds'=[])/\
   a'=(⟨a.loc,a.tmp,a.nl,a.nt,ds++a.defers⟩:aV).put o.dst v/\
   St P (lone (b.atR c (.inRegion ops (i::rest)::k)) cs w) (lone (b.atR (({ c with defers:=ds'++c.defers }:Act).put o.dst v') (.inRegion ops rest::k)) cs' w')
 | .done (.panic ch) a' u' V=>a'=a/\∃m' w' cs' ch',Rel Top m' V w'/\Step Z V m m' w w'/\ChRel m' ch ch'/\URel m' u' b.kind cs'/\Under b.kind cs cs'/\
   ∃todo,St P (lone (b.atR c (.inRegion ops (i::rest)::k)) cs w) (lone { b.atR c todo with mode:=.panicking ch' } cs' w')
 | .done _ _ _ _=>False
end Go.Eng
namespace Go.Eng
open Go
variable [Pins]
section
variable {P:Program} {m:Mp} {Z:aC} {w:World} {b:Frame} {ops:Array Oper} {i:Nat} {o:Oper} {rest:List Nat} {k:List Item} {cs:List Frame} {a:aV} {c:Act} {E:Env}
omit [Pins] in
theorem IX(ho:ops[i]? = some o)(v:Value):(b.atR c (.inRegion ops (i::rest)::k)).finish v=b.atR (c.put o.dst v) (.inRegion ops rest::k):=by
 rw[Frame.finish_atR,ho]
 rfl
theorem Ox{u:Option FrameMode}(hu:URel m u b.kind cs)(hb:b.roundOf=none)(hr:Rel Top m Z w)(ho:ops[i]? = some o)(hw:Region.wanted o (yielded ops c.tmps)=true)(hrun:(execOp c.eval o).run P w=.ok .recover w):
  OpOK P m Z w b ops i o rest k cs a c (frecover o.dst a u Z (fun a u Z=>.done .normal a u Z)):=by
 have hg:=stepGR_op (P:=P) (b:=b) (a:=c) (k:=k) (cs:=cs) (w:=w) (rest:=rest) ho hw
 rw[hb,Oper.semAt_none] at hg
 have key:∀v' cs',(match tryRecover (b.atR c (.inRegion ops (i::rest)::k)) cs with|some (v,cs')=>(v,cs')|none=>(.nilIface,cs))=(v',cs')->
   St P (lone (b.atR c (.inRegion ops (i::rest)::k)) cs w) (lone (b.atR (c.put o.dst v') (.inRegion ops rest::k)) cs' w):=fun v' cs' h=>by
  refine .one trivial (step_lone_go ?_)
  rw[hg,<-IX ho]
  cases ht:tryRecover (b.atR c (.inRegion ops (i::rest)::k)) cs with
  | none=>
   rw[ht] at h
   cases h
   simp only[Frame.atR,hb] at ht
   simp[stepG.apply,hrun,ht,Frame.atR,hb]
  | some p=>
   obtain⟨v,cs1⟩:=p
   rw[ht] at h
   cases h
   simp only[Frame.atR,hb] at ht
   simp[stepG.apply,hrun,ht,Frame.atR,hb]
 cases u with
 | none=>
  have hk:b.kind=.normal:=hu
  have ht:tryRecover (b.atR c (.inRegion ops (i::rest)::k)) cs=none:=by
   have:(b.atR c (.inRegion ops (i::rest)::k)).kind=.normal:=hk
   unfold tryRecover
   rw[this]
  exact⟨m,w,cs,.nilIface,.nilIface,[],[],hr,.refl _ _ _,.nilIface,.nil,hu,.refl _ _,fun _=>rfl,rfl,key _ _ (by rw[ht])⟩
 | some md=>
  obtain⟨hk,c0,r,rfl,hm⟩:=hu
  have ht:=tryRecover_deferred (fr:=b.atR c (.inRegion ops (i::rest)::k)) hk (c0::r)
  have nothing:recoverD (c0::r)=none->OpOK P m Z w b ops i o rest k (c0::r) a c (.done .normal (a.put o.dst .nilIface) (some md) Z):=fun h=>
   ⟨m,w,c0::r,.nilIface,.nilIface,[],[],hr,.refl _ _ _,.nilIface,.nil,⟨hk,c0,r,rfl,hm⟩,.refl _ _,fun _=>rfl,rfl,key _ _ (by rw[ht,h])⟩
  have goes:∀(v v':Value) (l l':List PanicEntry),md=.panicking ({ v,recovered:=false,goexit:=false }::l)->bE m v v'->ChRel m l l'->c0.mode=.panicking ({ v:=v',recovered:=false,goexit:=false }::l')->
    OpOK P m Z w b ops i o rest k (c0::r) a c (.done .normal (a.put o.dst v) (some (.panicking ({ v,recovered:=true }::l))) Z):=fun v v' l l' _ hv hl hc=>
   ⟨m,w,{ c0 with mode:=.panicking ({ v:=v',recovered:=true }::l') }::r,v,v',[],[],hr,.refl _ _ _,hv,.nil,⟨hk,_,_,rfl,.panicking (.cons ⟨hv,rfl,rfl⟩ hl)⟩,
    .inr ⟨hk,c0,r,_,rfl,rfl⟩,fun _=>rfl,rfl,key _ _ (by rw[ht];simp[recoverD,hc])⟩
  unfold frecover
  generalize hc:c0.mode=mo at hm
  cases hm with
  | run=>exact nothing (by simp[recoverD,hc])
  | returning=>exact nothing (by simp[recoverD,hc])
  | panicking hl=>
   cases hl with
   | nil=>exact nothing (by simp[recoverD,hc])
   | cons he hl=>
    rename_i e e' l l'
    obtain⟨h1,h2,h3⟩:=he
    obtain⟨v,rc,ge⟩:=e
    obtain⟨v',rc',ge'⟩:=e'
    simp only at h1 h2 h3
    subst h2
    subst h3
    cases rc with
    | true=>exact nothing (by simp[recoverD,hc])
    | false=>cases ge with
     | true=>exact nothing (by simp[recoverD,hc])
     | false=>exact goes v v' l l' rfl h1 hl hc
theorem QI(hE:EnvOK P E){ro:Option Nat}{u:Option FrameMode}{r:ORes}(hr:Rel Top m Z w)(hu:URel m u b.kind cs)(hro:ro=none->b.roundOf=none)(ho:ops[i]? = some o)(hw:Region.wanted o (yielded ops c.tmps)=true)(hsem:b.roundOf=none\/(∀cc,o.op≠.defer cc)\/stepOp E ro o.dst a u r=.no)(hO:bD P m Z w (execOp c.eval o) r):
  OpOK P m Z w b ops i o rest k cs a c (stepOp E ro o.dst a u r):=by
 have hg:=stepGR_op (P:=P) (b:=b) (a:=c) (k:=k) (cs:=cs) (w:=w) (rest:=rest) ho hw
 by_cases hno:stepOp E ro o.dst a u r=.no
 .rw[hno];trivial
 have hs:o.semAt b.roundOf c.eval=execOp c.eval o:=by
  rcases hsem with h|h|h
  .rw[h,Oper.semAt_none]
  .exact Oper.semAt_eq _ _ _ h
  .exact absurd h hno
 rw[hs] at hg
 have value:∀(v v':Value) (V:aC) (m':Mp) (w':World),(execOp c.eval o).run P w=.ok (.value v') w'->Rel Top m' V w'->Step Z V m m' w w'->bE m' v v'->
   OpOK P m Z w b ops i o rest k cs a c (.done .normal (a.put o.dst v) u V):=fun v v' V m' w' hrun hR hS hV=>
  ⟨m',w',cs,v,v',[],[],hR,hS,hV,.nil,hu.mono hS.le,.refl _ _,fun _=>rfl,rfl,.one trivial (step_lone_go (by
   rw[hg,<-IX ho]
   simp[stepG.apply,hrun]))⟩
 cases r with
 | no=>trivial
 | val v V=>
  obtain⟨m',w',v',hrun,hR,hS,hV⟩:=hO
  exact value v v' V m' w' hrun hR hS hV
 | skip V=>
  obtain⟨m',w',hrun,hR,hS⟩:=hO
  exact⟨m',w',cs,undef,undef,[],[],hR,hS,.unknown _,.nil,hu.mono hS.le,.refl _ _,fun _=>rfl,rfl,.one trivial (step_lone_go (by
   rw[hg,<-IX ho]
   simp[stepG.apply,hrun]))⟩
 | panic v V=>
  obtain⟨m',w',v',hrun,hR,hS,hV⟩:=hO
  exact⟨rfl,m',w',cs,_,hR,hS,.one hV,hu.mono hS.le,.refl _ _,.inRegion ops (i::rest)::k,.one trivial (step_lone_go (by
   rw[hg,<-Frame.raise_atR]
   simp[stepG.apply,hrun]))⟩
 | enter f args V=>
  obtain⟨args',hrun,rfl,hA⟩:=hO
  have hc:=hE.call f args none V m w args' hr hA (fun md h=>by cases h)
  show OpOK P m V w b ops i o rest k cs a c (afterCall a o.dst u (fun a u Z=>.done .normal a u Z) (E.call f args none V))
  cases hcall:E.call f args none V with
  | no=>trivial
  | ret v u' bZ=>
   rw[hcall] at hc
   rcases hc with⟨_,_,rfl,v',hval,hV⟩|⟨hent,hgo⟩
   .exact value v v' bZ m w (hrun.trans hval) hr (.refl _ _ _) hV
   .obtain⟨m',w',v',fr,cs',hR,hS,hV,_,hun,hst,hfn,hk,hgoing⟩:=hgo (b.atR c (.inRegion ops (i::rest)::k)::cs) rfl
    have hcs:cs'=b.atR c (.inRegion ops (i::rest)::k)::cs:=by
     rcases hun with h|⟨h,_⟩
     .exact h
     .cases h
    subst hcs
    have hl:=Ea hk hgoing
    refine⟨m',w',cs,v,v',[],[],hR,hS,hV,.nil,hu.mono hS.le,.refl _ _,fun _=>rfl,rfl,.head trivial (m₁:=lone (Frame.enter P f args' .normal) (b.atR c (.inRegion ops (i::rest)::k)::cs) w) (step_lone_go ?_) (StepsIn.trans hst (.one trivial ?_))⟩
    .rw[hg]
     have hrun':=hrun.trans hent
     simp[stepG.apply,hrun',Frame.atR]
    .have:=step_leave_returned (c:=b.atR c (.inRegion ops (i::rest)::k)) (cs:=cs) hl
     rw[IX ho] at this
     exact this
  | pan ch u' bZ=>
   rw[hcall] at hc
   obtain⟨hent,hgo⟩:=hc
   obtain⟨m',w',ch',fr,cs',hR,hS,hC,_,hun,hst,hfn,hk,hgoing⟩:=hgo (b.atR c (.inRegion ops (i::rest)::k)::cs) rfl
   have hcs:cs'=b.atR c (.inRegion ops (i::rest)::k)::cs:=by
    rcases hun with h|⟨h,_⟩
    .exact h
    .cases h
   subst hcs
   have hl:=Ea hk hgoing
   refine⟨rfl,m',w',cs,ch',hR,hS,hC,hu.mono hS.le,.refl _ _,.inRegion ops (i::rest)::k,.head trivial (m₁:=lone (Frame.enter P f args' .normal) (b.atR c (.inRegion ops (i::rest)::k)::cs) w) (step_lone_go ?_) (StepsIn.trans hst (.one trivial ?_))⟩
   .rw[hg]
    have hrun':=hrun.trans hent
    simp[stepG.apply,hrun',Frame.atR]
   .rw[<-Frame.raise_atR]
    exact step_leave_panicked hl
 | yield l args V=>
  obtain⟨e,args',hm,hrun,rfl,hA⟩:=hO
  have hc:=hE.round l args V m w args' e hr hA hm
  show OpOK P m V w b ops i o rest k cs a c (afterCall a o.dst u (fun a u Z=>.done .normal a u Z) (E.round l args V))
  cases hcall:E.round l args V with
  | no=>trivial
  | ret v u' bZ=>
   rw[hcall] at hc
   obtain⟨f,tmps,assign,body,hy,hgo⟩:=hc
   obtain⟨m',w',v',hR,hS,hV,hst⟩:=hgo (b.atR c (.inRegion ops (i::rest)::k)) cs
   rw[IX ho] at hst
   refine⟨m',w',cs,v,v',[],[],hR,hS,hV,.nil,hu.mono hS.le,.refl _ _,fun _=>rfl,rfl,.head trivial (step_lone_go ?_) hst⟩
   rw[hg]
   have hrun':=hrun.trans hy
   simp[stepG.apply,hrun',Frame.atR]
  | pan ch u' bZ=>
   rw[hcall] at hc
   obtain⟨f,tmps,assign,body,hy,hgo⟩:=hc
   obtain⟨m',w',ch',hR,hS,hC,hst⟩:=hgo (b.atR c (.inRegion ops (i::rest)::k)) cs
   rw[Frame.raise_atR] at hst
   refine⟨rfl,m',w',cs,ch',hR,hS,hC,hu.mono hS.le,.refl _ _,.inRegion ops (i::rest)::k,.head trivial (step_lone_go ?_) hst⟩
   rw[hg]
   have hrun':=hrun.trans hy
   simp[stepG.apply,hrun',Frame.atR]
 | defer d V=>
  cases ro with
  | some l=>exact absurd rfl hno
  | none=>
   obtain⟨d',hrun,rfl,hD⟩:=hO
   have hb:=hro rfl
   refine⟨m,w,cs,undef,undef,[d],[d'],hr,.refl _ _ _,.unknown _,.cons hD .nil,hu,.refl _ _,fun h=>(by rw[hb] at h;cases h),rfl,.one trivial (step_lone_go ?_)⟩
   have hfin:=Frame.finish_atR b { c with defers:=d'::c.defers } ops i rest k undef
   rw[ho] at hfin
   rw[hg]
   simp only[stepG.apply,Sem.runT_eq,hrun,GStep.bare_after]
   exact congrArg (fun fr=>GStep.go { frame:=fr,callers:=cs,status:=.running,dying:=none } w) hfin
 | recover V=>
  cases ro with
  | some l=>exact absurd rfl hno
  | none=>
   obtain⟨hrun,rfl⟩:=hO
   exact Ox hu (hro rfl) hr ho hw hrun
end
end Go.Eng
namespace Go.Eng
open Go
variable [Pins]
def RoRel(m:Mp)(ro:Option Nat)(b:Frame):Prop:=
 match ro with
 | none=>b.roundOf=none
 | some l=>b.kind=.normal/\∃e,m l=some e/\b.roundOf=some e.blk
omit [Pins] in
theorem RoRel.mono{m m':Mp}(h:m.le m'){ro:Option Nat}{b:Frame}(hb:RoRel m ro b):RoRel m' ro b:=by
 cases ro with
 | none=>exact hb
 | some l=>
  obtain⟨h1,e,h2,h3⟩:=hb
  exact⟨h1,e,h _ _ h2,h3⟩
def KOK(P:Program)(m:Mp)(Z:aC)(w:World)(b:Frame)(k:List Item)(cs:List Frame)(start:Machine):KRes->Prop
 | .no=>True
 | .done e a' u' V=>∃m' w' e' c' cs',Rel Top m' V w'/\Step Z V m m' w w'/\XRel m' e e'/\bK m' a' c'/\URel m' u' b.kind cs'/\Under b.kind cs cs'/\
   ArrivesIn (fun _=>True) P start b k cs' e' c' w'
section
variable {P:Program} {m:Mp} {Z:aC} {w:World} {b:Frame} {ops:Array Oper} {k:List Item} {cs:List Frame} {a:aV} {c:Act} {E:Env}
theorem KOK.from{start:Machine}{m₁:Mp}{bV:aC}{w₁:World}{cs₁:List Frame}{start':Machine}{r:KRes}(hS:Step Z bV m m₁ w w₁)(hU:Under b.kind cs cs₁)(hst:St P start start')(h:KOK P m₁ bV w₁ b k cs₁ start' r):
  KOK P m Z w b k cs start r:=by
 cases r with
 | no=>trivial
 | done e a' u' V=>
  obtain⟨m',w',e',c',cs',h1,h2,h3,h4,h5,h6,h7⟩:=h
  exact⟨m',w',e',c',cs',h1,hS.trans h2,h3,h4,h5,hU.trans h6,.of_steps hst h7⟩
omit [Pins] in
theorem Je{o:Oper}{g:Bool}(hv:∀(j:Nat) (want:Bool) (d:Tmp),o.guard=some (j,want)->(ops[j]?).bind (·.dst)=some d->bE m (a.get d) (c.tmps.getD d undef))(h:(cguard ops o.guard).un a=some g):
  Region.wanted o (yielded ops c.tmps)=g:=by
 unfold Region.wanted
 cases hg:o.guard with
 | none=>
  rw[hg] at h
  cases h
  rfl
 | some jw=>
  obtain⟨j,want⟩:=jw
  rw[hg] at h
  unfold cguard at h
  cases hd:(ops[j]?).bind (·.dst) with
  | none=>simp only[hd] at h;cases h
  | some d=>
   simp only[hd] at h
   have h1:=hv j want d hg hd
   cases ha:a.get d with
   | bool bb=>
    rw[ha] at h h1
    simp only[Option.some.injEq] at h
    have h2:=h1.flat rfl
    have h3:c.tmps[d]? = some (.bool bb):=by
     rw[Array.getD_eq_getD_getElem?] at h2
     cases hq:c.tmps[d]? with
     | none=>
      rw[hq] at h2
      cases h2
     | some x=>
      rw[hq] at h2
      simpa using h2
    simp[yielded,hd,h3,<-h]
   | chan r=>
    rw[ha] at h h1
    cases r with
    | some r=>cases h
    | none=>
     cases h
     have h3:c.tmps.getD d undef=.tuple #[]:=by
      generalize c.tmps.getD d undef=x at h1
      cases h1
      rfl
     rw[Array.getD_eq_getD_getElem?] at h3
     cases hq:c.tmps[d]? with
     | none=>simp[yielded,hd,hq]
     | some x=>
      rw[hq] at h3
      simp only[Option.getD_some] at h3
      subst h3
      simp[yielded,hd,hq]
   | _=>rw[ha] at h;cases h
omit [Pins] in
theorem Xe(E:Env)(ro:Option Nat)(dst:Option Tmp)(a:aV)(u:Option FrameMode)(K:aZ)(r:ORes):
  afterOp E ro dst a u K r=(match stepOp E ro dst a u r with|.done .normal a u Z=>K a u Z|r=>r):=by
 have rec_eq:∀Z,frecover dst a u Z K=(match frecover dst a u Z (fun a u Z=>.done .normal a u Z) with|.done .normal a u Z=>K a u Z|r=>r):=fun Z=>by
  unfold frecover
  split<;>rfl
 have call_eq:∀r,afterCall a dst u K r=(match afterCall a dst u (fun a u Z=>.done .normal a u Z) r with|.done .normal a u Z=>K a u Z|r=>r):=fun r=>by
  cases r<;>rfl
 cases r with
 | enter f args s=>exact call_eq _
 | yield l args s=>exact call_eq _
 | defer d s=>cases ro<;>rfl
 | recover s=>cases ro with
  | none=>exact rec_eq s
  | some l=>rfl
 | _=>rfl
omit [Pins] in
theorem Ux(q:Call)(a:aV)(Z:aC):(∃d,(cop P (.defer q)).un a Z=.defer d Z)\/(cop P (.defer q)).un a Z=.no:=by
 simp only[cop]
 unfold cdefer
 cases q.callee with
 | value f=>
  simp only
  unfold fdefer
  split
  .exact .inl ⟨_,rfl⟩
  .exact .inr rfl
 | invoke r name=>exact .inr rfl
 | builtin x=>exact .inr rfl
omit [Pins] in
theorem AaM{ro:Option Nat}{o:Oper}{u:Option FrameMode}(hro:RoRel m ro b):b.roundOf=none\/(∀cc,o.op≠.defer cc)\/stepOp E ro o.dst a u ((cop P o.op).un a Z)=.no:=by
 cases ro with
 | none=>exact .inl hro
 | some l=>
  refine .inr ?_
  by_cases hd:∃cc,o.op=.defer cc
  .obtain⟨cc,hcc⟩:=hd
   rw[hcc]
   refine .inr ?_
   rcases Ux (P:=P) cc a Z with⟨d,h⟩|h<;>rw[h]<;>rfl
  .exact .inl fun cc h=>hd ⟨cc,h⟩
omit [Pins] in
theorem DLRel.append{d1 d1' d2 d2':List Deferred}(h:DLRel m d1 d1')(h':DLRel m d2 d2'):DLRel m (d1++d2) (d1'++d2'):=by
 refine⟨by simp[h.1,h'.1],fun j d d' e e'=>?_⟩
 by_cases hj:j<d1.length
 .rw[List.getElem?_append_left hj] at e
  rw[List.getElem?_append_left (by rw[<-h.1];exact hj)] at e'
  exact h.2 j d d' e e'
 .rw[List.getElem?_append_right (by omega)] at e
  rw[List.getElem?_append_right (by rw[<-h.1];omega),<-h.1] at e'
  exact h'.2 _ d d' e e'
omit [Pins] in
theorem bK.pushed(ha:bK m a c){ds ds':List Deferred}(hd:DLRel m ds ds'):bK m ⟨a.loc,a.tmp,a.nl,a.nt,ds++a.defers⟩ { c with defers:=ds'++c.defers }:=
 ⟨ha.tmps,hd.append ha.defers⟩
theorem XG(hE:EnvOK P E){ro:Option Nat}:∀(l:List Oper) (idx:List Nat) (a:aV) (c:Act) (u:Option FrameMode) (Z:aC) (m:Mp) (w:World) (cs:List Frame),idx.map (ops[·]?)=l.map some->
  Rel Top m Z w->bK m a c->URel m u b.kind cs->RoRel m ro b->
  KOK P m Z w b k cs (lone (b.atR c (.inRegion ops idx::k)) cs w) (aD E ro (copers P ops l).un a u Z):=by
 intro l
 induction l with
 | nil=>
  intro idx a c u Z m w cs hidx hr ha hu hro
  have:idx=[]:=by simpa using hidx
  subst this
  exact⟨m,w,.normal,c,cs,hr,.refl _ _ _,.normal,ha,hu,.refl _ _,.one trivial stepR_region_end⟩
 | cons o l ih=>
  intro idx a c u Z m w cs hidx hr ha hu hro
  cases idx with
  | nil=>simp at hidx
  | cons i rest=>
   simp only[List.map_cons,List.cons.injEq] at hidx
   obtain⟨ho,hidx⟩:=hidx
   show KOK P m Z w b k cs _ (Option.rec (motive:=fun _=>KRes) .no
    (fun g=>Bool.rec (motive:=fun _=>KRes) (aD E ro (copers P ops l).un (a.put o.dst skipV) u Z) (afterOp E ro o.dst a u (aD E ro (copers P ops l).un) ((cop P o.op).un a Z)) g) ((cguard ops o.guard).un a))
   cases hg:(cguard ops o.guard).un a with
   | none=>trivial
   | some g=>
    have hw:=Je (m:=m) (fun j want d _ _=>ha.get d) hg
    cases g with
    | false=>
     refine KOK.from (.refl _ _ _) (.refl _ _) (.one trivial (stepR_op_skip (by simp[ho,hw]))) ?_
     rw[ho]
     exact ih rest (a.put o.dst skipV) (c.put o.dst undef) u Z m w cs hidx hr (ha.put _ .skip) hu hro
    | true=>
     show KOK P m Z w b k cs _ (afterOp E ro o.dst a u (aD E ro (copers P ops l).un) ((cop P o.op).un a Z))
     rw[Xe]
     have hop:=QI (k:=k) (rest:=rest) (a:=a) hE hr hu (fun h=>(by subst h;exact hro)) ho hw (AaM hro) (Fy hr ha o)
     cases hs:stepOp E ro o.dst a u ((cop P o.op).un a Z) with
     | no=>trivial
     | done e a' u' V=>
      rw[hs] at hop
      cases e with
      | normal=>
       obtain⟨m',w',cs',v,v',ds,ds',h1,h2,h3,h4,h5,h6,h7,h8,h9⟩:=hop
       refine KOK.from h2 h6 h9 ?_
       subst h8
       exact ih rest _ _ u' V m' w' cs' hidx h1 (((ha.mono h2.le).pushed h4).put _ h3) h5 (hro.mono h2.le)
      | panic ch=>
       obtain⟨rfl,m',w',cs',ch',h1,h2,h3,h4,h5,todo,h6⟩:=hop
       exact⟨m',w',.panic ch',c,cs',h1,h2,.panic h3,ha.mono h2.le,h4,h5,todo,h6⟩
      | exit id=>exact hop.elim
      | goto t=>exact hop.elim
      | ret=>exact hop.elim
      | outgrown=>exact hop.elim
end
end Go.Eng
namespace Go.Eng
open Go
variable [Pins]
section
variable {P:Program} {m:Mp} {Z:aC} {w:World} {b:Frame} {k:List Item} {cs:List Frame} {a:aV} {c:Act} {E:Env} {H:Hints}
omit [Pins] in
theorem Xb{x:Code}:step P (lone (b.atR c (.code (.scope x)::k)) cs w)=.next (lone (b.atR c (.code x::.inScope x::k)) cs w):=
 step_lone_go (by simp[stepG,stepG.exec,Frame.atR])
omit [Pins] in
theorem OB{x:Code}:step P (lone (b.atR c (.inScope x::k)) cs w)=.next (lone (b.atR c k) cs w):=
 step_lone_go (by simp[stepG,stepG.exec,Frame.atR])
def CodeOK(P:Program)(E:Env)(x:Code)(run:CodeF):Prop:=
 ∀(ro:Option Nat) (fn:FuncId) (b:Frame) (k:List Item) (cs:List Frame) (a:aV) (c:Act) (u:Option FrameMode) (Z:aC) (m:Mp) (w:World),b.fn=fn->Rel Top m Z w->bK m a c->URel m u b.kind cs->RoRel m ro b->
  KOK P m Z w b k cs (lone (b.atR c (.code x::k)) cs w) (run E ro fn a u Z)
theorem KOK.pass{start:Machine}{i:Item}{e:Exit}{a':aV}{u':Option FrameMode}{V:aC}(hi:i.plain=true)(he:e≠.normal)(h:KOK P m Z w b (i::k) cs start (.done e a' u' V)):KOK P m Z w b k cs start (.done e a' u' V):=by
 obtain⟨m',w',e',c',cs',h1,h2,h3,h4,h5,h6,h7⟩:=h
 refine⟨m',w',e',c',cs',h1,h2,h3,h4,h5,h6,.pass hi (fun _ _=>.inl ?_) h7⟩
 intro hn
 subst hn
 cases h3
 exact he rfl
theorem KOK.andThen{start:Machine}{i:Item}{ro:Option Nat}{r:KRes}{K:aZ}(hi:i.plain=true)(hro:RoRel m ro b)(h:KOK P m Z w b (i::k) cs start r)(hk:∀(a':aV) (u':Option FrameMode) (V:aC) (m':Mp) (w':World) (c':Act) (cs':List Frame),Rel Top m' V w'->bK m' a' c'->URel m' u' b.kind cs'->RoRel m' ro b->KOK P m' V w' b k cs' (lone (b.atR c' (i::k)) cs' w') (K a' u' V)):
  KOK P m Z w b k cs start (andThen r K):=by
 cases r with
 | no=>trivial
 | done e a' u' V=>
  cases e with
  | normal=>
   obtain⟨m',w',e',c',cs',h1,h2,h3,h4,h5,h6,h7⟩:=h
   cases h3
   exact KOK.from h2 h6 h7 (hk a' u' V m' w' c' cs' h1 h4 h5 (hro.mono h2.le))
  | exit id=>exact h.pass hi (by simp)
  | goto l=>exact h.pass hi (by simp)
  | ret=>exact h.pass hi (by simp)
  | panic ch=>exact h.pass hi (by simp)
  | outgrown=>exact h.pass hi (by simp)
omit [Pins] in
theorem bK.forget(ha:bK m a c)(keep:List Nat):bK m (a.forget keep) c:=by
 refine⟨⟨ha.tmps.1,fun t=>?_⟩,ha.defers⟩
 show bE m ((a.forget keep).get t) _
 have h:(a.forget keep).get t=a.get t\/(a.forget keep).get t=undef:=by
  have ht:∀(l:List Nat) (t:Nat),(List.rec (motive:=fun _=>Nat->Value) (fun _=>undef) (fun t _ ih k=>Bool.rec (motive:=fun _=>Value) (ih k) (a.tmp t) (Nat.beq k t)) l:Nat->Value) t=a.tmp t\/
    (List.rec (motive:=fun _=>Nat->Value) (fun _=>undef) (fun t _ ih k=>Bool.rec (motive:=fun _=>Value) (ih k) (a.tmp t) (Nat.beq k t)) l:Nat->Value) t=undef:=fun l t=>by
   induction l with
   | nil=>exact .inr rfl
   | cons x l ih=>
    by_cases hx:t=x
    .subst hx
     left
     show Bool.rec (motive:=fun _=>Value) _ (a.tmp t) (Nat.beq t t)=_
     rw[IC]
    .have:∀z z':Value,(Bool.rec (motive:=fun _=>Value) z z' (Nat.beq t x):Value)=z:=fun z z'=>by rw[Jb hx]
     rcases ih with ih|ih
     .left;exact(this _ _).trans ih
     .right;exact(this _ _).trans ih
  unfold aV.get
  show Bool.rec (motive:=fun _=>Value) _ ((a.forget keep).tmp t) (Nat.ble a.nl t)=Bool.rec (motive:=fun _=>Value) _ (a.tmp t) (Nat.ble a.nl t)\/Bool.rec (motive:=fun _=>Value) _ ((a.forget keep).tmp t) (Nat.ble a.nl t)=undef
  cases Nat.ble a.nl t with
  | false=>exact .inl rfl
  | true=>exact ht keep t
 rcases h with h|h
 .rw[h];exact ha.get t
 .rw[h];exact .unknown _
theorem U6{ro:Option Nat}{fn:FuncId}{x:Code}{run:CodeF}(hx:CodeOK P E x run)(keep:List Nat):∀(fuel:Nat) (b:Frame) (k:List Item) (cs:List Frame) (a:aV) (c:Act) (u:Option FrameMode) (Z:aC) (m:Mp) (w:World),b.fn=fn->Rel Top m Z w->bK m a c->URel m u b.kind cs->RoRel m ro b->
  KOK P m Z w b k cs (lone (b.atR c (.code x::.inLoop x::k)) cs w) (floop keep (run E ro fn) fuel a u Z):=by
 intro fuel
 induction fuel with
 | zero=>intros;trivial
 | succ fuel ih=>
  intro b k cs a c u Z m w hb hr ha hu hro
  show KOK P m Z w b k cs _ (andThen (run E ro fn (a.forget keep) u Z) (floop keep (run E ro fn) fuel))
  refine KOK.andThen rfl hro (hx ro fn b (.inLoop x::k) cs (a.forget keep) c u Z m w hb hr (ha.forget keep) hu hro) fun a' u' V m' w' c' cs' h1 h2 h3 h4=>?_
  exact KOK.from (.refl _ _ _) (.refl _ _) (.one trivial stepR_inLoop) (ih b k cs' a' c' u' V m' w' hb h1 h2 h3 h4)
theorem Qu{ro:Option Nat}{fn:FuncId}{x:Code}{find:Nat->Option (Bx aZ)}(hf:∀l,find l=none->findLabel x l=none)(hs:∀l r,find l=some r->∃y run,findLabel x l=some y/\CodeOK P E y run/\r.un=run E ro fn):∀(fuel:Nat) (y:Code) (run:CodeF),CodeOK P E y run->∀(b:Frame) (k:List Item) (cs:List Frame) (a:aV) (c:Act) (u:Option FrameMode) (Z:aC) (m:Mp) (w:World),b.fn=fn->Rel Top m Z w->bK m a c->URel m u b.kind cs->RoRel m ro b->
  KOK P m Z w b k cs (lone (b.atR c (.code y::.inScope x::k)) cs w) (fscope find fuel (run E ro fn) a u Z):=by
 intro fuel
 induction fuel with
 | zero=>intros;trivial
 | succ fuel ih=>
  intro y run hy b k cs a c u Z m w hb hr ha hu hro
  have h:=hy ro fn b (.inScope x::k) cs a c u Z m w hb hr ha hu hro
  show KOK P m Z w b k cs _ (match run E ro fn a u Z with
   | .done (.goto l) a u Z=>(match find l with
    | some rest=>fscope find fuel rest.un a u Z
    | none=>.done (.goto l) a u Z)
   | r=>r)
  cases hrun:run E ro fn a u Z with
  | no=>trivial
  | done e a' u' V=>
   rw[hrun] at h
   obtain⟨m',w',e',c',cs',h1,h2,h3,h4,h5,h6,h7⟩:=h
   cases h3 with
   | normal=>exact⟨m',w',.normal,c',cs',h1,h2,.normal,h4,h5,h6,StepsIn.trans h7 (.one trivial OB)⟩
   | exit id=>exact⟨m',w',.exit id,c',cs',h1,h2,.exit id,h4,h5,h6,fun k' hk=>h7.1 k' (by simp[exitTo,hk]),fun hrr hk=>let ⟨k₁,g1,g2⟩:=h7.2 hrr (by simp[exitTo,hk]);⟨k₁,g1,g2⟩⟩
   | goto l=>
    simp only
    cases hfl:find l with
    | none=>
     have hn:=hf l hfl
     have hg:gotoIn l (.inScope x::k)=gotoIn l k:=by simp[gotoIn,hn]
     exact⟨m',w',.goto l,c',cs',h1,h2,.goto l,h4,h5,h6,fun k' hk=>h7.1 k' (by rw[hg];exact hk),fun hrr hk=>let ⟨k₁,g1,g2⟩:=h7.2 hrr (by rw[hg];exact hk);⟨k₁,g1,g2⟩⟩
    | some r=>
     obtain⟨y',run',hy1,hy2,hy3⟩:=hs l r hfl
     have hg:gotoIn l (.inScope x::k)=some (.code y'::.inScope x::k):=by simp[gotoIn,hy1]
     simp only
     rw[hy3]
     exact KOK.from h2 h6 (h7.1 _ hg) (ih y' run' hy2 b k cs' a' c' u' V m' w' hb h1 h4 h5 (hro.mono h2.le))
   | ret=>exact⟨m',w',.ret,c',cs',h1,h2,.ret,h4,h5,h6,h7⟩
   | panic hc=>exact⟨m',w',.panic _,c',cs',h1,h2,.panic hc,h4,h5,h6,h7⟩
def DrawOK(P:Program)(E:Env):Prop:=∀(id:Nat) (ops:Array Oper) (p:Plan),plan ops=some p->
 CodeOK P E (.region id ops true) (fun E ro _ a u Z=>bM E ro ((cswap P ops p.tail).un E ro) (cdops P ops p.main).un [Z.clock] a u Z)
def RangeOK(P:Program)(E:Env):Prop:=∀(g:Operand) (params:Array Tmp) (assign body:Code),CodeOK P E (.rangeFunc g params assign body) (fun E ro fn=>frange E ro fn g params.toList assign body)
omit [Pins] in
theorem Xn(depth:Nat)(x:Code):ccode P H (depth+1) (.loop x)=⟨cloop H (ccode P H depth x).un⟩:=rfl
omit [Pins] in
theorem Uk(depth:Nat)(x:Code):ccode P H (depth+1) (.scope x)=⟨cscope x (ccode P H depth)⟩:=rfl
theorem K4(hE:EnvOK P E)(hD:DrawOK P E)(hR:RangeOK P E):∀(depth:Nat) (x:Code),CodeOK P E x (ccode P H depth x).un:=by
 intro depth
 induction depth with
 | zero=>intro x ro fn b k cs a c u Z m w _ _ _ _ _;trivial
 | succ depth ih=>
  intro x
  cases x with
  | skip=>exact fun ro fn b k cs a c u Z m w hb hr ha hu hro=>⟨m,w,.normal,c,cs,hr,.refl _ _ _,.normal,ha,hu,.refl _ _,.one trivial stepR_skip⟩
  | label l=>exact fun ro fn b k cs a c u Z m w hb hr ha hu hro=>⟨m,w,.normal,c,cs,hr,.refl _ _ _,.normal,ha,hu,.refl _ _,.one trivial stepR_label⟩
  | ret=>exact fun ro fn b k cs a c u Z m w hb hr ha hu hro=>⟨m,w,.ret,c,cs,hr,.refl _ _ _,.ret,ha,hu,.refl _ _,fun hn=>⟨_,.one trivial (stepR_ret hn)⟩,fun _=>⟨k,.refl _⟩⟩
  | exit id=>exact fun ro fn b k cs a c u Z m w hb hr ha hu hro=>⟨m,w,.exit id,c,cs,hr,.refl _ _ _,.exit id,ha,hu,.refl _ _,fun _ hk=>.one trivial (stepR_exit hk),fun _ hk=>⟨k,hk,.refl _⟩⟩
  | goto l=>exact fun ro fn b k cs a c u Z m w hb hr ha hu hro=>⟨m,w,.goto l,c,cs,hr,.refl _ _ _,.goto l,ha,hu,.refl _ _,fun _ hk=>.one trivial (stepR_goto hk),fun _ hk=>⟨k,hk,.refl _⟩⟩
  | refuse r=>exact fun ro fn b k cs a c u Z m w hb hr ha hu hro=>trivial
  | seq x y=>
   intro ro fn b k cs a c u Z m w hb hr ha hu hro
   refine KOK.from (.refl _ _ _) (.refl _ _) (.one trivial stepR_seq) ?_
   exact KOK.andThen rfl hro (ih x ro fn b (.code y::k) cs a c u Z m w hb hr ha hu hro) fun a' u' V m' w' c' cs' h1 h2 h3 h4=>ih y ro fn b k cs' a' c' u' V m' w' hb h1 h2 h3 h4
  | cond q x y=>
   intro ro fn b k cs a c u Z m w hb hr ha hu hro
   show KOK P m Z w b k cs _ (match (cget q).un a with
    | .bool true=>(ccode P H depth x).un E ro fn a u Z
    | .bool false=>(ccode P H depth y).un E ro fn a u Z
    | _=>.no)
   have h:=ha.eval q
   split
   .rename_i hq
    rw[hq] at h
    have hc:=h.flat rfl
    exact KOK.from (.refl _ _ _) (.refl _ _) (.one trivial (stepR_cond hc)) (ih x ro fn b k cs a c u Z m w hb hr ha hu hro)
   .rename_i hq
    rw[hq] at h
    have hc:=h.flat rfl
    exact KOK.from (.refl _ _ _) (.refl _ _) (.one trivial (stepR_cond hc)) (ih y ro fn b k cs a c u Z m w hb hr ha hu hro)
   .trivial
  | block id x=>
   intro ro fn b k cs a c u Z m w hb hr ha hu hro
   have h:=ih x ro fn b (.inBlock id::k) cs a c u Z m w hb hr ha hu hro
   show KOK P m Z w b k cs _ (match (ccode P H depth x).un E ro fn a u Z with
    | .done (.exit id') a u Z=>cond (Nat.beq id' id) (.done .normal a u Z) (.done (.exit id') a u Z)
    | r=>r)
   have h0:St P (lone (b.atR c (.code (.block id x)::k)) cs w) (lone (b.atR c (.code x::.inBlock id::k)) cs w):=.one trivial stepR_block
   cases hrun:(ccode P H depth x).un E ro fn a u Z with
   | no=>trivial
   | done e a' u' V=>
    rw[hrun] at h
    obtain⟨m',w',e',c',cs',h1,h2,h3,h4,h5,h6,h7⟩:=h
    cases h3 with
    | normal=>exact⟨m',w',.normal,c',cs',h1,h2,.normal,h4,h5,h6,StepsIn.trans h0 (StepsIn.trans h7 (.one trivial stepR_inBlock))⟩
    | exit id'=>
     simp only
     by_cases hid:id'=id
     .subst hid
      rw[IC]
      exact⟨m',w',.normal,c',cs',h1,h2,.normal,h4,h5,h6,StepsIn.trans h0 (h7.1 k (by simp[exitTo]))⟩
     .rw[Jb hid]
      have hx:exitTo id' (.inBlock id::k)=exitTo id' k:=by
       have:(id==id')=false:=by simp;exact fun h=>hid h.symm
       simp[exitTo,this]
      exact⟨m',w',.exit id',c',cs',h1,h2,.exit id',h4,h5,h6,fun k' hk=>StepsIn.trans h0 (h7.1 k' (by rw[hx];exact hk)),fun hrr hk=>let ⟨k₁,g1,g2⟩:=h7.2 hrr (by rw[hx];exact hk);⟨k₁,g1,StepsIn.trans h0 g2⟩⟩
    | goto l=>
     have hx:gotoIn l (.inBlock id::k)=gotoIn l k:=by simp[gotoIn]
     exact⟨m',w',.goto l,c',cs',h1,h2,.goto l,h4,h5,h6,fun k' hk=>StepsIn.trans h0 (h7.1 k' (by rw[hx];exact hk)),fun hrr hk=>let ⟨k₁,g1,g2⟩:=h7.2 hrr (by rw[hx];exact hk);⟨k₁,g1,StepsIn.trans h0 g2⟩⟩
    | ret=>exact⟨m',w',.ret,c',cs',h1,h2,.ret,h4,h5,h6,.of_steps h0 h7⟩
    | panic hc=>exact⟨m',w',.panic _,c',cs',h1,h2,.panic hc,h4,h5,h6,.of_steps h0 h7⟩
  | loop x=>
   rw[Xn]
   intro ro fn b k cs a c u Z m w hb hr ha hu hro
   unfold cloop
   generalize bL=fuel
   exact KOK.from (.refl _ _ _) (.refl _ _) (.one trivial stepR_loop) (U6 (ih x) (bH H fn) fuel b k cs a c u Z m w hb hr ha hu hro)
  | scope x=>
   rw[Uk]
   intro ro fn b k cs a c u Z m w hb hr ha hu hro
   unfold cscope
   generalize bL=fuel
   refine KOK.from (.refl _ _ _) (.refl _ _) (.one trivial Xb) ?_
   refine Qu (find:=fun l=>match findLabel x l with|some rest=>some ⟨(ccode P H depth rest).un E ro fn⟩|none=>none) (fun l hl=>?_) (fun l r hl=>?_) fuel x _ (ih x) b k cs a c u Z m w hb hr ha hu hro
   .split at hl
    .cases hl
    .assumption
   .split at hl
    .rename_i rest hrest
     cases hl
     exact⟨rest,_,hrest,ih rest,rfl⟩
    .cases hl
  | region id ops d=>
   cases d with
   | false=>
    intro ro fn b k cs a c u Z m w hb hr ha hu hro
    refine KOK.from (.refl _ _ _) (.refl _ _) (.one trivial stepR_region) (XG hE ops.toList (List.range ops.size) a c u Z m w cs ?_ hr ha hu hro)
    apply List.ext_getElem?
    intro i
    simp only[List.getElem?_map]
    by_cases hi:i<ops.size
    .simp[List.getElem?_range hi,hi]
    .simp[hi]
   | true=>
    intro ro fn b k cs a c u Z m w hb hr ha hu hro
    show KOK P m Z w b k cs _ ((match plan ops with
     | some p=>(⟨fun E ro _ a u Z=>bM E ro ((cswap P ops p.tail).un E ro) (cdops P ops p.main).un [Z.clock] a u Z⟩:Bx CodeF)
     | none=>⟨fun _ _ _ _ _ _=>.no⟩).un E ro fn a u Z)
    cases hp:plan ops with
    | none=>trivial
    | some p=>exact hD id ops p hp ro fn b k cs a c u Z m w hb hr ha hu hro
  | rangeFunc g params assign body=>exact hR g params assign body
end
end Go.Eng
namespace Go.Eng
open Go
variable [Pins]
section
variable {P:Program} {m:Mp} {Z:aC} {w:World} {a:aV} {c:Act} {E:Env}
theorem Ac6(hr:Rel Top m Z w){t:TypeId}{sz:Option Nat}(ht:aggSize P t=some sz){v v' u:Value}{s:aC}(hv:bE m v v')(h:aG sz v Z=.val u s):
  ∃u',(do loadVar t (<-asAddr v'):Sem Value).run P w=.ok u' w/\bE m u u':=by
 unfold aG at h
 split at h
 .rename_i b off
  cases hv with
  | ptr hm=>
   rename_i e
   cases hc:Z.cells b with
   | none=>rw[hc] at h;cases h
   | some l=>
    rw[hc] at h
    cases sz with
    | some n=>
     simp only at h
     cases htk:takeN n (dropN off l) with
     | none=>rw[htk] at h;cases h
     | some cs=>
      rw[htk] at h
      cases h
      obtain⟨cs',h1,h2,h3⟩:=hr.cellsFrom hm hc htk
      obtain⟨h4,h5⟩:=GL ht w
      refine⟨.agg cs'.toArray,?_,h1.agg⟩
      have h6:=run_loadCells_list (P:=P) (w:=w) (⟨e.blk,e.sh+off,none⟩:Addr) cs' h3
      have hlen:cs'.length=n:=by rw[<-h1.1];exact h2
      rw[hlen] at h6
      simp[asAddr,loadVar,h4,h5,h6]
    | none=>
     simp only at h
     cases hn:nth l off with
     | none=>rw[hn] at h;cases h
     | some x=>
      rw[hn] at h
      cases h
      rw[ED] at hn
      obtain⟨x',h1,h2⟩:=hr.cells hm hc off u hn
      have h4:=GK ht w
      exact⟨x',by simp[asAddr,loadVar,h4,h1],h2⟩
 .cases h
def resSem(tmps:Array Value):ResultVar->Sem Value
 | .tmp t=>pure (tmps.getD t undef)
 | .cell x t=>do loadVar t (<-asAddr (tmps.getD x undef))
theorem Oo(hr:Rel Top m Z w)(ha:∀t,bE m (a.get t) (c.tmps.getD t undef)){r:ResultVar}{v:Value}(h:fresult P r a Z=some v):
  ∃v',(resSem c.tmps r).run P w=.ok v' w/\bE m v v':=by
 cases r with
 | tmp t=>
  cases h
  exact⟨_,rfl,ha t⟩
 | cell x t=>
  unfold fresult at h
  simp only at h
  cases hs:aggSize P t with
  | none=>rw[hs] at h;cases h
  | some sz=>
   rw[hs] at h
   simp only at h
   cases hf:aG sz (a.get x) Z with
   | val u s=>
    rw[hf] at h
    cases h
    exact Ac6 hr hs (ha x) hf
   | _=>rw[hf] at h;cases h
theorem Hs(hr:Rel Top m Z w)(ha:∀t,bE m (a.get t) (c.tmps.getD t undef)):∀(rs:List ResultVar) (vs:List Value),fresults P rs a Z=some vs->
  ∃vs':List Value,(rs.mapM (resSem c.tmps)).run P w=.ok vs' w/\LRel m vs vs'
 | [],vs,h=>by
  cases h
  exact⟨[],rfl,.nil⟩
 | r::rs,vs,h=>by
  have h':(match fresult P r a Z,fresults P rs a Z with|some v,some vs=>some (v::vs)|_,_=>none)=some vs:=h
  cases h1:fresult P r a Z with
  | none=>rw[h1] at h';cases h'
  | some v=>
   cases h2:fresults P rs a Z with
   | none=>rw[h1,h2] at h';cases h'
   | some us=>
    rw[h1,h2] at h'
    cases h'
    obtain⟨v',h3,h4⟩:=Oo hr ha h1
    obtain⟨us',h5,h6⟩:=Hs hr ha rs us h2
    exact⟨v'::us',by simp[List.mapM_cons,h3,h5],.cons h4 h6⟩
def pack:List Value->Value
 | [v]=>v
 | vs=>.tuple vs.toArray
theorem Oz(hr:Rel Top m Z w)(ha:∀t,bE m (a.get t) (c.tmps.getD t undef))(fn:Func){vs:List Value}(h:fresults P fn.results.toList a Z=some vs):
  ∃v',(results fn c.tmps).run P w=.ok v' w/\bE m (pack vs) v':=by
 obtain⟨vs',h1,h2⟩:=Hs hr ha _ _ h
 have h3:(fn.results.mapM (resSem c.tmps)).run P w=.ok vs'.toArray w:=by
  rw[Array.mapM_eq_mapM_toList]
  simp[h1]
 have e0:results fn c.tmps=(do let vs <-fn.results.mapM (resSem c.tmps);pure (if h:vs.size=1 then vs[0] else .tuple vs)):=by
  have:(fun(r:ResultVar)=>(match r with|.tmp t=>pure (c.tmps.getD t undef)|.cell a t=>do loadVar t (<-asAddr (c.tmps.getD a undef)):Sem Value))=resSem c.tmps:=by
   funext r
   cases r<;>rfl
  unfold results
  rw[<-this]
  rfl
 rw[e0]
 match vs,vs',h2 with
 | [],[],_=>exact⟨.tuple #[],by simp[h3],.unknown _⟩
 | [v],[v'],h2=>exact⟨v',by simp[h3],h2.head⟩
 | [],_::_,h2=>simp[LRel] at h2
 | [_],[],h2=>simp[LRel] at h2
 | [_],_::_::_,h2=>simp[LRel] at h2
 | _::_::_,[],h2=>simp[LRel] at h2
 | _::_::_,[_],h2=>simp[LRel] at h2
 | v::x::t,v'::x'::t',h2=>exact⟨.tuple (v'::x'::t').toArray,by simp[h3],h2.tuple⟩
end
end Go.Eng
namespace Go.Eng
open Go
variable [Pins]
omit [Pins] in
theorem ChRel.dropW{m:Mp}{l l':List PanicEntry}(h:ChRel m l l'):ChRel m (l.dropWhile (!·.goexit)) (l'.dropWhile (!·.goexit)):=by
 induction h with
 | nil=>exact .nil
 | cons he hl ih=>
  rename_i e e' l l'
  simp only[List.dropWhile_cons]
  rw[<-he.2.2]
  cases e.goexit with
  | false=>exact ih
  | true=>exact .cons he hl
omit [Pins] in
theorem AaN{m:Mp}{u u':FrameMode}(h:MRel m u u'):MRel m (unrecovered u) (settle u'):=by
 cases h with
 | run=>exact .run
 | returning=>exact .returning
 | panicking hl=>
  cases hl with
  | nil=>exact .panicking .nil
  | cons he hl=>
   rename_i e e' l l'
   obtain⟨v,rc,ge⟩:=e
   obtain⟨v',rc',ge'⟩:=e'
   obtain⟨h1,h2,h3⟩:=he
   simp only at h1 h2 h3
   subst h2
   subst h3
   cases rc with
   | false=>exact .panicking (.cons ⟨h1,rfl,rfl⟩ hl)
   | true=>
    have hd:=hl.dropW
    simp only[unrecovered,settle]
    generalize l.dropWhile (!·.goexit)=d at hd ⊢
    generalize l'.dropWhile (!·.goexit)=d' at hd ⊢
    cases hd with
    | nil=>exact .returning
    | cons he hl=>exact .panicking (.cons he hl)
omit [Pins] in
theorem Aam{m:Mp}{u u':FrameMode}{ch ch':List PanicEntry}(h:MRel m u u')(hc:ChRel m ch ch'):MRel m (raised u ch) (raised u' ch'):=by
 cases h with
 | run=>exact .panicking hc
 | returning=>exact .panicking hc
 | panicking hl=>exact .panicking (hc.append hl)
omit [Pins] in
theorem MRel.ne_run{m:Mp}{u u':FrameMode}(h:MRel m u u')(hu:u≠.run):u'≠.run:=by
 cases h with
 | run=>exact absurd rfl hu
 | returning=>simp
 | panicking hl=>simp
def LeaveOK(P:Program)(m:Mp)(Z:aC)(w:World)(fr:Frame)(cs:List Frame)(uu:Option FrameMode):CRes->Prop
 | .no=>True
 | .ret v u' V=>u'=uu/\∃m' w' v' fr',Rel Top m' V w'/\Step Z V m m' w w'/\bE m' v v'/\St P (lone fr cs w) (lone fr' cs w')/\fr'.fn=fr.fn/\fr'.kind=fr.kind/\fr'.going P w' (.returned v')
 | .pan ch u' V=>u'=uu/\∃m' w' ch' fr',Rel Top m' V w'/\Step Z V m m' w w'/\ChRel m' ch ch'/\St P (lone fr cs w) (lone fr' cs w')/\fr'.fn=fr.fn/\fr'.kind=fr.kind/\fr'.going P w' (.panicked ch')
theorem LeaveOK.from{P:Program}{m m₁:Mp}{Z bV:aC}{w w₁:World}{fr fr₁:Frame}{cs:List Frame}{uu:Option FrameMode}{r:CRes}(hS:Step Z bV m m₁ w w₁)(hst:St P (lone fr cs w) (lone fr₁ cs w₁))(hf:fr₁.fn=fr.fn)(hk:fr₁.kind=fr.kind)(h:LeaveOK P m₁ bV w₁ fr₁ cs uu r):LeaveOK P m Z w fr cs uu r:=by
 cases r with
 | no=>trivial
 | ret v u' V=>
  obtain⟨h0,m',w',v',fr',h1,h2,h3,h4,h5,h6,h7⟩:=h
  exact⟨h0,m',w',v',fr',h1,hS.trans h2,h3,StepsIn.trans hst h4,h5.trans hf,h6.trans hk,h7⟩
 | pan ch u' V=>
  obtain⟨h0,m',w',v',fr',h1,h2,h3,h4,h5,h6,h7⟩:=h
  exact⟨h0,m',w',v',fr',h1,hS.trans h2,h3,StepsIn.trans hst h4,h5.trans hf,h6.trans hk,h7⟩
theorem Jq{P:Program}{E:Env}(hE:EnvOK P E){fn:Func}(uu:Option FrameMode)(a:aV):∀(ds ds':List Deferred) (md:FrameMode) (Z:aC) (m:Mp) (w:World) (fr:Frame) (cs:List Frame),Rel Top m Z w->DLRel m ds ds'->MRel m md fr.mode->
  fr.defers=ds'->(∀t,bE m (a.get t) (fr.tmps.getD t undef))->P.funcs[fr.fn]? = some fn->LeaveOK P m Z w fr cs uu (fleave P E fn.results.toList a uu ds md Z):=by
 intro ds
 induction ds with
 | nil=>
  intro ds' md Z m w fr cs hr hd hm hds ha hf
  have:ds'=[]:=List.eq_nil_of_length_eq_zero (by simpa using hd.1.symm)
  subst this
  generalize hmo:fr.mode=mo at hm
  cases hm with
  | run=>trivial
  | returning=>
   show LeaveOK P m Z w fr cs uu (match fresults P fn.results.toList a Z with
    | some [v]=>.ret v uu Z
    | some vs=>.ret (.tuple vs.toArray) uu Z
    | none=>.no)
   cases hv:fresults P fn.results.toList a Z with
   | none=>trivial
   | some vs=>
    obtain⟨v',h1,h2⟩:=Oz (c:={ tmps:=fr.tmps,defers:=[] }) hr ha fn hv
    have key:LeaveOK P m Z w fr cs uu (.ret (pack vs) uu Z):=⟨rfl,m,w,v',fr,hr,.refl _ _ _,h2,.refl _,rfl,rfl,hmo,hds,fn,hf,h1⟩
    match vs with
    | []=>exact key
    | [v]=>exact key
    | _::_::_=>exact key
  | panicking hl=>exact⟨rfl,m,w,_,fr,hr,.refl _ _ _,hl,.refl _,rfl,rfl,hmo,hds,fn,hf⟩
 | cons d ds ih=>
  intro ds' md Z m w fr cs hr hd hm hds ha hf
  cases ds' with
  | nil=>simp[DLRel] at hd
  | cons d' ds'=>
   have hd0:=hd.head
   have hd1:=hd.tail
   cases hir:isRun md with
   | true=>
    have:fleave P E fn.results.toList a uu (d::ds) md Z=.no:=by
     show cond (isRun md) CRes.no _=_
     rw[hir]
     rfl
    rw[this]
    trivial
   | false=>
   have hrun:md≠.run:=fun h=>by subst h;cases hir
   have hfr:=hm.ne_run hrun
   have hstep:∀x,cond (isRun md) CRes.no x=x:=fun x=>by rw[hir];rfl
   cases hd0 with
   | collected hmr=>
    rename_i r e
    show LeaveOK P m Z w fr cs uu (cond (isRun md) .no (match Z.heap.get r with
     | some e=>(match e.obj with
      | .defd true=>cond e.ro .no (fleave P E fn.results.toList a uu ds md (Z.put r (.defd false) none))
      | _=>.no)
     | none=>.no))
    rw[hstep]
    cases hg:Z.heap.get r with
    | none=>trivial
    | some ent=>
     simp only
     split
     .rename_i ho
      cases hro:ent.ro with
      | true=>trivial
      | false=>
       obtain⟨_,hs⟩:=hr.sync r ent e trivial hg hmr
       rw[ho] at hs
       have hlt:e.blk<w.heap.size:=(hr.dom _ _ hmr).2
       have hs':w.heap[e.blk]? = some (.deferred (some [])):=hs
       obtain⟨hR,hS⟩:=hr.putObj (.defd false) (.deferred none) hg (by rw[ho];rfl) hmr hro trivial
       have htake:(Instr.takeDeferred e.blk).run P w=.ok [] { w with heap:=w.heap.setIfInBounds e.blk (.deferred none) }:=by
        simp[Instr.takeDeferred,getObj,setObj,Sem.run,hs']
       refine LeaveOK.from hS (.one trivial (step_collected hfr hds rfl htake)) rfl rfl ?_
       exact ih ds' md _ m _ _ cs hR (hd1.mono hS.le) (hm.mono hS.le) rfl (fun t=>(ha t).mono hS.le) hf
     .trivial
   | fn f hc hargs=>
    rename_i c0 c0' a0 a0'
    have hA:LRel m (a0.toList++c0.toList) (a0'++c0').toList:=by
     rw[Array.toList_append]
     exact hargs.append hc
    have hcall:=hE.call f (a0.toList++c0.toList) (some md) Z m w (a0'++c0') hr hA (fun md' h=>(by cases h;exact hrun))
    show LeaveOK P m Z w fr cs uu (cond (isRun md) .no (match E.call f (a0.toList++c0.toList) (some md) Z with
     | .ret _ (some md') Z=>fleave P E fn.results.toList a uu ds (unrecovered md') Z
     | .pan ch (some md') Z=>fleave P E fn.results.toList a uu ds (raised md' ch) Z
     | _=>.no))
    rw[hstep]
    cases hr0:E.call f (a0.toList++c0.toList) (some md) Z with
    | no=>trivial
    | ret v u' V=>
     rw[hr0] at hcall
     cases u' with
     | none=>trivial
     | some md'=>
      rcases hcall with⟨h,_⟩|⟨hent,hgo⟩
      .cases h
      .obtain⟨m',w',v',fr2,cs',hR,hS,hV,hU,hun,hst,hfn,hk,hgoing⟩:=hgo ({ fr with defers:=ds' }::cs) ⟨rfl,_,_,rfl,hm⟩
       obtain⟨_,c1,rest1,hcs1,hm1⟩:=hU
       have hcs2:∃mo,cs'={ fr with defers:=ds',mode:=mo }::cs:=by
        rcases hun with h|⟨_,c2,r2,mo,h,h'⟩
        .exact⟨fr.mode,h⟩
        .cases h
         exact⟨mo,h'⟩
       obtain⟨mo,rfl⟩:=hcs2
       cases hcs1
       have hinv:(invoke (.fn (.func f) c0') a0').run P w=.ok (.enter f (a0'++c0')) w:=hent
       have h1:=step_defer (P:=P) (cs:=cs) hfr hds rfl hinv
       have h2:=step_going_returned (c:={ fr with defers:=ds',mode:=mo }) (cs:=cs) hk hgoing
       refine LeaveOK.from hS (fr₁:={ fr with defers:=ds',mode:=settle mo }) (.head trivial h1 (StepsIn.trans hst (.one trivial h2))) rfl rfl ?_
       exact ih ds' _ V m' w' { fr with defers:=ds',mode:=settle mo } cs hR (hd1.mono hS.le) (AaN hm1) rfl (fun t=>(ha t).mono hS.le) hf
    | pan ch u' V=>
     rw[hr0] at hcall
     cases u' with
     | none=>trivial
     | some md'=>
      obtain⟨hent,hgo⟩:=hcall
      obtain⟨m',w',ch',fr2,cs',hR,hS,hC,hU,hun,hst,hfn,hk,hgoing⟩:=hgo ({ fr with defers:=ds' }::cs) ⟨rfl,_,_,rfl,hm⟩
      obtain⟨_,c1,rest1,hcs1,hm1⟩:=hU
      have hcs2:∃mo,cs'={ fr with defers:=ds',mode:=mo }::cs:=by
       rcases hun with h|⟨_,c2,r2,mo,h,h'⟩
       .exact⟨fr.mode,h⟩
       .cases h
        exact⟨mo,h'⟩
      obtain⟨mo,rfl⟩:=hcs2
      cases hcs1
      have hinv:(invoke (.fn (.func f) c0') a0').run P w=.ok (.enter f (a0'++c0')) w:=hent
      have h1:=step_defer (P:=P) (cs:=cs) hfr hds rfl hinv
      have h2:=step_going_panicked (c:={ fr with defers:=ds',mode:=mo }) (cs:=cs) hgoing
      refine LeaveOK.from hS (fr₁:={ fr with defers:=ds',mode:=raised mo ch' }) (.head trivial h1 (StepsIn.trans hst (.one trivial h2))) rfl rfl ?_
      exact ih ds' _ V m' w' { fr with defers:=ds',mode:=raised mo ch' } cs hR (hd1.mono hS.le) (Aam hm1 hC) rfl (fun t=>(ha t).mono hS.le) hf
end Go.Eng
namespace Go.Eng
open Go
variable [Pins]
section
variable {P:Program} {m:Mp} {Z:aC} {w:World} {b:Frame} {k:List Item} {cs:List Frame} {a:aV} {c:Act} {u:Option FrameMode} {E:Env} {H:Hints}
theorem XN{pend:Option Code}(hr:Rel Top m Z w)(ha:bK m a c)(hu:URel m u b.kind cs):
  KOK P m Z w b k cs (lone (b.atR c ((pend.map Item.code).toList++k)) cs w) (jumpRes pend a u Z):=by
 unfold jumpRes
 cases pend with
 | none=>exact⟨m,w,.normal,c,cs,hr,.refl _ _ _,.normal,ha,hu,.refl _ _,.refl _⟩
 | some x=>
  simp only
  split
  .exact⟨m,w,.ret,c,cs,hr,.refl _ _ _,.ret,ha,hu,.refl _ _,fun hn=>⟨_,.one trivial (stepR_ret hn)⟩,fun _=>⟨k,.refl _⟩⟩
  .rename_i id
   exact⟨m,w,.exit id,c,cs,hr,.refl _ _ _,.exit id,ha,hu,.refl _ _,fun _ hk=>.one trivial (stepR_exit hk),fun _ hk=>⟨k,hk,.refl _⟩⟩
  .rename_i l
   exact⟨m,w,.goto l,c,cs,hr,.refl _ _ _,.goto l,ha,hu,.refl _ _,fun _ hk=>.one trivial (stepR_goto hk),fun _ hk=>⟨k,hk,.refl _⟩⟩
  .trivial
theorem Hx{l:Nat}{e:MEnt}{mark mark':List Deferred}{v:Value}{u':Option FrameMode}(hm:m l=some e)(hr:Rel Top m Z w)(ha:bK m a c)(hu:URel m u b.kind cs)(hM:DLRel m mark mark'):
  KOK P m Z w b k cs (lone (b.atR { c with defers:=mark'++c.defers } (.endRangeFunc e.blk::k)) cs w) (leaveLoop l mark a u (.ret v u' Z)):=by
 unfold leaveLoop
 simp only
 cases hg:Z.heap.get l with
 | none=>trivial
 | some ent=>
  simp only
  split
  .rename_i st pend fn loc tmp nl nt params assign body d ho
   cases hb:(isBusy st||ent.ro) with
   | true=>trivial
   | false=>
    simp only[Bool.or_eq_false_iff] at hb
    have hst:st≠.busy:=fun h=>by subst h;cases hb.1
    obtain⟨_,hs⟩:=hr.sync l ent e trivial hg hm
    rw[ho] at hs
    obtain⟨ts,ps,de,hw,ht,hp,hd⟩:=hs
    have hlt:e.blk<w.heap.size:=(hr.dom _ _ hm).2
    have hend:=run_endLoop (P:=P) hw hst
    obtain⟨hR,hS⟩:=hr.putObj (.loop .exhausted pend fn loc tmp nl nt params assign body d) (.loop { state:=.exhausted,pending:=pend,fn,tmps:=ts,params:=ps,assign,body,defers:=de.blk }) hg (by rw[ho];rfl) hm hb.2
     ⟨ts,ps,de,by simp[hlt],ht,hp,hd⟩
    exact KOK.from hS (.refl _ _) (.one trivial (stepR_endRangeFunc hend)) (XN hR (ha.pushed hM) (hu.mono hS.le))
  .trivial
omit [Pins] in
theorem K0{g:Operand}{ps:Array Tmp}{assign body:Code}{l:Nat}{mark:List Deferred}{w₁ w₁' w₂:World}{d:Deferred}{v:Value}(he:(Instr.enterLoop b.fn c.tmps ps assign body b.roundOf).run P w=.ok (l,mark) w₁)(hres:(resolve c.eval (rangeCall g l) 0).run P w₁=.ok d w₁')(hinv:(invoke d.target d.args).run P w₁'=.ok (.value v) w₂):
  step P (lone (b.atR c (.code (.rangeFunc g ps assign body)::k)) cs w)=.next (lone (b.atR { c with defers:=mark++c.defers } (.endRangeFunc l::k)) cs w₂):=
 step_lone_go (by
  have hev:=Frame.eval_atR b { c with defers:=mark++c.defers } (.inRangeFunc l::k)
  simp only[Frame.atR] at hev
  have hres':Sem.run P (resolve ({ tmps:=c.tmps,defers:=mark++c.defers }:Act).eval { callee:=.value g,args:=#[.const (.func (.yield l) #[] #[])],argTypes:=#[] } 0) w₁=.ok d w₁':=hres
  have hf:=finish_atR_inRangeFunc (b:=b) (a:={ c with defers:=mark++c.defers }) (k:=k) l v
  simp only[Frame.atR] at hf
  simp[stepG,stepG.exec,Frame.atR,Sem.runT_eq,he,GStep.bare_after,stepG.apply,hev,Sem.run_bind,hres',hinv,Result.andThen,hf])
theorem Hj(hE:EnvOK P E)(g:Operand)(params:Array Tmp)(assign body:Code){r:Nat}{de:MEnt}{mark mark':List Deferred}{w0:World}(hr:Rel Top m Z w)(hd:m r=some de)(ha:bK m a c)(hu:URel m u b.kind cs)(hM:DLRel m mark mark')(he:∀w',(newObj (.loop { state:=.ready,pending:=none,fn:=b.fn,tmps:=c.tmps,params,assign,body,defers:=de.blk })).run P w=.ok w.heap.size w'->(Instr.enterLoop b.fn c.tmps params assign body b.roundOf).run P w0=.ok (w.heap.size,mark') w'):
  KOK P m Z w b k cs (lone (b.atR c (.code (.rangeFunc g params assign body)::k)) cs w0) (enterLoop E b.fn g params.toList assign body r mark a u Z):=by
 unfold Eng.enterLoop
 have hv:=ha.eval g
 split
 .rename_i f first cap hq
  rw[hq] at hv
  generalize hcg:c.eval g=gv at hv
  cases hv with
  | func hfn h1 h2 hA hB=>
   cases hfn
   rename_i first' cap'
   obtain⟨m',w',hnew,hR,hS,hml⟩:=Fq (P:=P) hr (.loop .ready none b.fn a.loc a.tmp a.nl a.nt params.toList assign body r) (.loop { state:=.ready,pending:=none,fn:=b.fn,tmps:=c.tmps,params,assign,body,defers:=de.blk })
    fun m' w' hle hw=>⟨c.tmps,params,de,hw,ha.tmps.mono hle,rfl,hle _ _ hd⟩
   have he':=he w' hnew
   have hy:bE m' (.func (.yield Z.next) #[] #[]) (.func (.yield w.heap.size) #[] #[]):=
    .func (.yield hml) rfl rfl (fun i v v' hh=>by simp at hh) (fun i v v' hh=>by simp at hh)
   have hargs:LRel m' (first.toList++[.func (.yield Z.next) #[] #[]]++cap.toList) (first'++#[Value.func (.yield w.heap.size) #[] #[]]++cap').toList:=by
    rw[Array.toList_append,Array.toList_append]
    exact(((LRel.of_array h1 hA).mono hS.le).append (.cons hy .nil)).append ((LRel.of_array h2 hB).mono hS.le)
   have hres:(resolve c.eval (rangeCall g w.heap.size) 0).run P w'=.ok { target:=.fn (.func f) cap',args:=first'++#[Value.func (.yield w.heap.size) #[] #[]] } w':=by
    show (Deferred.ofValue (c.eval g) (#[Operand.const (.func (.yield w.heap.size) #[] #[])].map c.eval)).run P w'=_
    rw[hcg]
    simp[Deferred.ofValue,Act.eval]
   have hinv:∀(x:Next) (w2:World),(callFunc f (first'++#[Value.func (.yield w.heap.size) #[] #[]]++cap')).run P w'=.ok x w2->(invoke (.fn (.func f) cap') (first'++#[Value.func (.yield w.heap.size) #[] #[]])).run P w'=.ok x w2:=fun x w2 h=>h
   have hc:=hE.call f _ none _ m' w' _ hR hargs (fun md h=>by cases h)
   refine KOK.from hS (.refl _ _) (.refl _) ?_
   cases hcall:E.call f (first.toList++[.func (.yield Z.next) #[] #[]]++cap.toList) none (Z.push (.loop .ready none b.fn a.loc a.tmp a.nl a.nt params.toList assign body r) none) with
   | no=>trivial
   | ret v u' bZ=>
    rw[hcall] at hc
    rcases hc with⟨_,_,rfl,v',hval,_⟩|⟨hent,hgo⟩
    .refine KOK.from (.refl _ _ _) (.refl _ _) (.one trivial (K0 he' hres (hinv _ _ hval))) ?_
     exact Hx (e:=⟨w.heap.size,0,false,none⟩) hml hR (ha.mono hS.le) (hu.mono hS.le) (hM.mono hS.le)
    .obtain⟨m'',w'',v',fr,cs',hR2,hS2,_,_,hun,hst,hfn,hk,hgoing⟩:=hgo (b.atR { c with defers:=mark'++c.defers } (.inRangeFunc w.heap.size::k)::cs) rfl
     have hcs:cs'=b.atR { c with defers:=mark'++c.defers } (.inRangeFunc w.heap.size::k)::cs:=by
      rcases hun with h|⟨h,_⟩
      .exact h
      .cases h
     subst hcs
     have hl:=Ea hk hgoing
     have h3:=step_leave_returned (c:=b.atR { c with defers:=mark'++c.defers } (.inRangeFunc w.heap.size::k)) (cs:=cs) hl
     rw[finish_atR_inRangeFunc] at h3
     have hle:=fun b e h=>hS2.le b e (hS.le b e h)
     refine KOK.from hS2 (.refl _ _) (.head trivial (stepR_rangeFunc he' hres (hinv _ _ hent)) (StepsIn.trans hst (.one trivial h3))) ?_
     exact Hx (e:=⟨w.heap.size,0,false,none⟩) (hS2.le _ _ hml) hR2 (ha.mono hle) (hu.mono hle) (hM.mono hle)
   | pan ch u' bZ=>
    rw[hcall] at hc
    obtain⟨hent,hgo⟩:=hc
    obtain⟨m'',w'',ch',fr,cs',hR2,hS2,hC,_,hun,hst,hfn,hk,hgoing⟩:=hgo (b.atR { c with defers:=mark'++c.defers } (.inRangeFunc w.heap.size::k)::cs) rfl
    have hcs:cs'=b.atR { c with defers:=mark'++c.defers } (.inRangeFunc w.heap.size::k)::cs:=by
     rcases hun with h|⟨h,_⟩
     .exact h
     .cases h
    subst hcs
    have hl:=Ea hk hgoing
    have hle:=fun b e h=>hS2.le b e (hS.le b e h)
    refine⟨m'',w'',.panic ch',{ c with defers:=mark'++c.defers },cs,hR2,hS2,.panic hC,(ha.mono hle).pushed (hM.mono hle),hu.mono hle,.refl _ _,.inRangeFunc w.heap.size::k,?_⟩
    refine .head trivial (stepR_rangeFunc he' hres (hinv _ _ hent)) (StepsIn.trans hst (.one trivial ?_))
    rw[<-Frame.raise_atR]
    exact step_leave_panicked hl
 .trivial
theorem WP(hE:EnvOK P E):RangeOK P E:=by
 intro g params assign body ro fn b k cs a c u Z m w hb hr ha hu hro
 subst hb
 cases ro with
 | none=>
  have hro':b.roundOf=none:=hro
  obtain⟨m1,w1,h1,h2,h3,h4⟩:=Fq (P:=P) hr (.defd true) (.deferred (some [])) fun m' w' _ hw=>hw
  refine KOK.from h3 (.refl _ _) (.refl _) (Hj (mark':=[{ target:=.collected w.heap.size,args:=#[] }]) hE g params assign body h2 h4 (ha.mono h3.le) (hu.mono h3.le) (.cons (.collected h4) .nil) fun w' hw'=>?_)
  simp only at hw'
  unfold Instr.enterLoop
  simp only[hro',Sem.run_bind,h1,Result.andThen,hw',Sem.run_pure]
 | some l=>
  obtain⟨hk,e,hm,hro'⟩:=hro
  show KOK P m Z w b k cs _ (match Z.heap.get l with
   | some e=>(match e.obj with
    | .loop _ _ _ _ _ _ _ _ _ _ d=>Eng.enterLoop E b.fn g params.toList assign body d [] a u Z
    | _=>.no)
   | none=>.no)
  cases hg:Z.heap.get l with
  | none=>trivial
  | some ent=>
   simp only
   split
   .rename_i st pend fn loc tmp nl nt ps0 as0 bo0 d ho
    obtain⟨_,hs⟩:=hr.sync l ent e trivial hg hm
    rw[ho] at hs
    obtain⟨ts,ps,de,hw,ht,hp,hd⟩:=hs
    refine Hj (mark':=[]) hE g params assign body hr hd ha hu .nil fun w' hw'=>?_
    unfold Instr.enterLoop
    simp only[hro',Sem.run_bind,run_getLoop hw,Result.andThen,hw',Sem.run_pure]
   .trivial
omit [Pins] in
theorem Yf:∀(l l':List (Tmp×Value)) (a:aV) (ts:Array Value),l.map (·.1)=l'.map (·.1)->LRel m (l.map (·.2)) (l'.map (·.2))->bK m a { tmps:=ts,defers:=[] }->
  bK m (putAll a l) { tmps:=l'.foldl (fun tmps (t,v)=>tmps.setIfInBounds t v) ts,defers:=[] }:=by
 intro l
 induction l with
 | nil=>
  intro l' a ts h1 _ ha
  have:l'=[]:=by simpa using h1.symm
  subst this
  exact ha
 | cons x l ih=>
  intro l' a ts h1 h2 ha
  cases l' with
  | nil=>simp at h1
  | cons x' l'=>
   simp only[List.map_cons,List.cons.injEq] at h1
   have h3:=h2.head
   have h4:=h2.tail
   show bK m (putAll (a.put (some x.1) x.2) l) _
   have:=ha.put (some x.1) h3
   refine ih l' _ _ h1.2 h4 ?_
   rw[h1.1] at this ⊢
   exact this
omit [Pins] in
theorem WO{ch:List PanicEntry}{todo:List Item}{fn:Func}{c':Frame}(hf:P.funcs[b.fn]? = some fn)(hd:c.defers=[]):
  step P (lone { b.atR c todo with mode:=.panicking ch } (c'::cs) w)=.next (lone (c'.raise ch) cs w):=
 step_leave_panicked (fr:={ b.atR c todo with mode:=.panicking ch }) ⟨rfl,hd,fn,hf⟩
theorem OA{l:Nat}{e:MEnt}{st:LoopState}{pend:Option Code}{V:aC}(hm:m l=some e)(hr:Rel Top m Z w)(hst:st=if pend.isNone then .ready else .done)(h:setJump Z l st pend=some V):
  ∃w',(Instr.endRound e.blk pend).run P w=.ok (.bool pend.isNone) w'/\Rel Top m V w'/\Step Z V m m w w':=by
 unfold setJump at h
 cases hg:Z.heap.get l with
 | none=>rw[hg] at h;cases h
 | some ent=>
  rw[hg] at h
  simp only at h
  split at h
  .rename_i s0 p0 fn loc tmp nl nt params assign body d ho
   cases hb:ent.ro with
   | true=>rw[hb] at h;cases h
   | false=>
    rw[hb] at h
    cases h
    obtain⟨_,hs⟩:=hr.sync l ent e trivial hg hm
    rw[ho] at hs
    obtain⟨ts,ps,de,hw,ht,hp,hd⟩:=hs
    have hlt:e.blk<w.heap.size:=(hr.dom _ _ hm).2
    have hend:=run_endRound (P:=P) pend hw
    obtain⟨hR,hS⟩:=hr.putObj (.loop st pend fn loc tmp nl nt params assign body d) (.loop { state:=st,pending:=pend,fn,tmps:=ts,params:=ps,assign,body,defers:=de.blk }) hg (by rw[ho];rfl) hm hb
     ⟨ts,ps,de,by simp[hlt],ht,hp,hd⟩
    rw[<-hst] at hend
    exact⟨_,hend,hR,hS⟩
  .cases h
theorem Am9(hE:EnvOK P E)(hD:DrawOK P E)(l:Nat)(args:List Value)(Z:aC)(m:Mp)(w:World)(args':Array Value)(e:MEnt)(hr:Rel Top m Z w)(hA:LRel m args args'.toList)(hm:m l=some e):
  RoundOK P m Z w e.blk args' (fround P H E l args Z):=by
 have hcode:∀x,CodeOK P E x (code P H x):=fun x=>K4 hE hD (WP hE) deep x
 unfold fround
 cases hg:Z.heap.get l with
 | none=>trivial
 | some ent=>
  simp only
  split
  .rename_i s0 p0 fn loc tmp nl nt params assign body d ho
   cases hlen:Nat.beq (len args) (len params) with
   | false=>trivial
   | true=>
    simp only[cond_true]
    rw[Nat.beq_eq,EC,EC] at hlen
    obtain⟨_,hs⟩:=hr.sync l ent e trivial hg hm
    rw[ho] at hs
    obtain⟨ts,ps,de,hw,ht,hp,hd⟩:=hs
    have hsz:args'.size=ps.size:=by
     have h1:=hA.1
     have h2:=congrArg List.length hp
     simp at h1 h2
     omega
    have hy:=run_yield (P:=P) (args:=args') hw hsz
    have hact:bK m (putAll ⟨loc,tmp,nl,nt,[]⟩ (params.zip args)) { tmps:=(ps.zip args').foldl (fun tmps (t,a)=>tmps.setIfInBounds t a) ts,defers:=[] }:=by
     have h1:(ps.zip args').toList=params.zip args'.toList:=by simp[hp]
     rw[<-Array.foldl_toList,h1]
     have h2:=hA.1
     refine Yf _ _ _ _ ?_ ?_ ⟨ht,.nil⟩
     .rw[List.map_fst_zip (by omega),List.map_fst_zip (by omega)]
     .rw[List.map_snd_zip (by omega),List.map_snd_zip (by omega)]
      exact hA
    generalize putAll ⟨loc,tmp,nl,nt,[]⟩ (params.zip args)=a0 at hact
    generalize (ps.zip args').foldl (fun tmps (t,a)=>tmps.setIfInBounds t a) ts=ts0 at hact hy
    let b:Frame:={ (default:Frame) with fn:=fn,kind:=.normal,roundOf:=some e.blk }
    have hb0:Frame.round e.blk fn ts0 assign body .normal=b.atR { tmps:=ts0,defers:=[] } [.code assign,.beginRound,.code body]:=by
     simp[Frame.round,Frame.atR,b]
    have h1:∀cs,KOK P m Z w b [.beginRound,.code body] cs (lone (Frame.round e.blk fn ts0 assign body .normal) cs w) (code P H assign E (some l) fn a0 none Z):=fun cs=>by
     rw[hb0]
     exact hcode assign (some l) fn b [.beginRound,.code body] cs a0 _ none Z m w rfl hr hact rfl ⟨rfl,e,hm,rfl⟩
    cases hr1:code P H assign E (some l) fn a0 none Z with
    | no=>trivial
    | done x a1 u1 bS=>
     cases x with
     | normal=>
      simp only
      unfold beginRound
      cases hg1:bS.heap.get l with
      | none=>trivial
      | some ent1=>
       simp only
       split
       .rename_i p1 fn1 loc1 tmp1 nl1 nt1 params1 assign1 body1 d1 ho1
        cases hro1:ent1.ro with
        | true=>trivial
        | false=>
         simp only[cond_false]
         have h2:∀cs,∃m2 w2 c2,Rel Top m2 (bS.put l (.loop .busy p1 fn1 loc1 tmp1 nl1 nt1 params1 assign1 body1 d1) none) w2/\Step Z (bS.put l (.loop .busy p1 fn1 loc1 tmp1 nl1 nt1 params1 assign1 body1 d1) none) m m2 w w2/\
           bK m2 a1 c2/\St P (lone (Frame.round e.blk fn ts0 assign body .normal) cs w) (lone (b.atR c2 [.code body]) cs w2):=fun cs=>by
          have h1:=h1 cs
          rw[hr1] at h1
          obtain⟨m',w',e',c',cs',g1,g2,g3,g4,g5,g6,g7⟩:=h1
          cases g3
          have hcs:cs'=cs:=by
           rcases g6 with h|⟨h,_⟩
           .exact h
           .cases h
          subst hcs
          have hm':=g2.le _ _ hm
          obtain⟨_,hs⟩:=g1.sync l ent1 e trivial hg1 hm'
          rw[ho1] at hs
          obtain⟨ts1,ps1,de1,hw1,ht1,hp1,hd1⟩:=hs
          have hlt:e.blk<w'.heap.size:=(g1.dom _ _ hm').2
          have hbr:=run_beginRound (P:=P) hw1 rfl
          obtain⟨hR,hS⟩:=g1.putObj (.loop .busy p1 fn1 loc1 tmp1 nl1 nt1 params1 assign1 body1 d1) (.loop { state:=.busy,pending:=p1,fn:=fn1,tmps:=ts1,params:=ps1,assign:=assign1,body:=body1,defers:=de1.blk }) hg1 (by rw[ho1];rfl) hm' hro1
           ⟨ts1,ps1,de1,by simp[hlt],ht1,hp1,hd1⟩
          exact⟨m',_,c',hR,g2.trans hS,g4,StepsIn.trans g7 (.one trivial (stepR_beginRound rfl hbr))⟩
         generalize bS.put l (.loop .busy p1 fn1 loc1 tmp1 nl1 nt1 params1 assign1 body1 d1) none=a_ at h2
         have h3:∀cs,∃m2 w2,Step Z a_ m m2 w w2/\m2 l=some e/\∃start,St P (lone (Frame.round e.blk fn ts0 assign body .normal) cs w) start/\KOK P m2 a_ w2 b [] cs start (code P H body E (some l) fn a1 none a_):=fun cs=>by
          obtain⟨m2,w2,c2,hR,hS,hac,hst⟩:=h2 cs
          exact⟨m2,w2,hS,hS.le _ _ hm,_,hst,hcode body (some l) fn b [] cs a1 c2 none a_ m2 w2 rfl hR hac rfl ⟨rfl,e,hS.le _ _ hm,rfl⟩⟩
         have ends:∀(st:LoopState) (pend:Option Code) (a':aV) (u':Option FrameMode) (V:aC) (x:Exit),code P H body E (some l) fn a1 none a_=.done x a' u' V->(st=if pend.isNone then .ready else .done)->
           (∀(c:Act) (cc:Frame) (cs:List Frame) (w0 w1:World) (m':Mp) (x':Exit) (start:Machine) (v:Value),XRel m' x x'->ArrivesIn (fun _=>True) P start b [] (cc::cs) x' c w0->(Instr.endRound e.blk pend).run P w0=.ok v w1->St P start (lone (cc.finish v) cs w1))->
           RoundOK P m Z w e.blk args' (endJump l st pend pend.isNone V):=fun st pend a' u' V x hbody hst harr=>by
          unfold endJump
          cases hj:setJump V l st pend with
          | none=>trivial
          | some bZ=>
           refine⟨fn,ts0,assign,body,hy,fun cc cs=>?_⟩
           obtain⟨m2,w2,hS,hm2,start,hst0,hk⟩:=h3 (cc::cs)
           rw[hbody] at hk
           obtain⟨m',w',e',c',cs',g1,g2,g3,g4,g5,g6,g7⟩:=hk
           have hcs:cs'=cc::cs:=by
            rcases g6 with h|⟨h,_⟩
            .exact h
            .cases h
           subst hcs
           obtain⟨w'',k1,k2,k3⟩:=OA (P:=P) (g2.le _ _ hm2) g1 hst hj
           exact⟨m',w'',_,k2,(hS.trans g2).trans k3,.bool _,StepsIn.trans hst0 (harr c' cc cs w' w'' m' e' start _ g3 g7 k1)⟩
         cases hr2:code P H body E (some l) fn a1 none a_ with
         | no=>trivial
         | done x a2 u2 bT=>
          cases x with
          | normal=>
           exact ends .ready none a2 u2 bT .normal hr2 rfl fun c cc cs w0 w1 m' x' start v hx har hrun=>by
            cases hx
            exact StepsIn.trans har (.one trivial (stepR_round_end rfl rfl hrun))
          | ret=>
           exact ends .done (some .ret) a2 u2 bT .ret hr2 rfl fun c cc cs w0 w1 m' x' start v hx har hrun=>by
            cases hx
            obtain⟨k₁,hs⟩:=har.2 rfl
            exact StepsIn.trans hs (.one trivial (stepR_round_ret rfl rfl hrun))
          | exit id=>
           exact ends .done (some (.exit id)) a2 u2 bT (.exit id) hr2 rfl fun c cc cs w0 w1 m' x' start v hx har hrun=>by
            cases hx
            obtain⟨k₁,hk,hs⟩:=har.2 rfl rfl
            exact StepsIn.trans hs (.one trivial (stepR_round_exit rfl rfl hk hrun))
          | goto t=>
           exact ends .done (some (.goto t)) a2 u2 bT (.goto t) hr2 rfl fun c cc cs w0 w1 m' x' start v hx har hrun=>by
            cases hx
            obtain⟨k₁,hk,hs⟩:=har.2 rfl rfl
            exact StepsIn.trans hs (.one trivial (stepR_round_goto rfl rfl hk hrun))
          | panic ch=>
           show RoundOK P m Z w e.blk args' (cond ((P.funcs[fn]?).isSome&&a2.defers.isEmpty) (.pan ch none bT) .no)
           cases hkn:((P.funcs[fn]?).isSome&&a2.defers.isEmpty) with
           | false=>trivial
           | true=>
            simp only[Bool.and_eq_true] at hkn
            obtain⟨fu,hfu⟩:=Option.isSome_iff_exists.1 hkn.1
            have hem:a2.defers=[]:=List.isEmpty_iff.1 hkn.2
            refine⟨fn,ts0,assign,body,hy,fun cc cs=>?_⟩
            obtain⟨m2,w2,hS,hm2,start,hst0,hk⟩:=h3 (cc::cs)
            rw[hr2] at hk
            obtain⟨m',w',e',c',cs',g1,g2,g3,g4,g5,g6,g7⟩:=hk
            have hcs:cs'=cc::cs:=by
             rcases g6 with h|⟨h,_⟩
             .exact h
             .cases h
            subst hcs
            cases g3 with
            | panic hC=>
             obtain⟨todo,hs⟩:=g7
             have hd':c'.defers=[]:=by
              have:=g4.defers.1
              rw[hem] at this
              exact List.eq_nil_of_length_eq_zero this.symm
             exact⟨m',w',_,g1,hS.trans g2,hC,StepsIn.trans hst0 (StepsIn.trans hs (.one trivial (WO hfu hd')))⟩
          | outgrown=>trivial
       .trivial
     | _=>trivial
  .trivial
end
end Go.Eng
namespace Go.Eng
open Go
variable [Pins]
omit [Pins] in
theorem Adr{α:Type}(d:α)(n:Nat)(l:List α)(t:Nat):nth (aY d n l) t=if t<n then some ((l[t]?).getD d) else none:=by
 induction n generalizing l t with
 | zero=>
  have:nth (aY d 0 l) t=none:=rfl
  rw[this,if_neg (Nat.not_lt_zero t)]
 | succ n ih=>
  have hz:∀(x:α) (r:List α),nth (x::r) 0=some x:=fun _ _=>rfl
  have hs:∀(x:α) (r:List α) (j:Nat),nth (x::r) (j+1)=nth r j:=fun _ _ _=>rfl
  cases l with
  | nil=>
   have:aY d (n+1) []=d::aY d n []:=rfl
   rw[this]
   cases t with
   | zero=>simp[hz]
   | succ t=>rw[hs,ih];simp
  | cons x r=>
   have:aY d (n+1) (x::r)=x::aY d n r:=rfl
   rw[this]
   cases t with
   | zero=>simp[hz]
   | succ t=>rw[hs,ih];simp
section
variable {P:Program} {m:Mp} {Z:aC} {w:World} {E:Env}
omit [Pins] in
theorem Ef{f:FuncId}{fn:Func}{body:Code}{args:Array Value}(hf:P.funcs[f]? = some fn)(hb:fn.body=some body)(hname:(fn.name == "runtime.NumGoroutine")=false):(callFunc f args).run P w=.ok (.enter f args) w:=by
 simp only[beq_eq_false_iff_ne,ne_eq] at hname
 simp[callFunc,hf,hb,hname]
theorem Oh{f:FuncId}{args:List Value}{args':Array Value}(u:Option FrameMode)(hA:LRel m args args'.toList):CallOK P m Z w f args' u (fextern P f args u Z):=by
 unfold fextern
 cases u with
 | some md=>trivial
 | none=>
  simp only
  cases hfl:args.all flat with
  | false=>trivial
  | true=>
   simp only[cond_true]
   have hargs:args'=args.toArray:=by
    have:=hA.all_flat hfl
    rw[<-this]
   split
   .rename_i v hp
    cases hv:flat v with
    | false=>trivial
    | true=>
     have hrun:=LC hp w
     rw[<-hargs] at hrun
     exact .inl ⟨rfl,rfl,rfl,v,hrun,.of_const (by cases v<;>first|rfl|(simp[flat] at hv))⟩
   .trivial
omit [Pins] in
theorem AcX{args:List Value}{args':Array Value}{nl nt:Nat}(hA:LRel m args args'.toList)(h1:args.length<=nl)(h2:nl<=nt):
  bK m ⟨aY undef nl args,fun _=>undef,nl,nt,[]⟩ { tmps:=args'++Array.replicate (nt-args'.size) undef,defers:=[] }:=by
 have hsz:args.length=args'.size:=by simpa using hA.1
 refine⟨⟨?_,fun t=>?_⟩,.nil⟩
 .simp
  omega
 .show bE m (aV.get ⟨aY undef nl args,fun _=>undef,nl,nt,[]⟩ t) _
  unfold aV.get
  simp only
  by_cases hnl:nl<=t
  .rw[OL hnl]
   exact .unknown _
  .rw[OK hnl]
   show bE m (Option.rec (motive:=fun _=>Value) undef (fun v=>v) (nth (aY undef nl args) t)) _
   rw[Adr,if_pos (by omega)]
   show bE m ((args[t]?).getD undef) _
   cases ha:args[t]? with
   | none=>exact .unknown _
   | some v=>
    obtain⟨v',h3,h4⟩:=hA.get ha
    have h5:t<args'.size:=by
     have:=(List.getElem?_eq_some_iff.1 ha).1
     omega
    have h6:(args'++Array.replicate (nt-args'.size) undef).getD t undef=v':=by
     rw[Array.getD_eq_getD_getElem?,Array.getElem?_append_left h5]
     simp at h3
     rw[h3]
     rfl
    rw[h6]
    exact h4
theorem IR(hE:EnvOK P E){f:FuncId}{fn:Func}{args':Array Value}{u u1:Option FrameMode}{a1:aV}{bS:aC}(md:FrameMode)(hf:P.funcs[f]? = some fn)(hent:(callFunc f args').run P w=.ok (.enter f args') w)(h:∀cs,URel m u (kindOf u) cs->∃m1 w1 fr cs1,Rel Top m1 bS w1/\Step Z bS m m1 w w1/\URel m1 u1 (kindOf u) cs1/\Under (kindOf u) cs cs1/\St P (lone (Frame.enter P f args' (kindOf u)) cs w) (lone fr cs1 w1)/\fr.fn=f/\fr.kind=kindOf u/\
   MRel m1 md fr.mode/\DLRel m1 a1.defers fr.defers/\∀t,bE m1 (a1.get t) (fr.tmps.getD t undef)):
  CallOK P m Z w f args' u (fleave P E fn.results.toList a1 u1 a1.defers md bS):=by
 cases hr:fleave P E fn.results.toList a1 u1 a1.defers md bS with
 | no=>trivial
 | ret v u' V=>
  refine .inr ⟨hent,fun cs hu=>?_⟩
  obtain⟨m1,w1,fr,cs1,h1,h2,h3,h4,h5,h6,h7,h8,h9,h10⟩:=h cs hu
  have hl:=Jq hE u1 a1 a1.defers fr.defers md bS m1 w1 fr cs1 h1 h9 h8 rfl h10 (by rw[h6];exact hf)
  rw[hr] at hl
  obtain⟨rfl,m',w',v',fr',k1,k2,k3,k4,k5,k6,k7⟩:=hl
  exact⟨m',w',v',fr',cs1,k1,h2.trans k2,k3,h3.mono k2.le,h4,StepsIn.trans h5 k4,k5.trans h6,k6.trans h7,k7⟩
 | pan ch u' V=>
  refine⟨hent,fun cs hu=>?_⟩
  obtain⟨m1,w1,fr,cs1,h1,h2,h3,h4,h5,h6,h7,h8,h9,h10⟩:=h cs hu
  have hl:=Jq hE u1 a1 a1.defers fr.defers md bS m1 w1 fr cs1 h1 h9 h8 rfl h10 (by rw[h6];exact hf)
  rw[hr] at hl
  obtain⟨rfl,m',w',v',fr',k1,k2,k3,k4,k5,k6,k7⟩:=hl
  exact⟨m',w',v',fr',cs1,k1,h2.trans k2,k3,h3.mono k2.le,h4,StepsIn.trans h5 k4,k5.trans h6,k6.trans h7,k7⟩
theorem Aa3(hE:EnvOK P E)(hD:DrawOK P E)(hname:∀(f:FuncId) (fn:Func),P.funcs[f]? = some fn->(fn.name == "runtime.NumGoroutine")=false)(nls:Hints)(f:FuncId)(args:List Value)(u:Option FrameMode)(Z:aC)(m:Mp)(w:World)(args':Array Value)(hr:Rel Top m Z w)(hA:LRel m args args'.toList):CallOK P m Z w f args' u (bA P nls E f args u Z):=by
 have hcode:∀x,CodeOK P E x (code P nls x):=fun x=>K4 hE hD (WP hE) deep x
 unfold bA
 have hcfn:(cfn P nls f).un=none\/∃fn body,P.funcs[f]? = some fn/\fn.body=some body/\(cfn P nls f).un=some ⟨code P nls body,slotsOf nls f,fn.ntmps,fn.results.toList,fn.params.size+fn.nfree⟩:=by
  unfold cfn
  cases hf:P.funcs[f]? with
  | none=>exact .inl rfl
  | some fn=>
   simp only
   cases hb:fn.body with
   | none=>exact .inl rfl
   | some body=>exact .inr ⟨fn,body,rfl,hb,rfl⟩
 rcases hcfn with h|⟨fn,body,hf,hb,h⟩
 .rw[h]
  exact Oh u hA
 .rw[h]
  simp only
  cases hc:(Nat.ble (len args) (slotsOf nls f)&&Nat.ble (slotsOf nls f) fn.ntmps) with
  | false=>trivial
  | true=>
   simp only[cond_true]
   simp only[Bool.and_eq_true,Nat.ble_eq,EC] at hc
   have hact:=AcX hA hc.1 hc.2
   have hent:=Ef (P:=P) (w:=w) (args:=args') hf hb (hname f fn hf)
   let b:Frame:={ (default:Frame) with fn:=f,kind:=kindOf u,roundOf:=none }
   have henter:Frame.enter P f args' (kindOf u)=b.atR { tmps:=args'++Array.replicate (fn.ntmps-args'.size) undef,defers:=[] } [.code body]:=by
    simp[Frame.enter,Frame.atR,hf,hb,b]
   generalize (⟨aY undef (slotsOf nls f) args,fun _=>undef,slotsOf nls f,fn.ntmps,[]⟩:aV)=a0 at hact ⊢
   have hk:∀cs,URel m u (kindOf u) cs->KOK P m Z w b [] cs (lone (Frame.enter P f args' (kindOf u)) cs w) (code P nls body E none f a0 u Z):=fun cs hu=>by
    rw[henter]
    exact hcode body none f b [] cs a0 _ u Z m w rfl hr hact hu rfl
   cases hr1:code P nls body E none f a0 u Z with
   | no=>trivial
   | done x a1 u1 bS=>
    rw[hr1] at hk
    cases x with
    | normal=>
     refine IR hE .returning hf hent fun cs hu=>?_
     obtain⟨m',w',e',c',cs',g1,g2,g3,g4,g5,g6,g7⟩:=hk cs hu
     cases g3
     exact⟨m',w',{ b.atR c' [] with mode:=.returning },cs',g1,g2,g5,g6,StepsIn.trans g7 (.one trivial (stepR_end rfl)),rfl,rfl,.returning,g4.defers,g4.get⟩
    | ret=>
     refine IR hE .returning hf hent fun cs hu=>?_
     obtain⟨m',w',e',c',cs',g1,g2,g3,g4,g5,g6,g7⟩:=hk cs hu
     cases g3
     obtain⟨todo,hs⟩:=g7.1 rfl
     exact⟨m',w',{ b.atR c' todo with mode:=.returning },cs',g1,g2,g5,g6,hs,rfl,rfl,.returning,g4.defers,g4.get⟩
    | panic ch=>
     refine IR hE (.panicking ch) hf hent fun cs hu=>?_
     obtain⟨m',w',e',c',cs',g1,g2,g3,g4,g5,g6,g7⟩:=hk cs hu
     cases g3 with
     | panic hC=>
      obtain⟨todo,hs⟩:=g7
      exact⟨m',w',{ b.atR c' todo with mode:=.panicking _ },cs',g1,g2,g5,g6,hs,rfl,rfl,.panicking hC,g4.defers,g4.get⟩
    | exit id=>trivial
    | goto l=>trivial
    | outgrown=>trivial
def SumOK(P:Program)(S:Sums):Prop:=∀(f:FuncId) (args:List Value) (Z:aC) (r:CRes) (m:Mp) (w:World) (args':Array Value),S f args Z=some r->Rel Top m Z w->LRel m args args'.toList->CallOK P m Z w f args' none r
theorem AfZ{S:Sums}(hS:SumOK P S)(hD:∀E,EnvOK P E->DrawOK P E)(hname:∀(f:FuncId) (fn:Func),P.funcs[f]? = some fn->(fn.name == "runtime.NumGoroutine")=false)(nls:Hints):∀n,EnvOK P (fenv P S nls n)
 | 0=>⟨fun _ _ _ _ _ _ _ _ _ _=>trivial,fun _ _ _ _ _ _ _ _ _ _=>trivial⟩
 | n+1=>have h:=AfZ hS hD hname nls n
  ⟨fun f args u Z m w args' hr hA _=>by
   have key:=fun u=>Aa3 h (hD _ h) hname nls f args u Z m w args' hr hA
   cases u with
   | some md=>exact key (some md)
   | none=>
    show CallOK P m Z w f args' none (match S f args Z with
     | some r=>r
     | none=>bA P nls (fenv P S nls n) f args none Z)
    cases hs:S f args Z with
    | none=>exact key none
    | some r=>exact hS f args Z r m w args' hs hr hA,fun l args Z m w args' e hr hA hm=>Am9 h (hD _ h) l args Z m w args' e hr hA hm⟩
end
end Go.Eng
namespace Go.Eng
open Go
variable [Pins]
def Mp.cut(m:Mp)(x:Nat):Mp:=fun b=>if b<x then m b else none
omit [Pins] in
theorem Mp.cut_some{m:Mp}{x b:Nat}{e:MEnt}:m.cut x b=some e↔b<x/\m b=some e:=by
 unfold Mp.cut
 by_cases h:b<x
 .simp[h]
 .simp[h]
omit [Pins] in
theorem Mp.cut_mono{m m':Mp}{x y:Nat}(hxy:x<=y)(h:∀b e,b<x->m b=some e->m' b=some e):(m.cut x).le (m'.cut y):=fun b e hb=>by
 rw[Mp.cut_some] at hb ⊢
 exact⟨by omega,h b e hb.1 hb.2⟩
omit [Pins] in
theorem Mp.cut_eq{m:Mp}{x:Nat}(h:∀b e,m b=some e->b<x):m.cut x=m:=by
 funext b
 unfold Mp.cut
 by_cases hb:b<x
 .rw[if_pos hb]
 .rw[if_neg hb]
  cases hm:m b with
  | none=>rfl
  | some e=>exact absurd (h b e hm) hb
def Mp.upd(m:Mp)(b:Nat)(eo:Option MEnt):Mp:=fun k=>if k=b then eo else m k
structure FStep (Z V:aC):Prop where
 next:Z.next<=V.next
 clock:Z.clock<=V.clock
 ver:∀b ent,V.heap.get b=some ent->Z.heap.get b=some ent\/Z.clock<=ent.ver
omit [Pins] in
theorem FStep.refl(Z:aC):FStep Z Z:=⟨Nat.le_refl _,Nat.le_refl _,fun _ _ h=>.inl h⟩
omit [Pins] in
theorem FStep.trans{Z bV b_:aC}(h:FStep Z bV)(k:FStep bV b_):FStep Z b_:=
 ⟨Nat.le_trans h.next k.next,Nat.le_trans h.clock k.clock,fun b ent hb=>by
  rcases k.ver b ent hb with h1|h1
  .exact h.ver b ent h1
  .exact .inr (Nat.le_trans h.clock h1)⟩
omit [Pins] in
theorem Step.fstep{Z V:aC}{m m':Mp}{w w':World}(h:Step Z V m m' w w'):FStep Z V:=⟨h.next,h.clock,h.ver⟩
omit [Pins] in
theorem Aj(Z:aC)(o:FObj)(fz:Option Nat)(b:Nat):(Z.push o fz).heap.get b=if b=Z.next then some ⟨o,false,fz,Z.clock⟩ else Z.heap.get b:=Tr.get_set _ _ _ _
omit [Pins] in
theorem FStep.push(Z:aC)(o:FObj)(fz:Option Nat):FStep Z (Z.push o fz):=
 ⟨Nat.le_succ _,Nat.le_succ _,fun b ent hb=>by
  rw[Aj] at hb
  by_cases h:b=Z.next
  .rw[if_pos h] at hb
   cases hb
   exact .inr (Nat.le_refl _)
  .rw[if_neg h] at hb
   exact .inl hb⟩
section
variable {P:Program} {Z:aC} {w:World} {M:Mp}
theorem XD{lam:Nat}(hlam:lam<=Z.clock)(hr:Rel Top M (view Z lam) w){s:Sem Next}{r:ORes}{v:Value}{V bS:aC}(hs:Stays (view Z lam) r)(hO:bD P M (view Z lam) w s r)(hv:r=.val v V)(hg:regrow Z V=some bS):
  ∃w' v',s.run P w=.ok (.value v') w'/\(∀j,j<w.heap.size->w'.heap[j]? = w.heap[j]?)/\w.heap.size<=w'.heap.size/\w'.os=w.os/\w'.tape=w.tape/\w'.output=w.output/\
   ((bS=Z/\bE M v v')\/∃o fz eo,bS=Z.push o fz/\bE (M.upd Z.next eo) v v'/\∀e,eo=some e->e.ro=false/\w.heap.size<=e.blk/\e.blk<w'.heap.size/\Sync (M.upd Z.next eo) o fz e w'):=by
 subst hv
 obtain⟨m',w',v',hrun,hR,hS,hV⟩:=hO
 have hnx:(view Z lam).next=Z.next:=rfl
 have hck:(view Z lam).clock=Z.clock:=rfl
 refine⟨w',v',hrun,?_,hS.size,hS.os,hS.tape,hS.output,?_⟩
 .intro j hj
  refine hS.keep j hj fun b e ent hm _ _ hget=>?_
  have hb:b<Z.next:=(hr.dom b e hm).1
  have hget':(view Z lam).heap.get b=some ent:=by
   rcases hs v V rfl with h|⟨o,fz,h⟩
   .rw[h] at hget
    exact hget
   .rw[h,Aj,if_neg (by rw[hnx];omega)] at hget
    exact hget
  have:=(K3 hget').2
  rw[hck]
  omega
 .rcases hs v V rfl with h|⟨o,fz,h⟩
  .left
   subst h
   have h1:regrow Z (view Z lam)=some Z:=by
    unfold regrow
    rw[hnx,IC]
    rfl
   rw[h1] at hg
   cases hg
   refine⟨rfl,hV.mono fun b e hb=>?_⟩
   rcases hS.fresh b e hb with h2|⟨_,h2,_,_⟩
   .exact h2
   .have:=(hR.dom b e hb).1
    omega
  .right
   subst h
   have hget:((view Z lam).push o fz).heap.get Z.next=some ⟨o,false,fz,Z.clock⟩:=by
    rw[Aj,if_pos hnx.symm]
    rfl
   have hn1:((view Z lam).push o fz).next=Z.next+1:=rfl
   have h1:regrow Z ((view Z lam).push o fz)=some (Z.push o fz):=by
    unfold regrow
    rw[hn1,Jb (by omega)]
    show (match ((view Z lam).push o fz).heap.get Z.next with|some ent=>some (Z.push ent.obj ent.fz)|none=>none)=_
    rw[hget]
   rw[h1] at hg
   cases hg
   have hle:m'.le (M.upd Z.next (m' Z.next)):=fun b e hb=>by
    unfold Mp.upd
    by_cases hbn:b=Z.next
    .rw[if_pos hbn,<-hbn]
     exact hb
    .rw[if_neg hbn]
     rcases hS.fresh b e hb with h2|⟨_,h2,_,_⟩
     .exact h2
     .have:=(hR.dom b e hb).1
      rw[hn1] at this
      rw[hnx] at h2
      omega
   refine⟨o,fz,m' Z.next,rfl,hV.mono hle,fun e he=>?_⟩
   obtain⟨h2,h3⟩:=hR.sync Z.next _ e trivial hget he
   have h4:=hR.dom _ _ he
   have hfr:e.ro=false/\w.heap.size<=e.blk:=by
    rcases hS.fresh _ e he with h5|⟨_,_,h6,h7⟩
    .have:=(hr.dom _ _ h5).1
     rw[hnx] at this
     omega
    .refine⟨h6,?_⟩
     rcases h7 with h7|⟨b0,e0,ent0,g1,_,_,g4,g5⟩
     .exact h7
     .have hb0:=(hr.dom _ _ g1).1
      rw[hnx] at hb0
      rw[Aj,if_neg (by rw[hnx];omega)] at g4
      have:=(K3 g4).2
      rw[hck] at g5
      omega
   exact⟨hfr.1,hfr.2,h4.2,h3.keep hle rfl⟩
end
def poison(l:List Nat)(a:aV)(ds:List Deferred):aV:=⟨[],fun t=>if t∈l then a.get t else undef,0,a.nt,ds⟩
omit [Pins] in
theorem I2(l:List Nat)(a:aV)(ds:List Deferred)(t:Nat):(poison l a ds).get t=if t∈l then a.get t else undef:=rfl
omit [Pins] in
theorem Vz{l:List Nat}{a:aV}{ds:List Deferred}{x:Operand}(h:∀t,x=.tmp t->t∈l):(cget x).un a=(cget x).un (poison l a ds):=by
 cases x with
 | tmp t=>
  show a.get t=(poison l a ds).get t
  rw[I2,if_pos (h t rfl)]
 | const v=>
  show (Bool.rec (motive:=fun _=>Bx (aV->Value)) ⟨fun _=>undef⟩ ⟨fun _=>v⟩ (okConst v):Bx (aV->Value)).un a=(Bool.rec (motive:=fun _=>Bx (aV->Value)) ⟨fun _=>undef⟩ ⟨fun _=>v⟩ (okConst v):Bx (aV->Value)).un _
  cases okConst v<;>rfl
 | global g=>rfl
 | func f=>rfl
omit [Pins] in
theorem Agj{ops:Array Oper}{o:Oper}{x:Operand}(hx:x∈o.op.operands)(t:Nat)(h:x=.tmp t):t∈o.looksAt ops:=by
 subst h
 unfold Oper.looksAt
 refine List.mem_append_left _ ?_
 rw[List.mem_filterMap]
 exact⟨.tmp t,by simpa using hx,rfl⟩
omit [Pins] in
theorem Vp{ops:Array Oper}{o:Oper}{j:Nat}{want:Bool}{d:Tmp}(hg:o.guard=some (j,want))(hd:(ops[j]?).bind (·.dst)=some d):d∈o.looksAt ops:=by
 unfold Oper.looksAt
 refine List.mem_append_right _ ?_
 rw[hg]
 simp[hd]
omit [Pins] in
theorem FN(P:Program){ops:Array Oper}(o:Oper)(a:aV)(ds:List Deferred)(Z:aC):(cop P o.op).un a Z=(cop P o.op).un (poison (o.looksAt ops) a ds) Z:=
 AcQ o.op (fun _ hx=>Vz fun t ht=>Agj hx t ht) Z
omit [Pins] in
theorem Na(a:aV)(dst:Option Tmp)(v:Value):(a.put dst v).nt=a.nt/\(a.put dst v).defers=a.defers:=by
 cases dst with
 | none=>exact⟨rfl,rfl⟩
 | some d=>
  show (Bool.rec (motive:=fun _=>aV) a (a.putT d v) (Nat.blt d a.nt):aV).nt=a.nt/\(Bool.rec (motive:=fun _=>aV) a (a.putT d v) (Nat.blt d a.nt):aV).defers=a.defers
  cases Nat.blt d a.nt with
  | false=>exact⟨rfl,rfl⟩
  | true=>
   show (a.putT d v).nt=a.nt/\(a.putT d v).defers=a.defers
   unfold aV.putT
   cases Nat.ble a.nl d<;>exact⟨rfl,rfl⟩
omit [Pins] in
theorem Yg(a:aV){dst:Option Tmp}{v:Value}{t:Nat}(h:¬ (dst=some t/\t<a.nt)):(a.put dst v).get t=a.get t:=by
 cases dst with
 | none=>rfl
 | some d=>
  show (Bool.rec (motive:=fun _=>aV) a (a.putT d v) (Nat.blt d a.nt):aV).get t=a.get t
  by_cases hd:d<a.nt
  .rw[Mo hd]
   show (a.putT d v).get t=a.get t
   rw[Jr,if_neg]
   intro htd
   subst htd
   exact h ⟨rfl,hd⟩
  .rw[Mn hd]
omit [Pins] in
theorem M_(a:aV){d:Tmp}{v:Value}(hd:d<a.nt):(a.put (some d) v).get d=v\/(a.put (some d) v).get d=undef:=by
 show (Bool.rec (motive:=fun _=>aV) a (a.putT d v) (Nat.blt d a.nt):aV).get d=v\/(Bool.rec (motive:=fun _=>aV) a (a.putT d v) (Nat.blt d a.nt):aV).get d=undef
 rw[Mo hd]
 show (a.putT d v).get d=v\/(a.putT d v).get d=undef
 rw[Jr,if_pos rfl]
 by_cases h:a.nl<=d\/d<a.loc.length
 .rw[if_pos h];exact .inl rfl
 .rw[if_neg h];exact .inr rfl
omit [Pins] in
theorem HL(c:Act)(dst:Option Tmp)(v:Value):(c.put dst v).tmps.size=c.tmps.size/\(c.put dst v).defers=c.defers:=by
 cases dst with
 | none=>exact⟨rfl,rfl⟩
 | some d=>exact⟨by simp[Act.put],rfl⟩
omit [Pins] in
theorem Aa6(c:Act){dst:Option Tmp}{v:Value}{t:Nat}(h:¬ (dst=some t/\t<c.tmps.size)):(c.put dst v).tmps.getD t undef=c.tmps.getD t undef:=by
 cases dst with
 | none=>rfl
 | some d=>
  show (c.tmps.setIfInBounds d v).getD t undef=c.tmps.getD t undef
  by_cases htd:t=d
  .subst htd
   rw[Array.setIfInBounds_eq_of_size_le]
   exact Nat.le_of_not_lt fun hlt=>h ⟨rfl,hlt⟩
  .rw[Array.getD_eq_getD_getElem?,Array.getElem?_setIfInBounds_ne (fun x=>htd x.symm),<-Array.getD_eq_getD_getElem?]
omit [Pins] in
theorem Aa5(c:Act){d:Tmp}{v:Value}(hd:d<c.tmps.size):(c.put (some d) v).tmps.getD d undef=v:=by
 show (c.tmps.setIfInBounds d v).getD d undef=v
 rw[Array.getD_eq_getD_getElem?,Array.getElem?_setIfInBounds_self_of_lt hd]
 rfl
end Go.Eng
namespace Go.Eng
open Go
variable [Pins]
structure TS where
 a:aV
 u:Option FrameMode
 Z:aC
 cl:List Nat
inductive StepT (P:Program) (E:Env) (ro:Option Nat) (ops:Array Oper) (o:Oper) (f:Option Nat) (t t':TS):Prop
 | askip (hf:f=none) (hg:(cguard ops o.guard).un t.a=some false) (ht:t'=⟨t.a.put o.dst skipV,t.u,t.Z,t.cl++[t.Z.clock]⟩)
 | anch (hf:f=none) (hg:(cguard ops o.guard).un t.a=some true) (h:stepOp E ro o.dst t.a t.u ((cop P o.op).un t.a t.Z)=.done .normal t'.a t'.u t'.Z) (hc:t'.cl=t.cl++[t'.Z.clock])
 | fskip (q:Nat) (hf:f=some q) (hg:(cguard ops o.guard).un t.a=some false) (ht:t'=⟨t.a.put o.dst skipV,t.u,t.Z,t.cl⟩)
 | float (q lam:Nat) (v:Value) (V:aC) (hf:f=some q) (hg:(cguard ops o.guard).un t.a=some true) (hl:nth t.cl q=some lam) (h:(cop P o.op).un t.a (view t.Z lam)=.val v V) (hr:regrow t.Z V=some t'.Z)
   (ha:t'.a=t.a.put o.dst v) (hu:t'.u=t.u) (hc:t'.cl=t.cl)
omit [Pins] in
theorem AaQ{E:Env}{ro:Option Nat}{dst:Option Tmp}{a a':aV}{u u':Option FrameMode}{r:ORes}{V:aC}(h:stepOp E ro dst a u r=.done .normal a' u' V):
  ∃v ds,a'=(⟨a.loc,a.tmp,a.nl,a.nt,ds++a.defers⟩:aV).put dst v:=by
 unfold stepOp at h
 have hcall:∀r,afterCall a dst u (fun a u Z=>.done .normal a u Z) r=.done .normal a' u' V->∃v ds,a'=(⟨a.loc,a.tmp,a.nl,a.nt,ds++a.defers⟩:aV).put dst v:=fun r hr=>by
  cases r with
  | no=>cases hr
  | ret v w s=>cases hr;exact⟨v,[],rfl⟩
  | pan ch w s=>cases hr
 cases r with
 | no=>cases h
 | val v s=>cases h;exact⟨v,[],rfl⟩
 | skip s=>cases h;exact⟨undef,[],rfl⟩
 | panic v s=>cases h
 | enter f args s=>exact hcall _ h
 | yield l args s=>exact hcall _ h
 | defer d s=>cases ro with
  | none=>cases h;exact⟨undef,[d],rfl⟩
  | some l=>cases h
 | recover s=>cases ro with
  | some l=>cases h
  | none=>
   have h':frecover dst a u s (fun a u Z=>.done .normal a u Z)=.done .normal a' u' V:=h
   unfold frecover at h'
   split at h'<;>(cases h';exact⟨_,[],rfl⟩)
structure Pl (ops:Array Oper) where
 N:Nat
 ix:Nat->Nat
 op:Nat->Oper
 flt:Nat->Option Nat
 hop:∀k,k<N->ops[ix k]? = some (op k)
 inj:∀j,j<N->∀k,k<N->ix j=ix k->j=k
 all:∀i,i<ops.size->∃k,k<N/\ix k=i
 bind:∀k,k<N->∀e∈(op k).after,Region.binds .any e=true->∃j,j<k/\ix j=e.on
 isf:∀k,k<N->(flt k).isSome=true->isFlt (op k).op=true
 dst:∀j,j<N->∀k,k<N->∀t,(op j).dst=some t->(op k).dst=some t->j=k
namespace Pl
variable {ops:Array Oper} (pl:Pl ops)
def Cl(D:Nat->Prop):Prop:=∀k,k<pl.N->D k->∀e∈(pl.op k).after,Region.binds .any e=true->∀j,j<pl.N->pl.ix j=e.on->D j
def Needs(k j:Nat):Prop:=∀D,pl.Cl D->D k->D j
structure Ok (pl:Pl ops):Prop where
 looks:∀k,k<pl.N->∀t,t∈(pl.op k).looksAt ops->∀j,j<pl.N->(pl.op j).dst=some t->j=k\/pl.Needs k j\/pl.Needs j k
variable {pl}
omit [Pins] in
theorem needs_le{k j:Nat}(hk:k<pl.N)(hj:j<pl.N)(h:pl.Needs k j):j<=k:=by
 refine h (fun i=>i<=k) (fun i hi hik e he hb j' hj' heq=>?_) (Nat.le_refl _)
 obtain⟨j2,h1,h2⟩:=pl.bind i hi e he hb
 have:=pl.inj j' hj' j2 (by omega) (by rw[heq,h2])
 omega
def Ready(pl:Pl ops)(D:Nat->Prop)(k:Nat):Prop:=∀e∈(pl.op k).after,Region.binds .any e=true->∀j,j<pl.N->pl.ix j=e.on->D j
def ins(D:Nat->Prop)(k:Nat):Nat->Prop:=fun i=>i=k\/D i
omit [Pins] in
theorem cl_ins{D:Nat->Prop}{k:Nat}(hD:pl.Cl D)(hr:pl.Ready D k):pl.Cl (ins D k):=fun i hi hd e he hb j hj heq=>by
 rcases hd with rfl|hd
 .exact .inr (hr e he hb j hj heq)
 .exact .inr (hD i hi hd e he hb j hj heq)
omit [Pins] in
theorem needs_ready{D:Nat->Prop}{k j:Nat}(hD:pl.Cl D)(hr:pl.Ready D k)(h:pl.Needs k j):j=k\/D j:=h _ (cl_ins hD hr) (.inl rfl)
end Pl
structure Tr' (P:Program) (E:Env) (ro:Option Nat) {ops:Array Oper} (pl:Pl ops) (T:Nat->TS) (Np:Nat):Prop where
 le:Np<=pl.N
 st:∀k,k<Np->StepT P E ro ops (pl.op k) (pl.flt k) (T k) (T (k+1))
 lam:∀k,k<Np->∀q lam,pl.flt k=some q->nth (T k).cl q=some lam->lam=(T 0).Z.clock\/∃j,j<k/\pl.flt j=none/\pl.Needs k j/\lam=(T (j+1)).Z.clock
section
variable {P:Program} {E:Env} {ro:Option Nat} {ops:Array Oper} {pl:Pl ops} {T:Nat->TS} {Np:Nat}
omit [Pins] in
theorem StepT.act{o:Oper}{f:Option Nat}{t t':TS}(h:StepT P E ro ops o f t t'):∃v ds,t'.a=(⟨t.a.loc,t.a.tmp,t.a.nl,t.a.nt,ds++t.a.defers⟩:aV).put o.dst v/\(f.isSome=true->ds=[]):=by
 cases h with
 | askip hf hg ht=>subst ht;exact⟨skipV,[],rfl,fun _=>rfl⟩
 | anch hf hg h hc=>
  obtain⟨v,ds,h1⟩:=AaQ h
  exact⟨v,ds,h1,fun h2=>(by rw[hf] at h2;cases h2)⟩
 | fskip q hf hg ht=>subst ht;exact⟨skipV,[],rfl,fun _=>rfl⟩
 | float q lam v V hf hg hl h hr ha hu hc=>exact⟨v,[],ha,fun _=>rfl⟩
omit [Pins] in
theorem StepT.nt{o:Oper}{f:Option Nat}{t t':TS}(h:StepT P E ro ops o f t t'):t'.a.nt=t.a.nt:=by
 obtain⟨v,ds,h1,_⟩:=h.act
 rw[h1,(Na _ _ _).1]
omit [Pins] in
theorem StepT.get{o:Oper}{f:Option Nat}{t t':TS}(h:StepT P E ro ops o f t t'){x:Nat}(hx:¬ (o.dst=some x/\x<t.a.nt)):t'.a.get x=t.a.get x:=by
 obtain⟨v,ds,h1,_⟩:=h.act
 rw[h1,Yg _ (by exact hx)]
 rfl
omit [Pins] in
theorem Tr'.nt(h:Tr' P E ro pl T Np):∀k,k<=Np->(T k).a.nt=(T 0).a.nt
 | 0,_=>rfl
 | k+1,hk=>((h.st k (by omega)).nt).trans (Tr'.nt h k (by omega))
def Wr(pl:Pl ops)(T:Nat->TS)(k t:Nat):Prop:=(pl.op k).dst=some t/\t<(T 0).a.nt
omit [Pins] in
theorem Tr'.get(h:Tr' P E ro pl T Np){i j t:Nat}(hij:i<=j)(hj:j<=Np)(hn:∀k,i<=k->k<j->¬ Wr pl T k t):(T j).a.get t=(T i).a.get t:=by
 induction j with
 | zero=>
  have:i=0:=by omega
  rw[this]
 | succ j ih=>
  by_cases hi:i=j+1
  .rw[hi]
  .rw[(h.st j (by omega)).get (by rw[h.nt j (by omega)];exact hn j (by omega) (by omega))]
   exact ih (by omega) (by omega) fun k hk hkj=>hn k hk (by omega)
omit [Pins] in
theorem Wr.uniq{k k' t:Nat}(hk:k<pl.N)(hk':k'<pl.N)(h:Wr pl T k t)(h':Wr pl T k' t):k=k':=pl.dst k hk k' hk' t h.1 h'.1
omit [Pins] in
theorem StepT.flt{o:Oper}{f:Option Nat}{t t':TS}(h:StepT P E ro ops o f t t')(hf:f.isSome=true)(hi:isFlt o.op=true):t'.u=t.u/\t'.a.defers=t.a.defers/\(t'.Z=t.Z\/∃ob fz,t'.Z=t.Z.push ob fz):=by
 have hd:t'.a.defers=t.a.defers:=by
  obtain⟨v,ds,h1,h2⟩:=h.act
  rw[h1,(Na _ _ _).2,h2 hf]
  rfl
 cases h with
 | askip hf' hg ht=>rw[hf'] at hf;cases hf
 | anch hf' hg h hc=>rw[hf'] at hf;cases hf
 | fskip q hf hg ht=>subst ht;exact⟨rfl,hd,.inl rfl⟩
 | float q lam v V hf hg hl h hr ha hu hc=>
  refine⟨hu,hd,?_⟩
  have hs:=OX (P:=P) (Z:=view t.Z lam) o.op hi t.a v V h
  have hnx:(view t.Z lam).next=t.Z.next:=rfl
  rcases hs with h1|⟨ob,fz,h1⟩
  .subst h1
   have h2:regrow t.Z (view t.Z lam)=some t.Z:=by
    unfold regrow
    rw[hnx,IC]
    rfl
   rw[h2] at hr
   simp only[Option.some.injEq] at hr
   exact .inl hr.symm
  .subst h1
   have hget:((view t.Z lam).push ob fz).heap.get t.Z.next=some ⟨ob,false,fz,t.Z.clock⟩:=by
    rw[Aj,if_pos hnx.symm]
    rfl
   have hn1:((view t.Z lam).push ob fz).next=t.Z.next+1:=rfl
   have h2:regrow t.Z ((view t.Z lam).push ob fz)=some (t.Z.push ob fz):=by
    unfold regrow
    rw[hn1,Jb (by omega)]
    show (match ((view t.Z lam).push ob fz).heap.get t.Z.next with|some ent=>some (t.Z.push ent.obj ent.fz)|none=>none)=_
    rw[hget]
   rw[h2] at hr
   simp only[Option.some.injEq] at hr
   exact .inr ⟨ob,fz,hr.symm⟩
def Mono(T:Nat->TS)(K:Nat):Prop:=∀i j,i<=j->j<=K->FStep (T i).Z (T j).Z
omit [Pins] in
theorem Mono.le{K K':Nat}(h:Mono T K)(hk:K'<=K):Mono T K':=fun i j a b=>h i j a (by omega)
omit [Pins] in
theorem Mono.zero:Mono T 0:=fun i j a b=>by
 have:i=j:=by omega
 rw[this]
 exact .refl _
omit [Pins] in
theorem Mono.succ{K:Nat}(h:Mono T K)(hs:FStep (T K).Z (T (K+1)).Z):Mono T (K+1):=fun i j a b=>by
 by_cases hj:j<=K
 .exact h i j a hj
 .have hjk:j=K+1:=by omega
  subst hjk
  by_cases hi:i=K+1
  .rw[hi];exact .refl _
  .exact(h i K (by omega) (by omega)).trans hs
structure Inv (pl:Pl ops) (T:Nat->TS) (Np:Nat) (kind:CallKind) (cs0:List Frame) (m0:Mp) (w0:World) (D:Nat->Prop) (s:Nat) (m:Mp) (c:Act) (w:World) (cs:List Frame):Prop where
 sN:s<=Np
 dN:∀k,D k->k<Np
 low:∀k,k<s->D k
 high:∀k,D k->s<=k->(pl.flt k).isSome=true
 cl:pl.Cl D
 rel:Rel Top (m.cut (T s).Z.next) (T s).Z w
 step:Step (T 0).Z (T s).Z m0 (m.cut (T s).Z.next) w0 w
 fl:∀k,D k->s<=k->(T k).Z.next<(T (k+1)).Z.next->∀e,m (T k).Z.next=some e->e.ro=false/\w0.heap.size<=e.blk/\e.blk<w.heap.size/\
  (∀ent,(T (k+1)).Z.heap.get (T k).Z.next=some ent->ent.ro=false/\Sync (m.cut (T (k+1)).Z.next) ent.obj ent.fz e w)/\∀b e',b≠(T k).Z.next->m b=some e'->e'.blk≠e.blk
 dom:∀b e,m b=some e->b<(T s).Z.next\/∃k,D k/\s<=k/\b=(T k).Z.next/\(T k).Z.next<(T (k+1)).Z.next
 slot:∀t,(∃k,D k/\Wr pl T k t/\bE (m.cut (T (k+1)).Z.next) ((T (k+1)).a.get t) (c.tmps.getD t undef))\/((∀k,D k->¬ Wr pl T k t)/\bE (m.cut (T 0).Z.next) ((T 0).a.get t) (c.tmps.getD t undef))
 size:c.tmps.size=(T 0).a.nt
 defers:DLRel (m.cut (T s).Z.next) (T s).a.defers c.defers
 urel:URel (m.cut (T s).Z.next) (T s).u kind cs
 under:Under kind cs0 cs
 start:∀b e,m0 b=some e->b<(T 0).Z.next
 pin0:∀x o,Pins.on x o->x<w0.heap.size
theorem Inv.le0{kind:CallKind}{cs0:List Frame}{m0:Mp}{w0:World}{D:Nat->Prop}{s:Nat}{m:Mp}{c:Act}{w:World}{cs:List Frame}(h:Inv pl T Np kind cs0 m0 w0 D s m c w cs)(x:Nat)(hx:(T 0).Z.next<=x):m0.le (m.cut x):=fun b e hb=>by
 have h1:=h.step.le b e hb
 rw[Mp.cut_some] at h1 ⊢
 have:=h.start b e hb
 exact⟨by omega,h1.2⟩
theorem Inv.absorb{kind:CallKind}{cs0:List Frame}{m0:Mp}{w0:World}{D:Nat->Prop}{s:Nat}{m:Mp}{c:Act}{w:World}{cs:List Frame}(hT:Tr' P E ro pl T Np)(hM:Mono T s)(h:Inv pl T Np kind cs0 m0 w0 D s m c w cs)(hs:D s):
  Inv pl T Np kind cs0 m0 w0 D (s+1) m c w cs:=by
 have hsN:=h.dN s hs
 have hle:=hT.le
 have hf:=h.high s hs (Nat.le_refl _)
 obtain⟨hu,hd,hσ⟩:=(hT.st s hsN).flt hf (pl.isf s (by omega) hf)
 have h0s:=hM 0 s (Nat.zero_le _) (Nat.le_refl _)
 have hnx:(T s).Z.next<=(T (s+1)).Z.next:=by
  rcases hσ with h1|⟨ob,fz,h1⟩
  .rw[h1];exact Nat.le_refl _
  .rw[h1];exact Nat.le_succ _
 have hcut:(m.cut (T s).Z.next).le (m.cut (T (s+1)).Z.next):=Mp.cut_mono hnx fun _ _ _ x=>x
 have hnew:∀b e,(m.cut (T (s+1)).Z.next) b=some e->(m.cut (T s).Z.next) b=some e\/(b=(T s).Z.next/\m b=some e/\(T s).Z.next<(T (s+1)).Z.next):=fun b e hb=>by
  rw[Mp.cut_some] at hb
  by_cases hlt:b<(T s).Z.next
  .exact .inl (Mp.cut_some.2 ⟨hlt,hb.2⟩)
  .right
   rcases hσ with h1|⟨ob,fz,h1⟩
   .rw[h1] at hb
    omega
   .have:(T (s+1)).Z.next=(T s).Z.next+1:=by rw[h1];rfl
    exact⟨by omega,hb.2,by omega⟩
 have hget:∀b,b≠(T s).Z.next->(T (s+1)).Z.heap.get b=(T s).Z.heap.get b:=fun b hb=>by
  rcases hσ with h1|⟨ob,fz,h1⟩
  .rw[h1]
  .rw[h1,Aj,if_neg hb]
 have hgetn:∀ent,(T (s+1)).Z.heap.get (T s).Z.next=some ent->ent.ver=(T s).Z.clock:=fun ent hg=>by
  rcases hσ with h1|⟨ob,fz,h1⟩
  .rw[h1] at hg
   have:=h.rel.wf _ _ hg
   omega
  .rw[h1,Aj,if_pos rfl] at hg
   cases hg
   rfl
 refine⟨hsN,h.dN,fun k hk=>?_,fun k hk hks=>h.high k hk (by omega),h.cl,?_,?_,fun k hk hks=>h.fl k hk (by omega),fun b e hb=>?_,h.slot,h.size,by rw[hd];exact h.defers.mono hcut,by rw[hu];exact h.urel.mono hcut,h.under,h.start,h.pin0⟩
 .by_cases hks:k=s
  .subst hks;exact hs
  .exact h.low k (by omega)
 .refine⟨fun b ent e _ hb hm=>?_,fun b b' ent ent' e e' hne hb hb' ha ha' hm hm'=>?_,fun b e hm=>?_,fun b ent hb=>?_,fun x o hx=>⟨(h.rel.pin x o hx).1,fun b e hm hr1=>?_⟩⟩
  .rcases hnew b e hm with h1|⟨rfl,h1,h2⟩
   .have hbn:b≠(T s).Z.next:=by
     rw[Mp.cut_some] at h1
     omega
    rw[hget b hbn] at hb
    obtain⟨h3,h4⟩:=h.rel.sync b ent e trivial hb h1
    exact⟨h3,h4.keep hcut rfl⟩
   .obtain⟨g1,g2,g3,g4,g5⟩:=h.fl s hs (Nat.le_refl _) h2 e h1
    obtain⟨g6,g7⟩:=g4 ent hb
    exact⟨by rw[g6,g1],g7⟩
  .rcases hnew b e hm with h1|⟨rfl,h1,h2⟩
   .rcases hnew b' e' hm' with h1'|⟨rfl,h1',h2'⟩
    .have hbn:b≠(T s).Z.next:=by
      rw[Mp.cut_some] at h1
      omega
     have hbn':b'≠(T s).Z.next:=by
      rw[Mp.cut_some] at h1'
      omega
     rw[hget b hbn] at hb
     rw[hget b' hbn'] at hb'
     exact h.rel.inj b b' ent ent' e e' hne hb hb' ha ha' h1 h1'
    .obtain⟨g1,g2,g3,g4,g5⟩:=h.fl s hs (Nat.le_refl _) h2' e' h1'
     exact g5 b e hne (Mp.cut_some.1 h1).2
   .obtain⟨g1,g2,g3,g4,g5⟩:=h.fl s hs (Nat.le_refl _) h2 e h1
    have:=g5 b' e' (fun x=>hne x.symm) (Mp.cut_some.1 hm').2
    exact fun x=>this x.symm
  .rcases hnew b e hm with h1|⟨rfl,h1,h2⟩
   .have:=h.rel.dom b e h1
    exact⟨by omega,this.2⟩
   .obtain⟨g1,g2,g3,g4,g5⟩:=h.fl s hs (Nat.le_refl _) h2 e h1
    exact⟨h2,g3⟩
  .by_cases hbn:b=(T s).Z.next
   .rcases hσ with h1|⟨ob,fz,h1⟩
    .rw[h1] at hb ⊢
     exact h.rel.wf b ent hb
    .rw[hbn,h1]
     exact Nat.lt_succ_self _
   .rw[hget b hbn] at hb
    have:=h.rel.wf b ent hb
    omega
  .rcases hnew b e hm with h1|⟨rfl,h1,h2⟩
   .exact(h.rel.pin x o hx).2 b e h1 hr1
   .have:=(h.fl s hs (Nat.le_refl _) h2 e h1).2.1
    have:=h.pin0 x o hx
    omega
 .have hst:=h.step
  have hck:(T s).Z.clock<=(T (s+1)).Z.clock:=by
   rcases hσ with h1|⟨ob,fz,h1⟩
   .rw[h1];exact Nat.le_refl _
   .rw[h1];exact Nat.le_succ _
  have h00:=h0s.next
  have h0c:=h0s.clock
  refine⟨h.le0 _ (by omega),by omega,fun b e hb=>?_,hst.size,fun j hj hno=>hst.keep j hj fun b e ent hm hro hbl hg=>?_,hst.os,hst.tape,hst.output,by omega,fun b ent hb=>?_,fun b ent hb=>?_⟩
  .rcases hnew b e hb with h1|⟨rfl,h1,h2⟩
   .rcases hst.fresh b e h1 with h3|⟨h3,h4,h5,h6⟩
    .exact .inl h3
    .refine .inr ⟨h3,h4,h5,h6.imp id ?_⟩
     rintro⟨b0,e0,ent0,k1,k2,k3,k4,k5⟩
     have:=h.start b0 e0 k1
     exact⟨b0,e0,ent0,k1,k2,k3,by rw[hget b0 (by omega)];exact k4,k5⟩
   .obtain⟨g1,g2,g3,g4,g5⟩:=h.fl s hs (Nat.le_refl _) h2 e h1
    refine .inr ⟨?_,h00,g1,.inl g2⟩
    cases hm0:m0 (T s).Z.next with
    | none=>rfl
    | some e0=>
     have:=h.start _ _ hm0
     omega
  .have:=h.start b e hm
   exact hno b e ent hm hro hbl (by rw[hget b (by omega)];exact hg)
  .by_cases hbn:b=(T s).Z.next
   .right
    rw[hbn] at hb
    rw[hgetn ent hb]
    exact h0c
   .rw[hget b hbn] at hb
    exact hst.ver b ent hb
  .obtain⟨ent',h1⟩:=hst.has b ent hb
   by_cases hbn:b=(T s).Z.next
   .have:=h.rel.wf b ent' h1
    omega
   .exact⟨ent',by rw[hget b hbn];exact h1⟩
 .rcases h.dom b e hb with h1|⟨k,h1,h2,h3,h4⟩
  .exact .inl (by omega)
  .by_cases hks:k=s
   .subst hks
    exact .inl (by omega)
   .exact .inr ⟨k,h1,by omega,h3,h4⟩
end
end Go.Eng
namespace Go.Eng
open Go
variable [Pins]
theorem Rel.moreWorld{K:Nat->Prop}{m:Mp}{Z:aC}{w w':World}(h:Rel K m Z w)(ho:∀j,j<w.heap.size->w'.heap[j]? = w.heap[j]?)(hs:w.heap.size<=w'.heap.size):Rel K m Z w':=
 ⟨fun b ent e hk hb hm=>let ⟨h1,h2⟩:=h.sync b ent e hk hb hm;⟨h1,h2.keep (fun _ _ x=>x) (ho _ (h.dom _ _ hm).2)⟩,h.inj,fun b e hm=>⟨(h.dom b e hm).1,Nat.lt_of_lt_of_le (h.dom b e hm).2 hs⟩,h.wf,fun k o hk=>⟨(ho k (QM (h.pin k o hk).1)).trans (h.pin k o hk).1,(h.pin k o hk).2⟩⟩
omit [Pins] in
theorem Step.moreWorld{Z V:aC}{m m':Mp}{w0 w w':World}(h:Step Z V m m' w0 w)(ho:∀j,j<w.heap.size->w'.heap[j]? = w.heap[j]?)(hs:w.heap.size<=w'.heap.size)(h1:w'.os=w.os)(h2:w'.tape=w.tape)(h3:w'.output=w.output):
  Step Z V m m' w0 w':=
 ⟨h.le,h.next,h.fresh,Nat.le_trans h.size hs,fun k hk hno=>(ho k (Nat.lt_of_lt_of_le hk h.size)).trans (h.keep k hk hno),h1.trans h.os,h2.trans h.tape,h3.trans h.output,h.clock,h.ver,h.has⟩
section
variable {P:Program} {E:Env} {ro:Option Nat} {ops:Array Oper} {pl:Pl ops} {T:Nat->TS} {Np:Nat} {kind:CallKind} {cs0:List Frame} {m0:Mp} {w0:World} {D:Nat->Prop} {s:Nat} {m:Mp} {c:Act} {w:World} {cs:List Frame}
theorem Inv.blk(h:Inv pl T Np kind cs0 m0 w0 D s m c w cs){b:Nat}{e:MEnt}(hm:m b=some e):e.blk<w.heap.size:=by
 rcases h.dom b e hm with h1|⟨k,h1,h2,rfl,h4⟩
 .exact(h.rel.dom b e (Mp.cut_some.2 ⟨h1,hm⟩)).2
 .exact(h.fl k h1 h2 h4 e hm).2.2.1
theorem Inv.pinned(h:Inv pl T Np kind cs0 m0 w0 D s m c w cs){x:Nat}{o:Obj}(hx:Pins.on x o){b:Nat}{e:MEnt}(hm:m b=some e)(hr1:e.ro=false):e.blk≠x:=by
 rcases h.dom b e hm with h1|⟨k,h1,h2,rfl,h4⟩
 .exact(h.rel.pin x o hx).2 b e (Mp.cut_some.2 ⟨h1,hm⟩) hr1
 .have:=(h.fl k h1 h2 h4 e hm).2.1
  have:=h.pin0 x o hx
  omega
theorem Inv.absorbTo(hT:Tr' P E ro pl T Np){k:Nat}(hM:Mono T k)(hsk:s<=k)(hlow:∀j,j<k->D j)(h:Inv pl T Np kind cs0 m0 w0 D s m c w cs):Inv pl T Np kind cs0 m0 w0 D k m c w cs:=by
 induction k with
 | zero=>
  have:s=0:=by omega
  rw[<-this]
  exact h
 | succ k ih=>
  by_cases hs:s=k+1
  .rw[<-hs];exact h
  .exact(ih (hM.le (by omega)) (by omega) fun j hj=>hlow j (by omega)).absorb hT (hM.le (by omega)) (hlow k (by omega))
theorem Inv.look(hok:pl.Ok)(hT:Tr' P E ro pl T Np){k:Nat}(hM:Mono T k)(h:Inv pl T Np kind cs0 m0 w0 D s m c w cs)(hk:k<pl.N)(hkN:k<=Np)(hsk:s<=k)(hr:pl.Ready D k)(hnd:¬ D k):
  bK (m.cut (T k).Z.next) (poison ((pl.op k).looksAt ops) (T k).a (T s).a.defers) c:=by
 have hcut:∀i,i<=k->(m.cut (T i).Z.next).le (m.cut (T k).Z.next):=fun i hi=>Mp.cut_mono (hM i k hi (Nat.le_refl _)).next fun _ _ _ x=>x
 refine⟨⟨?_,fun t=>?_⟩,h.defers.mono (hcut s hsk)⟩
 .rw[h.size]
  exact(hT.nt k hkN).symm
 .show bE _ ((poison ((pl.op k).looksAt ops) (T k).a (T s).a.defers).get t) _
  rw[I2]
  by_cases ht:t∈(pl.op k).looksAt ops
  .rw[if_pos ht]
   have hle:=hT.le
   rcases h.slot t with⟨j,hj,hw,hv⟩|⟨hno,hv⟩
   .have hjN:=h.dN j hj
    rcases hok.looks k hk t ht j (by omega) hw.1 with rfl|hn|hn
    .exact absurd hj hnd
    .have hjk:=Pl.needs_le hk (by omega) hn
     have hne:j≠k:=fun x=>hnd (x ▸ hj)
     rw[hT.get (i:=j+1) (j:=k) (by omega) hkN fun i h1 h2 h3=>by
      have:=Wr.uniq (pl:=pl) (T:=T) (by omega) (by omega) h3 hw
      omega]
     exact hv.mono (hcut (j+1) (by omega))
    .exact absurd (hn D h.cl hj) hnd
   .rw[hT.get (i:=0) (j:=k) (by omega) hkN fun i _ h2 h3=>by
     rcases hok.looks k hk t ht i (by omega) h3.1 with rfl|hn|hn
     .omega
     .rcases Pl.needs_ready h.cl hr hn with rfl|hd
      .omega
      .exact hno i hd h3
     .have:=Pl.needs_le (by omega) hk hn
      omega]
    exact hv.mono (hcut 0 (by omega))
  .rw[if_neg ht]
   exact .unknown _
theorem Inv.allSlots(hT:Tr' P E ro pl T Np){k:Nat}(hM:Mono T k)(h:Inv pl T Np kind cs0 m0 w0 D k m c w cs)(hkN:k<=Np)(hno:∀j,D j->j<k):bK (m.cut (T k).Z.next) (T k).a c:=by
 have hcut:∀i,i<=k->(m.cut (T i).Z.next).le (m.cut (T k).Z.next):=fun i hi=>Mp.cut_mono (hM i k hi (Nat.le_refl _)).next fun _ _ _ x=>x
 have hle:=hT.le
 refine⟨⟨?_,fun t=>?_⟩,h.defers⟩
 .rw[h.size]
  exact(hT.nt k hkN).symm
 .show bE _ ((T k).a.get t) _
  rcases h.slot t with⟨j,hj,hw,hv⟩|⟨hn,hv⟩
  .have hjk:=hno j hj
   rw[hT.get (i:=j+1) (j:=k) (by omega) hkN fun i h1 h2 h3=>by
    have:=Wr.uniq (pl:=pl) (T:=T) (by omega) (by omega) h3 hw
    omega]
   exact hv.mono (hcut (j+1) (by omega))
  .rw[hT.get (i:=0) (j:=k) (by omega) hkN fun i _ h2 h3=>hn i (h.low i h2) h3]
   exact hv.mono (hcut 0 (by omega))
theorem Inv.lamOK(hT:Tr' P E ro pl T Np){k:Nat}(hM:Mono T k)(h:Inv pl T Np kind cs0 m0 w0 D s m c w cs)(hk:k<Np)(hsk:s<=k)(hr:pl.Ready D k){q lam:Nat}(hf:pl.flt k=some q)(hl:nth (T k).cl q=some lam):lam<=(T s).Z.clock:=by
 rcases hT.lam k hk q lam hf hl with rfl|⟨j,hj,hfj,hn,rfl⟩
 .exact(hM 0 s (Nat.zero_le _) hsk).clock
 .rcases Pl.needs_ready h.cl hr hn with rfl|hd
  .omega
  .have hjs:j<s:=Nat.lt_of_not_le fun hle=>by
    have:=h.high j hd hle
    rw[hfj] at this
    cases this
   exact(hM (j+1) s (by omega) hsk).clock
theorem Inv.viewRel{k lam:Nat}(hM:Mono T k)(h:Inv pl T Np kind cs0 m0 w0 D s m c w cs)(hsk:s<=k)(hlam:lam<=(T s).Z.clock):Rel Top (m.cut (T k).Z.next) (view (T k).Z lam) w:=by
 have hF:=hM s k hsk (Nat.le_refl _)
 have hcut:(m.cut (T s).Z.next).le (m.cut (T k).Z.next):=Mp.cut_mono hF.next fun _ _ _ x=>x
 have old:∀b ent,(view (T k).Z lam).heap.get b=some ent->(T s).Z.heap.get b=some ent:=fun b ent hb=>by
  obtain⟨h1,h2⟩:=K3 hb
  rcases hF.ver b ent h1 with h3|h3
  .exact h3
  .omega
 have down:∀b ent e,(view (T k).Z lam).heap.get b=some ent->(m.cut (T k).Z.next) b=some e->(m.cut (T s).Z.next) b=some e:=fun b ent e hb hm=>
  Mp.cut_some.2 ⟨h.rel.wf b ent (old b ent hb),(Mp.cut_some.1 hm).2⟩
 refine⟨fun b ent e _ hb hm=>?_,fun b b' ent ent' e e' hne hb hb' ha ha' hm hm'=>?_,fun b e hm=>?_,fun b ent hb=>?_,fun x o hx=>⟨(h.rel.pin x o hx).1,fun b e hm hr1=>h.pinned hx (Mp.cut_some.1 hm).2 hr1⟩⟩
 .obtain⟨h1,h2⟩:=h.rel.sync b ent e trivial (old b ent hb) (down b ent e hb hm)
  exact⟨h1,h2.keep hcut rfl⟩
 .exact h.rel.inj b b' ent ent' e e' hne (old b ent hb) (old b' ent' hb') ha ha' (down b ent e hb hm) (down b' ent' e' hb' hm')
 .rw[Mp.cut_some] at hm
  exact⟨hm.1,h.blk hm.2⟩
 .have:=h.rel.wf b ent (old b ent hb)
  have h1:=hF.next
  show b<(T k).Z.next
  omega
theorem Inv.putF(hT:Tr' P E ro pl T Np){k K:Nat}(hM:Mono T K)(hDK:∀j,D j->j+1<=K)(hkK:k+1<=K)(h:Inv pl T Np kind cs0 m0 w0 D s m c w cs)(hk:k<Np)(hsk:s<=k)(hnd:¬ D k)(hr:pl.Ready D k)(hf:(pl.flt k).isSome=true){m':Mp}{w':World}{v v':Value}(ha:(T (k+1)).a=(T k).a.put (pl.op k).dst v)(hw1:∀j,j<w.heap.size->w'.heap[j]? = w.heap[j]?)(hw2:w.heap.size<=w'.heap.size)(hw3:w'.os=w.os)(hw4:w'.tape=w.tape)(hw5:w'.output=w.output)(c1:∀b e,m b=some e->m' b=some e)(c2:∀b e,m' b=some e->m b=some e\/(b=(T k).Z.next/\(T k).Z.next<(T (k+1)).Z.next/\e.ro=false/\w.heap.size<=e.blk/\e.blk<w'.heap.size/\
   ∀ent,(T (k+1)).Z.heap.get (T k).Z.next=some ent->ent.ro=false/\Sync (m'.cut (T (k+1)).Z.next) ent.obj ent.fz e w'))(c3:bE (m'.cut (T (k+1)).Z.next) v v'):Inv pl T Np kind cs0 m0 w0 (Pl.ins D k) s m' (c.put (pl.op k).dst v') w' cs:=by
 have hle:=hT.le
 have hnk:=(hM s k hsk (by omega)).next
 have hnxne:∀j,D j->(T j).Z.next<(T (j+1)).Z.next->(T k).Z.next<(T (k+1)).Z.next->(T j).Z.next≠(T k).Z.next:=fun j hj h1 h2 heq=>by
  have hjk:j≠k:=fun x=>hnd (x ▸ hj)
  by_cases hlt:j<k
  .have:=(hM (j+1) k (by omega) (by omega)).next
   omega
  .have:=(hM (k+1) j (by omega) (by have:=hDK j hj;omega)).next
   omega
 have hnone:(T k).Z.next<(T (k+1)).Z.next->m (T k).Z.next=none:=fun hp=>by
  cases hm:m (T k).Z.next with
  | none=>rfl
  | some e=>
   rcases h.dom _ e hm with h1|⟨j,h1,h2,h3,h4⟩
   .omega
   .exact absurd h3.symm (hnxne j h1 h4 hp)
 have hcutEq:m'.cut (T s).Z.next=m.cut (T s).Z.next:=by
  funext b
  unfold Mp.cut
  by_cases hb:b<(T s).Z.next
  .rw[if_pos hb,if_pos hb]
   cases hm':m' b with
   | some e=>
    rcases c2 b e hm' with h1|⟨h1,_⟩
    .exact h1.symm
    .omega
   | none=>
    cases hm:m b with
    | none=>rfl
    | some e=>
     rw[c1 b e hm] at hm'
     cases hm'
  .rw[if_neg hb,if_neg hb]
 have hcut:∀x,(m.cut x).le (m'.cut x):=fun x=>Mp.cut_mono (Nat.le_refl _) fun b e _ hm=>c1 b e hm
 refine⟨h.sN,fun j hj=>?_,fun j hj=>.inr (h.low j hj),fun j hj hs=>?_,Pl.cl_ins h.cl hr,?_,?_,fun j hj hs hp e hm=>?_,fun b e hm=>?_,fun t=>?_,?_,?_,?_,h.under,h.start,h.pin0⟩
 .rcases hj with rfl|hj
  .exact hk
  .exact h.dN j hj
 .rcases hj with rfl|hj
  .exact hf
  .exact h.high j hj hs
 .rw[hcutEq]
  exact h.rel.moreWorld hw1 hw2
 .rw[hcutEq]
  exact h.step.moreWorld hw1 hw2 hw3 hw4 hw5
 .by_cases hjk:j=k
  .subst hjk
   rcases c2 _ e hm with h1|⟨_,_,h3,h4,h5,h6⟩
   .rw[hnone hp] at h1
    cases h1
   .refine⟨h3,Nat.le_trans h.step.size h4,h5,h6,fun b e' hb hm'=>?_⟩
    rcases c2 b e' hm' with h7|⟨h7,_⟩
    .have:=h.blk h7
     omega
    .exact absurd h7 hb
  .have hj':D j:=hj.resolve_left hjk
   rcases c2 _ e hm with h1|⟨h1,h2,_⟩
   .obtain⟨g1,g2,g3,g4,g5⟩:=h.fl j hj' hs hp e h1
    refine⟨g1,g2,by omega,fun ent hg=>?_,fun b e' hb hm'=>?_⟩
    .obtain⟨g6,g7⟩:=g4 ent hg
     exact⟨g6,g7.keep (hcut _) (hw1 _ g3)⟩
    .rcases c2 b e' hm' with h7|⟨_,_,_,h7,_⟩
     .exact g5 b e' hb h7
     .omega
   .exact absurd h1 (hnxne j hj' hp h2)
 .rcases c2 b e hm with h1|⟨h1,h2,_⟩
  .rcases h.dom b e h1 with h3|⟨j,h3,h4⟩
   .exact .inl h3
   .exact .inr ⟨j,.inr h3,h4⟩
  .exact .inr ⟨k,.inl rfl,hsk,h1,h2⟩
 .by_cases hw:Wr pl T k t
  .refine .inl ⟨k,.inl rfl,hw,?_⟩
   have h1:(c.put (pl.op k).dst v').tmps.getD t undef=v':=by
    rw[hw.1]
    exact Aa5 c (by rw[h.size];exact hw.2)
   rw[h1,ha,hw.1]
   rcases M_ (T k).a (d:=t) (v:=v) (by rw[hT.nt k (by omega)];exact hw.2) with h2|h2
   .rw[h2];exact c3
   .rw[h2];exact .unknown _
  .have h1:(c.put (pl.op k).dst v').tmps.getD t undef=c.tmps.getD t undef:=Aa6 c (by rw[h.size];exact hw)
   rw[h1]
   rcases h.slot t with⟨j,hj,hwj,hv⟩|⟨hno,hv⟩
   .exact .inl ⟨j,.inr hj,hwj,hv.mono (hcut _)⟩
   .refine .inr ⟨fun j hj hwj=>?_,hv.mono (hcut _)⟩
    rcases hj with rfl|hj
    .exact hw hwj
    .exact hno j hj hwj
 .rw[(HL c _ _).1,h.size]
 .rw[hcutEq,(HL c _ _).2]
  exact h.defers
 .rw[hcutEq]
  exact h.urel
theorem Inv.putA(hT:Tr' P E ro pl T Np){k K:Nat}(hM:Mono T K)(hDK:∀j,D j->j+1<=K)(hkK:k<=K)(h:Inv pl T Np kind cs0 m0 w0 D k m c w cs)(hk:k<Np)(hnd:¬ D k)(hr:pl.Ready D k){m':Mp}{w':World}{v v':Value}{ds ds':List Deferred}{cs':List Frame}(ha:(T (k+1)).a=(⟨(T k).a.loc,(T k).a.tmp,(T k).a.nl,(T k).a.nt,ds++(T k).a.defers⟩:aV).put (pl.op k).dst v)(hR:Rel Top m' (T (k+1)).Z w')(hS:Step (T k).Z (T (k+1)).Z (m.cut (T k).Z.next) m' w w')(hV:bE m' v v')(hD:DLRel m' ds ds')(hU:URel m' (T (k+1)).u kind cs')(hun:Under kind cs cs'):
  ∃m2,Inv pl T Np kind cs0 m0 w0 (Pl.ins D k) (k+1) m2 (({ c with defers:=ds'++c.defers }:Act).put (pl.op k).dst v') w' cs':=by
 have hle:=hT.le
 let m2:Mp:=fun b=>if b<(T (k+1)).Z.next then m' b else m b
 have hm2:∀b,m2 b=if b<(T (k+1)).Z.next then m' b else m b:=fun _=>rfl
 have hc2:m2.cut (T (k+1)).Z.next=m':=by
  funext b
  unfold Mp.cut
  by_cases hb:b<(T (k+1)).Z.next
  .rw[if_pos hb,hm2,if_pos hb]
  .rw[if_neg hb]
   cases hm':m' b with
   | none=>rfl
   | some e=>exact absurd (hR.dom b e hm').1 hb
 have hnx:=hS.next
 have hahead:∀j,D j->k<=j->k<j/\(T (k+1)).Z.next<=(T j).Z.next:=fun j hj hkj=>by
  have hjk:j≠k:=fun x=>hnd (x ▸ hj)
  exact⟨by omega,(hM (k+1) j (by omega) (by have:=hDK j hj;omega)).next⟩
 have hm2le:∀b e,m b=some e->m2 b=some e:=fun b e hm=>by
  rw[hm2]
  by_cases hb:b<(T (k+1)).Z.next
  .rw[if_pos hb]
   refine hS.le b e (Mp.cut_some.2 ⟨?_,hm⟩)
   rcases h.dom b e hm with h1|⟨j,h1,h2,h3,_⟩
   .exact h1
   .have:=(hahead j h1 h2).2
    omega
  .rw[if_neg hb]
   exact hm
 have hcut:∀x,(m.cut x).le (m2.cut x):=fun x=>Mp.cut_mono (Nat.le_refl _) fun b e _ hm=>hm2le b e hm
 have hnt:(T k).a.nt=(T 0).a.nt:=hT.nt k (by omega)
 refine⟨m2,hk,fun j hj=>?_,fun j hj=>?_,fun j hj hs=>?_,Pl.cl_ins h.cl hr,by rw[hc2];exact hR,by rw[hc2];exact h.step.trans hS,fun j hj hs hp e hm=>?_,fun b e hm=>?_,fun t=>?_,?_,?_,by rw[hc2];exact hU,h.under.trans hun,h.start,h.pin0⟩
 .rcases hj with rfl|hj
  .exact hk
  .exact h.dN j hj
 .by_cases hjk:j=k
  .exact .inl hjk
  .exact .inr (h.low j (by omega))
 .rcases hj with rfl|hj
  .omega
  .exact h.high j hj (by omega)
 .have hj':D j:=by
   rcases hj with rfl|hj
   .omega
   .exact hj
  have h1:=(hahead j hj' (by omega)).2
  have hm':m (T j).Z.next=some e:=by
   rw[hm2,if_neg (by omega)] at hm
   exact hm
  obtain⟨g1,g2,g3,g4,g5⟩:=h.fl j hj' (by omega) hp e hm'
  have hsame:w'.heap[e.blk]? = w.heap[e.blk]?:=hS.keep _ g3 fun b e' ent hb _ hbl _=>by
   rw[Mp.cut_some] at hb
   exact absurd hbl (g5 b e' (by omega) hb.2)
  refine⟨g1,g2,Nat.lt_of_lt_of_le g3 hS.size,fun ent hg=>?_,fun b e' hb hmb=>?_⟩
  .obtain⟨g6,g7⟩:=g4 ent hg
   exact⟨g6,g7.keep (hcut _) hsame⟩
  .rw[hm2] at hmb
   by_cases hlt:b<(T (k+1)).Z.next
   .rw[if_pos hlt] at hmb
    rcases hS.fresh b e' hmb with h2|⟨_,_,_,h2⟩
    .rw[Mp.cut_some] at h2
     exact g5 b e' hb h2.2
    .rcases h2 with h2|⟨b0,e0,ent0,k1,_,k3,_,_⟩
     .omega
     .rw[Mp.cut_some] at k1
      rw[<-k3]
      exact g5 b0 e0 (by omega) k1.2
   .rw[if_neg hlt] at hmb
    exact g5 b e' hb hmb
 .rw[hm2] at hm
  by_cases hb:b<(T (k+1)).Z.next
  .exact .inl hb
  .rw[if_neg hb] at hm
   rcases h.dom b e hm with h1|⟨j,h1,h2,h3,h4⟩
   .omega
   .exact .inr ⟨j,.inr h1,(hahead j h1 h2).1,h3,h4⟩
 .by_cases hw:Wr pl T k t
  .refine .inl ⟨k,.inl rfl,hw,?_⟩
   have h1:(({ c with defers:=ds'++c.defers }:Act).put (pl.op k).dst v').tmps.getD t undef=v':=by
    rw[hw.1]
    exact Aa5 _ (by show t<c.tmps.size;rw[h.size];exact hw.2)
   rw[h1,ha,hw.1,hc2]
   rcases M_ (⟨(T k).a.loc,(T k).a.tmp,(T k).a.nl,(T k).a.nt,ds++(T k).a.defers⟩:aV) (d:=t) (v:=v) (by show t<(T k).a.nt;rw[hnt];exact hw.2) with h2|h2
   .rw[h2];exact hV
   .rw[h2];exact .unknown _
  .have h1:(({ c with defers:=ds'++c.defers }:Act).put (pl.op k).dst v').tmps.getD t undef=c.tmps.getD t undef:=Aa6 _ (by show ¬ ((pl.op k).dst=some t/\t<c.tmps.size);rw[h.size];exact hw)
   rw[h1]
   rcases h.slot t with⟨j,hj,hwj,hv⟩|⟨hno,hv⟩
   .exact .inl ⟨j,.inr hj,hwj,hv.mono (hcut _)⟩
   .refine .inr ⟨fun j hj hwj=>?_,hv.mono (hcut _)⟩
    rcases hj with rfl|hj
    .exact hw hwj
    .exact hno j hj hwj
 .rw[(HL _ _ _).1]
  exact h.size
 .rw[hc2,(HL _ _ _).2,ha,(Na _ _ _).2]
  exact hD.append (h.defers.mono hS.le)
end
end Go.Eng
namespace Go.Eng
open Go
variable [Pins]
section
variable {P:Program} {E:Env} {ro:Option Nat} {ops:Array Oper} {pl:Pl ops} {T:Nat->TS} {Np:Nat} {b:Frame} {k':List Item} {rest:List Nat} {cs0:List Frame} {m0:Mp} {w0:World} {D:Nat->Prop} {s:Nat} {m:Mp} {c:Act} {w:World} {cs:List Frame}
omit [Pins] in
theorem AaW{i:Nat}{o:Oper}{v:Value}{w':World}(ho:ops[i]? = some o)(hw:Region.wanted o (yielded ops c.tmps)=true)(hs:∀cc,o.op≠.defer cc)(hrun:(execOp c.eval o).run P w=.ok (.value v) w'):
  St P (lone (b.atR c (.inRegion ops (i::rest)::k')) cs w) (lone (b.atR (c.put o.dst v) (.inRegion ops rest::k')) cs w'):=by
 have hg:=stepGR_op (P:=P) (b:=b) (a:=c) (k:=k') (cs:=cs) (w:=w) (rest:=rest) ho hw
 rw[Oper.semAt_eq _ _ _ hs] at hg
 exact .one trivial (step_lone_go (by
  rw[hg,<-IX ho]
  simp[stepG.apply,hrun]))
omit [Pins] in
theorem PQ{i:Nat}{o:Oper}{w':World}(ho:ops[i]? = some o)(hw:Region.wanted o (yielded ops c.tmps)=true)(hs:∀cc,o.op≠.defer cc)(hrun:(execOp c.eval o).run P w=.ok .skip w'):
  St P (lone (b.atR c (.inRegion ops (i::rest)::k')) cs w) (lone (b.atR (c.put o.dst undef) (.inRegion ops rest::k')) cs w'):=by
 have hg:=stepGR_op (P:=P) (b:=b) (a:=c) (k:=k') (cs:=cs) (w:=w) (rest:=rest) ho hw
 rw[Oper.semAt_eq _ _ _ hs] at hg
 exact .one trivial (step_lone_go (by
  rw[hg,<-IX ho]
  simp[stepG.apply,hrun]))
omit [Pins] in
theorem IL{i:Nat}{o:Oper}(ho:ops[i]? = some o)(hw:Region.wanted o (yielded ops c.tmps)=false):
  St P (lone (b.atR c (.inRegion ops (i::rest)::k')) cs w) (lone (b.atR (c.put o.dst undef) (.inRegion ops rest::k')) cs w):=by
 have:=stepR_op_skip (P:=P) (b:=b) (a:=c) (k:=k') (cs:=cs) (w:=w) (ops:=ops) (i:=i) (rest:=rest) (by simp[ho,hw])
 rw[ho] at this
 exact .one trivial this
omit [Pins] in
theorem Vh{o:Op}(h:isFlt o=true)(cc:Call):o≠.defer cc:=fun hx=>by
 subst hx
 cases h
theorem Inv.noneAt{kind:CallKind}{k K:Nat}(hM:Mono T K)(hDK:∀j,D j->j+1<=K)(hkK:k+1<=K)(h:Inv pl T Np kind cs0 m0 w0 D s m c w cs)(hsk:s<=k)(hnd:¬ D k)(hp:(T k).Z.next<(T (k+1)).Z.next):m (T k).Z.next=none:=by
 cases hm:m (T k).Z.next with
 | none=>rfl
 | some e=>
  rcases h.dom _ e hm with h1|⟨j,h1,h2,h3,h4⟩
  .have:=(hM s k hsk (by omega)).next
   omega
  .have hjk:j≠k:=fun x=>hnd (x ▸ h1)
   by_cases hlt:j<k
   .have:=(hM (j+1) k (by omega) (by omega)).next
    omega
   .have:=(hM (k+1) j (by omega) (by have:=hDK j h1;omega)).next
    omega
theorem Fk{kind:CallKind}(hok:pl.Ok)(hT:Tr' P E ro pl T Np){k:Nat}(hM:Mono T k)(h:Inv pl T Np kind cs0 m0 w0 D s m c w cs)(hk:k<pl.N)(hkN:k<=Np)(hsk:s<=k)(hr:pl.Ready D k)(hnd:¬ D k){g:Bool}(hg:(cguard ops (pl.op k).guard).un (T k).a=some g):Region.wanted (pl.op k) (yielded ops c.tmps)=g:=by
 have hl:=h.look hok hT hM hk hkN hsk hr hnd
 refine Je (m:=m.cut (T k).Z.next) (fun j want d h1 h2=>?_) hg
 have h3:=hl.get d
 rw[I2,if_pos (Vp h1 h2)] at h3
 exact h3
theorem Inv.pickF(hok:pl.Ok)(hT:Tr' P E ro pl T Np){k K:Nat}(hM:Mono T K)(hDK:∀j,D j->j+1<=K)(hkK:k+1<=K)(h:Inv pl T Np b.kind cs0 m0 w0 D s m c w cs)(hk:k<Np)(hsk:s<=k)(hnd:¬ D k)(hr:pl.Ready D k)(hf:(pl.flt k).isSome=true):
  ∃m' c' w',Inv pl T Np b.kind cs0 m0 w0 (Pl.ins D k) s m' c' w' cs/\St P (lone (b.atR c (.inRegion ops (pl.ix k::rest)::k')) cs w) (lone (b.atR c' (.inRegion ops rest::k')) cs w'):=by
 have hle:=hT.le
 have hMk:=hM.le (K':=k) (by omega)
 have ho:=pl.hop k (by omega)
 have hisf:=pl.isf k (by omega) hf
 cases hT.st k hk with
 | askip hf' hg ht=>rw[hf'] at hf;cases hf
 | anch hf' hg h' hc=>rw[hf'] at hf;cases hf
 | fskip q hf' hg ht=>
  have hw:=Fk hok hT hMk h (by omega) (by omega) hsk hr hnd hg
  exact⟨m,_,w,h.putF hT hM hDK hkK hk hsk hnd hr hf (v:=skipV) (v':=undef) (by rw[ht]) (fun _ _=>rfl) (Nat.le_refl _) rfl rfl rfl (fun _ _ x=>x) (fun _ _ x=>.inl x) .skip,IL ho hw⟩
 | float q lam v V hf' hg hl h' hr' ha hu hc=>
  have hw:=Fk hok hT hMk h (by omega) (by omega) hsk hr hnd hg
  have hlam:=h.lamOK hT hMk hk hsk hr hf' hl
  have hvr:=h.viewRel hMk hsk hlam
  have hlook:=h.look hok hT hMk (by omega) (by omega) hsk hr hnd
  have hO:=Fy (P:=P) hvr hlook (pl.op k)
  rw[<-FN,h'] at hO
  have hlk:lam<=(T k).Z.clock:=Nat.le_trans hlam (hMk s k hsk (Nat.le_refl _)).clock
  have hst:Stays (view (T k).Z lam) (.val v V):=by
   have:=OX (P:=P) (Z:=view (T k).Z lam) (pl.op k).op hisf (T k).a
   rw[h'] at this
   exact this
  obtain⟨w',v',hrun,hw1,hw2,hw3,hw4,hw5,hcase⟩:=XD hlk hvr hst hO rfl hr'
  have hstep:=AaW (b:=b) (k':=k') (rest:=rest) (cs:=cs) ho hw (Vh hisf) hrun
  rcases hcase with⟨h1,hV⟩|⟨o,fz,eo,h1,hV,h2⟩
  .exact⟨m,_,w',h.putF hT hM hDK hkK hk hsk hnd hr hf ha hw1 hw2 hw3 hw4 hw5 (fun _ _ x=>x) (fun _ _ x=>.inl x) (by rw[h1];exact hV),hstep⟩
  .have hnx:(T (k+1)).Z.next=(T k).Z.next+1:=by rw[h1];rfl
   have hp:(T k).Z.next<(T (k+1)).Z.next:=by omega
   have hnone:=h.noneAt hM hDK hkK hsk hnd hp
   have hup:((m.cut (T k).Z.next).upd (T k).Z.next eo).le ((m.upd (T k).Z.next eo).cut (T (k+1)).Z.next):=fun x e hx=>by
    rw[Mp.cut_some]
    unfold Mp.upd at hx ⊢
    by_cases hxn:x=(T k).Z.next
    .rw[if_pos hxn] at hx ⊢
     exact⟨by omega,hx⟩
    .rw[if_neg hxn] at hx ⊢
     rw[Mp.cut_some] at hx
     exact⟨by omega,hx.2⟩
   refine⟨m.upd (T k).Z.next eo,_,w',h.putF hT hM hDK hkK hk hsk hnd hr hf ha hw1 hw2 hw3 hw4 hw5 (fun x e hx=>?_) (fun x e hx=>?_) (hV.mono hup),hstep⟩
   .unfold Mp.upd
    by_cases hxn:x=(T k).Z.next
    .rw[hxn,hnone] at hx
     cases hx
    .rw[if_neg hxn]
     exact hx
   .unfold Mp.upd at hx
    by_cases hxn:x=(T k).Z.next
    .rw[if_pos hxn] at hx
     obtain⟨g1,g2,g3,g4⟩:=h2 e hx
     refine .inr ⟨hxn,hp,g1,g2,g3,fun ent hg=>?_⟩
     rw[h1,Aj,if_pos rfl] at hg
     cases hg
     exact⟨rfl,g4.keep hup rfl⟩
    .rw[if_neg hxn] at hx
     exact .inl hx
theorem Inv.pickA(hE:EnvOK P E)(hok:pl.Ok)(hT:Tr' P E ro pl T Np)(hro:RoRel m0 ro b){k K:Nat}(hM:Mono T K)(hDK:∀j,D j->j+1<=K)(hkK:k<=K)(h:Inv pl T Np b.kind cs0 m0 w0 D k m c w cs)(hk:k<Np)(hnd:¬ D k)(hr:pl.Ready D k)(hf:pl.flt k=none):
  (∃m' c' w' cs',Inv pl T Np b.kind cs0 m0 w0 (Pl.ins D k) (k+1) m' c' w' cs'/\St P (lone (b.atR c (.inRegion ops (pl.ix k::rest)::k')) cs w) (lone (b.atR c' (.inRegion ops rest::k')) cs' w'))/\FStep (T k).Z (T (k+1)).Z:=by
 have hle:=hT.le
 have hMk:=hM.le hkK
 have ho:=pl.hop k (by omega)
 have hro':RoRel (m.cut (T k).Z.next) ro b:=hro.mono (h.le0 _ (hMk 0 k (Nat.zero_le _) (Nat.le_refl _)).next)
 cases hT.st k hk with
 | fskip q hf' hg ht=>rw[hf] at hf';cases hf'
 | float q lam v V hf' hg hl h' hr' ha hu hc=>rw[hf] at hf';cases hf'
 | askip hf' hg ht=>
  have hw:=Fk hok hT hMk h (by omega) (by omega) (Nat.le_refl _) hr hnd hg
  have hσ:(T (k+1)).Z=(T k).Z:=by rw[ht]
  have hu:(T (k+1)).u=(T k).u:=by rw[ht]
  obtain⟨m2,h2⟩:=h.putA hT hM hDK hkK hk hnd hr (m':=m.cut (T k).Z.next) (w':=w) (v:=skipV) (v':=undef) (ds:=[]) (ds':=[]) (cs':=cs) (by rw[ht];rfl) (by rw[hσ];exact h.rel) (by rw[hσ];exact .refl _ _ _) .skip .nil (by rw[hu];exact h.urel) (.refl _ _)
  exact⟨⟨m2,_,w,cs,h2,IL ho hw⟩,by rw[hσ];exact .refl _⟩
 | anch hf' hg h' hc=>
  have hw:=Fk hok hT hMk h (by omega) (by omega) (Nat.le_refl _) hr hnd hg
  have hlook:=h.look hok hT hMk (by omega) (by omega) (Nat.le_refl _) hr hnd
  have hO:=Fy (P:=P) h.rel hlook (pl.op k)
  rw[<-FN] at hO
  have hop:=QI (k:=k') (rest:=rest) (a:=(T k).a) (cs:=cs) hE h.rel h.urel (fun hx=>by subst hx;exact hro') ho hw (AaM hro') hO
  rw[h'] at hop
  obtain⟨m',w',cs',v,v',ds,ds',h1,h2,h3,h4,h5,h6,_,h8,h9⟩:=hop
  obtain⟨m2,hI⟩:=h.putA hT hM hDK hkK hk hnd hr h8 h1 h2 h3 h4 h5 h6
  exact⟨⟨m2,_,w',cs',hI,h9⟩,h2.fstep⟩
theorem Inv.pickP(hE:EnvOK P E)(hok:pl.Ok)(hT:Tr' P E ro pl T Np)(hro:RoRel m0 ro b)(hM:Mono T Np)(h:Inv pl T Np b.kind cs0 m0 w0 D Np m c w cs)(hk:Np<pl.N)(hnd:¬ D Np)(hr:pl.Ready D Np)(hg:(cguard ops (pl.op Np).guard).un (T Np).a=some true){e:Exit}{a':aV}{u':Option FrameMode}{V:aC}(he:e≠.normal)(hs:stepOp E ro (pl.op Np).dst (T Np).a (T Np).u ((cop P (pl.op Np).op).un (T Np).a (T Np).Z)=.done e a' u' V):
  KOK P m0 (T 0).Z w0 b k' cs0 (lone (b.atR c (.inRegion ops (pl.ix Np::rest)::k')) cs w) (.done e a' u' V):=by
 have ho:=pl.hop Np hk
 have hro':RoRel (m.cut (T Np).Z.next) ro b:=hro.mono (h.le0 _ (hM 0 Np (Nat.zero_le _) (Nat.le_refl _)).next)
 have hw:=Fk hok hT hM h hk (Nat.le_refl _) (Nat.le_refl _) hr hnd hg
 have hlook:=h.look hok hT hM hk (Nat.le_refl _) (Nat.le_refl _) hr hnd
 have hO:=Fy (P:=P) h.rel hlook (pl.op Np)
 rw[<-FN] at hO
 have hop:=QI (k:=k') (rest:=rest) (a:=(T Np).a) (cs:=cs) hE h.rel h.urel (fun hx=>by subst hx;exact hro') ho hw (AaM hro') hO
 rw[hs] at hop
 cases e with
 | normal=>exact absurd rfl he
 | panic ch=>
  obtain⟨rfl,m',w',cs',ch',h1,h2,h3,h4,h5,todo,h6⟩:=hop
  exact⟨m',w',.panic ch',c,cs',h1,h.step.trans h2,.panic h3,(h.allSlots hT hM (Nat.le_refl _) h.dN).mono h2.le,h4,h.under.trans h5,todo,h6⟩
 | exit id=>exact hop.elim
 | goto l=>exact hop.elim
 | ret=>exact hop.elim
 | outgrown=>exact hop.elim
theorem Inv.fin(hT:Tr' P E ro pl T Np)(hM:Mono T Np)(h:Inv pl T Np b.kind cs0 m0 w0 D s m c w cs)(hall:∀j,j<Np->D j):
  KOK P m0 (T 0).Z w0 b k' cs0 (lone (b.atR c (.inRegion ops []::k')) cs w) (.done .normal (T Np).a (T Np).u (T Np).Z):=by
 have h1:=h.absorbTo hT hM h.sN hall
 exact⟨_,w,.normal,c,cs,h1.rel,h1.step,.normal,h1.allSlots hT hM (Nat.le_refl _) h1.dN,h1.urel,h1.under,.one trivial stepR_region_end⟩
theorem Inv.first{a:aV}{u:Option FrameMode}{Z:aC}{kind:CallKind}(hT:Tr' P E ro pl T Np)(ha:(T 0).a=a)(hu:(T 0).u=u)(hσ:(T 0).Z=Z)(hr:Rel Top m Z w)(hac:bK m a c)(hur:URel m u kind cs):
  Inv pl T Np kind cs m w (fun _=>False) 0 m c w cs:=by
 subst ha hu hσ
 have hc:m.cut (T 0).Z.next=m:=Mp.cut_eq fun b e hb=>(hr.dom b e hb).1
 exact⟨Nat.zero_le _,fun _ h=>h.elim,fun k hk=>absurd hk (Nat.not_lt_zero _),fun _ h _=>h.elim,fun _ _ h=>h.elim,by rw[hc];exact hr,by rw[hc];exact .refl _ _ _,fun _ h=>h.elim,fun b e hb=>.inl (hr.dom b e hb).1,
  fun t=>.inr ⟨fun _ h=>h.elim,by rw[hc];exact hac.get t⟩,hac.tmps.1,by rw[hc];exact hac.defers,by rw[hc];exact hur,.refl _ _,fun b e hb=>(hr.dom b e hb).1,fun x o hx=>QM (hr.pin x o hx).1⟩
omit [Pins] in
theorem Pl.ins_lt(k:Nat):Pl.ins (fun j=>j<k) k=fun j=>j<k+1:=by
 funext j
 apply propext
 unfold Pl.ins
 omega
theorem Tr'.mono(hE:EnvOK P E)(hok:pl.Ok)(hT:Tr' P E ro pl T Np)(hro:RoRel m0 ro b)(h0:Inv pl T Np b.kind cs0 m0 w0 (fun _=>False) 0 m c w cs):Mono T Np:=by
 have key:∀k,k<=Np->Mono T k/\∃m c w cs,Inv pl T Np b.kind cs0 m0 w0 (fun j=>j<k) k m c w cs:=by
  intro k
  induction k with
  | zero=>
   intro _
   refine⟨Mono.zero,m,c,w,cs,?_⟩
   have:(fun j=>j<0)=fun _=>False:=by
    funext j
    simp
   rw[this]
   exact h0
  | succ k ih=>
   intro hk
   have hle:=hT.le
   obtain⟨hM,m,c,w,cs,h⟩:=ih (by omega)
   have hr:pl.Ready (fun j=>j<k) k:=fun e he hb j hj heq=>by
    obtain⟨j2,g1,g2⟩:=pl.bind k (by omega) e he hb
    have:=pl.inj j hj j2 (by omega) (by rw[heq,g2])
    omega
   have hnd:¬ k<k:=Nat.lt_irrefl k
   cases hf:pl.flt k with
   | some q=>
    obtain⟨_,_,hσ⟩:=(hT.st k (by omega)).flt (by rw[hf];rfl) (pl.isf k (by omega) (by rw[hf];rfl))
    have hFS:FStep (T k).Z (T (k+1)).Z:=by
     rcases hσ with h1|⟨ob,fz,h1⟩
     .rw[h1];exact .refl _
     .rw[h1];exact .push _ _ _
    have hM':=hM.succ hFS
    obtain⟨m',c',w',h1,_⟩:=h.pickF (b:=b) (k':=[]) (rest:=[]) hok hT hM' (fun j hj=>by omega) (Nat.le_refl _) (by omega) (Nat.le_refl _) hnd hr (by rw[hf];rfl)
    rw[Pl.ins_lt] at h1
    exact⟨hM',m',c',w',cs,h1.absorb hT hM (by omega)⟩
   | none=>
    obtain⟨⟨m',c',w',cs',h1,_⟩,h2⟩:=h.pickA (b:=b) (k':=[]) (rest:=[]) hE hok hT hro hM (fun j hj=>by omega) (Nat.le_refl _) (by omega) hnd hr hf
    rw[Pl.ins_lt] at h1
    exact⟨hM.succ h2,m',c',w',cs',h1⟩
 exact(key Np (Nat.le_refl _)).1
end
end Go.Eng
namespace Go.Eng
open Go
variable [Pins]
omit [Pins] in
theorem Gm(Z:aC)(b:Nat)(o:FObj)(fz:Option Nat)(x:Nat):(Z.put b o fz).heap.get x=if x=b then some ⟨o,false,fz,Z.clock⟩ else Z.heap.get x:=Tr.get_set _ _ _ _
omit [Pins] in
theorem FO{n:Nat}{p v:Value}{Z V:aC}(h:aK n p v Z=.skip V):∃b off e c el c',p=.pointer (some ⟨b,off,none⟩)/\Z.heap.get b=some e/\e.obj=.cells c el/\e.ro=false/\
  (aM v&&Nat.beq (len (aI v)) n&&(aI v).all oneCell)=true/\spliceN off (aI v) c=some c'/\V=Z.put b (.cells c' el) e.fz:=by
 unfold aK at h
 split at h
 .rename_i b off
  cases hg:Z.heap.get b with
  | none=>rw[hg] at h;cases h
  | some e=>
   rw[hg] at h
   simp only at h
   split at h
   .rename_i c el ho hro
    cases hc:(aM v&&Nat.beq (len (aI v)) n&&(aI v).all oneCell) with
    | false=>rw[hc] at h;cases h
    | true=>
     rw[hc] at h
     simp only[cond_true] at h
     cases hs:spliceN off (aI v) c with
     | none=>rw[hs] at h;cases h
     | some c'=>
      rw[hs] at h
      cases h
      exact⟨b,off,e,c,el,c',rfl,hg,ho,hro,rfl,hs,rfl⟩
   .cases h
 .cases h
omit [Pins] in
theorem HN{n:Nat}{v:Value}{Z:aC}{b off:Nat}{e:Ent}{c c':List Value}{el:TypeId}(hg:Z.heap.get b=some e)(ho:e.obj=.cells c el)(hro:e.ro=false)(hc:(aM v&&Nat.beq (len (aI v)) n&&(aI v).all oneCell)=true)(hs:spliceN off (aI v) c=some c'):aK n (.pointer (some ⟨b,off,none⟩)) v Z=.skip (Z.put b (.cells c' el) e.fz):=by
 obtain⟨ob,rob,fzb,vb⟩:=e
 simp only at ho hro
 subst ho
 subst hro
 unfold aK
 simp only[hg,hc,hs,cond_true]
structure Like (ck:Nat) (Z V:aC):Prop where
 next:V.next=Z.next
 clock:V.clock=Z.clock
 get:∀b,V.heap.get b=Z.heap.get b\/∃e e',Z.heap.get b=some e/\V.heap.get b=some e'/\e'.obj=e.obj/\e'.ro=e.ro/\e'.fz=e.fz/\ck<=e.ver/\ck<=e'.ver
theorem Like.rel{ck:Nat}{Z V:aC}{m:Mp}{w:World}(h:Like ck Z V)(hr:Rel Top m V w):Rel Top m Z w:=by
 have up:∀b ent,Z.heap.get b=some ent->∃ent',V.heap.get b=some ent'/\ent'.obj=ent.obj/\ent'.ro=ent.ro/\ent'.fz=ent.fz:=fun b ent hb=>by
  rcases h.get b with h1|⟨e,e',h1,h2,h3,h4,h5,_⟩
  .exact⟨ent,by rw[h1];exact hb,rfl,rfl,rfl⟩
  .rw[hb] at h1
   cases h1
   exact⟨e',h2,h3,h4,h5⟩
 refine⟨fun b ent e _ hb hm=>?_,fun b b' ent ent' e e' hne hb hb' ha ha' hm hm'=>?_,fun b e hm=>?_,fun b ent hb=>?_,hr.pin⟩
 .obtain⟨ent',h1,h2,h3,h4⟩:=up b ent hb
  obtain⟨g1,g2⟩:=hr.sync b ent' e trivial h1 hm
  rw[h2,h4] at g2
  exact⟨by rw[<-h3];exact g1,g2⟩
 .obtain⟨e1,h1,h2,_,_⟩:=up b ent hb
  obtain⟨e2,h1',h2',_,_⟩:=up b' ent' hb'
  exact hr.inj b b' e1 e2 e e' hne h1 h1' (by rw[h2];exact ha) (by rw[h2'];exact ha') hm hm'
 .rw[<-h.next]
  exact hr.dom b e hm
 .obtain⟨e1,h1,_⟩:=up b ent hb
  rw[<-h.next]
  exact hr.wf b e1 h1
omit [Pins] in
theorem Like.step{ck:Nat}{bU Z V:aC}{m m':Mp}{w w':World}(h:Like ck Z V)(hck:bU.clock<=ck)(hs:Step bU V m m' w w'):Step bU Z m m' w w':=by
 refine⟨hs.le,by rw[<-h.next];exact hs.next,fun b e hb=>?_,hs.size,fun k hk hno=>hs.keep k hk fun b e ent hm hro hbl hg=>?_,hs.os,hs.tape,hs.output,by rw[<-h.clock];exact hs.clock,fun b ent hb=>?_,fun b ent hb=>?_⟩
 .rcases hs.fresh b e hb with h1|⟨h1,h2,h3,h4⟩
  .exact .inl h1
  .refine .inr ⟨h1,h2,h3,h4.imp id ?_⟩
   rintro⟨b0,e0,ent0,k1,k2,k3,k4,k5⟩
   rcases h.get b0 with g|⟨e1,e2,g1,g2,_,_,_,g6,g7⟩
   .exact⟨b0,e0,ent0,k1,k2,k3,by rw[<-g];exact k4,k5⟩
   .exact⟨b0,e0,e1,k1,k2,k3,g1,by omega⟩
 .rcases h.get b with g|⟨e1,e2,g1,g2,_,_,_,g6,g7⟩
  .exact hno b e ent hm hro hbl (by rw[<-g];exact hg)
  .have:=hno b e e1 hm hro hbl g1
   omega
 .rcases h.get b with g|⟨e1,e2,g1,g2,_,_,_,g6,g7⟩
  .exact hs.ver b ent (by rw[g];exact hb)
  .rw[hb] at g1
   cases g1
   exact .inr (by omega)
 .obtain⟨ent',h1⟩:=hs.has b ent hb
  rcases h.get b with g|⟨e1,e2,g1,g2,_,_,_,g6,g7⟩
  .exact⟨ent',by rw[<-g];exact h1⟩
  .exact⟨e1,g1⟩
omit [Pins] in
theorem W5{α:Type}{o o':Nat}{x y c c1 c2:List α}(h1:spliceN o x c=some c1)(h2:spliceN o' y c1=some c2)(hd:o'+y.length<=o\/o+x.length<=o'):∃d,spliceN o' y c=some d/\spliceN o x d=some c2:=by
 rw[DW] at h1 h2
 by_cases g1:o+x.length<=c.length
 .rw[if_pos g1] at h1
  simp only[Option.some.injEq] at h1
  have l1:c1.length=c.length:=by
   rw[<-h1]
   simp
   omega
  by_cases g2:o'+y.length<=c1.length
  .rw[if_pos g2] at h2
   simp only[Option.some.injEq] at h2
   have g3:o'+y.length<=c.length:=by omega
   refine⟨c.take o'++y++c.drop (o'+y.length),by rw[DW,if_pos g3],?_⟩
   have l2:(c.take o'++y++c.drop (o'+y.length)).length=c.length:=by
    simp
    omega
   rw[DW,if_pos (by omega)]
   congr 1
   rw[<-h2]
   apply List.ext_getElem?
   intro i
   rw[getElem?_splice (by omega),getElem?_splice g3,getElem?_splice g2,<-h1,getElem?_splice g1]
   split
   .split
    .rfl
    .split
     .rfl
     .rfl
   .split
    .split
     .rfl
     .split
      .omega
      .rfl
    .split
     .rfl
     .split
      .rfl
      .rfl
  .rw[if_neg g2] at h2
   cases h2
 .rw[if_neg g1] at h1
  cases h1
omit [Pins] in
theorem Ve{nA nB:Nat}{pA pB vA vB:Value}{Z bS a_:aC}(h1:aK nB pB vB Z=.skip bS)(h2:aK nA pA vA bS=.skip a_)(hd:apartP nA nB pA pB=true):
  ∃cF cG,aK nA pA vA Z=.skip cF/\aK nB pB vB cF=.skip cG/\Like Z.clock a_ cG:=by
 obtain⟨b,o,e,c,el,c1,rfl,hg,ho,hro,hc,hs,rfl⟩:=FO h1
 obtain⟨b',o',e',c',el',c2,rfl,hg',ho',hro',hc',hs',rfl⟩:=FO h2
 have hlB:(aI vB).length=nB:=by
  simp only[Bool.and_eq_true,Nat.beq_eq,EC] at hc
  exact hc.1.2
 have hlA:(aI vA).length=nA:=by
  simp only[Bool.and_eq_true,Nat.beq_eq,EC] at hc'
  exact hc'.1.2
 have hd':b'≠b\/o'+nA<=o\/o+nB<=o':=by
  have hq:(!Nat.beq b' b||Nat.ble (o'+nA) o||Nat.ble (o+nB) o')=true:=hd
  simp only[Bool.or_eq_true,Bool.not_eq_true',Nat.ble_eq] at hq
  rcases hq with(hq|hq)|hq
  .left
   intro hx
   subst hx
   rw[IC] at hq
   cases hq
  .exact .inr (.inl hq)
  .exact .inr (.inr hq)
 by_cases hb:b'=b
 .subst hb
  rw[Gm,if_pos rfl] at hg'
  cases hg'
  simp only[FObj.cells.injEq] at ho'
  obtain⟨rfl,rfl⟩:=ho'
  obtain⟨d,k1,k2⟩:=W5 hs hs' (by
   rcases hd' with h|h|h
   .exact absurd rfl h
   .exact .inl (by omega)
   .exact .inr (by omega))
  refine⟨_,_,HN hg ho hro hc' k1,HN (e:=⟨.cells d el,false,e.fz,Z.clock⟩) (by rw[Gm,if_pos rfl]) rfl rfl hc k2,⟨rfl,rfl,fun x=>.inl ?_⟩⟩
  simp only[Gm]
  by_cases hx:x=b'
  .simp[hx]
   rfl
  .simp[hx]
 .rw[Gm,if_neg hb] at hg'
  refine⟨_,_,HN hg' ho' hro' hc' hs',HN (e:=e) (by rw[Gm,if_neg (fun x=>hb x.symm)];exact hg) ho hro hc hs,⟨rfl,rfl,fun x=>?_⟩⟩
  simp only[Gm]
  by_cases hx:x=b
  .have hxb:¬ x=b':=fun h=>hb (by rw[<-h,hx])
   right
   rw[if_neg hxb,if_pos hx,if_pos hx]
   exact⟨_,_,rfl,rfl,rfl,rfl,rfl,Nat.le_refl _,Nat.le_succ _⟩
  .by_cases hx':x=b'
   .right
    rw[if_pos hx',if_neg hx,if_pos hx']
    exact⟨_,_,rfl,rfl,rfl,rfl,rfl,Nat.le_succ _,Nat.le_refl _⟩
   .left
    rw[if_neg hx',if_neg hx,if_neg hx,if_neg hx']
omit [Pins] in
theorem Kn{P:Program}{t:TypeId}{x v:Operand}{n:Nat}(h:bN P t=some n)(a:aV)(Z:aC):(cop P (.store t x v)).un a Z=aK n ((cget x).un a) ((cget v).un a) Z:=by
 simp only[cop,h]
structure Sw (P:Program) {ops:Array Oper} (pl:Pl ops) (T:Nat->TS) (Np B A:Nat) where
 np:Np=pl.N
 N:A+1=pl.N
 lt:B<A
 tB:TypeId
 xB:Operand
 vB:Operand
 nB:Nat
 tA:TypeId
 xA:Operand
 vA:Operand
 nA:Nat
 opB:(pl.op B).op=.store tB xB vB
 gB:(pl.op B).guard=none
 dB:(pl.op B).dst=none
 fB:pl.flt B=none
 szB:bN P tB=some nB
 opA:(pl.op A).op=.store tA xA vA
 gA:(pl.op A).guard=none
 dA:(pl.op A).dst=none
 fA:pl.flt A=none
 szA:bN P tA=some nA
 mid:∀j,B<j->j<A->(pl.flt j).isSome=true
 next:(T A).Z.next=(T (B+1)).Z.next
 stB:aK nB ((cget xB).un (T B).a) ((cget vB).un (T B).a) (T B).Z=.skip (T (B+1)).Z
 aB:(T (B+1)).a=(T B).a
 uB:(T (B+1)).u=(T B).u
 stA:aK nA ((cget xA).un (T A).a) ((cget vA).un (T A).a) (T A).Z=.skip (T (A+1)).Z
 aA:(T (A+1)).a=(T A).a
 uA:(T (A+1)).u=(T A).u
 apart:apartP nA nB ((cget xA).un (T A).a) ((cget xB).un (T B).a)=true
section
variable {P:Program} {E:Env} {ro:Option Nat} {ops:Array Oper} {pl:Pl ops} {T:Nat->TS} {Np:Nat} {b:Frame} {k':List Item} {rest:List Nat} {cs0:List Frame} {m0:Mp} {w0:World} {D:Nat->Prop} {s:Nat} {m:Mp} {c:Act} {w:World} {cs:List Frame} {A B:Nat}
omit [Pins] in
theorem Sw.flat(hT:Tr' P E ro pl T Np)(hM:Mono T Np)(sw:Sw P pl T Np B A):(T A).Z=(T (B+1)).Z/\(T A).u=(T B).u/\(T A).a.defers=(T B).a.defers:=by
 have hle:=hT.le
 have h1:=sw.np
 have h2:=sw.N
 have h3:=sw.lt
 have key:∀j,B+1<=j->j<=A->(T j).Z=(T (B+1)).Z/\(T j).u=(T B).u/\(T j).a.defers=(T B).a.defers:=by
  intro j
  induction j with
  | zero=>intro h;omega
  | succ j ih=>
   intro hj hA
   by_cases hjB:j=B
   .subst hjB
    exact⟨rfl,sw.uB,by rw[sw.aB]⟩
   .obtain⟨g1,g2,g3⟩:=ih (by omega) (by omega)
    have hf:=sw.mid j (by omega) (by omega)
    obtain⟨k1,k2,k3⟩:=(hT.st j (by omega)).flt hf (pl.isf j (by omega) hf)
    refine⟨?_,k1.trans g2,k2.trans g3⟩
    rcases k3 with k3|⟨ob,fz,k3⟩
    .rw[k3,g1]
    .have:=(hM (j+1) A hA (by omega)).next
     rw[sw.next,k3,<-g1] at this
     have h5:((T j).Z.push ob fz).next=(T j).Z.next+1:=rfl
     omega
 exact key A (by omega) (Nat.le_refl _)
structure InvA (sw:Sw P pl T Np B A) (kind:CallKind) (cs0:List Frame) (m0:Mp) (w0:World) (D:Nat->Prop) (m:Mp) (c:Act) (w:World) (cs:List Frame):Prop where
 all:∀j,j<pl.N->j≠B->D j
 nB:¬ D B
 mem:∃bS a_,Rel Top m bS w/\Step (T 0).Z bS m0 m w0 w/\aK sw.nB ((cget sw.xB).un (T B).a) ((cget sw.vB).un (T B).a) bS=.skip a_/\Like (T B).Z.clock (T (A+1)).Z a_
 look:∃ds,bK m (poison ((pl.op B).looksAt ops) (T B).a ds) c
 slots:bK m (T (A+1)).a c
 urel:URel m (T (A+1)).u kind cs
 under:Under kind cs0 cs
theorem Inv.pickSwap(hok:pl.Ok)(hT:Tr' P E ro pl T Np)(hM:Mono T Np)(h:Inv pl T Np b.kind cs0 m0 w0 D s m c w cs)(sw:Sw P pl T Np B A)(hr:pl.Ready D A)(hndA:¬ D A)(hndB:¬ D B)(hD:∀j,j<A->j≠B->D j):
  ∃m' w',InvA sw b.kind cs0 m0 w0 (Pl.ins D A) m' c w' cs/\St P (lone (b.atR c (.inRegion ops (pl.ix A::rest)::k')) cs w) (lone (b.atR c (.inRegion ops rest::k')) cs w'):=by
 have hle:=hT.le
 have q1:=sw.np
 have q2:=sw.N
 have q3:=sw.lt
 have hsB:s<=B:=Nat.le_of_not_lt fun hlt=>hndB (h.low B hlt)
 have h1:=h.absorbTo hT (hM.le (K':=B) (by omega)) hsB fun j hj=>hD j (by omega) (by omega)
 obtain⟨hσ,hu,hdf⟩:=sw.flat hT hM
 have hnxB:(T (B+1)).Z.next=(T B).Z.next:=by
  obtain⟨_,_,_,_,_,_,_,_,_,_,_,_,h2⟩:=FO sw.stB
  rw[h2]
  rfl
 have hnxA:(T A).Z.next=(T B).Z.next:=by rw[sw.next,hnxB]
 have hrB:pl.Ready D B:=fun e he hb j hj heq=>by
  obtain⟨j2,g1,g2⟩:=pl.bind B (by omega) e he hb
  have:=pl.inj j hj j2 (by omega) (by rw[heq,g2])
  exact hD j (by omega) (by omega)
 have hlA:=h1.look hok hT (hM.le (K':=A) (by omega)) (by omega) (by omega) (by omega) hr hndA
 have hlB:=h1.look hok hT (hM.le (K':=B) (by omega)) (by omega) (by omega) (Nat.le_refl _) hrB hndB
 rw[hnxA] at hlA
 have hstA:=sw.stA
 rw[hσ] at hstA
 obtain⟨bS,a_,k1,k2,k3⟩:=Ve sw.stB hstA sw.apart
 have hcop:(cop P (pl.op A).op).un (T A).a (T B).Z=.skip bS:=by
  rw[sw.opA,Kn sw.szA]
  exact k1
 have hO:=Fy (P:=P) h1.rel hlA (pl.op A)
 rw[<-FN,hcop] at hO
 obtain⟨m',w',hrun,hR,hS⟩:=hO
 have hstep:=PQ (b:=b) (k':=k') (rest:=rest) (cs:=cs) (pl.hop A (by omega)) (by simp[Region.wanted,sw.gA]) (fun cc hx=>by rw[sw.opA] at hx;cases hx) hrun
 rw[sw.dA] at hstep
 have hmono:∀i,i<=A->(m.cut (T i).Z.next).le m':=fun i hi x e hx=>by
  refine hS.le x e ?_
  rw[Mp.cut_some] at hx ⊢
  have:=(hM i A hi (by omega)).next
  exact⟨by omega,hx.2⟩
 have hdone:∀j,D j->j<A:=fun j hj=>by
  have:=h.dN j hj
  have hne:j≠A:=fun x=>hndA (x ▸ hj)
  omega
 refine⟨m',w',⟨fun j hj hne=>?_,fun hx=>?_,⟨bS,a_,hR,h1.step.trans hS,k2,k3⟩,⟨_,hlB.mono hS.le⟩,⟨⟨?_,fun t=>?_⟩,?_⟩,?_,h1.under⟩,hstep⟩
 .by_cases hjA:j=A
  .exact .inl hjA
  .exact .inr (hD j (by omega) hne)
 .rcases hx with hx|hx
  .omega
  .exact hndB hx
 .rw[h1.size]
  exact(hT.nt (A+1) (by omega)).symm
 .show bE m' ((T (A+1)).a.get t) _
  rw[sw.aA]
  rcases h1.slot t with⟨j,hj,hw,hv⟩|⟨hno,hv⟩
  .have hjA:=hdone j hj
   rw[hT.get (i:=j+1) (j:=A) (by omega) (by omega) fun i g1 g2 g3=>by
    have:=Wr.uniq (pl:=pl) (T:=T) (by omega) (by omega) g3 hw
    omega]
   exact hv.mono (hmono (j+1) (by omega))
  .rw[hT.get (i:=0) (j:=A) (by omega) (by omega) fun i _ g2 g3=>by
    by_cases hiB:i=B
    .subst hiB
     have:=g3.1
     rw[sw.dB] at this
     cases this
    .exact hno i (hD i g2 hiB) g3]
   exact hv.mono (hmono 0 (by omega))
 .rw[sw.aA]
  rw[hdf]
  exact h1.defers.mono hS.le
 .rw[sw.uA,hu]
  exact h1.urel.mono hS.le
structure Fin' (pl:Pl ops) (T:Nat->TS) (kind:CallKind) (cs0:List Frame) (m0:Mp) (w0:World) (D:Nat->Prop) (m:Mp) (c:Act) (w:World) (cs:List Frame):Prop where
 all:∀j,j<pl.N->D j
 rel:Rel Top m (T pl.N).Z w
 step:Step (T 0).Z (T pl.N).Z m0 m w0 w
 slots:bK m (T pl.N).a c
 urel:URel m (T pl.N).u kind cs
 under:Under kind cs0 cs
theorem InvA.pick(hT:Tr' P E ro pl T Np)(hM:Mono T Np)(sw:Sw P pl T Np B A)(h:InvA sw b.kind cs0 m0 w0 D m c w cs):
  ∃m' w',Fin' pl T b.kind cs0 m0 w0 (Pl.ins D B) m' c w' cs/\St P (lone (b.atR c (.inRegion ops (pl.ix B::rest)::k')) cs w) (lone (b.atR c (.inRegion ops rest::k')) cs w'):=by
 have hle:=hT.le
 have q1:=sw.np
 have q2:=sw.N
 have q3:=sw.lt
 obtain⟨bS,a_,hR1,hS1,k2,k3⟩:=h.mem
 obtain⟨ds,hl⟩:=h.look
 have hcop:(cop P (pl.op B).op).un (T B).a bS=.skip a_:=by
  rw[sw.opB,Kn sw.szB]
  exact k2
 have hO:=Fy (P:=P) hR1 hl (pl.op B)
 rw[<-FN,hcop] at hO
 obtain⟨m',w',hrun,hR,hS⟩:=hO
 have hstep:=PQ (b:=b) (k':=k') (rest:=rest) (cs:=cs) (pl.hop B (by omega)) (by simp[Region.wanted,sw.gB]) (fun cc hx=>by rw[sw.opB] at hx;cases hx) hrun
 rw[sw.dB] at hstep
 have hck:=(hM 0 B (Nat.zero_le _) (by omega)).clock
 have hrel:=k3.rel hR
 have hst:=k3.step hck (hS1.trans hS)
 rw[q2] at hrel hst
 have hsl:=h.slots.mono hS.le
 have hur:=h.urel.mono hS.le
 rw[q2] at hsl hur
 refine⟨m',w',⟨fun j hj=>?_,hrel,hst,hsl,hur,h.under⟩,hstep⟩
 by_cases hjB:j=B
 .exact .inl hjB
 .exact .inr (h.all j hj hjB)
def EndOK(P:Program)(E:Env)(ro:Option Nat){ops:Array Oper}(pl:Pl ops)(T:Nat->TS)(Np:Nat)(r:KRes):Prop:=
 (Np=pl.N/\r=.done .normal (T pl.N).a (T pl.N).u (T pl.N).Z)\/
  (Np<pl.N/\pl.flt Np=none/\(∀j,Np<j->j<pl.N->pl.Needs j Np)/\(cguard ops (pl.op Np).guard).un (T Np).a=some true/\
   ∃e a' u' V,e≠.normal/\stepOp E ro (pl.op Np).dst (T Np).a (T Np).u ((cop P (pl.op Np).op).un (T Np).a (T Np).Z)=.done e a' u' V/\r=.done e a' u' V)
def left(listed:Array Bool):Nat->Nat
 | 0=>0
 | n+1=>left listed n+(if listed.getD n true then 0 else 1)
omit [Pins] in
theorem ApL(listed:Array Bool)(n:Nat):left listed n<=n:=by
 induction n with
 | zero=>exact Nat.le_refl _
 | succ n ih=>
  unfold left
  split<;>omega
omit [Pins] in
theorem Vn{listed:Array Bool}{i:Nat}(hi:listed.getD i true=false):∀n,left (listed.setIfInBounds i true) n+(if i<n then 1 else 0)=left listed n
 | 0=>rfl
 | n+1=>by
  have ih:=Vn hi n
  have e:∀x:Array Bool,left x (n+1)=left x n+(if x.getD n true then 0 else 1):=fun _=>rfl
  rw[e,e]
  by_cases hin:i=n
  .subst hin
   have hlt:i<listed.size:=by
    rcases Nat.lt_or_ge i listed.size with h|h
    .exact h
    .simp[Array.getElem?_eq_none h] at hi
   have h1:(listed.setIfInBounds i true).getD i true=true:=by simp[hlt]
   rw[h1,hi]
   simp at ih ⊢
   omega
  .rw[getD_set_ne true hin]
   by_cases hlt:i<n
   .rw[if_pos hlt] at ih
    rw[if_pos (show i<n+1 by omega)]
    omega
   .rw[if_neg hlt] at ih
    rw[if_neg (show ¬ i<n+1 by omega)]
    omega
omit [Pins] in
theorem O1{listed:Array Bool}:∀n,left listed n=0->∀i,i<n->listed.getD i true=true
 | 0,_,i,hi=>absurd hi (Nat.not_lt_zero _)
 | n+1,h,i,hi=>by
  unfold left at h
  by_cases hin:i=n
  .subst hin
   cases hq:listed.getD i true with
   | true=>rfl
   | false=>rw[hq] at h;simp at h
  .exact O1 n (by omega) i (by omega)
def Dof(pl:Pl ops)(listed:Array Bool):Nat->Prop:=fun k=>k<pl.N/\listed.getD (pl.ix k) false=true
omit [Pins] in
theorem An7{listed:Array Bool}{k:Nat}(hk:k<pl.N)(hsz:listed.size=ops.size):Dof pl (listed.setIfInBounds (pl.ix k) true)=Pl.ins (Dof pl listed) k:=by
 have hlt:pl.ix k<listed.size:=by
  rw[hsz]
  exact(Array.getElem?_eq_some_iff.1 (pl.hop k hk)).1
 funext j
 apply propext
 unfold Dof Pl.ins
 constructor
 .rintro⟨h1,h2⟩
  by_cases hjk:j=k
  .exact .inl hjk
  .right
   rw[getD_set_ne false (fun x=>hjk (pl.inj k hk j h1 x).symm)] at h2
   exact⟨h1,h2⟩
 .rintro(rfl|⟨h1,h2⟩)
  .exact⟨hk,by simp[hlt]⟩
  .exact⟨h1,getD_set_true h2⟩
theorem Ao1(hE:EnvOK P E)(hok:pl.Ok)(hT:Tr' P E ro pl T Np)(hro:RoRel m0 ro b)(hM:Mono T Np){r:KRes}(hend:EndOK P E ro pl T Np r)(hanch:∀k,k<pl.N->k<=Np->pl.flt k=none->∀j,j<k->pl.Needs k j\/Nonempty (Sw P pl T Np j k)):
  ∀(fuel t:Nat) (listed:Array Bool) (m:Mp) (c:Act) (w:World) (cs:List Frame),listed.size=ops.size->left listed ops.size<=fuel->
   ((∃s,Inv pl T Np b.kind cs0 m0 w0 (Dof pl listed) s m c w cs)\/(∃B A,∃sw:Sw P pl T Np B A,InvA sw b.kind cs0 m0 w0 (Dof pl listed) m c w cs)\/(Np=pl.N/\Fin' pl T b.kind cs0 m0 w0 (Dof pl listed) m c w cs))->
   KOK P m0 (T 0).Z w0 b k' cs0 (lone (b.atR c (.inRegion ops (Region.linearise.go .any ops fuel t listed [])::k')) cs w) r:=by
 have hle:=hT.le
 have done:∀(listed:Array Bool) (m:Mp) (c:Act) (w:World) (cs:List Frame),(∀k,k<pl.N->Dof pl listed k)->
   ((∃s,Inv pl T Np b.kind cs0 m0 w0 (Dof pl listed) s m c w cs)\/(∃B A,∃sw:Sw P pl T Np B A,InvA sw b.kind cs0 m0 w0 (Dof pl listed) m c w cs)\/(Np=pl.N/\Fin' pl T b.kind cs0 m0 w0 (Dof pl listed) m c w cs))->
   KOK P m0 (T 0).Z w0 b k' cs0 (lone (b.atR c (.inRegion ops []::k')) cs w) r:=fun listed m c w cs hall h=>by
  rcases h with⟨s,h⟩|⟨B,A,sw,h⟩|⟨hNp,h⟩
  .rcases hend with⟨hNp,rfl⟩|⟨hNp,_⟩
   .have:=h.fin (k':=k') hT hM fun j hj=>hall j (by omega)
    rw[hNp] at this
    exact this
   .exact absurd (h.dN Np (hall Np hNp)) (Nat.lt_irrefl _)
  .have h1:=sw.N
   have h2:=sw.lt
   exact absurd (hall B (by omega)) h.nB
  .rcases hend with⟨_,rfl⟩|⟨hlt,_⟩
   .exact⟨m,w,.normal,c,cs,h.rel,h.step,.normal,h.slots,h.urel,h.under,.one trivial stepR_region_end⟩
   .omega
 intro fuel
 induction fuel with
 | zero=>
  intro t listed m c w cs hsz hleft h
  refine done listed m c w cs (fun k hk=>⟨hk,?_⟩) h
  have hlt:pl.ix k<ops.size:=(Array.getElem?_eq_some_iff.1 (pl.hop k hk)).1
  have:=O1 (listed:=listed) ops.size (by omega) (pl.ix k) hlt
  rw[Array.getD_eq_getD_getElem?] at this ⊢
  cases hq:listed[pl.ix k]? with
  | none=>
   rw[Array.getElem?_eq_none_iff] at hq
   omega
  | some x=>
   rw[hq] at this
   exact this
 | succ fuel ih=>
  intro t listed m c w cs hsz hleft h
  simp only[Region.linearise.go]
  change KOK P m0 (T 0).Z w0 b k' cs0 (lone (b.atR c (.inRegion ops (match (Region.ready .any ops listed)[t % (Region.ready .any ops listed).length]? with
   | some i=>Region.linearise.go .any ops fuel (t / (Region.ready .any ops listed).length) (listed.setIfInBounds i true) [i]
   | none=>[].reverse)::k')) cs w) r
  cases hi:(Region.ready .any ops listed)[t % (Region.ready .any ops listed).length]? with
  | none=>
   have hnil:Region.ready .any ops listed=[]:=by
    cases hr:Region.ready .any ops listed with
    | nil=>rfl
    | cons x xs=>
     rw[hr] at hi
     have hlt:t % (x::xs).length<(x::xs).length:=Nat.mod_lt _ (by simp)
     simp at hi
     simp at hlt
     omega
   refine done listed m c w cs ?_ h
   intro k
   induction k using Nat.strongRecOn with
   | ind k ihk=>
    intro hk
    refine⟨hk,?_⟩
    cases hq:listed.getD (pl.ix k) false with
    | true=>rfl
    | false=>
     have hlt:pl.ix k<ops.size:=(Array.getElem?_eq_some_iff.1 (pl.hop k hk)).1
     have:pl.ix k∈Region.ready .any ops listed:=by
      rw[mem_ready]
      refine⟨?_,pl.op k,pl.hop k hk,fun e he hb=>?_⟩
      .rw[Array.getD_eq_getD_getElem?] at hq ⊢
       cases hz:listed[pl.ix k]? with
       | none=>
        rw[Array.getElem?_eq_none_iff] at hz
        omega
       | some x=>
        rw[hz] at hq
        exact hq
      .obtain⟨j,hj,hje⟩:=pl.bind k hk e he hb
       rw[<-hje]
       exact(ihk j hj (by omega)).2
     rw[hnil] at this
     cases this
  | some i=>
   simp only[]
   rw[linearise_go_acc,List.reverse_singleton,List.singleton_append]
   have hmem:i∈Region.ready .any ops listed:=List.mem_of_getElem? hi
   rw[mem_ready] at hmem
   obtain⟨hnl,o,hoi,hafter⟩:=hmem
   have hilt:i<ops.size:=(Array.getElem?_eq_some_iff.1 hoi).1
   obtain⟨k,hk,rfl⟩:=pl.all i hilt
   have hopk:pl.op k=o:=by
    have:=pl.hop k hk
    rw[hoi] at this
    exact(Option.some.inj this).symm
   have hnd:¬ Dof pl listed k:=fun hx=>by
    have h1:=hx.2
    rw[Array.getD_eq_getD_getElem?] at h1 hnl
    cases hz:listed[pl.ix k]? with
    | none=>rw[hz] at h1;cases h1
    | some x=>
     rw[hz] at h1 hnl
     simp at h1 hnl
     rw[h1] at hnl
     cases hnl
   have hr:pl.Ready (Dof pl listed) k:=fun e he hb j hj heq=>⟨hj,by
    rw[heq]
    rw[hopk] at he
    exact hafter e he hb⟩
   have hleft':left (listed.setIfInBounds (pl.ix k) true) ops.size<=fuel:=by
    have:=Vn hnl ops.size
    rw[if_pos hilt] at this
    omega
   have hsz':(listed.setIfInBounds (pl.ix k) true).size=ops.size:=by simp[hsz]
   have next:=fun(m:Mp) (c:Act) (w:World) (cs:List Frame)=>ih (t / (Region.ready .any ops listed).length) (listed.setIfInBounds (pl.ix k) true) m c w cs hsz' hleft'
   rw[An7 hk hsz] at next
   rcases h with⟨s,h⟩|⟨B,A,sw,h⟩|⟨hNp,h⟩
   .have hkNp:k<=Np:=Nat.le_of_not_lt fun hlt=>by
     rcases hend with⟨hNp,_⟩|⟨hNp,_,hneeds,_⟩
     .omega
     .rcases Pl.needs_ready h.cl hr (hneeds k hlt hk) with h1|h1
      .omega
      .exact absurd (h.dN Np h1) (Nat.lt_irrefl _)
    cases hf:pl.flt k with
    | some q=>
     have hlt:k<Np:=by
      rcases Nat.lt_or_ge k Np with h1|h1
      .exact h1
      .have hkeq:k=Np:=by omega
       rcases hend with⟨hNp,_⟩|⟨hNp,hfN,_⟩
       .omega
       .rw[hkeq,hfN] at hf
        cases hf
     have hsk:s<=k:=Nat.le_of_not_lt fun hlt=>hnd (h.low k hlt)
     obtain⟨m',c',w',h1,h2⟩:=h.pickF (b:=b) (k':=k') (rest:=Region.linearise.go .any ops fuel (t / (Region.ready .any ops listed).length) (listed.setIfInBounds (pl.ix k) true) []) hok hT hM (fun j hj=>h.dN j hj) hlt hlt hsk hnd hr (by rw[hf];rfl)
     exact KOK.from (.refl _ _ _) (.refl _ _) h2 (next m' c' w' cs (.inl ⟨s,h1⟩))
    | none=>
     by_cases hall:∀j,j<k->Dof pl listed j
     .have hsk:s<=k:=Nat.le_of_not_lt fun hlt=>hnd (h.low k hlt)
      have h1:=h.absorbTo hT (hM.le hkNp) hsk hall
      rcases Nat.lt_or_ge k Np with hlt|hge
      .obtain⟨⟨m',c',w',cs',h2,h3⟩,_⟩:=h1.pickA (b:=b) (k':=k') (rest:=Region.linearise.go .any ops fuel (t / (Region.ready .any ops listed).length) (listed.setIfInBounds (pl.ix k) true) []) hE hok hT hro hM (fun j hj=>h.dN j hj) hkNp hlt hnd hr hf
       exact KOK.from (.refl _ _ _) (.refl _ _) h3 (next m' c' w' cs' (.inl ⟨_,h2⟩))
      .have hkeq:k=Np:=by omega
       subst hkeq
       rcases hend with⟨hNp,_⟩|⟨_,_,_,hg,e,a',u',V,he,hs,rfl⟩
       .omega
       .exact h1.pickP hE hok hT hro hM hk hnd hr hg he hs
     .have hex:∃j,j<k/\¬ Dof pl listed j:=Classical.byContradiction fun hno=>hall fun j hj=>Classical.byContradiction fun hd=>hno ⟨j,hj,hd⟩
      obtain⟨j,hj,hjd⟩:=hex
      rcases hanch k hk hkNp hf j hj with hn|⟨⟨sw⟩⟩
      .rcases Pl.needs_ready h.cl hr hn with h1|h1
       .omega
       .exact absurd h1 hjd
      .have hD:∀i,i<k->i≠j->Dof pl listed i:=fun i hik hij=>by
        rcases hanch k hk hkNp hf i hik with hn|⟨⟨sw'⟩⟩
        .rcases Pl.needs_ready h.cl hr hn with h1|h1
         .omega
         .exact h1
        .rcases Nat.lt_or_ge i j with h1|h1
         .have:=sw'.mid j h1 hj
          rw[sw.fB] at this
          cases this
         .have:=sw.mid i (by omega) hik
          rw[sw'.fB] at this
          cases this
       obtain⟨m',w',h1,h2⟩:=h.pickSwap (b:=b) (k':=k') (rest:=Region.linearise.go .any ops fuel (t / (Region.ready .any ops listed).length) (listed.setIfInBounds (pl.ix k) true) []) hok hT hM sw hr hnd hjd hD
       exact KOK.from (.refl _ _ _) (.refl _ _) h2 (next m' c w' cs (.inr (.inl ⟨j,k,sw,h1⟩)))
   .have hkB:k=B:=Classical.byContradiction fun hne=>hnd (h.all k hk hne)
    subst hkB
    obtain⟨m',w',h1,h2⟩:=h.pick (b:=b) (k':=k') (rest:=Region.linearise.go .any ops fuel (t / (Region.ready .any ops listed).length) (listed.setIfInBounds (pl.ix k) true) []) hT hM sw
    exact KOK.from (.refl _ _ _) (.refl _ _) h2 (next m' c w' cs (.inr (.inr ⟨sw.np,h1⟩)))
   .exact absurd (h.all k hk) hnd
end
end Go.Eng
namespace Go.Eng
open Go
theorem Ml(s j:Nat):bit s j=s.testBit j:=by
 unfold bit
 have h1:Nat.land (Nat.shiftRight s j) 1=s / 2 ^ j % 2:=by
  show (s >>> j) &&& 1=_
  rw[Nat.and_one_is_mod,Nat.shiftRight_eq_div_pow]
 rw[h1,Nat.testBit_eq_decide_div_mod_eq]
 rw[Bool.eq_iff_iff,Nat.beq_eq,decide_eq_true_iff]
theorem Aa0(a b j:Nat):bit (Nat.lor a b) j=(bit a j||bit b j):=by
 rw[Ml,Ml,Ml]
 exact Nat.testBit_or a b j
theorem Aod(x j:Nat):bit (Nat.pow 2 x) j=decide (x=j):=by
 rw[Ml]
 exact Nat.testBit_two_pow
theorem Mm(j:Nat):bit 0 j=false:=by
 rw[Ml]
 exact Nat.zero_testBit j
theorem Qc(c:List Nat)(j:Nat):∀l:List Nat,bit (closBits c l) j=true->∃x,x∈l/\(x=j\/bit (closOf c x) j=true):=by
 intro l
 induction l with
 | nil=>
  intro h
  have:closBits c []=0:=rfl
  rw[this,Mm] at h
  cases h
 | cons x l ih=>
  intro h
  have e:closBits c (x::l)=Nat.lor (Nat.lor (Nat.pow 2 x) ((nth c x).getD 0)) (closBits c l):=rfl
  rw[e,Aa0,Aa0,Aod] at h
  simp only[Bool.or_eq_true,decide_eq_true_eq] at h
  rcases h with(h|h)|h
  .exact⟨x,by simp,.inl h⟩
  .exact⟨x,by simp,.inr h⟩
  .obtain⟨y,h1,h2⟩:=ih h
   exact⟨y,by simp[h1],h2⟩
def ClI(ops:Array Oper)(D:Nat->Prop):Prop:=∀i o,ops[i]? = some o->D i->∀e∈o.after,Region.binds .any e=true->D e.on
theorem Le{o:Oper}{x:Nat}:x∈binding o↔∃e,e∈o.after/\Region.binds .any e=true/\e.on=x:=by
 unfold binding
 rw[List.mem_filterMap]
 constructor
 .rintro⟨e,he,hx⟩
  cases hb:Region.binds .any e with
  | false=>rw[hb] at hx;cases hx
  | true=>
   rw[hb] at hx
   cases hx
   exact⟨e,by simpa using he,hb,rfl⟩
 .rintro⟨e,he,hb,rfl⟩
  exact⟨e,by simpa using he,by rw[hb];rfl⟩
theorem FU(ops:Array Oper)(n:Nat):(clos ops n).length=n:=by
 induction n with
 | zero=>rfl
 | succ n ih=>
  show (clos ops n++[closBits (clos ops n) (bindingOf ops n)]).length=n+1
  simp[ih]
theorem Xs{ops:Array Oper}{D:Nat->Prop}(hD:ClI ops D):∀(n i j:Nat),bit (closOf (clos ops n) i) j=true->D i->D j:=by
 intro n
 induction n with
 | zero=>
  intro i j h _
  have:closOf (clos ops 0) i=0:=rfl
  rw[this,Mm] at h
  cases h
 | succ n ih=>
  intro i j h hi
  have e:clos ops (n+1)=clos ops n++[closBits (clos ops n) (bindingOf ops n)]:=rfl
  by_cases hlt:i<n
  .have:closOf (clos ops (n+1)) i=closOf (clos ops n) i:=by
    unfold closOf
    rw[ED,ED,e,List.getElem?_append_left (by rw[FU];exact hlt)]
   rw[this] at h
   exact ih i j h hi
  .by_cases hin:i=n
   .subst hin
    have:closOf (clos ops (i+1)) i=closBits (clos ops i) (bindingOf ops i):=by
     unfold closOf
     rw[ED,e,List.getElem?_append_right (by rw[FU];exact Nat.le_refl _),FU]
     simp
    rw[this] at h
    obtain⟨x,hx,hxj⟩:=Qc _ _ _ h
    have hDx:D x:=by
     unfold bindingOf at hx
     cases ho:ops[i]? with
     | none=>rw[ho] at hx;cases hx
     | some o=>
      rw[ho] at hx
      obtain⟨e',h1,h2,rfl⟩:=Le.1 hx
      exact hD i o ho hi e' h1 h2
    rcases hxj with rfl|hxj
    .exact hDx
    .exact ih x j hxj hDx
   .have:closOf (clos ops (n+1)) i=0:=by
     unfold closOf
     rw[ED,List.getElem?_eq_none (by rw[FU];omega)]
     rfl
    rw[this,Mm] at h
    cases h
theorem Adp:∀(n:Nat) (l:List Nat),l.Nodup->(∀x∈l,x<n)->l.length<=n:=by
 intro n
 induction n with
 | zero=>
  intro l _ h
  cases l with
  | nil=>exact Nat.le_refl _
  | cons x l=>exact absurd (h x (by simp)) (Nat.not_lt_zero _)
 | succ n ih=>
  intro l hn h
  by_cases hm:n∈l
  .have h1:=ih (l.erase n) (hn.erase n) fun x hx=>by
    have h2:=(List.Nodup.mem_erase_iff hn).1 hx
    have:=h x h2.2
    omega
   rw[List.length_erase_of_mem hm] at h1
   omega
  .have:=ih l hn fun x hx=>by
    have h1:=h x hx
    have:x≠n:=fun e=>hm (e ▸ hx)
    omega
   omega
def anchorsOf(l:List PStep):List Nat:=(l.filter fun p=>p.flt.isNone).map (·.i)
theorem Ln(ops:Array Oper)(cl:List Nat)(dsts:List (Tmp×Nat))(n:Nat):∀(L:List PStep) (done anchors:List Nat),planOk ops cl dsts n L done anchors=true->
  (∀pre p post,L=pre++p::post->stepOk ops cl dsts p ((pre.map (·.i)).reverse++done) (anchors++anchorsOf pre)=true/\(p.free=true->∀r∈post,bit (closOf cl r.i) p.i=true))/\L.length+done.length=n:=by
 intro L
 induction L with
 | nil=>
  intro done anchors h
  have h':Nat.beq (len done) n=true:=h
  rw[Nat.beq_eq,EC] at h'
  refine⟨fun pre p post hL=>?_,by simp[h']⟩
  cases pre<;>cases hL
 | cons q L ih=>
  intro done anchors h
  have h':(stepOk ops cl dsts q done anchors&&(!q.free||L.all fun r=>bit (closOf cl r.i) q.i)&&planOk ops cl dsts n L (q.i::done) (match q.flt with|some _=>anchors|none=>anchors++[q.i]))=true:=h
  simp only[Bool.and_eq_true] at h'
  obtain⟨⟨h1,h2⟩,h3⟩:=h'
  obtain⟨h4,h5⟩:=ih _ _ h3
  refine⟨fun pre p post hL=>?_,by simp at h5 ⊢;omega⟩
  cases pre with
  | nil=>
   simp only[List.nil_append,List.cons.injEq] at hL
   obtain⟨rfl,rfl⟩:=hL
   refine⟨by simpa [anchorsOf] using h1,fun hf r hr=>?_⟩
   rw[hf] at h2
   simp only[Bool.not_true,Bool.false_or,List.all_eq_true] at h2
   exact h2 r hr
  | cons q' pre=>
   simp only[List.cons_append,List.cons.injEq] at hL
   obtain⟨rfl,hL⟩:=hL
   obtain⟨h6,h7⟩:=h4 pre p post hL
   refine⟨?_,h7⟩
   have e1:((q::pre).map (·.i)).reverse++done=(pre.map (·.i)).reverse++q.i::done:=by simp
   have e2:anchors++anchorsOf (q::pre)=(match q.flt with|some _=>anchors|none=>anchors++[q.i])++anchorsOf pre:=by
    unfold anchorsOf
    cases hqf:q.flt<;>simp[List.filter_cons,hqf]
   rw[e1,e2]
   exact h6
theorem Afx{L:List PStep}{k:Nat}{p:PStep}(h:L[k]? = some p):L=L.take k++p::L.drop (k+1):=by
 have hk:k<L.length:=(List.getElem?_eq_some_iff.1 h).1
 have h1:L.drop k=p::L.drop (k+1):=by
  rw[List.drop_eq_getElem_cons hk]
  congr 1
  exact(List.getElem?_eq_some_iff.1 h).2
 rw[<-h1,List.take_append_drop]
theorem AnX{L:List PStep}{k:Nat}{p:PStep}(h:p∈L.take k):∃j,j<k/\L[j]? = some p:=by
 obtain⟨j,hj,he⟩:=List.getElem_of_mem h
 have hjk:j<k:=by
  have:=hj
  simp at this
  omega
 refine⟨j,hjk,?_⟩
 rw[<-he,<-List.getElem?_eq_getElem,List.getElem?_take_of_lt hjk]
theorem Vq{L:List PStep}{k j:Nat}{p:PStep}(hj:j<k)(h:L[j]? = some p):p∈L.take k:=by
 have h1:(L.take k)[j]? = some p:=by rw[List.getElem?_take_of_lt hj,h]
 exact List.mem_of_getElem? h1
theorem Agl{L:List PStep}{k j:Nat}{p:PStep}(hj:k<j)(h:L[j]? = some p):p∈L.drop (k+1):=by
 have h1:(L.drop (k+1))[j-(k+1)]? = some p:=by
  rw[List.getElem?_drop,<-h]
  congr 1
  omega
 exact List.mem_of_getElem? h1
section
variable {ops:Array Oper} {L:List PStep}
structure Spot (ops:Array Oper) (L:List PStep) (k:Nat) (p:PStep) (o:Oper):Prop where
 ho:ops[p.i]? = some o
 new:∀j q,j<k->L[j]? = some q->q.i≠p.i
 bind:∀e∈o.after,Region.binds .any e=true->∃j q,j<k/\L[j]? = some q/\q.i=e.on
 looks:∀t∈o.looksAt ops,∀d∈dstsOf ops,d.1=t->d.2=p.i\/bit (closOf (clos ops ops.size) p.i) d.2=true\/bit (closOf (clos ops ops.size) d.2) p.i=true
 flt:∀q,p.flt=some q->isFlt o.op=true
 lam:∀q,p.flt=some (q+1)->∃a,(anchorsOf (L.take k))[q]? = some a/\bit (closOf (clos ops ops.size) p.i) a=true
 anch:p.flt=none->∀j q,j<k->L[j]? = some q->bit (closOf (clos ops ops.size) p.i) q.i=true\/p.sw=some q.i
 free:p.free=true->∀j q,k<j->L[j]? = some q->bit (closOf (clos ops ops.size) q.i) p.i=true
theorem spot(hp:planOk ops (clos ops ops.size) (dstsOf ops) ops.size L [] []=true){k:Nat}{p:PStep}(hk:L[k]? = some p):∃o,Spot ops L k p o:=by
 obtain⟨h1,_⟩:=Ln _ _ _ _ _ _ _ hp
 obtain⟨h2,h3⟩:=h1 _ _ _ (Afx hk)
 unfold stepOk at h2
 cases ho:ops[p.i]? with
 | none=>rw[ho] at h2;cases h2
 | some o=>
  rw[ho] at h2
  simp only[List.append_nil,List.nil_append,Bool.and_eq_true,Bool.not_eq_true',List.all_eq_true] at h2
  obtain⟨⟨⟨g1,g2⟩,g3⟩,g4⟩:=h2
  refine⟨o,ho,fun j q hj hq he=>?_,fun e he hb=>?_,fun t ht d hd hdt=>?_,fun q hq=>?_,fun q hq=>?_,fun hf j q hj hq=>?_,fun hf j q hj hq=>h3 hf q (Agl hj hq)⟩
  .have hmem:p.i∈((L.take k).map (·.i)).reverse:=by
    rw[List.mem_reverse,List.mem_map]
    exact⟨q,Vq hj hq,he⟩
   rw[<-List.contains_iff_mem,g1] at hmem
   cases hmem
  .have:=g2 e.on (Le.2 ⟨e,he,hb,rfl⟩)
   rw[List.contains_iff_mem,List.mem_reverse,List.mem_map] at this
   obtain⟨q,hq,hqe⟩:=this
   obtain⟨j,hj,hjq⟩:=AnX hq
   exact⟨j,q,hj,hjq,hqe⟩
  .have:=g3 t ht d hd
   subst hdt
   rw[IC] at this
   simp only[Bool.not_true,Bool.false_or,Bool.or_eq_true,Nat.beq_eq] at this
   rcases this with(h|h)|h
   .exact .inl h
   .exact .inr (.inl h)
   .exact .inr (.inr h)
  .rw[hq] at g4
   simp only[Bool.and_eq_true] at g4
   exact g4.1
  .rw[hq] at g4
   simp only[Bool.and_eq_true] at g4
   have g5:=g4.2
   rw[ED] at g5
   cases ha:(anchorsOf (L.take k))[q]? with
   | none=>rw[ha] at g5;cases g5
   | some a=>
    rw[ha] at g5
    exact⟨a,rfl,g5⟩
  .rw[hf] at g4
   simp only[List.all_eq_true,Bool.or_eq_true] at g4
   have hmem:q.i∈((L.take k).map (·.i)).reverse:=by
    rw[List.mem_reverse,List.mem_map]
    exact⟨q,Vq hj hq,rfl⟩
   rcases g4 q.i hmem with h|h
   .exact .inl h
   .right
    cases hs:p.sw with
    | none=>rw[hs] at h;cases h
    | some b=>
     rw[hs] at h
     simp only[Nat.beq_eq] at h
     rw[h]
def ixOf(L:List PStep)(k:Nat):Nat:=((L[k]?).map (·.i)).getD 0
def opOf(ops:Array Oper)(L:List PStep)(k:Nat):Oper:=(ops[ixOf L k]?).getD default
def fltOf(L:List PStep)(k:Nat):Option Nat:=(L[k]?).bind (·.flt)
theorem Dn{k:Nat}{p:PStep}(h:L[k]? = some p):ixOf L k=p.i:=by
 unfold ixOf
 rw[h]
 rfl
theorem EE{k:Nat}{p:PStep}(h:L[k]? = some p):fltOf L k=p.flt:=by
 unfold fltOf
 rw[h]
 rfl
theorem EG{k:Nat}{p:PStep}{o:Oper}(h:L[k]? = some p)(ho:ops[p.i]? = some o):opOf ops L k=o:=by
 unfold opOf
 rw[Dn h,ho]
 rfl
theorem Ek{k:Nat}(h:k<L.length):∃p,L[k]? = some p:=⟨_,List.getElem?_eq_getElem h⟩
theorem M4{i t:Nat}{o:Oper}(ho:ops[i]? = some o)(hd:o.dst=some t):(t,i)∈dstsOf ops:=by
 unfold dstsOf
 rw[List.mem_filterMap]
 have hlt:i<ops.size:=(Array.getElem?_eq_some_iff.1 ho).1
 exact⟨i,by simpa using hlt,by rw[ho];simp[hd]⟩
theorem KE(hp:planOk ops (clos ops ops.size) (dstsOf ops) ops.size L [] []=true){j k:Nat}(hj:j<L.length)(hk:k<L.length)(h:ixOf L j=ixOf L k):j=k:=by
 obtain⟨p,hp1⟩:=Ek hj
 obtain⟨q,hq1⟩:=Ek hk
 rw[Dn hp1,Dn hq1] at h
 obtain⟨_,h1⟩:=spot hp hp1
 obtain⟨_,h2⟩:=spot hp hq1
 rcases Nat.lt_trichotomy j k with h3|h3|h3
 .exact absurd h (h2.new j p h3 hp1)
 .exact h3
 .exact absurd h.symm (h1.new k q h3 hq1)
def mkPl(hp:planOk ops (clos ops ops.size) (dstsOf ops) ops.size L [] []=true)(hd:dstsOk (dstsOf ops)=true):Pl ops where
 N:=L.length
 ix:=ixOf L
 op:=opOf ops L
 flt:=fltOf L
 hop:=fun k hk=>by
  obtain⟨p,h⟩:=Ek hk
  obtain⟨o,hs⟩:=spot hp h
  rw[Dn h,EG h hs.ho,hs.ho]
 inj:=fun j hj k hk h=>KE hp hj hk h
 all:=fun i hi=>by
  have hlen:=(Ln _ _ _ _ _ _ _ hp).2
  simp at hlen
  refine Classical.byContradiction fun hno=>?_
  have hnd:∀n,n<=L.length->((List.range n).map (ixOf L)).Nodup:=fun n=>by
   induction n with
   | zero=>intro _;simp
   | succ n ih=>
    intro hn
    rw[List.range_succ,List.map_append,List.nodup_append]
    refine⟨ih (by omega),by simp,fun x hx y hy hxy=>?_⟩
    simp only[List.map_cons,List.map_nil,List.mem_singleton] at hy
    obtain⟨j,hj,rfl⟩:=List.mem_map.1 hx
    rw[List.mem_range] at hj
    rw[hy] at hxy
    have:=KE hp (show j<L.length by omega) (show n<L.length by omega) hxy
    omega
  have h1:=Adp ops.size (i::(List.range L.length).map (ixOf L)) (List.nodup_cons.2 ⟨fun hmem=>by
   obtain⟨j,hj,he⟩:=List.mem_map.1 hmem
   rw[List.mem_range] at hj
   exact hno ⟨j,hj,he⟩,hnd _ (Nat.le_refl _)⟩) fun x hx=>by
    rcases List.mem_cons.1 hx with rfl|hx
    .exact hi
    .obtain⟨j,hj,rfl⟩:=List.mem_map.1 hx
     rw[List.mem_range] at hj
     obtain⟨p,h⟩:=Ek hj
     obtain⟨o,hs⟩:=spot hp h
     rw[Dn h]
     exact(Array.getElem?_eq_some_iff.1 hs.ho).1
  simp at h1
  omega
 bind:=fun k hk e he hb=>by
  obtain⟨p,h⟩:=Ek hk
  obtain⟨o,hs⟩:=spot hp h
  rw[EG h hs.ho] at he
  obtain⟨j,q,h1,h2,h3⟩:=hs.bind e he hb
  exact⟨j,h1,by rw[Dn h2,h3]⟩
 isf:=fun k hk hf=>by
  obtain⟨p,h⟩:=Ek hk
  obtain⟨o,hs⟩:=spot hp h
  rw[EE h] at hf
  rw[EG h hs.ho]
  obtain⟨q,hq⟩:=Option.isSome_iff_exists.1 hf
  exact hs.flt q hq
 dst:=fun j hj k hk t h1 h2=>by
  obtain⟨p,h3⟩:=Ek hj
  obtain⟨o,hs⟩:=spot hp h3
  obtain⟨q,h4⟩:=Ek hk
  obtain⟨o',hs'⟩:=spot hp h4
  rw[EG h3 hs.ho] at h1
  rw[EG h4 hs'.ho] at h2
  have m1:=M4 hs.ho h1
  have m2:=M4 hs'.ho h2
  unfold dstsOk at hd
  rw[List.all_eq_true] at hd
  have hd1:=hd _ m1
  rw[List.all_eq_true] at hd1
  have hd2:=hd1 _ m2
  simp only[IC,Bool.not_true,Bool.false_or,Nat.beq_eq] at hd2
  refine KE hp hj hk ?_
  rw[Dn h3,Dn h4,hd2]
variable (hp:planOk ops (clos ops ops.size) (dstsOf ops) ops.size L [] []=true) (hd:dstsOk (dstsOf ops)=true)
theorem Hy{k j:Nat}(hk:k<L.length)(hj:j<L.length)(h:bit (closOf (clos ops ops.size) (ixOf L k)) (ixOf L j)=true):(mkPl hp hd).Needs k j:=by
 intro D hD hDk
 have hcl:ClI ops (fun i=>∃k,k<L.length/\ixOf L k=i/\D k):=by
  rintro i o ho ⟨k',hk',rfl,hd'⟩ e he hb
  obtain⟨p,h1⟩:=Ek hk'
  obtain⟨o',hs⟩:=spot hp h1
  have hoo:o'=o:=by
   have:=hs.ho
   rw[<-Dn h1,ho] at this
   exact(Option.some.inj this).symm
  subst hoo
  obtain⟨j',q,h2,h3,h4⟩:=hs.bind e he hb
  have hj':j'<L.length:=(List.getElem?_eq_some_iff.1 h3).1
  refine⟨j',hj',by rw[Dn h3,h4],hD k' hk' hd' e ?_ hb j' hj' (by show ixOf L j'=e.on;rw[Dn h3,h4])⟩
  show e∈(opOf ops L k').after
  rw[EG h1 hs.ho]
  exact he
 obtain⟨j',h1,h2,h3⟩:=Xs hcl ops.size _ _ h ⟨k,hk,rfl,hDk⟩
 rw[<-KE hp h1 hj h2]
 exact h3
theorem Axy:(mkPl hp hd).Ok:=by
 refine⟨fun k hk t ht j hj hdst=>?_⟩
 have hk':k<L.length:=hk
 have hj':j<L.length:=hj
 obtain⟨p,h1⟩:=Ek hk'
 obtain⟨o,hs⟩:=spot hp h1
 obtain⟨q,h2⟩:=Ek hj'
 obtain⟨o',hs'⟩:=spot hp h2
 have ht':t∈o.looksAt ops:=by
  have:t∈(opOf ops L k).looksAt ops:=ht
  rw[EG h1 hs.ho] at this
  exact this
 have hdst':o'.dst=some t:=by
  have:(opOf ops L j).dst=some t:=hdst
  rw[EG h2 hs'.ho] at this
  exact this
 rcases hs.looks t ht' _ (M4 hs'.ho hdst') rfl with h|h|h
 .left
  refine KE hp hj' hk' ?_
  rw[Dn h1,Dn h2]
  exact h
 .exact .inr (.inl (Hy hp hd hk' hj' (by rw[Dn h1,Dn h2];exact h)))
 .exact .inr (.inr (Hy hp hd hj' hk' (by rw[Dn h1,Dn h2];exact h)))
end
end Go.Eng
namespace Go.Eng
open Go
variable [Pins]
def consT(t:TS)(T:Nat->TS):Nat->TS
 | 0=>t
 | k+1=>T k
section
variable {P:Program} {E:Env} {ro:Option Nat} {ops:Array Oper}
structure Trace (P:Program) (E:Env) (ro:Option Nat) (ops:Array Oper) (last:List Nat->aZ) (L:List PStep) (t:TS) (r:KRes) (T:Nat->TS) (Np:Nat):Prop where
 zero:T 0=t
 le:Np<=L.length
 st:∀k,k<Np->∃p o,L[k]? = some p/\ops[p.i]? = some o/\StepT P E ro ops o p.flt (T k) (T (k+1))
 fin:(Np=L.length/\r=last (T Np).cl (T Np).a (T Np).u (T Np).Z)\/(Np<L.length/\∃p o e a' u' V,L[Np]? = some p/\ops[p.i]? = some o/\p.flt=none/\p.free=true/\(cguard ops o.guard).un (T Np).a=some true/\
  e≠.normal/\stepOp E ro o.dst (T Np).a (T Np).u ((cop P o.op).un (T Np).a (T Np).Z)=.done e a' u' V/\r=.done e a' u' V)
omit [Pins] in
theorem Trace.cons{last:List Nat->aZ}{L:List PStep}{t t':TS}{r:KRes}{T:Nat->TS}{Np:Nat}{p:PStep}{o:Oper}(h:Trace P E ro ops last L t' r T Np)(ho:ops[p.i]? = some o)(hs:StepT P E ro ops o p.flt t t'):
  Trace P E ro ops last (p::L) t r (consT t T) (Np+1):=by
 refine⟨rfl,by simp;exact h.le,fun k hk=>?_,?_⟩
 .cases k with
  | zero=>
   refine⟨p,o,rfl,ho,?_⟩
   show StepT P E ro ops o p.flt t (T 0)
   rw[h.zero]
   exact hs
  | succ k=>
   obtain⟨p',o',h1,h2,h3⟩:=h.st k (by omega)
   exact⟨p',o',by simpa using h1,h2,h3⟩
 .rcases h.fin with⟨h1,h2⟩|⟨h1,p',o',e,a',u',V,g1,g2,g3,g4,g5,g6,g7,g8⟩
  .exact .inl ⟨by simp[h1],h2⟩
  .exact .inr ⟨by simp;exact h1,p',o',e,a',u',V,by simpa using g1,g2,g3,g4,g5,g6,g7,g8⟩
omit [Pins] in
theorem Xo{p:PStep}{o:Oper}{L:List PStep}(ho:ops[p.i]? = some o):(cdops P ops (p::L)).un=⟨(cop P o.op).un,o.dst,(cguard ops o.guard).un,p.flt,p.free⟩::(cdops P ops L).un:=by
 show (match ops[p.i]? with
  | some o=>(⟨⟨(cop P o.op).un,o.dst,(cguard ops o.guard).un,p.flt,p.free⟩::(cdops P ops L).un⟩:Bx (List DOp))
  | none=>⟨[]⟩).un=_
 rw[ho]
omit [Pins] in
theorem Hq(last:List Nat->aZ):∀(L:List PStep),(∀p∈L,∃o,ops[p.i]? = some o)->∀t:TS,bM E ro last (cdops P ops L).un t.cl t.a t.u t.Z≠.no->
  ∃T Np,Trace P E ro ops last L t (bM E ro last (cdops P ops L).un t.cl t.a t.u t.Z) T Np:=by
 intro L
 induction L with
 | nil=>exact fun _ t _=>⟨fun _=>t,0,rfl,Nat.le_refl _,fun k hk=>absurd hk (Nat.not_lt_zero _),.inl ⟨rfl,rfl⟩⟩
 | cons p L ih=>
  intro hL t hno
  obtain⟨o,ho⟩:=hL p (by simp)
  have ih':=ih fun q hq=>hL q (by simp[hq])
  rw[Xo ho] at hno ⊢
  generalize hr:bM E ro last (⟨(cop P o.op).un,o.dst,(cguard ops o.guard).un,p.flt,p.free⟩::(cdops P ops L).un) t.cl t.a t.u t.Z=r at hno ⊢
  have hr':(Option.rec (motive:=fun _=>KRes) .no
    (fun g=>match p.flt with
     | none=>Bool.rec (motive:=fun _=>KRes) (bM E ro last (cdops P ops L).un (t.cl++[t.Z.clock]) (t.a.put o.dst skipV) t.u t.Z)
       (drawA p.free (fun a u Z=>bM E ro last (cdops P ops L).un (t.cl++[Z.clock]) a u Z) (stepOp E ro o.dst t.a t.u ((cop P o.op).un t.a t.Z))) g
     | some q=>Bool.rec (motive:=fun _=>KRes) (bM E ro last (cdops P ops L).un t.cl (t.a.put o.dst skipV) t.u t.Z)
       (match nth t.cl q with
        | some lam=>drawF o.dst t.a t.u t.Z (bM E ro last (cdops P ops L).un t.cl) ((cop P o.op).un t.a (view t.Z lam))
        | none=>.no) g)
    ((cguard ops o.guard).un t.a):KRes)=r:=hr
  clear hr
  have go:∀t':TS,StepT P E ro ops o p.flt t t'->bM E ro last (cdops P ops L).un t'.cl t'.a t'.u t'.Z=r->∃T Np,Trace P E ro ops last (p::L) t r T Np:=fun t' hs hf=>by
   obtain⟨T,Np,hT⟩:=ih' t' (by rw[hf];exact hno)
   rw[hf] at hT
   exact⟨_,_,hT.cons ho hs⟩
  cases hg:(cguard ops o.guard).un t.a with
  | none=>
   rw[hg] at hr'
   exact absurd hr'.symm hno
  | some g=>
   rw[hg] at hr'
   simp only at hr'
   cases hf:p.flt with
   | none=>
    rw[hf] at hr'
    simp only at hr'
    cases g with
    | false=>exact go ⟨t.a.put o.dst skipV,t.u,t.Z,t.cl++[t.Z.clock]⟩ (.askip hf hg rfl) hr'
    | true=>
     simp only at hr'
     cases hs:stepOp E ro o.dst t.a t.u ((cop P o.op).un t.a t.Z) with
     | no=>
      rw[hs] at hr'
      exact absurd hr'.symm hno
     | done e a' u' V=>
      rw[hs] at hr'
      have panics:e≠.normal->drawA p.free (fun a u Z=>bM E ro last (cdops P ops L).un (t.cl++[Z.clock]) a u Z) (.done e a' u' V)=cond p.free (.done e a' u' V) .no:=fun he=>by
       cases e<;>first|exact absurd rfl he|rfl
      by_cases he:e=.normal
      .subst he
       exact go ⟨a',u',V,t.cl++[V.clock]⟩ (.anch hf hg hs rfl) hr'
      .rw[panics he] at hr'
       cases hfr:p.free with
       | false=>
        rw[hfr] at hr'
        exact absurd hr'.symm hno
       | true=>
        rw[hfr] at hr'
        exact⟨fun _=>t,0,rfl,Nat.zero_le _,fun k hk=>absurd hk (Nat.not_lt_zero _),.inr ⟨by simp,p,o,e,a',u',V,rfl,ho,hf,hfr,hg,he,hs,hr'.symm⟩⟩
   | some q=>
    rw[hf] at hr'
    simp only at hr'
    cases g with
    | false=>exact go ⟨t.a.put o.dst skipV,t.u,t.Z,t.cl⟩ (.fskip q hf hg rfl) hr'
    | true=>
     simp only at hr'
     cases hl:nth t.cl q with
     | none=>
      rw[hl] at hr'
      exact absurd hr'.symm hno
     | some lam=>
      rw[hl] at hr'
      simp only at hr'
      unfold drawF at hr'
      split at hr'
      .rename_i v V hv
       cases hg2:regrow t.Z V with
       | none=>
        rw[hg2] at hr'
        exact absurd hr'.symm hno
       | some a_=>
        rw[hg2] at hr'
        exact go ⟨t.a.put o.dst v,t.u,a_,t.cl⟩ (.float q lam v V hf hg hl hv hg2 rfl rfl rfl) hr'
      .exact absurd hr'.symm hno
omit [Pins] in
theorem StepT.cl{o:Oper}{f:Option Nat}{t t':TS}(h:StepT P E ro ops o f t t'):(f=none->t'.cl=t.cl++[t'.Z.clock])/\(f.isSome=true->t'.cl=t.cl):=by
 cases h with
 | askip hf hg ht=>subst ht;exact⟨fun _=>rfl,fun h=>(by rw[hf] at h;cases h)⟩
 | anch hf hg h hc=>exact⟨fun _=>hc,fun h=>(by rw[hf] at h;cases h)⟩
 | fskip q hf hg ht=>subst ht;exact⟨fun h=>(by rw[hf] at h;cases h),fun _=>rfl⟩
 | float q lam v V hf hg hl h hr ha hu hc=>exact⟨fun h=>(by rw[hf] at h;cases h),fun _=>hc⟩
def aPos(L:List PStep)(k:Nat):List Nat:=(List.range k).filter fun j=>(fltOf L j).isNone
omit [Pins] in
theorem OE(L:List PStep)(k:Nat):aPos L (k+1)=aPos L k++(if (fltOf L k).isNone then [k] else []):=by
 unfold aPos
 rw[List.range_succ,List.filter_append,List.filter_cons,List.filter_nil]
omit [Pins] in
theorem Xg(L:List PStep):∀k,k<=L.length->anchorsOf (L.take k)=(aPos L k).map (ixOf L):=by
 intro k
 induction k with
 | zero=>intro _;rfl
 | succ k ih=>
  intro hk
  obtain⟨p,hp⟩:=Ek (L:=L) (k:=k) (by omega)
  rw[List.take_add_one,hp,OE,List.map_append,<-ih (by omega),EE hp]
  unfold anchorsOf
  rw[List.filter_append,List.map_append]
  congr 1
  cases hf:p.flt with
  | none=>simp[List.filter_cons,hf,Dn hp]
  | some q=>simp[List.filter_cons,hf]
omit [Pins] in
theorem Axp{L:List PStep}{T:Nat->TS}{Np:Nat}(hNp:Np<=L.length)(st:∀k,k<Np->∃p o,L[k]? = some p/\ops[p.i]? = some o/\StepT P E ro ops o p.flt (T k) (T (k+1)))(h0:(T 0).cl=[(T 0).Z.clock]):
  ∀k,k<=Np->(T k).cl=(T 0).Z.clock::(aPos L k).map fun j=>(T (j+1)).Z.clock:=by
 intro k
 induction k with
 | zero=>intro _;exact h0
 | succ k ih=>
  intro hk
  obtain⟨p,o,hp,ho,hs⟩:=st k (by omega)
  rw[OE,List.map_append,EE hp]
  cases hf:p.flt with
  | none=>
   rw[(hs.cl).1 hf,ih (by omega)]
   simp
  | some q=>
   rw[(hs.cl).2 (by rw[hf];rfl),ih (by omega)]
   simp
section
variable {L:List PStep} {T:Nat->TS} {Np:Nat}
omit [Pins] in
theorem Axz(hp:planOk ops (clos ops ops.size) (dstsOf ops) ops.size L [] []=true)(hd:dstsOk (dstsOf ops)=true)(hNp:Np<=L.length)(st:∀k,k<Np->∃p o,L[k]? = some p/\ops[p.i]? = some o/\StepT P E ro ops o p.flt (T k) (T (k+1)))(h0:(T 0).cl=[(T 0).Z.clock]):Tr' P E ro (mkPl hp hd) T Np:=by
 refine⟨hNp,fun k hk=>?_,fun k hk q lam hf hl=>?_⟩
 .obtain⟨p,o,h1,h2,h3⟩:=st k hk
  show StepT P E ro ops (opOf ops L k) (fltOf L k) (T k) (T (k+1))
  rw[EG h1 h2,EE h1]
  exact h3
 .obtain⟨p,o,h1,h2,h3⟩:=st k hk
  have hf':p.flt=some q:=by
   rw[<-EE h1]
   exact hf
  rw[Axp hNp st h0 k (by omega),ED] at hl
  cases q with
  | zero=>
   simp only[List.getElem?_cons_zero,Option.some.injEq] at hl
   exact .inl hl.symm
  | succ q=>
   right
   obtain⟨o',hs⟩:=spot hp h1
   obtain⟨a,g1,g2⟩:=hs.lam q hf'
   rw[Xg L k (by omega),List.getElem?_map] at g1
   rw[List.getElem?_cons_succ,List.getElem?_map] at hl
   cases hj:(aPos L k)[q]? with
   | none=>rw[hj] at g1;cases g1
   | some j=>
    rw[hj] at g1 hl
    simp only[Option.map_some,Option.some.injEq] at g1 hl
    have hmem:=List.mem_of_getElem? hj
    unfold aPos at hmem
    rw[List.mem_filter,List.mem_range] at hmem
    refine⟨j,hmem.1,Option.isNone_iff_eq_none.1 hmem.2,Hy hp hd (by omega) (by omega) ?_,hl.symm⟩
    rw[Dn h1,g1]
    exact g2
theorem Kt(hE:EnvOK P E)(hm:P.follows .mixedOrders=true)(hp:planOk ops (clos ops ops.size) (dstsOf ops) ops.size L [] []=true)(hd:dstsOk (dstsOf ops)=true)(hNp:Np<=L.length)(st:∀k,k<Np->∃p o,L[k]? = some p/\ops[p.i]? = some o/\StepT P E ro ops o p.flt (T k) (T (k+1))){r:KRes}(hend:EndOK P E ro (mkPl hp hd) T Np r)(hsw:∀k p j q,L[k]? = some p->k<=Np->L[j]? = some q->j<k->p.sw=some q.i->Nonempty (Sw P (mkPl hp hd) T Np j k)){a:aV}{u:Option FrameMode}{Z:aC}(h0:T 0=⟨a,u,Z,[Z.clock]⟩){id:Nat}{b:Frame}{k':List Item}{cs:List Frame}{c:Act}{m:Mp}{w:World}(hr:Rel Top m Z w)(ha:bK m a c)(hu:URel m u b.kind cs)(hro:RoRel m ro b):
  KOK P m Z w b k' cs (lone (b.atR c (.code (.region id ops true)::k')) cs w) r:=by
 have hT:=Axz hp hd hNp st (by rw[h0])
 have hok:=Axy hp hd
 have hr1:Rel Top m Z { w with drawn:=w.drawn+1 }:=hr.sameHeap rfl
 refine KOK.from (Step.sameHeap Z m (w:=w) (w':={ w with drawn:=w.drawn+1 }) rfl rfl rfl rfl) (.refl _ _) (.one trivial stepR_region_draw) ?_
 have hI:=Inv.first (c:=c) (w:={ w with drawn:=w.drawn+1 }) hT (by rw[h0]) (by rw[h0]) (by rw[h0]) hr1 ha hu
 have hM:=hT.mono hE hok hro hI
 have hsch:∀t,Region.schedule (P.follows .mixedOrders) ops t=Region.linearise.go .any ops ops.size t (Array.replicate ops.size false) []:=fun t=>by
  simp only[Region.schedule,hm,Bool.true_or,if_true]
  rfl
 rw[hsch]
 have hDof:Dof (mkPl hp hd) (Array.replicate ops.size false)=fun _=>False:=by
  funext k
  apply propext
  unfold Dof
  constructor
  .rintro⟨_,h⟩
   rw[Array.getD_eq_getD_getElem?] at h
   cases hq:(Array.replicate ops.size false)[(mkPl hp hd).ix k]? with
   | none=>rw[hq] at h;cases h
   | some x=>
    rw[hq] at h
    rw[Array.getElem?_replicate] at hq
    split at hq
    .cases hq
     cases h
    .cases hq
  .exact fun h=>h.elim
 have key:=Ao1 (k':=k') (cs0:=cs) hE hok hT hro hM hend (fun k hk hkN hf j hj=>?_) ops.size (w.tape w.drawn (.order b.fn id)) (Array.replicate ops.size false) m c { w with drawn:=w.drawn+1 } cs (by simp) (ApL _ _) (.inl ⟨0,by rw[hDof];exact hI⟩)
 .have hσ:(T 0).Z=Z:=by rw[h0]
  rw[hσ] at key
  exact key
 .have hk':k<L.length:=hk
  obtain⟨p,h1⟩:=Ek hk'
  obtain⟨q,h2⟩:=Ek (L:=L) (k:=j) (by omega)
  obtain⟨o,hs⟩:=spot hp h1
  have hf':p.flt=none:=by
   rw[<-EE h1]
   exact hf
  rcases hs.anch hf' j q hj h2 with h3|h3
  .exact .inl (Hy hp hd hk' (by omega) (by rw[Dn h1,Dn h2];exact h3))
  .exact .inr (hsw k p j q h1 hkN h2 hj h3)
omit [Pins] in
theorem OQ(hp:planOk ops (clos ops ops.size) (dstsOf ops) ops.size L [] []=true)(hd:dstsOk (dstsOf ops)=true)(hlt:Np<L.length){p:PStep}{o:Oper}{e:Exit}{a':aV}{u':Option FrameMode}{V:aC}{r:KRes}(h1:L[Np]? = some p)(h2:ops[p.i]? = some o)(h3:p.flt=none)(h4:p.free=true)(h5:(cguard ops o.guard).un (T Np).a=some true)(h6:e≠.normal)(h7:stepOp E ro o.dst (T Np).a (T Np).u ((cop P o.op).un (T Np).a (T Np).Z)=.done e a' u' V)(h8:r=.done e a' u' V):
  EndOK P E ro (mkPl hp hd) T Np r:=by
 obtain⟨o',hs⟩:=spot hp h1
 have hop:(mkPl hp hd).op Np=o:=EG h1 h2
 refine .inr ⟨hlt,by show fltOf L Np=none;rw[EE h1,h3],fun j hj hjN=>?_,by rw[hop];exact h5,e,a',u',V,h6,by rw[hop];exact h7,h8⟩
 obtain⟨q,g1⟩:=Ek (L:=L) (k:=j) hjN
 exact Hy hp hd hjN hlt (by rw[Dn g1,Dn h1];exact hs.free h4 j q hj g1)
end
end
end Go.Eng
namespace Go.Eng
open Go
variable [Pins]
omit [Pins] in
theorem ApS{ops:Array Oper}{p:Plan}(h:plan ops=some p):dstsOk (dstsOf ops)=true/\planOk2 ops (clos ops ops.size) (dstsOf ops) p=true:=by
 have h2:∀q,plan2 ops (clos ops ops.size) (dstsOf ops) q=some p->dstsOk (dstsOf ops)=true/\planOk2 ops (clos ops ops.size) (dstsOf ops) p=true:=fun q hq=>by
  unfold plan2 at hq
  cases hc:(dstsOk (dstsOf ops)&&planOk2 ops (clos ops ops.size) (dstsOf ops) q) with
  | false=>rw[hc] at hq;cases hq
  | true=>
   rw[hc] at hq
   cases hq
   rw[Bool.and_eq_true] at hc
   exact hc
 unfold plan at h
 simp only at h
 split at h
 .rename_i q hq
  cases h
  exact h2 _ hq
 .split at h
  .split at h
   .exact h2 _ h
   .cases h
  .cases h
omit [Pins] in
theorem Js{ops:Array Oper}{i:Nat}(h:isStore ops i=true):∃o t x v,ops[i]? = some o/\o.op=.store t x v/\o.dst=none/\o.guard=none:=by
 unfold isStore at h
 cases ho:ops[i]? with
 | none=>rw[ho] at h;cases h
 | some o=>
  rw[ho] at h
  simp only at h
  split at h
  .rename_i t x v h1 h2 h3
   exact⟨o,t,x,v,rfl,h1,h2,h3⟩
  .cases h
def glue(T1 T2:Nat->TS)(fin:TS)(n l:Nat):Nat->TS:=fun k=>if k<=n then T1 k else if k<=n+1+l then T2 (k-n-1) else fin
section
variable {P:Program} {E:Env}
omit [Pins] in
theorem OP{ops:Array Oper}{i:Nat}{o:Oper}{t:TypeId}{x v:Operand}(ho:ops[i]? = some o)(hop:o.op=.store t x v){s:SOp}(h:(cstore P ops i).un=some s):∃n,bN P t=some n/\s=⟨n,(cget x).un,(cget v).un⟩:=by
 unfold cstore at h
 rw[ho] at h
 simp only[hop] at h
 cases hs:bN P t with
 | none=>rw[hs] at h;cases h
 | some n=>
  rw[hs] at h
  cases h
  exact⟨n,rfl,rfl⟩
omit [Pins] in
theorem NV{ro:Option Nat}{ops:Array Oper}{o:Oper}{t:TypeId}{x v:Operand}{n:Nat}{a:aV}{u:Option FrameMode}{Z V:aC}{cl:List Nat}(hop:o.op=.store t x v)(hd:o.dst=none)(hg:o.guard=none)(hn:bN P t=some n)(h:aK n ((cget x).un a) ((cget v).un a) Z=.skip V):StepT P E ro ops o none ⟨a,u,Z,cl⟩ ⟨a,u,V,cl++[V.clock]⟩:=by
 refine .anch rfl (by rw[hg];rfl) ?_ rfl
 show stepOp E ro o.dst a u ((cop P o.op).un a Z)=.done .normal a u V
 rw[hop,Kn hn,h,hd]
 rfl
theorem Aa7(hm:P.follows .mixedOrders=true)(hE:EnvOK P E):DrawOK P E:=by
 intro id ops p hplan ro fn b k cs a c u Z m w hb hr ha hu hro
 obtain⟨hd,hp2⟩:=ApS hplan
 show KOK P m Z w b k cs _ (bM E ro ((cswap P ops p.tail).un E ro) (cdops P ops p.main).un [Z.clock] a u Z)
 generalize hres:bM E ro ((cswap P ops p.tail).un E ro) (cdops P ops p.main).un [Z.clock] a u Z=r
 by_cases hno:r=.no
 .rw[hno];trivial
 obtain⟨main,tail⟩:=p
 unfold planOk2 at hp2
 cases tail with
 | none=>
  simp only[Bool.and_eq_true,List.all_eq_true] at hp2
  obtain⟨hp,hsn⟩:=hp2
  obtain⟨T,Np,hT⟩:=Hq (P:=P) (E:=E) (ro:=ro) ((cswap P ops none).un E ro) main (fun q hq=>by
   obtain⟨j,hj,he⟩:=List.getElem_of_mem hq
   obtain⟨o,hs⟩:=spot hp (L:=main) (k:=j) (p:=q) (by rw[List.getElem?_eq_getElem hj,he])
   exact⟨o,hs.ho⟩) ⟨a,u,Z,[Z.clock]⟩ (by
    show bM E ro ((cswap P ops none).un E ro) (cdops P ops main).un [Z.clock] a u Z≠.no
    rw[hres];exact hno)
  have hT':Trace P E ro ops ((cswap P ops none).un E ro) main ⟨a,u,Z,[Z.clock]⟩ r T Np:=by
   rw[<-hres]
   exact hT
  have hend:EndOK P E ro (mkPl hp hd) T Np r:=by
   rcases hT'.fin with⟨h1,h2⟩|⟨h1,p,o,e,a',u',V,g1,g2,g3,g4,g5,g6,g7,g8⟩
   .refine .inl ⟨h1,?_⟩
    rw[h2,h1]
    rfl
   .exact OQ hp hd h1 g1 g2 g3 g4 g5 g6 g7 g8
  exact Kt hE hm hp hd hT'.le hT'.st hend (fun k p j q h1 _ _ _ h5=>by
   have h6:=hsn p (List.mem_of_getElem? h1)
   rw[h5] at h6
   cases h6) hT'.zero hr ha hu hro
 | some bfa=>
  obtain⟨B,fl,A⟩:=bfa
  simp only[Bool.and_eq_true,List.all_eq_true] at hp2
  obtain⟨⟨⟨⟨⟨⟨⟨⟨hp,hsn⟩,hfl⟩,hBs⟩,hBf⟩,hAf⟩,hAs⟩,hAst⟩,hBst⟩:=hp2
  have hBf':B.flt=none:=Option.isNone_iff_eq_none.1 hBf
  have hAf':A.flt=none:=Option.isNone_iff_eq_none.1 hAf
  have hAsw:A.sw=some B.i:=by
   cases hs:A.sw with
   | none=>rw[hs] at hAs;cases hAs
   | some j=>
    rw[hs] at hAs
    simp only[Nat.beq_eq] at hAs
    rw[hAs]
  have hLm:∀k,k<main.length->(main++B::(fl++[A]))[k]? = main[k]?:=fun k hk=>List.getElem?_append_left hk
  have hLB:(main++B::(fl++[A]))[main.length]? = some B:=by
   rw[List.getElem?_append_right (Nat.le_refl _)]
   simp
  have hLf:∀j,j<fl.length->(main++B::(fl++[A]))[main.length+1+j]? = fl[j]?:=fun j hj=>by
   rw[List.getElem?_append_right (by omega)]
   have:main.length+1+j-main.length=j+1:=by omega
   rw[this,List.getElem?_cons_succ,List.getElem?_append_left hj]
  have hLA:(main++B::(fl++[A]))[main.length+1+fl.length]? = some A:=by
   rw[List.getElem?_append_right (by omega)]
   have:main.length+1+fl.length-main.length=fl.length+1:=by omega
   rw[this,List.getElem?_cons_succ,List.getElem?_append_right (Nat.le_refl _)]
   simp
  have hlen:(main++B::(fl++[A])).length=main.length+1+fl.length+1:=by
   simp
   omega
  have hop:∀q∈main++B::(fl++[A]),∃o,ops[q.i]? = some o:=fun q hq=>by
   obtain⟨j,hj,he⟩:=List.getElem_of_mem hq
   obtain⟨o,hs⟩:=spot hp (k:=j) (p:=q) (by rw[List.getElem?_eq_getElem hj,he])
   exact⟨o,hs.ho⟩
  have hswmain:∀k p,k<main.length->(main++B::(fl++[A]))[k]? = some p->p.sw=none:=fun k p hk h1=>by
   rw[hLm k hk] at h1
   exact Option.isNone_iff_eq_none.1 (hsn p (List.mem_of_getElem? h1))
  obtain⟨T1,N1,hT1⟩:=Hq (P:=P) (E:=E) (ro:=ro) ((cswap P ops (some (B,fl,A))).un E ro) main (fun q hq=>hop q (by simp[hq])) ⟨a,u,Z,[Z.clock]⟩ (by
    show bM E ro ((cswap P ops (some (B,fl,A))).un E ro) (cdops P ops main).un [Z.clock] a u Z≠.no
    rw[hres];exact hno)
  have hT1':Trace P E ro ops ((cswap P ops (some (B,fl,A))).un E ro) main ⟨a,u,Z,[Z.clock]⟩ r T1 N1:=by
   rw[<-hres]
   exact hT1
  clear hT1
  rcases hT1'.fin with⟨h1,h2⟩|⟨h1,p,o,e,a',u',V,g1,g2,g3,g4,g5,g6,g7,g8⟩
  .-- the main part ends normally
   obtain⟨oB,tB,xB,vB,hoB,hopB,hdB,hgB⟩:=Js hBst
   obtain⟨oA,tA,xA,vA,hoA,hopA,hdA,hgA⟩:=Js hAst
   rw[h1] at h2
   have h2':r=(match (cstore P ops B.i).un,(cstore P ops A.i).un with
    | some sb,some sa=>(⟨fun E ro=>fswap E ro sb sa (cdops P ops fl).un⟩:Bx (Env->Option Nat->List Nat->aZ))
    | _,_=>⟨fun _ _ _ _ _ _=>.no⟩).un E ro (T1 main.length).cl (T1 main.length).a (T1 main.length).u (T1 main.length).Z:=h2
   cases hcB:(cstore P ops B.i).un with
   | none=>rw[hcB] at h2';exact absurd h2' hno
   | some sb=>
    cases hcA:(cstore P ops A.i).un with
    | none=>rw[hcB,hcA] at h2';exact absurd h2' hno
    | some sa=>
     rw[hcB,hcA] at h2'
     obtain⟨nB,hnB,rfl⟩:=OP hoB hopB hcB
     obtain⟨nA,hnA,rfl⟩:=OP hoA hopA hcA
     simp only[fswap] at h2'
     generalize hTm:T1 main.length=tm at h2'
     obtain⟨am,um,cI,clm⟩:=tm
     simp only at h2'
     split at h2'
     .rename_i bS hst1
      obtain⟨T2,N2,hT2⟩:=Hq (P:=P) (E:=E) (ro:=ro) (fswapA ⟨nA,(cget xA).un,(cget vA).un⟩ ((cget xB).un am) nB bS.next) fl (fun q hq=>hop q (by simp[hq])) ⟨am,um,bS,clm++[bS.clock]⟩ (by
       show bM E ro _ (cdops P ops fl).un (clm++[bS.clock]) am um bS≠.no
       rw[<-h2'];exact hno)
      have hT2':Trace P E ro ops (fswapA ⟨nA,(cget xA).un,(cget vA).un⟩ ((cget xB).un am) nB bS.next) fl ⟨am,um,bS,clm++[bS.clock]⟩ r T2 N2:=by
       rw[h2']
       exact hT2
      clear hT2
      rcases hT2'.fin with⟨k1,k2⟩|⟨k1,p,o,e,a',u',V,g1,g2,g3,g4,g5,g6,g7,g8⟩
      .rw[k1] at k2
       generalize hTf:T2 fl.length=tf at k2
       obtain⟨af,uf,cH,clf⟩:=tf
       simp only[fswapA] at k2
       cases hc:(Nat.beq cH.next bS.next&&apartP nA nB ((cget xA).un af) ((cget xB).un am)) with
       | false=>
        rw[hc] at k2
        exact absurd k2 hno
       | true=>
        rw[hc] at k2
        simp only[cond_true] at k2
        rw[Bool.and_eq_true,Nat.beq_eq] at hc
        split at k2
        .rename_i a_ hst2
         let T:=glue T1 T2 ⟨af,uf,a_,clf++[a_.clock]⟩ main.length fl.length
         have tM:∀k,k<=main.length->T k=T1 k:=fun k hk=>if_pos hk
         have tF:∀j,j<=fl.length->T (main.length+1+j)=T2 j:=fun j hj=>by
          show (if main.length+1+j<=main.length then T1 (main.length+1+j) else if main.length+1+j<=main.length+1+fl.length then T2 (main.length+1+j-main.length-1) else _)=_
          rw[if_neg (by omega),if_pos (by omega)]
          congr 1
          omega
         have tE:T (main.length+1+fl.length+1)=⟨af,uf,a_,clf++[a_.clock]⟩:=by
          show (if main.length+1+fl.length+1<=main.length then T1 _ else if main.length+1+fl.length+1<=main.length+1+fl.length then T2 _ else _)=_
          rw[if_neg (by omega),if_neg (by omega)]
         have tB:T main.length=⟨am,um,cI,clm⟩:=by rw[tM _ (Nat.le_refl _),hTm]
         have tB1:T (main.length+1)=⟨am,um,bS,clm++[bS.clock]⟩:=by
          have:=tF 0 (Nat.zero_le _)
          rw[hT2'.zero] at this
          exact this
         have tA:T (main.length+1+fl.length)=⟨af,uf,cH,clf⟩:=by rw[tF _ (Nat.le_refl _),hTf]
         have st:∀k,k<main.length+1+fl.length+1->∃p o,(main++B::(fl++[A]))[k]? = some p/\ops[p.i]? = some o/\StepT P E ro ops o p.flt (T k) (T (k+1)):=fun k hk=>by
          by_cases hkm:k<main.length
          .obtain⟨p,o,q1,q2,q3⟩:=hT1'.st k (by omega)
           exact⟨p,o,by rw[hLm k hkm];exact q1,q2,by rw[tM k (by omega),tM (k+1) (by omega)];exact q3⟩
          .by_cases hkB:k=main.length
           .subst hkB
            refine⟨B,oB,hLB,hoB,?_⟩
            rw[hBf',tB,tB1]
            exact NV hopB hdB hgB hnB hst1
           .by_cases hkf:k<main.length+1+fl.length
            .obtain⟨j,rfl⟩:∃j,k=main.length+1+j:=⟨k-main.length-1,by omega⟩
             obtain⟨p,o,q1,q2,q3⟩:=hT2'.st j (by omega)
             exact⟨p,o,by rw[hLf j (by omega)];exact q1,q2,by
              rw[tF j (by omega)]
              have:=tF (j+1) (by omega)
              rw[show main.length+1+(j+1)=main.length+1+j+1 by omega] at this
              rw[this]
              exact q3⟩
            .have hkA:k=main.length+1+fl.length:=by omega
             subst hkA
             refine⟨A,oA,hLA,hoA,?_⟩
             rw[hAf',tA,tE]
             exact NV hopA hdA hgA hnA hst2
         have hN:(mkPl hp hd).N=main.length+1+fl.length+1:=hlen
         have opB:(mkPl hp hd).op main.length=oB:=EG hLB hoB
         have opA:(mkPl hp hd).op (main.length+1+fl.length)=oA:=EG hLA hoA
         have sw:Sw P (mkPl hp hd) T (main.length+1+fl.length+1) main.length (main.length+1+fl.length):=
          {np:=hN.symm
           N:=hN.symm
           lt:=by omega
           tB:=_,xB,vB,nB,tA:=_,xA,vA,nA
           opB:=by rw[opB];exact hopB
           gB:=by rw[opB];exact hgB
           dB:=by rw[opB];exact hdB
           fB:=by show fltOf _ main.length=none;rw[EE hLB];exact hBf'
           szB:=hnB
           opA:=by rw[opA];exact hopA
           gA:=by rw[opA];exact hgA
           dA:=by rw[opA];exact hdA
           fA:=by show fltOf _ (main.length+1+fl.length)=none;rw[EE hLA];exact hAf'
           szA:=hnA
           mid:=fun j h3 h4=>by
            obtain⟨i,rfl⟩:∃i,j=main.length+1+i:=⟨j-main.length-1,by omega⟩
            have hi:i<fl.length:=by omega
            show (fltOf _ (main.length+1+i)).isSome=true
            have h5:=hLf i hi
            rw[List.getElem?_eq_getElem hi] at h5
            rw[EE h5]
            exact(hfl _ (List.getElem_mem hi)).2
           next:=by rw[tA,tB1];exact hc.1
           stB:=by rw[tB1,tB];exact hst1
           aB:=by rw[tB1,tB]
           uB:=by rw[tB1,tB]
           stA:=by rw[tE,tA];exact hst2
           aA:=by rw[tE,tA]
           uA:=by rw[tE,tA]
           apart:=by rw[tA,tB];exact hc.2 }
         have hend:EndOK P E ro (mkPl hp hd) T (main.length+1+fl.length+1) r:=by
          refine .inl ⟨hN.symm,?_⟩
          rw[hN,tE]
          exact k2
         refine Kt hE hm hp hd (by rw[hlen];exact Nat.le_refl _) (fun k hk=>st k hk) hend (fun k p j q h1 h2 h3 h4 h5=>?_) (by rw[tM 0 (Nat.zero_le _)];exact hT1'.zero) hr ha hu hro
         have hkl:=(List.getElem?_eq_some_iff.1 h1).1
         rw[hlen] at hkl
         have hkA:k=main.length+1+fl.length:=Classical.byContradiction fun hne=>by
          by_cases hkm:k<main.length
          .have:=hswmain k p hkm h1
           rw[h5] at this
           cases this
          .by_cases hkB:k=main.length
           .subst hkB
            rw[hLB] at h1
            cases h1
            rw[h5] at hBs
            cases hBs
           .obtain⟨i,rfl⟩:∃i,k=main.length+1+i:=⟨k-main.length-1,by omega⟩
            have hi:i<fl.length:=by omega
            rw[hLf i hi] at h1
            have:=(hfl p (List.mem_of_getElem? h1)).1
            rw[h5] at this
            cases this
         subst hkA
         rw[hLA] at h1
         cases h1
         rw[hAsw] at h5
         have hij:=Option.some.inj h5
         have hjB:j=main.length:=KE hp ((List.getElem?_eq_some_iff.1 h3).1) (by rw[hlen];omega) (by rw[Dn h3,Dn hLB,hij])
         subst hjB
         exact⟨sw⟩
        .exact absurd k2 hno
      .have:=(hfl p (List.mem_of_getElem? g1)).2
       rw[g3] at this
       cases this
     .exact absurd h2' hno
  .-- a panic in the main part
   have hlt:N1<(main++B::(fl++[A])).length:=by rw[hlen];omega
   have hend:=OQ (P:=P) (E:=E) (ro:=ro) (T:=T1) hp hd hlt (by rw[hLm N1 h1];exact g1) g2 g3 g4 g5 g6 g7 g8
   refine Kt hE hm hp hd (by omega) (fun k hk=>?_) hend (fun k p j q q1 q2 q3 q4 q5=>?_) hT1'.zero hr ha hu hro
   .obtain⟨p,o,q1,q2,q3⟩:=hT1'.st k hk
    exact⟨p,o,by rw[hLm k (by omega)];exact q1,q2,q3⟩
   .have:=hswmain k p (by omega) q1
    rw[q5] at this
    cases this
theorem Abe{S:Sums}(hS:SumOK P S)(hm:P.follows .mixedOrders=true)(hname:∀(f:FuncId) (fn:Func),P.funcs[f]? = some fn->(fn.name == "runtime.NumGoroutine")=false)(nls:Hints)(n:Nat)  : EnvOK P (fenv P S nls n):=
 AfZ hS (fun _ hE=>Aa7 hm hE) hname nls n
end
end Go.Eng
namespace Go.Eng
open Go
abbrev pinsOf(W:World):Pins:=⟨fun k o=>W.heap[k]? = some o⟩
theorem QA{w w':World}(hos:w'.os=w.os)(hout:w'.output=w.output)(hk:∀i,i<w.heap.size->w'.heap[i]? = w.heap[i]?)(may:MemPlace->Prop):World.keptBut w w' may:=by
 refine⟨hos,hout,fun i hi=>?_⟩
 rw[hk i hi]
 cases h:w.heap[i]? with
 | none=>rfl
 | some o=>
  cases o with
  | cells c t fr=>exact⟨rfl,rfl,rfl,fun _ _=>rfl⟩
  | map es ck=>exact .inr ⟨rfl,rfl⟩
  | _=>rfl
section
variable [Pins] {P:Program} {m:Mp} {Z:aC} {w:World} {f:FuncId} {fn:Func} {body:Code} {args':Array Value}
theorem CallOK.of_calls(hf:P.funcs[f]? = some fn)(hb:fn.body=some body)(hname:(fn.name == "runtime.NumGoroutine")=false){m':Mp}{V:aC}{w1:World}{v v':Value}(h:Calls P f args' w fun e w'=>e=.returned v'/\w'=w1)(hR:Rel Top m' V w1)(hS:Step Z V m m' w w1)(hV:bE m' v v'):CallOK P m Z w f args' none (.ret v none V):=by
 refine .inr ⟨Ef hf hb hname,fun cs hu=>?_⟩
 obtain⟨e,w',fr,⟨rfl,rfl⟩,hc,hfn,hl⟩:=h cs
 exact⟨m',_,v',fr,cs,hR,hS,hV,hu,.refl _ _,StepsIn.of_steps hc,hfn,hl.2.2.1,⟨hl.1,hl.2.1,hl.2.2.2⟩⟩
end
theorem Ae1{P:Program}{S:Sums}{nls:Hints}{f:FuncId}{fn:Func}{body:Code}(hm:P.follows .mixedOrders=true)(hname:∀(f:FuncId) (fn:Func),P.funcs[f]? = some fn->(fn.name == "runtime.NumGoroutine")=false)(hf:P.funcs[f]? = some fn)(hb:fn.body=some body)(W:World)(hS:@SumOK (pinsOf W) P S)(h:saysTrue P S nls f=true):
  Calls P f #[] W fun e W'=>e=.returned (.bool true)/\W'.os=W.os/\W'.output=W.output/\W'.tape=W.tape/\W.heap.size<=W'.heap.size/\∀i,i<W.heap.size->W'.heap[i]? = W.heap[i]?:=by
 letI:=pinsOf W
 unfold saysTrue at h
 generalize (1000:Nat)=n at h
 have hE:=Abe hS hm hname nls n
 have hget:∀b,Eng.empty.heap.get b=none:=fun b=>rfl
 have hrel:Rel Top (fun _=>none) Eng.empty W:=
  ⟨fun b ent e _ hb=>(by rw[hget] at hb;cases hb),fun b b' ent ent' e e' _ hb=>(by rw[hget] at hb;cases hb),fun b e hb=>(by cases hb),fun b ent hb=>(by rw[hget] at hb;cases hb),fun k o hk=>⟨hk,fun b e hb=>(by cases hb)⟩⟩
 have hc:=hE.call f [] none Eng.empty (fun _=>none) W #[] hrel .nil (fun md h=>by cases h)
 generalize (fenv P S nls n).call f [] none Eng.empty=r at h hc
 cases r with
 | no=>cases h
 | pan ch u' V=>cases h
 | ret v u' V=>
  have hv:v=.bool true:=by
   split at h
   .rename_i heq
    cases heq
    rfl
   .cases h
  subst hv
  rcases hc with⟨_,_,_,v',hval,_⟩|⟨_,hgo⟩
  .have hent:=Ef (P:=P) (w:=W) (args:=#[]) hf hb (hname f fn hf)
   rw[hent] at hval
   cases hval
  .intro cs
   obtain⟨m',w',v',fr,cs',hR,hS',hV,_,hun,hst,hfn,hk,hgoing⟩:=hgo cs rfl
   have hcs:cs'=cs:=by
    rcases hun with h|⟨h,_⟩
    .exact h
    .cases h
   subst hcs
   have hv':=hV.flat rfl
   subst hv'
   exact⟨.returned (.bool true),w',fr,⟨rfl,hS'.os,hS'.output,hS'.tape,hS'.size,fun i hi=>hS'.keep i hi fun b e ent hb=>by cases hb⟩,hst.steps,hfn,Ea hk hgoing⟩
end Go.Eng
end
