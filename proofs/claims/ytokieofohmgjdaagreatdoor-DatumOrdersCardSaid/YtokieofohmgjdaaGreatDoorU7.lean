import Derived.Test.YtokieofohmgjdaaGreatDoorU6
import Derived.Test.YtokieofohmgjdaaGreatDoorU5
import Derived.Test.YtokieofohmgjdaaGreatDoorU3
import Derived.Test.YtokieofohmgjdaaGreatDoorU4
set_option linter.unusedSimpArgs false
set_option linter.unusedVariables false
noncomputable section
namespace Go.Proofs.YtokieofohmgjdaaGreatDoor
section
open Go Go.Eng
attribute [local congr] Ac Aj Ai Ad Ah
attribute [-go_sem] List.range_succ
def digC(c:Nat):Bool:=decide (48≤c)&&decide (c≤57)
def signs:List Nat:=[45,43,42,47,60,62,61,63,33]
def symC(c:Nat):Bool:=(decide (97≤c)&&decide (c≤122))||digC c||signs.contains c
def byteAt(t:ByteArray)(i:Nat):Nat:=t[i]!.toNat
def symB(t:ByteArray):Bool:=decide (1≤t.size)&&decide (t.size≤20)&&!digC (byteAt t 0)&&!(byteAt t 0==45&&decide (1<t.size)&&digC (byteAt t 1))&&(List.range t.size).all fun i=>symC (byteAt t i)
theorem De(s:ByteArray)(i:Nat)(h:i<s.size)(σ:FState):findexS (.string s) (.int .i64 (.ofNat i)) σ=.val (.int .u8 (byteAt s i:Nat)) σ:=by
 have e:s[i]? = some s[i]!:=by rw[getElem?_pos s i h,getElem!_pos s i h]
 unfold findexS natOf
 simp only[e]
 rfl
theorem IE(s:ByteArray)(h:0<s.size)(σ:FState):findexS (.string s) (.int .i64 0) σ=.val (.int .u8 (byteAt s 0:Nat)) σ:=De s 0 h σ
theorem NY(s:ByteArray)(h:1<s.size)(σ:FState):findexS (.string s) (.int .i64 1) σ=.val (.int .u8 (byteAt s 1:Nat)) σ:=De s 1 h σ
theorem Cd(x y:Operand)(a b:Int)(σ:FState):i_leq Tryz.prog 5 x y (.int .u8 a) (.int .u8 b) σ=.val (.bool (decide (a≤b))) σ:=by kernel_rfl
theorem WM(x y:Operand)(a b:Int)(σ:FState):i_lss Tryz.prog 5 x y (.int .u8 a) (.int .u8 b) σ=.val (.bool (decide (a<b))) σ:=by kernel_rfl
theorem WA(x y:Operand)(a b:Int)(σ:FState):i_gtr Tryz.prog 5 x y (.int .u8 a) (.int .u8 b) σ=.val (.bool (decide (a>b))) σ:=by kernel_rfl
theorem Cg(x y:Operand)(a b:Int)(σ:FState):i_eql Tryz.prog 5 x y (.int .u8 a) (.int .u8 b) σ=.val (.bool (a==b)) σ:=by kernel_rfl
theorem KT(n c:Nat)(σ:FState):(env (n+1)).call 183 [.int .u8 (c:Int)] none σ=.ret (.bool (digC c)) none σ:=by
 rw[Ag _ 183 _ _ rfl,AfD _ _ _ _ (by simp),Af]
 unfold ZB digC
 by_cases h:48≤c
 ·have d0:decide ((48:Int)≤(c:Int))=true:=by simp;omega
  have d1:decide ((c:Int)≤57)=decide (c≤57):=by simp;omega
  have d2:decide (48≤c)=true:=by simp;omega
  simp -implicitDefEqProofs only[go_sem,OR,Ky,OS,Kz,Cd,d0,d1,d2,Bool.true_and]
 ·have d0:decide ((48:Int)≤(c:Int))=false:=by simp;omega
  have d2:decide (48≤c)=false:=by simp;omega
  simp -implicitDefEqProofs only[go_sem,OR,Ky,OS,Kz,Cd,d0,d2,Bool.false_and]
theorem AqY(n i c:Nat)(t:ByteArray)(f g:Nat→Value)(σ:FState)(hi:i<t.size)(hsz:i<1000000)(hc:byteAt t i=c)(f0:f 0=.string t)(f3:f 3=.int .i64 (.ofNat i)):
  ∃f' g',f' 0=.string t∧((symC c=true∧Eo (env (n+1)) none 158 (Sl 5 63 f g []) none σ=.done .normal (Sl 5 63 f' g' []) none σ∧f' 3=.int .i64 (.ofNat (i+1)))∨
   (symC c=false∧Eo (env (n+1)) none 158 (Sl 5 63 f g []) none σ=.done .ret (Sl 5 63 f' g' []) none σ∧f' 2=.bool false)):=by
 have d0:decide (Int.ofNat i<Int.ofNat t.size)=true:=by simp;omega
 have hb:=De t i hi σ
 rw[hc] at hb
 have a1:=D4 i (by omega)
 have hdg:=KT n c σ
 unfold Eo
 by_cases hl:97≤c∧c≤122
 ·have l1:decide ((97:Int)≤(c:Int))=true:=by simp;omega
  have l2:decide ((c:Int)≤122)=true:=by simp;omega
  simp -implicitDefEqProofs only[go_sem,Bs,BR,Bu,BW,Bv,BX,Bw,BY,Bz,BZ,BA,B0,A9,BD,A_,BE,Ba,BF,Bb,BG,Bc,BH,Bd,BI,Be,BJ,Bf,BK,Bg,BL,f0,f3,d0,hb,a1,l1,l2,Ae,Cd]
  refine⟨_,_,?_,.inl ⟨by unfold symC;simp;omega,rfl,?_⟩⟩
  ·simp -implicitDefEqProofs only[go_sem,reduceCtorEq,f0]
  ·simp -implicitDefEqProofs only[go_sem,reduceCtorEq]
 ·have hnl:(decide (97≤c)&&decide (c≤122))=false:=by simp;omega
  cases hd:digC c with
  | true=>
   rw[hd] at hdg
   by_cases h97:97≤c
   ·have l1:decide ((97:Int)≤(c:Int))=true:=by simp;omega
    have l2:decide ((c:Int)≤122)=false:=by simp;omega
    simp -implicitDefEqProofs only[go_sem,Bs,BR,Bu,BW,Bv,BX,Bw,BY,Bz,BZ,BA,B0,A9,BD,A_,BE,Ba,BF,Bb,BG,Bc,BH,Bd,BI,Be,BJ,Bf,BK,Bg,BL,f0,f3,d0,hb,a1,l1,l2,hdg,Ae,Cd]
    refine⟨_,_,?_,.inl ⟨by unfold symC;rw[hd];simp,rfl,?_⟩⟩
    ·simp -implicitDefEqProofs only[go_sem,reduceCtorEq,f0]
    ·simp -implicitDefEqProofs only[go_sem,reduceCtorEq]
   ·have l1:decide ((97:Int)≤(c:Int))=false:=by simp;omega
    simp -implicitDefEqProofs only[go_sem,Bs,BR,Bu,BW,Bv,BX,Bw,BY,Bz,BZ,BA,B0,A9,BD,A_,BE,Ba,BF,Bb,BG,Bc,BH,Bd,BI,Be,BJ,Bf,BK,Bg,BL,f0,f3,d0,hb,a1,l1,hdg,Ae,Cd]
    refine⟨_,_,?_,.inl ⟨by unfold symC;rw[hd];simp,rfl,?_⟩⟩
    ·simp -implicitDefEqProofs only[go_sem,reduceCtorEq,f0]
    ·simp -implicitDefEqProofs only[go_sem,reduceCtorEq]
  | false=>
   rw[hd] at hdg
   have hsg:symC c=signs.contains c:=by unfold symC;rw[hnl,hd];rfl
   rw[hsg]
   by_cases h0:c=45
   ·have e0:((c:Int)==45)=true:=by simp;omega
    by_cases h97:97≤c
    ·have l1:decide ((97:Int)≤(c:Int))=true:=by simp;omega
     have l2:decide ((c:Int)≤122)=false:=by simp;omega
     simp -implicitDefEqProofs only[go_sem,Bs,BR,Bu,BW,Bv,BX,Bw,BY,Bz,BZ,BA,B0,A9,BD,A_,BE,Ba,BF,Bb,BG,Bc,BH,Bd,BI,Be,BJ,Bf,BK,Bg,BL,f0,f3,d0,hb,a1,l1,l2,hdg,e0,Ae,Cg,Cd]
     refine⟨_,_,?_,.inl ⟨?_,rfl,?_⟩⟩
     ·simp -implicitDefEqProofs only[go_sem,reduceCtorEq,f0]
     ·simp[signs];omega
     ·simp -implicitDefEqProofs only[go_sem,reduceCtorEq]
    ·have l1:decide ((97:Int)≤(c:Int))=false:=by simp;omega
     simp -implicitDefEqProofs only[go_sem,Bs,BR,Bu,BW,Bv,BX,Bw,BY,Bz,BZ,BA,B0,A9,BD,A_,BE,Ba,BF,Bb,BG,Bc,BH,Bd,BI,Be,BJ,Bf,BK,Bg,BL,f0,f3,d0,hb,a1,l1,hdg,e0,Ae,Cg,Cd]
     refine⟨_,_,?_,.inl ⟨?_,rfl,?_⟩⟩
     ·simp -implicitDefEqProofs only[go_sem,reduceCtorEq,f0]
     ·simp[signs];omega
     ·simp -implicitDefEqProofs only[go_sem,reduceCtorEq]
   ·have e0:((c:Int)==45)=false:=by simp;omega
    by_cases h1:c=43
    ·have e1:((c:Int)==43)=true:=by simp;omega
     by_cases h97:97≤c
     ·have l1:decide ((97:Int)≤(c:Int))=true:=by simp;omega
      have l2:decide ((c:Int)≤122)=false:=by simp;omega
      simp -implicitDefEqProofs only[go_sem,Bs,BR,Bu,BW,Bv,BX,Bw,BY,Bz,BZ,BA,B0,A9,BD,A_,BE,Ba,BF,Bb,BG,Bc,BH,Bd,BI,Be,BJ,Bf,BK,Bg,BL,f0,f3,d0,hb,a1,l1,l2,hdg,e0,e1,Ae,Cg,Cd]
      refine⟨_,_,?_,.inl ⟨?_,rfl,?_⟩⟩
      ·simp -implicitDefEqProofs only[go_sem,reduceCtorEq,f0]
      ·simp[signs];omega
      ·simp -implicitDefEqProofs only[go_sem,reduceCtorEq]
     ·have l1:decide ((97:Int)≤(c:Int))=false:=by simp;omega
      simp -implicitDefEqProofs only[go_sem,Bs,BR,Bu,BW,Bv,BX,Bw,BY,Bz,BZ,BA,B0,A9,BD,A_,BE,Ba,BF,Bb,BG,Bc,BH,Bd,BI,Be,BJ,Bf,BK,Bg,BL,f0,f3,d0,hb,a1,l1,hdg,e0,e1,Ae,Cg,Cd]
      refine⟨_,_,?_,.inl ⟨?_,rfl,?_⟩⟩
      ·simp -implicitDefEqProofs only[go_sem,reduceCtorEq,f0]
      ·simp[signs];omega
      ·simp -implicitDefEqProofs only[go_sem,reduceCtorEq]
    ·have e1:((c:Int)==43)=false:=by simp;omega
     by_cases h2:c=42
     ·have e2:((c:Int)==42)=true:=by simp;omega
      by_cases h97:97≤c
      ·have l1:decide ((97:Int)≤(c:Int))=true:=by simp;omega
       have l2:decide ((c:Int)≤122)=false:=by simp;omega
       simp -implicitDefEqProofs only[go_sem,Bs,BR,Bu,BW,Bv,BX,Bw,BY,Bz,BZ,BA,B0,A9,BD,A_,BE,Ba,BF,Bb,BG,Bc,BH,Bd,BI,Be,BJ,Bf,BK,Bg,BL,f0,f3,d0,hb,a1,l1,l2,hdg,e0,e1,e2,Ae,Cg,Cd]
       refine⟨_,_,?_,.inl ⟨?_,rfl,?_⟩⟩
       ·simp -implicitDefEqProofs only[go_sem,reduceCtorEq,f0]
       ·simp[signs];omega
       ·simp -implicitDefEqProofs only[go_sem,reduceCtorEq]
      ·have l1:decide ((97:Int)≤(c:Int))=false:=by simp;omega
       simp -implicitDefEqProofs only[go_sem,Bs,BR,Bu,BW,Bv,BX,Bw,BY,Bz,BZ,BA,B0,A9,BD,A_,BE,Ba,BF,Bb,BG,Bc,BH,Bd,BI,Be,BJ,Bf,BK,Bg,BL,f0,f3,d0,hb,a1,l1,hdg,e0,e1,e2,Ae,Cg,Cd]
       refine⟨_,_,?_,.inl ⟨?_,rfl,?_⟩⟩
       ·simp -implicitDefEqProofs only[go_sem,reduceCtorEq,f0]
       ·simp[signs];omega
       ·simp -implicitDefEqProofs only[go_sem,reduceCtorEq]
     ·have e2:((c:Int)==42)=false:=by simp;omega
      by_cases h3:c=47
      ·have e3:((c:Int)==47)=true:=by simp;omega
       by_cases h97:97≤c
       ·have l1:decide ((97:Int)≤(c:Int))=true:=by simp;omega
        have l2:decide ((c:Int)≤122)=false:=by simp;omega
        simp -implicitDefEqProofs only[go_sem,Bs,BR,Bu,BW,Bv,BX,Bw,BY,Bz,BZ,BA,B0,A9,BD,A_,BE,Ba,BF,Bb,BG,Bc,BH,Bd,BI,Be,BJ,Bf,BK,Bg,BL,f0,f3,d0,hb,a1,l1,l2,hdg,e0,e1,e2,e3,Ae,Cg,Cd]
        refine⟨_,_,?_,.inl ⟨?_,rfl,?_⟩⟩
        ·simp -implicitDefEqProofs only[go_sem,reduceCtorEq,f0]
        ·simp[signs];omega
        ·simp -implicitDefEqProofs only[go_sem,reduceCtorEq]
       ·have l1:decide ((97:Int)≤(c:Int))=false:=by simp;omega
        simp -implicitDefEqProofs only[go_sem,Bs,BR,Bu,BW,Bv,BX,Bw,BY,Bz,BZ,BA,B0,A9,BD,A_,BE,Ba,BF,Bb,BG,Bc,BH,Bd,BI,Be,BJ,Bf,BK,Bg,BL,f0,f3,d0,hb,a1,l1,hdg,e0,e1,e2,e3,Ae,Cg,Cd]
        refine⟨_,_,?_,.inl ⟨?_,rfl,?_⟩⟩
        ·simp -implicitDefEqProofs only[go_sem,reduceCtorEq,f0]
        ·simp[signs];omega
        ·simp -implicitDefEqProofs only[go_sem,reduceCtorEq]
      ·have e3:((c:Int)==47)=false:=by simp;omega
       by_cases h4:c=60
       ·have e4:((c:Int)==60)=true:=by simp;omega
        by_cases h97:97≤c
        ·have l1:decide ((97:Int)≤(c:Int))=true:=by simp;omega
         have l2:decide ((c:Int)≤122)=false:=by simp;omega
         simp -implicitDefEqProofs only[go_sem,Bs,BR,Bu,BW,Bv,BX,Bw,BY,Bz,BZ,BA,B0,A9,BD,A_,BE,Ba,BF,Bb,BG,Bc,BH,Bd,BI,Be,BJ,Bf,BK,Bg,BL,f0,f3,d0,hb,a1,l1,l2,hdg,e0,e1,e2,e3,e4,Ae,Cg,Cd]
         refine⟨_,_,?_,.inl ⟨?_,rfl,?_⟩⟩
         ·simp -implicitDefEqProofs only[go_sem,reduceCtorEq,f0]
         ·simp[signs];omega
         ·simp -implicitDefEqProofs only[go_sem,reduceCtorEq]
        ·have l1:decide ((97:Int)≤(c:Int))=false:=by simp;omega
         simp -implicitDefEqProofs only[go_sem,Bs,BR,Bu,BW,Bv,BX,Bw,BY,Bz,BZ,BA,B0,A9,BD,A_,BE,Ba,BF,Bb,BG,Bc,BH,Bd,BI,Be,BJ,Bf,BK,Bg,BL,f0,f3,d0,hb,a1,l1,hdg,e0,e1,e2,e3,e4,Ae,Cg,Cd]
         refine⟨_,_,?_,.inl ⟨?_,rfl,?_⟩⟩
         ·simp -implicitDefEqProofs only[go_sem,reduceCtorEq,f0]
         ·simp[signs];omega
         ·simp -implicitDefEqProofs only[go_sem,reduceCtorEq]
       ·have e4:((c:Int)==60)=false:=by simp;omega
        by_cases h5:c=62
        ·have e5:((c:Int)==62)=true:=by simp;omega
         by_cases h97:97≤c
         ·have l1:decide ((97:Int)≤(c:Int))=true:=by simp;omega
          have l2:decide ((c:Int)≤122)=false:=by simp;omega
          simp -implicitDefEqProofs only[go_sem,Bs,BR,Bu,BW,Bv,BX,Bw,BY,Bz,BZ,BA,B0,A9,BD,A_,BE,Ba,BF,Bb,BG,Bc,BH,Bd,BI,Be,BJ,Bf,BK,Bg,BL,f0,f3,d0,hb,a1,l1,l2,hdg,e0,e1,e2,e3,e4,e5,Ae,Cg,Cd]
          refine⟨_,_,?_,.inl ⟨?_,rfl,?_⟩⟩
          ·simp -implicitDefEqProofs only[go_sem,reduceCtorEq,f0]
          ·simp[signs];omega
          ·simp -implicitDefEqProofs only[go_sem,reduceCtorEq]
         ·have l1:decide ((97:Int)≤(c:Int))=false:=by simp;omega
          simp -implicitDefEqProofs only[go_sem,Bs,BR,Bu,BW,Bv,BX,Bw,BY,Bz,BZ,BA,B0,A9,BD,A_,BE,Ba,BF,Bb,BG,Bc,BH,Bd,BI,Be,BJ,Bf,BK,Bg,BL,f0,f3,d0,hb,a1,l1,hdg,e0,e1,e2,e3,e4,e5,Ae,Cg,Cd]
          refine⟨_,_,?_,.inl ⟨?_,rfl,?_⟩⟩
          ·simp -implicitDefEqProofs only[go_sem,reduceCtorEq,f0]
          ·simp[signs];omega
          ·simp -implicitDefEqProofs only[go_sem,reduceCtorEq]
        ·have e5:((c:Int)==62)=false:=by simp;omega
         by_cases h6:c=61
         ·have e6:((c:Int)==61)=true:=by simp;omega
          by_cases h97:97≤c
          ·have l1:decide ((97:Int)≤(c:Int))=true:=by simp;omega
           have l2:decide ((c:Int)≤122)=false:=by simp;omega
           simp -implicitDefEqProofs only[go_sem,Bs,BR,Bu,BW,Bv,BX,Bw,BY,Bz,BZ,BA,B0,A9,BD,A_,BE,Ba,BF,Bb,BG,Bc,BH,Bd,BI,Be,BJ,Bf,BK,Bg,BL,f0,f3,d0,hb,a1,l1,l2,hdg,e0,e1,e2,e3,e4,e5,e6,Ae,Cg,Cd]
           refine⟨_,_,?_,.inl ⟨?_,rfl,?_⟩⟩
           ·simp -implicitDefEqProofs only[go_sem,reduceCtorEq,f0]
           ·simp[signs];omega
           ·simp -implicitDefEqProofs only[go_sem,reduceCtorEq]
          ·have l1:decide ((97:Int)≤(c:Int))=false:=by simp;omega
           simp -implicitDefEqProofs only[go_sem,Bs,BR,Bu,BW,Bv,BX,Bw,BY,Bz,BZ,BA,B0,A9,BD,A_,BE,Ba,BF,Bb,BG,Bc,BH,Bd,BI,Be,BJ,Bf,BK,Bg,BL,f0,f3,d0,hb,a1,l1,hdg,e0,e1,e2,e3,e4,e5,e6,Ae,Cg,Cd]
           refine⟨_,_,?_,.inl ⟨?_,rfl,?_⟩⟩
           ·simp -implicitDefEqProofs only[go_sem,reduceCtorEq,f0]
           ·simp[signs];omega
           ·simp -implicitDefEqProofs only[go_sem,reduceCtorEq]
         ·have e6:((c:Int)==61)=false:=by simp;omega
          by_cases h7:c=63
          ·have e7:((c:Int)==63)=true:=by simp;omega
           by_cases h97:97≤c
           ·have l1:decide ((97:Int)≤(c:Int))=true:=by simp;omega
            have l2:decide ((c:Int)≤122)=false:=by simp;omega
            simp -implicitDefEqProofs only[go_sem,Bs,BR,Bu,BW,Bv,BX,Bw,BY,Bz,BZ,BA,B0,A9,BD,A_,BE,Ba,BF,Bb,BG,Bc,BH,Bd,BI,Be,BJ,Bf,BK,Bg,BL,f0,f3,d0,hb,a1,l1,l2,hdg,e0,e1,e2,e3,e4,e5,e6,e7,Ae,Cg,Cd]
            refine⟨_,_,?_,.inl ⟨?_,rfl,?_⟩⟩
            ·simp -implicitDefEqProofs only[go_sem,reduceCtorEq,f0]
            ·simp[signs];omega
            ·simp -implicitDefEqProofs only[go_sem,reduceCtorEq]
           ·have l1:decide ((97:Int)≤(c:Int))=false:=by simp;omega
            simp -implicitDefEqProofs only[go_sem,Bs,BR,Bu,BW,Bv,BX,Bw,BY,Bz,BZ,BA,B0,A9,BD,A_,BE,Ba,BF,Bb,BG,Bc,BH,Bd,BI,Be,BJ,Bf,BK,Bg,BL,f0,f3,d0,hb,a1,l1,hdg,e0,e1,e2,e3,e4,e5,e6,e7,Ae,Cg,Cd]
            refine⟨_,_,?_,.inl ⟨?_,rfl,?_⟩⟩
            ·simp -implicitDefEqProofs only[go_sem,reduceCtorEq,f0]
            ·simp[signs];omega
            ·simp -implicitDefEqProofs only[go_sem,reduceCtorEq]
          ·have e7:((c:Int)==63)=false:=by simp;omega
           by_cases h8:c=33
           ·have e8:((c:Int)==33)=true:=by simp;omega
            by_cases h97:97≤c
            ·have l1:decide ((97:Int)≤(c:Int))=true:=by simp;omega
             have l2:decide ((c:Int)≤122)=false:=by simp;omega
             simp -implicitDefEqProofs only[go_sem,Bs,BR,Bu,BW,Bv,BX,Bw,BY,Bz,BZ,BA,B0,A9,BD,A_,BE,Ba,BF,Bb,BG,Bc,BH,Bd,BI,Be,BJ,Bf,BK,Bg,BL,f0,f3,d0,hb,a1,l1,l2,hdg,e0,e1,e2,e3,e4,e5,e6,e7,e8,Ae,Cg,Cd]
             refine⟨_,_,?_,.inl ⟨?_,rfl,?_⟩⟩
             ·simp -implicitDefEqProofs only[go_sem,reduceCtorEq,f0]
             ·simp[signs];omega
             ·simp -implicitDefEqProofs only[go_sem,reduceCtorEq]
            ·have l1:decide ((97:Int)≤(c:Int))=false:=by simp;omega
             simp -implicitDefEqProofs only[go_sem,Bs,BR,Bu,BW,Bv,BX,Bw,BY,Bz,BZ,BA,B0,A9,BD,A_,BE,Ba,BF,Bb,BG,Bc,BH,Bd,BI,Be,BJ,Bf,BK,Bg,BL,f0,f3,d0,hb,a1,l1,hdg,e0,e1,e2,e3,e4,e5,e6,e7,e8,Ae,Cg,Cd]
             refine⟨_,_,?_,.inl ⟨?_,rfl,?_⟩⟩
             ·simp -implicitDefEqProofs only[go_sem,reduceCtorEq,f0]
             ·simp[signs];omega
             ·simp -implicitDefEqProofs only[go_sem,reduceCtorEq]
           ·have e8:((c:Int)==33)=false:=by simp;omega
            by_cases h97:97≤c
            ·have l1:decide ((97:Int)≤(c:Int))=true:=by simp;omega
             have l2:decide ((c:Int)≤122)=false:=by simp;omega
             simp -implicitDefEqProofs only[go_sem,Bs,BR,Bu,BW,Bv,BX,Bw,BY,Bz,BZ,BA,B0,A9,BD,A_,BE,Ba,BF,Bb,BG,Bc,BH,Bd,BI,Be,BJ,Bf,BK,Bg,BL,f0,f3,d0,hb,a1,l1,l2,hdg,e0,e1,e2,e3,e4,e5,e6,e7,e8,Ae,Cg,Cd]
             refine⟨_,_,?_,.inr ⟨?_,rfl,?_⟩⟩
             ·simp -implicitDefEqProofs only[go_sem,reduceCtorEq,f0]
             ·simp[signs];omega
             ·simp -implicitDefEqProofs only[go_sem,reduceCtorEq]
            ·have l1:decide ((97:Int)≤(c:Int))=false:=by simp;omega
             simp -implicitDefEqProofs only[go_sem,Bs,BR,Bu,BW,Bv,BX,Bw,BY,Bz,BZ,BA,B0,A9,BD,A_,BE,Ba,BF,Bb,BG,Bc,BH,Bd,BI,Be,BJ,Bf,BK,Bg,BL,f0,f3,d0,hb,a1,l1,hdg,e0,e1,e2,e3,e4,e5,e6,e7,e8,Ae,Cg,Cd]
             refine⟨_,_,?_,.inr ⟨?_,rfl,?_⟩⟩
             ·simp -implicitDefEqProofs only[go_sem,reduceCtorEq,f0]
             ·simp[signs];omega
             ·simp -implicitDefEqProofs only[go_sem,reduceCtorEq]
end
section
open Go Go.Eng
attribute [local congr] Ac Aj Ai Ad Ah
attribute [-go_sem] List.range_succ
theorem AqX(n:Nat)(t:ByteArray)(hsz:t.size≤20)(σ:FState):∀(j fuel i:Nat) (f g:Nat→Value),t.size-i=j→j<fuel→i≤t.size→f 0=.string t→f 3=.int .i64 (.ofNat i)→
  ∃f' g',((∀k,i≤k→k<t.size→symC (byteAt t k)=true)∧floop [] (Eo (env (n+1)) none 158) fuel (Sl 5 63 f g []) none σ=.done (.exit 0) (Sl 5 63 f' g' []) none σ)∨
   ((∃k,i≤k∧k<t.size∧symC (byteAt t k)=false)∧floop [] (Eo (env (n+1)) none 158) fuel (Sl 5 63 f g []) none σ=.done .ret (Sl 5 63 f' g' []) none σ∧f' 2=.bool false):=by
 intro j
 induction j with
 | zero=>
  intro fuel i f g hj hf hi f0 f3
  obtain⟨fuel,rfl⟩:∃q,fuel=q+1:=⟨fuel-1,by omega⟩
  obtain rfl:i=t.size:=by omega
  have d0:decide (Int.ofNat t.size<Int.ofNat t.size)=false:=by simp
  rw[Am]
  have h:∃f' g',Eo (env (n+1)) none 158 (Sl 5 63 f (kept [] g) []) none σ=.done (.exit 0) (Sl 5 63 f' g' []) none σ:=by
   unfold Eo
   simp -implicitDefEqProofs only[go_sem,Bs,BR,f0,f3,d0]
   exact⟨_,_,rfl⟩
  obtain⟨f',g',e⟩:=h
  refine⟨f',g',.inl ⟨fun k h1 h2=>by omega,?_⟩⟩
  simp -implicitDefEqProofs only[Bk,e,C0]
 | succ j ih=>
  intro fuel i f g hj hf hi f0 f3
  obtain⟨fuel,rfl⟩:∃q,fuel=q+1:=⟨fuel-1,by omega⟩
  have hlt:i<t.size:=by omega
  rw[Am]
  obtain⟨f1,g1,h0,h⟩:=AqY n i (byteAt t i) t f (kept [] g) σ hlt (by omega) rfl f0 f3
  rcases h with⟨hc,e,h3⟩|⟨hc,e,h2⟩
  ·obtain⟨f2,g2,h⟩:=ih fuel (i+1) f1 g1 (by omega) (by omega) (by omega) h0 h3
   refine⟨f2,g2,?_⟩
   simp -implicitDefEqProofs only[Bk,e,BC]
   rcases h with⟨h4,h5⟩|⟨⟨k,h4,h5,h6⟩,h7,h8⟩
   ·refine .inl ⟨fun k h1 h2=>?_,h5⟩
    by_cases hk:k=i
    ·subst hk;exact hc
    ·exact h4 k (by omega) h2
   ·exact .inr ⟨⟨k,by omega,h5,h6⟩,h7,h8⟩
  ·refine⟨f1,g1,.inr ⟨⟨i,Nat.le_refl _,hlt,hc⟩,?_,h2⟩⟩
   simp -implicitDefEqProofs only[Bk,e,CD]
theorem AqZ{t:ByteArray}(h1:1≤t.size)(h2:t.size≤20)(h3:digC (byteAt t 0)=false)(h4:(byteAt t 0==45&&decide (1<t.size)&&digC (byteAt t 1))=false):symB t=(List.range t.size).all fun i=>symC (byteAt t i):=by
 unfold symB
 rw[h3,h4]
 simp[h1,h2]
theorem O0(n:Nat)(t:ByteArray)(σ:FState):(env (n+2)).call 158 [.string t] none σ=.ret (.bool (symB t)) none σ:=by
 rw[Ag _ 158 _ _ rfl,Afz _ _ _ _ (by simp),Af]
 unfold Zx
 have hkeep:keepOf nls 158=[]:=by kernel_rfl
 by_cases hs1:t.size<1
 ·have d0:decide (Int.ofNat t.size<1)=true:=by simp;omega
  have e:symB t=false:=by unfold symB;rw[show decide (1≤t.size)=false from decide_eq_false (by omega)];rfl
  simp -implicitDefEqProofs only[go_sem,Dl,DJ,Dm,DK,Gp,Gn,d0,e]
 ·have d0:decide (Int.ofNat t.size<1)=false:=by simp;omega
  by_cases hs2:t.size>20
  ·have d1:decide (Int.ofNat t.size>20)=true:=by simp;omega
   have e:symB t=false:=by unfold symB;rw[show decide (t.size≤20)=false from decide_eq_false (by omega),Bool.and_false];rfl
   simp -implicitDefEqProofs only[go_sem,Dl,DJ,Dm,DK,Gp,Gn,d0,d1,e]
  ·have d1:decide (Int.ofNat t.size>20)=false:=by simp;omega
   have b0:=IE t (by omega) σ
   have g0:=KT n (byteAt t 0) σ
   cases hd0:digC (byteAt t 0) with
   | true=>
    rw[hd0] at g0
    have e:symB t=false:=by unfold symB;rw[hd0];simp
    simp -implicitDefEqProofs only[go_sem,Dl,DJ,Dm,DK,Gp,Gn,d0,d1,b0,g0,e]
   | false=>
    rw[hd0] at g0
    have fin:∀(f g:Nat→Value),f 0=.string t→f 3=.int .i64 (.ofNat 0)→(byteAt t 0==45&&decide (1<t.size)&&digC (byteAt t 1))=false→∃f' g',(symB t=true∧floop [] (Eo (env (n+1)) none 158) bigFuel (Sl 5 63 f g []) none σ=.done (.exit 0) (Sl 5 63 f' g' []) none σ)∨
      (symB t=false∧floop [] (Eo (env (n+1)) none 158) bigFuel (Sl 5 63 f g []) none σ=.done .ret (Sl 5 63 f' g' []) none σ∧f' 2=.bool false):=fun f g f0 f3 h4=>by
     obtain⟨f',g',h⟩:=AqX n t (by omega) σ t.size bigFuel 0 f g (by omega) (by show t.size<1000000000000;omega) (by omega) f0 f3
     refine⟨f',g',?_⟩
     rw[AqZ (by omega) (by omega) hd0 h4]
     rcases h with⟨h1,h2⟩|⟨⟨k,h1,h2,h3⟩,h5,h6⟩
     ·exact .inl ⟨List.all_eq_true.2 fun k hk=>h1 k (Nat.zero_le _) (List.mem_range.1 hk),h2⟩
     ·refine .inr ⟨?_,h5,h6⟩
      rw[←Bool.not_eq_true,List.all_eq_true]
      intro h
      have:=h k (List.mem_range.2 h2)
      rw[h3] at this
      cases this
    by_cases h45:byteAt t 0=45
    ·have e45:((byteAt t 0:Int)==45)=true:=by simp;omega
     by_cases hs3:t.size>1
     ·have d3:decide (Int.ofNat t.size>1)=true:=by simp;omega
      have b1:=NY t (by omega) σ
      have g1:=KT n (byteAt t 1) σ
      cases hd1:digC (byteAt t 1) with
      | true=>
       rw[hd1] at g1
       have e:symB t=false:=by unfold symB;rw[hd1,hd0];simp[h45,hs3]
       simp -implicitDefEqProofs only[go_sem,Dl,DJ,Dm,DK,Gp,Gn,d0,d1,d3,b0,g0,b1,g1,Cg,e45,e]
      | false=>
       rw[hd1] at g1
       simp -implicitDefEqProofs only[go_sem,Dl,DJ,Dm,DK,I1,HY,d0,d1,d3,b0,g0,b1,g1,Cg,e45,Ae,hkeep]
       generalize hff:upd _ 3 _=f1
       generalize hgg:upd _ 32 _=gg1
       obtain⟨f',g',h⟩:=fin f1 gg1 (by rw[←hff];simp -implicitDefEqProofs only[go_sem,reduceCtorEq]) (by rw[←hff];simp -implicitDefEqProofs only[go_sem,reduceCtorEq]<;>rfl) (by rw[hd1,Bool.and_false])
       rcases h with⟨h1,h2⟩|⟨h1,h2,h3⟩
       ·rw[h2];simp -implicitDefEqProofs only[go_sem,G8,FK,h1]
       ·rw[h2];simp -implicitDefEqProofs only[go_sem,h1,h3]
     ·have d3:decide (Int.ofNat t.size>1)=false:=by simp;omega
      simp -implicitDefEqProofs only[go_sem,Dl,DJ,Dm,DK,I1,HY,d0,d1,d3,b0,g0,Cg,e45,Ae,hkeep]
      generalize hff:upd _ 3 _=f1
      generalize hgg:upd _ 32 _=gg1
      obtain⟨f',g',h⟩:=fin f1 gg1 (by rw[←hff];simp -implicitDefEqProofs only[go_sem,reduceCtorEq]) (by rw[←hff];simp -implicitDefEqProofs only[go_sem,reduceCtorEq]<;>rfl) (by rw[show decide (1<t.size)=false from decide_eq_false (by omega)];simp)
      rcases h with⟨h1,h2⟩|⟨h1,h2,h3⟩
      ·rw[h2];simp -implicitDefEqProofs only[go_sem,G8,FK,h1]
      ·rw[h2];simp -implicitDefEqProofs only[go_sem,h1,h3]
    ·have e45:((byteAt t 0:Int)==45)=false:=by simp;omega
     simp -implicitDefEqProofs only[go_sem,Dl,DJ,Dm,DK,I1,HY,d0,d1,b0,g0,Cg,e45,Ae,hkeep]
     generalize hff:upd _ 3 _=f1
     generalize hgg:upd _ 32 _=gg1
     obtain⟨f',g',h⟩:=fin f1 gg1 (by rw[←hff];simp -implicitDefEqProofs only[go_sem,reduceCtorEq]) (by rw[←hff];simp -implicitDefEqProofs only[go_sem,reduceCtorEq]<;>rfl) (by rw[show (byteAt t 0==45)=false by simpa using h45];rfl)
     rcases h with⟨h1,h2⟩|⟨h1,h2,h3⟩
     ·rw[h2];simp -implicitDefEqProofs only[go_sem,G8,FK,h1]
     ·rw[h2];simp -implicitDefEqProofs only[go_sem,h1,h3]
end
section
open Go Go.Eng
attribute [local congr] Ac Aj Ai Ad Ah
attribute [-go_sem] List.range_succ
def plainC(c:Nat):Bool:=decide (32≤c)&&decide (c≤126)
def plainB(t:ByteArray):Bool:=(List.range t.size).all fun i=>plainC (byteAt t i)
def textE(t:ByteArray):Nat:=if 60<t.size then 8 else if plainB t=true then 0 else 13
theorem AoI(n i c:Nat)(t:ByteArray)(f g:Nat→Value)(σ:FState)(hi:i<t.size)(hsz:i<1000000)(hc:byteAt t i=c)(f0:f 0=.string t)(f3:f 3=.int .i64 (.ofNat i)):
  ∃f' g',f' 0=.string t∧((plainC c=true∧Fy (env n) none 159 (Sl 4 23 f g []) none σ=.done .normal (Sl 4 23 f' g' []) none σ∧f' 3=.int .i64 (.ofNat (i+1)))∨
   (plainC c=false∧Fy (env n) none 159 (Sl 4 23 f g []) none σ=.done .ret (Sl 4 23 f' g' []) none σ∧f' 2=.int .i64 13)):=by
 have d0:decide (Int.ofNat i<Int.ofNat t.size)=true:=by simp;omega
 have hb:=De t i hi σ
 rw[hc] at hb
 have a1:=D4 i (by omega)
 unfold Fy
 by_cases h1:c<32
 ·have l1:decide ((c:Int)<32)=true:=by simp;omega
  simp -implicitDefEqProofs only[go_sem,Gr,Gq,I2,HZ,I3,H0,I4,H3,f0,f3,d0,hb,a1,l1,WM,WA,Ae]
  refine⟨_,_,?_,.inr ⟨by unfold plainC;simp;omega,rfl,?_⟩⟩
  ·simp -implicitDefEqProofs only[go_sem,reduceCtorEq,f0]
  ·simp -implicitDefEqProofs only[go_sem,reduceCtorEq]
 ·have l1:decide ((c:Int)<32)=false:=by simp;omega
  by_cases h2:126<c
  ·have l2:decide ((c:Int)>126)=true:=by simp;omega
   simp -implicitDefEqProofs only[go_sem,Gr,Gq,I2,HZ,I3,H0,I4,H3,f0,f3,d0,hb,a1,l1,l2,WM,WA,Ae]
   refine⟨_,_,?_,.inr ⟨by unfold plainC;simp;omega,rfl,?_⟩⟩
   ·simp -implicitDefEqProofs only[go_sem,reduceCtorEq,f0]
   ·simp -implicitDefEqProofs only[go_sem,reduceCtorEq]
  ·have l2:decide ((c:Int)>126)=false:=by simp;omega
   simp -implicitDefEqProofs only[go_sem,Gr,Gq,I2,HZ,I3,H0,I4,H3,f0,f3,d0,hb,a1,l1,l2,WM,WA,Ae]
   refine⟨_,_,?_,.inl ⟨by unfold plainC;simp;omega,rfl,?_⟩⟩
   ·simp -implicitDefEqProofs only[go_sem,reduceCtorEq,f0]
   ·simp -implicitDefEqProofs only[go_sem,reduceCtorEq]
theorem AoH(n:Nat)(t:ByteArray)(hsz:t.size≤60)(σ:FState):∀(j fuel i:Nat) (f g:Nat→Value),t.size-i=j→j<fuel→i≤t.size→f 0=.string t→f 3=.int .i64 (.ofNat i)→
  ∃f' g',((∀k,i≤k→k<t.size→plainC (byteAt t k)=true)∧floop [] (Fy (env n) none 159) fuel (Sl 4 23 f g []) none σ=.done (.exit 0) (Sl 4 23 f' g' []) none σ)∨
   ((∃k,i≤k∧k<t.size∧plainC (byteAt t k)=false)∧floop [] (Fy (env n) none 159) fuel (Sl 4 23 f g []) none σ=.done .ret (Sl 4 23 f' g' []) none σ∧f' 2=.int .i64 13):=by
 intro j
 induction j with
 | zero=>
  intro fuel i f g hj hf hi f0 f3
  obtain⟨fuel,rfl⟩:∃q,fuel=q+1:=⟨fuel-1,by omega⟩
  obtain rfl:i=t.size:=by omega
  have d0:decide (Int.ofNat t.size<Int.ofNat t.size)=false:=by simp
  rw[Am]
  have h:∃f' g',Fy (env n) none 159 (Sl 4 23 f (kept [] g) []) none σ=.done (.exit 0) (Sl 4 23 f' g' []) none σ:=by
   unfold Fy
   simp -implicitDefEqProofs only[go_sem,Gr,Gq,f0,f3,d0]
   exact⟨_,_,rfl⟩
  obtain⟨f',g',e⟩:=h
  refine⟨f',g',.inl ⟨fun k h1 h2=>by omega,?_⟩⟩
  simp -implicitDefEqProofs only[Bk,e,C0]
 | succ j ih=>
  intro fuel i f g hj hf hi f0 f3
  obtain⟨fuel,rfl⟩:∃q,fuel=q+1:=⟨fuel-1,by omega⟩
  have hlt:i<t.size:=by omega
  rw[Am]
  obtain⟨f1,g1,h0,h⟩:=AoI n i (byteAt t i) t f (kept [] g) σ hlt (by omega) rfl f0 f3
  rcases h with⟨hc,e,h3⟩|⟨hc,e,h2⟩
  ·obtain⟨f2,g2,h⟩:=ih fuel (i+1) f1 g1 (by omega) (by omega) (by omega) h0 h3
   refine⟨f2,g2,?_⟩
   simp -implicitDefEqProofs only[Bk,e,BC]
   rcases h with⟨h4,h5⟩|⟨⟨k,h4,h5,h6⟩,h7,h8⟩
   ·refine .inl ⟨fun k h1 h2=>?_,h5⟩
    by_cases hk:k=i
    ·subst hk;exact hc
    ·exact h4 k (by omega) h2
   ·exact .inr ⟨⟨k,by omega,h5,h6⟩,h7,h8⟩
  ·refine⟨f1,g1,.inr ⟨⟨i,Nat.le_refl _,hlt,hc⟩,?_,h2⟩⟩
   simp -implicitDefEqProofs only[Bk,e,CD]
theorem AmV(n:Nat)(t:ByteArray)(σ:FState):(env (n+1)).call 159 [.string t] none σ=.ret (.int .i64 (textE t:Nat)) none σ:=by
 rw[Ag _ 159 _ _ rfl,AfA _ _ _ _ (by simp),Af]
 unfold Zy
 have hkeep:keepOf nls 159=[]:=by kernel_rfl
 by_cases hs:60<t.size
 ·have d0:decide (Int.ofNat t.size>60)=true:=by simp;omega
  have e:textE t=8:=by unfold textE;rw[if_pos hs]
  simp -implicitDefEqProofs only[go_sem,OI,Kp,OJ,Kq,Ady,QZ,d0,e]
  rfl
 ·have d0:decide (Int.ofNat t.size>60)=false:=by simp;omega
  simp -implicitDefEqProofs only[go_sem,OI,Kp,OJ,Kq,Adz,Q0,d0,Ae,hkeep]
  generalize hff:upd _ 3 _=f1
  generalize hgg:upd _ 6 _=g1
  obtain⟨f',g',h⟩:=AoH n t (by omega) σ t.size bigFuel 0 f1 g1 (by omega) (by show t.size<1000000000000;omega) (by omega) (by rw[←hff];simp -implicitDefEqProofs only[go_sem,reduceCtorEq]) (by rw[←hff];simp -implicitDefEqProofs only[go_sem,reduceCtorEq]<;>rfl)
  rcases h with⟨h1,h2⟩|⟨⟨k,h1,h2,h3⟩,h5,h6⟩
  ·have e:textE t=0:=by
    unfold textE
    rw[if_neg hs,if_pos]
    exact List.all_eq_true.2 fun k hk=>h1 k (Nat.zero_le _) (List.mem_range.1 hk)
   rw[h2];simp -implicitDefEqProofs only[go_sem,AdA,Q1,e]
   rfl
  ·have e:textE t=13:=by
    unfold textE
    rw[if_neg hs,if_neg]
    intro h
    have:=List.all_eq_true.1 h k (List.mem_range.2 h2)
    rw[h3] at this
    cases this
   rw[h5];simp -implicitDefEqProofs only[go_sem,h6,e]
   rfl
def formB(k z:Int)(t:ByteArray)(l:Nat):Bool:=(!(k==1||k==2)&&z != 0)||(!(k==3||k==4)&&decide (t.size≠0))||(!(k==5||k==6)&&decide (0<l))||(k==5&&decide (l≠2))
def pieceE(k z:Int)(t:ByteArray)(l:Nat):Nat:=
 if 0≤k∧k≤6 then
  if formB k z t l=true then 1
  else if k=1 then (if 0≤z∧z≤1 then 0 else 13)
  else if k=2 then (if -999999999≤z∧z≤999999999 then 0 else 13)
  else if k=3 then (if symB t=true then 0 else 2)
  else if k=4 then textE t
  else 0
 else 4
theorem Ck{t:ByteArray}(h:t.size=0):t=⟨#[]⟩:=by
 apply ByteArray.ext
 exact Array.eq_empty_of_size_eq_zero h
theorem CV{t:ByteArray}(h:t.size≠0):(t.toList==(⟨#[]⟩:ByteArray).toList)=false:=by
 rw[←Bool.not_eq_true,beq_iff_eq]
 intro h'
 have:=toList_inj h'
 subst this
 exact h rfl
theorem Avl(n:Nat)(z:Int)(t:ByteArray)(l:Nat)(p:Option Addr)(c:Nat)(σ:FState)(hw:Wf σ):
  Gives ((env (n+4)).call 130 [.agg #[.int .i64 0,.int .i64 z,.string t,.slice p l c]] none σ) σ fun w _=>w=.int .i64 (pieceE 0 z t l:Nat):=by
 rw[Ag _ 130 _ _ rfl,C7 _ _ _ _ (by simp),Af]
 unfold D3
 have fin:Ext σ (σ.push (.cells [.int .i64 0,.int .i64 z,.string t,.slice p l c] TD) none)∧Wf (σ.push (.cells [.int .i64 0,.int .i64 z,.string t,.slice p l c] TD) none):=⟨(Ext.refl _).push _ _,hw.push _ _⟩
 have w0:(decide ((0:Int)≤0)&&decide ((0:Int)≤6))=true:=by decide
 by_cases hz:z=0
 ·have z1:(z==0)=true:=by simpa using hz
  by_cases ht:t.size=0
  ·have t1:(t.toList==(⟨#[]⟩:ByteArray).toList)=true:=by rw[Ck ht];exact beq_self_eq_true _
   by_cases hl:0<l
   ·have l1:decide (Int.ofNat l>0)=true:=by simp;omega
    have hE:pieceE 0 z t l=1:=by unfold pieceE formB;simp[hz,ht,hl]
    simp -implicitDefEqProofs only[go_sem,Int.reduceBEq,AM,Bh,AN,Bi,AO,Bj,AP,Bl,AQ,Bm,AR,Bn,AS,Bo,AT,Bp,AU,Bq,AV,Br,Ax,AY,Ay,AZ,Az,A0,AA,A1,AB,A2,AC,A3,AD,A4,AE,A5,AF,A6,AG,A7,AH,A8,AL,Bool.or_true,Bool.or_false,Ae,w0,z1,t1,l1,Bool.not_false,Bool.not_true]
    exact⟨_,_,rfl,fin.1,fin.2,by rw[hE]<;>rfl⟩
   ·have l1:decide (Int.ofNat l>0)=false:=by simp;omega
    have hE:pieceE 0 z t l=0:=by unfold pieceE formB;simp[hz,ht,hl]
    simp -implicitDefEqProofs only[go_sem,Int.reduceBEq,AM,Bh,AN,Bi,AO,Bj,AP,Bl,AQ,Bm,AR,Bn,AS,Bo,AT,Bp,AU,Bq,AV,Br,Ax,AY,Ay,AZ,Az,A0,AA,A1,AB,A2,AC,A3,AD,A4,AE,A5,AF,A6,AG,A7,AH,A8,AL,Bool.or_true,Bool.or_false,Ae,w0,z1,t1,l1,Bool.not_false,Bool.not_true]
    exact⟨_,_,rfl,fin.1,fin.2,by rw[hE]<;>rfl⟩
  ·have t1:=CV ht
   have hE:pieceE 0 z t l=1:=by unfold pieceE formB;simp[hz,ht]
   simp -implicitDefEqProofs only[go_sem,Int.reduceBEq,AM,Bh,AN,Bi,AO,Bj,AP,Bl,AQ,Bm,AR,Bn,AS,Bo,AT,Bp,AU,Bq,AV,Br,Ax,AY,Ay,AZ,Az,A0,AA,A1,AB,A2,AC,A3,AD,A4,AE,A5,AF,A6,AG,A7,AH,A8,AL,Bool.or_true,Bool.or_false,Ae,w0,z1,t1,Bool.not_false,Bool.not_true]
   exact⟨_,_,rfl,fin.1,fin.2,by rw[hE]<;>rfl⟩
 ·have z1:(z==0)=false:=by simpa using hz
  have hE:pieceE 0 z t l=1:=by unfold pieceE formB;simp[hz]
  simp -implicitDefEqProofs only[go_sem,Int.reduceBEq,AM,Bh,AN,Bi,AO,Bj,AP,Bl,AQ,Bm,AR,Bn,AS,Bo,AT,Bp,AU,Bq,AV,Br,Ax,AY,Ay,AZ,Az,A0,AA,A1,AB,A2,AC,A3,AD,A4,AE,A5,AF,A6,AG,A7,AH,A8,AL,Bool.or_true,Bool.or_false,Ae,w0,z1,Bool.not_false,Bool.not_true]
  exact⟨_,_,rfl,fin.1,fin.2,by rw[hE]<;>rfl⟩
theorem Avm(n:Nat)(z:Int)(t:ByteArray)(l:Nat)(p:Option Addr)(c:Nat)(σ:FState)(hw:Wf σ):
  Gives ((env (n+4)).call 130 [.agg #[.int .i64 1,.int .i64 z,.string t,.slice p l c]] none σ) σ fun w _=>w=.int .i64 (pieceE 1 z t l:Nat):=by
 rw[Ag _ 130 _ _ rfl,C7 _ _ _ _ (by simp),Af]
 unfold D3
 have fin:Ext σ (σ.push (.cells [.int .i64 1,.int .i64 z,.string t,.slice p l c] TD) none)∧Wf (σ.push (.cells [.int .i64 1,.int .i64 z,.string t,.slice p l c] TD) none):=⟨(Ext.refl _).push _ _,hw.push _ _⟩
 have w0:(decide ((0:Int)≤1)&&decide ((1:Int)≤6))=true:=by decide
 by_cases ht:t.size=0
 ·have t1:(t.toList==(⟨#[]⟩:ByteArray).toList)=true:=by rw[Ck ht];exact beq_self_eq_true _
  by_cases hl:0<l
  ·have l1:decide (Int.ofNat l>0)=true:=by simp;omega
   have hE:pieceE 1 z t l=1:=by unfold pieceE formB;simp[ht,hl]
   simp -implicitDefEqProofs only[go_sem,Int.reduceBEq,AM,Bh,AN,Bi,AO,Bj,AP,Bl,AQ,Bm,AR,Bn,AS,Bo,AT,Bp,AU,Bq,AV,Br,Ax,AY,Ay,AZ,Az,A0,AA,A1,AB,A2,AC,A3,AD,A4,AE,A5,AF,A6,AG,A7,AH,A8,AL,Bool.or_true,Bool.or_false,Ae,w0,t1,l1,Bool.not_false,Bool.not_true]
   exact⟨_,_,rfl,fin.1,fin.2,by rw[hE]<;>rfl⟩
  ·have l1:decide (Int.ofNat l>0)=false:=by simp;omega
   by_cases hr:0≤z∧z≤1
   ·have r1:(decide ((0:Int)≤z)&&decide (z≤1))=true:=by simp;omega
    have hE:pieceE 1 z t l=0:=by unfold pieceE formB;simp[ht,hl,hr]
    simp -implicitDefEqProofs only[go_sem,Int.reduceBEq,AM,Bh,AN,Bi,AO,Bj,AP,Bl,AQ,Bm,AR,Bn,AS,Bo,AT,Bp,AU,Bq,AV,Br,Ax,AY,Ay,AZ,Az,A0,AA,A1,AB,A2,AC,A3,AD,A4,AE,A5,AF,A6,AG,A7,AH,A8,AL,Bool.or_true,Bool.or_false,Ae,w0,t1,l1,r1,Bool.not_false,Bool.not_true]
    exact⟨_,_,rfl,fin.1,fin.2,by rw[hE]<;>rfl⟩
   ·have r1:(decide ((0:Int)≤z)&&decide (z≤1))=false:=by simp;omega
    have hr1:¬ (0≤z∧z≤1):=hr
    have hE:pieceE 1 z t l=13:=by unfold pieceE formB;simp[ht,hl];omega
    simp -implicitDefEqProofs only[go_sem,Int.reduceBEq,AM,Bh,AN,Bi,AO,Bj,AP,Bl,AQ,Bm,AR,Bn,AS,Bo,AT,Bp,AU,Bq,AV,Br,Ax,AY,Ay,AZ,Az,A0,AA,A1,AB,A2,AC,A3,AD,A4,AE,A5,AF,A6,AG,A7,AH,A8,AL,Bool.or_true,Bool.or_false,Ae,w0,t1,l1,r1,Bool.not_false,Bool.not_true]
    exact⟨_,_,rfl,fin.1,fin.2,by rw[hE]<;>rfl⟩
 ·have t1:=CV ht
  have hE:pieceE 1 z t l=1:=by unfold pieceE formB;simp[ht]
  simp -implicitDefEqProofs only[go_sem,Int.reduceBEq,AM,Bh,AN,Bi,AO,Bj,AP,Bl,AQ,Bm,AR,Bn,AS,Bo,AT,Bp,AU,Bq,AV,Br,Ax,AY,Ay,AZ,Az,A0,AA,A1,AB,A2,AC,A3,AD,A4,AE,A5,AF,A6,AG,A7,AH,A8,AL,Bool.or_true,Bool.or_false,Ae,w0,t1,Bool.not_false,Bool.not_true]
  exact⟨_,_,rfl,fin.1,fin.2,by rw[hE]<;>rfl⟩
theorem Avn(n:Nat)(z:Int)(t:ByteArray)(l:Nat)(p:Option Addr)(c:Nat)(σ:FState)(hw:Wf σ):
  Gives ((env (n+4)).call 130 [.agg #[.int .i64 2,.int .i64 z,.string t,.slice p l c]] none σ) σ fun w _=>w=.int .i64 (pieceE 2 z t l:Nat):=by
 rw[Ag _ 130 _ _ rfl,C7 _ _ _ _ (by simp),Af]
 unfold D3
 have fin:Ext σ (σ.push (.cells [.int .i64 2,.int .i64 z,.string t,.slice p l c] TD) none)∧Wf (σ.push (.cells [.int .i64 2,.int .i64 z,.string t,.slice p l c] TD) none):=⟨(Ext.refl _).push _ _,hw.push _ _⟩
 have w0:(decide ((0:Int)≤2)&&decide ((2:Int)≤6))=true:=by decide
 by_cases ht:t.size=0
 ·have t1:(t.toList==(⟨#[]⟩:ByteArray).toList)=true:=by rw[Ck ht];exact beq_self_eq_true _
  by_cases hl:0<l
  ·have l1:decide (Int.ofNat l>0)=true:=by simp;omega
   have hE:pieceE 2 z t l=1:=by unfold pieceE formB;simp[ht,hl]
   simp -implicitDefEqProofs only[go_sem,Int.reduceBEq,AM,Bh,AN,Bi,AO,Bj,AP,Bl,AQ,Bm,AR,Bn,AS,Bo,AT,Bp,AU,Bq,AV,Br,Ax,AY,Ay,AZ,Az,A0,AA,A1,AB,A2,AC,A3,AD,A4,AE,A5,AF,A6,AG,A7,AH,A8,AL,Bool.or_true,Bool.or_false,Ae,w0,t1,l1,Bool.not_false,Bool.not_true]
   exact⟨_,_,rfl,fin.1,fin.2,by rw[hE]<;>rfl⟩
  ·have l1:decide (Int.ofNat l>0)=false:=by simp;omega
   by_cases hr : -999999999≤z∧z≤999999999
   ·have r1:(decide ((-999999999:Int)≤z)&&decide (z≤999999999))=true:=by simp;omega
    have hE:pieceE 2 z t l=0:=by unfold pieceE formB;simp[ht,hl,hr]
    simp -implicitDefEqProofs only[go_sem,Int.reduceBEq,AM,Bh,AN,Bi,AO,Bj,AP,Bl,AQ,Bm,AR,Bn,AS,Bo,AT,Bp,AU,Bq,AV,Br,Ax,AY,Ay,AZ,Az,A0,AA,A1,AB,A2,AC,A3,AD,A4,AE,A5,AF,A6,AG,A7,AH,A8,AL,Bool.or_true,Bool.or_false,Ae,w0,t1,l1,r1,Bool.not_false,Bool.not_true]
    exact⟨_,_,rfl,fin.1,fin.2,by rw[hE]<;>rfl⟩
   ·have r1:(decide ((-999999999:Int)≤z)&&decide (z≤999999999))=false:=by simp;omega
    have hr1:¬ (-999999999≤z∧z≤999999999):=hr
    have hE:pieceE 2 z t l=13:=by unfold pieceE formB;simp[ht,hl];omega
    simp -implicitDefEqProofs only[go_sem,Int.reduceBEq,AM,Bh,AN,Bi,AO,Bj,AP,Bl,AQ,Bm,AR,Bn,AS,Bo,AT,Bp,AU,Bq,AV,Br,Ax,AY,Ay,AZ,Az,A0,AA,A1,AB,A2,AC,A3,AD,A4,AE,A5,AF,A6,AG,A7,AH,A8,AL,Bool.or_true,Bool.or_false,Ae,w0,t1,l1,r1,Bool.not_false,Bool.not_true]
    exact⟨_,_,rfl,fin.1,fin.2,by rw[hE]<;>rfl⟩
 ·have t1:=CV ht
  have hE:pieceE 2 z t l=1:=by unfold pieceE formB;simp[ht]
  simp -implicitDefEqProofs only[go_sem,Int.reduceBEq,AM,Bh,AN,Bi,AO,Bj,AP,Bl,AQ,Bm,AR,Bn,AS,Bo,AT,Bp,AU,Bq,AV,Br,Ax,AY,Ay,AZ,Az,A0,AA,A1,AB,A2,AC,A3,AD,A4,AE,A5,AF,A6,AG,A7,AH,A8,AL,Bool.or_true,Bool.or_false,Ae,w0,t1,Bool.not_false,Bool.not_true]
  exact⟨_,_,rfl,fin.1,fin.2,by rw[hE]<;>rfl⟩
theorem Avo(n:Nat)(z:Int)(t:ByteArray)(l:Nat)(p:Option Addr)(c:Nat)(σ:FState)(hw:Wf σ):
  Gives ((env (n+4)).call 130 [.agg #[.int .i64 3,.int .i64 z,.string t,.slice p l c]] none σ) σ fun w _=>w=.int .i64 (pieceE 3 z t l:Nat):=by
 rw[Ag _ 130 _ _ rfl,C7 _ _ _ _ (by simp),Af]
 unfold D3
 have fin:Ext σ (σ.push (.cells [.int .i64 3,.int .i64 z,.string t,.slice p l c] TD) none)∧Wf (σ.push (.cells [.int .i64 3,.int .i64 z,.string t,.slice p l c] TD) none):=⟨(Ext.refl _).push _ _,hw.push _ _⟩
 have w0:(decide ((0:Int)≤3)&&decide ((3:Int)≤6))=true:=by decide
 by_cases hz:z=0
 ·have z1:(z==0)=true:=by simpa using hz
  by_cases hl:0<l
  ·have l1:decide (Int.ofNat l>0)=true:=by simp;omega
   have hE:pieceE 3 z t l=1:=by unfold pieceE formB;simp[hz,hl]
   simp -implicitDefEqProofs only[go_sem,Int.reduceBEq,AM,Bh,AN,Bi,AO,Bj,AP,Bl,AQ,Bm,AR,Bn,AS,Bo,AT,Bp,AU,Bq,AV,Br,Ax,AY,Ay,AZ,Az,A0,AA,A1,AB,A2,AC,A3,AD,A4,AE,A5,AF,A6,AG,A7,AH,A8,AL,Bool.or_true,Bool.or_false,Ae,w0,z1,l1,Bool.not_false,Bool.not_true]
   exact⟨_,_,rfl,fin.1,fin.2,by rw[hE]<;>rfl⟩
  ·have l1:decide (Int.ofNat l>0)=false:=by simp;omega
   cases hs:symB t with
   | true=>
    have hy:=fun σ=>O0 (n+1) t σ
    rw[hs] at hy
    have hE:pieceE 3 z t l=0:=by unfold pieceE formB;simp[hz,hl,hs]
    simp -implicitDefEqProofs only[go_sem,Int.reduceBEq,AM,Bh,AN,Bi,AO,Bj,AP,Bl,AQ,Bm,AR,Bn,AS,Bo,AT,Bp,AU,Bq,AV,Br,Ax,AY,Ay,AZ,Az,A0,AA,A1,AB,A2,AC,A3,AD,A4,AE,A5,AF,A6,AG,A7,AH,A8,AL,Bool.or_true,Bool.or_false,Ae,w0,z1,l1,hy,Bool.not_false,Bool.not_true]
    exact⟨_,_,rfl,fin.1,fin.2,by rw[hE]<;>rfl⟩
   | false=>
    have hy:=fun σ=>O0 (n+1) t σ
    rw[hs] at hy
    have hE:pieceE 3 z t l=2:=by unfold pieceE formB;simp[hz,hl,hs]
    simp -implicitDefEqProofs only[go_sem,Int.reduceBEq,AM,Bh,AN,Bi,AO,Bj,AP,Bl,AQ,Bm,AR,Bn,AS,Bo,AT,Bp,AU,Bq,AV,Br,Ax,AY,Ay,AZ,Az,A0,AA,A1,AB,A2,AC,A3,AD,A4,AE,A5,AF,A6,AG,A7,AH,A8,AL,Bool.or_true,Bool.or_false,Ae,w0,z1,l1,hy,Bool.not_false,Bool.not_true]
    exact⟨_,_,rfl,fin.1,fin.2,by rw[hE]<;>rfl⟩
 ·have z1:(z==0)=false:=by simpa using hz
  have hE:pieceE 3 z t l=1:=by unfold pieceE formB;simp[hz]
  simp -implicitDefEqProofs only[go_sem,Int.reduceBEq,AM,Bh,AN,Bi,AO,Bj,AP,Bl,AQ,Bm,AR,Bn,AS,Bo,AT,Bp,AU,Bq,AV,Br,Ax,AY,Ay,AZ,Az,A0,AA,A1,AB,A2,AC,A3,AD,A4,AE,A5,AF,A6,AG,A7,AH,A8,AL,Bool.or_true,Bool.or_false,Ae,w0,z1,Bool.not_false,Bool.not_true]
  exact⟨_,_,rfl,fin.1,fin.2,by rw[hE]<;>rfl⟩
theorem Avp(n:Nat)(z:Int)(t:ByteArray)(l:Nat)(p:Option Addr)(c:Nat)(σ:FState)(hw:Wf σ):
  Gives ((env (n+4)).call 130 [.agg #[.int .i64 4,.int .i64 z,.string t,.slice p l c]] none σ) σ fun w _=>w=.int .i64 (pieceE 4 z t l:Nat):=by
 rw[Ag _ 130 _ _ rfl,C7 _ _ _ _ (by simp),Af]
 unfold D3
 have fin:Ext σ (σ.push (.cells [.int .i64 4,.int .i64 z,.string t,.slice p l c] TD) none)∧Wf (σ.push (.cells [.int .i64 4,.int .i64 z,.string t,.slice p l c] TD) none):=⟨(Ext.refl _).push _ _,hw.push _ _⟩
 have w0:(decide ((0:Int)≤4)&&decide ((4:Int)≤6))=true:=by decide
 by_cases hz:z=0
 ·have z1:(z==0)=true:=by simpa using hz
  by_cases hl:0<l
  ·have l1:decide (Int.ofNat l>0)=true:=by simp;omega
   have hE:pieceE 4 z t l=1:=by unfold pieceE formB;simp[hz,hl]
   simp -implicitDefEqProofs only[go_sem,Int.reduceBEq,AM,Bh,AN,Bi,AO,Bj,AP,Bl,AQ,Bm,AR,Bn,AS,Bo,AT,Bp,AU,Bq,AV,Br,Ax,AY,Ay,AZ,Az,A0,AA,A1,AB,A2,AC,A3,AD,A4,AE,A5,AF,A6,AG,A7,AH,A8,AL,Bool.or_true,Bool.or_false,Ae,w0,z1,l1,Bool.not_false,Bool.not_true]
   exact⟨_,_,rfl,fin.1,fin.2,by rw[hE]<;>rfl⟩
  ·have l1:decide (Int.ofNat l>0)=false:=by simp;omega
   have hy:=fun σ=>AmV (n+2) t σ
   have hE:pieceE 4 z t l=textE t:=by unfold pieceE formB;simp[hz,hl]
   simp -implicitDefEqProofs only[go_sem,Int.reduceBEq,AM,Bh,AN,Bi,AO,Bj,AP,Bl,AQ,Bm,AR,Bn,AS,Bo,AT,Bp,AU,Bq,AV,Br,Ax,AY,Ay,AZ,Az,A0,AA,A1,AB,A2,AC,A3,AD,A4,AE,A5,AF,A6,AG,A7,AH,A8,AL,Bool.or_true,Bool.or_false,Ae,w0,z1,l1,hy,Bool.not_false,Bool.not_true]
   exact⟨_,_,rfl,fin.1,fin.2,by rw[hE]<;>rfl⟩
 ·have z1:(z==0)=false:=by simpa using hz
  have hE:pieceE 4 z t l=1:=by unfold pieceE formB;simp[hz]
  simp -implicitDefEqProofs only[go_sem,Int.reduceBEq,AM,Bh,AN,Bi,AO,Bj,AP,Bl,AQ,Bm,AR,Bn,AS,Bo,AT,Bp,AU,Bq,AV,Br,Ax,AY,Ay,AZ,Az,A0,AA,A1,AB,A2,AC,A3,AD,A4,AE,A5,AF,A6,AG,A7,AH,A8,AL,Bool.or_true,Bool.or_false,Ae,w0,z1,Bool.not_false,Bool.not_true]
  exact⟨_,_,rfl,fin.1,fin.2,by rw[hE]<;>rfl⟩
theorem Avq(n:Nat)(z:Int)(t:ByteArray)(l:Nat)(p:Option Addr)(c:Nat)(σ:FState)(hw:Wf σ):
  Gives ((env (n+4)).call 130 [.agg #[.int .i64 5,.int .i64 z,.string t,.slice p l c]] none σ) σ fun w _=>w=.int .i64 (pieceE 5 z t l:Nat):=by
 rw[Ag _ 130 _ _ rfl,C7 _ _ _ _ (by simp),Af]
 unfold D3
 have fin:Ext σ (σ.push (.cells [.int .i64 5,.int .i64 z,.string t,.slice p l c] TD) none)∧Wf (σ.push (.cells [.int .i64 5,.int .i64 z,.string t,.slice p l c] TD) none):=⟨(Ext.refl _).push _ _,hw.push _ _⟩
 have w0:(decide ((0:Int)≤5)&&decide ((5:Int)≤6))=true:=by decide
 by_cases hz:z=0
 ·have z1:(z==0)=true:=by simpa using hz
  by_cases ht:t.size=0
  ·have t1:(t.toList==(⟨#[]⟩:ByteArray).toList)=true:=by rw[Ck ht];exact beq_self_eq_true _
   by_cases hl:l=2
   ·have l1:(Int.ofNat l==2)=true:=by simp;omega
    have hE:pieceE 5 z t l=0:=by unfold pieceE formB;simp[hz,ht,hl]
    simp -implicitDefEqProofs only[go_sem,Int.reduceBEq,AM,Bh,AN,Bi,AO,Bj,AP,Bl,AQ,Bm,AR,Bn,AS,Bo,AT,Bp,AU,Bq,AV,Br,Ax,AY,Ay,AZ,Az,A0,AA,A1,AB,A2,AC,A3,AD,A4,AE,A5,AF,A6,AG,A7,AH,A8,AL,Bool.or_true,Bool.or_false,Ae,w0,z1,t1,l1,Bool.not_false,Bool.not_true]
    exact⟨_,_,rfl,fin.1,fin.2,by rw[hE]<;>rfl⟩
   ·have l1:(Int.ofNat l==2)=false:=by simp;omega
    have hE:pieceE 5 z t l=1:=by unfold pieceE formB;simp[hz,ht,hl]
    simp -implicitDefEqProofs only[go_sem,Int.reduceBEq,AM,Bh,AN,Bi,AO,Bj,AP,Bl,AQ,Bm,AR,Bn,AS,Bo,AT,Bp,AU,Bq,AV,Br,Ax,AY,Ay,AZ,Az,A0,AA,A1,AB,A2,AC,A3,AD,A4,AE,A5,AF,A6,AG,A7,AH,A8,AL,Bool.or_true,Bool.or_false,Ae,w0,z1,t1,l1,Bool.not_false,Bool.not_true]
    exact⟨_,_,rfl,fin.1,fin.2,by rw[hE]<;>rfl⟩
  ·have t1:=CV ht
   have hE:pieceE 5 z t l=1:=by unfold pieceE formB;simp[hz,ht]
   simp -implicitDefEqProofs only[go_sem,Int.reduceBEq,AM,Bh,AN,Bi,AO,Bj,AP,Bl,AQ,Bm,AR,Bn,AS,Bo,AT,Bp,AU,Bq,AV,Br,Ax,AY,Ay,AZ,Az,A0,AA,A1,AB,A2,AC,A3,AD,A4,AE,A5,AF,A6,AG,A7,AH,A8,AL,Bool.or_true,Bool.or_false,Ae,w0,z1,t1,Bool.not_false,Bool.not_true]
   exact⟨_,_,rfl,fin.1,fin.2,by rw[hE]<;>rfl⟩
 ·have z1:(z==0)=false:=by simpa using hz
  have hE:pieceE 5 z t l=1:=by unfold pieceE formB;simp[hz]
  simp -implicitDefEqProofs only[go_sem,Int.reduceBEq,AM,Bh,AN,Bi,AO,Bj,AP,Bl,AQ,Bm,AR,Bn,AS,Bo,AT,Bp,AU,Bq,AV,Br,Ax,AY,Ay,AZ,Az,A0,AA,A1,AB,A2,AC,A3,AD,A4,AE,A5,AF,A6,AG,A7,AH,A8,AL,Bool.or_true,Bool.or_false,Ae,w0,z1,Bool.not_false,Bool.not_true]
  exact⟨_,_,rfl,fin.1,fin.2,by rw[hE]<;>rfl⟩
theorem Avr(n:Nat)(z:Int)(t:ByteArray)(l:Nat)(p:Option Addr)(c:Nat)(σ:FState)(hw:Wf σ):
  Gives ((env (n+4)).call 130 [.agg #[.int .i64 6,.int .i64 z,.string t,.slice p l c]] none σ) σ fun w _=>w=.int .i64 (pieceE 6 z t l:Nat):=by
 rw[Ag _ 130 _ _ rfl,C7 _ _ _ _ (by simp),Af]
 unfold D3
 have fin:Ext σ (σ.push (.cells [.int .i64 6,.int .i64 z,.string t,.slice p l c] TD) none)∧Wf (σ.push (.cells [.int .i64 6,.int .i64 z,.string t,.slice p l c] TD) none):=⟨(Ext.refl _).push _ _,hw.push _ _⟩
 have w0:(decide ((0:Int)≤6)&&decide ((6:Int)≤6))=true:=by decide
 by_cases hz:z=0
 ·have z1:(z==0)=true:=by simpa using hz
  by_cases ht:t.size=0
  ·have t1:(t.toList==(⟨#[]⟩:ByteArray).toList)=true:=by rw[Ck ht];exact beq_self_eq_true _
   have hE:pieceE 6 z t l=0:=by unfold pieceE formB;simp[hz,ht]
   simp -implicitDefEqProofs only[go_sem,Int.reduceBEq,AM,Bh,AN,Bi,AO,Bj,AP,Bl,AQ,Bm,AR,Bn,AS,Bo,AT,Bp,AU,Bq,AV,Br,Ax,AY,Ay,AZ,Az,A0,AA,A1,AB,A2,AC,A3,AD,A4,AE,A5,AF,A6,AG,A7,AH,A8,AL,Bool.or_true,Bool.or_false,Ae,w0,z1,t1,Bool.not_false,Bool.not_true]
   exact⟨_,_,rfl,fin.1,fin.2,by rw[hE]<;>rfl⟩
  ·have t1:=CV ht
   have hE:pieceE 6 z t l=1:=by unfold pieceE formB;simp[hz,ht]
   simp -implicitDefEqProofs only[go_sem,Int.reduceBEq,AM,Bh,AN,Bi,AO,Bj,AP,Bl,AQ,Bm,AR,Bn,AS,Bo,AT,Bp,AU,Bq,AV,Br,Ax,AY,Ay,AZ,Az,A0,AA,A1,AB,A2,AC,A3,AD,A4,AE,A5,AF,A6,AG,A7,AH,A8,AL,Bool.or_true,Bool.or_false,Ae,w0,z1,t1,Bool.not_false,Bool.not_true]
   exact⟨_,_,rfl,fin.1,fin.2,by rw[hE]<;>rfl⟩
 ·have z1:(z==0)=false:=by simpa using hz
  have hE:pieceE 6 z t l=1:=by unfold pieceE formB;simp[hz]
  simp -implicitDefEqProofs only[go_sem,Int.reduceBEq,AM,Bh,AN,Bi,AO,Bj,AP,Bl,AQ,Bm,AR,Bn,AS,Bo,AT,Bp,AU,Bq,AV,Br,Ax,AY,Ay,AZ,Az,A0,AA,A1,AB,A2,AC,A3,AD,A4,AE,A5,AF,A6,AG,A7,AH,A8,AL,Bool.or_true,Bool.or_false,Ae,w0,z1,Bool.not_false,Bool.not_true]
  exact⟨_,_,rfl,fin.1,fin.2,by rw[hE]<;>rfl⟩
theorem UM(n:Nat)(k z:Int)(t:ByteArray)(l:Nat)(p:Option Addr)(c:Nat)(σ:FState)(hw:Wf σ):
  Gives ((env (n+4)).call 130 [.agg #[.int .i64 k,.int .i64 z,.string t,.slice p l c]] none σ) σ fun w _=>w=.int .i64 (pieceE k z t l:Nat):=by
 by_cases hk:0≤k∧k≤6
 ·have:k=0∨k=1∨k=2∨k=3∨k=4∨k=5∨k=6:=by omega
  rcases this with rfl|rfl|rfl|rfl|rfl|rfl|rfl
  ·exact Avl n z t l p c σ hw
  ·exact Avm n z t l p c σ hw
  ·exact Avn n z t l p c σ hw
  ·exact Avo n z t l p c σ hw
  ·exact Avp n z t l p c σ hw
  ·exact Avq n z t l p c σ hw
  ·exact Avr n z t l p c σ hw
 ·have hE:pieceE k z t l=4:=by unfold pieceE;rw[if_neg hk]
  have w0:(decide ((0:Int)≤k)&&decide (k≤6))=false:=by simp;omega
  rw[Ag _ 130 _ _ rfl,C7 _ _ _ _ (by simp),Af]
  unfold D3
  simp -implicitDefEqProofs only[go_sem,AM,Bh,AN,Bi,AO,Bj,AL,w0,Bool.not_false]
  exact⟨_,_,rfl,(Ext.refl _).push _ _,hw.push _ _,by rw[hE]<;>rfl⟩
end
section
open Go Go.Eng
attribute [local congr] Ac Aj Ai Ad Ah
attribute [-go_sem] List.range_succ
structure RefOK (N:Nat) (d:D):Prop where
 deep:d.deep≤N
 whole:∀x∈d.pieces [],x.2.parts.length<1000∧WholeD x.2
 count:d.count≤2000
section
variable (R:Nat→Prop) (d:D) (lv:List Value) (h4:lv.length=4) (σ:FState) (hw:Wf σ) (hL:LaidR R σ (.agg lv.toArray) d)
include h4 hw hL
theorem Ut(M n N:Nat)(hM:M=n+N)(h:RefOK N d):Gives ((env (M+1)).call 82 [.agg lv.toArray] none σ) σ fun r _=>r=.int .i64 0:=by
 have ht:lv.take 4=lv:=List.take_of_length_le (by omega)
 rw[Ag _ 82 _ _ rfl,Aaa _ _ _ _ (by simp),Af]
 unfold Abf
 have x1:Ext σ (σ.push (.cells lv TD) none):=(Ext.refl _).push _ _
 have hw1:=hw.push (.cells lv TD) none
 have c1:(σ.push (.cells lv TD) none).cells σ.next=some lv:=by rw[Ab,if_pos rfl];rfl
 obtain⟨_,σ2,e2,x2,hw2,rfl⟩:=Hz n R N d h.deep (.agg lv.toArray) 2000 _ hw1 (hL.keep fun b cs hb hc=>⟨(x1.cells (hw.cells hc)).trans hc,hb⟩) h.count (by omega)
 rw[←hM] at e2
 have d0:decide (Int.ofNat d.count>2000)=false:=by
  have:=h.count
  simp only[Int.ofNat_eq_natCast,decide_eq_false_iff_not]
  omega
 have e2':(env M).call 52 [.agg lv.toArray,.int .i64 2000] none (σ.push (.cells lv TD) none)=_:=e2
 simp -implicitDefEqProofs only[go_sem,Vk,Sf,Vl,Sg,Vm,Sh,h4,ht,e2',d0,Ae,Nat.le_refl]
 exact⟨_,_,rfl,x1.trans x2,hw2,rfl⟩
theorem Tm(M n N:Nat)(hM:M=n+22+N)(h:RefOK N d):Gives ((env (M+2)).call 19 [.agg lv.toArray] none σ) σ fun r _=>r=.int .i64 0:=by
 have ht:lv.take 4=lv:=List.take_of_length_le (by omega)
 rw[Ag _ 19 _ _ rfl,Z7 _ _ _ _ (by simp),Af]
 unfold Abb
 have x1:Ext σ (σ.push (.cells lv TD) none):=(Ext.refl _).push _ _
 have hw1:=hw.push (.cells lv TD) none
 have c1:(σ.push (.cells lv TD) none).cells σ.next=some lv:=by rw[Ab,if_pos rfl];rfl
 obtain⟨_,σ2,e2,x2,hw2,rfl⟩:=SN n R N d [] (.agg lv.toArray) _ h.deep h.whole hw1 (hL.keep fun b cs hb hc=>⟨(x1.cells (hw.cells hc)).trans hc,hb⟩)
 rw[show n+23+N=M+1 by omega] at e2
 have c2:=(x2.cells (hw1.cells c1)).trans c1
 obtain⟨_,σ3,e3,x3,hw3,rfl⟩:=Ut R d lv h4 σ2 hw2 (hL.keep fun b cs hb hc=>⟨((x1.trans x2).cells (hw.cells hc)).trans hc,hb⟩) M (n+22) N hM h
 have z0:((0:Int)==0)=true:=rfl
 simp -implicitDefEqProofs only[go_sem,LL,LK,LN,LM,LP,LO,UP,Rh,h4,ht,e2,z0,c2,e3,Ae,Nat.le_refl]
 exact⟨_,_,rfl,(x1.trans x2).trans x3,hw3,rfl⟩
theorem Aga(M n N:Nat)(hM:M=n+N)(h:RefOK N d)(ho:lv.all oneCell=true):Gives ((env (M+2)).call 84 [.agg lv.toArray] none σ) σ fun r σ'=>r=.tuple #[.agg lv.toArray,.int .i64 0]:=by
 have ht:lv.take 4=lv:=List.take_of_length_le (by omega)
 rw[Ag _ 84 _ _ rfl,Ao2 _ _ _ _ (by simp),Af]
 unfold Ank
 have x1:Ext σ ((σ.push (.cells lv TD) none).push (.cells [.int .i64 0,.int .i64 0,.string ⟨#[]⟩,.slice none 0 0] TD) none):=((Ext.refl _).push _ _).push _ _
 have hw1:=(hw.push (.cells lv TD) none).push (.cells [.int .i64 0,.int .i64 0,.string ⟨#[]⟩,.slice none 0 0] TD) none
 have c1:((σ.push (.cells lv TD) none).push (.cells [.int .i64 0,.int .i64 0,.string ⟨#[]⟩,.slice none 0 0] TD) none).cells σ.next=some lv:=by rw[Ab,if_neg (by rw[Aa];omega),Ab,if_pos rfl];rfl
 have g2:((σ.push (.cells lv TD) none).push (.cells [.int .i64 0,.int .i64 0,.string ⟨#[]⟩,.slice none 0 0] TD) none).heap.get (σ.next+1)=some ⟨.cells [.int .i64 0,.int .i64 0,.string ⟨#[]⟩,.slice none 0 0] TD,false,none,σ.clock+1⟩:=by rw[Ak,if_pos (by rw[Aa])];rfl
 obtain⟨_,σ2,e2,x2,hw2,rfl⟩:=Ut R d lv h4 _ hw1 (hL.keep fun b cs hb hc=>⟨(x1.cells (hw.cells hc)).trans hc,hb⟩) M n N hM h
 have c2:=(x2.cells (hw1.cells c1)).trans c1
 have g3:=(x2.get (σ.next+1) (hw1 _ _ g2).1).trans g2
 have n2:=x2.next
 have n1:=x1.next
 have z0:((0:Int)==0)=true:=rfl
 simp -implicitDefEqProofs only[go_sem,Aw,Al8,Yt,Al9,Yu,Ama,Yv,Amb,Yw,c1,h4,ht,ho,e2,z0,c2,g3,Ae,Nat.le_refl,Cf,AX,AJ,AI,BU,Bt]
 exact⟨_,_,rfl,(x1.trans x2).put _ _ _ (by omega),hw2.put _ _ _ (hw2 _ _ g3).1,rfl⟩
end
theorem Av9(M n N:Nat)(hM:M=n+22+N)(R:Nat→Prop)(d e:D)(lv mv:List Value)(h4:lv.length=4)(hm4:mv.length=4)(σ:FState)(hw:Wf σ)(hL:LaidR R σ (.agg lv.toArray) d)(hLe:LaidR R σ (.agg mv.toArray) e)(hd:RefOK N d)(he:RefOK N e):
  Gives ((env (M+3)).call 83 [.agg lv.toArray,.agg mv.toArray] none σ) σ fun r _=>r=.int .i64 0:=by
 have ht:lv.take 4=lv:=List.take_of_length_le (by omega)
 have htm:mv.take 4=mv:=List.take_of_length_le (by omega)
 rw[Ag _ 83 _ _ rfl,Aab _ _ _ _ (by simp),Af]
 unfold Abg
 have x1:Ext σ ((σ.push (.cells lv TD) none).push (.cells mv TD) none):=((Ext.refl _).push _ _).push _ _
 have hw1:=(hw.push (.cells lv TD) none).push (.cells mv TD) none
 have c1:((σ.push (.cells lv TD) none).push (.cells mv TD) none).cells σ.next=some lv:=by rw[Ab,if_neg (by rw[Aa];omega),Ab,if_pos rfl];rfl
 have c2:((σ.push (.cells lv TD) none).push (.cells mv TD) none).cells (σ.next+1)=some mv:=by rw[Ab,if_pos (by rw[Aa])];rfl
 obtain⟨_,σ2,e2,x2,hw2,rfl⟩:=Tm R d lv h4 _ hw1 (hL.keep fun b cs hb hc=>⟨(x1.cells (hw.cells hc)).trans hc,hb⟩) M n N hM hd
 have c3:=(x2.cells (hw1.cells c2)).trans c2
 obtain⟨_,σ3,e3,x3,hw3,rfl⟩:=Tm R e mv hm4 _ hw2 (hLe.keep fun b cs hb hc=>⟨((x1.trans x2).cells (hw.cells hc)).trans hc,hb⟩) M n N hM he
 have z0:((0:Int)==0)=true:=rfl
 simp -implicitDefEqProofs only[go_sem,Mz,My,MB,MA,MD,MC,Vn,Si,c1,h4,hm4,ht,htm,e2,z0,c3,e3,Ae,Nat.le_refl]
 exact⟨_,_,rfl,(x1.trans x2).trans x3,hw3,rfl⟩
end
section
open Go Go.Eng
attribute [local congr] Ac Aj Ai Ad Ah
attribute [-go_sem] List.range_succ
mutual
def firstE:D→Nat
 | .mk k z t ds=>if pieceE k z t ds.length=0 then firstEs ds else pieceE k z t ds.length
def firstEs:List D→Nat
 | []=>0
 | d::ds=>if firstE d=0 then firstEs ds else firstE d
end
mutual
theorem Cw:∀d:D,d.deep≤d.count
 | .mk k z t ds=>by
  rw[D.deep,D.count]
  have:=Fj ds
  omega
theorem Fj:∀ds:List D,D.deeps ds≤D.counts ds
 | []=>by simp[D.deeps]
 | d::ds=>by
  rw[D.deeps,D.counts]
  have:=Cw d
  have:=Fj ds
  omega
end
theorem Dd:∀ {ds:List D} {d:D},d∈ds→d.count≤D.counts ds
 | d0::ds,d,h=>by
  rw[D.counts]
  rcases List.mem_cons.1 h with rfl|h
  ·omega
  ·have:=Dd h
   omega
theorem Am0(m:Nat)(R:Nat→Prop)(ds:List D)(p:Option Addr)(c bx:Nat)(k z:Int)(t:ByteArray)(hds:ds.length<1000000)(hO:∀(i:Nat) (d:D),ds[i]? = some d→∀v σ',Wf σ'→LaidR R σ' v d→Gives ((env m).call 81 [v] none σ') σ' fun r _=>r=.int .i64 (firstE d:Nat)):
  ∀(j fuel i:Nat) (f g:Nat→Value) (σ:FState),ds.length-i=j→j<fuel→i≤ds.length→Wf σ→LaidRE R σ p 0 ds→σ.cells bx=some [.int .i64 k,.int .i64 z,.string t,.slice p ds.length c]→f 1=.pointer (some ⟨bx,0,none⟩)→f 4=.int .i64 (.ofNat i)→
   ∃f' g' σ',Ext σ σ'∧Wf σ'∧((firstEs (ds.drop i)=0∧floop [] (FB (env m) none 81) fuel (Sl 6 27 f g []) none σ=.done (.exit 0) (Sl 6 27 f' g' []) none σ')∨
    (firstEs (ds.drop i)≠0∧floop [] (FB (env m) none 81) fuel (Sl 6 27 f g []) none σ=.done .ret (Sl 6 27 f' g' []) none σ'∧f' 2=.int .i64 (firstEs (ds.drop i):Nat))):=by
 intro j
 induction j with
 | zero=>
  intro fuel i f g σ hj hf hi hw hE hc f1 f4
  obtain⟨fuel,rfl⟩:∃q,fuel=q+1:=⟨fuel-1,by omega⟩
  obtain rfl:i=ds.length:=by omega
  have d0:decide (Int.ofNat ds.length<Int.ofNat ds.length)=false:=by simp
  rw[Am,List.drop_length]
  unfold FB
  simp -implicitDefEqProofs only[go_sem,FO,Ha,f1,f4,hc,d0]
  exact⟨_,_,_,Ext.refl _,hw,.inl ⟨rfl,rfl⟩⟩
 | succ j ih=>
  intro fuel i f g σ hj hf hi hw hE hc f1 f4
  obtain⟨fuel,rfl⟩:∃q,fuel=q+1:=⟨fuel-1,by omega⟩
  have hlt:i<ds.length:=by omega
  have d0:decide (Int.ofNat i<Int.ofNat ds.length)=true:=by simp;omega
  have hd:ds[i]? = some ds[i]:=List.getElem?_eq_getElem hlt
  obtain⟨b,off,cs,rfl,hRb,hcs,hle,hL⟩:=LaidRE.get hE hd
  rw[Nat.zero_add] at hle hL
  obtain⟨_,σ3,e3,x3,hw3,rfl⟩:=hO i ds[i] hd _ σ hw hL
  have a1:=D4 i (by omega)
  rw[List.drop_eq_getElem_cons hlt,firstEs]
  by_cases he:firstE ds[i]=0
  ·rw[if_pos he]
   have z0:(((firstE ds[i]:Nat):Int)==0)=true:=by rw[he];rfl
   have ih':=fun f g h1 h4=>ih fuel (i+1) f g σ3 (by omega) (by omega) (by omega) hw3 (hE.keep fun b cs hb hc=>⟨(x3.cells (hw.cells hc)).trans hc,hb⟩) ((x3.cells (hw.cells hc)).trans hc) h1 h4
   unfold FB at ih'
   rw[Am]
   unfold FB
   simp -implicitDefEqProofs only[go_sem,FO,Ha,Vj,Se,Mv,Mu,Mx,Mw,f1,f4,hc,d0,hlt,hcs,hle,e3,z0,a1,Ae]
   generalize hff:upd _ 4 _=f2
   generalize hgg:upd _ 17 _=g2
   obtain⟨f3,g3,σ4,x4,hw4,h⟩:=ih' f2 g2 (by rw[←hff];simp -implicitDefEqProofs only[go_sem,reduceCtorEq,f1]) (by rw[←hff];simp -implicitDefEqProofs only[go_sem,reduceCtorEq])
   exact⟨f3,g3,σ4,x3.trans x4,hw4,h⟩
  ·rw[if_neg he]
   have z0:(((firstE ds[i]:Nat):Int)==0)=false:=by simp;omega
   rw[Am]
   unfold FB
   simp -implicitDefEqProofs only[go_sem,FO,Ha,Mv,Mu,Mx,Mw,Al6,Yr,f1,f4,hc,d0,hlt,hcs,hle,e3,z0,a1,Ae]
   exact⟨_,_,_,x3,hw3,.inr ⟨he,rfl,by simp -implicitDefEqProofs only[go_sem,reduceCtorEq]⟩⟩
theorem Aet(n:Nat)(R:Nat→Prop):∀(N:Nat) (d:D) (v:Value) (σ:FState),d.deep≤N→d.count≤100000→Wf σ→LaidR R σ v d→
  Gives ((env (n+4+N)).call 81 [v] none σ) σ fun r _=>r=.int .i64 (firstE d:Nat):=by
 intro N
 induction N with
 | zero=>
  intro d v σ hN
  obtain⟨k,z,t,ds⟩:=d
  rw[D.deep] at hN
  omega
 | succ N ih=>
  intro d v σ hN hcn hw hL
  obtain⟨k,z,t,ds⟩:=d
  rw[D.count] at hcn
  have hlen:=CJ ds
  obtain⟨p,c,rfl,hE⟩:=hL
  obtain⟨M,hM⟩:∃M,n+4+N=M:=⟨_,rfl⟩
  rw[hM] at ih
  rw[show n+4+(N+1)=M+1 by omega,Ag _ 81 _ _ rfl,Z_ _ _ _ _ (by simp),Af]
  unfold Abe
  have x1:Ext σ (σ.push (.cells [.int .i64 k,.int .i64 z,.string t,.slice p ds.length c] TD) none):=(Ext.refl _).push _ _
  have hw1:=hw.push (.cells [.int .i64 k,.int .i64 z,.string t,.slice p ds.length c] TD) none
  have c1:(σ.push (.cells [.int .i64 k,.int .i64 z,.string t,.slice p ds.length c] TD) none).cells σ.next=some [.int .i64 k,.int .i64 z,.string t,.slice p ds.length c]:=by rw[Ab,if_pos rfl];rfl
  obtain⟨_,σ2,e2,x2,hw2,rfl⟩:=UM (n+N) k z t ds.length p c _ hw1
  rw[show n+N+4=M by omega] at e2
  have c2:=(x2.cells (hw1.cells c1)).trans c1
  have hkeep:keepOf nls 81=[]:=by kernel_rfl
  rw[firstE]
  by_cases hp:pieceE k z t ds.length=0
  ·rw[if_pos hp]
   have z0:(((pieceE k z t ds.length:Nat):Int)==0)=true:=by rw[hp];rfl
   have lp:=fun fuel f g hf h1 h4=>Am0 M R ds p c σ.next k z t (by omega) (fun i d hdi v σ' hw' hl=>ih d v σ' (by rw[D.deep] at hN;have:=Ci (List.mem_of_getElem? hdi);omega) (by have:=Dd (List.mem_of_getElem? hdi);omega) hw' hl)
    ds.length fuel 0 f g σ2 (by omega) hf (by omega) hw2 (hE.keep fun b cs hb hc=>⟨((x1.trans x2).cells (hw.cells hc)).trans hc,hb⟩) c2 h1 h4
   simp -implicitDefEqProofs only[go_sem,Mo,Mn,Mr,Mq,Mt,Ms,Vi,Sd,e2,z0,Ae,hkeep]
   generalize hbf:bigFuel=fuel
   generalize hff:upd _ 4 _=f1
   generalize hgg:upd _ 9 _=g1
   obtain⟨f',g',σ3,x3,hw3,h⟩:=lp fuel f1 g1 (by rw[←hbf];show ds.length<1000000000000;omega) (by rw[←hff];simp -implicitDefEqProofs only[go_sem,reduceCtorEq]) (by rw[←hff];simp -implicitDefEqProofs only[go_sem,reduceCtorEq]<;>rfl)
   rw[List.drop_zero] at h
   rcases h with⟨h1,h2⟩|⟨h1,h2,h3⟩
   ·rw[h2]
    simp -implicitDefEqProofs only[go_sem,OW,KD]
    exact⟨_,_,rfl,(x1.trans x2).trans x3,hw3,by rw[h1];rfl⟩
   ·rw[h2]
    simp -implicitDefEqProofs only[go_sem,h3]
    exact⟨_,_,rfl,(x1.trans x2).trans x3,hw3,rfl⟩
  ·rw[if_neg hp]
   have z0:(((pieceE k z t ds.length:Nat):Int)==0)=false:=by simp;omega
   simp -implicitDefEqProofs only[go_sem,Mo,Mn,Mr,Mq,Mt,Ms,Al5,Yq,e2,z0,Ae,hkeep]
   exact⟨_,_,rfl,x1.trans x2,hw2,rfl⟩
section
variable (R:Nat→Prop) (d:D) (lv:List Value) (h4:lv.length=4) (σ:FState) (hw:Wf σ) (hL:LaidR R σ (.agg lv.toArray) d)
include h4 hw hL
theorem Ack(M n N:Nat)(hM:M=n+N)(h1:d.deep≤N)(h2:d.count≤2000):Gives ((env (M+1)).call 82 [.agg lv.toArray] none σ) σ fun r _=>r=.int .i64 0:=by
 have ht:lv.take 4=lv:=List.take_of_length_le (by omega)
 rw[Ag _ 82 _ _ rfl,Aaa _ _ _ _ (by simp),Af]
 unfold Abf
 have x1:Ext σ (σ.push (.cells lv TD) none):=(Ext.refl _).push _ _
 have hw1:=hw.push (.cells lv TD) none
 have c1:(σ.push (.cells lv TD) none).cells σ.next=some lv:=by rw[Ab,if_pos rfl];rfl
 obtain⟨_,σ2,e2,x2,hw2,rfl⟩:=Hz n R N d h1 (.agg lv.toArray) 2000 _ hw1 (hL.keep fun b cs hb hc=>⟨(x1.cells (hw.cells hc)).trans hc,hb⟩) h2 (by omega)
 rw[←hM] at e2
 have d0:decide (Int.ofNat d.count>2000)=false:=by
  simp only[Int.ofNat_eq_natCast,decide_eq_false_iff_not]
  omega
 have e2':(env M).call 52 [.agg lv.toArray,.int .i64 2000] none (σ.push (.cells lv TD) none)=_:=e2
 simp -implicitDefEqProofs only[go_sem,Vk,Sf,Vl,Sg,Vm,Sh,h4,ht,e2',d0,Ae,Nat.le_refl]
 exact⟨_,_,rfl,x1.trans x2,hw2,rfl⟩
theorem Jt(M n N:Nat)(hM:M=n+4+N)(h1:d.deep≤N)(h2:d.count≤2000):Gives ((env (M+2)).call 19 [.agg lv.toArray] none σ) σ fun r _=>r=.int .i64 (firstE d:Nat):=by
 have ht:lv.take 4=lv:=List.take_of_length_le (by omega)
 rw[Ag _ 19 _ _ rfl,Z7 _ _ _ _ (by simp),Af]
 unfold Abb
 have x1:Ext σ (σ.push (.cells lv TD) none):=(Ext.refl _).push _ _
 have hw1:=hw.push (.cells lv TD) none
 have c1:(σ.push (.cells lv TD) none).cells σ.next=some lv:=by rw[Ab,if_pos rfl];rfl
 obtain⟨_,σ2,e2,x2,hw2,rfl⟩:=Aet (n+1) R N d (.agg lv.toArray) _ h1 (by omega) hw1 (hL.keep fun b cs hb hc=>⟨(x1.cells (hw.cells hc)).trans hc,hb⟩)
 rw[show n+1+4+N=M+1 by omega] at e2
 have c2:=(x2.cells (hw1.cells c1)).trans c1
 by_cases he:firstE d=0
 ·have z0:(((firstE d:Nat):Int)==0)=true:=by rw[he];rfl
  obtain⟨_,σ3,e3,x3,hw3,rfl⟩:=Ack R d lv h4 σ2 hw2 (hL.keep fun b cs hb hc=>⟨((x1.trans x2).cells (hw.cells hc)).trans hc,hb⟩) M (n+4) N (by omega) h1 h2
  simp -implicitDefEqProofs only[go_sem,LL,LK,LN,LM,LP,LO,UP,Rh,h4,ht,c2,e2,e3,z0,Ae,Nat.le_refl]
  exact⟨_,_,rfl,(x1.trans x2).trans x3,hw3,by rw[he];rfl⟩
 ·have z0:(((firstE d:Nat):Int)==0)=false:=by simp;omega
  simp -implicitDefEqProofs only[go_sem,LL,LK,LN,LM,LP,LO,AjJ,Xh,h4,ht,e2,z0,Ae,Nat.le_refl]
  exact⟨_,_,rfl,x1.trans x2,hw2,rfl⟩
end
end
section
open Go Go.Eng
attribute [local congr] Ac Aj Ai Ad Ah
attribute [-go_sem] List.range_succ
mutual
def wordB:D→Bool
 | .mk _ _ t ds=>decide (100<t.size)||wordBs ds
def wordBs:List D→Bool
 | []=>false
 | d::ds=>wordB d||wordBs ds
end
theorem Aq3(m:Nat)(R:Nat→Prop)(ds:List D)(p:Option Addr)(c bx:Nat)(k z:Int)(t:ByteArray)(hds:ds.length<1000000)(hO:∀(i:Nat) (d:D),ds[i]? = some d→∀v σ',Wf σ'→LaidR R σ' v d→Gives ((env m).call 53 [v] none σ') σ' fun r _=>r=.bool (wordB d)):
  ∀(j fuel i:Nat) (f g:Nat→Value) (σ:FState),ds.length-i=j→j<fuel→i≤ds.length→Wf σ→LaidRE R σ p 0 ds→σ.cells bx=some [.int .i64 k,.int .i64 z,.string t,.slice p ds.length c]→f 1=.pointer (some ⟨bx,0,none⟩)→f 3=.int .i64 (.ofNat i)→
   ∃f' g' σ',Ext σ σ'∧Wf σ'∧((wordBs (ds.drop i)=false∧floop [] (Jz (env m) none 53) fuel (Sl 4 21 f g []) none σ=.done (.exit 0) (Sl 4 21 f' g' []) none σ')∨
    (wordBs (ds.drop i)=true∧floop [] (Jz (env m) none 53) fuel (Sl 4 21 f g []) none σ=.done .ret (Sl 4 21 f' g' []) none σ'∧f' 2=.bool true)):=by
 intro j
 induction j with
 | zero=>
  intro fuel i f g σ hj hf hi hw hE hc f1 f3
  obtain⟨fuel,rfl⟩:∃q,fuel=q+1:=⟨fuel-1,by omega⟩
  obtain rfl:i=ds.length:=by omega
  have d0:decide (Int.ofNat ds.length<Int.ofNat ds.length)=false:=by simp
  rw[Am,List.drop_length]
  unfold Jz
  simp -implicitDefEqProofs only[go_sem,Mi,Mh,f1,f3,hc,d0]
  exact⟨_,_,_,Ext.refl _,hw,.inl ⟨rfl,rfl⟩⟩
 | succ j ih=>
  intro fuel i f g σ hj hf hi hw hE hc f1 f3
  obtain⟨fuel,rfl⟩:∃q,fuel=q+1:=⟨fuel-1,by omega⟩
  have hlt:i<ds.length:=by omega
  have d0:decide (Int.ofNat i<Int.ofNat ds.length)=true:=by simp;omega
  have hd:ds[i]? = some ds[i]:=List.getElem?_eq_getElem hlt
  obtain⟨b,off,cs,rfl,hRb,hcs,hle,hL⟩:=LaidRE.get hE hd
  rw[Nat.zero_add] at hle hL
  obtain⟨_,σ3,e3,x3,hw3,rfl⟩:=hO i ds[i] hd _ σ hw hL
  have a1:=D4 i (by omega)
  rw[List.drop_eq_getElem_cons hlt,wordBs]
  cases he:wordB ds[i] with
  | false=>
   rw[he] at e3
   rw[Bool.false_or]
   have ih':=fun f g h1 h4=>ih fuel (i+1) f g σ3 (by omega) (by omega) (by omega) hw3 (hE.keep fun b cs hb hc=>⟨(x3.cells (hw.cells hc)).trans hc,hb⟩) ((x3.cells (hw.cells hc)).trans hc) h1 h4
   unfold Jz at ih'
   rw[Am]
   unfold Jz
   simp -implicitDefEqProofs only[go_sem,Mi,Mh,AlH,X1,U9,R4,f1,f3,hc,d0,hlt,hcs,hle,e3,a1,Ae]
   generalize hff:upd _ 3 _=f2
   generalize hgg:upd _ 14 _=g2
   obtain⟨f3',g3,σ4,x4,hw4,h⟩:=ih' f2 g2 (by rw[←hff];simp -implicitDefEqProofs only[go_sem,reduceCtorEq,f1]) (by rw[←hff];simp -implicitDefEqProofs only[go_sem,reduceCtorEq])
   exact⟨f3',g3,σ4,x3.trans x4,hw4,h⟩
  | true=>
   rw[he] at e3
   rw[Bool.true_or]
   have hl:∃f' g',floop [] (Jz (env m) none 53) (fuel+1) (Sl 4 21 f g []) none σ=.done .ret (Sl 4 21 f' g' []) none σ3∧f' 2=.bool true:=by
    rw[Am]
    unfold Jz
    simp -implicitDefEqProofs only[go_sem,Mi,Mh,U9,R4,AlI,X5,f1,f3,hc,d0,hlt,hcs,hle,e3,a1,Ae]
    exact⟨_,_,rfl,by simp -implicitDefEqProofs only[go_sem,reduceCtorEq]⟩
   obtain⟨f',g',h1,h2⟩:=hl
   exact⟨f',g',_,x3,hw3,.inr ⟨rfl,h1,h2⟩⟩
theorem AnB(n:Nat)(R:Nat→Prop):∀(N:Nat) (d:D) (v:Value) (σ:FState),d.deep≤N→d.count≤100000→Wf σ→LaidR R σ v d→
  Gives ((env (n+N)).call 53 [v] none σ) σ fun r _=>r=.bool (wordB d):=by
 intro N
 induction N with
 | zero=>
  intro d v σ hN
  obtain⟨k,z,t,ds⟩:=d
  rw[D.deep] at hN
  omega
 | succ N ih=>
  intro d v σ hN hcn hw hL
  obtain⟨k,z,t,ds⟩:=d
  rw[D.count] at hcn
  have hlen:=CJ ds
  obtain⟨p,c,rfl,hE⟩:=hL
  obtain⟨M,hM⟩:∃M,n+N=M:=⟨_,rfl⟩
  rw[hM] at ih
  rw[show n+(N+1)=M+1 by omega,Ag _ 53 _ _ rfl,AoS _ _ _ _ (by simp),Af]
  unfold Ana
  have x1:Ext σ (σ.push (.cells [.int .i64 k,.int .i64 z,.string t,.slice p ds.length c] TD) none):=(Ext.refl _).push _ _
  have hw1:=hw.push (.cells [.int .i64 k,.int .i64 z,.string t,.slice p ds.length c] TD) none
  have c1:(σ.push (.cells [.int .i64 k,.int .i64 z,.string t,.slice p ds.length c] TD) none).cells σ.next=some [.int .i64 k,.int .i64 z,.string t,.slice p ds.length c]:=by rw[Ab,if_pos rfl];rfl
  have hkeep:keepOf nls 53=[]:=by kernel_rfl
  rw[wordB]
  by_cases hp:100<t.size
  ·have d0:decide (Int.ofNat t.size>100)=true:=by simp;omega
   have d1:decide (100<t.size)=true:=decide_eq_true hp
   simp -implicitDefEqProofs only[go_sem,U7,R2,U8,R3,AlF,XZ,d0,d1,Bool.true_or]
   exact⟨_,_,rfl,x1,hw1,rfl⟩
  ·have d0:decide (Int.ofNat t.size>100)=false:=by simp;omega
   have d1:decide (100<t.size)=false:=decide_eq_false hp
   have lp:=fun fuel f g hf h1 h4=>Aq3 M R ds p c σ.next k z t (by omega) (fun i d hdi v σ' hw' hl=>ih d v σ' (by rw[D.deep] at hN;have:=Ci (List.mem_of_getElem? hdi);omega) (by have:=Dd (List.mem_of_getElem? hdi);omega) hw' hl)
    ds.length fuel 0 f g _ (by omega) hf (by omega) hw1 (hE.keep fun b cs hb hc=>⟨(x1.cells (hw.cells hc)).trans hc,hb⟩) c1 h1 h4
   simp -implicitDefEqProofs only[go_sem,U7,R2,U8,R3,AlG,X0,d0,d1,Bool.false_or,Ae,hkeep]
   generalize hbf:bigFuel=fuel
   generalize hff:upd _ 3 _=f1
   generalize hgg:upd _ 7 _=g1
   obtain⟨f',g',σ3,x3,hw3,h⟩:=lp fuel f1 g1 (by rw[←hbf];show ds.length<1000000000000;omega) (by rw[←hff];simp -implicitDefEqProofs only[go_sem,reduceCtorEq]) (by rw[←hff];simp -implicitDefEqProofs only[go_sem,reduceCtorEq]<;>rfl)
   rw[List.drop_zero] at h
   rcases h with⟨h1,h2⟩|⟨h1,h2,h3⟩
   ·rw[h2,h1]
    simp -implicitDefEqProofs only[go_sem,AlJ,X6]
    exact⟨_,_,rfl,x1.trans x3,hw3,rfl⟩
   ·rw[h2,h1]
    simp -implicitDefEqProofs only[go_sem,h3]
    exact⟨_,_,rfl,x1.trans x3,hw3,rfl⟩
def vastB(d:D):Bool:=decide (150<d.count)||wordB d
theorem Aq1(n:Nat)(R:Nat→Prop)(d:D)(lv:List Value)(h4:lv.length=4)(σ:FState)(hw:Wf σ)(hL:LaidR R σ (.agg lv.toArray) d):
  Gives ((env (n+152)).call 9 [.agg lv.toArray] none σ) σ fun r _=>r=.bool (vastB d):=by
 have ht:lv.take 4=lv:=List.take_of_length_le (by omega)
 rw[show n+152=(n+151)+1 by omega,Ag _ 9 _ _ rfl,Au5 _ _ _ _ (by simp),Af]
 unfold Av5
 have x1:Ext σ (σ.push (.cells lv TD) none):=(Ext.refl _).push _ _
 have hw1:=hw.push (.cells lv TD) none
 have c1:(σ.push (.cells lv TD) none).cells σ.next=some lv:=by rw[Ab,if_pos rfl];rfl
 obtain⟨_,σ2,e2,x2,hw2,rfl⟩:=Avd n R 150 150 d (Nat.le_refl _) (by omega) (.agg lv.toArray) _ hw1 (hL.keep fun b cs hb hc=>⟨(x1.cells (hw.cells hc)).trans hc,hb⟩)
 rw[show n+150+1=n+151 by omega] at e2
 have e2':(env (n+151)).call 52 [.agg lv.toArray,.int .i64 150] none (σ.push (.cells lv TD) none)=_:=e2
 have c2:=(x2.cells (hw1.cells c1)).trans c1
 generalize hM:n+151=M at *
 unfold vastB
 by_cases hv:150<d.count
 ·have d0:decide (Int.ofNat (min d.count (150+1))>150)=true:=by simp only[Int.ofNat_eq_natCast,decide_eq_true_eq];omega
  have d1:decide (150<d.count)=true:=decide_eq_true hv
  generalize min d.count (150+1)=q at *
  simp -implicitDefEqProofs only[go_sem,Aa8,Aa7,Aba,Aa9,h4,ht,e2',d0,d1,Bool.true_or,Nat.le_refl]
  exact⟨_,_,rfl,x1.trans x2,hw2,rfl⟩
 ·have d0:decide (Int.ofNat (min d.count (150+1))>150)=false:=by simp only[Int.ofNat_eq_natCast,decide_eq_false_iff_not];omega
  have d1:decide (150<d.count)=false:=decide_eq_false hv
  have hdc:=Cw d
  obtain⟨_,σ3,e3,x3,hw3,rfl⟩:=AnB (n+1) R 150 d (.agg lv.toArray) σ2 (by omega) (by omega) hw2 (hL.keep fun b cs hb hc=>⟨((x1.trans x2).cells (hw.cells hc)).trans hc,hb⟩)
  rw[show n+1+150=M by omega] at e3
  generalize min d.count (150+1)=q at *
  simp -implicitDefEqProofs only[go_sem,Aa8,Aa7,Aba,Aa9,h4,ht,e2',c2,e3,d0,d1,Bool.false_or,Nat.le_refl]
  exact⟨_,_,rfl,(x1.trans x2).trans x3,hw3,rfl⟩
end
section
open Go Go.Eng
attribute [local congr] Ac Aj Ai Ad Ah
attribute [-go_sem] List.range_succ
theorem AeN:(List.range 123).filter symC=[33,42,43,45,47,48,49,50,51,52,53,54,55,56,57,60,61,62,63,97,98,99,100,101,102,103,104,105,106,107,108,109,110,111,112,113,114,115,116,117,118,119,120,121,122]:=by decide
theorem Anv{c:Nat}(h:symC c=true):c∈(List.range 123).filter symC:=by
 rw[List.mem_filter,List.mem_range]
 refine⟨?_,h⟩
 unfold symC digC signs at h
 simp at h
 omega
def clsN(c:Nat):Int:=if digC c=true then 2 else if 97≤c∧c≤122 then 1 else 3
def symNums:List Nat:=[33,42,43,45,47,48,49,50,51,52,53,54,55,56,57,60,61,62,63,97,98,99,100,101,102,103,104,105,106,107,108,109,110,111,112,113,114,115,116,117,118,119,120,121,122]
theorem Wh(n c:Nat)(hm:c∈symNums)(σ:FState):(env (n+20)).call 188 [.int .i32 (c:Int)] none σ=.ret (.int .i64 (clsN c)) none σ:=by
 simp only[symNums,List.mem_cons,List.not_mem_nil,or_false] at hm
 rcases hm with rfl|rfl|rfl|rfl|rfl|rfl|rfl|rfl|rfl|rfl|rfl|rfl|rfl|rfl|rfl|rfl|rfl|rfl|rfl|rfl|rfl|rfl|rfl|rfl|rfl|rfl|rfl|rfl|rfl|rfl|rfl|rfl|rfl|rfl|rfl|rfl|rfl|rfl|rfl|rfl|rfl|rfl|rfl|rfl|rfl<;>kernel_rfl
theorem AbN(c:Nat)(hm:c∈symNums)(σ:FState):fun1 Tryz.prog (convert 5 21) (.int .u8 (c:Int)) σ=.val (.int .i32 (c:Int)) σ:=by
 simp only[symNums,List.mem_cons,List.not_mem_nil,or_false] at hm
 rcases hm with rfl|rfl|rfl|rfl|rfl|rfl|rfl|rfl|rfl|rfl|rfl|rfl|rfl|rfl|rfl|rfl|rfl|rfl|rfl|rfl|rfl|rfl|rfl|rfl|rfl|rfl|rfl|rfl|rfl|rfl|rfl|rfl|rfl|rfl|rfl|rfl|rfl|rfl|rfl|rfl|rfl|rfl|rfl|rfl|rfl<;>kernel_rfl
theorem O7{c:Nat}(h:symC c=true):c∈symNums:=by
 have hm:=Anv h
 rw[AeN] at hm
 exact hm
theorem Tn(n c:Nat)(h:symC c=true)(σ:FState):(env (n+20)).call 188 [.int .i32 (c:Int)] none σ=.ret (.int .i64 (clsN c)) none σ:=Wh n c (O7 h) σ
theorem AoG(c:Nat)(h:symC c=true)(σ:FState):fun1 Tryz.prog (convert 5 21) (.int .u8 (c:Int)) σ=.val (.int .i32 (c:Int)) σ:=AbN c (O7 h) σ
end
section
open Go Go.Eng
attribute [local congr] Ac Aj Ai Ad Ah
attribute [-go_sem] List.range_succ
theorem Aah(n i c:Nat)(t:ByteArray)(f g:Nat→Value)(σ:FState)(hi:i<t.size)(hsz:i<1000000)(hc:byteAt t i=c)(hs:symC c=true)(hd:digC c=true→1<i∨(i=1∧byteAt t 0≠45))(f0:f 0=.string t)(g13:g 13=.int .i64 (.ofNat t.size))(g14:g 14=.int .i64 (.ofNat i)):
  ∃f' g',f' 0=.string t∧g' 13=.int .i64 (.ofNat t.size)∧DB (env (n+20)) none 170 (Sl 4 38 f g []) none σ=.done .normal (Sl 4 38 f' g' []) none σ∧g' 14=.int .i64 (.ofNat (i+1)):=by
 have d0:decide (Int.ofNat i<Int.ofNat t.size)=true:=by simp;omega
 have hb:=De t i hi σ
 rw[hc] at hb
 have a1:=D4 i (by omega)
 have hcl:=Tn n c hs σ
 have hcv:=AoG c hs σ
 unfold DB
 cases hdd:digC c with
 | false=>
  have e2:(clsN c==2)=false:=by unfold clsN;rw[hdd];simp;split<;>decide
  have e0:(clsN c==0)=false:=by unfold clsN;rw[hdd];simp;split<;>decide
  generalize clsN c=q at *
  simp -implicitDefEqProofs only[go_sem,CZ,Du,DT,Eh,DU,Ei,DV,Ej,DW,Ek,DX,El,G_,FM,f0,g13,g14,d0,hb,hcv,hcl,a1,e2,e0,Ae]
  refine⟨_,_,?_,?_,rfl,?_⟩
  ·simp -implicitDefEqProofs only[go_sem,reduceCtorEq,f0]
  ·simp -implicitDefEqProofs only[go_sem,reduceCtorEq,g13]
  ·simp -implicitDefEqProofs only[go_sem,reduceCtorEq]
 | true=>
  have hq:clsN c=2:=by unfold clsN;rw[hdd];rfl
  rw[hq] at hcl
  have e2:((2:Int)==2)=true:=rfl
  by_cases h1:1<i
  ·have d1:decide (Int.ofNat i>1)=true:=by simp;omega
   simp -implicitDefEqProofs only[go_sem,CZ,Du,DT,Eh,DU,Ei,DV,Ej,DW,Ek,DX,El,G_,FM,f0,g13,g14,d0,hb,hcv,hcl,a1,e2,d1,Ae]
   refine⟨_,_,?_,?_,rfl,?_⟩
   ·simp -implicitDefEqProofs only[go_sem,reduceCtorEq,f0]
   ·simp -implicitDefEqProofs only[go_sem,reduceCtorEq,g13]
   ·simp -implicitDefEqProofs only[go_sem,reduceCtorEq]
  ·obtain⟨h2,h3⟩:i=1∧byteAt t 0≠45:=by
    rcases hd hdd with h|h
    ·omega
    ·exact h
   have d1:decide (Int.ofNat i>1)=false:=by simp;omega
   have d2:(Int.ofNat i==1)=true:=by subst h2;rfl
   have b0:=IE t (by omega) σ
   have e45:((byteAt t 0:Int)==45)=false:=by simp;omega
   have neq_u8:∀(x y:Operand) (a b:Int) (σ:FState),i_neq Tryz.prog 5 x y (.int .u8 a) (.int .u8 b) σ=.val (.bool (!(a==b))) σ:=fun x y a b σ=>by kernel_rfl
   simp -implicitDefEqProofs only[go_sem,CZ,Du,DT,Eh,DU,Ei,DV,Ej,DW,Ek,DX,El,G_,FM,f0,g13,g14,d0,hb,hcv,hcl,a1,e2,d1,d2,b0,e45,neq_u8,Bool.not_false,Ae]
   refine⟨_,_,?_,?_,rfl,?_⟩
   ·simp -implicitDefEqProofs only[go_sem,reduceCtorEq,f0]
   ·simp -implicitDefEqProofs only[go_sem,reduceCtorEq,g13]
   ·simp -implicitDefEqProofs only[go_sem,reduceCtorEq]
theorem Apk(n:Nat)(t:ByteArray)(hsz:t.size≤20)(hs:∀i,i<t.size→symC (byteAt t i)=true∧(digC (byteAt t i)=true→1<i∨(i=1∧byteAt t 0≠45)))(keep:List Nat)(hk:13∈keep∧14∈keep)(σ:FState):∀(j fuel i:Nat) (f g:Nat→Value),t.size-i=j→j<fuel→i≤t.size→f 0=.string t→g 13=.int .i64 (.ofNat t.size)→g 14=.int .i64 (.ofNat i)→
  ∃f' g',floop keep (DB (env (n+20)) none 170) fuel (Sl 4 38 f g []) none σ=.done (.exit 0) (Sl 4 38 f' g' []) none σ:=by
 intro j
 induction j with
 | zero=>
  intro fuel i f g hj hf hi f0 g13 g14
  obtain⟨fuel,rfl⟩:∃q,fuel=q+1:=⟨fuel-1,by omega⟩
  obtain rfl:i=t.size:=by omega
  have d0:decide (Int.ofNat t.size<Int.ofNat t.size)=false:=by simp
  rw[Am]
  have k13:kept keep g 13=.int .i64 (.ofNat t.size):=by rw[DD,if_pos hk.1,g13]
  have k14:kept keep g 14=.int .i64 (.ofNat t.size):=by rw[DD,if_pos hk.2,g14]
  have h:∃f' g',DB (env (n+20)) none 170 (Sl 4 38 f (kept keep g) []) none σ=.done (.exit 0) (Sl 4 38 f' g' []) none σ:=by
   generalize kept keep g=g1 at *
   unfold DB
   simp -implicitDefEqProofs only[go_sem,CZ,Du,f0,k13,k14,d0]
   exact⟨_,_,rfl⟩
  obtain⟨f',g',e⟩:=h
  refine⟨f',g',?_⟩
  simp -implicitDefEqProofs only[Bk,e,C0]
 | succ j ih=>
  intro fuel i f g hj hf hi f0 g13 g14
  obtain⟨fuel,rfl⟩:∃q,fuel=q+1:=⟨fuel-1,by omega⟩
  have hlt:i<t.size:=by omega
  rw[Am]
  obtain⟨f1,g1,h0,h13,e,h14⟩:=Aah n i (byteAt t i) t f (kept keep g) σ hlt (by omega) rfl (hs i hlt).1 (hs i hlt).2 f0 (by rw[DD,if_pos hk.1,g13]) (by rw[DD,if_pos hk.2,g14])
  obtain⟨f2,g2,h⟩:=ih fuel (i+1) f1 g1 (by omega) (by omega) (by omega) h0 h13 h14
  refine⟨f2,g2,?_⟩
  simp -implicitDefEqProofs only[Bk,e,BC]
  exact h
theorem Af6(n:Nat)(t:ByteArray)(h:symB t=true)(σ:FState):(env (n+21)).call 170 [.string t] none σ=.ret (.bool true) none σ:=by
 unfold symB at h
 simp only[Bool.and_eq_true,decide_eq_true_eq,Bool.not_eq_true',List.all_eq_true,List.mem_range] at h
 obtain⟨⟨⟨⟨h1,h2⟩,h3⟩,h4⟩,h5⟩:=h
 have hs:∀i,i<t.size→symC (byteAt t i)=true∧(digC (byteAt t i)=true→1<i∨(i=1∧byteAt t 0≠45)):=fun i hi=>⟨h5 i hi,fun hd=>by
  by_cases hi0:i=0
  ·subst hi0
   rw[h3] at hd
   cases hd
  ·by_cases hi1:i=1
   ·subst hi1
    refine .inr ⟨rfl,fun h45=>?_⟩
    rw[hd,h45] at h4
    simp[hi] at h4
   ·exact .inl (by omega)⟩
 rw[Ag _ 170 _ _ rfl,TJ _ _ _ _ (by simp),Af]
 unfold SV
 have d0:(Int.ofNat t.size==0)=false:=by rw[beq_eq_false_iff_ne];simp only[Int.ofNat_eq_natCast,ne_eq];omega
 have d1:decide (Int.ofNat t.size>20)=false:=by simp;omega
 have hkeep:∃keep,keepOf nls 170=keep∧13∈keep∧14∈keep:=⟨_,rfl,by decide,by decide⟩
 obtain⟨keep,hkp,hk⟩:=hkeep
 simp -implicitDefEqProofs only[go_sem,Gt,Gs,Gv,Gu,ON,Ku,d0,d1,Ae,hkp]
 generalize hff:upd _ 2 _=f1
 generalize hgg:upd _ 14 _=g1
 obtain⟨f',g',e⟩:=Apk n t h2 hs keep hk σ t.size bigFuel 0 f1 g1 (by omega) (by show t.size<1000000000000;omega) (by omega) (by rw[←hff];simp -implicitDefEqProofs only[go_sem,reduceCtorEq]) (by rw[←hgg];simp -implicitDefEqProofs only[go_sem,reduceCtorEq]) (by rw[←hgg];simp -implicitDefEqProofs only[go_sem,reduceCtorEq]<;>rfl)
 rw[e]
 simp -implicitDefEqProofs only[go_sem,LJ,H4]
end
section
open Go Go.Eng
variable (E:Env) (ro:Option Nat) (last:List Nat→RunF) (cl:List Nat) (a:FAct) (u:Option FrameMode) (σ:FState)
def Ri(_:Unit):List COp:=[⟨fun a σ=>.val (.int .i64 0) σ,some 4,fun _=>some true⟩]
def AjK:List COp:=Ri ()
def LQ(_:Unit):List COp:=[⟨fun a σ=>.val (a.get 1) σ,some 161,fun _=>some true⟩,
 ⟨fun a σ=>i_leq Tryz.prog 21 (.const (.int .i32 0)) (.tmp 161) (.int .i32 0) (a.get 161) σ,some 162,fun _=>some true⟩,
 ⟨fun a σ=>.val (a.get 162) σ,some 163,fun _=>some true⟩,
 ⟨fun a σ=>.val (a.get 1) σ,some 164,fun a=>gd (a.get 163) true⟩,
 ⟨fun a σ=>i_lss Tryz.prog 21 (.tmp 164) (.const (.int .i32 128)) (a.get 164) (.int .i32 128) σ,some 165,fun a=>gd (a.get 163) true⟩,
 ⟨fun a σ=>fpick (a.get 163) (a.get 165) (.bool false) σ,some 166,fun _=>some true⟩,
 ⟨fun a σ=>.val (a.get 166) σ,some 160,fun _=>some true⟩]
def AaW:List COp:=LQ ()
def Akc(_:Unit):List COp:=[⟨fun a σ=>.val (a.get 0) σ,some 167,fun _=>some true⟩,
 ⟨fun a σ=>.val (a.get 1) σ,some 168,fun _=>some true⟩,
 ⟨fun a σ=>fun1 Tryz.prog (convert 21 5) (a.get 168) σ,some 169,fun _=>some true⟩,
 ⟨fun a σ=>.enter 201 [(a.get 167),(a.get 169)] σ,some 170,fun _=>some true⟩,
 ⟨fun a σ=>.val (a.get 170) σ,some 4,fun _=>some true⟩]
def Aqr:List COp:=Akc ()
def LR(_:Unit):List COp:=[⟨fun a σ=>.val (a.get 1) σ,some 172,fun _=>some true⟩,
 ⟨fun a σ=>i_eql Tryz.prog 21 (.tmp 172) (.const (.int .i32 65533)) (a.get 172) (.int .i32 65533) σ,some 173,fun _=>some true⟩,
 ⟨fun a σ=>.val (a.get 173) σ,some 171,fun _=>some true⟩]
def AaX:List COp:=LR ()
def Akd(_:Unit):List COp:=[⟨fun a σ=>.val (a.get 0) σ,some 174,fun _=>some true⟩,
 ⟨fun a σ=>frangeS (a.get 174) σ,some 175,fun _=>some true⟩]
def Aqs:List COp:=Akd ()
def Ake(_:Unit):List COp:=[⟨fun a σ=>fnext (a.get 175) σ,some 176,fun _=>some true⟩,
 ⟨fun a σ=>fextract 0 (a.get 176) σ,some 177,fun _=>some true⟩]
def Aqt:List COp:=Ake ()
def Akf(_:Unit):List COp:=[⟨fun a σ=>fextract 1 (a.get 176) σ,some 178,fun _=>some true⟩,
 ⟨fun a σ=>fextract 2 (a.get 176) σ,some 179,fun _=>some true⟩,
 ⟨fun a σ=>.val (a.get 178) σ,some 5,fun _=>some true⟩,
 ⟨fun a σ=>.val (a.get 179) σ,some 6,fun _=>some true⟩]
def Aqu:List COp:=Akf ()
def Akh(_:Unit):List COp:=[⟨fun a σ=>.val (a.get 6) σ,some 180,fun _=>some true⟩,
 ⟨fun a σ=>i_eql Tryz.prog 21 (.tmp 180) (.const (.int .i32 65533)) (a.get 180) (.int .i32 65533) σ,some 181,fun _=>some true⟩]
def Aqv:List COp:=Akh ()
def Aki(_:Unit):List COp:=[⟨fun a σ=>.val (a.get 5) σ,some 182,fun _=>some true⟩,
 ⟨fun a σ=>.val (a.get 182) σ,some 4,fun _=>some true⟩]
def Aqw:List COp:=Aki ()
def Ave(E:Env)(ro:Option Nat)(fn:FuncId):RunF:=(seqR (fops E ro Aqt) (seqR (condR (fun a=>(a.get 177)) skipR (exitR 9)) (blockR 10 (seqR (fops E ro Aqu) (seqR (fops E ro Aqv) (condR (fun a=>(a.get 181)) (seqR (fops E ro Aqw) retR) skipR))))))
def Akj(_:Unit):List COp:=[⟨fun a σ=>.val (.int .i64 (-1)) σ,some 4,fun _=>some true⟩]
def Aqx:List COp:=Akj ()
def LS(_:Unit):List COp:=[⟨fun a σ=>.val (a.get 1) σ,some 184,fun _=>some true⟩,
 ⟨fun a σ=>.enter 202 [(a.get 184)] σ,some 185,fun _=>some true⟩,
 ⟨fun a σ=>fun1 Tryz.prog (Op.unary .not) (a.get 185) σ,some 186,fun _=>some true⟩,
 ⟨fun a σ=>.val (a.get 186) σ,some 183,fun _=>some true⟩]
def AaY:List COp:=LS ()
def Akk(_:Unit):List COp:=[⟨fun a σ=>.val (.int .i64 (-1)) σ,some 4,fun _=>some true⟩]
def Aqy:List COp:=Akk ()
def Rj(_:Unit):List COp:=[⟨fun a σ=>.val (a.get 1) σ,some 17,fun _=>some true⟩,
 ⟨fun a σ=>fun1 Tryz.prog (convert 21 9) (a.get 17) σ,some 18,fun _=>some true⟩,
 ⟨fun a σ=>.val (a.get 18) σ,some 7,fun _=>some true⟩]
def AjL:List COp:=Rj ()
def Rk(_:Unit):List COp:=[⟨fun a σ=>.val (a.get 7) σ,some 19,fun _=>some true⟩,
 ⟨fun a σ=>flenS (a.get 19) σ,some 20,fun _=>some true⟩,
 ⟨fun a σ=>i_sub Tryz.prog 3 (.tmp 20) (.const (.int .i64 1)) (a.get 20) (.int .i64 1) σ,some 21,fun _=>some true⟩,
 ⟨fun a σ=>.val (a.get 21) σ,some 8,fun _=>some true⟩]
def AjW:List COp:=Rk ()
def Rl(_:Unit):List COp:=[⟨fun a σ=>.val (a.get 8) σ,some 22,fun _=>some true⟩,
 ⟨fun a σ=>.val (a.get 22) σ,some 9,fun _=>some true⟩]
def Aj7:List COp:=Rl ()
def Rm(_:Unit):List COp:=[⟨fun a σ=>.val (.int .i64 0) σ,some 10,fun _=>some true⟩]
def Akg:List COp:=Rm ()
def Rn(_:Unit):List COp:=[⟨fun a σ=>.val (a.get 9) σ,some 23,fun _=>some true⟩,
 ⟨fun a σ=>.val (a.get 0) σ,some 24,fun _=>some true⟩,
 ⟨fun a σ=>flenS (a.get 24) σ,some 25,fun _=>some true⟩,
 ⟨fun a σ=>i_lss Tryz.prog 3 (.tmp 23) (.tmp 25) (a.get 23) (a.get 25) σ,some 26,fun _=>some true⟩]
def Akl:List COp:=Rn ()
def Ro(_:Unit):List DOp:=[⟨fun a σ=>.val (a.get 0) σ,some 27,fun _=>some true,some 0,false⟩,
 ⟨fun a σ=>.val (a.get 9) σ,some 28,fun _=>some true,some 0,false⟩,
 ⟨fun a σ=>findexS (a.get 27) (a.get 28) σ,some 29,fun _=>some true,some 0,false⟩,
 ⟨fun a σ=>.val (a.get 7) σ,some 30,fun _=>some true,some 0,false⟩,
 ⟨fun a σ=>.val (a.get 8) σ,some 31,fun _=>some true,some 0,false⟩,
 ⟨fun a σ=>findexS (a.get 30) (a.get 31) σ,some 32,fun _=>some true,some 0,false⟩,
 ⟨fun a σ=>i_neq Tryz.prog 5 (.tmp 29) (.tmp 32) (a.get 29) (a.get 32) σ,some 33,fun _=>some true,some 0,false⟩]
def Akm:List DOp:=Ro ()
def Rp(_:Unit):List DOp:=[⟨fun a σ=>.val (a.get 0) σ,some 34,fun _=>some true,some 0,false⟩,
 ⟨fun a σ=>.val (a.get 9) σ,some 35,fun _=>some true,some 0,false⟩,
 ⟨fun a σ=>i_add Tryz.prog 3 (.tmp 35) (.const (.int .i64 1)) (a.get 35) (.int .i64 1) σ,some 36,fun _=>some true,some 0,false⟩,
 ⟨fun a σ=>fslice Tryz.prog 9 (a.get 34) (some (a.get 36)) none none σ,some 37,fun _=>some true,some 0,false⟩,
 ⟨fun a σ=>.val (a.get 7) σ,some 38,fun _=>some true,some 0,false⟩,
 ⟨fun a σ=>.val (a.get 8) σ,some 39,fun _=>some true,some 0,false⟩,
 ⟨fun a σ=>findexS (a.get 38) (a.get 39) σ,some 40,fun _=>some true,some 0,false⟩,
 ⟨fun a σ=>.enter 201 [(a.get 37),(a.get 40)] σ,some 41,fun _=>some true,none,true⟩,
 ⟨fun a σ=>.val (a.get 41) σ,some 11,fun _=>some true,some 1,false⟩]
def Akn:List DOp:=Rp ()
def Rq(_:Unit):List COp:=[⟨fun a σ=>.val (a.get 11) σ,some 42,fun _=>some true⟩,
 ⟨fun a σ=>i_lss Tryz.prog 3 (.tmp 42) (.const (.int .i64 0)) (a.get 42) (.int .i64 0) σ,some 43,fun _=>some true⟩]
def Ako:List COp:=Rq ()
def Rr(_:Unit):List COp:=[⟨fun a σ=>.val (.int .i64 (-1)) σ,some 4,fun _=>some true⟩]
def Akp:List COp:=Rr ()
def AjM(_:Unit):List COp:=[⟨fun a σ=>.val (a.get 9) σ,some 44,fun _=>some true⟩,
 ⟨fun a σ=>.val (a.get 11) σ,some 45,fun _=>some true⟩,
 ⟨fun a σ=>i_add Tryz.prog 3 (.tmp 45) (.const (.int .i64 1)) (a.get 45) (.int .i64 1) σ,some 46,fun _=>some true⟩,
 ⟨fun a σ=>i_add Tryz.prog 3 (.tmp 44) (.tmp 46) (a.get 44) (a.get 46) σ,some 47,fun _=>some true⟩,
 ⟨fun a σ=>.val (a.get 47) σ,some 9,fun _=>some true⟩]
def Ap3:List COp:=AjM ()
def AjN(_:Unit):List COp:=[⟨fun a σ=>.val (.int .i64 1) σ,some 12,fun _=>some true⟩]
def Ap4:List COp:=AjN ()
def AjO(_:Unit):List COp:=[⟨fun a σ=>.val (a.get 12) σ,some 48,fun _=>some true⟩,
 ⟨fun a σ=>.val (a.get 7) σ,some 49,fun _=>some true⟩,
 ⟨fun a σ=>flenS (a.get 49) σ,some 50,fun _=>some true⟩,
 ⟨fun a σ=>i_lss Tryz.prog 3 (.tmp 48) (.tmp 50) (a.get 48) (a.get 50) σ,some 51,fun _=>some true⟩]
def Ap5:List COp:=AjO ()
def AjQ(_:Unit):List DOp:=[⟨fun a σ=>.val (a.get 0) σ,some 54,fun _=>some true,some 0,false⟩,
 ⟨fun a σ=>.val (a.get 9) σ,some 55,fun _=>some true,some 0,false⟩,
 ⟨fun a σ=>.val (a.get 12) σ,some 56,fun _=>some true,some 0,false⟩,
 ⟨fun a σ=>i_sub Tryz.prog 3 (.tmp 55) (.tmp 56) (a.get 55) (a.get 56) σ,some 57,fun _=>some true,some 0,false⟩,
 ⟨fun a σ=>findexS (a.get 54) (a.get 57) σ,some 58,fun _=>some true,some 0,false⟩,
 ⟨fun a σ=>.val (a.get 7) σ,some 59,fun _=>some true,some 0,false⟩,
 ⟨fun a σ=>.val (a.get 8) σ,some 60,fun _=>some true,some 0,false⟩,
 ⟨fun a σ=>.val (a.get 12) σ,some 61,fun _=>some true,some 0,false⟩,
 ⟨fun a σ=>i_sub Tryz.prog 3 (.tmp 60) (.tmp 61) (a.get 60) (a.get 61) σ,some 62,fun _=>some true,some 0,false⟩,
 ⟨fun a σ=>findexS (a.get 59) (a.get 62) σ,some 63,fun _=>some true,some 0,false⟩,
 ⟨fun a σ=>i_neq Tryz.prog 5 (.tmp 58) (.tmp 63) (a.get 58) (a.get 63) σ,some 64,fun _=>some true,some 0,false⟩]
def Ap7:List DOp:=AjQ ()
def AjP(_:Unit):List COp:=[⟨fun a σ=>.val (a.get 12) σ,some 52,fun _=>some true⟩,
 ⟨fun a σ=>i_add Tryz.prog 3 (.tmp 52) (.const (.int .i64 1)) (a.get 52) (.int .i64 1) σ,some 53,fun _=>some true⟩,
 ⟨fun a σ=>.val (a.get 53) σ,some 12,fun _=>some true⟩]
def Ap6:List COp:=AjP ()
def Avf(E:Env)(ro:Option Nat)(fn:FuncId):RunF:=(seqR (seqR (fops E ro Ap5) (condR (fun a=>(a.get 51)) skipR (exitR 3))) (seqR (blockR 4 (seqR (drawR E ro Ap7) (condR (fun a=>(a.get 64)) (gotoR 0) skipR))) (fops E ro Ap6)))
def AjR(_:Unit):List COp:=[⟨fun a σ=>.val (a.get 9) σ,some 65,fun _=>some true⟩,
 ⟨fun a σ=>.val (a.get 8) σ,some 66,fun _=>some true⟩,
 ⟨fun a σ=>i_sub Tryz.prog 3 (.tmp 65) (.tmp 66) (a.get 65) (a.get 66) σ,some 67,fun _=>some true⟩,
 ⟨fun a σ=>.val (a.get 67) σ,some 4,fun _=>some true⟩]
def Ap8:List COp:=AjR ()
def AjS(_:Unit):List COp:=[⟨fun a σ=>.val (a.get 10) σ,some 68,fun _=>some true⟩,
 ⟨fun a σ=>i_add Tryz.prog 3 (.tmp 68) (.const (.int .i64 1)) (a.get 68) (.int .i64 1) σ,some 69,fun _=>some true⟩,
 ⟨fun a σ=>.val (a.get 69) σ,some 10,fun _=>some true⟩]
def Ap9:List COp:=AjS ()
def AjT(_:Unit):List COp:=[⟨fun a σ=>.val (a.get 9) σ,some 70,fun _=>some true⟩,
 ⟨fun a σ=>i_add Tryz.prog 3 (.tmp 70) (.const (.int .i64 1)) (a.get 70) (.int .i64 1) σ,some 71,fun _=>some true⟩,
 ⟨fun a σ=>.val (a.get 71) σ,some 9,fun _=>some true⟩]
def Aqa:List COp:=AjT ()
def AjU(_:Unit):List COp:=[⟨fun a σ=>.val (.bool true) σ,some 72,fun _=>some true⟩,
 ⟨fun a σ=>.val (a.get 10) σ,some 73,fun a=>gd (a.get 72) true⟩,
 ⟨fun a σ=>.val (a.get 9) σ,some 74,fun a=>gd (a.get 72) true⟩,
 ⟨fun a σ=>.enter 203 [(a.get 74)] σ,some 75,fun a=>gd (a.get 72) true⟩,
 ⟨fun a σ=>i_gtr Tryz.prog 3 (.tmp 73) (.tmp 75) (a.get 73) (a.get 75) σ,some 76,fun a=>gd (a.get 72) true⟩,
 ⟨fun a σ=>fpick (a.get 72) (a.get 76) (.bool false) σ,some 77,fun _=>some true⟩,
 ⟨fun a σ=>.val (a.get 77) σ,some 78,fun _=>some true⟩,
 ⟨fun a σ=>.val (a.get 9) σ,some 79,fun a=>gd (a.get 78) true⟩,
 ⟨fun a σ=>.val (a.get 0) σ,some 80,fun a=>gd (a.get 78) true⟩,
 ⟨fun a σ=>flenS (a.get 80) σ,some 81,fun a=>gd (a.get 78) true⟩,
 ⟨fun a σ=>i_lss Tryz.prog 3 (.tmp 79) (.tmp 81) (a.get 79) (a.get 81) σ,some 82,fun a=>gd (a.get 78) true⟩,
 ⟨fun a σ=>fpick (a.get 78) (a.get 82) (.bool false) σ,some 83,fun _=>some true⟩,
 ⟨fun a σ=>.val (a.get 83) σ,some 84,fun _=>some true⟩,
 ⟨fun a σ=>.val (.bool false) σ,some 85,fun a=>gd (a.get 84) false⟩,
 ⟨fun a σ=>.val (a.get 10) σ,some 86,fun a=>gd (a.get 85) true⟩,
 ⟨fun a σ=>.val (a.get 9) σ,some 87,fun a=>gd (a.get 85) true⟩,
 ⟨fun a σ=>fbin0 Tryz.prog .shr 3 (.tmp 87) (.const (.int .u64 4)) (a.get 87) (.int .u64 4) σ,some 88,fun a=>gd (a.get 85) true⟩,
 ⟨fun a σ=>i_add Tryz.prog 3 (.const (.int .i64 4)) (.tmp 88) (.int .i64 4) (a.get 88) σ,some 89,fun a=>gd (a.get 85) true⟩,
 ⟨fun a σ=>i_geq Tryz.prog 3 (.tmp 86) (.tmp 89) (a.get 86) (a.get 89) σ,some 90,fun a=>gd (a.get 85) true⟩,
 ⟨fun a σ=>fpick (a.get 85) (a.get 90) (.bool false) σ,some 91,fun a=>gd (a.get 84) false⟩,
 ⟨fun a σ=>.val (a.get 91) σ,some 92,fun a=>gd (a.get 84) false⟩,
 ⟨fun a σ=>.val (a.get 9) σ,some 93,fun a=>gd (a.get 92) true⟩,
 ⟨fun a σ=>.val (a.get 0) σ,some 94,fun a=>gd (a.get 92) true⟩,
 ⟨fun a σ=>flenS (a.get 94) σ,some 95,fun a=>gd (a.get 92) true⟩,
 ⟨fun a σ=>i_lss Tryz.prog 3 (.tmp 93) (.tmp 95) (a.get 93) (a.get 95) σ,some 96,fun a=>gd (a.get 92) true⟩,
 ⟨fun a σ=>fpick (a.get 92) (a.get 96) (.bool false) σ,some 97,fun a=>gd (a.get 84) false⟩,
 ⟨fun a σ=>fpick (a.get 84) (.bool true) (a.get 97) σ,some 98,fun _=>some true⟩]
def Aqb:List COp:=AjU ()
noncomputable def x200_1:Code:=(scopesOf (Tryz.f200.body.getD .skip)).getD 1 .skip
def find200_1(E:Env)(ro:Option Nat)(fn:FuncId):Nat→Option (Bx RunF):=fun l=>match findLabel x200_1 l with|some rest=>some ⟨(ccode Tryz.prog nls 981 rest).un E ro fn⟩|none=>none
def Agb(E:Env)(ro:Option Nat)(fn:FuncId):RunF:=(seqR (seqR (fops E ro Akl) (condR (fun a=>(a.get 26)) skipR (exitR 1))) (blockR 2 (fscope (find200_1 E ro fn) bigFuel (seqR (seqR (drawR E ro Akm) (condR (fun a=>(a.get 33)) (seqR (drawR E ro Akn) (seqR (seqR (fops E ro Ako) (condR (fun a=>(a.get 43)) (seqR (fops E ro Akp) retR) skipR)) (fops E ro Ap3))) skipR)) (seqR (seqR (fops E ro Ap4) (blockR 3 (loopR (keepOf nls fn) (Avf E ro fn)))) (seqR (seqR (fops E ro Ap8) retR) (seqR skipR (seqR (fops E ro Ap9) (seqR (fops E ro Aqa) (seqR (fops E ro Aqb) (condR (fun a=>(a.get 98)) (gotoR 1) skipR)))))))))))
def AjV(_:Unit):List COp:=[⟨fun a σ=>.val (.int .i64 (-1)) σ,some 4,fun _=>some true⟩]
def Aqc:List COp:=AjV ()
def AjX(_:Unit):List COp:=[⟨fun a σ=>.val (a.get 0) σ,some 99,fun _=>some true⟩,
 ⟨fun a σ=>.val (a.get 9) σ,some 100,fun _=>some true⟩,
 ⟨fun a σ=>.val (a.get 8) σ,some 101,fun _=>some true⟩,
 ⟨fun a σ=>i_sub Tryz.prog 3 (.tmp 100) (.tmp 101) (a.get 100) (a.get 101) σ,some 102,fun _=>some true⟩,
 ⟨fun a σ=>fslice Tryz.prog 9 (a.get 99) (some (a.get 102)) none none σ,some 103,fun _=>some true⟩,
 ⟨fun a σ=>.val (a.get 1) σ,some 104,fun _=>some true⟩,
 ⟨fun a σ=>fun1 Tryz.prog (convert 21 9) (a.get 104) σ,some 105,fun _=>some true⟩,
 ⟨fun a σ=>.enter 204 [(a.get 103),(a.get 105)] σ,some 106,fun _=>some true⟩,
 ⟨fun a σ=>.val (a.get 106) σ,some 13,fun _=>some true⟩]
def Aqd:List COp:=AjX ()
def AjY(_:Unit):List COp:=[⟨fun a σ=>.val (a.get 13) σ,some 107,fun _=>some true⟩,
 ⟨fun a σ=>i_geq Tryz.prog 3 (.tmp 107) (.const (.int .i64 0)) (a.get 107) (.int .i64 0) σ,some 108,fun _=>some true⟩]
def Aqe:List COp:=AjY ()
def AjZ(_:Unit):List COp:=[⟨fun a σ=>.val (a.get 9) σ,some 109,fun _=>some true⟩,
 ⟨fun a σ=>.val (a.get 13) σ,some 110,fun _=>some true⟩,
 ⟨fun a σ=>i_add Tryz.prog 3 (.tmp 109) (.tmp 110) (a.get 109) (a.get 110) σ,some 111,fun _=>some true⟩,
 ⟨fun a σ=>.val (a.get 8) σ,some 112,fun _=>some true⟩,
 ⟨fun a σ=>i_sub Tryz.prog 3 (.tmp 111) (.tmp 112) (a.get 111) (a.get 112) σ,some 113,fun _=>some true⟩,
 ⟨fun a σ=>.val (a.get 113) σ,some 4,fun _=>some true⟩]
def Aqf:List COp:=AjZ ()
def Aj0(_:Unit):List COp:=[⟨fun a σ=>.val (a.get 7) σ,some 114,fun _=>some true⟩,
 ⟨fun a σ=>.val (a.get 8) σ,some 115,fun _=>some true⟩,
 ⟨fun a σ=>findexS (a.get 114) (a.get 115) σ,some 116,fun _=>some true⟩,
 ⟨fun a σ=>.val (a.get 116) σ,some 14,fun _=>some true⟩]
def Aqg:List COp:=Aj0 ()
def Aj1(_:Unit):List COp:=[⟨fun a σ=>.val (a.get 7) σ,some 117,fun _=>some true⟩,
 ⟨fun a σ=>.val (a.get 8) σ,some 118,fun _=>some true⟩,
 ⟨fun a σ=>i_sub Tryz.prog 3 (.tmp 118) (.const (.int .i64 1)) (a.get 118) (.int .i64 1) σ,some 119,fun _=>some true⟩,
 ⟨fun a σ=>findexS (a.get 117) (a.get 119) σ,some 120,fun _=>some true⟩,
 ⟨fun a σ=>.val (a.get 120) σ,some 15,fun _=>some true⟩]
def Aqh:List COp:=Aj1 ()
def Aj2(_:Unit):List COp:=[⟨fun a σ=>.val (a.get 9) σ,some 121,fun _=>some true⟩,
 ⟨fun a σ=>.val (a.get 0) σ,some 122,fun _=>some true⟩,
 ⟨fun a σ=>flenS (a.get 122) σ,some 123,fun _=>some true⟩,
 ⟨fun a σ=>i_lss Tryz.prog 3 (.tmp 121) (.tmp 123) (a.get 121) (a.get 123) σ,some 124,fun _=>some true⟩]
def Aqi:List COp:=Aj2 ()
def Aj4(_:Unit):List COp:=[⟨fun a σ=>.val (a.get 0) σ,some 127,fun _=>some true⟩,
 ⟨fun a σ=>.val (a.get 9) σ,some 128,fun _=>some true⟩,
 ⟨fun a σ=>findexS (a.get 127) (a.get 128) σ,some 129,fun _=>some true⟩,
 ⟨fun a σ=>.val (a.get 14) σ,some 130,fun _=>some true⟩,
 ⟨fun a σ=>i_eql Tryz.prog 5 (.tmp 129) (.tmp 130) (a.get 129) (a.get 130) σ,some 131,fun _=>some true⟩,
 ⟨fun a σ=>.val (a.get 131) σ,some 132,fun _=>some true⟩,
 ⟨fun a σ=>.val (a.get 0) σ,some 133,fun a=>gd (a.get 132) true⟩,
 ⟨fun a σ=>.val (a.get 9) σ,some 134,fun a=>gd (a.get 132) true⟩,
 ⟨fun a σ=>i_sub Tryz.prog 3 (.tmp 134) (.const (.int .i64 1)) (a.get 134) (.int .i64 1) σ,some 135,fun a=>gd (a.get 132) true⟩,
 ⟨fun a σ=>findexS (a.get 133) (a.get 135) σ,some 136,fun a=>gd (a.get 132) true⟩,
 ⟨fun a σ=>.val (a.get 15) σ,some 137,fun a=>gd (a.get 132) true⟩,
 ⟨fun a σ=>i_eql Tryz.prog 5 (.tmp 136) (.tmp 137) (a.get 136) (a.get 137) σ,some 138,fun a=>gd (a.get 132) true⟩,
 ⟨fun a σ=>fpick (a.get 132) (a.get 138) (.bool false) σ,some 139,fun _=>some true⟩]
def Aqk:List COp:=Aj4 ()
def Aj5(_:Unit):List COp:=[⟨fun a σ=>.val (.int .i64 2) σ,some 16,fun _=>some true⟩]
def Aql:List COp:=Aj5 ()
def Aj6(_:Unit):List COp:=[⟨fun a σ=>.val (a.get 16) σ,some 140,fun _=>some true⟩,
 ⟨fun a σ=>.val (a.get 7) σ,some 141,fun _=>some true⟩,
 ⟨fun a σ=>flenS (a.get 141) σ,some 142,fun _=>some true⟩,
 ⟨fun a σ=>i_lss Tryz.prog 3 (.tmp 140) (.tmp 142) (a.get 140) (a.get 142) σ,some 143,fun _=>some true⟩]
def Aqm:List COp:=Aj6 ()
def Aj9(_:Unit):List DOp:=[⟨fun a σ=>.val (a.get 0) σ,some 146,fun _=>some true,some 0,false⟩,
 ⟨fun a σ=>.val (a.get 9) σ,some 147,fun _=>some true,some 0,false⟩,
 ⟨fun a σ=>.val (a.get 16) σ,some 148,fun _=>some true,some 0,false⟩,
 ⟨fun a σ=>i_sub Tryz.prog 3 (.tmp 147) (.tmp 148) (a.get 147) (a.get 148) σ,some 149,fun _=>some true,some 0,false⟩,
 ⟨fun a σ=>findexS (a.get 146) (a.get 149) σ,some 150,fun _=>some true,some 0,false⟩,
 ⟨fun a σ=>.val (a.get 7) σ,some 151,fun _=>some true,some 0,false⟩,
 ⟨fun a σ=>.val (a.get 8) σ,some 152,fun _=>some true,some 0,false⟩,
 ⟨fun a σ=>.val (a.get 16) σ,some 153,fun _=>some true,some 0,false⟩,
 ⟨fun a σ=>i_sub Tryz.prog 3 (.tmp 152) (.tmp 153) (a.get 152) (a.get 153) σ,some 154,fun _=>some true,some 0,false⟩,
 ⟨fun a σ=>findexS (a.get 151) (a.get 154) σ,some 155,fun _=>some true,some 0,false⟩,
 ⟨fun a σ=>i_neq Tryz.prog 5 (.tmp 150) (.tmp 155) (a.get 150) (a.get 155) σ,some 156,fun _=>some true,some 0,false⟩]
def Aqo:List DOp:=Aj9 ()
def Aj8(_:Unit):List COp:=[⟨fun a σ=>.val (a.get 16) σ,some 144,fun _=>some true⟩,
 ⟨fun a σ=>i_add Tryz.prog 3 (.tmp 144) (.const (.int .i64 1)) (a.get 144) (.int .i64 1) σ,some 145,fun _=>some true⟩,
 ⟨fun a σ=>.val (a.get 145) σ,some 16,fun _=>some true⟩]
def Aqn:List COp:=Aj8 ()
def Avg(E:Env)(ro:Option Nat)(fn:FuncId):RunF:=(seqR (seqR (fops E ro Aqm) (condR (fun a=>(a.get 143)) skipR (exitR 7))) (seqR (blockR 8 (seqR (drawR E ro Aqo) (condR (fun a=>(a.get 156)) (exitR 6) skipR))) (fops E ro Aqn)))
def Aka(_:Unit):List COp:=[⟨fun a σ=>.val (a.get 9) σ,some 157,fun _=>some true⟩,
 ⟨fun a σ=>.val (a.get 8) σ,some 158,fun _=>some true⟩,
 ⟨fun a σ=>i_sub Tryz.prog 3 (.tmp 157) (.tmp 158) (a.get 157) (a.get 158) σ,some 159,fun _=>some true⟩,
 ⟨fun a σ=>.val (a.get 159) σ,some 4,fun _=>some true⟩]
def Aqp:List COp:=Aka ()
def Aj3(_:Unit):List COp:=[⟨fun a σ=>.val (a.get 9) σ,some 125,fun _=>some true⟩,
 ⟨fun a σ=>i_add Tryz.prog 3 (.tmp 125) (.const (.int .i64 1)) (a.get 125) (.int .i64 1) σ,some 126,fun _=>some true⟩,
 ⟨fun a σ=>.val (a.get 126) σ,some 9,fun _=>some true⟩]
def Aqj:List COp:=Aj3 ()
def Avh(E:Env)(ro:Option Nat)(fn:FuncId):RunF:=(seqR (seqR (fops E ro Aqi) (condR (fun a=>(a.get 124)) skipR (exitR 5))) (seqR (blockR 6 (seqR (fops E ro Aqk) (condR (fun a=>(a.get 139)) (seqR (seqR (fops E ro Aql) (blockR 7 (loopR (keepOf nls fn) (Avg E ro fn)))) (seqR (fops E ro Aqp) retR)) skipR))) (fops E ro Aqj)))
noncomputable def x200_2:Code:=(scopesOf (Tryz.f200.body.getD .skip)).getD 2 .skip
def find200_2(E:Env)(ro:Option Nat)(fn:FuncId):Nat→Option (Bx RunF):=fun l=>match findLabel x200_2 l with|some rest=>some ⟨(ccode Tryz.prog nls 981 rest).un E ro fn⟩|none=>none
def Akb(_:Unit):List COp:=[⟨fun a σ=>.val (.int .i64 (-1)) σ,some 4,fun _=>some true⟩]
def Aqq:List COp:=Akb ()
noncomputable def x200_0:Code:=(scopesOf (Tryz.f200.body.getD .skip)).getD 0 .skip
def find200_0(E:Env)(ro:Option Nat)(fn:FuncId):Nat→Option (Bx RunF):=fun l=>match findLabel x200_0 l with|some rest=>some ⟨(ccode Tryz.prog nls 991 rest).un E ro fn⟩|none=>none
noncomputable def x200_3:Code:=(scopesOf (Tryz.f200.body.getD .skip)).getD 3 .skip
def find200_3(E:Env)(ro:Option Nat)(fn:FuncId):Nat→Option (Bx RunF):=fun l=>match findLabel x200_3 l with|some rest=>some ⟨(ccode Tryz.prog nls 987 rest).un E ro fn⟩|none=>none
def ZE(E:Env)(ro:Option Nat)(fn:FuncId):RunF:=(seqR (fops E ro AjK) (blockR 0 (seqR (fops E ro AaW) (condR (fun a=>(a.get 160)) (seqR (fops E ro Aqr) retR) (seqR (fops E ro AaX) (condR (fun a=>(a.get 171)) (seqR (seqR (fops E ro Aqs) (blockR 9 (loopR (keepOf nls fn) (Ave E ro fn)))) (seqR (fops E ro Aqx) retR)) (seqR (fops E ro AaY) (condR (fun a=>(a.get 183)) (seqR (fops E ro Aqy) retR) (fscope (find200_0 E ro fn) bigFuel (seqR (fops E ro AjL) (seqR (fops E ro AjW) (seqR (fops E ro Aj7) (seqR (fops E ro Akg) (seqR (blockR 1 (loopR (keepOf nls fn) (Agb E ro fn))) (seqR (seqR (fops E ro Aqc) retR) (seqR skipR (seqR (condR (fun a=>(.bool true)) (seqR (fops E ro Aqd) (seqR (fops E ro Aqe) (condR (fun a=>(a.get 108)) (seqR (fops E ro Aqf) retR) skipR))) (fscope (find200_2 E ro fn) bigFuel (seqR (fops E ro Aqg) (seqR (fops E ro Aqh) (seqR skipR (blockR 5 (loopR (keepOf nls fn) (Avh E ro fn)))))))) (seqR (fops E ro Aqq) retR))))))))))))))))))
theorem AdR:fops E ro AjK a u σ=fops E ro (Ri ()) a u σ:=rfl
theorem Xi:fops E ro AaW a u σ=fops E ro (LQ ()) a u σ:=rfl
theorem Xj:fops E ro AaX a u σ=fops E ro (LR ()) a u σ:=rfl
theorem Xk:fops E ro AaY a u σ=fops E ro (LS ()) a u σ:=rfl
theorem AdS:fops E ro AjL a u σ=fops E ro (Rj ()) a u σ:=rfl
theorem AdT:fops E ro AjW a u σ=fops E ro (Rk ()) a u σ:=rfl
theorem AdU:fops E ro Aj7 a u σ=fops E ro (Rl ()) a u σ:=rfl
theorem AdV:fops E ro Akg a u σ=fops E ro (Rm ()) a u σ:=rfl
theorem AdW:fops E ro Akl a u σ=fops E ro (Rn ()) a u σ:=rfl
theorem AdX:fdraw E ro last Akm cl a u σ=fdraw E ro last (Ro ()) cl a u σ:=rfl
theorem AdY:fdraw E ro last Akn cl a u σ=fdraw E ro last (Rp ()) cl a u σ:=rfl
theorem AdZ:fops E ro Ako a u σ=fops E ro (Rq ()) a u σ:=rfl
theorem Ad0:fops E ro Akp a u σ=fops E ro (Rr ()) a u σ:=rfl
theorem Aot(E:Env)(ro:Option Nat)(fn:FuncId):code Tryz.prog nls (Tryz.f200.body.getD .skip) E ro fn=ZE E ro fn:=by kernel_rfl
theorem AfG(E:Env)(args:List Value)(u:Option FrameMode)(σ:FState)(hn:args.length≤(17:Nat)):fcall Tryz.prog nls E 200 args u σ=leaveR Tryz.prog E [.tmp 4] (ZE E none 200 ⟨padTo undef 17 args,fun _=>undef,17,187,[]⟩ u σ):=by
 rw[Al (body:=Tryz.f200.body.getD .skip) Tryz.func200 rfl E args u σ 17 187 (by kernel_rfl) rfl ⟨hn,by decide⟩,Aot]
 rfl
def Rf(_:Unit):List COp:=[⟨fun a σ=>.val (.bool false) σ,some 4,fun _=>some true⟩]
def AjH:List COp:=Rf ()
def Rg(_:Unit):List COp:=[⟨fun a σ=>.val (a.get 0) σ,some 5,fun _=>some true⟩,
 ⟨fun a σ=>.val (a.get 1) σ,some 6,fun _=>some true⟩,
 ⟨fun a σ=>.enter 200 [(a.get 5),(a.get 6)] σ,some 7,fun _=>some true⟩,
 ⟨fun a σ=>i_geq Tryz.prog 3 (.tmp 7) (.const (.int .i64 0)) (a.get 7) (.int .i64 0) σ,some 8,fun _=>some true⟩,
 ⟨fun a σ=>.val (a.get 8) σ,some 4,fun _=>some true⟩]
def AjI:List COp:=Rg ()
def ZD(E:Env)(ro:Option Nat)(fn:FuncId):RunF:=(seqR (fops E ro AjH) (seqR (fops E ro AjI) retR))
theorem AdP:fops E ro AjH a u σ=fops E ro (Rf ()) a u σ:=rfl
theorem AdQ:fops E ro AjI a u σ=fops E ro (Rg ()) a u σ:=rfl
theorem Aos(E:Env)(ro:Option Nat)(fn:FuncId):code Tryz.prog nls (Tryz.f198.body.getD .skip) E ro fn=ZD E ro fn:=by kernel_rfl
theorem AfF(E:Env)(args:List Value)(u:Option FrameMode)(σ:FState)(hn:args.length≤(4:Nat)):fcall Tryz.prog nls E 198 args u σ=leaveR Tryz.prog E [.tmp 4] (ZD E none 198 ⟨padTo undef 4 args,fun _=>undef,4,9,[]⟩ u σ):=by
 rw[Al (body:=Tryz.f198.body.getD .skip) Tryz.func198 rfl E args u σ 4 9 (by kernel_rfl) rfl ⟨hn,by decide⟩,Aos]
 rfl
def Rs(_:Unit):List COp:=[⟨fun a σ=>.val (.bool false) σ,some 2,fun _=>some true⟩]
def Akq:List COp:=Rs ()
def Rt(_:Unit):List COp:=[⟨fun a σ=>.val (a.get 0) σ,some 4,fun _=>some true⟩,
 ⟨fun a σ=>i_leq Tryz.prog 21 (.const (.int .i32 0)) (.tmp 4) (.int .i32 0) (a.get 4) σ,some 5,fun _=>some true⟩,
 ⟨fun a σ=>.val (a.get 5) σ,some 6,fun _=>some true⟩,
 ⟨fun a σ=>.val (a.get 0) σ,some 7,fun a=>gd (a.get 6) true⟩,
 ⟨fun a σ=>i_lss Tryz.prog 21 (.tmp 7) (.const (.int .i32 55296)) (a.get 7) (.int .i32 55296) σ,some 8,fun a=>gd (a.get 6) true⟩,
 ⟨fun a σ=>fpick (a.get 6) (a.get 8) (.bool false) σ,some 9,fun _=>some true⟩,
 ⟨fun a σ=>.val (a.get 9) σ,some 3,fun _=>some true⟩]
def Akr:List COp:=Rt ()
def Ru(_:Unit):List COp:=[⟨fun a σ=>.val (.bool true) σ,some 2,fun _=>some true⟩]
def Aks:List COp:=Ru ()
def Aqz(_:Unit):List COp:=[⟨fun a σ=>.val (a.get 0) σ,some 11,fun _=>some true⟩,
 ⟨fun a σ=>i_lss Tryz.prog 21 (.const (.int .i32 57343)) (.tmp 11) (.int .i32 57343) (a.get 11) σ,some 12,fun _=>some true⟩,
 ⟨fun a σ=>.val (a.get 12) σ,some 13,fun _=>some true⟩,
 ⟨fun a σ=>.val (a.get 0) σ,some 14,fun a=>gd (a.get 13) true⟩,
 ⟨fun a σ=>i_leq Tryz.prog 21 (.tmp 14) (.const (.int .i32 1114111)) (a.get 14) (.int .i32 1114111) σ,some 15,fun a=>gd (a.get 13) true⟩,
 ⟨fun a σ=>fpick (a.get 13) (a.get 15) (.bool false) σ,some 16,fun _=>some true⟩,
 ⟨fun a σ=>.val (a.get 16) σ,some 10,fun _=>some true⟩]
def AvM:List COp:=Aqz ()
def AqA(_:Unit):List COp:=[⟨fun a σ=>.val (.bool true) σ,some 2,fun _=>some true⟩]
def AvN:List COp:=AqA ()
def AqB(_:Unit):List COp:=[⟨fun a σ=>.val (.bool false) σ,some 2,fun _=>some true⟩]
def AvO:List COp:=AqB ()
def ZF(E:Env)(ro:Option Nat)(fn:FuncId):RunF:=(seqR (fops E ro Akq) (seqR (blockR 0 (seqR (fops E ro Akr) (condR (fun a=>(a.get 3)) (seqR (fops E ro Aks) retR) (seqR (fops E ro AvM) (condR (fun a=>(a.get 10)) (seqR (fops E ro AvN) retR) skipR))))) (seqR (fops E ro AvO) retR)))
theorem Ad1:fops E ro Akq a u σ=fops E ro (Rs ()) a u σ:=rfl
theorem Ad2:fops E ro Akr a u σ=fops E ro (Rt ()) a u σ:=rfl
theorem Ad3:fops E ro Aks a u σ=fops E ro (Ru ()) a u σ:=rfl
theorem Aou(E:Env)(ro:Option Nat)(fn:FuncId):code Tryz.prog nls (Tryz.f202.body.getD .skip) E ro fn=ZF E ro fn:=by kernel_rfl
theorem AfH(E:Env)(args:List Value)(u:Option FrameMode)(σ:FState)(hn:args.length≤(2:Nat)):fcall Tryz.prog nls E 202 args u σ=leaveR Tryz.prog E [.tmp 2] (ZF E none 202 ⟨padTo undef 2 args,fun _=>undef,2,17,[]⟩ u σ):=by
 rw[Al (body:=Tryz.f202.body.getD .skip) Tryz.func202 rfl E args u σ 2 17 (by kernel_rfl) rfl ⟨hn,by decide⟩,Aou]
 rfl
def Ra(_:Unit):List COp:=[⟨fun a σ=>.val (.int .i64 0) σ,some 2,fun _=>some true⟩]
def AjC:List COp:=Ra ()
def Rb(_:Unit):List COp:=[⟨fun a σ=>.val (a.get 0) σ,some 4,fun _=>some true⟩,
 ⟨fun a σ=>i_geq Tryz.prog 21 (.tmp 4) (.const (.int .i32 97)) (a.get 4) (.int .i32 97) σ,some 5,fun _=>some true⟩,
 ⟨fun a σ=>.val (a.get 5) σ,some 6,fun _=>some true⟩,
 ⟨fun a σ=>.val (a.get 0) σ,some 7,fun a=>gd (a.get 6) true⟩,
 ⟨fun a σ=>i_leq Tryz.prog 21 (.tmp 7) (.const (.int .i32 122)) (a.get 7) (.int .i32 122) σ,some 8,fun a=>gd (a.get 6) true⟩,
 ⟨fun a σ=>fpick (a.get 6) (a.get 8) (.bool false) σ,some 9,fun _=>some true⟩,
 ⟨fun a σ=>.val (a.get 9) σ,some 3,fun _=>some true⟩]
def AjD:List COp:=Rb ()
def Ap0(_:Unit):List COp:=[⟨fun a σ=>.val (.int .i64 1) σ,some 2,fun _=>some true⟩]
def AvJ:List COp:=Ap0 ()
def Rc(_:Unit):List COp:=[⟨fun a σ=>.val (a.get 0) σ,some 11,fun _=>some true⟩,
 ⟨fun a σ=>i_geq Tryz.prog 21 (.tmp 11) (.const (.int .i32 48)) (a.get 11) (.int .i32 48) σ,some 12,fun _=>some true⟩,
 ⟨fun a σ=>.val (a.get 12) σ,some 13,fun _=>some true⟩,
 ⟨fun a σ=>.val (a.get 0) σ,some 14,fun a=>gd (a.get 13) true⟩,
 ⟨fun a σ=>i_leq Tryz.prog 21 (.tmp 14) (.const (.int .i32 57)) (a.get 14) (.int .i32 57) σ,some 15,fun a=>gd (a.get 13) true⟩,
 ⟨fun a σ=>fpick (a.get 13) (a.get 15) (.bool false) σ,some 16,fun _=>some true⟩,
 ⟨fun a σ=>.val (a.get 16) σ,some 10,fun _=>some true⟩]
def AjE:List COp:=Rc ()
def Ap1(_:Unit):List COp:=[⟨fun a σ=>.val (.int .i64 2) σ,some 2,fun _=>some true⟩]
def AvK:List COp:=Ap1 ()
def Rd(_:Unit):List COp:=[⟨fun a σ=>.val (a.get 0) σ,some 18,fun _=>some true⟩,
 ⟨fun a σ=>.enter 198 [(.string ⟨#[45,43,42,47,60,62,61,63,33]⟩),(a.get 18)] σ,some 19,fun _=>some true⟩,
 ⟨fun a σ=>.val (a.get 19) σ,some 17,fun _=>some true⟩]
def AjF:List COp:=Rd ()
def Ap2(_:Unit):List COp:=[⟨fun a σ=>.val (.int .i64 3) σ,some 2,fun _=>some true⟩]
def AvL:List COp:=Ap2 ()
def Re(_:Unit):List COp:=[⟨fun a σ=>.val (.int .i64 0) σ,some 2,fun _=>some true⟩]
def AjG:List COp:=Re ()
def ZC(E:Env)(ro:Option Nat)(fn:FuncId):RunF:=(seqR (fops E ro AjC) (seqR (blockR 0 (seqR (fops E ro AjD) (condR (fun a=>(a.get 3)) (seqR (fops E ro AvJ) retR) (seqR (fops E ro AjE) (condR (fun a=>(a.get 10)) (seqR (fops E ro AvK) retR) (seqR (fops E ro AjF) (condR (fun a=>(a.get 17)) (seqR (fops E ro AvL) retR) skipR))))))) (seqR (fops E ro AjG) retR)))
theorem AdK:fops E ro AjC a u σ=fops E ro (Ra ()) a u σ:=rfl
theorem AdL:fops E ro AjD a u σ=fops E ro (Rb ()) a u σ:=rfl
theorem AdM:fops E ro AjE a u σ=fops E ro (Rc ()) a u σ:=rfl
theorem AdN:fops E ro AjF a u σ=fops E ro (Rd ()) a u σ:=rfl
theorem AdO:fops E ro AjG a u σ=fops E ro (Re ()) a u σ:=rfl
theorem Aor(E:Env)(ro:Option Nat)(fn:FuncId):code Tryz.prog nls (Tryz.f188.body.getD .skip) E ro fn=ZC E ro fn:=by kernel_rfl
theorem AfE(E:Env)(args:List Value)(u:Option FrameMode)(σ:FState)(hn:args.length≤(2:Nat)):fcall Tryz.prog nls E 188 args u σ=leaveR Tryz.prog E [.tmp 2] (ZC E none 188 ⟨padTo undef 2 args,fun _=>undef,2,20,[]⟩ u σ):=by
 rw[Al (body:=Tryz.f188.body.getD .skip) Tryz.func188 rfl E args u σ 2 20 (by kernel_rfl) rfl ⟨hn,by decide⟩,Aor]
 rfl
end
section
open Go Go.Eng
attribute [local congr] Ac Aj Ai Ad Ah
attribute [-go_sem] List.range_succ
def otherNums:List Nat:=[0,1,2,3,4,5,6,7,8,9,10,11,12,13,14,15,16,17,18,19,20,21,22,23,24,25,26,27,28,29,30,31,32,34,35,36,37,38,39,40,41,44,46,58,59,64,65,66,67,68,69,70,71,72,73,74,75,76,77,78,79,80,81,82,83,84,85,86,87,88,89,90,91,92,93,94,95,96,123,124,125,126,127]
def highNums:List Nat:=[128,129,130,131,132,133,134,135,136,137,138,139,140,141,142,143,144,145,146,147,148,149,150,151,152,153,154,155,156,157,158,159,160,161,162,163,164,165,166,167,168,169,170,171,172,173,174,175,176,177,178,179,180,181,182,183,184,185,186,187,188,189,190,191,192,193,194,195,196,197,198,199,200,201,202,203,204,205,206,207,208,209,210,211,212,213,214,215,216,217,218,219,220,221,222,223,224,225,226,227,228,229,230,231,232,233,234,235,236,237,238,239,240,241,242,243,244,245,246,247,248,249,250,251,252,253,254,255]
def tailNums:List Nat:=[128,129,130,131,132,133,134,135,136,137,138,139,140,141,142,143,144,145,146,147,148,149,150,151,152,153,154,155,156,157,158,159,160,161,162,163,164,165,166,167,168,169,170,171,172,173,174,175,176,177,178,179,180,181,182,183,184,185,186,187,188,189,190,191]
theorem Tp(n c:Nat)(hm:c∈otherNums)(σ:FState):(env (n+20)).call 188 [.int .i32 (c:Int)] none σ=.ret (.int .i64 0) none σ:=by
 simp only[otherNums,List.mem_cons,List.not_mem_nil,or_false] at hm
 rcases hm with rfl|rfl|rfl|rfl|rfl|rfl|rfl|rfl|rfl|rfl|rfl|rfl|rfl|rfl|rfl|rfl|rfl|rfl|rfl|rfl|rfl|rfl|rfl|rfl|rfl|rfl|rfl|rfl|rfl|rfl|rfl|rfl|rfl|rfl|rfl|rfl|rfl|rfl|rfl|rfl|rfl|rfl|rfl|rfl|rfl|rfl|rfl|rfl|rfl|rfl|rfl|rfl|rfl|rfl|rfl|rfl|rfl|rfl|rfl|rfl|rfl|rfl|rfl|rfl|rfl|rfl|rfl|rfl|rfl|rfl|rfl|rfl|rfl|rfl|rfl|rfl|rfl|rfl|rfl|rfl|rfl|rfl|rfl<;>kernel_rfl
def rsOf(c:Nat):ByteArray:=⟨#[(192+c / 64).toUInt8,(128+c % 64).toUInt8]⟩
theorem AqN(c:Nat)(hm:c∈highNums)(σ:FState):fun1 Tryz.prog (convert 21 9) (.int .i32 (c:Int)) σ=.val (.string (rsOf c)) σ:=by
 simp only[highNums,List.mem_cons,List.not_mem_nil,or_false] at hm
 rcases hm with rfl|rfl|rfl|rfl|rfl|rfl|rfl|rfl|rfl|rfl|rfl|rfl|rfl|rfl|rfl|rfl|rfl|rfl|rfl|rfl|rfl|rfl|rfl|rfl|rfl|rfl|rfl|rfl|rfl|rfl|rfl|rfl|rfl|rfl|rfl|rfl|rfl|rfl|rfl|rfl|rfl|rfl|rfl|rfl|rfl|rfl|rfl|rfl|rfl|rfl|rfl|rfl|rfl|rfl|rfl|rfl|rfl|rfl|rfl|rfl|rfl|rfl|rfl|rfl|rfl|rfl|rfl|rfl|rfl|rfl|rfl|rfl|rfl|rfl|rfl|rfl|rfl|rfl|rfl|rfl|rfl|rfl|rfl|rfl|rfl|rfl|rfl|rfl|rfl|rfl|rfl|rfl|rfl|rfl|rfl|rfl|rfl|rfl|rfl|rfl|rfl|rfl|rfl|rfl|rfl|rfl|rfl|rfl|rfl|rfl|rfl|rfl|rfl|rfl|rfl|rfl|rfl|rfl|rfl|rfl|rfl|rfl|rfl|rfl|rfl|rfl|rfl|rfl<;>kernel_rfl
theorem AbC(n c:Nat)(hm:c∈tailNums)(σ:FState):(env (n+12)).call 201 [.string ⟨#[42,47,60,62,61,63,33]⟩,.int .u8 (c:Int)] none σ=.ret (.int .i64 (-1)) none σ:=by
 simp only[tailNums,List.mem_cons,List.not_mem_nil,or_false] at hm
 rcases hm with rfl|rfl|rfl|rfl|rfl|rfl|rfl|rfl|rfl|rfl|rfl|rfl|rfl|rfl|rfl|rfl|rfl|rfl|rfl|rfl|rfl|rfl|rfl|rfl|rfl|rfl|rfl|rfl|rfl|rfl|rfl|rfl|rfl|rfl|rfl|rfl|rfl|rfl|rfl|rfl|rfl|rfl|rfl|rfl|rfl|rfl|rfl|rfl|rfl|rfl|rfl|rfl|rfl|rfl|rfl|rfl|rfl|rfl|rfl|rfl|rfl|rfl|rfl|rfl<;>kernel_rfl
end
section
open Go Go.Eng
attribute [local congr] Ac Aj Ai Ad Ah
attribute [-go_sem] List.range_succ
theorem AbO(c:Int)(σ:FState):fun1 Tryz.prog (convert 5 21) (.int .u8 c) σ=.val (.int .i32 (IntKind.i32.wrap c)) σ:=by kernel_rfl
theorem AbM(c:Nat)(h:c<256)(σ:FState):fun1 Tryz.prog (convert 5 21) (.int .u8 (c:Int)) σ=.val (.int .i32 (c:Int)) σ:=by
 rw[AbO]
 have:IntKind.i32.wrap (c:Int)=c:=by
  show (if (true&&decide ((c:Int) % 4294967296≥2147483648))=true then (c:Int) % 4294967296-4294967296 else (c:Int) % 4294967296)=c
  have e:(c:Int) % 4294967296=c:=by omega
  rw[e,if_neg (by simp;omega)]
 rw[this]
theorem Apg(x y:Operand)(a b:Int)(σ:FState):i_geq Tryz.prog 21 x y (.int .i32 a) (.int .i32 b) σ=.val (.bool (decide (a≥b))) σ:=by kernel_rfl
theorem PO(x y:Operand)(a b:Int)(σ:FState):i_leq Tryz.prog 21 x y (.int .i32 a) (.int .i32 b) σ=.val (.bool (decide (a≤b))) σ:=by kernel_rfl
theorem Ao7(x y:Operand)(a b:Int)(σ:FState):i_eql Tryz.prog 21 x y (.int .i32 a) (.int .i32 b) σ=.val (.bool (a==b)) σ:=by kernel_rfl
theorem Aal(x y:Operand)(a b:Int)(σ:FState):i_neq Tryz.prog 5 x y (.int .u8 a) (.int .u8 b) σ=.val (.bool (!(a==b))) σ:=by kernel_rfl
theorem S4(n c:Nat)(h:c<256)(σ:FState):(env (n+1)).call 202 [.int .i32 (c:Int)] none σ=.ret (.bool true) none σ:=by
 rw[Ag _ 202 _ _ rfl,AfH _ _ _ _ (by simp),Af]
 unfold ZF
 have d0:decide ((0:Int)≤(c:Int))=true:=by simp
 have d1:decide ((c:Int)<55296)=true:=by simp;omega
 simp -implicitDefEqProofs only[go_sem,Ad1,Rs,Ad2,Rt,Ad3,Ru,PO,F9,d0,d1]
end
section
open Go Go.Eng
attribute [local congr] Ac Aj Ai Ad Ah
attribute [-go_sem] List.range_succ
def signsT:ByteArray:=⟨#[45,43,42,47,60,62,61,63,33]⟩
theorem VQ(σ:FState):fslice Tryz.prog 9 (.string signsT) (some (.int .i64 2)) none none σ=.val (.string ⟨#[42,47,60,62,61,63,33]⟩) σ:=by kernel_rfl
theorem Af4{c:Nat}(h:128≤c∧c<256):c∈highNums:=by
 have e:highNums=(List.range 128).map (· + 128):=by decide
 rw[e,List.mem_map]
 exact⟨c-128,List.mem_range.2 (by omega),by omega⟩
theorem Anw{c:Nat}(h:128≤c∧c<192):c∈tailNums:=by
 have e:tailNums=(List.range 64).map (· + 128):=by decide
 rw[e,List.mem_map]
 exact⟨c-128,List.mem_range.2 (by omega),by omega⟩
theorem Lc(n c:Nat)(h:128≤c∧c<256)(σ:FState):(env (n+13)).call 200 [.string signsT,.int .i32 (c:Int)] none σ=.ret (.int .i64 (-1)) none σ:=by
 rw[Ag _ 200 _ _ rfl,AfG _ _ _ _ (by simp),Af]
 unfold ZE
 have d0:decide ((0:Int)≤(c:Int))=true:=by simp
 have d1:decide ((c:Int)<128)=false:=by simp;omega
 have d2:((c:Int)==65533)=false:=by rw[beq_eq_false_iff_ne];omega
 have vr:=S4 (n+11) c h.2 σ
 have rs:=AqN c (Af4 h) σ
 have hsz:(rsOf c).size=2:=rfl
 have hby:byteAt (rsOf c) 1=128+c % 64:=by
  show (128+c % 64).toUInt8.toNat=_
  rw[Nat.toUInt8_eq,UInt8.toNat_ofNat']
  omega
 have f1:∀τ,findexS (.string (rsOf c)) (.int .i64 1) τ=.val (.int .u8 ((128+c % 64:Nat):Int)) τ:=fun τ=>by rw[NY (rsOf c) (by rw[hsz];omega) τ,hby]
 have f2:∀τ,findexS (.string signsT) (.int .i64 1) τ=.val (.int .u8 43) τ:=fun τ=>by kernel_rfl
 have ib:=AbC n (128+c % 64) (Anw (by omega)) σ
 have ne:((43:Int)==((128+c % 64:Nat):Int))=false:=by rw[beq_eq_false_iff_ne];omega
 generalize rsOf c=rr at *
 generalize 128+c % 64=bb at *
 have s1:wrapI (Int.ofNat 2-1)=1:=by decide
 have s2:wrapI ((1:Int)+1)=2:=by decide
 have l9:decide ((1:Int)<Int.ofNat signsT.size)=true:=by decide
 have lo:decide ((-1:Int)<0)=true:=by decide
 simp -implicitDefEqProofs only[go_sem,AdR,Ri,Xi,LQ,Xj,LR,Xk,LS,PO,F9,Ao7,d0,d1,d2,vr,Bool.not_true,Ae]
 have hfu:∃q,bigFuel=q+1:=⟨999999999999,rfl⟩
 obtain⟨fu,hfu⟩:=hfu
 rw[hfu,Fw]
 have hk:keepOf nls 200=keepOf nls 200:=rfl
 generalize hkk:keepOf nls 200=keep
 simp -implicitDefEqProofs only[go_sem,AdS,Rj,AdT,Rk,AdU,Rl,AdV,Rm,rs,hsz,s1,hkk]
 rw[hfu,Am]
 unfold Agb
 simp -implicitDefEqProofs only[go_sem,AdW,Rn,l9,Ae]
 rw[hfu,Fw]
 have nb:(!((43:Int)==(bb:Int)))=true:=by rw[ne];rfl
 simp -implicitDefEqProofs only[go_sem,AdX,Ro,AdY,Rp,AdZ,Rq,Ad0,Rr,f1,f2,Aal,nb,s2,VQ,ib,lo,Ae,M0]
end
section
open Go Go.Eng
attribute [local congr] Ac Aj Ai Ad Ah
attribute [-go_sem] List.range_succ
def clsA(c:Nat):Int:=if symC c=true then clsN c else 0
theorem Acz{c:Nat}(h:symC c=false)(hc:c<128):c∈otherNums:=by
 have e:otherNums=(List.range 128).filter (fun c=>!symC c):=by decide
 rw[e,List.mem_filter,List.mem_range]
 exact⟨hc,by rw[h];rfl⟩
theorem Wg(n c:Nat)(h:128≤c∧c<256)(σ:FState):(env (n+15)).call 188 [.int .i32 (c:Int)] none σ=.ret (.int .i64 0) none σ:=by
 have e:(env (n+14)).call 198 [.string ⟨#[45,43,42,47,60,62,61,63,33]⟩,.int .i32 (c:Int)] none σ=.ret (.bool false) none σ:=by
  have hi:(env (n+13)).call 200 [.string ⟨#[45,43,42,47,60,62,61,63,33]⟩,.int .i32 (c:Int)] none σ=_:=Lc n c h σ
  have g:decide ((-1:Int)≥0)=false:=by decide
  rw[Ag _ 198 _ _ rfl,AfF _ _ _ _ (by simp),Af]
  unfold ZD
  simp -implicitDefEqProofs only[go_sem,AdP,Rf,AdQ,Rg,hi,g]
 have d0:decide ((c:Int)≥97)=true:=by simp;omega
 have d1:decide ((c:Int)≤122)=false:=by simp;omega
 have d2:decide ((c:Int)≥48)=true:=by simp;omega
 have d3:decide ((c:Int)≤57)=false:=by simp;omega
 rw[Ag _ 188 _ _ rfl,AfE _ _ _ _ (by simp),Af]
 unfold ZC
 simp -implicitDefEqProofs only[go_sem,AdK,Ra,AdL,Rb,AdM,Rc,AdN,Rd,AdO,Re,Apg,PO,d0,d1,d2,d3,e,Ae]
theorem AbH(n c:Nat)(h:c<256)(σ:FState):(env (n+20)).call 188 [.int .i32 (c:Int)] none σ=.ret (.int .i64 (clsA c)) none σ:=by
 unfold clsA
 cases hs:symC c with
 | true=>rw[if_pos rfl];exact Tn n c hs σ
 | false=>
  rw[if_neg (by decide)]
  by_cases hc:c<128
  ·exact Tp n c (Acz hs hc) σ
  ·exact Wg (n+5) c ⟨by omega,h⟩ σ
theorem AbB(t:ByteArray)(i:Nat):byteAt t i<256:=UInt8.toNat_lt _
def okAt(t:ByteArray)(i:Nat):Bool:=symC (byteAt t i)&&(!digC (byteAt t i)||decide (1<i)||(decide (i=1)&&!(byteAt t 0==45)))
theorem Apj(n i c:Nat)(t:ByteArray)(f g:Nat→Value)(σ:FState)(hi:i<t.size)(hsz:i<1000000)(hc:byteAt t i=c)(hok:okAt t i=false)(f0:f 0=.string t)(g13:g 13=.int .i64 (.ofNat t.size))(g14:g 14=.int .i64 (.ofNat i)):
  ∃f' g',DB (env (n+20)) none 170 (Sl 4 38 f g []) none σ=.done .ret (Sl 4 38 f' g' []) none σ∧f' 2=.bool false:=by
 have d0:decide (Int.ofNat i<Int.ofNat t.size)=true:=by simp;omega
 have hb:=De t i hi σ
 rw[hc] at hb
 have hlt:c<256:=hc ▸ AbB t i
 have hcl:=AbH n c hlt σ
 have hcv:=AbM c hlt σ
 unfold okAt at hok
 rw[hc] at hok
 unfold DB
 cases hs:symC c with
 | false=>
  have hq:clsA c=0:=by unfold clsA;rw[hs];rfl
  rw[hq] at hcl
  have e2:((0:Int)==2)=false:=rfl
  have e0:((0:Int)==0)=true:=rfl
  simp -implicitDefEqProofs only[go_sem,CZ,Du,DT,Eh,DU,Ei,DV,Ej,DW,Ek,DX,El,G9,FL,f0,g13,g14,d0,hb,hcv,hcl,e2,e0,Ae]
  exact⟨_,_,rfl,by simp -implicitDefEqProofs only[go_sem,reduceCtorEq]⟩
 | true=>
  rw[hs,Bool.true_and,Bool.or_eq_false_iff,Bool.or_eq_false_iff] at hok
  obtain⟨⟨h1,h2⟩,h3⟩:=hok
  have hd:digC c=true:=by simpa using h1
  have hi1:¬ 1<i:=by simpa using h2
  have hq:clsA c=2:=by unfold clsA clsN;rw[hs,hd];rfl
  rw[hq] at hcl
  have e2:((2:Int)==2)=true:=rfl
  have d1:decide (Int.ofNat i>1)=false:=by simp;omega
  by_cases h0:i=1
  ·have h45:byteAt t 0=45:=by
    rw[h0] at h3
    simpa using h3
   have d2:(Int.ofNat i==1)=true:=by subst h0;rfl
   have b0:=IE t (by omega) σ
   have e45:((byteAt t 0:Int)==45)=true:=by rw[h45];rfl
   simp -implicitDefEqProofs only[go_sem,CZ,Du,DT,Eh,DU,Ei,DV,Ej,DW,Ek,DX,El,G9,FL,f0,g13,g14,d0,hb,hcv,hcl,e2,d1,d2,b0,e45,Aal,Bool.not_true,Ae]
   exact⟨_,_,rfl,by simp -implicitDefEqProofs only[go_sem,reduceCtorEq]⟩
  ·obtain rfl:i=0:=by omega
   have d2:(Int.ofNat 0==1)=false:=rfl
   simp -implicitDefEqProofs only[go_sem,CZ,Du,DT,Eh,DU,Ei,DV,Ej,DW,Ek,DX,El,G9,FL,f0,g13,g14,d0,hb,hcv,hcl,e2,d1,d2,Ae]
   exact⟨_,_,rfl,by simp -implicitDefEqProofs only[go_sem,reduceCtorEq]⟩
end
section
open Go Go.Eng
attribute [local congr] Ac Aj Ai Ad Ah
attribute [-go_sem] List.range_succ
theorem ER{t:ByteArray}{i:Nat}(hi:i<t.size)(h:byteAt t i<128):Utf8.decode t i=(byteAt t i,1):=by
 have e:(t.get! (i+0)).toNat=byteAt t i:=by
  unfold byteAt
  rw[Nat.add_zero,getElem!_pos t i hi]
  obtain⟨a⟩:=t
  show (a[i]!).toNat=_
  rw[getElem!_pos a i hi]
  rfl
 unfold Utf8.decode
 simp only[e]
 rw[if_pos (by omega)]
theorem WT{t:ByteArray}(h:plainB t=true):PlainText t:=fun pos hp=>by
 have:=List.all_eq_true.1 h pos (List.mem_range.2 hp)
 unfold plainC at this
 simp only[Bool.and_eq_true,decide_eq_true_eq] at this
 exact⟨byteAt t pos,ER hp (by omega),this.1,this.2⟩
theorem JG(m:Nat){k z:Int}{t:ByteArray}{l:Nat}(h:pieceE k z t l=0):∃k':Nat,k=(k':Int)∧Good (m+21) k' z t l:=by
 unfold pieceE at h
 split at h
 ·rename_i hk
  split at h
  ·cases h
  ·rename_i hf
   rw[Bool.not_eq_true] at hf
   have hk':k=0∨k=1∨k=2∨k=3∨k=4∨k=5∨k=6:=by omega
   unfold formB at hf
   rcases hk' with rfl|rfl|rfl|rfl|rfl|rfl|rfl
   ·simp at hf
    obtain⟨⟨rfl,ht⟩,rfl⟩:=hf
    obtain rfl:t=⟨#[]⟩:=ht.trans rfl
    exact⟨0,rfl,.nil⟩
   ·simp at hf h
    obtain⟨ht,rfl⟩:=hf
    obtain rfl:t=⟨#[]⟩:=ht.trans rfl
    exact⟨1,rfl,.bool z h⟩
   ·simp at hf h
    obtain⟨ht,rfl⟩:=hf
    obtain rfl:t=⟨#[]⟩:=ht.trans rfl
    exact⟨2,rfl,.num z h⟩
   ·simp at hf h
    obtain⟨rfl,rfl⟩:=hf
    exact⟨3,rfl,.sym t fun σ' hw=>⟨_,σ',Af6 m t h σ',Ext.refl _,hw,rfl⟩⟩
   ·simp at hf h
    obtain⟨rfl,rfl⟩:=hf
    unfold textE at h
    split at h
    ·cases h
    ·split at h
     ·rename_i h1 h2
      exact⟨4,rfl,.str t (by omega) fun σ' hw=>Lf (m+20) t (WT h2) (by omega) σ' hw⟩
     ·cases h
   ·simp at hf
    obtain⟨⟨rfl,ht⟩,rfl⟩:=hf
    obtain rfl:t=⟨#[]⟩:=ht.trans rfl
    exact⟨5,rfl,.pair⟩
   ·simp at hf
    obtain⟨rfl,ht⟩:=hf
    obtain rfl:t=⟨#[]⟩:=ht.trans rfl
    exact⟨6,rfl,.vec l⟩
 ·cases h
mutual
theorem Aui(m:Nat):∀(d:D) (path:List Nat),firstE d=0→d.count≤900→∀x∈d.pieces path,x.2.parts.length≤900∧GoodD (m+21) x.2
 | .mk k z t ds,path,h,hc=>fun x hx=>by
  rw[firstE] at h
  rw[D.count] at hc
  have hl:=CJ ds
  split at h
  ·rename_i hp
   rw[D.pieces] at hx
   rcases List.mem_cons.1 hx with rfl|hx
   ·refine⟨by show ds.length≤900;omega,fun k' z' t' ds' e=>?_⟩
    cases e
    exact JG m hp
   ·exact Anq m ds path 0 h (by omega) x hx
  ·omega
theorem Anq(m:Nat):∀(ds:List D) (path:List Nat) (i:Nat),firstEs ds=0→D.counts ds≤900→∀x∈D.piecesL path i ds,x.2.parts.length≤900∧GoodD (m+21) x.2
 | [],path,i,_,_=>fun x hx=>by simp[D.piecesL] at hx
 | d::ds,path,i,h,hc=>fun x hx=>by
  rw[firstEs] at h
  rw[D.counts] at hc
  rw[D.piecesL] at hx
  split at h
  ·rename_i hp
   rcases List.mem_append.1 hx with hx|hx
   ·exact Aui m d _ hp (by omega) x hx
   ·exact Anq m ds path (i+1) h (by omega) x hx
  ·omega
end
theorem It(m:Nat){d:D}(h:firstE d=0)(hc:d.count<900):Apart (m+21) d:=⟨fun path=>Aui m d path h (by omega),hc,by have:=Cw d;omega⟩
end
section
open Go Go.Eng
attribute [local congr] Ac Aj Ai Ad Ah
attribute [-go_sem] List.range_succ
theorem HF{t:ByteArray}{i:Nat}(h:okAt t i=true):symC (byteAt t i)=true∧(digC (byteAt t i)=true→1<i∨(i=1∧byteAt t 0≠45)):=by
 unfold okAt at h
 simp only[Bool.and_eq_true,Bool.or_eq_true,Bool.not_eq_true',decide_eq_true_eq,beq_eq_false_iff_ne,ne_eq] at h
 refine⟨h.1,fun hd=>?_⟩
 rcases h.2 with(h2|h2)|h2
 ·rw[hd] at h2;cases h2
 ·exact .inl h2
 ·exact .inr h2
theorem Af5(n:Nat)(t:ByteArray)(hsz:t.size≤20)(keep:List Nat)(hk:13∈keep∧14∈keep)(σ:FState):∀(j fuel i:Nat) (f g:Nat→Value),t.size-i=j→j<fuel→i≤t.size→f 0=.string t→g 13=.int .i64 (.ofNat t.size)→g 14=.int .i64 (.ofNat i)→
  ∃f' g',((∀k,i≤k→k<t.size→okAt t k=true)∧floop keep (DB (env (n+20)) none 170) fuel (Sl 4 38 f g []) none σ=.done (.exit 0) (Sl 4 38 f' g' []) none σ)∨
   ((∃k,i≤k∧k<t.size∧okAt t k=false)∧floop keep (DB (env (n+20)) none 170) fuel (Sl 4 38 f g []) none σ=.done .ret (Sl 4 38 f' g' []) none σ∧f' 2=.bool false):=by
 intro j
 induction j with
 | zero=>
  intro fuel i f g hj hf hi f0 g13 g14
  obtain⟨fuel,rfl⟩:∃q,fuel=q+1:=⟨fuel-1,by omega⟩
  obtain rfl:i=t.size:=by omega
  have d0:decide (Int.ofNat t.size<Int.ofNat t.size)=false:=by simp
  rw[Am]
  have k13:kept keep g 13=.int .i64 (.ofNat t.size):=by rw[DD,if_pos hk.1,g13]
  have k14:kept keep g 14=.int .i64 (.ofNat t.size):=by rw[DD,if_pos hk.2,g14]
  have h:∃f' g',DB (env (n+20)) none 170 (Sl 4 38 f (kept keep g) []) none σ=.done (.exit 0) (Sl 4 38 f' g' []) none σ:=by
   generalize kept keep g=g1 at *
   unfold DB
   simp -implicitDefEqProofs only[go_sem,CZ,Du,f0,k13,k14,d0]
   exact⟨_,_,rfl⟩
  obtain⟨f',g',e⟩:=h
  refine⟨f',g',.inl ⟨fun k h1 h2=>by omega,?_⟩⟩
  simp -implicitDefEqProofs only[Bk,e,C0]
 | succ j ih=>
  intro fuel i f g hj hf hi f0 g13 g14
  obtain⟨fuel,rfl⟩:∃q,fuel=q+1:=⟨fuel-1,by omega⟩
  have hlt:i<t.size:=by omega
  rw[Am]
  have k13:kept keep g 13=.int .i64 (.ofNat t.size):=by rw[DD,if_pos hk.1,g13]
  have k14:kept keep g 14=.int .i64 (.ofNat i):=by rw[DD,if_pos hk.2,g14]
  cases hok:okAt t i with
  | true=>
   obtain⟨f1,g1,h0,h13,e,h14⟩:=Aah n i (byteAt t i) t f (kept keep g) σ hlt (by omega) rfl (HF hok).1 (HF hok).2 f0 k13 k14
   obtain⟨f2,g2,h⟩:=ih fuel (i+1) f1 g1 (by omega) (by omega) (by omega) h0 h13 h14
   refine⟨f2,g2,?_⟩
   simp -implicitDefEqProofs only[Bk,e,BC]
   rcases h with⟨h4,h5⟩|⟨⟨k,h4,h5,h6⟩,h7,h8⟩
   ·refine .inl ⟨fun k h1 h2=>?_,h5⟩
    by_cases hk:k=i
    ·subst hk;exact hok
    ·exact h4 k (by omega) h2
   ·exact .inr ⟨⟨k,by omega,h5,h6⟩,h7,h8⟩
  | false=>
   obtain⟨f1,g1,e,h2⟩:=Apj n i (byteAt t i) t f (kept keep g) σ hlt (by omega) rfl hok f0 k13 k14
   refine⟨f1,g1,.inr ⟨⟨i,Nat.le_refl _,hlt,hok⟩,?_,h2⟩⟩
   simp -implicitDefEqProofs only[Bk,e,CD]
theorem Aq0(t:ByteArray):symB t=(decide (1≤t.size)&&decide (t.size≤20)&&(List.range t.size).all (okAt t)):=by
 by_cases h1:1≤t.size
 ·by_cases h2:t.size≤20
  ·unfold symB
   rw[decide_eq_true h1,decide_eq_true h2,Bool.true_and,Bool.true_and,Bool.eq_iff_iff]
   simp only[Bool.and_eq_true,Bool.not_eq_true',List.all_eq_true,List.mem_range,true_and]
   constructor
   ·rintro⟨⟨h3,h4⟩,h5⟩ i hi
    unfold okAt
    rw[h5 i hi,Bool.true_and]
    by_cases hd:digC (byteAt t i)=true
    ·rw[hd]
     by_cases hi0:i=0
     ·subst hi0;rw[h3] at hd;cases hd
     ·by_cases hi1:i=1
      ·subst hi1
       have h45:byteAt t 0≠45:=fun h45=>by
        rw[hd,h45] at h4
        simp[hi] at h4
       simp[h45]
      ·simp;omega
    ·rw[Bool.not_eq_true] at hd
     rw[hd]
     rfl
   ·intro h
    refine⟨⟨?_,?_⟩,fun i hi=>(HF (h i hi)).1⟩
    ·rw[←Bool.not_eq_true]
     intro hd
     rcases (HF (h 0 h1)).2 hd with h6|h6
     ·omega
     ·omega
    ·rw[←Bool.not_eq_true]
     intro hh
     simp only[Bool.and_eq_true,beq_iff_eq,decide_eq_true_eq] at hh
     rcases (HF (h 1 hh.1.2)).2 hh.2 with h6|h6
     ·omega
     ·exact h6.2 hh.1.1
  ·unfold symB
   rw[decide_eq_false h2,Bool.and_false]
   rfl
 ·unfold symB
  rw[decide_eq_false h1]
  rfl
theorem Acg(n:Nat)(t:ByteArray)(σ:FState):(env (n+21)).call 170 [.string t] none σ=.ret (.bool (symB t)) none σ:=by
 rw[Aq0,Ag _ 170 _ _ rfl,TJ _ _ _ _ (by simp),Af]
 unfold SV
 by_cases h1:1≤t.size
 ·have d0:(Int.ofNat t.size==0)=false:=by rw[beq_eq_false_iff_ne];simp only[Int.ofNat_eq_natCast,ne_eq];omega
  rw[decide_eq_true h1,Bool.true_and]
  by_cases h2:t.size≤20
  ·have d1:decide (Int.ofNat t.size>20)=false:=by simp;omega
   rw[decide_eq_true h2,Bool.true_and]
   have hkeep:∃keep,keepOf nls 170=keep∧13∈keep∧14∈keep:=⟨_,rfl,by decide,by decide⟩
   obtain⟨keep,hkp,hk⟩:=hkeep
   simp -implicitDefEqProofs only[go_sem,Gt,Gs,Gv,Gu,ON,Ku,d0,d1,Ae,hkp]
   generalize hff:upd _ 2 _=f1
   generalize hgg:upd _ 14 _=g1
   obtain⟨f',g',h⟩:=Af5 n t h2 keep hk σ t.size bigFuel 0 f1 g1 (by omega) (by show t.size<1000000000000;omega) (by omega) (by rw[←hff];simp -implicitDefEqProofs only[go_sem,reduceCtorEq]) (by rw[←hgg];simp -implicitDefEqProofs only[go_sem,reduceCtorEq]) (by rw[←hgg];simp -implicitDefEqProofs only[go_sem,reduceCtorEq]<;>rfl)
   rcases h with⟨h3,h4⟩|⟨⟨k,h3,h4,h5⟩,h6,h7⟩
   ·have e:(List.range t.size).all (okAt t)=true:=List.all_eq_true.2 fun k hk=>h3 k (Nat.zero_le _) (List.mem_range.1 hk)
    rw[h4,e]
    simp -implicitDefEqProofs only[go_sem,LJ,H4]
   ·have e:(List.range t.size).all (okAt t)=false:=by
     rw[←Bool.not_eq_true,List.all_eq_true]
     intro h
     have:=h k (List.mem_range.2 h4)
     rw[h5] at this
     cases this
    rw[h6,e]
    simp -implicitDefEqProofs only[go_sem,h7]
  ·have d1:decide (Int.ofNat t.size>20)=true:=by simp;omega
   rw[decide_eq_false h2,Bool.false_and]
   simp -implicitDefEqProofs only[go_sem,Gt,Gs,Gv,Gu,OM,Kt,d0,d1]
 ·have d0:(Int.ofNat t.size==0)=true:=by rw[beq_iff_eq];simp only[Int.ofNat_eq_natCast];omega
  rw[decide_eq_false h1,Bool.false_and,Bool.false_and]
  simp -implicitDefEqProofs only[go_sem,Gt,Gs,Gv,Gu,OM,Kt,d0]
end
section
open Go Go.Eng
attribute [local congr] Ac Aj Ai Ad Ah
attribute [-go_sem] List.range_succ
theorem Af2{t:ByteArray}{i:Nat}(hi:i<t.size):(t.get! (i+0)).toNat=byteAt t i:=by
 unfold byteAt
 rw[Nat.add_zero,getElem!_pos t i hi]
 obtain⟨a⟩:=t
 show (a[i]!).toNat=_
 rw[getElem!_pos a i hi]
 rfl
theorem Tw{t:ByteArray}{i:Nat}(hi:i<t.size)(h:128≤byteAt t i):126<(Utf8.decode t i).1:=by
 unfold Utf8.decode
 simp only[Af2 hi]
 rw[if_neg (by omega)]
 split
 ·split
  ·simp only;omega
  ·show 126<Utf8.runeError;decide
 ·split
  ·split
   ·rename_i hh
    simp only[Bool.and_eq_true,decide_eq_true_eq] at hh
    simp only
    omega
   ·show 126<Utf8.runeError;decide
  ·split
   ·split
    ·rename_i hh
     simp only[Bool.and_eq_true,decide_eq_true_eq] at hh
     simp only
     omega
    ·show 126<Utf8.runeError;decide
   ·show 126<Utf8.runeError;decide
theorem Nz(n r:Nat)(s:ByteArray)(hs:∃k,k<s.size∧plainC (byteAt s k)=false)(σ0:FState)(hr:σ0.next≤r):∀(m pos fuel:Nat) (f g:Nat→Value) (σ:FState),pos+m=s.size→m<fuel→(∀k,k<pos→plainC (byteAt s k)=true)→g 6=.pointer (some ⟨r,0,none⟩)→Wf σ→Ext σ0 σ→
  (∃ver,σ.heap.get r=some ⟨.siter s pos,false,none,ver⟩)→
  ∃f' g' σ',floop [6] (Fz (env n) none 171) fuel (Sl 5 16 f g []) none σ=.done .ret (Sl 5 16 f' g' []) none σ'∧Wf σ'∧Ext σ0 σ'∧f' 2=.bool false:=by
 intro m
 induction m with
 | zero=>
  intro pos fuel f g σ hp hf hpl h6 hw hX ⟨ver,hg⟩
  obtain⟨k,hk,hk2⟩:=hs
  rw[hpl k (by omega)] at hk2
  cases hk2
 | succ m ih=>
  intro pos fuel f g σ hp hf hpl h6 hw hX ⟨ver,hg⟩
  obtain⟨fuel,rfl⟩:∃q,fuel=q+1:=⟨fuel-1,by omega⟩
  have hlt:pos<s.size:=by omega
  cases hc:plainC (byteAt s pos) with
  | true=>
   have hc':=hc
   unfold plainC at hc'
   simp only[Bool.and_eq_true,decide_eq_true_eq] at hc'
   have hd:=ER hlt (by omega)
   have hn:=G0 hg hlt hd
   generalize hcc:byteAt s pos=c at *
   have d1:decide ((c:Int)<32)=false:=by simp;omega
   have d2:decide ((c:Int)>126)=false:=by simp;omega
   rw[Am]
   unfold Fz
   simp -implicitDefEqProofs only[go_sem,EH,Fb,Gx,Gw,Gz,Gy,h6,hn,List.mem_cons,List.not_mem_nil,F9,J0,d1,d2]
   refine ih (pos+1) fuel _ _ _ (by omega) (by omega) (fun k hk=>?_) ?_ (hw.put _ _ _ (hw _ _ hg).1) (hX.put _ _ _ hr) ⟨_,by rw[An,if_pos rfl]⟩
   ·by_cases hkp:k=pos
    ·subst hkp;rw[hcc];exact hc
    ·exact hpl k (by omega)
   ·simp -implicitDefEqProofs only[go_sem,reduceCtorEq,h6,List.mem_cons,List.not_mem_nil,true_or]
  | false=>
   obtain⟨c,w,hd⟩:∃c w,Utf8.decode s pos=(c,w):=⟨_,_,rfl⟩
   have hn:=G0 hg hlt hd
   have bad:c<32∨126<c:=by
    by_cases hb:byteAt s pos<128
    ·rw[ER hlt hb] at hd
     cases hd
     unfold plainC at hc
     rw[Bool.and_eq_false_iff,decide_eq_false_iff_not,decide_eq_false_iff_not] at hc
     omega
    ·have:=Tw hlt (by omega)
     rw[hd] at this
     exact .inr this
   have hfin:∃f' g',floop [6] (Fz (env n) none 171) (fuel+1) (Sl 5 16 f g []) none σ=.done .ret (Sl 5 16 f' g' []) none (σ.put r (.siter s (pos+w)) none)∧f' 2=.bool false:=by
    rw[Am]
    unfold Fz
    by_cases h1:c<32
    ·have d1:decide ((c:Int)<32)=true:=by simp;omega
     simp -implicitDefEqProofs only[go_sem,EH,Fb,Gx,Gw,Gz,Gy,OQ,Kx,h6,hn,List.mem_cons,List.not_mem_nil,F9,J0,d1]
     exact⟨_,_,rfl,by simp -implicitDefEqProofs only[go_sem,reduceCtorEq]⟩
    ·have d1:decide ((c:Int)<32)=false:=by simp;omega
     have d2:decide ((c:Int)>126)=true:=by simp;omega
     simp -implicitDefEqProofs only[go_sem,EH,Fb,Gx,Gw,Gz,Gy,OQ,Kx,h6,hn,List.mem_cons,List.not_mem_nil,F9,J0,d1,d2]
     exact⟨_,_,rfl,by simp -implicitDefEqProofs only[go_sem,reduceCtorEq]⟩
   obtain⟨f',g',h1,h2⟩:=hfin
   exact⟨f',g',_,h1,hw.put _ _ _ (hw _ _ hg).1,hX.put _ _ _ hr,h2⟩
theorem UD(n:Nat)(s:ByteArray)(hs:plainB s=false)(hsz:s.size<1000000)(σ:FState)(hw:Wf σ):Gives ((env (n+1)).call 171 [.string s] none σ) σ fun w _=>w=.bool false:=by
 have hs':∃k,k<s.size∧plainC (byteAt s k)=false:=by
  unfold plainB at hs
  rw[List.all_eq_false] at hs
  obtain⟨k,h1,h2⟩:=hs
  exact⟨k,List.mem_range.1 h1,by simpa using h2⟩
 rw[Ag _ 171 _ _ rfl,TK _ _ _ _ (by simp),Af]
 unfold SW
 have hfr:frangeS (.string s) σ=.val (.pointer (some ⟨σ.next,0,none⟩)) (σ.push (.siter s 0) none):=rfl
 simp -implicitDefEqProofs only[go_sem,OO,Kv,OP,Kw,hfr,Aai]
 generalize hf:upd (fun _=>_) 2 _=f1
 generalize hbf:bigFuel=fuel
 obtain⟨f',g',σ',e,hw',hX',h2⟩:=Nz n σ.next s hs' σ (Nat.le_refl _) s.size 0 fuel f1 (upd (upd (fun _=>undef) 5 (.string s)) 6 (.pointer (some ⟨σ.next,0,none⟩))) (σ.push (.siter s 0) none) (by omega) (by rw[←hbf];show s.size<1000000000000;omega) (fun k hk=>by omega) (by simp -implicitDefEqProofs only[go_sem,reduceCtorEq]) (hw.push _ _) ((Ext.refl _).push _ _) ⟨_,by rw[Ak,if_pos rfl]⟩
 rw[e]
 simp -implicitDefEqProofs only[go_sem,h2]
 exact⟨_,_,rfl,hX',hw',rfl⟩
end
section
open Go Go.Eng
attribute [local congr] Ac Aj Ai Ad Ah
attribute [-go_sem] List.range_succ
theorem B8(id:Nat)(ch:List PanicEntry)(a:FAct)(u:Option FrameMode)(σ:FState):blockK id (.done (.panic ch) a u σ)=.done (.panic ch) a u σ:=rfl
section
variable {kk n l bw bo bp base:Nat} {R:Nat→Prop} {g:Value} {I:List (List Nat×D)→(Nat→Prop)→FState→Prop} {all done:List (List Nat×D)} {B:Nat→Prop} {u:Value} {us:List Value} {ds:List D} {i:Nat} {d:D} {r:List (List D×Nat)} {f:Nat→Value} {σ:FState}
def PanAt(E:Env)(l:Nat)(R:Nat→Prop)(I:List (List Nat×D)→(Nat→Prop)→FState→Prop)(J:(Nat→Prop)→FState→Prop)(pre:List (List Nat×D))(path:List Nat)(d:D)(ch:List PanicEntry):Prop:=
 ∀B σ pv v,Wf σ→I pre B σ→PathAt σ pv path→LaidR R σ v d→∃B' σ',E.round l [pv,v] σ=.pan ch none σ'∧Wf σ'∧Chg B σ σ'∧(∀b,B' b→B b∨σ.next≤b)∧J B' σ'
theorem AeA{J:(Nat→Prop)→FState→Prop}{ch:List PanicEntry}(hB:BodyTo kk (env n) l R g I all)(hst:PanAt (env n) l R I J done (wayOf r++[i]) d ch)(h:WHead l R g I all bw bo bp base B (u::us) ((ds,i)::r) done f σ)(hd:ds[i]? = some d)(hr:r.length<90000)(gg:Nat→Value):
  ∃f' g' σ' B',Dg (env n) none 149 (Sl 8 80 f gg []) none σ=.done (.panic ch) (Sl 8 80 f' g' []) none σ'∧Chg (fun b=>B b∨base≤b) σ σ'∧(∀b,B' b→B b∨base≤b)∧Wf σ'∧J B' σ':=by
 obtain⟨p,c,mo,mp,rfl,hE,hl,h4,co,ho,h5,cp,hp⟩:=h.top
 have hv:=BQ h.wf (Nat.le_refl σ.clock)
 have d0:decide (Int.ofNat (r.length+1)>0)=true:=by simp
 have w1:=AqV r.length (by omega)
 have lt1:r.length<r.length+1:=Nat.lt_succ_self _
 have hi:i<ds.length:=(List.getElem?_eq_some_iff.1 hd).1
 have ne1:(Int.ofNat i==Int.ofNat ds.length)=false:=by simp;omega
 obtain⟨b,off,cs,rfl,hRb,hcs,hle,hL⟩:=LaidRE.get hE hd
 rw[Nat.zero_add] at hle hL
 obtain⟨k,z,t,q,c',hag,hq⟩:=LaidR.shape hL
 have htk:(cs.drop (off+i*4)).take 4=[.int .i64 k,.int .i64 z,.string t,.slice q d.parts.length c']:=by
  have:=congrArg (fun v=>match v with|.agg a=>a.toList|_=>[]) hag
  simpa using this
 rw[htk] at hL
 have hall:=h.all
 rw[CN r hd] at hall
 unfold Dg
 simp -implicitDefEqProofs only[go_sem,EB,E6,Gi,Gh,Gk,Gj,h4,h5,d0,w1,lt1,hv,co,cp,ho,hp,ne1]
 generalize hg:upd _ 33 _=g1
 clear hg
 have f4:upd f 6 (Value.int IntKind.i64 (Int.ofNat (r.length+1))) 4=f 4:=by simp -implicitDefEqProofs only[go_sem,reduceCtorEq]
 have f5:upd f 6 (Value.int IntKind.i64 (Int.ofNat (r.length+1))) 5=f 5:=by simp -implicitDefEqProofs only[go_sem,reduceCtorEq]
 have f0:upd f 6 (Value.int IntKind.i64 (Int.ofNat (r.length+1))) 0=f 0:=by simp -implicitDefEqProofs only[go_sem,reduceCtorEq]
 have f2:upd f 6 (Value.int IntKind.i64 (Int.ofNat (r.length+1))) 2=f 2:=by simp -implicitDefEqProofs only[go_sem,reduceCtorEq]
 have f6:upd f 6 (Value.int IntKind.i64 (Int.ofNat (r.length+1))) 6=Value.int IntKind.i64 (Int.ofNat (r.length+1)):=by simp -implicitDefEqProofs only[go_sem,reduceCtorEq]
 generalize upd f 6 _=f1 at f4 f5 f0 f2 f6 ⊢
 simp -implicitDefEqProofs only[go_sem,Aw,IX,HU,f4,f5,f6,h4,h5,w1,lt1,hv,co,cp,ho,hp,hi,hcs,hle,htk]
 generalize hg:upd _ 62 _=g2
 clear hg
 have p0:upd f1 7 (Value.pointer (some ⟨σ.next,0,none⟩)) 0=f 0:=by simp -implicitDefEqProofs only[go_sem,reduceCtorEq,f0]
 have p2:upd f1 7 (Value.pointer (some ⟨σ.next,0,none⟩)) 2=f 2:=by simp -implicitDefEqProofs only[go_sem,reduceCtorEq,f2]
 have p4:upd f1 7 (Value.pointer (some ⟨σ.next,0,none⟩)) 4=f 4:=by simp -implicitDefEqProofs only[go_sem,reduceCtorEq,f4]
 have p5:upd f1 7 (Value.pointer (some ⟨σ.next,0,none⟩)) 5=f 5:=by simp -implicitDefEqProofs only[go_sem,reduceCtorEq,f5]
 have p6:upd f1 7 (Value.pointer (some ⟨σ.next,0,none⟩)) 6=Value.int IntKind.i64 (Int.ofNat (r.length+1)):=by simp -implicitDefEqProofs only[go_sem,reduceCtorEq,f6]
 have p7:upd f1 7 (Value.pointer (some ⟨σ.next,0,none⟩)) 7=Value.pointer (some ⟨σ.next,0,none⟩):=by simp -implicitDefEqProofs only[go_sem,reduceCtorEq]
 generalize upd f1 7 _=f2' at p0 p2 p4 p5 p6 p7 ⊢
 have x1:Ext σ ((σ.push (.cells [.int .i64 0,.int .i64 0,.string ⟨#[]⟩,.slice none 0 0] TD) none).put σ.next (.cells [.int .i64 k,.int .i64 z,.string t,.slice q d.parts.length c'] TD) none):=((Ext.refl _).push _ _).put _ _ _ (Nat.le_refl _)
 have hw1:=(h.wf.push (.cells [.int .i64 0,.int .i64 0,.string ⟨#[]⟩,.slice none 0 0] TD) none).put σ.next (.cells [.int .i64 k,.int .i64 z,.string t,.slice q d.parts.length c'] TD) none (Nat.lt_succ_self _)
 have b1:((σ.push (.cells [.int .i64 0,.int .i64 0,.string ⟨#[]⟩,.slice none 0 0] TD) none).put σ.next (.cells [.int .i64 k,.int .i64 z,.string t,.slice q d.parts.length c'] TD) none).cells σ.next=some [.int .i64 k,.int .i64 z,.string t,.slice q d.parts.length c']:=by rw[Ar,if_pos rfl];rfl
 have hcl:((σ.push (.cells [.int .i64 0,.int .i64 0,.string ⟨#[]⟩,.slice none 0 0] TD) none).put σ.next (.cells [.int .i64 k,.int .i64 z,.string t,.slice q d.parts.length c'] TD) none).clock=σ.clock+2:=rfl
 have hnx:((σ.push (.cells [.int .i64 0,.int .i64 0,.string ⟨#[]⟩,.slice none 0 0] TD) none).put σ.next (.cells [.int .i64 k,.int .i64 z,.string t,.slice q d.parts.length c'] TD) none).next=σ.next+1:=rfl
 generalize FState.put _ _ _ _=σ1 at x1 hw1 b1 hcl hnx ⊢
 have hv1:=BQ hw1 (Nat.le_of_eq hcl)
 have hlp:r.length+1≤(List.map (fun i=>Value.int IntKind.i64 (Int.ofNat i)) (wayOf r)++Value.int IntKind.i64 (Int.ofNat i)::mp).length:=by simp[BB]
 have sl3:=K5 Tryz.prog 25 TI 1 bp 0 (r.length+1) _ (r.length+1) (view σ1 (σ.clock+2)) FS Ik hlp
 have i1:I done B σ1:=hB.stays _ _ _ _ h.inv h.wf (x1.chg _)
 have hbpn:=h.pth.lt h.wf
 have hP:PathAt σ1 (.slice (some ⟨bp,0,none⟩) (r.length+1) (r.length+1)) (wayOf r++[i]):=⟨some ⟨bp,0,none⟩,r.length+1,by simp[BB],.inr ⟨bp,mp,rfl,by rw[x1.cells hbpn,cp];simp⟩⟩
 have kR:∀b cs,R b→σ.cells b=some cs→σ1.cells b=some cs∧R b:=fun b cs hb hc=>⟨(x1.cells (h.wf.cells hc)).trans hc,hb⟩
 obtain⟨B',σ2,e2,hw2,ch2,hB',j2⟩:=hst B σ1 _ _ hw1 i1 hP (hL.keep kR)
 simp -implicitDefEqProofs only[go_sem,G7,FJ,p0,p5,p6,p7,h.f0,h5,hv1,b1,sl3,Cj,Cs,e2,AW,Aq]
 have hbase:=h.base
 have n1:=x1.next
 exact⟨_,_,σ2,B',rfl,(x1.chg _).trans (ch2.weaken fun b _ hb=>.inl hb) (fun b _ hb=>hb),fun b hb=>(hB' b hb).imp id fun h'=>by omega,hw2,j2⟩
theorem NH{J:(Nat→Prop)→FState→Prop}{ch:List PanicEntry}{pre rest:List (List Nat×D)}{path:List Nat}(hB:BodyTo pre.length (env n) l R g I all)(hst:PanAt (env n) l R I J pre path d ch)(hS:Small all)(hsplit:all=pre++(path,d)::rest):∀(m fuel:Nat) (st:List (List D×Nat)) (us:List Value) (done:List (List Nat×D)) (B:Nat→Prop) (bo bp:Nat) (f gg:Nat→Value) (σ:FState),
  2*(todo st).length+st.length≤m→m<fuel→st.length≤80000→done.length≤pre.length→WHead l R g I all bw bo bp base B us st done f σ→
  ∃f' g' σ' B',floop [] (Dg (env n) none 149) fuel (Sl 8 80 f gg []) none σ=.done (.panic ch) (Sl 8 80 f' g' []) none σ'∧Chg (fun b=>B b∨base≤b) σ σ'∧(∀b,B' b→B b∨base≤b)∧Wf σ'∧J B' σ':=by
 intro m
 induction m with
 | zero=>
  intro fuel st us done B bo bp f gg σ hm hf hst' hdl h
  obtain rfl:st=[]:=by cases st with|nil=>rfl|cons _ _=>simp at hm
  have hall:=h.all
  rw[show todo ([]:List (List D×Nat))=[] from rfl,List.append_nil,hsplit] at hall
  have:=congrArg List.length hall
  simp at this
  omega
 | succ m ih=>
  intro fuel st us done B bo bp f gg σ hm hf hst' hdl h
  obtain⟨fuel,rfl⟩:∃q,fuel=q+1:=⟨fuel-1,by omega⟩
  cases st with
  | nil=>exact ih (fuel+1) [] us done B bo bp f gg σ (by simp[todo]) (by omega) hst' hdl h
  | cons x r=>
   obtain⟨ds,i⟩:=x
   cases us with
   | nil=>exact absurd h.lev (fun h=>h)
   | cons u us=>
    have hi:i≤ds.length:=h.lev.2.1
    have hr:r.length+1≤80000:=hst'
    rw[Am,Bk]
    by_cases he:i=ds.length
    ·subst he
     obtain⟨f',g',σ',e,hC,hH⟩:=MU hB h (by omega) (kept [] gg)
     rw[e,BC]
     rw[Im,EP] at hm
     have hlb:(bump r).length=r.length:=by cases r<;>rfl
     obtain⟨f2,g2,σ2,B2,e2,hC2,hB2,hw2,hJ2⟩:=ih fuel _ _ _ _ _ _ f' g' σ' (by simp at hm;omega) (by omega) (by omega) hdl hH
     exact⟨f2,g2,σ2,B2,e2,(hC.weaken fun b _ hb=>.inr hb.1).trans hC2 (fun b _ hb=>hb),hB2,hw2,hJ2⟩
    ·have hlt:i<ds.length:=by omega
     have hd:ds[i]? = some ds[i]:=List.getElem?_eq_getElem hlt
     have hall:=h.all
     rw[CN r hd] at hall
     have hx:=hS (wayOf r++[i],ds[i]) (by rw[hall];simp)
     by_cases hk:done.length<pre.length
     ·obtain⟨f',g',σ',B',bo',bp',u',e,hC,hBB,hH⟩:=MT hB hk h hd (by omega) hx.2 (kept [] gg)
      rw[e,BC]
      rw[CN r hd] at hm
      have hl:(wayOf r++[i]).length=r.length+1:=by simp[BB]
      have hx1:=hx.1
      simp only[hl] at hx1
      obtain⟨f2,g2,σ2,B2,e2,hC2,hB2,hw2,hJ2⟩:=ih fuel _ _ _ _ _ _ f' g' σ' (by simp at hm ⊢;omega) (by omega) (by simp;omega) (by simp;omega) hH
      refine⟨f2,g2,σ2,B2,e2,hC.trans hC2 fun b _ hb=>?_,fun b hb=>?_,hw2,hJ2⟩
      ·rcases hb with hb|hb
       ·exact hBB b hb
       ·exact .inr hb
      ·rcases hB2 b hb with hb|hb
       ·exact hBB b hb
       ·exact .inr hb
     ·have hle:done.length=pre.length:=by omega
      rw[hsplit] at hall
      obtain⟨h1,h2⟩:=List.append_inj hall hle.symm
      obtain⟨h3,h4⟩:=List.cons.inj h2
      obtain⟨h5,h6⟩:=Prod.mk.inj h3
      subst h1
      rw[h5] at hst
      have hst2:PanAt (env n) l R I J pre (wayOf r++[i]) ds[i] ch:=by rw[←h6];exact hst
      obtain⟨f',g',σ',B',e,hC,hBB,hw',hJ⟩:=AeA hB hst2 h hd (by omega) (kept [] gg)
      rw[e,Aq]
      exact⟨f',g',σ',B',rfl,hC,hBB,hw',hJ⟩
theorem ZY(d:D){J:(Nat→Prop)→FState→Prop}{ch:List PanicEntry}{pre rest:List (List Nat×D)}{path:List Nat}{x:D}(hB:BodyTo pre.length (env n) l R g I (d.pieces []))(hst:PanAt (env n) l R I J pre path x ch)(hsplit:d.pieces []=pre++(path,x)::rest)(hS:Small (d.pieces []))(hN:(d.pieces []).length<100000000000)(b1 b2:Nat)(σ:FState)(v:Value)(lv:List Value)(B:Nat→Prop)(hw:Wf σ)(hi:I [] B σ)(hcv:σ.cells b1=some lv)(hv:v=.agg lv.toArray)(hb1:¬ B b1)(hL:LaidR R σ v d)(hR:∀b,R b→b<σ.next)(hcw:σ.cells b2=some [g])(hb2:¬ B b2):
  ∃σ' B',(env (n+1)).call 149 [.func (.yield l) #[] #[],.pointer (some ⟨b1,0,none⟩),.pointer (some ⟨b2,0,none⟩)] none σ=.pan ch none σ'∧Chg B σ σ'∧(∀b,B' b→B b∨σ.next≤b)∧Wf σ'∧J B' σ':=by
 subst hv
 obtain⟨k,z,t,q,c',hag,hq⟩:=LaidR.shape hL
 have hlv:lv=[.int .i64 k,.int .i64 z,.string t,.slice q d.parts.length c']:=by
  have:=congrArg (fun v=>match v with|.agg a=>a.toList|_=>[]) hag
  simpa using this
 subst hlv
 have hpc:=D.pieces_eq [] d
 by_cases hpre:pre=[]
 ·subst hpre
  rw[hpc] at hsplit
  obtain⟨h3,h4⟩:=List.cons.inj hsplit
  obtain⟨h5,h6⟩:=Prod.mk.inj h3
  subst h5
  subst h6
  obtain⟨B',σ1,e1,hw1,ch1,hB1,j1⟩:=hst B σ (.slice none 0 0) _ hw hi ⟨none,0,rfl,.inl ⟨rfl,rfl,rfl⟩⟩ hL
  rw[Ag _ 149 _ _ rfl,Fs _ _ _ _ (by simp),Af]
  unfold Hd
  have tk:List.take 4 [Value.int .i64 k,.int .i64 z,.string t,.slice q d.parts.length c']=[.int .i64 k,.int .i64 z,.string t,.slice q d.parts.length c']:=rfl
  simp -implicitDefEqProofs only[go_sem,EA,E5,hcv,Cj,Cs,e1,AW,Aq,Av,AK]
  exact⟨_,_,rfl,ch1,hB1,hw1,j1⟩
 have hpos:0<pre.length:=List.length_pos_iff.2 hpre
 obtain⟨B',σ1,e1,hw1,ch1,hB1,i1⟩:=hB.go [] [] d _ B σ (.slice none 0 0) _ hpos (by rw[hpc];rfl) hw hi ⟨none,0,rfl,.inl ⟨rfl,rfl,rfl⟩⟩ hL
 have ownB:=hB.own _ _ _ hi
 have ownB1:=hB.own _ _ _ i1
 have hb1n:=hw.cells hcv
 have hb2n:=hw.cells hcw
 have n1:=ch1.next
 have cv1:σ1.cells b1=some [.int .i64 k,.int .i64 z,.string t,.slice q d.parts.length c']:=(ch1.cells hb1n hb1).trans hcv
 have cw1:σ1.cells b2=some [g]:=(ch1.cells hb2n hb2).trans hcw
 obtain⟨_,σ2,e2,x2,hw2,rfl⟩:=hB.inside _ B' σ1 k z t q d.parts.length c' i1 hw1
 have n2:=x2.next
 have x3:Ext σ2 ((σ2.push (.cells [.slice q d.parts.length c'] TL) none).push (.cells [.int .i64 0] TI) none):=((Ext.refl _).push _ _).push _ _
 have hw3:=(hw2.push (.cells [.slice q d.parts.length c'] TL) none).push (.cells [.int .i64 0] TI) none
 have hlow:∀b,B' b→B b∨σ.next≤b:=hB1
 have nB:∀b,b<σ.next→¬ B b→¬ B' b:=fun b hb h1 h2=>by
  rcases hB1 b h2 with h3|h3
  ·exact h1 h3
  ·omega
 have c03:∀b,b<σ.next→¬ B b→((σ2.push (.cells [.slice q d.parts.length c'] TL) none).push (.cells [.int .i64 0] TI) none).heap.get b=σ.heap.get b:=fun b hb h0=>
  (x3.get b (by omega)).trans ((x2.get b (by omega)).trans (ch1.get b hb h0))
 have kR:∀b cs,R b→σ.cells b=some cs→((σ2.push (.cells [.slice q d.parts.length c'] TL) none).push (.cells [.int .i64 0] TI) none).cells b=some cs:=fun b cs hb hc=>by
  rw[Ap,c03 b (hR b hb) (fun hB0=>(ownB b hB0).2 hb),←Ap]
  exact hc
 rw[Ag _ 149 _ _ rfl,Fs _ _ _ _ (by simp),Af]
 unfold Hd
 have tk:List.take 4 [Value.int .i64 k,.int .i64 z,.string t,.slice q d.parts.length c']=[.int .i64 k,.int .i64 z,.string t,.slice q d.parts.length c']:=rfl
 simp -implicitDefEqProofs only[go_sem,EA,E5,IV,HS,IW,HT,hcv,Cj,Cs,e1,cw1,cv1,e2,Af8,DF]
 generalize hff:upd _ 5 _=f1
 generalize hgg:upd _ 16 _=g1
 generalize hbf:bigFuel=fuel
 have hH:WHead l R g I (d.pieces []) b2 σ2.next (σ2.next+1) σ.next B' [.slice q d.parts.length c'] [(d.parts,0)] ([]++[([],d)]) f1 ((σ2.push (.cells [.slice q d.parts.length c'] TL) none).push (.cells [.int .i64 0] TI) none):={
  f0:=by rw[←hff];simp -implicitDefEqProofs only[go_sem,reduceCtorEq]
  f2:=by rw[←hff];simp -implicitDefEqProofs only[go_sem,reduceCtorEq]
  cw:=by rw[Ap,c03 b2 hb2n hb2,←Ap];exact hcw
  hbw:=⟨hb2n,nB b2 hb2n hb2⟩
  opn:=⟨_,none,σ2.clock,by rw[←hff];simp -implicitDefEqProofs only[go_sem,reduceCtorEq]<;>rfl,by rw[Ak,if_neg (by rw[Aa];omega),Ak,if_pos rfl];rfl,.inl rfl,[],rfl⟩
  hbo:=⟨by omega,fun h=>by have:=(ownB1 _ h).1;omega⟩
  lev:=⟨⟨q,c',rfl,hq.keep fun b cs hb hc=>⟨kR b cs hb hc,hb⟩⟩,Nat.zero_le _,(hS ([],d) (by rw[hpc];exact List.mem_cons_self)).2,trivial⟩
  low:=hR
  pth:=⟨_,none,σ2.clock+1,by rw[←hff];simp -implicitDefEqProofs only[go_sem,reduceCtorEq]<;>rfl,by rw[Ak,if_pos (by rw[Aa])];rfl,.inl rfl,[],rfl⟩
  hbp:=⟨by omega,fun h=>by have:=(ownB1 _ h).1;omega⟩
  ne:=by omega
  inv:=hB.stays _ _ _ _ i1 hw1 (by
   have:=x2.clock
   have:=x3.clock
   have:=x3.next
   exact⟨by omega,by omega,fun b hb _=>(x3.get b (by omega)).trans (x2.get b hb)⟩)
  all:=by rw[hpc];show _=[]++[([],d)]++(D.piecesL [] 0 (d.parts.drop 0)++[]);simp
  wf:=hw3
  base:=by rw[Aa,Aa];omega }
 obtain⟨f2,g2,σ4,B4,e4,ch4,hB4,hw4,i4⟩:=NH hB hst hS hsplit _ fuel _ _ _ _ _ _ f1 g1 _ (Nat.le_refl _) (by
  rw[←hbf]
  show _<1000000000000
  have h1:(todo [(d.parts,0)]).length=(D.piecesL [] 0 d.parts).length:=by simp[todo,below,wayOf]
  have h2:=congrArg List.length hpc
  rw[List.length_cons] at h2
  rw[h1,List.length_singleton]
  omega) (by simp) (by simp;omega) hH
 rw[e4]
 simp -implicitDefEqProofs only[go_sem,B8,Aq,Av,AK]
 refine⟨_,B4,rfl,⟨?_,?_,?_⟩,?_,hw4,i4⟩
 ·have:=x3.next;have:=ch4.next;omega
 ·have:=ch1.clock;have:=x2.clock;have:=x3.clock;have:=ch4.clock;omega
 ·intro b hb h0
  have:=x3.next
  rw[ch4.get b (by omega) (fun h=>by
   rcases h with h|h
   ·exact nB b hb h0 h
   ·omega)]
  exact c03 b hb h0
 ·intro b hb
  rcases hB4 b hb with h|h
  ·exact hB1 b h
  ·exact .inr h
end
end
section
open Go Go.Eng
attribute [local congr] Ac Aj Ai Ad Ah
attribute [-go_sem] List.range_succ
theorem Nv(l:Nat)(mark:List Deferred)(nl nt:Nat)(f g:Nat→Value)(ds:List Deferred)(u:Option FrameMode)(ch:List PanicEntry)(u':Option FrameMode)(σ:FState):
  leaveLoop l mark (Sl nl nt f g ds) u (.pan ch u' σ)=.done (.panic ch) (Sl nl nt f g (mark++ds)) u σ:=rfl
theorem Pq(l:Nat)(ch:List PanicEntry)(nl nt:Nat)(f g:Nat→Value)(u:Option FrameMode)(σ:FState):endRound true l (.done (.panic ch) (Sl nl nt f g []) u σ)=.pan ch none σ:=rfl
theorem MQ{J:(Nat→Prop)→FState→Prop}{ch:List PanicEntry}{pre rest:List (List Nat×D)}{path:List Nat}{x:D}(m:Nat)(fn:FuncId)(params:List Tmp)(assign body:Code)(nl nt:Nat)(f g:Nat→Value)(ds:List Deferred)(u:Option FrameMode)(t b1 b2:Nat)(σ:FState)(w:Value)(R:Nat→Prop)(d:D)(lv:List Value)(I:List (List Nat×D)→(Nat→Prop)→FState→Prop)(B:Nat→Prop)(hB:BodyTo pre.length (env m) (σ.next+1) R w I (d.pieces []))(hst:PanAt (env m) (σ.next+1) R I J pre path x ch)(hsplit:d.pieces []=pre++(path,x)::rest)(hS:Small (d.pieces []))(hN:(d.pieces []).length<100000000000)(hi:I [] B ((σ.push (.defd true) none).push (.loop .ready none fn ((List.range nl).map f) g nl nt params assign body σ.next) none))(ht:(Sl nl nt f g ds).get t=.func (.func 149) #[] #[.pointer (some ⟨b1,0,none⟩),.pointer (some ⟨b2,0,none⟩)])(hw:Wf σ)(hcv:σ.cells b1=some lv)(hb1:¬ B b1)(hL:LaidR R σ (.agg lv.toArray) d)(hR:∀b,R b→b<σ.next)(hcw:σ.cells b2=some [w])(hb2:¬ B b2):
  ∃σ' B',frange (env (m+1)) none fn (.tmp t) params assign body (Sl nl nt f g ds) u σ=
    .done (.panic ch) (Sl nl nt f g ({ target:=.collected σ.next,args:=#[] }::ds)) u σ'∧
   Chg B σ σ'∧σ.next+2≤σ'.next∧(∀b,B' b→B b∨σ.next≤b)∧Wf σ'∧J B' σ':=by
 rw[IH _ _ _ _ _ _ _ _ _ _ _ _ t _ _ _ ht]
 have x1:Ext σ ((σ.push (.defd true) none).push (.loop .ready none fn ((List.range nl).map f) g nl nt params assign body σ.next) none):=((Ext.refl _).push _ _).push _ _
 have hw1:=(hw.push (.defd true) none).push (.loop .ready none fn ((List.range nl).map f) g nl nt params assign body σ.next) none
 have hn1:((σ.push (.defd true) none).push (.loop .ready none fn ((List.range nl).map f) g nl nt params assign body σ.next) none).next=σ.next+2:=rfl
 generalize FState.push _ (.loop .ready none fn ((List.range nl).map f) g nl nt params assign body σ.next) none=σ1 at hi x1 hw1 hn1 ⊢
 have hb1n:=hw.cells hcv
 have hb2n:=hw.cells hcw
 obtain⟨σ2,B2,e2,ch2,hB2,hw2,i2⟩:=ZY d hB hst hsplit hS hN b1 b2 σ1 _ lv B hw1 hi ((x1.cells hb1n).trans hcv) rfl hb1 (hL.keep fun b cs hb hc=>⟨(x1.cells (hw.cells hc)).trans hc,hb⟩) (fun b hb=>by have:=hR b hb;omega) ((x1.cells hb2n).trans hcw) hb2
 have hargs:(#[]:Array Value).toList++[Value.func (.yield (σ.next+1)) #[] #[]]++(#[.pointer (some ⟨b1,0,none⟩),.pointer (some ⟨b2,0,none⟩)]:Array Value).toList=[.func (.yield (σ.next+1)) #[] #[],.pointer (some ⟨b1,0,none⟩),.pointer (some ⟨b2,0,none⟩)]:=rfl
 rw[hargs,e2,Nv]
 have n2:=ch2.next
 refine⟨σ2,B2,rfl,⟨by omega,Nat.le_trans x1.clock ch2.clock,fun b hb h0=>(ch2.get b (by omega) h0).trans (x1.get b hb)⟩,by omega,fun b hb=>?_,hw2,i2⟩
 rcases hB2 b hb with h|h
 ·exact .inl h
 ·exact .inr (by omega)
end
section
open Go Go.Eng
attribute [local congr] Ac Aj Ai Ad Ah
attribute [-go_sem] List.range_succ
theorem Apy(n:Nat)(k z:Int)(t:ByteArray)(l:Nat)(p:Option Addr)(c:Nat)(σ:FState)(hw:Wf σ)(h:z≠0∨t.size≠0∨l≠0):
  Gives ((env (n+1)).call 233 [.agg #[.int .i64 k,.int .i64 z,.string t,.slice p l c]] none σ) σ fun w _=>w=.bool false:=by
 rw[Ag _ 233 _ _ rfl,TO _ _ _ _ (by simp),Af]
 unfold SZ
 by_cases hz:z=0
 ·have z1:(z==0)=true:=by simpa using hz
  by_cases ht:t.size=0
  ·have t1:(t.toList==(⟨#[]⟩:ByteArray).toList)=true:=by rw[Ck ht];exact beq_self_eq_true _
   by_cases hl:l=0
   ·have l1:(Int.ofNat l==0)=true:=by rw[hl];rfl
    exfalso
    omega
   ·have l1:(Int.ofNat l==0)=false:=by rw[beq_eq_false_iff_ne];simp only[Int.ofNat_eq_natCast,ne_eq];omega
    simp -implicitDefEqProofs only[go_sem,GB,GA,GD,GC,z1,t1,l1]
    exact⟨_,_,rfl,(Ext.refl _).push _ _,hw.push _ _,rfl⟩
  ·have t1:=CV ht
   simp -implicitDefEqProofs only[go_sem,GB,GA,GD,GC,z1,t1]
   exact⟨_,_,rfl,(Ext.refl _).push _ _,hw.push _ _,rfl⟩
 ·have z1:(z==0)=false:=by simpa using hz
  simp -implicitDefEqProofs only[go_sem,GB,GA,GD,GC,z1]
  exact⟨_,_,rfl,(Ext.refl _).push _ _,hw.push _ _,rfl⟩
theorem UC(n:Nat)(k z:Int)(t:ByteArray)(l:Nat)(p:Option Addr)(c:Nat)(σ:FState)(hw:Wf σ)(h:t.size≠0∨l≠0):
  Gives ((env (n+1)).call 231 [.agg #[.int .i64 k,.int .i64 z,.string t,.slice p l c]] none σ) σ fun w _=>w=.bool false:=by
 rw[Ag _ 231 _ _ rfl,TN _ _ _ _ (by simp),Af]
 unfold SY
 by_cases ht:t.size=0
 ·have t1:(t.toList==(⟨#[]⟩:ByteArray).toList)=true:=by rw[Ck ht];exact beq_self_eq_true _
  by_cases hl:l=0
  ·have l1:(Int.ofNat l==0)=true:=by rw[hl];rfl
   exfalso
   omega
  ·have l1:(Int.ofNat l==0)=false:=by rw[beq_eq_false_iff_ne];simp only[Int.ofNat_eq_natCast,ne_eq];omega
   simp -implicitDefEqProofs only[go_sem,I7,H7,I8,H8,t1,l1]
   exact⟨_,_,rfl,(Ext.refl _).push _ _,hw.push _ _,rfl⟩
 ·have t1:=CV ht
  simp -implicitDefEqProofs only[go_sem,I7,H7,I8,H8,t1]
  exact⟨_,_,rfl,(Ext.refl _).push _ _,hw.push _ _,rfl⟩
theorem Agl(n:Nat)(k z:Int)(t:ByteArray)(l:Nat)(p:Option Addr)(c:Nat)(σ:FState)(hw:Wf σ)(h:z≠0∨l≠0):
  Gives ((env (n+1)).call 225 [.agg #[.int .i64 k,.int .i64 z,.string t,.slice p l c]] none σ) σ fun w _=>w=.bool false:=by
 rw[Ag _ 225 _ _ rfl,TM _ _ _ _ (by simp),Af]
 unfold SX
 by_cases hz:z=0
 ·have z1:(z==0)=true:=by simpa using hz
  by_cases hl:l=0
  ·have l1:(Int.ofNat l==0)=true:=by rw[hl];rfl
   exfalso
   omega
  ·have l1:(Int.ofNat l==0)=false:=by rw[beq_eq_false_iff_ne];simp only[Int.ofNat_eq_natCast,ne_eq];omega
   simp -implicitDefEqProofs only[go_sem,I5,H5,I6,H6,z1,l1]
   exact⟨_,_,rfl,(Ext.refl _).push _ _,hw.push _ _,rfl⟩
 ·have z1:(z==0)=false:=by simpa using hz
  simp -implicitDefEqProofs only[go_sem,I5,H5,I6,H6,z1]
  exact⟨_,_,rfl,(Ext.refl _).push _ _,hw.push _ _,rfl⟩
theorem UB(n:Nat)(k z:Int)(t:ByteArray)(l:Nat)(p:Option Addr)(c:Nat)(σ:FState)(hw:Wf σ)(h:z≠0∨t.size≠0∨(k≠6∧l≠2)):
  Gives ((env (n+1)).call 235 [.agg #[.int .i64 k,.int .i64 z,.string t,.slice p l c]] none σ) σ fun w _=>w=.bool false:=by
 rw[Ag _ 235 _ _ rfl,KW _ _ _ _ (by simp),Af]
 unfold MX
 by_cases hz:z=0
 ·have z1:(z==0)=true:=by simpa using hz
  by_cases ht:t.size=0
  ·have t1:(t.toList==(⟨#[]⟩:ByteArray).toList)=true:=by rw[Ck ht];exact beq_self_eq_true _
   by_cases hb:k≠6∧l≠2
   ·have b1:(k==6)=false:=by rw[beq_eq_false_iff_ne];exact hb.1
    have b2:(Int.ofNat l==2)=false:=by rw[beq_eq_false_iff_ne];simp only[Int.ofNat_eq_natCast,ne_eq];omega
    simp -implicitDefEqProofs only[go_sem,EI,Fc,EJ,Fd,z1,t1,b1,b2]
    exact⟨_,_,rfl,(Ext.refl _).push _ _,hw.push _ _,rfl⟩
   ·exfalso
    omega
  ·have t1:=CV ht
   simp -implicitDefEqProofs only[go_sem,EI,Fc,EJ,Fd,z1,t1]
   exact⟨_,_,rfl,(Ext.refl _).push _ _,hw.push _ _,rfl⟩
 ·have z1:(z==0)=false:=by simpa using hz
  simp -implicitDefEqProofs only[go_sem,EI,Fc,EJ,Fd,z1]
  exact⟨_,_,rfl,(Ext.refl _).push _ _,hw.push _ _,rfl⟩
theorem Tg(n:Nat)(k z:Int)(t:ByteArray)(l:Nat)(p:Option Addr)(c:Nat)(σ:FState)(hw:Wf σ)(h:¬ (0≤k∧k≤6)):
  Fails ((env (n+3)).call 127 [.agg #[.int .i64 k,.int .i64 z,.string t,.slice p l c]] none σ) σ 4 0:=by
 rw[Ag _ 127 _ _ rfl,TC _ _ _ _ (by simp),Af]
 unfold SQ
 have e0:(k==0)=false:=by rw[beq_eq_false_iff_ne];omega
 have e1:(k==1)=false:=by rw[beq_eq_false_iff_ne];omega
 have e2:(k==2)=false:=by rw[beq_eq_false_iff_ne];omega
 have e3:(k==3)=false:=by rw[beq_eq_false_iff_ne];omega
 have e4:(k==4)=false:=by rw[beq_eq_false_iff_ne];omega
 have e5:(k==5)=false:=by rw[beq_eq_false_iff_ne];omega
 have e6:(k==6)=false:=by rw[beq_eq_false_iff_ne];omega
 have hf:=fun τ=>Fl n 4 τ
 simp -implicitDefEqProofs only[go_sem,CW,Dr,CX,Ds,CY,Dt,Dk,DI,DO,Ec,Ez,E4,Gg,Gf,G6,FI,LA,HJ,W_,LC,e0,e1,e2,e3,e4,e5,e6,hf,Ae,AW,Aq,Av,AK]
 exact⟨_,rfl,(Ext.refl _).push _ _,hw.push _ _⟩
theorem II(n:Nat)(z:Int)(t:ByteArray)(q:Value)(hq:oneCell q=true)(σ:FState)(hw:Wf σ)(h:¬ (0≤z∧z≤1)):
  Fails ((env (n+3)).call 151 [.agg #[.int .i64 1,.int .i64 z,.string t,q]] none σ) σ 13 0:=by
 rw[Ag _ 151 _ _ rfl,KU _ _ _ _ (by simp),Af]
 unfold MV
 have hf:=fun τ=>Fl n 13 τ
 by_cases h1:z<0
 ·have d1:decide (z<0)=true:=by simp;omega
  simp -implicitDefEqProofs only[go_sem,Int.reduceBEq,DP,Ed,DQ,Ee,DR,Ef,EC,E7,DS,Eg,Gm,Gl,hq,d1,hf,Ae,AW,Aq,Av,AK]
  exact⟨_,rfl,(Ext.refl _).push _ _,hw.push _ _⟩
 ·have d1:decide (z<0)=false:=by simp;omega
  have d2:decide (z>1)=true:=by simp;omega
  simp -implicitDefEqProofs only[go_sem,Int.reduceBEq,DP,Ed,DQ,Ee,DR,Ef,EC,E7,DS,Eg,Gm,Gl,hq,d1,d2,hf,Ae,AW,Aq,Av,AK]
  exact⟨_,rfl,(Ext.refl _).push _ _,hw.push _ _⟩
theorem IJ(n:Nat)(z:Int)(t:ByteArray)(q:Value)(hq:oneCell q=true)(σ:FState)(hw:Wf σ)(h:¬ ((-999999999)≤z∧z≤999999999)):
  Fails ((env (n+3)).call 151 [.agg #[.int .i64 2,.int .i64 z,.string t,q]] none σ) σ 13 0:=by
 rw[Ag _ 151 _ _ rfl,KU _ _ _ _ (by simp),Af]
 unfold MV
 have hf:=fun τ=>Fl n 13 τ
 by_cases h1:z<(-999999999)
 ·have d1:decide (z<(-999999999))=true:=by simp;omega
  simp -implicitDefEqProofs only[go_sem,Int.reduceBEq,DP,Ed,DQ,Ee,DR,Ef,EC,E7,DS,Eg,Gm,Gl,hq,d1,hf,Ae,AW,Aq,Av,AK]
  exact⟨_,rfl,(Ext.refl _).push _ _,hw.push _ _⟩
 ·have d1:decide (z<(-999999999))=false:=by simp;omega
  have d2:decide (z>999999999)=true:=by simp;omega
  simp -implicitDefEqProofs only[go_sem,Int.reduceBEq,DP,Ed,DQ,Ee,DR,Ef,EC,E7,DS,Eg,Gm,Gl,hq,d1,d2,hf,Ae,AW,Aq,Av,AK]
  exact⟨_,rfl,(Ext.refl _).push _ _,hw.push _ _⟩
theorem JQ(n:Nat)(z:Int)(t:ByteArray)(q:Value)(hq:oneCell q=true)(σ:FState)(hw:Wf σ)(h:symB t=false):
  Fails ((env (n+22)).call 152 [.agg #[.int .i64 3,.int .i64 z,.string t,q]] none σ) σ 2 0:=by
 rw[Ag _ 152 _ _ rfl,KV _ _ _ _ (by simp),Af]
 unfold MW
 have hf:=fun τ=>Fl (n+19) 2 τ
 have hy:=fun τ=>Acg n t τ
 rw[h] at hy
 simp -implicitDefEqProofs only[go_sem,Int.reduceBEq,ED,E8,EE,E9,IY,HV,EF,E_,IZ,HW,EG,Fa,I0,HX,hq,hy,Bool.not_false,hf,Ae,AW,Aq,B8,Av,AK]
 exact⟨_,rfl,(Ext.refl _).push _ _,hw.push _ _⟩
theorem JP(n:Nat)(z:Int)(t:ByteArray)(q:Value)(hq:oneCell q=true)(σ:FState)(hw:Wf σ)(h:textE t≠0):
  Fails ((env (n+22)).call 152 [.agg #[.int .i64 4,.int .i64 z,.string t,q]] none σ) σ (textE t:Nat) 0:=by
 rw[Ag _ 152 _ _ rfl,KV _ _ _ _ (by simp),Af]
 unfold MW
 have x1:Ext σ (σ.push (.cells [.int .i64 4,.int .i64 z,.string t,q] 151) none):=(Ext.refl _).push _ _
 have hw1:=hw.push (.cells [.int .i64 4,.int .i64 z,.string t,q] 151) none
 by_cases h1:60<t.size
 ·have e:textE t=8:=by unfold textE;rw[if_pos h1]
  have d1:decide (Int.ofNat t.size>60)=true:=by simp;omega
  have hf:=fun τ=>Fl (n+19) 8 τ
  simp -implicitDefEqProofs only[go_sem,Int.reduceBEq,ED,E8,EE,E9,IY,HV,EF,E_,IZ,HW,EG,Fa,I0,HX,hq,d1,hf,Ae,AW,Aq,B8,Av,AK]
  exact⟨_,by rw[e];rfl,x1,hw1⟩
 ·have hp:plainB t=false:=by
   rw[←Bool.not_eq_true]
   intro hp
   apply h
   unfold textE
   rw[if_neg h1,if_pos hp]
  have e:textE t=13:=by unfold textE;rw[if_neg h1,hp];rfl
  have d1:decide (Int.ofNat t.size>60)=false:=by simp;omega
  have hf:=fun τ=>Fl (n+19) 13 τ
  obtain⟨_,σ2,e2,x2,hw2,rfl⟩:=UD (n+20) t hp (by omega) _ hw1
  simp -implicitDefEqProofs only[go_sem,Int.reduceBEq,ED,E8,EE,E9,IY,HV,EF,E_,IZ,HW,EG,Fa,I0,HX,hq,d1,e2,Bool.not_false,hf,Ae,AW,Aq,B8,Av,AK]
  exact⟨_,by rw[e];rfl,x1.trans x2,hw2⟩
end
section
open Go Go.Eng
attribute [local congr] Ac Aj Ai Ad Ah
attribute [-go_sem] List.range_succ
theorem PY{k z:Int}{t:ByteArray}{l:Nat}(h:pieceE k z t l≠0):(¬ (0≤k∧k≤6)∧pieceE k z t l=4)∨
  (0≤k∧k≤6∧formB k z t l=true∧pieceE k z t l=1)∨
  (formB k z t l=false∧((k=1∧¬ (0≤z∧z≤1)∧pieceE k z t l=13)∨(k=2∧¬ (-999999999≤z∧z≤999999999)∧pieceE k z t l=13)∨(k=3∧symB t=false∧pieceE k z t l=2)∨(k=4∧textE t≠0∧pieceE k z t l=textE t))):=by
 unfold pieceE at h ⊢
 by_cases hk:0≤k∧k≤6
 ·rw[if_pos hk] at h ⊢
  cases hf:formB k z t l with
  | true=>exact .inr (.inl ⟨hk.1,hk.2,rfl,by rw[if_pos rfl]⟩)
  | false=>
   refine .inr (.inr ⟨rfl,?_⟩)
   rw[hf,if_neg (by decide)] at h
   rw[if_neg (by decide)]
   by_cases h1:k=1
   ·rw[if_pos h1] at h ⊢
    split at h
    ·exact absurd rfl h
    ·rename_i hr
     rw[if_neg hr]
     exact .inl ⟨h1,hr,rfl⟩
   ·rw[if_neg h1] at h ⊢
    by_cases h2:k=2
    ·rw[if_pos h2] at h ⊢
     split at h
     ·exact absurd rfl h
     ·rename_i hr
      rw[if_neg hr]
      exact .inr (.inl ⟨h2,hr,rfl⟩)
    ·rw[if_neg h2] at h ⊢
     by_cases h3:k=3
     ·rw[if_pos h3] at h ⊢
      split at h
      ·exact absurd rfl h
      ·rename_i hr
       rw[if_neg hr]
       exact .inr (.inr (.inl ⟨h3,by simpa using hr,rfl⟩))
     ·rw[if_neg h3] at h ⊢
      by_cases h4:k=4
      ·rw[if_pos h4] at h ⊢
       exact .inr (.inr (.inr ⟨h4,h,rfl⟩))
      ·rw[if_neg h4] at h
       exact absurd rfl h
 ·rw[if_neg hk]
  exact .inl ⟨hk,rfl⟩
theorem Apd{k z:Int}{t:ByteArray}{l:Nat}(h:formB k z t l=true):((k≠1∧k≠2)∧z≠0)∨((k≠3∧k≠4)∧t.size≠0)∨((k≠5∧k≠6)∧l≠0)∨(k=5∧l≠2):=by
 unfold formB at h
 simp only[Bool.or_eq_true,Bool.and_eq_true,Bool.not_eq_true',Bool.or_eq_false_iff,beq_eq_false_iff_ne,bne_iff_ne,decide_eq_true_eq,beq_iff_eq,ne_eq] at h
 omega
theorem AfX{k z:Int}{t:ByteArray}{l:Nat}(h:formB k z t l=false):((k=1∨k=2)∨z=0)∧((k=3∨k=4)∨t.size=0)∧((k=5∨k=6)∨l=0):=by
 unfold formB at h
 simp only[Bool.or_eq_false_iff,Bool.and_eq_false_iff,Bool.not_eq_false',Bool.or_eq_true,beq_iff_eq,bne_eq_false_iff_eq,decide_eq_false_iff_not,ne_eq,Decidable.not_not] at h
 omega
theorem PH(n:Nat)(k z:Int)(t:ByteArray)(l:Nat)(p:Option Addr)(c:Nat)(σ:FState)(hw:Wf σ)(h:pieceE k z t l≠0):
  Fails ((env (n+24)).call 122 [.agg #[.int .i64 k,.int .i64 z,.string t,.slice p l c]] none σ) σ (pieceE k z t l:Nat) 0:=by
 have hX1:=(Ext.refl σ).push (.cells [.int .i64 k,.int .i64 z,.string t,.slice p l c] 24) none
 have hw1:=hw.push (.cells [.int .i64 k,.int .i64 z,.string t,.slice p l c] 24) none
 rw[Ag _ 122 _ _ rfl,TB _ _ _ _ (by simp),Af]
 unfold SP
 rcases PY h with⟨hk,he⟩|⟨hk1,hk2,hf,he⟩|⟨hf,hc⟩
 ·obtain⟨σ2,e2,hX2,hw2⟩:=Tg (n+20) k z t l p c _ hw1 hk
  simp -implicitDefEqProofs only[go_sem,BO,Ca,BP,Cb,e2,AW,Aq,Av,AK]
  exact⟨_,by rw[he];rfl,hX1.trans hX2,hw2⟩
 ·have hfa:=Apd hf
  have hfl:=fun τ=>Fl (n+21) 1 τ
  obtain⟨k,rfl⟩:∃k':Nat,k=(k':Int):=⟨k.toNat,by omega⟩
  obtain⟨_,σ2,e2,hX2,hw2,rfl⟩:=Da (n+22) k (by omega) z t (.slice p l c) rfl _ hw1
  have hX:=hX1.trans hX2
  obtain rfl|rfl|rfl|rfl|rfl|rfl|rfl:k=0∨k=1∨k=2∨k=3∨k=4∨k=5∨k=6:=by omega
  ·obtain⟨_,σ3,e3,hX3,hw3,rfl⟩:=Apy (n+22) ((0:Nat):Int) z t l p c σ2 hw2 (by omega)
   have wt:workType 0=187:=rfl
   simp -implicitDefEqProofs only[go_sem,BO,Ca,BP,Cb,BT,Cc,Di,DG,e2,wt,Um,e3,Bool.not_false,hfl,AW,Aq,Av,AK]
   exact⟨_,by rw[he];rfl,hX.trans hX3,hw3⟩
  ·obtain⟨_,σ3,e3,hX3,hw3,rfl⟩:=UC (n+22) ((1:Nat):Int) z t l p c σ2 hw2 (by omega)
   have wt:workType 1=184:=rfl
   simp -implicitDefEqProofs only[go_sem,BO,Ca,BP,Cb,BT,Cc,Di,DG,e2,wt,DM,e3,Bool.not_false,hfl,AW,Aq,Av,AK]
   exact⟨_,by rw[he];rfl,hX.trans hX3,hw3⟩
  ·obtain⟨_,σ3,e3,hX3,hw3,rfl⟩:=UC (n+22) ((2:Nat):Int) z t l p c σ2 hw2 (by omega)
   have wt:workType 2=184:=rfl
   simp -implicitDefEqProofs only[go_sem,BO,Ca,BP,Cb,BT,Cc,Di,DG,e2,wt,DM,e3,Bool.not_false,hfl,AW,Aq,Av,AK]
   exact⟨_,by rw[he];rfl,hX.trans hX3,hw3⟩
  ·obtain⟨_,σ3,e3,hX3,hw3,rfl⟩:=Agl (n+22) ((3:Nat):Int) z t l p c σ2 hw2 (by omega)
   have wt:workType 3=151:=rfl
   simp -implicitDefEqProofs only[go_sem,BO,Ca,BP,Cb,BT,Cc,Di,DG,e2,wt,F0,e3,Bool.not_false,hfl,AW,Aq,Av,AK]
   exact⟨_,by rw[he];rfl,hX.trans hX3,hw3⟩
  ·obtain⟨_,σ3,e3,hX3,hw3,rfl⟩:=Agl (n+22) ((4:Nat):Int) z t l p c σ2 hw2 (by omega)
   have wt:workType 4=151:=rfl
   simp -implicitDefEqProofs only[go_sem,BO,Ca,BP,Cb,BT,Cc,Di,DG,e2,wt,F0,e3,Bool.not_false,hfl,AW,Aq,Av,AK]
   exact⟨_,by rw[he];rfl,hX.trans hX3,hw3⟩
  ·obtain⟨_,σ3,e3,hX3,hw3,rfl⟩:=UB (n+22) ((5:Nat):Int) z t l p c σ2 hw2 (by omega)
   have wt:workType 5=188:=rfl
   simp -implicitDefEqProofs only[go_sem,BO,Ca,BP,Cb,BT,Cc,Di,DG,e2,wt,FZ,e3,Bool.not_false,hfl,AW,Aq,Av,AK]
   exact⟨_,by rw[he];rfl,hX.trans hX3,hw3⟩
  ·obtain⟨_,σ3,e3,hX3,hw3,rfl⟩:=UB (n+22) ((6:Nat):Int) z t l p c σ2 hw2 (by omega)
   have wt:workType 6=188:=rfl
   simp -implicitDefEqProofs only[go_sem,BO,Ca,BP,Cb,BT,Cc,Di,DG,e2,wt,FZ,e3,Bool.not_false,hfl,AW,Aq,Av,AK]
   exact⟨_,by rw[he];rfl,hX.trans hX3,hw3⟩
 ·have hfn:=AfX hf
  rcases hc with⟨rfl,hr,he⟩|⟨rfl,hr,he⟩|⟨rfl,hr,he⟩|⟨rfl,hr,he⟩
  ·obtain⟨_,σ2,e2,hX2,hw2,rfl⟩:=Da (n+22) 1 (by omega) z t (.slice p l c) rfl _ hw1
   have hX:=hX1.trans hX2
   obtain rfl:l=0:=by omega
   obtain rfl:t=⟨#[]⟩:=Ck (by omega)
   obtain⟨_,σ3,e3,hX3,hw3,rfl⟩:=Dq (n+22) ((1:Nat):Int) z p c σ2 hw2
   obtain⟨σ5,e5,hX5,hw5⟩:=II (n+20) z ⟨#[]⟩ (.slice p 0 c) rfl ((σ3.push (.cells [.int .i64 0,.int .i64 0,.string ⟨#[]⟩,.slice none 0 0] 184) none).put σ3.next (.cells [.int .i64 ((1:Nat):Int),.int .i64 z,.string ⟨#[]⟩,.slice p 0 c] 184) none) ((hw3.push _ _).put _ _ _ (Nat.lt_succ_self _)) hr
   have hX4:=(((hX.trans hX3).push (.cells [.int .i64 0,.int .i64 0,.string ⟨#[]⟩,.slice none 0 0] 184) none).put σ3.next (.cells [.int .i64 ((1:Nat):Int),.int .i64 z,.string ⟨#[]⟩,.slice p 0 c] 184) none (hX.trans hX3).next).trans hX5
   have wt:workType 1=184:=rfl
   have e5':(env (n+23)).call 151 [.agg #[.int .i64 ((1:Nat):Int),.int .i64 z,.string ⟨#[]⟩,.slice p 0 c]] none _=_:=e5
   have e2':(env (n+23)).call 127 [.agg #[.int .i64 1,.int .i64 z,.string ⟨#[]⟩,.slice p 0 c]] none _=_:=e2
   simp -implicitDefEqProofs only[go_sem,Aw,BO,Ca,BP,Cb,BT,Cc,Cp,CL,Cq,CM,Ga,F_,Gc,Gb,e2',wt,DM,e3,Hj,e5',Bool.not_true,AW,Aq,B8,Av,AK,Ae]
   exact⟨_,by rw[he]<;>rfl,hX4,hw5⟩
  ·obtain⟨_,σ2,e2,hX2,hw2,rfl⟩:=Da (n+22) 2 (by omega) z t (.slice p l c) rfl _ hw1
   have hX:=hX1.trans hX2
   obtain rfl:l=0:=by omega
   obtain rfl:t=⟨#[]⟩:=Ck (by omega)
   obtain⟨_,σ3,e3,hX3,hw3,rfl⟩:=Dq (n+22) ((2:Nat):Int) z p c σ2 hw2
   obtain⟨σ5,e5,hX5,hw5⟩:=IJ (n+20) z ⟨#[]⟩ (.slice p 0 c) rfl ((σ3.push (.cells [.int .i64 0,.int .i64 0,.string ⟨#[]⟩,.slice none 0 0] 184) none).put σ3.next (.cells [.int .i64 ((2:Nat):Int),.int .i64 z,.string ⟨#[]⟩,.slice p 0 c] 184) none) ((hw3.push _ _).put _ _ _ (Nat.lt_succ_self _)) hr
   have hX4:=(((hX.trans hX3).push (.cells [.int .i64 0,.int .i64 0,.string ⟨#[]⟩,.slice none 0 0] 184) none).put σ3.next (.cells [.int .i64 ((2:Nat):Int),.int .i64 z,.string ⟨#[]⟩,.slice p 0 c] 184) none (hX.trans hX3).next).trans hX5
   have wt:workType 2=184:=rfl
   have e5':(env (n+23)).call 151 [.agg #[.int .i64 ((2:Nat):Int),.int .i64 z,.string ⟨#[]⟩,.slice p 0 c]] none _=_:=e5
   have e2':(env (n+23)).call 127 [.agg #[.int .i64 2,.int .i64 z,.string ⟨#[]⟩,.slice p 0 c]] none _=_:=e2
   simp -implicitDefEqProofs only[go_sem,Aw,BO,Ca,BP,Cb,BT,Cc,Cp,CL,Cq,CM,Ga,F_,Gc,Gb,e2',wt,DM,e3,Hj,e5',Bool.not_true,AW,Aq,B8,Av,AK,Ae]
   exact⟨_,by rw[he]<;>rfl,hX4,hw5⟩
  ·obtain⟨_,σ2,e2,hX2,hw2,rfl⟩:=Da (n+22) 3 (by omega) z t (.slice p l c) rfl _ hw1
   have hX:=hX1.trans hX2
   obtain rfl:l=0:=by omega
   obtain rfl:z=0:=by omega
   obtain⟨_,σ3,e3,hX3,hw3,rfl⟩:=D8 (n+22) ((3:Nat):Int) t p c σ2 hw2
   obtain⟨σ5,e5,hX5,hw5⟩:=JQ (n+1) 0 t (.slice p 0 c) rfl ((σ3.push (.cells [.int .i64 0,.int .i64 0,.string ⟨#[]⟩,.slice none 0 0] 151) none).put σ3.next (.cells [.int .i64 ((3:Nat):Int),.int .i64 0,.string t,.slice p 0 c] 151) none) ((hw3.push _ _).put _ _ _ (Nat.lt_succ_self _)) hr
   have hX4:=(((hX.trans hX3).push (.cells [.int .i64 0,.int .i64 0,.string ⟨#[]⟩,.slice none 0 0] 151) none).put σ3.next (.cells [.int .i64 ((3:Nat):Int),.int .i64 0,.string t,.slice p 0 c] 151) none (hX.trans hX3).next).trans hX5
   have wt:workType 3=151:=rfl
   have e5':(env (n+23)).call 152 [.agg #[.int .i64 ((3:Nat):Int),.int .i64 0,.string t,.slice p 0 c]] none _=_:=e5
   have e2':(env (n+23)).call 127 [.agg #[.int .i64 3,.int .i64 0,.string t,.slice p 0 c]] none _=_:=e2
   simp -implicitDefEqProofs only[go_sem,Aw,BO,Ca,BP,Cb,BT,Cc,Cp,CL,Cq,CM,Dj,DH,Ge,Gd,E3,Ey,e2',wt,F0,e3,Pe,JX,e5',Bool.not_true,AW,Aq,B8,Av,AK,Ae]
   exact⟨_,by rw[he]<;>rfl,hX4,hw5⟩
  ·obtain⟨_,σ2,e2,hX2,hw2,rfl⟩:=Da (n+22) 4 (by omega) z t (.slice p l c) rfl _ hw1
   have hX:=hX1.trans hX2
   obtain rfl:l=0:=by omega
   obtain rfl:z=0:=by omega
   obtain⟨_,σ3,e3,hX3,hw3,rfl⟩:=D8 (n+22) ((4:Nat):Int) t p c σ2 hw2
   obtain⟨σ5,e5,hX5,hw5⟩:=JP (n+1) 0 t (.slice p 0 c) rfl ((σ3.push (.cells [.int .i64 0,.int .i64 0,.string ⟨#[]⟩,.slice none 0 0] 151) none).put σ3.next (.cells [.int .i64 ((4:Nat):Int),.int .i64 0,.string t,.slice p 0 c] 151) none) ((hw3.push _ _).put _ _ _ (Nat.lt_succ_self _)) hr
   have hX4:=(((hX.trans hX3).push (.cells [.int .i64 0,.int .i64 0,.string ⟨#[]⟩,.slice none 0 0] 151) none).put σ3.next (.cells [.int .i64 ((4:Nat):Int),.int .i64 0,.string t,.slice p 0 c] 151) none (hX.trans hX3).next).trans hX5
   have wt:workType 4=151:=rfl
   have e5':(env (n+23)).call 152 [.agg #[.int .i64 ((4:Nat):Int),.int .i64 0,.string t,.slice p 0 c]] none _=_:=e5
   have e2':(env (n+23)).call 127 [.agg #[.int .i64 4,.int .i64 0,.string t,.slice p 0 c]] none _=_:=e2
   simp -implicitDefEqProofs only[go_sem,Aw,BO,Ca,BP,Cb,BT,Cc,Cp,CL,Cq,CM,Dj,DH,Ge,Gd,E3,Ey,e2',wt,F0,e3,Pe,JX,e5',Bool.not_true,AW,Aq,B8,Av,AK,Ae]
   exact⟨_,by rw[he]<;>rfl,hX4,hw5⟩
end
end Go.Proofs.YtokieofohmgjdaaGreatDoor
end
