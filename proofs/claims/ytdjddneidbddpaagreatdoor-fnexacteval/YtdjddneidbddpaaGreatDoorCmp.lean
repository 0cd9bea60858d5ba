import Derived.Test.YtdjddneidbddpaaGreatDoorByP
import Derived.Test.YtdjddneidbddpaaGreatDoorProg
import Derived.Lib.Bytealg
import Derived.Laws.Cover1
import Derived.Laws.Externs
import Derived.KernelRfl
namespace Go.Proofs.YtdjddneidbddpaaGreatDoor
set_option linter.unusedSectionVars false
set_option maxRecDepth 100000
set_option maxHeartbeats 1000000
open Go.RowKit
set_option linter.unusedSimpArgs false
set_option linter.unusedVariables false
def Yv (a b:Int):Int:=if a<b then-1 else if b<a then 1 else 0
def Kk (x y:List UInt8):Int:=Lib.compareBytes x y
def Yw (a b:ByteArray):Int:=Kk a.toList b.toList
theorem Uc (a b:UInt8) (x y:List UInt8):Kk (a::x) (b::y)=if a<b then-1 else if b<a then 1 else Kk x y:=by
 unfold Kk;rw[Lib.compareBytes]
theorem Xeu:∀x y:List UInt8,Op.bytesLess x y=decide (Kk x y= -1):=by
 intro x
 induction x with
 |nil=>intro y;cases y<;>simp[Op.bytesLess,Kk,Lib.compareBytes]
 |cons a x ih=>
  intro y
  cases y with
  |nil=>simp[Op.bytesLess,Kk,Lib.compareBytes]
  |cons b y=>
   rw[Op.bytesLess,Uc,ih]
   by_cases h1:a<b
   ·simp[h1]
   ·by_cases h2:b<a
    ·have:(a==b)=false:=by simp;intro e;subst e;exact h1 h2
     simp[h1,h2,this]
    ·have:a=b:=UInt8.le_antisymm (UInt8.not_lt.1 h2) (UInt8.not_lt.1 h1)
     simp[h1,h2,this]
theorem Xag:∀x y:List UInt8,Kk x y=0↔x=y:=by
 intro x
 induction x with
 |nil=>intro y;cases y<;>simp[Kk,Lib.compareBytes]
 |cons a x ih=>
  intro y
  cases y with
  |nil=>simp[Kk,Lib.compareBytes]
  |cons b y=>
   rw[Uc]
   by_cases h1:a<b
   ·simp[h1];intro e;subst e;exact absurd h1 (UInt8.lt_irrefl a)
   ·by_cases h2:b<a
    ·simp[h1,h2];intro e;subst e;exact absurd h2 (UInt8.lt_irrefl a)
    ·have:a=b:=UInt8.le_antisymm (UInt8.not_lt.1 h2) (UInt8.not_lt.1 h1)
     simp[h1,h2,this,ih]
theorem Xwa:∀x y:List UInt8,Kk y x= -Kk x y:=by
 intro x
 induction x with
 |nil=>intro y;cases y<;>simp[Kk,Lib.compareBytes]
 |cons a x ih=>
  intro y
  cases y with
  |nil=>simp[Kk,Lib.compareBytes]
  |cons b y=>
   rw[Uc,Uc]
   by_cases h1:a<b
   ·have c:¬b<a:=UInt8.not_lt.2 (UInt8.le_of_lt h1)
    simp[h1,c]
   ·by_cases c:b<a
    ·simp[h1,c]
    ·simp[h1,c,ih]
theorem Us:∀x y:List UInt8,Kk x y= -1\/Kk x y=0\/Kk x y=1:=by
 intro x
 induction x with
 |nil=>intro y;cases y<;>simp[Kk,Lib.compareBytes]
 |cons a x ih=>
  intro y
  cases y with
  |nil=>simp[Kk,Lib.compareBytes]
  |cons b y=>
   rw[Uc]
   split
   ·simp
   ·split
    ·simp
    ·exact ih y
theorem Xdi (a b:Int):Yv a b= -1\/Yv a b=0\/Yv a b=1:=by unfold Yv;split<;>(try split)<;>simp
theorem Ud (a b:Int):Yv a b=0↔a=b:=by unfold Yv;split<;>(try split)<;>simp<;>omega
def Ya:List ByteArray->List ByteArray->Int
 |[],[]=>0
 |[],_::_=> -1
 |_::_,[]=>1
 |a::l,b::m=>if Yw a b≠0 then Yw a b else Ya l m
theorem Xly:∀l m,Ya l m= -1\/Ya l m=0\/Ya l m=1:=by
 intro l
 induction l with
 |nil=>intro m;cases m<;>simp[Ya]
 |cons a l ih=>
  intro m
  cases m with
  |nil=>simp[Ya]
  |cons b m=>
   rw[Ya]
   split
   ·exact Us _ _
   ·exact ih m
theorem Ue (a b:Int) (w:World):Calls Tryz.prog 184 #[.int .i64 a, .int .i64 b] w fun e w'=>e= .returned (.int .i64 (Yv a b))/\w'=w:=by
 by_cases h1:a<b
 ·go_enter Tryz.func184,Tryz.ntmps184
  go_wp2
  go_ret
  exact ⟨Yl (by simp[Yv,h1]),rfl⟩
 ·by_cases h2:b<a
  ·go_enter Tryz.func184,Tryz.ntmps184
   go_wp2
   go_ret
   exact ⟨Yl (by unfold Yv;rw[if_neg (by omega),if_pos (by omega)]),rfl⟩
  ·go_enter Tryz.func184,Tryz.ntmps184
   go_wp2
   go_ret
   exact ⟨Yl (by unfold Yv;rw[if_neg (by omega),if_neg (by omega)]),rfl⟩
theorem Xsc {a b:ByteArray} (h:Yw a b= -1):Op.bytesLess a.toList b.toList=true:=by rw[Xeu];exact decide_eq_true h
theorem Xia {a b:ByteArray} (h:Yw a b≠-1):Op.bytesLess a.toList b.toList=false:=by rw[Xeu];exact decide_eq_false h
theorem Xmf {a b:ByteArray} (h:Yw a b=0):(a.toList==b.toList)=true:=by rw[beq_iff_eq];exact (Xag _ _).1 h
theorem Xmg {a b:ByteArray} (h:Yw a b≠0):(a.toList==b.toList)=false:=by rw[beq_eq_false_iff_ne];exact fun e=>h ((Xag _ _).2 e)
theorem Xd8 (a b:ByteArray) (w:World):Calls Tryz.prog 185 #[.string a, .string b] w fun e w'=>e= .returned (.int .i64 (Yw a b))/\w'=w:=by
 have c:=Us a.toList b.toList
 by_cases h1:Yw a b= -1
 ·have d:=Xsc h1
  have H:=Xa h1
  clear h1 c
  go_enter Tryz.func185,Tryz.ntmps185
  go_wp2
  go_ret
  exact ⟨Yl H.out.symm,rfl⟩
 ·have d:=Xia h1
  by_cases h0:Yw a b=0
  ·have f:=Xmf h0
   have H:=Xa h0
   clear h1 c h0
   go_enter Tryz.func185,Tryz.ntmps185
   go_wp2
   go_ret
   exact ⟨Yl H.out.symm,rfl⟩
  ·have f:=Xmg h0
   have H:Hid (Yw a b=1):=by rcases c with h|h|h;exact absurd h h1;exact absurd h h0;exact h
   clear h1 c h0
   go_enter Tryz.func185,Tryz.ntmps185
   go_wp2
   go_ret
   exact ⟨Yl H.out.symm,rfl⟩
theorem Jk (a b:Int) (w:World):Calls Tryz.prog 203 #[.int .i64 a, .int .i64 b] w fun e w'=>e= .returned (.int .i64 (Yv a b))/\w'=w:=by
 have c:(a !=a)=false:=by simp
 have d:(b !=b)=false:=by simp
 by_cases h1:a<b
 ·go_enter Tryz.func203,Tryz.ntmps203
  go_wp2
  go_ret
  exact ⟨Yl (by simp[Yv,h1]),rfl⟩
 ·by_cases h2:b<a
  ·go_enter Tryz.func203,Tryz.ntmps203
   go_wp2
   go_ret
   exact ⟨Yl (by unfold Yv;rw[if_neg (by omega),if_pos (by omega)]),rfl⟩
  ·go_enter Tryz.func203,Tryz.ntmps203
   go_wp2
   go_ret
   exact ⟨Yl (by unfold Yv;rw[if_neg (by omega),if_neg (by omega)]),rfl⟩
theorem Xib (a b:ByteArray) (w:World):Calls Tryz.prog 211 #[.string a, .string b] w fun e w'=>e= .returned (.int .i64 (Yw a b))/\w'=w:=by
 have c:=Us a.toList b.toList
 have g:(a.toList==a.toList)=true:=by simp
 have j:(b.toList==b.toList)=true:=by simp
 by_cases h1:Yw a b= -1
 ·have d:=Xsc h1
  have H:=Xa h1
  clear h1 c
  go_enter Tryz.func211,Tryz.ntmps211
  go_wp2
  go_ret
  exact ⟨Yl H.out.symm,rfl⟩
 ·have d:=Xia h1
  by_cases h0:Yw a b=0
  ·have f:=Xmf h0
   have H:=Xa h0
   clear h1 c h0
   go_enter Tryz.func211,Tryz.ntmps211
   go_wp2
   go_ret
   exact ⟨Yl H.out.symm,rfl⟩
  ·have f:=Xmg h0
   have H:Hid (Yw a b=1):=by rcases c with h|h|h;exact absurd h h1;exact absurd h h0;exact h
   clear h1 c h0
   go_enter Tryz.func211,Tryz.ntmps211
   go_wp2
   go_ret
   exact ⟨Yl H.out.symm,rfl⟩
theorem Xgg (a b:ByteArray) (w:World):Calls Tryz.prog 210 #[.string a, .string b] w fun e w'=>e= .returned (.int .i64 (Yw a b))/\w'=w:=by
 go_enter Tryz.func210,Tryz.ntmps210
 go_wp2
 rw[run_callFunc_extern Tryz.func214 (by kernel_rfl) (by kernel_rfl) (by kernel_rfl) (e:=Extern.BytealgCompare.compare) (by kernel_rfl),Lib.run_compareString]
 simp only[Result.andThen]
 rw[Oper.upon_value]
 go_wp2
 go_ret
 exact ⟨Yl (by simp[Yw,Kk,ByteArray.toList_eq]),rfl⟩
theorem Xah (a b:ByteArray) (w:World):Calls Tryz.prog 204 #[.string a, .string b] w fun e w'=>e= .returned (.int .i64 (Yw a b))/\w'=w:=by
 go_enter Tryz.func204,Tryz.ntmps204
 go_wp2_with (go_at_call 210;refine (Xgg _ _ _).mono ?_;rintro e w' ⟨rfl,rfl⟩)
 go_ret
 exact ⟨rfl,rfl⟩
end Go.Proofs.YtdjddneidbddpaaGreatDoor
