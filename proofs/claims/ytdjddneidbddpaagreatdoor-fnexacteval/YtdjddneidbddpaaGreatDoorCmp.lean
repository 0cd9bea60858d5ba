import Derived.Test.YtdjddneidbddpaaGreatDoorByP
import Derived.Test.YtdjddneidbddpaaGreatDoorProg
import Derived.Lib.Bytealg
import Derived.Laws.Cover1
import Derived.Laws.Externs
import Derived.KernelRfl
namespace Go.Proofs.YtdjddneidbddpaaGreatDoor
set_option linter.unusedSectionVars false
set_option maxRecDepth 100000
set_option maxHeartbeats 1000000
open Go.RowKit
set_option linter.unusedSimpArgs false
set_option linter.unusedVariables false
def Yv (a b:Int):Int:=if a<b then-1 else if b<a then 1 else 0
def Kl (x y:List UInt8):Int:=Lib.compareBytes x y
def Yw (a b:ByteArray):Int:=Kl a.toList b.toList
theorem Uc (a b:UInt8) (x y:List UInt8):Kl (a::x) (b::y)=if a<b then-1 else if b<a then 1 else Kl x y:=by
 unfold Kl;rw[Lib.compareBytes]
theorem Xey:∀x y:List UInt8,Op.bytesLess x y=decide (Kl x y= -1):=by
 intro x
 induction x with
 |nil=>intro y;cases y<;>simp[Op.bytesLess,Kl,Lib.compareBytes]
 |cons a x ih=>
  intro y
  cases y with
  |nil=>simp[Op.bytesLess,Kl,Lib.compareBytes]
  |cons b y=>
   rw[Op.bytesLess,Uc,ih]
   by_cases h1:a<b
   ·simp[h1]
   ·by_cases h2:b<a
    ·have:(a==b)=false:=by simp;intro e;subst e;exact h1 h2
     simp[h1,h2,this]
    ·have:a=b:=UInt8.le_antisymm (UInt8.not_lt.1 h2) (UInt8.not_lt.1 h1)
     simp[h1,h2,this]
theorem Xag:∀x y:List UInt8,Kl x y=0↔x=y:=by
 intro x
 induction x with
 |nil=>intro y;cases y<;>simp[Kl,Lib.compareBytes]
 |cons a x ih=>
  intro y
  cases y with
  |nil=>simp[Kl,Lib.compareBytes]
  |cons b y=>
   rw[Uc]
   by_cases h1:a<b
   ·simp[h1];intro e;subst e;exact absurd h1 (UInt8.lt_irrefl a)
   ·by_cases h2:b<a
    ·simp[h1,h2];intro e;subst e;exact absurd h2 (UInt8.lt_irrefl a)
    ·have:a=b:=UInt8.le_antisymm (UInt8.not_lt.1 h2) (UInt8.not_lt.1 h1)
     simp[h1,h2,this,ih]
theorem Xwe:∀x y:List UInt8,Kl y x= -Kl x y:=by
 intro x
 induction x with
 |nil=>intro y;cases y<;>simp[Kl,Lib.compareBytes]
 |cons a x ih=>
  intro y
  cases y with
  |nil=>simp[Kl,Lib.compareBytes]
  |cons b y=>
   rw[Uc,Uc]
   by_cases h1:a<b
   ·have c:¬b<a:=UInt8.not_lt.2 (UInt8.le_of_lt h1)
    simp[h1,c]
   ·by_cases c:b<a
    ·simp[h1,c]
    ·simp[h1,c,ih]
theorem Us:∀x y:List UInt8,Kl x y= -1\/Kl x y=0\/Kl x y=1:=by
 intro x
 induction x with
 |nil=>intro y;cases y<;>simp[Kl,Lib.compareBytes]
 |cons a x ih=>
  intro y
  cases y with
  |nil=>simp[Kl,Lib.compareBytes]
  |cons b y=>
   rw[Uc]
   split
   ·simp
   ·split
    ·simp
    ·exact ih y
theorem Xdn (a b:Int):Yv a b= -1\/Yv a b=0\/Yv a b=1:=by unfold Yv;split<;>(try split)<;>simp
theorem Ud (a b:Int):Yv a b=0↔a=b:=by unfold Yv;split<;>(try split)<;>simp<;>omega
def Ya:List ByteArray->List ByteArray->Int
 |[],[]=>0
 |[],_::_=> -1
 |_::_,[]=>1
 |a::l,b::m=>if Yw a b≠0 then Yw a b else Ya l m
theorem Xl3:∀l m,Ya l m= -1\/Ya l m=0\/Ya l m=1:=by
 intro l
 induction l with
 |nil=>intro m;cases m<;>simp[Ya]
 |cons a l ih=>
  intro m
  cases m with
  |nil=>simp[Ya]
  |cons b m=>
   rw[Ya]
   split
   ·exact Us _ _
   ·exact ih m
theorem Ue (a b:Int) (w:World):Calls Tryz.prog 184 #[.int .i64 a, .int .i64 b] w fun e w'=>e= .returned (.int .i64 (Yv a b))/\w'=w:=by
 by_cases h1:a<b
 ·go_enter Tryz.func184,Tryz.ntmps184
  go_wp2
  go_ret
  exact ⟨Yl (by simp[Yv,h1]),rfl⟩
 ·by_cases h2:b<a
  ·go_enter Tryz.func184,Tryz.ntmps184
   go_wp2
   go_ret
   exact ⟨Yl (by unfold Yv;rw[if_neg (by omega),if_pos (by omega)]),rfl⟩
  ·go_enter Tryz.func184,Tryz.ntmps184
   go_wp2
   go_ret
   exact ⟨Yl (by unfold Yv;rw[if_neg (by omega),if_neg (by omega)]),rfl⟩
theorem Xsi {a b:ByteArray} (h:Yw a b= -1):Op.bytesLess a.toList b.toList=true:=by rw[Xey];exact decide_eq_true h
theorem Xic {a b:ByteArray} (h:Yw a b≠-1):Op.bytesLess a.toList b.toList=false:=by rw[Xey];exact decide_eq_false h
theorem Xmk {a b:ByteArray} (h:Yw a b=0):(a.toList==b.toList)=true:=by rw[beq_iff_eq];exact (Xag _ _).1 h
theorem Xml {a b:ByteArray} (h:Yw a b≠0):(a.toList==b.toList)=false:=by rw[beq_eq_false_iff_ne];exact fun e=>h ((Xag _ _).2 e)
theorem Xed (a b:ByteArray) (w:World):Calls Tryz.prog 185 #[.string a, .string b] w fun e w'=>e= .returned (.int .i64 (Yw a b))/\w'=w:=by
 have c:=Us a.toList b.toList
 by_cases h1:Yw a b= -1
 ·have d:=Xsi h1
  have H:=Xa h1
  clear h1 c
  go_enter Tryz.func185,Tryz.ntmps185
  go_wp2
  go_ret
  exact ⟨Yl H.out.symm,rfl⟩
 ·have d:=Xic h1
  by_cases h0:Yw a b=0
  ·have f:=Xmk h0
   have H:=Xa h0
   clear h1 c h0
   go_enter Tryz.func185,Tryz.ntmps185
   go_wp2
   go_ret
   exact ⟨Yl H.out.symm,rfl⟩
  ·have f:=Xml h0
   have H:Hid (Yw a b=1):=by rcases c with h|h|h;exact absurd h h1;exact absurd h h0;exact h
   clear h1 c h0
   go_enter Tryz.func185,Tryz.ntmps185
   go_wp2
   go_ret
   exact ⟨Yl H.out.symm,rfl⟩
theorem Jm (a b:Int) (w:World):Calls Tryz.prog 203 #[.int .i64 a, .int .i64 b] w fun e w'=>e= .returned (.int .i64 (Yv a b))/\w'=w:=by
 have c:(a !=a)=false:=by simp
 have d:(b !=b)=false:=by simp
 by_cases h1:a<b
 ·go_enter Tryz.func203,Tryz.ntmps203
  go_wp2
  go_ret
  exact ⟨Yl (by simp[Yv,h1]),rfl⟩
 ·by_cases h2:b<a
  ·go_enter Tryz.func203,Tryz.ntmps203
   go_wp2
   go_ret
   exact ⟨Yl (by unfold Yv;rw[if_neg (by omega),if_pos (by omega)]),rfl⟩
  ·go_enter Tryz.func203,Tryz.ntmps203
   go_wp2
   go_ret
   exact ⟨Yl (by unfold Yv;rw[if_neg (by omega),if_neg (by omega)]),rfl⟩
theorem Xid (a b:ByteArray) (w:World):Calls Tryz.prog 211 #[.string a, .string b] w fun e w'=>e= .returned (.int .i64 (Yw a b))/\w'=w:=by
 have c:=Us a.toList b.toList
 have g:(a.toList==a.toList)=true:=by simp
 have j:(b.toList==b.toList)=true:=by simp
 by_cases h1:Yw a b= -1
 ·have d:=Xsi h1
  have H:=Xa h1
  clear h1 c
  go_enter Tryz.func211,Tryz.ntmps211
  go_wp2
  go_ret
  exact ⟨Yl H.out.symm,rfl⟩
 ·have d:=Xic h1
  by_cases h0:Yw a b=0
  ·have f:=Xmk h0
   have H:=Xa h0
   clear h1 c h0
   go_enter Tryz.func211,Tryz.ntmps211
   go_wp2
   go_ret
   exact ⟨Yl H.out.symm,rfl⟩
  ·have f:=Xml h0
   have H:Hid (Yw a b=1):=by rcases c with h|h|h;exact absurd h h1;exact absurd h h0;exact h
   clear h1 c h0
   go_enter Tryz.func211,Tryz.ntmps211
   go_wp2
   go_ret
   exact ⟨Yl H.out.symm,rfl⟩
theorem Xgj (a b:ByteArray) (w:World):Calls Tryz.prog 210 #[.string a, .string b] w fun e w'=>e= .returned (.int .i64 (Yw a b))/\w'=w:=by
 go_enter Tryz.func210,Tryz.ntmps210
 go_wp2
 rw[run_callFunc_extern Tryz.func214 (by kernel_rfl) (by kernel_rfl) (by kernel_rfl) (e:=Extern.BytealgCompare.compare) (by kernel_rfl),Lib.run_compareString]
 simp only[Result.andThen]
 rw[Oper.upon_value]
 go_wp2
 go_ret
 exact ⟨Yl (by simp[Yw,Kl,ByteArray.toList_eq]),rfl⟩
theorem Xah (a b:ByteArray) (w:World):Calls Tryz.prog 204 #[.string a, .string b] w fun e w'=>e= .returned (.int .i64 (Yw a b))/\w'=w:=by
 go_enter Tryz.func204,Tryz.ntmps204
 go_wp2_with (go_at_call 210;refine (Xgj _ _ _).mono ?_;rintro e w' ⟨rfl,rfl⟩)
 go_ret
 exact ⟨rfl,rfl⟩
end Go.Proofs.YtdjddneidbddpaaGreatDoor
