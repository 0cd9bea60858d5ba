import Derived.Test.YtdjddneidbddpaaGreatDoorByP
import Derived.Test.YtdjddneidbddpaaGreatDoorProg
import Derived.Lib.Bytealg
import Derived.Laws.Cover1
import Derived.Laws.Externs
import Derived.KernelRfl
namespace Go.Proofs.YtdjddneidbddpaaGreatDoor
set_option linter.unusedSectionVars false
set_option maxHeartbeats 1000000
open Go.RowKit
set_option linter.unusedSimpArgs false
set_option linter.unusedVariables false
def Y1 (a b:Int):Int:=if a<b then-1 else if b<a then 1 else 0
def Ks (x y:List UInt8):Int:=Lib.compareBytes x y
def Y2 (a b:ByteArray):Int:=Ks a.toList b.toList
theorem Ui (a b:UInt8) (x y:List UInt8):Ks (a::x) (b::y)=if a<b then-1 else if b<a then 1 else Ks x y:=by
 unfold Ks;rw[Lib.compareBytes]
theorem Xfc:∀x y:List UInt8,Op.bytesLess x y=decide (Ks x y= -1):=by
 intro x
 induction x with
 |nil=>intro y;cases y<;>simp[Op.bytesLess,Ks,Lib.compareBytes]
 | cons a x ih =>
  intro y
  cases y with
  |nil=>simp[Op.bytesLess,Ks,Lib.compareBytes]
  | cons b y =>
   rw[Op.bytesLess,Ui,ih]
   by_cases h1:a<b
   ·simp[h1]
   ·by_cases h2:b<a
    ·have:(a==b)=false:=by simp;intro e;subst e;exact h1 h2
     simp[h1,h2,this]
    ·have:a=b:=UInt8.le_antisymm (UInt8.not_lt.1 h2) (UInt8.not_lt.1 h1)
     simp[h1,h2,this]
theorem Xas:∀x y:List UInt8,Ks x y=0↔x=y:=by
 intro x
 induction x with
 |nil=>intro y;cases y<;>simp[Ks,Lib.compareBytes]
 | cons a x ih =>
  intro y
  cases y with
  |nil=>simp[Ks,Lib.compareBytes]
  | cons b y =>
   rw[Ui]
   by_cases h1:a<b
   ·simp[h1];intro e;subst e;exact absurd h1 (UInt8.lt_irrefl a)
   ·by_cases h2:b<a
    ·simp[h1,h2];intro e;subst e;exact absurd h2 (UInt8.lt_irrefl a)
    ·have:a=b:=UInt8.le_antisymm (UInt8.not_lt.1 h2) (UInt8.not_lt.1 h1)
     simp[h1,h2,this,ih]
theorem Xws:∀x y:List UInt8,Ks y x= -Ks x y:=by
 intro x
 induction x with
 |nil=>intro y;cases y<;>simp[Ks,Lib.compareBytes]
 | cons a x ih =>
  intro y
  cases y with
  |nil=>simp[Ks,Lib.compareBytes]
  | cons b y =>
   rw[Ui,Ui]
   by_cases h1:a<b
   ·have h2:¬b<a:=UInt8.not_lt.2 (UInt8.le_of_lt h1)
    simp[h1,h2]
   ·by_cases h2:b<a
    ·simp[h1,h2]
    ·simp[h1,h2,ih]
theorem U1:∀x y:List UInt8,Ks x y= -1∨Ks x y=0∨Ks x y=1:=by
 intro x
 induction x with
 |nil=>intro y;cases y<;>simp[Ks,Lib.compareBytes]
 | cons a x ih =>
  intro y
  cases y with
  |nil=>simp[Ks,Lib.compareBytes]
  | cons b y =>
   rw[Ui]
   split
   ·simp
   ·split
    ·simp
    ·exact ih y
theorem Xd1 (a b:Int):Y1 a b= -1∨Y1 a b=0∨Y1 a b=1:=by unfold Y1;split<;>(try split)<;>simp
theorem Uj (a b:Int):Y1 a b=0↔a=b:=by unfold Y1;split<;>(try split)<;>simp<;>omega
def Yh:List ByteArray→List ByteArray→Int
 | [],[]=>0
 | [],_::_=> -1
 |_::_,[]=>1
 |a::l,b::m=>if Y2 a b≠0 then Y2 a b else Yh l m
theorem Xmg:∀l m,Yh l m= -1∨Yh l m=0∨Yh l m=1:=by
 intro l
 induction l with
 |nil=>intro m;cases m<;>simp[Yh]
 | cons a l ih =>
  intro m
  cases m with
  |nil=>simp[Yh]
  | cons b m =>
   rw[Yh]
   split
   ·exact U1 _ _
   ·exact ih m
theorem Uk (a b:Int) (w:World):Calls Tryz.prog 184 #[.int .i64 a, .int .i64 b] w fun e w'=>e= .returned (.int .i64 (Y1 a b))∧w'=w:=by
 by_cases h1:a<b
 ·go_enter Tryz.func184,Tryz.ntmps184
  go_wp2
  go_ret
  exact ⟨Yp (by simp[Y1,h1]),rfl⟩
 ·by_cases h2:b<a
  ·go_enter Tryz.func184,Tryz.ntmps184
   go_wp2
   go_ret
   exact ⟨Yp (by unfold Y1;rw[if_neg (by omega),if_pos (by omega)]),rfl⟩
  ·go_enter Tryz.func184,Tryz.ntmps184
   go_wp2
   go_ret
   exact ⟨Yp (by unfold Y1;rw[if_neg (by omega),if_neg (by omega)]),rfl⟩
theorem Xsv {a b:ByteArray} (h:Y2 a b= -1):Op.bytesLess a.toList b.toList=true:=by rw[Xfc];exact decide_eq_true h
theorem Xip {a b:ByteArray} (h:Y2 a b≠-1):Op.bytesLess a.toList b.toList=false:=by rw[Xfc];exact decide_eq_false h
theorem Xmx {a b:ByteArray} (h:Y2 a b=0):(a.toList==b.toList)=true:=by rw[beq_iff_eq];exact (Xas _ _).1 h
theorem Xmy {a b:ByteArray} (h:Y2 a b≠0):(a.toList==b.toList)=false:=by rw[beq_eq_false_iff_ne];exact fun e=>h ((Xas _ _).2 e)
theorem Xes (a b:ByteArray) (w:World):Calls Tryz.prog 185 #[.string a, .string b] w fun e w'=>e= .returned (.int .i64 (Y2 a b))∧w'=w:=by
 have hr:=U1 a.toList b.toList
 by_cases h1:Y2 a b= -1
 ·have g1:=Xsv h1
  have H:=Xa h1
  clear h1 hr
  go_enter Tryz.func185,Tryz.ntmps185
  go_wp2
  go_ret
  exact ⟨Yp H.out.symm,rfl⟩
 ·have g1:=Xip h1
  by_cases h0:Y2 a b=0
  ·have g2:=Xmx h0
   have H:=Xa h0
   clear h1 hr h0
   go_enter Tryz.func185,Tryz.ntmps185
   go_wp2
   go_ret
   exact ⟨Yp H.out.symm,rfl⟩
  ·have g2:=Xmy h0
   have H:Hid (Y2 a b=1):=by rcases hr with h|h|h;exact absurd h h1;exact absurd h h0;exact h
   clear h1 hr h0
   go_enter Tryz.func185,Tryz.ntmps185
   go_wp2
   go_ret
   exact ⟨Yp H.out.symm,rfl⟩
theorem Ju (a b:Int) (w:World):Calls Tryz.prog 203 #[.int .i64 a, .int .i64 b] w fun e w'=>e= .returned (.int .i64 (Y1 a b))∧w'=w:=by
 have ha:(a !=a)=false:=by simp
 have hb:(b !=b)=false:=by simp
 by_cases h1:a<b
 ·go_enter Tryz.func203,Tryz.ntmps203
  go_wp2
  go_ret
  exact ⟨Yp (by simp[Y1,h1]),rfl⟩
 ·by_cases h2:b<a
  ·go_enter Tryz.func203,Tryz.ntmps203
   go_wp2
   go_ret
   exact ⟨Yp (by unfold Y1;rw[if_neg (by omega),if_pos (by omega)]),rfl⟩
  ·go_enter Tryz.func203,Tryz.ntmps203
   go_wp2
   go_ret
   exact ⟨Yp (by unfold Y1;rw[if_neg (by omega),if_neg (by omega)]),rfl⟩
theorem Xiq (a b:ByteArray) (w:World):Calls Tryz.prog 211 #[.string a, .string b] w fun e w'=>e= .returned (.int .i64 (Y2 a b))∧w'=w:=by
 have hr:=U1 a.toList b.toList
 have qa:(a.toList==a.toList)=true:=by simp
 have qb:(b.toList==b.toList)=true:=by simp
 by_cases h1:Y2 a b= -1
 ·have g1:=Xsv h1
  have H:=Xa h1
  clear h1 hr
  go_enter Tryz.func211,Tryz.ntmps211
  go_wp2
  go_ret
  exact ⟨Yp H.out.symm,rfl⟩
 ·have g1:=Xip h1
  by_cases h0:Y2 a b=0
  ·have g2:=Xmx h0
   have H:=Xa h0
   clear h1 hr h0
   go_enter Tryz.func211,Tryz.ntmps211
   go_wp2
   go_ret
   exact ⟨Yp H.out.symm,rfl⟩
  ·have g2:=Xmy h0
   have H:Hid (Y2 a b=1):=by rcases hr with h|h|h;exact absurd h h1;exact absurd h h0;exact h
   clear h1 hr h0
   go_enter Tryz.func211,Tryz.ntmps211
   go_wp2
   go_ret
   exact ⟨Yp H.out.symm,rfl⟩
set_option maxRecDepth 100000 in
theorem Xgw (a b:ByteArray) (w:World):Calls Tryz.prog 210 #[.string a, .string b] w fun e w'=>e= .returned (.int .i64 (Y2 a b))∧w'=w:=by
 go_enter Tryz.func210,Tryz.ntmps210
 go_wp2
 rw[run_callFunc_extern Tryz.func214 (by kernel_rfl) (by kernel_rfl) (by kernel_rfl) (e:=Extern.BytealgCompare.compare) (by kernel_rfl),Lib.run_compareString]
 simp only[Result.andThen]
 rw[Oper.upon_value]
 go_wp2
 go_ret
 exact ⟨Yp (by simp[Y2,Ks,ByteArray.toList_eq]),rfl⟩
theorem Xat (a b:ByteArray) (w:World):Calls Tryz.prog 204 #[.string a, .string b] w fun e w'=>e= .returned (.int .i64 (Y2 a b))∧w'=w:=by
 go_enter Tryz.func204,Tryz.ntmps204
 go_wp2_with (go_at_call 210;refine (Xgw _ _ _).mono ?_;rintro e w' ⟨rfl,rfl⟩)
 go_ret
 exact ⟨rfl,rfl⟩
end Go.Proofs.YtdjddneidbddpaaGreatDoor
