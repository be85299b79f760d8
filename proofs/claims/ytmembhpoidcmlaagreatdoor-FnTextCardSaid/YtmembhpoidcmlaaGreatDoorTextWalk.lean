/-
  The walk of laws.FnText: it answers true, and of what was there nothing is changed. Conditions: in memory; the library's variables hold what the program lays.
-/
import Derived.Test.YtmembhpoidcmlaaGreatDoorRows
import Derived.Test.YtmembhpoidcmlaaGreatDoorTextLaw
import Derived.Deep.RegionHeld3
import Derived.Deep.CutRange
namespace Go.Proofs.YtmembhpoidcmlaaGreatDoor.TextL
open Go.RowKit Rw
open Selss (DocP DocAt docB docT countD outP)
open Decs (Vars Pow)
open Draws (dU dO p1 p2 p3)
set_option linter.unusedVariables false
set_option maxRecDepth 100000
theorem cells2 {w1:World} {g:Nat} {v0 v1:Value} {T:TypeId}(h1:w1.heap[g]?=some(.cells #[v0,v1] T(0,0))):w1.cell? ⟨g,0,none⟩=some v0∧w1.cell? ⟨g,1,none⟩=some v1:=by simp [World.cell?,h1]
theorem cells1 {w1:World} {g:Nat} {v0:Value} {T:TypeId}(h1:w1.heap[g]?=some(.cells #[v0] T(0,0))):w1.cell? ⟨g,0,none⟩=some v0:=by simp [World.cell?,h1]
theorem cells3 {w1:World} {g:Nat} {v0 v1 v2:Value} {T:TypeId}(h1:w1.heap[g]?=some(.cells #[v0,v1,v2] T(0,0))):w1.cell? ⟨g,0,none⟩=some v0∧w1.cell? ⟨g,1,none⟩=some v1∧w1.cell? ⟨g,2,none⟩=some v2:=by simp [World.cell?,h1]
theorem region_led {ops:Array Oper} {E:Exit→Act→World→Prop} {w:World} {Q:World→Prop} {id:Nat} {a:Act} {W:World}(h:Led w Q W)(hm:Tryz.prog.follows .mixedOrders=true)
  (hh:Due.anyD Tryz.prog .any ops E 100000(fun _ X=>Led w Q X)ops.size(Array.replicate ops.size false)a W.drew):(Code.region id ops true).wp Tryz.prog E a W:=Due.region_due 100000(fun _ X=>Led w Q X)hm hh
theorem fieldD(a b:Option Addr)(n c m e:Nat)(k:Int)(W:World):Sem.run Tryz.prog(Instr.field 31(.agg #[.slice a n c,.slice b m e,.int .i64 k])0)W=.ok(.agg #[.slice a n c,.slice b m e])W:=by rfl
theorem fieldS(a:Option Addr)(n c:Nat)(k:Int)(W:World):Sem.run Tryz.prog(Instr.field 39(.agg #[.slice a n c,.int .i64 k])0)W=.ok(.agg #[.slice a n c])W:=by rfl
set_option maxHeartbeats 16000000 in
theorem textWalk(w:World)(a0:Option Addr)(len0 cap0:Nat)(a1:Option Addr)(len1 cap1:Nat)(b0:Draws.BytesAt w w.heap.size a0 len0)(b1:Draws.BytesAt w w.heap.size a1 len1)(hv:Vars w.heap.size w) :
  Calls Tryz.prog 3 #[.slice a0 len0 cap0,.slice a1 len1 cap1] w fun e w'=>e=.returned(.bool true)∧Below w.heap.size w w':=by
 have B0:=Lib.hid b0
 have B1:=Lib.hid b1
 have HV:=Lib.hid hv
 clear b0 b1 hv
 by_cases hbig:1048576 < len0
 ·have hbi:(1048576:Int) < (len0:Int):=by omega
  go_enter Tryz.func3,Tryz.ntmps3
  go_wp2_with fail
  go_ret
  exact⟨rfl,Below.refl _ _⟩
 have hbi:(len0:Int)≤1048576:=by omega
 by_cases hbig1:1048576 < len1
 ·have hbi1:(1048576:Int) < (len1:Int):=by omega
  clear hbig
  go_enter Tryz.func3,Tryz.ntmps3
  go_wp2_with fail
  go_ret
  exact⟨rfl,Below.refl _ _⟩
 have hbi1:(len1:Int)≤1048576:=by omega
 clear hbig hbig1
 go_enter Tryz.func3,Tryz.ntmps3
 go_wp2_with fail
 have L0:=Lib.hid(Led.start w)
 refine(drawD _ len0 cap0 a0(L0.out.bytes B0.out)(by omega)).mono ?_
 rintro e w1⟨⟨da,dn,dca,db,dm,dcb,d,rfl,kd⟩,hb⟩
 have L1:=Lib.hid(((L0.out.next hb).add(KD.stay _ _)kd).box(.cells #[.slice da dn dca,.slice db dm dcb] 26))
 clear L0 hb kd
 go_wp2_with fail
 refine((L1.out.q.1.2).implText(L1.out.vars HV.out)).mono ?_
 rintro e w2⟨rfl,hb⟩
 have L2:=Lib.hid(L1.out.next hb)
 clear L1 hb
 go_wp2_with fail
 refine(Draws.drawDocRead _ len1 cap1 a1(L2.out.bytes B1.out)(by omega)).mono ?_
 rintro e w3⟨⟨u,hu,rfl⟩,hb⟩
 have L3:=Lib.hid(L2.out.next hb)
 clear L2 hb
 obtain⟨dq,hdq⟩:∃ x,(outP u).1=x:=⟨_,rfl⟩
 obtain⟨cq,hcq⟩:∃ x,(outP u).2=x:=⟨_,rfl⟩
 have CI:Hid(∀ W,Vars W.heap.size W→Calls Tryz.prog 7 #[.string u] W fun e w'=>DRes dq cq W w' e):=Lib.hid fun W hv=>by rw [← hdq,← hcq];exact implRd u(by omega)W hv
 have CS:Hid(∀ W,Calls Tryz.prog 8 #[.string u] W fun e w'=>DRes dq cq W w' e):=Lib.hid fun W=>by rw [← hdq,← hcq];exact specRd u(by omega)W
 have HQ:Hid(cq=0→docT dq=u):=Lib.hid fun h=>by rw [← hdq];exact outP_text(hcq.trans h)
 have HCQ:Hid(cq=0∨cq=2∨cq=3):=Lib.hid(by rw [← hcq];exact outP_codes u)
 clear hdq hcq
 go_wp2_with fail
 refine(CI.out _(L3.out.vars HV.out)).mono ?_
 rintro e w4⟨⟨xa,xn,xca,xb,xm,xcb,rfl,kx⟩,hb⟩
 have L4:=Lib.hid((L3.out.next hb).add(KD.stay _ _)kx)
 clear L3 hb kx
 go_wp2_with fail
 refine(CS.out _).mono ?_
 rintro e w5⟨⟨ya,yn,yca,yb,ym,ycb,rfl,ky⟩,hb⟩
 have L5:=Lib.hid((L4.out.next hb).add(KD.stay _ _)ky)
 clear L4 hb ky
 clear CI CS
 have L6:=Lib.hid(L5.out.two(.cells #[.slice xa xn xca,.slice xb xm xcb,.int .i64 cq] 31)(.cells #[.slice ya yn yca,.slice yb ym ycb,.int .i64 cq] 31))
 clear L5 
 go_wp2_with fail
 refine(drawS _ len0 cap0 a0(L6.out.bytes B0.out)(by omega)).mono ?_
 rintro e w6⟨⟨sa,sn,sca,s,rfl,ks⟩,hb⟩
 have L7:=Lib.hid(((L6.out.next hb).add(KS.stay _ _)ks).box(.cells #[.slice sa sn sca] 35))
 clear L6 hb ks
 go_wp2_with fail
 refine((L7.out.q.1.2).implText(L7.out.vars HV.out)).mono ?_
 rintro e w7⟨rfl,hb⟩
 have L8:=Lib.hid(L7.out.next hb)
 clear L7 hb
 go_wp2_with fail
 refine(Draws.drawSchemaRead _ len1 cap1 a1(L8.out.bytes B1.out)(by omega)).mono ?_
 rintro e w8⟨⟨z,hz,rfl⟩,hb⟩
 have L9:=Lib.hid(L8.out.next hb)
 clear L8 hb
 obtain⟨sq,hsq⟩:∃ x,(outS z).1=x:=⟨_,rfl⟩
 obtain⟨kq,hkq⟩:∃ x,(outS z).2=x:=⟨_,rfl⟩
 have CI:Hid(∀ W,Vars W.heap.size W→Calls Tryz.prog 12 #[.string z] W fun e w'=>SRes sq kq W w' e):=Lib.hid fun W hv=>by rw [← hsq,← hkq];exact implRs z(by unfold OkS;omega)W hv
 have CS:Hid(∀ W,Calls Tryz.prog 13 #[.string z] W fun e w'=>SRes sq kq W w' e):=Lib.hid fun W=>by rw [← hsq,← hkq];exact specRs z(by unfold OkS;omega)W
 have HK:Hid(kq=0→schT sq=z):=Lib.hid fun h=>by rw [← hsq];exact outS_text(hkq.trans h)
 have HCK:Hid(kq=0∨kq=2∨kq=3):=Lib.hid(by rw [← hkq];exact outS_codes z)
 clear hsq hkq
 go_wp2_with fail
 refine(CI.out _(L9.out.vars HV.out)).mono ?_
 rintro e w9⟨⟨za,zn,zca,rfl,kz⟩,hb⟩
 have L10:=Lib.hid((L9.out.next hb).add(KS.stay _ _)kz)
 clear L9 hb kz
 go_wp2_with fail
 refine(CS.out _).mono ?_
 rintro e w10⟨⟨va,vn,vca,rfl,ky⟩,hb⟩
 have L11:=Lib.hid((L10.out.next hb).add(KS.stay _ _)ky)
 clear L10 hb ky
 clear CI CS
 have L12:=Lib.hid(L11.out.two(.cells #[.slice za zn zca,.int .i64 kq] 39)(.cells #[.slice va vn vca,.int .i64 kq] 39))
 clear L11 
 go_wp2_with fail
 refine(Draws.drawWordRight _ len1 cap1 a1(L12.out.bytes B1.out)(by omega)).mono ?_
 rintro e w11⟨⟨ta,hta,rfl⟩,hb⟩
 have L13:=Lib.hid(L12.out.next hb)
 clear L12 hb
 go_wp2_with fail
 refine(Draws.drawTypeWord _ len1 cap1 a1(L13.out.bytes B1.out)(by omega)).mono ?_
 rintro e w12⟨⟨tb,htb,rfl⟩,hb⟩
 have L14:=Lib.hid(L13.out.next hb)
 clear L13 hb
 go_wp2_with fail
 refine region_led L14.out(by kernel_rfl) ?_
 have L15:=Lib.hid L14.out.drew
 clear L14
 refine dU 0 ?v1 rfl(by kernel_rfl)(.inl⟨by rfl,?y1⟩)L15.out(fun _ h=>h)(fun _ _ _ h=>h) ?_
 case y1=>intro W hSw;go_simp;try with_reducible rfl
 try simp only [Act.put,p1,p2,p3]
 refine dU 1 ?v2 rfl(by kernel_rfl)(.inl⟨by rfl,?y2⟩)L15.out(fun _ h=>h)(fun _ _ _ h=>h) ?_
 case y2=>intro W hSw;have⟨p50,p51⟩:=cells2(hSw.q.1.1.1.1.1.1.1.1.1.1.2);go_simp;try with_reducible rfl
 try simp only [Act.put,p1,p2,p3]
 refine dO 2(by kernel_rfl)rfl fun K hK=>?_
 go_simp
 refine((L15.out.q.1.1.1.1.1.1.1.1.1.1.1.2).specText).mono ?_
 rintro e w13⟨rfl,hb⟩
 have L16:=Lib.hid(L15.out.next hb)
 go_wp2_with fail
 refine hK.out _ _ L16.out ?_
 clear hK K L15 hb
 try simp only [Act.put,p1,p2,p3]
 refine dU 3 ?v3 rfl(by kernel_rfl)(.inl⟨by rfl,?y3⟩)L16.out(fun _ h=>h)(fun _ _ _ h=>h) ?_
 case y3=>intro W hSw;go_simp;try with_reducible rfl
 try simp only [Act.put,p1,p2,p3]
 refine dU 4 ?v4 rfl(by kernel_rfl)(.inl⟨by rfl,?y4⟩)L16.out(fun _ h=>h)(fun _ _ _ h=>h) ?_
 case y4=>intro W hSw;go_simp;try with_reducible rfl
 try simp only [Act.put,p1,p2,p3]
 refine dU 5 ?v5 rfl(by kernel_rfl)(.inl⟨by rfl,?y5⟩)L16.out(fun _ h=>h)(fun _ _ _ h=>h) ?_
 case y5=>intro W hSw;go_simp;try with_reducible rfl
 try simp only [Act.put,p1,p2,p3]
 refine dU 6 ?v6 rfl(by kernel_rfl)(.inl⟨by rfl,?y6⟩)L16.out(fun _ h=>h)(fun _ _ _ h=>h) ?_
 case y6=>intro W hSw;have⟨p80,p81,p82⟩:=cells3(hSw.q.1.1.1.1.1.1.1.2);go_simp;try with_reducible rfl
 try simp only [Act.put,p1,p2,p3]
 refine dU 7 ?v7 rfl(by kernel_rfl)(.inl⟨by rfl,?y7⟩)L16.out(fun _ h=>h)(fun _ _ _ h=>h) ?_
 case y7=>intro W hSw;go_simp;try with_reducible rfl
 try simp only [Act.put,p1,p2,p3]
 refine dU 8 ?v8 rfl(by kernel_rfl)(.inl⟨by rfl,?y8⟩)L16.out(fun _ h=>h)(fun _ _ _ h=>h) ?_
 case y8=>intro W hSw;have⟨p90,p91,p92⟩:=cells3(hSw.q.1.1.1.1.1.1.2);go_simp;try with_reducible rfl
 try simp only [Act.put,p1,p2,p3]
 refine dU 9 ?v9 rfl(by kernel_rfl)(.inl⟨by rfl,?y9⟩)L16.out(fun _ h=>h)(fun _ _ _ h=>h) ?_
 case y9=>intro W hSw;go_simp;try with_reducible rfl
 try simp only [Act.put,p1,p2,p3]
 refine dU 10 ?v10 rfl(by kernel_rfl)(.inl⟨by rfl,?y10⟩)L16.out(fun _ h=>h)(fun _ _ _ h=>h) ?_
 case y10=>intro W hSw;go_simp;try with_reducible rfl
 try simp only [Act.put,p1,p2,p3]
 refine dU 11 ?v11 rfl(by kernel_rfl)(.inl⟨by rfl,?y11⟩)L16.out(fun _ h=>h)(fun _ _ _ h=>h) ?_
 case y11=>intro W hSw;go_simp;try with_reducible rfl
 try simp only [Act.put,p1,p2,p3]
 refine dU 12 ?v12 rfl(by kernel_rfl)(.inl⟨by rfl,?y12⟩)L16.out(fun _ h=>h)(fun _ _ _ h=>h) ?_
 case y12=>intro W hSw;go_simp;try with_reducible rfl
 try simp only [Act.put,p1,p2,p3]
 refine dU 13 ?v13 rfl(by kernel_rfl)(.inl⟨by rfl,?y13⟩)L16.out(fun _ h=>h)(fun _ _ _ h=>h) ?_
 case y13=>intro W hSw;have⟨p80,p81,p82⟩:=cells3(hSw.q.1.1.1.1.1.1.1.2);go_simp;try with_reducible rfl
 try simp only [Act.put,p1,p2,p3]
 refine dU 14 ?v14 rfl(by kernel_rfl)(.inl⟨by rfl,?y14⟩)L16.out(fun _ h=>h)(fun _ _ _ h=>h) ?_
 case y14=>intro W hSw;go_simp;try with_reducible rfl
 try simp only [Act.put,p1,p2,p3]
 refine dU 15 ?v15 rfl(by kernel_rfl)(.inl⟨by rfl,?y15⟩)L16.out(fun _ h=>h)(fun _ _ _ h=>h) ?_
 case y15=>intro W hSw;have⟨p90,p91,p92⟩:=cells3(hSw.q.1.1.1.1.1.1.2);go_simp;try with_reducible rfl
 try simp only [Act.put,p1,p2,p3]
 refine dO 16(by kernel_rfl)rfl fun K hK=>?_
 go_simp
 refine((L16.out.q.1.1.1.1.1.1.1.1.1.2).same(L16.out.q.1.1.1.1.1.1.1.1.2)).mono ?_
 rintro e w14⟨rfl,hb⟩
 have L17:=Lib.hid(L16.out.next hb)
 go_wp2_with fail
 refine hK.out _ _ L17.out ?_
 clear hK K L16 hb
 try simp only [Act.put,p1,p2,p3]
 refine dU 17 ?v16 rfl(by kernel_rfl)(.inl⟨by rfl,?y16⟩)L17.out(fun _ h=>h)(fun _ _ _ h=>h) ?_
 case y16=>intro W hSw;go_simp;try with_reducible rfl
 try simp only [Act.put,p1,p2,p3]
 refine dU 18 ?v17 rfl(by kernel_rfl)(.inl⟨by rfl,?y17⟩)L17.out(fun _ h=>h)(fun _ _ _ h=>h) ?_
 case y17=>intro W hSw;go_simp;try with_reducible rfl
 try simp only [Act.put,p1,p2,p3]
 refine dU 19 ?v18 rfl(by kernel_rfl)(.inl⟨by rfl,?y18⟩)L17.out(fun _ h=>h)(fun _ _ _ h=>h) ?_
 case y18=>intro W hSw;go_simp;try with_reducible rfl
 try simp only [Act.put,p1,p2,p3]
 refine dU 20 ?v19 rfl(by kernel_rfl)(.inl⟨by rfl,?y19⟩)L17.out(fun _ h=>h)(fun _ _ _ h=>h) ?_
 case y19=>intro W hSw;go_simp;try with_reducible rfl
 try simp only [Act.put,p1,p2,p3]
 refine dU 21 ?v20 rfl(by kernel_rfl)(.inl⟨by rfl,?y20⟩)L17.out(fun _ h=>h)(fun _ _ _ h=>h) ?_
 case y20=>intro W hSw;have p10:=cells1(hSw.q.1.1.1.1.2);go_simp;try with_reducible rfl
 try simp only [Act.put,p1,p2,p3]
 refine dO 22(by kernel_rfl)rfl fun K hK=>?_
 go_simp
 refine((L17.out.q.1.1.1.1.1.2).specText).mono ?_
 rintro e w15⟨rfl,hb⟩
 have L18:=Lib.hid(L17.out.next hb)
 go_wp2_with fail
 refine hK.out _ _ L18.out ?_
 clear hK K L17 hb
 try simp only [Act.put,p1,p2,p3]
 refine dU 23 ?v21 rfl(by kernel_rfl)(.inl⟨by rfl,?y21⟩)L18.out(fun _ h=>h)(fun _ _ _ h=>h) ?_
 case y21=>intro W hSw;go_simp;try with_reducible rfl
 try simp only [Act.put,p1,p2,p3]
 refine dU 24 ?v22 rfl(by kernel_rfl)(.inl⟨by rfl,?y22⟩)L18.out(fun _ h=>h)(fun _ _ _ h=>h) ?_
 case y22=>intro W hSw;go_simp;try with_reducible rfl
 try simp only [Act.put,p1,p2,p3]
 refine dU 25 ?v23 rfl(by kernel_rfl)(.inl⟨by rfl,?y23⟩)L18.out(fun _ h=>h)(fun _ _ _ h=>h) ?_
 case y23=>intro W hSw;go_simp;try with_reducible rfl
 try simp only [Act.put,p1,p2,p3]
 refine dU 26 ?v24 rfl(by kernel_rfl)(.inl⟨by rfl,?y24⟩)L18.out(fun _ h=>h)(fun _ _ _ h=>h) ?_
 case y24=>intro W hSw;go_simp;try with_reducible rfl
 try simp only [Act.put,p1,p2,p3]
 refine dU 27 ?v25 rfl(by kernel_rfl)(.inl⟨by rfl,?y25⟩)L18.out(fun _ h=>h)(fun _ _ _ h=>h) ?_
 case y25=>intro W hSw;have⟨p30,p31⟩:=cells2(hSw.q.1.2);go_simp;try with_reducible rfl
 try simp only [Act.put,p1,p2,p3]
 refine dU 28 ?v26 rfl(by kernel_rfl)(.inl⟨by rfl,?y26⟩)L18.out(fun _ h=>h)(fun _ _ _ h=>h) ?_
 case y26=>intro W hSw;go_simp;try with_reducible rfl
 try simp only [Act.put,p1,p2,p3]
 refine dU 29 ?v27 rfl(by kernel_rfl)(.inl⟨by rfl,?y27⟩)L18.out(fun _ h=>h)(fun _ _ _ h=>h) ?_
 case y27=>intro W hSw;have⟨p40,p41⟩:=cells2(hSw.q.2);go_simp;try with_reducible rfl
 try simp only [Act.put,p1,p2,p3]
 refine dU 30 ?v28 rfl(by kernel_rfl)(.inl⟨by rfl,?y28⟩)L18.out(fun _ h=>h)(fun _ _ _ h=>h) ?_
 case y28=>intro W hSw;go_simp;try with_reducible rfl
 try simp only [Act.put,p1,p2,p3]
 refine dU 31 ?v29 rfl(by kernel_rfl)(.inl⟨by rfl,?y29⟩)L18.out(fun _ h=>h)(fun _ _ _ h=>h) ?_
 case y29=>intro W hSw;go_simp;try with_reducible rfl
 try simp only [Act.put,p1,p2,p3]
 refine dU 32 ?v30 rfl(by kernel_rfl)(.inl⟨by rfl,?y30⟩)L18.out(fun _ h=>h)(fun _ _ _ h=>h) ?_
 case y30=>intro W hSw;go_simp;try with_reducible rfl
 try simp only [Act.put,p1,p2,p3]
 refine dU 33 ?v31 rfl(by kernel_rfl)(.inl⟨by rfl,?y31⟩)L18.out(fun _ h=>h)(fun _ _ _ h=>h) ?_
 case y31=>intro W hSw;go_simp;try with_reducible rfl
 try simp only [Act.put,p1,p2,p3]
 refine dU 34 ?v32 rfl(by kernel_rfl)(.inl⟨by rfl,?y32⟩)L18.out(fun _ h=>h)(fun _ _ _ h=>h) ?_
 case y32=>intro W hSw;have⟨p30,p31⟩:=cells2(hSw.q.1.2);go_simp;try with_reducible rfl
 try simp only [Act.put,p1,p2,p3]
 refine dU 35 ?v33 rfl(by kernel_rfl)(.inl⟨by rfl,?y33⟩)L18.out(fun _ h=>h)(fun _ _ _ h=>h) ?_
 case y33=>intro W hSw;go_simp;try with_reducible rfl
 try simp only [Act.put,p1,p2,p3]
 refine dU 36 ?v34 rfl(by kernel_rfl)(.inl⟨by rfl,?y34⟩)L18.out(fun _ h=>h)(fun _ _ _ h=>h) ?_
 case y34=>intro W hSw;have⟨p40,p41⟩:=cells2(hSw.q.2);go_simp;try with_reducible rfl
 try simp only [Act.put,p1,p2,p3]
 refine dO 37(by kernel_rfl)rfl fun K hK=>?_
 go_simp
 refine((L18.out.q.1.1.1.2).same(L18.out.q.1.1.2)).mono ?_
 rintro e w16⟨rfl,hb⟩
 have L19:=Lib.hid(L18.out.next hb)
 go_wp2_with fail
 refine hK.out _ _ L19.out ?_
 clear hK K L18 hb
 try simp only [Act.put,p1,p2,p3]
 refine dU 38 ?v35 rfl(by kernel_rfl)(.inl⟨by rfl,?y35⟩)L19.out(fun _ h=>h)(fun _ _ _ h=>h) ?_
 case y35=>intro W hSw;go_simp;try with_reducible rfl
 try simp only [Act.put,p1,p2,p3]
 refine dU 39 ?v36 rfl(by kernel_rfl)(.inl⟨by rfl,?y36⟩)L19.out(fun _ h=>h)(fun _ _ _ h=>h) ?_
 case y36=>intro W hSw;go_simp;try with_reducible rfl
 try simp only [Act.put,p1,p2,p3]
 refine dU 40 ?v37 rfl(by kernel_rfl)(.inl⟨by rfl,?y37⟩)L19.out(fun _ h=>h)(fun _ _ _ h=>h) ?_
 case y37=>intro W hSw;go_simp;try with_reducible rfl
 try simp only [Act.put,p1,p2,p3]
 refine dU 41 ?v38 rfl(by kernel_rfl)(.inl⟨by rfl,?y38⟩)L19.out(fun _ h=>h)(fun _ _ _ h=>h) ?_
 case y38=>intro W hSw;go_simp;try with_reducible rfl
 try simp only [Act.put,p1,p2,p3]
 refine dU 43 ?v39 rfl(by kernel_rfl)(.inl⟨by rfl,?y39⟩)L19.out(fun _ h=>h)(fun _ _ _ h=>h) ?_
 case y39=>intro W hSw;go_simp;try with_reducible rfl
 try simp only [Act.put,p1,p2,p3]
 refine dO 42(by kernel_rfl)rfl fun K hK=>?_
 go_simp
 refine(Words.implWordRight ta(by unfold maxLen;omega)_).mono ?_
 rintro e w17⟨rfl,rfl⟩
 have L20:=Lib.hid(L19.out)
 go_wp2_with fail
 refine hK.out _ _ L20.out ?_
 clear hK K L19 
 try simp only [Act.put,p1,p2,p3]
 refine dO 44(by kernel_rfl)rfl fun K hK=>?_
 go_simp
 refine(Words.specWordRight ta(by unfold maxLen;omega)_).mono ?_
 rintro e w18⟨rfl,rfl⟩
 have L21:=Lib.hid(L20.out)
 go_wp2_with fail
 refine hK.out _ _ L21.out ?_
 clear hK K L20 
 try simp only [Act.put,p1,p2,p3]
 refine dU 45 ?v40 rfl(by kernel_rfl)(.inl⟨by rfl,?y40⟩)L21.out(fun _ h=>h)(fun _ _ _ h=>h) ?_
 case y40=>intro W hSw;go_simp;try with_reducible rfl
 try simp only [Act.put,p1,p2,p3]
 refine dU 46 ?v41 rfl(by kernel_rfl)(.inl⟨by rfl,?y41⟩)L21.out(fun _ h=>h)(fun _ _ _ h=>h) ?_
 case y41=>intro W hSw;go_simp;try with_reducible rfl
 try simp only [Act.put,p1,p2,p3]
 refine dU 47 ?v42 rfl(by kernel_rfl)(.inl⟨by rfl,?y42⟩)L21.out(fun _ h=>h)(fun _ _ _ h=>h) ?_
 case y42=>intro W hSw;go_simp;try with_reducible rfl
 try simp only [Act.put,p1,p2,p3]
 refine dU 48 ?v43 rfl(by kernel_rfl)(.inl⟨by rfl,?y43⟩)L21.out(fun _ h=>h)(fun _ _ _ h=>h) ?_
 case y43=>intro W hSw;go_simp;try with_reducible rfl
 try simp only [Act.put,p1,p2,p3]
 refine dU 50 ?v44 rfl(by kernel_rfl)(.inl⟨by rfl,?y44⟩)L21.out(fun _ h=>h)(fun _ _ _ h=>h) ?_
 case y44=>intro W hSw;go_simp;try with_reducible rfl
 try simp only [Act.put,p1,p2,p3]
 refine dO 49(by kernel_rfl)rfl fun K hK=>?_
 go_simp
 refine(Words.implTypeWord tb(by unfold maxLen;omega)_).mono ?_
 rintro e w19⟨rfl,rfl⟩
 have L22:=Lib.hid(L21.out)
 go_wp2_with fail
 refine hK.out _ _ L22.out ?_
 clear hK K L21 
 try simp only [Act.put,p1,p2,p3]
 refine dO 51(by kernel_rfl)rfl fun K hK=>?_
 go_simp
 refine(Words.specTypeWord tb(by unfold maxLen;omega)_).mono ?_
 rintro e w20⟨rfl,rfl⟩
 have L23:=Lib.hid(L22.out)
 go_wp2_with fail
 refine hK.out _ _ L23.out ?_
 clear hK K L22 
 try simp only [Act.put,p1,p2,p3]
 refine dU 52 ?v45 rfl(by kernel_rfl)(.inl⟨by rfl,?y45⟩)L23.out(fun _ h=>h)(fun _ _ _ h=>h) ?_
 case y45=>intro W hSw;go_simp;try with_reducible rfl
 try simp only [Act.put,p1,p2,p3]
 refine dU 53 ?v46 rfl(by kernel_rfl)(.inl⟨by rfl,?y46⟩)L23.out(fun _ h=>h)(fun _ _ _ h=>h) ?_
 case y46=>intro W hSw;go_simp;try with_reducible rfl
 try simp only [Act.put,p1,p2,p3]
 refine dU 54 ?v47 rfl(by kernel_rfl)(.inl⟨by rfl,?y47⟩)L23.out(fun _ h=>h)(fun _ _ _ h=>h) ?_
 case y47=>intro W hSw;go_simp;try with_reducible rfl
 try simp only [Act.put,p1,p2,p3]
 refine dU 55 ?v48 rfl(by kernel_rfl)(.inl⟨by rfl,?y48⟩)L23.out(fun _ h=>h)(fun _ _ _ h=>h) ?_
 case y48=>intro W hSw;have⟨p50,p51⟩:=cells2(hSw.q.1.1.1.1.1.1.1.1.1.1.2);go_simp;try with_reducible rfl
 try simp only [Act.put,p1,p2,p3]
 refine dU 57 ?v49 rfl(by kernel_rfl)(.inl⟨by rfl,?y49⟩)L23.out(fun _ h=>h)(fun _ _ _ h=>h) ?_
 case y49=>intro W hSw;have⟨p50,p51⟩:=cells2(hSw.q.1.1.1.1.1.1.1.1.1.1.2);go_simp;try with_reducible rfl
 try simp only [Act.put,p1,p2,p3]
 refine dO 56(by kernel_rfl)rfl fun K hK=>?_
 go_simp
 refine((L23.out.q.1.1.1.1.1.1.1.1.1.1.1.2).implRight).mono ?_
 rintro e w21⟨rfl,hb⟩
 have L24:=Lib.hid(L23.out.next hb)
 go_wp2_with fail
 refine hK.out _ _ L24.out ?_
 clear hK K L23 hb
 try simp only [Act.put,p1,p2,p3]
 refine dO 58(by kernel_rfl)rfl fun K hK=>?_
 go_simp
 refine((L24.out.q.1.1.1.1.1.1.1.1.1.1.1.2).specRight).mono ?_
 rintro e w22⟨rfl,hb⟩
 have L25:=Lib.hid(L24.out.next hb)
 go_wp2_with fail
 refine hK.out _ _ L25.out ?_
 clear hK K L24 hb
 try simp only [Act.put,p1,p2,p3]
 refine dU 59 ?v50 rfl(by kernel_rfl)(.inl⟨by rfl,?y50⟩)L25.out(fun _ h=>h)(fun _ _ _ h=>h) ?_
 case y50=>intro W hSw;go_simp;try with_reducible rfl
 try simp only [Act.put,p1,p2,p3]
 refine dU 60 ?v51 rfl(by kernel_rfl)(.inl⟨by rfl,?y51⟩)L25.out(fun _ h=>h)(fun _ _ _ h=>h) ?_
 case y51=>intro W hSw;go_simp;try with_reducible rfl
 try simp only [Act.put,p1,p2,p3]
 refine dU 61 ?v52 rfl(by kernel_rfl)(.inl⟨by rfl,?y52⟩)L25.out(fun _ h=>h)(fun _ _ _ h=>h) ?_
 case y52=>intro W hSw;go_simp;try with_reducible rfl
 try simp only [Act.put,p1,p2,p3]
 refine dU 62 ?v53 rfl(by kernel_rfl)(.inl⟨by rfl,?y53⟩)L25.out(fun _ h=>h)(fun _ _ _ h=>h) ?_
 case y53=>intro W hSw;have⟨p50,p51⟩:=cells2(hSw.q.1.1.1.1.1.1.1.1.1.1.2);go_simp;try with_reducible rfl
 try simp only [Act.put,p1,p2,p3]
 refine dU 64 ?v54 rfl(by kernel_rfl)(.inl⟨by rfl,?y54⟩)L25.out(fun _ h=>h)(fun _ _ _ h=>h) ?_
 case y54=>intro W hSw;have⟨p50,p51⟩:=cells2(hSw.q.1.1.1.1.1.1.1.1.1.1.2);go_simp;try with_reducible rfl
 try simp only [Act.put,p1,p2,p3]
 refine dO 63(by kernel_rfl)rfl fun K hK=>?_
 go_simp
 refine((L25.out.q.1.1.1.1.1.1.1.1.1.1.1.2).implCount).mono ?_
 rintro e w23⟨rfl,hb⟩
 have L26:=Lib.hid(L25.out.next hb)
 go_wp2_with fail
 refine hK.out _ _ L26.out ?_
 clear hK K L25 hb
 try simp only [Act.put,p1,p2,p3]
 refine dO 65(by kernel_rfl)rfl fun K hK=>?_
 go_simp
 refine((L26.out.q.1.1.1.1.1.1.1.1.1.1.1.2).specCount).mono ?_
 rintro e w24⟨rfl,hb⟩
 have L27:=Lib.hid(L26.out.next hb)
 go_wp2_with fail
 refine hK.out _ _ L27.out ?_
 clear hK K L26 hb
 try simp only [Act.put,p1,p2,p3]
 refine dU 66 ?v55 rfl(by kernel_rfl)(.inl⟨by rfl,?y55⟩)L27.out(fun _ h=>h)(fun _ _ _ h=>h) ?_
 case y55=>intro W hSw;go_simp;try with_reducible rfl
 try simp only [Act.put,p1,p2,p3]
 refine dU 67 ?v56 rfl(by kernel_rfl)(.inl⟨by rfl,?y56⟩)L27.out(fun _ h=>h)(fun _ _ _ h=>h) ?_
 case y56=>intro W hSw;go_simp;try with_reducible rfl
 try simp only [Act.put,p1,p2,p3]
 refine dU 68 ?v57 rfl(by kernel_rfl)(.inl⟨by rfl,?y57⟩)L27.out(fun _ h=>h)(fun _ _ _ h=>h) ?_
 case y57=>intro W hSw;go_simp;try with_reducible rfl
 try simp only [Act.put,p1,p2,p3]
 refine dU 69 ?v58 rfl(by kernel_rfl)(.inl⟨by rfl,?y58⟩)L27.out(fun _ h=>h)(fun _ _ _ h=>h) ?_
 case y58=>intro W hSw;have p10:=cells1(hSw.q.1.1.1.1.2);go_simp;try with_reducible rfl
 try simp only [Act.put,p1,p2,p3]
 refine dU 71 ?v59 rfl(by kernel_rfl)(.inl⟨by rfl,?y59⟩)L27.out(fun _ h=>h)(fun _ _ _ h=>h) ?_
 case y59=>intro W hSw;have p10:=cells1(hSw.q.1.1.1.1.2);go_simp;try with_reducible rfl
 try simp only [Act.put,p1,p2,p3]
 refine dO 70(by kernel_rfl)rfl fun K hK=>?_
 go_simp
 refine((L27.out.q.1.1.1.1.1.2).implRight).mono ?_
 rintro e w25⟨rfl,hb⟩
 have L28:=Lib.hid(L27.out.next hb)
 go_wp2_with fail
 refine hK.out _ _ L28.out ?_
 clear hK K L27 hb
 try simp only [Act.put,p1,p2,p3]
 refine dO 72(by kernel_rfl)rfl fun K hK=>?_
 go_simp
 refine((L28.out.q.1.1.1.1.1.2).specRight).mono ?_
 rintro e w26⟨rfl,hb⟩
 have L29:=Lib.hid(L28.out.next hb)
 go_wp2_with fail
 refine hK.out _ _ L29.out ?_
 clear hK K L28 hb
 try simp only [Act.put,p1,p2,p3]
 refine dU 73 ?v60 rfl(by kernel_rfl)(.inl⟨by rfl,?y60⟩)L29.out(fun _ h=>h)(fun _ _ _ h=>h) ?_
 case y60=>intro W hSw;go_simp;try with_reducible rfl
 try simp only [Act.put,p1,p2,p3]
 refine dU 74 ?v61 rfl(by kernel_rfl)(.inl⟨by rfl,?y61⟩)L29.out(fun _ h=>h)(fun _ _ _ h=>h) ?_
 case y61=>intro W hSw;go_simp;try with_reducible rfl
 try simp only [Act.put,p1,p2,p3]
 refine Due.anyD_done(by kernel_rfl) ?_ _
 go_upto_region 14 with fail
 obtain⟨QQ,HL,HFD,HFX,HFS,HFZ,HB5,HB8,HB10,HB13⟩:∃ Q:World→Prop,Hid(Led w Q w26)∧Hid(∀ X,Q X→KD(.agg #[.slice da dn dca,.slice db dm dcb])d X)∧Hid(∀ X,Q X→KD(.agg #[.slice xa xn xca,.slice xb xm xcb])dq X)∧Hid(∀ X,Q X→KS(.agg #[.slice sa sn sca])s X)∧Hid(∀ X,Q X→KS(.agg #[.slice za zn zca])sq X)∧Hid(∀ X,Q X→X.heap[w1.heap.size]?=some(.cells #[.slice da dn dca,.slice db dm dcb] 26))∧Hid(∀ X,Q X→X.heap[w5.heap.size]?=some(.cells #[.slice xa xn xca,.slice xb xm xcb,.int .i64 cq] 31))∧Hid(∀ X,Q X→X.heap[w6.heap.size]?=some(.cells #[.slice sa sn sca] 35))∧Hid(∀ X,Q X→X.heap[w10.heap.size]?=some(.cells #[.slice za zn zca,.int .i64 kq] 39)):=⟨_,L29,Lib.hid fun X h=>h.1.1.1.1.1.1.1.1.1.1.1.2,Lib.hid fun X h=>h.1.1.1.1.1.1.1.1.1.2,Lib.hid fun X h=>h.1.1.1.1.1.2,Lib.hid fun X h=>h.1.1.1.2,Lib.hid fun X h=>h.1.1.1.1.1.1.1.1.1.1.2,Lib.hid fun X h=>h.1.1.1.1.1.1.1.2,Lib.hid fun X h=>h.1.1.1.1.2,Lib.hid fun X h=>h.1.2⟩
 clear L29
 go_cut [145] from 124 to 144(fun v wx=>v=.bool false∧Hid(Led w QQ wx))
 case first=>as_aux_lemma =>
  have⟨p80,p81,p82⟩:=cells3(HB8.out _ HL.out.q)
  have⟨p30,p31⟩:=cells2(HB13.out _ HL.out.q)
  by_cases hc:cq=0
  ·subst hc
   have hq:=HQ.out rfl
   go_wp2_with fail
   refine((HFX.out _ HL.out.q).implText(HL.out.vars HV.out)).mono ?_
   rintro e wa⟨rfl,hb⟩
   have HL2:=Lib.hid(HL.out.next hb)
   clear HL hb p80 p81 p82 p30 p31
   have⟨p30,p31⟩:=cells2(HB13.out _ HL2.out.q)
   by_cases hk:kq=0
   ·subst hk
    have hz':=HK.out rfl
    go_wp2_with fail
    refine((HFZ.out _ HL2.out.q).implText(HL2.out.vars HV.out)).mono ?_
    rintro e wb⟨rfl,hb⟩
    have HL3:=Lib.hid(HL2.out.next hb)
    clear HL2 hb p30 p31
    go_wp2_with fail
    go_meet
    exact⟨rfl,HL3⟩
   ·have hkd:decide(kq=0)=false:=decide_eq_false hk
    go_wp2_with fail
    go_meet
    exact⟨rfl,HL2⟩
  ·have hcd:decide(cq=0)=false:=decide_eq_false hc
   by_cases hk:kq=0
   ·subst hk
    have hz':=HK.out rfl
    go_wp2_with fail
    refine((HFZ.out _ HL.out.q).implText(HL.out.vars HV.out)).mono ?_
    rintro e wb⟨rfl,hb⟩
    have HL3:=Lib.hid(HL.out.next hb)
    clear HL hb p30 p31
    go_wp2_with fail
    go_meet
    exact⟨rfl,HL3⟩
   ·have hkd:decide(kq=0)=false:=decide_eq_false hk
    go_wp2_with fail
    go_meet
    exact⟨rfl,HL⟩
 case rest=>as_aux_lemma =>
  obtain⟨rfl,HLW⟩:=hcut
  clear HQ HK HCQ HCK HFX HFZ HB8 HB13 HL
  go_wp2_with fail
  obtain⟨tx,htx⟩:∃ t,docT d=t:=⟨_,rfl⟩
  obtain⟨ty,hty⟩:∃ t,schT s=t:=⟨_,rfl⟩
  rw [htx,hty]
  have CD:Hid(tx≠⟨#[]⟩→tx.size≤8000→∀ W,Vars W.heap.size W→Calls Tryz.prog 7 #[.string tx] W fun e w'=>DRes d 0 W w' e):=Lib.hid fun h1 h2 W hv=>by
   have h3:=back_d(d:=d)(by rw [htx];exact h1)(by rw [htx];exact h2)
   rw [htx] at h3
   have:=implRd tx(by omega)W hv
   rwa [h3] at this
  have CE:Hid(ty≠⟨#[]⟩→ty.size≤8000→∀ W,Vars W.heap.size W→Calls Tryz.prog 12 #[.string ty] W fun e w'=>SRes s 0 W w' e):=Lib.hid fun h1 h2 W hv=>by
   have h3:=back_s(s:=s)(by rw [hty];exact h1)(by rw [hty];exact h2)
   rw [hty] at h3
   have:=implRs ty(by unfold OkS;omega)W hv
   rwa [h3] at this
  clear htx hty
  refine region_led HLW.out(by kernel_rfl) ?_
  have HM:=Lib.hid HLW.out.drew
  clear HLW
  by_cases hne:tx=⟨#[]⟩
  ·subst hne
   have hneE:=isEmpty_
   as_aux_lemma =>
    refine dU 0 ?v62 rfl(by kernel_rfl)(.inl⟨by rfl,?y62⟩)HM.out(fun _ h=>h)(fun _ _ _ h=>h) ?_
    case y62=>intro W hSw;go_simp;try with_reducible rfl
    try simp only [Act.put,p1,p2,p3]
    refine dU 1 ?v63 rfl(by kernel_rfl)(.inl⟨by rfl,?y63⟩)HM.out(fun _ h=>h)(fun _ _ _ h=>h) ?_
    case y63=>intro W hSw;go_simp;try with_reducible rfl
    try simp only [Act.put,p1,p2,p3]
    refine dU 2 ?v64 rfl(by kernel_rfl)(.inl⟨by rfl,?y64⟩)HM.out(fun _ h=>h)(fun _ _ _ h=>h) ?_
    case y64=>intro W hSw;go_simp;try with_reducible rfl
    try simp only [Act.put,p1,p2,p3]
    refine dU 3 undef rfl(by kernel_rfl)(.inr⟨by rfl,rfl⟩)HM.out(fun _ h=>h)(fun _ _ _ h=>h) ?_
    try simp only [Act.put,p1,p2,p3]
    refine dU 4 undef rfl(by kernel_rfl)(.inr⟨by rfl,rfl⟩)HM.out(fun _ h=>h)(fun _ _ _ h=>h) ?_
    try simp only [Act.put,p1,p2,p3]
    refine dU 5 undef rfl(by kernel_rfl)(.inr⟨by rfl,rfl⟩)HM.out(fun _ h=>h)(fun _ _ _ h=>h) ?_
    try simp only [Act.put,p1,p2,p3]
    refine dU 6 ?v68 rfl(by kernel_rfl)(.inl⟨by rfl,?y68⟩)HM.out(fun _ h=>h)(fun _ _ _ h=>h) ?_
    case y68=>intro W hSw;go_simp;try with_reducible rfl
    try simp only [Act.put,p1,p2,p3]
    refine dU 7 ?v69 rfl(by kernel_rfl)(.inl⟨by rfl,?y69⟩)HM.out(fun _ h=>h)(fun _ _ _ h=>h) ?_
    case y69=>intro W hSw;go_simp;try with_reducible rfl
    try simp only [Act.put,p1,p2,p3]
    refine dU 8 undef rfl(by kernel_rfl)(.inr⟨by rfl,rfl⟩)HM.out(fun _ h=>h)(fun _ _ _ h=>h) ?_
    try simp only [Act.put,p1,p2,p3]
    refine dU 9 undef rfl(by kernel_rfl)(.inr⟨by rfl,rfl⟩)HM.out(fun _ h=>h)(fun _ _ _ h=>h) ?_
    try simp only [Act.put,p1,p2,p3]
    refine dU 10 undef rfl(by kernel_rfl)(.inr⟨by rfl,rfl⟩)HM.out(fun _ h=>h)(fun _ _ _ h=>h) ?_
    try simp only [Act.put,p1,p2,p3]
    refine dU 11 undef rfl(by kernel_rfl)(.inr⟨by rfl,rfl⟩)HM.out(fun _ h=>h)(fun _ _ _ h=>h) ?_
    try simp only [Act.put,p1,p2,p3]
    refine dU 12 undef rfl(by kernel_rfl)(.inr⟨by rfl,rfl⟩)HM.out(fun _ h=>h)(fun _ _ _ h=>h) ?_
    try simp only [Act.put,p1,p2,p3]
    refine dU 13 ?v75 rfl(by kernel_rfl)(.inl⟨by rfl,?y75⟩)HM.out(fun _ h=>h)(fun _ _ _ h=>h) ?_
    case y75=>intro W hSw;go_simp;try with_reducible rfl
    try simp only [Act.put,p1,p2,p3]
    refine dU 14 ?v76 rfl(by kernel_rfl)(.inl⟨by rfl,?y76⟩)HM.out(fun _ h=>h)(fun _ _ _ h=>h) ?_
    case y76=>intro W hSw;go_simp;try with_reducible rfl
    try simp only [Act.put,p1,p2,p3]
    by_cases hne2:ty=⟨#[]⟩
    ·subst hne2
     have hne2E:=isEmpty_
     as_aux_lemma =>
      refine dU 15 ?v77 rfl(by kernel_rfl)(.inl⟨by rfl,?y77⟩)HM.out(fun _ h=>h)(fun _ _ _ h=>h) ?_
      case y77=>intro W hSw;go_simp;try with_reducible rfl
      try simp only [Act.put,p1,p2,p3]
      refine dU 16 ?v78 rfl(by kernel_rfl)(.inl⟨by rfl,?y78⟩)HM.out(fun _ h=>h)(fun _ _ _ h=>h) ?_
      case y78=>intro W hSw;go_simp;try with_reducible rfl
      try simp only [Act.put,p1,p2,p3]
      refine dU 17 ?v79 rfl(by kernel_rfl)(.inl⟨by rfl,?y79⟩)HM.out(fun _ h=>h)(fun _ _ _ h=>h) ?_
      case y79=>intro W hSw;go_simp;try with_reducible rfl
      try simp only [Act.put,p1,p2,p3]
      refine dU 18 undef rfl(by kernel_rfl)(.inr⟨by rfl,rfl⟩)HM.out(fun _ h=>h)(fun _ _ _ h=>h) ?_
      try simp only [Act.put,p1,p2,p3]
      refine dU 19 undef rfl(by kernel_rfl)(.inr⟨by rfl,rfl⟩)HM.out(fun _ h=>h)(fun _ _ _ h=>h) ?_
      try simp only [Act.put,p1,p2,p3]
      refine dU 20 undef rfl(by kernel_rfl)(.inr⟨by rfl,rfl⟩)HM.out(fun _ h=>h)(fun _ _ _ h=>h) ?_
      try simp only [Act.put,p1,p2,p3]
      refine dU 21 ?v83 rfl(by kernel_rfl)(.inl⟨by rfl,?y83⟩)HM.out(fun _ h=>h)(fun _ _ _ h=>h) ?_
      case y83=>intro W hSw;go_simp;try with_reducible rfl
      try simp only [Act.put,p1,p2,p3]
      refine dU 22 ?v84 rfl(by kernel_rfl)(.inl⟨by rfl,?y84⟩)HM.out(fun _ h=>h)(fun _ _ _ h=>h) ?_
      case y84=>intro W hSw;go_simp;try with_reducible rfl
      try simp only [Act.put,p1,p2,p3]
      refine dU 23 undef rfl(by kernel_rfl)(.inr⟨by rfl,rfl⟩)HM.out(fun _ h=>h)(fun _ _ _ h=>h) ?_
      try simp only [Act.put,p1,p2,p3]
      refine dU 24 undef rfl(by kernel_rfl)(.inr⟨by rfl,rfl⟩)HM.out(fun _ h=>h)(fun _ _ _ h=>h) ?_
      try simp only [Act.put,p1,p2,p3]
      refine dU 25 undef rfl(by kernel_rfl)(.inr⟨by rfl,rfl⟩)HM.out(fun _ h=>h)(fun _ _ _ h=>h) ?_
      try simp only [Act.put,p1,p2,p3]
      refine dU 26 undef rfl(by kernel_rfl)(.inr⟨by rfl,rfl⟩)HM.out(fun _ h=>h)(fun _ _ _ h=>h) ?_
      try simp only [Act.put,p1,p2,p3]
      refine dU 27 undef rfl(by kernel_rfl)(.inr⟨by rfl,rfl⟩)HM.out(fun _ h=>h)(fun _ _ _ h=>h) ?_
      try simp only [Act.put,p1,p2,p3]
      refine dU 28 ?v90 rfl(by kernel_rfl)(.inl⟨by rfl,?y90⟩)HM.out(fun _ h=>h)(fun _ _ _ h=>h) ?_
      case y90=>intro W hSw;go_simp;try with_reducible rfl
      try simp only [Act.put,p1,p2,p3]
      refine dU 29 ?v91 rfl(by kernel_rfl)(.inl⟨by rfl,?y91⟩)HM.out(fun _ h=>h)(fun _ _ _ h=>h) ?_
      case y91=>intro W hSw;go_simp;try with_reducible rfl
      try simp only [Act.put,p1,p2,p3]
      refine dU 30 ?v92 rfl(by kernel_rfl)(.inl⟨by rfl,?y92⟩)HM.out(fun _ h=>h)(fun _ _ _ h=>h) ?_
      case y92=>intro W hSw;go_simp;try with_reducible rfl
      try simp only [Act.put,p1,p2,p3]
      refine Due.anyD_done(by kernel_rfl) ?_ _
      go_wp2_with fail
      go_ret
      exact⟨rfl,HM.out.bel⟩
    ·have hne2b:=notEmpty hne2
     by_cases hne2s:8000 < ty.size
     ·have hne2i:decide((8000:Int) < (ty.size:Int))=true:=decide_eq_true(by omega)
      as_aux_lemma =>
       refine dU 15 ?v93 rfl(by kernel_rfl)(.inl⟨by rfl,?y93⟩)HM.out(fun _ h=>h)(fun _ _ _ h=>h) ?_
       case y93=>intro W hSw;go_simp;try with_reducible rfl
       try simp only [Act.put,p1,p2,p3]
       refine dU 16 ?v94 rfl(by kernel_rfl)(.inl⟨by rfl,?y94⟩)HM.out(fun _ h=>h)(fun _ _ _ h=>h) ?_
       case y94=>intro W hSw;go_simp;try with_reducible rfl
       try simp only [Act.put,p1,p2,p3]
       refine dU 17 ?v95 rfl(by kernel_rfl)(.inl⟨by rfl,?y95⟩)HM.out(fun _ h=>h)(fun _ _ _ h=>h) ?_
       case y95=>intro W hSw;go_simp;try with_reducible rfl
       try simp only [Act.put,p1,p2,p3]
       refine dU 18 ?v96 rfl(by kernel_rfl)(.inl⟨by rfl,?y96⟩)HM.out(fun _ h=>h)(fun _ _ _ h=>h) ?_
       case y96=>intro W hSw;go_simp;try with_reducible rfl
       try simp only [Act.put,p1,p2,p3]
       refine dU 19 ?v97 rfl(by kernel_rfl)(.inl⟨by rfl,?y97⟩)HM.out(fun _ h=>h)(fun _ _ _ h=>h) ?_
       case y97=>intro W hSw;go_simp;try with_reducible rfl
       try simp only [Act.put,p1,p2,p3]
       refine dU 20 ?v98 rfl(by kernel_rfl)(.inl⟨by rfl,?y98⟩)HM.out(fun _ h=>h)(fun _ _ _ h=>h) ?_
       case y98=>intro W hSw;go_simp;try with_reducible rfl
       try simp only [Act.put,p1,p2,p3]
       refine dU 21 ?v99 rfl(by kernel_rfl)(.inl⟨by rfl,?y99⟩)HM.out(fun _ h=>h)(fun _ _ _ h=>h) ?_
       case y99=>intro W hSw;go_simp;try with_reducible rfl
       try simp only [Act.put,p1,p2,p3]
       refine dU 22 ?v100 rfl(by kernel_rfl)(.inl⟨by rfl,?y100⟩)HM.out(fun _ h=>h)(fun _ _ _ h=>h) ?_
       case y100=>intro W hSw;go_simp;try with_reducible rfl
       try simp only [Act.put,p1,p2,p3]
       refine dU 23 undef rfl(by kernel_rfl)(.inr⟨by rfl,rfl⟩)HM.out(fun _ h=>h)(fun _ _ _ h=>h) ?_
       try simp only [Act.put,p1,p2,p3]
       refine dU 24 undef rfl(by kernel_rfl)(.inr⟨by rfl,rfl⟩)HM.out(fun _ h=>h)(fun _ _ _ h=>h) ?_
       try simp only [Act.put,p1,p2,p3]
       refine dU 25 undef rfl(by kernel_rfl)(.inr⟨by rfl,rfl⟩)HM.out(fun _ h=>h)(fun _ _ _ h=>h) ?_
       try simp only [Act.put,p1,p2,p3]
       refine dU 26 undef rfl(by kernel_rfl)(.inr⟨by rfl,rfl⟩)HM.out(fun _ h=>h)(fun _ _ _ h=>h) ?_
       try simp only [Act.put,p1,p2,p3]
       refine dU 27 undef rfl(by kernel_rfl)(.inr⟨by rfl,rfl⟩)HM.out(fun _ h=>h)(fun _ _ _ h=>h) ?_
       try simp only [Act.put,p1,p2,p3]
       refine dU 28 ?v106 rfl(by kernel_rfl)(.inl⟨by rfl,?y106⟩)HM.out(fun _ h=>h)(fun _ _ _ h=>h) ?_
       case y106=>intro W hSw;go_simp;try with_reducible rfl
       try simp only [Act.put,p1,p2,p3]
       refine dU 29 ?v107 rfl(by kernel_rfl)(.inl⟨by rfl,?y107⟩)HM.out(fun _ h=>h)(fun _ _ _ h=>h) ?_
       case y107=>intro W hSw;go_simp;try with_reducible rfl
       try simp only [Act.put,p1,p2,p3]
       refine dU 30 ?v108 rfl(by kernel_rfl)(.inl⟨by rfl,?y108⟩)HM.out(fun _ h=>h)(fun _ _ _ h=>h) ?_
       case y108=>intro W hSw;go_simp;try with_reducible rfl
       try simp only [Act.put,p1,p2,p3]
       refine Due.anyD_done(by kernel_rfl) ?_ _
       go_wp2_with fail
       go_ret
       exact⟨rfl,HM.out.bel⟩
     ·have hne2i:decide((8000:Int) < (ty.size:Int))=false:=decide_eq_false(by omega)
      as_aux_lemma =>
       refine dU 15 ?v109 rfl(by kernel_rfl)(.inl⟨by rfl,?y109⟩)HM.out(fun _ h=>h)(fun _ _ _ h=>h) ?_
       case y109=>intro W hSw;go_simp;try with_reducible rfl
       try simp only [Act.put,p1,p2,p3]
       refine dU 16 ?v110 rfl(by kernel_rfl)(.inl⟨by rfl,?y110⟩)HM.out(fun _ h=>h)(fun _ _ _ h=>h) ?_
       case y110=>intro W hSw;go_simp;try with_reducible rfl
       try simp only [Act.put,p1,p2,p3]
       refine dU 17 ?v111 rfl(by kernel_rfl)(.inl⟨by rfl,?y111⟩)HM.out(fun _ h=>h)(fun _ _ _ h=>h) ?_
       case y111=>intro W hSw;go_simp;try with_reducible rfl
       try simp only [Act.put,p1,p2,p3]
       refine dU 18 ?v112 rfl(by kernel_rfl)(.inl⟨by rfl,?y112⟩)HM.out(fun _ h=>h)(fun _ _ _ h=>h) ?_
       case y112=>intro W hSw;go_simp;try with_reducible rfl
       try simp only [Act.put,p1,p2,p3]
       refine dU 19 ?v113 rfl(by kernel_rfl)(.inl⟨by rfl,?y113⟩)HM.out(fun _ h=>h)(fun _ _ _ h=>h) ?_
       case y113=>intro W hSw;go_simp;try with_reducible rfl
       try simp only [Act.put,p1,p2,p3]
       refine dU 20 ?v114 rfl(by kernel_rfl)(.inl⟨by rfl,?y114⟩)HM.out(fun _ h=>h)(fun _ _ _ h=>h) ?_
       case y114=>intro W hSw;go_simp;try with_reducible rfl
       try simp only [Act.put,p1,p2,p3]
       refine dU 21 ?v115 rfl(by kernel_rfl)(.inl⟨by rfl,?y115⟩)HM.out(fun _ h=>h)(fun _ _ _ h=>h) ?_
       case y115=>intro W hSw;go_simp;try with_reducible rfl
       try simp only [Act.put,p1,p2,p3]
       refine dU 22 ?v116 rfl(by kernel_rfl)(.inl⟨by rfl,?y116⟩)HM.out(fun _ h=>h)(fun _ _ _ h=>h) ?_
       case y116=>intro W hSw;go_simp;try with_reducible rfl
       try simp only [Act.put,p1,p2,p3]
       refine dU 23 ?v117 rfl(by kernel_rfl)(.inl⟨by rfl,?y117⟩)HM.out(fun _ h=>h)(fun _ _ _ h=>h) ?_
       case y117=>intro W hSw;go_simp;try with_reducible rfl
       try simp only [Act.put,p1,p2,p3]
       refine dU 26 ?v118 rfl(by kernel_rfl)(.inl⟨by rfl,?y118⟩)HM.out(fun _ h=>h)(fun _ _ _ h=>h) ?_
       case y118=>intro W hSw;have p10:=cells1(HB10.out _ hSw.q);go_simp;try with_reducible rfl
       try simp only [Act.put,p1,p2,p3]
       refine dO 24(by kernel_rfl)rfl fun K hK=>?_
       go_simp
       refine(CE.out hne2(by omega)_(HM.out.vars HV.out)).mono ?_
       rintro e w27⟨⟨ea,en,eca,rfl,ke⟩,hb⟩
       have HM2:=Lib.hid(HM.out.next hb)
       have HE:=Lib.hid ke
       clear ke
       go_wp2_with fail
       refine hK.out _ _ HM2.out ?_
       clear hK K HM hb
       have HM:=HM2
       clear HM2
       try simp only [Act.put,p1,p2,p3]
       refine dU 25 ?v119 rfl(by kernel_rfl)(.inl⟨by rfl,?y119⟩)HM.out(fun _ h=>h)(fun _ _ _ h=>h) ?_
       case y119=>intro W hSw;go_simp;rw [fieldS];rfl
       try simp only [Act.put,p1,p2,p3]
       refine dO 27(by kernel_rfl)rfl fun K hK=>?_
       go_simp
       refine(HE.out.same(HFS.out _ HM.out.q)).mono ?_
       rintro e w28⟨rfl,hb⟩
       have HM2:=Lib.hid(HM.out.next hb)
       clear HE
       go_wp2_with fail
       refine hK.out _ _ HM2.out ?_
       clear hK K HM hb
       have HM:=HM2
       clear HM2
       try simp only [Act.put,p1,p2,p3]
       refine dU 28 ?v120 rfl(by kernel_rfl)(.inl⟨by rfl,?y120⟩)HM.out(fun _ h=>h)(fun _ _ _ h=>h) ?_
       case y120=>intro W hSw;go_simp;try with_reducible rfl
       try simp only [Act.put,p1,p2,p3]
       refine dU 29 ?v121 rfl(by kernel_rfl)(.inl⟨by rfl,?y121⟩)HM.out(fun _ h=>h)(fun _ _ _ h=>h) ?_
       case y121=>intro W hSw;go_simp;try with_reducible rfl
       try simp only [Act.put,p1,p2,p3]
       refine dU 30 ?v122 rfl(by kernel_rfl)(.inl⟨by rfl,?y122⟩)HM.out(fun _ h=>h)(fun _ _ _ h=>h) ?_
       case y122=>intro W hSw;go_simp;try with_reducible rfl
       try simp only [Act.put,p1,p2,p3]
       refine Due.anyD_done(by kernel_rfl) ?_ _
       go_wp2_with fail
       go_ret
       exact⟨rfl,HM.out.bel⟩
  ·have hneb:=notEmpty hne
   by_cases hnes:8000 < tx.size
   ·have hnei:decide((8000:Int) < (tx.size:Int))=true:=decide_eq_true(by omega)
    as_aux_lemma =>
     refine dU 0 ?v123 rfl(by kernel_rfl)(.inl⟨by rfl,?y123⟩)HM.out(fun _ h=>h)(fun _ _ _ h=>h) ?_
     case y123=>intro W hSw;go_simp;try with_reducible rfl
     try simp only [Act.put,p1,p2,p3]
     refine dU 1 ?v124 rfl(by kernel_rfl)(.inl⟨by rfl,?y124⟩)HM.out(fun _ h=>h)(fun _ _ _ h=>h) ?_
     case y124=>intro W hSw;go_simp;try with_reducible rfl
     try simp only [Act.put,p1,p2,p3]
     refine dU 2 ?v125 rfl(by kernel_rfl)(.inl⟨by rfl,?y125⟩)HM.out(fun _ h=>h)(fun _ _ _ h=>h) ?_
     case y125=>intro W hSw;go_simp;try with_reducible rfl
     try simp only [Act.put,p1,p2,p3]
     refine dU 3 ?v126 rfl(by kernel_rfl)(.inl⟨by rfl,?y126⟩)HM.out(fun _ h=>h)(fun _ _ _ h=>h) ?_
     case y126=>intro W hSw;go_simp;try with_reducible rfl
     try simp only [Act.put,p1,p2,p3]
     refine dU 4 ?v127 rfl(by kernel_rfl)(.inl⟨by rfl,?y127⟩)HM.out(fun _ h=>h)(fun _ _ _ h=>h) ?_
     case y127=>intro W hSw;go_simp;try with_reducible rfl
     try simp only [Act.put,p1,p2,p3]
     refine dU 5 ?v128 rfl(by kernel_rfl)(.inl⟨by rfl,?y128⟩)HM.out(fun _ h=>h)(fun _ _ _ h=>h) ?_
     case y128=>intro W hSw;go_simp;try with_reducible rfl
     try simp only [Act.put,p1,p2,p3]
     refine dU 6 ?v129 rfl(by kernel_rfl)(.inl⟨by rfl,?y129⟩)HM.out(fun _ h=>h)(fun _ _ _ h=>h) ?_
     case y129=>intro W hSw;go_simp;try with_reducible rfl
     try simp only [Act.put,p1,p2,p3]
     refine dU 7 ?v130 rfl(by kernel_rfl)(.inl⟨by rfl,?y130⟩)HM.out(fun _ h=>h)(fun _ _ _ h=>h) ?_
     case y130=>intro W hSw;go_simp;try with_reducible rfl
     try simp only [Act.put,p1,p2,p3]
     refine dU 8 undef rfl(by kernel_rfl)(.inr⟨by rfl,rfl⟩)HM.out(fun _ h=>h)(fun _ _ _ h=>h) ?_
     try simp only [Act.put,p1,p2,p3]
     refine dU 9 undef rfl(by kernel_rfl)(.inr⟨by rfl,rfl⟩)HM.out(fun _ h=>h)(fun _ _ _ h=>h) ?_
     try simp only [Act.put,p1,p2,p3]
     refine dU 10 undef rfl(by kernel_rfl)(.inr⟨by rfl,rfl⟩)HM.out(fun _ h=>h)(fun _ _ _ h=>h) ?_
     try simp only [Act.put,p1,p2,p3]
     refine dU 11 undef rfl(by kernel_rfl)(.inr⟨by rfl,rfl⟩)HM.out(fun _ h=>h)(fun _ _ _ h=>h) ?_
     try simp only [Act.put,p1,p2,p3]
     refine dU 12 undef rfl(by kernel_rfl)(.inr⟨by rfl,rfl⟩)HM.out(fun _ h=>h)(fun _ _ _ h=>h) ?_
     try simp only [Act.put,p1,p2,p3]
     refine dU 13 ?v136 rfl(by kernel_rfl)(.inl⟨by rfl,?y136⟩)HM.out(fun _ h=>h)(fun _ _ _ h=>h) ?_
     case y136=>intro W hSw;go_simp;try with_reducible rfl
     try simp only [Act.put,p1,p2,p3]
     refine dU 14 ?v137 rfl(by kernel_rfl)(.inl⟨by rfl,?y137⟩)HM.out(fun _ h=>h)(fun _ _ _ h=>h) ?_
     case y137=>intro W hSw;go_simp;try with_reducible rfl
     try simp only [Act.put,p1,p2,p3]
     by_cases hne2:ty=⟨#[]⟩
     ·subst hne2
      have hne2E:=isEmpty_
      as_aux_lemma =>
       refine dU 15 ?v138 rfl(by kernel_rfl)(.inl⟨by rfl,?y138⟩)HM.out(fun _ h=>h)(fun _ _ _ h=>h) ?_
       case y138=>intro W hSw;go_simp;try with_reducible rfl
       try simp only [Act.put,p1,p2,p3]
       refine dU 16 ?v139 rfl(by kernel_rfl)(.inl⟨by rfl,?y139⟩)HM.out(fun _ h=>h)(fun _ _ _ h=>h) ?_
       case y139=>intro W hSw;go_simp;try with_reducible rfl
       try simp only [Act.put,p1,p2,p3]
       refine dU 17 ?v140 rfl(by kernel_rfl)(.inl⟨by rfl,?y140⟩)HM.out(fun _ h=>h)(fun _ _ _ h=>h) ?_
       case y140=>intro W hSw;go_simp;try with_reducible rfl
       try simp only [Act.put,p1,p2,p3]
       refine dU 18 undef rfl(by kernel_rfl)(.inr⟨by rfl,rfl⟩)HM.out(fun _ h=>h)(fun _ _ _ h=>h) ?_
       try simp only [Act.put,p1,p2,p3]
       refine dU 19 undef rfl(by kernel_rfl)(.inr⟨by rfl,rfl⟩)HM.out(fun _ h=>h)(fun _ _ _ h=>h) ?_
       try simp only [Act.put,p1,p2,p3]
       refine dU 20 undef rfl(by kernel_rfl)(.inr⟨by rfl,rfl⟩)HM.out(fun _ h=>h)(fun _ _ _ h=>h) ?_
       try simp only [Act.put,p1,p2,p3]
       refine dU 21 ?v144 rfl(by kernel_rfl)(.inl⟨by rfl,?y144⟩)HM.out(fun _ h=>h)(fun _ _ _ h=>h) ?_
       case y144=>intro W hSw;go_simp;try with_reducible rfl
       try simp only [Act.put,p1,p2,p3]
       refine dU 22 ?v145 rfl(by kernel_rfl)(.inl⟨by rfl,?y145⟩)HM.out(fun _ h=>h)(fun _ _ _ h=>h) ?_
       case y145=>intro W hSw;go_simp;try with_reducible rfl
       try simp only [Act.put,p1,p2,p3]
       refine dU 23 undef rfl(by kernel_rfl)(.inr⟨by rfl,rfl⟩)HM.out(fun _ h=>h)(fun _ _ _ h=>h) ?_
       try simp only [Act.put,p1,p2,p3]
       refine dU 24 undef rfl(by kernel_rfl)(.inr⟨by rfl,rfl⟩)HM.out(fun _ h=>h)(fun _ _ _ h=>h) ?_
       try simp only [Act.put,p1,p2,p3]
       refine dU 25 undef rfl(by kernel_rfl)(.inr⟨by rfl,rfl⟩)HM.out(fun _ h=>h)(fun _ _ _ h=>h) ?_
       try simp only [Act.put,p1,p2,p3]
       refine dU 26 undef rfl(by kernel_rfl)(.inr⟨by rfl,rfl⟩)HM.out(fun _ h=>h)(fun _ _ _ h=>h) ?_
       try simp only [Act.put,p1,p2,p3]
       refine dU 27 undef rfl(by kernel_rfl)(.inr⟨by rfl,rfl⟩)HM.out(fun _ h=>h)(fun _ _ _ h=>h) ?_
       try simp only [Act.put,p1,p2,p3]
       refine dU 28 ?v151 rfl(by kernel_rfl)(.inl⟨by rfl,?y151⟩)HM.out(fun _ h=>h)(fun _ _ _ h=>h) ?_
       case y151=>intro W hSw;go_simp;try with_reducible rfl
       try simp only [Act.put,p1,p2,p3]
       refine dU 29 ?v152 rfl(by kernel_rfl)(.inl⟨by rfl,?y152⟩)HM.out(fun _ h=>h)(fun _ _ _ h=>h) ?_
       case y152=>intro W hSw;go_simp;try with_reducible rfl
       try simp only [Act.put,p1,p2,p3]
       refine dU 30 ?v153 rfl(by kernel_rfl)(.inl⟨by rfl,?y153⟩)HM.out(fun _ h=>h)(fun _ _ _ h=>h) ?_
       case y153=>intro W hSw;go_simp;try with_reducible rfl
       try simp only [Act.put,p1,p2,p3]
       refine Due.anyD_done(by kernel_rfl) ?_ _
       go_wp2_with fail
       go_ret
       exact⟨rfl,HM.out.bel⟩
     ·have hne2b:=notEmpty hne2
      by_cases hne2s:8000 < ty.size
      ·have hne2i:decide((8000:Int) < (ty.size:Int))=true:=decide_eq_true(by omega)
       as_aux_lemma =>
        refine dU 15 ?v154 rfl(by kernel_rfl)(.inl⟨by rfl,?y154⟩)HM.out(fun _ h=>h)(fun _ _ _ h=>h) ?_
        case y154=>intro W hSw;go_simp;try with_reducible rfl
        try simp only [Act.put,p1,p2,p3]
        refine dU 16 ?v155 rfl(by kernel_rfl)(.inl⟨by rfl,?y155⟩)HM.out(fun _ h=>h)(fun _ _ _ h=>h) ?_
        case y155=>intro W hSw;go_simp;try with_reducible rfl
        try simp only [Act.put,p1,p2,p3]
        refine dU 17 ?v156 rfl(by kernel_rfl)(.inl⟨by rfl,?y156⟩)HM.out(fun _ h=>h)(fun _ _ _ h=>h) ?_
        case y156=>intro W hSw;go_simp;try with_reducible rfl
        try simp only [Act.put,p1,p2,p3]
        refine dU 18 ?v157 rfl(by kernel_rfl)(.inl⟨by rfl,?y157⟩)HM.out(fun _ h=>h)(fun _ _ _ h=>h) ?_
        case y157=>intro W hSw;go_simp;try with_reducible rfl
        try simp only [Act.put,p1,p2,p3]
        refine dU 19 ?v158 rfl(by kernel_rfl)(.inl⟨by rfl,?y158⟩)HM.out(fun _ h=>h)(fun _ _ _ h=>h) ?_
        case y158=>intro W hSw;go_simp;try with_reducible rfl
        try simp only [Act.put,p1,p2,p3]
        refine dU 20 ?v159 rfl(by kernel_rfl)(.inl⟨by rfl,?y159⟩)HM.out(fun _ h=>h)(fun _ _ _ h=>h) ?_
        case y159=>intro W hSw;go_simp;try with_reducible rfl
        try simp only [Act.put,p1,p2,p3]
        refine dU 21 ?v160 rfl(by kernel_rfl)(.inl⟨by rfl,?y160⟩)HM.out(fun _ h=>h)(fun _ _ _ h=>h) ?_
        case y160=>intro W hSw;go_simp;try with_reducible rfl
        try simp only [Act.put,p1,p2,p3]
        refine dU 22 ?v161 rfl(by kernel_rfl)(.inl⟨by rfl,?y161⟩)HM.out(fun _ h=>h)(fun _ _ _ h=>h) ?_
        case y161=>intro W hSw;go_simp;try with_reducible rfl
        try simp only [Act.put,p1,p2,p3]
        refine dU 23 undef rfl(by kernel_rfl)(.inr⟨by rfl,rfl⟩)HM.out(fun _ h=>h)(fun _ _ _ h=>h) ?_
        try simp only [Act.put,p1,p2,p3]
        refine dU 24 undef rfl(by kernel_rfl)(.inr⟨by rfl,rfl⟩)HM.out(fun _ h=>h)(fun _ _ _ h=>h) ?_
        try simp only [Act.put,p1,p2,p3]
        refine dU 25 undef rfl(by kernel_rfl)(.inr⟨by rfl,rfl⟩)HM.out(fun _ h=>h)(fun _ _ _ h=>h) ?_
        try simp only [Act.put,p1,p2,p3]
        refine dU 26 undef rfl(by kernel_rfl)(.inr⟨by rfl,rfl⟩)HM.out(fun _ h=>h)(fun _ _ _ h=>h) ?_
        try simp only [Act.put,p1,p2,p3]
        refine dU 27 undef rfl(by kernel_rfl)(.inr⟨by rfl,rfl⟩)HM.out(fun _ h=>h)(fun _ _ _ h=>h) ?_
        try simp only [Act.put,p1,p2,p3]
        refine dU 28 ?v167 rfl(by kernel_rfl)(.inl⟨by rfl,?y167⟩)HM.out(fun _ h=>h)(fun _ _ _ h=>h) ?_
        case y167=>intro W hSw;go_simp;try with_reducible rfl
        try simp only [Act.put,p1,p2,p3]
        refine dU 29 ?v168 rfl(by kernel_rfl)(.inl⟨by rfl,?y168⟩)HM.out(fun _ h=>h)(fun _ _ _ h=>h) ?_
        case y168=>intro W hSw;go_simp;try with_reducible rfl
        try simp only [Act.put,p1,p2,p3]
        refine dU 30 ?v169 rfl(by kernel_rfl)(.inl⟨by rfl,?y169⟩)HM.out(fun _ h=>h)(fun _ _ _ h=>h) ?_
        case y169=>intro W hSw;go_simp;try with_reducible rfl
        try simp only [Act.put,p1,p2,p3]
        refine Due.anyD_done(by kernel_rfl) ?_ _
        go_wp2_with fail
        go_ret
        exact⟨rfl,HM.out.bel⟩
      ·have hne2i:decide((8000:Int) < (ty.size:Int))=false:=decide_eq_false(by omega)
       as_aux_lemma =>
        refine dU 15 ?v170 rfl(by kernel_rfl)(.inl⟨by rfl,?y170⟩)HM.out(fun _ h=>h)(fun _ _ _ h=>h) ?_
        case y170=>intro W hSw;go_simp;try with_reducible rfl
        try simp only [Act.put,p1,p2,p3]
        refine dU 16 ?v171 rfl(by kernel_rfl)(.inl⟨by rfl,?y171⟩)HM.out(fun _ h=>h)(fun _ _ _ h=>h) ?_
        case y171=>intro W hSw;go_simp;try with_reducible rfl
        try simp only [Act.put,p1,p2,p3]
        refine dU 17 ?v172 rfl(by kernel_rfl)(.inl⟨by rfl,?y172⟩)HM.out(fun _ h=>h)(fun _ _ _ h=>h) ?_
        case y172=>intro W hSw;go_simp;try with_reducible rfl
        try simp only [Act.put,p1,p2,p3]
        refine dU 18 ?v173 rfl(by kernel_rfl)(.inl⟨by rfl,?y173⟩)HM.out(fun _ h=>h)(fun _ _ _ h=>h) ?_
        case y173=>intro W hSw;go_simp;try with_reducible rfl
        try simp only [Act.put,p1,p2,p3]
        refine dU 19 ?v174 rfl(by kernel_rfl)(.inl⟨by rfl,?y174⟩)HM.out(fun _ h=>h)(fun _ _ _ h=>h) ?_
        case y174=>intro W hSw;go_simp;try with_reducible rfl
        try simp only [Act.put,p1,p2,p3]
        refine dU 20 ?v175 rfl(by kernel_rfl)(.inl⟨by rfl,?y175⟩)HM.out(fun _ h=>h)(fun _ _ _ h=>h) ?_
        case y175=>intro W hSw;go_simp;try with_reducible rfl
        try simp only [Act.put,p1,p2,p3]
        refine dU 21 ?v176 rfl(by kernel_rfl)(.inl⟨by rfl,?y176⟩)HM.out(fun _ h=>h)(fun _ _ _ h=>h) ?_
        case y176=>intro W hSw;go_simp;try with_reducible rfl
        try simp only [Act.put,p1,p2,p3]
        refine dU 22 ?v177 rfl(by kernel_rfl)(.inl⟨by rfl,?y177⟩)HM.out(fun _ h=>h)(fun _ _ _ h=>h) ?_
        case y177=>intro W hSw;go_simp;try with_reducible rfl
        try simp only [Act.put,p1,p2,p3]
        refine dU 23 ?v178 rfl(by kernel_rfl)(.inl⟨by rfl,?y178⟩)HM.out(fun _ h=>h)(fun _ _ _ h=>h) ?_
        case y178=>intro W hSw;go_simp;try with_reducible rfl
        try simp only [Act.put,p1,p2,p3]
        refine dU 26 ?v179 rfl(by kernel_rfl)(.inl⟨by rfl,?y179⟩)HM.out(fun _ h=>h)(fun _ _ _ h=>h) ?_
        case y179=>intro W hSw;have p10:=cells1(HB10.out _ hSw.q);go_simp;try with_reducible rfl
        try simp only [Act.put,p1,p2,p3]
        refine dO 24(by kernel_rfl)rfl fun K hK=>?_
        go_simp
        refine(CE.out hne2(by omega)_(HM.out.vars HV.out)).mono ?_
        rintro e w29⟨⟨ea,en,eca,rfl,ke⟩,hb⟩
        have HM2:=Lib.hid(HM.out.next hb)
        have HE:=Lib.hid ke
        clear ke
        go_wp2_with fail
        refine hK.out _ _ HM2.out ?_
        clear hK K HM hb
        have HM:=HM2
        clear HM2
        try simp only [Act.put,p1,p2,p3]
        refine dU 25 ?v180 rfl(by kernel_rfl)(.inl⟨by rfl,?y180⟩)HM.out(fun _ h=>h)(fun _ _ _ h=>h) ?_
        case y180=>intro W hSw;go_simp;rw [fieldS];rfl
        try simp only [Act.put,p1,p2,p3]
        refine dO 27(by kernel_rfl)rfl fun K hK=>?_
        go_simp
        refine(HE.out.same(HFS.out _ HM.out.q)).mono ?_
        rintro e w30⟨rfl,hb⟩
        have HM2:=Lib.hid(HM.out.next hb)
        clear HE
        go_wp2_with fail
        refine hK.out _ _ HM2.out ?_
        clear hK K HM hb
        have HM:=HM2
        clear HM2
        try simp only [Act.put,p1,p2,p3]
        refine dU 28 ?v181 rfl(by kernel_rfl)(.inl⟨by rfl,?y181⟩)HM.out(fun _ h=>h)(fun _ _ _ h=>h) ?_
        case y181=>intro W hSw;go_simp;try with_reducible rfl
        try simp only [Act.put,p1,p2,p3]
        refine dU 29 ?v182 rfl(by kernel_rfl)(.inl⟨by rfl,?y182⟩)HM.out(fun _ h=>h)(fun _ _ _ h=>h) ?_
        case y182=>intro W hSw;go_simp;try with_reducible rfl
        try simp only [Act.put,p1,p2,p3]
        refine dU 30 ?v183 rfl(by kernel_rfl)(.inl⟨by rfl,?y183⟩)HM.out(fun _ h=>h)(fun _ _ _ h=>h) ?_
        case y183=>intro W hSw;go_simp;try with_reducible rfl
        try simp only [Act.put,p1,p2,p3]
        refine Due.anyD_done(by kernel_rfl) ?_ _
        go_wp2_with fail
        go_ret
        exact⟨rfl,HM.out.bel⟩
   ·have hnei:decide((8000:Int) < (tx.size:Int))=false:=decide_eq_false(by omega)
    as_aux_lemma =>
     refine dU 0 ?v184 rfl(by kernel_rfl)(.inl⟨by rfl,?y184⟩)HM.out(fun _ h=>h)(fun _ _ _ h=>h) ?_
     case y184=>intro W hSw;go_simp;try with_reducible rfl
     try simp only [Act.put,p1,p2,p3]
     refine dU 1 ?v185 rfl(by kernel_rfl)(.inl⟨by rfl,?y185⟩)HM.out(fun _ h=>h)(fun _ _ _ h=>h) ?_
     case y185=>intro W hSw;go_simp;try with_reducible rfl
     try simp only [Act.put,p1,p2,p3]
     refine dU 2 ?v186 rfl(by kernel_rfl)(.inl⟨by rfl,?y186⟩)HM.out(fun _ h=>h)(fun _ _ _ h=>h) ?_
     case y186=>intro W hSw;go_simp;try with_reducible rfl
     try simp only [Act.put,p1,p2,p3]
     refine dU 3 ?v187 rfl(by kernel_rfl)(.inl⟨by rfl,?y187⟩)HM.out(fun _ h=>h)(fun _ _ _ h=>h) ?_
     case y187=>intro W hSw;go_simp;try with_reducible rfl
     try simp only [Act.put,p1,p2,p3]
     refine dU 4 ?v188 rfl(by kernel_rfl)(.inl⟨by rfl,?y188⟩)HM.out(fun _ h=>h)(fun _ _ _ h=>h) ?_
     case y188=>intro W hSw;go_simp;try with_reducible rfl
     try simp only [Act.put,p1,p2,p3]
     refine dU 5 ?v189 rfl(by kernel_rfl)(.inl⟨by rfl,?y189⟩)HM.out(fun _ h=>h)(fun _ _ _ h=>h) ?_
     case y189=>intro W hSw;go_simp;try with_reducible rfl
     try simp only [Act.put,p1,p2,p3]
     refine dU 6 ?v190 rfl(by kernel_rfl)(.inl⟨by rfl,?y190⟩)HM.out(fun _ h=>h)(fun _ _ _ h=>h) ?_
     case y190=>intro W hSw;go_simp;try with_reducible rfl
     try simp only [Act.put,p1,p2,p3]
     refine dU 7 ?v191 rfl(by kernel_rfl)(.inl⟨by rfl,?y191⟩)HM.out(fun _ h=>h)(fun _ _ _ h=>h) ?_
     case y191=>intro W hSw;go_simp;try with_reducible rfl
     try simp only [Act.put,p1,p2,p3]
     refine dU 8 ?v192 rfl(by kernel_rfl)(.inl⟨by rfl,?y192⟩)HM.out(fun _ h=>h)(fun _ _ _ h=>h) ?_
     case y192=>intro W hSw;go_simp;try with_reducible rfl
     try simp only [Act.put,p1,p2,p3]
     refine dU 11 ?v193 rfl(by kernel_rfl)(.inl⟨by rfl,?y193⟩)HM.out(fun _ h=>h)(fun _ _ _ h=>h) ?_
     case y193=>intro W hSw;have⟨p50,p51⟩:=cells2(HB5.out _ hSw.q);go_simp;try with_reducible rfl
     try simp only [Act.put,p1,p2,p3]
     refine dO 9(by kernel_rfl)rfl fun K hK=>?_
     go_simp
     refine(CD.out hne(by omega)_(HM.out.vars HV.out)).mono ?_
     rintro e w31⟨⟨ea,en,eca,eb,em,ecb,rfl,ke⟩,hb⟩
     have HM2:=Lib.hid(HM.out.next hb)
     have HE:=Lib.hid ke
     clear ke
     go_wp2_with fail
     refine hK.out _ _ HM2.out ?_
     clear hK K HM hb
     have HM:=HM2
     clear HM2
     try simp only [Act.put,p1,p2,p3]
     refine dU 10 ?v194 rfl(by kernel_rfl)(.inl⟨by rfl,?y194⟩)HM.out(fun _ h=>h)(fun _ _ _ h=>h) ?_
     case y194=>intro W hSw;go_simp;rw [fieldD];rfl
     try simp only [Act.put,p1,p2,p3]
     refine dO 12(by kernel_rfl)rfl fun K hK=>?_
     go_simp
     refine(HE.out.same(HFD.out _ HM.out.q)).mono ?_
     rintro e w32⟨rfl,hb⟩
     have HM2:=Lib.hid(HM.out.next hb)
     clear HE
     go_wp2_with fail
     refine hK.out _ _ HM2.out ?_
     clear hK K HM hb
     have HM:=HM2
     clear HM2
     try simp only [Act.put,p1,p2,p3]
     refine dU 13 ?v195 rfl(by kernel_rfl)(.inl⟨by rfl,?y195⟩)HM.out(fun _ h=>h)(fun _ _ _ h=>h) ?_
     case y195=>intro W hSw;go_simp;try with_reducible rfl
     try simp only [Act.put,p1,p2,p3]
     refine dU 14 ?v196 rfl(by kernel_rfl)(.inl⟨by rfl,?y196⟩)HM.out(fun _ h=>h)(fun _ _ _ h=>h) ?_
     case y196=>intro W hSw;go_simp;try with_reducible rfl
     try simp only [Act.put,p1,p2,p3]
     by_cases hne2:ty=⟨#[]⟩
     ·subst hne2
      have hne2E:=isEmpty_
      as_aux_lemma =>
       refine dU 15 ?v197 rfl(by kernel_rfl)(.inl⟨by rfl,?y197⟩)HM.out(fun _ h=>h)(fun _ _ _ h=>h) ?_
       case y197=>intro W hSw;go_simp;try with_reducible rfl
       try simp only [Act.put,p1,p2,p3]
       refine dU 16 ?v198 rfl(by kernel_rfl)(.inl⟨by rfl,?y198⟩)HM.out(fun _ h=>h)(fun _ _ _ h=>h) ?_
       case y198=>intro W hSw;go_simp;try with_reducible rfl
       try simp only [Act.put,p1,p2,p3]
       refine dU 17 ?v199 rfl(by kernel_rfl)(.inl⟨by rfl,?y199⟩)HM.out(fun _ h=>h)(fun _ _ _ h=>h) ?_
       case y199=>intro W hSw;go_simp;try with_reducible rfl
       try simp only [Act.put,p1,p2,p3]
       refine dU 18 undef rfl(by kernel_rfl)(.inr⟨by rfl,rfl⟩)HM.out(fun _ h=>h)(fun _ _ _ h=>h) ?_
       try simp only [Act.put,p1,p2,p3]
       refine dU 19 undef rfl(by kernel_rfl)(.inr⟨by rfl,rfl⟩)HM.out(fun _ h=>h)(fun _ _ _ h=>h) ?_
       try simp only [Act.put,p1,p2,p3]
       refine dU 20 undef rfl(by kernel_rfl)(.inr⟨by rfl,rfl⟩)HM.out(fun _ h=>h)(fun _ _ _ h=>h) ?_
       try simp only [Act.put,p1,p2,p3]
       refine dU 21 ?v203 rfl(by kernel_rfl)(.inl⟨by rfl,?y203⟩)HM.out(fun _ h=>h)(fun _ _ _ h=>h) ?_
       case y203=>intro W hSw;go_simp;try with_reducible rfl
       try simp only [Act.put,p1,p2,p3]
       refine dU 22 ?v204 rfl(by kernel_rfl)(.inl⟨by rfl,?y204⟩)HM.out(fun _ h=>h)(fun _ _ _ h=>h) ?_
       case y204=>intro W hSw;go_simp;try with_reducible rfl
       try simp only [Act.put,p1,p2,p3]
       refine dU 23 undef rfl(by kernel_rfl)(.inr⟨by rfl,rfl⟩)HM.out(fun _ h=>h)(fun _ _ _ h=>h) ?_
       try simp only [Act.put,p1,p2,p3]
       refine dU 24 undef rfl(by kernel_rfl)(.inr⟨by rfl,rfl⟩)HM.out(fun _ h=>h)(fun _ _ _ h=>h) ?_
       try simp only [Act.put,p1,p2,p3]
       refine dU 25 undef rfl(by kernel_rfl)(.inr⟨by rfl,rfl⟩)HM.out(fun _ h=>h)(fun _ _ _ h=>h) ?_
       try simp only [Act.put,p1,p2,p3]
       refine dU 26 undef rfl(by kernel_rfl)(.inr⟨by rfl,rfl⟩)HM.out(fun _ h=>h)(fun _ _ _ h=>h) ?_
       try simp only [Act.put,p1,p2,p3]
       refine dU 27 undef rfl(by kernel_rfl)(.inr⟨by rfl,rfl⟩)HM.out(fun _ h=>h)(fun _ _ _ h=>h) ?_
       try simp only [Act.put,p1,p2,p3]
       refine dU 28 ?v210 rfl(by kernel_rfl)(.inl⟨by rfl,?y210⟩)HM.out(fun _ h=>h)(fun _ _ _ h=>h) ?_
       case y210=>intro W hSw;go_simp;try with_reducible rfl
       try simp only [Act.put,p1,p2,p3]
       refine dU 29 ?v211 rfl(by kernel_rfl)(.inl⟨by rfl,?y211⟩)HM.out(fun _ h=>h)(fun _ _ _ h=>h) ?_
       case y211=>intro W hSw;go_simp;try with_reducible rfl
       try simp only [Act.put,p1,p2,p3]
       refine dU 30 ?v212 rfl(by kernel_rfl)(.inl⟨by rfl,?y212⟩)HM.out(fun _ h=>h)(fun _ _ _ h=>h) ?_
       case y212=>intro W hSw;go_simp;try with_reducible rfl
       try simp only [Act.put,p1,p2,p3]
       refine Due.anyD_done(by kernel_rfl) ?_ _
       go_wp2_with fail
       go_ret
       exact⟨rfl,HM.out.bel⟩
     ·have hne2b:=notEmpty hne2
      by_cases hne2s:8000 < ty.size
      ·have hne2i:decide((8000:Int) < (ty.size:Int))=true:=decide_eq_true(by omega)
       as_aux_lemma =>
        refine dU 15 ?v213 rfl(by kernel_rfl)(.inl⟨by rfl,?y213⟩)HM.out(fun _ h=>h)(fun _ _ _ h=>h) ?_
        case y213=>intro W hSw;go_simp;try with_reducible rfl
        try simp only [Act.put,p1,p2,p3]
        refine dU 16 ?v214 rfl(by kernel_rfl)(.inl⟨by rfl,?y214⟩)HM.out(fun _ h=>h)(fun _ _ _ h=>h) ?_
        case y214=>intro W hSw;go_simp;try with_reducible rfl
        try simp only [Act.put,p1,p2,p3]
        refine dU 17 ?v215 rfl(by kernel_rfl)(.inl⟨by rfl,?y215⟩)HM.out(fun _ h=>h)(fun _ _ _ h=>h) ?_
        case y215=>intro W hSw;go_simp;try with_reducible rfl
        try simp only [Act.put,p1,p2,p3]
        refine dU 18 ?v216 rfl(by kernel_rfl)(.inl⟨by rfl,?y216⟩)HM.out(fun _ h=>h)(fun _ _ _ h=>h) ?_
        case y216=>intro W hSw;go_simp;try with_reducible rfl
        try simp only [Act.put,p1,p2,p3]
        refine dU 19 ?v217 rfl(by kernel_rfl)(.inl⟨by rfl,?y217⟩)HM.out(fun _ h=>h)(fun _ _ _ h=>h) ?_
        case y217=>intro W hSw;go_simp;try with_reducible rfl
        try simp only [Act.put,p1,p2,p3]
        refine dU 20 ?v218 rfl(by kernel_rfl)(.inl⟨by rfl,?y218⟩)HM.out(fun _ h=>h)(fun _ _ _ h=>h) ?_
        case y218=>intro W hSw;go_simp;try with_reducible rfl
        try simp only [Act.put,p1,p2,p3]
        refine dU 21 ?v219 rfl(by kernel_rfl)(.inl⟨by rfl,?y219⟩)HM.out(fun _ h=>h)(fun _ _ _ h=>h) ?_
        case y219=>intro W hSw;go_simp;try with_reducible rfl
        try simp only [Act.put,p1,p2,p3]
        refine dU 22 ?v220 rfl(by kernel_rfl)(.inl⟨by rfl,?y220⟩)HM.out(fun _ h=>h)(fun _ _ _ h=>h) ?_
        case y220=>intro W hSw;go_simp;try with_reducible rfl
        try simp only [Act.put,p1,p2,p3]
        refine dU 23 undef rfl(by kernel_rfl)(.inr⟨by rfl,rfl⟩)HM.out(fun _ h=>h)(fun _ _ _ h=>h) ?_
        try simp only [Act.put,p1,p2,p3]
        refine dU 24 undef rfl(by kernel_rfl)(.inr⟨by rfl,rfl⟩)HM.out(fun _ h=>h)(fun _ _ _ h=>h) ?_
        try simp only [Act.put,p1,p2,p3]
        refine dU 25 undef rfl(by kernel_rfl)(.inr⟨by rfl,rfl⟩)HM.out(fun _ h=>h)(fun _ _ _ h=>h) ?_
        try simp only [Act.put,p1,p2,p3]
        refine dU 26 undef rfl(by kernel_rfl)(.inr⟨by rfl,rfl⟩)HM.out(fun _ h=>h)(fun _ _ _ h=>h) ?_
        try simp only [Act.put,p1,p2,p3]
        refine dU 27 undef rfl(by kernel_rfl)(.inr⟨by rfl,rfl⟩)HM.out(fun _ h=>h)(fun _ _ _ h=>h) ?_
        try simp only [Act.put,p1,p2,p3]
        refine dU 28 ?v226 rfl(by kernel_rfl)(.inl⟨by rfl,?y226⟩)HM.out(fun _ h=>h)(fun _ _ _ h=>h) ?_
        case y226=>intro W hSw;go_simp;try with_reducible rfl
        try simp only [Act.put,p1,p2,p3]
        refine dU 29 ?v227 rfl(by kernel_rfl)(.inl⟨by rfl,?y227⟩)HM.out(fun _ h=>h)(fun _ _ _ h=>h) ?_
        case y227=>intro W hSw;go_simp;try with_reducible rfl
        try simp only [Act.put,p1,p2,p3]
        refine dU 30 ?v228 rfl(by kernel_rfl)(.inl⟨by rfl,?y228⟩)HM.out(fun _ h=>h)(fun _ _ _ h=>h) ?_
        case y228=>intro W hSw;go_simp;try with_reducible rfl
        try simp only [Act.put,p1,p2,p3]
        refine Due.anyD_done(by kernel_rfl) ?_ _
        go_wp2_with fail
        go_ret
        exact⟨rfl,HM.out.bel⟩
      ·have hne2i:decide((8000:Int) < (ty.size:Int))=false:=decide_eq_false(by omega)
       as_aux_lemma =>
        refine dU 15 ?v229 rfl(by kernel_rfl)(.inl⟨by rfl,?y229⟩)HM.out(fun _ h=>h)(fun _ _ _ h=>h) ?_
        case y229=>intro W hSw;go_simp;try with_reducible rfl
        try simp only [Act.put,p1,p2,p3]
        refine dU 16 ?v230 rfl(by kernel_rfl)(.inl⟨by rfl,?y230⟩)HM.out(fun _ h=>h)(fun _ _ _ h=>h) ?_
        case y230=>intro W hSw;go_simp;try with_reducible rfl
        try simp only [Act.put,p1,p2,p3]
        refine dU 17 ?v231 rfl(by kernel_rfl)(.inl⟨by rfl,?y231⟩)HM.out(fun _ h=>h)(fun _ _ _ h=>h) ?_
        case y231=>intro W hSw;go_simp;try with_reducible rfl
        try simp only [Act.put,p1,p2,p3]
        refine dU 18 ?v232 rfl(by kernel_rfl)(.inl⟨by rfl,?y232⟩)HM.out(fun _ h=>h)(fun _ _ _ h=>h) ?_
        case y232=>intro W hSw;go_simp;try with_reducible rfl
        try simp only [Act.put,p1,p2,p3]
        refine dU 19 ?v233 rfl(by kernel_rfl)(.inl⟨by rfl,?y233⟩)HM.out(fun _ h=>h)(fun _ _ _ h=>h) ?_
        case y233=>intro W hSw;go_simp;try with_reducible rfl
        try simp only [Act.put,p1,p2,p3]
        refine dU 20 ?v234 rfl(by kernel_rfl)(.inl⟨by rfl,?y234⟩)HM.out(fun _ h=>h)(fun _ _ _ h=>h) ?_
        case y234=>intro W hSw;go_simp;try with_reducible rfl
        try simp only [Act.put,p1,p2,p3]
        refine dU 21 ?v235 rfl(by kernel_rfl)(.inl⟨by rfl,?y235⟩)HM.out(fun _ h=>h)(fun _ _ _ h=>h) ?_
        case y235=>intro W hSw;go_simp;try with_reducible rfl
        try simp only [Act.put,p1,p2,p3]
        refine dU 22 ?v236 rfl(by kernel_rfl)(.inl⟨by rfl,?y236⟩)HM.out(fun _ h=>h)(fun _ _ _ h=>h) ?_
        case y236=>intro W hSw;go_simp;try with_reducible rfl
        try simp only [Act.put,p1,p2,p3]
        refine dU 23 ?v237 rfl(by kernel_rfl)(.inl⟨by rfl,?y237⟩)HM.out(fun _ h=>h)(fun _ _ _ h=>h) ?_
        case y237=>intro W hSw;go_simp;try with_reducible rfl
        try simp only [Act.put,p1,p2,p3]
        refine dU 26 ?v238 rfl(by kernel_rfl)(.inl⟨by rfl,?y238⟩)HM.out(fun _ h=>h)(fun _ _ _ h=>h) ?_
        case y238=>intro W hSw;have p10:=cells1(HB10.out _ hSw.q);go_simp;try with_reducible rfl
        try simp only [Act.put,p1,p2,p3]
        refine dO 24(by kernel_rfl)rfl fun K hK=>?_
        go_simp
        refine(CE.out hne2(by omega)_(HM.out.vars HV.out)).mono ?_
        rintro e w33⟨⟨ea,en,eca,rfl,ke⟩,hb⟩
        have HM2:=Lib.hid(HM.out.next hb)
        have HE:=Lib.hid ke
        clear ke
        go_wp2_with fail
        refine hK.out _ _ HM2.out ?_
        clear hK K HM hb
        have HM:=HM2
        clear HM2
        try simp only [Act.put,p1,p2,p3]
        refine dU 25 ?v239 rfl(by kernel_rfl)(.inl⟨by rfl,?y239⟩)HM.out(fun _ h=>h)(fun _ _ _ h=>h) ?_
        case y239=>intro W hSw;go_simp;rw [fieldS];rfl
        try simp only [Act.put,p1,p2,p3]
        refine dO 27(by kernel_rfl)rfl fun K hK=>?_
        go_simp
        refine(HE.out.same(HFS.out _ HM.out.q)).mono ?_
        rintro e w34⟨rfl,hb⟩
        have HM2:=Lib.hid(HM.out.next hb)
        clear HE
        go_wp2_with fail
        refine hK.out _ _ HM2.out ?_
        clear hK K HM hb
        have HM:=HM2
        clear HM2
        try simp only [Act.put,p1,p2,p3]
        refine dU 28 ?v240 rfl(by kernel_rfl)(.inl⟨by rfl,?y240⟩)HM.out(fun _ h=>h)(fun _ _ _ h=>h) ?_
        case y240=>intro W hSw;go_simp;try with_reducible rfl
        try simp only [Act.put,p1,p2,p3]
        refine dU 29 ?v241 rfl(by kernel_rfl)(.inl⟨by rfl,?y241⟩)HM.out(fun _ h=>h)(fun _ _ _ h=>h) ?_
        case y241=>intro W hSw;go_simp;try with_reducible rfl
        try simp only [Act.put,p1,p2,p3]
        refine dU 30 ?v242 rfl(by kernel_rfl)(.inl⟨by rfl,?y242⟩)HM.out(fun _ h=>h)(fun _ _ _ h=>h) ?_
        case y242=>intro W hSw;go_simp;try with_reducible rfl
        try simp only [Act.put,p1,p2,p3]
        refine Due.anyD_done(by kernel_rfl) ?_ _
        go_wp2_with fail
        go_ret
        exact⟨rfl,HM.out.bel⟩
end Go.Proofs.YtmembhpoidcmlaaGreatDoor.TextL
