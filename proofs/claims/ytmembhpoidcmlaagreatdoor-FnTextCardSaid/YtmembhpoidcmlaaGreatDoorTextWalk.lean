/-
  The walk of laws.FnText: it answers true, and of what was there nothing is changed. Conditions: in memory; the library's variables hold what the program lays.
-/
import Derived.Test.YtmembhpoidcmlaaGreatDoorRows
import Derived.Test.YtmembhpoidcmlaaGreatDoorTextLaw
import Derived.Deep.RegionHeld3
import Derived.Deep.CutRange
namespace Go.Proofs.YtmembhpoidcmlaaGreatDoor.TextL
open Lib (hid)
open Go.RowKit Rw
open Selss (DocP DocAt docB docT countD outP)
open Decs (Vars Pow)
open Draws (dO p1 p2 p3)
set_option linter.unusedVariables false
set_option maxRecDepth 100000
theorem cells2{w1:World}{g:Nat}{v0 v1:Value}{T:TypeId}(h1:w1.heap[g]?=some (.cells #[v0,v1] T (0,0))):w1.cell? ⟨g,0,none⟩=some v0∧w1.cell? ⟨g,1,none⟩=some v1:=by simp[World.cell?,h1]
theorem cells1{w1:World}{g:Nat}{v0:Value}{T:TypeId}(h1:w1.heap[g]?=some (.cells #[v0] T (0,0))):w1.cell? ⟨g,0,none⟩=some v0:=by simp[World.cell?,h1]
theorem cells3{w1:World}{g:Nat}{v0 v1 v2:Value}{T:TypeId}(h1:w1.heap[g]?=some (.cells #[v0,v1,v2] T (0,0))):w1.cell? ⟨g,0,none⟩=some v0∧w1.cell? ⟨g,1,none⟩=some v1∧w1.cell? ⟨g,2,none⟩=some v2:=by simp[World.cell?,h1]
theorem region_led{ops:Array Oper}{E:Exit→Act→World→Prop}{w:World}{Q:World→Prop}{id:Nat}{a:Act}{W:World}(h:Led w Q W)(hm:Tryz.prog.follows .mixedOrders=true)
  (hh:Due.anyD Tryz.prog .any ops E 100000 (fun _ X=>Led w Q X) ops.size (Array.replicate ops.size false) a W.drew):(Code.region id ops true).wp Tryz.prog E a W:=Due.region_due 100000 (fun _ X=>Led w Q X) hm hh
theorem fieldD(a b:Option Addr)(n c m e:Nat)(k:Int)(W:World):Sem.run Tryz.prog (Instr.field 31 (.agg #[.slice a n c,.slice b m e,.int .i64 k]) 0) W=.ok (.agg #[.slice a n c,.slice b m e]) W:=by rfl
theorem fieldS(a:Option Addr)(n c:Nat)(k:Int)(W:World):Sem.run Tryz.prog (Instr.field 39 (.agg #[.slice a n c,.int .i64 k]) 0) W=.ok (.agg #[.slice a n c]) W:=by rfl
set_option maxHeartbeats 16000000 in
theorem textWalk(w:World)(a0:Option Addr)(len0 cap0:Nat)(a1:Option Addr)(len1 cap1:Nat)(b0:Draws.BytesAt w w.heap.size a0 len0)(b1:Draws.BytesAt w w.heap.size a1 len1)(hv:Vars w.heap.size w) :
  Calls Tryz.prog 3 #[.slice a0 len0 cap0,.slice a1 len1 cap1] w fun e w'=>e=.returned (.bool true)∧Below w.heap.size w w':=by
 have B0:=hid b0
 have B1:=hid b1
 have HV:=hid hv
 clear b0 b1 hv
 by_cases hbig:1048576<len0
 ·have hbi:(1048576:Int)<(len0:Int):=by omega
  go_enter Tryz.func3,Tryz.ntmps3
  go_wp2_with fail
  go_ret
  exact⟨rfl,Below.refl _ _⟩
 have hbi:(len0:Int)≤1048576:=by omega
 by_cases hbig1:1048576<len1
 ·have hbi1:(1048576:Int)<(len1:Int):=by omega
  clear hbig
  go_enter Tryz.func3,Tryz.ntmps3
  go_wp2_with fail
  go_ret
  exact⟨rfl,Below.refl _ _⟩
 have hbi1:(len1:Int)≤1048576:=by omega
 clear hbig hbig1
 go_enter Tryz.func3,Tryz.ntmps3
 go_wp2_with fail
 have L0:=hid (Led.start w)
 refine(drawD _ len0 cap0 a0 (L0.out.bytes B0.out) (by omega)).mono ?_
 rintro e w1 ⟨⟨da,dn,dca,db,dm,dcb,d,rfl,kd⟩,hb⟩
 have L1:=hid (((L0.out.next hb).add (KD.stay _ _) kd).box (.cells #[.slice da dn dca,.slice db dm dcb] 26))
 clear L0 hb kd
 go_wp2_with fail
 refine((L1.out.q.1.2).implText (L1.out.vars HV.out)).mono ?_
 rintro e w2 ⟨rfl,hb⟩
 have L2:=hid (L1.out.next hb)
 clear L1 hb
 go_wp2_with fail
 refine(Draws.drawDocRead _ len1 cap1 a1 (L2.out.bytes B1.out) (by omega)).mono ?_
 rintro e w3 ⟨⟨u,hu,rfl⟩,hb⟩
 have L3:=hid (L2.out.next hb)
 clear L2 hb
 obtain ⟨dq,hdq⟩:∃ x,(outP u).1=x:=⟨_,rfl⟩
 obtain ⟨cq,hcq⟩:∃ x,(outP u).2=x:=⟨_,rfl⟩
 have CI:Hid (∀ W,Vars W.heap.size W→Calls Tryz.prog 7 #[.string u] W fun e w'=>DRes dq cq W w' e):=hid fun W hv=>by rw[←hdq,←hcq];exact implRd u (by omega) W hv
 have CS:Hid (∀ W,Calls Tryz.prog 8 #[.string u] W fun e w'=>DRes dq cq W w' e):=hid fun W=>by rw[←hdq,←hcq];exact specRd u (by omega) W
 have HQ:Hid (cq=0→docT dq=u):=hid fun h=>by rw[←hdq];exact outP_text (hcq.trans h)
 have HCQ:Hid (cq=0∨cq=2∨cq=3):=hid (by rw[←hcq];exact outP_codes u)
 clear hdq hcq
 go_wp2_with fail
 refine(CI.out _ (L3.out.vars HV.out)).mono ?_
 rintro e w4 ⟨⟨xa,xn,xca,xb,xm,xcb,rfl,kx⟩,hb⟩
 have L4:=hid ((L3.out.next hb).add (KD.stay _ _) kx)
 clear L3 hb kx
 go_wp2_with fail
 refine(CS.out _).mono ?_
 rintro e w5 ⟨⟨ya,yn,yca,yb,ym,ycb,rfl,ky⟩,hb⟩
 have L5:=hid ((L4.out.next hb).add (KD.stay _ _) ky)
 clear L4 hb ky
 clear CI CS
 have L6:=hid (L5.out.two (.cells #[.slice xa xn xca,.slice xb xm xcb,.int .i64 cq] 31) (.cells #[.slice ya yn yca,.slice yb ym ycb,.int .i64 cq] 31))
 clear L5 
 go_wp2_with fail
 refine(drawS _ len0 cap0 a0 (L6.out.bytes B0.out) (by omega)).mono ?_
 rintro e w6 ⟨⟨sa,sn,sca,s,rfl,ks⟩,hb⟩
 have L7:=hid (((L6.out.next hb).add (KS.stay _ _) ks).box (.cells #[.slice sa sn sca] 35))
 clear L6 hb ks
 go_wp2_with fail
 refine((L7.out.q.1.2).implText (L7.out.vars HV.out)).mono ?_
 rintro e w7 ⟨rfl,hb⟩
 have L8:=hid (L7.out.next hb)
 clear L7 hb
 go_wp2_with fail
 refine(Draws.drawSchemaRead _ len1 cap1 a1 (L8.out.bytes B1.out) (by omega)).mono ?_
 rintro e w8 ⟨⟨z,hz,rfl⟩,hb⟩
 have L9:=hid (L8.out.next hb)
 clear L8 hb
 obtain ⟨sq,hsq⟩:∃ x,(outS z).1=x:=⟨_,rfl⟩
 obtain ⟨kq,hkq⟩:∃ x,(outS z).2=x:=⟨_,rfl⟩
 have CI:Hid (∀ W,Vars W.heap.size W→Calls Tryz.prog 12 #[.string z] W fun e w'=>SRes sq kq W w' e):=hid fun W hv=>by rw[←hsq,←hkq];exact implRs z (by unfold OkS;omega) W hv
 have CS:Hid (∀ W,Calls Tryz.prog 13 #[.string z] W fun e w'=>SRes sq kq W w' e):=hid fun W=>by rw[←hsq,←hkq];exact specRs z (by unfold OkS;omega) W
 have HK:Hid (kq=0→schT sq=z):=hid fun h=>by rw[←hsq];exact outS_text (hkq.trans h)
 have HCK:Hid (kq=0∨kq=2∨kq=3):=hid (by rw[←hkq];exact outS_codes z)
 clear hsq hkq
 go_wp2_with fail
 refine(CI.out _ (L9.out.vars HV.out)).mono ?_
 rintro e w9 ⟨⟨za,zn,zca,rfl,kz⟩,hb⟩
 have L10:=hid ((L9.out.next hb).add (KS.stay _ _) kz)
 clear L9 hb kz
 go_wp2_with fail
 refine(CS.out _).mono ?_
 rintro e w10 ⟨⟨va,vn,vca,rfl,ky⟩,hb⟩
 have L11:=hid ((L10.out.next hb).add (KS.stay _ _) ky)
 clear L10 hb ky
 clear CI CS
 have L12:=hid (L11.out.two (.cells #[.slice za zn zca,.int .i64 kq] 39) (.cells #[.slice va vn vca,.int .i64 kq] 39))
 clear L11 
 go_wp2_with fail
 refine(Draws.drawWordRight _ len1 cap1 a1 (L12.out.bytes B1.out) (by omega)).mono ?_
 rintro e w11 ⟨⟨ta,hta,rfl⟩,hb⟩
 have L13:=hid (L12.out.next hb)
 clear L12 hb
 go_wp2_with fail
 refine(Draws.drawTypeWord _ len1 cap1 a1 (L13.out.bytes B1.out) (by omega)).mono ?_
 rintro e w12 ⟨⟨tb,htb,rfl⟩,hb⟩
 have L14:=hid (L13.out.next hb)
 clear L13 hb
 go_wp2_with fail
 refine region_led L14.out (by kernel_rfl) ?_
 have L15:=hid L14.out.drew
 clear L14
 refine tU 0 ?v1 L15.out ?y1 ?_
 case y1=>intro W hSw;go_simp;try with_reducible rfl
 try simp only[Act.put,p1,p2,p3]
 refine tU 1 ?v2 L15.out ?y2 ?_
 case y2=>intro W hSw;have ⟨p50,p51⟩:=cells2 (hSw.q.1.1.1.1.1.1.1.1.1.1.2);go_simp;try with_reducible rfl
 try simp only[Act.put,p1,p2,p3]
 refine dO 2 (by kernel_rfl) rfl fun K hK=>?_
 go_simp
 refine((L15.out.q.1.1.1.1.1.1.1.1.1.1.1.2).specText).mono ?_
 rintro e w13 ⟨rfl,hb⟩
 have L16:=hid (L15.out.next hb)
 go_wp2_with fail
 refine hK.out _ _ L16.out ?_
 clear hK K L15 hb
 try simp only[Act.put,p1,p2,p3]
 refine tU 3 ?v3 L16.out ?y3 ?_
 case y3=>intro W hSw;go_simp;try with_reducible rfl
 try simp only[Act.put,p1,p2,p3]
 refine tU 4 ?v4 L16.out ?y4 ?_
 case y4=>intro W hSw;go_simp;try with_reducible rfl
 try simp only[Act.put,p1,p2,p3]
 refine tU 5 ?v5 L16.out ?y5 ?_
 case y5=>intro W hSw;go_simp;try with_reducible rfl
 try simp only[Act.put,p1,p2,p3]
 refine tU 6 ?v6 L16.out ?y6 ?_
 case y6=>intro W hSw;have ⟨p80,p81,p82⟩:=cells3 (hSw.q.1.1.1.1.1.1.1.2);go_simp;try with_reducible rfl
 try simp only[Act.put,p1,p2,p3]
 refine tU 7 ?v7 L16.out ?y7 ?_
 case y7=>intro W hSw;go_simp;try with_reducible rfl
 try simp only[Act.put,p1,p2,p3]
 refine tU 8 ?v8 L16.out ?y8 ?_
 case y8=>intro W hSw;have ⟨p90,p91,p92⟩:=cells3 (hSw.q.1.1.1.1.1.1.2);go_simp;try with_reducible rfl
 try simp only[Act.put,p1,p2,p3]
 refine tU 9 ?v9 L16.out ?y9 ?_
 case y9=>intro W hSw;go_simp;try with_reducible rfl
 try simp only[Act.put,p1,p2,p3]
 refine tU 10 ?v10 L16.out ?y10 ?_
 case y10=>intro W hSw;go_simp;try with_reducible rfl
 try simp only[Act.put,p1,p2,p3]
 refine tU 11 ?v11 L16.out ?y11 ?_
 case y11=>intro W hSw;go_simp;try with_reducible rfl
 try simp only[Act.put,p1,p2,p3]
 refine tU 12 ?v12 L16.out ?y12 ?_
 case y12=>intro W hSw;go_simp;try with_reducible rfl
 try simp only[Act.put,p1,p2,p3]
 refine tU 13 ?v13 L16.out ?y13 ?_
 case y13=>intro W hSw;have ⟨p80,p81,p82⟩:=cells3 (hSw.q.1.1.1.1.1.1.1.2);go_simp;try with_reducible rfl
 try simp only[Act.put,p1,p2,p3]
 refine tU 14 ?v14 L16.out ?y14 ?_
 case y14=>intro W hSw;go_simp;try with_reducible rfl
 try simp only[Act.put,p1,p2,p3]
 refine tU 15 ?v15 L16.out ?y15 ?_
 case y15=>intro W hSw;have ⟨p90,p91,p92⟩:=cells3 (hSw.q.1.1.1.1.1.1.2);go_simp;try with_reducible rfl
 try simp only[Act.put,p1,p2,p3]
 refine dO 16 (by kernel_rfl) rfl fun K hK=>?_
 go_simp
 refine((L16.out.q.1.1.1.1.1.1.1.1.1.2).same (L16.out.q.1.1.1.1.1.1.1.1.2)).mono ?_
 rintro e w14 ⟨rfl,hb⟩
 have L17:=hid (L16.out.next hb)
 go_wp2_with fail
 refine hK.out _ _ L17.out ?_
 clear hK K L16 hb
 try simp only[Act.put,p1,p2,p3]
 refine tU 17 ?v16 L17.out ?y16 ?_
 case y16=>intro W hSw;go_simp;try with_reducible rfl
 try simp only[Act.put,p1,p2,p3]
 refine tU 18 ?v17 L17.out ?y17 ?_
 case y17=>intro W hSw;go_simp;try with_reducible rfl
 try simp only[Act.put,p1,p2,p3]
 refine tU 19 ?v18 L17.out ?y18 ?_
 case y18=>intro W hSw;go_simp;try with_reducible rfl
 try simp only[Act.put,p1,p2,p3]
 refine tU 20 ?v19 L17.out ?y19 ?_
 case y19=>intro W hSw;go_simp;try with_reducible rfl
 try simp only[Act.put,p1,p2,p3]
 refine tU 21 ?v20 L17.out ?y20 ?_
 case y20=>intro W hSw;have p10:=cells1 (hSw.q.1.1.1.1.2);go_simp;try with_reducible rfl
 try simp only[Act.put,p1,p2,p3]
 refine dO 22 (by kernel_rfl) rfl fun K hK=>?_
 go_simp
 refine((L17.out.q.1.1.1.1.1.2).specText).mono ?_
 rintro e w15 ⟨rfl,hb⟩
 have L18:=hid (L17.out.next hb)
 go_wp2_with fail
 refine hK.out _ _ L18.out ?_
 clear hK K L17 hb
 try simp only[Act.put,p1,p2,p3]
 refine tU 23 ?v21 L18.out ?y21 ?_
 case y21=>intro W hSw;go_simp;try with_reducible rfl
 try simp only[Act.put,p1,p2,p3]
 refine tU 24 ?v22 L18.out ?y22 ?_
 case y22=>intro W hSw;go_simp;try with_reducible rfl
 try simp only[Act.put,p1,p2,p3]
 refine tU 25 ?v23 L18.out ?y23 ?_
 case y23=>intro W hSw;go_simp;try with_reducible rfl
 try simp only[Act.put,p1,p2,p3]
 refine tU 26 ?v24 L18.out ?y24 ?_
 case y24=>intro W hSw;go_simp;try with_reducible rfl
 try simp only[Act.put,p1,p2,p3]
 refine tU 27 ?v25 L18.out ?y25 ?_
 case y25=>intro W hSw;have ⟨p30,p31⟩:=cells2 (hSw.q.1.2);go_simp;try with_reducible rfl
 try simp only[Act.put,p1,p2,p3]
 refine tU 28 ?v26 L18.out ?y26 ?_
 case y26=>intro W hSw;go_simp;try with_reducible rfl
 try simp only[Act.put,p1,p2,p3]
 refine tU 29 ?v27 L18.out ?y27 ?_
 case y27=>intro W hSw;have ⟨p40,p41⟩:=cells2 (hSw.q.2);go_simp;try with_reducible rfl
 try simp only[Act.put,p1,p2,p3]
 refine tU 30 ?v28 L18.out ?y28 ?_
 case y28=>intro W hSw;go_simp;try with_reducible rfl
 try simp only[Act.put,p1,p2,p3]
 refine tU 31 ?v29 L18.out ?y29 ?_
 case y29=>intro W hSw;go_simp;try with_reducible rfl
 try simp only[Act.put,p1,p2,p3]
 refine tU 32 ?v30 L18.out ?y30 ?_
 case y30=>intro W hSw;go_simp;try with_reducible rfl
 try simp only[Act.put,p1,p2,p3]
 refine tU 33 ?v31 L18.out ?y31 ?_
 case y31=>intro W hSw;go_simp;try with_reducible rfl
 try simp only[Act.put,p1,p2,p3]
 refine tU 34 ?v32 L18.out ?y32 ?_
 case y32=>intro W hSw;have ⟨p30,p31⟩:=cells2 (hSw.q.1.2);go_simp;try with_reducible rfl
 try simp only[Act.put,p1,p2,p3]
 refine tU 35 ?v33 L18.out ?y33 ?_
 case y33=>intro W hSw;go_simp;try with_reducible rfl
 try simp only[Act.put,p1,p2,p3]
 refine tU 36 ?v34 L18.out ?y34 ?_
 case y34=>intro W hSw;have ⟨p40,p41⟩:=cells2 (hSw.q.2);go_simp;try with_reducible rfl
 try simp only[Act.put,p1,p2,p3]
 refine dO 37 (by kernel_rfl) rfl fun K hK=>?_
 go_simp
 refine((L18.out.q.1.1.1.2).same (L18.out.q.1.1.2)).mono ?_
 rintro e w16 ⟨rfl,hb⟩
 have L19:=hid (L18.out.next hb)
 go_wp2_with fail
 refine hK.out _ _ L19.out ?_
 clear hK K L18 hb
 try simp only[Act.put,p1,p2,p3]
 refine tU 38 ?v35 L19.out ?y35 ?_
 case y35=>intro W hSw;go_simp;try with_reducible rfl
 try simp only[Act.put,p1,p2,p3]
 refine tU 39 ?v36 L19.out ?y36 ?_
 case y36=>intro W hSw;go_simp;try with_reducible rfl
 try simp only[Act.put,p1,p2,p3]
 refine tU 40 ?v37 L19.out ?y37 ?_
 case y37=>intro W hSw;go_simp;try with_reducible rfl
 try simp only[Act.put,p1,p2,p3]
 refine tU 41 ?v38 L19.out ?y38 ?_
 case y38=>intro W hSw;go_simp;try with_reducible rfl
 try simp only[Act.put,p1,p2,p3]
 refine tU 43 ?v39 L19.out ?y39 ?_
 case y39=>intro W hSw;go_simp;try with_reducible rfl
 try simp only[Act.put,p1,p2,p3]
 refine dO 42 (by kernel_rfl) rfl fun K hK=>?_
 go_simp
 refine(Words.implWordRight ta (by unfold maxLen;omega) _).mono ?_
 rintro e w17 ⟨rfl,rfl⟩
 have L20:=hid (L19.out)
 go_wp2_with fail
 refine hK.out _ _ L20.out ?_
 clear hK K L19 
 try simp only[Act.put,p1,p2,p3]
 refine dO 44 (by kernel_rfl) rfl fun K hK=>?_
 go_simp
 refine(Words.specWordRight ta (by unfold maxLen;omega) _).mono ?_
 rintro e w18 ⟨rfl,rfl⟩
 have L21:=hid (L20.out)
 go_wp2_with fail
 refine hK.out _ _ L21.out ?_
 clear hK K L20 
 try simp only[Act.put,p1,p2,p3]
 refine tU 45 ?v40 L21.out ?y40 ?_
 case y40=>intro W hSw;go_simp;try with_reducible rfl
 try simp only[Act.put,p1,p2,p3]
 refine tU 46 ?v41 L21.out ?y41 ?_
 case y41=>intro W hSw;go_simp;try with_reducible rfl
 try simp only[Act.put,p1,p2,p3]
 refine tU 47 ?v42 L21.out ?y42 ?_
 case y42=>intro W hSw;go_simp;try with_reducible rfl
 try simp only[Act.put,p1,p2,p3]
 refine tU 48 ?v43 L21.out ?y43 ?_
 case y43=>intro W hSw;go_simp;try with_reducible rfl
 try simp only[Act.put,p1,p2,p3]
 refine tU 50 ?v44 L21.out ?y44 ?_
 case y44=>intro W hSw;go_simp;try with_reducible rfl
 try simp only[Act.put,p1,p2,p3]
 refine dO 49 (by kernel_rfl) rfl fun K hK=>?_
 go_simp
 refine(Words.implTypeWord tb (by unfold maxLen;omega) _).mono ?_
 rintro e w19 ⟨rfl,rfl⟩
 have L22:=hid (L21.out)
 go_wp2_with fail
 refine hK.out _ _ L22.out ?_
 clear hK K L21 
 try simp only[Act.put,p1,p2,p3]
 refine dO 51 (by kernel_rfl) rfl fun K hK=>?_
 go_simp
 refine(Words.specTypeWord tb (by unfold maxLen;omega) _).mono ?_
 rintro e w20 ⟨rfl,rfl⟩
 have L23:=hid (L22.out)
 go_wp2_with fail
 refine hK.out _ _ L23.out ?_
 clear hK K L22 
 try simp only[Act.put,p1,p2,p3]
 refine tU 52 ?v45 L23.out ?y45 ?_
 case y45=>intro W hSw;go_simp;try with_reducible rfl
 try simp only[Act.put,p1,p2,p3]
 refine tU 53 ?v46 L23.out ?y46 ?_
 case y46=>intro W hSw;go_simp;try with_reducible rfl
 try simp only[Act.put,p1,p2,p3]
 refine tU 54 ?v47 L23.out ?y47 ?_
 case y47=>intro W hSw;go_simp;try with_reducible rfl
 try simp only[Act.put,p1,p2,p3]
 refine tU 55 ?v48 L23.out ?y48 ?_
 case y48=>intro W hSw;have ⟨p50,p51⟩:=cells2 (hSw.q.1.1.1.1.1.1.1.1.1.1.2);go_simp;try with_reducible rfl
 try simp only[Act.put,p1,p2,p3]
 refine tU 57 ?v49 L23.out ?y49 ?_
 case y49=>intro W hSw;have ⟨p50,p51⟩:=cells2 (hSw.q.1.1.1.1.1.1.1.1.1.1.2);go_simp;try with_reducible rfl
 try simp only[Act.put,p1,p2,p3]
 refine dO 56 (by kernel_rfl) rfl fun K hK=>?_
 go_simp
 refine((L23.out.q.1.1.1.1.1.1.1.1.1.1.1.2).implRight).mono ?_
 rintro e w21 ⟨rfl,hb⟩
 have L24:=hid (L23.out.next hb)
 go_wp2_with fail
 refine hK.out _ _ L24.out ?_
 clear hK K L23 hb
 try simp only[Act.put,p1,p2,p3]
 refine dO 58 (by kernel_rfl) rfl fun K hK=>?_
 go_simp
 refine((L24.out.q.1.1.1.1.1.1.1.1.1.1.1.2).specRight).mono ?_
 rintro e w22 ⟨rfl,hb⟩
 have L25:=hid (L24.out.next hb)
 go_wp2_with fail
 refine hK.out _ _ L25.out ?_
 clear hK K L24 hb
 try simp only[Act.put,p1,p2,p3]
 refine tU 59 ?v50 L25.out ?y50 ?_
 case y50=>intro W hSw;go_simp;try with_reducible rfl
 try simp only[Act.put,p1,p2,p3]
 refine tU 60 ?v51 L25.out ?y51 ?_
 case y51=>intro W hSw;go_simp;try with_reducible rfl
 try simp only[Act.put,p1,p2,p3]
 refine tU 61 ?v52 L25.out ?y52 ?_
 case y52=>intro W hSw;go_simp;try with_reducible rfl
 try simp only[Act.put,p1,p2,p3]
 refine tU 62 ?v53 L25.out ?y53 ?_
 case y53=>intro W hSw;have ⟨p50,p51⟩:=cells2 (hSw.q.1.1.1.1.1.1.1.1.1.1.2);go_simp;try with_reducible rfl
 try simp only[Act.put,p1,p2,p3]
 refine tU 64 ?v54 L25.out ?y54 ?_
 case y54=>intro W hSw;have ⟨p50,p51⟩:=cells2 (hSw.q.1.1.1.1.1.1.1.1.1.1.2);go_simp;try with_reducible rfl
 try simp only[Act.put,p1,p2,p3]
 refine dO 63 (by kernel_rfl) rfl fun K hK=>?_
 go_simp
 refine((L25.out.q.1.1.1.1.1.1.1.1.1.1.1.2).implCount).mono ?_
 rintro e w23 ⟨rfl,hb⟩
 have L26:=hid (L25.out.next hb)
 go_wp2_with fail
 refine hK.out _ _ L26.out ?_
 clear hK K L25 hb
 try simp only[Act.put,p1,p2,p3]
 refine dO 65 (by kernel_rfl) rfl fun K hK=>?_
 go_simp
 refine((L26.out.q.1.1.1.1.1.1.1.1.1.1.1.2).specCount).mono ?_
 rintro e w24 ⟨rfl,hb⟩
 have L27:=hid (L26.out.next hb)
 go_wp2_with fail
 refine hK.out _ _ L27.out ?_
 clear hK K L26 hb
 try simp only[Act.put,p1,p2,p3]
 refine tU 66 ?v55 L27.out ?y55 ?_
 case y55=>intro W hSw;go_simp;try with_reducible rfl
 try simp only[Act.put,p1,p2,p3]
 refine tU 67 ?v56 L27.out ?y56 ?_
 case y56=>intro W hSw;go_simp;try with_reducible rfl
 try simp only[Act.put,p1,p2,p3]
 refine tU 68 ?v57 L27.out ?y57 ?_
 case y57=>intro W hSw;go_simp;try with_reducible rfl
 try simp only[Act.put,p1,p2,p3]
 refine tU 69 ?v58 L27.out ?y58 ?_
 case y58=>intro W hSw;have p10:=cells1 (hSw.q.1.1.1.1.2);go_simp;try with_reducible rfl
 try simp only[Act.put,p1,p2,p3]
 refine tU 71 ?v59 L27.out ?y59 ?_
 case y59=>intro W hSw;have p10:=cells1 (hSw.q.1.1.1.1.2);go_simp;try with_reducible rfl
 try simp only[Act.put,p1,p2,p3]
 refine dO 70 (by kernel_rfl) rfl fun K hK=>?_
 go_simp
 refine((L27.out.q.1.1.1.1.1.2).implRight).mono ?_
 rintro e w25 ⟨rfl,hb⟩
 have L28:=hid (L27.out.next hb)
 go_wp2_with fail
 refine hK.out _ _ L28.out ?_
 clear hK K L27 hb
 try simp only[Act.put,p1,p2,p3]
 refine dO 72 (by kernel_rfl) rfl fun K hK=>?_
 go_simp
 refine((L28.out.q.1.1.1.1.1.2).specRight).mono ?_
 rintro e w26 ⟨rfl,hb⟩
 have L29:=hid (L28.out.next hb)
 go_wp2_with fail
 refine hK.out _ _ L29.out ?_
 clear hK K L28 hb
 try simp only[Act.put,p1,p2,p3]
 refine tU 73 ?v60 L29.out ?y60 ?_
 case y60=>intro W hSw;go_simp;try with_reducible rfl
 try simp only[Act.put,p1,p2,p3]
 refine tU 74 ?v61 L29.out ?y61 ?_
 case y61=>intro W hSw;go_simp;try with_reducible rfl
 try simp only[Act.put,p1,p2,p3]
 refine Due.anyD_done (by kernel_rfl) ?_ _
 go_upto_region 14 with fail
 obtain ⟨QQ,HL,HFD,HFX,HFS,HFZ,HB5,HB8,HB10,HB13⟩:∃ Q:World→Prop,Hid (Led w Q w26)∧Hid (∀ X,Q X→KD (.agg #[.slice da dn dca,.slice db dm dcb]) d X)∧Hid (∀ X,Q X→KD (.agg #[.slice xa xn xca,.slice xb xm xcb]) dq X)∧Hid (∀ X,Q X→KS (.agg #[.slice sa sn sca]) s X)∧Hid (∀ X,Q X→KS (.agg #[.slice za zn zca]) sq X)∧Hid (∀ X,Q X→X.heap[w1.heap.size]?=some (.cells #[.slice da dn dca,.slice db dm dcb] 26))∧Hid (∀ X,Q X→X.heap[w5.heap.size]?=some (.cells #[.slice xa xn xca,.slice xb xm xcb,.int .i64 cq] 31))∧Hid (∀ X,Q X→X.heap[w6.heap.size]?=some (.cells #[.slice sa sn sca] 35))∧Hid (∀ X,Q X→X.heap[w10.heap.size]?=some (.cells #[.slice za zn zca,.int .i64 kq] 39)):=⟨_,L29,hid fun X h=>h.1.1.1.1.1.1.1.1.1.1.1.2,hid fun X h=>h.1.1.1.1.1.1.1.1.1.2,hid fun X h=>h.1.1.1.1.1.2,hid fun X h=>h.1.1.1.2,hid fun X h=>h.1.1.1.1.1.1.1.1.1.1.2,hid fun X h=>h.1.1.1.1.1.1.1.2,hid fun X h=>h.1.1.1.1.2,hid fun X h=>h.1.2⟩
 clear L29
 go_cut [145] from 124 to 144 (fun v wx=>v=.bool false∧Hid (Led w QQ wx))
 case first=>as_aux_lemma =>
  have ⟨p80,p81,p82⟩:=cells3 (HB8.out _ HL.out.q)
  have ⟨p30,p31⟩:=cells2 (HB13.out _ HL.out.q)
  by_cases hc:cq=0
  ·subst hc
   have hq:=HQ.out rfl
   go_wp2_with fail
   refine((HFX.out _ HL.out.q).implText (HL.out.vars HV.out)).mono ?_
   rintro e wa ⟨rfl,hb⟩
   have HL2:=hid (HL.out.next hb)
   clear HL hb p80 p81 p82 p30 p31
   have ⟨p30,p31⟩:=cells2 (HB13.out _ HL2.out.q)
   by_cases hk:kq=0
   ·subst hk
    have hz':=HK.out rfl
    go_wp2_with fail
    refine((HFZ.out _ HL2.out.q).implText (HL2.out.vars HV.out)).mono ?_
    rintro e wb ⟨rfl,hb⟩
    have HL3:=hid (HL2.out.next hb)
    clear HL2 hb p30 p31
    go_wp2_with fail
    go_meet
    exact⟨rfl,HL3⟩
   ·have hkd:decide (kq=0)=false:=decide_eq_false hk
    go_wp2_with fail
    go_meet
    exact⟨rfl,HL2⟩
  ·have hcd:decide (cq=0)=false:=decide_eq_false hc
   by_cases hk:kq=0
   ·subst hk
    have hz':=HK.out rfl
    go_wp2_with fail
    refine((HFZ.out _ HL.out.q).implText (HL.out.vars HV.out)).mono ?_
    rintro e wb ⟨rfl,hb⟩
    have HL3:=hid (HL.out.next hb)
    clear HL hb p30 p31
    go_wp2_with fail
    go_meet
    exact⟨rfl,HL3⟩
   ·have hkd:decide (kq=0)=false:=decide_eq_false hk
    go_wp2_with fail
    go_meet
    exact⟨rfl,HL⟩
 case rest=>as_aux_lemma =>
  obtain ⟨rfl,HLW⟩:=hcut
  clear HQ HK HCQ HCK HFX HFZ HB8 HB13 HL
  go_wp2_with fail
  obtain ⟨tx,htx⟩:∃ t,docT d=t:=⟨_,rfl⟩
  obtain ⟨ty,hty⟩:∃ t,schT s=t:=⟨_,rfl⟩
  rw[htx,hty]
  have CD:Hid (tx≠⟨#[]⟩→tx.size≤8000→∀ W,Vars W.heap.size W→Calls Tryz.prog 7 #[.string tx] W fun e w'=>DRes d 0 W w' e):=hid fun h1 h2 W hv=>by
   have h3:=back_d (d:=d) (by rw[htx];exact h1) (by rw[htx];exact h2)
   rw[htx] at h3
   have:=implRd tx (by omega) W hv
   rwa [h3] at this
  have CE:Hid (ty≠⟨#[]⟩→ty.size≤8000→∀ W,Vars W.heap.size W→Calls Tryz.prog 12 #[.string ty] W fun e w'=>SRes s 0 W w' e):=hid fun h1 h2 W hv=>by
   have h3:=back_s (s:=s) (by rw[hty];exact h1) (by rw[hty];exact h2)
   rw[hty] at h3
   have:=implRs ty (by unfold OkS;omega) W hv
   rwa [h3] at this
  clear htx hty
  refine region_led HLW.out (by kernel_rfl) ?_
  have HM:=hid HLW.out.drew
  clear HLW
  by_cases hne:tx=⟨#[]⟩
  ·subst hne
   have hneE:=isEmpty_
   as_aux_lemma =>
    refine tU 0 ?v62 HM.out ?y62 ?_
    case y62=>intro W hSw;go_simp;try with_reducible rfl
    try simp only[Act.put,p1,p2,p3]
    refine tU 1 ?v63 HM.out ?y63 ?_
    case y63=>intro W hSw;go_simp;try with_reducible rfl
    try simp only[Act.put,p1,p2,p3]
    refine tU 2 ?v64 HM.out ?y64 ?_
    case y64=>intro W hSw;go_simp;try with_reducible rfl
    try simp only[Act.put,p1,p2,p3]
    refine tX 3 HM.out ?_
    try simp only[Act.put,p1,p2,p3]
    refine tX 4 HM.out ?_
    try simp only[Act.put,p1,p2,p3]
    refine tX 5 HM.out ?_
    try simp only[Act.put,p1,p2,p3]
    refine tU 6 ?v68 HM.out ?y68 ?_
    case y68=>intro W hSw;go_simp;try with_reducible rfl
    try simp only[Act.put,p1,p2,p3]
    refine tU 7 ?v69 HM.out ?y69 ?_
    case y69=>intro W hSw;go_simp;try with_reducible rfl
    try simp only[Act.put,p1,p2,p3]
    refine tX 8 HM.out ?_
    try simp only[Act.put,p1,p2,p3]
    refine tX 9 HM.out ?_
    try simp only[Act.put,p1,p2,p3]
    refine tX 10 HM.out ?_
    try simp only[Act.put,p1,p2,p3]
    refine tX 11 HM.out ?_
    try simp only[Act.put,p1,p2,p3]
    refine tX 12 HM.out ?_
    try simp only[Act.put,p1,p2,p3]
    refine tU 13 ?v75 HM.out ?y75 ?_
    case y75=>intro W hSw;go_simp;try with_reducible rfl
    try simp only[Act.put,p1,p2,p3]
    refine tU 14 ?v76 HM.out ?y76 ?_
    case y76=>intro W hSw;go_simp;try with_reducible rfl
    try simp only[Act.put,p1,p2,p3]
    by_cases hne2:ty=⟨#[]⟩
    ·subst hne2
     have hne2E:=isEmpty_
     as_aux_lemma =>
      refine tU 15 ?v77 HM.out ?y77 ?_
      case y77=>intro W hSw;go_simp;try with_reducible rfl
      try simp only[Act.put,p1,p2,p3]
      refine tU 16 ?v78 HM.out ?y78 ?_
      case y78=>intro W hSw;go_simp;try with_reducible rfl
      try simp only[Act.put,p1,p2,p3]
      refine tU 17 ?v79 HM.out ?y79 ?_
      case y79=>intro W hSw;go_simp;try with_reducible rfl
      try simp only[Act.put,p1,p2,p3]
      refine tX 18 HM.out ?_
      try simp only[Act.put,p1,p2,p3]
      refine tX 19 HM.out ?_
      try simp only[Act.put,p1,p2,p3]
      refine tX 20 HM.out ?_
      try simp only[Act.put,p1,p2,p3]
      refine tU 21 ?v83 HM.out ?y83 ?_
      case y83=>intro W hSw;go_simp;try with_reducible rfl
      try simp only[Act.put,p1,p2,p3]
      refine tU 22 ?v84 HM.out ?y84 ?_
      case y84=>intro W hSw;go_simp;try with_reducible rfl
      try simp only[Act.put,p1,p2,p3]
      refine tX 23 HM.out ?_
      try simp only[Act.put,p1,p2,p3]
      refine tX 24 HM.out ?_
      try simp only[Act.put,p1,p2,p3]
      refine tX 25 HM.out ?_
      try simp only[Act.put,p1,p2,p3]
      refine tX 26 HM.out ?_
      try simp only[Act.put,p1,p2,p3]
      refine tX 27 HM.out ?_
      try simp only[Act.put,p1,p2,p3]
      refine tU 28 ?v90 HM.out ?y90 ?_
      case y90=>intro W hSw;go_simp;try with_reducible rfl
      try simp only[Act.put,p1,p2,p3]
      refine tU 29 ?v91 HM.out ?y91 ?_
      case y91=>intro W hSw;go_simp;try with_reducible rfl
      try simp only[Act.put,p1,p2,p3]
      refine tU 30 ?v92 HM.out ?y92 ?_
      case y92=>intro W hSw;go_simp;try with_reducible rfl
      try simp only[Act.put,p1,p2,p3]
      refine Due.anyD_done (by kernel_rfl) ?_ _
      go_wp2_with fail
      go_ret
      exact⟨rfl,HM.out.bel⟩
    ·have hne2b:=notEmpty hne2
     by_cases hne2s:8000<ty.size
     ·have hne2i:decide ((8000:Int)<(ty.size:Int))=true:=decide_eq_true (by omega)
      as_aux_lemma =>
       refine tU 15 ?v93 HM.out ?y93 ?_
       case y93=>intro W hSw;go_simp;try with_reducible rfl
       try simp only[Act.put,p1,p2,p3]
       refine tU 16 ?v94 HM.out ?y94 ?_
       case y94=>intro W hSw;go_simp;try with_reducible rfl
       try simp only[Act.put,p1,p2,p3]
       refine tU 17 ?v95 HM.out ?y95 ?_
       case y95=>intro W hSw;go_simp;try with_reducible rfl
       try simp only[Act.put,p1,p2,p3]
       refine tU 18 ?v96 HM.out ?y96 ?_
       case y96=>intro W hSw;go_simp;try with_reducible rfl
       try simp only[Act.put,p1,p2,p3]
       refine tU 19 ?v97 HM.out ?y97 ?_
       case y97=>intro W hSw;go_simp;try with_reducible rfl
       try simp only[Act.put,p1,p2,p3]
       refine tU 20 ?v98 HM.out ?y98 ?_
       case y98=>intro W hSw;go_simp;try with_reducible rfl
       try simp only[Act.put,p1,p2,p3]
       refine tU 21 ?v99 HM.out ?y99 ?_
       case y99=>intro W hSw;go_simp;try with_reducible rfl
       try simp only[Act.put,p1,p2,p3]
       refine tU 22 ?v100 HM.out ?y100 ?_
       case y100=>intro W hSw;go_simp;try with_reducible rfl
       try simp only[Act.put,p1,p2,p3]
       refine tX 23 HM.out ?_
       try simp only[Act.put,p1,p2,p3]
       refine tX 24 HM.out ?_
       try simp only[Act.put,p1,p2,p3]
       refine tX 25 HM.out ?_
       try simp only[Act.put,p1,p2,p3]
       refine tX 26 HM.out ?_
       try simp only[Act.put,p1,p2,p3]
       refine tX 27 HM.out ?_
       try simp only[Act.put,p1,p2,p3]
       refine tU 28 ?v106 HM.out ?y106 ?_
       case y106=>intro W hSw;go_simp;try with_reducible rfl
       try simp only[Act.put,p1,p2,p3]
       refine tU 29 ?v107 HM.out ?y107 ?_
       case y107=>intro W hSw;go_simp;try with_reducible rfl
       try simp only[Act.put,p1,p2,p3]
       refine tU 30 ?v108 HM.out ?y108 ?_
       case y108=>intro W hSw;go_simp;try with_reducible rfl
       try simp only[Act.put,p1,p2,p3]
       refine Due.anyD_done (by kernel_rfl) ?_ _
       go_wp2_with fail
       go_ret
       exact⟨rfl,HM.out.bel⟩
     ·have hne2i:decide ((8000:Int)<(ty.size:Int))=false:=decide_eq_false (by omega)
      as_aux_lemma =>
       refine tU 15 ?v109 HM.out ?y109 ?_
       case y109=>intro W hSw;go_simp;try with_reducible rfl
       try simp only[Act.put,p1,p2,p3]
       refine tU 16 ?v110 HM.out ?y110 ?_
       case y110=>intro W hSw;go_simp;try with_reducible rfl
       try simp only[Act.put,p1,p2,p3]
       refine tU 17 ?v111 HM.out ?y111 ?_
       case y111=>intro W hSw;go_simp;try with_reducible rfl
       try simp only[Act.put,p1,p2,p3]
       refine tU 18 ?v112 HM.out ?y112 ?_
       case y112=>intro W hSw;go_simp;try with_reducible rfl
       try simp only[Act.put,p1,p2,p3]
       refine tU 19 ?v113 HM.out ?y113 ?_
       case y113=>intro W hSw;go_simp;try with_reducible rfl
       try simp only[Act.put,p1,p2,p3]
       refine tU 20 ?v114 HM.out ?y114 ?_
       case y114=>intro W hSw;go_simp;try with_reducible rfl
       try simp only[Act.put,p1,p2,p3]
       refine tU 21 ?v115 HM.out ?y115 ?_
       case y115=>intro W hSw;go_simp;try with_reducible rfl
       try simp only[Act.put,p1,p2,p3]
       refine tU 22 ?v116 HM.out ?y116 ?_
       case y116=>intro W hSw;go_simp;try with_reducible rfl
       try simp only[Act.put,p1,p2,p3]
       refine tU 23 ?v117 HM.out ?y117 ?_
       case y117=>intro W hSw;go_simp;try with_reducible rfl
       try simp only[Act.put,p1,p2,p3]
       refine tU 26 ?v118 HM.out ?y118 ?_
       case y118=>intro W hSw;have p10:=cells1 (HB10.out _ hSw.q);go_simp;try with_reducible rfl
       try simp only[Act.put,p1,p2,p3]
       refine dO 24 (by kernel_rfl) rfl fun K hK=>?_
       go_simp
       refine(CE.out hne2 (by omega) _ (HM.out.vars HV.out)).mono ?_
       rintro e w27 ⟨⟨ea,en,eca,rfl,ke⟩,hb⟩
       have HM2:=hid (HM.out.next hb)
       have HE:=hid ke
       clear ke
       go_wp2_with fail
       refine hK.out _ _ HM2.out ?_
       clear hK K HM hb
       have HM:=HM2
       clear HM2
       try simp only[Act.put,p1,p2,p3]
       refine tU 25 ?v119 HM.out ?y119 ?_
       case y119=>intro W hSw;go_simp;rw[fieldS];rfl
       try simp only[Act.put,p1,p2,p3]
       refine dO 27 (by kernel_rfl) rfl fun K hK=>?_
       go_simp
       refine(HE.out.same (HFS.out _ HM.out.q)).mono ?_
       rintro e w28 ⟨rfl,hb⟩
       have HM2:=hid (HM.out.next hb)
       clear HE
       go_wp2_with fail
       refine hK.out _ _ HM2.out ?_
       clear hK K HM hb
       have HM:=HM2
       clear HM2
       try simp only[Act.put,p1,p2,p3]
       refine tU 28 ?v120 HM.out ?y120 ?_
       case y120=>intro W hSw;go_simp;try with_reducible rfl
       try simp only[Act.put,p1,p2,p3]
       refine tU 29 ?v121 HM.out ?y121 ?_
       case y121=>intro W hSw;go_simp;try with_reducible rfl
       try simp only[Act.put,p1,p2,p3]
       refine tU 30 ?v122 HM.out ?y122 ?_
       case y122=>intro W hSw;go_simp;try with_reducible rfl
       try simp only[Act.put,p1,p2,p3]
       refine Due.anyD_done (by kernel_rfl) ?_ _
       go_wp2_with fail
       go_ret
       exact⟨rfl,HM.out.bel⟩
  ·have hneb:=notEmpty hne
   by_cases hnes:8000<tx.size
   ·have hnei:decide ((8000:Int)<(tx.size:Int))=true:=decide_eq_true (by omega)
    as_aux_lemma =>
     refine tU 0 ?v123 HM.out ?y123 ?_
     case y123=>intro W hSw;go_simp;try with_reducible rfl
     try simp only[Act.put,p1,p2,p3]
     refine tU 1 ?v124 HM.out ?y124 ?_
     case y124=>intro W hSw;go_simp;try with_reducible rfl
     try simp only[Act.put,p1,p2,p3]
     refine tU 2 ?v125 HM.out ?y125 ?_
     case y125=>intro W hSw;go_simp;try with_reducible rfl
     try simp only[Act.put,p1,p2,p3]
     refine tU 3 ?v126 HM.out ?y126 ?_
     case y126=>intro W hSw;go_simp;try with_reducible rfl
     try simp only[Act.put,p1,p2,p3]
     refine tU 4 ?v127 HM.out ?y127 ?_
     case y127=>intro W hSw;go_simp;try with_reducible rfl
     try simp only[Act.put,p1,p2,p3]
     refine tU 5 ?v128 HM.out ?y128 ?_
     case y128=>intro W hSw;go_simp;try with_reducible rfl
     try simp only[Act.put,p1,p2,p3]
     refine tU 6 ?v129 HM.out ?y129 ?_
     case y129=>intro W hSw;go_simp;try with_reducible rfl
     try simp only[Act.put,p1,p2,p3]
     refine tU 7 ?v130 HM.out ?y130 ?_
     case y130=>intro W hSw;go_simp;try with_reducible rfl
     try simp only[Act.put,p1,p2,p3]
     refine tX 8 HM.out ?_
     try simp only[Act.put,p1,p2,p3]
     refine tX 9 HM.out ?_
     try simp only[Act.put,p1,p2,p3]
     refine tX 10 HM.out ?_
     try simp only[Act.put,p1,p2,p3]
     refine tX 11 HM.out ?_
     try simp only[Act.put,p1,p2,p3]
     refine tX 12 HM.out ?_
     try simp only[Act.put,p1,p2,p3]
     refine tU 13 ?v136 HM.out ?y136 ?_
     case y136=>intro W hSw;go_simp;try with_reducible rfl
     try simp only[Act.put,p1,p2,p3]
     refine tU 14 ?v137 HM.out ?y137 ?_
     case y137=>intro W hSw;go_simp;try with_reducible rfl
     try simp only[Act.put,p1,p2,p3]
     by_cases hne2:ty=⟨#[]⟩
     ·subst hne2
      have hne2E:=isEmpty_
      as_aux_lemma =>
       refine tU 15 ?v138 HM.out ?y138 ?_
       case y138=>intro W hSw;go_simp;try with_reducible rfl
       try simp only[Act.put,p1,p2,p3]
       refine tU 16 ?v139 HM.out ?y139 ?_
       case y139=>intro W hSw;go_simp;try with_reducible rfl
       try simp only[Act.put,p1,p2,p3]
       refine tU 17 ?v140 HM.out ?y140 ?_
       case y140=>intro W hSw;go_simp;try with_reducible rfl
       try simp only[Act.put,p1,p2,p3]
       refine tX 18 HM.out ?_
       try simp only[Act.put,p1,p2,p3]
       refine tX 19 HM.out ?_
       try simp only[Act.put,p1,p2,p3]
       refine tX 20 HM.out ?_
       try simp only[Act.put,p1,p2,p3]
       refine tU 21 ?v144 HM.out ?y144 ?_
       case y144=>intro W hSw;go_simp;try with_reducible rfl
       try simp only[Act.put,p1,p2,p3]
       refine tU 22 ?v145 HM.out ?y145 ?_
       case y145=>intro W hSw;go_simp;try with_reducible rfl
       try simp only[Act.put,p1,p2,p3]
       refine tX 23 HM.out ?_
       try simp only[Act.put,p1,p2,p3]
       refine tX 24 HM.out ?_
       try simp only[Act.put,p1,p2,p3]
       refine tX 25 HM.out ?_
       try simp only[Act.put,p1,p2,p3]
       refine tX 26 HM.out ?_
       try simp only[Act.put,p1,p2,p3]
       refine tX 27 HM.out ?_
       try simp only[Act.put,p1,p2,p3]
       refine tU 28 ?v151 HM.out ?y151 ?_
       case y151=>intro W hSw;go_simp;try with_reducible rfl
       try simp only[Act.put,p1,p2,p3]
       refine tU 29 ?v152 HM.out ?y152 ?_
       case y152=>intro W hSw;go_simp;try with_reducible rfl
       try simp only[Act.put,p1,p2,p3]
       refine tU 30 ?v153 HM.out ?y153 ?_
       case y153=>intro W hSw;go_simp;try with_reducible rfl
       try simp only[Act.put,p1,p2,p3]
       refine Due.anyD_done (by kernel_rfl) ?_ _
       go_wp2_with fail
       go_ret
       exact⟨rfl,HM.out.bel⟩
     ·have hne2b:=notEmpty hne2
      by_cases hne2s:8000<ty.size
      ·have hne2i:decide ((8000:Int)<(ty.size:Int))=true:=decide_eq_true (by omega)
       as_aux_lemma =>
        refine tU 15 ?v154 HM.out ?y154 ?_
        case y154=>intro W hSw;go_simp;try with_reducible rfl
        try simp only[Act.put,p1,p2,p3]
        refine tU 16 ?v155 HM.out ?y155 ?_
        case y155=>intro W hSw;go_simp;try with_reducible rfl
        try simp only[Act.put,p1,p2,p3]
        refine tU 17 ?v156 HM.out ?y156 ?_
        case y156=>intro W hSw;go_simp;try with_reducible rfl
        try simp only[Act.put,p1,p2,p3]
        refine tU 18 ?v157 HM.out ?y157 ?_
        case y157=>intro W hSw;go_simp;try with_reducible rfl
        try simp only[Act.put,p1,p2,p3]
        refine tU 19 ?v158 HM.out ?y158 ?_
        case y158=>intro W hSw;go_simp;try with_reducible rfl
        try simp only[Act.put,p1,p2,p3]
        refine tU 20 ?v159 HM.out ?y159 ?_
        case y159=>intro W hSw;go_simp;try with_reducible rfl
        try simp only[Act.put,p1,p2,p3]
        refine tU 21 ?v160 HM.out ?y160 ?_
        case y160=>intro W hSw;go_simp;try with_reducible rfl
        try simp only[Act.put,p1,p2,p3]
        refine tU 22 ?v161 HM.out ?y161 ?_
        case y161=>intro W hSw;go_simp;try with_reducible rfl
        try simp only[Act.put,p1,p2,p3]
        refine tX 23 HM.out ?_
        try simp only[Act.put,p1,p2,p3]
        refine tX 24 HM.out ?_
        try simp only[Act.put,p1,p2,p3]
        refine tX 25 HM.out ?_
        try simp only[Act.put,p1,p2,p3]
        refine tX 26 HM.out ?_
        try simp only[Act.put,p1,p2,p3]
        refine tX 27 HM.out ?_
        try simp only[Act.put,p1,p2,p3]
        refine tU 28 ?v167 HM.out ?y167 ?_
        case y167=>intro W hSw;go_simp;try with_reducible rfl
        try simp only[Act.put,p1,p2,p3]
        refine tU 29 ?v168 HM.out ?y168 ?_
        case y168=>intro W hSw;go_simp;try with_reducible rfl
        try simp only[Act.put,p1,p2,p3]
        refine tU 30 ?v169 HM.out ?y169 ?_
        case y169=>intro W hSw;go_simp;try with_reducible rfl
        try simp only[Act.put,p1,p2,p3]
        refine Due.anyD_done (by kernel_rfl) ?_ _
        go_wp2_with fail
        go_ret
        exact⟨rfl,HM.out.bel⟩
      ·have hne2i:decide ((8000:Int)<(ty.size:Int))=false:=decide_eq_false (by omega)
       as_aux_lemma =>
        refine tU 15 ?v170 HM.out ?y170 ?_
        case y170=>intro W hSw;go_simp;try with_reducible rfl
        try simp only[Act.put,p1,p2,p3]
        refine tU 16 ?v171 HM.out ?y171 ?_
        case y171=>intro W hSw;go_simp;try with_reducible rfl
        try simp only[Act.put,p1,p2,p3]
        refine tU 17 ?v172 HM.out ?y172 ?_
        case y172=>intro W hSw;go_simp;try with_reducible rfl
        try simp only[Act.put,p1,p2,p3]
        refine tU 18 ?v173 HM.out ?y173 ?_
        case y173=>intro W hSw;go_simp;try with_reducible rfl
        try simp only[Act.put,p1,p2,p3]
        refine tU 19 ?v174 HM.out ?y174 ?_
        case y174=>intro W hSw;go_simp;try with_reducible rfl
        try simp only[Act.put,p1,p2,p3]
        refine tU 20 ?v175 HM.out ?y175 ?_
        case y175=>intro W hSw;go_simp;try with_reducible rfl
        try simp only[Act.put,p1,p2,p3]
        refine tU 21 ?v176 HM.out ?y176 ?_
        case y176=>intro W hSw;go_simp;try with_reducible rfl
        try simp only[Act.put,p1,p2,p3]
        refine tU 22 ?v177 HM.out ?y177 ?_
        case y177=>intro W hSw;go_simp;try with_reducible rfl
        try simp only[Act.put,p1,p2,p3]
        refine tU 23 ?v178 HM.out ?y178 ?_
        case y178=>intro W hSw;go_simp;try with_reducible rfl
        try simp only[Act.put,p1,p2,p3]
        refine tU 26 ?v179 HM.out ?y179 ?_
        case y179=>intro W hSw;have p10:=cells1 (HB10.out _ hSw.q);go_simp;try with_reducible rfl
        try simp only[Act.put,p1,p2,p3]
        refine dO 24 (by kernel_rfl) rfl fun K hK=>?_
        go_simp
        refine(CE.out hne2 (by omega) _ (HM.out.vars HV.out)).mono ?_
        rintro e w29 ⟨⟨ea,en,eca,rfl,ke⟩,hb⟩
        have HM2:=hid (HM.out.next hb)
        have HE:=hid ke
        clear ke
        go_wp2_with fail
        refine hK.out _ _ HM2.out ?_
        clear hK K HM hb
        have HM:=HM2
        clear HM2
        try simp only[Act.put,p1,p2,p3]
        refine tU 25 ?v180 HM.out ?y180 ?_
        case y180=>intro W hSw;go_simp;rw[fieldS];rfl
        try simp only[Act.put,p1,p2,p3]
        refine dO 27 (by kernel_rfl) rfl fun K hK=>?_
        go_simp
        refine(HE.out.same (HFS.out _ HM.out.q)).mono ?_
        rintro e w30 ⟨rfl,hb⟩
        have HM2:=hid (HM.out.next hb)
        clear HE
        go_wp2_with fail
        refine hK.out _ _ HM2.out ?_
        clear hK K HM hb
        have HM:=HM2
        clear HM2
        try simp only[Act.put,p1,p2,p3]
        refine tU 28 ?v181 HM.out ?y181 ?_
        case y181=>intro W hSw;go_simp;try with_reducible rfl
        try simp only[Act.put,p1,p2,p3]
        refine tU 29 ?v182 HM.out ?y182 ?_
        case y182=>intro W hSw;go_simp;try with_reducible rfl
        try simp only[Act.put,p1,p2,p3]
        refine tU 30 ?v183 HM.out ?y183 ?_
        case y183=>intro W hSw;go_simp;try with_reducible rfl
        try simp only[Act.put,p1,p2,p3]
        refine Due.anyD_done (by kernel_rfl) ?_ _
        go_wp2_with fail
        go_ret
        exact⟨rfl,HM.out.bel⟩
   ·have hnei:decide ((8000:Int)<(tx.size:Int))=false:=decide_eq_false (by omega)
    as_aux_lemma =>
     refine tU 0 ?v184 HM.out ?y184 ?_
     case y184=>intro W hSw;go_simp;try with_reducible rfl
     try simp only[Act.put,p1,p2,p3]
     refine tU 1 ?v185 HM.out ?y185 ?_
     case y185=>intro W hSw;go_simp;try with_reducible rfl
     try simp only[Act.put,p1,p2,p3]
     refine tU 2 ?v186 HM.out ?y186 ?_
     case y186=>intro W hSw;go_simp;try with_reducible rfl
     try simp only[Act.put,p1,p2,p3]
     refine tU 3 ?v187 HM.out ?y187 ?_
     case y187=>intro W hSw;go_simp;try with_reducible rfl
     try simp only[Act.put,p1,p2,p3]
     refine tU 4 ?v188 HM.out ?y188 ?_
     case y188=>intro W hSw;go_simp;try with_reducible rfl
     try simp only[Act.put,p1,p2,p3]
     refine tU 5 ?v189 HM.out ?y189 ?_
     case y189=>intro W hSw;go_simp;try with_reducible rfl
     try simp only[Act.put,p1,p2,p3]
     refine tU 6 ?v190 HM.out ?y190 ?_
     case y190=>intro W hSw;go_simp;try with_reducible rfl
     try simp only[Act.put,p1,p2,p3]
     refine tU 7 ?v191 HM.out ?y191 ?_
     case y191=>intro W hSw;go_simp;try with_reducible rfl
     try simp only[Act.put,p1,p2,p3]
     refine tU 8 ?v192 HM.out ?y192 ?_
     case y192=>intro W hSw;go_simp;try with_reducible rfl
     try simp only[Act.put,p1,p2,p3]
     refine tU 11 ?v193 HM.out ?y193 ?_
     case y193=>intro W hSw;have ⟨p50,p51⟩:=cells2 (HB5.out _ hSw.q);go_simp;try with_reducible rfl
     try simp only[Act.put,p1,p2,p3]
     refine dO 9 (by kernel_rfl) rfl fun K hK=>?_
     go_simp
     refine(CD.out hne (by omega) _ (HM.out.vars HV.out)).mono ?_
     rintro e w31 ⟨⟨ea,en,eca,eb,em,ecb,rfl,ke⟩,hb⟩
     have HM2:=hid (HM.out.next hb)
     have HE:=hid ke
     clear ke
     go_wp2_with fail
     refine hK.out _ _ HM2.out ?_
     clear hK K HM hb
     have HM:=HM2
     clear HM2
     try simp only[Act.put,p1,p2,p3]
     refine tU 10 ?v194 HM.out ?y194 ?_
     case y194=>intro W hSw;go_simp;rw[fieldD];rfl
     try simp only[Act.put,p1,p2,p3]
     refine dO 12 (by kernel_rfl) rfl fun K hK=>?_
     go_simp
     refine(HE.out.same (HFD.out _ HM.out.q)).mono ?_
     rintro e w32 ⟨rfl,hb⟩
     have HM2:=hid (HM.out.next hb)
     clear HE
     go_wp2_with fail
     refine hK.out _ _ HM2.out ?_
     clear hK K HM hb
     have HM:=HM2
     clear HM2
     try simp only[Act.put,p1,p2,p3]
     refine tU 13 ?v195 HM.out ?y195 ?_
     case y195=>intro W hSw;go_simp;try with_reducible rfl
     try simp only[Act.put,p1,p2,p3]
     refine tU 14 ?v196 HM.out ?y196 ?_
     case y196=>intro W hSw;go_simp;try with_reducible rfl
     try simp only[Act.put,p1,p2,p3]
     by_cases hne2:ty=⟨#[]⟩
     ·subst hne2
      have hne2E:=isEmpty_
      as_aux_lemma =>
       refine tU 15 ?v197 HM.out ?y197 ?_
       case y197=>intro W hSw;go_simp;try with_reducible rfl
       try simp only[Act.put,p1,p2,p3]
       refine tU 16 ?v198 HM.out ?y198 ?_
       case y198=>intro W hSw;go_simp;try with_reducible rfl
       try simp only[Act.put,p1,p2,p3]
       refine tU 17 ?v199 HM.out ?y199 ?_
       case y199=>intro W hSw;go_simp;try with_reducible rfl
       try simp only[Act.put,p1,p2,p3]
       refine tX 18 HM.out ?_
       try simp only[Act.put,p1,p2,p3]
       refine tX 19 HM.out ?_
       try simp only[Act.put,p1,p2,p3]
       refine tX 20 HM.out ?_
       try simp only[Act.put,p1,p2,p3]
       refine tU 21 ?v203 HM.out ?y203 ?_
       case y203=>intro W hSw;go_simp;try with_reducible rfl
       try simp only[Act.put,p1,p2,p3]
       refine tU 22 ?v204 HM.out ?y204 ?_
       case y204=>intro W hSw;go_simp;try with_reducible rfl
       try simp only[Act.put,p1,p2,p3]
       refine tX 23 HM.out ?_
       try simp only[Act.put,p1,p2,p3]
       refine tX 24 HM.out ?_
       try simp only[Act.put,p1,p2,p3]
       refine tX 25 HM.out ?_
       try simp only[Act.put,p1,p2,p3]
       refine tX 26 HM.out ?_
       try simp only[Act.put,p1,p2,p3]
       refine tX 27 HM.out ?_
       try simp only[Act.put,p1,p2,p3]
       refine tU 28 ?v210 HM.out ?y210 ?_
       case y210=>intro W hSw;go_simp;try with_reducible rfl
       try simp only[Act.put,p1,p2,p3]
       refine tU 29 ?v211 HM.out ?y211 ?_
       case y211=>intro W hSw;go_simp;try with_reducible rfl
       try simp only[Act.put,p1,p2,p3]
       refine tU 30 ?v212 HM.out ?y212 ?_
       case y212=>intro W hSw;go_simp;try with_reducible rfl
       try simp only[Act.put,p1,p2,p3]
       refine Due.anyD_done (by kernel_rfl) ?_ _
       go_wp2_with fail
       go_ret
       exact⟨rfl,HM.out.bel⟩
     ·have hne2b:=notEmpty hne2
      by_cases hne2s:8000<ty.size
      ·have hne2i:decide ((8000:Int)<(ty.size:Int))=true:=decide_eq_true (by omega)
       as_aux_lemma =>
        refine tU 15 ?v213 HM.out ?y213 ?_
        case y213=>intro W hSw;go_simp;try with_reducible rfl
        try simp only[Act.put,p1,p2,p3]
        refine tU 16 ?v214 HM.out ?y214 ?_
        case y214=>intro W hSw;go_simp;try with_reducible rfl
        try simp only[Act.put,p1,p2,p3]
        refine tU 17 ?v215 HM.out ?y215 ?_
        case y215=>intro W hSw;go_simp;try with_reducible rfl
        try simp only[Act.put,p1,p2,p3]
        refine tU 18 ?v216 HM.out ?y216 ?_
        case y216=>intro W hSw;go_simp;try with_reducible rfl
        try simp only[Act.put,p1,p2,p3]
        refine tU 19 ?v217 HM.out ?y217 ?_
        case y217=>intro W hSw;go_simp;try with_reducible rfl
        try simp only[Act.put,p1,p2,p3]
        refine tU 20 ?v218 HM.out ?y218 ?_
        case y218=>intro W hSw;go_simp;try with_reducible rfl
        try simp only[Act.put,p1,p2,p3]
        refine tU 21 ?v219 HM.out ?y219 ?_
        case y219=>intro W hSw;go_simp;try with_reducible rfl
        try simp only[Act.put,p1,p2,p3]
        refine tU 22 ?v220 HM.out ?y220 ?_
        case y220=>intro W hSw;go_simp;try with_reducible rfl
        try simp only[Act.put,p1,p2,p3]
        refine tX 23 HM.out ?_
        try simp only[Act.put,p1,p2,p3]
        refine tX 24 HM.out ?_
        try simp only[Act.put,p1,p2,p3]
        refine tX 25 HM.out ?_
        try simp only[Act.put,p1,p2,p3]
        refine tX 26 HM.out ?_
        try simp only[Act.put,p1,p2,p3]
        refine tX 27 HM.out ?_
        try simp only[Act.put,p1,p2,p3]
        refine tU 28 ?v226 HM.out ?y226 ?_
        case y226=>intro W hSw;go_simp;try with_reducible rfl
        try simp only[Act.put,p1,p2,p3]
        refine tU 29 ?v227 HM.out ?y227 ?_
        case y227=>intro W hSw;go_simp;try with_reducible rfl
        try simp only[Act.put,p1,p2,p3]
        refine tU 30 ?v228 HM.out ?y228 ?_
        case y228=>intro W hSw;go_simp;try with_reducible rfl
        try simp only[Act.put,p1,p2,p3]
        refine Due.anyD_done (by kernel_rfl) ?_ _
        go_wp2_with fail
        go_ret
        exact⟨rfl,HM.out.bel⟩
      ·have hne2i:decide ((8000:Int)<(ty.size:Int))=false:=decide_eq_false (by omega)
       as_aux_lemma =>
        refine tU 15 ?v229 HM.out ?y229 ?_
        case y229=>intro W hSw;go_simp;try with_reducible rfl
        try simp only[Act.put,p1,p2,p3]
        refine tU 16 ?v230 HM.out ?y230 ?_
        case y230=>intro W hSw;go_simp;try with_reducible rfl
        try simp only[Act.put,p1,p2,p3]
        refine tU 17 ?v231 HM.out ?y231 ?_
        case y231=>intro W hSw;go_simp;try with_reducible rfl
        try simp only[Act.put,p1,p2,p3]
        refine tU 18 ?v232 HM.out ?y232 ?_
        case y232=>intro W hSw;go_simp;try with_reducible rfl
        try simp only[Act.put,p1,p2,p3]
        refine tU 19 ?v233 HM.out ?y233 ?_
        case y233=>intro W hSw;go_simp;try with_reducible rfl
        try simp only[Act.put,p1,p2,p3]
        refine tU 20 ?v234 HM.out ?y234 ?_
        case y234=>intro W hSw;go_simp;try with_reducible rfl
        try simp only[Act.put,p1,p2,p3]
        refine tU 21 ?v235 HM.out ?y235 ?_
        case y235=>intro W hSw;go_simp;try with_reducible rfl
        try simp only[Act.put,p1,p2,p3]
        refine tU 22 ?v236 HM.out ?y236 ?_
        case y236=>intro W hSw;go_simp;try with_reducible rfl
        try simp only[Act.put,p1,p2,p3]
        refine tU 23 ?v237 HM.out ?y237 ?_
        case y237=>intro W hSw;go_simp;try with_reducible rfl
        try simp only[Act.put,p1,p2,p3]
        refine tU 26 ?v238 HM.out ?y238 ?_
        case y238=>intro W hSw;have p10:=cells1 (HB10.out _ hSw.q);go_simp;try with_reducible rfl
        try simp only[Act.put,p1,p2,p3]
        refine dO 24 (by kernel_rfl) rfl fun K hK=>?_
        go_simp
        refine(CE.out hne2 (by omega) _ (HM.out.vars HV.out)).mono ?_
        rintro e w33 ⟨⟨ea,en,eca,rfl,ke⟩,hb⟩
        have HM2:=hid (HM.out.next hb)
        have HE:=hid ke
        clear ke
        go_wp2_with fail
        refine hK.out _ _ HM2.out ?_
        clear hK K HM hb
        have HM:=HM2
        clear HM2
        try simp only[Act.put,p1,p2,p3]
        refine tU 25 ?v239 HM.out ?y239 ?_
        case y239=>intro W hSw;go_simp;rw[fieldS];rfl
        try simp only[Act.put,p1,p2,p3]
        refine dO 27 (by kernel_rfl) rfl fun K hK=>?_
        go_simp
        refine(HE.out.same (HFS.out _ HM.out.q)).mono ?_
        rintro e w34 ⟨rfl,hb⟩
        have HM2:=hid (HM.out.next hb)
        clear HE
        go_wp2_with fail
        refine hK.out _ _ HM2.out ?_
        clear hK K HM hb
        have HM:=HM2
        clear HM2
        try simp only[Act.put,p1,p2,p3]
        refine tU 28 ?v240 HM.out ?y240 ?_
        case y240=>intro W hSw;go_simp;try with_reducible rfl
        try simp only[Act.put,p1,p2,p3]
        refine tU 29 ?v241 HM.out ?y241 ?_
        case y241=>intro W hSw;go_simp;try with_reducible rfl
        try simp only[Act.put,p1,p2,p3]
        refine tU 30 ?v242 HM.out ?y242 ?_
        case y242=>intro W hSw;go_simp;try with_reducible rfl
        try simp only[Act.put,p1,p2,p3]
        refine Due.anyD_done (by kernel_rfl) ?_ _
        go_wp2_with fail
        go_ret
        exact⟨rfl,HM.out.bel⟩
end Go.Proofs.YtmembhpoidcmlaaGreatDoor.TextL
