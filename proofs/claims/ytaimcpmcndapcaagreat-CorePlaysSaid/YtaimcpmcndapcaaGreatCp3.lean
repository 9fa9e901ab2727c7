/-
 Own words and walks, merged: part 3 of 10.
-/
import Derived.Test.YtaimcpmcndapcaaGreatCp2
set_option maxRecDepth 1000000
set_option maxHeartbeats 8000000
set_option linter.all false
namespace Go.Proofs.YtaimcpmcndapcaaGreat
open Go.Proofs.Tryz
open Go.RowKit Go.Lib
section
variable {w w' : World} {p : Nat} {dv lv : Value} {M : Md}
theorem MB.set (hb:MB M)(i:Nat)(x:Jb)(h1:0≤x.wid∧x.wid≤64)(h2:0≤x.lim∧x.lim≤1048576)(h3: -1≤x.aW∧x.aW≤1099511627776)(h4: -1≤x.fin∧x.fin≤1099512676352)(h5:0≤x.bY∧x.bY≤18446744073709551615):MB {M with L:=M.L.set i x}:=by
 have H:∀{P:Jb→Prop},(∀j∈M.L,P j)→P x→∀j∈M.L.set i x,P j:=fun h hx j hj=>by
  rcases List.mem_or_eq_of_mem_set hj with h1|rfl
  ·exact h j h1
  ·exact hx
 exact⟨hb.nn,by show(M.L.set i x).length≤1024;rw[List.length_set];exact hb.ll,hb.now,H hb.wid h1,H hb.lim h2,H hb.aW h3,H hb.fin h4,H hb.bY h5⟩
theorem R6 (h:MW w p dv lv M)(hb:MB M)(k id q3 q4 q5 q6:Int)(q7:Bool)(q8 q9:Int)(hid: -9223372036854775808≤id∧id≤9223372036854775807)(hg:(getM M id).2=false):Calls prog 93 #[.pointer (some ⟨p,0,none⟩),.agg #[.int .i64 k,.int .i64 id,.int .i64 q3,.int .i64 q4,.int .i64 q5,.int .i64 q6,.bool q7,.int .i64 q8,.int .i64 q9]] w (iJ w p dv lv (dB 7,M)):=by
 obtain⟨wA,aj⟩:=qaa ((w.alloc (.cells #[.int .i64 k,.int .i64 id,.int .i64 q3,.int .i64 q4,.int .i64 q5,.int .i64 q6,.bool q7,.int .i64 q8,.int .i64 q9] 33)).alloc (.cells #[.int .i64 0,.int .i64 0,.int .i64 0,.int .i64 0,.int .i64 0,.int .i64 0,.int .i64 0,.int .i64 0,.int .i64 0] 67));have aC:Below w.heap.size w wA:=by rw[aj];exact(qac.alloc (qaf _) _).alloc (by simp) _
 have hsA:wA.heap.size=w.heap.size+2:=by rw[aj];simp
 have aH:aG wA (w.heap.size+1) aQ:=by rw[aj];exact heap_alloc2_new w _ _
 have aP:=h.kept aC;have hp0:Hid (∀k,ax p dv lv k→k<w.heap.size):=h.bF;have hgt:=ma aP.read hb id hid;rw[aj]at hgt;rw[hg]at hgt;generalize (getM M id).1=y at*;obtain⟨x1,x2,x3,x4,x5,x6,x7,x8,x9,x0⟩:=y;rw[dP]at hgt;replace aP:=qae aP;replace aC:=qae aC;clear h hb hid hg;go_enter func93,ntmps93;go_wp2_with fail;go_at_call 112;refine hgt.mono ?_;clear hgt;rw[←aj];rintro e w1 ⟨rfl,hb1⟩;replace aj:=qae aj;obtain⟨w2,hw2⟩:=qaa (w1.alloc (.cells #[.int .i64 x1,.int .i64 x2,.int .i64 x3,.int .i64 x4,.int .i64 x5,.int .i64 x6,.int .i64 x7,.int .i64 x8,.int .i64 x9,.int .u64 x0] 55));have hb2:Below wA.heap.size wA w2:=by rw[hw2];exact hb1.alloc hb1.size _
 have hR2:aG w2 (w.heap.size+1) aQ:=aH.below hb2 (by omega);have hM2:=qae (aP.out.kept hb2);have hbw:=qae (aC.out.trans (hb2.mono aC.out.size));have a0:=hR2.at 0 (.int .i64 0) rfl;have f0:=hR2.free 0;have a1:=hR2.at 1 (.int .i64 0) rfl;have f1:=hR2.free 1;have a2:=hR2.at 2 (.int .i64 0) rfl;have f2:=hR2.free 2;have a3:=hR2.at 3 (.int .i64 0) rfl;have f3:=hR2.free 3;have a4:=hR2.at 4 (.int .i64 0) rfl;have f4:=hR2.free 4;have a5:=hR2.at 5 (.int .i64 0) rfl;have f5:=hR2.free 5;have a6:=hR2.at 6 (.int .i64 0) rfl;have f6:=hR2.free 6;have a7:=hR2.at 7 (.int .i64 0) rfl;have f7:=hR2.free 7;have a8:=hR2.at 8 (.int .i64 0) rfl;have f8:=hR2.free 8;rw[hw2]at a0 f0 a1 f1 a2 f2 a3 f3 a4 f4 a5 f5 a6 f6 a7 f7 a8 f8;clear hb1 hb2 aH;go_wp2_with fail;rw[←hw2];obtain⟨w3,hw3⟩:=qaa ((((((((((w2).setCell ⟨w.heap.size+1,0,none⟩ (.int .i64 7)).setCell ⟨w.heap.size+1,1,none⟩ (.int .i64 0)).setCell ⟨w.heap.size+1,2,none⟩ (.int .i64 0)).setCell ⟨w.heap.size+1,3,none⟩ (.int .i64 0)).setCell ⟨w.heap.size+1,4,none⟩ (.int .i64 0)).setCell ⟨w.heap.size+1,5,none⟩ (.int .i64 0)).setCell ⟨w.heap.size+1,6,none⟩ (.int .i64 0)).setCell ⟨w.heap.size+1,7,none⟩ (.int .i64 0)).setCell ⟨w.heap.size+1,8,none⟩ (.int .i64 0));rw[←hw3];have hb3:Below (w.heap.size+1) w2 w3:=by rw[hw3];exact aT (aT (aT (aT (aT (aT (aT (aT (aT qac (qaf _) 0 _) (qaf _) 1 _) (qaf _) 2 _) (qaf _) 3 _) (qaf _) 4 _) (qaf _) 5 _) (qaf _) 6 _) (qaf _) 7 _) (qaf _) 8 _
 have gz:aG w3 (w.heap.size+1) (dB 7):=by rw[hw3];exact heap_put (i:=8) (heap_put (i:=7) (heap_put (i:=6) (heap_put (i:=5) (heap_put (i:=4) (heap_put (i:=3) (heap_put (i:=2) (heap_put (i:=1) (heap_put (i:=0) (hR2) (.int .i64 7)) (.int .i64 0)) (.int .i64 0)) (.int .i64 0)) (.int .i64 0)) (.int .i64 0)) (.int .i64 0)) (.int .i64 0)) (.int .i64 0)
 replace hw2:=qae hw2;replace hw3:=qae hw3;have eZ:MW w3 p dv lv M:=hM2.out.cK hb3 (fun k hk=>Nat.lt_succ_of_lt (hp0.out k hk));have hof:aB (ax p dv lv) w w3:=(aB.of_below (S:=ax p dv lv) hbw.out).later hb3 (Nat.le_succ _);refine aO rfl rfl rfl gz underlying67 rfl (by kernel_rfl) ⟨rfl,⟨lv,eZ,aY.refl _ _⟩,hof⟩
theorem Vh {g n cap i:Nat}(h:MW w p dv (.slice (some ⟨g,0,none⟩) n cap) M)(hb:MB M)(q3 q4 q5 q6:Int)(q7:Bool)(q8 q9:Int)(T:Int)(hT:T=M.now)(hn:n=M.L.length)(hi:i<n)(x1 x2 x3 x4 x5 x7 x8 x9 x0:Int)(hg:getM M ((i:Int)+1)=((x1,x2,x3,x4,x5,1,x7,x8,x9,x0),true)):Calls prog 93 #[.pointer (some ⟨p,0,none⟩),.agg #[.int .i64 3,.int .i64 ((i:Int)+1),.int .i64 q3,.int .i64 q4,.int .i64 q5,.int .i64 q6,.bool q7,.int .i64 q8,.int .i64 q9]] w (iJ w p dv (.slice (some ⟨g,0,none⟩) n cap) (gH (x1,x2,x3,x4,x5,2,x7,x8,-1,x0),{M with L:=M.L.set i (x1,x2,x3,x4,x5,2,x7,x8,-1,x0)})):=by
 have hll:=hb.ll;rw[←hn]at hll;have hin:(i:Int)<(n:Int):=by omega
 have b0:(0:Int)≤(i:Int):=by omega
 have xU:IntKind.i64.wrap (i:Int)=(i:Int):=by rw[IntKind.wrap_i64];omega
 have hcap:n≤cap:=by obtain⟨ao,cp,hv,h1,_⟩:=bE h.js;injection hv with _ e1 e2;omega
 obtain⟨wA,aj⟩:=qaa ((w.alloc (.cells #[.int .i64 3,.int .i64 ((i:Int)+1),.int .i64 q3,.int .i64 q4,.int .i64 q5,.int .i64 q6,.bool q7,.int .i64 q8,.int .i64 q9] 33)).alloc (.cells #[.int .i64 0,.int .i64 0,.int .i64 0,.int .i64 0,.int .i64 0,.int .i64 0,.int .i64 0,.int .i64 0,.int .i64 0] 67));have aC:Below w.heap.size w wA:=by rw[aj];exact(qac.alloc (qaf _) _).alloc (by simp) _
 have hsA:wA.heap.size=w.heap.size+2:=by rw[aj];simp
 have aH:aG wA (w.heap.size+1) aQ:=by rw[aj];exact heap_alloc2_new w _ _
 have bg:wA.heap[w.heap.size]? =some (.cells #[.int .i64 3,.int .i64 ((i:Int)+1),.int .i64 q3,.int .i64 q4,.int .i64 q5,.int .i64 q6,.bool q7,.int .i64 q8,.int .i64 q9] 33 (0,0)):=by rw[aj];exact aJ (heap_alloc_new w _)
 have aP:=h.kept aC;have hp0:Hid (∀k,ax p dv (.slice (some ⟨g,0,none⟩) n cap) k→k<w.heap.size):=h.bF;have hgt:=ma aP.read hb ((i:Int)+1) (by omega);rw[aj,hg]at hgt;rw[dP]at hgt;have fw:Hid (i<M.L.length):=by show _<_;rw[←hn];exact hi
 replace aP:=qae aP;replace aC:=qae aC;replace hn:=qae hn;replace hT:=qae hT;clear h hb hg;go_enter func93,ntmps93;go_wp2_with fail;go_at_call 112;refine hgt.mono ?_;clear hgt;rw[←aj];rintro e w1 ⟨rfl,hb1⟩;replace aj:=qae aj;have hs1:w.heap.size+2≤w1.heap.size:=by have:=hb1.size;omega
 have hne:¬w1.heap.size=w.heap.size:=by omega
 have hne2:¬w.heap.size=w1.heap.size:=by omega
 have fV:aG w1 (w.heap.size+1) aQ:=aH.below hb1 (by omega);have ou:w1.heap[w.heap.size]? =some (.cells #[.int .i64 3,.int .i64 ((i:Int)+1),.int .i64 q3,.int .i64 q4,.int .i64 q5,.int .i64 q6,.bool q7,.int .i64 q8,.int .i64 q9] 33 (0,0)):=(hb1.block _ (by omega)).trans bg;have hM1:=aP.out.kept hb1;have hbw:=aC.out.trans (hb1.mono aC.out.size);have c0:∀o,(w1.alloc o).cell? ⟨p,0,none⟩=some (.int .i64 T):=fun o=>by have:=(hM1.kept (qac.alloc (qaf _) o)).read.c0;rw[←hT.out]at this;exact this
 have d0:∀o,(w1.alloc o).cell? ⟨w.heap.size,0,none⟩=some (.int .i64 3):=fun o=>by simp[World.cell?,aJ (o':=o) ou]
 obtain⟨wB,cO⟩:=qaa (w1.alloc (.cells #[.int .i64 x1,.int .i64 x2,.int .i64 x3,.int .i64 x4,.int .i64 x5,.int .i64 2,.int .i64 x7,.int .i64 x8,.int .i64 (-1),.int .u64 x0] 55));have fT:Below w1.heap.size w1 wB:=by rw[cO];exact qac.alloc (qaf _) _
 have fD:Hid (wB.heap[w1.heap.size]? =some (.cells (ag (x1,x2,x3,x4,x5,2,x7,x8,-1,x0)).toArray 55 (0,0))):=by show _=_;rw[cO];exact heap_alloc_new w1 _
 have iO:Hid (MW wB p dv (.slice (some ⟨g,0,none⟩) n cap) M):=hM1.kept fT;have lN:Hid (wB.heap[w.heap.size]? =some (.cells #[.int .i64 3,.int .i64 ((i:Int)+1),.int .i64 q3,.int .i64 q4,.int .i64 q5,.int .i64 q6,.bool q7,.int .i64 q8,.int .i64 q9] 33 (0,0))):=(fT.block _ (by omega)).trans ou;have nL:Hid (aG wB (w.heap.size+1) aQ):=fV.below fT (by omega);have gQ:Hid (aB (ax p dv (.slice (some ⟨g,0,none⟩) n cap)) w wB):=(aB.of_below (S:=ax p dv (.slice (some ⟨g,0,none⟩) n cap)) hbw).later fT (by omega);clear hb1 aH bg fV ou hM1 hbw fT;go_wp2_with fail;rw[←cO];replace cO:=qae cO;clear c0 d0;have lX:=aA (x1,x2,x3,x4,x5,2,x7,x8,-1,x0);have zJ:=bC;obtain⟨k10,hk10⟩:∃k,k=10:=⟨_,rfl⟩;rw[←hk10]at lX zJ;replace hk10:=qae hk10;refine Reg2.ro wB 8 62 [.p 0,.p 1,.p 3,.m 7,.p 0,.m 16,.p 48,.m 0] [.slice (some ⟨g,0,none⟩) n cap,.int .i64 ((i:Int)+1),.agg (ag (x1,x2,x3,x4,x5,2,x7,x8,-1,x0)).toArray] (by kernel_rfl) (by kernel_rfl) rfl rfl ⟨rfl,rfl,rfl,qaf _,fun _ _=>rfl⟩ ?_;dsimp only[Reg2.fF]
 repeat(refine' Reg2.ak _ (by rfl) (fun wz=>?_) ?_;rotate_left;(go_simp;first|rfl|rw[qai (by omega)]);simp only[Act.put,xA,xB,xC,xD,xE,id])
 refine Reg2.pm (fun wz hI hF=>?_) (fun s3=>?_) (by rfl)
 ·have d0:=(iO.out.kept hI).read.c2;go_wp2_with fail
  first|exact⟨_,rfl,rfl,qad⟩|exact⟨_,rfl,⟨(),rfl,trivial⟩,qad⟩
 simp only[Act.put,xA,xB,xC,xD,xE,id]
 repeat(refine' Reg2.ak _ (by rfl) (fun wz=>?_) ?_;rotate_left;(go_simp;first|rfl|rw[qai (by omega)]);simp only[Act.put,xA,xB,xC,xD,xE,id])
 refine Reg2.pm (fun wz hI hF=>?_) (fun s5=>?_) (by rfl)
 ·have hX:=(hI.block _ (ai lN.out)).trans lN.out;have d0:wz.cell? ⟨w.heap.size,1,none⟩=some (.int .i64 ((i:Int)+1)):=by simp[World.cell?,hX]
  clear hX;go_wp2_with fail
  first|exact⟨_,rfl,rfl,qad⟩|exact⟨_,rfl,⟨(),rfl,trivial⟩,qad⟩
 simp only[Act.put,xA,xB,xC,xD,xE,id];refine Reg2.ak (.int .i64 (i:Int)) (by rfl) (fun wz=>?_) ?_
 ·go_simp
  (try rw[xU])
 simp only[Act.put,xA,xB,xC,xD,xE,id]
 repeat((first
  |(refine' Reg2.ak _ (by rfl) (fun wz=>?_) ?_;rotate_left;(go_simp;first|rfl|rw[qai (by omega)]))
  |(refine Reg2.az (by rfl) (fun wz hI hF=>?_) (fun _=>?_)
    ·unfold Reg2.One;have d0:=bJ ((hI.block _ (ai fD.out)).trans fD.out) lX;go_wp2_with fail
     first|exact⟨_,rfl,rfl,qad⟩|exact⟨_,rfl,⟨(),rfl,trivial⟩,qad⟩));simp only[Act.put,xA,xB,xC,xD,xE,id])
 refine Reg2.aD ?_;intro w9 eu _ p9;clear p9 s3 s5;dsimp only[List.drop];have jT:=iO.out.kept eu;obtain⟨iP,pJ,jS,ib⟩:=jT.put (m:=i) fw.out (x1,x2,x3,x4,x5,2,x7,x8,-1,x0);have nK:Hid (aB (ax p dv (.slice (some ⟨g,0,none⟩) n cap)) w iP):=(gQ.out.trans (aB.of_below (S:=ax p dv (.slice (some ⟨g,0,none⟩) n cap)) eu) (aY.refl _ _)).trans ib (aY.refl _ _);have vK:w1.heap.size<w9.heap.size:=Nat.lt_of_lt_of_le (ai fD.out) eu.size;have ku:iP.heap[w1.heap.size]? =some (.cells (ag (x1,x2,x3,x4,x5,2,x7,x8,-1,x0)).toArray 55 (0,0)):=(ib.block _ vK (fun hk=>by have:=hp0.out _ hk;omega)).trans ((eu.block _ (ai fD.out)).trans fD.out);have A8:iP.heap[w.heap.size]? =some (.cells #[.int .i64 3,.int .i64 ((i:Int)+1),.int .i64 q3,.int .i64 q4,.int .i64 q5,.int .i64 q6,.bool q7,.int .i64 q8,.int .i64 q9] 33 (0,0)):=(ib.block _ (by omega) (fun hk=>by have:=hp0.out _ hk;omega)).trans ((eu.block _ (ai lN.out)).trans lN.out);have k0:iP.cell? ⟨w.heap.size,0,none⟩=some (.int .i64 3):=by simp[World.cell?,A8]
 have lh:aG iP (w.heap.size+1) aQ:=(ib.block _ (by omega) (fun hk=>by have:=hp0.out _ hk;omega)).trans ((eu.block _ (ai nL.out)).trans nL.out);have hld:=bJ ku lX;have Fz:w1.heap.size<iP.heap.size:=ai ku;have L8:=qae ku;replace jS:=qae jS;replace lh:=qae lh;rw[←hk10.out]at pJ;clear jT ib eu ku fD nL lN iO gQ A8;have htl:=pK (x1,x2,x3,x4,x5,2,x7,x8,-1,x0) iP;generalize htr:gH (x1,x2,x3,x4,x5,2,x7,x8,-1,x0)=tr at*;replace htr:=qae htr;go_wp2_with fail;go_at_call 157;refine htl.mono ?_;clear htl hld lX zJ;rintro e kF ⟨rfl,iK⟩;have lQ:aG kF (w.heap.size+1) aQ:=lh.out.below iK (by omega);obtain⟨hst,qZ⟩:=lQ.store tr;have jH:Below (w.heap.size+1) iP (kF.setRow (w.heap.size+1) (gJ tr).toArray):=mP (iK.mono (by omega)) (qaf _) _;have rq:Hid (MW (kF.setRow (w.heap.size+1) (gJ tr).toArray) p dv (.slice (some ⟨g,0,none⟩) n cap) ({M with L:=M.L.set i (x1,x2,x3,x4,x5,2,x7,x8,-1,x0)})):=jS.out.cK jH (fun k hk=>by have:=hp0.out k hk;omega);have mX:Hid (aB (ax p dv (.slice (some ⟨g,0,none⟩) n cap)) w (kF.setRow (w.heap.size+1) (gJ tr).toArray)):=nK.out.later jH (by omega);clear iK jH lQ;go_wp2_with fail;refine aO rfl rfl rfl qZ underlying67 rfl (by kernel_rfl) ⟨rfl,⟨_,rq.out,aY.refl _ _⟩,mX.out⟩
theorem Vi {g n cap i:Nat}(h:MW w p dv (.slice (some ⟨g,0,none⟩) n cap) M)(hb:MB M)(q3 q4 q5 q6:Int)(q7:Bool)(q8 q9:Int)(T:Int)(hT:T=M.now)(hn:n=M.L.length)(hi:i<n)(x1 x2 x3 x4 x5 x6 x7 x8 x9 x0:Int)(hg:getM M ((i:Int)+1)=((x1,x2,x3,x4,x5,x6,x7,x8,x9,x0),true)):Calls prog 93 #[.pointer (some ⟨p,0,none⟩),.agg #[.int .i64 6,.int .i64 ((i:Int)+1),.int .i64 q3,.int .i64 q4,.int .i64 q5,.int .i64 q6,.bool q7,.int .i64 q8,.int .i64 q9]] w (iJ w p dv (.slice (some ⟨g,0,none⟩) n cap) (gH (x1,x2,x3,x4,x5,x6,x7,x8,x9,x0),{M with L:=M.L.set i (x1,x2,x3,x4,x5,x6,x7,x8,x9,x0)})):=by
 have hll:=hb.ll;rw[←hn]at hll;have hin:(i:Int)<(n:Int):=by omega
 have b0:(0:Int)≤(i:Int):=by omega
 have xU:IntKind.i64.wrap (i:Int)=(i:Int):=by rw[IntKind.wrap_i64];omega
 have hcap:n≤cap:=by obtain⟨ao,cp,hv,h1,_⟩:=bE h.js;injection hv with _ e1 e2;omega
 obtain⟨wA,aj⟩:=qaa ((w.alloc (.cells #[.int .i64 6,.int .i64 ((i:Int)+1),.int .i64 q3,.int .i64 q4,.int .i64 q5,.int .i64 q6,.bool q7,.int .i64 q8,.int .i64 q9] 33)).alloc (.cells #[.int .i64 0,.int .i64 0,.int .i64 0,.int .i64 0,.int .i64 0,.int .i64 0,.int .i64 0,.int .i64 0,.int .i64 0] 67));have aC:Below w.heap.size w wA:=by rw[aj];exact(qac.alloc (qaf _) _).alloc (by simp) _
 have hsA:wA.heap.size=w.heap.size+2:=by rw[aj];simp
 have aH:aG wA (w.heap.size+1) aQ:=by rw[aj];exact heap_alloc2_new w _ _
 have bg:wA.heap[w.heap.size]? =some (.cells #[.int .i64 6,.int .i64 ((i:Int)+1),.int .i64 q3,.int .i64 q4,.int .i64 q5,.int .i64 q6,.bool q7,.int .i64 q8,.int .i64 q9] 33 (0,0)):=by rw[aj];exact aJ (heap_alloc_new w _)
 have aP:=h.kept aC;have hp0:Hid (∀k,ax p dv (.slice (some ⟨g,0,none⟩) n cap) k→k<w.heap.size):=h.bF;have hgt:=ma aP.read hb ((i:Int)+1) (by omega);rw[aj,hg]at hgt;rw[dP]at hgt;have fw:Hid (i<M.L.length):=by show _<_;rw[←hn];exact hi
 replace aP:=qae aP;replace aC:=qae aC;replace hn:=qae hn;replace hT:=qae hT;clear h hb hg;go_enter func93,ntmps93;go_wp2_with fail;go_at_call 112;refine hgt.mono ?_;clear hgt;rw[←aj];rintro e w1 ⟨rfl,hb1⟩;replace aj:=qae aj;have hs1:w.heap.size+2≤w1.heap.size:=by have:=hb1.size;omega
 have hne:¬w1.heap.size=w.heap.size:=by omega
 have hne2:¬w.heap.size=w1.heap.size:=by omega
 have fV:aG w1 (w.heap.size+1) aQ:=aH.below hb1 (by omega);have ou:w1.heap[w.heap.size]? =some (.cells #[.int .i64 6,.int .i64 ((i:Int)+1),.int .i64 q3,.int .i64 q4,.int .i64 q5,.int .i64 q6,.bool q7,.int .i64 q8,.int .i64 q9] 33 (0,0)):=(hb1.block _ (by omega)).trans bg;have hM1:=aP.out.kept hb1;have hbw:=aC.out.trans (hb1.mono aC.out.size);have c0:∀o,(w1.alloc o).cell? ⟨p,0,none⟩=some (.int .i64 T):=fun o=>by have:=(hM1.kept (qac.alloc (qaf _) o)).read.c0;rw[←hT.out]at this;exact this
 have d0:∀o,(w1.alloc o).cell? ⟨w.heap.size,0,none⟩=some (.int .i64 6):=fun o=>by simp[World.cell?,aJ (o':=o) ou]
 obtain⟨wB,cO⟩:=qaa (w1.alloc (.cells #[.int .i64 x1,.int .i64 x2,.int .i64 x3,.int .i64 x4,.int .i64 x5,.int .i64 x6,.int .i64 x7,.int .i64 x8,.int .i64 (x9),.int .u64 x0] 55));have fT:Below w1.heap.size w1 wB:=by rw[cO];exact qac.alloc (qaf _) _
 have fD:Hid (wB.heap[w1.heap.size]? =some (.cells (ag (x1,x2,x3,x4,x5,x6,x7,x8,x9,x0)).toArray 55 (0,0))):=by show _=_;rw[cO];exact heap_alloc_new w1 _
 have iO:Hid (MW wB p dv (.slice (some ⟨g,0,none⟩) n cap) M):=hM1.kept fT;have lN:Hid (wB.heap[w.heap.size]? =some (.cells #[.int .i64 6,.int .i64 ((i:Int)+1),.int .i64 q3,.int .i64 q4,.int .i64 q5,.int .i64 q6,.bool q7,.int .i64 q8,.int .i64 q9] 33 (0,0))):=(fT.block _ (by omega)).trans ou;have nL:Hid (aG wB (w.heap.size+1) aQ):=fV.below fT (by omega);have gQ:Hid (aB (ax p dv (.slice (some ⟨g,0,none⟩) n cap)) w wB):=(aB.of_below (S:=ax p dv (.slice (some ⟨g,0,none⟩) n cap)) hbw).later fT (by omega);clear hb1 aH bg fV ou hM1 hbw fT;go_wp2_with fail;rw[←cO];replace cO:=qae cO;clear c0 d0;have lX:=aA (x1,x2,x3,x4,x5,x6,x7,x8,x9,x0);have zJ:=bC;obtain⟨k10,hk10⟩:∃k,k=10:=⟨_,rfl⟩;rw[←hk10]at lX zJ;replace hk10:=qae hk10;refine Reg2.ro wB 8 62 [.p 0,.p 1,.p 3,.m 7,.p 0,.m 16,.p 48,.m 0] [.slice (some ⟨g,0,none⟩) n cap,.int .i64 ((i:Int)+1),.agg (ag (x1,x2,x3,x4,x5,x6,x7,x8,x9,x0)).toArray] (by kernel_rfl) (by kernel_rfl) rfl rfl ⟨rfl,rfl,rfl,qaf _,fun _ _=>rfl⟩ ?_;dsimp only[Reg2.fF]
 repeat(refine' Reg2.ak _ (by rfl) (fun wz=>?_) ?_;rotate_left;(go_simp;first|rfl|rw[qai (by omega)]);simp only[Act.put,xA,xB,xC,xD,xE,id])
 refine Reg2.pm (fun wz hI hF=>?_) (fun s3=>?_) (by rfl)
 ·have d0:=(iO.out.kept hI).read.c2;go_wp2_with fail
  first|exact⟨_,rfl,rfl,qad⟩|exact⟨_,rfl,⟨(),rfl,trivial⟩,qad⟩
 simp only[Act.put,xA,xB,xC,xD,xE,id]
 repeat(refine' Reg2.ak _ (by rfl) (fun wz=>?_) ?_;rotate_left;(go_simp;first|rfl|rw[qai (by omega)]);simp only[Act.put,xA,xB,xC,xD,xE,id])
 refine Reg2.pm (fun wz hI hF=>?_) (fun s5=>?_) (by rfl)
 ·have hX:=(hI.block _ (ai lN.out)).trans lN.out;have d0:wz.cell? ⟨w.heap.size,1,none⟩=some (.int .i64 ((i:Int)+1)):=by simp[World.cell?,hX]
  clear hX;go_wp2_with fail
  first|exact⟨_,rfl,rfl,qad⟩|exact⟨_,rfl,⟨(),rfl,trivial⟩,qad⟩
 simp only[Act.put,xA,xB,xC,xD,xE,id];refine Reg2.ak (.int .i64 (i:Int)) (by rfl) (fun wz=>?_) ?_
 ·go_simp
  (try rw[xU])
 simp only[Act.put,xA,xB,xC,xD,xE,id]
 repeat((first
  |(refine' Reg2.ak _ (by rfl) (fun wz=>?_) ?_;rotate_left;(go_simp;first|rfl|rw[qai (by omega)]))
  |(refine Reg2.az (by rfl) (fun wz hI hF=>?_) (fun _=>?_)
    ·unfold Reg2.One;have d0:=bJ ((hI.block _ (ai fD.out)).trans fD.out) lX;go_wp2_with fail
     first|exact⟨_,rfl,rfl,qad⟩|exact⟨_,rfl,⟨(),rfl,trivial⟩,qad⟩));simp only[Act.put,xA,xB,xC,xD,xE,id])
 refine Reg2.aD ?_;intro w9 eu _ p9;clear p9 s3 s5;dsimp only[List.drop];have jT:=iO.out.kept eu;obtain⟨iP,pJ,jS,ib⟩:=jT.put (m:=i) fw.out (x1,x2,x3,x4,x5,x6,x7,x8,x9,x0);have nK:Hid (aB (ax p dv (.slice (some ⟨g,0,none⟩) n cap)) w iP):=(gQ.out.trans (aB.of_below (S:=ax p dv (.slice (some ⟨g,0,none⟩) n cap)) eu) (aY.refl _ _)).trans ib (aY.refl _ _);have vK:w1.heap.size<w9.heap.size:=Nat.lt_of_lt_of_le (ai fD.out) eu.size;have ku:iP.heap[w1.heap.size]? =some (.cells (ag (x1,x2,x3,x4,x5,x6,x7,x8,x9,x0)).toArray 55 (0,0)):=(ib.block _ vK (fun hk=>by have:=hp0.out _ hk;omega)).trans ((eu.block _ (ai fD.out)).trans fD.out);have A8:iP.heap[w.heap.size]? =some (.cells #[.int .i64 6,.int .i64 ((i:Int)+1),.int .i64 q3,.int .i64 q4,.int .i64 q5,.int .i64 q6,.bool q7,.int .i64 q8,.int .i64 q9] 33 (0,0)):=(ib.block _ (by omega) (fun hk=>by have:=hp0.out _ hk;omega)).trans ((eu.block _ (ai lN.out)).trans lN.out);have k0:iP.cell? ⟨w.heap.size,0,none⟩=some (.int .i64 6):=by simp[World.cell?,A8]
 have lh:aG iP (w.heap.size+1) aQ:=(ib.block _ (by omega) (fun hk=>by have:=hp0.out _ hk;omega)).trans ((eu.block _ (ai nL.out)).trans nL.out);have hld:=bJ ku lX;have Fz:w1.heap.size<iP.heap.size:=ai ku;have L8:=qae ku;replace jS:=qae jS;replace lh:=qae lh;rw[←hk10.out]at pJ;clear jT ib eu ku fD nL lN iO gQ A8;have htl:=pK (x1,x2,x3,x4,x5,x6,x7,x8,x9,x0) iP;generalize htr:gH (x1,x2,x3,x4,x5,x6,x7,x8,x9,x0)=tr at*;replace htr:=qae htr;go_wp2_with fail;go_at_call 157;refine htl.mono ?_;clear htl hld lX zJ;rintro e kF ⟨rfl,iK⟩;have lQ:aG kF (w.heap.size+1) aQ:=lh.out.below iK (by omega);obtain⟨hst,qZ⟩:=lQ.store tr;have jH:Below (w.heap.size+1) iP (kF.setRow (w.heap.size+1) (gJ tr).toArray):=mP (iK.mono (by omega)) (qaf _) _;have rq:Hid (MW (kF.setRow (w.heap.size+1) (gJ tr).toArray) p dv (.slice (some ⟨g,0,none⟩) n cap) ({M with L:=M.L.set i (x1,x2,x3,x4,x5,x6,x7,x8,x9,x0)})):=jS.out.cK jH (fun k hk=>by have:=hp0.out k hk;omega);have mX:Hid (aB (ax p dv (.slice (some ⟨g,0,none⟩) n cap)) w (kF.setRow (w.heap.size+1) (gJ tr).toArray)):=nK.out.later jH (by omega);clear iK jH lQ;go_wp2_with fail;refine aO rfl rfl rfl qZ underlying67 rfl (by kernel_rfl) ⟨rfl,⟨_,rq.out,aY.refl _ _⟩,mX.out⟩
theorem Vj {g n cap i:Nat}(h:MW w p dv (.slice (some ⟨g,0,none⟩) n cap) M)(hb:MB M)(q3 q4 q5 q6:Int)(q7:Bool)(q8 q9:Int)(T:Int)(hT:T=M.now)(hn:n=M.L.length)(hi:i<n)(x1 x2 x3 x4 x5 x7 x8 x9 x0:Int)(hg:getM M ((i:Int)+1)=((x1,x2,x3,x4,x5,2,x7,x8,x9,x0),true)):Calls prog 93 #[.pointer (some ⟨p,0,none⟩),.agg #[.int .i64 4,.int .i64 ((i:Int)+1),.int .i64 q3,.int .i64 q4,.int .i64 q5,.int .i64 q6,.bool q7,.int .i64 q8,.int .i64 q9]] w (iJ w p dv (.slice (some ⟨g,0,none⟩) n cap) (gH (x1,x2,x3,x4,x5,1,x7,x8,x9,x0),eH ({M with L:=M.L.set i (x1,x2,x3,x4,x5,1,x7,x8,x9,x0)}:Md) (x1,x2,x3,x4,x5,1,x7,x8,x9,x0))):=by
 have hll:=hb.ll;rw[←hn]at hll;have hin:(i:Int)<(n:Int):=by omega
 have b0:(0:Int)≤(i:Int):=by omega
 have xU:IntKind.i64.wrap (i:Int)=(i:Int):=by rw[IntKind.wrap_i64];omega
 have hcap:n≤cap:=by obtain⟨ao,cp,hv,h1,_⟩:=bE h.js;injection hv with _ e1 e2;omega
 obtain⟨wA,aj⟩:=qaa ((w.alloc (.cells #[.int .i64 4,.int .i64 ((i:Int)+1),.int .i64 q3,.int .i64 q4,.int .i64 q5,.int .i64 q6,.bool q7,.int .i64 q8,.int .i64 q9] 33)).alloc (.cells #[.int .i64 0,.int .i64 0,.int .i64 0,.int .i64 0,.int .i64 0,.int .i64 0,.int .i64 0,.int .i64 0,.int .i64 0] 67));have aC:Below w.heap.size w wA:=by rw[aj];exact(qac.alloc (qaf _) _).alloc (by simp) _
 have hsA:wA.heap.size=w.heap.size+2:=by rw[aj];simp
 have aH:aG wA (w.heap.size+1) aQ:=by rw[aj];exact heap_alloc2_new w _ _
 have bg:wA.heap[w.heap.size]? =some (.cells #[.int .i64 4,.int .i64 ((i:Int)+1),.int .i64 q3,.int .i64 q4,.int .i64 q5,.int .i64 q6,.bool q7,.int .i64 q8,.int .i64 q9] 33 (0,0)):=by rw[aj];exact aJ (heap_alloc_new w _)
 have aP:=h.kept aC;have hp0:Hid (∀k,ax p dv (.slice (some ⟨g,0,none⟩) n cap) k→k<w.heap.size):=h.bF;have hgt:=ma aP.read hb ((i:Int)+1) (by omega);rw[aj,hg]at hgt;rw[dP]at hgt;have fw:Hid (i<M.L.length):=by show _<_;rw[←hn];exact hi
 replace aP:=qae aP;replace aC:=qae aC;replace hn:=qae hn;replace hT:=qae hT;have hmem:=qG (L:=M.L) (i:=i) fw.out;have hyb:M.L.getD i default=(x1,x2,x3,x4,x5,2,x7,x8,x9,x0):=by have h2:=hg;unfold getM at h2;rw[qai (by have:=fw.out;omega),show((i:Int)+1-1).toNat=i by omega]at h2;exact(Prod.mk.inj h2).1
 rw[hyb]at hmem;have m1:=hb.wid _ hmem;have m2:=hb.lim _ hmem;have m3:=hb.aW _ hmem;have m4:=hb.fin _ hmem;have m5:=hb.bY _ hmem;have hmb:Hid (MB {M with L:=M.L.set i (x1,x2,x3,x4,x5,1,x7,x8,x9,x0)}):=hb.set i _ m1 m2 m3 m4 m5;clear m1 m2 m3 m4 m5;clear hmem hyb;clear h hb hg;go_enter func93,ntmps93;go_wp2_with fail;go_at_call 112;refine hgt.mono ?_;clear hgt;rw[←aj];rintro e w1 ⟨rfl,hb1⟩;replace aj:=qae aj;have hs1:w.heap.size+2≤w1.heap.size:=by have:=hb1.size;omega
 have hne:¬w1.heap.size=w.heap.size:=by omega
 have hne2:¬w.heap.size=w1.heap.size:=by omega
 have fV:aG w1 (w.heap.size+1) aQ:=aH.below hb1 (by omega);have ou:w1.heap[w.heap.size]? =some (.cells #[.int .i64 4,.int .i64 ((i:Int)+1),.int .i64 q3,.int .i64 q4,.int .i64 q5,.int .i64 q6,.bool q7,.int .i64 q8,.int .i64 q9] 33 (0,0)):=(hb1.block _ (by omega)).trans bg;have hM1:=aP.out.kept hb1;have hbw:=aC.out.trans (hb1.mono aC.out.size);have c0:∀o,(w1.alloc o).cell? ⟨p,0,none⟩=some (.int .i64 T):=fun o=>by have:=(hM1.kept (qac.alloc (qaf _) o)).read.c0;rw[←hT.out]at this;exact this
 have d0:∀o,(w1.alloc o).cell? ⟨w.heap.size,0,none⟩=some (.int .i64 4):=fun o=>by simp[World.cell?,aJ (o':=o) ou]
 obtain⟨wB,cO⟩:=qaa (w1.alloc (.cells #[.int .i64 x1,.int .i64 x2,.int .i64 x3,.int .i64 x4,.int .i64 x5,.int .i64 1,.int .i64 x7,.int .i64 x8,.int .i64 (x9),.int .u64 x0] 55));have fT:Below w1.heap.size w1 wB:=by rw[cO];exact qac.alloc (qaf _) _
 have fD:Hid (wB.heap[w1.heap.size]? =some (.cells (ag (x1,x2,x3,x4,x5,1,x7,x8,x9,x0)).toArray 55 (0,0))):=by show _=_;rw[cO];exact heap_alloc_new w1 _
 have iO:Hid (MW wB p dv (.slice (some ⟨g,0,none⟩) n cap) M):=hM1.kept fT;have lN:Hid (wB.heap[w.heap.size]? =some (.cells #[.int .i64 4,.int .i64 ((i:Int)+1),.int .i64 q3,.int .i64 q4,.int .i64 q5,.int .i64 q6,.bool q7,.int .i64 q8,.int .i64 q9] 33 (0,0))):=(fT.block _ (by omega)).trans ou;have nL:Hid (aG wB (w.heap.size+1) aQ):=fV.below fT (by omega);have gQ:Hid (aB (ax p dv (.slice (some ⟨g,0,none⟩) n cap)) w wB):=(aB.of_below (S:=ax p dv (.slice (some ⟨g,0,none⟩) n cap)) hbw).later fT (by omega);clear hb1 aH bg fV ou hM1 hbw fT;go_wp2_with fail;rw[←cO];replace cO:=qae cO;clear c0 d0;have lX:=aA (x1,x2,x3,x4,x5,1,x7,x8,x9,x0);have zJ:=bC;obtain⟨k10,hk10⟩:∃k,k=10:=⟨_,rfl⟩;rw[←hk10]at lX zJ;replace hk10:=qae hk10;refine Reg2.ro wB 8 62 [.p 0,.p 1,.p 3,.m 7,.p 0,.m 16,.p 48,.m 0] [.slice (some ⟨g,0,none⟩) n cap,.int .i64 ((i:Int)+1),.agg (ag (x1,x2,x3,x4,x5,1,x7,x8,x9,x0)).toArray] (by kernel_rfl) (by kernel_rfl) rfl rfl ⟨rfl,rfl,rfl,qaf _,fun _ _=>rfl⟩ ?_;dsimp only[Reg2.fF]
 repeat(refine' Reg2.ak _ (by rfl) (fun wz=>?_) ?_;rotate_left;(go_simp;first|rfl|rw[qai (by omega)]);simp only[Act.put,xA,xB,xC,xD,xE,id])
 refine Reg2.pm (fun wz hI hF=>?_) (fun s3=>?_) (by rfl)
 ·have d0:=(iO.out.kept hI).read.c2;go_wp2_with fail
  first|exact⟨_,rfl,rfl,qad⟩|exact⟨_,rfl,⟨(),rfl,trivial⟩,qad⟩
 simp only[Act.put,xA,xB,xC,xD,xE,id]
 repeat(refine' Reg2.ak _ (by rfl) (fun wz=>?_) ?_;rotate_left;(go_simp;first|rfl|rw[qai (by omega)]);simp only[Act.put,xA,xB,xC,xD,xE,id])
 refine Reg2.pm (fun wz hI hF=>?_) (fun s5=>?_) (by rfl)
 ·have hX:=(hI.block _ (ai lN.out)).trans lN.out;have d0:wz.cell? ⟨w.heap.size,1,none⟩=some (.int .i64 ((i:Int)+1)):=by simp[World.cell?,hX]
  clear hX;go_wp2_with fail
  first|exact⟨_,rfl,rfl,qad⟩|exact⟨_,rfl,⟨(),rfl,trivial⟩,qad⟩
 simp only[Act.put,xA,xB,xC,xD,xE,id];refine Reg2.ak (.int .i64 (i:Int)) (by rfl) (fun wz=>?_) ?_
 ·go_simp
  (try rw[xU])
 simp only[Act.put,xA,xB,xC,xD,xE,id]
 repeat((first
  |(refine' Reg2.ak _ (by rfl) (fun wz=>?_) ?_;rotate_left;(go_simp;first|rfl|rw[qai (by omega)]))
  |(refine Reg2.az (by rfl) (fun wz hI hF=>?_) (fun _=>?_)
    ·unfold Reg2.One;have d0:=bJ ((hI.block _ (ai fD.out)).trans fD.out) lX;go_wp2_with fail
     first|exact⟨_,rfl,rfl,qad⟩|exact⟨_,rfl,⟨(),rfl,trivial⟩,qad⟩));simp only[Act.put,xA,xB,xC,xD,xE,id])
 refine Reg2.aD ?_;intro w9 eu _ p9;clear p9 s3 s5;dsimp only[List.drop];have jT:=iO.out.kept eu;obtain⟨iP,pJ,jS,ib⟩:=jT.put (m:=i) fw.out (x1,x2,x3,x4,x5,1,x7,x8,x9,x0);have nK:Hid (aB (ax p dv (.slice (some ⟨g,0,none⟩) n cap)) w iP):=(gQ.out.trans (aB.of_below (S:=ax p dv (.slice (some ⟨g,0,none⟩) n cap)) eu) (aY.refl _ _)).trans ib (aY.refl _ _);have vK:w1.heap.size<w9.heap.size:=Nat.lt_of_lt_of_le (ai fD.out) eu.size;have ku:iP.heap[w1.heap.size]? =some (.cells (ag (x1,x2,x3,x4,x5,1,x7,x8,x9,x0)).toArray 55 (0,0)):=(ib.block _ vK (fun hk=>by have:=hp0.out _ hk;omega)).trans ((eu.block _ (ai fD.out)).trans fD.out);have A8:iP.heap[w.heap.size]? =some (.cells #[.int .i64 4,.int .i64 ((i:Int)+1),.int .i64 q3,.int .i64 q4,.int .i64 q5,.int .i64 q6,.bool q7,.int .i64 q8,.int .i64 q9] 33 (0,0)):=(ib.block _ (by omega) (fun hk=>by have:=hp0.out _ hk;omega)).trans ((eu.block _ (ai lN.out)).trans lN.out);have k0:iP.cell? ⟨w.heap.size,0,none⟩=some (.int .i64 4):=by simp[World.cell?,A8]
 have lh:aG iP (w.heap.size+1) aQ:=(ib.block _ (by omega) (fun hk=>by have:=hp0.out _ hk;omega)).trans ((eu.block _ (ai nL.out)).trans nL.out);have hld:=bJ ku lX;have Fz:w1.heap.size<iP.heap.size:=ai ku;have L8:=qae ku;replace jS:=qae jS;replace lh:=qae lh;rw[←hk10.out]at pJ;clear jT ib eu ku fD nL lN iO gQ A8;have hdp:=CF jS.out hmb.out (x1,x2,x3,x4,x5,1,x7,x8,x9,x0);go_wp2_with fail;go_at_call 156;refine hdp.mono ?_;clear hdp hld pJ k0;rintro e R7 ⟨rfl,R8,OC⟩;have R9:=(OC.block _ Fz (fun hk=>by have:=hp0.out _ hk;omega)).trans L8.out;have YC:Hid (aG R7 (w.heap.size+1) aQ):=(OC.block _ (by omega) (fun hk=>by have:=hp0.out _ hk;omega)).trans lh.out;have Xl:Hid (aB (ax p dv (.slice (some ⟨g,0,none⟩) n cap)) w R7):=nK.out.trans OC (aY.refl _ _);have aam:w1.heap.size<R7.heap.size:=ai R9;have hld:=bJ R9 lX;replace R8:=qae R8;clear OC R9 jS lh nK;have htl:=pK (x1,x2,x3,x4,x5,1,x7,x8,x9,x0) R7;generalize htr:gH (x1,x2,x3,x4,x5,1,x7,x8,x9,x0)=tr at*;replace htr:=qae htr;go_wp2_with fail;go_at_call 157;refine htl.mono ?_;clear htl hld lX zJ;rintro e kF ⟨rfl,iK⟩;have lQ:aG kF (w.heap.size+1) aQ:=YC.out.below iK (by omega);obtain⟨hst,qZ⟩:=lQ.store tr;have jH:Below (w.heap.size+1) R7 (kF.setRow (w.heap.size+1) (gJ tr).toArray):=mP (iK.mono (by omega)) (qaf _) _;have rq:Hid (MW (kF.setRow (w.heap.size+1) (gJ tr).toArray) p dv (.slice (some ⟨g,0,none⟩) n cap) (eH {M with L:=M.L.set i (x1,x2,x3,x4,x5,1,x7,x8,x9,x0)} (x1,x2,x3,x4,x5,1,x7,x8,x9,x0))):=R8.out.cK jH (fun k hk=>by have:=hp0.out k hk;omega);have mX:Hid (aB (ax p dv (.slice (some ⟨g,0,none⟩) n cap)) w (kF.setRow (w.heap.size+1) (gJ tr).toArray)):=Xl.out.later jH (by omega);clear iK jH lQ;go_wp2_with fail;refine aO rfl rfl rfl qZ underlying67 rfl (by kernel_rfl) ⟨rfl,⟨_,rq.out,aY.refl _ _⟩,mX.out⟩
theorem Sa (h:MW w p dv lv M)(hb:MB M)(id q3 q4 q5 q6:Int)(q7:Bool)(q8 q9:Int)(hid: -9223372036854775808≤id∧id≤9223372036854775807)(x1 x2 x3 x4 x5 x6 x7 x8 x9 x0:Int)(hg:getM M id=((x1,x2,x3,x4,x5,x6,x7,x8,x9,x0),true))(hs:x6≠1):Calls prog 93 #[.pointer (some ⟨p,0,none⟩),.agg #[.int .i64 3,.int .i64 id,.int .i64 q3,.int .i64 q4,.int .i64 q5,.int .i64 q6,.bool q7,.int .i64 q8,.int .i64 q9]] w (iJ w p dv lv (dB 8,M)):=by
 obtain⟨wA,aj⟩:=qaa ((w.alloc (.cells #[.int .i64 3,.int .i64 id,.int .i64 q3,.int .i64 q4,.int .i64 q5,.int .i64 q6,.bool q7,.int .i64 q8,.int .i64 q9] 33)).alloc (.cells #[.int .i64 0,.int .i64 0,.int .i64 0,.int .i64 0,.int .i64 0,.int .i64 0,.int .i64 0,.int .i64 0,.int .i64 0] 67));have aC:Below w.heap.size w wA:=by rw[aj];exact(qac.alloc (qaf _) _).alloc (by simp) _
 have hsA:wA.heap.size=w.heap.size+2:=by rw[aj];simp
 have aH:aG wA (w.heap.size+1) aQ:=by rw[aj];exact heap_alloc2_new w _ _
 have bg:wA.heap[w.heap.size]? =some (.cells #[.int .i64 3,.int .i64 id,.int .i64 q3,.int .i64 q4,.int .i64 q5,.int .i64 q6,.bool q7,.int .i64 q8,.int .i64 q9] 33 (0,0)):=by rw[aj];exact aJ (heap_alloc_new w _)
 have aP:=h.kept aC;have hp0:Hid (∀k,ax p dv lv k→k<w.heap.size):=h.bF;have hgt:=ma aP.read hb id hid;rw[aj,hg]at hgt;rw[dP]at hgt;replace aP:=qae aP;replace aC:=qae aC;have dn:(x6 != 1)=true:=by simp[hs]
 clear h hb hid hg;go_enter func93,ntmps93;go_wp2_with fail;go_at_call 112;refine hgt.mono ?_;clear hgt;rw[←aj];rintro e w1 ⟨rfl,hb1⟩;replace aj:=qae aj;obtain⟨w2,hw2⟩:=qaa (w1.alloc (.cells #[.int .i64 x1,.int .i64 x2,.int .i64 x3,.int .i64 x4,.int .i64 x5,.int .i64 x6,.int .i64 x7,.int .i64 x8,.int .i64 x9,.int .u64 x0] 55));have hb2:Below wA.heap.size wA w2:=by rw[hw2];exact hb1.alloc hb1.size _
 have hR2:aG w2 (w.heap.size+1) aQ:=aH.below hb2 (by omega);have mD:w2.heap[w.heap.size]? =some (.cells #[.int .i64 3,.int .i64 id,.int .i64 q3,.int .i64 q4,.int .i64 q5,.int .i64 q6,.bool q7,.int .i64 q8,.int .i64 q9] 33 (0,0)):=(hb2.block _ (by omega)).trans bg;have d0:w2.cell? ⟨w.heap.size,0,none⟩=some (.int .i64 3):=by simp[World.cell?,mD]
 have hM2:=qae (aP.out.kept hb2);have hbw:=qae (aC.out.trans (hb2.mono aC.out.size));have a0:=hR2.at 0 (.int .i64 0) rfl;have f0:=hR2.free 0;have a1:=hR2.at 1 (.int .i64 0) rfl;have f1:=hR2.free 1;have a2:=hR2.at 2 (.int .i64 0) rfl;have f2:=hR2.free 2;have a3:=hR2.at 3 (.int .i64 0) rfl;have f3:=hR2.free 3;have a4:=hR2.at 4 (.int .i64 0) rfl;have f4:=hR2.free 4;have a5:=hR2.at 5 (.int .i64 0) rfl;have f5:=hR2.free 5;have a6:=hR2.at 6 (.int .i64 0) rfl;have f6:=hR2.free 6;have a7:=hR2.at 7 (.int .i64 0) rfl;have f7:=hR2.free 7;have a8:=hR2.at 8 (.int .i64 0) rfl;have f8:=hR2.free 8;rw[hw2]at d0 a0 f0 a1 f1 a2 f2 a3 f3 a4 f4 a5 f5 a6 f6 a7 f7 a8 f8;clear hb1 hb2 aH bg mD;go_wp2_with fail;rw[←hw2];obtain⟨w3,hw3⟩:=qaa ((((((((((w2).setCell ⟨w.heap.size+1,0,none⟩ (.int .i64 8)).setCell ⟨w.heap.size+1,1,none⟩ (.int .i64 0)).setCell ⟨w.heap.size+1,2,none⟩ (.int .i64 0)).setCell ⟨w.heap.size+1,3,none⟩ (.int .i64 0)).setCell ⟨w.heap.size+1,4,none⟩ (.int .i64 0)).setCell ⟨w.heap.size+1,5,none⟩ (.int .i64 0)).setCell ⟨w.heap.size+1,6,none⟩ (.int .i64 0)).setCell ⟨w.heap.size+1,7,none⟩ (.int .i64 0)).setCell ⟨w.heap.size+1,8,none⟩ (.int .i64 0));rw[←hw3];have hb3:Below (w.heap.size+1) w2 w3:=by rw[hw3];exact aT (aT (aT (aT (aT (aT (aT (aT (aT qac (qaf _) 0 _) (qaf _) 1 _) (qaf _) 2 _) (qaf _) 3 _) (qaf _) 4 _) (qaf _) 5 _) (qaf _) 6 _) (qaf _) 7 _) (qaf _) 8 _
 have gz:aG w3 (w.heap.size+1) (dB 8):=by rw[hw3];exact heap_put (i:=8) (heap_put (i:=7) (heap_put (i:=6) (heap_put (i:=5) (heap_put (i:=4) (heap_put (i:=3) (heap_put (i:=2) (heap_put (i:=1) (heap_put (i:=0) (hR2) (.int .i64 8)) (.int .i64 0)) (.int .i64 0)) (.int .i64 0)) (.int .i64 0)) (.int .i64 0)) (.int .i64 0)) (.int .i64 0)) (.int .i64 0)
 replace hw2:=qae hw2;replace hw3:=qae hw3;have eZ:MW w3 p dv lv M:=hM2.out.cK hb3 (fun k hk=>Nat.lt_succ_of_lt (hp0.out k hk));have hof:aB (ax p dv lv) w w3:=(aB.of_below (S:=ax p dv lv) hbw.out).later hb3 (Nat.le_succ _);refine aO rfl rfl rfl gz underlying67 rfl (by kernel_rfl) ⟨rfl,⟨lv,eZ,aY.refl _ _⟩,hof⟩
theorem Sc (h:MW w p dv lv M)(hb:MB M)(id q3 q4 q5 q6:Int)(q7:Bool)(q8 q9:Int)(hid: -9223372036854775808≤id∧id≤9223372036854775807)(x1 x2 x3 x4 x5 x6 x7 x8 x9 x0:Int)(hg:getM M id=((x1,x2,x3,x4,x5,x6,x7,x8,x9,x0),true))(hs:x6≠2):Calls prog 93 #[.pointer (some ⟨p,0,none⟩),.agg #[.int .i64 4,.int .i64 id,.int .i64 q3,.int .i64 q4,.int .i64 q5,.int .i64 q6,.bool q7,.int .i64 q8,.int .i64 q9]] w (iJ w p dv lv (dB 8,M)):=by
 obtain⟨wA,aj⟩:=qaa ((w.alloc (.cells #[.int .i64 4,.int .i64 id,.int .i64 q3,.int .i64 q4,.int .i64 q5,.int .i64 q6,.bool q7,.int .i64 q8,.int .i64 q9] 33)).alloc (.cells #[.int .i64 0,.int .i64 0,.int .i64 0,.int .i64 0,.int .i64 0,.int .i64 0,.int .i64 0,.int .i64 0,.int .i64 0] 67));have aC:Below w.heap.size w wA:=by rw[aj];exact(qac.alloc (qaf _) _).alloc (by simp) _
 have hsA:wA.heap.size=w.heap.size+2:=by rw[aj];simp
 have aH:aG wA (w.heap.size+1) aQ:=by rw[aj];exact heap_alloc2_new w _ _
 have bg:wA.heap[w.heap.size]? =some (.cells #[.int .i64 4,.int .i64 id,.int .i64 q3,.int .i64 q4,.int .i64 q5,.int .i64 q6,.bool q7,.int .i64 q8,.int .i64 q9] 33 (0,0)):=by rw[aj];exact aJ (heap_alloc_new w _)
 have aP:=h.kept aC;have hp0:Hid (∀k,ax p dv lv k→k<w.heap.size):=h.bF;have hgt:=ma aP.read hb id hid;rw[aj,hg]at hgt;rw[dP]at hgt;replace aP:=qae aP;replace aC:=qae aC;have dn:(x6 != 2)=true:=by simp[hs]
 clear h hb hid hg;go_enter func93,ntmps93;go_wp2_with fail;go_at_call 112;refine hgt.mono ?_;clear hgt;rw[←aj];rintro e w1 ⟨rfl,hb1⟩;replace aj:=qae aj;obtain⟨w2,hw2⟩:=qaa (w1.alloc (.cells #[.int .i64 x1,.int .i64 x2,.int .i64 x3,.int .i64 x4,.int .i64 x5,.int .i64 x6,.int .i64 x7,.int .i64 x8,.int .i64 x9,.int .u64 x0] 55));have hb2:Below wA.heap.size wA w2:=by rw[hw2];exact hb1.alloc hb1.size _
 have hR2:aG w2 (w.heap.size+1) aQ:=aH.below hb2 (by omega);have mD:w2.heap[w.heap.size]? =some (.cells #[.int .i64 4,.int .i64 id,.int .i64 q3,.int .i64 q4,.int .i64 q5,.int .i64 q6,.bool q7,.int .i64 q8,.int .i64 q9] 33 (0,0)):=(hb2.block _ (by omega)).trans bg;have d0:w2.cell? ⟨w.heap.size,0,none⟩=some (.int .i64 4):=by simp[World.cell?,mD]
 have hM2:=qae (aP.out.kept hb2);have hbw:=qae (aC.out.trans (hb2.mono aC.out.size));have a0:=hR2.at 0 (.int .i64 0) rfl;have f0:=hR2.free 0;have a1:=hR2.at 1 (.int .i64 0) rfl;have f1:=hR2.free 1;have a2:=hR2.at 2 (.int .i64 0) rfl;have f2:=hR2.free 2;have a3:=hR2.at 3 (.int .i64 0) rfl;have f3:=hR2.free 3;have a4:=hR2.at 4 (.int .i64 0) rfl;have f4:=hR2.free 4;have a5:=hR2.at 5 (.int .i64 0) rfl;have f5:=hR2.free 5;have a6:=hR2.at 6 (.int .i64 0) rfl;have f6:=hR2.free 6;have a7:=hR2.at 7 (.int .i64 0) rfl;have f7:=hR2.free 7;have a8:=hR2.at 8 (.int .i64 0) rfl;have f8:=hR2.free 8;rw[hw2]at d0 a0 f0 a1 f1 a2 f2 a3 f3 a4 f4 a5 f5 a6 f6 a7 f7 a8 f8;clear hb1 hb2 aH bg mD;go_wp2_with fail;rw[←hw2];obtain⟨w3,hw3⟩:=qaa ((((((((((w2).setCell ⟨w.heap.size+1,0,none⟩ (.int .i64 8)).setCell ⟨w.heap.size+1,1,none⟩ (.int .i64 0)).setCell ⟨w.heap.size+1,2,none⟩ (.int .i64 0)).setCell ⟨w.heap.size+1,3,none⟩ (.int .i64 0)).setCell ⟨w.heap.size+1,4,none⟩ (.int .i64 0)).setCell ⟨w.heap.size+1,5,none⟩ (.int .i64 0)).setCell ⟨w.heap.size+1,6,none⟩ (.int .i64 0)).setCell ⟨w.heap.size+1,7,none⟩ (.int .i64 0)).setCell ⟨w.heap.size+1,8,none⟩ (.int .i64 0));rw[←hw3];have hb3:Below (w.heap.size+1) w2 w3:=by rw[hw3];exact aT (aT (aT (aT (aT (aT (aT (aT (aT qac (qaf _) 0 _) (qaf _) 1 _) (qaf _) 2 _) (qaf _) 3 _) (qaf _) 4 _) (qaf _) 5 _) (qaf _) 6 _) (qaf _) 7 _) (qaf _) 8 _
 have gz:aG w3 (w.heap.size+1) (dB 8):=by rw[hw3];exact heap_put (i:=8) (heap_put (i:=7) (heap_put (i:=6) (heap_put (i:=5) (heap_put (i:=4) (heap_put (i:=3) (heap_put (i:=2) (heap_put (i:=1) (heap_put (i:=0) (hR2) (.int .i64 8)) (.int .i64 0)) (.int .i64 0)) (.int .i64 0)) (.int .i64 0)) (.int .i64 0)) (.int .i64 0)) (.int .i64 0)) (.int .i64 0)
 replace hw2:=qae hw2;replace hw3:=qae hw3;have eZ:MW w3 p dv lv M:=hM2.out.cK hb3 (fun k hk=>Nat.lt_succ_of_lt (hp0.out k hk));have hof:aB (ax p dv lv) w w3:=(aB.of_below (S:=ax p dv lv) hbw.out).later hb3 (Nat.le_succ _);refine aO rfl rfl rfl gz underlying67 rfl (by kernel_rfl) ⟨rfl,⟨lv,eZ,aY.refl _ _⟩,hof⟩
theorem CL (h:MW w p dv lv M)(hb:MB M)(k id q3 q4 q5 q6:Int)(q7:Bool)(q8 q9:Int)(hk:k=3∨k=4∨k=6)(hid: -9223372036854775808≤id∧id≤9223372036854775807):Calls prog 93 #[.pointer (some ⟨p,0,none⟩),.agg #[.int .i64 k,.int .i64 id,.int .i64 q3,.int .i64 q4,.int .i64 q5,.int .i64 q6,.bool q7,.int .i64 q8,.int .i64 q9]] w (iJ w p dv lv (fC M ⟨k,id,q3,q4,q5,q6,q7,q8,q9⟩)):=by
 unfold fC;simp only;rcases CK M id with hg|⟨i,rfl,hi,hg⟩
 ·rw[qaj hg];exact R6 h hb k id q3 q4 q5 q6 q7 q8 q9 hid hg
 ·rw[hg];simp only[Bool.true_eq_false,if_false];obtain⟨ao,cap,hlv,_,_,hsome⟩:=bE h.js;obtain⟨g,rfl⟩:=hsome (by omega);subst hlv;rw[show((i:Int)+1-1).toNat=i by omega];generalize M.L.getD i default=y at*;obtain⟨x1,x2,x3,x4,x5,x6,x7,x8,x9,x0⟩:=y;show Calls _ _ _ _ (iJ w p dv _ (if(k=3∧x6≠1)∨(k=4∧x6≠2)then _ else _));rcases hk with rfl|rfl|rfl
  ·by_cases hs:x6=1
   ·subst hs;rw[qai (by omega),qai (by decide)];exact Vh h hb q3 q4 q5 q6 q7 q8 q9 M.now rfl rfl hi x1 x2 x3 x4 x5 x7 x8 x9 x0 hg
   ·rw[qaj (.inl ⟨rfl,hs⟩)];exact Sa h hb _ q3 q4 q5 q6 q7 q8 q9 hid x1 x2 x3 x4 x5 x6 x7 x8 x9 x0 hg hs
  ·by_cases hs:x6=2
   ·subst hs;rw[qai (by omega),qaj rfl];exact Vj h hb q3 q4 q5 q6 q7 q8 q9 M.now rfl rfl hi x1 x2 x3 x4 x5 x7 x8 x9 x0 hg
   ·rw[qaj (.inr ⟨rfl,hs⟩)];exact Sc h hb _ q3 q4 q5 q6 q7 q8 q9 hid x1 x2 x3 x4 x5 x6 x7 x8 x9 x0 hg hs
  ·rw[qai (by omega),qai (by decide)];exact Vi h hb q3 q4 q5 q6 q7 q8 q9 M.now rfl rfl hi x1 x2 x3 x4 x5 x6 x7 x8 x9 x0 hg
end
section
variable {w w' : World} {p : Nat} {dv lv : Value} {M : Md}
theorem aG.zb {w:World}{b:Nat}{r r':Rl}(h:aG w b r)(j:Nat)(v:Value)(he:(gJ r).toArray.setIfInBounds j v=(gJ r').toArray):aG (w.setCell ⟨b,j,none⟩ v) b r':=by
 have:=heap_put (i:=j) h v;rw[he]at this;exact this
theorem tT {b:Nat}(h:aG w b aQ)(v0 v1 v2 v3 v4 v5 v6 v7 v8:Int):∃W,W=(((((((((w).setCell ⟨b,0,none⟩ (.int .i64 v0)).setCell ⟨b,1,none⟩ (.int .i64 v1)).setCell ⟨b,2,none⟩ (.int .i64 v2)).setCell ⟨b,3,none⟩ (.int .i64 v3)).setCell ⟨b,4,none⟩ (.int .i64 v4)).setCell ⟨b,5,none⟩ (.int .i64 v5)).setCell ⟨b,6,none⟩ (.int .i64 v6)).setCell ⟨b,7,none⟩ (.int .i64 v7)).setCell ⟨b,8,none⟩ (.int .i64 v8)∧Below b w W∧aG W b (v0,v1,v2,v3,v4,v5,v6,v7,v8):=by
 have h0:∀W,aG W b (0,0,0,0,0,0,0,0,0)→aG (W.setCell ⟨b,0,none⟩ (.int .i64 v0)) b (v0,0,0,0,0,0,0,0,0):=fun W h=>h.zb 0 _ rfl;have h1:∀W,aG W b (v0,0,0,0,0,0,0,0,0)→aG (W.setCell ⟨b,1,none⟩ (.int .i64 v1)) b (v0,v1,0,0,0,0,0,0,0):=fun W h=>h.zb 1 _ rfl;have h2:∀W,aG W b (v0,v1,0,0,0,0,0,0,0)→aG (W.setCell ⟨b,2,none⟩ (.int .i64 v2)) b (v0,v1,v2,0,0,0,0,0,0):=fun W h=>h.zb 2 _ rfl;have h3:∀W,aG W b (v0,v1,v2,0,0,0,0,0,0)→aG (W.setCell ⟨b,3,none⟩ (.int .i64 v3)) b (v0,v1,v2,v3,0,0,0,0,0):=fun W h=>h.zb 3 _ rfl;have h4:∀W,aG W b (v0,v1,v2,v3,0,0,0,0,0)→aG (W.setCell ⟨b,4,none⟩ (.int .i64 v4)) b (v0,v1,v2,v3,v4,0,0,0,0):=fun W h=>h.zb 4 _ rfl;have h5:∀W,aG W b (v0,v1,v2,v3,v4,0,0,0,0)→aG (W.setCell ⟨b,5,none⟩ (.int .i64 v5)) b (v0,v1,v2,v3,v4,v5,0,0,0):=fun W h=>h.zb 5 _ rfl;have h6:∀W,aG W b (v0,v1,v2,v3,v4,v5,0,0,0)→aG (W.setCell ⟨b,6,none⟩ (.int .i64 v6)) b (v0,v1,v2,v3,v4,v5,v6,0,0):=fun W h=>h.zb 6 _ rfl;have h7:∀W,aG W b (v0,v1,v2,v3,v4,v5,v6,0,0)→aG (W.setCell ⟨b,7,none⟩ (.int .i64 v7)) b (v0,v1,v2,v3,v4,v5,v6,v7,0):=fun W h=>h.zb 7 _ rfl;have h8:∀W,aG W b (v0,v1,v2,v3,v4,v5,v6,v7,0)→aG (W.setCell ⟨b,8,none⟩ (.int .i64 v8)) b (v0,v1,v2,v3,v4,v5,v6,v7,v8):=fun W h=>h.zb 8 _ rfl;exact⟨_,rfl,aT (aT (aT (aT (aT (aT (aT (aT (aT qac (qaf _) 0 _) (qaf _) 1 _) (qaf _) 2 _) (qaf _) 3 _) (qaf _) 4 _) (qaf _) 5 _) (qaf _) 6 _) (qaf _) 7 _) (qaf _) 8 _,h8 _ (h7 _ (h6 _ (h5 _ (h4 _ (h3 _ (h2 _ (h1 _ (h0 _ (h)))))))))⟩
theorem Jw (L:List Bool)(m:Nat):(L.flatMap rZ).take m=(L.take m).flatMap rZ:=by
 induction L generalizing m with
 |nil=>simp
 |cons a L ih=>cases m with
  |zero=>simp
  |succ m=>simp[rZ]at ih⊢;exact ih m
theorem Jy (L:List Bool)(m:Nat):(L.flatMap rZ).drop m=(L.drop m).flatMap rZ:=by
 induction L generalizing m with
 |nil=>simp
 |cons a L ih=>cases m with
  |zero=>simp
  |succ m=>simp[rZ]at ih⊢;exact ih m
theorem MW.Sd {g n cap m:Nat}(h:MW w p (.slice (some ⟨g,0,none⟩) n cap) lv M)(hm:m<M.dr.length)(x:Bool):
 w.cell? ⟨g,m,none⟩=some (.bool (M.dr.getD m false))∧w.frozen? ⟨g,m,none⟩=false∧MW (w.setCell ⟨g,m,none⟩ (.bool x)) p (.slice (some ⟨g,0,none⟩) n cap) lv {M with dr:=M.dr.set m x}∧aB (ax p (.slice (some ⟨g,0,none⟩) n cap) lv) w (w.setCell ⟨g,m,none⟩ (.bool x)):=by
 have hlen:n=M.dr.length:=by
  rcases h.dr.2 with⟨e0,_⟩|⟨g',cap',cur,e0,_⟩
  ·cases e0
  ·cases e0;rfl
 subst hlen;have hb:(Value.slice (some ⟨g,0,none⟩) M.dr.length cap).ownBlock=some g:=rfl;obtain⟨w',h1,h2,h3⟩:=Put.tF h.dr m [.bool x] (by show m+1≤_;omega) (by intro v hv;simp at hv;subst hv;rfl);have e:(M.dr.flatMap rZ).take m++[.bool x]++(M.dr.flatMap rZ).drop (m+[Value.bool x].length)=(M.dr.set m x).flatMap rZ:=by
  rw[List.length_singleton,Jw,Jy,List.set_eq_take_append_cons_drop,qaj hm,List.flatMap_append,List.flatMap_cons,List.append_assoc];rfl
 rw[e]at h2;obtain⟨cur,Wp⟩:=jN h.dr hb;obtain⟨b5,qg,cap5,hv5,_,_,_,hc⟩:=h.read.dr.Cn m hm;injection hv5 with e1 _ _;injection e1 with e1;injection e1 with e1 e2 _;subst e1 e2;rw[Nat.zero_add]at hc;have hne:=h.G6 hb;have hw':w'=w.setCell ⟨g,m,none⟩ (.bool x):=by
  have h4:=h1 prog;simp only[storeCells,Addr.add_lit,Nat.add_zero]at h4;have h5:Sem.run prog (store ⟨g,m,none⟩ (.bool x)) w=.ok () (w.setCell ⟨g,m,none⟩ (.bool x)):=by
   rw[run_store _ _ _ _ _ rfl,hc];simp[World.frozen?,Wp]
  simp[Sem.run_bind,h5,Result.andThen]at h4;exact h4.symm
 subst hw';refine⟨hc,by simp[World.frozen?,Wp],⟨by rw[h3.block p h.lt (Ne.symm hne) (Ne.symm hne)];exact h.cell,by show World.ownsRow _ _ _ _ _ (M.dr.set m x).length _;rw[List.length_set];exact h2,jE h.js fun k hk=>?_⟩,aB.Ci h3 (.inr (.inl rfl))⟩;have hkg:k≠g:=fun e=>(h.xZ hk).2 (e▸hb);exact h3.block k (h.js.lt k hk).2 hkg hkg
theorem Pz (h:MW w p dv lv M)(hb:MB M)(k q2 q3 q4 q5 q6:Int)(q7:Bool)(n q9:Int)(hn:n<0∨(M.dr.length:Int)≤n):Calls prog 94 #[.pointer (some ⟨p,0,none⟩),.agg #[.int .i64 k,.int .i64 q2,.int .i64 q3,.int .i64 q4,.int .i64 q5,.int .i64 q6,.bool q7,.int .i64 n,.int .i64 q9]] w (iJ w p dv lv (dB 11,M)):=by
 obtain⟨wA,aj⟩:=qaa ((w.alloc (.cells #[.int .i64 k,.int .i64 q2,.int .i64 q3,.int .i64 q4,.int .i64 q5,.int .i64 q6,.bool q7,.int .i64 n,.int .i64 q9] 33)).alloc (.cells #[.int .i64 0,.int .i64 0,.int .i64 0,.int .i64 0,.int .i64 0,.int .i64 0,.int .i64 0,.int .i64 0,.int .i64 0] 67));have aC:Below w.heap.size w wA:=by rw[aj];exact(qac.alloc (qaf _) _).alloc (by simp) _
 have hsA:wA.heap.size=w.heap.size+2:=by rw[aj];simp
 have aH:aG wA (w.heap.size+1) aQ:=by rw[aj];exact heap_alloc2_new w _ _
 have bg:wA.heap[w.heap.size]? =some (.cells #[.int .i64 k,.int .i64 q2,.int .i64 q3,.int .i64 q4,.int .i64 q5,.int .i64 q6,.bool q7,.int .i64 n,.int .i64 q9] 33 (0,0)):=by rw[aj];exact aJ (heap_alloc_new w _)
 have aP:=h.kept aC;have hp0:Hid (∀k,ax p dv lv k→k<w.heap.size):=h.bF;have hll:=hb.nn;have c1:=aP.read.c1;obtain⟨ao,cap,rfl,h1,h2⟩:=aP.read.dr.shape;generalize M.dr.length=N at*;have d0:wA.cell? ⟨w.heap.size,0,none⟩=some (.int .i64 k):=by simp[World.cell?,bg]
 have d7:wA.cell? ⟨w.heap.size,7,none⟩=some (.int .i64 n):=by simp[World.cell?,bg]
 have a0:=aH.at 0 (.int .i64 0) rfl;have f0:=aH.free 0;have a1:=aH.at 1 (.int .i64 0) rfl;have f1:=aH.free 1;have a2:=aH.at 2 (.int .i64 0) rfl;have f2:=aH.free 2;have a3:=aH.at 3 (.int .i64 0) rfl;have f3:=aH.free 3;have a4:=aH.at 4 (.int .i64 0) rfl;have f4:=aH.free 4;have a5:=aH.at 5 (.int .i64 0) rfl;have f5:=aH.free 5;have a6:=aH.at 6 (.int .i64 0) rfl;have f6:=aH.free 6;have a7:=aH.at 7 (.int .i64 0) rfl;have f7:=aH.free 7;have a8:=aH.at 8 (.int .i64 0) rfl;have f8:=aH.free 8;obtain⟨w3,hw3,hb3,gz⟩:=tT aH 11 0 0 0 0 0 0 0 0;replace aP:=qae aP;replace aC:=qae aC;replace hb3:=qae hb3;clear h hb bg aH;by_cases hn0:n<0
 ·have dg:decide (n<0)=true:=qag hn0;clear hn;go_enter func94,ntmps94;go_wp2_with fail;rw[←aj];replace aj:=qae aj;go_region;go_wp2_with fail;replace hb3:=hb3.out;rw[←hw3];replace hw3:=qae hw3;replace hb3:=hb3.drew;have eZ:MW w3.drew p (.slice ao N cap) lv M:=aP.out.cK hb3 (fun k hk=>Nat.lt_succ_of_lt (hp0.out k hk));have hof:aB (ax p (.slice ao N cap) lv) w w3.drew:=(aB.of_below (S:=ax p (.slice ao N cap) lv) aC.out).later hb3 (Nat.le_succ _);refine aO rfl rfl rfl gz underlying67 rfl (by kernel_rfl) ⟨rfl,⟨_,eZ,aY.refl _ _⟩,hof⟩
 ·have dg:decide (n<0)=false:=qah hn0;have dn:decide (n≥(N:Int))=true:=qag (by omega);clear hn hn0;go_enter func94,ntmps94;go_wp2_with fail;rw[←aj];replace aj:=qae aj;go_region;go_wp2_with fail;replace hb3:=hb3.out;rw[←hw3];replace hw3:=qae hw3;replace hb3:=hb3.drew;have eZ:MW w3.drew p (.slice ao N cap) lv M:=aP.out.cK hb3 (fun k hk=>Nat.lt_succ_of_lt (hp0.out k hk));have hof:aB (ax p (.slice ao N cap) lv) w w3.drew:=(aB.of_below (S:=ax p (.slice ao N cap) lv) aC.out).later hb3 (Nat.le_succ _);refine aO rfl rfl rfl gz underlying67 rfl (by kernel_rfl) ⟨rfl,⟨_,eZ,aY.refl _ _⟩,hof⟩
theorem MB.drop (hb:MB M)(j:Jb):MB (eH M j):=by
 have H:∀{P:Jb→Prop},(∀j∈M.L,P j)→(∀x,P x→P (x.aR (-1)))→∀x∈M.L.map (fB j),P x:=fun h hx x hj=>by
  obtain⟨y,hy,rfl⟩:=List.mem_map.1 hj;unfold fB;split
  ·exact hx _ (h y hy)
  ·exact h y hy
 exact⟨hb.nn,by show(M.L.map (fB j)).length≤1024;rw[List.length_map];exact hb.ll,hb.now,H hb.wid fun _ h=>h,H hb.lim fun _ h=>h,H hb.aW fun _ _=>(by show(-1:Int)≤-1∧(-1:Int)≤_;omega),H hb.fin fun _ h=>h,H hb.bY fun _ h=>h⟩
theorem MB.drain (hb:MB M)(m:Nat)(x:Bool):MB {M with dr:=M.dr.set m x}:=
 ⟨by show(M.dr.set m x).length≤64;rw[List.length_set];exact hb.nn,hb.ll,hb.now,hb.wid,hb.lim,hb.aW,hb.fin,hb.bY⟩
theorem Sg (h:MW w p dv lv M)(hb:MB M)(m:Nat)(q2 q3 q4 q5 q6:Int)(q7:Bool)(q9:Int)(hm:m<M.dr.length)(hd:M.dr.getD m false=true):Calls prog 94 #[.pointer (some ⟨p,0,none⟩),.agg #[.int .i64 7,.int .i64 q2,.int .i64 q3,.int .i64 q4,.int .i64 q5,.int .i64 q6,.bool q7,.int .i64 (m:Int),.int .i64 q9]] w (iJ w p dv lv (dB 8,M)):=by
 obtain⟨wA,aj⟩:=qaa ((w.alloc (.cells #[.int .i64 7,.int .i64 q2,.int .i64 q3,.int .i64 q4,.int .i64 q5,.int .i64 q6,.bool q7,.int .i64 (m:Int),.int .i64 q9] 33)).alloc (.cells #[.int .i64 0,.int .i64 0,.int .i64 0,.int .i64 0,.int .i64 0,.int .i64 0,.int .i64 0,.int .i64 0,.int .i64 0] 67));have aC:Below w.heap.size w wA:=by rw[aj];exact(qac.alloc (qaf _) _).alloc (by simp) _
 have hsA:wA.heap.size=w.heap.size+2:=by rw[aj];simp
 have aH:aG wA (w.heap.size+1) aQ:=by rw[aj];exact heap_alloc2_new w _ _
 have bg:wA.heap[w.heap.size]? =some (.cells #[.int .i64 7,.int .i64 q2,.int .i64 q3,.int .i64 q4,.int .i64 q5,.int .i64 q6,.bool q7,.int .i64 (m:Int),.int .i64 q9] 33 (0,0)):=by rw[aj];exact aJ (heap_alloc_new w _)
 have aP:=h.kept aC;have hp0:Hid (∀k,ax p dv lv k→k<w.heap.size):=h.bF;have hll:=hb.nn;have c1:=aP.read.c1;obtain⟨g,off,cap,hv,h1,h2,hbl,hc⟩:=aP.read.dr.Cn m hm;subst hv;rw[hd]at hc;generalize M.dr.length=N at*;have m0:(0:Int)≤(m:Int):=by omega
 have mN:(m:Int)<(N:Int):=by omega
 have dg:decide ((m:Int)<0)=false:=qah (by omega);have dn:decide ((m:Int)≥(N:Int))=false:=qah (by omega);have d0:wA.cell? ⟨w.heap.size,0,none⟩=some (.int .i64 7):=by simp[World.cell?,bg]
 have d7:wA.cell? ⟨w.heap.size,7,none⟩=some (.int .i64 (m:Int)):=by simp[World.cell?,bg]
 have a0:=aH.at 0 (.int .i64 0) rfl;have f0:=aH.free 0;have a1:=aH.at 1 (.int .i64 0) rfl;have f1:=aH.free 1;have a2:=aH.at 2 (.int .i64 0) rfl;have f2:=aH.free 2;have a3:=aH.at 3 (.int .i64 0) rfl;have f3:=aH.free 3;have a4:=aH.at 4 (.int .i64 0) rfl;have f4:=aH.free 4;have a5:=aH.at 5 (.int .i64 0) rfl;have f5:=aH.free 5;have a6:=aH.at 6 (.int .i64 0) rfl;have f6:=aH.free 6;have a7:=aH.at 7 (.int .i64 0) rfl;have f7:=aH.free 7;have a8:=aH.at 8 (.int .i64 0) rfl;have f8:=aH.free 8;obtain⟨w3,hw3,hb3,gz⟩:=tT aH 8 0 0 0 0 0 0 0 0;replace aP:=qae aP;replace aC:=qae aC;replace hb3:=qae hb3;clear h hb bg aH hd hm;go_enter func94,ntmps94;go_wp2_with fail;rw[←aj];replace aj:=qae aj;go_region;go_wp2_with fail;go_region;go_wp2_with fail;replace hb3:=hb3.out;rw[←hw3];replace hw3:=qae hw3;replace hb3:=hb3.drew.drew;have eZ:MW w3.drew.drew p (.slice (some ⟨g,off,none⟩) N cap) lv M:=aP.out.cK hb3 (fun k hk=>Nat.lt_succ_of_lt (hp0.out k hk));have hof:aB (ax p (.slice (some ⟨g,off,none⟩) N cap) lv) w w3.drew.drew:=(aB.of_below (S:=ax p (.slice (some ⟨g,off,none⟩) N cap) lv) aC.out).later hb3 (Nat.le_succ _);refine aO rfl rfl rfl gz underlying67 rfl (by kernel_rfl) ⟨rfl,⟨_,eZ,aY.refl _ _⟩,hof⟩
theorem Si (h:MW w p dv lv M)(hb:MB M)(m:Nat)(q2 q3 q4 q5 q6:Int)(q7:Bool)(q9:Int)(hm:m<M.dr.length)(hd:M.dr.getD m false=false):Calls prog 94 #[.pointer (some ⟨p,0,none⟩),.agg #[.int .i64 8,.int .i64 q2,.int .i64 q3,.int .i64 q4,.int .i64 q5,.int .i64 q6,.bool q7,.int .i64 (m:Int),.int .i64 q9]] w (iJ w p dv lv (dB 8,M)):=by
 obtain⟨wA,aj⟩:=qaa ((w.alloc (.cells #[.int .i64 8,.int .i64 q2,.int .i64 q3,.int .i64 q4,.int .i64 q5,.int .i64 q6,.bool q7,.int .i64 (m:Int),.int .i64 q9] 33)).alloc (.cells #[.int .i64 0,.int .i64 0,.int .i64 0,.int .i64 0,.int .i64 0,.int .i64 0,.int .i64 0,.int .i64 0,.int .i64 0] 67));have aC:Below w.heap.size w wA:=by rw[aj];exact(qac.alloc (qaf _) _).alloc (by simp) _
 have hsA:wA.heap.size=w.heap.size+2:=by rw[aj];simp
 have aH:aG wA (w.heap.size+1) aQ:=by rw[aj];exact heap_alloc2_new w _ _
 have bg:wA.heap[w.heap.size]? =some (.cells #[.int .i64 8,.int .i64 q2,.int .i64 q3,.int .i64 q4,.int .i64 q5,.int .i64 q6,.bool q7,.int .i64 (m:Int),.int .i64 q9] 33 (0,0)):=by rw[aj];exact aJ (heap_alloc_new w _)
 have aP:=h.kept aC;have hp0:Hid (∀k,ax p dv lv k→k<w.heap.size):=h.bF;have hll:=hb.nn;have c1:=aP.read.c1;obtain⟨g,off,cap,hv,h1,h2,hbl,hc⟩:=aP.read.dr.Cn m hm;subst hv;rw[hd]at hc;generalize M.dr.length=N at*;have m0:(0:Int)≤(m:Int):=by omega
 have mN:(m:Int)<(N:Int):=by omega
 have dg:decide ((m:Int)<0)=false:=qah (by omega);have dn:decide ((m:Int)≥(N:Int))=false:=qah (by omega);have d0:wA.cell? ⟨w.heap.size,0,none⟩=some (.int .i64 8):=by simp[World.cell?,bg]
 have d7:wA.cell? ⟨w.heap.size,7,none⟩=some (.int .i64 (m:Int)):=by simp[World.cell?,bg]
 have a0:=aH.at 0 (.int .i64 0) rfl;have f0:=aH.free 0;have a1:=aH.at 1 (.int .i64 0) rfl;have f1:=aH.free 1;have a2:=aH.at 2 (.int .i64 0) rfl;have f2:=aH.free 2;have a3:=aH.at 3 (.int .i64 0) rfl;have f3:=aH.free 3;have a4:=aH.at 4 (.int .i64 0) rfl;have f4:=aH.free 4;have a5:=aH.at 5 (.int .i64 0) rfl;have f5:=aH.free 5;have a6:=aH.at 6 (.int .i64 0) rfl;have f6:=aH.free 6;have a7:=aH.at 7 (.int .i64 0) rfl;have f7:=aH.free 7;have a8:=aH.at 8 (.int .i64 0) rfl;have f8:=aH.free 8;obtain⟨w3,hw3,hb3,gz⟩:=tT aH 8 0 0 0 0 0 0 0 0;replace aP:=qae aP;replace aC:=qae aC;replace hb3:=qae hb3;clear h hb bg aH hd hm;go_enter func94,ntmps94;go_wp2_with fail;rw[←aj];replace aj:=qae aj;go_region;go_wp2_with fail;go_region;go_wp2_with fail;replace hb3:=hb3.out;rw[←hw3];replace hw3:=qae hw3;replace hb3:=hb3.drew.drew;have eZ:MW w3.drew.drew p (.slice (some ⟨g,off,none⟩) N cap) lv M:=aP.out.cK hb3 (fun k hk=>Nat.lt_succ_of_lt (hp0.out k hk));have hof:aB (ax p (.slice (some ⟨g,off,none⟩) N cap) lv) w w3.drew.drew:=(aB.of_below (S:=ax p (.slice (some ⟨g,off,none⟩) N cap) lv) aC.out).later hb3 (Nat.le_succ _);refine aO rfl rfl rfl gz underlying67 rfl (by kernel_rfl) ⟨rfl,⟨_,eZ,aY.refl _ _⟩,hof⟩
theorem Vk {g N cap:Nat}(h:MW w p (.slice (some ⟨g,0,none⟩) N cap) lv M)(hb:MB M)(m:Nat)(q2 q3 q4 q5 q6:Int)(q7:Bool)(q9:Int)(hN:N=M.dr.length)(hm:m<M.dr.length)(hd:M.dr.getD m false=true):Calls prog 94 #[.pointer (some ⟨p,0,none⟩),.agg #[.int .i64 8,.int .i64 q2,.int .i64 q3,.int .i64 q4,.int .i64 q5,.int .i64 q6,.bool q7,.int .i64 (m:Int),.int .i64 q9]] w (iJ w p (.slice (some ⟨g,0,none⟩) N cap) lv ((0,(m:Int),aK (dK M m false) (m:Int),0,0,0,0,0,0),dK M m false)):=by
 obtain⟨wA,aj⟩:=qaa ((w.alloc (.cells #[.int .i64 8,.int .i64 q2,.int .i64 q3,.int .i64 q4,.int .i64 q5,.int .i64 q6,.bool q7,.int .i64 (m:Int),.int .i64 q9] 33)).alloc (.cells #[.int .i64 0,.int .i64 0,.int .i64 0,.int .i64 0,.int .i64 0,.int .i64 0,.int .i64 0,.int .i64 0,.int .i64 0] 67));have aC:Below w.heap.size w wA:=by rw[aj];exact(qac.alloc (qaf _) _).alloc (by simp) _
 have hsA:wA.heap.size=w.heap.size+2:=by rw[aj];simp
 have aH:aG wA (w.heap.size+1) aQ:=by rw[aj];exact heap_alloc2_new w _ _
 have bg:wA.heap[w.heap.size]? =some (.cells #[.int .i64 8,.int .i64 q2,.int .i64 q3,.int .i64 q4,.int .i64 q5,.int .i64 q6,.bool q7,.int .i64 (m:Int),.int .i64 q9] 33 (0,0)):=by rw[aj];exact aJ (heap_alloc_new w _)
 have aP:=h.kept aC;have hp0:Hid (∀k,ax p (.slice (some ⟨g,0,none⟩) N cap) lv k→k<w.heap.size):=h.bF;have hll:=hb.nn;have c1:=aP.read.c1;rw[←hN]at hll;have m0:(0:Int)≤(m:Int):=by omega
 have mN:(m:Int)<(N:Int):=by omega
 have hNc:N≤cap:=by obtain⟨ao,cp,hv,h1,_⟩:=bE h.dr;injection hv with _ e1 e2;omega
 have dg:decide ((m:Int)<0)=false:=qah (by omega);have dn:decide ((m:Int)≥(N:Int))=false:=qah (by omega);obtain⟨pc,pf,pM,pO⟩:=aP.Sd hm false;rw[hd]at pc;have d0:wA.cell? ⟨w.heap.size,0,none⟩=some (.int .i64 8):=by simp[World.cell?,bg]
 have d7:wA.cell? ⟨w.heap.size,7,none⟩=some (.int .i64 (m:Int)):=by simp[World.cell?,bg]
 replace aP:=qae aP;replace aC:=qae aC;replace aH:=qae aH;replace bg:=qae bg;replace pM:=qae pM;replace pO:=qae pO;replace hb:=qae hb;replace hN:=qae hN;replace hm:=qae hm;clear h hd;go_enter func94,ntmps94;go_wp2_with fail;rw[←aj];replace aj:=qae aj;go_region;go_wp2_with fail;go_region;go_wp2_with fail;go_region;go_wp2_with fail;obtain⟨wC,eO⟩:=qaa ((wA.setCell ⟨g,m,none⟩ (.bool false)).drew.drew.drew);have mJ:Hid (MW wC p (.slice (some ⟨g,0,none⟩) N cap) lv (dK M m false)):=by show MW _ _ _ _ _;rw[eO];exact⟨pM.out.cell,pM.out.dr,pM.out.js⟩
 have jX:Hid (aB (ax p (.slice (some ⟨g,0,none⟩) N cap) lv) w wC):=by show aB _ _ _;rw[eO];exact((aB.of_below (S:=ax p (.slice (some ⟨g,0,none⟩) N cap) lv) aC.out).trans pO.out (aY.refl _ _)).later (Below.refl w.heap.size _).drew.drew.drew (qaf _)
 have hne:∀k,w.heap.size≤k→k≠g:=fun k hk e=>by have:=hp0.out g (.inr (.inl rfl));omega
 have CO:Hid (wC.heap[w.heap.size]? =some (.cells #[.int .i64 8,.int .i64 q2,.int .i64 q3,.int .i64 q4,.int .i64 q5,.int .i64 q6,.bool q7,.int .i64 (m:Int),.int .i64 q9] 33 (0,0))):=by show _=_;rw[eO];exact(Below.heap_setCell _ _ _ _ (hne _ (qaf _))).trans bg.out
 have jv:Hid (aG wC (w.heap.size+1) aQ):=by show _=_;rw[eO];exact(Below.heap_setCell _ _ _ _ (hne _ (Nat.le_succ _))).trans aH.out
 rw[←eO];replace eO:=qae eO;clear pM pO pc pf hne;have hmb:=qae ((hb.out).drain m false);obtain⟨S,hS⟩:=qaa (aK (dK M m false) (m:Int));rw[←hS];replace hS:=qae hS;have Xm:decide (N≤m)=false:=qah (by omega)
 (try simp only[Xm])
 refine Reg2.ro wC 6 55 [.p 0,.m 1,.p 0,.p 0,.m 8,.m 28] [.int .i64 (m:Int),.int .i64 (m:Int),.int .i64 S] (by kernel_rfl) (by kernel_rfl) rfl rfl ⟨rfl,rfl,rfl,qaf _,fun _ _=>rfl⟩ ?_;dsimp only[Reg2.fF]
 repeat((first
  |(refine' Reg2.ak _ (by rfl) (fun wz=>?_) ?_;rotate_left;(go_simp;first|rfl|rw[qai (by omega)]))
  |(refine Reg2.az (by rfl) (fun wz hI hF=>?_) (fun _=>?_)
    ·unfold Reg2.One;have hX:=(hI.block _ (ai CO.out)).trans CO.out;have d9:wz.cell? ⟨w.heap.size,7,none⟩=some (.int .i64 (m:Int)):=by simp[World.cell?,hX]
     clear hX;go_wp2_with fail
     first|exact⟨_,rfl,rfl,qad⟩|exact⟨_,rfl,⟨(),rfl,trivial⟩,qad⟩));simp only[Act.put,xA,xB,xC,xD,xE,id])
 refine Reg2.pm (fun wz hI hF=>?_) (fun s5=>?_) (by rfl)
 ·have hst:=tH (mJ.out.kept hI).read hmb.out (m:Int);rw[←hS.out]at hst;go_wp2_with fail;go_at_call 74;refine hst.mono ?_;clear hst;rintro e w5 ⟨rfl,rfl⟩;go_wp2_with fail
  first|exact⟨_,rfl,rfl,qad⟩|exact⟨_,rfl,⟨(),rfl,trivial⟩,qad⟩
 simp only[Act.put,xA,xB,xC,xD,xE,id];refine Reg2.aD ?_;intro w9 eu _ p9;clear p9 s5;dsimp only[List.drop];have jT:Hid (MW w9 p (.slice (some ⟨g,0,none⟩) N cap) lv (dK M m false)):=mJ.out.kept eu;have tX:Hid (aB (ax p (.slice (some ⟨g,0,none⟩) N cap) lv) w w9):=jX.out.later eu (by have:=jX.out.size;omega);have bK:aG w9 (w.heap.size+1) aQ:=(eu.block _ (ai jv.out)).trans jv.out;have a0:=bK.at 0 (.int .i64 0) rfl;have f0:=bK.free 0;have a1:=bK.at 1 (.int .i64 0) rfl;have f1:=bK.free 1;have a2:=bK.at 2 (.int .i64 0) rfl;have f2:=bK.free 2;have a3:=bK.at 3 (.int .i64 0) rfl;have f3:=bK.free 3;have a4:=bK.at 4 (.int .i64 0) rfl;have f4:=bK.free 4;have a5:=bK.at 5 (.int .i64 0) rfl;have f5:=bK.free 5;have a6:=bK.at 6 (.int .i64 0) rfl;have f6:=bK.free 6;have a7:=bK.at 7 (.int .i64 0) rfl;have f7:=bK.free 7;have a8:=bK.at 8 (.int .i64 0) rfl;have f8:=bK.free 8;obtain⟨w3,hw3,hb3,gz⟩:=tT bK 0 (m:Int) S 0 0 0 0 0 0;replace hb3:=qae hb3;clear eu bK;go_wp2_with fail;rw[←hw3];replace hw3:=qae hw3;have eZ:MW w3 p (.slice (some ⟨g,0,none⟩) N cap) lv (dK M m false):=jT.out.cK hb3.out (fun k hk=>Nat.lt_succ_of_lt (hp0.out k hk));have hof:aB (ax p (.slice (some ⟨g,0,none⟩) N cap) lv) w w3:=tX.out.later hb3.out (Nat.le_succ _);refine aO rfl rfl rfl gz underlying67 rfl (by kernel_rfl) ⟨by rw[hS.out],⟨_,eZ,aY.refl _ _⟩,hof⟩
theorem Vl {g N cap:Nat}(h:MW w p (.slice (some ⟨g,0,none⟩) N cap) lv M)(hb:MB M)(m:Nat)(q2 q3 q4 q5 q6:Int)(q7:Bool)(q9:Int)(hN:N=M.dr.length)(hm:m<M.dr.length)(hd:M.dr.getD m false=false):Calls prog 94 #[.pointer (some ⟨p,0,none⟩),.agg #[.int .i64 7,.int .i64 q2,.int .i64 q3,.int .i64 q4,.int .i64 q5,.int .i64 q6,.bool q7,.int .i64 (m:Int),.int .i64 q9]] w (iJ w p (.slice (some ⟨g,0,none⟩) N cap) lv ((0,(m:Int),aK (dK M m true) (m:Int),0,0,0,0,0,0),dK M m true)):=by
 obtain⟨wA,aj⟩:=qaa ((w.alloc (.cells #[.int .i64 7,.int .i64 q2,.int .i64 q3,.int .i64 q4,.int .i64 q5,.int .i64 q6,.bool q7,.int .i64 (m:Int),.int .i64 q9] 33)).alloc (.cells #[.int .i64 0,.int .i64 0,.int .i64 0,.int .i64 0,.int .i64 0,.int .i64 0,.int .i64 0,.int .i64 0,.int .i64 0] 67));have aC:Below w.heap.size w wA:=by rw[aj];exact(qac.alloc (qaf _) _).alloc (by simp) _
 have hsA:wA.heap.size=w.heap.size+2:=by rw[aj];simp
 have aH:aG wA (w.heap.size+1) aQ:=by rw[aj];exact heap_alloc2_new w _ _
 have bg:wA.heap[w.heap.size]? =some (.cells #[.int .i64 7,.int .i64 q2,.int .i64 q3,.int .i64 q4,.int .i64 q5,.int .i64 q6,.bool q7,.int .i64 (m:Int),.int .i64 q9] 33 (0,0)):=by rw[aj];exact aJ (heap_alloc_new w _)
 have aP:=h.kept aC;have hp0:Hid (∀k,ax p (.slice (some ⟨g,0,none⟩) N cap) lv k→k<w.heap.size):=h.bF;have hll:=hb.nn;have c1:=aP.read.c1;rw[←hN]at hll;have m0:(0:Int)≤(m:Int):=by omega
 have mN:(m:Int)<(N:Int):=by omega
 have hNc:N≤cap:=by obtain⟨ao,cp,hv,h1,_⟩:=bE h.dr;injection hv with _ e1 e2;omega
 have dg:decide ((m:Int)<0)=false:=qah (by omega);have dn:decide ((m:Int)≥(N:Int))=false:=qah (by omega);obtain⟨pc,_,_,_⟩:=aP.Sd hm true;rw[hd]at pc;replace hd:=qae hd;have d0:wA.cell? ⟨w.heap.size,0,none⟩=some (.int .i64 7):=by simp[World.cell?,bg]
 have d7:wA.cell? ⟨w.heap.size,7,none⟩=some (.int .i64 (m:Int)):=by simp[World.cell?,bg]
 replace aP:=qae aP;replace aC:=qae aC;replace aH:=qae aH;replace bg:=qae bg;replace hb:=qae hb;replace hN:=qae hN;replace hm:=qae hm;clear h;go_enter func94,ntmps94;go_wp2_with fail;rw[←aj];replace aj:=qae aj;go_region;go_wp2_with fail;go_region;go_wp2_with fail;obtain⟨wB,cO⟩:=qaa (wA.drew.drew);have fT:Below wA.heap.size wA wB:=by rw[cO];exact qac.drew.drew
 have hdp:=CF (aP.out.kept fT) hb.out mq;rw[show(ag mq).toArray= #[.int .i64 0,.int .i64 0,.int .i64 0,.int .i64 0,.int .i64 0,.int .i64 0,.int .i64 0,.int .i64 0,.int .i64 0,.int .u64 0]from rfl]at hdp;rw[←cO];replace cO:=qae cO;go_at_call 156;refine hdp.mono ?_;clear hdp pc d0 d7 c1;rintro e w1 ⟨rfl,hM1,Vm⟩;have hne:∀k,w.heap.size≤k→¬ax p (.slice (some ⟨g,0,none⟩) N cap) lv k:=fun k hk hf=>absurd (hp0.out k hf) (by omega);have gQ:Hid (aB (ax p (.slice (some ⟨g,0,none⟩) N cap) lv) w w1):=(aB.of_below (S:=ax p (.slice (some ⟨g,0,none⟩) N cap) lv) (aC.out.trans (fT.mono aC.out.size))).trans Vm (aY.refl _ _);have ou:w1.heap[w.heap.size]? =some (.cells #[.int .i64 7,.int .i64 q2,.int .i64 q3,.int .i64 q4,.int .i64 q5,.int .i64 q6,.bool q7,.int .i64 (m:Int),.int .i64 q9] 33 (0,0)):=(Vm.block _ (Nat.lt_of_lt_of_le (ai bg.out) fT.size) (hne _ (qaf _))).trans ((fT.block _ (ai bg.out)).trans bg.out);have fV:Hid (aG w1 (w.heap.size+1) aQ):=(Vm.block _ (Nat.lt_of_lt_of_le (ai aH.out) fT.size) (hne _ (Nat.le_succ _))).trans ((fT.block _ (ai aH.out)).trans aH.out);obtain⟨pc,pf,pM,pO⟩:=hM1.Sd (show m<(eH M mq).dr.length from hm.out) true;have c1:=hM1.read.c1;have d0:w1.cell? ⟨w.heap.size,0,none⟩=some (.int .i64 7):=by simp[World.cell?,ou]
 have d7:w1.cell? ⟨w.heap.size,7,none⟩=some (.int .i64 (m:Int)):=by simp[World.cell?,ou]
 replace bg:=qae ou;replace aH:=fV;replace pM:=qae pM;replace pO:=qae pO;clear hM1 Vm fT hne ou fV;go_wp2_with fail;go_region;go_wp2_with fail;obtain⟨wC,eO⟩:=qaa ((w1.setCell ⟨g,m,none⟩ (.bool true)).drew);have mJ:Hid (MW wC p (.slice (some ⟨g,0,none⟩) N cap) lv (dK M m true)):=by show MW _ _ _ _ _;rw[eO];exact⟨pM.out.cell,pM.out.dr,pM.out.js⟩
 have jX:Hid (aB (ax p (.slice (some ⟨g,0,none⟩) N cap) lv) w wC):=by show aB _ _ _;rw[eO];exact(gQ.out.trans pO.out (aY.refl _ _)).later (Below.refl w.heap.size _).drew (qaf _)
 have hne:∀k,w.heap.size≤k→k≠g:=fun k hk e=>by have:=hp0.out g (.inr (.inl rfl));omega
 have CO:Hid (wC.heap[w.heap.size]? =some (.cells #[.int .i64 7,.int .i64 q2,.int .i64 q3,.int .i64 q4,.int .i64 q5,.int .i64 q6,.bool q7,.int .i64 (m:Int),.int .i64 q9] 33 (0,0))):=by show _=_;rw[eO];exact(Below.heap_setCell _ _ _ _ (hne _ (qaf _))).trans bg.out
 have jv:Hid (aG wC (w.heap.size+1) aQ):=by show _=_;rw[eO];exact(Below.heap_setCell _ _ _ _ (hne _ (Nat.le_succ _))).trans aH.out
 rw[←eO];replace eO:=qae eO;clear pM pO pc pf hne;have hmb:=qae ((hb.out.drop mq).drain m true);obtain⟨S,hS⟩:=qaa (aK (dK M m true) (m:Int));rw[←hS];replace hS:=qae hS;have Xm:decide (N≤m)=false:=qah (by omega)
 (try simp only[Xm])
 refine Reg2.ro wC 6 55 [.p 0,.m 1,.p 0,.p 0,.m 8,.m 28] [.int .i64 (m:Int),.int .i64 (m:Int),.int .i64 S] (by kernel_rfl) (by kernel_rfl) rfl rfl ⟨rfl,rfl,rfl,qaf _,fun _ _=>rfl⟩ ?_;dsimp only[Reg2.fF]
 repeat((first
  |(refine' Reg2.ak _ (by rfl) (fun wz=>?_) ?_;rotate_left;(go_simp;first|rfl|rw[qai (by omega)]))
  |(refine Reg2.az (by rfl) (fun wz hI hF=>?_) (fun _=>?_)
    ·unfold Reg2.One;have hX:=(hI.block _ (ai CO.out)).trans CO.out;have d9:wz.cell? ⟨w.heap.size,7,none⟩=some (.int .i64 (m:Int)):=by simp[World.cell?,hX]
     clear hX;go_wp2_with fail
     first|exact⟨_,rfl,rfl,qad⟩|exact⟨_,rfl,⟨(),rfl,trivial⟩,qad⟩));simp only[Act.put,xA,xB,xC,xD,xE,id])
 refine Reg2.pm (fun wz hI hF=>?_) (fun s5=>?_) (by rfl)
 ·have hst:=tH (mJ.out.kept hI).read hmb.out (m:Int);rw[←hS.out]at hst;go_wp2_with fail;go_at_call 74;refine hst.mono ?_;clear hst;rintro e w5 ⟨rfl,rfl⟩;go_wp2_with fail
  first|exact⟨_,rfl,rfl,qad⟩|exact⟨_,rfl,⟨(),rfl,trivial⟩,qad⟩
 simp only[Act.put,xA,xB,xC,xD,xE,id];refine Reg2.aD ?_;intro w9 eu _ p9;clear p9 s5;dsimp only[List.drop];have jT:Hid (MW w9 p (.slice (some ⟨g,0,none⟩) N cap) lv (dK M m true)):=mJ.out.kept eu;have tX:Hid (aB (ax p (.slice (some ⟨g,0,none⟩) N cap) lv) w w9):=jX.out.later eu (by have:=jX.out.size;omega);have bK:aG w9 (w.heap.size+1) aQ:=(eu.block _ (ai jv.out)).trans jv.out;have a0:=bK.at 0 (.int .i64 0) rfl;have f0:=bK.free 0;have a1:=bK.at 1 (.int .i64 0) rfl;have f1:=bK.free 1;have a2:=bK.at 2 (.int .i64 0) rfl;have f2:=bK.free 2;have a3:=bK.at 3 (.int .i64 0) rfl;have f3:=bK.free 3;have a4:=bK.at 4 (.int .i64 0) rfl;have f4:=bK.free 4;have a5:=bK.at 5 (.int .i64 0) rfl;have f5:=bK.free 5;have a6:=bK.at 6 (.int .i64 0) rfl;have f6:=bK.free 6;have a7:=bK.at 7 (.int .i64 0) rfl;have f7:=bK.free 7;have a8:=bK.at 8 (.int .i64 0) rfl;have f8:=bK.free 8;obtain⟨w3,hw3,hb3,gz⟩:=tT bK 0 (m:Int) S 0 0 0 0 0 0;replace hb3:=qae hb3;clear eu bK;go_wp2_with fail;rw[←hw3];replace hw3:=qae hw3;have eZ:MW w3 p (.slice (some ⟨g,0,none⟩) N cap) lv (dK M m true):=jT.out.cK hb3.out (fun k hk=>Nat.lt_succ_of_lt (hp0.out k hk));have hof:aB (ax p (.slice (some ⟨g,0,none⟩) N cap) lv) w w3:=tX.out.later hb3.out (Nat.le_succ _);refine aO rfl rfl rfl gz underlying67 rfl (by kernel_rfl) ⟨by rw[hS.out],⟨_,eZ,aY.refl _ _⟩,hof⟩
theorem Jz (h:MW w p dv lv M)(hb:MB M)(k q2 q3 q4 q5 q6:Int)(q7:Bool)(n q9:Int)(hk:k=7∨k=8):Calls prog 94 #[.pointer (some ⟨p,0,none⟩),.agg #[.int .i64 k,.int .i64 q2,.int .i64 q3,.int .i64 q4,.int .i64 q5,.int .i64 q6,.bool q7,.int .i64 n,.int .i64 q9]] w (iJ w p dv lv (gU M ⟨k,q2,q3,q4,q5,q6,q7,n,q9⟩)):=by
 unfold gU;by_cases hn:n<0∨(M.dr.length:Int)≤n
 ·rw[qaj hn];exact Pz h hb k q2 q3 q4 q5 q6 q7 n q9 hn
 ·obtain⟨m,rfl⟩:∃m:Nat,n=(m:Int):=⟨n.toNat,by omega⟩;have hm:m<M.dr.length:=by omega
  obtain⟨ao,cap,rfl,_,_,hsome⟩:=bE h.dr;obtain⟨g,rfl⟩:=hsome (by omega);rw[qai hn];simp only[Int.toNat_natCast];rcases hk with rfl|rfl
  ·cases hd:M.dr.getD m false with
   |false=>exact Vl h hb m q2 q3 q4 q5 q6 q7 q9 rfl hm hd
   |true=>exact Sg h hb m q2 q3 q4 q5 q6 q7 q9 hm hd
  ·cases hd:M.dr.getD m false with
   |false=>exact Si h hb m q2 q3 q4 q5 q6 q7 q9 hm hd
   |true=>exact Vk h hb m q2 q3 q4 q5 q6 q7 q9 rfl hm hd
end
def dh (f:Jb→Jb)(L:List Jb)(i:Nat):List Jb:=(L.take i).map f++L.drop i
section
variable {f : Jb → Jb}
theorem kG (L:List Jb)(i:Nat):(dh f L i).length=L.length:=by simp[dh];omega
theorem qH {L:List Jb}{i:Nat}(hi:i<L.length):(dh f L i).getD i default=L.getD i default:=by
 unfold dh;have:((L.take i).map f).length=i:=by simp;omega
 rw[List.getD,List.getElem?_append_right (by omega),this,Nat.sub_self,List.getElem?_drop,Nat.add_zero];rfl
theorem jO {L:List Jb}{i:Nat}(hi:i<L.length):(dh f L i).set i (f (L.getD i default))=dh f L (i+1):=by
 unfold dh;have hl:((L.take i).map f).length=i:=by simp;omega
 rw[List.set_append_right _ _ (by omega),hl,Nat.sub_self,List.drop_eq_getElem_cons hi,xB,List.take_succ_eq_append_getElem hi,List.map_append,List.append_assoc];simp[List.getD,hi]
theorem mZ {L:List Jb}{i:Nat}(hi:i<L.length)(h:f (L.getD i default)=L.getD i default):dh f L i=dh f L (i+1):=by
 rw[←jO hi,h];have:=qH (f:=f) hi;rw[List.getD,List.getElem?_eq_getElem (by rw[kG];exact hi),Option.getD_some]at this;rw[←this,List.set_getElem_self]
theorem oI (L:List Jb):dh f L L.length=L.map f:=by simp[dh]
end
section
variable {w w' : World} {p : Nat} {dv lv : Value} {M : Md}
theorem MB.over (hb:MB M)(t:Int):MB {M with L:=M.L.map (aV t)}:=by
 have H:∀{P:Jb→Prop},(∀j∈M.L,P j)→(∀x,P x→P (x.setSt 6))→∀x∈M.L.map (aV t),P x:=fun h hx x hj=>by
  obtain⟨y,hy,rfl⟩:=List.mem_map.1 hj;unfold aV;split
  ·exact hx _ (h y hy)
  ·exact h y hy
 exact⟨hb.nn,by show(M.L.map (aV t)).length≤1024;rw[List.length_map];exact hb.ll,hb.now,H hb.wid fun _ h=>h,H hb.lim fun _ h=>h,H hb.aW fun _ h=>h,H hb.fin fun _ h=>h,H hb.bY fun _ h=>h⟩
theorem MB.begin (hb:MB M)(i:Nat)(hi:i<M.L.length):MB (bG M i):=by
 have hm:M.L.getD i default∈M.L:=by simp[List.getD,hi]
 refine hb.set i _ (show 0≤(M.L.getD i default).wid∧(M.L.getD i default).wid≤64 from hb.wid _ hm) (show 0≤(M.L.getD i default).lim∧(M.L.getD i default).lim≤1048576 from hb.lim _ hm) (by show(-1:Int)≤-1∧(-1:Int)≤_;omega) ?_ ?_
 ·have h1:=hb.lim _ hm;have h2:=hb.now;show-1≤M.now+(M.L.getD i default).lim∧M.now+(M.L.getD i default).lim≤1099512676352;omega
 ·have h1:=(oH M (M.L.getD i default).wid M.dr.length).1;have h2:2^M.dr.length≤2^64:=Nat.pow_le_pow_right (by decide) hb.nn;show 0≤((jF M (M.L.getD i default).wid:Nat):Int)∧((jF M (M.L.getD i default).wid:Nat):Int)≤18446744073709551615;unfold jF;omega
theorem oJ {W:World}{b o k:Nat}{y:Jb}(hc:∀q u,(ag y)[q]? =some u→W.cell? ⟨b,o+q,none⟩=some u)(hk:k=10):Sem.run prog (loadCellsFrom ⟨b,o,none⟩ 0 k #[]) W=.ok (ag y).toArray W:=by
 refine run_loadCellsFrom_list prog W _ (ag y) k (by rw[hk];rfl) fun j u hj=>?_;rw[Go.WideShapes.add_plain];exact hc j u hj
theorem A9 (M:Md)(i:Nat):(bG M i).L.length=M.L.length:=by simp[bG]
theorem ru (L:List Jb)(now:Int)(i:Nat): -1≤eF L now i∧eF L now i<i:=by
 induction i with
 |zero=>simp[eF]
 |succ i ih=>
  unfold eF;split<;>omega
theorem L9 (h:MW w p dv lv M)(hb:MB M):Calls prog 159 #[.pointer (some ⟨p,0,none⟩)] w fun e w'=>e=.returned (.tuple #[])∧MW w' p dv lv (dA M)∧aB (ax p dv lv) w w':=by
 have hll:=hb.ll;obtain⟨n,hn⟩:=qaa (M.L.length);rw[←hn]at hll;obtain⟨T,hT⟩:=qaa (M.now);have hp0:Hid (∀k,ax p dv lv k→k<w.heap.size):=h.bF;obtain⟨ao,cap,hlv,hcap,Ha,hsome⟩:=bE h.js;rw[←hn]at hlv hcap hsome;subst hlv;replace hb:=qae hb;replace hn:=qae hn;replace hT:=qae hT;have hM0:=qae h;clear h;go_enter func159,ntmps159;go_wp2_with fail;go_loopw [2,3] (fun ii _ wr=>∃i:Nat,i≤n∧ii=.int .i64 i∧Hid (MW wr p dv (.slice ao n cap) {M with L:=dh (aV T) M.L i})∧Hid (aB (ax p dv (.slice ao n cap)) w wr)) (fun ii _ _=>n-(intOf ii).toNat)
 case atStart=>exact⟨0,Nat.zero_le _,rfl,hM0,aB.refl _ _⟩
 case round=>
  obtain⟨i,hi,rfl,iU,hof⟩:=hrel;have c2:=iU.out.read.c2;by_cases hlt:i<n
  ·have b2:(i:Int)<(n:Int):=by omega
   have b0:(0:Int)≤(i:Int):=by omega
   have wi:IntKind.i64.wrap ((i:Int)+1)=(i:Int)+1:=by rw[IntKind.wrap_i64];omega
   have fw:i<M.L.length:=by rw[←hn.out];exact hlt
   obtain⟨g,rfl⟩:=hsome (by omega);obtain⟨b5,qg,cap5,hv5,_,_,hb5,hc⟩:=iU.out.read.js.mr i (by show i<(dh (aV T) M.L i).length;rw[kG];exact fw);replace hv5:Value.slice (some ⟨g,0,none⟩) n cap=.slice (some ⟨b5,qg,none⟩) (dh (aV T) M.L i).length cap5:=hv5;rw[kG,←hn.out]at hv5;obtain⟨Jq,Jr⟩:g=b5∧qg=0:=by injection hv5 with h1 _ _;injection h1 with h1;injection h1 with h1 h2 _;exact⟨h1,h2.symm⟩
   subst Jq Jr;clear hv5;replace hc:∀q u,(ag ((dh (aV T) M.L i).getD i default))[q]? =some u→wr.cell? ⟨g,0+i*10+q,none⟩=some u:=hc;rw[qH fw]at hc;have hsz:w.heap.size≤wr.heap.size:=hof.out.size;have hsame:=fun h=>mZ (f:=aV T) fw h;have hset:=jO (f:=aV T) fw;generalize M.L.getD i default=y at*;obtain⟨x1,x2,x3,x4,x5,x6,x7,x8,x9,x0⟩:=y;have hov:aV T (x1,x2,x3,x4,x5,x6,x7,x8,x9,x0)=if x6=3∧x8=T then(x1,x2,x3,x4,x5,6,x7,x8,x9,x0)else(x1,x2,x3,x4,x5,x6,x7,x8,x9,x0):=rfl
   have e0:=hc 0 _ rfl;have e1:=hc 1 _ rfl;have e2:=hc 2 _ rfl;have e3:=hc 3 _ rfl;have e4:=hc 4 _ rfl;have e5:=hc 5 _ rfl;have e6:=hc 6 _ rfl;have e7:=hc 7 _ rfl;have e8:=hc 8 _ rfl;have e9:=hc 9 _ rfl;rw[Nat.add_zero]at e0;simp only[Nat.zero_add]at e0 e1 e2 e3 e4 e5 e6 e7 e8 e9;obtain⟨wn,hwn⟩:=qaa (wr.alloc (.cells #[.int .i64 x1,.int .i64 x2,.int .i64 x3,.int .i64 x4,.int .i64 x5,.int .i64 x6,.int .i64 x7,.int .i64 x8,.int .i64 x9,.int .u64 x0] 55));have hxa:Hid (wn.heap[wr.heap.size]? =some (.cells (ag (x1,x2,x3,x4,x5,x6,x7,x8,x9,x0)).toArray 55 (0,0))):=by show _=_;rw[hwn];exact heap_alloc_new wr _
   have hbn:Hid (Below wr.heap.size wr wn):=by show Below _ _ _;rw[hwn];exact qac.alloc (qaf _) _
   have EA:Hid (MW wn p dv (.slice (some ⟨g,0,none⟩) n cap) {M with L:=dh (aV T) M.L i}):=iU.out.kept hbn.out;have Fy:Hid (aB (ax p dv (.slice (some ⟨g,0,none⟩) n cap)) w wn):=hof.out.later hbn.out hsz;clear hc;go_wp2_with fail;rw[←hwn];replace hwn:=qae hwn;clear e0 e1 e2 e3 e4 e5 e6 e7 e8 e9 c2 iU hof;have n0:=EA.out.read.c0;replace n0:wn.cell? ⟨p,0,none⟩=some (.int .i64 T):=by rw[hT.out];exact n0
   have n5:wn.cell? ⟨wr.heap.size,5,none⟩=some (.int .i64 x6):=iN (x:=(x1,x2,x3,x4,x5,x6,x7,x8,x9,x0)) hxa.out 5 _ rfl;have n7:wn.cell? ⟨wr.heap.size,7,none⟩=some (.int .i64 x8):=iN (x:=(x1,x2,x3,x4,x5,x6,x7,x8,x9,x0)) hxa.out 7 _ rfl;replace hset:=qae hset;replace hsame:=qae hsame;by_cases h3:x6=3
   ·subst h3;by_cases h8:x8=T
    ·have t8:(x8 == T)=true:=by simp[h8]
     have YD:Hid (aV T (x1,x2,x3,x4,x5,3,x7,x8,x9,x0)=(x1,x2,x3,x4,x5,6,x7,x8,x9,x0)):=by show _=_;rw[hov,qaj ⟨rfl,h8⟩]
     clear hov h8;have f5:wn.frozen? ⟨wr.heap.size,5,none⟩=false:=kQ hxa.out 5;go_region;go_wp2_with fail;obtain⟨wB,cO⟩:=qaa ((wn.setCell ⟨wr.heap.size,5,none⟩ (.int .i64 6)).drew);have hbS:Below wr.heap.size wn wB:=by rw[cO];exact(Below.setCell (p:=⟨wr.heap.size,5,none⟩) qac (qaf _) _).drew
     have fD:Hid (wB.heap[wr.heap.size]? =some (.cells (ag (x1,x2,x3,x4,x5,6,x7,x8,x9,x0)).toArray 55 (0,0))):=by show _=_;rw[cO];exact heap_put (i:=5) hxa.out (.int .i64 6)
     have iO:Hid (MW wB p dv (.slice (some ⟨g,0,none⟩) n cap) {M with L:=dh (aV T) M.L i}):=EA.out.cK hbS (fun k hk=>Nat.lt_of_lt_of_le (hp0.out k hk) hsz);have gQ:Hid (aB (ax p dv (.slice (some ⟨g,0,none⟩) n cap)) w wB):=Fy.out.later hbS hsz;clear hbS;rw[←cO];replace cO:=qae cO;clear n0 n5 n7 f5 t8;have lX:=aA (x1,x2,x3,x4,x5,6,x7,x8,x9,x0);have zJ:=bC;obtain⟨k10,hk10⟩:∃k,k=10:=⟨_,rfl⟩;rw[←hk10]at lX zJ;replace hk10:=qae hk10;refine Reg2.ro wB 6 111 [.p 0,.p 1,.p 3,.m 7,.p 0,.m 0] [.slice (some ⟨g,0,none⟩) n cap,.agg (ag (x1,x2,x3,x4,x5,6,x7,x8,x9,x0)).toArray] (by kernel_rfl) (by kernel_rfl) rfl rfl ⟨rfl,rfl,rfl,qaf _,fun _ _=>rfl⟩ ?_;dsimp only[Reg2.fF]
     repeat((first
      |(refine' Reg2.ak _ (by rfl) (fun wz=>?_) ?_;rotate_left;(go_simp;first|rfl|rw[qai (by omega)]))
      |(refine Reg2.az (by rfl) (fun wz hI hF=>?_) (fun _=>?_)
        ·unfold Reg2.One;have d0:=(iO.out.kept hI).read.c2;have qY:=bJ ((hI.block _ (ai fD.out)).trans fD.out) lX;go_wp2_with fail
         first|exact⟨_,rfl,rfl,qad⟩|exact⟨_,rfl,⟨(),rfl,trivial⟩,qad⟩));simp only[Act.put,xA,xB,xC,xD,xE,id])
     refine Reg2.aD ?_;intro w7 dC _ gF;clear gF;dsimp only[List.drop];have vw:=iO.out.kept dC;obtain⟨w8,Ez,sV,yf⟩:=vw.put (m:=i) (by show i<(dh (aV T) M.L i).length;rw[kG];exact fw) (x1,x2,x3,x4,x5,6,x7,x8,x9,x0);have RX:Hid ((dh (aV T) M.L i).set i (x1,x2,x3,x4,x5,6,x7,x8,x9,x0)=dh (aV T) M.L (i+1)):=by show _=_;rw[←hset.out,YD.out]
     have Js:Hid (MW w8 p dv (.slice (some ⟨g,0,none⟩) n cap) {M with L:=dh (aV T) M.L (i+1)}):=by
      show MW _ _ _ _ _;rw[←RX.out];exact sV
     have sF:Hid (aB (ax p dv (.slice (some ⟨g,0,none⟩) n cap)) w w8):=(gQ.out.trans (aB.of_below (S:=ax p dv (.slice (some ⟨g,0,none⟩) n cap)) dC) (aY.refl _ _)).trans yf (aY.refl _ _);rw[←hk10.out]at Ez;clear vw sV yf dC;go_wp2_with fail;go_roundw
     case rel=>exact⟨i+1,by omega,by go_num,Js,sF⟩
     case measure=>simp[intOf];omega
    ·have t8:(x8 == T)=false:=by simp[h8]
     have hno:Hid (aV T (x1,x2,x3,x4,x5,3,x7,x8,x9,x0)=(x1,x2,x3,x4,x5,3,x7,x8,x9,x0)):=by show _=_;rw[hov,qai (by rintro⟨_,h⟩;exact h8 h)]
     clear hov;go_region;go_wp2_with fail;have Xn:Hid (MW wn.drew p dv (.slice (some ⟨g,0,none⟩) n cap) {M with L:=dh (aV T) M.L (i+1)}):=by rw[←hsame.out hno.out];exact EA.out.kept qac.drew
     have Sj:Hid (aB (ax p dv (.slice (some ⟨g,0,none⟩) n cap)) w wn.drew):=Fy.out.later (Below.refl w.heap.size _).drew (qaf _);go_roundw
     case rel=>exact⟨i+1,by omega,by go_num,Xn,Sj⟩
     case measure=>simp[intOf];omega
   ·have t3:(x6 == 3)=false:=by simp[h3]
    have hno:Hid (aV T (x1,x2,x3,x4,x5,x6,x7,x8,x9,x0)=(x1,x2,x3,x4,x5,x6,x7,x8,x9,x0)):=by show _=_;rw[hov,qai (by rintro⟨h,_⟩;exact h3 h)]
    clear hov;go_region;go_wp2_with fail;have Xn:Hid (MW wn.drew p dv (.slice (some ⟨g,0,none⟩) n cap) {M with L:=dh (aV T) M.L (i+1)}):=by rw[←hsame.out hno.out];exact EA.out.kept qac.drew
    have Sj:Hid (aB (ax p dv (.slice (some ⟨g,0,none⟩) n cap)) w wn.drew):=Fy.out.later (Below.refl w.heap.size _).drew (qaf _);go_roundw
    case rel=>exact⟨i+1,by omega,by go_num,Xn,Sj⟩
    case measure=>simp[intOf];omega
  ·obtain rfl:n=i:=by omega
   have b2:¬(n:Int)<(n:Int):=by omega
   have hst:Hid (startGo n {M with L:=dh (aV T) M.L n}=dA M):=by
    show _=_;unfold dA;rw[hn.out,oI,hT.out]
   have Xo:Hid (MB {M with L:=dh (aV T) M.L n}):=by
    show MB _;rw[hn.out,oI];exact hb.out.over T
   have hlo:(dh (aV T) M.L n).length=n:=by rw[kG];exact hn.out.symm
   obtain⟨M1,hM1⟩:∃M1:Md,M1={M with L:=dh (aV T) M.L n}:=⟨_,rfl⟩;have YE:M1.now=T:=by rw[hM1];exact hT.out.symm
   have YF:M1.L.length=n:=by rw[hM1];exact hlo
   rw[←hM1]at iU hst Xo;clear hM1 hlo hb hn hT hM0 hi;go_wp2_with fail;obtain⟨wl,rfl⟩:∃x,x=wr:=⟨_,rfl⟩;go_loopw [4,5,6] (fun kk _ _ wr=>∃(k:Nat) (N:Md),k≤n∧kk=.int .i64 k∧Hid (startGo (n-k) N=dA M)∧Hid (MB N)∧N.L.length=n∧N.now=T∧Hid (MW wr p dv (.slice ao n cap) N)∧Hid (aB (ax p dv (.slice ao n cap)) w wr)) (fun kk _ _ _=>n-(intOf kk).toNat)
   case atStart=>exact⟨0,M1,Nat.zero_le _,rfl,hst,Xo,YF,YE,iU,hof⟩
   case round=>
    clear hst Xo YE YF iU hof;obtain⟨k,N,hk,rfl,hst,hbN,Hg,JA,Xp,Sk⟩:=hrel;have c2:=Xp.out.read.c2;by_cases hlt:k<n
    ·have k2:(k:Int)<(n:Int):=by omega
     have k0:(0:Int)≤(k:Int):=by omega
     have wk:IntKind.i64.wrap ((k:Int)+1)=(k:Int)+1:=by rw[IntKind.wrap_i64];omega
     obtain⟨g,rfl⟩:=hsome (by omega);go_wp2_with fail;clear c2;obtain⟨wo,rfl⟩:∃x,x=wr:=⟨_,rfl⟩;replace Hg:=qae Hg;replace JA:=qae JA;go_loopw [5,6] (fun ff ii wr=>∃i:Nat,i≤n∧ff=.int .i64 (eF N.L T i)∧ii=.int .i64 i∧Hid (Below wo.heap.size wo wr)) (fun _ ii _=>n-(intOf ii).toNat)
     case atStart=>exact⟨0,Nat.zero_le _,rfl,rfl,Below.refl _ _⟩
     case round=>
      obtain⟨i,hi,rfl,rfl,hbr⟩:=hrel;have iU:=qae (Xp.out.kept hbr.out);have c2:=iU.out.read.c2;by_cases hlt2:i<n
      ·have b2:(i:Int)<(n:Int):=by omega
       have b0:(0:Int)≤(i:Int):=by omega
       have wi:IntKind.i64.wrap ((i:Int)+1)=(i:Int)+1:=by rw[IntKind.wrap_i64];omega
       obtain⟨k10,hk10⟩:∃k,k=10:=⟨_,rfl⟩;have zJ:=bC;rw[←hk10]at zJ;replace hk10:=qae hk10;have hrow:Hid (∀m:Nat,m<n→∀W,Below wr.heap.size wr W→∀q u,(ag (N.L.getD m default))[q]? =some u→W.cell? ⟨g,m*k10+q,none⟩=some u):=by
        intro m hm W hW q u hq;obtain⟨b5,qg,cap5,hv5,_,_,_,hc⟩:=(iU.out.kept hW).read.js.mr m (by rw[Hg.out];exact hm);injection hv5 with e1 _ _;injection e1 with e1;injection e1 with e1 e2 _;subst e1 e2;have:=hc q u hq;rw[Nat.zero_add]at this;rw[hk10.out];exact this
       have hF:=ru N.L T i;have vz:eF N.L T (i+1)=if ay (N.L.getD i default)=true∧(N.L.getD i default).aW=T∧(eF N.L T i<0∨bA (N.L.getD i default) (N.L.getD (eF N.L T i).toNat default)=true)then(i:Int)else eF N.L T i:=rfl
       have yg:=qae (hrow.out i hlt2);have hpl:=qae (fun W=>pF (N.L.getD i default) W);have hah:=qae (fun z W=>Ff (N.L.getD i default) z W);generalize N.L.getD i default=y at*;generalize PD:eF N.L T i=F at*;replace PD:=qae PD;generalize hqq:ay y=q at*;replace hqq:=qae hqq;go_wp2_with fail;clear c2;cases q
       ·rw[qai (by rintro⟨h,_⟩;cases h)]at vz;refine Reg2.ro wr 41 111 [.p 0,.p 1,.p 3,.m 7,.p 0,.p 31,.m 63,.m 127,.p 255,.p 511,.p 1023,.p 2047,.m 4095,.p 511,.p 16383,.p 32767,.m 65535,.p 511,.p 131583,.p 393727,.m 918015,.p 2097151,.p 4194303,.p 8388607,.p 16777215,.p 33554431,.p 67108863,.p 134217727,.p 268435455,.p 536870911,.m 1073741823,.p 134217727,.p 4294967295,.m 8589934591,.p 134217727,.p 17314086911,.p 51673825279,.m 120393302015,.p 134217727,.p 532710162431,.m 1082465976319] [.slice (some ⟨g,0,none⟩) n cap,.agg (ag y).toArray,.bool false,undef,undef,undef,undef,undef,undef,undef] (by kernel_rfl) (by kernel_rfl) rfl rfl ⟨rfl,rfl,rfl,qaf _,fun _ _=>rfl⟩ ?_;dsimp only[Reg2.fF]
        repeat((first
         |(refine' Reg2.ak _ (by rfl) (fun wz=>?_) ?_;rotate_left;(go_simp;first|rfl|rw[qai (by omega)]))
         |(refine Reg2.az (by rfl) (fun wz hI hF=>?_) (fun _=>?_)
           ·unfold Reg2.One;have d0:=(iU.out.kept hI).read.c2;have qY:=oJ (yg.out wz hI) hk10.out;go_wp2_with fail
            first|exact⟨_,rfl,rfl,qad⟩|exact⟨_,rfl,⟨(),rfl,trivial⟩,qad⟩));simp only[Act.put,xA,xB,xC,xD,xE,id])
        refine Reg2.pm (fun wz hI hF=>?_) (fun s7=>?_) (by rfl)
        ·have hp:=hpl.out wz;go_wp2_with fail;go_at_call 111;refine hp.mono ?_;clear hp;rintro e w5 ⟨rfl,hb5⟩;go_wp2_with fail
         first|exact⟨_,rfl,⟨(),rfl,trivial⟩,hb5⟩|exact⟨_,rfl,rfl,hb5⟩
        simp only[Act.put,xA,xB,xC,xD,xE,id]
        repeat((first
         |(refine' Reg2.ak _ (by rfl) (fun wz=>?_) ?_;rotate_left;(go_simp;first|rfl|rw[qai (by omega)]))
         |refine Reg2.oG (by rfl) ?_
         |refine Reg2.iZ (by rfl) ?_);simp only[Act.put,xA,xB,xC,xD,xE,id])
        refine Reg2.aD ?_;intro w7 dC _ gF;clear gF;dsimp only[List.drop];have iH:Hid (Below wo.heap.size wo w7):=hbr.out.trans (dC.mono hbr.out.size);clear dC;go_wp2_with fail;go_roundw
        case rel=>exact⟨i+1,by omega,by rw[vz],by go_num,iH⟩
        case measure=>simp[intOf];omega
       ·by_cases Ma:y.aW=T
        ·have tp:(y.aW == T)=true:=by simp[Ma]
         replace Ma:=qae Ma;by_cases hf:F<0
         ·have dF:decide (F<0)=true:=qag hf;rw[qaj ⟨rfl,Ma.out,.inl hf⟩]at vz;refine Reg2.ro wr 41 111 [.p 0,.p 1,.p 3,.m 7,.p 0,.p 31,.m 63,.m 127,.p 255,.p 511,.p 1023,.p 2047,.m 4095,.p 511,.p 16383,.p 32767,.m 65535,.p 511,.p 131583,.p 393727,.m 918015,.p 2097151,.p 4194303,.p 8388607,.p 16777215,.p 33554431,.p 67108863,.p 134217727,.p 268435455,.p 536870911,.m 1073741823,.p 134217727,.p 4294967295,.m 8589934591,.p 134217727,.p 17314086911,.p 51673825279,.m 120393302015,.p 134217727,.p 532710162431,.m 1082465976319] [.slice (some ⟨g,0,none⟩) n cap,.agg (ag y).toArray,.bool true,.slice (some ⟨g,0,none⟩) n cap,.int .i64 y.aW,.int .i64 T,undef,undef,undef,undef] (by kernel_rfl) (by kernel_rfl) rfl rfl ⟨rfl,rfl,rfl,qaf _,fun _ _=>rfl⟩ ?_;dsimp only[Reg2.fF]
          repeat((first
           |(refine' Reg2.ak _ (by rfl) (fun wz=>?_) ?_;rotate_left;(go_simp;first|rfl|rw[qai (by omega)]))
           |(refine Reg2.az (by rfl) (fun wz hI hF=>?_) (fun _=>?_)
             ·unfold Reg2.One;have d0:=(iU.out.kept hI).read.c2;have qY:=oJ (yg.out wz hI) hk10.out;go_wp2_with fail
              first|exact⟨_,rfl,rfl,qad⟩|exact⟨_,rfl,⟨(),rfl,trivial⟩,qad⟩));simp only[Act.put,xA,xB,xC,xD,xE,id])
          refine Reg2.pm (fun wz hI hF=>?_) (fun s7=>?_) (by rfl)
          ·have hp:=hpl.out wz;go_wp2_with fail;go_at_call 111;refine hp.mono ?_;clear hp;rintro e w5 ⟨rfl,hb5⟩;go_wp2_with fail
           first|exact⟨_,rfl,⟨(),rfl,trivial⟩,hb5⟩|exact⟨_,rfl,rfl,hb5⟩
          simp only[Act.put,xA,xB,xC,xD,xE,id]
          repeat((first
           |(refine' Reg2.ak _ (by rfl) (fun wz=>?_) ?_;rotate_left;(go_simp;first|rfl|rw[qai (by omega)]))
           |refine Reg2.oG (by rfl) ?_
           |refine Reg2.iZ (by rfl) ?_
           |(refine Reg2.az (by rfl) (fun wz hI hF=>?_) (fun _=>?_)
             ·unfold Reg2.One;have d0:=(iU.out.kept hI).read.c2;have qY:=yg.out wz hI 8 _ rfl;have tO:=(iU.out.kept hI).read.c0;rw[JA.out]at tO;go_wp2_with fail
              first|exact⟨_,rfl,rfl,qad⟩|exact⟨_,rfl,⟨(),rfl,trivial⟩,qad⟩));simp only[Act.put,xA,xB,xC,xD,xE,id])
          refine Reg2.aD ?_;intro w7 dC _ gF;clear gF;dsimp only[List.drop];have iH:Hid (Below wo.heap.size wo w7):=hbr.out.trans (dC.mono hbr.out.size);clear dC;go_wp2_with fail;go_roundw
          case rel=>exact⟨i+1,by omega,by rw[vz],by go_num,iH⟩
          case measure=>simp[intOf];omega
         ·obtain⟨f,rfl⟩:∃f:Nat,F=(f:Int):=⟨F.toNat,by omega⟩;have dF:decide ((f:Int)<0)=false:=qah hf;have f0:(0:Int)≤(f:Int):=by omega
          have fn:(f:Int)<(n:Int):=by omega
          have hrz:=qae (hrow.out f (by omega));simp only[Int.toNat_natCast]at vz;generalize N.L.getD f default=z at*;have ha1:=qae (fun W=>hah.out z W);clear hah;generalize haq:bA y z=r at*;replace haq:=qae haq;have hFn:Hid (r=false→eF N.L T (i+1)=(f:Int)):=by
           intro h;rw[vz,h,qai (by rintro⟨_,_,h|h⟩;exact hf h;cases h)]
          have hFy:Hid (r=true→eF N.L T (i+1)=(i:Int)):=by
           intro h;rw[vz,h,qaj ⟨by trivial,Ma.out,.inr rfl⟩]
          clear vz;refine Reg2.ro wr 41 111 [.p 0,.p 1,.p 3,.m 7,.p 0,.p 31,.m 63,.m 127,.p 255,.p 511,.p 1023,.p 2047,.m 4095,.p 511,.p 16383,.p 32767,.m 65535,.p 511,.p 131583,.p 393727,.m 918015,.p 2097151,.p 4194303,.p 8388607,.p 16777215,.p 33554431,.p 67108863,.p 134217727,.p 268435455,.p 536870911,.m 1073741823,.p 134217727,.p 4294967295,.m 8589934591,.p 134217727,.p 17314086911,.p 51673825279,.m 120393302015,.p 134217727,.p 532710162431,.m 1082465976319] [.slice (some ⟨g,0,none⟩) n cap,.agg (ag y).toArray,.bool true,.slice (some ⟨g,0,none⟩) n cap,.int .i64 y.aW,.int .i64 T,.slice (some ⟨g,0,none⟩) n cap,.agg (ag y).toArray,.slice (some ⟨g,0,none⟩) n cap,.agg (ag z).toArray] (by kernel_rfl) (by kernel_rfl) rfl rfl ⟨rfl,rfl,rfl,qaf _,fun _ _=>rfl⟩ ?_;dsimp only[Reg2.fF]
          repeat((first
           |(refine' Reg2.ak _ (by rfl) (fun wz=>?_) ?_;rotate_left;(go_simp;first|rfl|rw[qai (by omega)]))
           |(refine Reg2.az (by rfl) (fun wz hI hF=>?_) (fun _=>?_)
             ·unfold Reg2.One;have d0:=(iU.out.kept hI).read.c2;have qY:=oJ (yg.out wz hI) hk10.out;go_wp2_with fail
              first|exact⟨_,rfl,rfl,qad⟩|exact⟨_,rfl,⟨(),rfl,trivial⟩,qad⟩));simp only[Act.put,xA,xB,xC,xD,xE,id])
          refine Reg2.pm (fun wz hI hF=>?_) (fun s7=>?_) (by rfl)
          ·have hp:=hpl.out wz;go_wp2_with fail;go_at_call 111;refine hp.mono ?_;clear hp;rintro e w5 ⟨rfl,hb5⟩;go_wp2_with fail
           first|exact⟨_,rfl,⟨(),rfl,trivial⟩,hb5⟩|exact⟨_,rfl,rfl,hb5⟩
          simp only[Act.put,xA,xB,xC,xD,xE,id]
          repeat((first
           |(refine' Reg2.ak _ (by rfl) (fun wz=>?_) ?_;rotate_left;(go_simp;first|rfl|rw[qai (by omega)]))
           |(refine Reg2.az (by rfl) (fun wz hI hF=>?_) (fun _=>?_)
             ·unfold Reg2.One;have d0:=(iU.out.kept hI).read.c2;have qY:=yg.out wz hI 8 _ rfl;have tO:=(iU.out.kept hI).read.c0;rw[JA.out]at tO;have Wq:=oJ (yg.out wz hI) hk10.out;have aan:=oJ (hrz.out wz hI) hk10.out;go_wp2_with fail
              first|exact⟨_,rfl,rfl,qad⟩|exact⟨_,rfl,⟨(),rfl,trivial⟩,qad⟩));simp only[Act.put,xA,xB,xC,xD,xE,id])
          refine Reg2.aD ?_;intro w7 dC _ gF;clear gF;dsimp only[List.drop];have iH:Hid (Below wo.heap.size wo w7):=hbr.out.trans (dC.mono hbr.out.size);clear dC;have ha2:=ha1.out w7;go_wp2_with fail;go_at_call 198;refine ha2.mono ?_;clear ha2 ha1;rintro e w8 ⟨rfl,kN⟩;replace iH:Hid (Below wo.heap.size wo w8):=iH.out.trans (kN.mono iH.out.size);clear kN;cases r
          ·have vz:=qae (hFn.out rfl);go_wp2_with fail;replace vz:=vz.out;go_roundw
           case rel=>exact⟨i+1,by omega,by rw[vz],by go_num,iH⟩
           case measure=>simp[intOf];omega
          ·have vz:=qae (hFy.out rfl);go_wp2_with fail;replace vz:=vz.out;go_roundw
           case rel=>exact⟨i+1,by omega,by rw[vz],by go_num,iH⟩
           case measure=>simp[intOf];omega
        ·have tp:(y.aW == T)=false:=by simp[Ma]
         rw[qai (by rintro⟨_,h,_⟩;exact Ma h)]at vz;refine Reg2.ro wr 41 111 [.p 0,.p 1,.p 3,.m 7,.p 0,.p 31,.m 63,.m 127,.p 255,.p 511,.p 1023,.p 2047,.m 4095,.p 511,.p 16383,.p 32767,.m 65535,.p 511,.p 131583,.p 393727,.m 918015,.p 2097151,.p 4194303,.p 8388607,.p 16777215,.p 33554431,.p 67108863,.p 134217727,.p 268435455,.p 536870911,.m 1073741823,.p 134217727,.p 4294967295,.m 8589934591,.p 134217727,.p 17314086911,.p 51673825279,.m 120393302015,.p 134217727,.p 532710162431,.m 1082465976319] [.slice (some ⟨g,0,none⟩) n cap,.agg (ag y).toArray,.bool true,.slice (some ⟨g,0,none⟩) n cap,.int .i64 y.aW,.int .i64 T,undef,undef,undef,undef] (by kernel_rfl) (by kernel_rfl) rfl rfl ⟨rfl,rfl,rfl,qaf _,fun _ _=>rfl⟩ ?_;dsimp only[Reg2.fF]
         repeat((first
          |(refine' Reg2.ak _ (by rfl) (fun wz=>?_) ?_;rotate_left;(go_simp;first|rfl|rw[qai (by omega)]))
          |(refine Reg2.az (by rfl) (fun wz hI hF=>?_) (fun _=>?_)
            ·unfold Reg2.One;have d0:=(iU.out.kept hI).read.c2;have qY:=oJ (yg.out wz hI) hk10.out;go_wp2_with fail
             first|exact⟨_,rfl,rfl,qad⟩|exact⟨_,rfl,⟨(),rfl,trivial⟩,qad⟩));simp only[Act.put,xA,xB,xC,xD,xE,id])
         refine Reg2.pm (fun wz hI hF=>?_) (fun s7=>?_) (by rfl)
         ·have hp:=hpl.out wz;go_wp2_with fail;go_at_call 111;refine hp.mono ?_;clear hp;rintro e w5 ⟨rfl,hb5⟩;go_wp2_with fail
          first|exact⟨_,rfl,⟨(),rfl,trivial⟩,hb5⟩|exact⟨_,rfl,rfl,hb5⟩
         simp only[Act.put,xA,xB,xC,xD,xE,id]
         repeat((first
          |(refine' Reg2.ak _ (by rfl) (fun wz=>?_) ?_;rotate_left;(go_simp;first|rfl|rw[qai (by omega)]))
          |refine Reg2.oG (by rfl) ?_
          |refine Reg2.iZ (by rfl) ?_
          |(refine Reg2.az (by rfl) (fun wz hI hF=>?_) (fun _=>?_)
            ·unfold Reg2.One;have d0:=(iU.out.kept hI).read.c2;have qY:=yg.out wz hI 8 _ rfl;have tO:=(iU.out.kept hI).read.c0;rw[JA.out]at tO;go_wp2_with fail
             first|exact⟨_,rfl,rfl,qad⟩|exact⟨_,rfl,⟨(),rfl,trivial⟩,qad⟩));simp only[Act.put,xA,xB,xC,xD,xE,id])
         refine Reg2.aD ?_;intro w7 dC _ gF;clear gF;dsimp only[List.drop];have iH:Hid (Below wo.heap.size wo w7):=hbr.out.trans (dC.mono hbr.out.size);clear dC;go_wp2_with fail;go_roundw
         case rel=>exact⟨i+1,by omega,by rw[vz],by go_num,iH⟩
         case measure=>simp[intOf];omega
      ·obtain rfl:n=i:=by omega
       have b2:¬(n:Int)<(n:Int):=by omega
       have YG:firstM N=eF N.L T n:=by unfold firstM;rw[Hg.out,JA.out]
       have hF:=ru N.L T n;obtain⟨F,PD⟩:=qaa (eF N.L T n);rw[←PD]at hF YG⊢;replace PD:=qae PD;have Ws:Hid (aB (ax p dv (.slice (some ⟨g,0,none⟩) n cap)) w wr):=Sk.out.later hbr.out Sk.out.size;have hsg:startGo (n-k) N=if 0≤F then startGo (n-(k+1)) (bG N F.toNat)else startGo (n-(k+1)) N:=by
        rw[show n-k=(n-(k+1))+1 by omega,←YG];rfl
       by_cases hf:0≤F
       ·obtain⟨f,rfl⟩:∃f:Nat,F=(f:Int):=⟨F.toNat,by omega⟩;have f0:(0:Int)≤(f:Int):=by omega
        have hfl:f<N.L.length:=by rw[Hg.out];omega
        have hbe:=Fx iU.out hbN.out f hfl;rw[qaj hf,Int.toNat_natCast]at hsg;have YH:=qae (hbN.out.begin f hfl);replace hsg:=qae hsg;go_wp2_with fail;go_at_call 90;refine hbe.mono ?_;clear hbe;rintro e w9 ⟨rfl,jT,of9⟩;have tX:Hid (aB (ax p dv (.slice (some ⟨g,0,none⟩) n cap)) w w9):=Ws.out.trans of9 (aY.refl _ _);replace jT:=qae jT;go_wp2_with fail;go_roundw
        case rel=>exact⟨k+1,bG N f,by omega,by go_num,qae (hsg.out.symm.trans hst.out),YH,by rw[A9];exact Hg.out,JA.out,jT,tX⟩
        case measure=>simp[intOf];omega
       ·have dF:decide (F≥0)=false:=qah hf;rw[qai hf]at hsg;replace hsg:=qae hsg;go_wp2_with fail;go_roundw
        case rel=>exact⟨k+1,N,by omega,by go_num,qae (hsg.out.symm.trans hst.out),hbN,Hg.out,JA.out,iU,Ws⟩
        case measure=>simp[intOf];omega
    ·obtain rfl:n=k:=by omega
     have b3:¬(n:Int)<(n:Int):=by omega
     have hsN:N=dA M:=by
      have:=hst.out;rw[Nat.sub_self]at this;exact this
     subst hsN;go_wp2_with fail;refine bodyPost_end (results_none rfl _ _ _) rfl ?_;exact⟨rfl,Xp.out,Sk.out⟩
end
section
variable {w w' : World} {p : Nat} {dv lv : Value} {M : Md}
theorem xL (n:Nat)(hb:MB M):MB (startGo n M)∧(startGo n M).L.length=M.L.length∧(startGo n M).now=M.now∧(startGo n M).dr=M.dr∧(startGo n M).cl=M.cl:=by
 induction n generalizing M with
 |zero=>exact⟨hb,rfl,rfl,rfl,rfl⟩
 |succ n ih=>
  unfold startGo;split
  ·rename_i h
   have hr:=ru M.L M.now M.L.length;have hf:(firstM M).toNat<M.L.length:=by unfold firstM at h⊢;omega
   obtain⟨h1,h2,h3,h4,h5⟩:=ih (hb.begin _ hf);exact⟨h1,by rw[h2,A9],h3,h4,h5⟩
  ·exact ih hb
theorem nM (hb:MB M):MB (dA M)∧(dA M).L.length=M.L.length∧(dA M).now=M.now∧(dA M).dr=M.dr∧(dA M).cl=M.cl:=by
 obtain⟨h1,h2,h3,h4,h5⟩:=xL M.L.length (hb.over M.now);exact⟨h1,by show(startGo _ _).L.length=_;rw[h2];simp,h3,h4,h5⟩
theorem MB.at (hb:MB M)(t:Int)(h0:0≤t)(h1:t≤1099511627776):MB {M with now:=t}:=⟨hb.nn,hb.ll,⟨h0,h1⟩,hb.wid,hb.lim,hb.aW,hb.fin,hb.bY⟩
theorem ze (to:Int)(n:Nat)(hb:MB M)(h1:to≤1099511627776):MB (dL to n M)∧(dL to n M).L.length=M.L.length∧(dL to n M).dr=M.dr∧(dL to n M).cl=M.cl:=by
 induction n generalizing M with
 |zero=>exact⟨hb,rfl,rfl,rfl⟩
 |succ n ih=>
  unfold dL;split
  ·exact⟨hb,rfl,rfl,rfl⟩
  ·rename_i h
   obtain⟨k1,k2,k3,k4,k5⟩:=nM (hb.at (bu M) (by omega) (by omega));obtain⟨j1,j2,j3,j4⟩:=ih k1;exact⟨j1,by rw[j2,k2],by rw[j3,k4],by rw[j4,k5]⟩
theorem MW.OD (h:MW w p dv lv M)(t:Int):w.cell? ⟨p,0,none⟩=some (.int .i64 M.now)∧w.frozen? ⟨p,0,none⟩=false∧MW (w.setCell ⟨p,0,none⟩ (.int .i64 t)) p dv lv {M with now:=t}∧aB (ax p dv lv) w (w.setCell ⟨p,0,none⟩ (.int .i64 t)):=by
 refine⟨h.read.c0,by simp[World.frozen?,h.cell],⟨heap_put (i:=0) h.cell _,jE h.dr fun k hk=>Below.heap_setCell _ _ _ _ (h.G6 hk),jE h.js fun k hk=>Below.heap_setCell _ _ _ _ (h.xZ hk).1⟩,⟨rfl,rfl,rfl,by simp[World.setCell],fun k hk hn=>Below.heap_setCell _ _ _ _ fun e=>hn (.inl e)⟩⟩
theorem Sl (h:MW w p dv lv M)(hb:MB M)(y:Int)(hy: -9223372036854775808≤y∧y≤9223372036854775807)(hn:y<1∨1099511627776-M.now<y):Calls prog 95 #[.pointer (some ⟨p,0,none⟩),.int .i64 y] w (iJ w p dv lv (dB 10,M)):=by
 obtain⟨wA,aj⟩:=qaa (w.alloc (.cells #[.int .i64 0,.int .i64 0,.int .i64 0,.int .i64 0,.int .i64 0,.int .i64 0,.int .i64 0,.int .i64 0,.int .i64 0] 67));have aC:Below w.heap.size w wA:=by rw[aj];exact qac.alloc (qaf _) _
 have hsA:wA.heap.size=w.heap.size+1:=by rw[aj];simp
 have aH:aG wA w.heap.size aQ:=by rw[aj];exact heap_alloc_new w _
 have aP:=h.kept aC;have hp0:Hid (∀k,ax p dv lv k→k<w.heap.size):=h.bF;obtain⟨T,hT⟩:=qaa (M.now);have fK:=hb.now;have c0:=aP.read.c0;rw[←hT]at c0 hn fK;rw[aj]at c0;obtain⟨w3,hw3⟩:=qaa (w.alloc (.cells #[.int .i64 10,.int .i64 0,.int .i64 0,.int .i64 0,.int .i64 0,.int .i64 0,.int .i64 0,.int .i64 0,.int .i64 0] 67));have hb3:Hid (Below w.heap.size w w3):=by show Below _ _ _;rw[hw3];exact qac.alloc (qaf _) _
 have gz:aG w3 w.heap.size (dB 10):=by rw[hw3];exact heap_alloc_new w _
 have eZ:MW w3 p dv lv M:=h.kept hb3.out;clear aP aC;replace hT:=qae hT;clear h hb aH aj;have wT:IntKind.i64.wrap (1099511627776-T)=1099511627776-T:=by rw[IntKind.wrap_i64];omega
 by_cases h1:y<1
 ·have d1:decide (y<1)=true:=qag h1;clear hn;go_enter func95,ntmps95;go_wp2_with fail;rw[←hw3];replace hw3:=qae hw3;have hof:aB (ax p dv lv) w w3:=aB.of_below (S:=ax p dv lv) hb3.out;refine aO rfl rfl rfl gz underlying67 rfl (by kernel_rfl) ⟨rfl,⟨lv,eZ,aY.refl _ _⟩,hof⟩
 ·have d1:decide (y<1)=false:=qah h1;have d2:decide (y>1099511627776-T)=true:=qag (by omega);clear hn h1;go_enter func95,ntmps95;go_wp2_with fail;rw[←hw3];replace hw3:=qae hw3;have hof:aB (ax p dv lv) w w3:=aB.of_below (S:=ax p dv lv) hb3.out;refine aO rfl rfl rfl gz underlying67 rfl (by kernel_rfl) ⟨rfl,⟨lv,eZ,aY.refl _ _⟩,hof⟩
theorem PE (h:MW w p dv lv M)(hb:MB M)(y:Int)(hy: -9223372036854775808≤y∧y≤9223372036854775807)(hn:¬(y<1∨1099511627776-M.now<y)):Calls prog 95 #[.pointer (some ⟨p,0,none⟩),.int .i64 y] w (iJ w p dv lv ((0,0,0,M.now+y,0,0,aF (nG M (M.now+y)) (M.now+y) 0,0,0),nG M (M.now+y))):=by
 obtain⟨wA,aj⟩:=qaa (w.alloc (.cells #[.int .i64 0,.int .i64 0,.int .i64 0,.int .i64 0,.int .i64 0,.int .i64 0,.int .i64 0,.int .i64 0,.int .i64 0] 67));have aC:Below w.heap.size w wA:=by rw[aj];exact qac.alloc (qaf _) _
 have hsA:wA.heap.size=w.heap.size+1:=by rw[aj];simp
 have aH:aG wA w.heap.size aQ:=by rw[aj];exact heap_alloc_new w _
 have aP:=h.kept aC;have hp0:Hid (∀k,ax p dv lv k→k<w.heap.size):=h.bF;obtain⟨T,hT⟩:=qaa (M.now);have fK:=hb.now;have c0:=aP.read.c0;rw[←hT]at c0 hn fK;have y1:¬y<1:=fun h=>hn (.inl h);have y2:¬1099511627776-T<y:=fun h=>hn (.inr h);have wT:IntKind.i64.wrap (1099511627776-T)=1099511627776-T:=by rw[IntKind.wrap_i64];omega
 obtain⟨to,hto⟩:=qaa (T+y);have YI:IntKind.i64.wrap (T+y)=to:=by rw[IntKind.wrap_i64];omega
 have d1:decide (y<1)=false:=qah y1;have d2:decide (y>1099511627776-T)=false:=qah (by omega);have to1:to≤1099511627776:=by omega
 have to0:0≤to:=by omega
 have hll:=hb.ll;obtain⟨n,hn2⟩:=qaa (M.L.length);obtain⟨ao,cap,hlv,hcap,Ha,hsome⟩:=bE h.js;rw[←hn2]at hlv hcap hsome hll;subst hlv;obtain⟨R,hR0⟩:=qaa (dL to (2*n+1) M);have hRR:Hid ({R with now:=to}=nG M to):=by show _=_;rw[hR0,hn2];rfl
 have hbR:Hid (MB R):=by show MB R;rw[hR0];exact(ze to _ hb to1).1
 rw[←hT,←hto];have YJ:Hid (aB (ax p dv (.slice ao n cap)) w wA):=aB.of_below aC;rw[aj]at c0;replace aP:=qae aP;replace aH:=qae aH;replace hb:=qae hb;replace hT:=qae hT;replace hn2:=qae hn2;replace hR0:=qae hR0;clear h hn aC hsome y2;go_enter func95,ntmps95;go_wp2_with fail;rw[←aj];rw[←hto];replace aj:=qae aj;replace hto:=qae hto;clear c0;go_loopw [6,7] (fun nn _ wr=>∃(k:Nat) (N:Md),k≤2*n+1∧nn=.int .i64 k∧Hid (dL to (2*n+1-k) N=R)∧Hid (MB N)∧Hid (N.L.length=n)∧Hid (MW wr p dv (.slice ao n cap) N)∧Hid (aB (ax p dv (.slice ao n cap)) w wr)∧Hid (aG wr w.heap.size aQ)) (fun nn _ _=>2*n+1-(intOf nn).toNat)
 case atStart=>exact⟨0,M,Nat.zero_le _,rfl,hR0.out.symm,hb,hn2.out.symm,aP,YJ,aH⟩
 case round=>
  obtain⟨k,N,hk,rfl,hgo,hbN,Hg,iU,hof,hRr⟩:=hrel;have c2:=iU.out.read.c2;by_cases hlt:k<2*n+1
  ·have k2:(k:Int)≤2*(n:Int):=by omega
   have k0:(0:Int)≤(k:Int):=by omega
   have wn2:IntKind.i64.wrap (2*(n:Int))=2*(n:Int):=by rw[IntKind.wrap_i64];omega
   have wk:IntKind.i64.wrap ((k:Int)+1)=(k:Int)+1:=by rw[IntKind.wrap_i64];omega
   have hnx:=RZ iU.out.read hbN.out;have hg1:dL to (2*n+1-k) N=if bu N<0∨to<bu N then N else dL to (2*n+1-(k+1)) (dA {N with now:=bu N}):=by
    rw[show 2*n+1-k=(2*n+1-(k+1))+1 by omega];rfl
   have Vn:=fun h0 h1=>hbN.out.at (bu N) h0 h1;generalize bu N=t at*;go_wp2_with fail;go_at_call 158;refine hnx.mono ?_;clear hnx c2;rintro e wx ⟨rfl,hbx⟩;have Sn:Hid (MW wx p dv (.slice ao n cap) N):=iU.out.kept hbx;have JB:Hid (aB (ax p dv (.slice ao n cap)) w wx):=hof.out.later hbx hof.out.size;have Sq:Hid (aG wx w.heap.size aQ):=(hbx.block _ (ai hRr.out)).trans hRr.out;clear hbx;by_cases t0:t<0
   ·have e0:decide (t<0)=true:=qag t0;rw[qaj (.inl t0)]at hg1;have Su:R=N:=(hg1.symm.trans hgo.out).symm;subst Su;clear Vn hg1;obtain⟨pc,pf,pM,pO⟩:=Sn.out.OD to;obtain⟨wC,eO⟩:=qaa (wx.setCell ⟨p,0,none⟩ (.int .i64 to));have mJ:Hid (MW wC p dv (.slice ao n cap) {R with now:=to}):=by show MW _ _ _ _ _;rw[eO];exact pM
    have jX:Hid (aB (ax p dv (.slice ao n cap)) w wC):=by show aB _ _ _;rw[eO];exact JB.out.trans pO (aY.refl _ _)
    have jv:Hid (aG wC w.heap.size aQ):=by show _=_;rw[eO];exact(Below.heap_setCell _ _ _ _ (Nat.ne_of_gt (hp0.out p (.inl rfl)))).trans Sq.out
    have hmb:=qae (hbR.out.at to (by omega) (by omega));obtain⟨F,uz⟩:∃F,F=aF {R with now:=to} to 0:=⟨_,rfl⟩;replace uz:=qae uz;clear pM pO;go_wp2_with fail;rw[←eO];replace eO:=qae eO;clear pc pf;refine Reg2.ro wC 10 66 [.p 0,.p 1,.p 3,.m 7,.p 0,.p 0,.p 32,.p 96,.m 224,.m 496] [.int .i64 to,.int .i64 to,.int .i64 F] (by kernel_rfl) (by kernel_rfl) rfl rfl ⟨rfl,rfl,rfl,qaf _,fun _ _=>rfl⟩ ?_;dsimp only[Reg2.fF]
    repeat((first
     |(refine' Reg2.ak _ (by rfl) (fun wz=>?_) ?_;rotate_left;(go_simp;first|rfl|rw[qai (by omega)]))
     |(refine Reg2.az (by rfl) (fun wz hI hF=>?_) (fun _=>?_)
       ·unfold Reg2.One;have d0:=(mJ.out.kept hI).read.c0;replace d0:wz.cell? ⟨p,0,none⟩=some (.int .i64 to):=d0;go_wp2_with fail
        first|exact⟨_,rfl,rfl,qad⟩|exact⟨_,rfl,⟨(),rfl,trivial⟩,qad⟩));simp only[Act.put,xA,xB,xC,xD,xE,id])
    refine Reg2.pm (fun wz hI hF=>?_) (fun s9=>?_) (by rfl)
    ·have hst:=qV (mJ.out.kept hI).read hmb.out to 0;rw[←uz.out]at hst;go_wp2_with fail;go_at_call 97;refine hst.mono ?_;clear hst;rintro e w5 ⟨rfl,hb5⟩;go_wp2_with fail
     first|exact⟨_,rfl,⟨(),rfl,trivial⟩,hb5⟩|exact⟨_,rfl,rfl,hb5⟩
    simp only[Act.put,xA,xB,xC,xD,xE,id];refine Reg2.aD ?_;intro w9 eu _ p9;clear p9 s9;dsimp only[List.drop];have jT:Hid (MW w9 p dv (.slice ao n cap) {R with now:=to}):=mJ.out.kept eu;have tX:Hid (aB (ax p dv (.slice ao n cap)) w w9):=jX.out.later eu (by have:=jX.out.size;omega);have bK:aG w9 w.heap.size aQ:=(eu.block _ (ai jv.out)).trans jv.out;have a0:=bK.at 0 (.int .i64 0) rfl;have f0:=bK.free 0;have a1:=bK.at 1 (.int .i64 0) rfl;have f1:=bK.free 1;have a2:=bK.at 2 (.int .i64 0) rfl;have f2:=bK.free 2;have a3:=bK.at 3 (.int .i64 0) rfl;have f3:=bK.free 3;have a4:=bK.at 4 (.int .i64 0) rfl;have f4:=bK.free 4;have a5:=bK.at 5 (.int .i64 0) rfl;have f5:=bK.free 5;have a6:=bK.at 6 (.int .i64 0) rfl;have f6:=bK.free 6;have a7:=bK.at 7 (.int .i64 0) rfl;have f7:=bK.free 7;have a8:=bK.at 8 (.int .i64 0) rfl;have f8:=bK.free 8;obtain⟨w3,hw3,hb3,gz⟩:=tT bK 0 0 0 to 0 0 F 0 0;replace hb3:=qae hb3;clear eu bK;go_wp2_with fail;rw[←hw3];replace hw3:=qae hw3;have eZ:MW w3 p dv (.slice ao n cap) {R with now:=to}:=jT.out.cK hb3.out (fun k hk=>hp0.out k hk);have hof:aB (ax p dv (.slice ao n cap)) w w3:=tX.out.later hb3.out (qaf _);refine aO rfl rfl rfl gz underlying67 rfl (by kernel_rfl) ⟨by rw[uz.out,hRR.out],⟨_,by rw[←hRR.out];exact eZ,aY.refl _ _⟩,hof⟩
   ·have e0:decide (t<0)=false:=qah t0;by_cases t1:to<t
    ·have e1:decide (t>to)=true:=qag t1;rw[qaj (.inr t1)]at hg1;have Su:R=N:=(hg1.symm.trans hgo.out).symm;subst Su;clear Vn hg1;obtain⟨pc,pf,pM,pO⟩:=Sn.out.OD to;obtain⟨wC,eO⟩:=qaa (wx.setCell ⟨p,0,none⟩ (.int .i64 to));have mJ:Hid (MW wC p dv (.slice ao n cap) {R with now:=to}):=by show MW _ _ _ _ _;rw[eO];exact pM
     have jX:Hid (aB (ax p dv (.slice ao n cap)) w wC):=by show aB _ _ _;rw[eO];exact JB.out.trans pO (aY.refl _ _)
     have jv:Hid (aG wC w.heap.size aQ):=by show _=_;rw[eO];exact(Below.heap_setCell _ _ _ _ (Nat.ne_of_gt (hp0.out p (.inl rfl)))).trans Sq.out
     have hmb:=qae (hbR.out.at to (by omega) (by omega));obtain⟨F,uz⟩:∃F,F=aF {R with now:=to} to 0:=⟨_,rfl⟩;replace uz:=qae uz;clear pM pO;go_wp2_with fail;rw[←eO];replace eO:=qae eO;clear pc pf;refine Reg2.ro wC 10 66 [.p 0,.p 1,.p 3,.m 7,.p 0,.p 0,.p 32,.p 96,.m 224,.m 496] [.int .i64 to,.int .i64 to,.int .i64 F] (by kernel_rfl) (by kernel_rfl) rfl rfl ⟨rfl,rfl,rfl,qaf _,fun _ _=>rfl⟩ ?_;dsimp only[Reg2.fF]
     repeat((first
      |(refine' Reg2.ak _ (by rfl) (fun wz=>?_) ?_;rotate_left;(go_simp;first|rfl|rw[qai (by omega)]))
      |(refine Reg2.az (by rfl) (fun wz hI hF=>?_) (fun _=>?_)
        ·unfold Reg2.One;have d0:=(mJ.out.kept hI).read.c0;replace d0:wz.cell? ⟨p,0,none⟩=some (.int .i64 to):=d0;go_wp2_with fail
         first|exact⟨_,rfl,rfl,qad⟩|exact⟨_,rfl,⟨(),rfl,trivial⟩,qad⟩));simp only[Act.put,xA,xB,xC,xD,xE,id])
     refine Reg2.pm (fun wz hI hF=>?_) (fun s9=>?_) (by rfl)
     ·have hst:=qV (mJ.out.kept hI).read hmb.out to 0;rw[←uz.out]at hst;go_wp2_with fail;go_at_call 97;refine hst.mono ?_;clear hst;rintro e w5 ⟨rfl,hb5⟩;go_wp2_with fail
      first|exact⟨_,rfl,⟨(),rfl,trivial⟩,hb5⟩|exact⟨_,rfl,rfl,hb5⟩
     simp only[Act.put,xA,xB,xC,xD,xE,id];refine Reg2.aD ?_;intro w9 eu _ p9;clear p9 s9;dsimp only[List.drop];have jT:Hid (MW w9 p dv (.slice ao n cap) {R with now:=to}):=mJ.out.kept eu;have tX:Hid (aB (ax p dv (.slice ao n cap)) w w9):=jX.out.later eu (by have:=jX.out.size;omega);have bK:aG w9 w.heap.size aQ:=(eu.block _ (ai jv.out)).trans jv.out;have a0:=bK.at 0 (.int .i64 0) rfl;have f0:=bK.free 0;have a1:=bK.at 1 (.int .i64 0) rfl;have f1:=bK.free 1;have a2:=bK.at 2 (.int .i64 0) rfl;have f2:=bK.free 2;have a3:=bK.at 3 (.int .i64 0) rfl;have f3:=bK.free 3;have a4:=bK.at 4 (.int .i64 0) rfl;have f4:=bK.free 4;have a5:=bK.at 5 (.int .i64 0) rfl;have f5:=bK.free 5;have a6:=bK.at 6 (.int .i64 0) rfl;have f6:=bK.free 6;have a7:=bK.at 7 (.int .i64 0) rfl;have f7:=bK.free 7;have a8:=bK.at 8 (.int .i64 0) rfl;have f8:=bK.free 8;obtain⟨w3,hw3,hb3,gz⟩:=tT bK 0 0 0 to 0 0 F 0 0;replace hb3:=qae hb3;clear eu bK;go_wp2_with fail;rw[←hw3];replace hw3:=qae hw3;have eZ:MW w3 p dv (.slice ao n cap) {R with now:=to}:=jT.out.cK hb3.out (fun k hk=>hp0.out k hk);have hof:aB (ax p dv (.slice ao n cap)) w w3:=tX.out.later hb3.out (qaf _);refine aO rfl rfl rfl gz underlying67 rfl (by kernel_rfl) ⟨by rw[uz.out,hRR.out],⟨_,by rw[←hRR.out];exact eZ,aY.refl _ _⟩,hof⟩
    ·have e1:decide (t>to)=false:=qah t1;rw[qai (by omega)]at hg1;have Xq:=Vn (by omega) (by omega);obtain⟨pc,pf,pM,pO⟩:=Sn.out.OD t;obtain⟨wC,eO⟩:=qaa (wx.setCell ⟨p,0,none⟩ (.int .i64 t));have mJ:MW wC p dv (.slice ao n cap) {N with now:=t}:=by rw[eO];exact pM
     have jX:Hid (aB (ax p dv (.slice ao n cap)) w wC):=by show aB _ _ _;rw[eO];exact JB.out.trans pO (aY.refl _ _)
     have jv:Hid (aG wC w.heap.size aQ):=by show _=_;rw[eO];exact(Below.heap_setCell _ _ _ _ (Nat.ne_of_gt (hp0.out p (.inl rfl)))).trans Sq.out
     have YK:=L9 mJ Xq;obtain⟨k1,k3,_,_,_⟩:=nM Xq;replace k1:=qae k1;replace k3:=qae k3;replace hg1:=qae hg1;clear pM pO mJ Vn Xq;go_wp2_with fail;go_at_call 159;rw[←eO];refine YK.mono ?_;clear YK;rintro e w8 ⟨rfl,sV,yf⟩;have sF:Hid (aB (ax p dv (.slice ao n cap)) w w8):=jX.out.trans yf (aY.refl _ _);have PG:Hid (aG w8 w.heap.size aQ):=(yf.block _ (ai jv.out) (fun hk=>by have:=hp0.out _ hk;omega)).trans jv.out;replace sV:=qae sV;replace eO:=qae eO;clear pc pf yf;go_wp2_with fail;go_roundw
     case rel=>exact⟨k+1,dA {N with now:=t},by omega,by go_num,qae (hg1.out.symm.trans hgo.out),k1,qae (k3.out.trans Hg.out),sV,sF,PG⟩
     case measure=>simp[intOf];omega
  ·have k2:¬(k:Int)≤2*(n:Int):=by omega
   have wn2:IntKind.i64.wrap (2*(n:Int))=2*(n:Int):=by rw[IntKind.wrap_i64];omega
   have hk1:k=2*n+1:=by omega
   have Su:R=N:=by
    have:=hgo.out;rw[hk1,Nat.sub_self]at this;exact this.symm
   subst Su;have Sn:=iU;have JB:=hof;have Sq:=hRr;obtain⟨wx,hwx⟩:=qaa (wr);subst hwx;obtain⟨pc,pf,pM,pO⟩:=Sn.out.OD to;obtain⟨wC,eO⟩:=qaa (wx.setCell ⟨p,0,none⟩ (.int .i64 to));have mJ:Hid (MW wC p dv (.slice ao n cap) {R with now:=to}):=by show MW _ _ _ _ _;rw[eO];exact pM
   have jX:Hid (aB (ax p dv (.slice ao n cap)) w wC):=by show aB _ _ _;rw[eO];exact JB.out.trans pO (aY.refl _ _)
   have jv:Hid (aG wC w.heap.size aQ):=by show _=_;rw[eO];exact(Below.heap_setCell _ _ _ _ (Nat.ne_of_gt (hp0.out p (.inl rfl)))).trans Sq.out
   have hmb:=qae (hbR.out.at to (by omega) (by omega));obtain⟨F,uz⟩:∃F,F=aF {R with now:=to} to 0:=⟨_,rfl⟩;replace uz:=qae uz;clear pM pO;go_wp2_with fail;rw[←eO];replace eO:=qae eO;clear pc pf;refine Reg2.ro wC 10 66 [.p 0,.p 1,.p 3,.m 7,.p 0,.p 0,.p 32,.p 96,.m 224,.m 496] [.int .i64 to,.int .i64 to,.int .i64 F] (by kernel_rfl) (by kernel_rfl) rfl rfl ⟨rfl,rfl,rfl,qaf _,fun _ _=>rfl⟩ ?_;dsimp only[Reg2.fF]
   repeat((first
    |(refine' Reg2.ak _ (by rfl) (fun wz=>?_) ?_;rotate_left;(go_simp;first|rfl|rw[qai (by omega)]))
    |(refine Reg2.az (by rfl) (fun wz hI hF=>?_) (fun _=>?_)
      ·unfold Reg2.One;have d0:=(mJ.out.kept hI).read.c0;replace d0:wz.cell? ⟨p,0,none⟩=some (.int .i64 to):=d0;go_wp2_with fail
       first|exact⟨_,rfl,rfl,qad⟩|exact⟨_,rfl,⟨(),rfl,trivial⟩,qad⟩));simp only[Act.put,xA,xB,xC,xD,xE,id])
   refine Reg2.pm (fun wz hI hF=>?_) (fun s9=>?_) (by rfl)
   ·have hst:=qV (mJ.out.kept hI).read hmb.out to 0;rw[←uz.out]at hst;go_wp2_with fail;go_at_call 97;refine hst.mono ?_;clear hst;rintro e w5 ⟨rfl,hb5⟩;go_wp2_with fail
    first|exact⟨_,rfl,⟨(),rfl,trivial⟩,hb5⟩|exact⟨_,rfl,rfl,hb5⟩
   simp only[Act.put,xA,xB,xC,xD,xE,id];refine Reg2.aD ?_;intro w9 eu _ p9;clear p9 s9;dsimp only[List.drop];have jT:Hid (MW w9 p dv (.slice ao n cap) {R with now:=to}):=mJ.out.kept eu;have tX:Hid (aB (ax p dv (.slice ao n cap)) w w9):=jX.out.later eu (by have:=jX.out.size;omega);have bK:aG w9 w.heap.size aQ:=(eu.block _ (ai jv.out)).trans jv.out;have a0:=bK.at 0 (.int .i64 0) rfl;have f0:=bK.free 0;have a1:=bK.at 1 (.int .i64 0) rfl;have f1:=bK.free 1;have a2:=bK.at 2 (.int .i64 0) rfl;have f2:=bK.free 2;have a3:=bK.at 3 (.int .i64 0) rfl;have f3:=bK.free 3;have a4:=bK.at 4 (.int .i64 0) rfl;have f4:=bK.free 4;have a5:=bK.at 5 (.int .i64 0) rfl;have f5:=bK.free 5;have a6:=bK.at 6 (.int .i64 0) rfl;have f6:=bK.free 6;have a7:=bK.at 7 (.int .i64 0) rfl;have f7:=bK.free 7;have a8:=bK.at 8 (.int .i64 0) rfl;have f8:=bK.free 8;obtain⟨w3,hw3,hb3,gz⟩:=tT bK 0 0 0 to 0 0 F 0 0;replace hb3:=qae hb3;clear eu bK;go_wp2_with fail;rw[←hw3];replace hw3:=qae hw3;have eZ:MW w3 p dv (.slice ao n cap) {R with now:=to}:=jT.out.cK hb3.out (fun k hk=>hp0.out k hk);have hof:aB (ax p dv (.slice ao n cap)) w w3:=tX.out.later hb3.out (qaf _);refine aO rfl rfl rfl gz underlying67 rfl (by kernel_rfl) ⟨by rw[uz.out,hRR.out],⟨_,by rw[←hRR.out];exact eZ,aY.refl _ _⟩,hof⟩
theorem Sv (h:MW w p dv lv M)(hb:MB M)(y:Int)(hy: -9223372036854775808≤y∧y≤9223372036854775807):Calls prog 95 #[.pointer (some ⟨p,0,none⟩),.int .i64 y] w (iJ w p dv lv (lF M y)):=by
 unfold lF;by_cases hn:y<1∨1099511627776-M.now<y
 ·rw[qaj hn];exact Sl h hb y hy hn
 ·rw[qai hn];exact PE h hb y hy hn
end
section
variable {M : Md}
theorem ng {id:Int}(h:(getM M id).2=true):(getM M id).1∈M.L∧(id-1).toNat<M.L.length∧(getM M id).1=M.L.getD (id-1).toNat default∧id=(((id-1).toNat:Nat):Int)+1:=by
 rcases CK M id with h1|⟨i,rfl,hi,h1⟩
 ·rw[h1]at h;cases h
 ·have e:((i:Int)+1-1).toNat=i:=by omega
  rw[h1,e];exact⟨by simp[List.getD,hi],hi,rfl,by omega⟩
theorem MB.app (hb:MB M)(x:Jb)(hl:M.L.length<1024)(h1:0≤x.wid∧x.wid≤64)(h2:0≤x.lim∧x.lim≤1048576)(h3: -1≤x.aW∧x.aW≤1099511627776)(h4: -1≤x.fin∧x.fin≤1099512676352)(h5:0≤x.bY∧x.bY≤18446744073709551615):MB {M with L:=M.L++[x]}:=by
 have H:∀{P:Jb→Prop},(∀j∈M.L,P j)→P x→∀j∈M.L++[x],P j:=fun h hx j hj=>by
  rcases List.mem_append.1 hj with h1|h1
  ·exact h j h1
  ·rw[List.mem_singleton]at h1;subst h1;exact hx
 exact⟨hb.nn,by show(M.L++[x]).length≤1024;rw[List.length_append];simp;omega,hb.now,H hb.wid h1,H hb.lim h2,H hb.aW h3,H hb.fin h4,H hb.bY h5⟩
theorem MB.OE (hb:MB M)(r:Rw):MB (kY M r).2:=by
 unfold kY;simp only;split
 ·exact hb
 split
 ·exact hb
 ·rename_i h1 h2
  obtain⟨hm,hi,he,_⟩:=ng (by simpa using h1);have bw:=hb.wid _ hm;have bl:=hb.lim _ hm;have bp:=hb.aW _ hm;have bf:=hb.fin _ hm;have bn:=hb.bY _ hm;refine hb.set _ _ (by unfold jA;split<;>exact bw) (by unfold jA;split<;>exact bl) (by show(-1:Int)≤-1∧(-1:Int)≤_;omega) ?_ (by
   unfold jA;split
   ·exact bn
   ·exact bn)
  unfold jA;split
  ·have:=hb.now;show-1≤M.now∧M.now≤_;omega
  ·exact bf
theorem MB.Hl (hb:MB M)(r:Rw):MB (fC M r).2:=by
 unfold fC;simp only;split
 ·exact hb
 split
 ·exact hb
 ·rename_i h1 h2
  obtain⟨hm,hi,he,_⟩:=ng (by simpa using h1);have bw:=hb.wid _ hm;have bl:=hb.lim _ hm;have bp:=hb.aW _ hm;have bf:=hb.fin _ hm;have bn:=hb.bY _ hm;have ha:MB {M with L:=M.L.set (r.id-1).toNat (gI r.kind (getM M r.id).1)}:=by
   refine hb.set _ _ ?_ ?_ ?_ ?_ ?_
   ·unfold gI;split;exact bw;split;exact bw;exact bw
   ·unfold gI;split;exact bl;split;exact bl;exact bl
   ·unfold gI;split
    ·show(-1:Int)≤-1∧(-1:Int)≤_;omega
    ·split;exact bp;exact bp
   ·unfold gI;split;exact bf;split;exact bf;exact bf
   ·unfold gI;split;exact bn;split;exact bn;exact bn
  split
  ·exact ha.drop _
  ·exact ha
theorem MB.Hm (hb:MB M)(n:Nat)(b:Bool):MB (dK M n b):=by
 unfold dK;split
 ·exact(hb.drop mq).drain n true
 ·exact hb.drain n false
theorem MB.lT (hb:MB M)(id t:Int):MB (cZ M id t).2:=by
 have hn:=hb.now;unfold cZ;split
 ·rename_i hf
  unfold eY at hf;simp only at hf;split at hf
  ·cases hf
  rename_i hq
  have hg:(getM M id).2=true:=by cases h:(getM M id).2<;>simp_all
  obtain⟨hm,hi,he,_⟩:=ng hg;split
  ·exact hb.begin _ hi
  ·rw[he]at hm;have bw:=hb.wid _ hm;have bl:=hb.lim _ hm;have bp:=hb.aW _ hm;have bf:=hb.fin _ hm;have bn:=hb.bY _ hm;exact hb.set _ _ (bw) (bl) (by show-1≤t∧t≤1099511627776;omega) (bf) (bn)
 ·exact hb
end
theorem JC {j:Jb}{a t:Int}(hat:a≤t)(h:∀u∈Cr j,¬(a<u∧u≤t))(but:Int):jU t but j=jU a but j:=by
 unfold jU;by_cases hp:ay j=true
 ·have h1:=h j.aW (by unfold Cr;rw[qaj hp];simp);have h2:=h (j.aW+j.lim) (by unfold Cr;rw[qaj hp];simp);have e1:decide (j.aW≤t)=decide (j.aW≤a):=decide_eq_decide.2 (by omega);have e2:decide (t<j.aW+j.lim)=decide (a<j.aW+j.lim):=decide_eq_decide.2 (by omega);rw[e1,e2]
 ·simp[hp]
theorem JD {L:List Jb}{a t:Int}(hat:a≤t)(h:∀u∈sS L,¬(a<u∧u≤t))(but:Int):bM L t but=bM L a but:=by
 unfold bM;congr 2;refine List.filter_congr fun j hj=>?_;exact JC hat (fun u hu=>h u (List.mem_flatMap.2 ⟨j,hj,hu⟩)) but
theorem Ho {L:List Jb}{k:Nat}(h:0≤holderL L k):∃j∈L,L.getD (holderL L k).toNat default=j∧j.st=3:=by
 unfold holderL at h⊢;cases he:L.findIdx? (aN k)with
 |none=>rw[he]at h;exact absurd h (by decide)
 |some q=>
  obtain⟨h1,h2,_⟩:=List.findIdx?_eq_some_iff_getElem.1 he;refine⟨L[q],List.getElem_mem _,by simp[List.getD,h1],?_⟩;unfold aN at h2;simp at h2;exact h2.1
theorem JE {M:Md}{a t:Int}(hat:a≤t)(h:∀u∈sS M.L,¬(a<u∧u≤t))(k:Nat):bW M t k=bW M a k:=by
 unfold bW;by_cases h0:holderL M.L k<0
 ·simp[h0]
 ·obtain⟨j,hj,he,hs⟩:=Ho (L:=M.L) (k:=k) (by omega);rw[he];have:=h j.fin (List.mem_flatMap.2 ⟨j,hj,by unfold Cr;rw[qaj hs];simp⟩);rw[show decide (j.fin≤t)=decide (j.fin≤a)from decide_eq_decide.2 (by omega)]
theorem CP {M:Md}{a t:Int}(hat:a≤t)(h:∀u∈sS M.L,¬(a<u∧u≤t))(but:Int):aF M t but=aF M a but:=by
 unfold aF aU;rw[JD hat h but,show bW M t=bW M a from funext (JE hat h)]
structure YL (T : List Int) (now : Int) (f : Int → Int) : Prop where
 hd:T.head? =some now
 inc:T.Pairwise (· < ·)
 top:∀t∈T,t<1152921504606846976
 same:∀a t,now≤a→a≤t→(∀u∈T,¬(a<u∧u≤t))→f t=f a
theorem Hq {M:Md}(h0:0≤M.now)(htop:∀t∈jq M,t<1152921504606846976)(but:Int):YL (jq M) M.now (fun t=>aF M t but):=
 ⟨rfl,Cs h0,htop,fun a t ha hat h=>CP hat (fun u hu hau=>h u ((vH h0 u).2 (.inr ⟨by omega,hu⟩)) hau) but⟩
theorem ry (A:List (Int×Int))(x:Int×Int)(i:Nat):tA (A++[x]) i=if i<A.length then tA A i else if i=A.length then x.1 else 0:=by
 unfold tA;by_cases h:i<A.length
 ·rw[qaj h,List.getD,List.getElem?_append_left h];rfl
 ·rw[qai h];by_cases h2:i=A.length
  ·subst h2;simp
  ·rw[qai h2,List.getD,List.getElem?_eq_none (by simp;omega)];rfl
theorem CQ (A:List (Int×Int))(x:Int×Int)(i:Nat):tV (A++[x]) i=if i<A.length then tV A i else if i=A.length then x.2 else 0:=by
 unfold tV;by_cases h:i<A.length
 ·rw[qaj h,List.getD,List.getElem?_append_left h];rfl
 ·rw[qai h];by_cases h2:i=A.length
  ·subst h2;simp
  ·rw[qai h2,List.getD,List.getElem?_eq_none (by simp;omega)];rfl
structure Pre (A : List (Int × Int)) (now a : Int) (f : Int → Int) : Prop where
 pos:0<A.length
 hd:tA A 0=now
 inc:∀i,i+1<A.length→tA A i<tA A (i+1)
 last:∀i,i<A.length→tA A i≤a
 top:∀i,i<A.length→tA A i<1152921504606846976
 rep:∀i t,i<A.length→tA A i≤t→(i+1<A.length→t<tA A (i+1))→t≤a→f t=tV A i
 alt:∀i,i+1<A.length→tV A i≠tV A (i+1)
def yh (f:Int→Int)(acc:List (Int×Int))(t:Int):List (Int×Int):=
 match acc.getLast? with
 |some s=>if s.2=f t then acc else acc++[(t,f t)]
 |none=>acc++[(t,f t)]
theorem Pre.start {now:Int}(f:Int→Int)(ht:now<1152921504606846976):Pre (yh f [] now) now now f:=by
 have e:yh f [] now=[(now,f now)]:=rfl;rw[e];refine⟨by simp,rfl,fun i h=>by simp at h,fun i h=>?_,fun i h=>?_,fun i t h h1 _ h3=>?_,fun i h=>by simp at h⟩
 ·have:i=0:=by simpa using h
  subst this;exact Int.le_refl _
 ·have:i=0:=by simpa using h
  subst this;exact ht
 ·have:i=0:=by simpa using h
  subst this;have h1:now≤t:=h1;have:t=now:=by omega
  subst this;rfl
theorem JF {A:List (Int×Int)}(h:0<A.length):∃s,A.getLast? =some s∧s.2=tV A (A.length-1):=by
 refine⟨A.getD (A.length-1) (0,0),?_,rfl⟩;rw[List.getLast?_eq_getElem?,List.getD,List.getElem?_eq_getElem (by omega)];rfl
theorem Pre.next {A:List (Int×Int)}{now a b:Int}{f:Int→Int}(h:Pre A now a f)(hab:a<b)(hb:b<1152921504606846976)(hf:∀t,a≤t→t<b→f t=f a):Pre (yh f A b) now b f:=by
 obtain⟨s,hs,hs2⟩:=JF h.pos;have hlast:=h.last (A.length-1) (by have:=h.pos;omega);have hfa:f a=tV A (A.length-1):=h.rep _ a (by have:=h.pos;omega) hlast (by have:=h.pos;omega) (Int.le_refl _);have hnew:∀t,tA A (A.length-1)≤t→t<b→f t=tV A (A.length-1):=fun t h1 h2=>by
  rcases Int.lt_or_le a t with h3|h3
  ·rw[hf t (by omega) h2,hfa]
  ·exact h.rep _ t (by have:=h.pos;omega) h1 (by have:=h.pos;omega) h3
 have hold:∀i t,i+1<A.length→tA A i≤t→t<tA A (i+1)→f t=tV A i:=fun i t hi h1 h2=>by
  have:=h.last (i+1) hi;exact h.rep i t (by omega) h1 (fun _=>h2) (by omega)
 unfold yh;rw[hs];simp only;by_cases he:s.2=f b
 ·rw[qaj he];refine⟨h.pos,h.hd,h.inc,fun i hi=>by have:=h.last i hi;omega,h.top,fun i t hi h1 h2 h3=>?_,h.alt⟩;by_cases hi2:i+1<A.length
  ·exact hold i t hi2 h1 (h2 hi2)
  ·have:i=A.length-1:=by omega
   subst this;rcases Int.lt_or_le t b with h4|h4
   ·exact hnew t h1 h4
   ·have:t=b:=by omega
    subst this;rw[←hs2,he]
 ·rw[qai he];have hl:(A++[(b,f b)]).length=A.length+1:=by simp
  refine⟨by rw[hl];omega,?_,fun i hi=>?_,fun i hi=>?_,fun i hi=>?_,fun i t hi h1 h2 h3=>?_,fun i hi=>?_⟩
  ·rw[ry,qaj h.pos];exact h.hd
  ·rw[hl]at hi;rw[ry,ry,qaj (by omega)];by_cases h4:i+1<A.length
   ·rw[qaj h4];exact h.inc i h4
   ·rw[qai h4,qaj (by omega)];have:=h.last i (by omega);show _<b;omega
  ·rw[hl]at hi;rw[ry];split
   ·have:=h.last i (by assumption);omega
   ·rw[qaj (by omega)];exact Int.le_refl _
  ·rw[hl]at hi;rw[ry];split
   ·exact h.top i (by assumption)
   ·rw[qaj (by omega)];exact hb
  ·rw[hl]at hi h2;rw[ry]at h1;rw[CQ];by_cases h4:i<A.length
   ·rw[qaj h4]at h1⊢;have h5:=h2 (by omega);rw[ry]at h5;by_cases h6:i+1<A.length
    ·rw[qaj h6]at h5;exact hold i t h6 h1 h5
    ·rw[qai h6,qaj (by omega)]at h5;have:i=A.length-1:=by omega
     subst this;exact hnew t h1 h5
   ·rw[qai h4,qaj (by omega)]at h1⊢;have h1:b≤t:=h1;have:t=b:=by omega
    rw[this]
  ·rw[hl]at hi;rw[CQ,CQ,qaj (by omega)];by_cases h4:i+1<A.length
   ·rw[qaj h4];exact h.alt i h4
   ·rw[qai h4,qaj (by omega)];have:i=A.length-1:=by omega
    subst this;rw[←hs2];exact he
theorem Pre.all {A:List (Int×Int)}{now a:Int}{f:Int→Int}{T:List Int}(h:Pre A now a f)(hT:(a::T).Pairwise (· < ·))(ht:∀t∈T,t<1152921504606846976)(hs:∀u t,a≤u→u≤t→(∀v∈a::T,¬(u<v∧v≤t))→f t=f u):Can (T.foldl (yh f) A) now f:=by
 induction T generalizing A a with
 |nil=>
  rw[List.foldl_nil];have hlast:=h.last (A.length-1) (by have:=h.pos;omega);have hfa:f a=tV A (A.length-1):=h.rep _ a (by have:=h.pos;omega) hlast (by have:=h.pos;omega) (Int.le_refl _);refine⟨⟨h.pos,h.hd,h.inc,h.top,fun i t hi h1 h2=>?_⟩,fun i hi _=>h.alt i hi⟩;rcases Int.lt_or_le a t with h3|h3
  ·rw[hs a t (Int.le_refl _) (by omega) (fun v hv=>by rw[List.mem_singleton]at hv;omega),hfa];by_cases h4:i+1<A.length
   ·have:=h2 h4;have:=h.last _ h4;omega
   ·have:i=A.length-1:=by omega
    rw[this]
  ·exact h.rep i t hi h1 h2 h3
 |cons b T ih=>
  rw[List.foldl_cons];rw[List.pairwise_cons]at hT;have hab:=hT.1 b List.mem_cons_self;refine ih (h.next hab (ht b List.mem_cons_self) fun t h1 h2=>hs a t (Int.le_refl _) h1 fun v hv hc=>?_) hT.2 (fun t hm=>ht t (List.mem_cons_of_mem _ hm)) fun u t h1 h2 h3=>hs u t (by omega) h2 fun v hv hc=>?_
  ·rcases List.mem_cons.1 hv with rfl|hv
   ·omega
   ·rcases List.mem_cons.1 hv with rfl|hv
    ·omega
    ·have:=(List.pairwise_cons.1 hT.2).1 v hv;omega
  ·rcases List.mem_cons.1 hv with rfl|hv
   ·omega
   ·exact h3 v hv hc
theorem JG {M:Md}(h0:0≤M.now)(htop:∀t∈jq M,t<1152921504606846976):Can (kE M) M.now (fun t=>aF M t 0):=by
 have hr:=Hq h0 htop 0;have e:kE M=(timesGo M.L (2*M.L.length) M.now).foldl (yh fun t=>aF M t 0) (yh (fun t=>aF M t 0) [] M.now):=rfl;rw[e];exact(Pre.start _ (htop _ List.mem_cons_self)).all hr.inc (fun t ht=>htop t (List.mem_cons_of_mem _ ht)) (fun u t h1 h2 h3=>hr.same u t h1 h2 h3)
section
variable {w w' : World} {p : Nat} {dv lv : Value} {M : Md}
theorem vL (h:MR w p dv lv M)(hb:MB M)(a b:Int):Calls prog 96 #[.pointer (some ⟨p,0,none⟩),.bool true,.int .i64 a,.int .i64 b] w fun e w'=>e=.returned (.int .i64 (jG M a))∧w=w':=by
 have c2:=h.c2;have hjs:=qae h.js;have hll:=hb.ll;obtain⟨n,hn⟩:=qaa (M.L.length);obtain⟨ao,cap,rfl,h1,h2⟩:=h.js.shape;rw[←hn]at hll c2 h1;clear h hb;have hlm:jG M a=(M.L.take n).countP fun j=>decide (j.st=a):=by rw[hn,List.take_length];rfl
 rw[hlm];clear hlm;generalize M.L=L at*;replace hn:=qae hn;go_enter func96,ntmps96;go_wp2_with fail;go_loopw [9,10] (fun cc ii wr=>∃i:Nat,i≤n∧cc=.int .i64 (((L.take i).countP fun j=>decide (j.st=a)):Nat)∧ii=.int .i64 i∧w=wr) (fun _ ii _=>n-(intOf ii).toNat)
 case atStart=>exact⟨0,Nat.zero_le _,by simp,rfl,rfl⟩
 case round=>
  obtain⟨i,hi,rfl,rfl,rfl⟩:=hrel;by_cases hlt:i<n
  ·have b2:decide ((i:Int)<(n:Int))=true:=qag (by omega);have wi:IntKind.i64.wrap ((i:Int)+1)=(i:Int)+1:=by rw[IntKind.wrap_i64];omega
   obtain⟨b,off,cap',hv,_,_,hbl,hc⟩:=hjs.out.mr i (by rw[←hn.out];exact hlt);rw[←hn.out]at hv;cases hv;have BP:=hc 5 _ rfl;have hsu:=za (L:=L) (f:=fun j=>decide (j.st=a)) (i:=i) (by rw[←hn.out];exact hlt);have hle:=List.countP_le_length (p:=fun j:Jb=>decide (j.st=a)) (l:=L.take i);have htl:(L.take i).length≤i:=List.length_take_le _ _;generalize L.getD i default=y at*;have wc:IntKind.i64.wrap ((((L.take i).countP fun j=>decide (j.st=a):Nat):Int)+1)=(((L.take i).countP fun j=>decide (j.st=a):Nat):Int)+1:=by rw[IntKind.wrap_i64];omega
   obtain⟨x1,x2,x3,x4,x5,x6,x7,x8,x9,x0⟩:=y;have hsu:(L.take (i+1)).countP (fun j=>decide (j.st=a))=(L.take i).countP (fun j=>decide (j.st=a))+(if decide (x6=a)=true then 1 else 0):=hsu;simp only at BP;generalize (L.take i).countP (fun j=>decide (j.st=a))=C at*;by_cases h6:x6=a
   ·have d6:(x6 == a)=true:=by simp[h6]
    rw[qag h6,qaj rfl]at hsu;replace hsu:=qae hsu;clear hc hle htl h6;go_wp2_with fail;go_roundw
    case rel=>exact⟨i+1,by omega,by rw[hsu.out];simp,by go_num,trivial⟩
    case measure=>simp[intOf];omega
   ·have d6:(x6 == a)=false:=by simp[h6]
    rw[qah h6]at hsu;replace hsu:=qae hsu;clear hc hle htl h6;go_wp2_with fail;go_roundw
    case rel=>exact⟨i+1,by omega,by rw[hsu.out];simp,by go_num,trivial⟩
    case measure=>simp[intOf];omega
  ·obtain rfl:i=n:=by omega
   have b2:decide ((i:Int)<(i:Int))=false:=qah (by omega);go_wp2_with fail;go_loopw [9,11] (fun cc kk wr=>cc=.int .i64 (((L.take i).countP fun j=>decide (j.st=a)):Nat)∧kk=.int .i64 0∧w=wr) (fun _ _ _=>0)
   case atStart=>exact⟨rfl,rfl,rfl⟩
   case round=>
    obtain⟨rfl,rfl,rfl⟩:=hrel;go_wp2_with fail;go_ret;exact⟨rfl,rfl⟩
theorem kH (f:Nat→Bool)(k:Nat):(List.range (k+1)).countP f=(List.range k).countP f+(if f k=true then 1 else 0):=by
 rw[List.range_succ,List.countP_append,List.countP_cons,List.countP_nil];simp
theorem uA (h:MR w p dv lv M)(hb:MB M)(a b:Int):Calls prog 96 #[.pointer (some ⟨p,0,none⟩),.bool false,.int .i64 a,.int .i64 b] w fun e w'=>e=.returned (.int .i64 (iM M a b))∧w=w':=by
 have c1:=h.c1;have hM:=qae h;have hB:=qae hb;have hnn:=hb.nn;obtain⟨N,hN⟩:=qaa (M.dr.length);obtain⟨ao,cap,rfl,h1,h2⟩:=h.dr.shape;rw[←hN]at hnn c1 h1;have hlm:iM M a b=(List.range N).countP fun k:Nat=>decide (aK M k=a)||decide (aK M k=b):=by rw[hN];rfl
 rw[hlm];clear hlm h hb;replace hN:=qae hN;go_enter func96,ntmps96;go_wp2_with fail;go_loopw [9,10] (fun cc kk wr=>cc=.int .i64 0∧kk=.int .i64 0∧w=wr) (fun _ _ _=>0)
 case atStart=>exact⟨rfl,rfl,rfl⟩
 case round=>
  obtain⟨rfl,rfl,rfl⟩:=hrel;go_wp2_with fail;go_loopw [9,11] (fun cc kk wr=>∃k:Nat,k≤N∧cc=.int .i64 (((List.range k).countP fun k:Nat=>decide (aK M k=a)||decide (aK M k=b)):Nat)∧kk=.int .i64 k∧w=wr) (fun _ kk _=>N-(intOf kk).toNat)
  case atStart=>exact⟨0,Nat.zero_le _,by simp,rfl,rfl⟩
  case round=>
   obtain⟨k,hk,rfl,rfl,rfl⟩:=hrel;by_cases hlt:k<N
   ·have b2:decide ((k:Int)<(N:Int))=true:=qag (by omega);have wi:IntKind.i64.wrap ((k:Int)+1)=(k:Int)+1:=by rw[IntKind.wrap_i64];omega
    have hst:=tH hM.out hB.out (k:Int);have hsu:=kH (fun k:Nat=>decide (aK M k=a)||decide (aK M k=b)) k;have hle:=List.countP_le_length (p:=fun k:Nat=>decide (aK M k=a)||decide (aK M k=b)) (l:=List.range k);rw[List.length_range]at hle;have wc:IntKind.i64.wrap ((((List.range k).countP fun k:Nat=>decide (aK M k=a)||decide (aK M k=b):Nat):Int)+1)=(((List.range k).countP fun k:Nat=>decide (aK M k=a)||decide (aK M k=b):Nat):Int)+1:=by rw[IntKind.wrap_i64];omega
    obtain⟨C,hC⟩:=qaa ((List.range k).countP fun k:Nat=>decide (aK M k=a)||decide (aK M k=b));rw[←hC]at hsu hle wc⊢;generalize aK M (k:Int)=Z at*;replace hC:=qae hC;by_cases ha:Z=a
    ·have d6:(Z == a)=true:=by simp[ha]
     rw[qag ha,Bool.true_or,qaj rfl]at hsu;replace hsu:=qae hsu;clear hle ha;go_wp2_with fail;go_at_call 74;refine hst.mono ?_;rintro e w1 ⟨rfl,rfl⟩;go_wp2_with fail;go_roundw
     case rel=>exact⟨k+1,by omega,by rw[hsu.out];simp,by go_num,trivial⟩
     case measure=>simp[intOf];omega
    ·have d6:(Z == a)=false:=by simp[ha]
     rw[qah ha,Bool.false_or]at hsu;by_cases hb:Z=b
     ·have d7:(Z == b)=true:=by simp[hb]
      rw[qag hb,qaj rfl]at hsu;replace hsu:=qae hsu;clear hle ha hb;go_wp2_with fail;go_at_call 74;refine hst.mono ?_;rintro e w1 ⟨rfl,rfl⟩;go_wp2_with fail;go_at_call 74;refine hst.mono ?_;rintro e w1 ⟨rfl,rfl⟩;go_wp2_with fail;go_roundw
      case rel=>exact⟨k+1,by omega,by rw[hsu.out];simp,by go_num,trivial⟩
      case measure=>simp[intOf];omega
     ·have d7:(Z == b)=false:=by simp[hb]
      rw[qah hb]at hsu;replace hsu:=qae hsu;clear hle ha hb;go_wp2_with fail;go_at_call 74;refine hst.mono ?_;rintro e w1 ⟨rfl,rfl⟩;go_wp2_with fail;go_at_call 74;refine hst.mono ?_;rintro e w1 ⟨rfl,rfl⟩;go_wp2_with fail;go_roundw
      case rel=>exact⟨k+1,by omega,by rw[hsu.out];simp,by go_num,trivial⟩
      case measure=>simp[intOf];omega
   ·obtain rfl:k=N:=by omega
    have b2:decide ((k:Int)<(k:Int))=false:=qah (by omega);go_wp2_with fail;go_ret;exact⟨rfl,rfl⟩
end
def fe (t but:Int)(j:Jb):Int:=if jU t but j=true then j.wid else 0
theorem kv (L:List Jb)(t but:Int):bM L t but=(L.map (fe t but)).sum:=by
 induction L with
 |nil=>rfl
 |cons a L ih=>
  unfold bM at ih⊢;rw[List.map_cons,List.sum_cons,←ih];unfold fe;by_cases h:jU t but a=true
  ·rw[List.filter_cons_of_pos h,qaj h,List.map_cons,List.sum_cons]
  ·rw[List.filter_cons_of_neg h,qai h,Int.zero_add]
theorem CR (f:Jb→Int)(L:List Jb)(i:Nat)(y:Jb)(hi:i<L.length):((L.set i y).map f).sum=(L.map f).sum-f (L.getD i default)+f y:=by
 induction L generalizing i with
 |nil=>simp at hi
 |cons a L ih=>
  cases i with
  |zero=>simp[List.getD];omega
  |succ i=>
   have:=ih i (by simpa using hi);simp only[xC,List.map_cons,List.sum_cons,List.getD_cons_succ];rw[this];omega
theorem pR {L:List Jb}{i:Nat}(hi:i<L.length)(y:Jb)(t but:Int):bM (L.set i y) t but=bM L t but-fe t but (L.getD i default)+fe t but y:=by
 rw[kv,kv];exact CR _ L i y hi
theorem fo {t but:Int}{j:Jb}(h:ay j=false):fe t but j=0:=by
 unfold fe jU;simp[h]
theorem oK {t but:Int}{j:Jb}(h:ay j=true)(hb:j.id≠but):fe t but j=if j.aW≤t∧t<j.aW+j.lim then j.wid else 0:=by
 unfold fe jU;by_cases h1:j.aW≤t<;>by_cases h2:t<j.aW+j.lim<;>simp[h,hb,h1,h2]
theorem Mc {t:Int}{j:Jb}:fe t j.id j=0:=by
 unfold fe jU;simp
theorem mg {L:List Jb}{k:Nat}:holderL L k<0↔∀j∈L,aN k j=false:=by
 unfold holderL;cases h:L.findIdx? (aN k)with
 |none=>
  rw[List.findIdx?_eq_none_iff]at h;exact⟨fun _=>h,fun _=>by decide⟩
 |some i=>
  rw[List.findIdx?_eq_some_iff_getElem]at h;obtain⟨hi,h1,_⟩:=h;refine⟨fun h=>by simp only at h;omega,fun h2=>?_⟩;have:=h2 _ (List.getElem_mem hi);rw[h1]at this;cases this
theorem Me {L:List Jb}{k i:Nat}(h:holderL L k=i):i<L.length∧aN k (L.getD i default)=true:=by
 unfold holderL at h;cases h1:L.findIdx? (aN k)with
 |none=>rw[h1]at h;simp only at h;omega
 |some q=>
  rw[h1]at h;simp only at h;have:q=i:=by omega
  subst this;rw[List.findIdx?_eq_some_iff_getElem]at h1;obtain⟨hi,h2,_⟩:=h1;exact⟨hi,by simp[List.getD,hi,h2]⟩
theorem gT (L:List Jb)(k:Nat):holderL L k<0∨∃i:Nat,holderL L k=i∧i<L.length∧aN k (L.getD i default)=true:=by
 rcases Int.lt_or_le (holderL L k) 0 with h|h
 ·exact .inl h
 ·obtain⟨i,hi⟩:=Int.eq_ofNat_of_zero_le h;exact .inr ⟨i,hi,Me hi⟩
def zf (L:List Jb):Prop:=∀i k n:Nat,i<L.length→k<L.length→aN n (L.getD i default)=true→aN n (L.getD k default)=true→i=k
theorem xM {L:List Jb}(hd:zf L){n i:Nat}(hi:i<L.length)(h:aN n (L.getD i default)=true):holderL L n=i:=by
 rcases gT L n with h1|⟨q,h1,hq,h2⟩
 ·have:=mg.1 h1 (L.getD i default) (by simp[List.getD,hi]);rw[h]at this;cases this
 ·rw[h1,hd i q n hi hq h h2]
theorem iC {L:List Jb}{i q:Nat}{y:Jb}:(L.set i y).getD q default=if i=q∧i<L.length then y else L.getD q default:=by
 simp only[List.getD,List.getElem?_set];by_cases h:i=q
 ·subst h;by_cases h2:i<L.length
  ·simp[h2]
  ·simp[h2]
 ·simp[h]
theorem kR {L:List Jb}{i:Nat}{y:Jb}{n:Nat}(hi:i<L.length)(h:aN n y=aN n (L.getD i default)):holderL (L.set i y) n=holderL L n:=by
 unfold holderL;have:(L.set i y).findIdx? (aN n)=L.findIdx? (aN n):=by
  have e:∀M:List Jb,M.findIdx? (aN n)=(M.map (aN n)).findIdx? id:=fun M=>by rw[List.findIdx?_map];rfl
  rw[e,e,List.map_set,h];congr 1;have:(L.map (aN n))[i]? =some (aN n (L.getD i default)):=by simp[List.getD,hi]
  refine List.ext_getElem? fun q=>?_;rw[List.getElem?_set];split
  ·rename_i h1;subst h1
   split
   ·rw[this]
   ·simp_all
  ·rfl
 rw[this]
theorem holds_of {n:Nat}{x y:Jb}(h1:(y.st=3)↔(x.st=3))(h2:y.bY=x.bY):aN n y=aN n x:=by
 unfold aN;rw[h2];by_cases h:x.st=3
 ·simp[h,h1.2 h]
 ·simp[h,mt h1.1 h]
section
variable {M : Md}
theorem uB {i:Nat}{y:Jb}(hi:i<M.L.length)(h1:(y.st=3)↔((M.L.getD i default).st=3))(h2:y.bY=(M.L.getD i default).bY)(h3:y.fin=(M.L.getD i default).fin)(t but:Int):
 aF {M with L:=M.L.set i y} t but=aF M t but+fe t but (M.L.getD i default)-fe t but y:=by
 have hn:∀k,bW {M with L:=M.L.set i y} t k=bW M t k:=fun k=>by
  unfold bW;have e:=kR (n:=k) hi (holds_of h1 h2);show(!(M.dr.getD k false)&&(decide (holderL (M.L.set i y) k<0)||decide (((M.L.set i y).getD (holderL (M.L.set i y) k).toNat default).fin≤t)))=_;rw[e,iC];split
  ·rename_i h;rw[h3,←h.1]
  ·rfl
 have hf:aU {M with L:=M.L.set i y} t M.dr.length=aU M t M.dr.length:=by
  unfold aU;congr 2;exact funext fun k=>hn k
 show aU {M with L:=M.L.set i y} t M.dr.length-bM (M.L.set i y) t but=aU M t M.dr.length-bM M.L t but+fe t but (M.L.getD i default)-fe t but y;rw[hf,pR hi];omega
theorem ky {i:Nat}{u:Int}(hi:i<M.L.length)(t but:Int):
 aF {M with L:=M.L.set i ((M.L.getD i default).aR u)} t but=aF M t but+fe t but (M.L.getD i default)-fe t but ((M.L.getD i default).aR u):=
 uB (y:=(M.L.getD i default).aR u) hi Iff.rfl rfl rfl t but
theorem oL {i:Nat}(hi:i<M.L.length)(hid:∀q,q<M.L.length→(M.L.getD q default).id=(q:Int)+1)(t:Int):aF M t ((i:Int)+1)=aF M t 0+fe t 0 (M.L.getD i default):=by
 have h:bM M.L t ((i:Int)+1)=bM M.L t 0-fe t 0 (M.L.getD i default):=by
  have hd:=ky (M:=M) (u:= -1) hi t 0;have hd2:=ky (M:=M) (u:= -1) hi t ((i:Int)+1);have e0:∀b,fe t b ((M.L.getD i default).aR (-1))=0:=fun b=>fo (by unfold ay;simp[Jb.aR,Jb.aW]);have e1:fe t ((i:Int)+1) (M.L.getD i default)=0:=by rw[←hid i hi];exact Mc
  have e2:bM (M.L.set i ((M.L.getD i default).aR (-1))) t ((i:Int)+1)=bM (M.L.set i ((M.L.getD i default).aR (-1))) t 0:=by
   rw[kv,kv];congr 1;refine List.map_congr_left fun j hj=>?_;obtain⟨q,hq,rfl⟩:=List.getElem_of_mem hj;have hq':q<M.L.length:=by simpa using hq
   have hg:(M.L.set i ((M.L.getD i default).aR (-1)))[q]=(M.L.set i ((M.L.getD i default).aR (-1))).getD q default:=by simp[List.getD,hq']
   rw[hg,iC];split
   ·rw[e0,e0]
   ·rename_i hne
    have hqi:q≠i:=fun e=>hne ⟨e.symm,hi⟩;have:=hid q hq';unfold fe jU;rw[this];have a1:decide ((q:Int)+1≠(i:Int)+1)=true:=qag (by omega);have a2:decide ((q:Int)+1≠0)=true:=qag (by omega);rw[a1,a2]
  rw[pR hi,pR hi,e0,e0,e1]at e2;omega
 unfold aF;omega
theorem Ba (f g:Nat→Bool)(n N:Nat)(hn:n<N)(h:∀k,k≠n→f k=g k):(((List.range N).countP f:Nat):Int)=((List.range N).countP g:Nat)-(if g n=true then 1 else 0)+(if f n=true then 1 else 0):=by
 induction N with
 |zero=>omega
 |succ N ih=>
  rw[kH,kH];by_cases e:n=N
  ·subst e;have:(List.range n).countP f=(List.range n).countP g:=List.countP_congr fun k hk=>by rw[h k (by have:=List.mem_range.1 hk;omega)]
   rw[this];split<;>split<;>omega
  ·have h1:=ih (by omega);rw[h N (fun e2=>e e2.symm)];split<;>omega
theorem zg {n:Nat}(hn:n<M.dr.length)(b:Bool)(t but:Int):
 aF {M with dr:=M.dr.set n b} t but=aF M t but-(if bW M t n=true then 1 else 0)+(if(!b&&(decide (holderL M.L n<0)||decide ((M.L.getD (holderL M.L n).toNat default).fin≤t)))=true then 1 else 0):=by
 have hs:∀k,(M.dr.set n b).getD k false=if n=k then b else M.dr.getD k false:=fun k=>by
  simp only[List.getD,List.getElem?_set];by_cases h:n=k
  ·subst h;simp[hn]
  ·simp[h]
 have h:=Ba (bW {M with dr:=M.dr.set n b} t) (bW M t) n M.dr.length hn (fun k hk=>by
  unfold bW;show(!((M.dr.set n b).getD k false)&&_)=_;rw[hs,qai (fun e=>hk e.symm)])
 have e:bW {M with dr:=M.dr.set n b} t n=(!b&&(decide (holderL M.L n<0)||decide ((M.L.getD (holderL M.L n).toNat default).fin≤t))):=by
  unfold bW;show(!((M.dr.set n b).getD n false)&&_)=_;rw[hs,qaj rfl]
 rw[e]at h;show aU {M with dr:=M.dr.set n b} t (M.dr.set n b).length-bM M.L t but=aU M t M.dr.length-bM M.L t but-_+_;rw[List.length_set];unfold aU;rw[h];omega
end
theorem ni (s n:Nat):dw s n=s.testBit n:=by
 unfold dw;rw[Nat.testBit_eq_decide_div_mod_eq]
theorem wY {s k:Nat}(h:s<2^k)(n:Nat):dw (s+2^k) n=(dw s n||decide (n=k)):=by
 rw[ni,ni,Nat.add_comm];rcases Nat.lt_trichotomy n k with h1|h1|h1
 ·rw[Nat.testBit_two_pow_add_gt h1];simp[Nat.ne_of_lt h1]
 ·subst h1;rw[Nat.testBit_two_pow_add_eq,Nat.testBit_lt_two_pow h];simp
 ·have h2:2^(k+1)≤2^n:=Nat.pow_le_pow_right (by decide) h1;rw[Nat.pow_succ]at h2;rw[Nat.testBit_lt_two_pow (show 2^k+s<2^n by omega),Nat.testBit_lt_two_pow (show s<2^n by omega)];simp[Nat.ne_of_gt h1]
theorem FB {s k n:Nat}(h:s<2^k)(hn:k≤n):dw s n=false:=by
 rw[ni];exact Nat.testBit_lt_two_pow (Nat.lt_of_lt_of_le h (Nat.pow_le_pow_right (by decide) hn))
section
variable {M : Md}
theorem rz (M:Md)(wid:Int)(k n:Nat)(h:dw (lowGo M wid k).1 n=true):n<k∧aK M n=1:=by
 induction k with
 |zero=>simp[lowGo,dw]at h
 |succ k ih=>
  unfold lowGo at h;split at h
  ·rename_i hc
   rw[wY (oH M wid k).1]at h;rcases Bool.or_eq_true _ _▸h with h|h
   ·have:=ih h;exact⟨by omega,this.2⟩
   ·have h:=of_decide_eq_true h;subst h;exact⟨by omega,hc.2⟩
  ·have:=ih h;exact⟨by omega,this.2⟩
theorem zh (M:Md)(wid:Int)(k N:Nat)(hN:k≤N):(((List.range N).countP (dw (lowGo M wid k).1):Nat):Int)=(lowGo M wid k).2:=by
 induction k with
 |zero=>
  have:(List.range N).countP (dw (lowGo M wid 0).1)=0:=List.countP_eq_zero.2 fun n _=>by simp[lowGo,dw]
  rw[this];rfl
 |succ k ih=>
  have ih:=ih (by omega);unfold lowGo;split
  ·show(((List.range N).countP (dw ((lowGo M wid k).1+2^k)):Nat):Int)=(lowGo M wid k).2+1;have hl:=(oH M wid k).1;have:=Ba (dw ((lowGo M wid k).1+2^k)) (dw (lowGo M wid k).1) k N (by omega) (fun n hn=>by rw[wY hl];simp[hn]);rw[this,wY hl,FB hl (qaf _),ih];simp
  ·exact ih
theorem JH (M:Md)(wid:Int)(k:Nat)(hw:0≤wid)(h:wid≤((List.range k).countP fun n:Nat=>decide (aK M n=1):Nat)):(lowGo M wid k).2=wid:=by
 have key:∀k:Nat,(lowGo M wid k).2=min wid (((List.range k).countP fun n:Nat=>decide (aK M n=1):Nat):Int):=fun k=>by
  induction k with
  |zero=>simp[lowGo];omega
  |succ k ih=>
   rw[kH];unfold lowGo;by_cases h1:aK M k=1
   ·simp only[h1,decide_true,if_true,and_true];split
    ·show(lowGo M wid k).2+1=_;omega
    ·omega
   ·simp only[h1,decide_false,and_false,if_false];rw[ih];simp
 rw[key];omega
theorem lU {n:Nat}(hn:n<M.dr.length):aK M n=1↔holderL M.L n<0∧M.dr.getD n false=false:=by
 unfold aK;rw[qai (by omega)];simp only[Int.toNat_natCast];by_cases h:0≤holderL M.L n
 ·rw[qaj h];constructor
  ·intro h1;split at h1<;>omega
  ·intro h1;omega
 ·rw[qai h];by_cases hb:M.dr.getD n false=true
  ·rw[qaj hb];constructor
   ·intro h1;omega
   ·intro h1;rw[hb]at h1;exact absurd h1.2 (by decide)
  ·rw[qai hb];exact⟨fun _=>⟨by omega,by
    cases e:M.dr.getD n false with
    |false=>rfl
    |true=>exact absurd e hb⟩,fun _=>rfl⟩
theorem zi (f g s:Nat→Bool)(b:Bool)(N:Nat)(h1:∀n,n<N→s n=true→g n=true∧f n=b)(h2:∀n,n<N→s n=false→f n=g n):
 (((List.range N).countP f:Nat):Int)=((List.range N).countP g:Nat)-(if b=true then 0 else((List.range N).countP s:Nat)):=by
 induction N with
 |zero=>simp
 |succ N ih=>
  have ih:=ih (fun n hn=>h1 n (by omega)) (fun n hn=>h2 n (by omega));rw[kH,kH,kH];cases hs:s N with
  |true=>
   obtain⟨e1,e2⟩:=h1 N (by omega) hs;rw[e1,e2];cases b<;>simp at ih⊢ <;>omega
  |false=>
   rw[h2 N (by omega) hs];cases b<;>simp at ih⊢ <;>omega
theorem uC {i:Nat}(hi:i<M.L.length)(hst:(M.L.getD i default).st≠3)(t but:Int):
 aF (bG M i) t but=aF M t but+fe t but (M.L.getD i default)-(if t<M.now+(M.L.getD i default).lim then(lowGo M (M.L.getD i default).wid M.dr.length).2 else 0):=by
 generalize hx:M.L.getD i default=x at*;have hy:(gG M x).st=3:=rfl;have hs:∀n,dw (jF M x.wid) n=true→n<M.dr.length∧holderL M.L n<0∧M.dr.getD n false=false:=fun n h=>by
  obtain⟨h1,h2⟩:=rz M x.wid M.dr.length n h;exact⟨h1,(lU h1).1 h2⟩
 have CU:∀n,aN n (gG M x)=dw (jF M x.wid) n:=fun n=>by
  unfold aN;rw[hy];show(decide ((3:Int)=3)&&dw ((jF M x.wid:Nat):Int).toNat n)=_;simp
 have hxh:∀n,aN n x=false:=fun n=>by unfold aN;simp[hst]
 have hold:∀n,holderL (M.L.set i (gG M x)) n=if dw (jF M x.wid) n=true then(i:Int)else holderL M.L n:=fun n=>by
  split
  ·rename_i h
   have hneg:=mg.1 (hs n h).2.1;rcases gT (M.L.set i (gG M x)) n with h1|⟨q,h1,hq,h2⟩
   ·have:=mg.1 h1 (gG M x) (List.mem_set hi _);rw[CU,h]at this;cases this
   ·rw[iC]at h2;split at h2
    ·rename_i e;rw[h1,e.1]
    ·have hq':q<M.L.length:=by simpa using hq
     have:=hneg (M.L.getD q default) (by simp[List.getD,hq']);rw[h2]at this;cases this
  ·rename_i h
   refine kR hi ?_;rw[hx,CU,hxh];simpa using h
 have Xr:∀n,n<M.dr.length→dw (jF M x.wid) n=true→bW M t n=true∧bW (bG M i) t n=decide (M.now+x.lim≤t):=fun n hn h=>by
  obtain⟨h1,h2,h3⟩:=hs n h;refine⟨by unfold bW;rw[h3];simp[h2],?_⟩;unfold bW bG;simp only[hx];rw[hold,qaj h,h3,Int.toNat_natCast,iC,qaj ⟨rfl,hi⟩];have:¬(i:Int)<0:=by omega
  simp only[this,decide_false,Bool.false_or,Bool.not_false,Bool.true_and];rfl
 have hsame:∀n,n<M.dr.length→dw (jF M x.wid) n=false→bW (bG M i) t n=bW M t n:=fun n hn h=>by
  have h':¬dw (jF M x.wid) n=true:=by simp[h]
  unfold bW bG;simp only[hx];rw[hold,qai h',iC];split
  ·rename_i e
   rcases gT M.L n with g1|⟨q,g1,hq,g2⟩
   ·simp[g1]
   ·rw[g1,Int.toNat_natCast]at e;rw[←e.1,hx,hxh]at g2;cases g2
  ·rfl
 have hcount:=zi (bW (bG M i) t) (bW M t) (dw (jF M x.wid)) (decide (M.now+x.lim≤t)) M.dr.length Xr hsame;have hlc:=zh M x.wid M.dr.length M.dr.length (qaf _);have hfn:aU (bG M i) t M.dr.length=aU M t M.dr.length-(if t<M.now+x.lim then(lowGo M x.wid M.dr.length).2 else 0):=by
  unfold aU;rw[hcount,←hlc];unfold jF;by_cases h:M.now+x.lim≤t
  ·rw[qaj (qag h),qai (by omega)];simp
  ·rw[qai (by simp[h]),qaj (by omega)]
 have htk:bM (M.L.set i (gG M x)) t but=bM M.L t but-fe t but x:=by
  rw[pR hi,hx,fo (j:=gG M x) (by unfold ay;rw[hy];rfl)];omega
 show aU (bG M i) t M.dr.length-bM (M.L.set i (gG M (M.L.getD i default))) t but=aU M t M.dr.length-bM M.L t but+fe t but x-_;rw[hx,htk,hfn];omega
theorem uD {i:Nat}{y:Jb}(hd:zf M.L)(hi:i<M.L.length)(hst:(M.L.getD i default).st=3)(hy:y.st≠3)(hyp:ay y=false)(t but:Int):
 aF {M with L:=M.L.set i y} t but=aF M t but+(if t<(M.L.getD i default).fin then((List.range M.dr.length).countP (fun n=>dw (M.L.getD i default).bY.toNat n&& !(M.dr.getD n false)):Nat)else 0):=by
 generalize hx:M.L.getD i default=x at*;have hxh:∀n,aN n x=dw x.bY.toNat n:=fun n=>by unfold aN;simp[hst]
 have Sw:∀n,aN n y=false:=fun n=>by unfold aN;simp[hy]
 have hold:∀n,holderL (M.L.set i y) n=if dw x.bY.toNat n=true then-1 else holderL M.L n:=fun n=>by
  split
  ·rename_i h
   rcases gT (M.L.set i y) n with h1|⟨q,h1,hq,h2⟩
   ·unfold holderL at h1⊢;cases h3:(M.L.set i y).findIdx? (aN n)with
    |none=>rfl
    |some q=>rw[h3]at h1;simp only at h1;omega
   ·rw[iC]at h2;have hq':q<M.L.length:=by simpa using hq
    split at h2
    ·rw[Sw]at h2;cases h2
    ·rename_i e
     exact absurd (hd i q n hi hq' (by rw[hx,hxh];exact h) h2) (fun e2=>e ⟨e2,hi⟩)
  ·rename_i h
   exact kR hi (by rw[hx,Sw,hxh];simpa using h)
 have hS:∀n,n<M.dr.length→(dw x.bY.toNat n&& !(M.dr.getD n false))=true→bW {M with L:=M.L.set i y} t n=true∧bW M t n=decide (x.fin≤t):=fun n hn h=>by
  simp only[Bool.and_eq_true,Bool.not_eq_true']at h;constructor
  ·unfold bW;simp only;rw[hold,qaj h.1,h.2];rfl
  ·unfold bW;rw[xM hd hi (by rw[hx,hxh];exact h.1),Int.toNat_natCast,hx,h.2];have:¬(i:Int)<0:=by omega
   simp[this]
 have hT:∀n,n<M.dr.length→(dw x.bY.toNat n&& !(M.dr.getD n false))=false→bW M t n=bW {M with L:=M.L.set i y} t n:=fun n hn h=>by
  unfold bW;simp only;rw[hold];by_cases h1:dw x.bY.toNat n=true
  ·rw[h1,Bool.true_and]at h;have h2:M.dr.getD n false=true:=by simpa using h
   rw[h2];rfl
  ·rw[qai h1,iC];split
   ·rename_i e
    rcases gT M.L n with g1|⟨q,g1,hq,g2⟩
    ·simp[g1]
    ·rw[g1,Int.toNat_natCast]at e;rw[←e.1,hx,hxh]at g2;exact absurd g2 h1
   ·rfl
 have hcount:=zi (bW M t) (bW {M with L:=M.L.set i y} t) (fun n=>dw x.bY.toNat n&& !(M.dr.getD n false)) (decide (x.fin≤t)) M.dr.length hS hT;have htk:bM (M.L.set i y) t but=bM M.L t but:=by
  have hxp:ay x=false:=by unfold ay;simp[hst]
  rw[pR hi,hx,fo hyp,fo hxp];omega
 show aU {M with L:=M.L.set i y} t M.dr.length-bM (M.L.set i y) t but=aU M t M.dr.length-bM M.L t but+_;rw[htk];unfold aU;by_cases h:x.fin≤t
 ·rw[qaj (qag h)]at hcount;rw[qai (by omega)];omega
 ·rw[qai (by simp[h])]at hcount;rw[qaj (by omega)];omega
end
structure aS (M : Md) : Prop where
 mb:MB M
 ids:∀i,i<M.L.length→(M.L.getD i default).id=(i:Int)+1
 one:∀j∈M.L,1≤j.wid∧j.wid≤M.dr.length∧1≤j.lim∧1≤j.st∧j.st≤6
 rest:∀j∈M.L,j.st≠1→j.aW= -1
 runs:∀j∈M.L,j.st=3→M.now≤j.fin∧(((List.range M.dr.length).countP (dw j.bY.toNat):Nat):Int)=j.wid∧j.bY.toNat<2^M.dr.length
 plan:∀j∈M.L,j.aW= -1∨M.now≤j.aW
 nN:zf M.L
 free:∀t,M.now≤t→0≤aF M t 0
structure Calm (M : Md) : Prop where
 runs:∀j∈M.L,j.st=3→M.now<j.fin
 plan:∀j∈M.L,j.aW= -1∨M.now<j.aW
theorem jP {t but:Int}{j:Jb}(h:0≤j.wid):0≤fe t but j:=by
 unfold fe;split<;>omega
theorem zf.set {L:List Jb}{i:Nat}{y:Jb}(hd:zf L)(hi:i<L.length)(h:∀n,aN n y=true→aN n (L.getD i default)=true∨holderL L n<0):zf (L.set i y):=by
 intro a b n ha hb h1 h2;have ha':a<L.length:=by simpa using ha
 have hb':b<L.length:=by simpa using hb
 rw[iC]at h1 h2;have other:∀q,q<L.length→aN n y=true→aN n (L.getD q default)=true→i=q:=fun q hq hy hq2=>by
  rcases h n hy with h3|h3
  ·exact hd i q n hi hq h3 hq2
  ·have:=mg.1 h3 (L.getD q default) (by simp[List.getD,hq]);rw[hq2]at this;cases this
 split at h1
 ·rename_i e1
  split at h2
  ·rename_i e2;omega
  ·exact e1.1.symm.trans (other b hb' h1 h2)
 ·split at h2
  ·rename_i e2;exact(other a ha' h2 h1).symm.trans e2.1
  ·exact hd a b n ha' hb' h1 h2
theorem bN {L:List Jb}{i:Nat}(hi:i<L.length):L.getD i default∈L:=by simp[List.getD,hi]
section
variable {M : Md}
theorem aS.set (h:aS M){i:Nat}{y:Jb}(hmb:MB {M with L:=M.L.set i y})(hid:y.id=(M.L.getD i default).id)
 (h1:1≤y.wid∧y.wid≤M.dr.length∧1≤y.lim∧1≤y.st∧y.st≤6) (h2:y.st≠1→y.aW= -1)
 (h3:y.st=3→M.now≤y.fin∧(((List.range M.dr.length).countP (dw y.bY.toNat):Nat):Int)=y.wid∧y.bY.toNat<2^M.dr.length)
 (h4:y.aW= -1∨M.now≤y.aW) (hd:zf (M.L.set i y)) (hf:∀t,M.now≤t→0≤aF {M with L:=M.L.set i y} t 0):aS {M with L:=M.L.set i y}:=by
 have H:∀{P:Jb→Prop},(∀j∈M.L,P j)→P y→∀j∈M.L.set i y,P j:=fun h hx j hj=>by
  rcases List.mem_or_eq_of_mem_set hj with h1|rfl
  ·exact h j h1
  ·exact hx
 refine⟨hmb,fun q hq=>?_,H h.one h1,H h.rest h2,H h.runs h3,H h.plan h4,hd,hf⟩;have hq':q<M.L.length:=by simpa using hq
 show((M.L.set i y).getD q default).id=_;rw[iC];split
 ·rename_i e;rw[hid,e.1];exact h.ids q hq'
 ·exact h.ids q hq'
theorem Calm.set (h:Calm M){i:Nat}{y:Jb}(h1:y.st=3→M.now<y.fin)(h2:y.aW= -1∨M.now<y.aW):Calm {M with L:=M.L.set i y}:=by
 have H:∀{P:Jb→Prop},(∀j∈M.L,P j)→P y→∀j∈M.L.set i y,P j:=fun h hx j hj=>by
  rcases List.mem_or_eq_of_mem_set hj with h1|rfl
  ·exact h j h1
  ·exact hx
 exact⟨H h.runs h1,H h.plan h2⟩
theorem CV {x y:Jb}(h1:(y.st=3)↔(x.st=3))(h2:y.bY=x.bY)(L:List Jb):∀n,aN n y=true→aN n x=true∨holderL L n<0:=fun n h=>.inl (by rw[←holds_of h1 h2];exact h)
theorem aS.zk (h:aS M){i:Nat}(hi:i<M.L.length):aS {M with L:=M.L.set i ((M.L.getD i default).aR (-1))}:=by
 have hm:=bN hi;have bw:=h.mb.wid _ hm;have bl:=h.mb.lim _ hm;have bf:=h.mb.fin _ hm;have bn:=h.mb.bY _ hm;have bo:=h.one _ hm;have br:=h.runs _ hm;refine h.set (h.mb.set _ _ bw bl (by show(-1:Int)≤-1∧(-1:Int)≤_;omega) bf bn) rfl bo (fun _=>rfl) br (.inl rfl) (h.nN.set hi (CV Iff.rfl rfl _)) fun t ht=>?_;rw[ky hi];have h1:=h.free t ht;have h2:=jP (t:=t) (but:=0) bw.1;rw[fo (j:=(M.L.getD i default).aR (-1)) (by unfold ay;simp[Jb.aR,Jb.aW])];omega
theorem aS.eB (h:aS M)(j:Jb)(i:Nat)(hi:i≤M.L.length):aS {M with L:=dh (fB j) M.L i}:=by
 induction i with
 |zero=>exact h
 |succ i ih=>
  have ih:=ih (by omega);have hl:i<(dh (fB j) M.L i).length:=by rw[kG];omega
  have ha:=qH (f:=fB j) (L:=M.L) (i:=i) (by omega);rw[←jO (f:=fB j) (L:=M.L) (i:=i) (by omega)];by_cases hp:(ay (M.L.getD i default)&&(decide (j.id=0)||bA j (M.L.getD i default)))=true
  ·have e:fB j (M.L.getD i default)=(M.L.getD i default).aR (-1):=by unfold fB;rw[qaj hp]
   have:=ih.zk hl;simp only[ha]at this;rw[e];exact this
  ·have e:fB j (M.L.getD i default)=M.L.getD i default:=by unfold fB;rw[qai hp]
   rw[jO (by omega),←mZ (by omega) e];exact ih
theorem aS.drop (h:aS M)(j:Jb):aS (eH M j):=by
 have:=h.eB j M.L.length (qaf _);rw[oI]at this;exact this
theorem Calm.drop (h:Calm M)(j:Jb):Calm (eH M j):=by
 refine⟨fun x hx=>?_,fun x hx=>?_⟩
 ·obtain⟨y,hy,rfl⟩:=List.mem_map.1 hx;unfold fB;split
  ·exact h.runs y hy
  ·exact h.runs y hy
 ·obtain⟨y,hy,rfl⟩:=List.mem_map.1 hx;unfold fB;split
  ·exact .inl rfl
  ·exact h.plan y hy
theorem zl (L:List Jb)(x:Jb)(n:Nat)(hx:aN n x=false):holderL (L++[x]) n=holderL L n:=by
 unfold holderL;rw[List.findIdx?_append];have: [x].findIdx? (aN n)=none:=by rw[List.findIdx?_eq_none_iff];intro y hy;rw[List.mem_singleton]at hy;subst hy;exact hx
 rw[this];cases L.findIdx? (aN n)<;>rfl
theorem wZ {L:List Jb}{x:Jb}{q:Nat}(hq:q<L.length):(L++[x]).getD q default=L.getD q default:=by
 simp only[List.getD];rw[List.getElem?_append_left hq]
theorem CX (x:Jb)(h1:x.st≠3)(h2:ay x=false)(t but:Int):aF {M with L:=M.L++[x]} t but=aF M t but:=by
 have hx:∀n,aN n x=false:=fun n=>by unfold aN;simp[h1]
 have hn:∀k,bW {M with L:=M.L++[x]} t k=bW M t k:=fun k=>by
  unfold bW;simp only;rw[zl _ _ _ (hx k)];rcases gT M.L k with g|⟨q,g,hq,_⟩
  ·simp[g]
  ·rw[g,Int.toNat_natCast,wZ hq]
 have e:aU {M with L:=M.L++[x]} t M.dr.length=aU M t M.dr.length:=by
  unfold aU;congr 2;exact funext fun k=>hn k
 show aU {M with L:=M.L++[x]} t M.dr.length-bM (M.L++[x]) t but=aU M t M.dr.length-bM M.L t but;rw[e,kv,kv,List.map_append,List.sum_append];simp[fo h2]
theorem aS.app (h:aS M)(x:Jb)(hmb:MB {M with L:=M.L++[x]})(hid:x.id=(M.L.length:Int)+1)(h1:1≤x.wid∧x.wid≤M.dr.length∧1≤x.lim∧1≤x.st∧x.st≤6)(h2:x.aW= -1)(h3:x.st≠3):aS {M with L:=M.L++[x]}:=by
 have H:∀{P:Jb→Prop},(∀j∈M.L,P j)→P x→∀j∈M.L++[x],P j:=fun h hx j hj=>by
  rcases List.mem_append.1 hj with h1|h1
  ·exact h j h1
  ·rw[List.mem_singleton]at h1;subst h1;exact hx
 have hx:∀n,aN n x=false:=fun n=>by unfold aN;simp[h3]
 have hlast:(M.L++[x]).getD M.L.length default=x:=by simp[List.getD]
 refine⟨hmb,fun q hq=>?_,H h.one h1,H h.rest fun _=>h2,H h.runs fun e=>absurd e h3,H h.plan (.inl h2),fun a b n ha hb k1 k2=>?_,fun t ht=>?_⟩
 ·show((M.L++[x]).getD q default).id=_;rcases Nat.lt_or_ge q M.L.length with g|g
  ·rw[wZ g];exact h.ids q g
  ·have:q=M.L.length:=by have:q<(M.L++[x]).length:=hq;simp at this;omega
   subst this;rw[hlast,hid]
 ·have at':∀q,q<(M.L++[x]).length→aN n ((M.L++[x]).getD q default)=true→q<M.L.length:=fun q hq k=>by
   rcases Nat.lt_or_ge q M.L.length with g|g
   ·exact g
   ·have:q=M.L.length:=by simp at hq;omega
    subst this;rw[hlast,hx]at k;cases k
  have a1:=at' a ha k1;have b1:=at' b hb k2;rw[wZ a1]at k1;rw[wZ b1]at k2;exact h.nN a b n a1 b1 k1 k2
 ·rw[CX x h3 (by unfold ay;simp[h2])];exact h.free t ht
theorem Calm.app (h:Calm M)(x:Jb)(h2:x.aW= -1)(h3:x.st≠3):Calm {M with L:=M.L++[x]}:=by
 have H:∀{P:Jb→Prop},(∀j∈M.L,P j)→P x→∀j∈M.L++[x],P j:=fun h hx j hj=>by
  rcases List.mem_append.1 hj with h1|h1
  ·exact h j h1
  ·rw[List.mem_singleton]at h1;subst h1;exact hx
 exact⟨H h.runs fun e=>absurd e h3,H h.plan (.inl h2)⟩
end
end Go.Proofs.YtaimcpmcndapcaaGreat
