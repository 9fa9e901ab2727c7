/-
 Own words and walks, merged: part 9 of 10.
-/
import Derived.Test.YtaimcpmcndapcaaGreatCp8
set_option maxRecDepth 1000000
set_option maxHeartbeats 8000000
set_option linter.all false
namespace Go.Proofs.YtaimcpmcndapcaaGreat
open Go.Proofs.Tryz
open Go.RowKit Go.Lib Go.Sort
section
variable {w : World} {b c t d p g a : Nat} {v : Value} {m : Int} {P : Pg} {M : Md} {R : Wk}
theorem K9 (h:SW w b c t d p v g a m R P)(hk:PK P)(ha:a≤800)(hm:m≤1000000)(hP:ay R.aM=true)(hb1:R.aM.aW≤1099511627776)(hb2:0≤R.aM.lim∧R.aM.lim≤1048576)(hb3:1≤R.aM.lim)(hb4:0≤R.aM.wid∧R.aM.wid≤64)(F:Int→Int)
 (hF:∀t,P.now≤t→F t=P.f t+had (max R.aM.aW P.now) (R.aM.aW+R.aM.lim) R.aM.wid t) (hr:∀t,P.now≤t→0≤F t∧F t≤64):
 Calls prog 192 #[.pointer (some ⟨b,0,none⟩),.pointer (some ⟨c,0,none⟩)] w (aI w b c t d p v g (a+2) (m+1) (gP 220) R {P with f:=F}):=by
 have zJ:=bC;have zS:=mM;obtain⟨k,hk1⟩:=qaa (10);obtain⟨k3,hk3⟩:∃k,k=3:=⟨_,rfl⟩;rw[←hk1]at zJ;rw[←hk3]at zS;have hk0:¬k=0:=by omega
 have BB:¬k3=0:=by omega
 have lJ:=aA R.aM;rw[←hk1]at lJ;replace hk1:=qae hk1;have hS:=qae h;have uo:=h.wk.pY lJ;have hpl:=nA (w:=w) R.aM hb1 hb2;have lS:(aZ R.aM).length=3:=by unfold aZ;split<;>rfl
 have oS:∀u∈aZ R.aM,u.oneCell'=true:=by unfold aZ;split<;>(intro u hu;simp at hu;rcases hu with rfl|rfl|rfl<;>rfl)
 have ST:Hid (∀W:World,Sem.run prog (storeCells ⟨W.heap.size,0,none⟩ (aZ R.aM) 0) (W.alloc (.cells #[.int .i64 0,.int .i64 0,.int .i64 0] 131))=.ok () (W.alloc (.cells (aZ R.aM).toArray 131))):=fun W=>dW W W.heap.size (aZ R.aM) [.int .i64 0,.int .i64 0,.int .i64 0] 131 rfl lS oS;rw[←hk3]at lS;replace hk3:=qae hk3;generalize nD:aZ R.aM=cS at*;replace nD:=qae nD;generalize ag R.aM=cJ at*;clear h;have oF:cS=[.int .i64 R.aM.aW,.int .i64 (R.aM.aW+R.aM.lim),.int .i64 R.aM.wid]:=by rw[←nD.out];unfold aZ;rw[qaj hP]
 rw[hP]at hpl;replace hP:=qae hP;replace oF:=qae oF;go_enter func192,ntmps192;go_wp2_with fail;go_at_call 146;refine hpl.mono ?_;clear hpl uo;rintro e w1 ⟨rfl,hb⟩;have st1:=ST.out w1;obtain⟨w2,hw2⟩:=qaa (w1.alloc (.cells cS.toArray 131));rw[←hw2]at st1;have hb2':Below w.heap.size w w2:=by rw[hw2];exact hb.alloc hb.size _
 have hy2:Hid (w2.heap[w1.heap.size]? =some (.cells cS.toArray 131 (0,0))):=by show _=_;rw[hw2];exact heap_alloc_new w1 _
 have hs2:w2.heap.size=w1.heap.size+1:=by rw[hw2];simp
 replace hw2:=qae hw2;have hS2:=qae (hS.out.kept hb2');go_wp2_with fail;refine Reg2.ro w2 5 22 [.p 0,.p 1,.p 3,.m 7,.m 0] [.pointer (some ⟨p,0,none⟩),.agg cS.toArray] (by kernel_rfl) (by kernel_rfl) rfl rfl ⟨rfl,rfl,rfl,qaf _,fun _ _=>rfl⟩ ?_;dsimp only[Reg2.fF]
 repeat((first
  |(refine' Reg2.ak _ (by rfl) (fun wz=>?_) ?_;rotate_left;(go_simp;first|rfl|rw[qai (by omega)]))
  |(refine Reg2.az (by rfl) (fun wz hI hF=>?_) (fun _=>?_)
    ·unfold Reg2.One;have c0:=(hS2.out.cw.kept hI).c2;have d0:=gX ((hI.block _ (ai hy2.out)).trans hy2.out) lS;go_wp2_with fail
     first|exact⟨_,rfl,rfl,qad⟩|exact⟨_,rfl,⟨(),rfl,trivial⟩,qad⟩));simp only[Act.put,xA,xB,xC,xD,xE,id])
 refine Reg2.aD ?_;intro w4 HI4 _ gB;clear gB;dsimp only[List.drop];have bZ:=hS2.out.kept HI4;have hrel:=wH bZ.cw hk ha hm R.aM.aW (R.aM.aW+R.aM.lim) R.aM.wid F (by omega) (by omega) hb4 hF hr;have KT:=oF.out;clear nD oF;subst KT;go_wp2_with fail;go_at_call 200;refine hrel.mono ?_;clear hrel;rintro e w5 ⟨rfl,v5,g5,iI,hS5⟩;have fU:=bZ.core iI hS5;have hfin:=(WS.of_below (hb2'.trans (HI4.mono hb2'.size)):WS w w4 b c t d p v g v g).trans (WS.dU hS5);go_wp2_with fail;go_ret;exact⟨rfl,v5,g5,fU,hfin⟩
theorem La (h:SW w b c t d p v g a m R P)(hP:ay R.aM=false)(hb1:R.aM.aW≤1099511627776)(hb2:0≤R.aM.lim∧R.aM.lim≤1048576):
 Calls prog 192 #[.pointer (some ⟨b,0,none⟩),.pointer (some ⟨c,0,none⟩)] w (aI w b c t d p v g a m (gP 220) R P):=by
 have zJ:=bC;have zS:=mM;obtain⟨k,hk1⟩:=qaa (10);obtain⟨k3,hk3⟩:∃k,k=3:=⟨_,rfl⟩;rw[←hk1]at zJ;rw[←hk3]at zS;have hk0:¬k=0:=by omega
 have BB:¬k3=0:=by omega
 have lJ:=aA R.aM;rw[←hk1]at lJ;replace hk1:=qae hk1;have hS:=qae h;have uo:=h.wk.pY lJ;have hpl:=nA (w:=w) R.aM hb1 hb2;have lS:(aZ R.aM).length=3:=by unfold aZ;split<;>rfl
 have oS:∀u∈aZ R.aM,u.oneCell'=true:=by unfold aZ;split<;>(intro u hu;simp at hu;rcases hu with rfl|rfl|rfl<;>rfl)
 have ST:Hid (∀W:World,Sem.run prog (storeCells ⟨W.heap.size,0,none⟩ (aZ R.aM) 0) (W.alloc (.cells #[.int .i64 0,.int .i64 0,.int .i64 0] 131))=.ok () (W.alloc (.cells (aZ R.aM).toArray 131))):=fun W=>dW W W.heap.size (aZ R.aM) [.int .i64 0,.int .i64 0,.int .i64 0] 131 rfl lS oS;rw[←hk3]at lS;replace hk3:=qae hk3;generalize nD:aZ R.aM=cS at*;replace nD:=qae nD;generalize ag R.aM=cJ at*;clear h;rw[hP]at hpl;go_enter func192,ntmps192;go_wp2_with fail;go_at_call 146;refine hpl.mono ?_;clear hpl uo;rintro e w1 ⟨rfl,hb⟩;have st1:=ST.out w1;obtain⟨w2,hw2⟩:=qaa (w1.alloc (.cells cS.toArray 131));rw[←hw2]at st1;have hb2':Below w.heap.size w w2:=by rw[hw2];exact hb.alloc hb.size _
 have hy2:Hid (w2.heap[w1.heap.size]? =some (.cells cS.toArray 131 (0,0))):=by show _=_;rw[hw2];exact heap_alloc_new w1 _
 have hs2:w2.heap.size=w1.heap.size+1:=by rw[hw2];simp
 replace hw2:=qae hw2;have hS2:=qae (hS.out.kept hb2');go_wp2_with fail;go_ret;exact⟨rfl,v,g,hS2.out,WS.of_below hb2'⟩
theorem QW (h:SW w b c t d p v g a m R P)(hk:PK P)(ha:a≤800)(hm:m≤1000000)(hst:R.aM.st=1)(hx:0≤R.fu∧R.fu≤1099511627776)(hb2:1≤R.aM.lim∧R.aM.lim≤1048576)(hb4:0≤R.aM.wid∧R.aM.wid≤64)(F:Int→Int)
 (hF:∀t,P.now≤t→F t=P.f t+had (max R.fu P.now) (R.fu+R.aM.lim) (-R.aM.wid) t) (hr:∀t,P.now≤t→0≤F t∧F t≤64):
 Calls prog 220 #[.pointer (some ⟨b,0,none⟩),.pointer (some ⟨c,0,none⟩)] w (aI w b c t d p v g (a+2) (m+1) (gP 243) {R with aM:=R.aM.aR R.fu} {P with f:=F}):=by
 have zJ:=bC;have zS:=mM;obtain⟨k,hk1⟩:=qaa (10);obtain⟨k3,hk3⟩:∃k,k=3:=⟨_,rfl⟩;rw[←hk1]at zJ;rw[←hk3]at zS;have hk0:¬k=0:=by omega
 have BB:¬k3=0:=by omega
 have M6:=h.wk.at 10 (.int .i64 R.fu) rfl;have c20:=h.wk.at 20 (.int .i64 R.aM.aW) rfl;have f20:=h.wk.free 20;have hW1:=h.wk.plan R.fu;have hS1:=h.work hW1 (dQ w 20 (.int .i64 R.fu));have hf1:WS w (w.setCell ⟨b,20,none⟩ (.int .i64 R.fu)) b c t d p v g v g:=WS.bT (dQ w 20 (.int .i64 R.fu));obtain⟨y,hy⟩:=qaa (R.aM.aR R.fu);have hyp:y.aW=R.fu:=by rw[hy];rfl
 have hyl:y.lim=R.aM.lim:=by rw[hy];rfl
 have NN:y.wid=R.aM.wid:=by rw[hy];rfl
 have hP:ay y=true:=bQ.2 ⟨by rw[hy];exact hst,by rw[hyp];exact hx.1⟩;rw[←hy]at hS1 hW1⊢;replace hy:=qae hy;have lJ:=aA y;rw[←hk1]at lJ;replace hk1:=qae hk1;have uo:=hW1.pY (R:={R with aM:=y}) lJ;rw[show({R with aM:=y}:Wk).aM=y from rfl]at uo;have hpl:=nA (w:=w.setCell ⟨b,20,none⟩ (.int .i64 R.fu)) y (by rw[hyp];exact hx.2) (by rw[hyl];omega);have oF:aZ y=[.int .i64 R.fu,.int .i64 (R.fu+R.aM.lim),.int .i64 R.aM.wid]:=by unfold aZ;rw[qaj hP,hyp,hyl,NN]
 rw[hP]at hpl;have lS:(aZ y).length=3:=by rw[oF];rfl
 have oS:∀u∈aZ y,u.oneCell'=true:=by rw[oF];intro u hu;simp at hu;rcases hu with rfl|rfl|rfl<;>rfl
 have ST:Hid (∀W:World,Sem.run prog (storeCells ⟨W.heap.size,0,none⟩ (aZ y) 0) (W.alloc (.cells #[.int .i64 0,.int .i64 0,.int .i64 0] 131))=.ok () (W.alloc (.cells (aZ y).toArray 131))):=fun W=>dW W W.heap.size (aZ y) [.int .i64 0,.int .i64 0,.int .i64 0] 131 rfl lS oS;rw[←hk3]at lS;replace hk3:=qae hk3;generalize nD:aZ y=cS at*;replace nD:=qae nD;generalize ag y=cJ at*;replace oF:=qae oF;replace hP:=qae hP;replace hyp:=qae hyp;replace hyl:=qae hyl;replace NN:=qae NN;clear h;generalize R.fu=xa at*;go_enter func220,ntmps220;go_wp2_with fail;go_at_call 146;refine hpl.mono ?_;clear hpl uo M6 c20 f20;rintro e w1 ⟨rfl,hb⟩;have st1:=ST.out w1;obtain⟨w2,hw2⟩:=qaa (w1.alloc (.cells cS.toArray 131));rw[←hw2]at st1;have hb2':Below (w.setCell ⟨b,20,none⟩ (.int .i64 xa)).heap.size (w.setCell ⟨b,20,none⟩ (.int .i64 xa)) w2:=by rw[hw2];exact hb.alloc hb.size _
 have hy2:Hid (w2.heap[w1.heap.size]? =some (.cells cS.toArray 131 (0,0))):=by show _=_;rw[hw2];exact heap_alloc_new w1 _
 replace hw2:=qae hw2;have hS2:=qae (hS1.kept hb2');have hf2:=hf1.trans (WS.of_below hb2');go_wp2_with fail;refine Reg2.ro w2 5 31 [.p 0,.p 1,.p 3,.m 7,.m 0] [.pointer (some ⟨p,0,none⟩),.agg cS.toArray] (by kernel_rfl) (by kernel_rfl) rfl rfl ⟨rfl,rfl,rfl,qaf _,fun _ _=>rfl⟩ ?_;dsimp only[Reg2.fF]
 repeat((first
  |(refine' Reg2.ak _ (by rfl) (fun wz=>?_) ?_;rotate_left;(go_simp;first|rfl|rw[qai (by omega)]))
  |(refine Reg2.az (by rfl) (fun wz hI hF=>?_) (fun _=>?_)
    ·unfold Reg2.One;have c0:=(hS2.out.cw.kept hI).c2;have d0:=gX ((hI.block _ (ai hy2.out)).trans hy2.out) lS;go_wp2_with fail
     first|exact⟨_,rfl,rfl,qad⟩|exact⟨_,rfl,⟨(),rfl,trivial⟩,qad⟩));simp only[Act.put,xA,xB,xC,xD,xE,id])
 refine Reg2.aD ?_;intro w4 HI4 _ gB;clear gB;dsimp only[List.drop];have bZ:=hS2.out.kept HI4;have hrel:=Kz bZ.cw hk ha hm xa (xa+R.aM.lim) R.aM.wid F (by omega) (by omega) hb4 hF hr;have KT:=oF.out;clear nD oF;subst KT;go_wp2_with fail;go_at_call 202;refine hrel.mono ?_;clear hrel;rintro e w5 ⟨rfl,v5,g5,iI,hS5⟩;have fU:=bZ.core iI hS5;have hfin:=(hf2.trans (WS.of_below HI4)).trans (WS.dU hS5);go_wp2_with fail;go_ret;exact⟨rfl,v5,g5,fU,hfin⟩
theorem Lb (h:SW w b c t d p v g a m R P)(hk:PK P)(hx:R.fu=P.now)(hj: -9223372036854775808≤R.aM.wid∧R.aM.wid≤9223372036854775807){s:Nat}{T0:List Int}(hT0:tq P.T R.aM.wid s 0 T0):
 Calls prog 243 #[.pointer (some ⟨b,0,none⟩),.pointer (some ⟨c,0,none⟩)] w (aI w b c t d p v g a m .nilFunc R {P with T:=T0,J:=dJ P.J (iE P.now) R.aM.id (fun j:Jb=>decide (j.state=1)) (nR P.now s)}):=by
 have zJ:=bC;obtain⟨k,hk1⟩:=qaa (10);rw[←hk1]at zJ;have hk0:¬k=0:=by omega
 have lJ:=aA R.aM;rw[←hk1]at lJ;replace hk1:=qae hk1;have d1:(R.fu == P.now)=true:=by simp[hx]
 have XP:=fun(W:World) (hW:SW W b c t d p v g a m R P)=>hW.wk.pY lJ;have hla:=fun(W:World) (hW:SW W b c t d p v g a m R P)=>launch_fn hW.cw hk R.aM hj hT0;have hS:=qae h;replace hx:=qae hx;generalize ag R.aM=cJ at*;clear h;go_enter func243,ntmps243;go_wp2_with fail;refine Reg2.ro w 10 37 [.p 0,.p 1,.p 3,.p 7,.m 15,.p 0,.p 32,.p 96,.m 224,.m 480] [.int .i64 R.fu,.pointer (some ⟨p,0,none⟩),.int .i64 P.now] (by kernel_rfl) (by kernel_rfl) rfl rfl ⟨rfl,rfl,rfl,qaf _,fun _ _=>rfl⟩ ?_;dsimp only[Reg2.fF]
 repeat((first
  |(refine' Reg2.ak _ (by rfl) (fun wz=>?_) ?_;rotate_left;(go_simp;first|rfl|rw[qai (by omega)]))
  |(refine Reg2.az (by rfl) (fun wz hI hF=>?_) (fun _=>?_)
    ·unfold Reg2.One;have q0:=(hS.out.kept hI).wk.at 10 (.int .i64 R.fu) rfl;have c0:=(hS.out.cw.kept hI).c2;go_wp2_with fail
     first|exact⟨_,rfl,rfl,qad⟩|exact⟨_,rfl,⟨(),rfl,trivial⟩,qad⟩));simp only[Act.put,xA,xB,xC,xD,xE,id])
 refine Reg2.pm (fun wz hI hF=>?_) (fun r9=>?_) (by rfl)
 ·go_wp2_with (go_at_call 45;go_must (refine(il (hS.out.kept hI).cw).mono ?_);rintro e w' ⟨rfl,rfl⟩)
  first|exact⟨_,rfl,rfl,qad⟩|exact⟨_,rfl,⟨(),rfl,trivial⟩,qad⟩
 simp only[Act.put,xA,xB,xC,xD,xE,id];refine Reg2.aD ?_;intro w4 HI4 _ gB;clear gB;dsimp only[List.drop];have bZ:=hS.out.kept HI4;have ld4:=XP w4 bZ;have hl4:=hla w4 bZ;go_wp2_with fail;go_at_call 268;refine hl4.mono ?_;clear hl4;rintro e w5 ⟨rfl,v5,g5,iI,hS5⟩;have fU:=bZ.core iI hS5;have hfin:=(WS.of_below HI4:WS w w4 b c t d p v g v g).trans (WS.dU hS5);go_wp2_with fail;go_ret;exact⟨rfl,v5,g5,fU,hfin⟩
theorem EY (h:SW w b c t d p v g a m R P)(hx:R.fu≠P.now):
 Calls prog 243 #[.pointer (some ⟨b,0,none⟩),.pointer (some ⟨c,0,none⟩)] w (aI w b c t d p v g a m .nilFunc R {P with J:=dJ P.J (jk R.fu) R.nC (fun j:Jb=>decide (j.state=1)) (mY R.fu)}):=by
 have d1:(R.fu == P.now)=false:=by simp[hx]
 have hpl:=fun(W:World) (hW:SW W b c t d p v g a m R P)=>FY hW.cw R.nC R.fu;have hS:=qae h;replace hx:=qae hx;clear h;go_enter func243,ntmps243;go_wp2_with fail;refine Reg2.ro w 10 37 [.p 0,.p 1,.p 3,.p 7,.m 15,.p 0,.p 32,.p 96,.m 224,.m 480] [.int .i64 R.fu,.pointer (some ⟨p,0,none⟩),.int .i64 P.now] (by kernel_rfl) (by kernel_rfl) rfl rfl ⟨rfl,rfl,rfl,qaf _,fun _ _=>rfl⟩ ?_;dsimp only[Reg2.fF]
 repeat((first
  |(refine' Reg2.ak _ (by rfl) (fun wz=>?_) ?_;rotate_left;(go_simp;first|rfl|rw[qai (by omega)]))
  |(refine Reg2.az (by rfl) (fun wz hI hF=>?_) (fun _=>?_)
    ·unfold Reg2.One;have q0:=(hS.out.kept hI).wk.at 10 (.int .i64 R.fu) rfl;have c0:=(hS.out.cw.kept hI).c2;go_wp2_with fail
     first|exact⟨_,rfl,rfl,qad⟩|exact⟨_,rfl,⟨(),rfl,trivial⟩,qad⟩));simp only[Act.put,xA,xB,xC,xD,xE,id])
 refine Reg2.pm (fun wz hI hF=>?_) (fun r9=>?_) (by rfl)
 ·go_wp2_with (go_at_call 45;go_must (refine(il (hS.out.kept hI).cw).mono ?_);rintro e w' ⟨rfl,rfl⟩)
  first|exact⟨_,rfl,rfl,qad⟩|exact⟨_,rfl,⟨(),rfl,trivial⟩,qad⟩
 simp only[Act.put,xA,xB,xC,xD,xE,id];refine Reg2.aD ?_;intro w4 HI4 _ gB;clear gB;dsimp only[List.drop];have bZ:=qae (hS.out.kept HI4);go_wp2_with fail;refine Reg2.ro w4 14 37 [.p 0,.p 1,.p 3,.m 7,.p 0,.p 16,.p 48,.p 112,.m 240,.p 0,.p 512,.p 1536,.p 3584,.m 7680] [.pointer (some ⟨t,0,none⟩),.int .i64 R.nC,.int .i64 R.fu] (by kernel_rfl) (by kernel_rfl) rfl rfl ⟨rfl,rfl,rfl,qaf _,fun _ _=>rfl⟩ ?_;dsimp only[Reg2.fF]
 repeat((first
  |(refine' Reg2.ak _ (by rfl) (fun wz=>?_) ?_;rotate_left;(go_simp;first|rfl|rw[qai (by omega)]))
  |(refine Reg2.az (by rfl) (fun wz hI hF=>?_) (fun _=>?_)
    ·unfold Reg2.One;have c0:=(bZ.out.cw.kept hI).c0;have q0:=(bZ.out.kept hI).wk.at 9 (.int .i64 R.nC) rfl;have F8:=(bZ.out.kept hI).wk.at 10 (.int .i64 R.fu) rfl;go_wp2_with fail
     first|exact⟨_,rfl,rfl,qad⟩|exact⟨_,rfl,⟨(),rfl,trivial⟩,qad⟩));simp only[Act.put,xA,xB,xC,xD,xE,id])
 refine Reg2.aD ?_;intro w5 Ag _ gB;clear gB;dsimp only[List.drop];have hS5:=bZ.out.kept Ag;have ZM:=hpl w5 hS5;go_wp2_with fail;go_at_call 134;refine ZM.mono ?_;clear ZM;rintro e w6 ⟨rfl,v6,g6,Ea,fU⟩;have iQ:=hS5.core Ea fU;have hfin:=(WS.of_below (HI4.trans (Ag.mono HI4.size)):WS w w5 b c t d p v g v g).trans (WS.dU fU);go_wp2_with fail;go_ret;exact⟨rfl,v6,g6,iQ,hfin⟩
theorem EZ (h:SW w b c t d p v g a m R P)(hc:P.cl=true):
 Calls prog 144 #[.pointer (some ⟨b,0,none⟩),.pointer (some ⟨c,0,none⟩)] w (aI w b c t d p v g a m .nilFunc {R with rep:=mF 12,ok:=false} P):=by
 have hcl:=jR h.cw;rw[hc]at hcl;have hf:=jL h.wk 12;go_enter func144,ntmps144;go_wp2_with (first|(go_at_call 42;go_must (refine hcl.mono ?_);rintro e w' ⟨rfl,rfl⟩)|(go_at_call 188;go_must (refine hf.mono ?_);rintro e w8 ⟨rfl,fE,iw⟩));go_ret;exact⟨rfl,v,g,h.work fE iw,WS.bT iw⟩
theorem zH (h:dm w b R):Sem.run prog (loadCellsFrom ⟨b,9,none⟩ 0 2 #[]) w=.ok #[.int .i64 R.nC,.int .i64 R.fu] w:=
 zB (cs:=[.int .i64 R.nC,.int .i64 R.fu]) h rfl fun j u hj=>by
  rcases(show j=0∨j=1 by have:=(List.getElem?_eq_some_iff.1 hj).1;simp at this;omega)with rfl|rfl
  ·exact hj
  ·exact hj
theorem QX (h:SW w b c t d p v g a m R (au M))(hI:aS M)(h1:1≤M.dr.length)(hll:M.L.length≤900)(ha:a≤800)(hxt: -9223372036854775808≤R.fu∧R.fu≤9223372036854775807)(hc:M.cl=false)(hfit:eY M R.nC R.fu=false):
 Calls prog 144 #[.pointer (some ⟨b,0,none⟩),.pointer (some ⟨c,0,none⟩)] w (aI w b c t d p v g a m .nilFunc R (au M)):=by
 have hcl:=jR h.cw;rw[show(au M).cl=false from hc]at hcl;have hft:=AL h.cw hI h1 hll ha R.nC R.fu hxt;rw[hfit]at hft;have ld:=zH h.wk;have x9:=h.wk.at 9 (.int .i64 R.nC) rfl;have M6:=h.wk.at 10 (.int .i64 R.fu) rfl;go_enter func144,ntmps144;go_wp2_with (first|(go_at_call 42;go_must (refine hcl.mono ?_);rintro e w' ⟨rfl,rfl⟩)|(go_at_call 69;go_must (refine hft.mono ?_);rintro e w8 ⟨rfl,kN⟩));go_ret;exact⟨rfl,v,g,h.kept kN,WS.of_below kN⟩
theorem NQ (h:SW w b c t d p v g a m R (au M))(hI:aS M)(h1:1≤M.dr.length)(hll:M.L.length≤900)(ha:a≤800)(hxt: -9223372036854775808≤R.fu∧R.fu≤9223372036854775807)(hc:M.cl=false)(hfit:eY M R.nC R.fu=true):
 Calls prog 144 #[.pointer (some ⟨b,0,none⟩),.pointer (some ⟨c,0,none⟩)] w (aI w b c t d p v g a m (gP 192) {R with aM:=cz M.L R.nC,ok:=true} (au M)):=by
 have zJ:=bC;obtain⟨k,hk1⟩:=qaa (10);rw[←hk1]at zJ;have hk0:¬k=0:=by omega
 have hcl:=jR h.cw;rw[show(au M).cl=false from hc]at hcl;have hft:=AL h.cw hI h1 hll ha R.nC R.fu hxt;rw[hfit]at hft;have ld:=zH h.wk;have x9:=h.wk.at 9 (.int .i64 R.nC) rfl;have M6:=h.wk.at 10 (.int .i64 R.fu) rfl;obtain⟨x,hx⟩:=qaa (cz M.L R.nC);rw[←hx];have hget:=qae (fun(W:World) (hW:SW W b c t d p v g a m R (au M))=>show Calls prog 41 #[.pointer (some ⟨t,0,none⟩),.int .i64 R.nC] W fun e w'=>e=.returned (.tuple #[.agg (ag x).toArray,.int .i64 (iR M.L R.nC)])∧Gr W w' from by
  have:=jh hW.cw.fZ R.nC;unfold jZ at this;rw[show(au M).J=M.L from rfl,←hx]at this;exact this)
 replace hx:=qae hx;have lJ:=aA x;rw[←hk1]at lJ;replace hk1:=qae hk1;have hj:=fun(W:World) (hW:SW W b c t d p v g a m R (au M))=>hW.wk.wK x;generalize ag x=cJ at*;obtain⟨W9,mG⟩:∃W9,W9=iF {R with aM:=x}:=⟨_,rfl⟩;rw[←mG]at hj;replace mG:=qae mG;have hS:=qae h;clear h;go_enter func144,ntmps144;go_wp2_with (first|(go_at_call 42;go_must (refine hcl.mono ?_);rintro e w' ⟨rfl,rfl⟩)|(go_at_call 69;go_must (refine hft.mono ?_);rintro e w2 ⟨rfl,hb2⟩));have hS2:=qae (hS.out.kept hb2);have c0:=hS2.out.cw.c0;have q9:=hS2.out.wk.at 9 (.int .i64 R.nC) rfl;clear hcl hft ld x9 M6;go_region_with (go_at_call 41;go_must (refine(hget.out _ hS2.out.drew).mono ?_);rintro e w' ⟨rfl,hgr⟩;have uV:=hS2.out.drew.kept hgr.below;obtain⟨Cc,sO⟩:=hj w' uV)
 all_goals
  have iA:=uV.work sO (dV w' W9.toArray);have hfr:WS w2 (w'.setRow b W9.toArray) b c t d p v g v g:=((WS.of_below hgr.below:WS w2.drew w' b c t d p v g v g).trans (WS.bT (dV w' W9.toArray))).AA;have hfr2:=(WS.of_below hb2:WS w w2 b c t d p v g v g).trans hfr;clear Cc sO uV hgr c0 q9 hfr;generalize w'.setRow b W9.toArray=w9 at*;have a33:=iA.wk.at 33 (.bool R.ok) rfl;have f33:=iA.wk.free 33;have Uy:=iA.work (iA.wk.WB true) (dQ w9 33 (.bool true));have ZN:=hfr2.trans (WS.bT (dQ w9 33 (.bool true)));go_wp2_with fail;go_ret;have ex:=hx.out;clear hx;subst ex;exact⟨rfl,v,g,Uy,ZN⟩
end
section
variable {w : World} {b c t d p g a : Nat} {v : Value} {m : Int} {P P1 : Pg} {M : Md} {R : Wk}
theorem oV.uniq {l l1 l2:List Int}{n:Int}{d:Bool}{e1 e2:Int}(h:oV l n d e1 l1)(h':oV l n d e2 l2):e1=e2∧l1=l2:=by
 by_cases h1:n<0∨(l.length:Int)≤n
 ·obtain⟨rfl,rfl⟩:=h.out h1;obtain⟨rfl,rfl⟩:=h'.out h1;exact⟨rfl,rfl⟩
 ·by_cases h2:d=decide (l.getD n.toNat 0<3)
  ·obtain⟨rfl,rfl⟩:=h.good (by omega) (by omega) h2;obtain⟨rfl,rfl⟩:=h'.good (by omega) (by omega) h2;exact⟨rfl,rfl⟩
  ·obtain⟨rfl,rfl⟩:=h.bad (by omega) (by omega) h2;obtain⟨rfl,rfl⟩:=h'.bad (by omega) (by omega) h2;exact⟨rfl,rfl⟩
def QY (b c t d p a:Nat)(m:Int)(R:Wk)(P:Pg)(x:Int)(T':List Int)(a':Nat)(m':Int)(R':Wk)(P':Pg):Prop:=
 ∀(W:World) (v1:Value) (g1:Nat),SW W b c t d p v1 g1 a m R {P with T:=T'}→Calls prog 239 #[.pointer (some ⟨b,0,none⟩),.pointer (some ⟨c,0,none⟩),.int .i64 x,.int .i64 (-1)] W (aI W b c t d p v1 g1 a' m' .nilFunc R' P')
def QZ (b c t d p a:Nat)(m:Int)(R:Wk)(P:Pg)(x:Int)(T':List Int)(a':Nat)(m':Int)(R':Wk)(P':Pg):Prop:=
 ∀(W:World) (v1:Value) (g1:Nat),SW W b c t d p v1 g1 a m R {P with T:=T'}→Calls prog 239 #[.pointer (some ⟨b,0,none⟩),.pointer (some ⟨c,0,none⟩),.int .i64 x,.int .i64 1] W (aI W b c t d p v1 g1 a' m' .nilFunc R' P')
theorem resume_fn (h:SW w b c t d p v g a m R P)(hk:PK P)(hn: -9223372036854775808≤R.ah.node∧R.ah.node≤9223372036854775807){x0:Int}{T0:List Int}(hT0:oV P.T R.ah.node false x0 T0){a':Nat}{m':Int}{R':Wk}{P':Pg}
 (X3:QZ b c t d p a m R P x0 T0 a' m' R' P'):
 Calls prog 218 #[.pointer (some ⟨b,0,none⟩),.pointer (some ⟨c,0,none⟩)] w (aI w b c t d p v g a' m' .nilFunc R' P'):=by
 have hS:=qae h;replace hT0:=qae hT0;have hmu:=fun(W:World) (hW:SW W b c t d p v g a m R P)=>KA hW.cw hk R.ah.node hn;clear h;go_enter func218,ntmps218;go_wp2_with fail;refine Reg2.vo 12 18 (Reg2.rows 0 [.p 0,.p 0,.p 0,.p 4,.p 12,.p 28,.p 0,.p 64,.p 192,.p 448,.p 960,.p 2044]) [0,0,0,0,0,2,0,0,0,0,2,3]
  [.pure,.pure,.pure,.pure,.pure,.pinned Unit () (fun _=>.pointer (some ⟨d,0,none⟩)) (fun _ _=>True),.pure,.pure,.pure,.pure,.pinned Unit () (fun _=>.int .i64 R.ah.node) (fun _ _=>True),.major Unit () (fun _=>.int .i64 x0)]
  (fun _=>True) (fun vs W=>match vs with| []=>Below w.heap.size w W|_::_=>(jo w b c t d p v g a m R {P with T:=T0}) W) (fun _ _=>True) (by kernel_rfl) (by kernel_rfl) rfl rfl (fun vs a b h hs=>by cases vs with|nil=>exact Below.trans hs (h.mono (Below.size hs))|cons v vs=>exact jo.ext a b h hs) ?_ ?_ ?_ ?_ ?_ ?_
 ·intro a b he hb;trivial
 ·intro a b he hb;trivial
 ·exact⟨trivial,trivial,trivial,trivial,trivial,⟨fun _ _ _ _ _=>trivial,fun _ _ _ _ _=>trivial⟩,trivial,trivial,trivial,trivial,⟨fun _ _ _ _ _=>trivial,fun _ _ _ _ _=>trivial⟩,trivial,trivial⟩
 ·trivial
 ·exact⟨rfl,rfl,rfl,qaf _,fun _ _=>rfl⟩
 dsimp only[Reg2.rows,Reg2.mk,List.zip,List.zipWith,List.take]
 repeat(refine' Reg2.ak _ (by rfl) (fun wz=>?_) ?_;rotate_left;(go_simp;first|rfl|rw[qai (by omega)]);simp only[Act.put,xA,xB,xC,xD,xE,id])
 refine Reg2.pp (fun wz _ hI hF=>?_) (fun r5=>?_) (by rfl)
 ·have c0:=(hS.out.cw.kept hI).c1;go_wp2_with fail
  first|exact⟨_,rfl,rfl,qad⟩|exact⟨_,rfl,⟨(),rfl,trivial⟩,qad⟩
 simp only[Act.put,xA,xB,xC,xD,xE,id]
 repeat(refine' Reg2.ak _ (by rfl) (fun wz=>?_) ?_;rotate_left;(go_simp;first|rfl|rw[qai (by omega)]);simp only[Act.put,xA,xB,xC,xD,xE,id])
 refine Reg2.pp (fun wz _ hI hF=>?_) (fun Dv=>?_) (by rfl)
 ·have q0:=(hS.out.kept hI).wk.at 7 (.int .i64 R.ah.node) rfl;go_wp2_with fail
  first|exact⟨_,rfl,rfl,qad⟩|exact⟨_,rfl,⟨(),rfl,trivial⟩,qad⟩
 simp only[Act.put,xA,xB,xC,xD,xE,id];refine Reg2.pj (fun wz _ hI hF=>?_) (fun XR=>?_) (by rfl)
 ·go_wp2_with (go_at_call 240;go_must (refine(hmu wz (hS.out.kept hI)).mono ?_);rintro e w' ⟨x,T',hT,hL,rfl,v4,g4,qc,bZ⟩);obtain⟨rfl,rfl⟩:=hT0.out.uniq hT;have hpost:jo w b c t d p v g a m R {P with T:=T0} w':=⟨v4,g4,(hS.out.kept hI).core qc bZ,(WS.of_below hI).trans (WS.dU bZ)⟩;exact⟨_,rfl,⟨⟨(),rfl⟩,hpost⟩,trivial⟩
 simp only[Act.put,xA,xB,xC,xD,xE,id];refine Reg2.aD ?_;intro w7 _ vE gF;clear gF;dsimp only[List.drop];obtain⟨v7,g7,iQ,Az⟩:jo w b c t d p v g a m R {P with T:=T0} w7:=vE;have UI:=X3 w7 v7 g7 iQ;go_wp2_with fail;go_at_call 239;refine UI.mono ?_;clear UI;rintro e w8 ⟨rfl,v8,g8,iL,fE⟩;go_wp2_with fail;go_ret;exact⟨rfl,v8,g8,iL,Az.trans fE⟩
theorem BH (h:SW w b c t d p v g a m R P)(hk:PK P)(X4:P=au M)(hI:aS M)(h1:1≤M.dr.length)(hll:M.L.length≤900)(ha:a≤800)(hm:m≤1000000)(hhit:fG mq M.L=none)(hn: -9223372036854775808≤R.ah.node∧R.ah.node≤9223372036854775807){x0:Int}{T0:List Int}(hT0:oV P.T R.ah.node true x0 T0){a':Nat}{m':Int}{R':Wk}{P':Pg}
 (X3:QY b c t d p a m R P x0 T0 a' m' R' P'):
 Calls prog 238 #[.pointer (some ⟨b,0,none⟩),.pointer (some ⟨c,0,none⟩)] w (aI w b c t d p v g a' m' .nilFunc R' P'):=by
 obtain⟨wA,aj⟩:=qaa (w.alloc (.cells #[.int .i64 1] 3));have aC:Below w.heap.size w wA:=by rw[aj];exact qac.alloc (qaf _) _
 have Nz:aL enc1 1 wA (.slice (some ⟨w.heap.size,0,none⟩) 1 1) [1]:=by rw[aj];exact iD w w.heap.size [1] rfl (by decide)
 have NR:=h.kept aC;have hin:=yz NR.cw.fZ (by rw[X4];show M.L.length≤1000;omega) Nz;have hJ:P.J=M.L:=by rw[X4];rfl
 rw[hJ]at hin;have hdr:=fun(W:World) (u:Value) (hC:CW W c t d p v g a m P) (hu:aL ag 10 W u (M.L.filter fun j:Jb=>decide (j.state∈ [(1:Int)])))=>yE (X4▸hC) hI h1 hll ha hm u _ (fun j:Jb=>decide (j.state∈ [(1:Int)])) hu rfl;have hno:M.L.findIdx? (fun j:Jb=>decide (j.state∈ [(1:Int)])&&ay j)=none:=by have:=hhit;unfold fG at this;rw[←KM]at this;exact this
 rw[hno]at hdr;have c0:=h.cw.c0;have hS:=qae h;replace hT0:=qae hT0;have hmu:=fun(W:World) (hW:SW W b c t d p v g a m R P)=>Nl hW.cw hk R.ah.node hn;rw[aj]at hin;clear h hno hhit;go_enter func238,ntmps238;go_wp2_with fail;go_at_call 24;refine hin.mono ?_;clear hin c0;rw[←aj];rintro e w1 ⟨u,rfl,ho,hb1⟩;have hS1:=NR.kept hb1;have hd1:=hdr w1 u hS1.cw (aL.iB ho aA rfl rfl);replace aj:=qae aj;clear ho hdr;go_wp2_with fail;go_at_call 260;refine hd1.mono ?_;clear hd1;rintro e w2 (⟨_,rfl,hb2⟩|⟨i,hbad,_⟩)
 rotate_left
 ·cases hbad
 have hbw:=aC.trans ((hb1.trans (hb2.mono hb1.size)).mono aC.size);have hS2:=qae (hS1.kept hb2);replace hS1:=qae hS1;replace NR:=qae NR;go_wp2_with fail;refine Reg2.vo 12 26 (Reg2.rows 0 [.p 0,.p 0,.p 0,.p 4,.p 12,.p 28,.p 0,.p 64,.p 192,.p 448,.p 960,.p 2044]) [0,0,0,0,0,2,0,0,0,0,2,3]
  [.pure,.pure,.pure,.pure,.pure,.pinned Unit () (fun _=>.pointer (some ⟨d,0,none⟩)) (fun _ _=>True),.pure,.pure,.pure,.pure,.pinned Unit () (fun _=>.int .i64 R.ah.node) (fun _ _=>True),.major Unit () (fun _=>.int .i64 x0)]
  (fun _=>True) (fun vs W=>match vs with| []=>Below w2.heap.size w2 W|_::_=>(jo w2 b c t d p v g a m R {P with T:=T0}) W) (fun _ _=>True) (by kernel_rfl) (by kernel_rfl) rfl rfl (fun vs a b h hs=>by cases vs with|nil=>exact Below.trans hs (h.mono (Below.size hs))|cons v vs=>exact jo.ext a b h hs) ?_ ?_ ?_ ?_ ?_ ?_
 ·intro a b he hb;trivial
 ·intro a b he hb;trivial
 ·exact⟨trivial,trivial,trivial,trivial,trivial,⟨fun _ _ _ _ _=>trivial,fun _ _ _ _ _=>trivial⟩,trivial,trivial,trivial,trivial,⟨fun _ _ _ _ _=>trivial,fun _ _ _ _ _=>trivial⟩,trivial,trivial⟩
 ·trivial
 ·exact⟨rfl,rfl,rfl,qaf _,fun _ _=>rfl⟩
 dsimp only[Reg2.rows,Reg2.mk,List.zip,List.zipWith,List.take]
 repeat(refine' Reg2.ak _ (by rfl) (fun wz=>?_) ?_;rotate_left;(go_simp;first|rfl|rw[qai (by omega)]);simp only[Act.put,xA,xB,xC,xD,xE,id])
 refine Reg2.pp (fun wz _ hI hF=>?_) (fun r5=>?_) (by rfl)
 ·have c0:=(hS2.out.cw.kept hI).c1;go_wp2_with fail
  first|exact⟨_,rfl,rfl,qad⟩|exact⟨_,rfl,⟨(),rfl,trivial⟩,qad⟩
 simp only[Act.put,xA,xB,xC,xD,xE,id]
 repeat(refine' Reg2.ak _ (by rfl) (fun wz=>?_) ?_;rotate_left;(go_simp;first|rfl|rw[qai (by omega)]);simp only[Act.put,xA,xB,xC,xD,xE,id])
 refine Reg2.pp (fun wz _ hI hF=>?_) (fun Dv=>?_) (by rfl)
 ·have q0:=(hS2.out.kept hI).wk.at 7 (.int .i64 R.ah.node) rfl;go_wp2_with fail
  first|exact⟨_,rfl,rfl,qad⟩|exact⟨_,rfl,⟨(),rfl,trivial⟩,qad⟩
 simp only[Act.put,xA,xB,xC,xD,xE,id];refine Reg2.pj (fun wz _ hI hF=>?_) (fun XR=>?_) (by rfl)
 ·go_wp2_with (go_at_call 136;go_must (refine(hmu wz (hS2.out.kept hI)).mono ?_);rintro e w' ⟨x,T',hT,hL,rfl,v4,g4,qc,bZ⟩);obtain⟨rfl,rfl⟩:=hT0.out.uniq hT;have hpost:jo w2 b c t d p v g a m R {P with T:=T0} w':=⟨v4,g4,(hS2.out.kept hI).core qc bZ,(WS.of_below hI).trans (WS.dU bZ)⟩;exact⟨_,rfl,⟨⟨(),rfl⟩,hpost⟩,trivial⟩
 simp only[Act.put,xA,xB,xC,xD,xE,id];refine Reg2.aD ?_;intro w7 _ vE gF;clear gF;dsimp only[List.drop];obtain⟨v7,g7,iQ,Az⟩:jo w2 b c t d p v g a m R {P with T:=T0} w7:=vE;have UI:=X3 w7 v7 g7 iQ;go_wp2_with fail;go_at_call 239;refine UI.mono ?_;clear UI;rintro e w8 ⟨rfl,v8,g8,iL,fE⟩;go_wp2_with fail;go_ret;exact⟨rfl,v8,g8,iL,((WS.of_below hbw).trans Az).trans fE⟩
theorem BI (h:SW w b c t d p v g a m R (au M))(hI:aS M)(h1:1≤M.dr.length)(hll:M.L.length≤900)(ha:a≤800)(hm:m≤1000000){i:Nat}(hhit:fG mq M.L=some i):
 Calls prog 238 #[.pointer (some ⟨b,0,none⟩),.pointer (some ⟨c,0,none⟩)] w (aI w b c t d p v g (a+2) (m+1) (gP 238) R (au {M with L:=M.L.set i ((M.L.getD i default).aR (-1))})):=by
 obtain⟨wA,aj⟩:=qaa (w.alloc (.cells #[.int .i64 1] 3));have aC:Below w.heap.size w wA:=by rw[aj];exact qac.alloc (qaf _) _
 have Nz:aL enc1 1 wA (.slice (some ⟨w.heap.size,0,none⟩) 1 1) [1]:=by rw[aj];exact iD w w.heap.size [1] rfl (by decide)
 have NR:=h.kept aC;have hin:=yz NR.cw.fZ (by show M.L.length≤1000;omega) Nz;rw[show(au M).J=M.L from rfl]at hin;have hdr:=fun(W:World) (u:Value) (hC:CW W c t d p v g a m (au M)) (hu:aL ag 10 W u (M.L.filter fun j:Jb=>decide (j.state∈ [(1:Int)])))=>yE hC hI h1 hll ha hm u _ (fun j:Jb=>decide (j.state∈ [(1:Int)])) hu rfl;have hno:M.L.findIdx? (fun j:Jb=>decide (j.state∈ [(1:Int)])&&ay j)=some i:=by have:=hhit;unfold fG at this;rw[←KM]at this;exact this
 rw[hno]at hdr;have c0:=h.cw.c0;rw[aj]at hin;clear h hno hhit;go_enter func238,ntmps238;go_wp2_with fail;go_at_call 24;refine hin.mono ?_;clear hin c0;rw[←aj];rintro e w1 ⟨u,rfl,ho,hb1⟩;have hS1:=NR.kept hb1;have hd1:=hdr w1 u hS1.cw (aL.iB ho aA rfl rfl);replace aj:=qae aj;clear ho hdr;go_wp2_with fail;go_at_call 260;refine hd1.mono ?_;clear hd1;rintro e w2 (⟨hbad,_⟩|⟨i2,he,rfl,v2,g2,hC2,hS2⟩)
 ·cases hbad
 obtain rfl:=Option.some.inj he;have ZO:=hS1.core hC2 hS2;have hf:=(WS.of_below (aC.trans (hb1.mono aC.size)):WS w w1 b c t d p v g v g).trans (WS.dU hS2);go_wp2_with fail;go_ret;exact⟨rfl,v2,g2,ZO,hf⟩
theorem Gl (h:SW w b c t d p v g a m R P)(hk:PK P)(hn: -9223372036854775808≤R.ah.node∧R.ah.node≤9223372036854775807)(hst:rT P.T R.ah.node=1∨rT P.T R.ah.node=2){L:Value}{a':Nat}{m':Int}{R':Wk}{P':Pg}
 (hcl:∀W,SW W b c t d p v g a m R P→Calls prog 238 #[.pointer (some ⟨b,0,none⟩),.pointer (some ⟨c,0,none⟩)] W (aI W b c t d p v g a' m' L R' P')):
 Calls prog 217 #[.pointer (some ⟨b,0,none⟩),.pointer (some ⟨c,0,none⟩)] w (aI w b c t d p v g a' m' L R' P'):=by
 have hS:=qae h;have zG:=fun(W:World) (hW:SW W b c t d p v g a m R P)=>uK R.ah.node hn hW.cw.nodes hk.uN;generalize hsx:rT P.T R.ah.node=sx at*;replace hsx:=qae hsx;clear h;go_enter func217,ntmps217;go_wp2_with fail;refine Reg2.ro w 9 28 [.p 0,.p 1,.p 3,.m 7,.p 0,.p 16,.p 48,.p 112,.m 240] [.pointer (some ⟨d,0,none⟩),.int .i64 R.ah.node] (by kernel_rfl) (by kernel_rfl) rfl rfl ⟨rfl,rfl,rfl,qaf _,fun _ _=>rfl⟩ ?_;dsimp only[Reg2.fF]
 repeat((first
  |(refine' Reg2.ak _ (by rfl) (fun wz=>?_) ?_;rotate_left;(go_simp;first|rfl|rw[qai (by omega)]))
  |(refine Reg2.az (by rfl) (fun wz hI hF=>?_) (fun _=>?_)
    ·unfold Reg2.One;have c0:=(hS.out.cw.kept hI).c1;have q0:=(hS.out.kept hI).wk.at 7 (.int .i64 R.ah.node) rfl;go_wp2_with fail
     first|exact⟨_,rfl,rfl,qad⟩|exact⟨_,rfl,⟨(),rfl,trivial⟩,qad⟩));simp only[Act.put,xA,xB,xC,xD,xE,id])
 refine Reg2.aD ?_;intro w4 HI4 _ gB;clear gB;dsimp only[List.drop];have bZ:=hS.out.kept HI4;have Lc:=zG w4 bZ;go_wp2_with fail;go_at_call 48;refine Lc.mono ?_;clear Lc;rintro e w5 ⟨rfl,mm,DU⟩;have hb5:Below w4.heap.size w4 w5:=by rw[DU];exact below_drewN qac _
 have hS5:=bZ.kept hb5;have BP:=hcl w5 hS5;have EX:=HI4.trans (hb5.mono HI4.size);replace DU:=qae DU;rcases hst with rfl|rfl
 all_goals
  go_wp2_with fail;go_at_call 238;refine BP.mono ?_;clear BP;rintro e w8 ⟨rfl,v8,g8,iL,fE⟩;go_wp2_with fail;go_ret;exact⟨rfl,v8,g8,iL,(WS.of_below EX).trans fE⟩
theorem Gm (h:SW w b c t d p v g a m R P)(hk:PK P)(hn: -9223372036854775808≤R.ah.node∧R.ah.node≤9223372036854775807)(e0:Int)(hst:(rT P.T R.ah.node=0∧e0=11)∨((rT P.T R.ah.node=3∨rT P.T R.ah.node=4)∧e0=8)):
 Calls prog 217 #[.pointer (some ⟨b,0,none⟩),.pointer (some ⟨c,0,none⟩)] w (aI w b c t d p v g a m .nilFunc {R with rep:=mF e0,ok:=false} P):=by
 have hS:=qae h;have zG:=fun(W:World) (hW:SW W b c t d p v g a m R P)=>uK R.ah.node hn hW.cw.nodes hk.uN;generalize hsx:rT P.T R.ah.node=sx at*;replace hsx:=qae hsx;clear h;go_enter func217,ntmps217;go_wp2_with fail;refine Reg2.ro w 9 28 [.p 0,.p 1,.p 3,.m 7,.p 0,.p 16,.p 48,.p 112,.m 240] [.pointer (some ⟨d,0,none⟩),.int .i64 R.ah.node] (by kernel_rfl) (by kernel_rfl) rfl rfl ⟨rfl,rfl,rfl,qaf _,fun _ _=>rfl⟩ ?_;dsimp only[Reg2.fF]
 repeat((first
  |(refine' Reg2.ak _ (by rfl) (fun wz=>?_) ?_;rotate_left;(go_simp;first|rfl|rw[qai (by omega)]))
  |(refine Reg2.az (by rfl) (fun wz hI hF=>?_) (fun _=>?_)
    ·unfold Reg2.One;have c0:=(hS.out.cw.kept hI).c1;have q0:=(hS.out.kept hI).wk.at 7 (.int .i64 R.ah.node) rfl;go_wp2_with fail
     first|exact⟨_,rfl,rfl,qad⟩|exact⟨_,rfl,⟨(),rfl,trivial⟩,qad⟩));simp only[Act.put,xA,xB,xC,xD,xE,id])
 refine Reg2.aD ?_;intro w4 HI4 _ gB;clear gB;dsimp only[List.drop];have bZ:=hS.out.kept HI4;have Lc:=zG w4 bZ;go_wp2_with fail;go_at_call 48;refine Lc.mono ?_;clear Lc;rintro e w5 ⟨rfl,mm,DU⟩;have hb5:Below w4.heap.size w4 w5:=by rw[DU];exact below_drewN qac _
 have hS5:=bZ.kept hb5;have EX:=HI4.trans (hb5.mono HI4.size);replace DU:=qae DU;rcases hst with⟨rfl,rfl⟩|⟨rfl|rfl,rfl⟩
 ·have hf:=jL hS5.wk 11;go_wp2_with (go_at_call 188;go_must (refine hf.mono ?_);rintro e w8 ⟨rfl,fE,iw⟩);go_ret;exact⟨rfl,v,g,hS5.work fE iw,(WS.of_below EX).trans (WS.bT iw)⟩
 all_goals
  have hf:=jL hS5.wk 8;go_wp2_with (go_at_call 188;go_must (refine hf.mono ?_);rintro e w8 ⟨rfl,fE,iw⟩);go_ret;exact⟨rfl,v,g,hS5.work fE iw,(WS.of_below EX).trans (WS.bT iw)⟩
end
section
variable {w : World} {b c t d p g a : Nat} {v : Value} {m : Int} {P : Pg} {R : Wk}
theorem Q0 (h:SW w b c t d p v g a m R P)(hk:PK P)(hlow:R.ah.till<1):
 Calls prog 219 #[.pointer (some ⟨b,0,none⟩),.pointer (some ⟨c,0,none⟩)] w (aI w b c t d p v g a m .nilFunc {R with rep:=mF 10,ok:=false} P):=by
 have hS:=qae h;have hsub:=fun(W:World)=>D8 1099511627776 P.now W;have hnw:=hk.now;obtain⟨sb,hsb⟩:=qaa (1099511627776-P.now);rw[show hd (hd 1099511627776-hd P.now)=sb by rw[hsb];unfold hd;omega]at hsub;obtain⟨ty,hty⟩:=qab (R.ah.till);rw[hty]at hlow;have d1:decide (ty<1)=true:=qag hlow;replace hty:=qae hty;replace hsb:=qae hsb;clear h;go_enter func219,ntmps219;go_wp2_with fail;refine Reg2.ro w 18 44 [.p 0,.p 1,.p 3,.p 7,.m 15,.p 31,.p 63,.p 127,.p 255,.p 511,.p 1023,.m 2047,.p 127,.p 4223,.p 12415,.m 28799,.m 61567,.m 127103] [.int .i64 ty,.int .i64 ty,.pointer (some ⟨p,0,none⟩),.int .i64 P.now,.int .i64 sb] (by kernel_rfl) (by kernel_rfl) rfl rfl ⟨rfl,rfl,rfl,qaf _,fun _ _=>rfl⟩ ?_;dsimp only[Reg2.fF]
 repeat((first
  |(refine' Reg2.ak _ (by rfl) (fun wz=>?_) ?_;rotate_left;(go_simp;first|rfl|rw[qai (by omega)]))
  |refine Reg2.oG (by rfl) ?_
  |refine Reg2.iZ (by rfl) ?_
  |(refine Reg2.az (by rfl) (fun wz hI hF=>?_) (fun _=>?_)
    ·unfold Reg2.One;have q0:=(hS.out.kept hI).wk.at 8 (.int .i64 R.ah.till) rfl;rw[hty.out]at q0;go_wp2_with fail
     first|exact⟨_,rfl,rfl,qad⟩|exact⟨_,rfl,⟨(),rfl,trivial⟩,qad⟩));simp only[Act.put,xA,xB,xC,xD,xE,id])
 refine Reg2.aD ?_;intro w4 HI4 _ gB;clear gB;dsimp only[List.drop];have bZ:=hS.out.kept HI4;have hf:=jL bZ.wk 10;go_wp2_with (go_at_call 188;go_must (refine hf.mono ?_);rintro e w8 ⟨rfl,fE,iw⟩);go_ret;exact⟨rfl,v,g,bZ.work fE iw,(WS.of_below HI4).trans (WS.bT iw)⟩
theorem NS (h:SW w b c t d p v g a m R P)(hk:PK P)(hlow:¬R.ah.till<1)(hhi:1099511627776-P.now<R.ah.till):
 Calls prog 219 #[.pointer (some ⟨b,0,none⟩),.pointer (some ⟨c,0,none⟩)] w (aI w b c t d p v g a m .nilFunc {R with rep:=mF 10,ok:=false} P):=by
 have hS:=qae h;have hsub:=fun(W:World)=>D8 1099511627776 P.now W;have hnw:=hk.now;obtain⟨sb,hsb⟩:=qaa (1099511627776-P.now);rw[show hd (hd 1099511627776-hd P.now)=sb by rw[hsb];unfold hd;omega]at hsub;obtain⟨ty,hty⟩:=qab (R.ah.till);rw[hty]at hlow hhi;have d1:decide (ty<1)=false:=qah hlow;have d2:decide (ty>sb)=true:=qag (by omega);replace hhi:=qae hhi;replace hty:=qae hty;replace hsb:=qae hsb;clear h;go_enter func219,ntmps219;go_wp2_with fail;refine Reg2.ro w 18 44 [.p 0,.p 1,.p 3,.p 7,.m 15,.p 31,.p 63,.p 127,.p 255,.p 511,.p 1023,.m 2047,.p 127,.p 4223,.p 12415,.m 28799,.m 61567,.m 127103] [.int .i64 ty,.int .i64 ty,.pointer (some ⟨p,0,none⟩),.int .i64 P.now,.int .i64 sb] (by kernel_rfl) (by kernel_rfl) rfl rfl ⟨rfl,rfl,rfl,qaf _,fun _ _=>rfl⟩ ?_;dsimp only[Reg2.fF]
 repeat((first
  |(refine' Reg2.ak _ (by rfl) (fun wz=>?_) ?_;rotate_left;(go_simp;first|rfl|rw[qai (by omega)]))
  |(refine Reg2.az (by rfl) (fun wz hI hF=>?_) (fun _=>?_)
    ·unfold Reg2.One;have q0:=(hS.out.kept hI).wk.at 8 (.int .i64 R.ah.till) rfl;rw[hty.out]at q0;have c0:=(hS.out.cw.kept hI).c2;go_wp2_with fail
     first|exact⟨_,rfl,rfl,qad⟩|exact⟨_,rfl,⟨(),rfl,trivial⟩,qad⟩));simp only[Act.put,xA,xB,xC,xD,xE,id])
 refine Reg2.pm (fun wz hI hF=>?_) (fun r16=>?_) (by rfl)
 ·go_wp2_with (go_at_call 45;go_must (refine(il (hS.out.kept hI).cw).mono ?_);rintro e w' ⟨rfl,rfl⟩)
  first|exact⟨_,rfl,rfl,qad⟩|exact⟨_,rfl,⟨(),rfl,trivial⟩,qad⟩
 simp only[Act.put,xA,xB,xC,xD,xE,id];refine Reg2.pm (fun wz hI hF=>?_) (fun r17=>?_) (by rfl)
 ·go_wp2_with (go_at_call 241;go_must (refine(hsub wz).mono ?_);rintro e w' ⟨rfl,rfl⟩)
  first|exact⟨_,rfl,rfl,qad⟩|exact⟨_,rfl,⟨(),rfl,trivial⟩,qad⟩
 simp only[Act.put,xA,xB,xC,xD,xE,id];refine Reg2.aD ?_;intro w4 HI4 _ gB;clear gB;dsimp only[List.drop];have bZ:=hS.out.kept HI4;have hf:=jL bZ.wk 10;go_wp2_with (go_at_call 188;go_must (refine hf.mono ?_);rintro e w8 ⟨rfl,fE,iw⟩);go_ret;exact⟨rfl,v,g,bZ.work fE iw,(WS.of_below HI4).trans (WS.bT iw)⟩
theorem Ld (h:SW w b c t d p v g a m R P)(hk:PK P)(hlow:¬R.ah.till<1)(hhi:¬1099511627776-P.now<R.ah.till){L:Value}{a':Nat}{m':Int}{R':Wk}{P':Pg}
 (hfw:∀W,SW W b c t d p v g a m {R with target:=P.now+R.ah.till} P→Calls prog 242 #[.pointer (some ⟨b,0,none⟩),.pointer (some ⟨c,0,none⟩)] W (aI W b c t d p v g a' m' L R' P')):
 Calls prog 219 #[.pointer (some ⟨b,0,none⟩),.pointer (some ⟨c,0,none⟩)] w (aI w b c t d p v g a' m' L R' P'):=by
 have hS:=qae h;have hsub:=fun(W:World)=>D8 1099511627776 P.now W;have hnw:=hk.now;obtain⟨sb,hsb⟩:=qaa (1099511627776-P.now);rw[show hd (hd 1099511627776-hd P.now)=sb by rw[hsb];unfold hd;omega]at hsub;obtain⟨ty,hty⟩:=qab (R.ah.till);rw[hty]at hlow hhi hfw;have d1:decide (ty<1)=false:=qah hlow;have d2:decide (ty>sb)=false:=qah (by omega);have wt:IntKind.i64.wrap (P.now+ty)=P.now+ty:=by rw[IntKind.wrap_i64];omega
 replace hhi:=qae hhi;replace hty:=qae hty;replace hsb:=qae hsb;clear h;go_enter func219,ntmps219;go_wp2_with fail;refine Reg2.ro w 18 44 [.p 0,.p 1,.p 3,.p 7,.m 15,.p 31,.p 63,.p 127,.p 255,.p 511,.p 1023,.m 2047,.p 127,.p 4223,.p 12415,.m 28799,.m 61567,.m 127103] [.int .i64 ty,.int .i64 ty,.pointer (some ⟨p,0,none⟩),.int .i64 P.now,.int .i64 sb] (by kernel_rfl) (by kernel_rfl) rfl rfl ⟨rfl,rfl,rfl,qaf _,fun _ _=>rfl⟩ ?_;dsimp only[Reg2.fF]
 repeat((first
  |(refine' Reg2.ak _ (by rfl) (fun wz=>?_) ?_;rotate_left;(go_simp;first|rfl|rw[qai (by omega)]))
  |(refine Reg2.az (by rfl) (fun wz hI hF=>?_) (fun _=>?_)
    ·unfold Reg2.One;have q0:=(hS.out.kept hI).wk.at 8 (.int .i64 R.ah.till) rfl;rw[hty.out]at q0;have c0:=(hS.out.cw.kept hI).c2;go_wp2_with fail
     first|exact⟨_,rfl,rfl,qad⟩|exact⟨_,rfl,⟨(),rfl,trivial⟩,qad⟩));simp only[Act.put,xA,xB,xC,xD,xE,id])
 refine Reg2.pm (fun wz hI hF=>?_) (fun r16=>?_) (by rfl)
 ·go_wp2_with (go_at_call 45;go_must (refine(il (hS.out.kept hI).cw).mono ?_);rintro e w' ⟨rfl,rfl⟩)
  first|exact⟨_,rfl,rfl,qad⟩|exact⟨_,rfl,⟨(),rfl,trivial⟩,qad⟩
 simp only[Act.put,xA,xB,xC,xD,xE,id];refine Reg2.pm (fun wz hI hF=>?_) (fun r17=>?_) (by rfl)
 ·go_wp2_with (go_at_call 241;go_must (refine(hsub wz).mono ?_);rintro e w' ⟨rfl,rfl⟩)
  first|exact⟨_,rfl,rfl,qad⟩|exact⟨_,rfl,⟨(),rfl,trivial⟩,qad⟩
 simp only[Act.put,xA,xB,xC,xD,xE,id];refine Reg2.aD ?_;intro w4 HI4 _ gB;clear gB;dsimp only[List.drop];have bZ:=qae (hS.out.kept HI4);go_wp2_with fail;refine Reg2.ro w4 12 44 [.p 0,.p 0,.p 2,.p 6,.m 14,.m 30,.p 0,.p 64,.p 192,.p 448,.m 960,.p 2046] [.pointer (some ⟨p,0,none⟩),.int .i64 P.now,.int .i64 ty] (by kernel_rfl) (by kernel_rfl) rfl rfl ⟨rfl,rfl,rfl,qaf _,fun _ _=>rfl⟩ ?_;dsimp only[Reg2.fF]
 repeat((first
  |(refine' Reg2.ak _ (by rfl) (fun wz=>?_) ?_;rotate_left;(go_simp;first|rfl|rw[qai (by omega)]))
  |(refine Reg2.az (by rfl) (fun wz hI hF=>?_) (fun _=>?_)
    ·unfold Reg2.One;have c0:=(bZ.out.cw.kept hI).c2;go_wp2_with fail
     first|exact⟨_,rfl,rfl,qad⟩|exact⟨_,rfl,⟨(),rfl,trivial⟩,qad⟩));simp only[Act.put,xA,xB,xC,xD,xE,id])
 refine Reg2.pm (fun wz hI hF=>?_) (fun r5=>?_) (by rfl)
 ·go_wp2_with (go_at_call 45;go_must (refine(il (bZ.out.kept hI).cw).mono ?_);rintro e w' ⟨rfl,rfl⟩)
  first|exact⟨_,rfl,rfl,qad⟩|exact⟨_,rfl,⟨(),rfl,trivial⟩,qad⟩
 simp only[Act.put,xA,xB,xC,xD,xE,id]
 repeat((first
  |(refine' Reg2.ak _ (by rfl) (fun wz=>?_) ?_;rotate_left;(go_simp;first|rfl|rw[qai (by omega)]))
  |(refine Reg2.az (by rfl) (fun wz hI hF=>?_) (fun _=>?_)
    ·unfold Reg2.One;have q0:=(bZ.out.kept hI).wk.at 8 (.int .i64 R.ah.till) rfl;rw[hty.out]at q0;go_wp2_with fail
     first|exact⟨_,rfl,rfl,qad⟩|exact⟨_,rfl,⟨(),rfl,trivial⟩,qad⟩));simp only[Act.put,xA,xB,xC,xD,xE,id])
 refine Reg2.aD ?_;intro w6 Ay _ gB;clear gB;dsimp only[List.drop];have fU:=bZ.out.kept Ay;have a23:=fU.wk.at 23 (.int .i64 R.target) rfl;have f23:=fU.wk.free 23;have iQ:=fU.work (fU.wk.target (P.now+ty)) (dQ w6 23 (.int .i64 (P.now+ty)));have ND:=(WS.of_below (HI4.trans (Ay.mono HI4.size)):WS w w6 b c t d p v g v g).trans (WS.bT (dQ w6 23 (.int .i64 (P.now+ty))));have WL:=hfw _ iQ;go_wp2_with fail;go_at_call 242;refine WL.mono ?_;clear WL;rintro e w8 ⟨rfl,v8,g8,iL,fE⟩;have CG:=ND.trans fE;go_wp2_with fail;go_ret;exact⟨rfl,v8,g8,iL,CG⟩
end
section
variable {w : World} {b c t d p g a : Nat} {v : Value} {m : Int} {P : Pg} {M : Md} {R : Wk}
theorem Ce (h:SW w b c t d p v g a m R P)(hq:R.ah.kind=6)(e1:Int)(he1:e1≠0)(he:iR P.J R.ah.id=e1):
 Calls prog 190 #[.pointer (some ⟨b,0,none⟩),.pointer (some ⟨c,0,none⟩)] w (aI w b c t d p v g a m .nilFunc {R with rep:=mF e1,ok:=false} P):=by
 have zJ:=bC;obtain⟨k,hk1⟩:=qaa (10);rw[←hk1]at zJ;have hk0:¬k=0:=by omega
 have lY:=aA (cz P.J R.ah.id);rw[←hk1]at lY;replace hk1:=qae hk1;have q0:=h.wk.at 0 (.int .i64 R.ah.kind) rfl;rw[hq]at q0;obtain⟨y,hy⟩:=qaa (cz P.J R.ah.id);obtain⟨e0,he0⟩:=qaa (iR P.J R.ah.id);have hgo:Hid (∀W,SW W b c t d p v g a m R P→Calls prog 41 #[.pointer (some ⟨t,0,none⟩),.int .i64 R.ah.id] W fun e w'=>e=.returned (.tuple #[.agg (ag y).toArray,.int .i64 e0])∧Gr W w'):=fun W hW=>by
  have:=jh hW.cw.fZ R.ah.id;unfold jZ at this;rw[←hy,←he0]at this;exact this
 rw[←he0]at he;rw[←hy]at lY;replace he:=qae he;have hS:=qae h;replace he0:=qae he0;replace hy:=qae hy;replace hq:=qae hq;clear h;go_enter func190,ntmps190;go_wp2_with fail;refine Reg2.uy 15 73 (Reg2.rows 0 [.p 0,.p 1,.p 3,.p 7,.p 0,.p 16,.p 48,.p 112,.p 240,.p 511,.p 1023,.p 2047,.p 2047,.p 0,.p 12287]) [0,0,0,1,0,0,0,0,1,1,0,0,0,3,3]
  [.pure,.pure,.pure,.mU (.pointer (some ⟨t,0,none⟩)),.pure,.pure,.pure,.pure,.mU (.int .i64 R.ah.id),.mU (.tuple #[.agg (ag y).toArray,.int .i64 e0]),.pure,.pure,.pure,.major Nat 0 (fun k=>.pointer (some ⟨k,0,none⟩)),.major Unit () (fun _=>undef)]
  (fun W=>Below w.heap.size w W) (jM w y) (fun a b=>Below w.heap.size a b) (by kernel_rfl) (by kernel_rfl) rfl rfl (fun vs a b h hs=>jM.ext h hs) ?_ ?_ ?_ ?_ ?_ ?_ ?_
 ·intro a b he hb;exact hb.trans (Below.mono he hb.size)
 ·intro a b he hb;exact hb.trans he
 ·exact⟨trivial,trivial,trivial,⟨fun _ _ _ _ _=>trivial,fun _ _ _ _ _=>trivial⟩,trivial,trivial,trivial,trivial,⟨fun _ _ _ _ _=>trivial,fun _ _ _ _ _=>trivial⟩,⟨fun _ _ _ _ _=>trivial,fun _ _ _ _ _=>trivial⟩,trivial,trivial,trivial,trivial,trivial,trivial⟩
 ·exact⟨(fun h=>nomatch h),(fun h=>nomatch h),(fun h=>nomatch h),(fun h=>nomatch h),(fun h=>nomatch h),(fun h=>nomatch h),(fun h=>nomatch h),(fun h=>nomatch h),(fun h=>nomatch h),(fun h=>nomatch h),(fun h=>nomatch h),(fun h=>nomatch h),(fun h=>nomatch h),(fun h=>nomatch h),(fun _ _=>rfl),trivial⟩
 ·exact⟨rfl,rfl,rfl,qaf _,fun _ _=>rfl⟩
 ·exact⟨⟨rfl,rfl,rfl,qaf _,fun _ _=>rfl⟩,trivial⟩
 dsimp only[Reg2.rows,Reg2.mk,List.zip,List.zipWith,List.take]
 repeat((first
  |(refine' Reg2.ak _ (by rfl) (fun wz=>?_) ?_;rotate_left;(go_simp;first|rfl|rw[qai (by omega)]))
  |(refine Reg2.az (by rfl) (fun wz hI hF=>?_) (fun _=>?_)
    ·unfold Reg2.One;have c0:=(hS.out.kept hI).cw.c0;have q0:=(hS.out.kept hI).wk.at 1 (.int .i64 R.ah.id) rfl;go_wp2_with fail
     first|exact⟨_,rfl,rfl,qad⟩|exact⟨_,rfl,⟨(),rfl,trivial⟩,qad⟩));simp only[Act.put,xA,xB,xC,xD,xE,id])
 refine Reg2.pm (fun wz hI hF=>?_) (fun r9=>?_) (by rfl)
 ·go_wp2_with (go_at_call 41;go_must (refine(hgo.out wz (hS.out.kept hI)).mono ?_);rintro e w' ⟨rfl,hg5⟩;have hb5:=hg5.below)
  first|exact⟨_,rfl,⟨(),rfl,trivial⟩,hb5⟩|exact⟨_,rfl,rfl,hb5⟩
 simp only[Act.put,xA,xB,xC,xD,xE,id]
 repeat(refine' Reg2.ak _ (by rfl) (fun wz=>?_) ?_;rotate_left;(go_simp;first|rfl|rw[qai (by omega)]);simp only[Act.put,xA,xB,xC,xD,xE,id])
 refine Reg2.pj (fun wz hI hS hF=>?_) (fun X5=>?_) (by rfl)
 ·go_wp2_with fail;exact⟨_,rfl,⟨⟨_,rfl⟩,jM.alloc hS⟩,qac.alloc hI.size _⟩
 simp only[Act.put,xA,xB,xC,xD,xE,id];refine Reg2.pj (fun wz hI hS hF=>?_) (fun VX=>?_) (by rfl)
 ·obtain⟨hz,hge⟩:=jM.zero hS;have Cc:=lL (x:=y) hz;have hfin:=jM.store hS;have hbw:Below w.heap.size wz (wz.setRow X5 (ag y).toArray):=um qac hge _;generalize ag y=cY at*;go_wp2_with fail;exact⟨_,rfl,⟨⟨(),rfl⟩,hfin⟩,hbw⟩
 simp only[Act.put,xA,xB,xC,xD,xE,id];refine Reg2.aD ?_;intro w7 dC vE gF;clear gF vE;dsimp only[List.drop];have iQ:=hS.out.kept dC;have d3:(e0 != 0)=true:=by rw[he.out];simp[he1]
 have hf:=jL iQ.wk e0;go_wp2_with (go_at_call 188;go_must (refine hf.mono ?_);rintro e w8 ⟨rfl,fE,iw⟩);go_ret;have e9:=he.out;clear he;subst e9;exact⟨rfl,v,g,iQ.work fE iw,(WS.of_below dC).trans (WS.bT iw)⟩
theorem Ef (h:SW w b c t d p v g a m R P)(hq:R.ah.kind=6)(he:iR P.J R.ah.id=0):
 Calls prog 190 #[.pointer (some ⟨b,0,none⟩),.pointer (some ⟨c,0,none⟩)] w (aI w b c t d p v g a m .nilFunc {R with rep:=kD (cz P.J R.ah.id)} P):=by
 have zJ:=bC;obtain⟨k,hk1⟩:=qaa (10);rw[←hk1]at zJ;have hk0:¬k=0:=by omega
 have lY:=aA (cz P.J R.ah.id);rw[←hk1]at lY;replace hk1:=qae hk1;have q0:=h.wk.at 0 (.int .i64 R.ah.kind) rfl;rw[hq]at q0;obtain⟨y,hy⟩:=qaa (cz P.J R.ah.id);obtain⟨e0,he0⟩:=qaa (iR P.J R.ah.id);have hgo:Hid (∀W,SW W b c t d p v g a m R P→Calls prog 41 #[.pointer (some ⟨t,0,none⟩),.int .i64 R.ah.id] W fun e w'=>e=.returned (.tuple #[.agg (ag y).toArray,.int .i64 e0])∧Gr W w'):=fun W hW=>by
  have:=jh hW.cw.fZ R.ah.id;unfold jZ at this;rw[←hy,←he0]at this;exact this
 rw[←he0]at he;rw[←hy]at lY;replace he:=qae he;have hS:=qae h;replace he0:=qae he0;replace hy:=qae hy;replace hq:=qae hq;clear h;go_enter func190,ntmps190;go_wp2_with fail;refine Reg2.uy 15 73 (Reg2.rows 0 [.p 0,.p 1,.p 3,.p 7,.p 0,.p 16,.p 48,.p 112,.p 240,.p 511,.p 1023,.p 2047,.p 2047,.p 0,.p 12287]) [0,0,0,1,0,0,0,0,1,1,0,0,0,3,3]
  [.pure,.pure,.pure,.mU (.pointer (some ⟨t,0,none⟩)),.pure,.pure,.pure,.pure,.mU (.int .i64 R.ah.id),.mU (.tuple #[.agg (ag y).toArray,.int .i64 e0]),.pure,.pure,.pure,.major Nat 0 (fun k=>.pointer (some ⟨k,0,none⟩)),.major Unit () (fun _=>undef)]
  (fun W=>Below w.heap.size w W) (jM w y) (fun a b=>Below w.heap.size a b) (by kernel_rfl) (by kernel_rfl) rfl rfl (fun vs a b h hs=>jM.ext h hs) ?_ ?_ ?_ ?_ ?_ ?_ ?_
 ·intro a b he hb;exact hb.trans (Below.mono he hb.size)
 ·intro a b he hb;exact hb.trans he
 ·exact⟨trivial,trivial,trivial,⟨fun _ _ _ _ _=>trivial,fun _ _ _ _ _=>trivial⟩,trivial,trivial,trivial,trivial,⟨fun _ _ _ _ _=>trivial,fun _ _ _ _ _=>trivial⟩,⟨fun _ _ _ _ _=>trivial,fun _ _ _ _ _=>trivial⟩,trivial,trivial,trivial,trivial,trivial,trivial⟩
 ·exact⟨(fun h=>nomatch h),(fun h=>nomatch h),(fun h=>nomatch h),(fun h=>nomatch h),(fun h=>nomatch h),(fun h=>nomatch h),(fun h=>nomatch h),(fun h=>nomatch h),(fun h=>nomatch h),(fun h=>nomatch h),(fun h=>nomatch h),(fun h=>nomatch h),(fun h=>nomatch h),(fun h=>nomatch h),(fun _ _=>rfl),trivial⟩
 ·exact⟨rfl,rfl,rfl,qaf _,fun _ _=>rfl⟩
 ·exact⟨⟨rfl,rfl,rfl,qaf _,fun _ _=>rfl⟩,trivial⟩
 dsimp only[Reg2.rows,Reg2.mk,List.zip,List.zipWith,List.take]
 repeat((first
  |(refine' Reg2.ak _ (by rfl) (fun wz=>?_) ?_;rotate_left;(go_simp;first|rfl|rw[qai (by omega)]))
  |(refine Reg2.az (by rfl) (fun wz hI hF=>?_) (fun _=>?_)
    ·unfold Reg2.One;have c0:=(hS.out.kept hI).cw.c0;have q0:=(hS.out.kept hI).wk.at 1 (.int .i64 R.ah.id) rfl;go_wp2_with fail
     first|exact⟨_,rfl,rfl,qad⟩|exact⟨_,rfl,⟨(),rfl,trivial⟩,qad⟩));simp only[Act.put,xA,xB,xC,xD,xE,id])
 refine Reg2.pm (fun wz hI hF=>?_) (fun r9=>?_) (by rfl)
 ·go_wp2_with (go_at_call 41;go_must (refine(hgo.out wz (hS.out.kept hI)).mono ?_);rintro e w' ⟨rfl,hg5⟩;have hb5:=hg5.below)
  first|exact⟨_,rfl,⟨(),rfl,trivial⟩,hb5⟩|exact⟨_,rfl,rfl,hb5⟩
 simp only[Act.put,xA,xB,xC,xD,xE,id]
 repeat(refine' Reg2.ak _ (by rfl) (fun wz=>?_) ?_;rotate_left;(go_simp;first|rfl|rw[qai (by omega)]);simp only[Act.put,xA,xB,xC,xD,xE,id])
 refine Reg2.pj (fun wz hI hS hF=>?_) (fun X5=>?_) (by rfl)
 ·go_wp2_with fail;exact⟨_,rfl,⟨⟨_,rfl⟩,jM.alloc hS⟩,qac.alloc hI.size _⟩
 simp only[Act.put,xA,xB,xC,xD,xE,id];refine Reg2.pj (fun wz hI hS hF=>?_) (fun VX=>?_) (by rfl)
 ·obtain⟨hz,hge⟩:=jM.zero hS;have Cc:=lL (x:=y) hz;have hfin:=jM.store hS;have hbw:Below w.heap.size wz (wz.setRow X5 (ag y).toArray):=um qac hge _;generalize ag y=cY at*;go_wp2_with fail;exact⟨_,rfl,⟨⟨(),rfl⟩,hfin⟩,hbw⟩
 simp only[Act.put,xA,xB,xC,xD,xE,id];refine Reg2.aD ?_;intro w7 dC vE gF;clear gF vE;dsimp only[List.drop];have iQ:=hS.out.kept dC;have d3:(e0 != 0)=false:=by rw[he.out];rfl
 have q1:=iQ.wk.at 1 (.int .i64 R.ah.id) rfl;have ht:=qP iQ R.ah.id;go_wp2_with (go_at_call 209;go_must (refine ht.mono ?_);rintro e w8 ⟨rfl,fE,iw⟩);go_ret;exact⟨rfl,v,g,iQ.work fE iw,(WS.of_below dC).trans (WS.bT iw)⟩
theorem NT (h:SW w b c t d p v g a m R P)(hk:PK P)(hq:R.ah.kind=10):
 Calls prog 190 #[.pointer (some ⟨b,0,none⟩),.pointer (some ⟨c,0,none⟩)] w (aI w b c t d p v g a m .nilFunc {R with rep:=⟨0,0,0,0,0,0,(bq (jy P.T) 64:Int),(bq (dD P.T) 64:Int),(bq (fun i=>dG P.T i&& !dD P.T i) 64:Int)⟩} P):=by
 have q0:=h.wk.at 0 (.int .i64 R.ah.kind) rfl;rw[hq]at q0;replace hq:=qae hq;have zY:=D6;obtain⟨k9,bB⟩:∃k,k=9:=⟨_,rfl⟩;rw[←bB]at zY;have hk0:¬k9=0:=by omega
 have cc:=h.cw.c1;have hco:=Kh h.cw.nodes hk.uN;have hth:=fun(x y z:Int) (W:World)=>Av x y z W;obtain⟨v0,hv0⟩:∃x:Int,x=(bq (jy P.T) 64:Int):=⟨_,rfl⟩;obtain⟨v1,hv1⟩:∃x:Int,x=(bq (dD P.T) 64:Int):=⟨_,rfl⟩;obtain⟨v2,hv2⟩:∃x:Int,x=(bq (fun i=>dG P.T i&& !dD P.T i) 64:Int):=⟨_,rfl⟩;rw[←hv0,←hv1,←hv2]at hco⊢;replace hv0:=qae hv0;replace hv1:=qae hv1;replace hv2:=qae hv2;have hS:=qae h;clear h;go_enter func190,ntmps190;go_wp2_with fail;go_at_call 211;refine hco.mono ?_;clear hco;rintro e w1 ⟨rfl,mm,hw1⟩;have hb1:Below w.heap.size w w1:=by rw[hw1];exact below_drewN qac _
 replace hw1:=qae hw1;have hS1:=hS.out.kept hb1;go_wp2_with fail;go_at_call 210;refine(hth _ _ _ w1).mono ?_;clear hth;rintro e w2 ⟨rfl,hb2⟩;have hS2:=hS1.kept hb2;obtain⟨y,hy⟩:∃y:Ry,y=⟨0,0,0,0,0,0,v0,v1,v2⟩:=⟨_,rfl⟩;rw[←hy];replace hy:=qae hy;obtain⟨st,hW3⟩:=hS2.wk.Iy y;have lY:=qO y;rw[←bB]at lY;replace bB:=qae bB;have Eg:=hS2.work hW3 (dV w2 _);have hfin:=((WS.of_below (hb1.trans (hb2.mono hb1.size)):WS w w2 b c t d p v g v g)).trans (WS.bT (dV w2 (iF {R with rep:=y}).toArray));generalize iF {R with rep:=y}=W2 at*;generalize gm y=cY at*;go_wp2_with fail;go_ret;have ey:=hy.out;clear hy;subst ey;exact⟨rfl,v,g,Eg,hfin⟩
theorem NU (h:SW w b c t d p v g a m R P)(hk:PK P)(hq:R.ah.kind=11):
 Calls prog 190 #[.pointer (some ⟨b,0,none⟩),.pointer (some ⟨c,0,none⟩)] w (aI w b c t d p v g a m .nilFunc {R with rep:=⟨0,0,0,0,0,0,(cnt 1 P.J:Int),(cnt 2 P.J:Int),(cnt 3 P.J:Int)⟩} P):=by
 have q0:=h.wk.at 0 (.int .i64 R.ah.kind) rfl;rw[hq]at q0;replace hq:=qae hq;have zY:=D6;obtain⟨k9,bB⟩:∃k,k=9:=⟨_,rfl⟩;rw[←bB]at zY;have hk0:¬k9=0:=by omega
 have cc:=h.cw.c0;have hco:=Dq h.cw.fZ (by have:=hk.few;omega);have hth:=fun(x y z:Int) (W:World)=>Av x y z W;obtain⟨v0,hv0⟩:∃x:Int,x=(cnt 1 P.J:Int):=⟨_,rfl⟩;obtain⟨v1,hv1⟩:∃x:Int,x=(cnt 2 P.J:Int):=⟨_,rfl⟩;obtain⟨v2,hv2⟩:∃x:Int,x=(cnt 3 P.J:Int):=⟨_,rfl⟩;rw[←hv0,←hv1,←hv2]at hco⊢;replace hv0:=qae hv0;replace hv1:=qae hv1;replace hv2:=qae hv2;have hS:=qae h;clear h;go_enter func190,ntmps190;go_wp2_with fail;go_at_call 208;refine hco.mono ?_;clear hco;rintro e w1 ⟨rfl,hb1⟩;have hS1:=hS.out.kept hb1;go_wp2_with fail;go_at_call 210;refine(hth _ _ _ w1).mono ?_;clear hth;rintro e w2 ⟨rfl,hb2⟩;have hS2:=hS1.kept hb2;obtain⟨y,hy⟩:∃y:Ry,y=⟨0,0,0,0,0,0,v0,v1,v2⟩:=⟨_,rfl⟩;rw[←hy];replace hy:=qae hy;obtain⟨st,hW3⟩:=hS2.wk.Iy y;have lY:=qO y;rw[←bB]at lY;replace bB:=qae bB;have Eg:=hS2.work hW3 (dV w2 _);have hfin:=((WS.of_below (hb1.trans (hb2.mono hb1.size)):WS w w2 b c t d p v g v g)).trans (WS.bT (dV w2 (iF {R with rep:=y}).toArray));generalize iF {R with rep:=y}=W2 at*;generalize gm y=cY at*;go_wp2_with fail;go_ret;have ey:=hy.out;clear hy;subst ey;exact⟨rfl,v,g,Eg,hfin⟩
theorem Le (h:SW w b c t d p v g a m R P)(ha:a≤1000)(hq:R.ah.kind=12):
 Calls prog 190 #[.pointer (some ⟨b,0,none⟩),.pointer (some ⟨c,0,none⟩)] w (aI w b c t d p v g a m .nilFunc {R with rep:=⟨0,0,0,P.now,0,0,P.f P.now,0,0⟩} P):=by
 have q0:=h.wk.at 0 (.int .i64 R.ah.kind) rfl;rw[hq]at q0;replace hq:=qae hq;have hc:=Gi h ha;go_enter func190,ntmps190;go_wp2_with (go_at_call 212;go_must (refine hc.mono ?_);rintro e w8 ⟨rfl,v8,g8,iL,fE⟩);go_ret;exact⟨rfl,v8,g8,iL,fE⟩
theorem E5 (h:SW w b c t d p v g a m R P)(hc:P.cl=true):
 Calls prog 142 #[.pointer (some ⟨b,0,none⟩),.pointer (some ⟨c,0,none⟩)] w (aI w b c t d p v g a m .nilFunc {R with rep:=mF 12,ok:=false} P):=by
 have hcl:=jR h.cw;rw[hc]at hcl;have hf:=jL h.wk 12;go_enter func142,ntmps142;go_wp2_with (first|(go_at_call 42;go_must (refine hcl.mono ?_);rintro e w' ⟨rfl,rfl⟩)|(go_at_call 188;go_must (refine hf.mono ?_);rintro e w8 ⟨rfl,fE,iw⟩));go_ret;exact⟨rfl,v,g,h.work fE iw,WS.bT iw⟩
theorem Lf (h:SW w b c t d p v g a m R P)(hc:P.cl=false)(hq:¬(1≤R.ah.kind∧R.ah.kind≤13)):
 Calls prog 142 #[.pointer (some ⟨b,0,none⟩),.pointer (some ⟨c,0,none⟩)] w (aI w b c t d p v g a m .nilFunc {R with rep:=mF 4,ok:=false} P):=by
 have hcl:=jR h.cw;rw[hc]at hcl;have hf:=jL h.wk 4;have q0:=h.wk.at 0 (.int .i64 R.ah.kind) rfl;have his:=Nt R.ah.kind w;rw[show(decide (1≤R.ah.kind)&&decide (R.ah.kind≤13))=false by rw[Bool.and_eq_false_iff,decide_eq_false_iff_not,decide_eq_false_iff_not];omega]at his;generalize R.ah.kind=kk at*;replace hq:=qae hq;go_enter func142,ntmps142;go_wp2_with (first|(go_at_call 42;go_must (refine hcl.mono ?_);rintro e w' ⟨rfl,rfl⟩)|(go_at_call 99;go_must (refine his.mono ?_);rintro e w' ⟨rfl,rfl⟩)|(go_at_call 188;go_must (refine hf.mono ?_);rintro e w8 ⟨rfl,fE,iw⟩));go_ret;exact⟨rfl,v,g,h.work fE iw,WS.bT iw⟩
theorem Lg (h:SW w b c t d p v g a m R P)(hc:P.cl=false)(hq:1≤R.ah.kind∧R.ah.kind≤13)(hr:lu R.ah.kind=true){L:Value}{a':Nat}{m':Int}{R':Wk}{P':Pg}
 (hn:Calls prog 190 #[.pointer (some ⟨b,0,none⟩),.pointer (some ⟨c,0,none⟩)] w (aI w b c t d p v g a' m' L R' P')):
 Calls prog 142 #[.pointer (some ⟨b,0,none⟩),.pointer (some ⟨c,0,none⟩)] w (aI w b c t d p v g a' m' L R' P'):=by
 have hcl:=jR h.cw;rw[hc]at hcl;have q0:=h.wk.at 0 (.int .i64 R.ah.kind) rfl;have his:=Nt R.ah.kind w;rw[show(decide (1≤R.ah.kind)&&decide (R.ah.kind≤13))=true by rw[qag hq.1,qag hq.2];rfl]at his;have hre:=Gb R.ah.kind w;rw[hr]at hre;generalize R.ah.kind=kk at*;replace hq:=qae hq;replace hr:=qae hr;go_enter func142,ntmps142;go_wp2_with (first|(go_at_call 42;go_must (refine hcl.mono ?_);rintro e w' ⟨rfl,rfl⟩)|(go_at_call 99;go_must (refine his.mono ?_);rintro e w' ⟨rfl,rfl⟩)|(go_at_call 189;go_must (refine hre.mono ?_);rintro e w' ⟨rfl,rfl⟩)|(go_at_call 190;go_must (refine hn.mono ?_);rintro e w8 ⟨rfl,v8,g8,iL,fE⟩));go_ret;exact⟨rfl,v8,g8,iL,fE⟩
theorem gZ (h:SW w b c t d p v g a m R P)(hc:P.cl=false)(hq:1≤R.ah.kind∧R.ah.kind≤13)(hr:lu R.ah.kind=false){L:Value}{a':Nat}{m':Int}{R':Wk}{P':Pg}
 (hn:Calls prog 191 #[.pointer (some ⟨b,0,none⟩),.pointer (some ⟨c,0,none⟩)] w (aI w b c t d p v g a' m' L R' P')):
 Calls prog 142 #[.pointer (some ⟨b,0,none⟩),.pointer (some ⟨c,0,none⟩)] w (aI w b c t d p v g a' m' L R' P'):=by
 have hcl:=jR h.cw;rw[hc]at hcl;have q0:=h.wk.at 0 (.int .i64 R.ah.kind) rfl;have his:=Nt R.ah.kind w;rw[show(decide (1≤R.ah.kind)&&decide (R.ah.kind≤13))=true by rw[qag hq.1,qag hq.2];rfl]at his;have hre:=Gb R.ah.kind w;rw[hr]at hre;generalize R.ah.kind=kk at*;replace hq:=qae hq;replace hr:=qae hr;go_enter func142,ntmps142;go_wp2_with (first|(go_at_call 42;go_must (refine hcl.mono ?_);rintro e w' ⟨rfl,rfl⟩)|(go_at_call 99;go_must (refine his.mono ?_);rintro e w' ⟨rfl,rfl⟩)|(go_at_call 189;go_must (refine hre.mono ?_);rintro e w' ⟨rfl,rfl⟩)|(go_at_call 191;go_must (refine hn.mono ?_);rintro e w8 ⟨rfl,v8,g8,iL,fE⟩));go_ret;exact⟨rfl,v8,g8,iL,fE⟩
theorem Q3 (h:SW w b c t d p v g a m R P)(hq:R.ah.kind=1){L:Value}{a':Nat}{m':Int}{R':Wk}{P':Pg}
 (hn:Calls prog 213 #[.pointer (some ⟨b,0,none⟩),.pointer (some ⟨c,0,none⟩)] w (aI w b c t d p v g a' m' L R' P')):
 Calls prog 191 #[.pointer (some ⟨b,0,none⟩),.pointer (some ⟨c,0,none⟩)] w (aI w b c t d p v g a' m' L R' P'):=by
 have q0:=h.wk.at 0 (.int .i64 R.ah.kind) rfl;rw[hq]at q0;replace hq:=qae hq;go_enter func191,ntmps191;go_wp2_with (go_at_call 213;go_must (refine hn.mono ?_);rintro e w8 ⟨rfl,v8,g8,iL,fE⟩);go_ret;exact⟨rfl,v8,g8,iL,fE⟩
theorem Q4 (h:SW w b c t d p v g a m R P)(hq:R.ah.kind=2){L:Value}{a':Nat}{m':Int}{R':Wk}{P':Pg}
 (hn:Calls prog 214 #[.pointer (some ⟨b,0,none⟩),.pointer (some ⟨c,0,none⟩),.int .i64 5] w (aI w b c t d p v g a' m' L R' P')):
 Calls prog 191 #[.pointer (some ⟨b,0,none⟩),.pointer (some ⟨c,0,none⟩)] w (aI w b c t d p v g a' m' L R' P'):=by
 have q0:=h.wk.at 0 (.int .i64 R.ah.kind) rfl;rw[hq]at q0;replace hq:=qae hq;go_enter func191,ntmps191;go_wp2_with (go_at_call 214;go_must (refine hn.mono ?_);rintro e w8 ⟨rfl,v8,g8,iL,fE⟩);go_ret;exact⟨rfl,v8,g8,iL,fE⟩
theorem Q5 (h:SW w b c t d p v g a m R P)(hq:R.ah.kind=5){L:Value}{a':Nat}{m':Int}{R':Wk}{P':Pg}
 (hn:Calls prog 214 #[.pointer (some ⟨b,0,none⟩),.pointer (some ⟨c,0,none⟩),.int .i64 4] w (aI w b c t d p v g a' m' L R' P')):
 Calls prog 191 #[.pointer (some ⟨b,0,none⟩),.pointer (some ⟨c,0,none⟩)] w (aI w b c t d p v g a' m' L R' P'):=by
 have q0:=h.wk.at 0 (.int .i64 R.ah.kind) rfl;rw[hq]at q0;replace hq:=qae hq;go_enter func191,ntmps191;go_wp2_with (go_at_call 214;go_must (refine hn.mono ?_);rintro e w8 ⟨rfl,v8,g8,iL,fE⟩);go_ret;exact⟨rfl,v8,g8,iL,fE⟩
theorem Q6 (h:SW w b c t d p v g a m R P)(hq:R.ah.kind=3){L:Value}{a':Nat}{m':Int}{R':Wk}{P':Pg}
 (hn:Calls prog 215 #[.pointer (some ⟨b,0,none⟩),.pointer (some ⟨c,0,none⟩)] w (aI w b c t d p v g a' m' L R' P')):
 Calls prog 191 #[.pointer (some ⟨b,0,none⟩),.pointer (some ⟨c,0,none⟩)] w (aI w b c t d p v g a' m' L R' P'):=by
 have q0:=h.wk.at 0 (.int .i64 R.ah.kind) rfl;rw[hq]at q0;replace hq:=qae hq;go_enter func191,ntmps191;go_wp2_with (go_at_call 215;go_must (refine hn.mono ?_);rintro e w8 ⟨rfl,v8,g8,iL,fE⟩);go_ret;exact⟨rfl,v8,g8,iL,fE⟩
theorem Q7 (h:SW w b c t d p v g a m R P)(hq:R.ah.kind=4){L:Value}{a':Nat}{m':Int}{R':Wk}{P':Pg}
 (hn:Calls prog 216 #[.pointer (some ⟨b,0,none⟩),.pointer (some ⟨c,0,none⟩)] w (aI w b c t d p v g a' m' L R' P')):
 Calls prog 191 #[.pointer (some ⟨b,0,none⟩),.pointer (some ⟨c,0,none⟩)] w (aI w b c t d p v g a' m' L R' P'):=by
 have q0:=h.wk.at 0 (.int .i64 R.ah.kind) rfl;rw[hq]at q0;replace hq:=qae hq;go_enter func191,ntmps191;go_wp2_with (go_at_call 216;go_must (refine hn.mono ?_);rintro e w8 ⟨rfl,v8,g8,iL,fE⟩);go_ret;exact⟨rfl,v8,g8,iL,fE⟩
theorem Q8 (h:SW w b c t d p v g a m R P)(hq:R.ah.kind=7){L:Value}{a':Nat}{m':Int}{R':Wk}{P':Pg}
 (hn:Calls prog 217 #[.pointer (some ⟨b,0,none⟩),.pointer (some ⟨c,0,none⟩)] w (aI w b c t d p v g a' m' L R' P')):
 Calls prog 191 #[.pointer (some ⟨b,0,none⟩),.pointer (some ⟨c,0,none⟩)] w (aI w b c t d p v g a' m' L R' P'):=by
 have q0:=h.wk.at 0 (.int .i64 R.ah.kind) rfl;rw[hq]at q0;replace hq:=qae hq;go_enter func191,ntmps191;go_wp2_with (go_at_call 217;go_must (refine hn.mono ?_);rintro e w8 ⟨rfl,v8,g8,iL,fE⟩);go_ret;exact⟨rfl,v8,g8,iL,fE⟩
theorem Q9 (h:SW w b c t d p v g a m R P)(hq:R.ah.kind=8){L:Value}{a':Nat}{m':Int}{R':Wk}{P':Pg}
 (hn:Calls prog 218 #[.pointer (some ⟨b,0,none⟩),.pointer (some ⟨c,0,none⟩)] w (aI w b c t d p v g a' m' L R' P')):
 Calls prog 191 #[.pointer (some ⟨b,0,none⟩),.pointer (some ⟨c,0,none⟩)] w (aI w b c t d p v g a' m' L R' P'):=by
 have q0:=h.wk.at 0 (.int .i64 R.ah.kind) rfl;rw[hq]at q0;replace hq:=qae hq;go_enter func191,ntmps191;go_wp2_with (go_at_call 218;go_must (refine hn.mono ?_);rintro e w8 ⟨rfl,v8,g8,iL,fE⟩);go_ret;exact⟨rfl,v8,g8,iL,fE⟩
theorem Ra (h:SW w b c t d p v g a m R P)(hq:R.ah.kind=9){L:Value}{a':Nat}{m':Int}{R':Wk}{P':Pg}
 (hn:Calls prog 219 #[.pointer (some ⟨b,0,none⟩),.pointer (some ⟨c,0,none⟩)] w (aI w b c t d p v g a' m' L R' P')):
 Calls prog 191 #[.pointer (some ⟨b,0,none⟩),.pointer (some ⟨c,0,none⟩)] w (aI w b c t d p v g a' m' L R' P'):=by
 have q0:=h.wk.at 0 (.int .i64 R.ah.kind) rfl;rw[hq]at q0;replace hq:=qae hq;go_enter func191,ntmps191;go_wp2_with (go_at_call 219;go_must (refine hn.mono ?_);rintro e w8 ⟨rfl,v8,g8,iL,fE⟩);go_ret;exact⟨rfl,v8,g8,iL,fE⟩
theorem NV (h:SW w b c t d p v g a m R P)(hq:R.ah.kind=13):
 Calls prog 191 #[.pointer (some ⟨b,0,none⟩),.pointer (some ⟨c,0,none⟩)] w (aI w b c t d p v g a m .nilFunc R {P with cl:=true}):=by
 have q0:=h.wk.at 0 (.int .i64 R.ah.kind) rfl;rw[hq]at q0;replace hq:=qae hq;have c4:=h.cw.c4;have f4:=h.cw.fz 4;obtain⟨hC,hS⟩:=h.cw.close;have hS2:=h.core hC hS;have hW2:=(WS.dU hS:WS w (w.setCell ⟨c,4,none⟩ (.bool true)) b c t d p v g v g);go_enter func191,ntmps191;go_wp2_with fail;go_ret;exact⟨rfl,v,g,hS2,hW2⟩
end
theorem Rb (n:Nat):dM (fA n)=List.replicate n 1:=by
 refine rX (by rw[bP];simp[fA]) fun i hi=>?_;have hin:i<n:=by rw[bP]at hi;simpa[fA]using hi
 rw[dN,gp (by simpa[fA]using hin)];have h1:¬0≤holderL (fA n).L i:=by unfold fA holderL;simp
 rw[qai h1];simp[fA,List.getD_eq_getElem?_getD,hin]
theorem NW (n:Nat)(t:Int):aF (fA n) t 0=n:=by
 unfold aF aU bM;have h1:(List.range (fA n).dr.length).countP (bW (fA n) t)=n:=by
  have e:(fA n).dr.length=n:=by simp[fA]
  rw[e];have:(List.range n).countP (bW (fA n) t)=(List.range n).length:=by
   rw[List.countP_eq_length];intro k hk;have hk:=List.mem_range.1 hk;unfold bW fA holderL;simp[List.getD_eq_getElem?_getD,hk]
  rw[this,List.length_range]
 rw[h1];simp[fA]
structure ZP (w0 w : World) (c t d p : Nat) (v : Value) (g a : Nat) (m : Int) (P : Pg) : Prop where
 cw:CW w c t d p v g a m P
 lo:∀k,eQ c t d p v g k→w0.heap.size≤k
section
variable {w : World}
theorem Rc (n:Int)(w:World)(h:n<1∨64<n):Calls prog 15 #[.int .i64 n] w fun e w'=>e=.returned (.tuple #[.pointer none,.int .i64 1])∧w=w':=by
 have hn:=Kj n w h;go_enter func15,ntmps15;go_wp2_with (go_at_call 61;go_must (refine hn.mono ?_);rintro e w' ⟨rfl,rfl⟩);go_ret2;exact⟨rfl,rfl⟩
theorem Lh (n:Nat)(w:World)(h1:1≤n)(h2:n≤64):Calls prog 15 #[.int .i64 n] w fun e w'=>∃c t d p v g,e=.returned (.tuple #[.pointer (some ⟨c,0,none⟩),.int .i64 0])∧ZP w w' c t d p v g 1 0 (au (fA n))∧Below w.heap.size w w':=by
 have hn:=Kl n w h1 h2;go_enter func15,ntmps15;go_wp2_with fail;go_at_call 61;refine hn.mono ?_;clear hn;rintro e w1 ⟨rfl,hT1,hb1⟩;have hs1:w.heap.size<w1.heap.size:=ai hT1;have hp:=Kw (n:Int) w1 (by omega);go_wp2_with fail;go_at_call 62;refine hp.mono ?_;clear hp;rintro e w2 ⟨p,g,rfl,hP2,lp,lg,hb2⟩;have E8:TW w2 w.heap.size (List.replicate n 1):=hT1.kept hb2;have hj:=ML w2;go_wp2_with fail;go_at_call 63;refine hj.mono ?_;clear hj;rintro e w3 ⟨rfl,hw3⟩;have hb3:Below w2.heap.size w2 w3:=by rw[←hw3];exact qac.alloc (qaf _) _
 have hJ3:TV w3 w2.heap.size (.slice none 0 0) []:=by rw[←hw3];exact BV.Y5 w2
 have pW:=E8.kept hb3;have hP3:=hP2.kept hb3;have hs2:=hb2.size;replace hw3:=qae hw3;obtain⟨w4,hw4⟩:=qaa (w3.alloc (.cells #[.pointer (some ⟨w2.heap.size,0,none⟩),.pointer (some ⟨w.heap.size,0,none⟩),.pointer (some ⟨p,0,none⟩),.bool true,.bool false] 48));have hb4:Below w3.heap.size w3 w4:=by rw[hw4];exact qac.alloc (qaf _) _
 have hc4:w4.heap[w3.heap.size]? =some (.cells #[.pointer (some ⟨w2.heap.size,0,none⟩),.pointer (some ⟨w.heap.size,0,none⟩),.pointer (some ⟨p,0,none⟩),.bool true,.bool false] 48 (0,0)):=by rw[hw4];exact heap_alloc_new w3 _
 have hs3:=hb3.size;have hCW:Hid (CW w4 w3.heap.size w2.heap.size w.heap.size p (.slice none 0 0) g 1 0 (au (fA n))):=by
  refine⟨hc4,hJ3.kept hb4,by show TW w4 w.heap.size (dM (fA n));rw[Rb];exact pW.kept hb4,[(0,(n:Int))],0,hP3.kept hb4,?_,qaf _,Int.le_refl _,Int.le_refl _⟩;exact(TJ n).congr fun t _=>(NW n t).symm
 have hlo:Hid (∀k,eQ w3.heap.size w2.heap.size w.heap.size p (.slice none 0 0) g k→w.heap.size≤k):=by
  rintro k (rfl|rfl|rfl|rfl|hv|rfl)
  ·omega
  ·omega
  ·exact qaf _
  ·omega
  ·cases hv
  ·omega
 have hbw:=hb1.trans ((hb2.trans ((hb3.trans (hb4.mono hb3.size)).mono hb2.size)).mono hb1.size);clear hc4 hJ3 pW hP3 hT1 E8 hP2;go_wp2_with fail;rw[←hw4];go_ret2;exact⟨w3.heap.size,w2.heap.size,w.heap.size,p,.slice none 0 0,g,rfl,⟨hCW.out,hlo.out⟩,hbw⟩
def zI (r:Rq):Wk:=⟨oh r,0,0,gP 142,jD,0,0,uP,false⟩
def BJ (i t:Int):Wk:=⟨XM,i,t,gP 144,jD,0,0,uP,false⟩
theorem xQ (i t:Int)(w:World):Calls prog 66 #[.agg #[.int .i64 i,.int .i64 t]] w fun e w'=>∃b,e=.returned (.pointer (some ⟨b,0,none⟩))∧dm w' b (BJ i t)∧w.heap.size≤b∧Below w.heap.size w w':=by
 obtain⟨w2,hw2⟩:=qaa ((w.alloc (.cells #[.int .i64 i,.int .i64 t] 35)).alloc (.cells (iF (BJ i t)).toArray 190));have hb2:Below w.heap.size w w2:=by rw[hw2];exact(qac.alloc (qaf _) _).alloc (by simp) _
 have hW2:dm w2 (w.heap.size+1) (BJ i t):=by show _=_;rw[hw2];exact heap_alloc2_new w _ _
 have hl:(iF (BJ i t)).toArray= #[.int .i64 0,.int .i64 0,.int .i64 0,.int .i64 0,.int .i64 0,.int .i64 0,.bool false,.int .i64 0,.int .i64 0,.int .i64 i,.int .i64 t,.func (.func 144) #[] #[],.int .i64 0,.int .i64 0,.int .i64 0,.int .i64 0,.int .i64 0,.int .i64 0,.int .i64 0,.int .i64 0,.int .i64 0,.int .u64 0,.int .i64 0,.int .i64 0,.int .i64 0,.int .i64 0,.int .i64 0,.int .i64 0,.int .i64 0,.int .i64 0,.int .i64 0,.int .i64 0,.int .i64 0,.bool false]:=rfl;rw[hl]at hw2;replace hl:=qae hl;go_enter func66,ntmps66;go_wp2_with fail;rw[←hw2];go_ret;exact⟨w.heap.size+1,rfl,hW2,Nat.le_succ _,hb2⟩
theorem BK (r:Rq)(w:World):Calls prog 64 #[.agg (encR r).toArray] w fun e w'=>∃b,e=.returned (.pointer (some ⟨b,0,none⟩))∧dm w' b (zI r)∧w.heap.size≤b∧Below w.heap.size w w':=by
 have zR:=nO;obtain⟨k9,bB⟩:∃k,k=9:=⟨_,rfl⟩;rw[←bB]at zR;have hk0:¬k9=0:=by omega
 have lR:=jY r;rw[←bB]at lR;replace bB:=qae bB;obtain⟨wA,aj⟩:=qaa (w.alloc (.cells (encR r).toArray 33));have aC:Below w.heap.size w wA:=by rw[aj];exact qac.alloc (qaf _) _
 have mo:wA.heap[w.heap.size]? =some (.cells (encR r).toArray 33 (0,0)):=by rw[aj];exact heap_alloc_new w _
 have ZQ:=gX mo lR;have hcl:=QF r wA;rw[aj]at ZQ hcl;generalize hcr:encR r=cR at*;replace hcr:=qae hcr;go_enter func64,ntmps64;go_wp2_with fail;go_at_call 141;refine hcl.mono ?_;clear hcl ZQ;rw[←aj];rintro e w1 ⟨rfl,hb1⟩;replace aj:=qae aj;obtain⟨y1,y2,y3,y4,y5,y6,y7,y8,y9,hy⟩:∃y1 y2 y3 y4 y5 y6 y7 y8 y9,oh r=⟨y1,y2,y3,y4,y5,y6,y7,y8,y9⟩:=⟨_,_,_,_,_,_,_,_,_,rfl⟩;obtain⟨w2,hw2⟩:=qaa (w1.alloc (.cells (iF (zI r)).toArray 190));have hb2:Below w1.heap.size w1 w2:=by rw[hw2];exact qac.alloc (qaf _) _
 have hW2:dm w2 w1.heap.size (zI r):=by show _=_;rw[hw2];exact heap_alloc_new w1 _
 have hl:(iF (zI r)).toArray= #[.int .i64 y1,.int .i64 y2,.int .i64 y3,.int .i64 y4,.int .i64 y5,.int .i64 y6,.bool y7,.int .i64 y8,.int .i64 y9,.int .i64 0,.int .i64 0,.func (.func 142) #[] #[],.int .i64 0,.int .i64 0,.int .i64 0,.int .i64 0,.int .i64 0,.int .i64 0,.int .i64 0,.int .i64 0,.int .i64 0,.int .u64 0,.int .i64 0,.int .i64 0,.int .i64 0,.int .i64 0,.int .i64 0,.int .i64 0,.int .i64 0,.int .i64 0,.int .i64 0,.int .i64 0,.int .i64 0,.bool false]:=by unfold zI;rw[hy];rfl
 have hbw:=aC.trans ((hb1.trans (hb2.mono hb1.size)).mono aC.size);have hlo:w.heap.size≤w1.heap.size:=Nat.le_trans aC.size hb1.size;rw[hl]at hw2;rw[hy,show(encR ⟨y1,y2,y3,y4,y5,y6,y7,y8,y9⟩).toArray= #[.int .i64 y1,.int .i64 y2,.int .i64 y3,.int .i64 y4,.int .i64 y5,.int .i64 y6,.bool y7,.int .i64 y8,.int .i64 y9]from rfl];replace hl:=qae hl;replace hy:=qae hy;obtain rfl:=bB.out;go_wp2_with fail;rw[←hw2];go_ret;exact⟨w1.heap.size,rfl,hW2,hlo,hbw⟩
end
def fJ (k a:Nat)(m:Int)(R:Wk)(P:Pg)(L:Value)(a':Nat)(m':Int)(R':Wk)(P':Pg):Prop:=
 ∀(w:World) (b c t d p:Nat) (v:Value) (g:Nat),SW w b c t d p v g a m R P→Calls prog k #[.pointer (some ⟨b,0,none⟩),.pointer (some ⟨c,0,none⟩)] w (aI w b c t d p v g a' m' L R' P')
def One (dn:Bool)(a:Nat)(m:Int)(R:Wk)(P:Pg)(a':Nat)(m':Int)(R':Wk)(P':Pg):Prop:=
 ∀(w:World) (b c t d p:Nat) (v:Value) (g:Nat),SW w b c t d p v g a m R P→Calls prog 143 #[.pointer (some ⟨b,0,none⟩),.pointer (some ⟨c,0,none⟩)] w fun e w'=>e=.returned (.bool dn)∧∃v' g',SW w' b c t d p v' g' a' m' R' P'∧WS w w' b c t d p v g v' g'
def Run :Nat→Nat→Int→Wk→Pg→(Nat→Int→Wk→Pg→Prop)→Prop
 |0,_,_,_,_,_=>False
 |N+1,a,m,R,P,Q=>(∃k,R.left=gP k)∧∃a' m' R' P',(N=0∧One true a m R P a' m' R' P'∧Q a' m' R' P')∨(One false a m R P a' m' R' P'∧Run N a' m' R' P' Q)
def gM (N a:Nat)(m:Int)(R:Wk)(P:Pg)(Q:Nat→Int→Wk→Pg→Prop):Prop:=∃K,K≤N∧Run K a m R P Q
theorem gM.more {N N' a:Nat}{m:Int}{R:Wk}{P:Pg}{Q:Nat→Int→Wk→Pg→Prop}(h:gM N a m R P Q)(hN:N≤N'):gM N' a m R P Q:=by
 obtain⟨K,h1,h2⟩:=h;exact⟨K,Nat.le_trans h1 hN,h2⟩
theorem Run.pos {K a:Nat}{m:Int}{R:Wk}{P:Pg}{Q:Nat→Int→Wk→Pg→Prop}(h:Run K a m R P Q):K≠0:=fun e=>by subst e;exact h
theorem Re {w:World}{b c t d p g N a:Nat}{v:Value}{m:Int}{R:Wk}{P:Pg}{Q:Nat→Int→Wk→Pg→Prop}(h:SW w b c t d p v g a m R P)(hr:Run N a m R P Q)(hN:N≤1999):
 Calls prog 65 #[.pointer (some ⟨c,0,none⟩),.pointer (some ⟨b,0,none⟩)] w fun e w'=>e=.returned (.int .i64 N)∧∃v' g' a' m' R' P',SW w' b c t d p v' g' a' m' R' P'∧Q a' m' R' P'∧WS w w' b c t d p v g v' g':=by
 have hN0:=hr.pos;go_enter func65,ntmps65;go_wp2_with fail;go_loopw [5] (fun ii wr=>∃(n K:Nat),ii=.int .i64 n∧1≤n∧n+K=N+1∧Hid (∃v1 g1 a1 m1 R1 P1,SW wr b c t d p v1 g1 a1 m1 R1 P1∧Run K a1 m1 R1 P1 Q∧WS w wr b c t d p v g v1 g1)) (fun ii _=>2000-(intOf ii).toNat)
 case atStart=>exact⟨1,N,rfl,qaf _,by omega,v,g,a,m,R,P,h,hr,WS.refl w⟩
 case round=>
  clear h hr;obtain⟨n,K,rfl,hn,hK,hg⟩:=hrel;obtain⟨v1,g1,a1,m1,R1,P1,hS,hr,hw⟩:=hg.out;clear hg;cases K with
  |zero=>exact hr.elim
  |succ K=>
   have d1:decide ((n:Int)<2000)=true:=qag (by omega);have b1:(n:Int)<2000:=by omega
   have wi:IntKind.i64.wrap ((n:Int)+1)=(n:Int)+1:=by rw[IntKind.wrap_i64];omega
   obtain⟨_,a2,m2,R2,P2,⟨rfl,ho,hq⟩|⟨ho,hq⟩⟩:=hr
   ·have hc:=ho wr b c t d p v1 g1 hS;replace hq:=qae hq;replace hw:=qae hw;clear ho hS;go_wp2_with fail;go_at_call 143;refine hc.mono ?_;clear hc;rintro e w' ⟨rfl,v2,g2,hS2,hw2⟩;replace hS2:=qae hS2;replace hw2:=qae hw2;go_wp2_with fail;go_ret;exact⟨congrArg (fun z=>Ending.returned (.int .i64 z)) (show(n:Int)=N by omega),v2,g2,a2,m2,R2,P2,hS2.out,hq.out,hw.out.trans hw2.out⟩
   ·have hK0:=hq.pos;have hc:=ho wr b c t d p v1 g1 hS;replace hq:=qae hq;replace hw:=qae hw;clear ho hS;go_wp2_with fail;go_at_call 143;refine hc.mono ?_;clear hc;rintro e w' ⟨rfl,v2,g2,hS2,hw2⟩;replace hS2:=qae hS2;replace hw2:=qae hw2;go_wp2_with fail;go_roundw
    case rel=>exact⟨n+1,K,by go_num,by omega,by omega,v2,g2,a2,m2,R2,P2,hS2.out,hq.out,hw.out.trans hw2.out⟩
    case measure=>simp[intOf];omega
def Fin (mx:Int)(M:Md)(y:Ry)(ok:Bool)(a:Nat)(m:Int)(R:Wk)(P:Pg):Prop:=P=au M∧a≤800∧m≤mx∧R.left=.nilFunc∧R.rep=y∧R.ok=ok
section
variable {a N : Nat} {m mx : Int} {P : Pg} {M M' : Md} {R : Wk} {Q : Nat → Int → Wk → Pg → Prop}
theorem yH {k k' a':Nat}{m':Int}{R':Wk}{P':Pg}(hl:R.left=gP k)(hl':R'.left=gP k)
 (hk:∀args w,Sem.run prog (callFunc k args) w=.ok (.enter k args) w)
 (hp:fJ k a m R P (gP k') a' m' R' P')
 (hn:gM N a' m' {R' with left:=gP k'} P' Q):gM (N+1) a m R P Q:=by
 obtain⟨K,h1,h2⟩:=hn;refine⟨K+1,by omega,⟨k,hl⟩,a',m',_,P',.inr ⟨fun w b c t d p v g h=>?_,h2⟩⟩;refine(KG h hl hl' (.inr ⟨⟨k',rfl⟩,rfl⟩) hk (hp w b c t d p v g h)).mono ?_;rintro e w' ⟨rfl,v',g',h1,h2⟩;exact⟨rfl,v',g',h1,h2⟩
theorem yI {k a':Nat}{m':Int}{R':Wk}(hl:R.left=gP k)(hl':R'.left=gP k)
 (hk:∀args w,Sem.run prog (callFunc k args) w=.ok (.enter k args) w)
 (hp:fJ k a m R P .nilFunc a' m' R' (au M'))
 (ha:a'≤800) (hm:m'≤mx):gM (N+1) a m R P (Fin mx M' R'.rep R'.ok):=by
 refine⟨1,by omega,⟨k,hl⟩,a',m',{R' with left:=.nilFunc},au M',.inl ⟨rfl,fun w b c t d p v g h=>?_,rfl,ha,hm,rfl,rfl,rfl⟩⟩;refine(KG h hl hl' (.inl ⟨rfl,rfl⟩) hk (hp w b c t d p v g h)).mono ?_;rintro e w' ⟨rfl,v',g',h1,h2⟩;exact⟨rfl,v',g',h1,h2⟩
theorem uW :∀args w,Sem.run prog (callFunc 233 args) w=.ok (.enter 233 args) w:=fun _ _=>rfl
theorem bR :∀args w,Sem.run prog (callFunc 142 args) w=.ok (.enter 142 args) w:=fun _ _=>rfl
theorem AO :∀args w,Sem.run prog (callFunc 144 args) w=.ok (.enter 144 args) w:=fun _ _=>rfl
theorem Gn :∀args w,Sem.run prog (callFunc 192 args) w=.ok (.enter 192 args) w:=fun _ _=>rfl
theorem Rf :∀args w,Sem.run prog (callFunc 220 args) w=.ok (.enter 220 args) w:=fun _ _=>rfl
theorem Eh :∀args w,Sem.run prog (callFunc 243 args) w=.ok (.enter 243 args) w:=fun _ _=>rfl
theorem Li :∀args w,Sem.run prog (callFunc 234 args) w=.ok (.enter 234 args) w:=fun _ _=>rfl
theorem yJ :∀args w,Sem.run prog (callFunc 236 args) w=.ok (.enter 236 args) w:=fun _ _=>rfl
theorem Gp :∀args w,Sem.run prog (callFunc 238 args) w=.ok (.enter 238 args) w:=fun _ _=>rfl
theorem BM :∀args w,Sem.run prog (callFunc 242 args) w=.ok (.enter 242 args) w:=fun _ _=>rfl
theorem wN (hl:R.left=gP 233)(hid:R.aM.id≠0)(h1:1≤M.dr.length)(hll:M.L.length≤900)(hmx:mx≤1000000)(q:Nat):
 ∀{L:List Jb} {a:Nat} {m:Int},L.length=M.L.length→hits R.aM L≤q→aS {M with L:=L}→eH {M with L:=L} R.aM=M'→a+2*hits R.aM L≤800→m+hits R.aM L≤mx→
  gM (q+1) a m R (au {M with L:=L}) (Fin mx M' R.rep R.ok):=by
 induction q with
 |zero=>
  intro L a m hL hq hI hM ha hm;refine yI (k:=233) (M':=M') (a':=a) (m':=m) hl hl uW (fun w b c t d p v g hS=>(uS hS hI h1 (by show L.length≤900;omega) (by omega) (by omega) hid).mono fun e w' hp=>?_) (by omega) (by omega);rcases hp with⟨ho,hp⟩|⟨i,ho,_⟩
  ·have:=uG (M:={M with L:=L}) ho;rw[this]at hM;rw[←hM];exact hp
  ·have:=(kS (L:=L) ho).2.2.2.2;omega
 |succ q ih=>
  intro L a m hL hq hI hM ha hm;cases ho:fG R.aM L with
  |none=>
   refine yI (k:=233) (M':=M') (a':=a) (m':=m) hl hl uW (fun w b c t d p v g hS=>(uS hS hI h1 (by show L.length≤900;omega) (by omega) (by omega) hid).mono fun e w' hp=>?_) (by omega) (by omega);rcases hp with⟨_,hp⟩|⟨i,h2,_⟩
   ·have:=uG (M:={M with L:=L}) ho;rw[this]at hM;rw[←hM];exact hp
   ·have h3:fG R.aM L=some i:=h2;rw[ho]at h3;cases h3
  |some i=>
   obtain⟨hi,_,_,_,hh⟩:=kS ho;refine yH (k:=233) (k':=233) (a':=a+2) (m':=m+1) (R':=R) (P':=au {M with L:=L.set i ((L.getD i default).aR (-1))}) hl hl uW (fun w b c t d p v g hS=>(uS hS hI h1 (by show L.length≤900;omega) (by omega) (by omega) hid).mono fun e w' hp=>?_) ?_
   ·rcases hp with⟨h2,_⟩|⟨i2,h2,hp⟩
    ·have h3:fG R.aM L=none:=h2;rw[ho]at h3;cases h3
    ·have h3:fG R.aM L=some i2:=h2;rw[ho]at h3;obtain rfl:=Option.some.inj h3;exact hp
   ·rw[←hl];exact ih (L:=L.set i ((L.getD i default).aR (-1))) (by rw[List.length_set];exact hL) (by omega) (hI.zk hi) ((yn (M:={M with L:=L}) ho).trans hM) (by omega) (by omega)
end
def mO (x:Rl):Ry:=⟨x.1,x.2.1,x.2.2.1,x.2.2.2.1,x.2.2.2.2.1,x.2.2.2.2.2.1,x.2.2.2.2.2.2.1,x.2.2.2.2.2.2.2.1,x.2.2.2.2.2.2.2.2⟩
section
variable {M : Md}
theorem wO (M:Md):(kE M).length≤1+2*M.L.length:=by
 have key:∀(ts:List Int) (acc:List (Int×Int)),(ts.foldl (stepOn M) acc).length≤acc.length+ts.length:=by
  intro ts
  induction ts with
  |nil=>intro acc;simp
  |cons t ts ih=>
   intro acc;have h1:=ih (stepOn M acc t);have h2:(stepOn M acc t).length≤acc.length+1:=by
    unfold stepOn;split
    ·split
     ·omega
     ·simp
    ·simp
   show(ts.foldl (stepOn M) (stepOn M acc t)).length≤acc.length+(ts.length+1);omega
 have h3:∀(n:Nat) (last:Int),(timesGo M.L n last).length≤n:=by
  intro n
  induction n with
  |zero=>intro last;simp[timesGo]
  |succ n ih=>
   intro last;unfold timesGo;split
   ·simp
   ·simp only[List.length_cons];have:=ih (jB M.L last);omega
 have h1:=key (jq M) [];have h4:=h3 (2*M.L.length) M.now;unfold kE;unfold jq at h1⊢;simp only[List.length_cons,List.length_nil]at h1;omega
theorem CW.UJ {w:World}{c t d p g a:Nat}{v:Value}{m:Int}(h:CW w c t d p v g a m (au M))(hI:aS M):CW w c t d p v g (1+2*M.L.length) m (au M):=by
 obtain⟨S,aX,hp,hC,hl,h0⟩:=h.nZ;have e:S=kE M:=hC.uniq (C8 hI) fun _ _=>rfl;exact⟨h.cell,h.fZ,h.nodes,S,aX,hp,hC,by rw[e];exact wO M,h0⟩
theorem NY (M:Md)(hn:M.dr.length≤64)(r:Rq)(hk:r.kind=1):(pE M.dr.length r=9∧iV M (toW r)=9)∨(pE M.dr.length r=0∧kz M.L r=iV M (toW r)):=by
 have hlive:nE M=kX M.L:=rfl;have s1:(r.user<0∨255<r.user∨r.prio<0∨1000<r.prio)→iV M (toW r)=1:=fun h=>qaj h;have s2:¬(r.user<0∨255<r.user∨r.prio<0∨1000<r.prio)→(r.width<1∨(M.dr.length:Int)<r.width)→iV M (toW r)=9:=fun h h'=>(qai h).trans (qaj h');have s3:¬(r.user<0∨255<r.user∨r.prio<0∨1000<r.prio)→¬(r.width<1∨(M.dr.length:Int)<r.width)→(r.limit<1∨1048576<r.limit)→iV M (toW r)=10:=fun h h' h2=>(qai h).trans ((qai h').trans (qaj h2));have s4:¬(r.user<0∨255<r.user∨r.prio<0∨1000<r.prio)→¬(r.width<1∨(M.dr.length:Int)<r.width)→¬(r.limit<1∨1048576<r.limit)→(63<nE M∨1023<M.L.length)→iV M (toW r)=6:=fun h h' h2 h3=>(qai h).trans ((qai h').trans ((qai h2).trans (qaj h3)));have s5:¬(r.user<0∨255<r.user∨r.prio<0∨1000<r.prio)→¬(r.width<1∨(M.dr.length:Int)<r.width)→¬(r.limit<1∨1048576<r.limit)→¬(63<nE M∨1023<M.L.length)→iV M (toW r)=0:=fun h h' h2 h3=>(qai h).trans ((qai h').trans ((qai h2).trans (qai h3)));have b1:bD r≠0→kz M.L r=bD r:=fun h=>qaj h;have b2:bD r=0→(64≤kX M.L∨1024≤M.L.length)→kz M.L r=6:=fun h h'=>(qai (by omega)).trans (qaj h');have b3:bD r=0→¬(64≤kX M.L∨1024≤M.L.length)→kz M.L r=0:=fun h h'=>(qai (by omega)).trans (qai h');have x1:(r.kind=1∧(M.dr.length:Int)<r.width∧r.width≤64∧bD r≠1)→pE M.dr.length r=9:=fun h=>qaj h;have x2:¬(r.kind=1∧(M.dr.length:Int)<r.width∧r.width≤64∧bD r≠1)→pE M.dr.length r=0:=fun h=>qai h;by_cases h1:r.user<0∨255<r.user∨r.prio<0∨1000<r.prio
 ·have hR:bD r=1:=by unfold bD;(repeat' split)<;>omega
  exact .inr ⟨x2 (by omega),by rw[s1 h1,b1 (by omega),hR]⟩
 ·by_cases h2:r.width<1
  ·have hR:bD r=9:=by unfold bD;(repeat' split)<;>omega
   exact .inr ⟨x2 (by omega),by rw[s2 h1 (.inl h2),b1 (by omega),hR]⟩
  ·by_cases h3:(M.dr.length:Int)<r.width
   ·by_cases h4:r.width≤64
    ·have hR:bD r≠1:=by unfold bD;(repeat' split)<;>omega
     exact .inl ⟨x1 ⟨hk,h3,h4,hR⟩,s2 h1 (.inr h3)⟩
    ·have hR:bD r=9:=by unfold bD;(repeat' split)<;>omega
     exact .inr ⟨x2 (by omega),by rw[s2 h1 (.inr h3),b1 (by omega),hR]⟩
   ·by_cases h5:r.limit<1∨1048576<r.limit
    ·have hR:bD r=10:=by unfold bD;(repeat' split)<;>omega
     exact .inr ⟨x2 (by omega),by rw[s3 h1 (by omega) h5,b1 (by omega),hR]⟩
    ·have hR:bD r=0:=by unfold bD;(repeat' split)<;>omega
     refine .inr ⟨x2 (by omega),?_⟩;by_cases h6:63<kX M.L∨1023<M.L.length
     ·rw[s4 h1 (by omega) h5 h6,b2 hR (by omega)]
     ·rw[s5 h1 (by omega) h5 h6,b3 hR (by omega)]
end
section
variable {a N : Nat} {m mx : Int} {P : Pg} {M M' : Md} {R : Wk} {Q : Nat → Int → Wk → Pg → Prop}
theorem Ei (j:Jb)(L:List Jb):hits j L≤L.length:=List.countP_le_length
theorem bL {k a':Nat}{m':Int}{R':Wk}{M1:Md}{y:Ry}{o:Bool}(hk:∀args w,Sem.run prog (callFunc k args) w=.ok (.enter k args) w)
 (hp:fJ k a m R P .nilFunc a' m' R' (au M1))
 (hl:R.left=gP k) (hl':R'.left=R.left) (ha:a'≤800) (hm:m'≤mx) (hM:M1=M') (hy:R'.rep=y) (ho:R'.ok=o):gM (N+1) a m R P (Fin mx M' y o):=by
 subst hM hy ho;exact yI hl (hl'.trans hl) hk hp ha hm
theorem gM.ok {y:Ry}{o o':Bool}(h:gM N a m R P (Fin mx M' y o))(e:o=o'):gM N a m R P (Fin mx M' y o'):=e▸h
theorem IM (hl:R.left=gP 142)(hI:aS M)(hcl:M.cl=false)(h1:1≤M.dr.length)(hll:M.L.length≤190)(ha:a≤1+2*M.L.length)(hm:m+1000≤mx)(hmx:mx≤1000000)
 (hk:R.ah.kind=1) (ho:R.ok=false):gM 1000 a m R (au M) (Fin mx (iW M (toW R.ah)).2 (mO (iW M (toW R.ah)).1) false):=by
 have vD:=gL hI h1 (by omega);have hrd:lu R.ah.kind=false:=by rw[hk];rfl
 have kM:∀{L:Value} {a':Nat} {m':Int} {R':Wk} {P':Pg},fJ 213 a m R (au M) L a' m' R' P'→fJ 142 a m R (au M) L a' m' R' P':=fun hn w b c t d p v g hS=>gZ hS hcl (by rw[hk];decide) hrd (Q3 hS hk (hn w b c t d p v g hS));unfold iW;rcases NY M hI.mb.nn R.ah hk with⟨e1,e2⟩|⟨e1,e2⟩
 ·rw[qaj (by rw[e2];decide),e2];exact bL (N:=999) bR (kM (fun _ _ _ _ _ _ _ _ hS=>EU hS vD e1)) hl rfl (by omega) (by omega) rfl rfl rfl
 ·by_cases e3:iV M (toW R.ah)=0
  ·rw[qai (by omega)];rw[e3]at e2;cases hh:R.ah.held with
   |true=>
    rw[qaj (show(toW R.ah).held=true from hh)];exact bL (N:=999) bR (kM (fun _ _ _ _ _ _ _ _ hS=>Eb hS vD e1 e2 hh)) hl rfl (by omega) (by omega) rfl rfl ho
   |false=>
    rw[qai (show¬(toW R.ah).held=true by rw[show(toW R.ah).held=R.ah.held from rfl,hh];decide)];have hc:=e3;unfold iV at hc;have hst:(dS M (toW R.ah)).st=1:=by show(if R.ah.held then(2:Int)else 1)=1;rw[hh];rfl
    have hI1:aS {M with L:=M.L++[dS M (toW R.ah)]}:=by
     split at hc
     ·omega
     split at hc
     ·omega
     split at hc
     ·omega
     split at hc
     ·omega
     rename_i h2 h3 h4 h5
     have hn:=hI.mb.nn;exact hI.app (dS M (toW R.ah)) (hI.mb.app _ (by omega) (by show 0≤(toW R.ah).wid∧(toW R.ah).wid≤64;omega) (by show 0≤(toW R.ah).lim∧(toW R.ah).lim≤1048576;omega) (by show(-1:Int)≤-1∧(-1:Int)≤_;omega) (by show(-1:Int)≤-1∧(-1:Int)≤_;omega) (by show(0:Int)≤0∧(0:Int)≤_;omega)) rfl ⟨show 1≤(toW R.ah).wid by omega,show(toW R.ah).wid≤_ by omega,show 1≤(toW R.ah).lim by omega,by omega,by omega⟩ rfl (by omega)
    refine(yH (N:=901) (k:=142) (k':=233) (R':={R with rep:=kD (dS M (toW R.ah)),aM:=dS M (toW R.ah)}) hl hl bR (kM (fun _ _ _ _ _ _ _ _ hS=>KS hS vD e1 e2 hh)) ?_).more (show 902≤1000 by decide);have hL:(M.L++[dS M (toW R.ah)]).length=M.L.length+1:=by simp
    have ZR:=Ei (dS M (toW R.ah)) (M.L++[dS M (toW R.ah)]);have:=wN (M:={M with L:=M.L++[dS M (toW R.ah)]}) (M':=eH {M with L:=M.L++[dS M (toW R.ah)]} (dS M (toW R.ah))) (R:={({R with rep:=kD (dS M (toW R.ah)),aM:=dS M (toW R.ah)}:Wk)with left:=gP 233}) (mx:=mx) rfl (by show(M.L.length:Int)+1≠0;omega) h1 (by show(M.L++[dS M (toW R.ah)]).length≤900;omega) hmx 900 (L:=M.L++[dS M (toW R.ah)]) rfl (by show hits (dS M (toW R.ah)) _≤900;omega) hI1 rfl (by show a+2*hits (dS M (toW R.ah)) _≤800;omega) (by show m+(hits (dS M (toW R.ah)) _:Nat)≤mx;omega);exact this.ok ho
  ·rw[qaj e3];exact bL (N:=999) bR (kM (fun _ _ _ _ _ _ _ _ hS=>submit_bad hS vD e1 (iV M (toW R.ah)) e3 e2)) hl rfl (by omega) (by omega) rfl rfl rfl
end
structure Bg (a : Nat) (m mx : Int) (R : Wk) (M : Md) : Prop where
 left:R.left=gP 142
 inv:aS M
 calm:Calm M
 cl:M.cl=false
 one:1≤M.dr.length
 few:M.L.length≤190
 ha:a≤1+2*M.L.length
 hm:m+1000≤mx
 hmx:mx≤1000000
 ok:R.ok=false
section
variable {L : List Jb} {id : Int} {ok : Jb → Bool} {ch : Jb → Jb} {M : Md}
theorem zK (L:List Jb)(i:Nat):L[i]! =L.getD i default:=by rw[List.getElem!_eq_getElem?_getD,List.getD_eq_getElem?_getD]
theorem wP (h:¬(id<1∨(L.length:Int)<id)):cz L id=L.getD (id-1).toNat default:=by
 unfold cz;rw[qai (by omega),qai (by omega),zK]
theorem AP (h:id<1∨(L.length:Int)<id):cu L 0 id ok=7:=by
 unfold cu;rw[qai (by decide)];split
 ·rfl
 ·rw[qaj (by omega)]
theorem Ej (h:¬(id<1∨(L.length:Int)<id))(ho:ok (L.getD (id-1).toNat default)=false):cu L 0 id ok=8:=by
 unfold cu;rw[qai (by decide),qai (by omega),qai (by omega),zK,ho];rfl
theorem xG (h:¬(id<1∨(L.length:Int)<id))(ho:ok (L.getD (id-1).toNat default)=true):cu L 0 id ok=0:=by
 unfold cu;rw[qai (by decide),qai (by omega),qai (by omega),zK,ho];rfl
theorem rY {e0:Int}(h:cu L e0 id ok=0):dJ L e0 id ok ch=L.set (id-1).toNat (ch (L.getD (id-1).toNat default)):=by
 unfold dJ;rw[qaj h,zK]
theorem Gq (h:id<1∨(M.L.length:Int)<id):getM M id=(default,false):=qaj h
theorem zL (h:¬(id<1∨(M.L.length:Int)<id)):getM M id=(M.L.getD (id-1).toNat default,true):=qai h
theorem AQ {x:Jb}(h:¬(id<1∨(L.length:Int)<id)):cz (L.set (id-1).toNat x) id=x:=by
 rw[wP (by rw[List.length_set];exact h),iC,qaj ⟨rfl,by omega⟩]
theorem yK (r:Rw)(h:r.id<1∨(M.L.length:Int)<r.id):fC M r=(dB 7,M):=by
 unfold fC;rw[Gq h];exact qaj rfl
theorem Rh (r:Rw)(h:r.id<1∨(M.L.length:Int)<r.id):kY M r=(dB 7,M):=by
 unfold kY;rw[Gq h];exact qaj rfl
end
section
variable {a N : Nat} {m mx : Int} {P : Pg} {M M' : Md} {R : Wk} {Q : Nat → Int → Wk → Pg → Prop}
theorem NZ (hl:R.left=gP 142)(hc:M.cl=true)(ha:a≤800)(hm:m≤mx):
 gM 1000 a m R (au M) (Fin mx M (mO (dB 12)) false):=
 bL (N:=999) bR (fun _ _ _ _ _ _ _ _ hS=>E5 hS hc) hl rfl ha hm rfl rfl rfl
theorem N7 (h:Bg a m mx R M)(hq:¬(1≤R.ah.kind∧R.ah.kind≤13)):
 gM 1000 a m R (au M) (Fin mx M (mO (dB 4)) false):=
 bL (N:=999) bR (fun _ _ _ _ _ _ _ _ hS=>Lf hS h.cl hq) h.left rfl (by have:=h.ha;have:=h.few;omega) (by have:=h.hm;omega) rfl rfl rfl
theorem gY {k k' a':Nat}{m':Int}{R':Wk}{P':Pg}(hk:∀args w,Sem.run prog (callFunc k args) w=.ok (.enter k args) w)
 (hp:fJ k a m R P (gP k') a' m' R' P')
 (hl:R.left=gP k) (hl':R'.left=R.left)
 (hn:gM N a' m' {R' with left:=gP k'} P' Q):gM (N+1) a m R P Q:=
 yH hl (hl'.trans hl) hk hp hn
theorem E9 (h:Bg a m mx R M)(hk:R.ah.kind=4):
 gM 1000 a m R (au M) (Fin mx (fC M (toW R.ah)).2 (mO (fC M (toW R.ah)).1) false):=by
 have hll:=h.few;have ha:=h.ha;have hm:=h.hm;have hrd:lu R.ah.kind=false:=by rw[hk];rfl
 have kM:∀{L:Value} {a':Nat} {m':Int} {R':Wk} {P':Pg},fJ 216 a m R (au M) L a' m' R' P'→fJ 142 a m R (au M) L a' m' R' P':=fun hn w b c t d p v g hS=>gZ hS h.cl (by rw[hk];decide) hrd (Q7 hS hk (hn w b c t d p v g hS));by_cases hid:R.ah.id<1∨(M.L.length:Int)<R.ah.id
 ·rw[yK (toW R.ah) hid];exact bL (N:=999) bR (kM (fun _ _ _ _ _ _ _ _ hS=>zF hS 7 (by decide) (AP hid))) h.left rfl (by omega) (by omega) rfl rfl rfl
 ·have hi:(R.ah.id-1).toNat<M.L.length:=by omega
  have hmem:=bN hi;have eM:=zL (M:=M) hid;by_cases hs:(M.L.getD (R.ah.id-1).toNat default).st=2
  ·have hE:cu M.L 0 R.ah.id (fun j:Jb=>decide (j.state=2))=0:=xG hid (qag hs);have hr:fJ 216 a m R (au M) _ _ _ _ _:=fun _ _ _ _ _ _ _ _ hS=>K4 hS hE;have eL:dJ (au M).J 0 R.ah.id (fun j:Jb=>decide (j.state=2)) rH=M.L.set (R.ah.id-1).toNat ((M.L.getD (R.ah.id-1).toNat default).setSt 1):=rY hE;rw[eL,AQ hid]at hr;generalize hx:M.L.getD (R.ah.id-1).toNat default=x at*;have bo:=h.inv.one _ hmem;have bw:=h.inv.mb.wid _ hmem;have bl:=h.inv.mb.lim _ hmem;have bf:=h.inv.mb.fin _ hmem;have bn:=h.inv.mb.bY _ hmem;have hp:x.aW= -1:=h.inv.rest _ hmem (by omega);have hpl:ay (x.setSt 1)=false:=by unfold ay;simp[show(x.setSt 1).aW= -1 from hp]
   have hI1:aS {M with L:=M.L.set (R.ah.id-1).toNat (x.setSt 1)}:=
    h.inv.set (i:=(R.ah.id-1).toNat) (y:=x.setSt 1) (h.inv.mb.set _ _ bw bl (by show-1≤x.aW∧x.aW≤_;omega) bf bn) (by rw[hx];rfl) ⟨bo.1,bo.2.1,bo.2.2.1,(show(1:Int)≤1 by omega),(show(1:Int)≤6 by omega)⟩ (fun _=>hp) (fun e=>absurd (show(1:Int)=3 from e) (by decide)) (.inl hp) (h.inv.nN.set hi fun n e=>by unfold aN at e;simp[Jb.setSt,Jb.st]at e)
     fun t ht=>pq h.inv hi (by rw[hx];exact⟨fun e=>absurd (show(1:Int)=3 from e) (by decide),fun e=>by omega⟩) (by rw[hx];rfl) (by rw[hx];rfl) hpl t ht
   have hP:({au M with J:=M.L.set (R.ah.id-1).toNat (x.setSt 1)}:Pg)=au {M with L:=M.L.set (R.ah.id-1).toNat (x.setSt 1)}:=by
    have h3:((x.setSt 1).st=3)↔((M.L.getD (R.ah.id-1).toNat default).st=3):=by rw[hx];exact⟨fun e=>absurd (show(1:Int)=3 from e) (by decide),fun e=>by omega⟩
    have e1:dM M=dM {M with L:=M.L.set (R.ah.id-1).toNat (x.setSt 1)}:=by
     refine rX (by rw[bP,bP]) fun n hn=>?_;rw[dN,dN,sG hi h3 (by rw[hx];rfl)]
    have e2:(fun t=>aF M t 0)=fun t=>aF {M with L:=M.L.set (R.ah.id-1).toNat (x.setSt 1)} t 0:=by
     funext t
     rw[uB hi h3 (by rw[hx];rfl) (by rw[hx];rfl),fo hpl,hx,fo (by unfold ay;simp[hp])];omega
    show Pg.mk _ _ (dM M) (fun t=>aF M t 0) _=_;rw[e1,e2];rfl
   rw[hP]at hr;have e:fC M (toW R.ah)=(gH (x.setSt 1),eH {M with L:=M.L.set (R.ah.id-1).toNat (x.setSt 1)} (x.setSt 1)):=by
    have hj:gI (toW R.ah).kind x=x.setSt 1:=by unfold gI;rw[show(toW R.ah).kind=4 from hk];rfl
    unfold fC;rw[show(toW R.ah).id=R.ah.id from rfl,eM];refine(qai (fun e=>nomatch e)).trans ((qai ?_).trans ((qaj hk).trans ?_))
    ·show¬((R.ah.kind=3∧x.st≠1)∨(R.ah.kind=4∧x.st≠2));omega
    ·show(gH (gI (toW R.ah).kind x),eH {M with L:=M.L.set (R.ah.id-1).toNat (gI (toW R.ah).kind x)} (gI (toW R.ah).kind x))=_;rw[hj]
   rw[e];refine(gY (N:=901) (k:=142) (k':=233) bR (kM hr) h.left rfl ?_).more (show 902≤1000 by decide);have hL:(M.L.set (R.ah.id-1).toNat (x.setSt 1)).length=M.L.length:=List.length_set;have ZR:=Ei (x.setSt 1) (M.L.set (R.ah.id-1).toNat (x.setSt 1));have hidx:x.id=(((R.ah.id-1).toNat:Nat):Int)+1:=by rw[←hx];exact h.inv.ids _ hi
   have:=wN (M:={M with L:=M.L.set (R.ah.id-1).toNat (x.setSt 1)}) (M':=eH {M with L:=M.L.set (R.ah.id-1).toNat (x.setSt 1)} (x.setSt 1)) (R:={({R with aM:=x.setSt 1,rep:=kD (x.setSt 1)}:Wk)with left:=gP 233}) (mx:=mx) rfl (by show x.id≠0;omega) h.one (by show(M.L.set (R.ah.id-1).toNat (x.setSt 1)).length≤900;omega) h.hmx 900 (L:=M.L.set (R.ah.id-1).toNat (x.setSt 1)) rfl (by show hits (x.setSt 1) _≤900;omega) hI1 rfl (by show a+2*hits (x.setSt 1) _≤800;omega) (by show m+(hits (x.setSt 1) _:Nat)≤mx;omega);exact this.ok h.ok
  ·have hE:cu M.L 0 R.ah.id (fun j:Jb=>decide (j.state=2))=8:=Ej hid (qah hs);have e:fC M (toW R.ah)=(dB 8,M):=by
    unfold fC;rw[show(toW R.ah).id=R.ah.id from rfl,eM];exact(qai (fun e=>nomatch e)).trans (qaj (.inr ⟨hk,hs⟩))
   rw[e];exact bL (N:=999) bR (kM (fun _ _ _ _ _ _ _ _ hS=>zF hS 8 (by decide) hE)) h.left rfl (by omega) (by omega) rfl rfl rfl
end
section
variable {a N : Nat} {m mx : Int} {P : Pg} {M M' : Md} {R : Wk} {Q : Nat → Int → Wk → Pg → Prop}
theorem Gs {i:Nat}{y:Jb}(hi:i<M.L.length)(hs:(M.L.getD i default).st≠3)(hy:y.st≠3)(hy2:y.bY=(M.L.getD i default).bY)(hy3:y.fin=(M.L.getD i default).fin)(hyp:ay y=false)
 (hI:aS M) (hI1:aS {M with L:=M.L.set i y}) (h1:1≤M.dr.length) (hll:M.L.length≤900) (ha:a≤700) (hm:m+1≤mx) (hmx:mx≤1000000)
 (hl:R.left=gP 236) (hj:R.aM=M.L.getD i default):
 gM (N+1) a m R {au M with J:=M.L.set i y} (Fin mx {M with L:=M.L.set i y} R.rep R.ok):=by
 have hmem:=bN hi;have bo:=hI.one _ hmem;have bw:=hI.mb.wid _ hmem;have bl:=hI.mb.lim _ hmem;have bp:=hI.mb.aW _ hmem;have hst:(y.st=3)↔((M.L.getD i default).st=3):=⟨fun e=>absurd e hy,fun e=>absurd e hs⟩;have eX:=gL hI h1 hll;have om:=gL hI1 h1 (by rw[List.length_set];exact hll);have vD:PK {au M with J:=M.L.set i y}:=⟨eX.now,om.few,om.st,om.lim,eX.uN,eX.f⟩;have eT:dM M=dM {M with L:=M.L.set i y}:=by
  refine rX (by rw[bP,bP]) fun n hn=>?_;rw[dN,dN,sG hi hst hy2]
 have ef:∀t,aF {M with L:=M.L.set i y} t 0=aF M t 0+fe t 0 (M.L.getD i default):=fun t=>by
  rw[uB hi hst hy2 hy3,fo hyp];omega
 have eP:∀F:Int→Int,F=(fun t=>aF {M with L:=M.L.set i y} t 0)→({au M with J:=M.L.set i y,f:=F}:Pg)=au {M with L:=M.L.set i y}:=fun F hF=>by
  show Pg.mk _ _ (dM M) F _=_;rw[eT,hF];rfl
 cases hp:ay (M.L.getD i default)with
 |true=>
  have hv:fJ 236 a m R {au M with J:=M.L.set i y} _ _ _ _ _:=fun _ _ _ _ _ _ _ _ hS=>IB hS vD (by omega) (by omega) (by rw[hj];exact hp) (by rw[hj];exact bp.2) (by rw[hj];exact bl) (by rw[hj];exact bo.2.2.1) (by rw[hj];exact bw) (fun t=>aF {M with L:=M.L.set i y} t 0) (fun t ht=>by
   rw[hj];have hu:=uR hI hi hp t;rw[ky hi,fo (j:=(M.L.getD i default).aR (-1)) (by unfold ay;simp[Jb.aR,Jb.aW])]at hu;show aF {M with L:=M.L.set i y} t 0=aF M t 0+had (max (M.L.getD i default).aW M.now) ((M.L.getD i default).aW+(M.L.getD i default).lim) (M.L.getD i default).wid t;rw[ef];omega) (fun t ht=>om.f t ht)
  have e:=eP (fun t=>aF {M with L:=M.L.set i y} t 0) rfl;rw[e]at hv;exact bL (a':=a+2) (m':=m+1) yJ hv hl rfl (by omega) (by omega) rfl rfl rfl
 |false=>
  have hv:fJ 236 a m R {au M with J:=M.L.set i y} _ _ _ _ _:=fun _ _ _ _ _ _ _ _ hS=>IC hS vD (by omega) (by omega) (by rw[hj];exact hp) (by rw[hj];exact hs) (by rw[hj];exact bp.2) (by rw[hj];exact bl);have e:({au M with J:=M.L.set i y}:Pg)=au {M with L:=M.L.set i y}:=eP _ (by
   funext t
   rw[ef,fo hp];show aF M t 0=_;omega)
  have hv2:fJ 236 a m R {au M with J:=M.L.set i y} .nilFunc a m R (au {M with L:=M.L.set i y}):=by rw[←e];exact hv
  exact bL (a':=a) (m':=m) yJ hv2 hl rfl (by omega) (by omega) rfl rfl rfl
theorem N8 (h:Bg a m mx R M)(hk:R.ah.kind=3):
 gM 1000 a m R (au M) (Fin mx (fC M (toW R.ah)).2 (mO (fC M (toW R.ah)).1) false):=by
 have hll:=h.few;have ha:=h.ha;have hm:=h.hm;have hrd:lu R.ah.kind=false:=by rw[hk];rfl
 have kM:∀{L:Value} {a':Nat} {m':Int} {R':Wk} {P':Pg},fJ 215 a m R (au M) L a' m' R' P'→fJ 142 a m R (au M) L a' m' R' P':=fun hn w b c t d p v g hS=>gZ hS h.cl (by rw[hk];decide) hrd (Q6 hS hk (hn w b c t d p v g hS));by_cases hid:R.ah.id<1∨(M.L.length:Int)<R.ah.id
 ·rw[yK (toW R.ah) hid];exact bL (N:=999) bR (kM (fun _ _ _ _ _ _ _ _ hS=>Gg hS 7 (by decide) (AP hid))) h.left rfl (by omega) (by omega) rfl rfl rfl
 ·have hi:(R.ah.id-1).toNat<M.L.length:=by omega
  have eM:=zL (M:=M) hid;by_cases hs:(M.L.getD (R.ah.id-1).toNat default).st=1
  ·have hE:cu M.L 0 R.ah.id (fun j:Jb=>decide (j.state=1))=0:=xG hid (qag hs);have hr:fJ 215 a m R (au M) _ _ _ _ _:=fun _ _ _ _ _ _ _ _ hS=>Ux hS hE;have eL:dJ (au M).J 0 R.ah.id (fun j:Jb=>decide (j.state=1)) sW=M.L.set (R.ah.id-1).toNat (((M.L.getD (R.ah.id-1).toNat default).setSt 2).aR (-1)):=rY hE;rw[eL,AQ hid,show cz (au M).J R.ah.id=M.L.getD (R.ah.id-1).toNat default from wP hid]at hr;have e:fC M (toW R.ah)=(gH (((M.L.getD (R.ah.id-1).toNat default).setSt 2).aR (-1)),{M with L:=M.L.set (R.ah.id-1).toNat (((M.L.getD (R.ah.id-1).toNat default).setSt 2).aR (-1))}):=by
    have hj:gI (toW R.ah).kind (M.L.getD (R.ah.id-1).toNat default)=((M.L.getD (R.ah.id-1).toNat default).setSt 2).aR (-1):=by unfold gI;rw[show(toW R.ah).kind=3 from hk];rfl
    have hk4:¬(toW R.ah).kind=4:=by rw[show(toW R.ah).kind=3 from hk];decide
    unfold fC;rw[show(toW R.ah).id=R.ah.id from rfl,eM];refine(qai (fun e=>nomatch e)).trans ((qai ?_).trans ((qai hk4).trans ?_))
    ·show¬((R.ah.kind=3∧(M.L.getD (R.ah.id-1).toNat default).st≠1)∨(R.ah.kind=4∧(M.L.getD (R.ah.id-1).toNat default).st≠2));omega
    ·show(gH (gI (toW R.ah).kind (M.L.getD (R.ah.id-1).toNat default)),{M with L:=M.L.set (R.ah.id-1).toNat (gI (toW R.ah).kind (M.L.getD (R.ah.id-1).toNat default))})=_;rw[hj]
   have hI1:=(h.inv.Hl h.calm (toW R.ah)).1;rw[e]at hI1⊢;refine(gY (N:=1) (k:=142) (k':=236) bR (kM hr) h.left rfl ?_).more (show 2≤1000 by decide);exact gM.ok (Gs (N:=0) (mx:=mx) (a:=a) (m:=m) (y:=((M.L.getD (R.ah.id-1).toNat default).setSt 2).aR (-1)) hi (by rw[hs];decide) (show(2:Int)≠3 by decide) rfl rfl (by unfold ay;rw[show(((M.L.getD (R.ah.id-1).toNat default).setSt 2).aR (-1)).aW= -1 from rfl];simp) h.inv hI1 h.one (by omega) (by omega) (by omega) h.hmx rfl rfl) h.ok
  ·have hE:cu M.L 0 R.ah.id (fun j:Jb=>decide (j.state=1))=8:=Ej hid (qah hs);have e:fC M (toW R.ah)=(dB 8,M):=by
    unfold fC;rw[show(toW R.ah).id=R.ah.id from rfl,eM];exact(qai (fun e=>nomatch e)).trans (qaj (.inl ⟨hk,hs⟩))
   rw[e];exact bL (N:=999) bR (kM (fun _ _ _ _ _ _ _ _ hS=>Gg hS 8 (by decide) hE)) h.left rfl (by omega) (by omega) rfl rfl rfl
theorem zM (h:Bg a m mx R M)(s:Int)(hk:(R.ah.kind=2∧s=5)∨(R.ah.kind=5∧s=4)):
 gM 1000 a m R (au M) (Fin mx (kY M (toW R.ah)).2 (mO (kY M (toW R.ah)).1) false):=by
 have hll:=h.few;have ha:=h.ha;have hm:=h.hm;have fK:=h.inv.mb.now;have eX:=gL h.inv h.one (by omega);have hrd:lu R.ah.kind=false:=by rcases hk with⟨hk,_⟩|⟨hk,_⟩<;>(rw[hk];rfl)
 have kM:∀{L:Value} {a':Nat} {m':Int} {R':Wk} {P':Pg},(∀(w:World) (b c t d p:Nat) (v:Value) (g:Nat),SW w b c t d p v g a m R (au M)→Calls prog 214 #[.pointer (some ⟨b,0,none⟩),.pointer (some ⟨c,0,none⟩),.int .i64 s] w (aI w b c t d p v g a' m' L R' P'))→fJ 142 a m R (au M) L a' m' R' P':=fun hn w b c t d p v g hS=>by
  rcases hk with⟨hk,rfl⟩|⟨hk,rfl⟩
  ·exact gZ hS h.cl (by rw[hk];decide) hrd (Q4 hS hk (hn w b c t d p v g hS))
  ·exact gZ hS h.cl (by rw[hk];decide) hrd (Q5 hS hk (hn w b c t d p v g hS))
 have X6:bS s M.now=0:=by unfold bS;(repeat' split)<;>omega
 by_cases hid:R.ah.id<1∨(M.L.length:Int)<R.ah.id
 ·rw[Rh (toW R.ah) hid];exact bL (N:=999) bR (kM (fun _ _ _ _ _ _ _ _ hS=>BF hS eX s 7 (by decide) (by rw[show(au M).now=M.now from rfl,X6];exact AP hid))) h.left rfl (by omega) (by omega) rfl rfl rfl
 ·have hi:(R.ah.id-1).toNat<M.L.length:=by omega
  have hmem:=bN hi;have bo:=h.inv.one _ hmem;have eM:=zL (M:=M) hid;by_cases hs:gq s (M.L.getD (R.ah.id-1).toNat default)=true
  ·have hE:cu (au M).J (bS s (au M).now) R.ah.id (gq s)=0:=by rw[show(au M).now=M.now from rfl,X6];exact xG hid hs
   have hr:∀(w:World) (b c t d p:Nat) (v:Value) (g:Nat),SW w b c t d p v g a m R (au M)→Calls prog 214 #[.pointer (some ⟨b,0,none⟩),.pointer (some ⟨c,0,none⟩),.int .i64 s] w (aI w b c t d p v g _ _ _ _ _):=fun _ _ _ _ _ _ _ _ hS=>NB hS eX s hE;obtain⟨y,Ri⟩:=qaa (jA M R.ah.kind (M.L.getD (R.ah.id-1).toNat default));have hyj:df s M.now (M.L.getD (R.ah.id-1).toNat default)=y:=by
    rw[Ri];unfold jA df;have es:(if R.ah.kind=5 then(4:Int)else 5)=s:=by split<;>omega
    rw[es];by_cases e3:(M.L.getD (R.ah.id-1).toNat default).st=3
    ·rw[qaj e3,qaj (show(M.L.getD (R.ah.id-1).toNat default).2.2.2.2.2.1=3 from e3)];rfl
    ·rw[qai e3,qai (show¬(M.L.getD (R.ah.id-1).toNat default).2.2.2.2.2.1=3 from e3)];rfl
   have eL:dJ (au M).J (bS s (au M).now) R.ah.id (gq s) (df s (au M).now)=M.L.set (R.ah.id-1).toNat y:=(rY hE).trans (by rw[←hyj];rfl);rw[eL,AQ hid,show cz (au M).J R.ah.id=M.L.getD (R.ah.id-1).toNat default from wP hid]at hr;have hok:¬(3<(M.L.getD (R.ah.id-1).toNat default).st∨(R.ah.kind=5∧(M.L.getD (R.ah.id-1).toNat default).st≠3)):=by
    unfold gq at hs;rw[Bool.or_eq_true,Bool.and_eq_true,decide_eq_true_iff,decide_eq_true_iff,decide_eq_true_iff]at hs;have:(M.L.getD (R.ah.id-1).toNat default).state=(M.L.getD (R.ah.id-1).toNat default).st:=rfl;omega
   have e:kY M (toW R.ah)=(gH y,{M with L:=M.L.set (R.ah.id-1).toNat y}):=by
    unfold kY;rw[show(toW R.ah).id=R.ah.id from rfl,eM];refine(qai (fun e=>nomatch e)).trans ((qai hok).trans ?_);rw[Ri];rfl
   have hI1:=(h.inv.OE h.calm (toW R.ah)).1;rw[e]at hI1⊢;have hy3:y.st≠3:=by
    rw[Ri];show(if R.ah.kind=5 then(4:Int)else 5)≠3;split<;>omega
   have hyp:ay y=false:=by
    unfold ay;rw[show y.aW= -1 by rw[Ri];rfl];simp
   have X7:y.bY=(M.L.getD (R.ah.id-1).toNat default).bY:=by rw[Ri];unfold jA;split<;>rfl
   refine(gY (N:=2) (k:=142) (k':=234) bR (kM hr) h.left rfl ?_).more (show 3≤1000 by decide);clear Ri hyj;have om:=gL hI1 h.one (by rw[List.length_set];omega);by_cases h3:(M.L.getD (R.ah.id-1).toNat default).st=3
   ·have hrn:=h.inv.runs _ hmem h3;have Fg:=h.inv.mb.bY _ hmem;have hfin:=h.inv.mb.fin _ hmem;have hlt:=h.calm.runs _ hmem h3;have hg:=fun(w:World) (b c t d p:Nat) (v:Value) (g:Nat) (hS':SW w b c t d p v g a m {({R with aM:=M.L.getD (R.ah.id-1).toNat default,rep:=kD y}:Wk)with left:=gP 234} {au M with J:=M.L.set (R.ah.id-1).toNat y})=>QH hS' ⟨eX.now,om.few,om.st,om.lim,eX.uN,eX.f⟩ h3 Fg;obtain⟨n,hn⟩:∃n:Int,n=((List.range M.dr.length).countP (fun k=>dw (M.L.getD (R.ah.id-1).toNat default).bY.toNat k&& !(M.dr.getD k false)):Nat):=⟨_,rfl⟩;have hn2:0≤n∧n≤64:=by
     have h4:=List.countP_le_length (p:=fun k=>dw (M.L.getD (R.ah.id-1).toNat default).bY.toNat k&& !(M.dr.getD k false)) (l:=List.range M.dr.length);rw[List.length_range]at h4;have:=h.inv.mb.nn;omega
    refine gY (N:=1) (k:=234) (k':=236) (a':=a) (m':=m)
     (R':={({({R with aM:=M.L.getD (R.ah.id-1).toNat default,rep:=kD y}:Wk)with left:=gP 234}:Wk)with idle:=n}) (P':={au M with J:=M.L.set (R.ah.id-1).toNat y,T:=dM {M with L:=M.L.set (R.ah.id-1).toNat y}})
     Li (fun w b c t d p v g hS'=>(hg w b c t d p v g hS').mono fun e w' hp=>?_) rfl rfl ?_
    ·obtain⟨n',x',T',h5,h6⟩:=hp;obtain⟨h7,_,h8⟩:=F3 h.inv hi h3 hy3 h5;rw[←hn]at h7;subst h7 h8;exact h6
    ·have hv:fJ 236 a m {({({({R with aM:=M.L.getD (R.ah.id-1).toNat default,rep:=kD y}:Wk)with left:=gP 234}:Wk)with idle:=n}:Wk)with left:=gP 236} {au M with J:=M.L.set (R.ah.id-1).toNat y,T:=dM {M with L:=M.L.set (R.ah.id-1).toNat y}} _ _ _ _ _:=fun _ _ _ _ _ _ _ _ hS2=>KU hS2 ⟨eX.now,om.few,om.st,om.lim,om.uN,eX.f⟩ (by omega) (by have:=h.hmx;omega) h3 (h.inv.mb.aW _ hmem).2 (h.inv.mb.lim _ hmem) ⟨hlt,hfin.2⟩ (by show-64≤n∧n≤64;omega) (fun t=>aF {M with L:=M.L.set (R.ah.id-1).toNat y} t 0) (fun t ht=>by
      have hf:=uD h.inv.nN hi h3 hy3 hyp t 0;show aF {M with L:=M.L.set (R.ah.id-1).toNat y} t 0=aF M t 0+had (max M.now M.now) (M.L.getD (R.ah.id-1).toNat default).fin n t;have ht':M.now≤t:=ht;unfold had;by_cases c1:t<(M.L.getD (R.ah.id-1).toNat default).fin
      ·rw[qaj c1]at hf;rw[qaj ⟨by omega,.inl c1⟩,hf,hn]
      ·rw[qai c1]at hf;rw[qai (by omega),hf];rfl) (fun t ht=>om.f t ht)
     exact bL (N:=0) yJ hv rfl rfl (by omega) (by omega) rfl rfl h.ok
   ·refine gY (N:=1) (k:=234) (k':=236) Li (fun w b c t d p v g (hS':SW w b c t d p v g a m {({R with aM:=M.L.getD (R.ah.id-1).toNat default,rep:=kD y}:Wk)with left:=gP 234} {au M with J:=M.L.set (R.ah.id-1).toNat y})=>Ui hS' h3) rfl rfl ?_;have hyf:y.fin=(M.L.getD (R.ah.id-1).toNat default).fin:=by
     have:y=df s M.now (M.L.getD (R.ah.id-1).toNat default):=by
      have:=congrArg (fun l:List Jb=>l.getD (R.ah.id-1).toNat default) eL;rw[show dJ (au M).J (bS s (au M).now) R.ah.id (gq s) (df s (au M).now)=M.L.set (R.ah.id-1).toNat (df s M.now (M.L.getD (R.ah.id-1).toNat default))from rY hE]at this;simp only[iC]at this;rw[qaj ⟨trivial,hi⟩,qaj ⟨trivial,hi⟩]at this;exact this.symm
     rw[this];show(if(M.L.getD (R.ah.id-1).toNat default).2.2.2.2.2.1=3 then M.now else _)=_;rw[qai (show¬(M.L.getD (R.ah.id-1).toNat default).2.2.2.2.2.1=3 from h3)];rfl
    exact gM.ok (Gs (N:=0) (mx:=mx) (a:=a) (m:=m) (y:=y) hi h3 hy3 X7 hyf hyp h.inv hI1 h.one (by omega) (by omega) (by omega) h.hmx rfl rfl) h.ok
  ·rw[Bool.not_eq_true]at hs;have hE:cu M.L (bS s M.now) R.ah.id (gq s)=8:=by rw[X6];exact Ej hid hs
   have hno:3<(M.L.getD (R.ah.id-1).toNat default).st∨(R.ah.kind=5∧(M.L.getD (R.ah.id-1).toNat default).st≠3):=by
    unfold gq at hs;rw[Bool.or_eq_false_iff,Bool.and_eq_false_iff,decide_eq_false_iff_not,decide_eq_false_iff_not,decide_eq_false_iff_not]at hs;have:(M.L.getD (R.ah.id-1).toNat default).state=(M.L.getD (R.ah.id-1).toNat default).st:=rfl;omega
   have e:kY M (toW R.ah)=(dB 8,M):=by
    unfold kY;rw[show(toW R.ah).id=R.ah.id from rfl,eM];exact(qai (fun e=>nomatch e)).trans (qaj hno)
   rw[e];exact bL (N:=999) bR (kM (fun _ _ _ _ _ _ _ _ hS=>BF hS eX s 8 (by decide) hE)) h.left rfl (by omega) (by omega) rfl rfl rfl
end
section
variable {w : World} {b c t d p g a N : Nat} {v : Value} {m mx : Int} {P : Pg} {M M' : Md} {R : Wk} {Q : Nat → Int → Wk → Pg → Prop}
theorem UK {k:Nat}(hk:k<64)(L:List Jb):(holderL L k<0∧mV L k=jD)∨∃i:Nat,holderL L k=i∧i<L.length∧mV L k=L.getD i default∧(L.getD i default).st=3:=by
 have e:(fun j:Jb=>decide (j.state∈ [(3:Int)])&&Gf (k:Int) j)=aN k:=by
  funext j
  unfold aN Gf;rw[qK hk,ni];have:(j.state∈ [(3:Int)])↔(j.st=3):=List.mem_singleton;rw[decide_eq_decide.2 this]
 have e2:mV L (k:Int)=match L.findIdx? (aN k)with|some i=>L.getD i default|none=>jD:=by
  unfold mV;rw[e];cases L.findIdx? (aN k)<;>rfl
 rcases gT L k with h|⟨i,h,hi,h2⟩
 ·refine .inl ⟨h,?_⟩;rw[e2];unfold holderL at h;cases hf:L.findIdx? (aN k)with
  |none=>rfl
  |some i=>rw[hf]at h;simp only at h;omega
 ·refine .inr ⟨i,h,hi,?_,by unfold aN at h2;simp at h2;exact h2.1⟩;rw[e2];unfold holderL at h;cases hf:L.findIdx? (aN k)with
  |none=>rw[hf]at h;simp only at h;omega
  |some q=>
   rw[hf]at h;simp only at h;have:q=i:=by omega
   subst this;rfl
theorem yL {k:Nat}{bb:Bool}(hk:k<M.dr.length)(hb:M.dr.getD k false= !bb)(hI:aS M)(hC:∀j∈M.L,j.st=3→M.now<j.fin)(h1:1≤M.dr.length)(hll:M.L.length≤900)
 (hI':aS {M with dr:=M.dr.set k bb}) (hn:R.ah.node=k) (ha:a≤800) (hm:m≤1000000) {by':Int} (hby:by'=if bb then-1 else 1)
 (h:SW w b c t d p v g a m R {au M with T:=dM {M with dr:=M.dr.set k bb}}):
 Calls prog 239 #[.pointer (some ⟨b,0,none⟩),.pointer (some ⟨c,0,none⟩),.int .i64 0,.int .i64 by'] w
  (aI w b c t d p v g (a+2) (m+1) .nilFunc {R with rep:=⟨0,(k:Int),aK {M with dr:=M.dr.set k bb} k,0,0,0,0,0,0⟩} (au {M with dr:=M.dr.set k bb})):=by
 have hnn:=hI.mb.nn;have fK:=hI.mb.now;have eX:=gL hI h1 hll;have om:=gL hI' (by show 1≤(M.dr.set k bb).length;rw[List.length_set];exact h1) hll;have hX:(max (jr (au M) (k:Int)) M.now<1152921504606846976)∧∀u,M.now≤u→((decide (holderL M.L k<0)||decide ((M.L.getD (holderL M.L k).toNat default).fin≤u))=decide (max (jr (au M) (k:Int)) M.now≤u)):=by
  rcases UK (show k<64 by omega) M.L with⟨g1,g2⟩|⟨i,g1,hi,g2,g3⟩
  ·have e:jr (au M) (k:Int)=M.now:=by
    unfold jr;rw[show(au M).J=M.L from rfl,g2];rfl
   rw[e];refine⟨by omega,fun u hu=>?_⟩;rw[qag g1,Bool.true_or];exact(qag (by omega)).symm
  ·have hf:=hC _ (bN hi) g3;have hf2:=hI.mb.fin _ (bN hi);have e:jr (au M) (k:Int)=max (M.L.getD i default).fin (M.now+1):=by
    unfold jr;rw[show(au M).J=M.L from rfl,g2,qaj g3];rfl
   rw[e,g1,Int.toNat_natCast];refine⟨by omega,fun u hu=>?_⟩;rw[qah (show¬((i:Int)<0)by omega),Bool.false_or];exact decide_eq_decide.2 (by omega)
 have eso:rT (dM {M with dr:=M.dr.set k bb}) (k:Int)=aK {M with dr:=M.dr.set k bb} k:=by
  unfold rT;rw[qaj ⟨by omega,by rw[bP];show(k:Int)<((M.dr.set k bb).length:Nat);rw[List.length_set];omega⟩,Int.toNat_natCast,dN]
 have hv:=NC (by':=by') h ⟨eX.now,eX.few,eX.st,eX.lim,om.uN,eX.f⟩ ha hm hI.mb.bY (by omega) (by rw[hby];split<;>omega) (fun u=>aF {M with dr:=M.dr.set k bb} u 0) (fun u hu=>by
  have hu':M.now≤u:=hu;have hd:=zg hk bb u 0;have hx:=hX.2 u hu';rw[hn];show aF {M with dr:=M.dr.set k bb} u 0=aF M u 0+had (max (jr (au M) (k:Int)) M.now) 1152921504606846976 by' u;have hnf:bW M u k=(!(M.dr.getD k false)&&decide (max (jr (au M) (k:Int)) M.now≤u)):=by rw[←hx];rfl
  have hh:had (max (jr (au M) (k:Int)) M.now) 1152921504606846976 by' u=if max (jr (au M) (k:Int)) M.now≤u then by' else 0:=by unfold had;simp
  rw[hd,hnf,hx,hb,hh,hby];by_cases c1:max (jr (au M) (k:Int)) M.now≤u
  ·rw[qag c1,qaj c1];cases bb<;>simp<;>omega
  ·rw[qah c1,qai c1];cases bb<;>simp) (fun u hu=>om.f u hu) (by
  rw[hn];have:jr {au M with T:=dM {M with dr:=M.dr.set k bb}} (k:Int)=jr (au M) (k:Int):=rfl;rw[this];omega)
 rw[hn,show({au M with T:=dM {M with dr:=M.dr.set k bb}}:Pg).T=dM {M with dr:=M.dr.set k bb}from rfl,eso]at hv;exact hv
theorem drain_eq {n:Nat}(h:fG mq M.L=none):dK M n true={M with dr:=M.dr.set n true}:=by
 unfold dK;rw[qaj rfl,uG h]
theorem yM {k:Nat}(hk:k<M.dr.length){bb:Bool}(hb:M.dr.getD k false= !bb):oV (dM M) (k:Int) bb 0 (dM {M with dr:=M.dr.set k bb}):=by
 have hd:bb=decide ((dM M).getD (k:Int).toNat 0<3):=by
  rw[Int.toNat_natCast,dN,gp hk,hb];cases bb<;>(by_cases h1:0≤holderL M.L k<;>simp[h1])
 have hc:oV (dM M) (k:Int) bb 0 ((dM M).set (k:Int).toNat (mE ((dM M).getD (k:Int).toNat 0))):=
  ⟨fun h=>absurd h (by rw[bP];omega),fun _ _ h=>absurd hd h,fun _ _ _=>⟨rfl,rfl⟩⟩
 have e:=(KC hk hb hc).2;rw[e]at hc;exact hc
theorem IP (h:Bg a m mx R M)(hk:R.ah.kind=8)(hnd: -9223372036854775808≤R.ah.node∧R.ah.node≤9223372036854775807):
 gM 1000 a m R (au M) (Fin mx (gU M (toW R.ah)).2 (mO (gU M (toW R.ah)).1) false):=by
 have hll:=h.few;have ha:=h.ha;have hm:=h.hm;have hmx:=h.hmx;have eX:=gL h.inv h.one (by omega);have hrd:lu R.ah.kind=false:=by rw[hk];rfl
 have kM:∀{L:Value} {a':Nat} {m':Int} {R':Wk} {P':Pg},fJ 218 a m R (au M) L a' m' R' P'→fJ 142 a m R (au M) L a' m' R' P':=fun hn w b c t d p v g hS=>gZ hS h.cl (by rw[hk];decide) hrd (Q9 hS hk (hn w b c t d p v g hS));have hd7:decide ((toW R.ah).kind=7)=false:=qah (by rw[show(toW R.ah).kind=8 from hk];decide);by_cases ho:R.ah.node<0∨(M.dr.length:Int)≤R.ah.node
 ·have e:gU M (toW R.ah)=(dB 11,M):=qaj ho;have hT:oV (dM M) R.ah.node false 11 (dM M):=⟨fun _=>⟨rfl,rfl⟩,fun h1 h2=>by rw[bP]at h2;omega,fun h1 h2=>by rw[bP]at h2;omega⟩;rw[e];refine bL (N:=999) (a':=a) (m':=m) (R':={R with rep:=mF 11,ok:=false}) bR (kM (fun _ _ _ _ _ _ _ _ hS=>resume_fn (P':=au M) hS eX hnd hT fun W v1 g1 hW=>?_)) h.left rfl (by omega) (by omega) rfl rfl rfl;exact Gh hW 11 1 (by decide)
 ·obtain⟨k,hkk⟩:=Int.eq_ofNat_of_zero_le (show 0≤R.ah.node by omega);have hk2:k<M.dr.length:=by omega
  cases hdr:M.dr.getD k false with
  |false=>
   have e:gU M (toW R.ah)=(dB 8,M):=by
    unfold gU;refine(qai ho).trans (qaj ?_);rw[hd7,show(toW R.ah).node=R.ah.node from rfl,hkk,Int.toNat_natCast,hdr]
   have hs:(dM M).getD R.ah.node.toNat 0<3:=by
    rw[hkk,Int.toNat_natCast,dN,gp hk2,hdr];split<;>simp
   have hT:oV (dM M) R.ah.node false 8 (dM M):=⟨fun h1=>by rw[bP]at h1;omega,fun _ _ _=>⟨rfl,rfl⟩,fun _ _ h3=>by rw[qag hs]at h3;cases h3⟩;rw[e];refine bL (N:=999) (a':=a) (m':=m) (R':={R with rep:=mF 8,ok:=false}) bR (kM (fun _ _ _ _ _ _ _ _ hS=>resume_fn (P':=au M) hS eX hnd hT fun W v1 g1 hW=>?_)) h.left rfl (by omega) (by omega) rfl rfl rfl;exact Gh hW 8 1 (by decide)
  |true=>
   have e:gU M (toW R.ah)=((0,(k:Int),aK {M with dr:=M.dr.set k false} (k:Int),0,0,0,0,0,0),{M with dr:=M.dr.set k false}):=by
    unfold gU;refine(qai ho).trans ((qai ?_).trans ?_)
    ·rw[hd7,show(toW R.ah).node=R.ah.node from rfl,hkk,Int.toNat_natCast,hdr];exact fun e=>nomatch e
    ·rw[hd7,show(toW R.ah).node=R.ah.node from rfl,hkk,Int.toNat_natCast];rfl
   have hI':=(h.inv.Mf h.calm (toW R.ah)).1;rw[e]at hI'⊢;have hT:=yM hk2 (bb:=false) hdr;rw[←hkk]at hT;refine bL (N:=999) bR (kM (fun _ _ _ _ _ _ _ _ hS=>resume_fn hS eX hnd hT fun W v1 g1 hW=>yL (bb:=false) (by':=1) hk2 hdr h.inv h.calm.runs h.one (by omega) hI' hkk (by omega) (by omega) rfl hW)) h.left rfl (by omega) (by omega) rfl rfl h.ok
theorem Lj {k:Nat}(hl:R.left=gP 238)(hkk:R.ah.node=k)(hk:k<M.dr.length)(hdr:M.dr.getD k false=false)(h1:1≤M.dr.length)(hll:M.L.length≤900)(hmx:mx≤1000000)(hI':aS (dK M k true))(q:Nat):
 ∀{L:List Jb} {a:Nat} {m:Int},L.length=M.L.length→hits mq L≤q→aS {M with L:=L}→(∀j∈L,j.st=3→M.now<j.fin)→eH {M with L:=L} mq=eH M mq→a+2*hits mq L+2≤800→m+hits mq L+1≤mx→
  gM (q+1) a m R (au {M with L:=L}) (Fin mx (dK M k true) ⟨0,(k:Int),aK (dK M k true) k,0,0,0,0,0,0⟩ R.ok):=by
 have last:∀{L:List Jb} {a:Nat} {m:Int} (q:Nat),L.length=M.L.length→fG mq L=none→aS {M with L:=L}→(∀j∈L,j.st=3→M.now<j.fin)→eH {M with L:=L} mq=eH M mq→a+2≤800→m+1≤mx→
  gM (q+1) a m R (au {M with L:=L}) (Fin mx (dK M k true) ⟨0,(k:Int),aK (dK M k true) k,0,0,0,0,0,0⟩ R.ok):=by
  intro L a m q hL ho hI hC hM ha hm;have eD:dK M k true={M with L:=L,dr:=M.dr.set k true}:=by
   have h2:=uG (M:={M with L:=L}) ho;rw[h2]at hM;unfold dK;rw[qaj rfl,←hM]
  rw[eD]at hI'⊢;have hT:=yM (M:={M with L:=L}) (k:=k) hk (bb:=true) hdr;rw[←hkk]at hT;refine bL (N:=q) Gp (fun _ _ _ _ _ _ _ _ hS=>BH (M:={M with L:=L}) hS (gL hI h1 (by show L.length≤900;omega)) rfl hI h1 (by show L.length≤900;omega) (by omega) (by omega) ho (by have:=hI.mb.nn;have:M.dr.length≤64:=this;omega) hT fun W v1 g1 hW=>yL (M:={M with L:=L}) (bb:=true) (by':= -1) hk hdr hI hC h1 (by show L.length≤900;omega) hI' hkk (by omega) (by omega) rfl hW) hl rfl (by omega) (by omega) rfl rfl rfl
 induction q with
 |zero=>
  intro L a m hL hq hI hC hM ha hm;cases ho:fG mq L with
  |none=>exact last 0 hL ho hI hC hM (by omega) (by omega)
  |some i=>
   have:=(kS (L:=L) ho).2.2.2.2;omega
 |succ q ih=>
  intro L a m hL hq hI hC hM ha hm;cases ho:fG mq L with
  |none=>exact last (q+1) hL ho hI hC hM (by omega) (by omega)
  |some i=>
   obtain⟨hi,_,_,_,hh⟩:=kS ho;refine gY (k:=238) (k':=238) Gp (fun _ _ _ _ _ _ _ _ hS=>BI (M:={M with L:=L}) hS hI h1 (by show L.length≤900;omega) (by omega) (by omega) ho) hl rfl ?_;rw[←hl];refine ih (L:=L.set i ((L.getD i default).aR (-1))) (by rw[List.length_set];exact hL) (by omega) (hI.zk hi) (fun j hj=>?_) ((yn (M:={M with L:=L}) ho).trans hM) (by omega) (by omega);rcases List.mem_or_eq_of_mem_set hj with h2|rfl
   ·exact hC j h2
   ·exact fun hs=>hC (L.getD i default) (bN hi) hs
theorem Ll (h:Bg a m mx R M)(hk:R.ah.kind=7)(hnd: -9223372036854775808≤R.ah.node∧R.ah.node≤9223372036854775807):
 gM 1000 a m R (au M) (Fin mx (gU M (toW R.ah)).2 (mO (gU M (toW R.ah)).1) false):=by
 have hll:=h.few;have ha:=h.ha;have hm:=h.hm;have hmx:=h.hmx;have eX:=gL h.inv h.one (by omega);have hrd:lu R.ah.kind=false:=by rw[hk];rfl
 have kM:∀{L:Value} {a':Nat} {m':Int} {R':Wk} {P':Pg},fJ 217 a m R (au M) L a' m' R' P'→fJ 142 a m R (au M) L a' m' R' P':=fun hn w b c t d p v g hS=>gZ hS h.cl (by rw[hk];decide) hrd (Q8 hS hk (hn w b c t d p v g hS));have hd7:decide ((toW R.ah).kind=7)=true:=qag hk;by_cases ho:R.ah.node<0∨(M.dr.length:Int)≤R.ah.node
 ·have e:gU M (toW R.ah)=(dB 11,M):=qaj ho;rw[e];exact bL (N:=999) bR (kM (fun _ _ _ _ _ _ _ _ hS=>Gm hS eX hnd 11 (.inl ⟨by
   unfold rT;rw[qai (by rw[show(au M).T=dM M from rfl,bP];omega)],rfl⟩))) h.left rfl (by omega) (by omega) rfl rfl rfl
 ·obtain⟨k,hkk⟩:=Int.eq_ofNat_of_zero_le (show 0≤R.ah.node by omega);have hk2:k<M.dr.length:=by omega
  have est:rT (au M).T R.ah.node=aK M (k:Int):=by
   unfold rT;rw[qaj ⟨by omega,by rw[show(au M).T=dM M from rfl,bP];omega⟩,hkk,Int.toNat_natCast];exact dN k
  cases hdr:M.dr.getD k false with
  |true=>
   have e:gU M (toW R.ah)=(dB 8,M):=by
    unfold gU;refine(qai ho).trans (qaj ?_);rw[hd7,show(toW R.ah).node=R.ah.node from rfl,hkk,Int.toNat_natCast,hdr]
   rw[e];exact bL (N:=999) bR (kM (fun _ _ _ _ _ _ _ _ hS=>Gm hS eX hnd 8 (.inr ⟨by
    rw[est,gp hk2,hdr];split<;>simp,rfl⟩))) h.left rfl (by omega) (by omega) rfl rfl rfl
  |false=>
   have e:gU M (toW R.ah)=((0,(k:Int),aK (dK M k true) (k:Int),0,0,0,0,0,0),dK M k true):=by
    unfold gU;refine(qai ho).trans ((qai ?_).trans ?_)
    ·rw[hd7,show(toW R.ah).node=R.ah.node from rfl,hkk,Int.toNat_natCast,hdr];exact fun e=>nomatch e
    ·rw[hd7,show(toW R.ah).node=R.ah.node from rfl,hkk,Int.toNat_natCast]
   have hI':=(h.inv.Mf h.calm (toW R.ah)).1;rw[e]at hI'⊢;have hst:rT (au M).T R.ah.node=1∨rT (au M).T R.ah.node=2:=by
    rw[est,gp hk2,hdr];split<;>simp
   have ZR:=Ei mq M.L;cases hz:fG mq M.L with
   |none=>
    have eD:=drain_eq (n:=k) hz;have hI2:aS {M with dr:=M.dr.set k true}:=by rw[←eD];exact hI'
    have hT:=yM hk2 (bb:=true) hdr;rw[←hkk]at hT;show gM 1000 a m R (au M) (Fin mx (dK M k true) ⟨0,(k:Int),aK (dK M k true) k,0,0,0,0,0,0⟩ false);rw[eD];refine bL (N:=999) bR (kM (fun _ _ _ _ _ _ _ _ hS=>Gl hS eX hnd hst fun W hW=>BH hW eX rfl h.inv h.one (by omega) (by omega) (by omega) hz hnd hT fun W2 v1 g1 hW2=>yL (bb:=true) (by':= -1) hk2 hdr h.inv h.calm.runs h.one (by omega) hI2 hkk (by omega) (by omega) rfl hW2)) h.left rfl (by omega) (by omega) rfl rfl h.ok
   |some i=>
    obtain⟨hi,_,_,_,hh⟩:=kS hz;refine(gY (N:=901) (k:=142) (k':=238) bR (kM (fun _ _ _ _ _ _ _ _ hS=>Gl hS eX hnd hst fun W hW=>BI hW h.inv h.one (by omega) (by omega) (by omega) hz)) h.left rfl ?_).more (show 902≤1000 by decide);refine gM.ok (Lj (M:=M) (R:={R with left:=gP 238}) (mx:=mx) (k:=k) rfl hkk hk2 hdr h.one (by omega) hmx hI' 900 (L:=M.L.set i ((M.L.getD i default).aR (-1))) (by rw[List.length_set]) (by omega) (h.inv.zk hi) (fun j hj=>by
     rcases List.mem_or_eq_of_mem_set hj with h2|rfl
     ·exact h.calm.runs j h2
     ·exact fun hs=>h.calm.runs (M.L.getD i default) (bN hi) hs) (yn hz) (by omega) (by omega)) h.ok
end
section
variable {M : Md}
theorem Early.set (h:Early M){i:Nat}{y:Jb}(hy:y.st≤2→y.fin= -1):Early {M with L:=M.L.set i y}:=fun j hj=>by
 rcases List.mem_or_eq_of_mem_set hj with h1|rfl
 ·exact h j h1
 ·exact hy
theorem Early.map (h:Early M){f:Jb→Jb}(hf:∀j:Jb,(j.st≤2→j.fin= -1)→((f j).st≤2→(f j).fin= -1)):Early {M with L:=M.L.map f}:=fun j hj=>by
 obtain⟨x,hx,rfl⟩:=List.mem_map.1 hj;exact hf x (h x hx)
theorem Early.drop (h:Early M)(j:Jb):Early (eH M j):=h.map fun x hx=>by
 unfold fB;split
 ·exact hx
 ·exact hx
theorem Early.begin (h:Early M)(i:Nat):Early (bG M i):=h.set fun hs=>absurd hs (show¬(3:Int)≤2 by decide)
theorem Early.starts (n:Nat)(h:Early M):Early (startGo n M):=by
 induction n generalizing M with
 |zero=>exact h
 |succ n ih=>
  unfold startGo;split
  ·exact ih (h.begin _)
  ·exact ih h
theorem Early.uF (h:Early M):Early (dA M):=by
 refine Early.starts _ (h.map fun x hx=>?_);unfold aV;split
 ·exact fun hs=>absurd hs (show¬(6:Int)≤2 by decide)
 ·exact hx
theorem Early.dL (to:Int)(n:Nat)(h:Early M):Early (dL to n M):=by
 induction n generalizing M with
 |zero=>exact h
 |succ n ih=>
  unfold Proofs.YtaimcpmcndapcaaGreat.dL;split
  ·exact h
  ·refine ih (Early.uF ?_);exact h
theorem Early.Hw (h:Early M)(r:Rw):Early (iy M r).2:=by
 have same:Early {M with cl:=true}:=h;unfold iy
 repeat' split
 all_goals first|exact h|exact same|skip
 ·unfold iW;have ha:Early {M with L:=M.L++[dS M r]}:=fun j hj=>by
   rcases List.mem_append.1 hj with h1|h1
   ·exact h j h1
   ·rw[List.mem_singleton]at h1;subst h1;exact fun _=>rfl
  repeat' split
  ·exact h
  ·exact ha
  ·exact ha.drop _
 ·unfold kY;simp only
  repeat' split
  ·exact h
  ·exact h
  ·refine h.set fun hs=>?_;have e:(jA M r.kind (getM M r.id).1).st=if r.kind=5 then 4 else 5:=rfl
   rw[e]at hs;split at hs<;>omega
 ·unfold fC;simp only;have hx:((getM M r.id).2=false)∨(getM M r.id).1∈M.L:=by
   cases hg:(getM M r.id).2 with
   |false=>exact .inl rfl
   |true=>exact .inr (ng hg).1
  by_cases h1:(getM M r.id).2=false
  ·rw[qaj h1];exact h
  ·rw[qai h1];have hm:=hx.resolve_left h1;have hx1:=h _ hm;split
   ·exact h
   ·rename_i h2
    have hy:(gI r.kind (getM M r.id).1).st≤2→(gI r.kind (getM M r.id).1).fin= -1:=by
     unfold gI;split
     ·rename_i h3
      exact fun _=>hx1 (by by_cases e:(getM M r.id).1.st=1<;>omega)
     ·split
      ·rename_i h3
       exact fun _=>hx1 (by by_cases e:(getM M r.id).1.st=2<;>omega)
      ·exact hx1
    split
    ·exact(h.set hy).drop _
    ·exact h.set hy
 ·unfold gU
  repeat' split
  ·exact h
  ·exact h
  ·unfold dK;split
   ·exact h.drop mq
   ·exact h
 ·unfold lF;split
  ·exact h
  ·exact h.dL _ _
theorem Early.lT (h:Early M)(id t:Int):Early (cZ M id t).2:=by
 unfold cZ;split
 ·rename_i hf
  split
  ·exact h.begin _
  ·by_cases hi:(id-1).toNat<M.L.length
   ·refine h.set fun hs=>?_;exact h (M.L.getD (id-1).toNat default) (bN hi) hs
   ·show Early {M with L:=M.L.set (id-1).toNat _};rw[List.set_eq_of_length_le (by omega)];exact h
 ·exact h
theorem N9 (n:Nat):Early (fA n):=fun _ hj=>nomatch hj
theorem Rj (f:Nat→Bool)(n j:Nat)(h:∀k,n≤k→f k=false):bq f (n+j)=bq f n:=by
 induction j with
 |zero=>rfl
 |succ j ih=>
  show bq f (n+j)+(if f (n+j)=true then 1 else 0)=_;rw[h (n+j) (by omega),ih];simp
theorem wQ (h:aS M)(f:Nat→Bool)(x y:Int)(hf:∀k,f k=(decide (aK M k=x)||decide (aK M k=y)))(hx:x≠0)(hy:y≠0):((bq f 64:Nat):Int)=iM M x y:=by
 have hn:=h.mb.nn;have hc:=Rj f M.dr.length (64-M.dr.length) fun k hk=>by
  rw[hf,jI (by omega),qah (fun e=>hx e.symm),qah (fun e=>hy e.symm)];rfl
 rw[show M.dr.length+(64-M.dr.length)=64 by omega]at hc;rw[hc,uO];unfold iM;rw[show f=fun k:Nat=>decide (aK M k=x)||decide (aK M k=y)from funext hf]
end
section
variable {w : World} {b c t d p g a N : Nat} {v : Value} {m mx : Int} {P : Pg} {M M' : Md} {R : Wk} {Q : Nat → Int → Wk → Pg → Prop}
theorem Oa (h:Bg a m mx R M)(hk:R.ah.kind=6∨R.ah.kind=10∨R.ah.kind=11∨R.ah.kind=12):
 gM 1000 a m R (au M) (Fin mx (iy M (toW R.ah)).2 (mO (iy M (toW R.ah)).1) false):=by
 have hll:=h.few;have ha:=h.ha;have hm:=h.hm;have hmx:=h.hmx;have hcl:¬M.cl=true:=by rw[h.cl];decide
 have eX:=gL h.inv h.one (by omega);have hrd:lu R.ah.kind=true:=by rcases hk with e|e|e|e<;>(rw[e];rfl)
 have kM:∀{L:Value} {a':Nat} {m':Int} {R':Wk} {P':Pg},fJ 190 a m R (au M) L a' m' R' P'→fJ 142 a m R (au M) L a' m' R' P':=fun hn w b c t d p v g hS=>Lg hS h.cl (by omega) hrd (hn w b c t d p v g hS);rcases hk with hk|hk|hk|hk
 ·by_cases hid:R.ah.id<1∨(M.L.length:Int)<R.ah.id
  ·have e:iy M (toW R.ah)=(dB 7,M):=by
    unfold iy;rw[qai hcl,show(toW R.ah).kind=6 from hk];exact yK (toW R.ah) hid
   have hg:iR M.L R.ah.id=7:=by unfold iR;(repeat' split)<;>omega
   rw[e];exact bL (N:=999) bR (kM (fun _ _ _ _ _ _ _ _ hS=>Ce hS hk 7 (by decide) hg)) h.left rfl (by omega) (by omega) rfl rfl rfl
  ·have hg:iR M.L R.ah.id=0:=by unfold iR;(repeat' split)<;>omega
   have hi:(R.ah.id-1).toNat<M.L.length:=by omega
   have e:iy M (toW R.ah)=(gH (M.L.getD (R.ah.id-1).toNat default),M):=by
    unfold iy;rw[qai hcl,show(toW R.ah).kind=6 from hk];show fC M (toW R.ah)=_;unfold fC;rw[show(toW R.ah).id=R.ah.id from rfl,zL hid,show(toW R.ah).kind=6 from hk];show(gH (M.L.getD (R.ah.id-1).toNat default),({M with L:=M.L.set (R.ah.id-1).toNat (M.L.getD (R.ah.id-1).toNat default)}:Md))=_;have:M.L.set (R.ah.id-1).toNat (M.L.getD (R.ah.id-1).toNat default)=M.L:=by
     simp only[List.getD,List.getElem?_eq_getElem hi,Option.getD_some,List.set_getElem_self]
    rw[this]
   have hr:fJ 190 a m R (au M) _ _ _ _ _:=fun _ _ _ _ _ _ _ _ hS=>Ef hS hk hg;rw[show cz (au M).J R.ah.id=M.L.getD (R.ah.id-1).toNat default from wP hid]at hr;rw[e];exact bL (N:=999) bR (kM hr) h.left rfl (by omega) (by omega) rfl rfl h.ok
 ·have e:iy M (toW R.ah)=(((0,0,0,0,0,0,(iM M 1 1:Int),(iM M 2 3:Int),(iM M 4 4:Int)):Rl),M):=by
   unfold iy;rw[qai hcl,show(toW R.ah).kind=10 from hk];rfl
  have hr:fJ 190 a m R (au M) _ _ _ _ _:=fun _ _ _ _ _ _ _ _ hS=>NT hS eX hk;rw[show(au M).T=dM M from rfl,wQ h.inv (jy (dM M)) 1 1 (fun k=>by rw[xq,Bool.or_self]) (by decide) (by decide),
   wQ h.inv (dD (dM M)) 2 3 (fun k=>by unfold dD;rw[dN]) (by decide) (by decide),
   wQ h.inv (fun i=>dG (dM M) i&& !dD (dM M) i) 4 4 (fun k=>by
    unfold dG dD;rw[dN];generalize aK M k=s;by_cases h2:s=2
    ·subst h2;rfl
    ·by_cases h3:s=3
     ·subst h3;rfl
     ·rw[qah h2,qah h3];simp) (by decide) (by decide)]at hr
  rw[e];exact bL (N:=999) bR (kM hr) h.left rfl (by omega) (by omega) rfl rfl h.ok
 ·have e:iy M (toW R.ah)=(((0,0,0,0,0,0,(jG M 1:Int),(jG M 2:Int),(jG M 3:Int)):Rl),M):=by
   unfold iy;rw[qai hcl,show(toW R.ah).kind=11 from hk];rfl
  rw[e];exact bL (N:=999) bR (kM (fun _ _ _ _ _ _ _ _ hS=>NU hS eX hk)) h.left rfl (by omega) (by omega) rfl rfl h.ok
 ·have e:iy M (toW R.ah)=((0,0,0,M.now,0,0,aF M M.now 0,0,0),M):=by
   unfold iy;rw[qai hcl,show(toW R.ah).kind=12 from hk];rfl
  rw[e];exact bL (N:=999) bR (kM (fun _ _ _ _ _ _ _ _ hS=>Le hS (by omega) hk)) h.left rfl (by omega) (by omega) rfl rfl h.ok
theorem Ob (h:Bg a m mx R M)(hk:R.ah.kind=13)(hrep:R.rep=uP):
 gM 1000 a m R (au M) (Fin mx {M with cl:=true} (mO (dB 0)) false):=by
 have hll:=h.few;have ha:=h.ha;have hm:=h.hm;have hrd:lu R.ah.kind=false:=by rw[hk];rfl
 exact bL (N:=999) bR (fun _ _ _ _ _ _ _ _ hS=>gZ hS h.cl (by rw[hk];decide) hrd (NV hS hk)) h.left rfl (by omega) (by omega) rfl hrep h.ok
theorem Fa (to:Int)(hto:to≤1099511627776)(hl:R.left=gP 242)(vO:R.target=to)(hmx:mx≤1000000)(n:Nat):
 ∀{M:Md} {a:Nat} {m:Int},aS M→Calm M→Early M→1≤M.dr.length→M.L.length≤900→M.now≤to→ow M<n→a≤800→m+n≤mx→
  gM n a m R (au M) (Fin mx {dL to n M with now:=to} ⟨0,0,0,to,0,0,aF (dL to n M) to 0,0,0⟩ R.ok):=by
 induction n with
 |zero=>
  intro M a m hI hC hE h1 hll hnt hn;have:=(oM qb 2 M.L fun j _=>rA j).1;unfold ow at hn;omega
 |succ n ih=>
  intro M a m hI hC hE h1 hll hnt hn ha hm;by_cases hx:bu M<0∨to<bu M
  ·have e:dL to (n+1) M=M:=qaj hx;rw[e];have hf:fJ 242 a m R (au M) _ _ _ _ _:=fun _ _ _ _ _ _ _ _ hS=>xP hS hI hE h1 hll ha (by omega) (by rw[vO];exact hx) (by rw[vO];exact⟨hnt,hto⟩);rw[vO]at hf;exact bL (N:=n) BM hf hl rfl (by omega) (by omega) rfl rfl rfl
  ·have e:dL to (n+1) M=dL to n (dA {M with now:=bu M}):=qai hx;rw[e];obtain⟨a1,a2,a3⟩:=hI.step hC (by omega) (by omega);obtain⟨b1,b2,b3,b4⟩:=a2.uF;have hkp:=nM a2.mb;have hf:fJ 242 a m R (au M) _ _ _ _ _:=fun _ _ _ _ _ _ _ _ hS=>BG hS hI hC hE h1 hll ha (by omega) (by rw[vO];omega) (by rw[vO];exact hto);refine gY (k:=242) (k':=242) BM hf hl rfl ?_;rw[←hl];refine ih b1 b2 (Early.uF hE) (by rw[hkp.2.2.2.1];exact h1) (by rw[hkp.2.1];exact hll) (by rw[hkp.2.2.1];show bu M≤to;omega) ?_ ha (by omega);have:=b4 a3;have e2:ow {M with now:=bu M}=ow M:=rfl;omega
theorem Oc (h:Bg a m mx R M)(hE:Early M)(hk:R.ah.kind=9):
 gM 1000 a m R (au M) (Fin mx (lF M R.ah.till).2 (mO (lF M R.ah.till).1) false):=by
 have hll:=h.few;have ha:=h.ha;have hm:=h.hm;have hmx:=h.hmx;have fK:=h.inv.mb.now;have eX:=gL h.inv h.one (by omega);have hrd:lu R.ah.kind=false:=by rw[hk];rfl
 have kM:∀{L:Value} {a':Nat} {m':Int} {R':Wk} {P':Pg},fJ 219 a m R (au M) L a' m' R' P'→fJ 142 a m R (au M) L a' m' R' P':=fun hn w b c t d p v g hS=>gZ hS h.cl (by rw[hk];decide) hrd (Ra hS hk (hn w b c t d p v g hS));by_cases hlow:R.ah.till<1
 ·have e:lF M R.ah.till=(dB 10,M):=qaj (.inl hlow);rw[e];exact bL (N:=999) bR (kM (fun _ _ _ _ _ _ _ _ hS=>Q0 hS eX hlow)) h.left rfl (by omega) (by omega) rfl rfl rfl
 ·by_cases hhi:1099511627776-M.now<R.ah.till
  ·have e:lF M R.ah.till=(dB 10,M):=qaj (.inr hhi);rw[e];exact bL (N:=999) bR (kM (fun _ _ _ _ _ _ _ _ hS=>NS hS eX hlow hhi)) h.left rfl (by omega) (by omega) rfl rfl rfl
  ·have hev:=(oM qb 2 M.L fun j _=>rA j).2;have ZT:ow M<(2*M.L.length+1:Nat):=by unfold ow;omega
   have e:lF M R.ah.till=((0,0,0,M.now+R.ah.till,0,0,aF (nG M (M.now+R.ah.till)) (M.now+R.ah.till) 0,0,0),nG M (M.now+R.ah.till)):=qai (by omega);rw[e];obtain⟨to,hto⟩:=qaa (M.now+R.ah.till);rw[←hto];unfold nG;obtain⟨n,hn⟩:=qaa (2*M.L.length);rw[←hn]at ZT⊢;by_cases hx:bu M<0∨to<bu M
   ·have e:dL to (n+1) M=M:=qaj hx;rw[e];refine bL (N:=999) (a':=a) (m':=m+1) (R':={R with target:=to,rep:=⟨0,0,0,to,0,0,aF M to 0,0,0⟩}) bR (kM (fun _ _ _ _ _ _ _ _ hS=>Ld (P':=au {M with now:=to}) hS eX hlow hhi fun W hW=>?_)) h.left rfl (by omega) (by omega) rfl rfl h.ok;rw[show(au M).now+R.ah.till=to from hto.symm]at hW;exact xP hW h.inv hE h.one (by omega) (by omega) (by omega) hx ⟨by show M.now≤to;omega,by show to≤_;omega⟩
   ·have e:dL to (n+1) M=dL to n (dA {M with now:=bu M}):=qai hx;rw[e];obtain⟨a1,a2,a3⟩:=h.inv.step h.calm (by omega) (by omega);obtain⟨b1,b2,b3,b4⟩:=a2.uF;have hkp:=nM a2.mb;refine(gY (N:=n) (k:=142) (k':=242) (a':=a) (m':=m+1) (R':={R with target:=to}) (P':=au (dA {M with now:=bu M})) bR (kM (fun _ _ _ _ _ _ _ _ hS=>Ld hS eX hlow hhi fun W hW=>?_)) h.left rfl ?_).more (show n+1≤1000 by omega)
    ·rw[show(au M).now+R.ah.till=to from hto.symm]at hW;exact BG hW h.inv h.calm hE h.one (by omega) (by omega) (by omega) ⟨by omega,by show bu M≤to;omega⟩ (by show to≤_;omega)
    ·refine gM.ok (Fa (R:={({R with target:=to}:Wk)with left:=gP 242}) (mx:=mx) to (by omega) rfl rfl hmx n b1 b2 (Early.uF hE) (by rw[hkp.2.2.2.1];exact h.one) (by rw[hkp.2.1];show M.L.length≤900;omega) (by rw[hkp.2.2.1];show bu M≤to;omega) (by
      have:=b4 a3;have e2:ow {M with now:=bu M}=ow M:=rfl;omega) (by omega) (by omega)) h.ok
end
section
variable {M : Md}
theorem Lm (hI:aS M){id t:Int}(hf:eY M id t=true):∃i:Nat,id=(i:Int)+1∧i<M.L.length∧(M.L.getD i default).st=1∧M.now≤t∧t≤1099511627776∧M.cl=false∧
 ∀u,t≤u→u<t+(M.L.getD i default).lim→(M.L.getD i default).wid≤aF M u ((i:Int)+1):=by
 have hn:=hI.mb.now;unfold eY at hf;simp only at hf;split at hf
 ·cases hf
 rename_i hq
 have hg:(getM M id).2=true:=by cases e:(getM M id).2<;>simp_all
 obtain⟨hm,hi,he,hid⟩:=ng hg;rw[he]at hm hq hf;have hs:(M.L.getD (id-1).toNat default).st=1:=by
  by_cases e:(M.L.getD (id-1).toNat default).st=1
  ·exact e
  ·exact absurd (.inr (.inr (.inl e))) hq
 have ht:M.now≤t∧t≤1099511627776:=by omega
 have hcl:M.cl=false:=by
  cases e:M.cl with
  |false=>rfl
  |true=>exact absurd (.inl e) hq
 have JI:=hI.ids _ hi;have hroom:=fun u=>zW hn.1 ht.1 hf u;rw[JI]at hroom;exact⟨(id-1).toNat,hid,hi,hs,ht.1,ht.2,hcl,hroom⟩
theorem El (hI:aS M){i:Nat}(hi:i<M.L.length)(hroom:∀u,M.now≤u→u<M.now+(M.L.getD i default).lim→(M.L.getD i default).wid≤aF M u ((i:Int)+1)):(M.L.getD i default).wid≤aU M M.now M.dr.length:=by
 have bo:=hI.one _ (bN hi);have h0:=hroom M.now (Int.le_refl _) (by omega);have ht0:=mI (L:=M.L) (fun j hj=>hI.mb.wid j hj) M.now ((i:Int)+1);unfold aF at h0;omega
theorem IQ (hI:aS M)(hC:Calm M){i:Nat}(hi:i<M.L.length)(hs:(M.L.getD i default).st=1){t:Int}(ht:M.now≤t∧t≤1099511627776)
 (hroom:∀u,t≤u→u<t+(M.L.getD i default).lim→(M.L.getD i default).wid≤aF M u ((i:Int)+1)) (u:Int) (hu:M.now≤u):
 aF (if t=M.now then bG M i else{M with L:=M.L.set i ((M.L.getD i default).aR t)}) u 0=aF M u ((i:Int)+1)+had (max t M.now) (t+(M.L.getD i default).lim) (-(M.L.getD i default).wid) u:=by
 have hm:=bN hi;have bo:=hI.one _ hm;have bl:=hI.mb.lim _ hm;have hn:=hI.mb.now;have hid:=hI.ids i hi;rw[oL hi hI.ids];have hh:had (max t M.now) (t+(M.L.getD i default).lim) (-(M.L.getD i default).wid) u=if t≤u∧u<t+(M.L.getD i default).lim then-(M.L.getD i default).wid else 0:=by
  unfold had;have e1:max t M.now=t:=by omega
  rw[e1];by_cases c:t≤u∧u<t+(M.L.getD i default).lim
  ·rw[qaj c,qaj ⟨c.1,.inl c.2⟩]
  ·rw[qai c,qai (by omega)]
 rw[hh];by_cases e:t=M.now
 ·subst e;rw[qaj rfl,uC hi (by omega)];have hlow:=(hI.begin hC.runs hi hs (El hI hi hroom) fun v h1 h2=>by
   have:=hroom v h1 h2;rw[oL hi hI.ids]at this;exact this).2
  rw[hlow];split<;>split<;>omega
 ·rw[qai e,ky hi];have hpl:ay ((M.L.getD i default).aR t)=true:=by
   unfold ay;rw[Bool.and_eq_true];exact⟨qag hs,qag (show 0≤t by omega)⟩
  have hc2:=oK (t:=u) (but:=0) hpl (show(M.L.getD i default).id≠0 by rw[hid];omega);rw[hc2];show aF M u 0+fe u 0 (M.L.getD i default)-(if t≤u∧u<t+(M.L.getD i default).lim then(M.L.getD i default).wid else 0)=_;split<;>omega
end
section
variable {w : World} {b c t d p g a N : Nat} {v : Value} {m mx : Int} {P : Pg} {M M' : Md} {R : Wk} {Q : Nat → Int → Wk → Pg → Prop}
def p8 (M:Md):Ry:=if M.cl then mF 12 else uP
theorem IU (hl:R.left=gP 144)(hI:aS M)(hC:Calm M)(h1:1≤M.dr.length)(hll:M.L.length≤190)(ha:a≤1+2*M.L.length)(hm:m+1000≤mx)(hmx:mx≤1000000)
 (ho:R.ok=false) (hrep:R.rep=uP) (hxt: -9223372036854775808≤R.fu∧R.fu≤9223372036854775807):
 gM 1000 a m R (au M) (Fin mx (cZ M R.nC R.fu).2 (p8 M) (cZ M R.nC R.fu).1):=by
 cases hf:eY M R.nC R.fu with
 |false=>
  have e:cZ M R.nC R.fu=(false,M):=qai (by rw[hf];decide);rw[e];cases hcl:M.cl with
  |true=>exact bL (N:=999) AO (fun _ _ _ _ _ _ _ _ hS=>EZ hS hcl) hl rfl (by omega) (by omega) rfl (by unfold p8;rw[hcl];rfl) rfl
  |false=>exact bL (N:=999) AO (fun _ _ _ _ _ _ _ _ hS=>QX hS hI h1 (by omega) (by omega) hxt hcl hf) hl rfl (by omega) (by omega) rfl (by unfold p8;rw[hcl];exact hrep) ho
 |true=>
  obtain⟨i,hid,hi,hs,ht1,ht2,hcl,hroom⟩:=Lm hI hf;have O6:(R.nC-1).toNat=i:=by omega
  have hmem:=bN hi;have bo:=hI.one _ hmem;have bl:=hI.mb.lim _ hmem;have bw:=hI.mb.wid _ hmem;have bp:=hI.mb.aW _ hmem;have JI:=hI.ids i hi;have fK:=hI.mb.now;have eX:=gL hI h1 (by omega);have e:cZ M R.nC R.fu=(true,if R.fu=M.now then bG M i else{M with L:=M.L.set i ((M.L.getD i default).aR R.fu)}):=by
   unfold cZ;rw[qaj hf,O6];split<;>rfl
  have hI':=(hI.lT hC R.nC R.fu).1;rw[e]at hI'⊢;have hfree:=IQ hI hC hi hs ⟨ht1,ht2⟩ hroom;have hdr:(if R.fu=M.now then bG M i else{M with L:=M.L.set i ((M.L.getD i default).aR R.fu)}).dr.length=M.dr.length:=by split<;>rfl
  have UL:(if R.fu=M.now then bG M i else{M with L:=M.L.set i ((M.L.getD i default).aR R.fu)}).now=M.now:=by split<;>rfl
  have WM:uP=p8 M:=by unfold p8;rw[hcl];rfl
  have hgJ:cz M.L R.nC=M.L.getD i default:=by rw[wP (by omega),O6]
  have hck:fJ 144 a m R (au M) _ _ _ _ _:=fun _ _ _ _ _ _ _ _ hS=>NQ hS hI h1 (by omega) (by omega) hxt hcl hf;rw[hgJ]at hck;have Bb:∀u,aF M u ((i:Int)+1)=aF M u 0+fe u 0 (M.L.getD i default):=fun u=>oL hi hI.ids u;have om:PK {au M with f:=fun u=>aF M u ((i:Int)+1)}:=⟨eX.now,eX.few,eX.st,eX.lim,eX.uN,fun u hu=>⟨EI hI hi u hu,(yR hI.mb u _).2⟩⟩;obtain⟨M1,hM1⟩:=qaa ((if R.fu=M.now then bG M i else{M with L:=M.L.set i ((M.L.getD i default).aR R.fu)}));rw[←hM1]at hI' hfree hdr UL⊢;have hrange:∀u,M.now≤u→0≤aF M1 u 0∧aF M1 u 0≤64:=fun u hu=>yD hI' u (by rw[UL];exact hu);have ZU:PK {au M with f:=fun u=>aF M1 u 0}:=⟨eX.now,eX.few,eX.st,eX.lim,eX.uN,fun u hu=>hrange u hu⟩;refine(gY (N:=3) (k:=144) (k':=192) AO hck hl rfl ?_).more (show 4≤1000 by decide);have cont:∀(a2:Nat) (m2:Int),a2≤700→m2+10≤mx→
   gM 2 a2 m2 {R with aM:=M.L.getD i default,ok:=true,left:=gP 220} {au M with f:=fun u=>aF M u ((i:Int)+1)} (Fin mx M1 (p8 M) true):=by
   intro a2 m2 ha2 hm2;have hen:fJ 220 a2 m2 {R with aM:=M.L.getD i default,ok:=true,left:=gP 220} {au M with f:=fun u=>aF M u ((i:Int)+1)} _ _ _ _ _:=fun _ _ _ _ _ _ _ _ hS2=>QW hS2 om (by omega) (by omega) hs ⟨by show 0≤R.fu;omega,by show R.fu≤1099511627776;omega⟩ ⟨bo.2.2.1,bl.2⟩ bw (fun u=>aF M1 u 0) (fun u hu=>hfree u hu) (fun u hu=>hrange u hu);refine gY (N:=1) (k:=220) (k':=243) Rf hen rfl rfl ?_;by_cases hx:R.fu=M.now
   ·have hidle:(M.L.getD i default).wid≤((List.range M.dr.length).countP fun n:Nat=>decide (aK M n=1):Nat):=by
     rw[←KY hC.runs];exact El hI hi (by rw[←hx];exact hroom)
    have hT:=KZ hI hi (by omega) hidle;have hset:=fun(w:World) (b c t d p:Nat) (v:Value) (g:Nat) (Eg:SW w b c t d p v g (a2+2) (m2+1) {R with aM:=(M.L.getD i default).aR R.fu,ok:=true,left:=gP 243} {au M with f:=fun u=>aF M1 u 0})=>Lb Eg ZU hx (by show-9223372036854775808≤(M.L.getD i default).wid∧(M.L.getD i default).wid≤_;omega) hT;rw[qaj hx]at hM1;have hbs:dJ (au M).J (iE (au M).now) (M.L.getD i default).id (fun j:Jb=>decide (j.state=1)) (nR (au M).now (jF M (M.L.getD i default).wid:Int))=(bG M i).L:=BD hI hi hs;have hP:({au M with f:=fun u=>aF M1 u 0,T:=dM (bG M i),J:=(bG M i).L}:Pg)=au M1:=by rw[hM1];rfl
    refine bL (N:=0) (a':=a2+2) (m':=m2+1) Eh (fun w b c t d p v g Eg=>(hset w b c t d p v g Eg).mono fun e w' hp=>?_) rfl rfl (by omega) (by omega) rfl (hrep.trans WM) rfl;rw[←hP,←hbs];exact hp
   ·have hset:=fun(w:World) (b c t d p:Nat) (v:Value) (g:Nat) (Eg:SW w b c t d p v g (a2+2) (m2+1) {R with aM:=(M.L.getD i default).aR R.fu,ok:=true,left:=gP 243} {au M with f:=fun u=>aF M1 u 0})=>EY Eg hx;rw[qai hx]at hM1;have PT:jk R.fu=0:=by unfold jk;rw[qai (by omega),qai (by omega)]
    have hbs:dJ (au M).J (jk R.fu) R.nC (fun j:Jb=>decide (j.state=1)) (mY R.fu)=M.L.set i ((M.L.getD i default).aR R.fu):=by
     rw[PT];have:=xG (ok:=fun j:Jb=>decide (j.state=1)) (L:=M.L) (id:=R.nC) (by omega) (by rw[O6];exact qag hs);have h2:=rY (ch:=mY R.fu) this;rw[O6]at h2;exact h2
    have hT1:dM M=dM M1:=by
     rw[hM1];refine rX (by rw[bP,bP]) fun n hn=>?_;rw[dN,dN,sG (y:=(M.L.getD i default).aR R.fu) hi Iff.rfl rfl]
    have hP:({au M with f:=fun u=>aF M1 u 0,J:=M.L.set i ((M.L.getD i default).aR R.fu)}:Pg)=au M1:=by
     show Pg.mk M.now _ (dM M) _ M.cl=_;rw[hT1,hM1];rfl
    refine bL (N:=0) (a':=a2+2) (m':=m2+1) Eh (fun w b c t d p v g Eg=>(hset w b c t d p v g Eg).mono fun e w' hp=>?_) rfl rfl (by omega) (by omega) rfl (hrep.trans WM) rfl;rw[←hP,←hbs];exact hp
  cases hpl:ay (M.L.getD i default)with
  |true=>
   have hlv:fJ 192 a m {R with aM:=M.L.getD i default,ok:=true,left:=gP 192} (au M) _ _ _ _ _:=fun _ _ _ _ _ _ _ _ hS1=>K9 hS1 eX (by omega) (by omega) hpl bp.2 bl bo.2.2.1 bw (fun u=>aF M u ((i:Int)+1)) (fun u hu=>by
    have hun:=uR hI hi hpl u;rw[ky hi,fo (j:=(M.L.getD i default).aR (-1)) (by unfold ay;simp[Jb.aR,Jb.aW])]at hun;show aF M u ((i:Int)+1)=aF M u 0+had (max (M.L.getD i default).aW M.now) ((M.L.getD i default).aW+(M.L.getD i default).lim) (M.L.getD i default).wid u;rw[Bb];omega) (fun u hu=>om.f u hu)
   refine gY (N:=2) (k:=192) (k':=220) Gn hlv rfl rfl ?_;exact cont _ _ (by omega) (by omega)
  |false=>
   have hlv:fJ 192 a m {R with aM:=M.L.getD i default,ok:=true,left:=gP 192} (au M) _ _ _ _ _:=fun _ _ _ _ _ _ _ _ hS1=>La hS1 hpl bp.2 bl;refine gY (N:=2) (k:=192) (k':=220) Gn hlv rfl rfl ?_;have hP:au M={au M with f:=fun u=>aF M u ((i:Int)+1)}:=by
    have:(fun u=>aF M u ((i:Int)+1))=fun u=>aF M u 0:=by
     funext u
     rw[Bb,fo hpl];omega
    rw[this];rfl
   rw[hP];exact cont _ _ (by omega) (by omega)
theorem UM (hl:R.left=gP 142)(hI:aS M)(hC:Calm M)(hE:Early M)(h1:1≤M.dr.length)(hll:M.L.length≤190)(ha:a≤1+2*M.L.length)(hm:m+1000≤mx)(hmx:mx≤1000000)
 (ho:R.ok=false) (hrep:R.rep=uP) (hnd: -9223372036854775808≤R.ah.node∧R.ah.node≤9223372036854775807):
 gM 1000 a m R (au M) (Fin mx (iy M (toW R.ah)).2 (mO (iy M (toW R.ah)).1) false):=by
 cases hcl:M.cl with
 |true=>
  have e:iy M (toW R.ah)=(dB 12,M):=qaj hcl;rw[e];exact NZ hl hcl (by omega) (by omega)
 |false=>
  have hcn:¬M.cl=true:=by rw[hcl];decide
  have hB:Bg a m mx R M:=⟨hl,hI,hC,hcl,h1,hll,ha,hm,hmx,ho⟩;have hkr:∀r:Rw,iy M r=if r.kind=1 then iW M r
   else if r.kind=2∨r.kind=5 then kY M r
   else if r.kind=3∨r.kind=4∨r.kind=6 then fC M r
   else if r.kind=7∨r.kind=8 then gU M r
   else if r.kind=9 then lF M r.by'
   else if r.kind=10 then((0,0,0,0,0,0,iM M 1 1,iM M 2 3,iM M 4 4),M)
   else if r.kind=11 then((0,0,0,0,0,0,jG M 1,jG M 2,jG M 3),M)
   else if r.kind=12 then((0,0,0,M.now,0,0,aF M M.now 0,0,0),M)
   else if r.kind=13 then(dB 0,{M with cl:=true})
   else(dB 4,M):=fun r=>qai hcn
  by_cases hrd:R.ah.kind=6∨R.ah.kind=10∨R.ah.kind=11∨R.ah.kind=12
  ·exact Oa hB hrd
  rw[hkr];have ek:(toW R.ah).kind=R.ah.kind:=rfl;rw[ek];by_cases k1:R.ah.kind=1
  ·rw[qaj k1];exact IM hl hI hcl h1 hll ha hm hmx k1 ho
  rw[qai k1];by_cases k25:R.ah.kind=2∨R.ah.kind=5
  ·rw[qaj k25];rcases k25 with k|k
   ·exact zM hB 5 (.inl ⟨k,rfl⟩)
   ·exact zM hB 4 (.inr ⟨k,rfl⟩)
  rw[qai k25];by_cases X8:R.ah.kind=3∨R.ah.kind=4∨R.ah.kind=6
  ·rw[qaj X8];rcases X8 with k|k|k
   ·exact N8 hB k
   ·exact E9 hB k
   ·exact absurd (.inl k) hrd
  rw[qai X8];by_cases Lp:R.ah.kind=7∨R.ah.kind=8
  ·rw[qaj Lp];rcases Lp with k|k
   ·exact Ll hB k hnd
   ·exact IP hB k hnd
  rw[qai Lp];by_cases k9:R.ah.kind=9
  ·rw[qaj k9];exact Oc hB hE k9
  rw[qai k9,qai (by omega),qai (by omega),qai (by omega)];by_cases k13:R.ah.kind=13
  ·rw[qaj k13];exact Ob hB k13 hrep
  rw[qai k13];exact N7 hB (by omega)
end
section
variable {M : Md}
theorem O7 {r:Rw}(h:r.kind=1):iy M r=if M.cl=true then(dB 12,M)else iW M r:=by
 unfold iy;by_cases hc:M.cl=true
 ·rw[qaj hc,qaj hc]
 ·rw[qai hc,qai hc,qaj h]
theorem UN {r:Rw}(h:(r.kind=2∨r.kind=5)):iy M r=if M.cl=true then(dB 12,M)else kY M r:=by
 unfold iy;by_cases hc:M.cl=true
 ·rw[qaj hc,qaj hc]
 ·rw[qai hc,qai hc,qai (show¬r.kind=1 by omega),qaj h]
theorem O8 {r:Rw}(h:(r.kind=3∨r.kind=4∨r.kind=6)):iy M r=if M.cl=true then(dB 12,M)else fC M r:=by
 unfold iy;by_cases hc:M.cl=true
 ·rw[qaj hc,qaj hc]
 ·rw[qai hc,qai hc,qai (show¬r.kind=1 by omega),qai (show¬(r.kind=2∨r.kind=5)by omega),qaj h]
theorem UO {r:Rw}(h:(r.kind=7∨r.kind=8)):iy M r=if M.cl=true then(dB 12,M)else gU M r:=by
 unfold iy;by_cases hc:M.cl=true
 ·rw[qaj hc,qaj hc]
 ·rw[qai hc,qai hc,qai (show¬r.kind=1 by omega),qai (show¬(r.kind=2∨r.kind=5)by omega),qai (show¬(r.kind=3∨r.kind=4∨r.kind=6)by omega),qaj h]
theorem O9 {r:Rw}(h:r.kind=9):iy M r=if M.cl=true then(dB 12,M)else lF M r.by':=by
 unfold iy;by_cases hc:M.cl=true
 ·rw[qaj hc,qaj hc]
 ·rw[qai hc,qai hc,qai (show¬r.kind=1 by omega),qai (show¬(r.kind=2∨r.kind=5)by omega),qai (show¬(r.kind=3∨r.kind=4∨r.kind=6)by omega),qai (show¬(r.kind=7∨r.kind=8)by omega),qaj h]
theorem UQ {r r':Rw}(h:r.kind=r'.kind)(h2:¬(1≤r.kind∧r.kind≤9)):iy M r=iy M r':=by
 unfold iy;rw[h]at h2⊢;by_cases hc:M.cl=true
 ·rw[qaj hc,qaj hc]
 ·have n1:¬r'.kind=1:=by omega
  have n2:¬(r'.kind=2∨r'.kind=5):=by omega
  have n3:¬(r'.kind=3∨r'.kind=4∨r'.kind=6):=by omega
  have n4:¬(r'.kind=7∨r'.kind=8):=by omega
  have n5:¬r'.kind=9:=by omega
  simp only[qai hc,qai n1,qai n2,qai n3,qai n4,qai n5]
theorem Rk (M:Md)(r:Rq):iy M (toW (oh r))=iy M (toW r):=by
 unfold oh;by_cases k1:r.kind=1
 ·rw[qaj k1,O7 (r:=toW r) k1,O7 (r:=toW ⟨r.kind,0,r.user,r.width,r.limit,r.prio,r.held,0,0⟩) k1];rfl
 rw[qai k1];by_cases k2:r.kind=2∨r.kind=3∨r.kind=4∨r.kind=5∨r.kind=6
 ·rw[qaj k2];by_cases k25:r.kind=2∨r.kind=5
  ·rw[UN (r:=toW r) k25,UN (r:=toW ⟨r.kind,r.id,0,0,0,0,false,0,0⟩) k25];rfl
  ·have WN:r.kind=3∨r.kind=4∨r.kind=6:=by omega
   rw[O8 (r:=toW r) WN,O8 (r:=toW ⟨r.kind,r.id,0,0,0,0,false,0,0⟩) WN];rfl
 rw[qai k2];by_cases Lp:r.kind=7∨r.kind=8
 ·rw[qaj Lp,UO (r:=toW r) Lp,UO (r:=toW ⟨r.kind,0,0,0,0,0,false,r.node,0⟩) Lp];rfl
 rw[qai Lp];by_cases k9:r.kind=9
 ·rw[qaj k9,O9 (r:=toW r) k9,O9 (r:=toW ⟨r.kind,0,0,0,0,0,false,0,r.till⟩) k9];rfl
 rw[qai k9];exact UQ rfl (by show¬(1≤r.kind∧r.kind≤9);omega)
theorem Lr (r:Rq)(h: -9223372036854775808≤r.node∧r.node≤9223372036854775807): -9223372036854775808≤(oh r).node∧(oh r).node≤9223372036854775807:=by
 have z: -9223372036854775808≤(0:Int)∧(0:Int)≤9223372036854775807:=by decide
 unfold oh
 repeat' split
 all_goals first|exact z|exact h
structure Ok (M : Md) : Prop where
 inv:aS M
 calm:Calm M
 early:Early M
theorem Ok.new {n:Nat}(h:n≤64):Ok (fA n):=⟨(JM h).1,(JM h).2,N9 n⟩
theorem Ok.Hw (h:Ok M)(r:Rw):Ok (iy M r).2:=⟨(h.inv.Hw h.calm r).1,(h.inv.Hw h.calm r).2,h.early.Hw r⟩
theorem Ok.lT (h:Ok M)(id t:Int):Ok (cZ M id t).2:=⟨(h.inv.lT h.calm id t).1,(h.inv.lT h.calm id t).2,h.early.lT id t⟩
end
section
variable {w : World} {b c t d p g : Nat} {v : Value} {m : Int} {M : Md}
def Whole (w:World)(b c t d p:Nat)(v:Value)(g:Nat)(m:Int)(M':Md)(y:Ry)(ok:Bool)(e:Ending)(w':World):Prop:=
 ∃(n:Int) (v':Value) (g':Nat) (R:Wk),0<n∧n<2000∧e=.returned (.int .i64 n)∧CW w' c t d p v' g' (1+2*M'.L.length) (m+1000) (au M')∧dm w' b R∧R.left=.nilFunc∧R.rep=y∧R.ok=ok∧WS w w' b c t d p v g v' g'
theorem Em {a:Nat}{R:Wk}{P:Pg}{M':Md}{y:Ry}{ok:Bool}(hS:SW w b c t d p v g a m R P)(h:gM 1000 a m R P (Fin (m+1000) M' y ok))(hI:aS M'):
 Calls prog 65 #[.pointer (some ⟨c,0,none⟩),.pointer (some ⟨b,0,none⟩)] w (Whole w b c t d p v g m M' y ok):=by
 obtain⟨K,hK,hr⟩:=h;have hp:=hr.pos;refine(Re hS hr (by omega)).mono ?_;rintro e w' ⟨rfl,v',g',a,m',R,P,hS,⟨rfl,ha,hm,hl,hr,ho⟩,hw⟩;exact⟨K,v',g',R,by omega,by omega,rfl,(hS.cw.UJ hI).wider (qaf _) hm,hS.wk,hl,hr,ho,hw⟩
theorem UR (r:Rq)(hM:Ok M)(h1:1≤M.dr.length)(hll:M.L.length≤190)(hm:m+1000≤1000000)(hnd: -9223372036854775808≤r.node∧r.node≤9223372036854775807):
 gM 1000 (1+2*M.L.length) m (zI r) (au M) (Fin (m+1000) (iy M (toW r)).2 (mO (iy M (toW r)).1) false):=by
 have hg:=UM (a:=1+2*M.L.length) (m:=m) (mx:=m+1000) (R:=zI r) rfl hM.inv hM.calm hM.early h1 hll (qaf _) (Int.le_refl _) hm rfl rfl (Lr r hnd);rw[show(zI r).ah=oh r from rfl,Rk]at hg;exact hg
theorem IV (i x:Int)(hM:Ok M)(h1:1≤M.dr.length)(hll:M.L.length≤190)(hm:m+1000≤1000000)(hx: -9223372036854775808≤x∧x≤9223372036854775807):
 gM 1000 (1+2*M.L.length) m (BJ i x) (au M) (Fin (m+1000) (cZ M i x).2 (p8 M) (cZ M i x).1):=
 IU (a:=1+2*M.L.length) (m:=m) (mx:=m+1000) (R:=BJ i x) rfl hM.inv hM.calm h1 hll (qaf _) (Int.le_refl _) hm rfl rfl hx
theorem BN (h:CW w c t d p v g (1+2*M.L.length) m (au M))(r:Rq)(hb:dm w b (zI r))(hM:Ok M)(h1:1≤M.dr.length)(hll:M.L.length≤190)(hm:m+1000≤1000000)(hnd: -9223372036854775808≤r.node∧r.node≤9223372036854775807):
 Calls prog 65 #[.pointer (some ⟨c,0,none⟩),.pointer (some ⟨b,0,none⟩)] w (Whole w b c t d p v g m (iy M (toW r)).2 (mO (iy M (toW r)).1) false):=
 Em ⟨hb,h⟩ (UR r hM h1 hll hm hnd) (hM.Hw _).inv
theorem xR (h:CW w c t d p v g (1+2*M.L.length) m (au M))(i x:Int)(hb:dm w b (BJ i x))(hM:Ok M)(h1:1≤M.dr.length)(hll:M.L.length≤190)(hm:m+1000≤1000000)(hx: -9223372036854775808≤x∧x≤9223372036854775807):
 Calls prog 65 #[.pointer (some ⟨c,0,none⟩),.pointer (some ⟨b,0,none⟩)] w (Whole w b c t d p v g m (cZ M i x).2 (p8 M) (cZ M i x).1):=
 Em ⟨hb,h⟩ (IV i x hM h1 hll hm hx) (hM.lT i x).inv
end
section
variable {w : World} {b c t d p g a : Nat} {v : Value} {m : Int} {M : Md} {R : Wk}
theorem Rm (h:CW w c t d p v g a m (au M))(hI:aS M)(h1:1≤M.dr.length):Calls prog 72 #[.pointer (some ⟨d,0,none⟩)] w fun e w'=>e=.returned (.int .i64 M.dr.length)∧w=w':=by
 have:=qM h.nodes (zz hI h1);rw[show(au M).T=dM M from rfl,bP]at this;exact this
theorem Od (h:CW w c t d p v g a m (au M))(hI:aS M)(h1:1≤M.dr.length)(n:Int)(hn: -9223372036854775808≤n∧n≤9223372036854775807):Calls prog 48 #[.pointer (some ⟨d,0,none⟩),.int .i64 n] w fun e w'=>e=.returned (.int .i64 (aK M n))∧∃m,w'=w.drewN m:=by
 have:=uK n hn h.nodes (zz hI h1);have e:rT (dM M) n=aK M n:=by
  unfold rT;rw[bP];by_cases c1:0≤n∧n<M.dr.length
  ·rw[qaj c1,dN,show((n.toNat:Nat):Int)=n by omega]
  ·rw[qai c1];unfold aK;rw[qaj (by omega)]
 rw[show(au M).T=dM M from rfl,e]at this;exact this
theorem En (h:CW w c t d p v g a m (au M))(hI:aS M)(hll:M.L.length≤400):Calls prog 22 #[.pointer (some ⟨p,0,none⟩)] w fun e w'=>∃u,e=.returned u∧aL qh 2 w' u (kE M)∧Below w.heap.size w w':=by
 obtain⟨S,aX,hp,hC,hl,_⟩:=h.nZ;have e:S=kE M:=hC.uniq (C8 hI) fun _ _=>rfl;have hs:=wO M;refine(EP hp hC.sm.pos (by rw[e];omega)).mono ?_;rintro en w' ⟨g',cap',rfl,h1,h2,h3⟩;exact⟨_,rfl,aL.iB h2 (fun _=>rfl) (by rw[←e];rfl) (by rw[←e]),h3⟩
theorem UT (h:CW w c t d p v g a m (au M))(hll:M.L.length≤900):Calls prog 44 #[.pointer (some ⟨t,0,none⟩)] w fun e w'=>∃u,e=.returned u∧aL ag 10 w' u M.L∧Below w.heap.size w w':=by
 refine(Vy h.fZ (by show M.L.length≤1000;omega)).mono ?_;rintro e w' ⟨u,rfl,h1,h2⟩;exact⟨u,rfl,aL.iB h1 aA rfl rfl,h2⟩
theorem Gt (h:dm w b R):Calls prog 67 #[.pointer (some ⟨b,0,none⟩)] w fun e w'=>e=.returned (.agg (gm R.rep).toArray)∧Below w.heap.size w w':=by
 obtain⟨y1,y2,y3,y4,y5,y6,y7,y8,y9,hy⟩:∃y1 y2 y3 y4 y5 y6 y7 y8 y9,R.rep=⟨y1,y2,y3,y4,y5,y6,y7,y8,y9⟩:=⟨_,_,_,_,_,_,_,_,_,rfl⟩;have h':∀o,dm (w.alloc o) b R:=fun o=>(((Below.refl w.heap.size w).alloc (qaf _) o).block b h.lt).trans h;have c24:∀o,(w.alloc o).cell? ⟨b,24,none⟩=some (.int .i64 y1):=fun o=>(h' o).at 24 (.int .i64 y1) (by show some (Value.int .i64 R.rep.1)=_;rw[hy]);have c25:∀o,(w.alloc o).cell? ⟨b,25,none⟩=some (.int .i64 y2):=fun o=>(h' o).at 25 (.int .i64 y2) (by show some (Value.int .i64 R.rep.2)=_;rw[hy]);have c26:∀o,(w.alloc o).cell? ⟨b,26,none⟩=some (.int .i64 y3):=fun o=>(h' o).at 26 (.int .i64 y3) (by show some (Value.int .i64 R.rep.3)=_;rw[hy]);have c27:∀o,(w.alloc o).cell? ⟨b,27,none⟩=some (.int .i64 y4):=fun o=>(h' o).at 27 (.int .i64 y4) (by show some (Value.int .i64 R.rep.4)=_;rw[hy]);have c28:∀o,(w.alloc o).cell? ⟨b,28,none⟩=some (.int .i64 y5):=fun o=>(h' o).at 28 (.int .i64 y5) (by show some (Value.int .i64 R.rep.5)=_;rw[hy]);have c29:∀o,(w.alloc o).cell? ⟨b,29,none⟩=some (.int .i64 y6):=fun o=>(h' o).at 29 (.int .i64 y6) (by show some (Value.int .i64 R.rep.6)=_;rw[hy]);have c30:∀o,(w.alloc o).cell? ⟨b,30,none⟩=some (.int .i64 y7):=fun o=>(h' o).at 30 (.int .i64 y7) (by show some (Value.int .i64 R.rep.7)=_;rw[hy]);have c31:∀o,(w.alloc o).cell? ⟨b,31,none⟩=some (.int .i64 y8):=fun o=>(h' o).at 31 (.int .i64 y8) (by show some (Value.int .i64 R.rep.8)=_;rw[hy]);have c32:∀o,(w.alloc o).cell? ⟨b,32,none⟩=some (.int .i64 y9):=fun o=>(h' o).at 32 (.int .i64 y9) (by show some (Value.int .i64 R.rep.9)=_;rw[hy]);rw[hy];clear h h' hy;go_enter func67,ntmps67;go_wp2_with fail;refine aO rfl rfl rfl (heap_alloc_new w _) underlying67 rfl (by kernel_rfl) ⟨rfl,?_⟩;exact qac.alloc (qaf _) _
theorem Oe (h:dm w b R):Calls prog 68 #[.pointer (some ⟨b,0,none⟩)] w fun e w'=>e=.returned (.bool R.ok)∧w=w':=by
 have c33:=h.at 33 (.bool R.ok) rfl;clear h;generalize R.ok=o at*;go_enter func68,ntmps68;go_wp2_with fail;go_ret;exact⟨rfl,rfl⟩
end
end Go.Proofs.YtaimcpmcndapcaaGreat
