/-
 Own words and walks, merged: part 7 of 8.
-/
import Derived.Test.YtaimcpmcndapcaaGreatLw6
set_option maxRecDepth 1000000
set_option maxHeartbeats 8000000
set_option linter.all false
namespace Go.Proofs.YtaimcpmcndapcaaGreat
open Go.Proofs.Tryz
open Go.RowKit Go.Lib Go.Sort
section
variable {w : World} {b c t d p g a : Nat} {v : Value} {m : Int} {P : Pg} {M : Md} {R : Wk}
theorem JG (h:SW w b c t d p v g a m R P)(hk:PK P)(ha:a≤800)(hm:m≤1000000)(hP:aj R.aD=true)(hb1:R.aD.aJ≤1099511627776)(hb2:0≤R.aD.lim∧R.aD.lim≤1048576)(hb3:1≤R.aD.lim)(hb4:0≤R.aD.wid∧R.aD.wid≤64)(F:Int→Int)
 (hF:∀t,P.now≤t→F t=P.f t+had (max R.aD.aJ P.now) (R.aD.aJ+R.aD.lim) R.aD.wid t) (hr:∀t,P.now≤t→0≤F t∧F t≤64):
 Calls prog 192 #[.pointer (some ⟨b,0,none⟩),.pointer (some ⟨c,0,none⟩)] w (az w b c t d p v g (a+2) (m+1) (fF 220) R {P with f:=F}):=by
 have zJ:=bL;have zS:=kF;obtain⟨k,hk1⟩:=qaa (10);obtain⟨k3,hk3⟩:∃k,k=3:=⟨_,rfl⟩;rw[←hk1]at zJ;rw[←hk3]at zS;have hk0:¬k=0:=by omega
 have zZ:¬k3=0:=by omega
 have lJ:=ay R.aD;rw[←hk1]at lJ;replace hk1:=qae hk1;have hS:=qae h;have qO:=h.wk.nG lJ;have hpl:=kU (w:=w) R.aD hb1 hb2;have lS:(aO R.aD).length=3:=by unfold aO;split<;>rfl
 have oS:∀u∈aO R.aD,u.oneCell'=true:=by unfold aO;split<;>(intro u hu;simp at hu;rcases hu with rfl|rfl|rfl<;>rfl)
 have ST:Hid (∀W:World,Sem.run prog (storeCells ⟨W.heap.size,0,none⟩ (aO R.aD) 0) (W.alloc (.cells #[.int .i64 0,.int .i64 0,.int .i64 0] 131))=.ok () (W.alloc (.cells (aO R.aD).toArray 131))):=fun W=>df W W.heap.size (aO R.aD) [.int .i64 0,.int .i64 0,.int .i64 0] 131 rfl lS oS;rw[←hk3]at lS;replace hk3:=qae hk3;generalize kX:aO R.aD=cS at*;replace kX:=qae kX;generalize ah R.aD=cJ at*;clear h;have mo:cS=[.int .i64 R.aD.aJ,.int .i64 (R.aD.aJ+R.aD.lim),.int .i64 R.aD.wid]:=by rw[←kX.out];unfold aO;rw[qaj hP]
 rw[hP]at hpl;replace hP:=qae hP;replace mo:=qae mo;go_enter func192,ntmps192;go_wp2_with fail;go_at_call 146;refine hpl.mono ?_;clear hpl qO;rintro e w1 ⟨rfl,hb⟩;have st1:=ST.out w1;obtain⟨w2,hw2⟩:=qaa (w1.alloc (.cells cS.toArray 131));rw[←hw2]at st1;have hb2':Below w.heap.size w w2:=by rw[hw2];exact hb.alloc hb.size _
 have hy2:Hid (w2.heap[w1.heap.size]? =some (.cells cS.toArray 131 (0,0))):=by show _=_;rw[hw2];exact heap_alloc_new w1 _
 have hs2:w2.heap.size=w1.heap.size+1:=by rw[hw2];simp
 replace hw2:=qae hw2;have hS2:=qae (hS.out.kept hb2');go_wp2_with fail;refine Reg2.ro w2 5 22 [.p 0,.p 1,.p 3,.m 7,.m 0] [.pointer (some ⟨p,0,none⟩),.agg cS.toArray] (by kernel_rfl) (by kernel_rfl) rfl rfl ⟨rfl,rfl,rfl,qaf _,fun _ _=>rfl⟩ ?_;dsimp only[Reg2.gY]
 repeat((first
  |(refine' Reg2.ak _ (by rfl) (fun wz=>?_) ?_;rotate_left;(go_simp;first|rfl|rw[qai (by omega)]))
  |(refine Reg2.aA (by rfl) (fun wz hI hF=>?_) (fun _=>?_)
    ·unfold Reg2.One;have c0:=(hS2.out.cw.kept hI).c2;have d0:=fT ((hI.block _ (au hy2.out)).trans hy2.out) lS;go_wp2_with fail
     first|exact⟨_,rfl,rfl,qad⟩|exact⟨_,rfl,⟨(),rfl,trivial⟩,qad⟩));simp only[Act.put,xA,xB,xC,xD,xE,id])
 refine Reg2.aB ?_;intro w4 HI4 _ eX;clear eX;dsimp only[List.drop];have bM:=hS2.out.kept HI4;have hrel:=uk bM.cw hk ha hm R.aD.aJ (R.aD.aJ+R.aD.lim) R.aD.wid F (by omega) (by omega) hb4 hF hr;have Jr:=mo.out;clear kX mo;subst Jr;go_wp2_with fail;go_at_call 200;refine hrel.mono ?_;clear hrel;rintro e w5 ⟨rfl,v5,g5,gK,hS5⟩;have eY:=bM.core gK hS5;have hfin:=(WS.of_below (hb2'.trans (HI4.mono hb2'.size)):WS w w4 b c t d p v g v g).trans (WS.dD hS5);go_wp2_with fail;go_ret;exact⟨rfl,v5,g5,eY,hfin⟩
theorem JH (h:SW w b c t d p v g a m R P)(hP:aj R.aD=false)(hb1:R.aD.aJ≤1099511627776)(hb2:0≤R.aD.lim∧R.aD.lim≤1048576):
 Calls prog 192 #[.pointer (some ⟨b,0,none⟩),.pointer (some ⟨c,0,none⟩)] w (az w b c t d p v g a m (fF 220) R P):=by
 have zJ:=bL;have zS:=kF;obtain⟨k,hk1⟩:=qaa (10);obtain⟨k3,hk3⟩:∃k,k=3:=⟨_,rfl⟩;rw[←hk1]at zJ;rw[←hk3]at zS;have hk0:¬k=0:=by omega
 have zZ:¬k3=0:=by omega
 have lJ:=ay R.aD;rw[←hk1]at lJ;replace hk1:=qae hk1;have hS:=qae h;have qO:=h.wk.nG lJ;have hpl:=kU (w:=w) R.aD hb1 hb2;have lS:(aO R.aD).length=3:=by unfold aO;split<;>rfl
 have oS:∀u∈aO R.aD,u.oneCell'=true:=by unfold aO;split<;>(intro u hu;simp at hu;rcases hu with rfl|rfl|rfl<;>rfl)
 have ST:Hid (∀W:World,Sem.run prog (storeCells ⟨W.heap.size,0,none⟩ (aO R.aD) 0) (W.alloc (.cells #[.int .i64 0,.int .i64 0,.int .i64 0] 131))=.ok () (W.alloc (.cells (aO R.aD).toArray 131))):=fun W=>df W W.heap.size (aO R.aD) [.int .i64 0,.int .i64 0,.int .i64 0] 131 rfl lS oS;rw[←hk3]at lS;replace hk3:=qae hk3;generalize kX:aO R.aD=cS at*;replace kX:=qae kX;generalize ah R.aD=cJ at*;clear h;rw[hP]at hpl;go_enter func192,ntmps192;go_wp2_with fail;go_at_call 146;refine hpl.mono ?_;clear hpl qO;rintro e w1 ⟨rfl,hb⟩;have st1:=ST.out w1;obtain⟨w2,hw2⟩:=qaa (w1.alloc (.cells cS.toArray 131));rw[←hw2]at st1;have hb2':Below w.heap.size w w2:=by rw[hw2];exact hb.alloc hb.size _
 have hy2:Hid (w2.heap[w1.heap.size]? =some (.cells cS.toArray 131 (0,0))):=by show _=_;rw[hw2];exact heap_alloc_new w1 _
 have hs2:w2.heap.size=w1.heap.size+1:=by rw[hw2];simp
 replace hw2:=qae hw2;have hS2:=qae (hS.out.kept hb2');go_wp2_with fail;go_ret;exact⟨rfl,v,g,hS2.out,WS.of_below hb2'⟩
theorem Ps (h:SW w b c t d p v g a m R P)(hk:PK P)(ha:a≤800)(hm:m≤1000000)(hst:R.aD.st=1)(hx:0≤R.dQ∧R.dQ≤1099511627776)(hb2:1≤R.aD.lim∧R.aD.lim≤1048576)(hb4:0≤R.aD.wid∧R.aD.wid≤64)(F:Int→Int)
 (hF:∀t,P.now≤t→F t=P.f t+had (max R.dQ P.now) (R.dQ+R.aD.lim) (-R.aD.wid) t) (hr:∀t,P.now≤t→0≤F t∧F t≤64):
 Calls prog 220 #[.pointer (some ⟨b,0,none⟩),.pointer (some ⟨c,0,none⟩)] w (az w b c t d p v g (a+2) (m+1) (fF 243) {R with aD:=R.aD.aH R.dQ} {P with f:=F}):=by
 have zJ:=bL;have zS:=kF;obtain⟨k,hk1⟩:=qaa (10);obtain⟨k3,hk3⟩:∃k,k=3:=⟨_,rfl⟩;rw[←hk1]at zJ;rw[←hk3]at zS;have hk0:¬k=0:=by omega
 have zZ:¬k3=0:=by omega
 have Lf:=h.wk.at 10 (.int .i64 R.dQ) rfl;have c20:=h.wk.at 20 (.int .i64 R.aD.aJ) rfl;have f20:=h.wk.free 20;have hW1:=h.wk.plan R.dQ;have hS1:=h.work hW1 (dw w 20 (.int .i64 R.dQ));have hf1:WS w (w.setCell ⟨b,20,none⟩ (.int .i64 R.dQ)) b c t d p v g v g:=WS.bD (dw w 20 (.int .i64 R.dQ));obtain⟨y,hy⟩:=qaa (R.aD.aH R.dQ);have hyp:y.aJ=R.dQ:=by rw[hy];rfl
 have hyl:y.lim=R.aD.lim:=by rw[hy];rfl
 have Ml:y.wid=R.aD.wid:=by rw[hy];rfl
 have hP:aj y=true:=bu.2 ⟨by rw[hy];exact hst,by rw[hyp];exact hx.1⟩;rw[←hy]at hS1 hW1⊢;replace hy:=qae hy;have lJ:=ay y;rw[←hk1]at lJ;replace hk1:=qae hk1;have qO:=hW1.nG (R:={R with aD:=y}) lJ;rw[show({R with aD:=y}:Wk).aD=y from rfl]at qO;have hpl:=kU (w:=w.setCell ⟨b,20,none⟩ (.int .i64 R.dQ)) y (by rw[hyp];exact hx.2) (by rw[hyl];omega);have mo:aO y=[.int .i64 R.dQ,.int .i64 (R.dQ+R.aD.lim),.int .i64 R.aD.wid]:=by unfold aO;rw[qaj hP,hyp,hyl,Ml]
 rw[hP]at hpl;have lS:(aO y).length=3:=by rw[mo];rfl
 have oS:∀u∈aO y,u.oneCell'=true:=by rw[mo];intro u hu;simp at hu;rcases hu with rfl|rfl|rfl<;>rfl
 have ST:Hid (∀W:World,Sem.run prog (storeCells ⟨W.heap.size,0,none⟩ (aO y) 0) (W.alloc (.cells #[.int .i64 0,.int .i64 0,.int .i64 0] 131))=.ok () (W.alloc (.cells (aO y).toArray 131))):=fun W=>df W W.heap.size (aO y) [.int .i64 0,.int .i64 0,.int .i64 0] 131 rfl lS oS;rw[←hk3]at lS;replace hk3:=qae hk3;generalize kX:aO y=cS at*;replace kX:=qae kX;generalize ah y=cJ at*;replace mo:=qae mo;replace hP:=qae hP;replace hyp:=qae hyp;replace hyl:=qae hyl;replace Ml:=qae Ml;clear h;generalize R.dQ=xa at*;go_enter func220,ntmps220;go_wp2_with fail;go_at_call 146;refine hpl.mono ?_;clear hpl qO Lf c20 f20;rintro e w1 ⟨rfl,hb⟩;have st1:=ST.out w1;obtain⟨w2,hw2⟩:=qaa (w1.alloc (.cells cS.toArray 131));rw[←hw2]at st1;have hb2':Below (w.setCell ⟨b,20,none⟩ (.int .i64 xa)).heap.size (w.setCell ⟨b,20,none⟩ (.int .i64 xa)) w2:=by rw[hw2];exact hb.alloc hb.size _
 have hy2:Hid (w2.heap[w1.heap.size]? =some (.cells cS.toArray 131 (0,0))):=by show _=_;rw[hw2];exact heap_alloc_new w1 _
 replace hw2:=qae hw2;have hS2:=qae (hS1.kept hb2');have hf2:=hf1.trans (WS.of_below hb2');go_wp2_with fail;refine Reg2.ro w2 5 31 [.p 0,.p 1,.p 3,.m 7,.m 0] [.pointer (some ⟨p,0,none⟩),.agg cS.toArray] (by kernel_rfl) (by kernel_rfl) rfl rfl ⟨rfl,rfl,rfl,qaf _,fun _ _=>rfl⟩ ?_;dsimp only[Reg2.gY]
 repeat((first
  |(refine' Reg2.ak _ (by rfl) (fun wz=>?_) ?_;rotate_left;(go_simp;first|rfl|rw[qai (by omega)]))
  |(refine Reg2.aA (by rfl) (fun wz hI hF=>?_) (fun _=>?_)
    ·unfold Reg2.One;have c0:=(hS2.out.cw.kept hI).c2;have d0:=fT ((hI.block _ (au hy2.out)).trans hy2.out) lS;go_wp2_with fail
     first|exact⟨_,rfl,rfl,qad⟩|exact⟨_,rfl,⟨(),rfl,trivial⟩,qad⟩));simp only[Act.put,xA,xB,xC,xD,xE,id])
 refine Reg2.aB ?_;intro w4 HI4 _ eX;clear eX;dsimp only[List.drop];have bM:=hS2.out.kept HI4;have hrel:=I5 bM.cw hk ha hm xa (xa+R.aD.lim) R.aD.wid F (by omega) (by omega) hb4 hF hr;have Jr:=mo.out;clear kX mo;subst Jr;go_wp2_with fail;go_at_call 202;refine hrel.mono ?_;clear hrel;rintro e w5 ⟨rfl,v5,g5,gK,hS5⟩;have eY:=bM.core gK hS5;have hfin:=(hf2.trans (WS.of_below HI4)).trans (WS.dD hS5);go_wp2_with fail;go_ret;exact⟨rfl,v5,g5,eY,hfin⟩
theorem JI (h:SW w b c t d p v g a m R P)(hk:PK P)(hx:R.dQ=P.now)(hj: -9223372036854775808≤R.aD.wid∧R.aD.wid≤9223372036854775807){s:Nat}{T0:List Int}(hT0:qb P.T R.aD.wid s 0 T0):
 Calls prog 243 #[.pointer (some ⟨b,0,none⟩),.pointer (some ⟨c,0,none⟩)] w (az w b c t d p v g a m .nilFunc R {P with T:=T0,J:=cz P.J (gH P.now) R.aD.id (fun j:Jb=>decide (j.state=1)) (lG P.now s)}):=by
 have zJ:=bL;obtain⟨k,hk1⟩:=qaa (10);rw[←hk1]at zJ;have hk0:¬k=0:=by omega
 have lJ:=ay R.aD;rw[←hk1]at lJ;replace hk1:=qae hk1;have d1:(R.dQ == P.now)=true:=by simp[hx]
 have V3:=fun(W:World) (hW:SW W b c t d p v g a m R P)=>hW.wk.nG lJ;have hla:=fun(W:World) (hW:SW W b c t d p v g a m R P)=>launch_fn hW.cw hk R.aD hj hT0;have hS:=qae h;replace hx:=qae hx;generalize ah R.aD=cJ at*;clear h;go_enter func243,ntmps243;go_wp2_with fail;refine Reg2.ro w 10 37 [.p 0,.p 1,.p 3,.p 7,.m 15,.p 0,.p 32,.p 96,.m 224,.m 480] [.int .i64 R.dQ,.pointer (some ⟨p,0,none⟩),.int .i64 P.now] (by kernel_rfl) (by kernel_rfl) rfl rfl ⟨rfl,rfl,rfl,qaf _,fun _ _=>rfl⟩ ?_;dsimp only[Reg2.gY]
 repeat((first
  |(refine' Reg2.ak _ (by rfl) (fun wz=>?_) ?_;rotate_left;(go_simp;first|rfl|rw[qai (by omega)]))
  |(refine Reg2.aA (by rfl) (fun wz hI hF=>?_) (fun _=>?_)
    ·unfold Reg2.One;have q0:=(hS.out.kept hI).wk.at 10 (.int .i64 R.dQ) rfl;have c0:=(hS.out.cw.kept hI).c2;go_wp2_with fail
     first|exact⟨_,rfl,rfl,qad⟩|exact⟨_,rfl,⟨(),rfl,trivial⟩,qad⟩));simp only[Act.put,xA,xB,xC,xD,xE,id])
 refine Reg2.pm (fun wz hI hF=>?_) (fun r9=>?_) (by rfl)
 ·go_wp2_with (go_at_call 45;go_must (refine(gq (hS.out.kept hI).cw).mono ?_);rintro e w' ⟨rfl,rfl⟩)
  first|exact⟨_,rfl,rfl,qad⟩|exact⟨_,rfl,⟨(),rfl,trivial⟩,qad⟩
 simp only[Act.put,xA,xB,xC,xD,xE,id];refine Reg2.aB ?_;intro w4 HI4 _ eX;clear eX;dsimp only[List.drop];have bM:=hS.out.kept HI4;have Y6:=V3 w4 bM;have hl4:=hla w4 bM;go_wp2_with fail;go_at_call 268;refine hl4.mono ?_;clear hl4;rintro e w5 ⟨rfl,v5,g5,gK,hS5⟩;have eY:=bM.core gK hS5;have hfin:=(WS.of_below HI4:WS w w4 b c t d p v g v g).trans (WS.dD hS5);go_wp2_with fail;go_ret;exact⟨rfl,v5,g5,eY,hfin⟩
theorem DL (h:SW w b c t d p v g a m R P)(hx:R.dQ≠P.now):
 Calls prog 243 #[.pointer (some ⟨b,0,none⟩),.pointer (some ⟨c,0,none⟩)] w (az w b c t d p v g a m .nilFunc R {P with J:=cz P.J (gT R.dQ) R.kW (fun j:Jb=>decide (j.state=1)) (kM R.dQ)}):=by
 have d1:(R.dQ == P.now)=false:=by simp[hx]
 have hpl:=fun(W:World) (hW:SW W b c t d p v g a m R P)=>Ez hW.cw R.kW R.dQ;have hS:=qae h;replace hx:=qae hx;clear h;go_enter func243,ntmps243;go_wp2_with fail;refine Reg2.ro w 10 37 [.p 0,.p 1,.p 3,.p 7,.m 15,.p 0,.p 32,.p 96,.m 224,.m 480] [.int .i64 R.dQ,.pointer (some ⟨p,0,none⟩),.int .i64 P.now] (by kernel_rfl) (by kernel_rfl) rfl rfl ⟨rfl,rfl,rfl,qaf _,fun _ _=>rfl⟩ ?_;dsimp only[Reg2.gY]
 repeat((first
  |(refine' Reg2.ak _ (by rfl) (fun wz=>?_) ?_;rotate_left;(go_simp;first|rfl|rw[qai (by omega)]))
  |(refine Reg2.aA (by rfl) (fun wz hI hF=>?_) (fun _=>?_)
    ·unfold Reg2.One;have q0:=(hS.out.kept hI).wk.at 10 (.int .i64 R.dQ) rfl;have c0:=(hS.out.cw.kept hI).c2;go_wp2_with fail
     first|exact⟨_,rfl,rfl,qad⟩|exact⟨_,rfl,⟨(),rfl,trivial⟩,qad⟩));simp only[Act.put,xA,xB,xC,xD,xE,id])
 refine Reg2.pm (fun wz hI hF=>?_) (fun r9=>?_) (by rfl)
 ·go_wp2_with (go_at_call 45;go_must (refine(gq (hS.out.kept hI).cw).mono ?_);rintro e w' ⟨rfl,rfl⟩)
  first|exact⟨_,rfl,rfl,qad⟩|exact⟨_,rfl,⟨(),rfl,trivial⟩,qad⟩
 simp only[Act.put,xA,xB,xC,xD,xE,id];refine Reg2.aB ?_;intro w4 HI4 _ eX;clear eX;dsimp only[List.drop];have bM:=qae (hS.out.kept HI4);go_wp2_with fail;refine Reg2.ro w4 14 37 [.p 0,.p 1,.p 3,.m 7,.p 0,.p 16,.p 48,.p 112,.m 240,.p 0,.p 512,.p 1536,.p 3584,.m 7680] [.pointer (some ⟨t,0,none⟩),.int .i64 R.kW,.int .i64 R.dQ] (by kernel_rfl) (by kernel_rfl) rfl rfl ⟨rfl,rfl,rfl,qaf _,fun _ _=>rfl⟩ ?_;dsimp only[Reg2.gY]
 repeat((first
  |(refine' Reg2.ak _ (by rfl) (fun wz=>?_) ?_;rotate_left;(go_simp;first|rfl|rw[qai (by omega)]))
  |(refine Reg2.aA (by rfl) (fun wz hI hF=>?_) (fun _=>?_)
    ·unfold Reg2.One;have c0:=(bM.out.cw.kept hI).c0;have q0:=(bM.out.kept hI).wk.at 9 (.int .i64 R.kW) rfl;have xR:=(bM.out.kept hI).wk.at 10 (.int .i64 R.dQ) rfl;go_wp2_with fail
     first|exact⟨_,rfl,rfl,qad⟩|exact⟨_,rfl,⟨(),rfl,trivial⟩,qad⟩));simp only[Act.put,xA,xB,xC,xD,xE,id])
 refine Reg2.aB ?_;intro w5 KW _ eX;clear eX;dsimp only[List.drop];have hS5:=bM.out.kept KW;have X8:=hpl w5 hS5;go_wp2_with fail;go_at_call 134;refine X8.mono ?_;clear X8;rintro e w6 ⟨rfl,v6,g6,Jj,eY⟩;have gM:=hS5.core Jj eY;have hfin:=(WS.of_below (HI4.trans (KW.mono HI4.size)):WS w w5 b c t d p v g v g).trans (WS.dD eY);go_wp2_with fail;go_ret;exact⟨rfl,v6,g6,gM,hfin⟩
theorem DN (h:SW w b c t d p v g a m R P)(hc:P.cl=true):
 Calls prog 144 #[.pointer (some ⟨b,0,none⟩),.pointer (some ⟨c,0,none⟩)] w (az w b c t d p v g a m .nilFunc {R with rep:=kv 12,ok:=false} P):=by
 have hcl:=jl h.cw;rw[hc]at hcl;have hf:=iF h.wk 12;go_enter func144,ntmps144;go_wp2_with (first|(go_at_call 42;go_must (refine hcl.mono ?_);rintro e w' ⟨rfl,rfl⟩)|(go_at_call 188;go_must (refine hf.mono ?_);rintro e w8 ⟨rfl,dU,gy⟩));go_ret;exact⟨rfl,v,g,h.work dU gy,WS.bD gy⟩
theorem xW (h:cu w b R):Sem.run prog (loadCellsFrom ⟨b,9,none⟩ 0 2 #[]) w=.ok #[.int .i64 R.kW,.int .i64 R.dQ] w:=
 xQ (cs:=[.int .i64 R.kW,.int .i64 R.dQ]) h rfl fun j u hj=>by
  rcases(show j=0∨j=1 by have:=(List.getElem?_eq_some_iff.1 hj).1;simp at this;omega)with rfl|rfl
  ·exact hj
  ·exact hj
theorem Pt (h:SW w b c t d p v g a m R (ai M))(hI:aG M)(h1:1≤M.dr.length)(hll:M.L.length≤900)(ha:a≤800)(hxt: -9223372036854775808≤R.dQ∧R.dQ≤9223372036854775807)(hc:M.cl=false)(hfit:eF M R.kW R.dQ=false):
 Calls prog 144 #[.pointer (some ⟨b,0,none⟩),.pointer (some ⟨c,0,none⟩)] w (az w b c t d p v g a m .nilFunc R (ai M)):=by
 have hcl:=jl h.cw;rw[show(ai M).cl=false from hc]at hcl;have hft:=EO h.cw hI h1 hll ha R.kW R.dQ hxt;rw[hfit]at hft;have ld:=xW h.wk;have x9:=h.wk.at 9 (.int .i64 R.kW) rfl;have Lf:=h.wk.at 10 (.int .i64 R.dQ) rfl;go_enter func144,ntmps144;go_wp2_with (first|(go_at_call 42;go_must (refine hcl.mono ?_);rintro e w' ⟨rfl,rfl⟩)|(go_at_call 69;go_must (refine hft.mono ?_);rintro e w8 ⟨rfl,vF⟩));go_ret;exact⟨rfl,v,g,h.kept vF,WS.of_below vF⟩
theorem Mo (h:SW w b c t d p v g a m R (ai M))(hI:aG M)(h1:1≤M.dr.length)(hll:M.L.length≤900)(ha:a≤800)(hxt: -9223372036854775808≤R.dQ∧R.dQ≤9223372036854775807)(hc:M.cl=false)(hfit:eF M R.kW R.dQ=true):
 Calls prog 144 #[.pointer (some ⟨b,0,none⟩),.pointer (some ⟨c,0,none⟩)] w (az w b c t d p v g a m (fF 192) {R with aD:=bI M.L R.kW,ok:=true} (ai M)):=by
 have zJ:=bL;obtain⟨k,hk1⟩:=qaa (10);rw[←hk1]at zJ;have hk0:¬k=0:=by omega
 have hcl:=jl h.cw;rw[show(ai M).cl=false from hc]at hcl;have hft:=EO h.cw hI h1 hll ha R.kW R.dQ hxt;rw[hfit]at hft;have ld:=xW h.wk;have x9:=h.wk.at 9 (.int .i64 R.kW) rfl;have Lf:=h.wk.at 10 (.int .i64 R.dQ) rfl;obtain⟨x,hx⟩:=qaa (bI M.L R.kW);rw[←hx];have hget:=qae (fun(W:World) (hW:SW W b c t d p v g a m R (ai M))=>show Calls prog 41 #[.pointer (some ⟨t,0,none⟩),.int .i64 R.kW] W fun e w'=>e=.returned (.tuple #[.agg (ah x).toArray,.int .i64 (gG M.L R.kW)])∧Gr W w' from by
  have:=fO hW.cw.eU R.kW;unfold iC at this;rw[show(ai M).J=M.L from rfl,←hx]at this;exact this)
 replace hx:=qae hx;have lJ:=ay x;rw[←hk1]at lJ;replace hk1:=qae hk1;have hj:=fun(W:World) (hW:SW W b c t d p v g a m R (ai M))=>hW.wk.uq x;generalize ah x=cJ at*;obtain⟨W9,ky⟩:∃W9,W9=gI {R with aD:=x}:=⟨_,rfl⟩;rw[←ky]at hj;replace ky:=qae ky;have hS:=qae h;clear h;go_enter func144,ntmps144;go_wp2_with (first|(go_at_call 42;go_must (refine hcl.mono ?_);rintro e w' ⟨rfl,rfl⟩)|(go_at_call 69;go_must (refine hft.mono ?_);rintro e w2 ⟨rfl,hb2⟩));have hS2:=qae (hS.out.kept hb2);have c0:=hS2.out.cw.c0;have q9:=hS2.out.wk.at 9 (.int .i64 R.kW) rfl;clear hcl hft ld x9 Lf;go_region_with (go_at_call 41;go_must (refine(hget.out _ hS2.out.drew).mono ?_);rintro e w' ⟨rfl,hgr⟩;have rY:=hS2.out.drew.kept hgr.below;obtain⟨Az,pY⟩:=hj w' rY)
 all_goals
  have gz:=rY.work pY (cO w' W9.toArray);have hfr:WS w2 (w'.setRow b W9.toArray) b c t d p v g v g:=((WS.of_below hgr.below:WS w2.drew w' b c t d p v g v g).trans (WS.bD (cO w' W9.toArray))).zg;have hfr2:=(WS.of_below hb2:WS w w2 b c t d p v g v g).trans hfr;clear Az pY rY hgr c0 q9 hfr;generalize w'.setRow b W9.toArray=w9 at*;have a33:=gz.wk.at 33 (.bool R.ok) rfl;have f33:=gz.wk.free 33;have Sa:=gz.work (gz.wk.U4 true) (dw w9 33 (.bool true));have X9:=hfr2.trans (WS.bD (dw w9 33 (.bool true)));go_wp2_with fail;go_ret;have ex:=hx.out;clear hx;subst ex;exact⟨rfl,v,g,Sa,X9⟩
end
section
variable {w : World} {b c t d p g a : Nat} {v : Value} {m : Int} {P P1 : Pg} {M : Md} {R : Wk}
theorem mM.uniq {l l1 l2:List Int}{n:Int}{d:Bool}{e1 e2:Int}(h:mM l n d e1 l1)(h':mM l n d e2 l2):e1=e2∧l1=l2:=by
 by_cases h1:n<0∨(l.length:Int)≤n
 ·obtain⟨rfl,rfl⟩:=h.out h1;obtain⟨rfl,rfl⟩:=h'.out h1;exact⟨rfl,rfl⟩
 ·by_cases h2:d=decide (l.getD n.toNat 0<3)
  ·obtain⟨rfl,rfl⟩:=h.good (by omega) (by omega) h2;obtain⟨rfl,rfl⟩:=h'.good (by omega) (by omega) h2;exact⟨rfl,rfl⟩
  ·obtain⟨rfl,rfl⟩:=h.bad (by omega) (by omega) h2;obtain⟨rfl,rfl⟩:=h'.bad (by omega) (by omega) h2;exact⟨rfl,rfl⟩
def Pv (b c t d p a:Nat)(m:Int)(R:Wk)(P:Pg)(x:Int)(T':List Int)(a':Nat)(m':Int)(R':Wk)(P':Pg):Prop:=
 ∀(W:World) (v1:Value) (g1:Nat),SW W b c t d p v1 g1 a m R {P with T:=T'}→Calls prog 239 #[.pointer (some ⟨b,0,none⟩),.pointer (some ⟨c,0,none⟩),.int .i64 x,.int .i64 (-1)] W (az W b c t d p v1 g1 a' m' .nilFunc R' P')
def Pw (b c t d p a:Nat)(m:Int)(R:Wk)(P:Pg)(x:Int)(T':List Int)(a':Nat)(m':Int)(R':Wk)(P':Pg):Prop:=
 ∀(W:World) (v1:Value) (g1:Nat),SW W b c t d p v1 g1 a m R {P with T:=T'}→Calls prog 239 #[.pointer (some ⟨b,0,none⟩),.pointer (some ⟨c,0,none⟩),.int .i64 x,.int .i64 1] W (az W b c t d p v1 g1 a' m' .nilFunc R' P')
theorem resume_fn (h:SW w b c t d p v g a m R P)(hk:PK P)(hn: -9223372036854775808≤R.ag.node∧R.ag.node≤9223372036854775807){x0:Int}{T0:List Int}(hT0:mM P.T R.ag.node false x0 T0){a':Nat}{m':Int}{R':Wk}{P':Pg}
 (Wj:Pw b c t d p a m R P x0 T0 a' m' R' P'):
 Calls prog 218 #[.pointer (some ⟨b,0,none⟩),.pointer (some ⟨c,0,none⟩)] w (az w b c t d p v g a' m' .nilFunc R' P'):=by
 have hS:=qae h;replace hT0:=qae hT0;have hmu:=fun(W:World) (hW:SW W b c t d p v g a m R P)=>I6 hW.cw hk R.ag.node hn;clear h;go_enter func218,ntmps218;go_wp2_with fail;refine Reg2.sO 12 18 (Reg2.rows 0 [.p 0,.p 0,.p 0,.p 4,.p 12,.p 28,.p 0,.p 64,.p 192,.p 448,.p 960,.p 2044]) [0,0,0,0,0,2,0,0,0,0,2,3]
  [.pure,.pure,.pure,.pure,.pure,.pinned Unit () (fun _=>.pointer (some ⟨d,0,none⟩)) (fun _ _=>True),.pure,.pure,.pure,.pure,.pinned Unit () (fun _=>.int .i64 R.ag.node) (fun _ _=>True),.major Unit () (fun _=>.int .i64 x0)]
  (fun _=>True) (fun vs W=>match vs with| []=>Below w.heap.size w W|_::_=>(gW w b c t d p v g a m R {P with T:=T0}) W) (fun _ _=>True) (by kernel_rfl) (by kernel_rfl) rfl rfl (fun vs a b h hs=>by cases vs with|nil=>exact Below.trans hs (h.mono (Below.size hs))|cons v vs=>exact gW.ext a b h hs) ?_ ?_ ?_ ?_ ?_ ?_
 ·intro a b he hb;trivial
 ·intro a b he hb;trivial
 ·exact⟨trivial,trivial,trivial,trivial,trivial,⟨fun _ _ _ _ _=>trivial,fun _ _ _ _ _=>trivial⟩,trivial,trivial,trivial,trivial,⟨fun _ _ _ _ _=>trivial,fun _ _ _ _ _=>trivial⟩,trivial,trivial⟩
 ·trivial
 ·exact⟨rfl,rfl,rfl,qaf _,fun _ _=>rfl⟩
 dsimp only[Reg2.rows,Reg2.mk,List.zip,List.zipWith,List.take]
 repeat(refine' Reg2.ak _ (by rfl) (fun wz=>?_) ?_;rotate_left;(go_simp;first|rfl|rw[qai (by omega)]);simp only[Act.put,xA,xB,xC,xD,xE,id])
 refine Reg2.pp (fun wz _ hI hF=>?_) (fun r5=>?_) (by rfl)
 ·have c0:=(hS.out.cw.kept hI).c1;go_wp2_with fail
  first|exact⟨_,rfl,rfl,qad⟩|exact⟨_,rfl,⟨(),rfl,trivial⟩,qad⟩
 simp only[Act.put,xA,xB,xC,xD,xE,id]
 repeat(refine' Reg2.ak _ (by rfl) (fun wz=>?_) ?_;rotate_left;(go_simp;first|rfl|rw[qai (by omega)]);simp only[Act.put,xA,xB,xC,xD,xE,id])
 refine Reg2.pp (fun wz _ hI hF=>?_) (fun yN=>?_) (by rfl)
 ·have q0:=(hS.out.kept hI).wk.at 7 (.int .i64 R.ag.node) rfl;go_wp2_with fail
  first|exact⟨_,rfl,rfl,qad⟩|exact⟨_,rfl,⟨(),rfl,trivial⟩,qad⟩
 simp only[Act.put,xA,xB,xC,xD,xE,id];refine Reg2.pj (fun wz _ hI hF=>?_) (fun V5=>?_) (by rfl)
 ·go_wp2_with (go_at_call 240;go_must (refine(hmu wz (hS.out.kept hI)).mono ?_);rintro e w' ⟨x,T',hT,hL,rfl,v4,g4,nX,bM⟩);obtain⟨rfl,rfl⟩:=hT0.out.uniq hT;have hpost:gW w b c t d p v g a m R {P with T:=T0} w':=⟨v4,g4,(hS.out.kept hI).core nX bM,(WS.of_below hI).trans (WS.dD bM)⟩;exact⟨_,rfl,⟨⟨(),rfl⟩,hpost⟩,trivial⟩
 simp only[Act.put,xA,xB,xC,xD,xE,id];refine Reg2.aB ?_;intro w7 _ sS kG;clear kG;dsimp only[List.drop];obtain⟨v7,g7,gM,zf⟩:gW w b c t d p v g a m R {P with T:=T0} w7:=sS;have Sq:=Wj w7 v7 g7 gM;go_wp2_with fail;go_at_call 239;refine Sq.mono ?_;clear Sq;rintro e w8 ⟨rfl,v8,g8,gL,dU⟩;go_wp2_with fail;go_ret;exact⟨rfl,v8,g8,gL,zf.trans dU⟩
theorem Ad (h:SW w b c t d p v g a m R P)(hk:PK P)(Wl:P=ai M)(hI:aG M)(h1:1≤M.dr.length)(hll:M.L.length≤900)(ha:a≤800)(hm:m≤1000000)(hhit:dV kY M.L=none)(hn: -9223372036854775808≤R.ag.node∧R.ag.node≤9223372036854775807){x0:Int}{T0:List Int}(hT0:mM P.T R.ag.node true x0 T0){a':Nat}{m':Int}{R':Wk}{P':Pg}
 (Wj:Pv b c t d p a m R P x0 T0 a' m' R' P'):
 Calls prog 238 #[.pointer (some ⟨b,0,none⟩),.pointer (some ⟨c,0,none⟩)] w (az w b c t d p v g a' m' .nilFunc R' P'):=by
 obtain⟨wA,aK⟩:=qaa (w.alloc (.cells #[.int .i64 1] 3));have bS:Below w.heap.size w wA:=by rw[aK];exact qac.alloc (qaf _) _
 have LV:aC enc1 1 wA (.slice (some ⟨w.heap.size,0,none⟩) 1 1) [1]:=by rw[aK];exact fM w w.heap.size [1] rfl (by decide)
 have DR:=h.kept bS;have hin:=tT DR.cw.eU (by rw[Wl];show M.L.length≤1000;omega) LV;have hJ:P.J=M.L:=by rw[Wl];rfl
 rw[hJ]at hin;have hdr:=fun(W:World) (u:Value) (hC:CW W c t d p v g a m P) (hu:aC ah 10 W u (M.L.filter fun j:Jb=>decide (j.state∈ [(1:Int)])))=>wP (Wl▸hC) hI h1 hll ha hm u _ (fun j:Jb=>decide (j.state∈ [(1:Int)])) hu rfl;have hno:M.L.findIdx? (fun j:Jb=>decide (j.state∈ [(1:Int)])&&aj j)=none:=by have:=hhit;unfold dV at this;rw[←Jk]at this;exact this
 rw[hno]at hdr;have c0:=h.cw.c0;have hS:=qae h;replace hT0:=qae hT0;have hmu:=fun(W:World) (hW:SW W b c t d p v g a m R P)=>LA hW.cw hk R.ag.node hn;rw[aK]at hin;clear h hno hhit;go_enter func238,ntmps238;go_wp2_with fail;go_at_call 24;refine hin.mono ?_;clear hin c0;rw[←aK];rintro e w1 ⟨u,rfl,ho,hb1⟩;have hS1:=DR.kept hb1;have hd1:=hdr w1 u hS1.cw (aC.fA ho ay rfl rfl);replace aK:=qae aK;clear ho hdr;go_wp2_with fail;go_at_call 260;refine hd1.mono ?_;clear hd1;rintro e w2 (⟨_,rfl,hb2⟩|⟨i,hbad,_⟩)
 rotate_left
 ·cases hbad
 have hbw:=bS.trans ((hb1.trans (hb2.mono hb1.size)).mono bS.size);have hS2:=qae (hS1.kept hb2);replace hS1:=qae hS1;replace DR:=qae DR;go_wp2_with fail;refine Reg2.sO 12 26 (Reg2.rows 0 [.p 0,.p 0,.p 0,.p 4,.p 12,.p 28,.p 0,.p 64,.p 192,.p 448,.p 960,.p 2044]) [0,0,0,0,0,2,0,0,0,0,2,3]
  [.pure,.pure,.pure,.pure,.pure,.pinned Unit () (fun _=>.pointer (some ⟨d,0,none⟩)) (fun _ _=>True),.pure,.pure,.pure,.pure,.pinned Unit () (fun _=>.int .i64 R.ag.node) (fun _ _=>True),.major Unit () (fun _=>.int .i64 x0)]
  (fun _=>True) (fun vs W=>match vs with| []=>Below w2.heap.size w2 W|_::_=>(gW w2 b c t d p v g a m R {P with T:=T0}) W) (fun _ _=>True) (by kernel_rfl) (by kernel_rfl) rfl rfl (fun vs a b h hs=>by cases vs with|nil=>exact Below.trans hs (h.mono (Below.size hs))|cons v vs=>exact gW.ext a b h hs) ?_ ?_ ?_ ?_ ?_ ?_
 ·intro a b he hb;trivial
 ·intro a b he hb;trivial
 ·exact⟨trivial,trivial,trivial,trivial,trivial,⟨fun _ _ _ _ _=>trivial,fun _ _ _ _ _=>trivial⟩,trivial,trivial,trivial,trivial,⟨fun _ _ _ _ _=>trivial,fun _ _ _ _ _=>trivial⟩,trivial,trivial⟩
 ·trivial
 ·exact⟨rfl,rfl,rfl,qaf _,fun _ _=>rfl⟩
 dsimp only[Reg2.rows,Reg2.mk,List.zip,List.zipWith,List.take]
 repeat(refine' Reg2.ak _ (by rfl) (fun wz=>?_) ?_;rotate_left;(go_simp;first|rfl|rw[qai (by omega)]);simp only[Act.put,xA,xB,xC,xD,xE,id])
 refine Reg2.pp (fun wz _ hI hF=>?_) (fun r5=>?_) (by rfl)
 ·have c0:=(hS2.out.cw.kept hI).c1;go_wp2_with fail
  first|exact⟨_,rfl,rfl,qad⟩|exact⟨_,rfl,⟨(),rfl,trivial⟩,qad⟩
 simp only[Act.put,xA,xB,xC,xD,xE,id]
 repeat(refine' Reg2.ak _ (by rfl) (fun wz=>?_) ?_;rotate_left;(go_simp;first|rfl|rw[qai (by omega)]);simp only[Act.put,xA,xB,xC,xD,xE,id])
 refine Reg2.pp (fun wz _ hI hF=>?_) (fun yN=>?_) (by rfl)
 ·have q0:=(hS2.out.kept hI).wk.at 7 (.int .i64 R.ag.node) rfl;go_wp2_with fail
  first|exact⟨_,rfl,rfl,qad⟩|exact⟨_,rfl,⟨(),rfl,trivial⟩,qad⟩
 simp only[Act.put,xA,xB,xC,xD,xE,id];refine Reg2.pj (fun wz _ hI hF=>?_) (fun V5=>?_) (by rfl)
 ·go_wp2_with (go_at_call 136;go_must (refine(hmu wz (hS2.out.kept hI)).mono ?_);rintro e w' ⟨x,T',hT,hL,rfl,v4,g4,nX,bM⟩);obtain⟨rfl,rfl⟩:=hT0.out.uniq hT;have hpost:gW w2 b c t d p v g a m R {P with T:=T0} w':=⟨v4,g4,(hS2.out.kept hI).core nX bM,(WS.of_below hI).trans (WS.dD bM)⟩;exact⟨_,rfl,⟨⟨(),rfl⟩,hpost⟩,trivial⟩
 simp only[Act.put,xA,xB,xC,xD,xE,id];refine Reg2.aB ?_;intro w7 _ sS kG;clear kG;dsimp only[List.drop];obtain⟨v7,g7,gM,zf⟩:gW w2 b c t d p v g a m R {P with T:=T0} w7:=sS;have Sq:=Wj w7 v7 g7 gM;go_wp2_with fail;go_at_call 239;refine Sq.mono ?_;clear Sq;rintro e w8 ⟨rfl,v8,g8,gL,dU⟩;go_wp2_with fail;go_ret;exact⟨rfl,v8,g8,gL,((WS.of_below hbw).trans zf).trans dU⟩
theorem Ae (h:SW w b c t d p v g a m R (ai M))(hI:aG M)(h1:1≤M.dr.length)(hll:M.L.length≤900)(ha:a≤800)(hm:m≤1000000){i:Nat}(hhit:dV kY M.L=some i):
 Calls prog 238 #[.pointer (some ⟨b,0,none⟩),.pointer (some ⟨c,0,none⟩)] w (az w b c t d p v g (a+2) (m+1) (fF 238) R (ai {M with L:=M.L.set i ((M.L.getD i default).aH (-1))})):=by
 obtain⟨wA,aK⟩:=qaa (w.alloc (.cells #[.int .i64 1] 3));have bS:Below w.heap.size w wA:=by rw[aK];exact qac.alloc (qaf _) _
 have LV:aC enc1 1 wA (.slice (some ⟨w.heap.size,0,none⟩) 1 1) [1]:=by rw[aK];exact fM w w.heap.size [1] rfl (by decide)
 have DR:=h.kept bS;have hin:=tT DR.cw.eU (by show M.L.length≤1000;omega) LV;rw[show(ai M).J=M.L from rfl]at hin;have hdr:=fun(W:World) (u:Value) (hC:CW W c t d p v g a m (ai M)) (hu:aC ah 10 W u (M.L.filter fun j:Jb=>decide (j.state∈ [(1:Int)])))=>wP hC hI h1 hll ha hm u _ (fun j:Jb=>decide (j.state∈ [(1:Int)])) hu rfl;have hno:M.L.findIdx? (fun j:Jb=>decide (j.state∈ [(1:Int)])&&aj j)=some i:=by have:=hhit;unfold dV at this;rw[←Jk]at this;exact this
 rw[hno]at hdr;have c0:=h.cw.c0;rw[aK]at hin;clear h hno hhit;go_enter func238,ntmps238;go_wp2_with fail;go_at_call 24;refine hin.mono ?_;clear hin c0;rw[←aK];rintro e w1 ⟨u,rfl,ho,hb1⟩;have hS1:=DR.kept hb1;have hd1:=hdr w1 u hS1.cw (aC.fA ho ay rfl rfl);replace aK:=qae aK;clear ho hdr;go_wp2_with fail;go_at_call 260;refine hd1.mono ?_;clear hd1;rintro e w2 (⟨hbad,_⟩|⟨i2,he,rfl,v2,g2,hC2,hS2⟩)
 ·cases hbad
 obtain rfl:=Option.some.inj he;have Ya:=hS1.core hC2 hS2;have hf:=(WS.of_below (bS.trans (hb1.mono bS.size)):WS w w1 b c t d p v g v g).trans (WS.dD hS2);go_wp2_with fail;go_ret;exact⟨rfl,v2,g2,Ya,hf⟩
theorem EP (h:SW w b c t d p v g a m R P)(hk:PK P)(hn: -9223372036854775808≤R.ag.node∧R.ag.node≤9223372036854775807)(hst:qc P.T R.ag.node=1∨qc P.T R.ag.node=2){L:Value}{a':Nat}{m':Int}{R':Wk}{P':Pg}
 (hcl:∀W,SW W b c t d p v g a m R P→Calls prog 238 #[.pointer (some ⟨b,0,none⟩),.pointer (some ⟨c,0,none⟩)] W (az W b c t d p v g a' m' L R' P')):
 Calls prog 217 #[.pointer (some ⟨b,0,none⟩),.pointer (some ⟨c,0,none⟩)] w (az w b c t d p v g a' m' L R' P'):=by
 have hS:=qae h;have xV:=fun(W:World) (hW:SW W b c t d p v g a m R P)=>wI R.ag.node hn hW.cw.nodes hk.rR;generalize hsx:qc P.T R.ag.node=sx at*;replace hsx:=qae hsx;clear h;go_enter func217,ntmps217;go_wp2_with fail;refine Reg2.ro w 9 28 [.p 0,.p 1,.p 3,.m 7,.p 0,.p 16,.p 48,.p 112,.m 240] [.pointer (some ⟨d,0,none⟩),.int .i64 R.ag.node] (by kernel_rfl) (by kernel_rfl) rfl rfl ⟨rfl,rfl,rfl,qaf _,fun _ _=>rfl⟩ ?_;dsimp only[Reg2.gY]
 repeat((first
  |(refine' Reg2.ak _ (by rfl) (fun wz=>?_) ?_;rotate_left;(go_simp;first|rfl|rw[qai (by omega)]))
  |(refine Reg2.aA (by rfl) (fun wz hI hF=>?_) (fun _=>?_)
    ·unfold Reg2.One;have c0:=(hS.out.cw.kept hI).c1;have q0:=(hS.out.kept hI).wk.at 7 (.int .i64 R.ag.node) rfl;go_wp2_with fail
     first|exact⟨_,rfl,rfl,qad⟩|exact⟨_,rfl,⟨(),rfl,trivial⟩,qad⟩));simp only[Act.put,xA,xB,xC,xD,xE,id])
 refine Reg2.aB ?_;intro w4 HI4 _ eX;clear eX;dsimp only[List.drop];have bM:=hS.out.kept HI4;have JJ:=xV w4 bM;go_wp2_with fail;go_at_call 48;refine JJ.mono ?_;clear JJ;rintro e w5 ⟨rfl,mm,Ci⟩;have hb5:Below w4.heap.size w4 w5:=by rw[Ci];exact below_drewN qac _
 have hS5:=bM.kept hb5;have Yb:=hcl w5 hS5;have DK:=HI4.trans (hb5.mono HI4.size);replace Ci:=qae Ci;rcases hst with rfl|rfl
 all_goals
  go_wp2_with fail;go_at_call 238;refine Yb.mono ?_;clear Yb;rintro e w8 ⟨rfl,v8,g8,gL,dU⟩;go_wp2_with fail;go_ret;exact⟨rfl,v8,g8,gL,(WS.of_below DK).trans dU⟩
theorem ER (h:SW w b c t d p v g a m R P)(hk:PK P)(hn: -9223372036854775808≤R.ag.node∧R.ag.node≤9223372036854775807)(e0:Int)(hst:(qc P.T R.ag.node=0∧e0=11)∨((qc P.T R.ag.node=3∨qc P.T R.ag.node=4)∧e0=8)):
 Calls prog 217 #[.pointer (some ⟨b,0,none⟩),.pointer (some ⟨c,0,none⟩)] w (az w b c t d p v g a m .nilFunc {R with rep:=kv e0,ok:=false} P):=by
 have hS:=qae h;have xV:=fun(W:World) (hW:SW W b c t d p v g a m R P)=>wI R.ag.node hn hW.cw.nodes hk.rR;generalize hsx:qc P.T R.ag.node=sx at*;replace hsx:=qae hsx;clear h;go_enter func217,ntmps217;go_wp2_with fail;refine Reg2.ro w 9 28 [.p 0,.p 1,.p 3,.m 7,.p 0,.p 16,.p 48,.p 112,.m 240] [.pointer (some ⟨d,0,none⟩),.int .i64 R.ag.node] (by kernel_rfl) (by kernel_rfl) rfl rfl ⟨rfl,rfl,rfl,qaf _,fun _ _=>rfl⟩ ?_;dsimp only[Reg2.gY]
 repeat((first
  |(refine' Reg2.ak _ (by rfl) (fun wz=>?_) ?_;rotate_left;(go_simp;first|rfl|rw[qai (by omega)]))
  |(refine Reg2.aA (by rfl) (fun wz hI hF=>?_) (fun _=>?_)
    ·unfold Reg2.One;have c0:=(hS.out.cw.kept hI).c1;have q0:=(hS.out.kept hI).wk.at 7 (.int .i64 R.ag.node) rfl;go_wp2_with fail
     first|exact⟨_,rfl,rfl,qad⟩|exact⟨_,rfl,⟨(),rfl,trivial⟩,qad⟩));simp only[Act.put,xA,xB,xC,xD,xE,id])
 refine Reg2.aB ?_;intro w4 HI4 _ eX;clear eX;dsimp only[List.drop];have bM:=hS.out.kept HI4;have JJ:=xV w4 bM;go_wp2_with fail;go_at_call 48;refine JJ.mono ?_;clear JJ;rintro e w5 ⟨rfl,mm,Ci⟩;have hb5:Below w4.heap.size w4 w5:=by rw[Ci];exact below_drewN qac _
 have hS5:=bM.kept hb5;have DK:=HI4.trans (hb5.mono HI4.size);replace Ci:=qae Ci;rcases hst with⟨rfl,rfl⟩|⟨rfl|rfl,rfl⟩
 ·have hf:=iF hS5.wk 11;go_wp2_with (go_at_call 188;go_must (refine hf.mono ?_);rintro e w8 ⟨rfl,dU,gy⟩);go_ret;exact⟨rfl,v,g,hS5.work dU gy,(WS.of_below DK).trans (WS.bD gy)⟩
 all_goals
  have hf:=iF hS5.wk 8;go_wp2_with (go_at_call 188;go_must (refine hf.mono ?_);rintro e w8 ⟨rfl,dU,gy⟩);go_ret;exact⟨rfl,v,g,hS5.work dU gy,(WS.of_below DK).trans (WS.bD gy)⟩
end
section
variable {w : World} {b c t d p g a : Nat} {v : Value} {m : Int} {P : Pg} {R : Wk}
theorem Px (h:SW w b c t d p v g a m R P)(hk:PK P)(hlow:R.ag.till<1):
 Calls prog 219 #[.pointer (some ⟨b,0,none⟩),.pointer (some ⟨c,0,none⟩)] w (az w b c t d p v g a m .nilFunc {R with rep:=kv 10,ok:=false} P):=by
 have hS:=qae h;have hsub:=fun(W:World)=>Cw 1099511627776 P.now W;have hnw:=hk.now;obtain⟨sb,hsb⟩:=qaa (1099511627776-P.now);rw[show hd (hd 1099511627776-hd P.now)=sb by rw[hsb];unfold hd;omega]at hsub;obtain⟨ty,hty⟩:=qab (R.ag.till);rw[hty]at hlow;have d1:decide (ty<1)=true:=qag hlow;replace hty:=qae hty;replace hsb:=qae hsb;clear h;go_enter func219,ntmps219;go_wp2_with fail;refine Reg2.ro w 18 44 [.p 0,.p 1,.p 3,.p 7,.m 15,.p 31,.p 63,.p 127,.p 255,.p 511,.p 1023,.m 2047,.p 127,.p 4223,.p 12415,.m 28799,.m 61567,.m 127103] [.int .i64 ty,.int .i64 ty,.pointer (some ⟨p,0,none⟩),.int .i64 P.now,.int .i64 sb] (by kernel_rfl) (by kernel_rfl) rfl rfl ⟨rfl,rfl,rfl,qaf _,fun _ _=>rfl⟩ ?_;dsimp only[Reg2.gY]
 repeat((first
  |(refine' Reg2.ak _ (by rfl) (fun wz=>?_) ?_;rotate_left;(go_simp;first|rfl|rw[qai (by omega)]))
  |refine Reg2.uO (by rfl) ?_
  |refine Reg2.lq (by rfl) ?_
  |(refine Reg2.aA (by rfl) (fun wz hI hF=>?_) (fun _=>?_)
    ·unfold Reg2.One;have q0:=(hS.out.kept hI).wk.at 8 (.int .i64 R.ag.till) rfl;rw[hty.out]at q0;go_wp2_with fail
     first|exact⟨_,rfl,rfl,qad⟩|exact⟨_,rfl,⟨(),rfl,trivial⟩,qad⟩));simp only[Act.put,xA,xB,xC,xD,xE,id])
 refine Reg2.aB ?_;intro w4 HI4 _ eX;clear eX;dsimp only[List.drop];have bM:=hS.out.kept HI4;have hf:=iF bM.wk 10;go_wp2_with (go_at_call 188;go_must (refine hf.mono ?_);rintro e w8 ⟨rfl,dU,gy⟩);go_ret;exact⟨rfl,v,g,bM.work dU gy,(WS.of_below HI4).trans (WS.bD gy)⟩
theorem Mq (h:SW w b c t d p v g a m R P)(hk:PK P)(hlow:¬R.ag.till<1)(hhi:1099511627776-P.now<R.ag.till):
 Calls prog 219 #[.pointer (some ⟨b,0,none⟩),.pointer (some ⟨c,0,none⟩)] w (az w b c t d p v g a m .nilFunc {R with rep:=kv 10,ok:=false} P):=by
 have hS:=qae h;have hsub:=fun(W:World)=>Cw 1099511627776 P.now W;have hnw:=hk.now;obtain⟨sb,hsb⟩:=qaa (1099511627776-P.now);rw[show hd (hd 1099511627776-hd P.now)=sb by rw[hsb];unfold hd;omega]at hsub;obtain⟨ty,hty⟩:=qab (R.ag.till);rw[hty]at hlow hhi;have d1:decide (ty<1)=false:=qah hlow;have d2:decide (ty>sb)=true:=qag (by omega);replace hhi:=qae hhi;replace hty:=qae hty;replace hsb:=qae hsb;clear h;go_enter func219,ntmps219;go_wp2_with fail;refine Reg2.ro w 18 44 [.p 0,.p 1,.p 3,.p 7,.m 15,.p 31,.p 63,.p 127,.p 255,.p 511,.p 1023,.m 2047,.p 127,.p 4223,.p 12415,.m 28799,.m 61567,.m 127103] [.int .i64 ty,.int .i64 ty,.pointer (some ⟨p,0,none⟩),.int .i64 P.now,.int .i64 sb] (by kernel_rfl) (by kernel_rfl) rfl rfl ⟨rfl,rfl,rfl,qaf _,fun _ _=>rfl⟩ ?_;dsimp only[Reg2.gY]
 repeat((first
  |(refine' Reg2.ak _ (by rfl) (fun wz=>?_) ?_;rotate_left;(go_simp;first|rfl|rw[qai (by omega)]))
  |(refine Reg2.aA (by rfl) (fun wz hI hF=>?_) (fun _=>?_)
    ·unfold Reg2.One;have q0:=(hS.out.kept hI).wk.at 8 (.int .i64 R.ag.till) rfl;rw[hty.out]at q0;have c0:=(hS.out.cw.kept hI).c2;go_wp2_with fail
     first|exact⟨_,rfl,rfl,qad⟩|exact⟨_,rfl,⟨(),rfl,trivial⟩,qad⟩));simp only[Act.put,xA,xB,xC,xD,xE,id])
 refine Reg2.pm (fun wz hI hF=>?_) (fun r16=>?_) (by rfl)
 ·go_wp2_with (go_at_call 45;go_must (refine(gq (hS.out.kept hI).cw).mono ?_);rintro e w' ⟨rfl,rfl⟩)
  first|exact⟨_,rfl,rfl,qad⟩|exact⟨_,rfl,⟨(),rfl,trivial⟩,qad⟩
 simp only[Act.put,xA,xB,xC,xD,xE,id];refine Reg2.pm (fun wz hI hF=>?_) (fun Zg=>?_) (by rfl)
 ·go_wp2_with (go_at_call 241;go_must (refine(hsub wz).mono ?_);rintro e w' ⟨rfl,rfl⟩)
  first|exact⟨_,rfl,rfl,qad⟩|exact⟨_,rfl,⟨(),rfl,trivial⟩,qad⟩
 simp only[Act.put,xA,xB,xC,xD,xE,id];refine Reg2.aB ?_;intro w4 HI4 _ eX;clear eX;dsimp only[List.drop];have bM:=hS.out.kept HI4;have hf:=iF bM.wk 10;go_wp2_with (go_at_call 188;go_must (refine hf.mono ?_);rintro e w8 ⟨rfl,dU,gy⟩);go_ret;exact⟨rfl,v,g,bM.work dU gy,(WS.of_below HI4).trans (WS.bD gy)⟩
theorem JK (h:SW w b c t d p v g a m R P)(hk:PK P)(hlow:¬R.ag.till<1)(hhi:¬1099511627776-P.now<R.ag.till){L:Value}{a':Nat}{m':Int}{R':Wk}{P':Pg}
 (hfw:∀W,SW W b c t d p v g a m {R with target:=P.now+R.ag.till} P→Calls prog 242 #[.pointer (some ⟨b,0,none⟩),.pointer (some ⟨c,0,none⟩)] W (az W b c t d p v g a' m' L R' P')):
 Calls prog 219 #[.pointer (some ⟨b,0,none⟩),.pointer (some ⟨c,0,none⟩)] w (az w b c t d p v g a' m' L R' P'):=by
 have hS:=qae h;have hsub:=fun(W:World)=>Cw 1099511627776 P.now W;have hnw:=hk.now;obtain⟨sb,hsb⟩:=qaa (1099511627776-P.now);rw[show hd (hd 1099511627776-hd P.now)=sb by rw[hsb];unfold hd;omega]at hsub;obtain⟨ty,hty⟩:=qab (R.ag.till);rw[hty]at hlow hhi hfw;have d1:decide (ty<1)=false:=qah hlow;have d2:decide (ty>sb)=false:=qah (by omega);have wt:IntKind.i64.wrap (P.now+ty)=P.now+ty:=by rw[IntKind.wrap_i64];omega
 replace hhi:=qae hhi;replace hty:=qae hty;replace hsb:=qae hsb;clear h;go_enter func219,ntmps219;go_wp2_with fail;refine Reg2.ro w 18 44 [.p 0,.p 1,.p 3,.p 7,.m 15,.p 31,.p 63,.p 127,.p 255,.p 511,.p 1023,.m 2047,.p 127,.p 4223,.p 12415,.m 28799,.m 61567,.m 127103] [.int .i64 ty,.int .i64 ty,.pointer (some ⟨p,0,none⟩),.int .i64 P.now,.int .i64 sb] (by kernel_rfl) (by kernel_rfl) rfl rfl ⟨rfl,rfl,rfl,qaf _,fun _ _=>rfl⟩ ?_;dsimp only[Reg2.gY]
 repeat((first
  |(refine' Reg2.ak _ (by rfl) (fun wz=>?_) ?_;rotate_left;(go_simp;first|rfl|rw[qai (by omega)]))
  |(refine Reg2.aA (by rfl) (fun wz hI hF=>?_) (fun _=>?_)
    ·unfold Reg2.One;have q0:=(hS.out.kept hI).wk.at 8 (.int .i64 R.ag.till) rfl;rw[hty.out]at q0;have c0:=(hS.out.cw.kept hI).c2;go_wp2_with fail
     first|exact⟨_,rfl,rfl,qad⟩|exact⟨_,rfl,⟨(),rfl,trivial⟩,qad⟩));simp only[Act.put,xA,xB,xC,xD,xE,id])
 refine Reg2.pm (fun wz hI hF=>?_) (fun r16=>?_) (by rfl)
 ·go_wp2_with (go_at_call 45;go_must (refine(gq (hS.out.kept hI).cw).mono ?_);rintro e w' ⟨rfl,rfl⟩)
  first|exact⟨_,rfl,rfl,qad⟩|exact⟨_,rfl,⟨(),rfl,trivial⟩,qad⟩
 simp only[Act.put,xA,xB,xC,xD,xE,id];refine Reg2.pm (fun wz hI hF=>?_) (fun Zg=>?_) (by rfl)
 ·go_wp2_with (go_at_call 241;go_must (refine(hsub wz).mono ?_);rintro e w' ⟨rfl,rfl⟩)
  first|exact⟨_,rfl,rfl,qad⟩|exact⟨_,rfl,⟨(),rfl,trivial⟩,qad⟩
 simp only[Act.put,xA,xB,xC,xD,xE,id];refine Reg2.aB ?_;intro w4 HI4 _ eX;clear eX;dsimp only[List.drop];have bM:=qae (hS.out.kept HI4);go_wp2_with fail;refine Reg2.ro w4 12 44 [.p 0,.p 0,.p 2,.p 6,.m 14,.m 30,.p 0,.p 64,.p 192,.p 448,.m 960,.p 2046] [.pointer (some ⟨p,0,none⟩),.int .i64 P.now,.int .i64 ty] (by kernel_rfl) (by kernel_rfl) rfl rfl ⟨rfl,rfl,rfl,qaf _,fun _ _=>rfl⟩ ?_;dsimp only[Reg2.gY]
 repeat((first
  |(refine' Reg2.ak _ (by rfl) (fun wz=>?_) ?_;rotate_left;(go_simp;first|rfl|rw[qai (by omega)]))
  |(refine Reg2.aA (by rfl) (fun wz hI hF=>?_) (fun _=>?_)
    ·unfold Reg2.One;have c0:=(bM.out.cw.kept hI).c2;go_wp2_with fail
     first|exact⟨_,rfl,rfl,qad⟩|exact⟨_,rfl,⟨(),rfl,trivial⟩,qad⟩));simp only[Act.put,xA,xB,xC,xD,xE,id])
 refine Reg2.pm (fun wz hI hF=>?_) (fun r5=>?_) (by rfl)
 ·go_wp2_with (go_at_call 45;go_must (refine(gq (bM.out.kept hI).cw).mono ?_);rintro e w' ⟨rfl,rfl⟩)
  first|exact⟨_,rfl,rfl,qad⟩|exact⟨_,rfl,⟨(),rfl,trivial⟩,qad⟩
 simp only[Act.put,xA,xB,xC,xD,xE,id]
 repeat((first
  |(refine' Reg2.ak _ (by rfl) (fun wz=>?_) ?_;rotate_left;(go_simp;first|rfl|rw[qai (by omega)]))
  |(refine Reg2.aA (by rfl) (fun wz hI hF=>?_) (fun _=>?_)
    ·unfold Reg2.One;have q0:=(bM.out.kept hI).wk.at 8 (.int .i64 R.ag.till) rfl;rw[hty.out]at q0;go_wp2_with fail
     first|exact⟨_,rfl,rfl,qad⟩|exact⟨_,rfl,⟨(),rfl,trivial⟩,qad⟩));simp only[Act.put,xA,xB,xC,xD,xE,id])
 refine Reg2.aB ?_;intro w6 Ji _ eX;clear eX;dsimp only[List.drop];have eY:=bM.out.kept Ji;have a23:=eY.wk.at 23 (.int .i64 R.target) rfl;have f23:=eY.wk.free 23;have gM:=eY.work (eY.wk.target (P.now+ty)) (dw w6 23 (.int .i64 (P.now+ty)));have L6:=(WS.of_below (HI4.trans (Ji.mono HI4.size)):WS w w6 b c t d p v g v g).trans (WS.bD (dw w6 23 (.int .i64 (P.now+ty))));have Vf:=hfw _ gM;go_wp2_with fail;go_at_call 242;refine Vf.mono ?_;clear Vf;rintro e w8 ⟨rfl,v8,g8,gL,dU⟩;have LX:=L6.trans dU;go_wp2_with fail;go_ret;exact⟨rfl,v8,g8,gL,LX⟩
end
section
variable {w : World} {b c t d p g a : Nat} {v : Value} {m : Int} {P : Pg} {M : Md} {R : Wk}
theorem AA (h:SW w b c t d p v g a m R P)(hq:R.ag.kind=6)(e1:Int)(he1:e1≠0)(he:gG P.J R.ag.id=e1):
 Calls prog 190 #[.pointer (some ⟨b,0,none⟩),.pointer (some ⟨c,0,none⟩)] w (az w b c t d p v g a m .nilFunc {R with rep:=kv e1,ok:=false} P):=by
 have zJ:=bL;obtain⟨k,hk1⟩:=qaa (10);rw[←hk1]at zJ;have hk0:¬k=0:=by omega
 have lY:=ay (bI P.J R.ag.id);rw[←hk1]at lY;replace hk1:=qae hk1;have q0:=h.wk.at 0 (.int .i64 R.ag.kind) rfl;rw[hq]at q0;obtain⟨y,hy⟩:=qaa (bI P.J R.ag.id);obtain⟨e0,he0⟩:=qaa (gG P.J R.ag.id);have hgo:Hid (∀W,SW W b c t d p v g a m R P→Calls prog 41 #[.pointer (some ⟨t,0,none⟩),.int .i64 R.ag.id] W fun e w'=>e=.returned (.tuple #[.agg (ah y).toArray,.int .i64 e0])∧Gr W w'):=fun W hW=>by
  have:=fO hW.cw.eU R.ag.id;unfold iC at this;rw[←hy,←he0]at this;exact this
 rw[←he0]at he;rw[←hy]at lY;replace he:=qae he;have hS:=qae h;replace he0:=qae he0;replace hy:=qae hy;replace hq:=qae hq;clear h;go_enter func190,ntmps190;go_wp2_with fail;refine Reg2.qZ 15 73 (Reg2.rows 0 [.p 0,.p 1,.p 3,.p 7,.p 0,.p 16,.p 48,.p 112,.p 240,.p 511,.p 1023,.p 2047,.p 2047,.p 0,.p 12287]) [0,0,0,1,0,0,0,0,1,1,0,0,0,3,3]
  [.pure,.pure,.pure,.mU (.pointer (some ⟨t,0,none⟩)),.pure,.pure,.pure,.pure,.mU (.int .i64 R.ag.id),.mU (.tuple #[.agg (ah y).toArray,.int .i64 e0]),.pure,.pure,.pure,.major Nat 0 (fun k=>.pointer (some ⟨k,0,none⟩)),.major Unit () (fun _=>undef)]
  (fun W=>Below w.heap.size w W) (iG w y) (fun a b=>Below w.heap.size a b) (by kernel_rfl) (by kernel_rfl) rfl rfl (fun vs a b h hs=>iG.ext h hs) ?_ ?_ ?_ ?_ ?_ ?_ ?_
 ·intro a b he hb;exact hb.trans (Below.mono he hb.size)
 ·intro a b he hb;exact hb.trans he
 ·exact⟨trivial,trivial,trivial,⟨fun _ _ _ _ _=>trivial,fun _ _ _ _ _=>trivial⟩,trivial,trivial,trivial,trivial,⟨fun _ _ _ _ _=>trivial,fun _ _ _ _ _=>trivial⟩,⟨fun _ _ _ _ _=>trivial,fun _ _ _ _ _=>trivial⟩,trivial,trivial,trivial,trivial,trivial,trivial⟩
 ·exact⟨(fun h=>nomatch h),(fun h=>nomatch h),(fun h=>nomatch h),(fun h=>nomatch h),(fun h=>nomatch h),(fun h=>nomatch h),(fun h=>nomatch h),(fun h=>nomatch h),(fun h=>nomatch h),(fun h=>nomatch h),(fun h=>nomatch h),(fun h=>nomatch h),(fun h=>nomatch h),(fun h=>nomatch h),(fun _ _=>rfl),trivial⟩
 ·exact⟨rfl,rfl,rfl,qaf _,fun _ _=>rfl⟩
 ·exact⟨⟨rfl,rfl,rfl,qaf _,fun _ _=>rfl⟩,trivial⟩
 dsimp only[Reg2.rows,Reg2.mk,List.zip,List.zipWith,List.take]
 repeat((first
  |(refine' Reg2.ak _ (by rfl) (fun wz=>?_) ?_;rotate_left;(go_simp;first|rfl|rw[qai (by omega)]))
  |(refine Reg2.aA (by rfl) (fun wz hI hF=>?_) (fun _=>?_)
    ·unfold Reg2.One;have c0:=(hS.out.kept hI).cw.c0;have q0:=(hS.out.kept hI).wk.at 1 (.int .i64 R.ag.id) rfl;go_wp2_with fail
     first|exact⟨_,rfl,rfl,qad⟩|exact⟨_,rfl,⟨(),rfl,trivial⟩,qad⟩));simp only[Act.put,xA,xB,xC,xD,xE,id])
 refine Reg2.pm (fun wz hI hF=>?_) (fun r9=>?_) (by rfl)
 ·go_wp2_with (go_at_call 41;go_must (refine(hgo.out wz (hS.out.kept hI)).mono ?_);rintro e w' ⟨rfl,hg5⟩;have hb5:=hg5.below)
  first|exact⟨_,rfl,⟨(),rfl,trivial⟩,hb5⟩|exact⟨_,rfl,rfl,hb5⟩
 simp only[Act.put,xA,xB,xC,xD,xE,id]
 repeat(refine' Reg2.ak _ (by rfl) (fun wz=>?_) ?_;rotate_left;(go_simp;first|rfl|rw[qai (by omega)]);simp only[Act.put,xA,xB,xC,xD,xE,id])
 refine Reg2.pj (fun wz hI hS hF=>?_) (fun Su=>?_) (by rfl)
 ·go_wp2_with fail;exact⟨_,rfl,⟨⟨_,rfl⟩,iG.alloc hS⟩,qac.alloc hI.size _⟩
 simp only[Act.put,xA,xB,xC,xD,xE,id];refine Reg2.pj (fun wz hI hS hF=>?_) (fun Uu=>?_) (by rfl)
 ·obtain⟨hz,hge⟩:=iG.zero hS;have Az:=mr (x:=y) hz;have hfin:=iG.store hS;have hbw:Below w.heap.size wz (wz.setRow Su (ah y).toArray):=qN qac hge _;generalize ah y=cY at*;go_wp2_with fail;exact⟨_,rfl,⟨⟨(),rfl⟩,hfin⟩,hbw⟩
 simp only[Act.put,xA,xB,xC,xD,xE,id];refine Reg2.aB ?_;intro w7 jZ sS kG;clear kG sS;dsimp only[List.drop];have gM:=hS.out.kept jZ;have d3:(e0 != 0)=true:=by rw[he.out];simp[he1]
 have hf:=iF gM.wk e0;go_wp2_with (go_at_call 188;go_must (refine hf.mono ?_);rintro e w8 ⟨rfl,dU,gy⟩);go_ret;have e9:=he.out;clear he;subst e9;exact⟨rfl,v,g,gM.work dU gy,(WS.of_below jZ).trans (WS.bD gy)⟩
theorem CL (h:SW w b c t d p v g a m R P)(hq:R.ag.kind=6)(he:gG P.J R.ag.id=0):
 Calls prog 190 #[.pointer (some ⟨b,0,none⟩),.pointer (some ⟨c,0,none⟩)] w (az w b c t d p v g a m .nilFunc {R with rep:=iZ (bI P.J R.ag.id)} P):=by
 have zJ:=bL;obtain⟨k,hk1⟩:=qaa (10);rw[←hk1]at zJ;have hk0:¬k=0:=by omega
 have lY:=ay (bI P.J R.ag.id);rw[←hk1]at lY;replace hk1:=qae hk1;have q0:=h.wk.at 0 (.int .i64 R.ag.kind) rfl;rw[hq]at q0;obtain⟨y,hy⟩:=qaa (bI P.J R.ag.id);obtain⟨e0,he0⟩:=qaa (gG P.J R.ag.id);have hgo:Hid (∀W,SW W b c t d p v g a m R P→Calls prog 41 #[.pointer (some ⟨t,0,none⟩),.int .i64 R.ag.id] W fun e w'=>e=.returned (.tuple #[.agg (ah y).toArray,.int .i64 e0])∧Gr W w'):=fun W hW=>by
  have:=fO hW.cw.eU R.ag.id;unfold iC at this;rw[←hy,←he0]at this;exact this
 rw[←he0]at he;rw[←hy]at lY;replace he:=qae he;have hS:=qae h;replace he0:=qae he0;replace hy:=qae hy;replace hq:=qae hq;clear h;go_enter func190,ntmps190;go_wp2_with fail;refine Reg2.qZ 15 73 (Reg2.rows 0 [.p 0,.p 1,.p 3,.p 7,.p 0,.p 16,.p 48,.p 112,.p 240,.p 511,.p 1023,.p 2047,.p 2047,.p 0,.p 12287]) [0,0,0,1,0,0,0,0,1,1,0,0,0,3,3]
  [.pure,.pure,.pure,.mU (.pointer (some ⟨t,0,none⟩)),.pure,.pure,.pure,.pure,.mU (.int .i64 R.ag.id),.mU (.tuple #[.agg (ah y).toArray,.int .i64 e0]),.pure,.pure,.pure,.major Nat 0 (fun k=>.pointer (some ⟨k,0,none⟩)),.major Unit () (fun _=>undef)]
  (fun W=>Below w.heap.size w W) (iG w y) (fun a b=>Below w.heap.size a b) (by kernel_rfl) (by kernel_rfl) rfl rfl (fun vs a b h hs=>iG.ext h hs) ?_ ?_ ?_ ?_ ?_ ?_ ?_
 ·intro a b he hb;exact hb.trans (Below.mono he hb.size)
 ·intro a b he hb;exact hb.trans he
 ·exact⟨trivial,trivial,trivial,⟨fun _ _ _ _ _=>trivial,fun _ _ _ _ _=>trivial⟩,trivial,trivial,trivial,trivial,⟨fun _ _ _ _ _=>trivial,fun _ _ _ _ _=>trivial⟩,⟨fun _ _ _ _ _=>trivial,fun _ _ _ _ _=>trivial⟩,trivial,trivial,trivial,trivial,trivial,trivial⟩
 ·exact⟨(fun h=>nomatch h),(fun h=>nomatch h),(fun h=>nomatch h),(fun h=>nomatch h),(fun h=>nomatch h),(fun h=>nomatch h),(fun h=>nomatch h),(fun h=>nomatch h),(fun h=>nomatch h),(fun h=>nomatch h),(fun h=>nomatch h),(fun h=>nomatch h),(fun h=>nomatch h),(fun h=>nomatch h),(fun _ _=>rfl),trivial⟩
 ·exact⟨rfl,rfl,rfl,qaf _,fun _ _=>rfl⟩
 ·exact⟨⟨rfl,rfl,rfl,qaf _,fun _ _=>rfl⟩,trivial⟩
 dsimp only[Reg2.rows,Reg2.mk,List.zip,List.zipWith,List.take]
 repeat((first
  |(refine' Reg2.ak _ (by rfl) (fun wz=>?_) ?_;rotate_left;(go_simp;first|rfl|rw[qai (by omega)]))
  |(refine Reg2.aA (by rfl) (fun wz hI hF=>?_) (fun _=>?_)
    ·unfold Reg2.One;have c0:=(hS.out.kept hI).cw.c0;have q0:=(hS.out.kept hI).wk.at 1 (.int .i64 R.ag.id) rfl;go_wp2_with fail
     first|exact⟨_,rfl,rfl,qad⟩|exact⟨_,rfl,⟨(),rfl,trivial⟩,qad⟩));simp only[Act.put,xA,xB,xC,xD,xE,id])
 refine Reg2.pm (fun wz hI hF=>?_) (fun r9=>?_) (by rfl)
 ·go_wp2_with (go_at_call 41;go_must (refine(hgo.out wz (hS.out.kept hI)).mono ?_);rintro e w' ⟨rfl,hg5⟩;have hb5:=hg5.below)
  first|exact⟨_,rfl,⟨(),rfl,trivial⟩,hb5⟩|exact⟨_,rfl,rfl,hb5⟩
 simp only[Act.put,xA,xB,xC,xD,xE,id]
 repeat(refine' Reg2.ak _ (by rfl) (fun wz=>?_) ?_;rotate_left;(go_simp;first|rfl|rw[qai (by omega)]);simp only[Act.put,xA,xB,xC,xD,xE,id])
 refine Reg2.pj (fun wz hI hS hF=>?_) (fun Su=>?_) (by rfl)
 ·go_wp2_with fail;exact⟨_,rfl,⟨⟨_,rfl⟩,iG.alloc hS⟩,qac.alloc hI.size _⟩
 simp only[Act.put,xA,xB,xC,xD,xE,id];refine Reg2.pj (fun wz hI hS hF=>?_) (fun Uu=>?_) (by rfl)
 ·obtain⟨hz,hge⟩:=iG.zero hS;have Az:=mr (x:=y) hz;have hfin:=iG.store hS;have hbw:Below w.heap.size wz (wz.setRow Su (ah y).toArray):=qN qac hge _;generalize ah y=cY at*;go_wp2_with fail;exact⟨_,rfl,⟨⟨(),rfl⟩,hfin⟩,hbw⟩
 simp only[Act.put,xA,xB,xC,xD,xE,id];refine Reg2.aB ?_;intro w7 jZ sS kG;clear kG sS;dsimp only[List.drop];have gM:=hS.out.kept jZ;have d3:(e0 != 0)=false:=by rw[he.out];rfl
 have q1:=gM.wk.at 1 (.int .i64 R.ag.id) rfl;have ht:=oz gM R.ag.id;go_wp2_with (go_at_call 209;go_must (refine ht.mono ?_);rintro e w8 ⟨rfl,dU,gy⟩);go_ret;exact⟨rfl,v,g,gM.work dU gy,(WS.of_below jZ).trans (WS.bD gy)⟩
theorem Mr (h:SW w b c t d p v g a m R P)(hk:PK P)(hq:R.ag.kind=10):
 Calls prog 190 #[.pointer (some ⟨b,0,none⟩),.pointer (some ⟨c,0,none⟩)] w (az w b c t d p v g a m .nilFunc {R with rep:=⟨0,0,0,0,0,0,(aQ (gZ P.T) 64:Int),(aQ (bX P.T) 64:Int),(aQ (fun i=>bY P.T i&& !bX P.T i) 64:Int)⟩} P):=by
 have q0:=h.wk.at 0 (.int .i64 R.ag.kind) rfl;rw[hq]at q0;replace hq:=qae hq;have zY:=wN;obtain⟨k9,bV⟩:∃k,k=9:=⟨_,rfl⟩;rw[←bV]at zY;have hk0:¬k9=0:=by omega
 have cc:=h.cw.c1;have hco:=II h.cw.nodes hk.rR;have hth:=fun(x y z:Int) (W:World)=>zb x y z W;obtain⟨v0,hv0⟩:∃x:Int,x=(aQ (gZ P.T) 64:Int):=⟨_,rfl⟩;obtain⟨v1,hv1⟩:∃x:Int,x=(aQ (bX P.T) 64:Int):=⟨_,rfl⟩;obtain⟨v2,hv2⟩:∃x:Int,x=(aQ (fun i=>bY P.T i&& !bX P.T i) 64:Int):=⟨_,rfl⟩;rw[←hv0,←hv1,←hv2]at hco⊢;replace hv0:=qae hv0;replace hv1:=qae hv1;replace hv2:=qae hv2;have hS:=qae h;clear h;go_enter func190,ntmps190;go_wp2_with fail;go_at_call 211;refine hco.mono ?_;clear hco;rintro e w1 ⟨rfl,mm,hw1⟩;have hb1:Below w.heap.size w w1:=by rw[hw1];exact below_drewN qac _
 replace hw1:=qae hw1;have hS1:=hS.out.kept hb1;go_wp2_with fail;go_at_call 210;refine(hth _ _ _ w1).mono ?_;clear hth;rintro e w2 ⟨rfl,hb2⟩;have hS2:=hS1.kept hb2;obtain⟨y,hy⟩:∃y:Ry,y=⟨0,0,0,0,0,0,v0,v1,v2⟩:=⟨_,rfl⟩;rw[←hy];replace hy:=qae hy;obtain⟨st,hW3⟩:=hS2.wk.Gp y;have lY:=jF y;rw[←bV]at lY;replace bV:=qae bV;have qh:=hS2.work hW3 (cO w2 _);have hfin:=((WS.of_below (hb1.trans (hb2.mono hb1.size)):WS w w2 b c t d p v g v g)).trans (WS.bD (cO w2 (gI {R with rep:=y}).toArray));generalize gI {R with rep:=y}=W2 at*;generalize bW y=cY at*;go_wp2_with fail;go_ret;have ey:=hy.out;clear hy;subst ey;exact⟨rfl,v,g,qh,hfin⟩
theorem Ms (h:SW w b c t d p v g a m R P)(hk:PK P)(hq:R.ag.kind=11):
 Calls prog 190 #[.pointer (some ⟨b,0,none⟩),.pointer (some ⟨c,0,none⟩)] w (az w b c t d p v g a m .nilFunc {R with rep:=⟨0,0,0,0,0,0,(cnt 1 P.J:Int),(cnt 2 P.J:Int),(cnt 3 P.J:Int)⟩} P):=by
 have q0:=h.wk.at 0 (.int .i64 R.ag.kind) rfl;rw[hq]at q0;replace hq:=qae hq;have zY:=wN;obtain⟨k9,bV⟩:∃k,k=9:=⟨_,rfl⟩;rw[←bV]at zY;have hk0:¬k9=0:=by omega
 have cc:=h.cw.c0;have hco:=BH h.cw.eU (by have:=hk.few;omega);have hth:=fun(x y z:Int) (W:World)=>zb x y z W;obtain⟨v0,hv0⟩:∃x:Int,x=(cnt 1 P.J:Int):=⟨_,rfl⟩;obtain⟨v1,hv1⟩:∃x:Int,x=(cnt 2 P.J:Int):=⟨_,rfl⟩;obtain⟨v2,hv2⟩:∃x:Int,x=(cnt 3 P.J:Int):=⟨_,rfl⟩;rw[←hv0,←hv1,←hv2]at hco⊢;replace hv0:=qae hv0;replace hv1:=qae hv1;replace hv2:=qae hv2;have hS:=qae h;clear h;go_enter func190,ntmps190;go_wp2_with fail;go_at_call 208;refine hco.mono ?_;clear hco;rintro e w1 ⟨rfl,hb1⟩;have hS1:=hS.out.kept hb1;go_wp2_with fail;go_at_call 210;refine(hth _ _ _ w1).mono ?_;clear hth;rintro e w2 ⟨rfl,hb2⟩;have hS2:=hS1.kept hb2;obtain⟨y,hy⟩:∃y:Ry,y=⟨0,0,0,0,0,0,v0,v1,v2⟩:=⟨_,rfl⟩;rw[←hy];replace hy:=qae hy;obtain⟨st,hW3⟩:=hS2.wk.Gp y;have lY:=jF y;rw[←bV]at lY;replace bV:=qae bV;have qh:=hS2.work hW3 (cO w2 _);have hfin:=((WS.of_below (hb1.trans (hb2.mono hb1.size)):WS w w2 b c t d p v g v g)).trans (WS.bD (cO w2 (gI {R with rep:=y}).toArray));generalize gI {R with rep:=y}=W2 at*;generalize bW y=cY at*;go_wp2_with fail;go_ret;have ey:=hy.out;clear hy;subst ey;exact⟨rfl,v,g,qh,hfin⟩
theorem JL (h:SW w b c t d p v g a m R P)(ha:a≤1000)(hq:R.ag.kind=12):
 Calls prog 190 #[.pointer (some ⟨b,0,none⟩),.pointer (some ⟨c,0,none⟩)] w (az w b c t d p v g a m .nilFunc {R with rep:=⟨0,0,0,P.now,0,0,P.f P.now,0,0⟩} P):=by
 have q0:=h.wk.at 0 (.int .i64 R.ag.kind) rfl;rw[hq]at q0;replace hq:=qae hq;have hc:=EM h ha;go_enter func190,ntmps190;go_wp2_with (go_at_call 212;go_must (refine hc.mono ?_);rintro e w8 ⟨rfl,v8,g8,gL,dU⟩);go_ret;exact⟨rfl,v8,g8,gL,dU⟩
theorem DT (h:SW w b c t d p v g a m R P)(hc:P.cl=true):
 Calls prog 142 #[.pointer (some ⟨b,0,none⟩),.pointer (some ⟨c,0,none⟩)] w (az w b c t d p v g a m .nilFunc {R with rep:=kv 12,ok:=false} P):=by
 have hcl:=jl h.cw;rw[hc]at hcl;have hf:=iF h.wk 12;go_enter func142,ntmps142;go_wp2_with (first|(go_at_call 42;go_must (refine hcl.mono ?_);rintro e w' ⟨rfl,rfl⟩)|(go_at_call 188;go_must (refine hf.mono ?_);rintro e w8 ⟨rfl,dU,gy⟩));go_ret;exact⟨rfl,v,g,h.work dU gy,WS.bD gy⟩
theorem JM (h:SW w b c t d p v g a m R P)(hc:P.cl=false)(hq:¬(1≤R.ag.kind∧R.ag.kind≤13)):
 Calls prog 142 #[.pointer (some ⟨b,0,none⟩),.pointer (some ⟨c,0,none⟩)] w (az w b c t d p v g a m .nilFunc {R with rep:=kv 4,ok:=false} P):=by
 have hcl:=jl h.cw;rw[hc]at hcl;have hf:=iF h.wk 4;have q0:=h.wk.at 0 (.int .i64 R.ag.kind) rfl;have his:=Cz R.ag.kind w;rw[show(decide (1≤R.ag.kind)&&decide (R.ag.kind≤13))=false by rw[Bool.and_eq_false_iff,decide_eq_false_iff_not,decide_eq_false_iff_not];omega]at his;generalize R.ag.kind=kk at*;replace hq:=qae hq;go_enter func142,ntmps142;go_wp2_with (first|(go_at_call 42;go_must (refine hcl.mono ?_);rintro e w' ⟨rfl,rfl⟩)|(go_at_call 99;go_must (refine his.mono ?_);rintro e w' ⟨rfl,rfl⟩)|(go_at_call 188;go_must (refine hf.mono ?_);rintro e w8 ⟨rfl,dU,gy⟩));go_ret;exact⟨rfl,v,g,h.work dU gy,WS.bD gy⟩
theorem JN (h:SW w b c t d p v g a m R P)(hc:P.cl=false)(hq:1≤R.ag.kind∧R.ag.kind≤13)(hr:jJ R.ag.kind=true){L:Value}{a':Nat}{m':Int}{R':Wk}{P':Pg}
 (hn:Calls prog 190 #[.pointer (some ⟨b,0,none⟩),.pointer (some ⟨c,0,none⟩)] w (az w b c t d p v g a' m' L R' P')):
 Calls prog 142 #[.pointer (some ⟨b,0,none⟩),.pointer (some ⟨c,0,none⟩)] w (az w b c t d p v g a' m' L R' P'):=by
 have hcl:=jl h.cw;rw[hc]at hcl;have q0:=h.wk.at 0 (.int .i64 R.ag.kind) rfl;have his:=Cz R.ag.kind w;rw[show(decide (1≤R.ag.kind)&&decide (R.ag.kind≤13))=true by rw[qag hq.1,qag hq.2];rfl]at his;have hre:=EG R.ag.kind w;rw[hr]at hre;generalize R.ag.kind=kk at*;replace hq:=qae hq;replace hr:=qae hr;go_enter func142,ntmps142;go_wp2_with (first|(go_at_call 42;go_must (refine hcl.mono ?_);rintro e w' ⟨rfl,rfl⟩)|(go_at_call 99;go_must (refine his.mono ?_);rintro e w' ⟨rfl,rfl⟩)|(go_at_call 189;go_must (refine hre.mono ?_);rintro e w' ⟨rfl,rfl⟩)|(go_at_call 190;go_must (refine hn.mono ?_);rintro e w8 ⟨rfl,v8,g8,gL,dU⟩));go_ret;exact⟨rfl,v8,g8,gL,dU⟩
theorem fV (h:SW w b c t d p v g a m R P)(hc:P.cl=false)(hq:1≤R.ag.kind∧R.ag.kind≤13)(hr:jJ R.ag.kind=false){L:Value}{a':Nat}{m':Int}{R':Wk}{P':Pg}
 (hn:Calls prog 191 #[.pointer (some ⟨b,0,none⟩),.pointer (some ⟨c,0,none⟩)] w (az w b c t d p v g a' m' L R' P')):
 Calls prog 142 #[.pointer (some ⟨b,0,none⟩),.pointer (some ⟨c,0,none⟩)] w (az w b c t d p v g a' m' L R' P'):=by
 have hcl:=jl h.cw;rw[hc]at hcl;have q0:=h.wk.at 0 (.int .i64 R.ag.kind) rfl;have his:=Cz R.ag.kind w;rw[show(decide (1≤R.ag.kind)&&decide (R.ag.kind≤13))=true by rw[qag hq.1,qag hq.2];rfl]at his;have hre:=EG R.ag.kind w;rw[hr]at hre;generalize R.ag.kind=kk at*;replace hq:=qae hq;replace hr:=qae hr;go_enter func142,ntmps142;go_wp2_with (first|(go_at_call 42;go_must (refine hcl.mono ?_);rintro e w' ⟨rfl,rfl⟩)|(go_at_call 99;go_must (refine his.mono ?_);rintro e w' ⟨rfl,rfl⟩)|(go_at_call 189;go_must (refine hre.mono ?_);rintro e w' ⟨rfl,rfl⟩)|(go_at_call 191;go_must (refine hn.mono ?_);rintro e w8 ⟨rfl,v8,g8,gL,dU⟩));go_ret;exact⟨rfl,v8,g8,gL,dU⟩
theorem Py (h:SW w b c t d p v g a m R P)(hq:R.ag.kind=1){L:Value}{a':Nat}{m':Int}{R':Wk}{P':Pg}
 (hn:Calls prog 213 #[.pointer (some ⟨b,0,none⟩),.pointer (some ⟨c,0,none⟩)] w (az w b c t d p v g a' m' L R' P')):
 Calls prog 191 #[.pointer (some ⟨b,0,none⟩),.pointer (some ⟨c,0,none⟩)] w (az w b c t d p v g a' m' L R' P'):=by
 have q0:=h.wk.at 0 (.int .i64 R.ag.kind) rfl;rw[hq]at q0;replace hq:=qae hq;go_enter func191,ntmps191;go_wp2_with (go_at_call 213;go_must (refine hn.mono ?_);rintro e w8 ⟨rfl,v8,g8,gL,dU⟩);go_ret;exact⟨rfl,v8,g8,gL,dU⟩
theorem Pz (h:SW w b c t d p v g a m R P)(hq:R.ag.kind=2){L:Value}{a':Nat}{m':Int}{R':Wk}{P':Pg}
 (hn:Calls prog 214 #[.pointer (some ⟨b,0,none⟩),.pointer (some ⟨c,0,none⟩),.int .i64 5] w (az w b c t d p v g a' m' L R' P')):
 Calls prog 191 #[.pointer (some ⟨b,0,none⟩),.pointer (some ⟨c,0,none⟩)] w (az w b c t d p v g a' m' L R' P'):=by
 have q0:=h.wk.at 0 (.int .i64 R.ag.kind) rfl;rw[hq]at q0;replace hq:=qae hq;go_enter func191,ntmps191;go_wp2_with (go_at_call 214;go_must (refine hn.mono ?_);rintro e w8 ⟨rfl,v8,g8,gL,dU⟩);go_ret;exact⟨rfl,v8,g8,gL,dU⟩
theorem PD (h:SW w b c t d p v g a m R P)(hq:R.ag.kind=5){L:Value}{a':Nat}{m':Int}{R':Wk}{P':Pg}
 (hn:Calls prog 214 #[.pointer (some ⟨b,0,none⟩),.pointer (some ⟨c,0,none⟩),.int .i64 4] w (az w b c t d p v g a' m' L R' P')):
 Calls prog 191 #[.pointer (some ⟨b,0,none⟩),.pointer (some ⟨c,0,none⟩)] w (az w b c t d p v g a' m' L R' P'):=by
 have q0:=h.wk.at 0 (.int .i64 R.ag.kind) rfl;rw[hq]at q0;replace hq:=qae hq;go_enter func191,ntmps191;go_wp2_with (go_at_call 214;go_must (refine hn.mono ?_);rintro e w8 ⟨rfl,v8,g8,gL,dU⟩);go_ret;exact⟨rfl,v8,g8,gL,dU⟩
theorem PE (h:SW w b c t d p v g a m R P)(hq:R.ag.kind=3){L:Value}{a':Nat}{m':Int}{R':Wk}{P':Pg}
 (hn:Calls prog 215 #[.pointer (some ⟨b,0,none⟩),.pointer (some ⟨c,0,none⟩)] w (az w b c t d p v g a' m' L R' P')):
 Calls prog 191 #[.pointer (some ⟨b,0,none⟩),.pointer (some ⟨c,0,none⟩)] w (az w b c t d p v g a' m' L R' P'):=by
 have q0:=h.wk.at 0 (.int .i64 R.ag.kind) rfl;rw[hq]at q0;replace hq:=qae hq;go_enter func191,ntmps191;go_wp2_with (go_at_call 215;go_must (refine hn.mono ?_);rintro e w8 ⟨rfl,v8,g8,gL,dU⟩);go_ret;exact⟨rfl,v8,g8,gL,dU⟩
theorem PG (h:SW w b c t d p v g a m R P)(hq:R.ag.kind=4){L:Value}{a':Nat}{m':Int}{R':Wk}{P':Pg}
 (hn:Calls prog 216 #[.pointer (some ⟨b,0,none⟩),.pointer (some ⟨c,0,none⟩)] w (az w b c t d p v g a' m' L R' P')):
 Calls prog 191 #[.pointer (some ⟨b,0,none⟩),.pointer (some ⟨c,0,none⟩)] w (az w b c t d p v g a' m' L R' P'):=by
 have q0:=h.wk.at 0 (.int .i64 R.ag.kind) rfl;rw[hq]at q0;replace hq:=qae hq;go_enter func191,ntmps191;go_wp2_with (go_at_call 216;go_must (refine hn.mono ?_);rintro e w8 ⟨rfl,v8,g8,gL,dU⟩);go_ret;exact⟨rfl,v8,g8,gL,dU⟩
theorem PH (h:SW w b c t d p v g a m R P)(hq:R.ag.kind=7){L:Value}{a':Nat}{m':Int}{R':Wk}{P':Pg}
 (hn:Calls prog 217 #[.pointer (some ⟨b,0,none⟩),.pointer (some ⟨c,0,none⟩)] w (az w b c t d p v g a' m' L R' P')):
 Calls prog 191 #[.pointer (some ⟨b,0,none⟩),.pointer (some ⟨c,0,none⟩)] w (az w b c t d p v g a' m' L R' P'):=by
 have q0:=h.wk.at 0 (.int .i64 R.ag.kind) rfl;rw[hq]at q0;replace hq:=qae hq;go_enter func191,ntmps191;go_wp2_with (go_at_call 217;go_must (refine hn.mono ?_);rintro e w8 ⟨rfl,v8,g8,gL,dU⟩);go_ret;exact⟨rfl,v8,g8,gL,dU⟩
theorem PI (h:SW w b c t d p v g a m R P)(hq:R.ag.kind=8){L:Value}{a':Nat}{m':Int}{R':Wk}{P':Pg}
 (hn:Calls prog 218 #[.pointer (some ⟨b,0,none⟩),.pointer (some ⟨c,0,none⟩)] w (az w b c t d p v g a' m' L R' P')):
 Calls prog 191 #[.pointer (some ⟨b,0,none⟩),.pointer (some ⟨c,0,none⟩)] w (az w b c t d p v g a' m' L R' P'):=by
 have q0:=h.wk.at 0 (.int .i64 R.ag.kind) rfl;rw[hq]at q0;replace hq:=qae hq;go_enter func191,ntmps191;go_wp2_with (go_at_call 218;go_must (refine hn.mono ?_);rintro e w8 ⟨rfl,v8,g8,gL,dU⟩);go_ret;exact⟨rfl,v8,g8,gL,dU⟩
theorem PL (h:SW w b c t d p v g a m R P)(hq:R.ag.kind=9){L:Value}{a':Nat}{m':Int}{R':Wk}{P':Pg}
 (hn:Calls prog 219 #[.pointer (some ⟨b,0,none⟩),.pointer (some ⟨c,0,none⟩)] w (az w b c t d p v g a' m' L R' P')):
 Calls prog 191 #[.pointer (some ⟨b,0,none⟩),.pointer (some ⟨c,0,none⟩)] w (az w b c t d p v g a' m' L R' P'):=by
 have q0:=h.wk.at 0 (.int .i64 R.ag.kind) rfl;rw[hq]at q0;replace hq:=qae hq;go_enter func191,ntmps191;go_wp2_with (go_at_call 219;go_must (refine hn.mono ?_);rintro e w8 ⟨rfl,v8,g8,gL,dU⟩);go_ret;exact⟨rfl,v8,g8,gL,dU⟩
theorem Mt (h:SW w b c t d p v g a m R P)(hq:R.ag.kind=13):
 Calls prog 191 #[.pointer (some ⟨b,0,none⟩),.pointer (some ⟨c,0,none⟩)] w (az w b c t d p v g a m .nilFunc R {P with cl:=true}):=by
 have q0:=h.wk.at 0 (.int .i64 R.ag.kind) rfl;rw[hq]at q0;replace hq:=qae hq;have c4:=h.cw.c4;have f4:=h.cw.fz 4;obtain⟨hC,hS⟩:=h.cw.close;have hS2:=h.core hC hS;have hW2:=(WS.dD hS:WS w (w.setCell ⟨c,4,none⟩ (.bool true)) b c t d p v g v g);go_enter func191,ntmps191;go_wp2_with fail;go_ret;exact⟨rfl,v,g,hS2,hW2⟩
end
theorem PM (n:Nat):dh (eQ n)=List.replicate n 1:=by
 refine pG (by rw[bC];simp[eQ]) fun i hi=>?_;have hin:i<n:=by rw[bC]at hi;simpa[eQ]using hi
 rw[dm,fe (by simpa[eQ]using hin)];have h1:¬0≤holderL (eQ n).L i:=by unfold eQ holderL;simp
 rw[qai h1];simp[eQ,List.getD_eq_getElem?_getD,hin]
theorem Mv (n:Nat)(t:Int):ax (eQ n) t 0=n:=by
 unfold ax aM bT;have h1:(List.range (eQ n).dr.length).countP (bP (eQ n) t)=n:=by
  have e:(eQ n).dr.length=n:=by simp[eQ]
  rw[e];have:(List.range n).countP (bP (eQ n) t)=(List.range n).length:=by
   rw[List.countP_eq_length];intro k hk;have hk:=List.mem_range.1 hk;unfold bP eQ holderL;simp[List.getD_eq_getElem?_getD,hk]
  rw[this,List.length_range]
 rw[h1];simp[eQ]
structure Yc (w0 w : World) (c t d p : Nat) (v : Value) (g a : Nat) (m : Int) (P : Pg) : Prop where
 cw:CW w c t d p v g a m P
 lo:∀k,dY c t d p v g k→w0.heap.size≤k
section
variable {w : World}
theorem PN (n:Int)(w:World)(h:n<1∨64<n):Calls prog 15 #[.int .i64 n] w fun e w'=>e=.returned (.tuple #[.pointer none,.int .i64 1])∧w=w':=by
 have hn:=IK n w h;go_enter func15,ntmps15;go_wp2_with (go_at_call 61;go_must (refine hn.mono ?_);rintro e w' ⟨rfl,rfl⟩);go_ret2;exact⟨rfl,rfl⟩
theorem Sv (n:Nat)(w:World)(h1:1≤n)(h2:n≤64):Calls prog 15 #[.int .i64 n] w fun e w'=>∃c t d p v g,e=.returned (.tuple #[.pointer (some ⟨c,0,none⟩),.int .i64 0])∧Yc w w' c t d p v g 1 0 (ai (eQ n))∧Below w.heap.size w w':=by
 have hn:=IM n w h1 h2;go_enter func15,ntmps15;go_wp2_with fail;go_at_call 61;refine hn.mono ?_;clear hn;rintro e w1 ⟨rfl,hT1,hb1⟩;have hs1:w.heap.size<w1.heap.size:=au hT1;have hp:=I1 (n:Int) w1 (by omega);go_wp2_with fail;go_at_call 62;refine hp.mono ?_;clear hp;rintro e w2 ⟨p,g,rfl,hP2,lp,lg,hb2⟩;have Yd:TW w2 w.heap.size (List.replicate n 1):=hT1.kept hb2;have hj:=KZ w2;go_wp2_with fail;go_at_call 63;refine hj.mono ?_;clear hj;rintro e w3 ⟨rfl,hw3⟩;have hb3:Below w2.heap.size w2 w3:=by rw[←hw3];exact qac.alloc (qaf _) _
 have hJ3:TV w3 w2.heap.size (.slice none 0 0) []:=by rw[←hw3];exact BV.Xj w2
 have vE:=Yd.kept hb3;have hP3:=hP2.kept hb3;have hs2:=hb2.size;replace hw3:=qae hw3;obtain⟨w4,hw4⟩:=qaa (w3.alloc (.cells #[.pointer (some ⟨w2.heap.size,0,none⟩),.pointer (some ⟨w.heap.size,0,none⟩),.pointer (some ⟨p,0,none⟩),.bool true,.bool false] 48));have hb4:Below w3.heap.size w3 w4:=by rw[hw4];exact qac.alloc (qaf _) _
 have hc4:w4.heap[w3.heap.size]? =some (.cells #[.pointer (some ⟨w2.heap.size,0,none⟩),.pointer (some ⟨w.heap.size,0,none⟩),.pointer (some ⟨p,0,none⟩),.bool true,.bool false] 48 (0,0)):=by rw[hw4];exact heap_alloc_new w3 _
 have hs3:=hb3.size;have hCW:Hid (CW w4 w3.heap.size w2.heap.size w.heap.size p (.slice none 0 0) g 1 0 (ai (eQ n))):=by
  refine⟨hc4,hJ3.kept hb4,by show TW w4 w.heap.size (dh (eQ n));rw[PM];exact vE.kept hb4,[(0,(n:Int))],0,hP3.kept hb4,?_,qaf _,Int.le_refl _,Int.le_refl _⟩;exact(Rh n).congr fun t _=>(Mv n t).symm
 have hlo:Hid (∀k,dY w3.heap.size w2.heap.size w.heap.size p (.slice none 0 0) g k→w.heap.size≤k):=by
  rintro k (rfl|rfl|rfl|rfl|hv|rfl)
  ·omega
  ·omega
  ·exact qaf _
  ·omega
  ·cases hv
  ·omega
 have hbw:=hb1.trans ((hb2.trans ((hb3.trans (hb4.mono hb3.size)).mono hb2.size)).mono hb1.size);clear hc4 hJ3 vE hP3 hT1 Yd hP2;go_wp2_with fail;rw[←hw4];go_ret2;exact⟨w3.heap.size,w2.heap.size,w.heap.size,p,.slice none 0 0,g,rfl,⟨hCW.out,hlo.out⟩,hbw⟩
def vO (r:Rq):Wk:=⟨lU r,0,0,fF 142,iq,0,0,nW,false⟩
def Af (i t:Int):Wk:=⟨VX,i,t,fF 144,iq,0,0,nW,false⟩
theorem DU (i t:Int)(w:World):Calls prog 66 #[.agg #[.int .i64 i,.int .i64 t]] w fun e w'=>∃b,e=.returned (.pointer (some ⟨b,0,none⟩))∧cu w' b (Af i t)∧w.heap.size≤b∧Below w.heap.size w w':=by
 obtain⟨w2,hw2⟩:=qaa ((w.alloc (.cells #[.int .i64 i,.int .i64 t] 35)).alloc (.cells (gI (Af i t)).toArray 190));have hb2:Below w.heap.size w w2:=by rw[hw2];exact(qac.alloc (qaf _) _).alloc (by simp) _
 have hW2:cu w2 (w.heap.size+1) (Af i t):=by show _=_;rw[hw2];exact heap_alloc2_new w _ _
 have hl:(gI (Af i t)).toArray= #[.int .i64 0,.int .i64 0,.int .i64 0,.int .i64 0,.int .i64 0,.int .i64 0,.bool false,.int .i64 0,.int .i64 0,.int .i64 i,.int .i64 t,.func (.func 144) #[] #[],.int .i64 0,.int .i64 0,.int .i64 0,.int .i64 0,.int .i64 0,.int .i64 0,.int .i64 0,.int .i64 0,.int .i64 0,.int .u64 0,.int .i64 0,.int .i64 0,.int .i64 0,.int .i64 0,.int .i64 0,.int .i64 0,.int .i64 0,.int .i64 0,.int .i64 0,.int .i64 0,.int .i64 0,.bool false]:=rfl;rw[hl]at hw2;replace hl:=qae hl;go_enter func66,ntmps66;go_wp2_with fail;rw[←hw2];go_ret;exact⟨w.heap.size+1,rfl,hW2,Nat.le_succ _,hb2⟩
theorem JO (r:Rq)(w:World):Calls prog 64 #[.agg (encR r).toArray] w fun e w'=>∃b,e=.returned (.pointer (some ⟨b,0,none⟩))∧cu w' b (vO r)∧w.heap.size≤b∧Below w.heap.size w w':=by
 have zR:=lC;obtain⟨k9,bV⟩:∃k,k=9:=⟨_,rfl⟩;rw[←bV]at zR;have hk0:¬k9=0:=by omega
 have lR:=iR r;rw[←bV]at lR;replace bV:=qae bV;obtain⟨wA,aK⟩:=qaa (w.alloc (.cells (encR r).toArray 33));have bS:Below w.heap.size w wA:=by rw[aK];exact qac.alloc (qaf _) _
 have qQ:wA.heap[w.heap.size]? =some (.cells (encR r).toArray 33 (0,0)):=by rw[aK];exact heap_alloc_new w _
 have Ye:=fT qQ lR;have hcl:=O4 r wA;rw[aK]at Ye hcl;generalize hcr:encR r=cR at*;replace hcr:=qae hcr;go_enter func64,ntmps64;go_wp2_with fail;go_at_call 141;refine hcl.mono ?_;clear hcl Ye;rw[←aK];rintro e w1 ⟨rfl,hb1⟩;replace aK:=qae aK;obtain⟨y1,y2,y3,y4,y5,y6,y7,y8,y9,hy⟩:∃y1 y2 y3 y4 y5 y6 y7 y8 y9,lU r=⟨y1,y2,y3,y4,y5,y6,y7,y8,y9⟩:=⟨_,_,_,_,_,_,_,_,_,rfl⟩;obtain⟨w2,hw2⟩:=qaa (w1.alloc (.cells (gI (vO r)).toArray 190));have hb2:Below w1.heap.size w1 w2:=by rw[hw2];exact qac.alloc (qaf _) _
 have hW2:cu w2 w1.heap.size (vO r):=by show _=_;rw[hw2];exact heap_alloc_new w1 _
 have hl:(gI (vO r)).toArray= #[.int .i64 y1,.int .i64 y2,.int .i64 y3,.int .i64 y4,.int .i64 y5,.int .i64 y6,.bool y7,.int .i64 y8,.int .i64 y9,.int .i64 0,.int .i64 0,.func (.func 142) #[] #[],.int .i64 0,.int .i64 0,.int .i64 0,.int .i64 0,.int .i64 0,.int .i64 0,.int .i64 0,.int .i64 0,.int .i64 0,.int .u64 0,.int .i64 0,.int .i64 0,.int .i64 0,.int .i64 0,.int .i64 0,.int .i64 0,.int .i64 0,.int .i64 0,.int .i64 0,.int .i64 0,.int .i64 0,.bool false]:=by unfold vO;rw[hy];rfl
 have hbw:=bS.trans ((hb1.trans (hb2.mono hb1.size)).mono bS.size);have hlo:w.heap.size≤w1.heap.size:=Nat.le_trans bS.size hb1.size;rw[hl]at hw2;rw[hy,show(encR ⟨y1,y2,y3,y4,y5,y6,y7,y8,y9⟩).toArray= #[.int .i64 y1,.int .i64 y2,.int .i64 y3,.int .i64 y4,.int .i64 y5,.int .i64 y6,.bool y7,.int .i64 y8,.int .i64 y9]from rfl];replace hl:=qae hl;replace hy:=qae hy;obtain rfl:=bV.out;go_wp2_with fail;rw[←hw2];go_ret;exact⟨w1.heap.size,rfl,hW2,hlo,hbw⟩
end
def Yf (w w':World):Prop:=∀(k:Nat) (cs:Array Value) (T:TypeId) (fz:Nat×Nat),T≠190→(T≠48∧T≠134∧T≠138∧T≠125∧T≠55∧T≠58)→w.heap[k]? =some (.cells cs T fz)→w'.heap[k]? =some (.cells cs T fz)
theorem SW.far {w w':World}{b c t d p g a:Nat}{v v':Value}{g':Nat}{m:Int}{R:Wk}{P:Pg}(h:SW w b c t d p v g a m R P)(hs:WS w w' b c t d p v g v' g'):Yf w w':=by
 intro k cs T fz h1 h2 hk;refine(hs.heap (au hk) ?_).trans hk;rintro(rfl|hf)
 ·have e:=h.wk;unfold cu at e;rw[hk]at e;exact h1 (Obj.cells.inj (Option.some.inj e)).2.1
 ·exact h.cw.other hk h2 hf
def dZ (k a:Nat)(m:Int)(R:Wk)(P:Pg)(L:Value)(a':Nat)(m':Int)(R':Wk)(P':Pg):Prop:=
 ∀(w:World) (b c t d p:Nat) (v:Value) (g:Nat),SW w b c t d p v g a m R P→Calls prog k #[.pointer (some ⟨b,0,none⟩),.pointer (some ⟨c,0,none⟩)] w (az w b c t d p v g a' m' L R' P')
def One (dn:Bool)(a:Nat)(m:Int)(R:Wk)(P:Pg)(a':Nat)(m':Int)(R':Wk)(P':Pg):Prop:=
 ∀(w:World) (b c t d p:Nat) (v:Value) (g:Nat),SW w b c t d p v g a m R P→Calls prog 143 #[.pointer (some ⟨b,0,none⟩),.pointer (some ⟨c,0,none⟩)] w fun e w'=>e=.returned (.bool dn)∧∃v' g',SW w' b c t d p v' g' a' m' R' P'∧WS w w' b c t d p v g v' g'
def Run :Nat→Nat→Int→Wk→Pg→(Nat→Int→Wk→Pg→Prop)→Prop
 |0,_,_,_,_,_=>False
 |N+1,a,m,R,P,Q=>(∃k,R.left=fF k)∧∃a' m' R' P',(N=0∧One true a m R P a' m' R' P'∧Q a' m' R' P')∨(One false a m R P a' m' R' P'∧Run N a' m' R' P' Q)
def fE (N a:Nat)(m:Int)(R:Wk)(P:Pg)(Q:Nat→Int→Wk→Pg→Prop):Prop:=∃K,K≤N∧Run K a m R P Q
theorem fE.more {N N' a:Nat}{m:Int}{R:Wk}{P:Pg}{Q:Nat→Int→Wk→Pg→Prop}(h:fE N a m R P Q)(hN:N≤N'):fE N' a m R P Q:=by
 obtain⟨K,h1,h2⟩:=h;exact⟨K,Nat.le_trans h1 hN,h2⟩
def Fin (mx:Int)(M:Md)(y:Ry)(ok:Bool)(a:Nat)(m:Int)(R:Wk)(P:Pg):Prop:=P=ai M∧a≤800∧m≤mx∧R.left=.nilFunc∧R.rep=y∧R.ok=ok
section
variable {a N : Nat} {m mx : Int} {P : Pg} {M M' : Md} {R : Wk} {Q : Nat → Int → Wk → Pg → Prop}
theorem wU {k k' a':Nat}{m':Int}{R':Wk}{P':Pg}(hl:R.left=fF k)(hl':R'.left=fF k)
 (hk:∀args w,Sem.run prog (callFunc k args) w=.ok (.enter k args) w)
 (hp:dZ k a m R P (fF k') a' m' R' P')
 (hn:fE N a' m' {R' with left:=fF k'} P' Q):fE (N+1) a m R P Q:=by
 obtain⟨K,h1,h2⟩:=hn;refine⟨K+1,by omega,⟨k,hl⟩,a',m',_,P',.inr ⟨fun w b c t d p v g h=>?_,h2⟩⟩;refine(Je h hl hl' (.inr ⟨⟨k',rfl⟩,rfl⟩) hk (hp w b c t d p v g h)).mono ?_;rintro e w' ⟨rfl,v',g',h1,h2⟩;exact⟨rfl,v',g',h1,h2⟩
theorem wV {k a':Nat}{m':Int}{R':Wk}(hl:R.left=fF k)(hl':R'.left=fF k)
 (hk:∀args w,Sem.run prog (callFunc k args) w=.ok (.enter k args) w)
 (hp:dZ k a m R P .nilFunc a' m' R' (ai M'))
 (ha:a'≤800) (hm:m'≤mx):fE (N+1) a m R P (Fin mx M' R'.rep R'.ok):=by
 refine⟨1,by omega,⟨k,hl⟩,a',m',{R' with left:=.nilFunc},ai M',.inl ⟨rfl,fun w b c t d p v g h=>?_,rfl,ha,hm,rfl,rfl,rfl⟩⟩;refine(Je h hl hl' (.inl ⟨rfl,rfl⟩) hk (hp w b c t d p v g h)).mono ?_;rintro e w' ⟨rfl,v',g',h1,h2⟩;exact⟨rfl,v',g',h1,h2⟩
theorem rZ :∀args w,Sem.run prog (callFunc 233 args) w=.ok (.enter 233 args) w:=fun _ _=>rfl
theorem bA :∀args w,Sem.run prog (callFunc 142 args) w=.ok (.enter 142 args) w:=fun _ _=>rfl
theorem zk :∀args w,Sem.run prog (callFunc 144 args) w=.ok (.enter 144 args) w:=fun _ _=>rfl
theorem ES :∀args w,Sem.run prog (callFunc 192 args) w=.ok (.enter 192 args) w:=fun _ _=>rfl
theorem PO :∀args w,Sem.run prog (callFunc 220 args) w=.ok (.enter 220 args) w:=fun _ _=>rfl
theorem CO :∀args w,Sem.run prog (callFunc 243 args) w=.ok (.enter 243 args) w:=fun _ _=>rfl
theorem JP :∀args w,Sem.run prog (callFunc 234 args) w=.ok (.enter 234 args) w:=fun _ _=>rfl
theorem wW :∀args w,Sem.run prog (callFunc 236 args) w=.ok (.enter 236 args) w:=fun _ _=>rfl
theorem ET :∀args w,Sem.run prog (callFunc 238 args) w=.ok (.enter 238 args) w:=fun _ _=>rfl
theorem Ag :∀args w,Sem.run prog (callFunc 242 args) w=.ok (.enter 242 args) w:=fun _ _=>rfl
theorem uy (hl:R.left=fF 233)(hid:R.aD.id≠0)(h1:1≤M.dr.length)(hll:M.L.length≤900)(hmx:mx≤1000000)(q:Nat):
 ∀{L:List Jb} {a:Nat} {m:Int},L.length=M.L.length→hits R.aD L≤q→aG {M with L:=L}→fB {M with L:=L} R.aD=M'→a+2*hits R.aD L≤800→m+hits R.aD L≤mx→
  fE (q+1) a m R (ai {M with L:=L}) (Fin mx M' R.rep R.ok):=by
 induction q with
 |zero=>
  intro L a m hL hq hI hM ha hm;refine wV (k:=233) (M':=M') (a':=a) (m':=m) hl hl rZ (fun w b c t d p v g hS=>(rV hS hI h1 (by show L.length≤900;omega) (by omega) (by omega) hid).mono fun e w' hp=>?_) (by omega) (by omega);rcases hp with⟨ho,hp⟩|⟨i,ho,_⟩
  ·have:=rE (M:={M with L:=L}) ho;rw[this]at hM;rw[←hM];exact hp
  ·have:=(jC (L:=L) ho).2.2.2.2;omega
 |succ q ih=>
  intro L a m hL hq hI hM ha hm;cases ho:dV R.aD L with
  |none=>
   refine wV (k:=233) (M':=M') (a':=a) (m':=m) hl hl rZ (fun w b c t d p v g hS=>(rV hS hI h1 (by show L.length≤900;omega) (by omega) (by omega) hid).mono fun e w' hp=>?_) (by omega) (by omega);rcases hp with⟨_,hp⟩|⟨i,h2,_⟩
   ·have:=rE (M:={M with L:=L}) ho;rw[this]at hM;rw[←hM];exact hp
   ·have h3:dV R.aD L=some i:=h2;rw[ho]at h3;cases h3
  |some i=>
   obtain⟨hi,_,_,_,hh⟩:=jC ho;refine wU (k:=233) (k':=233) (a':=a+2) (m':=m+1) (R':=R) (P':=ai {M with L:=L.set i ((L.getD i default).aH (-1))}) hl hl rZ (fun w b c t d p v g hS=>(rV hS hI h1 (by show L.length≤900;omega) (by omega) (by omega) hid).mono fun e w' hp=>?_) ?_
   ·rcases hp with⟨h2,_⟩|⟨i2,h2,hp⟩
    ·have h3:dV R.aD L=none:=h2;rw[ho]at h3;cases h3
    ·have h3:dV R.aD L=some i2:=h2;rw[ho]at h3;obtain rfl:=Option.some.inj h3;exact hp
   ·rw[←hl];exact ih (L:=L.set i ((L.getD i default).aH (-1))) (by rw[List.length_set];exact hL) (by omega) (hI.xy hi) ((wo (M:={M with L:=L}) ho).trans hM) (by omega) (by omega)
end
def lV (x:Rl):Ry:=⟨x.1,x.2.1,x.2.2.1,x.2.2.2.1,x.2.2.2.2.1,x.2.2.2.2.2.1,x.2.2.2.2.2.2.1,x.2.2.2.2.2.2.2.1,x.2.2.2.2.2.2.2.2⟩
section
variable {M : Md}
theorem JQ (M:Md):(uH M).length≤1+2*M.L.length:=by
 have key:∀(ts:List Int) (acc:List (Int×Int)),(ts.foldl (stepOn M) acc).length≤acc.length+ts.length:=by
  intro ts
  induction ts with
  |nil=>intro acc;simp
  |cons t ts ih=>
   intro acc;have h1:=ih (stepOn M acc t);have h2:(stepOn M acc t).length≤acc.length+1:=by
    unfold stepOn;split
    ·split
     ·omega
     ·simp
    ·simp
   show(ts.foldl (stepOn M) (stepOn M acc t)).length≤acc.length+(ts.length+1);omega
 have h3:∀(n:Nat) (last:Int),(timesGo M.L n last).length≤n:=by
  intro n
  induction n with
  |zero=>intro last;simp[timesGo]
  |succ n ih=>
   intro last;unfold timesGo;split
   ·simp
   ·simp only[List.length_cons];have:=ih (ko M.L last);omega
 have h1:=key (mV M) [];have h4:=h3 (2*M.L.length) M.now;unfold uH;unfold mV at h1⊢;simp only[List.length_cons,List.length_nil]at h1;omega
theorem CW.Sw {w:World}{c t d p g a:Nat}{v:Value}{m:Int}(h:CW w c t d p v g a m (ai M))(hI:aG M):CW w c t d p v g (1+2*M.L.length) m (ai M):=by
 obtain⟨S,aF,hp,hC,hl,h0⟩:=h.mh;have e:S=uH M:=hC.uniq (KA hI) fun _ _=>rfl;exact⟨h.cell,h.eU,h.nodes,S,aF,hp,hC,by rw[e];exact JQ M,h0⟩
theorem Mw (M:Md)(hn:M.dr.length≤64)(r:Rq)(hk:r.kind=1):(mZ M.dr.length r=9∧iy M (toW r)=9)∨(mZ M.dr.length r=0∧iX M.L r=iy M (toW r)):=by
 have hlive:Ff M=jG M.L:=rfl;have s1:(r.user<0∨255<r.user∨r.prio<0∨1000<r.prio)→iy M (toW r)=1:=fun h=>qaj h;have s2:¬(r.user<0∨255<r.user∨r.prio<0∨1000<r.prio)→(r.width<1∨(M.dr.length:Int)<r.width)→iy M (toW r)=9:=fun h h'=>(qai h).trans (qaj h');have s3:¬(r.user<0∨255<r.user∨r.prio<0∨1000<r.prio)→¬(r.width<1∨(M.dr.length:Int)<r.width)→(r.limit<1∨1048576<r.limit)→iy M (toW r)=10:=fun h h' h2=>(qai h).trans ((qai h').trans (qaj h2));have s4:¬(r.user<0∨255<r.user∨r.prio<0∨1000<r.prio)→¬(r.width<1∨(M.dr.length:Int)<r.width)→¬(r.limit<1∨1048576<r.limit)→(63<Ff M∨1023<M.L.length)→iy M (toW r)=6:=fun h h' h2 h3=>(qai h).trans ((qai h').trans ((qai h2).trans (qaj h3)));have s5:¬(r.user<0∨255<r.user∨r.prio<0∨1000<r.prio)→¬(r.width<1∨(M.dr.length:Int)<r.width)→¬(r.limit<1∨1048576<r.limit)→¬(63<Ff M∨1023<M.L.length)→iy M (toW r)=0:=fun h h' h2 h3=>(qai h).trans ((qai h').trans ((qai h2).trans (qai h3)));have b1:aS r≠0→iX M.L r=aS r:=fun h=>qaj h;have b2:aS r=0→(64≤jG M.L∨1024≤M.L.length)→iX M.L r=6:=fun h h'=>(qai (by omega)).trans (qaj h');have b3:aS r=0→¬(64≤jG M.L∨1024≤M.L.length)→iX M.L r=0:=fun h h'=>(qai (by omega)).trans (qai h');have x1:(r.kind=1∧(M.dr.length:Int)<r.width∧r.width≤64∧aS r≠1)→mZ M.dr.length r=9:=fun h=>qaj h;have x2:¬(r.kind=1∧(M.dr.length:Int)<r.width∧r.width≤64∧aS r≠1)→mZ M.dr.length r=0:=fun h=>qai h;by_cases h1:r.user<0∨255<r.user∨r.prio<0∨1000<r.prio
 ·have hR:aS r=1:=by unfold aS;(repeat' split)<;>omega
  exact .inr ⟨x2 (by omega),by rw[s1 h1,b1 (by omega),hR]⟩
 ·by_cases h2:r.width<1
  ·have hR:aS r=9:=by unfold aS;(repeat' split)<;>omega
   exact .inr ⟨x2 (by omega),by rw[s2 h1 (.inl h2),b1 (by omega),hR]⟩
  ·by_cases h3:(M.dr.length:Int)<r.width
   ·by_cases h4:r.width≤64
    ·have hR:aS r≠1:=by unfold aS;(repeat' split)<;>omega
     exact .inl ⟨x1 ⟨hk,h3,h4,hR⟩,s2 h1 (.inr h3)⟩
    ·have hR:aS r=9:=by unfold aS;(repeat' split)<;>omega
     exact .inr ⟨x2 (by omega),by rw[s2 h1 (.inr h3),b1 (by omega),hR]⟩
   ·by_cases h5:r.limit<1∨1048576<r.limit
    ·have hR:aS r=10:=by unfold aS;(repeat' split)<;>omega
     exact .inr ⟨x2 (by omega),by rw[s3 h1 (by omega) h5,b1 (by omega),hR]⟩
    ·have hR:aS r=0:=by unfold aS;(repeat' split)<;>omega
     refine .inr ⟨x2 (by omega),?_⟩;by_cases h6:63<jG M.L∨1023<M.L.length
     ·rw[s4 h1 (by omega) h5 h6,b2 hR (by omega)]
     ·rw[s5 h1 (by omega) h5 h6,b3 hR (by omega)]
end
section
variable {a N : Nat} {m mx : Int} {P : Pg} {M M' : Md} {R : Wk} {Q : Nat → Int → Wk → Pg → Prop}
theorem CP (j:Jb)(L:List Jb):hits j L≤L.length:=List.countP_le_length
theorem aY {k a':Nat}{m':Int}{R':Wk}{M1:Md}{y:Ry}{o:Bool}(hk:∀args w,Sem.run prog (callFunc k args) w=.ok (.enter k args) w)
 (hp:dZ k a m R P .nilFunc a' m' R' (ai M1))
 (hl:R.left=fF k) (hl':R'.left=R.left) (ha:a'≤800) (hm:m'≤mx) (hM:M1=M') (hy:R'.rep=y) (ho:R'.ok=o):fE (N+1) a m R P (Fin mx M' y o):=by
 subst hM hy ho;exact wV hl (hl'.trans hl) hk hp ha hm
theorem fE.ok {y:Ry}{o o':Bool}(h:fE N a m R P (Fin mx M' y o))(e:o=o'):fE N a m R P (Fin mx M' y o'):=e▸h
theorem GH (hl:R.left=fF 142)(hI:aG M)(hcl:M.cl=false)(h1:1≤M.dr.length)(hll:M.L.length≤190)(ha:a≤1+2*M.L.length)(hm:m+1000≤mx)(hmx:mx≤1000000)
 (hk:R.ag.kind=1) (ho:R.ok=false):fE 1000 a m R (ai M) (Fin mx (jL M (toW R.ag)).2 (lV (jL M (toW R.ag)).1) false):=by
 have sQ:=fu hI h1 (by omega);have hrd:jJ R.ag.kind=false:=by rw[hk];rfl
 have iO:∀{L:Value} {a':Nat} {m':Int} {R':Wk} {P':Pg},dZ 213 a m R (ai M) L a' m' R' P'→dZ 142 a m R (ai M) L a' m' R' P':=fun hn w b c t d p v g hS=>fV hS hcl (by rw[hk];decide) hrd (Py hS hk (hn w b c t d p v g hS));unfold jL;rcases Mw M hI.mb.nn R.ag hk with⟨e1,e2⟩|⟨e1,e2⟩
 ·rw[qaj (by rw[e2];decide),e2];exact aY (N:=999) bA (iO (fun _ _ _ _ _ _ _ _ hS=>DF hS sQ e1)) hl rfl (by omega) (by omega) rfl rfl rfl
 ·by_cases e3:iy M (toW R.ag)=0
  ·rw[qai (by omega)];rw[e3]at e2;cases hh:R.ag.held with
   |true=>
    rw[qaj (show(toW R.ag).held=true from hh)];exact aY (N:=999) bA (iO (fun _ _ _ _ _ _ _ _ hS=>CF hS sQ e1 e2 hh)) hl rfl (by omega) (by omega) rfl rfl ho
   |false=>
    rw[qai (show¬(toW R.ag).held=true by rw[show(toW R.ag).held=R.ag.held from rfl,hh];decide)];have hc:=e3;unfold iy at hc;have hst:(dC M (toW R.ag)).st=1:=by show(if R.ag.held then(2:Int)else 1)=1;rw[hh];rfl
    have hI1:aG {M with L:=M.L++[dC M (toW R.ag)]}:=by
     split at hc
     ·omega
     split at hc
     ·omega
     split at hc
     ·omega
     split at hc
     ·omega
     rename_i h2 h3 h4 h5
     have hn:=hI.mb.nn;exact hI.app (dC M (toW R.ag)) (hI.mb.app _ (by omega) (by show 0≤(toW R.ag).wid∧(toW R.ag).wid≤64;omega) (by show 0≤(toW R.ag).lim∧(toW R.ag).lim≤1048576;omega) (by show(-1:Int)≤-1∧(-1:Int)≤_;omega) (by show(-1:Int)≤-1∧(-1:Int)≤_;omega) (by show(0:Int)≤0∧(0:Int)≤_;omega)) rfl ⟨show 1≤(toW R.ag).wid by omega,show(toW R.ag).wid≤_ by omega,show 1≤(toW R.ag).lim by omega,by omega,by omega⟩ rfl (by omega)
    refine(wU (N:=901) (k:=142) (k':=233) (R':={R with rep:=iZ (dC M (toW R.ag)),aD:=dC M (toW R.ag)}) hl hl bA (iO (fun _ _ _ _ _ _ _ _ hS=>Jq hS sQ e1 e2 hh)) ?_).more (show 902≤1000 by decide);have hL:(M.L++[dC M (toW R.ag)]).length=M.L.length+1:=by simp
    have Yg:=CP (dC M (toW R.ag)) (M.L++[dC M (toW R.ag)]);have:=uy (M:={M with L:=M.L++[dC M (toW R.ag)]}) (M':=fB {M with L:=M.L++[dC M (toW R.ag)]} (dC M (toW R.ag))) (R:={({R with rep:=iZ (dC M (toW R.ag)),aD:=dC M (toW R.ag)}:Wk)with left:=fF 233}) (mx:=mx) rfl (by show(M.L.length:Int)+1≠0;omega) h1 (by show(M.L++[dC M (toW R.ag)]).length≤900;omega) hmx 900 (L:=M.L++[dC M (toW R.ag)]) rfl (by show hits (dC M (toW R.ag)) _≤900;omega) hI1 rfl (by show a+2*hits (dC M (toW R.ag)) _≤800;omega) (by show m+(hits (dC M (toW R.ag)) _:Nat)≤mx;omega);exact this.ok ho
  ·rw[qaj e3];exact aY (N:=999) bA (iO (fun _ _ _ _ _ _ _ _ hS=>submit_bad hS sQ e1 (iy M (toW R.ag)) e3 e2)) hl rfl (by omega) (by omega) rfl rfl rfl
end
structure Bg (a : Nat) (m mx : Int) (R : Wk) (M : Md) : Prop where
 left:R.left=fF 142
 inv:aG M
 calm:Calm M
 cl:M.cl=false
 one:1≤M.dr.length
 few:M.L.length≤190
 ha:a≤1+2*M.L.length
 hm:m+1000≤mx
 hmx:mx≤1000000
 ok:R.ok=false
section
variable {L : List Jb} {id : Int} {ok : Jb → Bool} {ch : Jb → Jb} {M : Md}
theorem xX (L:List Jb)(i:Nat):L[i]! =L.getD i default:=by rw[List.getElem!_eq_getElem?_getD,List.getD_eq_getElem?_getD]
theorem uz (h:¬(id<1∨(L.length:Int)<id)):bI L id=L.getD (id-1).toNat default:=by
 unfold bI;rw[qai (by omega),qai (by omega),xX]
theorem zl (h:id<1∨(L.length:Int)<id):bN L 0 id ok=7:=by
 unfold bN;rw[qai (by decide)];split
 ·rfl
 ·rw[qaj (by omega)]
theorem CQ (h:¬(id<1∨(L.length:Int)<id))(ho:ok (L.getD (id-1).toNat default)=false):bN L 0 id ok=8:=by
 unfold bN;rw[qai (by decide),qai (by omega),qai (by omega),xX,ho];rfl
theorem vo (h:¬(id<1∨(L.length:Int)<id))(ho:ok (L.getD (id-1).toNat default)=true):bN L 0 id ok=0:=by
 unfold bN;rw[qai (by decide),qai (by omega),qai (by omega),xX,ho];rfl
theorem pI {e0:Int}(h:bN L e0 id ok=0):cz L e0 id ok ch=L.set (id-1).toNat (ch (L.getD (id-1).toNat default)):=by
 unfold cz;rw[qaj h,xX]
theorem EU (h:id<1∨(M.L.length:Int)<id):getM M id=(default,false):=qaj h
theorem xY (h:¬(id<1∨(M.L.length:Int)<id)):getM M id=(M.L.getD (id-1).toNat default,true):=qai h
theorem zm {x:Jb}(h:¬(id<1∨(L.length:Int)<id)):bI (L.set (id-1).toNat x) id=x:=by
 rw[uz (by rw[List.length_set];exact h),gF,qaj ⟨rfl,by omega⟩]
theorem wY (r:Rw)(h:r.id<1∨(M.L.length:Int)<r.id):fZ M r=(fJ 7,M):=by
 unfold fZ;rw[EU h];exact qaj rfl
theorem PQ (r:Rw)(h:r.id<1∨(M.L.length:Int)<r.id):ma M r=(fJ 7,M):=by
 unfold ma;rw[EU h];exact qaj rfl
end
section
variable {a N : Nat} {m mx : Int} {P : Pg} {M M' : Md} {R : Wk} {Q : Nat → Int → Wk → Pg → Prop}
theorem Mx (hl:R.left=fF 142)(hc:M.cl=true)(ha:a≤800)(hm:m≤mx):
 fE 1000 a m R (ai M) (Fin mx M (lV (fJ 12)) false):=
 aY (N:=999) bA (fun _ _ _ _ _ _ _ _ hS=>DT hS hc) hl rfl ha hm rfl rfl rfl
theorem MC (h:Bg a m mx R M)(hq:¬(1≤R.ag.kind∧R.ag.kind≤13)):
 fE 1000 a m R (ai M) (Fin mx M (lV (fJ 4)) false):=
 aY (N:=999) bA (fun _ _ _ _ _ _ _ _ hS=>JM hS h.cl hq) h.left rfl (by have:=h.ha;have:=h.few;omega) (by have:=h.hm;omega) rfl rfl rfl
theorem fU {k k' a':Nat}{m':Int}{R':Wk}{P':Pg}(hk:∀args w,Sem.run prog (callFunc k args) w=.ok (.enter k args) w)
 (hp:dZ k a m R P (fF k') a' m' R' P')
 (hl:R.left=fF k) (hl':R'.left=R.left)
 (hn:fE N a' m' {R' with left:=fF k'} P' Q):fE (N+1) a m R P Q:=
 wU hl (hl'.trans hl) hk hp hn
theorem DV (h:Bg a m mx R M)(hk:R.ag.kind=4):
 fE 1000 a m R (ai M) (Fin mx (fZ M (toW R.ag)).2 (lV (fZ M (toW R.ag)).1) false):=by
 have hll:=h.few;have ha:=h.ha;have hm:=h.hm;have hrd:jJ R.ag.kind=false:=by rw[hk];rfl
 have iO:∀{L:Value} {a':Nat} {m':Int} {R':Wk} {P':Pg},dZ 216 a m R (ai M) L a' m' R' P'→dZ 142 a m R (ai M) L a' m' R' P':=fun hn w b c t d p v g hS=>fV hS h.cl (by rw[hk];decide) hrd (PG hS hk (hn w b c t d p v g hS));by_cases hid:R.ag.id<1∨(M.L.length:Int)<R.ag.id
 ·rw[wY (toW R.ag) hid];exact aY (N:=999) bA (iO (fun _ _ _ _ _ _ _ _ hS=>xU hS 7 (by decide) (zl hid))) h.left rfl (by omega) (by omega) rfl rfl rfl
 ·have hi:(R.ag.id-1).toNat<M.L.length:=by omega
  have hmem:=aZ hi;have eM:=xY (M:=M) hid;by_cases hs:(M.L.getD (R.ag.id-1).toNat default).st=2
  ·have hE:bN M.L 0 R.ag.id (fun j:Jb=>decide (j.state=2))=0:=vo hid (qag hs);have hr:dZ 216 a m R (ai M) _ _ _ _ _:=fun _ _ _ _ _ _ _ _ hS=>JB hS hE;have eL:cz (ai M).J 0 R.ag.id (fun j:Jb=>decide (j.state=2)) oV=M.L.set (R.ag.id-1).toNat ((M.L.getD (R.ag.id-1).toNat default).setSt 1):=pI hE;rw[eL,zm hid]at hr;generalize hx:M.L.getD (R.ag.id-1).toNat default=x at*;have bo:=h.inv.one _ hmem;have bw:=h.inv.mb.wid _ hmem;have bl:=h.inv.mb.lim _ hmem;have bf:=h.inv.mb.fin _ hmem;have bn:=h.inv.mb.bQ _ hmem;have hp:x.aJ= -1:=h.inv.rest _ hmem (by omega);have hpl:aj (x.setSt 1)=false:=by unfold aj;simp[show(x.setSt 1).aJ= -1 from hp]
   have hI1:aG {M with L:=M.L.set (R.ag.id-1).toNat (x.setSt 1)}:=
    h.inv.set (i:=(R.ag.id-1).toNat) (y:=x.setSt 1) (h.inv.mb.set _ _ bw bl (by show-1≤x.aJ∧x.aJ≤_;omega) bf bn) (by rw[hx];rfl) ⟨bo.1,bo.2.1,bo.2.2.1,(show(1:Int)≤1 by omega),(show(1:Int)≤6 by omega)⟩ (fun _=>hp) (fun e=>absurd (show(1:Int)=3 from e) (by decide)) (.inl hp) (h.inv.lu.set hi fun n e=>by unfold aI at e;simp[Jb.setSt,Jb.st]at e)
     fun t ht=>mX h.inv hi (by rw[hx];exact⟨fun e=>absurd (show(1:Int)=3 from e) (by decide),fun e=>by omega⟩) (by rw[hx];rfl) (by rw[hx];rfl) hpl t ht
   have hP:({ai M with J:=M.L.set (R.ag.id-1).toNat (x.setSt 1)}:Pg)=ai {M with L:=M.L.set (R.ag.id-1).toNat (x.setSt 1)}:=by
    have h3:((x.setSt 1).st=3)↔((M.L.getD (R.ag.id-1).toNat default).st=3):=by rw[hx];exact⟨fun e=>absurd (show(1:Int)=3 from e) (by decide),fun e=>by omega⟩
    have e1:dh M=dh {M with L:=M.L.set (R.ag.id-1).toNat (x.setSt 1)}:=by
     refine pG (by rw[bC,bC]) fun n hn=>?_;rw[dm,dm,pO hi h3 (by rw[hx];rfl)]
    have e2:(fun t=>ax M t 0)=fun t=>ax {M with L:=M.L.set (R.ag.id-1).toNat (x.setSt 1)} t 0:=by
     funext t
     rw[ru hi h3 (by rw[hx];rfl) (by rw[hx];rfl),dN hpl,hx,dN (by unfold aj;simp[hp])];omega
    show Pg.mk _ _ (dh M) (fun t=>ax M t 0) _=_;rw[e1,e2];rfl
   rw[hP]at hr;have e:fZ M (toW R.ag)=(nH (x.setSt 1),fB {M with L:=M.L.set (R.ag.id-1).toNat (x.setSt 1)} (x.setSt 1)):=by
    have hj:fD (toW R.ag).kind x=x.setSt 1:=by unfold fD;rw[show(toW R.ag).kind=4 from hk];rfl
    unfold fZ;rw[show(toW R.ag).id=R.ag.id from rfl,eM];refine(qai (fun e=>nomatch e)).trans ((qai ?_).trans ((qaj hk).trans ?_))
    ·show¬((R.ag.kind=3∧x.st≠1)∨(R.ag.kind=4∧x.st≠2));omega
    ·show(nH (fD (toW R.ag).kind x),fB {M with L:=M.L.set (R.ag.id-1).toNat (fD (toW R.ag).kind x)} (fD (toW R.ag).kind x))=_;rw[hj]
   rw[e];refine(fU (N:=901) (k:=142) (k':=233) bA (iO hr) h.left rfl ?_).more (show 902≤1000 by decide);have hL:(M.L.set (R.ag.id-1).toNat (x.setSt 1)).length=M.L.length:=List.length_set;have Yg:=CP (x.setSt 1) (M.L.set (R.ag.id-1).toNat (x.setSt 1));have hidx:x.id=(((R.ag.id-1).toNat:Nat):Int)+1:=by rw[←hx];exact h.inv.ids _ hi
   have:=uy (M:={M with L:=M.L.set (R.ag.id-1).toNat (x.setSt 1)}) (M':=fB {M with L:=M.L.set (R.ag.id-1).toNat (x.setSt 1)} (x.setSt 1)) (R:={({R with aD:=x.setSt 1,rep:=iZ (x.setSt 1)}:Wk)with left:=fF 233}) (mx:=mx) rfl (by show x.id≠0;omega) h.one (by show(M.L.set (R.ag.id-1).toNat (x.setSt 1)).length≤900;omega) h.hmx 900 (L:=M.L.set (R.ag.id-1).toNat (x.setSt 1)) rfl (by show hits (x.setSt 1) _≤900;omega) hI1 rfl (by show a+2*hits (x.setSt 1) _≤800;omega) (by show m+(hits (x.setSt 1) _:Nat)≤mx;omega);exact this.ok h.ok
  ·have hE:bN M.L 0 R.ag.id (fun j:Jb=>decide (j.state=2))=8:=CQ hid (qah hs);have e:fZ M (toW R.ag)=(fJ 8,M):=by
    unfold fZ;rw[show(toW R.ag).id=R.ag.id from rfl,eM];exact(qai (fun e=>nomatch e)).trans (qaj (.inr ⟨hk,hs⟩))
   rw[e];exact aY (N:=999) bA (iO (fun _ _ _ _ _ _ _ _ hS=>xU hS 8 (by decide) hE)) h.left rfl (by omega) (by omega) rfl rfl rfl
end
section
variable {a N : Nat} {m mx : Int} {P : Pg} {M M' : Md} {R : Wk} {Q : Nat → Int → Wk → Pg → Prop}
theorem EW {i:Nat}{y:Jb}(hi:i<M.L.length)(hs:(M.L.getD i default).st≠3)(hy:y.st≠3)(hy2:y.bQ=(M.L.getD i default).bQ)(hy3:y.fin=(M.L.getD i default).fin)(hyp:aj y=false)
 (hI:aG M) (hI1:aG {M with L:=M.L.set i y}) (h1:1≤M.dr.length) (hll:M.L.length≤900) (ha:a≤700) (hm:m+1≤mx) (hmx:mx≤1000000)
 (hl:R.left=fF 236) (hj:R.aD=M.L.getD i default):
 fE (N+1) a m R {ai M with J:=M.L.set i y} (Fin mx {M with L:=M.L.set i y} R.rep R.ok):=by
 have hmem:=aZ hi;have bo:=hI.one _ hmem;have bw:=hI.mb.wid _ hmem;have bl:=hI.mb.lim _ hmem;have bp:=hI.mb.aJ _ hmem;have hst:(y.st=3)↔((M.L.getD i default).st=3):=⟨fun e=>absurd e hy,fun e=>absurd e hs⟩;have dJ:=fu hI h1 hll;have lW:=fu hI1 h1 (by rw[List.length_set];exact hll);have sQ:PK {ai M with J:=M.L.set i y}:=⟨dJ.now,lW.few,lW.st,lW.lim,dJ.rR,dJ.f⟩;have eT:dh M=dh {M with L:=M.L.set i y}:=by
  refine pG (by rw[bC,bC]) fun n hn=>?_;rw[dm,dm,pO hi hst hy2]
 have ef:∀t,ax {M with L:=M.L.set i y} t 0=ax M t 0+dM t 0 (M.L.getD i default):=fun t=>by
  rw[ru hi hst hy2 hy3,dN hyp];omega
 have eP:∀F:Int→Int,F=(fun t=>ax {M with L:=M.L.set i y} t 0)→({ai M with J:=M.L.set i y,f:=F}:Pg)=ai {M with L:=M.L.set i y}:=fun F hF=>by
  show Pg.mk _ _ (dh M) F _=_;rw[eT,hF];rfl
 cases hp:aj (M.L.getD i default)with
 |true=>
  have hv:dZ 236 a m R {ai M with J:=M.L.set i y} _ _ _ _ _:=fun _ _ _ _ _ _ _ _ hS=>Gt hS sQ (by omega) (by omega) (by rw[hj];exact hp) (by rw[hj];exact bp.2) (by rw[hj];exact bl) (by rw[hj];exact bo.2.2.1) (by rw[hj];exact bw) (fun t=>ax {M with L:=M.L.set i y} t 0) (fun t ht=>by
   rw[hj];have hu:=rU hI hi hp t;rw[iW hi,dN (j:=(M.L.getD i default).aH (-1)) (by unfold aj;simp[Jb.aH,Jb.aJ])]at hu;show ax {M with L:=M.L.set i y} t 0=ax M t 0+had (max (M.L.getD i default).aJ M.now) ((M.L.getD i default).aJ+(M.L.getD i default).lim) (M.L.getD i default).wid t;rw[ef];omega) (fun t ht=>lW.f t ht)
  have e:=eP (fun t=>ax {M with L:=M.L.set i y} t 0) rfl;rw[e]at hv;exact aY (a':=a+2) (m':=m+1) wW hv hl rfl (by omega) (by omega) rfl rfl rfl
 |false=>
  have hv:dZ 236 a m R {ai M with J:=M.L.set i y} _ _ _ _ _:=fun _ _ _ _ _ _ _ _ hS=>Gu hS sQ (by omega) (by omega) (by rw[hj];exact hp) (by rw[hj];exact hs) (by rw[hj];exact bp.2) (by rw[hj];exact bl);have e:({ai M with J:=M.L.set i y}:Pg)=ai {M with L:=M.L.set i y}:=eP _ (by
   funext t
   rw[ef,dN hp];show ax M t 0=_;omega)
  have hv2:dZ 236 a m R {ai M with J:=M.L.set i y} .nilFunc a m R (ai {M with L:=M.L.set i y}):=by rw[←e];exact hv
  exact aY (a':=a) (m':=m) wW hv2 hl rfl (by omega) (by omega) rfl rfl rfl
theorem ME (h:Bg a m mx R M)(hk:R.ag.kind=3):
 fE 1000 a m R (ai M) (Fin mx (fZ M (toW R.ag)).2 (lV (fZ M (toW R.ag)).1) false):=by
 have hll:=h.few;have ha:=h.ha;have hm:=h.hm;have hrd:jJ R.ag.kind=false:=by rw[hk];rfl
 have iO:∀{L:Value} {a':Nat} {m':Int} {R':Wk} {P':Pg},dZ 215 a m R (ai M) L a' m' R' P'→dZ 142 a m R (ai M) L a' m' R' P':=fun hn w b c t d p v g hS=>fV hS h.cl (by rw[hk];decide) hrd (PE hS hk (hn w b c t d p v g hS));by_cases hid:R.ag.id<1∨(M.L.length:Int)<R.ag.id
 ·rw[wY (toW R.ag) hid];exact aY (N:=999) bA (iO (fun _ _ _ _ _ _ _ _ hS=>EK hS 7 (by decide) (zl hid))) h.left rfl (by omega) (by omega) rfl rfl rfl
 ·have hi:(R.ag.id-1).toNat<M.L.length:=by omega
  have eM:=xY (M:=M) hid;by_cases hs:(M.L.getD (R.ag.id-1).toNat default).st=1
  ·have hE:bN M.L 0 R.ag.id (fun j:Jb=>decide (j.state=1))=0:=vo hid (qag hs);have hr:dZ 215 a m R (ai M) _ _ _ _ _:=fun _ _ _ _ _ _ _ _ hS=>R9 hS hE;have eL:cz (ai M).J 0 R.ag.id (fun j:Jb=>decide (j.state=1)) p9=M.L.set (R.ag.id-1).toNat (((M.L.getD (R.ag.id-1).toNat default).setSt 2).aH (-1)):=pI hE;rw[eL,zm hid,show bI (ai M).J R.ag.id=M.L.getD (R.ag.id-1).toNat default from uz hid]at hr;have e:fZ M (toW R.ag)=(nH (((M.L.getD (R.ag.id-1).toNat default).setSt 2).aH (-1)),{M with L:=M.L.set (R.ag.id-1).toNat (((M.L.getD (R.ag.id-1).toNat default).setSt 2).aH (-1))}):=by
    have hj:fD (toW R.ag).kind (M.L.getD (R.ag.id-1).toNat default)=((M.L.getD (R.ag.id-1).toNat default).setSt 2).aH (-1):=by unfold fD;rw[show(toW R.ag).kind=3 from hk];rfl
    have hk4:¬(toW R.ag).kind=4:=by rw[show(toW R.ag).kind=3 from hk];decide
    unfold fZ;rw[show(toW R.ag).id=R.ag.id from rfl,eM];refine(qai (fun e=>nomatch e)).trans ((qai ?_).trans ((qai hk4).trans ?_))
    ·show¬((R.ag.kind=3∧(M.L.getD (R.ag.id-1).toNat default).st≠1)∨(R.ag.kind=4∧(M.L.getD (R.ag.id-1).toNat default).st≠2));omega
    ·show(nH (fD (toW R.ag).kind (M.L.getD (R.ag.id-1).toNat default)),{M with L:=M.L.set (R.ag.id-1).toNat (fD (toW R.ag).kind (M.L.getD (R.ag.id-1).toNat default))})=_;rw[hj]
   have hI1:=(h.inv.FH h.calm (toW R.ag)).1;rw[e]at hI1⊢;refine(fU (N:=1) (k:=142) (k':=236) bA (iO hr) h.left rfl ?_).more (show 2≤1000 by decide);exact fE.ok (EW (N:=0) (mx:=mx) (a:=a) (m:=m) (y:=((M.L.getD (R.ag.id-1).toNat default).setSt 2).aH (-1)) hi (by rw[hs];decide) (show(2:Int)≠3 by decide) rfl rfl (by unfold aj;rw[show(((M.L.getD (R.ag.id-1).toNat default).setSt 2).aH (-1)).aJ= -1 from rfl];simp) h.inv hI1 h.one (by omega) (by omega) (by omega) h.hmx rfl rfl) h.ok
  ·have hE:bN M.L 0 R.ag.id (fun j:Jb=>decide (j.state=1))=8:=CQ hid (qah hs);have e:fZ M (toW R.ag)=(fJ 8,M):=by
    unfold fZ;rw[show(toW R.ag).id=R.ag.id from rfl,eM];exact(qai (fun e=>nomatch e)).trans (qaj (.inl ⟨hk,hs⟩))
   rw[e];exact aY (N:=999) bA (iO (fun _ _ _ _ _ _ _ _ hS=>EK hS 8 (by decide) hE)) h.left rfl (by omega) (by omega) rfl rfl rfl
theorem xZ (h:Bg a m mx R M)(s:Int)(hk:(R.ag.kind=2∧s=5)∨(R.ag.kind=5∧s=4)):
 fE 1000 a m R (ai M) (Fin mx (ma M (toW R.ag)).2 (lV (ma M (toW R.ag)).1) false):=by
 have hll:=h.few;have ha:=h.ha;have hm:=h.hm;have kg:=h.inv.mb.now;have dJ:=fu h.inv h.one (by omega);have hrd:jJ R.ag.kind=false:=by rcases hk with⟨hk,_⟩|⟨hk,_⟩<;>(rw[hk];rfl)
 have iO:∀{L:Value} {a':Nat} {m':Int} {R':Wk} {P':Pg},(∀(w:World) (b c t d p:Nat) (v:Value) (g:Nat),SW w b c t d p v g a m R (ai M)→Calls prog 214 #[.pointer (some ⟨b,0,none⟩),.pointer (some ⟨c,0,none⟩),.int .i64 s] w (az w b c t d p v g a' m' L R' P'))→dZ 142 a m R (ai M) L a' m' R' P':=fun hn w b c t d p v g hS=>by
  rcases hk with⟨hk,rfl⟩|⟨hk,rfl⟩
  ·exact fV hS h.cl (by rw[hk];decide) hrd (Pz hS hk (hn w b c t d p v g hS))
  ·exact fV hS h.cl (by rw[hk];decide) hrd (PD hS hk (hn w b c t d p v g hS))
 have Wm:bB s M.now=0:=by unfold bB;(repeat' split)<;>omega
 by_cases hid:R.ag.id<1∨(M.L.length:Int)<R.ag.id
 ·rw[PQ (toW R.ag) hid];exact aY (N:=999) bA (iO (fun _ _ _ _ _ _ _ _ hS=>Ab hS dJ s 7 (by decide) (by rw[show(ai M).now=M.now from rfl,Wm];exact zl hid))) h.left rfl (by omega) (by omega) rfl rfl rfl
 ·have hi:(R.ag.id-1).toNat<M.L.length:=by omega
  have hmem:=aZ hi;have bo:=h.inv.one _ hmem;have eM:=xY (M:=M) hid;by_cases hs:fo s (M.L.getD (R.ag.id-1).toNat default)=true
  ·have hE:bN (ai M).J (bB s (ai M).now) R.ag.id (fo s)=0:=by rw[show(ai M).now=M.now from rfl,Wm];exact vo hid hs
   have hr:∀(w:World) (b c t d p:Nat) (v:Value) (g:Nat),SW w b c t d p v g a m R (ai M)→Calls prog 214 #[.pointer (some ⟨b,0,none⟩),.pointer (some ⟨c,0,none⟩),.int .i64 s] w (az w b c t d p v g _ _ _ _ _):=fun _ _ _ _ _ _ _ _ hS=>LY hS dJ s hE;obtain⟨y,PS⟩:=qaa (iN M R.ag.kind (M.L.getD (R.ag.id-1).toNat default));have hyj:bR s M.now (M.L.getD (R.ag.id-1).toNat default)=y:=by
    rw[PS];unfold iN bR;have es:(if R.ag.kind=5 then(4:Int)else 5)=s:=by split<;>omega
    rw[es];by_cases e3:(M.L.getD (R.ag.id-1).toNat default).st=3
    ·rw[qaj e3,qaj (show(M.L.getD (R.ag.id-1).toNat default).2.2.2.2.2.1=3 from e3)];rfl
    ·rw[qai e3,qai (show¬(M.L.getD (R.ag.id-1).toNat default).2.2.2.2.2.1=3 from e3)];rfl
   have eL:cz (ai M).J (bB s (ai M).now) R.ag.id (fo s) (bR s (ai M).now)=M.L.set (R.ag.id-1).toNat y:=(pI hE).trans (by rw[←hyj];rfl);rw[eL,zm hid,show bI (ai M).J R.ag.id=M.L.getD (R.ag.id-1).toNat default from uz hid]at hr;have hok:¬(3<(M.L.getD (R.ag.id-1).toNat default).st∨(R.ag.kind=5∧(M.L.getD (R.ag.id-1).toNat default).st≠3)):=by
    unfold fo at hs;rw[Bool.or_eq_true,Bool.and_eq_true,decide_eq_true_iff,decide_eq_true_iff,decide_eq_true_iff]at hs;have:(M.L.getD (R.ag.id-1).toNat default).state=(M.L.getD (R.ag.id-1).toNat default).st:=rfl;omega
   have e:ma M (toW R.ag)=(nH y,{M with L:=M.L.set (R.ag.id-1).toNat y}):=by
    unfold ma;rw[show(toW R.ag).id=R.ag.id from rfl,eM];refine(qai (fun e=>nomatch e)).trans ((qai hok).trans ?_);rw[PS];rfl
   have hI1:=(h.inv.M8 h.calm (toW R.ag)).1;rw[e]at hI1⊢;have hy3:y.st≠3:=by
    rw[PS];show(if R.ag.kind=5 then(4:Int)else 5)≠3;split<;>omega
   have hyp:aj y=false:=by
    unfold aj;rw[show y.aJ= -1 by rw[PS];rfl];simp
   have Wn:y.bQ=(M.L.getD (R.ag.id-1).toNat default).bQ:=by rw[PS];unfold iN;split<;>rfl
   refine(fU (N:=2) (k:=142) (k':=234) bA (iO hr) h.left rfl ?_).more (show 3≤1000 by decide);clear PS hyj;have lW:=fu hI1 h.one (by rw[List.length_set];omega);by_cases h3:(M.L.getD (R.ag.id-1).toNat default).st=3
   ·have hrn:=h.inv.runs _ hmem h3;have M9:=h.inv.mb.bQ _ hmem;have hfin:=h.inv.mb.fin _ hmem;have hlt:=h.calm.runs _ hmem h3;have hg:=fun(w:World) (b c t d p:Nat) (v:Value) (g:Nat) (hS':SW w b c t d p v g a m {({R with aD:=M.L.getD (R.ag.id-1).toNat default,rep:=iZ y}:Wk)with left:=fF 234} {ai M with J:=M.L.set (R.ag.id-1).toNat y})=>O6 hS' ⟨dJ.now,lW.few,lW.st,lW.lim,dJ.rR,dJ.f⟩ h3 M9;obtain⟨n,hn⟩:∃n:Int,n=((List.range M.dr.length).countP (fun k=>cZ (M.L.getD (R.ag.id-1).toNat default).bQ.toNat k&& !(M.dr.getD k false)):Nat):=⟨_,rfl⟩;have hn2:0≤n∧n≤64:=by
     have h4:=List.countP_le_length (p:=fun k=>cZ (M.L.getD (R.ag.id-1).toNat default).bQ.toNat k&& !(M.dr.getD k false)) (l:=List.range M.dr.length);rw[List.length_range]at h4;have:=h.inv.mb.nn;omega
    refine fU (N:=1) (k:=234) (k':=236) (a':=a) (m':=m)
     (R':={({({R with aD:=M.L.getD (R.ag.id-1).toNat default,rep:=iZ y}:Wk)with left:=fF 234}:Wk)with idle:=n}) (P':={ai M with J:=M.L.set (R.ag.id-1).toNat y,T:=dh {M with L:=M.L.set (R.ag.id-1).toNat y}})
     JP (fun w b c t d p v g hS'=>(hg w b c t d p v g hS').mono fun e w' hp=>?_) rfl rfl ?_
    ·obtain⟨n',x',T',h5,h6⟩:=hp;obtain⟨h7,_,h8⟩:=EB h.inv hi h3 hy3 h5;rw[←hn]at h7;subst h7 h8;exact h6
    ·have hv:dZ 236 a m {({({({R with aD:=M.L.getD (R.ag.id-1).toNat default,rep:=iZ y}:Wk)with left:=fF 234}:Wk)with idle:=n}:Wk)with left:=fF 236} {ai M with J:=M.L.set (R.ag.id-1).toNat y,T:=dh {M with L:=M.L.set (R.ag.id-1).toNat y}} _ _ _ _ _:=fun _ _ _ _ _ _ _ _ hS2=>Js hS2 ⟨dJ.now,lW.few,lW.st,lW.lim,lW.rR,dJ.f⟩ (by omega) (by have:=h.hmx;omega) h3 (h.inv.mb.aJ _ hmem).2 (h.inv.mb.lim _ hmem) ⟨hlt,hfin.2⟩ (by show-64≤n∧n≤64;omega) (fun t=>ax {M with L:=M.L.set (R.ag.id-1).toNat y} t 0) (fun t ht=>by
      have hf:=rA h.inv.lu hi h3 hy3 hyp t 0;show ax {M with L:=M.L.set (R.ag.id-1).toNat y} t 0=ax M t 0+had (max M.now M.now) (M.L.getD (R.ag.id-1).toNat default).fin n t;have ht':M.now≤t:=ht;unfold had;by_cases c1:t<(M.L.getD (R.ag.id-1).toNat default).fin
      ·rw[qaj c1]at hf;rw[qaj ⟨by omega,.inl c1⟩,hf,hn]
      ·rw[qai c1]at hf;rw[qai (by omega),hf];rfl) (fun t ht=>lW.f t ht)
     exact aY (N:=0) wW hv rfl rfl (by omega) (by omega) rfl rfl h.ok
   ·refine fU (N:=1) (k:=234) (k':=236) JP (fun w b c t d p v g (hS':SW w b c t d p v g a m {({R with aD:=M.L.getD (R.ag.id-1).toNat default,rep:=iZ y}:Wk)with left:=fF 234} {ai M with J:=M.L.set (R.ag.id-1).toNat y})=>RJ hS' h3) rfl rfl ?_;have Zh:y.fin=(M.L.getD (R.ag.id-1).toNat default).fin:=by
     have:y=bR s M.now (M.L.getD (R.ag.id-1).toNat default):=by
      have:=congrArg (fun l:List Jb=>l.getD (R.ag.id-1).toNat default) eL;rw[show cz (ai M).J (bB s (ai M).now) R.ag.id (fo s) (bR s (ai M).now)=M.L.set (R.ag.id-1).toNat (bR s M.now (M.L.getD (R.ag.id-1).toNat default))from pI hE]at this;simp only[gF]at this;rw[qaj ⟨trivial,hi⟩,qaj ⟨trivial,hi⟩]at this;exact this.symm
     rw[this];show(if(M.L.getD (R.ag.id-1).toNat default).2.2.2.2.2.1=3 then M.now else _)=_;rw[qai (show¬(M.L.getD (R.ag.id-1).toNat default).2.2.2.2.2.1=3 from h3)];rfl
    exact fE.ok (EW (N:=0) (mx:=mx) (a:=a) (m:=m) (y:=y) hi h3 hy3 Wn Zh hyp h.inv hI1 h.one (by omega) (by omega) (by omega) h.hmx rfl rfl) h.ok
  ·rw[Bool.not_eq_true]at hs;have hE:bN M.L (bB s M.now) R.ag.id (fo s)=8:=by rw[Wm];exact CQ hid hs
   have hno:3<(M.L.getD (R.ag.id-1).toNat default).st∨(R.ag.kind=5∧(M.L.getD (R.ag.id-1).toNat default).st≠3):=by
    unfold fo at hs;rw[Bool.or_eq_false_iff,Bool.and_eq_false_iff,decide_eq_false_iff_not,decide_eq_false_iff_not,decide_eq_false_iff_not]at hs;have:(M.L.getD (R.ag.id-1).toNat default).state=(M.L.getD (R.ag.id-1).toNat default).st:=rfl;omega
   have e:ma M (toW R.ag)=(fJ 8,M):=by
    unfold ma;rw[show(toW R.ag).id=R.ag.id from rfl,eM];exact(qai (fun e=>nomatch e)).trans (qaj hno)
   rw[e];exact aY (N:=999) bA (iO (fun _ _ _ _ _ _ _ _ hS=>Ab hS dJ s 8 (by decide) hE)) h.left rfl (by omega) (by omega) rfl rfl rfl
end
section
variable {w : World} {b c t d p g a N : Nat} {v : Value} {m mx : Int} {P : Pg} {M M' : Md} {R : Wk} {Q : Nat → Int → Wk → Pg → Prop}
theorem Sy {k:Nat}(hk:k<64)(L:List Jb):(holderL L k<0∧kK L k=iq)∨∃i:Nat,holderL L k=i∧i<L.length∧kK L k=L.getD i default∧(L.getD i default).st=3:=by
 have e:(fun j:Jb=>decide (j.state∈ [(3:Int)])&&EJ (k:Int) j)=aI k:=by
  funext j
  unfold aI EJ;rw[oq hk,kQ];have:(j.state∈ [(3:Int)])↔(j.st=3):=List.mem_singleton;rw[decide_eq_decide.2 this]
 have e2:kK L (k:Int)=match L.findIdx? (aI k)with|some i=>L.getD i default|none=>iq:=by
  unfold kK;rw[e];cases L.findIdx? (aI k)<;>rfl
 rcases fG L k with h|⟨i,h,hi,h2⟩
 ·refine .inl ⟨h,?_⟩;rw[e2];unfold holderL at h;cases hf:L.findIdx? (aI k)with
  |none=>rfl
  |some i=>rw[hf]at h;simp only at h;omega
 ·refine .inr ⟨i,h,hi,?_,by unfold aI at h2;simp at h2;exact h2.1⟩;rw[e2];unfold holderL at h;cases hf:L.findIdx? (aI k)with
  |none=>rw[hf]at h;simp only at h;omega
  |some q=>
   rw[hf]at h;simp only at h;have:q=i:=by omega
   subst this;rfl
theorem wZ {k:Nat}{bb:Bool}(hk:k<M.dr.length)(hb:M.dr.getD k false= !bb)(hI:aG M)(hC:∀j∈M.L,j.st=3→M.now<j.fin)(h1:1≤M.dr.length)(hll:M.L.length≤900)
 (hI':aG {M with dr:=M.dr.set k bb}) (hn:R.ag.node=k) (ha:a≤800) (hm:m≤1000000) {by':Int} (hby:by'=if bb then-1 else 1)
 (h:SW w b c t d p v g a m R {ai M with T:=dh {M with dr:=M.dr.set k bb}}):
 Calls prog 239 #[.pointer (some ⟨b,0,none⟩),.pointer (some ⟨c,0,none⟩),.int .i64 0,.int .i64 by'] w
  (az w b c t d p v g (a+2) (m+1) .nilFunc {R with rep:=⟨0,(k:Int),aU {M with dr:=M.dr.set k bb} k,0,0,0,0,0,0⟩} (ai {M with dr:=M.dr.set k bb})):=by
 have hnn:=hI.mb.nn;have kg:=hI.mb.now;have dJ:=fu hI h1 hll;have lW:=fu hI' (by show 1≤(M.dr.set k bb).length;rw[List.length_set];exact h1) hll;have hX:(max (gX (ai M) (k:Int)) M.now<1152921504606846976)∧∀u,M.now≤u→((decide (holderL M.L k<0)||decide ((M.L.getD (holderL M.L k).toNat default).fin≤u))=decide (max (gX (ai M) (k:Int)) M.now≤u)):=by
  rcases Sy (show k<64 by omega) M.L with⟨g1,g2⟩|⟨i,g1,hi,g2,g3⟩
  ·have e:gX (ai M) (k:Int)=M.now:=by
    unfold gX;rw[show(ai M).J=M.L from rfl,g2];rfl
   rw[e];refine⟨by omega,fun u hu=>?_⟩;rw[qag g1,Bool.true_or];exact(qag (by omega)).symm
  ·have hf:=hC _ (aZ hi) g3;have hf2:=hI.mb.fin _ (aZ hi);have e:gX (ai M) (k:Int)=max (M.L.getD i default).fin (M.now+1):=by
    unfold gX;rw[show(ai M).J=M.L from rfl,g2,qaj g3];rfl
   rw[e,g1,Int.toNat_natCast];refine⟨by omega,fun u hu=>?_⟩;rw[qah (show¬((i:Int)<0)by omega),Bool.false_or];exact decide_eq_decide.2 (by omega)
 have Zi:qc (dh {M with dr:=M.dr.set k bb}) (k:Int)=aU {M with dr:=M.dr.set k bb} k:=by
  unfold qc;rw[qaj ⟨by omega,by rw[bC];show(k:Int)<((M.dr.set k bb).length:Nat);rw[List.length_set];omega⟩,Int.toNat_natCast,dm]
 have hv:=LZ (by':=by') h ⟨dJ.now,dJ.few,dJ.st,dJ.lim,lW.rR,dJ.f⟩ ha hm hI.mb.bQ (by omega) (by rw[hby];split<;>omega) (fun u=>ax {M with dr:=M.dr.set k bb} u 0) (fun u hu=>by
  have hu':M.now≤u:=hu;have hd:=xq hk bb u 0;have hx:=hX.2 u hu';rw[hn];show ax {M with dr:=M.dr.set k bb} u 0=ax M u 0+had (max (gX (ai M) (k:Int)) M.now) 1152921504606846976 by' u;have hnf:bP M u k=(!(M.dr.getD k false)&&decide (max (gX (ai M) (k:Int)) M.now≤u)):=by rw[←hx];rfl
  have hh:had (max (gX (ai M) (k:Int)) M.now) 1152921504606846976 by' u=if max (gX (ai M) (k:Int)) M.now≤u then by' else 0:=by unfold had;simp
  rw[hd,hnf,hx,hb,hh,hby];by_cases c1:max (gX (ai M) (k:Int)) M.now≤u
  ·rw[qag c1,qaj c1];cases bb<;>simp<;>omega
  ·rw[qah c1,qai c1];cases bb<;>simp) (fun u hu=>lW.f u hu) (by
  rw[hn];have:gX {ai M with T:=dh {M with dr:=M.dr.set k bb}} (k:Int)=gX (ai M) (k:Int):=rfl;rw[this];omega)
 rw[hn,show({ai M with T:=dh {M with dr:=M.dr.set k bb}}:Pg).T=dh {M with dr:=M.dr.set k bb}from rfl,Zi]at hv;exact hv
theorem drain_eq {n:Nat}(h:dV kY M.L=none):fI M n true={M with dr:=M.dr.set n true}:=by
 unfold fI;rw[qaj rfl,rE h]
theorem xc {k:Nat}(hk:k<M.dr.length){bb:Bool}(hb:M.dr.getD k false= !bb):mM (dh M) (k:Int) bb 0 (dh {M with dr:=M.dr.set k bb}):=by
 have hd:bb=decide ((dh M).getD (k:Int).toNat 0<3):=by
  rw[Int.toNat_natCast,dm,fe hk,hb];cases bb<;>(by_cases h1:0≤holderL M.L k<;>simp[h1])
 have hc:mM (dh M) (k:Int) bb 0 ((dh M).set (k:Int).toNat (ku ((dh M).getD (k:Int).toNat 0))):=
  ⟨fun h=>absurd h (by rw[bC];omega),fun _ _ h=>absurd hd h,fun _ _ _=>⟨rfl,rfl⟩⟩
 have e:=(I8 hk hb hc).2;rw[e]at hc;exact hc
theorem GI (h:Bg a m mx R M)(hk:R.ag.kind=8)(hnd: -9223372036854775808≤R.ag.node∧R.ag.node≤9223372036854775807):
 fE 1000 a m R (ai M) (Fin mx (ik M (toW R.ag)).2 (lV (ik M (toW R.ag)).1) false):=by
 have hll:=h.few;have ha:=h.ha;have hm:=h.hm;have hmx:=h.hmx;have dJ:=fu h.inv h.one (by omega);have hrd:jJ R.ag.kind=false:=by rw[hk];rfl
 have iO:∀{L:Value} {a':Nat} {m':Int} {R':Wk} {P':Pg},dZ 218 a m R (ai M) L a' m' R' P'→dZ 142 a m R (ai M) L a' m' R' P':=fun hn w b c t d p v g hS=>fV hS h.cl (by rw[hk];decide) hrd (PI hS hk (hn w b c t d p v g hS));have hd7:decide ((toW R.ag).kind=7)=false:=qah (by rw[show(toW R.ag).kind=8 from hk];decide);by_cases ho:R.ag.node<0∨(M.dr.length:Int)≤R.ag.node
 ·have e:ik M (toW R.ag)=(fJ 11,M):=qaj ho;have hT:mM (dh M) R.ag.node false 11 (dh M):=⟨fun _=>⟨rfl,rfl⟩,fun h1 h2=>by rw[bC]at h2;omega,fun h1 h2=>by rw[bC]at h2;omega⟩;rw[e];refine aY (N:=999) (a':=a) (m':=m) (R':={R with rep:=kv 11,ok:=false}) bA (iO (fun _ _ _ _ _ _ _ _ hS=>resume_fn (P':=ai M) hS dJ hnd hT fun W v1 g1 hW=>?_)) h.left rfl (by omega) (by omega) rfl rfl rfl;exact EL hW 11 1 (by decide)
 ·obtain⟨k,hkk⟩:=Int.eq_ofNat_of_zero_le (show 0≤R.ag.node by omega);have hk2:k<M.dr.length:=by omega
  cases hdr:M.dr.getD k false with
  |false=>
   have e:ik M (toW R.ag)=(fJ 8,M):=by
    unfold ik;refine(qai ho).trans (qaj ?_);rw[hd7,show(toW R.ag).node=R.ag.node from rfl,hkk,Int.toNat_natCast,hdr]
   have hs:(dh M).getD R.ag.node.toNat 0<3:=by
    rw[hkk,Int.toNat_natCast,dm,fe hk2,hdr];split<;>simp
   have hT:mM (dh M) R.ag.node false 8 (dh M):=⟨fun h1=>by rw[bC]at h1;omega,fun _ _ _=>⟨rfl,rfl⟩,fun _ _ h3=>by rw[qag hs]at h3;cases h3⟩;rw[e];refine aY (N:=999) (a':=a) (m':=m) (R':={R with rep:=kv 8,ok:=false}) bA (iO (fun _ _ _ _ _ _ _ _ hS=>resume_fn (P':=ai M) hS dJ hnd hT fun W v1 g1 hW=>?_)) h.left rfl (by omega) (by omega) rfl rfl rfl;exact EL hW 8 1 (by decide)
  |true=>
   have e:ik M (toW R.ag)=((0,(k:Int),aU {M with dr:=M.dr.set k false} (k:Int),0,0,0,0,0,0),{M with dr:=M.dr.set k false}):=by
    unfold ik;refine(qai ho).trans ((qai ?_).trans ?_)
    ·rw[hd7,show(toW R.ag).node=R.ag.node from rfl,hkk,Int.toNat_natCast,hdr];exact fun e=>nomatch e
    ·rw[hd7,show(toW R.ag).node=R.ag.node from rfl,hkk,Int.toNat_natCast];rfl
   have hI':=(h.inv.Ky h.calm (toW R.ag)).1;rw[e]at hI'⊢;have hT:=xc hk2 (bb:=false) hdr;rw[←hkk]at hT;refine aY (N:=999) bA (iO (fun _ _ _ _ _ _ _ _ hS=>resume_fn hS dJ hnd hT fun W v1 g1 hW=>wZ (bb:=false) (by':=1) hk2 hdr h.inv h.calm.runs h.one (by omega) hI' hkk (by omega) (by omega) rfl hW)) h.left rfl (by omega) (by omega) rfl rfl h.ok
theorem JR {k:Nat}(hl:R.left=fF 238)(hkk:R.ag.node=k)(hk:k<M.dr.length)(hdr:M.dr.getD k false=false)(h1:1≤M.dr.length)(hll:M.L.length≤900)(hmx:mx≤1000000)(hI':aG (fI M k true))(q:Nat):
 ∀{L:List Jb} {a:Nat} {m:Int},L.length=M.L.length→hits kY L≤q→aG {M with L:=L}→(∀j∈L,j.st=3→M.now<j.fin)→fB {M with L:=L} kY=fB M kY→a+2*hits kY L+2≤800→m+hits kY L+1≤mx→
  fE (q+1) a m R (ai {M with L:=L}) (Fin mx (fI M k true) ⟨0,(k:Int),aU (fI M k true) k,0,0,0,0,0,0⟩ R.ok):=by
 have last:∀{L:List Jb} {a:Nat} {m:Int} (q:Nat),L.length=M.L.length→dV kY L=none→aG {M with L:=L}→(∀j∈L,j.st=3→M.now<j.fin)→fB {M with L:=L} kY=fB M kY→a+2≤800→m+1≤mx→
  fE (q+1) a m R (ai {M with L:=L}) (Fin mx (fI M k true) ⟨0,(k:Int),aU (fI M k true) k,0,0,0,0,0,0⟩ R.ok):=by
  intro L a m q hL ho hI hC hM ha hm;have eD:fI M k true={M with L:=L,dr:=M.dr.set k true}:=by
   have h2:=rE (M:={M with L:=L}) ho;rw[h2]at hM;unfold fI;rw[qaj rfl,←hM]
  rw[eD]at hI'⊢;have hT:=xc (M:={M with L:=L}) (k:=k) hk (bb:=true) hdr;rw[←hkk]at hT;refine aY (N:=q) ET (fun _ _ _ _ _ _ _ _ hS=>Ad (M:={M with L:=L}) hS (fu hI h1 (by show L.length≤900;omega)) rfl hI h1 (by show L.length≤900;omega) (by omega) (by omega) ho (by have:=hI.mb.nn;have:M.dr.length≤64:=this;omega) hT fun W v1 g1 hW=>wZ (M:={M with L:=L}) (bb:=true) (by':= -1) hk hdr hI hC h1 (by show L.length≤900;omega) hI' hkk (by omega) (by omega) rfl hW) hl rfl (by omega) (by omega) rfl rfl rfl
 induction q with
 |zero=>
  intro L a m hL hq hI hC hM ha hm;cases ho:dV kY L with
  |none=>exact last 0 hL ho hI hC hM (by omega) (by omega)
  |some i=>
   have:=(jC (L:=L) ho).2.2.2.2;omega
 |succ q ih=>
  intro L a m hL hq hI hC hM ha hm;cases ho:dV kY L with
  |none=>exact last (q+1) hL ho hI hC hM (by omega) (by omega)
  |some i=>
   obtain⟨hi,_,_,_,hh⟩:=jC ho;refine fU (k:=238) (k':=238) ET (fun _ _ _ _ _ _ _ _ hS=>Ae (M:={M with L:=L}) hS hI h1 (by show L.length≤900;omega) (by omega) (by omega) ho) hl rfl ?_;rw[←hl];refine ih (L:=L.set i ((L.getD i default).aH (-1))) (by rw[List.length_set];exact hL) (by omega) (hI.xy hi) (fun j hj=>?_) ((wo (M:={M with L:=L}) ho).trans hM) (by omega) (by omega);rcases List.mem_or_eq_of_mem_set hj with h2|rfl
   ·exact hC j h2
   ·exact fun hs=>hC (L.getD i default) (aZ hi) hs
theorem JU (h:Bg a m mx R M)(hk:R.ag.kind=7)(hnd: -9223372036854775808≤R.ag.node∧R.ag.node≤9223372036854775807):
 fE 1000 a m R (ai M) (Fin mx (ik M (toW R.ag)).2 (lV (ik M (toW R.ag)).1) false):=by
 have hll:=h.few;have ha:=h.ha;have hm:=h.hm;have hmx:=h.hmx;have dJ:=fu h.inv h.one (by omega);have hrd:jJ R.ag.kind=false:=by rw[hk];rfl
 have iO:∀{L:Value} {a':Nat} {m':Int} {R':Wk} {P':Pg},dZ 217 a m R (ai M) L a' m' R' P'→dZ 142 a m R (ai M) L a' m' R' P':=fun hn w b c t d p v g hS=>fV hS h.cl (by rw[hk];decide) hrd (PH hS hk (hn w b c t d p v g hS));have hd7:decide ((toW R.ag).kind=7)=true:=qag hk;by_cases ho:R.ag.node<0∨(M.dr.length:Int)≤R.ag.node
 ·have e:ik M (toW R.ag)=(fJ 11,M):=qaj ho;rw[e];exact aY (N:=999) bA (iO (fun _ _ _ _ _ _ _ _ hS=>ER hS dJ hnd 11 (.inl ⟨by
   unfold qc;rw[qai (by rw[show(ai M).T=dh M from rfl,bC];omega)],rfl⟩))) h.left rfl (by omega) (by omega) rfl rfl rfl
 ·obtain⟨k,hkk⟩:=Int.eq_ofNat_of_zero_le (show 0≤R.ag.node by omega);have hk2:k<M.dr.length:=by omega
  have est:qc (ai M).T R.ag.node=aU M (k:Int):=by
   unfold qc;rw[qaj ⟨by omega,by rw[show(ai M).T=dh M from rfl,bC];omega⟩,hkk,Int.toNat_natCast];exact dm k
  cases hdr:M.dr.getD k false with
  |true=>
   have e:ik M (toW R.ag)=(fJ 8,M):=by
    unfold ik;refine(qai ho).trans (qaj ?_);rw[hd7,show(toW R.ag).node=R.ag.node from rfl,hkk,Int.toNat_natCast,hdr]
   rw[e];exact aY (N:=999) bA (iO (fun _ _ _ _ _ _ _ _ hS=>ER hS dJ hnd 8 (.inr ⟨by
    rw[est,fe hk2,hdr];split<;>simp,rfl⟩))) h.left rfl (by omega) (by omega) rfl rfl rfl
  |false=>
   have e:ik M (toW R.ag)=((0,(k:Int),aU (fI M k true) (k:Int),0,0,0,0,0,0),fI M k true):=by
    unfold ik;refine(qai ho).trans ((qai ?_).trans ?_)
    ·rw[hd7,show(toW R.ag).node=R.ag.node from rfl,hkk,Int.toNat_natCast,hdr];exact fun e=>nomatch e
    ·rw[hd7,show(toW R.ag).node=R.ag.node from rfl,hkk,Int.toNat_natCast]
   have hI':=(h.inv.Ky h.calm (toW R.ag)).1;rw[e]at hI'⊢;have hst:qc (ai M).T R.ag.node=1∨qc (ai M).T R.ag.node=2:=by
    rw[est,fe hk2,hdr];split<;>simp
   have Yg:=CP kY M.L;cases hz:dV kY M.L with
   |none=>
    have eD:=drain_eq (n:=k) hz;have hI2:aG {M with dr:=M.dr.set k true}:=by rw[←eD];exact hI'
    have hT:=xc hk2 (bb:=true) hdr;rw[←hkk]at hT;show fE 1000 a m R (ai M) (Fin mx (fI M k true) ⟨0,(k:Int),aU (fI M k true) k,0,0,0,0,0,0⟩ false);rw[eD];refine aY (N:=999) bA (iO (fun _ _ _ _ _ _ _ _ hS=>EP hS dJ hnd hst fun W hW=>Ad hW dJ rfl h.inv h.one (by omega) (by omega) (by omega) hz hnd hT fun W2 v1 g1 hW2=>wZ (bb:=true) (by':= -1) hk2 hdr h.inv h.calm.runs h.one (by omega) hI2 hkk (by omega) (by omega) rfl hW2)) h.left rfl (by omega) (by omega) rfl rfl h.ok
   |some i=>
    obtain⟨hi,_,_,_,hh⟩:=jC hz;refine(fU (N:=901) (k:=142) (k':=238) bA (iO (fun _ _ _ _ _ _ _ _ hS=>EP hS dJ hnd hst fun W hW=>Ae hW h.inv h.one (by omega) (by omega) (by omega) hz)) h.left rfl ?_).more (show 902≤1000 by decide);refine fE.ok (JR (M:=M) (R:={R with left:=fF 238}) (mx:=mx) (k:=k) rfl hkk hk2 hdr h.one (by omega) hmx hI' 900 (L:=M.L.set i ((M.L.getD i default).aH (-1))) (by rw[List.length_set]) (by omega) (h.inv.xy hi) (fun j hj=>by
     rcases List.mem_or_eq_of_mem_set hj with h2|rfl
     ·exact h.calm.runs j h2
     ·exact fun hs=>h.calm.runs (M.L.getD i default) (aZ hi) hs) (wo hz) (by omega) (by omega)) h.ok
end
section
variable {M : Md}
theorem Early.set (h:Early M){i:Nat}{y:Jb}(hy:y.st≤2→y.fin= -1):Early {M with L:=M.L.set i y}:=fun j hj=>by
 rcases List.mem_or_eq_of_mem_set hj with h1|rfl
 ·exact h j h1
 ·exact hy
theorem Early.map (h:Early M){f:Jb→Jb}(hf:∀j:Jb,(j.st≤2→j.fin= -1)→((f j).st≤2→(f j).fin= -1)):Early {M with L:=M.L.map f}:=fun j hj=>by
 obtain⟨x,hx,rfl⟩:=List.mem_map.1 hj;exact hf x (h x hx)
theorem Early.drop (h:Early M)(j:Jb):Early (fB M j):=h.map fun x hx=>by
 unfold gN;split
 ·exact hx
 ·exact hx
theorem Early.begin (h:Early M)(i:Nat):Early (aX M i):=h.set fun hs=>absurd hs (show¬(3:Int)≤2 by decide)
theorem Early.starts (n:Nat)(h:Early M):Early (startGo n M):=by
 induction n generalizing M with
 |zero=>exact h
 |succ n ih=>
  unfold startGo;split
  ·exact ih (h.begin _)
  ·exact ih h
theorem Early.rD (h:Early M):Early (dK M):=by
 refine Early.starts _ (h.map fun x hx=>?_);unfold aW;split
 ·exact fun hs=>absurd hs (show¬(6:Int)≤2 by decide)
 ·exact hx
theorem Early.dG (to:Int)(n:Nat)(h:Early M):Early (dG to n M):=by
 induction n generalizing M with
 |zero=>exact h
 |succ n ih=>
  unfold Proofs.YtaimcpmcndapcaaGreat.dG;split
  ·exact h
  ·refine ih (Early.rD ?_);exact h
theorem Early.H6 (h:Early M)(r:Rw):Early (fH M r).2:=by
 have same:Early {M with cl:=true}:=h;unfold fH
 repeat' split
 all_goals first|exact h|exact same|skip
 ·unfold jL;have ha:Early {M with L:=M.L++[dC M r]}:=fun j hj=>by
   rcases List.mem_append.1 hj with h1|h1
   ·exact h j h1
   ·rw[List.mem_singleton]at h1;subst h1;exact fun _=>rfl
  repeat' split
  ·exact h
  ·exact ha
  ·exact ha.drop _
 ·unfold ma;simp only
  repeat' split
  ·exact h
  ·exact h
  ·refine h.set fun hs=>?_;have e:(iN M r.kind (getM M r.id).1).st=if r.kind=5 then 4 else 5:=rfl
   rw[e]at hs;split at hs<;>omega
 ·unfold fZ;simp only;have hx:((getM M r.id).2=false)∨(getM M r.id).1∈M.L:=by
   cases hg:(getM M r.id).2 with
   |false=>exact .inl rfl
   |true=>exact .inr (kP hg).1
  by_cases h1:(getM M r.id).2=false
  ·rw[qaj h1];exact h
  ·rw[qai h1];have hm:=hx.resolve_left h1;have hx1:=h _ hm;split
   ·exact h
   ·rename_i h2
    have hy:(fD r.kind (getM M r.id).1).st≤2→(fD r.kind (getM M r.id).1).fin= -1:=by
     unfold fD;split
     ·rename_i h3
      exact fun _=>hx1 (by by_cases e:(getM M r.id).1.st=1<;>omega)
     ·split
      ·rename_i h3
       exact fun _=>hx1 (by by_cases e:(getM M r.id).1.st=2<;>omega)
      ·exact hx1
    split
    ·exact(h.set hy).drop _
    ·exact h.set hy
 ·unfold ik
  repeat' split
  ·exact h
  ·exact h
  ·unfold fI;split
   ·exact h.drop kY
   ·exact h
 ·unfold mq;split
  ·exact h
  ·exact h.dG _ _
theorem Early.jq (h:Early M)(id t:Int):Early (aL M id t).2:=by
 unfold aL;split
 ·rename_i hf
  split
  ·exact h.begin _
  ·by_cases hi:(id-1).toNat<M.L.length
   ·refine h.set fun hs=>?_;exact h (M.L.getD (id-1).toNat default) (aZ hi) hs
   ·show Early {M with L:=M.L.set (id-1).toNat _};rw[List.set_eq_of_length_le (by omega)];exact h
 ·exact h
theorem MF (n:Nat):Early (eQ n):=fun _ hj=>nomatch hj
theorem PT (f:Nat→Bool)(n j:Nat)(h:∀k,n≤k→f k=false):aQ f (n+j)=aQ f n:=by
 induction j with
 |zero=>rfl
 |succ j ih=>
  show aQ f (n+j)+(if f (n+j)=true then 1 else 0)=_;rw[h (n+j) (by omega),ih];simp
theorem uA (h:aG M)(f:Nat→Bool)(x y:Int)(hf:∀k,f k=(decide (aU M k=x)||decide (aU M k=y)))(hx:x≠0)(hy:y≠0):((aQ f 64:Nat):Int)=kZ M x y:=by
 have hn:=h.mb.nn;have hc:=PT f M.dr.length (64-M.dr.length) fun k hk=>by
  rw[hf,iB (by omega),qah (fun e=>hx e.symm),qah (fun e=>hy e.symm)];rfl
 rw[show M.dr.length+(64-M.dr.length)=64 by omega]at hc;rw[hc,rT];unfold kZ;rw[show f=fun k:Nat=>decide (aU M k=x)||decide (aU M k=y)from funext hf]
end
section
variable {w : World} {b c t d p g a N : Nat} {v : Value} {m mx : Int} {P : Pg} {M M' : Md} {R : Wk} {Q : Nat → Int → Wk → Pg → Prop}
theorem MG (h:Bg a m mx R M)(hk:R.ag.kind=6∨R.ag.kind=10∨R.ag.kind=11∨R.ag.kind=12):
 fE 1000 a m R (ai M) (Fin mx (fH M (toW R.ag)).2 (lV (fH M (toW R.ag)).1) false):=by
 have hll:=h.few;have ha:=h.ha;have hm:=h.hm;have hmx:=h.hmx;have hcl:¬M.cl=true:=by rw[h.cl];decide
 have dJ:=fu h.inv h.one (by omega);have hrd:jJ R.ag.kind=true:=by rcases hk with e|e|e|e<;>(rw[e];rfl)
 have iO:∀{L:Value} {a':Nat} {m':Int} {R':Wk} {P':Pg},dZ 190 a m R (ai M) L a' m' R' P'→dZ 142 a m R (ai M) L a' m' R' P':=fun hn w b c t d p v g hS=>JN hS h.cl (by omega) hrd (hn w b c t d p v g hS);rcases hk with hk|hk|hk|hk
 ·by_cases hid:R.ag.id<1∨(M.L.length:Int)<R.ag.id
  ·have e:fH M (toW R.ag)=(fJ 7,M):=by
    unfold fH;rw[qai hcl,show(toW R.ag).kind=6 from hk];exact wY (toW R.ag) hid
   have hg:gG M.L R.ag.id=7:=by unfold gG;(repeat' split)<;>omega
   rw[e];exact aY (N:=999) bA (iO (fun _ _ _ _ _ _ _ _ hS=>AA hS hk 7 (by decide) hg)) h.left rfl (by omega) (by omega) rfl rfl rfl
  ·have hg:gG M.L R.ag.id=0:=by unfold gG;(repeat' split)<;>omega
   have hi:(R.ag.id-1).toNat<M.L.length:=by omega
   have e:fH M (toW R.ag)=(nH (M.L.getD (R.ag.id-1).toNat default),M):=by
    unfold fH;rw[qai hcl,show(toW R.ag).kind=6 from hk];show fZ M (toW R.ag)=_;unfold fZ;rw[show(toW R.ag).id=R.ag.id from rfl,xY hid,show(toW R.ag).kind=6 from hk];show(nH (M.L.getD (R.ag.id-1).toNat default),({M with L:=M.L.set (R.ag.id-1).toNat (M.L.getD (R.ag.id-1).toNat default)}:Md))=_;have:M.L.set (R.ag.id-1).toNat (M.L.getD (R.ag.id-1).toNat default)=M.L:=by
     simp only[List.getD,List.getElem?_eq_getElem hi,Option.getD_some,List.set_getElem_self]
    rw[this]
   have hr:dZ 190 a m R (ai M) _ _ _ _ _:=fun _ _ _ _ _ _ _ _ hS=>CL hS hk hg;rw[show bI (ai M).J R.ag.id=M.L.getD (R.ag.id-1).toNat default from uz hid]at hr;rw[e];exact aY (N:=999) bA (iO hr) h.left rfl (by omega) (by omega) rfl rfl h.ok
 ·have e:fH M (toW R.ag)=(((0,0,0,0,0,0,(kZ M 1 1:Int),(kZ M 2 3:Int),(kZ M 4 4:Int)):Rl),M):=by
   unfold fH;rw[qai hcl,show(toW R.ag).kind=10 from hk];rfl
  have hr:dZ 190 a m R (ai M) _ _ _ _ _:=fun _ _ _ _ _ _ _ _ hS=>Mr hS dJ hk;rw[show(ai M).T=dh M from rfl,uA h.inv (gZ (dh M)) 1 1 (fun k=>by rw[uY,Bool.or_self]) (by decide) (by decide),
   uA h.inv (bX (dh M)) 2 3 (fun k=>by unfold bX;rw[dm]) (by decide) (by decide),
   uA h.inv (fun i=>bY (dh M) i&& !bX (dh M) i) 4 4 (fun k=>by
    unfold bY bX;rw[dm];generalize aU M k=s;by_cases h2:s=2
    ·subst h2;rfl
    ·by_cases h3:s=3
     ·subst h3;rfl
     ·rw[qah h2,qah h3];simp) (by decide) (by decide)]at hr
  rw[e];exact aY (N:=999) bA (iO hr) h.left rfl (by omega) (by omega) rfl rfl h.ok
 ·have e:fH M (toW R.ag)=(((0,0,0,0,0,0,(nP M 1:Int),(nP M 2:Int),(nP M 3:Int)):Rl),M):=by
   unfold fH;rw[qai hcl,show(toW R.ag).kind=11 from hk];rfl
  rw[e];exact aY (N:=999) bA (iO (fun _ _ _ _ _ _ _ _ hS=>Ms hS dJ hk)) h.left rfl (by omega) (by omega) rfl rfl h.ok
 ·have e:fH M (toW R.ag)=((0,0,0,M.now,0,0,ax M M.now 0,0,0),M):=by
   unfold fH;rw[qai hcl,show(toW R.ag).kind=12 from hk];rfl
  rw[e];exact aY (N:=999) bA (iO (fun _ _ _ _ _ _ _ _ hS=>JL hS (by omega) hk)) h.left rfl (by omega) (by omega) rfl rfl h.ok
theorem MH (h:Bg a m mx R M)(hk:R.ag.kind=13)(hrep:R.rep=nW):
 fE 1000 a m R (ai M) (Fin mx {M with cl:=true} (lV (fJ 0)) false):=by
 have hll:=h.few;have ha:=h.ha;have hm:=h.hm;have hrd:jJ R.ag.kind=false:=by rw[hk];rfl
 exact aY (N:=999) bA (fun _ _ _ _ _ _ _ _ hS=>fV hS h.cl (by rw[hk];decide) hrd (Mt hS hk)) h.left rfl (by omega) (by omega) rfl hrep h.ok
theorem DW (to:Int)(hto:to≤1099511627776)(hl:R.left=fF 242)(tF:R.target=to)(hmx:mx≤1000000)(n:Nat):
 ∀{M:Md} {a:Nat} {m:Int},aG M→Calm M→Early M→1≤M.dr.length→M.L.length≤900→M.now≤to→l8 M<n→a≤800→m+n≤mx→
  fE n a m R (ai M) (Fin mx {dG to n M with now:=to} ⟨0,0,0,to,0,0,ax (dG to n M) to 0,0,0⟩ R.ok):=by
 induction n with
 |zero=>
  intro M a m hI hC hE h1 hll hnt hn;have:=(mF nI 2 M.L fun j _=>oM j).1;unfold l8 at hn;omega
 |succ n ih=>
  intro M a m hI hC hE h1 hll hnt hn ha hm;by_cases hx:aV M<0∨to<aV M
  ·have e:dG to (n+1) M=M:=qaj hx;rw[e];have hf:dZ 242 a m R (ai M) _ _ _ _ _:=fun _ _ _ _ _ _ _ _ hS=>vN hS hI hE h1 hll ha (by omega) (by rw[tF];exact hx) (by rw[tF];exact⟨hnt,hto⟩);rw[tF]at hf;exact aY (N:=n) Ag hf hl rfl (by omega) (by omega) rfl rfl rfl
  ·have e:dG to (n+1) M=dG to n (dK {M with now:=aV M}):=qai hx;rw[e];obtain⟨a1,a2,a3⟩:=hI.step hC (by omega) (by omega);obtain⟨b1,b2,b3,b4⟩:=a2.rD;have hkp:=nS a2.mb;have hf:dZ 242 a m R (ai M) _ _ _ _ _:=fun _ _ _ _ _ _ _ _ hS=>Ac hS hI hC hE h1 hll ha (by omega) (by rw[tF];omega) (by rw[tF];exact hto);refine fU (k:=242) (k':=242) Ag hf hl rfl ?_;rw[←hl];refine ih b1 b2 (Early.rD hE) (by rw[hkp.2.2.2.1];exact h1) (by rw[hkp.2.1];exact hll) (by rw[hkp.2.2.1];show aV M≤to;omega) ?_ ha (by omega);have:=b4 a3;have e2:l8 {M with now:=aV M}=l8 M:=rfl;omega
theorem MI (h:Bg a m mx R M)(hE:Early M)(hk:R.ag.kind=9):
 fE 1000 a m R (ai M) (Fin mx (mq M R.ag.till).2 (lV (mq M R.ag.till).1) false):=by
 have hll:=h.few;have ha:=h.ha;have hm:=h.hm;have hmx:=h.hmx;have kg:=h.inv.mb.now;have dJ:=fu h.inv h.one (by omega);have hrd:jJ R.ag.kind=false:=by rw[hk];rfl
 have iO:∀{L:Value} {a':Nat} {m':Int} {R':Wk} {P':Pg},dZ 219 a m R (ai M) L a' m' R' P'→dZ 142 a m R (ai M) L a' m' R' P':=fun hn w b c t d p v g hS=>fV hS h.cl (by rw[hk];decide) hrd (PL hS hk (hn w b c t d p v g hS));by_cases hlow:R.ag.till<1
 ·have e:mq M R.ag.till=(fJ 10,M):=qaj (.inl hlow);rw[e];exact aY (N:=999) bA (iO (fun _ _ _ _ _ _ _ _ hS=>Px hS dJ hlow)) h.left rfl (by omega) (by omega) rfl rfl rfl
 ·by_cases hhi:1099511627776-M.now<R.ag.till
  ·have e:mq M R.ag.till=(fJ 10,M):=qaj (.inr hhi);rw[e];exact aY (N:=999) bA (iO (fun _ _ _ _ _ _ _ _ hS=>Mq hS dJ hlow hhi)) h.left rfl (by omega) (by omega) rfl rfl rfl
  ·have hev:=(mF nI 2 M.L fun j _=>oM j).2;have Yh:l8 M<(2*M.L.length+1:Nat):=by unfold l8;omega
   have e:mq M R.ag.till=((0,0,0,M.now+R.ag.till,0,0,ax (pJ M (M.now+R.ag.till)) (M.now+R.ag.till) 0,0,0),pJ M (M.now+R.ag.till)):=qai (by omega);rw[e];obtain⟨to,hto⟩:=qaa (M.now+R.ag.till);rw[←hto];unfold pJ;obtain⟨n,hn⟩:=qaa (2*M.L.length);rw[←hn]at Yh⊢;by_cases hx:aV M<0∨to<aV M
   ·have e:dG to (n+1) M=M:=qaj hx;rw[e];refine aY (N:=999) (a':=a) (m':=m+1) (R':={R with target:=to,rep:=⟨0,0,0,to,0,0,ax M to 0,0,0⟩}) bA (iO (fun _ _ _ _ _ _ _ _ hS=>JK (P':=ai {M with now:=to}) hS dJ hlow hhi fun W hW=>?_)) h.left rfl (by omega) (by omega) rfl rfl h.ok;rw[show(ai M).now+R.ag.till=to from hto.symm]at hW;exact vN hW h.inv hE h.one (by omega) (by omega) (by omega) hx ⟨by show M.now≤to;omega,by show to≤_;omega⟩
   ·have e:dG to (n+1) M=dG to n (dK {M with now:=aV M}):=qai hx;rw[e];obtain⟨a1,a2,a3⟩:=h.inv.step h.calm (by omega) (by omega);obtain⟨b1,b2,b3,b4⟩:=a2.rD;have hkp:=nS a2.mb;refine(fU (N:=n) (k:=142) (k':=242) (a':=a) (m':=m+1) (R':={R with target:=to}) (P':=ai (dK {M with now:=aV M})) bA (iO (fun _ _ _ _ _ _ _ _ hS=>JK hS dJ hlow hhi fun W hW=>?_)) h.left rfl ?_).more (show n+1≤1000 by omega)
    ·rw[show(ai M).now+R.ag.till=to from hto.symm]at hW;exact Ac hW h.inv h.calm hE h.one (by omega) (by omega) (by omega) ⟨by omega,by show aV M≤to;omega⟩ (by show to≤_;omega)
    ·refine fE.ok (DW (R:={({R with target:=to}:Wk)with left:=fF 242}) (mx:=mx) to (by omega) rfl rfl hmx n b1 b2 (Early.rD hE) (by rw[hkp.2.2.2.1];exact h.one) (by rw[hkp.2.1];show M.L.length≤900;omega) (by rw[hkp.2.2.1];show aV M≤to;omega) (by
      have:=b4 a3;have e2:l8 {M with now:=aV M}=l8 M:=rfl;omega) (by omega) (by omega)) h.ok
end
section
variable {M : Md}
theorem Ah (hI:aG M){id t:Int}(hf:eF M id t=true):∃i:Nat,id=(i:Int)+1∧i<M.L.length∧(M.L.getD i default).st=1∧M.now≤t∧t≤1099511627776∧M.cl=false∧
 ∀u,t≤u→u<t+(M.L.getD i default).lim→(M.L.getD i default).wid≤ax M u ((i:Int)+1):=by
 have hn:=hI.mb.now;unfold eF at hf;simp only at hf;split at hf
 ·cases hf
 rename_i hq
 have hg:(getM M id).2=true:=by cases e:(getM M id).2<;>simp_all
 obtain⟨hm,hi,he,hid⟩:=kP hg;rw[he]at hm hq hf;have hs:(M.L.getD (id-1).toNat default).st=1:=by
  by_cases e:(M.L.getD (id-1).toNat default).st=1
  ·exact e
  ·exact absurd (.inr (.inr (.inl e))) hq
 have ht:M.now≤t∧t≤1099511627776:=by omega
 have hcl:M.cl=false:=by
  cases e:M.cl with
  |false=>rfl
  |true=>exact absurd (.inl e) hq
 have HZ:=hI.ids _ hi;have hroom:=fun u=>yC hn.1 ht.1 hf u;rw[HZ]at hroom;exact⟨(id-1).toNat,hid,hi,hs,ht.1,ht.2,hcl,hroom⟩
theorem CR (hI:aG M){i:Nat}(hi:i<M.L.length)(hroom:∀u,M.now≤u→u<M.now+(M.L.getD i default).lim→(M.L.getD i default).wid≤ax M u ((i:Int)+1)):(M.L.getD i default).wid≤aM M M.now M.dr.length:=by
 have bo:=hI.one _ (aZ hi);have h0:=hroom M.now (Int.le_refl _) (by omega);have ht0:=mW (L:=M.L) (fun j hj=>hI.mb.wid j hj) M.now ((i:Int)+1);unfold ax at h0;omega
theorem GJ (hI:aG M)(hC:Calm M){i:Nat}(hi:i<M.L.length)(hs:(M.L.getD i default).st=1){t:Int}(ht:M.now≤t∧t≤1099511627776)
 (hroom:∀u,t≤u→u<t+(M.L.getD i default).lim→(M.L.getD i default).wid≤ax M u ((i:Int)+1)) (u:Int) (hu:M.now≤u):
 ax (if t=M.now then aX M i else{M with L:=M.L.set i ((M.L.getD i default).aH t)}) u 0=ax M u ((i:Int)+1)+had (max t M.now) (t+(M.L.getD i default).lim) (-(M.L.getD i default).wid) u:=by
 have hm:=aZ hi;have bo:=hI.one _ hm;have bl:=hI.mb.lim _ hm;have hn:=hI.mb.now;have hid:=hI.ids i hi;rw[mE hi hI.ids];have hh:had (max t M.now) (t+(M.L.getD i default).lim) (-(M.L.getD i default).wid) u=if t≤u∧u<t+(M.L.getD i default).lim then-(M.L.getD i default).wid else 0:=by
  unfold had;have e1:max t M.now=t:=by omega
  rw[e1];by_cases c:t≤u∧u<t+(M.L.getD i default).lim
  ·rw[qaj c,qaj ⟨c.1,.inl c.2⟩]
  ·rw[qai c,qai (by omega)]
 rw[hh];by_cases e:t=M.now
 ·subst e;rw[qaj rfl,rz hi (by omega)];have hlow:=(hI.begin hC.runs hi hs (CR hI hi hroom) fun v h1 h2=>by
   have:=hroom v h1 h2;rw[mE hi hI.ids]at this;exact this).2
  rw[hlow];split<;>split<;>omega
 ·rw[qai e,iW hi];have hpl:aj ((M.L.getD i default).aH t)=true:=by
   unfold aj;rw[Bool.and_eq_true];exact⟨qag hs,qag (show 0≤t by omega)⟩
  have hc2:=mD (t:=u) (but:=0) hpl (show(M.L.getD i default).id≠0 by rw[hid];omega);rw[hc2];show ax M u 0+dM u 0 (M.L.getD i default)-(if t≤u∧u<t+(M.L.getD i default).lim then(M.L.getD i default).wid else 0)=_;split<;>omega
end
section
variable {w : World} {b c t d p g a N : Nat} {v : Value} {m mx : Int} {P : Pg} {M M' : Md} {R : Wk} {Q : Nat → Int → Wk → Pg → Prop}
def lX (M:Md):Ry:=if M.cl then kv 12 else nW
theorem GK (hl:R.left=fF 144)(hI:aG M)(hC:Calm M)(h1:1≤M.dr.length)(hll:M.L.length≤190)(ha:a≤1+2*M.L.length)(hm:m+1000≤mx)(hmx:mx≤1000000)
 (ho:R.ok=false) (hrep:R.rep=nW) (hxt: -9223372036854775808≤R.dQ∧R.dQ≤9223372036854775807):
 fE 1000 a m R (ai M) (Fin mx (aL M R.kW R.dQ).2 (lX M) (aL M R.kW R.dQ).1):=by
 cases hf:eF M R.kW R.dQ with
 |false=>
  have e:aL M R.kW R.dQ=(false,M):=qai (by rw[hf];decide);rw[e];cases hcl:M.cl with
  |true=>exact aY (N:=999) zk (fun _ _ _ _ _ _ _ _ hS=>DN hS hcl) hl rfl (by omega) (by omega) rfl (by unfold lX;rw[hcl];rfl) rfl
  |false=>exact aY (N:=999) zk (fun _ _ _ _ _ _ _ _ hS=>Pt hS hI h1 (by omega) (by omega) hxt hcl hf) hl rfl (by omega) (by omega) rfl (by unfold lX;rw[hcl];exact hrep) ho
 |true=>
  obtain⟨i,hid,hi,hs,ht1,ht2,hcl,hroom⟩:=Ah hI hf;have Ny:(R.kW-1).toNat=i:=by omega
  have hmem:=aZ hi;have bo:=hI.one _ hmem;have bl:=hI.mb.lim _ hmem;have bw:=hI.mb.wid _ hmem;have bp:=hI.mb.aJ _ hmem;have HZ:=hI.ids i hi;have kg:=hI.mb.now;have dJ:=fu hI h1 (by omega);have e:aL M R.kW R.dQ=(true,if R.dQ=M.now then aX M i else{M with L:=M.L.set i ((M.L.getD i default).aH R.dQ)}):=by
   unfold aL;rw[qaj hf,Ny];split<;>rfl
  have hI':=(hI.jq hC R.kW R.dQ).1;rw[e]at hI'⊢;have hfree:=GJ hI hC hi hs ⟨ht1,ht2⟩ hroom;have hdr:(if R.dQ=M.now then aX M i else{M with L:=M.L.set i ((M.L.getD i default).aH R.dQ)}).dr.length=M.dr.length:=by split<;>rfl
  have Sz:(if R.dQ=M.now then aX M i else{M with L:=M.L.set i ((M.L.getD i default).aH R.dQ)}).now=M.now:=by split<;>rfl
  have Vg:nW=lX M:=by unfold lX;rw[hcl];rfl
  have Zj:bI M.L R.kW=M.L.getD i default:=by rw[uz (by omega),Ny]
  have hck:dZ 144 a m R (ai M) _ _ _ _ _:=fun _ _ _ _ _ _ _ _ hS=>Mo hS hI h1 (by omega) (by omega) hxt hcl hf;rw[Zj]at hck;have zA:∀u,ax M u ((i:Int)+1)=ax M u 0+dM u 0 (M.L.getD i default):=fun u=>mE hi hI.ids u;have lW:PK {ai M with f:=fun u=>ax M u ((i:Int)+1)}:=⟨dJ.now,dJ.few,dJ.st,dJ.lim,dJ.rR,fun u hu=>⟨Dq hI hi u hu,(Fs hI.mb u _).2⟩⟩;obtain⟨M1,hM1⟩:=qaa ((if R.dQ=M.now then aX M i else{M with L:=M.L.set i ((M.L.getD i default).aH R.dQ)}));rw[←hM1]at hI' hfree hdr Sz⊢;have hrange:∀u,M.now≤u→0≤ax M1 u 0∧ax M1 u 0≤64:=fun u hu=>wO hI' u (by rw[Sz];exact hu);have Yi:PK {ai M with f:=fun u=>ax M1 u 0}:=⟨dJ.now,dJ.few,dJ.st,dJ.lim,dJ.rR,fun u hu=>hrange u hu⟩;refine(fU (N:=3) (k:=144) (k':=192) zk hck hl rfl ?_).more (show 4≤1000 by decide);have cont:∀(a2:Nat) (m2:Int),a2≤700→m2+10≤mx→
   fE 2 a2 m2 {R with aD:=M.L.getD i default,ok:=true,left:=fF 220} {ai M with f:=fun u=>ax M u ((i:Int)+1)} (Fin mx M1 (lX M) true):=by
   intro a2 m2 ha2 hm2;have hen:dZ 220 a2 m2 {R with aD:=M.L.getD i default,ok:=true,left:=fF 220} {ai M with f:=fun u=>ax M u ((i:Int)+1)} _ _ _ _ _:=fun _ _ _ _ _ _ _ _ hS2=>Ps hS2 lW (by omega) (by omega) hs ⟨by show 0≤R.dQ;omega,by show R.dQ≤1099511627776;omega⟩ ⟨bo.2.2.1,bl.2⟩ bw (fun u=>ax M1 u 0) (fun u hu=>hfree u hu) (fun u hu=>hrange u hu);refine fU (N:=1) (k:=220) (k':=243) PO hen rfl rfl ?_;by_cases hx:R.dQ=M.now
   ·have hidle:(M.L.getD i default).wid≤((List.range M.dr.length).countP fun n:Nat=>decide (aU M n=1):Nat):=by
     rw[←Jw hC.runs];exact CR hI hi (by rw[←hx];exact hroom)
    have hT:=Jy hI hi (by omega) hidle;have hset:=fun(w:World) (b c t d p:Nat) (v:Value) (g:Nat) (qh:SW w b c t d p v g (a2+2) (m2+1) {R with aD:=(M.L.getD i default).aH R.dQ,ok:=true,left:=fF 243} {ai M with f:=fun u=>ax M1 u 0})=>JI qh Yi hx (by show-9223372036854775808≤(M.L.getD i default).wid∧(M.L.getD i default).wid≤_;omega) hT;rw[qaj hx]at hM1;have hbs:cz (ai M).J (gH (ai M).now) (M.L.getD i default).id (fun j:Jb=>decide (j.state=1)) (lG (ai M).now (iM M (M.L.getD i default).wid:Int))=(aX M i).L:=Aa hI hi hs;have hP:({ai M with f:=fun u=>ax M1 u 0,T:=dh (aX M i),J:=(aX M i).L}:Pg)=ai M1:=by rw[hM1];rfl
    refine aY (N:=0) (a':=a2+2) (m':=m2+1) CO (fun w b c t d p v g qh=>(hset w b c t d p v g qh).mono fun e w' hp=>?_) rfl rfl (by omega) (by omega) rfl (hrep.trans Vg) rfl;rw[←hP,←hbs];exact hp
   ·have hset:=fun(w:World) (b c t d p:Nat) (v:Value) (g:Nat) (qh:SW w b c t d p v g (a2+2) (m2+1) {R with aD:=(M.L.getD i default).aH R.dQ,ok:=true,left:=fF 243} {ai M with f:=fun u=>ax M1 u 0})=>DL qh hx;rw[qai hx]at hM1;have Oe:gT R.dQ=0:=by unfold gT;rw[qai (by omega),qai (by omega)]
    have hbs:cz (ai M).J (gT R.dQ) R.kW (fun j:Jb=>decide (j.state=1)) (kM R.dQ)=M.L.set i ((M.L.getD i default).aH R.dQ):=by
     rw[Oe];have:=vo (ok:=fun j:Jb=>decide (j.state=1)) (L:=M.L) (id:=R.kW) (by omega) (by rw[Ny];exact qag hs);have h2:=pI (ch:=kM R.dQ) this;rw[Ny]at h2;exact h2
    have hT1:dh M=dh M1:=by
     rw[hM1];refine pG (by rw[bC,bC]) fun n hn=>?_;rw[dm,dm,pO (y:=(M.L.getD i default).aH R.dQ) hi Iff.rfl rfl]
    have hP:({ai M with f:=fun u=>ax M1 u 0,J:=M.L.set i ((M.L.getD i default).aH R.dQ)}:Pg)=ai M1:=by
     show Pg.mk M.now _ (dh M) _ M.cl=_;rw[hT1,hM1];rfl
    refine aY (N:=0) (a':=a2+2) (m':=m2+1) CO (fun w b c t d p v g qh=>(hset w b c t d p v g qh).mono fun e w' hp=>?_) rfl rfl (by omega) (by omega) rfl (hrep.trans Vg) rfl;rw[←hP,←hbs];exact hp
  cases hpl:aj (M.L.getD i default)with
  |true=>
   have hlv:dZ 192 a m {R with aD:=M.L.getD i default,ok:=true,left:=fF 192} (ai M) _ _ _ _ _:=fun _ _ _ _ _ _ _ _ hS1=>JG hS1 dJ (by omega) (by omega) hpl bp.2 bl bo.2.2.1 bw (fun u=>ax M u ((i:Int)+1)) (fun u hu=>by
    have hun:=rU hI hi hpl u;rw[iW hi,dN (j:=(M.L.getD i default).aH (-1)) (by unfold aj;simp[Jb.aH,Jb.aJ])]at hun;show ax M u ((i:Int)+1)=ax M u 0+had (max (M.L.getD i default).aJ M.now) ((M.L.getD i default).aJ+(M.L.getD i default).lim) (M.L.getD i default).wid u;rw[zA];omega) (fun u hu=>lW.f u hu)
   refine fU (N:=2) (k:=192) (k':=220) ES hlv rfl rfl ?_;exact cont _ _ (by omega) (by omega)
  |false=>
   have hlv:dZ 192 a m {R with aD:=M.L.getD i default,ok:=true,left:=fF 192} (ai M) _ _ _ _ _:=fun _ _ _ _ _ _ _ _ hS1=>JH hS1 hpl bp.2 bl;refine fU (N:=2) (k:=192) (k':=220) ES hlv rfl rfl ?_;have hP:ai M={ai M with f:=fun u=>ax M u ((i:Int)+1)}:=by
    have:(fun u=>ax M u ((i:Int)+1))=fun u=>ax M u 0:=by
     funext u
     rw[zA,dN hpl];omega
    rw[this];rfl
   rw[hP];exact cont _ _ (by omega) (by omega)
theorem SA (hl:R.left=fF 142)(hI:aG M)(hC:Calm M)(hE:Early M)(h1:1≤M.dr.length)(hll:M.L.length≤190)(ha:a≤1+2*M.L.length)(hm:m+1000≤mx)(hmx:mx≤1000000)
 (ho:R.ok=false) (hrep:R.rep=nW) (hnd: -9223372036854775808≤R.ag.node∧R.ag.node≤9223372036854775807):
 fE 1000 a m R (ai M) (Fin mx (fH M (toW R.ag)).2 (lV (fH M (toW R.ag)).1) false):=by
 cases hcl:M.cl with
 |true=>
  have e:fH M (toW R.ag)=(fJ 12,M):=qaj hcl;rw[e];exact Mx hl hcl (by omega) (by omega)
 |false=>
  have hcn:¬M.cl=true:=by rw[hcl];decide
  have hB:Bg a m mx R M:=⟨hl,hI,hC,hcl,h1,hll,ha,hm,hmx,ho⟩;have hkr:∀r:Rw,fH M r=if r.kind=1 then jL M r
   else if r.kind=2∨r.kind=5 then ma M r
   else if r.kind=3∨r.kind=4∨r.kind=6 then fZ M r
   else if r.kind=7∨r.kind=8 then ik M r
   else if r.kind=9 then mq M r.by'
   else if r.kind=10 then((0,0,0,0,0,0,kZ M 1 1,kZ M 2 3,kZ M 4 4),M)
   else if r.kind=11 then((0,0,0,0,0,0,nP M 1,nP M 2,nP M 3),M)
   else if r.kind=12 then((0,0,0,M.now,0,0,ax M M.now 0,0,0),M)
   else if r.kind=13 then(fJ 0,{M with cl:=true})
   else(fJ 4,M):=fun r=>qai hcn
  by_cases hrd:R.ag.kind=6∨R.ag.kind=10∨R.ag.kind=11∨R.ag.kind=12
  ·exact MG hB hrd
  rw[hkr];have ek:(toW R.ag).kind=R.ag.kind:=rfl;rw[ek];by_cases k1:R.ag.kind=1
  ·rw[qaj k1];exact GH hl hI hcl h1 hll ha hm hmx k1 ho
  rw[qai k1];by_cases k25:R.ag.kind=2∨R.ag.kind=5
  ·rw[qaj k25];rcases k25 with k|k
   ·exact xZ hB 5 (.inl ⟨k,rfl⟩)
   ·exact xZ hB 4 (.inr ⟨k,rfl⟩)
  rw[qai k25];by_cases Wo:R.ag.kind=3∨R.ag.kind=4∨R.ag.kind=6
  ·rw[qaj Wo];rcases Wo with k|k|k
   ·exact ME hB k
   ·exact DV hB k
   ·exact absurd (.inl k) hrd
  rw[qai Wo];by_cases JV:R.ag.kind=7∨R.ag.kind=8
  ·rw[qaj JV];rcases JV with k|k
   ·exact JU hB k hnd
   ·exact GI hB k hnd
  rw[qai JV];by_cases k9:R.ag.kind=9
  ·rw[qaj k9];exact MI hB hE k9
  rw[qai k9,qai (by omega),qai (by omega),qai (by omega)];by_cases k13:R.ag.kind=13
  ·rw[qaj k13];exact MH hB k13 hrep
  rw[qai k13];exact MC hB (by omega)
end
section
variable {M : Md}
theorem Nz {r:Rw}(h:r.kind=1):fH M r=if M.cl=true then(fJ 12,M)else jL M r:=by
 unfold fH;by_cases hc:M.cl=true
 ·rw[qaj hc,qaj hc]
 ·rw[qai hc,qai hc,qaj h]
theorem SB {r:Rw}(h:(r.kind=2∨r.kind=5)):fH M r=if M.cl=true then(fJ 12,M)else ma M r:=by
 unfold fH;by_cases hc:M.cl=true
 ·rw[qaj hc,qaj hc]
 ·rw[qai hc,qai hc,qai (show¬r.kind=1 by omega),qaj h]
theorem NA {r:Rw}(h:(r.kind=3∨r.kind=4∨r.kind=6)):fH M r=if M.cl=true then(fJ 12,M)else fZ M r:=by
 unfold fH;by_cases hc:M.cl=true
 ·rw[qaj hc,qaj hc]
 ·rw[qai hc,qai hc,qai (show¬r.kind=1 by omega),qai (show¬(r.kind=2∨r.kind=5)by omega),qaj h]
theorem SF {r:Rw}(h:(r.kind=7∨r.kind=8)):fH M r=if M.cl=true then(fJ 12,M)else ik M r:=by
 unfold fH;by_cases hc:M.cl=true
 ·rw[qaj hc,qaj hc]
 ·rw[qai hc,qai hc,qai (show¬r.kind=1 by omega),qai (show¬(r.kind=2∨r.kind=5)by omega),qai (show¬(r.kind=3∨r.kind=4∨r.kind=6)by omega),qaj h]
theorem NB {r:Rw}(h:r.kind=9):fH M r=if M.cl=true then(fJ 12,M)else mq M r.by':=by
 unfold fH;by_cases hc:M.cl=true
 ·rw[qaj hc,qaj hc]
 ·rw[qai hc,qai hc,qai (show¬r.kind=1 by omega),qai (show¬(r.kind=2∨r.kind=5)by omega),qai (show¬(r.kind=3∨r.kind=4∨r.kind=6)by omega),qai (show¬(r.kind=7∨r.kind=8)by omega),qaj h]
theorem SG {r r':Rw}(h:r.kind=r'.kind)(h2:¬(1≤r.kind∧r.kind≤9)):fH M r=fH M r':=by
 unfold fH;rw[h]at h2⊢;by_cases hc:M.cl=true
 ·rw[qaj hc,qaj hc]
 ·have n1:¬r'.kind=1:=by omega
  have n2:¬(r'.kind=2∨r'.kind=5):=by omega
  have n3:¬(r'.kind=3∨r'.kind=4∨r'.kind=6):=by omega
  have n4:¬(r'.kind=7∨r'.kind=8):=by omega
  have n5:¬r'.kind=9:=by omega
  simp only[qai hc,qai n1,qai n2,qai n3,qai n4,qai n5]
theorem PU (M:Md)(r:Rq):fH M (toW (lU r))=fH M (toW r):=by
 unfold lU;by_cases k1:r.kind=1
 ·rw[qaj k1,Nz (r:=toW r) k1,Nz (r:=toW ⟨r.kind,0,r.user,r.width,r.limit,r.prio,r.held,0,0⟩) k1];rfl
 rw[qai k1];by_cases k2:r.kind=2∨r.kind=3∨r.kind=4∨r.kind=5∨r.kind=6
 ·rw[qaj k2];by_cases k25:r.kind=2∨r.kind=5
  ·rw[SB (r:=toW r) k25,SB (r:=toW ⟨r.kind,r.id,0,0,0,0,false,0,0⟩) k25];rfl
  ·have Vh:r.kind=3∨r.kind=4∨r.kind=6:=by omega
   rw[NA (r:=toW r) Vh,NA (r:=toW ⟨r.kind,r.id,0,0,0,0,false,0,0⟩) Vh];rfl
 rw[qai k2];by_cases JV:r.kind=7∨r.kind=8
 ·rw[qaj JV,SF (r:=toW r) JV,SF (r:=toW ⟨r.kind,0,0,0,0,0,false,r.node,0⟩) JV];rfl
 rw[qai JV];by_cases k9:r.kind=9
 ·rw[qaj k9,NB (r:=toW r) k9,NB (r:=toW ⟨r.kind,0,0,0,0,0,false,0,r.till⟩) k9];rfl
 rw[qai k9];exact SG rfl (by show¬(1≤r.kind∧r.kind≤9);omega)
theorem JW (r:Rq)(h: -9223372036854775808≤r.node∧r.node≤9223372036854775807): -9223372036854775808≤(lU r).node∧(lU r).node≤9223372036854775807:=by
 have z: -9223372036854775808≤(0:Int)∧(0:Int)≤9223372036854775807:=by decide
 unfold lU
 repeat' split
 all_goals first|exact z|exact h
structure Ok (M : Md) : Prop where
 inv:aG M
 calm:Calm M
 early:Early M
theorem Ok.new {n:Nat}(h:n≤64):Ok (eQ n):=⟨(H8 h).1,(H8 h).2,MF n⟩
theorem Ok.H6 (h:Ok M)(r:Rw):Ok (fH M r).2:=⟨(h.inv.H6 h.calm r).1,(h.inv.H6 h.calm r).2,h.early.H6 r⟩
theorem Ok.jq (h:Ok M)(id t:Int):Ok (aL M id t).2:=⟨(h.inv.jq h.calm id t).1,(h.inv.jq h.calm id t).2,h.early.jq id t⟩
end
section
variable {w : World} {b c t d p g : Nat} {v : Value} {m : Int} {M : Md}
theorem SH (r:Rq)(hM:Ok M)(h1:1≤M.dr.length)(hll:M.L.length≤190)(hm:m+1000≤1000000)(hnd: -9223372036854775808≤r.node∧r.node≤9223372036854775807):
 fE 1000 (1+2*M.L.length) m (vO r) (ai M) (Fin (m+1000) (fH M (toW r)).2 (lV (fH M (toW r)).1) false):=by
 have hg:=SA (a:=1+2*M.L.length) (m:=m) (mx:=m+1000) (R:=vO r) rfl hM.inv hM.calm hM.early h1 hll (qaf _) (Int.le_refl _) hm rfl rfl (JW r hnd);rw[show(vO r).ag=lU r from rfl,PU]at hg;exact hg
theorem GL (i x:Int)(hM:Ok M)(h1:1≤M.dr.length)(hll:M.L.length≤190)(hm:m+1000≤1000000)(hx: -9223372036854775808≤x∧x≤9223372036854775807):
 fE 1000 (1+2*M.L.length) m (Af i x) (ai M) (Fin (m+1000) (aL M i x).2 (lX M) (aL M i x).1):=
 GK (a:=1+2*M.L.length) (m:=m) (mx:=m+1000) (R:=Af i x) rfl hM.inv hM.calm h1 hll (qaf _) (Int.le_refl _) hm rfl rfl hx
end
section
variable {w : World} {b c t d p g a : Nat} {v : Value} {m : Int} {M : Md} {R : Wk}
theorem PV (h:cu w b R):Calls prog 67 #[.pointer (some ⟨b,0,none⟩)] w fun e w'=>e=.returned (.agg (bW R.rep).toArray)∧Below w.heap.size w w':=by
 obtain⟨y1,y2,y3,y4,y5,y6,y7,y8,y9,hy⟩:∃y1 y2 y3 y4 y5 y6 y7 y8 y9,R.rep=⟨y1,y2,y3,y4,y5,y6,y7,y8,y9⟩:=⟨_,_,_,_,_,_,_,_,_,rfl⟩;have h':∀o,cu (w.alloc o) b R:=fun o=>(((Below.refl w.heap.size w).alloc (qaf _) o).block b h.lt).trans h;have c24:∀o,(w.alloc o).cell? ⟨b,24,none⟩=some (.int .i64 y1):=fun o=>(h' o).at 24 (.int .i64 y1) (by show some (Value.int .i64 R.rep.1)=_;rw[hy]);have c25:∀o,(w.alloc o).cell? ⟨b,25,none⟩=some (.int .i64 y2):=fun o=>(h' o).at 25 (.int .i64 y2) (by show some (Value.int .i64 R.rep.2)=_;rw[hy]);have c26:∀o,(w.alloc o).cell? ⟨b,26,none⟩=some (.int .i64 y3):=fun o=>(h' o).at 26 (.int .i64 y3) (by show some (Value.int .i64 R.rep.3)=_;rw[hy]);have c27:∀o,(w.alloc o).cell? ⟨b,27,none⟩=some (.int .i64 y4):=fun o=>(h' o).at 27 (.int .i64 y4) (by show some (Value.int .i64 R.rep.4)=_;rw[hy]);have c28:∀o,(w.alloc o).cell? ⟨b,28,none⟩=some (.int .i64 y5):=fun o=>(h' o).at 28 (.int .i64 y5) (by show some (Value.int .i64 R.rep.5)=_;rw[hy]);have c29:∀o,(w.alloc o).cell? ⟨b,29,none⟩=some (.int .i64 y6):=fun o=>(h' o).at 29 (.int .i64 y6) (by show some (Value.int .i64 R.rep.6)=_;rw[hy]);have c30:∀o,(w.alloc o).cell? ⟨b,30,none⟩=some (.int .i64 y7):=fun o=>(h' o).at 30 (.int .i64 y7) (by show some (Value.int .i64 R.rep.7)=_;rw[hy]);have c31:∀o,(w.alloc o).cell? ⟨b,31,none⟩=some (.int .i64 y8):=fun o=>(h' o).at 31 (.int .i64 y8) (by show some (Value.int .i64 R.rep.8)=_;rw[hy]);have c32:∀o,(w.alloc o).cell? ⟨b,32,none⟩=some (.int .i64 y9):=fun o=>(h' o).at 32 (.int .i64 y9) (by show some (Value.int .i64 R.rep.9)=_;rw[hy]);rw[hy];clear h h' hy;go_enter func67,ntmps67;go_wp2_with fail;refine eH rfl rfl rfl (heap_alloc_new w _) underlying67 rfl (by kernel_rfl) ⟨rfl,?_⟩;exact qac.alloc (qaf _) _
theorem Wp (h:cu w b R):Calls prog 68 #[.pointer (some ⟨b,0,none⟩)] w fun e w'=>e=.returned (.bool R.ok)∧w=w':=by
 have Y3:=h.at 33 (.bool R.ok) rfl;clear h;generalize R.ok=o at*;go_enter func68,ntmps68;go_wp2_with fail;go_ret;exact⟨rfl,rfl⟩
end
structure De where
 NC:Bool
 r:Rq
 xi:Int
 xt:Int
def si (x:De):List Value:=.bool x.NC::(encR x.r++[.int .i64 x.xi,.int .i64 x.xt])
section
variable {w : World} {v : Value} {l : List De}
theorem ND (h:aC si 12 w v l):Calls prog 14 #[v] w fun e w'=>∃v',e=.returned v'∧aC si 12 w v' (l.take 60)∧w=w':=by
 have hr:=h;obtain⟨ao,cap,rfl,h1,h2,h3⟩:=h;by_cases hn:60<l.length
 ·have d1:decide ((60:Int)<(l.length:Int))=true:=qag (by omega);have hcut:=hr.cut (n:=60) (by omega);go_enter func14,ntmps14;go_wp2_with fail;go_ret;exact⟨_,rfl,hcut,rfl⟩
 ·have d1:decide ((60:Int)<(l.length:Int))=false:=qah (by omega);have e:l.take 60=l:=List.take_of_length_le (by omega);rw[e];go_enter func14,ntmps14;go_wp2_with fail;go_ret;exact⟨_,rfl,hr,rfl⟩
end
section
variable {M : Md}
theorem zn (M:Md)(j:Jb):(fB M j).L.length=M.L.length∧(fB M j).dr=M.dr:=⟨by show(M.L.map _).length=_;rw[List.length_map],rfl⟩
theorem Ux (hI:aG M)(r:Rw):(fH M r).2.L.length≤M.L.length+1∧(fH M r).2.dr.length=M.dr.length:=by
 unfold fH;by_cases hc:M.cl=true
 ·rw[qaj hc];exact⟨Nat.le_succ _,rfl⟩
 rw[qai hc];by_cases k1:r.kind=1
 ·rw[qaj k1];unfold jL;split
  ·exact⟨Nat.le_succ _,rfl⟩
  split
  ·exact⟨by show(M.L++[_]).length≤_;simp,rfl⟩
  ·refine⟨?_,rfl⟩;rw[(zn _ _).1];show(M.L++[_]).length≤_;simp
 rw[qai k1];by_cases k2:r.kind=2∨r.kind=5
 ·rw[qaj k2];unfold ma;simp only;split
  ·exact⟨Nat.le_succ _,rfl⟩
  split
  ·exact⟨Nat.le_succ _,rfl⟩
  ·exact⟨by show(M.L.set _ _).length≤_;rw[List.length_set];omega,rfl⟩
 rw[qai k2];by_cases k3:r.kind=3∨r.kind=4∨r.kind=6
 ·rw[qaj k3];unfold fZ;simp only;split
  ·exact⟨Nat.le_succ _,rfl⟩
  split
  ·exact⟨Nat.le_succ _,rfl⟩
  split
  ·refine⟨?_,rfl⟩;rw[(zn _ _).1];show(M.L.set _ _).length≤_;rw[List.length_set];omega
  ·exact⟨by show(M.L.set _ _).length≤_;rw[List.length_set];omega,rfl⟩
 rw[qai k3];by_cases k7:r.kind=7∨r.kind=8
 ·rw[qaj k7];unfold ik;split
  ·exact⟨Nat.le_succ _,rfl⟩
  split
  ·exact⟨Nat.le_succ _,rfl⟩
  ·unfold fI;split
   ·exact⟨by show(fB M kY).L.length≤_;rw[(zn _ _).1];omega,by show(M.dr.set _ _).length=_;rw[List.length_set]⟩
   ·exact⟨Nat.le_succ _,by show(M.dr.set _ _).length=_;rw[List.length_set]⟩
 rw[qai k7];by_cases k9:r.kind=9
 ·rw[qaj k9];unfold mq;split
  ·exact⟨Nat.le_succ _,rfl⟩
  ·have hn:=hI.mb.now;have hk:=FE (M.now+r.by') (2*M.L.length+1) hI.mb (by omega);exact⟨by show(dG _ _ M).L.length≤_;rw[hk.2.1];omega,by show(dG _ _ M).dr.length=_;rw[hk.2.2.1]⟩
 rw[qai k9]
 repeat' split
 all_goals exact⟨Nat.le_succ _,rfl⟩
theorem JX (M:Md)(id t:Int):(aL M id t).2.L.length=M.L.length∧(aL M id t).2.dr=M.dr:=by
 unfold aL;split
 ·split
  ·exact⟨by show(M.L.set _ _).length=_;rw[List.length_set],rfl⟩
  ·exact⟨by show(M.L.set _ _).length=_;rw[List.length_set],rfl⟩
 ·exact⟨rfl,rfl⟩
def GM (M:Md)(x:De):Md:=if x.NC then(aL M x.xi x.xt).2 else(fH M (toW x.r)).2
def mQ (M:Md)(l:List De):Md:=l.foldl GM M
theorem Ok.de (h:Ok M)(x:De):Ok (GM M x):=by
 unfold GM;split
 ·exact h.jq _ _
 ·exact h.H6 _
theorem Uy (h:Ok M)(x:De):(GM M x).L.length≤M.L.length+1∧(GM M x).dr.length=M.dr.length:=by
 unfold GM;split
 ·have:=JX M x.xi x.xt;exact⟨by rw[this.1];omega,by rw[this.2]⟩
 ·exact Ux h.inv _
theorem EX (h:Ok M)(l:List De):Ok (mQ M l)∧(mQ M l).L.length≤M.L.length+l.length∧(mQ M l).dr.length=M.dr.length:=by
 unfold mQ
 induction l generalizing M with
 |nil=>exact⟨h,qaf _,rfl⟩
 |cons x l ih=>
  obtain⟨h1,h2,h3⟩:=ih (h.de x);have:=Uy h x;exact⟨h1,by show(l.foldl GM (GM M x)).L.length≤M.L.length+(l.length+1);omega,h3.trans this.2⟩
theorem MJ (M:Md){l:List De}{i:Nat}(hi:i<l.length):mQ M (l.take (i+1))=GM (mQ M (l.take i)) l[i]:=by
 unfold mQ;rw[List.take_succ_eq_append_getElem hi,List.foldl_append];rfl
end
structure It where
 id:Int
 wd:Int
 lim:Int
 pl:Int
def eZ (x:It):List Value:=[.int .i64 x.id,.int .i64 x.wd,.int .i64 x.lim,.int .i64 x.pl]
def It.ok (x:It):Prop:=(1≤x.wd∧x.wd≤64)∧(1≤x.lim∧x.lim≤1048576)∧-1≤x.pl∧x.pl≤1099511627776
def JY (x:It):Bool:=decide (1≤x.wd)&&decide (x.wd≤64)&&decide (1≤x.lim)&&decide (x.lim≤1048576)&&decide (-1≤x.pl)&&decide (x.pl≤1099511627776)
theorem JZ (x:It):JY x=true↔x.ok:=by
 simp only[JY,It.ok,Bool.and_eq_true,decide_eq_true_eq];omega
theorem Uz {x:It}(h:¬x.ok):JY x=false:=by
 cases hx:JY x with
 |false=>rfl
 |true=>exact absurd ((JZ x).1 hx) h
def sj (now:Int)(x:It)(f f1:Int→Int)(r:Int):Prop:=
 (x.pl= -1∧f1=f∧r=0)∨(x.pl≠-1∧∃d,sK f now x.pl (x.pl+x.lim) x.wd r f1 d)
def su (x:It)(t e:Int):Prop:=e=0∧(x.pl= -1∨t<x.pl)
def GN (now:Int)(x:It)(f1:Int→Int)(t e:Int)(f':Int→Int)(c:List (Int×Int)):Prop:=
 (su x t e∧c=[(x.id,t)]∧∃r d,sK f1 now t (t+x.lim) (-x.wd) r f' d)∨
 (¬su x t e∧c=[]∧((x.pl= -1∧f'=f1)∨(x.pl≠-1∧∃r d,sK f1 now x.pl (x.pl+x.lim) (-x.wd) r f' d)))
def nL (now:Int)(x:It)(f f':Int→Int)(c:List (Int×Int)):Prop:=
 ∃f1 r,sj now x f f1 r∧((r≠0∧f'=f1∧c=[])∨(r=0∧∃t e,qX f1 now x.lim x.wd t e∧GN now x f1 t e f' c))
def dB (now:Int):List It→(Int→Int)→(Int→Int)→List (Int×Int)→Prop
 | [],f,f',c=>f'=f∧c=[]
 |x::l,f,f',c=>∃f1 c1 c2,nL now x f f1 c1∧dB now l f1 f' c2∧c=c1++c2
theorem sj.uniq {now:Int}{x:It}{f g f1 f2:Int→Int}{r s:Int}(h:sj now x f f1 r)(h':sj now x g f2 s)(hfg:∀t,now≤t→f t=g t):r=s∧∀t,now≤t→f1 t=f2 t:=by
 rcases h with⟨a1,rfl,rfl⟩|⟨a1,d,hA⟩<;>rcases h' with⟨b1,rfl,rfl⟩|⟨b1,d',hB⟩
 ·exact⟨rfl,hfg⟩
 ·exact absurd a1 b1
 ·exact absurd b1 a1
 ·obtain⟨h1,_,h3⟩:=hA.uniq hB hfg;exact⟨h1,h3⟩
theorem GN.uniq {now:Int}{x:It}{f g f1 f2:Int→Int}{t e:Int}{c1 c2:List (Int×Int)}(h:GN now x f t e f1 c1)(h':GN now x g t e f2 c2)(hfg:∀t,now≤t→f t=g t):c1=c2∧∀t,now≤t→f1 t=f2 t:=by
 rcases h with⟨a1,rfl,r,d,hA⟩|⟨a1,rfl,hA⟩<;>rcases h' with⟨b1,rfl,r',d',hB⟩|⟨b1,rfl,hB⟩
 ·exact⟨rfl,(hA.uniq hB hfg).2.2⟩
 ·exact absurd a1 b1
 ·exact absurd b1 a1
 ·refine⟨rfl,?_⟩;rcases hA with⟨p1,rfl⟩|⟨p1,r,d,hA⟩<;>rcases hB with⟨q1,rfl⟩|⟨q1,r',d',hB⟩
  ·exact hfg
  ·exact absurd p1 q1
  ·exact absurd q1 p1
  ·exact(hA.uniq hB hfg).2.2
theorem nL.uniq {now:Int}{x:It}{f g f1 f2:Int→Int}{c1 c2:List (Int×Int)}(h:nL now x f f1 c1)(h':nL now x g f2 c2)(hfg:∀t,now≤t→f t=g t):c1=c2∧∀t,now≤t→f1 t=f2 t:=by
 obtain⟨a1,r,hA,hA'⟩:=h;obtain⟨b1,s,hB,hB'⟩:=h';obtain⟨rfl,hab⟩:=hA.uniq hB hfg;rcases hA' with⟨r1,rfl,rfl⟩|⟨r1,t,e,hE,hL⟩<;>rcases hB' with⟨s1,rfl,rfl⟩|⟨s1,t',e',hE',hL'⟩
 ·exact⟨rfl,hab⟩
 ·exact absurd s1 r1
 ·exact absurd r1 s1
 ·obtain⟨rfl,rfl⟩:=hE.uniq hE' hab;exact hL.uniq hL' hab
theorem dB.uniq {now:Int}:∀(l:List It) {f g f1 f2:Int→Int} {c1 c2:List (Int×Int)},dB now l f f1 c1→dB now l g f2 c2→(∀t,now≤t→f t=g t)→c1=c2∧∀t,now≤t→f1 t=f2 t
 | [],_,_,_,_,_,_,⟨e1,e2⟩,⟨e3,e4⟩,hfg=>by subst e1;subst e2;subst e3;subst e4;exact⟨rfl,hfg⟩
 |x::l,_,_,_,_,_,_,⟨a1,b1,d1,h1,k1,e1⟩,⟨a2,b2,d2,h2,k2,e2⟩,hfg=>by
  obtain⟨rfl,h3⟩:=h1.uniq h2 hfg;obtain⟨rfl,h4⟩:=dB.uniq l k1 k2 h3;exact⟨e1.trans e2.symm,h4⟩
theorem dB.snoc {now:Int}{x:It}{f1 f2:Int→Int}{c2:List (Int×Int)}:∀(l:List It) {f:Int→Int} {c1:List (Int×Int)},dB now l f f1 c1→nL now x f1 f2 c2→dB now (l++[x]) f f2 (c1++c2)
 | [],_,_,⟨e1,e2⟩,h=>by
   subst e1;subst e2;exact⟨_,_,_,h,⟨rfl,rfl⟩,by simp⟩
 |y::l,_,_,⟨a,b,d,h1,k1,e1⟩,h=>⟨a,b,d++c2,h1,dB.snoc l k1 h,by rw[e1,List.append_assoc]⟩
theorem nL.len {now:Int}{x:It}{f f':Int→Int}{c:List (Int×Int)}(h:nL now x f f' c):c.length≤1:=by
 obtain⟨_,_,_,⟨_,_,rfl⟩|⟨_,_,_,_,hL⟩⟩:=h
 ·exact Nat.zero_le _
 ·rcases hL with⟨_,rfl,_⟩|⟨_,rfl,_⟩
  ·exact qaf _
  ·exact Nat.zero_le _
theorem dB.len {now:Int}:∀(l:List It) {f f':Int→Int} {c:List (Int×Int)},dB now l f f' c→c.length≤l.length
 | [],_,_,_,⟨_,e⟩=>by rw[e];exact Nat.zero_le _
 |x::l,_,_,_,⟨_,_,_,h1,h2,e⟩=>by
  rw[e,List.length_append,List.length_cons];have:=h1.len;have:=dB.len l h2;omega
end Go.Proofs.YtaimcpmcndapcaaGreat
