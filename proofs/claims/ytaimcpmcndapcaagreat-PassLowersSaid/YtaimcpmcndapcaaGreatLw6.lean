/-
 Own words and walks, merged: part 6 of 8.
-/
import Derived.Deep.RegionWith
import Derived.Test.YtaimcpmcndapcaaGreatLw5
set_option maxRecDepth 1000000
set_option maxHeartbeats 8000000
set_option linter.all false
namespace Go.Proofs.YtaimcpmcndapcaaGreat
open Go.Proofs.Tryz
open Go.RowKit Go.Lib Go.Sort
def gW (w:World)(b c t d p:Nat)(v:Value)(g a:Nat)(m:Int)(R:Wk)(P:Pg)(W:World):Prop:=∃v' g',SW W b c t d p v' g' a m R P∧WS w W b c t d p v g v' g'
theorem gW.ext {w:World}{b c t d p g a:Nat}{v:Value}{m:Int}{R:Wk}{P:Pg}:∀(x y:World),Reg2.Ext x y→gW w b c t d p v g a m R P x→gW w b c t d p v g a m R P y:=by
 rintro x y h ⟨v',g',h1,h2⟩;exact⟨v',g',h1.kept h,h2.trans (WS.of_below h)⟩
def kv (e:Int):Ry:=⟨e,0,0,0,0,0,0,0,0⟩
def toW (r:Rq):Rw:=⟨r.kind,r.id,r.user,r.width,r.limit,r.prio,r.held,r.node,r.till⟩
theorem EH {M:Md}(x:Jb)(h1:x.st≠3)(h2:aj x=false):ai {M with L:=M.L++[x]}={ai M with J:=M.L++[x]}:=by
 have e1:dh {M with L:=M.L++[x]}=dh M:=by
  refine pG (by rw[bC,bC]) fun n hn=>?_;rw[dm,dm];unfold aU;rw[show({M with L:=M.L++[x]}:Md).L=M.L++[x]from rfl,xz M.L x _ (by unfold aI;simp[h1])]
 have e2:(fun t=>ax {M with L:=M.L++[x]} t 0)=fun t=>ax M t 0:=funext fun t=>Bn x h1 h2 t 0;unfold ai;rw[e1,e2]
section
variable {w : World} {b c t d p g a : Nat} {v : Value} {m : Int} {M : Md} {R : Wk}
theorem DF (h:SW w b c t d p v g a m R (ai M))(hk:PK (ai M))(hw:mZ M.dr.length R.ag=9):
 Calls prog 213 #[.pointer (some ⟨b,0,none⟩),.pointer (some ⟨c,0,none⟩)] w (az w b c t d p v g a m .nilFunc {R with rep:=kv 9,ok:=false} (ai M)):=by
 have zR:=lC;have zJ:=bL;obtain⟨k9,bV⟩:∃k,k=9:=⟨_,rfl⟩;obtain⟨k,hkk⟩:=qaa (10);rw[←bV]at zR;rw[←hkk]at zJ;have hk0:¬k9=0:=by omega
 have hk1:¬k=0:=by omega
 have lR:=iR R.ag;rw[←bV]at lR;replace bV:=qae bV;replace hkk:=qae hkk;have hS:=qae h;have qO:=h.wk.nE lR;have O5:Hid (∀W,Below w.heap.size w W→Sem.run prog (loadCellsFrom ⟨b,0,none⟩ 0 k9 #[]) W=.ok (encR R.ag).toArray W):=fun W hW=>(h.kept hW).wk.nE lR;have rW:=ve h.cw hk.rR R.ag;have hsub:=fun(W:World) (hW:Below w.heap.size w W)=>pX (h.kept hW).cw hk R.ag;have hn:(ai M).T.length=M.dr.length:=bC;rw[hn]at rW;replace hn:=qae hn;generalize encR R.ag=cR at*;rw[hw]at rW;clear h hsub;go_enter func213,ntmps213;go_wp2_with fail;go_at_call 232;refine rW.mono ?_;clear rW qO;rintro e w1 ⟨rfl,hb1⟩;have hS1:=hS.out.kept hb1;have hf:=iF hS1.wk 9;go_wp2_with (go_at_call 188;go_must (refine hf.mono ?_);rintro e w9 ⟨rfl,ky,RG⟩);go_ret;exact⟨rfl,v,g,hS1.work ky RG,(WS.of_below hb1).trans (WS.bD RG)⟩
theorem submit_bad (h:SW w b c t d p v g a m R (ai M))(hk:PK (ai M))(hw:mZ M.dr.length R.ag=0)(e0:Int)(he0:e0≠0)(hE:iX M.L R.ag=e0):
 Calls prog 213 #[.pointer (some ⟨b,0,none⟩),.pointer (some ⟨c,0,none⟩)] w (az w b c t d p v g a m .nilFunc {R with rep:=kv e0,ok:=false} (ai M)):=by
 have zR:=lC;have zJ:=bL;obtain⟨k9,bV⟩:∃k,k=9:=⟨_,rfl⟩;obtain⟨k,hkk⟩:=qaa (10);rw[←bV]at zR;rw[←hkk]at zJ;have hk0:¬k9=0:=by omega
 have hk1:¬k=0:=by omega
 have lR:=iR R.ag;rw[←bV]at lR;replace bV:=qae bV;replace hkk:=qae hkk;have hS:=qae h;have qO:=h.wk.nE lR;have O5:Hid (∀W,Below w.heap.size w W→Sem.run prog (loadCellsFrom ⟨b,0,none⟩ 0 k9 #[]) W=.ok (encR R.ag).toArray W):=fun W hW=>(h.kept hW).wk.nE lR;have rW:=ve h.cw hk.rR R.ag;have hsub:=fun(W:World) (hW:Below w.heap.size w W)=>pX (h.kept hW).cw hk R.ag;have hn:(ai M).T.length=M.dr.length:=bC;rw[hn]at rW;replace hn:=qae hn;generalize encR R.ag=cR at*;rw[hw]at rW;unfold fw at hsub;obtain⟨RH,qP⟩:∃x,x=lF (ai M).J R.ag:=⟨_,rfl⟩;obtain⟨se,hse⟩:∃x,x=iX (ai M).J R.ag:=⟨_,rfl⟩;rw[←qP,←hse]at hsub;have hL:pU (ai M).J R.ag=M.L:=by
  have hE2:=hE;unfold iX at hE2;show pU M.L R.ag=M.L;unfold pU;split
  ·rfl
  ·rename_i h1
   rw[qai h1]at hE2;split
   ·rfl
   ·rename_i h2
    rw[qai h2]at hE2;omega
 rw[hL,show({ai M with J:=M.L}:Pg)=ai M from rfl]at hsub;have Jp:se=e0:=hse.trans hE;subst Jp;replace qP:=qae qP;replace hse:=qae hse;replace hL:=qae hL;have d0:(se != 0)=true:=by simp[he0]
 clear h;go_enter func213,ntmps213;go_wp2_with fail;go_at_call 232;refine rW.mono ?_;clear rW qO;rintro e w1 ⟨rfl,hb1⟩;have hS1:=qae (hS.out.kept hb1);go_wp2_with fail;refine Reg2.sO 13 49 (Reg2.rows 0 [.p 0,.p 1,.p 3,.p 7,.p 0,.p 16,.p 48,.p 112,.p 255,.p 511,.p 1023,.p 1023,.p 2047]) [0,0,0,2,0,0,0,2,3,0,0,0,0]
  [.pure,.pure,.pure,.pinned Unit () (fun _=>.pointer (some ⟨t,0,none⟩)) (fun _ _=>True),.pure,.pure,.pure,.pinned Unit () (fun _=>.agg cR.toArray) (fun _ _=>True),.major Unit () (fun _=>.tuple #[.int .i64 RH,.int .i64 se]),.pure,.pure,.pure,.pure]
  (fun _=>True) (fun vs W=>match vs with| []=>Below w1.heap.size w1 W|_::_=>(gW w b c t d p v g a m R (ai M)) W) (fun _ _=>True) (by kernel_rfl) (by kernel_rfl) rfl rfl (fun vs a b h hs=>by cases vs with|nil=>exact Below.trans hs (h.mono (Below.size hs))|cons v vs=>exact gW.ext a b h hs) ?_ ?_ ?_ ?_ ?_ ?_
 ·intro a b he hb;trivial
 ·intro a b he hb;trivial
 ·exact⟨trivial,trivial,trivial,⟨fun _ _ _ _ _=>trivial,fun _ _ _ _ _=>trivial⟩,trivial,trivial,trivial,⟨fun _ _ _ _ _=>trivial,fun _ _ _ _ _=>trivial⟩,trivial,trivial,trivial,trivial,trivial,trivial⟩
 ·trivial
 ·exact⟨rfl,rfl,rfl,qaf _,fun _ _=>rfl⟩
 dsimp only[Reg2.rows,Reg2.mk,List.zip,List.zipWith,List.take]
 repeat(refine' Reg2.ak _ (by rfl) (fun wz=>?_) ?_;rotate_left;(go_simp;first|rfl|rw[qai (by omega)]);simp only[Act.put,xA,xB,xC,xD,xE,id])
 refine Reg2.pp (fun wz _ hI hF=>?_) (fun r3=>?_) (by rfl)
 ·have c0:=(hS1.out.cw.kept hI).c0;go_wp2_with fail
  first|exact⟨_,rfl,rfl,qad⟩|exact⟨_,rfl,⟨(),rfl,trivial⟩,qad⟩
 simp only[Act.put,xA,xB,xC,xD,xE,id]
 repeat(refine' Reg2.ak _ (by rfl) (fun wz=>?_) ?_;rotate_left;(go_simp;first|rfl|rw[qai (by omega)]);simp only[Act.put,xA,xB,xC,xD,xE,id])
 refine Reg2.pp (fun wz _ hI hF=>?_) (fun r7=>?_) (by rfl)
 ·have d0:=O5.out wz (hb1.trans (Below.mono hI hb1.size));go_wp2_with fail
  first|exact⟨_,rfl,rfl,qad⟩|exact⟨_,rfl,⟨(),rfl,trivial⟩,qad⟩
 simp only[Act.put,xA,xB,xC,xD,xE,id];refine Reg2.pj (fun wz _ hI hF=>?_) (fun r8=>?_) (by rfl)
 ·go_wp2_with (go_at_call 138;go_must (refine(hsub wz (hb1.trans (Below.mono hI hb1.size))).mono ?_);rintro e w' ⟨rfl,v4,g4,nX,bM⟩);have hpost:gW w b c t d p v g a m R (ai M) w':=⟨v4,g4,(hS1.out.kept hI).core nX bM,(WS.of_below (hb1.trans (Below.mono hI hb1.size))).trans (WS.dD bM)⟩;exact⟨_,rfl,⟨⟨(),rfl⟩,hpost⟩,trivial⟩
 simp only[Act.put,xA,xB,xC,xD,xE,id]
 repeat(refine' Reg2.ak _ (by rfl) (fun wz=>?_) ?_;rotate_left;(go_simp;first|rfl|rw[qai (by omega)]);simp only[Act.put,xA,xB,xC,xD,xE,id])
 refine Reg2.aB ?_;intro w7 _ sS kG;clear kG;dsimp only[List.drop];obtain⟨v7,g7,gM,zf⟩:gW w b c t d p v g a m R (ai M) w7:=sS;have hf:=iF gM.wk se;go_wp2_with (go_at_call 188;go_must (refine hf.mono ?_);rintro e w9 ⟨rfl,ky,RG⟩);go_ret;exact⟨rfl,v7,g7,gM.work ky RG,zf.trans (WS.bD RG)⟩
theorem CF (h:SW w b c t d p v g a m R (ai M))(hk:PK (ai M))(hw:mZ M.dr.length R.ag=0)(hE:iX M.L R.ag=0)(hh:R.ag.held=true):
 Calls prog 213 #[.pointer (some ⟨b,0,none⟩),.pointer (some ⟨c,0,none⟩)] w (az w b c t d p v g a m .nilFunc {R with rep:=iZ (dC M (toW R.ag)),aD:=dC M (toW R.ag)} (ai {M with L:=M.L++[dC M (toW R.ag)]})):=by
 have zR:=lC;have zJ:=bL;obtain⟨k9,bV⟩:∃k,k=9:=⟨_,rfl⟩;obtain⟨k,hkk⟩:=qaa (10);rw[←bV]at zR;rw[←hkk]at zJ;have hk0:¬k9=0:=by omega
 have hk1:¬k=0:=by omega
 have lR:=iR R.ag;rw[←bV]at lR;replace bV:=qae bV;replace hkk:=qae hkk;have hS:=qae h;have qO:=h.wk.nE lR;have O5:Hid (∀W,Below w.heap.size w W→Sem.run prog (loadCellsFrom ⟨b,0,none⟩ 0 k9 #[]) W=.ok (encR R.ag).toArray W):=fun W hW=>(h.kept hW).wk.nE lR;have rW:=ve h.cw hk.rR R.ag;have hsub:=fun(W:World) (hW:Below w.heap.size w W)=>pX (h.kept hW).cw hk R.ag;have hn:(ai M).T.length=M.dr.length:=bC;rw[hn]at rW;replace hn:=qae hn;generalize encR R.ag=cR at*;rw[hw]at rW;unfold fw at hsub;obtain⟨RH,qP⟩:∃x,x=lF (ai M).J R.ag:=⟨_,rfl⟩;obtain⟨se,hse⟩:∃x,x=iX (ai M).J R.ag:=⟨_,rfl⟩;rw[←qP,←hse]at hsub;have hL:pU (ai M).J R.ag=M.L++[dC M (toW R.ag)]:=by
  have hE2:=hE;unfold iX at hE2;show pU M.L R.ag=_;unfold pU;split
  ·rename_i h1;rw[qaj h1]at hE2;omega
  ·rename_i h1
   rw[qai h1]at hE2;split
   ·rename_i h2;rw[qaj h2]at hE2;omega
   ·rfl
 have hI0:lF (ai M).J R.ag=(M.L.length:Int)+1:=by
  have hE2:=hE;unfold iX at hE2;show lF M.L R.ag=_;unfold lF;split
  ·rename_i h1;rw[qaj h1]at hE2;omega
  ·rename_i h1
   rw[qai h1]at hE2;split
   ·rename_i h2;rw[qaj h2]at hE2;omega
   ·rfl
 obtain⟨x,hx⟩:=qaa (dC M (toW R.ag));have hxs:x.st=if R.ag.held then 2 else 1:=by rw[hx];rfl
 have hxp:x.aJ= -1:=by rw[hx];rfl
 have hcore:=EH (M:=M) x (by rw[hxs];split<;>decide) (by unfold aj;rw[hxp];simp);rw[hL,←hx,show({ai M with J:=M.L++[x]}:Pg)=ai {M with L:=M.L++[x]}from hcore.symm]at hsub;rw[←hx];have hget:bI (M.L++[x]) ((M.L.length:Int)+1)=x:=by
  unfold bI;rw[qai (by omega),qai (by simp),show((M.L.length:Int)+1-1).toNat=M.L.length by omega];simp
 have Jp:se=0:=hse.trans hE;have LP:RH=(M.L.length:Int)+1:=qP.trans hI0;subst Jp;subst LP;replace qP:=qae qP;replace hse:=qae hse;replace hL:=qae hL;replace hx:=qae hx;replace hcore:=qae hcore;replace hI0:=qae hI0;clear h;rw[hh]at hxs;replace hxs:x.st=2:=hxs;go_enter func213,ntmps213;go_wp2_with fail;go_at_call 232;refine rW.mono ?_;clear rW qO;rintro e w1 ⟨rfl,hb1⟩;have hS1:=qae (hS.out.kept hb1);go_wp2_with fail;refine Reg2.sO 13 49 (Reg2.rows 0 [.p 0,.p 1,.p 3,.p 7,.p 0,.p 16,.p 48,.p 112,.p 255,.p 511,.p 1023,.p 1023,.p 2047]) [0,0,0,2,0,0,0,2,3,0,0,0,0]
  [.pure,.pure,.pure,.pinned Unit () (fun _=>.pointer (some ⟨t,0,none⟩)) (fun _ _=>True),.pure,.pure,.pure,.pinned Unit () (fun _=>.agg cR.toArray) (fun _ _=>True),.major Unit () (fun _=>.tuple #[.int .i64 ((M.L.length:Int)+1),.int .i64 0]),.pure,.pure,.pure,.pure]
  (fun _=>True) (fun vs W=>match vs with| []=>Below w1.heap.size w1 W|_::_=>(gW w b c t d p v g a m R (ai {M with L:=M.L++[x]})) W) (fun _ _=>True) (by kernel_rfl) (by kernel_rfl) rfl rfl (fun vs a b h hs=>by cases vs with|nil=>exact Below.trans hs (h.mono (Below.size hs))|cons v vs=>exact gW.ext a b h hs) ?_ ?_ ?_ ?_ ?_ ?_
 ·intro a b he hb;trivial
 ·intro a b he hb;trivial
 ·exact⟨trivial,trivial,trivial,⟨fun _ _ _ _ _=>trivial,fun _ _ _ _ _=>trivial⟩,trivial,trivial,trivial,⟨fun _ _ _ _ _=>trivial,fun _ _ _ _ _=>trivial⟩,trivial,trivial,trivial,trivial,trivial,trivial⟩
 ·trivial
 ·exact⟨rfl,rfl,rfl,qaf _,fun _ _=>rfl⟩
 dsimp only[Reg2.rows,Reg2.mk,List.zip,List.zipWith,List.take]
 repeat(refine' Reg2.ak _ (by rfl) (fun wz=>?_) ?_;rotate_left;(go_simp;first|rfl|rw[qai (by omega)]);simp only[Act.put,xA,xB,xC,xD,xE,id])
 refine Reg2.pp (fun wz _ hI hF=>?_) (fun r3=>?_) (by rfl)
 ·have c0:=(hS1.out.cw.kept hI).c0;go_wp2_with fail
  first|exact⟨_,rfl,rfl,qad⟩|exact⟨_,rfl,⟨(),rfl,trivial⟩,qad⟩
 simp only[Act.put,xA,xB,xC,xD,xE,id]
 repeat(refine' Reg2.ak _ (by rfl) (fun wz=>?_) ?_;rotate_left;(go_simp;first|rfl|rw[qai (by omega)]);simp only[Act.put,xA,xB,xC,xD,xE,id])
 refine Reg2.pp (fun wz _ hI hF=>?_) (fun r7=>?_) (by rfl)
 ·have d0:=O5.out wz (hb1.trans (Below.mono hI hb1.size));go_wp2_with fail
  first|exact⟨_,rfl,rfl,qad⟩|exact⟨_,rfl,⟨(),rfl,trivial⟩,qad⟩
 simp only[Act.put,xA,xB,xC,xD,xE,id];refine Reg2.pj (fun wz _ hI hF=>?_) (fun r8=>?_) (by rfl)
 ·go_wp2_with (go_at_call 138;go_must (refine(hsub wz (hb1.trans (Below.mono hI hb1.size))).mono ?_);rintro e w' ⟨rfl,v4,g4,nX,bM⟩);have hpost:gW w b c t d p v g a m R (ai {M with L:=M.L++[x]}) w':=⟨v4,g4,(hS1.out.kept hI).core nX bM,(WS.of_below (hb1.trans (Below.mono hI hb1.size))).trans (WS.dD bM)⟩;exact⟨_,rfl,⟨⟨(),rfl⟩,hpost⟩,trivial⟩
 simp only[Act.put,xA,xB,xC,xD,xE,id]
 repeat(refine' Reg2.ak _ (by rfl) (fun wz=>?_) ?_;rotate_left;(go_simp;first|rfl|rw[qai (by omega)]);simp only[Act.put,xA,xB,xC,xD,xE,id])
 refine Reg2.aB ?_;intro w7 _ sS kG;clear kG;dsimp only[List.drop];obtain⟨v7,g7,gM,zf⟩:gW w b c t d p v g a m R (ai {M with L:=M.L++[x]}) w7:=sS;have kz:=oz gM ((M.L.length:Int)+1);rw[show(ai {M with L:=M.L++[x]}).J=M.L++[x]from rfl,hget]at kz;go_wp2_with fail;go_at_call 209;refine kz.mono ?_;clear kz;rintro e w8 ⟨rfl,dU,gy⟩;have gL:=gM.work dU gy;have RI:=zf.trans (WS.bD gy);obtain⟨XM,ky⟩:=dU.uq x;have lJ:=ay x;rw[←hkk.out]at lJ;have gz:=gL.work ky (cO w8 _);have hfin:=RI.trans (WS.bD (cO w8 (gI {({R with rep:=iZ x}:Wk)with aD:=x}).toArray));have c17:=ky.at 17 (.int .i64 2) (by rw[←hxs];rfl);generalize gI {({R with rep:=iZ x}:Wk)with aD:=x}=W9 at*;generalize ah x=cJ at*;go_wp2_with fail;go_ret;exact⟨rfl,v7,g7,gz,hfin⟩
theorem Jq (h:SW w b c t d p v g a m R (ai M))(hk:PK (ai M))(hw:mZ M.dr.length R.ag=0)(hE:iX M.L R.ag=0)(hh:R.ag.held=false):
 Calls prog 213 #[.pointer (some ⟨b,0,none⟩),.pointer (some ⟨c,0,none⟩)] w (az w b c t d p v g a m (fF 233) {R with rep:=iZ (dC M (toW R.ag)),aD:=dC M (toW R.ag)} (ai {M with L:=M.L++[dC M (toW R.ag)]})):=by
 have zR:=lC;have zJ:=bL;obtain⟨k9,bV⟩:∃k,k=9:=⟨_,rfl⟩;obtain⟨k,hkk⟩:=qaa (10);rw[←bV]at zR;rw[←hkk]at zJ;have hk0:¬k9=0:=by omega
 have hk1:¬k=0:=by omega
 have lR:=iR R.ag;rw[←bV]at lR;replace bV:=qae bV;replace hkk:=qae hkk;have hS:=qae h;have qO:=h.wk.nE lR;have O5:Hid (∀W,Below w.heap.size w W→Sem.run prog (loadCellsFrom ⟨b,0,none⟩ 0 k9 #[]) W=.ok (encR R.ag).toArray W):=fun W hW=>(h.kept hW).wk.nE lR;have rW:=ve h.cw hk.rR R.ag;have hsub:=fun(W:World) (hW:Below w.heap.size w W)=>pX (h.kept hW).cw hk R.ag;have hn:(ai M).T.length=M.dr.length:=bC;rw[hn]at rW;replace hn:=qae hn;generalize encR R.ag=cR at*;rw[hw]at rW;unfold fw at hsub;obtain⟨RH,qP⟩:∃x,x=lF (ai M).J R.ag:=⟨_,rfl⟩;obtain⟨se,hse⟩:∃x,x=iX (ai M).J R.ag:=⟨_,rfl⟩;rw[←qP,←hse]at hsub;have hL:pU (ai M).J R.ag=M.L++[dC M (toW R.ag)]:=by
  have hE2:=hE;unfold iX at hE2;show pU M.L R.ag=_;unfold pU;split
  ·rename_i h1;rw[qaj h1]at hE2;omega
  ·rename_i h1
   rw[qai h1]at hE2;split
   ·rename_i h2;rw[qaj h2]at hE2;omega
   ·rfl
 have hI0:lF (ai M).J R.ag=(M.L.length:Int)+1:=by
  have hE2:=hE;unfold iX at hE2;show lF M.L R.ag=_;unfold lF;split
  ·rename_i h1;rw[qaj h1]at hE2;omega
  ·rename_i h1
   rw[qai h1]at hE2;split
   ·rename_i h2;rw[qaj h2]at hE2;omega
   ·rfl
 obtain⟨x,hx⟩:=qaa (dC M (toW R.ag));have hxs:x.st=if R.ag.held then 2 else 1:=by rw[hx];rfl
 have hxp:x.aJ= -1:=by rw[hx];rfl
 have hcore:=EH (M:=M) x (by rw[hxs];split<;>decide) (by unfold aj;rw[hxp];simp);rw[hL,←hx,show({ai M with J:=M.L++[x]}:Pg)=ai {M with L:=M.L++[x]}from hcore.symm]at hsub;rw[←hx];have hget:bI (M.L++[x]) ((M.L.length:Int)+1)=x:=by
  unfold bI;rw[qai (by omega),qai (by simp),show((M.L.length:Int)+1-1).toNat=M.L.length by omega];simp
 have Jp:se=0:=hse.trans hE;have LP:RH=(M.L.length:Int)+1:=qP.trans hI0;subst Jp;subst LP;replace qP:=qae qP;replace hse:=qae hse;replace hL:=qae hL;replace hx:=qae hx;replace hcore:=qae hcore;replace hI0:=qae hI0;clear h;rw[hh]at hxs;replace hxs:x.st=1:=hxs;go_enter func213,ntmps213;go_wp2_with fail;go_at_call 232;refine rW.mono ?_;clear rW qO;rintro e w1 ⟨rfl,hb1⟩;have hS1:=qae (hS.out.kept hb1);go_wp2_with fail;refine Reg2.sO 13 49 (Reg2.rows 0 [.p 0,.p 1,.p 3,.p 7,.p 0,.p 16,.p 48,.p 112,.p 255,.p 511,.p 1023,.p 1023,.p 2047]) [0,0,0,2,0,0,0,2,3,0,0,0,0]
  [.pure,.pure,.pure,.pinned Unit () (fun _=>.pointer (some ⟨t,0,none⟩)) (fun _ _=>True),.pure,.pure,.pure,.pinned Unit () (fun _=>.agg cR.toArray) (fun _ _=>True),.major Unit () (fun _=>.tuple #[.int .i64 ((M.L.length:Int)+1),.int .i64 0]),.pure,.pure,.pure,.pure]
  (fun _=>True) (fun vs W=>match vs with| []=>Below w1.heap.size w1 W|_::_=>(gW w b c t d p v g a m R (ai {M with L:=M.L++[x]})) W) (fun _ _=>True) (by kernel_rfl) (by kernel_rfl) rfl rfl (fun vs a b h hs=>by cases vs with|nil=>exact Below.trans hs (h.mono (Below.size hs))|cons v vs=>exact gW.ext a b h hs) ?_ ?_ ?_ ?_ ?_ ?_
 ·intro a b he hb;trivial
 ·intro a b he hb;trivial
 ·exact⟨trivial,trivial,trivial,⟨fun _ _ _ _ _=>trivial,fun _ _ _ _ _=>trivial⟩,trivial,trivial,trivial,⟨fun _ _ _ _ _=>trivial,fun _ _ _ _ _=>trivial⟩,trivial,trivial,trivial,trivial,trivial,trivial⟩
 ·trivial
 ·exact⟨rfl,rfl,rfl,qaf _,fun _ _=>rfl⟩
 dsimp only[Reg2.rows,Reg2.mk,List.zip,List.zipWith,List.take]
 repeat(refine' Reg2.ak _ (by rfl) (fun wz=>?_) ?_;rotate_left;(go_simp;first|rfl|rw[qai (by omega)]);simp only[Act.put,xA,xB,xC,xD,xE,id])
 refine Reg2.pp (fun wz _ hI hF=>?_) (fun r3=>?_) (by rfl)
 ·have c0:=(hS1.out.cw.kept hI).c0;go_wp2_with fail
  first|exact⟨_,rfl,rfl,qad⟩|exact⟨_,rfl,⟨(),rfl,trivial⟩,qad⟩
 simp only[Act.put,xA,xB,xC,xD,xE,id]
 repeat(refine' Reg2.ak _ (by rfl) (fun wz=>?_) ?_;rotate_left;(go_simp;first|rfl|rw[qai (by omega)]);simp only[Act.put,xA,xB,xC,xD,xE,id])
 refine Reg2.pp (fun wz _ hI hF=>?_) (fun r7=>?_) (by rfl)
 ·have d0:=O5.out wz (hb1.trans (Below.mono hI hb1.size));go_wp2_with fail
  first|exact⟨_,rfl,rfl,qad⟩|exact⟨_,rfl,⟨(),rfl,trivial⟩,qad⟩
 simp only[Act.put,xA,xB,xC,xD,xE,id];refine Reg2.pj (fun wz _ hI hF=>?_) (fun r8=>?_) (by rfl)
 ·go_wp2_with (go_at_call 138;go_must (refine(hsub wz (hb1.trans (Below.mono hI hb1.size))).mono ?_);rintro e w' ⟨rfl,v4,g4,nX,bM⟩);have hpost:gW w b c t d p v g a m R (ai {M with L:=M.L++[x]}) w':=⟨v4,g4,(hS1.out.kept hI).core nX bM,(WS.of_below (hb1.trans (Below.mono hI hb1.size))).trans (WS.dD bM)⟩;exact⟨_,rfl,⟨⟨(),rfl⟩,hpost⟩,trivial⟩
 simp only[Act.put,xA,xB,xC,xD,xE,id]
 repeat(refine' Reg2.ak _ (by rfl) (fun wz=>?_) ?_;rotate_left;(go_simp;first|rfl|rw[qai (by omega)]);simp only[Act.put,xA,xB,xC,xD,xE,id])
 refine Reg2.aB ?_;intro w7 _ sS kG;clear kG;dsimp only[List.drop];obtain⟨v7,g7,gM,zf⟩:gW w b c t d p v g a m R (ai {M with L:=M.L++[x]}) w7:=sS;have kz:=oz gM ((M.L.length:Int)+1);rw[show(ai {M with L:=M.L++[x]}).J=M.L++[x]from rfl,hget]at kz;go_wp2_with fail;go_at_call 209;refine kz.mono ?_;clear kz;rintro e w8 ⟨rfl,dU,gy⟩;have gL:=gM.work dU gy;have RI:=zf.trans (WS.bD gy);obtain⟨XM,ky⟩:=dU.uq x;have lJ:=ay x;rw[←hkk.out]at lJ;have gz:=gL.work ky (cO w8 _);have hfin:=RI.trans (WS.bD (cO w8 (gI {({R with rep:=iZ x}:Wk)with aD:=x}).toArray));have c17:=ky.at 17 (.int .i64 1) (by rw[←hxs];rfl);generalize gI {({R with rep:=iZ x}:Wk)with aD:=x}=W9 at*;generalize ah x=cJ at*;go_wp2_with fail;go_ret;exact⟨rfl,v7,g7,gz,hfin⟩
end
section
variable {w : World} {b c t d p g a : Nat} {v : Value} {m : Int} {P : Pg} {R : Wk}
theorem SW.drew (h:SW w b c t d p v g a m R P):SW w.drew b c t d p v g a m R P:=h.kept qac.drew
theorem WS.zg {w1:World}{v1:Value}{g1:Nat}(h:WS w.drew w1 b c t d p v g v1 g1):WS w w1 b c t d p v g v1 g1:=(WS.of_below qac.drew).trans h
theorem CW.V8 (h:CW w c t d p v g a m P)(F:Int→Int)(hf:∀t,P.now≤t→P.f t=F t):CW w c t d p v g a m {P with f:=F}:=by
 obtain⟨S,aF,hp,hC,hrest⟩:=h.mh;exact⟨h.cell,h.eU,h.nodes,S,aF,hp,hC.congr hf,hrest⟩
theorem O6 (h:SW w b c t d p v g a m R P)(hk:PK P)(hr:R.aD.st=3)(hn:0≤R.aD.bQ∧R.aD.bQ≤18446744073709551615):
 Calls prog 234 #[.pointer (some ⟨b,0,none⟩),.pointer (some ⟨c,0,none⟩)] w fun e w'=>∃(n x:Int) (T':List Int),Cb P.T R.aD.bQ.toNat n x T'∧az w b c t d p v g a m (fF 236) {R with idle:=n} {P with T:=T'} e w':=by
 have hS:=qae h;have hg:=EA h.drew.cw hk R.aD.bQ.toNat (by omega);rw[show((R.aD.bQ.toNat:Nat):Int)=R.aD.bQ by omega]at hg;have c17:=h.wk.at 17 (.int .i64 R.aD.st) rfl;have c21:=h.wk.at 21 (.int .u64 R.aD.bQ) rfl;have c1:=h.cw.c1;rw[hr]at c17;replace hn:=qae hn;clear h;go_enter func234,ntmps234;go_wp2_with fail;go_region_with (go_at_call 137;go_must (refine hg.mono ?_);rintro e w' ⟨n,x,T',hG,hL,rfl,v4,g4,nX,bM⟩;have gL:=hS.out.drew.core nX bM;have a22:=gL.wk.at 22 (.int .i64 R.idle) rfl;have f22:=gL.wk.free 22)
 all_goals
  have ky:=gL.wk.idle n;have gz:=gL.work ky (dw w' 22 (.int .i64 n));have hfin:=((WS.dD bM:WS w.drew w' b c t d p v g v4 g4).trans (WS.bD (dw w' 22 (.int .i64 n)))).zg;go_wp2_with fail;go_ret;exact⟨n,x,T',hG,rfl,v4,g4,gz,hfin⟩
theorem RJ (h:SW w b c t d p v g a m R P)(hr:R.aD.st≠3):
 Calls prog 234 #[.pointer (some ⟨b,0,none⟩),.pointer (some ⟨c,0,none⟩)] w (az w b c t d p v g a m (fF 236) R P):=by
 have c17:=h.wk.at 17 (.int .i64 R.aD.st) rfl;have d0:(R.aD.st == 3)=false:=by simp[hr]
 generalize R.aD.st=s at*;go_enter func234,ntmps234;go_wp2_with fail;go_ret;exact⟨rfl,v,g,h,WS.refl _⟩
theorem Gt (h:SW w b c t d p v g a m R P)(hk:PK P)(ha:a≤800)(hm:m≤1000000)(hP:aj R.aD=true)(hb1:R.aD.aJ≤1099511627776)(hb2:0≤R.aD.lim∧R.aD.lim≤1048576)(hb3:1≤R.aD.lim)(hb4:0≤R.aD.wid∧R.aD.wid≤64)(F:Int→Int)
 (hF:∀t,P.now≤t→F t=P.f t+had (max R.aD.aJ P.now) (R.aD.aJ+R.aD.lim) R.aD.wid t) (hr:∀t,P.now≤t→0≤F t∧F t≤64):
 Calls prog 236 #[.pointer (some ⟨b,0,none⟩),.pointer (some ⟨c,0,none⟩)] w (az w b c t d p v g (a+2) (m+1) .nilFunc R {P with f:=F}):=by
 have zJ:=bL;have zS:=kF;obtain⟨k,hk1⟩:=qaa (10);obtain⟨k3,hk3⟩:∃k,k=3:=⟨_,rfl⟩;rw[←hk1]at zJ;rw[←hk3]at zS;have hk0:¬k=0:=by omega
 have zZ:¬k3=0:=by omega
 have lJ:=ay R.aD;rw[←hk1]at lJ;replace hk1:=qae hk1;have hS:=qae h;have qO:=h.wk.nG lJ;have hpl:=kU (w:=w) R.aD hb1 hb2;have lS:(aO R.aD).length=3:=by unfold aO;split<;>rfl
 have oS:∀u∈aO R.aD,u.oneCell'=true:=by unfold aO;split<;>(intro u hu;simp at hu;rcases hu with rfl|rfl|rfl<;>rfl)
 have ST:Hid (∀W:World,Sem.run prog (storeCells ⟨W.heap.size,0,none⟩ (aO R.aD) 0) (W.alloc (.cells #[.int .i64 0,.int .i64 0,.int .i64 0] 131))=.ok () (W.alloc (.cells (aO R.aD).toArray 131))):=fun W=>df W W.heap.size (aO R.aD) [.int .i64 0,.int .i64 0,.int .i64 0] 131 rfl lS oS;rw[←hk3]at lS;replace hk3:=qae hk3;have hst:∀W,SW W b c t d p v g a m R P→W.cell? ⟨b,17,none⟩=some (.int .i64 R.aD.st):=fun W hW=>hW.wk.at 17 (.int .i64 R.aD.st) rfl;generalize kX:aO R.aD=cS at*;replace kX:=qae kX;generalize ah R.aD=cJ at*;clear h;have xG:R.aD.st=1:=(bu.1 hP).1;rw[xG]at hst;have mo:cS=[.int .i64 R.aD.aJ,.int .i64 (R.aD.aJ+R.aD.lim),.int .i64 R.aD.wid]:=by rw[←kX.out];unfold aO;rw[qaj hP]
 rw[hP]at hpl;replace hP:=qae hP;replace xG:=qae xG;replace mo:=qae mo;replace hst:=qae hst;go_enter func236,ntmps236;go_wp2_with fail;go_at_call 146;refine hpl.mono ?_;clear hpl qO;rintro e w1 ⟨rfl,hb⟩;have st1:=ST.out w1;obtain⟨w2,hw2⟩:=qaa (w1.alloc (.cells cS.toArray 131));rw[←hw2]at st1;have hb2':Below w.heap.size w w2:=by rw[hw2];exact hb.alloc hb.size _
 have hy2:Hid (w2.heap[w1.heap.size]? =some (.cells cS.toArray 131 (0,0))):=by show _=_;rw[hw2];exact heap_alloc_new w1 _
 have hs2:w2.heap.size=w1.heap.size+1:=by rw[hw2];simp
 replace hw2:=qae hw2;have hS2:=qae (hS.out.kept hb2');go_wp2_with fail;refine Reg2.ro w2 5 47 [.p 0,.p 1,.p 3,.m 7,.m 0] [.pointer (some ⟨p,0,none⟩),.agg cS.toArray] (by kernel_rfl) (by kernel_rfl) rfl rfl ⟨rfl,rfl,rfl,qaf _,fun _ _=>rfl⟩ ?_;dsimp only[Reg2.gY]
 repeat((first
  |(refine' Reg2.ak _ (by rfl) (fun wz=>?_) ?_;rotate_left;(go_simp;first|rfl|rw[qai (by omega)]))
  |(refine Reg2.aA (by rfl) (fun wz hI hF=>?_) (fun _=>?_)
    ·unfold Reg2.One;have c0:=(hS2.out.cw.kept hI).c2;have d0:=fT ((hI.block _ (au hy2.out)).trans hy2.out) lS;go_wp2_with fail
     first|exact⟨_,rfl,rfl,qad⟩|exact⟨_,rfl,⟨(),rfl,trivial⟩,qad⟩));simp only[Act.put,xA,xB,xC,xD,xE,id])
 refine Reg2.aB ?_;intro w4 HI4 _ eX;clear eX;dsimp only[List.drop];have bM:=hS2.out.kept HI4;have hrel:=uk bM.cw hk ha hm R.aD.aJ (R.aD.aJ+R.aD.lim) R.aD.wid F (by omega) (by omega) hb4 hF hr;have Jr:=mo.out;clear kX mo;subst Jr;go_wp2_with fail;go_at_call 200;refine hrel.mono ?_;clear hrel;rintro e w5 ⟨rfl,v5,g5,gK,hS5⟩;have eY:=bM.core gK hS5;have hfin:=(WS.of_below (hb2'.trans (HI4.mono hb2'.size)):WS w w4 b c t d p v g v g).trans (WS.dD hS5);have c17:=eY.wk.at 17 (.int .i64 R.aD.st) rfl;rw[xG.out]at c17;go_wp2_with fail;go_ret;exact⟨rfl,v5,g5,eY,hfin⟩
theorem Js (h:SW w b c t d p v g a m R P)(hk:PK P)(ha:a≤800)(hm:m≤1000000)(hP:R.aD.st=3)(hb1:R.aD.aJ≤1099511627776)(hb2:0≤R.aD.lim∧R.aD.lim≤1048576)(hb3:P.now<R.aD.fin∧R.aD.fin≤1099512676352)(hb4: -64≤R.idle∧R.idle≤64)(F:Int→Int)
 (hF:∀t,P.now≤t→F t=P.f t+had (max P.now P.now) R.aD.fin R.idle t) (hr:∀t,P.now≤t→0≤F t∧F t≤64):
 Calls prog 236 #[.pointer (some ⟨b,0,none⟩),.pointer (some ⟨c,0,none⟩)] w (az w b c t d p v g (a+2) (m+1) .nilFunc R {P with f:=F}):=by
 have zJ:=bL;have zS:=kF;obtain⟨k,hk1⟩:=qaa (10);obtain⟨k3,hk3⟩:∃k,k=3:=⟨_,rfl⟩;rw[←hk1]at zJ;rw[←hk3]at zS;have hk0:¬k=0:=by omega
 have zZ:¬k3=0:=by omega
 have lJ:=ay R.aD;rw[←hk1]at lJ;replace hk1:=qae hk1;have hS:=qae h;have qO:=h.wk.nG lJ;have hpl:=kU (w:=w) R.aD hb1 hb2;have lS:(aO R.aD).length=3:=by unfold aO;split<;>rfl
 have oS:∀u∈aO R.aD,u.oneCell'=true:=by unfold aO;split<;>(intro u hu;simp at hu;rcases hu with rfl|rfl|rfl<;>rfl)
 have ST:Hid (∀W:World,Sem.run prog (storeCells ⟨W.heap.size,0,none⟩ (aO R.aD) 0) (W.alloc (.cells #[.int .i64 0,.int .i64 0,.int .i64 0] 131))=.ok () (W.alloc (.cells (aO R.aD).toArray 131))):=fun W=>df W W.heap.size (aO R.aD) [.int .i64 0,.int .i64 0,.int .i64 0] 131 rfl lS oS;rw[←hk3]at lS;replace hk3:=qae hk3;have hst:∀W,SW W b c t d p v g a m R P→W.cell? ⟨b,17,none⟩=some (.int .i64 R.aD.st):=fun W hW=>hW.wk.at 17 (.int .i64 R.aD.st) rfl;generalize kX:aO R.aD=cS at*;replace kX:=qae kX;generalize ah R.aD=cJ at*;clear h;have hno:aj R.aD=false:=by unfold aj;rw[hP];rfl
 rw[hP]at hst;rw[hno]at hpl;replace hP:=qae hP;replace hno:=qae hno;go_enter func236,ntmps236;go_wp2_with fail;go_at_call 146;refine hpl.mono ?_;clear hpl qO;rintro e w1 ⟨rfl,hb⟩;have st1:=ST.out w1;obtain⟨w2,hw2⟩:=qaa (w1.alloc (.cells cS.toArray 131));rw[←hw2]at st1;have hb2':Below w.heap.size w w2:=by rw[hw2];exact hb.alloc hb.size _
 have hy2:Hid (w2.heap[w1.heap.size]? =some (.cells cS.toArray 131 (0,0))):=by show _=_;rw[hw2];exact heap_alloc_new w1 _
 have hs2:w2.heap.size=w1.heap.size+1:=by rw[hw2];simp
 replace hw2:=qae hw2;have hS2:=qae (hS.out.kept hb2');have c17:=hst w2 hS2.out;replace hst:=qae hst;go_wp2_with fail;refine Reg2.ro w2 18 47 [.p 0,.p 1,.p 3,.m 7,.p 0,.p 16,.p 48,.m 112,.m 240,.p 0,.p 512,.p 1536,.p 3584,.m 7680,.p 0,.p 16384,.p 49152,.m 114688] [.pointer (some ⟨p,0,none⟩),.pointer (some ⟨p,0,none⟩),.int .i64 P.now,.int .i64 R.aD.fin,.int .i64 R.idle] (by kernel_rfl) (by kernel_rfl) rfl rfl ⟨rfl,rfl,rfl,qaf _,fun _ _=>rfl⟩ ?_;dsimp only[Reg2.gY]
 repeat((first
  |(refine' Reg2.ak _ (by rfl) (fun wz=>?_) ?_;rotate_left;(go_simp;first|rfl|rw[qai (by omega)]))
  |(refine Reg2.aA (by rfl) (fun wz hI hF=>?_) (fun _=>?_)
    ·unfold Reg2.One;have c0:=(hS2.out.cw.kept hI).c2;go_wp2_with fail
     first|exact⟨_,rfl,rfl,qad⟩|exact⟨_,rfl,⟨(),rfl,trivial⟩,qad⟩));simp only[Act.put,xA,xB,xC,xD,xE,id])
 refine Reg2.pm (fun wz hI hF=>?_) (fun r8=>?_) (by rfl)
 ·go_wp2_with (go_at_call 45;go_must (refine(gq (hS2.out.kept hI).cw).mono ?_);rintro e w' ⟨rfl,rfl⟩)
  first|exact⟨_,rfl,rfl,qad⟩|exact⟨_,rfl,⟨(),rfl,trivial⟩,qad⟩
 simp only[Act.put,xA,xB,xC,xD,xE,id]
 repeat((first
  |(refine' Reg2.ak _ (by rfl) (fun wz=>?_) ?_;rotate_left;(go_simp;first|rfl|rw[qai (by omega)]))
  |(refine Reg2.aA (by rfl) (fun wz hI hF=>?_) (fun _=>?_)
    ·unfold Reg2.One;have q0:=(hS2.out.kept hI).wk.at 19 (.int .i64 R.aD.fin) rfl;have xR:=(hS2.out.kept hI).wk.at 22 (.int .i64 R.idle) rfl;go_wp2_with fail
     first|exact⟨_,rfl,rfl,qad⟩|exact⟨_,rfl,⟨(),rfl,trivial⟩,qad⟩));simp only[Act.put,xA,xB,xC,xD,xE,id])
 refine Reg2.aB ?_;intro w4 HI4 _ eX;clear eX;dsimp only[List.drop];have bM:=hS2.out.kept HI4;have hadd:=Nt bM.cw hk ha hm P.now R.aD.fin R.idle F hb3.1 (by omega) hb4 hF hr;go_wp2_with fail;go_at_call 132;refine hadd.mono ?_;clear hadd;rintro e w5 ⟨rfl,v5,g5,gK,hS5⟩;have eY:=bM.core gK hS5;have hfin:=(WS.of_below (hb2'.trans (HI4.mono hb2'.size)):WS w w4 b c t d p v g v g).trans (WS.dD hS5);go_wp2_with fail;go_ret;exact⟨rfl,v5,g5,eY,hfin⟩
theorem Gu (h:SW w b c t d p v g a m R P)(hk:PK P)(ha:a≤800)(hm:m≤1000000)(hP:aj R.aD=false)(hP2:R.aD.st≠3)(hb1:R.aD.aJ≤1099511627776)(hb2:0≤R.aD.lim∧R.aD.lim≤1048576):
 Calls prog 236 #[.pointer (some ⟨b,0,none⟩),.pointer (some ⟨c,0,none⟩)] w (az w b c t d p v g a m .nilFunc R P):=by
 have zJ:=bL;have zS:=kF;obtain⟨k,hk1⟩:=qaa (10);obtain⟨k3,hk3⟩:∃k,k=3:=⟨_,rfl⟩;rw[←hk1]at zJ;rw[←hk3]at zS;have hk0:¬k=0:=by omega
 have zZ:¬k3=0:=by omega
 have lJ:=ay R.aD;rw[←hk1]at lJ;replace hk1:=qae hk1;have hS:=qae h;have qO:=h.wk.nG lJ;have hpl:=kU (w:=w) R.aD hb1 hb2;have lS:(aO R.aD).length=3:=by unfold aO;split<;>rfl
 have oS:∀u∈aO R.aD,u.oneCell'=true:=by unfold aO;split<;>(intro u hu;simp at hu;rcases hu with rfl|rfl|rfl<;>rfl)
 have ST:Hid (∀W:World,Sem.run prog (storeCells ⟨W.heap.size,0,none⟩ (aO R.aD) 0) (W.alloc (.cells #[.int .i64 0,.int .i64 0,.int .i64 0] 131))=.ok () (W.alloc (.cells (aO R.aD).toArray 131))):=fun W=>df W W.heap.size (aO R.aD) [.int .i64 0,.int .i64 0,.int .i64 0] 131 rfl lS oS;rw[←hk3]at lS;replace hk3:=qae hk3;have hst:∀W,SW W b c t d p v g a m R P→W.cell? ⟨b,17,none⟩=some (.int .i64 R.aD.st):=fun W hW=>hW.wk.at 17 (.int .i64 R.aD.st) rfl;generalize kX:aO R.aD=cS at*;replace kX:=qae kX;generalize ah R.aD=cJ at*;clear h;have d0:(R.aD.st == 3)=false:=by simp[hP2]
 rw[hP]at hpl;generalize R.aD.st=s at*;go_enter func236,ntmps236;go_wp2_with fail;go_at_call 146;refine hpl.mono ?_;clear hpl qO;rintro e w1 ⟨rfl,hb⟩;have st1:=ST.out w1;obtain⟨w2,hw2⟩:=qaa (w1.alloc (.cells cS.toArray 131));rw[←hw2]at st1;have hb2':Below w.heap.size w w2:=by rw[hw2];exact hb.alloc hb.size _
 have hy2:Hid (w2.heap[w1.heap.size]? =some (.cells cS.toArray 131 (0,0))):=by show _=_;rw[hw2];exact heap_alloc_new w1 _
 have hs2:w2.heap.size=w1.heap.size+1:=by rw[hw2];simp
 replace hw2:=qae hw2;have hS2:=qae (hS.out.kept hb2');have c17:=hst w2 hS2.out;replace hst:=qae hst;go_wp2_with fail;go_ret;exact⟨rfl,v,g,hS2.out,WS.of_below hb2'⟩
end
theorem Gv {p:Jb→Bool}:∀{X:List Jb} {x:Jb} {r:List Jb},X.filter p=x::r→∃q,q<X.length∧X.getD q default=x∧(∀k,k<q→p (X.getD k default)=false)∧(X.drop (q+1)).filter p=r∧p x=true:=by
 intro X
 induction X with
 |nil=>intro x r h;cases h
 |cons y X ih=>
  intro x r h;cases hp:p y with
  |true=>
   rw[List.filter_cons_of_pos hp]at h;obtain⟨rfl,rfl⟩:=List.cons.inj h;exact⟨0,by simp,rfl,fun k hk=>absurd hk (Nat.not_lt_zero _),rfl,hp⟩
  |false=>
   rw[List.filter_cons_of_neg (by simp[hp])]at h;obtain⟨q,h1,h2,h3,h4,h5⟩:=ih h;refine⟨q+1,by simp;omega,by simpa using h2,fun k hk=>?_,by simpa using h4,h5⟩;cases k with
   |zero=>simpa using hp
   |succ k=>simpa using h3 k (by omega)
theorem filter_none {p:Jb→Bool}{X:List Jb}(h:X.filter p=[])(k:Nat)(hk:k<X.length):p (X.getD k default)=false:=by
 have h1:=List.filter_eq_nil_iff.1 h (X.getD k default) (aZ hk);simpa using h1
theorem getD_drop {L:List Jb}{k q:Nat}:(L.drop k).getD q default=L.getD (k+q) default:=by simp[List.getD]
theorem z8 {f:Jb→Jb}{L:List Jb}{k:Nat}:∀{k':Nat},k≤k'→k'≤L.length→(∀m,k≤m→m<k'→f (L.getD m default)=L.getD m default)→eO f L k=eO f L k':=by
 intro k'
 induction k' with
 |zero=>
  intro h _ _;obtain rfl:k=0:=by omega
  rfl
 |succ k' ih=>
  intro h1 h2 h3;rcases Nat.lt_or_ge k' k with h4|h4
  ·obtain rfl:k=k'+1:=by omega
   rfl
  ·rw[ih h4 (by omega) fun m a b=>h3 m a (by omega)];exact nk (by omega) (h3 k' h4 (by omega))
theorem wQ {t:Int}{j:Jb}(h:¬(j.st=3∧j.fin=t)):aW t j=j:=qai h
theorem CG {t:Int}{j:Jb}(h:j.st=3∧j.fin=t):aW t j=j.setSt 6:=qaj h
def jv (M:Md)(k:Nat):Md:={M with L:=eO (aW M.now) M.L k}
section
variable {M : Md}
theorem xS (k:Nat):(jv M k).L.length=M.L.length:=oH M.L k
theorem RL :jv M M.L.length={M with L:=M.L.map (aW M.now)}:=by unfold jv;rw[rq]
theorem O7 :jv M 0=M:=by unfold jv eO;simp
theorem RN (h:aG M)(h1:1≤M.dr.length)(h2:M.L.length≤900){f0:Int→Int}(hf:∀t,M.now≤t→0≤f0 t∧f0 t≤64):PK {ai M with f:=f0}:=by
 have:=fu h h1 h2;exact⟨this.now,this.few,this.st,this.lim,this.rR,hf⟩
theorem Gw {x y:Jb}(h:x.id≠y.id)(hn:aP y x=false):aP x y=true:=by
 unfold aP at*;simp only[Bool.or_eq_false_iff,Bool.and_eq_false_iff,decide_eq_false_iff_not,Bool.or_eq_true,Bool.and_eq_true,decide_eq_true_eq]at*;omega
theorem Jt {L:List Jb}{now:Int}{f:Nat}(hd:dA now (L.getD f default)=true)(hf:∀q,q<L.length→q≠f→dA now (L.getD q default)=true→aP (L.getD f default) (L.getD q default)=true):
 ∀k,k≤L.length→f<k→iA L now k=f:=by
 have sp:∀q,dA now (L.getD q default)=true↔(aj (L.getD q default)=true∧(L.getD q default).aJ=now):=fun q=>by unfold dA;simp
 intro k
 induction k with
 |zero=>intro _ h;omega
 |succ k ih=>
  intro hk hfk;unfold iA;rcases Nat.lt_or_ge f k with h1|h1
  ·rw[ih (by omega) h1,qai];rintro⟨h2,h3,h4⟩;have h5:=hf k (by omega) (by omega) ((sp k).2 ⟨h2,h3⟩);rcases h4 with h4|h4
   ·omega
   ·rw[Int.toNat_natCast]at h4;have:=G6 h5;rw[this]at h4;cases h4
  ·obtain rfl:f=k:=by omega
   obtain⟨h2,h3⟩:=(sp f).1 hd;rw[qaj];refine⟨h2,h3,?_⟩;rcases mY L now f with⟨h4,_⟩|⟨q,h4,h5,h6⟩
   ·exact .inl h4
   ·refine .inr ?_;rw[h4,Int.toNat_natCast];exact hf q (by omega) (by omega) h6
theorem LQ {f:Nat}(hfl:f<M.L.length)(hd:dA M.now (M.L.getD f default)=true)(hf:∀q,q<M.L.length→q≠f→dA M.now (M.L.getD q default)=true→aP (M.L.getD f default) (M.L.getD q default)=true):firstM M=f:=
 Jt hd hf _ (qaf _) hfl
theorem DI (n:Nat)(h:∀q,q<M.L.length→dA M.now (M.L.getD q default)=false):startGo n M=M:=by
 have hf:¬0≤firstM M:=by
  unfold firstM;rcases mY M.L M.now M.L.length with⟨h4,_⟩|⟨q,h4,h5,h6⟩
  ·omega
  ·rw[h q h5]at h6;cases h6
 induction n with
 |zero=>rfl
 |succ n ih=>unfold startGo;rw[qai hf];exact ih
structure Going (M F : Md) (r : List Jb) : Prop where
 inv:aG M
 run:∀j∈M.L,j.st=3→M.now<j.fin
 goes:∃n,startGo n M=F∧mf M≤n
 still:∀x∈r,1≤x.id∧x.id≤M.L.length∧M.L.getD (x.id-1).toNat default=x
 due:∀q,q<M.L.length→dA M.now (M.L.getD q default)=true→M.L.getD q default∈r
 sorted:r.Pairwise (fun x y=>aP y x=false)
 nodup:r.Pairwise (fun x y=>x.id≠y.id)
 pend:∀x∈r,x.st=1
theorem Going.skip {F:Md}{x:Jb}{r:List Jb}(h:Going M F (x::r))(hx:dA M.now x=false):Going M F r:=
 ⟨h.inv,h.run,h.goes,fun y hy=>h.still y (List.mem_cons_of_mem _ hy),fun q hq hd=>by
  rcases List.mem_cons.1 (h.due q hq hd)with e|e
  ·rw[e,hx]at hd;cases hd
  ·exact e,(List.pairwise_cons.1 h.sorted).2,(List.pairwise_cons.1 h.nodup).2,fun y hy=>h.pend y (List.mem_cons_of_mem _ hy)⟩
theorem Going.last {F:Md}(h:Going M F []):F=M:=by
 obtain⟨n,h1,_⟩:=h.goes;rw[←h1];refine DI n fun q hq=>?_;cases hd:dA M.now (M.L.getD q default)with
 |false=>rfl
 |true=>exact absurd (h.due q hq hd) (by simp)
theorem Going.next {F:Md}{x:Jb}{r:List Jb}(h:Going M F (x::r))(hx:dA M.now x=true):(x.id-1).toNat<M.L.length∧M.L.getD (x.id-1).toNat default=x∧Going (aX M (x.id-1).toNat) F r:=by
 obtain⟨i1,i2,i3⟩:=h.still x (List.mem_cons_self ..);obtain⟨f,hf⟩:=qaa ((x.id-1).toNat);have hfl:f<M.L.length:=by omega
 rw[←hf]at i3⊢;have hs:=List.pairwise_cons.1 h.sorted;have hn:=List.pairwise_cons.1 h.nodup;have hdf:dA M.now (M.L.getD f default)=true:=by rw[i3];exact hx
 have uS:firstM M=f:=LQ hfl hdf fun q hq hne hd=>by
  have hmem:=h.due q hq hd;have RO:=h.inv.ids q hq;have Jh:=h.inv.ids f hfl;rcases List.mem_cons.1 hmem with e|e
  ·rw[e]at RO;rw[i3]at Jh;omega
  ·rw[i3];exact Gw (hn.1 _ e) (hs.1 _ e)
 obtain⟨n,h1,h2⟩:=h.goes;obtain⟨s1,s2,s3,_⟩:=h.inv.start h.run hfl hdf;have hpos:1≤mf M:=by
  have h5:=Bo (fun j=>if dA M.now j=true then(1:Int)else 0) M.L (fun j _=>by split<;>omega) (aZ hfl);rw[qaj hdf]at h5;exact h5
 have hlen:(aX M f).L.length=M.L.length:=by unfold aX;exact List.length_set
 have hget:∀q,(aX M f).L.getD q default=if f=q∧f<M.L.length then fC M (M.L.getD f default)else M.L.getD q default:=fun q=>gF
 refine⟨hfl,i3,s1,s2,?_,?_,?_,hs.2,hn.2,fun y hy=>h.pend y (List.mem_cons_of_mem _ hy)⟩
 ·cases n with
  |zero=>omega
  |succ n=>
   refine⟨n,?_,by omega⟩;unfold startGo at h1;rw[uS,qaj (by omega),Int.toNat_natCast]at h1;exact h1
 ·intro y hy;obtain⟨a1,a2,a3⟩:=h.still y (List.mem_cons_of_mem _ hy);refine⟨a1,by rw[hlen];exact a2,?_⟩;rw[hget,qai,a3];rintro⟨e,_⟩;exact hn.1 y hy (by omega)
 ·intro q hq hd;rw[hlen]at hq;rw[hget]at hd⊢;by_cases e:f=q∧f<M.L.length
  ·rw[qaj e]at hd;have:dA (aX M f).now (fC M (M.L.getD f default))=false:=by unfold dA aj;rfl
   rw[this]at hd;cases hd
  ·rw[qai e]at hd⊢;rcases List.mem_cons.1 (h.due q hq hd)with e2|e2
   ·exfalso;have RO:=h.inv.ids q hq;rw[e2]at RO;exact e ⟨by omega,hfl⟩
   ·exact e2
end
def zh (w:World)(c t d p:Nat)(v:Value)(g a:Nat)(m:Int)(P:Pg)(W:World):Prop:=∃v' g',CW W c t d p v' g' a m P∧CS w W c t d p v g v' g'
theorem zh.ext {w:World}{c t d p g a:Nat}{v:Value}{m:Int}{P:Pg}:∀(x y:World),Reg2.Ext x y→zh w c t d p v g a m P x→zh w c t d p v g a m P y:=by
 rintro x y h ⟨v',g',h1,h2⟩;exact⟨v',g',h1.kept h,h2.trans (CS.of_below h)⟩
def vg (w:World)(c t d p:Nat)(v:Value)(g a:Nat)(m:Int)(P:Pg)(T:List Int)(W:World):Prop:=zh w c t d p v g a m P W∧iE T
theorem vg.ext {w:World}{c t d p g a:Nat}{v:Value}{m:Int}{P:Pg}{T:List Int}:∀(x y:World),Reg2.Ext x y→vg w c t d p v g a m P T x→vg w c t d p v g a m P T y:=fun x y h hs=>⟨zh.ext x y h hs.1,hs.2⟩
section
variable {w : World} {c t d p g a : Nat} {v : Value} {m : Int} {P : Pg} {M : Md}
theorem launch_fn (h:CW w c t d p v g a m P)(hk:PK P)(j:Jb)(hj: -9223372036854775808≤j.wid∧j.wid≤9223372036854775807){s:Nat}{T0:List Int}(hT0:qb P.T j.wid s 0 T0):
 Calls prog 268 #[.pointer (some ⟨c,0,none⟩),.agg (ah j).toArray] w (fw w c t d p v g a m (.tuple #[]) {P with T:=T0,J:=cz P.J (gH P.now) j.id (fun j:Jb=>decide (j.state=1)) (lG P.now s)}):=by
 obtain⟨wA,aK⟩:=qaa (w.alloc (.cells (ah j).toArray 55));have bS:Below w.heap.size w wA:=by rw[aK];exact qac.alloc (qaf _) _
 have hsA:wA.heap.size=w.heap.size+1:=by rw[aK];simp
 have qQ:Hid (wA.heap[w.heap.size]? =some (.cells (ah j).toArray 55 (0,0))):=by show _=_;rw[aK];exact heap_alloc_new w _
 have iU:=qae (h.kept bS);have hft:Hid (¬dY c t d p v g w.heap.size):=fun hf=>absurd (h.lt hf) (Nat.lt_irrefl _);have e0:(ah j)[0]? =some (.int .i64 j.id):=rfl;have e2:(ah j)[2]? =some (.int .i64 j.wid):=rfl;have zE:=bL;obtain⟨k,hk1⟩:=qaa (10);rw[←hk1]at zE;have hk0:¬k=0:=by omega
 replace hk1:=qae hk1;have RP:=fun(W:World) (hW:CW W c t d p v g a m P)=>OX hW hk j.wid hj;have hbe:=fun(W:World) (v1:Value) (g1:Nat) (hL:iE T0) (hW:CW W c t d p v1 g1 a m {P with T:=T0})=>Lx hW ⟨hk.now,hk.few,hk.st,hk.lim,hL,hk.f⟩ j.id P.now s;rw[show({P with T:=T0}:Pg).J=P.J from rfl]at hbe;have hLT:Hid (∀{T':List Int},iE T'→T0=T'→iE T0):=fun h1 h2=>h2▸h1;generalize ah j=cJ at*;generalize j.wid=jw at*;generalize j.id=ji at*;replace hT0:=qae hT0;clear h;go_enter func268,ntmps268;go_wp2_with fail;rw[←aK];replace aK:=qae aK;refine Reg2.sO 11 31 (Reg2.rows 0 [.p 0,.p 1,.p 3,.p 7,.p 0,.p 16,.p 63,.p 127,.p 255,.p 255,.p 511]) [0,0,0,2,0,2,3,0,0,0,0]
  [.pure,.pure,.pure,.pinned Unit () (fun _=>.pointer (some ⟨d,0,none⟩)) (fun _ _=>True),.pure,.pinned Unit () (fun _=>.int .i64 jw) (fun _ _=>True),.major Unit () (fun _=>.tuple #[.int .u64 s,.int .i64 0]),.pure,.pure,.pure,.pure]
  (fun _=>True) (fun vs W=>match vs with| []=>Below wA.heap.size wA W|_::_=>(vg wA c t d p v g a m {P with T:=T0} T0) W) (fun _ _=>True) (by kernel_rfl) (by kernel_rfl) rfl rfl (fun vs a b h hs=>by cases vs with|nil=>exact Below.trans hs (h.mono (Below.size hs))|cons v vs=>exact vg.ext a b h hs) ?_ ?_ ?_ ?_ ?_ ?_
 ·intro a b he hb;trivial
 ·intro a b he hb;trivial
 ·exact⟨trivial,trivial,trivial,⟨fun _ _ _ _ _=>trivial,fun _ _ _ _ _=>trivial⟩,trivial,⟨fun _ _ _ _ _=>trivial,fun _ _ _ _ _=>trivial⟩,trivial,trivial,trivial,trivial,trivial,trivial⟩
 ·trivial
 ·exact⟨rfl,rfl,rfl,qaf _,fun _ _=>rfl⟩
 dsimp only[Reg2.rows,Reg2.mk,List.zip,List.zipWith,List.take]
 repeat(refine' Reg2.ak _ (by rfl) (fun wz=>?_) ?_;rotate_left;(go_simp;first|rfl|rw[qai (by omega)]);simp only[Act.put,xA,xB,xC,xD,xE,id])
 refine Reg2.pp (fun wz _ hI hF=>?_) (fun r3=>?_) (by rfl)
 ·have c0:=(iU.out.kept hI).c1;go_wp2_with fail
  first|exact⟨_,rfl,rfl,qad⟩|exact⟨_,rfl,⟨(),rfl,trivial⟩,qad⟩
 simp only[Act.put,xA,xB,xC,xD,xE,id]
 repeat(refine' Reg2.ak _ (by rfl) (fun wz=>?_) ?_;rotate_left;(go_simp;first|rfl|rw[qai (by omega)]);simp only[Act.put,xA,xB,xC,xD,xE,id])
 refine Reg2.pp (fun wz _ hI hF=>?_) (fun r5=>?_) (by rfl)
 ·have q0:wz.cell? ⟨w.heap.size,2,none⟩=some (.int .i64 jw):=by simp[World.cell?,(hI.block _ (au qQ.out)).trans qQ.out,e2]
  go_wp2_with fail
  first|exact⟨_,rfl,rfl,qad⟩|exact⟨_,rfl,⟨(),rfl,trivial⟩,qad⟩
 simp only[Act.put,xA,xB,xC,xD,xE,id];refine Reg2.pj (fun wz _ hI hF=>?_) (fun r6=>?_) (by rfl)
 ·go_wp2_with (go_at_call 116;go_must (refine(RP wz (iU.out.kept hI)).mono ?_);rintro e w' ⟨s1,x1,T',hT,hL,rfl,v4,g4,nX,bM⟩);obtain⟨rfl,rfl,rfl⟩:=hT0.out.uniq hT;have hpost:vg wA c t d p v g a m {P with T:=T0} T0 w':=⟨⟨v4,g4,nX,(CS.of_below hI).trans bM⟩,hL⟩;exact⟨_,rfl,⟨⟨(),rfl⟩,hpost⟩,trivial⟩
 simp only[Act.put,xA,xB,xC,xD,xE,id]
 repeat(refine' Reg2.ak _ (by rfl) (fun wz=>?_) ?_;rotate_left;(go_simp;first|rfl|rw[qai (by omega)]);simp only[Act.put,xA,xB,xC,xD,xE,id])
 refine Reg2.aB ?_;intro w7 _ sS kG;clear kG;dsimp only[List.drop];obtain⟨⟨v7,g7,Aw,gM⟩,hL7⟩:zh wA c t d p v g a m {P with T:=T0} w7∧iE T0:=sS;have Ay:Hid (w7.heap[w.heap.size]? =some (.cells cJ.toArray 55 (0,0))):=(gM.heap (au qQ.out) hft.out).trans qQ.out;replace Aw:=qae Aw;go_wp2_with fail;refine Reg2.ro w7 12 31 [.p 0,.p 1,.p 3,.m 7,.p 0,.m 16,.p 0,.p 64,.p 192,.m 448,.m 960,.p 0] [.pointer (some ⟨t,0,none⟩),.int .i64 ji,.pointer (some ⟨p,0,none⟩),.int .i64 P.now] (by kernel_rfl) (by kernel_rfl) rfl rfl ⟨rfl,rfl,rfl,qaf _,fun _ _=>rfl⟩ ?_;dsimp only[Reg2.gY]
 repeat((first
  |(refine' Reg2.ak _ (by rfl) (fun wz=>?_) ?_;rotate_left;(go_simp;first|rfl|rw[qai (by omega)]))
  |(refine Reg2.aA (by rfl) (fun wz hI hF=>?_) (fun _=>?_)
    ·unfold Reg2.One;have c0:=(Aw.out.kept hI).c0;have q0:wz.cell? ⟨w.heap.size,0,none⟩=some (.int .i64 ji):=by simp[World.cell?,(hI.block _ (au Ay.out)).trans Ay.out,e0]
     have U9:=(Aw.out.kept hI).c2;go_wp2_with fail
     first|exact⟨_,rfl,rfl,qad⟩|exact⟨_,rfl,⟨(),rfl,trivial⟩,qad⟩));simp only[Act.put,xA,xB,xC,xD,xE,id])
 refine Reg2.pm (fun wz hI hF=>?_) (fun yN=>?_) (by rfl)
 ·go_wp2_with (go_at_call 45;go_must (refine(gq (Aw.out.kept hI)).mono ?_);rintro e w' ⟨rfl,rfl⟩)
  first|exact⟨_,rfl,rfl,qad⟩|exact⟨_,rfl,⟨(),rfl,trivial⟩,qad⟩
 simp only[Act.put,xA,xB,xC,xD,xE,id]
 repeat(refine' Reg2.ak _ (by rfl) (fun wz=>?_) ?_;rotate_left;(go_simp;first|rfl|rw[qai (by omega)]);simp only[Act.put,xA,xB,xC,xD,xE,id])
 refine Reg2.aB ?_;intro w8 XN _ eX;clear eX;dsimp only[List.drop];have V6:=Aw.out.kept XN;have vF:=hbe w8 v7 g7 hL7 V6;go_wp2_with fail;go_at_call 133;refine vF.mono ?_;clear vF;rintro e w9 ⟨rfl,v9,g9,Ju,gz⟩;have hfin:=(((CS.of_below bS:CS w wA c t d p v g v g).trans gM).trans (CS.of_below XN)).trans gz;go_wp2_with fail;go_end0;exact⟨rfl,v9,g9,Ju,hfin⟩
theorem boxed (wr:World)(x:Jb):Sem.run prog (storeCells ⟨wr.heap.size,0,none⟩ (ah x) 0) (wr.alloc (.cells #[.int .i64 0,.int .i64 0,.int .i64 0,.int .i64 0,.int .i64 0,.int .i64 0,.int .i64 0,.int .i64 0,.int .i64 0,.int .u64 0] 55))=.ok () (wr.alloc (.cells (ah x).toArray 55)):=
 df wr wr.heap.size (ah x) (ah iq) 55 rfl rfl (dH x)
theorem nC.off {w w1:World}{gb off:Nat}{l:List Jb}{v1:Value}{g1:Nat}(hJ:nC w gb off l)(hs:CS w w1 c t d p v g v1 g1)(hg:¬dY c t d p v g gb):nC w1 gb off l:=by
 have hb:w1.heap[gb]? =w.heap[gb]? :=hs.heap hJ.1 hg;exact⟨Nat.lt_of_lt_of_le hJ.1 hs.off.size,fun i s j u hi hj=>by
  have:=hJ.2 i s j u hi hj;simp only[World.cell?,World.frozen?,hb]at this⊢;exact this⟩
theorem LU (f0:Int→Int)(h:CW w c t d p v g a m {ai M with f:=f0})(hI:aG M)(h1:1≤M.dr.length)(hll:M.L.length≤900)(hf0:∀u,M.now≤u→0≤f0 u∧f0 u≤64):
 Calls prog 266 #[.pointer (some ⟨c,0,none⟩),.int .i64 M.now] w (fw w c t d p v g a m (.tuple #[]) {ai ({M with L:=M.L.map (aW M.now)}:Md)with f:=f0}):=by
 have zE:=bL;obtain⟨k,hk⟩:=qaa (10);rw[←hk]at zE;have hk0:¬k=0:=by omega
 replace hk:=qae hk;obtain⟨wA,aK⟩:=qaa (w.alloc (.cells #[.int .i64 3] 3));have bS:Below w.heap.size w wA:=by rw[aK];exact qac.alloc (qaf _) _
 have LV:aC enc1 1 wA (.slice (some ⟨w.heap.size,0,none⟩) 1 1) [3]:=by rw[aK];exact fM w w.heap.size [3] rfl (by decide)
 have iU:=h.kept bS;have hin:=tT iU.eU (by show M.L.length≤1000;omega) LV;rw[show({ai M with f:=f0}:Pg).J=M.L from rfl]at hin;have c0:=h.c0;have hlt:Hid (∀k,dY c t d p v g k→k<w.heap.size):=fun k hk=>h.lt hk;have XO:Hid (∀{W:World},CW W c t d p v g a m {ai M with f:=f0}→CW W c t d p v g a m {ai (jv M 0)with f:=f0}):=fun hW=>by rw[O7];exact hW
 generalize hL1:(M.L.filter fun j:Jb=>decide (j.state∈ [(3:Int)]))=l at*;have hn1:l.length≤900:=by rw[←hL1];exact Nat.le_trans (List.length_filter_le _ _) hll
 obtain⟨tn,htn⟩:=qaa (M.now);rw[←htn];have htb:=hI.mb.now;rw[←htn]at htb;replace htn:=qae htn;replace hL1:=qae hL1;rw[aK]at hin;clear h;go_enter func266,ntmps266;go_wp2_with fail;go_at_call 24;refine hin.mono ?_;clear hin c0;rw[←aK];rintro e w0 ⟨u,rfl,ho,hb0⟩;have hbw0:Below w.heap.size w w0:=bS.trans (hb0.mono bS.size);have hC0:=XO.out (iU.kept hb0);replace aK:=qae aK;have hsh:Hid (∀{ao:Option Addr} {n cap:Nat},u=.slice ao n cap→0<l.length→∃g0,ao=some ⟨g0,0,none⟩∧wA.heap.size≤g0):=fun{ao n cap} e hp=>by
  obtain⟨Kn,cap',e0,hp'⟩:=dE ho;obtain⟨g0,e4⟩:=hp' hp;subst e4;rw[e]at e0;injection e0 with e0 _ _;exact⟨g0,e0,(ho.lt g0 (by rw[e,e0];rfl)).1⟩
 have hr:=aC.fA ho ay rfl rfl;obtain⟨ao,cap,rfl,q1,q2,q3⟩:=hr;obtain⟨n,hn⟩:=qab (l.length);rw[hn]at q1 q3 hn1 ho⊢;have HQ:Hid (0<n→∃b,ao=some ⟨b,0,none⟩∧nC w0 b 0 l∧w.heap.size≤b):=fun hp=>by
  obtain⟨b,off,e1,e2,e3⟩:=q3 hp;obtain⟨g0,e4,e5⟩:=hsh.out rfl (by have:=hn;omega);rw[e4]at e1;injection e1 with e1;injection e1 with e6 e7;subst e6;subst e7;exact⟨g0,e4,⟨e2,e3⟩,by have:=bS.size;omega⟩
 have FX:cap≤9223372036854775807:=by unfold maxLen at q2;omega
 replace hn:=qae hn;clear q2 q3 ho hb0 iU;go_wp2_with fail;go_loopw [13] (fun ii wr=>∃(i kk:Nat) (vr:Value) (gr:Nat),i≤n∧ii=.int .i64 i∧CW wr c t d p vr gr a m {ai (jv M kk)with f:=f0}∧CS w0 wr c t d p v g vr gr∧Hid (kk≤M.L.length∧(M.L.drop kk).filter (fun j:Jb=>decide (j.state∈ [(3:Int)]))=l.drop i)) (fun ii _=>n-(intOf ii).toNat)
 case atStart=>exact⟨0,0,v,g,Nat.zero_le _,rfl,hC0,CS.refl _,qae ⟨Nat.zero_le _,by rw[List.drop_zero,List.drop_zero,hL1.out]⟩⟩
 case round=>
  obtain⟨i,kk,vr,gr,hin,rfl,Gx,hSr,hpos⟩:=hrel;by_cases hlt2:i<n
  ·have b2:(i:Int)<(n:Int):=by omega
   have wi:IntKind.i64.wrap ((i:Int)+1)=(i:Int)+1:=by rw[IntKind.wrap_i64];omega
   obtain⟨gb,rfl,hJ,hgb⟩:=HQ.out (by omega);have hgf:¬dY c t d p v g gb:=fun hf=>absurd (hlt.out gb hf) (by omega);have sP:=hJ.off hSr hgf;have iJ:i<l.length:=by have:=hn.out;omega
   have LI:=sP.load hk.out iJ;obtain⟨x,hx⟩:=qaa (l[i]!);rw[←hx,Nat.zero_add]at LI;replace hx:=qae hx;have hdrop:l.drop i=x::l.drop (i+1):=by rw[hx.out,getElem!_pos l i iJ];exact List.drop_eq_getElem_cons iJ
   obtain⟨hkk,hfil⟩:=hpos.out;rw[hdrop]at hfil;obtain⟨q,a1,a2,a3,a4,a5⟩:=Gv hfil;have hq:kk+q<M.L.length:=by rw[List.length_drop]at a1;omega
   rw[getD_drop]at a2;have RQ:eO (aW M.now) M.L kk=eO (aW M.now) M.L (kk+q):=z8 (by omega) (by omega) fun mm b1 b2=>wQ fun hh=>by
    have:=a3 (mm-kk) (by omega);rw[getD_drop,show kk+(mm-kk)=mm by omega]at this;exact absurd this (by show¬(decide ((M.L.getD mm default).state∈ [(3:Int)])=false);rw[show(M.L.getD mm default).state=3 from hh.1];decide)
   have hov:jv M kk=jv M (kk+q):=by unfold jv;rw[RQ]
   rw[hov]at Gx;have hx3:x.st=3:=(show x.state=3 by simpa using a5);have Gy:(M.L.drop (kk+q+1)).filter (fun j:Jb=>decide (j.state∈ [(3:Int)]))=l.drop (i+1):=by rw[←a4,List.drop_drop];rfl
   have RS:=hI.AU (kk+q) (by omega);have Va:=hI.AU (kk+q+1) (by omega);have zi:(jv M (kk+q)).L.getD (kk+q) default=x:=(qz hq).trans a2;have hxm:=aZ hq;rw[a2]at hxm;have Jv:=hI.ids (kk+q) hq;rw[a2]at Jv;have M9:=hI.mb.bQ x hxm;have XP:=qae (RN RS h1 (by show(jv M (kk+q)).L.length≤900;rw[xS];exact hll) hf0);have V9:=qae (RN Va h1 (by show(jv M (kk+q+1)).L.length≤900;rw[xS];exact hll) hf0);have XQ:=qae (I7 (M:=jv M (kk+q)) RS h1);replace Gy:=qae Gy;replace zi:=qae zi;replace a2:=qae a2;replace Jv:=qae Jv;replace RS:=qae RS;clear hfil hdrop a3 a4 a5 a1 RQ hpos hov Va;have lI:=ay x;rw[←hk.out]at lI;have e0:(ah x)[0]? =some (.int .i64 x.id):=rfl;have e7:(ah x)[7]? =some (.int .i64 x.fin):=rfl;have e9:(ah x)[9]? =some (.int .u64 x.bQ):=rfl;have st:=boxed wr x;obtain⟨w1,hw1⟩:=qaa (wr.alloc (.cells (ah x).toArray 55));have hb1:Below wr.heap.size wr w1:=by rw[hw1];exact qac.alloc (qaf _) _
   have hz1:w1.heap[wr.heap.size]? =some (.cells (ah x).toArray 55 (0,0)):=by rw[hw1];exact heap_alloc_new wr _
   have hft:¬dY c t d p vr gr wr.heap.size:=fun hf=>absurd (Gx.lt hf) (Nat.lt_irrefl _);have c7:w1.cell? ⟨wr.heap.size,7,none⟩=some (.int .i64 x.fin):=by simp[World.cell?,hz1,e7]
   replace hz1:=qae hz1;have yY:=qae (Gx.kept hb1);have hS1:=hSr.trans (CS.of_below hb1);generalize hcI:ah x=cI at*;replace hcI:=qae hcI;rw[←hw1]at st;replace hw1:=qae hw1;by_cases hfin:x.fin=tn
   ·have vK:x.st=3∧x.fin=M.now:=⟨hx3,hfin.trans htn.out⟩;have d1:(x.fin == tn)=true:=by simp[hfin]
    have hset:Hid (cz (jv M (kk+q)).L (bB 6 tn) x.id (fo 6) (bR 6 tn)=(jv M (kk+q+1)).L):=by
     have hle:=xS (M:=M) (kk+q);have FV:bN (jv M (kk+q)).L (bB 6 tn) x.id (fo 6)=0:=by
      have e1:bB 6 tn=0:=by unfold bB;rw[qai (by decide),qai (by decide),qai (by omega),qai (by omega)]
      unfold bN;rw[Jv.out,e1,qai (by decide),qai (by omega),qai (by omega),show((((kk+q:Nat):Int))+1-1).toNat=kk+q by omega,qaj];rw[getElem!_pos _ _ (by omega)];have:(jv M (kk+q)).L[kk+q]'(by omega)=x:=by rw[←zi.out];simp[List.getD,show kk+q<(jv M (kk+q)).L.length by omega]
      rw[this];unfold fo;rw[show x.state=3 from hx3];rfl
     show cz _ _ _ _ _=_;unfold cz;rw[qaj FV,Jv.out,show((((kk+q:Nat):Int))+1-1).toNat=kk+q by omega,getElem!_pos _ _ (by omega)];have e2:(jv M (kk+q)).L[kk+q]'(by omega)=x:=by rw[←zi.out];simp[List.getD,show kk+q<(jv M (kk+q)).L.length by omega]
     rw[e2];have e3:bR 6 tn x=aW M.now (M.L.getD (kk+q) default):=by
      rw[a2.out,CG vK];have h8:=hI.rest x hxm (by omega);obtain⟨x1,x2,x3,x4,x5,x6,x7,x8,x9,x0⟩:=x;obtain rfl:x6=3:=hx3;obtain rfl:x8=tn:=hfin;obtain rfl:x9= -1:=h8;rfl
     rw[e3];exact jd hq
    have hfi:=fun(W:World) (hW:CW W c t d p vr gr a m {ai (jv M (kk+q))with f:=f0})=>um hW XP.out x.id 6 tn;rw[show({ai (jv M (kk+q))with f:=f0}:Pg).J=(jv M (kk+q)).L from rfl,hset.out]at hfi;have hgi:=fun(W:World) (v1:Value) (g1:Nat) (hW:CW W c t d p v1 g1 a m {({ai (jv M (kk+q))with f:=f0}:Pg)with J:=(jv M (kk+q+1)).L})=>EA hW (by
     have h9:=V9.out;exact⟨h9.now,h9.few,h9.st,h9.lim,XQ.out,h9.f⟩) x.bQ.toNat (by omega)
    rw[show((x.bQ.toNat:Nat):Int)=x.bQ by omega]at hgi;have hge:Hid (∀{n1 x1:Int} {T':List Int},Cb (dh (jv M (kk+q))) x.bQ.toNat n1 x1 T'→T'=dh (jv M (kk+q+1))):=fun{n1 x1 T'} hG=>by
     have h8:=EB (M:=jv M (kk+q)) RS.out (i:=kk+q) (y:=aW M.now (M.L.getD (kk+q) default)) (by rw[xS];exact hq) (by rw[zi.out];exact hx3) (by rw[a2.out,CG vK];show(6:Int)≠3;decide) (n:=n1) (x:=x1) (T':=T') (by rw[zi.out];exact hG);rw[h8.2.2];have e4:({jv M (kk+q)with L:=(jv M (kk+q)).L.set (kk+q) (aW M.now (M.L.getD (kk+q) default))}:Md)=jv M (kk+q+1):=by unfold jv;rw[jd hq]
     rw[e4]
    replace hfin:=qae hfin;go_wp2_with fail;refine Reg2.ro w1 7 37 [.p 0,.p 1,.p 3,.m 7,.p 0,.m 16,.p 0] [.pointer (some ⟨t,0,none⟩),.int .i64 x.id] (by kernel_rfl) (by kernel_rfl) rfl rfl ⟨rfl,rfl,rfl,qaf _,fun _ _=>rfl⟩ ?_;dsimp only[Reg2.gY]
    repeat((first
     |(refine' Reg2.ak _ (by rfl) (fun wz=>?_) ?_;rotate_left;(go_simp;first|rfl|rw[qai (by omega)]))
     |(refine Reg2.aA (by rfl) (fun wz hI hF=>?_) (fun _=>?_)
       ·unfold Reg2.One;have c0:=(yY.out.kept hI).c0;have q0:wz.cell? ⟨wr.heap.size,0,none⟩=some (.int .i64 x.id):=by simp[World.cell?,(hI.block _ (au hz1.out)).trans hz1.out,e0]
        go_wp2_with fail
        first|exact⟨_,rfl,rfl,qad⟩|exact⟨_,rfl,⟨(),rfl,trivial⟩,qad⟩));simp only[Act.put,xA,xB,xC,xD,xE,id])
    refine Reg2.aB ?_;intro w4 HI4 _ eX;clear eX;dsimp only[List.drop];have nX:=yY.out.kept HI4;have XR:=hfi w4 nX;have Av:w4.heap[wr.heap.size]? =some (.cells cI.toArray 55 (0,0)):=(HI4.block _ (au hz1.out)).trans hz1.out;go_wp2_with fail;go_at_call 135;refine XR.mono ?_;clear XR;rintro e w5 ⟨rfl,v5,g5,gK,hS5⟩;have Iq:Hid (w5.heap[wr.heap.size]? =some (.cells cI.toArray 55 (0,0))):=(hS5.heap (au Av) hft).trans Av;replace gK:=qae gK;go_wp2_with fail;refine Reg2.ro w5 6 37 [.p 0,.p 1,.p 3,.m 7,.p 0,.m 16] [.pointer (some ⟨d,0,none⟩),.int .u64 x.bQ] (by kernel_rfl) (by kernel_rfl) rfl rfl ⟨rfl,rfl,rfl,qaf _,fun _ _=>rfl⟩ ?_;dsimp only[Reg2.gY]
    repeat((first
     |(refine' Reg2.ak _ (by rfl) (fun wz=>?_) ?_;rotate_left;(go_simp;first|rfl|rw[qai (by omega)]))
     |(refine Reg2.aA (by rfl) (fun wz hI hF=>?_) (fun _=>?_)
       ·unfold Reg2.One;have c0:=(gK.out.kept hI).c1;have q0:wz.cell? ⟨wr.heap.size,9,none⟩=some (.int .u64 x.bQ):=by simp[World.cell?,(hI.block _ (au Iq.out)).trans Iq.out,e9]
        go_wp2_with fail
        first|exact⟨_,rfl,rfl,qad⟩|exact⟨_,rfl,⟨(),rfl,trivial⟩,qad⟩));simp only[Act.put,xA,xB,xC,xD,xE,id])
    refine Reg2.aB ?_;intro w6 Ji _ eX;clear eX;dsimp only[List.drop];have Jj:=gK.out.kept Ji;have XT:=hgi w6 v5 g5 Jj;go_wp2_with fail;go_at_call 137;refine XT.mono ?_;clear XT;rintro e w7 ⟨n1,x1,T',hG,_,rfl,v7,g7,Aw,gM⟩;obtain rfl:=hge.out hG;have gz:=(hS1.trans (CS.of_below HI4)).trans (hS5.trans ((CS.of_below Ji).trans gM));go_wp2_with fail;go_roundw
    case rel=>exact⟨i+1,kk+q+1,v7,g7,by omega,by go_num,Aw,gz,qae ⟨by omega,Gy.out⟩⟩
    case measure=>simp[intOf];omega
   ·have d1:(x.fin == tn)=false:=by simp[hfin]
    have hsame:jv M (kk+q)=jv M (kk+q+1):=by
     unfold jv;rw[nk hq (wQ fun hh=>hfin (by rw[←a2.out];exact hh.2.trans htn.out.symm))]
    have Ju:=yY.out;rw[hsame]at Ju;go_wp2_with fail;go_roundw
    case rel=>exact⟨i+1,kk+q+1,vr,gr,by omega,by go_num,Ju,hS1,qae ⟨by omega,Gy.out⟩⟩
    case measure=>simp[intOf];omega
  ·have e:i=n:=by omega
   subst e;obtain⟨hkk,hfil⟩:=hpos.out;have hend:l.drop i=[]:=List.drop_eq_nil_of_le (by have:=hn.out;omega);rw[hend]at hfil;have hall:jv M kk={M with L:=M.L.map (aW M.now)}:=by
    rw[←RL];unfold jv;rw[z8 (k':=M.L.length) hkk (qaf _) fun mm b1 b2=>wQ fun hh=>by
     have:=filter_none hfil (mm-kk) (by rw[List.length_drop];omega);rw[getD_drop,show kk+(mm-kk)=mm by omega]at this;exact absurd this (by show¬(decide ((M.L.getD mm default).state∈ [(3:Int)])=false);rw[show(M.L.getD mm default).state=3 from hh.1];decide)]
   rw[hall]at Gx;have hfin:=(CS.of_below hbw0:CS w w0 c t d p v g v g).trans hSr;go_wp2_with fail;go_end0;have e9:=htn.out;clear htn;subst e9;exact⟨rfl,vr,gr,Gx,hfin⟩
end
theorem O8 {w:World}{base base':Nat}{e:TypeId}{sz n:Nat}{v:Value}{xs:List Value}(h:w.ownsRow base e sz v n xs)(hb:base'≤base):w.ownsRow base' e sz v n xs:=by
 obtain⟨h0,h1⟩:=h;refine⟨h0,?_⟩;rcases h1 with h1|⟨g,cap,cur,e0,h2,h3,h4⟩
 ·exact .inl h1
 ·exact .inr ⟨g,cap,cur,e0,by omega,h3,h4⟩
theorem O9 (v:Value)(l:List Jb)(w:World)(hr:aC ah 10 w v l)(hl:l.length≤1000):Calls prog 169 #[v] w fun e w'=>∃(v':Value) (r:List Jb),e=.returned v'∧w'.ownsRow w.heap.size 55 10 v' r.length (r.flatMap ah)∧r.length=l.length∧r.Perm l∧r.Pairwise (fun x y=>aP y x=false)∧Below w.heap.size w w':=by
 have hc:=yK hr (by omega);have hso:=fun(v:Value) (w1:World) (h:w1.ownsRow w.heap.size 55 10 v l.length (l.flatMap ah)) (hb:w.heap.size≤w1.heap.size)=>El v l w1 h (by omega) hb;clear hr;replace hso:=qae hso;go_enter func169,ntmps169;go_wp2_with fail;go_at_call 108;refine hc.mono ?_;clear hc;rintro e w1 ⟨v1,rfl,ho,hb⟩;have hs:=hso.out v1 w1 ho hb.size;clear hso ho;go_wp2_with fail;go_at_call 203;refine hs.mono ?_;clear hs;rintro e w2 ⟨rfl,r,⟨h1,_,h2,h5⟩,h3,h4⟩;have hfin:Hid (∃(v':Value) (r:List Jb),Ending.returned v1=.returned v'∧w2.ownsRow w.heap.size 55 10 v' r.length (r.flatMap ah)∧r.length=l.length∧r.Perm l∧r.Pairwise (fun x y=>aP y x=false)∧Below w.heap.size w w2):=
  ⟨v1,r,rfl,h3,h1,h2,h5,hb.trans h4⟩
 clear h1 h2 h3 h4 h5 hb;go_wp2_with fail;go_ret;exact hfin.out
section
variable {w w' : World} {p : Nat} {v : Value} {L : List Jb}
theorem Gz (h:TV w p v L)(hL:L.length≤1000):Calls prog 105 #[.pointer (some ⟨p,0,none⟩)] w fun e w'=>∃(v':Value) (r:List Jb),e=.returned v'∧w'.ownsRow w.heap.size 55 10 v' r.length (r.flatMap ah)∧r.Perm (L.filter fun j=>decide (j.state=1))∧r.Pairwise (fun x y=>aP y x=false)∧Below w.heap.size w w':=by
 have hb1:=(Below.refl w.heap.size w).alloc (qaf _) (.cells #[.int .i64 1] 3);have hr:aC enc1 1 (w.alloc (.cells #[.int .i64 1] 3)) (.slice (some ⟨w.heap.size,0,none⟩) 1 1) [1]:=fM w w.heap.size [1] rfl (by decide);have hI:=tT (h.kept hb1) hL hr;have ef:(L.filter fun j=>decide (j.state∈([1]:List Int)))=L.filter fun j=>decide (j.state=1):=by
  congr 1
  funext j
  simp
 rw[ef]at hI;have hF:(L.filter fun j=>decide (j.state=1)).length≤1000:=Nat.le_trans (List.length_filter_le _ _) hL;clear ef h hr;generalize (L.filter fun j=>decide (j.state=1))=F at*;replace hb1:=qae hb1;go_enter func105,ntmps105;go_wp2_with fail;go_at_call 24;refine hI.mono ?_;clear hI;rintro e w2 ⟨v2,rfl,ho,hb⟩;have hs:=O9 v2 F w2 (aC.fA ho ay rfl rfl) hF;have hb2:=hb1.out.trans (hb.mono hb1.out.size);replace hb2:=qae hb2;clear ho hb hb1;go_wp2_with fail;go_at_call 169;refine hs.mono ?_;clear hs;rintro e w3 ⟨v3,r,rfl,h1,_,h2,h3,h4⟩;have hfin:Hid (∃(v':Value) (r:List Jb),Ending.returned v3=.returned v'∧w3.ownsRow w.heap.size 55 10 v' r.length (r.flatMap ah)∧r.Perm F∧r.Pairwise (fun x y=>aP y x=false)∧Below w.heap.size w w3):=⟨v3,r,rfl,O8 h1 hb2.out.size,h2,h3,hb2.out.trans (h4.mono hb2.out.size)⟩;clear h1 h2 h3 h4 hb2;go_wp2_with fail;go_ret;exact hfin.out
end
section
variable {w : World} {c t d p g a : Nat} {v : Value} {m : Int} {M : Md}
theorem Jw (hrun:∀j∈M.L,j.st=3→M.now<j.fin):aM M M.now M.dr.length=(((List.range M.dr.length).countP fun n:Nat=>decide (aU M n=1):Nat):Int):=by
 unfold aM;congr 1;refine List.countP_congr fun n hn=>?_;have hn:=List.mem_range.1 hn;have hs:=jO (M:=M) hn;unfold bP;rcases fG M.L n with g|⟨q,g,hq,g2⟩
 ·rw[decide_eq_true_iff,hs];simp[g]
 ·have hr:(M.L.getD q default).st=3:=by unfold aI at g2;simp at g2;exact g2.1
  have:=hrun _ (aZ hq) hr;rw[decide_eq_true_iff,hs,g,Int.toNat_natCast];have e1:¬((q:Int)<0):=by omega
  have e2:decide ((M.L.getD q default).fin≤M.now)=false:=qah (by omega);rw[e2,qah e1,Bool.or_false,Bool.and_false];exact⟨fun e=>(nomatch e),fun e=>absurd e.1 e1⟩
theorem Pb (hI:aG M)(hrun:∀j∈M.L,j.st=3→M.now<j.fin){f:Nat}(hf:f<M.L.length)(hd:dA M.now (M.L.getD f default)=true):(M.L.getD f default).wid≤((List.range M.dr.length).countP fun n:Nat=>decide (aU M n=1):Nat):=by
 have hm:=aZ hf;have bo:=hI.one _ hm;unfold dA at hd;rw[Bool.and_eq_true,decide_eq_true_iff,bu]at hd;have hpl:aj (M.L.getD f default)=true:=bu.2 hd.1;have hid:=hI.ids f hf;have hc:=fun t=>mD (t:=t) (but:=0) hpl (by rw[hid];omega);have h0:=hI.free M.now (Int.le_refl _);have hge:=vY (L:=M.L) (fun j hj=>(hI.mb.wid j hj).1) M.now 0 hm;rw[hc,qaj (by omega)]at hge;rw[←Jw hrun];unfold ax at h0;omega
theorem Jy (hI:aG M){f:Nat}(hf:f<M.L.length)(hs:(M.L.getD f default).st≠3)(hidle:(M.L.getD f default).wid≤((List.range M.dr.length).countP fun n:Nat=>decide (aU M n=1):Nat)):qb (dh M) (M.L.getD f default).wid (iM M (M.L.getD f default).wid) 0 (dh (aX M f)):=by
 have hw:=(hI.one _ (aZ hf)).1;have hc:(M.L.getD f default).wid≤aQ (gZ (dh M)) (dh M).length:=by
  rw[rT,bC];have e:gZ (dh M)=fun n:Nat=>decide (aU M n=1):=funext uY;rw[e];exact hidle
 have hT:qb (dh M) (M.L.getD f default).wid (aR (il (dh M) (M.L.getD f default).wid)) 0 (fq (dh M) (M.L.getD f default).wid):=⟨fun h=>by omega,fun _ h=>by omega,fun _ _=>⟨rfl,rfl,rfl⟩⟩;obtain⟨e1,_,e3⟩:=LC hf hs hI.mb.nn hw hidle hT;rw[e1,e3]at hT;exact hT
theorem Aa (hI:aG M){f:Nat}(hf:f<M.L.length)(hs:(M.L.getD f default).st=1):cz M.L (gH M.now) (M.L.getD f default).id (fun j:Jb=>decide (j.state=1)) (lG M.now (iM M (M.L.getD f default).wid:Int))=(aX M f).L:=by
 have hid:=hI.ids f hf;have kg:=hI.mb.now;have e2:M.L[f]! =M.L.getD f default:=by rw[getElem!_pos M.L f hf];simp[List.getD,hf]
 have FV:bN M.L (gH M.now) (M.L.getD f default).id (fun j:Jb=>decide (j.state=1))=0:=by
  have e1:gH M.now=0:=by unfold gH;rw[qai (by omega),qai (by omega)]
  unfold bN;rw[hid,e1,qai (by decide),qai (by omega),qai (by omega),show((f:Int)+1-1).toNat=f by omega,e2];exact qaj (qag hs)
 unfold cz;rw[qaj FV,hid,show((f:Int)+1-1).toNat=f by omega,e2];rfl
theorem Pf (f0:Int→Int)(h:CW w c t d p v g a m {ai M with f:=f0})(hI:aG M)(hrun:∀j∈M.L,j.st=3→M.now<j.fin)(n0:Nat)(H5:mf M≤n0)(h1:1≤M.dr.length)(hll:M.L.length≤900)(hf0:∀u,M.now≤u→0≤f0 u∧f0 u≤64):
 Calls prog 267 #[.pointer (some ⟨c,0,none⟩),.int .i64 M.now] w (fw w c t d p v g a m (.tuple #[]) {ai (startGo n0 M)with f:=f0}):=by
 have zE:=bL;obtain⟨k,hk⟩:=qaa (10);rw[←hk]at zE;have hk0:¬k=0:=by omega
 replace hk:=qae hk;have hwt:=Gz h.eU (by show M.L.length≤1000;omega);rw[show({ai M with f:=f0}:Pg).J=M.L from rfl]at hwt;have c0:=h.c0;have hlt:Hid (∀k,dY c t d p v g k→k<w.heap.size):=fun k hk=>h.lt hk;have hC:=qae h;obtain⟨tn,htn⟩:=qaa (M.now);obtain⟨F,hF⟩:=qaa (startGo n0 M);rw[←hF];have hg0:Hid (∀{r:List Jb},r.Perm (M.L.filter fun j=>decide (j.state=1))→r.Pairwise (fun x y=>aP y x=false)→Going M F r):=fun{r} hp hs=>by
  have hin:∀x∈r,x∈M.L:=fun x hx=>(List.mem_filter.1 (hp.mem_iff.1 hx)).1;refine⟨hI,hrun,⟨n0,hF.symm,H5⟩,fun x hx=>?_,fun q hq hd=>?_,hs,?_,fun x hx=>by have:=(List.mem_filter.1 (hp.mem_iff.1 hx)).2;exact of_decide_eq_true this⟩
  ·obtain⟨q,hq,e⟩:=List.getElem_of_mem (hin x hx);have e2:M.L.getD q default=x:=by simp[List.getD,hq,e]
   have:=hI.ids q hq;rw[e2]at this;refine⟨by omega,by omega,?_⟩;rw[show(x.id-1).toNat=q by omega];exact e2
  ·refine hp.mem_iff.2 (List.mem_filter.2 ⟨aZ hq,?_⟩);unfold dA at hd;rw[Bool.and_eq_true]at hd;exact qag (bu.1 hd.1).1
  ·refine(hp.pairwise_iff (fun{x y} hxy=>Ne.symm hxy)).2 (List.Pairwise.filter _ ?_);refine List.pairwise_iff_getElem.2 fun i q hi hq hlt2 e=>?_;have e1:=hI.ids i hi;have e2:=hI.ids q hq;rw[show M.L.getD i default=M.L[i]by simp[List.getD,hi]]at e1;rw[show M.L.getD q default=M.L[q]by simp[List.getD,hq]]at e2;omega
 have hM:Hid (∃N:Md,N=M):=⟨M,rfl⟩;have hdl:Hid (1≤M.dr.length∧M.dr.length≤64):=⟨h1,hI.mb.nn⟩;have hlen:(M.L.filter fun j:Jb=>decide (j.state=1)).length≤900:=Nat.le_trans (List.length_filter_le _ _) hll;rw[←htn]at hf0⊢;have htb:=hI.mb.now;rw[←htn]at htb;clear h hrun H5;replace hF:=qae hF;replace htn:=qae htn;go_enter func267,ntmps267;go_wp2_with fail;go_at_call 105;refine hwt.mono ?_;clear hwt c0;rintro e w0 ⟨u,l,rfl,ho,hp,hs,hb0⟩;have hG0:=hg0.out hp hs;have hC0:=hC.out.kept hb0;have hn1:l.length≤900:=by rw[hp.length_eq];exact hlen
 clear hp hs hlen hg0;have hsh:Hid (∀{ao:Option Addr} {n cap:Nat},u=.slice ao n cap→0<l.length→∃g0,ao=some ⟨g0,0,none⟩∧w.heap.size≤g0):=fun{ao n cap} e hp=>by
  obtain⟨Kn,cap',e0,hp'⟩:=dE ho;obtain⟨g0,e4⟩:=hp' hp;subst e4;rw[e]at e0;injection e0 with e0 _ _;exact⟨g0,e0,(ho.lt g0 (by rw[e,e0];rfl)).1⟩
 have hr:=aC.fA ho ay rfl rfl;obtain⟨ao,cap,rfl,q1,q2,q3⟩:=hr;obtain⟨n,hn⟩:=qab (l.length);rw[hn]at q1 q3 hn1 ho⊢;have HQ:Hid (0<n→∃b,ao=some ⟨b,0,none⟩∧nC w0 b 0 l∧w.heap.size≤b):=fun hp=>by
  obtain⟨b,off,e1,e2,e3⟩:=q3 hp;obtain⟨g0,e4,e5⟩:=hsh.out rfl (by have:=hn;omega);rw[e4]at e1;injection e1 with e1;injection e1 with e6 e7;subst e6;subst e7;exact⟨g0,e4,⟨e2,e3⟩,e5⟩
 have FX:cap≤9223372036854775807:=by unfold maxLen at q2;omega
 replace hn:=qae hn;clear q2 q3 ho;go_wp2_with fail;go_loopw [12] (fun ii wr=>∃(i:Nat) (N:Md) (vr:Value) (gr:Nat),i≤n∧ii=.int .i64 i∧CW wr c t d p vr gr a m {ai N with f:=f0}∧CS w0 wr c t d p v g vr gr∧Hid (Going N F (l.drop i)∧N.now=tn∧N.dr.length=M.dr.length∧N.L.length=M.L.length)) (fun ii _=>n-(intOf ii).toNat)
 case atStart=>exact⟨0,M,v,g,Nat.zero_le _,rfl,hC0,CS.refl _,qae ⟨by rw[List.drop_zero];exact hG0,htn.out.symm,rfl,rfl⟩⟩
 case round=>
  obtain⟨i,N,vr,gr,hin,rfl,Gx,hSr,hgo⟩:=hrel;by_cases hlt2:i<n
  ·have b2:(i:Int)<(n:Int):=by omega
   have wi:IntKind.i64.wrap ((i:Int)+1)=(i:Int)+1:=by rw[IntKind.wrap_i64];omega
   obtain⟨gb,rfl,hJ,hgb⟩:=HQ.out (by omega);have hgf:¬dY c t d p v g gb:=fun hf=>absurd (hlt.out gb hf) (by omega);have sP:=hJ.off hSr hgf;have iJ:i<l.length:=by have:=hn.out;omega
   have LI:=sP.load hk.out iJ;obtain⟨x,hx⟩:=qaa (l[i]!);rw[←hx,Nat.zero_add]at LI;replace hx:=qae hx;have hdrop:l.drop i=x::l.drop (i+1):=by rw[hx.out,getElem!_pos l i iJ];exact List.drop_eq_getElem_cons iJ
   obtain⟨uu,kg,hdr,Ut⟩:=hgo.out;rw[hdrop]at uu;replace uu:=qae uu;clear hgo;have lI:=ay x;rw[←hk.out]at lI;have e8:(ah x)[8]? =some (.int .i64 x.aJ):=rfl;have st:=boxed wr x;obtain⟨w1,hw1⟩:=qaa (wr.alloc (.cells (ah x).toArray 55));have hb1:Below wr.heap.size wr w1:=by rw[hw1];exact qac.alloc (qaf _) _
   have hz1:w1.heap[wr.heap.size]? =some (.cells (ah x).toArray 55 (0,0)):=by rw[hw1];exact heap_alloc_new wr _
   have c8:w1.cell? ⟨wr.heap.size,8,none⟩=some (.int .i64 x.aJ):=by simp[World.cell?,hz1,e8]
   have ld1:=fT hz1 lI;replace hz1:=qae hz1;have yY:=Gx.kept hb1;have hS1:=hSr.trans (CS.of_below hb1);rw[←hw1]at st;replace hw1:=qae hw1;by_cases hpl:x.aJ=tn
   ·have d1:(x.aJ == tn)=true:=by simp[hpl]
    have Vb:=uu.out.pend x (List.mem_cons_self ..);have hxd:dA N.now x=true:=by
     unfold dA;rw[bu.2 ⟨Vb,by omega⟩,kg,qag hpl];rfl
    obtain⟨a1,a2,a3⟩:=uu.out.next hxd;obtain⟨f,hf⟩:=qaa ((x.id-1).toNat);rw[←hf]at a1 a2 a3;have Ph:=uu.out.inv;have XU:=uu.out.run;have RP:=Jy Ph a1 (by rw[a2];omega) (Pb Ph XU a1 (by rw[a2];exact hxd));have hbs:=Aa Ph a1 (by rw[a2];exact Vb);rw[a2]at RP hbs;have hla:=launch_fn yY (RN Ph (by rw[hdr];exact h1) (by rw[Ut];exact hll) (by rw[kg];exact hf0)) x (by have:=Ph.mb.wid x (by rw[←a2];exact aZ a1);omega) RP;rw[show({ai N with f:=f0}:Pg).J=N.L from rfl,show({ai N with f:=f0}:Pg).now=N.now from rfl,hbs]at hla;have RU:(aX N f).L.length=M.L.length:=by unfold aX;rw[List.length_set];exact Ut
    have RX:=qae (show Going (aX N f) F (l.drop (i+1))∧(aX N f).now=tn∧(aX N f).dr.length=M.dr.length∧(aX N f).L.length=M.L.length from⟨a3,kg,hdr,RU⟩);replace hpl:=qae hpl;replace hf:=qae hf;clear a1 a2 a3 RP hbs Ph XU hxd RU;generalize ah x=cI at*;go_wp2_with fail;go_at_call 268;refine hla.mono ?_;clear hla;rintro e w5 ⟨rfl,v5,g5,gK,hS5⟩;have gz:=hS1.trans hS5;go_wp2_with fail;go_roundw
    case rel=>exact⟨i+1,aX N f,v5,g5,by omega,by go_num,(show CW _ _ _ _ _ _ _ _ _ {ai (aX N f)with f:=f0}from gK),gz,RX⟩
    case measure=>simp[intOf];omega
   ·have d1:(x.aJ == tn)=false:=by simp[hpl]
    have RX:=qae (show Going N F (l.drop (i+1))∧N.now=tn∧N.dr.length=M.dr.length∧N.L.length=M.L.length from⟨uu.out.skip (by unfold dA;rw[kg,qah hpl,Bool.and_false]),kg,hdr,Ut⟩);generalize ah x=cI at*;go_wp2_with fail;go_roundw
    case rel=>exact⟨i+1,N,vr,gr,by omega,by go_num,yY,hS1,RX⟩
    case measure=>simp[intOf];omega
  ·have e:i=n:=by omega
   subst e;obtain⟨uu,kg,hdr,Ut⟩:=hgo.out;have hend:l.drop i=[]:=List.drop_eq_nil_of_le (by have:=hn.out;omega);rw[hend]at uu;have Wd:=uu.last;have hfin:=(CS.of_below hb0:CS w w0 c t d p v g v g).trans hSr;rw[←Wd]at Gx;replace Wd:=qae Wd;go_wp2_with fail;go_end0;have e9:=htn.out;clear htn;exact⟨rfl,vr,gr,Gx,hfin⟩
end
def LW (now:Int)(j:Jb):List Int:=[j.fin,j.aJ].filter fun t=>decide (now<t)
def rX (now:Int)(l:List Jb):List Int:=l.flatMap (LW now)
theorem RY (now:Int)(j:Jb):(LW now j).length≤2:=Nat.le_trans (List.length_filter_le _ _) (by simp)
theorem RZ (now:Int)(l:List Jb):(rX now l).length≤2*l.length:=by
 unfold rX
 induction l with
 |nil=>simp
 |cons a l ih=>rw[List.flatMap_cons,List.length_append,List.length_cons];have:=RY now a;omega
theorem R3 :(prog.info? 2).map (fun i=>(i.zero,i.size,i.bytes))=some (some (.int .i64 0),1,8):=by kernel_rfl
theorem Pj (now:Int){l:List Jb}{i:Nat}(hi:i<l.length):rX now (l.take (i+1))=rX now (l.take i)++LW now l[i]! :=by
 unfold rX;rw[List.take_succ_eq_append_getElem hi,List.flatMap_append,getElem!_pos l i hi];simp
theorem CJ (a b:List Int):nV (a++b)=nV a++nV b:=by simp[nV]
theorem R4 (l:List Int):nV l=l.flatMap fun x:Int=>[Value.int .i64 x]:=by
 induction l with
 |nil=>rfl
 |cons a l ih=>rw[List.flatMap_cons,←ih];rfl
theorem Pk {w:World}{base:Nat}{v:Value}{n:Nat}{l:List Int}{e:TypeId}(h:w.ownsRow base e 1 v n (nV l))(hn:n=l.length)(hf:∀z∈l,-9223372036854775808≤z∧z≤9223372036854775807):pV w v l:=by
 subst hn;refine⟨?_,hf⟩;obtain⟨ao,cap,rfl,hg⟩:=dE h;have hr:aC (fun x:Int=>[Value.int .i64 x]) 1 w (.slice ao l.length cap) l:=aC.fA h (fun _=>rfl) (R4 l) rfl;obtain⟨Kn,cap',e0,q1,q2,q3⟩:=hr;injection e0 with e1 _ e2;subst e1;subst e2;refine⟨ao,cap,rfl,q1,q2,fun hz=>?_⟩;obtain⟨b,off,e3,e4,e5⟩:=q3 (List.length_pos_iff.2 hz);refine⟨b,off,e3,e4,fun i hi=>?_⟩;have:=(e5 i (l.getD i 0) 0 (.int .i64 (l.getD i 0)) (by simp[List.getD,hi]) rfl);simpa using this
section
variable {w : World} {c t d p g a : Nat} {v : Value} {m : Int} {P : Pg}
theorem EI (h:CW w c t d p v g a m P)(hk:PK P)(hfn:∀j∈P.J,-1≤j.fin∧j.fin≤1099512676352)(hpn:∀j∈P.J,-1≤j.aJ∧j.aJ≤1099511627776):
 Calls prog 264 #[.pointer (some ⟨c,0,none⟩)] w fun e w'=>e=.returned (.int .i64 (kJ (rX P.now (P.J.filter fun j:Jb=>decide (j.state∈ [(1:Int),3])))))∧Below w.heap.size w w':=by
 have zE:=bL;obtain⟨k,hk1⟩:=qaa (10);rw[←hk1]at zE;have hk0:¬k=0:=by omega
 replace hk1:=qae hk1;obtain⟨i0,hi0,hz0,hz1,hz2⟩:=info_parts R3;obtain⟨wA,aK⟩:=qaa (w.alloc (.cells #[.int .i64 1,.int .i64 3] 3));have bS:Below w.heap.size w wA:=by rw[aK];exact qac.alloc (qaf _) _
 have LV:aC enc1 1 wA (.slice (some ⟨w.heap.size,0,none⟩) 2 2) [1,3]:=by rw[aK];exact fM w w.heap.size [1,3] rfl (by decide)
 have hin:=tT (h.kept bS).eU (by have:=hk.few;omega) LV;have c0:=h.c0;generalize hL1:(P.J.filter fun j:Jb=>decide (j.state∈ [(1:Int),3]))=l at*;have hn1:l.length≤900:=by rw[←hL1];exact Nat.le_trans (List.length_filter_le _ _) hk.few
 have hmem:Hid (∀i,i<l.length→l[i]! ∈P.J):=fun i hi=>by
  have h1:l[i]! ∈l:=by rw[getElem!_pos l i hi];exact List.getElem_mem _
  have h2:l[i]! ∈P.J.filter fun j:Jb=>decide (j.state∈ [(1:Int),3]):=hL1▸h1;exact(List.mem_filter.1 h2).1
 have hfit:Hid (∀z∈rX P.now l,-9223372036854775808≤z∧z≤9223372036854775807):=fun z hz=>by
  unfold rX at hz;obtain⟨j,hj,hz⟩:=List.mem_flatMap.1 hz;rw[←hL1]at hj;have hj:=(List.mem_filter.1 hj).1;have h1:=hfn j hj;have h2:=hpn j hj;have hz:=(List.mem_filter.1 hz).1;simp at hz;rcases hz with rfl|rfl<;>omega
 have hC:=qae (fun(W:World) (hW:Below w.heap.size w W)=>h.kept hW);replace hL1:=qae hL1;rw[aK]at hin;clear h;go_enter func264,ntmps264;go_wp2_with fail;go_at_call 24;refine hin.mono ?_;clear hin c0;rw[←aK];rintro e w0 ⟨u,rfl,ho,hb0⟩;have hbw0:Below w.heap.size w w0:=bS.trans (hb0.mono bS.size);replace aK:=qae aK;have hr:=aC.fA ho ay rfl rfl;obtain⟨ao,cap,rfl,q1,q2,q3⟩:=hr;obtain⟨n,hn⟩:=qab (l.length);rw[hn]at q1 q3 hn1 ho⊢;have HQ:Hid (0<n→∃b off,ao=some ⟨b,off,none⟩∧nC w0 b off l):=fun hp=>by
  obtain⟨b,off,e1,e2,e3⟩:=q3 hp;exact⟨b,off,e1,e2,e3⟩
 have FX:cap≤9223372036854775807:=by unfold maxLen at q2;omega
 replace hn:=qae hn;clear q2 q3 ho hb0;go_wp2_with fail;go_loopw [3,15] (fun tt ii wr=>∃(i:Nat),i≤n∧ii=.int .i64 i∧wr.ownsRow w0.heap.size 2 1 tt (rX P.now (l.take i)).length (nV (rX P.now (l.take i)))∧Below w0.heap.size w0 wr) (fun _ ii _=>n-(intOf ii).toNat)
 case atStart=>exact⟨0,Nat.zero_le _,rfl,World.ownsRow_nil w0 w0.heap.size 2 1,Below.refl _ _⟩
 case round=>
  obtain⟨i,hin,rfl,hown,hbr⟩:=hrel;by_cases hlt2:i<n
  ·have b2:(i:Int)<(n:Int):=by omega
   have wi:IntKind.i64.wrap ((i:Int)+1)=(i:Int)+1:=by rw[IntKind.wrap_i64];omega
   obtain⟨gb,off,rfl,hJ⟩:=HQ.out (by omega);have sP:=hJ.below hbr;have iJ:i<l.length:=by have:=hn.out;omega
   have LI:=sP.load hk1.out iJ;have hsn:=qae (Pj P.now iJ);have XV:=RZ P.now (l.take i);rw[List.length_take]at XV;have hxm:=hmem.out i iJ;obtain⟨x,hx⟩:=qaa (l[i]!);rw[←hx]at LI hsn hxm;replace hx:=qae hx;obtain⟨T,hT⟩:=qaa (rX P.now (l.take i));rw[←hT]at hsn hown XV;replace hT:=qae hT;have lI:=ay x;rw[←hk1.out]at lI;have e7:(ah x)[7]? =some (.int .i64 x.fin):=rfl;have e8:(ah x)[8]? =some (.int .i64 x.aJ):=rfl;have st:=boxed wr x;obtain⟨w1,hw1⟩:=qaa (wr.alloc (.cells (ah x).toArray 55));have hb1:Below w0.heap.size w0 w1:=by rw[hw1];exact hbr.alloc hbr.size _
   have hown1:=hown.alloc (.cells (ah x).toArray 55);rw[←hw1]at hown1;have hz1:w1.heap[wr.heap.size]? =some (.cells (ah x).toArray 55 (0,0)):=by rw[hw1];exact heap_alloc_new wr _
   have c7:w1.cell? ⟨wr.heap.size,7,none⟩=some (.int .i64 x.fin):=by simp[World.cell?,hz1,e7]
   have c8:w1.cell? ⟨wr.heap.size,8,none⟩=some (.int .i64 x.aJ):=by simp[World.cell?,hz1,e8]
   clear hz1 hown;rw[←hw1]at st;replace hw1:=qae hw1;have R5:Hid (LW P.now x=[x.fin,x.aJ].filter fun t=>decide (P.now<t)):=rfl;generalize x.fin=xf at*;generalize x.aJ=xp at*;generalize ah x=cI at*;have ZI:∀W,Sem.run prog (Instr.index 288 (.agg #[.int .i64 xf,.int .i64 xp]) (.int .i64 0)) W=.ok (.int .i64 xf) W:=fun W=>rfl;have ZJ:∀W,Sem.run prog (Instr.index 288 (.agg #[.int .i64 xf,.int .i64 xp]) (.int .i64 1)) W=.ok (.int .i64 xp) W:=fun W=>rfl;go_wp2_with fail;go_loopw [3,24] (fun tt mm ws=>∃(q:Nat),q≤2∧mm=.int .i64 q∧ws.ownsRow w0.heap.size 2 1 tt (T++([xf,xp].take q).filter fun t=>decide (P.now<t)).length (nV (T++([xf,xp].take q).filter fun t=>decide (P.now<t)))∧Below w0.heap.size w0 ws) (fun _ mm _=>2-(intOf mm).toNat)
   case atStart=>exact⟨0,Nat.zero_le _,rfl,by simpa using hown1,hb1⟩
   case round=>
    obtain⟨q,hq,rfl,hoq,hbq⟩:=hrel;by_cases hq2:q<2
    ·have XW:=hC.out wr (hbw0.trans (hbq.mono hbw0.size));have c2:=XW.c2;have kg:=gq XW;obtain⟨X,hX⟩:=qaa (T++([xf,xp].take q).filter fun t=>decide (P.now<t));have VM:X.length≤2000:=by
      rw[hX,List.length_append];have:=List.length_filter_le (fun t=>decide (P.now<t)) ([xf,xp].take q);have h9:([xf,xp].take q).length≤2:=by rw[List.length_take];exact Nat.min_le_right _ _
      omega
     obtain⟨y,hy⟩:=qaa (if q=0 then xf else xp);have htk:Hid ((T++([xf,xp].take (q+1)).filter fun t=>decide (P.now<t))=X++[y].filter fun t=>decide (P.now<t)):=by
      show _=_;rw[hX,hy];rcases(show q=0∨q=1 by omega)with rfl|rfl
      ·rw[qaj rfl,List.append_assoc,←List.filter_append];rfl
      ·rw[qai (by decide),List.append_assoc,←List.filter_append];rfl
     rw[←hX]at hoq;replace hX:=qae hX;have XX:Hid (y=if q=0 then xf else xp):=hy;rcases(show q=0∨q=1 by omega)with rfl|rfl
     ·clear hy;have hyv:=XX.out;rw[qaj rfl]at hyv;subst hyv;by_cases hgt:P.now<y
      ·have d1:decide (y>P.now)=true:=qag hgt;have hF:Hid ([y].filter (fun t=>decide (P.now<t))=[y]):=by show _=_;simp[hgt]
       replace hgt:=qae hgt;go_wp2_with (first|(go_at_call 45;go_must (refine kg.mono ?_);rintro e w' ⟨rfl,rfl⟩)|(at_builtin;go_must (refine wpList_append_own _ rfl (.tmp 34) (.tmp 36) 96 rfl w0.heap.size 2 i0 (.int .i64 0) 1 8 underlying96 hi0 hz0 hz1 hz2 rfl (by decide) u3 X.length (nV X) rfl (hoq.alloc _) ⟨wr.heap.size,0,none⟩ 1 1 [.int .i64 y] rfl rfl ?_ ?_ ?_ ?_ ?_ ?_)))
       ·exact oC (vs:=[.int .i64 y]) rfl
       ·simp[Value.oneCell']
       ·unfold maxLen;omega
       ·omega
       ·have hh:∀o,(wr.alloc o).heap.size=wr.heap.size+1:=fun o=>by simp
        have hsz:=hbq.size
        first|omega|(rw[hh];omega)
       ·intro v' w2 hown3 hgrow _;have hb2:Below w0.heap.size w0 w2:=(hbq.alloc hbq.size _).grown hgrow (by
         have hh:∀o,(wr.alloc o).heap.size=wr.heap.size+1:=fun o=>by simp
         have hsz:=hbq.size
         first|omega|(rw[hh];omega)) (fun z hz=>(hoq.lt z hz).1)
        have hfin:Hid (w2.ownsRow w0.heap.size 2 1 v' (T++([y,xp].take (0+1)).filter fun t=>decide (P.now<t)).length (nV (T++([y,xp].take (0+1)).filter fun t=>decide (P.now<t)))):=by
         show World.ownsRow _ _ _ _ _ _ _;rw[htk.out,hF.out,CJ,List.length_append];exact hown3
        clear hown3 hgrow hoq hbq;go_wp2_with fail;go_roundw
        case rel=>exact⟨1,by omega,by go_num,hfin.out,hb2⟩
        case measure=>simp[intOf]
      ·have d1:decide (y>P.now)=false:=qah hgt;have hF:Hid ([y].filter (fun t=>decide (P.now<t))=[]):=by show _=_;simp[hgt]
       have hfin:Hid (wr.ownsRow w0.heap.size 2 1 u3 (T++([y,xp].take (0+1)).filter fun t=>decide (P.now<t)).length (nV (T++([y,xp].take (0+1)).filter fun t=>decide (P.now<t)))):=by
        show World.ownsRow _ _ _ _ _ _ _;rw[htk.out,hF.out,List.append_nil];exact hoq
       replace hgt:=qae hgt;go_wp2_with (first|(go_at_call 45;go_must (refine kg.mono ?_);rintro e w' ⟨rfl,rfl⟩));go_roundw
       case rel=>exact⟨1,by omega,by go_num,hfin.out,hbq⟩
       case measure=>simp[intOf]
     ·clear hy;have hyv:=XX.out;rw[qai (by decide)]at hyv;subst hyv;by_cases hgt:P.now<y
      ·have d1:decide (y>P.now)=true:=qag hgt;have hF:Hid ([y].filter (fun t=>decide (P.now<t))=[y]):=by show _=_;simp[hgt]
       replace hgt:=qae hgt;go_wp2_with (first|(go_at_call 45;go_must (refine kg.mono ?_);rintro e w' ⟨rfl,rfl⟩)|(at_builtin;go_must (refine wpList_append_own _ rfl (.tmp 34) (.tmp 36) 96 rfl w0.heap.size 2 i0 (.int .i64 0) 1 8 underlying96 hi0 hz0 hz1 hz2 rfl (by decide) u3 X.length (nV X) rfl (hoq.alloc _) ⟨wr.heap.size,0,none⟩ 1 1 [.int .i64 y] rfl rfl ?_ ?_ ?_ ?_ ?_ ?_)))
       ·exact oC (vs:=[.int .i64 y]) rfl
       ·simp[Value.oneCell']
       ·unfold maxLen;omega
       ·omega
       ·have hh:∀o,(wr.alloc o).heap.size=wr.heap.size+1:=fun o=>by simp
        have hsz:=hbq.size
        first|omega|(rw[hh];omega)
       ·intro v' w2 hown3 hgrow _;have hb2:Below w0.heap.size w0 w2:=(hbq.alloc hbq.size _).grown hgrow (by
         have hh:∀o,(wr.alloc o).heap.size=wr.heap.size+1:=fun o=>by simp
         have hsz:=hbq.size
         first|omega|(rw[hh];omega)) (fun z hz=>(hoq.lt z hz).1)
        have hfin:Hid (w2.ownsRow w0.heap.size 2 1 v' (T++([xf,y].take (1+1)).filter fun t=>decide (P.now<t)).length (nV (T++([xf,y].take (1+1)).filter fun t=>decide (P.now<t)))):=by
         show World.ownsRow _ _ _ _ _ _ _;rw[htk.out,hF.out,CJ,List.length_append];exact hown3
        clear hown3 hgrow hoq hbq;go_wp2_with fail;go_roundw
        case rel=>exact⟨2,by omega,by go_num,hfin.out,hb2⟩
        case measure=>simp[intOf]
      ·have d1:decide (y>P.now)=false:=qah hgt;have hF:Hid ([y].filter (fun t=>decide (P.now<t))=[]):=by show _=_;simp[hgt]
       have hfin:Hid (wr.ownsRow w0.heap.size 2 1 u3 (T++([xf,y].take (1+1)).filter fun t=>decide (P.now<t)).length (nV (T++([xf,y].take (1+1)).filter fun t=>decide (P.now<t)))):=by
        show World.ownsRow _ _ _ _ _ _ _;rw[htk.out,hF.out,List.append_nil];exact hoq
       replace hgt:=qae hgt;go_wp2_with (first|(go_at_call 45;go_must (refine kg.mono ?_);rintro e w' ⟨rfl,rfl⟩));go_roundw
       case rel=>exact⟨2,by omega,by go_num,hfin.out,hbq⟩
       case measure=>simp[intOf]
    ·obtain rfl:q=2:=by omega
     have hfin:Hid (wr.ownsRow w0.heap.size 2 1 u3 (rX P.now (l.take (i+1))).length (nV (rX P.now (l.take (i+1))))):=by
      show World.ownsRow _ _ _ _ _ _ _;rw[hsn.out,R5.out];exact hoq
     go_wp2_with fail;go_roundw
     case rel=>exact⟨i+1,by omega,by go_num,hfin.out,hbq⟩
     case measure=>simp[intOf];omega
  ·have e:i=n:=by omega
   subst e;have e1:l.take i=l:=List.take_of_length_le (by rw[hn.out];exact qaf _);rw[e1]at hown;have hle:=LF u3 (rX P.now l) wr (Pk hown rfl hfit.out);have hfin:=hbw0.trans (hbr.mono hbw0.size);replace e1:=qae e1;go_wp2_with (go_at_call 277;go_must (refine hle.mono ?_);rintro e w' ⟨rfl,rfl⟩);go_ret;exact⟨rfl,hfin⟩
end
def EJ (n:Int)(j:Jb):Bool:=sG j.bQ.toNat n
def kK (L:List Jb)(n:Int):Jb:=match L.findIdx? (fun j=>decide (j.state∈ [(3:Int)])&&EJ n j)with|some i=>L.getD i default|none=>iq
section
variable {w : World} {c t d p g a : Nat} {v : Value} {m : Int} {P : Pg}
theorem Jz (h:CW w c t d p v g a m P)(hll:P.J.length≤900)(hnd:∀j∈P.J,0≤j.bQ∧j.bQ≤18446744073709551615)(x:Int)(hx: -9223372036854775808≤x∧x≤9223372036854775807):
 Calls prog 26 #[.pointer (some ⟨c,0,none⟩),.int .i64 x] w fun e w'=>e=.returned (.agg (ah (kK P.J x)).toArray)∧Below w.heap.size w w':=by
 have zE:=bL;obtain⟨k,hk⟩:=qaa (10);rw[←hk]at zE;have hk0:¬k=0:=by omega
 replace hk:=qae hk;obtain⟨wA,aK⟩:=qaa (w.alloc (.cells #[.int .i64 0,.int .i64 0,.int .i64 0,.int .i64 0,.int .i64 0,.int .i64 0,.int .i64 0,.int .i64 0,.int .i64 0,.int .u64 0] 55));have bS:Hid (Below w.heap.size w wA):=by show Below _ _ _;rw[aK];exact qac.alloc (qaf _) _
 have hsA:wA.heap.size=w.heap.size+1:=by rw[aK];simp
 have VY:Hid (wA.heap[w.heap.size]? =some (.cells (ah iq).toArray 55 (0,0))):=by show _=_;rw[aK];exact heap_alloc_new w _
 have hA:=h.kept bS.out;have hno:=kE hA;obtain⟨wB,Au⟩:=qaa (wA.alloc (.cells #[.int .i64 3] 3));have DJ:Below wA.heap.size wA wB:=by rw[Au];exact qac.alloc (qaf _) _
 have Y9:aC enc1 1 wB (.slice (some ⟨w.heap.size+1,0,none⟩) 1 1) [3]:=by rw[←hsA,Au];exact fM wA wA.heap.size [3] rfl (by decide)
 have hin:=tT (hA.kept DJ).eU (by omega) Y9;have c0:=hA.c0;generalize hL1:(P.J.filter fun j:Jb=>decide (j.state∈ [(3:Int)]))=l at*;have hn1:l.length≤900:=by rw[←hL1];exact Nat.le_trans (List.length_filter_le _ _) hll
 have hmem:Hid (∀i,i<l.length→l[i]! ∈P.J):=fun i hi=>by
  have h1:l[i]! ∈l:=by rw[getElem!_pos l i hi];exact List.getElem_mem _
  have h2:l[i]! ∈P.J.filter fun j:Jb=>decide (j.state∈ [(3:Int)]):=hL1▸h1;exact(List.mem_filter.1 h2).1
 replace hL1:=qae hL1;rw[aK]at hno c0;rw[Au,aK]at hin;clear h;go_enter func26,ntmps26;go_wp2_with (first|(go_at_call 71;go_must (refine hno.mono ?_);rintro e w' ⟨rfl,rfl⟩));go_at_call 24;refine hin.mono ?_;clear hin hno c0;rw[←aK,←Au];rintro e w0 ⟨u,rfl,ho,hb0⟩;have hbw0:Hid (Below w.heap.size w w0):=bS.out.trans ((DJ.trans (hb0.mono DJ.size)).mono bS.out.size);have hx0:w0.heap[w.heap.size]? =some (.cells (ah iq).toArray 55 (0,0)):=(hb0.block _ (by have:=DJ.size;omega)).trans ((DJ.block _ (by omega)).trans VY.out);have hsz0:w.heap.size<w0.heap.size:=au hx0;replace aK:=qae aK;replace Au:=qae Au;have hr:=aC.fA ho ay rfl rfl;obtain⟨ao,cap,rfl,q1,q2,q3⟩:=hr;obtain⟨n,hn⟩:=qab (l.length);rw[hn]at q1 q3 hn1⊢;have HQ:Hid (0<n→∃b off,ao=some ⟨b,off,none⟩∧nC w0 b off l):=fun hp=>by
  obtain⟨b,off,e1,e2,e3⟩:=q3 hp;exact⟨b,off,e1,e2,e3⟩
 have FX:cap≤9223372036854775807:=by unfold maxLen at q2;omega
 replace hn:=qae hn;clear q2 q3 ho hb0 DJ;go_wp2_with fail;go_loopw [17] (fun ii wr=>∃(i:Nat),i≤n∧ii=.int .i64 i∧Below w0.heap.size w0 wr∧Hid (∀j,j<i→EJ x l[j]! =false)) (fun ii _=>n-(intOf ii).toNat)
 case atStart=>exact⟨0,Nat.zero_le _,rfl,Below.refl _ _,qae fun j hj=>absurd hj (Nat.not_lt_zero _)⟩
 case round=>
  obtain⟨i,hin,rfl,hbr,hno⟩:=hrel;have qH:wr.heap[w.heap.size]? =some (.cells (ah iq).toArray 55 (0,0)):=(hbr.block _ hsz0).trans hx0;have R6:=hbw0.out.trans (hbr.mono (Nat.le_of_lt hsz0));by_cases hlt2:i<n
  ·have b2:(i:Int)<(n:Int):=by omega
   have wi:IntKind.i64.wrap ((i:Int)+1)=(i:Int)+1:=by rw[IntKind.wrap_i64];omega
   obtain⟨gb,off,rfl,hJ⟩:=HQ.out (by omega);have sP:=hJ.below hbr;have iJ:i<l.length:=by have:=hn.out;omega
   have LI:=sP.load hk.out iJ;have hxm:=hmem.out i iJ;obtain⟨y,hy⟩:=qaa (l[i]!);rw[←hy]at LI hxm;replace hy:=qae hy;have lI:=ay y;have hny:=hnd y hxm;rw[←hk.out]at lI;have st:Sem.run prog (storeCells ⟨wr.heap.size,0,none⟩ (ah y) 0) (wr.alloc (.cells #[.int .i64 0,.int .i64 0,.int .i64 0,.int .i64 0,.int .i64 0,.int .i64 0,.int .i64 0,.int .i64 0,.int .i64 0,.int .u64 0] 55))=.ok () (wr.alloc (.cells (ah y).toArray 55)):=df wr wr.heap.size (ah y) (ah iq) 55 rfl rfl (dH y);obtain⟨w1,hw1⟩:=qaa (wr.alloc (.cells (ah y).toArray 55));have hb1:Below wr.heap.size wr w1:=by rw[hw1];exact qac.alloc (qaf _) _
   have hz1:w1.heap[wr.heap.size]? =some (.cells (ah y).toArray 55 (0,0)):=by rw[hw1];exact heap_alloc_new wr _
   have JA:=hbr.size;have hx1:w1.heap[w.heap.size]? =some (.cells (ah iq).toArray 55 (0,0)):=(hb1.block _ (by omega)).trans qH;have ld1:=fT hz1 lI;have c9:w1.cell? ⟨wr.heap.size,9,none⟩=some (.int .u64 y.bQ):=by simp[World.cell?,hz1];rfl
   have hhas:=uU y.bQ.toNat (by omega) x w1 hx;rw[show((y.bQ.toNat:Nat):Int)=y.bQ by omega]at hhas;have JS:Sem.run prog (storeCells ⟨w.heap.size,0,none⟩ (ah y) 0) w1=.ok () (w1.setRow w.heap.size (ah y).toArray):=mr hx1;have hx2:=xP hx1 (ah y).toArray;have VZ:=qae (show(ah y).toArray.size=10 from rfl);have hb2:Below w.heap.size w (w1.setRow w.heap.size (ah y).toArray):=qN (R6.trans (hb1.mono R6.size)) (qaf _) _;generalize hcI:ah y=cI at*;replace hcI:=qae hcI;rw[←hw1]at st;replace hw1:=qae hw1;replace hz1:=qae hz1;cases hP:sG y.bQ.toNat x with
   |false=>
    rw[hP]at hhas;go_wp2_with (go_at_call 84;go_must (refine hhas.mono ?_);rintro e w' ⟨rfl,rfl⟩);go_roundw
    case rel=>exact⟨i+1,by omega,by go_num,hbr.trans (hb1.mono hbr.size),qae fun j hj=>by
     rcases Nat.lt_succ_iff_lt_or_eq.1 hj with h5|h5
     ·exact hno.out j h5
     ·subst h5;rw[←hy.out];exact hP⟩
    case measure=>simp[intOf];omega
   |true=>
    rw[hP]at hhas;obtain⟨f,hf1,hf2,hf3⟩:=EE (q:=fun j:Jb=>decide (j.state∈ [(3:Int)])) (p:=EJ x) (L:=P.J) (i:=i) (by rw[hL1.out];exact iJ) (fun j hj=>by rw[hL1.out];exact hno.out j hj) (by rw[hL1.out,←hy.out];exact hP);rw[hL1.out,←hy.out]at hf3;have hres:Hid (kK P.J x=y):=by show _=_;unfold kK;rw[hf1];exact hf3
    go_wp2_with (go_at_call 84;go_must (refine hhas.mono ?_);rintro e w' ⟨rfl,rfl⟩);refine eH rfl rfl rfl hx2 underlying55 rfl (by rw[VZ.out];kernel_rfl) ⟨?_,hb2⟩;rw[hres.out,hcI.out]
  ·have e:i=n:=by omega
   subst e;have hfi:=Jg (q:=fun j:Jb=>decide (j.state∈ [(3:Int)])) (p:=EJ x) (L:=P.J) (fun j hj=>by rw[hL1.out];exact hno.out j (by rw[←hn.out];rw[hL1.out]at hj;exact hj));have hres:Hid (kK P.J x=iq):=by show _=_;unfold kK;rw[hfi]
   obtain⟨k0,f0,s0⟩:=bG qH 0 (.int .i64 0) rfl;obtain⟨k1,f1,s1⟩:=bG qH 1 (.int .i64 0) rfl;obtain⟨k2,f2,s2⟩:=bG qH 2 (.int .i64 0) rfl;obtain⟨k3,f3,s3⟩:=bG qH 3 (.int .i64 0) rfl;obtain⟨k4,f4,s4⟩:=bG qH 4 (.int .i64 0) rfl;obtain⟨k5,f5,s5⟩:=bG qH 5 (.int .i64 0) rfl;obtain⟨k6,f6,s6⟩:=bG qH 6 (.int .i64 0) rfl;obtain⟨k7,f7,s7⟩:=bG qH 7 (.int .i64 0) rfl;obtain⟨k8,f8,s8⟩:=bG qH 8 (.int .i64 0) rfl;obtain⟨k9,f9,s9⟩:=bG qH 9 (.int .u64 0) rfl;obtain rfl:=hk.out;replace qH:=qae qH;go_wp2_with fail;refine eH rfl rfl rfl qH.out underlying55 rfl (by kernel_rfl) ⟨?_,R6⟩;rw[hres.out]
end
theorem wR {L:List Jb}{e0 id:Int}{ok:Jb→Bool}{ch:Jb→Jb}(h:bN L e0 id ok≠0):cz L e0 id ok ch=L:=by unfold cz;rw[qai h]
section
variable {w : World} {b c t d p g a : Nat} {v : Value} {m : Int} {P : Pg} {R : Wk}
theorem EK (h:SW w b c t d p v g a m R P)(e1:Int)(he1:e1≠0)(hE:bN P.J 0 R.ag.id (fun j:Jb=>decide (j.state=1))=e1):
 Calls prog 215 #[.pointer (some ⟨b,0,none⟩),.pointer (some ⟨c,0,none⟩)] w (az w b c t d p v g a m .nilFunc {({R with aD:=bI P.J R.ag.id}:Wk)with rep:=kv e1,ok:=false} P):=by
 have zJ:=bL;obtain⟨k,hk1⟩:=qaa (10);rw[←hk1]at zJ;have hk0:¬k=0:=by omega
 have hS:=qae h;have hcon:=fun(W:World) (v1:Value) (g1:Nat) (R1:Wk) (hW:SW W b c t d p v1 g1 a m R1 P)=>Ex hW.cw R.ag.id;obtain⟨L1,hL1⟩:=qaa (cz P.J 0 R.ag.id (fun j:Jb=>decide (j.state=1)) p9);have hL2:L1=P.J:=hL1.trans (wR (by rw[hE];exact he1));rw[←hL1,hE,hL2,show({P with J:=P.J}:Pg)=P from rfl]at hcon;have d0:(e1 != 0)=true:=by simp[he1]
 replace hL2:=qae hL2;replace he1:=qae he1;replace hE:=qae hE;replace hL1:=qae hL1;have hget:=fO h.drew.cw.eU R.ag.id;unfold iC at hget;obtain⟨x,hx⟩:=qaa (bI P.J R.ag.id);rw[←hx]at hget;rw[←hx];replace hx:=qae hx;have lJ:=ay x;rw[←hk1]at lJ;have hj:=fun(W:World) (hW:SW W b c t d p v g a m R P)=>hW.wk.uq x;generalize ah x=cJ at*;have c0:=h.cw.c0;have q1:=h.wk.at 1 (.int .i64 R.ag.id) rfl;obtain⟨W9,ky⟩:∃W9,W9=gI {R with aD:=x}:=⟨_,rfl⟩;rw[←ky]at hj;replace ky:=qae ky;replace hk1:=qae hk1;clear h;go_enter func215,ntmps215;go_wp2_with fail;go_region_with (go_at_call 41;go_must (refine hget.mono ?_);rintro e w' ⟨rfl,hgr⟩;have rY:=hS.out.drew.kept hgr.below;obtain⟨Az,pY⟩:=hj w' rY)
 all_goals
  have gz:=rY.work pY (cO w' W9.toArray);have hfr:WS w (w'.setRow b W9.toArray) b c t d p v g v g:=((WS.of_below hgr.below:WS w.drew w' b c t d p v g v g).trans (WS.bD (cO w' W9.toArray))).zg;clear Az pY rY hgr hget c0 q1;generalize w'.setRow b W9.toArray=w9 at*;replace gz:=qae gz;go_wp2_with fail;refine Reg2.ro w9 9 45 [.p 0,.p 1,.p 3,.m 7,.p 0,.p 16,.p 48,.p 112,.m 240] [.pointer (some ⟨t,0,none⟩),.int .i64 R.ag.id] (by kernel_rfl) (by kernel_rfl) rfl rfl ⟨rfl,rfl,rfl,qaf _,fun _ _=>rfl⟩ ?_;dsimp only[Reg2.gY]
  repeat((first
   |(refine' Reg2.ak _ (by rfl) (fun wz=>?_) ?_;rotate_left;(go_simp;first|rfl|rw[qai (by omega)]))
   |(refine Reg2.aA (by rfl) (fun wz hI hF=>?_) (fun _=>?_)
     ·unfold Reg2.One;have c0:=(gz.out.cw.kept hI).c0;have q0:=(gz.out.kept hI).wk.at 1 (.int .i64 R.ag.id) rfl;go_wp2_with fail
      first|exact⟨_,rfl,rfl,qad⟩|exact⟨_,rfl,⟨(),rfl,trivial⟩,qad⟩));simp only[Act.put,xA,xB,xC,xD,xE,id])
  refine Reg2.aB ?_;intro w4 HI4 _ eX;clear eX;dsimp only[List.drop];have bM:=gz.out.kept HI4;have hc4:=hcon w4 _ _ _ bM;go_wp2_with fail;go_at_call 235;refine hc4.mono ?_;clear hc4;rintro e w5 ⟨rfl,v5,g5,gK,hS5⟩;have eY:=bM.core gK hS5;have uw:=(hfr.trans (WS.of_below HI4)).trans (WS.dD hS5);have hf:=iF eY.wk e1;go_wp2_with (go_at_call 188;go_must (refine hf.mono ?_);rintro e w8 ⟨rfl,dU,gy⟩);go_ret;exact⟨rfl,v5,g5,eY.work dU gy,uw.trans (WS.bD gy)⟩
theorem R9 (h:SW w b c t d p v g a m R P)(hE:bN P.J 0 R.ag.id (fun j:Jb=>decide (j.state=1))=0):
 Calls prog 215 #[.pointer (some ⟨b,0,none⟩),.pointer (some ⟨c,0,none⟩)] w (az w b c t d p v g a m (fF 236) {R with aD:=bI P.J R.ag.id,rep:=iZ (bI (cz P.J 0 R.ag.id (fun j:Jb=>decide (j.state=1)) p9) R.ag.id)} {P with J:=cz P.J 0 R.ag.id (fun j:Jb=>decide (j.state=1)) p9}):=by
 have zJ:=bL;obtain⟨k,hk1⟩:=qaa (10);rw[←hk1]at zJ;have hk0:¬k=0:=by omega
 have hS:=qae h;have hcon:=fun(W:World) (v1:Value) (g1:Nat) (R1:Wk) (hW:SW W b c t d p v1 g1 a m R1 P)=>Ex hW.cw R.ag.id;obtain⟨L1,hL1⟩:=qaa (cz P.J 0 R.ag.id (fun j:Jb=>decide (j.state=1)) p9);rw[←hL1];rw[←hL1,hE]at hcon;replace hE:=qae hE;replace hL1:=qae hL1;have hget:=fO h.drew.cw.eU R.ag.id;unfold iC at hget;obtain⟨x,hx⟩:=qaa (bI P.J R.ag.id);rw[←hx]at hget;rw[←hx];replace hx:=qae hx;have lJ:=ay x;rw[←hk1]at lJ;have hj:=fun(W:World) (hW:SW W b c t d p v g a m R P)=>hW.wk.uq x;generalize ah x=cJ at*;have c0:=h.cw.c0;have q1:=h.wk.at 1 (.int .i64 R.ag.id) rfl;obtain⟨W9,ky⟩:∃W9,W9=gI {R with aD:=x}:=⟨_,rfl⟩;rw[←ky]at hj;replace ky:=qae ky;replace hk1:=qae hk1;clear h;go_enter func215,ntmps215;go_wp2_with fail;go_region_with (go_at_call 41;go_must (refine hget.mono ?_);rintro e w' ⟨rfl,hgr⟩;have rY:=hS.out.drew.kept hgr.below;obtain⟨Az,pY⟩:=hj w' rY)
 all_goals
  have gz:=rY.work pY (cO w' W9.toArray);have hfr:WS w (w'.setRow b W9.toArray) b c t d p v g v g:=((WS.of_below hgr.below:WS w.drew w' b c t d p v g v g).trans (WS.bD (cO w' W9.toArray))).zg;clear Az pY rY hgr hget c0 q1;generalize w'.setRow b W9.toArray=w9 at*;replace gz:=qae gz;go_wp2_with fail;refine Reg2.ro w9 9 45 [.p 0,.p 1,.p 3,.m 7,.p 0,.p 16,.p 48,.p 112,.m 240] [.pointer (some ⟨t,0,none⟩),.int .i64 R.ag.id] (by kernel_rfl) (by kernel_rfl) rfl rfl ⟨rfl,rfl,rfl,qaf _,fun _ _=>rfl⟩ ?_;dsimp only[Reg2.gY]
  repeat((first
   |(refine' Reg2.ak _ (by rfl) (fun wz=>?_) ?_;rotate_left;(go_simp;first|rfl|rw[qai (by omega)]))
   |(refine Reg2.aA (by rfl) (fun wz hI hF=>?_) (fun _=>?_)
     ·unfold Reg2.One;have c0:=(gz.out.cw.kept hI).c0;have q0:=(gz.out.kept hI).wk.at 1 (.int .i64 R.ag.id) rfl;go_wp2_with fail
      first|exact⟨_,rfl,rfl,qad⟩|exact⟨_,rfl,⟨(),rfl,trivial⟩,qad⟩));simp only[Act.put,xA,xB,xC,xD,xE,id])
  refine Reg2.aB ?_;intro w4 HI4 _ eX;clear eX;dsimp only[List.drop];have bM:=gz.out.kept HI4;have hc4:=hcon w4 _ _ _ bM;go_wp2_with fail;go_at_call 235;refine hc4.mono ?_;clear hc4;rintro e w5 ⟨rfl,v5,g5,gK,hS5⟩;have eY:=bM.core gK hS5;have uw:=(hfr.trans (WS.of_below HI4)).trans (WS.dD hS5);have kz:=oz eY R.ag.id;have q1:=eY.wk.at 1 (.int .i64 R.ag.id) rfl;go_wp2_with fail;go_at_call 209;refine kz.mono ?_;clear kz;rintro e w8 ⟨rfl,dU,gy⟩;have gL:=eY.work dU gy;have LX:=uw.trans (WS.bD gy);go_wp2_with fail;go_ret;exact⟨rfl,v5,g5,gL,LX⟩
theorem xU (h:SW w b c t d p v g a m R P)(e1:Int)(he1:e1≠0)(hE:bN P.J 0 R.ag.id (fun j:Jb=>decide (j.state=2))=e1):
 Calls prog 216 #[.pointer (some ⟨b,0,none⟩),.pointer (some ⟨c,0,none⟩)] w (az w b c t d p v g a m .nilFunc {R with rep:=kv e1,ok:=false} P):=by
 have zJ:=bL;obtain⟨k,hk1⟩:=qaa (10);rw[←hk1]at zJ;have hk0:¬k=0:=by omega
 have hS:=qae h;have hcon:=fun(W:World) (v1:Value) (g1:Nat) (R1:Wk) (hW:SW W b c t d p v1 g1 a m R1 P)=>Ey hW.cw R.ag.id;obtain⟨L1,hL1⟩:=qaa (cz P.J 0 R.ag.id (fun j:Jb=>decide (j.state=2)) oV);have hL2:L1=P.J:=hL1.trans (wR (by rw[hE];exact he1));rw[←hL1,hE,hL2,show({P with J:=P.J}:Pg)=P from rfl]at hcon;have d0:(e1 != 0)=true:=by simp[he1]
 replace hL2:=qae hL2;replace he1:=qae he1;replace hE:=qae hE;replace hL1:=qae hL1;replace hk1:=qae hk1;clear h;go_enter func216,ntmps216;go_wp2_with fail;have gz:=qae hS.out;have hfr:WS w w b c t d p v g v g:=WS.refl _;refine Reg2.ro w 9 32 [.p 0,.p 1,.p 3,.m 7,.p 0,.p 16,.p 48,.p 112,.m 240] [.pointer (some ⟨t,0,none⟩),.int .i64 R.ag.id] (by kernel_rfl) (by kernel_rfl) rfl rfl ⟨rfl,rfl,rfl,qaf _,fun _ _=>rfl⟩ ?_;dsimp only[Reg2.gY]
 repeat((first
  |(refine' Reg2.ak _ (by rfl) (fun wz=>?_) ?_;rotate_left;(go_simp;first|rfl|rw[qai (by omega)]))
  |(refine Reg2.aA (by rfl) (fun wz hI hF=>?_) (fun _=>?_)
    ·unfold Reg2.One;have c0:=(gz.out.cw.kept hI).c0;have q0:=(gz.out.kept hI).wk.at 1 (.int .i64 R.ag.id) rfl;go_wp2_with fail
     first|exact⟨_,rfl,rfl,qad⟩|exact⟨_,rfl,⟨(),rfl,trivial⟩,qad⟩));simp only[Act.put,xA,xB,xC,xD,xE,id])
 refine Reg2.aB ?_;intro w4 HI4 _ eX;clear eX;dsimp only[List.drop];have bM:=gz.out.kept HI4;have hc4:=hcon w4 _ _ _ bM;go_wp2_with fail;go_at_call 237;refine hc4.mono ?_;clear hc4;rintro e w5 ⟨rfl,v5,g5,gK,hS5⟩;have eY:=bM.core gK hS5;have uw:=(hfr.trans (WS.of_below HI4)).trans (WS.dD hS5);have hf:=iF eY.wk e1;go_wp2_with (go_at_call 188;go_must (refine hf.mono ?_);rintro e w8 ⟨rfl,dU,gy⟩);go_ret;exact⟨rfl,v5,g5,eY.work dU gy,uw.trans (WS.bD gy)⟩
theorem JB (h:SW w b c t d p v g a m R P)(hE:bN P.J 0 R.ag.id (fun j:Jb=>decide (j.state=2))=0):
 Calls prog 216 #[.pointer (some ⟨b,0,none⟩),.pointer (some ⟨c,0,none⟩)] w (az w b c t d p v g a m (fF 233) {R with aD:=bI (cz P.J 0 R.ag.id (fun j:Jb=>decide (j.state=2)) oV) R.ag.id,rep:=iZ (bI (cz P.J 0 R.ag.id (fun j:Jb=>decide (j.state=2)) oV) R.ag.id)} {P with J:=cz P.J 0 R.ag.id (fun j:Jb=>decide (j.state=2)) oV}):=by
 have zJ:=bL;obtain⟨k,hk1⟩:=qaa (10);rw[←hk1]at zJ;have hk0:¬k=0:=by omega
 have hS:=qae h;have hcon:=fun(W:World) (v1:Value) (g1:Nat) (R1:Wk) (hW:SW W b c t d p v1 g1 a m R1 P)=>Ey hW.cw R.ag.id;obtain⟨L1,hL1⟩:=qaa (cz P.J 0 R.ag.id (fun j:Jb=>decide (j.state=2)) oV);rw[←hL1];rw[←hL1,hE]at hcon;replace hE:=qae hE;replace hL1:=qae hL1;replace hk1:=qae hk1;clear h;go_enter func216,ntmps216;go_wp2_with fail;have gz:=qae hS.out;have hfr:WS w w b c t d p v g v g:=WS.refl _;refine Reg2.ro w 9 32 [.p 0,.p 1,.p 3,.m 7,.p 0,.p 16,.p 48,.p 112,.m 240] [.pointer (some ⟨t,0,none⟩),.int .i64 R.ag.id] (by kernel_rfl) (by kernel_rfl) rfl rfl ⟨rfl,rfl,rfl,qaf _,fun _ _=>rfl⟩ ?_;dsimp only[Reg2.gY]
 repeat((first
  |(refine' Reg2.ak _ (by rfl) (fun wz=>?_) ?_;rotate_left;(go_simp;first|rfl|rw[qai (by omega)]))
  |(refine Reg2.aA (by rfl) (fun wz hI hF=>?_) (fun _=>?_)
    ·unfold Reg2.One;have c0:=(gz.out.cw.kept hI).c0;have q0:=(gz.out.kept hI).wk.at 1 (.int .i64 R.ag.id) rfl;go_wp2_with fail
     first|exact⟨_,rfl,rfl,qad⟩|exact⟨_,rfl,⟨(),rfl,trivial⟩,qad⟩));simp only[Act.put,xA,xB,xC,xD,xE,id])
 refine Reg2.aB ?_;intro w4 HI4 _ eX;clear eX;dsimp only[List.drop];have bM:=gz.out.kept HI4;have hc4:=hcon w4 _ _ _ bM;go_wp2_with fail;go_at_call 237;refine hc4.mono ?_;clear hc4;rintro e w5 ⟨rfl,v5,g5,gK,hS5⟩;have eY:=bM.core gK hS5;have uw:=(hfr.trans (WS.of_below HI4)).trans (WS.dD hS5);have kz:=oz eY R.ag.id;have q1:=eY.wk.at 1 (.int .i64 R.ag.id) rfl;go_wp2_with fail;go_at_call 209;refine kz.mono ?_;clear kz;rintro e w8 ⟨rfl,dU,gy⟩;have gL:=eY.work dU gy;have LX:=uw.trans (WS.bD gy);obtain⟨y,hy⟩:=qaa (bI L1 R.ag.id);rw[show bI ({P with J:=L1}:Pg).J R.ag.id=y from hy.symm]at gL dU⊢;replace hy:=qae hy;obtain⟨XM,ky⟩:=dU.uq y;have lY:=ay y;rw[←hk1.out]at lY;have Sa:=gL.work ky (cO w8 _);have hfin:=LX.trans (WS.bD (cO w8 (gI {({R with rep:=iZ y}:Wk)with aD:=y}).toArray));generalize gI {({R with rep:=iZ y}:Wk)with aD:=y}=W9 at*;generalize ah y=cY at*;go_wp2_with fail;go_ret;have ey:=hy.out;clear hy;subst ey;exact⟨rfl,v5,g5,Sa,hfin⟩
theorem Ab (h:SW w b c t d p v g a m R P)(hk:PK P)(s:Int)(e1:Int)(he1:e1≠0)(hE:bN P.J (bB s P.now) R.ag.id (fo s)=e1):
 Calls prog 214 #[.pointer (some ⟨b,0,none⟩),.pointer (some ⟨c,0,none⟩),.int .i64 s] w (az w b c t d p v g a m .nilFunc {({R with aD:=bI P.J R.ag.id}:Wk)with rep:=kv e1,ok:=false} P):=by
 have zJ:=bL;obtain⟨k,hk1⟩:=qaa (10);rw[←hk1]at zJ;have hk0:¬k=0:=by omega
 have hS:=qae h;have hcon:=fun(W:World) (v1:Value) (g1:Nat) (R1:Wk) (hW:SW W b c t d p v1 g1 a m R1 P)=>um hW.cw hk R.ag.id s P.now;obtain⟨L1,hL1⟩:=qaa (cz P.J (bB s P.now) R.ag.id (fo s) (bR s P.now));have hL2:L1=P.J:=hL1.trans (wR (by rw[hE];exact he1));rw[←hL1,hE,hL2,show({P with J:=P.J}:Pg)=P from rfl]at hcon;have d0:(e1 != 0)=true:=by simp[he1]
 replace hL2:=qae hL2;replace he1:=qae he1;replace hE:=qae hE;replace hL1:=qae hL1;have hget:=fO h.drew.cw.eU R.ag.id;unfold iC at hget;obtain⟨x,hx⟩:=qaa (bI P.J R.ag.id);rw[←hx]at hget;rw[←hx];replace hx:=qae hx;have lJ:=ay x;rw[←hk1]at lJ;have hj:=fun(W:World) (hW:SW W b c t d p v g a m R P)=>hW.wk.uq x;generalize ah x=cJ at*;have c0:=h.cw.c0;have q1:=h.wk.at 1 (.int .i64 R.ag.id) rfl;obtain⟨W9,ky⟩:∃W9,W9=gI {R with aD:=x}:=⟨_,rfl⟩;rw[←ky]at hj;replace ky:=qae ky;replace hk1:=qae hk1;clear h;go_enter func214,ntmps214;go_wp2_with fail;go_region_with (go_at_call 41;go_must (refine hget.mono ?_);rintro e w' ⟨rfl,hgr⟩;have rY:=hS.out.drew.kept hgr.below;obtain⟨Az,pY⟩:=hj w' rY)
 all_goals
  have gz:=rY.work pY (cO w' W9.toArray);have hfr:WS w (w'.setRow b W9.toArray) b c t d p v g v g:=((WS.of_below hgr.below:WS w.drew w' b c t d p v g v g).trans (WS.bD (cO w' W9.toArray))).zg;clear Az pY rY hgr hget c0 q1;generalize w'.setRow b W9.toArray=w9 at*;replace gz:=qae gz;go_wp2_with fail;refine Reg2.ro w9 15 53 [.p 0,.p 1,.p 3,.m 7,.p 0,.p 16,.p 48,.p 112,.m 240,.p 0,.p 0,.p 1024,.p 3072,.m 7168,.m 15360] [.pointer (some ⟨t,0,none⟩),.int .i64 R.ag.id,.pointer (some ⟨p,0,none⟩),.int .i64 P.now] (by kernel_rfl) (by kernel_rfl) rfl rfl ⟨rfl,rfl,rfl,qaf _,fun _ _=>rfl⟩ ?_;dsimp only[Reg2.gY]
  repeat((first
   |(refine' Reg2.ak _ (by rfl) (fun wz=>?_) ?_;rotate_left;(go_simp;first|rfl|rw[qai (by omega)]))
   |(refine Reg2.aA (by rfl) (fun wz hI hF=>?_) (fun _=>?_)
     ·unfold Reg2.One;have c0:=(gz.out.cw.kept hI).c0;have q0:=(gz.out.kept hI).wk.at 1 (.int .i64 R.ag.id) rfl;have U9:=(gz.out.cw.kept hI).c2;go_wp2_with fail
      first|exact⟨_,rfl,rfl,qad⟩|exact⟨_,rfl,⟨(),rfl,trivial⟩,qad⟩));simp only[Act.put,xA,xB,xC,xD,xE,id])
  refine Reg2.pm (fun wz hI hF=>?_) (fun Uu=>?_) (by rfl)
  ·go_wp2_with (go_at_call 45;go_must (refine(gq (gz.out.kept hI).cw).mono ?_);rintro e w' ⟨rfl,rfl⟩)
   first|exact⟨_,rfl,rfl,qad⟩|exact⟨_,rfl,⟨(),rfl,trivial⟩,qad⟩
  simp only[Act.put,xA,xB,xC,xD,xE,id];refine Reg2.aB ?_;intro w4 HI4 _ eX;clear eX;dsimp only[List.drop];have bM:=gz.out.kept HI4;have hc4:=hcon w4 _ _ _ bM;go_wp2_with fail;go_at_call 135;refine hc4.mono ?_;clear hc4;rintro e w5 ⟨rfl,v5,g5,gK,hS5⟩;have eY:=bM.core gK hS5;have uw:=(hfr.trans (WS.of_below HI4)).trans (WS.dD hS5);have hf:=iF eY.wk e1;go_wp2_with (go_at_call 188;go_must (refine hf.mono ?_);rintro e w8 ⟨rfl,dU,gy⟩);go_ret;exact⟨rfl,v5,g5,eY.work dU gy,uw.trans (WS.bD gy)⟩
theorem LY (h:SW w b c t d p v g a m R P)(hk:PK P)(s:Int)(hE:bN P.J (bB s P.now) R.ag.id (fo s)=0):
 Calls prog 214 #[.pointer (some ⟨b,0,none⟩),.pointer (some ⟨c,0,none⟩),.int .i64 s] w (az w b c t d p v g a m (fF 234) {R with aD:=bI P.J R.ag.id,rep:=iZ (bI (cz P.J (bB s P.now) R.ag.id (fo s) (bR s P.now)) R.ag.id)} {P with J:=cz P.J (bB s P.now) R.ag.id (fo s) (bR s P.now)}):=by
 have zJ:=bL;obtain⟨k,hk1⟩:=qaa (10);rw[←hk1]at zJ;have hk0:¬k=0:=by omega
 have hS:=qae h;have hcon:=fun(W:World) (v1:Value) (g1:Nat) (R1:Wk) (hW:SW W b c t d p v1 g1 a m R1 P)=>um hW.cw hk R.ag.id s P.now;obtain⟨L1,hL1⟩:=qaa (cz P.J (bB s P.now) R.ag.id (fo s) (bR s P.now));rw[←hL1];rw[←hL1,hE]at hcon;replace hE:=qae hE;replace hL1:=qae hL1;have hget:=fO h.drew.cw.eU R.ag.id;unfold iC at hget;obtain⟨x,hx⟩:=qaa (bI P.J R.ag.id);rw[←hx]at hget;rw[←hx];replace hx:=qae hx;have lJ:=ay x;rw[←hk1]at lJ;have hj:=fun(W:World) (hW:SW W b c t d p v g a m R P)=>hW.wk.uq x;generalize ah x=cJ at*;have c0:=h.cw.c0;have q1:=h.wk.at 1 (.int .i64 R.ag.id) rfl;obtain⟨W9,ky⟩:∃W9,W9=gI {R with aD:=x}:=⟨_,rfl⟩;rw[←ky]at hj;replace ky:=qae ky;replace hk1:=qae hk1;clear h;go_enter func214,ntmps214;go_wp2_with fail;go_region_with (go_at_call 41;go_must (refine hget.mono ?_);rintro e w' ⟨rfl,hgr⟩;have rY:=hS.out.drew.kept hgr.below;obtain⟨Az,pY⟩:=hj w' rY)
 all_goals
  have gz:=rY.work pY (cO w' W9.toArray);have hfr:WS w (w'.setRow b W9.toArray) b c t d p v g v g:=((WS.of_below hgr.below:WS w.drew w' b c t d p v g v g).trans (WS.bD (cO w' W9.toArray))).zg;clear Az pY rY hgr hget c0 q1;generalize w'.setRow b W9.toArray=w9 at*;replace gz:=qae gz;go_wp2_with fail;refine Reg2.ro w9 15 53 [.p 0,.p 1,.p 3,.m 7,.p 0,.p 16,.p 48,.p 112,.m 240,.p 0,.p 0,.p 1024,.p 3072,.m 7168,.m 15360] [.pointer (some ⟨t,0,none⟩),.int .i64 R.ag.id,.pointer (some ⟨p,0,none⟩),.int .i64 P.now] (by kernel_rfl) (by kernel_rfl) rfl rfl ⟨rfl,rfl,rfl,qaf _,fun _ _=>rfl⟩ ?_;dsimp only[Reg2.gY]
  repeat((first
   |(refine' Reg2.ak _ (by rfl) (fun wz=>?_) ?_;rotate_left;(go_simp;first|rfl|rw[qai (by omega)]))
   |(refine Reg2.aA (by rfl) (fun wz hI hF=>?_) (fun _=>?_)
     ·unfold Reg2.One;have c0:=(gz.out.cw.kept hI).c0;have q0:=(gz.out.kept hI).wk.at 1 (.int .i64 R.ag.id) rfl;have U9:=(gz.out.cw.kept hI).c2;go_wp2_with fail
      first|exact⟨_,rfl,rfl,qad⟩|exact⟨_,rfl,⟨(),rfl,trivial⟩,qad⟩));simp only[Act.put,xA,xB,xC,xD,xE,id])
  refine Reg2.pm (fun wz hI hF=>?_) (fun Uu=>?_) (by rfl)
  ·go_wp2_with (go_at_call 45;go_must (refine(gq (gz.out.kept hI).cw).mono ?_);rintro e w' ⟨rfl,rfl⟩)
   first|exact⟨_,rfl,rfl,qad⟩|exact⟨_,rfl,⟨(),rfl,trivial⟩,qad⟩
  simp only[Act.put,xA,xB,xC,xD,xE,id];refine Reg2.aB ?_;intro w4 HI4 _ eX;clear eX;dsimp only[List.drop];have bM:=gz.out.kept HI4;have hc4:=hcon w4 _ _ _ bM;go_wp2_with fail;go_at_call 135;refine hc4.mono ?_;clear hc4;rintro e w5 ⟨rfl,v5,g5,gK,hS5⟩;have eY:=bM.core gK hS5;have uw:=(hfr.trans (WS.of_below HI4)).trans (WS.dD hS5);have kz:=oz eY R.ag.id;have q1:=eY.wk.at 1 (.int .i64 R.ag.id) rfl;go_wp2_with fail;go_at_call 209;refine kz.mono ?_;clear kz;rintro e w8 ⟨rfl,dU,gy⟩;have gL:=eY.work dU gy;have LX:=uw.trans (WS.bD gy);go_wp2_with fail;go_ret;exact⟨rfl,v5,g5,gL,LX⟩
end
theorem Sc {w:World}{b:Nat}{R:Wk}(h:cu w b R)(v0 v1 v2 v3 v4 v5 v6 v7 v8:Int):∃W,W=(((((((((w).setCell ⟨b,24,none⟩ (.int .i64 v0)).setCell ⟨b,25,none⟩ (.int .i64 v1)).setCell ⟨b,26,none⟩ (.int .i64 v2)).setCell ⟨b,27,none⟩ (.int .i64 v3)).setCell ⟨b,28,none⟩ (.int .i64 v4)).setCell ⟨b,29,none⟩ (.int .i64 v5)).setCell ⟨b,30,none⟩ (.int .i64 v6)).setCell ⟨b,31,none⟩ (.int .i64 v7)).setCell ⟨b,32,none⟩ (.int .i64 v8)∧cu W b {R with rep:=⟨v0,v1,v2,v3,v4,v5,v6,v7,v8⟩}∧gB (fun k=>k=b) w W:=by
 refine⟨_,rfl,?_,?_⟩
 ·have h0:=h.put 24 (.int .i64 v0) (R':={R with rep:={R.rep with err:=v0}}) rfl;have h1:=h0.put 25 (.int .i64 v1) (R':={R with rep:={R.rep with err:=v0,id:=v1}}) rfl;have h2:=h1.put 26 (.int .i64 v2) (R':={R with rep:={R.rep with err:=v0,id:=v1,state:=v2}}) rfl;have h3:=h2.put 27 (.int .i64 v3) (R':={R with rep:={R.rep with err:=v0,id:=v1,state:=v2,start:=v3}}) rfl;have h4:=h3.put 28 (.int .i64 v4) (R':={R with rep:={R.rep with err:=v0,id:=v1,state:=v2,start:=v3,stop:=v4}}) rfl;have h5:=h4.put 29 (.int .i64 v5) (R':={R with rep:={R.rep with err:=v0,id:=v1,state:=v2,start:=v3,stop:=v4,plan:=v5}}) rfl;have h6:=h5.put 30 (.int .i64 v6) (R':={R with rep:={R.rep with err:=v0,id:=v1,state:=v2,start:=v3,stop:=v4,plan:=v5,a:=v6}}) rfl;have h7:=h6.put 31 (.int .i64 v7) (R':={R with rep:={R.rep with err:=v0,id:=v1,state:=v2,start:=v3,stop:=v4,plan:=v5,a:=v6,b:=v7}}) rfl;have h8:=h7.put 32 (.int .i64 v8) (R':={R with rep:={R.rep with err:=v0,id:=v1,state:=v2,start:=v3,stop:=v4,plan:=v5,a:=v6,b:=v7,c:=v8}}) rfl;exact h8
 ·exact gu (gu (gu (gu (gu (gu (gu (gu (dw _ 24 _) (dw _ 25 _)) (dw _ 26 _)) (dw _ 27 _)) (dw _ 28 _)) (dw _ 29 _)) (dw _ 30 _)) (dw _ 31 _)) (dw _ 32 _)
def gX (P:Pg)(n:Int):Int:=if(kK P.J n).st=3 then max (kK P.J n).fin (P.now+1)else P.now
section
variable {w : World} {b c t d p g a : Nat} {v : Value} {m : Int} {P : Pg} {R : Wk}
theorem Pm (h:CW w c t d p v g a m P)(hk:PK P)(j:Jb):Calls prog 80 #[.pointer (some ⟨c,0,none⟩),.agg (ah j).toArray] w fun e w'=>e=.returned (.int .i64 (max j.fin (P.now+1)))∧Below w.heap.size w w':=by
 obtain⟨wA,aK⟩:=qaa (w.alloc (.cells (ah j).toArray 55));have bS:Hid (Below w.heap.size w wA):=by show Below _ _ _;rw[aK];exact qac.alloc (qaf _) _
 have qQ:Hid (wA.heap[w.heap.size]? =some (.cells (ah j).toArray 55 (0,0))):=by show _=_;rw[aK];exact heap_alloc_new w _
 have iU:=qae (h.kept bS.out);have e7:(ah j)[7]? =some (.int .i64 j.fin):=rfl;have zE:=bL;obtain⟨k,hk1⟩:=qaa (10);rw[←hk1]at zE;have hk0:¬k=0:=by omega
 replace hk1:=qae hk1;have kg:=hk.now;have wn:IntKind.i64.wrap (P.now+1)=P.now+1:=by rw[IntKind.wrap_i64];omega
 generalize ah j=cJ at*;generalize j.fin=jf at*;clear h;go_enter func80,ntmps80;go_wp2_with fail;rw[←aK];replace aK:=qae aK;refine Reg2.ro wA 8 14 [.p 0,.m 1,.p 0,.p 4,.p 12,.m 28,.m 60,.p 124] [.int .i64 jf,.pointer (some ⟨p,0,none⟩),.int .i64 P.now] (by kernel_rfl) (by kernel_rfl) rfl rfl ⟨rfl,rfl,rfl,qaf _,fun _ _=>rfl⟩ ?_;dsimp only[Reg2.gY]
 repeat((first
  |(refine' Reg2.ak _ (by rfl) (fun wz=>?_) ?_;rotate_left;(go_simp;first|rfl|rw[qai (by omega)]))
  |(refine Reg2.aA (by rfl) (fun wz hI hF=>?_) (fun _=>?_)
    ·unfold Reg2.One;have q0:wz.cell? ⟨w.heap.size,7,none⟩=some (.int .i64 jf):=by simp[World.cell?,(hI.block _ (au qQ.out)).trans qQ.out,e7]
     have c0:=(iU.out.kept hI).c2;go_wp2_with fail
     first|exact⟨_,rfl,rfl,qad⟩|exact⟨_,rfl,⟨(),rfl,trivial⟩,qad⟩));simp only[Act.put,xA,xB,xC,xD,xE,id])
 refine Reg2.pm (fun wz hI hF=>?_) (fun r6=>?_) (by rfl)
 ·go_wp2_with (go_at_call 45;go_must (refine(gq (iU.out.kept hI)).mono ?_);rintro e w' ⟨rfl,rfl⟩)
  first|exact⟨_,rfl,rfl,qad⟩|exact⟨_,rfl,⟨(),rfl,trivial⟩,qad⟩
 simp only[Act.put,xA,xB,xC,xD,xE,id]
 repeat(refine' Reg2.ak _ (by rfl) (fun wz=>?_) ?_;rotate_left;(go_simp;first|rfl|rw[qai (by omega)]);simp only[Act.put,xA,xB,xC,xD,xE,id])
 refine Reg2.aB ?_;intro w7 jZ _ eX;clear eX;dsimp only[List.drop];have kr:=bS.out.trans (jZ.mono bS.out.size);go_wp2_with fail;go_ret;exact⟨rfl,kr⟩
theorem Pn (h:CW w c t d p v g a m P)(hk:PK P)(hnd:∀j∈P.J,0≤j.bQ∧j.bQ≤18446744073709551615)(n:Int)(hn: -9223372036854775808≤n∧n≤9223372036854775807):Calls prog 262 #[.pointer (some ⟨c,0,none⟩),.int .i64 n] w fun e w'=>e=.returned (.int .i64 (gX P n))∧Below w.heap.size w w':=by
 have hho:=Jz h (hk.few) hnd n hn;unfold gX;generalize kK P.J n=y at*;obtain⟨sv,hsv⟩:=qaa (if y.st=3 then max y.fin (P.now+1)else P.now);rw[←hsv];replace hsv:=qae hsv;have zE:=bL;obtain⟨k,hk1⟩:=qaa (10);rw[←hk1]at zE;have hk0:¬k=0:=by omega
 have lY:=ay y;rw[←hk1]at lY;replace hk1:=qae hk1;have e5:(ah y)[5]? =some (.int .i64 y.st):=rfl;have ST:Hid (∀W:World,Sem.run prog (storeCells ⟨W.heap.size,0,none⟩ (ah y) 0) (W.alloc (.cells #[.int .i64 0,.int .i64 0,.int .i64 0,.int .i64 0,.int .i64 0,.int .i64 0,.int .i64 0,.int .i64 0,.int .i64 0,.int .u64 0] 55))=.ok () (W.alloc (.cells (ah y).toArray 55))):=fun W=>df W W.heap.size (ah y) (ah iq) 55 rfl rfl (dH y);have hun:=fun(W:World) (hW:CW W c t d p v g a m P)=>Pm hW hk y;have hC:=qae h;generalize ah y=cY at*;clear h;go_enter func262,ntmps262;go_wp2_with fail;go_at_call 26;refine hho.mono ?_;clear hho;rintro e w1 ⟨rfl,hb1⟩;have st1:=ST.out w1;obtain⟨w2,hw2⟩:=qaa (w1.alloc (.cells cY.toArray 55));rw[←hw2]at st1;have hb2:Below w.heap.size w w2:=by rw[hw2];exact hb1.alloc hb1.size _
 have hz2:w2.heap[w1.heap.size]? =some (.cells cY.toArray 55 (0,0)):=by rw[hw2];exact heap_alloc_new w1 _
 have c5:w2.cell? ⟨w1.heap.size,5,none⟩=some (.int .i64 y.st):=by simp[World.cell?,hz2,e5]
 have Y4:=fT hz2 lY;have hC2:=hC.out.kept hb2;have hu2:=hun w2 hC2;have hnw:=gq hC2;have c2:=hC2.c2;replace hw2:=qae hw2;replace hz2:=qae hz2;by_cases hs:y.st=3
 ·have d0:(y.st == 3)=true:=by simp[hs]
  replace hs:=qae hs;go_wp2_with fail;go_at_call 80;refine hu2.mono ?_;rintro e w3 ⟨rfl,hb3⟩;go_wp2_with fail;go_ret;exact⟨by rw[hsv.out,qaj hs.out];rfl,hb2.trans (hb3.mono hb2.size)⟩
 ·have d0:(y.st == 3)=false:=by simp[hs]
  go_wp2_with (go_at_call 45;go_must (refine hnw.mono ?_);rintro e w' ⟨rfl,rfl⟩);go_ret;exact⟨by rw[hsv.out,qai hs];rfl,hb2⟩
theorem EL (h:SW w b c t d p v g a m R P)(e0 by':Int)(he:e0≠0):Calls prog 239 #[.pointer (some ⟨b,0,none⟩),.pointer (some ⟨c,0,none⟩),.int .i64 e0,.int .i64 by'] w (az w b c t d p v g a m .nilFunc {R with rep:=kv e0,ok:=false} P):=by
 have hf:=iF h.wk e0;have d0:(e0 != 0)=true:=by simp[he]
 go_enter func239,ntmps239;go_wp2_with (go_at_call 188;go_must (refine hf.mono ?_);rintro e w8 ⟨rfl,dU,gy⟩);go_ret;exact⟨rfl,v,g,h.work dU gy,WS.bD gy⟩
theorem LZ (h:SW w b c t d p v g a m R P)(hk:PK P)(ha:a≤800)(hm:m≤1000000)(hnd:∀j∈P.J,0≤j.bQ∧j.bQ≤18446744073709551615)(hn: -9223372036854775808≤R.ag.node∧R.ag.node≤9223372036854775807)(by':Int)(hby: -64≤by'∧by'≤64)(F:Int→Int)
 (hF:∀u,P.now≤u→F u=P.f u+had (max (gX P R.ag.node) P.now) 1152921504606846976 by' u) (hr:∀u,P.now≤u→0≤F u∧F u≤64) (hs:gX P R.ag.node<1152921504606846976):
 Calls prog 239 #[.pointer (some ⟨b,0,none⟩),.pointer (some ⟨c,0,none⟩),.int .i64 0,.int .i64 by'] w (az w b c t d p v g (a+2) (m+1) .nilFunc {R with rep:=⟨0,R.ag.node,qc P.T R.ag.node,0,0,0,0,0,0⟩} {P with f:=F}):=by
 have hS:=qae h;have q7:=h.wk.at 7 (.int .i64 R.ag.node) rfl;have hsi:=fun(W:World) (hW:CW W c t d p v g a m P)=>Pn hW hk hnd R.ag.node hn;generalize hsx:gX P R.ag.node=sx at*;generalize hnx:R.ag.node=nx at*;replace hsx:=qae hsx;replace hnx:=qae hnx;clear h;go_enter func239,ntmps239;go_wp2_with fail;refine Reg2.ro w 8 40 [.p 0,.p 1,.p 3,.m 7,.p 0,.p 0,.m 48,.p 0] [.pointer (some ⟨p,0,none⟩),.int .i64 sx] (by kernel_rfl) (by kernel_rfl) rfl rfl ⟨rfl,rfl,rfl,qaf _,fun _ _=>rfl⟩ ?_;dsimp only[Reg2.gY]
 repeat((first
  |(refine' Reg2.ak _ (by rfl) (fun wz=>?_) ?_;rotate_left;(go_simp;first|rfl|rw[qai (by omega)]))
  |(refine Reg2.aA (by rfl) (fun wz hI hF=>?_) (fun _=>?_)
    ·unfold Reg2.One;have c0:=(hS.out.cw.kept hI).c2;go_wp2_with fail
     first|exact⟨_,rfl,rfl,qad⟩|exact⟨_,rfl,⟨(),rfl,trivial⟩,qad⟩));simp only[Act.put,xA,xB,xC,xD,xE,id])
 refine Reg2.pm (fun wz hI hF=>?_) (fun r6=>?_) (by rfl)
 ·go_wp2_with (go_at_call 262;go_must (refine(hsi wz (hS.out.kept hI).cw).mono ?_);rintro e w' ⟨rfl,hb5⟩)
  first|exact⟨_,rfl,⟨(),rfl,trivial⟩,hb5⟩|exact⟨_,rfl,rfl,hb5⟩
 simp only[Act.put,xA,xB,xC,xD,xE,id]
 repeat(refine' Reg2.ak _ (by rfl) (fun wz=>?_) ?_;rotate_left;(go_simp;first|rfl|rw[qai (by omega)]);simp only[Act.put,xA,xB,xC,xD,xE,id])
 refine Reg2.aB ?_;intro w4 HI4 _ eX;clear eX;dsimp only[List.drop];have bM:=hS.out.kept HI4;have hadd:=Nt bM.cw hk ha hm sx 1152921504606846976 by' F hs (by omega) hby hF hr;go_wp2_with fail;go_at_call 132;refine hadd.mono ?_;clear hadd;rintro e w5 ⟨rfl,v5,g5,gK,hS5⟩;have XY:=bM.core gK hS5;have DK:=(WS.of_below HI4:WS w w4 b c t d p v g v g).trans (WS.dD hS5);have hst:=wI nx hn gK.nodes hk.rR;rw[show({P with f:=F}:Pg).T=P.T from rfl]at hst;have c1:=gK.c1;go_wp2_with fail;go_at_call 48;refine hst.mono ?_;clear hst c1;rintro e w6 ⟨rfl,mm,rH⟩;have hb6:Below w5.heap.size w5 w6:=by rw[rH];exact below_drewN qac _
 have eY:=XY.kept hb6;have uw:=DK.trans (WS.of_below hb6);obtain⟨w7,hw7,zf,Sd⟩:=Sc eY.wk 0 nx (qc P.T nx) 0 0 0 0 0 0;have a24:=eY.wk.at 24 (.int .i64 R.rep.err) rfl;have f24:=eY.wk.free 24;have a25:=eY.wk.at 25 (.int .i64 R.rep.id) rfl;have f25:=eY.wk.free 25;have a26:=eY.wk.at 26 (.int .i64 R.rep.state) rfl;have f26:=eY.wk.free 26;have a27:=eY.wk.at 27 (.int .i64 R.rep.start) rfl;have f27:=eY.wk.free 27;have a28:=eY.wk.at 28 (.int .i64 R.rep.stop) rfl;have f28:=eY.wk.free 28;have a29:=eY.wk.at 29 (.int .i64 R.rep.plan) rfl;have f29:=eY.wk.free 29;have a30:=eY.wk.at 30 (.int .i64 R.rep.a) rfl;have f30:=eY.wk.free 30;have a31:=eY.wk.at 31 (.int .i64 R.rep.b) rfl;have f31:=eY.wk.free 31;have a32:=eY.wk.at 32 (.int .i64 R.rep.c) rfl;have f32:=eY.wk.free 32;have gM:=eY.work zf Sd;have L6:=uw.trans (WS.bD Sd);replace rH:=qae rH;go_wp2_with fail;rw[←hw7];go_ret;have en:=hnx.out;subst en;exact⟨rfl,v5,g5,gM,L6⟩
end
def Early (M:Md):Prop:=∀j∈M.L,j.st≤2→j.fin= -1
theorem foldl_min (l:List Int):∀x:Int,(l.foldl min x=x∨l.foldl min x∈l)∧l.foldl min x≤x∧∀z∈l,l.foldl min x≤z:=by
 induction l with
 |nil=>exact fun x=>⟨.inl rfl,Int.le_refl _,fun z hz=>nomatch hz⟩
 |cons a l ih=>
  intro x;obtain⟨h1,h2,h3⟩:=ih (min x a);refine⟨?_,by show l.foldl min (min x a)≤x;omega,fun z hz=>?_⟩
  ·show l.foldl min (min x a)=x∨l.foldl min (min x a)∈a::l;rcases h1 with h1|h1
   ·rw[h1];rcases Int.le_total x a with h|h
    ·exact .inl (Int.min_eq_left h)
    ·exact .inr (by rw[Int.min_eq_right h];exact List.mem_cons_self ..)
   ·exact .inr (List.mem_cons_of_mem _ h1)
  ·show l.foldl min (min x a)≤z;rcases List.mem_cons.1 hz with rfl|hz
   ·omega
   ·exact h3 z hz
theorem CK (l:List Int):kJ l=1152921504606846976∨kJ l∈l:=(foldl_min l _).1
theorem L8 {l:List Int}{z:Int}(h:z∈l):kJ l≤z:=(foldl_min l _).2.2 z h
section
variable {M : Md}
theorem JC (hI:aG M)(hE:Early M):kJ (rX M.now (M.L.filter fun j:Jb=>decide (j.state∈ [(1:Int),3])))=if aV M<0 then 1152921504606846976 else aV M:=by
 have h0:=hI.mb.now;have hL:=rC (M:=M) h0.1;have key:∀t,t∈rX M.now (M.L.filter fun j:Jb=>decide (j.state∈ [(1:Int),3]))↔(t∈M.L.flatMap xH∧M.now<t):=by
  intro t;unfold rX;simp only[List.mem_flatMap];constructor
  ·rintro⟨j,hj,ht⟩;obtain⟨hjm,hjs⟩:=List.mem_filter.1 hj;unfold LW at ht;obtain⟨ht1,ht2⟩:=List.mem_filter.1 ht;have ht2:M.now<t:=of_decide_eq_true ht2;refine⟨⟨j,hjm,?_⟩,ht2⟩;have hs:j.st=1∨j.st=3:=by
    have:j.state=1∨j.state=3:=by simpa using hjs
    exact this
   have ht3:t=j.fin∨t=j.aJ:=by simpa using ht1
   unfold xH;rcases hs with hs|hs
   ·have he:=hE j hjm (by omega);have htp:t=j.aJ:=by rcases ht3 with h|h<;>omega
    have hpl:aj j=true:=bu.2 ⟨hs,by omega⟩;rw[hpl];simp[htp]
   ·have hr:=hI.rest j hjm (by omega);have htp:t=j.fin:=by rcases ht3 with h|h<;>omega
    simp[hs,htp]
  ·rintro⟨⟨j,hjm,ht⟩,ht2⟩;unfold xH at ht;rcases List.mem_append.1 ht with h|h
   ·by_cases hs:j.st=3
    ·rw[qaj hs]at h;refine⟨j,List.mem_filter.2 ⟨hjm,?_⟩,?_⟩
     ·have:j.state=3:=hs;simp[this]
     ·unfold LW;rw[List.mem_singleton.1 h]at ht2⊢;exact List.mem_filter.2 ⟨by simp,qag ht2⟩
    ·rw[qai hs]at h;cases h
   ·by_cases hs:aj j=true
    ·rw[qaj hs]at h;refine⟨j,List.mem_filter.2 ⟨hjm,?_⟩,?_⟩
     ·have:j.state=1:=(bu.1 hs).1;simp[this]
     ·unfold LW;rw[List.mem_singleton.1 h]at ht2⊢;exact List.mem_filter.2 ⟨by simp,qag ht2⟩
    ·rw[qai hs]at h;cases h
 have hbig:∀t∈M.L.flatMap xH,t≤1099512676352:=by
  intro t ht;obtain⟨j,hjm,ht⟩:=List.mem_flatMap.1 ht;have h1:=hI.mb.fin j hjm;have h2:=hI.mb.aJ j hjm;unfold xH at ht;rcases List.mem_append.1 ht with h|h
  ·split at h
   ·rw[List.mem_singleton.1 h];omega
   ·cases h
  ·split at h
   ·rw[List.mem_singleton.1 h];omega
   ·cases h
 rcases hL with⟨h1,h2⟩|⟨h1,h2,h3,h4⟩
 ·rw[qaj h1];rcases CK (rX M.now (M.L.filter fun j:Jb=>decide (j.state∈ [(1:Int),3])))with h|h
  ·exact h
  ·have:=(key _).1 h;have:=h2 _ this.1;omega
 ·rw[qai (by omega)];have h5:=L8 ((key _).2 ⟨h3,h2⟩);have h6:=hbig _ h3;rcases CK (rX M.now (M.L.filter fun j:Jb=>decide (j.state∈ [(1:Int),3])))with h|h
  ·omega
  ·have h7:=(key _).1 h;have:=h4 _ h7.1 h7.2;omega
end
section
variable {w : World} {b c t d p g a : Nat} {v : Value} {m : Int} {P : Pg} {M : Md} {R : Wk}
theorem Po (h:CW w c t d p v g a m P)(ha:a≤1000):Calls prog 57 #[.pointer (some ⟨p,0,none⟩),.int .i64 P.now] w fun e w'=>e=.returned (.int .i64 (P.f P.now))∧Below w.heap.size w w':=by
 obtain⟨S,aF,hp,hC,hl,_⟩:=h.mh;obtain⟨i,hi⟩:=hC.sm.ix P.now;rw[hi.val hC.sm (Int.le_refl _)];exact OP P.now hi hC.sm (by omega) hp
theorem EM (h:SW w b c t d p v g a m R P)(ha:a≤1000):Calls prog 212 #[.pointer (some ⟨b,0,none⟩),.pointer (some ⟨c,0,none⟩)] w (az w b c t d p v g a m (.tuple #[]) {R with rep:=⟨0,0,0,P.now,0,0,P.f P.now,0,0⟩} P):=by
 have hS:=qae h;have hfr:=fun(W:World) (hW:SW W b c t d p v g a m R P)=>Po hW.cw ha;obtain⟨fn,hfn⟩:=qaa (P.f P.now);rw[←hfn]at hfr⊢;replace hfn:=qae hfn;clear h;go_enter func212,ntmps212;go_wp2_with fail;refine Reg2.ro w 17 23 [.p 0,.p 0,.p 2,.p 6,.m 14,.m 30,.p 0,.p 64,.p 192,.m 448,.p 0,.p 1024,.p 3072,.m 7168,.m 15422,.m 32766,.p 65534] [.pointer (some ⟨p,0,none⟩),.int .i64 P.now,.pointer (some ⟨p,0,none⟩),.pointer (some ⟨p,0,none⟩),.int .i64 P.now,.int .i64 fn] (by kernel_rfl) (by kernel_rfl) rfl rfl ⟨rfl,rfl,rfl,qaf _,fun _ _=>rfl⟩ ?_;dsimp only[Reg2.gY]
 repeat((first
  |(refine' Reg2.ak _ (by rfl) (fun wz=>?_) ?_;rotate_left;(go_simp;first|rfl|rw[qai (by omega)]))
  |(refine Reg2.aA (by rfl) (fun wz hI hF=>?_) (fun _=>?_)
    ·unfold Reg2.One;have c0:=(hS.out.cw.kept hI).c2;go_wp2_with fail
     first|exact⟨_,rfl,rfl,qad⟩|exact⟨_,rfl,⟨(),rfl,trivial⟩,qad⟩));simp only[Act.put,xA,xB,xC,xD,xE,id])
 refine Reg2.pm (fun wz hI hF=>?_) (fun r5=>?_) (by rfl)
 ·go_wp2_with (go_at_call 45;go_must (refine(gq (hS.out.kept hI).cw).mono ?_);rintro e w' ⟨rfl,rfl⟩)
  first|exact⟨_,rfl,rfl,qad⟩|exact⟨_,rfl,⟨(),rfl,trivial⟩,qad⟩
 simp only[Act.put,xA,xB,xC,xD,xE,id]
 repeat((first
  |(refine' Reg2.ak _ (by rfl) (fun wz=>?_) ?_;rotate_left;(go_simp;first|rfl|rw[qai (by omega)]))
  |(refine Reg2.aA (by rfl) (fun wz hI hF=>?_) (fun _=>?_)
    ·unfold Reg2.One;have c0:=(hS.out.cw.kept hI).c2;go_wp2_with fail
     first|exact⟨_,rfl,rfl,qad⟩|exact⟨_,rfl,⟨(),rfl,trivial⟩,qad⟩));simp only[Act.put,xA,xB,xC,xD,xE,id])
 refine Reg2.pm (fun wz hI hF=>?_) (fun Uu=>?_) (by rfl)
 ·go_wp2_with (go_at_call 45;go_must (refine(gq (hS.out.kept hI).cw).mono ?_);rintro e w' ⟨rfl,rfl⟩)
  first|exact⟨_,rfl,rfl,qad⟩|exact⟨_,rfl,⟨(),rfl,trivial⟩,qad⟩
 simp only[Act.put,xA,xB,xC,xD,xE,id];refine Reg2.pm (fun wz hI hF=>?_) (fun r15=>?_) (by rfl)
 ·go_wp2_with (go_at_call 57;go_must (refine(hfr wz (hS.out.kept hI)).mono ?_);rintro e w' ⟨rfl,hb5⟩)
  first|exact⟨_,rfl,⟨(),rfl,trivial⟩,hb5⟩|exact⟨_,rfl,rfl,hb5⟩
 simp only[Act.put,xA,xB,xC,xD,xE,id]
 repeat(refine' Reg2.ak _ (by rfl) (fun wz=>?_) ?_;rotate_left;(go_simp;first|rfl|rw[qai (by omega)]);simp only[Act.put,xA,xB,xC,xD,xE,id])
 refine Reg2.aB ?_;intro w4 HI4 _ eX;clear eX;dsimp only[List.drop];have bM:=hS.out.kept HI4;obtain⟨w7,hw7,zf,Sd⟩:=Sc bM.wk 0 0 0 P.now 0 0 fn 0 0;have a24:=bM.wk.at 24 (.int .i64 R.rep.err) rfl;have f24:=bM.wk.free 24;have a25:=bM.wk.at 25 (.int .i64 R.rep.id) rfl;have f25:=bM.wk.free 25;have a26:=bM.wk.at 26 (.int .i64 R.rep.state) rfl;have f26:=bM.wk.free 26;have a27:=bM.wk.at 27 (.int .i64 R.rep.start) rfl;have f27:=bM.wk.free 27;have a28:=bM.wk.at 28 (.int .i64 R.rep.stop) rfl;have f28:=bM.wk.free 28;have a29:=bM.wk.at 29 (.int .i64 R.rep.plan) rfl;have f29:=bM.wk.free 29;have a30:=bM.wk.at 30 (.int .i64 R.rep.a) rfl;have f30:=bM.wk.free 30;have a31:=bM.wk.at 31 (.int .i64 R.rep.b) rfl;have f31:=bM.wk.free 31;have a32:=bM.wk.at 32 (.int .i64 R.rep.c) rfl;have f32:=bM.wk.free 32;have gM:=bM.work zf Sd;have L6:=(WS.of_below HI4:WS w w4 b c t d p v g v g).trans (WS.bD Sd);go_wp2_with fail;rw[←hw7];go_end0;exact⟨rfl,v,g,gM,L6⟩
theorem vN (h:SW w b c t d p v g a m R (ai M))(hI:aG M)(hE:Early M)(h1:1≤M.dr.length)(hll:M.L.length≤900)(ha:a≤800)(hm:m≤1000000)(hnx:aV M<0∨R.target<aV M)(tF:M.now≤R.target∧R.target≤1099511627776):
 Calls prog 242 #[.pointer (some ⟨b,0,none⟩),.pointer (some ⟨c,0,none⟩)] w (az w b c t d p v g a (m+1) .nilFunc {R with rep:=⟨0,0,0,R.target,0,0,ax M R.target 0,0,0⟩} (ai {M with now:=R.target})):=by
 have sQ:=fu hI h1 hll;have hne:=EI h.cw sQ (fun j hj=>hI.mb.fin j hj) (fun j hj=>hI.mb.aJ j hj);rw[show(ai M).now=M.now from rfl,show(ai M).J=M.L from rfl,JC hI hE]at hne;obtain⟨x,hx⟩:=qaa (if aV M<0 then 1152921504606846976 else aV M);rw[←hx]at hne;have hgt:R.target<x:=by rw[hx];split<;>omega
 have d1:decide (x>R.target)=true:=qag hgt;replace hx:=qae hx;replace hgt:=qae hgt;have Nu:=fun(W:World) (hW:SW W b c t d p v g a m R (ai M))=>zW hW.cw sQ ha hm R.target tF.1 tF.2;have L9:=fun(W:World) (hW:SW W b c t d p v g a m R (ai M))=>hW.wk.at 23 (.int .i64 R.target) rfl;generalize hrt:R.target=rt at*;have hS:=qae h;clear h;go_enter func242,ntmps242;go_wp2_with fail;go_at_call 264;refine hne.mono ?_;clear hne;rintro e w1 ⟨rfl,hb1⟩;have hS1:=qae (hS.out.kept hb1);have q1:=L9 w1 hS1.out;replace L9:=qae L9;replace hrt:=qae hrt;go_wp2_with fail;refine Reg2.ro w1 8 44 [.p 0,.p 1,.p 3,.m 7,.p 0,.p 16,.p 48,.m 112] [.pointer (some ⟨p,0,none⟩),.int .i64 rt] (by kernel_rfl) (by kernel_rfl) rfl rfl ⟨rfl,rfl,rfl,qaf _,fun _ _=>rfl⟩ ?_;dsimp only[Reg2.gY]
 repeat((first
  |(refine' Reg2.ak _ (by rfl) (fun wz=>?_) ?_;rotate_left;(go_simp;first|rfl|rw[qai (by omega)]))
  |(refine Reg2.aA (by rfl) (fun wz hI hF=>?_) (fun _=>?_)
    ·unfold Reg2.One;have c0:=(hS1.out.cw.kept hI).c2;have q0:=L9.out wz (hS1.out.kept hI);go_wp2_with fail
     first|exact⟨_,rfl,rfl,qad⟩|exact⟨_,rfl,⟨(),rfl,trivial⟩,qad⟩));simp only[Act.put,xA,xB,xC,xD,xE,id])
 refine Reg2.aB ?_;intro w4 HI4 _ eX;clear eX;dsimp only[List.drop];have bM:=hS1.out.kept HI4;have XZ:=Nu w4 bM;go_wp2_with fail;go_at_call 265;refine XZ.mono ?_;clear XZ;rintro e w5 ⟨rfl,v5,g5,gK,hS5⟩;have Sg:=bM.core gK hS5;have DK:=(WS.of_below (hb1.trans (HI4.mono hb1.size)):WS w w4 b c t d p v g v g).trans (WS.dD hS5);have hck:=EM Sg (by omega);rw[show({ai M with now:=rt}:Pg).f=fun u=>ax M u 0 from rfl,show({ai M with now:=rt}:Pg).now=rt from rfl]at hck;go_wp2_with fail;go_at_call 212;refine hck.mono ?_;clear hck;rintro e w6 ⟨rfl,v6,g6,eY,Za⟩;have uw:=DK.trans Za;go_wp2_with fail;go_ret;have er:=hrt.out;clear hrt;subst er;exact⟨rfl,v6,g6,eY,uw⟩
theorem Ac (h:SW w b c t d p v g a m R (ai M))(hI:aG M)(Zb:Calm M)(hE:Early M)(h1:1≤M.dr.length)(hll:M.L.length≤900)(ha:a≤800)(hm:m≤1000000)(hnx:0≤aV M∧aV M≤R.target)(tF:R.target≤1099511627776):
 Calls prog 242 #[.pointer (some ⟨b,0,none⟩),.pointer (some ⟨c,0,none⟩)] w (az w b c t d p v g a (m+1) (fF 242) R (ai (dK {M with now:=aV M}))):=by
 have sQ:=fu hI h1 hll;have hne:=EI h.cw sQ (fun j hj=>hI.mb.fin j hj) (fun j hj=>hI.mb.aJ j hj);rw[show(ai M).now=M.now from rfl,show(ai M).J=M.L from rfl,JC hI hE,qai (by omega)]at hne;obtain⟨hlt,Uv,_⟩:=hI.step Zb hnx.1 (by omega);have hf0:∀u,aV M≤u→0≤ax M u 0∧ax M u 0≤64:=fun u hu=>wO hI u (by omega);have hov:=Uv.over;have Nu:=fun(W:World) (hW:SW W b c t d p v g a m R (ai M))=>zW hW.cw sQ ha hm (aV M) (by show M.now≤_;omega) (by omega);have Si:=fun(W:World) (v1:Value) (g1:Nat) (hW:CW W c t d p v1 g1 a (m+1) {ai ({M with now:=aV M}:Md)with f:=fun u=>ax M u 0})=>LU (M:={M with now:=aV M}) (fun u=>ax M u 0) hW Uv h1 hll hf0;have xV:=fun(W:World) (v1:Value) (g1:Nat) (hW:CW W c t d p v1 g1 a (m+1) {ai ({({M with now:=aV M}:Md)with L:=M.L.map (aW (aV M))}:Md)with f:=fun u=>ax M u 0})=>Pf (M:={({M with now:=aV M}:Md)with L:=M.L.map (aW (aV M))}) (fun u=>ax M u 0) hW hov.1 hov.2 M.L.length (by
  have:=mF (fun j=>if dA (aV M) j=true then(1:Int)else 0) 1 (M.L.map (aW (aV M))) (fun j _=>by split<;>omega);rw[List.length_map]at this;have e:mf ({({M with now:=aV M}:Md)with L:=M.L.map (aW (aV M))}:Md)=((M.L.map (aW (aV M))).map fun j=>if dA (aV M) j=true then(1:Int)else 0).sum:=rfl;rw[e];omega) h1 (by rw[List.length_map];exact hll) hf0
 have Sj:startGo M.L.length ({({M with now:=aV M}:Md)with L:=M.L.map (aW (aV M))}:Md)=dK {M with now:=aV M}:=rfl;rw[Sj]at xV;rw[show({M with now:=aV M}:Md).now=aV M from rfl,show({M with now:=aV M}:Md).L=M.L from rfl]at Si;rw[show({({M with now:=aV M}:Md)with L:=M.L.map (aW (aV M))}:Md).now=aV M from rfl]at xV;have hfin:Hid (∀{W:World} {v1:Value} {g1:Nat},CW W c t d p v1 g1 a (m+1) {ai (dK {M with now:=aV M})with f:=fun u=>ax M u 0}→CW W c t d p v1 g1 a (m+1) (ai (dK {M with now:=aV M}))):=fun{W v1 g1} hW=>by
  have kg:(dK {M with now:=aV M}).now=aV M:=by rw[←Sj];exact(vI M.L.length hov.1.mb).2.2.1
  exact hW.V8 (fun u=>ax (dK {M with now:=aV M}) u 0) fun u hu=>(Dl Uv u (by
   have hu2:(dK {M with now:=aV M}).now≤u:=hu;rw[kg]at hu2;exact hu2)).symm
 obtain⟨H,hH⟩:∃H,H=dK {M with now:=aV M}:=⟨_,rfl⟩;rw[←hH]at xV hfin⊢;have d1:decide (aV M>R.target)=false:=qah (by omega);replace hH:=qae hH;generalize OW:aV M=x at*;replace OW:=qae OW;have L9:=fun(W:World) (hW:SW W b c t d p v g a m R (ai M))=>hW.wk.at 23 (.int .i64 R.target) rfl;generalize R.target=rt at*;have hS:=qae h;clear h hov Uv Sj;go_enter func242,ntmps242;go_wp2_with fail;go_at_call 264;refine hne.mono ?_;clear hne;rintro e w1 ⟨rfl,hb1⟩;have hS1:=hS.out.kept hb1;have q1:=L9 w1 hS1;have c2:=hS1.cw.c2;have ha1:=Nu w1 hS1;clear L9 Nu;go_wp2_with fail;go_at_call 265;refine ha1.mono ?_;clear ha1;rintro e w5 ⟨rfl,v5,g5,gK,hS5⟩;have Sg:=hS1.core gK hS5;have DK:=(WS.of_below hb1:WS w w1 b c t d p v g v g).trans (WS.dD hS5);have X0:=Si w5 v5 g5 gK;clear Si q1 c2;go_wp2_with fail;go_at_call 266;refine X0.mono ?_;clear X0;rintro e w6 ⟨rfl,v6,g6,Jj,eY⟩;have X3:=Sg.core Jj eY;have uw:=DK.trans (WS.dD eY);have hs6:=xV w6 v6 g6 Jj;clear xV;go_wp2_with fail;go_at_call 267;refine hs6.mono ?_;clear hs6;rintro e w7 ⟨rfl,v7,g7,Aw,gM⟩;have X4:=X3.core (hfin.out Aw) gM;have L6:=uw.trans (WS.dD gM);go_wp2_with fail;go_ret;exact⟨rfl,v7,g7,X4,L6⟩
end
section
variable {M : Md}
def nK (j:Jb)(x:Int):Int:=if aj j=true then min (x+j.lim) j.aJ else x+j.lim
theorem Sk {id:Int}(h:gG M.L id≠0):(getM M id).2=false:=by
 unfold gG at h;unfold getM;by_cases h1:id<1
 ·rw[qaj (.inl h1)]
 ·rw[qai h1]at h;by_cases h2:(M.L.length:Int)<id
  ·rw[qaj (.inr h2)]
  ·rw[qai h2]at h;exact absurd rfl h
theorem vk {id:Int}(h:gG M.L id=0):∃i:Nat,i<M.L.length∧id=(i:Int)+1∧bI M.L id=M.L.getD i default∧getM M id=(M.L.getD i default,true):=by
 unfold gG at h;by_cases h1:id<1
 ·rw[qaj h1]at h;cases h
 ·rw[qai h1]at h;by_cases h2:(M.L.length:Int)<id
  ·rw[qaj h2]at h;cases h
  ·refine⟨(id-1).toNat,by omega,by omega,?_,?_⟩
   ·unfold bI;have hq:(id-1).toNat<M.L.length:=by omega
    rw[qai h1,qai h2,getElem!_pos M.L _ hq];generalize (id-1).toNat=q at*;simp[List.getD,hq]
   ·unfold getM;rw[qai (by omega)]
theorem Sl (h:M.cl=true)(id x:Int):eF M id x=false:=by unfold eF;rw[qaj (.inl h)]
theorem Pp {id x:Int}(h:x<M.now):eF M id x=false:=by unfold eF;rw[qaj (.inr (.inr (.inr (.inl h))))]
theorem Ma {id x:Int}(h:1099511627776<x):eF M id x=false:=by unfold eF;rw[qaj (.inr (.inr (.inr (.inr (.inl h)))))]
theorem Mc {id x:Int}(h:gG M.L id≠0):eF M id x=false:=by unfold eF;rw[qaj (.inr (.inl (Sk h)))]
theorem JD {id x:Int}(h:gG M.L id=0)(hs:(bI M.L id).st≠1):eF M id x=false:=by
 obtain⟨i,_,_,h3,h4⟩:=vk h;unfold eF;rw[qaj];exact .inr (.inr (.inl (by rw[h4,←h3];exact hs)))
theorem Me {id x:Int}(h:gG M.L id=0)(hp:aj (bI M.L id)=true)(hl:(bI M.L id).aJ≤x):eF M id x=false:=by
 obtain⟨i,_,_,h3,h4⟩:=vk h;unfold eF;rw[qaj];exact .inr (.inr (.inr (.inr (.inr (by rw[h4,←h3];exact⟨(bu.1 hp).2,hl⟩)))))
theorem Uw {x long width but:Int}(hx:1≤long)(h:∀t,x≤t→t<x+long→width≤ax M t but):yx M x long width but=true:=by
 unfold yx;rw[Bool.and_eq_true,List.all_eq_true];refine⟨qag (h x (Int.le_refl _) (by omega)),fun t _=>?_⟩;rw[Bool.not_eq_true',Bool.and_eq_false_iff,Bool.and_eq_false_iff];by_cases h1:x<t
 ·by_cases h2:t<x+long
  ·refine .inr (qah ?_);have:=h t (by omega) h2;omega
  ·exact .inl (.inr (qah h2))
 ·exact .inl (.inl (qah h1))
theorem Mf (hI:aG M){id x m:Int}(hcl:M.cl=false)(h1:M.now≤x)(h2:x≤1099511627776)(h:gG M.L id=0)(hs:(bI M.L id).st=1)(hl:aj (bI M.L id)=true→x<(bI M.L id).aJ)
 (hm:BL (fun u=>ax M u 0) x (nK (bI M.L id) x) m):eF M id x=decide ((bI M.L id).wid≤m):=by
 obtain⟨i,hi,hid,h3,h4⟩:=vk h;have hmem:=aZ hi;rw[h3]at hs hl hm⊢;have hone:=hI.one _ hmem;have X5:=hI.ids i hi;have e:eF M id x=yx M x (M.L.getD i default).lim (M.L.getD i default).wid ((i:Int)+1):=by
  unfold eF;rw[h4];show(if M.cl=true∨true=false∨_ then _ else _)=_;rw[qai,X5];have h5:=hs;rintro(a1|a1|a1|a1|a1|a1)
  ·rw[hcl]at a1;cases a1
  ·cases a1
  ·exact a1 hs
  ·omega
  ·omega
  ·have:=hl (bu.2 ⟨h5,a1.1⟩);have h6:(M.L.getD i default).aJ≤x:=a1.2;omega
 rw[e];have zA:=mE hi hI.ids;have hto:x<nK (M.L.getD i default) x:=by
  unfold nK;split
  ·rename_i hp;have:=hl hp;omega
  ·omega
 have Qt:=hI.mb.wid _ hmem;have hcon:∀u,x≤u→u<x+(M.L.getD i default).lim→(u<nK (M.L.getD i default) x→dM u 0 (M.L.getD i default)=0)∧(nK (M.L.getD i default) x≤u→dM u 0 (M.L.getD i default)=(M.L.getD i default).wid):=by
  intro u hu1 hu2;unfold nK;cases hp:aj (M.L.getD i default)with
  |false=>
   refine⟨fun _=>dN hp,fun h6=>?_⟩;rw[qai (by decide)]at h6;omega
  |true=>
   have h7:=hl hp;rw[qaj rfl,mD hp (by omega)];refine⟨fun h6=>qai (by omega),fun h6=>qaj (by omega)⟩
 have hsub:nK (M.L.getD i default) x≤x+(M.L.getD i default).lim:=by unfold nK;split<;>omega
 rw[Bool.eq_iff_iff,decide_eq_true_eq];constructor
 ·intro hr;have hall:=yC hI.mb.now.1 h1 hr;rcases hm.one with e1|⟨u,u1,u2,u3⟩
  ·omega
  ·have h6:=hall u u1 (by omega);rw[zA,(hcon u u1 (by omega)).1 u2]at h6;have h7:ax M u 0=m:=u3;omega
 ·intro hw;refine Uw (by omega) fun u ht1 ht2=>?_;rw[zA];rcases Int.lt_or_le u (nK (M.L.getD i default) x)with h6|h6
  ·have h7:m≤ax M u 0:=hm.all u ht1 h6;rw[(hcon u ht1 ht2).1 h6];omega
  ·have h7:=hI.free u (by omega);rw[(hcon u ht1 ht2).2 h6];omega
end
def iG (w0:World)(y:Jb)(vs:List Value)(W:World):Prop:=Below w0.heap.size w0 W∧(match vs with
 | []=>True
 | [u]=>∃k,u=.pointer (some ⟨k,0,none⟩)∧w0.heap.size≤k∧W.heap[k]? =some (.cells (ah iq).toArray 55 (0,0))
 |u::_::_=>∃k,u=.pointer (some ⟨k,0,none⟩)∧w0.heap.size≤k∧W.heap[k]? =some (.cells (ah y).toArray 55 (0,0)))
theorem iG.ext {w0 a b:World}{y:Jb}{vs:List Value}(h:Below a.heap.size a b)(hs:iG w0 y vs a):iG w0 y vs b:=by
 obtain⟨h1,h2⟩:=hs;refine⟨h1.trans (h.mono h1.size),?_⟩
 match vs,h2 with
 | [],_=>trivial
 | [u],⟨k,e,hk,hz⟩=>exact⟨k,e,hk,(h.block k (au hz)).trans hz⟩
 |u::_::_,⟨k,e,hk,hz⟩=>exact⟨k,e,hk,(h.block k (au hz)).trans hz⟩
theorem iG.alloc {w0 W:World}{y:Jb}(hs:iG w0 y [] W):iG w0 y ([]++[.pointer (some ⟨W.heap.size,0,none⟩)]) (W.alloc (.cells #[.int .i64 0,.int .i64 0,.int .i64 0,.int .i64 0,.int .i64 0,.int .i64 0,.int .i64 0,.int .i64 0,.int .i64 0,.int .u64 0] 55)):=
 ⟨hs.1.alloc hs.1.size _,_,rfl,hs.1.size,heap_alloc_new W _⟩
theorem iG.zero {w0 W:World}{y:Jb}{k:Nat}(hs:iG w0 y [.pointer (some ⟨k,0,none⟩)] W):W.heap[k]? =some (.cells (ah iq).toArray 55 (0,0))∧w0.heap.size≤k:=by
 obtain⟨_,k',e,h1,h2⟩:=hs;injection e with e;injection e with e;injection e with e;subst e;exact⟨h2,h1⟩
theorem iG.store {w0 W:World}{y:Jb}{k:Nat}(hs:iG w0 y [.pointer (some ⟨k,0,none⟩)] W):iG w0 y ([.pointer (some ⟨k,0,none⟩)]++[undef]) (W.setRow k (ah y).toArray):=by
 obtain⟨hz,hk⟩:=hs.zero;exact⟨qN hs.1 hk _,k,rfl,hk,xP hz _⟩
theorem iG.full {w0 W:World}{y:Jb}{k:Nat}{u:Value}(hs:iG w0 y [.pointer (some ⟨k,0,none⟩),u] W):W.heap[k]? =some (.cells (ah y).toArray 55 (0,0))∧w0.heap.size≤k:=by
 obtain⟨_,k',e,h1,h2⟩:=hs;injection e with e;injection e with e;injection e with e;subst e;exact⟨h2,h1⟩
section
variable {w : World} {b c t d p g a : Nat} {v : Value} {m : Int} {P : Pg} {M : Md} {R : Wk}
theorem Mg (h:CW w c t d p v g a m P)(hk:PK P)(ha:a≤1000)(lo hi:Int)(h0:P.now≤lo)(hh: -9223372036854775808≤hi∧hi≤9223372036854775807):Calls prog 147 #[.pointer (some ⟨p,0,none⟩),.int .i64 lo,.int .i64 hi] w fun e w'=>∃r:Int,e=.returned (.int .i64 r)∧BL P.f lo hi r∧Below w.heap.size w w':=by
 obtain⟨S,aF,hp,hC,hl,_⟩:=h.mh;have:=Dy lo hi hh hC.sm hk.now.1 (by omega) hp
 rwa [Int.max_eq_left h0]at this
theorem GA (h:CW w c t d p v g a m (ai M))(hI:aG M)(h1:1≤M.dr.length)(hll:M.L.length≤900)(ha:a≤800)(xi xt:Int)(hxt: -9223372036854775808≤xt∧xt≤9223372036854775807)(hc:M.cl=true):
 Calls prog 69 #[.pointer (some ⟨c,0,none⟩),.agg #[.int .i64 xi,.int .i64 xt]] w fun e w'=>e=.returned (.bool (eF M xi xt))∧Below w.heap.size w w':=by
 have sQ:=qae (fu hI h1 hll);have zJ:=bL;have zS:=kF;obtain⟨k,hk1⟩:=qaa (10);obtain⟨k3,hk3⟩:∃k,k=3:=⟨_,rfl⟩;rw[←hk1]at zJ;rw[←hk3]at zS;have hk0:¬k=0:=by omega
 have zZ:¬k3=0:=by omega
 replace hk1:=qae hk1;replace hk3:=qae hk3;obtain⟨wA,aK⟩:=qaa (w.alloc (.cells #[.int .i64 xi,.int .i64 xt] 35));have bS:Hid (Below w.heap.size w wA):=by show Below _ _ _;rw[aK];exact qac.alloc (qaf _) _
 have qQ:Hid (wA.heap[w.heap.size]? =some (.cells #[.int .i64 xi,.int .i64 xt] 35 (0,0))):=by show _=_;rw[aK];exact heap_alloc_new w _
 have iU:=qae (h.kept bS.out);have hcl:=fun(W:World) (hW:Below wA.heap.size wA W)=>jl (iU.out.kept hW);rw[show(ai M).cl=M.cl from rfl]at hcl;have hnw:=fun(W:World) (hW:Below wA.heap.size wA W)=>gq (iU.out.kept hW);rw[show(ai M).now=M.now from rfl]at hnw;rw[hc]at hcl;have hres:=Sl hc xi xt;rw[hres];replace hres:=qae hres;replace hc:=qae hc;clear h;go_enter func69,ntmps69;go_wp2_with fail;rw[←aK];replace aK:=qae aK;refine Reg2.ro wA 10 76 [.p 0,.m 1,.p 3,.p 7,.m 15,.p 7,.p 39,.p 103,.m 231,.m 487] [.bool true,.int .i64 xt,.pointer (some ⟨p,0,none⟩),.int .i64 M.now] (by kernel_rfl) (by kernel_rfl) rfl rfl ⟨rfl,rfl,rfl,qaf _,fun _ _=>rfl⟩ ?_;dsimp only[Reg2.gY]
 repeat(refine' Reg2.ak _ (by rfl) (fun wz=>?_) ?_;rotate_left;(go_simp;first|rfl|rw[qai (by omega)]);simp only[Act.put,xA,xB,xC,xD,xE,id])
 refine Reg2.pm (fun wz hI hF=>?_) (fun r1=>?_) (by rfl)
 ·go_wp2_with (go_at_call 42;go_must (refine(hcl wz hI).mono ?_);rintro e w' ⟨rfl,rfl⟩)
  first|exact⟨_,rfl,rfl,qad⟩|exact⟨_,rfl,⟨(),rfl,trivial⟩,qad⟩
 simp only[Act.put,xA,xB,xC,xD,xE,id]
 repeat((first
  |(refine' Reg2.ak _ (by rfl) (fun wz=>?_) ?_;rotate_left;(go_simp;first|rfl|rw[qai (by omega)]))
  |refine Reg2.uO (by rfl) ?_
  |refine Reg2.lq (by rfl) ?_);simp only[Act.put,xA,xB,xC,xD,xE,id])
 refine Reg2.aB ?_;intro w4 HI4 _ eX;clear eX;dsimp only[List.drop];go_wp2_with fail;go_ret;exact⟨rfl,bS.out.trans (HI4.mono bS.out.size)⟩
theorem Mh (h:CW w c t d p v g a m (ai M))(hI:aG M)(h1:1≤M.dr.length)(hll:M.L.length≤900)(ha:a≤800)(xi xt:Int)(hxt: -9223372036854775808≤xt∧xt≤9223372036854775807)(hc:M.cl=false):
 Calls prog 69 #[.pointer (some ⟨c,0,none⟩),.agg #[.int .i64 xi,.int .i64 xt]] w fun e w'=>e=.returned (.bool (eF M xi xt))∧Below w.heap.size w w':=by
 have sQ:=qae (fu hI h1 hll);have zJ:=bL;have zS:=kF;obtain⟨k,hk1⟩:=qaa (10);obtain⟨k3,hk3⟩:∃k,k=3:=⟨_,rfl⟩;rw[←hk1]at zJ;rw[←hk3]at zS;have hk0:¬k=0:=by omega
 have zZ:¬k3=0:=by omega
 replace hk1:=qae hk1;replace hk3:=qae hk3;obtain⟨wA,aK⟩:=qaa (w.alloc (.cells #[.int .i64 xi,.int .i64 xt] 35));have bS:Hid (Below w.heap.size w wA):=by show Below _ _ _;rw[aK];exact qac.alloc (qaf _) _
 have qQ:Hid (wA.heap[w.heap.size]? =some (.cells #[.int .i64 xi,.int .i64 xt] 35 (0,0))):=by show _=_;rw[aK];exact heap_alloc_new w _
 have iU:=qae (h.kept bS.out);have hcl:=fun(W:World) (hW:Below wA.heap.size wA W)=>jl (iU.out.kept hW);rw[show(ai M).cl=M.cl from rfl]at hcl;have hnw:=fun(W:World) (hW:Below wA.heap.size wA W)=>gq (iU.out.kept hW);rw[show(ai M).now=M.now from rfl]at hnw;rw[hc]at hcl;have his:=fun(W:World)=>Ur xt W hxt;have hget:=qae (fun(W:World) (hW:Below wA.heap.size wA W)=>fO (iU.out.kept hW).eU xi);obtain⟨rb,hrb⟩:=qaa (eF M xi xt);rw[←hrb];replace hrb:=qae hrb;replace hc:=qae hc;clear h;go_enter func69,ntmps69;go_wp2_with fail;rw[←aK];replace aK:=qae aK;refine Reg2.ro wA 10 76 [.p 0,.m 1,.p 3,.p 7,.m 15,.p 7,.p 39,.p 103,.m 231,.m 487] [.bool false,.int .i64 xt,.pointer (some ⟨p,0,none⟩),.int .i64 M.now] (by kernel_rfl) (by kernel_rfl) rfl rfl ⟨rfl,rfl,rfl,qaf _,fun _ _=>rfl⟩ ?_;dsimp only[Reg2.gY]
 repeat(refine' Reg2.ak _ (by rfl) (fun wz=>?_) ?_;rotate_left;(go_simp;first|rfl|rw[qai (by omega)]);simp only[Act.put,xA,xB,xC,xD,xE,id])
 refine Reg2.pm (fun wz hI hF=>?_) (fun r1=>?_) (by rfl)
 ·go_wp2_with (go_at_call 42;go_must (refine(hcl wz hI).mono ?_);rintro e w' ⟨rfl,rfl⟩)
  first|exact⟨_,rfl,rfl,qad⟩|exact⟨_,rfl,⟨(),rfl,trivial⟩,qad⟩
 simp only[Act.put,xA,xB,xC,xD,xE,id]
 repeat((first
  |(refine' Reg2.ak _ (by rfl) (fun wz=>?_) ?_;rotate_left;(go_simp;first|rfl|rw[qai (by omega)]))
  |(refine Reg2.aA (by rfl) (fun wz hI hF=>?_) (fun _=>?_)
    ·unfold Reg2.One;have q0:wz.cell? ⟨w.heap.size,1,none⟩=some (.int .i64 xt):=by simp[World.cell?,(hI.block _ (au qQ.out)).trans qQ.out]
     have c0:=(iU.out.kept hI).c2;go_wp2_with fail
     first|exact⟨_,rfl,rfl,qad⟩|exact⟨_,rfl,⟨(),rfl,trivial⟩,qad⟩));simp only[Act.put,xA,xB,xC,xD,xE,id])
 refine Reg2.pm (fun wz hI hF=>?_) (fun r9=>?_) (by rfl)
 ·go_wp2_with (go_at_call 45;go_must (refine(hnw wz hI).mono ?_);rintro e w' ⟨rfl,rfl⟩)
  first|exact⟨_,rfl,rfl,qad⟩|exact⟨_,rfl,⟨(),rfl,trivial⟩,qad⟩
 simp only[Act.put,xA,xB,xC,xD,xE,id];refine Reg2.aB ?_;intro w4 HI4 _ eX;clear eX;dsimp only[List.drop];have hb4:=bS.out.trans (HI4.mono bS.out.size);have Av:w4.heap[w.heap.size]? =some (.cells #[.int .i64 xi,.int .i64 xt] 35 (0,0)):=(HI4.block _ (au qQ.out)).trans qQ.out;have x1:w4.cell? ⟨w.heap.size,1,none⟩=some (.int .i64 xt):=by simp[World.cell?,Av]
 by_cases hlow:xt<M.now
 ·have d1:decide (xt<M.now)=true:=qag hlow;have hfin:Hid (rb=false):=hrb.out.trans (Pp hlow);replace hlow:=qae hlow;obtain rfl:=hfin.out;go_wp2_with fail;go_ret;exact⟨rfl,hb4⟩
 have d1:decide (xt<M.now)=false:=qah hlow;by_cases hhi:1099511627776<xt
 ·have d2:decide (0≤xt∧xt≤1099511627776)=false:=qah (by omega);rw[d2]at his;have hfin:Hid (rb=false):=hrb.out.trans (Ma hhi);replace hhi:=qae hhi;obtain rfl:=hfin.out;go_wp2_with (go_at_call 145;go_must (refine(his _).mono ?_);rintro e w' ⟨rfl,rfl⟩);go_ret;exact⟨rfl,hb4⟩
 have d2:decide (0≤xt∧xt≤1099511627776)=true:=qag (by have:=hI.mb.now;omega);rw[d2]at his;have x0:w4.cell? ⟨w.heap.size,0,none⟩=some (.int .i64 xi):=by simp[World.cell?,Av]
 have c0:=(iU.out.kept HI4).c0;obtain⟨y,hy⟩:=qaa (bI M.L xi);obtain⟨e0,he0⟩:=qaa (gG M.L xi);have hgo:Hid (∀W,Below wA.heap.size wA W→Calls prog 41 #[.pointer (some ⟨t,0,none⟩),.int .i64 xi] W fun e w'=>e=.returned (.tuple #[.agg (ah y).toArray,.int .i64 e0])∧Gr W w'):=fun W hW=>by
  have:=hget.out W hW;unfold iC at this;rw[show(ai M).J=M.L from rfl,←hy,←he0]at this;exact this
 have lY:=ay y;rw[←hk1.out]at lY;have y2:(ah y)[2]? =some (.int .i64 y.wid):=rfl;have y3:(ah y)[3]? =some (.int .i64 y.lim):=rfl;have y5:(ah y)[5]? =some (.int .i64 y.st):=rfl;have hpy:Hid (∀W,y.aJ≤1099511627776→0≤y.lim∧y.lim≤1048576→Calls prog 146 #[.agg (ah y).toArray] W fun e w'=>e=.returned (.tuple #[.agg (aO y).toArray,.bool (aj y)])∧Below W.heap.size W w'):=fun W a1 a2=>kU y a1 a2;replace hy:=qae hy;replace he0:=qae he0;have Nv:=qae Av;have nX:=qae (iU.out.kept HI4);clear Av hget x0 c0;go_wp2_with (go_at_call 145;go_must (refine(his _).mono ?_);rintro e w' ⟨rfl,rfl⟩);go_wp2_with fail;refine Reg2.qZ 12 76 (Reg2.rows 0 [.p 0,.p 1,.p 3,.p 7,.p 0,.p 16,.p 63,.p 127,.p 255,.p 255,.p 0,.p 1535]) [0,0,0,1,0,1,1,0,0,0,3,3]
  [.pure,.pure,.pure,.mU (.pointer (some ⟨t,0,none⟩)),.pure,.mU (.int .i64 xi),.mU (.tuple #[.agg (ah y).toArray,.int .i64 e0]),.pure,.pure,.pure,.major Nat 0 (fun k=>.pointer (some ⟨k,0,none⟩)),.major Unit () (fun _=>undef)]
  (fun W=>Below w4.heap.size w4 W) (iG w4 y) (fun a b=>Below w4.heap.size a b) (by kernel_rfl) (by kernel_rfl) rfl rfl (fun vs a b h hs=>iG.ext h hs) ?_ ?_ ?_ ?_ ?_ ?_ ?_
 ·intro a b he hb;exact hb.trans (Below.mono he hb.size)
 ·intro a b he hb;exact hb.trans he
 ·exact⟨trivial,trivial,trivial,⟨fun _ _ _ _ _=>trivial,fun _ _ _ _ _=>trivial⟩,trivial,⟨fun _ _ _ _ _=>trivial,fun _ _ _ _ _=>trivial⟩,⟨fun _ _ _ _ _=>trivial,fun _ _ _ _ _=>trivial⟩,trivial,trivial,trivial,trivial,trivial,trivial⟩
 ·exact⟨(fun h=>nomatch h),(fun h=>nomatch h),(fun h=>nomatch h),(fun h=>nomatch h),(fun h=>nomatch h),(fun h=>nomatch h),(fun h=>nomatch h),(fun h=>nomatch h),(fun h=>nomatch h),(fun h=>nomatch h),(fun h=>nomatch h),(fun _ _=>rfl),trivial⟩
 ·exact⟨rfl,rfl,rfl,qaf _,fun _ _=>rfl⟩
 ·exact⟨⟨rfl,rfl,rfl,qaf _,fun _ _=>rfl⟩,trivial⟩
 dsimp only[Reg2.rows,Reg2.mk,List.zip,List.zipWith,List.take]
 repeat((first
  |(refine' Reg2.ak _ (by rfl) (fun wz=>?_) ?_;rotate_left;(go_simp;first|rfl|rw[qai (by omega)]))
  |(refine Reg2.aA (by rfl) (fun wz hI hF=>?_) (fun _=>?_)
    ·unfold Reg2.One;have c0:=(nX.out.kept hI).c0;have q0:wz.cell? ⟨w.heap.size,0,none⟩=some (.int .i64 xi):=by simp[World.cell?,(hI.block _ (au Nv.out)).trans Nv.out]
     go_wp2_with fail
     first|exact⟨_,rfl,rfl,qad⟩|exact⟨_,rfl,⟨(),rfl,trivial⟩,qad⟩));simp only[Act.put,xA,xB,xC,xD,xE,id])
 refine Reg2.pm (fun wz hI hF=>?_) (fun r6=>?_) (by rfl)
 ·go_wp2_with (go_at_call 41;go_must (refine(hgo.out wz (HI4.trans (hI.mono HI4.size))).mono ?_);rintro e w' ⟨rfl,hg5⟩;have hb5:=hg5.below)
  first|exact⟨_,rfl,⟨(),rfl,trivial⟩,hb5⟩|exact⟨_,rfl,rfl,hb5⟩
 simp only[Act.put,xA,xB,xC,xD,xE,id]
 repeat(refine' Reg2.ak _ (by rfl) (fun wz=>?_) ?_;rotate_left;(go_simp;first|rfl|rw[qai (by omega)]);simp only[Act.put,xA,xB,xC,xD,xE,id])
 refine Reg2.pj (fun wz hI hS hF=>?_) (fun yN=>?_) (by rfl)
 ·go_wp2_with fail;exact⟨_,rfl,⟨⟨_,rfl⟩,iG.alloc hS⟩,qac.alloc hI.size _⟩
 simp only[Act.put,xA,xB,xC,xD,xE,id];refine Reg2.pj (fun wz hI hS hF=>?_) (fun V5=>?_) (by rfl)
 ·obtain⟨hz,hge⟩:=iG.zero hS;have Az:=mr (x:=y) hz;have hfin:=iG.store hS;have hbw:Below w4.heap.size wz (wz.setRow yN (ah y).toArray):=qN qac hge _;generalize ah y=cY at*;go_wp2_with fail;exact⟨_,rfl,⟨⟨(),rfl⟩,hfin⟩,hbw⟩
 simp only[Act.put,xA,xB,xC,xD,xE,id];refine Reg2.aB ?_;intro w7 jZ sS kG;clear kG;dsimp only[List.drop];obtain⟨Ay,ZK⟩:=iG.full sS;have kr:=hb4.trans (jZ.mono hb4.size);have We:=(jZ.block _ (au Nv.out)).trans Nv.out;have x1:w7.cell? ⟨w.heap.size,1,none⟩=some (.int .i64 xt):=by simp[World.cell?,We]
 have b5:w7.cell? ⟨yN,5,none⟩=some (.int .i64 y.st):=by simp[World.cell?,Ay,y5]
 have b3:w7.cell? ⟨yN,3,none⟩=some (.int .i64 y.lim):=by simp[World.cell?,Ay,y3]
 have Us:=fT Ay lY;clear sS;by_cases hne:e0≠0
 ·have d3:(e0 != 0)=true:=by simp[hne]
  have hfin:Hid (rb=false):=hrb.out.trans (Mc (by rw[←he0.out];exact hne));obtain rfl:=hfin.out;replace hne:=qae hne;go_wp2_with fail;go_ret;exact⟨rfl,kr⟩
 have he1:e0=0:=by omega
 subst he1;clear hne;by_cases hst:y.st≠1
 ·have d4:(y.st != 1)=true:=by simp[hst]
  have hfin:Hid (rb=false):=hrb.out.trans (JD he0.out.symm (by rw[←hy.out];exact hst));obtain rfl:=hfin.out;replace hst:=qae hst;go_wp2_with fail;go_ret;exact⟨rfl,kr⟩
 have hs1:y.st=1:=by omega
 have d4:(y.st != 1)=false:=by simp[hs1]
 clear hst;have hym:y∈M.L:=by
  obtain⟨i,hi,_,h3,_⟩:=vk he0.out.symm;rw[hy.out,h3];exact aZ hi
 have X6:=hI.mb.lim y hym;have Vd:=hI.mb.aJ y hym;have hpl:=hpy.out w7 Vd.2 X6;have lS:(aO y).length=3:=by unfold aO;split<;>rfl
 have oS:∀u∈aO y,u.oneCell'=true:=by unfold aO;split<;>(intro u hu;simp at hu;rcases hu with rfl|rfl|rfl<;>rfl)
 have SS:Hid (∀W:World,Sem.run prog (storeCells ⟨W.heap.size,0,none⟩ (aO y) 0) (W.alloc (.cells #[.int .i64 0,.int .i64 0,.int .i64 0] 131))=.ok () (W.alloc (.cells (aO y).toArray 131))):=fun W=>df W W.heap.size (aO y) [.int .i64 0,.int .i64 0,.int .i64 0] 131 rfl lS oS;rw[←hk3.out]at lS;have Zc:=hI.mb.now;have Zd:IntKind.i64.wrap (xt+y.lim)=xt+y.lim:=by rw[IntKind.wrap_i64];omega
 have hro:=fun(mm:Int) (hl:aj y=true→xt<y.aJ) (hB:BL (fun u=>ax M u 0) xt (nK y xt) mm)=>Mf (id:=xi) hI hc.out (by omega) (by omega) he0.out.symm (by rw[←hy.out];exact hs1) (by rw[←hy.out];exact hl) (by rw[←hy.out];exact hB);rw[←hrb.out,←hy.out]at hro;have Ve:=qae (fun(W:World) (hW:Below wA.heap.size wA W) (hi:Int) (hh: -9223372036854775808≤hi∧hi≤9223372036854775807)=>Mg (iU.out.kept hW) sQ.out (by omega) xt hi (by show M.now≤xt;omega) hh);have Qt:=hI.mb.wid y hym;have hs0:(aO y)[0]? =some (.int .i64 (if aj y=true then y.aJ else 0)):=by unfold aO;split<;>rfl
 obtain⟨yw,Ml⟩:=qaa (y.wid);rw[←Ml]at y2 hro;obtain⟨yl,hyl⟩:=qaa (y.lim);rw[←hyl]at b3 Zd X6;obtain⟨yp,hyp⟩:=qaa (y.aJ);rw[←hyp]at hro hs0 Vd;have hft:Hid (nK y xt=if aj y=true then min (xt+yl) yp else xt+yl):=by show _=_;unfold nK;rw[hyl,hyp]
 replace Ml:=qae Ml;replace hyl:=qae hyl;replace hyp:=qae hyp;replace hro:=qae hro;replace hs1:=qae hs1;have JE:=qae Ay;have Nw:=qae We;clear Ay We;generalize kX:aO y=cS at*;replace kX:=qae kX;generalize Ap:ah y=cY at*;replace Ap:=qae Ap;have hrs:=au JE.out;cases hP:aj y with
 |false=>
  rw[hP]at hpl;replace hP:=qae hP;go_wp2_with fail;go_at_call 146;refine hpl.mono ?_;clear hpl Us b5 b3 x1;rintro e w8 ⟨rfl,vF⟩;have Wh:=SS.out w8;obtain⟨w9,yJ⟩:=qaa (w8.alloc (.cells cS.toArray 131));rw[←yJ]at Wh;have qg:Below w7.heap.size w7 w9:=by rw[yJ];exact vF.alloc vF.size _
  have GG:=qae ((qg.block _ (au JE.out)).trans JE.out);have Pq:=qae ((qg.block _ (au Nw.out)).trans Nw.out);have Mm:=(HI4.trans (jZ.mono HI4.size)).trans (qg.mono (HI4.trans (jZ.mono HI4.size)).size);have EN:=kr.trans (qg.mono kr.size);have Ju:=qae (iU.out.kept Mm);replace yJ:=qae yJ;go_wp2_with fail;refine Reg2.rd w9 10 76 (Reg2.rows 0 [.p 0,.p 1,.p 3,.p 7,.p 0,.p 16,.p 0,.p 127,.p 0,.p 256]) [0,0,0,1,0,1,0,1,0,1] [.pure,.pure,.pure,.mU (.pointer (some ⟨p,0,none⟩)),.pure,.mU (.int .i64 xt),.pure,.minor Int 0 (fun x=>.int .i64 x) (fun x _=>BL (fun u=>ax M u 0) xt (xt+yl) x),.pure,.mU (.int .i64 yw)] (by kernel_rfl) (by kernel_rfl) rfl rfl ⟨trivial,trivial,trivial,Reg2.tt,trivial,Reg2.tt,trivial,⟨fun _ _ _ _ h=>h,fun _ _ _ _ h=>h⟩,trivial,Reg2.tt,trivial⟩ ⟨rfl,rfl,rfl,qaf _,fun _ _=>rfl⟩ ?_;dsimp only[Reg2.rows,Reg2.mk,List.zip,List.zipWith,List.take]
  repeat((first
   |(refine' Reg2.ak _ (by rfl) (fun wz=>?_) ?_;rotate_left;(go_simp;first|rfl|rw[qai (by omega)]))
   |(refine Reg2.aA (by rfl) (fun wz hI hF=>?_) (fun _=>?_)
     ·unfold Reg2.One;have c0:=(Ju.out.kept hI).c2;have q0:wz.cell? ⟨w.heap.size,1,none⟩=some (.int .i64 xt):=by simp[World.cell?,(hI.block _ (au Pq.out)).trans Pq.out]
      go_wp2_with fail
      first|exact⟨_,rfl,rfl,qad⟩|exact⟨_,rfl,⟨(),rfl,trivial⟩,qad⟩));simp only[Act.put,xA,xB,xC,xD,xE,id])
  refine Reg2.pm (fun wz hI hF=>?_) (fun r7=>?_) (by rfl)
  ·go_wp2_with (go_at_call 147;go_must (refine(Ve.out wz (Mm.trans (hI.mono Mm.size)) (xt+yl) (by omega)).mono ?_);rintro e w' ⟨mm,rfl,hB,hb5⟩);exact⟨_,rfl,⟨mm,rfl,hB⟩,hb5⟩
  simp only[Act.put,xA,xB,xC,xD,xE,id]
  repeat((first
   |(refine' Reg2.ak _ (by rfl) (fun wz=>?_) ?_;rotate_left;(go_simp;first|rfl|rw[qai (by omega)]))
   |(refine Reg2.aA (by rfl) (fun wz hI hF=>?_) (fun _=>?_)
     ·unfold Reg2.One;have q0:wz.cell? ⟨yN,2,none⟩=some (.int .i64 yw):=by simp[World.cell?,(hI.block _ (au GG.out)).trans GG.out,y2]
      go_wp2_with fail
      first|exact⟨_,rfl,rfl,qad⟩|exact⟨_,rfl,⟨(),rfl,trivial⟩,qad⟩));simp only[Act.put,xA,xB,xC,xD,xE,id])
  refine Reg2.aB ?_;intro Ze Sn _ JF;have hB:=JF.2.2.2.2.2.2.2.1;clear JF;dsimp only[List.drop];have hfin:=hro.out r7 (fun hp=>by rw[hP.out]at hp;cases hp) (by rw[hft.out,hP.out,qai (by decide)];exact hB);have Wi:Hid (rb=decide (r7≥yw)):=by show _=_;rw[hfin]
  obtain rfl:=Wi.out;go_wp2_with fail;go_ret;exact⟨rfl,EN.trans (Sn.mono EN.size)⟩
 |true=>
  rw[hP]at hpl;have Zf:=(bu.1 hP).2;rw[←hyp.out]at Zf;have X7:Hid (cS[0]? =some (.int .i64 yp)):=by show _=_;rw[hs0,qaj hP]
  replace hP:=qae hP;replace hs0:=qae hs0;go_wp2_with fail;go_at_call 146;refine hpl.mono ?_;clear hpl Us b5 b3 x1;rintro e w8 ⟨rfl,vF⟩;have Wh:=SS.out w8;obtain⟨w9,yJ⟩:=qaa (w8.alloc (.cells cS.toArray 131));have hzs:w9.heap[w8.heap.size]? =some (.cells cS.toArray 131 (0,0)):=by rw[yJ];exact heap_alloc_new w8 _
  rw[←yJ]at Wh;have qg:Below w7.heap.size w7 w9:=by rw[yJ];exact vF.alloc vF.size _
  have GG:=qae ((qg.block _ (au JE.out)).trans JE.out);have Pq:=qae ((qg.block _ (au Nw.out)).trans Nw.out);have Mm:=(HI4.trans (jZ.mono HI4.size)).trans (qg.mono (HI4.trans (jZ.mono HI4.size)).size);have EN:=kr.trans (qg.mono kr.size);have Ju:=qae (iU.out.kept Mm);have cs0:w9.cell? ⟨w8.heap.size,0,none⟩=some (.int .i64 yp):=by simp[World.cell?,hzs,X7.out]
  have x19:w9.cell? ⟨w.heap.size,1,none⟩=some (.int .i64 xt):=by simp[World.cell?,Pq.out]
  replace hzs:=qae hzs;replace yJ:=qae yJ;by_cases hlt:yp≤xt
  ·have d5:decide (xt≥yp)=true:=qag hlt;have hfin:Hid (rb=false):=hrb.out.trans (Me he0.out.symm (by rw[←hy.out];exact hP.out) (by rw[←hy.out,←hyp.out];exact hlt));obtain rfl:=hfin.out;replace hlt:=qae hlt;go_wp2_with fail;go_ret;exact⟨rfl,EN⟩
  ·have d5:decide (xt≥yp)=false:=qah hlt;go_wp2_with fail;refine Reg2.rd w9 10 76 (Reg2.rows 0 [.p 0,.p 1,.p 3,.p 7,.p 0,.p 16,.p 0,.p 127,.p 0,.p 256]) [0,0,0,1,0,1,0,1,0,1] [.pure,.pure,.pure,.mU (.pointer (some ⟨p,0,none⟩)),.pure,.mU (.int .i64 xt),.pure,.minor Int 0 (fun x=>.int .i64 x) (fun x _=>BL (fun u=>ax M u 0) xt (min (xt+yl) yp) x),.pure,.mU (.int .i64 yw)] (by kernel_rfl) (by kernel_rfl) rfl rfl ⟨trivial,trivial,trivial,Reg2.tt,trivial,Reg2.tt,trivial,⟨fun _ _ _ _ h=>h,fun _ _ _ _ h=>h⟩,trivial,Reg2.tt,trivial⟩ ⟨rfl,rfl,rfl,qaf _,fun _ _=>rfl⟩ ?_;dsimp only[Reg2.rows,Reg2.mk,List.zip,List.zipWith,List.take]
   repeat((first
    |(refine' Reg2.ak _ (by rfl) (fun wz=>?_) ?_;rotate_left;(go_simp;first|rfl|rw[qai (by omega)]))
    |(refine Reg2.aA (by rfl) (fun wz hI hF=>?_) (fun _=>?_)
      ·unfold Reg2.One;have c0:=(Ju.out.kept hI).c2;have q0:wz.cell? ⟨w.heap.size,1,none⟩=some (.int .i64 xt):=by simp[World.cell?,(hI.block _ (au Pq.out)).trans Pq.out]
       go_wp2_with fail
       first|exact⟨_,rfl,rfl,qad⟩|exact⟨_,rfl,⟨(),rfl,trivial⟩,qad⟩));simp only[Act.put,xA,xB,xC,xD,xE,id])
   refine Reg2.pm (fun wz hI hF=>?_) (fun r7=>?_) (by rfl)
   ·go_wp2_with (go_at_call 147;go_must (refine(Ve.out wz (Mm.trans (hI.mono Mm.size)) (min (xt+yl) yp) (by omega)).mono ?_);rintro e w' ⟨mm,rfl,hB,hb5⟩);exact⟨_,rfl,⟨mm,rfl,hB⟩,hb5⟩
   simp only[Act.put,xA,xB,xC,xD,xE,id]
   repeat((first
    |(refine' Reg2.ak _ (by rfl) (fun wz=>?_) ?_;rotate_left;(go_simp;first|rfl|rw[qai (by omega)]))
    |(refine Reg2.aA (by rfl) (fun wz hI hF=>?_) (fun _=>?_)
      ·unfold Reg2.One;have q0:wz.cell? ⟨yN,2,none⟩=some (.int .i64 yw):=by simp[World.cell?,(hI.block _ (au GG.out)).trans GG.out,y2]
       go_wp2_with fail
       first|exact⟨_,rfl,rfl,qad⟩|exact⟨_,rfl,⟨(),rfl,trivial⟩,qad⟩));simp only[Act.put,xA,xB,xC,xD,xE,id])
   refine Reg2.aB ?_;intro Ze Sn _ JF;have hB:=JF.2.2.2.2.2.2.2.1;clear JF;dsimp only[List.drop];have hfin:=hro.out r7 (fun _=>by omega) (by rw[hft.out,hP.out,qaj rfl];exact hB);have Wi:Hid (rb=decide (r7≥yw)):=by show _=_;rw[hfin]
   obtain rfl:=Wi.out;go_wp2_with fail;go_ret;exact⟨rfl,EN.trans (Sn.mono EN.size)⟩
theorem EO (h:CW w c t d p v g a m (ai M))(hI:aG M)(h1:1≤M.dr.length)(hll:M.L.length≤900)(ha:a≤800)(xi xt:Int)(hxt: -9223372036854775808≤xt∧xt≤9223372036854775807):
 Calls prog 69 #[.pointer (some ⟨c,0,none⟩),.agg #[.int .i64 xi,.int .i64 xt]] w fun e w'=>e=.returned (.bool (eF M xi xt))∧Below w.heap.size w w':=by
 cases hc:M.cl with
 |true=>exact GA h hI h1 hll ha xi xt hxt hc
 |false=>exact Mh h hI h1 hll ha xi xt hxt hc
end
end Go.Proofs.YtaimcpmcndapcaaGreat
