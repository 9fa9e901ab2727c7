/-
 Own words and walks, merged: part 8 of 10.
-/
import Derived.Deep.RegionWith
import Derived.Test.YtaimcpmcndapcaaGreatCp7
set_option maxRecDepth 1000000
set_option maxHeartbeats 8000000
set_option linter.all false
namespace Go.Proofs.YtaimcpmcndapcaaGreat
open Go.Proofs.Tryz
open Go.RowKit Go.Lib Go.Sort
def jo (w:World)(b c t d p:Nat)(v:Value)(g a:Nat)(m:Int)(R:Wk)(P:Pg)(W:World):Prop:=∃v' g',SW W b c t d p v' g' a m R P∧WS w W b c t d p v g v' g'
theorem jo.ext {w:World}{b c t d p g a:Nat}{v:Value}{m:Int}{R:Wk}{P:Pg}:∀(x y:World),Reg2.Ext x y→jo w b c t d p v g a m R P x→jo w b c t d p v g a m R P y:=by
 rintro x y h ⟨v',g',h1,h2⟩;exact⟨v',g',h1.kept h,h2.trans (WS.of_below h)⟩
def mF (e:Int):Ry:=⟨e,0,0,0,0,0,0,0,0⟩
def toW (r:Rq):Rw:=⟨r.kind,r.id,r.user,r.width,r.limit,r.prio,r.held,r.node,r.till⟩
theorem Gc {M:Md}(x:Jb)(h1:x.st≠3)(h2:ay x=false):au {M with L:=M.L++[x]}={au M with J:=M.L++[x]}:=by
 have e1:dM {M with L:=M.L++[x]}=dM M:=by
  refine rX (by rw[bP,bP]) fun n hn=>?_;rw[dN,dN];unfold aK;rw[show({M with L:=M.L++[x]}:Md).L=M.L++[x]from rfl,zl M.L x _ (by unfold aN;simp[h1])]
 have e2:(fun t=>aF {M with L:=M.L++[x]} t 0)=fun t=>aF M t 0:=funext fun t=>CX x h1 h2 t 0;unfold au;rw[e1,e2]
section
variable {w : World} {b c t d p g a : Nat} {v : Value} {m : Int} {M : Md} {R : Wk}
theorem EU (h:SW w b c t d p v g a m R (au M))(hk:PK (au M))(hw:pE M.dr.length R.ah=9):
 Calls prog 213 #[.pointer (some ⟨b,0,none⟩),.pointer (some ⟨c,0,none⟩)] w (aI w b c t d p v g a m .nilFunc {R with rep:=mF 9,ok:=false} (au M)):=by
 have zR:=nO;have zJ:=bC;obtain⟨k9,bB⟩:∃k,k=9:=⟨_,rfl⟩;obtain⟨k,hkk⟩:=qaa (10);rw[←bB]at zR;rw[←hkk]at zJ;have hk0:¬k9=0:=by omega
 have hk1:¬k=0:=by omega
 have lR:=jY R.ah;rw[←bB]at lR;replace bB:=qae bB;replace hkk:=qae hkk;have hS:=qae h;have uo:=h.wk.pX lR;have QG:Hid (∀W,Below w.heap.size w W→Sem.run prog (loadCellsFrom ⟨b,0,none⟩ 0 k9 #[]) W=.ok (encR R.ah).toArray W):=fun W hW=>(h.kept hW).wk.pX lR;have uT:=xw h.cw hk.uN R.ah;have hsub:=fun(W:World) (hW:Below w.heap.size w W)=>sN (h.kept hW).cw hk R.ah;have hn:(au M).T.length=M.dr.length:=bP;rw[hn]at uT;replace hn:=qae hn;generalize encR R.ah=cR at*;rw[hw]at uT;clear h hsub;go_enter func213,ntmps213;go_wp2_with fail;go_at_call 232;refine uT.mono ?_;clear uT uo;rintro e w1 ⟨rfl,hb1⟩;have hS1:=hS.out.kept hb1;have hf:=jL hS1.wk 9;go_wp2_with (go_at_call 188;go_must (refine hf.mono ?_);rintro e w9 ⟨rfl,mG,Uf⟩);go_ret;exact⟨rfl,v,g,hS1.work mG Uf,(WS.of_below hb1).trans (WS.bT Uf)⟩
theorem submit_bad (h:SW w b c t d p v g a m R (au M))(hk:PK (au M))(hw:pE M.dr.length R.ah=0)(e0:Int)(he0:e0≠0)(hE:kz M.L R.ah=e0):
 Calls prog 213 #[.pointer (some ⟨b,0,none⟩),.pointer (some ⟨c,0,none⟩)] w (aI w b c t d p v g a m .nilFunc {R with rep:=mF e0,ok:=false} (au M)):=by
 have zR:=nO;have zJ:=bC;obtain⟨k9,bB⟩:∃k,k=9:=⟨_,rfl⟩;obtain⟨k,hkk⟩:=qaa (10);rw[←bB]at zR;rw[←hkk]at zJ;have hk0:¬k9=0:=by omega
 have hk1:¬k=0:=by omega
 have lR:=jY R.ah;rw[←bB]at lR;replace bB:=qae bB;replace hkk:=qae hkk;have hS:=qae h;have uo:=h.wk.pX lR;have QG:Hid (∀W,Below w.heap.size w W→Sem.run prog (loadCellsFrom ⟨b,0,none⟩ 0 k9 #[]) W=.ok (encR R.ah).toArray W):=fun W hW=>(h.kept hW).wk.pX lR;have uT:=xw h.cw hk.uN R.ah;have hsub:=fun(W:World) (hW:Below w.heap.size w W)=>sN (h.kept hW).cw hk R.ah;have hn:(au M).T.length=M.dr.length:=bP;rw[hn]at uT;replace hn:=qae hn;generalize encR R.ah=cR at*;rw[hw]at uT;unfold gy at hsub;obtain⟨Ug,uq⟩:∃x,x=nQ (au M).J R.ah:=⟨_,rfl⟩;obtain⟨se,hse⟩:∃x,x=kz (au M).J R.ah:=⟨_,rfl⟩;rw[←uq,←hse]at hsub;have hL:sJ (au M).J R.ah=M.L:=by
  have hE2:=hE;unfold kz at hE2;show sJ M.L R.ah=M.L;unfold sJ;split
  ·rfl
  ·rename_i h1
   rw[qai h1]at hE2;split
   ·rfl
   ·rename_i h2
    rw[qai h2]at hE2;omega
 rw[hL,show({au M with J:=M.L}:Pg)=au M from rfl]at hsub;have KR:se=e0:=hse.trans hE;subst KR;replace uq:=qae uq;replace hse:=qae hse;replace hL:=qae hL;have d0:(se != 0)=true:=by simp[he0]
 clear h;go_enter func213,ntmps213;go_wp2_with fail;go_at_call 232;refine uT.mono ?_;clear uT uo;rintro e w1 ⟨rfl,hb1⟩;have hS1:=qae (hS.out.kept hb1);go_wp2_with fail;refine Reg2.vo 13 49 (Reg2.rows 0 [.p 0,.p 1,.p 3,.p 7,.p 0,.p 16,.p 48,.p 112,.p 255,.p 511,.p 1023,.p 1023,.p 2047]) [0,0,0,2,0,0,0,2,3,0,0,0,0]
  [.pure,.pure,.pure,.pinned Unit () (fun _=>.pointer (some ⟨t,0,none⟩)) (fun _ _=>True),.pure,.pure,.pure,.pinned Unit () (fun _=>.agg cR.toArray) (fun _ _=>True),.major Unit () (fun _=>.tuple #[.int .i64 Ug,.int .i64 se]),.pure,.pure,.pure,.pure]
  (fun _=>True) (fun vs W=>match vs with| []=>Below w1.heap.size w1 W|_::_=>(jo w b c t d p v g a m R (au M)) W) (fun _ _=>True) (by kernel_rfl) (by kernel_rfl) rfl rfl (fun vs a b h hs=>by cases vs with|nil=>exact Below.trans hs (h.mono (Below.size hs))|cons v vs=>exact jo.ext a b h hs) ?_ ?_ ?_ ?_ ?_ ?_
 ·intro a b he hb;trivial
 ·intro a b he hb;trivial
 ·exact⟨trivial,trivial,trivial,⟨fun _ _ _ _ _=>trivial,fun _ _ _ _ _=>trivial⟩,trivial,trivial,trivial,⟨fun _ _ _ _ _=>trivial,fun _ _ _ _ _=>trivial⟩,trivial,trivial,trivial,trivial,trivial,trivial⟩
 ·trivial
 ·exact⟨rfl,rfl,rfl,qaf _,fun _ _=>rfl⟩
 dsimp only[Reg2.rows,Reg2.mk,List.zip,List.zipWith,List.take]
 repeat(refine' Reg2.ak _ (by rfl) (fun wz=>?_) ?_;rotate_left;(go_simp;first|rfl|rw[qai (by omega)]);simp only[Act.put,xA,xB,xC,xD,xE,id])
 refine Reg2.pp (fun wz _ hI hF=>?_) (fun r3=>?_) (by rfl)
 ·have c0:=(hS1.out.cw.kept hI).c0;go_wp2_with fail
  first|exact⟨_,rfl,rfl,qad⟩|exact⟨_,rfl,⟨(),rfl,trivial⟩,qad⟩
 simp only[Act.put,xA,xB,xC,xD,xE,id]
 repeat(refine' Reg2.ak _ (by rfl) (fun wz=>?_) ?_;rotate_left;(go_simp;first|rfl|rw[qai (by omega)]);simp only[Act.put,xA,xB,xC,xD,xE,id])
 refine Reg2.pp (fun wz _ hI hF=>?_) (fun r7=>?_) (by rfl)
 ·have d0:=QG.out wz (hb1.trans (Below.mono hI hb1.size));go_wp2_with fail
  first|exact⟨_,rfl,rfl,qad⟩|exact⟨_,rfl,⟨(),rfl,trivial⟩,qad⟩
 simp only[Act.put,xA,xB,xC,xD,xE,id];refine Reg2.pj (fun wz _ hI hF=>?_) (fun r8=>?_) (by rfl)
 ·go_wp2_with (go_at_call 138;go_must (refine(hsub wz (hb1.trans (Below.mono hI hb1.size))).mono ?_);rintro e w' ⟨rfl,v4,g4,qc,bZ⟩);have hpost:jo w b c t d p v g a m R (au M) w':=⟨v4,g4,(hS1.out.kept hI).core qc bZ,(WS.of_below (hb1.trans (Below.mono hI hb1.size))).trans (WS.dU bZ)⟩;exact⟨_,rfl,⟨⟨(),rfl⟩,hpost⟩,trivial⟩
 simp only[Act.put,xA,xB,xC,xD,xE,id]
 repeat(refine' Reg2.ak _ (by rfl) (fun wz=>?_) ?_;rotate_left;(go_simp;first|rfl|rw[qai (by omega)]);simp only[Act.put,xA,xB,xC,xD,xE,id])
 refine Reg2.aD ?_;intro w7 _ vE gF;clear gF;dsimp only[List.drop];obtain⟨v7,g7,iQ,Az⟩:jo w b c t d p v g a m R (au M) w7:=vE;have hf:=jL iQ.wk se;go_wp2_with (go_at_call 188;go_must (refine hf.mono ?_);rintro e w9 ⟨rfl,mG,Uf⟩);go_ret;exact⟨rfl,v7,g7,iQ.work mG Uf,Az.trans (WS.bT Uf)⟩
theorem Eb (h:SW w b c t d p v g a m R (au M))(hk:PK (au M))(hw:pE M.dr.length R.ah=0)(hE:kz M.L R.ah=0)(hh:R.ah.held=true):
 Calls prog 213 #[.pointer (some ⟨b,0,none⟩),.pointer (some ⟨c,0,none⟩)] w (aI w b c t d p v g a m .nilFunc {R with rep:=kD (dS M (toW R.ah)),aM:=dS M (toW R.ah)} (au {M with L:=M.L++[dS M (toW R.ah)]})):=by
 have zR:=nO;have zJ:=bC;obtain⟨k9,bB⟩:∃k,k=9:=⟨_,rfl⟩;obtain⟨k,hkk⟩:=qaa (10);rw[←bB]at zR;rw[←hkk]at zJ;have hk0:¬k9=0:=by omega
 have hk1:¬k=0:=by omega
 have lR:=jY R.ah;rw[←bB]at lR;replace bB:=qae bB;replace hkk:=qae hkk;have hS:=qae h;have uo:=h.wk.pX lR;have QG:Hid (∀W,Below w.heap.size w W→Sem.run prog (loadCellsFrom ⟨b,0,none⟩ 0 k9 #[]) W=.ok (encR R.ah).toArray W):=fun W hW=>(h.kept hW).wk.pX lR;have uT:=xw h.cw hk.uN R.ah;have hsub:=fun(W:World) (hW:Below w.heap.size w W)=>sN (h.kept hW).cw hk R.ah;have hn:(au M).T.length=M.dr.length:=bP;rw[hn]at uT;replace hn:=qae hn;generalize encR R.ah=cR at*;rw[hw]at uT;unfold gy at hsub;obtain⟨Ug,uq⟩:∃x,x=nQ (au M).J R.ah:=⟨_,rfl⟩;obtain⟨se,hse⟩:∃x,x=kz (au M).J R.ah:=⟨_,rfl⟩;rw[←uq,←hse]at hsub;have hL:sJ (au M).J R.ah=M.L++[dS M (toW R.ah)]:=by
  have hE2:=hE;unfold kz at hE2;show sJ M.L R.ah=_;unfold sJ;split
  ·rename_i h1;rw[qaj h1]at hE2;omega
  ·rename_i h1
   rw[qai h1]at hE2;split
   ·rename_i h2;rw[qaj h2]at hE2;omega
   ·rfl
 have hI0:nQ (au M).J R.ah=(M.L.length:Int)+1:=by
  have hE2:=hE;unfold kz at hE2;show nQ M.L R.ah=_;unfold nQ;split
  ·rename_i h1;rw[qaj h1]at hE2;omega
  ·rename_i h1
   rw[qai h1]at hE2;split
   ·rename_i h2;rw[qaj h2]at hE2;omega
   ·rfl
 obtain⟨x,hx⟩:=qaa (dS M (toW R.ah));have hxs:x.st=if R.ah.held then 2 else 1:=by rw[hx];rfl
 have hxp:x.aW= -1:=by rw[hx];rfl
 have hcore:=Gc (M:=M) x (by rw[hxs];split<;>decide) (by unfold ay;rw[hxp];simp);rw[hL,←hx,show({au M with J:=M.L++[x]}:Pg)=au {M with L:=M.L++[x]}from hcore.symm]at hsub;rw[←hx];have hget:cz (M.L++[x]) ((M.L.length:Int)+1)=x:=by
  unfold cz;rw[qai (by omega),qai (by simp),show((M.L.length:Int)+1-1).toNat=M.L.length by omega];simp
 have KR:se=0:=hse.trans hE;have Nv:Ug=(M.L.length:Int)+1:=uq.trans hI0;subst KR;subst Nv;replace uq:=qae uq;replace hse:=qae hse;replace hL:=qae hL;replace hx:=qae hx;replace hcore:=qae hcore;replace hI0:=qae hI0;clear h;rw[hh]at hxs;replace hxs:x.st=2:=hxs;go_enter func213,ntmps213;go_wp2_with fail;go_at_call 232;refine uT.mono ?_;clear uT uo;rintro e w1 ⟨rfl,hb1⟩;have hS1:=qae (hS.out.kept hb1);go_wp2_with fail;refine Reg2.vo 13 49 (Reg2.rows 0 [.p 0,.p 1,.p 3,.p 7,.p 0,.p 16,.p 48,.p 112,.p 255,.p 511,.p 1023,.p 1023,.p 2047]) [0,0,0,2,0,0,0,2,3,0,0,0,0]
  [.pure,.pure,.pure,.pinned Unit () (fun _=>.pointer (some ⟨t,0,none⟩)) (fun _ _=>True),.pure,.pure,.pure,.pinned Unit () (fun _=>.agg cR.toArray) (fun _ _=>True),.major Unit () (fun _=>.tuple #[.int .i64 ((M.L.length:Int)+1),.int .i64 0]),.pure,.pure,.pure,.pure]
  (fun _=>True) (fun vs W=>match vs with| []=>Below w1.heap.size w1 W|_::_=>(jo w b c t d p v g a m R (au {M with L:=M.L++[x]})) W) (fun _ _=>True) (by kernel_rfl) (by kernel_rfl) rfl rfl (fun vs a b h hs=>by cases vs with|nil=>exact Below.trans hs (h.mono (Below.size hs))|cons v vs=>exact jo.ext a b h hs) ?_ ?_ ?_ ?_ ?_ ?_
 ·intro a b he hb;trivial
 ·intro a b he hb;trivial
 ·exact⟨trivial,trivial,trivial,⟨fun _ _ _ _ _=>trivial,fun _ _ _ _ _=>trivial⟩,trivial,trivial,trivial,⟨fun _ _ _ _ _=>trivial,fun _ _ _ _ _=>trivial⟩,trivial,trivial,trivial,trivial,trivial,trivial⟩
 ·trivial
 ·exact⟨rfl,rfl,rfl,qaf _,fun _ _=>rfl⟩
 dsimp only[Reg2.rows,Reg2.mk,List.zip,List.zipWith,List.take]
 repeat(refine' Reg2.ak _ (by rfl) (fun wz=>?_) ?_;rotate_left;(go_simp;first|rfl|rw[qai (by omega)]);simp only[Act.put,xA,xB,xC,xD,xE,id])
 refine Reg2.pp (fun wz _ hI hF=>?_) (fun r3=>?_) (by rfl)
 ·have c0:=(hS1.out.cw.kept hI).c0;go_wp2_with fail
  first|exact⟨_,rfl,rfl,qad⟩|exact⟨_,rfl,⟨(),rfl,trivial⟩,qad⟩
 simp only[Act.put,xA,xB,xC,xD,xE,id]
 repeat(refine' Reg2.ak _ (by rfl) (fun wz=>?_) ?_;rotate_left;(go_simp;first|rfl|rw[qai (by omega)]);simp only[Act.put,xA,xB,xC,xD,xE,id])
 refine Reg2.pp (fun wz _ hI hF=>?_) (fun r7=>?_) (by rfl)
 ·have d0:=QG.out wz (hb1.trans (Below.mono hI hb1.size));go_wp2_with fail
  first|exact⟨_,rfl,rfl,qad⟩|exact⟨_,rfl,⟨(),rfl,trivial⟩,qad⟩
 simp only[Act.put,xA,xB,xC,xD,xE,id];refine Reg2.pj (fun wz _ hI hF=>?_) (fun r8=>?_) (by rfl)
 ·go_wp2_with (go_at_call 138;go_must (refine(hsub wz (hb1.trans (Below.mono hI hb1.size))).mono ?_);rintro e w' ⟨rfl,v4,g4,qc,bZ⟩);have hpost:jo w b c t d p v g a m R (au {M with L:=M.L++[x]}) w':=⟨v4,g4,(hS1.out.kept hI).core qc bZ,(WS.of_below (hb1.trans (Below.mono hI hb1.size))).trans (WS.dU bZ)⟩;exact⟨_,rfl,⟨⟨(),rfl⟩,hpost⟩,trivial⟩
 simp only[Act.put,xA,xB,xC,xD,xE,id]
 repeat(refine' Reg2.ak _ (by rfl) (fun wz=>?_) ?_;rotate_left;(go_simp;first|rfl|rw[qai (by omega)]);simp only[Act.put,xA,xB,xC,xD,xE,id])
 refine Reg2.aD ?_;intro w7 _ vE gF;clear gF;dsimp only[List.drop];obtain⟨v7,g7,iQ,Az⟩:jo w b c t d p v g a m R (au {M with L:=M.L++[x]}) w7:=vE;have mH:=qP iQ ((M.L.length:Int)+1);rw[show(au {M with L:=M.L++[x]}).J=M.L++[x]from rfl,hget]at mH;go_wp2_with fail;go_at_call 209;refine mH.mono ?_;clear mH;rintro e w8 ⟨rfl,fE,iw⟩;have iL:=iQ.work fE iw;have Uh:=Az.trans (WS.bT iw);obtain⟨Ez,mG⟩:=fE.wK x;have lJ:=aA x;rw[←hkk.out]at lJ;have iA:=iL.work mG (dV w8 _);have hfin:=Uh.trans (WS.bT (dV w8 (iF {({R with rep:=kD x}:Wk)with aM:=x}).toArray));have c17:=mG.at 17 (.int .i64 2) (by rw[←hxs];rfl);generalize iF {({R with rep:=kD x}:Wk)with aM:=x}=W9 at*;generalize ag x=cJ at*;go_wp2_with fail;go_ret;exact⟨rfl,v7,g7,iA,hfin⟩
theorem KS (h:SW w b c t d p v g a m R (au M))(hk:PK (au M))(hw:pE M.dr.length R.ah=0)(hE:kz M.L R.ah=0)(hh:R.ah.held=false):
 Calls prog 213 #[.pointer (some ⟨b,0,none⟩),.pointer (some ⟨c,0,none⟩)] w (aI w b c t d p v g a m (gP 233) {R with rep:=kD (dS M (toW R.ah)),aM:=dS M (toW R.ah)} (au {M with L:=M.L++[dS M (toW R.ah)]})):=by
 have zR:=nO;have zJ:=bC;obtain⟨k9,bB⟩:∃k,k=9:=⟨_,rfl⟩;obtain⟨k,hkk⟩:=qaa (10);rw[←bB]at zR;rw[←hkk]at zJ;have hk0:¬k9=0:=by omega
 have hk1:¬k=0:=by omega
 have lR:=jY R.ah;rw[←bB]at lR;replace bB:=qae bB;replace hkk:=qae hkk;have hS:=qae h;have uo:=h.wk.pX lR;have QG:Hid (∀W,Below w.heap.size w W→Sem.run prog (loadCellsFrom ⟨b,0,none⟩ 0 k9 #[]) W=.ok (encR R.ah).toArray W):=fun W hW=>(h.kept hW).wk.pX lR;have uT:=xw h.cw hk.uN R.ah;have hsub:=fun(W:World) (hW:Below w.heap.size w W)=>sN (h.kept hW).cw hk R.ah;have hn:(au M).T.length=M.dr.length:=bP;rw[hn]at uT;replace hn:=qae hn;generalize encR R.ah=cR at*;rw[hw]at uT;unfold gy at hsub;obtain⟨Ug,uq⟩:∃x,x=nQ (au M).J R.ah:=⟨_,rfl⟩;obtain⟨se,hse⟩:∃x,x=kz (au M).J R.ah:=⟨_,rfl⟩;rw[←uq,←hse]at hsub;have hL:sJ (au M).J R.ah=M.L++[dS M (toW R.ah)]:=by
  have hE2:=hE;unfold kz at hE2;show sJ M.L R.ah=_;unfold sJ;split
  ·rename_i h1;rw[qaj h1]at hE2;omega
  ·rename_i h1
   rw[qai h1]at hE2;split
   ·rename_i h2;rw[qaj h2]at hE2;omega
   ·rfl
 have hI0:nQ (au M).J R.ah=(M.L.length:Int)+1:=by
  have hE2:=hE;unfold kz at hE2;show nQ M.L R.ah=_;unfold nQ;split
  ·rename_i h1;rw[qaj h1]at hE2;omega
  ·rename_i h1
   rw[qai h1]at hE2;split
   ·rename_i h2;rw[qaj h2]at hE2;omega
   ·rfl
 obtain⟨x,hx⟩:=qaa (dS M (toW R.ah));have hxs:x.st=if R.ah.held then 2 else 1:=by rw[hx];rfl
 have hxp:x.aW= -1:=by rw[hx];rfl
 have hcore:=Gc (M:=M) x (by rw[hxs];split<;>decide) (by unfold ay;rw[hxp];simp);rw[hL,←hx,show({au M with J:=M.L++[x]}:Pg)=au {M with L:=M.L++[x]}from hcore.symm]at hsub;rw[←hx];have hget:cz (M.L++[x]) ((M.L.length:Int)+1)=x:=by
  unfold cz;rw[qai (by omega),qai (by simp),show((M.L.length:Int)+1-1).toNat=M.L.length by omega];simp
 have KR:se=0:=hse.trans hE;have Nv:Ug=(M.L.length:Int)+1:=uq.trans hI0;subst KR;subst Nv;replace uq:=qae uq;replace hse:=qae hse;replace hL:=qae hL;replace hx:=qae hx;replace hcore:=qae hcore;replace hI0:=qae hI0;clear h;rw[hh]at hxs;replace hxs:x.st=1:=hxs;go_enter func213,ntmps213;go_wp2_with fail;go_at_call 232;refine uT.mono ?_;clear uT uo;rintro e w1 ⟨rfl,hb1⟩;have hS1:=qae (hS.out.kept hb1);go_wp2_with fail;refine Reg2.vo 13 49 (Reg2.rows 0 [.p 0,.p 1,.p 3,.p 7,.p 0,.p 16,.p 48,.p 112,.p 255,.p 511,.p 1023,.p 1023,.p 2047]) [0,0,0,2,0,0,0,2,3,0,0,0,0]
  [.pure,.pure,.pure,.pinned Unit () (fun _=>.pointer (some ⟨t,0,none⟩)) (fun _ _=>True),.pure,.pure,.pure,.pinned Unit () (fun _=>.agg cR.toArray) (fun _ _=>True),.major Unit () (fun _=>.tuple #[.int .i64 ((M.L.length:Int)+1),.int .i64 0]),.pure,.pure,.pure,.pure]
  (fun _=>True) (fun vs W=>match vs with| []=>Below w1.heap.size w1 W|_::_=>(jo w b c t d p v g a m R (au {M with L:=M.L++[x]})) W) (fun _ _=>True) (by kernel_rfl) (by kernel_rfl) rfl rfl (fun vs a b h hs=>by cases vs with|nil=>exact Below.trans hs (h.mono (Below.size hs))|cons v vs=>exact jo.ext a b h hs) ?_ ?_ ?_ ?_ ?_ ?_
 ·intro a b he hb;trivial
 ·intro a b he hb;trivial
 ·exact⟨trivial,trivial,trivial,⟨fun _ _ _ _ _=>trivial,fun _ _ _ _ _=>trivial⟩,trivial,trivial,trivial,⟨fun _ _ _ _ _=>trivial,fun _ _ _ _ _=>trivial⟩,trivial,trivial,trivial,trivial,trivial,trivial⟩
 ·trivial
 ·exact⟨rfl,rfl,rfl,qaf _,fun _ _=>rfl⟩
 dsimp only[Reg2.rows,Reg2.mk,List.zip,List.zipWith,List.take]
 repeat(refine' Reg2.ak _ (by rfl) (fun wz=>?_) ?_;rotate_left;(go_simp;first|rfl|rw[qai (by omega)]);simp only[Act.put,xA,xB,xC,xD,xE,id])
 refine Reg2.pp (fun wz _ hI hF=>?_) (fun r3=>?_) (by rfl)
 ·have c0:=(hS1.out.cw.kept hI).c0;go_wp2_with fail
  first|exact⟨_,rfl,rfl,qad⟩|exact⟨_,rfl,⟨(),rfl,trivial⟩,qad⟩
 simp only[Act.put,xA,xB,xC,xD,xE,id]
 repeat(refine' Reg2.ak _ (by rfl) (fun wz=>?_) ?_;rotate_left;(go_simp;first|rfl|rw[qai (by omega)]);simp only[Act.put,xA,xB,xC,xD,xE,id])
 refine Reg2.pp (fun wz _ hI hF=>?_) (fun r7=>?_) (by rfl)
 ·have d0:=QG.out wz (hb1.trans (Below.mono hI hb1.size));go_wp2_with fail
  first|exact⟨_,rfl,rfl,qad⟩|exact⟨_,rfl,⟨(),rfl,trivial⟩,qad⟩
 simp only[Act.put,xA,xB,xC,xD,xE,id];refine Reg2.pj (fun wz _ hI hF=>?_) (fun r8=>?_) (by rfl)
 ·go_wp2_with (go_at_call 138;go_must (refine(hsub wz (hb1.trans (Below.mono hI hb1.size))).mono ?_);rintro e w' ⟨rfl,v4,g4,qc,bZ⟩);have hpost:jo w b c t d p v g a m R (au {M with L:=M.L++[x]}) w':=⟨v4,g4,(hS1.out.kept hI).core qc bZ,(WS.of_below (hb1.trans (Below.mono hI hb1.size))).trans (WS.dU bZ)⟩;exact⟨_,rfl,⟨⟨(),rfl⟩,hpost⟩,trivial⟩
 simp only[Act.put,xA,xB,xC,xD,xE,id]
 repeat(refine' Reg2.ak _ (by rfl) (fun wz=>?_) ?_;rotate_left;(go_simp;first|rfl|rw[qai (by omega)]);simp only[Act.put,xA,xB,xC,xD,xE,id])
 refine Reg2.aD ?_;intro w7 _ vE gF;clear gF;dsimp only[List.drop];obtain⟨v7,g7,iQ,Az⟩:jo w b c t d p v g a m R (au {M with L:=M.L++[x]}) w7:=vE;have mH:=qP iQ ((M.L.length:Int)+1);rw[show(au {M with L:=M.L++[x]}).J=M.L++[x]from rfl,hget]at mH;go_wp2_with fail;go_at_call 209;refine mH.mono ?_;clear mH;rintro e w8 ⟨rfl,fE,iw⟩;have iL:=iQ.work fE iw;have Uh:=Az.trans (WS.bT iw);obtain⟨Ez,mG⟩:=fE.wK x;have lJ:=aA x;rw[←hkk.out]at lJ;have iA:=iL.work mG (dV w8 _);have hfin:=Uh.trans (WS.bT (dV w8 (iF {({R with rep:=kD x}:Wk)with aM:=x}).toArray));have c17:=mG.at 17 (.int .i64 1) (by rw[←hxs];rfl);generalize iF {({R with rep:=kD x}:Wk)with aM:=x}=W9 at*;generalize ag x=cJ at*;go_wp2_with fail;go_ret;exact⟨rfl,v7,g7,iA,hfin⟩
end
section
variable {w : World} {b c t d p g a : Nat} {v : Value} {m : Int} {P : Pg} {R : Wk}
theorem SW.drew (h:SW w b c t d p v g a m R P):SW w.drew b c t d p v g a m R P:=h.kept qac.drew
theorem WS.AA {w1:World}{v1:Value}{g1:Nat}(h:WS w.drew w1 b c t d p v g v1 g1):WS w w1 b c t d p v g v1 g1:=(WS.of_below qac.drew).trans h
theorem CW.XV (h:CW w c t d p v g a m P)(F:Int→Int)(hf:∀t,P.now≤t→P.f t=F t):CW w c t d p v g a m {P with f:=F}:=by
 obtain⟨S,aX,hp,hC,hrest⟩:=h.nZ;exact⟨h.cell,h.fZ,h.nodes,S,aX,hp,hC.congr hf,hrest⟩
theorem QH (h:SW w b c t d p v g a m R P)(hk:PK P)(hr:R.aM.st=3)(hn:0≤R.aM.bY∧R.aM.bY≤18446744073709551615):
 Calls prog 234 #[.pointer (some ⟨b,0,none⟩),.pointer (some ⟨c,0,none⟩)] w fun e w'=>∃(n x:Int) (T':List Int),DJ P.T R.aM.bY.toNat n x T'∧aI w b c t d p v g a m (gP 236) {R with idle:=n} {P with T:=T'} e w':=by
 have hS:=qae h;have hg:=FZ h.drew.cw hk R.aM.bY.toNat (by omega);rw[show((R.aM.bY.toNat:Nat):Int)=R.aM.bY by omega]at hg;have c17:=h.wk.at 17 (.int .i64 R.aM.st) rfl;have c21:=h.wk.at 21 (.int .u64 R.aM.bY) rfl;have c1:=h.cw.c1;rw[hr]at c17;replace hn:=qae hn;clear h;go_enter func234,ntmps234;go_wp2_with fail;go_region_with (go_at_call 137;go_must (refine hg.mono ?_);rintro e w' ⟨n,x,T',hG,hL,rfl,v4,g4,qc,bZ⟩;have iL:=hS.out.drew.core qc bZ;have a22:=iL.wk.at 22 (.int .i64 R.idle) rfl;have f22:=iL.wk.free 22)
 all_goals
  have mG:=iL.wk.idle n;have iA:=iL.work mG (dQ w' 22 (.int .i64 n));have hfin:=((WS.dU bZ:WS w.drew w' b c t d p v g v4 g4).trans (WS.bT (dQ w' 22 (.int .i64 n)))).AA;go_wp2_with fail;go_ret;exact⟨n,x,T',hG,rfl,v4,g4,iA,hfin⟩
theorem Ui (h:SW w b c t d p v g a m R P)(hr:R.aM.st≠3):
 Calls prog 234 #[.pointer (some ⟨b,0,none⟩),.pointer (some ⟨c,0,none⟩)] w (aI w b c t d p v g a m (gP 236) R P):=by
 have c17:=h.wk.at 17 (.int .i64 R.aM.st) rfl;have d0:(R.aM.st == 3)=false:=by simp[hr]
 generalize R.aM.st=s at*;go_enter func234,ntmps234;go_wp2_with fail;go_ret;exact⟨rfl,v,g,h,WS.refl _⟩
theorem IB (h:SW w b c t d p v g a m R P)(hk:PK P)(ha:a≤800)(hm:m≤1000000)(hP:ay R.aM=true)(hb1:R.aM.aW≤1099511627776)(hb2:0≤R.aM.lim∧R.aM.lim≤1048576)(hb3:1≤R.aM.lim)(hb4:0≤R.aM.wid∧R.aM.wid≤64)(F:Int→Int)
 (hF:∀t,P.now≤t→F t=P.f t+had (max R.aM.aW P.now) (R.aM.aW+R.aM.lim) R.aM.wid t) (hr:∀t,P.now≤t→0≤F t∧F t≤64):
 Calls prog 236 #[.pointer (some ⟨b,0,none⟩),.pointer (some ⟨c,0,none⟩)] w (aI w b c t d p v g (a+2) (m+1) .nilFunc R {P with f:=F}):=by
 have zJ:=bC;have zS:=mM;obtain⟨k,hk1⟩:=qaa (10);obtain⟨k3,hk3⟩:∃k,k=3:=⟨_,rfl⟩;rw[←hk1]at zJ;rw[←hk3]at zS;have hk0:¬k=0:=by omega
 have BB:¬k3=0:=by omega
 have lJ:=aA R.aM;rw[←hk1]at lJ;replace hk1:=qae hk1;have hS:=qae h;have uo:=h.wk.pY lJ;have hpl:=nA (w:=w) R.aM hb1 hb2;have lS:(aZ R.aM).length=3:=by unfold aZ;split<;>rfl
 have oS:∀u∈aZ R.aM,u.oneCell'=true:=by unfold aZ;split<;>(intro u hu;simp at hu;rcases hu with rfl|rfl|rfl<;>rfl)
 have ST:Hid (∀W:World,Sem.run prog (storeCells ⟨W.heap.size,0,none⟩ (aZ R.aM) 0) (W.alloc (.cells #[.int .i64 0,.int .i64 0,.int .i64 0] 131))=.ok () (W.alloc (.cells (aZ R.aM).toArray 131))):=fun W=>dW W W.heap.size (aZ R.aM) [.int .i64 0,.int .i64 0,.int .i64 0] 131 rfl lS oS;rw[←hk3]at lS;replace hk3:=qae hk3;have hst:∀W,SW W b c t d p v g a m R P→W.cell? ⟨b,17,none⟩=some (.int .i64 R.aM.st):=fun W hW=>hW.wk.at 17 (.int .i64 R.aM.st) rfl;generalize nD:aZ R.aM=cS at*;replace nD:=qae nD;generalize ag R.aM=cJ at*;clear h;have FC:R.aM.st=1:=(bQ.1 hP).1;rw[FC]at hst;have oF:cS=[.int .i64 R.aM.aW,.int .i64 (R.aM.aW+R.aM.lim),.int .i64 R.aM.wid]:=by rw[←nD.out];unfold aZ;rw[qaj hP]
 rw[hP]at hpl;replace hP:=qae hP;replace FC:=qae FC;replace oF:=qae oF;replace hst:=qae hst;go_enter func236,ntmps236;go_wp2_with fail;go_at_call 146;refine hpl.mono ?_;clear hpl uo;rintro e w1 ⟨rfl,hb⟩;have st1:=ST.out w1;obtain⟨w2,hw2⟩:=qaa (w1.alloc (.cells cS.toArray 131));rw[←hw2]at st1;have hb2':Below w.heap.size w w2:=by rw[hw2];exact hb.alloc hb.size _
 have hy2:Hid (w2.heap[w1.heap.size]? =some (.cells cS.toArray 131 (0,0))):=by show _=_;rw[hw2];exact heap_alloc_new w1 _
 have hs2:w2.heap.size=w1.heap.size+1:=by rw[hw2];simp
 replace hw2:=qae hw2;have hS2:=qae (hS.out.kept hb2');go_wp2_with fail;refine Reg2.ro w2 5 47 [.p 0,.p 1,.p 3,.m 7,.m 0] [.pointer (some ⟨p,0,none⟩),.agg cS.toArray] (by kernel_rfl) (by kernel_rfl) rfl rfl ⟨rfl,rfl,rfl,qaf _,fun _ _=>rfl⟩ ?_;dsimp only[Reg2.fF]
 repeat((first
  |(refine' Reg2.ak _ (by rfl) (fun wz=>?_) ?_;rotate_left;(go_simp;first|rfl|rw[qai (by omega)]))
  |(refine Reg2.az (by rfl) (fun wz hI hF=>?_) (fun _=>?_)
    ·unfold Reg2.One;have c0:=(hS2.out.cw.kept hI).c2;have d0:=gX ((hI.block _ (ai hy2.out)).trans hy2.out) lS;go_wp2_with fail
     first|exact⟨_,rfl,rfl,qad⟩|exact⟨_,rfl,⟨(),rfl,trivial⟩,qad⟩));simp only[Act.put,xA,xB,xC,xD,xE,id])
 refine Reg2.aD ?_;intro w4 HI4 _ gB;clear gB;dsimp only[List.drop];have bZ:=hS2.out.kept HI4;have hrel:=wH bZ.cw hk ha hm R.aM.aW (R.aM.aW+R.aM.lim) R.aM.wid F (by omega) (by omega) hb4 hF hr;have KT:=oF.out;clear nD oF;subst KT;go_wp2_with fail;go_at_call 200;refine hrel.mono ?_;clear hrel;rintro e w5 ⟨rfl,v5,g5,iI,hS5⟩;have fU:=bZ.core iI hS5;have hfin:=(WS.of_below (hb2'.trans (HI4.mono hb2'.size)):WS w w4 b c t d p v g v g).trans (WS.dU hS5);have c17:=fU.wk.at 17 (.int .i64 R.aM.st) rfl;rw[FC.out]at c17;go_wp2_with fail;go_ret;exact⟨rfl,v5,g5,fU,hfin⟩
theorem KU (h:SW w b c t d p v g a m R P)(hk:PK P)(ha:a≤800)(hm:m≤1000000)(hP:R.aM.st=3)(hb1:R.aM.aW≤1099511627776)(hb2:0≤R.aM.lim∧R.aM.lim≤1048576)(hb3:P.now<R.aM.fin∧R.aM.fin≤1099512676352)(hb4: -64≤R.idle∧R.idle≤64)(F:Int→Int)
 (hF:∀t,P.now≤t→F t=P.f t+had (max P.now P.now) R.aM.fin R.idle t) (hr:∀t,P.now≤t→0≤F t∧F t≤64):
 Calls prog 236 #[.pointer (some ⟨b,0,none⟩),.pointer (some ⟨c,0,none⟩)] w (aI w b c t d p v g (a+2) (m+1) .nilFunc R {P with f:=F}):=by
 have zJ:=bC;have zS:=mM;obtain⟨k,hk1⟩:=qaa (10);obtain⟨k3,hk3⟩:∃k,k=3:=⟨_,rfl⟩;rw[←hk1]at zJ;rw[←hk3]at zS;have hk0:¬k=0:=by omega
 have BB:¬k3=0:=by omega
 have lJ:=aA R.aM;rw[←hk1]at lJ;replace hk1:=qae hk1;have hS:=qae h;have uo:=h.wk.pY lJ;have hpl:=nA (w:=w) R.aM hb1 hb2;have lS:(aZ R.aM).length=3:=by unfold aZ;split<;>rfl
 have oS:∀u∈aZ R.aM,u.oneCell'=true:=by unfold aZ;split<;>(intro u hu;simp at hu;rcases hu with rfl|rfl|rfl<;>rfl)
 have ST:Hid (∀W:World,Sem.run prog (storeCells ⟨W.heap.size,0,none⟩ (aZ R.aM) 0) (W.alloc (.cells #[.int .i64 0,.int .i64 0,.int .i64 0] 131))=.ok () (W.alloc (.cells (aZ R.aM).toArray 131))):=fun W=>dW W W.heap.size (aZ R.aM) [.int .i64 0,.int .i64 0,.int .i64 0] 131 rfl lS oS;rw[←hk3]at lS;replace hk3:=qae hk3;have hst:∀W,SW W b c t d p v g a m R P→W.cell? ⟨b,17,none⟩=some (.int .i64 R.aM.st):=fun W hW=>hW.wk.at 17 (.int .i64 R.aM.st) rfl;generalize nD:aZ R.aM=cS at*;replace nD:=qae nD;generalize ag R.aM=cJ at*;clear h;have hno:ay R.aM=false:=by unfold ay;rw[hP];rfl
 rw[hP]at hst;rw[hno]at hpl;replace hP:=qae hP;replace hno:=qae hno;go_enter func236,ntmps236;go_wp2_with fail;go_at_call 146;refine hpl.mono ?_;clear hpl uo;rintro e w1 ⟨rfl,hb⟩;have st1:=ST.out w1;obtain⟨w2,hw2⟩:=qaa (w1.alloc (.cells cS.toArray 131));rw[←hw2]at st1;have hb2':Below w.heap.size w w2:=by rw[hw2];exact hb.alloc hb.size _
 have hy2:Hid (w2.heap[w1.heap.size]? =some (.cells cS.toArray 131 (0,0))):=by show _=_;rw[hw2];exact heap_alloc_new w1 _
 have hs2:w2.heap.size=w1.heap.size+1:=by rw[hw2];simp
 replace hw2:=qae hw2;have hS2:=qae (hS.out.kept hb2');have c17:=hst w2 hS2.out;replace hst:=qae hst;go_wp2_with fail;refine Reg2.ro w2 18 47 [.p 0,.p 1,.p 3,.m 7,.p 0,.p 16,.p 48,.m 112,.m 240,.p 0,.p 512,.p 1536,.p 3584,.m 7680,.p 0,.p 16384,.p 49152,.m 114688] [.pointer (some ⟨p,0,none⟩),.pointer (some ⟨p,0,none⟩),.int .i64 P.now,.int .i64 R.aM.fin,.int .i64 R.idle] (by kernel_rfl) (by kernel_rfl) rfl rfl ⟨rfl,rfl,rfl,qaf _,fun _ _=>rfl⟩ ?_;dsimp only[Reg2.fF]
 repeat((first
  |(refine' Reg2.ak _ (by rfl) (fun wz=>?_) ?_;rotate_left;(go_simp;first|rfl|rw[qai (by omega)]))
  |(refine Reg2.az (by rfl) (fun wz hI hF=>?_) (fun _=>?_)
    ·unfold Reg2.One;have c0:=(hS2.out.cw.kept hI).c2;go_wp2_with fail
     first|exact⟨_,rfl,rfl,qad⟩|exact⟨_,rfl,⟨(),rfl,trivial⟩,qad⟩));simp only[Act.put,xA,xB,xC,xD,xE,id])
 refine Reg2.pm (fun wz hI hF=>?_) (fun r8=>?_) (by rfl)
 ·go_wp2_with (go_at_call 45;go_must (refine(il (hS2.out.kept hI).cw).mono ?_);rintro e w' ⟨rfl,rfl⟩)
  first|exact⟨_,rfl,rfl,qad⟩|exact⟨_,rfl,⟨(),rfl,trivial⟩,qad⟩
 simp only[Act.put,xA,xB,xC,xD,xE,id]
 repeat((first
  |(refine' Reg2.ak _ (by rfl) (fun wz=>?_) ?_;rotate_left;(go_simp;first|rfl|rw[qai (by omega)]))
  |(refine Reg2.az (by rfl) (fun wz hI hF=>?_) (fun _=>?_)
    ·unfold Reg2.One;have q0:=(hS2.out.kept hI).wk.at 19 (.int .i64 R.aM.fin) rfl;have F8:=(hS2.out.kept hI).wk.at 22 (.int .i64 R.idle) rfl;go_wp2_with fail
     first|exact⟨_,rfl,rfl,qad⟩|exact⟨_,rfl,⟨(),rfl,trivial⟩,qad⟩));simp only[Act.put,xA,xB,xC,xD,xE,id])
 refine Reg2.aD ?_;intro w4 HI4 _ gB;clear gB;dsimp only[List.drop];have bZ:=hS2.out.kept HI4;have hadd:=O0 bZ.cw hk ha hm P.now R.aM.fin R.idle F hb3.1 (by omega) hb4 hF hr;go_wp2_with fail;go_at_call 132;refine hadd.mono ?_;clear hadd;rintro e w5 ⟨rfl,v5,g5,iI,hS5⟩;have fU:=bZ.core iI hS5;have hfin:=(WS.of_below (hb2'.trans (HI4.mono hb2'.size)):WS w w4 b c t d p v g v g).trans (WS.dU hS5);go_wp2_with fail;go_ret;exact⟨rfl,v5,g5,fU,hfin⟩
theorem IC (h:SW w b c t d p v g a m R P)(hk:PK P)(ha:a≤800)(hm:m≤1000000)(hP:ay R.aM=false)(hP2:R.aM.st≠3)(hb1:R.aM.aW≤1099511627776)(hb2:0≤R.aM.lim∧R.aM.lim≤1048576):
 Calls prog 236 #[.pointer (some ⟨b,0,none⟩),.pointer (some ⟨c,0,none⟩)] w (aI w b c t d p v g a m .nilFunc R P):=by
 have zJ:=bC;have zS:=mM;obtain⟨k,hk1⟩:=qaa (10);obtain⟨k3,hk3⟩:∃k,k=3:=⟨_,rfl⟩;rw[←hk1]at zJ;rw[←hk3]at zS;have hk0:¬k=0:=by omega
 have BB:¬k3=0:=by omega
 have lJ:=aA R.aM;rw[←hk1]at lJ;replace hk1:=qae hk1;have hS:=qae h;have uo:=h.wk.pY lJ;have hpl:=nA (w:=w) R.aM hb1 hb2;have lS:(aZ R.aM).length=3:=by unfold aZ;split<;>rfl
 have oS:∀u∈aZ R.aM,u.oneCell'=true:=by unfold aZ;split<;>(intro u hu;simp at hu;rcases hu with rfl|rfl|rfl<;>rfl)
 have ST:Hid (∀W:World,Sem.run prog (storeCells ⟨W.heap.size,0,none⟩ (aZ R.aM) 0) (W.alloc (.cells #[.int .i64 0,.int .i64 0,.int .i64 0] 131))=.ok () (W.alloc (.cells (aZ R.aM).toArray 131))):=fun W=>dW W W.heap.size (aZ R.aM) [.int .i64 0,.int .i64 0,.int .i64 0] 131 rfl lS oS;rw[←hk3]at lS;replace hk3:=qae hk3;have hst:∀W,SW W b c t d p v g a m R P→W.cell? ⟨b,17,none⟩=some (.int .i64 R.aM.st):=fun W hW=>hW.wk.at 17 (.int .i64 R.aM.st) rfl;generalize nD:aZ R.aM=cS at*;replace nD:=qae nD;generalize ag R.aM=cJ at*;clear h;have d0:(R.aM.st == 3)=false:=by simp[hP2]
 rw[hP]at hpl;generalize R.aM.st=s at*;go_enter func236,ntmps236;go_wp2_with fail;go_at_call 146;refine hpl.mono ?_;clear hpl uo;rintro e w1 ⟨rfl,hb⟩;have st1:=ST.out w1;obtain⟨w2,hw2⟩:=qaa (w1.alloc (.cells cS.toArray 131));rw[←hw2]at st1;have hb2':Below w.heap.size w w2:=by rw[hw2];exact hb.alloc hb.size _
 have hy2:Hid (w2.heap[w1.heap.size]? =some (.cells cS.toArray 131 (0,0))):=by show _=_;rw[hw2];exact heap_alloc_new w1 _
 have hs2:w2.heap.size=w1.heap.size+1:=by rw[hw2];simp
 replace hw2:=qae hw2;have hS2:=qae (hS.out.kept hb2');have c17:=hst w2 hS2.out;replace hst:=qae hst;go_wp2_with fail;go_ret;exact⟨rfl,v,g,hS2.out,WS.of_below hb2'⟩
end
theorem IE {p:Jb→Bool}:∀{X:List Jb} {x:Jb} {r:List Jb},X.filter p=x::r→∃q,q<X.length∧X.getD q default=x∧(∀k,k<q→p (X.getD k default)=false)∧(X.drop (q+1)).filter p=r∧p x=true:=by
 intro X
 induction X with
 |nil=>intro x r h;cases h
 |cons y X ih=>
  intro x r h;cases hp:p y with
  |true=>
   rw[List.filter_cons_of_pos hp]at h;obtain⟨rfl,rfl⟩:=List.cons.inj h;exact⟨0,by simp,rfl,fun k hk=>absurd hk (Nat.not_lt_zero _),rfl,hp⟩
  |false=>
   rw[List.filter_cons_of_neg (by simp[hp])]at h;obtain⟨q,h1,h2,h3,h4,h5⟩:=ih h;refine⟨q+1,by simp;omega,by simpa using h2,fun k hk=>?_,by simpa using h4,h5⟩;cases k with
   |zero=>simpa using hp
   |succ k=>simpa using h3 k (by omega)
theorem filter_none {p:Jb→Bool}{X:List Jb}(h:X.filter p=[])(k:Nat)(hk:k<X.length):p (X.getD k default)=false:=by
 have h1:=List.filter_eq_nil_iff.1 h (X.getD k default) (bN hk);simpa using h1
theorem getD_drop {L:List Jb}{k q:Nat}:(L.drop k).getD q default=L.getD (k+q) default:=by simp[List.getD]
theorem BC {f:Jb→Jb}{L:List Jb}{k:Nat}:∀{k':Nat},k≤k'→k'≤L.length→(∀m,k≤m→m<k'→f (L.getD m default)=L.getD m default)→dh f L k=dh f L k':=by
 intro k'
 induction k' with
 |zero=>
  intro h _ _;obtain rfl:k=0:=by omega
  rfl
 |succ k' ih=>
  intro h1 h2 h3;rcases Nat.lt_or_ge k' k with h4|h4
  ·obtain rfl:k=k'+1:=by omega
   rfl
  ·rw[ih h4 (by omega) fun m a b=>h3 m a (by omega)];exact mZ (by omega) (h3 k' h4 (by omega))
theorem yF {t:Int}{j:Jb}(h:¬(j.st=3∧j.fin=t)):aV t j=j:=qai h
theorem Ec {t:Int}{j:Jb}(h:j.st=3∧j.fin=t):aV t j=j.setSt 6:=qaj h
def kP (M:Md)(k:Nat):Md:={M with L:=dh (aV M.now) M.L k}
section
variable {M : Md}
theorem zD (k:Nat):(kP M k).L.length=M.L.length:=kG M.L k
theorem Uj :kP M M.L.length={M with L:=M.L.map (aV M.now)}:=by unfold kP;rw[oI]
theorem QI :kP M 0=M:=by unfold kP dh;simp
theorem Uk (h:aS M)(h1:1≤M.dr.length)(h2:M.L.length≤900){f0:Int→Int}(hf:∀t,M.now≤t→0≤f0 t∧f0 t≤64):PK {au M with f:=f0}:=by
 have:=gL h h1 h2;exact⟨this.now,this.few,this.st,this.lim,this.uN,hf⟩
theorem IG {x y:Jb}(h:x.id≠y.id)(hn:bA y x=false):bA x y=true:=by
 unfold bA at*;simp only[Bool.or_eq_false_iff,Bool.and_eq_false_iff,decide_eq_false_iff_not,Bool.or_eq_true,Bool.and_eq_true,decide_eq_true_eq]at*;omega
theorem KV {L:List Jb}{now:Int}{f:Nat}(hd:dR now (L.getD f default)=true)(hf:∀q,q<L.length→q≠f→dR now (L.getD q default)=true→bA (L.getD f default) (L.getD q default)=true):
 ∀k,k≤L.length→f<k→eF L now k=f:=by
 have sp:∀q,dR now (L.getD q default)=true↔(ay (L.getD q default)=true∧(L.getD q default).aW=now):=fun q=>by unfold dR;simp
 intro k
 induction k with
 |zero=>intro _ h;omega
 |succ k ih=>
  intro hk hfk;unfold eF;rcases Nat.lt_or_ge f k with h1|h1
  ·rw[ih (by omega) h1,qai];rintro⟨h2,h3,h4⟩;have h5:=hf k (by omega) (by omega) ((sp k).2 ⟨h2,h3⟩);rcases h4 with h4|h4
   ·omega
   ·rw[Int.toNat_natCast]at h4;have:=I6 h5;rw[this]at h4;cases h4
  ·obtain rfl:f=k:=by omega
   obtain⟨h2,h3⟩:=(sp f).1 hd;rw[qaj];refine⟨h2,h3,?_⟩;rcases pz L now f with⟨h4,_⟩|⟨q,h4,h5,h6⟩
   ·exact .inl h4
   ·refine .inr ?_;rw[h4,Int.toNat_natCast];exact hf q (by omega) (by omega) h6
theorem Nw {f:Nat}(hfl:f<M.L.length)(hd:dR M.now (M.L.getD f default)=true)(hf:∀q,q<M.L.length→q≠f→dR M.now (M.L.getD q default)=true→bA (M.L.getD f default) (M.L.getD q default)=true):firstM M=f:=
 KV hd hf _ (qaf _) hfl
theorem EW (n:Nat)(h:∀q,q<M.L.length→dR M.now (M.L.getD q default)=false):startGo n M=M:=by
 have hf:¬0≤firstM M:=by
  unfold firstM;rcases pz M.L M.now M.L.length with⟨h4,_⟩|⟨q,h4,h5,h6⟩
  ·omega
  ·rw[h q h5]at h6;cases h6
 induction n with
 |zero=>rfl
 |succ n ih=>unfold startGo;rw[qai hf];exact ih
structure Going (M F : Md) (r : List Jb) : Prop where
 inv:aS M
 run:∀j∈M.L,j.st=3→M.now<j.fin
 goes:∃n,startGo n M=F∧oC M≤n
 still:∀x∈r,1≤x.id∧x.id≤M.L.length∧M.L.getD (x.id-1).toNat default=x
 due:∀q,q<M.L.length→dR M.now (M.L.getD q default)=true→M.L.getD q default∈r
 sorted:r.Pairwise (fun x y=>bA y x=false)
 nodup:r.Pairwise (fun x y=>x.id≠y.id)
 pend:∀x∈r,x.st=1
theorem Going.skip {F:Md}{x:Jb}{r:List Jb}(h:Going M F (x::r))(hx:dR M.now x=false):Going M F r:=
 ⟨h.inv,h.run,h.goes,fun y hy=>h.still y (List.mem_cons_of_mem _ hy),fun q hq hd=>by
  rcases List.mem_cons.1 (h.due q hq hd)with e|e
  ·rw[e,hx]at hd;cases hd
  ·exact e,(List.pairwise_cons.1 h.sorted).2,(List.pairwise_cons.1 h.nodup).2,fun y hy=>h.pend y (List.mem_cons_of_mem _ hy)⟩
theorem Going.last {F:Md}(h:Going M F []):F=M:=by
 obtain⟨n,h1,_⟩:=h.goes;rw[←h1];refine EW n fun q hq=>?_;cases hd:dR M.now (M.L.getD q default)with
 |false=>rfl
 |true=>exact absurd (h.due q hq hd) (by simp)
theorem Going.next {F:Md}{x:Jb}{r:List Jb}(h:Going M F (x::r))(hx:dR M.now x=true):(x.id-1).toNat<M.L.length∧M.L.getD (x.id-1).toNat default=x∧Going (bG M (x.id-1).toNat) F r:=by
 obtain⟨i1,i2,i3⟩:=h.still x (List.mem_cons_self ..);obtain⟨f,hf⟩:=qaa ((x.id-1).toNat);have hfl:f<M.L.length:=by omega
 rw[←hf]at i3⊢;have hs:=List.pairwise_cons.1 h.sorted;have hn:=List.pairwise_cons.1 h.nodup;have hdf:dR M.now (M.L.getD f default)=true:=by rw[i3];exact hx
 have xe:firstM M=f:=Nw hfl hdf fun q hq hne hd=>by
  have hmem:=h.due q hq hd;have Ul:=h.inv.ids q hq;have KL:=h.inv.ids f hfl;rcases List.mem_cons.1 hmem with e|e
  ·rw[e]at Ul;rw[i3]at KL;omega
  ·rw[i3];exact IG (hn.1 _ e) (hs.1 _ e)
 obtain⟨n,h1,h2⟩:=h.goes;obtain⟨s1,s2,s3,_⟩:=h.inv.start h.run hfl hdf;have hpos:1≤oC M:=by
  have h5:=CY (fun j=>if dR M.now j=true then(1:Int)else 0) M.L (fun j _=>by split<;>omega) (bN hfl);rw[qaj hdf]at h5;exact h5
 have hlen:(bG M f).L.length=M.L.length:=by unfold bG;exact List.length_set
 have hget:∀q,(bG M f).L.getD q default=if f=q∧f<M.L.length then gG M (M.L.getD f default)else M.L.getD q default:=fun q=>iC
 refine⟨hfl,i3,s1,s2,?_,?_,?_,hs.2,hn.2,fun y hy=>h.pend y (List.mem_cons_of_mem _ hy)⟩
 ·cases n with
  |zero=>omega
  |succ n=>
   refine⟨n,?_,by omega⟩;unfold startGo at h1;rw[xe,qaj (by omega),Int.toNat_natCast]at h1;exact h1
 ·intro y hy;obtain⟨a1,a2,a3⟩:=h.still y (List.mem_cons_of_mem _ hy);refine⟨a1,by rw[hlen];exact a2,?_⟩;rw[hget,qai,a3];rintro⟨e,_⟩;exact hn.1 y hy (by omega)
 ·intro q hq hd;rw[hlen]at hq;rw[hget]at hd⊢;by_cases e:f=q∧f<M.L.length
  ·rw[qaj e]at hd;have:dR (bG M f).now (gG M (M.L.getD f default))=false:=by unfold dR ay;rfl
   rw[this]at hd;cases hd
  ·rw[qai e]at hd⊢;rcases List.mem_cons.1 (h.due q hq hd)with e2|e2
   ·exfalso;have Ul:=h.inv.ids q hq;rw[e2]at Ul;exact e ⟨by omega,hfl⟩
   ·exact e2
end
def AB (w:World)(c t d p:Nat)(v:Value)(g a:Nat)(m:Int)(P:Pg)(W:World):Prop:=∃v' g',CW W c t d p v' g' a m P∧CS w W c t d p v g v' g'
theorem AB.ext {w:World}{c t d p g a:Nat}{v:Value}{m:Int}{P:Pg}:∀(x y:World),Reg2.Ext x y→AB w c t d p v g a m P x→AB w c t d p v g a m P y:=by
 rintro x y h ⟨v',g',h1,h2⟩;exact⟨v',g',h1.kept h,h2.trans (CS.of_below h)⟩
def xy (w:World)(c t d p:Nat)(v:Value)(g a:Nat)(m:Int)(P:Pg)(T:List Int)(W:World):Prop:=AB w c t d p v g a m P W∧jK T
theorem xy.ext {w:World}{c t d p g a:Nat}{v:Value}{m:Int}{P:Pg}{T:List Int}:∀(x y:World),Reg2.Ext x y→xy w c t d p v g a m P T x→xy w c t d p v g a m P T y:=fun x y h hs=>⟨AB.ext x y h hs.1,hs.2⟩
section
variable {w : World} {c t d p g a : Nat} {v : Value} {m : Int} {P : Pg} {M : Md}
theorem launch_fn (h:CW w c t d p v g a m P)(hk:PK P)(j:Jb)(hj: -9223372036854775808≤j.wid∧j.wid≤9223372036854775807){s:Nat}{T0:List Int}(hT0:tq P.T j.wid s 0 T0):
 Calls prog 268 #[.pointer (some ⟨c,0,none⟩),.agg (ag j).toArray] w (gy w c t d p v g a m (.tuple #[]) {P with T:=T0,J:=dJ P.J (iE P.now) j.id (fun j:Jb=>decide (j.state=1)) (nR P.now s)}):=by
 obtain⟨wA,aj⟩:=qaa (w.alloc (.cells (ag j).toArray 55));have aC:Below w.heap.size w wA:=by rw[aj];exact qac.alloc (qaf _) _
 have hsA:wA.heap.size=w.heap.size+1:=by rw[aj];simp
 have mo:Hid (wA.heap[w.heap.size]? =some (.cells (ag j).toArray 55 (0,0))):=by show _=_;rw[aj];exact heap_alloc_new w _
 have kr:=qae (h.kept aC);have hft:Hid (¬eQ c t d p v g w.heap.size):=fun hf=>absurd (h.lt hf) (Nat.lt_irrefl _);have e0:(ag j)[0]? =some (.int .i64 j.id):=rfl;have e2:(ag j)[2]? =some (.int .i64 j.wid):=rfl;have zE:=bC;obtain⟨k,hk1⟩:=qaa (10);rw[←hk1]at zE;have hk0:¬k=0:=by omega
 replace hk1:=qae hk1;have Um:=fun(W:World) (hW:CW W c t d p v g a m P)=>Qz hW hk j.wid hj;have hbe:=fun(W:World) (v1:Value) (g1:Nat) (hL:jK T0) (hW:CW W c t d p v1 g1 a m {P with T:=T0})=>Nk hW ⟨hk.now,hk.few,hk.st,hk.lim,hL,hk.f⟩ j.id P.now s;rw[show({P with T:=T0}:Pg).J=P.J from rfl]at hbe;have hLT:Hid (∀{T':List Int},jK T'→T0=T'→jK T0):=fun h1 h2=>h2▸h1;generalize ag j=cJ at*;generalize j.wid=jw at*;generalize j.id=ji at*;replace hT0:=qae hT0;clear h;go_enter func268,ntmps268;go_wp2_with fail;rw[←aj];replace aj:=qae aj;refine Reg2.vo 11 31 (Reg2.rows 0 [.p 0,.p 1,.p 3,.p 7,.p 0,.p 16,.p 63,.p 127,.p 255,.p 255,.p 511]) [0,0,0,2,0,2,3,0,0,0,0]
  [.pure,.pure,.pure,.pinned Unit () (fun _=>.pointer (some ⟨d,0,none⟩)) (fun _ _=>True),.pure,.pinned Unit () (fun _=>.int .i64 jw) (fun _ _=>True),.major Unit () (fun _=>.tuple #[.int .u64 s,.int .i64 0]),.pure,.pure,.pure,.pure]
  (fun _=>True) (fun vs W=>match vs with| []=>Below wA.heap.size wA W|_::_=>(xy wA c t d p v g a m {P with T:=T0} T0) W) (fun _ _=>True) (by kernel_rfl) (by kernel_rfl) rfl rfl (fun vs a b h hs=>by cases vs with|nil=>exact Below.trans hs (h.mono (Below.size hs))|cons v vs=>exact xy.ext a b h hs) ?_ ?_ ?_ ?_ ?_ ?_
 ·intro a b he hb;trivial
 ·intro a b he hb;trivial
 ·exact⟨trivial,trivial,trivial,⟨fun _ _ _ _ _=>trivial,fun _ _ _ _ _=>trivial⟩,trivial,⟨fun _ _ _ _ _=>trivial,fun _ _ _ _ _=>trivial⟩,trivial,trivial,trivial,trivial,trivial,trivial⟩
 ·trivial
 ·exact⟨rfl,rfl,rfl,qaf _,fun _ _=>rfl⟩
 dsimp only[Reg2.rows,Reg2.mk,List.zip,List.zipWith,List.take]
 repeat(refine' Reg2.ak _ (by rfl) (fun wz=>?_) ?_;rotate_left;(go_simp;first|rfl|rw[qai (by omega)]);simp only[Act.put,xA,xB,xC,xD,xE,id])
 refine Reg2.pp (fun wz _ hI hF=>?_) (fun r3=>?_) (by rfl)
 ·have c0:=(kr.out.kept hI).c1;go_wp2_with fail
  first|exact⟨_,rfl,rfl,qad⟩|exact⟨_,rfl,⟨(),rfl,trivial⟩,qad⟩
 simp only[Act.put,xA,xB,xC,xD,xE,id]
 repeat(refine' Reg2.ak _ (by rfl) (fun wz=>?_) ?_;rotate_left;(go_simp;first|rfl|rw[qai (by omega)]);simp only[Act.put,xA,xB,xC,xD,xE,id])
 refine Reg2.pp (fun wz _ hI hF=>?_) (fun r5=>?_) (by rfl)
 ·have q0:wz.cell? ⟨w.heap.size,2,none⟩=some (.int .i64 jw):=by simp[World.cell?,(hI.block _ (ai mo.out)).trans mo.out,e2]
  go_wp2_with fail
  first|exact⟨_,rfl,rfl,qad⟩|exact⟨_,rfl,⟨(),rfl,trivial⟩,qad⟩
 simp only[Act.put,xA,xB,xC,xD,xE,id];refine Reg2.pj (fun wz _ hI hF=>?_) (fun r6=>?_) (by rfl)
 ·go_wp2_with (go_at_call 116;go_must (refine(Um wz (kr.out.kept hI)).mono ?_);rintro e w' ⟨s1,x1,T',hT,hL,rfl,v4,g4,qc,bZ⟩);obtain⟨rfl,rfl,rfl⟩:=hT0.out.uniq hT;have hpost:xy wA c t d p v g a m {P with T:=T0} T0 w':=⟨⟨v4,g4,qc,(CS.of_below hI).trans bZ⟩,hL⟩;exact⟨_,rfl,⟨⟨(),rfl⟩,hpost⟩,trivial⟩
 simp only[Act.put,xA,xB,xC,xD,xE,id]
 repeat(refine' Reg2.ak _ (by rfl) (fun wz=>?_) ?_;rotate_left;(go_simp;first|rfl|rw[qai (by omega)]);simp only[Act.put,xA,xB,xC,xD,xE,id])
 refine Reg2.aD ?_;intro w7 _ vE gF;clear gF;dsimp only[List.drop];obtain⟨⟨v7,g7,Ca,iQ⟩,hL7⟩:AB wA c t d p v g a m {P with T:=T0} w7∧jK T0:=vE;have Cb:Hid (w7.heap[w.heap.size]? =some (.cells cJ.toArray 55 (0,0))):=(iQ.heap (ai mo.out) hft.out).trans mo.out;replace Ca:=qae Ca;go_wp2_with fail;refine Reg2.ro w7 12 31 [.p 0,.p 1,.p 3,.m 7,.p 0,.m 16,.p 0,.p 64,.p 192,.m 448,.m 960,.p 0] [.pointer (some ⟨t,0,none⟩),.int .i64 ji,.pointer (some ⟨p,0,none⟩),.int .i64 P.now] (by kernel_rfl) (by kernel_rfl) rfl rfl ⟨rfl,rfl,rfl,qaf _,fun _ _=>rfl⟩ ?_;dsimp only[Reg2.fF]
 repeat((first
  |(refine' Reg2.ak _ (by rfl) (fun wz=>?_) ?_;rotate_left;(go_simp;first|rfl|rw[qai (by omega)]))
  |(refine Reg2.az (by rfl) (fun wz hI hF=>?_) (fun _=>?_)
    ·unfold Reg2.One;have c0:=(Ca.out.kept hI).c0;have q0:wz.cell? ⟨w.heap.size,0,none⟩=some (.int .i64 ji):=by simp[World.cell?,(hI.block _ (ai Cb.out)).trans Cb.out,e0]
     have O1:=(Ca.out.kept hI).c2;go_wp2_with fail
     first|exact⟨_,rfl,rfl,qad⟩|exact⟨_,rfl,⟨(),rfl,trivial⟩,qad⟩));simp only[Act.put,xA,xB,xC,xD,xE,id])
 refine Reg2.pm (fun wz hI hF=>?_) (fun Dv=>?_) (by rfl)
 ·go_wp2_with (go_at_call 45;go_must (refine(il (Ca.out.kept hI)).mono ?_);rintro e w' ⟨rfl,rfl⟩)
  first|exact⟨_,rfl,rfl,qad⟩|exact⟨_,rfl,⟨(),rfl,trivial⟩,qad⟩
 simp only[Act.put,xA,xB,xC,xD,xE,id]
 repeat(refine' Reg2.ak _ (by rfl) (fun wz=>?_) ?_;rotate_left;(go_simp;first|rfl|rw[qai (by omega)]);simp only[Act.put,xA,xB,xC,xD,xE,id])
 refine Reg2.aD ?_;intro w8 Zu _ gB;clear gB;dsimp only[List.drop];have XT:=Ca.out.kept Zu;have kN:=hbe w8 v7 g7 hL7 XT;go_wp2_with fail;go_at_call 133;refine kN.mono ?_;clear kN;rintro e w9 ⟨rfl,v9,g9,KW,iA⟩;have hfin:=(((CS.of_below aC:CS w wA c t d p v g v g).trans iQ).trans (CS.of_below Zu)).trans iA;go_wp2_with fail;go_end0;exact⟨rfl,v9,g9,KW,hfin⟩
theorem boxed (wr:World)(x:Jb):Sem.run prog (storeCells ⟨wr.heap.size,0,none⟩ (ag x) 0) (wr.alloc (.cells #[.int .i64 0,.int .i64 0,.int .i64 0,.int .i64 0,.int .i64 0,.int .i64 0,.int .i64 0,.int .i64 0,.int .i64 0,.int .u64 0] 55))=.ok () (wr.alloc (.cells (ag x).toArray 55)):=
 dW wr wr.heap.size (ag x) (ag jD) 55 rfl rfl (dO x)
theorem pU.off {w w1:World}{gb off:Nat}{l:List Jb}{v1:Value}{g1:Nat}(hJ:pU w gb off l)(hs:CS w w1 c t d p v g v1 g1)(hg:¬eQ c t d p v g gb):pU w1 gb off l:=by
 have hb:w1.heap[gb]? =w.heap[gb]? :=hs.heap hJ.1 hg;exact⟨Nat.lt_of_lt_of_le hJ.1 hs.off.size,fun i s j u hi hj=>by
  have:=hJ.2 i s j u hi hj;simp only[World.cell?,World.frozen?,hb]at this⊢;exact this⟩
theorem Ny (f0:Int→Int)(h:CW w c t d p v g a m {au M with f:=f0})(hI:aS M)(h1:1≤M.dr.length)(hll:M.L.length≤900)(hf0:∀u,M.now≤u→0≤f0 u∧f0 u≤64):
 Calls prog 266 #[.pointer (some ⟨c,0,none⟩),.int .i64 M.now] w (gy w c t d p v g a m (.tuple #[]) {au ({M with L:=M.L.map (aV M.now)}:Md)with f:=f0}):=by
 have zE:=bC;obtain⟨k,hk⟩:=qaa (10);rw[←hk]at zE;have hk0:¬k=0:=by omega
 replace hk:=qae hk;obtain⟨wA,aj⟩:=qaa (w.alloc (.cells #[.int .i64 3] 3));have aC:Below w.heap.size w wA:=by rw[aj];exact qac.alloc (qaf _) _
 have Nz:aL enc1 1 wA (.slice (some ⟨w.heap.size,0,none⟩) 1 1) [3]:=by rw[aj];exact iD w w.heap.size [3] rfl (by decide)
 have kr:=h.kept aC;have hin:=yz kr.fZ (by show M.L.length≤1000;omega) Nz;rw[show({au M with f:=f0}:Pg).J=M.L from rfl]at hin;have c0:=h.c0;have hlt:Hid (∀k,eQ c t d p v g k→k<w.heap.size):=fun k hk=>h.lt hk;have Zv:Hid (∀{W:World},CW W c t d p v g a m {au M with f:=f0}→CW W c t d p v g a m {au (kP M 0)with f:=f0}):=fun hW=>by rw[QI];exact hW
 generalize hL1:(M.L.filter fun j:Jb=>decide (j.state∈ [(3:Int)]))=l at*;have hn1:l.length≤900:=by rw[←hL1];exact Nat.le_trans (List.length_filter_le _ _) hll
 obtain⟨tn,htn⟩:=qaa (M.now);rw[←htn];have htb:=hI.mb.now;rw[←htn]at htb;replace htn:=qae htn;replace hL1:=qae hL1;rw[aj]at hin;clear h;go_enter func266,ntmps266;go_wp2_with fail;go_at_call 24;refine hin.mono ?_;clear hin c0;rw[←aj];rintro e w0 ⟨u,rfl,ho,hb0⟩;have hbw0:Below w.heap.size w w0:=aC.trans (hb0.mono aC.size);have hC0:=Zv.out (kr.kept hb0);replace aj:=qae aj;have hsh:Hid (∀{ao:Option Addr} {n cap:Nat},u=.slice ao n cap→0<l.length→∃g0,ao=some ⟨g0,0,none⟩∧wA.heap.size≤g0):=fun{ao n cap} e hp=>by
  obtain⟨I5,cap',e0,hp'⟩:=iX ho;obtain⟨g0,e4⟩:=hp' hp;subst e4;rw[e]at e0;injection e0 with e0 _ _;exact⟨g0,e0,(ho.lt g0 (by rw[e,e0];rfl)).1⟩
 have hr:=aL.iB ho aA rfl rfl;obtain⟨ao,cap,rfl,q1,q2,q3⟩:=hr;obtain⟨n,hn⟩:=qab (l.length);rw[hn]at q1 q3 hn1 ho⊢;have HQ:Hid (0<n→∃b,ao=some ⟨b,0,none⟩∧pU w0 b 0 l∧w.heap.size≤b):=fun hp=>by
  obtain⟨b,off,e1,e2,e3⟩:=q3 hp;obtain⟨g0,e4,e5⟩:=hsh.out rfl (by have:=hn;omega);rw[e4]at e1;injection e1 with e1;injection e1 with e6 e7;subst e6;subst e7;exact⟨g0,e4,⟨e2,e3⟩,by have:=aC.size;omega⟩
 have BO:cap≤9223372036854775807:=by unfold maxLen at q2;omega
 replace hn:=qae hn;clear q2 q3 ho hb0 kr;go_wp2_with fail;go_loopw [13] (fun ii wr=>∃(i kk:Nat) (vr:Value) (gr:Nat),i≤n∧ii=.int .i64 i∧CW wr c t d p vr gr a m {au (kP M kk)with f:=f0}∧CS w0 wr c t d p v g vr gr∧Hid (kk≤M.L.length∧(M.L.drop kk).filter (fun j:Jb=>decide (j.state∈ [(3:Int)]))=l.drop i)) (fun ii _=>n-(intOf ii).toNat)
 case atStart=>exact⟨0,0,v,g,Nat.zero_le _,rfl,hC0,CS.refl _,qae ⟨Nat.zero_le _,by rw[List.drop_zero,List.drop_zero,hL1.out]⟩⟩
 case round=>
  obtain⟨i,kk,vr,gr,hin,rfl,II,hSr,hpos⟩:=hrel;by_cases hlt2:i<n
  ·have b2:(i:Int)<(n:Int):=by omega
   have wi:IntKind.i64.wrap ((i:Int)+1)=(i:Int)+1:=by rw[IntKind.wrap_i64];omega
   obtain⟨gb,rfl,hJ,hgb⟩:=HQ.out (by omega);have hgf:¬eQ c t d p v g gb:=fun hf=>absurd (hlt.out gb hf) (by omega);have vB:=hJ.off hSr hgf;have fw:i<l.length:=by have:=hn.out;omega
   have LI:=vB.load hk.out fw;obtain⟨x,hx⟩:=qaa (l[i]!);rw[←hx,Nat.zero_add]at LI;replace hx:=qae hx;have hdrop:l.drop i=x::l.drop (i+1):=by rw[hx.out,getElem!_pos l i fw];exact List.drop_eq_getElem_cons fw
   obtain⟨hkk,hfil⟩:=hpos.out;rw[hdrop]at hfil;obtain⟨q,a1,a2,a3,a4,a5⟩:=IE hfil;have hq:kk+q<M.L.length:=by rw[List.length_drop]at a1;omega
   rw[getD_drop]at a2;have Un:dh (aV M.now) M.L kk=dh (aV M.now) M.L (kk+q):=BC (by omega) (by omega) fun mm b1 b2=>yF fun hh=>by
    have:=a3 (mm-kk) (by omega);rw[getD_drop,show kk+(mm-kk)=mm by omega]at this;exact absurd this (by show¬(decide ((M.L.getD mm default).state∈ [(3:Int)])=false);rw[show(M.L.getD mm default).state=3 from hh.1];decide)
   have hov:kP M kk=kP M (kk+q):=by unfold kP;rw[Un]
   rw[hov]at II;have hx3:x.st=3:=(show x.state=3 by simpa using a5);have IJ:(M.L.drop (kk+q+1)).filter (fun j:Jb=>decide (j.state∈ [(3:Int)]))=l.drop (i+1):=by rw[←a4,List.drop_drop];rfl
   have Uo:=hI.Cj (kk+q) (by omega);have WH:=hI.Cj (kk+q+1) (by omega);have AJ:(kP M (kk+q)).L.getD (kk+q) default=x:=(qH hq).trans a2;have hxm:=bN hq;rw[a2]at hxm;have KX:=hI.ids (kk+q) hq;rw[a2]at KX;have Fg:=hI.mb.bY x hxm;have Zw:=qae (Uk Uo h1 (by show(kP M (kk+q)).L.length≤900;rw[zD];exact hll) hf0);have XW:=qae (Uk WH h1 (by show(kP M (kk+q+1)).L.length≤900;rw[zD];exact hll) hf0);have Zx:=qae (zz (M:=kP M (kk+q)) Uo h1);replace IJ:=qae IJ;replace AJ:=qae AJ;replace a2:=qae a2;replace KX:=qae KX;replace Uo:=qae Uo;clear hfil hdrop a3 a4 a5 a1 Un hpos hov WH;have lI:=aA x;rw[←hk.out]at lI;have e0:(ag x)[0]? =some (.int .i64 x.id):=rfl;have e7:(ag x)[7]? =some (.int .i64 x.fin):=rfl;have e9:(ag x)[9]? =some (.int .u64 x.bY):=rfl;have st:=boxed wr x;obtain⟨w1,hw1⟩:=qaa (wr.alloc (.cells (ag x).toArray 55));have hb1:Below wr.heap.size wr w1:=by rw[hw1];exact qac.alloc (qaf _) _
   have hz1:w1.heap[wr.heap.size]? =some (.cells (ag x).toArray 55 (0,0)):=by rw[hw1];exact heap_alloc_new wr _
   have hft:¬eQ c t d p vr gr wr.heap.size:=fun hf=>absurd (II.lt hf) (Nat.lt_irrefl _);have c7:w1.cell? ⟨wr.heap.size,7,none⟩=some (.int .i64 x.fin):=by simp[World.cell?,hz1,e7]
   replace hz1:=qae hz1;have qC:=qae (II.kept hb1);have hS1:=hSr.trans (CS.of_below hb1);generalize hcI:ag x=cI at*;replace hcI:=qae hcI;rw[←hw1]at st;replace hw1:=qae hw1;by_cases hfin:x.fin=tn
   ·have ql:x.st=3∧x.fin=M.now:=⟨hx3,hfin.trans htn.out⟩;have d1:(x.fin == tn)=true:=by simp[hfin]
    have hset:Hid (dJ (kP M (kk+q)).L (bS 6 tn) x.id (gq 6) (df 6 tn)=(kP M (kk+q+1)).L):=by
     have hle:=zD (M:=M) (kk+q);have H6:cu (kP M (kk+q)).L (bS 6 tn) x.id (gq 6)=0:=by
      have e1:bS 6 tn=0:=by unfold bS;rw[qai (by decide),qai (by decide),qai (by omega),qai (by omega)]
      unfold cu;rw[KX.out,e1,qai (by decide),qai (by omega),qai (by omega),show((((kk+q:Nat):Int))+1-1).toNat=kk+q by omega,qaj];rw[getElem!_pos _ _ (by omega)];have:(kP M (kk+q)).L[kk+q]'(by omega)=x:=by rw[←AJ.out];simp[List.getD,show kk+q<(kP M (kk+q)).L.length by omega]
      rw[this];unfold gq;rw[show x.state=3 from hx3];rfl
     show dJ _ _ _ _ _=_;unfold dJ;rw[qaj H6,KX.out,show((((kk+q:Nat):Int))+1-1).toNat=kk+q by omega,getElem!_pos _ _ (by omega)];have e2:(kP M (kk+q)).L[kk+q]'(by omega)=x:=by rw[←AJ.out];simp[List.getD,show kk+q<(kP M (kk+q)).L.length by omega]
     rw[e2];have e3:df 6 tn x=aV M.now (M.L.getD (kk+q) default):=by
      rw[a2.out,Ec ql];have h8:=hI.rest x hxm (by omega);obtain⟨x1,x2,x3,x4,x5,x6,x7,x8,x9,x0⟩:=x;obtain rfl:x6=3:=hx3;obtain rfl:x8=tn:=hfin;obtain rfl:x9= -1:=h8;rfl
     rw[e3];exact jO hq
    have hfi:=fun(W:World) (hW:CW W c t d p vr gr a m {au (kP M (kk+q))with f:=f0})=>wI hW Zw.out x.id 6 tn;rw[show({au (kP M (kk+q))with f:=f0}:Pg).J=(kP M (kk+q)).L from rfl,hset.out]at hfi;have hgi:=fun(W:World) (v1:Value) (g1:Nat) (hW:CW W c t d p v1 g1 a m {({au (kP M (kk+q))with f:=f0}:Pg)with J:=(kP M (kk+q+1)).L})=>FZ hW (by
     have h9:=XW.out;exact⟨h9.now,h9.few,h9.st,h9.lim,Zx.out,h9.f⟩) x.bY.toNat (by omega)
    rw[show((x.bY.toNat:Nat):Int)=x.bY by omega]at hgi;have hge:Hid (∀{n1 x1:Int} {T':List Int},DJ (dM (kP M (kk+q))) x.bY.toNat n1 x1 T'→T'=dM (kP M (kk+q+1))):=fun{n1 x1 T'} hG=>by
     have h8:=F3 (M:=kP M (kk+q)) Uo.out (i:=kk+q) (y:=aV M.now (M.L.getD (kk+q) default)) (by rw[zD];exact hq) (by rw[AJ.out];exact hx3) (by rw[a2.out,Ec ql];show(6:Int)≠3;decide) (n:=n1) (x:=x1) (T':=T') (by rw[AJ.out];exact hG);rw[h8.2.2];have e4:({kP M (kk+q)with L:=(kP M (kk+q)).L.set (kk+q) (aV M.now (M.L.getD (kk+q) default))}:Md)=kP M (kk+q+1):=by unfold kP;rw[jO hq]
     rw[e4]
    replace hfin:=qae hfin;go_wp2_with fail;refine Reg2.ro w1 7 37 [.p 0,.p 1,.p 3,.m 7,.p 0,.m 16,.p 0] [.pointer (some ⟨t,0,none⟩),.int .i64 x.id] (by kernel_rfl) (by kernel_rfl) rfl rfl ⟨rfl,rfl,rfl,qaf _,fun _ _=>rfl⟩ ?_;dsimp only[Reg2.fF]
    repeat((first
     |(refine' Reg2.ak _ (by rfl) (fun wz=>?_) ?_;rotate_left;(go_simp;first|rfl|rw[qai (by omega)]))
     |(refine Reg2.az (by rfl) (fun wz hI hF=>?_) (fun _=>?_)
       ·unfold Reg2.One;have c0:=(qC.out.kept hI).c0;have q0:wz.cell? ⟨wr.heap.size,0,none⟩=some (.int .i64 x.id):=by simp[World.cell?,(hI.block _ (ai hz1.out)).trans hz1.out,e0]
        go_wp2_with fail
        first|exact⟨_,rfl,rfl,qad⟩|exact⟨_,rfl,⟨(),rfl,trivial⟩,qad⟩));simp only[Act.put,xA,xB,xC,xD,xE,id])
    refine Reg2.aD ?_;intro w4 HI4 _ gB;clear gB;dsimp only[List.drop];have qc:=qC.out.kept HI4;have Zy:=hfi w4 qc;have BZ:w4.heap[wr.heap.size]? =some (.cells cI.toArray 55 (0,0)):=(HI4.block _ (ai hz1.out)).trans hz1.out;go_wp2_with fail;go_at_call 135;refine Zy.mono ?_;clear Zy;rintro e w5 ⟨rfl,v5,g5,iI,hS5⟩;have vC:Hid (w5.heap[wr.heap.size]? =some (.cells cI.toArray 55 (0,0))):=(hS5.heap (ai BZ) hft).trans BZ;replace iI:=qae iI;go_wp2_with fail;refine Reg2.ro w5 6 37 [.p 0,.p 1,.p 3,.m 7,.p 0,.m 16] [.pointer (some ⟨d,0,none⟩),.int .u64 x.bY] (by kernel_rfl) (by kernel_rfl) rfl rfl ⟨rfl,rfl,rfl,qaf _,fun _ _=>rfl⟩ ?_;dsimp only[Reg2.fF]
    repeat((first
     |(refine' Reg2.ak _ (by rfl) (fun wz=>?_) ?_;rotate_left;(go_simp;first|rfl|rw[qai (by omega)]))
     |(refine Reg2.az (by rfl) (fun wz hI hF=>?_) (fun _=>?_)
       ·unfold Reg2.One;have c0:=(iI.out.kept hI).c1;have q0:wz.cell? ⟨wr.heap.size,9,none⟩=some (.int .u64 x.bY):=by simp[World.cell?,(hI.block _ (ai vC.out)).trans vC.out,e9]
        go_wp2_with fail
        first|exact⟨_,rfl,rfl,qad⟩|exact⟨_,rfl,⟨(),rfl,trivial⟩,qad⟩));simp only[Act.put,xA,xB,xC,xD,xE,id])
    refine Reg2.aD ?_;intro w6 Ay _ gB;clear gB;dsimp only[List.drop];have Ea:=iI.out.kept Ay;have Zz:=hgi w6 v5 g5 Ea;go_wp2_with fail;go_at_call 137;refine Zz.mono ?_;clear Zz;rintro e w7 ⟨n1,x1,T',hG,_,rfl,v7,g7,Ca,iQ⟩;obtain rfl:=hge.out hG;have iA:=(hS1.trans (CS.of_below HI4)).trans (hS5.trans ((CS.of_below Ay).trans iQ));go_wp2_with fail;go_roundw
    case rel=>exact⟨i+1,kk+q+1,v7,g7,by omega,by go_num,Ca,iA,qae ⟨by omega,IJ.out⟩⟩
    case measure=>simp[intOf];omega
   ·have d1:(x.fin == tn)=false:=by simp[hfin]
    have hsame:kP M (kk+q)=kP M (kk+q+1):=by
     unfold kP;rw[mZ hq (yF fun hh=>hfin (by rw[←a2.out];exact hh.2.trans htn.out.symm))]
    have KW:=qC.out;rw[hsame]at KW;go_wp2_with fail;go_roundw
    case rel=>exact⟨i+1,kk+q+1,vr,gr,by omega,by go_num,KW,hS1,qae ⟨by omega,IJ.out⟩⟩
    case measure=>simp[intOf];omega
  ·have e:i=n:=by omega
   subst e;obtain⟨hkk,hfil⟩:=hpos.out;have hend:l.drop i=[]:=List.drop_eq_nil_of_le (by have:=hn.out;omega);rw[hend]at hfil;have hall:kP M kk={M with L:=M.L.map (aV M.now)}:=by
    rw[←Uj];unfold kP;rw[BC (k':=M.L.length) hkk (qaf _) fun mm b1 b2=>yF fun hh=>by
     have:=filter_none hfil (mm-kk) (by rw[List.length_drop];omega);rw[getD_drop,show kk+(mm-kk)=mm by omega]at this;exact absurd this (by show¬(decide ((M.L.getD mm default).state∈ [(3:Int)])=false);rw[show(M.L.getD mm default).state=3 from hh.1];decide)]
   rw[hall]at II;have hfin:=(CS.of_below hbw0:CS w w0 c t d p v g v g).trans hSr;go_wp2_with fail;go_end0;have e9:=htn.out;clear htn;subst e9;exact⟨rfl,vr,gr,II,hfin⟩
end
theorem QJ {w:World}{base base':Nat}{e:TypeId}{sz n:Nat}{v:Value}{xs:List Value}(h:w.ownsRow base e sz v n xs)(hb:base'≤base):w.ownsRow base' e sz v n xs:=by
 obtain⟨h0,h1⟩:=h;refine⟨h0,?_⟩;rcases h1 with h1|⟨g,cap,cur,e0,h2,h3,h4⟩
 ·exact .inl h1
 ·exact .inr ⟨g,cap,cur,e0,by omega,h3,h4⟩
theorem QK (v:Value)(l:List Jb)(w:World)(hr:aL ag 10 w v l)(hl:l.length≤1000):Calls prog 169 #[v] w fun e w'=>∃(v':Value) (r:List Jb),e=.returned v'∧w'.ownsRow w.heap.size 55 10 v' r.length (r.flatMap ag)∧r.length=l.length∧r.Perm l∧r.Pairwise (fun x y=>bA y x=false)∧Below w.heap.size w w':=by
 have hc:=FM hr (by omega);have hso:=fun(v:Value) (w1:World) (h:w1.ownsRow w.heap.size 55 10 v l.length (l.flatMap ag)) (hb:w.heap.size≤w1.heap.size)=>PX v l w1 h (by omega) hb;clear hr;replace hso:=qae hso;go_enter func169,ntmps169;go_wp2_with fail;go_at_call 108;refine hc.mono ?_;clear hc;rintro e w1 ⟨v1,rfl,ho,hb⟩;have hs:=hso.out v1 w1 ho hb.size;clear hso ho;go_wp2_with fail;go_at_call 203;refine hs.mono ?_;clear hs;rintro e w2 ⟨rfl,r,⟨h1,_,h2,h5⟩,h3,h4⟩;have hfin:Hid (∃(v':Value) (r:List Jb),Ending.returned v1=.returned v'∧w2.ownsRow w.heap.size 55 10 v' r.length (r.flatMap ag)∧r.length=l.length∧r.Perm l∧r.Pairwise (fun x y=>bA y x=false)∧Below w.heap.size w w2):=
  ⟨v1,r,rfl,h3,h1,h2,h5,hb.trans h4⟩
 clear h1 h2 h3 h4 h5 hb;go_wp2_with fail;go_ret;exact hfin.out
section
variable {w w' : World} {p : Nat} {v : Value} {L : List Jb}
theorem IK (h:TV w p v L)(hL:L.length≤1000):Calls prog 105 #[.pointer (some ⟨p,0,none⟩)] w fun e w'=>∃(v':Value) (r:List Jb),e=.returned v'∧w'.ownsRow w.heap.size 55 10 v' r.length (r.flatMap ag)∧r.Perm (L.filter fun j=>decide (j.state=1))∧r.Pairwise (fun x y=>bA y x=false)∧Below w.heap.size w w':=by
 have hb1:=(Below.refl w.heap.size w).alloc (qaf _) (.cells #[.int .i64 1] 3);have hr:aL enc1 1 (w.alloc (.cells #[.int .i64 1] 3)) (.slice (some ⟨w.heap.size,0,none⟩) 1 1) [1]:=iD w w.heap.size [1] rfl (by decide);have hI:=yz (h.kept hb1) hL hr;have ef:(L.filter fun j=>decide (j.state∈([1]:List Int)))=L.filter fun j=>decide (j.state=1):=by
  congr 1
  funext j
  simp
 rw[ef]at hI;have hF:(L.filter fun j=>decide (j.state=1)).length≤1000:=Nat.le_trans (List.length_filter_le _ _) hL;clear ef h hr;generalize (L.filter fun j=>decide (j.state=1))=F at*;replace hb1:=qae hb1;go_enter func105,ntmps105;go_wp2_with fail;go_at_call 24;refine hI.mono ?_;clear hI;rintro e w2 ⟨v2,rfl,ho,hb⟩;have hs:=QK v2 F w2 (aL.iB ho aA rfl rfl) hF;have hb2:=hb1.out.trans (hb.mono hb1.out.size);replace hb2:=qae hb2;clear ho hb hb1;go_wp2_with fail;go_at_call 169;refine hs.mono ?_;clear hs;rintro e w3 ⟨v3,r,rfl,h1,_,h2,h3,h4⟩;have hfin:Hid (∃(v':Value) (r:List Jb),Ending.returned v3=.returned v'∧w3.ownsRow w.heap.size 55 10 v' r.length (r.flatMap ag)∧r.Perm F∧r.Pairwise (fun x y=>bA y x=false)∧Below w.heap.size w w3):=⟨v3,r,rfl,QJ h1 hb2.out.size,h2,h3,hb2.out.trans (h4.mono hb2.out.size)⟩;clear h1 h2 h3 h4 hb2;go_wp2_with fail;go_ret;exact hfin.out
end
section
variable {w : World} {c t d p g a : Nat} {v : Value} {m : Int} {M : Md}
theorem KY (hrun:∀j∈M.L,j.st=3→M.now<j.fin):aU M M.now M.dr.length=(((List.range M.dr.length).countP fun n:Nat=>decide (aK M n=1):Nat):Int):=by
 unfold aU;congr 1;refine List.countP_congr fun n hn=>?_;have hn:=List.mem_range.1 hn;have hs:=lU (M:=M) hn;unfold bW;rcases gT M.L n with g|⟨q,g,hq,g2⟩
 ·rw[decide_eq_true_iff,hs];simp[g]
 ·have hr:(M.L.getD q default).st=3:=by unfold aN at g2;simp at g2;exact g2.1
  have:=hrun _ (bN hq) hr;rw[decide_eq_true_iff,hs,g,Int.toNat_natCast];have e1:¬((q:Int)<0):=by omega
  have e2:decide ((M.L.getD q default).fin≤M.now)=false:=qah (by omega);rw[e2,qah e1,Bool.or_false,Bool.and_false];exact⟨fun e=>(nomatch e),fun e=>absurd e.1 e1⟩
theorem QL (hI:aS M)(hrun:∀j∈M.L,j.st=3→M.now<j.fin){f:Nat}(hf:f<M.L.length)(hd:dR M.now (M.L.getD f default)=true):(M.L.getD f default).wid≤((List.range M.dr.length).countP fun n:Nat=>decide (aK M n=1):Nat):=by
 have hm:=bN hf;have bo:=hI.one _ hm;unfold dR at hd;rw[Bool.and_eq_true,decide_eq_true_iff,bQ]at hd;have hpl:ay (M.L.getD f default)=true:=bQ.2 hd.1;have hid:=hI.ids f hf;have hc:=fun t=>oK (t:=t) (but:=0) hpl (by rw[hid];omega);have h0:=hI.free M.now (Int.le_refl _);have hge:=yj (L:=M.L) (fun j hj=>(hI.mb.wid j hj).1) M.now 0 hm;rw[hc,qaj (by omega)]at hge;rw[←KY hrun];unfold aF at h0;omega
theorem KZ (hI:aS M){f:Nat}(hf:f<M.L.length)(hs:(M.L.getD f default).st≠3)(hidle:(M.L.getD f default).wid≤((List.range M.dr.length).countP fun n:Nat=>decide (aK M n=1):Nat)):tq (dM M) (M.L.getD f default).wid (jF M (M.L.getD f default).wid) 0 (dM (bG M f)):=by
 have hw:=(hI.one _ (bN hf)).1;have hc:(M.L.getD f default).wid≤bq (jy (dM M)) (dM M).length:=by
  rw[uO,bP];have e:jy (dM M)=fun n:Nat=>decide (aK M n=1):=funext xq;rw[e];exact hidle
 have hT:tq (dM M) (M.L.getD f default).wid (bz (jC (dM M) (M.L.getD f default).wid)) 0 (gu (dM M) (M.L.getD f default).wid):=⟨fun h=>by omega,fun _ h=>by omega,fun _ _=>⟨rfl,rfl,rfl⟩⟩;obtain⟨e1,_,e3⟩:=Np hf hs hI.mb.nn hw hidle hT;rw[e1,e3]at hT;exact hT
theorem BD (hI:aS M){f:Nat}(hf:f<M.L.length)(hs:(M.L.getD f default).st=1):dJ M.L (iE M.now) (M.L.getD f default).id (fun j:Jb=>decide (j.state=1)) (nR M.now (jF M (M.L.getD f default).wid:Int))=(bG M f).L:=by
 have hid:=hI.ids f hf;have fK:=hI.mb.now;have e2:M.L[f]! =M.L.getD f default:=by rw[getElem!_pos M.L f hf];simp[List.getD,hf]
 have H6:cu M.L (iE M.now) (M.L.getD f default).id (fun j:Jb=>decide (j.state=1))=0:=by
  have e1:iE M.now=0:=by unfold iE;rw[qai (by omega),qai (by omega)]
  unfold cu;rw[hid,e1,qai (by decide),qai (by omega),qai (by omega),show((f:Int)+1-1).toNat=f by omega,e2];exact qaj (qag hs)
 unfold dJ;rw[qaj H6,hid,show((f:Int)+1-1).toNat=f by omega,e2];rfl
theorem QM (f0:Int→Int)(h:CW w c t d p v g a m {au M with f:=f0})(hI:aS M)(hrun:∀j∈M.L,j.st=3→M.now<j.fin)(n0:Nat)(JJ:oC M≤n0)(h1:1≤M.dr.length)(hll:M.L.length≤900)(hf0:∀u,M.now≤u→0≤f0 u∧f0 u≤64):
 Calls prog 267 #[.pointer (some ⟨c,0,none⟩),.int .i64 M.now] w (gy w c t d p v g a m (.tuple #[]) {au (startGo n0 M)with f:=f0}):=by
 have zE:=bC;obtain⟨k,hk⟩:=qaa (10);rw[←hk]at zE;have hk0:¬k=0:=by omega
 replace hk:=qae hk;have hwt:=IK h.fZ (by show M.L.length≤1000;omega);rw[show({au M with f:=f0}:Pg).J=M.L from rfl]at hwt;have c0:=h.c0;have hlt:Hid (∀k,eQ c t d p v g k→k<w.heap.size):=fun k hk=>h.lt hk;have hC:=qae h;obtain⟨tn,htn⟩:=qaa (M.now);obtain⟨F,hF⟩:=qaa (startGo n0 M);rw[←hF];have hg0:Hid (∀{r:List Jb},r.Perm (M.L.filter fun j=>decide (j.state=1))→r.Pairwise (fun x y=>bA y x=false)→Going M F r):=fun{r} hp hs=>by
  have hin:∀x∈r,x∈M.L:=fun x hx=>(List.mem_filter.1 (hp.mem_iff.1 hx)).1;refine⟨hI,hrun,⟨n0,hF.symm,JJ⟩,fun x hx=>?_,fun q hq hd=>?_,hs,?_,fun x hx=>by have:=(List.mem_filter.1 (hp.mem_iff.1 hx)).2;exact of_decide_eq_true this⟩
  ·obtain⟨q,hq,e⟩:=List.getElem_of_mem (hin x hx);have e2:M.L.getD q default=x:=by simp[List.getD,hq,e]
   have:=hI.ids q hq;rw[e2]at this;refine⟨by omega,by omega,?_⟩;rw[show(x.id-1).toNat=q by omega];exact e2
  ·refine hp.mem_iff.2 (List.mem_filter.2 ⟨bN hq,?_⟩);unfold dR at hd;rw[Bool.and_eq_true]at hd;exact qag (bQ.1 hd.1).1
  ·refine(hp.pairwise_iff (fun{x y} hxy=>Ne.symm hxy)).2 (List.Pairwise.filter _ ?_);refine List.pairwise_iff_getElem.2 fun i q hi hq hlt2 e=>?_;have e1:=hI.ids i hi;have e2:=hI.ids q hq;rw[show M.L.getD i default=M.L[i]by simp[List.getD,hi]]at e1;rw[show M.L.getD q default=M.L[q]by simp[List.getD,hq]]at e2;omega
 have hM:Hid (∃N:Md,N=M):=⟨M,rfl⟩;have hdl:Hid (1≤M.dr.length∧M.dr.length≤64):=⟨h1,hI.mb.nn⟩;have hlen:(M.L.filter fun j:Jb=>decide (j.state=1)).length≤900:=Nat.le_trans (List.length_filter_le _ _) hll;rw[←htn]at hf0⊢;have htb:=hI.mb.now;rw[←htn]at htb;clear h hrun JJ;replace hF:=qae hF;replace htn:=qae htn;go_enter func267,ntmps267;go_wp2_with fail;go_at_call 105;refine hwt.mono ?_;clear hwt c0;rintro e w0 ⟨u,l,rfl,ho,hp,hs,hb0⟩;have hG0:=hg0.out hp hs;have hC0:=hC.out.kept hb0;have hn1:l.length≤900:=by rw[hp.length_eq];exact hlen
 clear hp hs hlen hg0;have hsh:Hid (∀{ao:Option Addr} {n cap:Nat},u=.slice ao n cap→0<l.length→∃g0,ao=some ⟨g0,0,none⟩∧w.heap.size≤g0):=fun{ao n cap} e hp=>by
  obtain⟨I5,cap',e0,hp'⟩:=iX ho;obtain⟨g0,e4⟩:=hp' hp;subst e4;rw[e]at e0;injection e0 with e0 _ _;exact⟨g0,e0,(ho.lt g0 (by rw[e,e0];rfl)).1⟩
 have hr:=aL.iB ho aA rfl rfl;obtain⟨ao,cap,rfl,q1,q2,q3⟩:=hr;obtain⟨n,hn⟩:=qab (l.length);rw[hn]at q1 q3 hn1 ho⊢;have HQ:Hid (0<n→∃b,ao=some ⟨b,0,none⟩∧pU w0 b 0 l∧w.heap.size≤b):=fun hp=>by
  obtain⟨b,off,e1,e2,e3⟩:=q3 hp;obtain⟨g0,e4,e5⟩:=hsh.out rfl (by have:=hn;omega);rw[e4]at e1;injection e1 with e1;injection e1 with e6 e7;subst e6;subst e7;exact⟨g0,e4,⟨e2,e3⟩,e5⟩
 have BO:cap≤9223372036854775807:=by unfold maxLen at q2;omega
 replace hn:=qae hn;clear q2 q3 ho;go_wp2_with fail;go_loopw [12] (fun ii wr=>∃(i:Nat) (N:Md) (vr:Value) (gr:Nat),i≤n∧ii=.int .i64 i∧CW wr c t d p vr gr a m {au N with f:=f0}∧CS w0 wr c t d p v g vr gr∧Hid (Going N F (l.drop i)∧N.now=tn∧N.dr.length=M.dr.length∧N.L.length=M.L.length)) (fun ii _=>n-(intOf ii).toNat)
 case atStart=>exact⟨0,M,v,g,Nat.zero_le _,rfl,hC0,CS.refl _,qae ⟨by rw[List.drop_zero];exact hG0,htn.out.symm,rfl,rfl⟩⟩
 case round=>
  obtain⟨i,N,vr,gr,hin,rfl,II,hSr,hgo⟩:=hrel;by_cases hlt2:i<n
  ·have b2:(i:Int)<(n:Int):=by omega
   have wi:IntKind.i64.wrap ((i:Int)+1)=(i:Int)+1:=by rw[IntKind.wrap_i64];omega
   obtain⟨gb,rfl,hJ,hgb⟩:=HQ.out (by omega);have hgf:¬eQ c t d p v g gb:=fun hf=>absurd (hlt.out gb hf) (by omega);have vB:=hJ.off hSr hgf;have fw:i<l.length:=by have:=hn.out;omega
   have LI:=vB.load hk.out fw;obtain⟨x,hx⟩:=qaa (l[i]!);rw[←hx,Nat.zero_add]at LI;replace hx:=qae hx;have hdrop:l.drop i=x::l.drop (i+1):=by rw[hx.out,getElem!_pos l i fw];exact List.drop_eq_getElem_cons fw
   obtain⟨wL,fK,hdr,VW⟩:=hgo.out;rw[hdrop]at wL;replace wL:=qae wL;clear hgo;have lI:=aA x;rw[←hk.out]at lI;have e8:(ag x)[8]? =some (.int .i64 x.aW):=rfl;have st:=boxed wr x;obtain⟨w1,hw1⟩:=qaa (wr.alloc (.cells (ag x).toArray 55));have hb1:Below wr.heap.size wr w1:=by rw[hw1];exact qac.alloc (qaf _) _
   have hz1:w1.heap[wr.heap.size]? =some (.cells (ag x).toArray 55 (0,0)):=by rw[hw1];exact heap_alloc_new wr _
   have c8:w1.cell? ⟨wr.heap.size,8,none⟩=some (.int .i64 x.aW):=by simp[World.cell?,hz1,e8]
   have ld1:=gX hz1 lI;replace hz1:=qae hz1;have qC:=II.kept hb1;have hS1:=hSr.trans (CS.of_below hb1);rw[←hw1]at st;replace hw1:=qae hw1;by_cases hpl:x.aW=tn
   ·have d1:(x.aW == tn)=true:=by simp[hpl]
    have WI:=wL.out.pend x (List.mem_cons_self ..);have hxd:dR N.now x=true:=by
     unfold dR;rw[bQ.2 ⟨WI,by omega⟩,fK,qag hpl];rfl
    obtain⟨a1,a2,a3⟩:=wL.out.next hxd;obtain⟨f,hf⟩:=qaa ((x.id-1).toNat);rw[←hf]at a1 a2 a3;have QN:=wL.out.inv;have ZA:=wL.out.run;have Um:=KZ QN a1 (by rw[a2];omega) (QL QN ZA a1 (by rw[a2];exact hxd));have hbs:=BD QN a1 (by rw[a2];exact WI);rw[a2]at Um hbs;have hla:=launch_fn qC (Uk QN (by rw[hdr];exact h1) (by rw[VW];exact hll) (by rw[fK];exact hf0)) x (by have:=QN.mb.wid x (by rw[←a2];exact bN a1);omega) Um;rw[show({au N with f:=f0}:Pg).J=N.L from rfl,show({au N with f:=f0}:Pg).now=N.now from rfl,hbs]at hla;have Uq:(bG N f).L.length=M.L.length:=by unfold bG;rw[List.length_set];exact VW
    have Ur:=qae (show Going (bG N f) F (l.drop (i+1))∧(bG N f).now=tn∧(bG N f).dr.length=M.dr.length∧(bG N f).L.length=M.L.length from⟨a3,fK,hdr,Uq⟩);replace hpl:=qae hpl;replace hf:=qae hf;clear a1 a2 a3 Um hbs QN ZA hxd Uq;generalize ag x=cI at*;go_wp2_with fail;go_at_call 268;refine hla.mono ?_;clear hla;rintro e w5 ⟨rfl,v5,g5,iI,hS5⟩;have iA:=hS1.trans hS5;go_wp2_with fail;go_roundw
    case rel=>exact⟨i+1,bG N f,v5,g5,by omega,by go_num,(show CW _ _ _ _ _ _ _ _ _ {au (bG N f)with f:=f0}from iI),iA,Ur⟩
    case measure=>simp[intOf];omega
   ·have d1:(x.aW == tn)=false:=by simp[hpl]
    have Ur:=qae (show Going N F (l.drop (i+1))∧N.now=tn∧N.dr.length=M.dr.length∧N.L.length=M.L.length from⟨wL.out.skip (by unfold dR;rw[fK,qah hpl,Bool.and_false]),fK,hdr,VW⟩);generalize ag x=cI at*;go_wp2_with fail;go_roundw
    case rel=>exact⟨i+1,N,vr,gr,by omega,by go_num,qC,hS1,Ur⟩
    case measure=>simp[intOf];omega
  ·have e:i=n:=by omega
   subst e;obtain⟨wL,fK,hdr,VW⟩:=hgo.out;have hend:l.drop i=[]:=List.drop_eq_nil_of_le (by have:=hn.out;omega);rw[hend]at wL;have XX:=wL.last;have hfin:=(CS.of_below hb0:CS w w0 c t d p v g v g).trans hSr;rw[←XX]at II;replace XX:=qae XX;go_wp2_with fail;go_end0;have e9:=htn.out;clear htn;exact⟨rfl,vr,gr,II,hfin⟩
end
def NA (now:Int)(j:Jb):List Int:=[j.fin,j.aW].filter fun t=>decide (now<t)
def uU (now:Int)(l:List Jb):List Int:=l.flatMap (NA now)
theorem Us (now:Int)(j:Jb):(NA now j).length≤2:=Nat.le_trans (List.length_filter_le _ _) (by simp)
theorem Ut (now:Int)(l:List Jb):(uU now l).length≤2*l.length:=by
 unfold uU
 induction l with
 |nil=>simp
 |cons a l ih=>rw[List.flatMap_cons,List.length_append,List.length_cons];have:=Us now a;omega
theorem Uu :(prog.info? 2).map (fun i=>(i.zero,i.size,i.bytes))=some (some (.int .i64 0),1,8):=by kernel_rfl
theorem QO (now:Int){l:List Jb}{i:Nat}(hi:i<l.length):uU now (l.take (i+1))=uU now (l.take i)++NA now l[i]! :=by
 unfold uU;rw[List.take_succ_eq_append_getElem hi,List.flatMap_append,getElem!_pos l i hi];simp
theorem Ed (a b:List Int):nV (a++b)=nV a++nV b:=by simp[nV]
theorem Uv (l:List Int):nV l=l.flatMap fun x:Int=>[Value.int .i64 x]:=by
 induction l with
 |nil=>rfl
 |cons a l ih=>rw[List.flatMap_cons,←ih];rfl
theorem QP {w:World}{base:Nat}{v:Value}{n:Nat}{l:List Int}{e:TypeId}(h:w.ownsRow base e 1 v n (nV l))(hn:n=l.length)(hf:∀z∈l,-9223372036854775808≤z∧z≤9223372036854775807):sK w v l:=by
 subst hn;refine⟨?_,hf⟩;obtain⟨ao,cap,rfl,hg⟩:=iX h;have hr:aL (fun x:Int=>[Value.int .i64 x]) 1 w (.slice ao l.length cap) l:=aL.iB h (fun _=>rfl) (Uv l) rfl;obtain⟨I5,cap',e0,q1,q2,q3⟩:=hr;injection e0 with e1 _ e2;subst e1;subst e2;refine⟨ao,cap,rfl,q1,q2,fun hz=>?_⟩;obtain⟨b,off,e3,e4,e5⟩:=q3 (List.length_pos_iff.2 hz);refine⟨b,off,e3,e4,fun i hi=>?_⟩;have:=(e5 i (l.getD i 0) 0 (.int .i64 (l.getD i 0)) (by simp[List.getD,hi]) rfl);simpa using this
section
variable {w : World} {c t d p g a : Nat} {v : Value} {m : Int} {P : Pg}
theorem Gd (h:CW w c t d p v g a m P)(hk:PK P)(hfn:∀j∈P.J,-1≤j.fin∧j.fin≤1099512676352)(hpn:∀j∈P.J,-1≤j.aW∧j.aW≤1099511627776):
 Calls prog 264 #[.pointer (some ⟨c,0,none⟩)] w fun e w'=>e=.returned (.int .i64 (mR (uU P.now (P.J.filter fun j:Jb=>decide (j.state∈ [(1:Int),3])))))∧Below w.heap.size w w':=by
 have zE:=bC;obtain⟨k,hk1⟩:=qaa (10);rw[←hk1]at zE;have hk0:¬k=0:=by omega
 replace hk1:=qae hk1;obtain⟨i0,hi0,hz0,hz1,hz2⟩:=info_parts Uu;obtain⟨wA,aj⟩:=qaa (w.alloc (.cells #[.int .i64 1,.int .i64 3] 3));have aC:Below w.heap.size w wA:=by rw[aj];exact qac.alloc (qaf _) _
 have Nz:aL enc1 1 wA (.slice (some ⟨w.heap.size,0,none⟩) 2 2) [1,3]:=by rw[aj];exact iD w w.heap.size [1,3] rfl (by decide)
 have hin:=yz (h.kept aC).fZ (by have:=hk.few;omega) Nz;have c0:=h.c0;generalize hL1:(P.J.filter fun j:Jb=>decide (j.state∈ [(1:Int),3]))=l at*;have hn1:l.length≤900:=by rw[←hL1];exact Nat.le_trans (List.length_filter_le _ _) hk.few
 have hmem:Hid (∀i,i<l.length→l[i]! ∈P.J):=fun i hi=>by
  have h1:l[i]! ∈l:=by rw[getElem!_pos l i hi];exact List.getElem_mem _
  have h2:l[i]! ∈P.J.filter fun j:Jb=>decide (j.state∈ [(1:Int),3]):=hL1▸h1;exact(List.mem_filter.1 h2).1
 have hfit:Hid (∀z∈uU P.now l,-9223372036854775808≤z∧z≤9223372036854775807):=fun z hz=>by
  unfold uU at hz;obtain⟨j,hj,hz⟩:=List.mem_flatMap.1 hz;rw[←hL1]at hj;have hj:=(List.mem_filter.1 hj).1;have h1:=hfn j hj;have h2:=hpn j hj;have hz:=(List.mem_filter.1 hz).1;simp at hz;rcases hz with rfl|rfl<;>omega
 have hC:=qae (fun(W:World) (hW:Below w.heap.size w W)=>h.kept hW);replace hL1:=qae hL1;rw[aj]at hin;clear h;go_enter func264,ntmps264;go_wp2_with fail;go_at_call 24;refine hin.mono ?_;clear hin c0;rw[←aj];rintro e w0 ⟨u,rfl,ho,hb0⟩;have hbw0:Below w.heap.size w w0:=aC.trans (hb0.mono aC.size);replace aj:=qae aj;have hr:=aL.iB ho aA rfl rfl;obtain⟨ao,cap,rfl,q1,q2,q3⟩:=hr;obtain⟨n,hn⟩:=qab (l.length);rw[hn]at q1 q3 hn1 ho⊢;have HQ:Hid (0<n→∃b off,ao=some ⟨b,off,none⟩∧pU w0 b off l):=fun hp=>by
  obtain⟨b,off,e1,e2,e3⟩:=q3 hp;exact⟨b,off,e1,e2,e3⟩
 have BO:cap≤9223372036854775807:=by unfold maxLen at q2;omega
 replace hn:=qae hn;clear q2 q3 ho hb0;go_wp2_with fail;go_loopw [3,15] (fun tt ii wr=>∃(i:Nat),i≤n∧ii=.int .i64 i∧wr.ownsRow w0.heap.size 2 1 tt (uU P.now (l.take i)).length (nV (uU P.now (l.take i)))∧Below w0.heap.size w0 wr) (fun _ ii _=>n-(intOf ii).toNat)
 case atStart=>exact⟨0,Nat.zero_le _,rfl,World.ownsRow_nil w0 w0.heap.size 2 1,Below.refl _ _⟩
 case round=>
  obtain⟨i,hin,rfl,hown,hbr⟩:=hrel;by_cases hlt2:i<n
  ·have b2:(i:Int)<(n:Int):=by omega
   have wi:IntKind.i64.wrap ((i:Int)+1)=(i:Int)+1:=by rw[IntKind.wrap_i64];omega
   obtain⟨gb,off,rfl,hJ⟩:=HQ.out (by omega);have vB:=hJ.below hbr;have fw:i<l.length:=by have:=hn.out;omega
   have LI:=vB.load hk1.out fw;have hsn:=qae (QO P.now fw);have WX:=Ut P.now (l.take i);rw[List.length_take]at WX;have hxm:=hmem.out i fw;obtain⟨x,hx⟩:=qaa (l[i]!);rw[←hx]at LI hsn hxm;replace hx:=qae hx;obtain⟨T,hT⟩:=qaa (uU P.now (l.take i));rw[←hT]at hsn hown WX;replace hT:=qae hT;have lI:=aA x;rw[←hk1.out]at lI;have e7:(ag x)[7]? =some (.int .i64 x.fin):=rfl;have e8:(ag x)[8]? =some (.int .i64 x.aW):=rfl;have st:=boxed wr x;obtain⟨w1,hw1⟩:=qaa (wr.alloc (.cells (ag x).toArray 55));have hb1:Below w0.heap.size w0 w1:=by rw[hw1];exact hbr.alloc hbr.size _
   have hown1:=hown.alloc (.cells (ag x).toArray 55);rw[←hw1]at hown1;have hz1:w1.heap[wr.heap.size]? =some (.cells (ag x).toArray 55 (0,0)):=by rw[hw1];exact heap_alloc_new wr _
   have c7:w1.cell? ⟨wr.heap.size,7,none⟩=some (.int .i64 x.fin):=by simp[World.cell?,hz1,e7]
   have c8:w1.cell? ⟨wr.heap.size,8,none⟩=some (.int .i64 x.aW):=by simp[World.cell?,hz1,e8]
   clear hz1 hown;rw[←hw1]at st;replace hw1:=qae hw1;have hej:Hid (NA P.now x=[x.fin,x.aW].filter fun t=>decide (P.now<t)):=rfl;generalize x.fin=xf at*;generalize x.aW=xp at*;generalize ag x=cI at*;have aaw:∀W,Sem.run prog (Instr.index 288 (.agg #[.int .i64 xf,.int .i64 xp]) (.int .i64 0)) W=.ok (.int .i64 xf) W:=fun W=>rfl;have aax:∀W,Sem.run prog (Instr.index 288 (.agg #[.int .i64 xf,.int .i64 xp]) (.int .i64 1)) W=.ok (.int .i64 xp) W:=fun W=>rfl;go_wp2_with fail;go_loopw [3,24] (fun tt mm ws=>∃(q:Nat),q≤2∧mm=.int .i64 q∧ws.ownsRow w0.heap.size 2 1 tt (T++([xf,xp].take q).filter fun t=>decide (P.now<t)).length (nV (T++([xf,xp].take q).filter fun t=>decide (P.now<t)))∧Below w0.heap.size w0 ws) (fun _ mm _=>2-(intOf mm).toNat)
   case atStart=>exact⟨0,Nat.zero_le _,rfl,by simpa using hown1,hb1⟩
   case round=>
    obtain⟨q,hq,rfl,hoq,hbq⟩:=hrel;by_cases hq2:q<2
    ·have ZB:=hC.out wr (hbw0.trans (hbq.mono hbw0.size));have c2:=ZB.c2;have fK:=il ZB;obtain⟨X,hX⟩:=qaa (T++([xf,xp].take q).filter fun t=>decide (P.now<t));have YX:X.length≤2000:=by
      rw[hX,List.length_append];have:=List.length_filter_le (fun t=>decide (P.now<t)) ([xf,xp].take q);have h9:([xf,xp].take q).length≤2:=by rw[List.length_take];exact Nat.min_le_right _ _
      omega
     obtain⟨y,hy⟩:=qaa (if q=0 then xf else xp);have htk:Hid ((T++([xf,xp].take (q+1)).filter fun t=>decide (P.now<t))=X++[y].filter fun t=>decide (P.now<t)):=by
      show _=_;rw[hX,hy];rcases(show q=0∨q=1 by omega)with rfl|rfl
      ·rw[qaj rfl,List.append_assoc,←List.filter_append];rfl
      ·rw[qai (by decide),List.append_assoc,←List.filter_append];rfl
     rw[←hX]at hoq;replace hX:=qae hX;have ZC:Hid (y=if q=0 then xf else xp):=hy;rcases(show q=0∨q=1 by omega)with rfl|rfl
     ·clear hy;have hyv:=ZC.out;rw[qaj rfl]at hyv;subst hyv;by_cases hgt:P.now<y
      ·have d1:decide (y>P.now)=true:=qag hgt;have hF:Hid ([y].filter (fun t=>decide (P.now<t))=[y]):=by show _=_;simp[hgt]
       replace hgt:=qae hgt;go_wp2_with (first|(go_at_call 45;go_must (refine fK.mono ?_);rintro e w' ⟨rfl,rfl⟩)|(at_builtin;go_must (refine wpList_append_own _ rfl (.tmp 34) (.tmp 36) 96 rfl w0.heap.size 2 i0 (.int .i64 0) 1 8 underlying96 hi0 hz0 hz1 hz2 rfl (by decide) u3 X.length (nV X) rfl (hoq.alloc _) ⟨wr.heap.size,0,none⟩ 1 1 [.int .i64 y] rfl rfl ?_ ?_ ?_ ?_ ?_ ?_)))
       ·exact qQ (vs:=[.int .i64 y]) rfl
       ·simp[Value.oneCell']
       ·unfold maxLen;omega
       ·omega
       ·have hh:∀o,(wr.alloc o).heap.size=wr.heap.size+1:=fun o=>by simp
        have hsz:=hbq.size
        first|omega|(rw[hh];omega)
       ·intro v' w2 hown3 hgrow _;have hb2:Below w0.heap.size w0 w2:=(hbq.alloc hbq.size _).grown hgrow (by
         have hh:∀o,(wr.alloc o).heap.size=wr.heap.size+1:=fun o=>by simp
         have hsz:=hbq.size
         first|omega|(rw[hh];omega)) (fun z hz=>(hoq.lt z hz).1)
        have hfin:Hid (w2.ownsRow w0.heap.size 2 1 v' (T++([y,xp].take (0+1)).filter fun t=>decide (P.now<t)).length (nV (T++([y,xp].take (0+1)).filter fun t=>decide (P.now<t)))):=by
         show World.ownsRow _ _ _ _ _ _ _;rw[htk.out,hF.out,Ed,List.length_append];exact hown3
        clear hown3 hgrow hoq hbq;go_wp2_with fail;go_roundw
        case rel=>exact⟨1,by omega,by go_num,hfin.out,hb2⟩
        case measure=>simp[intOf]
      ·have d1:decide (y>P.now)=false:=qah hgt;have hF:Hid ([y].filter (fun t=>decide (P.now<t))=[]):=by show _=_;simp[hgt]
       have hfin:Hid (wr.ownsRow w0.heap.size 2 1 u3 (T++([y,xp].take (0+1)).filter fun t=>decide (P.now<t)).length (nV (T++([y,xp].take (0+1)).filter fun t=>decide (P.now<t)))):=by
        show World.ownsRow _ _ _ _ _ _ _;rw[htk.out,hF.out,List.append_nil];exact hoq
       replace hgt:=qae hgt;go_wp2_with (first|(go_at_call 45;go_must (refine fK.mono ?_);rintro e w' ⟨rfl,rfl⟩));go_roundw
       case rel=>exact⟨1,by omega,by go_num,hfin.out,hbq⟩
       case measure=>simp[intOf]
     ·clear hy;have hyv:=ZC.out;rw[qai (by decide)]at hyv;subst hyv;by_cases hgt:P.now<y
      ·have d1:decide (y>P.now)=true:=qag hgt;have hF:Hid ([y].filter (fun t=>decide (P.now<t))=[y]):=by show _=_;simp[hgt]
       replace hgt:=qae hgt;go_wp2_with (first|(go_at_call 45;go_must (refine fK.mono ?_);rintro e w' ⟨rfl,rfl⟩)|(at_builtin;go_must (refine wpList_append_own _ rfl (.tmp 34) (.tmp 36) 96 rfl w0.heap.size 2 i0 (.int .i64 0) 1 8 underlying96 hi0 hz0 hz1 hz2 rfl (by decide) u3 X.length (nV X) rfl (hoq.alloc _) ⟨wr.heap.size,0,none⟩ 1 1 [.int .i64 y] rfl rfl ?_ ?_ ?_ ?_ ?_ ?_)))
       ·exact qQ (vs:=[.int .i64 y]) rfl
       ·simp[Value.oneCell']
       ·unfold maxLen;omega
       ·omega
       ·have hh:∀o,(wr.alloc o).heap.size=wr.heap.size+1:=fun o=>by simp
        have hsz:=hbq.size
        first|omega|(rw[hh];omega)
       ·intro v' w2 hown3 hgrow _;have hb2:Below w0.heap.size w0 w2:=(hbq.alloc hbq.size _).grown hgrow (by
         have hh:∀o,(wr.alloc o).heap.size=wr.heap.size+1:=fun o=>by simp
         have hsz:=hbq.size
         first|omega|(rw[hh];omega)) (fun z hz=>(hoq.lt z hz).1)
        have hfin:Hid (w2.ownsRow w0.heap.size 2 1 v' (T++([xf,y].take (1+1)).filter fun t=>decide (P.now<t)).length (nV (T++([xf,y].take (1+1)).filter fun t=>decide (P.now<t)))):=by
         show World.ownsRow _ _ _ _ _ _ _;rw[htk.out,hF.out,Ed,List.length_append];exact hown3
        clear hown3 hgrow hoq hbq;go_wp2_with fail;go_roundw
        case rel=>exact⟨2,by omega,by go_num,hfin.out,hb2⟩
        case measure=>simp[intOf]
      ·have d1:decide (y>P.now)=false:=qah hgt;have hF:Hid ([y].filter (fun t=>decide (P.now<t))=[]):=by show _=_;simp[hgt]
       have hfin:Hid (wr.ownsRow w0.heap.size 2 1 u3 (T++([xf,y].take (1+1)).filter fun t=>decide (P.now<t)).length (nV (T++([xf,y].take (1+1)).filter fun t=>decide (P.now<t)))):=by
        show World.ownsRow _ _ _ _ _ _ _;rw[htk.out,hF.out,List.append_nil];exact hoq
       replace hgt:=qae hgt;go_wp2_with (first|(go_at_call 45;go_must (refine fK.mono ?_);rintro e w' ⟨rfl,rfl⟩));go_roundw
       case rel=>exact⟨2,by omega,by go_num,hfin.out,hbq⟩
       case measure=>simp[intOf]
    ·obtain rfl:q=2:=by omega
     have hfin:Hid (wr.ownsRow w0.heap.size 2 1 u3 (uU P.now (l.take (i+1))).length (nV (uU P.now (l.take (i+1))))):=by
      show World.ownsRow _ _ _ _ _ _ _;rw[hsn.out,hej.out];exact hoq
     go_wp2_with fail;go_roundw
     case rel=>exact⟨i+1,by omega,by go_num,hfin.out,hbq⟩
     case measure=>simp[intOf];omega
  ·have e:i=n:=by omega
   subst e;have e1:l.take i=l:=List.take_of_length_le (by rw[hn.out];exact qaf _);rw[e1]at hown;have hle:=Nq u3 (uU P.now l) wr (QP hown rfl hfit.out);have hfin:=hbw0.trans (hbr.mono hbw0.size);replace e1:=qae e1;go_wp2_with (go_at_call 277;go_must (refine hle.mono ?_);rintro e w' ⟨rfl,rfl⟩);go_ret;exact⟨rfl,hfin⟩
end
def Gf (n:Int)(j:Jb):Bool:=uY j.bY.toNat n
def mV (L:List Jb)(n:Int):Jb:=match L.findIdx? (fun j=>decide (j.state∈ [(3:Int)])&&Gf n j)with|some i=>L.getD i default|none=>jD
section
variable {w : World} {c t d p g a : Nat} {v : Value} {m : Int} {P : Pg}
theorem K3 (h:CW w c t d p v g a m P)(hll:P.J.length≤900)(hnd:∀j∈P.J,0≤j.bY∧j.bY≤18446744073709551615)(x:Int)(hx: -9223372036854775808≤x∧x≤9223372036854775807):
 Calls prog 26 #[.pointer (some ⟨c,0,none⟩),.int .i64 x] w fun e w'=>e=.returned (.agg (ag (mV P.J x)).toArray)∧Below w.heap.size w w':=by
 have zE:=bC;obtain⟨k,hk⟩:=qaa (10);rw[←hk]at zE;have hk0:¬k=0:=by omega
 replace hk:=qae hk;obtain⟨wA,aj⟩:=qaa (w.alloc (.cells #[.int .i64 0,.int .i64 0,.int .i64 0,.int .i64 0,.int .i64 0,.int .i64 0,.int .i64 0,.int .i64 0,.int .i64 0,.int .u64 0] 55));have aC:Hid (Below w.heap.size w wA):=by show Below _ _ _;rw[aj];exact qac.alloc (qaf _) _
 have hsA:wA.heap.size=w.heap.size+1:=by rw[aj];simp
 have XN:Hid (wA.heap[w.heap.size]? =some (.cells (ag jD).toArray 55 (0,0))):=by show _=_;rw[aj];exact heap_alloc_new w _
 have hA:=h.kept aC.out;have hno:=og hA;obtain⟨wB,cO⟩:=qaa (wA.alloc (.cells #[.int .i64 3] 3));have fT:Below wA.heap.size wA wB:=by rw[cO];exact qac.alloc (qaf _) _
 have hiB:aL enc1 1 wB (.slice (some ⟨w.heap.size+1,0,none⟩) 1 1) [3]:=by rw[←hsA,cO];exact iD wA wA.heap.size [3] rfl (by decide)
 have hin:=yz (hA.kept fT).fZ (by omega) hiB;have c0:=hA.c0;generalize hL1:(P.J.filter fun j:Jb=>decide (j.state∈ [(3:Int)]))=l at*;have hn1:l.length≤900:=by rw[←hL1];exact Nat.le_trans (List.length_filter_le _ _) hll
 have hmem:Hid (∀i,i<l.length→l[i]! ∈P.J):=fun i hi=>by
  have h1:l[i]! ∈l:=by rw[getElem!_pos l i hi];exact List.getElem_mem _
  have h2:l[i]! ∈P.J.filter fun j:Jb=>decide (j.state∈ [(3:Int)]):=hL1▸h1;exact(List.mem_filter.1 h2).1
 replace hL1:=qae hL1;rw[aj]at hno c0;rw[cO,aj]at hin;clear h;go_enter func26,ntmps26;go_wp2_with (first|(go_at_call 71;go_must (refine hno.mono ?_);rintro e w' ⟨rfl,rfl⟩));go_at_call 24;refine hin.mono ?_;clear hin hno c0;rw[←aj,←cO];rintro e w0 ⟨u,rfl,ho,hb0⟩;have hbw0:Hid (Below w.heap.size w w0):=aC.out.trans ((fT.trans (hb0.mono fT.size)).mono aC.out.size);have hx0:w0.heap[w.heap.size]? =some (.cells (ag jD).toArray 55 (0,0)):=(hb0.block _ (by have:=fT.size;omega)).trans ((fT.block _ (by omega)).trans XN.out);have hsz0:w.heap.size<w0.heap.size:=ai hx0;replace aj:=qae aj;replace cO:=qae cO;have hr:=aL.iB ho aA rfl rfl;obtain⟨ao,cap,rfl,q1,q2,q3⟩:=hr;obtain⟨n,hn⟩:=qab (l.length);rw[hn]at q1 q3 hn1⊢;have HQ:Hid (0<n→∃b off,ao=some ⟨b,off,none⟩∧pU w0 b off l):=fun hp=>by
  obtain⟨b,off,e1,e2,e3⟩:=q3 hp;exact⟨b,off,e1,e2,e3⟩
 have BO:cap≤9223372036854775807:=by unfold maxLen at q2;omega
 replace hn:=qae hn;clear q2 q3 ho hb0 fT;go_wp2_with fail;go_loopw [17] (fun ii wr=>∃(i:Nat),i≤n∧ii=.int .i64 i∧Below w0.heap.size w0 wr∧Hid (∀j,j<i→Gf x l[j]! =false)) (fun ii _=>n-(intOf ii).toNat)
 case atStart=>exact⟨0,Nat.zero_le _,rfl,Below.refl _ _,qae fun j hj=>absurd hj (Nat.not_lt_zero _)⟩
 case round=>
  obtain⟨i,hin,rfl,hbr,hno⟩:=hrel;have ui:wr.heap[w.heap.size]? =some (.cells (ag jD).toArray 55 (0,0)):=(hbr.block _ hsz0).trans hx0;have Uw:=hbw0.out.trans (hbr.mono (Nat.le_of_lt hsz0));by_cases hlt2:i<n
  ·have b2:(i:Int)<(n:Int):=by omega
   have wi:IntKind.i64.wrap ((i:Int)+1)=(i:Int)+1:=by rw[IntKind.wrap_i64];omega
   obtain⟨gb,off,rfl,hJ⟩:=HQ.out (by omega);have vB:=hJ.below hbr;have fw:i<l.length:=by have:=hn.out;omega
   have LI:=vB.load hk.out fw;have hxm:=hmem.out i fw;obtain⟨y,hy⟩:=qaa (l[i]!);rw[←hy]at LI hxm;replace hy:=qae hy;have lI:=aA y;have hny:=hnd y hxm;rw[←hk.out]at lI;have st:Sem.run prog (storeCells ⟨wr.heap.size,0,none⟩ (ag y) 0) (wr.alloc (.cells #[.int .i64 0,.int .i64 0,.int .i64 0,.int .i64 0,.int .i64 0,.int .i64 0,.int .i64 0,.int .i64 0,.int .i64 0,.int .u64 0] 55))=.ok () (wr.alloc (.cells (ag y).toArray 55)):=dW wr wr.heap.size (ag y) (ag jD) 55 rfl rfl (dO y);obtain⟨w1,hw1⟩:=qaa (wr.alloc (.cells (ag y).toArray 55));have hb1:Below wr.heap.size wr w1:=by rw[hw1];exact qac.alloc (qaf _) _
   have hz1:w1.heap[wr.heap.size]? =some (.cells (ag y).toArray 55 (0,0)):=by rw[hw1];exact heap_alloc_new wr _
   have hsr:=hbr.size;have hx1:w1.heap[w.heap.size]? =some (.cells (ag jD).toArray 55 (0,0)):=(hb1.block _ (by omega)).trans ui;have ld1:=gX hz1 lI;have c9:w1.cell? ⟨wr.heap.size,9,none⟩=some (.int .u64 y.bY):=by simp[World.cell?,hz1];rfl
   have hhas:=xh y.bY.toNat (by omega) x w1 hx;rw[show((y.bY.toNat:Nat):Int)=y.bY by omega]at hhas;have JS:Sem.run prog (storeCells ⟨w.heap.size,0,none⟩ (ag y) 0) w1=.ok () (w1.setRow w.heap.size (ag y).toArray):=lL hx1;have hx2:=zA hx1 (ag y).toArray;have XO:=qae (show(ag y).toArray.size=10 from rfl);have hb2:Below w.heap.size w (w1.setRow w.heap.size (ag y).toArray):=um (Uw.trans (hb1.mono Uw.size)) (qaf _) _;generalize hcI:ag y=cI at*;replace hcI:=qae hcI;rw[←hw1]at st;replace hw1:=qae hw1;replace hz1:=qae hz1;cases hP:uY y.bY.toNat x with
   |false=>
    rw[hP]at hhas;go_wp2_with (go_at_call 84;go_must (refine hhas.mono ?_);rintro e w' ⟨rfl,rfl⟩);go_roundw
    case rel=>exact⟨i+1,by omega,by go_num,hbr.trans (hb1.mono hbr.size),qae fun j hj=>by
     rcases Nat.lt_succ_iff_lt_or_eq.1 hj with h5|h5
     ·exact hno.out j h5
     ·subst h5;rw[←hy.out];exact hP⟩
    case measure=>simp[intOf];omega
   |true=>
    rw[hP]at hhas;obtain⟨f,hf1,hf2,hf3⟩:=F9 (q:=fun j:Jb=>decide (j.state∈ [(3:Int)])) (p:=Gf x) (L:=P.J) (i:=i) (by rw[hL1.out];exact fw) (fun j hj=>by rw[hL1.out];exact hno.out j hj) (by rw[hL1.out,←hy.out];exact hP);rw[hL1.out,←hy.out]at hf3;have hres:Hid (mV P.J x=y):=by show _=_;unfold mV;rw[hf1];exact hf3
    go_wp2_with (go_at_call 84;go_must (refine hhas.mono ?_);rintro e w' ⟨rfl,rfl⟩);refine aO rfl rfl rfl hx2 underlying55 rfl (by rw[XO.out];kernel_rfl) ⟨?_,hb2⟩;rw[hres.out,hcI.out]
  ·have e:i=n:=by omega
   subst e;have hfi:=KJ (q:=fun j:Jb=>decide (j.state∈ [(3:Int)])) (p:=Gf x) (L:=P.J) (fun j hj=>by rw[hL1.out];exact hno.out j (by rw[←hn.out];rw[hL1.out]at hj;exact hj));have hres:Hid (mV P.J x=jD):=by show _=_;unfold mV;rw[hfi]
   obtain⟨k0,f0,s0⟩:=bV ui 0 (.int .i64 0) rfl;obtain⟨k1,f1,s1⟩:=bV ui 1 (.int .i64 0) rfl;obtain⟨k2,f2,s2⟩:=bV ui 2 (.int .i64 0) rfl;obtain⟨k3,f3,s3⟩:=bV ui 3 (.int .i64 0) rfl;obtain⟨k4,f4,s4⟩:=bV ui 4 (.int .i64 0) rfl;obtain⟨k5,f5,s5⟩:=bV ui 5 (.int .i64 0) rfl;obtain⟨k6,f6,s6⟩:=bV ui 6 (.int .i64 0) rfl;obtain⟨k7,f7,s7⟩:=bV ui 7 (.int .i64 0) rfl;obtain⟨k8,f8,s8⟩:=bV ui 8 (.int .i64 0) rfl;obtain⟨k9,f9,s9⟩:=bV ui 9 (.int .u64 0) rfl;obtain rfl:=hk.out;replace ui:=qae ui;go_wp2_with fail;refine aO rfl rfl rfl ui.out underlying55 rfl (by kernel_rfl) ⟨?_,Uw⟩;rw[hres.out]
end
theorem yG {L:List Jb}{e0 id:Int}{ok:Jb→Bool}{ch:Jb→Jb}(h:cu L e0 id ok≠0):dJ L e0 id ok ch=L:=by unfold dJ;rw[qai h]
section
variable {w : World} {b c t d p g a : Nat} {v : Value} {m : Int} {P : Pg} {R : Wk}
theorem Gg (h:SW w b c t d p v g a m R P)(e1:Int)(he1:e1≠0)(hE:cu P.J 0 R.ah.id (fun j:Jb=>decide (j.state=1))=e1):
 Calls prog 215 #[.pointer (some ⟨b,0,none⟩),.pointer (some ⟨c,0,none⟩)] w (aI w b c t d p v g a m .nilFunc {({R with aM:=cz P.J R.ah.id}:Wk)with rep:=mF e1,ok:=false} P):=by
 have zJ:=bC;obtain⟨k,hk1⟩:=qaa (10);rw[←hk1]at zJ;have hk0:¬k=0:=by omega
 have hS:=qae h;have hcon:=fun(W:World) (v1:Value) (g1:Nat) (R1:Wk) (hW:SW W b c t d p v1 g1 a m R1 P)=>FW hW.cw R.ah.id;obtain⟨L1,hL1⟩:=qaa (dJ P.J 0 R.ah.id (fun j:Jb=>decide (j.state=1)) sW);have hL2:L1=P.J:=hL1.trans (yG (by rw[hE];exact he1));rw[←hL1,hE,hL2,show({P with J:=P.J}:Pg)=P from rfl]at hcon;have d0:(e1 != 0)=true:=by simp[he1]
 replace hL2:=qae hL2;replace he1:=qae he1;replace hE:=qae hE;replace hL1:=qae hL1;have hget:=jh h.drew.cw.fZ R.ah.id;unfold jZ at hget;obtain⟨x,hx⟩:=qaa (cz P.J R.ah.id);rw[←hx]at hget;rw[←hx];replace hx:=qae hx;have lJ:=aA x;rw[←hk1]at lJ;have hj:=fun(W:World) (hW:SW W b c t d p v g a m R P)=>hW.wk.wK x;generalize ag x=cJ at*;have c0:=h.cw.c0;have q1:=h.wk.at 1 (.int .i64 R.ah.id) rfl;obtain⟨W9,mG⟩:∃W9,W9=iF {R with aM:=x}:=⟨_,rfl⟩;rw[←mG]at hj;replace mG:=qae mG;replace hk1:=qae hk1;clear h;go_enter func215,ntmps215;go_wp2_with fail;go_region_with (go_at_call 41;go_must (refine hget.mono ?_);rintro e w' ⟨rfl,hgr⟩;have uV:=hS.out.drew.kept hgr.below;obtain⟨Cc,sO⟩:=hj w' uV)
 all_goals
  have iA:=uV.work sO (dV w' W9.toArray);have hfr:WS w (w'.setRow b W9.toArray) b c t d p v g v g:=((WS.of_below hgr.below:WS w.drew w' b c t d p v g v g).trans (WS.bT (dV w' W9.toArray))).AA;clear Cc sO uV hgr hget c0 q1;generalize w'.setRow b W9.toArray=w9 at*;replace iA:=qae iA;go_wp2_with fail;refine Reg2.ro w9 9 45 [.p 0,.p 1,.p 3,.m 7,.p 0,.p 16,.p 48,.p 112,.m 240] [.pointer (some ⟨t,0,none⟩),.int .i64 R.ah.id] (by kernel_rfl) (by kernel_rfl) rfl rfl ⟨rfl,rfl,rfl,qaf _,fun _ _=>rfl⟩ ?_;dsimp only[Reg2.fF]
  repeat((first
   |(refine' Reg2.ak _ (by rfl) (fun wz=>?_) ?_;rotate_left;(go_simp;first|rfl|rw[qai (by omega)]))
   |(refine Reg2.az (by rfl) (fun wz hI hF=>?_) (fun _=>?_)
     ·unfold Reg2.One;have c0:=(iA.out.cw.kept hI).c0;have q0:=(iA.out.kept hI).wk.at 1 (.int .i64 R.ah.id) rfl;go_wp2_with fail
      first|exact⟨_,rfl,rfl,qad⟩|exact⟨_,rfl,⟨(),rfl,trivial⟩,qad⟩));simp only[Act.put,xA,xB,xC,xD,xE,id])
  refine Reg2.aD ?_;intro w4 HI4 _ gB;clear gB;dsimp only[List.drop];have bZ:=iA.out.kept HI4;have hc4:=hcon w4 _ _ _ bZ;go_wp2_with fail;go_at_call 235;refine hc4.mono ?_;clear hc4;rintro e w5 ⟨rfl,v5,g5,iI,hS5⟩;have fU:=bZ.core iI hS5;have wM:=(hfr.trans (WS.of_below HI4)).trans (WS.dU hS5);have hf:=jL fU.wk e1;go_wp2_with (go_at_call 188;go_must (refine hf.mono ?_);rintro e w8 ⟨rfl,fE,iw⟩);go_ret;exact⟨rfl,v5,g5,fU.work fE iw,wM.trans (WS.bT iw)⟩
theorem Ux (h:SW w b c t d p v g a m R P)(hE:cu P.J 0 R.ah.id (fun j:Jb=>decide (j.state=1))=0):
 Calls prog 215 #[.pointer (some ⟨b,0,none⟩),.pointer (some ⟨c,0,none⟩)] w (aI w b c t d p v g a m (gP 236) {R with aM:=cz P.J R.ah.id,rep:=kD (cz (dJ P.J 0 R.ah.id (fun j:Jb=>decide (j.state=1)) sW) R.ah.id)} {P with J:=dJ P.J 0 R.ah.id (fun j:Jb=>decide (j.state=1)) sW}):=by
 have zJ:=bC;obtain⟨k,hk1⟩:=qaa (10);rw[←hk1]at zJ;have hk0:¬k=0:=by omega
 have hS:=qae h;have hcon:=fun(W:World) (v1:Value) (g1:Nat) (R1:Wk) (hW:SW W b c t d p v1 g1 a m R1 P)=>FW hW.cw R.ah.id;obtain⟨L1,hL1⟩:=qaa (dJ P.J 0 R.ah.id (fun j:Jb=>decide (j.state=1)) sW);rw[←hL1];rw[←hL1,hE]at hcon;replace hE:=qae hE;replace hL1:=qae hL1;have hget:=jh h.drew.cw.fZ R.ah.id;unfold jZ at hget;obtain⟨x,hx⟩:=qaa (cz P.J R.ah.id);rw[←hx]at hget;rw[←hx];replace hx:=qae hx;have lJ:=aA x;rw[←hk1]at lJ;have hj:=fun(W:World) (hW:SW W b c t d p v g a m R P)=>hW.wk.wK x;generalize ag x=cJ at*;have c0:=h.cw.c0;have q1:=h.wk.at 1 (.int .i64 R.ah.id) rfl;obtain⟨W9,mG⟩:∃W9,W9=iF {R with aM:=x}:=⟨_,rfl⟩;rw[←mG]at hj;replace mG:=qae mG;replace hk1:=qae hk1;clear h;go_enter func215,ntmps215;go_wp2_with fail;go_region_with (go_at_call 41;go_must (refine hget.mono ?_);rintro e w' ⟨rfl,hgr⟩;have uV:=hS.out.drew.kept hgr.below;obtain⟨Cc,sO⟩:=hj w' uV)
 all_goals
  have iA:=uV.work sO (dV w' W9.toArray);have hfr:WS w (w'.setRow b W9.toArray) b c t d p v g v g:=((WS.of_below hgr.below:WS w.drew w' b c t d p v g v g).trans (WS.bT (dV w' W9.toArray))).AA;clear Cc sO uV hgr hget c0 q1;generalize w'.setRow b W9.toArray=w9 at*;replace iA:=qae iA;go_wp2_with fail;refine Reg2.ro w9 9 45 [.p 0,.p 1,.p 3,.m 7,.p 0,.p 16,.p 48,.p 112,.m 240] [.pointer (some ⟨t,0,none⟩),.int .i64 R.ah.id] (by kernel_rfl) (by kernel_rfl) rfl rfl ⟨rfl,rfl,rfl,qaf _,fun _ _=>rfl⟩ ?_;dsimp only[Reg2.fF]
  repeat((first
   |(refine' Reg2.ak _ (by rfl) (fun wz=>?_) ?_;rotate_left;(go_simp;first|rfl|rw[qai (by omega)]))
   |(refine Reg2.az (by rfl) (fun wz hI hF=>?_) (fun _=>?_)
     ·unfold Reg2.One;have c0:=(iA.out.cw.kept hI).c0;have q0:=(iA.out.kept hI).wk.at 1 (.int .i64 R.ah.id) rfl;go_wp2_with fail
      first|exact⟨_,rfl,rfl,qad⟩|exact⟨_,rfl,⟨(),rfl,trivial⟩,qad⟩));simp only[Act.put,xA,xB,xC,xD,xE,id])
  refine Reg2.aD ?_;intro w4 HI4 _ gB;clear gB;dsimp only[List.drop];have bZ:=iA.out.kept HI4;have hc4:=hcon w4 _ _ _ bZ;go_wp2_with fail;go_at_call 235;refine hc4.mono ?_;clear hc4;rintro e w5 ⟨rfl,v5,g5,iI,hS5⟩;have fU:=bZ.core iI hS5;have wM:=(hfr.trans (WS.of_below HI4)).trans (WS.dU hS5);have mH:=qP fU R.ah.id;have q1:=fU.wk.at 1 (.int .i64 R.ah.id) rfl;go_wp2_with fail;go_at_call 209;refine mH.mono ?_;clear mH;rintro e w8 ⟨rfl,fE,iw⟩;have iL:=fU.work fE iw;have CG:=wM.trans (WS.bT iw);go_wp2_with fail;go_ret;exact⟨rfl,v5,g5,iL,CG⟩
theorem zF (h:SW w b c t d p v g a m R P)(e1:Int)(he1:e1≠0)(hE:cu P.J 0 R.ah.id (fun j:Jb=>decide (j.state=2))=e1):
 Calls prog 216 #[.pointer (some ⟨b,0,none⟩),.pointer (some ⟨c,0,none⟩)] w (aI w b c t d p v g a m .nilFunc {R with rep:=mF e1,ok:=false} P):=by
 have zJ:=bC;obtain⟨k,hk1⟩:=qaa (10);rw[←hk1]at zJ;have hk0:¬k=0:=by omega
 have hS:=qae h;have hcon:=fun(W:World) (v1:Value) (g1:Nat) (R1:Wk) (hW:SW W b c t d p v1 g1 a m R1 P)=>FX hW.cw R.ah.id;obtain⟨L1,hL1⟩:=qaa (dJ P.J 0 R.ah.id (fun j:Jb=>decide (j.state=2)) rH);have hL2:L1=P.J:=hL1.trans (yG (by rw[hE];exact he1));rw[←hL1,hE,hL2,show({P with J:=P.J}:Pg)=P from rfl]at hcon;have d0:(e1 != 0)=true:=by simp[he1]
 replace hL2:=qae hL2;replace he1:=qae he1;replace hE:=qae hE;replace hL1:=qae hL1;replace hk1:=qae hk1;clear h;go_enter func216,ntmps216;go_wp2_with fail;have iA:=qae hS.out;have hfr:WS w w b c t d p v g v g:=WS.refl _;refine Reg2.ro w 9 32 [.p 0,.p 1,.p 3,.m 7,.p 0,.p 16,.p 48,.p 112,.m 240] [.pointer (some ⟨t,0,none⟩),.int .i64 R.ah.id] (by kernel_rfl) (by kernel_rfl) rfl rfl ⟨rfl,rfl,rfl,qaf _,fun _ _=>rfl⟩ ?_;dsimp only[Reg2.fF]
 repeat((first
  |(refine' Reg2.ak _ (by rfl) (fun wz=>?_) ?_;rotate_left;(go_simp;first|rfl|rw[qai (by omega)]))
  |(refine Reg2.az (by rfl) (fun wz hI hF=>?_) (fun _=>?_)
    ·unfold Reg2.One;have c0:=(iA.out.cw.kept hI).c0;have q0:=(iA.out.kept hI).wk.at 1 (.int .i64 R.ah.id) rfl;go_wp2_with fail
     first|exact⟨_,rfl,rfl,qad⟩|exact⟨_,rfl,⟨(),rfl,trivial⟩,qad⟩));simp only[Act.put,xA,xB,xC,xD,xE,id])
 refine Reg2.aD ?_;intro w4 HI4 _ gB;clear gB;dsimp only[List.drop];have bZ:=iA.out.kept HI4;have hc4:=hcon w4 _ _ _ bZ;go_wp2_with fail;go_at_call 237;refine hc4.mono ?_;clear hc4;rintro e w5 ⟨rfl,v5,g5,iI,hS5⟩;have fU:=bZ.core iI hS5;have wM:=(hfr.trans (WS.of_below HI4)).trans (WS.dU hS5);have hf:=jL fU.wk e1;go_wp2_with (go_at_call 188;go_must (refine hf.mono ?_);rintro e w8 ⟨rfl,fE,iw⟩);go_ret;exact⟨rfl,v5,g5,fU.work fE iw,wM.trans (WS.bT iw)⟩
theorem K4 (h:SW w b c t d p v g a m R P)(hE:cu P.J 0 R.ah.id (fun j:Jb=>decide (j.state=2))=0):
 Calls prog 216 #[.pointer (some ⟨b,0,none⟩),.pointer (some ⟨c,0,none⟩)] w (aI w b c t d p v g a m (gP 233) {R with aM:=cz (dJ P.J 0 R.ah.id (fun j:Jb=>decide (j.state=2)) rH) R.ah.id,rep:=kD (cz (dJ P.J 0 R.ah.id (fun j:Jb=>decide (j.state=2)) rH) R.ah.id)} {P with J:=dJ P.J 0 R.ah.id (fun j:Jb=>decide (j.state=2)) rH}):=by
 have zJ:=bC;obtain⟨k,hk1⟩:=qaa (10);rw[←hk1]at zJ;have hk0:¬k=0:=by omega
 have hS:=qae h;have hcon:=fun(W:World) (v1:Value) (g1:Nat) (R1:Wk) (hW:SW W b c t d p v1 g1 a m R1 P)=>FX hW.cw R.ah.id;obtain⟨L1,hL1⟩:=qaa (dJ P.J 0 R.ah.id (fun j:Jb=>decide (j.state=2)) rH);rw[←hL1];rw[←hL1,hE]at hcon;replace hE:=qae hE;replace hL1:=qae hL1;replace hk1:=qae hk1;clear h;go_enter func216,ntmps216;go_wp2_with fail;have iA:=qae hS.out;have hfr:WS w w b c t d p v g v g:=WS.refl _;refine Reg2.ro w 9 32 [.p 0,.p 1,.p 3,.m 7,.p 0,.p 16,.p 48,.p 112,.m 240] [.pointer (some ⟨t,0,none⟩),.int .i64 R.ah.id] (by kernel_rfl) (by kernel_rfl) rfl rfl ⟨rfl,rfl,rfl,qaf _,fun _ _=>rfl⟩ ?_;dsimp only[Reg2.fF]
 repeat((first
  |(refine' Reg2.ak _ (by rfl) (fun wz=>?_) ?_;rotate_left;(go_simp;first|rfl|rw[qai (by omega)]))
  |(refine Reg2.az (by rfl) (fun wz hI hF=>?_) (fun _=>?_)
    ·unfold Reg2.One;have c0:=(iA.out.cw.kept hI).c0;have q0:=(iA.out.kept hI).wk.at 1 (.int .i64 R.ah.id) rfl;go_wp2_with fail
     first|exact⟨_,rfl,rfl,qad⟩|exact⟨_,rfl,⟨(),rfl,trivial⟩,qad⟩));simp only[Act.put,xA,xB,xC,xD,xE,id])
 refine Reg2.aD ?_;intro w4 HI4 _ gB;clear gB;dsimp only[List.drop];have bZ:=iA.out.kept HI4;have hc4:=hcon w4 _ _ _ bZ;go_wp2_with fail;go_at_call 237;refine hc4.mono ?_;clear hc4;rintro e w5 ⟨rfl,v5,g5,iI,hS5⟩;have fU:=bZ.core iI hS5;have wM:=(hfr.trans (WS.of_below HI4)).trans (WS.dU hS5);have mH:=qP fU R.ah.id;have q1:=fU.wk.at 1 (.int .i64 R.ah.id) rfl;go_wp2_with fail;go_at_call 209;refine mH.mono ?_;clear mH;rintro e w8 ⟨rfl,fE,iw⟩;have iL:=fU.work fE iw;have CG:=wM.trans (WS.bT iw);obtain⟨y,hy⟩:=qaa (cz L1 R.ah.id);rw[show cz ({P with J:=L1}:Pg).J R.ah.id=y from hy.symm]at iL fE⊢;replace hy:=qae hy;obtain⟨Ez,mG⟩:=fE.wK y;have lY:=aA y;rw[←hk1.out]at lY;have Uy:=iL.work mG (dV w8 _);have hfin:=CG.trans (WS.bT (dV w8 (iF {({R with rep:=kD y}:Wk)with aM:=y}).toArray));generalize iF {({R with rep:=kD y}:Wk)with aM:=y}=W9 at*;generalize ag y=cY at*;go_wp2_with fail;go_ret;have ey:=hy.out;clear hy;subst ey;exact⟨rfl,v5,g5,Uy,hfin⟩
theorem BF (h:SW w b c t d p v g a m R P)(hk:PK P)(s:Int)(e1:Int)(he1:e1≠0)(hE:cu P.J (bS s P.now) R.ah.id (gq s)=e1):
 Calls prog 214 #[.pointer (some ⟨b,0,none⟩),.pointer (some ⟨c,0,none⟩),.int .i64 s] w (aI w b c t d p v g a m .nilFunc {({R with aM:=cz P.J R.ah.id}:Wk)with rep:=mF e1,ok:=false} P):=by
 have zJ:=bC;obtain⟨k,hk1⟩:=qaa (10);rw[←hk1]at zJ;have hk0:¬k=0:=by omega
 have hS:=qae h;have hcon:=fun(W:World) (v1:Value) (g1:Nat) (R1:Wk) (hW:SW W b c t d p v1 g1 a m R1 P)=>wI hW.cw hk R.ah.id s P.now;obtain⟨L1,hL1⟩:=qaa (dJ P.J (bS s P.now) R.ah.id (gq s) (df s P.now));have hL2:L1=P.J:=hL1.trans (yG (by rw[hE];exact he1));rw[←hL1,hE,hL2,show({P with J:=P.J}:Pg)=P from rfl]at hcon;have d0:(e1 != 0)=true:=by simp[he1]
 replace hL2:=qae hL2;replace he1:=qae he1;replace hE:=qae hE;replace hL1:=qae hL1;have hget:=jh h.drew.cw.fZ R.ah.id;unfold jZ at hget;obtain⟨x,hx⟩:=qaa (cz P.J R.ah.id);rw[←hx]at hget;rw[←hx];replace hx:=qae hx;have lJ:=aA x;rw[←hk1]at lJ;have hj:=fun(W:World) (hW:SW W b c t d p v g a m R P)=>hW.wk.wK x;generalize ag x=cJ at*;have c0:=h.cw.c0;have q1:=h.wk.at 1 (.int .i64 R.ah.id) rfl;obtain⟨W9,mG⟩:∃W9,W9=iF {R with aM:=x}:=⟨_,rfl⟩;rw[←mG]at hj;replace mG:=qae mG;replace hk1:=qae hk1;clear h;go_enter func214,ntmps214;go_wp2_with fail;go_region_with (go_at_call 41;go_must (refine hget.mono ?_);rintro e w' ⟨rfl,hgr⟩;have uV:=hS.out.drew.kept hgr.below;obtain⟨Cc,sO⟩:=hj w' uV)
 all_goals
  have iA:=uV.work sO (dV w' W9.toArray);have hfr:WS w (w'.setRow b W9.toArray) b c t d p v g v g:=((WS.of_below hgr.below:WS w.drew w' b c t d p v g v g).trans (WS.bT (dV w' W9.toArray))).AA;clear Cc sO uV hgr hget c0 q1;generalize w'.setRow b W9.toArray=w9 at*;replace iA:=qae iA;go_wp2_with fail;refine Reg2.ro w9 15 53 [.p 0,.p 1,.p 3,.m 7,.p 0,.p 16,.p 48,.p 112,.m 240,.p 0,.p 0,.p 1024,.p 3072,.m 7168,.m 15360] [.pointer (some ⟨t,0,none⟩),.int .i64 R.ah.id,.pointer (some ⟨p,0,none⟩),.int .i64 P.now] (by kernel_rfl) (by kernel_rfl) rfl rfl ⟨rfl,rfl,rfl,qaf _,fun _ _=>rfl⟩ ?_;dsimp only[Reg2.fF]
  repeat((first
   |(refine' Reg2.ak _ (by rfl) (fun wz=>?_) ?_;rotate_left;(go_simp;first|rfl|rw[qai (by omega)]))
   |(refine Reg2.az (by rfl) (fun wz hI hF=>?_) (fun _=>?_)
     ·unfold Reg2.One;have c0:=(iA.out.cw.kept hI).c0;have q0:=(iA.out.kept hI).wk.at 1 (.int .i64 R.ah.id) rfl;have O1:=(iA.out.cw.kept hI).c2;go_wp2_with fail
      first|exact⟨_,rfl,rfl,qad⟩|exact⟨_,rfl,⟨(),rfl,trivial⟩,qad⟩));simp only[Act.put,xA,xB,xC,xD,xE,id])
  refine Reg2.pm (fun wz hI hF=>?_) (fun VX=>?_) (by rfl)
  ·go_wp2_with (go_at_call 45;go_must (refine(il (iA.out.kept hI).cw).mono ?_);rintro e w' ⟨rfl,rfl⟩)
   first|exact⟨_,rfl,rfl,qad⟩|exact⟨_,rfl,⟨(),rfl,trivial⟩,qad⟩
  simp only[Act.put,xA,xB,xC,xD,xE,id];refine Reg2.aD ?_;intro w4 HI4 _ gB;clear gB;dsimp only[List.drop];have bZ:=iA.out.kept HI4;have hc4:=hcon w4 _ _ _ bZ;go_wp2_with fail;go_at_call 135;refine hc4.mono ?_;clear hc4;rintro e w5 ⟨rfl,v5,g5,iI,hS5⟩;have fU:=bZ.core iI hS5;have wM:=(hfr.trans (WS.of_below HI4)).trans (WS.dU hS5);have hf:=jL fU.wk e1;go_wp2_with (go_at_call 188;go_must (refine hf.mono ?_);rintro e w8 ⟨rfl,fE,iw⟩);go_ret;exact⟨rfl,v5,g5,fU.work fE iw,wM.trans (WS.bT iw)⟩
theorem NB (h:SW w b c t d p v g a m R P)(hk:PK P)(s:Int)(hE:cu P.J (bS s P.now) R.ah.id (gq s)=0):
 Calls prog 214 #[.pointer (some ⟨b,0,none⟩),.pointer (some ⟨c,0,none⟩),.int .i64 s] w (aI w b c t d p v g a m (gP 234) {R with aM:=cz P.J R.ah.id,rep:=kD (cz (dJ P.J (bS s P.now) R.ah.id (gq s) (df s P.now)) R.ah.id)} {P with J:=dJ P.J (bS s P.now) R.ah.id (gq s) (df s P.now)}):=by
 have zJ:=bC;obtain⟨k,hk1⟩:=qaa (10);rw[←hk1]at zJ;have hk0:¬k=0:=by omega
 have hS:=qae h;have hcon:=fun(W:World) (v1:Value) (g1:Nat) (R1:Wk) (hW:SW W b c t d p v1 g1 a m R1 P)=>wI hW.cw hk R.ah.id s P.now;obtain⟨L1,hL1⟩:=qaa (dJ P.J (bS s P.now) R.ah.id (gq s) (df s P.now));rw[←hL1];rw[←hL1,hE]at hcon;replace hE:=qae hE;replace hL1:=qae hL1;have hget:=jh h.drew.cw.fZ R.ah.id;unfold jZ at hget;obtain⟨x,hx⟩:=qaa (cz P.J R.ah.id);rw[←hx]at hget;rw[←hx];replace hx:=qae hx;have lJ:=aA x;rw[←hk1]at lJ;have hj:=fun(W:World) (hW:SW W b c t d p v g a m R P)=>hW.wk.wK x;generalize ag x=cJ at*;have c0:=h.cw.c0;have q1:=h.wk.at 1 (.int .i64 R.ah.id) rfl;obtain⟨W9,mG⟩:∃W9,W9=iF {R with aM:=x}:=⟨_,rfl⟩;rw[←mG]at hj;replace mG:=qae mG;replace hk1:=qae hk1;clear h;go_enter func214,ntmps214;go_wp2_with fail;go_region_with (go_at_call 41;go_must (refine hget.mono ?_);rintro e w' ⟨rfl,hgr⟩;have uV:=hS.out.drew.kept hgr.below;obtain⟨Cc,sO⟩:=hj w' uV)
 all_goals
  have iA:=uV.work sO (dV w' W9.toArray);have hfr:WS w (w'.setRow b W9.toArray) b c t d p v g v g:=((WS.of_below hgr.below:WS w.drew w' b c t d p v g v g).trans (WS.bT (dV w' W9.toArray))).AA;clear Cc sO uV hgr hget c0 q1;generalize w'.setRow b W9.toArray=w9 at*;replace iA:=qae iA;go_wp2_with fail;refine Reg2.ro w9 15 53 [.p 0,.p 1,.p 3,.m 7,.p 0,.p 16,.p 48,.p 112,.m 240,.p 0,.p 0,.p 1024,.p 3072,.m 7168,.m 15360] [.pointer (some ⟨t,0,none⟩),.int .i64 R.ah.id,.pointer (some ⟨p,0,none⟩),.int .i64 P.now] (by kernel_rfl) (by kernel_rfl) rfl rfl ⟨rfl,rfl,rfl,qaf _,fun _ _=>rfl⟩ ?_;dsimp only[Reg2.fF]
  repeat((first
   |(refine' Reg2.ak _ (by rfl) (fun wz=>?_) ?_;rotate_left;(go_simp;first|rfl|rw[qai (by omega)]))
   |(refine Reg2.az (by rfl) (fun wz hI hF=>?_) (fun _=>?_)
     ·unfold Reg2.One;have c0:=(iA.out.cw.kept hI).c0;have q0:=(iA.out.kept hI).wk.at 1 (.int .i64 R.ah.id) rfl;have O1:=(iA.out.cw.kept hI).c2;go_wp2_with fail
      first|exact⟨_,rfl,rfl,qad⟩|exact⟨_,rfl,⟨(),rfl,trivial⟩,qad⟩));simp only[Act.put,xA,xB,xC,xD,xE,id])
  refine Reg2.pm (fun wz hI hF=>?_) (fun VX=>?_) (by rfl)
  ·go_wp2_with (go_at_call 45;go_must (refine(il (iA.out.kept hI).cw).mono ?_);rintro e w' ⟨rfl,rfl⟩)
   first|exact⟨_,rfl,rfl,qad⟩|exact⟨_,rfl,⟨(),rfl,trivial⟩,qad⟩
  simp only[Act.put,xA,xB,xC,xD,xE,id];refine Reg2.aD ?_;intro w4 HI4 _ gB;clear gB;dsimp only[List.drop];have bZ:=iA.out.kept HI4;have hc4:=hcon w4 _ _ _ bZ;go_wp2_with fail;go_at_call 135;refine hc4.mono ?_;clear hc4;rintro e w5 ⟨rfl,v5,g5,iI,hS5⟩;have fU:=bZ.core iI hS5;have wM:=(hfr.trans (WS.of_below HI4)).trans (WS.dU hS5);have mH:=qP fU R.ah.id;have q1:=fU.wk.at 1 (.int .i64 R.ah.id) rfl;go_wp2_with fail;go_at_call 209;refine mH.mono ?_;clear mH;rintro e w8 ⟨rfl,fE,iw⟩;have iL:=fU.work fE iw;have CG:=wM.trans (WS.bT iw);go_wp2_with fail;go_ret;exact⟨rfl,v5,g5,iL,CG⟩
end
theorem Uz {w:World}{b:Nat}{R:Wk}(h:dm w b R)(v0 v1 v2 v3 v4 v5 v6 v7 v8:Int):∃W,W=(((((((((w).setCell ⟨b,24,none⟩ (.int .i64 v0)).setCell ⟨b,25,none⟩ (.int .i64 v1)).setCell ⟨b,26,none⟩ (.int .i64 v2)).setCell ⟨b,27,none⟩ (.int .i64 v3)).setCell ⟨b,28,none⟩ (.int .i64 v4)).setCell ⟨b,29,none⟩ (.int .i64 v5)).setCell ⟨b,30,none⟩ (.int .i64 v6)).setCell ⟨b,31,none⟩ (.int .i64 v7)).setCell ⟨b,32,none⟩ (.int .i64 v8)∧dm W b {R with rep:=⟨v0,v1,v2,v3,v4,v5,v6,v7,v8⟩}∧aB (fun k=>k=b) w W:=by
 refine⟨_,rfl,?_,?_⟩
 ·have h0:=h.put 24 (.int .i64 v0) (R':={R with rep:={R.rep with err:=v0}}) rfl;have h1:=h0.put 25 (.int .i64 v1) (R':={R with rep:={R.rep with err:=v0,id:=v1}}) rfl;have h2:=h1.put 26 (.int .i64 v2) (R':={R with rep:={R.rep with err:=v0,id:=v1,state:=v2}}) rfl;have h3:=h2.put 27 (.int .i64 v3) (R':={R with rep:={R.rep with err:=v0,id:=v1,state:=v2,start:=v3}}) rfl;have h4:=h3.put 28 (.int .i64 v4) (R':={R with rep:={R.rep with err:=v0,id:=v1,state:=v2,start:=v3,stop:=v4}}) rfl;have h5:=h4.put 29 (.int .i64 v5) (R':={R with rep:={R.rep with err:=v0,id:=v1,state:=v2,start:=v3,stop:=v4,plan:=v5}}) rfl;have h6:=h5.put 30 (.int .i64 v6) (R':={R with rep:={R.rep with err:=v0,id:=v1,state:=v2,start:=v3,stop:=v4,plan:=v5,a:=v6}}) rfl;have h7:=h6.put 31 (.int .i64 v7) (R':={R with rep:={R.rep with err:=v0,id:=v1,state:=v2,start:=v3,stop:=v4,plan:=v5,a:=v6,b:=v7}}) rfl;have h8:=h7.put 32 (.int .i64 v8) (R':={R with rep:={R.rep with err:=v0,id:=v1,state:=v2,start:=v3,stop:=v4,plan:=v5,a:=v6,b:=v7,c:=v8}}) rfl;exact h8
 ·exact iq (iq (iq (iq (iq (iq (iq (iq (dQ _ 24 _) (dQ _ 25 _)) (dQ _ 26 _)) (dQ _ 27 _)) (dQ _ 28 _)) (dQ _ 29 _)) (dQ _ 30 _)) (dQ _ 31 _)) (dQ _ 32 _)
def jr (P:Pg)(n:Int):Int:=if(mV P.J n).st=3 then max (mV P.J n).fin (P.now+1)else P.now
section
variable {w : World} {b c t d p g a : Nat} {v : Value} {m : Int} {P : Pg} {R : Wk}
theorem QQ (h:CW w c t d p v g a m P)(hk:PK P)(j:Jb):Calls prog 80 #[.pointer (some ⟨c,0,none⟩),.agg (ag j).toArray] w fun e w'=>e=.returned (.int .i64 (max j.fin (P.now+1)))∧Below w.heap.size w w':=by
 obtain⟨wA,aj⟩:=qaa (w.alloc (.cells (ag j).toArray 55));have aC:Hid (Below w.heap.size w wA):=by show Below _ _ _;rw[aj];exact qac.alloc (qaf _) _
 have mo:Hid (wA.heap[w.heap.size]? =some (.cells (ag j).toArray 55 (0,0))):=by show _=_;rw[aj];exact heap_alloc_new w _
 have kr:=qae (h.kept aC.out);have e7:(ag j)[7]? =some (.int .i64 j.fin):=rfl;have zE:=bC;obtain⟨k,hk1⟩:=qaa (10);rw[←hk1]at zE;have hk0:¬k=0:=by omega
 replace hk1:=qae hk1;have fK:=hk.now;have wn:IntKind.i64.wrap (P.now+1)=P.now+1:=by rw[IntKind.wrap_i64];omega
 generalize ag j=cJ at*;generalize j.fin=jf at*;clear h;go_enter func80,ntmps80;go_wp2_with fail;rw[←aj];replace aj:=qae aj;refine Reg2.ro wA 8 14 [.p 0,.m 1,.p 0,.p 4,.p 12,.m 28,.m 60,.p 124] [.int .i64 jf,.pointer (some ⟨p,0,none⟩),.int .i64 P.now] (by kernel_rfl) (by kernel_rfl) rfl rfl ⟨rfl,rfl,rfl,qaf _,fun _ _=>rfl⟩ ?_;dsimp only[Reg2.fF]
 repeat((first
  |(refine' Reg2.ak _ (by rfl) (fun wz=>?_) ?_;rotate_left;(go_simp;first|rfl|rw[qai (by omega)]))
  |(refine Reg2.az (by rfl) (fun wz hI hF=>?_) (fun _=>?_)
    ·unfold Reg2.One;have q0:wz.cell? ⟨w.heap.size,7,none⟩=some (.int .i64 jf):=by simp[World.cell?,(hI.block _ (ai mo.out)).trans mo.out,e7]
     have c0:=(kr.out.kept hI).c2;go_wp2_with fail
     first|exact⟨_,rfl,rfl,qad⟩|exact⟨_,rfl,⟨(),rfl,trivial⟩,qad⟩));simp only[Act.put,xA,xB,xC,xD,xE,id])
 refine Reg2.pm (fun wz hI hF=>?_) (fun r6=>?_) (by rfl)
 ·go_wp2_with (go_at_call 45;go_must (refine(il (kr.out.kept hI)).mono ?_);rintro e w' ⟨rfl,rfl⟩)
  first|exact⟨_,rfl,rfl,qad⟩|exact⟨_,rfl,⟨(),rfl,trivial⟩,qad⟩
 simp only[Act.put,xA,xB,xC,xD,xE,id]
 repeat(refine' Reg2.ak _ (by rfl) (fun wz=>?_) ?_;rotate_left;(go_simp;first|rfl|rw[qai (by omega)]);simp only[Act.put,xA,xB,xC,xD,xE,id])
 refine Reg2.aD ?_;intro w7 dC _ gB;clear gB;dsimp only[List.drop];have iH:=aC.out.trans (dC.mono aC.out.size);go_wp2_with fail;go_ret;exact⟨rfl,iH⟩
theorem QR (h:CW w c t d p v g a m P)(hk:PK P)(hnd:∀j∈P.J,0≤j.bY∧j.bY≤18446744073709551615)(n:Int)(hn: -9223372036854775808≤n∧n≤9223372036854775807):Calls prog 262 #[.pointer (some ⟨c,0,none⟩),.int .i64 n] w fun e w'=>e=.returned (.int .i64 (jr P n))∧Below w.heap.size w w':=by
 have hho:=K3 h (hk.few) hnd n hn;unfold jr;generalize mV P.J n=y at*;obtain⟨sv,hsv⟩:=qaa (if y.st=3 then max y.fin (P.now+1)else P.now);rw[←hsv];replace hsv:=qae hsv;have zE:=bC;obtain⟨k,hk1⟩:=qaa (10);rw[←hk1]at zE;have hk0:¬k=0:=by omega
 have lY:=aA y;rw[←hk1]at lY;replace hk1:=qae hk1;have e5:(ag y)[5]? =some (.int .i64 y.st):=rfl;have ST:Hid (∀W:World,Sem.run prog (storeCells ⟨W.heap.size,0,none⟩ (ag y) 0) (W.alloc (.cells #[.int .i64 0,.int .i64 0,.int .i64 0,.int .i64 0,.int .i64 0,.int .i64 0,.int .i64 0,.int .i64 0,.int .i64 0,.int .u64 0] 55))=.ok () (W.alloc (.cells (ag y).toArray 55))):=fun W=>dW W W.heap.size (ag y) (ag jD) 55 rfl rfl (dO y);have hun:=fun(W:World) (hW:CW W c t d p v g a m P)=>QQ hW hk y;have hC:=qae h;generalize ag y=cY at*;clear h;go_enter func262,ntmps262;go_wp2_with fail;go_at_call 26;refine hho.mono ?_;clear hho;rintro e w1 ⟨rfl,hb1⟩;have st1:=ST.out w1;obtain⟨w2,hw2⟩:=qaa (w1.alloc (.cells cY.toArray 55));rw[←hw2]at st1;have hb2:Below w.heap.size w w2:=by rw[hw2];exact hb1.alloc hb1.size _
 have hz2:w2.heap[w1.heap.size]? =some (.cells cY.toArray 55 (0,0)):=by rw[hw2];exact heap_alloc_new w1 _
 have c5:w2.cell? ⟨w1.heap.size,5,none⟩=some (.int .i64 y.st):=by simp[World.cell?,hz2,e5]
 have ld2:=gX hz2 lY;have hC2:=hC.out.kept hb2;have hu2:=hun w2 hC2;have hnw:=il hC2;have c2:=hC2.c2;replace hw2:=qae hw2;replace hz2:=qae hz2;by_cases hs:y.st=3
 ·have d0:(y.st == 3)=true:=by simp[hs]
  replace hs:=qae hs;go_wp2_with fail;go_at_call 80;refine hu2.mono ?_;rintro e w3 ⟨rfl,hb3⟩;go_wp2_with fail;go_ret;exact⟨by rw[hsv.out,qaj hs.out];rfl,hb2.trans (hb3.mono hb2.size)⟩
 ·have d0:(y.st == 3)=false:=by simp[hs]
  go_wp2_with (go_at_call 45;go_must (refine hnw.mono ?_);rintro e w' ⟨rfl,rfl⟩);go_ret;exact⟨by rw[hsv.out,qai hs];rfl,hb2⟩
theorem Gh (h:SW w b c t d p v g a m R P)(e0 by':Int)(he:e0≠0):Calls prog 239 #[.pointer (some ⟨b,0,none⟩),.pointer (some ⟨c,0,none⟩),.int .i64 e0,.int .i64 by'] w (aI w b c t d p v g a m .nilFunc {R with rep:=mF e0,ok:=false} P):=by
 have hf:=jL h.wk e0;have d0:(e0 != 0)=true:=by simp[he]
 go_enter func239,ntmps239;go_wp2_with (go_at_call 188;go_must (refine hf.mono ?_);rintro e w8 ⟨rfl,fE,iw⟩);go_ret;exact⟨rfl,v,g,h.work fE iw,WS.bT iw⟩
theorem NC (h:SW w b c t d p v g a m R P)(hk:PK P)(ha:a≤800)(hm:m≤1000000)(hnd:∀j∈P.J,0≤j.bY∧j.bY≤18446744073709551615)(hn: -9223372036854775808≤R.ah.node∧R.ah.node≤9223372036854775807)(by':Int)(hby: -64≤by'∧by'≤64)(F:Int→Int)
 (hF:∀u,P.now≤u→F u=P.f u+had (max (jr P R.ah.node) P.now) 1152921504606846976 by' u) (hr:∀u,P.now≤u→0≤F u∧F u≤64) (hs:jr P R.ah.node<1152921504606846976):
 Calls prog 239 #[.pointer (some ⟨b,0,none⟩),.pointer (some ⟨c,0,none⟩),.int .i64 0,.int .i64 by'] w (aI w b c t d p v g (a+2) (m+1) .nilFunc {R with rep:=⟨0,R.ah.node,rT P.T R.ah.node,0,0,0,0,0,0⟩} {P with f:=F}):=by
 have hS:=qae h;have q7:=h.wk.at 7 (.int .i64 R.ah.node) rfl;have hsi:=fun(W:World) (hW:CW W c t d p v g a m P)=>QR hW hk hnd R.ah.node hn;generalize hsx:jr P R.ah.node=sx at*;generalize hnx:R.ah.node=nx at*;replace hsx:=qae hsx;replace hnx:=qae hnx;clear h;go_enter func239,ntmps239;go_wp2_with fail;refine Reg2.ro w 8 40 [.p 0,.p 1,.p 3,.m 7,.p 0,.p 0,.m 48,.p 0] [.pointer (some ⟨p,0,none⟩),.int .i64 sx] (by kernel_rfl) (by kernel_rfl) rfl rfl ⟨rfl,rfl,rfl,qaf _,fun _ _=>rfl⟩ ?_;dsimp only[Reg2.fF]
 repeat((first
  |(refine' Reg2.ak _ (by rfl) (fun wz=>?_) ?_;rotate_left;(go_simp;first|rfl|rw[qai (by omega)]))
  |(refine Reg2.az (by rfl) (fun wz hI hF=>?_) (fun _=>?_)
    ·unfold Reg2.One;have c0:=(hS.out.cw.kept hI).c2;go_wp2_with fail
     first|exact⟨_,rfl,rfl,qad⟩|exact⟨_,rfl,⟨(),rfl,trivial⟩,qad⟩));simp only[Act.put,xA,xB,xC,xD,xE,id])
 refine Reg2.pm (fun wz hI hF=>?_) (fun r6=>?_) (by rfl)
 ·go_wp2_with (go_at_call 262;go_must (refine(hsi wz (hS.out.kept hI).cw).mono ?_);rintro e w' ⟨rfl,hb5⟩)
  first|exact⟨_,rfl,⟨(),rfl,trivial⟩,hb5⟩|exact⟨_,rfl,rfl,hb5⟩
 simp only[Act.put,xA,xB,xC,xD,xE,id]
 repeat(refine' Reg2.ak _ (by rfl) (fun wz=>?_) ?_;rotate_left;(go_simp;first|rfl|rw[qai (by omega)]);simp only[Act.put,xA,xB,xC,xD,xE,id])
 refine Reg2.aD ?_;intro w4 HI4 _ gB;clear gB;dsimp only[List.drop];have bZ:=hS.out.kept HI4;have hadd:=O0 bZ.cw hk ha hm sx 1152921504606846976 by' F hs (by omega) hby hF hr;go_wp2_with fail;go_at_call 132;refine hadd.mono ?_;clear hadd;rintro e w5 ⟨rfl,v5,g5,iI,hS5⟩;have ZE:=bZ.core iI hS5;have EX:=(WS.of_below HI4:WS w w4 b c t d p v g v g).trans (WS.dU hS5);have hst:=uK nx hn iI.nodes hk.uN;rw[show({P with f:=F}:Pg).T=P.T from rfl]at hst;have c1:=iI.c1;go_wp2_with fail;go_at_call 48;refine hst.mono ?_;clear hst c1;rintro e w6 ⟨rfl,mm,zw⟩;have hb6:Below w5.heap.size w5 w6:=by rw[zw];exact below_drewN qac _
 have fU:=ZE.kept hb6;have wM:=EX.trans (WS.of_below hb6);obtain⟨w7,hw7,Az,UA⟩:=Uz fU.wk 0 nx (rT P.T nx) 0 0 0 0 0 0;have a24:=fU.wk.at 24 (.int .i64 R.rep.err) rfl;have f24:=fU.wk.free 24;have a25:=fU.wk.at 25 (.int .i64 R.rep.id) rfl;have f25:=fU.wk.free 25;have a26:=fU.wk.at 26 (.int .i64 R.rep.state) rfl;have f26:=fU.wk.free 26;have a27:=fU.wk.at 27 (.int .i64 R.rep.start) rfl;have f27:=fU.wk.free 27;have a28:=fU.wk.at 28 (.int .i64 R.rep.stop) rfl;have f28:=fU.wk.free 28;have a29:=fU.wk.at 29 (.int .i64 R.rep.plan) rfl;have f29:=fU.wk.free 29;have a30:=fU.wk.at 30 (.int .i64 R.rep.a) rfl;have f30:=fU.wk.free 30;have a31:=fU.wk.at 31 (.int .i64 R.rep.b) rfl;have f31:=fU.wk.free 31;have a32:=fU.wk.at 32 (.int .i64 R.rep.c) rfl;have f32:=fU.wk.free 32;have iQ:=fU.work Az UA;have ND:=wM.trans (WS.bT UA);replace zw:=qae zw;go_wp2_with fail;rw[←hw7];go_ret;have en:=hnx.out;subst en;exact⟨rfl,v5,g5,iQ,ND⟩
end
def Early (M:Md):Prop:=∀j∈M.L,j.st≤2→j.fin= -1
theorem foldl_min (l:List Int):∀x:Int,(l.foldl min x=x∨l.foldl min x∈l)∧l.foldl min x≤x∧∀z∈l,l.foldl min x≤z:=by
 induction l with
 |nil=>exact fun x=>⟨.inl rfl,Int.le_refl _,fun z hz=>nomatch hz⟩
 |cons a l ih=>
  intro x;obtain⟨h1,h2,h3⟩:=ih (min x a);refine⟨?_,by show l.foldl min (min x a)≤x;omega,fun z hz=>?_⟩
  ·show l.foldl min (min x a)=x∨l.foldl min (min x a)∈a::l;rcases h1 with h1|h1
   ·rw[h1];rcases Int.le_total x a with h|h
    ·exact .inl (Int.min_eq_left h)
    ·exact .inr (by rw[Int.min_eq_right h];exact List.mem_cons_self ..)
   ·exact .inr (List.mem_cons_of_mem _ h1)
  ·show l.foldl min (min x a)≤z;rcases List.mem_cons.1 hz with rfl|hz
   ·omega
   ·exact h3 z hz
theorem Ee (l:List Int):mR l=1152921504606846976∨mR l∈l:=(foldl_min l _).1
theorem NF {l:List Int}{z:Int}(h:z∈l):mR l≤z:=(foldl_min l _).2.2 z h
section
variable {M : Md}
theorem K5 (hI:aS M)(hE:Early M):mR (uU M.now (M.L.filter fun j:Jb=>decide (j.state∈ [(1:Int),3])))=if bu M<0 then 1152921504606846976 else bu M:=by
 have h0:=hI.mb.now;have hL:=uE (M:=M) h0.1;have key:∀t,t∈uU M.now (M.L.filter fun j:Jb=>decide (j.state∈ [(1:Int),3]))↔(t∈M.L.flatMap zm∧M.now<t):=by
  intro t;unfold uU;simp only[List.mem_flatMap];constructor
  ·rintro⟨j,hj,ht⟩;obtain⟨hjm,hjs⟩:=List.mem_filter.1 hj;unfold NA at ht;obtain⟨ht1,ht2⟩:=List.mem_filter.1 ht;have ht2:M.now<t:=of_decide_eq_true ht2;refine⟨⟨j,hjm,?_⟩,ht2⟩;have hs:j.st=1∨j.st=3:=by
    have:j.state=1∨j.state=3:=by simpa using hjs
    exact this
   have ht3:t=j.fin∨t=j.aW:=by simpa using ht1
   unfold zm;rcases hs with hs|hs
   ·have he:=hE j hjm (by omega);have htp:t=j.aW:=by rcases ht3 with h|h<;>omega
    have hpl:ay j=true:=bQ.2 ⟨hs,by omega⟩;rw[hpl];simp[htp]
   ·have hr:=hI.rest j hjm (by omega);have htp:t=j.fin:=by rcases ht3 with h|h<;>omega
    simp[hs,htp]
  ·rintro⟨⟨j,hjm,ht⟩,ht2⟩;unfold zm at ht;rcases List.mem_append.1 ht with h|h
   ·by_cases hs:j.st=3
    ·rw[qaj hs]at h;refine⟨j,List.mem_filter.2 ⟨hjm,?_⟩,?_⟩
     ·have:j.state=3:=hs;simp[this]
     ·unfold NA;rw[List.mem_singleton.1 h]at ht2⊢;exact List.mem_filter.2 ⟨by simp,qag ht2⟩
    ·rw[qai hs]at h;cases h
   ·by_cases hs:ay j=true
    ·rw[qaj hs]at h;refine⟨j,List.mem_filter.2 ⟨hjm,?_⟩,?_⟩
     ·have:j.state=1:=(bQ.1 hs).1;simp[this]
     ·unfold NA;rw[List.mem_singleton.1 h]at ht2⊢;exact List.mem_filter.2 ⟨by simp,qag ht2⟩
    ·rw[qai hs]at h;cases h
 have hbig:∀t∈M.L.flatMap zm,t≤1099512676352:=by
  intro t ht;obtain⟨j,hjm,ht⟩:=List.mem_flatMap.1 ht;have h1:=hI.mb.fin j hjm;have h2:=hI.mb.aW j hjm;unfold zm at ht;rcases List.mem_append.1 ht with h|h
  ·split at h
   ·rw[List.mem_singleton.1 h];omega
   ·cases h
  ·split at h
   ·rw[List.mem_singleton.1 h];omega
   ·cases h
 rcases hL with⟨h1,h2⟩|⟨h1,h2,h3,h4⟩
 ·rw[qaj h1];rcases Ee (uU M.now (M.L.filter fun j:Jb=>decide (j.state∈ [(1:Int),3])))with h|h
  ·exact h
  ·have:=(key _).1 h;have:=h2 _ this.1;omega
 ·rw[qai (by omega)];have h5:=NF ((key _).2 ⟨h3,h2⟩);have h6:=hbig _ h3;rcases Ee (uU M.now (M.L.filter fun j:Jb=>decide (j.state∈ [(1:Int),3])))with h|h
  ·omega
  ·have h7:=(key _).1 h;have:=h4 _ h7.1 h7.2;omega
end
section
variable {w : World} {b c t d p g a : Nat} {v : Value} {m : Int} {P : Pg} {M : Md} {R : Wk}
theorem QS (h:CW w c t d p v g a m P)(ha:a≤1000):Calls prog 57 #[.pointer (some ⟨p,0,none⟩),.int .i64 P.now] w fun e w'=>e=.returned (.int .i64 (P.f P.now))∧Below w.heap.size w w':=by
 obtain⟨S,aX,hp,hC,hl,_⟩:=h.nZ;obtain⟨i,hi⟩:=hC.sm.ix P.now;rw[hi.val hC.sm (Int.le_refl _)];exact Qr P.now hi hC.sm (by omega) hp
theorem Gi (h:SW w b c t d p v g a m R P)(ha:a≤1000):Calls prog 212 #[.pointer (some ⟨b,0,none⟩),.pointer (some ⟨c,0,none⟩)] w (aI w b c t d p v g a m (.tuple #[]) {R with rep:=⟨0,0,0,P.now,0,0,P.f P.now,0,0⟩} P):=by
 have hS:=qae h;have hfr:=fun(W:World) (hW:SW W b c t d p v g a m R P)=>QS hW.cw ha;obtain⟨fn,hfn⟩:=qaa (P.f P.now);rw[←hfn]at hfr⊢;replace hfn:=qae hfn;clear h;go_enter func212,ntmps212;go_wp2_with fail;refine Reg2.ro w 17 23 [.p 0,.p 0,.p 2,.p 6,.m 14,.m 30,.p 0,.p 64,.p 192,.m 448,.p 0,.p 1024,.p 3072,.m 7168,.m 15422,.m 32766,.p 65534] [.pointer (some ⟨p,0,none⟩),.int .i64 P.now,.pointer (some ⟨p,0,none⟩),.pointer (some ⟨p,0,none⟩),.int .i64 P.now,.int .i64 fn] (by kernel_rfl) (by kernel_rfl) rfl rfl ⟨rfl,rfl,rfl,qaf _,fun _ _=>rfl⟩ ?_;dsimp only[Reg2.fF]
 repeat((first
  |(refine' Reg2.ak _ (by rfl) (fun wz=>?_) ?_;rotate_left;(go_simp;first|rfl|rw[qai (by omega)]))
  |(refine Reg2.az (by rfl) (fun wz hI hF=>?_) (fun _=>?_)
    ·unfold Reg2.One;have c0:=(hS.out.cw.kept hI).c2;go_wp2_with fail
     first|exact⟨_,rfl,rfl,qad⟩|exact⟨_,rfl,⟨(),rfl,trivial⟩,qad⟩));simp only[Act.put,xA,xB,xC,xD,xE,id])
 refine Reg2.pm (fun wz hI hF=>?_) (fun r5=>?_) (by rfl)
 ·go_wp2_with (go_at_call 45;go_must (refine(il (hS.out.kept hI).cw).mono ?_);rintro e w' ⟨rfl,rfl⟩)
  first|exact⟨_,rfl,rfl,qad⟩|exact⟨_,rfl,⟨(),rfl,trivial⟩,qad⟩
 simp only[Act.put,xA,xB,xC,xD,xE,id]
 repeat((first
  |(refine' Reg2.ak _ (by rfl) (fun wz=>?_) ?_;rotate_left;(go_simp;first|rfl|rw[qai (by omega)]))
  |(refine Reg2.az (by rfl) (fun wz hI hF=>?_) (fun _=>?_)
    ·unfold Reg2.One;have c0:=(hS.out.cw.kept hI).c2;go_wp2_with fail
     first|exact⟨_,rfl,rfl,qad⟩|exact⟨_,rfl,⟨(),rfl,trivial⟩,qad⟩));simp only[Act.put,xA,xB,xC,xD,xE,id])
 refine Reg2.pm (fun wz hI hF=>?_) (fun VX=>?_) (by rfl)
 ·go_wp2_with (go_at_call 45;go_must (refine(il (hS.out.kept hI).cw).mono ?_);rintro e w' ⟨rfl,rfl⟩)
  first|exact⟨_,rfl,rfl,qad⟩|exact⟨_,rfl,⟨(),rfl,trivial⟩,qad⟩
 simp only[Act.put,xA,xB,xC,xD,xE,id];refine Reg2.pm (fun wz hI hF=>?_) (fun r15=>?_) (by rfl)
 ·go_wp2_with (go_at_call 57;go_must (refine(hfr wz (hS.out.kept hI)).mono ?_);rintro e w' ⟨rfl,hb5⟩)
  first|exact⟨_,rfl,⟨(),rfl,trivial⟩,hb5⟩|exact⟨_,rfl,rfl,hb5⟩
 simp only[Act.put,xA,xB,xC,xD,xE,id]
 repeat(refine' Reg2.ak _ (by rfl) (fun wz=>?_) ?_;rotate_left;(go_simp;first|rfl|rw[qai (by omega)]);simp only[Act.put,xA,xB,xC,xD,xE,id])
 refine Reg2.aD ?_;intro w4 HI4 _ gB;clear gB;dsimp only[List.drop];have bZ:=hS.out.kept HI4;obtain⟨w7,hw7,Az,UA⟩:=Uz bZ.wk 0 0 0 P.now 0 0 fn 0 0;have a24:=bZ.wk.at 24 (.int .i64 R.rep.err) rfl;have f24:=bZ.wk.free 24;have a25:=bZ.wk.at 25 (.int .i64 R.rep.id) rfl;have f25:=bZ.wk.free 25;have a26:=bZ.wk.at 26 (.int .i64 R.rep.state) rfl;have f26:=bZ.wk.free 26;have a27:=bZ.wk.at 27 (.int .i64 R.rep.start) rfl;have f27:=bZ.wk.free 27;have a28:=bZ.wk.at 28 (.int .i64 R.rep.stop) rfl;have f28:=bZ.wk.free 28;have a29:=bZ.wk.at 29 (.int .i64 R.rep.plan) rfl;have f29:=bZ.wk.free 29;have a30:=bZ.wk.at 30 (.int .i64 R.rep.a) rfl;have f30:=bZ.wk.free 30;have a31:=bZ.wk.at 31 (.int .i64 R.rep.b) rfl;have f31:=bZ.wk.free 31;have a32:=bZ.wk.at 32 (.int .i64 R.rep.c) rfl;have f32:=bZ.wk.free 32;have iQ:=bZ.work Az UA;have ND:=(WS.of_below HI4:WS w w4 b c t d p v g v g).trans (WS.bT UA);go_wp2_with fail;rw[←hw7];go_end0;exact⟨rfl,v,g,iQ,ND⟩
theorem xP (h:SW w b c t d p v g a m R (au M))(hI:aS M)(hE:Early M)(h1:1≤M.dr.length)(hll:M.L.length≤900)(ha:a≤800)(hm:m≤1000000)(hnx:bu M<0∨R.target<bu M)(vO:M.now≤R.target∧R.target≤1099511627776):
 Calls prog 242 #[.pointer (some ⟨b,0,none⟩),.pointer (some ⟨c,0,none⟩)] w (aI w b c t d p v g a (m+1) .nilFunc {R with rep:=⟨0,0,0,R.target,0,0,aF M R.target 0,0,0⟩} (au {M with now:=R.target})):=by
 have vD:=gL hI h1 hll;have hne:=Gd h.cw vD (fun j hj=>hI.mb.fin j hj) (fun j hj=>hI.mb.aW j hj);rw[show(au M).now=M.now from rfl,show(au M).J=M.L from rfl,K5 hI hE]at hne;obtain⟨x,hx⟩:=qaa (if bu M<0 then 1152921504606846976 else bu M);rw[←hx]at hne;have hgt:R.target<x:=by rw[hx];split<;>omega
 have d1:decide (x>R.target)=true:=qag hgt;replace hx:=qae hx;replace hgt:=qae hgt;have O3:=fun(W:World) (hW:SW W b c t d p v g a m R (au M))=>Bz hW.cw vD ha hm R.target vO.1 vO.2;have NG:=fun(W:World) (hW:SW W b c t d p v g a m R (au M))=>hW.wk.at 23 (.int .i64 R.target) rfl;generalize hrt:R.target=rt at*;have hS:=qae h;clear h;go_enter func242,ntmps242;go_wp2_with fail;go_at_call 264;refine hne.mono ?_;clear hne;rintro e w1 ⟨rfl,hb1⟩;have hS1:=qae (hS.out.kept hb1);have q1:=NG w1 hS1.out;replace NG:=qae NG;replace hrt:=qae hrt;go_wp2_with fail;refine Reg2.ro w1 8 44 [.p 0,.p 1,.p 3,.m 7,.p 0,.p 16,.p 48,.m 112] [.pointer (some ⟨p,0,none⟩),.int .i64 rt] (by kernel_rfl) (by kernel_rfl) rfl rfl ⟨rfl,rfl,rfl,qaf _,fun _ _=>rfl⟩ ?_;dsimp only[Reg2.fF]
 repeat((first
  |(refine' Reg2.ak _ (by rfl) (fun wz=>?_) ?_;rotate_left;(go_simp;first|rfl|rw[qai (by omega)]))
  |(refine Reg2.az (by rfl) (fun wz hI hF=>?_) (fun _=>?_)
    ·unfold Reg2.One;have c0:=(hS1.out.cw.kept hI).c2;have q0:=NG.out wz (hS1.out.kept hI);go_wp2_with fail
     first|exact⟨_,rfl,rfl,qad⟩|exact⟨_,rfl,⟨(),rfl,trivial⟩,qad⟩));simp only[Act.put,xA,xB,xC,xD,xE,id])
 refine Reg2.aD ?_;intro w4 HI4 _ gB;clear gB;dsimp only[List.drop];have bZ:=hS1.out.kept HI4;have ZF:=O3 w4 bZ;go_wp2_with fail;go_at_call 265;refine ZF.mono ?_;clear ZF;rintro e w5 ⟨rfl,v5,g5,iI,hS5⟩;have UB:=bZ.core iI hS5;have EX:=(WS.of_below (hb1.trans (HI4.mono hb1.size)):WS w w4 b c t d p v g v g).trans (WS.dU hS5);have hck:=Gi UB (by omega);rw[show({au M with now:=rt}:Pg).f=fun u=>aF M u 0 from rfl,show({au M with now:=rt}:Pg).now=rt from rfl]at hck;go_wp2_with fail;go_at_call 212;refine hck.mono ?_;clear hck;rintro e w6 ⟨rfl,v6,g6,fU,QT⟩;have wM:=EX.trans QT;go_wp2_with fail;go_ret;have er:=hrt.out;clear hrt;subst er;exact⟨rfl,v6,g6,fU,wM⟩
theorem BG (h:SW w b c t d p v g a m R (au M))(hI:aS M)(hCa:Calm M)(hE:Early M)(h1:1≤M.dr.length)(hll:M.L.length≤900)(ha:a≤800)(hm:m≤1000000)(hnx:0≤bu M∧bu M≤R.target)(vO:R.target≤1099511627776):
 Calls prog 242 #[.pointer (some ⟨b,0,none⟩),.pointer (some ⟨c,0,none⟩)] w (aI w b c t d p v g a (m+1) (gP 242) R (au (dA {M with now:=bu M}))):=by
 have vD:=gL hI h1 hll;have hne:=Gd h.cw vD (fun j hj=>hI.mb.fin j hj) (fun j hj=>hI.mb.aW j hj);rw[show(au M).now=M.now from rfl,show(au M).J=M.L from rfl,K5 hI hE,qai (by omega)]at hne;obtain⟨hlt,VY,_⟩:=hI.step hCa hnx.1 (by omega);have hf0:∀u,bu M≤u→0≤aF M u 0∧aF M u 0≤64:=fun u hu=>yD hI u (by omega);have hov:=VY.over;have O3:=fun(W:World) (hW:SW W b c t d p v g a m R (au M))=>Bz hW.cw vD ha hm (bu M) (by show M.now≤_;omega) (by omega);have UC:=fun(W:World) (v1:Value) (g1:Nat) (hW:CW W c t d p v1 g1 a (m+1) {au ({M with now:=bu M}:Md)with f:=fun u=>aF M u 0})=>Ny (M:={M with now:=bu M}) (fun u=>aF M u 0) hW VY h1 hll hf0;have zG:=fun(W:World) (v1:Value) (g1:Nat) (hW:CW W c t d p v1 g1 a (m+1) {au ({({M with now:=bu M}:Md)with L:=M.L.map (aV (bu M))}:Md)with f:=fun u=>aF M u 0})=>QM (M:={({M with now:=bu M}:Md)with L:=M.L.map (aV (bu M))}) (fun u=>aF M u 0) hW hov.1 hov.2 M.L.length (by
  have:=oM (fun j=>if dR (bu M) j=true then(1:Int)else 0) 1 (M.L.map (aV (bu M))) (fun j _=>by split<;>omega);rw[List.length_map]at this;have e:oC ({({M with now:=bu M}:Md)with L:=M.L.map (aV (bu M))}:Md)=((M.L.map (aV (bu M))).map fun j=>if dR (bu M) j=true then(1:Int)else 0).sum:=rfl;rw[e];omega) h1 (by rw[List.length_map];exact hll) hf0
 have UD:startGo M.L.length ({({M with now:=bu M}:Md)with L:=M.L.map (aV (bu M))}:Md)=dA {M with now:=bu M}:=rfl;rw[UD]at zG;rw[show({M with now:=bu M}:Md).now=bu M from rfl,show({M with now:=bu M}:Md).L=M.L from rfl]at UC;rw[show({({M with now:=bu M}:Md)with L:=M.L.map (aV (bu M))}:Md).now=bu M from rfl]at zG;have hfin:Hid (∀{W:World} {v1:Value} {g1:Nat},CW W c t d p v1 g1 a (m+1) {au (dA {M with now:=bu M})with f:=fun u=>aF M u 0}→CW W c t d p v1 g1 a (m+1) (au (dA {M with now:=bu M}))):=fun{W v1 g1} hW=>by
  have fK:(dA {M with now:=bu M}).now=bu M:=by rw[←UD];exact(xL M.L.length hov.1.mb).2.2.1
  exact hW.XV (fun u=>aF (dA {M with now:=bu M}) u 0) fun u hu=>(EE VY u (by
   have hu2:(dA {M with now:=bu M}).now≤u:=hu;rw[fK]at hu2;exact hu2)).symm
 obtain⟨H,hH⟩:∃H,H=dA {M with now:=bu M}:=⟨_,rfl⟩;rw[←hH]at zG hfin⊢;have d1:decide (bu M>R.target)=false:=qah (by omega);replace hH:=qae hH;generalize Qy:bu M=x at*;replace Qy:=qae Qy;have NG:=fun(W:World) (hW:SW W b c t d p v g a m R (au M))=>hW.wk.at 23 (.int .i64 R.target) rfl;generalize R.target=rt at*;have hS:=qae h;clear h hov VY UD;go_enter func242,ntmps242;go_wp2_with fail;go_at_call 264;refine hne.mono ?_;clear hne;rintro e w1 ⟨rfl,hb1⟩;have hS1:=hS.out.kept hb1;have q1:=NG w1 hS1;have c2:=hS1.cw.c2;have ha1:=O3 w1 hS1;clear NG O3;go_wp2_with fail;go_at_call 265;refine ha1.mono ?_;clear ha1;rintro e w5 ⟨rfl,v5,g5,iI,hS5⟩;have UB:=hS1.core iI hS5;have EX:=(WS.of_below hb1:WS w w1 b c t d p v g v g).trans (WS.dU hS5);have ZG:=UC w5 v5 g5 iI;clear UC q1 c2;go_wp2_with fail;go_at_call 266;refine ZG.mono ?_;clear ZG;rintro e w6 ⟨rfl,v6,g6,Ea,fU⟩;have ZH:=UB.core Ea fU;have wM:=EX.trans (WS.dU fU);have hs6:=zG w6 v6 g6 Ea;clear zG;go_wp2_with fail;go_at_call 267;refine hs6.mono ?_;clear hs6;rintro e w7 ⟨rfl,v7,g7,Ca,iQ⟩;have ZI:=ZH.core (hfin.out Ca) iQ;have ND:=wM.trans (WS.dU iQ);go_wp2_with fail;go_ret;exact⟨rfl,v7,g7,ZI,ND⟩
end
section
variable {M : Md}
def qf (j:Jb)(x:Int):Int:=if ay j=true then min (x+j.lim) j.aW else x+j.lim
theorem UE {id:Int}(h:iR M.L id≠0):(getM M id).2=false:=by
 unfold iR at h;unfold getM;by_cases h1:id<1
 ·rw[qaj (.inl h1)]
 ·rw[qai h1]at h;by_cases h2:(M.L.length:Int)<id
  ·rw[qaj (.inr h2)]
  ·rw[qai h2]at h;exact absurd rfl h
theorem xz {id:Int}(h:iR M.L id=0):∃i:Nat,i<M.L.length∧id=(i:Int)+1∧cz M.L id=M.L.getD i default∧getM M id=(M.L.getD i default,true):=by
 unfold iR at h;by_cases h1:id<1
 ·rw[qaj h1]at h;cases h
 ·rw[qai h1]at h;by_cases h2:(M.L.length:Int)<id
  ·rw[qaj h2]at h;cases h
  ·refine⟨(id-1).toNat,by omega,by omega,?_,?_⟩
   ·unfold cz;have hq:(id-1).toNat<M.L.length:=by omega
    rw[qai h1,qai h2,getElem!_pos M.L _ hq];generalize (id-1).toNat=q at*;simp[List.getD,hq]
   ·unfold getM;rw[qai (by omega)]
theorem UF (h:M.cl=true)(id x:Int):eY M id x=false:=by unfold eY;rw[qaj (.inl h)]
theorem QU {id x:Int}(h:x<M.now):eY M id x=false:=by unfold eY;rw[qaj (.inr (.inr (.inr (.inl h))))]
theorem NH {id x:Int}(h:1099511627776<x):eY M id x=false:=by unfold eY;rw[qaj (.inr (.inr (.inr (.inr (.inl h)))))]
theorem NI {id x:Int}(h:iR M.L id≠0):eY M id x=false:=by unfold eY;rw[qaj (.inr (.inl (UE h)))]
theorem K6 {id x:Int}(h:iR M.L id=0)(hs:(cz M.L id).st≠1):eY M id x=false:=by
 obtain⟨i,_,_,h3,h4⟩:=xz h;unfold eY;rw[qaj];exact .inr (.inr (.inl (by rw[h4,←h3];exact hs)))
theorem NJ {id x:Int}(h:iR M.L id=0)(hp:ay (cz M.L id)=true)(hl:(cz M.L id).aW≤x):eY M id x=false:=by
 obtain⟨i,_,_,h3,h4⟩:=xz h;unfold eY;rw[qaj];exact .inr (.inr (.inr (.inr (.inr (by rw[h4,←h3];exact⟨(bQ.1 hp).2,hl⟩)))))
theorem VZ {x long width but:Int}(hx:1≤long)(h:∀t,x≤t→t<x+long→width≤aF M t but):sQ M x long width but=true:=by
 unfold sQ;rw[Bool.and_eq_true,List.all_eq_true];refine⟨qag (h x (Int.le_refl _) (by omega)),fun t _=>?_⟩;rw[Bool.not_eq_true',Bool.and_eq_false_iff,Bool.and_eq_false_iff];by_cases h1:x<t
 ·by_cases h2:t<x+long
  ·refine .inr (qah ?_);have:=h t (by omega) h2;omega
  ·exact .inl (.inr (qah h2))
 ·exact .inl (.inl (qah h1))
theorem NK (hI:aS M){id x m:Int}(hcl:M.cl=false)(h1:M.now≤x)(h2:x≤1099511627776)(h:iR M.L id=0)(hs:(cz M.L id).st=1)(hl:ay (cz M.L id)=true→x<(cz M.L id).aW)
 (hm:BL (fun u=>aF M u 0) x (qf (cz M.L id) x) m):eY M id x=decide ((cz M.L id).wid≤m):=by
 obtain⟨i,hi,hid,h3,h4⟩:=xz h;have hmem:=bN hi;rw[h3]at hs hl hm⊢;have hone:=hI.one _ hmem;have ZJ:=hI.ids i hi;have e:eY M id x=sQ M x (M.L.getD i default).lim (M.L.getD i default).wid ((i:Int)+1):=by
  unfold eY;rw[h4];show(if M.cl=true∨true=false∨_ then _ else _)=_;rw[qai,ZJ];have h5:=hs;rintro(a1|a1|a1|a1|a1|a1)
  ·rw[hcl]at a1;cases a1
  ·cases a1
  ·exact a1 hs
  ·omega
  ·omega
  ·have:=hl (bQ.2 ⟨h5,a1.1⟩);have h6:(M.L.getD i default).aW≤x:=a1.2;omega
 rw[e];have Bb:=oL hi hI.ids;have hto:x<qf (M.L.getD i default) x:=by
  unfold qf;split
  ·rename_i hp;have:=hl hp;omega
  ·omega
 have Sy:=hI.mb.wid _ hmem;have hcon:∀u,x≤u→u<x+(M.L.getD i default).lim→(u<qf (M.L.getD i default) x→fe u 0 (M.L.getD i default)=0)∧(qf (M.L.getD i default) x≤u→fe u 0 (M.L.getD i default)=(M.L.getD i default).wid):=by
  intro u hu1 hu2;unfold qf;cases hp:ay (M.L.getD i default)with
  |false=>
   refine⟨fun _=>fo hp,fun h6=>?_⟩;rw[qai (by decide)]at h6;omega
  |true=>
   have h7:=hl hp;rw[qaj rfl,oK hp (by omega)];refine⟨fun h6=>qai (by omega),fun h6=>qaj (by omega)⟩
 have hsub:qf (M.L.getD i default) x≤x+(M.L.getD i default).lim:=by unfold qf;split<;>omega
 rw[Bool.eq_iff_iff,decide_eq_true_eq];constructor
 ·intro hr;have hall:=zW hI.mb.now.1 h1 hr;rcases hm.one with e1|⟨u,u1,u2,u3⟩
  ·omega
  ·have h6:=hall u u1 (by omega);rw[Bb,(hcon u u1 (by omega)).1 u2]at h6;have h7:aF M u 0=m:=u3;omega
 ·intro hw;refine VZ (by omega) fun u ht1 ht2=>?_;rw[Bb];rcases Int.lt_or_le u (qf (M.L.getD i default) x)with h6|h6
  ·have h7:m≤aF M u 0:=hm.all u ht1 h6;rw[(hcon u ht1 ht2).1 h6];omega
  ·have h7:=hI.free u (by omega);rw[(hcon u ht1 ht2).2 h6];omega
end
def jM (w0:World)(y:Jb)(vs:List Value)(W:World):Prop:=Below w0.heap.size w0 W∧(match vs with
 | []=>True
 | [u]=>∃k,u=.pointer (some ⟨k,0,none⟩)∧w0.heap.size≤k∧W.heap[k]? =some (.cells (ag jD).toArray 55 (0,0))
 |u::_::_=>∃k,u=.pointer (some ⟨k,0,none⟩)∧w0.heap.size≤k∧W.heap[k]? =some (.cells (ag y).toArray 55 (0,0)))
theorem jM.ext {w0 a b:World}{y:Jb}{vs:List Value}(h:Below a.heap.size a b)(hs:jM w0 y vs a):jM w0 y vs b:=by
 obtain⟨h1,h2⟩:=hs;refine⟨h1.trans (h.mono h1.size),?_⟩
 match vs,h2 with
 | [],_=>trivial
 | [u],⟨k,e,hk,hz⟩=>exact⟨k,e,hk,(h.block k (ai hz)).trans hz⟩
 |u::_::_,⟨k,e,hk,hz⟩=>exact⟨k,e,hk,(h.block k (ai hz)).trans hz⟩
theorem jM.alloc {w0 W:World}{y:Jb}(hs:jM w0 y [] W):jM w0 y ([]++[.pointer (some ⟨W.heap.size,0,none⟩)]) (W.alloc (.cells #[.int .i64 0,.int .i64 0,.int .i64 0,.int .i64 0,.int .i64 0,.int .i64 0,.int .i64 0,.int .i64 0,.int .i64 0,.int .u64 0] 55)):=
 ⟨hs.1.alloc hs.1.size _,_,rfl,hs.1.size,heap_alloc_new W _⟩
theorem jM.zero {w0 W:World}{y:Jb}{k:Nat}(hs:jM w0 y [.pointer (some ⟨k,0,none⟩)] W):W.heap[k]? =some (.cells (ag jD).toArray 55 (0,0))∧w0.heap.size≤k:=by
 obtain⟨_,k',e,h1,h2⟩:=hs;injection e with e;injection e with e;injection e with e;subst e;exact⟨h2,h1⟩
theorem jM.store {w0 W:World}{y:Jb}{k:Nat}(hs:jM w0 y [.pointer (some ⟨k,0,none⟩)] W):jM w0 y ([.pointer (some ⟨k,0,none⟩)]++[undef]) (W.setRow k (ag y).toArray):=by
 obtain⟨hz,hk⟩:=hs.zero;exact⟨um hs.1 hk _,k,rfl,hk,zA hz _⟩
theorem jM.full {w0 W:World}{y:Jb}{k:Nat}{u:Value}(hs:jM w0 y [.pointer (some ⟨k,0,none⟩),u] W):W.heap[k]? =some (.cells (ag y).toArray 55 (0,0))∧w0.heap.size≤k:=by
 obtain⟨_,k',e,h1,h2⟩:=hs;injection e with e;injection e with e;injection e with e;subst e;exact⟨h2,h1⟩
section
variable {w : World} {b c t d p g a : Nat} {v : Value} {m : Int} {P : Pg} {M : Md} {R : Wk}
theorem NL (h:CW w c t d p v g a m P)(hk:PK P)(ha:a≤1000)(lo hi:Int)(h0:P.now≤lo)(hh: -9223372036854775808≤hi∧hi≤9223372036854775807):Calls prog 147 #[.pointer (some ⟨p,0,none⟩),.int .i64 lo,.int .i64 hi] w fun e w'=>∃r:Int,e=.returned (.int .i64 r)∧BL P.f lo hi r∧Below w.heap.size w w':=by
 obtain⟨S,aX,hp,hC,hl,_⟩:=h.nZ;have:=ER lo hi hh hC.sm hk.now.1 (by omega) hp
 rwa [Int.max_eq_left h0]at this
theorem IL (h:CW w c t d p v g a m (au M))(hI:aS M)(h1:1≤M.dr.length)(hll:M.L.length≤900)(ha:a≤800)(xi xt:Int)(hxt: -9223372036854775808≤xt∧xt≤9223372036854775807)(hc:M.cl=true):
 Calls prog 69 #[.pointer (some ⟨c,0,none⟩),.agg #[.int .i64 xi,.int .i64 xt]] w fun e w'=>e=.returned (.bool (eY M xi xt))∧Below w.heap.size w w':=by
 have vD:=qae (gL hI h1 hll);have zJ:=bC;have zS:=mM;obtain⟨k,hk1⟩:=qaa (10);obtain⟨k3,hk3⟩:∃k,k=3:=⟨_,rfl⟩;rw[←hk1]at zJ;rw[←hk3]at zS;have hk0:¬k=0:=by omega
 have BB:¬k3=0:=by omega
 replace hk1:=qae hk1;replace hk3:=qae hk3;obtain⟨wA,aj⟩:=qaa (w.alloc (.cells #[.int .i64 xi,.int .i64 xt] 35));have aC:Hid (Below w.heap.size w wA):=by show Below _ _ _;rw[aj];exact qac.alloc (qaf _) _
 have mo:Hid (wA.heap[w.heap.size]? =some (.cells #[.int .i64 xi,.int .i64 xt] 35 (0,0))):=by show _=_;rw[aj];exact heap_alloc_new w _
 have kr:=qae (h.kept aC.out);have hcl:=fun(W:World) (hW:Below wA.heap.size wA W)=>jR (kr.out.kept hW);rw[show(au M).cl=M.cl from rfl]at hcl;have hnw:=fun(W:World) (hW:Below wA.heap.size wA W)=>il (kr.out.kept hW);rw[show(au M).now=M.now from rfl]at hnw;rw[hc]at hcl;have hres:=UF hc xi xt;rw[hres];replace hres:=qae hres;replace hc:=qae hc;clear h;go_enter func69,ntmps69;go_wp2_with fail;rw[←aj];replace aj:=qae aj;refine Reg2.ro wA 10 76 [.p 0,.m 1,.p 3,.p 7,.m 15,.p 7,.p 39,.p 103,.m 231,.m 487] [.bool true,.int .i64 xt,.pointer (some ⟨p,0,none⟩),.int .i64 M.now] (by kernel_rfl) (by kernel_rfl) rfl rfl ⟨rfl,rfl,rfl,qaf _,fun _ _=>rfl⟩ ?_;dsimp only[Reg2.fF]
 repeat(refine' Reg2.ak _ (by rfl) (fun wz=>?_) ?_;rotate_left;(go_simp;first|rfl|rw[qai (by omega)]);simp only[Act.put,xA,xB,xC,xD,xE,id])
 refine Reg2.pm (fun wz hI hF=>?_) (fun r1=>?_) (by rfl)
 ·go_wp2_with (go_at_call 42;go_must (refine(hcl wz hI).mono ?_);rintro e w' ⟨rfl,rfl⟩)
  first|exact⟨_,rfl,rfl,qad⟩|exact⟨_,rfl,⟨(),rfl,trivial⟩,qad⟩
 simp only[Act.put,xA,xB,xC,xD,xE,id]
 repeat((first
  |(refine' Reg2.ak _ (by rfl) (fun wz=>?_) ?_;rotate_left;(go_simp;first|rfl|rw[qai (by omega)]))
  |refine Reg2.oG (by rfl) ?_
  |refine Reg2.iZ (by rfl) ?_);simp only[Act.put,xA,xB,xC,xD,xE,id])
 refine Reg2.aD ?_;intro w4 HI4 _ gB;clear gB;dsimp only[List.drop];go_wp2_with fail;go_ret;exact⟨rfl,aC.out.trans (HI4.mono aC.out.size)⟩
theorem NM (h:CW w c t d p v g a m (au M))(hI:aS M)(h1:1≤M.dr.length)(hll:M.L.length≤900)(ha:a≤800)(xi xt:Int)(hxt: -9223372036854775808≤xt∧xt≤9223372036854775807)(hc:M.cl=false):
 Calls prog 69 #[.pointer (some ⟨c,0,none⟩),.agg #[.int .i64 xi,.int .i64 xt]] w fun e w'=>e=.returned (.bool (eY M xi xt))∧Below w.heap.size w w':=by
 have vD:=qae (gL hI h1 hll);have zJ:=bC;have zS:=mM;obtain⟨k,hk1⟩:=qaa (10);obtain⟨k3,hk3⟩:∃k,k=3:=⟨_,rfl⟩;rw[←hk1]at zJ;rw[←hk3]at zS;have hk0:¬k=0:=by omega
 have BB:¬k3=0:=by omega
 replace hk1:=qae hk1;replace hk3:=qae hk3;obtain⟨wA,aj⟩:=qaa (w.alloc (.cells #[.int .i64 xi,.int .i64 xt] 35));have aC:Hid (Below w.heap.size w wA):=by show Below _ _ _;rw[aj];exact qac.alloc (qaf _) _
 have mo:Hid (wA.heap[w.heap.size]? =some (.cells #[.int .i64 xi,.int .i64 xt] 35 (0,0))):=by show _=_;rw[aj];exact heap_alloc_new w _
 have kr:=qae (h.kept aC.out);have hcl:=fun(W:World) (hW:Below wA.heap.size wA W)=>jR (kr.out.kept hW);rw[show(au M).cl=M.cl from rfl]at hcl;have hnw:=fun(W:World) (hW:Below wA.heap.size wA W)=>il (kr.out.kept hW);rw[show(au M).now=M.now from rfl]at hnw;rw[hc]at hcl;have his:=fun(W:World)=>VU xt W hxt;have hget:=qae (fun(W:World) (hW:Below wA.heap.size wA W)=>jh (kr.out.kept hW).fZ xi);obtain⟨rb,hrb⟩:=qaa (eY M xi xt);rw[←hrb];replace hrb:=qae hrb;replace hc:=qae hc;clear h;go_enter func69,ntmps69;go_wp2_with fail;rw[←aj];replace aj:=qae aj;refine Reg2.ro wA 10 76 [.p 0,.m 1,.p 3,.p 7,.m 15,.p 7,.p 39,.p 103,.m 231,.m 487] [.bool false,.int .i64 xt,.pointer (some ⟨p,0,none⟩),.int .i64 M.now] (by kernel_rfl) (by kernel_rfl) rfl rfl ⟨rfl,rfl,rfl,qaf _,fun _ _=>rfl⟩ ?_;dsimp only[Reg2.fF]
 repeat(refine' Reg2.ak _ (by rfl) (fun wz=>?_) ?_;rotate_left;(go_simp;first|rfl|rw[qai (by omega)]);simp only[Act.put,xA,xB,xC,xD,xE,id])
 refine Reg2.pm (fun wz hI hF=>?_) (fun r1=>?_) (by rfl)
 ·go_wp2_with (go_at_call 42;go_must (refine(hcl wz hI).mono ?_);rintro e w' ⟨rfl,rfl⟩)
  first|exact⟨_,rfl,rfl,qad⟩|exact⟨_,rfl,⟨(),rfl,trivial⟩,qad⟩
 simp only[Act.put,xA,xB,xC,xD,xE,id]
 repeat((first
  |(refine' Reg2.ak _ (by rfl) (fun wz=>?_) ?_;rotate_left;(go_simp;first|rfl|rw[qai (by omega)]))
  |(refine Reg2.az (by rfl) (fun wz hI hF=>?_) (fun _=>?_)
    ·unfold Reg2.One;have q0:wz.cell? ⟨w.heap.size,1,none⟩=some (.int .i64 xt):=by simp[World.cell?,(hI.block _ (ai mo.out)).trans mo.out]
     have c0:=(kr.out.kept hI).c2;go_wp2_with fail
     first|exact⟨_,rfl,rfl,qad⟩|exact⟨_,rfl,⟨(),rfl,trivial⟩,qad⟩));simp only[Act.put,xA,xB,xC,xD,xE,id])
 refine Reg2.pm (fun wz hI hF=>?_) (fun r9=>?_) (by rfl)
 ·go_wp2_with (go_at_call 45;go_must (refine(hnw wz hI).mono ?_);rintro e w' ⟨rfl,rfl⟩)
  first|exact⟨_,rfl,rfl,qad⟩|exact⟨_,rfl,⟨(),rfl,trivial⟩,qad⟩
 simp only[Act.put,xA,xB,xC,xD,xE,id];refine Reg2.aD ?_;intro w4 HI4 _ gB;clear gB;dsimp only[List.drop];have hb4:=aC.out.trans (HI4.mono aC.out.size);have BZ:w4.heap[w.heap.size]? =some (.cells #[.int .i64 xi,.int .i64 xt] 35 (0,0)):=(HI4.block _ (ai mo.out)).trans mo.out;have x1:w4.cell? ⟨w.heap.size,1,none⟩=some (.int .i64 xt):=by simp[World.cell?,BZ]
 by_cases hlow:xt<M.now
 ·have d1:decide (xt<M.now)=true:=qag hlow;have hfin:Hid (rb=false):=hrb.out.trans (QU hlow);replace hlow:=qae hlow;obtain rfl:=hfin.out;go_wp2_with fail;go_ret;exact⟨rfl,hb4⟩
 have d1:decide (xt<M.now)=false:=qah hlow;by_cases hhi:1099511627776<xt
 ·have d2:decide (0≤xt∧xt≤1099511627776)=false:=qah (by omega);rw[d2]at his;have hfin:Hid (rb=false):=hrb.out.trans (NH hhi);replace hhi:=qae hhi;obtain rfl:=hfin.out;go_wp2_with (go_at_call 145;go_must (refine(his _).mono ?_);rintro e w' ⟨rfl,rfl⟩);go_ret;exact⟨rfl,hb4⟩
 have d2:decide (0≤xt∧xt≤1099511627776)=true:=qag (by have:=hI.mb.now;omega);rw[d2]at his;have x0:w4.cell? ⟨w.heap.size,0,none⟩=some (.int .i64 xi):=by simp[World.cell?,BZ]
 have c0:=(kr.out.kept HI4).c0;obtain⟨y,hy⟩:=qaa (cz M.L xi);obtain⟨e0,he0⟩:=qaa (iR M.L xi);have hgo:Hid (∀W,Below wA.heap.size wA W→Calls prog 41 #[.pointer (some ⟨t,0,none⟩),.int .i64 xi] W fun e w'=>e=.returned (.tuple #[.agg (ag y).toArray,.int .i64 e0])∧Gr W w'):=fun W hW=>by
  have:=hget.out W hW;unfold jZ at this;rw[show(au M).J=M.L from rfl,←hy,←he0]at this;exact this
 have lY:=aA y;rw[←hk1.out]at lY;have y2:(ag y)[2]? =some (.int .i64 y.wid):=rfl;have y3:(ag y)[3]? =some (.int .i64 y.lim):=rfl;have y5:(ag y)[5]? =some (.int .i64 y.st):=rfl;have hpy:Hid (∀W,y.aW≤1099511627776→0≤y.lim∧y.lim≤1048576→Calls prog 146 #[.agg (ag y).toArray] W fun e w'=>e=.returned (.tuple #[.agg (aZ y).toArray,.bool (ay y)])∧Below W.heap.size W w'):=fun W a1 a2=>nA y a1 a2;replace hy:=qae hy;replace he0:=qae he0;have O4:=qae BZ;have qc:=qae (kr.out.kept HI4);clear BZ hget x0 c0;go_wp2_with (go_at_call 145;go_must (refine(his _).mono ?_);rintro e w' ⟨rfl,rfl⟩);go_wp2_with fail;refine Reg2.uy 12 76 (Reg2.rows 0 [.p 0,.p 1,.p 3,.p 7,.p 0,.p 16,.p 63,.p 127,.p 255,.p 255,.p 0,.p 1535]) [0,0,0,1,0,1,1,0,0,0,3,3]
  [.pure,.pure,.pure,.mU (.pointer (some ⟨t,0,none⟩)),.pure,.mU (.int .i64 xi),.mU (.tuple #[.agg (ag y).toArray,.int .i64 e0]),.pure,.pure,.pure,.major Nat 0 (fun k=>.pointer (some ⟨k,0,none⟩)),.major Unit () (fun _=>undef)]
  (fun W=>Below w4.heap.size w4 W) (jM w4 y) (fun a b=>Below w4.heap.size a b) (by kernel_rfl) (by kernel_rfl) rfl rfl (fun vs a b h hs=>jM.ext h hs) ?_ ?_ ?_ ?_ ?_ ?_ ?_
 ·intro a b he hb;exact hb.trans (Below.mono he hb.size)
 ·intro a b he hb;exact hb.trans he
 ·exact⟨trivial,trivial,trivial,⟨fun _ _ _ _ _=>trivial,fun _ _ _ _ _=>trivial⟩,trivial,⟨fun _ _ _ _ _=>trivial,fun _ _ _ _ _=>trivial⟩,⟨fun _ _ _ _ _=>trivial,fun _ _ _ _ _=>trivial⟩,trivial,trivial,trivial,trivial,trivial,trivial⟩
 ·exact⟨(fun h=>nomatch h),(fun h=>nomatch h),(fun h=>nomatch h),(fun h=>nomatch h),(fun h=>nomatch h),(fun h=>nomatch h),(fun h=>nomatch h),(fun h=>nomatch h),(fun h=>nomatch h),(fun h=>nomatch h),(fun h=>nomatch h),(fun _ _=>rfl),trivial⟩
 ·exact⟨rfl,rfl,rfl,qaf _,fun _ _=>rfl⟩
 ·exact⟨⟨rfl,rfl,rfl,qaf _,fun _ _=>rfl⟩,trivial⟩
 dsimp only[Reg2.rows,Reg2.mk,List.zip,List.zipWith,List.take]
 repeat((first
  |(refine' Reg2.ak _ (by rfl) (fun wz=>?_) ?_;rotate_left;(go_simp;first|rfl|rw[qai (by omega)]))
  |(refine Reg2.az (by rfl) (fun wz hI hF=>?_) (fun _=>?_)
    ·unfold Reg2.One;have c0:=(qc.out.kept hI).c0;have q0:wz.cell? ⟨w.heap.size,0,none⟩=some (.int .i64 xi):=by simp[World.cell?,(hI.block _ (ai O4.out)).trans O4.out]
     go_wp2_with fail
     first|exact⟨_,rfl,rfl,qad⟩|exact⟨_,rfl,⟨(),rfl,trivial⟩,qad⟩));simp only[Act.put,xA,xB,xC,xD,xE,id])
 refine Reg2.pm (fun wz hI hF=>?_) (fun r6=>?_) (by rfl)
 ·go_wp2_with (go_at_call 41;go_must (refine(hgo.out wz (HI4.trans (hI.mono HI4.size))).mono ?_);rintro e w' ⟨rfl,hg5⟩;have hb5:=hg5.below)
  first|exact⟨_,rfl,⟨(),rfl,trivial⟩,hb5⟩|exact⟨_,rfl,rfl,hb5⟩
 simp only[Act.put,xA,xB,xC,xD,xE,id]
 repeat(refine' Reg2.ak _ (by rfl) (fun wz=>?_) ?_;rotate_left;(go_simp;first|rfl|rw[qai (by omega)]);simp only[Act.put,xA,xB,xC,xD,xE,id])
 refine Reg2.pj (fun wz hI hS hF=>?_) (fun Dv=>?_) (by rfl)
 ·go_wp2_with fail;exact⟨_,rfl,⟨⟨_,rfl⟩,jM.alloc hS⟩,qac.alloc hI.size _⟩
 simp only[Act.put,xA,xB,xC,xD,xE,id];refine Reg2.pj (fun wz hI hS hF=>?_) (fun XR=>?_) (by rfl)
 ·obtain⟨hz,hge⟩:=jM.zero hS;have Cc:=lL (x:=y) hz;have hfin:=jM.store hS;have hbw:Below w4.heap.size wz (wz.setRow Dv (ag y).toArray):=um qac hge _;generalize ag y=cY at*;go_wp2_with fail;exact⟨_,rfl,⟨⟨(),rfl⟩,hfin⟩,hbw⟩
 simp only[Act.put,xA,xB,xC,xD,xE,id];refine Reg2.aD ?_;intro w7 dC vE gF;clear gF;dsimp only[List.drop];obtain⟨Cb,aay⟩:=jM.full vE;have iH:=hb4.trans (dC.mono hb4.size);have XY:=(dC.block _ (ai O4.out)).trans O4.out;have x1:w7.cell? ⟨w.heap.size,1,none⟩=some (.int .i64 xt):=by simp[World.cell?,XY]
 have b5:w7.cell? ⟨Dv,5,none⟩=some (.int .i64 y.st):=by simp[World.cell?,Cb,y5]
 have b3:w7.cell? ⟨Dv,3,none⟩=some (.int .i64 y.lim):=by simp[World.cell?,Cb,y3]
 have VV:=gX Cb lY;clear vE;by_cases hne:e0≠0
 ·have d3:(e0 != 0)=true:=by simp[hne]
  have hfin:Hid (rb=false):=hrb.out.trans (NI (by rw[←he0.out];exact hne));obtain rfl:=hfin.out;replace hne:=qae hne;go_wp2_with fail;go_ret;exact⟨rfl,iH⟩
 have he1:e0=0:=by omega
 subst he1;clear hne;by_cases hst:y.st≠1
 ·have d4:(y.st != 1)=true:=by simp[hst]
  have hfin:Hid (rb=false):=hrb.out.trans (K6 he0.out.symm (by rw[←hy.out];exact hst));obtain rfl:=hfin.out;replace hst:=qae hst;go_wp2_with fail;go_ret;exact⟨rfl,iH⟩
 have hs1:y.st=1:=by omega
 have d4:(y.st != 1)=false:=by simp[hs1]
 clear hst;have hym:y∈M.L:=by
  obtain⟨i,hi,_,h3,_⟩:=xz he0.out.symm;rw[hy.out,h3];exact bN hi
 have ZK:=hI.mb.lim y hym;have WJ:=hI.mb.aW y hym;have hpl:=hpy.out w7 WJ.2 ZK;have lS:(aZ y).length=3:=by unfold aZ;split<;>rfl
 have oS:∀u∈aZ y,u.oneCell'=true:=by unfold aZ;split<;>(intro u hu;simp at hu;rcases hu with rfl|rfl|rfl<;>rfl)
 have SS:Hid (∀W:World,Sem.run prog (storeCells ⟨W.heap.size,0,none⟩ (aZ y) 0) (W.alloc (.cells #[.int .i64 0,.int .i64 0,.int .i64 0] 131))=.ok () (W.alloc (.cells (aZ y).toArray 131))):=fun W=>dW W W.heap.size (aZ y) [.int .i64 0,.int .i64 0,.int .i64 0] 131 rfl lS oS;rw[←hk3.out]at lS;have aai:=hI.mb.now;have YI:IntKind.i64.wrap (xt+y.lim)=xt+y.lim:=by rw[IntKind.wrap_i64];omega
 have hro:=fun(mm:Int) (hl:ay y=true→xt<y.aW) (hB:BL (fun u=>aF M u 0) xt (qf y xt) mm)=>NK (id:=xi) hI hc.out (by omega) (by omega) he0.out.symm (by rw[←hy.out];exact hs1) (by rw[←hy.out];exact hl) (by rw[←hy.out];exact hB);rw[←hrb.out,←hy.out]at hro;have WK:=qae (fun(W:World) (hW:Below wA.heap.size wA W) (hi:Int) (hh: -9223372036854775808≤hi∧hi≤9223372036854775807)=>NL (kr.out.kept hW) vD.out (by omega) xt hi (by show M.now≤xt;omega) hh);have Sy:=hI.mb.wid y hym;have hs0:(aZ y)[0]? =some (.int .i64 (if ay y=true then y.aW else 0)):=by unfold aZ;split<;>rfl
 obtain⟨yw,NN⟩:=qaa (y.wid);rw[←NN]at y2 hro;obtain⟨yl,hyl⟩:=qaa (y.lim);rw[←hyl]at b3 YI ZK;obtain⟨yp,hyp⟩:=qaa (y.aW);rw[←hyp]at hro hs0 WJ;have hft:Hid (qf y xt=if ay y=true then min (xt+yl) yp else xt+yl):=by show _=_;unfold qf;rw[hyl,hyp]
 replace NN:=qae NN;replace hyl:=qae hyl;replace hyp:=qae hyp;replace hro:=qae hro;replace hs1:=qae hs1;have K7:=qae Cb;have O5:=qae XY;clear Cb XY;generalize nD:aZ y=cS at*;replace nD:=qae nD;generalize nJ:ag y=cY at*;replace nJ:=qae nJ;have hrs:=ai K7.out;cases hP:ay y with
 |false=>
  rw[hP]at hpl;replace hP:=qae hP;go_wp2_with fail;go_at_call 146;refine hpl.mono ?_;clear hpl VV b5 b3 x1;rintro e w8 ⟨rfl,kN⟩;have XZ:=SS.out w8;obtain⟨w9,Ad⟩:=qaa (w8.alloc (.cells cS.toArray 131));rw[←Ad]at XZ;have tQ:Below w7.heap.size w7 w9:=by rw[Ad];exact kN.alloc kN.size _
  have UG:=qae ((tQ.block _ (ai K7.out)).trans K7.out);have QV:=qae ((tQ.block _ (ai O5.out)).trans O5.out);have NP:=(HI4.trans (dC.mono HI4.size)).trans (tQ.mono (HI4.trans (dC.mono HI4.size)).size);have Gj:=iH.trans (tQ.mono iH.size);have KW:=qae (kr.out.kept NP);replace Ad:=qae Ad;go_wp2_with fail;refine Reg2.rd w9 10 76 (Reg2.rows 0 [.p 0,.p 1,.p 3,.p 7,.p 0,.p 16,.p 0,.p 127,.p 0,.p 256]) [0,0,0,1,0,1,0,1,0,1] [.pure,.pure,.pure,.mU (.pointer (some ⟨p,0,none⟩)),.pure,.mU (.int .i64 xt),.pure,.minor Int 0 (fun x=>.int .i64 x) (fun x _=>BL (fun u=>aF M u 0) xt (xt+yl) x),.pure,.mU (.int .i64 yw)] (by kernel_rfl) (by kernel_rfl) rfl rfl ⟨trivial,trivial,trivial,Reg2.tt,trivial,Reg2.tt,trivial,⟨fun _ _ _ _ h=>h,fun _ _ _ _ h=>h⟩,trivial,Reg2.tt,trivial⟩ ⟨rfl,rfl,rfl,qaf _,fun _ _=>rfl⟩ ?_;dsimp only[Reg2.rows,Reg2.mk,List.zip,List.zipWith,List.take]
  repeat((first
   |(refine' Reg2.ak _ (by rfl) (fun wz=>?_) ?_;rotate_left;(go_simp;first|rfl|rw[qai (by omega)]))
   |(refine Reg2.az (by rfl) (fun wz hI hF=>?_) (fun _=>?_)
     ·unfold Reg2.One;have c0:=(KW.out.kept hI).c2;have q0:wz.cell? ⟨w.heap.size,1,none⟩=some (.int .i64 xt):=by simp[World.cell?,(hI.block _ (ai QV.out)).trans QV.out]
      go_wp2_with fail
      first|exact⟨_,rfl,rfl,qad⟩|exact⟨_,rfl,⟨(),rfl,trivial⟩,qad⟩));simp only[Act.put,xA,xB,xC,xD,xE,id])
  refine Reg2.pm (fun wz hI hF=>?_) (fun r7=>?_) (by rfl)
  ·go_wp2_with (go_at_call 147;go_must (refine(WK.out wz (NP.trans (hI.mono NP.size)) (xt+yl) (by omega)).mono ?_);rintro e w' ⟨mm,rfl,hB,hb5⟩);exact⟨_,rfl,⟨mm,rfl,hB⟩,hb5⟩
  simp only[Act.put,xA,xB,xC,xD,xE,id]
  repeat((first
   |(refine' Reg2.ak _ (by rfl) (fun wz=>?_) ?_;rotate_left;(go_simp;first|rfl|rw[qai (by omega)]))
   |(refine Reg2.az (by rfl) (fun wz hI hF=>?_) (fun _=>?_)
     ·unfold Reg2.One;have q0:wz.cell? ⟨Dv,2,none⟩=some (.int .i64 yw):=by simp[World.cell?,(hI.block _ (ai UG.out)).trans UG.out,y2]
      go_wp2_with fail
      first|exact⟨_,rfl,rfl,qad⟩|exact⟨_,rfl,⟨(),rfl,trivial⟩,qad⟩));simp only[Act.put,xA,xB,xC,xD,xE,id])
  refine Reg2.aD ?_;intro w12 UH _ K8;have hB:=K8.2.2.2.2.2.2.2.1;clear K8;dsimp only[List.drop];have hfin:=hro.out r7 (fun hp=>by rw[hP.out]at hp;cases hp) (by rw[hft.out,hP.out,qai (by decide)];exact hB);have X0:Hid (rb=decide (r7≥yw)):=by show _=_;rw[hfin]
  obtain rfl:=X0.out;go_wp2_with fail;go_ret;exact⟨rfl,Gj.trans (UH.mono Gj.size)⟩
 |true=>
  rw[hP]at hpl;have h0p:=(bQ.1 hP).2;rw[←hyp.out]at h0p;have ZL:Hid (cS[0]? =some (.int .i64 yp)):=by show _=_;rw[hs0,qaj hP]
  replace hP:=qae hP;replace hs0:=qae hs0;go_wp2_with fail;go_at_call 146;refine hpl.mono ?_;clear hpl VV b5 b3 x1;rintro e w8 ⟨rfl,kN⟩;have XZ:=SS.out w8;obtain⟨w9,Ad⟩:=qaa (w8.alloc (.cells cS.toArray 131));have hzs:w9.heap[w8.heap.size]? =some (.cells cS.toArray 131 (0,0)):=by rw[Ad];exact heap_alloc_new w8 _
  rw[←Ad]at XZ;have tQ:Below w7.heap.size w7 w9:=by rw[Ad];exact kN.alloc kN.size _
  have UG:=qae ((tQ.block _ (ai K7.out)).trans K7.out);have QV:=qae ((tQ.block _ (ai O5.out)).trans O5.out);have NP:=(HI4.trans (dC.mono HI4.size)).trans (tQ.mono (HI4.trans (dC.mono HI4.size)).size);have Gj:=iH.trans (tQ.mono iH.size);have KW:=qae (kr.out.kept NP);have cs0:w9.cell? ⟨w8.heap.size,0,none⟩=some (.int .i64 yp):=by simp[World.cell?,hzs,ZL.out]
  have x19:w9.cell? ⟨w.heap.size,1,none⟩=some (.int .i64 xt):=by simp[World.cell?,QV.out]
  replace hzs:=qae hzs;replace Ad:=qae Ad;by_cases hlt:yp≤xt
  ·have d5:decide (xt≥yp)=true:=qag hlt;have hfin:Hid (rb=false):=hrb.out.trans (NJ he0.out.symm (by rw[←hy.out];exact hP.out) (by rw[←hy.out,←hyp.out];exact hlt));obtain rfl:=hfin.out;replace hlt:=qae hlt;go_wp2_with fail;go_ret;exact⟨rfl,Gj⟩
  ·have d5:decide (xt≥yp)=false:=qah hlt;go_wp2_with fail;refine Reg2.rd w9 10 76 (Reg2.rows 0 [.p 0,.p 1,.p 3,.p 7,.p 0,.p 16,.p 0,.p 127,.p 0,.p 256]) [0,0,0,1,0,1,0,1,0,1] [.pure,.pure,.pure,.mU (.pointer (some ⟨p,0,none⟩)),.pure,.mU (.int .i64 xt),.pure,.minor Int 0 (fun x=>.int .i64 x) (fun x _=>BL (fun u=>aF M u 0) xt (min (xt+yl) yp) x),.pure,.mU (.int .i64 yw)] (by kernel_rfl) (by kernel_rfl) rfl rfl ⟨trivial,trivial,trivial,Reg2.tt,trivial,Reg2.tt,trivial,⟨fun _ _ _ _ h=>h,fun _ _ _ _ h=>h⟩,trivial,Reg2.tt,trivial⟩ ⟨rfl,rfl,rfl,qaf _,fun _ _=>rfl⟩ ?_;dsimp only[Reg2.rows,Reg2.mk,List.zip,List.zipWith,List.take]
   repeat((first
    |(refine' Reg2.ak _ (by rfl) (fun wz=>?_) ?_;rotate_left;(go_simp;first|rfl|rw[qai (by omega)]))
    |(refine Reg2.az (by rfl) (fun wz hI hF=>?_) (fun _=>?_)
      ·unfold Reg2.One;have c0:=(KW.out.kept hI).c2;have q0:wz.cell? ⟨w.heap.size,1,none⟩=some (.int .i64 xt):=by simp[World.cell?,(hI.block _ (ai QV.out)).trans QV.out]
       go_wp2_with fail
       first|exact⟨_,rfl,rfl,qad⟩|exact⟨_,rfl,⟨(),rfl,trivial⟩,qad⟩));simp only[Act.put,xA,xB,xC,xD,xE,id])
   refine Reg2.pm (fun wz hI hF=>?_) (fun r7=>?_) (by rfl)
   ·go_wp2_with (go_at_call 147;go_must (refine(WK.out wz (NP.trans (hI.mono NP.size)) (min (xt+yl) yp) (by omega)).mono ?_);rintro e w' ⟨mm,rfl,hB,hb5⟩);exact⟨_,rfl,⟨mm,rfl,hB⟩,hb5⟩
   simp only[Act.put,xA,xB,xC,xD,xE,id]
   repeat((first
    |(refine' Reg2.ak _ (by rfl) (fun wz=>?_) ?_;rotate_left;(go_simp;first|rfl|rw[qai (by omega)]))
    |(refine Reg2.az (by rfl) (fun wz hI hF=>?_) (fun _=>?_)
      ·unfold Reg2.One;have q0:wz.cell? ⟨Dv,2,none⟩=some (.int .i64 yw):=by simp[World.cell?,(hI.block _ (ai UG.out)).trans UG.out,y2]
       go_wp2_with fail
       first|exact⟨_,rfl,rfl,qad⟩|exact⟨_,rfl,⟨(),rfl,trivial⟩,qad⟩));simp only[Act.put,xA,xB,xC,xD,xE,id])
   refine Reg2.aD ?_;intro w12 UH _ K8;have hB:=K8.2.2.2.2.2.2.2.1;clear K8;dsimp only[List.drop];have hfin:=hro.out r7 (fun _=>by omega) (by rw[hft.out,hP.out,qaj rfl];exact hB);have X0:Hid (rb=decide (r7≥yw)):=by show _=_;rw[hfin]
   obtain rfl:=X0.out;go_wp2_with fail;go_ret;exact⟨rfl,Gj.trans (UH.mono Gj.size)⟩
theorem AL (h:CW w c t d p v g a m (au M))(hI:aS M)(h1:1≤M.dr.length)(hll:M.L.length≤900)(ha:a≤800)(xi xt:Int)(hxt: -9223372036854775808≤xt∧xt≤9223372036854775807):
 Calls prog 69 #[.pointer (some ⟨c,0,none⟩),.agg #[.int .i64 xi,.int .i64 xt]] w fun e w'=>e=.returned (.bool (eY M xi xt))∧Below w.heap.size w w':=by
 cases hc:M.cl with
 |true=>exact IL h hI h1 hll ha xi xt hxt hc
 |false=>exact NM h hI h1 hll ha xi xt hxt hc
end
end Go.Proofs.YtaimcpmcndapcaaGreat
