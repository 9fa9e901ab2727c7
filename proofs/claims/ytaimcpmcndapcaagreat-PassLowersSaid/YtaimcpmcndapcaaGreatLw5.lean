/-
 Own words and walks, merged: part 5 of 8.
-/
import Derived.Test.YtaimcpmcndapcaaGreatChecked
import Derived.WalkKit
import Derived.WalkSpells
import Derived.WalkLawsBesides
import Derived.Deep.DeepMust
import Derived.Lib.Hide
import Derived.LaidEql
import Derived.Laws.StructEq
import Derived.Shelf.SlicesQ.Load
import Derived.BigRegion
import Derived.Laws.EntriesVeiled
import Derived.Test.YtaimcpmcndapcaaGreatRows
import Derived.Lib.MinMax
import Derived.Test.YtaimcpmcndapcaaGreatLw4
set_option maxRecDepth 1000000
set_option maxHeartbeats 8000000
set_option linter.all false
namespace Go.Proofs.YtaimcpmcndapcaaGreat
open Go.Proofs.Tryz
open Go.RowKit Go.Sort Go.Lib
structure Xu (L L' : List (Int × Int)) (now : Int) (f : Int → Int) (t : Int) (i : Nat) : Prop where
 sm:Sm L' now f
 here:(i<L'.length∧tA L' i=t)∨(i=L'.length∧t=1152921504606846976)
 alt:∀X Y:Int→Prop,jM L X→(∀s,X s→Y s)→Y t→jM L' Y
 len:L'.length≤L.length+1
 pre:∀m,m<L.length→tA L m<t→m<L'.length∧tA L' m=tA L m
structure VS (L L' : List (Int × Int)) (now : Int) (f : Int → Int) (i : Nat) : Prop where
 sm:Sm L' now f
 alt:∀X Y:Int→Prop,jM L X→(∀s,X s→Y s∨(i<L.length∧s=tA L i))→jM L' Y
 len:L'.length≤L.length
 pre:∀m,m<i→m<L.length→m<L'.length∧tA L' m=tA L m
section
variable {w : World} {p g : Nat} {L : List (Int × Int)} {aF now : Int} {f : Int → Int}
theorem jM.mono {X Y:Int→Prop}(h:jM L X)(hX:∀s,X s→Y s):jM L Y:=fun i hi hY=>h i hi fun hx=>hY (hX _ hx)
theorem IZ (t:Int)(hs:Sm L now f)(hn:now≤t)(ht:t≤1152921504606846976)(hl:L.length≤900)(h:PW w p g L aF):
 Calls prog 206 #[.pointer (some ⟨p,0,none⟩),.int .i64 t] w fun e w'=>∃(i g':Nat) (L':List (Int×Int)),e=.returned (.int .i64 i)∧PW w' p g' L' aF∧(g'=g∨w.heap.size≤g')∧Off p g w w'∧Xu L L' now f t i:=by
 by_cases hF:t=1152921504606846976
 ·subst hF;refine(Gj h).mono ?_;rintro e w' ⟨rfl,rfl⟩;exact⟨L.length,g,L,rfl,h,.inl rfl,Off.refl _ _ _,⟨hs,.inr ⟨rfl,rfl⟩,fun X Y hX Gl _=>hX.mono Gl,by omega,fun m hm _=>⟨hm,rfl⟩⟩⟩
 ·obtain⟨i,hi⟩:=hs.ix t;by_cases he:tA L i=t
  ·refine(Ll t (by omega) hi he hs (by omega) h).mono ?_;rintro e w' ⟨rfl,hb⟩;exact⟨i,g,L,rfl,h.kept hb,.inl rfl,Off.of_below hb,⟨hs,.inl ⟨hi.lt,he⟩,fun X Y hX Gl _=>hX.mono Gl,by omega,fun m hm _=>⟨hm,rfl⟩⟩⟩
  ·refine(Ra t (by omega) hi he hs hl h).mono ?_;rintro e w' ⟨rfl,g',h1,h2,h3⟩;have hil:=hi.lt;have hll:=nQ (L:=L) (k:=i+1) (x:=(t,tV L i)) (by omega);have hle:=hi.uL hs hn;refine⟨i+1,g',jI L (i+1) (t,tV L i),by rw[show((i+1:Nat):Int)=(i:Int)+1 by omega],h1,h2,h3,⟨hs.ins hi hn he (by omega),.inl ⟨by omega,?_⟩,fun X Y hX Gl hY=>jM.ins hX hil Gl hY,by omega,fun m hm hlt=>⟨by omega,?_⟩⟩⟩
   ·rw[AQ (by omega),qai (by omega),qaj rfl]
   ·have Ig:m≤i:=by
     rcases Nat.lt_or_ge i m with h4|h4
     ·have:=hi.nx (by omega);have:=hs.le (i:=i+1) (j:=m) h4 hm;omega
     ·exact h4
    rw[AQ (by omega),qaj (by omega)]
theorem Eu (i:Nat)(hs:Sm L now f)(hl:L.length≤1000)(hil:i≤L.length)(h:PW w p g L aF):
 Calls prog 207 #[.pointer (some ⟨p,0,none⟩),.int .i64 i] w fun e w'=>∃L':List (Int×Int),e=.returned (.tuple #[])∧PW w' p g L' aF∧Off p g w w'∧VS L L' now f i:=by
 by_cases hy:0<i∧i<L.length∧tV L i=tV L (i-1)
 ·obtain⟨h0,h1,h2⟩:=hy;refine(OQ i h hl h0 h1 h2).mono ?_;rintro e w' ⟨rfl,h3,h4⟩;have hll:=qW h1;refine⟨_,rfl,h3,h4,⟨hs.del h0 h1 h2,fun X Y hX Gl=>jM.del hX h0 h1 h2 (fun s hx=>?_) (fun m hm vW=>?_) (fun m hm=>?_),by omega,fun m hm vW=>⟨by omega,?_⟩⟩⟩
  ·rcases Gl s hx with h5|⟨_,h5⟩
   ·exact .inl h5
   ·exact .inr h5
  ·have:=hs.lt hm vW;omega
  ·have:=hs.lt hm h1;omega
  ·rw[Fh h1,qaj hm]
 ·refine(Q9 i h hl hil hy).mono ?_;rintro e w' ⟨rfl,hb⟩;refine⟨L,rfl,h.kept hb,Off.of_below hb,⟨hs,fun X Y hX Gl m hm hY=>?_,qaf _,fun m _ vW=>⟨vW,rfl⟩⟩⟩;by_cases hx:X (tA L (m+1))
  ·rcases Gl _ hx with h5|⟨h5,h6⟩
   ·exact absurd h5 hY
   ·have e1:m+1=i:=by
     rcases Nat.lt_trichotomy (m+1) i with h7|h7|h7
     ·have:=hs.lt h7 h5;omega
     ·exact h7
     ·have:=hs.lt h7 hm;omega
    intro e2;refine hy ⟨by omega,h5,?_⟩;rw[←e1,Nat.add_sub_cancel];exact e2.symm
  ·exact hX m hm hx
theorem Ul {i:Nat}(v:Int)(h:PW w p g L aF)(hi:i<L.length):PW (w.setCell ⟨g,i*2+1,none⟩ (.int .i64 v)) p g (L.set i (tA L i,v)) aF:=by
 obtain⟨cap,F⟩:=h.facts;refine⟨cap,?_,?_⟩
 ·rw[List.length_set,Below.heap_setCell w ⟨g,i*2+1,none⟩ _ p F.pg];exact F.obj
 ·have h1:=(F.own.stored (i*2+1) (.int .i64 v)).1;rw[IP,List.length_set];have e:(aN L).set (i*2) (.int .i64 (tA L i))=aN L:=by
   have hg:=(Cf (Cg hi)).1;obtain⟨hlt,hv⟩:=List.getElem?_eq_some_iff.1 hg;rw[←hv];exact List.set_getElem_self hlt
  show World.ownsRow _ 0 _ 2 _ _ (((aN L).set (i*2) (.int .i64 (tA L i))).set (i*2+1) (.int .i64 v));rw[e];exact h1
theorem Um {i:Nat}{v:Int}(hi:i<L.length)(m:Nat):tA (L.set i (tA L i,v)) m=tA L m:=by
 unfold tA;rw[List.getD_eq_getElem?_getD,List.getD_eq_getElem?_getD,List.getElem?_set];split
 ·rename_i e;subst e;simp[hi]
 ·rfl
theorem Nq {i:Nat}{a v:Int}(hi:i<L.length)(m:Nat):tV (L.set i (a,v)) m=if m=i then v else tV L m:=by
 unfold tV;rw[List.getD_eq_getElem?_getD,List.getD_eq_getElem?_getD,List.getElem?_set];by_cases e:i=m
 ·subst e;simp[hi]
 ·rw[qai e,qai (by omega)]
theorem Lm (a b n:Int)(hC:Can L now f)(ha:now≤a)(hab:a<b)(hb:b≤1152921504606846976)(hf:∀t,now≤t→-1000≤f t∧f t≤1000)(hn: -1000≤n∧n≤1000)(hl:L.length≤800)(h:PW w p g L aF):
 Calls prog 179 #[.pointer (some ⟨p,0,none⟩),.int .i64 a,.int .i64 b,.int .i64 n] w fun e w'=>e=.returned (.tuple #[])∧∃(g':Nat) (L':List (Int×Int)),PW w' p g' L' aF∧(g'=g∨w.heap.size≤g')∧Off p g w w'∧Can L' now (fun t=>f t+had a b n t)∧L'.length≤L.length+2:=by
 have nA:=iw;have hcut:=IZ a hC.sm ha (by omega) (by omega) h;go_enter func179,ntmps179;go_wp2_with fail;go_at_call 206;refine hcut.mono ?_;clear hcut;rintro e w1 ⟨i,g1,L1,rfl,h1,hg1,ho1,yY⟩;have hl1:=yY.len;have hcut:=IZ b yY.sm (by omega) hb (by omega) h1;go_wp2_with fail;go_at_call 206;refine hcut.mono ?_;clear hcut;rintro e w2 ⟨j,g2,L2,rfl,h2,hg2,ho2,hC2⟩;have hl2:=hC2.len;have hi1:i<L1.length∧tA L1 i=a:=by
  rcases yY.here with h3|⟨h3,h4⟩
  ·exact h3
  ·omega
 obtain⟨hi2,hia⟩:=hC2.pre i hi1.1 (by omega);rw[hi1.2]at hia;have hij:i≤j:=by
  rcases hC2.here with⟨h3,h4⟩|⟨h3,_⟩
  ·exact Nat.le_of_lt (hC2.sm.Qj hi2 h3 (by omega))
  ·omega
 have hjl:j≤L2.length:=by
  rcases hC2.here with⟨h3,_⟩|⟨h3,_⟩<;>omega
 have Lp:jM L2 (fun s=>s=a∨s=b):=hC2.alt (fun s=>s=a) _ (yY.alt _ _ hC.alt (fun s hs=>hs.elim) rfl) (fun s hs=>.inl hs) (.inr rfl);have hgw:g2=g∨w.heap.size≤g2:=by have:=ho1.size;omega
 have qf:Off p g w w2:=ho1.trans ho2 hg1;have hv2:∀m,m<L2.length→-1000≤tV L2 m∧tV L2 m≤1000:=fun m hm=>by
  rw[←hC2.sm.rep m (tA L2 m) hm (Int.le_refl _) (fun hx=>hC2.sm.inc m hx)];exact hf _ (hC2.sm.uI hm)
 have Xv:=qae hl1;have Xw:=qae hl2;replace hi1:=qae hi1;replace hia:=qae hia;replace Lp:=qae Lp;replace hgw:=qae hgw;replace qf:=qae qf;replace hf:=qae hf;replace hv2:=qae hv2;clear h h1 ho1 ho2 hg1 hg2;have hL2:L2.length≤900:=by omega
 clear hl1 hl2;go_wp2_with fail;go_loopw [10] (fun kk wr=>∃(q:Nat) (Lk:List (Int×Int)),i≤q∧q≤j∧kk=.int .i64 q∧PW wr p g2 Lk aF∧AR L2 Lk i q n∧Off p g2 w2 wr) (fun kk _=>j-(intOf kk).toNat)
 case atStart=>exact⟨i,L2,qaf _,hij,rfl,h2,⟨rfl,fun _=>rfl,fun m _=>by rw[qai (by omega)];omega⟩,Off.refl _ _ _⟩
 case round=>
  obtain⟨q,Lk,hiq,hqj,rfl,Un,hR,hoff⟩:=hrel;by_cases hlt:q<j
  ·have Lr:q<Lk.length:=by rw[hR.len];omega
   obtain⟨cap,F⟩:=Un.facts;have c0:=F.c0;have s1:=(step_cells F.own Lr).2;have fz:=F.own.frozenAt (q*2+1);have hv:tV Lk q=tV L2 q:=by rw[hR.v q (by omega),qai (by omega)];omega
   rw[hv]at s1;have hvb:=hv2.out q (by omega);obtain⟨x,hx⟩:=qaa (tV L2 q);rw[←hx]at s1 hvb;have hw1:IntKind.i64.wrap (x+n)=x+n:=IntWalk.i64_in _ (by omega);have hw2:IntKind.i64.wrap ((q:Int)+1)=(q:Int)+1:=IntWalk.i64_in _ (by omega);have b1:(0:Int)≤q:=by omega
   have b2:(q:Int)<(Lk.length:Int):=by omega
   have b3:(q:Int)<(j:Int):=by omega
   have hnew:=Ul (x+n) Un Lr;have Ls:Off p g2 w2 (wr.setCell ⟨g2,q*2+1,none⟩ (.int .i64 (x+n))):=hoff.setCell (.inr (.inl rfl));have VT:AR L2 (Lk.set q (tA Lk q,x+n)) i (q+1) n:=by
    refine⟨by rw[List.length_set];exact hR.len,fun m=>by rw[Um Lr];exact hR.a m,fun m hm=>?_⟩;rw[Nq Lr];by_cases e:m=q
    ·subst e;rw[qaj rfl,qaj (by omega),←hx]
    ·rw[qai e,hR.v m hm];by_cases hc:i≤m∧m<q
     ·rw[qaj hc,qaj (by omega)]
     ·rw[qai hc,qai (by omega)]
   replace hnew:=qae hnew;replace Ls:=qae Ls;replace VT:=qae VT;replace hx:=qae hx;replace hv:=qae hv;clear F Un hR hoff;go_wp2_with fail;go_roundw
   case rel=>exact⟨q+1,_,by omega,by omega,by go_num,hnew.out,VT.out,Ls.out⟩
   case measure=>simp[intOf];omega
  ·obtain rfl:q=j:=by omega
   have hs3:Sm Lk now (fun t=>f t+had a b n t):=hC2.sm.raise hR hi2 hia.out hC2.here;have Lt:jM Lk (fun s=>s=a∨s=b):=Lp.out.raise hR hia.out hC2.here (fun s hs=>hs) (.inl rfl) (.inr rfl);have hll:=hR.len;have hj1:=Eu q hs3 (by omega) (by omega) Un;have hlt':¬((q:Int)<(q:Int)):=by omega
   have Xx:=qae hR.a;clear hR;replace hs3:=qae hs3;replace Lt:=qae Lt;replace hll:=qae hll;go_wp2_with fail;go_at_call 207;refine hj1.mono ?_;clear hj1;rintro e w4 ⟨L4,rfl,h4,uj,Lu⟩;have hb4:(q<Lk.length∧b=tA Lk q)∨b=1152921504606846976:=by
    rcases hC2.here with⟨h5,h6⟩|⟨_,h6⟩
    ·exact .inl ⟨by rw[hll.out];exact h5,by rw[Xx.out];exact h6.symm⟩
    ·exact .inr h6
   have Lv:jM L4 (fun s=>s=a∨s=1152921504606846976):=Lu.alt _ _ Lt.out fun s hs=>by
    rcases hs with rfl|rfl
    ·exact .inl (.inl rfl)
    ·rcases hb4 with⟨h5,h6⟩|h6
     ·exact .inr ⟨h5,h6⟩
     ·exact .inl (.inr h6)
   have Xy:i<q:=by
    rcases hC2.here with⟨h5,h6⟩|⟨h5,h6⟩
    ·exact hC2.sm.Qj hi2 h5 (by have:=hia.out;omega)
    ·omega
   obtain⟨hi4,Nr⟩:=Lu.pre i Xy (by rw[hll.out];exact hi2);rw[Xx.out,hia.out]at Nr;have hl4:=Lu.len;have hj2:=Eu i Lu.sm (by have:=hll.out;omega) (Nat.le_of_lt hi4) h4;replace Nr:=qae Nr;replace Lv:=qae Lv;replace hb4:=qae hb4;go_wp2_with fail;go_at_call 207;refine hj2.mono ?_;clear hj2;rintro e w5 ⟨L5,rfl,h5,Cq,Rc⟩;have Re:jM L5 (fun s=>s=1152921504606846976):=Rc.alt _ _ Lv.out fun s hs=>by
    rcases hs with rfl|rfl
    ·exact .inr ⟨hi4,Nr.out.symm⟩
    ·exact .inl rfl
   have Ev:Hid (Can L5 now (fun t=>f t+had a b n t)):=⟨Rc.sm,fun m hm _=>Re m hm fun e=>by have:=Rc.sm.top (m+1) hm;omega⟩;have hl5:Hid (L5.length≤L.length+2):=by
    show _≤_;have:=Rc.len;have:=hll.out;have:=Xv.out;have:=Xw.out;omega
   have qd:Hid (Off p g w w5):=(qf.out.trans (((hoff.trans uj (.inl rfl)).trans Cq (.inl rfl))) hgw.out);clear Re Rc Cq uj h4;replace h5:=qae h5;go_wp2_with fail;go_end0;exact⟨rfl,g2,L5,h5.out,hgw.out,qd.out,Ev.out,hl5.out⟩
end
section
variable {L : List (Int × Int)} {now : Int} {f : Int → Int}
theorem ic.mono (hs:Sm L now f){s t:Int}{i j:Nat}(hi:ic L s i)(hj:ic L t j)(hst:s≤t):i≤j:=by
 rcases Nat.lt_or_ge j i with h1|h1
 ·have h2:=hj.nx (by have:=hi.lt;omega);have h3:=hi.le (by omega);have h4:=hs.le (i:=j+1) (j:=i) h1 hi.lt;omega
 ·exact h1
theorem Ew (hs:Sm L now f){lo hi:Int}{i j:Nat}(h1:ic L lo i)(h2:ic L (hi-1) j)(hn:now≤lo)(hlt:lo<hi):
 i≤j∧(∀t,lo≤t→t<hi→∃q,i≤q∧q≤j∧f t=tV L q)∧∀q,i≤q→q≤j→∃t,lo≤t∧t<hi∧f t=tV L q:=by
 have hij:=h1.mono hs h2 (by omega);refine⟨hij,fun t h3 h4=>?_,fun q h3 h4=>?_⟩
 ·obtain⟨q,hq⟩:=hs.ix t;exact⟨q,h1.mono hs hq h3,hq.mono hs h2 (by omega),hq.val hs (by omega)⟩
 ·have hjl:=h2.lt;have Lr:q<L.length:=by omega
  have hjle:=h2.uL hs (by omega);have hqj:=hs.le h4 hjl;have hnx:q+1<L.length→lo<tA L (q+1):=fun hx=>by
   have h5:=h1.nx (by omega);have h6:=hs.le (i:=i+1) (j:=q+1) (by omega) hx;omega
  refine⟨max (tA L q) lo,by omega,by omega,hs.rep q _ Lr (by omega) fun hx=>?_⟩;have:=hnx hx;have:=hs.inc q hx;omega
end
section
variable {w : World} {p g : Nat} {L : List (Int × Int)} {aF now : Int} {f : Int → Int}
theorem Dy (a b:Int)(Xp: -9223372036854775808≤b∧b≤9223372036854775807)(hs:Sm L now f)(hn:0≤now)(hl:L.length≤1000)(h:PW w p g L aF):
 Calls prog 147 #[.pointer (some ⟨p,0,none⟩),.int .i64 a,.int .i64 b] w fun e w'=>∃m:Int,e=.returned (.int .i64 m)∧BL f (max a now) b m∧Below w.heap.size w w':=by
 have hno:=dS h hs.pos;by_cases hab:b≤max a now
 ·have hp:=Cm a b h hs.pos (by rw[hs.hd];exact hab);have hB:Hid (BL f (max a now) b 64):=⟨Int.le_refl _,fun t h1 h2=>by omega,.inl rfl⟩;go_enter func147,ntmps147;go_wp2_with (first|(go_at_call 75;go_must (refine hno.mono ?_);rintro e w' ⟨rfl,rfl⟩)|(go_at_call 178;go_must (refine hp.mono ?_);rintro e w' ⟨rfl,rfl⟩));go_loopw [7,17] (fun u i wr=>u=.int .i64 64∧i=.int .i64 0∧wr=w) (fun _ _ _=>0)
  case atStart=>exact⟨rfl,rfl,rfl⟩
  case round=>
   obtain⟨rfl,rfl,rfl⟩:=hrel;go_wp2_with fail;go_ret;exact⟨64,rfl,hB.out,Below.refl _ _⟩
 ·obtain⟨m0,hm0⟩:=qaa (max a now);obtain⟨i,hi⟩:=hs.ix m0;obtain⟨j,hj⟩:=hs.ix (b-1);obtain⟨hij,hall,hone⟩:=Ew hs hi hj (by omega) (by omega);rw[←hm0]at hab⊢;obtain⟨cap,F⟩:=h.facts;have hp:=Cn a b m0 (by rw[hs.hd];exact hm0.symm) (by omega) (by omega) hi hj hij hs hl h F;have hjl:=hj.lt;obtain⟨c,hc⟩:=qaa (j+1-i);obtain⟨cc,hcc⟩:=qaa (cap-i);rw[←hc,←hcc]at hp;have sJ:=F.own;clear F;replace hi:=qae hi;replace hj:=qae hj;replace hall:=qae hall;replace hone:=qae hone;replace hc:=qae hc;replace hcc:=qae hcc;replace hm0:=qae hm0;go_enter func147,ntmps147;go_wp2_with (go_at_call 75;go_must (refine hno.mono ?_);rintro e w' ⟨rfl,rfl⟩);go_at_call 178;refine hp.mono ?_;clear hp hno;rintro e w1 ⟨rfl,hb1⟩;go_wp2_with fail;go_loopw [7,17] (fun u k wr=>∃(q:Nat) (m:Int),q≤c∧k=.int .i64 q∧u=.int .i64 m∧m≤64∧(∀r,r<q→m≤tV L (i+r))∧(m=64∨∃r,r<q∧m=tV L (i+r))∧Below w.heap.size w wr) (fun _ k _=>c-(intOf k).toNat)
  case atStart=>exact⟨0,64,Nat.zero_le _,rfl,rfl,Int.le_refl _,fun r hr=>by omega,.inl rfl,hb1⟩
  case round=>
   obtain⟨q,m,hq,rfl,rfl,Xz,hlo,hex,hbr⟩:=hrel;by_cases hlt:q<c
   ·have hcv:=hc.out;have hown:=bF sJ hbr;obtain⟨s0,s1⟩:=step_cells hown (show i+q<L.length by omega);rw[Nat.add_mul]at s0 s1;obtain⟨x,hx⟩:=qaa (tV L (i+q));obtain⟨y,hy⟩:=qaa (tA L (i+q));rw[←hx]at s1;rw[←hy]at s0;have hsz:=hbr.size;have hw2:IntKind.i64.wrap ((q:Int)+1)=(q:Int)+1:=IntWalk.i64_in _ (by omega);have b1:(0:Int)≤q:=by omega
    have b2:(q:Int)<(c:Int):=by omega
    have hbd:Below w.heap.size w (wr.alloc (.cells #[.int .i64 y,.int .i64 x] 58)):=hbr.alloc hsz _;have hlo2:Hid (∀r,r<q+1→min m x≤tV L (i+r)):=fun r hr=>by
     rcases Nat.lt_or_ge r q with h5|h5
     ·have:=hlo r h5;omega
     ·have:r=q:=by omega
      subst this;rw[←hx];omega
    have XA:Hid (min m x=64∨∃r,r<q+1∧min m x=tV L (i+r)):=by
     show _∨_;rcases Int.lt_or_le x m with h5|h5
     ·exact .inr ⟨q,by omega,by rw[←hx];omega⟩
     ·have e:min m x=m:=by omega
      rw[e];rcases hex with h6|⟨r,h6,h7⟩
      ·exact .inl h6
      ·exact .inr ⟨r,by omega,h7⟩
    replace hx:=qae hx;replace hy:=qae hy;clear hlo hex hcv hown;go_wp2_with fail;go_roundw
    case rel=>exact⟨q+1,min m x,by omega,by go_num,rfl,by omega,hlo2.out,XA.out,hbd⟩
    case measure=>simp[intOf];omega
   ·obtain rfl:q=c:=by omega
    have hB:Hid (BL f m0 b m):=by
     refine⟨Xz,fun t h1 h2=>?_,?_⟩
     ·obtain⟨r,h3,h4,h5⟩:=hall.out t h1 h2;have:=hlo (r-i) (by have:=hc.out;omega);rw[show i+(r-i)=r by omega]at this;omega
     ·rcases hex with h6|⟨r,h6,h7⟩
      ·exact .inl h6
      ·obtain⟨t,h3,h4,h5⟩:=hone.out (i+r) (by omega) (by have:=hc.out;omega);exact .inr ⟨t,h3,h4,by omega⟩
    clear hlo hex;go_wp2_with fail;go_ret;exact⟨m,rfl,hB.out,hbr⟩
end
def sK (f:Int→Int)(now a b n e:Int)(f':Int→Int)(dv:Int):Prop:=
 ((b≤a∨1152921504606846976<b∨n< -64∨64<n)∧e=1∧f'=f∧dv=0)∨
 (¬(b≤a∨1152921504606846976<b∨n< -64∨64<n)∧(b≤max a now∨n=0)∧e=0∧f'=f∧dv=0)∨
 (¬(b≤a∨1152921504606846976<b∨n< -64∨64<n)∧¬(b≤max a now∨n=0)∧(∃t,max a now≤t∧t<b∧(f t+n<0∨64<f t+n))∧e=5∧f'=f∧dv=0)∨
 (¬(b≤a∨1152921504606846976<b∨n< -64∨64<n)∧¬(b≤max a now∨n=0)∧(∀t,max a now≤t→t<b→0≤f t+n∧f t+n≤64)∧e=0∧f'=(fun t=>f t+had (max a now) b n t)∧dv=1)
theorem sK.uniq {f g f' g':Int→Int}{now a b n e e2 dv XB:Int}(h:sK f now a b n e f' dv)(h':sK g now a b n e2 g' XB)(hfg:∀t,now≤t→f t=g t):e=e2∧dv=XB∧∀t,now≤t→f' t=g' t:=by
 rcases h with⟨a1,rfl,rfl,rfl⟩|⟨a1,a2,rfl,rfl,rfl⟩|⟨a1,a2,a3,rfl,rfl,rfl⟩|⟨a1,a2,a3,rfl,rfl,rfl⟩<;>
  rcases h' with⟨c1,rfl,rfl,rfl⟩|⟨c1,c2,rfl,rfl,rfl⟩|⟨c1,c2,c3,rfl,rfl,rfl⟩|⟨c1,c2,c3,rfl,rfl,rfl⟩<;>
  first
  |exact⟨rfl,rfl,hfg⟩
  |exact absurd c1 a1
  |exact absurd a1 c1
  |exact absurd c2 a2
  |exact absurd a2 c2
  |(obtain⟨t,h1,h2,h3⟩:=a3;have:=c3 t h1 h2;have:=hfg t (by omega);omega)
  |(obtain⟨t,h1,h2,h3⟩:=c3;have:=a3 t h1 h2;have:=hfg t (by omega);omega)
  |exact⟨rfl,rfl,fun t ht=>by show f t+_=g t+_;rw[hfg t ht]⟩
theorem Sm.late {L:List (Int×Int)}{now:Int}{f:Int→Int}(h:Sm L now f)(t:Int)(ht:1152921504606846975≤t):f t=f 1152921504606846975:=by
 obtain⟨i,hi⟩:=h.ix t;have hn:now<1152921504606846976:=by rw[←h.hd];exact h.top 0 h.pos
 have hi2:ic L 1152921504606846975 i:=⟨hi.lt,fun _=>by have:=h.top i hi.lt;omega,fun hx=>by have:=hi.nx hx;have:=h.top (i+1) hx;omega⟩;rw[hi.val h (by omega),hi2.val h (by omega)]
theorem sK.range {f f':Int→Int}{now a b n e dv:Int}(h:sK f now a b n e f' dv)(hf:∀t,now≤t→0≤f t∧f t≤64)(VU:∀t,1152921504606846975≤t→f t=f 1152921504606846975):∀t,now≤t→0≤f' t∧f' t≤64:=by
 rcases h with⟨a1,rfl,rfl,rfl⟩|⟨a1,a2,rfl,rfl,rfl⟩|⟨a1,a2,a3,rfl,rfl,rfl⟩|⟨a1,a2,a3,rfl,rfl,rfl⟩
 ·exact hf
 ·exact hf
 ·exact hf
 ·intro t ht;show 0≤f t+had (max a now) b n t∧f t+had (max a now) b n t≤64;unfold had;split
  ·rename_i h1
   by_cases h2:t<b
   ·exact a3 t h1.1 h2
   ·have h3:b=1152921504606846976:=by omega
    rw[VU t (by omega)];exact a3 1152921504606846975 (by omega) (by omega)
  ·have:=hf t ht;omega
section
variable {w : World} {p g : Nat} {L : List (Int × Int)} {aF now : Int} {f : Int → Int}
theorem Ns (v:Int)(h:PW w p g L aF):PW (w.setCell ⟨p,1,none⟩ (.int .i64 v)) p g L v:=by
 obtain⟨cap,F⟩:=h.facts;have hlt:=F.pl;have h1':w.heap[p]=_:=(Array.getElem?_eq_some_iff.1 F.obj).2;refine⟨cap,by simp[World.setCell,hlt,Array.getElem_modify,h1'],sV F.own (fun k hk=>by cases hk;exact fun e=>F.pg e.symm) 1 _⟩
def bO (w:World)(p g:Nat)(L:List (Int×Int))(aF now:Int)(f:Int→Int)(a b n:Int)(e:Ending)(w':World):Prop:=
 ∃(r dv:Int) (f':Int→Int) (g':Nat) (L':List (Int×Int)),e=.returned (.int .i64 r)∧sK f now a b n r f' dv∧PW w' p g' L' (aF+dv)∧Can L' now f'∧(g'=g∨w.heap.size≤g')∧Off p g w w'∧L'.length≤L.length+2
theorem bO.same {a b n r:Int}{w':World}(h:PW w p g L aF)(hC:Can L now f)(hR:sK f now a b n r f 0)(hb:Below w.heap.size w w'):bO w p g L aF now f a b n (.returned (.int .i64 r)) w':=
 ⟨r,0,f,g,L,rfl,hR,by rw[Int.add_zero];exact h.kept hb,hC,.inl rfl,Off.of_below hb,by omega⟩
theorem Rf (a b n:Int)(hC:Can L now f)(h:PW w p g L aF)(hbad:b≤a∨1152921504606846976<b∨n< -64∨64<n):
 Calls prog 132 #[.pointer (some ⟨p,0,none⟩),.int .i64 a,.int .i64 b,.int .i64 n] w (bO w p g L aF now f a b n):=by
 have hno:=dS h hC.sm.pos;have hfin:Hid (bO w p g L aF now f a b n (.returned (.int .i64 1)) w):=bO.same h hC (.inl ⟨hbad,rfl,rfl,rfl⟩) qac;by_cases h1:b≤a
 ·go_enter func132,ntmps132;go_wp2_with (go_at_call 75;go_must (refine hno.mono ?_);rintro e w' ⟨rfl,rfl⟩);go_ret;exact hfin.out
 ·by_cases h2:1152921504606846976<b
  ·go_enter func132,ntmps132;go_wp2_with (go_at_call 75;go_must (refine hno.mono ?_);rintro e w' ⟨rfl,rfl⟩);go_ret;exact hfin.out
  ·by_cases h3:n< -64
   ·go_enter func132,ntmps132;go_wp2_with (go_at_call 75;go_must (refine hno.mono ?_);rintro e w' ⟨rfl,rfl⟩);go_ret;exact hfin.out
   ·have h4:64<n:=by omega
    go_enter func132,ntmps132;go_wp2_with (go_at_call 75;go_must (refine hno.mono ?_);rintro e w' ⟨rfl,rfl⟩);go_ret;exact hfin.out
theorem OT (a b n:Int)(hC:Can L now f)(h:PW w p g L aF)(hok:¬(b≤a∨1152921504606846976<b∨n< -64∨64<n))(hz:b≤max a now):
 Calls prog 132 #[.pointer (some ⟨p,0,none⟩),.int .i64 a,.int .i64 b,.int .i64 n] w (bO w p g L aF now f a b n):=by
 have hno:=dS h hC.sm.pos;have hp:=Cm a b h hC.sm.pos (by rw[hC.sm.hd];exact hz);have hfin:Hid (bO w p g L aF now f a b n (.returned (.int .i64 0)) w):=bO.same h hC (.inr (.inl ⟨hok,.inl hz,rfl,rfl,rfl⟩)) qac;have h1:¬(b≤a):=by omega
 have h2:¬(1152921504606846976<b):=by omega
 have h3:¬(n< -64):=by omega
 have h4:¬(64<n):=by omega
 clear hok hz;go_enter func132,ntmps132;go_wp2_with (first|(go_at_call 75;go_must (refine hno.mono ?_);rintro e w' ⟨rfl,rfl⟩)|(go_at_call 178;go_must (refine hp.mono ?_);rintro e w' ⟨rfl,rfl⟩));go_ret;exact hfin.out
theorem OU (a b n:Int)(hC:Can L now f)(hn0:0≤now)(hf:∀t,now≤t→0≤f t∧f t≤64)(xN:0≤aF∧aF≤1000000)(hl:L.length≤800)(h:PW w p g L aF)(hok:¬(b≤a∨1152921504606846976<b∨n< -64∨64<n))(hz:¬b≤max a now):
 Calls prog 132 #[.pointer (some ⟨p,0,none⟩),.int .i64 a,.int .i64 b,.int .i64 n] w (bO w p g L aF now f a b n):=by
 have hno:=dS h hC.sm.pos;obtain⟨m0,hm0⟩:=qaa (max a now);obtain⟨i,hi⟩:=hC.sm.ix m0;obtain⟨j,hj⟩:=hC.sm.ix (b-1);obtain⟨hij,hall,hone⟩:=Ew hC.sm hi hj (by omega) (by omega);obtain⟨cap,F⟩:=h.facts;have hp:=Cn a b m0 (by rw[hC.sm.hd];exact hm0.symm) (by omega) (by omega) hi hj hij hC.sm (by omega) h F;have hjl:=hj.lt;obtain⟨c,hc⟩:=qaa (j+1-i);obtain⟨cc,hcc⟩:=qaa (cap-i);rw[←hc,←hcc]at hp;have sJ:=F.own;clear F;have h1:¬(b≤a):=by omega
 have h2:¬(1152921504606846976<b):=by omega
 have h3:¬(n< -64):=by omega
 have h4:¬(64<n):=by omega
 have hc0:((c:Int) == 0)=false:=beq_eq_false_iff_ne.2 (by omega);have hc0':¬((c:Int)=0):=by omega
 have VV:Hid (now≤m0∧m0<b):=by show _∧_;omega
 replace hi:=qae hi;replace hj:=qae hj;replace hall:=qae hall;replace hone:=qae hone;replace hc:=qae hc;replace hcc:=qae hcc;replace hf:=qae hf;by_cases hn:n=0
 ·have hfin:Hid (∀w1,Below w.heap.size w w1→bO w p g L aF now f a b n (.returned (.int .i64 0)) w1):=fun w1 hb=>bO.same h hC (.inr (.inl ⟨hok,.inr hn,rfl,rfl,rfl⟩)) hb;clear hok hz;subst hn;replace hm0:=qae hm0;go_enter func132,ntmps132;go_wp2_with (first|(go_at_call 75;go_must (refine hno.mono ?_);rintro e w' ⟨rfl,rfl⟩)|(go_at_call 178;go_must (refine hp.mono ?_);rintro e w1 ⟨rfl,hb1⟩));go_ret;exact hfin.out _ hb1
 ·have hn':(n == 0)=false:=beq_eq_false_iff_ne.2 hn;have hz':¬(b≤max a now∨n=0):=by omega
  have hbad:Hid (∀w1 t,Below w.heap.size w w1→m0≤t→t<b→(f t+n<0∨64<f t+n)→bO w p g L aF now f a b n (.returned (.int .i64 5)) w1):=fun w1 t hb h5 h6 h7=>bO.same h hC (.inr (.inr (.inl ⟨hok,hz',⟨t,by omega,h6,h7⟩,rfl,rfl,rfl⟩))) hb;have hgood:Hid ((∀t,m0≤t→t<b→0≤f t+n∧f t+n≤64)→sK f now a b n 0 (fun t=>f t+had m0 b n t) 1):=fun hx=>.inr (.inr (.inr ⟨hok,hz',fun t h5 h6=>hx t (by omega) h6,rfl,by rw[hm0],rfl⟩));have VW:max a (tA L 0)=m0:=by rw[hC.sm.hd];exact hm0.symm
  clear hok hz hz';replace hm0:=qae hm0;go_enter func132,ntmps132;go_wp2_with (go_at_call 75;go_must (refine hno.mono ?_);rintro e w' ⟨rfl,rfl⟩);go_at_call 178;refine hp.mono ?_;clear hp hno;rintro e w1 ⟨rfl,hb1⟩;go_wp2_with fail;go_loopw [43] (fun k wr=>∃(q:Nat),q≤c∧k=.int .i64 q∧(∀r,r<q→0≤tV L (i+r)+n∧tV L (i+r)+n≤64)∧Below w.heap.size w wr) (fun k _=>c-(intOf k).toNat)
  case atStart=>exact⟨0,Nat.zero_le _,rfl,fun r hr=>by omega,hb1⟩
  case round=>
   obtain⟨q,hq,rfl,hlo,hbr⟩:=hrel;by_cases hlt:q<c
   ·have hcv:=hc.out;have hown:=bF sJ hbr;obtain⟨s0,s1⟩:=step_cells hown (show i+q<L.length by omega);rw[Nat.add_mul]at s0 s1;have XC:=hone.out (i+q) (by omega) (by omega);obtain⟨x,hx⟩:=qaa (tV L (i+q));obtain⟨y,hy⟩:=qaa (tA L (i+q));rw[←hx]at s1 XC;rw[←hy]at s0;obtain⟨t,ht1,ht2,ht3⟩:=XC;have qH:=hf.out t (by have:=VV.out;omega);rw[ht3]at qH;have hsz:=hbr.size;have hw1:IntKind.i64.wrap (x+n)=x+n:=IntWalk.i64_in _ (by omega);have hw2:IntKind.i64.wrap ((q:Int)+1)=(q:Int)+1:=IntWalk.i64_in _ (by omega);have b1:(0:Int)≤q:=by omega
    have b2:(q:Int)<(c:Int):=by omega
    have hbd:Below w.heap.size w (wr.alloc (.cells #[.int .i64 y,.int .i64 x] 58)):=hbr.alloc hsz _;have Cr:Hid (x+n<0∨64<x+n→∀w1,Below w.heap.size w w1→bO w p g L aF now f a b n (.returned (.int .i64 5)) w1):=fun h5 w1 h6=>hbad.out w1 t h6 ht1 ht2 (by rw[ht3];exact h5);clear hbad;by_cases h5:x+n<0
    ·have hh:=Cr.out (.inl h5) _ hbd;replace hh:=qae hh;replace hx:=qae hx;replace hy:=qae hy;replace ht3:=qae ht3;clear hlo hcv hown Cr;go_wp2_with fail;go_ret;exact hh.out
    ·by_cases h6:64<x+n
     ·have hh:=Cr.out (.inr h6) _ hbd;replace hh:=qae hh;replace hx:=qae hx;replace hy:=qae hy;replace ht3:=qae ht3;clear hlo hcv hown Cr;go_wp2_with fail;go_ret;exact hh.out
     ·have hlo2:Hid (∀r,r<q+1→0≤tV L (i+r)+n∧tV L (i+r)+n≤64):=fun r hr=>by
       rcases Nat.lt_or_ge r q with h7|h7
       ·exact hlo r h7
       ·have:r=q:=by omega
        subst this;rw[←hx];omega
      replace hx:=qae hx;replace hy:=qae hy;replace ht3:=qae ht3;clear hlo hcv hown Cr;go_wp2_with fail;go_roundw
      case rel=>exact⟨q+1,by omega,by go_num,hlo2.out,hbd⟩
      case measure=>simp[intOf];omega
   ·obtain rfl:q=c:=by omega
    have hR:=hgood.out fun t h5 h6=>by
     obtain⟨r,h7,h8,h9⟩:=hall.out t h5 h6;have:=hlo (r-i) (by have:=hc.out;omega);rw[show i+(r-i)=r by omega]at this;rw[h9];exact this
    have Dz:=h.kept hbr;have hnw:=lN Dz hC.sm.pos;have hsh:=Lm m0 b n hC VV.out.1 VV.out.2 (by omega) (fun t ht=>by have:=hf.out t ht;omega) (by omega) hl Dz;have hwv:IntKind.i64.wrap (aF+1)=aF+1:=IntWalk.i64_in _ (by omega);replace hR:=qae hR;clear hlo hbad hgood h sJ Dz;go_wp2_with (go_at_call 45;go_must (refine hnw.mono ?_);rintro e w' ⟨rfl,rfl⟩);go_at_call 179;refine hsh.mono ?_;clear hsh hnw;rintro e w5 ⟨rfl,g5,L5,h5,hg5,Cq,gK,hl5⟩;obtain⟨cap5,F5⟩:=h5.facts;have c1:=F5.c1;have fz:=F5.fz 1;clear F5;have hnew:=Ns (aF+1) h5;have hpost:Hid (bO w p g L aF now f a b n (.returned (.int .i64 0)) (w5.setCell ⟨p,1,none⟩ (.int .i64 (aF+1)))):=
     ⟨0,1,_,g5,L5,rfl,hR.out,hnew,gK,by have:=hbr.size;omega,((Off.of_below hbr).trans Cq (.inl rfl)).setCell (.inl rfl),hl5⟩
    clear hnew h5 gK Cq hg5 hl5 hR;go_wp2_with fail;go_ret;exact hpost.out
theorem zU (a b n:Int)(hC:Can L now f)(hn0:0≤now)(hf:∀t,now≤t→0≤f t∧f t≤64)(xN:0≤aF∧aF≤1000000)(hl:L.length≤800)(h:PW w p g L aF):
 Calls prog 132 #[.pointer (some ⟨p,0,none⟩),.int .i64 a,.int .i64 b,.int .i64 n] w (bO w p g L aF now f a b n):=by
 by_cases hbad:b≤a∨1152921504606846976<b∨n< -64∨64<n
 ·exact Rf a b n hC h hbad
 ·by_cases hz:b≤max a now
  ·exact OT a b n hC h hbad hz
  ·exact OU a b n hC hn0 hf xN hl h hbad hz
end
section
variable {w : World} {p g : Nat} {L : List (Int × Int)} {aF now : Int} {f : Int → Int}
theorem bO.ahead {a b n:Int}{w0 w':World}{e:Ending}(h:bO w p g L aF now f a b n e w')(hb:Below w0.heap.size w0 w):bO w0 p g L aF now f a b n e w':=by
 obtain⟨r,dv,f',g',L',h1,h2,h3,h4,h5,h6,h7⟩:=h;exact⟨r,dv,f',g',L',h1,h2,h3,h4,by have:=hb.size;omega,(Off.of_below hb).trans h6 (.inl rfl),h7⟩
theorem zV (a b n k:Int)(hn:0≤n∧n≤64)(hk:k=1∨k= -1)(hC:Can L now f)(hn0:0≤now)(hf:∀t,now≤t→0≤f t∧f t≤64)(xN:0≤aF∧aF≤1000000)(hl:L.length≤800)(h:PW w p g L aF):
 Calls prog 224 #[.pointer (some ⟨p,0,none⟩),.agg #[.int .i64 a,.int .i64 b,.int .i64 n],.int .i64 k] w (bO w p g L aF now f a b (k*n)):=by
 obtain⟨m,hm⟩:=qaa (k*n);have hmw:IntKind.i64.wrap (k*n)=m:=by rw[←hm];exact IntWalk.i64_in _ (by rcases hk with rfl|rfl<;>omega)
 have hb1:Below w.heap.size w (w.alloc (.cells #[.int .i64 a,.int .i64 b,.int .i64 n] 131)):=qac.alloc (qaf _) _;have h1:=h.kept hb1;have hno:=dS h1 hC.sm.pos;have hadd:=zU a b m hC hn0 hf xN hl h1;rw[←hm];have hn1:¬(n<0):=by omega
 have hn2:¬(64<n):=by omega
 replace hm:=qae hm;replace hf:=qae hf;clear hk hn h;go_enter func224,ntmps224;go_wp2_with (go_at_call 75;go_must (refine hno.mono ?_);rintro e w' ⟨rfl,rfl⟩);go_at_call 132;refine hadd.mono ?_;clear hadd hno;intro e w2 hp;obtain⟨r,dv,f',g',L',rfl,hrest⟩:=hp;have hfin:Hid (bO w p g L aF now f a b m (.returned (.int .i64 r)) w2):=bO.ahead (w:=w.alloc (.cells #[.int .i64 a,.int .i64 b,.int .i64 n] 131)) ⟨r,dv,f',g',L',rfl,hrest⟩ hb1;clear hrest h1 hb1;go_wp2_with fail;go_ret;exact hfin.out
theorem rQ (a b n:Int)(hn:0≤n∧n≤64)(hC:Can L now f)(hn0:0≤now)(hf:∀t,now≤t→0≤f t∧f t≤64)(xN:0≤aF∧aF≤1000000)(hl:L.length≤800)(h:PW w p g L aF):
 Calls prog 202 #[.pointer (some ⟨p,0,none⟩),.agg #[.int .i64 a,.int .i64 b,.int .i64 n]] w (bO w p g L aF now f a b (-n)):=by
 have hb1:Below w.heap.size w (w.alloc (.cells #[.int .i64 a,.int .i64 b,.int .i64 n] 131)):=qac.alloc (qaf _) _;have hch:=zV a b n (-1) hn (.inr rfl) hC hn0 hf xN hl (h.kept hb1);rw[show(-1:Int)*n= -n by omega]at hch;replace hf:=qae hf;clear hn h;go_enter func202,ntmps202;go_wp2_with fail;go_at_call 224;refine hch.mono ?_;clear hch;intro e w2 hp;obtain⟨r,dv,f',g',L',rfl,hrest⟩:=hp;have hfin:Hid (bO w p g L aF now f a b (-n) (.returned (.int .i64 r)) w2):=bO.ahead (w:=w.alloc (.cells #[.int .i64 a,.int .i64 b,.int .i64 n] 131)) ⟨r,dv,f',g',L',rfl,hrest⟩ hb1;clear hrest hb1;go_wp2_with fail;go_ret;exact hfin.out
theorem xO (a b n:Int)(hn:0≤n∧n≤64)(hC:Can L now f)(hn0:0≤now)(hf:∀t,now≤t→0≤f t∧f t≤64)(xN:0≤aF∧aF≤1000000)(hl:L.length≤800)(h:PW w p g L aF):
 Calls prog 200 #[.pointer (some ⟨p,0,none⟩),.agg #[.int .i64 a,.int .i64 b,.int .i64 n]] w (bO w p g L aF now f a b n):=by
 have hb1:Below w.heap.size w (w.alloc (.cells #[.int .i64 a,.int .i64 b,.int .i64 n] 131)):=qac.alloc (qaf _) _;have hch:=zV a b n 1 hn (.inl rfl) hC hn0 hf xN hl (h.kept hb1);rw[show(1:Int)*n=n by omega]at hch;replace hf:=qae hf;clear hn h;go_enter func200,ntmps200;go_wp2_with fail;go_at_call 224;refine hch.mono ?_;clear hch;intro e w2 hp;obtain⟨r,dv,f',g',L',rfl,hrest⟩:=hp;have hfin:Hid (bO w p g L aF now f a b n (.returned (.int .i64 r)) w2):=bO.ahead (w:=w.alloc (.cells #[.int .i64 a,.int .i64 b,.int .i64 n] 131)) ⟨r,dv,f',g',L',rfl,hrest⟩ hb1;clear hrest hb1;go_wp2_with fail;go_ret;exact hfin.out
theorem I1 (n:Int)(w:World)(h:0≤n∧n≤64):Calls prog 62 #[.int .i64 n] w fun e w'=>∃p g:Nat,e=.returned (.tuple #[.pointer (some ⟨p,0,none⟩),.int .i64 0])∧PW w' p g [(0,n)] 0∧w.heap.size≤p∧w.heap.size≤g∧Below w.heap.size w w':=by
 have h1:¬(n<0):=by omega
 have h2:¬(64<n):=by omega
 have hp:Hid (∀w2,w2=((w.alloc (.cells #[.int .i64 0,.int .i64 n] 58)).alloc (.cells #[.slice (some ⟨w.heap.size,0,none⟩) 1 1,.int .i64 0] 125))→PW w2 (w.heap.size+1) w.heap.size [(0,n)] 0):=by
  rintro w2 rfl;have ho:(w.alloc (.cells #[.int .i64 0,.int .i64 n] 58)).ownsRow 0 58 2 (.slice (some ⟨w.heap.size,0,none⟩) 1 1) 1 (aN [(0,n)]):=qm (vs:=[.int .i64 0,.int .i64 n]) rfl (Nat.zero_le _) rfl (by decide);refine⟨1,?_,bF ho (qac.alloc (qaf _) _)⟩;have:=heap_alloc_new (w.alloc (.cells #[.int .i64 0,.int .i64 n] 58)) (.cells #[.slice (some ⟨w.heap.size,0,none⟩) 1 1,.int .i64 0] 125);simpa using this
 have hb:Below w.heap.size w ((w.alloc (.cells #[.int .i64 0,.int .i64 n] 58)).alloc (.cells #[.slice (some ⟨w.heap.size,0,none⟩) 1 1,.int .i64 0] 125)):=(qac.alloc (qaf _) _).alloc (by simp) _;clear h;go_enter func62,ntmps62;go_wp2_with fail;go_ret2;exact⟨w.heap.size+1,rfl,w.heap.size,hp.out _ rfl,by omega,qaf _,hb⟩
theorem Rh (n:Int):Can [(0,n)] 0 (fun _=>n):=
 ⟨⟨by simp,rfl,fun i hi=>by simp at hi,fun i hi=>by simp at hi;subst hi;simp[tA],fun i t hi _ _=>by simp at hi;subst hi;simp[tV]⟩,fun i hi=>by simp at hi⟩
def pW (L:List (Int×Int))(f:Int→Int)(lo long width:Int)(q:Nat)(t:Int):Prop:=
 (lo≤t∧(∀u,lo≤u→u<t→¬Good f long width u)∧(∀x,t≤x→(q<L.length→x<tA L q)→width≤f x))∨(t=1152921504606846976∧q=L.length∧∀u,lo≤u→u<1152921504606846976→¬Good f long width u)
theorem pW.start {lo long width:Int}{q:Nat}(hs:Sm L now f)(hq:ic L lo q)(hn:now≤lo):pW L f lo long width q lo:=
 .inl ⟨Int.le_refl _,fun u h1 h2=>by omega,fun x h1 h2=>by have:=h2 hq.lt;have:=hq.uL hs hn;omega⟩
theorem pW.good {lo long width t:Int}{q:Nat}(hs:Sm L now f)(h:pW L f lo long width q t)(hq:q<L.length)(hv:width≤tV L q):pW L f lo long width (q+1) t:=by
 rcases h with⟨h1,h2,h3⟩|⟨_,h2,_⟩
 ·refine .inl ⟨h1,h2,fun x h4 h5=>?_⟩;rcases Int.lt_or_le x (tA L q)with h6|h6
  ·exact h3 x h4 fun _=>h6
  ·rw[hs.rep q x hq h6 h5];exact hv
 ·omega
theorem pW.bad {lo long width t:Int}{q:Nat}(hs:Sm L now f)(h:pW L f lo long width q t)(hq:q<L.length)(hv:tV L q<width)(hlt:tA L q-t<long){q0:Nat}(hq0:ic L lo q0)(hqq:q0≤q)(hl1:1≤long):pW L f lo long width (q+1) (tE L q):=by
 rcases h with⟨h1,h2,h3⟩|⟨_,h2,_⟩
 ·have hno:∀u,lo≤u→u<tE L q→¬Good f long width u:=by
   intro u h4 h5 hg;rcases Int.lt_or_le u t with h6|h6
   ·exact h2 u h4 h6 hg
   ·have hw:=hg (max u (tA L q)) (by omega) (by omega);have hnx:q+1<L.length→max u (tA L q)<tA L (q+1):=fun hx=>by
     have:=hs.inc q hx;unfold tE at h5;rw[qaj hx]at h5;omega
    rw[hs.rep q _ hq (by omega) hnx]at hw;omega
  by_cases hx:q+1<L.length
  ·have hE:tE L q=tA L (q+1):=qaj hx;rw[hE]at hno⊢;have h4:=hq0.nx (by omega);have h5:=hs.le (i:=q0+1) (j:=q+1) (by omega) hx;exact .inl ⟨by omega,hno,fun x h4 h5=>by have:=h5 hx;omega⟩
  ·have hE:tE L q=1152921504606846976:=qai hx;rw[hE]at hno⊢;exact .inr ⟨rfl,by omega,hno⟩
 ·omega
theorem pW.done {lo long width t:Int}{q:Nat}(h:pW L f lo long width q t)(hstop:q<L.length→long≤tA L q-t):(1099511627776<t→qX f lo long width 0 16)∧(t≤1099511627776→qX f lo long width t 0):=by
 rcases h with⟨h1,h2,h3⟩|⟨h1,h2,h3⟩
 ·refine⟨fun h4=>.inr ⟨rfl,rfl,fun u h5 h6=>h2 u h5 (by omega)⟩,fun h4=>.inl ⟨rfl,h1,h4,fun x h5 h6=>h3 x h5 fun hx=>?_,h2⟩⟩;have:=hstop hx;omega
 ·exact⟨fun _=>.inr ⟨rfl,rfl,fun u h5 h6=>h3 u h5 (by omega)⟩,fun h4=>by omega⟩
theorem DC (a long width:Int)(ha: -9223372036854775808≤a∧a≤9223372036854775807)(hs:Sm L now f)(hn:0≤now)(hl:L.length≤1000)(h:PW w p g L aF)(hok:¬(long<1∨1048576<long∨width<1∨64<width)):
 Calls prog 201 #[.pointer (some ⟨p,0,none⟩),.int .i64 a,.int .i64 long,.int .i64 width] w fun e w'=>∃t e':Int,e=.returned (.tuple #[.int .i64 t,.int .i64 e'])∧qX f (max a now) long width t e'∧Below w.heap.size w w':=by
 have hno:=dS h hs.pos;have hnw:=lN h hs.pos;obtain⟨lo,hlo⟩:=qaa (max a now);obtain⟨q0,hq0⟩:=hs.ix lo;have hat:=wL lo hq0 hs hl h;have hlo2:now≤lo∧lo≤9223372036854775807:=by have h5:=hs.top 0 hs.pos;rw[hs.hd]at h5;omega
 have VW:max a (tA L 0)=lo:=by rw[hs.hd];exact hlo.symm
 have hst:=pW.start (long:=long) (width:=width) hs hq0 hlo2.1;rw[←hlo];have h1:¬(long<1):=by omega
 have h2:¬(1048576<long):=by omega
 have h3:¬(width<1):=by omega
 have h4:¬(64<width):=by omega
 have ZH:=hq0.lt;clear hok;replace hlo:=qae hlo;replace hq0:=qae hq0;go_enter func201,ntmps201;go_wp2_with (first|(go_at_call 75;go_must (refine hno.mono ?_);rintro e w' ⟨rfl,rfl⟩)|(go_at_call 45;go_must (refine hnw.mono ?_);rintro e w' ⟨rfl,rfl⟩)|(go_at_call 131;go_must (refine hat.mono ?_);rintro e w1 ⟨rfl,hb1⟩));go_loopw [10,11] (fun tt qq wr=>∃(t:Int) (q:Nat),tt=.int .i64 t∧qq=.int .i64 q∧q0≤q∧q≤L.length∧0≤t∧t≤9223372036854775807∧pW L f lo long width q t∧Below w.heap.size w wr) (fun _ qq _=>L.length-(intOf qq).toNat)
 case atStart=>exact⟨lo,q0,rfl,rfl,qaf _,by omega,by omega,by omega,hst,hb1⟩
 case round=>
  obtain⟨t,q,rfl,rfl,hqq,Lr,ht0,ht1,hI,hbr⟩:=hrel;have Dz:=h.kept hbr;obtain⟨cap,F⟩:=Dz.facts;have c0:=F.c0;by_cases hlt:q<L.length
  ·obtain⟨s0,s1⟩:=step_cells F.own hlt;have hend:=Q6 Dz hlt hl;have hv:=hs.top q hlt;have hge:=hs.uI hlt;have d1:decide ((q:Int)<(L.length:Int))=true:=qag (by omega);have b1:(0:Int)≤q:=by omega
   have b2:(q:Int)<(L.length:Int):=by omega
   obtain⟨x,hx⟩:=qaa (tA L q);obtain⟨y,hy⟩:=qaa (tV L q);rw[←hx]at s0 hv hge;rw[←hy]at s1;have hw1:IntKind.i64.wrap (x-t)=x-t:=IntWalk.i64_in _ (by omega);have hw2:IntKind.i64.wrap ((q:Int)+1)=(q:Int)+1:=IntWalk.i64_in _ (by omega);by_cases hc:x-t<long
   ·have d2:decide (x-t<long)=true:=qag hc;by_cases hv2:y<width
    ·have hI2:Hid (pW L f lo long width (q+1) (tE L q)):=hI.bad hs hlt (by rw[←hy];exact hv2) (by rw[←hx];exact hc) hq0.out hqq (by omega);have hE:0≤tE L q∧tE L q≤9223372036854775807:=by
      unfold tE;split
      ·rename_i hx2
       have:=hs.uI hx2;have:=hs.top _ hx2;omega
      ·omega
     obtain⟨z,hz⟩:=qaa (tE L q);rw[←hz]at hend hI2 hE;replace hx:=qae hx;replace hy:=qae hy;replace hz:=qae hz;clear hI F Dz;go_wp2_with (go_at_call 225;go_must (refine hend.mono ?_);rintro e w5 ⟨rfl,rfl⟩);go_roundw
     case rel=>exact⟨z,q+1,rfl,by go_num,by omega,by omega,hE.1,hE.2,hI2.out,hbr⟩
     case measure=>simp[intOf];omega
    ·have hI2:Hid (pW L f lo long width (q+1) t):=hI.good hs hlt (by rw[←hy];omega);replace hx:=qae hx;replace hy:=qae hy;clear hI F Dz hend;go_wp2_with fail;go_roundw
     case rel=>exact⟨t,q+1,rfl,by go_num,by omega,by omega,ht0,ht1,hI2.out,hbr⟩
     case measure=>simp[intOf];omega
   ·have d2:decide (x-t<long)=false:=qah hc;have hD:=hI.done (fun _=>by rw[←hx];omega);replace hx:=qae hx;replace hy:=qae hy;clear hI F Dz hend;by_cases hm:1099511627776<t
    ·have hD1:=qae (hD.1 hm);clear hD;go_wp2_with fail;go_ret2;exact⟨0,16,rfl,hD1.out,hbr⟩
    ·have hD1:=qae (hD.2 (by omega));clear hD;go_wp2_with fail;go_ret2;exact⟨t,0,rfl,hD1.out,hbr⟩
  ·have hD:=hI.done (fun hx=>absurd hx hlt);have d1:decide ((q:Int)<(L.length:Int))=false:=qah (by omega);clear hI F Dz;by_cases hm:1099511627776<t
   ·have hD1:=qae (hD.1 hm);clear hD;go_wp2_with fail;go_ret2;exact⟨0,16,rfl,hD1.out,hbr⟩
   ·have hD1:=qae (hD.2 (by omega));clear hD;go_wp2_with fail;go_ret2;exact⟨t,0,rfl,hD1.out,hbr⟩
end
def U1 (now t e now' dv:Int):Prop:=
 ((t<now∨1099511627776<t)∧e=5∧now'=now∧dv=0)∨(¬(t<now∨1099511627776<t)∧t=now∧e=0∧now'=now∧dv=0)∨(¬(t<now∨1099511627776<t)∧t≠now∧e=0∧now'=t∧dv=1)
section
variable {w : World} {p g : Nat} {L : List (Int × Int)} {aF now : Int} {f : Int → Int}
theorem Ri {cap:Nat}(k:Nat)(ho:w.ownsRow 0 58 2 (.slice (some ⟨g,0,none⟩) L.length cap) L.length (aN L))(hl:L.length≤1000)(hk:k≤L.length):
 Calls prog 230 #[.slice (some ⟨g,0,none⟩) L.length cap,.int .i64 0,.int .i64 k] w fun e w'=>e=.returned (.slice (some ⟨g,0,none⟩) (L.length-k) cap)∧w'.ownsRow 0 58 2 (.slice (some ⟨g,0,none⟩) (L.length-k) cap) (L.length-k) (aN (L.drop k))∧Off g g w w':=by
 have h:=zT 0 k ho hl (Nat.zero_le _) hk;rw[List.take_zero,xD,List.length_drop]at h;exact h
theorem Rj (t:Int)(h:PW w p g L aF)(hi:0<L.length):PW (w.setCell ⟨g,0,none⟩ (.int .i64 t)) p g (L.set 0 (t,tV L 0)) aF:=by
 obtain⟨cap,F⟩:=h.facts;refine⟨cap,?_,?_⟩
 ·rw[List.length_set,Below.heap_setCell w ⟨g,0,none⟩ _ p F.pg];exact F.obj
 ·have h1:=(F.own.stored 0 (.int .i64 t)).1;rw[IP,List.length_set];have e:((aN L).set 0 (.int .i64 t)).set 1 (.int .i64 (tV L 0))=(aN L).set 0 (.int .i64 t):=by
   have hg:=(Cf (Cg hi)).2;obtain⟨hlt,hv⟩:=List.getElem?_eq_some_iff.1 hg;rw[List.set_comm _ _ (by decide)];have h2:(aN L).set 1 (.int .i64 (tV L 0))=aN L:=by
    have hv':(aN L)[1]'(by simpa using hlt)=.int .i64 (tV L 0):=by simpa using hv
    rw[←hv'];exact List.set_getElem_self _
   rw[h2]
  show World.ownsRow _ 0 _ 2 _ _ (((aN L).set 0 (.int .i64 t)).set 1 (.int .i64 (tV L 0)));rw[e];exact h1
def I4 (w:World)(g:Nat)(L:List (Int×Int))(k cap:Nat):List Value→World→Prop
 | [],W=>Below w.heap.size w W
 |_::_,W=>W.ownsRow 0 58 2 (.slice (some ⟨g,0,none⟩) (L.length-k) cap) (L.length-k) (aN (L.drop k))∧Off g g w W
theorem I4.ext {w:World}{g:Nat}{L:List (Int×Int)}{k cap:Nat}:∀(vs:List Value) (W W':World),Reg2.Ext W W'→I4 w g L k cap vs W→I4 w g L k cap vs W':=by
 intro vs W W' he h;cases vs with
 |nil=>exact Below.trans h (he.mono (Below.size h))
 |cons v vs=>exact⟨bF h.1 he,h.2.nD he⟩
def pE (w:World)(p g:Nat)(L:List (Int×Int))(aF now:Int)(f:Int→Int)(t:Int)(e:Ending)(w':World):Prop:=
 ∃(r dv now':Int) (L':List (Int×Int)),e=.returned (.int .i64 r)∧U1 now t r now' dv∧PW w' p g L' (aF+dv)∧Can L' now' f∧Off p g w w'∧L'.length≤L.length
theorem XE (t:Int)(hC:Can L now f)(h:PW w p g L aF)(hbad:t<now∨1099511627776<t):
 Calls prog 265 #[.pointer (some ⟨p,0,none⟩),.int .i64 t] w (pE w p g L aF now f t):=by
 have hno:=dS h hC.sm.pos;have hnw:=lN h hC.sm.pos;rw[hC.sm.hd]at hnw;have hfin:Hid (pE w p g L aF now f t (.returned (.int .i64 5)) w):=⟨5,0,now,L,rfl,.inl ⟨hbad,rfl,rfl,rfl⟩,by rw[Int.add_zero];exact h,hC,Off.refl _ _ _,qaf _⟩;by_cases h1:t<now
 ·go_enter func265,ntmps265;go_wp2_with (first|(go_at_call 75;go_must (refine hno.mono ?_);rintro e w' ⟨rfl,rfl⟩)|(go_at_call 45;go_must (refine hnw.mono ?_);rintro e w' ⟨rfl,rfl⟩));go_ret;exact hfin.out
 ·have h2:1099511627776<t:=by omega
  clear hbad;go_enter func265,ntmps265;go_wp2_with (first|(go_at_call 75;go_must (refine hno.mono ?_);rintro e w' ⟨rfl,rfl⟩)|(go_at_call 45;go_must (refine hnw.mono ?_);rintro e w' ⟨rfl,rfl⟩));go_ret;exact hfin.out
theorem OV (hC:Can L now f)(h:PW w p g L aF)(hm:now≤1099511627776):
 Calls prog 265 #[.pointer (some ⟨p,0,none⟩),.int .i64 now] w (pE w p g L aF now f now):=by
 have hno:=dS h hC.sm.pos;have hnw:=lN h hC.sm.pos;rw[hC.sm.hd]at hnw;have hfin:Hid (pE w p g L aF now f now (.returned (.int .i64 0)) w):=⟨0,0,now,L,rfl,.inr (.inl ⟨by omega,rfl,rfl,rfl,rfl⟩),by rw[Int.add_zero];exact h,hC,Off.refl _ _ _,qaf _⟩;have h1:¬(now<now):=by omega
 have h2:¬(1099511627776<now):=by omega
 go_enter func265,ntmps265;go_wp2_with (first|(go_at_call 75;go_must (refine hno.mono ?_);rintro e w' ⟨rfl,rfl⟩)|(go_at_call 45;go_must (refine hnw.mono ?_);rintro e w' ⟨rfl,rfl⟩));go_ret;exact hfin.out
theorem Uo (t:Int)(hC:Can L now f)(h:PW w p g L aF)(xN:0≤aF∧aF≤1000000)(hl:L.length≤1000)(hlt:now<t)(hm:t≤1099511627776):
 Calls prog 265 #[.pointer (some ⟨p,0,none⟩),.int .i64 t] w (pE w p g L aF now f t):=by
 have nA:=iw;have hno:=dS h hC.sm.pos;have hnw:=lN h hC.sm.pos;rw[hC.sm.hd]at hnw;obtain⟨k,hk⟩:=hC.sm.ix t;have hkl:=hk.lt;obtain⟨cap,F⟩:=h.facts;have c0:=F.c0;have pl:=F.pl;have pg:=F.pg;have sJ:=F.own;have IY:=F.obj;clear F;have h1:¬(t<now):=by omega
 have h2:¬(1099511627776<t):=by omega
 have h3:(t == now)=false:=beq_eq_false_iff_ne.2 (by omega);have hwv:IntKind.i64.wrap (aF+1)=aF+1:=IntWalk.i64_in _ (by omega);have Ev:Hid (∀L':List (Int×Int),L'=(L.drop k).set 0 (t,tV (L.drop k) 0)→Can L' t f∧L'.length≤L.length∧0<L'.length):=by
  rintro L' rfl;have hdl:(L.drop k).length=L.length-k:=List.length_drop;have hd0:0<(L.drop k).length:=by omega
  have gD:∀m,tA (L.drop k) m=tA L (m+k)∧tV (L.drop k) m=tV L (m+k):=fun m=>by
   unfold tA tV;rw[List.getD_eq_getElem?_getD,List.getD_eq_getElem?_getD,List.getElem?_drop,Nat.add_comm];exact⟨rfl,rfl⟩
  refine⟨hC.later hk (by omega) (by omega) (by rw[List.length_set];exact hdl) ?_ (fun m hm0=>?_) (fun m=>?_),by rw[List.length_set];omega,by rw[List.length_set];omega⟩
  ·unfold tA;rw[List.getD_eq_getElem?_getD,List.getElem?_set_self hd0];rfl
  ·rw[←(gD m).1];unfold tA;rw[List.getD_eq_getElem?_getD,List.getD_eq_getElem?_getD,List.getElem?_set,qai (by omega)]
  ·rw[Nq hd0,←(gD m).2];split
   ·rename_i e;subst e;rfl
   ·rfl
 replace hk:=qae hk;go_enter func265,ntmps265;go_wp2_with (first|(go_at_call 75;go_must (refine hno.mono ?_);rintro e w' ⟨rfl,rfl⟩)|(go_at_call 45;go_must (refine hnw.mono ?_);rintro e w' ⟨rfl,rfl⟩));refine Reg2.sO 9 44 (Reg2.rows 0 [.p 0,.p 0,.p 2,.p 6,.p 14,.p 0,.p 0,.p 96,.p 254]) [0,0,0,0,1,0,0,2,3]
  [.pure,.pure,.pure,.pure,.mU (.slice (some ⟨g,0,none⟩) L.length cap),.pure,.pure,.pinned Unit () (fun _=>.int .i64 k) (fun _ _=>True),.major Unit () (fun _=>.slice (some ⟨g,0,none⟩) (L.length-k) cap)]
  (fun W=>Off g g w W) (I4 w g L k cap) (fun W W'=>Off g g W W') (by kernel_rfl) (by kernel_rfl) rfl rfl I4.ext ?_ ?_ ?_ ?_ ?_ ?_
 ·intro a b he hb;exact hb.nD he
 ·intro a b hg hb;exact hb.trans hg (.inl rfl)
 ·refine⟨trivial,trivial,trivial,trivial,⟨?_,?_⟩,trivial,trivial,⟨?_,?_⟩,trivial,trivial⟩
  all_goals(intro x a b hk hx;exact trivial)
 ·exact(Off.refl _ _ _).drew
 ·exact qac.drew
 dsimp only[Reg2.rows,Reg2.mk,List.zip,List.zipWith,List.take]
 repeat(refine' Reg2.ak _ (by rfl) (fun wz=>?_) ?_;rotate_left;(go_simp;first|rfl|rw[qai (by omega)]);simp only[Act.put,xA,xB,xC];(try simp only[xD]);(try simp only[xE]))
 refine Reg2.pm (fun wz hI hF=>?_) (fun x4=>?_) (by rfl)
 ·have d0:wz.cell? ⟨p,0,none⟩=_:=(hI.cell (a:=⟨p,0,none⟩) pl pg pg).trans c0;go_wp2_with fail;exact⟨_,rfl,⟨(),rfl,trivial⟩,qad⟩
 simp only[Act.put,xA,xB,xC,xD,xE,id]
 repeat(refine' Reg2.ak _ (by rfl) (fun wz=>?_) ?_;rotate_left;(go_simp;first|rfl|rw[qai (by omega)]);simp only[Act.put,xA,xB,xC];(try simp only[xD]);(try simp only[xE]))
 refine Reg2.pp (fun wz hI hS hF=>?_) (fun x7=>?_) (by rfl)
 ·have hS1:Below w.heap.size w wz:=hS;go_wp2_with (go_at_call 131;go_must (refine(wL t hk.out hC.sm hl (h.kept hS1)).mono ?_);rintro e w1 ⟨rfl,Ck⟩);exact⟨_,rfl,⟨(),rfl,trivial⟩,Ck⟩
 simp only[Act.put,xA,xB,xC,xD,xE,id];refine Reg2.pj (fun wz hI hS hF=>?_) (fun x8=>?_) (by rfl)
 ·have hS1:Below w.heap.size w wz:=hS;go_wp2_with (go_at_call 230;go_must (refine(Ri k (bF sJ hS1) hl (Nat.le_of_lt hkl)).mono ?_);rintro e w5 ⟨rfl,VR,Rb⟩);exact⟨_,rfl,⟨⟨(),rfl⟩,VR,(Off.of_below hS1).trans Rb (.inl rfl)⟩,Rb⟩
 simp only[Act.put,xA,xB,xC,xD,xE,id];refine Reg2.aB ?_;intro w3 HI3 KX _;obtain⟨ho3,rP⟩:=KX;have hp3:=IY;rw[←rP.block p pl pg pg]at hp3;have d0:w3.cell? ⟨p,0,none⟩=_:=(rP.cell (a:=⟨p,0,none⟩) pl pg pg).trans c0;have dz:w3.frozen? ⟨p,0,none⟩=false:=by simp[World.frozen?,hp3]
 obtain⟨w4,hw4⟩:=qaa (w3.setCell ⟨p,0,none⟩ (.slice (some ⟨g,0,none⟩) (L.length-k) cap));have nJ:PW w4 p g (L.drop k) aF:=by
  rw[hw4];have:=Gi (L':=L.drop k) hp3 (cap':=cap) (g':=g) (by rw[List.length_drop];exact ho3);rw[List.length_drop]at this;exact this
 have rO:Off p g w w4:=by rw[hw4];exact rP.mono.setCell (.inl rfl)
 have hd0:0<(L.drop k).length:=by rw[List.length_drop];omega
 have wM:=Rj t nJ hd0;have qd:=rO.setCell (j:=0) (v:=.int .i64 t) (.inr (.inl rfl));obtain⟨cap4,F4⟩:=nJ.facts;have k0:=F4.c0;have s0:=(step_cells F4.own hd0).1;have z0:=F4.own.frozenAt 0;rw[Nat.zero_mul]at s0;obtain⟨w5,Ci⟩:=qaa (w4.setCell ⟨g,0,none⟩ (.int .i64 t));rw[←Ci]at wM qd;obtain⟨cap5,F5⟩:=wM.facts;have k1:=F5.c1;have z1:=F5.fz 1;have XF:=Ns (aF+1) wM;have Rk:=qd.setCell (j:=1) (v:=.int .i64 (aF+1)) (.inl rfl);obtain⟨hc1,hc2,hc3⟩:=Ev.out _ rfl;have hfin:Hid (pE w p g L aF now f t (.returned (.int .i64 0)) (w5.setCell ⟨p,1,none⟩ (.int .i64 (aF+1)))):=⟨0,1,t,_,rfl,.inr (.inr ⟨by omega,by omega,rfl,rfl,rfl⟩),XF,hc1,Rk,hc2⟩;have hdp:(0:Int)<((L.drop k).length:Int):=by omega
 obtain⟨nn,hnn⟩:=qaa ((L.drop k).length);obtain⟨xx,OW⟩:=qaa (tA (L.drop k) 0);rw[←hnn]at k0 hdp;rw[←OW]at s0;clear HI3 ho3 rP hp3 c0 sJ IY nJ rO wM qd F4 F5 XF Rk hc1 hc2 hc3 Ev h hnw hno;replace hnn:=qae hnn;replace OW:=qae OW;dsimp only[List.drop];show wpList _ _ _ [_,_,_] _ _;subst hw4;subst Ci;go_wp2_with fail;go_ret;exact hfin.out
end
structure Pg where
 now:Int
 J:List Jb
 T:List Int
 f:Int→Int
 cl:Bool
def dY (c t d p:Nat)(v:Value)(g:Nat)(k:Nat):Prop:=k=c∨k=t∨k=d∨k=p∨v.ownBlock=some k∨k=g
def PR (w:World)(p g:Nat)(a:Nat)(m:Int)(now:Int)(f:Int→Int):Prop:=
 ∃S aF,PW w p g S aF∧Can S now f∧S.length≤a∧0≤aF∧aF≤m
structure CW (w : World) (c t d p : Nat) (v : Value) (g : Nat) (a : Nat) (m : Int) (P : Pg) : Prop where
 cell:w.heap[c]? =some (.cells #[.pointer (some ⟨t,0,none⟩),.pointer (some ⟨d,0,none⟩),.pointer (some ⟨p,0,none⟩),.bool true,.bool P.cl] 48 (0,0))
 eU:TV w t v P.J
 nodes:TW w d P.T
 mh:PR w p g a m P.now P.f
structure CS (w w' : World) (c t d p : Nat) (v : Value) (g : Nat) (v' : Value) (g' : Nat) : Prop where
 off:gB (dY c t d p v g) w w'
 grew:ni w (dY c t d p v g) (dY c t d p v' g')
section
variable {w w' w1 w2 : World} {c t d p g g' g1 g2 a a' : Nat} {v v' v1 v2 : Value} {m m' : Int} {P : Pg}
theorem CS.refl (w:World):CS w w c t d p v g v g:=⟨gB.refl _ _,ni.refl _ _⟩
theorem CS.of_below (h:Below w.heap.size w w1):CS w w1 c t d p v g v g:=⟨gB.of_below h,ni.refl _ _⟩
theorem CS.trans (h:CS w w1 c t d p v g v1 g1)(h':CS w1 w2 c t d p v1 g1 v2 g2):CS w w2 c t d p v g v2 g2:=
 ⟨h.off.trans h'.off h.grew,h.grew.trans h'.grew h.off.size⟩
theorem CS.heap (h:CS w w1 c t d p v g v1 g1){k:Nat}(hk:k<w.heap.size)(hn:¬dY c t d p v g k):w1.heap[k]? =w.heap[k]? :=h.off.block k hk hn
theorem CS.below {B:Nat}(h:CS w w1 c t d p v g v1 g1)(hS:∀k,dY c t d p v g k→B≤k)(hB:B≤w.heap.size):Below B w w1:=h.off.below hS hB
theorem CS.lo {B:Nat}(h:CS w w1 c t d p v g v1 g1)(hS:∀k,dY c t d p v g k→B≤k)(hB:B≤w.heap.size):∀k,dY c t d p v1 g1 k→B≤k:=fun k hk=>(h.grew k hk).elim (hS k) (fun hle=>Nat.le_trans hB hle)
theorem PW.at {S:List (Int×Int)}{aF:Int}(h:PW w p g S aF):∃cs,w.heap[p]? =some (.cells cs 125 (0,0)):=by obtain⟨cap,h1,_⟩:=h;exact⟨_,h1⟩
theorem PW.XG {S:List (Int×Int)}{aF:Int}(h:PW w p g S aF):∃cs,w.heap[g]? =some (.cells cs 58 (0,0)):=by
 obtain⟨cap,_,h2⟩:=h;exact iH h2 rfl
theorem CW.types (h:CW w c t d p v g a m P){k:Nat}(hk:dY c t d p v g k):∃cs T,w.heap[k]? =some (.cells cs T (0,0))∧
 ((k=c∧T=48)∨(k=t∧T=134)∨(k=d∧T=138)∨(k=p∧T=125)∨(v.ownBlock=some k∧T=55)∨(k=g∧T=58)):=by
 obtain⟨S,aF,hp,_⟩:=h.mh;rcases hk with rfl|rfl|rfl|rfl|hv|rfl
 ·exact⟨_,_,h.cell,.inl ⟨rfl,rfl⟩⟩
 ·exact⟨_,_,h.eU.cell,.inr (.inl ⟨rfl,rfl⟩)⟩
 ·exact⟨_,_,h.nodes,.inr (.inr (.inl ⟨rfl,rfl⟩))⟩
 ·obtain⟨cs,h1⟩:=hp.at;exact⟨_,_,h1,.inr (.inr (.inr (.inl ⟨rfl,rfl⟩)))⟩
 ·obtain⟨cs,h1⟩:=iH h.eU.own hv;exact⟨_,_,h1,.inr (.inr (.inr (.inr (.inl ⟨hv,rfl⟩))))⟩
 ·obtain⟨cs,h1⟩:=hp.XG;exact⟨_,_,h1,.inr (.inr (.inr (.inr (.inr ⟨rfl,rfl⟩))))⟩
theorem CW.lt (h:CW w c t d p v g a m P){k:Nat}(hk:dY c t d p v g k):k<w.heap.size:=by
 obtain⟨cs,T,h1,_⟩:=h.types hk;exact au h1
theorem CW.other (h:CW w c t d p v g a m P){k:Nat}{cs:Array Value}{T:TypeId}{fz:Nat×Nat}(hk:w.heap[k]? =some (.cells cs T fz))(hT:T≠48∧T≠134∧T≠138∧T≠125∧T≠55∧T≠58):¬dY c t d p v g k:=by
 intro hf;obtain⟨cs',T',h1,h2⟩:=h.types hf;rw[hk]at h1;have e:=(Obj.cells.inj (Option.some.inj h1)).2.1;subst e;obtain⟨a1,a2,a3,a4,a5,a6⟩:=hT;rcases h2 with⟨_,e⟩|⟨_,e⟩|⟨_,e⟩|⟨_,e⟩|⟨_,e⟩|⟨_,e⟩
 ·exact a1 e
 ·exact a2 e
 ·exact a3 e
 ·exact a4 e
 ·exact a5 e
 ·exact a6 e
theorem CW.kept (h:CW w c t d p v g a m P)(hb:Below w.heap.size w w'):CW w' c t d p v g a m P:=by
 obtain⟨S,aF,hp,hrest⟩:=h.mh;exact⟨(hb.block c (h.lt (.inl rfl))).trans h.cell,h.eU.kept hb,h.nodes.kept hb,S,aF,hp.kept hb,hrest⟩
theorem CW.wider (h:CW w c t d p v g a m P)(ha:a≤a')(hm:m≤m'):CW w c t d p v g a' m' P:=by
 obtain⟨S,aF,hp,h1,h2,h3,h4⟩:=h.mh;exact⟨h.cell,h.eU,h.nodes,S,aF,hp,h1,by omega,h3,by omega⟩
theorem CW.ne (h:CW w c t d p v g a m P):c≠t∧c≠d∧c≠p∧c≠g∧t≠d∧t≠p∧t≠g∧d≠p∧d≠g∧p≠g∧v.ownBlock≠some c∧v.ownBlock≠some t∧v.ownBlock≠some d∧v.ownBlock≠some p∧v.ownBlock≠some g:=by
 obtain⟨S,aF,hp,_⟩:=h.mh;obtain⟨c1,hp1⟩:=hp.at;obtain⟨c2,hp2⟩:=hp.XG;have hv:∀k,v.ownBlock=some k→∃cur,w.heap[k]? =some (.cells cur 55 (0,0)):=fun k hk=>iH h.eU.own hk;have hc:=h.cell;have hj:=h.eU.cell;have hn:w.heap[d]? =_:=h.nodes;refine⟨Put.bU hc hj (by decide),Put.bU hc hn (by decide),Put.bU hc hp1 (by decide),Put.bU hc hp2 (by decide),Put.bU hj hn (by decide),Put.bU hj hp1 (by decide),Put.bU hj hp2 (by decide),Put.bU hn hp1 (by decide),Put.bU hn hp2 (by decide),Put.bU hp1 hp2 (by decide),?_,?_,?_,?_,?_⟩<;>(intro e;obtain⟨cur,hc1⟩:=hv _ e)
 ·exact Put.bU hc1 hc (by decide) rfl
 ·exact Put.bU hc1 hj (by decide) rfl
 ·exact Put.bU hc1 hn (by decide) rfl
 ·exact Put.bU hc1 hp1 (by decide) rfl
 ·exact Put.bU hc1 hp2 (by decide) rfl
theorem CW.aD (h:CW w c t d p v g a m P){J':List Jb}(ht:TV w' t v' J')(hq:dI t v.ownBlock w w')(hn:dW w v.ownBlock v'.ownBlock):CW w' c t d p v' g a m {P with J:=J'}∧CS w w' c t d p v g v' g:=by
 obtain⟨S,aF,hp,hrest⟩:=h.mh;obtain⟨n1,n2,n3,n4,n5,n6,n7,n8,n9,n10,n11,n12,n13,n14,n15⟩:=h.ne;have lt:=fun{k:Nat} (hk:dY c t d p v g k)=>h.lt hk;obtain⟨cap,hp1,hp2⟩:=hp;refine⟨⟨(hq.block c (lt (.inl rfl)) n1 n11).trans h.cell,ht,?_,S,aF,⟨cap,(hq.block p (lt (.inr (.inr (.inr (.inl rfl))))) (Ne.symm n6) n14).trans hp1,bH hp2 fun k hk=>?_⟩,hrest⟩,⟨hq.os,hq.tape,hq.output,hq.size,fun k hk hf=>hq.block k hk (fun e=>hf (.inr (.inl e))) (fun e=>hf (.inr (.inr (.inr (.inr (.inl e))))))⟩,fun k hk=>?_⟩
 ·exact(hq.block d (lt (.inr (.inr (.inl rfl)))) (Ne.symm n5) n13).trans h.nodes
 ·have e:k=g:=by simpa[Value.ownBlock]using hk.symm
  subst e;exact hq.block k (lt (.inr (.inr (.inr (.inr (.inr rfl)))))) (Ne.symm n7) n15
 ·rcases hk with e|e|e|e|e|e
  ·exact .inl (.inl e)
  ·exact .inl (.inr (.inl e))
  ·exact .inl (.inr (.inr (.inl e)))
  ·exact .inl (.inr (.inr (.inr (.inl e))))
  ·rcases hn with hn|⟨q,hq1,hq2⟩
   ·exact .inl (.inr (.inr (.inr (.inr (.inl (hn▸e))))))
   ·rw[hq1]at e;cases e;exact .inr hq2
  ·exact .inl (.inr (.inr (.inr (.inr (.inr e)))))
theorem CW.node (h:CW w c t d p v g a m P){T':List Int}(ht:TW w' d T')(ho:jS d w w'):CW w' c t d p v g a m {P with T:=T'}∧CS w w' c t d p v g v g:=by
 obtain⟨S,aF,hp,hrest⟩:=h.mh;obtain⟨n1,n2,n3,n4,n5,n6,n7,n8,n9,n10,n11,n12,n13,n14,n15⟩:=h.ne;obtain⟨cap,hp1,hp2⟩:=hp;refine⟨⟨(ho.block c n2).trans h.cell,⟨(ho.block t n5).trans h.eU.cell,bH h.eU.own fun k hk=>ho.block k (fun e=>n13 (e▸hk))⟩,ht,S,aF,⟨cap,(ho.block p (Ne.symm n8)).trans hp1,bH hp2 fun k hk=>?_⟩,hrest⟩,⟨ho.os,ho.tape,ho.output,Nat.le_of_eq ho.size.symm,fun k _ hf=>ho.block k (fun e=>hf (.inr (.inr (.inl e))))⟩,ni.refl _ _⟩;have e:k=g:=by simpa[Value.ownBlock]using hk.symm
 subst e;exact ho.block k (Ne.symm n9)
theorem CW.profile (h:CW w c t d p v g a m P){now':Int}{f':Int→Int}(hp':PR w' p g' a' m' now' f')(ho:Off p g w w')(hg:g'=g∨w.heap.size≤g'):CW w' c t d p v g' a' m' {P with now:=now',f:=f'}∧CS w w' c t d p v g v g':=by
 obtain⟨n1,n2,n3,n4,n5,n6,n7,n8,n9,n10,n11,n12,n13,n14,n15⟩:=h.ne;have lt:=fun{k:Nat} (hk:dY c t d p v g k)=>h.lt hk;refine⟨⟨(ho.block c (lt (.inl rfl)) n3 n4).trans h.cell,⟨(ho.block t (lt (.inr (.inl rfl))) n6 n7).trans h.eU.cell,bH h.eU.own fun k hk=>ho.block k (lt (.inr (.inr (.inr (.inr (.inl hk)))))) (fun e=>n14 (e▸hk)) (fun e=>n15 (e▸hk))⟩,(ho.block d (lt (.inr (.inr (.inl rfl)))) n8 n9).trans h.nodes,hp'⟩,⟨ho.os,ho.tape,ho.output,ho.size,fun k hk hf=>ho.block k hk (fun e=>hf (.inr (.inr (.inr (.inl e))))) (fun e=>hf (.inr (.inr (.inr (.inr (.inr e))))))⟩,fun k hk=>?_⟩;rcases hk with e|e|e|e|e|e
 ·exact .inl (.inl e)
 ·exact .inl (.inr (.inl e))
 ·exact .inl (.inr (.inr (.inl e)))
 ·exact .inl (.inr (.inr (.inr (.inl e))))
 ·exact .inl (.inr (.inr (.inr (.inr (.inl e)))))
 ·rcases hg with hg|hg
  ·exact .inl (.inr (.inr (.inr (.inr (.inr (e.trans hg))))))
  ·exact .inr (e▸hg)
theorem CW.close (h:CW w c t d p v g a m P):CW (w.setCell ⟨c,4,none⟩ (.bool true)) c t d p v g a m {P with cl:=true}∧CS w (w.setCell ⟨c,4,none⟩ (.bool true)) c t d p v g v g:=by
 obtain⟨S,aF,hp,hrest⟩:=h.mh;obtain⟨n1,n2,n3,n4,n5,n6,n7,n8,n9,n10,n11,n12,n13,n14,n15⟩:=h.ne;obtain⟨cap,hp1,hp2⟩:=hp;have blk:∀k,k≠c→(w.setCell ⟨c,4,none⟩ (.bool true)).heap[k]? =w.heap[k]? :=fun k hk=>Below.heap_setCell w ⟨c,4,none⟩ _ k hk;refine⟨⟨?_,⟨(blk t (Ne.symm n1)).trans h.eU.cell,bH h.eU.own fun k hk=>blk k (fun e=>n11 (e▸hk))⟩,(blk d (Ne.symm n2)).trans h.nodes,S,aF,⟨cap,(blk p (Ne.symm n3)).trans hp1,bH hp2 fun k hk=>?_⟩,hrest⟩,⟨rfl,rfl,rfl,by simp,fun k _ hf=>blk k (fun e=>hf (.inl e))⟩,ni.refl _ _⟩
 ·have hlt:=h.lt (.inl rfl);have hc:=h.cell;have h1:w.heap[c]=_:=(Array.getElem?_eq_some_iff.1 hc).2;simp[World.setCell,hlt,Array.getElem_modify,h1]
 ·have e:k=g:=by simpa[Value.ownBlock]using hk.symm
  subst e;exact blk k (Ne.symm n4)
theorem CW.c0 (h:CW w c t d p v g a m P):w.cell? ⟨c,0,none⟩=some (.pointer (some ⟨t,0,none⟩)):=by simp[World.cell?,h.cell]
theorem CW.c1 (h:CW w c t d p v g a m P):w.cell? ⟨c,1,none⟩=some (.pointer (some ⟨d,0,none⟩)):=by simp[World.cell?,h.cell]
theorem CW.c2 (h:CW w c t d p v g a m P):w.cell? ⟨c,2,none⟩=some (.pointer (some ⟨p,0,none⟩)):=by simp[World.cell?,h.cell]
theorem CW.c3 (h:CW w c t d p v g a m P):w.cell? ⟨c,3,none⟩=some (.bool true):=by simp[World.cell?,h.cell]
theorem CW.c4 (h:CW w c t d p v g a m P):w.cell? ⟨c,4,none⟩=some (.bool P.cl):=by simp[World.cell?,h.cell]
theorem CW.fz (h:CW w c t d p v g a m P)(j:Nat):w.frozen? ⟨c,j,none⟩=false:=by simp[World.frozen?,h.cell]
end
section
variable {w w' w1 w2 : World} {c t d p g a : Nat} {v : Value} {m : Int} {P : Pg}
structure PK (P : Pg) : Prop where
 now:0≤P.now∧P.now≤1099511627776
 few:P.J.length≤900
 st:∀j∈P.J,1≤j.st∧j.st≤6
 lim:∀j∈P.J,1≤j.lim∧j.lim≤1048576
 rR:iE P.T
 f:∀t,P.now≤t→0≤P.f t∧P.f t≤64
def fw (w:World)(c t d p:Nat)(v:Value)(g a:Nat)(m:Int)(r:Value)(P':Pg)(e:Ending)(w':World):Prop:=
 e=.returned r∧∃v' g',CW w' c t d p v' g' a m P'∧CS w w' c t d p v g v' g'
theorem yZ (h:CW w c t d p v g a m P){x y n:Int}{e:Ending}{S:List (Int×Int)}{aF:Int}(hl:S.length≤a)(hv0:0≤aF)(hv:aF≤m)(hp:bO w p g S aF P.now P.f x y n e w')(F:Int→Int)
 (hxy:x<y) (hy:y≤1152921504606846976) (hn: -64≤n∧n≤64) (hF:∀t,P.now≤t→F t=P.f t+had (max x P.now) y n t) (hr:∀t,P.now≤t→0≤F t∧F t≤64):
 fw w c t d p v g (a+2) (m+1) (.int .i64 0) {P with f:=F} e w':=by
 obtain⟨r,dv,f',g',L',rfl,hA,hP,hC,hg,ho,hlen⟩:=hp;have key:r=0∧(∀t,P.now≤t→f' t=F t)∧0≤dv∧dv≤1:=by
  rcases hA with⟨h1,_⟩|⟨_,h2,rfl,rfl,rfl⟩|⟨_,_,⟨u,h3,h4,h5⟩,_⟩|⟨_,_,_,rfl,rfl,rfl⟩
  ·omega
  ·refine⟨rfl,fun t ht=>?_,by omega,by omega⟩;rw[hF t ht];have e0:had (max x P.now) y n t=0:=by
    rcases h2 with h2|h2
    ·unfold had;rw[qai];rintro⟨h3,h4⟩;have hy0:y≤P.now:=by omega
     rcases h4 with h4|h4
     ·omega
     ·have:=hC.sm.top 0 hC.sm.pos;rw[hC.sm.hd]at this;omega
    ·unfold had;rw[h2];split<;>rfl
   omega
  ·exfalso;have h6:=hF u (by omega);have h7:had (max x P.now) y n u=n:=by unfold had;rw[qaj ⟨h3,.inl h4⟩]
   have h8:=hr u (by omega);omega
  ·exact⟨rfl,fun t ht=>(hF t ht).symm,by omega,by omega⟩
 obtain⟨rfl,hf,d1,d2⟩:=key;obtain⟨hC2,hS⟩:=h.profile (now':=P.now) (f':=F) (a':=a+2) (m':=m+1) ⟨L',aF+dv,hP,hC.congr hf,by omega,by omega,by omega⟩ ho hg;exact⟨rfl,v,g',hC2,hS⟩
theorem uk (h:CW w c t d p v g a m P)(hk:PK P)(ha:a≤800)(hm:m≤1000000)(x y n:Int)(F:Int→Int)(hxy:x<y)(hy:y≤1152921504606846976)(hn:0≤n∧n≤64)
 (hF:∀t,P.now≤t→F t=P.f t+had (max x P.now) y n t) (hr:∀t,P.now≤t→0≤F t∧F t≤64):
 Calls prog 200 #[.pointer (some ⟨p,0,none⟩),.agg #[.int .i64 x,.int .i64 y,.int .i64 n]] w (fw w c t d p v g (a+2) (m+1) (.int .i64 0) {P with f:=F}):=by
 obtain⟨S,aF,hp,hC,hl,h0,h1⟩:=h.mh;exact(xO x y n hn hC hk.now.1 hk.f ⟨h0,by omega⟩ (by omega) hp).mono fun e w2 hq=>yZ h hl h0 h1 hq F hxy hy (by omega) hF hr
theorem I5 (h:CW w c t d p v g a m P)(hk:PK P)(ha:a≤800)(hm:m≤1000000)(x y n:Int)(F:Int→Int)(hxy:x<y)(hy:y≤1152921504606846976)(hn:0≤n∧n≤64)
 (hF:∀t,P.now≤t→F t=P.f t+had (max x P.now) y (-n) t) (hr:∀t,P.now≤t→0≤F t∧F t≤64):
 Calls prog 202 #[.pointer (some ⟨p,0,none⟩),.agg #[.int .i64 x,.int .i64 y,.int .i64 n]] w (fw w c t d p v g (a+2) (m+1) (.int .i64 0) {P with f:=F}):=by
 obtain⟨S,aF,hp,hC,hl,h0,h1⟩:=h.mh;exact(rQ x y n hn hC hk.now.1 hk.f ⟨h0,by omega⟩ (by omega) hp).mono fun e w2 hq=>yZ h hl h0 h1 hq F hxy hy (by omega) hF hr
theorem Nt (h:CW w c t d p v g a m P)(hk:PK P)(ha:a≤800)(hm:m≤1000000)(x y n:Int)(F:Int→Int)(hxy:x<y)(hy:y≤1152921504606846976)(hn: -64≤n∧n≤64)
 (hF:∀t,P.now≤t→F t=P.f t+had (max x P.now) y n t) (hr:∀t,P.now≤t→0≤F t∧F t≤64):
 Calls prog 132 #[.pointer (some ⟨p,0,none⟩),.int .i64 x,.int .i64 y,.int .i64 n] w (fw w c t d p v g (a+2) (m+1) (.int .i64 0) {P with f:=F}):=by
 obtain⟨S,aF,hp,hC,hl,h0,h1⟩:=h.mh;exact(zU x y n hC hk.now.1 hk.f ⟨h0,by omega⟩ (by omega) hp).mono fun e w2 hq=>yZ h hl h0 h1 hq F hxy hy hn hF hr
theorem zW (h:CW w c t d p v g a m P)(hk:PK P)(ha:a≤800)(hm:m≤1000000)(x:Int)(h1:P.now≤x)(h2:x≤1099511627776):
 Calls prog 265 #[.pointer (some ⟨p,0,none⟩),.int .i64 x] w (fw w c t d p v g a (m+1) (.int .i64 0) {P with now:=x}):=by
 obtain⟨S,aF,hp,hC,hl,v0,v1⟩:=h.mh;have fin:∀{e:Ending} {w2:World},pE w p g S aF P.now P.f x e w2→fw w c t d p v g a (m+1) (.int .i64 0) {P with now:=x} e w2:=by
  rintro e w2 ⟨r,dv,now',L',rfl,hA,hP,hC2,ho,hlen⟩;have key:r=0∧now'=x∧0≤dv∧dv≤1:=by unfold U1 at hA;omega
  obtain⟨rfl,rfl,d1,d2⟩:=key;obtain⟨a1,a2⟩:=h.profile (now':=now') (f':=P.f) (g':=g) (a':=a) (m':=m+1) ⟨L',aF+dv,hP,hC2,by omega,by omega,by omega⟩ ho (.inl rfl);exact⟨rfl,v,g,a1,a2⟩
 rcases Int.lt_or_eq_of_le h1 with h3|h3
 ·exact(Uo x hC hp ⟨v0,by omega⟩ (by omega) h3 h2).mono fun e w2 hq=>fin hq
 ·subst h3;exact(OV hC hp h2).mono fun e w2 hq=>fin hq
theorem gq (h:CW w c t d p v g a m P):Calls prog 45 #[.pointer (some ⟨p,0,none⟩)] w fun e w'=>e=.returned (.int .i64 P.now)∧w=w':=by
 obtain⟨S,aF,hp,hC,_⟩:=h.mh;have:=lN hp hC.sm.pos;rw[hC.sm.hd]at this;exact this
theorem pF (h:CW w c t d p v g a m P){e0 id:Int}{ok:Jb→Bool}{ch:Jb→Jb}{e:Ending}(hp:kS w t v P.J e0 id ok ch e w'):fw w c t d p v g a m (.int .i64 (bN P.J e0 id ok)) {P with J:=cz P.J e0 id ok ch} e w':=by
 obtain⟨rfl,h1,h2⟩:=hp;obtain⟨a1,a2⟩:=h.aD h1 h2 (.inl rfl);exact⟨rfl,v,g,a1,a2⟩
theorem Ex (h:CW w c t d p v g a m P)(id:Int):Calls prog 235 #[.pointer (some ⟨t,0,none⟩),.int .i64 id] w (fw w c t d p v g a m (.int .i64 (bN P.J 0 id fun j:Jb=>decide (j.state=1))) {P with J:=cz P.J 0 id (fun j:Jb=>decide (j.state=1)) p9}):=
 (QL h.eU id).mono fun _ _ hp=>pF h hp
theorem Ey (h:CW w c t d p v g a m P)(id:Int):Calls prog 237 #[.pointer (some ⟨t,0,none⟩),.int .i64 id] w (fw w c t d p v g a m (.int .i64 (bN P.J 0 id fun j:Jb=>decide (j.state=2))) {P with J:=cz P.J 0 id (fun j:Jb=>decide (j.state=2)) oV}):=
 (Ip h.eU id).mono fun _ _ hp=>pF h hp
theorem Ez (h:CW w c t d p v g a m P)(id x:Int):Calls prog 134 #[.pointer (some ⟨t,0,none⟩),.int .i64 id,.int .i64 x] w (fw w c t d p v g a m (.int .i64 (bN P.J (gT x) id fun j:Jb=>decide (j.state=1))) {P with J:=cz P.J (gT x) id (fun j:Jb=>decide (j.state=1)) (kM x)}):=
 (QM h.eU id x).mono fun _ _ hp=>pF h hp
theorem Lx (h:CW w c t d p v g a m P)(hk:PK P)(id x n:Int):Calls prog 133 #[.pointer (some ⟨t,0,none⟩),.int .i64 id,.int .i64 x,.int .u64 n] w (fw w c t d p v g a m (.int .i64 (bN P.J (gH x) id fun j:Jb=>decide (j.state=1))) {P with J:=cz P.J (gH x) id (fun j:Jb=>decide (j.state=1)) (lG x n)}):=
 (Oo h.eU id x n hk.lim).mono fun _ _ hp=>pF h hp
theorem um (h:CW w c t d p v g a m P)(hk:PK P)(id s x:Int):Calls prog 135 #[.pointer (some ⟨t,0,none⟩),.int .i64 id,.int .i64 s,.int .i64 x] w (fw w c t d p v g a m (.int .i64 (bN P.J (bB s x) id (fo s))) {P with J:=cz P.J (bB s x) id (fo s) (bR s x)}):=
 (KY h.eU id s x hk.st).mono fun _ _ hp=>pF h hp
theorem pX (h:CW w c t d p v g a m P)(hk:PK P)(r:Rq):Calls prog 138 #[.pointer (some ⟨t,0,none⟩),.agg (encR r).toArray] w (fw w c t d p v g a m (.tuple #[.int .i64 (lF P.J r),.int .i64 (iX P.J r)]) {P with J:=pU P.J r}):=
 (KV h.eU hk.st hk.few r).mono fun _ _ hp=>by
  obtain⟨rfl,v',h1,h2,h3⟩:=hp;obtain⟨a1,a2⟩:=h.aD h1 h2 h3;exact⟨rfl,v',g,a1,a2⟩
theorem OX (h:CW w c t d p v g a m P)(hk:PK P)(n:Int)(hn: -9223372036854775808≤n∧n≤9223372036854775807):Calls prog 116 #[.pointer (some ⟨d,0,none⟩),.int .i64 n] w fun e w'=>∃(s:Nat) (x:Int) (T':List Int),qb P.T n s x T'∧iE T'∧fw w c t d p v g a m (.tuple #[.int .u64 s,.int .i64 x]) {P with T:=T'} e w':=
 (OM n hn h.nodes hk.rR).mono fun _ _ hp=>by
  obtain⟨ho,s,x,l',rfl,h1,h2,h3,h4⟩:=hp;obtain⟨a1,a2⟩:=h.node h2 ho;exact⟨s,x,l',h1,h3,rfl,v,g,a1,a2⟩
theorem EA (h:CW w c t d p v g a m P)(hk:PK P)(u:Nat)(hu:u<18446744073709551616):Calls prog 137 #[.pointer (some ⟨d,0,none⟩),.int .u64 u] w fun e w'=>∃(n x:Int) (T':List Int),Cb P.T u n x T'∧iE T'∧fw w c t d p v g a m (.tuple #[.int .i64 n,.int .i64 x]) {P with T:=T'} e w':=
 (OO u hu h.nodes hk.rR).mono fun _ _ hp=>by
  obtain⟨ho,n,x,l',rfl,h1,h2,h3,h4⟩:=hp;obtain⟨a1,a2⟩:=h.node h2 ho;exact⟨n,x,l',h1,h3,rfl,v,g,a1,a2⟩
theorem LA (h:CW w c t d p v g a m P)(hk:PK P)(n:Int)(hn: -9223372036854775808≤n∧n≤9223372036854775807):Calls prog 136 #[.pointer (some ⟨d,0,none⟩),.int .i64 n] w fun e w'=>∃(x:Int) (T':List Int),mM P.T n true x T'∧iE T'∧fw w c t d p v g a m (.int .i64 x) {P with T:=T'} e w':=
 (Lc n hn h.nodes hk.rR).mono fun _ _ hp=>by
  obtain⟨ho,x,l',rfl,h1,h2,h3,h4⟩:=hp;obtain⟨a1,a2⟩:=h.node h2 ho;exact⟨x,l',h1,h3,rfl,v,g,a1,a2⟩
theorem I6 (h:CW w c t d p v g a m P)(hk:PK P)(n:Int)(hn: -9223372036854775808≤n∧n≤9223372036854775807):Calls prog 240 #[.pointer (some ⟨d,0,none⟩),.int .i64 n] w fun e w'=>∃(x:Int) (T':List Int),mM P.T n false x T'∧iE T'∧fw w c t d p v g a m (.int .i64 x) {P with T:=T'} e w':=
 (IJ n hn h.nodes hk.rR).mono fun _ _ hp=>by
  obtain⟨ho,x,l',rfl,h1,h2,h3,h4⟩:=hp;obtain⟨a1,a2⟩:=h.node h2 ho;exact⟨x,l',h1,h3,rfl,v,g,a1,a2⟩
end
def dh (M:Md):List Int:=(List.range M.dr.length).map fun k:Nat=>aU M (k:Int)
def ai (M:Md):Pg:=⟨M.now,M.L,dh M,fun t=>ax M t 0,M.cl⟩
section
variable {M : Md}
theorem bC :(dh M).length=M.dr.length:=by simp[dh]
theorem dm (i:Nat):(dh M).getD i 0=aU M (i:Int):=by
 by_cases h:i<M.dr.length
 ·simp[dh,List.getD_eq_getElem?_getD,h]
 ·rw[iB h];simp[dh,List.getD_eq_getElem?_getD,h]
theorem DD {n:Nat}(hn:n<M.dr.length):1≤aU M n∧aU M n≤4:=by
 rw[fe hn];split<;>split<;>omega
theorem pG {l l':List Int}(h1:l.length=l'.length)(h2:∀i,i<l.length→l.getD i 0=l'.getD i 0):l=l':=by
 refine List.ext_getElem h1 fun i a b=>?_;have:=h2 i a;simpa[List.getD_eq_getElem?_getD,a,b]using this
theorem Gm {M':Md}{l:List Int}(h1:l.length=M'.dr.length)(h2:∀i,i<l.length→l.getD i 0=aU M' (i:Int)):l=dh M':=
 pG (by rw[bC,h1]) fun i hi=>by rw[h2 i hi,dm]
theorem I7 (h:aG M)(h1:1≤M.dr.length):iE (dh M):=
 ⟨by rw[bC];exact h1,by rw[bC];exact h.mb.nn,fun i hi=>by rw[dm];exact DD (by rw[bC]at hi;exact hi)⟩
theorem fu (h:aG M)(h1:1≤M.dr.length)(h2:M.L.length≤900):PK (ai M):=
 ⟨h.mb.now,h2,fun j hj=>⟨(h.one j hj).2.2.2.1,(h.one j hj).2.2.2.2⟩,fun j hj=>⟨(h.one j hj).2.2.1,(h.mb.lim j hj).2⟩,I7 h h1,fun t ht=>⟨h.free t ht,by have:=Br h t;have:=h.mb.nn;show ax M t 0≤64;omega⟩⟩
theorem uY (i:Nat):gZ (dh M) i=decide (aU M (i:Int)=1):=by unfold gZ;rw[dm]
theorem rT (f:Nat→Bool)(k:Nat):aQ f k=(List.range k).countP f:=by
 induction k with
 |zero=>rfl
 |succ k ih=>
  rw[List.range_succ,List.countP_append,List.countP_cons,List.countP_nil,←ih];simp only[aQ];split<;>simp_all
theorem Gn (wid:Int)(hw:0≤wid)(k:Nat):(lowGo M wid k).2=min (aQ (gZ (dh M)) k:Int) wid:=by
 induction k with
 |zero=>show(0:Int)=min (0:Int) wid;omega
 |succ k ih=>
  have e:=uY (M:=M) k;simp only[lowGo];by_cases h1:aU M (k:Int)=1
  ·rw[qag h1]at e;have hc:aQ (gZ (dh M)) (k+1)=aQ (gZ (dh M)) k+1:=by simp[aQ,e]
   by_cases h2:(lowGo M wid k).2<wid
   ·rw[qaj ⟨h2,h1⟩];show(lowGo M wid k).2+1=_;omega
   ·rw[qai (fun h=>h2 h.1)];omega
  ·rw[qah h1]at e;have hc:aQ (gZ (dh M)) (k+1)=aQ (gZ (dh M)) k:=by simp[aQ,e]
   rw[qai (fun h=>h1 h.2),hc];exact ih
theorem Cs (wid:Int)(hw:0≤wid)(k n:Nat):cZ (lowGo M wid k).1 n=(decide (n<k)&&il (dh M) wid n):=by
 induction k with
 |zero=>simp[lowGo,cZ]
 |succ k ih=>
  have hcond:((lowGo M wid k).2<wid∧aU M (k:Int)=1)↔il (dh M) wid k=true:=by
   unfold il;rw[uY,Gn wid hw k];simp only[Bool.and_eq_true,decide_eq_true_eq];constructor
   ·rintro⟨h1,h2⟩;exact⟨h2,by omega⟩
   ·rintro⟨h1,h2⟩;exact⟨by omega,h1⟩
  simp only[lowGo];by_cases h:(lowGo M wid k).2<wid∧aU M (k:Int)=1
  ·rw[qaj h];show cZ ((lowGo M wid k).1+2^k) n=_;rw[uP (og M wid k).1,ih];have ht:=hcond.1 h;by_cases e:n=k
   ·subst e;simp[ht]
   ·have e2:(n<k+1)↔(n<k):=by omega
    simp[e,e2]
  ·rw[qai h,ih];have ht:il (dh M) wid k=false:=by rw[←Bool.not_eq_true];exact fun h2=>h (hcond.2 h2)
   by_cases e:n=k
   ·subst e;simp[ht]
   ·have e2:(n<k+1)↔(n<k):=by omega
    simp[e2]
theorem LB (wid:Int)(hw:0≤wid)(hn:M.dr.length≤64):aR (il (dh M) wid)=iM M wid:=by
 refine kI (Nat.lt_of_lt_of_le (og M wid M.dr.length).1 (Nat.pow_le_pow_right (show 0<2 by decide) hn)) fun i hi=>?_;rw[←kQ];unfold iM;rw[Cs wid hw];by_cases h:i<M.dr.length
 ·simp[h]
 ·have:il (dh M) wid i=false:=by
   unfold il;rw[uY,iB h];simp
  simp[h,this]
theorem LC {i:Nat}(hi:i<M.L.length)(hst:(M.L.getD i default).st≠3)(hn:M.dr.length≤64)(hw:1≤(M.L.getD i default).wid)
 (hidle:(M.L.getD i default).wid≤((List.range M.dr.length).countP fun n:Nat=>decide (aU M n=1):Nat)) {s:Nat} {x:Int} {T':List Int} (h:qb (dh M) (M.L.getD i default).wid s x T'):
 s=iM M (M.L.getD i default).wid∧x=0∧T'=dh (aX M i):=by
 have hc:(M.L.getD i default).wid≤aQ (gZ (dh M)) (dh M).length:=by
  rw[rT,bC];have e:gZ (dh M)=fun n:Nat=>decide (aU M n=1):=funext uY;rw[e];exact hidle
 obtain⟨h1,h2,h3⟩:=h.good hw hc;refine⟨by rw[h1];exact LB _ (by omega) hn,h2,?_⟩;rw[h3];have hl:(fq (dh M) (M.L.getD i default).wid).length=M.dr.length:=by unfold fq;rw[List.length_mapIdx,bC]
 refine Gm (by rw[hl];rfl) fun k hk=>?_;rw[hl]at hk;unfold fq;rw[ou,qaj (by rw[bC];exact hk),dm,Dm hi hst];have hb:cZ (iM M (M.L.getD i default).wid) k=il (dh M) (M.L.getD i default).wid k:=by
  unfold iM;rw[Cs _ (by omega)];simp[hk]
 rw[hb]
theorem EB (h:aG M){i:Nat}{y:Jb}(hi:i<M.L.length)(hst:(M.L.getD i default).st=3)(hy:y.st≠3){n x:Int}{T':List Int}(hg:Cb (dh M) (M.L.getD i default).bQ.toNat n x T'):
 n=((List.range M.dr.length).countP (fun k=>cZ (M.L.getD i default).bQ.toNat k&& !(M.dr.getD k false)):Nat)∧x=0∧T'=dh {M with L:=M.L.set i y}:=by
 have hmem:=aZ hi;have hlt:=(h.runs _ hmem hst).2.2;have hold:∀k:Nat,cZ (M.L.getD i default).bQ.toNat k=true→k<M.dr.length∧holderL M.L k=i:=fun k hk=>by
  refine⟨?_,vJ h.lu hi (by unfold aI;simp[hst,hk,-List.getD_eq_getElem?_getD])⟩;rcases Nat.lt_or_ge k M.dr.length with h1|h1
  ·exact h1
  ·rw[Ec hlt h1]at hk;cases hk
 have EC:∀k:Nat,cZ (M.L.getD i default).bQ.toNat k=true→aU M k=if M.dr.getD k false=true then 3 else 2:=fun k hk=>by
  obtain⟨h1,h2⟩:=hold k hk;rw[fe h1,qaj (by rw[h2];omega)]
 have hin:IA (dh M) (M.L.getD i default).bQ.toNat 2 3 64:=fun k _ hk=>by
  rw[←kQ]at hk;refine⟨by rw[bC];exact(hold k hk).1,?_⟩;rw[dm,EC k hk];split
  ·exact .inr rfl
  ·exact .inl rfl
 obtain⟨h1,h2,h3⟩:=hg.good hin;refine⟨?_,h2,?_⟩
 ·rw[h1];unfold pq;rw[bC];congr 1;refine List.countP_congr fun k _=>?_;rw[←kQ,dm];cases hk:cZ (M.L.getD i default).bQ.toNat k with
  |false=>simp
  |true=>
   rw[EC k hk];cases M.dr.getD k false<;>simp
 ·rw[h3];refine Gm (by rw[List.length_mapIdx,bC]) fun k hk=>?_;rw[List.length_mapIdx]at hk;have hkl:k<M.dr.length:=by rw[bC]at hk;exact hk
  rw[ou,qaj hk,dm,H7 h.lu hi hst hy];unfold oZ;rw[←kQ];cases hh:cZ (M.L.getD i default).bQ.toNat k with
  |false=>simp
  |true=>
   rw[EC k hh];cases M.dr.getD k false<;>simp[hkl]
theorem I8 {k:Nat}(hk:k<M.dr.length){b:Bool}(hb:M.dr.getD k false= !b){x:Int}{T':List Int}(h:mM (dh M) (k:Int) b x T'):x=0∧T'=dh {M with dr:=M.dr.set k b}:=by
 have hd:b=decide ((dh M).getD (k:Int).toNat 0<3):=by
  rw[Int.toNat_natCast,dm,fe hk,hb];cases b<;>(by_cases h1:0≤holderL M.L k<;>simp[h1])
 obtain⟨h1,h2⟩:=h.good (by omega) (by rw[bC];omega) hd;refine⟨h1,?_⟩;rw[h2,Int.toNat_natCast,dm];refine Gm (by rw[List.length_set,bC,List.length_set]) fun q hq=>?_;rw[List.length_set]at hq;rw[lL,dm,Dn hk,fe hk,hb];by_cases e:q=k
 ·subst e;rw[qaj ⟨rfl,hq⟩,qaj rfl];unfold ku;cases b<;>(by_cases h1:0≤holderL M.L q<;>simp[h1])
 ·rw[qai (fun h=>e h.1),qai e]
end
open Go.ChangeShapes Go.WideShapes Go.ChangeAt Go.Deep
structure Ry where
 err:Int
 id:Int
 state:Int
 start:Int
 stop:Int
 plan:Int
 a:Int
 b:Int
 c:Int
deriving DecidableEq
def bW (r:Ry):List Value:=[.int .i64 r.err,.int .i64 r.id,.int .i64 r.state,.int .i64 r.start,.int .i64 r.stop,.int .i64 r.plan,.int .i64 r.a,.int .i64 r.b,.int .i64 r.c]
theorem wN :∀w,Sem.run prog (Go.sizeOf 67) w=.ok 9 w:=sizeOf67
theorem jF (r:Ry):(bW r).length=9:=rfl
theorem za (r:Ry):∀v∈bW r,v.oneCell'=true:=by
 intro v hv;simp[bW]at hv;rcases hv with rfl|rfl|rfl|rfl|rfl|rfl|rfl|rfl|rfl<;>rfl
section
end
structure Only (b : Nat) (w w' : World) : Prop where
 os:w'.os=w.os
 tape:w'.tape=w.tape
 output:w'.output=w.output
 size:w'.heap.size=w.heap.size
 block:∀k:Nat,k≠b→w'.heap[k]? =w.heap[k]?
theorem Only.setCell (b off:Nat)(w:World)(v:Value):Only b w (w.setCell ⟨b,off,none⟩ v):=
 ⟨rfl,rfl,rfl,by simp[World.setCell],fun k hk=>Below.heap_setCell _ _ _ _ hk⟩
theorem Only.below {b B:Nat}{w w':World}(h:Only b w w')(hB:B≤b):Below B w w':=
 ⟨h.os,h.tape,h.output,Nat.le_of_eq h.size.symm,fun k hk=>h.block k (by omega)⟩
def Ct :Ry:=⟨0,0,0,0,0,0,0,0,0⟩
def iZ (j:Jb):Ry:=⟨0,j.1,j.2.2.2.2.2.1,j.2.2.2.2.2.2.1,j.2.2.2.2.2.2.2.1,j.2.2.2.2.2.2.2.2.1,j.2.2.1,j.2.2.2.2.1,0⟩
section
variable {w : World}
theorem zb (a b c:Int)(w:World):Calls prog 210 #[.int .i64 a,.int .i64 b,.int .i64 c] w fun e w'=>e=.returned (.agg (bW ⟨0,0,0,0,0,0,a,b,c⟩).toArray)∧Below w.heap.size w w':=by
 simp only[bW];go_enter func210,ntmps210;go_wp2_with fail
 (try simp only[Exit.inBlock,Exit.then])
 refine eH rfl rfl rfl (heap_alloc_new w _) underlying67 rfl (by kernel_rfl) ⟨rfl,?_⟩;exact qac.alloc (qaf _) _
theorem I9 (q:Int)(w:World):Calls prog 98 #[.int .i64 q] w fun e w'=>e=.returned (.agg (bW ⟨q,0,0,0,0,0,0,0,0⟩).toArray)∧Below w.heap.size w w':=by
 simp only[bW];go_enter func98,ntmps98;go_wp2_with fail
 (try simp only[Exit.inBlock,Exit.then])
 refine eH rfl rfl rfl (heap_alloc_new w _) underlying67 rfl (by kernel_rfl) ⟨rfl,?_⟩;exact qac.alloc (qaf _) _
theorem OY (j:Jb)(w:World):Calls prog 259 #[.agg (ah j).toArray] w fun e w'=>e=.returned (.tuple #[.int .i64 j.2.2.1,.int .i64 j.2.2.2.2.1,.int .i64 0])∧Below w.heap.size w w':=by
 obtain⟨x1,x2,x3,x4,x5,x6,x7,x8,x9,x0⟩:=j;simp only[ah];obtain⟨wB,Au⟩:=qaa (w.alloc (.cells #[.int .i64 x1,.int .i64 x2,.int .i64 x3,.int .i64 x4,.int .i64 x5,.int .i64 x6,.int .i64 x7,.int .i64 x8,.int .i64 x9,.int .u64 x0] 55));have hb1:Hid (Below w.heap.size w wB):=by show Below _ _ _;rw[Au];exact qac.alloc (qaf _) _
 have hA:wB.heap[w.heap.size]? =some (.cells #[.int .i64 x1,.int .i64 x2,.int .i64 x3,.int .i64 x4,.int .i64 x5,.int .i64 x6,.int .i64 x7,.int .i64 x8,.int .i64 x9,.int .u64 x0] 55 (0,0)):=by rw[Au];exact heap_alloc_new w _
 have c2:wB.cell? ⟨w.heap.size,2,none⟩=some (.int .i64 x3):=by simp[World.cell?,hA]
 have c4:wB.cell? ⟨w.heap.size,4,none⟩=some (.int .i64 x5):=by simp[World.cell?,hA]
 clear hA;go_enter func259,ntmps259;go_wp2_with fail;rw[←Au];replace Au:=qae Au;go_region;go_wp2_with fail;go_ret3;exact⟨rfl,hb1.out.drew⟩
end
def iT (w:World)(b:Nat)(r:Ry):Prop:=w.heap[b]? =some (.cells (bW r).toArray 67 (0,0))
theorem iT.at {w:World}{b:Nat}{r:Ry}(h:iT w b r)(j:Nat)(u:Value)(hj:(bW r)[j]? =some u):w.cell? ⟨b,j,none⟩=some u:=by
 simp[World.cell?,show w.heap[b]? =_ from h,hj]
theorem iT.free {w:World}{b:Nat}{r:Ry}(h:iT w b r)(j:Nat):w.frozen? ⟨b,j,none⟩=false:=by simp[World.frozen?,show w.heap[b]? =_ from h]
theorem iT.below {w w':World}{b B:Nat}{r:Ry}(h:iT w b r)(hb:Below B w w')(hB:b<B):iT w' b r:=(hb.block b hB).trans h
theorem iT.store {w:World}{b:Nat}{r:Ry}(h:iT w b r)(x:Ry):Sem.run prog (storeCells ⟨b,0,none⟩ (bW x) 0) w=.ok () (w.setRow b (bW x).toArray)∧iT (w.setRow b (bW x).toArray) b x:=by
 refine⟨?_,setRow_heap w b _ _ _ _ h⟩;have hst:=run_storeCells_at prog b 0 67 (bW x) 0 (bW r).toArray w h (by simp[bW]) (za x);simp only[Nat.add_zero]at hst;rw[hst];rfl
theorem iT.put {w:World}{b:Nat}{r r':Ry}(h:iT w b r)(j:Nat)(v:Value)(he:(bW r).toArray.setIfInBounds j v=(bW r').toArray):iT (w.setCell ⟨b,j,none⟩ v) b r':=by
 have:=heap_put (i:=j) h v;rw[he]at this;exact this
theorem iT.other {w:World}{b g j:Nat}{v:Value}{r:Ry}(h:iT w b r)(hg:b≠g):iT (w.setCell ⟨g,j,none⟩ v) b r:=(Below.heap_setCell _ _ _ _ hg).trans h
theorem uo {B g:Nat}{w0 w:World}(hb:Below B w0 w)(hBg:B≤g)(j:Nat)(u:Value):Below B w0 (w.setCell ⟨g,j,none⟩ u):=hb.trans ((Only.setCell g j w u).below hBg)
theorem qN {B g:Nat}{w0 w:World}(hb:Below B w0 w)(hBg:B≤g)(cs:Array Value):Below B w0 (w.setRow g cs):=hb.trans ((⟨rfl,rfl,rfl,by simp,fun k hk=>setRow_other w g k _ hk⟩:Only g w (w.setRow g cs)).below hBg)
theorem Ja {w:World}{b:Nat}{x3 x5:Int}(h:iT w b ⟨0,0,0,0,0,0,x3,x5,0⟩)(x1 x6 x7 x8 x9:Int):iT (((((w.setCell ⟨b,1,none⟩ (.int .i64 x1)).setCell ⟨b,2,none⟩ (.int .i64 x6)).setCell ⟨b,3,none⟩ (.int .i64 x7)).setCell ⟨b,4,none⟩ (.int .i64 x8)).setCell ⟨b,5,none⟩ (.int .i64 x9)).drew b ⟨0,x1,x6,x7,x8,x9,x3,x5,0⟩:=by
 have h1:iT (w.setCell ⟨b,1,none⟩ (.int .i64 x1)) b ⟨0,x1,0,0,0,0,x3,x5,0⟩:=h.put 1 _ rfl;have h2:iT ((w.setCell ⟨b,1,none⟩ (.int .i64 x1)).setCell ⟨b,2,none⟩ (.int .i64 x6)) b ⟨0,x1,x6,0,0,0,x3,x5,0⟩:=h1.put 2 _ rfl;clear h h1;generalize (w.setCell ⟨b,1,none⟩ (.int .i64 x1)).setCell ⟨b,2,none⟩ (.int .i64 x6)=W at*;have h3:iT (W.setCell ⟨b,3,none⟩ (.int .i64 x7)) b ⟨0,x1,x6,x7,0,0,x3,x5,0⟩:=h2.put 3 _ rfl;have h4:iT ((W.setCell ⟨b,3,none⟩ (.int .i64 x7)).setCell ⟨b,4,none⟩ (.int .i64 x8)) b ⟨0,x1,x6,x7,x8,0,x3,x5,0⟩:=h3.put 4 _ rfl;clear h2 h3;generalize (W.setCell ⟨b,3,none⟩ (.int .i64 x7)).setCell ⟨b,4,none⟩ (.int .i64 x8)=V at*;exact h4.put 5 _ rfl
theorem Uq (j:Jb)(w:World):Calls prog 231 #[.agg (ah j).toArray] w fun e w'=>e=.returned (.agg (bW (iZ j)).toArray)∧Below w.heap.size w w':=by
 have hw:=fun W=>OY j W;have ht:=fun W=>zb j.2.2.1 j.2.2.2.2.1 0 W;have lJ:=ay j;have zJ:=bL;obtain⟨k10,hk10⟩:∃k,k=10:=⟨_,rfl⟩;rw[←hk10]at lJ zJ;replace hk10:=qae hk10;obtain⟨wA,aK⟩:=qaa ((w.alloc (.cells (ah j).toArray 55)).alloc (.cells (bW Ct).toArray 67));have bS:Hid (Below w.heap.size w wA):=by show Below _ _ _;rw[aK];exact(qac.alloc (qaf _) _).alloc (by simp) _
 have hsA:wA.heap.size=w.heap.size+2:=by rw[aK];simp
 have Rm:wA.heap[w.heap.size]? =some (.cells (ah j).toArray 55 (0,0)):=by rw[aK];exact dL (heap_alloc_new w _)
 have jr:iT wA (w.heap.size+1) Ct:=by rw[aK];exact heap_alloc2_new w _ _
 have ld:=nZ (k:=k10) Rm lJ;rw[aK]at ld;replace hsA:=qae hsA;obtain⟨x1,x2,x3,x4,x5,x6,x7,x8,x9,x0⟩:=j;simp only[ah,bW,Ct,iZ]at*;go_enter func231,ntmps231;go_wp2_with fail;go_at_call 259;refine(hw _).mono ?_;rw[←aK];rintro e w1 ⟨rfl,hb1⟩;clear hw ld;go_wp2_with fail;go_at_call 210;refine(ht _).mono ?_;rintro e w2 ⟨rfl,hb2⟩;clear ht;obtain⟨w3,hw3⟩:=qaa (w2.alloc (.cells #[.int .i64 0,.int .i64 0,.int .i64 0,.int .i64 0,.int .i64 0,.int .i64 0,.int .i64 x3,.int .i64 x5,.int .i64 0] 67));have hb3:Below wA.heap.size wA w3:=by rw[hw3];exact(hb1.trans (hb2.mono hb1.size)).alloc (by have:=hb1.size;have:=hb2.size;omega) _
 have hJ3:w3.heap[w.heap.size]? =some (.cells (ah (x1,x2,x3,x4,x5,x6,x7,x8,x9,x0)).toArray 55 (0,0)):=(hb3.block _ (au Rm)).trans Rm;have Cu:iT w3 (w.heap.size+1) Ct:=jr.below hb3 (au jr);have vE:iT w3 w2.heap.size ⟨0,0,0,0,0,0,x3,x5,0⟩:=by rw[hw3];exact heap_alloc_new w2 _
 have hs2:Hid (wA.heap.size≤w2.heap.size):=by show _≤_;have:=hb1.size;have:=hb2.size;omega
 have j0:w3.cell? ⟨w.heap.size,0,none⟩=some (.int .i64 x1):=by simp[World.cell?,hJ3,ah]
 have j5:w3.cell? ⟨w.heap.size,5,none⟩=some (.int .i64 x6):=by simp[World.cell?,hJ3,ah]
 have j6:w3.cell? ⟨w.heap.size,6,none⟩=some (.int .i64 x7):=by simp[World.cell?,hJ3,ah]
 have j7:w3.cell? ⟨w.heap.size,7,none⟩=some (.int .i64 x8):=by simp[World.cell?,hJ3,ah]
 have j8:w3.cell? ⟨w.heap.size,8,none⟩=some (.int .i64 x9):=by simp[World.cell?,hJ3,ah]
 have t1:=vE.at 1 (.int .i64 0) rfl;have t2:=vE.at 2 (.int .i64 0) rfl;have t3:=vE.at 3 (.int .i64 0) rfl;have t4:=vE.at 4 (.int .i64 0) rfl;have t5:=vE.at 5 (.int .i64 0) rfl;have f1:=vE.free 1;have f2:=vE.free 2;have f3:=vE.free 3;have f4:=vE.free 4;have f5:=vE.free 5;have hne:¬w.heap.size=w2.heap.size:=by have:=au Rm;have:=hs2.out;omega
 replace hJ3:=qae hJ3;replace Cu:=qae Cu;replace vE:=qae vE;replace hb3:=qae hb3;clear hb1 hb2 Rm jr;go_wp2_with fail;rw[←hw3];replace hw3:=qae hw3;replace aK:=qae aK;go_region;obtain⟨w6,rH⟩:=qaa ((((((w3.setCell ⟨w2.heap.size,1,none⟩ (.int .i64 x1)).setCell ⟨w2.heap.size,2,none⟩ (.int .i64 x6)).setCell ⟨w2.heap.size,3,none⟩ (.int .i64 x7)).setCell ⟨w2.heap.size,4,none⟩ (.int .i64 x8)).setCell ⟨w2.heap.size,5,none⟩ (.int .i64 x9)).drew);have hs3:w.heap.size+2≤w2.heap.size:=by have:=hs2.out;have:=hsA.out;omega
 have Aq:iT w6 w2.heap.size ⟨0,x1,x6,x7,x8,x9,x3,x5,0⟩:=by
  rw[rH];exact Ja vE.out x1 x6 x7 x8 x9
 have Oq:iT w6 (w.heap.size+1) Ct:=by
  rw[rH];exact((((Cu.out.other (by omega)).other (by omega)).other (by omega)).other (by omega)).other (by omega)
 have hb6:Hid (Below w.heap.size w w6):=by
  show Below _ _ _;rw[rH];exact(uo (uo (uo (uo (uo (bS.out.trans (hb3.out.mono (by have:=hsA.out;omega))) (by omega) 1 _) (by omega) 2 _) (by omega) 3 _) (by omega) 4 _) (by omega) 5 _).drew
 rw[←rH];clear rH;have zR:=wN;obtain⟨k9,bV⟩:∃k,k=9:=⟨_,rfl⟩;rw[←bV]at zR;replace bV:=qae bV;have ld:=nZ (k:=k9) Aq (by rw[bV.out];rfl);obtain⟨hst,XH⟩:=Oq.store ⟨0,x1,x6,x7,x8,x9,x3,x5,0⟩;have kr:Hid (Below w.heap.size w (w6.setRow (w.heap.size+1) (bW ⟨0,x1,x6,x7,x8,x9,x3,x5,0⟩).toArray)):=qN hb6.out (by omega) _;have hlY:(bW ⟨0,x1,x6,x7,x8,x9,x3,x5,0⟩).length=k9:=by rw[bV.out];rfl
 have Y1:Hid (#[.int .i64 0,.int .i64 x1,.int .i64 x6,.int .i64 x7,.int .i64 x8,.int .i64 x9,.int .i64 x3,.int .i64 x5,.int .i64 0]=(bW ⟨0,x1,x6,x7,x8,x9,x3,x5,0⟩).toArray):=rfl;have XI:Hid ((w6.setRow (w.heap.size+1) (bW ⟨0,x1,x6,x7,x8,x9,x3,x5,0⟩).toArray).heap[w.heap.size+1]? =some (.cells (bW ⟨0,x1,x6,x7,x8,x9,x3,x5,0⟩).toArray 67 (0,0))):=XH;clear Oq Aq XH;have Y2:=qae (jF ⟨0,x1,x6,x7,x8,x9,x3,x5,0⟩);generalize bW ⟨0,x1,x6,x7,x8,x9,x3,x5,0⟩=cY at*;go_wp2_with fail
 (try simp only[Exit.inBlock,Exit.then])
 refine eH rfl rfl rfl XI.out underlying67 rfl ?_ ⟨by rw[Y1.out],kr.out⟩;rw[List.size_toArray,Y2.out]
 kernel_rfl
structure Wk where
 ag:Rq
 kW:Int
 dQ:Int
 left:Value
 aD:Jb
 idle:Int
 target:Int
 rep:Ry
 ok:Bool
def gI (R:Wk):List Value:=encR R.ag++([.int .i64 R.kW,.int .i64 R.dQ,R.left]++(ah R.aD++([.int .i64 R.idle,.int .i64 R.target]++(bW R.rep++[.bool R.ok]))))
def VX :Rq:=⟨0,0,0,0,0,0,false,0,0⟩
def iq :Jb:=(0,0,0,0,0,0,0,0,0,0)
def nW :Ry:=⟨0,0,0,0,0,0,0,0,0⟩
def cu (w:World)(b:Nat)(R:Wk):Prop:=w.heap[b]? =some (.cells (gI R).toArray 190 (0,0))
section
variable {w w' w1 w2 : World} {b c t d p g a g' g1 g2 a' : Nat} {v v' v1 v2 : Value} {m m' : Int} {P P' : Pg} {R R' : Wk}
theorem ED (R:Wk):(gI R).length=34:=rfl
theorem cu.lt (h:cu w b R):b<w.heap.size:=au h
theorem cu.at (h:cu w b R)(j:Nat)(u:Value)(hj:(gI R)[j]? =some u):w.cell? ⟨b,j,none⟩=some u:=by
 simp[World.cell?,show w.heap[b]? =_ from h,hj]
theorem cu.free (h:cu w b R)(j:Nat):w.frozen? ⟨b,j,none⟩=false:=by simp[World.frozen?,show w.heap[b]? =_ from h]
theorem cu.put (h:cu w b R)(j:Nat)(u:Value)(he:(gI R).set j u=gI R'):cu (w.setCell ⟨b,j,none⟩ u) b R':=by
 refine(heap_put h u).trans ?_;rw[xA,he]
theorem cu.left (h:cu w b R)(u:Value):cu (w.setCell ⟨b,11,none⟩ u) b {R with left:=u}:=h.put 11 u rfl
theorem cu.idle (h:cu w b R)(n:Int):cu (w.setCell ⟨b,22,none⟩ (.int .i64 n)) b {R with idle:=n}:=h.put 22 _ rfl
theorem cu.target (h:cu w b R)(n:Int):cu (w.setCell ⟨b,23,none⟩ (.int .i64 n)) b {R with target:=n}:=h.put 23 _ rfl
theorem cu.U4 (h:cu w b R)(x:Bool):cu (w.setCell ⟨b,33,none⟩ (.bool x)) b {R with ok:=x}:=h.put 33 _ rfl
theorem cu.plan (h:cu w b R)(n:Int):cu (w.setCell ⟨b,20,none⟩ (.int .i64 n)) b {R with aD:=R.aD.aH n}:=h.put 20 _ rfl
theorem xP {w:World}{g:Nat}{cs:Array Value}{t:TypeId}{fr:Nat×Nat}(h:w.heap[g]? =some (.cells cs t fr))(cs':Array Value):(w.setRow g cs').heap[g]? =some (.cells cs' t fr):=by
 simp[World.setRow,Array.getElem?_modify,h]
theorem cu.Gp (h:cu w b R)(x:Ry):Sem.run prog (storeCells ⟨b,24,none⟩ (bW x) 0) w=.ok () (w.setRow b (gI {R with rep:=x}).toArray)∧cu (w.setRow b (gI {R with rep:=x}).toArray) b {R with rep:=x}:=by
 have hst:=run_storeCells_at prog b 24 190 (bW x) 0 (gI R).toArray w h (by simp[ED,jF]) (za x);refine⟨hst.trans ?_,xP h _⟩;congr 3
theorem cu.uq (h:cu w b R)(x:Jb):Sem.run prog (storeCells ⟨b,12,none⟩ (ah x) 0) w=.ok () (w.setRow b (gI {R with aD:=x}).toArray)∧cu (w.setRow b (gI {R with aD:=x}).toArray) b {R with aD:=x}:=by
 have hst:=run_storeCells_at prog b 12 190 (ah x) 0 (gI R).toArray w h (by simp[ED,ay]) (dH x);refine⟨hst.trans ?_,xP h _⟩;congr 3
theorem xQ {w:World}{g off k:Nat}{all cs:List Value}{t:TypeId}(h:w.heap[g]? =some (.cells all.toArray t (0,0)))(hk:cs.length=k)(hc:∀j u,cs[j]? =some u→all[off+j]? =some u):
 Sem.run prog (loadCellsFrom ⟨g,off,none⟩ 0 k #[]) w=.ok cs.toArray w:=
 run_loadCellsFrom_list prog w _ _ k hk fun j u hj=>by
  rw[Go.WideShapes.add_plain];have:=hc j u hj;simp[World.cell?,h,this]
theorem cu.nE (h:cu w b R){k:Nat}(hk:(encR R.ag).length=k):Sem.run prog (loadCellsFrom ⟨b,0,none⟩ 0 k #[]) w=.ok (encR R.ag).toArray w:=
 xQ h hk fun j u hj=>by
  obtain⟨hlt,_⟩:=List.getElem?_eq_some_iff.1 hj;rw[Nat.zero_add];unfold gI;rw[List.getElem?_append_left hlt];exact hj
theorem cu.nG (h:cu w b R){k:Nat}(hk:(ah R.aD).length=k):Sem.run prog (loadCellsFrom ⟨b,12,none⟩ 0 k #[]) w=.ok (ah R.aD).toArray w:=
 xQ h hk fun j u hj=>by
  have hlt:j<10:=(List.getElem?_eq_some_iff.1 hj).1;show(encR R.ag++([_,_,_]++(ah R.aD++_)))[12+j]? =_;rw[List.getElem?_append_right (by show 9≤_;omega),List.getElem?_append_right (by show 3≤12+j-9;omega),List.getElem?_append_left (by show 12+j-9-3<10;omega)];have e:12+j-(encR R.ag).length- [Value.int .i64 R.kW,.int .i64 R.dQ,R.left].length=j:=by show 12+j-9-3=j;omega
  rw[e];exact hj
def Cv (b c t d p:Nat)(v:Value)(g:Nat)(k:Nat):Prop:=k=b∨dY c t d p v g k
structure SW (w : World) (b c t d p : Nat) (v : Value) (g a : Nat) (m : Int) (R : Wk) (P : Pg) : Prop where
 wk:cu w b R
 cw:CW w c t d p v g a m P
structure WS (w w' : World) (b c t d p : Nat) (v : Value) (g : Nat) (v' : Value) (g' : Nat) : Prop where
 off:gB (Cv b c t d p v g) w w'
 grew:ni w (Cv b c t d p v g) (Cv b c t d p v' g')
theorem SW.apart (h:SW w b c t d p v g a m R P):¬dY c t d p v g b:=h.cw.other h.wk (by decide)
theorem WS.refl (w:World):WS w w b c t d p v g v g:=⟨gB.refl _ _,ni.refl _ _⟩
theorem WS.of_below (h:Below w.heap.size w w1):WS w w1 b c t d p v g v g:=⟨gB.of_below h,ni.refl _ _⟩
theorem WS.trans (h:WS w w1 b c t d p v g v1 g1)(h':WS w1 w2 b c t d p v1 g1 v2 g2):WS w w2 b c t d p v g v2 g2:=
 ⟨h.off.trans h'.off h.grew,h.grew.trans h'.grew h.off.size⟩
theorem WS.dD (h:CS w w1 c t d p v g v1 g1):WS w w1 b c t d p v g v1 g1:=
 ⟨⟨h.off.os,h.off.tape,h.off.output,h.off.size,fun k hk hf=>h.off.block k hk fun h2=>hf (.inr h2)⟩,fun k hk=>hk.elim (fun e=>.inl (.inl e)) fun hf=>(h.grew k hf).elim (fun h2=>.inl (.inr h2)) .inr⟩
theorem WS.heap (h:WS w w1 b c t d p v g v1 g1){k:Nat}(hk:k<w.heap.size)(hn:¬Cv b c t d p v g k):w1.heap[k]? =w.heap[k]? :=h.off.block k hk hn
theorem WS.bD (ho:gB (fun k=>k=b) w w1):WS w w1 b c t d p v g v g:=⟨⟨ho.os,ho.tape,ho.output,ho.size,fun k hk hf=>ho.block k hk fun e=>hf (.inl e)⟩,ni.refl _ _⟩
theorem SW.kept (h:SW w b c t d p v g a m R P)(hb:Below w.heap.size w w1):SW w1 b c t d p v g a m R P:=⟨(hb.block b h.wk.lt).trans h.wk,h.cw.kept hb⟩
theorem SW.core (h:SW w b c t d p v g a m R P)(hc:CW w1 c t d p v1 g1 a' m' P')(hs:CS w w1 c t d p v g v1 g1):SW w1 b c t d p v1 g1 a' m' R P':=⟨(hs.heap h.wk.lt h.apart).trans h.wk,hc⟩
theorem CW.Jc (h:CW w c t d p v g a m P)(ho:gB (fun k=>k=b) w w1)(hb:¬dY c t d p v g b):CW w1 c t d p v g a m P:=by
 have blk:∀k,dY c t d p v g k→w1.heap[k]? =w.heap[k]? :=fun k hk=>ho.block k (h.lt hk) (fun e=>hb (e▸hk));obtain⟨S,aF,⟨cap,hp1,hp2⟩,hrest⟩:=h.mh;refine⟨(blk c (.inl rfl)).trans h.cell,⟨(blk t (.inr (.inl rfl))).trans h.eU.cell,bH h.eU.own fun k hk=>blk k (.inr (.inr (.inr (.inr (.inl hk)))))⟩,(blk d (.inr (.inr (.inl rfl)))).trans h.nodes,S,aF,⟨cap,(blk p (.inr (.inr (.inr (.inl rfl))))).trans hp1,bH hp2 fun k hk=>?_⟩,hrest⟩;have e:k=g:=by simpa[Value.ownBlock]using hk.symm
 exact blk k (.inr (.inr (.inr (.inr (.inr e)))))
theorem SW.work (h:SW w b c t d p v g a m R P)(hw:cu w1 b R')(ho:gB (fun k=>k=b) w w1):SW w1 b c t d p v g a m R' P:=⟨hw,h.cw.Jc ho h.apart⟩
theorem dw (w:World)(j:Nat)(u:Value):gB (fun k=>k=b) w (w.setCell ⟨b,j,none⟩ u):=⟨rfl,rfl,rfl,by simp,fun k _ hk=>Below.heap_setCell w ⟨b,j,none⟩ u k hk⟩
theorem cO (w:World)(cs:Array Value):gB (fun k=>k=b) w (w.setRow b cs):=⟨rfl,rfl,rfl,by simp,fun k _ hk=>setRow_other w b k _ hk⟩
theorem gu (h:gB (fun k=>k=b) w w1)(h':gB (fun k=>k=b) w1 w2):gB (fun k=>k=b) w w2:=h.trans h' (ni.refl _ _)
def az (w:World)(b c t d p:Nat)(v:Value)(g a:Nat)(m:Int)(L:Value)(R':Wk)(P':Pg)(e:Ending)(w':World):Prop:=
 e=.returned L∧∃v' g',SW w' b c t d p v' g' a m R' P'∧WS w w' b c t d p v g v' g'
end
def fF (k:Nat):Value:=.func (.func k) #[] #[]
section
variable {w w' w1 w2 : World} {b c t d p g a : Nat} {v : Value} {m : Int} {P P' : Pg} {R R' : Wk}
theorem kE (h:CW w c t d p v g a m P):Calls prog 71 #[.pointer (some ⟨c,0,none⟩)] w fun e w'=>e=.returned (.bool false)∧w=w':=by
 have c3:=h.c3;clear h;go_enter func71,ntmps71;go_wp2_with fail;go_ret;exact⟨rfl,rfl⟩
theorem jl (h:CW w c t d p v g a m P):Calls prog 42 #[.pointer (some ⟨c,0,none⟩)] w fun e w'=>e=.returned (.bool P.cl)∧w=w':=by
 have c4:=h.c4;have hno:=kE h;clear h;go_enter func42,ntmps42;go_wp2_with (go_at_call 71;go_must (refine hno.mono ?_);rintro e w' ⟨rfl,rfl⟩);go_ret;exact⟨rfl,rfl⟩
theorem Jd (h:cu w b R)(l:Bool)(hl:R.left=.nilFunc∧l=true∨(∃k,R.left=fF k)∧l=false):Calls prog 70 #[.pointer (some ⟨b,0,none⟩)] w fun e w'=>e=.returned (.bool l)∧w=w':=by
 have c11:=h.at 11 R.left rfl;clear h;have e1:∀w,Sem.run prog (binOp .eql 188 .nilFunc .nilFunc) w=.ok (.bool true) w:=fun w=>rfl;have e2:∀k w,Sem.run prog (binOp .eql 188 (.func (.func k) #[] #[]) .nilFunc) w=.ok (.bool false) w:=fun k w=>rfl;rcases hl with⟨hl,rfl⟩|⟨⟨k,hl⟩,rfl⟩
 ·rw[hl]at c11;go_enter func70,ntmps70;go_wp2_with fail;go_ret;exact⟨rfl,rfl⟩
 ·rw[hl]at c11;unfold fF at*;go_enter func70,ntmps70;go_wp2_with fail;go_ret;exact⟨rfl,rfl⟩
theorem iF (h:cu w b R)(q:Int):Calls prog 188 #[.pointer (some ⟨b,0,none⟩),.int .i64 q] w fun e w'=>e=.returned .nilFunc∧cu w' b {R with rep:=⟨q,0,0,0,0,0,0,0,0⟩,ok:=false}∧gB (fun k=>k=b) w w':=by
 have hf:=I9 q w;generalize hx:(⟨q,0,0,0,0,0,0,0,0⟩:Ry)=x at*;have zY:=wN;obtain⟨k9,bV⟩:∃k,k=9:=⟨_,rfl⟩;rw[←bV]at zY;have lY:=jF x;rw[←bV]at lY;have hk0:¬k9=0:=by omega
 replace bV:=qae bV;clear hx;go_enter func188,ntmps188;go_wp2_with fail;go_at_call 98;refine hf.mono ?_;clear hf;rintro e w1 ⟨rfl,hb1⟩;have hW1:cu w1 b R:=(hb1.block b h.lt).trans h;obtain⟨st,hW2⟩:=hW1.Gp x;have hW3:=hW2.U4 false;have ok3:=hW2.free 33;have ho:gB (fun k=>k=b) w ((w1.setRow b (gI {R with rep:=x}).toArray).setCell ⟨b,33,none⟩ (.bool false)):=gu (gB.of_below hb1) (gu (cO w1 _) (dw _ 33 _));have Y3:=hW2.at 33 (.bool R.ok) rfl;generalize gI {R with rep:=x}=W2 at*;go_wp2_with fail;go_ret;exact⟨rfl,hW3,ho⟩
end
section
variable {w w' w1 w2 : World} {b c t d p g a : Nat} {v : Value} {m : Int} {P P' : Pg} {R R' : Wk}
theorem Je {k a':Nat}{m':Int}{L:Value}{l:Bool}(h:SW w b c t d p v g a m R P)(hl:R.left=fF k)(hl':R'.left=fF k)(hL:L=.nilFunc∧l=true∨(∃k,L=fF k)∧l=false)
 (hk:∀args w,Sem.run prog (callFunc k args) w=.ok (.enter k args) w)
 (hp:Calls prog k #[.pointer (some ⟨b,0,none⟩),.pointer (some ⟨c,0,none⟩)] w (az w b c t d p v g a' m' L R' P')):
 Calls prog 143 #[.pointer (some ⟨b,0,none⟩),.pointer (some ⟨c,0,none⟩)] w fun e w'=>e=.returned (.bool l)∧∃v' g',SW w' b c t d p v' g' a' m' {R' with left:=L} P'∧WS w w' b c t d p v g v' g':=by
 have hd:=Jd h.wk false (.inr ⟨⟨k,hl⟩,rfl⟩);have hn:=kE h.cw;have c11:=h.wk.at 11 R.left rfl;rw[hl]at c11;unfold fF at c11;go_enter func143,ntmps143;go_wp2_with (first|(go_at_call 70;go_must (refine hd.mono ?_);rintro e w' ⟨rfl,rfl⟩)|(go_at_call 71;go_must (refine hn.mono ?_);rintro e w' ⟨rfl,rfl⟩));refine hp.mono ?_;clear hp;rintro e w1 ⟨rfl,v1,g1,hS,hW⟩;have hW2:=hS.wk.left L;have c11':=hS.wk.at 11 R'.left rfl;rw[hl']at c11';unfold fF at c11';have f11:=hS.wk.free 11;have hd2:=Jd hW2 l hL;have hS2:=hS.work hW2 (dw w1 11 L);have fin:=hW.trans (WS.bD (dw w1 11 L));clear hW hW2 hS hd hn h c11;rcases hL with⟨rfl,rfl⟩|⟨⟨k2,rfl⟩,rfl⟩
 ·go_wp2_with (go_at_call 70;go_must (refine hd2.mono ?_);rintro e w' ⟨rfl,rfl⟩);go_ret;exact⟨rfl,v1,g1,hS2,fin⟩
 ·unfold fF at*;go_wp2_with (go_at_call 70;go_must (refine hd2.mono ?_);rintro e w' ⟨rfl,rfl⟩);go_ret;exact⟨rfl,v1,g1,hS2,fin⟩
end
def hd (v:Int):Int:=max 0 (min v 1152921504606846976)
theorem uZ (v:Int):0≤hd v∧hd v≤1152921504606846976:=by unfold hd;omega
theorem vL (v:Int)(w:World):
 Calls prog 221 #[.int .i64 v] w fun e w'=>e=.returned (.int .i64 (hd v))∧w=w':=by
 go_enter func221,ntmps221;go_wp2;go_ret;exact⟨rfl,rfl⟩
theorem Cw (a b:Int)(w:World):
 Calls prog 241 #[.int .i64 a,.int .i64 b] w fun e w'=>e=.returned (.int .i64 (hd (hd a-hd b)))∧w=w':=by
 have ha:=uZ a;have hb:=uZ b;go_enter func241,ntmps241;go_wp2_with (go_at_call 221;go_must (refine(vL _ _).mono ?_);rintro e w' ⟨rfl,rfl⟩);go_ret;exact⟨rfl,rfl⟩
theorem Ur (a:Int)(w:World)(ha: -9223372036854775808≤a∧a≤9223372036854775807):
 Calls prog 145 #[.int .i64 a] w fun e w'=>e=.returned (.bool (decide (0≤a∧a≤1099511627776)))∧w=w':=by
 by_cases h0:0≤a
 ·go_enter func145,ntmps145;go_wp2;go_ret;exact⟨by simp[h0],rfl⟩
 ·go_enter func145,ntmps145;go_wp2;go_ret;exact⟨by simp;omega,rfl⟩
def vM (l:List Int):Int:=l.foldl (fun s v=>hd (s+hd v)) 0
def kJ (l:List Int):Int:=l.foldl min 1152921504606846976
theorem Cx (l:List Int)(z:Int):vM (l++[z])=hd (vM l+hd z):=by unfold vM;rw[List.foldl_append];rfl
theorem Gq (l:List Int)(z:Int):kJ (l++[z])=min (kJ l) z:=by unfold kJ;rw[List.foldl_append];rfl
theorem Jf (l:List Int):0≤vM l∧vM l≤1152921504606846976:=by
 rcases List.eq_nil_or_concat l with rfl|⟨m,z,rfl⟩
 ·decide
 ·rw[List.concat_eq_append,Cx];exact uZ _
theorem Rn (v:Value)(zs:List Int)(w:World)(h:pV w v zs):
 Calls prog 193 #[v] w fun e w'=>e=.returned (.int .i64 (vM zs))∧w=w':=by
 obtain⟨⟨ao,cap,rfl,hlc,hcm,hcells⟩,hfit⟩:=h;have FX:cap≤9223372036854775807:=by unfold maxLen at hcm;omega
 clear hfit hcm;go_enter func193,ntmps193;go_wp2_with fail;go_loopw [3,8] (fun s i wr=>∃(k:Nat),k≤zs.length∧i=.int .i64 k∧s=.int .i64 (vM (zs.take k))∧wr=w) (fun _ i _=>zs.length-(intOf i).toNat)
 case atStart=>exact⟨0,Nat.zero_le _,rfl,rfl,rfl⟩
 case round=>
  obtain⟨k,hk,rfl,rfl,rfl⟩:=hrel;by_cases hlt:k<zs.length
  ·obtain⟨b,off,rfl,hbw,hcell⟩:=hcells (by rintro rfl;simp at hlt);obtain⟨z,hz⟩:=qaa (zs.getD k 0);have hcw:wr.cell? ⟨b,off+k,none⟩=some (.int .i64 z):=by rw[hz];exact hcell k hlt
   have hs:=Jf (zs.take k);have hh:=uZ z;have hn:Hid (hd (vM (zs.take k)+hd z)=vM (zs.take (k+1))):=by show _=_;rw[BR hlt,Cx,hz]
   clear hz hcell hcells;go_wp2_with (go_at_call 221;go_must (refine(vL _ _).mono ?_);rintro e w' ⟨rfl,rfl⟩);go_roundw
   case rel=>exact⟨k+1,by omega,by go_num,congrArg (Value.int .i64) hn.out,trivial⟩
   case measure=>simp[intOf];omega
  ·obtain rfl:k=zs.length:=by omega
   rw[List.take_of_length_le (qaf _)];go_wp2_with fail;go_ret;exact⟨rfl,rfl⟩
theorem LF (v:Value)(zs:List Int)(w:World)(h:pV w v zs):
 Calls prog 277 #[v] w fun e w'=>e=.returned (.int .i64 (kJ zs))∧w=w':=by
 obtain⟨⟨ao,cap,rfl,hlc,hcm,hcells⟩,hfit⟩:=h;have FX:cap≤9223372036854775807:=by unfold maxLen at hcm;omega
 clear hfit hcm;go_enter func277,ntmps277;go_wp2_with fail;go_loopw [3,8] (fun s i wr=>∃(k:Nat),k≤zs.length∧i=.int .i64 k∧s=.int .i64 (kJ (zs.take k))∧wr=w) (fun _ i _=>zs.length-(intOf i).toNat)
 case atStart=>exact⟨0,Nat.zero_le _,rfl,rfl,rfl⟩
 case round=>
  obtain⟨k,hk,rfl,rfl,rfl⟩:=hrel;by_cases hlt:k<zs.length
  ·obtain⟨b,off,rfl,hbw,hcell⟩:=hcells (by rintro rfl;simp at hlt);obtain⟨z,hz⟩:=qaa (zs.getD k 0);have hcw:wr.cell? ⟨b,off+k,none⟩=some (.int .i64 z):=by rw[hz];exact hcell k hlt
   have hn:Hid (min (kJ (zs.take k)) z=kJ (zs.take (k+1))):=by show _=_;rw[BR hlt,Gq,hz]
   clear hz hcell hcells;go_wp2_with fail;go_roundw
   case rel=>exact⟨k+1,by omega,by go_num,congrArg (Value.int .i64) hn.out,trivial⟩
   case measure=>simp[intOf];omega
  ·obtain rfl:k=zs.length:=by omega
   rw[List.take_of_length_le (qaf _)];go_wp2_with fail;go_ret;exact⟨rfl,rfl⟩
theorem Ro (w:World)(x y:Int)(e:TypeId)(hx: -9223372036854775808≤x∧x≤9223372036854775807)(hy: -9223372036854775808≤y∧y≤9223372036854775807):
 pV (w.alloc (.cells #[.int .i64 x,.int .i64 y] e)) (.slice (some ⟨w.heap.size,0,none⟩) 2 2) [x,y]:=by
 refine⟨⟨_,_,rfl,by simp,by decide,fun _=>⟨w.heap.size,0,rfl,by simp,fun i hi=>?_⟩⟩,fun z hz=>?_⟩
 ·have hi:i=0∨i=1:=by simp at hi;omega
  rcases hi with rfl|rfl<;>go_simp
 ·simp at hz;rcases hz with rfl|rfl
  ·exact hx
  ·exact hy
theorem kF :∀w,Sem.run prog (Go.sizeOf 131) w=.ok 3 w:=sizeOf131
theorem Rp :∀w,Sem.run prog (isAgg 131) w=.ok true w:=isAgg131
theorem fT {w:World}{b k:Nat}{cs:List Value}{t:TypeId}(h:w.heap[b]? =some (.cells cs.toArray t (0,0)))(hk:cs.length=k):Sem.run prog (loadCellsFrom ⟨b,0,none⟩ 0 k #[]) w=.ok cs.toArray w:=
 xQ h hk fun j u hj=>by rw[Nat.zero_add];exact hj
theorem ze {fn:Func}{q u:Tmp}{b:Nat}{tmps:Array Value}{w:World}{cs:List Value}(h:fn.results= #[.cell q 131,.tmp u])(ha:tmps.getD q undef=.pointer (some ⟨b,0,none⟩))(hb:w.heap[b]? =some (.cells cs.toArray 131 (0,0)))(hl:cs.length=3):
 (results fn tmps).run prog w=.ok (.tuple #[.agg cs.toArray,tmps.getD u undef]) w:=by
 have h1:Sem.run prog (loadCells ⟨b,0,none⟩ 3) w=.ok cs.toArray w:=fT hb hl;rw[results_cell_tmp h,ha];simp only[loadVar,asAddr,Sem.run_bind,Sem.run_pure,Result.andThen_ok,Rp,kF,h1,if_true]
def aO (j:Jb):List Value:=if aj j=true then[.int .i64 j.aJ,.int .i64 (j.aJ+j.lim),.int .i64 j.wid]else[.int .i64 0,.int .i64 0,.int .i64 0]
section
variable {w : World}
theorem OZ (j:Jb)(h:aj j=false):Calls prog 146 #[.agg (ah j).toArray] w fun e w'=>e=.returned (.tuple #[.agg (aO j).toArray,.bool (aj j)])∧Below w.heap.size w w':=by
 unfold aO;rw[h,qai (by decide)];obtain⟨x1,x2,x3,x4,x5,x6,x7,x8,x9,x0⟩:=j;have hk:x6≠1∨(x6=1∧x9<0):=by
  by_cases e:x6=1
  ·refine .inr ⟨e,?_⟩;rcases Int.lt_or_le x9 0 with h1|h1
   ·exact h1
   ·have:aj (x1,x2,x3,x4,x5,x6,x7,x8,x9,x0)=true:=bu.2 ⟨e,h1⟩;rw[this]at h;cases h
  ·exact .inl e
 clear h;rw[D5];have hb2:Below w.heap.size w ((w.alloc (.cells #[.int .i64 x1,.int .i64 x2,.int .i64 x3,.int .i64 x4,.int .i64 x5,.int .i64 x6,.int .i64 x7,.int .i64 x8,.int .i64 x9,.int .u64 x0] 55)).alloc (.cells #[.int .i64 0,.int .i64 0,.int .i64 0] 131)):=(qac.alloc (qaf _) _).alloc (by simp) _;rcases hk with h1|⟨rfl,h2⟩
 ·have d1:(x6 != 1)=true:=by simp[h1]
  go_enter func146,ntmps146;go_wp2_with fail;refine bodyPost_ret (ze rfl rfl (heap_alloc2_new w _ _) rfl) rfl ⟨rfl,hb2⟩
 ·go_enter func146,ntmps146;go_wp2_with fail;refine bodyPost_ret (ze rfl rfl (heap_alloc2_new w _ _) rfl) rfl ⟨rfl,hb2⟩
theorem zX {w w':World}{v:Value}{zs:List Int}(h:pV w v zs)(hb:Below w.heap.size w w'):pV w' v zs:=by
 obtain⟨⟨ao,cap,e,h1,h2,h3⟩,hf⟩:=h;refine⟨⟨ao,cap,e,h1,h2,fun hz=>?_⟩,hf⟩;obtain⟨b,off,e2,h4,h5⟩:=h3 hz;exact⟨b,off,e2,Nat.lt_of_lt_of_le h4 hb.size,fun i hi=>by rw[←h5 i hi];simp only[World.cell?,hb.block b h4]⟩
theorem LG (j:Jb)(h:aj j=true)(hp:j.aJ≤1099511627776)(hl:0≤j.lim∧j.lim≤1048576):Calls prog 146 #[.agg (ah j).toArray] w fun e w'=>e=.returned (.tuple #[.agg (aO j).toArray,.bool (aj j)])∧Below w.heap.size w w':=by
 unfold aO;rw[h,qaj rfl];obtain⟨hs,hp0⟩:=bu.1 h;obtain⟨x1,x2,x3,x4,x5,x6,x7,x8,x9,x0⟩:=j;obtain rfl:x6=1:=hs;replace hp0:0≤x9:=hp0;replace hp:x9≤1099511627776:=hp;replace hl:0≤x4∧x4≤1048576:=hl;have hsum:vM [x9,x4]=x9+x4:=by show hd (hd (0+hd x9)+hd x4)=_;unfold hd;omega
 show Calls _ _ _ _ fun e w'=>e=.returned (.tuple #[.agg #[.int .i64 x9,.int .i64 (x9+x4),.int .i64 x3],.bool true])∧Below w.heap.size w w';clear h;rw[D5];obtain⟨wA,aK⟩:=qaa (((w.alloc (.cells #[.int .i64 x1,.int .i64 x2,.int .i64 x3,.int .i64 x4,.int .i64 x5,.int .i64 1,.int .i64 x7,.int .i64 x8,.int .i64 x9,.int .u64 x0] 55)).alloc (.cells #[.int .i64 0,.int .i64 0,.int .i64 0] 131)));have bS:Below w.heap.size w wA:=by rw[aK];exact(qac.alloc (qaf _) _).alloc (by simp) _
 have hsA:wA.heap.size=w.heap.size+2:=by rw[aK];simp
 have hJ:Hid (wA.heap[w.heap.size]? =some (.cells #[.int .i64 x1,.int .i64 x2,.int .i64 x3,.int .i64 x4,.int .i64 x5,.int .i64 1,.int .i64 x7,.int .i64 x8,.int .i64 x9,.int .u64 x0] 55 (0,0))):=by show _=_;rw[aK];exact dL (heap_alloc_new w _)
 have hS:wA.heap[w.heap.size+1]? =some (.cells #[.int .i64 0,.int .i64 0,.int .i64 0] 131 (0,0)):=by rw[aK];exact heap_alloc2_new w _ _
 have LD:Hid (∀W,Below wA.heap.size wA W→W.heap[w.heap.size]? =some (.cells #[.int .i64 x1,.int .i64 x2,.int .i64 x3,.int .i64 x4,.int .i64 x5,.int .i64 1,.int .i64 x7,.int .i64 x8,.int .i64 x9,.int .u64 x0] 55 (0,0))):=fun W hW=>(hW.block _ (by omega)).trans hJ.out;have hAdd:=fun(v:Value) (W:World) (hv:pV W v [x9,x4])=>Rn v [x9,x4] W hv;rw[hsum]at hAdd;replace hsum:=qae hsum;replace aK:=qae aK;replace bS:=qae bS;go_enter func146,ntmps146;go_wp2_with fail;rw[←aK.out];refine Reg2.rd wA 10 24 (Reg2.rows 0 [.p 0,.p 1,.p 0,.p 4,.p 0,.p 16,.p 60,.p 124,.p 0,.p 256]) [0,1,0,1,0,1,1,1,0,1] [.pure,.mU (.int .i64 x9),.pure,.mU (.int .i64 x9),.pure,.mU (.int .i64 x4),.minor Nat 0 (fun k=>.slice (some ⟨k,0,none⟩) 2 2) (fun k W=>pV W (.slice (some ⟨k,0,none⟩) 2 2) [x9,x4]),.mU (.int .i64 (x9+x4)),.pure,.mU (.int .i64 x3)] (by kernel_rfl) (by kernel_rfl) rfl rfl ⟨trivial,Reg2.tt,trivial,Reg2.tt,trivial,Reg2.tt,⟨fun k a b he hp=>zX hp he,fun k a b he hp=>zX hp he⟩,Reg2.tt,trivial,Reg2.tt,trivial⟩ ⟨rfl,rfl,rfl,qaf _,fun _ _=>rfl⟩ ?_;dsimp only[Reg2.rows,Reg2.mk,List.zip,List.zipWith,List.take]
 repeat((first
  |(refine' Reg2.ak _ (by rfl) (fun wz=>?_) ?_;rotate_left;(go_simp;first|rfl|rw[qai (by omega)]))
  |(refine Reg2.aA (by rfl) (fun wz hI hF=>?_) (fun _=>?_)
    ·unfold Reg2.One;have q0:wz.cell? ⟨w.heap.size,8,none⟩=some (.int .i64 x9):=by simp[World.cell?,LD.out wz hI]
     have xR:wz.cell? ⟨w.heap.size,3,none⟩=some (.int .i64 x4):=by simp[World.cell?,LD.out wz hI]
     go_wp2_with fail
     first|exact⟨_,rfl,rfl,qad⟩|exact⟨_,rfl,⟨(),rfl,trivial⟩,qad⟩));simp only[Act.put,xA,xB,xC,xD,xE,id])
 refine Reg2.pm (fun wz hI hF=>?_) (fun r6=>?_) (by rfl)
 ·have pa:=Ro wz x9 x4 2 (by omega) (by omega);go_wp2_with fail;exact⟨_,rfl,⟨_,rfl,pa⟩,(qad).alloc (qaf _) _⟩
 simp only[Act.put,xA,xB,xC,xD,xE,id];refine Reg2.pm (fun wz hI hF=>?_) (fun r7=>?_) (by rfl)
 ·have hv:=hF.2.2.2.2.1;go_wp2_with (go_at_call 193;go_must (refine(hAdd _ wz hv).mono ?_);rintro e w' ⟨rfl,rfl⟩)
  first|exact⟨_,rfl,rfl,qad⟩|exact⟨_,rfl,⟨(),rfl,trivial⟩,qad⟩
 simp only[Act.put,xA,xB,xC,xD,xE,id]
 repeat((first
  |(refine' Reg2.ak _ (by rfl) (fun wz=>?_) ?_;rotate_left;(go_simp;first|rfl|rw[qai (by omega)]))
  |(refine Reg2.aA (by rfl) (fun wz hI hF=>?_) (fun _=>?_)
    ·unfold Reg2.One;have q0:wz.cell? ⟨w.heap.size,2,none⟩=some (.int .i64 x3):=by simp[World.cell?,LD.out wz hI]
     go_wp2_with fail
     first|exact⟨_,rfl,rfl,qad⟩|exact⟨_,rfl,⟨(),rfl,trivial⟩,qad⟩));simp only[Act.put,xA,xB,xC,xD,xE,id])
 refine Reg2.aB ?_;intro w7 jZ _ kG;clear kG;dsimp only[List.drop];have gM:w7.heap[w.heap.size+1]? =some (.cells #[.int .i64 0,.int .i64 0,.int .i64 0] 131 (0,0)):=(jZ.block _ (by omega)).trans hS;have kr:=bS.out.trans (jZ.mono bS.out.size);have c0:w7.cell? ⟨w.heap.size+1,0,none⟩=some (.int .i64 0):=by simp[World.cell?,gM]
 have c1:w7.cell? ⟨w.heap.size+1,1,none⟩=some (.int .i64 0):=by simp[World.cell?,gM]
 have c2:w7.cell? ⟨w.heap.size+1,2,none⟩=some (.int .i64 0):=by simp[World.cell?,gM]
 have f0:w7.frozen? ⟨w.heap.size+1,0,none⟩=false:=by simp[World.frozen?,gM]
 have f1:w7.frozen? ⟨w.heap.size+1,1,none⟩=false:=by simp[World.frozen?,gM]
 have f2:w7.frozen? ⟨w.heap.size+1,2,none⟩=false:=by simp[World.frozen?,gM]
 have gL:=heap_put (i:=2) (heap_put (i:=1) (heap_put (i:=0) gM (.int .i64 x9)) (.int .i64 (x9+x4))) (.int .i64 x3);have vF:Below w.heap.size w (((w7.setCell ⟨w.heap.size+1,0,none⟩ (.int .i64 x9)).setCell ⟨w.heap.size+1,1,none⟩ (.int .i64 (x9+x4))).setCell ⟨w.heap.size+1,2,none⟩ (.int .i64 x3)):=((kr.setCell (by show _≤w.heap.size+1;omega) _).setCell (by show _≤w.heap.size+1;omega) _).setCell (by show _≤w.heap.size+1;omega) _;go_wp2_with fail;refine bodyPost_ret (ze rfl rfl gL rfl) rfl ⟨rfl,vF⟩
theorem kU (j:Jb)(hp:j.aJ≤1099511627776)(hl:0≤j.lim∧j.lim≤1048576):Calls prog 146 #[.agg (ah j).toArray] w fun e w'=>e=.returned (.tuple #[.agg (aO j).toArray,.bool (aj j)])∧Below w.heap.size w w':=by
 cases h:aj j with
 |false=>have:=OZ (w:=w) j h;rw[h]at this;exact this
 |true=>have:=LG (w:=w) j h hp hl;rw[h]at this;exact this
end
section
variable {w : World} {b c t d p g a : Nat} {v : Value} {m : Int} {P : Pg} {R : Wk}
theorem oz (h:SW w b c t d p v g a m R P)(id:Int):Calls prog 209 #[.pointer (some ⟨b,0,none⟩),.pointer (some ⟨c,0,none⟩),.int .i64 id] w fun e w'=>
 e=.returned (.agg (ah (bI P.J id)).toArray)∧cu w' b {R with rep:=iZ (bI P.J id)}∧gB (fun k=>k=b) w w':=by
 have zE:=bL;have zY:=wN;obtain⟨k,hk⟩:=qaa (10);obtain⟨k9,bV⟩:∃k,k=9:=⟨_,rfl⟩;rw[←hk]at zE;rw[←bV]at zY;have hk0:¬k9=0:=by omega
 have hk1:¬k=0:=by omega
 obtain⟨wA,aK⟩:=qaa (w.alloc (.cells #[.int .i64 0,.int .i64 0,.int .i64 0,.int .i64 0,.int .i64 0,.int .i64 0,.int .i64 0,.int .i64 0,.int .i64 0,.int .u64 0] 55));have bS:Below w.heap.size w wA:=by rw[aK];exact qac.alloc (qaf _) _
 have hsA:wA.heap.size=w.heap.size+1:=by rw[aK];simp
 have VY:wA.heap[w.heap.size]? =some (.cells (ah iq).toArray 55 (0,0)):=by rw[aK];exact heap_alloc_new w _
 have hA:=h.kept bS;have c0:=hA.cw.c0;have hget:=fO hA.cw.eU id;obtain⟨y,hy⟩:=qaa (bI P.J id);rw[←hy];unfold iC at hget;rw[←hy]at hget;replace hy:=qae hy;have lY:=ay y;rw[←hk]at lY;replace hk:=qae hk;rw[aK]at c0 hget;have U5:=fun W=>Uq y W;have lR:=jF (iZ y);rw[←bV]at lR;replace bV:=qae bV;have ST:Hid (∀W:World,Sem.run prog (storeCells ⟨W.heap.size,0,none⟩ (ah y) 0) (W.alloc (.cells #[.int .i64 0,.int .i64 0,.int .i64 0,.int .i64 0,.int .i64 0,.int .i64 0,.int .i64 0,.int .i64 0,.int .i64 0,.int .u64 0] 55))=.ok () (W.alloc (.cells (ah y).toArray 55))):=fun W=>df W W.heap.size (ah y) (ah iq) 55 rfl rfl (dH y);have JS:Hid (∀{q:Nat} {W:World},W.heap[q]? =some (.cells (ah iq).toArray 55 (0,0))→Sem.run prog (storeCells ⟨q,0,none⟩ (ah y) 0) W=.ok () (W.setRow q (ah y).toArray)):=fun hq=>mr hq;have VZ:Hid ((ah y).toArray.size=10):=qae rfl;generalize ah y=cY at*;go_enter func209,ntmps209;go_wp2_with fail;go_at_call 41;refine hget.mono ?_;clear hget;rw[←aK];rintro e w1 ⟨rfl,hg1⟩;replace aK:=qae aK;have hb1:=hg1.below;have st1:=ST.out w1;obtain⟨w2,hw2⟩:=qaa (w1.alloc (.cells cY.toArray 55));rw[←hw2]at st1;have hb2:Below wA.heap.size wA w2:=by rw[hw2];exact hb1.alloc hb1.size _
 have h2:=hA.kept hb2;have hx2:w2.heap[w.heap.size]? =some (.cells (ah iq).toArray 55 (0,0)):=(hb2.block _ (by omega)).trans VY;have hz2:w2.heap[w1.heap.size]? =some (.cells cY.toArray 55 (0,0)):=by rw[hw2];exact heap_alloc_new w1 _
 have Y4:=fT hz2 lY;have hs1:=hb1.size;have hs2:w2.heap.size=w1.heap.size+1:=by rw[hw2];simp
 replace hw2:=qae hw2;go_wp2_with fail;go_at_call 231;refine(U5 w2).mono ?_;clear U5;rintro e w3 ⟨rfl,hb3⟩;have h3:=h2.kept hb3;obtain⟨Y5,XJ⟩:=h3.wk.Gp (iZ y);have hbb:=h.wk.lt;have hx3:w3.heap[w.heap.size]? =some (.cells (ah iq).toArray 55 (0,0)):=(hb3.block _ (by omega)).trans hx2;have hz3:w3.heap[w1.heap.size]? =some (.cells cY.toArray 55 (0,0)):=(hb3.block _ (by omega)).trans hz2;obtain⟨w4,hw4⟩:=qaa (w3.setRow b (gI {R with rep:=iZ y}).toArray);rw[←hw4]at Y5 XJ;have hx4:w4.heap[w.heap.size]? =some (.cells (ah iq).toArray 55 (0,0)):=by rw[hw4,setRow_other w3 b _ _ (by omega)];exact hx3
 have Av:w4.heap[w1.heap.size]? =some (.cells cY.toArray 55 (0,0)):=by rw[hw4,setRow_other w3 b _ _ (by omega)];exact hz3
 have uj:gB (fun k=>k=b) w w4:=by rw[hw4];exact gu (gB.of_below (bS.trans ((hb2.trans (hb3.mono hb2.size)).mono bS.size))) (cO w3 _)
 have Y6:=fT Av lY;have st4:=JS.out hx4;have Y7:cu (w4.setRow w.heap.size cY.toArray) b {R with rep:=iZ y}:=(setRow_other w4 w.heap.size b _ (by omega)).trans XJ;have Cq:gB (fun k=>k=b) w (w4.setRow w.heap.size cY.toArray):=⟨uj.os,uj.tape,uj.output,by simpa using uj.size,fun k hk2 hn=>by rw[setRow_other w4 w.heap.size k _ (by omega)];exact uj.block k hk2 hn⟩;have hx5:=xP hx4 cY.toArray;replace hw4:=qae hw4;go_wp2_with fail;refine eH rfl rfl rfl hx5 underlying55 rfl (by rw[VZ.out];kernel_rfl) ⟨rfl,Y7,Cq⟩
end
theorem EE {q p:Jb→Bool}:∀{L:List Jb} {i:Nat},i<(L.filter q).length→(∀k,k<i→p ((L.filter q)[k]!)=false)→p ((L.filter q)[i]!)=true→∃n,L.findIdx? (fun j=>q j&&p j)=some n∧n<L.length∧L.getD n default=(L.filter q)[i]! :=by
 intro L
 induction L with
 |nil=>intro i hi;simp at hi
 |cons x L ih=>
  intro i hi hno hp;cases hq:q x with
  |false=>
   have e:(x::L).filter q=L.filter q:=by simp[hq]
   rw[e]at hi hp hno⊢;obtain⟨n,h1,h2,h3⟩:=ih hi hno hp;refine⟨n+1,?_,by simp;omega,by simpa using h3⟩;rw[List.findIdx?_cons];simp[hq,h1]
  |true=>
   have e:(x::L).filter q=x::L.filter q:=by simp[hq]
   rw[e]at hi hp hno⊢;cases i with
   |zero=>
    have hx:p x=true:=by simpa using hp
    refine⟨0,?_,by simp,by simp⟩;rw[List.findIdx?_cons];simp[hq,hx]
   |succ i=>
    have hx:p x=false:=by simpa using hno 0 (by omega)
    obtain⟨n,h1,h2,h3⟩:=ih (i:=i) (by simpa using hi) (fun k hk=>by simpa using hno (k+1) (by omega)) (by simpa using hp);refine⟨n+1,?_,by simp;omega,by simpa using h3⟩;rw[List.findIdx?_cons];simp[hx,h1]
theorem Jg {q p:Jb→Bool}{L:List Jb}(hno:∀k,k<(L.filter q).length→p ((L.filter q)[k]!)=false):L.findIdx? (fun j=>q j&&p j)=none:=by
 rw[List.findIdx?_eq_none_iff];intro x hx;cases hq:q x with
 |false=>rfl
 |true=>
  obtain⟨k,hk,e⟩:=List.mem_iff_getElem.1 (List.mem_filter.2 ⟨hx,hq⟩);have:=hno k hk;rw[getElem!_pos _ k hk,e]at this;simpa using this
section
variable {M : Md}
theorem rU (h:aG M){i:Nat}(hi:i<M.L.length)(hp:aj (M.L.getD i default)=true)(t:Int):
 ax {M with L:=M.L.set i ((M.L.getD i default).aH (-1))} t 0=ax M t 0+had (max (M.L.getD i default).aJ M.now) ((M.L.getD i default).aJ+(M.L.getD i default).lim) (M.L.getD i default).wid t:=by
 have hm:=aZ hi;have hid:=h.ids i hi;have hpl:=h.plan _ hm;have h1:=h.mb.aJ _ hm;have h2:=h.mb.lim _ hm;have h0:=(bu.1 hp).2;rw[iW hi,dN (j:=(M.L.getD i default).aH (-1)) (by unfold aj;simp[Jb.aH,Jb.aJ]),mD hp (by omega)];generalize M.L.getD i default=x at*;have e:max x.aJ M.now=x.aJ:=by omega
 rw[e];unfold had;have e2:¬(x.aJ+x.lim=1152921504606846976):=by omega
 simp only[e2,or_false];omega
theorem Gs {i:Nat}(hi:i<M.L.length):dh {M with L:=M.L.set i ((M.L.getD i default).aH (-1))}=dh M:=by
 refine pG (by rw[bC,bC]) fun n hn=>?_;rw[dm,dm,pO (y:=(M.L.getD i default).aH (-1)) hi Iff.rfl rfl]
theorem wO (h:aG M)(t:Int)(ht:M.now≤t):0≤ax M t 0∧ax M t 0≤64:=⟨h.free t ht,by have:=Br h t;have:=h.mb.nn;omega⟩
end
def O0 (w:World)(c t d p:Nat)(v:Value)(g a:Nat)(m:Int)(M:Md)(o:Option Nat)(e:Ending)(w':World):Prop:=
 (o=none∧e=.returned (.bool false)∧Below w.heap.size w w')∨
 ∃i,o=some i∧fw w c t d p v g (a+2) (m+1) (.bool true) (ai {M with L:=M.L.set i ((M.L.getD i default).aH (-1))}) e w'
section
variable {w : World} {c t d p g a : Nat} {v : Value} {m : Int} {M : Md}
theorem wP (h:CW w c t d p v g a m (ai M))(hI:aG M)(h1:1≤M.dr.length)(hll:M.L.length≤900)(ha:a≤800)(hm:m≤1000000)(lv:Value)(l:List Jb)(q:Jb→Bool)(hr:aC ah 10 w lv l)(hl:l=M.L.filter q):
 Calls prog 260 #[.pointer (some ⟨c,0,none⟩),lv] w (O0 w c t d p v g a m M (M.L.findIdx? fun j=>q j&&aj j)):=by
 have zE:=bL;have zS:=kF;obtain⟨k,hk⟩:=qaa (10);obtain⟨k3,hk3⟩:∃k,k=3:=⟨_,rfl⟩;rw[←hk]at zE;rw[←hk3]at zS;have hk0:¬k=0:=by omega
 have zZ:¬k3=0:=by omega
 replace hk:=qae hk;replace hk3:=qae hk3;have hC:=qae h;have hlt:Hid (∀k,dY c t d p v g k→k<w.heap.size):=fun k hk=>h.lt hk;have sQ:=qae (fu hI h1 hll);have hmem:Hid (∀i,i<l.length→l[i]! ∈M.L):=fun i hi=>by
  have:l[i]! ∈l:=by rw[getElem!_pos l i hi];exact List.getElem_mem _
  have h2:l[i]! ∈M.L.filter q:=hl▸this;exact(List.mem_filter.1 h2).1
 obtain⟨ao,cap,rfl,q1,q2,q3⟩:=hr;obtain⟨n,hn⟩:=qab (l.length);have hnl:n≤900:=by rw[←hn,hl];exact Nat.le_trans (List.length_filter_le _ _) hll
 rw[hn]at q1 q3⊢;have HQ:Hid (0<n→∃b off,ao=some ⟨b,off,none⟩∧nC w b off l):=fun hp=>by
  obtain⟨b,off,e1,e2,e3⟩:=q3 hp;exact⟨b,off,e1,e2,e3⟩
 have FX:cap≤9223372036854775807:=by unfold maxLen at q2;omega
 replace hn:=qae hn;replace hl:=qae hl;clear q2 q3 h;go_enter func260,ntmps260;go_wp2_with fail;go_loopw [11] (fun ii wr=>∃(i:Nat),i≤n∧ii=.int .i64 i∧Below w.heap.size w wr∧Hid (∀j,j<i→aj l[j]! =false)) (fun ii _=>n-(intOf ii).toNat)
 case atStart=>exact⟨0,Nat.zero_le _,rfl,Below.refl _ _,qae fun j hj=>absurd hj (Nat.not_lt_zero _)⟩
 case round=>
  obtain⟨i,hin,rfl,hbr,hno⟩:=hrel;by_cases hlt2:i<n
  ·have b2:(i:Int)<(n:Int):=by omega
   have wi:IntKind.i64.wrap ((i:Int)+1)=(i:Int)+1:=by rw[IntKind.wrap_i64];omega
   obtain⟨gb,off,rfl,hJ⟩:=HQ.out (by omega);have sP:=hJ.below hbr;have iJ:i<l.length:=by have:=hn.out;omega
   have LI:=sP.load hk.out iJ;have hxm:=hmem.out i iJ;obtain⟨x,hx⟩:=qaa (l[i]!);rw[←hx]at LI hxm;replace hx:=qae hx;have lI:=ay x;rw[←hk.out]at lI;have hpx:=hI.mb.aJ x hxm;have hlx:=hI.mb.lim x hxm;have st:Sem.run prog (storeCells ⟨wr.heap.size,0,none⟩ (ah x) 0) (wr.alloc (.cells #[.int .i64 0,.int .i64 0,.int .i64 0,.int .i64 0,.int .i64 0,.int .i64 0,.int .i64 0,.int .i64 0,.int .i64 0,.int .u64 0] 55))=.ok () (wr.alloc (.cells (ah x).toArray 55)):=df wr wr.heap.size (ah x) (ah iq) 55 rfl rfl (dH x);obtain⟨w1,hw1⟩:=qaa (wr.alloc (.cells (ah x).toArray 55));have hb1:Below w.heap.size w w1:=by rw[hw1];exact hbr.alloc hbr.size _
   have hs1:w1.heap.size=wr.heap.size+1:=by rw[hw1];simp
   have hz1:w1.heap[wr.heap.size]? =some (.cells (ah x).toArray 55 (0,0)):=by rw[hw1];exact heap_alloc_new wr _
   have ld1:=fT hz1 lI;have XK:(ah x)[0]? =some (.int .i64 x.id):=rfl;have hpl:=kU (w:=w1) x hpx.2 ⟨hlx.1,hlx.2⟩;generalize hcI:ah x=cI at*;replace hcI:=qae hcI;rw[←hw1]at st;replace hw1:=qae hw1;go_wp2_with fail;go_at_call 146;refine hpl.mono ?_;clear hpl st LI ld1;rintro e w2 ⟨rfl,hb2⟩;have U6:Below w.heap.size w w2:=hb1.trans (hb2.mono hb1.size);have hz2:w2.heap[wr.heap.size]? =some (.cells cI.toArray 55 (0,0)):=(hb2.block _ (by omega)).trans hz1;have lS:(aO x).length=3:=by unfold aO;split<;>rfl
   have oS:∀u∈aO x,u.oneCell'=true:=by unfold aO;split<;>(intro u hu;simp at hu;rcases hu with rfl|rfl|rfl<;>rfl)
   have st2:Sem.run prog (storeCells ⟨w2.heap.size,0,none⟩ (aO x) 0) (w2.alloc (.cells #[.int .i64 0,.int .i64 0,.int .i64 0] 131))=.ok () (w2.alloc (.cells (aO x).toArray 131)):=df w2 w2.heap.size (aO x) [.int .i64 0,.int .i64 0,.int .i64 0] 131 rfl lS oS;rw[←hk3.out]at lS;have hsp:=qae (rfl:aO x=aO x);generalize kX:aO x=cS at lS st2⊢;replace kX:=qae kX;obtain⟨w3,hw3⟩:=qaa (w2.alloc (.cells cS.toArray 131));have hb3:Below w2.heap.size w2 w3:=by rw[hw3];exact qac.alloc (qaf _) _
   have EF:Below w.heap.size w w3:=U6.trans (hb3.mono U6.size);have hs2:=hb2.size;have hs3:w3.heap.size=w2.heap.size+1:=by rw[hw3];simp
   have hz3:Hid (w3.heap[wr.heap.size]? =some (.cells cI.toArray 55 (0,0))):=(hb3.block _ (by omega)).trans hz2;have hy3:Hid (w3.heap[w2.heap.size]? =some (.cells cS.toArray 131 (0,0))):=by show _=_;rw[hw3];exact heap_alloc_new w2 _
   rw[←hw3]at st2;replace hw3:=qae hw3;cases hP:aj x with
   |false=>
    go_wp2_with fail;go_roundw
    case rel=>exact⟨i+1,by omega,by go_num,EF,qae fun j hj=>by
     rcases Nat.lt_succ_iff_lt_or_eq.1 hj with h5|h5
     ·exact hno.out j h5
     ·subst h5;rw[←hx.out];exact hP⟩
    case measure=>simp[intOf];omega
   |true=>
    have hkey:=EE (q:=q) (p:=aj) (L:=M.L) (i:=i) (by rw[←hl.out];exact iJ) (fun j hj=>by rw[←hl.out];exact hno.out j hj) (by rw[←hl.out,←hx.out];exact hP);obtain⟨f,hf1,hf2,hf3⟩:=hkey;rw[←hl.out,←hx.out]at hf3;have hfree:=qae (rU hI hf2 (by rw[hf3];exact hP));have hinv:=qae (hI.xy hf2);have hcore:=qae (Gs (M:=M) hf2);have Jh:=qae (hI.ids f hf2);rw[hf3]at hfree hinv hcore Jh;have hf1:=qae hf1;have U7:=qae (hC.out.kept EF);go_wp2_with fail;refine Reg2.ro w3 5 35 [.p 0,.p 1,.p 3,.m 7,.m 0] [.pointer (some ⟨p,0,none⟩),.agg cS.toArray] (by kernel_rfl) (by kernel_rfl) rfl rfl ⟨rfl,rfl,rfl,qaf _,fun _ _=>rfl⟩ ?_;dsimp only[Reg2.gY]
    repeat((first
     |(refine' Reg2.ak _ (by rfl) (fun wz=>?_) ?_;rotate_left;(go_simp;first|rfl|rw[qai (by omega)]))
     |(refine Reg2.aA (by rfl) (fun wz hI hF=>?_) (fun _=>?_)
       ·unfold Reg2.One;have c0:=(U7.out.kept hI).c2;have d0:=fT ((hI.block _ (au hy3.out)).trans hy3.out) lS;go_wp2_with fail
        first|exact⟨_,rfl,rfl,qad⟩|exact⟨_,rfl,⟨(),rfl,trivial⟩,qad⟩));simp only[Act.put,xA,xB,xC,xD,xE,id])
    refine Reg2.aB ?_;intro w4 HI4 _ eX;clear eX;dsimp only[List.drop];have nX:=U7.out.kept HI4;have hb4:=EF.trans (HI4.mono EF.size);have Av:w4.heap[wr.heap.size]? =some (.cells cI.toArray 55 (0,0)):=(HI4.block _ (by omega)).trans hz3.out;have hrel:=uk nX sQ.out ha hm x.aJ (x.aJ+x.lim) x.wid (fun t=>ax {M with L:=M.L.set f (x.aH (-1))} t 0) (by have:=hI.one x hxm;have:1≤x.lim:=this.2.2.1;omega) (by omega) (by have:=hI.mb.wid x hxm;omega) (fun t _=>hfree.out t) (fun t ht=>wO hinv.out t ht);have mo:cS=[.int .i64 x.aJ,.int .i64 (x.aJ+x.lim),.int .i64 x.wid]:=by rw[←kX.out];unfold aO;rw[qaj hP]
    clear kX;subst mo;go_wp2_with fail;go_at_call 200;refine hrel.mono ?_;clear hrel;rintro e w5 ⟨rfl,v5,g5,gK,hS5⟩;have Iq:Hid (w5.heap[wr.heap.size]? =some (.cells cI.toArray 55 (0,0))):=(hS5.heap (au Av) (fun hf=>by have:=hlt.out _ hf;have:=hbr.size;omega)).trans Av;replace gK:=qae gK;go_wp2_with fail;refine Reg2.ro w5 6 35 [.p 0,.p 1,.p 3,.m 7,.p 0,.m 16] [.pointer (some ⟨t,0,none⟩),.int .i64 x.id] (by kernel_rfl) (by kernel_rfl) rfl rfl ⟨rfl,rfl,rfl,qaf _,fun _ _=>rfl⟩ ?_;dsimp only[Reg2.gY]
    repeat((first
     |(refine' Reg2.ak _ (by rfl) (fun wz=>?_) ?_;rotate_left;(go_simp;first|rfl|rw[qai (by omega)]))
     |(refine Reg2.aA (by rfl) (fun wz hI hF=>?_) (fun _=>?_)
       ·unfold Reg2.One;have c0:=(gK.out.kept hI).c0;have q0:wz.cell? ⟨wr.heap.size,0,none⟩=some (.int .i64 x.id):=by simp[World.cell?,(hI.block _ (au Iq.out)).trans Iq.out,XK]
        go_wp2_with fail
        first|exact⟨_,rfl,rfl,qad⟩|exact⟨_,rfl,⟨(),rfl,trivial⟩,qad⟩));simp only[Act.put,xA,xB,xC,xD,xE,id])
    refine Reg2.aB ?_;intro w6 Ji _ eX;clear eX;dsimp only[List.drop];have Jj:=gK.out.kept Ji;have Cy:=Ez Jj x.id (-1);go_wp2_with fail;go_at_call 134;refine Cy.mono ?_;clear Cy;rintro e w7 ⟨rfl,v7,g7,Aw,gM⟩;have hst:=bu.1 hP;have hpe:gT (-1)=0:=by decide
    have FV:bN M.L (gT (-1)) x.id (fun j:Jb=>decide (j.state=1))=0:=by
     unfold bN;rw[Jh.out,qai (by rw[hpe];decide),qai (by omega),qai (by omega),show((f:Int)+1-1).toNat=f by omega,qaj];rw[getElem!_pos M.L f hf2];have:M.L[f]=x:=by rw[←hf3];simp[List.getD,hf2]
     rw[this];exact qag hst.1
    have Y8:({({ai M with f:=fun t=>ax {M with L:=M.L.set f (x.aH (-1))} t 0}:Pg)with J:=cz M.L (gT (-1)) x.id (fun j:Jb=>decide (j.state=1)) (kM (-1))}:Pg)=ai {M with L:=M.L.set f (x.aH (-1))}:=by
     have e1:cz M.L (gT (-1)) x.id (fun j:Jb=>decide (j.state=1)) (kM (-1))=M.L.set f (x.aH (-1)):=by
      unfold cz;rw[qaj FV,Jh.out,show((f:Int)+1-1).toNat=f by omega,getElem!_pos M.L f hf2];have:M.L[f]=x:=by rw[←hf3];simp[List.getD,hf2]
      rw[this];rfl
     rw[e1];unfold ai;rw[hcore.out]
    have hfin:CW w7 c t d p v7 g7 (a+2) (m+1) (ai {M with L:=M.L.set f (x.aH (-1))}):=Y8▸Aw;have hSS:CS w w7 c t d p v g v7 g7:=((CS.of_below (EF.trans (HI4.mono EF.size))).trans hS5).trans ((CS.of_below Ji).trans gM);go_wp2_with fail;go_ret;exact .inr ⟨f,hf1.out,rfl,v7,g7,by rw[hf3];exact hfin,hSS⟩
  ·have e:i=n:=by omega
   subst e;have hfi:=hid (Jg (q:=q) (p:=aj) (L:=M.L) (fun j hj=>by rw[←hl.out];exact hno.out j (by rw[←hn.out,hl.out];exact hj)));go_wp2_with fail;go_ret;exact .inl ⟨hfi.out,rfl,hbr⟩
end
theorem LH {j:Jb}(h:j.id≠0):(fun x:Jb=>(aP j x&&decide (x.state∈ [(1:Int)]))&&aj x)=qA j:=by
 funext x
 unfold qA;cases hp:aj x with
 |false=>simp
 |true=>
  have:x.state=1:=(bu.1 hp).1;simp[h,this]
theorem Jk :(fun x:Jb=>decide (x.state∈ [(1:Int)])&&aj x)=qA kY:=by
 funext x
 unfold qA;cases hp:aj x with
 |false=>simp
 |true=>
  have h1:x.state=1:=(bu.1 hp).1;have h2:kY.id=0:=rfl;simp[h1,h2]
section
variable {w : World} {b c t d p g a : Nat} {v : Value} {m : Int} {M : Md} {R : Wk}
def O1 (w:World)(b c t d p:Nat)(v:Value)(g a:Nat)(m:Int)(R:Wk)(M:Md)(k:Nat)(o:Option Nat)(e:Ending)(w':World):Prop:=
 (o=none∧az w b c t d p v g a m .nilFunc R (ai M) e w')∨
 ∃i,o=some i∧az w b c t d p v g (a+2) (m+1) (fF k) R (ai {M with L:=M.L.set i ((M.L.getD i default).aH (-1))}) e w'
theorem rV (h:SW w b c t d p v g a m R (ai M))(hI:aG M)(h1:1≤M.dr.length)(hll:M.L.length≤900)(ha:a≤800)(hm:m≤1000000)(hid:R.aD.id≠0):
 Calls prog 233 #[.pointer (some ⟨b,0,none⟩),.pointer (some ⟨c,0,none⟩)] w (O1 w b c t d p v g a m R M 233 (dV R.aD M.L)):=by
 have zE:=bL;obtain⟨k,hk⟩:=qaa (10);rw[←hk]at zE;have hk0:¬k=0:=by omega
 have lJ:=ay R.aD;rw[←hk]at lJ;replace hk:=qae hk;have hS:=qae h;have hin:=fun(W:World) (hW:Below w.heap.size w W) (u:Value) (hu:aC enc1 1 W u [1])=>tT (h.kept hW).cw.eU (by show M.L.length≤1000;omega) hu;have hlen:(M.L.filter fun j:Jb=>decide (j.state∈ [(1:Int)])).length≤900:=Nat.le_trans (List.length_filter_le _ _) hll;have hbe:=fun(W:World) (u:Value) (hu:aC ah 10 W u (M.L.filter fun j:Jb=>decide (j.state∈ [(1:Int)])))=>Ij R.aD u _ W hu hlen;have hint:Hid (∀W:World,aC enc1 1 (W.alloc (.cells #[.int .i64 1] 3)) (.slice (some ⟨W.heap.size,0,none⟩) 1 1) [1]):=fun W=>fM W W.heap.size [1] rfl (by decide);have V3:Hid (∀W,Below w.heap.size w W→Sem.run prog (loadCellsFrom ⟨b,12,none⟩ 0 k #[]) W=.ok (ah R.aD).toArray W):=fun W hW=>(h.kept hW).wk.nG lJ;have V4:=List.filter_filter (p:=aP R.aD) (q:=fun j:Jb=>decide (j.state∈ [(1:Int)])) (l:=M.L);have hhit:=LH hid;generalize hL1:(M.L.filter fun j:Jb=>decide (j.state∈ [(1:Int)]))=L1 at*;generalize hL2:L1.filter (aP R.aD)=L2 at*;have hdr:=fun(W:World) (u:Value) (hC:CW W c t d p v g a m (ai M)) (hu:aC ah 10 W u L2)=>wP hC hI h1 hll ha hm u L2 _ hu V4;have hin':=fun(W:World) (hW:Below w.heap.size w W) (u:Value) (hu:aC enc1 1 W u [1])=>(hin W hW u hu)
 rw[show(ai M).J=M.L from rfl,hL1]at hin;generalize ah R.aD=cJ at*;replace hL1:=qae hL1;replace hL2:=qae hL2;replace V4:=qae V4;replace hhit:=qae hhit;clear h hin' hlen;go_enter func233,ntmps233;go_wp2_with fail;refine Reg2.rd w 12 18 (Reg2.rows 0 [.p 0,.p 0,.p 2,.p 6,.p 14,.p 0,.p 32,.p 96,.p 224,.p 0,.p 992,.p 2046]) [0,0,0,0,1,0,0,0,1,1,1,1] [.pure,.pure,.pure,.pure,.mU (.agg cJ.toArray),.pure,.pure,.pure,.mU (.pointer (some ⟨t,0,none⟩)),.minor Nat 0 (fun k=>.slice (some ⟨k,0,none⟩) 1 1) (fun k W=>aC enc1 1 W (.slice (some ⟨k,0,none⟩) 1 1) [1]),.minor Value (.bool false) (fun x=>x) (fun x W=>aC ah 10 W x L1),.minor Value (.bool false) (fun x=>x) (fun x W=>aC ah 10 W x L2)] (by kernel_rfl) (by kernel_rfl) rfl rfl ⟨trivial,trivial,trivial,trivial,Reg2.tt,trivial,trivial,trivial,Reg2.tt,⟨fun k a b he hp=>hp.below he,fun k a b he hp=>hp.below he⟩,⟨fun k a b he hp=>hp.below he,fun k a b he hp=>hp.below he⟩,⟨fun k a b he hp=>hp.below he,fun k a b he hp=>hp.below he⟩,trivial⟩ ⟨rfl,rfl,rfl,qaf _,fun _ _=>rfl⟩ ?_;dsimp only[Reg2.rows,Reg2.mk,List.zip,List.zipWith,List.take]
 repeat((first
  |(refine' Reg2.ak _ (by rfl) (fun wz=>?_) ?_;rotate_left;(go_simp;first|rfl|rw[qai (by omega)]))
  |(refine Reg2.aA (by rfl) (fun wz hI hF=>?_) (fun _=>?_)
    ·unfold Reg2.One;have d0:=V3.out wz hI;have c0:=(hS.out.cw.kept hI).c0;go_wp2_with fail
     first|exact⟨_,rfl,rfl,qad⟩|exact⟨_,rfl,⟨(),rfl,trivial⟩,qad⟩));simp only[Act.put,xA,xB,xC,xD,xE,id])
 refine Reg2.pm (fun wz hI hF=>?_) (fun r9=>?_) (by rfl)
 ·have pa:=hint.out wz;go_wp2_with fail;exact⟨_,rfl,⟨_,rfl,pa⟩,(qad).alloc (qaf _) _⟩
 simp only[Act.put,xA,xB,xC,xD,xE,id];refine Reg2.pm (fun wz hI hF=>?_) (fun yN=>?_) (by rfl)
 ·have hv:=hF.2.2.2.2.1;go_wp2_with (go_at_call 24;go_must (refine(hin wz hI _ hv).mono ?_);rintro e w' ⟨u,rfl,ho,hb5⟩);exact⟨_,rfl,⟨_,rfl,aC.fA ho ay rfl rfl⟩,hb5⟩
 simp only[Act.put,xA,xB,xC,xD,xE,id];refine Reg2.pm (fun wz hI hF=>?_) (fun V5=>?_) (by rfl)
 ·have hv:=hF.2.2.2.2.2.2.2.2.2.1;go_wp2_with (go_at_call 261;go_must (refine(hbe wz _ hv).mono ?_);rintro e w' ⟨u,rfl,ho,hb5⟩);exact⟨_,rfl,⟨_,rfl,ho⟩,hb5⟩
 simp only[Act.put,xA,xB,xC,xD,xE,id];refine Reg2.aB ?_;intro w7 jZ _ kG;have hv7:=kG.2.2.2.2.2.2.2.2.2.2.2.1;clear kG;dsimp only[List.drop];have gM:=hS.out.kept jZ;have hd7:=hdr w7 _ gM.cw hv7;go_wp2_with fail;go_at_call 260;refine hd7.mono ?_;clear hd7;rintro e w8 (⟨ho,rfl,vF⟩|⟨i,ho,rfl,v8,g8,V6,gL⟩)
 ·have hfin:=gM.kept vF;go_wp2_with fail;go_ret;exact .inl ⟨by unfold dV;rw[←hhit.out];exact ho,rfl,v,g,hfin,WS.of_below (jZ.trans (vF.mono jZ.size))⟩
 ·have hfin:=gM.core V6 gL;go_wp2_with fail;go_ret;exact .inr ⟨i,by unfold dV;rw[←hhit.out];exact ho,rfl,v8,g8,hfin,(WS.of_below jZ).trans (WS.dD gL)⟩
end
theorem Cz (k:Int)(w:World):Calls prog 99 #[.int .i64 k] w fun e w'=>e=.returned (.bool (decide (1≤k)&&decide (k≤13)))∧w=w':=by
 by_cases h1:1≤k
 ·have d1:decide (1≤k)=true:=qag h1;go_enter func99,ntmps99;go_wp2_with fail;go_ret;exact⟨by simp[h1],rfl⟩
 ·have d1:decide (1≤k)=false:=qah h1;go_enter func99,ntmps99;go_wp2_with fail;go_ret;exact⟨by simp,rfl⟩
def jJ (k:Int):Bool:=decide (k=6)||decide (k=10)||decide (k=11)||decide (k=12)
theorem EG (k:Int)(w:World):Calls prog 189 #[.int .i64 k] w fun e w'=>e=.returned (.bool (jJ k))∧w=w':=by
 by_cases h6:k=6
 ·subst h6;go_enter func189,ntmps189;go_wp2_with fail;go_ret;exact⟨rfl,rfl⟩
 by_cases h10:k=10
 ·subst h10;go_enter func189,ntmps189;go_wp2_with fail;go_ret;exact⟨rfl,rfl⟩
 by_cases h11:k=11
 ·subst h11;go_enter func189,ntmps189;go_wp2_with fail;go_ret;exact⟨rfl,rfl⟩
 by_cases h12:k=12
 ·subst h12;go_enter func189,ntmps189;go_wp2_with fail;go_ret;exact⟨rfl,rfl⟩
 have e:jJ k=false:=by simp[jJ,h6,h10,h11,h12]
 rw[e];have t6:(k == 6)=false:=beq_eq_false_iff_ne.2 h6;have t10:(k == 10)=false:=beq_eq_false_iff_ne.2 h10;have t11:(k == 11)=false:=beq_eq_false_iff_ne.2 h11;have t12:(k == 12)=false:=beq_eq_false_iff_ne.2 h12;clear h6 h10 h11 h12 e;go_enter func189,ntmps189;go_wp2_with fail;go_ret;exact⟨rfl,rfl⟩
def lU (r:Rq):Rq:=
 if r.kind=1 then⟨r.kind,0,r.user,r.width,r.limit,r.prio,r.held,0,0⟩
 else if r.kind=2∨r.kind=3∨r.kind=4∨r.kind=5∨r.kind=6 then⟨r.kind,r.id,0,0,0,0,false,0,0⟩
 else if r.kind=7∨r.kind=8 then⟨r.kind,0,0,0,0,0,false,r.node,0⟩
 else if r.kind=9 then⟨r.kind,0,0,0,0,0,false,0,r.till⟩
 else⟨r.kind,0,0,0,0,0,false,0,0⟩
theorem Rs (x2 x3 x4 x5 x6:Int)(x7:Bool)(x8 x9:Int)(w:World):Calls prog 141 #[.agg #[.int .i64 1,.int .i64 x2,.int .i64 x3,.int .i64 x4,.int .i64 x5,.int .i64 x6,.bool x7,.int .i64 x8,.int .i64 x9]] w fun e w'=>e=.returned (.agg #[.int .i64 1,.int .i64 0,.int .i64 x3,.int .i64 x4,.int .i64 x5,.int .i64 x6,.bool x7,.int .i64 0,.int .i64 0])∧Below w.heap.size w w':=by
 go_enter func141,ntmps141;go_wp2_with fail;go_region
 all_goals(try go_wp2_with fail)
 refine eH rfl rfl rfl (show(World.drew _).heap[_]? =_ from dL (heap_alloc2_new w _ _)) underlying33 rfl (by kernel_rfl) ⟨rfl,?_⟩;exact(((qac.alloc (qaf _) _).alloc (by simp) _).alloc (by simp;omega) _).drew
theorem Rt (x2 x3 x4 x5 x6:Int)(x7:Bool)(x8 x9:Int)(w:World):Calls prog 141 #[.agg #[.int .i64 2,.int .i64 x2,.int .i64 x3,.int .i64 x4,.int .i64 x5,.int .i64 x6,.bool x7,.int .i64 x8,.int .i64 x9]] w fun e w'=>e=.returned (.agg #[.int .i64 2,.int .i64 x2,.int .i64 0,.int .i64 0,.int .i64 0,.int .i64 0,.bool false,.int .i64 0,.int .i64 0])∧Below w.heap.size w w':=by
 go_enter func141,ntmps141;go_wp2_with fail;refine eH rfl rfl rfl (dL (heap_alloc2_new w _ _)) underlying33 rfl (by kernel_rfl) ⟨rfl,?_⟩;exact(((qac.alloc (qaf _) _).alloc (by simp) _).alloc (by simp;omega) _)
theorem Ru (x2 x3 x4 x5 x6:Int)(x7:Bool)(x8 x9:Int)(w:World):Calls prog 141 #[.agg #[.int .i64 3,.int .i64 x2,.int .i64 x3,.int .i64 x4,.int .i64 x5,.int .i64 x6,.bool x7,.int .i64 x8,.int .i64 x9]] w fun e w'=>e=.returned (.agg #[.int .i64 3,.int .i64 x2,.int .i64 0,.int .i64 0,.int .i64 0,.int .i64 0,.bool false,.int .i64 0,.int .i64 0])∧Below w.heap.size w w':=by
 go_enter func141,ntmps141;go_wp2_with fail;refine eH rfl rfl rfl (dL (heap_alloc2_new w _ _)) underlying33 rfl (by kernel_rfl) ⟨rfl,?_⟩;exact(((qac.alloc (qaf _) _).alloc (by simp) _).alloc (by simp;omega) _)
theorem Rv (x2 x3 x4 x5 x6:Int)(x7:Bool)(x8 x9:Int)(w:World):Calls prog 141 #[.agg #[.int .i64 4,.int .i64 x2,.int .i64 x3,.int .i64 x4,.int .i64 x5,.int .i64 x6,.bool x7,.int .i64 x8,.int .i64 x9]] w fun e w'=>e=.returned (.agg #[.int .i64 4,.int .i64 x2,.int .i64 0,.int .i64 0,.int .i64 0,.int .i64 0,.bool false,.int .i64 0,.int .i64 0])∧Below w.heap.size w w':=by
 go_enter func141,ntmps141;go_wp2_with fail;refine eH rfl rfl rfl (dL (heap_alloc2_new w _ _)) underlying33 rfl (by kernel_rfl) ⟨rfl,?_⟩;exact(((qac.alloc (qaf _) _).alloc (by simp) _).alloc (by simp;omega) _)
theorem Rx (x2 x3 x4 x5 x6:Int)(x7:Bool)(x8 x9:Int)(w:World):Calls prog 141 #[.agg #[.int .i64 5,.int .i64 x2,.int .i64 x3,.int .i64 x4,.int .i64 x5,.int .i64 x6,.bool x7,.int .i64 x8,.int .i64 x9]] w fun e w'=>e=.returned (.agg #[.int .i64 5,.int .i64 x2,.int .i64 0,.int .i64 0,.int .i64 0,.int .i64 0,.bool false,.int .i64 0,.int .i64 0])∧Below w.heap.size w w':=by
 go_enter func141,ntmps141;go_wp2_with fail;refine eH rfl rfl rfl (dL (heap_alloc2_new w _ _)) underlying33 rfl (by kernel_rfl) ⟨rfl,?_⟩;exact(((qac.alloc (qaf _) _).alloc (by simp) _).alloc (by simp;omega) _)
theorem Rz (x2 x3 x4 x5 x6:Int)(x7:Bool)(x8 x9:Int)(w:World):Calls prog 141 #[.agg #[.int .i64 6,.int .i64 x2,.int .i64 x3,.int .i64 x4,.int .i64 x5,.int .i64 x6,.bool x7,.int .i64 x8,.int .i64 x9]] w fun e w'=>e=.returned (.agg #[.int .i64 6,.int .i64 x2,.int .i64 0,.int .i64 0,.int .i64 0,.int .i64 0,.bool false,.int .i64 0,.int .i64 0])∧Below w.heap.size w w':=by
 go_enter func141,ntmps141;go_wp2_with fail;refine eH rfl rfl rfl (dL (heap_alloc2_new w _ _)) underlying33 rfl (by kernel_rfl) ⟨rfl,?_⟩;exact(((qac.alloc (qaf _) _).alloc (by simp) _).alloc (by simp;omega) _)
theorem RA (x2 x3 x4 x5 x6:Int)(x7:Bool)(x8 x9:Int)(w:World):Calls prog 141 #[.agg #[.int .i64 7,.int .i64 x2,.int .i64 x3,.int .i64 x4,.int .i64 x5,.int .i64 x6,.bool x7,.int .i64 x8,.int .i64 x9]] w fun e w'=>e=.returned (.agg #[.int .i64 7,.int .i64 0,.int .i64 0,.int .i64 0,.int .i64 0,.int .i64 0,.bool false,.int .i64 x8,.int .i64 0])∧Below w.heap.size w w':=by
 go_enter func141,ntmps141;go_wp2_with fail;refine eH rfl rfl rfl (dL (heap_alloc2_new w _ _)) underlying33 rfl (by kernel_rfl) ⟨rfl,?_⟩;exact(((qac.alloc (qaf _) _).alloc (by simp) _).alloc (by simp;omega) _)
theorem RB (x2 x3 x4 x5 x6:Int)(x7:Bool)(x8 x9:Int)(w:World):Calls prog 141 #[.agg #[.int .i64 8,.int .i64 x2,.int .i64 x3,.int .i64 x4,.int .i64 x5,.int .i64 x6,.bool x7,.int .i64 x8,.int .i64 x9]] w fun e w'=>e=.returned (.agg #[.int .i64 8,.int .i64 0,.int .i64 0,.int .i64 0,.int .i64 0,.int .i64 0,.bool false,.int .i64 x8,.int .i64 0])∧Below w.heap.size w w':=by
 go_enter func141,ntmps141;go_wp2_with fail;refine eH rfl rfl rfl (dL (heap_alloc2_new w _ _)) underlying33 rfl (by kernel_rfl) ⟨rfl,?_⟩;exact(((qac.alloc (qaf _) _).alloc (by simp) _).alloc (by simp;omega) _)
theorem RF (x2 x3 x4 x5 x6:Int)(x7:Bool)(x8 x9:Int)(w:World):Calls prog 141 #[.agg #[.int .i64 9,.int .i64 x2,.int .i64 x3,.int .i64 x4,.int .i64 x5,.int .i64 x6,.bool x7,.int .i64 x8,.int .i64 x9]] w fun e w'=>e=.returned (.agg #[.int .i64 9,.int .i64 0,.int .i64 0,.int .i64 0,.int .i64 0,.int .i64 0,.bool false,.int .i64 0,.int .i64 x9])∧Below w.heap.size w w':=by
 go_enter func141,ntmps141;go_wp2_with fail;refine eH rfl rfl rfl (dL (heap_alloc2_new w _ _)) underlying33 rfl (by kernel_rfl) ⟨rfl,?_⟩;exact(((qac.alloc (qaf _) _).alloc (by simp) _).alloc (by simp;omega) _)
theorem O3 (x1:Int)(x2 x3 x4 x5 x6:Int)(x7:Bool)(x8 x9:Int)(w:World)(h1:x1≠1)(h2:x1≠2)(h3:x1≠3)(h4:x1≠4)(h5:x1≠5)(h6:x1≠6)(h7:x1≠7)(h8:x1≠8)(h9:x1≠9):Calls prog 141 #[.agg #[.int .i64 x1,.int .i64 x2,.int .i64 x3,.int .i64 x4,.int .i64 x5,.int .i64 x6,.bool x7,.int .i64 x8,.int .i64 x9]] w fun e w'=>e=.returned (.agg #[.int .i64 x1,.int .i64 0,.int .i64 0,.int .i64 0,.int .i64 0,.int .i64 0,.bool false,.int .i64 0,.int .i64 0])∧Below w.heap.size w w':=by
 have t1:(x1 == 1)=false:=beq_eq_false_iff_ne.2 h1;have t2:(x1 == 2)=false:=beq_eq_false_iff_ne.2 h2;have t3:(x1 == 3)=false:=beq_eq_false_iff_ne.2 h3;have t4:(x1 == 4)=false:=beq_eq_false_iff_ne.2 h4;have t5:(x1 == 5)=false:=beq_eq_false_iff_ne.2 h5;have t6:(x1 == 6)=false:=beq_eq_false_iff_ne.2 h6;have t7:(x1 == 7)=false:=beq_eq_false_iff_ne.2 h7;have t8:(x1 == 8)=false:=beq_eq_false_iff_ne.2 h8;have t9:(x1 == 9)=false:=beq_eq_false_iff_ne.2 h9;clear h1 h2 h3 h4 h5 h6 h7 h8 h9;go_enter func141,ntmps141;go_wp2_with fail;refine eH rfl rfl rfl (dL (heap_alloc2_new w _ _)) underlying33 rfl (by kernel_rfl) ⟨rfl,?_⟩;exact(((qac.alloc (qaf _) _).alloc (by simp) _).alloc (by simp;omega) _)
theorem O4 (r:Rq)(w:World):Calls prog 141 #[.agg (encR r).toArray] w fun e w'=>e=.returned (.agg (encR (lU r)).toArray)∧Below w.heap.size w w':=by
 obtain⟨x1,x2,x3,x4,x5,x6,x7,x8,x9⟩:=r;by_cases h1:x1=1
 ·subst h1;exact Rs x2 x3 x4 x5 x6 x7 x8 x9 w
 by_cases h2:x1=2
 ·subst h2;exact Rt x2 x3 x4 x5 x6 x7 x8 x9 w
 by_cases h3:x1=3
 ·subst h3;exact Ru x2 x3 x4 x5 x6 x7 x8 x9 w
 by_cases h4:x1=4
 ·subst h4;exact Rv x2 x3 x4 x5 x6 x7 x8 x9 w
 by_cases h5:x1=5
 ·subst h5;exact Rx x2 x3 x4 x5 x6 x7 x8 x9 w
 by_cases h6:x1=6
 ·subst h6;exact Rz x2 x3 x4 x5 x6 x7 x8 x9 w
 by_cases h7:x1=7
 ·subst h7;exact RA x2 x3 x4 x5 x6 x7 x8 x9 w
 by_cases h8:x1=8
 ·subst h8;exact RB x2 x3 x4 x5 x6 x7 x8 x9 w
 by_cases h9:x1=9
 ·subst h9;exact RF x2 x3 x4 x5 x6 x7 x8 x9 w
 have e:lU ⟨x1,x2,x3,x4,x5,x6,x7,x8,x9⟩=⟨x1,0,0,0,0,0,false,0,0⟩:=by simp[lU,h1,h2,h3,h4,h5,h6,h7,h8,h9]
 rw[e];exact O3 x1 x2 x3 x4 x5 x6 x7 x8 x9 w h1 h2 h3 h4 h5 h6 h7 h8 h9
def mZ (n:Int)(r:Rq):Int:=if r.kind=1∧n<r.width∧r.width≤64∧aS r≠1 then 9 else 0
section
variable {w : World} {c t d p g a : Nat} {v : Value} {m : Int} {P : Pg}
theorem Jl (h:CW w c t d p v g a m P)(hl:iE P.T)(r:Rq)(hk:r.kind≠1):Calls prog 232 #[.pointer (some ⟨c,0,none⟩),.agg (encR r).toArray] w fun e w'=>e=.returned (.int .i64 0)∧Below w.heap.size w w':=by
 have zR:=lC;obtain⟨k9,bV⟩:∃k,k=9:=⟨_,rfl⟩;rw[←bV]at zR;have hk0:¬k9=0:=by omega
 have lR:=iR r;rw[←bV]at lR;replace bV:=qae bV;obtain⟨wA,aK⟩:=qaa (w.alloc (.cells (encR r).toArray 33));have bS:Hid (Below w.heap.size w wA):=by show Below _ _ _;rw[aK];exact qac.alloc (qaf _) _
 have jr:Hid (wA.heap[w.heap.size]? =some (.cells (encR r).toArray 33 (0,0))):=by show _=_;rw[aK];exact heap_alloc_new w _
 have iU:=qae (h.kept bS.out);have hno:=fun(W:World) (hW:Below wA.heap.size wA W)=>kE (iU.out.kept hW);have hsz:=fun(W:World) (hW:Below wA.heap.size wA W)=>qK (iU.out.kept hW).nodes hl;have CB:=fun(W:World)=>om r W;have e0:(encR r)[0]? =some (.int .i64 r.kind):=rfl;have e3:(encR r)[3]? =some (.int .i64 r.width):=rfl;generalize r.kind=rk at*;generalize r.width=rw at*;generalize aS r=rf at*;generalize encR r=cR at*;generalize (P.T.length:Int)=nl at*;have d1:(rk != 1)=true:=by simp[hk]
 clear h;go_enter func232,ntmps232;go_wp2_with fail;rw[←aK];replace aK:=qae aK;refine Reg2.ro wA 20 30 [.p 0,.m 1,.p 3,.p 7,.m 15,.p 31,.p 63,.p 127,.p 255,.m 511,.p 1023,.p 2047,.p 4095,.p 8191,.m 16383,.p 8191,.p 40959,.p 106495,.m 237567,.m 499711] [.bool false,.int .i64 rk,.int .i64 rw,.int .i64 rw,.pointer (some ⟨d,0,none⟩),.int .i64 nl] (by kernel_rfl) (by kernel_rfl) rfl rfl ⟨rfl,rfl,rfl,qaf _,fun _ _=>rfl⟩ ?_;dsimp only[Reg2.gY]
 repeat(refine' Reg2.ak _ (by rfl) (fun wz=>?_) ?_;rotate_left;(go_simp;first|rfl|rw[qai (by omega)]);simp only[Act.put,xA,xB,xC,xD,xE,id])
 refine Reg2.pm (fun wz hI hF=>?_) (fun r1=>?_) (by rfl)
 ·go_wp2_with (go_at_call 71;go_must (refine(hno wz hI).mono ?_);rintro e w' ⟨rfl,rfl⟩)
  first|exact⟨_,rfl,rfl,qad⟩|exact⟨_,rfl,⟨(),rfl,trivial⟩,qad⟩
 simp only[Act.put,xA,xB,xC,xD,xE,id]
 repeat((first
  |(refine' Reg2.ak _ (by rfl) (fun wz=>?_) ?_;rotate_left;(go_simp;first|rfl|rw[qai (by omega)]))
  |refine Reg2.uO (by rfl) ?_
  |refine Reg2.lq (by rfl) ?_
  |(refine Reg2.aA (by rfl) (fun wz hI hF=>?_) (fun _=>?_)
    ·unfold Reg2.One;have q0:wz.cell? ⟨w.heap.size,0,none⟩=some (.int .i64 rk):=by simp[World.cell?,(hI.block _ (au jr.out)).trans jr.out,e0]
     go_wp2_with fail
     first|exact⟨_,rfl,rfl,qad⟩|exact⟨_,rfl,⟨(),rfl,trivial⟩,qad⟩));simp only[Act.put,xA,xB,xC,xD,xE,id])
 refine Reg2.aB ?_;intro w7 jZ _ kG;clear kG;dsimp only[List.drop];have kr:=bS.out.trans (jZ.mono bS.out.size);go_wp2_with fail;go_ret;exact⟨rfl,kr⟩
theorem Jm (h:CW w c t d p v g a m P)(hl:iE P.T)(r:Rq)(hk:r.kind=1)(hw:64<r.width):Calls prog 232 #[.pointer (some ⟨c,0,none⟩),.agg (encR r).toArray] w fun e w'=>e=.returned (.int .i64 0)∧Below w.heap.size w w':=by
 have zR:=lC;obtain⟨k9,bV⟩:∃k,k=9:=⟨_,rfl⟩;rw[←bV]at zR;have hk0:¬k9=0:=by omega
 have lR:=iR r;rw[←bV]at lR;replace bV:=qae bV;obtain⟨wA,aK⟩:=qaa (w.alloc (.cells (encR r).toArray 33));have bS:Hid (Below w.heap.size w wA):=by show Below _ _ _;rw[aK];exact qac.alloc (qaf _) _
 have jr:Hid (wA.heap[w.heap.size]? =some (.cells (encR r).toArray 33 (0,0))):=by show _=_;rw[aK];exact heap_alloc_new w _
 have iU:=qae (h.kept bS.out);have hno:=fun(W:World) (hW:Below wA.heap.size wA W)=>kE (iU.out.kept hW);have hsz:=fun(W:World) (hW:Below wA.heap.size wA W)=>qK (iU.out.kept hW).nodes hl;have CB:=fun(W:World)=>om r W;have e0:(encR r)[0]? =some (.int .i64 r.kind):=rfl;have e3:(encR r)[3]? =some (.int .i64 r.width):=rfl;generalize r.kind=rk at*;generalize r.width=rw at*;generalize aS r=rf at*;generalize encR r=cR at*;generalize (P.T.length:Int)=nl at*;have d1:(rk != 1)=false:=by simp[hk]
 replace hk:=qae hk;have d2:decide (rw>64)=true:=qag hw;clear h;go_enter func232,ntmps232;go_wp2_with fail;rw[←aK];replace aK:=qae aK;refine Reg2.ro wA 20 30 [.p 0,.m 1,.p 3,.p 7,.m 15,.p 31,.p 63,.p 127,.p 255,.m 511,.p 1023,.p 2047,.p 4095,.p 8191,.m 16383,.p 8191,.p 40959,.p 106495,.m 237567,.m 499711] [.bool false,.int .i64 rk,.int .i64 rw,.int .i64 rw,.pointer (some ⟨d,0,none⟩),.int .i64 nl] (by kernel_rfl) (by kernel_rfl) rfl rfl ⟨rfl,rfl,rfl,qaf _,fun _ _=>rfl⟩ ?_;dsimp only[Reg2.gY]
 repeat(refine' Reg2.ak _ (by rfl) (fun wz=>?_) ?_;rotate_left;(go_simp;first|rfl|rw[qai (by omega)]);simp only[Act.put,xA,xB,xC,xD,xE,id])
 refine Reg2.pm (fun wz hI hF=>?_) (fun r1=>?_) (by rfl)
 ·go_wp2_with (go_at_call 71;go_must (refine(hno wz hI).mono ?_);rintro e w' ⟨rfl,rfl⟩)
  first|exact⟨_,rfl,rfl,qad⟩|exact⟨_,rfl,⟨(),rfl,trivial⟩,qad⟩
 simp only[Act.put,xA,xB,xC,xD,xE,id]
 repeat((first
  |(refine' Reg2.ak _ (by rfl) (fun wz=>?_) ?_;rotate_left;(go_simp;first|rfl|rw[qai (by omega)]))
  |refine Reg2.uO (by rfl) ?_
  |refine Reg2.lq (by rfl) ?_
  |(refine Reg2.aA (by rfl) (fun wz hI hF=>?_) (fun _=>?_)
    ·unfold Reg2.One;have q0:wz.cell? ⟨w.heap.size,0,none⟩=some (.int .i64 rk):=by simp[World.cell?,(hI.block _ (au jr.out)).trans jr.out,e0]
     have xR:wz.cell? ⟨w.heap.size,3,none⟩=some (.int .i64 rw):=by simp[World.cell?,(hI.block _ (au jr.out)).trans jr.out,e3]
     go_wp2_with fail
     first|exact⟨_,rfl,rfl,qad⟩|exact⟨_,rfl,⟨(),rfl,trivial⟩,qad⟩));simp only[Act.put,xA,xB,xC,xD,xE,id])
 refine Reg2.aB ?_;intro w7 jZ _ kG;clear kG;dsimp only[List.drop];have kr:=bS.out.trans (jZ.mono bS.out.size);go_wp2_with fail;go_ret;exact⟨rfl,kr⟩
theorem Jn (h:CW w c t d p v g a m P)(hl:iE P.T)(r:Rq)(hk:r.kind=1)(hw:r.width≤64)(hn:r.width≤P.T.length):Calls prog 232 #[.pointer (some ⟨c,0,none⟩),.agg (encR r).toArray] w fun e w'=>e=.returned (.int .i64 0)∧Below w.heap.size w w':=by
 have zR:=lC;obtain⟨k9,bV⟩:∃k,k=9:=⟨_,rfl⟩;rw[←bV]at zR;have hk0:¬k9=0:=by omega
 have lR:=iR r;rw[←bV]at lR;replace bV:=qae bV;obtain⟨wA,aK⟩:=qaa (w.alloc (.cells (encR r).toArray 33));have bS:Hid (Below w.heap.size w wA):=by show Below _ _ _;rw[aK];exact qac.alloc (qaf _) _
 have jr:Hid (wA.heap[w.heap.size]? =some (.cells (encR r).toArray 33 (0,0))):=by show _=_;rw[aK];exact heap_alloc_new w _
 have iU:=qae (h.kept bS.out);have hno:=fun(W:World) (hW:Below wA.heap.size wA W)=>kE (iU.out.kept hW);have hsz:=fun(W:World) (hW:Below wA.heap.size wA W)=>qK (iU.out.kept hW).nodes hl;have CB:=fun(W:World)=>om r W;have e0:(encR r)[0]? =some (.int .i64 r.kind):=rfl;have e3:(encR r)[3]? =some (.int .i64 r.width):=rfl;generalize r.kind=rk at*;generalize r.width=rw at*;generalize aS r=rf at*;generalize encR r=cR at*;generalize (P.T.length:Int)=nl at*;have d1:(rk != 1)=false:=by simp[hk]
 replace hk:=qae hk;have d2:decide (rw>64)=false:=qah (by omega);have d3:decide (rw≤nl)=true:=qag hn;clear h;go_enter func232,ntmps232;go_wp2_with fail;rw[←aK];replace aK:=qae aK;refine Reg2.ro wA 20 30 [.p 0,.m 1,.p 3,.p 7,.m 15,.p 31,.p 63,.p 127,.p 255,.m 511,.p 1023,.p 2047,.p 4095,.p 8191,.m 16383,.p 8191,.p 40959,.p 106495,.m 237567,.m 499711] [.bool false,.int .i64 rk,.int .i64 rw,.int .i64 rw,.pointer (some ⟨d,0,none⟩),.int .i64 nl] (by kernel_rfl) (by kernel_rfl) rfl rfl ⟨rfl,rfl,rfl,qaf _,fun _ _=>rfl⟩ ?_;dsimp only[Reg2.gY]
 repeat(refine' Reg2.ak _ (by rfl) (fun wz=>?_) ?_;rotate_left;(go_simp;first|rfl|rw[qai (by omega)]);simp only[Act.put,xA,xB,xC,xD,xE,id])
 refine Reg2.pm (fun wz hI hF=>?_) (fun r1=>?_) (by rfl)
 ·go_wp2_with (go_at_call 71;go_must (refine(hno wz hI).mono ?_);rintro e w' ⟨rfl,rfl⟩)
  first|exact⟨_,rfl,rfl,qad⟩|exact⟨_,rfl,⟨(),rfl,trivial⟩,qad⟩
 simp only[Act.put,xA,xB,xC,xD,xE,id]
 repeat((first
  |(refine' Reg2.ak _ (by rfl) (fun wz=>?_) ?_;rotate_left;(go_simp;first|rfl|rw[qai (by omega)]))
  |(refine Reg2.aA (by rfl) (fun wz hI hF=>?_) (fun _=>?_)
    ·unfold Reg2.One;have q0:wz.cell? ⟨w.heap.size,0,none⟩=some (.int .i64 rk):=by simp[World.cell?,(hI.block _ (au jr.out)).trans jr.out,e0]
     have xR:wz.cell? ⟨w.heap.size,3,none⟩=some (.int .i64 rw):=by simp[World.cell?,(hI.block _ (au jr.out)).trans jr.out,e3]
     have c0:=(iU.out.kept hI).c1;go_wp2_with fail
     first|exact⟨_,rfl,rfl,qad⟩|exact⟨_,rfl,⟨(),rfl,trivial⟩,qad⟩));simp only[Act.put,xA,xB,xC,xD,xE,id])
 refine Reg2.pm (fun wz hI hF=>?_) (fun XL=>?_) (by rfl)
 ·go_wp2_with (go_at_call 72;go_must (refine(hsz wz hI).mono ?_);rintro e w' ⟨rfl,rfl⟩)
  first|exact⟨_,rfl,rfl,qad⟩|exact⟨_,rfl,⟨(),rfl,trivial⟩,qad⟩
 simp only[Act.put,xA,xB,xC,xD,xE,id];refine Reg2.aB ?_;intro w7 jZ _ kG;clear kG;dsimp only[List.drop];have kr:=bS.out.trans (jZ.mono bS.out.size);go_wp2_with fail;go_ret;exact⟨rfl,kr⟩
theorem LM (h:CW w c t d p v g a m P)(hl:iE P.T)(r:Rq)(hk:r.kind=1)(hw:r.width≤64)(hn:¬r.width≤P.T.length)(hrf:aS r=1):Calls prog 232 #[.pointer (some ⟨c,0,none⟩),.agg (encR r).toArray] w fun e w'=>e=.returned (.int .i64 0)∧Below w.heap.size w w':=by
 have zR:=lC;obtain⟨k9,bV⟩:∃k,k=9:=⟨_,rfl⟩;rw[←bV]at zR;have hk0:¬k9=0:=by omega
 have lR:=iR r;rw[←bV]at lR;replace bV:=qae bV;obtain⟨wA,aK⟩:=qaa (w.alloc (.cells (encR r).toArray 33));have bS:Hid (Below w.heap.size w wA):=by show Below _ _ _;rw[aK];exact qac.alloc (qaf _) _
 have jr:Hid (wA.heap[w.heap.size]? =some (.cells (encR r).toArray 33 (0,0))):=by show _=_;rw[aK];exact heap_alloc_new w _
 have iU:=qae (h.kept bS.out);have hno:=fun(W:World) (hW:Below wA.heap.size wA W)=>kE (iU.out.kept hW);have hsz:=fun(W:World) (hW:Below wA.heap.size wA W)=>qK (iU.out.kept hW).nodes hl;have CB:=fun(W:World)=>om r W;have e0:(encR r)[0]? =some (.int .i64 r.kind):=rfl;have e3:(encR r)[3]? =some (.int .i64 r.width):=rfl;generalize r.kind=rk at*;generalize r.width=rw at*;generalize aS r=rf at*;generalize encR r=cR at*;generalize (P.T.length:Int)=nl at*;have d1:(rk != 1)=false:=by simp[hk]
 replace hk:=qae hk;have d2:decide (rw>64)=false:=qah (by omega);have d3:decide (rw≤nl)=false:=qah hn;subst hrf;clear h;go_enter func232,ntmps232;go_wp2_with fail;rw[←aK];replace aK:=qae aK;refine Reg2.ro wA 20 30 [.p 0,.m 1,.p 3,.p 7,.m 15,.p 31,.p 63,.p 127,.p 255,.m 511,.p 1023,.p 2047,.p 4095,.p 8191,.m 16383,.p 8191,.p 40959,.p 106495,.m 237567,.m 499711] [.bool false,.int .i64 rk,.int .i64 rw,.int .i64 rw,.pointer (some ⟨d,0,none⟩),.int .i64 nl] (by kernel_rfl) (by kernel_rfl) rfl rfl ⟨rfl,rfl,rfl,qaf _,fun _ _=>rfl⟩ ?_;dsimp only[Reg2.gY]
 repeat(refine' Reg2.ak _ (by rfl) (fun wz=>?_) ?_;rotate_left;(go_simp;first|rfl|rw[qai (by omega)]);simp only[Act.put,xA,xB,xC,xD,xE,id])
 refine Reg2.pm (fun wz hI hF=>?_) (fun r1=>?_) (by rfl)
 ·go_wp2_with (go_at_call 71;go_must (refine(hno wz hI).mono ?_);rintro e w' ⟨rfl,rfl⟩)
  first|exact⟨_,rfl,rfl,qad⟩|exact⟨_,rfl,⟨(),rfl,trivial⟩,qad⟩
 simp only[Act.put,xA,xB,xC,xD,xE,id]
 repeat((first
  |(refine' Reg2.ak _ (by rfl) (fun wz=>?_) ?_;rotate_left;(go_simp;first|rfl|rw[qai (by omega)]))
  |(refine Reg2.aA (by rfl) (fun wz hI hF=>?_) (fun _=>?_)
    ·unfold Reg2.One;have q0:wz.cell? ⟨w.heap.size,0,none⟩=some (.int .i64 rk):=by simp[World.cell?,(hI.block _ (au jr.out)).trans jr.out,e0]
     have xR:wz.cell? ⟨w.heap.size,3,none⟩=some (.int .i64 rw):=by simp[World.cell?,(hI.block _ (au jr.out)).trans jr.out,e3]
     have c0:=(iU.out.kept hI).c1;go_wp2_with fail
     first|exact⟨_,rfl,rfl,qad⟩|exact⟨_,rfl,⟨(),rfl,trivial⟩,qad⟩));simp only[Act.put,xA,xB,xC,xD,xE,id])
 refine Reg2.pm (fun wz hI hF=>?_) (fun XL=>?_) (by rfl)
 ·go_wp2_with (go_at_call 72;go_must (refine(hsz wz hI).mono ?_);rintro e w' ⟨rfl,rfl⟩)
  first|exact⟨_,rfl,rfl,qad⟩|exact⟨_,rfl,⟨(),rfl,trivial⟩,qad⟩
 simp only[Act.put,xA,xB,xC,xD,xE,id];refine Reg2.aB ?_;intro w7 jZ _ kG;clear kG;dsimp only[List.drop];have kr:=bS.out.trans (jZ.mono bS.out.size);have Ay:w7.heap[w.heap.size]? =some (.cells cR.toArray 33 (0,0)):=(jZ.block _ (au jr.out)).trans jr.out;have Us:=fT Ay lR;have V7:=CB w7;go_wp2_with (go_at_call 185;go_must (refine V7.mono ?_);rintro e w8 ⟨rfl,ob,rfl⟩);go_ret;exact⟨rfl,kr.alloc kr.size _⟩
theorem Jo (h:CW w c t d p v g a m P)(hl:iE P.T)(r:Rq)(hk:r.kind=1)(hw:r.width≤64)(hn:¬r.width≤P.T.length)(hrf:¬aS r=1):Calls prog 232 #[.pointer (some ⟨c,0,none⟩),.agg (encR r).toArray] w fun e w'=>e=.returned (.int .i64 9)∧Below w.heap.size w w':=by
 have zR:=lC;obtain⟨k9,bV⟩:∃k,k=9:=⟨_,rfl⟩;rw[←bV]at zR;have hk0:¬k9=0:=by omega
 have lR:=iR r;rw[←bV]at lR;replace bV:=qae bV;obtain⟨wA,aK⟩:=qaa (w.alloc (.cells (encR r).toArray 33));have bS:Hid (Below w.heap.size w wA):=by show Below _ _ _;rw[aK];exact qac.alloc (qaf _) _
 have jr:Hid (wA.heap[w.heap.size]? =some (.cells (encR r).toArray 33 (0,0))):=by show _=_;rw[aK];exact heap_alloc_new w _
 have iU:=qae (h.kept bS.out);have hno:=fun(W:World) (hW:Below wA.heap.size wA W)=>kE (iU.out.kept hW);have hsz:=fun(W:World) (hW:Below wA.heap.size wA W)=>qK (iU.out.kept hW).nodes hl;have CB:=fun(W:World)=>om r W;have e0:(encR r)[0]? =some (.int .i64 r.kind):=rfl;have e3:(encR r)[3]? =some (.int .i64 r.width):=rfl;generalize r.kind=rk at*;generalize r.width=rw at*;generalize aS r=rf at*;generalize encR r=cR at*;generalize (P.T.length:Int)=nl at*;have d1:(rk != 1)=false:=by simp[hk]
 replace hk:=qae hk;have d2:decide (rw>64)=false:=qah (by omega);have d3:decide (rw≤nl)=false:=qah hn;have d5:(rf == 1)=false:=by simp[hrf]
 clear h;go_enter func232,ntmps232;go_wp2_with fail;rw[←aK];replace aK:=qae aK;refine Reg2.ro wA 20 30 [.p 0,.m 1,.p 3,.p 7,.m 15,.p 31,.p 63,.p 127,.p 255,.m 511,.p 1023,.p 2047,.p 4095,.p 8191,.m 16383,.p 8191,.p 40959,.p 106495,.m 237567,.m 499711] [.bool false,.int .i64 rk,.int .i64 rw,.int .i64 rw,.pointer (some ⟨d,0,none⟩),.int .i64 nl] (by kernel_rfl) (by kernel_rfl) rfl rfl ⟨rfl,rfl,rfl,qaf _,fun _ _=>rfl⟩ ?_;dsimp only[Reg2.gY]
 repeat(refine' Reg2.ak _ (by rfl) (fun wz=>?_) ?_;rotate_left;(go_simp;first|rfl|rw[qai (by omega)]);simp only[Act.put,xA,xB,xC,xD,xE,id])
 refine Reg2.pm (fun wz hI hF=>?_) (fun r1=>?_) (by rfl)
 ·go_wp2_with (go_at_call 71;go_must (refine(hno wz hI).mono ?_);rintro e w' ⟨rfl,rfl⟩)
  first|exact⟨_,rfl,rfl,qad⟩|exact⟨_,rfl,⟨(),rfl,trivial⟩,qad⟩
 simp only[Act.put,xA,xB,xC,xD,xE,id]
 repeat((first
  |(refine' Reg2.ak _ (by rfl) (fun wz=>?_) ?_;rotate_left;(go_simp;first|rfl|rw[qai (by omega)]))
  |(refine Reg2.aA (by rfl) (fun wz hI hF=>?_) (fun _=>?_)
    ·unfold Reg2.One;have q0:wz.cell? ⟨w.heap.size,0,none⟩=some (.int .i64 rk):=by simp[World.cell?,(hI.block _ (au jr.out)).trans jr.out,e0]
     have xR:wz.cell? ⟨w.heap.size,3,none⟩=some (.int .i64 rw):=by simp[World.cell?,(hI.block _ (au jr.out)).trans jr.out,e3]
     have c0:=(iU.out.kept hI).c1;go_wp2_with fail
     first|exact⟨_,rfl,rfl,qad⟩|exact⟨_,rfl,⟨(),rfl,trivial⟩,qad⟩));simp only[Act.put,xA,xB,xC,xD,xE,id])
 refine Reg2.pm (fun wz hI hF=>?_) (fun XL=>?_) (by rfl)
 ·go_wp2_with (go_at_call 72;go_must (refine(hsz wz hI).mono ?_);rintro e w' ⟨rfl,rfl⟩)
  first|exact⟨_,rfl,rfl,qad⟩|exact⟨_,rfl,⟨(),rfl,trivial⟩,qad⟩
 simp only[Act.put,xA,xB,xC,xD,xE,id];refine Reg2.aB ?_;intro w7 jZ _ kG;clear kG;dsimp only[List.drop];have kr:=bS.out.trans (jZ.mono bS.out.size);have Ay:w7.heap[w.heap.size]? =some (.cells cR.toArray 33 (0,0)):=(jZ.block _ (au jr.out)).trans jr.out;have Us:=fT Ay lR;have V7:=CB w7;go_wp2_with (go_at_call 185;go_must (refine V7.mono ?_);rintro e w8 ⟨rfl,ob,rfl⟩);go_ret;exact⟨rfl,kr.alloc kr.size _⟩
theorem ve (h:CW w c t d p v g a m P)(hl:iE P.T)(r:Rq):Calls prog 232 #[.pointer (some ⟨c,0,none⟩),.agg (encR r).toArray] w fun e w'=>e=.returned (.int .i64 (mZ P.T.length r))∧Below w.heap.size w w':=by
 unfold mZ;by_cases h1:r.kind=1
 ·by_cases h2:r.width≤64
  ·by_cases h3:r.width≤P.T.length
   ·rw[qai (by omega)];exact Jn h hl r h1 h2 h3
   ·by_cases h4:aS r=1
    ·rw[qai (by simp[h4])];exact LM h hl r h1 h2 h3 h4
    ·rw[qaj ⟨h1,by omega,h2,h4⟩];exact Jo h hl r h1 h2 h3 h4
  ·rw[qai (by omega)];exact Jm h hl r h1 (by omega)
 ·rw[qai (by simp[h1])];exact Jl h hl r h1
end
end Go.Proofs.YtaimcpmcndapcaaGreat
