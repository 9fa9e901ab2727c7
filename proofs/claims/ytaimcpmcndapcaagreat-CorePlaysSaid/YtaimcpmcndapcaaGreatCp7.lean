/-
 Own words and walks, merged: part 7 of 10.
-/
import Derived.Test.YtaimcpmcndapcaaGreatChecked
import Derived.WalkKit
import Derived.WalkSpells
import Derived.WalkLawsBesides
import Derived.Deep.DeepMust
import Derived.Lib.Hide
import Derived.LaidEql
import Derived.Laws.StructEq
import Derived.Shelf.SlicesQ.Load
import Derived.BigRegion
import Derived.Laws.EntriesVeiled
import Derived.Test.YtaimcpmcndapcaaGreatRows
import Derived.Lib.MinMax
import Derived.Test.YtaimcpmcndapcaaGreatCp6
set_option maxRecDepth 1000000
set_option maxHeartbeats 8000000
set_option linter.all false
namespace Go.Proofs.YtaimcpmcndapcaaGreat
open Go.Proofs.Tryz
open Go.RowKit Go.Sort Go.Lib
structure Ze (L L' : List (Int × Int)) (now : Int) (f : Int → Int) (t : Int) (i : Nat) : Prop where
 sm:Sm L' now f
 here:(i<L'.length∧tA L' i=t)∨(i=L'.length∧t=1152921504606846976)
 alt:∀X Y:Int→Prop,lH L X→(∀s,X s→Y s)→Y t→lH L' Y
 len:L'.length≤L.length+1
 pre:∀m,m<L.length→tA L m<t→m<L'.length∧tA L' m=tA L m
structure XI (L L' : List (Int × Int)) (now : Int) (f : Int → Int) (i : Nat) : Prop where
 sm:Sm L' now f
 alt:∀X Y:Int→Prop,lH L X→(∀s,X s→Y s∨(i<L.length∧s=tA L i))→lH L' Y
 len:L'.length≤L.length
 pre:∀m,m<i→m<L.length→m<L'.length∧tA L' m=tA L m
section
variable {w : World} {p g : Nat} {L : List (Int × Int)} {aX now : Int} {f : Int → Int}
theorem lH.mono {X Y:Int→Prop}(h:lH L X)(hX:∀s,X s→Y s):lH L Y:=fun i hi hY=>h i hi fun hx=>hY (hX _ hx)
theorem Kv (t:Int)(hs:Sm L now f)(hn:now≤t)(ht:t≤1152921504606846976)(hl:L.length≤900)(h:PW w p g L aX):
 Calls prog 206 #[.pointer (some ⟨p,0,none⟩),.int .i64 t] w fun e w'=>∃(i g':Nat) (L':List (Int×Int)),e=.returned (.int .i64 i)∧PW w' p g' L' aX∧(g'=g∨w.heap.size≤g')∧Off p g w w'∧Ze L L' now f t i:=by
 by_cases hF:t=1152921504606846976
 ·subst hF;refine(Io h).mono ?_;rintro e w' ⟨rfl,rfl⟩;exact⟨L.length,g,L,rfl,h,.inl rfl,Off.refl _ _ _,⟨hs,.inr ⟨rfl,rfl⟩,fun X Y hX Ip _=>hX.mono Ip,by omega,fun m hm _=>⟨hm,rfl⟩⟩⟩
 ·obtain⟨i,hi⟩:=hs.ix t;by_cases he:tA L i=t
  ·refine(Nc t (by omega) hi he hs (by omega) h).mono ?_;rintro e w' ⟨rfl,hb⟩;exact⟨i,g,L,rfl,h.kept hb,.inl rfl,Off.of_below hb,⟨hs,.inl ⟨hi.lt,he⟩,fun X Y hX Ip _=>hX.mono Ip,by omega,fun m hm _=>⟨hm,rfl⟩⟩⟩
  ·refine(TD t (by omega) hi he hs hl h).mono ?_;rintro e w' ⟨rfl,g',h1,h2,h3⟩;have hil:=hi.lt;have hll:=qw (L:=L) (k:=i+1) (x:=(t,tV L i)) (by omega);have hle:=hi.yP hs hn;refine⟨i+1,g',kZ L (i+1) (t,tV L i),by rw[show((i+1:Nat):Int)=(i:Int)+1 by omega],h1,h2,h3,⟨hs.ins hi hn he (by omega),.inl ⟨by omega,?_⟩,fun X Y hX Ip hY=>lH.ins hX hil Ip hY,by omega,fun m hm hlt=>⟨by omega,?_⟩⟩⟩
   ·rw[Cg (by omega),qai (by omega),qaj rfl]
   ·have JU:m≤i:=by
     rcases Nat.lt_or_ge i m with h4|h4
     ·have:=hi.nx (by omega);have:=hs.le (i:=i+1) (j:=m) h4 hm;omega
     ·exact h4
    rw[Cg (by omega),qaj (by omega)]
theorem FU (i:Nat)(hs:Sm L now f)(hl:L.length≤1000)(hil:i≤L.length)(h:PW w p g L aX):
 Calls prog 207 #[.pointer (some ⟨p,0,none⟩),.int .i64 i] w fun e w'=>∃L':List (Int×Int),e=.returned (.tuple #[])∧PW w' p g L' aX∧Off p g w w'∧XI L L' now f i:=by
 by_cases hy:0<i∧i<L.length∧tV L i=tV L (i-1)
 ·obtain⟨h0,h1,h2⟩:=hy;refine(Qs i h hl h0 h1 h2).mono ?_;rintro e w' ⟨rfl,h3,h4⟩;have hll:=uw h1;refine⟨_,rfl,h3,h4,⟨hs.del h0 h1 h2,fun X Y hX Ip=>lH.del hX h0 h1 h2 (fun s hx=>?_) (fun m hm xY=>?_) (fun m hm=>?_),by omega,fun m hm xY=>⟨by omega,?_⟩⟩⟩
  ·rcases Ip s hx with h5|⟨_,h5⟩
   ·exact .inl h5
   ·exact .inr h5
  ·have:=hs.lt hm xY;omega
  ·have:=hs.lt hm h1;omega
  ·rw[GD h1,qaj hm]
 ·refine(TC i h hl hil hy).mono ?_;rintro e w' ⟨rfl,hb⟩;refine⟨L,rfl,h.kept hb,Off.of_below hb,⟨hs,fun X Y hX Ip m hm hY=>?_,qaf _,fun m _ xY=>⟨xY,rfl⟩⟩⟩;by_cases hx:X (tA L (m+1))
  ·rcases Ip _ hx with h5|⟨h5,h6⟩
   ·exact absurd h5 hY
   ·have e1:m+1=i:=by
     rcases Nat.lt_trichotomy (m+1) i with h7|h7|h7
     ·have:=hs.lt h7 h5;omega
     ·exact h7
     ·have:=hs.lt h7 hm;omega
    intro e2;refine hy ⟨by omega,h5,?_⟩;rw[←e1,Nat.add_sub_cancel];exact e2.symm
  ·exact hX m hm hx
theorem VM {i:Nat}(v:Int)(h:PW w p g L aX)(hi:i<L.length):PW (w.setCell ⟨g,i*2+1,none⟩ (.int .i64 v)) p g (L.set i (tA L i,v)) aX:=by
 obtain⟨cap,F⟩:=h.facts;refine⟨cap,?_,?_⟩
 ·rw[List.length_set,Below.heap_setCell w ⟨g,i*2+1,none⟩ _ p F.pg];exact F.obj
 ·have h1:=(F.own.stored (i*2+1) (.int .i64 v)).1;rw[Km,List.length_set];have e:(bI L).set (i*2) (.int .i64 (tA L i))=bI L:=by
   have hg:=(DN (DR hi)).1;obtain⟨hlt,hv⟩:=List.getElem?_eq_some_iff.1 hg;rw[←hv];exact List.set_getElem_self hlt
  show World.ownsRow _ 0 _ 2 _ _ (((bI L).set (i*2) (.int .i64 (tA L i))).set (i*2+1) (.int .i64 v));rw[e];exact h1
theorem VN {i:Nat}{v:Int}(hi:i<L.length)(m:Nat):tA (L.set i (tA L i,v)) m=tA L m:=by
 unfold tA;rw[List.getD_eq_getElem?_getD,List.getD_eq_getElem?_getD,List.getElem?_set];split
 ·rename_i e;subst e;simp[hi]
 ·rfl
theorem OW {i:Nat}{a v:Int}(hi:i<L.length)(m:Nat):tV (L.set i (a,v)) m=if m=i then v else tV L m:=by
 unfold tV;rw[List.getD_eq_getElem?_getD,List.getD_eq_getElem?_getD,List.getElem?_set];by_cases e:i=m
 ·subst e;simp[hi]
 ·rw[qai e,qai (by omega)]
theorem Nf (a b n:Int)(hC:Can L now f)(ha:now≤a)(hab:a<b)(hb:b≤1152921504606846976)(hf:∀t,now≤t→-1000≤f t∧f t≤1000)(hn: -1000≤n∧n≤1000)(hl:L.length≤800)(h:PW w p g L aX):
 Calls prog 179 #[.pointer (some ⟨p,0,none⟩),.int .i64 a,.int .i64 b,.int .i64 n] w fun e w'=>e=.returned (.tuple #[])∧∃(g':Nat) (L':List (Int×Int)),PW w' p g' L' aX∧(g'=g∨w.heap.size≤g')∧Off p g w w'∧Can L' now (fun t=>f t+had a b n t)∧L'.length≤L.length+2:=by
 have rC:=kW;have hcut:=Kv a hC.sm ha (by omega) (by omega) h;go_enter func179,ntmps179;go_wp2_with fail;go_at_call 206;refine hcut.mono ?_;clear hcut;rintro e w1 ⟨i,g1,L1,rfl,h1,hg1,ho1,qC⟩;have hl1:=qC.len;have hcut:=Kv b qC.sm (by omega) hb (by omega) h1;go_wp2_with fail;go_at_call 206;refine hcut.mono ?_;clear hcut;rintro e w2 ⟨j,g2,L2,rfl,h2,hg2,ho2,hC2⟩;have hl2:=hC2.len;have hi1:i<L1.length∧tA L1 i=a:=by
  rcases qC.here with h3|⟨h3,h4⟩
  ·exact h3
  ·omega
 obtain⟨hi2,hia⟩:=hC2.pre i hi1.1 (by omega);rw[hi1.2]at hia;have hij:i≤j:=by
  rcases hC2.here with⟨h3,h4⟩|⟨h3,_⟩
  ·exact Nat.le_of_lt (hC2.sm.RG hi2 h3 (by omega))
  ·omega
 have hjl:j≤L2.length:=by
  rcases hC2.here with⟨h3,_⟩|⟨h3,_⟩<;>omega
 have Ng:lH L2 (fun s=>s=a∨s=b):=hC2.alt (fun s=>s=a) _ (qC.alt _ _ hC.alt (fun s hs=>hs.elim) rfl) (fun s hs=>.inl hs) (.inr rfl);have hgw:g2=g∨w.heap.size≤g2:=by have:=ho1.size;omega
 have tC:Off p g w w2:=ho1.trans ho2 hg1;have hv2:∀m,m<L2.length→-1000≤tV L2 m∧tV L2 m≤1000:=fun m hm=>by
  rw[←hC2.sm.rep m (tA L2 m) hm (Int.le_refl _) (fun hx=>hC2.sm.inc m hx)];exact hf _ (hC2.sm.Cf hm)
 have Zf:=qae hl1;have Zg:=qae hl2;replace hi1:=qae hi1;replace hia:=qae hia;replace Ng:=qae Ng;replace hgw:=qae hgw;replace tC:=qae tC;replace hf:=qae hf;replace hv2:=qae hv2;clear h h1 ho1 ho2 hg1 hg2;have hL2:L2.length≤900:=by omega
 clear hl1 hl2;go_wp2_with fail;go_loopw [10] (fun kk wr=>∃(q:Nat) (Lk:List (Int×Int)),i≤q∧q≤j∧kk=.int .i64 q∧PW wr p g2 Lk aX∧Ch L2 Lk i q n∧Off p g2 w2 wr) (fun kk _=>j-(intOf kk).toNat)
 case atStart=>exact⟨i,L2,qaf _,hij,rfl,h2,⟨rfl,fun _=>rfl,fun m _=>by rw[qai (by omega)];omega⟩,Off.refl _ _ _⟩
 case round=>
  obtain⟨q,Lk,hiq,hqj,rfl,VO,hR,hoff⟩:=hrel;by_cases hlt:q<j
  ·have Qt:q<Lk.length:=by rw[hR.len];omega
   obtain⟨cap,F⟩:=VO.facts;have c0:=F.c0;have s1:=(step_cells F.own Qt).2;have fz:=F.own.frozenAt (q*2+1);have hv:tV Lk q=tV L2 q:=by rw[hR.v q (by omega),qai (by omega)];omega
   rw[hv]at s1;have hvb:=hv2.out q (by omega);obtain⟨x,hx⟩:=qaa (tV L2 q);rw[←hx]at s1 hvb;have hw1:IntKind.i64.wrap (x+n)=x+n:=IntWalk.i64_in _ (by omega);have hw2:IntKind.i64.wrap ((q:Int)+1)=(q:Int)+1:=IntWalk.i64_in _ (by omega);have b1:(0:Int)≤q:=by omega
   have b2:(q:Int)<(Lk.length:Int):=by omega
   have b3:(q:Int)<(j:Int):=by omega
   have hnew:=VM (x+n) VO Qt;have Nh:Off p g2 w2 (wr.setCell ⟨g2,q*2+1,none⟩ (.int .i64 (x+n))):=hoff.setCell (.inr (.inl rfl));have XJ:Ch L2 (Lk.set q (tA Lk q,x+n)) i (q+1) n:=by
    refine⟨by rw[List.length_set];exact hR.len,fun m=>by rw[VN Qt];exact hR.a m,fun m hm=>?_⟩;rw[OW Qt];by_cases e:m=q
    ·subst e;rw[qaj rfl,qaj (by omega),←hx]
    ·rw[qai e,hR.v m hm];by_cases hc:i≤m∧m<q
     ·rw[qaj hc,qaj (by omega)]
     ·rw[qai hc,qai (by omega)]
   replace hnew:=qae hnew;replace Nh:=qae Nh;replace XJ:=qae XJ;replace hx:=qae hx;replace hv:=qae hv;clear F VO hR hoff;go_wp2_with fail;go_roundw
   case rel=>exact⟨q+1,_,by omega,by omega,by go_num,hnew.out,XJ.out,Nh.out⟩
   case measure=>simp[intOf];omega
  ·obtain rfl:q=j:=by omega
   have hs3:Sm Lk now (fun t=>f t+had a b n t):=hC2.sm.raise hR hi2 hia.out hC2.here;have Ni:lH Lk (fun s=>s=a∨s=b):=Ng.out.raise hR hia.out hC2.here (fun s hs=>hs) (.inl rfl) (.inr rfl);have hll:=hR.len;have hj1:=FU q hs3 (by omega) (by omega) VO;have hlt':¬((q:Int)<(q:Int)):=by omega
   have Zh:=qae hR.a;clear hR;replace hs3:=qae hs3;replace Ni:=qae Ni;replace hll:=qae hll;go_wp2_with fail;go_at_call 207;refine hj1.mono ?_;clear hj1;rintro e w4 ⟨L4,rfl,h4,wG,VP⟩;have hb4:(q<Lk.length∧b=tA Lk q)∨b=1152921504606846976:=by
    rcases hC2.here with⟨h5,h6⟩|⟨_,h6⟩
    ·exact .inl ⟨by rw[hll.out];exact h5,by rw[Zh.out];exact h6.symm⟩
    ·exact .inr h6
   have Nj:lH L4 (fun s=>s=a∨s=1152921504606846976):=VP.alt _ _ Ni.out fun s hs=>by
    rcases hs with rfl|rfl
    ·exact .inl (.inl rfl)
    ·rcases hb4 with⟨h5,h6⟩|h6
     ·exact .inr ⟨h5,h6⟩
     ·exact .inl (.inr h6)
   have Zi:i<q:=by
    rcases hC2.here with⟨h5,h6⟩|⟨h5,h6⟩
    ·exact hC2.sm.RG hi2 h5 (by have:=hia.out;omega)
    ·omega
   obtain⟨hi4,OX⟩:=VP.pre i Zi (by rw[hll.out];exact hi2);rw[Zh.out,hia.out]at OX;have hl4:=VP.len;have hj2:=FU i VP.sm (by have:=hll.out;omega) (Nat.le_of_lt hi4) h4;replace OX:=qae OX;replace Nj:=qae Nj;replace hb4:=qae hb4;go_wp2_with fail;go_at_call 207;refine hj2.mono ?_;clear hj2;rintro e w5 ⟨L5,rfl,h5,Aq,TF⟩;have TG:lH L5 (fun s=>s=1152921504606846976):=TF.alt _ _ Nj.out fun s hs=>by
    rcases hs with rfl|rfl
    ·exact .inr ⟨hi4,OX.out.symm⟩
    ·exact .inl rfl
   have OY:Hid (Can L5 now (fun t=>f t+had a b n t)):=⟨TF.sm,fun m hm _=>TG m hm fun e=>by have:=TF.sm.top (m+1) hm;omega⟩;have hl5:Hid (L5.length≤L.length+2):=by
    show _≤_;have:=TF.len;have:=hll.out;have:=Zf.out;have:=Zg.out;omega
   have tu:Hid (Off p g w w5):=(tC.out.trans (((hoff.trans wG (.inl rfl)).trans Aq (.inl rfl))) hgw.out);clear TG TF Aq wG h4;replace h5:=qae h5;go_wp2_with fail;go_end0;exact⟨rfl,g2,L5,h5.out,hgw.out,tu.out,OY.out,hl5.out⟩
end
section
variable {L : List (Int × Int)} {now : Int} {f : Int → Int}
theorem jV.mono (hs:Sm L now f){s t:Int}{i j:Nat}(hi:jV L s i)(hj:jV L t j)(hst:s≤t):i≤j:=by
 rcases Nat.lt_or_ge j i with h1|h1
 ·have h2:=hj.nx (by have:=hi.lt;omega);have h3:=hi.le (by omega);have h4:=hs.le (i:=j+1) (j:=i) h1 hi.lt;omega
 ·exact h1
theorem FV (hs:Sm L now f){lo hi:Int}{i j:Nat}(h1:jV L lo i)(h2:jV L (hi-1) j)(hn:now≤lo)(hlt:lo<hi):
 i≤j∧(∀t,lo≤t→t<hi→∃q,i≤q∧q≤j∧f t=tV L q)∧∀q,i≤q→q≤j→∃t,lo≤t∧t<hi∧f t=tV L q:=by
 have hij:=h1.mono hs h2 (by omega);refine⟨hij,fun t h3 h4=>?_,fun q h3 h4=>?_⟩
 ·obtain⟨q,hq⟩:=hs.ix t;exact⟨q,h1.mono hs hq h3,hq.mono hs h2 (by omega),hq.val hs (by omega)⟩
 ·have hjl:=h2.lt;have Qt:q<L.length:=by omega
  have hjle:=h2.yP hs (by omega);have hqj:=hs.le h4 hjl;have hnx:q+1<L.length→lo<tA L (q+1):=fun hx=>by
   have h5:=h1.nx (by omega);have h6:=hs.le (i:=i+1) (j:=q+1) (by omega) hx;omega
  refine⟨max (tA L q) lo,by omega,by omega,hs.rep q _ Qt (by omega) fun hx=>?_⟩;have:=hnx hx;have:=hs.inc q hx;omega
end
section
variable {w : World} {p g : Nat} {L : List (Int × Int)} {aX now : Int} {f : Int → Int}
theorem ER (a b:Int)(Za: -9223372036854775808≤b∧b≤9223372036854775807)(hs:Sm L now f)(hn:0≤now)(hl:L.length≤1000)(h:PW w p g L aX):
 Calls prog 147 #[.pointer (some ⟨p,0,none⟩),.int .i64 a,.int .i64 b] w fun e w'=>∃m:Int,e=.returned (.int .i64 m)∧BL f (max a now) b m∧Below w.heap.size w w':=by
 have hno:=gK h hs.pos;by_cases hab:b≤max a now
 ·have hp:=DX a b h hs.pos (by rw[hs.hd];exact hab);have hB:Hid (BL f (max a now) b 64):=⟨Int.le_refl _,fun t h1 h2=>by omega,.inl rfl⟩;go_enter func147,ntmps147;go_wp2_with (first|(go_at_call 75;go_must (refine hno.mono ?_);rintro e w' ⟨rfl,rfl⟩)|(go_at_call 178;go_must (refine hp.mono ?_);rintro e w' ⟨rfl,rfl⟩));go_loopw [7,17] (fun u i wr=>u=.int .i64 64∧i=.int .i64 0∧wr=w) (fun _ _ _=>0)
  case atStart=>exact⟨rfl,rfl,rfl⟩
  case round=>
   obtain⟨rfl,rfl,rfl⟩:=hrel;go_wp2_with fail;go_ret;exact⟨64,rfl,hB.out,Below.refl _ _⟩
 ·obtain⟨m0,hm0⟩:=qaa (max a now);obtain⟨i,hi⟩:=hs.ix m0;obtain⟨j,hj⟩:=hs.ix (b-1);obtain⟨hij,hall,hone⟩:=FV hs hi hj (by omega) (by omega);rw[←hm0]at hab⊢;obtain⟨cap,F⟩:=h.facts;have hp:=DY a b m0 (by rw[hs.hd];exact hm0.symm) (by omega) (by omega) hi hj hij hs hl h F;have hjl:=hj.lt;obtain⟨c,hc⟩:=qaa (j+1-i);obtain⟨cc,hcc⟩:=qaa (cap-i);rw[←hc,←hcc]at hp;have vk:=F.own;clear F;replace hi:=qae hi;replace hj:=qae hj;replace hall:=qae hall;replace hone:=qae hone;replace hc:=qae hc;replace hcc:=qae hcc;replace hm0:=qae hm0;go_enter func147,ntmps147;go_wp2_with (go_at_call 75;go_must (refine hno.mono ?_);rintro e w' ⟨rfl,rfl⟩);go_at_call 178;refine hp.mono ?_;clear hp hno;rintro e w1 ⟨rfl,hb1⟩;go_wp2_with fail;go_loopw [7,17] (fun u k wr=>∃(q:Nat) (m:Int),q≤c∧k=.int .i64 q∧u=.int .i64 m∧m≤64∧(∀r,r<q→m≤tV L (i+r))∧(m=64∨∃r,r<q∧m=tV L (i+r))∧Below w.heap.size w wr) (fun _ k _=>c-(intOf k).toNat)
  case atStart=>exact⟨0,64,Nat.zero_le _,rfl,rfl,Int.le_refl _,fun r hr=>by omega,.inl rfl,hb1⟩
  case round=>
   obtain⟨q,m,hq,rfl,rfl,Zj,hlo,hex,hbr⟩:=hrel;by_cases hlt:q<c
   ·have hcv:=hc.out;have hown:=ed vk hbr;obtain⟨s0,s1⟩:=step_cells hown (show i+q<L.length by omega);rw[Nat.add_mul]at s0 s1;obtain⟨x,hx⟩:=qaa (tV L (i+q));obtain⟨y,hy⟩:=qaa (tA L (i+q));rw[←hx]at s1;rw[←hy]at s0;have hsz:=hbr.size;have hw2:IntKind.i64.wrap ((q:Int)+1)=(q:Int)+1:=IntWalk.i64_in _ (by omega);have b1:(0:Int)≤q:=by omega
    have b2:(q:Int)<(c:Int):=by omega
    have hbd:Below w.heap.size w (wr.alloc (.cells #[.int .i64 y,.int .i64 x] 58)):=hbr.alloc hsz _;have hlo2:Hid (∀r,r<q+1→min m x≤tV L (i+r)):=fun r hr=>by
     rcases Nat.lt_or_ge r q with h5|h5
     ·have:=hlo r h5;omega
     ·have:r=q:=by omega
      subst this;rw[←hx];omega
    have Zk:Hid (min m x=64∨∃r,r<q+1∧min m x=tV L (i+r)):=by
     show _∨_;rcases Int.lt_or_le x m with h5|h5
     ·exact .inr ⟨q,by omega,by rw[←hx];omega⟩
     ·have e:min m x=m:=by omega
      rw[e];rcases hex with h6|⟨r,h6,h7⟩
      ·exact .inl h6
      ·exact .inr ⟨r,by omega,h7⟩
    replace hx:=qae hx;replace hy:=qae hy;clear hlo hex hcv hown;go_wp2_with fail;go_roundw
    case rel=>exact⟨q+1,min m x,by omega,by go_num,rfl,by omega,hlo2.out,Zk.out,hbd⟩
    case measure=>simp[intOf];omega
   ·obtain rfl:q=c:=by omega
    have hB:Hid (BL f m0 b m):=by
     refine⟨Zj,fun t h1 h2=>?_,?_⟩
     ·obtain⟨r,h3,h4,h5⟩:=hall.out t h1 h2;have:=hlo (r-i) (by have:=hc.out;omega);rw[show i+(r-i)=r by omega]at this;omega
     ·rcases hex with h6|⟨r,h6,h7⟩
      ·exact .inl h6
      ·obtain⟨t,h3,h4,h5⟩:=hone.out (i+r) (by omega) (by have:=hc.out;omega);exact .inr ⟨t,h3,h4,by omega⟩
    clear hlo hex;go_wp2_with fail;go_ret;exact⟨m,rfl,hB.out,hbr⟩
end
def TH (f:Int→Int)(now a b n e:Int)(f':Int→Int)(dv:Int):Prop:=
 ((b≤a∨1152921504606846976<b∨n< -64∨64<n)∧e=1∧f'=f∧dv=0)∨
 (¬(b≤a∨1152921504606846976<b∨n< -64∨64<n)∧(b≤max a now∨n=0)∧e=0∧f'=f∧dv=0)∨
 (¬(b≤a∨1152921504606846976<b∨n< -64∨64<n)∧¬(b≤max a now∨n=0)∧(∃t,max a now≤t∧t<b∧(f t+n<0∨64<f t+n))∧e=5∧f'=f∧dv=0)∨
 (¬(b≤a∨1152921504606846976<b∨n< -64∨64<n)∧¬(b≤max a now∨n=0)∧(∀t,max a now≤t→t<b→0≤f t+n∧f t+n≤64)∧e=0∧f'=(fun t=>f t+had (max a now) b n t)∧dv=1)
section
variable {w : World} {p g : Nat} {L : List (Int × Int)} {aX now : Int} {f : Int → Int}
theorem OZ (v:Int)(h:PW w p g L aX):PW (w.setCell ⟨p,1,none⟩ (.int .i64 v)) p g L v:=by
 obtain⟨cap,F⟩:=h.facts;have hlt:=F.pl;have h1':w.heap[p]=_:=(Array.getElem?_eq_some_iff.1 F.obj).2;refine⟨cap,by simp[World.setCell,hlt,Array.getElem_modify,h1'],Ck F.own (fun k hk=>by cases hk;exact fun e=>F.pg e.symm) 1 _⟩
def dH (w:World)(p g:Nat)(L:List (Int×Int))(aX now:Int)(f:Int→Int)(a b n:Int)(e:Ending)(w':World):Prop:=
 ∃(r dv:Int) (f':Int→Int) (g':Nat) (L':List (Int×Int)),e=.returned (.int .i64 r)∧TH f now a b n r f' dv∧PW w' p g' L' (aX+dv)∧Can L' now f'∧(g'=g∨w.heap.size≤g')∧Off p g w w'∧L'.length≤L.length+2
theorem dH.same {a b n r:Int}{w':World}(h:PW w p g L aX)(hC:Can L now f)(hR:TH f now a b n r f 0)(hb:Below w.heap.size w w'):dH w p g L aX now f a b n (.returned (.int .i64 r)) w':=
 ⟨r,0,f,g,L,rfl,hR,by rw[Int.add_zero];exact h.kept hb,hC,.inl rfl,Off.of_below hb,by omega⟩
theorem TI (a b n:Int)(hC:Can L now f)(h:PW w p g L aX)(hbad:b≤a∨1152921504606846976<b∨n< -64∨64<n):
 Calls prog 132 #[.pointer (some ⟨p,0,none⟩),.int .i64 a,.int .i64 b,.int .i64 n] w (dH w p g L aX now f a b n):=by
 have hno:=gK h hC.sm.pos;have hfin:Hid (dH w p g L aX now f a b n (.returned (.int .i64 1)) w):=dH.same h hC (.inl ⟨hbad,rfl,rfl,rfl⟩) qac;by_cases h1:b≤a
 ·go_enter func132,ntmps132;go_wp2_with (go_at_call 75;go_must (refine hno.mono ?_);rintro e w' ⟨rfl,rfl⟩);go_ret;exact hfin.out
 ·by_cases h2:1152921504606846976<b
  ·go_enter func132,ntmps132;go_wp2_with (go_at_call 75;go_must (refine hno.mono ?_);rintro e w' ⟨rfl,rfl⟩);go_ret;exact hfin.out
  ·by_cases h3:n< -64
   ·go_enter func132,ntmps132;go_wp2_with (go_at_call 75;go_must (refine hno.mono ?_);rintro e w' ⟨rfl,rfl⟩);go_ret;exact hfin.out
   ·have h4:64<n:=by omega
    go_enter func132,ntmps132;go_wp2_with (go_at_call 75;go_must (refine hno.mono ?_);rintro e w' ⟨rfl,rfl⟩);go_ret;exact hfin.out
theorem Qu (a b n:Int)(hC:Can L now f)(h:PW w p g L aX)(hok:¬(b≤a∨1152921504606846976<b∨n< -64∨64<n))(hz:b≤max a now):
 Calls prog 132 #[.pointer (some ⟨p,0,none⟩),.int .i64 a,.int .i64 b,.int .i64 n] w (dH w p g L aX now f a b n):=by
 have hno:=gK h hC.sm.pos;have hp:=DX a b h hC.sm.pos (by rw[hC.sm.hd];exact hz);have hfin:Hid (dH w p g L aX now f a b n (.returned (.int .i64 0)) w):=dH.same h hC (.inr (.inl ⟨hok,.inl hz,rfl,rfl,rfl⟩)) qac;have h1:¬(b≤a):=by omega
 have h2:¬(1152921504606846976<b):=by omega
 have h3:¬(n< -64):=by omega
 have h4:¬(64<n):=by omega
 clear hok hz;go_enter func132,ntmps132;go_wp2_with (first|(go_at_call 75;go_must (refine hno.mono ?_);rintro e w' ⟨rfl,rfl⟩)|(go_at_call 178;go_must (refine hp.mono ?_);rintro e w' ⟨rfl,rfl⟩));go_ret;exact hfin.out
theorem Qv (a b n:Int)(hC:Can L now f)(hn0:0≤now)(hf:∀t,now≤t→0≤f t∧f t≤64)(zy:0≤aX∧aX≤1000000)(hl:L.length≤800)(h:PW w p g L aX)(hok:¬(b≤a∨1152921504606846976<b∨n< -64∨64<n))(hz:¬b≤max a now):
 Calls prog 132 #[.pointer (some ⟨p,0,none⟩),.int .i64 a,.int .i64 b,.int .i64 n] w (dH w p g L aX now f a b n):=by
 have hno:=gK h hC.sm.pos;obtain⟨m0,hm0⟩:=qaa (max a now);obtain⟨i,hi⟩:=hC.sm.ix m0;obtain⟨j,hj⟩:=hC.sm.ix (b-1);obtain⟨hij,hall,hone⟩:=FV hC.sm hi hj (by omega) (by omega);obtain⟨cap,F⟩:=h.facts;have hp:=DY a b m0 (by rw[hC.sm.hd];exact hm0.symm) (by omega) (by omega) hi hj hij hC.sm (by omega) h F;have hjl:=hj.lt;obtain⟨c,hc⟩:=qaa (j+1-i);obtain⟨cc,hcc⟩:=qaa (cap-i);rw[←hc,←hcc]at hp;have vk:=F.own;clear F;have h1:¬(b≤a):=by omega
 have h2:¬(1152921504606846976<b):=by omega
 have h3:¬(n< -64):=by omega
 have h4:¬(64<n):=by omega
 have hc0:((c:Int) == 0)=false:=beq_eq_false_iff_ne.2 (by omega);have hc0':¬((c:Int)=0):=by omega
 have Qw:Hid (now≤m0∧m0<b):=by show _∧_;omega
 replace hi:=qae hi;replace hj:=qae hj;replace hall:=qae hall;replace hone:=qae hone;replace hc:=qae hc;replace hcc:=qae hcc;replace hf:=qae hf;by_cases hn:n=0
 ·have hfin:Hid (∀w1,Below w.heap.size w w1→dH w p g L aX now f a b n (.returned (.int .i64 0)) w1):=fun w1 hb=>dH.same h hC (.inr (.inl ⟨hok,.inr hn,rfl,rfl,rfl⟩)) hb;clear hok hz;subst hn;replace hm0:=qae hm0;go_enter func132,ntmps132;go_wp2_with (first|(go_at_call 75;go_must (refine hno.mono ?_);rintro e w' ⟨rfl,rfl⟩)|(go_at_call 178;go_must (refine hp.mono ?_);rintro e w1 ⟨rfl,hb1⟩));go_ret;exact hfin.out _ hb1
 ·have hn':(n == 0)=false:=beq_eq_false_iff_ne.2 hn;have hz':¬(b≤max a now∨n=0):=by omega
  have hbad:Hid (∀w1 t,Below w.heap.size w w1→m0≤t→t<b→(f t+n<0∨64<f t+n)→dH w p g L aX now f a b n (.returned (.int .i64 5)) w1):=fun w1 t hb h5 h6 h7=>dH.same h hC (.inr (.inr (.inl ⟨hok,hz',⟨t,by omega,h6,h7⟩,rfl,rfl,rfl⟩))) hb;have hgood:Hid ((∀t,m0≤t→t<b→0≤f t+n∧f t+n≤64)→TH f now a b n 0 (fun t=>f t+had m0 b n t) 1):=fun hx=>.inr (.inr (.inr ⟨hok,hz',fun t h5 h6=>hx t (by omega) h6,rfl,by rw[hm0],rfl⟩));have aah:max a (tA L 0)=m0:=by rw[hC.sm.hd];exact hm0.symm
  clear hok hz hz';replace hm0:=qae hm0;go_enter func132,ntmps132;go_wp2_with (go_at_call 75;go_must (refine hno.mono ?_);rintro e w' ⟨rfl,rfl⟩);go_at_call 178;refine hp.mono ?_;clear hp hno;rintro e w1 ⟨rfl,hb1⟩;go_wp2_with fail;go_loopw [43] (fun k wr=>∃(q:Nat),q≤c∧k=.int .i64 q∧(∀r,r<q→0≤tV L (i+r)+n∧tV L (i+r)+n≤64)∧Below w.heap.size w wr) (fun k _=>c-(intOf k).toNat)
  case atStart=>exact⟨0,Nat.zero_le _,rfl,fun r hr=>by omega,hb1⟩
  case round=>
   obtain⟨q,hq,rfl,hlo,hbr⟩:=hrel;by_cases hlt:q<c
   ·have hcv:=hc.out;have hown:=ed vk hbr;obtain⟨s0,s1⟩:=step_cells hown (show i+q<L.length by omega);rw[Nat.add_mul]at s0 s1;have Zl:=hone.out (i+q) (by omega) (by omega);obtain⟨x,hx⟩:=qaa (tV L (i+q));obtain⟨y,hy⟩:=qaa (tA L (i+q));rw[←hx]at s1 Zl;rw[←hy]at s0;obtain⟨t,ht1,ht2,ht3⟩:=Zl;have ui:=hf.out t (by have:=Qw.out;omega);rw[ht3]at ui;have hsz:=hbr.size;have hw1:IntKind.i64.wrap (x+n)=x+n:=IntWalk.i64_in _ (by omega);have hw2:IntKind.i64.wrap ((q:Int)+1)=(q:Int)+1:=IntWalk.i64_in _ (by omega);have b1:(0:Int)≤q:=by omega
    have b2:(q:Int)<(c:Int):=by omega
    have hbd:Below w.heap.size w (wr.alloc (.cells #[.int .i64 y,.int .i64 x] 58)):=hbr.alloc hsz _;have DZ:Hid (x+n<0∨64<x+n→∀w1,Below w.heap.size w w1→dH w p g L aX now f a b n (.returned (.int .i64 5)) w1):=fun h5 w1 h6=>hbad.out w1 t h6 ht1 ht2 (by rw[ht3];exact h5);clear hbad;by_cases h5:x+n<0
    ·have hh:=DZ.out (.inl h5) _ hbd;replace hh:=qae hh;replace hx:=qae hx;replace hy:=qae hy;replace ht3:=qae ht3;clear hlo hcv hown DZ;go_wp2_with fail;go_ret;exact hh.out
    ·by_cases h6:64<x+n
     ·have hh:=DZ.out (.inr h6) _ hbd;replace hh:=qae hh;replace hx:=qae hx;replace hy:=qae hy;replace ht3:=qae ht3;clear hlo hcv hown DZ;go_wp2_with fail;go_ret;exact hh.out
     ·have hlo2:Hid (∀r,r<q+1→0≤tV L (i+r)+n∧tV L (i+r)+n≤64):=fun r hr=>by
       rcases Nat.lt_or_ge r q with h7|h7
       ·exact hlo r h7
       ·have:r=q:=by omega
        subst this;rw[←hx];omega
      replace hx:=qae hx;replace hy:=qae hy;replace ht3:=qae ht3;clear hlo hcv hown DZ;go_wp2_with fail;go_roundw
      case rel=>exact⟨q+1,by omega,by go_num,hlo2.out,hbd⟩
      case measure=>simp[intOf];omega
   ·obtain rfl:q=c:=by omega
    have hR:=hgood.out fun t h5 h6=>by
     obtain⟨r,h7,h8,h9⟩:=hall.out t h5 h6;have:=hlo (r-i) (by have:=hc.out;omega);rw[show i+(r-i)=r by omega]at this;rw[h9];exact this
    have XK:=h.kept hbr;have hnw:=rU XK hC.sm.pos;have hsh:=Nf m0 b n hC Qw.out.1 Qw.out.2 (by omega) (fun t ht=>by have:=hf.out t ht;omega) (by omega) hl XK;have hwv:IntKind.i64.wrap (aX+1)=aX+1:=IntWalk.i64_in _ (by omega);replace hR:=qae hR;clear hlo hbad hgood h vk XK;go_wp2_with (go_at_call 45;go_must (refine hnw.mono ?_);rintro e w' ⟨rfl,rfl⟩);go_at_call 179;refine hsh.mono ?_;clear hsh hnw;rintro e w5 ⟨rfl,g5,L5,h5,hg5,Aq,iI,hl5⟩;obtain⟨cap5,F5⟩:=h5.facts;have c1:=F5.c1;have fz:=F5.fz 1;clear F5;have hnew:=OZ (aX+1) h5;have hpost:Hid (dH w p g L aX now f a b n (.returned (.int .i64 0)) (w5.setCell ⟨p,1,none⟩ (.int .i64 (aX+1)))):=
     ⟨0,1,_,g5,L5,rfl,hR.out,hnew,iI,by have:=hbr.size;omega,((Off.of_below hbr).trans Aq (.inl rfl)).setCell (.inl rfl),hl5⟩
    clear hnew h5 iI Aq hg5 hl5 hR;go_wp2_with fail;go_ret;exact hpost.out
theorem Bv (a b n:Int)(hC:Can L now f)(hn0:0≤now)(hf:∀t,now≤t→0≤f t∧f t≤64)(zy:0≤aX∧aX≤1000000)(hl:L.length≤800)(h:PW w p g L aX):
 Calls prog 132 #[.pointer (some ⟨p,0,none⟩),.int .i64 a,.int .i64 b,.int .i64 n] w (dH w p g L aX now f a b n):=by
 by_cases hbad:b≤a∨1152921504606846976<b∨n< -64∨64<n
 ·exact TI a b n hC h hbad
 ·by_cases hz:b≤max a now
  ·exact Qu a b n hC h hbad hz
  ·exact Qv a b n hC hn0 hf zy hl h hbad hz
end
section
variable {w : World} {p g : Nat} {L : List (Int × Int)} {aX now : Int} {f : Int → Int}
theorem dH.ahead {a b n:Int}{w0 w':World}{e:Ending}(h:dH w p g L aX now f a b n e w')(hb:Below w0.heap.size w0 w):dH w0 p g L aX now f a b n e w':=by
 obtain⟨r,dv,f',g',L',h1,h2,h3,h4,h5,h6,h7⟩:=h;exact⟨r,dv,f',g',L',h1,h2,h3,h4,by have:=hb.size;omega,(Off.of_below hb).trans h6 (.inl rfl),h7⟩
theorem Bw (a b n k:Int)(hn:0≤n∧n≤64)(hk:k=1∨k= -1)(hC:Can L now f)(hn0:0≤now)(hf:∀t,now≤t→0≤f t∧f t≤64)(zy:0≤aX∧aX≤1000000)(hl:L.length≤800)(h:PW w p g L aX):
 Calls prog 224 #[.pointer (some ⟨p,0,none⟩),.agg #[.int .i64 a,.int .i64 b,.int .i64 n],.int .i64 k] w (dH w p g L aX now f a b (k*n)):=by
 obtain⟨m,hm⟩:=qaa (k*n);have hmw:IntKind.i64.wrap (k*n)=m:=by rw[←hm];exact IntWalk.i64_in _ (by rcases hk with rfl|rfl<;>omega)
 have hb1:Below w.heap.size w (w.alloc (.cells #[.int .i64 a,.int .i64 b,.int .i64 n] 131)):=qac.alloc (qaf _) _;have h1:=h.kept hb1;have hno:=gK h1 hC.sm.pos;have hadd:=Bv a b m hC hn0 hf zy hl h1;rw[←hm];have hn1:¬(n<0):=by omega
 have hn2:¬(64<n):=by omega
 replace hm:=qae hm;replace hf:=qae hf;clear hk hn h;go_enter func224,ntmps224;go_wp2_with (go_at_call 75;go_must (refine hno.mono ?_);rintro e w' ⟨rfl,rfl⟩);go_at_call 132;refine hadd.mono ?_;clear hadd hno;intro e w2 hp;obtain⟨r,dv,f',g',L',rfl,hrest⟩:=hp;have hfin:Hid (dH w p g L aX now f a b m (.returned (.int .i64 r)) w2):=dH.ahead (w:=w.alloc (.cells #[.int .i64 a,.int .i64 b,.int .i64 n] 131)) ⟨r,dv,f',g',L',rfl,hrest⟩ hb1;clear hrest h1 hb1;go_wp2_with fail;go_ret;exact hfin.out
theorem Iq (a b n:Int)(hn:0≤n∧n≤64)(hC:Can L now f)(hn0:0≤now)(hf:∀t,now≤t→0≤f t∧f t≤64)(zy:0≤aX∧aX≤1000000)(hl:L.length≤800)(h:PW w p g L aX):
 Calls prog 202 #[.pointer (some ⟨p,0,none⟩),.agg #[.int .i64 a,.int .i64 b,.int .i64 n]] w (dH w p g L aX now f a b (-n)):=by
 have hb1:Below w.heap.size w (w.alloc (.cells #[.int .i64 a,.int .i64 b,.int .i64 n] 131)):=qac.alloc (qaf _) _;have hch:=Bw a b n (-1) hn (.inr rfl) hC hn0 hf zy hl (h.kept hb1);rw[show(-1:Int)*n= -n by omega]at hch;replace hf:=qae hf;clear hn h;go_enter func202,ntmps202;go_wp2_with fail;go_at_call 224;refine hch.mono ?_;clear hch;intro e w2 hp;obtain⟨r,dv,f',g',L',rfl,hrest⟩:=hp;have hfin:Hid (dH w p g L aX now f a b (-n) (.returned (.int .i64 r)) w2):=dH.ahead (w:=w.alloc (.cells #[.int .i64 a,.int .i64 b,.int .i64 n] 131)) ⟨r,dv,f',g',L',rfl,hrest⟩ hb1;clear hrest hb1;go_wp2_with fail;go_ret;exact hfin.out
theorem Ir (a b n:Int)(hn:0≤n∧n≤64)(hC:Can L now f)(hn0:0≤now)(hf:∀t,now≤t→0≤f t∧f t≤64)(zy:0≤aX∧aX≤1000000)(hl:L.length≤800)(h:PW w p g L aX):
 Calls prog 200 #[.pointer (some ⟨p,0,none⟩),.agg #[.int .i64 a,.int .i64 b,.int .i64 n]] w (dH w p g L aX now f a b n):=by
 have hb1:Below w.heap.size w (w.alloc (.cells #[.int .i64 a,.int .i64 b,.int .i64 n] 131)):=qac.alloc (qaf _) _;have hch:=Bw a b n 1 hn (.inl rfl) hC hn0 hf zy hl (h.kept hb1);rw[show(1:Int)*n=n by omega]at hch;replace hf:=qae hf;clear hn h;go_enter func200,ntmps200;go_wp2_with fail;go_at_call 224;refine hch.mono ?_;clear hch;intro e w2 hp;obtain⟨r,dv,f',g',L',rfl,hrest⟩:=hp;have hfin:Hid (dH w p g L aX now f a b n (.returned (.int .i64 r)) w2):=dH.ahead (w:=w.alloc (.cells #[.int .i64 a,.int .i64 b,.int .i64 n] 131)) ⟨r,dv,f',g',L',rfl,hrest⟩ hb1;clear hrest hb1;go_wp2_with fail;go_ret;exact hfin.out
theorem Kw (n:Int)(w:World)(h:0≤n∧n≤64):Calls prog 62 #[.int .i64 n] w fun e w'=>∃p g:Nat,e=.returned (.tuple #[.pointer (some ⟨p,0,none⟩),.int .i64 0])∧PW w' p g [(0,n)] 0∧w.heap.size≤p∧w.heap.size≤g∧Below w.heap.size w w':=by
 have h1:¬(n<0):=by omega
 have h2:¬(64<n):=by omega
 have hp:Hid (∀w2,w2=((w.alloc (.cells #[.int .i64 0,.int .i64 n] 58)).alloc (.cells #[.slice (some ⟨w.heap.size,0,none⟩) 1 1,.int .i64 0] 125))→PW w2 (w.heap.size+1) w.heap.size [(0,n)] 0):=by
  rintro w2 rfl;have ho:(w.alloc (.cells #[.int .i64 0,.int .i64 n] 58)).ownsRow 0 58 2 (.slice (some ⟨w.heap.size,0,none⟩) 1 1) 1 (bI [(0,n)]):=yO (vs:=[.int .i64 0,.int .i64 n]) rfl (Nat.zero_le _) rfl (by decide);refine⟨1,?_,ed ho (qac.alloc (qaf _) _)⟩;have:=heap_alloc_new (w.alloc (.cells #[.int .i64 0,.int .i64 n] 58)) (.cells #[.slice (some ⟨w.heap.size,0,none⟩) 1 1,.int .i64 0] 125);simpa using this
 have hb:Below w.heap.size w ((w.alloc (.cells #[.int .i64 0,.int .i64 n] 58)).alloc (.cells #[.slice (some ⟨w.heap.size,0,none⟩) 1 1,.int .i64 0] 125)):=(qac.alloc (qaf _) _).alloc (by simp) _;clear h;go_enter func62,ntmps62;go_wp2_with fail;go_ret2;exact⟨w.heap.size+1,rfl,w.heap.size,hp.out _ rfl,by omega,qaf _,hb⟩
theorem TJ (n:Int):Can [(0,n)] 0 (fun _=>n):=
 ⟨⟨by simp,rfl,fun i hi=>by simp at hi,fun i hi=>by simp at hi;subst hi;simp[tA],fun i t hi _ _=>by simp at hi;subst hi;simp[tV]⟩,fun i hi=>by simp at hi⟩
end
def WA (now t e now' dv:Int):Prop:=
 ((t<now∨1099511627776<t)∧e=5∧now'=now∧dv=0)∨(¬(t<now∨1099511627776<t)∧t=now∧e=0∧now'=now∧dv=0)∨(¬(t<now∨1099511627776<t)∧t≠now∧e=0∧now'=t∧dv=1)
section
variable {w : World} {p g : Nat} {L : List (Int × Int)} {aX now : Int} {f : Int → Int}
theorem TK {cap:Nat}(k:Nat)(ho:w.ownsRow 0 58 2 (.slice (some ⟨g,0,none⟩) L.length cap) L.length (bI L))(hl:L.length≤1000)(hk:k≤L.length):
 Calls prog 230 #[.slice (some ⟨g,0,none⟩) L.length cap,.int .i64 0,.int .i64 k] w fun e w'=>e=.returned (.slice (some ⟨g,0,none⟩) (L.length-k) cap)∧w'.ownsRow 0 58 2 (.slice (some ⟨g,0,none⟩) (L.length-k) cap) (L.length-k) (bI (L.drop k))∧Off g g w w':=by
 have h:=Bu 0 k ho hl (Nat.zero_le _) hk;rw[List.take_zero,xD,List.length_drop]at h;exact h
theorem TL (t:Int)(h:PW w p g L aX)(hi:0<L.length):PW (w.setCell ⟨g,0,none⟩ (.int .i64 t)) p g (L.set 0 (t,tV L 0)) aX:=by
 obtain⟨cap,F⟩:=h.facts;refine⟨cap,?_,?_⟩
 ·rw[List.length_set,Below.heap_setCell w ⟨g,0,none⟩ _ p F.pg];exact F.obj
 ·have h1:=(F.own.stored 0 (.int .i64 t)).1;rw[Km,List.length_set];have e:((bI L).set 0 (.int .i64 t)).set 1 (.int .i64 (tV L 0))=(bI L).set 0 (.int .i64 t):=by
   have hg:=(DN (DR hi)).2;obtain⟨hlt,hv⟩:=List.getElem?_eq_some_iff.1 hg;rw[List.set_comm _ _ (by decide)];have h2:(bI L).set 1 (.int .i64 (tV L 0))=bI L:=by
    have hv':(bI L)[1]'(by simpa using hlt)=.int .i64 (tV L 0):=by simpa using hv
    rw[←hv'];exact List.set_getElem_self _
   rw[h2]
  show World.ownsRow _ 0 _ 2 _ _ (((bI L).set 0 (.int .i64 t)).set 1 (.int .i64 (tV L 0)));rw[e];exact h1
def Ky (w:World)(g:Nat)(L:List (Int×Int))(k cap:Nat):List Value→World→Prop
 | [],W=>Below w.heap.size w W
 |_::_,W=>W.ownsRow 0 58 2 (.slice (some ⟨g,0,none⟩) (L.length-k) cap) (L.length-k) (bI (L.drop k))∧Off g g w W
theorem Ky.ext {w:World}{g:Nat}{L:List (Int×Int)}{k cap:Nat}:∀(vs:List Value) (W W':World),Reg2.Ext W W'→Ky w g L k cap vs W→Ky w g L k cap vs W':=by
 intro vs W W' he h;cases vs with
 |nil=>exact Below.trans h (he.mono (Below.size h))
 |cons v vs=>exact⟨ed h.1 he,h.2.sM he⟩
def rV (w:World)(p g:Nat)(L:List (Int×Int))(aX now:Int)(f:Int→Int)(t:Int)(e:Ending)(w':World):Prop:=
 ∃(r dv now':Int) (L':List (Int×Int)),e=.returned (.int .i64 r)∧WA now t r now' dv∧PW w' p g L' (aX+dv)∧Can L' now' f∧Off p g w w'∧L'.length≤L.length
theorem Zm (t:Int)(hC:Can L now f)(h:PW w p g L aX)(hbad:t<now∨1099511627776<t):
 Calls prog 265 #[.pointer (some ⟨p,0,none⟩),.int .i64 t] w (rV w p g L aX now f t):=by
 have hno:=gK h hC.sm.pos;have hnw:=rU h hC.sm.pos;rw[hC.sm.hd]at hnw;have hfin:Hid (rV w p g L aX now f t (.returned (.int .i64 5)) w):=⟨5,0,now,L,rfl,.inl ⟨hbad,rfl,rfl,rfl⟩,by rw[Int.add_zero];exact h,hC,Off.refl _ _ _,qaf _⟩;by_cases h1:t<now
 ·go_enter func265,ntmps265;go_wp2_with (first|(go_at_call 75;go_must (refine hno.mono ?_);rintro e w' ⟨rfl,rfl⟩)|(go_at_call 45;go_must (refine hnw.mono ?_);rintro e w' ⟨rfl,rfl⟩));go_ret;exact hfin.out
 ·have h2:1099511627776<t:=by omega
  clear hbad;go_enter func265,ntmps265;go_wp2_with (first|(go_at_call 75;go_must (refine hno.mono ?_);rintro e w' ⟨rfl,rfl⟩)|(go_at_call 45;go_must (refine hnw.mono ?_);rintro e w' ⟨rfl,rfl⟩));go_ret;exact hfin.out
theorem Qx (hC:Can L now f)(h:PW w p g L aX)(hm:now≤1099511627776):
 Calls prog 265 #[.pointer (some ⟨p,0,none⟩),.int .i64 now] w (rV w p g L aX now f now):=by
 have hno:=gK h hC.sm.pos;have hnw:=rU h hC.sm.pos;rw[hC.sm.hd]at hnw;have hfin:Hid (rV w p g L aX now f now (.returned (.int .i64 0)) w):=⟨0,0,now,L,rfl,.inr (.inl ⟨by omega,rfl,rfl,rfl,rfl⟩),by rw[Int.add_zero];exact h,hC,Off.refl _ _ _,qaf _⟩;have h1:¬(now<now):=by omega
 have h2:¬(1099511627776<now):=by omega
 go_enter func265,ntmps265;go_wp2_with (first|(go_at_call 75;go_must (refine hno.mono ?_);rintro e w' ⟨rfl,rfl⟩)|(go_at_call 45;go_must (refine hnw.mono ?_);rintro e w' ⟨rfl,rfl⟩));go_ret;exact hfin.out
theorem VQ (t:Int)(hC:Can L now f)(h:PW w p g L aX)(zy:0≤aX∧aX≤1000000)(hl:L.length≤1000)(hlt:now<t)(hm:t≤1099511627776):
 Calls prog 265 #[.pointer (some ⟨p,0,none⟩),.int .i64 t] w (rV w p g L aX now f t):=by
 have rC:=kW;have hno:=gK h hC.sm.pos;have hnw:=rU h hC.sm.pos;rw[hC.sm.hd]at hnw;obtain⟨k,hk⟩:=hC.sm.ix t;have hkl:=hk.lt;obtain⟨cap,F⟩:=h.facts;have c0:=F.c0;have pl:=F.pl;have pg:=F.pg;have vk:=F.own;have Ku:=F.obj;clear F;have h1:¬(t<now):=by omega
 have h2:¬(1099511627776<t):=by omega
 have h3:(t == now)=false:=beq_eq_false_iff_ne.2 (by omega);have hwv:IntKind.i64.wrap (aX+1)=aX+1:=IntWalk.i64_in _ (by omega);have OY:Hid (∀L':List (Int×Int),L'=(L.drop k).set 0 (t,tV (L.drop k) 0)→Can L' t f∧L'.length≤L.length∧0<L'.length):=by
  rintro L' rfl;have hdl:(L.drop k).length=L.length-k:=List.length_drop;have hd0:0<(L.drop k).length:=by omega
  have gD:∀m,tA (L.drop k) m=tA L (m+k)∧tV (L.drop k) m=tV L (m+k):=fun m=>by
   unfold tA tV;rw[List.getD_eq_getElem?_getD,List.getD_eq_getElem?_getD,List.getElem?_drop,Nat.add_comm];exact⟨rfl,rfl⟩
  refine⟨hC.later hk (by omega) (by omega) (by rw[List.length_set];exact hdl) ?_ (fun m hm0=>?_) (fun m=>?_),by rw[List.length_set];omega,by rw[List.length_set];omega⟩
  ·unfold tA;rw[List.getD_eq_getElem?_getD,List.getElem?_set_self hd0];rfl
  ·rw[←(gD m).1];unfold tA;rw[List.getD_eq_getElem?_getD,List.getD_eq_getElem?_getD,List.getElem?_set,qai (by omega)]
  ·rw[OW hd0,←(gD m).2];split
   ·rename_i e;subst e;rfl
   ·rfl
 replace hk:=qae hk;go_enter func265,ntmps265;go_wp2_with (first|(go_at_call 75;go_must (refine hno.mono ?_);rintro e w' ⟨rfl,rfl⟩)|(go_at_call 45;go_must (refine hnw.mono ?_);rintro e w' ⟨rfl,rfl⟩));refine Reg2.vo 9 44 (Reg2.rows 0 [.p 0,.p 0,.p 2,.p 6,.p 14,.p 0,.p 0,.p 96,.p 254]) [0,0,0,0,1,0,0,2,3]
  [.pure,.pure,.pure,.pure,.mU (.slice (some ⟨g,0,none⟩) L.length cap),.pure,.pure,.pinned Unit () (fun _=>.int .i64 k) (fun _ _=>True),.major Unit () (fun _=>.slice (some ⟨g,0,none⟩) (L.length-k) cap)]
  (fun W=>Off g g w W) (Ky w g L k cap) (fun W W'=>Off g g W W') (by kernel_rfl) (by kernel_rfl) rfl rfl Ky.ext ?_ ?_ ?_ ?_ ?_ ?_
 ·intro a b he hb;exact hb.sM he
 ·intro a b hg hb;exact hb.trans hg (.inl rfl)
 ·refine⟨trivial,trivial,trivial,trivial,⟨?_,?_⟩,trivial,trivial,⟨?_,?_⟩,trivial,trivial⟩
  all_goals(intro x a b hk hx;exact trivial)
 ·exact(Off.refl _ _ _).drew
 ·exact qac.drew
 dsimp only[Reg2.rows,Reg2.mk,List.zip,List.zipWith,List.take]
 repeat(refine' Reg2.ak _ (by rfl) (fun wz=>?_) ?_;rotate_left;(go_simp;first|rfl|rw[qai (by omega)]);simp only[Act.put,xA,xB,xC];(try simp only[xD]);(try simp only[xE]))
 refine Reg2.pm (fun wz hI hF=>?_) (fun x4=>?_) (by rfl)
 ·have d0:wz.cell? ⟨p,0,none⟩=_:=(hI.cell (a:=⟨p,0,none⟩) pl pg pg).trans c0;go_wp2_with fail;exact⟨_,rfl,⟨(),rfl,trivial⟩,qad⟩
 simp only[Act.put,xA,xB,xC,xD,xE,id]
 repeat(refine' Reg2.ak _ (by rfl) (fun wz=>?_) ?_;rotate_left;(go_simp;first|rfl|rw[qai (by omega)]);simp only[Act.put,xA,xB,xC];(try simp only[xD]);(try simp only[xE]))
 refine Reg2.pp (fun wz hI hS hF=>?_) (fun x7=>?_) (by rfl)
 ·have hS1:Below w.heap.size w wz:=hS;go_wp2_with (go_at_call 131;go_must (refine(Ak t hk.out hC.sm hl (h.kept hS1)).mono ?_);rintro e w1 ⟨rfl,DW⟩);exact⟨_,rfl,⟨(),rfl,trivial⟩,DW⟩
 simp only[Act.put,xA,xB,xC,xD,xE,id];refine Reg2.pj (fun wz hI hS hF=>?_) (fun x8=>?_) (by rfl)
 ·have hS1:Below w.heap.size w wz:=hS;go_wp2_with (go_at_call 230;go_must (refine(TK k (ed vk hS1) hl (Nat.le_of_lt hkl)).mono ?_);rintro e w5 ⟨rfl,XH,TE⟩);exact⟨_,rfl,⟨⟨(),rfl⟩,XH,(Off.of_below hS1).trans TE (.inl rfl)⟩,TE⟩
 simp only[Act.put,xA,xB,xC,xD,xE,id];refine Reg2.aD ?_;intro w3 HI3 Dw _;obtain⟨ho3,uM⟩:=Dw;have hp3:=Ku;rw[←uM.block p pl pg pg]at hp3;have d0:w3.cell? ⟨p,0,none⟩=_:=(uM.cell (a:=⟨p,0,none⟩) pl pg pg).trans c0;have dz:w3.frozen? ⟨p,0,none⟩=false:=by simp[World.frozen?,hp3]
 obtain⟨w4,hw4⟩:=qaa (w3.setCell ⟨p,0,none⟩ (.slice (some ⟨g,0,none⟩) (L.length-k) cap));have XL:PW w4 p g (L.drop k) aX:=by
  rw[hw4];have:=Im (L':=L.drop k) hp3 (cap':=cap) (g':=g) (by rw[List.length_drop];exact ho3);rw[List.length_drop]at this;exact this
 have uL:Off p g w w4:=by rw[hw4];exact uM.mono.setCell (.inl rfl)
 have hd0:0<(L.drop k).length:=by rw[List.length_drop];omega
 have VR:=TL t XL hd0;have tu:=uL.setCell (j:=0) (v:=.int .i64 t) (.inr (.inl rfl));obtain⟨cap4,F4⟩:=XL.facts;have k0:=F4.c0;have s0:=(step_cells F4.own hd0).1;have z0:=F4.own.frozenAt 0;rw[Nat.zero_mul]at s0;obtain⟨w5,DU⟩:=qaa (w4.setCell ⟨g,0,none⟩ (.int .i64 t));rw[←DU]at VR tu;obtain⟨cap5,F5⟩:=VR.facts;have k1:=F5.c1;have z1:=F5.fz 1;have Zn:=OZ (aX+1) VR;have TM:=tu.setCell (j:=1) (v:=.int .i64 (aX+1)) (.inl rfl);obtain⟨hc1,hc2,hc3⟩:=OY.out _ rfl;have hfin:Hid (rV w p g L aX now f t (.returned (.int .i64 0)) (w5.setCell ⟨p,1,none⟩ (.int .i64 (aX+1)))):=⟨0,1,t,_,rfl,.inr (.inr ⟨by omega,by omega,rfl,rfl,rfl⟩),Zn,hc1,TM,hc2⟩;have hdp:(0:Int)<((L.drop k).length:Int):=by omega
 obtain⟨nn,hnn⟩:=qaa ((L.drop k).length);obtain⟨xx,Qy⟩:=qaa (tA (L.drop k) 0);rw[←hnn]at k0 hdp;rw[←Qy]at s0;clear HI3 ho3 uM hp3 c0 vk Ku XL uL VR tu F4 F5 Zn TM hc1 hc2 hc3 OY h hnw hno;replace hnn:=qae hnn;replace Qy:=qae Qy;dsimp only[List.drop];show wpList _ _ _ [_,_,_] _ _;subst hw4;subst DU;go_wp2_with fail;go_ret;exact hfin.out
end
structure Pg where
 now:Int
 J:List Jb
 T:List Int
 f:Int→Int
 cl:Bool
def eQ (c t d p:Nat)(v:Value)(g:Nat)(k:Nat):Prop:=k=c∨k=t∨k=d∨k=p∨v.ownBlock=some k∨k=g
def PR (w:World)(p g:Nat)(a:Nat)(m:Int)(now:Int)(f:Int→Int):Prop:=
 ∃S aX,PW w p g S aX∧Can S now f∧S.length≤a∧0≤aX∧aX≤m
structure CW (w : World) (c t d p : Nat) (v : Value) (g : Nat) (a : Nat) (m : Int) (P : Pg) : Prop where
 cell:w.heap[c]? =some (.cells #[.pointer (some ⟨t,0,none⟩),.pointer (some ⟨d,0,none⟩),.pointer (some ⟨p,0,none⟩),.bool true,.bool P.cl] 48 (0,0))
 fZ:TV w t v P.J
 nodes:TW w d P.T
 nZ:PR w p g a m P.now P.f
structure CS (w w' : World) (c t d p : Nat) (v : Value) (g : Nat) (v' : Value) (g' : Nat) : Prop where
 off:aB (eQ c t d p v g) w w'
 grew:aY w (eQ c t d p v g) (eQ c t d p v' g')
section
variable {w w' w1 w2 : World} {c t d p g g' g1 g2 a a' : Nat} {v v' v1 v2 : Value} {m m' : Int} {P : Pg}
theorem CS.refl (w:World):CS w w c t d p v g v g:=⟨aB.refl _ _,aY.refl _ _⟩
theorem CS.of_below (h:Below w.heap.size w w1):CS w w1 c t d p v g v g:=⟨aB.of_below h,aY.refl _ _⟩
theorem CS.trans (h:CS w w1 c t d p v g v1 g1)(h':CS w1 w2 c t d p v1 g1 v2 g2):CS w w2 c t d p v g v2 g2:=
 ⟨h.off.trans h'.off h.grew,h.grew.trans h'.grew h.off.size⟩
theorem CS.heap (h:CS w w1 c t d p v g v1 g1){k:Nat}(hk:k<w.heap.size)(hn:¬eQ c t d p v g k):w1.heap[k]? =w.heap[k]? :=h.off.block k hk hn
theorem PW.at {S:List (Int×Int)}{aX:Int}(h:PW w p g S aX):∃cs,w.heap[p]? =some (.cells cs 125 (0,0)):=by obtain⟨cap,h1,_⟩:=h;exact⟨_,h1⟩
theorem PW.Zo {S:List (Int×Int)}{aX:Int}(h:PW w p g S aX):∃cs,w.heap[g]? =some (.cells cs 58 (0,0)):=by
 obtain⟨cap,_,h2⟩:=h;exact jN h2 rfl
theorem CW.types (h:CW w c t d p v g a m P){k:Nat}(hk:eQ c t d p v g k):∃cs T,w.heap[k]? =some (.cells cs T (0,0))∧
 ((k=c∧T=48)∨(k=t∧T=134)∨(k=d∧T=138)∨(k=p∧T=125)∨(v.ownBlock=some k∧T=55)∨(k=g∧T=58)):=by
 obtain⟨S,aX,hp,_⟩:=h.nZ;rcases hk with rfl|rfl|rfl|rfl|hv|rfl
 ·exact⟨_,_,h.cell,.inl ⟨rfl,rfl⟩⟩
 ·exact⟨_,_,h.fZ.cell,.inr (.inl ⟨rfl,rfl⟩)⟩
 ·exact⟨_,_,h.nodes,.inr (.inr (.inl ⟨rfl,rfl⟩))⟩
 ·obtain⟨cs,h1⟩:=hp.at;exact⟨_,_,h1,.inr (.inr (.inr (.inl ⟨rfl,rfl⟩)))⟩
 ·obtain⟨cs,h1⟩:=jN h.fZ.own hv;exact⟨_,_,h1,.inr (.inr (.inr (.inr (.inl ⟨hv,rfl⟩))))⟩
 ·obtain⟨cs,h1⟩:=hp.Zo;exact⟨_,_,h1,.inr (.inr (.inr (.inr (.inr ⟨rfl,rfl⟩))))⟩
theorem CW.lt (h:CW w c t d p v g a m P){k:Nat}(hk:eQ c t d p v g k):k<w.heap.size:=by
 obtain⟨cs,T,h1,_⟩:=h.types hk;exact ai h1
theorem CW.other (h:CW w c t d p v g a m P){k:Nat}{cs:Array Value}{T:TypeId}{fz:Nat×Nat}(hk:w.heap[k]? =some (.cells cs T fz))(hT:T≠48∧T≠134∧T≠138∧T≠125∧T≠55∧T≠58):¬eQ c t d p v g k:=by
 intro hf;obtain⟨cs',T',h1,h2⟩:=h.types hf;rw[hk]at h1;have e:=(Obj.cells.inj (Option.some.inj h1)).2.1;subst e;obtain⟨a1,a2,a3,a4,a5,a6⟩:=hT;rcases h2 with⟨_,e⟩|⟨_,e⟩|⟨_,e⟩|⟨_,e⟩|⟨_,e⟩|⟨_,e⟩
 ·exact a1 e
 ·exact a2 e
 ·exact a3 e
 ·exact a4 e
 ·exact a5 e
 ·exact a6 e
theorem CW.kept (h:CW w c t d p v g a m P)(hb:Below w.heap.size w w'):CW w' c t d p v g a m P:=by
 obtain⟨S,aX,hp,hrest⟩:=h.nZ;exact⟨(hb.block c (h.lt (.inl rfl))).trans h.cell,h.fZ.kept hb,h.nodes.kept hb,S,aX,hp.kept hb,hrest⟩
theorem CW.wider (h:CW w c t d p v g a m P)(ha:a≤a')(hm:m≤m'):CW w c t d p v g a' m' P:=by
 obtain⟨S,aX,hp,h1,h2,h3,h4⟩:=h.nZ;exact⟨h.cell,h.fZ,h.nodes,S,aX,hp,h1,by omega,h3,by omega⟩
theorem CW.ne (h:CW w c t d p v g a m P):c≠t∧c≠d∧c≠p∧c≠g∧t≠d∧t≠p∧t≠g∧d≠p∧d≠g∧p≠g∧v.ownBlock≠some c∧v.ownBlock≠some t∧v.ownBlock≠some d∧v.ownBlock≠some p∧v.ownBlock≠some g:=by
 obtain⟨S,aX,hp,_⟩:=h.nZ;obtain⟨c1,hp1⟩:=hp.at;obtain⟨c2,hp2⟩:=hp.Zo;have hv:∀k,v.ownBlock=some k→∃cur,w.heap[k]? =some (.cells cur 55 (0,0)):=fun k hk=>jN h.fZ.own hk;have hc:=h.cell;have hj:=h.fZ.cell;have hn:w.heap[d]? =_:=h.nodes;refine⟨Put.bX hc hj (by decide),Put.bX hc hn (by decide),Put.bX hc hp1 (by decide),Put.bX hc hp2 (by decide),Put.bX hj hn (by decide),Put.bX hj hp1 (by decide),Put.bX hj hp2 (by decide),Put.bX hn hp1 (by decide),Put.bX hn hp2 (by decide),Put.bX hp1 hp2 (by decide),?_,?_,?_,?_,?_⟩<;>(intro e;obtain⟨cur,hc1⟩:=hv _ e)
 ·exact Put.bX hc1 hc (by decide) rfl
 ·exact Put.bX hc1 hj (by decide) rfl
 ·exact Put.bX hc1 hn (by decide) rfl
 ·exact Put.bX hc1 hp1 (by decide) rfl
 ·exact Put.bX hc1 hp2 (by decide) rfl
theorem CW.aM (h:CW w c t d p v g a m P){J':List Jb}(ht:TV w' t v' J')(hq:eU t v.ownBlock w w')(hn:fH w v.ownBlock v'.ownBlock):CW w' c t d p v' g a m {P with J:=J'}∧CS w w' c t d p v g v' g:=by
 obtain⟨S,aX,hp,hrest⟩:=h.nZ;obtain⟨n1,n2,n3,n4,n5,n6,n7,n8,n9,n10,n11,n12,n13,n14,n15⟩:=h.ne;have lt:=fun{k:Nat} (hk:eQ c t d p v g k)=>h.lt hk;obtain⟨cap,hp1,hp2⟩:=hp;refine⟨⟨(hq.block c (lt (.inl rfl)) n1 n11).trans h.cell,ht,?_,S,aX,⟨cap,(hq.block p (lt (.inr (.inr (.inr (.inl rfl))))) (Ne.symm n6) n14).trans hp1,bH hp2 fun k hk=>?_⟩,hrest⟩,⟨hq.os,hq.tape,hq.output,hq.size,fun k hk hf=>hq.block k hk (fun e=>hf (.inr (.inl e))) (fun e=>hf (.inr (.inr (.inr (.inr (.inl e))))))⟩,fun k hk=>?_⟩
 ·exact(hq.block d (lt (.inr (.inr (.inl rfl)))) (Ne.symm n5) n13).trans h.nodes
 ·have e:k=g:=by simpa[Value.ownBlock]using hk.symm
  subst e;exact hq.block k (lt (.inr (.inr (.inr (.inr (.inr rfl)))))) (Ne.symm n7) n15
 ·rcases hk with e|e|e|e|e|e
  ·exact .inl (.inl e)
  ·exact .inl (.inr (.inl e))
  ·exact .inl (.inr (.inr (.inl e)))
  ·exact .inl (.inr (.inr (.inr (.inl e))))
  ·rcases hn with hn|⟨q,hq1,hq2⟩
   ·exact .inl (.inr (.inr (.inr (.inr (.inl (hn▸e))))))
   ·rw[hq1]at e;cases e;exact .inr hq2
  ·exact .inl (.inr (.inr (.inr (.inr (.inr e)))))
theorem CW.node (h:CW w c t d p v g a m P){T':List Int}(ht:TW w' d T')(ho:l8 d w w'):CW w' c t d p v g a m {P with T:=T'}∧CS w w' c t d p v g v g:=by
 obtain⟨S,aX,hp,hrest⟩:=h.nZ;obtain⟨n1,n2,n3,n4,n5,n6,n7,n8,n9,n10,n11,n12,n13,n14,n15⟩:=h.ne;obtain⟨cap,hp1,hp2⟩:=hp;refine⟨⟨(ho.block c n2).trans h.cell,⟨(ho.block t n5).trans h.fZ.cell,bH h.fZ.own fun k hk=>ho.block k (fun e=>n13 (e▸hk))⟩,ht,S,aX,⟨cap,(ho.block p (Ne.symm n8)).trans hp1,bH hp2 fun k hk=>?_⟩,hrest⟩,⟨ho.os,ho.tape,ho.output,Nat.le_of_eq ho.size.symm,fun k _ hf=>ho.block k (fun e=>hf (.inr (.inr (.inl e))))⟩,aY.refl _ _⟩;have e:k=g:=by simpa[Value.ownBlock]using hk.symm
 subst e;exact ho.block k (Ne.symm n9)
theorem CW.profile (h:CW w c t d p v g a m P){now':Int}{f':Int→Int}(hp':PR w' p g' a' m' now' f')(ho:Off p g w w')(hg:g'=g∨w.heap.size≤g'):CW w' c t d p v g' a' m' {P with now:=now',f:=f'}∧CS w w' c t d p v g v g':=by
 obtain⟨n1,n2,n3,n4,n5,n6,n7,n8,n9,n10,n11,n12,n13,n14,n15⟩:=h.ne;have lt:=fun{k:Nat} (hk:eQ c t d p v g k)=>h.lt hk;refine⟨⟨(ho.block c (lt (.inl rfl)) n3 n4).trans h.cell,⟨(ho.block t (lt (.inr (.inl rfl))) n6 n7).trans h.fZ.cell,bH h.fZ.own fun k hk=>ho.block k (lt (.inr (.inr (.inr (.inr (.inl hk)))))) (fun e=>n14 (e▸hk)) (fun e=>n15 (e▸hk))⟩,(ho.block d (lt (.inr (.inr (.inl rfl)))) n8 n9).trans h.nodes,hp'⟩,⟨ho.os,ho.tape,ho.output,ho.size,fun k hk hf=>ho.block k hk (fun e=>hf (.inr (.inr (.inr (.inl e))))) (fun e=>hf (.inr (.inr (.inr (.inr (.inr e))))))⟩,fun k hk=>?_⟩;rcases hk with e|e|e|e|e|e
 ·exact .inl (.inl e)
 ·exact .inl (.inr (.inl e))
 ·exact .inl (.inr (.inr (.inl e)))
 ·exact .inl (.inr (.inr (.inr (.inl e))))
 ·exact .inl (.inr (.inr (.inr (.inr (.inl e)))))
 ·rcases hg with hg|hg
  ·exact .inl (.inr (.inr (.inr (.inr (.inr (e.trans hg))))))
  ·exact .inr (e▸hg)
theorem CW.close (h:CW w c t d p v g a m P):CW (w.setCell ⟨c,4,none⟩ (.bool true)) c t d p v g a m {P with cl:=true}∧CS w (w.setCell ⟨c,4,none⟩ (.bool true)) c t d p v g v g:=by
 obtain⟨S,aX,hp,hrest⟩:=h.nZ;obtain⟨n1,n2,n3,n4,n5,n6,n7,n8,n9,n10,n11,n12,n13,n14,n15⟩:=h.ne;obtain⟨cap,hp1,hp2⟩:=hp;have blk:∀k,k≠c→(w.setCell ⟨c,4,none⟩ (.bool true)).heap[k]? =w.heap[k]? :=fun k hk=>Below.heap_setCell w ⟨c,4,none⟩ _ k hk;refine⟨⟨?_,⟨(blk t (Ne.symm n1)).trans h.fZ.cell,bH h.fZ.own fun k hk=>blk k (fun e=>n11 (e▸hk))⟩,(blk d (Ne.symm n2)).trans h.nodes,S,aX,⟨cap,(blk p (Ne.symm n3)).trans hp1,bH hp2 fun k hk=>?_⟩,hrest⟩,⟨rfl,rfl,rfl,by simp,fun k _ hf=>blk k (fun e=>hf (.inl e))⟩,aY.refl _ _⟩
 ·have hlt:=h.lt (.inl rfl);have hc:=h.cell;have h1:w.heap[c]=_:=(Array.getElem?_eq_some_iff.1 hc).2;simp[World.setCell,hlt,Array.getElem_modify,h1]
 ·have e:k=g:=by simpa[Value.ownBlock]using hk.symm
  subst e;exact blk k (Ne.symm n4)
theorem CW.c0 (h:CW w c t d p v g a m P):w.cell? ⟨c,0,none⟩=some (.pointer (some ⟨t,0,none⟩)):=by simp[World.cell?,h.cell]
theorem CW.c1 (h:CW w c t d p v g a m P):w.cell? ⟨c,1,none⟩=some (.pointer (some ⟨d,0,none⟩)):=by simp[World.cell?,h.cell]
theorem CW.c2 (h:CW w c t d p v g a m P):w.cell? ⟨c,2,none⟩=some (.pointer (some ⟨p,0,none⟩)):=by simp[World.cell?,h.cell]
theorem CW.c3 (h:CW w c t d p v g a m P):w.cell? ⟨c,3,none⟩=some (.bool true):=by simp[World.cell?,h.cell]
theorem CW.c4 (h:CW w c t d p v g a m P):w.cell? ⟨c,4,none⟩=some (.bool P.cl):=by simp[World.cell?,h.cell]
theorem CW.fz (h:CW w c t d p v g a m P)(j:Nat):w.frozen? ⟨c,j,none⟩=false:=by simp[World.frozen?,h.cell]
end
section
variable {w w' w1 w2 : World} {c t d p g a : Nat} {v : Value} {m : Int} {P : Pg}
structure PK (P : Pg) : Prop where
 now:0≤P.now∧P.now≤1099511627776
 few:P.J.length≤900
 st:∀j∈P.J,1≤j.st∧j.st≤6
 lim:∀j∈P.J,1≤j.lim∧j.lim≤1048576
 uN:jK P.T
 f:∀t,P.now≤t→0≤P.f t∧P.f t≤64
def gy (w:World)(c t d p:Nat)(v:Value)(g a:Nat)(m:Int)(r:Value)(P':Pg)(e:Ending)(w':World):Prop:=
 e=.returned r∧∃v' g',CW w' c t d p v' g' a m P'∧CS w w' c t d p v g v' g'
theorem Au (h:CW w c t d p v g a m P){x y n:Int}{e:Ending}{S:List (Int×Int)}{aX:Int}(hl:S.length≤a)(hv0:0≤aX)(hv:aX≤m)(hp:dH w p g S aX P.now P.f x y n e w')(F:Int→Int)
 (hxy:x<y) (hy:y≤1152921504606846976) (hn: -64≤n∧n≤64) (hF:∀t,P.now≤t→F t=P.f t+had (max x P.now) y n t) (hr:∀t,P.now≤t→0≤F t∧F t≤64):
 gy w c t d p v g (a+2) (m+1) (.int .i64 0) {P with f:=F} e w':=by
 obtain⟨r,dv,f',g',L',rfl,hA,hP,hC,hg,ho,hlen⟩:=hp;have key:r=0∧(∀t,P.now≤t→f' t=F t)∧0≤dv∧dv≤1:=by
  rcases hA with⟨h1,_⟩|⟨_,h2,rfl,rfl,rfl⟩|⟨_,_,⟨u,h3,h4,h5⟩,_⟩|⟨_,_,_,rfl,rfl,rfl⟩
  ·omega
  ·refine⟨rfl,fun t ht=>?_,by omega,by omega⟩;rw[hF t ht];have e0:had (max x P.now) y n t=0:=by
    rcases h2 with h2|h2
    ·unfold had;rw[qai];rintro⟨h3,h4⟩;have hy0:y≤P.now:=by omega
     rcases h4 with h4|h4
     ·omega
     ·have:=hC.sm.top 0 hC.sm.pos;rw[hC.sm.hd]at this;omega
    ·unfold had;rw[h2];split<;>rfl
   omega
  ·exfalso;have h6:=hF u (by omega);have h7:had (max x P.now) y n u=n:=by unfold had;rw[qaj ⟨h3,.inl h4⟩]
   have h8:=hr u (by omega);omega
  ·exact⟨rfl,fun t ht=>(hF t ht).symm,by omega,by omega⟩
 obtain⟨rfl,hf,d1,d2⟩:=key;obtain⟨hC2,hS⟩:=h.profile (now':=P.now) (f':=F) (a':=a+2) (m':=m+1) ⟨L',aX+dv,hP,hC.congr hf,by omega,by omega,by omega⟩ ho hg;exact⟨rfl,v,g',hC2,hS⟩
theorem wH (h:CW w c t d p v g a m P)(hk:PK P)(ha:a≤800)(hm:m≤1000000)(x y n:Int)(F:Int→Int)(hxy:x<y)(hy:y≤1152921504606846976)(hn:0≤n∧n≤64)
 (hF:∀t,P.now≤t→F t=P.f t+had (max x P.now) y n t) (hr:∀t,P.now≤t→0≤F t∧F t≤64):
 Calls prog 200 #[.pointer (some ⟨p,0,none⟩),.agg #[.int .i64 x,.int .i64 y,.int .i64 n]] w (gy w c t d p v g (a+2) (m+1) (.int .i64 0) {P with f:=F}):=by
 obtain⟨S,aX,hp,hC,hl,h0,h1⟩:=h.nZ;exact(Ir x y n hn hC hk.now.1 hk.f ⟨h0,by omega⟩ (by omega) hp).mono fun e w2 hq=>Au h hl h0 h1 hq F hxy hy (by omega) hF hr
theorem Kz (h:CW w c t d p v g a m P)(hk:PK P)(ha:a≤800)(hm:m≤1000000)(x y n:Int)(F:Int→Int)(hxy:x<y)(hy:y≤1152921504606846976)(hn:0≤n∧n≤64)
 (hF:∀t,P.now≤t→F t=P.f t+had (max x P.now) y (-n) t) (hr:∀t,P.now≤t→0≤F t∧F t≤64):
 Calls prog 202 #[.pointer (some ⟨p,0,none⟩),.agg #[.int .i64 x,.int .i64 y,.int .i64 n]] w (gy w c t d p v g (a+2) (m+1) (.int .i64 0) {P with f:=F}):=by
 obtain⟨S,aX,hp,hC,hl,h0,h1⟩:=h.nZ;exact(Iq x y n hn hC hk.now.1 hk.f ⟨h0,by omega⟩ (by omega) hp).mono fun e w2 hq=>Au h hl h0 h1 hq F hxy hy (by omega) hF hr
theorem O0 (h:CW w c t d p v g a m P)(hk:PK P)(ha:a≤800)(hm:m≤1000000)(x y n:Int)(F:Int→Int)(hxy:x<y)(hy:y≤1152921504606846976)(hn: -64≤n∧n≤64)
 (hF:∀t,P.now≤t→F t=P.f t+had (max x P.now) y n t) (hr:∀t,P.now≤t→0≤F t∧F t≤64):
 Calls prog 132 #[.pointer (some ⟨p,0,none⟩),.int .i64 x,.int .i64 y,.int .i64 n] w (gy w c t d p v g (a+2) (m+1) (.int .i64 0) {P with f:=F}):=by
 obtain⟨S,aX,hp,hC,hl,h0,h1⟩:=h.nZ;exact(Bv x y n hC hk.now.1 hk.f ⟨h0,by omega⟩ (by omega) hp).mono fun e w2 hq=>Au h hl h0 h1 hq F hxy hy hn hF hr
theorem Bz (h:CW w c t d p v g a m P)(hk:PK P)(ha:a≤800)(hm:m≤1000000)(x:Int)(h1:P.now≤x)(h2:x≤1099511627776):
 Calls prog 265 #[.pointer (some ⟨p,0,none⟩),.int .i64 x] w (gy w c t d p v g a (m+1) (.int .i64 0) {P with now:=x}):=by
 obtain⟨S,aX,hp,hC,hl,v0,v1⟩:=h.nZ;have fin:∀{e:Ending} {w2:World},rV w p g S aX P.now P.f x e w2→gy w c t d p v g a (m+1) (.int .i64 0) {P with now:=x} e w2:=by
  rintro e w2 ⟨r,dv,now',L',rfl,hA,hP,hC2,ho,hlen⟩;have key:r=0∧now'=x∧0≤dv∧dv≤1:=by unfold WA at hA;omega
  obtain⟨rfl,rfl,d1,d2⟩:=key;obtain⟨a1,a2⟩:=h.profile (now':=now') (f':=P.f) (g':=g) (a':=a) (m':=m+1) ⟨L',aX+dv,hP,hC2,by omega,by omega,by omega⟩ ho (.inl rfl);exact⟨rfl,v,g,a1,a2⟩
 rcases Int.lt_or_eq_of_le h1 with h3|h3
 ·exact(VQ x hC hp ⟨v0,by omega⟩ (by omega) h3 h2).mono fun e w2 hq=>fin hq
 ·subst h3;exact(Qx hC hp h2).mono fun e w2 hq=>fin hq
theorem il (h:CW w c t d p v g a m P):Calls prog 45 #[.pointer (some ⟨p,0,none⟩)] w fun e w'=>e=.returned (.int .i64 P.now)∧w=w':=by
 obtain⟨S,aX,hp,hC,_⟩:=h.nZ;have:=rU hp hC.sm.pos;rw[hC.sm.hd]at this;exact this
theorem rW (h:CW w c t d p v g a m P){e0 id:Int}{ok:Jb→Bool}{ch:Jb→Jb}{e:Ending}(hp:nu w t v P.J e0 id ok ch e w'):gy w c t d p v g a m (.int .i64 (cu P.J e0 id ok)) {P with J:=dJ P.J e0 id ok ch} e w':=by
 obtain⟨rfl,h1,h2⟩:=hp;obtain⟨a1,a2⟩:=h.aM h1 h2 (.inl rfl);exact⟨rfl,v,g,a1,a2⟩
theorem FW (h:CW w c t d p v g a m P)(id:Int):Calls prog 235 #[.pointer (some ⟨t,0,none⟩),.int .i64 id] w (gy w c t d p v g a m (.int .i64 (cu P.J 0 id fun j:Jb=>decide (j.state=1))) {P with J:=dJ P.J 0 id (fun j:Jb=>decide (j.state=1)) sW}):=
 (Te h.fZ id).mono fun _ _ hp=>rW h hp
theorem FX (h:CW w c t d p v g a m P)(id:Int):Calls prog 237 #[.pointer (some ⟨t,0,none⟩),.int .i64 id] w (gy w c t d p v g a m (.int .i64 (cu P.J 0 id fun j:Jb=>decide (j.state=2))) {P with J:=dJ P.J 0 id (fun j:Jb=>decide (j.state=2)) rH}):=
 (J3 h.fZ id).mono fun _ _ hp=>rW h hp
theorem FY (h:CW w c t d p v g a m P)(id x:Int):Calls prog 134 #[.pointer (some ⟨t,0,none⟩),.int .i64 id,.int .i64 x] w (gy w c t d p v g a m (.int .i64 (cu P.J (jk x) id fun j:Jb=>decide (j.state=1))) {P with J:=dJ P.J (jk x) id (fun j:Jb=>decide (j.state=1)) (mY x)}):=
 (Tf h.fZ id x).mono fun _ _ hp=>rW h hp
theorem Nk (h:CW w c t d p v g a m P)(hk:PK P)(id x n:Int):Calls prog 133 #[.pointer (some ⟨t,0,none⟩),.int .i64 id,.int .i64 x,.int .u64 n] w (gy w c t d p v g a m (.int .i64 (cu P.J (iE x) id fun j:Jb=>decide (j.state=1))) {P with J:=dJ P.J (iE x) id (fun j:Jb=>decide (j.state=1)) (nR x n)}):=
 (P6 h.fZ id x n hk.lim).mono fun _ _ hp=>rW h hp
theorem wI (h:CW w c t d p v g a m P)(hk:PK P)(id s x:Int):Calls prog 135 #[.pointer (some ⟨t,0,none⟩),.int .i64 id,.int .i64 s,.int .i64 x] w (gy w c t d p v g a m (.int .i64 (cu P.J (bS s x) id (gq s))) {P with J:=dJ P.J (bS s x) id (gq s) (df s x)}):=
 (MK h.fZ id s x hk.st).mono fun _ _ hp=>rW h hp
theorem sN (h:CW w c t d p v g a m P)(hk:PK P)(r:Rq):Calls prog 138 #[.pointer (some ⟨t,0,none⟩),.agg (encR r).toArray] w (gy w c t d p v g a m (.tuple #[.int .i64 (nQ P.J r),.int .i64 (kz P.J r)]) {P with J:=sJ P.J r}):=
 (MG h.fZ hk.st hk.few r).mono fun _ _ hp=>by
  obtain⟨rfl,v',h1,h2,h3⟩:=hp;obtain⟨a1,a2⟩:=h.aM h1 h2 h3;exact⟨rfl,v',g,a1,a2⟩
theorem Qz (h:CW w c t d p v g a m P)(hk:PK P)(n:Int)(hn: -9223372036854775808≤n∧n≤9223372036854775807):Calls prog 116 #[.pointer (some ⟨d,0,none⟩),.int .i64 n] w fun e w'=>∃(s:Nat) (x:Int) (T':List Int),tq P.T n s x T'∧jK T'∧gy w c t d p v g a m (.tuple #[.int .u64 s,.int .i64 x]) {P with T:=T'} e w':=
 (Qp n hn h.nodes hk.uN).mono fun _ _ hp=>by
  obtain⟨ho,s,x,l',rfl,h1,h2,h3,h4⟩:=hp;obtain⟨a1,a2⟩:=h.node h2 ho;exact⟨s,x,l',h1,h3,rfl,v,g,a1,a2⟩
theorem FZ (h:CW w c t d p v g a m P)(hk:PK P)(u:Nat)(hu:u<18446744073709551616):Calls prog 137 #[.pointer (some ⟨d,0,none⟩),.int .u64 u] w fun e w'=>∃(n x:Int) (T':List Int),DJ P.T u n x T'∧jK T'∧gy w c t d p v g a m (.tuple #[.int .i64 n,.int .i64 x]) {P with T:=T'} e w':=
 (Qq u hu h.nodes hk.uN).mono fun _ _ hp=>by
  obtain⟨ho,n,x,l',rfl,h1,h2,h3,h4⟩:=hp;obtain⟨a1,a2⟩:=h.node h2 ho;exact⟨n,x,l',h1,h3,rfl,v,g,a1,a2⟩
theorem Nl (h:CW w c t d p v g a m P)(hk:PK P)(n:Int)(hn: -9223372036854775808≤n∧n≤9223372036854775807):Calls prog 136 #[.pointer (some ⟨d,0,none⟩),.int .i64 n] w fun e w'=>∃(x:Int) (T':List Int),oV P.T n true x T'∧jK T'∧gy w c t d p v g a m (.int .i64 x) {P with T:=T'} e w':=
 (M0 n hn h.nodes hk.uN).mono fun _ _ hp=>by
  obtain⟨ho,x,l',rfl,h1,h2,h3,h4⟩:=hp;obtain⟨a1,a2⟩:=h.node h2 ho;exact⟨x,l',h1,h3,rfl,v,g,a1,a2⟩
theorem KA (h:CW w c t d p v g a m P)(hk:PK P)(n:Int)(hn: -9223372036854775808≤n∧n≤9223372036854775807):Calls prog 240 #[.pointer (some ⟨d,0,none⟩),.int .i64 n] w fun e w'=>∃(x:Int) (T':List Int),oV P.T n false x T'∧jK T'∧gy w c t d p v g a m (.int .i64 x) {P with T:=T'} e w':=
 (Ki n hn h.nodes hk.uN).mono fun _ _ hp=>by
  obtain⟨ho,x,l',rfl,h1,h2,h3,h4⟩:=hp;obtain⟨a1,a2⟩:=h.node h2 ho;exact⟨x,l',h1,h3,rfl,v,g,a1,a2⟩
end
def dM (M:Md):List Int:=(List.range M.dr.length).map fun k:Nat=>aK M (k:Int)
def au (M:Md):Pg:=⟨M.now,M.L,dM M,fun t=>aF M t 0,M.cl⟩
section
variable {M : Md}
theorem bP :(dM M).length=M.dr.length:=by simp[dM]
theorem dN (i:Nat):(dM M).getD i 0=aK M (i:Int):=by
 by_cases h:i<M.dr.length
 ·simp[dM,List.getD_eq_getElem?_getD,h]
 ·rw[jI h];simp[dM,List.getD_eq_getElem?_getD,h]
theorem ES {n:Nat}(hn:n<M.dr.length):1≤aK M n∧aK M n≤4:=by
 rw[gp hn];split<;>split<;>omega
theorem rX {l l':List Int}(h1:l.length=l'.length)(h2:∀i,i<l.length→l.getD i 0=l'.getD i 0):l=l':=by
 refine List.ext_getElem h1 fun i a b=>?_;have:=h2 i a;simpa[List.getD_eq_getElem?_getD,a,b]using this
theorem Iu {M':Md}{l:List Int}(h1:l.length=M'.dr.length)(h2:∀i,i<l.length→l.getD i 0=aK M' (i:Int)):l=dM M':=
 rX (by rw[bP,h1]) fun i hi=>by rw[h2 i hi,dN]
theorem zz (h:aS M)(h1:1≤M.dr.length):jK (dM M):=
 ⟨by rw[bP];exact h1,by rw[bP];exact h.mb.nn,fun i hi=>by rw[dN];exact ES (by rw[bP]at hi;exact hi)⟩
theorem gL (h:aS M)(h1:1≤M.dr.length)(h2:M.L.length≤900):PK (au M):=
 ⟨h.mb.now,h2,fun j hj=>⟨(h.one j hj).2.2.2.1,(h.one j hj).2.2.2.2⟩,fun j hj=>⟨(h.one j hj).2.2.1,(h.mb.lim j hj).2⟩,zz h h1,fun t ht=>⟨h.free t ht,by have:=Da h t;have:=h.mb.nn;show aF M t 0≤64;omega⟩⟩
theorem xq (i:Nat):jy (dM M) i=decide (aK M (i:Int)=1):=by unfold jy;rw[dN]
theorem uO (f:Nat→Bool)(k:Nat):bq f k=(List.range k).countP f:=by
 induction k with
 |zero=>rfl
 |succ k ih=>
  rw[List.range_succ,List.countP_append,List.countP_cons,List.countP_nil,←ih];simp only[bq];split<;>simp_all
theorem Iw (wid:Int)(hw:0≤wid)(k:Nat):(lowGo M wid k).2=min (bq (jy (dM M)) k:Int) wid:=by
 induction k with
 |zero=>show(0:Int)=min (0:Int) wid;omega
 |succ k ih=>
  have e:=xq (M:=M) k;simp only[lowGo];by_cases h1:aK M (k:Int)=1
  ·rw[qag h1]at e;have hc:bq (jy (dM M)) (k+1)=bq (jy (dM M)) k+1:=by simp[bq,e]
   by_cases h2:(lowGo M wid k).2<wid
   ·rw[qaj ⟨h2,h1⟩];show(lowGo M wid k).2+1=_;omega
   ·rw[qai (fun h=>h2 h.1)];omega
  ·rw[qah h1]at e;have hc:bq (jy (dM M)) (k+1)=bq (jy (dM M)) k:=by simp[bq,e]
   rw[qai (fun h=>h1 h.2),hc];exact ih
theorem D5 (wid:Int)(hw:0≤wid)(k n:Nat):dw (lowGo M wid k).1 n=(decide (n<k)&&jC (dM M) wid n):=by
 induction k with
 |zero=>simp[lowGo,dw]
 |succ k ih=>
  have hcond:((lowGo M wid k).2<wid∧aK M (k:Int)=1)↔jC (dM M) wid k=true:=by
   unfold jC;rw[xq,Iw wid hw k];simp only[Bool.and_eq_true,decide_eq_true_eq];constructor
   ·rintro⟨h1,h2⟩;exact⟨h2,by omega⟩
   ·rintro⟨h1,h2⟩;exact⟨by omega,h1⟩
  simp only[lowGo];by_cases h:(lowGo M wid k).2<wid∧aK M (k:Int)=1
  ·rw[qaj h];show dw ((lowGo M wid k).1+2^k) n=_;rw[wY (oH M wid k).1,ih];have ht:=hcond.1 h;by_cases e:n=k
   ·subst e;simp[ht]
   ·have e2:(n<k+1)↔(n<k):=by omega
    simp[e,e2]
  ·rw[qai h,ih];have ht:jC (dM M) wid k=false:=by rw[←Bool.not_eq_true];exact fun h2=>h (hcond.2 h2)
   by_cases e:n=k
   ·subst e;simp[ht]
   ·have e2:(n<k+1)↔(n<k):=by omega
    simp[e2]
theorem Nn (wid:Int)(hw:0≤wid)(hn:M.dr.length≤64):bz (jC (dM M) wid)=jF M wid:=by
 refine mQ (Nat.lt_of_lt_of_le (oH M wid M.dr.length).1 (Nat.pow_le_pow_right (show 0<2 by decide) hn)) fun i hi=>?_;rw[←ni];unfold jF;rw[D5 wid hw];by_cases h:i<M.dr.length
 ·simp[h]
 ·have:jC (dM M) wid i=false:=by
   unfold jC;rw[xq,jI h];simp
  simp[h,this]
theorem Np {i:Nat}(hi:i<M.L.length)(hst:(M.L.getD i default).st≠3)(hn:M.dr.length≤64)(hw:1≤(M.L.getD i default).wid)
 (hidle:(M.L.getD i default).wid≤((List.range M.dr.length).countP fun n:Nat=>decide (aK M n=1):Nat)) {s:Nat} {x:Int} {T':List Int} (h:tq (dM M) (M.L.getD i default).wid s x T'):
 s=jF M (M.L.getD i default).wid∧x=0∧T'=dM (bG M i):=by
 have hc:(M.L.getD i default).wid≤bq (jy (dM M)) (dM M).length:=by
  rw[uO,bP];have e:jy (dM M)=fun n:Nat=>decide (aK M n=1):=funext xq;rw[e];exact hidle
 obtain⟨h1,h2,h3⟩:=h.good hw hc;refine⟨by rw[h1];exact Nn _ (by omega) hn,h2,?_⟩;rw[h3];have hl:(gu (dM M) (M.L.getD i default).wid).length=M.dr.length:=by unfold gu;rw[List.length_mapIdx,bP]
 refine Iu (by rw[hl];rfl) fun k hk=>?_;rw[hl]at hk;unfold gu;rw[qL,qaj (by rw[bP];exact hk),dN,EF hi hst];have hb:dw (jF M (M.L.getD i default).wid) k=jC (dM M) (M.L.getD i default).wid k:=by
  unfold jF;rw[D5 _ (by omega)];simp[hk]
 rw[hb]
theorem F3 (h:aS M){i:Nat}{y:Jb}(hi:i<M.L.length)(hst:(M.L.getD i default).st=3)(hy:y.st≠3){n x:Int}{T':List Int}(hg:DJ (dM M) (M.L.getD i default).bY.toNat n x T'):
 n=((List.range M.dr.length).countP (fun k=>dw (M.L.getD i default).bY.toNat k&& !(M.dr.getD k false)):Nat)∧x=0∧T'=dM {M with L:=M.L.set i y}:=by
 have hmem:=bN hi;have hlt:=(h.runs _ hmem hst).2.2;have hold:∀k:Nat,dw (M.L.getD i default).bY.toNat k=true→k<M.dr.length∧holderL M.L k=i:=fun k hk=>by
  refine⟨?_,xM h.nN hi (by unfold aN;simp[hst,hk,-List.getD_eq_getElem?_getD])⟩;rcases Nat.lt_or_ge k M.dr.length with h1|h1
  ·exact h1
  ·rw[FB hlt h1]at hk;cases hk
 have TN:∀k:Nat,dw (M.L.getD i default).bY.toNat k=true→aK M k=if M.dr.getD k false=true then 3 else 2:=fun k hk=>by
  obtain⟨h1,h2⟩:=hold k hk;rw[gp h1,qaj (by rw[h2];omega)]
 have hin:Ka (dM M) (M.L.getD i default).bY.toNat 2 3 64:=fun k _ hk=>by
  rw[←ni]at hk;refine⟨by rw[bP];exact(hold k hk).1,?_⟩;rw[dN,TN k hk];split
  ·exact .inr rfl
  ·exact .inl rfl
 obtain⟨h1,h2,h3⟩:=hg.good hin;refine⟨?_,h2,?_⟩
 ·rw[h1];unfold rQ;rw[bP];congr 1;refine List.countP_congr fun k _=>?_;rw[←ni,dN];cases hk:dw (M.L.getD i default).bY.toNat k with
  |false=>simp
  |true=>
   rw[TN k hk];cases M.dr.getD k false<;>simp
 ·rw[h3];refine Iu (by rw[List.length_mapIdx,bP]) fun k hk=>?_;rw[List.length_mapIdx]at hk;have hkl:k<M.dr.length:=by rw[bP]at hk;exact hk
  rw[qL,qaj hk,dN,JL h.nN hi hst hy];unfold rP;rw[←ni];cases hh:dw (M.L.getD i default).bY.toNat k with
  |false=>simp
  |true=>
   rw[TN k hh];cases M.dr.getD k false<;>simp[hkl]
theorem KC {k:Nat}(hk:k<M.dr.length){b:Bool}(hb:M.dr.getD k false= !b){x:Int}{T':List Int}(h:oV (dM M) (k:Int) b x T'):x=0∧T'=dM {M with dr:=M.dr.set k b}:=by
 have hd:b=decide ((dM M).getD (k:Int).toNat 0<3):=by
  rw[Int.toNat_natCast,dN,gp hk,hb];cases b<;>(by_cases h1:0≤holderL M.L k<;>simp[h1])
 obtain⟨h1,h2⟩:=h.good (by omega) (by rw[bP];omega) hd;refine⟨h1,?_⟩;rw[h2,Int.toNat_natCast,dN];refine Iu (by rw[List.length_set,bP,List.length_set]) fun q hq=>?_;rw[List.length_set]at hq;rw[nU,dN,EG hk,gp hk,hb];by_cases e:q=k
 ·subst e;rw[qaj ⟨rfl,hq⟩,qaj rfl];unfold mE;cases b<;>(by_cases h1:0≤holderL M.L q<;>simp[h1])
 ·rw[qai (fun h=>e h.1),qai e]
end
open Go.ChangeShapes Go.WideShapes Go.ChangeAt Go.Deep
structure Ry where
 err:Int
 id:Int
 state:Int
 start:Int
 stop:Int
 plan:Int
 a:Int
 b:Int
 c:Int
deriving DecidableEq
def gm (r:Ry):List Value:=[.int .i64 r.err,.int .i64 r.id,.int .i64 r.state,.int .i64 r.start,.int .i64 r.stop,.int .i64 r.plan,.int .i64 r.a,.int .i64 r.b,.int .i64 r.c]
theorem D6 :∀w,Sem.run prog (Go.sizeOf 67) w=.ok 9 w:=sizeOf67
theorem qO (r:Ry):(gm r).length=9:=rfl
theorem F6 (r:Ry):∀v∈gm r,v.oneCell'=true:=by
 intro v hv;simp[gm]at hv;rcases hv with rfl|rfl|rfl|rfl|rfl|rfl|rfl|rfl|rfl<;>rfl
section
end
theorem KD (x y:Ry)(w:World):(Op.equalIn 10000 67 (.agg (gm x).toArray) (.agg (gm y).toArray)).run prog w=.ok (decide (x=y)) w:=by
 have u2:=underlying2;have a2:=isAgg2;have z2:=sizeOf2;have u3:=underlying3;have a3:=isAgg3;have z3:=sizeOf3;have u4:=underlying25;have a4:=isAgg25;have z4:=sizeOf25;have hS:prog.underlying 67=some (.struct (prog.fieldsOf 67)):=by kernel_rfl
 have hp:prog.stoodInHeld 67=false:=by kernel_rfl
 rw[show(10000:Nat)=9999+1 from rfl,run_equalIn_agg w 9999 67 _ _ hS hp];simp only[Program.fieldsOf,underlying67];obtain⟨x1,x2,x3,x4,x5,x6,x7,x8,x9⟩:=x;obtain⟨y1,y2,y3,y4,y5,y6,y7,y8,y9⟩:=y;simp only[gm];go_simp;by_cases h1:x1=y1
 ·by_cases h2:x2=y2
  ·by_cases h3:x3=y3
   ·by_cases h4:x4=y4
    ·by_cases h5:x5=y5
     ·by_cases h6:x6=y6
      ·by_cases h7:x7=y7
       ·by_cases h8:x8=y8
        ·by_cases h9:x9=y9<;>simp[h1,h2,h3,h4,h5,h6,h7,h8,h9]
        ·simp[h1,h2,h3,h4,h5,h6,h7,h8]
       ·simp[h1,h2,h3,h4,h5,h6,h7]
      ·simp[h1,h2,h3,h4,h5,h6]
     ·simp[h1,h2,h3,h4,h5]
    ·simp[h1,h2,h3,h4]
   ·simp[h1,h2,h3]
  ·simp[h1,h2]
 ·simp[h1]
theorem VS (x y:Ry)(w:World):(binOp .eql 67 (.agg (gm x).toArray) (.agg (gm y).toArray)).run prog w=.ok (.bool (decide (x=y))) w:=by
 rw[run_eql_struct,KD];rfl
structure Only (b : Nat) (w w' : World) : Prop where
 os:w'.os=w.os
 tape:w'.tape=w.tape
 output:w'.output=w.output
 size:w'.heap.size=w.heap.size
 block:∀k:Nat,k≠b→w'.heap[k]? =w.heap[k]?
theorem Only.setCell (b off:Nat)(w:World)(v:Value):Only b w (w.setCell ⟨b,off,none⟩ v):=
 ⟨rfl,rfl,rfl,by simp[World.setCell],fun k hk=>Below.heap_setCell _ _ _ _ hk⟩
theorem Only.below {b B:Nat}{w w':World}(h:Only b w w')(hB:B≤b):Below B w w':=
 ⟨h.os,h.tape,h.output,Nat.le_of_eq h.size.symm,fun k hk=>h.block k (by omega)⟩
def D7 :Ry:=⟨0,0,0,0,0,0,0,0,0⟩
def kD (j:Jb):Ry:=⟨0,j.1,j.2.2.2.2.2.1,j.2.2.2.2.2.2.1,j.2.2.2.2.2.2.2.1,j.2.2.2.2.2.2.2.2.1,j.2.2.1,j.2.2.2.2.1,0⟩
section
variable {w : World}
theorem Av (a b c:Int)(w:World):Calls prog 210 #[.int .i64 a,.int .i64 b,.int .i64 c] w fun e w'=>e=.returned (.agg (gm ⟨0,0,0,0,0,0,a,b,c⟩).toArray)∧Below w.heap.size w w':=by
 simp only[gm];go_enter func210,ntmps210;go_wp2_with fail
 (try simp only[Exit.inBlock,Exit.then])
 refine aO rfl rfl rfl (heap_alloc_new w _) underlying67 rfl (by kernel_rfl) ⟨rfl,?_⟩;exact qac.alloc (qaf _) _
theorem TP (q:Int)(w:World):Calls prog 98 #[.int .i64 q] w fun e w'=>e=.returned (.agg (gm ⟨q,0,0,0,0,0,0,0,0⟩).toArray)∧Below w.heap.size w w':=by
 simp only[gm];go_enter func98,ntmps98;go_wp2_with fail
 (try simp only[Exit.inBlock,Exit.then])
 refine aO rfl rfl rfl (heap_alloc_new w _) underlying67 rfl (by kernel_rfl) ⟨rfl,?_⟩;exact qac.alloc (qaf _) _
theorem QA (j:Jb)(w:World):Calls prog 259 #[.agg (ag j).toArray] w fun e w'=>e=.returned (.tuple #[.int .i64 j.2.2.1,.int .i64 j.2.2.2.2.1,.int .i64 0])∧Below w.heap.size w w':=by
 obtain⟨x1,x2,x3,x4,x5,x6,x7,x8,x9,x0⟩:=j;simp only[ag];obtain⟨wB,cO⟩:=qaa (w.alloc (.cells #[.int .i64 x1,.int .i64 x2,.int .i64 x3,.int .i64 x4,.int .i64 x5,.int .i64 x6,.int .i64 x7,.int .i64 x8,.int .i64 x9,.int .u64 x0] 55));have hb1:Hid (Below w.heap.size w wB):=by show Below _ _ _;rw[cO];exact qac.alloc (qaf _) _
 have hA:wB.heap[w.heap.size]? =some (.cells #[.int .i64 x1,.int .i64 x2,.int .i64 x3,.int .i64 x4,.int .i64 x5,.int .i64 x6,.int .i64 x7,.int .i64 x8,.int .i64 x9,.int .u64 x0] 55 (0,0)):=by rw[cO];exact heap_alloc_new w _
 have c2:wB.cell? ⟨w.heap.size,2,none⟩=some (.int .i64 x3):=by simp[World.cell?,hA]
 have c4:wB.cell? ⟨w.heap.size,4,none⟩=some (.int .i64 x5):=by simp[World.cell?,hA]
 clear hA;go_enter func259,ntmps259;go_wp2_with fail;rw[←cO];replace cO:=qae cO;go_region;go_wp2_with fail;go_ret3;exact⟨rfl,hb1.out.drew⟩
end
def ko (w:World)(b:Nat)(r:Ry):Prop:=w.heap[b]? =some (.cells (gm r).toArray 67 (0,0))
theorem ko.at {w:World}{b:Nat}{r:Ry}(h:ko w b r)(j:Nat)(u:Value)(hj:(gm r)[j]? =some u):w.cell? ⟨b,j,none⟩=some u:=by
 simp[World.cell?,show w.heap[b]? =_ from h,hj]
theorem ko.free {w:World}{b:Nat}{r:Ry}(h:ko w b r)(j:Nat):w.frozen? ⟨b,j,none⟩=false:=by simp[World.frozen?,show w.heap[b]? =_ from h]
theorem ko.below {w w':World}{b B:Nat}{r:Ry}(h:ko w b r)(hb:Below B w w')(hB:b<B):ko w' b r:=(hb.block b hB).trans h
theorem ko.store {w:World}{b:Nat}{r:Ry}(h:ko w b r)(x:Ry):Sem.run prog (storeCells ⟨b,0,none⟩ (gm x) 0) w=.ok () (w.setRow b (gm x).toArray)∧ko (w.setRow b (gm x).toArray) b x:=by
 refine⟨?_,setRow_heap w b _ _ _ _ h⟩;have hst:=run_storeCells_at prog b 0 67 (gm x) 0 (gm r).toArray w h (by simp[gm]) (F6 x);simp only[Nat.add_zero]at hst;rw[hst];rfl
theorem ko.put {w:World}{b:Nat}{r r':Ry}(h:ko w b r)(j:Nat)(v:Value)(he:(gm r).toArray.setIfInBounds j v=(gm r').toArray):ko (w.setCell ⟨b,j,none⟩ v) b r':=by
 have:=heap_put (i:=j) h v;rw[he]at this;exact this
theorem ko.other {w:World}{b g j:Nat}{v:Value}{r:Ry}(h:ko w b r)(hg:b≠g):ko (w.setCell ⟨g,j,none⟩ v) b r:=(Below.heap_setCell _ _ _ _ hg).trans h
theorem wJ {B g:Nat}{w0 w:World}(hb:Below B w0 w)(hBg:B≤g)(j:Nat)(u:Value):Below B w0 (w.setCell ⟨g,j,none⟩ u):=hb.trans ((Only.setCell g j w u).below hBg)
theorem um {B g:Nat}{w0 w:World}(hb:Below B w0 w)(hBg:B≤g)(cs:Array Value):Below B w0 (w.setRow g cs):=hb.trans ((⟨rfl,rfl,rfl,by simp,fun k hk=>setRow_other w g k _ hk⟩:Only g w (w.setRow g cs)).below hBg)
theorem KE {w:World}{b:Nat}{x3 x5:Int}(h:ko w b ⟨0,0,0,0,0,0,x3,x5,0⟩)(x1 x6 x7 x8 x9:Int):ko (((((w.setCell ⟨b,1,none⟩ (.int .i64 x1)).setCell ⟨b,2,none⟩ (.int .i64 x6)).setCell ⟨b,3,none⟩ (.int .i64 x7)).setCell ⟨b,4,none⟩ (.int .i64 x8)).setCell ⟨b,5,none⟩ (.int .i64 x9)).drew b ⟨0,x1,x6,x7,x8,x9,x3,x5,0⟩:=by
 have h1:ko (w.setCell ⟨b,1,none⟩ (.int .i64 x1)) b ⟨0,x1,0,0,0,0,x3,x5,0⟩:=h.put 1 _ rfl;have h2:ko ((w.setCell ⟨b,1,none⟩ (.int .i64 x1)).setCell ⟨b,2,none⟩ (.int .i64 x6)) b ⟨0,x1,x6,0,0,0,x3,x5,0⟩:=h1.put 2 _ rfl;clear h h1;generalize (w.setCell ⟨b,1,none⟩ (.int .i64 x1)).setCell ⟨b,2,none⟩ (.int .i64 x6)=W at*;have h3:ko (W.setCell ⟨b,3,none⟩ (.int .i64 x7)) b ⟨0,x1,x6,x7,0,0,x3,x5,0⟩:=h2.put 3 _ rfl;have h4:ko ((W.setCell ⟨b,3,none⟩ (.int .i64 x7)).setCell ⟨b,4,none⟩ (.int .i64 x8)) b ⟨0,x1,x6,x7,x8,0,x3,x5,0⟩:=h3.put 4 _ rfl;clear h2 h3;generalize (W.setCell ⟨b,3,none⟩ (.int .i64 x7)).setCell ⟨b,4,none⟩ (.int .i64 x8)=V at*;exact h4.put 5 _ rfl
theorem VT (j:Jb)(w:World):Calls prog 231 #[.agg (ag j).toArray] w fun e w'=>e=.returned (.agg (gm (kD j)).toArray)∧Below w.heap.size w w':=by
 have hw:=fun W=>QA j W;have ht:=fun W=>Av j.2.2.1 j.2.2.2.2.1 0 W;have lJ:=aA j;have zJ:=bC;obtain⟨k10,hk10⟩:∃k,k=10:=⟨_,rfl⟩;rw[←hk10]at lJ zJ;replace hk10:=qae hk10;obtain⟨wA,aj⟩:=qaa ((w.alloc (.cells (ag j).toArray 55)).alloc (.cells (gm D7).toArray 67));have aC:Hid (Below w.heap.size w wA):=by show Below _ _ _;rw[aj];exact(qac.alloc (qaf _) _).alloc (by simp) _
 have hsA:wA.heap.size=w.heap.size+2:=by rw[aj];simp
 have Jp:wA.heap[w.heap.size]? =some (.cells (ag j).toArray 55 (0,0)):=by rw[aj];exact aJ (heap_alloc_new w _)
 have aH:ko wA (w.heap.size+1) D7:=by rw[aj];exact heap_alloc2_new w _ _
 have ld:=bJ (k:=k10) Jp lJ;rw[aj]at ld;replace hsA:=qae hsA;obtain⟨x1,x2,x3,x4,x5,x6,x7,x8,x9,x0⟩:=j;simp only[ag,gm,D7,kD]at*;go_enter func231,ntmps231;go_wp2_with fail;go_at_call 259;refine(hw _).mono ?_;rw[←aj];rintro e w1 ⟨rfl,hb1⟩;clear hw ld;go_wp2_with fail;go_at_call 210;refine(ht _).mono ?_;rintro e w2 ⟨rfl,hb2⟩;clear ht;obtain⟨w3,hw3⟩:=qaa (w2.alloc (.cells #[.int .i64 0,.int .i64 0,.int .i64 0,.int .i64 0,.int .i64 0,.int .i64 0,.int .i64 x3,.int .i64 x5,.int .i64 0] 67));have hb3:Below wA.heap.size wA w3:=by rw[hw3];exact(hb1.trans (hb2.mono hb1.size)).alloc (by have:=hb1.size;have:=hb2.size;omega) _
 have hJ3:w3.heap[w.heap.size]? =some (.cells (ag (x1,x2,x3,x4,x5,x6,x7,x8,x9,x0)).toArray 55 (0,0)):=(hb3.block _ (ai Jp)).trans Jp;have gz:ko w3 (w.heap.size+1) D7:=aH.below hb3 (ai aH);have pW:ko w3 w2.heap.size ⟨0,0,0,0,0,0,x3,x5,0⟩:=by rw[hw3];exact heap_alloc_new w2 _
 have hs2:Hid (wA.heap.size≤w2.heap.size):=by show _≤_;have:=hb1.size;have:=hb2.size;omega
 have j0:w3.cell? ⟨w.heap.size,0,none⟩=some (.int .i64 x1):=by simp[World.cell?,hJ3,ag]
 have j5:w3.cell? ⟨w.heap.size,5,none⟩=some (.int .i64 x6):=by simp[World.cell?,hJ3,ag]
 have j6:w3.cell? ⟨w.heap.size,6,none⟩=some (.int .i64 x7):=by simp[World.cell?,hJ3,ag]
 have j7:w3.cell? ⟨w.heap.size,7,none⟩=some (.int .i64 x8):=by simp[World.cell?,hJ3,ag]
 have j8:w3.cell? ⟨w.heap.size,8,none⟩=some (.int .i64 x9):=by simp[World.cell?,hJ3,ag]
 have t1:=pW.at 1 (.int .i64 0) rfl;have t2:=pW.at 2 (.int .i64 0) rfl;have t3:=pW.at 3 (.int .i64 0) rfl;have t4:=pW.at 4 (.int .i64 0) rfl;have t5:=pW.at 5 (.int .i64 0) rfl;have f1:=pW.free 1;have f2:=pW.free 2;have f3:=pW.free 3;have f4:=pW.free 4;have f5:=pW.free 5;have hne:¬w.heap.size=w2.heap.size:=by have:=ai Jp;have:=hs2.out;omega
 replace hJ3:=qae hJ3;replace gz:=qae gz;replace pW:=qae pW;replace hb3:=qae hb3;clear hb1 hb2 Jp aH;go_wp2_with fail;rw[←hw3];replace hw3:=qae hw3;replace aj:=qae aj;go_region;obtain⟨w6,zw⟩:=qaa ((((((w3.setCell ⟨w2.heap.size,1,none⟩ (.int .i64 x1)).setCell ⟨w2.heap.size,2,none⟩ (.int .i64 x6)).setCell ⟨w2.heap.size,3,none⟩ (.int .i64 x7)).setCell ⟨w2.heap.size,4,none⟩ (.int .i64 x8)).setCell ⟨w2.heap.size,5,none⟩ (.int .i64 x9)).drew);have hs3:w.heap.size+2≤w2.heap.size:=by have:=hs2.out;have:=hsA.out;omega
 have BU:ko w6 w2.heap.size ⟨0,x1,x6,x7,x8,x9,x3,x5,0⟩:=by
  rw[zw];exact KE pW.out x1 x6 x7 x8 x9
 have P7:ko w6 (w.heap.size+1) D7:=by
  rw[zw];exact((((gz.out.other (by omega)).other (by omega)).other (by omega)).other (by omega)).other (by omega)
 have hb6:Hid (Below w.heap.size w w6):=by
  show Below _ _ _;rw[zw];exact(wJ (wJ (wJ (wJ (wJ (aC.out.trans (hb3.out.mono (by have:=hsA.out;omega))) (by omega) 1 _) (by omega) 2 _) (by omega) 3 _) (by omega) 4 _) (by omega) 5 _).drew
 rw[←zw];clear zw;have zR:=D6;obtain⟨k9,bB⟩:∃k,k=9:=⟨_,rfl⟩;rw[←bB]at zR;replace bB:=qae bB;have ld:=bJ (k:=k9) BU (by rw[bB.out];rfl);obtain⟨hst,KF⟩:=P7.store ⟨0,x1,x6,x7,x8,x9,x3,x5,0⟩;have iH:Hid (Below w.heap.size w (w6.setRow (w.heap.size+1) (gm ⟨0,x1,x6,x7,x8,x9,x3,x5,0⟩).toArray)):=um hb6.out (by omega) _;have hlY:(gm ⟨0,x1,x6,x7,x8,x9,x3,x5,0⟩).length=k9:=by rw[bB.out];rfl
 have heY:Hid (#[.int .i64 0,.int .i64 x1,.int .i64 x6,.int .i64 x7,.int .i64 x8,.int .i64 x9,.int .i64 x3,.int .i64 x5,.int .i64 0]=(gm ⟨0,x1,x6,x7,x8,x9,x3,x5,0⟩).toArray):=rfl;have Zp:Hid ((w6.setRow (w.heap.size+1) (gm ⟨0,x1,x6,x7,x8,x9,x3,x5,0⟩).toArray).heap[w.heap.size+1]? =some (.cells (gm ⟨0,x1,x6,x7,x8,x9,x3,x5,0⟩).toArray 67 (0,0))):=KF;clear P7 BU KF;have hl9:=qae (qO ⟨0,x1,x6,x7,x8,x9,x3,x5,0⟩);generalize gm ⟨0,x1,x6,x7,x8,x9,x3,x5,0⟩=cY at*;go_wp2_with fail
 (try simp only[Exit.inBlock,Exit.then])
 refine aO rfl rfl rfl Zp.out underlying67 rfl ?_ ⟨by rw[heY.out],iH.out⟩;rw[List.size_toArray,hl9.out]
 kernel_rfl
structure Wk where
 ah:Rq
 nC:Int
 fu:Int
 left:Value
 aM:Jb
 idle:Int
 target:Int
 rep:Ry
 ok:Bool
def iF (R:Wk):List Value:=encR R.ah++([.int .i64 R.nC,.int .i64 R.fu,R.left]++(ag R.aM++([.int .i64 R.idle,.int .i64 R.target]++(gm R.rep++[.bool R.ok]))))
def XM :Rq:=⟨0,0,0,0,0,0,false,0,0⟩
def jD :Jb:=(0,0,0,0,0,0,0,0,0,0)
def uP :Ry:=⟨0,0,0,0,0,0,0,0,0⟩
def dm (w:World)(b:Nat)(R:Wk):Prop:=w.heap[b]? =some (.cells (iF R).toArray 190 (0,0))
section
variable {w w' w1 w2 : World} {b c t d p g a g' g1 g2 a' : Nat} {v v' v1 v2 : Value} {m m' : Int} {P P' : Pg} {R R' : Wk}
theorem F7 (R:Wk):(iF R).length=34:=rfl
theorem dm.lt (h:dm w b R):b<w.heap.size:=ai h
theorem dm.at (h:dm w b R)(j:Nat)(u:Value)(hj:(iF R)[j]? =some u):w.cell? ⟨b,j,none⟩=some u:=by
 simp[World.cell?,show w.heap[b]? =_ from h,hj]
theorem dm.free (h:dm w b R)(j:Nat):w.frozen? ⟨b,j,none⟩=false:=by simp[World.frozen?,show w.heap[b]? =_ from h]
theorem dm.put (h:dm w b R)(j:Nat)(u:Value)(he:(iF R).set j u=iF R'):dm (w.setCell ⟨b,j,none⟩ u) b R':=by
 refine(heap_put h u).trans ?_;rw[xA,he]
theorem dm.left (h:dm w b R)(u:Value):dm (w.setCell ⟨b,11,none⟩ u) b {R with left:=u}:=h.put 11 u rfl
theorem dm.idle (h:dm w b R)(n:Int):dm (w.setCell ⟨b,22,none⟩ (.int .i64 n)) b {R with idle:=n}:=h.put 22 _ rfl
theorem dm.target (h:dm w b R)(n:Int):dm (w.setCell ⟨b,23,none⟩ (.int .i64 n)) b {R with target:=n}:=h.put 23 _ rfl
theorem dm.WB (h:dm w b R)(x:Bool):dm (w.setCell ⟨b,33,none⟩ (.bool x)) b {R with ok:=x}:=h.put 33 _ rfl
theorem dm.plan (h:dm w b R)(n:Int):dm (w.setCell ⟨b,20,none⟩ (.int .i64 n)) b {R with aM:=R.aM.aR n}:=h.put 20 _ rfl
theorem zA {w:World}{g:Nat}{cs:Array Value}{t:TypeId}{fr:Nat×Nat}(h:w.heap[g]? =some (.cells cs t fr))(cs':Array Value):(w.setRow g cs').heap[g]? =some (.cells cs' t fr):=by
 simp[World.setRow,Array.getElem?_modify,h]
theorem dm.Iy (h:dm w b R)(x:Ry):Sem.run prog (storeCells ⟨b,24,none⟩ (gm x) 0) w=.ok () (w.setRow b (iF {R with rep:=x}).toArray)∧dm (w.setRow b (iF {R with rep:=x}).toArray) b {R with rep:=x}:=by
 have hst:=run_storeCells_at prog b 24 190 (gm x) 0 (iF R).toArray w h (by simp[F7,qO]) (F6 x);refine⟨hst.trans ?_,zA h _⟩;congr 3
theorem dm.wK (h:dm w b R)(x:Jb):Sem.run prog (storeCells ⟨b,12,none⟩ (ag x) 0) w=.ok () (w.setRow b (iF {R with aM:=x}).toArray)∧dm (w.setRow b (iF {R with aM:=x}).toArray) b {R with aM:=x}:=by
 have hst:=run_storeCells_at prog b 12 190 (ag x) 0 (iF R).toArray w h (by simp[F7,aA]) (dO x);refine⟨hst.trans ?_,zA h _⟩;congr 3
theorem zB {w:World}{g off k:Nat}{all cs:List Value}{t:TypeId}(h:w.heap[g]? =some (.cells all.toArray t (0,0)))(hk:cs.length=k)(hc:∀j u,cs[j]? =some u→all[off+j]? =some u):
 Sem.run prog (loadCellsFrom ⟨g,off,none⟩ 0 k #[]) w=.ok cs.toArray w:=
 run_loadCellsFrom_list prog w _ _ k hk fun j u hj=>by
  rw[Go.WideShapes.add_plain];have:=hc j u hj;simp[World.cell?,h,this]
theorem dm.pX (h:dm w b R){k:Nat}(hk:(encR R.ah).length=k):Sem.run prog (loadCellsFrom ⟨b,0,none⟩ 0 k #[]) w=.ok (encR R.ah).toArray w:=
 zB h hk fun j u hj=>by
  obtain⟨hlt,_⟩:=List.getElem?_eq_some_iff.1 hj;rw[Nat.zero_add];unfold iF;rw[List.getElem?_append_left hlt];exact hj
theorem dm.pY (h:dm w b R){k:Nat}(hk:(ag R.aM).length=k):Sem.run prog (loadCellsFrom ⟨b,12,none⟩ 0 k #[]) w=.ok (ag R.aM).toArray w:=
 zB h hk fun j u hj=>by
  have hlt:j<10:=(List.getElem?_eq_some_iff.1 hj).1;show(encR R.ah++([_,_,_]++(ag R.aM++_)))[12+j]? =_;rw[List.getElem?_append_right (by show 9≤_;omega),List.getElem?_append_right (by show 3≤12+j-9;omega),List.getElem?_append_left (by show 12+j-9-3<10;omega)];have e:12+j-(encR R.ah).length- [Value.int .i64 R.nC,.int .i64 R.fu,R.left].length=j:=by show 12+j-9-3=j;omega
  rw[e];exact hj
def uQ (b c t d p:Nat)(v:Value)(g:Nat)(k:Nat):Prop:=k=b∨eQ c t d p v g k
structure SW (w : World) (b c t d p : Nat) (v : Value) (g a : Nat) (m : Int) (R : Wk) (P : Pg) : Prop where
 wk:dm w b R
 cw:CW w c t d p v g a m P
structure WS (w w' : World) (b c t d p : Nat) (v : Value) (g : Nat) (v' : Value) (g' : Nat) : Prop where
 off:aB (uQ b c t d p v g) w w'
 grew:aY w (uQ b c t d p v g) (uQ b c t d p v' g')
theorem SW.apart (h:SW w b c t d p v g a m R P):¬eQ c t d p v g b:=h.cw.other h.wk (by decide)
theorem WS.refl (w:World):WS w w b c t d p v g v g:=⟨aB.refl _ _,aY.refl _ _⟩
theorem WS.of_below (h:Below w.heap.size w w1):WS w w1 b c t d p v g v g:=⟨aB.of_below h,aY.refl _ _⟩
theorem WS.trans (h:WS w w1 b c t d p v g v1 g1)(h':WS w1 w2 b c t d p v1 g1 v2 g2):WS w w2 b c t d p v g v2 g2:=
 ⟨h.off.trans h'.off h.grew,h.grew.trans h'.grew h.off.size⟩
theorem WS.dU (h:CS w w1 c t d p v g v1 g1):WS w w1 b c t d p v g v1 g1:=
 ⟨⟨h.off.os,h.off.tape,h.off.output,h.off.size,fun k hk hf=>h.off.block k hk fun h2=>hf (.inr h2)⟩,fun k hk=>hk.elim (fun e=>.inl (.inl e)) fun hf=>(h.grew k hf).elim (fun h2=>.inl (.inr h2)) .inr⟩
theorem WS.heap (h:WS w w1 b c t d p v g v1 g1){k:Nat}(hk:k<w.heap.size)(hn:¬uQ b c t d p v g k):w1.heap[k]? =w.heap[k]? :=h.off.block k hk hn
theorem WS.below {B:Nat}(h:WS w w1 b c t d p v g v1 g1)(hS:∀k,uQ b c t d p v g k→B≤k)(hB:B≤w.heap.size):Below B w w1:=h.off.below hS hB
theorem WS.lo {B:Nat}(h:WS w w1 b c t d p v g v1 g1)(hS:∀k,uQ b c t d p v g k→B≤k)(hB:B≤w.heap.size):∀k,uQ b c t d p v1 g1 k→B≤k:=fun k hk=>(h.grew k hk).elim (hS k) (fun hle=>Nat.le_trans hB hle)
theorem WS.bT (ho:aB (fun k=>k=b) w w1):WS w w1 b c t d p v g v g:=⟨⟨ho.os,ho.tape,ho.output,ho.size,fun k hk hf=>ho.block k hk fun e=>hf (.inl e)⟩,aY.refl _ _⟩
theorem SW.kept (h:SW w b c t d p v g a m R P)(hb:Below w.heap.size w w1):SW w1 b c t d p v g a m R P:=⟨(hb.block b h.wk.lt).trans h.wk,h.cw.kept hb⟩
theorem SW.core (h:SW w b c t d p v g a m R P)(hc:CW w1 c t d p v1 g1 a' m' P')(hs:CS w w1 c t d p v g v1 g1):SW w1 b c t d p v1 g1 a' m' R P':=⟨(hs.heap h.wk.lt h.apart).trans h.wk,hc⟩
theorem CW.Zq (h:CW w c t d p v g a m P)(ho:aB (fun k=>k=b) w w1)(hb:¬eQ c t d p v g b):CW w1 c t d p v g a m P:=by
 have blk:∀k,eQ c t d p v g k→w1.heap[k]? =w.heap[k]? :=fun k hk=>ho.block k (h.lt hk) (fun e=>hb (e▸hk));obtain⟨S,aX,⟨cap,hp1,hp2⟩,hrest⟩:=h.nZ;refine⟨(blk c (.inl rfl)).trans h.cell,⟨(blk t (.inr (.inl rfl))).trans h.fZ.cell,bH h.fZ.own fun k hk=>blk k (.inr (.inr (.inr (.inr (.inl hk)))))⟩,(blk d (.inr (.inr (.inl rfl)))).trans h.nodes,S,aX,⟨cap,(blk p (.inr (.inr (.inr (.inl rfl))))).trans hp1,bH hp2 fun k hk=>?_⟩,hrest⟩;have e:k=g:=by simpa[Value.ownBlock]using hk.symm
 exact blk k (.inr (.inr (.inr (.inr (.inr e)))))
theorem SW.work (h:SW w b c t d p v g a m R P)(hw:dm w1 b R')(ho:aB (fun k=>k=b) w w1):SW w1 b c t d p v g a m R' P:=⟨hw,h.cw.Zq ho h.apart⟩
theorem dQ (w:World)(j:Nat)(u:Value):aB (fun k=>k=b) w (w.setCell ⟨b,j,none⟩ u):=⟨rfl,rfl,rfl,by simp,fun k _ hk=>Below.heap_setCell w ⟨b,j,none⟩ u k hk⟩
theorem dV (w:World)(cs:Array Value):aB (fun k=>k=b) w (w.setRow b cs):=⟨rfl,rfl,rfl,by simp,fun k _ hk=>setRow_other w b k _ hk⟩
theorem iq (h:aB (fun k=>k=b) w w1)(h':aB (fun k=>k=b) w1 w2):aB (fun k=>k=b) w w2:=h.trans h' (aY.refl _ _)
def aI (w:World)(b c t d p:Nat)(v:Value)(g a:Nat)(m:Int)(L:Value)(R':Wk)(P':Pg)(e:Ending)(w':World):Prop:=
 e=.returned L∧∃v' g',SW w' b c t d p v' g' a m R' P'∧WS w w' b c t d p v g v' g'
end
def gP (k:Nat):Value:=.func (.func k) #[] #[]
section
variable {w w' w1 w2 : World} {b c t d p g a : Nat} {v : Value} {m : Int} {P P' : Pg} {R R' : Wk}
theorem og (h:CW w c t d p v g a m P):Calls prog 71 #[.pointer (some ⟨c,0,none⟩)] w fun e w'=>e=.returned (.bool false)∧w=w':=by
 have c3:=h.c3;clear h;go_enter func71,ntmps71;go_wp2_with fail;go_ret;exact⟨rfl,rfl⟩
theorem jR (h:CW w c t d p v g a m P):Calls prog 42 #[.pointer (some ⟨c,0,none⟩)] w fun e w'=>e=.returned (.bool P.cl)∧w=w':=by
 have c4:=h.c4;have hno:=og h;clear h;go_enter func42,ntmps42;go_wp2_with (go_at_call 71;go_must (refine hno.mono ?_);rintro e w' ⟨rfl,rfl⟩);go_ret;exact⟨rfl,rfl⟩
theorem zC (h:dm w b R)(l:Bool)(hl:R.left=.nilFunc∧l=true∨(∃k,R.left=gP k)∧l=false):Calls prog 70 #[.pointer (some ⟨b,0,none⟩)] w fun e w'=>e=.returned (.bool l)∧w=w':=by
 have c11:=h.at 11 R.left rfl;clear h;have e1:∀w,Sem.run prog (binOp .eql 188 .nilFunc .nilFunc) w=.ok (.bool true) w:=fun w=>rfl;have e2:∀k w,Sem.run prog (binOp .eql 188 (.func (.func k) #[] #[]) .nilFunc) w=.ok (.bool false) w:=fun k w=>rfl;rcases hl with⟨hl,rfl⟩|⟨⟨k,hl⟩,rfl⟩
 ·rw[hl]at c11;go_enter func70,ntmps70;go_wp2_with fail;go_ret;exact⟨rfl,rfl⟩
 ·rw[hl]at c11;unfold gP at*;go_enter func70,ntmps70;go_wp2_with fail;go_ret;exact⟨rfl,rfl⟩
theorem jL (h:dm w b R)(q:Int):Calls prog 188 #[.pointer (some ⟨b,0,none⟩),.int .i64 q] w fun e w'=>e=.returned .nilFunc∧dm w' b {R with rep:=⟨q,0,0,0,0,0,0,0,0⟩,ok:=false}∧aB (fun k=>k=b) w w':=by
 have hf:=TP q w;generalize hx:(⟨q,0,0,0,0,0,0,0,0⟩:Ry)=x at*;have zY:=D6;obtain⟨k9,bB⟩:∃k,k=9:=⟨_,rfl⟩;rw[←bB]at zY;have lY:=qO x;rw[←bB]at lY;have hk0:¬k9=0:=by omega
 replace bB:=qae bB;clear hx;go_enter func188,ntmps188;go_wp2_with fail;go_at_call 98;refine hf.mono ?_;clear hf;rintro e w1 ⟨rfl,hb1⟩;have hW1:dm w1 b R:=(hb1.block b h.lt).trans h;obtain⟨st,hW2⟩:=hW1.Iy x;have hW3:=hW2.WB false;have ok3:=hW2.free 33;have ho:aB (fun k=>k=b) w ((w1.setRow b (iF {R with rep:=x}).toArray).setCell ⟨b,33,none⟩ (.bool false)):=iq (aB.of_below hb1) (iq (dV w1 _) (dQ _ 33 _));have c33:=hW2.at 33 (.bool R.ok) rfl;generalize iF {R with rep:=x}=W2 at*;go_wp2_with fail;go_ret;exact⟨rfl,hW3,ho⟩
end
section
variable {w w' w1 w2 : World} {b c t d p g a : Nat} {v : Value} {m : Int} {P P' : Pg} {R R' : Wk}
theorem KG {k a':Nat}{m':Int}{L:Value}{l:Bool}(h:SW w b c t d p v g a m R P)(hl:R.left=gP k)(hl':R'.left=gP k)(hL:L=.nilFunc∧l=true∨(∃k,L=gP k)∧l=false)
 (hk:∀args w,Sem.run prog (callFunc k args) w=.ok (.enter k args) w)
 (hp:Calls prog k #[.pointer (some ⟨b,0,none⟩),.pointer (some ⟨c,0,none⟩)] w (aI w b c t d p v g a' m' L R' P')):
 Calls prog 143 #[.pointer (some ⟨b,0,none⟩),.pointer (some ⟨c,0,none⟩)] w fun e w'=>e=.returned (.bool l)∧∃v' g',SW w' b c t d p v' g' a' m' {R' with left:=L} P'∧WS w w' b c t d p v g v' g':=by
 have hd:=zC h.wk false (.inr ⟨⟨k,hl⟩,rfl⟩);have hn:=og h.cw;have c11:=h.wk.at 11 R.left rfl;rw[hl]at c11;unfold gP at c11;go_enter func143,ntmps143;go_wp2_with (first|(go_at_call 70;go_must (refine hd.mono ?_);rintro e w' ⟨rfl,rfl⟩)|(go_at_call 71;go_must (refine hn.mono ?_);rintro e w' ⟨rfl,rfl⟩));refine hp.mono ?_;clear hp;rintro e w1 ⟨rfl,v1,g1,hS,hW⟩;have hW2:=hS.wk.left L;have c11':=hS.wk.at 11 R'.left rfl;rw[hl']at c11';unfold gP at c11';have f11:=hS.wk.free 11;have hd2:=zC hW2 l hL;have hS2:=hS.work hW2 (dQ w1 11 L);have fin:=hW.trans (WS.bT (dQ w1 11 L));clear hW hW2 hS hd hn h c11;rcases hL with⟨rfl,rfl⟩|⟨⟨k2,rfl⟩,rfl⟩
 ·go_wp2_with (go_at_call 70;go_must (refine hd2.mono ?_);rintro e w' ⟨rfl,rfl⟩);go_ret;exact⟨rfl,v1,g1,hS2,fin⟩
 ·unfold gP at*;go_wp2_with (go_at_call 70;go_must (refine hd2.mono ?_);rintro e w' ⟨rfl,rfl⟩);go_ret;exact⟨rfl,v1,g1,hS2,fin⟩
end
def hd (v:Int):Int:=max 0 (min v 1152921504606846976)
theorem xu (v:Int):0≤hd v∧hd v≤1152921504606846976:=by unfold hd;omega
theorem xN (v:Int)(w:World):
 Calls prog 221 #[.int .i64 v] w fun e w'=>e=.returned (.int .i64 (hd v))∧w=w':=by
 go_enter func221,ntmps221;go_wp2;go_ret;exact⟨rfl,rfl⟩
theorem D8 (a b:Int)(w:World):
 Calls prog 241 #[.int .i64 a,.int .i64 b] w fun e w'=>e=.returned (.int .i64 (hd (hd a-hd b)))∧w=w':=by
 have ha:=xu a;have hb:=xu b;go_enter func241,ntmps241;go_wp2_with (go_at_call 221;go_must (refine(xN _ _).mono ?_);rintro e w' ⟨rfl,rfl⟩);go_ret;exact⟨rfl,rfl⟩
theorem VU (a:Int)(w:World)(ha: -9223372036854775808≤a∧a≤9223372036854775807):
 Calls prog 145 #[.int .i64 a] w fun e w'=>e=.returned (.bool (decide (0≤a∧a≤1099511627776)))∧w=w':=by
 by_cases h0:0≤a
 ·go_enter func145,ntmps145;go_wp2;go_ret;exact⟨by simp[h0],rfl⟩
 ·go_enter func145,ntmps145;go_wp2;go_ret;exact⟨by simp;omega,rfl⟩
def xO (l:List Int):Int:=l.foldl (fun s v=>hd (s+hd v)) 0
def mR (l:List Int):Int:=l.foldl min 1152921504606846976
theorem D9 (l:List Int)(z:Int):xO (l++[z])=hd (xO l+hd z):=by unfold xO;rw[List.foldl_append];rfl
theorem Iz (l:List Int)(z:Int):mR (l++[z])=min (mR l) z:=by unfold mR;rw[List.foldl_append];rfl
theorem KH (l:List Int):0≤xO l∧xO l≤1152921504606846976:=by
 rcases List.eq_nil_or_concat l with rfl|⟨m,z,rfl⟩
 ·decide
 ·rw[List.concat_eq_append,D9];exact xu _
theorem TQ (v:Value)(zs:List Int)(w:World)(h:sK w v zs):
 Calls prog 193 #[v] w fun e w'=>e=.returned (.int .i64 (xO zs))∧w=w':=by
 obtain⟨⟨ao,cap,rfl,hlc,hcm,hcells⟩,hfit⟩:=h;have BO:cap≤9223372036854775807:=by unfold maxLen at hcm;omega
 clear hfit hcm;go_enter func193,ntmps193;go_wp2_with fail;go_loopw [3,8] (fun s i wr=>∃(k:Nat),k≤zs.length∧i=.int .i64 k∧s=.int .i64 (xO (zs.take k))∧wr=w) (fun _ i _=>zs.length-(intOf i).toNat)
 case atStart=>exact⟨0,Nat.zero_le _,rfl,rfl,rfl⟩
 case round=>
  obtain⟨k,hk,rfl,rfl,rfl⟩:=hrel;by_cases hlt:k<zs.length
  ·obtain⟨b,off,rfl,hbw,hcell⟩:=hcells (by rintro rfl;simp at hlt);obtain⟨z,hz⟩:=qaa (zs.getD k 0);have hcw:wr.cell? ⟨b,off+k,none⟩=some (.int .i64 z):=by rw[hz];exact hcell k hlt
   have hs:=KH (zs.take k);have hh:=xu z;have hn:Hid (hd (xO (zs.take k)+hd z)=xO (zs.take (k+1))):=by show _=_;rw[Dz hlt,D9,hz]
   clear hz hcell hcells;go_wp2_with (go_at_call 221;go_must (refine(xN _ _).mono ?_);rintro e w' ⟨rfl,rfl⟩);go_roundw
   case rel=>exact⟨k+1,by omega,by go_num,congrArg (Value.int .i64) hn.out,trivial⟩
   case measure=>simp[intOf];omega
  ·obtain rfl:k=zs.length:=by omega
   rw[List.take_of_length_le (qaf _)];go_wp2_with fail;go_ret;exact⟨rfl,rfl⟩
theorem Nq (v:Value)(zs:List Int)(w:World)(h:sK w v zs):
 Calls prog 277 #[v] w fun e w'=>e=.returned (.int .i64 (mR zs))∧w=w':=by
 obtain⟨⟨ao,cap,rfl,hlc,hcm,hcells⟩,hfit⟩:=h;have BO:cap≤9223372036854775807:=by unfold maxLen at hcm;omega
 clear hfit hcm;go_enter func277,ntmps277;go_wp2_with fail;go_loopw [3,8] (fun s i wr=>∃(k:Nat),k≤zs.length∧i=.int .i64 k∧s=.int .i64 (mR (zs.take k))∧wr=w) (fun _ i _=>zs.length-(intOf i).toNat)
 case atStart=>exact⟨0,Nat.zero_le _,rfl,rfl,rfl⟩
 case round=>
  obtain⟨k,hk,rfl,rfl,rfl⟩:=hrel;by_cases hlt:k<zs.length
  ·obtain⟨b,off,rfl,hbw,hcell⟩:=hcells (by rintro rfl;simp at hlt);obtain⟨z,hz⟩:=qaa (zs.getD k 0);have hcw:wr.cell? ⟨b,off+k,none⟩=some (.int .i64 z):=by rw[hz];exact hcell k hlt
   have hn:Hid (min (mR (zs.take k)) z=mR (zs.take (k+1))):=by show _=_;rw[Dz hlt,Iz,hz]
   clear hz hcell hcells;go_wp2_with fail;go_roundw
   case rel=>exact⟨k+1,by omega,by go_num,congrArg (Value.int .i64) hn.out,trivial⟩
   case measure=>simp[intOf];omega
  ·obtain rfl:k=zs.length:=by omega
   rw[List.take_of_length_le (qaf _)];go_wp2_with fail;go_ret;exact⟨rfl,rfl⟩
theorem TR (w:World)(x y:Int)(e:TypeId)(hx: -9223372036854775808≤x∧x≤9223372036854775807)(hy: -9223372036854775808≤y∧y≤9223372036854775807):
 sK (w.alloc (.cells #[.int .i64 x,.int .i64 y] e)) (.slice (some ⟨w.heap.size,0,none⟩) 2 2) [x,y]:=by
 refine⟨⟨_,_,rfl,by simp,by decide,fun _=>⟨w.heap.size,0,rfl,by simp,fun i hi=>?_⟩⟩,fun z hz=>?_⟩
 ·have hi:i=0∨i=1:=by simp at hi;omega
  rcases hi with rfl|rfl<;>go_simp
 ·simp at hz;rcases hz with rfl|rfl
  ·exact hx
  ·exact hy
theorem mM :∀w,Sem.run prog (Go.sizeOf 131) w=.ok 3 w:=sizeOf131
theorem TS :∀w,Sem.run prog (isAgg 131) w=.ok true w:=isAgg131
theorem gX {w:World}{b k:Nat}{cs:List Value}{t:TypeId}(h:w.heap[b]? =some (.cells cs.toArray t (0,0)))(hk:cs.length=k):Sem.run prog (loadCellsFrom ⟨b,0,none⟩ 0 k #[]) w=.ok cs.toArray w:=
 zB h hk fun j u hj=>by rw[Nat.zero_add];exact hj
theorem Aw {fn:Func}{q u:Tmp}{b:Nat}{tmps:Array Value}{w:World}{cs:List Value}(h:fn.results= #[.cell q 131,.tmp u])(ha:tmps.getD q undef=.pointer (some ⟨b,0,none⟩))(hb:w.heap[b]? =some (.cells cs.toArray 131 (0,0)))(hl:cs.length=3):
 (results fn tmps).run prog w=.ok (.tuple #[.agg cs.toArray,tmps.getD u undef]) w:=by
 have h1:Sem.run prog (loadCells ⟨b,0,none⟩ 3) w=.ok cs.toArray w:=gX hb hl;rw[results_cell_tmp h,ha];simp only[loadVar,asAddr,Sem.run_bind,Sem.run_pure,Result.andThen_ok,TS,mM,h1,if_true]
def aZ (j:Jb):List Value:=if ay j=true then[.int .i64 j.aW,.int .i64 (j.aW+j.lim),.int .i64 j.wid]else[.int .i64 0,.int .i64 0,.int .i64 0]
section
variable {w : World}
theorem QB (j:Jb)(h:ay j=false):Calls prog 146 #[.agg (ag j).toArray] w fun e w'=>e=.returned (.tuple #[.agg (aZ j).toArray,.bool (ay j)])∧Below w.heap.size w w':=by
 unfold aZ;rw[h,qai (by decide)];obtain⟨x1,x2,x3,x4,x5,x6,x7,x8,x9,x0⟩:=j;have hk:x6≠1∨(x6=1∧x9<0):=by
  by_cases e:x6=1
  ·refine .inr ⟨e,?_⟩;rcases Int.lt_or_le x9 0 with h1|h1
   ·exact h1
   ·have:ay (x1,x2,x3,x4,x5,x6,x7,x8,x9,x0)=true:=bQ.2 ⟨e,h1⟩;rw[this]at h;cases h
  ·exact .inl e
 clear h;rw[dP];have hb2:Below w.heap.size w ((w.alloc (.cells #[.int .i64 x1,.int .i64 x2,.int .i64 x3,.int .i64 x4,.int .i64 x5,.int .i64 x6,.int .i64 x7,.int .i64 x8,.int .i64 x9,.int .u64 x0] 55)).alloc (.cells #[.int .i64 0,.int .i64 0,.int .i64 0] 131)):=(qac.alloc (qaf _) _).alloc (by simp) _;rcases hk with h1|⟨rfl,h2⟩
 ·have d1:(x6 != 1)=true:=by simp[h1]
  go_enter func146,ntmps146;go_wp2_with fail;refine bodyPost_ret (Aw rfl rfl (heap_alloc2_new w _ _) rfl) rfl ⟨rfl,hb2⟩
 ·go_enter func146,ntmps146;go_wp2_with fail;refine bodyPost_ret (Aw rfl rfl (heap_alloc2_new w _ _) rfl) rfl ⟨rfl,hb2⟩
theorem BA {w w':World}{v:Value}{zs:List Int}(h:sK w v zs)(hb:Below w.heap.size w w'):sK w' v zs:=by
 obtain⟨⟨ao,cap,e,h1,h2,h3⟩,hf⟩:=h;refine⟨⟨ao,cap,e,h1,h2,fun hz=>?_⟩,hf⟩;obtain⟨b,off,e2,h4,h5⟩:=h3 hz;exact⟨b,off,e2,Nat.lt_of_lt_of_le h4 hb.size,fun i hi=>by rw[←h5 i hi];simp only[World.cell?,hb.block b h4]⟩
theorem Nr (j:Jb)(h:ay j=true)(hp:j.aW≤1099511627776)(hl:0≤j.lim∧j.lim≤1048576):Calls prog 146 #[.agg (ag j).toArray] w fun e w'=>e=.returned (.tuple #[.agg (aZ j).toArray,.bool (ay j)])∧Below w.heap.size w w':=by
 unfold aZ;rw[h,qaj rfl];obtain⟨hs,hp0⟩:=bQ.1 h;obtain⟨x1,x2,x3,x4,x5,x6,x7,x8,x9,x0⟩:=j;obtain rfl:x6=1:=hs;replace hp0:0≤x9:=hp0;replace hp:x9≤1099511627776:=hp;replace hl:0≤x4∧x4≤1048576:=hl;have hsum:xO [x9,x4]=x9+x4:=by show hd (hd (0+hd x9)+hd x4)=_;unfold hd;omega
 show Calls _ _ _ _ fun e w'=>e=.returned (.tuple #[.agg #[.int .i64 x9,.int .i64 (x9+x4),.int .i64 x3],.bool true])∧Below w.heap.size w w';clear h;rw[dP];obtain⟨wA,aj⟩:=qaa (((w.alloc (.cells #[.int .i64 x1,.int .i64 x2,.int .i64 x3,.int .i64 x4,.int .i64 x5,.int .i64 1,.int .i64 x7,.int .i64 x8,.int .i64 x9,.int .u64 x0] 55)).alloc (.cells #[.int .i64 0,.int .i64 0,.int .i64 0] 131)));have aC:Below w.heap.size w wA:=by rw[aj];exact(qac.alloc (qaf _) _).alloc (by simp) _
 have hsA:wA.heap.size=w.heap.size+2:=by rw[aj];simp
 have hJ:Hid (wA.heap[w.heap.size]? =some (.cells #[.int .i64 x1,.int .i64 x2,.int .i64 x3,.int .i64 x4,.int .i64 x5,.int .i64 1,.int .i64 x7,.int .i64 x8,.int .i64 x9,.int .u64 x0] 55 (0,0))):=by show _=_;rw[aj];exact aJ (heap_alloc_new w _)
 have hS:wA.heap[w.heap.size+1]? =some (.cells #[.int .i64 0,.int .i64 0,.int .i64 0] 131 (0,0)):=by rw[aj];exact heap_alloc2_new w _ _
 have LD:Hid (∀W,Below wA.heap.size wA W→W.heap[w.heap.size]? =some (.cells #[.int .i64 x1,.int .i64 x2,.int .i64 x3,.int .i64 x4,.int .i64 x5,.int .i64 1,.int .i64 x7,.int .i64 x8,.int .i64 x9,.int .u64 x0] 55 (0,0))):=fun W hW=>(hW.block _ (by omega)).trans hJ.out;have hAdd:=fun(v:Value) (W:World) (hv:sK W v [x9,x4])=>TQ v [x9,x4] W hv;rw[hsum]at hAdd;replace hsum:=qae hsum;replace aj:=qae aj;replace aC:=qae aC;go_enter func146,ntmps146;go_wp2_with fail;rw[←aj.out];refine Reg2.rd wA 10 24 (Reg2.rows 0 [.p 0,.p 1,.p 0,.p 4,.p 0,.p 16,.p 60,.p 124,.p 0,.p 256]) [0,1,0,1,0,1,1,1,0,1] [.pure,.mU (.int .i64 x9),.pure,.mU (.int .i64 x9),.pure,.mU (.int .i64 x4),.minor Nat 0 (fun k=>.slice (some ⟨k,0,none⟩) 2 2) (fun k W=>sK W (.slice (some ⟨k,0,none⟩) 2 2) [x9,x4]),.mU (.int .i64 (x9+x4)),.pure,.mU (.int .i64 x3)] (by kernel_rfl) (by kernel_rfl) rfl rfl ⟨trivial,Reg2.tt,trivial,Reg2.tt,trivial,Reg2.tt,⟨fun k a b he hp=>BA hp he,fun k a b he hp=>BA hp he⟩,Reg2.tt,trivial,Reg2.tt,trivial⟩ ⟨rfl,rfl,rfl,qaf _,fun _ _=>rfl⟩ ?_;dsimp only[Reg2.rows,Reg2.mk,List.zip,List.zipWith,List.take]
 repeat((first
  |(refine' Reg2.ak _ (by rfl) (fun wz=>?_) ?_;rotate_left;(go_simp;first|rfl|rw[qai (by omega)]))
  |(refine Reg2.az (by rfl) (fun wz hI hF=>?_) (fun _=>?_)
    ·unfold Reg2.One;have q0:wz.cell? ⟨w.heap.size,8,none⟩=some (.int .i64 x9):=by simp[World.cell?,LD.out wz hI]
     have F8:wz.cell? ⟨w.heap.size,3,none⟩=some (.int .i64 x4):=by simp[World.cell?,LD.out wz hI]
     go_wp2_with fail
     first|exact⟨_,rfl,rfl,qad⟩|exact⟨_,rfl,⟨(),rfl,trivial⟩,qad⟩));simp only[Act.put,xA,xB,xC,xD,xE,id])
 refine Reg2.pm (fun wz hI hF=>?_) (fun r6=>?_) (by rfl)
 ·have pa:=TR wz x9 x4 2 (by omega) (by omega);go_wp2_with fail;exact⟨_,rfl,⟨_,rfl,pa⟩,(qad).alloc (qaf _) _⟩
 simp only[Act.put,xA,xB,xC,xD,xE,id];refine Reg2.pm (fun wz hI hF=>?_) (fun r7=>?_) (by rfl)
 ·have hv:=hF.2.2.2.2.1;go_wp2_with (go_at_call 193;go_must (refine(hAdd _ wz hv).mono ?_);rintro e w' ⟨rfl,rfl⟩)
  first|exact⟨_,rfl,rfl,qad⟩|exact⟨_,rfl,⟨(),rfl,trivial⟩,qad⟩
 simp only[Act.put,xA,xB,xC,xD,xE,id]
 repeat((first
  |(refine' Reg2.ak _ (by rfl) (fun wz=>?_) ?_;rotate_left;(go_simp;first|rfl|rw[qai (by omega)]))
  |(refine Reg2.az (by rfl) (fun wz hI hF=>?_) (fun _=>?_)
    ·unfold Reg2.One;have q0:wz.cell? ⟨w.heap.size,2,none⟩=some (.int .i64 x3):=by simp[World.cell?,LD.out wz hI]
     go_wp2_with fail
     first|exact⟨_,rfl,rfl,qad⟩|exact⟨_,rfl,⟨(),rfl,trivial⟩,qad⟩));simp only[Act.put,xA,xB,xC,xD,xE,id])
 refine Reg2.aD ?_;intro w7 dC _ gF;clear gF;dsimp only[List.drop];have iQ:w7.heap[w.heap.size+1]? =some (.cells #[.int .i64 0,.int .i64 0,.int .i64 0] 131 (0,0)):=(dC.block _ (by omega)).trans hS;have iH:=aC.out.trans (dC.mono aC.out.size);have c0:w7.cell? ⟨w.heap.size+1,0,none⟩=some (.int .i64 0):=by simp[World.cell?,iQ]
 have c1:w7.cell? ⟨w.heap.size+1,1,none⟩=some (.int .i64 0):=by simp[World.cell?,iQ]
 have c2:w7.cell? ⟨w.heap.size+1,2,none⟩=some (.int .i64 0):=by simp[World.cell?,iQ]
 have f0:w7.frozen? ⟨w.heap.size+1,0,none⟩=false:=by simp[World.frozen?,iQ]
 have f1:w7.frozen? ⟨w.heap.size+1,1,none⟩=false:=by simp[World.frozen?,iQ]
 have f2:w7.frozen? ⟨w.heap.size+1,2,none⟩=false:=by simp[World.frozen?,iQ]
 have iL:=heap_put (i:=2) (heap_put (i:=1) (heap_put (i:=0) iQ (.int .i64 x9)) (.int .i64 (x9+x4))) (.int .i64 x3);have kN:Below w.heap.size w (((w7.setCell ⟨w.heap.size+1,0,none⟩ (.int .i64 x9)).setCell ⟨w.heap.size+1,1,none⟩ (.int .i64 (x9+x4))).setCell ⟨w.heap.size+1,2,none⟩ (.int .i64 x3)):=((iH.setCell (by show _≤w.heap.size+1;omega) _).setCell (by show _≤w.heap.size+1;omega) _).setCell (by show _≤w.heap.size+1;omega) _;go_wp2_with fail;refine bodyPost_ret (Aw rfl rfl iL rfl) rfl ⟨rfl,kN⟩
theorem nA (j:Jb)(hp:j.aW≤1099511627776)(hl:0≤j.lim∧j.lim≤1048576):Calls prog 146 #[.agg (ag j).toArray] w fun e w'=>e=.returned (.tuple #[.agg (aZ j).toArray,.bool (ay j)])∧Below w.heap.size w w':=by
 cases h:ay j with
 |false=>have:=QB (w:=w) j h;rw[h]at this;exact this
 |true=>have:=Nr (w:=w) j h hp hl;rw[h]at this;exact this
end
section
variable {w : World} {b c t d p g a : Nat} {v : Value} {m : Int} {P : Pg} {R : Wk}
theorem qP (h:SW w b c t d p v g a m R P)(id:Int):Calls prog 209 #[.pointer (some ⟨b,0,none⟩),.pointer (some ⟨c,0,none⟩),.int .i64 id] w fun e w'=>
 e=.returned (.agg (ag (cz P.J id)).toArray)∧dm w' b {R with rep:=kD (cz P.J id)}∧aB (fun k=>k=b) w w':=by
 have zE:=bC;have zY:=D6;obtain⟨k,hk⟩:=qaa (10);obtain⟨k9,bB⟩:∃k,k=9:=⟨_,rfl⟩;rw[←hk]at zE;rw[←bB]at zY;have hk0:¬k9=0:=by omega
 have hk1:¬k=0:=by omega
 obtain⟨wA,aj⟩:=qaa (w.alloc (.cells #[.int .i64 0,.int .i64 0,.int .i64 0,.int .i64 0,.int .i64 0,.int .i64 0,.int .i64 0,.int .i64 0,.int .i64 0,.int .u64 0] 55));have aC:Below w.heap.size w wA:=by rw[aj];exact qac.alloc (qaf _) _
 have hsA:wA.heap.size=w.heap.size+1:=by rw[aj];simp
 have XN:wA.heap[w.heap.size]? =some (.cells (ag jD).toArray 55 (0,0)):=by rw[aj];exact heap_alloc_new w _
 have hA:=h.kept aC;have c0:=hA.cw.c0;have hget:=jh hA.cw.fZ id;obtain⟨y,hy⟩:=qaa (cz P.J id);rw[←hy];unfold jZ at hget;rw[←hy]at hget;replace hy:=qae hy;have lY:=aA y;rw[←hk]at lY;replace hk:=qae hk;rw[aj]at c0 hget;have WC:=fun W=>VT y W;have lR:=qO (kD y);rw[←bB]at lR;replace bB:=qae bB;have ST:Hid (∀W:World,Sem.run prog (storeCells ⟨W.heap.size,0,none⟩ (ag y) 0) (W.alloc (.cells #[.int .i64 0,.int .i64 0,.int .i64 0,.int .i64 0,.int .i64 0,.int .i64 0,.int .i64 0,.int .i64 0,.int .i64 0,.int .u64 0] 55))=.ok () (W.alloc (.cells (ag y).toArray 55))):=fun W=>dW W W.heap.size (ag y) (ag jD) 55 rfl rfl (dO y);have JS:Hid (∀{q:Nat} {W:World},W.heap[q]? =some (.cells (ag jD).toArray 55 (0,0))→Sem.run prog (storeCells ⟨q,0,none⟩ (ag y) 0) W=.ok () (W.setRow q (ag y).toArray)):=fun hq=>lL hq;have XO:Hid ((ag y).toArray.size=10):=qae rfl;generalize ag y=cY at*;go_enter func209,ntmps209;go_wp2_with fail;go_at_call 41;refine hget.mono ?_;clear hget;rw[←aj];rintro e w1 ⟨rfl,hg1⟩;replace aj:=qae aj;have hb1:=hg1.below;have st1:=ST.out w1;obtain⟨w2,hw2⟩:=qaa (w1.alloc (.cells cY.toArray 55));rw[←hw2]at st1;have hb2:Below wA.heap.size wA w2:=by rw[hw2];exact hb1.alloc hb1.size _
 have h2:=hA.kept hb2;have hx2:w2.heap[w.heap.size]? =some (.cells (ag jD).toArray 55 (0,0)):=(hb2.block _ (by omega)).trans XN;have hz2:w2.heap[w1.heap.size]? =some (.cells cY.toArray 55 (0,0)):=by rw[hw2];exact heap_alloc_new w1 _
 have ld2:=gX hz2 lY;have hs1:=hb1.size;have hs2:w2.heap.size=w1.heap.size+1:=by rw[hw2];simp
 replace hw2:=qae hw2;go_wp2_with fail;go_at_call 231;refine(WC w2).mono ?_;clear WC;rintro e w3 ⟨rfl,hb3⟩;have h3:=h2.kept hb3;obtain⟨st3,ET⟩:=h3.wk.Iy (kD y);have hbb:=h.wk.lt;have hx3:w3.heap[w.heap.size]? =some (.cells (ag jD).toArray 55 (0,0)):=(hb3.block _ (by omega)).trans hx2;have hz3:w3.heap[w1.heap.size]? =some (.cells cY.toArray 55 (0,0)):=(hb3.block _ (by omega)).trans hz2;obtain⟨w4,hw4⟩:=qaa (w3.setRow b (iF {R with rep:=kD y}).toArray);rw[←hw4]at st3 ET;have hx4:w4.heap[w.heap.size]? =some (.cells (ag jD).toArray 55 (0,0)):=by rw[hw4,setRow_other w3 b _ _ (by omega)];exact hx3
 have BZ:w4.heap[w1.heap.size]? =some (.cells cY.toArray 55 (0,0)):=by rw[hw4,setRow_other w3 b _ _ (by omega)];exact hz3
 have wG:aB (fun k=>k=b) w w4:=by rw[hw4];exact iq (aB.of_below (aC.trans ((hb2.trans (hb3.mono hb2.size)).mono aC.size))) (dV w3 _)
 have ld4:=gX BZ lY;have st4:=JS.out hx4;have KI:dm (w4.setRow w.heap.size cY.toArray) b {R with rep:=kD y}:=(setRow_other w4 w.heap.size b _ (by omega)).trans ET;have Aq:aB (fun k=>k=b) w (w4.setRow w.heap.size cY.toArray):=⟨wG.os,wG.tape,wG.output,by simpa using wG.size,fun k hk2 hn=>by rw[setRow_other w4 w.heap.size k _ (by omega)];exact wG.block k hk2 hn⟩;have hx5:=zA hx4 cY.toArray;replace hw4:=qae hw4;go_wp2_with fail;refine aO rfl rfl rfl hx5 underlying55 rfl (by rw[XO.out];kernel_rfl) ⟨rfl,KI,Aq⟩
end
theorem F9 {q p:Jb→Bool}:∀{L:List Jb} {i:Nat},i<(L.filter q).length→(∀k,k<i→p ((L.filter q)[k]!)=false)→p ((L.filter q)[i]!)=true→∃n,L.findIdx? (fun j=>q j&&p j)=some n∧n<L.length∧L.getD n default=(L.filter q)[i]! :=by
 intro L
 induction L with
 |nil=>intro i hi;simp at hi
 |cons x L ih=>
  intro i hi hno hp;cases hq:q x with
  |false=>
   have e:(x::L).filter q=L.filter q:=by simp[hq]
   rw[e]at hi hp hno⊢;obtain⟨n,h1,h2,h3⟩:=ih hi hno hp;refine⟨n+1,?_,by simp;omega,by simpa using h3⟩;rw[List.findIdx?_cons];simp[hq,h1]
  |true=>
   have e:(x::L).filter q=x::L.filter q:=by simp[hq]
   rw[e]at hi hp hno⊢;cases i with
   |zero=>
    have hx:p x=true:=by simpa using hp
    refine⟨0,?_,by simp,by simp⟩;rw[List.findIdx?_cons];simp[hq,hx]
   |succ i=>
    have hx:p x=false:=by simpa using hno 0 (by omega)
    obtain⟨n,h1,h2,h3⟩:=ih (i:=i) (by simpa using hi) (fun k hk=>by simpa using hno (k+1) (by omega)) (by simpa using hp);refine⟨n+1,?_,by simp;omega,by simpa using h3⟩;rw[List.findIdx?_cons];simp[hx,h1]
theorem KJ {q p:Jb→Bool}{L:List Jb}(hno:∀k,k<(L.filter q).length→p ((L.filter q)[k]!)=false):L.findIdx? (fun j=>q j&&p j)=none:=by
 rw[List.findIdx?_eq_none_iff];intro x hx;cases hq:q x with
 |false=>rfl
 |true=>
  obtain⟨k,hk,e⟩:=List.mem_iff_getElem.1 (List.mem_filter.2 ⟨hx,hq⟩);have:=hno k hk;rw[getElem!_pos _ k hk,e]at this;simpa using this
section
variable {M : Md}
theorem uR (h:aS M){i:Nat}(hi:i<M.L.length)(hp:ay (M.L.getD i default)=true)(t:Int):
 aF {M with L:=M.L.set i ((M.L.getD i default).aR (-1))} t 0=aF M t 0+had (max (M.L.getD i default).aW M.now) ((M.L.getD i default).aW+(M.L.getD i default).lim) (M.L.getD i default).wid t:=by
 have hm:=bN hi;have hid:=h.ids i hi;have hpl:=h.plan _ hm;have h1:=h.mb.aW _ hm;have h2:=h.mb.lim _ hm;have h0:=(bQ.1 hp).2;rw[ky hi,fo (j:=(M.L.getD i default).aR (-1)) (by unfold ay;simp[Jb.aR,Jb.aW]),oK hp (by omega)];generalize M.L.getD i default=x at*;have e:max x.aW M.now=x.aW:=by omega
 rw[e];unfold had;have e2:¬(x.aW+x.lim=1152921504606846976):=by omega
 simp only[e2,or_false];omega
theorem IA {i:Nat}(hi:i<M.L.length):dM {M with L:=M.L.set i ((M.L.getD i default).aR (-1))}=dM M:=by
 refine rX (by rw[bP,bP]) fun n hn=>?_;rw[dN,dN,sG (y:=(M.L.getD i default).aR (-1)) hi Iff.rfl rfl]
theorem yD (h:aS M)(t:Int)(ht:M.now≤t):0≤aF M t 0∧aF M t 0≤64:=⟨h.free t ht,by have:=Da h t;have:=h.mb.nn;omega⟩
end
def QC (w:World)(c t d p:Nat)(v:Value)(g a:Nat)(m:Int)(M:Md)(o:Option Nat)(e:Ending)(w':World):Prop:=
 (o=none∧e=.returned (.bool false)∧Below w.heap.size w w')∨
 ∃i,o=some i∧gy w c t d p v g (a+2) (m+1) (.bool true) (au {M with L:=M.L.set i ((M.L.getD i default).aR (-1))}) e w'
section
variable {w : World} {c t d p g a : Nat} {v : Value} {m : Int} {M : Md}
theorem yE (h:CW w c t d p v g a m (au M))(hI:aS M)(h1:1≤M.dr.length)(hll:M.L.length≤900)(ha:a≤800)(hm:m≤1000000)(lv:Value)(l:List Jb)(q:Jb→Bool)(hr:aL ag 10 w lv l)(hl:l=M.L.filter q):
 Calls prog 260 #[.pointer (some ⟨c,0,none⟩),lv] w (QC w c t d p v g a m M (M.L.findIdx? fun j=>q j&&ay j)):=by
 have zE:=bC;have zS:=mM;obtain⟨k,hk⟩:=qaa (10);obtain⟨k3,hk3⟩:∃k,k=3:=⟨_,rfl⟩;rw[←hk]at zE;rw[←hk3]at zS;have hk0:¬k=0:=by omega
 have BB:¬k3=0:=by omega
 replace hk:=qae hk;replace hk3:=qae hk3;have hC:=qae h;have hlt:Hid (∀k,eQ c t d p v g k→k<w.heap.size):=fun k hk=>h.lt hk;have vD:=qae (gL hI h1 hll);have hmem:Hid (∀i,i<l.length→l[i]! ∈M.L):=fun i hi=>by
  have:l[i]! ∈l:=by rw[getElem!_pos l i hi];exact List.getElem_mem _
  have h2:l[i]! ∈M.L.filter q:=hl▸this;exact(List.mem_filter.1 h2).1
 obtain⟨ao,cap,rfl,q1,q2,q3⟩:=hr;obtain⟨n,hn⟩:=qab (l.length);have hnl:n≤900:=by rw[←hn,hl];exact Nat.le_trans (List.length_filter_le _ _) hll
 rw[hn]at q1 q3⊢;have HQ:Hid (0<n→∃b off,ao=some ⟨b,off,none⟩∧pU w b off l):=fun hp=>by
  obtain⟨b,off,e1,e2,e3⟩:=q3 hp;exact⟨b,off,e1,e2,e3⟩
 have BO:cap≤9223372036854775807:=by unfold maxLen at q2;omega
 replace hn:=qae hn;replace hl:=qae hl;clear q2 q3 h;go_enter func260,ntmps260;go_wp2_with fail;go_loopw [11] (fun ii wr=>∃(i:Nat),i≤n∧ii=.int .i64 i∧Below w.heap.size w wr∧Hid (∀j,j<i→ay l[j]! =false)) (fun ii _=>n-(intOf ii).toNat)
 case atStart=>exact⟨0,Nat.zero_le _,rfl,Below.refl _ _,qae fun j hj=>absurd hj (Nat.not_lt_zero _)⟩
 case round=>
  obtain⟨i,hin,rfl,hbr,hno⟩:=hrel;by_cases hlt2:i<n
  ·have b2:(i:Int)<(n:Int):=by omega
   have wi:IntKind.i64.wrap ((i:Int)+1)=(i:Int)+1:=by rw[IntKind.wrap_i64];omega
   obtain⟨gb,off,rfl,hJ⟩:=HQ.out (by omega);have vB:=hJ.below hbr;have fw:i<l.length:=by have:=hn.out;omega
   have LI:=vB.load hk.out fw;have hxm:=hmem.out i fw;obtain⟨x,hx⟩:=qaa (l[i]!);rw[←hx]at LI hxm;replace hx:=qae hx;have lI:=aA x;rw[←hk.out]at lI;have hpx:=hI.mb.aW x hxm;have hlx:=hI.mb.lim x hxm;have st:Sem.run prog (storeCells ⟨wr.heap.size,0,none⟩ (ag x) 0) (wr.alloc (.cells #[.int .i64 0,.int .i64 0,.int .i64 0,.int .i64 0,.int .i64 0,.int .i64 0,.int .i64 0,.int .i64 0,.int .i64 0,.int .u64 0] 55))=.ok () (wr.alloc (.cells (ag x).toArray 55)):=dW wr wr.heap.size (ag x) (ag jD) 55 rfl rfl (dO x);obtain⟨w1,hw1⟩:=qaa (wr.alloc (.cells (ag x).toArray 55));have hb1:Below w.heap.size w w1:=by rw[hw1];exact hbr.alloc hbr.size _
   have hs1:w1.heap.size=wr.heap.size+1:=by rw[hw1];simp
   have hz1:w1.heap[wr.heap.size]? =some (.cells (ag x).toArray 55 (0,0)):=by rw[hw1];exact heap_alloc_new wr _
   have ld1:=gX hz1 lI;have Zr:(ag x)[0]? =some (.int .i64 x.id):=rfl;have hpl:=nA (w:=w1) x hpx.2 ⟨hlx.1,hlx.2⟩;generalize hcI:ag x=cI at*;replace hcI:=qae hcI;rw[←hw1]at st;replace hw1:=qae hw1;go_wp2_with fail;go_at_call 146;refine hpl.mono ?_;clear hpl st LI ld1;rintro e w2 ⟨rfl,hb2⟩;have WE:Below w.heap.size w w2:=hb1.trans (hb2.mono hb1.size);have hz2:w2.heap[wr.heap.size]? =some (.cells cI.toArray 55 (0,0)):=(hb2.block _ (by omega)).trans hz1;have lS:(aZ x).length=3:=by unfold aZ;split<;>rfl
   have oS:∀u∈aZ x,u.oneCell'=true:=by unfold aZ;split<;>(intro u hu;simp at hu;rcases hu with rfl|rfl|rfl<;>rfl)
   have st2:Sem.run prog (storeCells ⟨w2.heap.size,0,none⟩ (aZ x) 0) (w2.alloc (.cells #[.int .i64 0,.int .i64 0,.int .i64 0] 131))=.ok () (w2.alloc (.cells (aZ x).toArray 131)):=dW w2 w2.heap.size (aZ x) [.int .i64 0,.int .i64 0,.int .i64 0] 131 rfl lS oS;rw[←hk3.out]at lS;have hsp:=qae (rfl:aZ x=aZ x);generalize nD:aZ x=cS at lS st2⊢;replace nD:=qae nD;obtain⟨w3,hw3⟩:=qaa (w2.alloc (.cells cS.toArray 131));have hb3:Below w2.heap.size w2 w3:=by rw[hw3];exact qac.alloc (qaf _) _
   have Ga:Below w.heap.size w w3:=WE.trans (hb3.mono WE.size);have hs2:=hb2.size;have hs3:w3.heap.size=w2.heap.size+1:=by rw[hw3];simp
   have hz3:Hid (w3.heap[wr.heap.size]? =some (.cells cI.toArray 55 (0,0))):=(hb3.block _ (by omega)).trans hz2;have hy3:Hid (w3.heap[w2.heap.size]? =some (.cells cS.toArray 131 (0,0))):=by show _=_;rw[hw3];exact heap_alloc_new w2 _
   rw[←hw3]at st2;replace hw3:=qae hw3;cases hP:ay x with
   |false=>
    go_wp2_with fail;go_roundw
    case rel=>exact⟨i+1,by omega,by go_num,Ga,qae fun j hj=>by
     rcases Nat.lt_succ_iff_lt_or_eq.1 hj with h5|h5
     ·exact hno.out j h5
     ·subst h5;rw[←hx.out];exact hP⟩
    case measure=>simp[intOf];omega
   |true=>
    have hkey:=F9 (q:=q) (p:=ay) (L:=M.L) (i:=i) (by rw[←hl.out];exact fw) (fun j hj=>by rw[←hl.out];exact hno.out j hj) (by rw[←hl.out,←hx.out];exact hP);obtain⟨f,hf1,hf2,hf3⟩:=hkey;rw[←hl.out,←hx.out]at hf3;have hfree:=qae (uR hI hf2 (by rw[hf3];exact hP));have hinv:=qae (hI.zk hf2);have hcore:=qae (IA (M:=M) hf2);have KL:=qae (hI.ids f hf2);rw[hf3]at hfree hinv hcore KL;have hf1:=qae hf1;have WG:=qae (hC.out.kept Ga);go_wp2_with fail;refine Reg2.ro w3 5 35 [.p 0,.p 1,.p 3,.m 7,.m 0] [.pointer (some ⟨p,0,none⟩),.agg cS.toArray] (by kernel_rfl) (by kernel_rfl) rfl rfl ⟨rfl,rfl,rfl,qaf _,fun _ _=>rfl⟩ ?_;dsimp only[Reg2.fF]
    repeat((first
     |(refine' Reg2.ak _ (by rfl) (fun wz=>?_) ?_;rotate_left;(go_simp;first|rfl|rw[qai (by omega)]))
     |(refine Reg2.az (by rfl) (fun wz hI hF=>?_) (fun _=>?_)
       ·unfold Reg2.One;have c0:=(WG.out.kept hI).c2;have d0:=gX ((hI.block _ (ai hy3.out)).trans hy3.out) lS;go_wp2_with fail
        first|exact⟨_,rfl,rfl,qad⟩|exact⟨_,rfl,⟨(),rfl,trivial⟩,qad⟩));simp only[Act.put,xA,xB,xC,xD,xE,id])
    refine Reg2.aD ?_;intro w4 HI4 _ gB;clear gB;dsimp only[List.drop];have qc:=WG.out.kept HI4;have hb4:=Ga.trans (HI4.mono Ga.size);have BZ:w4.heap[wr.heap.size]? =some (.cells cI.toArray 55 (0,0)):=(HI4.block _ (by omega)).trans hz3.out;have hrel:=wH qc vD.out ha hm x.aW (x.aW+x.lim) x.wid (fun t=>aF {M with L:=M.L.set f (x.aR (-1))} t 0) (by have:=hI.one x hxm;have:1≤x.lim:=this.2.2.1;omega) (by omega) (by have:=hI.mb.wid x hxm;omega) (fun t _=>hfree.out t) (fun t ht=>yD hinv.out t ht);have oF:cS=[.int .i64 x.aW,.int .i64 (x.aW+x.lim),.int .i64 x.wid]:=by rw[←nD.out];unfold aZ;rw[qaj hP]
    clear nD;subst oF;go_wp2_with fail;go_at_call 200;refine hrel.mono ?_;clear hrel;rintro e w5 ⟨rfl,v5,g5,iI,hS5⟩;have vC:Hid (w5.heap[wr.heap.size]? =some (.cells cI.toArray 55 (0,0))):=(hS5.heap (ai BZ) (fun hf=>by have:=hlt.out _ hf;have:=hbr.size;omega)).trans BZ;replace iI:=qae iI;go_wp2_with fail;refine Reg2.ro w5 6 35 [.p 0,.p 1,.p 3,.m 7,.p 0,.m 16] [.pointer (some ⟨t,0,none⟩),.int .i64 x.id] (by kernel_rfl) (by kernel_rfl) rfl rfl ⟨rfl,rfl,rfl,qaf _,fun _ _=>rfl⟩ ?_;dsimp only[Reg2.fF]
    repeat((first
     |(refine' Reg2.ak _ (by rfl) (fun wz=>?_) ?_;rotate_left;(go_simp;first|rfl|rw[qai (by omega)]))
     |(refine Reg2.az (by rfl) (fun wz hI hF=>?_) (fun _=>?_)
       ·unfold Reg2.One;have c0:=(iI.out.kept hI).c0;have q0:wz.cell? ⟨wr.heap.size,0,none⟩=some (.int .i64 x.id):=by simp[World.cell?,(hI.block _ (ai vC.out)).trans vC.out,Zr]
        go_wp2_with fail
        first|exact⟨_,rfl,rfl,qad⟩|exact⟨_,rfl,⟨(),rfl,trivial⟩,qad⟩));simp only[Act.put,xA,xB,xC,xD,xE,id])
    refine Reg2.aD ?_;intro w6 Ay _ gB;clear gB;dsimp only[List.drop];have Ea:=iI.out.kept Ay;have TT:=FY Ea x.id (-1);go_wp2_with fail;go_at_call 134;refine TT.mono ?_;clear TT;rintro e w7 ⟨rfl,v7,g7,Ca,iQ⟩;have hst:=bQ.1 hP;have hpe:jk (-1)=0:=by decide
    have H6:cu M.L (jk (-1)) x.id (fun j:Jb=>decide (j.state=1))=0:=by
     unfold cu;rw[KL.out,qai (by rw[hpe];decide),qai (by omega),qai (by omega),show((f:Int)+1-1).toNat=f by omega,qaj];rw[getElem!_pos M.L f hf2];have:M.L[f]=x:=by rw[←hf3];simp[List.getD,hf2]
     rw[this];exact qag hst.1
    have hPg:({({au M with f:=fun t=>aF {M with L:=M.L.set f (x.aR (-1))} t 0}:Pg)with J:=dJ M.L (jk (-1)) x.id (fun j:Jb=>decide (j.state=1)) (mY (-1))}:Pg)=au {M with L:=M.L.set f (x.aR (-1))}:=by
     have e1:dJ M.L (jk (-1)) x.id (fun j:Jb=>decide (j.state=1)) (mY (-1))=M.L.set f (x.aR (-1)):=by
      unfold dJ;rw[qaj H6,KL.out,show((f:Int)+1-1).toNat=f by omega,getElem!_pos M.L f hf2];have:M.L[f]=x:=by rw[←hf3];simp[List.getD,hf2]
      rw[this];rfl
     rw[e1];unfold au;rw[hcore.out]
    have hfin:CW w7 c t d p v7 g7 (a+2) (m+1) (au {M with L:=M.L.set f (x.aR (-1))}):=hPg▸Ca;have hSS:CS w w7 c t d p v g v7 g7:=((CS.of_below (Ga.trans (HI4.mono Ga.size))).trans hS5).trans ((CS.of_below Ay).trans iQ);go_wp2_with fail;go_ret;exact .inr ⟨f,hf1.out,rfl,v7,g7,by rw[hf3];exact hfin,hSS⟩
  ·have e:i=n:=by omega
   subst e;have hfi:=hid (KJ (q:=q) (p:=ay) (L:=M.L) (fun j hj=>by rw[←hl.out];exact hno.out j (by rw[←hn.out,hl.out];exact hj)));go_wp2_with fail;go_ret;exact .inl ⟨hfi.out,rfl,hbr⟩
end
theorem Ns {j:Jb}(h:j.id≠0):(fun x:Jb=>(bA j x&&decide (x.state∈ [(1:Int)]))&&ay x)=tY j:=by
 funext x
 unfold tY;cases hp:ay x with
 |false=>simp
 |true=>
  have:x.state=1:=(bQ.1 hp).1;simp[h,this]
theorem KM :(fun x:Jb=>decide (x.state∈ [(1:Int)])&&ay x)=tY mq:=by
 funext x
 unfold tY;cases hp:ay x with
 |false=>simp
 |true=>
  have h1:x.state=1:=(bQ.1 hp).1;have h2:mq.id=0:=rfl;simp[h1,h2]
section
variable {w : World} {b c t d p g a : Nat} {v : Value} {m : Int} {M : Md} {R : Wk}
def QD (w:World)(b c t d p:Nat)(v:Value)(g a:Nat)(m:Int)(R:Wk)(M:Md)(k:Nat)(o:Option Nat)(e:Ending)(w':World):Prop:=
 (o=none∧aI w b c t d p v g a m .nilFunc R (au M) e w')∨
 ∃i,o=some i∧aI w b c t d p v g (a+2) (m+1) (gP k) R (au {M with L:=M.L.set i ((M.L.getD i default).aR (-1))}) e w'
theorem uS (h:SW w b c t d p v g a m R (au M))(hI:aS M)(h1:1≤M.dr.length)(hll:M.L.length≤900)(ha:a≤800)(hm:m≤1000000)(hid:R.aM.id≠0):
 Calls prog 233 #[.pointer (some ⟨b,0,none⟩),.pointer (some ⟨c,0,none⟩)] w (QD w b c t d p v g a m R M 233 (fG R.aM M.L)):=by
 have zE:=bC;obtain⟨k,hk⟩:=qaa (10);rw[←hk]at zE;have hk0:¬k=0:=by omega
 have lJ:=aA R.aM;rw[←hk]at lJ;replace hk:=qae hk;have hS:=qae h;have hin:=fun(W:World) (hW:Below w.heap.size w W) (u:Value) (hu:aL enc1 1 W u [1])=>yz (h.kept hW).cw.fZ (by show M.L.length≤1000;omega) hu;have hlen:(M.L.filter fun j:Jb=>decide (j.state∈ [(1:Int)])).length≤900:=Nat.le_trans (List.length_filter_le _ _) hll;have hbe:=fun(W:World) (u:Value) (hu:aL ag 10 W u (M.L.filter fun j:Jb=>decide (j.state∈ [(1:Int)])))=>JX R.aM u _ W hu hlen;have hint:Hid (∀W:World,aL enc1 1 (W.alloc (.cells #[.int .i64 1] 3)) (.slice (some ⟨W.heap.size,0,none⟩) 1 1) [1]):=fun W=>iD W W.heap.size [1] rfl (by decide);have XP:Hid (∀W,Below w.heap.size w W→Sem.run prog (loadCellsFrom ⟨b,12,none⟩ 0 k #[]) W=.ok (ag R.aM).toArray W):=fun W hW=>(h.kept hW).wk.pY lJ;have XQ:=List.filter_filter (p:=bA R.aM) (q:=fun j:Jb=>decide (j.state∈ [(1:Int)])) (l:=M.L);have hhit:=Ns hid;generalize hL1:(M.L.filter fun j:Jb=>decide (j.state∈ [(1:Int)]))=L1 at*;generalize hL2:L1.filter (bA R.aM)=L2 at*;have hdr:=fun(W:World) (u:Value) (hC:CW W c t d p v g a m (au M)) (hu:aL ag 10 W u L2)=>yE hC hI h1 hll ha hm u L2 _ hu XQ;have hin':=fun(W:World) (hW:Below w.heap.size w W) (u:Value) (hu:aL enc1 1 W u [1])=>(hin W hW u hu)
 rw[show(au M).J=M.L from rfl,hL1]at hin;generalize ag R.aM=cJ at*;replace hL1:=qae hL1;replace hL2:=qae hL2;replace XQ:=qae XQ;replace hhit:=qae hhit;clear h hin' hlen;go_enter func233,ntmps233;go_wp2_with fail;refine Reg2.rd w 12 18 (Reg2.rows 0 [.p 0,.p 0,.p 2,.p 6,.p 14,.p 0,.p 32,.p 96,.p 224,.p 0,.p 992,.p 2046]) [0,0,0,0,1,0,0,0,1,1,1,1] [.pure,.pure,.pure,.pure,.mU (.agg cJ.toArray),.pure,.pure,.pure,.mU (.pointer (some ⟨t,0,none⟩)),.minor Nat 0 (fun k=>.slice (some ⟨k,0,none⟩) 1 1) (fun k W=>aL enc1 1 W (.slice (some ⟨k,0,none⟩) 1 1) [1]),.minor Value (.bool false) (fun x=>x) (fun x W=>aL ag 10 W x L1),.minor Value (.bool false) (fun x=>x) (fun x W=>aL ag 10 W x L2)] (by kernel_rfl) (by kernel_rfl) rfl rfl ⟨trivial,trivial,trivial,trivial,Reg2.tt,trivial,trivial,trivial,Reg2.tt,⟨fun k a b he hp=>hp.below he,fun k a b he hp=>hp.below he⟩,⟨fun k a b he hp=>hp.below he,fun k a b he hp=>hp.below he⟩,⟨fun k a b he hp=>hp.below he,fun k a b he hp=>hp.below he⟩,trivial⟩ ⟨rfl,rfl,rfl,qaf _,fun _ _=>rfl⟩ ?_;dsimp only[Reg2.rows,Reg2.mk,List.zip,List.zipWith,List.take]
 repeat((first
  |(refine' Reg2.ak _ (by rfl) (fun wz=>?_) ?_;rotate_left;(go_simp;first|rfl|rw[qai (by omega)]))
  |(refine Reg2.az (by rfl) (fun wz hI hF=>?_) (fun _=>?_)
    ·unfold Reg2.One;have d0:=XP.out wz hI;have c0:=(hS.out.cw.kept hI).c0;go_wp2_with fail
     first|exact⟨_,rfl,rfl,qad⟩|exact⟨_,rfl,⟨(),rfl,trivial⟩,qad⟩));simp only[Act.put,xA,xB,xC,xD,xE,id])
 refine Reg2.pm (fun wz hI hF=>?_) (fun r9=>?_) (by rfl)
 ·have pa:=hint.out wz;go_wp2_with fail;exact⟨_,rfl,⟨_,rfl,pa⟩,(qad).alloc (qaf _) _⟩
 simp only[Act.put,xA,xB,xC,xD,xE,id];refine Reg2.pm (fun wz hI hF=>?_) (fun Dv=>?_) (by rfl)
 ·have hv:=hF.2.2.2.2.1;go_wp2_with (go_at_call 24;go_must (refine(hin wz hI _ hv).mono ?_);rintro e w' ⟨u,rfl,ho,hb5⟩);exact⟨_,rfl,⟨_,rfl,aL.iB ho aA rfl rfl⟩,hb5⟩
 simp only[Act.put,xA,xB,xC,xD,xE,id];refine Reg2.pm (fun wz hI hF=>?_) (fun XR=>?_) (by rfl)
 ·have hv:=hF.2.2.2.2.2.2.2.2.2.1;go_wp2_with (go_at_call 261;go_must (refine(hbe wz _ hv).mono ?_);rintro e w' ⟨u,rfl,ho,hb5⟩);exact⟨_,rfl,⟨_,rfl,ho⟩,hb5⟩
 simp only[Act.put,xA,xB,xC,xD,xE,id];refine Reg2.aD ?_;intro w7 dC _ gF;have hv7:=gF.2.2.2.2.2.2.2.2.2.2.2.1;clear gF;dsimp only[List.drop];have iQ:=hS.out.kept dC;have hd7:=hdr w7 _ iQ.cw hv7;go_wp2_with fail;go_at_call 260;refine hd7.mono ?_;clear hd7;rintro e w8 (⟨ho,rfl,kN⟩|⟨i,ho,rfl,v8,g8,XT,iL⟩)
 ·have hfin:=iQ.kept kN;go_wp2_with fail;go_ret;exact .inl ⟨by unfold fG;rw[←hhit.out];exact ho,rfl,v,g,hfin,WS.of_below (dC.trans (kN.mono dC.size))⟩
 ·have hfin:=iQ.core XT iL;go_wp2_with fail;go_ret;exact .inr ⟨i,by unfold fG;rw[←hhit.out];exact ho,rfl,v8,g8,hfin,(WS.of_below dC).trans (WS.dU iL)⟩
end
theorem Nt (k:Int)(w:World):Calls prog 99 #[.int .i64 k] w fun e w'=>e=.returned (.bool (decide (1≤k)&&decide (k≤13)))∧w=w':=by
 by_cases h1:1≤k
 ·have d1:decide (1≤k)=true:=qag h1;go_enter func99,ntmps99;go_wp2_with fail;go_ret;exact⟨by simp[h1],rfl⟩
 ·have d1:decide (1≤k)=false:=qah h1;go_enter func99,ntmps99;go_wp2_with fail;go_ret;exact⟨by simp,rfl⟩
def lu (k:Int):Bool:=decide (k=6)||decide (k=10)||decide (k=11)||decide (k=12)
theorem Gb (k:Int)(w:World):Calls prog 189 #[.int .i64 k] w fun e w'=>e=.returned (.bool (lu k))∧w=w':=by
 by_cases h6:k=6
 ·subst h6;go_enter func189,ntmps189;go_wp2_with fail;go_ret;exact⟨rfl,rfl⟩
 by_cases h10:k=10
 ·subst h10;go_enter func189,ntmps189;go_wp2_with fail;go_ret;exact⟨rfl,rfl⟩
 by_cases h11:k=11
 ·subst h11;go_enter func189,ntmps189;go_wp2_with fail;go_ret;exact⟨rfl,rfl⟩
 by_cases h12:k=12
 ·subst h12;go_enter func189,ntmps189;go_wp2_with fail;go_ret;exact⟨rfl,rfl⟩
 have e:lu k=false:=by simp[lu,h6,h10,h11,h12]
 rw[e];have t6:(k == 6)=false:=beq_eq_false_iff_ne.2 h6;have t10:(k == 10)=false:=beq_eq_false_iff_ne.2 h10;have t11:(k == 11)=false:=beq_eq_false_iff_ne.2 h11;have t12:(k == 12)=false:=beq_eq_false_iff_ne.2 h12;clear h6 h10 h11 h12 e;go_enter func189,ntmps189;go_wp2_with fail;go_ret;exact⟨rfl,rfl⟩
def oh (r:Rq):Rq:=
 if r.kind=1 then⟨r.kind,0,r.user,r.width,r.limit,r.prio,r.held,0,0⟩
 else if r.kind=2∨r.kind=3∨r.kind=4∨r.kind=5∨r.kind=6 then⟨r.kind,r.id,0,0,0,0,false,0,0⟩
 else if r.kind=7∨r.kind=8 then⟨r.kind,0,0,0,0,0,false,r.node,0⟩
 else if r.kind=9 then⟨r.kind,0,0,0,0,0,false,0,r.till⟩
 else⟨r.kind,0,0,0,0,0,false,0,0⟩
theorem TU (x2 x3 x4 x5 x6:Int)(x7:Bool)(x8 x9:Int)(w:World):Calls prog 141 #[.agg #[.int .i64 1,.int .i64 x2,.int .i64 x3,.int .i64 x4,.int .i64 x5,.int .i64 x6,.bool x7,.int .i64 x8,.int .i64 x9]] w fun e w'=>e=.returned (.agg #[.int .i64 1,.int .i64 0,.int .i64 x3,.int .i64 x4,.int .i64 x5,.int .i64 x6,.bool x7,.int .i64 0,.int .i64 0])∧Below w.heap.size w w':=by
 go_enter func141,ntmps141;go_wp2_with fail;go_region
 all_goals(try go_wp2_with fail)
 refine aO rfl rfl rfl (show(World.drew _).heap[_]? =_ from aJ (heap_alloc2_new w _ _)) underlying33 rfl (by kernel_rfl) ⟨rfl,?_⟩;exact(((qac.alloc (qaf _) _).alloc (by simp) _).alloc (by simp;omega) _).drew
theorem TY (x2 x3 x4 x5 x6:Int)(x7:Bool)(x8 x9:Int)(w:World):Calls prog 141 #[.agg #[.int .i64 2,.int .i64 x2,.int .i64 x3,.int .i64 x4,.int .i64 x5,.int .i64 x6,.bool x7,.int .i64 x8,.int .i64 x9]] w fun e w'=>e=.returned (.agg #[.int .i64 2,.int .i64 x2,.int .i64 0,.int .i64 0,.int .i64 0,.int .i64 0,.bool false,.int .i64 0,.int .i64 0])∧Below w.heap.size w w':=by
 go_enter func141,ntmps141;go_wp2_with fail;refine aO rfl rfl rfl (aJ (heap_alloc2_new w _ _)) underlying33 rfl (by kernel_rfl) ⟨rfl,?_⟩;exact(((qac.alloc (qaf _) _).alloc (by simp) _).alloc (by simp;omega) _)
theorem TZ (x2 x3 x4 x5 x6:Int)(x7:Bool)(x8 x9:Int)(w:World):Calls prog 141 #[.agg #[.int .i64 3,.int .i64 x2,.int .i64 x3,.int .i64 x4,.int .i64 x5,.int .i64 x6,.bool x7,.int .i64 x8,.int .i64 x9]] w fun e w'=>e=.returned (.agg #[.int .i64 3,.int .i64 x2,.int .i64 0,.int .i64 0,.int .i64 0,.int .i64 0,.bool false,.int .i64 0,.int .i64 0])∧Below w.heap.size w w':=by
 go_enter func141,ntmps141;go_wp2_with fail;refine aO rfl rfl rfl (aJ (heap_alloc2_new w _ _)) underlying33 rfl (by kernel_rfl) ⟨rfl,?_⟩;exact(((qac.alloc (qaf _) _).alloc (by simp) _).alloc (by simp;omega) _)
theorem T9 (x2 x3 x4 x5 x6:Int)(x7:Bool)(x8 x9:Int)(w:World):Calls prog 141 #[.agg #[.int .i64 4,.int .i64 x2,.int .i64 x3,.int .i64 x4,.int .i64 x5,.int .i64 x6,.bool x7,.int .i64 x8,.int .i64 x9]] w fun e w'=>e=.returned (.agg #[.int .i64 4,.int .i64 x2,.int .i64 0,.int .i64 0,.int .i64 0,.int .i64 0,.bool false,.int .i64 0,.int .i64 0])∧Below w.heap.size w w':=by
 go_enter func141,ntmps141;go_wp2_with fail;refine aO rfl rfl rfl (aJ (heap_alloc2_new w _ _)) underlying33 rfl (by kernel_rfl) ⟨rfl,?_⟩;exact(((qac.alloc (qaf _) _).alloc (by simp) _).alloc (by simp;omega) _)
theorem Ua (x2 x3 x4 x5 x6:Int)(x7:Bool)(x8 x9:Int)(w:World):Calls prog 141 #[.agg #[.int .i64 5,.int .i64 x2,.int .i64 x3,.int .i64 x4,.int .i64 x5,.int .i64 x6,.bool x7,.int .i64 x8,.int .i64 x9]] w fun e w'=>e=.returned (.agg #[.int .i64 5,.int .i64 x2,.int .i64 0,.int .i64 0,.int .i64 0,.int .i64 0,.bool false,.int .i64 0,.int .i64 0])∧Below w.heap.size w w':=by
 go_enter func141,ntmps141;go_wp2_with fail;refine aO rfl rfl rfl (aJ (heap_alloc2_new w _ _)) underlying33 rfl (by kernel_rfl) ⟨rfl,?_⟩;exact(((qac.alloc (qaf _) _).alloc (by simp) _).alloc (by simp;omega) _)
theorem Ub (x2 x3 x4 x5 x6:Int)(x7:Bool)(x8 x9:Int)(w:World):Calls prog 141 #[.agg #[.int .i64 6,.int .i64 x2,.int .i64 x3,.int .i64 x4,.int .i64 x5,.int .i64 x6,.bool x7,.int .i64 x8,.int .i64 x9]] w fun e w'=>e=.returned (.agg #[.int .i64 6,.int .i64 x2,.int .i64 0,.int .i64 0,.int .i64 0,.int .i64 0,.bool false,.int .i64 0,.int .i64 0])∧Below w.heap.size w w':=by
 go_enter func141,ntmps141;go_wp2_with fail;refine aO rfl rfl rfl (aJ (heap_alloc2_new w _ _)) underlying33 rfl (by kernel_rfl) ⟨rfl,?_⟩;exact(((qac.alloc (qaf _) _).alloc (by simp) _).alloc (by simp;omega) _)
theorem Uc (x2 x3 x4 x5 x6:Int)(x7:Bool)(x8 x9:Int)(w:World):Calls prog 141 #[.agg #[.int .i64 7,.int .i64 x2,.int .i64 x3,.int .i64 x4,.int .i64 x5,.int .i64 x6,.bool x7,.int .i64 x8,.int .i64 x9]] w fun e w'=>e=.returned (.agg #[.int .i64 7,.int .i64 0,.int .i64 0,.int .i64 0,.int .i64 0,.int .i64 0,.bool false,.int .i64 x8,.int .i64 0])∧Below w.heap.size w w':=by
 go_enter func141,ntmps141;go_wp2_with fail;refine aO rfl rfl rfl (aJ (heap_alloc2_new w _ _)) underlying33 rfl (by kernel_rfl) ⟨rfl,?_⟩;exact(((qac.alloc (qaf _) _).alloc (by simp) _).alloc (by simp;omega) _)
theorem Ud (x2 x3 x4 x5 x6:Int)(x7:Bool)(x8 x9:Int)(w:World):Calls prog 141 #[.agg #[.int .i64 8,.int .i64 x2,.int .i64 x3,.int .i64 x4,.int .i64 x5,.int .i64 x6,.bool x7,.int .i64 x8,.int .i64 x9]] w fun e w'=>e=.returned (.agg #[.int .i64 8,.int .i64 0,.int .i64 0,.int .i64 0,.int .i64 0,.int .i64 0,.bool false,.int .i64 x8,.int .i64 0])∧Below w.heap.size w w':=by
 go_enter func141,ntmps141;go_wp2_with fail;refine aO rfl rfl rfl (aJ (heap_alloc2_new w _ _)) underlying33 rfl (by kernel_rfl) ⟨rfl,?_⟩;exact(((qac.alloc (qaf _) _).alloc (by simp) _).alloc (by simp;omega) _)
theorem Ue (x2 x3 x4 x5 x6:Int)(x7:Bool)(x8 x9:Int)(w:World):Calls prog 141 #[.agg #[.int .i64 9,.int .i64 x2,.int .i64 x3,.int .i64 x4,.int .i64 x5,.int .i64 x6,.bool x7,.int .i64 x8,.int .i64 x9]] w fun e w'=>e=.returned (.agg #[.int .i64 9,.int .i64 0,.int .i64 0,.int .i64 0,.int .i64 0,.int .i64 0,.bool false,.int .i64 0,.int .i64 x9])∧Below w.heap.size w w':=by
 go_enter func141,ntmps141;go_wp2_with fail;refine aO rfl rfl rfl (aJ (heap_alloc2_new w _ _)) underlying33 rfl (by kernel_rfl) ⟨rfl,?_⟩;exact(((qac.alloc (qaf _) _).alloc (by simp) _).alloc (by simp;omega) _)
theorem QE (x1:Int)(x2 x3 x4 x5 x6:Int)(x7:Bool)(x8 x9:Int)(w:World)(h1:x1≠1)(h2:x1≠2)(h3:x1≠3)(h4:x1≠4)(h5:x1≠5)(h6:x1≠6)(h7:x1≠7)(h8:x1≠8)(h9:x1≠9):Calls prog 141 #[.agg #[.int .i64 x1,.int .i64 x2,.int .i64 x3,.int .i64 x4,.int .i64 x5,.int .i64 x6,.bool x7,.int .i64 x8,.int .i64 x9]] w fun e w'=>e=.returned (.agg #[.int .i64 x1,.int .i64 0,.int .i64 0,.int .i64 0,.int .i64 0,.int .i64 0,.bool false,.int .i64 0,.int .i64 0])∧Below w.heap.size w w':=by
 have t1:(x1 == 1)=false:=beq_eq_false_iff_ne.2 h1;have t2:(x1 == 2)=false:=beq_eq_false_iff_ne.2 h2;have t3:(x1 == 3)=false:=beq_eq_false_iff_ne.2 h3;have t4:(x1 == 4)=false:=beq_eq_false_iff_ne.2 h4;have t5:(x1 == 5)=false:=beq_eq_false_iff_ne.2 h5;have t6:(x1 == 6)=false:=beq_eq_false_iff_ne.2 h6;have t7:(x1 == 7)=false:=beq_eq_false_iff_ne.2 h7;have t8:(x1 == 8)=false:=beq_eq_false_iff_ne.2 h8;have t9:(x1 == 9)=false:=beq_eq_false_iff_ne.2 h9;clear h1 h2 h3 h4 h5 h6 h7 h8 h9;go_enter func141,ntmps141;go_wp2_with fail;refine aO rfl rfl rfl (aJ (heap_alloc2_new w _ _)) underlying33 rfl (by kernel_rfl) ⟨rfl,?_⟩;exact(((qac.alloc (qaf _) _).alloc (by simp) _).alloc (by simp;omega) _)
theorem QF (r:Rq)(w:World):Calls prog 141 #[.agg (encR r).toArray] w fun e w'=>e=.returned (.agg (encR (oh r)).toArray)∧Below w.heap.size w w':=by
 obtain⟨x1,x2,x3,x4,x5,x6,x7,x8,x9⟩:=r;by_cases h1:x1=1
 ·subst h1;exact TU x2 x3 x4 x5 x6 x7 x8 x9 w
 by_cases h2:x1=2
 ·subst h2;exact TY x2 x3 x4 x5 x6 x7 x8 x9 w
 by_cases h3:x1=3
 ·subst h3;exact TZ x2 x3 x4 x5 x6 x7 x8 x9 w
 by_cases h4:x1=4
 ·subst h4;exact T9 x2 x3 x4 x5 x6 x7 x8 x9 w
 by_cases h5:x1=5
 ·subst h5;exact Ua x2 x3 x4 x5 x6 x7 x8 x9 w
 by_cases h6:x1=6
 ·subst h6;exact Ub x2 x3 x4 x5 x6 x7 x8 x9 w
 by_cases h7:x1=7
 ·subst h7;exact Uc x2 x3 x4 x5 x6 x7 x8 x9 w
 by_cases h8:x1=8
 ·subst h8;exact Ud x2 x3 x4 x5 x6 x7 x8 x9 w
 by_cases h9:x1=9
 ·subst h9;exact Ue x2 x3 x4 x5 x6 x7 x8 x9 w
 have e:oh ⟨x1,x2,x3,x4,x5,x6,x7,x8,x9⟩=⟨x1,0,0,0,0,0,false,0,0⟩:=by simp[oh,h1,h2,h3,h4,h5,h6,h7,h8,h9]
 rw[e];exact QE x1 x2 x3 x4 x5 x6 x7 x8 x9 w h1 h2 h3 h4 h5 h6 h7 h8 h9
def pE (n:Int)(r:Rq):Int:=if r.kind=1∧n<r.width∧r.width≤64∧bD r≠1 then 9 else 0
section
variable {w : World} {c t d p g a : Nat} {v : Value} {m : Int} {P : Pg}
theorem KN (h:CW w c t d p v g a m P)(hl:jK P.T)(r:Rq)(hk:r.kind≠1):Calls prog 232 #[.pointer (some ⟨c,0,none⟩),.agg (encR r).toArray] w fun e w'=>e=.returned (.int .i64 0)∧Below w.heap.size w w':=by
 have zR:=nO;obtain⟨k9,bB⟩:∃k,k=9:=⟨_,rfl⟩;rw[←bB]at zR;have hk0:¬k9=0:=by omega
 have lR:=jY r;rw[←bB]at lR;replace bB:=qae bB;obtain⟨wA,aj⟩:=qaa (w.alloc (.cells (encR r).toArray 33));have aC:Hid (Below w.heap.size w wA):=by show Below _ _ _;rw[aj];exact qac.alloc (qaf _) _
 have aH:Hid (wA.heap[w.heap.size]? =some (.cells (encR r).toArray 33 (0,0))):=by show _=_;rw[aj];exact heap_alloc_new w _
 have kr:=qae (h.kept aC.out);have hno:=fun(W:World) (hW:Below wA.heap.size wA W)=>og (kr.out.kept hW);have hsz:=fun(W:World) (hW:Below wA.heap.size wA W)=>qM (kr.out.kept hW).nodes hl;have yg:=fun(W:World)=>qJ r W;have e0:(encR r)[0]? =some (.int .i64 r.kind):=rfl;have e3:(encR r)[3]? =some (.int .i64 r.width):=rfl;generalize r.kind=rk at*;generalize r.width=rw at*;generalize bD r=rf at*;generalize encR r=cR at*;generalize (P.T.length:Int)=nl at*;have d1:(rk != 1)=true:=by simp[hk]
 clear h;go_enter func232,ntmps232;go_wp2_with fail;rw[←aj];replace aj:=qae aj;refine Reg2.ro wA 20 30 [.p 0,.m 1,.p 3,.p 7,.m 15,.p 31,.p 63,.p 127,.p 255,.m 511,.p 1023,.p 2047,.p 4095,.p 8191,.m 16383,.p 8191,.p 40959,.p 106495,.m 237567,.m 499711] [.bool false,.int .i64 rk,.int .i64 rw,.int .i64 rw,.pointer (some ⟨d,0,none⟩),.int .i64 nl] (by kernel_rfl) (by kernel_rfl) rfl rfl ⟨rfl,rfl,rfl,qaf _,fun _ _=>rfl⟩ ?_;dsimp only[Reg2.fF]
 repeat(refine' Reg2.ak _ (by rfl) (fun wz=>?_) ?_;rotate_left;(go_simp;first|rfl|rw[qai (by omega)]);simp only[Act.put,xA,xB,xC,xD,xE,id])
 refine Reg2.pm (fun wz hI hF=>?_) (fun r1=>?_) (by rfl)
 ·go_wp2_with (go_at_call 71;go_must (refine(hno wz hI).mono ?_);rintro e w' ⟨rfl,rfl⟩)
  first|exact⟨_,rfl,rfl,qad⟩|exact⟨_,rfl,⟨(),rfl,trivial⟩,qad⟩
 simp only[Act.put,xA,xB,xC,xD,xE,id]
 repeat((first
  |(refine' Reg2.ak _ (by rfl) (fun wz=>?_) ?_;rotate_left;(go_simp;first|rfl|rw[qai (by omega)]))
  |refine Reg2.oG (by rfl) ?_
  |refine Reg2.iZ (by rfl) ?_
  |(refine Reg2.az (by rfl) (fun wz hI hF=>?_) (fun _=>?_)
    ·unfold Reg2.One;have q0:wz.cell? ⟨w.heap.size,0,none⟩=some (.int .i64 rk):=by simp[World.cell?,(hI.block _ (ai aH.out)).trans aH.out,e0]
     go_wp2_with fail
     first|exact⟨_,rfl,rfl,qad⟩|exact⟨_,rfl,⟨(),rfl,trivial⟩,qad⟩));simp only[Act.put,xA,xB,xC,xD,xE,id])
 refine Reg2.aD ?_;intro w7 dC _ gF;clear gF;dsimp only[List.drop];have iH:=aC.out.trans (dC.mono aC.out.size);go_wp2_with fail;go_ret;exact⟨rfl,iH⟩
theorem KO (h:CW w c t d p v g a m P)(hl:jK P.T)(r:Rq)(hk:r.kind=1)(hw:64<r.width):Calls prog 232 #[.pointer (some ⟨c,0,none⟩),.agg (encR r).toArray] w fun e w'=>e=.returned (.int .i64 0)∧Below w.heap.size w w':=by
 have zR:=nO;obtain⟨k9,bB⟩:∃k,k=9:=⟨_,rfl⟩;rw[←bB]at zR;have hk0:¬k9=0:=by omega
 have lR:=jY r;rw[←bB]at lR;replace bB:=qae bB;obtain⟨wA,aj⟩:=qaa (w.alloc (.cells (encR r).toArray 33));have aC:Hid (Below w.heap.size w wA):=by show Below _ _ _;rw[aj];exact qac.alloc (qaf _) _
 have aH:Hid (wA.heap[w.heap.size]? =some (.cells (encR r).toArray 33 (0,0))):=by show _=_;rw[aj];exact heap_alloc_new w _
 have kr:=qae (h.kept aC.out);have hno:=fun(W:World) (hW:Below wA.heap.size wA W)=>og (kr.out.kept hW);have hsz:=fun(W:World) (hW:Below wA.heap.size wA W)=>qM (kr.out.kept hW).nodes hl;have yg:=fun(W:World)=>qJ r W;have e0:(encR r)[0]? =some (.int .i64 r.kind):=rfl;have e3:(encR r)[3]? =some (.int .i64 r.width):=rfl;generalize r.kind=rk at*;generalize r.width=rw at*;generalize bD r=rf at*;generalize encR r=cR at*;generalize (P.T.length:Int)=nl at*;have d1:(rk != 1)=false:=by simp[hk]
 replace hk:=qae hk;have d2:decide (rw>64)=true:=qag hw;clear h;go_enter func232,ntmps232;go_wp2_with fail;rw[←aj];replace aj:=qae aj;refine Reg2.ro wA 20 30 [.p 0,.m 1,.p 3,.p 7,.m 15,.p 31,.p 63,.p 127,.p 255,.m 511,.p 1023,.p 2047,.p 4095,.p 8191,.m 16383,.p 8191,.p 40959,.p 106495,.m 237567,.m 499711] [.bool false,.int .i64 rk,.int .i64 rw,.int .i64 rw,.pointer (some ⟨d,0,none⟩),.int .i64 nl] (by kernel_rfl) (by kernel_rfl) rfl rfl ⟨rfl,rfl,rfl,qaf _,fun _ _=>rfl⟩ ?_;dsimp only[Reg2.fF]
 repeat(refine' Reg2.ak _ (by rfl) (fun wz=>?_) ?_;rotate_left;(go_simp;first|rfl|rw[qai (by omega)]);simp only[Act.put,xA,xB,xC,xD,xE,id])
 refine Reg2.pm (fun wz hI hF=>?_) (fun r1=>?_) (by rfl)
 ·go_wp2_with (go_at_call 71;go_must (refine(hno wz hI).mono ?_);rintro e w' ⟨rfl,rfl⟩)
  first|exact⟨_,rfl,rfl,qad⟩|exact⟨_,rfl,⟨(),rfl,trivial⟩,qad⟩
 simp only[Act.put,xA,xB,xC,xD,xE,id]
 repeat((first
  |(refine' Reg2.ak _ (by rfl) (fun wz=>?_) ?_;rotate_left;(go_simp;first|rfl|rw[qai (by omega)]))
  |refine Reg2.oG (by rfl) ?_
  |refine Reg2.iZ (by rfl) ?_
  |(refine Reg2.az (by rfl) (fun wz hI hF=>?_) (fun _=>?_)
    ·unfold Reg2.One;have q0:wz.cell? ⟨w.heap.size,0,none⟩=some (.int .i64 rk):=by simp[World.cell?,(hI.block _ (ai aH.out)).trans aH.out,e0]
     have F8:wz.cell? ⟨w.heap.size,3,none⟩=some (.int .i64 rw):=by simp[World.cell?,(hI.block _ (ai aH.out)).trans aH.out,e3]
     go_wp2_with fail
     first|exact⟨_,rfl,rfl,qad⟩|exact⟨_,rfl,⟨(),rfl,trivial⟩,qad⟩));simp only[Act.put,xA,xB,xC,xD,xE,id])
 refine Reg2.aD ?_;intro w7 dC _ gF;clear gF;dsimp only[List.drop];have iH:=aC.out.trans (dC.mono aC.out.size);go_wp2_with fail;go_ret;exact⟨rfl,iH⟩
theorem KP (h:CW w c t d p v g a m P)(hl:jK P.T)(r:Rq)(hk:r.kind=1)(hw:r.width≤64)(hn:r.width≤P.T.length):Calls prog 232 #[.pointer (some ⟨c,0,none⟩),.agg (encR r).toArray] w fun e w'=>e=.returned (.int .i64 0)∧Below w.heap.size w w':=by
 have zR:=nO;obtain⟨k9,bB⟩:∃k,k=9:=⟨_,rfl⟩;rw[←bB]at zR;have hk0:¬k9=0:=by omega
 have lR:=jY r;rw[←bB]at lR;replace bB:=qae bB;obtain⟨wA,aj⟩:=qaa (w.alloc (.cells (encR r).toArray 33));have aC:Hid (Below w.heap.size w wA):=by show Below _ _ _;rw[aj];exact qac.alloc (qaf _) _
 have aH:Hid (wA.heap[w.heap.size]? =some (.cells (encR r).toArray 33 (0,0))):=by show _=_;rw[aj];exact heap_alloc_new w _
 have kr:=qae (h.kept aC.out);have hno:=fun(W:World) (hW:Below wA.heap.size wA W)=>og (kr.out.kept hW);have hsz:=fun(W:World) (hW:Below wA.heap.size wA W)=>qM (kr.out.kept hW).nodes hl;have yg:=fun(W:World)=>qJ r W;have e0:(encR r)[0]? =some (.int .i64 r.kind):=rfl;have e3:(encR r)[3]? =some (.int .i64 r.width):=rfl;generalize r.kind=rk at*;generalize r.width=rw at*;generalize bD r=rf at*;generalize encR r=cR at*;generalize (P.T.length:Int)=nl at*;have d1:(rk != 1)=false:=by simp[hk]
 replace hk:=qae hk;have d2:decide (rw>64)=false:=qah (by omega);have d3:decide (rw≤nl)=true:=qag hn;clear h;go_enter func232,ntmps232;go_wp2_with fail;rw[←aj];replace aj:=qae aj;refine Reg2.ro wA 20 30 [.p 0,.m 1,.p 3,.p 7,.m 15,.p 31,.p 63,.p 127,.p 255,.m 511,.p 1023,.p 2047,.p 4095,.p 8191,.m 16383,.p 8191,.p 40959,.p 106495,.m 237567,.m 499711] [.bool false,.int .i64 rk,.int .i64 rw,.int .i64 rw,.pointer (some ⟨d,0,none⟩),.int .i64 nl] (by kernel_rfl) (by kernel_rfl) rfl rfl ⟨rfl,rfl,rfl,qaf _,fun _ _=>rfl⟩ ?_;dsimp only[Reg2.fF]
 repeat(refine' Reg2.ak _ (by rfl) (fun wz=>?_) ?_;rotate_left;(go_simp;first|rfl|rw[qai (by omega)]);simp only[Act.put,xA,xB,xC,xD,xE,id])
 refine Reg2.pm (fun wz hI hF=>?_) (fun r1=>?_) (by rfl)
 ·go_wp2_with (go_at_call 71;go_must (refine(hno wz hI).mono ?_);rintro e w' ⟨rfl,rfl⟩)
  first|exact⟨_,rfl,rfl,qad⟩|exact⟨_,rfl,⟨(),rfl,trivial⟩,qad⟩
 simp only[Act.put,xA,xB,xC,xD,xE,id]
 repeat((first
  |(refine' Reg2.ak _ (by rfl) (fun wz=>?_) ?_;rotate_left;(go_simp;first|rfl|rw[qai (by omega)]))
  |(refine Reg2.az (by rfl) (fun wz hI hF=>?_) (fun _=>?_)
    ·unfold Reg2.One;have q0:wz.cell? ⟨w.heap.size,0,none⟩=some (.int .i64 rk):=by simp[World.cell?,(hI.block _ (ai aH.out)).trans aH.out,e0]
     have F8:wz.cell? ⟨w.heap.size,3,none⟩=some (.int .i64 rw):=by simp[World.cell?,(hI.block _ (ai aH.out)).trans aH.out,e3]
     have c0:=(kr.out.kept hI).c1;go_wp2_with fail
     first|exact⟨_,rfl,rfl,qad⟩|exact⟨_,rfl,⟨(),rfl,trivial⟩,qad⟩));simp only[Act.put,xA,xB,xC,xD,xE,id])
 refine Reg2.pm (fun wz hI hF=>?_) (fun Zt=>?_) (by rfl)
 ·go_wp2_with (go_at_call 72;go_must (refine(hsz wz hI).mono ?_);rintro e w' ⟨rfl,rfl⟩)
  first|exact⟨_,rfl,rfl,qad⟩|exact⟨_,rfl,⟨(),rfl,trivial⟩,qad⟩
 simp only[Act.put,xA,xB,xC,xD,xE,id];refine Reg2.aD ?_;intro w7 dC _ gF;clear gF;dsimp only[List.drop];have iH:=aC.out.trans (dC.mono aC.out.size);go_wp2_with fail;go_ret;exact⟨rfl,iH⟩
theorem Nu (h:CW w c t d p v g a m P)(hl:jK P.T)(r:Rq)(hk:r.kind=1)(hw:r.width≤64)(hn:¬r.width≤P.T.length)(hrf:bD r=1):Calls prog 232 #[.pointer (some ⟨c,0,none⟩),.agg (encR r).toArray] w fun e w'=>e=.returned (.int .i64 0)∧Below w.heap.size w w':=by
 have zR:=nO;obtain⟨k9,bB⟩:∃k,k=9:=⟨_,rfl⟩;rw[←bB]at zR;have hk0:¬k9=0:=by omega
 have lR:=jY r;rw[←bB]at lR;replace bB:=qae bB;obtain⟨wA,aj⟩:=qaa (w.alloc (.cells (encR r).toArray 33));have aC:Hid (Below w.heap.size w wA):=by show Below _ _ _;rw[aj];exact qac.alloc (qaf _) _
 have aH:Hid (wA.heap[w.heap.size]? =some (.cells (encR r).toArray 33 (0,0))):=by show _=_;rw[aj];exact heap_alloc_new w _
 have kr:=qae (h.kept aC.out);have hno:=fun(W:World) (hW:Below wA.heap.size wA W)=>og (kr.out.kept hW);have hsz:=fun(W:World) (hW:Below wA.heap.size wA W)=>qM (kr.out.kept hW).nodes hl;have yg:=fun(W:World)=>qJ r W;have e0:(encR r)[0]? =some (.int .i64 r.kind):=rfl;have e3:(encR r)[3]? =some (.int .i64 r.width):=rfl;generalize r.kind=rk at*;generalize r.width=rw at*;generalize bD r=rf at*;generalize encR r=cR at*;generalize (P.T.length:Int)=nl at*;have d1:(rk != 1)=false:=by simp[hk]
 replace hk:=qae hk;have d2:decide (rw>64)=false:=qah (by omega);have d3:decide (rw≤nl)=false:=qah hn;subst hrf;clear h;go_enter func232,ntmps232;go_wp2_with fail;rw[←aj];replace aj:=qae aj;refine Reg2.ro wA 20 30 [.p 0,.m 1,.p 3,.p 7,.m 15,.p 31,.p 63,.p 127,.p 255,.m 511,.p 1023,.p 2047,.p 4095,.p 8191,.m 16383,.p 8191,.p 40959,.p 106495,.m 237567,.m 499711] [.bool false,.int .i64 rk,.int .i64 rw,.int .i64 rw,.pointer (some ⟨d,0,none⟩),.int .i64 nl] (by kernel_rfl) (by kernel_rfl) rfl rfl ⟨rfl,rfl,rfl,qaf _,fun _ _=>rfl⟩ ?_;dsimp only[Reg2.fF]
 repeat(refine' Reg2.ak _ (by rfl) (fun wz=>?_) ?_;rotate_left;(go_simp;first|rfl|rw[qai (by omega)]);simp only[Act.put,xA,xB,xC,xD,xE,id])
 refine Reg2.pm (fun wz hI hF=>?_) (fun r1=>?_) (by rfl)
 ·go_wp2_with (go_at_call 71;go_must (refine(hno wz hI).mono ?_);rintro e w' ⟨rfl,rfl⟩)
  first|exact⟨_,rfl,rfl,qad⟩|exact⟨_,rfl,⟨(),rfl,trivial⟩,qad⟩
 simp only[Act.put,xA,xB,xC,xD,xE,id]
 repeat((first
  |(refine' Reg2.ak _ (by rfl) (fun wz=>?_) ?_;rotate_left;(go_simp;first|rfl|rw[qai (by omega)]))
  |(refine Reg2.az (by rfl) (fun wz hI hF=>?_) (fun _=>?_)
    ·unfold Reg2.One;have q0:wz.cell? ⟨w.heap.size,0,none⟩=some (.int .i64 rk):=by simp[World.cell?,(hI.block _ (ai aH.out)).trans aH.out,e0]
     have F8:wz.cell? ⟨w.heap.size,3,none⟩=some (.int .i64 rw):=by simp[World.cell?,(hI.block _ (ai aH.out)).trans aH.out,e3]
     have c0:=(kr.out.kept hI).c1;go_wp2_with fail
     first|exact⟨_,rfl,rfl,qad⟩|exact⟨_,rfl,⟨(),rfl,trivial⟩,qad⟩));simp only[Act.put,xA,xB,xC,xD,xE,id])
 refine Reg2.pm (fun wz hI hF=>?_) (fun Zt=>?_) (by rfl)
 ·go_wp2_with (go_at_call 72;go_must (refine(hsz wz hI).mono ?_);rintro e w' ⟨rfl,rfl⟩)
  first|exact⟨_,rfl,rfl,qad⟩|exact⟨_,rfl,⟨(),rfl,trivial⟩,qad⟩
 simp only[Act.put,xA,xB,xC,xD,xE,id];refine Reg2.aD ?_;intro w7 dC _ gF;clear gF;dsimp only[List.drop];have iH:=aC.out.trans (dC.mono aC.out.size);have Cb:w7.heap[w.heap.size]? =some (.cells cR.toArray 33 (0,0)):=(dC.block _ (ai aH.out)).trans aH.out;have VV:=gX Cb lR;have XU:=yg w7;go_wp2_with (go_at_call 185;go_must (refine XU.mono ?_);rintro e w8 ⟨rfl,ob,rfl⟩);go_ret;exact⟨rfl,iH.alloc iH.size _⟩
theorem KQ (h:CW w c t d p v g a m P)(hl:jK P.T)(r:Rq)(hk:r.kind=1)(hw:r.width≤64)(hn:¬r.width≤P.T.length)(hrf:¬bD r=1):Calls prog 232 #[.pointer (some ⟨c,0,none⟩),.agg (encR r).toArray] w fun e w'=>e=.returned (.int .i64 9)∧Below w.heap.size w w':=by
 have zR:=nO;obtain⟨k9,bB⟩:∃k,k=9:=⟨_,rfl⟩;rw[←bB]at zR;have hk0:¬k9=0:=by omega
 have lR:=jY r;rw[←bB]at lR;replace bB:=qae bB;obtain⟨wA,aj⟩:=qaa (w.alloc (.cells (encR r).toArray 33));have aC:Hid (Below w.heap.size w wA):=by show Below _ _ _;rw[aj];exact qac.alloc (qaf _) _
 have aH:Hid (wA.heap[w.heap.size]? =some (.cells (encR r).toArray 33 (0,0))):=by show _=_;rw[aj];exact heap_alloc_new w _
 have kr:=qae (h.kept aC.out);have hno:=fun(W:World) (hW:Below wA.heap.size wA W)=>og (kr.out.kept hW);have hsz:=fun(W:World) (hW:Below wA.heap.size wA W)=>qM (kr.out.kept hW).nodes hl;have yg:=fun(W:World)=>qJ r W;have e0:(encR r)[0]? =some (.int .i64 r.kind):=rfl;have e3:(encR r)[3]? =some (.int .i64 r.width):=rfl;generalize r.kind=rk at*;generalize r.width=rw at*;generalize bD r=rf at*;generalize encR r=cR at*;generalize (P.T.length:Int)=nl at*;have d1:(rk != 1)=false:=by simp[hk]
 replace hk:=qae hk;have d2:decide (rw>64)=false:=qah (by omega);have d3:decide (rw≤nl)=false:=qah hn;have d5:(rf == 1)=false:=by simp[hrf]
 clear h;go_enter func232,ntmps232;go_wp2_with fail;rw[←aj];replace aj:=qae aj;refine Reg2.ro wA 20 30 [.p 0,.m 1,.p 3,.p 7,.m 15,.p 31,.p 63,.p 127,.p 255,.m 511,.p 1023,.p 2047,.p 4095,.p 8191,.m 16383,.p 8191,.p 40959,.p 106495,.m 237567,.m 499711] [.bool false,.int .i64 rk,.int .i64 rw,.int .i64 rw,.pointer (some ⟨d,0,none⟩),.int .i64 nl] (by kernel_rfl) (by kernel_rfl) rfl rfl ⟨rfl,rfl,rfl,qaf _,fun _ _=>rfl⟩ ?_;dsimp only[Reg2.fF]
 repeat(refine' Reg2.ak _ (by rfl) (fun wz=>?_) ?_;rotate_left;(go_simp;first|rfl|rw[qai (by omega)]);simp only[Act.put,xA,xB,xC,xD,xE,id])
 refine Reg2.pm (fun wz hI hF=>?_) (fun r1=>?_) (by rfl)
 ·go_wp2_with (go_at_call 71;go_must (refine(hno wz hI).mono ?_);rintro e w' ⟨rfl,rfl⟩)
  first|exact⟨_,rfl,rfl,qad⟩|exact⟨_,rfl,⟨(),rfl,trivial⟩,qad⟩
 simp only[Act.put,xA,xB,xC,xD,xE,id]
 repeat((first
  |(refine' Reg2.ak _ (by rfl) (fun wz=>?_) ?_;rotate_left;(go_simp;first|rfl|rw[qai (by omega)]))
  |(refine Reg2.az (by rfl) (fun wz hI hF=>?_) (fun _=>?_)
    ·unfold Reg2.One;have q0:wz.cell? ⟨w.heap.size,0,none⟩=some (.int .i64 rk):=by simp[World.cell?,(hI.block _ (ai aH.out)).trans aH.out,e0]
     have F8:wz.cell? ⟨w.heap.size,3,none⟩=some (.int .i64 rw):=by simp[World.cell?,(hI.block _ (ai aH.out)).trans aH.out,e3]
     have c0:=(kr.out.kept hI).c1;go_wp2_with fail
     first|exact⟨_,rfl,rfl,qad⟩|exact⟨_,rfl,⟨(),rfl,trivial⟩,qad⟩));simp only[Act.put,xA,xB,xC,xD,xE,id])
 refine Reg2.pm (fun wz hI hF=>?_) (fun Zt=>?_) (by rfl)
 ·go_wp2_with (go_at_call 72;go_must (refine(hsz wz hI).mono ?_);rintro e w' ⟨rfl,rfl⟩)
  first|exact⟨_,rfl,rfl,qad⟩|exact⟨_,rfl,⟨(),rfl,trivial⟩,qad⟩
 simp only[Act.put,xA,xB,xC,xD,xE,id];refine Reg2.aD ?_;intro w7 dC _ gF;clear gF;dsimp only[List.drop];have iH:=aC.out.trans (dC.mono aC.out.size);have Cb:w7.heap[w.heap.size]? =some (.cells cR.toArray 33 (0,0)):=(dC.block _ (ai aH.out)).trans aH.out;have VV:=gX Cb lR;have XU:=yg w7;go_wp2_with (go_at_call 185;go_must (refine XU.mono ?_);rintro e w8 ⟨rfl,ob,rfl⟩);go_ret;exact⟨rfl,iH.alloc iH.size _⟩
theorem xw (h:CW w c t d p v g a m P)(hl:jK P.T)(r:Rq):Calls prog 232 #[.pointer (some ⟨c,0,none⟩),.agg (encR r).toArray] w fun e w'=>e=.returned (.int .i64 (pE P.T.length r))∧Below w.heap.size w w':=by
 unfold pE;by_cases h1:r.kind=1
 ·by_cases h2:r.width≤64
  ·by_cases h3:r.width≤P.T.length
   ·rw[qai (by omega)];exact KP h hl r h1 h2 h3
   ·by_cases h4:bD r=1
    ·rw[qai (by simp[h4])];exact Nu h hl r h1 h2 h3 h4
    ·rw[qaj ⟨h1,by omega,h2,h4⟩];exact KQ h hl r h1 h2 h3 h4
  ·rw[qai (by omega)];exact KO h hl r h1 (by omega)
 ·rw[qai (by simp[h1])];exact KN h hl r h1
end
end Go.Proofs.YtaimcpmcndapcaaGreat
