/-
 Own words and walks, merged: part 3 of 8.
-/
import Derived.Shelf.SlGeneric
import Derived.Shelf.SlSortCmp.InsertionK
import Derived.Ground.SlsfProg
import Derived.Test.YtaimcpmcndapcaaGreatProg
import Derived.Shelf.SlSortFuncK.ComposeK
import Derived.Laws.ResultCell
import Derived.BigQuiet
import Derived.Test.YtaimcpmcndapcaaGreatLw2
set_option maxRecDepth 1000000
set_option maxHeartbeats 8000000
set_option linter.all false
namespace Go.Proofs.YtaimcpmcndapcaaGreat
open Go.Proofs.Tryz
open Go.RowKit Go.Sort Go.Lib Go.Shelf
section
variable {α : Type} [Inhabited α] {enc : α → List Value} {w : World} {blk off cap : Nat} {d d0 : Array α} {cf : α → α → Int} {g : Nat}
def qE (enc:α→List Value)(k:Nat)(w:World)(blk off:Nat)(r:Array α)(e:Ending)(w':World):Prop:=e=.returned (.tuple #[])∧∃q' os',w'=sortWorldK enc k w blk off q' r os'
def UX (lt:α→α→Bool)(f a m b mid s:Nat)(d:Array α):Array α:=
 if mid<mid+m-s∧mid+m-s<b then Sb.symF lt f mid (mid+m-s) b (if a<s∧s<mid then Sb.symF lt f a s mid (if s<m∧m<mid+m-s then Sb.mH m (m-s) (mid+m-s-m) d else d)else(if s<m∧m<mid+m-s then Sb.mH m (m-s) (mid+m-s-m) d else d))
 else(if a<s∧s<mid then Sb.symF lt f a s mid (if s<m∧m<mid+m-s then Sb.mH m (m-s) (mid+m-s-m) d else d)else(if s<m∧m<mid+m-s then Sb.mH m (m-s) (mid+m-s-m) d else d))
theorem KJ {lt:α→α→Bool}{f a m b:Nat}{d:Array α}(c1:¬m-a=1)(c2:¬b-m=1):Sb.symF lt (f+1) a m b d=UX lt f a m b ((a+b)/2) (Sb.tu lt a m b d) d:=by
 rw[Sb.symF,qai c1,qai c2];rfl
theorem QA (k:Nat)(zE:∀w,Sem.run prog (Go.sizeOf 55) w=.ok k w)(f a m b q:Nat)(os:Array Obj)(hE:lD enc k)(hC:oO prog g enc k cf blk off d0.size w)(hH:HoldsK enc k w blk off d0)(hs:d.size=d0.size)(hblk:blk<w.heap.size)
 (h1:a+1<m) (h2:m+1<b) (hb:b≤d.size) (hsz:d.size<4611686018427387904)
 (ih:∀(a m b q:Nat) (os:Array Obj) (di:Array α),b-a≤f→a<m→m<b→b≤d.size→di.size=d.size→
  Calls prog 255 #[.slice (some ⟨blk,off,none⟩) d.size cap,.int .i64 a,.int .i64 m,.int .i64 b,.func (.func g) #[] #[]] (sortWorldK enc k w blk off q di os) (qE enc k w blk off (Sb.symF (ltOf cf) f a m b di)))
 (hf:b-a≤f+1):
 Calls prog 255 #[.slice (some ⟨blk,off,none⟩) d.size cap,.int .i64 a,.int .i64 m,.int .i64 b,.func (.func g) #[] #[]] (sortWorldK enc k w blk off q d os) (qE enc k w blk off (Sb.symF (ltOf cf) (f+1) a m b d)):=by
 have eg:=hC.eg;have nA:=FU;replace hs:=qae hs;rw[KJ (by omega) (by omega)];have hcb:=Sb.zG (lt:=ltOf cf) (d:=d) (show a<m by omega) (show m<b by omega);obtain⟨s,FV⟩:=qaa (Sb.tu (ltOf cf) a m b d);rw[←FV]at hcb⊢;have hcut:Hid (s=if(a+b)/2<m then Sb.fK (fun c=>!ltOf cf d[(a+b)/2+m-1-c]! d[c]!) ((a+b)/2+m-b) ((a+b)/2)else Sb.fK (fun c=>!ltOf cf d[(a+b)/2+m-1-c]! d[c]!) a m):=by
  show _=_;rw[FV];rfl
 clear FV;obtain⟨mid,hmid⟩:=qaa ((a+b)/2);rw[←hmid]at hcb hcut⊢;have Zy:((a:Int)+(b:Int))/2=(mid:Int):=by omega
 have ZU:a<mid:=by omega
 have ZV:mid<b:=by omega
 have Zz:2*mid≤a+b:=by omega
 have ZA:a+b≤2*mid+1:=by omega
 replace hmid:=qae hmid;obtain⟨p,hp⟩:=qaa (mid+m-1);rw[←hp]at hcut;obtain⟨F,hF⟩:∃F:Nat→Bool,F=fun c=>!ltOf cf d[p-c]! d[c]! :=⟨_,rfl⟩;have hF2:Hid (∀h,F h= !decide (cf d[p-h]! d[h]! <0)):=fun h=>by rw[hF];rfl
 rw[←hF]at hcut;replace hF:=qae hF;obtain⟨e,he⟩:=qaa (mid+m-s);have wn:IntKind.i64.wrap ((mid:Int)+(m:Int))=(mid:Int)+(m:Int):=by rw[IntKind.wrap_i64];omega
 have wp:IntKind.i64.wrap ((mid:Int)+(m:Int)-1)=(p:Int):=by rw[IntKind.wrap_i64];omega
 have we:IntKind.i64.wrap ((mid:Int)+(m:Int)-(s:Int))=(e:Int):=by rw[IntKind.wrap_i64];omega
 have YR:IntKind.i64.wrap ((m:Int)-(a:Int))=(m:Int)-(a:Int):=by rw[IntKind.wrap_i64];omega
 have YS:((m:Int)-(a:Int) == 1)=false:=by simp;omega
 have wd2:IntKind.i64.wrap ((b:Int)-(m:Int))=(b:Int)-(m:Int):=by rw[IntKind.wrap_i64];omega
 have wd3:((b:Int)-(m:Int) == 1)=false:=by simp;omega
 have hpm:m≤p:=by omega
 have Oe:Hid (p=mid+m-1):=hp;have hsz1:∀x,x<d.size→(x:Int)<(d.size:Int):=fun x h=>by omega
 obtain⟨d1,hd1⟩:=qaa (if s<m∧m<e then Sb.mH m (m-s) (e-m) d else d);obtain⟨d2,hd2⟩:=qaa (if a<s∧s<mid then Sb.symF (ltOf cf) f a s mid d1 else d1);have z1:d1.size=d.size:=by
  rw[hd1];by_cases c3:s<m∧m<e
  ·rw[qaj c3];exact(Sb.yF _ m (m-s) (e-m) d (qaf _) (by omega) (by omega) (by omega) (by omega)).1
  ·rw[qai c3]
 have z2:d2.size=d.size:=by
  rw[hd2];by_cases c3:a<s∧s<mid
  ·rw[qaj c3,Sb.wC f a s mid d1 c3.1 c3.2 (by omega),z1]
  ·rw[qai c3,z1]
 obtain⟨r,hr⟩:=qaa (UX (ltOf cf) f a m b mid s d);rw[←hr];have hr2:Hid (r=if mid<e∧e<b then Sb.symF (ltOf cf) f mid e b d2 else d2):=by
  show _=_;rw[hr,hd2,hd1,he];rfl
 clear hr;have CC:Aside _:=fun(x y q:Nat) (os:Array Obj) (hx:x<d.size) (hy:y<d.size)=>wD (q:=q) (os:=os) hE hC hH hs.out hblk hx hy;have RC:Aside _:=fun(s m e q:Nat) (os:Array Obj) (h1:s<m) (h2:m<e) (h3:e≤d.size)=>KI (cap:=cap) k zE (.func (.func g) #[] #[]) s m e q os hE hH hs.out hblk h1 h2 h3 hsz;have IH:Aside _:=ih;clear hC hH hE ih hp;obtain⟨ZW,ZX,ZY,ZZ⟩:=hcb;have Z0:m≤e:=by omega
 have Z4:e≤b:=by omega
 have Z5:mid≤e:=by omega
 replace he:=qae he;replace hd1:=qae hd1;replace hd2:=qae hd2;by_cases hmm:mid<m
 ·replace hcut:Hid (s=Sb.fK F (mid+m-b) mid):=by show _=_;rw[hcut.out,qaj hmm]
  have bm:(mid:Int)<(m:Int):=by omega
  obtain⟨lo,hlo⟩:=qaa (mid+m-b);have Z6:IntKind.i64.wrap ((mid:Int)+(m:Int)-(b:Int))=(lo:Int):=by rw[IntKind.wrap_i64];omega
  rw[←hlo]at hcut;have l1:a≤lo:=by omega
  have l2:lo≤mid:=by omega
  have l3:p<lo+b:=by have:=Oe.out;omega
  have l4:m+mid≤p+1:=by have:=Oe.out;omega
  replace hlo:=qae hlo;go_enter func255,ntmps255;go_wp2_with fail;go_loopw [20,21] (fun ii jj wr=>∃(i j qi:Nat) (oi:Array Obj),ii=.int .i64 i∧jj=.int .i64 j∧lo≤i∧i≤j∧j≤mid∧wr=sortWorldK enc k w blk off qi d oi∧Hid (Sb.fK F i j=s)) (fun ii jj _=>(intOf jj).toNat-(intOf ii).toNat)
  case atStart=>exact⟨lo,mid,q,os,rfl,rfl,qaf _,l2,qaf _,rfl,hcut.out.symm⟩
  case round=>
   obtain⟨i,j,qi,oi,rfl,rfl,Ig,hij,hjb,rfl,HI⟩:=hrel;by_cases hlt:i<j
   ·have b2:(i:Int)<(j:Int):=by omega
    obtain⟨hm,hhm⟩:∃x:Nat,x=(i+j)/2:=⟨_,rfl⟩;have eh:((i:Int)+(j:Int))/2=(hm:Int):=by omega
    have vW:hm<d.size:=by omega
    have VH:(hm:Int)<(d.size:Int):=by omega
    have wh:IntKind.i64.wrap ((hm:Int)+1)=(hm:Int)+1:=by rw[IntKind.wrap_i64];omega
    obtain⟨ph,KL⟩:∃x:Nat,x=p-hm:=⟨_,rfl⟩;have YT:IntKind.i64.wrap ((p:Int)-(hm:Int))=(ph:Int):=by rw[IntKind.wrap_i64];omega
    have VI:(ph:Int)<(d.size:Int):=by omega
    obtain⟨cls,lx,ly,cg⟩:=CC.out ph hm qi oi (by omega) vW;have HI2:Hid ((F hm=true→Sb.fK F (hm+1) j=s)∧(F hm=false→Sb.fK F i hm=s)):=
     ⟨fun hf=>by rw[←HI.out,Sb.qB hlt (by rw[←hhm];exact hf),hhm],fun hf=>by rw[←HI.out,Sb.uT hlt (by rw[←hhm];exact hf),hhm]⟩
    have o1:i≤hm:=by omega
    have o2:hm<j:=by omega
    have rF:Hid (F hm= !decide (cf d[ph]! d[hm]! <0)):=by show _=_;rw[KL];exact hF2.out hm
    replace hhm:=qae hhm;replace KL:=qae KL;have CLS:Hid _:=cls;clear cls HI;generalize hwq:sortWorldK enc k w blk off qi d oi=wq at lx ly cg CLS⊢;replace hwq:=qae hwq;generalize d[ph]! =X at*;generalize d[hm]! =Y at*;by_cases hlv:cf X Y<0
    ·have oP:F hm=false:=by rw[rF.out,qag hlv];rfl
     have nb:(!decide (cf X Y<0))=false:=by rw[qag hlv];rfl
     have HI3:Hid _:=HI2.out.2 oP;clear HI2 rF oP;go_wp2_with fail;go_quiet_grown (first|(go_at_fn g;refine Calls.grown_of (cg _ _)));go_wp2_with fail;go_roundw
     case rel=>exact⟨i,hm,qi+nq,oi++osq,rfl,by go_num,Ig,o1,by omega,CLS.out nq osq,HI3⟩
     case measure=>simp[intOf];omega
    ·have oP:F hm=true:=by rw[rF.out,qah hlv];rfl
     have nb:(!decide (cf X Y<0))=true:=by rw[qah hlv];rfl
     have HI3:Hid _:=HI2.out.1 oP;clear HI2 rF oP;go_wp2_with fail;go_quiet_grown (first|(go_at_fn g;refine Calls.grown_of (cg _ _)));go_wp2_with fail;go_roundw
     case rel=>exact⟨hm+1,j,qi+nq,oi++osq,by go_num,rfl,by omega,by omega,hjb,CLS.out nq osq,HI3⟩
     case measure=>simp[intOf];omega
   ·obtain rfl:i=j:=by omega
    rw[Sb.kR hlt]at HI;obtain rfl:i=s:=HI.out;clear HI hcut hF2;have b2:¬(i:Int)<(i:Int):=by omega
    by_cases c3:i<m∧m<e
    ·have QB:(i:Int)<(m:Int):=by omega
     have VJ:(m:Int)<(e:Int):=by omega
     have QC:decide ((i:Int)<(m:Int))=true:=qag QB;have VK:decide ((m:Int)<(e:Int))=true:=qag VJ;have hc1:=RC.out i m e qi oi c3.1 c3.2 (by omega);replace hd1:Hid (d1=Sb.mH m (m-i) (e-m) d):=by show _=_;rw[hd1.out,qaj c3]
     rw[←hd1.out]at hc1;generalize sortWorldK enc k w blk off qi d oi=wq at hc1⊢;go_wp2_with fail;go_at_call 274;refine hc1.mono ?_;clear hc1;rintro e7 w7 ⟨rfl,q7,rfl⟩;by_cases c4:a<i∧i<mid
     ·have tJ:(a:Int)<(i:Int):=by omega
      have BA:(i:Int)<(mid:Int):=by omega
      have tK:decide ((a:Int)<(i:Int))=true:=qag tJ;have BB:decide ((i:Int)<(mid:Int))=true:=qag BA;have hc2:=IH.out a i mid q7 oi d1 (by omega) c4.1 c4.2 (by omega) z1;replace hd2:Hid (d2=Sb.symF (ltOf cf) f a i mid d1):=by show _=_;rw[hd2.out,qaj c4]
      rw[←hd2.out]at hc2;generalize sortWorldK enc k w blk off q7 d1 oi=wq at hc2⊢;go_wp2_with fail;go_at_call 255;refine hc2.mono ?_;clear hc2;rintro e8 w8 ⟨rfl,q8,o8,rfl⟩;by_cases c5:mid<e∧e<b
      ·have gm:(mid:Int)<(e:Int):=by omega
       have jP:(e:Int)<(b:Int):=by omega
       have gp:decide ((mid:Int)<(e:Int))=true:=qag gm;have jQ:decide ((e:Int)<(b:Int))=true:=qag jP;have hc3:=IH.out mid e b q8 o8 d2 (by omega) (by omega) (by omega) hb z2;replace hr2:Hid (r=Sb.symF (ltOf cf) f mid e b d2):=by show _=_;rw[hr2.out,qaj c5]
       generalize sortWorldK enc k w blk off q8 d2 o8=wq at hc3⊢;go_wp2_with (go_at_call 255;go_must (refine hc3.mono ?_);rintro e9 w9 ⟨rfl,q9,o9,rfl⟩)
       all_goals(go_end0;exact⟨rfl,q9,o9,by rw[hr2.out]⟩)
      ·replace hr2:Hid (r=d2):=by show _=_;rw[hr2.out,qai c5]
       generalize hwq:sortWorldK enc k w blk off q8 d2 o8=wq;by_cases gm:mid<e
       ·have gp:decide ((mid:Int)<(e:Int))=true:=qag (by omega);have dO:¬(e:Int)<(b:Int):=by omega
        have jQ:decide ((e:Int)<(b:Int))=false:=qah dO;go_wp2_with fail
        all_goals(go_end0;exact⟨rfl,_,_,by rw[hr2.out,hwq]⟩)
       ·have dO:¬(mid:Int)<(e:Int):=by omega
        have gp:decide ((mid:Int)<(e:Int))=false:=qah dO;go_wp2_with fail
        all_goals(go_end0;exact⟨rfl,_,_,by rw[hr2.out,hwq]⟩)
     ·have tL:d2=d1:=by rw[hd2.out,qai c4]
      subst tL;by_cases tJ:a<i
      ·have tK:decide ((a:Int)<(i:Int))=true:=qag (by omega);have oQ:¬(i:Int)<(mid:Int):=by omega
       have BB:decide ((i:Int)<(mid:Int))=false:=qah oQ;by_cases c5:mid<e∧e<b
       ·have gm:(mid:Int)<(e:Int):=by omega
        have jP:(e:Int)<(b:Int):=by omega
        have gp:decide ((mid:Int)<(e:Int))=true:=qag gm;have jQ:decide ((e:Int)<(b:Int))=true:=qag jP;have hc3:=IH.out mid e b q7 oi d2 (by omega) (by omega) (by omega) hb z2;replace hr2:Hid (r=Sb.symF (ltOf cf) f mid e b d2):=by show _=_;rw[hr2.out,qaj c5]
        generalize sortWorldK enc k w blk off q7 d2 oi=wq at hc3⊢;go_wp2_with (go_at_call 255;go_must (refine hc3.mono ?_);rintro e9 w9 ⟨rfl,q9,o9,rfl⟩)
        all_goals(go_end0;exact⟨rfl,q9,o9,by rw[hr2.out]⟩)
       ·replace hr2:Hid (r=d2):=by show _=_;rw[hr2.out,qai c5]
        generalize hwq:sortWorldK enc k w blk off q7 d2 oi=wq;by_cases gm:mid<e
        ·have gp:decide ((mid:Int)<(e:Int))=true:=qag (by omega);have dO:¬(e:Int)<(b:Int):=by omega
         have jQ:decide ((e:Int)<(b:Int))=false:=qah dO;go_wp2_with fail
         all_goals(go_end0;exact⟨rfl,_,_,by rw[hr2.out,hwq]⟩)
        ·have dO:¬(mid:Int)<(e:Int):=by omega
         have gp:decide ((mid:Int)<(e:Int))=false:=qah dO;go_wp2_with fail
         all_goals(go_end0;exact⟨rfl,_,_,by rw[hr2.out,hwq]⟩)
      ·have oQ:¬(a:Int)<(i:Int):=by omega
       have tK:decide ((a:Int)<(i:Int))=false:=qah oQ;by_cases c5:mid<e∧e<b
       ·have gm:(mid:Int)<(e:Int):=by omega
        have jP:(e:Int)<(b:Int):=by omega
        have gp:decide ((mid:Int)<(e:Int))=true:=qag gm;have jQ:decide ((e:Int)<(b:Int))=true:=qag jP;have hc3:=IH.out mid e b q7 oi d2 (by omega) (by omega) (by omega) hb z2;replace hr2:Hid (r=Sb.symF (ltOf cf) f mid e b d2):=by show _=_;rw[hr2.out,qaj c5]
        generalize sortWorldK enc k w blk off q7 d2 oi=wq at hc3⊢;go_wp2_with (go_at_call 255;go_must (refine hc3.mono ?_);rintro e9 w9 ⟨rfl,q9,o9,rfl⟩)
        all_goals(go_end0;exact⟨rfl,q9,o9,by rw[hr2.out]⟩)
       ·replace hr2:Hid (r=d2):=by show _=_;rw[hr2.out,qai c5]
        generalize hwq:sortWorldK enc k w blk off q7 d2 oi=wq;by_cases gm:mid<e
        ·have gp:decide ((mid:Int)<(e:Int))=true:=qag (by omega);have dO:¬(e:Int)<(b:Int):=by omega
         have jQ:decide ((e:Int)<(b:Int))=false:=qah dO;go_wp2_with fail
         all_goals(go_end0;exact⟨rfl,_,_,by rw[hr2.out,hwq]⟩)
        ·have dO:¬(mid:Int)<(e:Int):=by omega
         have gp:decide ((mid:Int)<(e:Int))=false:=qah dO;go_wp2_with fail
         all_goals(go_end0;exact⟨rfl,_,_,by rw[hr2.out,hwq]⟩)
    ·have QD:d1=d:=by rw[hd1.out,qai c3]
     subst QD;by_cases QB:i<m
     ·have QC:decide ((i:Int)<(m:Int))=true:=qag (by omega);have KM:¬(m:Int)<(e:Int):=by omega
      have VK:decide ((m:Int)<(e:Int))=false:=qah KM;by_cases c4:a<i∧i<mid
      ·have tJ:(a:Int)<(i:Int):=by omega
       have BA:(i:Int)<(mid:Int):=by omega
       have tK:decide ((a:Int)<(i:Int))=true:=qag tJ;have BB:decide ((i:Int)<(mid:Int))=true:=qag BA;have hc2:=IH.out a i mid qi oi d1 (by omega) c4.1 c4.2 (by omega) z1;replace hd2:Hid (d2=Sb.symF (ltOf cf) f a i mid d1):=by show _=_;rw[hd2.out,qaj c4]
       rw[←hd2.out]at hc2;generalize sortWorldK enc k w blk off qi d1 oi=wq at hc2⊢;go_wp2_with fail;go_at_call 255;refine hc2.mono ?_;clear hc2;rintro e8 w8 ⟨rfl,q8,o8,rfl⟩;by_cases c5:mid<e∧e<b
       ·have gm:(mid:Int)<(e:Int):=by omega
        have jP:(e:Int)<(b:Int):=by omega
        have gp:decide ((mid:Int)<(e:Int))=true:=qag gm;have jQ:decide ((e:Int)<(b:Int))=true:=qag jP;have hc3:=IH.out mid e b q8 o8 d2 (by omega) (by omega) (by omega) hb z2;replace hr2:Hid (r=Sb.symF (ltOf cf) f mid e b d2):=by show _=_;rw[hr2.out,qaj c5]
        generalize sortWorldK enc k w blk off q8 d2 o8=wq at hc3⊢;go_wp2_with (go_at_call 255;go_must (refine hc3.mono ?_);rintro e9 w9 ⟨rfl,q9,o9,rfl⟩)
        all_goals(go_end0;exact⟨rfl,q9,o9,by rw[hr2.out]⟩)
       ·replace hr2:Hid (r=d2):=by show _=_;rw[hr2.out,qai c5]
        generalize hwq:sortWorldK enc k w blk off q8 d2 o8=wq;by_cases gm:mid<e
        ·have gp:decide ((mid:Int)<(e:Int))=true:=qag (by omega);have dO:¬(e:Int)<(b:Int):=by omega
         have jQ:decide ((e:Int)<(b:Int))=false:=qah dO;go_wp2_with fail
         all_goals(go_end0;exact⟨rfl,_,_,by rw[hr2.out,hwq]⟩)
        ·have dO:¬(mid:Int)<(e:Int):=by omega
         have gp:decide ((mid:Int)<(e:Int))=false:=qah dO;go_wp2_with fail
         all_goals(go_end0;exact⟨rfl,_,_,by rw[hr2.out,hwq]⟩)
      ·have tL:d2=d1:=by rw[hd2.out,qai c4]
       subst tL;by_cases tJ:a<i
       ·have tK:decide ((a:Int)<(i:Int))=true:=qag (by omega);have oQ:¬(i:Int)<(mid:Int):=by omega
        have BB:decide ((i:Int)<(mid:Int))=false:=qah oQ;by_cases c5:mid<e∧e<b
        ·have gm:(mid:Int)<(e:Int):=by omega
         have jP:(e:Int)<(b:Int):=by omega
         have gp:decide ((mid:Int)<(e:Int))=true:=qag gm;have jQ:decide ((e:Int)<(b:Int))=true:=qag jP;have hc3:=IH.out mid e b qi oi d2 (by omega) (by omega) (by omega) hb z2;replace hr2:Hid (r=Sb.symF (ltOf cf) f mid e b d2):=by show _=_;rw[hr2.out,qaj c5]
         generalize sortWorldK enc k w blk off qi d2 oi=wq at hc3⊢;go_wp2_with (go_at_call 255;go_must (refine hc3.mono ?_);rintro e9 w9 ⟨rfl,q9,o9,rfl⟩)
         all_goals(go_end0;exact⟨rfl,q9,o9,by rw[hr2.out]⟩)
        ·replace hr2:Hid (r=d2):=by show _=_;rw[hr2.out,qai c5]
         generalize hwq:sortWorldK enc k w blk off qi d2 oi=wq;by_cases gm:mid<e
         ·have gp:decide ((mid:Int)<(e:Int))=true:=qag (by omega);have dO:¬(e:Int)<(b:Int):=by omega
          have jQ:decide ((e:Int)<(b:Int))=false:=qah dO;go_wp2_with fail
          all_goals(go_end0;exact⟨rfl,_,_,by rw[hr2.out,hwq]⟩)
         ·have dO:¬(mid:Int)<(e:Int):=by omega
          have gp:decide ((mid:Int)<(e:Int))=false:=qah dO;go_wp2_with fail
          all_goals(go_end0;exact⟨rfl,_,_,by rw[hr2.out,hwq]⟩)
       ·have oQ:¬(a:Int)<(i:Int):=by omega
        have tK:decide ((a:Int)<(i:Int))=false:=qah oQ;by_cases c5:mid<e∧e<b
        ·have gm:(mid:Int)<(e:Int):=by omega
         have jP:(e:Int)<(b:Int):=by omega
         have gp:decide ((mid:Int)<(e:Int))=true:=qag gm;have jQ:decide ((e:Int)<(b:Int))=true:=qag jP;have hc3:=IH.out mid e b qi oi d2 (by omega) (by omega) (by omega) hb z2;replace hr2:Hid (r=Sb.symF (ltOf cf) f mid e b d2):=by show _=_;rw[hr2.out,qaj c5]
         generalize sortWorldK enc k w blk off qi d2 oi=wq at hc3⊢;go_wp2_with (go_at_call 255;go_must (refine hc3.mono ?_);rintro e9 w9 ⟨rfl,q9,o9,rfl⟩)
         all_goals(go_end0;exact⟨rfl,q9,o9,by rw[hr2.out]⟩)
        ·replace hr2:Hid (r=d2):=by show _=_;rw[hr2.out,qai c5]
         generalize hwq:sortWorldK enc k w blk off qi d2 oi=wq;by_cases gm:mid<e
         ·have gp:decide ((mid:Int)<(e:Int))=true:=qag (by omega);have dO:¬(e:Int)<(b:Int):=by omega
          have jQ:decide ((e:Int)<(b:Int))=false:=qah dO;go_wp2_with fail
          all_goals(go_end0;exact⟨rfl,_,_,by rw[hr2.out,hwq]⟩)
         ·have dO:¬(mid:Int)<(e:Int):=by omega
          have gp:decide ((mid:Int)<(e:Int))=false:=qah dO;go_wp2_with fail
          all_goals(go_end0;exact⟨rfl,_,_,by rw[hr2.out,hwq]⟩)
     ·have KM:¬(i:Int)<(m:Int):=by omega
      have QC:decide ((i:Int)<(m:Int))=false:=qah KM;by_cases c4:a<i∧i<mid
      ·have tJ:(a:Int)<(i:Int):=by omega
       have BA:(i:Int)<(mid:Int):=by omega
       have tK:decide ((a:Int)<(i:Int))=true:=qag tJ;have BB:decide ((i:Int)<(mid:Int))=true:=qag BA;have hc2:=IH.out a i mid qi oi d1 (by omega) c4.1 c4.2 (by omega) z1;replace hd2:Hid (d2=Sb.symF (ltOf cf) f a i mid d1):=by show _=_;rw[hd2.out,qaj c4]
       rw[←hd2.out]at hc2;generalize sortWorldK enc k w blk off qi d1 oi=wq at hc2⊢;go_wp2_with fail;go_at_call 255;refine hc2.mono ?_;clear hc2;rintro e8 w8 ⟨rfl,q8,o8,rfl⟩;by_cases c5:mid<e∧e<b
       ·have gm:(mid:Int)<(e:Int):=by omega
        have jP:(e:Int)<(b:Int):=by omega
        have gp:decide ((mid:Int)<(e:Int))=true:=qag gm;have jQ:decide ((e:Int)<(b:Int))=true:=qag jP;have hc3:=IH.out mid e b q8 o8 d2 (by omega) (by omega) (by omega) hb z2;replace hr2:Hid (r=Sb.symF (ltOf cf) f mid e b d2):=by show _=_;rw[hr2.out,qaj c5]
        generalize sortWorldK enc k w blk off q8 d2 o8=wq at hc3⊢;go_wp2_with (go_at_call 255;go_must (refine hc3.mono ?_);rintro e9 w9 ⟨rfl,q9,o9,rfl⟩)
        all_goals(go_end0;exact⟨rfl,q9,o9,by rw[hr2.out]⟩)
       ·replace hr2:Hid (r=d2):=by show _=_;rw[hr2.out,qai c5]
        generalize hwq:sortWorldK enc k w blk off q8 d2 o8=wq;by_cases gm:mid<e
        ·have gp:decide ((mid:Int)<(e:Int))=true:=qag (by omega);have dO:¬(e:Int)<(b:Int):=by omega
         have jQ:decide ((e:Int)<(b:Int))=false:=qah dO;go_wp2_with fail
         all_goals(go_end0;exact⟨rfl,_,_,by rw[hr2.out,hwq]⟩)
        ·have dO:¬(mid:Int)<(e:Int):=by omega
         have gp:decide ((mid:Int)<(e:Int))=false:=qah dO;go_wp2_with fail
         all_goals(go_end0;exact⟨rfl,_,_,by rw[hr2.out,hwq]⟩)
      ·have tL:d2=d1:=by rw[hd2.out,qai c4]
       subst tL;by_cases tJ:a<i
       ·have tK:decide ((a:Int)<(i:Int))=true:=qag (by omega);have oQ:¬(i:Int)<(mid:Int):=by omega
        have BB:decide ((i:Int)<(mid:Int))=false:=qah oQ;by_cases c5:mid<e∧e<b
        ·have gm:(mid:Int)<(e:Int):=by omega
         have jP:(e:Int)<(b:Int):=by omega
         have gp:decide ((mid:Int)<(e:Int))=true:=qag gm;have jQ:decide ((e:Int)<(b:Int))=true:=qag jP;have hc3:=IH.out mid e b qi oi d2 (by omega) (by omega) (by omega) hb z2;replace hr2:Hid (r=Sb.symF (ltOf cf) f mid e b d2):=by show _=_;rw[hr2.out,qaj c5]
         generalize sortWorldK enc k w blk off qi d2 oi=wq at hc3⊢;go_wp2_with (go_at_call 255;go_must (refine hc3.mono ?_);rintro e9 w9 ⟨rfl,q9,o9,rfl⟩)
         all_goals(go_end0;exact⟨rfl,q9,o9,by rw[hr2.out]⟩)
        ·replace hr2:Hid (r=d2):=by show _=_;rw[hr2.out,qai c5]
         generalize hwq:sortWorldK enc k w blk off qi d2 oi=wq;by_cases gm:mid<e
         ·have gp:decide ((mid:Int)<(e:Int))=true:=qag (by omega);have dO:¬(e:Int)<(b:Int):=by omega
          have jQ:decide ((e:Int)<(b:Int))=false:=qah dO;go_wp2_with fail
          all_goals(go_end0;exact⟨rfl,_,_,by rw[hr2.out,hwq]⟩)
         ·have dO:¬(mid:Int)<(e:Int):=by omega
          have gp:decide ((mid:Int)<(e:Int))=false:=qah dO;go_wp2_with fail
          all_goals(go_end0;exact⟨rfl,_,_,by rw[hr2.out,hwq]⟩)
       ·have oQ:¬(a:Int)<(i:Int):=by omega
        have tK:decide ((a:Int)<(i:Int))=false:=qah oQ;by_cases c5:mid<e∧e<b
        ·have gm:(mid:Int)<(e:Int):=by omega
         have jP:(e:Int)<(b:Int):=by omega
         have gp:decide ((mid:Int)<(e:Int))=true:=qag gm;have jQ:decide ((e:Int)<(b:Int))=true:=qag jP;have hc3:=IH.out mid e b qi oi d2 (by omega) (by omega) (by omega) hb z2;replace hr2:Hid (r=Sb.symF (ltOf cf) f mid e b d2):=by show _=_;rw[hr2.out,qaj c5]
         generalize sortWorldK enc k w blk off qi d2 oi=wq at hc3⊢;go_wp2_with (go_at_call 255;go_must (refine hc3.mono ?_);rintro e9 w9 ⟨rfl,q9,o9,rfl⟩)
         all_goals(go_end0;exact⟨rfl,q9,o9,by rw[hr2.out]⟩)
        ·replace hr2:Hid (r=d2):=by show _=_;rw[hr2.out,qai c5]
         generalize hwq:sortWorldK enc k w blk off qi d2 oi=wq;by_cases gm:mid<e
         ·have gp:decide ((mid:Int)<(e:Int))=true:=qag (by omega);have dO:¬(e:Int)<(b:Int):=by omega
          have jQ:decide ((e:Int)<(b:Int))=false:=qah dO;go_wp2_with fail
          all_goals(go_end0;exact⟨rfl,_,_,by rw[hr2.out,hwq]⟩)
         ·have dO:¬(mid:Int)<(e:Int):=by omega
          have gp:decide ((mid:Int)<(e:Int))=false:=qah dO;go_wp2_with fail
          all_goals(go_end0;exact⟨rfl,_,_,by rw[hr2.out,hwq]⟩)
 ·replace hcut:Hid (s=Sb.fK F a m):=by show _=_;rw[hcut.out,qai hmm]
  have bm:¬(mid:Int)<(m:Int):=by omega
  have l2:a≤m:=by omega
  have l3:p<a+b:=by have:=Oe.out;omega
  have l4:m+mid≤p+1:=by have:=Oe.out;omega
  go_enter func255,ntmps255;go_wp2_with fail;go_loopw [20,21] (fun ii jj wr=>∃(i j qi:Nat) (oi:Array Obj),ii=.int .i64 i∧jj=.int .i64 j∧a≤i∧i≤j∧j≤m∧wr=sortWorldK enc k w blk off qi d oi∧Hid (Sb.fK F i j=s)) (fun ii jj _=>(intOf jj).toNat-(intOf ii).toNat)
  case atStart=>exact⟨a,m,q,os,rfl,rfl,qaf _,l2,qaf _,rfl,hcut.out.symm⟩
  case round=>
   obtain⟨i,j,qi,oi,rfl,rfl,Ig,hij,hjb,rfl,HI⟩:=hrel;by_cases hlt:i<j
   ·have b2:(i:Int)<(j:Int):=by omega
    obtain⟨hm,hhm⟩:∃x:Nat,x=(i+j)/2:=⟨_,rfl⟩;have eh:((i:Int)+(j:Int))/2=(hm:Int):=by omega
    have vW:hm<d.size:=by omega
    have VH:(hm:Int)<(d.size:Int):=by omega
    have wh:IntKind.i64.wrap ((hm:Int)+1)=(hm:Int)+1:=by rw[IntKind.wrap_i64];omega
    obtain⟨ph,KL⟩:∃x:Nat,x=p-hm:=⟨_,rfl⟩;have YT:IntKind.i64.wrap ((p:Int)-(hm:Int))=(ph:Int):=by rw[IntKind.wrap_i64];omega
    have VI:(ph:Int)<(d.size:Int):=by omega
    obtain⟨cls,lx,ly,cg⟩:=CC.out ph hm qi oi (by omega) vW;have HI2:Hid ((F hm=true→Sb.fK F (hm+1) j=s)∧(F hm=false→Sb.fK F i hm=s)):=
     ⟨fun hf=>by rw[←HI.out,Sb.qB hlt (by rw[←hhm];exact hf),hhm],fun hf=>by rw[←HI.out,Sb.uT hlt (by rw[←hhm];exact hf),hhm]⟩
    have o1:i≤hm:=by omega
    have o2:hm<j:=by omega
    have rF:Hid (F hm= !decide (cf d[ph]! d[hm]! <0)):=by show _=_;rw[KL];exact hF2.out hm
    replace hhm:=qae hhm;replace KL:=qae KL;have CLS:Hid _:=cls;clear cls HI;generalize hwq:sortWorldK enc k w blk off qi d oi=wq at lx ly cg CLS⊢;replace hwq:=qae hwq;generalize d[ph]! =X at*;generalize d[hm]! =Y at*;by_cases hlv:cf X Y<0
    ·have oP:F hm=false:=by rw[rF.out,qag hlv];rfl
     have nb:(!decide (cf X Y<0))=false:=by rw[qag hlv];rfl
     have HI3:Hid _:=HI2.out.2 oP;clear HI2 rF oP;go_wp2_with fail;go_quiet_grown (first|(go_at_fn g;refine Calls.grown_of (cg _ _)));go_wp2_with fail;go_roundw
     case rel=>exact⟨i,hm,qi+nq,oi++osq,rfl,by go_num,Ig,o1,by omega,CLS.out nq osq,HI3⟩
     case measure=>simp[intOf];omega
    ·have oP:F hm=true:=by rw[rF.out,qah hlv];rfl
     have nb:(!decide (cf X Y<0))=true:=by rw[qah hlv];rfl
     have HI3:Hid _:=HI2.out.1 oP;clear HI2 rF oP;go_wp2_with fail;go_quiet_grown (first|(go_at_fn g;refine Calls.grown_of (cg _ _)));go_wp2_with fail;go_roundw
     case rel=>exact⟨hm+1,j,qi+nq,oi++osq,by go_num,rfl,by omega,by omega,hjb,CLS.out nq osq,HI3⟩
     case measure=>simp[intOf];omega
   ·obtain rfl:i=j:=by omega
    rw[Sb.kR hlt]at HI;obtain rfl:i=s:=HI.out;clear HI hcut hF2;have b2:¬(i:Int)<(i:Int):=by omega
    by_cases c3:i<m∧m<e
    ·have QB:(i:Int)<(m:Int):=by omega
     have VJ:(m:Int)<(e:Int):=by omega
     have QC:decide ((i:Int)<(m:Int))=true:=qag QB;have VK:decide ((m:Int)<(e:Int))=true:=qag VJ;have hc1:=RC.out i m e qi oi c3.1 c3.2 (by omega);replace hd1:Hid (d1=Sb.mH m (m-i) (e-m) d):=by show _=_;rw[hd1.out,qaj c3]
     rw[←hd1.out]at hc1;generalize sortWorldK enc k w blk off qi d oi=wq at hc1⊢;go_wp2_with fail;go_at_call 274;refine hc1.mono ?_;clear hc1;rintro e7 w7 ⟨rfl,q7,rfl⟩;by_cases c4:a<i∧i<mid
     ·have tJ:(a:Int)<(i:Int):=by omega
      have BA:(i:Int)<(mid:Int):=by omega
      have tK:decide ((a:Int)<(i:Int))=true:=qag tJ;have BB:decide ((i:Int)<(mid:Int))=true:=qag BA;have hc2:=IH.out a i mid q7 oi d1 (by omega) c4.1 c4.2 (by omega) z1;replace hd2:Hid (d2=Sb.symF (ltOf cf) f a i mid d1):=by show _=_;rw[hd2.out,qaj c4]
      rw[←hd2.out]at hc2;generalize sortWorldK enc k w blk off q7 d1 oi=wq at hc2⊢;go_wp2_with fail;go_at_call 255;refine hc2.mono ?_;clear hc2;rintro e8 w8 ⟨rfl,q8,o8,rfl⟩;by_cases c5:mid<e∧e<b
      ·have gm:(mid:Int)<(e:Int):=by omega
       have jP:(e:Int)<(b:Int):=by omega
       have gp:decide ((mid:Int)<(e:Int))=true:=qag gm;have jQ:decide ((e:Int)<(b:Int))=true:=qag jP;have hc3:=IH.out mid e b q8 o8 d2 (by omega) (by omega) (by omega) hb z2;replace hr2:Hid (r=Sb.symF (ltOf cf) f mid e b d2):=by show _=_;rw[hr2.out,qaj c5]
       generalize sortWorldK enc k w blk off q8 d2 o8=wq at hc3⊢;go_wp2_with (go_at_call 255;go_must (refine hc3.mono ?_);rintro e9 w9 ⟨rfl,q9,o9,rfl⟩)
       all_goals(go_end0;exact⟨rfl,q9,o9,by rw[hr2.out]⟩)
      ·replace hr2:Hid (r=d2):=by show _=_;rw[hr2.out,qai c5]
       generalize hwq:sortWorldK enc k w blk off q8 d2 o8=wq;by_cases gm:mid<e
       ·have gp:decide ((mid:Int)<(e:Int))=true:=qag (by omega);have dO:¬(e:Int)<(b:Int):=by omega
        have jQ:decide ((e:Int)<(b:Int))=false:=qah dO;go_wp2_with fail
        all_goals(go_end0;exact⟨rfl,_,_,by rw[hr2.out,hwq]⟩)
       ·have dO:¬(mid:Int)<(e:Int):=by omega
        have gp:decide ((mid:Int)<(e:Int))=false:=qah dO;go_wp2_with fail
        all_goals(go_end0;exact⟨rfl,_,_,by rw[hr2.out,hwq]⟩)
     ·have tL:d2=d1:=by rw[hd2.out,qai c4]
      subst tL;by_cases tJ:a<i
      ·have tK:decide ((a:Int)<(i:Int))=true:=qag (by omega);have oQ:¬(i:Int)<(mid:Int):=by omega
       have BB:decide ((i:Int)<(mid:Int))=false:=qah oQ;by_cases c5:mid<e∧e<b
       ·have gm:(mid:Int)<(e:Int):=by omega
        have jP:(e:Int)<(b:Int):=by omega
        have gp:decide ((mid:Int)<(e:Int))=true:=qag gm;have jQ:decide ((e:Int)<(b:Int))=true:=qag jP;have hc3:=IH.out mid e b q7 oi d2 (by omega) (by omega) (by omega) hb z2;replace hr2:Hid (r=Sb.symF (ltOf cf) f mid e b d2):=by show _=_;rw[hr2.out,qaj c5]
        generalize sortWorldK enc k w blk off q7 d2 oi=wq at hc3⊢;go_wp2_with (go_at_call 255;go_must (refine hc3.mono ?_);rintro e9 w9 ⟨rfl,q9,o9,rfl⟩)
        all_goals(go_end0;exact⟨rfl,q9,o9,by rw[hr2.out]⟩)
       ·replace hr2:Hid (r=d2):=by show _=_;rw[hr2.out,qai c5]
        generalize hwq:sortWorldK enc k w blk off q7 d2 oi=wq;by_cases gm:mid<e
        ·have gp:decide ((mid:Int)<(e:Int))=true:=qag (by omega);have dO:¬(e:Int)<(b:Int):=by omega
         have jQ:decide ((e:Int)<(b:Int))=false:=qah dO;go_wp2_with fail
         all_goals(go_end0;exact⟨rfl,_,_,by rw[hr2.out,hwq]⟩)
        ·have dO:¬(mid:Int)<(e:Int):=by omega
         have gp:decide ((mid:Int)<(e:Int))=false:=qah dO;go_wp2_with fail
         all_goals(go_end0;exact⟨rfl,_,_,by rw[hr2.out,hwq]⟩)
      ·have oQ:¬(a:Int)<(i:Int):=by omega
       have tK:decide ((a:Int)<(i:Int))=false:=qah oQ;by_cases c5:mid<e∧e<b
       ·have gm:(mid:Int)<(e:Int):=by omega
        have jP:(e:Int)<(b:Int):=by omega
        have gp:decide ((mid:Int)<(e:Int))=true:=qag gm;have jQ:decide ((e:Int)<(b:Int))=true:=qag jP;have hc3:=IH.out mid e b q7 oi d2 (by omega) (by omega) (by omega) hb z2;replace hr2:Hid (r=Sb.symF (ltOf cf) f mid e b d2):=by show _=_;rw[hr2.out,qaj c5]
        generalize sortWorldK enc k w blk off q7 d2 oi=wq at hc3⊢;go_wp2_with (go_at_call 255;go_must (refine hc3.mono ?_);rintro e9 w9 ⟨rfl,q9,o9,rfl⟩)
        all_goals(go_end0;exact⟨rfl,q9,o9,by rw[hr2.out]⟩)
       ·replace hr2:Hid (r=d2):=by show _=_;rw[hr2.out,qai c5]
        generalize hwq:sortWorldK enc k w blk off q7 d2 oi=wq;by_cases gm:mid<e
        ·have gp:decide ((mid:Int)<(e:Int))=true:=qag (by omega);have dO:¬(e:Int)<(b:Int):=by omega
         have jQ:decide ((e:Int)<(b:Int))=false:=qah dO;go_wp2_with fail
         all_goals(go_end0;exact⟨rfl,_,_,by rw[hr2.out,hwq]⟩)
        ·have dO:¬(mid:Int)<(e:Int):=by omega
         have gp:decide ((mid:Int)<(e:Int))=false:=qah dO;go_wp2_with fail
         all_goals(go_end0;exact⟨rfl,_,_,by rw[hr2.out,hwq]⟩)
    ·have QD:d1=d:=by rw[hd1.out,qai c3]
     subst QD;by_cases QB:i<m
     ·have QC:decide ((i:Int)<(m:Int))=true:=qag (by omega);have KM:¬(m:Int)<(e:Int):=by omega
      have VK:decide ((m:Int)<(e:Int))=false:=qah KM;by_cases c4:a<i∧i<mid
      ·have tJ:(a:Int)<(i:Int):=by omega
       have BA:(i:Int)<(mid:Int):=by omega
       have tK:decide ((a:Int)<(i:Int))=true:=qag tJ;have BB:decide ((i:Int)<(mid:Int))=true:=qag BA;have hc2:=IH.out a i mid qi oi d1 (by omega) c4.1 c4.2 (by omega) z1;replace hd2:Hid (d2=Sb.symF (ltOf cf) f a i mid d1):=by show _=_;rw[hd2.out,qaj c4]
       rw[←hd2.out]at hc2;generalize sortWorldK enc k w blk off qi d1 oi=wq at hc2⊢;go_wp2_with fail;go_at_call 255;refine hc2.mono ?_;clear hc2;rintro e8 w8 ⟨rfl,q8,o8,rfl⟩;by_cases c5:mid<e∧e<b
       ·have gm:(mid:Int)<(e:Int):=by omega
        have jP:(e:Int)<(b:Int):=by omega
        have gp:decide ((mid:Int)<(e:Int))=true:=qag gm;have jQ:decide ((e:Int)<(b:Int))=true:=qag jP;have hc3:=IH.out mid e b q8 o8 d2 (by omega) (by omega) (by omega) hb z2;replace hr2:Hid (r=Sb.symF (ltOf cf) f mid e b d2):=by show _=_;rw[hr2.out,qaj c5]
        generalize sortWorldK enc k w blk off q8 d2 o8=wq at hc3⊢;go_wp2_with (go_at_call 255;go_must (refine hc3.mono ?_);rintro e9 w9 ⟨rfl,q9,o9,rfl⟩)
        all_goals(go_end0;exact⟨rfl,q9,o9,by rw[hr2.out]⟩)
       ·replace hr2:Hid (r=d2):=by show _=_;rw[hr2.out,qai c5]
        generalize hwq:sortWorldK enc k w blk off q8 d2 o8=wq;by_cases gm:mid<e
        ·have gp:decide ((mid:Int)<(e:Int))=true:=qag (by omega);have dO:¬(e:Int)<(b:Int):=by omega
         have jQ:decide ((e:Int)<(b:Int))=false:=qah dO;go_wp2_with fail
         all_goals(go_end0;exact⟨rfl,_,_,by rw[hr2.out,hwq]⟩)
        ·have dO:¬(mid:Int)<(e:Int):=by omega
         have gp:decide ((mid:Int)<(e:Int))=false:=qah dO;go_wp2_with fail
         all_goals(go_end0;exact⟨rfl,_,_,by rw[hr2.out,hwq]⟩)
      ·have tL:d2=d1:=by rw[hd2.out,qai c4]
       subst tL;by_cases tJ:a<i
       ·have tK:decide ((a:Int)<(i:Int))=true:=qag (by omega);have oQ:¬(i:Int)<(mid:Int):=by omega
        have BB:decide ((i:Int)<(mid:Int))=false:=qah oQ;by_cases c5:mid<e∧e<b
        ·have gm:(mid:Int)<(e:Int):=by omega
         have jP:(e:Int)<(b:Int):=by omega
         have gp:decide ((mid:Int)<(e:Int))=true:=qag gm;have jQ:decide ((e:Int)<(b:Int))=true:=qag jP;have hc3:=IH.out mid e b qi oi d2 (by omega) (by omega) (by omega) hb z2;replace hr2:Hid (r=Sb.symF (ltOf cf) f mid e b d2):=by show _=_;rw[hr2.out,qaj c5]
         generalize sortWorldK enc k w blk off qi d2 oi=wq at hc3⊢;go_wp2_with (go_at_call 255;go_must (refine hc3.mono ?_);rintro e9 w9 ⟨rfl,q9,o9,rfl⟩)
         all_goals(go_end0;exact⟨rfl,q9,o9,by rw[hr2.out]⟩)
        ·replace hr2:Hid (r=d2):=by show _=_;rw[hr2.out,qai c5]
         generalize hwq:sortWorldK enc k w blk off qi d2 oi=wq;by_cases gm:mid<e
         ·have gp:decide ((mid:Int)<(e:Int))=true:=qag (by omega);have dO:¬(e:Int)<(b:Int):=by omega
          have jQ:decide ((e:Int)<(b:Int))=false:=qah dO;go_wp2_with fail
          all_goals(go_end0;exact⟨rfl,_,_,by rw[hr2.out,hwq]⟩)
         ·have dO:¬(mid:Int)<(e:Int):=by omega
          have gp:decide ((mid:Int)<(e:Int))=false:=qah dO;go_wp2_with fail
          all_goals(go_end0;exact⟨rfl,_,_,by rw[hr2.out,hwq]⟩)
       ·have oQ:¬(a:Int)<(i:Int):=by omega
        have tK:decide ((a:Int)<(i:Int))=false:=qah oQ;by_cases c5:mid<e∧e<b
        ·have gm:(mid:Int)<(e:Int):=by omega
         have jP:(e:Int)<(b:Int):=by omega
         have gp:decide ((mid:Int)<(e:Int))=true:=qag gm;have jQ:decide ((e:Int)<(b:Int))=true:=qag jP;have hc3:=IH.out mid e b qi oi d2 (by omega) (by omega) (by omega) hb z2;replace hr2:Hid (r=Sb.symF (ltOf cf) f mid e b d2):=by show _=_;rw[hr2.out,qaj c5]
         generalize sortWorldK enc k w blk off qi d2 oi=wq at hc3⊢;go_wp2_with (go_at_call 255;go_must (refine hc3.mono ?_);rintro e9 w9 ⟨rfl,q9,o9,rfl⟩)
         all_goals(go_end0;exact⟨rfl,q9,o9,by rw[hr2.out]⟩)
        ·replace hr2:Hid (r=d2):=by show _=_;rw[hr2.out,qai c5]
         generalize hwq:sortWorldK enc k w blk off qi d2 oi=wq;by_cases gm:mid<e
         ·have gp:decide ((mid:Int)<(e:Int))=true:=qag (by omega);have dO:¬(e:Int)<(b:Int):=by omega
          have jQ:decide ((e:Int)<(b:Int))=false:=qah dO;go_wp2_with fail
          all_goals(go_end0;exact⟨rfl,_,_,by rw[hr2.out,hwq]⟩)
         ·have dO:¬(mid:Int)<(e:Int):=by omega
          have gp:decide ((mid:Int)<(e:Int))=false:=qah dO;go_wp2_with fail
          all_goals(go_end0;exact⟨rfl,_,_,by rw[hr2.out,hwq]⟩)
     ·have KM:¬(i:Int)<(m:Int):=by omega
      have QC:decide ((i:Int)<(m:Int))=false:=qah KM;by_cases c4:a<i∧i<mid
      ·have tJ:(a:Int)<(i:Int):=by omega
       have BA:(i:Int)<(mid:Int):=by omega
       have tK:decide ((a:Int)<(i:Int))=true:=qag tJ;have BB:decide ((i:Int)<(mid:Int))=true:=qag BA;have hc2:=IH.out a i mid qi oi d1 (by omega) c4.1 c4.2 (by omega) z1;replace hd2:Hid (d2=Sb.symF (ltOf cf) f a i mid d1):=by show _=_;rw[hd2.out,qaj c4]
       rw[←hd2.out]at hc2;generalize sortWorldK enc k w blk off qi d1 oi=wq at hc2⊢;go_wp2_with fail;go_at_call 255;refine hc2.mono ?_;clear hc2;rintro e8 w8 ⟨rfl,q8,o8,rfl⟩;by_cases c5:mid<e∧e<b
       ·have gm:(mid:Int)<(e:Int):=by omega
        have jP:(e:Int)<(b:Int):=by omega
        have gp:decide ((mid:Int)<(e:Int))=true:=qag gm;have jQ:decide ((e:Int)<(b:Int))=true:=qag jP;have hc3:=IH.out mid e b q8 o8 d2 (by omega) (by omega) (by omega) hb z2;replace hr2:Hid (r=Sb.symF (ltOf cf) f mid e b d2):=by show _=_;rw[hr2.out,qaj c5]
        generalize sortWorldK enc k w blk off q8 d2 o8=wq at hc3⊢;go_wp2_with (go_at_call 255;go_must (refine hc3.mono ?_);rintro e9 w9 ⟨rfl,q9,o9,rfl⟩)
        all_goals(go_end0;exact⟨rfl,q9,o9,by rw[hr2.out]⟩)
       ·replace hr2:Hid (r=d2):=by show _=_;rw[hr2.out,qai c5]
        generalize hwq:sortWorldK enc k w blk off q8 d2 o8=wq;by_cases gm:mid<e
        ·have gp:decide ((mid:Int)<(e:Int))=true:=qag (by omega);have dO:¬(e:Int)<(b:Int):=by omega
         have jQ:decide ((e:Int)<(b:Int))=false:=qah dO;go_wp2_with fail
         all_goals(go_end0;exact⟨rfl,_,_,by rw[hr2.out,hwq]⟩)
        ·have dO:¬(mid:Int)<(e:Int):=by omega
         have gp:decide ((mid:Int)<(e:Int))=false:=qah dO;go_wp2_with fail
         all_goals(go_end0;exact⟨rfl,_,_,by rw[hr2.out,hwq]⟩)
      ·have tL:d2=d1:=by rw[hd2.out,qai c4]
       subst tL;by_cases tJ:a<i
       ·have tK:decide ((a:Int)<(i:Int))=true:=qag (by omega);have oQ:¬(i:Int)<(mid:Int):=by omega
        have BB:decide ((i:Int)<(mid:Int))=false:=qah oQ;by_cases c5:mid<e∧e<b
        ·have gm:(mid:Int)<(e:Int):=by omega
         have jP:(e:Int)<(b:Int):=by omega
         have gp:decide ((mid:Int)<(e:Int))=true:=qag gm;have jQ:decide ((e:Int)<(b:Int))=true:=qag jP;have hc3:=IH.out mid e b qi oi d2 (by omega) (by omega) (by omega) hb z2;replace hr2:Hid (r=Sb.symF (ltOf cf) f mid e b d2):=by show _=_;rw[hr2.out,qaj c5]
         generalize sortWorldK enc k w blk off qi d2 oi=wq at hc3⊢;go_wp2_with (go_at_call 255;go_must (refine hc3.mono ?_);rintro e9 w9 ⟨rfl,q9,o9,rfl⟩)
         all_goals(go_end0;exact⟨rfl,q9,o9,by rw[hr2.out]⟩)
        ·replace hr2:Hid (r=d2):=by show _=_;rw[hr2.out,qai c5]
         generalize hwq:sortWorldK enc k w blk off qi d2 oi=wq;by_cases gm:mid<e
         ·have gp:decide ((mid:Int)<(e:Int))=true:=qag (by omega);have dO:¬(e:Int)<(b:Int):=by omega
          have jQ:decide ((e:Int)<(b:Int))=false:=qah dO;go_wp2_with fail
          all_goals(go_end0;exact⟨rfl,_,_,by rw[hr2.out,hwq]⟩)
         ·have dO:¬(mid:Int)<(e:Int):=by omega
          have gp:decide ((mid:Int)<(e:Int))=false:=qah dO;go_wp2_with fail
          all_goals(go_end0;exact⟨rfl,_,_,by rw[hr2.out,hwq]⟩)
       ·have oQ:¬(a:Int)<(i:Int):=by omega
        have tK:decide ((a:Int)<(i:Int))=false:=qah oQ;by_cases c5:mid<e∧e<b
        ·have gm:(mid:Int)<(e:Int):=by omega
         have jP:(e:Int)<(b:Int):=by omega
         have gp:decide ((mid:Int)<(e:Int))=true:=qag gm;have jQ:decide ((e:Int)<(b:Int))=true:=qag jP;have hc3:=IH.out mid e b qi oi d2 (by omega) (by omega) (by omega) hb z2;replace hr2:Hid (r=Sb.symF (ltOf cf) f mid e b d2):=by show _=_;rw[hr2.out,qaj c5]
         generalize sortWorldK enc k w blk off qi d2 oi=wq at hc3⊢;go_wp2_with (go_at_call 255;go_must (refine hc3.mono ?_);rintro e9 w9 ⟨rfl,q9,o9,rfl⟩)
         all_goals(go_end0;exact⟨rfl,q9,o9,by rw[hr2.out]⟩)
        ·replace hr2:Hid (r=d2):=by show _=_;rw[hr2.out,qai c5]
         generalize hwq:sortWorldK enc k w blk off qi d2 oi=wq;by_cases gm:mid<e
         ·have gp:decide ((mid:Int)<(e:Int))=true:=qag (by omega);have dO:¬(e:Int)<(b:Int):=by omega
          have jQ:decide ((e:Int)<(b:Int))=false:=qah dO;go_wp2_with fail
          all_goals(go_end0;exact⟨rfl,_,_,by rw[hr2.out,hwq]⟩)
         ·have dO:¬(mid:Int)<(e:Int):=by omega
          have gp:decide ((mid:Int)<(e:Int))=false:=qah dO;go_wp2_with fail
          all_goals(go_end0;exact⟨rfl,_,_,by rw[hr2.out,hwq]⟩)
theorem TP (k:Nat)(zE:∀w,Sem.run prog (Go.sizeOf 55) w=.ok k w)(hE:lD enc k)(hC:oO prog g enc k cf blk off d0.size w)(hH:HoldsK enc k w blk off d0)(hs:d.size=d0.size)(hblk:blk<w.heap.size)(hsz:d.size<4611686018427387904):
 ∀(f a m b q:Nat) (os:Array Obj) (di:Array α),b-a≤f→a<m→m<b→b≤d.size→di.size=d.size→
  Calls prog 255 #[.slice (some ⟨blk,off,none⟩) d.size cap,.int .i64 a,.int .i64 m,.int .i64 b,.func (.func g) #[] #[]] (sortWorldK enc k w blk off q di os) (qE enc k w blk off (Sb.symF (ltOf cf) f a m b di)):=by
 intro f
 induction f with
 |zero=>intro a m b q os di hf h1 h2;omega
 |succ f ih=>
  intro a m b q os di hf h1 h2 h3 h4;have hs':=h4.trans hs;rw[←h4]at h3 hsz;rw[←h4];by_cases c1:m-a=1
  ·have:=Qy (cap:=cap) k zE a m b q os hE hC hH hs' hblk (by omega) h2 h3 hsz;rw[Sb.symF,qaj c1];exact this
  ·by_cases c2:b-m=1
   ·have:=Qz (cap:=cap) k zE a m b q os hE hC hH hs' hblk (by omega) (by omega) h3 hsz;rw[Sb.symF,qai c1,qaj c2];exact this
   ·exact QA k zE f a m b q os hE hC hH hs' hblk (by omega) (by omega) h3 hsz (fun a m b q os dj e1 e2 e3 e4 e5=>by
     have:=ih a m b q os dj e1 e2 e3 (by rw[←h4];exact e4) (e5.trans h4);rw[h4];exact this) hf
end
end Go.Proofs.YtaimcpmcndapcaaGreat


namespace Go.Proofs
open Go.Proofs.Tryz
open Go.Shelf
def insJ_ren :Go.Shelf.Ren:=⟨fun|20=>254|n=>n,fun|24=>55|22=>50|3=>3|25=>245|4=>4|0=>0|n=>n,fun|n=>n⟩
theorem insJ :Go.Proofs.SlLaysF0.n20 prog insJ_ren:={
 mixed:=by kernel_rfl
 f20:=⟨f254.name,by decide,func254.trans (congrArg some (by kernel_rfl))⟩
 t0:=underlying0
 a0:=isAgg0
 z0:=sizeOf0
 v0:=zeroValue0
 t3:=underlying3
 a3:=isAgg3
 z3:=sizeOf3
 v3:=zeroValue3
 t4:=underlying4
 a4:=isAgg4
 z4:=sizeOf4
 v4:=zeroValue4
 t22:=underlying50
 a22:=isAgg50
 z22:=sizeOf50
 v22:=zeroValue50
 t25:=underlying245
 a25:=isAgg245
 z25:=sizeOf245
 v25:=zeroValue245}
end Go.Proofs

namespace Go.Proofs.YtaimcpmcndapcaaGreat
open Go.Proofs.Tryz
open Go.RowKit Go.Sort Go.Lib Go.Shelf
namespace Sb
variable {α : Type} [Inhabited α] {lt : α → α → Bool}
theorem QE {n a:Nat}{d:Array α}(h:a+20≤n):nN lt n a d=nN lt n (a+20) (insertionSort lt d a (a+20)):=by rw[nN,qaj h]
theorem KN {n a:Nat}{d:Array α}(h:¬a+20≤n):nN lt n a d=insertionSort lt d a n:=by rw[nN,qai h]
theorem QF {s n a:Nat}{d:Array α}(hs:0<s)(h:a+2*s≤n):mg lt s n a d=mg lt s n (a+2*s) (symF lt (2*s) a (a+s) (a+2*s) d):=by rw[mg,qaj ⟨hs,h⟩]
theorem KO {s n a:Nat}{d:Array α}(h:¬a+2*s≤n)(h2:a+s<n):mg lt s n a d=symF lt (n-a) a (a+s) n d:=by rw[mg,qai (by omega),qaj h2]
theorem KP {s n a:Nat}{d:Array α}(h:¬a+2*s≤n)(h2:¬a+s<n):mg lt s n a d=d:=by rw[mg,qai (by omega),qai h2]
theorem QG {n s:Nat}{d:Array α}(hs:0<s)(h:s<n):pQ lt n s d=pQ lt n (2*s) (mg lt s n 0 d):=by rw[pQ,qaj ⟨hs,h⟩]
theorem KQ {n s:Nat}{d:Array α}(h:¬s<n):pQ lt n s d=d:=by rw[pQ,qai (by omega)]
theorem BC (a:Nat):∀(j:Nat) (d:Array α),(insInner lt a j d).size=d.size:=by
 intro j
 induction j with
 |zero=>intro d;rfl
 |succ j ih=>
  intro d;unfold insInner;split
  ·rw[ih,swp_size]
  ·rfl
theorem BD (a b:Nat):∀(t i:Nat) (d:Array α),b-i=t→(insOuter lt a b i d).size=d.size:=by
 intro t
 induction t with
 |zero=>intro i d ht;rw[insOuter_stop lt a b i d (by omega)]
 |succ t ih=>intro i d ht;rw[insOuter_go lt a b i d (by omega),ih (i+1) _ (by omega),BC]
theorem yI (a b:Nat)(d:Array α):(insertionSort lt d a b).size=d.size:=BD a b _ (a+1) d rfl
end Sb
section
variable {α : Type} [Inhabited α] {enc : α → List Value} {w : World} {blk off cap : Nat} {d d0 : Array α} {cf : α → α → Int} {g : Nat}
theorem oO.on {k q:Nat}{os:Array Obj}(hC:oO prog g enc k cf blk off d0.size w)(hs:d.size=d0.size)(hblk:blk<w.heap.size):CmpLays prog g #[] enc k cf blk off d.size (sortWorldK enc k w blk off q d os):=by
 intro m os' dk hk x y;rw[sortWorldK_on enc k w blk off q m d dk os os' hblk hk];exact hC.lays (q+m) (os++os') dk (hk.trans hs) x y
theorem TQ (k:Nat)(aE:∀w,Sem.run prog (isAgg 55) w=.ok true w)(zE:∀w,Sem.run prog (Go.sizeOf 55) w=.ok k w)(a b q:Nat)(os:Array Obj)(hE:lD enc k)(hC:oO prog g enc k cf blk off d0.size w)(hH:HoldsK enc k w blk off d0)(hs:d.size=d0.size)(hblk:blk<w.heap.size)(hab:a≤b)(hb:b≤d.size)(hsz:d.size<4611686018427387904):
 Calls prog 254 #[.slice (some ⟨blk,off,none⟩) d.size cap,.int .i64 a,.int .i64 b,.func (.func g) #[] #[]] (sortWorldK enc k w blk off q d os) (qE enc k w blk off (insertionSort (ltOf cf) d a b)):=by
 have hW:HoldsK enc k (sortWorldK enc k w blk off q d os) blk off d:=holdsK_sortWorldK_c enc k w blk off d0 d q os hH hblk hs;have hb2:=size_sortWorldK_c enc k w blk off q d os;refine(AnyQ.insertionSortCmpFunc insJ k aE zE enc hE.len hE.one cf g #[] blk off cap a b d _ hC.eg (hC.on hs hblk) hW (by omega) hab hb hsz).mono ?_;rintro e w' ⟨rfl,n,os',rfl⟩;refine⟨rfl,q+n,os++os',?_⟩;rw[sortWorldK_on enc k w blk off q n d _ os os' hblk (Sb.yI a b d)]
theorem KR (k:Nat)(aE:∀w,Sem.run prog (isAgg 55) w=.ok true w)(zE:∀w,Sem.run prog (Go.sizeOf 55) w=.ok k w)(hE:lD enc k)(hC:oO prog g enc k cf blk off d.size w)(hH:HoldsK enc k w blk off d)(hblk:blk<w.heap.size)(hsz:d.size<1152921504606846976):
 Calls prog 226 #[.slice (some ⟨blk,off,none⟩) d.size cap,.int .i64 d.size,.func (.func g) #[] #[]] w (qE enc k w blk off (Sb.xI (ltOf cf) d)):=by
 have h0:=sortWorldK_start enc k w blk off d hH;have INS:Aside _:=fun(a b q:Nat) (os:Array Obj) (di:Array α) (h1:di.size=d.size) (h2:a≤b) (h3:b≤di.size)=>TQ (cap:=cap) (d:=di) k aE zE a b q os hE hC hH h1 hblk h2 h3 (by omega);have WY:Aside _:=TP (cap:=cap) (d:=d) (d0:=d) k zE hE hC hH rfl hblk (by omega);clear hC hH;obtain⟨n,hn⟩:=qaa (d.size);rw[←hn];have hst:Hid (Sb.xI (ltOf cf) d=Sb.pQ (ltOf cf) n 20 (Sb.nN (ltOf cf) n 0 d)):=by rw[hn];rfl
 replace hsz:n<1152921504606846976:=by omega
 replace hn:=qae hn;obtain⟨lt,hlt⟩:=qaa (ltOf cf);rw[←hlt]at hst⊢;replace hlt:=qae hlt;replace h0:=qae h0;go_enter func226,ntmps226;go_wp2_with fail;go_loopw [7,8] (fun aa bb wr=>∃(a qi:Nat) (di:Array α) (oi:Array Obj),aa=.int .i64 a∧bb=.int .i64 ((a:Int)+20)∧a≤n∧di.size=n∧wr=sortWorldK enc k w blk off qi di oi∧Hid (Sb.nN lt n a di=Sb.nN lt n 0 d)) (fun aa _ _=>n-(intOf aa).toNat)
 case atStart=>exact⟨0,0,d,#[],rfl,rfl,Nat.zero_le _,hn.out.symm,h0.out.symm,rfl⟩
 case round=>
  obtain⟨a,qi,di,oi,rfl,rfl,Ic,hsi,rfl,HI⟩:=hrel;by_cases hgo:a+20≤n
  ·have b2:(a:Int)+20≤(n:Int):=by omega
   have wa:IntKind.i64.wrap ((a:Int)+20+20)=(a:Int)+20+20:=by rw[IntKind.wrap_i64];omega
   have hc:=INS.out a (a+20) qi oi di (hsi.trans hn.out) (by omega) (by omega);rw[hsi,←hlt.out]at hc;rw[show((a+20:Nat):Int)=(a:Int)+20 by omega]at hc;have hz:(insertionSort lt di a (a+20)).size=n:=by rw[Sb.yI];exact hsi
   rw[Sb.QE hgo]at HI;generalize sortWorldK enc k w blk off qi di oi=wq at hc⊢;generalize insertionSort lt di a (a+20)=dj at hc hz HI;go_wp2_with (go_at_call 254;go_must (refine hc.mono ?_);rintro e9 w9 ⟨rfl,q9,o9,rfl⟩);go_roundw
   case rel=>exact⟨a+20,q9,dj,o9,by go_num,by go_num,hgo,hz,rfl,HI⟩
   case measure=>simp[intOf];omega
  ·have b2:¬(a:Int)+20≤(n:Int):=by omega
   have hc:=INS.out a n qi oi di (hsi.trans hn.out) Ic (by omega);rw[hsi,←hlt.out]at hc;have hz:(insertionSort lt di a n).size=n:=by rw[Sb.yI];exact hsi
   rw[Sb.KN hgo]at HI;generalize sortWorldK enc k w blk off qi di oi=wq at hc⊢;generalize insertionSort lt di a n=dj at hc hz HI;rw[←HI.out]at hst;clear HI;go_wp2_with fail;go_at_call 254;refine hc.mono ?_;clear hc;rintro e9 w9 ⟨rfl,q9,o9,rfl⟩;generalize yJ:sortWorldK enc k w blk off q9 dj o9=w9;go_wp2_with fail;go_loopw [6] (fun ss wr=>∃(s qi:Nat) (di:Array α) (oi:Array Obj),ss=.int .i64 s∧0<s∧s<2305843009213693952∧di.size=n∧wr=sortWorldK enc k w blk off qi di oi∧Hid (Sb.pQ lt n s di=Sb.xI lt d)) (fun ss _=>n-(intOf ss).toNat)
   case atStart=>exact⟨20,q9,dj,o9,rfl,by omega,by omega,hz,yJ.symm,hst.out.symm⟩
   case round=>
    obtain⟨s,qj,dk,oj,rfl,hs0,hsm,hsk,rfl,HD⟩:=hrel;clear yJ hst hz;by_cases hsn:s<n
    ·have b3:(s:Int)<(n:Int):=by omega
     have ws:IntKind.i64.wrap (2*(s:Int))=2*(s:Int):=by rw[IntKind.wrap_i64];omega
     have ws':IntKind.i64.wrap ((s:Int)*2)=(s:Int)*2:=by rw[IntKind.wrap_i64];omega
     rw[Sb.QG hs0 hsn]at HD;generalize WZ:sortWorldK enc k w blk off qj dk oj=wj;go_wp2_with fail;go_loopw [7,8] (fun aa bb wr=>∃(a qi:Nat) (di:Array α) (oi:Array Obj),aa=.int .i64 a∧bb=.int .i64 ((a:Int)+2*(s:Int))∧a≤n∧di.size=n∧wr=sortWorldK enc k w blk off qi di oi∧Hid (Sb.mg lt s n a di=Sb.mg lt s n 0 dk)) (fun aa _ _=>n-(intOf aa).toNat)
     case atStart=>exact⟨0,qj,dk,oj,rfl,by go_num,Nat.zero_le _,hsk,WZ.symm,rfl⟩
     case round=>
      obtain⟨a,qi,di,oi,rfl,rfl,Ic,hsi,rfl,HI⟩:=hrel;clear WZ;have wm:IntKind.i64.wrap ((a:Int)+(s:Int))=(a:Int)+(s:Int):=by rw[IntKind.wrap_i64];omega
      by_cases hgo:a+2*s≤n
      ·have b4:(a:Int)+2*(s:Int)≤(n:Int):=by omega
       have wa:IntKind.i64.wrap ((a:Int)+2*(s:Int)+2*(s:Int))=(a:Int)+2*(s:Int)+2*(s:Int):=by rw[IntKind.wrap_i64];omega
       have hc:=WY.out (2*s) a (a+s) (a+2*s) qi oi di (by omega) (by omega) (by omega) (by have:=hn.out;omega) (hsi.trans hn.out);rw[←hn.out,←hlt.out,show((a+s:Nat):Int)=(a:Int)+(s:Int)by omega,show((a+2*s:Nat):Int)=(a:Int)+2*(s:Int)by omega]at hc;have hz:(Sb.symF lt (2*s) a (a+s) (a+2*s) di).size=n:=by rw[Sb.wC _ _ _ _ _ (by omega) (by omega) (by omega)];exact hsi
       rw[Sb.QF hs0 hgo]at HI;generalize sortWorldK enc k w blk off qi di oi=wq at hc⊢;generalize Sb.symF lt (2*s) a (a+s) (a+2*s) di=VL at hc hz HI;go_wp2_with (go_at_call 255;go_must (refine hc.mono ?_);rintro e9 w9 ⟨rfl,q9,o9,rfl⟩);go_roundw
       case rel=>exact⟨a+2*s,q9,VL,o9,by go_num,by go_num,hgo,hz,rfl,HI⟩
       case measure=>simp[intOf];omega
      ·have b4:¬(a:Int)+2*(s:Int)≤(n:Int):=by omega
       by_cases hl:a+s<n
       ·have b5:(a:Int)+(s:Int)<(n:Int):=by omega
        have hc:=WY.out (n-a) a (a+s) n qi oi di (by omega) (by omega) (by omega) (by have:=hn.out;omega) (hsi.trans hn.out);rw[←hn.out,←hlt.out,show((a+s:Nat):Int)=(a:Int)+(s:Int)by omega]at hc;have hz:(Sb.symF lt (n-a) a (a+s) n di).size=n:=by rw[Sb.wC _ _ _ _ _ (by omega) (by omega) (by omega)];exact hsi
        rw[Sb.KO hgo hl]at HI;generalize sortWorldK enc k w blk off qi di oi=wq at hc⊢;generalize Sb.symF lt (n-a) a (a+s) n di=VL at hc hz HI;rw[←HI.out]at HD;clear HI;go_wp2_with (go_at_call 255;go_must (refine hc.mono ?_);rintro e9 w9 ⟨rfl,q9,o9,rfl⟩);go_roundw
        case rel=>exact⟨2*s,q9,VL,o9,by go_num,by omega,by omega,hz,rfl,HD⟩
        case measure=>simp[intOf];omega
       ·have b5:¬(a:Int)+(s:Int)<(n:Int):=by omega
        rw[Sb.KP hgo hl]at HI;rw[←HI.out]at HD;clear HI;generalize hwq:sortWorldK enc k w blk off qi di oi=wq;go_wp2_with fail;go_roundw
        case rel=>exact⟨2*s,qi,di,oi,by go_num,by omega,by omega,hsi,hwq.symm,HD⟩
        case measure=>simp[intOf];omega
    ·have b3:¬(s:Int)<(n:Int):=by omega
     rw[Sb.KQ hsn]at HD;generalize hwq:sortWorldK enc k w blk off qj dk oj=wq;go_wp2_with fail;go_end0;exact⟨rfl,qj,oj,by rw[←HD.out,hwq]⟩
theorem BF (k:Nat)(aE:∀w,Sem.run prog (isAgg 55) w=.ok true w)(zE:∀w,Sem.run prog (Go.sizeOf 55) w=.ok k w)(hE:lD enc k)(hC:oO prog g enc k cf blk off d.size w)(hH:HoldsK enc k w blk off d)(hblk:blk<w.heap.size)(hsz:d.size<1152921504606846976):
 Calls prog 203 #[.slice (some ⟨blk,off,none⟩) d.size cap,.func (.func g) #[] #[]] w (qE enc k w blk off (Sb.xI (ltOf cf) d)):=by
 have hc:=KR (cap:=cap) k aE zE hE hC hH hblk hsz;clear hC hH hE;go_enter func203,ntmps203;go_wp2_with (go_at_call 226;go_must (refine hc.mono ?_);rintro e9 w9 ⟨rfl,q9,o9,rfl⟩);go_end0;exact⟨rfl,q9,o9,rfl⟩
end
end Go.Proofs.YtaimcpmcndapcaaGreat

namespace Go.Proofs.YtaimcpmcndapcaaGreat
open Go.Proofs.Tryz
open Go.RowKit Go.Lib Go.Sort Go.Shelf
theorem TR (l:List Jb):∀u∈l.flatMap ah,u.oneCell'=true:=by
 intro u hu;obtain⟨x,_,hx⟩:=List.mem_flatMap.1 hu;exact dH x u hx
theorem Ii {w:World}{b off:Nat}{l:List Jb}(h:∀i s j u,l[i]? =some s→(ah s)[j]? =some u→w.cell? ⟨b,off+(i*10+j),none⟩=some u):∀j u,(l.flatMap ah)[j]? =some u→w.cell? ((⟨b,off,none⟩:Addr).add j)=some u:=by
 intro j u hj;rw[Go.WideShapes.add_plain];have key:∀(l:List Jb) (j:Nat),(l.flatMap ah)[j]? =some u→∃i s q,l[i]? =some s∧(ah s)[q]? =some u∧j=i*10+q:=by
  intro l
  induction l with
  |nil=>intro j hj;simp at hj
  |cons a l ih=>
   intro j hj;rw[List.flatMap_cons]at hj;by_cases hlt:j<10
   ·rw[List.getElem?_append_left (by rw[ay];exact hlt)]at hj;exact⟨0,a,j,rfl,hj,by omega⟩
   ·rw[List.getElem?_append_right (by rw[ay];omega),ay]at hj;obtain⟨i,s,q,h1,h2,h3⟩:=ih _ hj;exact⟨i+1,s,q,h1,h2,by omega⟩
 obtain⟨i,s,q,h1,h2,rfl⟩:=key l j hj;exact h i s q u h1 h2
section
variable {w : World} {v : Value} {l : List Jb}
theorem TS (hr:aC ah 10 w v l):Src prog 10 50 v l.length (l.flatMap ah) w:=by
 obtain⟨ao,cap,rfl,q1,q2,q3⟩:=hr;by_cases h0:l.length=0
 ·have:l=[]:=List.eq_nil_of_length_eq_zero h0;subst this;rcases ao with _|a
  ·exact Src.ofNil w underlying50 cap
  ·exact Src.ofSlice w underlying50 a 0 cap [] rfl (fun j u hj=>by simp at hj) (fun u hu=>by simp at hu)
 ·obtain⟨b,off,rfl,hlt,hc⟩:=q3 (by omega);exact Src.ofSlice w underlying50 ⟨b,off,none⟩ l.length cap _ (mI l) (Ii hc) (TR l)
def oU (w:World)(l:List Jb)(e:Ending)(w':World):Prop:=
 ∃v',e=.returned v'∧w'.ownsRow w.heap.size 55 10 v' l.length (l.flatMap ah)∧Below w.heap.size w w'
theorem yK (hr:aC ah 10 w v l)(hl:l.length≤1000):Calls prog 108 #[v] w (oU w l):=by
 obtain⟨i0,hi0,hz0,hz1,hz2⟩:=info_parts xJ;have hr1:=hr.below ((Below.refl w.heap.size w).alloc (qaf _) (.cells #[] 55));have hown:(w.alloc (.cells #[] 55)).ownsRow w.heap.size 55 10 (.slice (some ⟨w.heap.size,0,none⟩) 0 0) 0 []:=qm (vs:=[]) rfl (qaf _) rfl (Nat.zero_le _);have hsrc:=qae (TS hr1);obtain⟨ao,cap,rfl,q1,q2,q3⟩:=hr;rcases ao with _|a
 ·have hz:l=[]:=by
   rcases Nat.eq_zero_or_pos l.length with h|h
   ·exact List.eq_nil_of_length_eq_zero h
   ·obtain⟨b,off,e,_⟩:=q3 h;cases e
  subst hz;have hnil:∀w:World,(binOp .eql 50 (.slice none 0 cap) (.slice none 0 0)).run prog w=.ok (.bool true) w:=fun w=>Lib.run_eql_slice_nil w _ _ _ _ _ _ _ underlying50;have hfin:Hid (oU w [] (.returned (.slice none 0 0)) w):=⟨_,rfl,World.ownsRow_nil w w.heap.size 55 10,Below.refl _ _⟩;clear hown hsrc q3 hr1;simp only[List.length_nil]at*;go_enter func108,ntmps108;go_wp2_with fail;go_ret;exact hfin.out
 ·have hnil:∀w:World,(binOp .eql 50 (.slice (some a) l.length cap) (.slice none 0 0)).run prog w=.ok (.bool false) w:=fun w=>Lib.run_eql_slice_nil w _ _ _ _ _ _ _ underlying50;obtain⟨n,hn⟩:=qab (l.length);rw[hn]at hnil hsrc hl⊢;clear q1 q2 q3 hr1;replace hn:=qae hn;go_enter func108,ntmps108;go_wp2_with (at_builtin;go_must (refine kL _ rfl (.tmp 5) (.tmp 6) 50 50 rfl w.heap.size 55 i0 (.agg (ah default).toArray) 10 80 underlying50 hi0 hz0 hz1 hz2 rfl (.slice (some ⟨w.heap.size,0,none⟩) 0 0) 0 [] rfl hown (.slice (some a) n cap) n (l.flatMap ah) rfl hsrc.out ?c2 ?c3 ?c4 ?c5))
  case c2=>unfold maxLen;omega
  case c3=>omega
  case c4=>simp
  case c5=>
   intro v' w2 hown3 hgrow;have hfin:Hid (oU w l (.returned v') w2):=⟨_,rfl,by rw[hn.out];exact hown3,((Below.refl _ w).alloc (qaf _) _).grown hgrow (by simp) (fun q hq=>by cases hq;exact qaf _)⟩;clear hown hgrow hown3 hsrc;go_wp2_with fail;go_ret;exact hfin.out
end
def tN (x:Jb×Nat):List Value:=ah x.1
theorem QH :lD tN 10:=⟨fun x=>ay x.1,fun x v hv=>dH x.1 v hv⟩
theorem YU :ltOf (fun x y:Jb×Nat=>zx x.1 y.1)=fun x y=>aP x.1 y.1:=by
 funext x y
 exact G9 x.1 y.1
theorem zI (a b:Jb):aP a b=true↔(b.prio<a.prio∨a.prio=b.prio∧a.id<b.id):=by
 unfold aP;simp
theorem zK (a b:Jb):aP a b=false↔¬(b.prio<a.prio∨a.prio=b.prio∧a.id<b.id):=by
 rw[←zI];simp
theorem Xa :SWO aP where
 irrefl x:=by rw[zK];omega
 trans x y z h1 h2:=by rw[zI]at*;omega
 ntrans x y z h1 h2:=by rw[zK]at*;omega
theorem KS (blk off size:Nat)(w:World):oO prog 204 tN 10 (fun x y=>zx x.1 y.1) blk off size w:=
 ⟨enters_of func204 (by kernel_rfl) rfl,fun _ _ _ _ x y=>zB x.1 y.1 _⟩
theorem QI (d:Array (Jb×Nat)):flatK tN 10 d=((d.toList.map (·.1)).flatMap ah).toArray:=by
 rw[Hd tN 10 (fun x=>ay x.1),List.flatMap_map];rfl
section
set_option maxHeartbeats 1000000
theorem Og (f:Value)(w:World):Calls prog 254 #[.slice none 0 0,.int .i64 0,.int .i64 0,f] w fun e w'=>e=.returned (.tuple #[])∧w=w':=by
 go_enter func254,ntmps254;go_wp2_with fail;go_loopw [8] (fun ii wr=>ii=.int .i64 1∧w=wr) (fun _ _=>0)
 case atStart=>exact⟨rfl,rfl⟩
 case round=>
  obtain⟨rfl,rfl⟩:=hrel;go_wp2_with fail;go_end0;exact⟨rfl,rfl⟩
theorem FW (f:Value)(w:World):Calls prog 226 #[.slice none 0 0,.int .i64 0,f] w fun e w'=>e=.returned (.tuple #[])∧w=w':=by
 have hi:=Og f w;go_enter func226,ntmps226;go_wp2_with fail;go_loopw [7,8] (fun aa bb wr=>aa=.int .i64 0∧bb=.int .i64 20∧w=wr) (fun _ _ _=>0)
 case atStart=>exact⟨rfl,rfl,rfl⟩
 case round=>
  obtain⟨rfl,rfl,rfl⟩:=hrel;go_wp2_with (go_at_call 254;go_must (refine hi.mono ?_);rintro e9 w9 ⟨rfl,rfl⟩);go_loopw [6] (fun ss wr=>ss=.int .i64 20∧w=wr) (fun _ _=>0)
  case atStart=>exact⟨rfl,rfl⟩
  case round=>
   obtain⟨rfl,rfl⟩:=hrel;go_wp2_with fail;go_end0;exact⟨rfl,rfl⟩
theorem yL (f:Value)(w:World):Calls prog 203 #[.slice none 0 0,f] w fun e w'=>e=.returned (.tuple #[])∧w=w':=by
 have hc:=FW f w;go_enter func203,ntmps203;go_wp2_with (go_at_call 226;go_must (refine hc.mono ?_);rintro e9 w9 ⟨rfl,rfl⟩);go_end0;exact⟨rfl,rfl⟩
end
def Oh (l r:List Jb):Prop:=r.length=l.length∧(∀i,i<l.length→Sb.Bv aP l i l.length<l.length∧r[Sb.Bv aP l i l.length]! =l[i]!)∧r.Perm l∧r.Pairwise fun x y=>aP y x=false
theorem El {base:Nat}(v:Value)(l:List Jb)(w:World)(h:w.ownsRow base 55 10 v l.length (l.flatMap ah))(hlen:l.length≤1000)(hbase:base≤w.heap.size):
 Calls prog 203 #[v,.func (.func 204) #[] #[]] w fun e w'=>e=.returned (.tuple #[])∧∃r,Oh l r∧w'.ownsRow base 55 10 v r.length (r.flatMap ah)∧Below base w w':=by
 by_cases hv:v=.slice none 0 0
 ·have hz:l.length=0:=by
   rcases h.2 with⟨_,h0⟩|⟨g,cap,cur,e0,_⟩
   ·exact h0
   ·rw[hv]at e0;cases e0
  have hz:l=[]:=List.eq_nil_of_length_eq_zero hz;subst hz;subst hv;refine(yL _ w).mono ?_;rintro e w' ⟨rfl,rfl⟩;exact⟨rfl,[],⟨rfl,fun i hi=>by simp at hi,List.Perm.refl _,List.Pairwise.nil⟩,h,Below.refl _ _⟩
 ·obtain⟨g,cap,rfl,hb,hlt,_,_,hH⟩:=Ko h hv;obtain⟨r,hr,hrs,hpos,Xb,Xc⟩:=Sb.Od (lt:=aP) Xa l;have hts:(Sb.tagged l).toArray.size=l.length:=by simp[Sb.tH]
  have YV:HoldsK tN 10 w g 0 (Sb.tagged l).toArray:=by
   unfold HoldsK;rw[QI];rw[show(Sb.tagged l).toArray.toList=Sb.tagged l from rfl,Sb.zD];exact hH
  have hc:=BF (cap:=cap) (d:=(Sb.tagged l).toArray) 10 isAgg55 sizeOf55 QH (KS g 0 _ w) YV hlt (by omega);rw[hts]at hc;rw[YU,←hr]at hc;refine hc.mono ?_;rintro e w' ⟨rfl,q,os,rfl⟩;have hrl:(r.toList.map (·.1)).length=l.length:=by simp[hrs]
  refine⟨rfl,r.toList.map (·.1),⟨hrl,fun i hi=>?_,Xb,Xc⟩,?_,?_⟩
  ·obtain⟨h1,h2⟩:=hpos i hi;refine⟨h1,?_⟩;rw[←h2];have h3:Sb.Bv aP l i l.length<r.size:=by omega
   rw[getElem!_pos r _ h3,getElem!_pos _ _ (by simpa using h3)];simp
  ·unfold sortWorldK putRowK;rw[QI,hrl];exact NS (Ha (q:=q) h (by rw[mI,mI,hrl])) os
  ·unfold sortWorldK putRowK;exact below_grow (below_putRow qac hb) (by simpa[putRow,mapBlock,Sort.ahead]using hbase) os
theorem Oi (v:Value)(l:List Jb)(w:World)(hr:aC ah 10 w v l)(hl:l.length≤1000):Calls prog 169 #[v] w fun e w'=>∃(v':Value) (r:List Jb),e=.returned v'∧aC ah 10 w' v' r∧r.length=l.length∧r.Perm l∧r.Pairwise (fun x y=>aP y x=false)∧Below w.heap.size w w':=by
 have hc:=yK hr (by omega);have hso:=fun(v:Value) (w1:World) (h:w1.ownsRow w.heap.size 55 10 v l.length (l.flatMap ah)) (hb:w.heap.size≤w1.heap.size)=>El v l w1 h (by omega) hb;clear hr;replace hso:=qae hso;go_enter func169,ntmps169;go_wp2_with fail;go_at_call 108;refine hc.mono ?_;clear hc;rintro e w1 ⟨v1,rfl,ho,hb⟩;have hs:=hso.out v1 w1 ho hb.size;clear hso ho;go_wp2_with fail;go_at_call 203;refine hs.mono ?_;clear hs;rintro e w2 ⟨rfl,r,⟨h1,_,h2,h5⟩,h3,h4⟩;have hfin:Hid (∃(v':Value) (r:List Jb),Ending.returned v1=.returned v'∧aC ah 10 w2 v' r∧r.length=l.length∧r.Perm l∧r.Pairwise (fun x y=>aP y x=false)∧Below w.heap.size w w2):=
  ⟨v1,r,rfl,aC.fA h3 ay rfl rfl,h1,h2,h5,hb.trans h4⟩
 clear h1 h2 h3 h4 h5 hb;go_wp2_with fail;go_ret;exact hfin.out
theorem dP {W:World}{p:Nat}{x:Jb}(h:W.heap[p]? =some (.cells (ah x).toArray 55 (0,0))):∀j u,(ah x)[j]? =some u→W.cell? ⟨p,j,none⟩=some u:=by
 intro j u hj;simp[World.cell?,h,hj]
theorem Ij (j:Jb)(v:Value)(l:List Jb)(w:World)(hr:aC ah 10 w v l)(hl:l.length≤900):Calls prog 261 #[.agg (ah j).toArray,v] w fun e w'=>∃v',e=.returned v'∧aC ah 10 w' v' (l.filter (aP j))∧Below w.heap.size w w':=by
 have zE:=bL;obtain⟨i0,hi0,hz0,hz1,hz2⟩:=info_parts xJ;obtain⟨w0,hw0⟩:=qaa (w.alloc (.cells (ah j).toArray 55));have hb0:Below w.heap.size w w0:=by rw[hw0];exact qac.alloc (qaf _) _
 have hsz0:w0.heap.size=w.heap.size+1:=by rw[hw0];simp
 have TT:w0.heap[w.heap.size]? =some (.cells (ah j).toArray 55 (0,0)):=by rw[hw0];exact heap_alloc_new w _
 have hr0:aC ah 10 w0 v l:=hr.below hb0;have lJ:=ay j;obtain⟨k,hk⟩:=qaa (10);rw[←hk]at zE lJ;have BX:Hid (∀W,Below w0.heap.size w0 W→Sem.run prog (loadCellsFrom ⟨w.heap.size,0,none⟩ 0 k #[]) W=.ok (ah j).toArray W):=fun W hW=>nZ ((hW.block _ (by omega)).trans TT) lJ;replace hk:=qae hk;obtain⟨ao,cap,rfl,q1,q2,q3⟩:=hr0;obtain⟨n,hn⟩:=qab (l.length);rw[hn]at q1 q3 hl⊢;have HQ:Hid (0<n→∃b off,ao=some ⟨b,off,none⟩∧nC w0 b off l):=fun hp=>by
  obtain⟨b,off,e1,e2,e3⟩:=q3 hp;exact⟨b,off,e1,e2,e3⟩
 have FX:cap≤9223372036854775807:=by unfold maxLen at q2;omega
 replace hn:=qae hn;clear q2 q3 hr;go_enter func261,ntmps261;go_wp2_with fail;rw[←hw0];replace hw0:=qae hw0;go_loopw [5,10] (fun oo ii wr=>∃(i:Nat),i≤n∧ii=.int .i64 i∧wr.ownsRow w0.heap.size 55 10 oo ((l.take i).filter (aP j)).length (((l.take i).filter (aP j)).flatMap ah)∧Below w0.heap.size w0 wr) (fun _ ii _=>n-(intOf ii).toNat)
 case atStart=>exact⟨0,Nat.zero_le _,rfl,by simpa using World.ownsRow_nil w0 w0.heap.size 55 10,Below.refl _ _⟩
 case round=>
  obtain⟨i,hin,rfl,hown,hbr⟩:=hrel;by_cases hlt:i<n
  ·have b2:(i:Int)<(n:Int):=by omega
   have wi:IntKind.i64.wrap ((i:Int)+1)=(i:Int)+1:=by rw[IntKind.wrap_i64];omega
   obtain⟨b,off,rfl,hJ⟩:=HQ.out (by omega);have sP:=hJ.below hbr;have iJ:i<l.length:=by have:=hn.out;omega
   have LI:=sP.load hk.out iJ;have lI:=ay l[i]!;have st:Sem.run prog (storeCells ⟨wr.heap.size,0,none⟩ (ah l[i]!) 0) (wr.alloc (.cells #[.int .i64 0,.int .i64 0,.int .i64 0,.int .i64 0,.int .i64 0,.int .i64 0,.int .i64 0,.int .i64 0,.int .i64 0,.int .u64 0] 55))=.ok () (wr.alloc (.cells (ah l[i]!).toArray 55)):=df wr wr.heap.size (ah l[i]!) (ah default) 55 rfl (by rw[ay,ay]) (dH _);rw[←hk.out]at lI;have hb1:Below w0.heap.size w0 (wr.alloc (.cells (ah l[i]!).toArray 55)):=hbr.alloc hbr.size _;have hsz1:(wr.alloc (.cells (ah l[i]!).toArray 55)).heap.size=wr.heap.size+1:=by simp
   have hnew:=heap_alloc_new wr (.cells (ah l[i]!).toArray 55);have hown1:=hown.alloc (.cells (ah l[i]!).toArray 55);have bx:=BX.out _ hb1;have bi:=nZ hnew lI;have hless:=Qv j l[i]! (wr.alloc (.cells (ah l[i]!).toArray 55));generalize hcI:ah l[i]! =cI at*;replace hcI:=qae hcI;generalize hw1:wr.alloc (.cells cI.toArray 55)=w1 at*;replace hw1:=qae hw1;go_wp2_with fail;go_at_call 276;refine hless.mono ?_;clear hless bx bi st LI;rintro e w2 ⟨rfl,h2⟩;have g2:=h2.below;have hb2:Below w0.heap.size w0 w2:=hb1.trans (g2.mono hb1.size);have KT:w2.heap[wr.heap.size]? =some (.cells cI.toArray 55 (0,0)):=(g2.block _ (by omega)).trans hnew;have hown2:w2.ownsRow w0.heap.size 55 10 u5 ((l.take i).filter (aP j)).length (((l.take i).filter (aP j)).flatMap ah):=bH hown1 fun q hq=>g2.block q (hown1.lt q hq).2;clear hown1 hnew sP hb1;cases hA:aP j l[i]! with
   |false=>
    have hF:=qae (Ie (p:=aP j) iJ hA);have hown3:Hid (w2.ownsRow w0.heap.size 55 10 u5 ((l.take (i+1)).filter (aP j)).length (((l.take (i+1)).filter (aP j)).flatMap ah)):=by
     show World.ownsRow _ _ _ _ _ _ _;rw[hF.out];exact hown2
    clear hown2 hown KT;go_wp2_with fail;go_roundw
    case rel=>exact⟨i+1,by omega,by go_num,hown3.out,hb2⟩
    case measure=>simp[intOf];omega
   |true=>
    have hF:=qae (Ej (p:=aP j) iJ hA);obtain⟨X,hX⟩:=qaa ((l.take i).filter (aP j));rw[←hX]at hown2 hF;have VM:X.length≤1000:=by rw[hX];exact Nat.le_trans (List.length_filter_le _ _) (by rw[List.length_take];omega)
    replace hX:=qae hX;clear hown;obtain rfl:=hk.out;have QJ:=hcI.out;clear hcI;generalize l[i]! =y at*;obtain⟨x1,x2,x3,x4,x5,x6,x7,x8,x9,x0⟩:=y;subst QJ;have kk:=dP KT;have k0:=kk 0 _ rfl;have k1:=kk 1 _ rfl;have k2:=kk 2 _ rfl;have k3:=kk 3 _ rfl;have k4:=kk 4 _ rfl;have k5:=kk 5 _ rfl;have k6:=kk 6 _ rfl;have k7:=kk 7 _ rfl;have k8:=kk 8 _ rfl;have k9:=kk 9 _ rfl;clear kk KT;have hsz2:=g2.size;have Ik:=hb2.size;go_wp2_with (at_builtin;go_must (refine wpList_append_own _ rfl (.tmp 17) (.tmp 19) 50 rfl w0.heap.size 55 i0 (.agg (ah default).toArray) 10 80 underlying50 hi0 hz0 hz1 hz2 rfl (by decide) u5 X.length (X.flatMap ah) rfl (hown2.alloc _) ⟨w2.heap.size,0,none⟩ 1 1 (ah (x1,x2,x3,x4,x5,x6,x7,x8,x9,x0)) rfl rfl ?c0 ?c1 ?c2 ?c3 ?c4 ?c5))
    case c0=>exact oC (vs:=ah (x1,x2,x3,x4,x5,x6,x7,x8,x9,x0)) rfl
    case c1=>exact dH _
    case c2=>unfold maxLen;omega
    case c3=>omega
    case c4=>(have hh:∀o,(w2.alloc o).heap.size=w2.heap.size+1:=fun o=>by simp);first|omega|(rw[hh];omega)
    case c5=>
     intro v6 w7 Ao vC _;have kr:Below w0.heap.size w0 w7:=(hb2.alloc Ik _).grown vC (by simp;omega) (fun k hk=>(hown2.lt k hk).1);have KU:Hid (w7.ownsRow w0.heap.size 55 10 v6 ((l.take (i+1)).filter (aP j)).length (((l.take (i+1)).filter (aP j)).flatMap ah)):=by
      show World.ownsRow _ _ _ _ _ _ _;rw[hF.out,List.length_append,List.flatMap_append];simp only[List.length_singleton,List.flatMap_cons,List.flatMap_nil,List.append_nil];rw[hsz0];exact Ao
     clear k0 k1 k2 k3 k4 k5 k6 k7 k8 k9 Ao vC hown2 hb2;go_wp2_with fail;go_roundw
     case rel=>exact⟨i+1,by omega,by go_num,KU.out,kr⟩
     case measure=>simp[intOf];omega
  ·obtain rfl:i=n:=by omega
   have b2:¬(i:Int)<(i:Int):=by omega
   have e1:l.take i=l:=List.take_of_length_le (by rw[hn.out];exact qaf _);rw[e1]at hown;have hfin:Hid (∃v',Ending.returned u5=.returned v'∧aC ah 10 wr v' (l.filter (aP j))∧Below w.heap.size w wr):=⟨u5,rfl,aC.fA hown ay rfl rfl,hb0.trans (hbr.mono hb0.size)⟩;clear hown e1;go_wp2_with fail;go_ret;exact hfin.out
open Put
def Jb.limit (j:Jb):Int:=j.2.2.2.1
def Jb.state (j:Jb):Int:=j.2.2.2.2.2.1
def jG (L:List Jb):Nat:=L.countP fun j=>decide (j.state<4)
def Em (L:List Jb)(r:Rq):Jb:=((L.length:Int)+1,r.user,r.width,r.limit,r.prio,if r.held then 2 else 1,-1,-1,-1,0)
def lF (L:List Jb)(r:Rq):Int:=if aS r≠0 then 0 else if 64≤jG L∨1024≤L.length then 0 else(L.length:Int)+1
def iX (L:List Jb)(r:Rq):Int:=if aS r≠0 then aS r else if 64≤jG L∨1024≤L.length then 6 else 0
def pU (L:List Jb)(r:Rq):List Jb:=if aS r≠0 then L else if 64≤jG L∨1024≤L.length then L else L++[Em L r]
def bN (L:List Jb)(e0 id:Int)(ok:Jb→Bool):Int:=if e0≠0 then e0 else if id<1 then 7 else if(L.length:Int)<id then 7 else if ok L[(id-1).toNat]! then 0 else 8
def cz (L:List Jb)(e0 id:Int)(ok:Jb→Bool)(ch:Jb→Jb):List Jb:=if bN L e0 id ok=0 then L.set (id-1).toNat (ch L[(id-1).toNat]!)else L
def p9 (j:Jb):Jb:=(j.1,j.2.1,j.2.2.1,j.2.2.2.1,j.2.2.2.2.1,2,j.2.2.2.2.2.2.1,j.2.2.2.2.2.2.2.1,-1,j.2.2.2.2.2.2.2.2.2)
def oV (j:Jb):Jb:=(j.1,j.2.1,j.2.2.1,j.2.2.2.1,j.2.2.2.2.1,1,j.2.2.2.2.2.2.1,j.2.2.2.2.2.2.2.1,j.2.2.2.2.2.2.2.2.1,j.2.2.2.2.2.2.2.2.2)
def kM (t:Int)(j:Jb):Jb:=(j.1,j.2.1,j.2.2.1,j.2.2.2.1,j.2.2.2.2.1,j.2.2.2.2.2.1,j.2.2.2.2.2.2.1,j.2.2.2.2.2.2.2.1,t,j.2.2.2.2.2.2.2.2.2)
def lG (t n:Int)(j:Jb):Jb:=(j.1,j.2.1,j.2.2.1,j.2.2.2.1,j.2.2.2.2.1,3,t,t+j.2.2.2.1,-1,n)
def bR (s t:Int)(j:Jb):Jb:=(j.1,j.2.1,j.2.2.1,j.2.2.2.1,j.2.2.2.2.1,s,j.2.2.2.2.2.2.1,if j.2.2.2.2.2.1=3 then t else j.2.2.2.2.2.2.2.1,-1,j.2.2.2.2.2.2.2.2.2)
theorem Oj {L:List Jb}{e0 id:Int}{ok:Jb→Bool}(h:bN L e0 id ok=0):e0=0∧1≤id∧id≤L.length∧ok L[(id-1).toNat]! =true:=by
 unfold bN at h;split at h
 ·exact absurd h ‹_›
 ·split at h
  ·omega
  ·split at h
   ·omega
   ·split at h
    ·exact⟨by omega,by omega,by omega,‹_›⟩
    ·omega
def splice (L:List Jb)(i:Nat)(cs:List Value):List Value:=(L.take i).flatMap ah++cs++(L.drop (i+1)).flatMap ah
theorem zL {L:List Jb}{i:Nat}(hi:i<L.length)(x:Jb):splice L i (ah x)=(L.set i x).flatMap ah:=by
 rw[List.set_eq_take_append_cons_drop,qaj hi,List.flatMap_append,List.flatMap_cons,splice,List.append_assoc]
theorem FY {L:List Jb}{i:Nat}(hi:i<L.length):L.flatMap ah=splice L i (ah L[i]!):=by
 rw[zL hi,getElem!_pos L i hi,List.set_getElem_self]
theorem Il {L:List Jb}{i j:Nat}(hi:i<L.length){cs:List Value}(hc:cs.length=10)(hj:j<10)(u:Value):(splice L i cs).set (i*10+j) u=splice L i (cs.set j u):=by
 have hl:((L.take i).flatMap ah).length=i*10:=by rw[mI,List.length_take];omega
 unfold splice;rw[List.append_assoc,List.append_assoc,List.set_append_right _ _ (by omega),hl,List.set_append_left _ _ (by omega)];congr 3;omega
structure BV (T : TypeId) (pre : List Value) (w : World) (p : Nat) (v : Value) (L : List Jb) : Prop where
 cell:w.heap[p]? =some (.cells (pre++[v]).toArray T (0,0))
 own:w.ownsRow 0 55 10 v L.length (L.flatMap ah)
abbrev TV :=BV 134 [.bool true]
structure dI (p : Nat) (o : Option Nat) (w w' : World) : Prop where
 os:w'.os=w.os
 tape:w'.tape=w.tape
 output:w'.output=w.output
 size:w.heap.size≤w'.heap.size
 block:∀k,k<w.heap.size→k≠p→o≠some k→w'.heap[k]? =w.heap[k]?
def dW (w:World)(o o':Option Nat):Prop:=o'=o∨∃k,o'=some k∧w.heap.size≤k
section
variable {p : Nat} {o o1 o2 : Option Nat} {w w1 w2 : World}
theorem dI.of_below (h:Below w.heap.size w w1):dI p o w w1:=⟨h.os,h.tape,h.output,h.size,fun k hk _ _=>h.block k hk⟩
theorem dI.FZ {g:Nat}(h:Off p g w w1):dI p (some g) w w1:=⟨h.os,h.tape,h.output,h.size,fun k hk h1 h2=>h.block k hk h1 (fun e=>h2 (by rw[e]))⟩
theorem dI.En (h:w.grownBy w1 o):dI p o w w1:=⟨h.os,h.tape,h.output,h.size,fun k hk _ h2=>h.block k hk (fun e=>h2 e.symm)⟩
theorem dI.trans (h:dI p o w w1)(h':dI p o1 w1 w2)(hn:dW w o o1):dI p o w w2:=
 ⟨h'.os.trans h.os,h'.tape.trans h.tape,h'.output.trans h.output,Nat.le_trans h.size h'.size,fun k hk h1 h2=>by
  rw[h'.block k (Nat.lt_of_lt_of_le hk h.size) h1 (by
   rcases hn with rfl|⟨q,rfl,hq⟩
   ·exact h2
   ·intro e;injection e with e;omega),h.block k hk h1 h2]⟩
theorem dW.refl (w:World)(o:Option Nat):dW w o o:=.inl rfl
theorem dW.trans (h:dW w o o1)(h':dW w1 o1 o2)(hs:w.heap.size≤w1.heap.size):dW w o o2:=by
 rcases h' with rfl|⟨q,rfl,hq⟩
 ·exact h
 ·exact .inr ⟨q,rfl,by omega⟩
end
section
variable {T : TypeId} {pre : List Value} {w w' : World} {p g n cap : Nat} {v : Value} {L : List Jb}
theorem BV.lt (h:BV T pre w p v L):p<w.heap.size:=Put.lt_of_heap h.cell
theorem BV.kept (h:BV T pre w p v L)(hb:Below w.heap.size w w'):BV T pre w' p v L:=⟨by rw[hb.block p h.lt];exact h.cell,Put.jA h.own hb⟩
theorem BV.ob (hT:T≠55)(h:BV T pre w p v L):v.ownBlock≠some p:=by
 intro e;rcases h.own.2 with⟨e0,_⟩|⟨g',cap',cur,e0,_,hg,_⟩
 ·rw[e0]at e;simp[Value.ownBlock]at e
 ·rw[e0]at e;simp[Value.ownBlock]at e;subst e;exact Put.bU h.cell hg hT rfl
theorem BV.row {m:Nat}(h:BV T pre w p (.slice (some ⟨g,0,none⟩) m cap) L):nC w g 0 L:=by
 have hr:=aC.fA h.own ay rfl rfl;refine⟨(h.own.lt g rfl).2,fun i s j u hi hj=>?_⟩;obtain⟨ao,cap',e,_,_,q3⟩:=hr;cases e;obtain⟨b,off,e1,_,q⟩:=q3 (by have:=(List.getElem?_eq_some_iff.1 hi).1;omega);cases e1;exact q i s j u hi hj
theorem BV.rowAt (h:BV T pre w p v L):aC ah 10 w v L:=aC.fA h.own ay rfl rfl
theorem BV.shape (h:BV T pre w p v L)(hL:0<L.length):∃g cap,v=.slice (some ⟨g,0,none⟩) L.length cap:=by
 obtain⟨ao,cap,rfl,hp⟩:=dE h.own;obtain⟨g,rfl⟩:=hp hL;exact⟨g,cap,rfl⟩
end
theorem om (r:Rq)(w:World):Calls prog 185 #[.agg (encR r).toArray] w fun e w'=>e=.returned (.int .i64 (aS r))∧∃o,w'=w.alloc o:=by
 obtain⟨x1,x2,x3,x4,x5,x6,x7,x8,x9⟩:=r;simp only[encR];by_cases h0:x3<0
 ·have d0:decide (x3<0)=true:=qag h0;have e:aS ⟨x1,x2,x3,x4,x5,x6,x7,x8,x9⟩=1:=by simp[aS,h0]
  rw[e];clear e;go_enter func185,ntmps185;go_wp2_with fail;go_ret;exact⟨rfl,_,rfl⟩
 ·have d0:decide (x3<0)=false:=qah h0;by_cases h1:255<x3
  ·have d1:decide (255<x3)=true:=qag h1;have e:aS ⟨x1,x2,x3,x4,x5,x6,x7,x8,x9⟩=1:=by simp[aS,h0,h1]
   rw[e];clear e;go_enter func185,ntmps185;go_wp2_with fail;go_ret;exact⟨rfl,_,rfl⟩
  ·have d1:decide (255<x3)=false:=qah h1;by_cases h2:x6<0
   ·have d2:decide (x6<0)=true:=qag h2;have e:aS ⟨x1,x2,x3,x4,x5,x6,x7,x8,x9⟩=1:=by simp[aS,h0,h1,h2]
    rw[e];clear e;go_enter func185,ntmps185;go_wp2_with fail;go_ret;exact⟨rfl,_,rfl⟩
   ·have d2:decide (x6<0)=false:=qah h2;by_cases h3:1000<x6
    ·have d3:decide (1000<x6)=true:=qag h3;have e:aS ⟨x1,x2,x3,x4,x5,x6,x7,x8,x9⟩=1:=by simp[aS,h0,h1,h2,h3]
     rw[e];clear e;go_enter func185,ntmps185;go_wp2_with fail;go_ret;exact⟨rfl,_,rfl⟩
    ·have d3:decide (1000<x6)=false:=qah h3;by_cases h4:x4<1
     ·have d4:decide (x4<1)=true:=qag h4;have e:aS ⟨x1,x2,x3,x4,x5,x6,x7,x8,x9⟩=9:=by simp[aS,h0,h1,h2,h3,h4]
      rw[e];clear e;go_enter func185,ntmps185;go_wp2_with fail;go_ret;exact⟨rfl,_,rfl⟩
     ·have d4:decide (x4<1)=false:=qah h4;by_cases h5:64<x4
      ·have d5:decide (64<x4)=true:=qag h5;have e:aS ⟨x1,x2,x3,x4,x5,x6,x7,x8,x9⟩=9:=by simp[aS,h0,h1,h2,h3,h4,h5]
       rw[e];clear e;go_enter func185,ntmps185;go_wp2_with fail;go_ret;exact⟨rfl,_,rfl⟩
      ·have d5:decide (64<x4)=false:=qah h5;by_cases h6:x5<1
       ·have d6:decide (x5<1)=true:=qag h6;have e:aS ⟨x1,x2,x3,x4,x5,x6,x7,x8,x9⟩=10:=by simp[aS,h0,h1,h2,h3,h4,h5,h6]
        rw[e];clear e;go_enter func185,ntmps185;go_wp2_with fail;go_ret;exact⟨rfl,_,rfl⟩
       ·have d6:decide (x5<1)=false:=qah h6;by_cases h7:1048576<x5
        ·have d7:decide (1048576<x5)=true:=qag h7;have e:aS ⟨x1,x2,x3,x4,x5,x6,x7,x8,x9⟩=10:=by simp[aS,h0,h1,h2,h3,h4,h5,h6,h7]
         rw[e];clear e;go_enter func185,ntmps185;go_wp2_with fail;go_ret;exact⟨rfl,_,rfl⟩
        ·have d7:decide (1048576<x5)=false:=qah h7;have e:aS ⟨x1,x2,x3,x4,x5,x6,x7,x8,x9⟩=0:=by simp[aS,h0,h1,h2,h3,h4,h5,h6,h7]
         rw[e];clear e;go_enter func185,ntmps185;go_wp2_with fail;go_ret;exact⟨rfl,_,rfl⟩
def cnt (s:Int)(L:List Jb):Nat:=L.countP fun j=>decide (j.state=s)
theorem F3 (s:Int)(L:List Jb):cnt s L≤L.length:=List.countP_le_length
theorem BG {s:Int}{L:List Jb}{i:Nat}(hi:i<L.length)(h:(L[i]!).state=s):cnt s (L.take (i+1))=cnt s (L.take i)+1:=by
 unfold cnt;rw[Bw hi,List.countP_append,List.countP_singleton,qaj (qag h)]
theorem F6 {s:Int}{L:List Jb}{i:Nat}(hi:i<L.length)(h:(L[i]!).state≠s):cnt s (L.take (i+1))=cnt s (L.take i):=by
 unfold cnt;rw[Bw hi,List.countP_append,List.countP_singleton,qai (by rw[qah h];decide)];rfl
theorem Ol {L:List Jb}(h:∀j∈L,1≤j.state∧j.state≤6):(cnt 1 L:Int)+cnt 2 L+cnt 3 L=jG L:=by
 unfold cnt jG
 induction L with
 |nil=>simp
 |cons a l ih=>
  have ih:=ih fun j hj=>h j (by simp[hj]);have ha:=h a (by simp);simp only[List.countP_cons];by_cases h1:a.state=1
  ·simp[h1];omega
  ·by_cases h2:a.state=2
   ·simp[h2];omega
   ·by_cases h3:a.state=3
    ·simp[h3];omega
    ·have:¬a.state<4:=by omega
     simp[h1,h2,h3,this];omega
section
variable {w w' : World} {p : Nat} {v : Value} {L : List Jb}
theorem lH (h:TV w p v L):Calls prog 82 #[.pointer (some ⟨p,0,none⟩)] w fun e w'=>e=.returned (.bool false)∧w=w':=by
 have c0:w.cell? ⟨p,0,none⟩=some (.bool true):=by simp[World.cell?,h.cell]
 clear h;go_enter func82,ntmps82;go_wp2_with fail;go_ret;exact⟨rfl,rfl⟩
theorem BV.c1 (h:TV w p v L):w.cell? ⟨p,1,none⟩=some v:=by simp[World.cell?,h.cell]
theorem Im (h:TV w p v L):Calls prog 187 #[.pointer (some ⟨p,0,none⟩)] w fun e w'=>e=.returned (.int .i64 L.length)∧w=w':=by
 have c1:=h.c1;have hno:=lH h;have hle:=sW h.own;obtain⟨ao,cap,rfl,_⟩:=dE h.own;clear h;go_enter func187,ntmps187;go_wp2_with (go_at_call 82;go_must (refine hno.mono ?_);rintro e w' ⟨rfl,rfl⟩);go_ret;exact⟨rfl,rfl⟩
theorem BH (h:TV w p v L)(hL:L.length≤1000):Calls prog 208 #[.pointer (some ⟨p,0,none⟩)] w fun e w'=>e=.returned (.tuple #[.int .i64 (cnt 1 L),.int .i64 (cnt 2 L),.int .i64 (cnt 3 L)])∧Below w.heap.size w w':=by
 have c1:=h.c1;have hno:=lH h;have zE:=bL;obtain⟨k,hk⟩:=qaa (10);rw[←hk]at zE;replace hk:=qae hk;obtain⟨n,hn⟩:=qab (L.length);have HQ:Hid (0<n→∃g cap,v=.slice (some ⟨g,0,none⟩) n cap∧nC w g 0 L):=fun hp=>by
  obtain⟨g,cap,e⟩:=h.shape (by omega);subst e;exact⟨g,cap,by rw[hn],h.row⟩
 have hle:=sW h.own;obtain⟨ao,cap,rfl,_⟩:=dE h.own;rw[hn]at hL hle c1;replace hn:=qae hn;clear h;go_enter func208,ntmps208;go_wp2_with (go_at_call 82;go_must (refine hno.mono ?_);rintro e w' ⟨rfl,rfl⟩);clear hno;go_loopw [5,6,7,17] (fun aa bb cc ii wr=>∃(i a b c:Nat),i≤n∧ii=.int .i64 i∧aa=.int .i64 a∧bb=.int .i64 b∧cc=.int .i64 c∧a≤i∧b≤i∧c≤i∧Hid (a=cnt 1 (L.take i))∧Hid (b=cnt 2 (L.take i))∧Hid (c=cnt 3 (L.take i))∧Below w.heap.size w wr) (fun _ _ _ ii _=>n-(intOf ii).toNat)
 case atStart=>exact⟨0,0,0,0,Nat.zero_le _,rfl,rfl,rfl,rfl,qaf _,qaf _,qaf _,qae rfl,qae rfl,qae rfl,Below.refl _ _⟩
 case round=>
  obtain⟨i,a,b,c,hin,rfl,rfl,rfl,rfl,la,lb,lc,ha,hb,hc,hbr⟩:=hrel;by_cases hlt:i<n
  ·have b2:(i:Int)<(n:Int):=by omega
   have wi:IntKind.i64.wrap ((i:Int)+1)=(i:Int)+1:=by rw[IntKind.wrap_i64];omega
   obtain⟨g,cap2,e2,hJ⟩:=HQ.out (by omega);cases e2;have iJ:i<L.length:=by have:=hn.out;omega
   have sP:=hJ.below hbr;have LI:=sP.load hk.out iJ;simp only[Nat.zero_add]at LI;have lI:=ay L[i]!;have st:Sem.run prog (storeCells ⟨wr.heap.size,0,none⟩ (ah L[i]!) 0) (wr.alloc (.cells #[.int .i64 0,.int .i64 0,.int .i64 0,.int .i64 0,.int .i64 0,.int .i64 0,.int .i64 0,.int .i64 0,.int .i64 0,.int .u64 0] 55))=.ok () (wr.alloc (.cells (ah L[i]!).toArray 55)):=df wr wr.heap.size (ah L[i]!) (ah default) 55 rfl (by rw[ay,ay]) (dH _);rw[←hk.out]at lI;have hb1:Below w.heap.size w (wr.alloc (.cells (ah L[i]!).toArray 55)):=hbr.alloc hbr.size _;have k5:=dP (heap_alloc_new wr (.cells (ah L[i]!).toArray 55)) 5 _ rfl;generalize hs:(L[i]!).2.2.2.2.2.1=s at k5;replace hs:(L[i]!).state=s:=hs;have y1:=fun e=>BG (s:=1) iJ (hs.trans e);have y2:=fun e=>BG (s:=2) iJ (hs.trans e);have y3:=fun e=>BG (s:=3) iJ (hs.trans e);have n1:=fun(e:s≠1)=>F6 (s:=1) iJ (fun h=>e (hs.symm.trans h));have n2:=fun(e:s≠2)=>F6 (s:=2) iJ (fun h=>e (hs.symm.trans h));have n3:=fun(e:s≠3)=>F6 (s:=3) iJ (fun h=>e (hs.symm.trans h));have N1:Hid (if s=1 then a+1=cnt 1 (L.take (i+1))else a=cnt 1 (L.take (i+1))):=by
    show ite _ _ _;split
    ·rw[y1 ‹_›,ha.out]
    ·rw[n1 ‹_›,ha.out]
   have N2:Hid (if s=2 then b+1=cnt 2 (L.take (i+1))else b=cnt 2 (L.take (i+1))):=by
    show ite _ _ _;split
    ·rw[y2 ‹_›,hb.out]
    ·rw[n2 ‹_›,hb.out]
   have N3:Hid (if s=3 then c+1=cnt 3 (L.take (i+1))else c=cnt 3 (L.take (i+1))):=by
    show ite _ _ _;split
    ·rw[y3 ‹_›,hc.out]
    ·rw[n3 ‹_›,hc.out]
   clear y1 y2 y3 n1 n2 n3 ha hb hc hs hJ sP;generalize ah L[i]! =cI at*;generalize hw1:wr.alloc (.cells cI.toArray 55)=w1 at*;replace hw1:=qae hw1;have wa:IntKind.i64.wrap ((a:Int)+1)=(a:Int)+1:=by rw[IntKind.wrap_i64];omega
   have wb:IntKind.i64.wrap ((b:Int)+1)=(b:Int)+1:=by rw[IntKind.wrap_i64];omega
   have wc:IntKind.i64.wrap ((c:Int)+1)=(c:Int)+1:=by rw[IntKind.wrap_i64];omega
   by_cases h1:s=1
   ·subst h1;have M1:=N1.out;have M2:=N2.out;have M3:=N3.out;rw[qaj rfl]at M1;rw[qai (by decide)]at M2 M3;replace M1:=qae M1;replace M2:=qae M2;replace M3:=qae M3;clear N1 N2 N3;go_wp2_with fail;go_roundw
    case rel=>exact⟨i+1,a+1,b,c,by omega,by go_num,by go_num,rfl,rfl,by omega,by omega,by omega,M1,M2,M3,hb1⟩
    case measure=>simp[intOf];omega
   ·have d1:(s == 1)=false:=beq_eq_false_iff_ne.2 h1;by_cases h2:s=2
    ·subst h2;have M1:=N1.out;have M2:=N2.out;have M3:=N3.out;rw[qai (by decide)]at M1 M3;rw[qaj rfl]at M2;replace M1:=qae M1;replace M2:=qae M2;replace M3:=qae M3;clear N1 N2 N3 h1;go_wp2_with fail;go_roundw
     case rel=>exact⟨i+1,a,b+1,c,by omega,by go_num,rfl,by go_num,rfl,by omega,by omega,by omega,M1,M2,M3,hb1⟩
     case measure=>simp[intOf];omega
    ·have d2:(s == 2)=false:=beq_eq_false_iff_ne.2 h2;by_cases h3:s=3
     ·subst h3;have M1:=N1.out;have M2:=N2.out;have M3:=N3.out;rw[qai (by decide)]at M1 M2;rw[qaj rfl]at M3;replace M1:=qae M1;replace M2:=qae M2;replace M3:=qae M3;clear N1 N2 N3 h1 h2;go_wp2_with fail;go_roundw
      case rel=>exact⟨i+1,a,b,c+1,by omega,by go_num,rfl,rfl,by go_num,by omega,by omega,by omega,M1,M2,M3,hb1⟩
      case measure=>simp[intOf];omega
     ·have d3:(s == 3)=false:=beq_eq_false_iff_ne.2 h3;have M1:=N1.out;have M2:=N2.out;have M3:=N3.out;rw[qai h1]at M1;rw[qai h2]at M2;rw[qai h3]at M3;replace M1:=qae M1;replace M2:=qae M2;replace M3:=qae M3;clear N1 N2 N3 h1 h2 h3;go_wp2_with fail;go_roundw
      case rel=>exact⟨i+1,a,b,c,by omega,by go_num,rfl,rfl,rfl,by omega,by omega,by omega,M1,M2,M3,hb1⟩
      case measure=>simp[intOf];omega
  ·obtain rfl:i=n:=by omega
   have b2:¬(i:Int)<(i:Int):=by omega
   have e1:L.take i=L:=List.take_of_length_le (by rw[hn.out];exact qaf _);have e2:=ha.out;have e3:=hb.out;have e4:=hc.out;rw[e1]at e2 e3 e4;replace e2:=qae e2;replace e3:=qae e3;replace e4:=qae e4;clear e1 ha hb hc;go_wp2_with fail;go_ret3;exact⟨by rw[←e2.out,←e3.out,←e4.out];rfl,hbr⟩
theorem QK (h:TV w p v L)(hL:L.length≤1000)(hg:∀j∈L,1≤j.state∧j.state≤6):Calls prog 186 #[.pointer (some ⟨p,0,none⟩)] w fun e w'=>e=.returned (.int .i64 (jG L))∧Below w.heap.size w w':=by
 have hc:=BH h hL;have he:=Ol hg;have h1:=F3 1 L;have h2:=F3 2 L;have h3:=F3 3 L;rw[←he];clear he h;generalize cnt 1 L=a at*;generalize cnt 2 L=b at*;generalize cnt 3 L=c at*;have wa:IntKind.i64.wrap ((a:Int)+b)=(a:Int)+b:=by rw[IntKind.wrap_i64];omega
 have wb:IntKind.i64.wrap ((a:Int)+b+c)=(a:Int)+b+c:=by rw[IntKind.wrap_i64];omega
 go_enter func186,ntmps186;go_wp2_with (go_at_call 208;go_must (refine hc.mono ?_);rintro e w' ⟨rfl,hb⟩);go_ret;exact⟨rfl,hb⟩
end
def enc1 (x:Int):List Value:=[.int .i64 x]
theorem gQ (a m:Int)(w:World):Calls prog 180 #[.int .i64 a,.int .i64 m] w fun e w'=>e=.returned (.bool (decide (0≤a)&&decide (a≤m)))∧w=w':=by
 by_cases h1:0≤a
 ·have d1:decide (0≤a)=true:=qag h1;by_cases h2:a≤m
  ·have d2:decide (a≤m)=true:=qag h2;go_enter func180,ntmps180;go_wp2_with fail;go_ret;exact⟨by simp[h1,h2],rfl⟩
  ·have d2:decide (a≤m)=false:=qah h2;go_enter func180,ntmps180;go_wp2_with fail;go_ret;exact⟨by simp,rfl⟩
 ·have d1:decide (0≤a)=false:=qah h1;go_enter func180,ntmps180;go_wp2_with fail;go_ret;exact⟨by simp,rfl⟩
theorem fM (w:World)(b:Nat)(l:List Int)(hb:b=w.heap.size)(hl:l.length≤1000):aC enc1 1 (w.alloc (.cells (l.flatMap enc1).toArray 3)) (.slice (some ⟨b,0,none⟩) l.length l.length) l:=by
 subst hb;have hlen:(l.flatMap enc1).length=l.length*1:=by
  clear hl
  induction l with
  |nil=>rfl
  |cons a l ih=>rw[List.flatMap_cons,List.length_append,ih,List.length_cons];simp[enc1];omega
 exact aC.fA (base:=w.heap.size) (e:=3) (qm rfl (qaf _) hlen (by unfold maxLen;omega)) (fun _=>rfl) rfl rfl
section
variable {w w' : World} {p : Nat} {v : Value} {L : List Jb}
theorem Om (x:Int){ps:List Int}(hr:aC enc1 1 w v ps):Calls prog 153 #[v,.int .i64 x] w fun e w'=>(∃r:Int,e=.returned (.int .i64 r)∧(0≤r↔x∈ps))∧w=w':=by
 obtain⟨ao,cap,rfl,q1,q2,q3⟩:=hr;obtain⟨n,hn⟩:=qab (ps.length);have HQ:Hid (∀i,i<n→∃b off,ao=some ⟨b,off,none⟩∧w.cell? ⟨b,off+i,none⟩=some (.int .i64 ps[i]!)):=fun i hi=>by
  obtain⟨b,off,e,_,hc⟩:=q3 (by omega);refine⟨b,off,e,?_⟩;have:=hc i _ 0 _ (by rw[List.getElem?_eq_getElem (by omega),getElem!_pos ps i (by omega)]) (show(enc1 ps[i]!)[0]? =some _ from rfl);simpa using this
 have Z9:n≤9223372036854775807:=by unfold maxLen at q2;omega
 have FX:cap≤9223372036854775807:=by unfold maxLen at q2;omega
 clear q3;rw[hn]at q1⊢;replace hn:=qae hn;go_enter func153,ntmps153;go_wp2_with fail;go_loopw [8] (fun ii wr=>∃(i:Nat),i≤n∧ii=.int .i64 i∧Hid (x∉ps.take i)∧w=wr) (fun ii _=>n-(intOf ii).toNat)
 case atStart=>exact⟨0,Nat.zero_le _,rfl,qae (by simp),rfl⟩
 case round=>
  obtain⟨i,hin,rfl,hno,rfl⟩:=hrel;by_cases hlt:i<n
  ·have b2:(i:Int)<(n:Int):=by omega
   have wi:IntKind.i64.wrap ((i:Int)+1)=(i:Int)+1:=by rw[IntKind.wrap_i64];omega
   obtain⟨b,off,rfl,c⟩:=HQ.out i hlt;have iJ:i<ps.length:=by have:=hn.out;omega
   have hm:x∈ps.take (i+1)↔x∈ps.take i∨x=ps[i]! :=by
    rw[List.take_add_one,List.getElem?_eq_getElem iJ,getElem!_pos ps i iJ,Option.toList_some,List.mem_append,List.mem_singleton]
   have hmem:ps[i]! ∈ps:=by rw[getElem!_pos ps i iJ];exact List.getElem_mem _
   by_cases hx:x=ps[i]!
   ·have hin:Hid (x∈ps):=by show x∈ps;rw[hx];exact hmem
    clear hm hmem;rw[←hx]at c;clear hx;go_wp2_with fail;go_ret;refine⟨⟨i,rfl,?_⟩,rfl⟩;exact⟨fun _=>hin.out,fun _=>by omega⟩
   ·have d:(x == ps[i]!)=false:=beq_eq_false_iff_ne.2 hx;have Xd:Hid (x∉ps.take (i+1)):=by
     show¬_;rw[hm];rintro(h|h)
     ·exact hno.out h
     ·exact hx h
    clear hm hmem hx hno;generalize ps[i]! =y at*;go_wp2_with fail;go_roundw
    case rel=>exact⟨i+1,by omega,by go_num,Xd,trivial⟩
    case measure=>simp[intOf];omega
  ·obtain rfl:i=n:=by omega
   have b2:¬(i:Int)<(i:Int):=by omega
   go_wp2_with fail;go_ret;refine⟨⟨-1,rfl,?_⟩,rfl⟩;have e1:ps.take i=ps:=List.take_of_length_le (by rw[hn.out];exact qaf _);have h2:=hno.out;rw[e1]at h2;exact⟨fun h=>by omega,fun h=>absurd h h2⟩
theorem rG (x:Int){ps:List Int}(hr:aC enc1 1 w v ps):Calls prog 83 #[v,.int .i64 x] w fun e w'=>e=.returned (.bool (decide (x∈ps)))∧w=w':=by
 have hi:=Om x hr;clear hr;go_enter func83,ntmps83;go_wp2_with (go_at_call 153;go_must (refine hi.mono ?_);rintro e w' ⟨⟨r,rfl,hd⟩,rfl⟩;replace hd:=qae hd);go_ret;exact⟨by rw[←decide_eq_decide.2 hd.out];rfl,rfl⟩
def gG (L:List Jb)(id:Int):Int:=if id<1 then 7 else if(L.length:Int)<id then 7 else 0
def bI (L:List Jb)(id:Int):Jb:=if id<1 then default else if(L.length:Int)<id then default else L[(id-1).toNat]!
def iC (w:World)(L:List Jb)(id:Int)(e:Ending)(w':World):Prop:=e=.returned (.tuple #[.agg (ah (bI L id)).toArray,.int .i64 (gG L id)])∧Gr w w'
theorem BI {fn:Func}{q u:Tmp}{b:Nat}{tmps:Array Value}{w:World}{cs:List Value}(h:fn.results= #[.cell q 55,.tmp u])(ha:tmps.getD q undef=.pointer (some ⟨b,0,none⟩))(hb:w.heap[b]? =some (.cells cs.toArray 55 (0,0)))(hl:cs.length=10):
 (results fn tmps).run prog w=.ok (.tuple #[.agg cs.toArray,tmps.getD u undef]) w:=by
 have h1:Sem.run prog (loadCells ⟨b,0,none⟩ 10) w=.ok cs.toArray w:=nZ hb hl;rw[results_cell_tmp h,ha];simp only[loadVar,asAddr,Sem.run_bind,Sem.run_pure,Result.andThen_ok,TG,bL,h1,if_true]
theorem Gr.one (w:World)(o:Obj):Gr w (w.alloc o):=⟨0,#[o],by rw[Go.Sort.alloc_eq_grow];rfl⟩
theorem Dt {w:World}{b i:Nat}{v:Value}{cs:Array Value}{t:TypeId}{fz:Nat×Nat}(h:w.heap[b]? =some (.cells cs t fz))(hv:cs[i]? =some v):w.setCell ⟨b,i,none⟩ v=w:=by
 have hlt:=Put.lt_of_heap h;have h3:cs.setIfInBounds i v=cs:=by
  refine Array.ext (by simp) fun q h4 h5=>?_;rw[Array.getElem_setIfInBounds]
  ·by_cases eq:i=q
   ·subst eq;rw[Array.getElem?_eq_getElem h5]at hv;rw[qaj rfl];exact(Option.some.inj hv).symm
   ·rw[qai eq]
 have e:∀F:Obj→Obj,F (.cells cs t fz)=.cells cs t fz→w.heap.modify b F=w.heap:=fun F hF=>by
  refine Array.ext (by simp) fun j h1 h2=>?_;rw[Array.getElem_modify];by_cases ej:b=j
  ·subst ej;rw[Array.getElem?_eq_getElem hlt]at h;replace h:=Option.some.inj h;rw[qaj rfl,h,hF]
  ·rw[qai ej]
 unfold World.setCell;rw[e _ (by simp[h3])]
theorem bG {w:World}{b:Nat}{cs:Array Value}(h:w.heap[b]? =some (.cells cs 55 (0,0))):∀j u,cs[j]? =some u→w.cell? ⟨b,j,none⟩=some u∧w.frozen? ⟨b,j,none⟩=false∧w.setCell ⟨b,j,none⟩ u=w:=fun j u hj=>
 ⟨by simp[World.cell?,h,hj],by simp[World.frozen?,h],Dt h hj⟩
theorem fO (h:TV w p v L)(id:Int):Calls prog 41 #[.pointer (some ⟨p,0,none⟩),.int .i64 id] w (iC w L id):=by
 have hb1:=(Below.refl w.heap.size w).alloc (qaf _) (.cells #[.int .i64 0,.int .i64 0,.int .i64 0,.int .i64 0,.int .i64 0,.int .i64 0,.int .i64 0,.int .i64 0,.int .i64 0,.int .u64 0] 55);have h1:=h.kept hb1;have hA:=heap_alloc_new w (.cells #[.int .i64 0,.int .i64 0,.int .i64 0,.int .i64 0,.int .i64 0,.int .i64 0,.int .i64 0,.int .i64 0,.int .i64 0,.int .u64 0] 55);have hg:=qae (Gr.one w (.cells #[.int .i64 0,.int .i64 0,.int .i64 0,.int .i64 0,.int .i64 0,.int .i64 0,.int .i64 0,.int .i64 0,.int .i64 0,.int .u64 0] 55));have hle:=sW h.own;have stx:=fun(_:True)=>df w w.heap.size (ah L[(id-1).toNat]!) (ah default) 55 rfl (by rw[ay,ay]) (dH _);have hb2:=(Below.refl w.heap.size w).alloc (qaf _) (.cells (ah L[(id-1).toNat]!).toArray 55);have hA2:=qae (heap_alloc_new w (.cells (ah L[(id-1).toNat]!).toArray 55));have hg2:=qae (Gr.one w (.cells (ah L[(id-1).toNat]!).toArray 55));rw[show ah default=[.int .i64 0,.int .i64 0,.int .i64 0,.int .i64 0,.int .i64 0,.int .i64 0,.int .i64 0,.int .i64 0,.int .i64 0,.int .u64 0]from rfl]at stx;obtain⟨w1,hw1⟩:=qaa (w.alloc (.cells #[.int .i64 0,.int .i64 0,.int .i64 0,.int .i64 0,.int .i64 0,.int .i64 0,.int .i64 0,.int .i64 0,.int .i64 0,.int .u64 0] 55));rw[←hw1]at h1 hA hg stx;have hno:=lH h1;have c1:=h1.c1;have yM:iC w L id=(fun e w'=>e=.returned (.tuple #[.agg (ah (bI L id)).toArray,.int .i64 (gG L id)])∧Gr w w'):=rfl;by_cases a1:id<1
 ·have d1:decide (id<1)=true:=qag a1;have e1:gG L id=7:=by unfold gG;rw[qaj a1]
  have e2:bI L id=default:=by unfold bI;rw[qaj a1]
  rw[yM,e1,e2];clear e1 e2 yM h h1 stx c1 hb1 hb2 hA2 hg2 a1;obtain⟨k0,f0,s0⟩:=bG hA 0 (.int .i64 0) rfl;obtain⟨k1,f1,s1⟩:=bG hA 1 (.int .i64 0) rfl;obtain⟨k2,f2,s2⟩:=bG hA 2 (.int .i64 0) rfl;obtain⟨k3,f3,s3⟩:=bG hA 3 (.int .i64 0) rfl;obtain⟨k4,f4,s4⟩:=bG hA 4 (.int .i64 0) rfl;obtain⟨k5,f5,s5⟩:=bG hA 5 (.int .i64 0) rfl;obtain⟨k6,f6,s6⟩:=bG hA 6 (.int .i64 0) rfl;obtain⟨k7,f7,s7⟩:=bG hA 7 (.int .i64 0) rfl;obtain⟨k8,f8,s8⟩:=bG hA 8 (.int .i64 0) rfl;obtain⟨k9,f9,s9⟩:=bG hA 9 (.int .u64 0) rfl;replace hA:=qae hA;go_enter func41,ntmps41;go_wp2_with fail;go_at_call 82;rw[←hw1];replace hw1:=qae hw1;refine hno.mono ?_;clear hno;rintro e w' ⟨rfl,rfl⟩;go_wp2_with fail
  (try simp only[Exit.inBlock,Exit.then])
  refine bodyPost_ret (BI (b:=w.heap.size) (cs:=ah default) rfl rfl hA.out (ay _)) rfl ?_;exact⟨rfl,hg.out⟩
 ·have d1:decide (id<1)=false:=qah a1;by_cases a2:(L.length:Int)<id
  ·have d2:decide ((L.length:Int)<id)=true:=qag a2;have e1:gG L id=7:=by unfold gG;rw[qai a1,qaj a2]
   have e2:bI L id=default:=by unfold bI;rw[qai a1,qaj a2]
   obtain⟨ao,cap,rfl,_⟩:=dE h.own;rw[yM,e1,e2];clear e1 e2 yM h h1 stx hb1 hb2 hA2 hg2;obtain⟨k0,f0,s0⟩:=bG hA 0 (.int .i64 0) rfl;obtain⟨k1,f1,s1⟩:=bG hA 1 (.int .i64 0) rfl;obtain⟨k2,f2,s2⟩:=bG hA 2 (.int .i64 0) rfl;obtain⟨k3,f3,s3⟩:=bG hA 3 (.int .i64 0) rfl;obtain⟨k4,f4,s4⟩:=bG hA 4 (.int .i64 0) rfl;obtain⟨k5,f5,s5⟩:=bG hA 5 (.int .i64 0) rfl;obtain⟨k6,f6,s6⟩:=bG hA 6 (.int .i64 0) rfl;obtain⟨k7,f7,s7⟩:=bG hA 7 (.int .i64 0) rfl;obtain⟨k8,f8,s8⟩:=bG hA 8 (.int .i64 0) rfl;obtain⟨k9,f9,s9⟩:=bG hA 9 (.int .u64 0) rfl;replace hA:=qae hA;generalize L.length=n at*;clear a1 a2;go_enter func41,ntmps41;go_wp2_with fail;go_at_call 82;rw[←hw1];replace hw1:=qae hw1;refine hno.mono ?_;clear hno;rintro e w' ⟨rfl,rfl⟩;go_wp2_with fail
   (try simp only[Exit.inBlock,Exit.then])
   refine bodyPost_ret (BI (b:=w.heap.size) (cs:=ah default) rfl rfl hA.out (ay _)) rfl ?_;exact⟨rfl,hg.out⟩
  ·have d2:decide ((L.length:Int)<id)=false:=qah a2;have e1:gG L id=0:=by unfold gG;rw[qai a1,qai a2]
   have e2:bI L id=L[(id-1).toNat]! :=by unfold bI;rw[qai a1,qai a2]
   obtain⟨m,rfl⟩:∃m:Nat,id=(m:Int)+1:=⟨(id-1).toNat,by omega⟩;have em:((m:Int)+1-1).toNat=m:=by omega
   rw[em]at e2 stx hA2 hg2 hb2;have hm:m<L.length:=by omega
   obtain⟨g,cap,rfl⟩:=h.shape (by omega);rw[yM,e1,e2];clear e1 e2 yM em hb1 hg;have zE:=bL;obtain⟨k,hk⟩:=qaa (10);have LI:=h1.row.load hk hm;simp only[Nat.zero_add]at LI;have lI:=ay L[m]!;have YW:=qae (ay L[m]!);have st:=stx trivial;rw[←hk]at zE lI;replace hk:=qae hk;clear h h1 stx hb2;generalize ah L[m]! =cI at*;generalize L.length=n at*;have wi:IntKind.i64.wrap ((m:Int)+1-1)=(m:Int):=by rw[IntKind.wrap_i64];omega
   have b1:(m:Int)<(n:Int):=by omega
   have b0:(0:Int)≤(m:Int):=by omega
   clear a1 a2;go_enter func41,ntmps41;go_wp2_with fail;go_at_call 82;rw[←hw1];replace hw1:=qae hw1;refine hno.mono ?_;clear hno;rintro e w' ⟨rfl,rfl⟩;go_wp2_with fail
   (try simp only[Exit.inBlock,Exit.then])
   refine bodyPost_ret (BI (b:=w.heap.size) (cs:=cI) rfl rfl hA2.out YW.out) rfl ?_;exact⟨rfl,hg2.out⟩
end
structure RV (w : World) (p : Nat) (v : Value) (L : List Jb) (m : Nat) (cs : List Value) : Prop where
 cell:w.heap[p]? =some (.cells #[.bool true,v] 134 (0,0))
 own:w.ownsRow 0 55 10 v L.length (splice L m cs)
 len:cs.length=10
section
variable {w w' : World} {p g n cap m : Nat} {v : Value} {L : List Jb} {cs : List Value}
theorem RV.of (h:TV w p v L)(hm:m<L.length):RV w p v L m (ah L[m]!):=⟨h.cell,by rw[←FY hm];exact h.own,ay _⟩
theorem RV.done {x:Jb}(h:RV w p v L m cs)(hm:m<L.length)(hx:cs=ah x):TV w p v (L.set m x):=by
 subst hx;exact⟨h.cell,by have:=h.own;rw[zL hm]at this;rw[List.length_set];exact this⟩
theorem RV.kept (h:RV w p v L m cs)(hb:Below w.heap.size w w'):RV w' p v L m cs:=⟨by rw[hb.block p (Put.lt_of_heap h.cell)];exact h.cell,Put.jA h.own hb,h.len⟩
theorem Io (hm:m<L.length)(hc:cs.length=10):(splice L m cs).length=L.length*10:=by
 unfold splice;rw[List.length_append,List.length_append,mI,mI,List.length_take,List.length_drop,hc];omega
theorem BJ (hm:m<L.length)(hc:cs.length=10){j:Nat}{u:Value}(hj:cs[j]? =some u):(splice L m cs)[m*10+j]? =some u:=by
 have hl:((L.take m).flatMap ah).length=m*10:=by rw[mI,List.length_take];omega
 have hj2:j<cs.length:=(List.getElem?_eq_some_iff.1 hj).1;unfold splice;rw[List.append_assoc,List.getElem?_append_right (by omega),hl,Nat.add_sub_cancel_left,List.getElem?_append_left hj2];exact hj
theorem RV.cellAt (h:RV w p (.slice (some ⟨g,0,none⟩) n cap) L m cs)(hm:m<L.length):∀j u,cs[j]? =some u→w.cell? ⟨g,m*10+j,none⟩=some u∧w.frozen? ⟨g,m*10+j,none⟩=false:=by
 intro j u hj;rcases h.own.2 with⟨e0,_⟩|⟨g',cap',cur,e0,_,hg,hn,_,hs,ht⟩
 ·cases e0
 ·cases e0;have hj2:j<10:=by have:=(List.getElem?_eq_some_iff.1 hj).1;rw[h.len]at this;exact this
  have h1:=BJ hm h.len hj;rw[←ht,List.getElem?_take]at h1;split at h1
  ·rw[Array.getElem?_toList]at h1;exact⟨by simp[World.cell?,hg,h1],by simp[World.frozen?,hg]⟩
  ·cases h1
theorem RV.set (h:RV w p (.slice (some ⟨g,0,none⟩) n cap) L m cs)(hm:m<L.length){j:Nat}(hj:j<10)(u:Value):RV (w.setCell ⟨g,m*10+j,none⟩ u) p (.slice (some ⟨g,0,none⟩) n cap) L m (cs.set j u):=by
 rcases h.own.2 with⟨e0,_⟩|⟨g',cap',cur,e0,hb,hg,hn,hm2,hs,ht⟩
 ·cases e0
 ·cases e0;have hlt:=Put.lt_of_heap hg;have hne:p≠g:=Put.bU h.cell hg (by decide);refine⟨by rw[Below.heap_setCell w ⟨g,_,none⟩ u p hne];exact h.cell,⟨?_,.inr ⟨g,cap,cur.setIfInBounds (m*10+j) u,rfl,hb,?_,hn,hm2,by simpa using hs,?_⟩⟩,by rw[List.length_set];exact h.len⟩
  ·rw[Io hm (by rw[List.length_set];exact h.len)]
  ·rw[Array.getElem?_eq_getElem hlt]at hg;replace hg:=Option.some.inj hg;simp[World.setCell,hlt,Array.getElem_modify,hg]
  ·rw[←Il hm h.len hj u,←ht,Array.toList_setIfInBounds,List.take_set]
theorem RV.frame (w:World)(j:Nat)(u:Value):dI p (some g) w (w.setCell ⟨g,j,none⟩ u):=dI.FZ ((Off.refl p g w).setCell (.inr (.inl rfl)))
theorem mJ (h:TV w p v L)(id e0:Int){pv:Value}{ps:List Int}(hr:aC enc1 1 w pv ps)(he:bN L 0 id (fun j=>decide (j.state∈ps))=e0)(hne:e0≠0):Calls prog 181 #[.pointer (some ⟨p,0,none⟩),.int .i64 id,pv] w fun e w'=>e=.returned (.tuple #[.pointer none,.int .i64 e0])∧Gr w w':=by
 have hG:=fO h id;have zE:=bL;obtain⟨k,hk⟩:=qaa (10);rw[←hk]at zE;replace hk:=qae hk;have lI:=ay (bI L id);rw[←hk.out]at lI;have HS:Hid (∀W:World,Sem.run prog (storeCells ⟨W.heap.size,0,none⟩ (ah (bI L id)) 0) (W.alloc (.cells #[.int .i64 0,.int .i64 0,.int .i64 0,.int .i64 0,.int .i64 0,.int .i64 0,.int .i64 0,.int .i64 0,.int .i64 0,.int .u64 0] 55))=.ok () (W.alloc (.cells (ah (bI L id)).toArray 55))):=fun W=>df W W.heap.size (ah (bI L id)) (ah default) 55 rfl (by rw[ay,ay]) (dH _);have HC:Hid (∀W:World,(W.alloc (.cells (ah (bI L id)).toArray 55)).cell? ⟨W.heap.size,5,none⟩=some (.int .i64 (bI L id).state)):=fun W=>dP (heap_alloc_new W (.cells (ah (bI L id)).toArray 55)) 5 _ rfl;have cases:(gG L id=e0∧(e0 == 0)=false)∨(gG L id=0∧e0=8∧decide ((bI L id).state∈ps)=false):=by
  unfold bN at he;unfold gG bI;by_cases a1:id<1
  ·rw[qai (by decide),qaj a1]at he;rw[qaj a1];exact .inl ⟨he,beq_eq_false_iff_ne.2 hne⟩
  ·rw[qai (by decide),qai a1]at he;rw[qai a1,qai a1];by_cases a2:(L.length:Int)<id
   ·rw[qaj a2]at he;rw[qaj a2];exact .inl ⟨he,beq_eq_false_iff_ne.2 hne⟩
   ·rw[qai a2]at he;rw[qai a2,qai a2];right;by_cases a3:decide ((L[(id-1).toNat]!).state∈ps)=true
    ·rw[qaj a3]at he;exact absurd he.symm hne
    ·rw[qai a3]at he;exact⟨rfl,he.symm,by simpa using a3⟩
 clear he h;unfold iC at hG;generalize bI L id=y at*;generalize gG L id=eG at*;generalize hcI:ah y=cI at*;replace hcI:=qae hcI;rcases cases with⟨rfl,hb⟩|⟨rfl,rfl,hb⟩
 ·replace hne:=qae hne;go_enter func181,ntmps181;go_wp2_with fail;go_at_call 41;refine hG.mono ?_;clear hG;rintro e w2 ⟨rfl,hg⟩;have st:=HS.out w2;have hg2:=qae (eB hg (Gr.one w2 (.cells cI.toArray 55)));clear hg;go_wp2_with fail;go_ret2;exact⟨rfl,hg2.out⟩
 ·replace hne:=qae hne;go_enter func181,ntmps181;go_wp2_with fail;go_at_call 41;refine hG.mono ?_;clear hG;rintro e w2 ⟨rfl,hg⟩;have st:=HS.out w2;have c5:=HC.out w2;have hg2:=eB hg (Gr.one w2 (.cells cI.toArray 55));have hr2:=hr.below hg2.below;have hct:=rG y.state hr2;rw[hb]at hct;generalize w2.alloc (.cells cI.toArray 55)=w3 at*;replace hg2:=qae hg2;clear hr hr2 hg HS HC;generalize y.state=s at*;go_wp2_with (go_at_call 83;go_must (refine hct.mono ?_);rintro e w' ⟨rfl,rfl⟩);go_ret2;exact⟨rfl,hg2.out⟩
theorem find_ok (h:TV w p (.slice (some ⟨g,0,none⟩) n cap) L)(hm:m<L.length){pv:Value}{ps:List Int}(hr:aC enc1 1 w pv ps)(hs:(L[m]!).state∈ps):Calls prog 181 #[.pointer (some ⟨p,0,none⟩),.int .i64 ((m:Int)+1),pv] w fun e w'=>e=.returned (.tuple #[.pointer (some ⟨g,m*10,none⟩),.int .i64 0])∧Gr w w':=by
 have hG:=fO h ((m:Int)+1);have zE:=bL;obtain⟨k,hk⟩:=qaa (10);rw[←hk]at zE⊢;replace hk:=qae hk;have e1:gG L ((m:Int)+1)=0:=by unfold gG;rw[qai (by omega),qai (by omega)]
 have e2:bI L ((m:Int)+1)=L[m]! :=by unfold bI;rw[qai (by omega),qai (by omega)];congr 1;omega
 unfold iC at hG;rw[e1,e2]at hG;clear e1 e2;have lI:=ay L[m]!;rw[←hk.out]at lI;have HS:Hid (∀W:World,Sem.run prog (storeCells ⟨W.heap.size,0,none⟩ (ah L[m]!) 0) (W.alloc (.cells #[.int .i64 0,.int .i64 0,.int .i64 0,.int .i64 0,.int .i64 0,.int .i64 0,.int .i64 0,.int .i64 0,.int .i64 0,.int .u64 0] 55))=.ok () (W.alloc (.cells (ah L[m]!).toArray 55))):=fun W=>df W W.heap.size (ah L[m]!) (ah default) 55 rfl (by rw[ay,ay]) (dH _);have HC:Hid (∀W:World,(W.alloc (.cells (ah L[m]!).toArray 55)).cell? ⟨W.heap.size,5,none⟩=some (.int .i64 (L[m]!).state)):=fun W=>dP (heap_alloc_new W (.cells (ah L[m]!).toArray 55)) 5 _ rfl;have hlen:n=L.length:=by
  rcases h.own.2 with⟨e0,_⟩|⟨g',cap',cur,e0,_⟩
  ·cases e0
  ·cases e0;rfl
 have hle:=sW h.own;rw[←hlen]at hm hle;replace h:=qae h;have hb:decide ((L[m]!).state∈ps)=true:=qag hs;generalize L[m]! =y at*;generalize hcI:ah y=cI at*;replace hcI:=qae hcI;have wi:IntKind.i64.wrap ((m:Int)+1-1)=(m:Int):=by rw[IntKind.wrap_i64];omega
 have b1:(m:Int)<(n:Int):=by omega
 have b0:(0:Int)≤(m:Int):=by omega
 replace hlen:=qae hlen;go_enter func181,ntmps181;go_wp2_with fail;go_at_call 41;refine hG.mono ?_;clear hG;rintro e w2 ⟨rfl,hg⟩;have st:=HS.out w2;have c5:=HC.out w2;have hg2:=eB hg (Gr.one w2 (.cells cI.toArray 55));have hr2:=hr.below hg2.below;have hct:=rG y.state hr2;rw[hb]at hct;have h3:=h.out.kept hg2.below;have c1:=h3.c1;generalize w2.alloc (.cells cI.toArray 55)=w3 at*;replace hg2:=qae hg2;clear hr hr2 hg HS HC h3 h hs hb;generalize y.state=s at*;go_wp2_with (go_at_call 83;go_must (refine hct.mono ?_);rintro e w' ⟨rfl,rfl⟩);go_ret2;exact⟨rfl,hg2.out⟩
end
def kS (w:World)(p:Nat)(v:Value)(L:List Jb)(e0 id:Int)(ok:Jb→Bool)(ch:Jb→Jb)(e:Ending)(w':World):Prop:=
 e=.returned (.int .i64 (bN L e0 id ok))∧TV w' p v (cz L e0 id ok ch)∧dI p v.ownBlock w w'
def gT (a:Int):Int:=if a< -1 then 10 else if 1099511627776<a then 10 else 0
def gH (a:Int):Int:=if a<0 then 10 else if 1099511627776<a then 10 else 0
def bB (s a:Int):Int:=if s<4 then 1 else if 6<s then 1 else if a<0 then 10 else if 2199023255552<a then 10 else 0
def fo (s:Int)(j:Jb):Bool:=decide (j.state=3)||(decide (s=5)&&decide (j.state≤2))
section
variable {w w' : World} {p g n cap m : Nat} {v : Value} {L : List Jb}
theorem dF {e0 id e1:Int}{ok:Jb→Bool}{ch:Jb→Jb}{w0:World}(h:TV w0 p v L)(he:bN L e0 id ok=e1)(hne:e1≠0){e:Ending}(hr:e=.returned (.int .i64 e1))(hb:Gr w0 w'):kS w0 p v L e0 id ok ch e w':=by
 refine⟨by rw[he];exact hr,?_,dI.of_below hb.below⟩;unfold cz;rw[qai (by rw[he];exact hne)];exact h.kept hb.below
theorem iK {e0:Int}{ok:Jb→Bool}{ch:Jb→Jb}{w0:World}(h0:e0=0)(hm:m<L.length)(hok:ok L[m]! =true){e:Ending}(hr:e=.returned (.int .i64 0))(h:TV w' p v (L.set m (ch L[m]!)))(hq:dI p v.ownBlock w0 w'):kS w0 p v L e0 ((m:Int)+1) ok ch e w':=by
 have em:((m:Int)+1-1).toNat=m:=by omega
 have he:bN L e0 ((m:Int)+1) ok=0:=by
  unfold bN;rw[qai (by omega),qai (by omega),qai (by omega),em,qaj hok]
 refine⟨by rw[he];exact hr,?_,hq⟩;unfold cz;rw[qaj he,em];exact h
theorem jg (L:List Jb)(e0 id:Int)(ok:Jb→Bool):(∃e1,bN L e0 id ok=e1∧e1≠0)∨∃m:Nat,id=(m:Int)+1∧m<L.length∧ok L[m]! =true:=by
 by_cases h:bN L e0 id ok=0
 ·right;obtain⟨_,h1,h2,h3⟩:=Oj h;refine⟨(id-1).toNat,by omega,by omega,h3⟩
 ·exact .inl ⟨_,rfl,h⟩
theorem jh {L:List Jb}{e0 id:Int}{ok ok':Jb→Bool}(h:∀j∈L,ok j=ok' j):bN L e0 id ok=bN L e0 id ok':=by
 unfold bN;by_cases h0:e0≠0
 ·rw[qaj h0,qaj h0]
 ·rw[qai h0,qai h0];by_cases h1:id<1
  ·rw[qaj h1,qaj h1]
  ·rw[qai h1,qai h1];by_cases h2:(L.length:Int)<id
   ·rw[qaj h2,qaj h2]
   ·rw[qai h2,qai h2,h _ (by rw[getElem!_pos L _ (by omega)];exact List.getElem_mem _)]
theorem iD {L:List Jb}{e0 id:Int}{ok:Jb→Bool}(h:e0≠0):bN L e0 id ok=e0:=by unfold bN;rw[qaj h]
theorem jR {L:List Jb}{e0 id:Int}{ok:Jb→Bool}(h:e0=0):bN L e0 id ok=bN L 0 id ok:=by rw[h]
theorem QL (h:TV w p v L)(id:Int):Calls prog 235 #[.pointer (some ⟨p,0,none⟩),.int .i64 id] w (kS w p v L ((0:Int)) id (fun j:Jb=>decide (j.state=1)) (p9)):=by
 have h0:(0:Int)=0:=by rfl
 have hb1:=(Below.refl w.heap.size w).alloc (qaf _) (.cells #[.int .i64 1] 3);have hr:aC enc1 1 (w.alloc (.cells #[.int .i64 1] 3)) (.slice (some ⟨w.heap.size,0,none⟩) 1 1) [1]:=fM w w.heap.size [1] rfl (by decide);have hg1:=Gr.one w (.cells #[.int .i64 1] 3);have h1:=h.kept hb1;have hok:∀j∈L,(fun j:Jb=>decide (j.state=1)) j=decide (j.state∈([1]:List Int)):=by intro j _;simp
 rcases jg L ((0:Int)) id (fun j:Jb=>decide (j.state=1))with⟨e1,he,hne⟩|⟨m,rfl,hm,ho⟩
 ·have hfin:=fun(W:World) (e:Ending) (hr:e=.returned (.int .i64 e1)) (hg:Gr w W)=>dF (ch:=p9) h he hne hr hg;have hf:=mJ h1 id e1 hr (by rw[←jh hok,←jR h0];exact he) hne;have d1:(e1 == 0)=false:=beq_eq_false_iff_ne.2 hne;replace hfin:=qae hfin;replace hg1:=qae hg1;clear h h1 hr hb1 hok he hne;go_enter func235,ntmps235;go_wp2_with fail;go_at_call 181;refine hf.mono ?_;clear hf;rintro e w2 ⟨rfl,hg⟩;have hg2:=qae (eB hg1.out hg);clear hg hg1;go_wp2_with fail;go_ret;exact hfin.out _ _ rfl hg2.out
 ·have hs:(L[m]!).state∈([1]:List Int):=of_decide_eq_true ((hok L[m]! (by rw[getElem!_pos L m hm];exact List.getElem_mem _)).symm.trans ho);obtain⟨g,cap,rfl⟩:=h.shape (by omega);have hf:=find_ok h1 hm hr hs;have hfin:=fun(W:World) (e:Ending) (hr:e=.returned (.int .i64 0)) (hT:TV W p (.slice (some ⟨g,0,none⟩) L.length cap) (L.set m ((p9) L[m]!))) (hq:dI p (some g) w W)=>iK (e0:=(0:Int)) (ok:=fun j:Jb=>decide (j.state=1)) (ch:=p9) h0 hm ho hr hT hq;have jY:=RV.of h hm;generalize hy:L[m]! =y at*;replace hy:=qae hy;replace hfin:=qae hfin;replace jY:=qae jY;replace hm:=qae hm;replace hg1:=qae hg1;clear h h1 hr hb1 hok ho hs;go_enter func235,ntmps235;go_wp2_with fail;go_at_call 181;refine hf.mono ?_;clear hf;rintro e w2 ⟨rfl,hg⟩;have hg2:=eB hg1.out hg;have rv:=jY.out.kept hg2.below;have q0:dI p (some g) w w2:=dI.of_below hg2.below;clear hg hg1 hg2 jY;obtain⟨k5,f5⟩:=rv.cellAt hm.out 5 _ rfl;obtain⟨k8,f8⟩:=rv.cellAt hm.out 8 _ rfl;replace rv:=qae rv;replace q0:=qae q0;go_wp2_with fail;go_ret;exact hfin.out _ _ rfl (RV.done (RV.set (RV.set rv.out hm.out (j:=5) (by decide) (.int .i64 2)) hm.out (j:=8) (by decide) (.int .i64 (-1))) hm.out rfl) ((q0.out.trans (RV.frame _ _ _) (dW.refl _ _)).trans (RV.frame _ _ _) (dW.refl _ _))
theorem Ip (h:TV w p v L)(id:Int):Calls prog 237 #[.pointer (some ⟨p,0,none⟩),.int .i64 id] w (kS w p v L ((0:Int)) id (fun j:Jb=>decide (j.state=2)) (oV)):=by
 have h0:(0:Int)=0:=by rfl
 have hb1:=(Below.refl w.heap.size w).alloc (qaf _) (.cells #[.int .i64 2] 3);have hr:aC enc1 1 (w.alloc (.cells #[.int .i64 2] 3)) (.slice (some ⟨w.heap.size,0,none⟩) 1 1) [2]:=fM w w.heap.size [2] rfl (by decide);have hg1:=Gr.one w (.cells #[.int .i64 2] 3);have h1:=h.kept hb1;have hok:∀j∈L,(fun j:Jb=>decide (j.state=2)) j=decide (j.state∈([2]:List Int)):=by intro j _;simp
 rcases jg L ((0:Int)) id (fun j:Jb=>decide (j.state=2))with⟨e1,he,hne⟩|⟨m,rfl,hm,ho⟩
 ·have hfin:=fun(W:World) (e:Ending) (hr:e=.returned (.int .i64 e1)) (hg:Gr w W)=>dF (ch:=oV) h he hne hr hg;have hf:=mJ h1 id e1 hr (by rw[←jh hok,←jR h0];exact he) hne;have d1:(e1 == 0)=false:=beq_eq_false_iff_ne.2 hne;replace hfin:=qae hfin;replace hg1:=qae hg1;clear h h1 hr hb1 hok he hne;go_enter func237,ntmps237;go_wp2_with fail;go_at_call 181;refine hf.mono ?_;clear hf;rintro e w2 ⟨rfl,hg⟩;have hg2:=qae (eB hg1.out hg);clear hg hg1;go_wp2_with fail;go_ret;exact hfin.out _ _ rfl hg2.out
 ·have hs:(L[m]!).state∈([2]:List Int):=of_decide_eq_true ((hok L[m]! (by rw[getElem!_pos L m hm];exact List.getElem_mem _)).symm.trans ho);obtain⟨g,cap,rfl⟩:=h.shape (by omega);have hf:=find_ok h1 hm hr hs;have hfin:=fun(W:World) (e:Ending) (hr:e=.returned (.int .i64 0)) (hT:TV W p (.slice (some ⟨g,0,none⟩) L.length cap) (L.set m ((oV) L[m]!))) (hq:dI p (some g) w W)=>iK (e0:=(0:Int)) (ok:=fun j:Jb=>decide (j.state=2)) (ch:=oV) h0 hm ho hr hT hq;have jY:=RV.of h hm;generalize hy:L[m]! =y at*;replace hy:=qae hy;replace hfin:=qae hfin;replace jY:=qae jY;replace hm:=qae hm;replace hg1:=qae hg1;clear h h1 hr hb1 hok ho hs;go_enter func237,ntmps237;go_wp2_with fail;go_at_call 181;refine hf.mono ?_;clear hf;rintro e w2 ⟨rfl,hg⟩;have hg2:=eB hg1.out hg;have rv:=jY.out.kept hg2.below;have q0:dI p (some g) w w2:=dI.of_below hg2.below;clear hg hg1 hg2 jY;obtain⟨k5,f5⟩:=rv.cellAt hm.out 5 _ rfl;replace rv:=qae rv;replace q0:=qae q0;go_wp2_with fail;go_ret;exact hfin.out _ _ rfl (RV.done (RV.set rv.out hm.out (j:=5) (by decide) (.int .i64 1)) hm.out rfl) (q0.out.trans (RV.frame _ _ _) (dW.refl _ _))
theorem QM (h:TV w p v L)(id:Int)(a:Int):Calls prog 134 #[.pointer (some ⟨p,0,none⟩),.int .i64 id,.int .i64 a] w (kS w p v L (gT a) id (fun j:Jb=>decide (j.state=1)) (kM a)):=by
 have hno:=lH h;by_cases t0:a< -1
 ·have he:gT a=10:=by unfold gT;simp[t0]
  have hfin:=fun(W:World) (e:Ending) (hr:e=.returned (.int .i64 10)) (hg:Gr w W)=>dF (ch:=kM a) h (iD (L:=L) (id:=id) (ok:=fun j:Jb=>decide (j.state=1)) (e0:=gT a) (by omega) |>.trans he) (by decide) hr hg;replace hfin:=qae hfin;clear h he;have dn:(a != -1)=true:=bne_iff_ne.2 (by omega);have jK:=gQ a 1099511627776 w;rw[show(decide (0≤a)&&decide (a≤1099511627776))=false from by simp;omega]at jK;go_enter func134,ntmps134;go_wp2_with (first|(go_at_call 82;go_must (refine hno.mono ?_);rintro e w' ⟨rfl,rfl⟩)|(go_at_call 180;go_must (refine jK.mono ?_);rintro e w' ⟨rfl,rfl⟩));go_ret;exact hfin.out _ _ rfl (Gr.refl _)
 ·have Xe:decide (a< -1)=false:=qah t0;by_cases t1:1099511627776<a
  ·have he:gT a=10:=by unfold gT;simp[t0,t1]
   have hfin:=fun(W:World) (e:Ending) (hr:e=.returned (.int .i64 10)) (hg:Gr w W)=>dF (ch:=kM a) h (iD (L:=L) (id:=id) (ok:=fun j:Jb=>decide (j.state=1)) (e0:=gT a) (by omega) |>.trans he) (by decide) hr hg;replace hfin:=qae hfin;clear h he;have dn:(a != -1)=true:=bne_iff_ne.2 (by omega);have jK:=gQ a 1099511627776 w;rw[show(decide (0≤a)&&decide (a≤1099511627776))=false from by simp;omega]at jK;go_enter func134,ntmps134;go_wp2_with (first|(go_at_call 82;go_must (refine hno.mono ?_);rintro e w' ⟨rfl,rfl⟩)|(go_at_call 180;go_must (refine jK.mono ?_);rintro e w' ⟨rfl,rfl⟩));go_ret;exact hfin.out _ _ rfl (Gr.refl _)
  ·have Xf:decide (1099511627776<a)=false:=qah t1;have h0:gT a=0:=by unfold gT;simp[t0,t1]
   by_cases ha:a= -1
   ·have dn:(a != -1)=false:=by rw[ha];rfl
    have jK:=gQ a 1099511627776 w;have hb1:=(Below.refl w.heap.size w).alloc (qaf _) (.cells #[.int .i64 1] 3);have hr:aC enc1 1 (w.alloc (.cells #[.int .i64 1] 3)) (.slice (some ⟨w.heap.size,0,none⟩) 1 1) [1]:=fM w w.heap.size [1] rfl (by decide);have hg1:=Gr.one w (.cells #[.int .i64 1] 3);have h1:=h.kept hb1;have hok:∀j∈L,(fun j:Jb=>decide (j.state=1)) j=decide (j.state∈([1]:List Int)):=by intro j _;simp
    rcases jg L (gT a) id (fun j:Jb=>decide (j.state=1))with⟨e1,he,hne⟩|⟨m,rfl,hm,ho⟩
    ·have hfin:=fun(W:World) (e:Ending) (hr:e=.returned (.int .i64 e1)) (hg:Gr w W)=>dF (ch:=kM a) h he hne hr hg;have hf:=mJ h1 id e1 hr (by rw[←jh hok,←jR h0];exact he) hne;have d1:(e1 == 0)=false:=beq_eq_false_iff_ne.2 hne;replace hfin:=qae hfin;replace hg1:=qae hg1;clear h h1 hr hb1 hok he hne h0;clear ha;go_enter func134,ntmps134;go_wp2_with (first|(go_at_call 82;go_must (refine hno.mono ?_);rintro e w' ⟨rfl,rfl⟩)|(go_at_call 180;go_must (refine jK.mono ?_);rintro e w' ⟨rfl,rfl⟩));go_at_call 181;refine hf.mono ?_;clear hf;rintro e w2 ⟨rfl,hg⟩;have hg2:=qae (eB hg1.out hg);clear hg hg1;go_wp2_with fail;go_ret;exact hfin.out _ _ rfl hg2.out
    ·have hs:(L[m]!).state∈([1]:List Int):=of_decide_eq_true ((hok L[m]! (by rw[getElem!_pos L m hm];exact List.getElem_mem _)).symm.trans ho);obtain⟨g,cap,rfl⟩:=h.shape (by omega);have hf:=find_ok h1 hm hr hs;have hfin:=fun(W:World) (e:Ending) (hr:e=.returned (.int .i64 0)) (hT:TV W p (.slice (some ⟨g,0,none⟩) L.length cap) (L.set m ((kM a) L[m]!))) (hq:dI p (some g) w W)=>iK (e0:=gT a) (ok:=fun j:Jb=>decide (j.state=1)) (ch:=kM a) h0 hm ho hr hT hq;have jY:=RV.of h hm;generalize hy:L[m]! =y at*;replace hy:=qae hy;replace hfin:=qae hfin;replace jY:=qae jY;replace hm:=qae hm;replace hg1:=qae hg1;clear h h1 hr hb1 hok ho hs h0;clear ha;go_enter func134,ntmps134;go_wp2_with (first|(go_at_call 82;go_must (refine hno.mono ?_);rintro e w' ⟨rfl,rfl⟩)|(go_at_call 180;go_must (refine jK.mono ?_);rintro e w' ⟨rfl,rfl⟩));go_at_call 181;refine hf.mono ?_;clear hf;rintro e w2 ⟨rfl,hg⟩;have hg2:=eB hg1.out hg;have rv:=jY.out.kept hg2.below;have q0:dI p (some g) w w2:=dI.of_below hg2.below;clear hg hg1 hg2 jY;obtain⟨k8,f8⟩:=rv.cellAt hm.out 8 _ rfl;replace rv:=qae rv;replace q0:=qae q0;go_wp2_with fail;go_ret;exact hfin.out _ _ rfl (RV.done (RV.set rv.out hm.out (j:=8) (by decide) (.int .i64 a)) hm.out rfl) (q0.out.trans (RV.frame _ _ _) (dW.refl _ _))
   ·have dn:(a != -1)=true:=bne_iff_ne.2 ha;have jK:=gQ a 1099511627776 w;rw[show(decide (0≤a)&&decide (a≤1099511627776))=true from by simp;omega]at jK;have hb1:=(Below.refl w.heap.size w).alloc (qaf _) (.cells #[.int .i64 1] 3);have hr:aC enc1 1 (w.alloc (.cells #[.int .i64 1] 3)) (.slice (some ⟨w.heap.size,0,none⟩) 1 1) [1]:=fM w w.heap.size [1] rfl (by decide);have hg1:=Gr.one w (.cells #[.int .i64 1] 3);have h1:=h.kept hb1;have hok:∀j∈L,(fun j:Jb=>decide (j.state=1)) j=decide (j.state∈([1]:List Int)):=by intro j _;simp
    rcases jg L (gT a) id (fun j:Jb=>decide (j.state=1))with⟨e1,he,hne⟩|⟨m,rfl,hm,ho⟩
    ·have hfin:=fun(W:World) (e:Ending) (hr:e=.returned (.int .i64 e1)) (hg:Gr w W)=>dF (ch:=kM a) h he hne hr hg;have hf:=mJ h1 id e1 hr (by rw[←jh hok,←jR h0];exact he) hne;have d1:(e1 == 0)=false:=beq_eq_false_iff_ne.2 hne;replace hfin:=qae hfin;replace hg1:=qae hg1;clear h h1 hr hb1 hok he hne h0;clear ha;go_enter func134,ntmps134;go_wp2_with (first|(go_at_call 82;go_must (refine hno.mono ?_);rintro e w' ⟨rfl,rfl⟩)|(go_at_call 180;go_must (refine jK.mono ?_);rintro e w' ⟨rfl,rfl⟩));go_at_call 181;refine hf.mono ?_;clear hf;rintro e w2 ⟨rfl,hg⟩;have hg2:=qae (eB hg1.out hg);clear hg hg1;go_wp2_with fail;go_ret;exact hfin.out _ _ rfl hg2.out
    ·have hs:(L[m]!).state∈([1]:List Int):=of_decide_eq_true ((hok L[m]! (by rw[getElem!_pos L m hm];exact List.getElem_mem _)).symm.trans ho);obtain⟨g,cap,rfl⟩:=h.shape (by omega);have hf:=find_ok h1 hm hr hs;have hfin:=fun(W:World) (e:Ending) (hr:e=.returned (.int .i64 0)) (hT:TV W p (.slice (some ⟨g,0,none⟩) L.length cap) (L.set m ((kM a) L[m]!))) (hq:dI p (some g) w W)=>iK (e0:=gT a) (ok:=fun j:Jb=>decide (j.state=1)) (ch:=kM a) h0 hm ho hr hT hq;have jY:=RV.of h hm;generalize hy:L[m]! =y at*;replace hy:=qae hy;replace hfin:=qae hfin;replace jY:=qae jY;replace hm:=qae hm;replace hg1:=qae hg1;clear h h1 hr hb1 hok ho hs h0;clear ha;go_enter func134,ntmps134;go_wp2_with (first|(go_at_call 82;go_must (refine hno.mono ?_);rintro e w' ⟨rfl,rfl⟩)|(go_at_call 180;go_must (refine jK.mono ?_);rintro e w' ⟨rfl,rfl⟩));go_at_call 181;refine hf.mono ?_;clear hf;rintro e w2 ⟨rfl,hg⟩;have hg2:=eB hg1.out hg;have rv:=jY.out.kept hg2.below;have q0:dI p (some g) w w2:=dI.of_below hg2.below;clear hg hg1 hg2 jY;obtain⟨k8,f8⟩:=rv.cellAt hm.out 8 _ rfl;replace rv:=qae rv;replace q0:=qae q0;go_wp2_with fail;go_ret;exact hfin.out _ _ rfl (RV.done (RV.set rv.out hm.out (j:=8) (by decide) (.int .i64 a)) hm.out rfl) (q0.out.trans (RV.frame _ _ _) (dW.refl _ _))
theorem Oo (h:TV w p v L)(id:Int)(a:Int)(n0:Int)(hL:∀j∈L,1≤j.limit∧j.limit≤1048576):Calls prog 133 #[.pointer (some ⟨p,0,none⟩),.int .i64 id,.int .i64 a,.int .u64 n0] w (kS w p v L (gH a) id (fun j:Jb=>decide (j.state=1)) (lG a n0)):=by
 have hno:=lH h;by_cases t0:a<0
 ·have he:gH a=10:=by unfold gH;simp[t0]
  have hfin:=fun(W:World) (e:Ending) (hr:e=.returned (.int .i64 10)) (hg:Gr w W)=>dF (ch:=lG a n0) h (iD (L:=L) (id:=id) (ok:=fun j:Jb=>decide (j.state=1)) (e0:=gH a) (by omega) |>.trans he) (by decide) hr hg;replace hfin:=qae hfin;clear h he hL;have jK:=gQ a 1099511627776 w;rw[show(decide (0≤a)&&decide (a≤1099511627776))=false from by simp;omega]at jK;go_enter func133,ntmps133;go_wp2_with (first|(go_at_call 82;go_must (refine hno.mono ?_);rintro e w' ⟨rfl,rfl⟩)|(go_at_call 180;go_must (refine jK.mono ?_);rintro e w' ⟨rfl,rfl⟩));go_ret;exact hfin.out _ _ rfl (Gr.refl _)
 ·have Xe:decide (a<0)=false:=qah t0;by_cases t1:1099511627776<a
  ·have he:gH a=10:=by unfold gH;simp[t0,t1]
   have hfin:=fun(W:World) (e:Ending) (hr:e=.returned (.int .i64 10)) (hg:Gr w W)=>dF (ch:=lG a n0) h (iD (L:=L) (id:=id) (ok:=fun j:Jb=>decide (j.state=1)) (e0:=gH a) (by omega) |>.trans he) (by decide) hr hg;replace hfin:=qae hfin;clear h he hL;have jK:=gQ a 1099511627776 w;rw[show(decide (0≤a)&&decide (a≤1099511627776))=false from by simp;omega]at jK;go_enter func133,ntmps133;go_wp2_with (first|(go_at_call 82;go_must (refine hno.mono ?_);rintro e w' ⟨rfl,rfl⟩)|(go_at_call 180;go_must (refine jK.mono ?_);rintro e w' ⟨rfl,rfl⟩));go_ret;exact hfin.out _ _ rfl (Gr.refl _)
  ·have Xf:decide (1099511627776<a)=false:=qah t1;have h0:gH a=0:=by unfold gH;simp[t0,t1]
   have jK:=gQ a 1099511627776 w;rw[show(decide (0≤a)&&decide (a≤1099511627776))=true from by simp;omega]at jK;have hb1:=(Below.refl w.heap.size w).alloc (qaf _) (.cells #[.int .i64 1] 3);have hr:aC enc1 1 (w.alloc (.cells #[.int .i64 1] 3)) (.slice (some ⟨w.heap.size,0,none⟩) 1 1) [1]:=fM w w.heap.size [1] rfl (by decide);have hg1:=Gr.one w (.cells #[.int .i64 1] 3);have h1:=h.kept hb1;have hok:∀j∈L,(fun j:Jb=>decide (j.state=1)) j=decide (j.state∈([1]:List Int)):=by intro j _;simp
   rcases jg L (gH a) id (fun j:Jb=>decide (j.state=1))with⟨e1,he,hne⟩|⟨m,rfl,hm,ho⟩
   ·have hfin:=fun(W:World) (e:Ending) (hr:e=.returned (.int .i64 e1)) (hg:Gr w W)=>dF (ch:=lG a n0) h he hne hr hg;have hf:=mJ h1 id e1 hr (by rw[←jh hok,←jR h0];exact he) hne;have d1:(e1 == 0)=false:=beq_eq_false_iff_ne.2 hne;replace hfin:=qae hfin;replace hg1:=qae hg1;clear h h1 hr hb1 hok he hne hL h0;go_enter func133,ntmps133;go_wp2_with (first|(go_at_call 82;go_must (refine hno.mono ?_);rintro e w' ⟨rfl,rfl⟩)|(go_at_call 180;go_must (refine jK.mono ?_);rintro e w' ⟨rfl,rfl⟩));go_at_call 181;refine hf.mono ?_;clear hf;rintro e w2 ⟨rfl,hg⟩;have hg2:=qae (eB hg1.out hg);clear hg hg1;go_wp2_with fail;go_ret;exact hfin.out _ _ rfl hg2.out
   ·have hs:(L[m]!).state∈([1]:List Int):=of_decide_eq_true ((hok L[m]! (by rw[getElem!_pos L m hm];exact List.getElem_mem _)).symm.trans ho);obtain⟨g,cap,rfl⟩:=h.shape (by omega);have hf:=find_ok h1 hm hr hs;have hfin:=fun(W:World) (e:Ending) (hr:e=.returned (.int .i64 0)) (hT:TV W p (.slice (some ⟨g,0,none⟩) L.length cap) (L.set m ((lG a n0) L[m]!))) (hq:dI p (some g) w W)=>iK (e0:=gH a) (ok:=fun j:Jb=>decide (j.state=1)) (ch:=lG a n0) h0 hm ho hr hT hq;have hlim:=hL L[m]! (by rw[getElem!_pos L m hm];exact List.getElem_mem _);clear hL;have jY:=RV.of h hm;generalize hy:L[m]! =y at*;replace hy:=qae hy;replace hfin:=qae hfin;replace jY:=qae jY;replace hm:=qae hm;replace hg1:=qae hg1;clear h h1 hr hb1 hok ho hs h0;go_enter func133,ntmps133;go_wp2_with (first|(go_at_call 82;go_must (refine hno.mono ?_);rintro e w' ⟨rfl,rfl⟩)|(go_at_call 180;go_must (refine jK.mono ?_);rintro e w' ⟨rfl,rfl⟩));go_at_call 181;refine hf.mono ?_;clear hf;rintro e w2 ⟨rfl,hg⟩;have hg2:=eB hg1.out hg;have rv:=jY.out.kept hg2.below;have q0:dI p (some g) w w2:=dI.of_below hg2.below;clear hg hg1 hg2 jY;obtain⟨k3,f3⟩:=rv.cellAt hm.out 3 _ rfl;obtain⟨k5,f5⟩:=rv.cellAt hm.out 5 _ rfl;obtain⟨k6,f6⟩:=rv.cellAt hm.out 6 _ rfl;obtain⟨k7,f7⟩:=rv.cellAt hm.out 7 _ rfl;obtain⟨k8,f8⟩:=rv.cellAt hm.out 8 _ rfl;obtain⟨k9,f9⟩:=rv.cellAt hm.out 9 _ rfl;have wl:IntKind.i64.wrap (a+y.2.2.2.1)=a+y.2.2.2.1:=by(have:y.limit=y.2.2.2.1:=rfl);rw[IntKind.wrap_i64];omega
    replace rv:=qae rv;replace q0:=qae q0;go_wp2_with fail;go_ret;exact hfin.out _ _ rfl (RV.done (RV.set (RV.set (RV.set (RV.set (RV.set rv.out hm.out (j:=5) (by decide) (.int .i64 3)) hm.out (j:=6) (by decide) (.int .i64 a)) hm.out (j:=7) (by decide) (.int .i64 (a+y.2.2.2.1))) hm.out (j:=8) (by decide) (.int .i64 (-1))) hm.out (j:=9) (by decide) (.int .u64 n0)) hm.out rfl) (((((q0.out.trans (RV.frame _ _ _) (dW.refl _ _)).trans (RV.frame _ _ _) (dW.refl _ _)).trans (RV.frame _ _ _) (dW.refl _ _)).trans (RV.frame _ _ _) (dW.refl _ _)).trans (RV.frame _ _ _) (dW.refl _ _))
end
theorem QN {w:World}{b:Nat}{x:Jb}{cs:List Value}(hb:w.heap[b]? =some (.cells cs.toArray 55 (0,0)))(hl:cs.length=10):
 Sem.run prog (storeCells ⟨b,0,none⟩ (ah x) 0) w=.ok () (w.setRow b (ah x).toArray)∧(w.setRow b (ah x).toArray).heap[b]? =some (.cells (ah x).toArray 55 (0,0))∧Off b b w (w.setRow b (ah x).toArray):=by
 have hst:=run_storeCells_at prog b 0 55 (ah x) 0 cs.toArray w hb (by simp[hl,ay]) (dH x);simp only[Nat.add_zero]at hst;have e:((cs.toArray.toList.take 0++ah x++cs.toArray.toList.drop (0+(ah x).length)).toArray)=(ah x).toArray:=by simp[hl,ay]
 rw[e]at hst;exact⟨hst,setRow_heap w b _ _ _ _ hb,⟨rfl,rfl,rfl,by simp,fun k hk h1 _=>setRow_other w b k _ h1⟩⟩
theorem QO {w:World}{b j:Nat}{u:Value}{cs:List Value}(hb:w.heap[b]? =some (.cells cs.toArray 55 (0,0))):
 (w.setCell ⟨b,j,none⟩ u).heap[b]? =some (.cells (cs.set j u).toArray 55 (0,0))∧Off b b w (w.setCell ⟨b,j,none⟩ u):=by
 have hlt:=Put.lt_of_heap hb;refine⟨?_,(Off.refl b b w).setCell (.inl rfl)⟩;rw[Array.getElem?_eq_getElem hlt]at hb;replace hb:=Option.some.inj hb;simp[World.setCell,hlt,Array.getElem_modify,hb]
def jb_AppS (w1:World)(hq:Value)(L:List Jb)(x:Jb)(vs:List Value)(W:World):Prop:=
 match vs with
 | []=>W.ownsRow 0 55 10 hq L.length (L.flatMap ah)
 |v'::_=>W.ownsRow 0 55 10 v' (L.length+1) (L.flatMap ah++ah x)∧dW w1 hq.ownBlock v'.ownBlock
theorem xK {w1 a b:World}{hq:Value}{L:List Jb}{x:Jb}{vs:List Value}(h:Below a.heap.size a b)(hs:jb_AppS w1 hq L x vs a):jb_AppS w1 hq L x vs b:=by
 unfold jb_AppS at*;split at hs
 ·exact Put.jA hs h
 ·exact⟨Put.jA hs.1 h,hs.2⟩
section
variable {T : TypeId} {pre : List Value} {w w' : World} {p g : Nat} {v : Value} {L : List Jb}
theorem BV.Eo {x:Value}{g' m c:Nat}{D:List Jb}(hT:T≠55)(hp:w.heap[p]? =some (.cells (pre++[x]).toArray T (0,0)))(ho:w.ownsRow 0 55 10 (.slice (some ⟨g',0,none⟩) m c) D.length (D.flatMap ah)):
 BV T pre (w.setCell ⟨p,pre.length,none⟩ (.slice (some ⟨g',0,none⟩) m c)) p (.slice (some ⟨g',0,none⟩) m c) D∧∀o,dI p o w (w.setCell ⟨p,pre.length,none⟩ (.slice (some ⟨g',0,none⟩) m c)):=by
 have hlt:=Put.lt_of_heap hp;have hne:p≠g':=by
  rcases ho.2 with⟨e0,_⟩|⟨g2,cap',cur,e0,_,hg,_⟩
  ·cases e0
  ·cases e0;exact Put.bU hp hg hT
 refine⟨⟨?_,sV ho (fun k hk=>by
  have:g'=k:=by simpa[Value.ownBlock]using hk
  subst this;exact fun e=>hne e.symm) _ _⟩,fun o=>⟨rfl,rfl,rfl,by simp,fun k hk h1 _=>Below.heap_setCell w ⟨p,_,none⟩ _ k h1⟩⟩
 rw[Array.getElem?_eq_getElem hlt]at hp;replace hp:=Option.some.inj hp;simp[World.setCell,hlt,Array.getElem_modify,hp]
def BK (T:TypeId)(pre:List Value)(w:World)(p:Nat)(v:Value)(L:List Jb)(r:Rq)(e:Ending)(w':World):Prop:=
 e=.returned (.tuple #[.int .i64 (lF L r),.int .i64 (iX L r)])∧∃v',BV T pre w' p v' (pU L r)∧dI p v.ownBlock w w'∧dW w v.ownBlock v'.ownBlock
theorem zM {r:Rq}{e:Ending}{e1:Int}(h:BV T pre w p v L)(he:iX L r=e1)(hne:e1≠0)(hr:e=.returned (.tuple #[.int .i64 0,.int .i64 e1]))(hb:Below w.heap.size w w'):BK T pre w p v L r e w':=by
 unfold iX at he;by_cases h0:aS r≠0
 ·rw[qaj h0]at he;refine⟨?_,v,?_,dI.of_below hb,dW.refl _ _⟩
  ·unfold lF iX;rw[qaj h0,qaj h0,he];exact hr
  ·unfold pU;rw[qaj h0];exact h.kept hb
 ·rw[qai h0]at he;by_cases h1:64≤jG L∨1024≤L.length
  ·rw[qaj h1]at he;refine⟨?_,v,?_,dI.of_below hb,dW.refl _ _⟩
   ·unfold lF iX;rw[qai h0,qai h0,qaj h1,qaj h1,he];exact hr
   ·unfold pU;rw[qai h0,qaj h1];exact h.kept hb
  ·rw[qai h1]at he;exact absurd he.symm hne
theorem F7 {r:Rq}{e:Ending}{v':Value}(h0:aS r=0)(hl:jG L<64)(hn:L.length<1024)(hr:e=.returned (.tuple #[.int .i64 ((L.length:Int)+1),.int .i64 0]))(h:BV T pre w' p v' (L++[Em L r]))(hq:dI p v.ownBlock w w')(ho:dW w v.ownBlock v'.ownBlock):BK T pre w p v L r e w':=by
 have a0:¬aS r≠0:=by omega
 have a1:¬(64≤jG L∨1024≤L.length):=by omega
 refine⟨?_,v',?_,hq,ho⟩
 ·unfold lF iX;rw[qai a0,qai a0,qai a1,qai a1];exact hr
 ·unfold pU;rw[qai a0,qai a1];exact h
theorem KV (h:TV w p v L)(hG:∀j∈L,1≤j.state∧j.state≤6)(hL:L.length≤900)(r:Rq):Calls prog 138 #[.pointer (some ⟨p,0,none⟩),.agg (encR r).toArray] w (BK 134 [.bool true] w p v L r):=by
 have nA:=TN;have zR:=lC;obtain⟨i0,hi0,hz0,hz1,hz2⟩:=info_parts xJ;obtain⟨k9,bV⟩:∃k,k=9:=⟨_,rfl⟩;have lR:=iR r;rw[←bV]at zR lR;have hb1:=(Below.refl w.heap.size w).alloc (qaf _) (.cells (encR r).toArray 33);have BM:=heap_alloc_new w (.cells (encR r).toArray 33);have hsz1:(w.alloc (.cells (encR r).toArray 33)).heap.size=w.heap.size+1:=by simp
 obtain⟨w1,hw1⟩:=qaa (w.alloc (.cells (encR r).toArray 33));rw[←hw1]at hb1 BM hsz1;have h1:=h.kept hb1;have lr:=(show Sem.run prog (loadCellsFrom ⟨w.heap.size,0,none⟩ 0 k9 #[]) w1=.ok (encR r).toArray w1 from run_loadCellsFrom_list prog w1 _ _ k9 lR fun j u hj=>by rw[Go.WideShapes.add_plain];simpa using mG BM j u hj);have hno:=lH h1;have hrt:=om r w1;replace bV:=qae bV;by_cases h0:aS r=0
 ·rw[h0]at hrt;replace h:=qae h;replace h1:=qae h1;go_enter func138,ntmps138;go_wp2_with fail;go_at_call 82;rw[←hw1];replace hw1:=qae hw1;refine hno.mono ?_;clear hno;rintro e w' ⟨rfl,rfl⟩;go_wp2_with fail;go_at_call 185;refine hrt.mono ?_;clear hrt lr;rintro e w2 ⟨rfl,o2,rfl⟩;have hb2:Below w.heap.size w (w1.alloc o2):=hb1.alloc hb1.size _;have hR2:(w1.alloc o2).heap[w.heap.size]? =_:=(Go.heap_alloc_old w1 o2 (by omega)).trans BM;have hsz2:w.heap.size+1≤(w1.alloc o2).heap.size:=by simp[hsz1]
  generalize w1.alloc o2=w2 at*;have h2:=h.out.kept hb2;have hlv:=QK h2 (by omega) hG;clear h1 hb1 BM hsz1 h2 hG;by_cases hfull:64≤jG L
  ·have hfin:=fun(W:World) (e:Ending) hr hb=>zM (w':=W) (e:=e) (r:=r) h.out (show iX L r=6 by unfold iX;rw[qai (by omega),qaj (.inl hfull)]) (by decide) hr hb;have d1:decide ((64:Int)≤(jG L:Int))=true:=qag (by omega);replace hfin:=qae hfin;clear h h0 hfull lR;generalize jG L=nl at*;go_wp2_with fail;go_at_call 186;refine hlv.mono ?_;clear hlv;rintro e w4 ⟨rfl,hb4⟩;have hb5:=qae (hb2.trans (hb4.mono hb2.size));clear hb4 hb2;go_wp2_with fail;go_ret2;exact hfin.out _ _ rfl hb5.out
  ·have hfin:=fun(W:World) (e:Ending) (v':Value) (hr:e=.returned (.tuple #[.int .i64 ((L.length:Int)+1),.int .i64 0])) h ho hq=>F7 (T:=134) (pre:=[.bool true]) (p:=p) (w:=w) (w':=W) (v:=v) (v':=v') (r:=r) (L:=L) h0 (by omega) (by omega) hr h ho hq;have d1:decide ((64:Int)≤(jG L:Int))=false:=qah (by omega);have d2:decide ((1024:Int)≤(L.length:Int))=false:=qah (by omega);replace hfin:=qae hfin;clear h0 hfull;generalize jG L=nl at*;go_wp2_with fail;go_at_call 186;refine hlv.mono ?_;clear hlv;rintro e w4 ⟨rfl,QP⟩;have hb4:Below w.heap.size w w4:=hb2.trans (QP.mono hb2.size);have qF:=(QP.block _ (by omega)).trans hR2;have qG:=h.out.kept hb4;have hln:=Im qG;have wn:IntKind.i64.wrap ((L.length:Int)+1)=(L.length:Int)+1:=by rw[IntKind.wrap_i64];omega
   clear QP hb2 hR2;replace qG:=qae qG;replace qF:=qae qF;replace hb4:=qae hb4;go_wp2_with (go_at_call 187;go_must (refine hln.mono ?_);rintro e w' ⟨rfl,rfl⟩);obtain⟨cY,Ap⟩:=qaa (ah ((L.length:Int)+1,r.user,r.width,r.limit,r.prio,1,-1,-1,-1,0));have hcl:cY.length=10:=by rw[Ap];rfl
   simp only[ah]at Ap;replace Ap:=qae Ap;replace hcl:=qae hcl;refine Reg2.rd w4 13 50 (Reg2.rows 0 [.p 0,.p 1,.p 3,.p 0,.p 8,.p 0,.p 32,.p 0,.p 128,.p 0,.p 512,.p 2047,.p 0]) [0,1,0,0,1,0,1,0,1,0,1,0,1] [.pure,.mU (.int .i64 (L.length:Int)),.pure,.pure,.mU (.int .i64 r.user),.pure,.mU (.int .i64 r.width),.pure,.mU (.int .i64 r.limit),.pure,.mU (.int .i64 r.prio),.pure,.minor Nat 0 (fun x=>.pointer (some ⟨x,0,none⟩)) (fun x W=>W.heap[x]? =some (.cells #[.int .i64 0,.int .i64 0,.int .i64 0,.int .i64 0,.int .i64 0,.int .i64 0,.int .i64 0,.int .i64 0,.int .i64 0,.int .u64 0] 55 (0,0))∧w4.heap.size≤x)] (by kernel_rfl) (by kernel_rfl) rfl rfl ⟨trivial,Reg2.tt,trivial,trivial,Reg2.tt,trivial,Reg2.tt,trivial,Reg2.tt,trivial,Reg2.tt,trivial,⟨fun x a b he h=>⟨(Below.block he x (Put.lt_of_heap h.1)).trans h.1,h.2⟩,fun x a b he h=>⟨(Below.block he x (Put.lt_of_heap h.1)).trans h.1,h.2⟩⟩,trivial⟩ ⟨rfl,rfl,rfl,qaf _,fun _ _=>rfl⟩ ?_;dsimp only[Reg2.rows,Reg2.mk,List.zip,List.zipWith,List.take]
   repeat(refine' Reg2.ak _ (by rfl) (fun wz=>?_) ?_;rotate_left;(go_simp;first|rfl|rw[qai (by omega)]);simp only[Act.put,xA,xB,xC,xD,xE,id])
   refine Reg2.pm (fun wz hI hF=>?_) (fun r1=>?_) (by rfl)
   ·have hl:=Im (qG.out.kept hI);go_wp2_with (go_at_call 187;go_must (refine hl.mono ?_);rintro e w' ⟨rfl,rfl⟩)
    first|exact⟨_,rfl,rfl,qad⟩|exact⟨_,rfl,⟨(),rfl,trivial⟩,qad⟩
   simp only[Act.put,xA,xB,xC,xD,xE,id]
   repeat(refine' Reg2.ak _ (by rfl) (fun wz=>?_) ?_;rotate_left;(go_simp;first|rfl|rw[qai (by omega)]);simp only[Act.put,xA,xB,xC,xD,xE,id])
   refine Reg2.pm (fun wz hI hF=>?_) (fun r4=>?_) (by rfl)
   ·have d0:=mG (hI.block _ (Put.lt_of_heap qF.out) |>.trans qF.out) 2 _ rfl;go_wp2_with fail
    first|exact⟨_,rfl,rfl,qad⟩|exact⟨_,rfl,⟨(),rfl,trivial⟩,qad⟩
   simp only[Act.put,xA,xB,xC,xD,xE,id]
   repeat(refine' Reg2.ak _ (by rfl) (fun wz=>?_) ?_;rotate_left;(go_simp;first|rfl|rw[qai (by omega)]);simp only[Act.put,xA,xB,xC,xD,xE,id])
   refine Reg2.pm (fun wz hI hF=>?_) (fun r6=>?_) (by rfl)
   ·have d0:=mG (hI.block _ (Put.lt_of_heap qF.out) |>.trans qF.out) 3 _ rfl;go_wp2_with fail
    first|exact⟨_,rfl,rfl,qad⟩|exact⟨_,rfl,⟨(),rfl,trivial⟩,qad⟩
   simp only[Act.put,xA,xB,xC,xD,xE,id]
   repeat(refine' Reg2.ak _ (by rfl) (fun wz=>?_) ?_;rotate_left;(go_simp;first|rfl|rw[qai (by omega)]);simp only[Act.put,xA,xB,xC,xD,xE,id])
   refine Reg2.pm (fun wz hI hF=>?_) (fun r8=>?_) (by rfl)
   ·have d0:=mG (hI.block _ (Put.lt_of_heap qF.out) |>.trans qF.out) 4 _ rfl;go_wp2_with fail
    first|exact⟨_,rfl,rfl,qad⟩|exact⟨_,rfl,⟨(),rfl,trivial⟩,qad⟩
   simp only[Act.put,xA,xB,xC,xD,xE,id]
   repeat(refine' Reg2.ak _ (by rfl) (fun wz=>?_) ?_;rotate_left;(go_simp;first|rfl|rw[qai (by omega)]);simp only[Act.put,xA,xB,xC,xD,xE,id])
   refine Reg2.pm (fun wz hI hF=>?_) (fun yN=>?_) (by rfl)
   ·have d0:=mG (hI.block _ (Put.lt_of_heap qF.out) |>.trans qF.out) 5 _ rfl;go_wp2_with fail
    first|exact⟨_,rfl,rfl,qad⟩|exact⟨_,rfl,⟨(),rfl,trivial⟩,qad⟩
   simp only[Act.put,xA,xB,xC,xD,xE,id];refine Reg2.ak (.agg cY.toArray) (by rfl) (fun wz=>?_) ?_
   ·go_simp;rw[Ap.out]
   simp only[Act.put,xA,xB,xC,xD,xE,id];refine Reg2.pm (fun wz hI hF=>?_) (fun xL=>?_) (by rfl)
   ·go_wp2_with fail;exact⟨_,rfl,⟨wz.heap.size,rfl,heap_alloc_new wz _,by have:=hI.size;omega⟩,(Below.refl wz.heap.size wz).alloc (qaf _) _⟩
   simp only[Act.put,xA,xB,xC,xD,xE,id];refine Reg2.aB ?_;intro w5 KW _ Xg;obtain⟨Iq,hx5⟩:=Xg.2.2.2.2.2.2.2.2.2.2.2.2.1;clear Xg r1 r4 r6 r8 yN;dsimp only[List.drop];obtain⟨Xh,hb6,Ep⟩:=QN (x:=((L.length:Int)+1,r.user,r.width,r.limit,r.prio,1,-1,-1,-1,0)) (cs:=[.int .i64 0,.int .i64 0,.int .i64 0,.int .i64 0,.int .i64 0,.int .i64 0,.int .i64 0,.int .i64 0,.int .i64 0,.int .u64 0]) Iq rfl;rw[show ah ((L.length:Int)+1,r.user,r.width,r.limit,r.prio,1,-1,-1,-1,0)=cY from Ap.out.symm]at Xh hb6 Ep;have zE:=bL;obtain⟨k,hk⟩:=qaa (10);rw[←hk]at zE;have lI:cY.length=k:=by rw[hk];exact hcl.out
   have TU:=qG.out.kept KW;have yO:=(KW.block _ (Put.lt_of_heap qF.out)).trans qF.out;have hx0:xL≠p:=fun e=>by have:=qG.out.lt;omega
   have qH:w.heap.size≠xL:=fun e=>by have:=Put.lt_of_heap qF.out;omega
   have hwR:w.heap.size≤xL:=by have:=hb4.out.size;omega
   have hxo:v.ownBlock≠some xL:=fun e=>by have:=(qG.out.own.lt _ e).2;omega
   have Aq:BV 134 [.bool true] (w5.setRow xL cY.toArray) p v L:=⟨(Ep.block p TU.lt hx0.symm hx0.symm).trans TU.cell,Ep.own TU.own fun k hk=>⟨fun e=>hxo (by rw[hk,e]),fun e=>hxo (by rw[hk,e])⟩⟩;have Oq:=(Ep.block w.heap.size (Put.lt_of_heap yO) qH qH).trans yO;have Ar:Below w.heap.size w (w5.setRow xL cY.toArray):=by
    have hb5:=hb4.out.trans (KW.mono hb4.out.size);have:=hb4.out.size;exact hb5.trans (Ep.below (by omega) (by omega) hb5.size)
   obtain⟨w6,rH⟩:=qaa (w5.setRow xL cY.toArray);rw[←rH]at Xh Aq Oq Ar hb6;replace rH:=qae rH;have hd6:=mG Oq 6 _ rfl;clear Iq qF qG TU yO Ep Oq KW hx5 hb4;replace Aq:=qae Aq;replace Ar:=qae Ar;replace hb6:=qae hb6;have f65:w6.frozen? ⟨xL,5,none⟩=false:=by simp[World.frozen?,hb6.out]
   have Xi:w6.cell? ⟨xL,5,none⟩=some (.int .i64 1):=by simp[World.cell?,hb6.out,Ap.out]
   replace hk:=qae hk;rcases Bool.eq_false_or_eq_true r.held with hh|hh
   ·rw[hh]at hd6;go_wp2_with fail;obtain⟨hA,QQ⟩:=QO (j:=5) (u:=.int .i64 2) hb6.out;have hT:BV 134 [.bool true] (w6.setCell ⟨xL,5,none⟩ (.int .i64 2)) p v L:=⟨(QQ.block p Aq.out.lt hx0.symm hx0.symm).trans Aq.out.cell,QQ.own Aq.out.own fun k hk=>⟨fun e=>hxo (by rw[hk,e]),fun e=>hxo (by rw[hk,e])⟩⟩;have vD:Below w.heap.size w (w6.setCell ⟨xL,5,none⟩ (.int .i64 2)):=Ar.out.trans (QQ.below (by omega) (by omega) Ar.out.size);generalize aK:w6.setCell ⟨xL,5,none⟩ (.int .i64 2)=wA at*;replace aK:=qae aK;have ey:((L.length:Int)+1,r.user,r.width,r.limit,r.prio,2,-1,-1,-1,0)=Em L r:=by unfold Em;rw[hh];rfl
    have hbne:=hxo;obtain⟨b,hb⟩:=qaa (xL);rw[←hb]at hA hbne⊢;replace hb:=qae hb;obtain rfl:=hk.out;clear zE lI hd6 f65 Xi hxo hx0 hb6 Aq Ar;obtain⟨y,hy⟩:∃y:Jb,y=((L.length:Int)+1,r.user,r.width,r.limit,r.prio,2,-1,-1,-1,0):=⟨_,rfl⟩;replace hA:wA.heap[b]? =some (.cells (ah y).toArray 55 (0,0)):=by rw[hy];rw[Ap.out]at hA;exact hA
    have hid:y.1=(L.length:Int)+1:=by rw[hy]
    rw[←hy]at ey;replace hy:=qae hy;replace vD:=qae vD;replace ey:=qae ey;obtain⟨x1,x2,x3,x4,x5,x6,x7,x8,x9,x0⟩:=y;replace hid:Hid (x1=(L.length:Int)+1):=qae hid;have cA:=hT.c1;have hpl:=hT.lt;have F8:v.ownBlock≠some p:=hT.ob (by decide);have tO:∀W,wA.grownBy W v.ownBlock→W.heap[p]? =_:=fun W hW=>(hW.block p hpl (fun e=>F8 e.symm)).trans hT.cell;have tQ:∀W,wA.grownBy W v.ownBlock→W.heap[b]? =some (.cells (ah (x1,x2,x3,x4,x5,x6,x7,x8,x9,x0)).toArray 55 (0,0)):=fun W hW=>(hW.block b (Put.lt_of_heap hA) (fun e=>hbne e.symm)).trans hA;have hI0:wA.grownBy wA.drew v.ownBlock:=⟨rfl,rfl,rfl,qaf _,fun _ _ _=>rfl⟩;have hS0:wA.drew.ownsRow 0 55 10 v L.length (L.flatMap ah):=bH hT.own fun _ _=>rfl;have BN:Hid ((ah (x1,x2,x3,x4,x5,x6,x7,x8,x9,x0)).length=10):=ay _;have BO:Hid (∀u∈ah (x1,x2,x3,x4,x5,x6,x7,x8,x9,x0),u.oneCell'=true):=dH _;have F9:∀q,v.ownBlock=some q→q<wA.heap.size:=fun q hq'=>(hT.own.lt q hq').2;replace hT:=qae hT;replace hA:=qae hA;replace tO:=qae tO;replace tQ:=qae tQ;replace F8:=qae F8;replace F9:=qae F9;replace hbne:=qae hbne;refine Reg2.sO 8 50 (Reg2.rows 0 [.p 0,.p 0,.p 2,.p 6,.p 14,.p 0,.p 32,.p 126]) [0,0,0,0,1,1,1,3]
     [.pure,.pure,.pure,.pure,.mU (v),.mU (.agg #[.int .i64 x1,.int .i64 x2,.int .i64 x3,.int .i64 x4,.int .i64 x5,.int .i64 x6,.int .i64 x7,.int .i64 x8,.int .i64 x9,.int .u64 x0]),.minor Nat 0 (fun x=>.slice (some ⟨x,0,none⟩) 1 1) (fun x W=>W.heap[x]? =some (.cells (ah (x1,x2,x3,x4,x5,x6,x7,x8,x9,x0)).toArray 55 (0,0))∧wA.heap.size≤x),.major Value undef id]
     (fun W=>wA.grownBy W v.ownBlock) (jb_AppS wA v L (x1,x2,x3,x4,x5,x6,x7,x8,x9,x0)) (fun a b=>a.grownBy b v.ownBlock) (by kernel_rfl) (by kernel_rfl) rfl rfl (fun vs a b h hs=>xK h hs) ?_ ?_ ?_ ?_ ?_ ?_
    ·intro a b he hb;exact⟨he.os.trans hb.os,he.tape.trans hb.tape,he.output.trans hb.output,Nat.le_trans hb.size he.size,fun q hq' h2=>(he.block q (Nat.lt_of_lt_of_le hq' hb.size)).trans (hb.block q hq' h2)⟩
    ·intro a b he hb;exact⟨he.os.trans hb.os,he.tape.trans hb.tape,he.output.trans hb.output,Nat.le_trans hb.size he.size,fun q hq' h2=>(he.block q (Nat.lt_of_lt_of_le hq' hb.size) h2).trans (hb.block q hq' h2)⟩
    ·refine⟨trivial,trivial,trivial,trivial,⟨fun _ _ _ _ _=>trivial,fun _ _ _ _ _=>trivial⟩,⟨fun _ _ _ _ _=>trivial,fun _ _ _ _ _=>trivial⟩,⟨fun x a b he h=>⟨(he.block x (Put.lt_of_heap h.1)).trans h.1,h.2⟩,fun x a b he h=>⟨(he.block x (Put.lt_of_heap h.1) (fun e=>by have:=F9.out x e.symm;have:=h.2;omega)).trans h.1,h.2⟩⟩,trivial,trivial⟩
    ·exact hI0
    ·exact hS0
    dsimp only[Reg2.rows,Reg2.mk,List.zip,List.zipWith,List.take]
    repeat((first
     |(refine' Reg2.ak _ (by rfl) (fun wz=>?_) ?_;rotate_left;(go_simp;first|rfl|rw[qai (by omega)]))
     |(refine Reg2.aA (by rfl) (fun wz hI hF=>?_) (fun _=>?_)
       ·unfold Reg2.One;have d0:wz.cell? ⟨p,1,none⟩=some v:=by simp[World.cell?,tO.out wz hI]
        have kk:=dP (tQ.out wz hI);have q0:=kk 0 _ rfl;have q1:=kk 1 _ rfl;have q2:=kk 2 _ rfl;have q3:=kk 3 _ rfl;have q4:=kk 4 _ rfl;have q5:=kk 5 _ rfl;have q6:=kk 6 _ rfl;have q7:=kk 7 _ rfl;have q8:=kk 8 _ rfl;have q9:=kk 9 _ rfl;clear kk;go_wp2_with fail
        first|exact⟨_,rfl,rfl,qad⟩|exact⟨_,rfl,⟨(),rfl,trivial⟩,qad⟩));simp only[Act.put,xA,xB,xC,xD,xE,id])
    refine Reg2.pm (fun wz hI hF=>?_) (fun r6=>?_) (by rfl)
    ·go_wp2_with fail;exact⟨_,rfl,⟨wz.heap.size,rfl,heap_alloc_new wz (.cells (ah (x1,x2,x3,x4,x5,x6,x7,x8,x9,x0)).toArray 55),by have:=hI.size;omega⟩,(Below.refl wz.heap.size wz).alloc (qaf _) _⟩
    simp only[Act.put,xA,xB,xC,xD,xE,id];refine Reg2.pj (fun wz hI hS hF=>?_) (fun vv=>?_) (by rfl)
    ·have hS1:wz.ownsRow 0 55 10 v L.length (L.flatMap ah):=hS;have hone:=hF.2.2.2.2.2.1;have hsrc:Src prog 10 50 (.slice (some ⟨r6,0,none⟩) 1 1) 1 (ah (x1,x2,x3,x4,x5,x6,x7,x8,x9,x0)) wz:=Src.ofSlice wz underlying50 ⟨r6,0,none⟩ 1 1 (ah (x1,x2,x3,x4,x5,x6,x7,x8,x9,x0)) BN.out (fun j u hj=>by rw[Go.WideShapes.add_plain];simpa using dP hone.1 j u hj) BO.out;have hszI:=hI.size;go_wp2_with (at_builtin;go_must (refine oN _ rfl (.tmp 42) (.tmp 44) 50 50 rfl 0 55 i0 (.agg (ah default).toArray) 10 80 underlying50 hi0 hz0 hz1 hz2 rfl v L.length (L.flatMap ah) rfl hS1 (.slice (some ⟨r6,0,none⟩) 1 1) 1 (ah (x1,x2,x3,x4,x5,x6,x7,x8,x9,x0)) rfl hsrc ?c0 ?c1 (Nat.zero_le _) ?c2))
     case c0=>unfold maxLen;omega
     case c1=>omega
     case c2=>
      intro v' w9 VN VO hnb;have hnn:dW wA v.ownBlock v'.ownBlock:=by
       rcases hnb with e|e
       ·exact .inl e
       ·exact .inr ⟨_,e,hszI⟩
      go_wp2_with fail;exact⟨v',rfl,⟨VN,hnn⟩,VO⟩
    simp only[Act.put,xA,xB,xC,xD,xE,id];refine Reg2.aB ?_;intro w3 HI3 KX rJ;clear rJ hI0 hS0 BN BO;obtain⟨ho3,QR⟩:w3.ownsRow 0 55 10 vv (L.length+1) (L.flatMap ah++ah (x1,x2,x3,x4,x5,x6,x7,x8,x9,x0))∧dW wA v.ownBlock vv.ownBlock:=KX;obtain⟨g',c',rfl⟩:∃g' c',vv=.slice (some ⟨g',0,none⟩) (L.length+1) c':=by
     obtain⟨Kn,c',e,hp'⟩:=dE ho3;obtain⟨g',e2⟩:=hp' (by omega);exact⟨g',c',by rw[e,e2]⟩
    have hp3:=tO.out w3 HI3;have hb3:=tQ.out w3 HI3;obtain⟨qG,qI⟩:=BV.Eo (D:=L++[(x1,x2,x3,x4,x5,x6,x7,x8,x9,x0)]) (by decide) hp3 (by rw[List.length_append,List.flatMap_append];simpa using ho3);have qI:=qI v.ownBlock;rw[show(List.length _:Nat)=1 from rfl]at qG qI;have BP:dI p v.ownBlock wA w3:=dI.En HI3;have hbp:b≠p:=fun e=>by rw[e,hp3]at hb3;cases hb3
    have hb4:(w3.setCell ⟨p,1,none⟩ (.slice (some ⟨g',0,none⟩) (L.length+1) c')).heap[b]? =some (.cells (ah (x1,x2,x3,x4,x5,x6,x7,x8,x9,x0)).toArray 55 (0,0)):=(Below.heap_setCell w3 ⟨p,_,none⟩ _ b hbp).trans hb3;have f3:w3.frozen? ⟨p,1,none⟩=false:=by simp[World.frozen?,hp3]
    have c3:w3.cell? ⟨p,1,none⟩=some v:=by simp[World.cell?,hp3]
    clear hp3 hb3 hT hA HI3 tO tQ F8 F9 hbne cA;dsimp only[List.drop];replace qI:=qae ((dI.of_below vD.out).trans (BP.trans qI (dW.refl _ _)) (dW.refl _ _));have hN:=qae (dW.trans (w:=w) (dW.refl w v.ownBlock) QR vD.out.size);rw[ey.out]at qG;have c5:(w3.setCell ⟨p,1,none⟩ (.slice (some ⟨g',0,none⟩) (L.length+1) c')).cell? ⟨b,0,none⟩=some (.int .i64 ((L.length:Int)+1)):=by rw[←hid.out];exact dP hb4 0 _ rfl
    replace qG:=qae qG;replace hb4:=qae hb4;clear BP QR ho3;go_wp2_with fail;go_ret2;exact hfin.out _ _ _ (by rfl) qG.out qI.out hN.out
   ·rw[hh]at hd6;go_wp2_with fail;have hA:=hb6.out;have hT:=Aq.out;have vD:=Ar.out;clear qH;obtain⟨wA,aK⟩:=qaa (w6);rw[←aK]at hA hT vD⊢;replace aK:=qae aK;have ey:((L.length:Int)+1,r.user,r.width,r.limit,r.prio,1,-1,-1,-1,0)=Em L r:=by unfold Em;rw[hh];rfl
    have hbne:=hxo;obtain⟨b,hb⟩:=qaa (xL);rw[←hb]at hA hbne⊢;replace hb:=qae hb;obtain rfl:=hk.out;clear zE lI hd6 f65 Xi hxo hx0 hb6 Aq Ar;obtain⟨y,hy⟩:∃y:Jb,y=((L.length:Int)+1,r.user,r.width,r.limit,r.prio,1,-1,-1,-1,0):=⟨_,rfl⟩;replace hA:wA.heap[b]? =some (.cells (ah y).toArray 55 (0,0)):=by rw[hy];rw[Ap.out]at hA;exact hA
    have hid:y.1=(L.length:Int)+1:=by rw[hy]
    rw[←hy]at ey;replace hy:=qae hy;replace vD:=qae vD;replace ey:=qae ey;obtain⟨x1,x2,x3,x4,x5,x6,x7,x8,x9,x0⟩:=y;replace hid:Hid (x1=(L.length:Int)+1):=qae hid;have cA:=hT.c1;have hpl:=hT.lt;have F8:v.ownBlock≠some p:=hT.ob (by decide);have tO:∀W,wA.grownBy W v.ownBlock→W.heap[p]? =_:=fun W hW=>(hW.block p hpl (fun e=>F8 e.symm)).trans hT.cell;have tQ:∀W,wA.grownBy W v.ownBlock→W.heap[b]? =some (.cells (ah (x1,x2,x3,x4,x5,x6,x7,x8,x9,x0)).toArray 55 (0,0)):=fun W hW=>(hW.block b (Put.lt_of_heap hA) (fun e=>hbne e.symm)).trans hA;have hI0:wA.grownBy wA.drew v.ownBlock:=⟨rfl,rfl,rfl,qaf _,fun _ _ _=>rfl⟩;have hS0:wA.drew.ownsRow 0 55 10 v L.length (L.flatMap ah):=bH hT.own fun _ _=>rfl;have BN:Hid ((ah (x1,x2,x3,x4,x5,x6,x7,x8,x9,x0)).length=10):=ay _;have BO:Hid (∀u∈ah (x1,x2,x3,x4,x5,x6,x7,x8,x9,x0),u.oneCell'=true):=dH _;have F9:∀q,v.ownBlock=some q→q<wA.heap.size:=fun q hq'=>(hT.own.lt q hq').2;replace hT:=qae hT;replace hA:=qae hA;replace tO:=qae tO;replace tQ:=qae tQ;replace F8:=qae F8;replace F9:=qae F9;replace hbne:=qae hbne;refine Reg2.sO 8 50 (Reg2.rows 0 [.p 0,.p 0,.p 2,.p 6,.p 14,.p 0,.p 32,.p 126]) [0,0,0,0,1,1,1,3]
     [.pure,.pure,.pure,.pure,.mU (v),.mU (.agg #[.int .i64 x1,.int .i64 x2,.int .i64 x3,.int .i64 x4,.int .i64 x5,.int .i64 x6,.int .i64 x7,.int .i64 x8,.int .i64 x9,.int .u64 x0]),.minor Nat 0 (fun x=>.slice (some ⟨x,0,none⟩) 1 1) (fun x W=>W.heap[x]? =some (.cells (ah (x1,x2,x3,x4,x5,x6,x7,x8,x9,x0)).toArray 55 (0,0))∧wA.heap.size≤x),.major Value undef id]
     (fun W=>wA.grownBy W v.ownBlock) (jb_AppS wA v L (x1,x2,x3,x4,x5,x6,x7,x8,x9,x0)) (fun a b=>a.grownBy b v.ownBlock) (by kernel_rfl) (by kernel_rfl) rfl rfl (fun vs a b h hs=>xK h hs) ?_ ?_ ?_ ?_ ?_ ?_
    ·intro a b he hb;exact⟨he.os.trans hb.os,he.tape.trans hb.tape,he.output.trans hb.output,Nat.le_trans hb.size he.size,fun q hq' h2=>(he.block q (Nat.lt_of_lt_of_le hq' hb.size)).trans (hb.block q hq' h2)⟩
    ·intro a b he hb;exact⟨he.os.trans hb.os,he.tape.trans hb.tape,he.output.trans hb.output,Nat.le_trans hb.size he.size,fun q hq' h2=>(he.block q (Nat.lt_of_lt_of_le hq' hb.size) h2).trans (hb.block q hq' h2)⟩
    ·refine⟨trivial,trivial,trivial,trivial,⟨fun _ _ _ _ _=>trivial,fun _ _ _ _ _=>trivial⟩,⟨fun _ _ _ _ _=>trivial,fun _ _ _ _ _=>trivial⟩,⟨fun x a b he h=>⟨(he.block x (Put.lt_of_heap h.1)).trans h.1,h.2⟩,fun x a b he h=>⟨(he.block x (Put.lt_of_heap h.1) (fun e=>by have:=F9.out x e.symm;have:=h.2;omega)).trans h.1,h.2⟩⟩,trivial,trivial⟩
    ·exact hI0
    ·exact hS0
    dsimp only[Reg2.rows,Reg2.mk,List.zip,List.zipWith,List.take]
    repeat((first
     |(refine' Reg2.ak _ (by rfl) (fun wz=>?_) ?_;rotate_left;(go_simp;first|rfl|rw[qai (by omega)]))
     |(refine Reg2.aA (by rfl) (fun wz hI hF=>?_) (fun _=>?_)
       ·unfold Reg2.One;have d0:wz.cell? ⟨p,1,none⟩=some v:=by simp[World.cell?,tO.out wz hI]
        have kk:=dP (tQ.out wz hI);have q0:=kk 0 _ rfl;have q1:=kk 1 _ rfl;have q2:=kk 2 _ rfl;have q3:=kk 3 _ rfl;have q4:=kk 4 _ rfl;have q5:=kk 5 _ rfl;have q6:=kk 6 _ rfl;have q7:=kk 7 _ rfl;have q8:=kk 8 _ rfl;have q9:=kk 9 _ rfl;clear kk;go_wp2_with fail
        first|exact⟨_,rfl,rfl,qad⟩|exact⟨_,rfl,⟨(),rfl,trivial⟩,qad⟩));simp only[Act.put,xA,xB,xC,xD,xE,id])
    refine Reg2.pm (fun wz hI hF=>?_) (fun r6=>?_) (by rfl)
    ·go_wp2_with fail;exact⟨_,rfl,⟨wz.heap.size,rfl,heap_alloc_new wz (.cells (ah (x1,x2,x3,x4,x5,x6,x7,x8,x9,x0)).toArray 55),by have:=hI.size;omega⟩,(Below.refl wz.heap.size wz).alloc (qaf _) _⟩
    simp only[Act.put,xA,xB,xC,xD,xE,id];refine Reg2.pj (fun wz hI hS hF=>?_) (fun vv=>?_) (by rfl)
    ·have hS1:wz.ownsRow 0 55 10 v L.length (L.flatMap ah):=hS;have hone:=hF.2.2.2.2.2.1;have hsrc:Src prog 10 50 (.slice (some ⟨r6,0,none⟩) 1 1) 1 (ah (x1,x2,x3,x4,x5,x6,x7,x8,x9,x0)) wz:=Src.ofSlice wz underlying50 ⟨r6,0,none⟩ 1 1 (ah (x1,x2,x3,x4,x5,x6,x7,x8,x9,x0)) BN.out (fun j u hj=>by rw[Go.WideShapes.add_plain];simpa using dP hone.1 j u hj) BO.out;have hszI:=hI.size;go_wp2_with (at_builtin;go_must (refine oN _ rfl (.tmp 42) (.tmp 44) 50 50 rfl 0 55 i0 (.agg (ah default).toArray) 10 80 underlying50 hi0 hz0 hz1 hz2 rfl v L.length (L.flatMap ah) rfl hS1 (.slice (some ⟨r6,0,none⟩) 1 1) 1 (ah (x1,x2,x3,x4,x5,x6,x7,x8,x9,x0)) rfl hsrc ?c0 ?c1 (Nat.zero_le _) ?c2))
     case c0=>unfold maxLen;omega
     case c1=>omega
     case c2=>
      intro v' w9 VN VO hnb;have hnn:dW wA v.ownBlock v'.ownBlock:=by
       rcases hnb with e|e
       ·exact .inl e
       ·exact .inr ⟨_,e,hszI⟩
      go_wp2_with fail;exact⟨v',rfl,⟨VN,hnn⟩,VO⟩
    simp only[Act.put,xA,xB,xC,xD,xE,id];refine Reg2.aB ?_;intro w3 HI3 KX rJ;clear rJ hI0 hS0 BN BO;obtain⟨ho3,QR⟩:w3.ownsRow 0 55 10 vv (L.length+1) (L.flatMap ah++ah (x1,x2,x3,x4,x5,x6,x7,x8,x9,x0))∧dW wA v.ownBlock vv.ownBlock:=KX;obtain⟨g',c',rfl⟩:∃g' c',vv=.slice (some ⟨g',0,none⟩) (L.length+1) c':=by
     obtain⟨Kn,c',e,hp'⟩:=dE ho3;obtain⟨g',e2⟩:=hp' (by omega);exact⟨g',c',by rw[e,e2]⟩
    have hp3:=tO.out w3 HI3;have hb3:=tQ.out w3 HI3;obtain⟨qG,qI⟩:=BV.Eo (D:=L++[(x1,x2,x3,x4,x5,x6,x7,x8,x9,x0)]) (by decide) hp3 (by rw[List.length_append,List.flatMap_append];simpa using ho3);have qI:=qI v.ownBlock;rw[show(List.length _:Nat)=1 from rfl]at qG qI;have BP:dI p v.ownBlock wA w3:=dI.En HI3;have hbp:b≠p:=fun e=>by rw[e,hp3]at hb3;cases hb3
    have hb4:(w3.setCell ⟨p,1,none⟩ (.slice (some ⟨g',0,none⟩) (L.length+1) c')).heap[b]? =some (.cells (ah (x1,x2,x3,x4,x5,x6,x7,x8,x9,x0)).toArray 55 (0,0)):=(Below.heap_setCell w3 ⟨p,_,none⟩ _ b hbp).trans hb3;have f3:w3.frozen? ⟨p,1,none⟩=false:=by simp[World.frozen?,hp3]
    have c3:w3.cell? ⟨p,1,none⟩=some v:=by simp[World.cell?,hp3]
    clear hp3 hb3 hT hA HI3 tO tQ F8 F9 hbne cA;dsimp only[List.drop];replace qI:=qae ((dI.of_below vD.out).trans (BP.trans qI (dW.refl _ _)) (dW.refl _ _));have hN:=qae (dW.trans (w:=w) (dW.refl w v.ownBlock) QR vD.out.size);rw[ey.out]at qG;have c5:(w3.setCell ⟨p,1,none⟩ (.slice (some ⟨g',0,none⟩) (L.length+1) c')).cell? ⟨b,0,none⟩=some (.int .i64 ((L.length:Int)+1)):=by rw[←hid.out];exact dP hb4 0 _ rfl
    replace qG:=qae qG;replace hb4:=qae hb4;clear BP QR ho3;go_wp2_with fail;go_ret2;exact hfin.out _ _ _ (by rfl) qG.out qI.out hN.out
 ·have hfin:=fun(W:World) (e:Ending) hr hb=>zM (w':=W) (e:=e) (r:=r) h (show iX L r=aS r by unfold iX;rw[qaj h0]) h0 hr hb;have d1:(aS r == 0)=false:=beq_eq_false_iff_ne.2 h0;replace hfin:=qae hfin;clear h h1 h0;generalize aS r=e1 at*;go_enter func138,ntmps138;go_wp2_with fail;go_at_call 82;rw[←hw1];replace hw1:=qae hw1;refine hno.mono ?_;clear hno;rintro e w' ⟨rfl,rfl⟩;go_wp2_with fail;go_at_call 185;refine hrt.mono ?_;clear hrt lr;rintro e w2 ⟨rfl,o2,rfl⟩;have hb2:Below w.heap.size w (w1.alloc o2):=hb1.alloc hb1.size _;replace hb2:=qae hb2;clear BM hb1;go_wp2_with fail;go_ret2;exact hfin.out _ _ rfl hb2.out
end
end Go.Proofs.YtaimcpmcndapcaaGreat
