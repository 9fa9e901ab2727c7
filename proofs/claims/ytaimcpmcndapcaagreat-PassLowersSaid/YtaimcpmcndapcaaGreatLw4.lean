/-
 Own words and walks, merged: part 4 of 8.
-/
import Derived.WalkKit
import Derived.ProofKit
import Derived.OpenShut
import Derived.Test.YtaimcpmcndapcaaGreatRows
import Derived.WalkSpells
import Derived.WalkLawsBesides
import Derived.Deep.DeepMust
import Derived.Lib.Hide
import Derived.Laws.Bits128
import Derived.Lib.MinMax
import Derived.RegionTactic
import Derived.ChangeAlike
import Derived.Deep.QuietTactic
import Derived.BigQuiet
import Derived.OwnWalk
import Derived.Test.YtaimcpmcndapcaaGreatChecked
import Derived.Laws.AppendOwn
import Derived.Lib.AppendZerosOnto
import Derived.Lib.Overlaps
import Derived.Laws.CopyRow
import Derived.Laws.Externs
import Derived.ArgAppend
import Derived.Test.YtaimcpmcndapcaaGreatLw3
set_option maxRecDepth 1000000
set_option maxHeartbeats 8000000
set_option linter.all false
namespace Go.Proofs.YtaimcpmcndapcaaGreat
open Go.Proofs.Tryz
open Go.RowKit Go.Sort Go.Lib Go.Shelf Put
section
variable {w w' : World} {p g n cap m : Nat} {v : Value} {L : List Jb}
theorem Du (w:World):Calls prog 182 #[.int .i64 5] w fun e w'=>e=.returned (.slice (some ⟨w.heap.size,0,none⟩) 3 3)∧w.alloc (.cells #[.int .i64 1,.int .i64 2,.int .i64 3] 3)=w':=by
 go_enter func182,ntmps182;go_wp2_with fail;go_ret;exact⟨rfl,rfl⟩
theorem Dv (s:Int)(hs:s≠5)(w:World):Calls prog 182 #[.int .i64 s] w fun e w'=>e=.returned (.slice (some ⟨w.heap.size,0,none⟩) 1 1)∧w.alloc (.cells #[.int .i64 3] 3)=w':=by
 have d:(s == 5)=false:=beq_eq_false_iff_ne.2 hs;go_enter func182,ntmps182;go_wp2_with fail;go_ret;exact⟨rfl,rfl⟩
theorem KY (h:TV w p v L)(id:Int)(s:Int)(a:Int)(hG:∀j∈L,1≤j.state∧j.state≤6):Calls prog 135 #[.pointer (some ⟨p,0,none⟩),.int .i64 id,.int .i64 s,.int .i64 a] w (kS w p v L (bB s a) id (fo s) (bR s a)):=by
 have hno:=lH h;by_cases t0:s<4
 ·have he:bB s a=1:=by unfold bB;simp[t0]
  have hfin:=fun(W:World) (e:Ending) (hr:e=.returned (.int .i64 1)) (hg:Gr w W)=>dF (ch:=bR s a) h (iD (L:=L) (id:=id) (ok:=fo s) (e0:=bB s a) (by omega) |>.trans he) (by decide) hr hg;replace hfin:=qae hfin;clear h he;have d:decide (s<4)=true:=qag t0;go_enter func135,ntmps135;go_wp2_with (go_at_call 82;go_must (refine hno.mono ?_);rintro e w' ⟨rfl,rfl⟩);go_ret;exact hfin.out _ _ rfl (Gr.refl _)
 ·have Xe:decide (s<4)=false:=qah t0;by_cases t1:6<s
  ·have he:bB s a=1:=by unfold bB;simp[t0,t1]
   have hfin:=fun(W:World) (e:Ending) (hr:e=.returned (.int .i64 1)) (hg:Gr w W)=>dF (ch:=bR s a) h (iD (L:=L) (id:=id) (ok:=fo s) (e0:=bB s a) (by omega) |>.trans he) (by decide) hr hg;replace hfin:=qae hfin;clear h he;have d:decide (6<s)=true:=qag t1;go_enter func135,ntmps135;go_wp2_with (go_at_call 82;go_must (refine hno.mono ?_);rintro e w' ⟨rfl,rfl⟩);go_ret;exact hfin.out _ _ rfl (Gr.refl _)
  ·have Xf:decide (6<s)=false:=qah t1;by_cases t2:a<0
   ·have he:bB s a=10:=by unfold bB;simp[t0,t1,t2]
    have hfin:=fun(W:World) (e:Ending) (hr:e=.returned (.int .i64 10)) (hg:Gr w W)=>dF (ch:=bR s a) h (iD (L:=L) (id:=id) (ok:=fo s) (e0:=bB s a) (by omega) |>.trans he) (by decide) hr hg;replace hfin:=qae hfin;clear h he;have jK:=gQ a 2199023255552 w;rw[show(decide (0≤a)&&decide (a≤2199023255552))=false from by simp;omega]at jK;go_enter func135,ntmps135;go_wp2_with (first|(go_at_call 82;go_must (refine hno.mono ?_);rintro e w' ⟨rfl,rfl⟩)|(go_at_call 180;go_must (refine jK.mono ?_);rintro e w' ⟨rfl,rfl⟩));go_ret;exact hfin.out _ _ rfl (Gr.refl _)
   ·have dt2:decide (a<0)=false:=qah t2;by_cases t3:2199023255552<a
    ·have he:bB s a=10:=by unfold bB;simp[t0,t1,t2,t3]
     have hfin:=fun(W:World) (e:Ending) (hr:e=.returned (.int .i64 10)) (hg:Gr w W)=>dF (ch:=bR s a) h (iD (L:=L) (id:=id) (ok:=fo s) (e0:=bB s a) (by omega) |>.trans he) (by decide) hr hg;replace hfin:=qae hfin;clear h he;have jK:=gQ a 2199023255552 w;rw[show(decide (0≤a)&&decide (a≤2199023255552))=false from by simp;omega]at jK;go_enter func135,ntmps135;go_wp2_with (first|(go_at_call 82;go_must (refine hno.mono ?_);rintro e w' ⟨rfl,rfl⟩)|(go_at_call 180;go_must (refine jK.mono ?_);rintro e w' ⟨rfl,rfl⟩));go_ret;exact hfin.out _ _ rfl (Gr.refl _)
    ·have dt3:decide (2199023255552<a)=false:=qah t3;have h0:bB s a=0:=by unfold bB;simp[t0,t1,t2,t3]
     by_cases h5:s=5
     ·have hen:=Du w;rw[←h5]at hen;have jK:=gQ a 2199023255552 w;rw[show(decide (0≤a)&&decide (a≤2199023255552))=true from by simp;omega]at jK;have hb1:=(Below.refl w.heap.size w).alloc (qaf _) (.cells #[.int .i64 1,.int .i64 2,.int .i64 3] 3);have hr:aC enc1 1 (w.alloc (.cells #[.int .i64 1,.int .i64 2,.int .i64 3] 3)) (.slice (some ⟨w.heap.size,0,none⟩) 3 3) [1,2,3]:=fM w w.heap.size [1,2,3] rfl (by decide);have hg1:=Gr.one w (.cells #[.int .i64 1,.int .i64 2,.int .i64 3] 3);have h1:=h.kept hb1;have hok:∀j∈L,(fo s) j=decide (j.state∈([1,2,3]:List Int)):=by intro j hj;have h6:=hG j hj;unfold fo;rw[h5];have h7:j.state=1∨j.state=2∨j.state=3∨j.state=4∨j.state=5∨j.state=6:=(by omega);rcases h7 with e|e|e|e|e|e<;>simp[e]
      rcases jg L (bB s a) id (fo s)with⟨e1,he,hne⟩|⟨m,rfl,hm,ho⟩
      ·have hfin:=fun(W:World) (e:Ending) (hr:e=.returned (.int .i64 e1)) (hg:Gr w W)=>dF (ch:=bR s a) h he hne hr hg;have hf:=mJ h1 id e1 hr (by rw[←jh hok,←jR h0];exact he) hne;have d1:(e1 == 0)=false:=beq_eq_false_iff_ne.2 hne;replace hfin:=qae hfin;replace hg1:=qae hg1;clear h h1 hr hb1 hok he hne h0;clear h5 hG;go_enter func135,ntmps135;go_wp2_with (first|(go_at_call 82;go_must (refine hno.mono ?_);rintro e w' ⟨rfl,rfl⟩)|(go_at_call 180;go_must (refine jK.mono ?_);rintro e w' ⟨rfl,rfl⟩)|(go_at_call 182;go_must (refine hen.mono ?_);rintro e w' ⟨rfl,rfl⟩));go_at_call 181;refine hf.mono ?_;clear hf;rintro e w2 ⟨rfl,hg⟩;have hg2:=qae (eB hg1.out hg);clear hg hg1;go_wp2_with fail;go_ret;exact hfin.out _ _ rfl hg2.out
      ·have hs:(L[m]!).state∈([1,2,3]:List Int):=of_decide_eq_true ((hok L[m]! (by rw[getElem!_pos L m hm];exact List.getElem_mem _)).symm.trans ho);obtain⟨g,cap,rfl⟩:=h.shape (by omega);have hf:=find_ok h1 hm hr hs;have hfin:=fun(W:World) (e:Ending) (hr:e=.returned (.int .i64 0)) (hT:TV W p (.slice (some ⟨g,0,none⟩) L.length cap) (L.set m ((bR s a) L[m]!))) (hq:dI p (some g) w W)=>iK (e0:=bB s a) (ok:=fo s) (ch:=bR s a) h0 hm ho hr hT hq;have jY:=RV.of h hm;generalize hy:L[m]! =y at*;replace hy:=qae hy;replace hfin:=qae hfin;replace jY:=qae jY;replace hm:=qae hm;replace hg1:=qae hg1;clear h h1 hr hb1 hok ho hs h0;clear h5 hG;go_enter func135,ntmps135;go_wp2_with (first|(go_at_call 82;go_must (refine hno.mono ?_);rintro e w' ⟨rfl,rfl⟩)|(go_at_call 180;go_must (refine jK.mono ?_);rintro e w' ⟨rfl,rfl⟩)|(go_at_call 182;go_must (refine hen.mono ?_);rintro e w' ⟨rfl,rfl⟩));go_at_call 181;refine hf.mono ?_;clear hf;rintro e w2 ⟨rfl,hg⟩;have hg2:=eB hg1.out hg;have rv:=jY.out.kept hg2.below;have q0:dI p (some g) w w2:=dI.of_below hg2.below;clear hg hg1 hg2 jY;obtain⟨k5,f5⟩:=rv.cellAt hm.out 5 _ rfl;by_cases h3:y.2.2.2.2.2.1=3
       ·have d3:(y.2.2.2.2.2.1 == 3)=true:=by rw[h3];rfl
        have oW:(((ah y).set 7 (.int .i64 a)).set 5 (.int .i64 s)).set 8 (.int .i64 (-1))=ah (bR s a y):=by unfold bR;rw[qaj h3];rfl
        replace oW:=qae oW;clear h3;obtain⟨k7,f7⟩:=rv.cellAt hm.out 7 _ rfl;obtain⟨k8,f8⟩:=rv.cellAt hm.out 8 _ rfl;replace rv:=qae rv;replace q0:=qae q0;go_wp2_with fail;go_ret;exact hfin.out _ _ rfl (RV.done (RV.set (RV.set (RV.set rv.out hm.out (j:=7) (by decide) (.int .i64 a)) hm.out (j:=5) (by decide) (.int .i64 s)) hm.out (j:=8) (by decide) (.int .i64 (-1))) hm.out oW.out) (((q0.out.trans (RV.frame _ _ _) (dW.refl _ _)).trans (RV.frame _ _ _) (dW.refl _ _)).trans (RV.frame _ _ _) (dW.refl _ _))
       ·have d3:(y.2.2.2.2.2.1 == 3)=false:=beq_eq_false_iff_ne.2 h3;have oW:((ah y).set 5 (.int .i64 s)).set 8 (.int .i64 (-1))=ah (bR s a y):=by unfold bR;rw[qai h3];rfl
        replace oW:=qae oW;clear h3;obtain⟨k8,f8⟩:=rv.cellAt hm.out 8 _ rfl;replace rv:=qae rv;replace q0:=qae q0;go_wp2_with fail;go_ret;exact hfin.out _ _ rfl (RV.done (RV.set (RV.set rv.out hm.out (j:=5) (by decide) (.int .i64 s)) hm.out (j:=8) (by decide) (.int .i64 (-1))) hm.out oW.out) ((q0.out.trans (RV.frame _ _ _) (dW.refl _ _)).trans (RV.frame _ _ _) (dW.refl _ _))
     ·have hen:=Dv s h5 w;have jK:=gQ a 2199023255552 w;rw[show(decide (0≤a)&&decide (a≤2199023255552))=true from by simp;omega]at jK;have hb1:=(Below.refl w.heap.size w).alloc (qaf _) (.cells #[.int .i64 3] 3);have hr:aC enc1 1 (w.alloc (.cells #[.int .i64 3] 3)) (.slice (some ⟨w.heap.size,0,none⟩) 1 1) [3]:=fM w w.heap.size [3] rfl (by decide);have hg1:=Gr.one w (.cells #[.int .i64 3] 3);have h1:=h.kept hb1;have hok:∀j∈L,(fo s) j=decide (j.state∈([3]:List Int)):=by intro j _;unfold fo;simp[h5]
      rcases jg L (bB s a) id (fo s)with⟨e1,he,hne⟩|⟨m,rfl,hm,ho⟩
      ·have hfin:=fun(W:World) (e:Ending) (hr:e=.returned (.int .i64 e1)) (hg:Gr w W)=>dF (ch:=bR s a) h he hne hr hg;have hf:=mJ h1 id e1 hr (by rw[←jh hok,←jR h0];exact he) hne;have d1:(e1 == 0)=false:=beq_eq_false_iff_ne.2 hne;replace hfin:=qae hfin;replace hg1:=qae hg1;clear h h1 hr hb1 hok he hne h0;clear h5 hG;go_enter func135,ntmps135;go_wp2_with (first|(go_at_call 82;go_must (refine hno.mono ?_);rintro e w' ⟨rfl,rfl⟩)|(go_at_call 180;go_must (refine jK.mono ?_);rintro e w' ⟨rfl,rfl⟩)|(go_at_call 182;go_must (refine hen.mono ?_);rintro e w' ⟨rfl,rfl⟩));go_at_call 181;refine hf.mono ?_;clear hf;rintro e w2 ⟨rfl,hg⟩;have hg2:=qae (eB hg1.out hg);clear hg hg1;go_wp2_with fail;go_ret;exact hfin.out _ _ rfl hg2.out
      ·have hs:(L[m]!).state∈([3]:List Int):=of_decide_eq_true ((hok L[m]! (by rw[getElem!_pos L m hm];exact List.getElem_mem _)).symm.trans ho);obtain⟨g,cap,rfl⟩:=h.shape (by omega);have hf:=find_ok h1 hm hr hs;have hfin:=fun(W:World) (e:Ending) (hr:e=.returned (.int .i64 0)) (hT:TV W p (.slice (some ⟨g,0,none⟩) L.length cap) (L.set m ((bR s a) L[m]!))) (hq:dI p (some g) w W)=>iK (e0:=bB s a) (ok:=fo s) (ch:=bR s a) h0 hm ho hr hT hq;have jY:=RV.of h hm;generalize hy:L[m]! =y at*;replace hy:=qae hy;replace hfin:=qae hfin;replace jY:=qae jY;replace hm:=qae hm;replace hg1:=qae hg1;clear h h1 hr hb1 hok ho hs h0;clear h5 hG;go_enter func135,ntmps135;go_wp2_with (first|(go_at_call 82;go_must (refine hno.mono ?_);rintro e w' ⟨rfl,rfl⟩)|(go_at_call 180;go_must (refine jK.mono ?_);rintro e w' ⟨rfl,rfl⟩)|(go_at_call 182;go_must (refine hen.mono ?_);rintro e w' ⟨rfl,rfl⟩));go_at_call 181;refine hf.mono ?_;clear hf;rintro e w2 ⟨rfl,hg⟩;have hg2:=eB hg1.out hg;have rv:=jY.out.kept hg2.below;have q0:dI p (some g) w w2:=dI.of_below hg2.below;clear hg hg1 hg2 jY;obtain⟨k5,f5⟩:=rv.cellAt hm.out 5 _ rfl;by_cases h3:y.2.2.2.2.2.1=3
       ·have d3:(y.2.2.2.2.2.1 == 3)=true:=by rw[h3];rfl
        have oW:(((ah y).set 7 (.int .i64 a)).set 5 (.int .i64 s)).set 8 (.int .i64 (-1))=ah (bR s a y):=by unfold bR;rw[qaj h3];rfl
        replace oW:=qae oW;clear h3;obtain⟨k7,f7⟩:=rv.cellAt hm.out 7 _ rfl;obtain⟨k8,f8⟩:=rv.cellAt hm.out 8 _ rfl;replace rv:=qae rv;replace q0:=qae q0;go_wp2_with fail;go_ret;exact hfin.out _ _ rfl (RV.done (RV.set (RV.set (RV.set rv.out hm.out (j:=7) (by decide) (.int .i64 a)) hm.out (j:=5) (by decide) (.int .i64 s)) hm.out (j:=8) (by decide) (.int .i64 (-1))) hm.out oW.out) (((q0.out.trans (RV.frame _ _ _) (dW.refl _ _)).trans (RV.frame _ _ _) (dW.refl _ _)).trans (RV.frame _ _ _) (dW.refl _ _))
       ·have d3:(y.2.2.2.2.2.1 == 3)=false:=beq_eq_false_iff_ne.2 h3;have oW:((ah y).set 5 (.int .i64 s)).set 8 (.int .i64 (-1))=ah (bR s a y):=by unfold bR;rw[qai h3];rfl
        replace oW:=qae oW;clear h3;obtain⟨k8,f8⟩:=rv.cellAt hm.out 8 _ rfl;replace rv:=qae rv;replace q0:=qae q0;go_wp2_with fail;go_ret;exact hfin.out _ _ rfl (RV.done (RV.set (RV.set rv.out hm.out (j:=5) (by decide) (.int .i64 s)) hm.out (j:=8) (by decide) (.int .i64 (-1))) hm.out oW.out) ((q0.out.trans (RV.frame _ _ _) (dW.refl _ _)).trans (RV.frame _ _ _) (dW.refl _ _))
end
section
variable {w w' : World} {p : Nat} {v : Value} {L : List Jb}
theorem BV.Xj (w:World):TV (w.alloc (.cells #[.bool true,.slice none 0 0] 134)) w.heap.size (.slice none 0 0) []:=
 ⟨heap_alloc_new w _,by simpa using World.ownsRow_nil _ 0 55 10⟩
theorem KZ (w:World):Calls prog 63 #[] w fun e w'=>e=.returned (.pointer (some ⟨w.heap.size,0,none⟩))∧w.alloc (.cells #[.bool true,.slice none 0 0] 134)=w':=by
 go_enter func63,ntmps63;go_wp2_with fail;go_ret;exact⟨rfl,rfl⟩
theorem TY (h:TV w p v L)(hL:L.length≤1000):Calls prog 44 #[.pointer (some ⟨p,0,none⟩)] w (oU w L):=by
 have c1:=h.c1;have hno:=lH h;have hc:=yK h.rowAt hL;unfold oU at*;obtain⟨ao,cap,rfl,_⟩:=dE h.own;clear h;go_enter func44,ntmps44;go_wp2_with (go_at_call 82;go_must (refine hno.mono ?_);rintro e w' ⟨rfl,rfl⟩);go_at_call 108;refine hc.mono ?_;clear hc;rintro e w2 ⟨v2,rfl,ho,hb⟩;have hfin:Hid (∃v',Ending.returned v2=.returned v'∧w2.ownsRow w.heap.size 55 10 v' L.length (L.flatMap ah)∧Below w.heap.size w w2):=⟨v2,rfl,ho,hb⟩;clear ho hb;go_wp2_with fail;go_ret;exact hfin.out
def BQ (w:World)(l:List Jb)(e:Ending)(w':World):Prop:=
 ∃v',e=.returned v'∧w'.ownsRow w.heap.size 55 10 v' l.length (l.flatMap ah)∧Below w.heap.size w w'
theorem tT (h:TV w p v L)(hL:L.length≤1000){sv:Value}{ps:List Int}(hr:aC enc1 1 w sv ps):Calls prog 24 #[.pointer (some ⟨p,0,none⟩),sv] w (BQ w (L.filter fun j=>decide (j.state∈ps))):=by
 have c1:=h.c1;have hno:=lH h;have zE:=bL;obtain⟨i0,hi0,hz0,hz1,hz2⟩:=info_parts xJ;obtain⟨k,hk⟩:=qaa (10);rw[←hk]at zE;replace hk:=qae hk;obtain⟨n,hn⟩:=qab (L.length);have HQ:Hid (0<n→∃g cap,v=.slice (some ⟨g,0,none⟩) n cap∧nC w g 0 L):=fun hp=>by
  obtain⟨g,cap,e⟩:=h.shape (by omega);subst e;exact⟨g,cap,by rw[hn],h.row⟩
 have hle:=sW h.own;obtain⟨ao,cap,rfl,_⟩:=dE h.own;rw[hn]at hL hle c1;replace hn:=qae hn;clear h;replace hr:=qae hr;go_enter func24,ntmps24;go_wp2_with (go_at_call 82;go_must (refine hno.mono ?_);rintro e w' ⟨rfl,rfl⟩);clear hno;go_loopw [5,15] (fun oo ii wr=>∃(i:Nat),i≤n∧ii=.int .i64 i∧wr.ownsRow w.heap.size 55 10 oo ((L.take i).filter fun j=>decide (j.state∈ps)).length (((L.take i).filter fun j=>decide (j.state∈ps)).flatMap ah)∧Below w.heap.size w wr) (fun _ ii _=>n-(intOf ii).toNat)
 case atStart=>exact⟨0,Nat.zero_le _,rfl,by simpa using World.ownsRow_nil w w.heap.size 55 10,Below.refl _ _⟩
 case round=>
  obtain⟨i,hin,rfl,hown,hbr⟩:=hrel;by_cases hlt:i<n
  ·have b2:(i:Int)<(n:Int):=by omega
   have wi:IntKind.i64.wrap ((i:Int)+1)=(i:Int)+1:=by rw[IntKind.wrap_i64];omega
   obtain⟨g,cap2,e2,hJ⟩:=HQ.out (by omega);cases e2;have iJ:i<L.length:=by have:=hn.out;omega
   have sP:=hJ.below hbr;have LI:=sP.load hk.out iJ;simp only[Nat.zero_add]at LI;have lI:=ay L[i]!;have st:Sem.run prog (storeCells ⟨wr.heap.size,0,none⟩ (ah L[i]!) 0) (wr.alloc (.cells #[.int .i64 0,.int .i64 0,.int .i64 0,.int .i64 0,.int .i64 0,.int .i64 0,.int .i64 0,.int .i64 0,.int .i64 0,.int .u64 0] 55))=.ok () (wr.alloc (.cells (ah L[i]!).toArray 55)):=df wr wr.heap.size (ah L[i]!) (ah default) 55 rfl (by rw[ay,ay]) (dH _);rw[←hk.out]at lI;have hb1:Below w.heap.size w (wr.alloc (.cells (ah L[i]!).toArray 55)):=hbr.alloc hbr.size _;have ZB:=hb1.size;have jc:=qae (dP (heap_alloc_new wr (.cells (ah L[i]!).toArray 55)));have k5:=jc.out 5 _ rfl;have hown1:=hown.alloc (.cells (ah L[i]!).toArray 55);have hct:=rG (L[i]!).state (hr.out.below hb1);obtain⟨X,hX⟩:=qaa ((L.take i).filter fun j=>decide (j.state∈ps));have VM:X.length≤1000:=by rw[hX];exact Nat.le_trans (List.length_filter_le _ _) (by rw[List.length_take];omega)
   rw[←hX]at hown hown1;have HE:Hid ((L.take (i+1)).filter (fun j=>decide (j.state∈ps))=if decide ((L[i]!).state∈ps)=true then X++[L[i]!]else X):=by
    show _=_;rw[hX];split
    ·exact Ej iJ ‹_›
    ·rename_i hq
     exact Ie iJ (Bool.eq_false_iff.2 hq)
   replace hX:=qae hX;replace hk:=hk.out;have hsz:w.heap.size≤wr.heap.size:=hbr.size;clear hJ sP hbr hown;generalize hy:L[i]! =y at*;replace hy:=qae hy;have es:y.2.2.2.2.2.1=y.state:=rfl;rw[es]at k5;clear es;generalize y.state=s at*;rcases Bool.eq_false_or_eq_true (decide (s∈ps))with hd|hd
   ·rw[hd]at hct;have HE2:=HE.out;rw[qaj hd]at HE2;replace HE2:=qae HE2;replace hd:=qae hd;clear HE;generalize hcI:ah y=cI at*;replace hcI:=qae hcI;generalize hw1:wr.alloc (.cells cI.toArray 55)=w1 at*;replace hw1:=qae hw1;replace hk:=qae hk;go_wp2_with fail;go_at_call 83;refine hct.mono ?_;clear hct;rintro e w5 ⟨rfl,rfl⟩;clear st LI lI;obtain rfl:=hk.out;have QJ:=hcI.out;clear hcI;obtain⟨x1,x2,x3,x4,x5,x6,x7,x8,x9,x0⟩:=y;subst QJ;have k0:=jc.out 0 _ rfl;have k1:=jc.out 1 _ rfl;have k2:=jc.out 2 _ rfl;have k3:=jc.out 3 _ rfl;have k4:=jc.out 4 _ rfl;have k6:=jc.out 6 _ rfl;have k7:=jc.out 7 _ rfl;have k8:=jc.out 8 _ rfl;have k9:=jc.out 9 _ rfl;have YX:=jc.out 5 _ rfl;clear k5
    (try simp only[ah])
    go_wp2_with (at_builtin;go_must (refine wpList_append_own _ rfl (.tmp 23) (.tmp 25) 50 rfl w.heap.size 55 i0 (.agg (ah default).toArray) 10 80 underlying50 hi0 hz0 hz1 hz2 rfl (by decide) u5 X.length (X.flatMap ah) rfl (hown1.alloc _) ⟨w1.heap.size,0,none⟩ 1 1 (ah (x1,x2,x3,x4,x5,x6,x7,x8,x9,x0)) rfl rfl ?c0 ?c1 ?c2 ?c3 ?c4 ?c5))
    case c0=>exact fun _ _ h=>h
    case c1=>exact dH _
    case c2=>unfold maxLen;omega
    case c3=>omega
    case c4=>(have hh:∀o,(w1.alloc o).heap.size=w1.heap.size+1:=fun o=>by simp);first|omega|(rw[hh];omega)
    case c5=>
     intro v6 w7 Ao vC _;have kr:Below w.heap.size w w7:=(hb1.alloc hb1.size _).grown vC (by simp;omega) (fun k hk=>(hown1.lt k hk).1);have KU:Hid (w7.ownsRow w.heap.size 55 10 v6 ((L.take (i+1)).filter fun j=>decide (j.state∈ps)).length (((L.take (i+1)).filter fun j=>decide (j.state∈ps)).flatMap ah)):=by
      show World.ownsRow _ _ _ _ _ _ _;rw[HE2.out,List.length_append,List.flatMap_append];simp only[List.length_singleton,List.flatMap_cons,List.flatMap_nil,List.append_nil];exact Ao
     clear k0 k1 k2 k3 k4 YX k6 k7 k8 k9 Ao vC hown1 hb1;go_wp2_with fail;go_roundw
     case rel=>exact⟨i+1,by omega,by go_num,KU.out,kr⟩
     case measure=>simp[intOf];omega
   ·rw[hd]at hct;have HE2:=HE.out;rw[qai (by rw[hd];decide)]at HE2;have KU:Hid ((wr.alloc (.cells (ah y).toArray 55)).ownsRow w.heap.size 55 10 u5 ((L.take (i+1)).filter fun j=>decide (j.state∈ps)).length (((L.take (i+1)).filter fun j=>decide (j.state∈ps)).flatMap ah)):=by
     show World.ownsRow _ _ _ _ _ _ _;rw[HE2];exact hown1
    replace hd:=qae hd;clear HE HE2 hown1 jc;generalize ah y=cI at*;generalize hw1:wr.alloc (.cells cI.toArray 55)=w1 at*;replace hw1:=qae hw1;replace hk:=qae hk;go_wp2_with (go_at_call 83;go_must (refine hct.mono ?_);rintro e w5 ⟨rfl,rfl⟩);go_roundw
    case rel=>exact⟨i+1,by omega,by go_num,KU.out,hb1⟩
    case measure=>simp[intOf];omega
  ·obtain rfl:i=n:=by omega
   have b2:¬(i:Int)<(i:Int):=by omega
   have e1:L.take i=L:=List.take_of_length_le (by rw[hn.out];exact qaf _);rw[e1]at hown;have hfin:Hid (BQ w (L.filter fun j=>decide (j.state∈ps)) (.returned u5) wr):=⟨u5,rfl,hown,hbr⟩;clear hown e1;go_wp2_with fail;go_ret;exact hfin.out
theorem Ir (h:TV w p v L)(hL:L.length≤1000):Calls prog 105 #[.pointer (some ⟨p,0,none⟩)] w fun e w'=>∃(v':Value) (r:List Jb),e=.returned v'∧aC ah 10 w' v' r∧r.Perm (L.filter fun j=>decide (j.state=1))∧r.Pairwise (fun x y=>aP y x=false)∧Below w.heap.size w w':=by
 have hb1:=(Below.refl w.heap.size w).alloc (qaf _) (.cells #[.int .i64 1] 3);have hr:aC enc1 1 (w.alloc (.cells #[.int .i64 1] 3)) (.slice (some ⟨w.heap.size,0,none⟩) 1 1) [1]:=fM w w.heap.size [1] rfl (by decide);have hI:=tT (h.kept hb1) hL hr;have ef:(L.filter fun j=>decide (j.state∈([1]:List Int)))=L.filter fun j=>decide (j.state=1):=by
  congr 1
  funext j
  simp
 rw[ef]at hI;have hF:(L.filter fun j=>decide (j.state=1)).length≤1000:=Nat.le_trans (List.length_filter_le _ _) hL;clear ef h hr;generalize (L.filter fun j=>decide (j.state=1))=F at*;replace hb1:=qae hb1;go_enter func105,ntmps105;go_wp2_with fail;go_at_call 24;refine hI.mono ?_;clear hI;rintro e w2 ⟨v2,rfl,ho,hb⟩;have hs:=Oi v2 F w2 (aC.fA ho ay rfl rfl) hF;have hb2:=hb1.out.trans (hb.mono hb1.out.size);replace hb2:=qae hb2;clear ho hb hb1;go_wp2_with fail;go_at_call 169;refine hs.mono ?_;clear hs;rintro e w3 ⟨v3,r,rfl,h1,_,h2,h3,h4⟩;have hfin:Hid (∃(v':Value) (r:List Jb),Ending.returned v3=.returned v'∧aC ah 10 w3 v' r∧r.Perm F∧r.Pairwise (fun x y=>aP y x=false)∧Below w.heap.size w w3):=⟨v3,r,rfl,h1,h2,h3,hb2.out.trans (h4.mono hb2.out.size)⟩;clear h1 h2 h3 h4 hb2;go_wp2_with fail;go_ret;exact hfin.out
end
def ofK (f:Nat→Bool):Nat→Nat
 |0=>0
 |k+1=>ofK f k+(if f k then 2^k else 0)
theorem Nh (f:Nat→Bool)(k:Nat):ofK f k<2^k:=by
 induction k with
 |zero=>simp[ofK]
 |succ k ih=>
  simp only[ofK,Nat.pow_succ];split<;>omega
theorem Ga (f:Nat→Bool)(k i:Nat):(ofK f k).testBit i=(decide (i<k)&&f i):=by
 induction k with
 |zero=>simp[ofK]
 |succ k ih=>
  have hlt:=Nh f k;have e:ofK f (k+1)=2^k*(if f k then 1 else 0)+ofK f k:=by
   simp only[ofK];split<;>omega
  rw[e,Nat.testBit_two_pow_mul_add _ hlt,ih];by_cases h:i<k
  ·simp[h,show i<k+1 by omega]
  ·by_cases h2:i=k
   ·subst h2;simp;cases f i<;>rfl
   ·have:(if f k=true then 1 else 0).testBit (i-k)=false:=by
     have h3:0<i-k:=by omega
     split
     ·exact Nat.testBit_lt_two_pow (Nat.one_lt_two_pow (by omega))
     ·simp
    simp[this,h,show¬i<k+1 by omega]
def aR (f:Nat→Bool):Nat:=ofK f 64
theorem ed (f:Nat→Bool):aR f<18446744073709551616:=Nh f 64
theorem bq (f:Nat→Bool)(i:Nat):(aR f).testBit i=(decide (i<64)&&f i):=Ga f 64 i
theorem Ot {u i:Nat}(hu:u<18446744073709551616)(hi:64≤i):u.testBit i=false:=
 Nat.testBit_lt_two_pow (Nat.lt_of_lt_of_le hu (show 2^64≤2^i from Nat.pow_le_pow_right (by decide) hi))
theorem kI {f:Nat→Bool}{u:Nat}(hu:u<18446744073709551616)(h:∀i,i<64→f i=u.testBit i):aR f=u:=by
 apply Nat.eq_of_testBit_eq;intro i;rw[bq];by_cases hi:i<64
 ·simp[hi,h i hi]
 ·rw[Ot hu (Nat.le_of_not_lt hi)];simp[hi]
theorem fP {f g:Nat→Bool}(h:∀i,i<64→f i=g i):aR f=aR g:=
 kI (ed g) fun i hi=>by rw[bq,h i hi];simp[hi]
def aQ (f:Nat→Bool):Nat→Nat
 |0=>0
 |k+1=>aQ f k+(if f k then 1 else 0)
theorem QS (f:Nat→Bool)(k:Nat):aQ f k≤k:=by
 induction k with
 |zero=>simp[aQ]
 |succ k ih=>simp only[aQ];split<;>omega
theorem tX {f g:Nat→Bool}(k:Nat)(h:∀i,i<k→f i=g i):aQ f k=aQ g k:=by
 induction k with
 |zero=>rfl
 |succ k ih=>simp only[aQ];rw[ih fun i hi=>h i (by omega),h k (by omega)]
def sG (u:Nat)(n:Int):Bool:=decide (0≤n)&&(decide (n≤63)&&u.testBit n.toNat)
theorem oq {u i:Nat}(hi:i<64):sG u (i:Int)=u.testBit i:=by
 unfold sG;have:((i:Int)≤63):=by omega
 simp[this]
open Go.ChangeShapes Go.WideShapes Go.ChangeAt
structure pV (w : World) (v : Value) (zs : List Int) : Prop where
 shape:∃ao cap,v=.slice ao zs.length cap∧zs.length≤cap∧cap≤maxLen∧(zs≠ []→∃b off,ao=some ⟨b,off,none⟩∧b<w.heap.size∧∀i,i<zs.length→w.cell? ⟨b,off+i,none⟩=some (.int .i64 (zs.getD i 0)))
 fits:∀z∈zs,-9223372036854775808≤z∧z≤9223372036854775807
theorem QT {α:Type}{l:List α}{k:Nat}{d:α}(h:k<l.length):l.getD k d=l[k]:=by simp[List.getD,h]
theorem BR {zs:List Int}{k:Nat}(h:k<zs.length):zs.take (k+1)=zs.take k++[zs.getD k 0]:=by
 rw[List.take_succ_eq_append_getElem h,QT h]
theorem kT {b x i:Nat}(hb:b<256):(b+256*x).testBit i=if i<8 then b.testBit i else x.testBit (i-8):=by
 have:=Nat.testBit_two_pow_mul_add x (i:=8) (show b<2^8 from hb) i;rw[show b+256*x=2^8*x+b by omega];exact this
theorem Ni {b c:Nat}(hc:c<256):b &&& c<256:=Nat.lt_of_le_of_lt Nat.and_le_right hc
theorem yP {b c x y:Nat}(hb:b<256)(hc:c<256):(b+256*x) &&& (c+256*y)=(b &&& c)+256*(x &&& y):=by
 apply Nat.eq_of_testBit_eq;intro i;rw[Nat.testBit_and,kT hb,kT hc,kT (Ni hc),Nat.testBit_and,Nat.testBit_and];split<;>rfl
theorem zN {b c x y s t:Nat}(hb:b<256)(hst:s+t=8)(hc:c<2^t):((b+256*x) >>> s) &&& (c+256*y)=((b >>> s) &&& c)+256*((x >>> s) &&& y):=by
 have hc8:c<256:=Nat.lt_of_lt_of_le hc (show 2^t≤2^8 from Nat.pow_le_pow_right (by decide) (by omega));apply Nat.eq_of_testBit_eq;intro i;rw[Nat.testBit_and,Nat.testBit_shiftRight,kT hb,kT hc8,kT (Ni hc8),Nat.testBit_and,Nat.testBit_and,Nat.testBit_shiftRight,Nat.testBit_shiftRight];by_cases hi:i<8
 ·simp only[hi,if_true];by_cases h2:s+i<8
  ·simp only[h2,if_true]
  ·have hz:c.testBit i=false:=Nat.testBit_lt_two_pow (Nat.lt_of_lt_of_le hc (Nat.pow_le_pow_right (by decide) (by omega)));simp[hz]
 ·have h2:¬s+i<8:=by omega
  simp only[hi,h2,if_false];rw[show s+i-8=s+(i-8)by omega]
def g1 (b:Nat):Nat:=((b >>> 1) &&& 85)+(b &&& 85)
def g2 (b:Nat):Nat:=((b >>> 2) &&& 51)+(b &&& 51)
theorem tY :∀b,b<256→g1 b<256∧g2 (g1 b)%16≤4∧g2 (g1 b)/16≤4∧g2 (g1 b)<256∧g2 (g1 b)%16+g2 (g1 b)/16=aQ b.testBit 8:=by decide+kernel
theorem step1 {b x m:Nat}(hb:b<256):((b+256*x) >>> 1 &&& (85+256*m))+((b+256*x) &&& (85+256*m))=g1 b+256*((x >>> 1 &&& m)+(x &&& m)):=by
 rw[zN hb (show 1+7=8 from rfl) (by decide),yP hb (by decide)];unfold g1;omega
theorem step2 {b x m:Nat}(hb:b<256):((b+256*x) >>> 2 &&& (51+256*m))+((b+256*x) &&& (51+256*m))=g2 b+256*((x >>> 2 &&& m)+(x &&& m)):=by
 rw[zN hb (show 2+6=8 from rfl) (by decide),yP hb (by decide)];unfold g2;omega
theorem mK {b x:Nat}(hb:b<256)(k:Nat):aQ (b+256*x).testBit (8+k)=aQ b.testBit 8+aQ x.testBit k:=by
 induction k with
 |zero=>
  show aQ _ 8=aQ _ 8+0;rw[Nat.add_zero];apply tX;intro i hi;rw[kT hb,qaj hi]
 |succ k ih=>
  have e:(b+256*x).testBit (8+k)=x.testBit k:=by rw[kT hb,qai (by omega),show 8+k-8=k by omega]
  show aQ (b+256*x).testBit (8+k)+(if(b+256*x).testBit (8+k)then 1 else 0)=aQ b.testBit 8+(aQ x.testBit k+(if x.testBit k then 1 else 0));rw[ih,e,Nat.add_assoc]
theorem TZ (u:Nat)(hu:u<18446744073709551616):∃b0 b1 b2 b3 b4 b5 b6 b7:Nat,b0<256∧b1<256∧b2<256∧b3<256∧b4<256∧b5<256∧b6<256∧b7<256∧
 u=b0+256*(b1+256*(b2+256*(b3+256*(b4+256*(b5+256*(b6+256*(b7+256*0))))))):=
 ⟨u %256,u/256 %256,u/65536 %256,u/16777216 %256,u/4294967296 %256,u/1099511627776 %256,u/281474976710656 %256,u/72057594037927936,by omega,by omega,by omega,by omega,by omega,by omega,by omega,by omega,by omega⟩
theorem T9 :6148914691236517205=85+256*(85+256*(85+256*(85+256*(85+256*(85+256*(85+256*(85+256*0))))))):=rfl
theorem Ua :3689348814741910323=51+256*(51+256*(51+256*(51+256*(51+256*(51+256*(51+256*(51+256*0))))))):=rfl
theorem Ub :1085102592571150095=15+256*(15+256*(15+256*(15+256*(15+256*(15+256*(15+256*(15+256*0))))))):=rfl
theorem Gb (n0 n1 n2 n3 n4 n5 n6 n7:Nat)(h0:n0 %16≤4∧n0/16≤4)(h1:n1 %16≤4∧n1/16≤4)(h2:n2 %16≤4∧n2/16≤4)(h3:n3 %16≤4∧n3/16≤4)
 (h4:n4 %16≤4∧n4/16≤4) (h5:n5 %16≤4∧n5/16≤4) (h6:n6 %16≤4∧n6/16≤4) (h7:n7 %16≤4∧n7/16≤4):
 ((n0+256*(n1+256*(n2+256*(n3+256*(n4+256*(n5+256*(n6+256*(n7+256*0)))))))) >>> 4+(n0+256*(n1+256*(n2+256*(n3+256*(n4+256*(n5+256*(n6+256*(n7+256*0))))))))) &&& 1085102592571150095=
 (n0 %16+n0/16)+256*((n1 %16+n1/16)+256*((n2 %16+n2/16)+256*((n3 %16+n3/16)+256*((n4 %16+n4/16)+256*((n5 %16+n5/16)+256*((n6 %16+n6/16)+256*((n7 %16+n7/16)+256*0))))))):=by
 have e:(n0+256*(n1+256*(n2+256*(n3+256*(n4+256*(n5+256*(n6+256*(n7+256*0)))))))) >>> 4+(n0+256*(n1+256*(n2+256*(n3+256*(n4+256*(n5+256*(n6+256*(n7+256*0))))))))=
  ((n0 %16+n0/16)+16*(n0/16+n1 %16))+256*(((n1 %16+n1/16)+16*(n1/16+n2 %16))+256*(((n2 %16+n2/16)+16*(n2/16+n3 %16))+256*(((n3 %16+n3/16)+16*(n3/16+n4 %16))+
  256*(((n4 %16+n4/16)+16*(n4/16+n5 %16))+256*(((n5 %16+n5/16)+16*(n5/16+n6 %16))+256*(((n6 %16+n6/16)+16*(n6/16+n7 %16))+256*(((n7 %16+n7/16)+16*(n7/16))+256*0))))))):=by
  rw[Nat.shiftRight_eq_div_pow];omega
 have YY:∀s t:Nat,s≤8→(s+16*t) &&& 15=s:=fun s t hs=>by
  rw[show(15:Nat)=2^4-1 from rfl,Nat.and_two_pow_sub_one_eq_mod];omega
 rw[e,Ub]
 iterate 8 rw[yP (by omega) (by decide),YY _ _ (by omega)]
 simp
theorem K3 (p0 p1 p2 p3 p4 p5 p6 p7:Nat)(h0:p0≤8)(h1:p1≤8)(h2:p2≤8)(h3:p3≤8)(h4:p4≤8)(h5:p5≤8)(h6:p6≤8)(h7:p7≤8)(x3 x4 x5 x6:Nat)
 (e3:x3=p0+256*(p1+256*(p2+256*(p3+256*(p4+256*(p5+256*(p6+256*(p7+256*0)))))))) (e4:x4=x3+x3 >>> 8) (e5:x5=x4+x4 >>> 16) (e6:x6=x5+x5 >>> 32):
 x4<18446744073709551616∧x5<18446744073709551616∧x6<18446744073709551616∧x6 &&& 127=p0+p1+p2+p3+p4+p5+p6+p7:=by
 rw[Nat.shiftRight_eq_div_pow]at e4 e5 e6;simp only[Nat.reducePow]at e4 e5 e6;have dv:∀a b m:Nat,a<m→(a+m*b)/m=b:=fun a b m h=>by rw[Nat.add_mul_div_left _ _ (by omega),Nat.div_eq_of_lt h,Nat.zero_add]
 obtain⟨X,hX⟩:=qaa (p1+256*(p2+256*(p3+256*(p4+256*(p5+256*(p6+256*(p7+256*0)))))));obtain⟨Y,hY⟩:=qaa ((p2+p3)+256*((p3+p4)+256*((p4+p5)+256*((p5+p6)+256*((p6+p7)+256*p7)))));obtain⟨Z,hZ⟩:=qaa ((p4+p5+p6+p7)+256*((p5+p6+p7)+256*((p6+p7)+256*p7)));have d3:x3=p0+256*X:=by rw[e3,hX]
 have v3:x3/256=X:=by rw[d3];exact dv _ _ _ (by omega)
 rw[v3]at e4;have d4:x4=((p0+p1)+256*(p1+p2))+65536*Y:=by omega
 have v4:x4/65536=Y:=by rw[d4];exact dv _ _ _ (by omega)
 rw[v4]at e5;have d5:x5=((p0+p1+p2+p3)+256*((p1+p2+p3+p4)+256*((p2+p3+p4+p5)+256*(p3+p4+p5+p6))))+4294967296*Z:=by omega
 have v5:x5/4294967296=Z:=by rw[d5];exact dv _ _ _ (by omega)
 rw[v5]at e6;have b4:x4<18446744073709551616:=by clear e3 e5 e6 v3 v4 v5 d5 hZ hX;omega
 have b5:x5<18446744073709551616:=by clear e3 e4 e5 e6 v3 v4 v5 d3 d4 hY hX;omega
 clear e3 e4 e5 v3 v4 v5 dv d3 d4 hX hY;rw[d5]at e6;have b6:x6<18446744073709551616:=by clear d5;omega
 refine⟨b4,b5,b6,?_⟩;clear d5 b4 b5 b6;rw[show(127:Nat)=2^7-1 from rfl,Nat.and_two_pow_sub_one_eq_mod];simp only[Nat.reducePow];obtain⟨W,hW⟩:∃W,Z=(p4+p5+p6+p7)+256*W:=⟨_,hZ⟩;clear hZ;omega
def c1 (u:Nat):Nat:=(u >>> 1 &&& 6148914691236517205)+(u &&& 6148914691236517205)
def c2 (u:Nat):Nat:=(u >>> 2 &&& 3689348814741910323)+(u &&& 3689348814741910323)
def c3 (u:Nat):Nat:=(u >>> 4+u) &&& 1085102592571150095
theorem gU {b x m:Nat}(h:b<256)(hx:x<m):b+256*x<256*m:=by omega
theorem Uc {b0 b1 b2 b3 b4 b5 b6 b7:Nat}(h0:b0<256)(h1:b1<256)(h2:b2<256)(h3:b3<256)(h4:b4<256)(h5:b5<256)(h6:b6<256)(h7:b7<256):
 b0+256*(b1+256*(b2+256*(b3+256*(b4+256*(b5+256*(b6+256*(b7+256*0)))))))<18446744073709551616:=
 Nat.lt_of_lt_of_le (gU h0 (gU h1 (gU h2 (gU h3 (gU h4 (gU h5 (gU h6 (gU h7 (Nat.zero_lt_one))))))))) (by decide)
theorem Ud {b0 b1 b2 b3 b4 b5 b6 b7:Nat}(h0:b0≤68)(h1:b1≤68)(h2:b2≤68)(h3:b3≤68)(h4:b4≤68)(h5:b5≤68)(h6:b6≤68)(h7:b7≤68):
 b0+256*(b1+256*(b2+256*(b3+256*(b4+256*(b5+256*(b6+256*(b7+256*0)))))))<9223372036854775808:=
 Nat.lt_of_lt_of_le (gU (show b0<256 by omega) (gU (show b1<256 by omega) (gU (show b2<256 by omega) (gU (show b3<256 by omega) (gU (show b4<256 by omega) (gU (show b5<256 by omega) (gU (show b6<256 by omega) (show b7+256*0<128 by omega)))))))) (by decide)
theorem half (n:Nat)(h:n %16≤4∧n/16≤4):n≤68∧n %16+n/16≤8:=by omega
theorem Ou {b0 b1 b2 b3 b4 b5 b6 b7:Nat}(k0:b0<256)(k1:b1<256)(k2:b2<256)(k3:b3<256)(k4:b4<256)(k5:b5<256)(k6:b6<256)(k7:b7<256):
 c1 (b0+256*(b1+256*(b2+256*(b3+256*(b4+256*(b5+256*(b6+256*(b7+256*0))))))))=g1 b0+256*(g1 b1+256*(g1 b2+256*(g1 b3+256*(g1 b4+256*(g1 b5+256*(g1 b6+256*(g1 b7+256*0))))))):=by
 unfold c1;rw[T9,step1 k0,step1 k1,step1 k2,step1 k3,step1 k4,step1 k5,step1 k6,step1 k7];simp
theorem Ov {b0 b1 b2 b3 b4 b5 b6 b7:Nat}(k0:b0<256)(k1:b1<256)(k2:b2<256)(k3:b3<256)(k4:b4<256)(k5:b5<256)(k6:b6<256)(k7:b7<256):
 c2 (b0+256*(b1+256*(b2+256*(b3+256*(b4+256*(b5+256*(b6+256*(b7+256*0))))))))=g2 b0+256*(g2 b1+256*(g2 b2+256*(g2 b3+256*(g2 b4+256*(g2 b5+256*(g2 b6+256*(g2 b7+256*0))))))):=by
 unfold c2;rw[Ua,step2 k0,step2 k1,step2 k2,step2 k3,step2 k4,step2 k5,step2 k6,step2 k7];simp
theorem K4 {b0 b1 b2 b3 b4 b5 b6 b7:Nat}(k0:b0<256)(k1:b1<256)(k2:b2<256)(k3:b3<256)(k4:b4<256)(k5:b5<256)(k6:b6<256):
 aQ (b0+256*(b1+256*(b2+256*(b3+256*(b4+256*(b5+256*(b6+256*(b7+256*0)))))))).testBit 64=aQ b0.testBit 8+(aQ b1.testBit 8+(aQ b2.testBit 8+(aQ b3.testBit 8+(aQ b4.testBit 8+(aQ b5.testBit 8+(aQ b6.testBit 8+aQ b7.testBit 8)))))):=by
 refine(mK k0 56).trans (congrArg (aQ b0.testBit 8+ ·) ?_);refine(mK k1 48).trans (congrArg (aQ b1.testBit 8+ ·) ?_);refine(mK k2 40).trans (congrArg (aQ b2.testBit 8+ ·) ?_);refine(mK k3 32).trans (congrArg (aQ b3.testBit 8+ ·) ?_);refine(mK k4 24).trans (congrArg (aQ b4.testBit 8+ ·) ?_);refine(mK k5 16).trans (congrArg (aQ b5.testBit 8+ ·) ?_);refine(mK k6 8).trans (congrArg (aQ b6.testBit 8+ ·) ?_);rw[Nat.mul_zero,Nat.add_zero]
theorem VP (u:Nat)(hu:u<18446744073709551616)(x4 x5 x6:Nat)(e4:x4=c3 (c2 (c1 u))+c3 (c2 (c1 u)) >>> 8)(e5:x5=x4+x4 >>> 16)(e6:x6=x5+x5 >>> 32):
 c1 u<18446744073709551616∧c2 (c1 u)<9223372036854775808∧x4<18446744073709551616∧x5<18446744073709551616∧x6<18446744073709551616∧x6 &&& 127=aQ u.testBit 64:=by
 obtain⟨b0,b1,b2,b3,b4,b5,b6,b7,k0,k1,k2,k3,k4,k5,k6,k7,rfl⟩:=TZ u hu;obtain⟨l0,m0,n0,o0,q0⟩:=tY b0 k0;obtain⟨l1,m1,n1,o1,q1⟩:=tY b1 k1;obtain⟨l2,m2,n2,o2,q2⟩:=tY b2 k2;obtain⟨l3,m3,n3,o3,q3⟩:=tY b3 k3;obtain⟨l4,m4,n4,o4,q4⟩:=tY b4 k4;obtain⟨l5,m5,n5,o5,q5⟩:=tY b5 k5;obtain⟨l6,m6,n6,o6,q6⟩:=tY b6 k6;obtain⟨l7,m7,n7,o7,q7⟩:=tY b7 k7;rw[Ou k0 k1 k2 k3 k4 k5 k6 k7,Ov l0 l1 l2 l3 l4 l5 l6 l7]at*;rw[K4 k0 k1 k2 k3 k4 k5 k6,←q0,←q1,←q2,←q3,←q4,←q5,←q6,←q7];have hc3:=Gb (g2 (g1 b0)) (g2 (g1 b1)) (g2 (g1 b2)) (g2 (g1 b3)) (g2 (g1 b4)) (g2 (g1 b5)) (g2 (g1 b6)) (g2 (g1 b7)) ⟨m0,n0⟩ ⟨m1,n1⟩ ⟨m2,n2⟩ ⟨m3,n3⟩ ⟨m4,n4⟩ ⟨m5,n5⟩ ⟨m6,n6⟩ ⟨m7,n7⟩;unfold c3 at e4;have hs:=K3 _ _ _ _ _ _ _ _ (half _ ⟨m0,n0⟩).2 (half _ ⟨m1,n1⟩).2 (half _ ⟨m2,n2⟩).2 (half _ ⟨m3,n3⟩).2 (half _ ⟨m4,n4⟩).2 (half _ ⟨m5,n5⟩).2 (half _ ⟨m6,n6⟩).2 (half _ ⟨m7,n7⟩).2 _ x4 x5 x6 hc3 e4 e5 e6;refine⟨Uc l0 l1 l2 l3 l4 l5 l6 l7,Ud (half _ ⟨m0,n0⟩).1 (half _ ⟨m1,n1⟩).1 (half _ ⟨m2,n2⟩).1 (half _ ⟨m3,n3⟩).1 (half _ ⟨m4,n4⟩).1 (half _ ⟨m5,n5⟩).1 (half _ ⟨m6,n6⟩).1 (half _ ⟨m7,n7⟩).1,hs.1,hs.2.1,hs.2.2.1,?_⟩;rw[hs.2.2.2];simp only[Nat.add_assoc]
theorem wrap_small {n:Nat}(h:n<18446744073709551616):IntKind.u64.wrap (n:Int)=(n:Int):=by rw[IntKind.wrap_u64];omega
theorem BS (u s:Nat)(c p:Nat)(hu:u<18446744073709551616)(hc:c<18446744073709551616)(hp:p=2^s):bits .and .u64 ((u:Int)/(p:Int)) (c:Int)=((u >>> s &&& c:Nat):Int):=by
 have e:(u:Int)/(p:Int)=((u >>> s:Nat):Int):=by rw[Nat.shiftRight_eq_div_pow,hp];rfl
 rw[e];exact bits_and_u64_nat _ _ (Nat.lt_of_le_of_lt (by rw[Nat.shiftRight_eq_div_pow];exact Nat.div_le_self _ _) hu) hc
theorem Ow (u:Nat)(hu:u<18446744073709551616)(w:World):
 Calls prog 86 #[.int .u64 u] w fun e w'=>e=.returned (.int .i64 (aQ u.testBit 64))∧w=w':=by
 obtain⟨x4,e4⟩:∃x,x=c3 (c2 (c1 u))+c3 (c2 (c1 u)) >>> 8:=⟨_,rfl⟩;obtain⟨x5,e5⟩:∃x,x=x4+x4 >>> 16:=⟨_,rfl⟩;obtain⟨x6,e6⟩:∃x,x=x5+x5 >>> 32:=⟨_,rfl⟩;obtain⟨l1,l2,l4,l5,l6,hend⟩:=VP u hu x4 x5 x6 e4 e5 e6;generalize aQ u.testBit 64=c at hend⊢;obtain⟨a1,h1⟩:∃x,x=c1 u:=⟨_,rfl⟩;obtain⟨a2,h2⟩:∃x,x=c2 a1:=⟨_,rfl⟩;obtain⟨a3,h3⟩:∃x,x=c3 a2:=⟨_,rfl⟩;have s1:IntKind.u64.wrap (bits .and .u64 ((u:Int)/2) 6148914691236517205+bits .and .u64 (u:Int) 6148914691236517205)=(a1:Int):=by
  rw[show(bits .and .u64 ((u:Int)/2) 6148914691236517205)=_ from BS u 1 6148914691236517205 2 hu (by decide) rfl,show(bits .and .u64 (u:Int) 6148914691236517205)=_ from bits_and_u64_nat u 6148914691236517205 hu (by decide)];rw[h1];exact wrap_small l1
 rw[←h1]at l1 l2 e4;have s2:IntKind.u64.wrap (bits .and .u64 ((a1:Int)/4) 3689348814741910323+bits .and .u64 (a1:Int) 3689348814741910323)=(a2:Int):=by
  rw[show(bits .and .u64 ((a1:Int)/4) 3689348814741910323)=_ from BS a1 2 3689348814741910323 4 l1 (by decide) rfl,show(bits .and .u64 (a1:Int) 3689348814741910323)=_ from bits_and_u64_nat a1 3689348814741910323 l1 (by decide)];rw[h2];exact wrap_small (Nat.lt_trans l2 (by decide))
 rw[←h2]at l2 e4;have s3:bits .and .u64 ((a2:Int)/16+(a2:Int)) 1085102592571150095=(a3:Int):=by
  have e:(a2:Int)/16+(a2:Int)=((a2 >>> 4+a2:Nat):Int):=by rw[Nat.shiftRight_eq_div_pow];rfl
  have l:a2 >>> 4+a2<18446744073709551616:=by rw[Nat.shiftRight_eq_div_pow];omega
  rw[show(bits .and .u64 ((a2:Int)/16+(a2:Int)) 1085102592571150095)=bits .and .u64 (((a2 >>> 4+a2:Nat)):Int) 1085102592571150095 from congrArg (fun n=>bits .and .u64 n 1085102592571150095) e,h3];exact bits_and_u64_nat _ 1085102592571150095 l (by decide)
 rw[←h3]at e4;have s4:IntKind.u64.wrap ((a3:Int)+(a3:Int)/256)=(x4:Int):=by
  have e:(a3:Int)+(a3:Int)/256=(x4:Int):=by rw[e4,Nat.shiftRight_eq_div_pow];simp only[Nat.reducePow];omega
  rw[e];exact wrap_small l4
 have s5:IntKind.u64.wrap ((x4:Int)+(x4:Int)/65536)=(x5:Int):=by
  have e:(x4:Int)+(x4:Int)/65536=(x5:Int):=by rw[e5,Nat.shiftRight_eq_div_pow];simp only[Nat.reducePow];omega
  rw[e];exact wrap_small l5
 have s6:IntKind.u64.wrap ((x5:Int)+(x5:Int)/4294967296)=(x6:Int):=by
  have e:(x5:Int)+(x5:Int)/4294967296=(x6:Int):=by rw[e6,Nat.shiftRight_eq_div_pow];simp only[Nat.reducePow];omega
  rw[e];exact wrap_small l6
 clear e4 e5 e6 h1 h2 h3;have hc:c=x6 %128:=by rw[←hend];exact Nat.and_two_pow_sub_one_eq_mod x6 7
 clear hend;have hw:wrap64 (x6:Int)%128=(c:Int):=by
  clear s1 s2 s3 s4 s5 s6 l1 l2 l4 l5;unfold wrap64;omega
 have s7:bits .and .i64 (wrap64 (x6:Int)) 127=(c:Int):=by rw[i64_and127,hw]
 clear hc hw;go_enter func86,ntmps86;go_wp2;go_ret;exact⟨rfl,rfl⟩
def lK (n:Int):Nat:=aR fun i=>decide ((i:Int)=n)
theorem qa (a b:Nat)(ha:a<18446744073709551616)(hb:b<18446744073709551616):
 bits .andNot .u64 (a:Int) (b:Int)=((aR fun i=>a.testBit i&& !b.testBit i:Nat):Int):=by
 have h1:(BitVec.ofInt 64 (a:Int)).toNat=a:=by
  rw[BitVec.ofInt_natCast,BitVec.toNat_ofNat];exact Nat.mod_eq_of_lt (by omega)
 have h2:(BitVec.ofInt 64 (b:Int)).toNat=b:=by
  rw[BitVec.ofInt_natCast,BitVec.toNat_ofNat];exact Nat.mod_eq_of_lt (by omega)
 show IntKind.u64.wrap ((BitVec.ofInt 64 (a:Int) &&& ~~~ BitVec.ofInt 64 (b:Int)).toNat:Int)=_;generalize hA:BitVec.ofInt 64 (a:Int)=A at*;generalize hB:BitVec.ofInt 64 (b:Int)=B at*;have e:(A &&& ~~~ B).toNat=aR fun i=>a.testBit i&& !b.testBit i:=by
  refine(kI (A &&& ~~~ B).isLt fun i hi=>?_).symm;rw[BitVec.testBit_toNat,BitVec.getLsbD_and,BitVec.getLsbD_not,←BitVec.testBit_toNat,←BitVec.testBit_toNat,h1,h2];simp[hi]
 rw[e];exact wrap_small (ed _)
theorem BU {n:Int}(h:n<0∨64≤n):lK n=0:=by
 unfold lK;exact kI (by decide) fun i hi=>by simp;omega
theorem Ox {m:Nat}(h:m<64):lK (m:Int)=2^m:=by
 unfold lK;refine kI (Nat.pow_lt_pow_right (by decide) h) fun i hi=>?_;rw[Nat.testBit_two_pow,Bool.eq_iff_iff];simp;omega
theorem BZ (n:Int):lK n<18446744073709551616:=ed _
theorem Ca (n:Int)(w:World)(hn: -9223372036854775808≤n∧n≤9223372036854775807):
 Calls prog 154 #[.int .i64 n] w fun e w'=>e=.returned (.int .u64 (lK n))∧w=w':=by
 by_cases h0:n<0
 ·rw[BU (.inl h0)];go_enter func154,ntmps154;go_wp2;go_ret;exact⟨rfl,rfl⟩
 by_cases h1:64≤n
 ·rw[BU (.inr h1)];go_enter func154,ntmps154;go_wp2;go_ret;exact⟨rfl,rfl⟩
 obtain⟨m,rfl⟩:=Int.eq_ofNat_of_zero_le (show 0≤n by omega);have hm:m<64:=by omega
 go_enter func154,ntmps154;go_wp2;go_ret;refine⟨congrArg (fun n=>Ending.returned (.int .u64 n)) ?_,rfl⟩;have h:=wrap_small (n:=2^m) (Nat.pow_lt_pow_right (by decide) hm);rw[Ox hm,←h];exact congrArg IntKind.u64.wrap (by simp)
theorem QU :∀m:Fin 65,IntKind.u64.wrap (IntKind.u64.wrap (2^m.val)-1)=((2^m.val-1:Nat):Int):=by decide+kernel
theorem Ue (n:Int)(w:World)(hn: -9223372036854775808≤n∧n≤9223372036854775807):
 Calls prog 120 #[.int .i64 n] w fun e w'=>e=.returned (.int .u64 (aR fun i=>decide ((i:Int)<n)))∧w=w':=by
 go_enter func120,ntmps120;go_wp2;go_ret;refine⟨congrArg (fun n=>Ending.returned (.int .u64 n)) ?_,rfl⟩;have hm:(max 0 (min n 64)).toNat<65:=by omega
 refine(QU ⟨(max 0 (min n 64)).toNat,hm⟩).trans ?_;have hl:2^(max 0 (min n 64)).toNat-1<18446744073709551616:=by
  have:2^(max 0 (min n 64)).toNat≤2^64:=Nat.pow_le_pow_right (by decide) (by omega);have h2:0<2^(max 0 (min n 64)).toNat:=Nat.pow_pos (by decide);simp only[Nat.reducePow]at this;omega
 have e:=kI (f:=fun i=>decide ((i:Int)<n)) hl fun i hi=>by
  rw[Nat.testBit_two_pow_sub_one,Bool.eq_iff_iff];simp;omega
 rw[e]
theorem QV (u:Nat)(hu:u<18446744073709551616)(n:Int)(w:World)(hn: -9223372036854775808≤n∧n≤9223372036854775807):
 Calls prog 184 #[.int .u64 u,.int .i64 n] w fun e w'=>e=.returned (.int .u64 (aR fun i=>decide ((i:Int)=n)||u.testBit i))∧w=w':=by
 have hbl:=BZ n;have e:bits .or .u64 (u:Int) (lK n:Int)=((aR fun i=>decide ((i:Int)=n)||u.testBit i:Nat):Int):=by
  rw[bits_or_u64_nat u (lK n) hu hbl];congr 1;refine(kI (Nat.or_lt_two_pow (n:=64) hu hbl) fun i hi=>?_).symm;rw[Nat.testBit_or];unfold lK;rw[bq,Bool.or_comm];simp[hi]
 replace e:=qae e;generalize (aR fun i=>decide ((i:Int)=n)||u.testBit i)=x at e⊢;have hb:=fun w=>Ca n w hn;generalize lK n=b at*;clear hu hbl;go_enter func184,ntmps184;go_wp2_with (go_at_call 154;go_must (refine(hb _).mono ?_);rintro e w' ⟨rfl,rfl⟩);go_ret;exact⟨congrArg (fun n=>Ending.returned (.int .u64 n)) e.out,rfl⟩
theorem rM (u:Nat)(hu:u<18446744073709551616)(w:World):Calls prog 28 #[.int .u64 u] w fun e w'=>e=.returned (.int .i64 (aQ u.testBit 64))∧w=w':=by
 have h:=fun w=>Ow u hu w;generalize aQ u.testBit 64=c at*;clear hu;go_enter func28,ntmps28;go_wp2_with (go_at_call 86;go_must (refine(h _).mono ?_);rintro e w' ⟨rfl,rfl⟩);go_ret;exact⟨rfl,rfl⟩
theorem Oy {u:Nat}{n:Int}:(u &&& lK n=0)↔sG u n=false:=by
 constructor
 ·intro h;by_cases hn:0≤n∧n≤63
  ·obtain⟨m,rfl⟩:=Int.eq_ofNat_of_zero_le hn.1;have:=congrArg (fun x=>x.testBit m) h;simp only[Nat.testBit_and,Nat.zero_testBit]at this;unfold lK at this;rw[bq]at this;rw[oq (by omega)];simpa[show m<64 by omega]using this
  ·unfold sG;by_cases h0:0≤n
   ·have:¬n≤63:=by omega
    simp[this]
   ·simp[h0]
 ·intro h;apply Nat.eq_of_testBit_eq;intro i;rw[Nat.testBit_and,Nat.zero_testBit];unfold lK;rw[bq];by_cases hi:i<64∧(i:Int)=n
  ·obtain⟨hi,rfl⟩:=hi;rw[oq hi]at h;rw[h];rfl
  ·have:(decide (i<64)&&decide ((i:Int)=n))=false:=by simp;omega
   rw[this,Bool.and_false]
theorem uU (u:Nat)(hu:u<18446744073709551616)(n:Int)(w:World)(hn: -9223372036854775808≤n∧n≤9223372036854775807):
 Calls prog 84 #[.int .u64 u,.int .i64 n] w fun e w'=>e=.returned (.bool (sG u n))∧w=w':=by
 have hb:=fun w=>Ca n w hn;have hand:=bits_and_u64_nat u (lK n) hu (BZ n);have hi:=Oy (u:=u) (n:=n);generalize lK n=b at*;generalize u &&& b=y at*;clear hu hn;cases h:sG u n with
 |true=>
  have hy:((y:Int) != 0)=true:=by
   rw[h]at hi;simp;intro e;exact absurd (hi.1 (by omega)) (by decide)
  clear h hi;go_enter func84,ntmps84;go_wp2_with (go_at_call 154;go_must (refine(hb _).mono ?_);rintro e w' ⟨rfl,rfl⟩);go_ret;exact⟨rfl,rfl⟩
 |false=>
  have hy:((y:Int) != 0)=false:=by
   have:=hi.2 h;simp;omega
  clear h hi;go_enter func84,ntmps84;go_wp2_with (go_at_call 154;go_must (refine(hb _).mono ?_);rintro e w' ⟨rfl,rfl⟩);go_ret;exact⟨rfl,rfl⟩
theorem K5 (f:Nat→Bool){a b:Nat}(h:a≤b):aQ f a≤aQ f b:=by
 induction b with
 |zero=>rw[Nat.le_zero.1 h];exact qaf _
 |succ b ih=>
  rcases Nat.lt_or_eq_of_le h with h1|rfl
  ·have:=ih (by omega);simp only[aQ];omega
  ·exact qaf _
theorem wF {f:Nat→Bool}{i j:Nat}(hf:f i=true)(h:i<j):aQ f i+1≤aQ f j:=by
 have:=K5 f (show i+1≤j by omega);simp only[aQ,hf,if_true]at this;exact this
theorem Iu {f:Nat→Bool}{k:Nat}:∀n,k<aQ f n→∃m,m<n∧f m=true∧aQ f m=k
 |0,h=>by simp[aQ]at h
 |n+1,h=>by
  by_cases h1:k<aQ f n
  ·obtain⟨m,a,b,c⟩:=Iu n h1;exact⟨m,by omega,b,c⟩
  ·simp only[aQ]at h;cases hf:f n with
   |true=>exact⟨n,by omega,hf,by simp only[hf,if_true]at h;omega⟩
   |false=>simp[hf]at h;omega
def dX (u k:Nat):Nat→Bool:=fun i=>u.testBit i&&decide (k≤aQ u.testBit i)
theorem Iw (u:Nat)(hu:u<18446744073709551616):aR (dX u 0)=u:=kI hu fun i _=>by unfold dX;simp
theorem Oz {x m:Nat}(hm:x.testBit m=true)(hlo:∀i,i<m→x.testBit i=false)(i:Nat):(x &&& (x-1)).testBit i=(x.testBit i&&decide (i≠m)):=by
 obtain⟨q,r,hr,e⟩:∃q r,r<2^m∧x=2^m*q+r:=⟨x/2^m,x %2^m,Nat.mod_lt _ (Nat.pow_pos (by decide)),by rw[Nat.div_add_mod]⟩;have h0:r=0:=by
  apply Nat.eq_of_testBit_eq;intro j;rw[Nat.zero_testBit];by_cases hj:j<m
  ·have:=hlo j hj;rw[e,Nat.testBit_two_pow_mul_add _ hr,qaj hj]at this;exact this
  ·exact Nat.testBit_lt_two_pow (Nat.lt_of_lt_of_le hr (Nat.pow_le_pow_right (by decide) (by omega)))
 subst h0;rw[Nat.add_zero]at e;have hq:q %2=1:=by
  rw[e,Nat.testBit_two_pow_mul]at hm;simp at hm;exact hm
 have hp:0<2^m:=Nat.pow_pos (by decide);have e1:x-1=2^m*(q-1)+(2^m-1):=by
  obtain⟨q',rfl⟩:∃q',q=q'+1:=⟨q-1,by omega⟩;rw[e,Nat.mul_add,Nat.add_sub_cancel];omega
 rw[Nat.testBit_and,e1,Nat.testBit_two_pow_mul_add _ (by omega)];by_cases h1:i<m
 ·rw[hlo i h1];rfl
 ·rw[qai h1];by_cases h2:i=m
  ·subst h2;have:(q-1).testBit (i-i)=false:=by rw[Nat.sub_self,Nat.testBit_zero];simp;omega
   rw[this];simp
  ·rw[e,Nat.testBit_two_pow_mul];obtain⟨d,hd⟩:∃d,i-m=d+1:=⟨i-m-1,by omega⟩;have:(q-1).testBit (d+1)=q.testBit (d+1):=by
    rw[Nat.testBit_succ,Nat.testBit_succ];congr 1;omega
   rw[hd,this];simp[h2]
theorem Iy {u k:Nat}(hk:k<aQ u.testBit 64):0<aR (dX u k)∧aR (dX u k) &&& (aR (dX u k)-1)=aR (dX u (k+1)):=by
 obtain⟨m,hm,hf,hc⟩:=Iu 64 hk;have hb:(aR (dX u k)).testBit m=true:=by rw[bq];unfold dX;simp[hm,hf,hc]
 have hlo:∀i,i<m→(aR (dX u k)).testBit i=false:=by
  intro i hi;rw[bq];unfold dX;cases hfi:u.testBit i with
  |false=>simp
  |true=>
   have:=wF hfi hi;simp;omega
 refine⟨?_,?_⟩
 ·rcases Nat.eq_zero_or_pos (aR (dX u k))with h|h
  ·rw[h,Nat.zero_testBit]at hb;cases hb
  ·exact h
 ·refine(kI (Nat.lt_of_le_of_lt Nat.and_le_left (ed _)) fun i hi=>?_).symm;rw[Oz hb hlo,bq];unfold dX;cases hfi:u.testBit i with
  |false=>simp
  |true=>
   simp[hi];rw[Bool.eq_iff_iff];simp;by_cases h1:i=m
   ·subst h1;simp;omega
   ·by_cases h2:i<m
    ·have:=wF hfi h2;omega
    ·have:=wF hf (show m<i by omega);omega
theorem Gc (u:Nat)(hu:u<18446744073709551616)(n:Int)(w:World)(hn: -9223372036854775808≤n∧n≤9223372036854775807)(h:n<0∨(aQ u.testBit 64:Int)<n):
 Calls prog 172 #[.int .u64 u,.int .i64 n] w fun e w'=>e=.returned (.tuple #[.int .u64 0,.bool false])∧w=w':=by
 have hl:=fun w=>rM u hu w;generalize aQ u.testBit 64=c at*;clear hu;by_cases h0:n<0
 ·clear h;go_enter func172,ntmps172;go_wp2_with (go_at_call 28;go_must (refine(hl _).mono ?_);rintro e w' ⟨rfl,rfl⟩);go_ret2;exact⟨rfl,rfl⟩
 ·have h1:(c:Int)<n:=by omega
  clear h;go_enter func172,ntmps172;go_wp2_with (go_at_call 28;go_must (refine(hl _).mono ?_);rintro e w' ⟨rfl,rfl⟩);go_ret2;exact⟨rfl,rfl⟩
def Iz (u:Nat)(n:Int):Nat→Bool:=fun i=>u.testBit i&&decide ((aQ u.testBit i:Int)<n)
theorem Dw (u:Nat)(hu:u<18446744073709551616)(n:Int)(w:World)(hn:0≤n)(h:n≤(aQ u.testBit 64:Int)):
 Calls prog 172 #[.int .u64 u,.int .i64 n] w fun e w'=>e=.returned (.tuple #[.int .u64 (aR (Iz u n)),.bool true])∧w=w':=by
 obtain⟨m,rfl⟩:=Int.eq_ofNat_of_zero_le hn;have hl:=fun w=>rM u hu w;obtain⟨c,hc⟩:=qaa (aQ u.testBit 64);rw[←hc]at h hl;have ZC:c≤64:=by rw[hc];exact QS _ _
 have hmc:m≤c:=by omega
 have h2:¬(c:Int)<(m:Int):=by omega
 replace hc:=qae hc;have hr0:Hid (u=aR (dX u 0)):=qae (Iw u hu).symm;have hu':=qae hu;clear hu;go_enter func172,ntmps172;go_wp2_with (go_at_call 28;go_must (refine(hl _).mono ?_);rintro e w' ⟨rfl,rfl⟩);go_loopw [6,17] (fun s i wr=>∃(k x:Nat),k≤m∧i=.int .i64 k∧s=.int .u64 x∧Hid (x=aR (dX u k))∧w=wr) (fun _ i _=>m-(intOf i).toNat)
 case atStart=>exact⟨0,u,Nat.zero_le _,rfl,rfl,hr0,rfl⟩
 case round=>
  obtain⟨k,x,hk,rfl,rfl,hx,rfl⟩:=hrel;by_cases hlt:k<m
  ·obtain⟨hp,hs⟩:=Iy (u:=u) (k:=k) (by rw[←hc.out];omega);have hxl:x<18446744073709551616:=by rw[hx.out];exact ed _
   rw[←hx.out]at hp hs;obtain⟨y,hy⟩:=qaa (aR (dX u (k+1)));rw[←hy]at hs;have e:bits .and .u64 (x:Int) ((x:Int)-1)=(y:Int):=by
    rw[show(x:Int)-1=((x-1:Nat):Int)by omega,bits_and_u64_nat _ _ hxl (by omega),hs]
   have hx2:x≤18446744073709551615:=by omega
   replace hy:=qae hy;clear hs hx hxl;go_wp2_with fail;go_roundw
   case rel=>exact⟨k+1,y,by omega,by go_num,rfl,hy,trivial⟩
   case measure=>simp[intOf];omega
  ·obtain rfl:k=m:=by omega
   have e:bits .andNot .u64 (u:Int) (x:Int)=((aR (Iz u (k:Int)):Nat):Int):=by
    rw[qa u x hu'.out (by rw[hx.out];exact ed _),hx.out];congr 1;refine fP fun i hi=>?_;rw[bq];unfold dX Iz;cases hb:u.testBit i with
    |false=>simp
    |true=>simp[hi];rw[Bool.eq_iff_iff];simp
   replace e:=qae e;go_wp2_with fail;go_ret2;exact⟨congrArg (fun n=>Ending.returned (.tuple #[.int .u64 n,.bool true])) e.out,rfl⟩
def nV (l:List Int):List Value:=l.map (Value.int .i64)
structure jS (h : Nat) (w w' : World) : Prop where
 os:w'.os=w.os
 tape:w'.tape=w.tape
 output:w'.output=w.output
 size:w'.heap.size=w.heap.size
 block:∀k,k≠h→w'.heap[k]? =w.heap[k]?
theorem jS.refl (h:Nat)(w:World):jS h w w:=⟨rfl,rfl,rfl,rfl,fun _ _=>rfl⟩
theorem jS.setCell {h j:Nat}{w w':World}{v:Value}(ho:jS h w w'):jS h w (w'.setCell ⟨h,j,none⟩ v):=
 ⟨ho.os,ho.tape,ho.output,by simpa using ho.size,fun k hk=>by rw[Below.heap_setCell w' ⟨h,j,none⟩ v k hk];exact ho.block k hk⟩
section
variable {w w' : World} {q h : Nat} {l : List Int}
theorem lL (l:List Int)(i m:Nat)(v:Int):(l.set i v).getD m 0=if m=i∧i<l.length then v else l.getD m 0:=by
 simp only[List.getD_eq_getElem?_getD,List.getElem?_set];by_cases e:i=m
 ·subst e;by_cases hi:i<l.length
  ·simp[hi]
  ·simp[hi]
 ·rw[qai e,qai (by omega)]
def IA (l:List Int)(u:Nat)(a b:Int)(m:Nat):Prop:=∀i,i<m→u.testBit i=true→i<l.length∧(l.getD i 0=a∨l.getD i 0=b)
end
def oZ (u:Nat)(i:Nat)(x:Int):Int:=if u.testBit i then(if x=2 then 1 else 4)else x
def pq (l:List Int)(u:Nat)(k:Nat):Nat:=(List.range k).countP fun i=>u.testBit i&&decide (l.getD i 0=2)
theorem zO (l:List Int)(u k:Nat):pq l u (k+1)=pq l u k+if(u.testBit k&&decide (l.getD k 0=2))=true then 1 else 0:=by
 unfold pq;rw[List.range_succ,List.countP_append,List.countP_cons,List.countP_nil];simp
section
variable {w w' : World} {q h : Nat} {l : List Int}
def ku (x:Int):Int:=if x=1 then 4 else if x=2 then 3 else if x=3 then 2 else 1
structure mM (l : List Int) (n : Int) (d : Bool) (e : Int) (l' : List Int) : Prop where
 out:(n<0∨(l.length:Int)≤n)→e=11∧l'=l
 bad:0≤n→n<l.length→d≠decide (l.getD n.toNat 0<3)→e=8∧l'=l
 good:0≤n→n<l.length→d=decide (l.getD n.toNat 0<3)→e=0∧l'=l.set n.toNat (ku (l.getD n.toNat 0))
end
section
variable {w w' : World} {q h : Nat} {l : List Int}
structure Cb (l : List Int) (u : Nat) (n e : Int) (l' : List Int) : Prop where
 bad:¬IA l u 2 3 64→n=0∧e=11∧l'=l
 good:IA l u 2 3 64→n=pq l u l.length∧e=0∧l'=l.mapIdx (oZ u)
end
def gZ (l:List Int):Nat→Bool:=fun i=>decide (l.getD i 0=1)
theorem Nj {l:List Int}{i:Nat}(h:gZ l i=true):i<l.length:=by
 rcases Nat.lt_or_ge i l.length with h1|h1
 ·exact h1
 ·simp[gZ,List.getD_eq_getElem?_getD,List.getElem?_eq_none h1]at h
theorem QW (l:List Int){k:Nat}(h:l.length≤k):aQ (gZ l) k=aQ (gZ l) l.length:=by
 induction k with
 |zero=>rw[show l.length=0 by omega]
 |succ k ih=>
  by_cases e:l.length=k+1
  ·rw[e]
  ·have hk:gZ l k=false:=by
    cases hb:gZ l k with
    |false=>rfl
    |true=>have:=Nj hb;omega
   simp only[aQ];rw[ih (by omega),hk];simp
def il (l:List Int)(n:Int):Nat→Bool:=fun i=>gZ l i&&decide ((aQ (gZ l) i:Int)<n)
def fq (l:List Int)(n:Int):List Int:=l.mapIdx fun i x=>if il l n i then 2 else x
structure qb (l : List Int) (n : Int) (s : Nat) (e : Int) (l' : List Int) : Prop where
 arg:n<1→s=0∧e=1∧l'=l
 full:1≤n→(aQ (gZ l) l.length:Int)<n→s=0∧e=6∧l'=l
 good:1≤n→n≤aQ (gZ l) l.length→s=aR (il l n)∧e=0∧l'=fq l n
theorem qb.uniq {l l1 l2:List Int}{n e1 e2:Int}{s1 s2:Nat}(h:qb l n s1 e1 l1)(h':qb l n s2 e2 l2):s1=s2∧e1=e2∧l1=l2:=by
 by_cases h1:n<1
 ·obtain⟨rfl,rfl,rfl⟩:=h.arg h1;obtain⟨rfl,rfl,rfl⟩:=h'.arg h1;exact⟨rfl,rfl,rfl⟩
 ·by_cases h2:(aQ (gZ l) l.length:Int)<n
  ·obtain⟨rfl,rfl,rfl⟩:=h.full (by omega) h2;obtain⟨rfl,rfl,rfl⟩:=h'.full (by omega) h2;exact⟨rfl,rfl,rfl⟩
  ·obtain⟨rfl,rfl,rfl⟩:=h.good (by omega) (by omega);obtain⟨rfl,rfl,rfl⟩:=h'.good (by omega) (by omega);exact⟨rfl,rfl,rfl⟩
def iY (l:List Int):Nat→Bool:=fun i=>decide (i<l.length)
def bX (l:List Int):Nat→Bool:=fun i=>decide (l.getD i 0=2)||decide (l.getD i 0=3)
def bY (l:List Int):Nat→Bool:=fun i=>decide (l.getD i 0=3)||decide (l.getD i 0=4)
structure iE (l : List Int) : Prop where
 one:1≤l.length
 few:l.length≤64
 st:∀i,i<l.length→1≤l.getD i 0∧l.getD i 0≤4
theorem mO {l:List Int}{i:Nat}(h:l.length≤i):l.getD i 0=0:=by simp[List.getD_eq_getElem?_getD,List.getElem?_eq_none h]
theorem ou (f:Nat→Int→Int)(l:List Int)(i:Nat):(l.mapIdx f).getD i 0=if i<l.length then f i (l.getD i 0)else 0:=by
 by_cases h:i<l.length
 ·simp[List.getD_eq_getElem?_getD,h]
 ·simp[List.getD_eq_getElem?_getD,h]
theorem yQ {u:Nat}(hu:u<18446744073709551616):aR u.testBit=u:=kI hu fun _ _=>rfl
theorem Nk (f g:Nat→Bool):bits .or .u64 (aR f:Nat) (aR g:Nat)=((aR fun i=>f i||g i:Nat):Int):=by
 rw[bits_or_u64_nat _ _ (ed f) (ed g)];congr 1;refine(kI (Nat.or_lt_two_pow (n:=64) (ed f) (ed g)) fun i hi=>?_).symm;rw[Nat.testBit_or,bq,bq];simp[hi]
theorem tZ (f g:Nat→Bool):bits .andNot .u64 (aR f:Nat) (aR g:Nat)=((aR fun i=>f i&& !g i:Nat):Int):=by
 rw[qa _ _ (ed f) (ed g)];congr 1;refine fP fun i hi=>?_;rw[bq,bq];simp[hi]
theorem qJ {f:Nat→Bool}:aR f=0↔∀i,i<64→f i=false:=by
 constructor
 ·intro h i hi;have:=congrArg (fun x=>x.testBit i) h;simp only[Nat.zero_testBit]at this;rw[bq]at this;simpa[hi]using this
 ·intro h;exact kI (by decide) fun i hi=>by rw[h i hi,Nat.zero_testBit]
theorem xM (f:Nat→Bool):aQ (aR f).testBit 64=aQ f 64:=tX 64 fun i hi=>by rw[bq];simp[hi]
section
variable {l : List Int}
theorem K6 (h:iE l):bits .andNot .u64 (aR (iY l):Nat) (bits .or .u64 (aR (bX l):Nat) (aR (bY l):Nat))=((aR (gZ l):Nat):Int):=by
 rw[Nk,tZ];congr 1;refine fP fun i hi=>?_;unfold iY bX bY gZ;rcases Nat.lt_or_ge i l.length with h1|h1
 ·have:=h.st i h1;rw[Bool.eq_iff_iff];simp only[Bool.and_eq_true,Bool.not_eq_true',Bool.or_eq_false_iff,decide_eq_true_eq,decide_eq_false_iff_not];omega
 ·rw[mO h1];simp;omega
theorem pz (h:iE l):aR (iY l)≠0:=fun e=>by
 have:=qJ.1 e 0 (by omega);unfold iY at this;have h1:=h.one;simp at this;subst this;simp at h1
theorem OA {u:Nat}(hu:u<18446744073709551616):bits .andNot .u64 (u:Int) (aR (bX l):Nat)=0↔IA l u 2 3 64:=by
 have e:=tZ u.testBit (bX l);rw[yQ hu]at e;rw[e];constructor
 ·intro h i hi hb;have h0:aR (fun i=>u.testBit i&& !bX l i)=0:=by omega
  have:=qJ.1 h0 i hi;rw[hb]at this;have hI:bX l i=true:=by simpa using this
  unfold bX at hI;have h2:l.getD i 0=2∨l.getD i 0=3:=by simpa[-List.getD_eq_getElem?_getD]using hI
  refine⟨?_,h2⟩;rcases Nat.lt_or_ge i l.length with h1|h1
  ·exact h1
  ·rw[mO h1]at h2;omega
 ·intro h;have:aR (fun i=>u.testBit i&& !bX l i)=0:=qJ.2 fun i hi=>by
   cases hb:u.testBit i with
   |false=>rfl
   |true=>
    unfold bX;rcases(h i hi hb).2 with h2|h2<;>(rw[h2];rfl)
  rw[this];rfl
theorem OB {u:Nat}(hu:u<18446744073709551616):bits .andNot .u64 (aR (bX l):Nat) (u:Int)=((aR (bX (l.mapIdx (oZ u))):Nat):Int):=by
 have e:=tZ (bX l) u.testBit;rw[yQ hu]at e;rw[e];congr 1;refine fP fun i hi=>?_;unfold bX;rw[ou];unfold oZ;cases hb:u.testBit i with
 |true=>
  rcases Nat.lt_or_ge i l.length with h1|h1
  ·rw[qaj h1];by_cases h2:l.getD i 0=2
   ·rw[h2];simp
   ·rw[qaj rfl,qai h2];simp
  ·rw[qai (by omega),mO h1];simp
 |false=>
  rcases Nat.lt_or_ge i l.length with h1|h1
  ·rw[qaj h1];simp
  ·rw[qai (by omega),mO h1];simp
theorem OC {u:Nat}(h:IA l u 2 3 64):aR (bY (l.mapIdx (oZ u)))=aR (bY l):=by
 refine fP fun i hi=>?_;unfold bY;rw[ou];unfold oZ;cases hb:u.testBit i with
 |true=>
  rw[qaj (h i hi hb).1];rcases(h i hi hb).2 with h2|h2<;>(rw[h2];simp)
 |false=>
  rcases Nat.lt_or_ge i l.length with h1|h1
  ·rw[qaj h1];simp
  ·rw[qai (by omega),mO h1]
theorem QX {u:Nat}(h:iE l):iE (l.mapIdx (oZ u)):=by
 refine⟨by simpa using h.one,by simpa using h.few,fun i hi=>?_⟩;rw[List.length_mapIdx]at hi;rw[ou,qaj hi];have:=h.st i hi;unfold oZ;split
 ·split<;>omega
 ·exact this
theorem OD {u:Nat}(hu:u<18446744073709551616):bits .andNot .u64 (u:Int) (aR (bY l):Nat)=((aR fun i=>u.testBit i&& !bY l i:Nat):Int):=by
 have e:=tZ u.testBit (bY l);rw[yQ hu]at e;exact e
theorem K7 (u k:Nat)(hk:k≤64)(h:IA l u 2 3 64):aQ (fun i=>u.testBit i&& !bY l i) k=pq l u k:=by
 induction k with
 |zero=>rfl
 |succ k ih=>
  rw[zO,←ih (by omega)];have e:(u.testBit k&& !bY l k)=(u.testBit k&&decide (l.getD k 0=2)):=by
   cases hb:u.testBit k with
   |false=>rfl
   |true=>
    unfold bY;rcases(h k (by omega) hb).2 with h2|h2<;>(rw[h2];rfl)
  simp only[aQ,e]
theorem K8 (u:Nat):∀k,l.length≤k→pq l u k=pq l u l.length:=by
 intro k hk
 induction k with
 |zero=>rw[show l.length=0 by omega]
 |succ k ih=>
  by_cases e:l.length=k+1
  ·rw[e]
  ·rw[zO,ih (by omega),mO (show l.length≤k by omega)];simp
theorem OE {u:Nat}(h:iE l)(hP:IA l u 2 3 64):aQ (aR fun i=>u.testBit i&& !bY l i).testBit 64=pq l u l.length:=by
 rw[xM,K7 u 64 (qaf _) hP,K8 u 64 h.few]
theorem OG (n:Int):aR (Iz (aR (gZ l)) n)=aR (il l n):=by
 refine fP fun i hi=>?_;unfold Iz il;rw[bq,tX (g:=gZ l) i fun j hj=>by rw[bq];simp[show j<64 by omega]];simp[hi]
theorem wH (n:Int)(i:Nat):(fq l n).getD i 0=if il l n i=true then 2 else l.getD i 0:=by
 unfold fq;rw[ou];by_cases h:il l n i=true
 ·have hI:gZ l i=true:=by
   unfold il at h;simp only[Bool.and_eq_true]at h;exact h.1
  rw[qaj (Nj hI),qaj h]
 ·rw[qai h];rcases Nat.lt_or_ge i l.length with h1|h1
  ·rw[qaj h1]
  ·rw[qai (by omega),mO h1]
theorem OH (n:Int):bits .or .u64 (aR (bX l):Nat) (aR (il l n):Nat)=((aR (bX (fq l n)):Nat):Int):=by
 rw[Nk];congr 1;refine fP fun i hi=>?_;unfold bX;rw[wH];cases h:il l n i with
 |true=>simp
 |false=>simp
theorem OI (n:Int):aR (bY (fq l n))=aR (bY l):=by
 refine fP fun i hi=>?_;unfold bY;rw[wH];cases h:il l n i with
 |true=>
  have hI:gZ l i=true:=by
   unfold il at h;simp only[Bool.and_eq_true]at h;exact h.1
  have h2:l.getD i 0=1:=by unfold gZ at hI;simpa[-List.getD_eq_getElem?_getD]using hI
  rw[h2];simp
 |false=>simp
theorem kD (n:Int):(fq l n).length=l.length:=by simp[fq]
theorem QY (n:Int)(h:iE l):iE (fq l n):=by
 refine⟨by rw[kD];exact h.one,by rw[kD];exact h.few,fun i hi=>?_⟩;rw[kD]at hi;rw[wH];have:=h.st i hi;split
 ·omega
 ·exact this
theorem zP {l':List Int}(h:l'.length=l.length):aR (iY l')=aR (iY l):=by unfold iY;rw[h]
theorem OJ (h:iE l):aQ (aR (gZ l)).testBit 64=aQ (gZ l) l.length:=by rw[xM,QW l h.few]
theorem OL {i:Nat}(hi:i<l.length)(h:iE l):bY l i= !decide (l.getD i 0<3):=by
 have:=h.st i hi;unfold bY;rw[Bool.eq_iff_iff];simp only[Bool.or_eq_true,decide_eq_true_eq,Bool.not_eq_true',decide_eq_false_iff_not];omega
theorem IB {i:Nat}(h:iE l):iE (l.set i (ku (l.getD i 0))):=by
 refine⟨by simpa using h.one,by simpa using h.few,fun j hj=>?_⟩;rw[List.length_set]at hj;rw[lL];have:=h.st j hj;split
 ·unfold ku
  repeat' split
  all_goals omega
 ·exact this
theorem Er {i:Nat}(h:iE l):aR (bX (l.set i (ku (l.getD i 0))))=aR (bX l):=by
 refine fP fun j hj=>?_;unfold bX;rw[lL];by_cases e:j=i∧i<l.length
 ·rw[qaj e];obtain⟨rfl,e⟩:=e;have:=h.st j e;rcases(by omega:l.getD j 0=1∨l.getD j 0=2∨l.getD j 0=3∨l.getD j 0=4)with h1|h1|h1|h1<;>(rw[h1];rfl)
 ·rw[qai e]
theorem K9 {i:Nat}(hi:i<l.length)(h:iE l)(hd:l.getD i 0<3):(aR fun j=>decide ((j:Int)=(i:Int))||(aR (bY l)).testBit j)=aR (bY (l.set i (ku (l.getD i 0)))):=by
 refine fP fun j hj=>?_;rw[bq];unfold bY;rw[lL];by_cases e:j=i
 ·subst e;rw[qaj ⟨rfl,hi⟩];have:=h.st j hi;rcases(by omega:l.getD j 0=1∨l.getD j 0=2)with h1|h1<;>(rw[h1];simp[ku])
 ·rw[qai (by omega)];have:¬((j:Int)=(i:Int)):=by omega
  simp[this,hj]
theorem IC {i:Nat}(hi:i<l.length)(h:iE l)(hd:¬l.getD i 0<3):(aR fun j=>!decide ((j:Int)=(i:Int))&&(aR (bY l)).testBit j)=aR (bY (l.set i (ku (l.getD i 0)))):=by
 refine fP fun j hj=>?_;rw[bq];unfold bY;rw[lL];by_cases e:j=i
 ·subst e;rw[qaj ⟨rfl,hi⟩];have:=h.st j hi;rcases(by omega:l.getD j 0=3∨l.getD j 0=4)with h1|h1<;>(rw[h1];simp[ku])
 ·rw[qai (by omega)];have:¬((j:Int)=(i:Int)):=by omega
  simp[this,hj]
end
theorem lM {w:World}{p:Nat}{o:Obj}(h:w.heap[p]? =some o):p<w.heap.size:=by
 rcases Nat.lt_or_ge p w.heap.size with h'|h'
 ·exact h'
 ·rw[Array.getElem?_eq_none h']at h;cases h
def T3 (w:World)(p:Nat)(a u b:Nat):Prop:=w.heap[p]? =some (.cells #[.int .u64 a,.int .u64 u,.int .u64 b] 138 (0,0))
def TW (w:World)(p:Nat)(l:List Int):Prop:=T3 w p (aR (iY l)) (aR (bX l)) (aR (bY l))
structure Uf (w : World) (p a u b : Nat) : Prop where
 c0:w.cell? ⟨p,0,none⟩=some (.int .u64 a)
 c1:w.cell? ⟨p,1,none⟩=some (.int .u64 u)
 c2:w.cell? ⟨p,2,none⟩=some (.int .u64 b)
 fz:∀j,w.frozen? ⟨p,j,none⟩=false
 pl:p<w.heap.size
section
variable {w w' : World} {p a u b : Nat} {l : List Int}
theorem T3.facts (h:T3 w p a u b):Uf w p a u b:=by
 unfold T3 at h;exact⟨by simp[World.cell?,h],by simp[World.cell?,h],by simp[World.cell?,h],fun j=>by simp[World.frozen?,h],lM h⟩
theorem T3.kept (h:T3 w p a u b)(hb:Below w.heap.size w w'):T3 w' p a u b:=by
 unfold T3 at*;rw[hb.block p (lM h)];exact h
theorem T3.drew (h:T3 w p a u b):T3 w.drew p a u b:=h
theorem T3.used (u':Nat)(h:T3 w p a u b):T3 (w.setCell ⟨p,1,none⟩ (.int .u64 u')) p a u' b:=by
 have hlt:=lM h;have h1:w.heap[p]? =_:=h;rw[Array.getElem?_eq_getElem hlt]at h1;replace h1:=Option.some.inj h1;unfold T3;simp[World.setCell,hlt,Array.getElem_modify,h1]
theorem T3.Ug (b':Nat)(h:T3 w p a u b):T3 (w.setCell ⟨p,2,none⟩ (.int .u64 b')) p a u b':=by
 have hlt:=lM h;have h1:w.heap[p]? =_:=h;rw[Array.getElem?_eq_getElem hlt]at h1;replace h1:=Option.some.inj h1;unfold T3;simp[World.setCell,hlt,Array.getElem_modify,h1]
theorem jk (h:T3 w p a u b)(ha:a≠0):
 Calls prog 85 #[.pointer (some ⟨p,0,none⟩)] w fun e w'=>e=.returned (.bool false)∧w=w':=by
 have c0:=h.facts.c0;have hne:((a:Int) == 0)=false:=beq_eq_false_iff_ne.2 (by omega);clear h;go_enter func85,ntmps85;go_wp2_with fail;go_ret;exact⟨rfl,rfl⟩
theorem qK (h:TW w p l)(hl:iE l):
 Calls prog 72 #[.pointer (some ⟨p,0,none⟩)] w fun e w'=>e=.returned (.int .i64 l.length)∧w=w':=by
 have hn:=jk h (pz hl);have c0:=h.facts.c0;have hc:aQ (aR (iY l)).testBit 64=l.length:=by
  rw[xM];have key:∀k,aQ (iY l) k=min k l.length:=by
   intro k
   induction k with
   |zero=>simp[aQ]
   |succ k ih=>
    simp only[aQ,ih];unfold iY;by_cases h1:k<l.length
    ·simp[h1];omega
    ·simp[h1];omega
  rw[key];have:=hl.few;omega
 have hlen:=rM (aR (iY l)) (ed _) w;rw[hc]at hlen;clear hc h;generalize aR (iY l)=A at*;go_enter func72,ntmps72;go_wp2_with (first|(go_at_call 85;go_must (refine hn.mono ?_);rintro e w' ⟨rfl,rfl⟩)|(go_at_call 28;go_must (refine hlen.mono ?_);rintro e w' ⟨rfl,rfl⟩));go_ret;exact⟨rfl,rfl⟩
theorem Es (h:TW w p l)(hl:iE l):
 Calls prog 77 #[.pointer (some ⟨p,0,none⟩)] w fun e w'=>e=.returned (.int .u64 (aR (gZ l)))∧w.drew=w':=by
 have hn:=jk h (pz hl);have c0:=h.facts.c0;have c1:=h.facts.c1;have c2:=h.facts.c2;have e:=K6 hl;clear h;generalize aR (bX l)=U at*;generalize aR (iY l)=A at*;generalize aR (bY l)=B at*;generalize aR (gZ l)=I at*;replace e:=qae e;go_enter func77,ntmps77;go_wp2_with (go_at_call 85;go_must (refine hn.mono ?_);rintro e w' ⟨rfl,rfl⟩);go_region;go_wp2_with fail;go_ret;exact⟨congrArg (fun n=>Ending.returned (.int .u64 n)) e.out,rfl⟩
def qc (l:List Int)(n:Int):Int:=if 0≤n∧n<l.length then l.getD n.toNat 0 else 0
theorem IE {n:Int}(hl:iE l):sG (aR (iY l)) n=decide (0≤n∧n<l.length):=by
 have:=hl.few;by_cases h:0≤n∧n<64
 ·obtain⟨i,rfl⟩:=Int.eq_ofNat_of_zero_le h.1;rw[oq (by omega),bq];unfold iY;rw[Bool.eq_iff_iff];simp;omega
 ·unfold sG;rw[Bool.eq_iff_iff];simp;omega
theorem QZ {i:Nat}(hi:i<64):sG (aR (bX l)) (i:Int)=bX l i:=by rw[oq hi,bq];simp[hi]
theorem IG {i:Nat}(hi:i<64):sG (aR (bY l)) (i:Int)=bY l i:=by rw[oq hi,bq];simp[hi]
theorem qL {P:Program}{f:FuncId}{args:Array Value}{w:World}{n:Nat}{v:Value}(h:Calls P f args (w.drewN n) fun e w'=>e=.returned v∧w.drewN n=w'):Calls P f args (w.drewN n) fun e w''=>e=.returned v∧∃m,w''=w.drewN m:=
 h.mono fun _ _ ⟨he,hm⟩=>⟨he,n,hm.symm⟩
theorem wI (n:Int)(hn: -9223372036854775808≤n∧n≤9223372036854775807)(h:TW w p l)(hl:iE l):
 Calls prog 48 #[.pointer (some ⟨p,0,none⟩),.int .i64 n] w fun e w'=>e=.returned (.int .i64 (qc l n))∧∃m,w'=w.drewN m:=by
 have hno:=jk h (pz hl);have c0:=h.facts.c0;have c1:=h.facts.c1;have c2:=h.facts.c2;have hA:=uU (aR (iY l)) (ed _) n w hn;have hU:=fun W=>uU (aR (bX l)) (ed _) n W hn;have hB:=fun W=>uU (aR (bY l)) (ed _) n W hn;rw[IE hl]at hA;clear h;by_cases hin:0≤n∧n<l.length
 ·have e0:qc l n=l.getD n.toNat 0:=by unfold qc;rw[qaj hin]
  rw[e0];obtain⟨i,rfl⟩:=Int.eq_ofNat_of_zero_le hin.1;have hi:i<l.length:=by omega
  have hf:=hl.few;rw[qag hin]at hA;rw[QZ (by omega)]at hU;rw[IG (by omega)]at hB;have hs:=hl.st i hi;rw[Int.toNat_natCast];unfold bX at hU;unfold bY at hB;obtain⟨x,hx⟩:=qaa (l.getD i 0);rw[←hx]at hU hB hs⊢;have cU:∃U,w.cell? ⟨p,1,none⟩=some (.int .u64 U)∧U=aR (bX l):=⟨_,c1,rfl⟩;obtain⟨U,cU,Xk⟩:=cU;have cB:∃U,w.cell? ⟨p,2,none⟩=some (.int .u64 U)∧U=aR (bY l):=⟨_,c2,rfl⟩;obtain⟨B,cB,Xl⟩:=cB;generalize aR (iY l)=A at*;clear c1 c2;have Xm:∀W,Calls prog 84 #[.int .u64 U,.int .i64 i] W fun e w'=>e=.returned (.bool (decide (x=2)||decide (x=3)))∧W=w':=by
   rw[Xk];unfold bX;exact hU
  have hB':∀W,Calls prog 84 #[.int .u64 B,.int .i64 i] W fun e w'=>e=.returned (.bool (decide (x=3)||decide (x=4)))∧W=w':=by
   rw[Xl];unfold bY;exact hB
  clear hx e0 hin hl hn hf hi hU hB Xk Xl;rcases(by omega:x=1∨x=2∨x=3∨x=4)with rfl|rfl|rfl|rfl
  all_goals
   simp only[Int.reduceEq,decide_true,decide_false,Bool.or_true,Bool.or_false]at Xm hB';clear hs;go_enter func48,ntmps48;go_wp2_with (first|(go_at_call 85;go_must (refine hno.mono ?_);rintro e w' ⟨rfl,rfl⟩)|(go_at_call 84;go_must (refine hA.mono ?_);rintro e w' ⟨rfl,rfl⟩));go_quiet ((go_at_call 84;first|with_reducible exact qL (Xm _)|with_reducible exact qL (hB' _)));go_wp2_with fail;go_ret;exact⟨rfl,_,rfl⟩
 ·have e0:qc l n=0:=by unfold qc;rw[qai hin]
  rw[e0];rw[qah hin]at hA;generalize aR (iY l)=A at*;clear hin e0 hU hB;go_enter func48,ntmps48;go_wp2_with (first|(go_at_call 85;go_must (refine hno.mono ?_);rintro e w' ⟨rfl,rfl⟩)|(go_at_call 84;go_must (refine hA.mono ?_);rintro e w' ⟨rfl,rfl⟩));go_ret;exact⟨rfl,0,rfl⟩
theorem II (h:TW w p l)(hl:iE l):
 Calls prog 211 #[.pointer (some ⟨p,0,none⟩)] w fun e w'=>e=.returned (.tuple #[.int .i64 (aQ (gZ l) 64),.int .i64 (aQ (bX l) 64),.int .i64 (aQ (fun i=>bY l i&& !bX l i) 64)])∧∃m,w'=w.drewN m:=by
 have hno:=jk h (pz hl);have hid:∀(n:Nat),Calls prog 77 #[.pointer (some ⟨p,0,none⟩)] (w.drewN n) fun e w'=>e=.returned (.int .u64 (aR (gZ l)))∧∃m,w'=(w.drewN n).drewN m:=fun n=>
  (Es (w:=w.drewN n) (p:=p) (l:=l) h hl).mono fun e w' ⟨h1,h2⟩=>⟨h1,1,h2.symm⟩
 have c1:=h.facts.c1;have c2:=h.facts.c2;have e:=tZ (bY l) (bX l);have l1:=fun W=>rM (aR (gZ l)) (ed _) W;have l2:=fun W=>rM (aR (bX l)) (ed _) W;have l3:=fun W=>rM (aR (fun i=>bY l i&& !bX l i)) (ed _) W;rw[xM]at l1 l2 l3;clear h;generalize aQ (gZ l) 64=k1 at*;generalize aQ (bX l) 64=k2 at*;generalize aQ (fun i=>bY l i&& !bX l i) 64=k3 at*;generalize aR (fun i=>bY l i&& !bX l i)=D at*;generalize aR (bX l)=U at*;generalize aR (gZ l)=I at*;generalize aR (bY l)=B at*;go_enter func211,ntmps211;go_wp2_with (go_at_call 85;go_must (refine hno.mono ?_);rintro e w' ⟨rfl,rfl⟩);go_quiet (first|(go_at_call 77;exact Calls.quiet_of (hid _))|(go_at_call 28;first|with_reducible exact qL (l1 _)|with_reducible exact qL (l2 _)|with_reducible exact qL (l3 _)));go_wp2_with fail;go_ret3;exact⟨rfl,_,rfl⟩
end
theorem Q0 :(prog.info? 3).map (fun i=>(i.zero,i.size,i.bytes))=some (some (.int .i64 0),1,8):=by kernel_rfl
section
variable {w w' : World} {q h : Nat} {l : List Int}
theorem jS.drew (b:jS h w w'):jS h w w'.drew:=⟨b.os,b.tape,b.output,b.size,b.block⟩
end
section
variable {w w' : World} {p : Nat} {l : List Int}
theorem Nl {l':List Int}(h:TW w p l)(hl:l'.length=l.length)(hb:aR (bY l')=aR (bY l)):TW (w.setCell ⟨p,1,none⟩ (.int .u64 (aR (bX l')))) p l':=by
 unfold TW;rw[hb,zP hl];exact T3.used _ h
theorem Nn {l':List Int}(h:TW w p l)(hl:l'.length=l.length)(hb:aR (bX l')=aR (bX l)):TW (w.setCell ⟨p,2,none⟩ (.int .u64 (aR (bY l')))) p l':=by
 unfold TW;rw[hb,zP hl];exact T3.Ug _ h
def Gd (l:List Int)(n:Int)(p:Nat)(w:World)(e:Ending)(w':World):Prop:=jS p w w'∧∃(s:Nat) (x:Int) (l':List Int),e=.returned (.tuple #[.int .u64 s,.int .i64 x])∧qb l n s x l'∧TW w' p l'∧iE l'∧l'.length=l.length
theorem OM (n:Int)(hn: -9223372036854775808≤n∧n≤9223372036854775807)(h:TW w p l)(hl:iE l):
 Calls prog 116 #[.pointer (some ⟨p,0,none⟩),.int .i64 n] w (Gd l n p w):=by
 have hno:=jk h (pz hl);have hid:=Es h hl;have hc:=OJ hl;by_cases h1:n<1
 ·have hg:Hid (Gd l n p w (.returned (.tuple #[.int .u64 0,.int .i64 1])) w):=⟨jS.refl _ _,0,1,l,rfl,⟨fun _=>⟨rfl,rfl,rfl⟩,fun hx=>by omega,fun hx=>by omega⟩,h,hl,rfl⟩;clear h hid hc;go_enter func116,ntmps116;go_wp2_with (go_at_call 85;go_must (refine hno.mono ?_);rintro e w' ⟨rfl,rfl⟩);go_ret2;exact hg.out
 ·by_cases h2:(aQ (gZ l) l.length:Int)<n
  ·have hg:Hid (Gd l n p w (.returned (.tuple #[.int .u64 0,.int .i64 6])) w.drew):=⟨(jS.refl _ _).drew,0,6,l,rfl,⟨fun hx=>by omega,fun _ _=>⟨rfl,rfl,rfl⟩,fun _ hx=>by omega⟩,h.drew,hl,rfl⟩;have hf:=Gc (aR (gZ l)) (ed _) n w.drew hn (.inr (by rw[hc];exact h2));clear h hc h2;generalize aR (gZ l)=I at*;go_enter func116,ntmps116;go_wp2_with (first|(go_at_call 85;go_must (refine hno.mono ?_);rintro e w' ⟨rfl,rfl⟩)|(go_at_call 77;go_must (refine hid.mono ?_);rintro e w' ⟨rfl,rfl⟩)|(go_at_call 172;go_must (refine hf.mono ?_);rintro e w' ⟨rfl,rfl⟩));go_ret2;exact hg.out
  ·have hf:=Dw (aR (gZ l)) (ed _) n w.drew (by omega) (by rw[hc];omega);rw[OG]at hf;have hu:=OH (l:=l) n;have hg:Hid (Gd l n p w (.returned (.tuple #[.int .u64 (aR (il l n)),.int .i64 0])) (w.drew.setCell ⟨p,1,none⟩ (.int .u64 (aR (bX (fq l n)))))):=
    ⟨((jS.refl _ _).drew).setCell,_,0,fq l n,rfl,⟨fun hx=>by omega,fun _ hx=>by omega,fun _ _=>⟨rfl,rfl,rfl⟩⟩,Nl h.drew (kD n) (OI n),QY n hl,kD n⟩
   have c1:w.drew.cell? ⟨p,1,none⟩=_:=h.drew.facts.c1;have fz:w.drew.frozen? ⟨p,1,none⟩=false:=h.drew.facts.fz 1;clear h hc h2;generalize aR (gZ l)=I at*;generalize aR (bX l)=U at*;generalize aR (il l n)=S at*;generalize aR (bX (fq l n))=V at*;generalize w.drew=wd at*;go_enter func116,ntmps116;go_wp2_with (first|(go_at_call 85;go_must (refine hno.mono ?_);rintro e w' ⟨rfl,rfl⟩)|(go_at_call 77;go_must (refine hid.mono ?_);rintro e w' ⟨rfl,rfl⟩)|(go_at_call 172;go_must (refine hf.mono ?_);rintro e w' ⟨rfl,rfl⟩));go_ret2;exact hg.out
def La (l:List Int)(u:Nat)(p:Nat)(w:World)(e:Ending)(w':World):Prop:=jS p w w'∧∃(n x:Int) (l':List Int),e=.returned (.tuple #[.int .i64 n,.int .i64 x])∧Cb l u n x l'∧TW w' p l'∧iE l'∧l'.length=l.length
theorem OO (u:Nat)(hu:u<18446744073709551616)(h:TW w p l)(hl:iE l):
 Calls prog 137 #[.pointer (some ⟨p,0,none⟩),.int .u64 u] w (La l u p w):=by
 have hno:=jk h (pz hl);have hb:=OA (l:=l) hu;have c1:w.cell? ⟨p,1,none⟩=_:=h.facts.c1;have fz:w.frozen? ⟨p,1,none⟩=false:=h.facts.fz 1;by_cases hP:IA l u 2 3 64
 ·have z:bits .andNot .u64 (u:Int) (aR (bX l):Nat)=0:=hb.2 hP;have hc:=OB (l:=l) hu;have hnw:=OD (l:=l) hu;have hcn:=OE hl hP;have hlen:=fun W=>rM (aR fun i=>u.testBit i&& !bY l i) (ed _) W;rw[hcn]at hlen;have hg:Hid (La l u p w (.returned (.tuple #[.int .i64 (pq l u l.length),.int .i64 0])) (w.setCell ⟨p,1,none⟩ (.int .u64 (aR (bX (l.mapIdx (oZ u))))))):=
   ⟨(jS.refl _ _).setCell,_,0,_,rfl,⟨fun hx=>absurd hP hx,fun _=>⟨rfl,rfl,rfl⟩⟩,Nl h (by simp) (OC hP),QX hl,by simp⟩
  have c2:(w.setCell ⟨p,1,none⟩ (.int .u64 (aR (bX (l.mapIdx (oZ u)))))).cell? ⟨p,2,none⟩=_:=(T3.used _ h).facts.c2;clear h hb hP hcn;generalize pq l u l.length=k at*;generalize (aR fun i=>u.testBit i&& !bY l i)=D at*;generalize aR (bY l)=B at*;generalize aR (bX l)=U at*;generalize aR (bX (l.mapIdx (oZ u)))=V at*;go_enter func137,ntmps137;go_wp2_with (first|(go_at_call 85;go_must (refine hno.mono ?_);rintro e w' ⟨rfl,rfl⟩)|(go_at_call 28;go_must (refine(hlen _).mono ?_);rintro e w' ⟨rfl,rfl⟩));go_ret2;exact hg.out
 ·obtain⟨y,hy⟩:=qab (bits .andNot .u64 (u:Int) (aR (bX l):Nat));have hy0:(y != 0)=true:=by
   rw[hy]at hb;simp;exact fun hx=>hP (hb.1 hx)
  have hg:Hid (La l u p w (.returned (.tuple #[.int .i64 0,.int .i64 11])) w):=⟨jS.refl _ _,0,11,l,rfl,⟨fun _=>⟨rfl,rfl,rfl⟩,fun hx=>absurd hx hP⟩,h,hl,rfl⟩;clear h hb hP;generalize aR (bX l)=U at*;go_enter func137,ntmps137;go_wp2_with (go_at_call 85;go_must (refine hno.mono ?_);rintro e w' ⟨rfl,rfl⟩);go_ret2;exact hg.out
end
theorem Cc (u:Nat)(hu:u<18446744073709551616)(n:Int)(w:World)(hn: -9223372036854775808≤n∧n≤9223372036854775807):
 Calls prog 263 #[.int .u64 u,.int .i64 n] w fun e w'=>e=.returned (.int .u64 (aR fun i=>!decide ((i:Int)=n)&&u.testBit i))∧w=w':=by
 have e:=qa u (lK n) hu (BZ n);have e2:(aR fun i=>u.testBit i&& !(lK n).testBit i)=aR fun i=>!decide ((i:Int)=n)&&u.testBit i:=fP fun i hi=>by
  unfold lK;rw[bq,Bool.and_comm];simp[hi]
 rw[e2]at e;replace e:=qae e;clear e2;generalize (aR fun i=>!decide ((i:Int)=n)&&u.testBit i)=x at e⊢;have hb:=fun w=>Ca n w hn;generalize lK n=b at*;clear hu;go_enter func263,ntmps263;go_wp2_with (go_at_call 154;go_must (refine(hb _).mono ?_);rintro e w' ⟨rfl,rfl⟩);go_ret;exact⟨congrArg (fun n=>Ending.returned (.int .u64 n)) e.out,rfl⟩
section
variable {w w' : World} {p : Nat} {l : List Int}
def Lb (l:List Int)(n:Int)(d:Bool):Int:=if n<0∨(l.length:Int)≤n then 11 else if d=decide (l.getD n.toNat 0<3)then 8 else 0
theorem Ce (n:Int)(d:Bool)(hn: -9223372036854775808≤n∧n≤9223372036854775807)(h:TW w p l)(hl:iE l):
 Calls prog 183 #[.pointer (some ⟨p,0,none⟩),.int .i64 n,.bool d] w fun e w'=>e=.returned (.int .i64 (Lb l n d))∧w=w':=by
 have hno:=jk h (pz hl);have c0:=h.facts.c0;have c2:=h.facts.c2;have hA:=uU (aR (iY l)) (ed _) n w hn;rw[IE hl]at hA;have hB:=uU (aR (bY l)) (ed _) n w hn;clear h;by_cases hin:n<0∨(l.length:Int)≤n
 ·rw[qah (by omega)]at hA;rw[show Lb l n d=11 from qaj hin];generalize aR (iY l)=A at*;clear hin hB;go_enter func183,ntmps183;go_wp2_with (first|(go_at_call 85;go_must (refine hno.mono ?_);rintro e w' ⟨rfl,rfl⟩)|(go_at_call 84;go_must (refine hA.mono ?_);rintro e w' ⟨rfl,rfl⟩));go_ret;exact⟨rfl,rfl⟩
 ·rw[qag (by omega)]at hA;rw[show Lb l n d=if d=decide (l.getD n.toNat 0<3)then 8 else 0 from qai hin];obtain⟨i,rfl⟩:=Int.eq_ofNat_of_zero_le (show 0≤n by omega);have hf:=hl.few;rw[IG (by omega),OL (by omega) hl]at hB;rw[Int.toNat_natCast];generalize aR (iY l)=A at*;generalize aR (bY l)=B at*;generalize decide (l.getD i 0<3)=x at*;clear hin hn hf hl;cases d<;>cases x
  all_goals
   go_enter func183,ntmps183;go_wp2_with fail;go_at_call 85;refine hno.mono ?_;rintro e w' ⟨rfl,rfl⟩;go_wp2_with fail;go_at_call 84;refine hA.mono ?_;clear hA;rintro e w' ⟨rfl,rfl⟩;go_wp2_with fail;go_at_call 84;refine hB.mono ?_;clear hB;rintro e w' ⟨rfl,rfl⟩;go_wp2_with fail;go_ret;exact⟨rfl,rfl⟩
def uf (l:List Int)(n:Int)(d:Bool)(p:Nat)(w:World)(e:Ending)(w':World):Prop:=jS p w w'∧∃(x:Int) (l':List Int),e=.returned (.int .i64 x)∧mM l n d x l'∧TW w' p l'∧iE l'∧l'.length=l.length
theorem Lc (n:Int)(hn: -9223372036854775808≤n∧n≤9223372036854775807)(h:TW w p l)(hl:iE l):
 Calls prog 136 #[.pointer (some ⟨p,0,none⟩),.int .i64 n] w (uf l n true p w):=by
 have hck:=Ce n false hn h hl;by_cases hin:n<0∨(l.length:Int)≤n
 ·rw[show Lb l n false=11 from qaj hin]at hck;have hg:Hid (uf l n true p w (.returned (.int .i64 11)) w):=⟨jS.refl _ _,11,l,rfl,⟨fun _=>⟨rfl,rfl⟩,fun _ _=>by omega,fun _ _=>by omega⟩,h,hl,rfl⟩;clear h hin;go_enter func136,ntmps136;go_wp2_with (go_at_call 183;go_must (refine hck.mono ?_);rintro e w' ⟨rfl,rfl⟩);go_ret;exact hg.out
 ·rw[show Lb l n false=if false=decide (l.getD n.toNat 0<3)then 8 else 0 from qai hin]at hck;obtain⟨i,rfl⟩:=Int.eq_ofNat_of_zero_le (show 0≤n by omega);have hil:i<l.length:=by omega
  rw[Int.toNat_natCast]at hck;by_cases h3:l.getD i 0<3
  ·rw[qag h3,qai (by simp)]at hck;have hw:=QV (aR (bY l)) (ed _) (i:Int) w hn;rw[K9 hil hl h3]at hw;have c2:=h.facts.c2;have fz:=h.facts.fz 2;have hg:Hid (uf l i true p w (.returned (.int .i64 0)) (w.setCell ⟨p,2,none⟩ (.int .u64 (aR (bY (l.set i (ku (l.getD i 0)))))))):=
    ⟨(jS.refl _ _).setCell,0,l.set i (ku (l.getD i 0)),rfl,⟨fun hx=>by omega,fun _ _ hx=>absurd hx (by simpa using h3),fun _ _ _=>⟨rfl,by simp⟩⟩,Nn h (by simp) (Er hl),IB hl,by simp⟩
   clear h hin;generalize aR (bY l)=B at*;generalize aR (bY (l.set i (ku (l.getD i 0))))=V at*;replace h3:=qae h3;go_enter func136,ntmps136;go_wp2_with (first|(go_at_call 183;go_must (refine hck.mono ?_);rintro e w' ⟨rfl,rfl⟩)|(go_at_call 184;go_must (refine hw.mono ?_);rintro e w' ⟨rfl,rfl⟩));go_ret;exact hg.out
  ·rw[qah h3,qaj rfl]at hck;have hg:Hid (uf l i true p w (.returned (.int .i64 8)) w):=⟨jS.refl _ _,8,l,rfl,⟨fun hx=>by omega,fun _ _ _=>⟨rfl,rfl⟩,fun _ _ hx=>absurd hx (by simpa using h3)⟩,h,hl,rfl⟩;clear h hin;replace h3:=qae h3;go_enter func136,ntmps136;go_wp2_with (go_at_call 183;go_must (refine hck.mono ?_);rintro e w' ⟨rfl,rfl⟩);go_ret;exact hg.out
theorem IJ (n:Int)(hn: -9223372036854775808≤n∧n≤9223372036854775807)(h:TW w p l)(hl:iE l):
 Calls prog 240 #[.pointer (some ⟨p,0,none⟩),.int .i64 n] w (uf l n false p w):=by
 have hck:=Ce n true hn h hl;by_cases hin:n<0∨(l.length:Int)≤n
 ·rw[show Lb l n true=11 from qaj hin]at hck;have hg:Hid (uf l n false p w (.returned (.int .i64 11)) w):=⟨jS.refl _ _,11,l,rfl,⟨fun _=>⟨rfl,rfl⟩,fun _ _=>by omega,fun _ _=>by omega⟩,h,hl,rfl⟩;clear h hin;go_enter func240,ntmps240;go_wp2_with (go_at_call 183;go_must (refine hck.mono ?_);rintro e w' ⟨rfl,rfl⟩);go_ret;exact hg.out
 ·rw[show Lb l n true=if true=decide (l.getD n.toNat 0<3)then 8 else 0 from qai hin]at hck;obtain⟨i,rfl⟩:=Int.eq_ofNat_of_zero_le (show 0≤n by omega);have hil:i<l.length:=by omega
  rw[Int.toNat_natCast]at hck;by_cases h3:l.getD i 0<3
  ·rw[qag h3,qaj rfl]at hck;have hg:Hid (uf l i false p w (.returned (.int .i64 8)) w):=⟨jS.refl _ _,8,l,rfl,⟨fun hx=>by omega,fun _ _ _=>⟨rfl,rfl⟩,fun _ _ hx=>absurd hx (by simpa using h3)⟩,h,hl,rfl⟩;clear h hin;replace h3:=qae h3;go_enter func240,ntmps240;go_wp2_with (go_at_call 183;go_must (refine hck.mono ?_);rintro e w' ⟨rfl,rfl⟩);go_ret;exact hg.out
  ·rw[qah h3,qai (by simp)]at hck;have hw:=Cc (aR (bY l)) (ed _) (i:Int) w hn;rw[IC hil hl h3]at hw;have c2:=h.facts.c2;have fz:=h.facts.fz 2;have hg:Hid (uf l i false p w (.returned (.int .i64 0)) (w.setCell ⟨p,2,none⟩ (.int .u64 (aR (bY (l.set i (ku (l.getD i 0)))))))):=
    ⟨(jS.refl _ _).setCell,0,l.set i (ku (l.getD i 0)),rfl,⟨fun hx=>by omega,fun _ _ hx=>absurd hx (by simpa using h3),fun _ _ _=>⟨rfl,by simp⟩⟩,Nn h (by simp) (Er hl),IB hl,by simp⟩
   clear h hin;generalize aR (bY l)=B at*;generalize aR (bY (l.set i (ku (l.getD i 0))))=V at*;replace h3:=qae h3;go_enter func240,ntmps240;go_wp2_with (first|(go_at_call 183;go_must (refine hck.mono ?_);rintro e w' ⟨rfl,rfl⟩)|(go_at_call 263;go_must (refine hw.mono ?_);rintro e w' ⟨rfl,rfl⟩));go_ret;exact hg.out
theorem IK (n:Int)(w:World)(h:n<1∨64<n):Calls prog 61 #[.int .i64 n] w fun e w'=>e=.returned (.tuple #[.pointer none,.int .i64 1])∧w=w':=by
 by_cases h1:n<1
 ·go_enter func61,ntmps61;go_wp2_with fail;go_ret2;exact⟨rfl,rfl⟩
 ·have h2:64<n:=by omega
  clear h;go_enter func61,ntmps61;go_wp2_with fail;go_ret2;exact⟨rfl,rfl⟩
theorem IL (n i:Nat):(List.replicate n (1:Int)).getD i 0=if i<n then 1 else 0:=by
 by_cases hi:i<n
 ·simp[List.getD_eq_getElem?_getD,hi]
 ·simp[List.getD_eq_getElem?_getD,hi]
theorem Q3 (n:Nat):(aR fun i=>decide ((i:Int)<(n:Int)))=aR (iY (List.replicate n 1)):=by
 refine fP fun i _=>?_;unfold iY;rw[List.length_replicate,Bool.eq_iff_iff];simp
theorem Q4 (n:Nat):aR (bX (List.replicate n 1))=0:=qJ.2 fun i _=>by
 unfold bX;rw[IL];split<;>simp
theorem Q5 (n:Nat):aR (bY (List.replicate n 1))=0:=qJ.2 fun i _=>by
 unfold bY;rw[IL];split<;>simp
def UY (n:Nat)(w:World)(e:Ending)(w':World):Prop:=e=.returned (.tuple #[.pointer (some ⟨w.heap.size,0,none⟩),.int .i64 0])∧TW w' w.heap.size (List.replicate n 1)∧Below w.heap.size w w'
theorem IM (n:Nat)(w:World)(h1:1≤n)(h2:n≤64):Calls prog 61 #[.int .i64 n] w (UY n w):=by
 have ha:=Ue (n:Int) w (by omega);rw[Q3]at ha;have hg:Hid (UY n w (.returned (.tuple #[.pointer (some ⟨w.heap.size,0,none⟩),.int .i64 0])) (w.alloc (.cells #[.int .u64 (aR (iY (List.replicate n 1))),.int .u64 0,.int .u64 0] 138))):=by
  refine⟨rfl,?_,qac.alloc (qaf _) _⟩;unfold TW;rw[Q4,Q5];exact heap_alloc_new w _
 generalize aR (iY (List.replicate n 1))=A at*;have b1:¬((n:Int)<1):=by omega
 have b2:¬(64<(n:Int)):=by omega
 go_enter func61,ntmps61;go_wp2_with (go_at_call 120;go_must (refine ha.mono ?_);rintro e w' ⟨rfl,rfl⟩);go_ret2;exact hg.out
end
theorem bF {w w':World}{base:Nat}{e:TypeId}{size:Nat}{v:Value}{n:Nat}{xs:List Value}(h:w.ownsRow base e size v n xs)(hb:Below w.heap.size w w'):w'.ownsRow base e size v n xs:=
 ownsRow_below h hb fun k hk=>(h.lt k hk).2
def enc2 (x:Int×Int):List Value:=[.int .i64 x.1,.int .i64 x.2]
def aN (l:List (Int×Int)):List Value:=l.flatMap enc2
theorem eu (l:List (Int×Int)):(aN l).length=l.length*2:=by
 induction l with
 |nil=>rfl
 |cons a l ih=>show(enc2 a++aN l).length=_;rw[List.length_append,ih,List.length_cons];simp[enc2];omega
theorem Cf {l:List (Int×Int)}{i:Nat}{x:Int×Int}(h:l[i]? =some x):(aN l)[i*2]? =some (.int .i64 x.1)∧(aN l)[i*2+1]? =some (.int .i64 x.2):=by
 induction l generalizing i with
 |nil=>simp at h
 |cons a l ih=>
  have e:aN (a::l)=enc2 a++aN l:=by simp[aN]
  rw[e];rcases i with _|i
  ·simp at h;subst h;exact⟨rfl,rfl⟩
  ·have:=ih (i:=i) (by simpa using h);rw[List.getElem?_append_right (by simp[enc2];omega),List.getElem?_append_right (by simp[enc2];omega)];have e1:(i+1)*2-(enc2 a).length=i*2:=by simp[enc2];omega
   have e2:(i+1)*2+1-(enc2 a).length=i*2+1:=by simp[enc2];omega
   rw[e1,e2];exact this
theorem ug (l r:List (Int×Int)):aN (l++r)=aN l++aN r:=by simp[aN]
theorem uV (L:List (Int×Int))(c:Nat):aN (L.take c)=(aN L).take (c*2):=by
 induction L generalizing c with
 |nil=>simp[aN]
 |cons a L ih=>
  rcases c with _|c
  ·simp[aN]
  ·have e:(c+1)*2=c*2+1+1:=by omega
   rw[e];have:=ih c;simp only[aN,enc2,List.flatMap_cons,xE,xD,List.take_succ_cons]at this⊢;rw[this]
theorem ow (L:List (Int×Int))(c:Nat):aN (L.drop c)=(aN L).drop (c*2):=by
 induction L generalizing c with
 |nil=>simp[aN]
 |cons a L ih=>
  rcases c with _|c
  ·simp[aN]
  ·have e:(c+1)*2=c*2+1+1:=by omega
   rw[e];have:=ih c;simp only[aN,enc2,List.flatMap_cons,xE,xD,List.drop_succ_cons]at this⊢;rw[this]
theorem IP (L:List (Int×Int))(c:Nat)(x:Int×Int):aN (L.set c x)=((aN L).set (c*2) (.int .i64 x.1)).set (c*2+1) (.int .i64 x.2):=by
 induction L generalizing c with
 |nil=>simp[aN]
 |cons a L ih=>
  rcases c with _|c
  ·simp[aN,enc2]
  ·have e:(c+1)*2=c*2+1+1:=by omega
   have e2:(c+1)*2+1=c*2+1+1+1:=by omega
   rw[xC,e2,e];have:=ih c;simp only[aN,enc2,List.flatMap_cons,xE,xD,xC]at this⊢;rw[this]
theorem qM (L:List (Int×Int)):∀u∈aN L,u.oneCell'=true:=by
 intro u hu;obtain⟨x,_,hx⟩:=List.mem_flatMap.1 hu;simp[enc2]at hx;rcases hx with rfl|rfl<;>rfl
theorem Cg {L:List (Int×Int)}{i:Nat}(h:i<L.length):L[i]? =some (tA L i,tV L i):=by
 simp[tA,tV,h]
structure Off (p g : Nat) (w w' : World) : Prop where
 os:w'.os=w.os
 tape:w'.tape=w.tape
 output:w'.output=w.output
 size:w.heap.size≤w'.heap.size
 block:∀k,k<w.heap.size→k≠p→k≠g→w'.heap[k]? =w.heap[k]?
section
variable {p g g' : Nat} {w w' w'' : World}
theorem Off.refl (p g:Nat)(w:World):Off p g w w:=⟨rfl,rfl,rfl,qaf _,fun _ _ _ _=>rfl⟩
theorem Off.of_below (h:Below w.heap.size w w'):Off p g w w':=⟨h.os,h.tape,h.output,h.size,fun k hk _ _=>h.block k hk⟩
theorem Off.trans (h:Off p g w w')(h':Off p g' w' w'')(hg:g'=g∨w.heap.size≤g'):Off p g w w'':=
 ⟨h'.os.trans h.os,h'.tape.trans h.tape,h'.output.trans h.output,Nat.le_trans h.size h'.size,fun k hk h1 h2=>by
  rw[h'.block k (Nat.lt_of_lt_of_le hk h.size) h1 (by omega),h.block k hk h1 h2]⟩
theorem Off.below {base:Nat}(h:Off p g w w')(hp:base≤p)(hg:base≤g)(hb:base≤w.heap.size):Below base w w':=⟨h.os,h.tape,h.output,h.size,fun k hk=>h.block k (by omega) (by omega) (by omega)⟩
theorem Off.own {base:Nat}{e:TypeId}{sz n:Nat}{v:Value}{xs:List Value}(h:Off p g w w')(ho:w.ownsRow base e sz v n xs)(hne:∀k,v.ownBlock=some k→k≠p∧k≠g):w'.ownsRow base e sz v n xs:=
 bH ho fun k hk=>h.block k (ho.lt k hk).2 (hne k hk).1 (hne k hk).2
theorem Off.cell {a:Addr}(h:Off p g w w')(h1:a.block<w.heap.size)(h2:a.block≠p)(h3:a.block≠g):w'.cell? a=w.cell? a:=by
 simp only[World.cell?,h.block _ h1 h2 h3]
theorem Off.setCell {b j:Nat}{v:Value}(h:Off p g w w')(hb:b=p∨b=g∨w.heap.size≤b):Off p g w (w'.setCell ⟨b,j,none⟩ v):=
 ⟨h.os,h.tape,h.output,by simpa using h.size,fun k hk h1 h2=>by
  rw[Below.heap_setCell w' ⟨b,j,none⟩ v k (by show k≠b;omega)];exact h.block k hk h1 h2⟩
theorem Off.nD (h:Off p g w w')(h':Below w'.heap.size w' w''):Off p g w w'':=h.trans (Off.of_below h') (.inl rfl)
theorem Off.drew (h:Off p g w w'):Off p g w w'.drew:=⟨h.os,h.tape,h.output,h.size,h.block⟩
end
def PW (w:World)(p g:Nat)(L:List (Int×Int))(aF:Int):Prop:=
 ∃cap,w.heap[p]? =some (.cells #[.slice (some ⟨g,0,none⟩) L.length cap,.int .i64 aF] 125 (0,0))∧w.ownsRow 0 58 2 (.slice (some ⟨g,0,none⟩) L.length cap) L.length (aN L)
theorem gV {w:World}{p:Nat}{o:Obj}(h:w.heap[p]? =some o):p<w.heap.size:=by
 rcases Nat.lt_or_ge p w.heap.size with h'|h'
 ·exact h'
 ·rw[Array.getElem?_eq_none h']at h;cases h
theorem aT {w:World}{p q:Nat}{a b:Array Value}{s t:TypeId}{x y:Nat×Nat}(h:w.heap[p]? =some (.cells a s x))(h':w.heap[q]? =some (.cells b t y))(hne:s≠t):p≠q:=by
 intro e;subst e;rw[h]at h';injection h' with h';injection h' with _ h3;exact hne h3
theorem fQ {w:World}{base g n cap sz:Nat}{e:TypeId}{xs:List Value}(h:w.ownsRow base e sz (.slice (some ⟨g,0,none⟩) n cap) n xs):∃cur,w.heap[g]? =some (.cells cur e (0,0))∧n≤cap∧cap≤maxLen∧cur.size=cap*sz∧cur.toList.take (n*sz)=xs:=by
 rcases h.2 with⟨e0,_⟩|⟨g',cap',cur,e0,_,hg,hn,hm,hs,ht⟩
 ·cases e0
 ·cases e0;exact⟨cur,hg,hn,hm,hs,ht⟩
section
variable {w w' : World} {p g : Nat} {L : List (Int × Int)} {aF : Int}
structure Np (w : World) (p g : Nat) (L : List (Int × Int)) (aF : Int) (cap : Nat) : Prop where
 obj:w.heap[p]? =some (.cells #[.slice (some ⟨g,0,none⟩) L.length cap,.int .i64 aF] 125 (0,0))
 own:w.ownsRow 0 58 2 (.slice (some ⟨g,0,none⟩) L.length cap) L.length (aN L)
 c0:w.cell? ⟨p,0,none⟩=some (.slice (some ⟨g,0,none⟩) L.length cap)
 c1:w.cell? ⟨p,1,none⟩=some (.int .i64 aF)
 fz:∀j,w.frozen? ⟨p,j,none⟩=false
 pl:p<w.heap.size
 gl:g<w.heap.size
 pg:p≠g
 lc:L.length≤cap
 cm:cap≤maxLen
theorem PW.facts (h:PW w p g L aF):∃cap,Np w p g L aF cap:=by
 obtain⟨cap,h1,h2⟩:=h;obtain⟨cur,hg,hn,hm,_,_⟩:=fQ h2;refine⟨cap,h1,h2,?_,?_,fun j=>?_,gV h1,gV hg,aT h1 hg (by decide),hn,hm⟩
 ·simp[World.cell?,h1]
 ·simp[World.cell?,h1]
 ·simp[World.frozen?,h1]
theorem PW.kept (h:PW w p g L aF)(hb:Below w.heap.size w w'):PW w' p g L aF:=by
 obtain⟨cap,h1,h2⟩:=h;exact⟨cap,by rw[hb.block p (gV h1)];exact h1,bF h2 hb⟩
theorem PW.off {q h':Nat}(h:PW w p g L aF)(ho:Off q h' w w')(h1:p≠q∧p≠h')(h2:g≠q∧g≠h'):PW w' p g L aF:=by
 obtain⟨cap,e1,e2⟩:=h;exact⟨cap,by rw[ho.block p (gV e1) h1.1 h1.2];exact e1,ho.own e2 fun k hk=>by cases hk;exact h2⟩
theorem step_cells {cap i:Nat}(h:w.ownsRow 0 58 2 (.slice (some ⟨g,0,none⟩) L.length cap) L.length (aN L))(hi:i<L.length):
 w.cell? ⟨g,i*2,none⟩=some (.int .i64 (tA L i))∧w.cell? ⟨g,i*2+1,none⟩=some (.int .i64 (tV L i)):=by
 obtain⟨h0,h1⟩:=Cf (Cg hi);have c0:=h.cells (g:=g) rfl _ _ h0;have c1:=h.cells (g:=g) rfl _ _ h1;rw[Go.WideShapes.add_plain]at c0 c1;simp only[Nat.zero_add]at c0 c1;exact⟨c0,c1⟩
theorem dS (h:PW w p g L aF)(hp:0<L.length):
 Calls prog 75 #[.pointer (some ⟨p,0,none⟩)] w fun e w'=>e=.returned (.bool false)∧w=w':=by
 obtain⟨cap,F⟩:=h.facts;have c0:=F.c0;have hne:((L.length:Int) == 0)=false:=beq_eq_false_iff_ne.2 (by omega);clear F h;go_enter func75,ntmps75;go_wp2_with fail;go_ret;exact⟨rfl,rfl⟩
theorem lN (h:PW w p g L aF)(hp:0<L.length):
 Calls prog 45 #[.pointer (some ⟨p,0,none⟩)] w fun e w'=>e=.returned (.int .i64 (tA L 0))∧w=w':=by
 have hn:=dS h hp;obtain⟨cap,F⟩:=h.facts;have c0:=F.c0;have s0:=(step_cells F.own hp).1;have hp':(0:Int)<(L.length:Int):=by omega
 rw[Nat.zero_mul]at s0;clear F h;go_enter func45,ntmps45;go_wp2_with (go_at_call 75;go_must (refine hn.mono ?_);rintro e w' ⟨rfl,rfl⟩);go_ret;exact⟨rfl,rfl⟩
def tE (L:List (Int×Int))(i:Nat):Int:=if i+1<L.length then tA L (i+1)else 1152921504606846976
theorem Q6 {i:Nat}(h:PW w p g L aF)(hi:i<L.length)(hl:L.length≤1000):
 Calls prog 225 #[.pointer (some ⟨p,0,none⟩),.int .i64 i] w fun e w'=>e=.returned (.int .i64 (tE L i))∧w=w':=by
 obtain⟨cap,F⟩:=h.facts;have c0:=F.c0;have hw:IntKind.i64.wrap ((i:Int)+1)=(i:Int)+1:=IntWalk.i64_in _ (by omega);by_cases hx:i+1<L.length
 ·rw[show tE L i=tA L (i+1)from qaj hx];have s0:=(step_cells F.own hx).1;have h1:¬((i:Int)+1=(L.length:Int)):=by omega
  have h2:(0:Int)≤(i:Int)+1:=by omega
  have h3:(i:Int)+1<(L.length:Int):=by omega
  have h4:((i:Int)+1).toNat=i+1:=by omega
  clear F h;go_enter func225,ntmps225;go_wp2_with fail;go_ret;exact⟨rfl,rfl⟩
 ·rw[show tE L i=1152921504606846976 from qai hx];have h1:((i:Int)+1=(L.length:Int)):=by omega
  clear F h;go_enter func225,ntmps225;go_wp2_with fail;go_ret;exact⟨rfl,rfl⟩
end
def sH (x y:Int):Int:=if x<y then-1 else if x=y then 0 else 1
theorem Ch {x y:Int}(h:x<y):sH x y= -1:=qaj h
theorem IQ {x y:Int}(h:x=y):sH x y=0:=by unfold sH;rw[qai (by omega),qaj h]
theorem IU {x y:Int}(h:y<x):sH x y=1:=by unfold sH;rw[qai (by omega),qai (by omega)]
theorem wJ (x:Int)(w:World):Calls prog 205 #[.int .i64 x] w fun e w'=>e=.returned (.bool false)∧w'=w:=by
 go_enter func205,ntmps205;go_wp2_with fail;go_ret;exact⟨by simp,rfl⟩
theorem Q7 (x y:Int)(w:World):Calls prog 177 #[.int .i64 x,.int .i64 y] w fun e w'=>e=.returned (.int .i64 (sH x y))∧w'=w:=by
 rcases Int.lt_trichotomy x y with h|h|h
 ·rw[Ch h];go_enter func177,ntmps177;go_wp2_with (go_at_call 205;refine(wJ _ _).mono ?_;rintro e w' ⟨rfl,rfl⟩);go_ret;exact⟨rfl,rfl⟩
 ·subst h;rw[IQ rfl];have h1:¬(x<x):=by omega
  go_enter func177,ntmps177;go_wp2_with (go_at_call 205;refine(wJ _ _).mono ?_;rintro e w' ⟨rfl,rfl⟩);go_ret;exact⟨rfl,rfl⟩
 ·rw[IU h];have h1:¬(x<y):=by omega
  go_enter func177,ntmps177;go_wp2_with (go_at_call 205;refine(wJ _ _).mono ?_;rintro e w' ⟨rfl,rfl⟩);go_ret;exact⟨rfl,rfl⟩
theorem yR (a f t:Int)(w:World):Calls prog 176 #[.agg #[.int .i64 a,.int .i64 f],.int .i64 t] w fun e w'=>e=.returned (.int .i64 (sH a t))∧w'=w.alloc (.cells #[.int .i64 a,.int .i64 f] 58):=by
 go_enter func176,ntmps176;go_wp2_with (go_at_call 177;refine(Q7 _ _ _).mono ?_;rintro e w' ⟨rfl,rfl⟩);go_ret;exact⟨rfl,rfl⟩
structure UZ (L : List (Int × Int)) (t : Int) (i : Nat) : Prop where
 le:i≤L.length
 lo:∀m,m<i→tA L m<t
 hi:∀m,i≤m→m<L.length→t≤tA L m
section
variable {w : World} {g : Nat} {L : List (Int × Int)} {now : Int} {f : Int → Int} {cap : Nat}
theorem Uh (t:Int)(hs:Sm L now f)(hl:L.length≤1000)(ho:w.ownsRow 0 58 2 (.slice (some ⟨g,0,none⟩) L.length cap) L.length (aN L)):
 Calls prog 175 #[.slice (some ⟨g,0,none⟩) L.length cap,.int .i64 t,.func (.func 176) #[] #[]] w
  fun e w'=>∃i:Nat,e=.returned (.tuple #[.int .i64 i,.bool (decide (i<L.length∧tA L i=t))])∧UZ L t i∧Below w.heap.size w w':=by
 have hgw:g<w.heap.size:=(ho.lt g rfl).2;go_enter func175,ntmps175;go_wp2_with fail;go_loopw [9,10] (fun i j wr=>∃(lo hi:Nat),lo≤hi∧hi≤L.length∧i=.int .i64 lo∧j=.int .i64 hi∧(∀m,m<lo→tA L m<t)∧(∀m,hi≤m→m<L.length→t≤tA L m)∧Below w.heap.size w wr) (fun i j _=>(intOf j-intOf i).toNat)
 case atStart=>exact⟨0,L.length,Nat.zero_le _,qaf _,rfl,rfl,fun m hm=>by omega,fun m h1 h2=>by omega,Below.refl _ _⟩
 case round=>
  obtain⟨lo,hi,hlh,VQ,rfl,rfl,hlo,hhi,hb⟩:=hrel;have hown:=bF ho hb;have hsz:=hb.size;by_cases hlt:lo<hi
  ·obtain⟨h,hh⟩:=qaa ((lo+hi)/2);have h1:lo≤h:=by omega
   have h2:h<hi:=by omega
   obtain⟨a0,a1⟩:=step_cells hown (show h<L.length by omega);obtain⟨x,hx⟩:=qaa (tA L h);obtain⟨y,hy⟩:=qaa (tV L h);rw[←hx]at a0;rw[←hy]at a1;have hw1:IntKind.i64.wrap ((lo:Int)+hi)=(lo:Int)+hi:=IntWalk.i64_in _ (by omega);have hw2:IntKind.u64.wrap ((lo:Int)+hi)=(lo:Int)+hi:=by rw[IntKind.wrap_u64];omega
   have hw4:((lo:Int)+hi)/2=(h:Int):=by omega
   have Ci:IntKind.i64.wrap (h:Int)=h:=IntWalk.i64_in _ (by omega);have rH:IntKind.i64.wrap ((h:Int)+1)=(h:Int)+1:=IntWalk.i64_in _ (by omega);have hb1:(0:Int)≤h:=by omega
   have hb2:(h:Int)<(L.length:Int):=by omega
   have hin:(lo:Int)<(hi:Int):=by omega
   have hbd:Below w.heap.size w (wr.alloc (.cells #[.int .i64 x,.int .i64 y] 58)):=hb.alloc hsz _;replace hh:=qae hh;replace hx:=qae hx;replace hy:=qae hy;replace hlo:=qae hlo;replace hhi:=qae hhi;by_cases hc:x<t
   ·have e:=Ch hc;go_wp2_with (go_at_call 176;refine(yR _ _ _ _).mono ?_;rintro e w' ⟨rfl,rfl⟩;rw[e]);go_roundw
    case rel=>exact⟨h+1,hi,by omega,VQ,by go_num,rfl,fun m hm=>by
     rcases Nat.lt_or_ge m h with h3|h3
     ·have:=hs.le (i:=m) (j:=h) (by omega) (by have:=h2;have:=VQ;omega);rw[←hx.out]at this;have:=hc;omega
     ·have:m=h:=by omega
      subst this;rw[←hx.out];exact hc,hhi.out,hbd⟩
    case measure=>simp[intOf];omega
   ·have e:0≤sH x t:=by unfold sH;rw[qai hc];split<;>omega
    obtain⟨c,hcc⟩:=qab (sH x t);rw[hcc]at e;have e2:¬(c<0):=by omega
    replace hc:=qae hc;go_wp2_with (go_at_call 176;refine(yR _ _ _ _).mono ?_;rintro e w' ⟨rfl,rfl⟩;rw[hcc]);go_roundw
    case rel=>exact⟨lo,h,h1,by omega,rfl,by go_num,hlo.out,fun m hm1 hm2=>by
     have:=hs.le (i:=h) (j:=m) hm1 hm2;rw[←hx.out]at this;have:=hc.out;omega,hbd⟩
    case measure=>simp[intOf];omega
  ·obtain rfl:lo=hi:=by omega
   have Xn:Hid (UZ L t lo):=⟨VQ,hlo,hhi⟩;replace hlo:=qae hlo;replace hhi:=qae hhi;by_cases hend:lo<L.length
   ·obtain⟨a0,a1⟩:=step_cells hown hend;obtain⟨x,hx⟩:=qaa (tA L lo);obtain⟨y,hy⟩:=qaa (tV L lo);have hbd:Below w.heap.size w (wr.alloc (.cells #[.int .i64 x,.int .i64 y] 58)):=hb.alloc hsz _;rw[←hx]at a0;rw[←hy]at a1;have hb2:(lo:Int)<(L.length:Int):=by omega
    have hd:decide ((lo:Int)<(L.length:Int))=true:=qag hb2;have hr:Hid (decide (lo<L.length∧tA L lo=t)=(sH x t == 0)):=by
     show _=_;rw[←hx];rcases Int.lt_trichotomy x t with h|h|h
     ·rw[Ch h,qah (by omega)];rfl
     ·rw[IQ h,qag ⟨hend,h⟩];rfl
     ·rw[IU h,qah (by omega)];rfl
    replace hx:=qae hx;replace hy:=qae hy;replace hend:=qae hend;obtain⟨c,hcc⟩:=qab (sH x t);rw[hcc]at hr;go_wp2_with (go_at_call 176;refine(yR _ _ _ _).mono ?_;rintro e w' ⟨rfl,rfl⟩;rw[hcc]);go_ret2;exact⟨lo,by rw[hr.out];rfl,Xn.out,hbd⟩
   ·have hd:decide ((lo:Int)<(L.length:Int))=false:=qah (by omega);have hr:Hid (decide (lo<L.length∧tA L lo=t)=false):=qah (by omega);replace hend:=qae hend;go_wp2_with fail;go_ret2;exact⟨lo,by rw[hr.out];rfl,Xn.out,hb⟩
end
section
variable {w : World} {p g : Nat} {L : List (Int × Int)} {aF now : Int} {f : Int → Int}
theorem Ld (t:Int)(hs:Sm L now f)(hl:L.length≤1000)(h:PW w p g L aF):
 Calls prog 131 #[.pointer (some ⟨p,0,none⟩),.int .i64 t] w fun e w'=>∃i:Nat,e=.returned (.int .i64 i)∧ic L t i∧Below w.heap.size w w':=by
 obtain⟨cap,F⟩:=h.facts;have c0:=F.c0;have hbs:=Uh t hs hl F.own;have hpos:=hs.pos;clear F h;go_enter func131,ntmps131;go_wp2_with fail;go_at_call 175;refine hbs.mono ?_;clear hbs;rintro e w' ⟨i,rfl,hC,hb⟩;have hCl:=hC.le;by_cases hd:i<L.length∧tA L i=t
 ·rw[qag hd];have hi0:(0:Int)≤i:=by omega
  have hI:Hid (ic L t i):=⟨hd.1,fun _=>by rw[hd.2];exact Int.le_refl _,fun hx=>by rw[←hd.2];exact hs.inc i hx⟩;replace hd:=qae hd;clear c0;go_wp2_with fail;go_ret;exact⟨i,by go_num,hI.out,hb⟩
 ·rw[qah hd];have hw:IntKind.i64.wrap ((i:Int)-1)=(i:Int)-1:=IntWalk.i64_in _ (by omega);have hI:Hid (ic L t (i-1)):=by
   refine⟨by omega,fun h0=>Int.le_of_lt (hC.lo _ (by omega)),fun hx=>?_⟩;rcases Nat.eq_zero_or_pos i with h0|h0
   ·subst h0;have:=hC.hi 0 (Nat.zero_le _) hpos;have:=hs.inc 0 (by omega);show t<tA L (0+1);omega
   ·rw[show i-1+1=i by omega]at hx⊢;have h1:=hC.hi i (qaf _) hx;have h2:tA L i≠t:=fun e=>hd ⟨hx,e⟩;omega
  have hm:Hid (max ((i:Int)-1) 0=((i-1:Nat):Int)):=by show _=_;omega
  replace hd:=qae hd;clear c0;go_wp2_with fail;go_ret;exact⟨i-1,by rw[←hm.out];rfl,hI.out,hb⟩
end
theorem lQ :(prog.info? 58).map (fun i=>(i.zero,i.size,i.bytes))=some (some (.agg #[.int .i64 0,.int .i64 0]),2,16):=by kernel_rfl
theorem Cj {w:World}{base:Nat}{e:TypeId}{sz n:Nat}{v:Value}{xs:List Value}(h:w.ownsRow base e sz v n xs)(hn:0<n):∃g cap,v=.slice (some ⟨g,0,none⟩) n cap∧base≤g:=by
 rcases h.2 with⟨_,e0⟩|⟨g,cap,_,e,hb,_⟩
 ·omega
 ·exact⟨g,cap,e,hb⟩
section
variable {w : World} {g : Nat} {L : List (Int × Int)} {cap : Nat}
theorem Le (ho:w.ownsRow 0 58 2 (.slice (some ⟨g,0,none⟩) L.length cap) L.length (aN L))(hp:0<L.length)(hl:L.length≤1000):
 Calls prog 76 #[.slice (some ⟨g,0,none⟩) L.length cap] w fun e w'=>∃g' cap',e=.returned (.slice (some ⟨g',0,none⟩) L.length cap')∧w.heap.size≤g'∧w'.ownsRow 0 58 2 (.slice (some ⟨g',0,none⟩) L.length cap') L.length (aN L)∧Below w.heap.size w w':=by
 obtain⟨i0,hi0,hz0,hz1,hz2⟩:=info_parts lQ;have hgw:g<w.heap.size:=(ho.lt g rfl).2;have hown:(w.alloc (.cells #[] 58)).ownsRow w.heap.size 58 2 (.slice (some ⟨w.heap.size,0,none⟩) 0 0) 0 []:=qm (vs:=[]) rfl (qaf _) rfl (Nat.zero_le _);have hcell:∀j u,(aN L)[j]? =some u→(w.alloc (.cells #[] 58)).cell? ((⟨g,0,none⟩:Addr).add j)=some u:=fun j u hj=>by
  have:=ho.cells (g:=g) rfl j u hj;rw[Go.WideShapes.add_plain]at this⊢;rw[World.cell?_alloc_lt _ _ _ hgw];exact this
 have hnil:∀w:World,(binOp .eql 42 (.slice (some ⟨g,0,none⟩) L.length cap) (.slice none 0 0)).run prog w=.ok (.bool false) w:=fun w=>Lib.run_eql_slice_nil w _ _ _ _ _ _ _ underlying42;go_enter func76,ntmps76;go_wp2_with (at_builtin;go_must (refine wpList_append_own _ rfl (.tmp 5) (.tmp 6) 42 rfl w.heap.size 58 i0 (.agg #[.int .i64 0,.int .i64 0]) 2 16 underlying42 hi0 hz0 hz1 hz2 rfl (by decide) (.slice (some ⟨w.heap.size,0,none⟩) 0 0) 0 [] rfl hown ⟨g,0,none⟩ L.length cap (aN L) rfl (eu L) ?c0 ?c1 ?c2 ?c3 ?c4 ?c5))
 case c0=>exact hcell
 case c1=>exact qM L
 case c2=>unfold maxLen;omega
 case c3=>omega
 case c4=>simp
 case c5=>
  intro v' w2 hown3 hgrow _;have hb2:Below w.heap.size w w2:=((Below.refl _ w).alloc (qaf _) _).grown hgrow (by simp) (fun q hq=>by cases hq;exact qaf _);clear hcell hown hgrow ho;obtain⟨g',cap',rfl,hg'⟩:=Cj hown3 (by omega);go_wp2_with fail;go_ret;exact⟨g',cap',by go_num,hg',kC hown3 (Nat.zero_le _),hb2⟩
end
section
variable {w : World} {p g : Nat} {L : List (Int × Int)} {aF : Int}
theorem Dx (h:PW w p g L aF)(hp:0<L.length)(hl:L.length≤1000):
 Calls prog 22 #[.pointer (some ⟨p,0,none⟩)] w fun e w'=>∃g' cap',e=.returned (.slice (some ⟨g',0,none⟩) L.length cap')∧w.heap.size≤g'∧w'.ownsRow 0 58 2 (.slice (some ⟨g',0,none⟩) L.length cap') L.length (aN L)∧Below w.heap.size w w':=by
 have hn:=dS h hp;obtain⟨cap,F⟩:=h.facts;have c0:=F.c0;have hc:=Le F.own hp hl;clear F h;go_enter func22,ntmps22;go_wp2_with (go_at_call 75;go_must (refine hn.mono ?_);rintro e w' ⟨rfl,rfl⟩);go_at_call 76;refine hc.mono ?_;clear hc hn;rintro e w' ⟨g',cap',rfl,h1,h2,h3⟩;clear c0;go_wp2_with fail;go_ret;exact⟨g',cap',by go_num,h1,h2,h3⟩
end
theorem iw :prog.follows .mixedOrders=true:=by kernel_rfl
section
variable {w : World} {p g : Nat} {L : List (Int × Int)} {aF now : Int} {f : Int → Int}
theorem ic.uniq (hs:Sm L now f){t:Int}{i j:Nat}(h:ic L t i)(h':ic L t j):i=j:=by
 have key:∀{i j:Nat},ic L t i→ic L t j→¬i<j:=by
  intro i j h h' hlt;have h1:=h.nx (by have:=h'.lt;omega);have h2:=h'.le (by omega);have h3:=hs.le (i:=i+1) (j:=j) hlt h'.lt;omega
 have:=key h h';have:=key h' h;omega
theorem wL (t:Int){i:Nat}(hi:ic L t i)(hs:Sm L now f)(hl:L.length≤1000)(h:PW w p g L aF):
 Calls prog 131 #[.pointer (some ⟨p,0,none⟩),.int .i64 t] w fun e w'=>e=.returned (.int .i64 i)∧Below w.heap.size w w':=by
 refine(Ld t hs hl h).mono ?_;rintro e w' ⟨j,rfl,hj,hb⟩;rw[hi.uniq hs hj];exact⟨rfl,hb⟩
theorem Gf (h:PW w p g L aF)(hp:0<L.length)(hl:L.length≤1000):
 Calls prog 160 #[.pointer (some ⟨p,0,none⟩)] w fun e w'=>∃p' g':Nat,e=.returned (.pointer (some ⟨p',0,none⟩))∧PW w' p' g' L aF∧w.heap.size≤p'∧w.heap.size≤g'∧Below w.heap.size w w':=by
 have hn:=dS h hp;have nA:=iw;go_enter func160,ntmps160;go_wp2_with (go_at_call 75;go_must (refine hn.mono ?_);rintro e w' ⟨rfl,rfl⟩);refine Reg2.sO 6 13 (Reg2.rows 0 [.p 0,.p 1,.p 0,.p 4,.p 12,.p 28]) [0,1,0,0,0,1]
  [.pure,.minor (Nat×Nat) (0,0) (fun x=>.slice (some ⟨x.1,0,none⟩) L.length x.2) (fun x W=>w.heap.size≤x.1∧W.ownsRow 0 58 2 (.slice (some ⟨x.1,0,none⟩) L.length x.2) L.length (aN L)),.pure,.pure,.pure,.mU (.int .i64 aF)]
  (fun W=>Below w.heap.size w W) (fun _ _=>True) (fun _ _=>False) (by kernel_rfl) (by kernel_rfl) rfl rfl (fun _ _ _ _ h=>h) ?_ ?_ ?_ ?_ ?_ ?_
 ·intro w1 w2 he hb;exact hb.trans (he.mono hb.size)
 ·intro _ _ h;exact h.elim
 ·refine⟨trivial,⟨?_,?_⟩,trivial,trivial,trivial,⟨?_,?_⟩,trivial⟩
  all_goals(first|exact fun _ _ _ _ h=>h|exact fun _ _ _ h=>h.elim|exact fun _ w1 w2 he hx=>⟨hx.1,bF hx.2 he⟩)
 ·exact qac.drew
 ·exact trivial
 dsimp only[Reg2.rows,Reg2.mk,List.zip,List.zipWith,List.take]
 repeat(refine' Reg2.ak _ (by rfl) (fun wz=>?_) ?_;rotate_left;(go_simp;first|rfl|rw[qai (by omega)]);simp only[Act.put,xA,xB,xC];(try simp only[xD]);(try simp only[xE]))
 refine Reg2.pm (fun wz hI hF=>?_) (fun x1=>?_) (by rfl)
 ·go_wp2_with (go_at_call 22;go_must (refine(Dx (h.kept hI) hp hl).mono ?_);rintro e w1 ⟨g1,Xo,rfl,h1,h2,h3⟩);exact⟨_,rfl,⟨(g1,Xo),rfl,Nat.le_trans hI.size h1,h2⟩,h3⟩
 simp only[Act.put,xA,xB,xC,xD,xE,id]
 repeat(refine' Reg2.ak _ (by rfl) (fun wz=>?_) ?_;rotate_left;(go_simp;first|rfl|rw[qai (by omega)]);simp only[Act.put,xA,xB,xC];(try simp only[xD]);(try simp only[xE]))
 refine Reg2.pm (fun wz hI hF=>?_) (fun x5=>?_) (by rfl)
 ·obtain⟨cap,F⟩:=(h.kept hI).facts;have c1:=F.c1;clear F;go_wp2_with fail;exact⟨_,rfl,⟨(),rfl,trivial⟩,qad⟩
 simp only[Act.put,xA,xB,xC,xD,xE,id];refine Reg2.aB ?_;intro w3 HI3 _ rJ;obtain⟨g',cap'⟩:=x1;have hg:=rJ.2.1;clear rJ;have hsz:=HI3.size;have hn':Hid (PW (w3.alloc (.cells #[.slice (some ⟨g',0,none⟩) L.length cap',.int .i64 aF] 125)) w3.heap.size g' L aF):=⟨cap',heap_alloc_new w3 _,bF hg.2 (qac.alloc (qaf _) _)⟩;have hge:=hg.1;clear hg;dsimp only[List.drop];go_wp2_with fail;go_ret;exact⟨w3.heap.size,rfl,g',hn'.out,hsz,hge,HI3.alloc hsz _⟩
theorem OP (t:Int){i:Nat}(hi:ic L t i)(hs:Sm L now f)(hl:L.length≤1000)(h:PW w p g L aF):
 Calls prog 57 #[.pointer (some ⟨p,0,none⟩),.int .i64 t] w fun e w'=>e=.returned (.int .i64 (tV L i))∧Below w.heap.size w w':=by
 have hn:=dS h hs.pos;have nA:=iw;have hil:=hi.lt;obtain⟨cap,F⟩:=h.facts;have pl:=F.pl;have c0:=F.c0;clear F;replace hi:=qae hi;go_enter func57,ntmps57;go_wp2_with (go_at_call 75;go_must (refine hn.mono ?_);rintro e w' ⟨rfl,rfl⟩);refine Reg2.sO 7 17 (Reg2.rows 0 [.p 0,.p 1,.p 3,.p 7,.p 0,.p 0,.p 48]) [0,0,0,1,0,0,1]
  [.pure,.pure,.pure,.mU (.slice (some ⟨g,0,none⟩) L.length cap),.pure,.pure,.mU (.int .i64 i)]
  (fun W=>Below w.heap.size w W) (fun _ _=>True) (fun _ _=>False) (by kernel_rfl) (by kernel_rfl) rfl rfl (fun _ _ _ _ h=>h) ?_ ?_ ?_ ?_ ?_ ?_
 ·intro w1 w2 he hb;exact hb.trans (he.mono hb.size)
 ·intro _ _ h;exact h.elim
 ·refine⟨trivial,trivial,trivial,⟨?_,?_⟩,trivial,trivial,⟨?_,?_⟩,trivial⟩
  all_goals(first|exact fun _ _ _ _ h=>h|exact fun _ _ _ h=>h.elim|exact fun _ w1 w2 he hx=>⟨hx.1,bF hx.2 he⟩)
 ·exact qac.drew
 ·exact trivial
 dsimp only[Reg2.rows,Reg2.mk,List.zip,List.zipWith,List.take]
 repeat(refine' Reg2.ak _ (by rfl) (fun wz=>?_) ?_;rotate_left;(go_simp;first|rfl|rw[qai (by omega)]);simp only[Act.put,xA,xB,xC];(try simp only[xD]);(try simp only[xE]))
 refine Reg2.pm (fun wz hI hF=>?_) (fun x3=>?_) (by rfl)
 ·have d0:=(hI.cell (p:=⟨p,0,none⟩) pl).trans c0;go_wp2_with fail;exact⟨_,rfl,⟨(),rfl,trivial⟩,qad⟩
 simp only[Act.put,xA,xB,xC,xD,xE,id]
 repeat(refine' Reg2.ak _ (by rfl) (fun wz=>?_) ?_;rotate_left;(go_simp;first|rfl|rw[qai (by omega)]);simp only[Act.put,xA,xB,xC];(try simp only[xD]);(try simp only[xE]))
 refine Reg2.pm (fun wz hI hF=>?_) (fun x6=>?_) (by rfl)
 ·go_wp2_with (go_at_call 131;go_must (refine(wL t hi.out hs hl (h.kept hI)).mono ?_);rintro e w1 ⟨rfl,Ck⟩);exact⟨_,rfl,⟨(),rfl,trivial⟩,Ck⟩
 simp only[Act.put,xA,xB,xC,xD,xE,id];refine Reg2.aB ?_;intro w3 HI3 _ rJ;clear rJ c0;obtain⟨cap',F'⟩:=(h.kept HI3).facts;have s1:=(step_cells F'.own hil).2;have b1:(0:Int)≤i:=by omega
 have b2:(i:Int)<(L.length:Int):=by omega
 clear F';dsimp only[List.drop];go_wp2_with fail;go_ret;exact⟨rfl,HI3⟩
theorem Cm (a b:Int)(h:PW w p g L aF)(hp:0<L.length)(hab:b≤max a (tA L 0)):
 Calls prog 178 #[.pointer (some ⟨p,0,none⟩),.int .i64 a,.int .i64 b] w fun e w'=>e=.returned (.slice none 0 0)∧w=w':=by
 have hn:=lN h hp;obtain⟨m,hm⟩:=qab (max a (tA L 0));rw[hm]at hab;go_enter func178,ntmps178;go_wp2_with (go_at_call 45;go_must (refine hn.mono ?_);rintro e w' ⟨rfl,rfl⟩);go_ret;exact⟨rfl,rfl⟩
theorem Cn (a b m:Int){i j cap:Nat}(hm:max a (tA L 0)=m)(hab:m<b)(Xp: -9223372036854775808<b∧b≤9223372036854775807)(hi:ic L m i)(hj:ic L (b-1) j)(hij:i≤j)(hs:Sm L now f)(hl:L.length≤1000)(h:PW w p g L aF)(F:Np w p g L aF cap):
 Calls prog 178 #[.pointer (some ⟨p,0,none⟩),.int .i64 a,.int .i64 b] w fun e w'=>e=.returned (.slice (some ⟨g,i*2,none⟩) (j+1-i) (cap-i))∧Below w.heap.size w w':=by
 have hn:=lN h hs.pos;have nA:=iw;have hjl:=hj.lt;have hlc:=F.lc;have pl:=F.pl;have c0:=F.c0;have hw1:IntKind.i64.wrap (b-1)=b-1:=IntWalk.i64_in _ (by omega);have hw2:IntKind.i64.wrap ((j:Int)+1)=(j:Int)+1:=IntWalk.i64_in _ (by omega);have ZF:¬(b≤m):=by omega
 clear F;replace hi:=qae hi;replace hj:=qae hj;go_enter func178,ntmps178;go_wp2_with (go_at_call 45;go_must (refine hn.mono ?_);rintro e w' ⟨rfl,rfl⟩);refine Reg2.sO 12 27 (Reg2.rows 0 [.p 0,.p 1,.p 3,.p 7,.p 0,.p 0,.p 48,.p 0,.p 0,.p 256,.p 1008,.p 2032]) [0,0,0,1,0,0,1,0,0,0,1,0]
  [.pure,.pure,.pure,.mU (.slice (some ⟨g,0,none⟩) L.length cap),.pure,.pure,.mU (.int .i64 i),.pure,.pure,.pure,.mU (.int .i64 j),.pure]
  (fun W=>Below w.heap.size w W) (fun _ _=>True) (fun _ _=>False) (by kernel_rfl) (by kernel_rfl) rfl rfl (fun _ _ _ _ h=>h) ?_ ?_ ?_ ?_ ?_ ?_
 ·intro w1 w2 he hb;exact hb.trans (he.mono hb.size)
 ·intro _ _ h;exact h.elim
 ·refine⟨trivial,trivial,trivial,⟨?_,?_⟩,trivial,trivial,⟨?_,?_⟩,trivial,trivial,trivial,⟨?_,?_⟩,trivial,trivial⟩
  all_goals(first|exact fun _ _ _ _ h=>h|exact fun _ _ _ h=>h.elim|exact fun _ w1 w2 he hx=>⟨hx.1,bF hx.2 he⟩)
 ·exact qac.drew
 ·exact trivial
 dsimp only[Reg2.rows,Reg2.mk,List.zip,List.zipWith,List.take]
 repeat(refine' Reg2.ak _ (by rfl) (fun wz=>?_) ?_;rotate_left;(go_simp;first|rfl|rw[qai (by omega)]);simp only[Act.put,xA,xB,xC];(try simp only[xD]);(try simp only[xE]))
 refine Reg2.pm (fun wz hI hF=>?_) (fun x3=>?_) (by rfl)
 ·have d0:=(hI.cell (p:=⟨p,0,none⟩) pl).trans c0;go_wp2_with fail;exact⟨_,rfl,⟨(),rfl,trivial⟩,qad⟩
 simp only[Act.put,xA,xB,xC,xD,xE,id]
 repeat(refine' Reg2.ak _ (by rfl) (fun wz=>?_) ?_;rotate_left;(go_simp;first|rfl|rw[qai (by omega)]);simp only[Act.put,xA,xB,xC];(try simp only[xD]);(try simp only[xE]))
 refine Reg2.pm (fun wz hI hF=>?_) (fun x6=>?_) (by rfl)
 ·go_wp2_with (go_at_call 131;go_must (refine(wL m hi.out hs hl (h.kept hI)).mono ?_);rintro e w1 ⟨rfl,Ck⟩);exact⟨_,rfl,⟨(),rfl,trivial⟩,Ck⟩
 simp only[Act.put,xA,xB,xC,xD,xE,id]
 repeat(refine' Reg2.ak _ (by rfl) (fun wz=>?_) ?_;rotate_left;(go_simp;first|rfl|rw[qai (by omega)]);simp only[Act.put,xA,xB,xC];(try simp only[xD]);(try simp only[xE]))
 refine Reg2.pm (fun wz hI hF=>?_) (fun Lf=>?_) (by rfl)
 ·go_wp2_with (go_at_call 131;go_must (refine(wL (b-1) hj.out hs hl (h.kept hI)).mono ?_);rintro e w1 ⟨rfl,Ck⟩);exact⟨_,rfl,⟨(),rfl,trivial⟩,Ck⟩
 simp only[Act.put,xA,xB,xC,xD,xE,id]
 repeat(refine' Reg2.ak _ (by rfl) (fun wz=>?_) ?_;rotate_left;(go_simp;first|rfl|rw[qai (by omega)]);simp only[Act.put,xA,xB,xC];(try simp only[xD]);(try simp only[xE]))
 refine Reg2.aB ?_;intro w3 HI3 _ rJ;clear rJ c0;have b1:(0:Int)≤i:=by omega
 have b2:(i:Int)≤(j:Int)+1:=by omega
 have b3:(j:Int)+1≤(cap:Int):=by omega
 have b4:((j:Int)+1).toNat=j+1:=by omega
 have b5:¬(cap=i):=by omega
 have b6:i≤j+1:=by omega
 have b7:j+1≤cap:=by omega
 dsimp only[List.drop];go_wp2_with fail;go_ret;exact⟨by go_num,HI3⟩
end
theorem Gg (w:World):(zeroValue 58).run prog w=.ok (.agg #[.int .i64 0,.int .i64 0]) w:=by kernel_rfl
theorem sI {P:Program}(w:World){ops:Array Oper}{rest:List Oper}{o:Oper}{a:Act}{Q:Exit→Act→World→Prop}(hgd:o.guard=none)(d s:Operand)(t t':TypeId)
 (ho:o.op=.call {callee:=.builtin .copy,args:=#[d,s],argTypes:=#[t,t']}) (v u:Value) (hd:a.eval d=v) (hs:a.eval s=u) {v':Value} {w':World}
 (hr:(Builtin.copy_ #[t,t'] o.type #[v,u]).run P w=.ok v' w') (h:wpList P ops Q rest (a.put o.dst v') w'):wpList P ops Q (o::rest) a w:=by
 refine wpList_plain hgd fun K hK=>?_;unfold Oper.wp execOp;simp only[ho,resolve,invoke,builtin,Sem.run_bind,Sem.run_pure,Result.andThen_ok,List.map_toArray,List.map_cons,List.map_nil,hd,hs,hr];exact hK _ _ h
theorem Off.mono {g p:Nat}{w w':World}(h:Off g g w w'):Off p g w w':=⟨h.os,h.tape,h.output,h.size,fun k hk _ h2=>h.block k hk h2 h2⟩
theorem uh {α:Type}(l vs:List α)(o:Nat)(h:o+vs.length≤l.length)(j:Nat):(l.take o++vs++l.drop (o+vs.length))[j]? =if j<o then l[j]? else if j<o+vs.length then vs[j-o]? else l[j]? :=by
 have hl1:(l.take o).length=o:=by rw[List.length_take];omega
 rw[List.append_assoc];by_cases h1:j<o
 ·rw[qaj h1,List.getElem?_append_left (by omega),List.getElem?_take,qaj h1]
 ·rw[qai h1,List.getElem?_append_right (by omega),hl1];by_cases h2:j<o+vs.length
  ·rw[qaj h2,List.getElem?_append_left (by omega)]
  ·rw[qai h2,List.getElem?_append_right (by omega),List.getElem?_drop];congr 1;omega
section
variable {w : World} {base g n cap sz : Nat} {e : TypeId} {xs : List Value}
theorem Co (h:w.ownsRow base e sz (.slice (some ⟨g,0,none⟩) n cap) n xs)(o:Nat)(vs:List Value)(hfit:o+vs.length≤n*sz)(h1:∀u∈vs,u.oneCell'=true):
 ∃w',(∀P:Program,(storeCells ⟨g,o,none⟩ vs).run P w=.ok () w')∧w'.ownsRow base e sz (.slice (some ⟨g,0,none⟩) n cap) n (xs.take o++vs++xs.drop (o+vs.length))∧Off g g w w':=by
 have hl:=h.1;rcases h.2 with⟨e0,_⟩|⟨g',cap',cur,e0,hb,hg,hn,hm,hs,ht⟩
 ·cases e0
 ·cases e0;have hcs:n*sz≤cur.size:=by rw[hs];exact Nat.mul_le_mul_right _ hn
  refine⟨w.setRow g (cur.toList.take o++vs++cur.toList.drop (o+vs.length)).toArray,fun P=>?_,⟨?_,.inr ⟨g,cap,_,rfl,hb,setRow_heap w g cur _ e _ hg,hn,hm,?_,?_⟩⟩,⟨rfl,rfl,rfl,by simp,fun k hk _ hne=>setRow_other w g k _ hne⟩⟩
  ·have:=run_storeCells_at P g o e vs 0 cur w hg (by omega) h1;simpa using this
  ·simp only[List.length_append,List.length_take,List.length_drop];omega
  ·simp only[List.size_toArray,List.length_append,List.length_take,List.length_drop,Array.length_toList];omega
  ·rw[←ht];apply List.ext_getElem?;intro j;show(List.take (n*sz) (cur.toList.take o++vs++cur.toList.drop (o+vs.length)))[j]? =_;have hcl:cur.toList.length=cur.size:=Array.length_toList;rw[uh (cur.toList.take (n*sz)) vs o (by rw[List.length_take,hcl];omega),List.getElem?_take,uh cur.toList vs o (by rw[hcl];omega),List.getElem?_take];by_cases h2:j<n*sz
   ·rw[qaj h2,qaj h2]
   ·rw[qai h2,qai h2,qai (by omega),qai (by omega)]
theorem uW {P:Program}(dT sT:TypeId)(hu:P.underlying dT=some (.slice e))(hs:(P.info? e).map (·.size)=some sz)(h:w.ownsRow base e sz (.slice (some ⟨g,0,none⟩) n cap) n xs)(o:Nat)(vs:List Value)(hfit:o+vs.length≤n*sz)(h1:∀u∈vs,u.oneCell'=true)
 (a:Addr) (m:Nat) (hvl:vs.length=m*sz) (hsrc:∀j v,vs[j]? =some v→w.cell? (a.add j)=some v):
 ∃w',(∀ty dLen dCap sLen sCap,m=Nat.min sLen dLen→(Builtin.copy_ #[dT,sT] ty #[.slice (some ⟨g,o,none⟩) dLen dCap,.slice (some a) sLen sCap]).run P w=.ok (goInt m) w')∧w'.ownsRow base e sz (.slice (some ⟨g,0,none⟩) n cap) n (xs.take o++vs++xs.drop (o+vs.length))∧Off g g w w':=by
 obtain⟨w',hst,h2,h3⟩:=Co h o vs hfit h1;refine⟨w',fun ty dLen dCap sLen sCap hm=>?_,h2,h3⟩;have hl:=run_loadCells_list (P:=P) w a vs hsrc;cases hq:P.info? e with
 |none=>simp[hq]at hs
 |some i=>
  have hi:i.size=sz:=by simpa[hq]using hs
  simp[Builtin.copy_,run_underlying hu,Builtin.lenOf,Builtin.firstCells,sizeOf,typeInfo,hq,hi,←hm,←hvl,hl,hst]
theorem Lg {P:Program}{t:TypeId}{z:Value}{c:Nat}(ht:P.underlying t=some (.slice e))(hv:∀w,(zeroValue e).run P w=.ok z w)(hz:z.cells.size=sz)(h1:∀v∈z.cells.toList,v.oneCell'=true)
 (h:w.ownsRow base e sz (.slice (some ⟨g,0,none⟩) n cap) n xs) (hc:c<n) (hs0:0<sz):
 ∃w',(∀ty m,(Builtin.clear_ #[t] ty #[.slice (some ⟨g,c*sz,none⟩) (n-c) m]).run P w=.ok (.tuple #[]) w')∧w'.ownsRow base e sz (.slice (some ⟨g,0,none⟩) c cap) c (xs.take (c*sz))∧Off g g w w':=by
 have hzl:(Builtin.zeroCells z.cells (n-c)).toList.length=(n-c)*sz:=by rw[Array.length_toList,size_zeroCells,hz]
 have hmul:c*sz+(n-c)*sz=n*sz:=by rw[←Nat.add_mul];congr 1;omega
 have hz1:∀v∈(Builtin.zeroCells z.cells (n-c)).toList,v.oneCell'=true:=by
  intro v hv';simp[Builtin.zeroCells]at hv';obtain⟨i,hi,rfl⟩:=hv';have hlt:i %z.cells.size<z.cells.size:=Nat.mod_lt _ (by omega);rw[Array.getElem!_eq_getD,Array.getD,dif_pos hlt];exact h1 _ (by simp)
 have hxl:=h.1;obtain⟨w',hst,h2,h3⟩:=Co h (c*sz) (Builtin.zeroCells z.cells (n-c)).toList (by omega) hz1;refine⟨w',fun ty m=>?_,?_,h3⟩
 ·have hst:=hst P;obtain⟨q,hq⟩:∃q,n-c=q+1:=⟨n-c-1,by omega⟩;rw[hq]at hst⊢;simp[Builtin.clear_,run_underlying ht,hv,hst]
 ·have:=Qi h2 (c:=c) (by omega);rw[List.append_assoc,List.take_append_of_le_length (by rw[List.length_take];omega),List.take_take,Nat.min_self]at this;exact this
theorem zQ {P:Program}(t tx:TypeId)(i0:TypeInfo)(hu:P.underlying t=some (.slice e))(hi:P.info? e=some i0)(hsz:i0.size=sz)(h:w.ownsRow base e sz (.slice (some ⟨g,0,none⟩) n cap) n xs)(i m:Nat)(vs:List Value)(hfit:i+m≤n)(x:Value)(hs:Src P sz tx x m vs w):
 ∃w',(∀ty,(Builtin.append_ #[t,tx] ty #[.slice (some ⟨g,0,none⟩) i cap,x]).run P w=.ok (.slice (some ⟨g,0,none⟩) (i+m) cap) w')∧w'.ownsRow base e sz (.slice (some ⟨g,0,none⟩) n cap) n (xs.take (i*sz)++vs++xs.drop (i*sz+vs.length))∧Off g g w w':=by
 obtain⟨_,_,hnc,_⟩:=fQ h;have hmul:i*sz+m*sz≤n*sz:=by rw[←Nat.add_mul];exact Nat.mul_le_mul_right _ hfit
 obtain⟨w',hst,h2,h3⟩:=Co h (i*sz) vs (by rw[hs.newsLen];exact hmul) hs.one;have hroom:i+m≤cap:=by omega
 refine⟨w',fun ty=>?_,h2,h3⟩;subst hsz;rcases hs.kind with⟨e',hk⟩|hk<;>simp[Builtin.append_,run_underlying hu,run_underlying hk,sizeOf,typeInfo,hi,hs.len,hroom,hs.cells,Addr.add_lit,hst]
end
section
variable {w : World} {g cap : Nat} {L : List (Int × Int)}
theorem Lh (ho:w.ownsRow 0 58 2 (.slice (some ⟨g,0,none⟩) L.length cap) L.length (aN L)){j:Nat}(hj:j≤L.length)(c:Nat):
 Src prog 2 42 (.slice (if cap=j then some ⟨g,0,none⟩else some ⟨g,j*2,none⟩) (L.length-j) c) (L.length-j) (aN (L.drop j)) w:=by
 obtain⟨_,_,hnc,_⟩:=fQ ho;have hlen:(aN (L.drop j)).length=(L.length-j)*2:=by rw[eu,List.length_drop]
 by_cases hc:cap=j
 ·rw[qaj hc];refine Src.ofSlice w underlying42 _ _ _ _ hlen (fun q u hq=>?_) (qM _);have:=(List.getElem?_eq_some_iff.1 hq).1;omega
 ·rw[qai hc];refine Src.ofSlice w underlying42 _ _ _ _ hlen (fun q u hq=>?_) (qM _);rw[ow,List.getElem?_drop]at hq;have:=ho.cells (g:=g) rfl _ _ hq;rw[Go.WideShapes.add_plain]at this⊢;simpa using this
theorem zT (i j:Nat)(ho:w.ownsRow 0 58 2 (.slice (some ⟨g,0,none⟩) L.length cap) L.length (aN L))(hl:L.length≤1000)(hij:i≤j)(hj:j≤L.length):
 Calls prog 230 #[.slice (some ⟨g,0,none⟩) L.length cap,.int .i64 i,.int .i64 j] w fun e w'=>e=.returned (.slice (some ⟨g,0,none⟩) (L.take i++L.drop j).length cap)∧w'.ownsRow 0 58 2 (.slice (some ⟨g,0,none⟩) (L.take i++L.drop j).length cap) (L.take i++L.drop j).length (aN (L.take i++L.drop j))∧Off g g w w':=by
 have nA:=iw;obtain⟨i0,hi0,hz0,hz1,hz2⟩:=info_parts lQ;obtain⟨_,_,hnc,hcm,_⟩:=fQ ho;have hlen:(L.take i++L.drop j).length=i+(L.length-j):=by rw[List.length_append,List.length_take,List.length_drop];omega
 have hcm':cap≤9223372036854775807:=by unfold maxLen at hcm;omega
 clear hcm;by_cases heq:i=j
 ·subst heq;have hn:(L.take i++L.drop i)=L:=List.take_append_drop i L;rw[hn];have b1:(i:Int)≤(L.length:Int):=by omega
  have b2:(0:Int)≤(i:Int):=by omega
  clear hn hlen;by_cases YZ:L.length=i
  ·subst YZ;go_enter func230,ntmps230;go_wp2_with fail;go_ret;exact⟨rfl,ho,Off.refl _ _ _⟩
  ·go_enter func230,ntmps230;go_wp2_with fail;go_ret;exact⟨rfl,ho,Off.refl _ _ _⟩
 ·have hlt:i<j:=by omega
  rw[hlen];have hne:¬((i:Int)=(j:Int)):=by omega
  obtain⟨A,hA⟩:∃A:Addr,(if cap=j then some (⟨g,0,none⟩:Addr)else some ⟨g,j*2,none⟩)=some A:=by
   by_cases h:cap=j
   ·exact⟨_,qaj h⟩
   ·exact⟨_,qai h⟩
  have hcj:j≤cap:=by omega
  have hci:i≤cap:=by omega
  have hbi:(i:Int)≤(j:Int):=by omega
  have hbj:(j:Int)≤(L.length:Int):=by omega
  have hbc:(L.length:Int)≤(cap:Int):=by omega
  replace hlen:=qae hlen;go_enter func230,ntmps230;go_wp2_with fail;refine Reg2.sO 6 33 (Reg2.rows 0 [.p 0,.p 0,.p 3,.p 0,.p 0,.p 24]) [0,0,0,0,0,0]
   [.pure,.pure,.pure,.pure,.pure,.pure]
   (fun W=>Below w.heap.size w W) (fun _ _=>True) (fun _ _=>False) (by kernel_rfl) (by kernel_rfl) rfl rfl (fun _ _ _ _ h=>h) ?_ ?_ ?_ ?_ ?_ ?_
  ·intro w1 w2 he hb;exact hb.trans (he.mono hb.size)
  ·intro _ _ h;exact h.elim
  ·refine⟨trivial,trivial,trivial,trivial,trivial,trivial,trivial⟩
  ·exact qac.drew
  ·exact trivial
  dsimp only[Reg2.rows,Reg2.mk,List.zip,List.zipWith,List.take]
  repeat(refine' Reg2.ak _ (by rfl) (fun wz=>?_) ?_;rotate_left;(go_simp;first|rfl|rw[qai (by omega)]);simp only[Act.put,xA,xB,xC];(try simp only[xD]);(try simp only[xE]))
  refine Reg2.aB ?_;intro w3 HI3 _ rJ;clear rJ;have ho3:=bF ho HI3;have hsrc:=Lh ho3 hj (cap-j);rw[hA]at hsrc;obtain⟨w4,hrun,uj,hoff⟩:=zQ 42 42 i0 underlying42 hi0 hz1 ho3 i (L.length-j) _ (by omega) _ hsrc;have hcl:i+(L.length-j)<L.length:=by omega
  obtain⟨w5,ZG,Li,hb5⟩:=Lg (P:=prog) (sz:=2) (c:=i+(L.length-j)) underlying42 Gg rfl (by simp[Value.cells,Value.oneCell']) uj hcl (by decide);have hfin:w5.ownsRow 0 58 2 (.slice (some ⟨g,0,none⟩) (i+(L.length-j)) cap) (i+(L.length-j)) (aN (L.take i++L.drop j)):=by
   have e1:((aN L).take (i*2)++aN (L.drop j)++(aN L).drop (i*2+(aN (L.drop j)).length)).take ((i+(L.length-j))*2)=aN (L.take i++L.drop j):=by
    have hA1:((aN L).take (i*2)++aN (L.drop j)).length=(i+(L.length-j))*2:=by
     rw[List.length_append,List.length_take,eu,eu,List.length_drop];omega
    rw[←hA1,List.take_left,ug,uV]
   rw[e1]at Li;exact Li
  have qd:Off g g w w5:=by
   exact((Off.of_below HI3).trans hoff (.inl rfl)).trans hb5 (.inl rfl)
  have b1:¬(cap=i+(L.length-j)):=by omega
  have b2:(i:Int)+((L.length-j:Nat):Int)≤(L.length:Int):=by omega
  have b3:i+(L.length-j)≤L.length:=by omega
  clear hb5 Li uj hoff hsrc ho3 ho;dsimp only[List.drop];go_wp2_with (at_builtin;refine Lib.wpList_append_run _ rfl _ _ _ _ rfl _ _ rfl rfl _ _ (hrun _) ?_);go_ret;exact⟨by go_num,hfin,qd⟩
end
section
variable {w : World} {g cap : Nat} {L : List (Int × Int)}
def nO (w:World)(vb:Nat)(x:Int×Int):Prop:=w.heap[vb]? =some (.cells #[.int .i64 x.1,.int .i64 x.2] 58 (0,0))
theorem nO.cells {vb:Nat}{x:Int×Int}(h:nO w vb x):∀j v,(enc2 x)[j]? =some v→w.cell? ((⟨vb,0,none⟩:Addr).add j)=some v:=by
 intro j v hj;rw[Go.WideShapes.add_plain];have hj2:j<2:=(List.getElem?_eq_some_iff.1 hj).1;rcases(by omega:j=0∨j=1)with rfl|rfl
 ·simp[enc2]at hj;subst hj;simp[World.cell?,show w.heap[vb]? =_ from h]
 ·simp[enc2]at hj;subst hj;simp[World.cell?,show w.heap[vb]? =_ from h]
theorem nO.off {w':World}{vb p q:Nat}{x:Int×Int}(h:nO w vb x)(ho:Off p q w w')(hp:vb≠p∧vb≠q):nO w' vb x:=by
 unfold nO;rw[ho.block vb (gV h) hp.1 hp.2];exact h
theorem uX (L:List (Int×Int))(k:Nat)(x:Int×Int):aN (jI L k x)=(aN L).take (k*2)++enc2 x++(aN L).drop (k*2):=by
 unfold jI;rw[ug,show x::L.drop k=[x]++L.drop k from rfl,ug,uV,ow];simp[aN]
theorem yS (x:Int×Int):∀u∈enc2 x,u.oneCell'=true:=by intro u hu;simp[enc2]at hu;rcases hu with rfl|rfl<;>rfl
def lT (w:World)(g:Nat)(L:List (Int×Int))(k:Nat)(x:Int×Int)(e:Ending)(w':World):Prop:=
 ∃g' cap',e=.returned (.slice (some ⟨g',0,none⟩) (L.length+1) cap')∧(g'=g∨w.heap.size≤g')∧w'.ownsRow 0 58 2 (.slice (some ⟨g',0,none⟩) (L.length+1) cap') (L.length+1) (aN (jI L k x))∧Off g g w w'
theorem Et (ho:w.ownsRow 0 58 2 (.slice (some ⟨g,0,none⟩) L.length cap) L.length (aN L))(hr:L.length+1≤cap):∃ys:List Value,ys.length=2∧w.ownsRow 0 58 2 (.slice (some ⟨g,0,none⟩) (L.length+1) cap) (L.length+1) (aN L++ys):=by
 rcases ho.2 with⟨e0,_⟩|⟨g',cap',cur,e0,hb,hg,hn,hm,hs,ht⟩
 ·cases e0
 ·cases e0;have hcl:cur.toList.length=cur.size:=Array.length_toList;have e1:aN L++(cur.toList.drop (L.length*2)).take 2=cur.toList.take ((L.length+1)*2):=by
   rw[←ht,Nat.add_mul,List.take_add]
  have hy:((cur.toList.drop (L.length*2)).take 2).length=2:=by rw[List.length_take,List.length_drop,hcl];omega
  refine⟨(cur.toList.drop (L.length*2)).take 2,hy,?_,.inr ⟨g,cap,cur,rfl,hb,hg,hr,hm,hs,e1.symm⟩⟩;rw[List.length_append,hy,eu];omega
theorem yT (x:Int×Int)(vb:Nat)(ho:w.ownsRow 0 58 2 (.slice (some ⟨g,0,none⟩) L.length cap) L.length (aN L))(hl:L.length≤1000)(hr:L.length+1≤cap)(hv:nO w vb x):
 Calls prog 229 #[.slice (some ⟨g,0,none⟩) L.length cap,.int .i64 L.length,.slice (some ⟨vb,0,none⟩) 1 1] w (lT w g L L.length x):=by
 obtain⟨i0,hi0,hz0,hz1,hz2⟩:=info_parts lQ;obtain⟨_,_,hnc,hcm,_⟩:=fQ ho;have hcm':cap≤9223372036854775807:=by unfold maxLen at hcm;omega
 clear hcm;obtain⟨ys,hys,IV⟩:=Et ho hr;have hsrc:Src prog 2 42 (.slice (some ⟨vb,0,none⟩) 1 1) 1 (enc2 x) w:=Src.ofSlice w underlying42 _ 1 1 _ rfl hv.cells (yS x);obtain⟨w2,hrun,ho2,hoff⟩:=zQ 42 42 i0 underlying42 hi0 hz1 IV L.length 1 _ (qaf _) _ hsrc;have hfin:w2.ownsRow 0 58 2 (.slice (some ⟨g,0,none⟩) (L.length+1) cap) (L.length+1) (aN (jI L L.length x)):=by
  have e1:(aN L++ys).take (L.length*2)++enc2 x++(aN L++ys).drop (L.length*2+(enc2 x).length)=aN (jI L L.length x):=by
   rw[uX,←eu,List.take_left,List.drop_eq_nil_of_le (by simp[enc2,hys]),List.take_length,List.drop_length]
  rw[e1]at ho2;exact ho2
 have hpost:Hid (lT w g L L.length x (.returned (.slice (some ⟨g,0,none⟩) (L.length+1) cap)) w2):=⟨g,cap,rfl,.inl rfl,hfin,hoff⟩;have b1:(0:Int)≤(L.length:Int):=by omega
 clear ho hsrc ho2 hoff hfin IV hv;by_cases hc:cap=L.length
 ·omega
 ·go_enter func229,ntmps229;go_wp2_with (at_builtin;refine Lib.wpList_append_run _ rfl _ _ _ _ rfl _ _ rfl rfl _ _ (hrun _) ?_);go_ret;exact hpost.out
theorem yU (x:Int×Int)(vb:Nat)(ho:w.ownsRow 0 58 2 (.slice (some ⟨g,0,none⟩) L.length cap) L.length (aN L))(hl:L.length≤1000)(hr:cap<L.length+1)(hv:nO w vb x):
 Calls prog 229 #[.slice (some ⟨g,0,none⟩) L.length cap,.int .i64 L.length,.slice (some ⟨vb,0,none⟩) 1 1] w (lT w g L L.length x):=by
 obtain⟨i0,hi0,hz0,hz1,hz2⟩:=info_parts lQ;obtain⟨_,_,hnc,hcm,_⟩:=fQ ho;obtain rfl:cap=L.length:=by omega
 clear hcm;obtain⟨v',w2,hrun,ho2,hgrow⟩:=run_append_arg_grows (P:=prog) w 42 42 58 i0 (.agg #[.int .i64 0,.int .i64 0]) 2 16 underlying42 hi0 hz0 hz1 hz2 rfl (by decide) ⟨g,0,none⟩ L.length L.length (aN L) (eu L) (fun j u hj=>ho.cells (g:=g) rfl j u hj) ⟨vb,0,none⟩ 1 1 (enc2 x) rfl hv.cells hr (by unfold maxLen;omega) (by omega);obtain⟨g',cap',rfl,hg'⟩:=Cj ho2 (by omega);have hfin:w2.ownsRow 0 58 2 (.slice (some ⟨g',0,none⟩) (L.length+1) cap') (L.length+1) (aN (jI L L.length x)):=by
  have e1:aN (jI L L.length x)=aN L++enc2 x:=by rw[uX,←eu,List.take_length,List.drop_length,List.append_nil]
  rw[e1];exact kC ho2 (Nat.zero_le _)
 have hpost:Hid (lT w g L L.length x (.returned (.slice (some ⟨g',0,none⟩) (L.length+1) cap')) w2):=⟨g',cap',rfl,.inr hg',hfin,⟨hgrow.os,hgrow.tape,hgrow.output,hgrow.size,fun k hk _ _=>hgrow.block k hk (by simp)⟩⟩;have b1:(0:Int)≤(L.length:Int):=by omega
 clear ho ho2 hgrow hfin hv;go_enter func229,ntmps229;go_wp2_with (at_builtin;refine Lib.wpList_append_run _ rfl _ _ _ _ rfl _ _ rfl rfl _ _ hrun ?_);go_ret;exact hpost.out
end
section
variable {w : World} {g cap : Nat} {L : List (Int × Int)}
theorem Gh {w:World}(vb g o lb cb:Nat)(x:Int×Int)(hv:nO w vb x)(hne:vb≠g)(hg:∃t k,w.shape? g=some (t,k)∧k≠0):
 (callFunc 257 #[.slice (some ⟨vb,0,none⟩) 1 1,.slice (some ⟨g,o,none⟩) lb cb]).run prog w=.ok (.value (.bool false)) w:=by
 obtain⟨t,k,hs,hk⟩:=hg;have hfr:∀j,w.frozen? ⟨vb,j,none⟩=false:=fun j=>by simp[World.frozen?,show w.heap[vb]? =_ from hv]
 rw[run_callFunc_extern func257 (by kernel_rfl) (by kernel_rfl) (by kernel_rfl) (e:=Extern.SlicesOverlaps.overlaps #[42,42] #[4]) (by kernel_rfl),
  Lib.run_overlaps_apart w 42 4 58 underlying42 2 (fun w=>by kernel_rfl) ⟨vb,0,none⟩ ⟨g,o,none⟩ 1 1 lb cb hne 58 t 2 k (by simp[World.shape?,show w.heap[vb]? =_ from hv]) hs hk (hfr 0) (hfr 2)]
 rfl
theorem yV (x:Int×Int)(k vb:Nat)(ho:w.ownsRow 0 58 2 (.slice (some ⟨g,0,none⟩) L.length cap) L.length (aN L))(hl:L.length≤1000)(hk:k<L.length)(hr:L.length+1≤cap)(hv:nO w vb x)(hne:vb≠g):
 Calls prog 229 #[.slice (some ⟨g,0,none⟩) L.length cap,.int .i64 k,.slice (some ⟨vb,0,none⟩) 1 1] w (lT w g L k x):=by
 have nA:=iw;obtain⟨_,_,hnc,hcm,_⟩:=fQ ho;have hcm':cap≤9223372036854775807:=by unfold maxLen at hcm;omega
 clear hcm;have hov:∀o lb cb,(callFunc 257 #[.slice (some ⟨vb,0,none⟩) 1 1,.slice (some ⟨g,o,none⟩) lb cb]).run prog w=.ok (.value (.bool false)) w:=fun o lb cb=>by
  obtain⟨cur,hg,_,_,hs,_⟩:=fQ ho;exact Gh vb g o lb cb x hv hne ⟨58,cur.size,by simp[World.shape?,hg],by omega⟩
 have b0:(0:Int)≤(k:Int):=by omega
 have b1:¬((k:Int)=(L.length:Int)):=by omega
 have b2:(k:Int)≤(L.length:Int):=by omega
 have b3:¬((cap:Int)<(L.length:Int)+1):=by omega
 have b4:¬(cap=k):=by omega
 have b5:¬(cap=k+1):=by omega
 have w1:IntKind.i64.wrap ((L.length:Int)+1)=(L.length:Int)+1:=IntWalk.i64_in _ (by omega);have w2:IntKind.i64.wrap ((k:Int)+1)=(k:Int)+1:=IntWalk.i64_in _ (by omega);have b6:(0:Int)≤(L.length:Int)+1:=by omega
 have b7:(L.length:Int)+1≤(cap:Int):=by omega
 have b8:((L.length:Int)+1).toNat=L.length+1:=by omega
 have b9:(0:Int)≤(k:Int)+1:=by omega
 have b10:((k:Int)+1).toNat=k+1:=by omega
 have b11:(k:Int)+1≤(L.length:Int)+1:=by omega
 have b12:(k:Int)≤(L.length:Int)+1:=by omega
 have b13:k≤L.length+1:=by omega
 have b14:k+1≤L.length+1:=by omega
 go_enter func229,ntmps229;go_wp2_with (simp only[hov]);refine Reg2.sO 8 95 (Reg2.rows 0 [.p 0,.p 0,.p 0,.p 6,.p 15,.p 0,.p 0,.p 96]) [0,0,0,0,0,0,0,0]
  [.pure,.pure,.pure,.pure,.pure,.pure,.pure,.pure]
  (fun W=>Below w.heap.size w W) (fun _ _=>True) (fun _ _=>False) (by kernel_rfl) (by kernel_rfl) rfl rfl (fun _ _ _ _ h=>h) ?_ ?_ ?_ ?_ ?_ ?_
 ·intro w1 w2 he hb;exact hb.trans (he.mono hb.size)
 ·intro _ _ h;exact h.elim
 ·refine⟨trivial,trivial,trivial,trivial,trivial,trivial,trivial,trivial,trivial⟩
 ·exact qac.drew
 ·exact trivial
 dsimp only[Reg2.rows,Reg2.mk,List.zip,List.zipWith,List.take]
 repeat(refine' Reg2.ak _ (by rfl) (fun wz=>?_) ?_;rotate_left;(go_simp;first|rfl|rw[qai (by omega)]);simp only[Act.put,xA,xB,xC];(try simp only[xD]);(try simp only[xE]))
 refine Reg2.aB ?_;intro w3 HI3 _ rJ;clear rJ hov;have ho3:=bF ho HI3;have hv3:nO w3 vb x:=hv.off (p:=g) (q:=g) (Off.of_below HI3) ⟨hne,hne⟩;obtain⟨ys,hys,IV⟩:=Et ho3 hr;have hpl:=eu L;have hdl:(aN (L.drop k)).length=(L.length-k)*2:=by rw[eu,List.length_drop]
 obtain⟨w4,hcp1,uj,rO⟩:=uW (P:=prog) (sz:=2) 42 42 underlying42 (by kernel_rfl) IV ((k+1)*2) (aN (L.drop k)) (by omega) (qM _) ⟨g,k*2,none⟩ (L.length-k) hdl (fun j v hj=>by
  rw[ow,List.getElem?_drop]at hj;have:=ho3.cells (g:=g) rfl _ _ hj;rw[Go.WideShapes.add_plain]at this⊢;simpa using this)
 have hv4:nO w4 vb x:=hv3.off rO ⟨hne,hne⟩;obtain⟨w5,hcp2,Cq,qd⟩:=uW (P:=prog) (sz:=2) 42 42 underlying42 (by kernel_rfl) uj (k*2) (enc2 x) (by simp[enc2];omega) (yS x) ⟨vb,0,none⟩ 1 rfl hv4.cells;have hfin:w5.ownsRow 0 58 2 (.slice (some ⟨g,0,none⟩) (L.length+1) cap) (L.length+1) (aN (jI L k x)):=by
  have e1:((aN L++ys).take ((k+1)*2)++aN (L.drop k)++(aN L++ys).drop ((k+1)*2+(aN (L.drop k)).length)).take (k*2)++enc2 x++((aN L++ys).take ((k+1)*2)++aN (L.drop k)++(aN L++ys).drop ((k+1)*2+(aN (L.drop k)).length)).drop (k*2+(enc2 x).length)=aN (jI L k x):=by
   have hnil:(aN L++ys).drop ((k+1)*2+(aN (L.drop k)).length)=[]:=List.drop_eq_nil_of_le (by rw[List.length_append,hys,hpl,hdl];omega);rw[hnil,List.append_nil];have hA:((aN L++ys).take ((k+1)*2)).length=(k+1)*2:=by rw[List.length_take,List.length_append,hys,hpl];omega
   rw[List.take_append_of_le_length (by omega),List.take_take,Nat.min_eq_left (by omega),List.take_append_of_le_length (by omega)];rw[show k*2+(enc2 x).length=((aN L++ys).take ((k+1)*2)).length by rw[hA];simp[enc2];omega,List.drop_left];rw[uX,ow]
  rw[e1]at Cq;exact Cq
 have hpost:Hid (lT w g L k x (.returned (.slice (some ⟨g,0,none⟩) (L.length+1) cap)) w5):=⟨g,cap,rfl,.inl rfl,hfin,((Off.of_below HI3).trans rO (.inl rfl)).trans qd (.inl rfl)⟩;clear ho hv ho3 hv3 IV uj rO hv4 Cq qd hfin HI3 hys hpl hdl;dsimp only[List.drop];have hc2:=fun ty dc sc=>hcp2 ty (L.length+1-k) dc 1 sc (by simp only[Nat.min_def];split<;>omega);clear hcp2;show wpList _ _ _ [_] _ _;refine sI _ rfl _ _ _ _ rfl _ _ rfl rfl (hcp1 _ _ _ _ _ ?hm1) ?_
 case hm1=>simp only[Nat.min_def];split<;>omega
 clear hcp1;go_wp2_with fail;go_ret;exact hpost.out
end
section
variable {w : World} {g cap : Nat} {L : List (Int × Int)}
theorem yX (x:Int×Int)(k vb:Nat)(ho:w.ownsRow 0 58 2 (.slice (some ⟨g,0,none⟩) L.length cap) L.length (aN L))(hl:L.length≤1000)(hk:k<L.length)(hr:cap<L.length+1)(hv:nO w vb x):
 Calls prog 229 #[.slice (some ⟨g,0,none⟩) L.length cap,.int .i64 k,.slice (some ⟨vb,0,none⟩) 1 1] w (lT w g L k x):=by
 have nA:=iw;obtain⟨i0,hi0,hz0,hz1,hz2⟩:=info_parts lQ;obtain⟨_,_,hnc,hcm,_⟩:=fQ ho;obtain rfl:cap=L.length:=by omega
 clear hcm;have hgw:g<w.heap.size:=(ho.lt g rfl).2;have hvw:vb<w.heap.size:=gV hv;have hpl:=eu L;have hold:(Builtin.firstCells i0.size k (.slice (some ⟨g,0,none⟩) k L.length)).run prog w.drew=.ok (aN (L.take k)).toArray w.drew:=by
  rw[hz1];exact run_firstCells_some w.drew 2 k ⟨g,0,none⟩ k L.length (aN (L.take k)) (by rw[eu,List.length_take];omega) (fun j v hj=>by
   rw[uV,List.getElem?_take]at hj;split at hj
   ·exact ho.cells (g:=g) rfl _ _ hj
   ·cases hj)
 have hik:k+(L.length+1-k)=L.length+1:=by omega
 have hkk:(L.length:Int)+1-(k:Int)=((L.length+1-k:Nat):Int):=by omega
 have hrz:∀ty,(Builtin.append_ #[42,3] ty #[.slice (some ⟨g,0,none⟩) k L.length,.int .i64 ((L.length:Int)+1-(k:Int))]).run prog w=
  .ok (.slice (some ⟨w.heap.size,0,none⟩) (L.length+1) (grownCap w (L.length+1) L.length 58)) (w.drew.alloc (.cells ((aN (L.take k)).toArray++Builtin.zeroCells (Value.agg #[.int .i64 0,.int .i64 0]).cells (L.length+1-k)++Builtin.zeroCells (Value.agg #[.int .i64 0,.int .i64 0]).cells (grownCap w (L.length+1) L.length 58-(L.length+1))) 58)):=fun ty=>by
  have h:=Lib.run_append_grow_zeros (P:=prog) w 42 3 ty 58 i0 _ .i64 .i64 underlying42 underlying3 hi0 hz0 (some ⟨g,0,none⟩) k L.length (aN (L.take k)) hold (L.length+1-k) (by omega) (by omega) (by omega) (by omega) (by rw[hz2];omega) (by rw[hz2,hik];exact growslice_fits hr (by omega));rw[hik]at h;rw[hkk];exact h
 obtain⟨G,hG⟩:=qaa (grownCap w (L.length+1) L.length 58);have hGn:L.length+1≤G:=by rw[hG];exact grownCap_ge w _ _ _
 have Xq:G≤maxLen:=by rw[hG];exact grownCap_le_maxLen w _ _ _ (by unfold maxLen;omega)
 have hG63:G≤9223372036854775807:=by unfold maxLen at Xq;omega
 rw[←hG]at hrz;obtain⟨ROW,hROW⟩:∃ROW:Array Value,ROW=(aN (L.take k)).toArray++Builtin.zeroCells (Value.agg #[.int .i64 0,.int .i64 0]).cells (L.length+1-k)++Builtin.zeroCells (Value.agg #[.int .i64 0,.int .i64 0]).cells (G-(L.length+1)):=⟨_,rfl⟩;rw[←hROW]at hrz;obtain⟨Z,hZ⟩:∃Z:List Value,Z=(Builtin.zeroCells (Value.agg #[.int .i64 0,.int .i64 0]).cells (L.length+1-k)).toList:=⟨_,rfl⟩;have Ui:Z.length=(L.length+1-k)*2:=by rw[hZ,Array.length_toList,size_zeroCells];rfl
 have htl:(aN (L.take k)).length=k*2:=by rw[eu,List.length_take];omega
 obtain⟨W1,hW1⟩:=qaa (w.drew.alloc (.cells ROW 58));rw[←hW1]at hrz;have IV:W1.ownsRow 0 58 2 (.slice (some ⟨w.heap.size,0,none⟩) (L.length+1) G) (L.length+1) (aN (L.take k)++Z):=by
  rw[hW1];refine⟨by rw[List.length_append,htl,Ui];omega,.inr ⟨w.heap.size,G,ROW,rfl,Nat.zero_le _,heap_alloc_new w.drew _,hGn,Xq,?_,?_⟩⟩
  ·rw[hROW,Array.size_append,Array.size_append,size_zeroCells,size_zeroCells,List.size_toArray,htl];have:(Value.agg #[Value.int .i64 0,Value.int .i64 0]).cells.size=2:=rfl;rw[this];omega
  ·rw[hROW,Array.toList_append,Array.toList_append,←hZ];have:(L.length+1)*2=((aN (L.take k)).toArray.toList++Z).length:=by rw[List.length_append,Ui];simp only[htl];omega
   rw[this,List.take_left]
 have hb1:Below w.heap.size w W1:=by rw[hW1];exact((Below.refl _ w).drew).alloc (qaf _) _
 have hv1:nO W1 vb x:=hv.off (p:=w.heap.size) (q:=w.heap.size) (Off.of_below hb1) ⟨by omega,by omega⟩;obtain⟨W2,hcp1,ho2,qf⟩:=uW (P:=prog) (sz:=2) 42 42 underlying42 (by kernel_rfl) IV (k*2) (enc2 x) (by simp[enc2];omega) (yS x) ⟨vb,0,none⟩ 1 rfl hv1.cells;have hdl:(aN (L.drop k)).length=(L.length-k)*2:=by rw[eu,List.length_drop]
 have hfin:∀W:World,W.ownsRow 0 58 2 (.slice (some ⟨w.heap.size,0,none⟩) (L.length+1) G) (L.length+1) (((aN (L.take k)++Z).take (k*2)++enc2 x++(aN (L.take k)++Z).drop (k*2+(enc2 x).length)).take ((k+1)*2)++aN (L.drop k)++((aN (L.take k)++Z).take (k*2)++enc2 x++(aN (L.take k)++Z).drop (k*2+(enc2 x).length)).drop ((k+1)*2+(aN (L.drop k)).length))→W.ownsRow 0 58 2 (.slice (some ⟨w.heap.size,0,none⟩) (L.length+1) G) (L.length+1) (aN (jI L k x)):=by
  intro W hW;have e1:((aN (L.take k)++Z).take (k*2)++enc2 x++(aN (L.take k)++Z).drop (k*2+(enc2 x).length)).take ((k+1)*2)++aN (L.drop k)++((aN (L.take k)++Z).take (k*2)++enc2 x++(aN (L.take k)++Z).drop (k*2+(enc2 x).length)).drop ((k+1)*2+(aN (L.drop k)).length)=aN (jI L k x):=by
   have hA:(aN (L.take k)++Z).take (k*2)=aN (L.take k):=by rw[←htl,List.take_left]
   rw[hA];have hB:(aN (L.take k)++enc2 x++(aN (L.take k)++Z).drop (k*2+(enc2 x).length)).drop ((k+1)*2+(aN (L.drop k)).length)=[]:=List.drop_eq_nil_of_le (by
    simp only[List.length_append,List.length_drop,htl,Ui,hdl];simp[enc2];omega)
   have hC:(aN (L.take k)++enc2 x).length=(k+1)*2:=by rw[List.length_append,htl];simp[enc2];omega
   rw[hB,List.append_nil,←hC,List.take_left,uX,uV,ow]
  rw[e1]at hW;exact hW
 have hpost:Hid (∀(W3 W4:World),Below W2.heap.size W2 W3→W4.ownsRow 0 58 2 (.slice (some ⟨w.heap.size,0,none⟩) (L.length+1) G) (L.length+1) (aN (jI L k x))→Off w.heap.size w.heap.size W3 W4→lT w g L k x (.returned (.slice (some ⟨w.heap.size,0,none⟩) (L.length+1) G)) W4):=by
  intro W3 W4 h3 h4 h5;refine⟨w.heap.size,G,rfl,.inr (qaf _),h4,?_⟩;have hall:Below w.heap.size w W4:=(hb1.trans (qf.below (qaf _) (qaf _) hb1.size)).trans ((h3.mono (Nat.le_trans hb1.size qf.size)).trans (h5.below (qaf _) (qaf _) (Nat.le_trans hb1.size (Nat.le_trans qf.size h3.size))));exact Off.of_below hall
 have hsrc:Hid (∀(W3:World),Below W2.heap.size W2 W3→∀j v,(aN (L.drop k))[j]? =some v→W3.cell? ((⟨g,k*2,none⟩:Addr).add j)=some v):=by
  intro W3 h3 j v hj;rw[ow,List.getElem?_drop]at hj;have:=ho.cells (g:=g) rfl _ _ hj;rw[Go.WideShapes.add_plain]at this⊢;have Xr:g<W2.heap.size:=by have:=qf.size;have:=hb1.size;omega
  rw[h3.cell (p:=⟨g,_,none⟩) Xr,qf.cell (a:=⟨g,_,none⟩) (by have:=hb1.size;show g<_;omega) (by show g≠_;omega) (by show g≠_;omega),hb1.cell (p:=⟨g,_,none⟩) hgw];simpa using this
 have hc1:=fun ty dc sc=>hcp1 ty (L.length+1-k) dc 1 sc (by simp only[Nat.min_def];split<;>omega);have w1:IntKind.i64.wrap ((L.length:Int)+1)=(L.length:Int)+1:=IntWalk.i64_in _ (by omega);have w2:IntKind.i64.wrap ((k:Int)+1)=(k:Int)+1:=IntWalk.i64_in _ (by omega);have w3':IntKind.i64.wrap ((L.length:Int)+1-(k:Int))=(L.length:Int)+1-(k:Int):=IntWalk.i64_in _ (by omega);have b0:(0:Int)≤(k:Int):=by omega
 have b1:¬((k:Int)=(L.length:Int)):=by omega
 have b2:(k:Int)≤(L.length:Int):=by omega
 have b3:((L.length:Int)<(L.length:Int)+1):=by omega
 have b4:¬(L.length=k):=by omega
 have b5:¬(G=k):=by omega
 have b6:¬(G=k+1):=by omega
 have b7:(0:Int)≤(k:Int)+1:=by omega
 have b8:((k:Int)+1).toNat=k+1:=by omega
 have b9:(k:Int)+1≤(L.length:Int)+1:=by omega
 have b10:(k:Int)≤(L.length:Int)+1:=by omega
 have b11:k≤L.length+1:=by omega
 have b12:k+1≤L.length+1:=by omega
 have U0:=qae ho2;have Q8:=qae hfin;clear ho hr hcp1 hkk hik hold hROW hG hZ Ui IV hb1 hv1 hv hfin ho2 qf hW1 hpl htl;replace hdl:=qae hdl;go_enter func229,ntmps229;go_wp2_with (at_builtin;refine Lib.wpList_append_run _ rfl _ _ _ _ rfl _ _ rfl rfl _ _ (hrz _) ?_);refine Reg2.sO 8 95 (Reg2.rows 0 [.p 0,.p 0,.p 0,.p 6,.p 15,.p 0,.p 0,.p 96]) [0,0,0,0,0,0,0,0]
  [.pure,.pure,.pure,.pure,.pure,.pure,.pure,.pure]
  (fun W=>Below W2.heap.size W2 W) (fun _ _=>True) (fun _ _=>False) (by kernel_rfl) (by kernel_rfl) rfl rfl (fun _ _ _ _ h=>h) ?_ ?_ ?_ ?_ ?_ ?_
 ·intro w1 w2 he hb;exact hb.trans (he.mono hb.size)
 ·intro _ _ h;exact h.elim
 ·refine⟨trivial,trivial,trivial,trivial,trivial,trivial,trivial,trivial,trivial⟩
 ·exact qac.drew
 ·exact trivial
 dsimp only[Reg2.rows,Reg2.mk,List.zip,List.zipWith,List.take]
 repeat(refine' Reg2.ak _ (by rfl) (fun wz=>?_) ?_;rotate_left;(go_simp;first|rfl|rw[qai (by omega)]);simp only[Act.put,xA,xB,xC];(try simp only[xD]);(try simp only[xE]))
 refine Reg2.aB ?_;intro w3 HI3 _ rJ;clear rJ;have ho3:=bF U0.out HI3;obtain⟨w4,hcp2,uj,rO⟩:=uW (P:=prog) (sz:=2) 42 42 underlying42 (by kernel_rfl) ho3 ((k+1)*2) (aN (L.drop k)) (by rw[hdl.out];omega) (qM _) ⟨g,k*2,none⟩ (L.length-k) hdl.out (hsrc.out w3 HI3);have hp:=hpost.out w3 w4 HI3 (Q8.out w4 uj) rO;replace hp:=qae hp;clear hpost ho3 uj rO hsrc Q8 U0 HI3;dsimp only[List.drop];show wpList _ _ _ [_] _ _;refine sI _ rfl _ _ _ _ rfl _ _ rfl rfl (hcp2 _ _ _ _ _ ?hm1) ?_
 case hm1=>simp only[Nat.min_def];split<;>omega
 clear hcp2 hc1 hrz;go_wp2_with fail;go_ret;exact hp.out
theorem IW (x:Int×Int)(k vb:Nat)(ho:w.ownsRow 0 58 2 (.slice (some ⟨g,0,none⟩) L.length cap) L.length (aN L))(hl:L.length≤1000)(hk:k≤L.length)(hv:nO w vb x)(hne:vb≠g):
 Calls prog 229 #[.slice (some ⟨g,0,none⟩) L.length cap,.int .i64 k,.slice (some ⟨vb,0,none⟩) 1 1] w (lT w g L k x):=by
 by_cases hlt:k<L.length
 ·by_cases hr:L.length+1≤cap
  ·exact yV x k vb ho hl hlt hr hv hne
  ·exact yX x k vb ho hl hlt (by omega) hv
 ·obtain rfl:k=L.length:=by omega
  by_cases hr:L.length+1≤cap
  ·exact yT x vb ho hl hr hv
  ·exact yU x vb ho hl (by omega) hv
end
section
variable {w : World} {p g : Nat} {L : List (Int × Int)} {aF now : Int} {f : Int → Int}
theorem Gi {g' cap':Nat}{L':List (Int×Int)}{s:Value}(h1:w.heap[p]? =some (.cells #[s,.int .i64 aF] 125 (0,0)))(h2:w.ownsRow 0 58 2 (.slice (some ⟨g',0,none⟩) L'.length cap') L'.length (aN L')):
 PW (w.setCell ⟨p,0,none⟩ (.slice (some ⟨g',0,none⟩) L'.length cap')) p g' L' aF:=by
 obtain⟨cur,hg,_,_,_,_⟩:=fQ h2;have Y0:p≠g':=aT h1 hg (by decide);have hlt:=gV h1;refine⟨cap',?_,sV h2 (fun k hk=>by cases hk;exact fun e=>Y0 e.symm) 0 _⟩;have h1':w.heap[p]=.cells #[s,.int .i64 aF] 125 (0,0):=(Array.getElem?_eq_some_iff.1 h1).2;simp[World.setCell,hlt,Array.getElem_modify,h1']
theorem Q9 (i:Nat)(h:PW w p g L aF)(hl:L.length≤1000)(hil:i≤L.length)(hno:¬(0<i∧i<L.length∧tV L i=tV L (i-1))):
 Calls prog 207 #[.pointer (some ⟨p,0,none⟩),.int .i64 i] w fun e w'=>e=.returned (.tuple #[])∧Below w.heap.size w w':=by
 have nA:=iw;obtain⟨cap,F⟩:=h.facts;have c0:=F.c0;have pl:=F.pl;have hbe:Below w.heap.size w w:=Below.refl _ _;by_cases h0:0<i
 ·have d0:decide ((0:Int)<(i:Int))=true:=qag (by omega);by_cases h1:i<L.length
  ·have d1:decide ((i:Int)<(L.length:Int))=true:=qag (by omega);have hne:tV L i≠tV L (i-1):=fun e=>hno ⟨h0,h1,e⟩;obtain⟨q,hq⟩:∃q,q=i-1:=⟨i-1,rfl⟩;rw[←hq]at hne;have s1:=(step_cells F.own h1).2;have s0:=(step_cells F.own (show q<L.length by omega)).2;obtain⟨x,hx⟩:=qaa (tV L i);obtain⟨y,hy⟩:=qaa (tV L q);rw[←hx]at s1 hne;rw[←hy]at s0 hne;replace hx:=qae hx;replace hy:=qae hy;have e1:(x == y)=false:=beq_eq_false_iff_ne.2 hne;have hw:IntKind.i64.wrap ((i:Int)-1)=(q:Int):=by rw[IntWalk.i64_in _ (by omega)];omega
   have b1:(0:Int)≤(i:Int):=by omega
   have b2:(i:Int)<(L.length:Int):=by omega
   have b3:(0:Int)≤(q:Int):=by omega
   have b4:(q:Int)<(L.length:Int):=by omega
   replace hq:=qae hq;clear hno h F hne;go_enter func207,ntmps207;go_wp2_with fail;go_quiet (fail);go_wp2_with fail;go_end0;exact⟨rfl,below_drewN hbe nq⟩
  ·have d1:decide ((i:Int)<(L.length:Int))=false:=qah (by omega);clear hno h F;go_enter func207,ntmps207;go_wp2_with fail;go_quiet (fail);go_wp2_with fail;go_end0;exact⟨rfl,below_drewN hbe nq⟩
 ·obtain rfl:i=0:=by omega
  have d0:decide ((0:Int)<((0:Nat):Int))=false:=by decide
  clear hno h F;go_enter func207,ntmps207;go_wp2_with fail;go_quiet (fail);go_wp2_with fail;go_end0;exact⟨rfl,below_drewN hbe nq⟩
theorem OQ (i:Nat)(h:PW w p g L aF)(hl:L.length≤1000)(h0:0<i)(h1:i<L.length)(he:tV L i=tV L (i-1)):
 Calls prog 207 #[.pointer (some ⟨p,0,none⟩),.int .i64 i] w fun e w'=>e=.returned (.tuple #[])∧PW w' p g (qo L i) aF∧Off p g w w':=by
 have nA:=iw;obtain⟨cap,F⟩:=h.facts;have c0:=F.c0;have pl:=F.pl;have hbe:Below w.heap.size w w:=Below.refl _ _;have d0:decide ((0:Int)<(i:Int))=true:=qag (by omega);have d1:decide ((i:Int)<(L.length:Int))=true:=qag (by omega);obtain⟨q,hq⟩:∃q,q=i-1:=⟨i-1,rfl⟩;rw[←hq]at he;have s1:=(step_cells F.own h1).2;have s0:=(step_cells F.own (show q<L.length by omega)).2;rw[←he]at s0;obtain⟨x,hx⟩:=qaa (tV L i);rw[←hx]at s1 s0;replace hx:=qae hx;have e1:(x == x)=true:=by simp
 have hw:IntKind.i64.wrap ((i:Int)-1)=(q:Int):=by rw[IntWalk.i64_in _ (by omega)];omega
 have hw2:IntKind.i64.wrap ((i:Int)+1)=(i:Int)+1:=IntWalk.i64_in _ (by omega);have b1:(0:Int)≤(i:Int):=by omega
 have b2:(i:Int)<(L.length:Int):=by omega
 have b3:(0:Int)≤(q:Int):=by omega
 have b4:(q:Int)<(L.length:Int):=by omega
 replace hq:=qae hq;replace he:=qae he;clear F;go_enter func207,ntmps207;go_wp2_with fail;go_quiet (fail);have hb2:Below w.heap.size w (w.drewN nq):=below_drewN hbe nq;obtain⟨wq,hwq⟩:=qaa (w.drewN nq);rw[←hwq]at hb2⊢;clear hwq c0 s0 s1;have hq2:=h.kept hb2;obtain⟨cap2,F2⟩:=hq2.facts;have c0:=F2.c0;have Lj:=zT i (i+1) F2.own hl (by omega) (by omega);rw[show((i+1:Nat):Int)=(i:Int)+1 by omega]at Lj;obtain⟨n,hn⟩:=qaa ((qo L i).length);have hdel:Calls prog 230 #[.slice (some ⟨g,0,none⟩) L.length cap2,.int .i64 i,.int .i64 ((i:Int)+1)] wq fun e w'=>e=.returned (.slice (some ⟨g,0,none⟩) n cap2)∧w'.ownsRow 0 58 2 (.slice (some ⟨g,0,none⟩) n cap2) n (aN (qo L i))∧Off g g wq w':=by rw[hn];exact Lj
 clear Lj;have hwp:Hid (∀(w2:World),w2.ownsRow 0 58 2 (.slice (some ⟨g,0,none⟩) n cap2) n (aN (qo L i))→Off g g wq w2→PW (w2.setCell ⟨p,0,none⟩ (.slice (some ⟨g,0,none⟩) n cap2)) p g (qo L i) aF∧Off p g w (w2.setCell ⟨p,0,none⟩ (.slice (some ⟨g,0,none⟩) n cap2))∧w2.cell? ⟨p,0,none⟩=wq.cell? ⟨p,0,none⟩∧w2.frozen? ⟨p,0,none⟩=false):=by
  intro w2 ho2 hoff;subst hn;have hp2:=F2.obj;rw[←hoff.block p F2.pl F2.pg F2.pg]at hp2;refine⟨Gi hp2 ho2,((Off.of_below hb2).trans hoff.mono (.inl rfl)).setCell (.inl rfl),hoff.cell (a:=⟨p,0,none⟩) F2.pl F2.pg F2.pg,by simp[World.frozen?,hp2]⟩
 replace hn:=qae hn;clear h hq2 F2 hb2 hbe;go_wp2_with fail;go_at_call 230;refine hdel.mono ?_;clear hdel;rintro e w2 ⟨rfl,ho2,hoff⟩;obtain⟨r1,r2,r3,r4⟩:=hwp.out w2 ho2 hoff;rw[←r3]at c0;replace r1:=qae r1;replace r2:=qae r2;clear hwp ho2 hoff r3;go_wp2_with fail;go_end0;exact⟨rfl,r1.out,r2.out⟩
end
section
variable {w : World} {p g : Nat} {L : List (Int × Int)} {aF now : Int} {f : Int → Int}
theorem Gj (h:PW w p g L aF):Calls prog 206 #[.pointer (some ⟨p,0,none⟩),.int .i64 1152921504606846976] w fun e w'=>e=.returned (.int .i64 L.length)∧w=w':=by
 obtain⟨cap,F⟩:=h.facts;have c0:=F.c0;clear F h;go_enter func206,ntmps206;go_wp2_with fail;go_ret;exact⟨rfl,rfl⟩
theorem Ll (t:Int){i:Nat}(ht:t<1152921504606846976)(hi:ic L t i)(he:tA L i=t)(hs:Sm L now f)(hl:L.length≤1000)(h:PW w p g L aF):
 Calls prog 206 #[.pointer (some ⟨p,0,none⟩),.int .i64 t] w fun e w'=>e=.returned (.int .i64 i)∧Below w.heap.size w w':=by
 have hat:=wL t hi hs hl h;have hil:=hi.lt;have hne:(t == 1152921504606846976)=false:=beq_eq_false_iff_ne.2 (by omega);have b1:(0:Int)≤i:=by omega
 have b2:(i:Int)<(L.length:Int):=by omega
 replace hi:=qae hi;replace he:=qae he;go_enter func206,ntmps206;go_wp2_with fail;go_at_call 131;refine hat.mono ?_;clear hat;rintro e w2 ⟨rfl,hb⟩;obtain⟨cap,F⟩:=(h.kept hb).facts;have c0:=F.c0;have s0:=(step_cells F.own hil).1;rw[he.out]at s0;clear F;go_wp2_with fail;go_ret;exact⟨rfl,hb⟩
def IX (w:World)(g:Nat)(L:List (Int×Int))(k:Nat)(x:Int×Int):List Value→World→Prop
 | [],W=>Below w.heap.size w W
 |v::_,W=>∃g' cap',v=.slice (some ⟨g',0,none⟩) (L.length+1) cap'∧(g'=g∨w.heap.size≤g')∧W.ownsRow 0 58 2 (.slice (some ⟨g',0,none⟩) (L.length+1) cap') (L.length+1) (aN (jI L k x))∧Off g g w W
theorem IX.ext {w:World}{g:Nat}{L:List (Int×Int)}{k:Nat}{x:Int×Int}:∀(vs:List Value) (W W':World),Reg2.Ext W W'→IX w g L k x vs W→IX w g L k x vs W':=by
 intro vs W W' he h;cases vs with
 |nil=>exact Below.trans h (he.mono (Below.size h))
 |cons v vs=>
  obtain⟨g',cap',h1,h2,h3,h4⟩:=h;exact⟨g',cap',h1,h2,bF h3 he,h4.nD he⟩
theorem Ra (t:Int){i:Nat}(ht:t<1152921504606846976)(hi:ic L t i)(he:tA L i≠t)(hs:Sm L now f)(hl:L.length≤900)(h:PW w p g L aF):
 Calls prog 206 #[.pointer (some ⟨p,0,none⟩),.int .i64 t] w fun e w'=>e=.returned (.int .i64 ((i:Int)+1))∧∃g',PW w' p g' (jI L (i+1) (t,tV L i)) aF∧(g'=g∨w.heap.size≤g')∧Off p g w w':=by
 have nA:=iw;have hat:=wL t hi hs (by omega) h;have hil:=hi.lt;have hne:(t == 1152921504606846976)=false:=beq_eq_false_iff_ne.2 (by omega);have b1:(0:Int)≤i:=by omega
 have b2:(i:Int)<(L.length:Int):=by omega
 obtain⟨k,hk⟩:=qaa (i+1);obtain⟨fv,Uj⟩:=qaa (tV L i);obtain⟨av,Uk⟩:=qaa (tA L i);rw[←Uk]at he;have e1:(av == t)=false:=beq_eq_false_iff_ne.2 he;have hw1:IntKind.i64.wrap ((i:Int)+1)=(k:Int):=by rw[IntWalk.i64_in _ (by omega)];omega
 have hk2:Hid ((i:Int)+1=(k:Int)):=by show _=_;omega
 have hkl:k≤L.length:=by omega
 rw[←hk,←Uj];rw[hk2.out];replace hi:=qae hi;replace he:=qae he;replace hk:=qae hk;replace Uj:=qae Uj;replace Uk:=qae Uk;go_enter func206,ntmps206;go_wp2_with fail;go_at_call 131;refine hat.mono ?_;clear hat;rintro e w1 ⟨rfl,hb1⟩;obtain⟨cap,F⟩:=(h.kept hb1).facts;have c0:=F.c0;have s0:=(step_cells F.own hil).1;rw[←Uk.out]at s0;have pl:=F.pl;have pg:=F.pg;have sJ:=F.own;have IY:=F.obj;clear F h;go_wp2_with fail;refine Reg2.sO 19 50 (Reg2.rows 0 [.p 0,.p 0,.p 2,.p 6,.p 14,.p 0,.p 32,.p 0,.p 0,.p 256,.p 768,.p 1792,.p 0,.p 7936,.p 16128,.p 32512,.p 65408,.p 130944,.p 262142]) [0,0,0,0,1,0,0,0,0,0,0,1,0,0,0,2,0,1,3]
  [.pure,.pure,.pure,.pure,.mU (.slice (some ⟨g,0,none⟩) L.length cap),.pure,.pure,.pure,.pure,.pure,.pure,.mU (.slice (some ⟨g,0,none⟩) L.length cap),.pure,.pure,.pure,.pinned Unit () (fun _=>.int .i64 fv) (fun _ _=>True),.pure,.minor Nat 0 (fun b=>.slice (some ⟨b,0,none⟩) 1 1) (fun b W=>nO W b (t,fv)∧b≠g),.major Value undef id]
  (fun W=>Off g g w1 W) (IX w1 g L k (t,fv)) (fun W W'=>Off g g W W') (by kernel_rfl) (by kernel_rfl) rfl rfl IX.ext ?_ ?_ ?_ ?_ ?_ ?_
 ·intro a b he hb;exact hb.nD he
 ·intro a b hg hb;exact hb.trans hg (.inl rfl)
 ·refine⟨trivial,trivial,trivial,trivial,⟨?_,?_⟩,trivial,trivial,trivial,trivial,trivial,trivial,⟨?_,?_⟩,trivial,trivial,trivial,⟨?_,?_⟩,trivial,⟨?_,?_⟩,trivial,trivial⟩
  all_goals(intro x a b hk hx;first|exact trivial|exact⟨hx.1.off (p:=g) (q:=g) (Off.of_below hk) ⟨hx.2,hx.2⟩,hx.2⟩|exact⟨hx.1.off hk ⟨hx.2,hx.2⟩,hx.2⟩)
 ·exact(Off.refl _ _ _).drew
 ·exact qac.drew
 dsimp only[Reg2.rows,Reg2.mk,List.zip,List.zipWith,List.take]
 repeat(refine' Reg2.ak _ (by rfl) (fun wz=>?_) ?_;rotate_left;(go_simp;first|rfl|rw[qai (by omega)]);simp only[Act.put,xA,xB,xC];(try simp only[xD]);(try simp only[xE]))
 refine Reg2.pm (fun wz hI hF=>?_) (fun x4=>?_) (by rfl)
 ·have d0:wz.cell? ⟨p,0,none⟩=_:=(hI.cell (a:=⟨p,0,none⟩) pl pg pg).trans c0;go_wp2_with fail;exact⟨_,rfl,⟨(),rfl,trivial⟩,qad⟩
 simp only[Act.put,xA,xB,xC,xD,xE,id]
 repeat(refine' Reg2.ak _ (by rfl) (fun wz=>?_) ?_;rotate_left;(go_simp;first|rfl|rw[qai (by omega)]);simp only[Act.put,xA,xB,xC];(try simp only[xD]);(try simp only[xE]))
 refine Reg2.pm (fun wz hI hF=>?_) (fun Xt=>?_) (by rfl)
 ·have d0:wz.cell? ⟨p,0,none⟩=_:=(hI.cell (a:=⟨p,0,none⟩) pl pg pg).trans c0;go_wp2_with fail;exact⟨_,rfl,⟨(),rfl,trivial⟩,qad⟩
 simp only[Act.put,xA,xB,xC,xD,xE,id]
 repeat(refine' Reg2.ak _ (by rfl) (fun wz=>?_) ?_;rotate_left;(go_simp;first|rfl|rw[qai (by omega)]);simp only[Act.put,xA,xB,xC];(try simp only[xD]);(try simp only[xE]))
 refine Reg2.pp (fun wz hI hS hF=>?_) (fun x15=>?_) (by rfl)
 ·have hS1:Below w1.heap.size w1 wz:=hS;have d1:=(step_cells (bF sJ hS1) hil).2;rw[←Uj.out]at d1;go_wp2_with fail;exact⟨_,rfl,⟨(),rfl,trivial⟩,qad⟩
 simp only[Act.put,xA,xB,xC,xD,xE,id]
 repeat(refine' Reg2.ak _ (by rfl) (fun wz=>?_) ?_;rotate_left;(go_simp;first|rfl|rw[qai (by omega)]);simp only[Act.put,xA,xB,xC];(try simp only[xD]);(try simp only[xE]))
 refine Reg2.pm (fun wz hI hF=>?_) (fun x17=>?_) (by rfl)
 ·go_wp2_with fail;exact⟨_,rfl,⟨wz.heap.size,rfl,heap_alloc_new wz _,by have:=hI.size;have:=(sJ.lt g rfl).2;omega⟩,qac.alloc (qaf _) _⟩
 simp only[Act.put,xA,xB,xC,xD,xE,id];refine Reg2.pj (fun wz hI hS hF=>?_) (fun x18=>?_) (by rfl)
 ·have hS1:Below w1.heap.size w1 wz:=hS;have hone:=hF.2.2.2.2.2.2.2.2.2.2.2.2.2.2.2.2.1;go_wp2_with (go_at_call 229;go_must (refine(IW (t,fv) k _ (bF sJ hS1) (by omega) hkl hone.1 hone.2).mono ?_);rintro e w5 ⟨g5,cap5,rfl,h51,VR,Rb⟩);exact⟨_,rfl,⟨⟨_,rfl⟩,⟨g5,cap5,rfl,by have:=hS1.size;omega,VR,(Off.of_below hS1).trans Rb (.inl rfl)⟩⟩,Rb⟩
 simp only[Act.put,xA,xB,xC,xD,xE,id];refine Reg2.aB ?_;intro w3 HI3 KX _;obtain⟨g',cap',rfl,hg',ho3,rP⟩:=KX;have hp3:=IY;rw[←rP.block p pl pg pg]at hp3;have d0:w3.cell? ⟨p,0,none⟩=_:=(rP.cell (a:=⟨p,0,none⟩) pl pg pg).trans c0;have dz:w3.frozen? ⟨p,0,none⟩=false:=by simp[World.frozen?,hp3]
 have hlen:=nQ (L:=L) (k:=k) (x:=(t,fv)) hkl;obtain⟨n,hn⟩:=qaa (L.length+1);have hfin:Hid (PW (w3.setCell ⟨p,0,none⟩ (.slice (some ⟨g',0,none⟩) (L.length+1) cap')) p g' (jI L k (t,fv)) aF):=by
  rw[←hlen]at ho3⊢;exact Gi hp3 ho3
 have hoff:Hid (Off p g w (w3.setCell ⟨p,0,none⟩ (.slice (some ⟨g',0,none⟩) (L.length+1) cap'))):=((Off.of_below hb1).trans rP.mono (.inl rfl)).setCell (.inl rfl);have hgg:Hid (g'=g∨w.heap.size≤g'):=by show _∨_;have:=hb1.size;omega
 clear HI3 ho3 rP hp3 hlen c0 s0 sJ IY hg' hn;dsimp only[List.drop];go_wp2_with fail;go_ret;exact⟨rfl,g',hfin.out,hgg.out,hoff.out⟩
end
end Go.Proofs.YtaimcpmcndapcaaGreat
