/-
 Own words and walks, merged: part 2 of 10.
-/
import Derived.WalkKit
import Derived.Orders
import Derived.BigQuiet
import Derived.Test.YtaimcpmcndapcaaGreatCp1
set_option maxRecDepth 1000000
set_option maxHeartbeats 8000000
set_option linter.all false

namespace Go.Proofs.YtaimcpmcndapcaaGreat
open Go.Proofs.Tryz
open Go.RowKit
namespace Reg2
inductive Kind : Type 1 where
 |pure
 |minor (α:Type) (d:α) (val:α→Value) (Post:α→World→Prop)
 |pinned (α:Type) (d:α) (val:α→Value) (Post:α→World→Prop)
 |major (α:Type) (d:α) (val:α→Value)
variable (P : Program) (ops : Array Oper)
def slot (o:Oper)(a:Act):Value:=match o.dst with|some d=>a.tmps.getD d undef|none=>undef
def Ext (w w':World):Prop:=Below w.heap.size w w'
def Done (o:Oper)(R:Value→World→Prop)(a0:Act):Exit→Act→World→Prop
 |.normal,a,w=>∃v,a=a0.put o.dst v∧R v w
 |_,_,_=>False
def One (o:Oper)(a:Act)(w:World)(R:Value→World→Prop):Prop:=wpList P ops (Done o R a) [o] a w
def mf :World→Prop:=fun _=>True
def facts (w:World):List Bool→List (World→Prop)→Prop
 |true::bs,f::fs=>f w∧facts w bs fs
 |false::bs,_::fs=>facts w bs fs
 |_,_=>True
def wW (w:World):List (World→Prop)→Prop
 |f::fs=>f w∧wW w fs
 | []=>True
variable (I : World → Prop) (S : List Value → World → Prop) (G : World → World → Prop) (fin : Act → List (World → Prop) → List Value → Prop)
def opPass (o:Oper)(m:List Bool)(a:Act)(F:List (World→Prop))(vs:List Value)(nx:Act→List (World→Prop)→List Value→Prop):Kind→Prop
 |.pure=>∃v:Value,Yields P ops o v a∧nx (a.put o.dst v) (F++[mf]) vs
 |.minor α _ val Post=>
  (Region.wanted o (yielded ops a.tmps)=true→(∀w,I w→facts w m F→One P ops o a w fun v w'=>(∃x:α,v=val x∧Post x w')∧Ext w w')∧∀x:α,nx (a.put o.dst (val x)) (F++[Post x]) vs)∧
  (Region.wanted o (yielded ops a.tmps)=false→nx (a.put o.dst undef) (F++[mf]) vs)
 |.pinned α _ val Post=>
  (Region.wanted o (yielded ops a.tmps)=true→(∀w,I w→S vs w→facts w m F→One P ops o a w fun v w'=>(∃x:α,v=val x∧Post x w')∧Ext w w')∧∀x:α,nx (a.put o.dst (val x)) (F++[Post x]) vs)∧
  (Region.wanted o (yielded ops a.tmps)=false→nx (a.put o.dst undef) (F++[mf]) vs)
 |.major α _ val=>
  (Region.wanted o (yielded ops a.tmps)=true→(∀w,I w→S vs w→facts w m F→One P ops o a w fun v w'=>((∃x:α,v=val x)∧S (vs++[v]) w')∧G w w')∧∀x:α,nx (a.put o.dst (val x)) (F++[mf]) (vs++[val x]))∧
  (Region.wanted o (yielded ops a.tmps)=false→(∀w,I w→S vs w→S (vs++[undef]) w)∧nx (a.put o.dst undef) (F++[mf]) (vs++[undef]))
def pass :List (Oper×Kind×List Bool)→Act→List (World→Prop)→List Value→Prop
 | [],a,F,vs=>fin a F vs
 |x::r,a,F,vs=>opPass P ops I S G x.1 x.2.2 a F vs (pass r) x.2.1
def xV :Kind→Prop
 |.minor _ _ _ Post=>(∀x w w',Ext w w'→Post x w→Post x w')∧(∀x w w',G w w'→Post x w→Post x w')
 |.pinned _ _ _ Post=>(∀x w w',Ext w w'→Post x w→Post x w')∧(∀x w w',G w w'→Post x w→Post x w')
 |_=>True
def stays :List (Oper×Kind×List Bool)→Prop
 |x::r=>xV G x.2.1∧stays r
 | []=>True
def bU :Kind→Nat|.pure=>0|.minor .. =>1|.pinned .. =>2|.major .. =>3
def at2 (ms:List (List Bool))(i j:Nat):Bool:=(ms.getD i []).getD j false
def okRow (n:Nat)(ms:List (List Bool))(tags:List Nat)(i:Nat)(o:Oper):Bool:=
 (ms.getD i []).length == i&&(o.dst.isSome||tags.getD i 0 == 3)&&(match o.op with|.select _ _=>false|_=>true)&&
 o.after.all (fun e=>!Region.binds .any e||e.on<i)&&
 (List.range n).all fun j=>
  (!at2 ms i j||o.after.any fun e=>Region.binds .any e&&(e.on == j||at2 ms e.on j))&&
  (!at2 ms i j||(List.range n).all fun l=>!at2 ms j l||at2 ms i l)&&
  (match ops[j]? with
   |none=>false
   |some p=>(i == j|| !(o.dst == p.dst)|| !o.dst.isSome)&&(match p.dst with|some d=>!(o.looksAt ops).contains d||at2 ms i j|none=>true)&&
    (!((tags.getD i 0 == 3||tags.getD i 0 == 2)&&tags.getD j 0 == 3)||i == j||at2 ms i j||at2 ms j i))
def okB (n N:Nat)(ms:List (List Bool))(tags:List Nat):Bool:=
 (n≤ops.size)&&(List.range ops.size).all fun i=>match ops[i]? with
  |none=>false
  |some o=>if i<n then okRow ops n ms tags i o&&(match o.dst with|some d=>d<N|none=>true)
   else o.after.all (fun e=>!Region.binds .any e||e.on<i)&&(List.range i).all fun j=>o.after.any fun e=>Region.binds .any e&&(e.on == j||(decide (e.on<n)&&at2 ms e.on j)||(decide (n≤e.on)&&decide (j<e.on)))
def silent :Kind→Prop|.major _ _ val=>∀x,val x=undef|_=>False
structure Ok (n N : Nat) (ms : List (List Bool)) (all : List (Oper × Kind × List Bool)) : Prop where
 le:n≤ops.size
 len:all.length=n
 get:∀(i:Nat) (o:Oper) (k:Kind) (m:List Bool),all[i]? =some (o,k,m)→ops[i]? =some o∧m=ms.getD i []
 Fp:∀(i:Nat) (o:Oper),i<n→ops[i]? =some o→(ms.getD i []).length=i
 dst:∀(i:Nat) (o:Oper),i<n→ops[i]? =some o→∀d,o.dst=some d→d<N
 non:∀(i:Nat) (o:Oper) (k:Kind) (m:List Bool),all[i]? =some (o,k,m)→o.dst=none→silent k
 Va:∀(i:Nat) (o:Oper),i<n→ops[i]? =some o→∀cs b,o.op≠.select cs b
 back:∀(i:Nat) (o:Oper),ops[i]? =some o→∀e∈o.after,Region.binds .any e=true→e.on<i
 ahead:∀(i:Nat) (o:Oper) (j:Nat),i<n→ops[i]? =some o→at2 ms i j=true→∃e∈o.after,Region.binds .any e=true∧(e.on=j∨at2 ms e.on j=true)
 trans:∀(i j l:Nat),i<n→at2 ms i j=true→at2 ms j l=true→at2 ms i l=true
 apart:∀(i j:Nat) (o p:Oper),i<n→j<n→i≠j→ops[i]? =some o→ops[j]? =some p→∀d,o.dst=some d→p.dst≠some d
 looks:∀(i j:Nat) (o p:Oper) (d:Tmp),i<n→j<n→ops[i]? =some o→ops[j]? =some p→p.dst=some d→d∈o.looksAt ops→at2 ms i j=true
 Yv:∀(i j:Nat) (o:Oper) (k:Kind) (m:List Bool) (p:Oper) (k':Kind) (m':List Bool),all[i]? =some (o,k,m)→(bU k=3∨bU k=2)→all[j]? =some (p,k',m')→bU k'=3→i≠j→at2 ms i j=true∨at2 ms j i=true
 tail:∀(i:Nat) (o:Oper) (j:Nat),n≤i→ops[i]? =some o→j<i→∃e∈o.after,Region.binds .any e=true∧(e.on=j∨(e.on<n∧at2 ms e.on j=true)∨(n≤e.on∧j<e.on))
theorem qz {ms:List (List Bool)}{i j:Nat}(h:(ms.getD i []).length=i)(hj:at2 ms i j=true):j<i:=by
 unfold at2 at hj;rcases Nat.lt_or_ge j i with hlt|hge
 ·exact hlt
 ·rw[List.getD_eq_getElem?_getD,List.getElem?_eq_none (by omega)]at hj;cases hj
theorem RL {n N:Nat}{ms:List (List Bool)}{all:List (Oper×Kind×List Bool)}(h:okB ops n N ms (all.map fun x=>bU x.2.1)=true)(hl:all.map (·.1)=ops.toList.take n)(hms:all.map (·.2.2)=ms)(su:∀x∈all,x.1.dst=none→silent x.2.1):Ok ops n N ms all:=by
 unfold okB at h;rw[Bool.and_eq_true]at h;obtain⟨hle,h⟩:=h;have hle:n≤ops.size:=by simpa using hle
 rw[List.all_eq_true]at h;have hlen:all.length=n:=by
  have:=congrArg List.length hl;simp only[List.length_map,List.length_take,Array.length_toList]at this;omega
 have hget:∀(i:Nat) (o:Oper) (k:Kind) (m:List Bool),all[i]? =some (o,k,m)→ops[i]? =some o∧m=ms.getD i []:=by
  intro i o k m hi;refine⟨?_,by rw[←hms];simp[List.getD,hi]⟩;have h1:(all.map (·.1))[i]? =some o:=by simp[hi]
  rw[hl,List.getElem?_take]at h1;split at h1
  ·simpa using h1
  ·cases h1
 have row:∀(i:Nat) (o:Oper),i<n→ops[i]? =some o→okRow ops n ms (all.map fun x=>bU x.2.1) i o=true∧∀d,o.dst=some d→d<N:=by
  intro i o hi ho;have:=h i (List.mem_range.2 (by omega));simp only[ho,hi,if_true,Bool.and_eq_true]at this;refine⟨this.1,?_⟩;have h2:=this.2;intro d hd;simpa[hd]using h2
 have Jj:∀(i:Nat) (o:Oper) (j:Nat),i<n→ops[i]? =some o→j<n→
  ((!at2 ms i j||o.after.any fun e=>Region.binds .any e&&(e.on == j||at2 ms e.on j))&&
  (!at2 ms i j||(List.range n).all fun l=>!at2 ms j l||at2 ms i l)&&
  (match ops[j]? with
   |none=>false
   |some p=>(i == j|| !(o.dst == p.dst)|| !o.dst.isSome)&&(match p.dst with|some d=>!(o.looksAt ops).contains d||at2 ms i j|none=>true)&&
    (!(((all.map fun x=>bU x.2.1).getD i 0 == 3||(all.map fun x=>bU x.2.1).getD i 0 == 2)&&(all.map fun x=>bU x.2.1).getD j 0 == 3)||i == j||at2 ms i j||at2 ms j i)))=true:=by
  intro i o j hi ho hj;have h1:=(row i o hi ho).1;unfold okRow at h1;rw[Bool.and_eq_true,List.all_eq_true]at h1;exact h1.2 j (List.mem_range.2 hj)
 have GN:∀(i:Nat) (o:Oper),i<n→ops[i]? =some o→(ms.getD i []).length=i:=by
  intro i o hi ho;have h1:=(row i o hi ho).1;unfold okRow at h1;simp only[Bool.and_eq_true]at h1;simpa using h1.1.1.1.1
 have Jk:∀(i:Nat),i<ops.size→∃o,ops[i]? =some o:=fun i hi=>⟨ops[i],by simp[hi]⟩
 refine⟨hle,hlen,hget,GN,fun i o hi ho=>(row i o hi ho).2,fun i o k m hi=>su _ (List.mem_of_getElem? hi),?_,?_,?_,?_,?_,?_,?_,?_⟩
 ·intro i o hi ho cs b hop;have h1:=(row i o hi ho).1;unfold okRow at h1;simp only[Bool.and_eq_true]at h1;have:=h1.1.1.2;rw[hop]at this;cases this
 ·intro i o ho e he hb;have hi:i<ops.size:=(Array.getElem?_eq_some_iff.1 ho).1;have h1:=h i (List.mem_range.2 hi);simp only[ho]at h1;split at h1
  ·rename_i hin
   have h2:=(row i o hin ho).1;unfold okRow at h2;simp only[Bool.and_eq_true,Array.all_eq_true_iff_forall_mem]at h2;simpa[hb]using h2.1.2 e he
  ·rw[Bool.and_eq_true,Array.all_eq_true_iff_forall_mem]at h1;simpa[hb]using h1.1 e he
 ·intro i o j hi ho hj;have hlt:=qz (GN i o hi ho) hj;have h1:=Jj i o j hi ho (by omega);simp only[Bool.and_eq_true,hj,Bool.not_true,Bool.false_or]at h1;have h2:=h1.1.1;rw[Array.any_eq_true]at h2;obtain⟨x,hx,h3⟩:=h2;simp only[Bool.and_eq_true,Bool.or_eq_true,beq_iff_eq]at h3;exact⟨_,Array.getElem_mem hx,h3.1,h3.2⟩
 ·intro i j l hi hij hjl;obtain⟨o,ho⟩:=Jk i (by omega);have hlt:=qz (GN i o hi ho) hij;obtain⟨p,hp⟩:=Jk j (by omega);have hlt2:=qz (GN j p (by omega) hp) hjl;have h1:=Jj i o j hi ho (by omega);simp only[Bool.and_eq_true,hij,Bool.not_true,Bool.false_or]at h1;have h2:=h1.1.2;rw[List.all_eq_true]at h2;have:=h2 l (List.mem_range.2 (by omega));simpa[hjl]using this
 ·intro i j o p hi hj hne ho hp d hd he;have h1:=Jj i o j hi ho hj;simp only[hp,Bool.and_eq_true]at h1;have h2:=h1.2.1.1;rw[he,hd]at h2;simp[hne]at h2
 ·intro i j o p d hi hj ho hp hd hm;have h1:=Jj i o j hi ho hj;simp only[hp,Bool.and_eq_true,hd]at h1;have h2:=h1.2.1.2;simpa[List.contains_iff_mem,hm]using h2
 ·intro i j o k m p k' m' hi hk hj hk' hne;have ho:=(hget i o k m hi).1;have hp:=(hget j p k' m' hj).1;have hin:i<n:=by rw[←hlen];exact(List.getElem?_eq_some_iff.1 hi).1
  have hjn:j<n:=by rw[←hlen];exact(List.getElem?_eq_some_iff.1 hj).1
  have h1:=Jj i o j hin ho hjn;simp only[hp,Bool.and_eq_true]at h1;have h2:=h1.2.2;have e1:(all.map fun x=>bU x.2.1).getD i 0=bU k:=by simp[List.getD,hi]
  have e2:(all.map fun x=>bU x.2.1).getD j 0=3:=by simp[List.getD,hj,hk']
  rw[e1,e2]at h2;have e3:((bU k == 3||bU k == 2)&&(3 == 3))=true:=by rcases hk with hk|hk<;>simp[hk]
  rw[e3]at h2;simpa[hne]using h2
 ·intro i o j hi ho hj;have hio:i<ops.size:=(Array.getElem?_eq_some_iff.1 ho).1;have h1:=h i (List.mem_range.2 hio);simp only[ho,show¬i<n by omega,if_false,Bool.and_eq_true,List.all_eq_true]at h1;have h2:=h1.2 j (List.mem_range.2 hj);rw[Array.any_eq_true]at h2;obtain⟨x,hx,h3⟩:=h2;simp only[Bool.and_eq_true,Bool.or_eq_true,beq_iff_eq,decide_eq_true_eq]at h3;refine⟨_,Array.getElem_mem hx,h3.1,?_⟩;rcases h3.2 with(h4|h4)|h4
  ·exact .inl h4
  ·exact .inr (.inl h4)
  ·exact .inr (.inr h4)
variable {P ops I S G fin}
def valsOf (L:Nat→Bool)(a:Act):List (Oper×Kind×List Bool)→Nat→List Value
 | [],_=>[]
 |x::r,j=>(if bU x.2.1=3∧L j=true then[slot x.1 a]else[])++valsOf L a r (j+1)
theorem jW (L:Nat→Bool)(a:Act)(r:List (Oper×Kind×List Bool)):∀(l:List (Oper×Kind×List Bool)) (j:Nat),valsOf L a (l++r) j=valsOf L a l j++valsOf L a r (j+l.length)
 | [],j=>by simp[valsOf]
 |x::l,j=>by
  simp only[xE,valsOf,jW L a r l (j+1),List.append_assoc,List.length_cons];rw[show j+1+l.length=j+(l.length+1)by omega]
theorem xJ {L L':Nat→Bool}{a a':Act}:∀(l:List (Oper×Kind×List Bool)) (j:Nat),(∀i x,l[i]? =some x→bU x.2.1=3→L (j+i)=L' (j+i)∧(L (j+i)=true→slot x.1 a=slot x.1 a'))→valsOf L a l j=valsOf L' a' l j
 | [],_,_=>rfl
 |x::l,j,h=>by
  have h0:=h 0 x rfl;simp only[valsOf];rw[xJ l (j+1) fun i y hy ht=>by have:=h (i+1) y (by simpa using hy) ht;rw[show j+(i+1)=j+1+i by omega]at this;exact this];by_cases ht:bU x.2.1=3
  ·obtain⟨h1,h2⟩:=h0 ht;simp only[Nat.add_zero]at h1 h2;by_cases hL:L j=true
   ·rw[qaj ⟨ht,hL⟩,qaj ⟨ht,by rw[←h1];exact hL⟩,h2 hL]
   ·rw[qai (by simp[hL]),qai (by rw[←h1];simp[hL])]
  ·simp[ht]
theorem sw {L:Nat→Bool}{a:Act}:∀(l:List (Oper×Kind×List Bool)) (j:Nat),(∀i x,l[i]? =some x→bU x.2.1=3→L (j+i)=false)→valsOf L a l j=[]
 | [],_,_=>rfl
 |x::l,j,h=>by
  have h0:=h 0 x rfl;simp only[valsOf];rw[sw l (j+1) fun i y hy ht=>by have:=h (i+1) y (by simpa using hy) ht;rw[show j+(i+1)=j+1+i by omega]at this;exact this];by_cases ht:bU x.2.1=3
  ·have h1:=h0 ht;simp only[Nat.add_zero]at h1;simp[h1]
  ·simp[ht]
def qX (P:Program)(ops:Array Oper)(o:Oper)(a:Act)(w:World):Kind→Prop
 |.pure=>Yields P ops o (slot o a) a
 |.minor α _ val Post=>(Region.wanted o (yielded ops a.tmps)=true→∃x:α,slot o a=val x∧Post x w)∧(Region.wanted o (yielded ops a.tmps)=false→slot o a=undef)
 |.pinned α _ val Post=>(Region.wanted o (yielded ops a.tmps)=true→∃x:α,slot o a=val x∧Post x w)∧(Region.wanted o (yielded ops a.tmps)=false→slot o a=undef)
 |.major α _ val=>(Region.wanted o (yielded ops a.tmps)=true→∃x:α,slot o a=val x)∧(Region.wanted o (yielded ops a.tmps)=false→slot o a=undef)
variable (P ops S) in
structure Inv (n : Nat) (ms : List (List Bool)) (all : List (Oper × Kind × List Bool)) (a0 : Act) (L : Nat → Bool) (a : Act) (w : World) : Prop where
 defers:a.defers=a0.defers
 size:a.tmps.size=a0.tmps.size
 frame:∀t,(∀(j:Nat) (o:Oper),j<n→L j=true→ops[j]? =some o→o.dst≠some t)→a.tmps[t]? =a0.tmps[t]?
 closed:∀i j,i<n→L i=true→at2 ms i j=true→L j=true
 holds:∀(j:Nat) (o:Oper) (k:Kind) (m:List Bool),L j=true→all[j]? =some (o,k,m)→qX P ops o a w k
 state:S (valsOf L a all 0) w
theorem Jl {o:Oper}{v v':Value}{a:Act}(w:World)(h:Yields P ops o v a)(h':Yields P ops o v' a):v=v':=by
 rcases h with⟨h1,h2⟩|⟨h1,rfl⟩<;>rcases h' with⟨h3,h4⟩|⟨h3,rfl⟩
 ·have:=(h2 w).symm.trans (h4 w);simpa using this
 ·rw[h1]at h3;cases h3
 ·rw[h1]at h3;cases h3
 ·rfl
theorem yT {o:Oper}(hs:∀cs b,o.op≠.select cs b){a b:Act}(h:∀t,t∈o.looksAt ops→a.tmps[t]? =b.tmps[t]?):
 execOp a.eval o=execOp b.eval o∧Region.wanted o (yielded ops a.tmps)=Region.wanted o (yielded ops b.tmps):=by
 constructor
 ·refine execOp_congr o hs fun x hx=>?_;cases x with
  |tmp t=>
   have:t∈o.looksAt ops:=List.mem_append_left _ (List.mem_filterMap.2 ⟨.tmp t,by simpa using hx,rfl⟩);simp[Act.eval,h t this]
  |_=>rfl
 ·unfold Region.wanted;cases hg:o.guard with
  |none=>rfl
  |some gw=>
   obtain⟨g,want⟩:=gw;have hy:yielded ops a.tmps g=yielded ops b.tmps g:=by
    unfold yielded;cases ht:(ops[g]?).bind (·.dst)with
    |none=>rfl
    |some t=>
     have:t∈o.looksAt ops:=List.mem_append_right _ (by simp[hg,ht]);simp[h t this]
   simp only[hy]
theorem Pp {o:Oper}{a:Act}{d:Tmp}(hd:o.dst=some d)(hlt:d<a.tmps.size)(v:Value):slot o (a.put o.dst v)=v:=by
 simp[slot,hd,Act.put,hlt]
theorem Jm {a:Act}{d t:Tmp}(h:d≠t)(v:Value):(a.put (some d) v).tmps[t]? =a.tmps[t]? :=by
 simp[Act.put,Array.getElem?_setIfInBounds_ne h]
theorem GQ {o:Oper}{a:Act}{d:Tmp}(h:o.dst≠some d)(v:Value):slot o (a.put (some d) v)=slot o a:=by
 unfold slot;cases ho:o.dst with
 |none=>rfl
 |some e=>
  have hne:d≠e:=fun hx=>h (by rw[ho,hx]);simp only[Array.getD_eq_getD_getElem?,Jm hne]
theorem Pq {a b:Act}{d:Tmp}(ha:d<a.tmps.size)(v:Value)(hv:v=b.tmps.getD d undef)(hb:d<b.tmps.size):(a.put (some d) v).tmps[d]? =b.tmps[d]? :=by
 subst hv;simp[Act.put,ha,hb]
theorem lK {o:Oper}{a:Act}{v:Value}(hn:o.dst=none→v=undef)(hlt:∀d,o.dst=some d→d<a.tmps.size):slot o (a.put o.dst v)=v:=by
 cases hd:o.dst with
 |none=>rw[hn hd];simp[slot,hd]
 |some d=>rw[←hd];exact Pp hd (hlt d hd) v
theorem tK {o:Oper}{a:Act}{t:Tmp}(h:o.dst≠some t)(v:Value):(a.put o.dst v).tmps[t]? =a.tmps[t]? :=by
 cases hd:o.dst with
 |none=>rfl
 |some d=>exact Jm (fun e=>h (by rw[hd,e])) v
theorem xK {o p:Oper}{a:Act}(h:∀d,o.dst=some d→p.dst≠some d)(v:Value):slot p (a.put o.dst v)=slot p a:=by
 cases hd:o.dst with
 |none=>rfl
 |some d=>exact GQ (h d hd) v
theorem Fq (a:Act)(d:Option Tmp)(v:Value):(a.put d v).tmps.size=a.tmps.size:=by
 cases d<;>simp[Act.put]
theorem put_defers (a:Act)(d:Option Tmp)(v:Value):(a.put d v).defers=a.defers:=by
 cases d<;>rfl
structure LU (ops : Array Oper) (n : Nat) (L : Nat → Bool) (a0 a : Act) (j : Nat) (ac : Act) : Prop where
 defers:ac.defers=a0.defers
 size:ac.tmps.size=a0.tmps.size
 done:∀(i:Nat) (o:Oper) (t:Tmp),i<j→i<n→L i=true→ops[i]? =some o→o.dst=some t→ac.tmps[t]? =a.tmps[t]?
 rest:∀t,(∀(i:Nat) (o:Oper),i<j→i<n→ops[i]? =some o→o.dst≠some t)→ac.tmps[t]? =a0.tmps[t]?
theorem LU.step {n N:Nat}{ms:List (List Bool)}{all:List (Oper×Kind×List Bool)}{L:Nat→Bool}{a0 a ac:Act}{j:Nat}{o:Oper}(ok:Ok ops n N ms all)(hN:a0.tmps.size=N)(ha:a.tmps.size=a0.tmps.size)
 (h:LU ops n L a0 a j ac) (hj:j<n) (ho:ops[j]? =some o) {v:Value} (hv:L j=true→v=slot o a):LU ops n L a0 a (j+1) (ac.put o.dst v):=by
 refine⟨(put_defers _ _ _).trans h.defers,(Fq _ _ _).trans h.size,?_,?_⟩
 ·intro i p t hi hin yU hp ht;by_cases hij:i=j
  ·subst hij;rw[ho]at hp;obtain rfl:=Option.some.inj hp;have hlt:=ok.dst i o hj ho t ht;rw[ht];exact Pq (by rw[h.size,hN];exact hlt) _ (by rw[hv yU];simp[slot,ht]) (by rw[ha,hN];exact hlt)
  ·rw[tK (ok.apart i j p o hin hj hij hp ho t ht) _];exact h.done i p t (by omega) hin yU hp ht
 ·intro t ht;rw[tK (ht j o (by omega) hj ho)];exact h.rest t fun i p hi hin hp=>ht i p (by omega) hin hp
theorem LU.looks {n N:Nat}{ms:List (List Bool)}{all:List (Oper×Kind×List Bool)}{a0 a ac:Act}{j:Nat}{o:Oper}{L:Nat→Bool}{w:World}(ok:Ok ops n N ms all)(inv:Inv P ops S n ms all a0 L a w)
 (h:LU ops n L a0 a j ac) (hjn:j<n) (ho:ops[j]? =some o) (hM:∀i,at2 ms j i=true→L i=true):
 ∀t,t∈o.looksAt ops→ac.tmps[t]? =a.tmps[t]? :=by
 intro t ht;by_cases hx:∃(i:Nat) (p:Oper),i<n∧ops[i]? =some p∧p.dst=some t
 ·obtain⟨i,p,hin,hp,hd⟩:=hx;have h2:=ok.looks j i o p t hjn hin ho hp hd ht;have hlt:=qz (ok.Fp j o hjn ho) h2;exact h.done i p t hlt hin (hM i h2) hp hd
 ·rw[h.rest t fun i p _ hin hp hd=>hx ⟨i,p,hin,hp,hd⟩,inv.frame t fun i p hin _ hp hd=>hx ⟨i,p,hin,hp,hd⟩]
theorem zQ {w:World}:∀(m:List Bool) (F:List (World→Prop)),(∀(i:Nat) (f:World→Prop),m.getD i false=true→F[i]? =some f→f w)→facts w m F
 | [],F,_=>by unfold facts;trivial
 |true::m,[],_=>by unfold facts;trivial
 |false::m,[],_=>by unfold facts;trivial
 |true::m,f::F,h=>⟨h 0 f rfl rfl,zQ m F fun i g hi hg=>h (i+1) g (by simpa using hi) (by simpa using hg)⟩
 |false::m,f::F,h=>zQ m F fun i g hi hg=>h (i+1) g (by simpa using hi) (by simpa using hg)
theorem yV {w:World}:∀(F:List (World→Prop)),(∀(i:Nat) (f:World→Prop),F[i]? =some f→f w)→wW w F
 | [],_=>trivial
 |f::F,h=>⟨h 0 f rfl,yV F fun i g hg=>h (i+1) g (by simpa using hg)⟩
theorem Fs {n N:Nat}{ms:List (List Bool)}{all:List (Oper×Kind×List Bool)}{a0 a:Act}{L:Nat→Bool}{w:World}(ok:Ok ops n N ms all)(hN:a0.tmps.size=N)(inv:Inv P ops S n ms all a0 L a w)
 (hp:pass P ops I S G fin all a0 [] []):∀j,j≤n→∃ac F vs,pass P ops I S G fin (all.drop j) ac F vs∧LU ops n L a0 a j ac∧F.length=j∧(∀(i:Nat) (f:World→Prop),L i=true→F[i]? =some f→f w)∧
  ((∀i x,i<j→all[i]? =some x→bU x.2.1=3→L i=true)→vs=valsOf L a (all.take j) 0):=by
 intro j
 induction j with
 |zero=>exact fun _=>⟨a0,[],[],by simpa using hp,⟨rfl,rfl,fun i o t hi=>by omega,fun t _=>rfl⟩,rfl,fun i f _ h=>by simp at h,fun _=>by simp[valsOf]⟩
 |succ j ih=>
  intro hj;obtain⟨ac,F,vs,iG,hag,hF,hf,hvs⟩:=ih (by omega);have hjl:j<all.length:=by rw[ok.len];omega
  obtain⟨⟨o,k,m⟩,hall⟩:∃x,all[j]? =some x:=⟨all[j],by simp[hjl]⟩;obtain⟨ho,_⟩:=ok.get j o k m hall;have hdrop:all.drop j=(o,k,m)::all.drop (j+1):=by
   rw[List.drop_eq_getElem_cons hjl];rw[List.getElem?_eq_getElem hjl]at hall;rw[Option.some.inj hall]
  have htake:all.take (j+1)=all.take j++[(o,k,m)]:=by
   rw[List.take_succ_eq_append_getElem hjl];rw[List.getElem?_eq_getElem hjl]at hall;rw[Option.some.inj hall]
  rw[hdrop]at iG;have RN:(all.take j).length=j:=by rw[List.length_take];omega
  have hfn:∀(g:World→Prop),(L j=true→g w)→∀(i:Nat) (f:World→Prop),L i=true→(F++[g])[i]? =some f→f w:=by
   intro g hg i f yU hfi;rcases Nat.lt_or_ge i F.length with h|h
   ·rw[List.getElem?_append_left h]at hfi;exact hf i f yU hfi
   ·rw[List.getElem?_append_right h]at hfi;have:i=j:=by
     have:=(List.getElem?_eq_some_iff.1 hfi).1;simp at this;omega
    subst this;rw[hF,Nat.sub_self]at hfi;simp at hfi;subst hfi;exact hg yU
  have hv0:bU k≠3→(∀i x,i<j+1→all[i]? =some x→bU x.2.1=3→L i=true)→vs=valsOf L a (all.take (j+1)) 0:=by
   intro ht hx;rw[htake,jW,RN,hvs fun i x hi=>hx i x (by omega)];simp[valsOf,ht]
  have hv3:bU k=3→∀v,(L j=true→v=slot o a)→(∀i x,i<j+1→all[i]? =some x→bU x.2.1=3→L i=true)→vs++[v]=valsOf L a (all.take (j+1)) 0:=by
   intro ht v hv hx;have vI:=hx j _ (by omega) hall ht;rw[htake,jW,RN,hvs fun i x hi=>hx i x (by omega),hv vI];simp[valsOf,ht,vI]
  have hlk:L j=true→execOp ac.eval o=execOp a.eval o∧Region.wanted o (yielded ops ac.tmps)=Region.wanted o (yielded ops a.tmps):=fun vI=>
   yT (fun cs b=>ok.Va j o (by omega) ho cs b) (hag.looks ok inv (by omega) ho fun i hi=>inv.closed j i (by omega) vI hi)
  have hst:∀v,(L j=true→v=slot o a)→LU ops n L a0 a (j+1) (ac.put o.dst v):=fun v hv=>hag.step ok hN inv.size (by omega) ho hv;have nI:∀(g:World→Prop),(F++[g]).length=j+1:=fun g=>by simp[hF]
  cases vI:L j with
  |false=>
   have hno:∀{p:Prop},L j=true→p:=fun h=>by rw[vI]at h;cases h
   cases k with
   |pure=>
    obtain⟨v,hy,hnx⟩:=iG;exact⟨_,_,_,hnx,hst v hno,nI _,hfn _ hno,hv0 (by simp[bU])⟩
   |minor α d val Post=>
    cases hw:Region.wanted o (yielded ops ac.tmps)with
    |true=>exact⟨_,_,_,(iG.1 hw).2 d,hst _ hno,nI _,hfn _ hno,hv0 (by simp[bU])⟩
    |false=>exact⟨_,_,_,iG.2 hw,hst _ hno,nI _,hfn _ hno,hv0 (by simp[bU])⟩
   |pinned α d val Post=>
    cases hw:Region.wanted o (yielded ops ac.tmps)with
    |true=>exact⟨_,_,_,(iG.1 hw).2 d,hst _ hno,nI _,hfn _ hno,hv0 (by simp[bU])⟩
    |false=>exact⟨_,_,_,iG.2 hw,hst _ hno,nI _,hfn _ hno,hv0 (by simp[bU])⟩
   |major α d val=>
    cases hw:Region.wanted o (yielded ops ac.tmps)with
    |true=>exact⟨_,_,_,(iG.1 hw).2 d,hst _ hno,nI _,hfn _ hno,hv3 rfl _ hno⟩
    |false=>exact⟨_,_,_,(iG.2 hw).2,hst _ hno,nI _,hfn _ hno,hv3 rfl _ hno⟩
  |true=>
   obtain⟨hex,hwt⟩:=hlk vI;have hh:=inv.holds j o k m vI hall;cases k with
   |pure=>
    obtain⟨v,hy,hnx⟩:=iG;have hv:v=slot o a:=Jl w hy (Yields.of_same (show Yields P ops o (slot o a) a from hh) hex hwt);exact⟨_,_,_,hnx,hst v fun _=>hv,nI _,hfn _ fun _=>trivial,hv0 (by simp[bU])⟩
   |minor α d val Post=>
    cases hw:Region.wanted o (yielded ops ac.tmps)with
    |true=>
     obtain⟨x,hx,hpx⟩:=hh.1 (by rw[←hwt];exact hw);exact⟨_,_,_,(iG.1 hw).2 x,hst _ fun _=>hx.symm,nI _,hfn _ fun _=>hpx,hv0 (by simp[bU])⟩
    |false=>
     have hu:=hh.2 (by rw[←hwt];exact hw);exact⟨_,_,_,iG.2 hw,hst _ fun _=>hu.symm,nI _,hfn _ fun _=>trivial,hv0 (by simp[bU])⟩
   |pinned α d val Post=>
    cases hw:Region.wanted o (yielded ops ac.tmps)with
    |true=>
     obtain⟨x,hx,hpx⟩:=hh.1 (by rw[←hwt];exact hw);exact⟨_,_,_,(iG.1 hw).2 x,hst _ fun _=>hx.symm,nI _,hfn _ fun _=>hpx,hv0 (by simp[bU])⟩
    |false=>
     have hu:=hh.2 (by rw[←hwt];exact hw);exact⟨_,_,_,iG.2 hw,hst _ fun _=>hu.symm,nI _,hfn _ fun _=>trivial,hv0 (by simp[bU])⟩
   |major α d val=>
    cases hw:Region.wanted o (yielded ops ac.tmps)with
    |true=>
     obtain⟨x,hx⟩:=hh.1 (by rw[←hwt];exact hw);exact⟨_,_,_,(iG.1 hw).2 x,hst _ fun _=>hx.symm,nI _,hfn _ fun _=>trivial,hv3 rfl _ fun _=>hx.symm⟩
    |false=>
     have hu:=hh.2 (by rw[←hwt];exact hw);exact⟨_,_,_,(iG.2 hw).2,hst _ fun _=>hu.symm,nI _,hfn _ fun _=>trivial,hv3 rfl _ fun _=>hu.symm⟩
theorem RO {a:Act}{d:Tmp}(hlt:d<a.tmps.size){u v:Value}(h:a.put (some d) u=a.put (some d) v):u=v:=by
 have:=congrArg (fun b:Act=>b.tmps[d]?) h;simpa[Act.put,hlt]using this
theorem GR {o:Oper}{a ac:Act}{w:World}{R:Value→World→Prop}{K:Act→World→Prop}{Q:Exit→Act→World→Prop}(hlt:∀d,o.dst=some d→d<ac.tmps.size)
 (h:One P ops o ac w R) (hex:execOp ac.eval o=execOp a.eval o) (hw:Region.wanted o (yielded ops ac.tmps)=true) (hK:∀v w',R v w'→K (a.put o.dst v) w'):o.wp P a w K Q:=by
 unfold One wpList at h;rw[qaj hw]at h;rcases h with h|⟨_,a',w',h⟩
 case inr=>exact h.elim
 unfold Oper.wp at*;rw[hex]at h;generalize (execOp a.eval o).run P w=r at*;have key:∀u w',wpList P ops (Done o R ac) [] (ac.put o.dst u) w'→K (a.put o.dst u) w':=by
  intro u w' hn;obtain⟨v,hv,hR⟩:=hn;cases hd:o.dst with
  |none=>rw[←show a.put o.dst v=a.put none u by rw[hd];rfl];exact hK _ _ hR
  |some d=>
   rw[hd]at hv;have:=RO (hlt d hd) hv;subst this;rw[←hd];exact hK _ _ hR
 cases r with
 |ok n w'=>
  cases n<;>simp only[Oper.upon]at h⊢
  case value u=>exact key _ _ h
  case skip=>exact key _ _ h
  case defer x=>
   obtain⟨v,hv,_⟩:=h;have:=congrArg (fun b:Act=>b.defers.length) hv;simp[put_defers]at this
  case enter f args=>
   refine Calls.mono h fun e w'' he=>?_;cases e with
   |returned u=>exact key _ _ he
   |panicked c=>exact(he:False).elim
   |outgrown=>obtain⟨a',w',he⟩:=he;exact(he:False).elim
  case row row args=>exact Rows.mono h fun u w'' he=>key _ _ he
 |halt x w'=>
  cases x<;>simp only[Oper.upon]at h⊢
  case panic u=>exact(h:False).elim
def more (L:Nat→Bool)(i:Nat):Nat→Bool:=fun j=>j == i||L j
theorem xW {L:Nat→Bool}{i:Nat}:more L i i=true:=by simp[more]
theorem tL {L:Nat→Bool}{i j:Nat}(h:L j=true):more L i j=true:=by simp[more,h]
theorem AZ {L:Nat→Bool}{i j:Nat}(h:more L i j=true):j=i∨L j=true:=by simpa[more]using h
theorem BS {n N:Nat}{ms:List (List Bool)}{all:List (Oper×Kind×List Bool)}{i j:Nat}{o p:Oper}{k:Kind}{a:Act}{w w':World}(ok:Ok ops n N ms all)(hi:i<n)(hj:j<n)(hne:i≠j)
 (ho:ops[i]? =some o) (hp:ops[j]? =some p) (hnot:at2 ms j i≠true) (v:Value)
 (hpost:∀α d val Post,(k=.minor α d val Post∨k=.pinned α d val Post)→∀x,Post x w→Post x w') (h:qX P ops p a w k):qX P ops p (a.put o.dst v) w' k:=by
 have xX:slot p (a.put o.dst v)=slot p a:=xK (ok.apart i j o p hi hj hne ho hp) v;have hlk:∀t,t∈p.looksAt ops→(a.put o.dst v).tmps[t]? =a.tmps[t]? :=by
  intro t ht;exact tK (fun hd=>hnot (ok.looks j i p o t hj hi hp ho hd ht)) v
 obtain⟨hex,hwt⟩:=yT (fun cs b=>ok.Va j p hj hp cs b) hlk;cases k with
 |pure=>exact Yields.of_same (by rw[xX];exact h) hex hwt
 |minor α dd val Post=>
  refine⟨fun hw=>?_,fun hw=>?_⟩
  ·obtain⟨x,hx,hpx⟩:=h.1 (by rw[←hwt];exact hw);exact⟨x,by rw[xX];exact hx,hpost α dd val Post (Or.inl rfl) x hpx⟩
  ·rw[xX];exact h.2 (by rw[←hwt];exact hw)
 |pinned α dd val Post=>
  refine⟨fun hw=>?_,fun hw=>?_⟩
  ·obtain⟨x,hx,hpx⟩:=h.1 (by rw[←hwt];exact hw);exact⟨x,by rw[xX];exact hx,hpost α dd val Post (Or.inr rfl) x hpx⟩
  ·rw[xX];exact h.2 (by rw[←hwt];exact hw)
 |major α dd val=>
  refine⟨fun hw=>?_,fun hw=>?_⟩
  ·obtain⟨x,hx⟩:=h.1 (by rw[←hwt];exact hw);exact⟨x,by rw[xX];exact hx⟩
  ·rw[xX];exact h.2 (by rw[←hwt];exact hw)
theorem LV {l:List (Oper×Kind×List Bool)}(h:stays G l){j:Nat}{o:Oper}{k:Kind}{m:List Bool}(hj:l[j]? =some (o,k,m)):xV G k:=by
 induction l generalizing j with
 |nil=>simp at hj
 |cons x l ih=>
  cases j with
  |zero=>simp at hj;subst hj;exact h.1
  |succ j=>exact ih h.2 (by simpa using hj)
theorem Inv.next {n N:Nat}{ms:List (List Bool)}{all:List (Oper×Kind×List Bool)}{a0 a:Act}{L:Nat→Bool}{w w':World}{i:Nat}{o:Oper}{k:Kind}{m:List Bool}{v:Value}
 (ok:Ok ops n N ms all) (hN:a0.tmps.size=N) (inv:Inv P ops S n ms all a0 L a w) (hi:i<n) (yU:L i=false) (hall:all[i]? =some (o,k,m)) (hm:∀j,at2 ms i j=true→L j=true)
 (hpost:∀(j:Nat) (p:Oper) (k':Kind) (m':List Bool),all[j]? =some (p,k',m')→∀α d val Post,(k'=.minor α d val Post∨k'=.pinned α d val Post)→∀x,Post x w→Post x w')
 (Xb:o.dst=none→v=undef) (hself:qX P ops o (a.put o.dst v) w' k)
 (hS:S (if bU k=3 then valsOf L a all 0++[v]else valsOf L a all 0) w'):Inv P ops S n ms all a0 (more L i) (a.put o.dst v) w':=by
 obtain⟨ho,_⟩:=ok.get i o k m hall;have hsz:∀d,o.dst=some d→d<a.tmps.size:=fun d hd=>by rw[inv.size,hN];exact ok.dst i o hi ho d hd
 have hjlt:∀(j:Nat) (p:Oper) (k':Kind) (m':List Bool),all[j]? =some (p,k',m')→j<n:=fun j p k' m' hj=>by rw[←ok.len];exact(List.getElem?_eq_some_iff.1 hj).1
 refine⟨(put_defers _ _ _).trans inv.defers,(Fq _ _ _).trans inv.size,?_,?_,?_,?_⟩
 ·intro t ht;rw[tK (ht i o hi xW ho)];exact inv.frame t fun j p hj vI hp=>ht j p hj (tL vI) hp
 ·intro x j hx Xc hxj;rcases AZ Xc with rfl|Xc
  ·exact tL (hm j hxj)
  ·exact tL (inv.closed x j hx Xc hxj)
 ·intro j p k' m' vI hj;rcases AZ vI with rfl|vI
  ·rw[hall]at hj;obtain⟨rfl,rfl,rfl⟩:o=p∧k=k'∧m=m':=by simpa using hj
   exact hself
  ·have hjn:=hjlt j p k' m' hj;have hne:i≠j:=fun e=>by subst e;rw[yU]at vI;cases vI
   refine BS ok hi hjn hne ho (ok.get j p k' m' hj).1 (fun h=>?_) v (hpost j p k' m' hj) (inv.holds j p k' m' vI hj);have:=inv.closed j i hjn vI h;rw[yU]at this;cases this
 ·have hil:i<all.length:=by rw[ok.len];exact hi
  have hsplit:all=all.take i++(o,k,m)::all.drop (i+1):=by
   have h1:=List.drop_eq_getElem_cons hil;rw[List.getElem?_eq_getElem hil]at hall;rw[Option.some.inj hall]at h1;rw[←h1,List.take_append_drop]
  have hlen:(all.take i).length=i:=by rw[List.length_take];omega
  have hval:valsOf (more L i) (a.put o.dst v) all 0=if bU k=3 then valsOf L a all 0++[v]else valsOf L a all 0:=by
   have RP:∀(l:List (Oper×Kind×List Bool)) (j0:Nat),(∀x y,l[x]? =some y→all[j0+x]? =some y∧j0+x≠i)→valsOf (more L i) (a.put o.dst v) l j0=valsOf L a l j0:=by
    intro l j0 hl;refine(xJ l j0 fun x y hx ht=>?_).symm;obtain⟨h1,h2⟩:=hl x y hx;refine⟨by simp[more,h2],fun hL=>?_⟩;obtain⟨p,k',m'⟩:=y;exact(xK (ok.apart i (j0+x) o p hi (hjlt _ p k' m' h1) (Ne.symm h2) ho (ok.get _ p k' m' h1).1) v).symm
   have hA:valsOf (more L i) (a.put o.dst v) (all.take i) 0=valsOf L a (all.take i) 0:=RP _ 0 fun x y hx=>by
    rw[List.getElem?_take]at hx;split at hx
    ·exact⟨by simpa using hx,by omega⟩
    ·cases hx
   have hB:valsOf (more L i) (a.put o.dst v) (all.drop (i+1)) (i+1)=valsOf L a (all.drop (i+1)) (i+1):=RP _ (i+1) fun x y hx=>by
    rw[List.getElem?_drop]at hx;exact⟨hx,by omega⟩
   have e1:valsOf (more L i) (a.put o.dst v) all 0=valsOf L a (all.take i) 0++((if bU k=3 then[v]else[])++valsOf L a (all.drop (i+1)) (i+1)):=by
    conv=>lhs;rw[hsplit]
    rw[jW,hA,hlen];simp only[valsOf,Nat.zero_add,hB,xW,and_true];rw[lK Xb hsz]
   have e2:valsOf L a all 0=valsOf L a (all.take i) 0++valsOf L a (all.drop (i+1)) (i+1):=by
    conv=>lhs;rw[hsplit]
    rw[jW,hlen];simp[valsOf,yU]
   by_cases ht:bU k=3
   ·have hC:valsOf L a (all.drop (i+1)) (i+1)=[]:=by
     refine sw _ _ fun x y hx hy=>?_;rw[List.getElem?_drop]at hx;obtain⟨p,k',m'⟩:=y;have hjn:=hjlt _ p k' m' hx;rcases ok.Yv i (i+1+x) o k m p k' m' hall (Or.inl ht) hx hy (by omega)with h|h
     ·have:=qz (ok.Fp i o hi ho) h;omega
     ·cases hL:L (i+1+x)with
      |false=>rfl
      |true=>have:=inv.closed _ i hjn hL h;rw[yU]at this;cases this
    rw[e1,e2,hC];simp[ht]
   ·rw[e1,e2];simp[ht]
  rw[hval];exact hS
structure RQ (I : World → Prop) (S : List Value → World → Prop) (G : World → World → Prop) (all : List (Oper × Kind × List Bool)) : Prop where
 s:∀vs w w',Ext w w'→S vs w→S vs w'
 ie:∀w w',Ext w w'→I w→I w'
 ig:∀w w',G w w'→I w→I w'
 st:stays G all
theorem Ext.refl (w:World):Ext w w:=Below.refl _ _
theorem Ps {n N:Nat}{ms:List (List Bool)}{all:List (Oper×Kind×List Bool)}{a0 a:Act}{L:Nat→Bool}{w:World}{i:Nat}{K:Act→World→Prop}{Q:Exit→Act→World→Prop}(ok:Ok ops n N ms all)(hN:a0.tmps.size=N)(yX:RQ I S G all)
 (hp:pass P ops I S G fin all a0 [] []) (inv:Inv P ops S n ms all a0 L a w) (hI:I w) (hi:i<n) (yU:L i=false) (hm:∀j,at2 ms i j=true→L j=true)
 (hK:∀a' w',Inv P ops S n ms all a0 (more L i) a' w'→I w'→K a' w'):wpOp P ops Q i K a w:=by
 obtain⟨ac,F,vs,iG,hag,hF,hf,hvs⟩:=Fs ok hN inv hp i (by omega);have hil:i<all.length:=by rw[ok.len];exact hi
 obtain⟨⟨o,k,m⟩,hall⟩:∃x,all[i]? =some x:=⟨all[i],by simp[hil]⟩;obtain⟨ho,hmm⟩:=ok.get i o k m hall;have hlt:=ok.dst i o hi ho;have su:=ok.non i o k m hall;have hdrop:all.drop i=(o,k,m)::all.drop (i+1):=by
  rw[List.drop_eq_getElem_cons hil];rw[List.getElem?_eq_getElem hil]at hall;rw[Option.some.inj hall]
 rw[hdrop]at iG;have Cw:∀d,o.dst=some d→d<a.tmps.size:=fun d hd=>by rw[inv.size,hN];exact hlt d hd
 have hcsz:∀d,o.dst=some d→d<ac.tmps.size:=fun d hd=>by rw[hag.size,hN];exact hlt d hd
 obtain⟨hex,hwt⟩:=yT (fun cs b=>ok.Va i o hi ho cs b) (hag.looks ok inv hi ho hm);have hjlt:∀(j:Nat) (p:Oper) (k':Kind) (m':List Bool),all[j]? =some (p,k',m')→j<n:=fun j p k' m' hj=>by rw[←ok.len];exact(List.getElem?_eq_some_iff.1 hj).1
 have hown:∀v,execOp (a.put o.dst v).eval o=execOp a.eval o∧Region.wanted o (yielded ops (a.put o.dst v).tmps)=Region.wanted o (yielded ops a.tmps):=fun v=>
  yT (fun cs b=>ok.Va i o hi ho cs b) fun t ht=>by
   refine tK (fun hd=>?_) v;have h1:=ok.looks i i o o t hi hi ho ho hd ht;have:=qz (ok.Fp i o hi ho) h1;omega
 have GU:facts w m F:=zQ m F fun j f hj hjf=>hf j f (hm j (by subst hmm;exact hj)) hjf;have Xd:∀w',Ext w w'∨G w w'→∀(j:Nat) (p:Oper) (k':Kind) (m':List Bool),all[j]? =some (p,k',m')→∀α dd val Post,(k'=.minor α dd val Post∨k'=.pinned α dd val Post)→∀x,Post x w→Post x w':=by
  intro w' hw' j p k' m' hj α dd val Post hk x hx;have hs:=LV yX.st hj;rcases hk with rfl|rfl<;>rcases hw' with h|h
  ·exact hs.1 x w w' h hx
  ·exact hs.2 x w w' h hx
  ·exact hs.1 x w w' h hx
  ·exact hs.2 x w w' h hx
 have Cx:(bU k=3∨bU k=2)→vs=valsOf L a all 0:=by
  intro ht;have hold:∀(j:Nat) (x:Oper×Kind×List Bool),j≠i→all[j]? =some x→bU x.2.1=3→(j<i→L j=true)∧(i<j→L j=false):=by
   intro j x hne hj hx;obtain⟨p,k',m'⟩:=x;have hjn:=hjlt j p k' m' hj;rcases ok.Yv i j o k m p k' m' hall ht hj hx (Ne.symm hne)with h|h
   ·have hji:=qz (ok.Fp i o hi ho) h;exact⟨fun _=>hm j h,fun _=>by omega⟩
   ·have hji:=qz (ok.Fp j p hjn (ok.get j p k' m' hj).1) h;refine⟨fun _=>by omega,fun _=>?_⟩;cases hL:L j with
    |false=>rfl
    |true=>have:=inv.closed j i hjn hL h;rw[yU]at this;cases this
  rw[hvs fun j x hji hj hx=>(hold j x (by omega) hj hx).1 hji];have hsplit:all=all.take i++all.drop i:=(List.take_append_drop i all).symm;have hlen:(all.take i).length=i:=by rw[List.length_take];omega
  conv=>rhs;rw[hsplit]
  rw[jW,hlen,Nat.zero_add,sw (all.drop i) i fun x y hx hy=>?_,List.append_nil];rw[List.getElem?_drop]at hx;by_cases h0:x=0
  ·subst h0;simpa using yU
  ·exact(hold (i+x) y (by omega) hx hy).2 (by omega)
 have other:∀v w',(o.dst=none→v=undef)→(Ext w w'∨G w w')→qX P ops o (a.put o.dst v) w' k→S (if bU k=3 then valsOf L a all 0++[v]else valsOf L a all 0) w'→K (a.put o.dst v) w':=by
  intro v w' Xb hw' hself hS;refine hK _ _ (inv.next ok hN hi yU hall hm (Xd w' hw') Xb hself hS) ?_;rcases hw' with h|h
  ·exact yX.ie w w' h hI
  ·exact yX.ig w w' h hI
 unfold wpOp;simp only[ho];cases k with
 |pure=>
  obtain⟨v,hy,_⟩:=iG;have hya:Yields P ops o v a:=hy.of_same hex.symm hwt.symm;have hk:=other v w (fun hn=>absurd (su hn) id) (Or.inl (Ext.refl w)) (by
   show Yields P ops o (slot o (a.put o.dst v)) (a.put o.dst v);rw[lK (fun hn=>absurd (su hn) id) Cw];exact hya.of_same (hown v).1 (hown v).2) (by simpa[bU]using inv.state)
  rcases hya with⟨hw,hv⟩|⟨hw,rfl⟩
  ·rw[qaj hw];left;simp only[Oper.wp,hv w,Oper.upon];exact hk
  ·rw[qai (by simp[hw])];exact hk
 |minor α dd val Post=>
  cases hw:Region.wanted o (yielded ops ac.tmps)with
  |true=>
   rw[qaj (by rw[←hwt];exact hw)];left;refine GR hcsz ((iG.1 hw).1 w hI GU) hex hw fun v w' ⟨⟨x,hx,hpx⟩,he⟩=>?_;refine other v w' (fun hn=>absurd (su hn) id) (Or.inl he) ⟨fun _=>⟨x,by rw[lK (fun hn=>absurd (su hn) id) Cw];exact hx,hpx⟩,fun h=>?_⟩ (by simpa[bU]using yX.s _ w w' he inv.state);rw[(hown v).2,←hwt,hw]at h;cases h
  |false=>
   rw[qai (by rw[←hwt];simp[hw])];refine other undef w (fun hn=>absurd (su hn) id) (Or.inl (Ext.refl w)) ⟨fun h=>?_,fun _=>lK (fun hn=>absurd (su hn) id) Cw⟩ (by simpa[bU]using inv.state);rw[(hown undef).2,←hwt,hw]at h;cases h
 |pinned α dd val Post=>
  cases hw:Region.wanted o (yielded ops ac.tmps)with
  |true=>
   rw[qaj (by rw[←hwt];exact hw)];left;refine GR hcsz ((iG.1 hw).1 w hI (by rw[Cx (Or.inr rfl)];exact inv.state) GU) hex hw fun v w' ⟨⟨x,hx,hpx⟩,he⟩=>?_;refine other v w' (fun hn=>absurd (su hn) id) (Or.inl he) ⟨fun _=>⟨x,by rw[lK (fun hn=>absurd (su hn) id) Cw];exact hx,hpx⟩,fun h=>?_⟩ (by simpa[bU]using yX.s _ w w' he inv.state);rw[(hown v).2,←hwt,hw]at h;cases h
  |false=>
   rw[qai (by rw[←hwt];simp[hw])];refine other undef w (fun hn=>absurd (su hn) id) (Or.inl (Ext.refl w)) ⟨fun h=>?_,fun _=>lK (fun hn=>absurd (su hn) id) Cw⟩ (by simpa[bU]using inv.state);rw[(hown undef).2,←hwt,hw]at h;cases h
 |major α dd val=>
  cases hw:Region.wanted o (yielded ops ac.tmps)with
  |true=>
   rw[qaj (by rw[←hwt];exact hw)];left;refine GR hcsz ((iG.1 hw).1 w hI (by rw[Cx (Or.inl rfl)];exact inv.state) GU) hex hw fun v w' ⟨⟨⟨x,hx⟩,hS⟩,hg⟩=>?_;refine other v w' (fun hn=>by rw[hx];exact su hn x) (Or.inr hg) ⟨fun _=>⟨x,by rw[lK (fun hn=>by rw[hx];exact su hn x) Cw];exact hx⟩,fun h=>?_⟩ (by rw[Cx (Or.inl rfl)]at hS;simpa[bU]using hS);rw[(hown v).2,←hwt,hw]at h;cases h
  |false=>
   rw[qai (by rw[←hwt];simp[hw])];have hS:=(iG.2 hw).1 w hI (by rw[Cx (Or.inl rfl)];exact inv.state);rw[Cx (Or.inl rfl)]at hS;refine other undef w (fun _=>rfl) (Or.inl (Ext.refl w)) ⟨fun h=>?_,fun _=>lK (fun _=>rfl) Cw⟩ (by simpa[bU]using hS);rw[(hown undef).2,←hwt,hw]at h;cases h
def Last (P:Program)(ops:Array Oper)(I:World→Prop)(S:List Value→World→Prop)(Q:Exit→Act→World→Prop)(n:Nat)(a:Act)(F:List (World→Prop))(vs:List Value):Prop:=
 ∀w,I w→S vs w→wW w F→wpList P ops Q (ops.toList.drop n) a w
theorem RS {a b:Act}(h1:a.defers=b.defers)(hs:a.tmps.size=b.tmps.size)(h:∀t:Nat,a.tmps[t]? =b.tmps[t]?):a=b:=by
 obtain⟨at_,ad⟩:=a;obtain⟨bt,bd⟩:=b;simp only at h1 hs h;subst h1;congr 1;apply Array.ext hs;intro i hi hi';have:=h i;simpa[hi,hi']using this
theorem Pt {n N:Nat}{ms:List (List Bool)}{all:List (Oper×Kind×List Bool)}{a0 a:Act}{L:Nat→Bool}{w:World}{Q:Exit→Act→World→Prop}(ok:Ok ops n N ms all)(hN:a0.tmps.size=N)
 (hp:pass P ops I S G (Last P ops I S Q n) all a0 [] []) (inv:Inv P ops S n ms all a0 L a w) (hI:I w) (hL:∀j,j<n→L j=true):wpList P ops Q (ops.toList.drop n) a w:=by
 obtain⟨ac,F,vs,iG,hag,hF,hf,hvs⟩:=Fs ok hN inv hp n (qaf _);have hd:all.drop n=[]:=List.drop_eq_nil_of_le (by rw[ok.len];exact qaf _);rw[hd]at iG;have hv:vs=valsOf L a all 0:=by
  rw[hvs fun i x hi _ _=>hL i hi,List.take_of_length_le (by rw[ok.len];exact qaf _)]
 have hac:ac=a:=by
  refine RS (hag.defers.trans inv.defers.symm) (hag.size.trans inv.size.symm) fun t=>?_;by_cases hx:∃(i:Nat) (p:Oper),i<n∧ops[i]? =some p∧p.dst=some t
  ·obtain⟨i,p,hin,hp,hdt⟩:=hx;exact hag.done i p t hin hin (hL i hin) hp hdt
  ·rw[hag.rest t fun i p _ hin hp hdt=>hx ⟨i,p,hin,hp,hdt⟩,inv.frame t fun i p hin _ hp hdt=>hx ⟨i,p,hin,hp,hdt⟩]
 subst hac;exact iG w hI (by rw[hv];exact inv.state) (yV F fun i f hi=>hf i f (hL i (by have:=(List.getElem?_eq_some_iff.1 hi).1;omega)) hi)
theorem Fu {f:Nat→Bool}:∀n,(∃j,j<n∧f j=false)→∃j,j<n∧f j=false∧∀i,i<j→f i=true
 |0,⟨j,h,_⟩=>by omega
 |n+1,⟨j,hj,hf⟩=>by
  by_cases hx:∃i,i<n∧f i=false
  ·obtain⟨i,hi,h1,h2⟩:=Fu n hx;exact⟨i,by omega,h1,h2⟩
  ·have hjn:j=n:=by
    rcases Nat.lt_or_ge j n with h|h
    ·exact(hx ⟨j,h,hf⟩).elim
    ·omega
   subst hjn;refine⟨j,hj,hf,fun i hi=>?_⟩;cases h:f i with
   |true=>rfl
   |false=>exact(hx ⟨i,hi,h⟩).elim
theorem Cy {l:Array Bool}{i:Nat}(h:l.getD i true=false):i<l.size:=by
 rcases Nat.lt_or_ge i l.size with h'|h'
 ·exact h'
 ·simp[Array.getElem?_eq_none h']at h
theorem wX {l:Array Bool}{i:Nat}(h:i<l.size)(d d':Bool):l.getD i d=l.getD i d':=by simp[h]
theorem Fv {l:Array Bool}{i:Nat}(h:i<l.size):(fun j=>(l.setIfInBounds i true).getD j false)=more (fun j=>l.getD j false) i:=by
 funext j
 by_cases hij:i=j
 ·subst hij;simp[more,h]
 ·have:(j == i)=false:=by simp[Ne.symm hij]
  simp only[more,this,Bool.false_or];exact getD_set_ne false hij
theorem count_set {l:Array Bool}{i:Nat}(h:l.getD i true=false):(l.setIfInBounds i true).toList.count false+1=l.toList.count false:=by
 have hi:=Cy h;have hl:l[i]=false:=by simpa[hi]using h
 have hpos:0<l.toList.count false:=List.count_pos_iff.2 (by rw[←hl];exact Array.mem_toList_iff.2 (Array.getElem_mem hi));rw[Array.toList_setIfInBounds,List.count_set (by simpa using hi)];have e:(l.toList[i]'(by simpa using hi) == false)=true:=by simp[hl]
 rw[qaj e,qai (by decide)];omega
theorem Pv {n N:Nat}{ms:List (List Bool)}{all:List (Oper×Kind×List Bool)}{a0:Act}{Q:Exit→Act→World→Prop}(ok:Ok ops n N ms all)(hN:a0.tmps.size=N)(yX:RQ I S G all)
 (hp:pass P ops I S G (Last P ops I S Q n) all a0 [] []):∀(fuel:Nat) (listed:Array Bool) (a:Act) (w:World),listed.size=ops.size→listed.toList.count false≤fuel→
  (((∃j,j<n∧listed.getD j false=false)∧Inv P ops S n ms all a0 (fun j=>listed.getD j false) a w∧I w)∨
    ∃k,n≤k∧k≤ops.size∧(∀j,j<k→listed.getD j false=true)∧(∀j,k≤j→listed.getD j false=false)∧wpList P ops Q (ops.toList.drop k) a w)→
  (∀j,n≤j→(∃i,i<n∧listed.getD i false=false)→listed.getD j false=false)→wpAny P .any ops Q fuel listed a w:=by
 intro fuel;have zT:∀{listed:Array Bool} {i:Nat},listed.size=ops.size→i∈Region.ready .any ops listed→∃o,ops[i]? =some o∧i<listed.size∧listed.getD i false=false∧∀e∈o.after,Region.binds .any e=true→listed.getD e.on false=true:=by
  intro listed i hs h;obtain⟨h0,o,ho,hall⟩:=mem_ready.1 h;have hlt:=Cy h0;exact⟨o,ho,hlt,by rw[wX hlt false true];exact h0,hall⟩
 have Fw:∀{listed:Array Bool} {j:Nat},listed.size=ops.size→j<ops.size→listed.getD j false=false→(∀i,i<j→listed.getD i false=true)→j∈Region.ready .any ops listed:=by
  intro listed j hs hj hf hbe;refine mem_ready.2 ⟨by rw[wX (by omega) true false];exact hf,ops[j],by simp[hj],fun e he hb=>hbe _ (ok.back j ops[j] (by simp[hj]) e he hb)⟩
 induction fuel with
 |zero=>
  intro listed a w hs hc GV _;have hnone:∀j,j<ops.size→listed.getD j false=true:=by
   intro j hj;have hj':j<listed.size:=by omega
   have h0:¬false∈listed.toList:=fun h=>by have:=List.count_pos_iff.2 h;omega
   have:listed[j]≠false:=fun e=>h0 (by rw[←e];exact Array.mem_toList_iff.2 (Array.getElem_mem hj'));simpa[hj']using this
  have hr:Region.ready .any ops listed=[]:=by
   cases hx:Region.ready .any ops listed with
   |nil=>rfl
   |cons i l=>
    obtain⟨o,ho,_,hf,_⟩:=zT hs (by rw[hx];exact List.mem_cons_self ..);have:=hnone i (Array.getElem?_eq_some_iff.1 ho).1;rw[hf]at this;cases this
  refine⟨hr,?_⟩;rcases GV with⟨⟨j,hj,hf⟩,_⟩|⟨k,hnk,hks,_,hafter,hl⟩
  ·have:=hnone j (by have:=ok.le;omega);rw[hf]at this;cases this
  ·have hk:k=ops.size:=by
    rcases Nat.lt_or_ge k ops.size with h|h
    ·have h1:=hnone k h;rw[hafter k (qaf _)]at h1;cases h1
    ·omega
   rw[List.drop_eq_nil_of_le (by rw[Array.length_toList,hk];exact qaf _)]at hl;exact hl
 |succ fuel ih=>
  intro listed a w hs hc GV LW;rcases GV with⟨hex,inv,hI⟩|⟨k,hnk,hks,yY,hafter,hl⟩
  ·obtain⟨j0,hj0,hf0,hb0⟩:=Fu n hex;have Wl:=Fw (j:=j0) hs (by have:=ok.le;omega) hf0 hb0;refine⟨fun h=>(by rw[h]at Wl;cases Wl),fun i hi=>?_⟩;obtain⟨o,ho,hil,hif,GX⟩:=zT hs hi;have hin:i<n:=by
    rcases Nat.lt_or_ge i n with h|h
    ·exact h
    ·obtain⟨e,he,hb,hon⟩:=ok.tail i o j0 h ho (by omega);have:=GX e he hb;rcases hon with hon|⟨hon,hat⟩|⟨hon,_⟩
     ·rw[hon,hf0]at this;cases this
     ·have h2:=inv.closed e.on j0 hon this hat;have h2:listed.getD j0 false=true:=h2;rw[hf0]at h2;cases h2
     ·rw[LW e.on hon hex]at this;cases this
   have hm:∀j,at2 ms i j=true→(fun j=>listed.getD j false) j=true:=by
    intro j hj;obtain⟨e,he,hb,hon⟩:=ok.ahead i o j hin ho hj;have h1:=GX e he hb;rcases hon with rfl|hon
    ·exact h1
    ·exact inv.closed e.on j (by have:=ok.back i o ho e he hb;omega) h1 hon
   refine Ps ok hN yX hp inv hI hin hif hm fun a' w' Wm hI'=>?_;have hset:(fun j=>(listed.setIfInBounds i true).getD j false)=more (fun j=>listed.getD j false) i:=Fv hil;have hcnt:=count_set (l:=listed) (i:=i) (by rw[wX hil true false];exact hif);refine ih _ a' w' (by simpa using hs) (by omega) ?_ ?_
   ·by_cases hall:∀j,j<n→more (fun j=>listed.getD j false) i j=true
    ·right;refine⟨n,qaf _,ok.le,fun j hj=>?_,fun j hj=>?_,Pt ok hN hp Wm hI' hall⟩
     ·have:=congrFun hset j;rw[this];exact hall j hj
     ·have:=congrFun hset j;rw[this];have h1:=LW j hj hex;have:(j == i)=false:=by simp;omega
      simp only[more,this,Bool.false_or];exact h1
    ·left;refine⟨?_,by rw[hset];exact Wm,hI'⟩;have⟨j,hj⟩:=Classical.not_forall.1 hall;have⟨hjn,hj2⟩:=Classical.not_imp.1 hj;exact⟨j,hjn,by have:=congrFun hset j;rw[this];simpa using hj2⟩
   ·intro j hj _;have:=congrFun hset j;rw[this];have h1:=LW j hj hex;have:(j == i)=false:=by simp;omega
    simp only[more,this,Bool.false_or];exact h1
  ·refine⟨fun h=>?_,fun i hi=>?_⟩
   ·have hk:k=ops.size:=by
     rcases Nat.lt_or_ge k ops.size with hlt|hge
     ·have:=Fw hs hlt (hafter k (qaf _)) yY;rw[h]at this;cases this
     ·omega
    rw[List.drop_eq_nil_of_le (by rw[Array.length_toList,hk];exact qaf _)]at hl;exact hl
   ·obtain⟨o,ho,hil,hif,GX⟩:=zT hs hi;have hki:k≤i:=by
     rcases Nat.lt_or_ge i k with h|h
     ·have:=yY i h;rw[hif]at this;cases this
     ·exact h
    have hik:i=k:=by
     rcases Nat.lt_or_ge k i with h|h
     ·obtain⟨e,he,hb,hon⟩:=ok.tail i o k (by omega) ho h;have:=GX e he hb;rcases hon with hon|⟨hon,hat⟩|⟨_,hon⟩
      ·rw[hon,hafter k (qaf _)]at this;cases this
      ·obtain⟨oe,hoe⟩:∃oe,ops[e.on]? =some oe:=⟨_,Array.getElem?_eq_getElem (by have:=ok.le;omega)⟩;have:=qz (ok.Fp e.on oe hon hoe) hat;omega
      ·rw[hafter e.on (by omega)]at this;cases this
     ·omega
    subst hik;have hilt:i<ops.toList.length:=by rw[Array.length_toList];exact(Array.getElem?_eq_some_iff.1 ho).1
    have Xe:ops.toList.drop i=o::ops.toList.drop (i+1):=by
     rw[List.drop_eq_getElem_cons hilt];have h1:=ho;rw[←Array.getElem?_toList,List.getElem?_eq_getElem hilt]at h1;rw[Option.some.inj h1]
    rw[Xe]at hl;have hset:(fun j=>(listed.setIfInBounds i true).getD j false)=more (fun j=>listed.getD j false) i:=Fv hil;have hcnt:=count_set (l:=listed) (i:=i) (by rw[wX hil true false];exact hif);have hw:wpOp P ops Q i (wpList P ops Q (ops.toList.drop (i+1))) a w:=by
     unfold wpOp;simp only[ho];exact hl
    refine wpOp_mono (fun a' w' h=>ih _ a' w' (by simpa using hs) (by omega) (Or.inr ⟨i+1,by omega,by rw[Array.length_toList]at hilt;omega,fun j hj=>?_,fun j hj=>?_,h⟩) ?_) hw
    ·have:=congrFun hset j;rw[this];by_cases hji:j=i
     ·subst hji;exact xW
     ·exact tL (yY j (by omega))
    ·have:=congrFun hset j;rw[this];have:(j == i)=false:=by simp;omega
     simp only[more,this,Bool.false_or];exact hafter j (by omega)
    ·rintro j hj ⟨x,hx,Xf⟩;have:=congrFun hset x;rw[this]at Xf;have h2:=yY x (by omega);rw[tL h2]at Xf;cases Xf
theorem region {n N:Nat}{ms:List (List Bool)}(all:List (Oper×Kind×List Bool)){a:Act}{w:World}{id:Nat}{Q:Exit→Act→World→Prop}(I:World→Prop)(S:List Value→World→Prop)(G:World→World→Prop)
 (hm:P.follows .mixedOrders=true) (ok:Ok ops n N ms all) (hN:a.tmps.size=N) (yX:RQ I S G all) (hn:0<n) (hI:I w.drew) (hS:S [] w.drew)
 (hp:pass P ops I S G (Last P ops I S Q n) all a [] []):(Code.region id ops true).wp P Q a w:=by
 refine wp_region_any hm ?_;show wpAny P .any ops Q ops.size (Array.replicate ops.size false) a w.drew;have GY:∀j,(Array.replicate ops.size false).getD j false=false:=by
  intro j;rcases Nat.lt_or_ge j ops.size with h|h
  ·simp[h]
  ·simp[Array.getElem?_eq_none (xs:=Array.replicate ops.size false) (i:=j) (by simpa using h)]
 refine Pv ok hN yX hp ops.size _ a w.drew (by simp) (by simp) (Or.inl ⟨⟨0,hn,GY 0⟩,?_,hI⟩) fun j _ _=>GY j;have hL:(fun j=>(Array.replicate ops.size false).getD j false)=fun _=>false:=funext GY;rw[hL];refine⟨rfl,rfl,fun t _=>rfl,fun i j _ h=>(nomatch h),fun j o k m h=>(nomatch h),?_⟩;rw[sw all 0 fun i x _ _=>rfl];exact hS
def mk (ops:Array Oper)(n:Nat)(ks:List Kind)(ms:List (List Bool)):List (Oper×Kind×List Bool):=(ops.toList.take n).zip (ks.zip ms)
def GZ :List (Oper×Kind×List Bool)→Prop
 |x::r=>(x.1.dst=none→silent x.2.1)∧GZ r
 | []=>True
theorem Cz :∀{l:List (Oper×Kind×List Bool)},GZ l→∀x∈l,x.1.dst=none→silent x.2.1
 | [],_,_,hx=>nomatch hx
 |y::l,h,x,hx=>by
  rcases List.mem_cons.1 hx with rfl|hx
  ·exact h.1
  ·exact Cz h.2 x hx
theorem uy (n N:Nat)(ms:List (List Bool))(tags:List Nat)(ks:List Kind){a:Act}{w:World}{id:Nat}{Q:Exit→Act→World→Prop}(I:World→Prop)(S:List Value→World→Prop)(G:World→World→Prop)
 (hm:P.follows .mixedOrders=true) (hok:(okB ops n N ms tags&&(ms.length == n)&&(tags.length == n)&&decide (0<n))=true) (zU:ks.map bU=tags) (hN:a.tmps.size=N)
 (hs:∀vs w w',Ext w w'→S vs w→S vs w') (hie:∀w w',Ext w w'→I w→I w') (hig:∀w w',G w w'→I w→I w') (hst:stays G (mk ops n ks ms)) (hnn:GZ (mk ops n ks ms)) (hI:I w.drew) (hS:S [] w.drew)
 (hp:pass P ops I S G (Last P ops I S Q n) (mk ops n ks ms) a [] []):(Code.region id ops true).wp P Q a w:=by
 simp only[Bool.and_eq_true,beq_iff_eq,decide_eq_true_eq]at hok;obtain⟨⟨⟨hok,xY⟩,htl⟩,hn⟩:=hok;have hle:n≤ops.size:=by
  unfold okB at hok;rw[Bool.and_eq_true]at hok;simpa using hok.1
 have hkl:ks.length=n:=by rw[←htl,←zU,List.length_map]
 have h1:(mk ops n ks ms).map (·.1)=ops.toList.take n:=by
  unfold mk;rw[List.map_fst_zip];rw[List.length_zip,List.length_take,hkl,xY];omega
 have hl0:(ops.toList.take n).length=n:=by rw[List.length_take,Array.length_toList];omega
 have h2:(mk ops n ks ms).map (·.2)=ks.zip ms:=by
  unfold mk;rw[List.map_snd_zip];rw[List.length_zip,hl0,hkl,xY];omega
 have h3:(mk ops n ks ms).map (·.2.2)=ms:=by
  have:(mk ops n ks ms).map (·.2.2)=((mk ops n ks ms).map (·.2)).map (·.2):=by rw[List.map_map];rfl
  rw[this,h2,List.map_snd_zip];omega
 have h4:(mk ops n ks ms).map (fun x=>bU x.2.1)=tags:=by
  have:(mk ops n ks ms).map (fun x=>bU x.2.1)=(((mk ops n ks ms).map (·.2)).map (·.1)).map bU:=by rw[List.map_map,List.map_map];rfl
  rw[this,h2,List.map_fst_zip,zU];omega
 exact region _ I S G hm (RL _ (by rw[h4];exact hok) h1 h3 (Cz hnn)) hN ⟨hs,hie,hig,hst⟩ hn hI hS hp
theorem vo (k N:Nat)(ms:List (List Bool))(tags:List Nat)(ks:List Kind){a:Act}{w:World}{id:Nat}{Q:Exit→Act→World→Prop}(I:World→Prop)(S:List Value→World→Prop)(G:World→World→Prop)
 (hm:P.follows .mixedOrders=true) (hok:((okB ops k N ms tags&&(ms.length == k)&&(tags.length == k)&&decide (0<k))&&(ops.toList.take k).all (fun o=>o.dst.isSome))=true) (zU:ks.map bU=tags) (hN:a.tmps.size=N)
 (hs:∀vs w w',Ext w w'→S vs w→S vs w') (hie:∀w w',Ext w w'→I w→I w') (hig:∀w w',G w w'→I w→I w') (hst:stays G (mk ops k ks ms)) (hI:I w.drew) (hS:S [] w.drew)
 (hp:pass P ops I S G (Last P ops I S Q k) (mk ops k ks ms) a [] []):(Code.region id ops true).wp P Q a w:=by
 have h:=Bool.and_eq_true_iff.1 hok;refine uy (P:=P) (ops:=ops) k N ms tags ks I S G hm h.1 zU hN hs hie hig hst ?_ hI hS hp;have key:∀l:List (Oper×Kind×List Bool),(∀x∈l,x.1.dst.isSome=true)→GZ l:=by
  intro l
  induction l with
  |nil=>intro _;trivial
  |cons x l ih=>exact fun hl=>⟨fun e=>(by have:=hl x List.mem_cons_self;rw[e]at this;cases this),ih fun z hz=>hl z (List.mem_cons_of_mem _ hz)⟩
 exact key _ fun x hx=>List.all_eq_true.1 h.2 x.1 (List.of_mem_zip (a:=x.1) (b:=x.2) hx).1
inductive RC where
 |p (n:Nat)
 |m (n:Nat)
def row (i n:Nat):List Bool:=(List.range i).map n.testBit
def tg :RC→Nat|.p _=>0|.m _=>1
def rows :Nat→List RC→List (List Bool)
 |i,.p n::cs=>row i n::rows (i+1) cs
 |i,.m n::cs=>row i n::rows (i+1) cs
 |_,[]=>[]
def need :List RC→Nat
 |.p _::cs=>need cs
 |.m _::cs=>need cs+1
 | []=>0
def fF :List Oper→Nat→List RC→List Value→List (Oper×Kind×List Bool)
 |o::os,i,.p n::cs,vs=>(o,.pure,row i n)::fF os (i+1) cs vs
 |o::os,i,.m n::cs,v::vs=>(o,.minor Unit () (fun _=>v) (fun _ _=>True),row i n)::fF os (i+1) cs vs
 |_,_,_,_=>[]
theorem CB (G:World→World→Prop):∀(cs:List RC) (os:List Oper) (i:Nat) (vs:List Value),cs.length≤os.length→need cs=vs.length→
 (fF os i cs vs).map (·.1)=os.take cs.length∧(fF os i cs vs).map (fun x=>bU x.2.1)=cs.map tg∧(fF os i cs vs).map (·.2.2)=rows i cs∧stays G (fF os i cs vs)
 | [],os,i,vs,_,_=>by cases os<;>exact⟨rfl,rfl,rfl,trivial⟩
 |.p n::cs,[],i,vs,h,_=>by simp at h
 |.m n::cs,[],i,vs,h,_=>by simp at h
 |.p n::cs,o::os,i,vs,h,hv=>by
  obtain⟨h1,h2,h3,h4⟩:=CB G cs os (i+1) vs (by simpa using h) hv;exact⟨congrArg (List.cons o) h1,congrArg (List.cons 0) h2,congrArg (List.cons (row i n)) h3,trivial,h4⟩
 |.m n::cs,o::os,i,[],h,hv=>by simp[need]at hv
 |.m n::cs,o::os,i,v::vs,h,hv=>by
  obtain⟨h1,h2,h3,h4⟩:=CB G cs os (i+1) vs (by simpa using h) (by simpa[need]using hv);exact⟨congrArg (List.cons o) h1,congrArg (List.cons 1) h2,congrArg (List.cons (row i n)) h3,⟨fun _ _ _ _ _=>trivial,fun _ _ _ _ _=>trivial⟩,h4⟩
def Yw (ops:Array Oper)(n N:Nat)(cs:List RC):Bool:=
 okB ops n N (rows 0 cs) (cs.map tg)&&decide (n≤ops.size)&&decide (0<n)&&(cs.length == n)&&(ops.toList.take n).all (fun o=>o.dst.isSome)
theorem ro (w0:World)(n N:Nat)(cs:List RC)(vs:List Value){a:Act}{w:World}{id:Nat}{Q:Exit→Act→World→Prop}
 (hm:P.follows .mixedOrders=true) (hok:Yw ops n N cs=true) (hk:need cs=vs.length) (hN:a.tmps.size=N) (hI:Below w0.heap.size w0 w.drew)
 (hp:pass P ops (fun W=>Below w0.heap.size w0 W) (fun _ _=>True) (fun a b=>Below a.heap.size a b) (Last P ops (fun W=>Below w0.heap.size w0 W) (fun _ _=>True) Q n) (fF ops.toList 0 cs vs) a [] []):(Code.region id ops true).wp P Q a w:=by
 unfold Yw at hok;simp only[Bool.and_eq_true,beq_iff_eq,decide_eq_true_eq]at hok;obtain⟨⟨⟨⟨hok,hle⟩,h0⟩,rfl⟩,hd⟩:=hok;obtain⟨h1,h2,h3,h4⟩:=CB (fun a b=>Below a.heap.size a b) cs ops.toList 0 vs (by simpa using hle) hk;exact region (P:=P) (ops:=ops) (fF ops.toList 0 cs vs) (fun W=>Below w0.heap.size w0 W) (fun _ _=>True) (fun a b=>Below a.heap.size a b) hm
  (RL (ops:=ops) (by rw[h2];exact hok) h1 h3 fun x hx e=>(by
   have hx1:x.1∈ops.toList.take cs.length:=by rw[←h1];exact List.mem_map_of_mem hx
   have:=List.all_eq_true.1 hd x.1 hx1;rw[e]at this;cases this)) hN
  ⟨fun _ _ _ _ _=>trivial,fun _ _ he hb=>hb.trans (Below.mono he hb.size),fun _ _ he hb=>hb.trans (Below.mono he hb.size),h4⟩ h0 hI trivial hp
section
variable {o : Oper} {m : List Bool} {r : List (Oper × Kind × List Bool)} {a : Act} {F : List (World → Prop)} {vs : List Value}
theorem Xg (v:Value)(h:Yields P ops o v a)(hn:pass P ops I S G fin r (a.put o.dst v) (F++[mf]) vs):pass P ops I S G fin ((o,.pure,m)::r) a F vs:=⟨v,h,hn⟩
theorem ak (v:Value)(hw:Region.wanted o (yielded ops a.tmps)=true)(h:∀w,(execOp a.eval o).run P w=.ok (.value v) w)(hn:pass P ops I S G fin r (a.put o.dst v) (F++[mf]) vs):pass P ops I S G fin ((o,.pure,m)::r) a F vs:=⟨v,Or.inl ⟨hw,h⟩,hn⟩
theorem oG (hw:Region.wanted o (yielded ops a.tmps)=false)(hn:pass P ops I S G fin r (a.put o.dst undef) (F++[mf]) vs):pass P ops I S G fin ((o,.pure,m)::r) a F vs:=⟨undef,Or.inr ⟨hw,rfl⟩,hn⟩
theorem az {α:Type}{d:α}{val:α→Value}{Post:α→World→Prop}(hw:Region.wanted o (yielded ops a.tmps)=true)(h:∀w,I w→facts w m F→One P ops o a w fun v w'=>(∃x:α,v=val x∧Post x w')∧Ext w w')
 (hn:∀x:α,pass P ops I S G fin r (a.put o.dst (val x)) (F++[Post x]) vs):pass P ops I S G fin ((o,.minor α d val Post,m)::r) a F vs:=⟨fun _=>⟨h,hn⟩,fun h'=>by rw[hw]at h';cases h'⟩
theorem iZ {α:Type}{d:α}{val:α→Value}{Post:α→World→Prop}(hw:Region.wanted o (yielded ops a.tmps)=false)
 (hn:pass P ops I S G fin r (a.put o.dst undef) (F++[mf]) vs):pass P ops I S G fin ((o,.minor α d val Post,m)::r) a F vs:=⟨fun h'=>(by rw[hw]at h';cases h'),fun _=>hn⟩
theorem G5 {α:Type}{d:α}{val:α→Value}{Post:α→World→Prop}(hw:Region.wanted o (yielded ops a.tmps)=true)(h:∀w,I w→S vs w→facts w m F→One P ops o a w fun v w'=>(∃x:α,v=val x∧Post x w')∧Ext w w')
 (hn:∀x:α,pass P ops I S G fin r (a.put o.dst (val x)) (F++[Post x]) vs):pass P ops I S G fin ((o,.pinned α d val Post,m)::r) a F vs:=⟨fun _=>⟨h,hn⟩,fun h'=>by rw[hw]at h';cases h'⟩
theorem Rz {α:Type}{d:α}{val:α→Value}{Post:α→World→Prop}(hw:Region.wanted o (yielded ops a.tmps)=false)
 (hn:pass P ops I S G fin r (a.put o.dst undef) (F++[mf]) vs):pass P ops I S G fin ((o,.pinned α d val Post,m)::r) a F vs:=⟨fun h'=>(by rw[hw]at h';cases h'),fun _=>hn⟩
theorem Jn {α:Type}{d:α}{val:α→Value}(hw:Region.wanted o (yielded ops a.tmps)=true)(h:∀w,I w→S vs w→facts w m F→One P ops o a w fun v w'=>((∃x:α,v=val x)∧S (vs++[v]) w')∧G w w')
 (hn:∀x:α,pass P ops I S G fin r (a.put o.dst (val x)) (F++[mf]) (vs++[val x])):pass P ops I S G fin ((o,.major α d val,m)::r) a F vs:=⟨fun _=>⟨h,hn⟩,fun h'=>by rw[hw]at h';cases h'⟩
theorem RU {α:Type}{d:α}{val:α→Value}(hw:Region.wanted o (yielded ops a.tmps)=false)(h:∀w,I w→S vs w→S (vs++[undef]) w)
 (hn:pass P ops I S G fin r (a.put o.dst undef) (F++[mf]) (vs++[undef])):pass P ops I S G fin ((o,.major α d val,m)::r) a F vs:=⟨fun h'=>(by rw[hw]at h';cases h'),fun _=>⟨h,hn⟩⟩
theorem aD {n:Nat}{Q:Exit→Act→World→Prop}(h:∀w,I w→S vs w→wW w F→wpList P ops Q (ops.toList.drop n) a w):pass P ops I S G (Last P ops I S Q n) [] a F vs:=h
end
end Reg2
theorem qad {w:World}:Reg2.Ext w w:=Reg2.Ext.refl w
end Go.Proofs.YtaimcpmcndapcaaGreat

namespace Go.Proofs.YtaimcpmcndapcaaGreat
open Go.Proofs.Tryz
open Go.RowKit
abbrev ae :Bool:=true
abbrev af :Bool:=false
namespace Reg2
abbrev Kind.mU (v:Value):Kind:=.minor Unit () (fun _=>v) (fun _ _=>True)
theorem rd {P:Program}{ops:Array Oper}(w0:World)(k N:Nat)(ms:List (List Bool))(tags:List Nat)(ks:List Kind){a:Act}{w:World}{id:Nat}{Q:Exit→Act→World→Prop}
 (hm:P.follows .mixedOrders=true) (hok:((okB ops k N ms tags&&(ms.length == k)&&(tags.length == k)&&decide (0<k))&&(ops.toList.take k).all (fun o=>o.dst.isSome))=true)
 (zU:ks.map bU=tags) (hN:a.tmps.size=N) (hst:stays (fun a b=>Below a.heap.size a b) (mk ops k ks ms)) (hI:Below w0.heap.size w0 w.drew)
 (hp:pass P ops (fun W=>Below w0.heap.size w0 W) (fun _ _=>True) (fun a b=>Below a.heap.size a b) (Last P ops (fun W=>Below w0.heap.size w0 W) (fun _ _=>True) Q k) (mk ops k ks ms) a [] []):(Code.region id ops true).wp P Q a w:=
 vo k N ms tags ks (fun W=>Below w0.heap.size w0 W) (fun _ _=>True) (fun a b=>Below a.heap.size a b) hm hok zU hN (fun _ _ _ _ _=>trivial) (fun _ _ he hb=>hb.trans (Below.mono he hb.size)) (fun _ _ he hb=>hb.trans (Below.mono he hb.size)) hst hI trivial hp
theorem tt {G:World→World→Prop}:xV G (Kind.mU .nilFunc):=⟨fun _ _ _ _ _=>trivial,fun _ _ _ _ _=>trivial⟩
section
variable {P : Program} {ops : Array Oper} {I : World → Prop} {S : List Value → World → Prop} {G : World → World → Prop} {fin : Act → List (World → Prop) → List Value → Prop} {o : Oper} {m : List Bool} {r : List (Oper × Kind × List Bool)} {a : Act} {F : List (World → Prop)} {vs : List Value}
theorem pm {α:Type}{d:α}{val:α→Value}{Post:α→World→Prop}(h:∀w,I w→facts w m F→wpList P ops (Done o (fun v w'=>(∃x:α,v=val x∧Post x w')∧Ext w w') a) [o] a w)(hn:∀x:α,pass P ops I S G fin r (a.put o.dst (val x)) (F++[Post x]) vs)(hw:Region.wanted o (yielded ops a.tmps)=true):pass P ops I S G fin ((o,.minor α d val Post,m)::r) a F vs:=az hw h hn
theorem pp {α:Type}{d:α}{val:α→Value}{Post:α→World→Prop}(h:∀w,I w→S vs w→facts w m F→wpList P ops (Done o (fun v w'=>(∃x:α,v=val x∧Post x w')∧Ext w w') a) [o] a w)(hn:∀x:α,pass P ops I S G fin r (a.put o.dst (val x)) (F++[Post x]) vs)(hw:Region.wanted o (yielded ops a.tmps)=true):pass P ops I S G fin ((o,.pinned α d val Post,m)::r) a F vs:=G5 hw h hn
theorem pj {α:Type}{d:α}{val:α→Value}(h:∀w,I w→S vs w→facts w m F→wpList P ops (Done o (fun v w'=>((∃x:α,v=val x)∧S (vs++[v]) w')∧G w w') a) [o] a w)(hn:∀x:α,pass P ops I S G fin r (a.put o.dst (val x)) (F++[mf]) (vs++[val x]))(hw:Region.wanted o (yielded ops a.tmps)=true):pass P ops I S G fin ((o,.major α d val,m)::r) a F vs:=Jn hw h hn

end
end Reg2
open Go.Lib
structure aB (S : Nat → Prop) (w w' : World) : Prop where
 os:w'.os=w.os
 tape:w'.tape=w.tape
 output:w'.output=w.output
 size:w.heap.size≤w'.heap.size
 block:∀k,k<w.heap.size→¬S k→w'.heap[k]? =w.heap[k]?
def aY (w:World)(S S':Nat→Prop):Prop:=∀k,S' k→S k∨w.heap.size≤k
section
variable {S S' : Nat → Prop} {w w1 w2 : World}
theorem aB.refl (S:Nat→Prop)(w:World):aB S w w:=⟨rfl,rfl,rfl,qaf _,fun _ _ _=>rfl⟩
theorem aB.of_below (h:Below w.heap.size w w1):aB S w w1:=⟨h.os,h.tape,h.output,h.size,fun k hk _=>h.block k hk⟩
theorem aB.Ci {g:Nat}(h:Put.Off g g w w1)(hg:S g):aB S w w1:=⟨h.os,h.tape,h.output,h.size,fun k hk hn=>h.block k hk (fun e=>hn (e▸hg)) (fun e=>hn (e▸hg))⟩
theorem aB.trans (h:aB S w w1)(h':aB S' w1 w2)(hg:aY w S S'):aB S w w2:=
 ⟨h'.os.trans h.os,h'.tape.trans h.tape,h'.output.trans h.output,Nat.le_trans h.size h'.size,fun k hk hn=>by
  rw[h'.block k (Nat.lt_of_lt_of_le hk h.size) (fun hs=>(hg k hs).elim hn (fun hle=>absurd hk (Nat.not_lt.2 hle)))];exact h.block k hk hn⟩
theorem aB.below {B:Nat}(h:aB S w w1)(hS:∀k,S k→B≤k)(hB:B≤w.heap.size):Below B w w1:=
 ⟨h.os,h.tape,h.output,h.size,fun k hk=>h.block k (by omega) (fun hs=>absurd (hS k hs) (by omega))⟩
theorem aY.refl (w:World)(S:Nat→Prop):aY w S S:=fun _ h=>.inl h
theorem aY.trans {Yx:Nat→Prop}(h:aY w S S')(h':aY w1 S' Yx)(hs:w.heap.size≤w1.heap.size):aY w S Yx:=fun k hk=>(h' k hk).elim (h k) (fun hle=>.inr (by omega))
end
def ax (p:Nat)(dv lv:Value)(k:Nat):Prop:=k=p∨dv.ownBlock=some k∨lv.ownBlock=some k
structure MW (w : World) (p : Nat) (dv lv : Value) (M : Md) : Prop where
 cell:w.heap[p]? =some (.cells #[.int .i64 M.now,dv,lv,.bool M.cl] 94 (0,0))
 dr:w.ownsRow 0 4 1 dv M.dr.length (M.dr.flatMap rZ)
 js:w.ownsRow 0 55 10 lv M.L.length (M.L.flatMap ag)
section
variable {w w' : World} {p g n cap m : Nat} {dv lv : Value} {M : Md}
theorem MW.read (h:MW w p dv lv M):MR w p dv lv M:=⟨h.cell,aL.iB h.dr (fun _=>rfl) rfl rfl,aL.iB h.js aA rfl rfl⟩
theorem MW.lt (h:MW w p dv lv M):p<w.heap.size:=ai h.cell
theorem MW.kept (h:MW w p dv lv M)(hb:Below w.heap.size w w'):MW w' p dv lv M:=⟨(hb.block p h.lt).trans h.cell,Put.gN h.dr hb,Put.gN h.js hb⟩
theorem jN {e:TypeId}{sz n B k:Nat}{v:Value}{xs:List Value}(h:w.ownsRow B e sz v n xs)(hk:v.ownBlock=some k):∃cur,w.heap[k]? =some (.cells cur e (0,0)):=by
 obtain⟨_,⟨rfl,_⟩|⟨g,cap,cur,rfl,_,hh,_⟩⟩:=h
 ·cases hk
 ·have:k=g:=by simpa[Value.ownBlock]using hk.symm
  subst this;exact⟨cur,hh⟩
theorem MW.xZ (h:MW w p dv lv M){k:Nat}(hk:lv.ownBlock=some k):k≠p∧dv.ownBlock≠some k:=by
 obtain⟨c1,h1⟩:=jN h.js hk;refine⟨Put.bX h1 h.cell (by decide),fun hd=>?_⟩;obtain⟨c2,h2⟩:=jN h.dr hd;rw[h1]at h2;exact absurd (Obj.cells.inj (Option.some.inj h2)).2.1 (by decide)
theorem MW.G6 (h:MW w p dv lv M){k:Nat}(hk:dv.ownBlock=some k):k≠p:=by
 obtain⟨c1,h1⟩:=jN h.dr hk;exact Put.bX h1 h.cell (by decide)
theorem jE {e:TypeId}{sz n B:Nat}{v:Value}{xs:List Value}(h:w.ownsRow B e sz v n xs)(hk:∀k,v.ownBlock=some k→w'.heap[k]? =w.heap[k]?):w'.ownsRow B e sz v n xs:=bH h hk
theorem G7 (L:List Jb)(m:Nat):(L.flatMap ag).take (m*10)=(L.take m).flatMap ag:=by
 induction L generalizing m with
 |nil=>simp
 |cons a L ih=>
  cases m with
  |zero=>simp
  |succ m=>
   rw[List.flatMap_cons,List.take_succ_cons,List.flatMap_cons,←ih m,List.take_append];have h10:(ag a).length=10:=rfl;rw[List.take_of_length_le (by rw[h10];omega),h10];congr 2;omega
theorem G8 (L:List Jb)(m:Nat):(L.flatMap ag).drop (m*10)=(L.drop m).flatMap ag:=by
 induction L generalizing m with
 |nil=>simp
 |cons a L ih=>
  cases m with
  |zero=>simp
  |succ m=>
   rw[List.flatMap_cons,List.drop_succ_cons,←ih m,List.drop_append];have h10:(ag a).length=10:=rfl;rw[List.drop_eq_nil_of_le (by rw[h10];omega),h10,xD];congr 1;omega
theorem MW.put (h:MW w p dv (.slice (some ⟨g,0,none⟩) n cap) M)(hm:m<M.L.length)(x:Jb):
 ∃w',Sem.run prog (storeCells ⟨g,m*10,none⟩ (ag x) 0) w=.ok () w'∧MW w' p dv (.slice (some ⟨g,0,none⟩) n cap) {M with L:=M.L.set m x}∧aB (ax p dv (.slice (some ⟨g,0,none⟩) n cap)) w w':=by
 have hlen:n=M.L.length:=by
  rcases h.js.2 with⟨e0,_⟩|⟨g',cap',cur,e0,_⟩
  ·cases e0
  ·cases e0;rfl
 subst hlen;have hb:(Value.slice (some ⟨g,0,none⟩) M.L.length cap).ownBlock=some g:=rfl;obtain⟨w',h1,h2,h3⟩:=Put.tF h.js (m*10) (ag x) (by rw[aA];omega) (dO x);have e:(M.L.flatMap ag).take (m*10)++ag x++(M.L.flatMap ag).drop (m*10+(ag x).length)=(M.L.set m x).flatMap ag:=by
  rw[aA,show m*10+10=(m+1)*10 from by omega,G7,G8,List.set_eq_take_append_cons_drop,qaj hm,List.flatMap_append,List.flatMap_cons,List.append_assoc]
 rw[e]at h2;obtain⟨hne,hnd⟩:=h.xZ hb;refine⟨w',h1 _,⟨by rw[h3.block p h.lt (Ne.symm hne) (Ne.symm hne)];exact h.cell,jE h.dr fun k hk=>?_,by show w'.ownsRow _ _ _ _ (M.L.set m x).length _;rw[List.length_set];exact h2⟩,aB.Ci h3 (.inr (.inr rfl))⟩;have hkg:k≠g:=fun e=>hnd (e▸hk);exact h3.block k (h.dr.lt k hk).2 hkg hkg
end
def eB (L:List Jb)(j:Jb)(i:Nat):List Jb:=(L.take i).map (fB j)++L.drop i
theorem pI (L:List Jb)(j:Jb)(i:Nat):(eB L j i).length=L.length:=by simp[eB];omega
theorem CE {L:List Jb}{i:Nat}(j:Jb)(hi:i<L.length):(eB L j i).getD i default=L.getD i default:=by
 unfold eB;have:((L.take i).map (fB j)).length=i:=by simp;omega
 rw[List.getD,List.getElem?_append_right (by omega),this,Nat.sub_self,List.getElem?_drop,Nat.add_zero];rfl
theorem A7 {L:List Jb}{i:Nat}(j:Jb)(hi:i<L.length):(eB L j i).set i (fB j (L.getD i default))=eB L j (i+1):=by
 unfold eB;have hl:((L.take i).map (fB j)).length=i:=by simp;omega
 rw[List.set_append_right _ _ (by omega),hl,Nat.sub_self,List.drop_eq_getElem_cons hi,xB,List.take_succ_eq_append_getElem hi,List.map_append,List.append_assoc];simp[List.getD,hi]
theorem G9 {L:List Jb}{i:Nat}{j:Jb}(hi:i<L.length)(h:fB j (L.getD i default)=L.getD i default):eB L j i=eB L j (i+1):=by
 rw[←A7 j hi,h];have:=CE j hi;rw[List.getD,List.getElem?_eq_getElem (by rw[pI];exact hi),Option.getD_some]at this;rw[←this,List.set_getElem_self]
theorem Jo (L:List Jb)(j:Jb):eB L j L.length=L.map (fB j):=by simp[eB]
theorem iN {W:World}{b:Nat}{x:Jb}(h:W.heap[b]? =some (.cells (ag x).toArray 55 (0,0))):∀q u,(ag x)[q]? =some u→W.cell? ⟨b,q,none⟩=some u:=by
 intro q u hq;simp[World.cell?,h,hq]
theorem kQ {W:World}{b:Nat}{x:Jb}(h:W.heap[b]? =some (.cells (ag x).toArray 55 (0,0)))(q:Nat):W.frozen? ⟨b,q,none⟩=false:=by simp[World.frozen?,h]
theorem aB.later {S:Nat→Prop}{B:Nat}{w w1 w2:World}(h:aB S w w1)(hb:Below B w1 w2)(hB:w.heap.size≤B):aB S w w2:=
 ⟨hb.os.trans h.os,hb.tape.trans h.tape,hb.output.trans h.output,Nat.le_trans h.size hb.size,fun k hk hn=>(hb.block k (Nat.lt_of_lt_of_le hk hB)).trans (h.block k hk hn)⟩
section
variable {w w' : World} {p : Nat} {dv lv : Value} {M : Md}
theorem MW.cK {B:Nat}(h:MW w p dv lv M)(hb:Below B w w')(hB:∀k,ax p dv lv k→k<B):MW w' p dv lv M:=
 ⟨(hb.block p (hB p (.inl rfl))).trans h.cell,jE h.dr fun k hk=>hb.block k (hB k (.inr (.inl hk))),jE h.js fun k hk=>hb.block k (hB k (.inr (.inr hk)))⟩
theorem CF (h:MW w p dv lv M)(hb:MB M)(j:Jb):Calls prog 156 #[.pointer (some ⟨p,0,none⟩),.agg (ag j).toArray] w fun e w'=>e=.returned (.tuple #[])∧MW w' p dv lv (eH M j)∧aB (ax p dv lv) w w':=by
 have hll:=hb.ll;obtain⟨n,hn⟩:=qaa (M.L.length);rw[←hn]at hll;have Vb:eH M j={M with L:=eB M.L j n}:=by rw[hn,Jo];rfl
 rw[Vb];obtain⟨wA,aj⟩:=qaa (w.alloc (.cells (ag j).toArray 55));have Jp:Hid (wA.heap[w.heap.size]? =some (.cells (ag j).toArray 55 (0,0))):=by show _=_;rw[aj];exact heap_alloc_new w _
 have aC:Below w.heap.size w wA:=by rw[aj];exact qac.alloc (qaf _) _
 have aP:=h.kept aC;have hp0:Hid (∀k,ax p dv lv k→k<w.heap.size):=by
  intro k hk;rcases hk with rfl|hk|hk
  ·exact h.lt
  ·exact(h.dr.lt k hk).2
  ·exact(h.js.lt k hk).2
 obtain⟨ao,cap,hlv,hcap,Ha,hsome⟩:=bE h.js;rw[←hn]at hlv hcap hsome;subst hlv;replace hb:=qae hb;replace hn:=qae hn;have yZ:=qae aC;clear h Vb aC;go_enter func156,ntmps156;go_wp2_with fail;rw[←aj];replace aj:=qae aj;go_loopw [4] (fun ii wr=>∃i:Nat,i≤n∧ii=.int .i64 i∧Hid (MW wr p dv (.slice ao n cap) {M with L:=eB M.L j i})∧Hid (aB (ax p dv (.slice ao n cap)) wA wr)) (fun ii _=>n-(intOf ii).toNat)
 case atStart=>exact⟨0,Nat.zero_le _,rfl,aP,aB.refl _ _⟩
 case round=>
  obtain⟨i,hi,rfl,iU,hof⟩:=hrel;have c2:=iU.out.read.c2;by_cases hlt:i<n
  ·have b2:(i:Int)<(n:Int):=by omega
   have b0:(0:Int)≤(i:Int):=by omega
   have wi:IntKind.i64.wrap ((i:Int)+1)=(i:Int)+1:=by rw[IntKind.wrap_i64];omega
   have fw:i<M.L.length:=by rw[←hn.out];exact hlt
   obtain⟨g,rfl⟩:=hsome (by omega);obtain⟨b5,qg,cap5,hv5,_,_,hb5,hc⟩:=iU.out.read.js.mr i (by show i<(eB M.L j i).length;rw[pI];exact fw);replace hv5:Value.slice (some ⟨g,0,none⟩) n cap=.slice (some ⟨b5,qg,none⟩) (eB M.L j i).length cap5:=hv5;rw[pI,←hn.out]at hv5;obtain⟨Jq,Jr⟩:g=b5∧qg=0:=by injection hv5 with h1 _ _;injection h1 with h1;injection h1 with h1 h2 _;exact⟨h1,h2.symm⟩
   subst Jq Jr;clear hv5;replace hc:∀q u,(ag ((eB M.L j i).getD i default))[q]? =some u→wr.cell? ⟨g,0+i*10+q,none⟩=some u:=hc;rw[CE j fw]at hc;have hsz:wA.heap.size≤wr.heap.size:=hof.out.size;have Xh:Hid (wr.heap[w.heap.size]? =some (.cells (ag j).toArray 55 (0,0))):=(hof.out.block _ (ai Jp.out) (fun hk=>absurd (hp0.out _ hk) (Nat.lt_irrefl _))).trans Jp.out;have hsame:=fun h=>G9 (j:=j) fw h;have hset:=A7 j fw;generalize M.L.getD i default=y at*;have hdj:fB j y=if ay y&&(decide (j.id=0)||bA j y)then y.aR (-1)else y:=rfl
   obtain⟨x1,x2,x3,x4,x5,x6,x7,x8,x9,x0⟩:=y;have e0:=hc 0 _ rfl;have e1:=hc 1 _ rfl;have e2:=hc 2 _ rfl;have e3:=hc 3 _ rfl;have e4:=hc 4 _ rfl;have e5:=hc 5 _ rfl;have e6:=hc 6 _ rfl;have e7:=hc 7 _ rfl;have e8:=hc 8 _ rfl;have e9:=hc 9 _ rfl;rw[Nat.add_zero]at e0;simp only[Nat.zero_add]at e0 e1 e2 e3 e4 e5 e6 e7 e8 e9;obtain⟨wn,hwn⟩:=qaa (wr.alloc (.cells #[.int .i64 x1,.int .i64 x2,.int .i64 x3,.int .i64 x4,.int .i64 x5,.int .i64 x6,.int .i64 x7,.int .i64 x8,.int .i64 x9,.int .u64 x0] 55));have hxa:Hid (wn.heap[wr.heap.size]? =some (.cells (ag (x1,x2,x3,x4,x5,x6,x7,x8,x9,x0)).toArray 55 (0,0))):=by show _=_;rw[hwn];exact heap_alloc_new wr _
   have hbn:Hid (Below wr.heap.size wr wn):=by show Below _ _ _;rw[hwn];exact qac.alloc (qaf _) _
   have hwz:Hid (wr.heap.size<wn.heap.size):=ai hxa.out;have hpl:=pF (x1,x2,x3,x4,x5,x6,x7,x8,x9,x0) wn;rw[dP,hwn]at hpl;clear hc;have hyT:Hid ((x1,x2,x3,x4,x5,x6,x7,x8,x9,x0)=((x1,x2,x3,x4,x5,x6,x7,x8,x9,x0):Jb)):=rfl;have hzp:(Jb.aR (x1,x2,x3,x4,x5,x6,x7,x8,x9,x0) (-1))=(x1,x2,x3,x4,x5,x6,x7,x8,-1,x0):=rfl;rw[hzp]at hdj;have hah:=qae (fun W=>Ff j (x1,x2,x3,x4,x5,x6,x7,x8,x9,x0) W);generalize hpq:ay (x1,x2,x3,x4,x5,x6,x7,x8,x9,x0)=q at*;generalize haq:bA j (x1,x2,x3,x4,x5,x6,x7,x8,x9,x0)=r at*;replace hpq:=qae hpq;replace haq:=qae haq;go_wp2_with fail;go_at_call 111;refine hpl.mono ?_;clear hpl e0 e1 e2 e3 e4 e5 e6 e7 e8 e9 c2;rw[←hwn];rintro e w1 ⟨rfl,hb1⟩;replace hwn:=qae hwn;have sj:Hid (Below wr.heap.size wr w1):=hbn.out.trans (hb1.mono hbn.out.size);have hx1:Hid (w1.heap[wr.heap.size]? =some (.cells (ag (x1,x2,x3,x4,x5,x6,x7,x8,x9,x0)).toArray 55 (0,0))):=(hb1.block _ hwz.out).trans hxa.out;have Vd:Hid (w1.heap[w.heap.size]? =some (.cells (ag j).toArray 55 (0,0))):=(sj.out.block _ (ai Xh.out)).trans Xh.out;have hM1:Hid (MW w1 p dv (.slice (some ⟨g,0,none⟩) n cap) {M with L:=eB M.L j i}):=iU.out.kept sj.out;have sD:Hid (aB (ax p dv (.slice (some ⟨g,0,none⟩) n cap)) wA w1):=hof.out.trans (aB.of_below (S:=ax p dv (.slice (some ⟨g,0,none⟩) n cap)) sj.out) (aY.refl _ _);clear hb1 sj hxa Xh iU hof hbn;cases q
   ·have hno:Hid (fB j (x1,x2,x3,x4,x5,x6,x7,x8,x9,x0)=(x1,x2,x3,x4,x5,x6,x7,x8,x9,x0)):=by show _=_;rw[hdj];simp
    go_wp2_with fail;go_roundw
    case rel=>exact⟨i+1,by omega,by go_num,by rw[←hsame hno.out];exact hM1.out,sD⟩
    case measure=>simp[intOf];omega
   ·by_cases hj0:j.1=0
    ·have d0:((j.1:Int) == 0)=true:=by rw[hj0];rfl
     have hdr:Hid (fB j (x1,x2,x3,x4,x5,x6,x7,x8,x9,x0)=(x1,x2,x3,x4,x5,x6,x7,x8,-1,x0)):=by show _=_;rw[hdj,show j.id=0 from hj0];simp
     have g0:w1.cell? ⟨w.heap.size,0,none⟩=some (.int .i64 j.1):=iN Vd.out 0 _ rfl;have yc:w1.cell? ⟨wr.heap.size,8,none⟩=some (.int .i64 x9):=iN (x:=(x1,x2,x3,x4,x5,x6,x7,x8,x9,x0)) hx1.out 8 _ rfl;have CG:w1.frozen? ⟨wr.heap.size,8,none⟩=false:=kQ hx1.out 8;have hbS:Below wr.heap.size w1 (w1.setCell ⟨wr.heap.size,8,none⟩ (.int .i64 (-1))):=Below.setCell (p:=⟨wr.heap.size,8,none⟩) qac (qaf _) _;obtain⟨wB,cO⟩:=qaa (w1.setCell ⟨wr.heap.size,8,none⟩ (.int .i64 (-1)));have fD:Hid (wB.heap[wr.heap.size]? =some (.cells (ag (x1,x2,x3,x4,x5,x6,x7,x8,-1,x0)).toArray 55 (0,0))):=by show _=_;rw[cO];exact heap_put (i:=8) hx1.out (.int .i64 (-1))
     have iO:Hid (MW wB p dv (.slice (some ⟨g,0,none⟩) n cap) {M with L:=eB M.L j i}):=by show MW _ _ _ _ _;rw[cO];exact hM1.out.cK hbS (fun k hk=>Nat.lt_of_lt_of_le (hp0.out k hk) (Nat.le_trans yZ.out.size hsz))
     have gQ:Hid (aB (ax p dv (.slice (some ⟨g,0,none⟩) n cap)) wA wB):=by show aB _ _ _;rw[cO];exact sD.out.later hbS hsz
     clear hbS;replace hsame:=qae hsame;go_wp2_with fail;rw[←cO];replace cO:=qae cO;clear yc CG;have lX:=aA (x1,x2,x3,x4,x5,x6,x7,x8,-1,x0);have zJ:=bC;obtain⟨k10,hk10⟩:∃k,k=10:=⟨_,rfl⟩;rw[←hk10]at lX zJ;replace hk10:=qae hk10;refine Reg2.ro wB 6 42 [.p 0,.p 1,.p 3,.m 7,.p 0,.m 0] [.slice (some ⟨g,0,none⟩) n cap,.agg (ag (x1,x2,x3,x4,x5,x6,x7,x8,-1,x0)).toArray] (by kernel_rfl) (by kernel_rfl) rfl rfl ⟨rfl,rfl,rfl,qaf _,fun _ _=>rfl⟩ ?_;dsimp only[Reg2.fF]
     repeat((first
      |(refine' Reg2.ak _ (by rfl) (fun wz=>?_) ?_;rotate_left;(go_simp;first|rfl|rw[qai (by omega)]))
      |(refine Reg2.az (by rfl) (fun wz hI hF=>?_) (fun _=>?_)
        ·unfold Reg2.One;have d0:=(iO.out.kept hI).read.c2;have qY:=bJ ((hI.block _ (ai fD.out)).trans fD.out) lX;go_wp2_with fail
         first|exact⟨_,rfl,rfl,qad⟩|exact⟨_,rfl,⟨(),rfl,trivial⟩,qad⟩));simp only[Act.put,xA,xB,xC,xD,xE,id])
     refine Reg2.aD ?_;intro w7 dC _ gF;clear gF;dsimp only[List.drop];have vw:=iO.out.kept dC;obtain⟨w8,Ez,sV,yf⟩:=vw.put (m:=i) (by show i<(eB M.L j i).length;rw[pI];exact fw) (x1,x2,x3,x4,x5,x6,x7,x8,-1,x0);have RX:Hid ((eB M.L j i).set i (x1,x2,x3,x4,x5,x6,x7,x8,-1,x0)=eB M.L j (i+1)):=by show _=_;rw[←hset,hdr.out]
     have Js:Hid (MW w8 p dv (.slice (some ⟨g,0,none⟩) n cap) {M with L:=eB M.L j (i+1)}):=by
      show MW _ _ _ _ _;rw[←RX.out];exact sV
     have sF:Hid (aB (ax p dv (.slice (some ⟨g,0,none⟩) n cap)) wA w8):=(gQ.out.trans (aB.of_below (S:=ax p dv (.slice (some ⟨g,0,none⟩) n cap)) dC) (aY.refl _ _)).trans yf (aY.refl _ _);rw[←hk10.out]at Ez;clear vw sV yf dC hset;go_wp2_with fail;go_roundw
     case rel=>exact⟨i+1,by omega,by go_num,Js,sF⟩
     case measure=>simp[intOf];omega
    ·have d0:((j.1:Int) == 0)=false:=by simp[hj0]
     have g0:w1.cell? ⟨w.heap.size,0,none⟩=some (.int .i64 j.1):=iN Vd.out 0 _ rfl;have lJ:=aA j;have lX:=aA (x1,x2,x3,x4,x5,x6,x7,x8,x9,x0);have zJ:=bC;obtain⟨k10,hk10⟩:∃k,k=10:=⟨_,rfl⟩;rw[←hk10]at lJ lX zJ;replace hk10:=qae hk10;have l1:=bJ Vd.out lJ;have l2:=bJ hx1.out lX;have Wn:=hah.out w1;clear hah;go_wp2_with fail;go_at_call 198;refine Wn.mono ?_;clear Wn l1 l2 g0 lJ lX zJ hk10;rintro e w2 ⟨rfl,hb2⟩;have hbz:wr.heap.size<w1.heap.size:=ai hx1.out;have hx2:Hid (w2.heap[wr.heap.size]? =some (.cells (ag (x1,x2,x3,x4,x5,x6,x7,x8,x9,x0)).toArray 55 (0,0))):=(hb2.block _ hbz).trans hx1.out;have hM2:Hid (MW w2 p dv (.slice (some ⟨g,0,none⟩) n cap) {M with L:=eB M.L j i}):=hM1.out.kept hb2;have tN:Hid (aB (ax p dv (.slice (some ⟨g,0,none⟩) n cap)) wA w2):=sD.out.later hb2 sD.out.size;clear hb2 hx1 hM1 sD Vd;cases r
     ·have hno:Hid (fB j (x1,x2,x3,x4,x5,x6,x7,x8,x9,x0)=(x1,x2,x3,x4,x5,x6,x7,x8,x9,x0)):=by show _=_;rw[hdj,show decide (j.id=0)=false from qah hj0];simp
      go_wp2_with fail;go_roundw
      case rel=>exact⟨i+1,by omega,by go_num,by rw[←hsame hno.out];exact hM2.out,tN⟩
      case measure=>simp[intOf];omega
     ·have hdr:Hid (fB j (x1,x2,x3,x4,x5,x6,x7,x8,x9,x0)=(x1,x2,x3,x4,x5,x6,x7,x8,-1,x0)):=by show _=_;rw[hdj];simp
      have yc:w2.cell? ⟨wr.heap.size,8,none⟩=some (.int .i64 x9):=iN (x:=(x1,x2,x3,x4,x5,x6,x7,x8,x9,x0)) hx2.out 8 _ rfl;have CG:w2.frozen? ⟨wr.heap.size,8,none⟩=false:=kQ hx2.out 8;have hbS:Below wr.heap.size w2 (w2.setCell ⟨wr.heap.size,8,none⟩ (.int .i64 (-1))):=Below.setCell (p:=⟨wr.heap.size,8,none⟩) qac (qaf _) _;obtain⟨wB,cO⟩:=qaa (w2.setCell ⟨wr.heap.size,8,none⟩ (.int .i64 (-1)));have fD:Hid (wB.heap[wr.heap.size]? =some (.cells (ag (x1,x2,x3,x4,x5,x6,x7,x8,-1,x0)).toArray 55 (0,0))):=by show _=_;rw[cO];exact heap_put (i:=8) hx2.out (.int .i64 (-1))
      have iO:Hid (MW wB p dv (.slice (some ⟨g,0,none⟩) n cap) {M with L:=eB M.L j i}):=by show MW _ _ _ _ _;rw[cO];exact hM2.out.cK hbS (fun k hk=>Nat.lt_of_lt_of_le (hp0.out k hk) (Nat.le_trans yZ.out.size hsz))
      have gQ:Hid (aB (ax p dv (.slice (some ⟨g,0,none⟩) n cap)) wA wB):=by show aB _ _ _;rw[cO];exact tN.out.later hbS hsz
      clear hbS;replace hsame:=qae hsame;go_wp2_with fail;rw[←cO];replace cO:=qae cO;clear yc CG;have lX:=aA (x1,x2,x3,x4,x5,x6,x7,x8,-1,x0);have zJ:=bC;obtain⟨k10,hk10⟩:∃k,k=10:=⟨_,rfl⟩;rw[←hk10]at lX zJ;replace hk10:=qae hk10;refine Reg2.ro wB 6 42 [.p 0,.p 1,.p 3,.m 7,.p 0,.m 0] [.slice (some ⟨g,0,none⟩) n cap,.agg (ag (x1,x2,x3,x4,x5,x6,x7,x8,-1,x0)).toArray] (by kernel_rfl) (by kernel_rfl) rfl rfl ⟨rfl,rfl,rfl,qaf _,fun _ _=>rfl⟩ ?_;dsimp only[Reg2.fF]
      repeat((first
       |(refine' Reg2.ak _ (by rfl) (fun wz=>?_) ?_;rotate_left;(go_simp;first|rfl|rw[qai (by omega)]))
       |(refine Reg2.az (by rfl) (fun wz hI hF=>?_) (fun _=>?_)
         ·unfold Reg2.One;have d0:=(iO.out.kept hI).read.c2;have qY:=bJ ((hI.block _ (ai fD.out)).trans fD.out) lX;go_wp2_with fail
          first|exact⟨_,rfl,rfl,qad⟩|exact⟨_,rfl,⟨(),rfl,trivial⟩,qad⟩));simp only[Act.put,xA,xB,xC,xD,xE,id])
      refine Reg2.aD ?_;intro w7 dC _ gF;clear gF;dsimp only[List.drop];have vw:=iO.out.kept dC;obtain⟨w8,Ez,sV,yf⟩:=vw.put (m:=i) (by show i<(eB M.L j i).length;rw[pI];exact fw) (x1,x2,x3,x4,x5,x6,x7,x8,-1,x0);have RX:Hid ((eB M.L j i).set i (x1,x2,x3,x4,x5,x6,x7,x8,-1,x0)=eB M.L j (i+1)):=by show _=_;rw[←hset,hdr.out]
      have Js:Hid (MW w8 p dv (.slice (some ⟨g,0,none⟩) n cap) {M with L:=eB M.L j (i+1)}):=by
       show MW _ _ _ _ _;rw[←RX.out];exact sV
      have sF:Hid (aB (ax p dv (.slice (some ⟨g,0,none⟩) n cap)) wA w8):=(gQ.out.trans (aB.of_below (S:=ax p dv (.slice (some ⟨g,0,none⟩) n cap)) dC) (aY.refl _ _)).trans yf (aY.refl _ _);rw[←hk10.out]at Ez;clear vw sV yf dC hset;go_wp2_with fail;go_roundw
      case rel=>exact⟨i+1,by omega,by go_num,Js,sF⟩
      case measure=>simp[intOf];omega
  ·obtain rfl:i=n:=by omega
   have b2:¬(i:Int)<(i:Int):=by omega
   have hfin:Hid (aB (ax p dv (.slice ao i cap)) w wr):=(aB.of_below (S:=ax p dv (.slice ao i cap)) yZ.out).trans hof.out (aY.refl _ _);go_wp2_with fail;refine bodyPost_end (results_none rfl _ _ _) rfl ?_;exact⟨rfl,iU.out,hfin.out⟩
end
theorem oH (M:Md)(wid:Int)(k:Nat):(lowGo M wid k).1<2^k∧0≤(lowGo M wid k).2∧(lowGo M wid k).2≤k:=by
 induction k with
 |zero=>simp[lowGo]
 |succ k ih=>
  have h2:2^(k+1)=2*2^k:=by rw[Nat.pow_succ,Nat.mul_comm]
  unfold lowGo;split
  ·refine⟨?_,?_,?_⟩
   ·show(lowGo M wid k).1+2^k<_;omega
   ·show 0≤(lowGo M wid k).2+1;omega
   ·show(lowGo M wid k).2+1≤_;omega
  ·refine⟨by omega,ih.2.1,by omega⟩
section
variable {w w' : World} {p : Nat} {dv lv : Value} {M : Md}
theorem Fx (h:MW w p dv lv M)(hb:MB M)(i:Nat)(hi:i<M.L.length):Calls prog 90 #[.pointer (some ⟨p,0,none⟩),.int .i64 i] w fun e w'=>e=.returned (.tuple #[])∧MW w' p dv lv (bG M i)∧aB (ax p dv lv) w w':=by
 have hll:=hb.ll;have hnn:=hb.nn;have fK:=hb.now;obtain⟨n,hn⟩:=qaa (M.L.length);obtain⟨N,hN⟩:=qaa (M.dr.length);have hin:(i:Int)<(n:Int):=by omega
 rw[←hn]at hll;rw[←hN]at hnn;obtain⟨ao,cap,hlv,hcap,Ha,hsome⟩:=bE h.js;rw[←hn]at hlv hcap hsome;obtain⟨g,rfl⟩:=hsome (by omega);subst hlv;obtain⟨b5,qg,cap5,hv5,_,_,hb5,hc⟩:=h.read.js.mr i hi;obtain⟨Jq,Jr⟩:g=b5∧qg=0:=by injection hv5 with h1 _ _;injection h1 with h1;injection h1 with h1 h2 _;exact⟨h1,h2.symm⟩
 subst Jq Jr;clear hv5;have c2:=h.read.c2;have hmem:=qG hi;have hlim:=hb.lim _ hmem;have hbg:bG M i={M with L:=M.L.set i (gG M (M.L.getD i default))}:=rfl;rw[hbg];clear hbg hmem;generalize M.L.getD i default=y at*;obtain⟨x1,x2,x3,x4,x5,x6,x7,x8,x9,x0⟩:=y;have hlim:0≤x4∧x4≤1048576:=hlim;obtain⟨s,hs⟩:=qaa (jF M x3);obtain⟨T,hT⟩:=qaa (M.now);have hbj:gG M (x1,x2,x3,x4,x5,x6,x7,x8,x9,x0)=(x1,x2,x3,x4,x5,3,T,T+x4,-1,(s:Int)):=by rw[hs,hT];rfl
 rw[hbj];clear hbj;rw[←hT]at fK;have wTl:IntKind.i64.wrap (T+x4)=T+x4:=by rw[IntKind.wrap_i64];omega
 have e0:=hc 0 _ rfl;have e1:=hc 1 _ rfl;have e2:=hc 2 _ rfl;have e3:=hc 3 _ rfl;have e4:=hc 4 _ rfl;have e5:=hc 5 _ rfl;have e6:=hc 6 _ rfl;have e7:=hc 7 _ rfl;have e8:=hc 8 _ rfl;have e9:=hc 9 _ rfl;rw[Nat.add_zero]at e0;simp only[Nat.zero_add]at e0 e1 e2 e3 e4 e5 e6 e7 e8 e9;clear hc;obtain⟨wn,hwn⟩:=qaa (w.alloc (.cells #[.int .i64 x1,.int .i64 x2,.int .i64 x3,.int .i64 x4,.int .i64 x5,.int .i64 x6,.int .i64 x7,.int .i64 x8,.int .i64 x9,.int .u64 x0] 55));have hbn:Below w.heap.size w wn:=by rw[hwn];exact qac.alloc (qaf _) _
 have EA:Hid (MW wn p dv (.slice (some ⟨g,0,none⟩) n cap) M):=h.kept hbn;have LX:Hid (wn.heap[w.heap.size]? =some (.cells (ag (x1,x2,x3,x4,x5,x6,x7,x8,x9,x0)).toArray 55 (0,0))):=by show _=_;rw[hwn];exact heap_alloc_new w _
 have hp0:Hid (∀k,ax p dv (.slice (some ⟨g,0,none⟩) n cap) k→k<w.heap.size):=by
  intro k hk;rcases hk with rfl|hk|hk
  ·exact h.lt
  ·exact(h.dr.lt k hk).2
  ·exact(h.js.lt k hk).2
 have Fy:Hid (aB (ax p dv (.slice (some ⟨g,0,none⟩) n cap)) w wn):=aB.of_below hbn;obtain⟨dI,cap2,hdv,hdc,hdM⟩:=h.read.dr.shape;rw[←hN]at hdv hdc;clear h hbn hsome;replace hn:=qae hn;replace hN:=qae hN;replace hs:=qae hs;replace hT:=qae hT;replace hb:=qae hb;replace hi:=qae hi;go_enter func90,ntmps90;go_wp2_with fail;rw[←hwn];replace hwn:=qae hwn;clear e0 e1 e2 e3 e4 e5 e6 e7 e8 e9 c2;have c1:=EA.out.read.c1;rw[hdv]at c1;have g2:=iN LX.out 2 _ rfl;go_loopw [5,6,7,8] (fun ss uu nn kk wr=>∃(k u:Nat),k≤N∧u≤18446744073709551615∧Hid (k<64→u=2^k)∧ss=.int .u64 (((lowGo M x3 k).1:Nat):Int)∧uu=.int .u64 u∧nn=.int .i64 (lowGo M x3 k).2∧kk=.int .i64 k∧wn=wr) (fun _ _ _ kk _=>N-(intOf kk).toNat)
 case atStart=>exact⟨0,1,Nat.zero_le _,by omega,fun _=>rfl,rfl,rfl,rfl,rfl,rfl⟩
 case round=>
  obtain⟨k,u,hk,hu,Xi,rfl,rfl,rfl,rfl,rfl⟩:=hrel;have hlow:=oH M x3 k;by_cases hlt:k<N
  ·have b2:(k:Int)<(N:Int):=by omega
   have wi:IntKind.i64.wrap ((k:Int)+1)=(k:Int)+1:=by rw[IntKind.wrap_i64];omega
   have hst:=tH EA.out.read hb.out (k:Int);have hsu:lowGo M x3 (k+1)=if(lowGo M x3 k).2<x3∧aK M k=1 then((lowGo M x3 k).1+2^k,(lowGo M x3 k).2+1)else((lowGo M x3 k).1,(lowGo M x3 k).2):=rfl
   have hu2:u=2^k:=Xi.out (by omega);rw[←hu2]at hsu hlow;have hu64:2*u≤18446744073709551616:=by
    have h63:2^k≤2^63:=Nat.pow_le_pow_right (by decide) (by omega);rw[hu2];omega
   obtain⟨v,hv,hv64,hvk⟩:∃v:Nat,IntKind.u64.wrap (2*(u:Int))=(v:Int)∧v≤18446744073709551615∧Hid (k+1<64→v=2^(k+1)):=by
    refine⟨(IntKind.u64.wrap (2*(u:Int))).toNat,?_,?_,fun hk1=>?_⟩
    ·rw[IntKind.wrap_u64];omega
    ·rw[IntKind.wrap_u64];omega
    ·have h63:2^(k+1)≤2^63:=Nat.pow_le_pow_right (by decide) (by omega);have h2:2^(k+1)=2*2^k:=by rw[Nat.pow_succ,Nat.mul_comm]
     rw[IntKind.wrap_u64,hu2,h2];rw[h2]at h63;omega
   replace hu2:=qae hu2;have wS:IntKind.u64.wrap ((((lowGo M x3 k).1:Nat):Int)+(u:Int))=(((lowGo M x3 k).1+u:Nat):Int):=by rw[IntKind.wrap_u64];omega
   have wC:IntKind.i64.wrap ((lowGo M x3 k).2+1)=(lowGo M x3 k).2+1:=by rw[IntKind.wrap_i64];omega
   have hv':(2*(u:Int))%18446744073709551616=(v:Int):=by rw[←hv,IntKind.wrap_u64]
   generalize (lowGo M x3 k).1=S at*;generalize (lowGo M x3 k).2=C at*;generalize aK M (k:Int)=Z at*;clear Xi hlow hu64;by_cases k1:C<x3
   ·have m1:decide (C<x3)=true:=qag k1;by_cases k2:Z=1
    ·subst k2;rw[qaj ⟨k1,rfl⟩]at hsu;replace hsu:=qae hsu;go_wp2_with fail;go_at_call 74;refine hst.mono ?_;clear hst;rintro e w1 ⟨rfl,rfl⟩;go_wp2_with fail;go_roundw
     case rel=>exact⟨k+1,v,by omega,hv64,hvk,by rw[hsu.out];simp,by first|rfl|rw[hv'],by rw[hsu.out],by go_num,trivial⟩
     case measure=>simp[intOf];omega
    ·have m2:(Z == 1)=false:=by simp[k2]
     rw[qai (fun h=>k2 h.2)]at hsu;replace hsu:=qae hsu;clear k2;go_wp2_with fail;go_at_call 74;refine hst.mono ?_;clear hst;rintro e w1 ⟨rfl,rfl⟩;go_wp2_with fail;go_roundw
     case rel=>exact⟨k+1,v,by omega,hv64,hvk,by rw[hsu.out],by first|rfl|rw[hv'],by rw[hsu.out],by go_num,trivial⟩
     case measure=>simp[intOf];omega
   ·have m1:decide (C<x3)=false:=qah k1;rw[qai (fun h=>k1 h.1)]at hsu;replace hsu:=qae hsu;clear hst k1;go_wp2_with fail;go_roundw
    case rel=>exact⟨k+1,v,by omega,hv64,hvk,by rw[hsu.out],by first|rfl|rw[hv'],by rw[hsu.out],by go_num,trivial⟩
    case measure=>simp[intOf];omega
  ·obtain rfl:k=N:=by omega
   have b2:¬(k:Int)<(k:Int):=by omega
   have hsk:Hid ((lowGo M x3 k).1=s):=by show _=_;rw[hs.out,hN.out];rfl
   rw[hsk.out];have c0:=EA.out.read.c0;rw[←hT.out]at c0;have q5:=iN LX.out 5 _ rfl;have q6:=iN LX.out 6 _ rfl;have f5:=kQ LX.out 5;have f6:=kQ LX.out 6;obtain⟨wB,cO⟩:=qaa ((wn.setCell ⟨w.heap.size,5,none⟩ (.int .i64 3)).setCell ⟨w.heap.size,6,none⟩ (.int .i64 T));clear Xi hlow;go_wp2_with fail;rw[←cO];have fT:Below w.heap.size wn wB:=by rw[cO];exact Below.setCell (p:=⟨w.heap.size,6,none⟩) (Below.setCell (p:=⟨w.heap.size,5,none⟩) qac (qaf _) _) (qaf _) _
   have fD:Hid (wB.heap[w.heap.size]? =some (.cells (ag (x1,x2,x3,x4,x5,3,T,x8,x9,x0)).toArray 55 (0,0))):=by show _=_;rw[cO];exact heap_put (i:=6) (heap_put (i:=5) LX.out (.int .i64 3)) (.int .i64 T)
   have iO:Hid (MW wB p dv (.slice (some ⟨g,0,none⟩) n cap) M):=EA.out.cK fT hp0.out;have gQ:Hid (aB (ax p dv (.slice (some ⟨g,0,none⟩) n cap)) w wB):=Fy.out.later fT (qaf _);replace cO:=qae cO;clear fT EA LX Fy c0 q5 q6 f5 f6 g2 c1;have c0:=iO.out.read.c0;rw[←hT.out]at c0;have q3:=iN fD.out 3 _ rfl;have q7:=iN fD.out 7 _ rfl;have f7:=kQ fD.out 7;go_region;obtain⟨wC,eO⟩:=qaa ((wB.setCell ⟨w.heap.size,7,none⟩ (.int .i64 (T+x4))).drew);rw[←eO];have hbC:Below w.heap.size wB wC:=by rw[eO];exact(Below.setCell (p:=⟨w.heap.size,7,none⟩) qac (qaf _) _).drew
   have zV:Hid (wC.heap[w.heap.size]? =some (.cells (ag (x1,x2,x3,x4,x5,3,T,T+x4,x9,x0)).toArray 55 (0,0))):=by show _=_;rw[eO];exact heap_put (i:=7) fD.out (.int .i64 (T+x4))
   have mJ:Hid (MW wC p dv (.slice (some ⟨g,0,none⟩) n cap) M):=iO.out.cK hbC hp0.out;have jX:Hid (aB (ax p dv (.slice (some ⟨g,0,none⟩) n cap)) w wC):=gQ.out.later hbC (qaf _);replace eO:=qae eO;clear hbC iO fD gQ c0 q3 q7 f7;have q8:=iN zV.out 8 _ rfl;have f8:=kQ zV.out 8;have q9:=iN zV.out 9 _ rfl;have f9:=kQ zV.out 9;obtain⟨wD,Hd⟩:=qaa ((wC.setCell ⟨w.heap.size,8,none⟩ (.int .i64 (-1))).setCell ⟨w.heap.size,9,none⟩ (.int .u64 s));go_wp2_with fail;rw[←Hd];have hbD:Below w.heap.size wC wD:=by rw[Hd];exact Below.setCell (p:=⟨w.heap.size,9,none⟩) (Below.setCell (p:=⟨w.heap.size,8,none⟩) qac (qaf _) _) (qaf _) _
   have RY:Hid (wD.heap[w.heap.size]? =some (.cells (ag (x1,x2,x3,x4,x5,3,T,T+x4,-1,(s:Int))).toArray 55 (0,0))):=by show _=_;rw[Hd];exact heap_put (i:=9) (heap_put (i:=8) zV.out (.int .i64 (-1))) (.int .u64 s)
   have He:Hid (MW wD p dv (.slice (some ⟨g,0,none⟩) n cap) M):=mJ.out.cK hbD hp0.out;have Jt:Hid (aB (ax p dv (.slice (some ⟨g,0,none⟩) n cap)) w wD):=jX.out.later hbD (qaf _);replace Hd:=qae Hd;clear hbD mJ zV jX q8 f8 q9 f9;have b0:(0:Int)≤(i:Int):=by omega
   have lX:=aA (x1,x2,x3,x4,x5,3,T,T+x4,-1,(s:Int));have zJ:=bC;obtain⟨k10,hk10⟩:∃k,k=10:=⟨_,rfl⟩;rw[←hk10]at lX zJ;replace hk10:=qae hk10;refine Reg2.ro wD 6 66 [.p 0,.p 1,.p 3,.m 7,.p 0,.m 0] [.slice (some ⟨g,0,none⟩) n cap,.agg (ag (x1,x2,x3,x4,x5,3,T,T+x4,-1,(s:Int))).toArray] (by kernel_rfl) (by kernel_rfl) rfl rfl ⟨rfl,rfl,rfl,qaf _,fun _ _=>rfl⟩ ?_;dsimp only[Reg2.fF]
   repeat((first
    |(refine' Reg2.ak _ (by rfl) (fun wz=>?_) ?_;rotate_left;(go_simp;first|rfl|rw[qai (by omega)]))
    |(refine Reg2.az (by rfl) (fun wz hI hF=>?_) (fun _=>?_)
      ·unfold Reg2.One;have d0:=(He.out.kept hI).read.c2;have qY:=bJ ((hI.block _ (ai RY.out)).trans RY.out) lX;go_wp2_with fail
       first|exact⟨_,rfl,rfl,qad⟩|exact⟨_,rfl,⟨(),rfl,trivial⟩,qad⟩));simp only[Act.put,xA,xB,xC,xD,xE,id])
   refine Reg2.aD ?_;intro w7 dC _ gF;clear gF;dsimp only[List.drop];have vw:=He.out.kept dC;obtain⟨w8,Ez,sV,yf⟩:=vw.put (m:=i) hi.out (x1,x2,x3,x4,x5,3,T,T+x4,-1,(s:Int));have sF:Hid (aB (ax p dv (.slice (some ⟨g,0,none⟩) n cap)) w w8):=(Jt.out.trans (aB.of_below (S:=ax p dv (.slice (some ⟨g,0,none⟩) n cap)) dC) (aY.refl _ _)).trans yf (aY.refl _ _);replace sV:=qae sV;rw[←hk10.out]at Ez;clear vw yf dC;go_wp2_with fail;refine bodyPost_end (results_none rfl _ _ _) rfl ?_;exact⟨rfl,sV.out,sF.out⟩
end
theorem Pw {M:Md}{id t:Int}(h:eY M id t=true):1≤id∧id≤M.L.length:=by
 unfold eY at h;simp only at h;split at h
 ·cases h
 ·rename_i hn
  have:(getM M id).2≠false:=fun e=>hn (.inr (.inl e));unfold getM at this;split at this
  ·exact absurd rfl this
  ·omega
section
variable {w w' : World} {p : Nat} {dv lv : Value} {M : Md}
theorem MW.bF (h:MW w p dv lv M):∀k,ax p dv lv k→k<w.heap.size:=by
 intro k hk;rcases hk with rfl|hk|hk
 ·exact h.lt
 ·exact(h.dr.lt k hk).2
 ·exact(h.js.lt k hk).2
theorem lL {b:Nat}{x y:Jb}(h:w.heap[b]? =some (.cells (ag y).toArray 55 (0,0))):Sem.run prog (storeCells ⟨b,0,none⟩ (ag x) 0) w=.ok () (w.setRow b (ag x).toArray):=by
 have hst:=run_storeCells_at prog b 0 55 (ag x) 0 (ag y).toArray w h (by simp[aA]) (dO x);simp only[Nat.add_zero]at hst;rw[hst];rfl
theorem mP {B g:Nat}{w0 w:World}(hb:Below B w0 w)(hBg:B≤g)(cs:Array Value):Below B w0 (w.setRow g cs):=
 hb.trans ⟨rfl,rfl,rfl,by simp[World.setRow],fun k hk=>setRow_other w g k cs (by omega)⟩
theorem aT {B g:Nat}{w0 w:World}(hb:Below B w0 w)(hBg:B≤g)(j:Nat)(u:Value):Below B w0 (w.setCell ⟨g,j,none⟩ u):=Below.setCell (p:=⟨g,j,none⟩) hb hBg u
theorem MW.cells {g n cap i:Nat}(h:MW w p dv (.slice (some ⟨g,0,none⟩) n cap) M)(hi:i<M.L.length):∀q u,(ag (M.L.getD i default))[q]? =some u→w.cell? ⟨g,i*10+q,none⟩=some u:=by
 obtain⟨b5,qg,cap5,hv5,_,_,_,hc⟩:=h.read.js.mr i hi;obtain⟨e1,e2⟩:g=b5∧qg=0:=by injection hv5 with h1 _ _;injection h1 with h1;injection h1 with h1 h2 _;exact⟨h1,h2.symm⟩
 subst e1 e2;intro q u hq;have:=hc q u hq
 rwa [Nat.zero_add]at this
theorem LY (h:MW w p dv lv M)(hb:MB M)(id t:Int)(hid: -9223372036854775808≤id∧id≤9223372036854775807):Calls prog 32 #[.pointer (some ⟨p,0,none⟩),.agg #[.int .i64 id,.int .i64 t]] w fun e w'=>e=.returned (.bool (cZ M id t).1)∧MW w' p dv lv (cZ M id t).2∧aB (ax p dv lv) w w':=by
 obtain⟨wA,aj⟩:=qaa (w.alloc (.cells #[.int .i64 id,.int .i64 t] 35));have aC:Below w.heap.size w wA:=by rw[aj];exact qac.alloc (qaf _) _
 have sU:Hid (wA.heap[w.heap.size]? =some (.cells #[.int .i64 id,.int .i64 t] 35 (0,0))):=by show _=_;rw[aj];exact heap_alloc_new w _
 have aP:=qae (h.kept aC);have hp0:Hid (∀k,ax p dv lv k→k<w.heap.size):=h.bF;have hft:=RJ aP.out.read hb id t hid;rw[aj]at hft;have hcm:cZ M id t=if eY M id t then(if t=M.now then(true,bG M (id-1).toNat)else(true,{M with L:=M.L.set (id-1).toNat ((M.L.getD (id-1).toNat default).aR t)}))else(false,M):=rfl
 rw[hcm];clear hcm;have hfo:=Pw (M:=M) (id:=id) (t:=t);generalize hq:eY M id t=q at*;replace hq:=qae hq;cases q
 ·rw[qai (by decide)];clear hfo hid;have yZ:=qae aC;clear aC h;go_enter func32,ntmps32;go_wp2_with fail;go_at_call 50;refine hft.mono ?_;clear hft;rw[←aj];rintro e w1 ⟨rfl,hb1⟩;replace aj:=qae aj;have hM1:Hid (MW w1 p dv lv M):=aP.out.kept hb1;have sD:Hid (aB (ax p dv lv) w w1):=(aB.of_below (S:=ax p dv lv) yZ.out).later hb1 yZ.out.size;clear hb1 aP sU;go_wp2_with fail;go_ret;exact⟨rfl,hM1.out,sD.out⟩
 ·rw[qaj rfl];obtain⟨i,rfl⟩:∃i:Nat,id=(i:Int)+1:=⟨(id-1).toNat,by have:=hfo rfl;omega⟩;have hi:i<M.L.length:=by have:=hfo rfl;omega
  rw[show((i:Int)+1-1).toNat=i by omega];clear hfo hid;obtain⟨n,hn⟩:=qaa (M.L.length);obtain⟨ao,cap,hlv,hcap,Ha,hsome⟩:=bE h.js;rw[←hn]at hlv hcap hsome;have hin:(i:Int)<(n:Int):=by omega
  have hll:=hb.ll;rw[←hn]at hll;obtain⟨g,rfl⟩:=hsome (by omega);subst hlv;have wi1:IntKind.i64.wrap ((i:Int)+1-1)=(i:Int):=by rw[IntKind.wrap_i64];omega
  have xU:IntKind.i64.wrap (i:Int)=(i:Int):=by rw[IntKind.wrap_i64];omega
  obtain⟨T,hT⟩:=qaa (M.now);rw[←hT];replace hT:=qae hT;replace hn:=qae hn;have yZ:=qae aC;clear hsome h aC;have hP:Hid (∀w1,Below wA.heap.size wA w1→(w1.heap[w.heap.size]? =some (.cells #[.int .i64 ((i:Int)+1),.int .i64 t] 35 (0,0)))∧MW w1 p dv (.slice (some ⟨g,0,none⟩) n cap) M∧aB (ax p dv (.slice (some ⟨g,0,none⟩) n cap)) w w1):=fun w1 hb1=>
   ⟨(hb1.block _ (ai sU.out)).trans sU.out,aP.out.kept hb1,(aB.of_below (S:=ax p dv (.slice (some ⟨g,0,none⟩) n cap)) yZ.out).later hb1 yZ.out.size⟩
  clear aP sU;by_cases LZ:t=T
  ·rw[qaj LZ];have dt:(t == T)=true:=by simp[LZ]
   replace LZ:=qae LZ;go_enter func32,ntmps32;go_wp2_with fail;go_at_call 50;refine hft.mono ?_;clear hft;rw[←aj];rintro e w1 ⟨rfl,hb1⟩;replace aj:=qae aj;obtain⟨hX1,hM1,sD⟩:=hP.out w1 hb1;replace hX1:=qae hX1;replace hM1:=qae hM1;replace sD:=qae sD;have c0:=hM1.out.read.c0;rw[←hT.out]at c0;have x0:w1.cell? ⟨w.heap.size,0,none⟩=some (.int .i64 ((i:Int)+1)):=by simp[World.cell?,hX1.out]
   have x1:w1.cell? ⟨w.heap.size,1,none⟩=some (.int .i64 t):=by simp[World.cell?,hX1.out]
   clear hP hb1;go_wp2_with fail;go_region
   all_goals(try go_wp2_with fail)
   go_at_call 90;have hM2:=hM1.out.kept (Below.refl w1.heap.size w1).drew;refine(Fx hM2 hb i hi).mono ?_;rintro e w2 ⟨rfl,eZ,Wo⟩;have Yy:Hid (aB (ax p dv (.slice (some ⟨g,0,none⟩) n cap)) w w2):=(sD.out.later (Below.refl w1.heap.size w1).drew sD.out.size).trans Wo (aY.refl _ _);replace eZ:=qae eZ;clear Wo hM2 c0 x0 x1;go_wp2_with fail;go_ret;exact⟨rfl,eZ.out,Yy.out⟩
  ·rw[qai LZ];have dt:(t == T)=false:=by simp[LZ]
   clear LZ;have hcs:=qae (fun(W:World) (hW:MW W p dv (.slice (some ⟨g,0,none⟩) n cap) M)=>hW.cells hi);generalize M.L.getD i default=y at*;obtain⟨x1,x2,x3,x4,x5,x6,x7,x8,x9,x0⟩:=y;have hsp:Jb.aR (x1,x2,x3,x4,x5,x6,x7,x8,x9,x0) t=(x1,x2,x3,x4,x5,x6,x7,x8,t,x0):=rfl;rw[hsp];clear hsp;obtain⟨cY,nJ⟩:=qab (ag (x1,x2,x3,x4,x5,x6,x7,x8,x9,x0));replace nJ:=qae nJ;go_enter func32,ntmps32;go_wp2_with fail;go_at_call 50;refine hft.mono ?_;clear hft;rw[←aj];rintro e w1 ⟨rfl,hb1⟩;replace aj:=qae aj;obtain⟨hX1,hM1,sD⟩:=hP.out w1 hb1;have c0:=hM1.read.c0;rw[←hT.out]at c0;have c9:w1.cell? ⟨w.heap.size,1,none⟩=some (.int .i64 t):=by simp[World.cell?,hX1]
   obtain⟨hX2,hM2,tN⟩:=hP.out w1.drew (hb1.trans ((Below.refl w1.heap.size w1).drew.mono hb1.size));have hWA:Hid (wA.heap.size≤w1.heap.size):=hb1.size;replace hX2:=qae hX2;replace hM2:=qae hM2;replace tN:=qae tN;clear hP hb1 hX1 hM1 sD;go_wp2_with fail;go_region
   all_goals(try go_wp2_with fail)
   generalize hw2:w1.drew=w2 at*;have Hf:Hid (w.heap.size<w2.heap.size):=ai hX2.out;replace hw2:=qae hw2;clear c0 c9;have b0:(0:Int)≤(i:Int):=by omega
   refine Reg2.rd w2 10 43 (Reg2.rows 0 [.p 0,.p 1,.p 3,.p 7,.p 0,.p 16,.p 48,.p 127,.p 255,.p 0]) [0,0,0,1,0,1,0,0,1,1] [.pure,.pure,.pure,.mU (.slice (some ⟨g,0,none⟩) n cap),.pure,.mU (.int .i64 ((i:Int)+1)),.pure,.pure,.mU (.agg cY.toArray),.minor Nat 0 (fun q=>.pointer (some ⟨q,0,none⟩)) (fun q W=>w2.heap.size≤q∧W.heap[q]? =some (.cells #[.int .i64 0,.int .i64 0,.int .i64 0,.int .i64 0,.int .i64 0,.int .i64 0,.int .i64 0,.int .i64 0,.int .i64 0,.int .u64 0] 55 (0,0)))] (by kernel_rfl) (by kernel_rfl) rfl rfl ⟨trivial,trivial,trivial,Reg2.tt,trivial,Reg2.tt,trivial,trivial,Reg2.tt,⟨fun x a b he hx=>⟨hx.1,(he.block _ (ai hx.2)).trans hx.2⟩,fun x a b he hx=>⟨hx.1,(he.block _ (ai hx.2)).trans hx.2⟩⟩,trivial⟩ ⟨rfl,rfl,rfl,qaf _,fun _ _=>rfl⟩ ?_;dsimp only[Reg2.rows,Reg2.mk,List.zip,List.zipWith,List.take]
   repeat(refine' Reg2.ak _ (by rfl) (fun wz=>?_) ?_;rotate_left;(go_simp;first|rfl|rw[qai (by omega)]);simp only[Act.put,xA,xB,xC,xD,xE,id])
   refine Reg2.pm (fun wz hI hF=>?_) (fun r3=>?_) (by rfl)
   ·have d0:=(hM2.out.kept hI).read.c2;go_wp2_with fail
    first|exact⟨_,rfl,rfl,qad⟩|exact⟨_,rfl,⟨(),rfl,trivial⟩,qad⟩
   simp only[Act.put,xA,xB,xC,xD,xE,id]
   repeat(refine' Reg2.ak _ (by rfl) (fun wz=>?_) ?_;rotate_left;(go_simp;first|rfl|rw[qai (by omega)]);simp only[Act.put,xA,xB,xC,xD,xE,id])
   refine Reg2.pm (fun wz hI hF=>?_) (fun r5=>?_) (by rfl)
   ·have hX:=(hI.block _ (ai hX2.out)).trans hX2.out;have d0:wz.cell? ⟨w.heap.size,0,none⟩=some (.int .i64 ((i:Int)+1)):=by simp[World.cell?,hX]
    clear hX;go_wp2_with fail
    first|exact⟨_,rfl,rfl,qad⟩|exact⟨_,rfl,⟨(),rfl,trivial⟩,qad⟩
   simp only[Act.put,xA,xB,xC,xD,xE,id];refine Reg2.ak (.int .i64 (i:Int)) (by rfl) (fun wz=>?_) ?_
   ·go_simp
    (try rw[xU])
   simp only[Act.put,xA,xB,xC,xD,xE,id];refine Reg2.ak (.pointer (some ⟨g,i*10,none⟩)) (by rfl) (fun wz=>?_) ?_
   ·go_simp
    (try simp)
   simp only[Act.put,xA,xB,xC,xD,xE,id]
   repeat((first
    |(refine' Reg2.ak _ (by rfl) (fun wz=>?_) ?_;rotate_left;(go_simp;first|rfl|rw[qai (by omega)]))
    |(refine Reg2.az (by rfl) (fun wz hI hF=>?_) (fun _=>?_)
      ·unfold Reg2.One;have hc:=hcs.out wz (hM2.out.kept hI);have e0:=hc 0 _ rfl;have e1:=hc 1 _ rfl;have e2:=hc 2 _ rfl;have e3:=hc 3 _ rfl;have e4:=hc 4 _ rfl;have e5:=hc 5 _ rfl;have e6:=hc 6 _ rfl;have e7:=hc 7 _ rfl;have e8:=hc 8 _ rfl;have e9:=hc 9 _ rfl;rw[Nat.add_zero]at e0;clear hc;obtain rfl:=nJ.out;go_wp2_with fail
       first|exact⟨_,rfl,rfl,qad⟩|exact⟨_,rfl,⟨(),rfl,trivial⟩,qad⟩));simp only[Act.put,xA,xB,xC,xD,xE,id])
   refine Reg2.pm (fun wz hI hF=>?_) (fun r9=>?_) (by rfl)
   ·go_wp2_with fail;exact⟨_,rfl,⟨wz.heap.size,rfl,hI.size,heap_alloc_new wz _⟩,(Below.refl wz.heap.size wz).alloc (qaf _) _⟩
   simp only[Act.put,xA,xB,xC,xD,xE,id];refine Reg2.aD ?_;intro w7 dC _ gF;obtain⟨_,_,_,_,_,_,_,_,_,Ju,_⟩:=gF;clear r3 r5;dsimp only[List.drop];have hst:=lL (x:=(x1,x2,x3,x4,x5,x6,x7,x8,x9,x0)) (y:=(0,0,0,0,0,0,0,0,0,0)) Ju.2;rw[nJ.out]at hst;have lY:cY.length=10:=by rw[←nJ.out];exact aA _
   have Xj:=(dC.block _ (ai hX2.out)).trans hX2.out;obtain⟨w8,hw8⟩:=qaa (w7.setRow r9 cY.toArray);have hne:w.heap.size≠r9:=by have:=Ju.1;have:=Hf.out;omega
   have kN:Below r9 w7 w8:=by rw[hw8];exact mP qac (qaf _) _
   have yc:Hid (w8.heap[r9]? =some (.cells (ag (x1,x2,x3,x4,x5,x6,x7,x8,x9,x0)).toArray 55 (0,0))):=by show _=_;rw[hw8,nJ.out];exact setRow_heap w7 r9 _ _ _ _ Ju.2
   have Yz:w8.heap[w.heap.size]? =some (.cells #[.int .i64 ((i:Int)+1),.int .i64 t] 35 (0,0)):=(kN.block _ (Nat.lt_of_lt_of_le Hf.out Ju.1)).trans Xj;have c9:w8.cell? ⟨w.heap.size,1,none⟩=some (.int .i64 t):=by simp[World.cell?,Yz]
   have a8:=iN yc.out 8 _ rfl;have f8:=kQ yc.out 8;obtain⟨wB,cO⟩:=qaa (w8.setCell ⟨r9,8,none⟩ (.int .i64 t));have fT:Below r9 w7 wB:=by rw[cO];exact aT kN (qaf _) 8 _
   have fD:Hid (wB.heap[r9]? =some (.cells (ag (x1,x2,x3,x4,x5,x6,x7,x8,t,x0)).toArray 55 (0,0))):=by show _=_;rw[cO];exact heap_put (i:=8) yc.out (.int .i64 t)
   have vw:=hM2.out.kept dC;have iO:Hid (MW wB p dv (.slice (some ⟨g,0,none⟩) n cap) M):=vw.cK fT (fun k hk=>Nat.lt_of_lt_of_le (Nat.lt_trans (hp0.out k hk) Hf.out) Ju.1);have YA:Hid (wB.heap[w.heap.size]? =some (.cells #[.int .i64 ((i:Int)+1),.int .i64 t] 35 (0,0))):=(fT.block _ (Nat.lt_of_lt_of_le Hf.out Ju.1)).trans Xj;have gQ:Hid (aB (ax p dv (.slice (some ⟨g,0,none⟩) n cap)) w wB):=(tN.out.later dC tN.out.size).later fT (Nat.le_trans (Nat.le_of_lt Hf.out) Ju.1);rw[hw8]at c9 a8 f8 cO;clear fT Xj dC Ju vw kN yc Yz;replace hw8:=qae hw8;go_wp2_with fail;rw[←cO];replace cO:=qae cO;clear hst c9 a8 f8 lY;have lX:=aA (x1,x2,x3,x4,x5,x6,x7,x8,t,x0);have zJ:=bC;obtain⟨k10,hk10⟩:∃k,k=10:=⟨_,rfl⟩;rw[←hk10]at lX zJ;replace hk10:=qae hk10;refine Reg2.ro wB 8 43 [.p 0,.p 1,.p 3,.m 7,.p 0,.m 16,.p 48,.m 0] [.slice (some ⟨g,0,none⟩) n cap,.int .i64 ((i:Int)+1),.agg (ag (x1,x2,x3,x4,x5,x6,x7,x8,t,x0)).toArray] (by kernel_rfl) (by kernel_rfl) rfl rfl ⟨rfl,rfl,rfl,qaf _,fun _ _=>rfl⟩ ?_;dsimp only[Reg2.fF]
   repeat(refine' Reg2.ak _ (by rfl) (fun wz=>?_) ?_;rotate_left;(go_simp;first|rfl|rw[qai (by omega)]);simp only[Act.put,xA,xB,xC,xD,xE,id])
   refine Reg2.pm (fun wz hI hF=>?_) (fun s3=>?_) (by rfl)
   ·have d0:=(iO.out.kept hI).read.c2;go_wp2_with fail
    first|exact⟨_,rfl,rfl,qad⟩|exact⟨_,rfl,⟨(),rfl,trivial⟩,qad⟩
   simp only[Act.put,xA,xB,xC,xD,xE,id]
   repeat(refine' Reg2.ak _ (by rfl) (fun wz=>?_) ?_;rotate_left;(go_simp;first|rfl|rw[qai (by omega)]);simp only[Act.put,xA,xB,xC,xD,xE,id])
   refine Reg2.pm (fun wz hI hF=>?_) (fun s5=>?_) (by rfl)
   ·have hX:=(hI.block _ (ai YA.out)).trans YA.out;have d0:wz.cell? ⟨w.heap.size,0,none⟩=some (.int .i64 ((i:Int)+1)):=by simp[World.cell?,hX]
    clear hX;go_wp2_with fail
    first|exact⟨_,rfl,rfl,qad⟩|exact⟨_,rfl,⟨(),rfl,trivial⟩,qad⟩
   simp only[Act.put,xA,xB,xC,xD,xE,id];refine Reg2.ak (.int .i64 (i:Int)) (by rfl) (fun wz=>?_) ?_
   ·go_simp
    (try rw[xU])
   simp only[Act.put,xA,xB,xC,xD,xE,id]
   repeat((first
    |(refine' Reg2.ak _ (by rfl) (fun wz=>?_) ?_;rotate_left;(go_simp;first|rfl|rw[qai (by omega)]))
    |(refine Reg2.az (by rfl) (fun wz hI hF=>?_) (fun _=>?_)
      ·unfold Reg2.One;have d0:=bJ ((hI.block _ (ai fD.out)).trans fD.out) lX;go_wp2_with fail
       first|exact⟨_,rfl,rfl,qad⟩|exact⟨_,rfl,⟨(),rfl,trivial⟩,qad⟩));simp only[Act.put,xA,xB,xC,xD,xE,id])
   refine Reg2.aD ?_;intro w9 eu _ p9;clear p9 s3 s5;dsimp only[List.drop];have jT:=iO.out.kept eu;obtain⟨iP,pJ,jS,ib⟩:=jT.put (m:=i) hi (x1,x2,x3,x4,x5,x6,x7,x8,t,x0);have nK:Hid (aB (ax p dv (.slice (some ⟨g,0,none⟩) n cap)) w iP):=(gQ.out.trans (aB.of_below (S:=ax p dv (.slice (some ⟨g,0,none⟩) n cap)) eu) (aY.refl _ _)).trans ib (aY.refl _ _);replace jS:=qae jS;rw[←hk10.out]at pJ;clear jT ib eu;go_wp2_with fail;go_ret;exact⟨rfl,by have h:=jS.out;rw[←hT.out]at h;exact h,nK.out⟩
end
def gJ (r:Rl):List Value:=[.int .i64 r.1,.int .i64 r.2.1,.int .i64 r.2.2.1,.int .i64 r.2.2.2.1,.int .i64 r.2.2.2.2.1,.int .i64 r.2.2.2.2.2.1,.int .i64 r.2.2.2.2.2.2.1,.int .i64 r.2.2.2.2.2.2.2.1,.int .i64 r.2.2.2.2.2.2.2.2]
section
variable {w w' : World} {p : Nat} {dv lv : Value} {M : Md}
theorem pK (j:Jb)(w:World):Calls prog 157 #[.agg (ag j).toArray] w fun e w'=>e=.returned (.agg (gJ (gH j)).toArray)∧Below w.heap.size w w':=by
 obtain⟨x1,x2,x3,x4,x5,x6,x7,x8,x9,x0⟩:=j;rw[dP];go_enter func157,ntmps157;go_wp2_with fail;refine aO rfl rfl rfl (heap_alloc2_new w _ _) underlying67 rfl (by kernel_rfl) ⟨rfl,?_⟩;exact(qac.alloc (qaf _) _).alloc (by simp) _
theorem za {L:List Jb}{f:Jb→Bool}{i:Nat}(hi:i<L.length):(L.take (i+1)).countP f=(L.take i).countP f+(if f (L.getD i default)=true then 1 else 0):=by
 rw[List.take_succ_eq_append_getElem hi,List.countP_append,List.countP_cons,List.countP_nil];simp[List.getD,hi]
theorem CJ (h:MR w p dv lv M)(hb:MB M):Calls prog 155 #[.pointer (some ⟨p,0,none⟩)] w fun e w'=>e=.returned (.int .i64 (nE M))∧w=w':=by
 have c2:=h.c2;have hjs:=qae h.js;have hll:=hb.ll;obtain⟨n,hn⟩:=qaa (M.L.length);obtain⟨ao,cap,rfl,h1,h2⟩:=h.js.shape;rw[←hn]at hll c2 h1;clear h hb;have hlm:nE M=(M.L.take n).countP fun j=>decide (j.st<4):=by rw[hn,List.take_length];rfl
 rw[hlm];clear hlm;generalize M.L=L at*;replace hn:=qae hn;go_enter func155,ntmps155;go_wp2_with fail;go_loopw [3,4] (fun cc ii wr=>∃i:Nat,i≤n∧cc=.int .i64 (((L.take i).countP fun j=>decide (j.st<4)):Nat)∧ii=.int .i64 i∧w=wr) (fun _ ii _=>n-(intOf ii).toNat)
 case atStart=>exact⟨0,Nat.zero_le _,by simp,rfl,rfl⟩
 case round=>
  obtain⟨i,hi,rfl,rfl,rfl⟩:=hrel;by_cases hlt:i<n
  ·have b2:(i:Int)<(n:Int):=by omega
   have wi:IntKind.i64.wrap ((i:Int)+1)=(i:Int)+1:=by rw[IntKind.wrap_i64];omega
   obtain⟨b,off,cap',hv,_,_,hbl,hc⟩:=hjs.out.mr i (by rw[←hn.out];exact hlt);rw[←hn.out]at hv;cases hv;have BP:=hc 5 _ rfl;have hsu:=za (L:=L) (f:=fun j=>decide (j.st<4)) (i:=i) (by rw[←hn.out];exact hlt);have hle:=List.countP_le_length (p:=fun j:Jb=>decide (j.st<4)) (l:=L.take i);have htl:(L.take i).length≤i:=List.length_take_le _ _;generalize L.getD i default=y at*;have wc:IntKind.i64.wrap ((((L.take i).countP fun j=>decide (j.st<4):Nat):Int)+1)=(((L.take i).countP fun j=>decide (j.st<4):Nat):Int)+1:=by rw[IntKind.wrap_i64];omega
   obtain⟨x1,x2,x3,x4,x5,x6,x7,x8,x9,x0⟩:=y;have hsu:(L.take (i+1)).countP (fun j=>decide (j.st<4))=(L.take i).countP (fun j=>decide (j.st<4))+(if decide (x6<4)=true then 1 else 0):=hsu;simp only at BP;generalize (L.take i).countP (fun j=>decide (j.st<4))=C at*;by_cases h6:x6<4
   ·rw[qag h6,qaj rfl]at hsu;replace hsu:=qae hsu;clear hc hle htl;go_wp2_with fail;go_roundw
    case rel=>exact⟨i+1,by omega,by rw[hsu.out];simp,by go_num,trivial⟩
    case measure=>simp[intOf];omega
   ·rw[qah h6]at hsu;replace hsu:=qae hsu;clear hc hle htl;go_wp2_with fail;go_roundw
    case rel=>exact⟨i+1,by omega,by rw[hsu.out];simp,by go_num,trivial⟩
    case measure=>simp[intOf];omega
  ·obtain rfl:i=n:=by omega
   have b2:¬(i:Int)<(i:Int):=by omega
   go_wp2_with fail;go_ret;exact⟨rfl,rfl⟩
end
theorem Jv {L:List Jb}{i:Nat}(hi:i<L.length)(now:Int):(L.take (i+1)).foldl (qU now) (-1)=qU now ((L.take i).foldl (qU now) (-1)) (L.getD i default):=by
 rw[List.take_succ_eq_append_getElem hi,List.foldl_append];simp[List.getD,hi]
section
variable {w w' : World} {p : Nat} {dv lv : Value} {M : Md}
theorem RZ (h:MR w p dv lv M)(hb:MB M):Calls prog 158 #[.pointer (some ⟨p,0,none⟩)] w fun e w'=>e=.returned (.int .i64 (bu M))∧Below w.heap.size w w':=by
 have hM:=qae h;have hll:=hb.ll;obtain⟨n,hn⟩:=qaa (M.L.length);obtain⟨T,hT⟩:=qaa (M.now);obtain⟨ao,cap,hlv,h1,h2⟩:=h.js.shape;rw[←hn]at hll hlv h1;have hnm:bu M=(M.L.take n).foldl (qU T) (-1):=by rw[hn,List.take_length,hT];rfl
 rw[hnm];clear hnm h hb;replace hn:=qae hn;replace hT:=qae hT;go_enter func158,ntmps158;go_wp2_with fail;go_loopw [3,4] (fun bb ii wr=>∃i:Nat,i≤n∧bb=.int .i64 ((M.L.take i).foldl (qU T) (-1))∧ii=.int .i64 i∧Hid (Below w.heap.size w wr)) (fun _ ii _=>n-(intOf ii).toNat)
 case atStart=>exact⟨0,Nat.zero_le _,by simp,rfl,Below.refl _ _⟩
 case round=>
  obtain⟨i,hi,rfl,rfl,hbw⟩:=hrel;have iU:=hM.out.below hbw.out;have c2:=iU.c2;rw[hlv]at c2;by_cases hlt:i<n
  ·have b2:(i:Int)<(n:Int):=by omega
   have b0:(0:Int)≤(i:Int):=by omega
   have wi:IntKind.i64.wrap ((i:Int)+1)=(i:Int)+1:=by rw[IntKind.wrap_i64];omega
   have fw:i<M.L.length:=by rw[←hn.out];exact hlt
   have lM:Hid (∀W,Below wr.heap.size wr W→∀b off cp,lv=.slice (some ⟨b,off,none⟩) n cp→∀q u,(ag (M.L.getD i default))[q]? =some u→W.cell? ⟨b,off+i*10+q,none⟩=some u):=fun W hW b off cp hv q u hq=>by
    obtain⟨b5,qg,cap5,hv5,_,_,_,hc⟩:=(iU.below hW).js.mr i fw;rw[hv]at hv5;injection hv5 with e1 _ _;injection e1 with e1;injection e1 with e1 e2 _;subst e1 e2;exact hc q u hq
   obtain⟨b,off,cap',hv,_,_,hbl,hc⟩:=iU.js.mr i fw;rw[←hn.out]at hv;have hsu:=Jv fw T;subst hlv;have hvc:=hv;cases hv;generalize M.L.getD i default=y at*;obtain⟨x1,x2,x3,x4,x5,x6,x7,x8,x9,x0⟩:=y;have e5:=hc 5 _ rfl;clear hc;have YB:∀v,qU T v (x1,x2,x3,x4,x5,x6,x7,x8,x9,x0)=(if ay (x1,x2,x3,x4,x5,x6,x7,x8,x9,x0)=true then fQ (if x6=3 then fQ v x8 T else v) x9 T else if x6=3 then fQ v x8 T else v):=fun v=>rfl;rw[YB]at hsu;clear YB;have hpl:=qae (fun W=>pF (x1,x2,x3,x4,x5,x6,x7,x8,x9,x0) W);generalize ay (x1,x2,x3,x4,x5,x6,x7,x8,x9,x0)=q at*;generalize (M.L.take i).foldl (qU T) (-1)=F at*;have aal:=hbw;obtain⟨wq,hwq⟩:=qaa (wr);have oz:Hid (Below wr.heap.size wr wq):=by show Below _ _ _;rw[hwq];exact Below.refl _ _
   have L6:Hid (MR wq p dv (.slice (some ⟨b,off,none⟩) n cap) M):=by show MR _ _ _ _ _;rw[hwq];exact iU
   by_cases k3:x6=3
   ·subst k3;simp only[if_true]at hsu;clear iU;go_wp2_with fail;rw[←hwq];refine Reg2.ro wq 13 60 [.p 0,.p 0,.p 2,.p 6,.m 14,.p 0,.p 62,.p 126,.m 254,.p 0,.p 512,.p 1536,.m 3584] [.slice (some ⟨b,off,none⟩) n cap,.int .i64 x8,.int .i64 T] (by kernel_rfl) (by kernel_rfl) rfl rfl ⟨rfl,rfl,rfl,qaf _,fun _ _=>rfl⟩ ?_;dsimp only[Reg2.fF]
    repeat((first
     |(refine' Reg2.ak _ (by rfl) (fun wz=>?_) ?_;rotate_left;(go_simp;first|rfl|rw[qai (by omega)]))
     |(refine Reg2.az (by rfl) (fun wz hI hF=>?_) (fun _=>?_)
       ·unfold Reg2.One;have d0:=(L6.out.below hI).c2;have qY:=lM.out wz (oz.out.trans (hI.mono oz.out.size)) b off cap rfl 7 _ rfl;have tO:=(L6.out.below hI).c0;rw[←hT.out]at tO;go_wp2_with fail
        first|exact⟨_,rfl,rfl,qad⟩|exact⟨_,rfl,⟨(),rfl,trivial⟩,qad⟩));simp only[Act.put,xA,xB,xC,xD,xE,id])
    refine Reg2.aD ?_;intro w7 dC _ gF;clear gF;dsimp only[List.drop];have hs6:=lG F x8 T w7;have pQ:Hid (Below wr.heap.size wr w7):=oz.out.trans (dC.mono oz.out.size);have vw:Hid (MR w7 p dv (.slice (some ⟨b,off,none⟩) n cap) M):=L6.out.below dC;clear dC oz L6 e5 c2;have c2':=vw.out.c2;have e0:=lM.out w7 pQ.out b off cap rfl 0 _ rfl;have e1:=lM.out w7 pQ.out b off cap rfl 1 _ rfl;have e2:=lM.out w7 pQ.out b off cap rfl 2 _ rfl;have e3:=lM.out w7 pQ.out b off cap rfl 3 _ rfl;have e4:=lM.out w7 pQ.out b off cap rfl 4 _ rfl;have e5:=lM.out w7 pQ.out b off cap rfl 5 _ rfl;have e6:=lM.out w7 pQ.out b off cap rfl 6 _ rfl;have e7:=lM.out w7 pQ.out b off cap rfl 7 _ rfl;have e8:=lM.out w7 pQ.out b off cap rfl 8 _ rfl;have e9:=lM.out w7 pQ.out b off cap rfl 9 _ rfl;rw[Nat.add_zero]at e0;have hp1:=hpl.out w7;rw[dP]at hp1;go_wp2_with fail;go_at_call 110;refine hs6.mono ?_;clear hs6;rintro e w8 ⟨rfl,rfl⟩;go_wp2_with fail;go_at_call 111;refine hp1.mono ?_;clear hp1 e0 e1 e2 e3 e4 e5 e6 e7 e8 e9 c2';rintro e w9 ⟨rfl,tQ⟩;have vJ:Hid (Below wr.heap.size wr w9):=pQ.out.trans (tQ.mono pQ.out.size);have jT:Hid (MR w9 p dv (.slice (some ⟨b,off,none⟩) n cap) M):=vw.out.below tQ;clear tQ pQ vw;cases q
    ·simp only[Bool.false_eq_true,if_false]at hsu;go_wp2_with fail;have hbf:Hid (Below w.heap.size w w9):=hbw.out.trans (vJ.out.mono hbw.out.size);go_roundw
     case rel=>exact⟨i+1,by omega,by rw[hsu],by go_num,hbf⟩
     case measure=>simp[intOf];omega
    ·simp only[if_true]at hsu;go_wp2_with fail;refine Reg2.ro w9 13 60 [.p 0,.p 0,.p 2,.p 6,.m 14,.p 0,.p 62,.p 126,.m 254,.p 0,.p 512,.p 1536,.m 3584] [.slice (some ⟨b,off,none⟩) n cap,.int .i64 x9,.int .i64 T] (by kernel_rfl) (by kernel_rfl) rfl rfl ⟨rfl,rfl,rfl,qaf _,fun _ _=>rfl⟩ ?_;dsimp only[Reg2.fF]
     repeat((first
      |(refine' Reg2.ak _ (by rfl) (fun wz=>?_) ?_;rotate_left;(go_simp;first|rfl|rw[qai (by omega)]))
      |(refine Reg2.az (by rfl) (fun wz hI hF=>?_) (fun _=>?_)
        ·unfold Reg2.One;have d0:=(jT.out.below hI).c2;have qY:=lM.out wz (vJ.out.trans (hI.mono vJ.out.size)) b off cap rfl 8 _ rfl;have tO:=(jT.out.below hI).c0;rw[←hT.out]at tO;go_wp2_with fail
         first|exact⟨_,rfl,rfl,qad⟩|exact⟨_,rfl,⟨(),rfl,trivial⟩,qad⟩));simp only[Act.put,xA,xB,xC,xD,xE,id])
     refine Reg2.aD ?_;intro w7 dC _ gF;clear gF;dsimp only[List.drop];have R4:=lG (fQ F x8 T) x9 T w7;have pQ:Hid (Below wr.heap.size wr w7):=vJ.out.trans (dC.mono vJ.out.size);clear dC;go_wp2_with fail;go_at_call 110;refine R4.mono ?_;clear R4;rintro e iP ⟨rfl,rfl⟩;go_wp2_with fail;have hbf:Hid (Below w.heap.size w w7):=hbw.out.trans (pQ.out.mono hbw.out.size);go_roundw
     case rel=>exact⟨i+1,by omega,by rw[hsu],by go_num,hbf⟩
     case measure=>simp[intOf];omega
   ·have m3:(x6 == 3)=false:=by simp[k3]
    simp only[k3,if_false]at hsu;clear iU c2 e5;rw[←hwq];replace hwq:=qae hwq;have c2':=L6.out.c2;have e0:=lM.out wq oz.out b off cap rfl 0 _ rfl;have e1:=lM.out wq oz.out b off cap rfl 1 _ rfl;have e2:=lM.out wq oz.out b off cap rfl 2 _ rfl;have e3:=lM.out wq oz.out b off cap rfl 3 _ rfl;have e4:=lM.out wq oz.out b off cap rfl 4 _ rfl;have e5:=lM.out wq oz.out b off cap rfl 5 _ rfl;have e6:=lM.out wq oz.out b off cap rfl 6 _ rfl;have e7:=lM.out wq oz.out b off cap rfl 7 _ rfl;have e8:=lM.out wq oz.out b off cap rfl 8 _ rfl;have e9:=lM.out wq oz.out b off cap rfl 9 _ rfl;rw[Nat.add_zero]at e0;have hp1:=hpl.out wq;rw[dP]at hp1;go_wp2_with fail;go_at_call 111;refine hp1.mono ?_;clear hp1 e0 e1 e2 e3 e4 e5 e6 e7 e8 e9 c2';rintro e w9 ⟨rfl,tQ⟩;have vJ:Hid (Below wr.heap.size wr w9):=oz.out.trans (tQ.mono oz.out.size);have jT:Hid (MR w9 p dv (.slice (some ⟨b,off,none⟩) n cap) M):=L6.out.below tQ;clear tQ oz L6;cases q
    ·simp only[Bool.false_eq_true,if_false]at hsu;go_wp2_with fail;have hbf:Hid (Below w.heap.size w w9):=hbw.out.trans (vJ.out.mono hbw.out.size);go_roundw
     case rel=>exact⟨i+1,by omega,by rw[hsu],by go_num,hbf⟩
     case measure=>simp[intOf];omega
    ·simp only[if_true]at hsu;go_wp2_with fail;refine Reg2.ro w9 13 60 [.p 0,.p 0,.p 2,.p 6,.m 14,.p 0,.p 62,.p 126,.m 254,.p 0,.p 512,.p 1536,.m 3584] [.slice (some ⟨b,off,none⟩) n cap,.int .i64 x9,.int .i64 T] (by kernel_rfl) (by kernel_rfl) rfl rfl ⟨rfl,rfl,rfl,qaf _,fun _ _=>rfl⟩ ?_;dsimp only[Reg2.fF]
     repeat((first
      |(refine' Reg2.ak _ (by rfl) (fun wz=>?_) ?_;rotate_left;(go_simp;first|rfl|rw[qai (by omega)]))
      |(refine Reg2.az (by rfl) (fun wz hI hF=>?_) (fun _=>?_)
        ·unfold Reg2.One;have d0:=(jT.out.below hI).c2;have qY:=lM.out wz (vJ.out.trans (hI.mono vJ.out.size)) b off cap rfl 8 _ rfl;have tO:=(jT.out.below hI).c0;rw[←hT.out]at tO;go_wp2_with fail
         first|exact⟨_,rfl,rfl,qad⟩|exact⟨_,rfl,⟨(),rfl,trivial⟩,qad⟩));simp only[Act.put,xA,xB,xC,xD,xE,id])
     refine Reg2.aD ?_;intro w7 dC _ gF;clear gF;dsimp only[List.drop];have R4:=lG (F) x9 T w7;have pQ:Hid (Below wr.heap.size wr w7):=vJ.out.trans (dC.mono vJ.out.size);clear dC;go_wp2_with fail;go_at_call 110;refine R4.mono ?_;clear R4;rintro e iP ⟨rfl,rfl⟩;go_wp2_with fail;have hbf:Hid (Below w.heap.size w w7):=hbw.out.trans (pQ.out.mono hbw.out.size);go_roundw
     case rel=>exact⟨i+1,by omega,by rw[hsu],by go_num,hbf⟩
     case measure=>simp[intOf];omega
  ·obtain rfl:i=n:=by omega
   have b2:¬(i:Int)<(i:Int):=by omega
   subst hlv;clear iU;go_wp2_with fail;go_ret;exact⟨rfl,hbw.out⟩
end
def aG (w:World)(b:Nat)(r:Rl):Prop:=w.heap[b]? =some (.cells (gJ r).toArray 67 (0,0))
def aQ :Rl:=(0,0,0,0,0,0,0,0,0)
theorem aG.at {w:World}{b:Nat}{r:Rl}(h:aG w b r)(j:Nat)(u:Value)(hj:(gJ r)[j]? =some u):w.cell? ⟨b,j,none⟩=some u:=by
 simp[World.cell?,show w.heap[b]? =_ from h,hj]
theorem aG.free {w:World}{b:Nat}{r:Rl}(h:aG w b r)(j:Nat):w.frozen? ⟨b,j,none⟩=false:=by simp[World.frozen?,show w.heap[b]? =_ from h]
theorem aG.below {w w':World}{b B:Nat}{r:Rl}(h:aG w b r)(hb:Below B w w')(hB:b<B):aG w' b r:=(hb.block b hB).trans h
def iJ (w:World)(p:Nat)(dv lv:Value)(x:Rl×Md)(e:Ending)(w':World):Prop:=
 e=.returned (.agg (gJ x.1).toArray)∧(∃qa,MW w' p dv qa x.2∧aY w (ax p dv lv) (ax p dv qa))∧aB (ax p dv lv) w w'
section
variable {w w' : World} {p : Nat} {dv lv : Value} {M : Md}
theorem Ve (h:MW w p dv lv M)(hb:MB M)(k id q3 q4 q5 q6:Int)(q7:Bool)(q8 q9:Int)(hid: -9223372036854775808≤id∧id≤9223372036854775807)(hg:(getM M id).2=false):Calls prog 92 #[.pointer (some ⟨p,0,none⟩),.agg #[.int .i64 k,.int .i64 id,.int .i64 q3,.int .i64 q4,.int .i64 q5,.int .i64 q6,.bool q7,.int .i64 q8,.int .i64 q9]] w (iJ w p dv lv (dB 7,M)):=by
 obtain⟨wA,aj⟩:=qaa ((w.alloc (.cells #[.int .i64 k,.int .i64 id,.int .i64 q3,.int .i64 q4,.int .i64 q5,.int .i64 q6,.bool q7,.int .i64 q8,.int .i64 q9] 33)).alloc (.cells #[.int .i64 0,.int .i64 0,.int .i64 0,.int .i64 0,.int .i64 0,.int .i64 0,.int .i64 0,.int .i64 0,.int .i64 0] 67));have aC:Below w.heap.size w wA:=by rw[aj];exact(qac.alloc (qaf _) _).alloc (by simp) _
 have hsA:wA.heap.size=w.heap.size+2:=by rw[aj];simp
 have aH:aG wA (w.heap.size+1) aQ:=by rw[aj];exact heap_alloc2_new w _ _
 have aP:=h.kept aC;have hp0:Hid (∀k,ax p dv lv k→k<w.heap.size):=h.bF;have hgt:=ma aP.read hb id hid;rw[aj]at hgt;rw[hg]at hgt;generalize (getM M id).1=y at*;obtain⟨x1,x2,x3,x4,x5,x6,x7,x8,x9,x0⟩:=y;rw[dP]at hgt;replace aP:=qae aP;replace aC:=qae aC;clear h hb hid hg;go_enter func92,ntmps92;go_wp2_with fail;go_at_call 112;refine hgt.mono ?_;clear hgt;rw[←aj];rintro e w1 ⟨rfl,hb1⟩;replace aj:=qae aj;obtain⟨w2,hw2⟩:=qaa (w1.alloc (.cells #[.int .i64 x1,.int .i64 x2,.int .i64 x3,.int .i64 x4,.int .i64 x5,.int .i64 x6,.int .i64 x7,.int .i64 x8,.int .i64 x9,.int .u64 x0] 55));have hb2:Below wA.heap.size wA w2:=by rw[hw2];exact hb1.alloc hb1.size _
 have hR2:aG w2 (w.heap.size+1) aQ:=aH.below hb2 (by omega);have hM2:=qae (aP.out.kept hb2);have hbw:=qae (aC.out.trans (hb2.mono aC.out.size));have a0:=hR2.at 0 (.int .i64 0) rfl;have f0:=hR2.free 0;have a1:=hR2.at 1 (.int .i64 0) rfl;have f1:=hR2.free 1;have a2:=hR2.at 2 (.int .i64 0) rfl;have f2:=hR2.free 2;have a3:=hR2.at 3 (.int .i64 0) rfl;have f3:=hR2.free 3;have a4:=hR2.at 4 (.int .i64 0) rfl;have f4:=hR2.free 4;have a5:=hR2.at 5 (.int .i64 0) rfl;have f5:=hR2.free 5;have a6:=hR2.at 6 (.int .i64 0) rfl;have f6:=hR2.free 6;have a7:=hR2.at 7 (.int .i64 0) rfl;have f7:=hR2.free 7;have a8:=hR2.at 8 (.int .i64 0) rfl;have f8:=hR2.free 8;rw[hw2]at a0 f0 a1 f1 a2 f2 a3 f3 a4 f4 a5 f5 a6 f6 a7 f7 a8 f8;clear hb1 hb2 aH;go_wp2_with fail;rw[←hw2];obtain⟨w3,hw3⟩:=qaa ((((((((((w2).setCell ⟨w.heap.size+1,0,none⟩ (.int .i64 7)).setCell ⟨w.heap.size+1,1,none⟩ (.int .i64 0)).setCell ⟨w.heap.size+1,2,none⟩ (.int .i64 0)).setCell ⟨w.heap.size+1,3,none⟩ (.int .i64 0)).setCell ⟨w.heap.size+1,4,none⟩ (.int .i64 0)).setCell ⟨w.heap.size+1,5,none⟩ (.int .i64 0)).setCell ⟨w.heap.size+1,6,none⟩ (.int .i64 0)).setCell ⟨w.heap.size+1,7,none⟩ (.int .i64 0)).setCell ⟨w.heap.size+1,8,none⟩ (.int .i64 0));rw[←hw3];have hb3:Below (w.heap.size+1) w2 w3:=by rw[hw3];exact aT (aT (aT (aT (aT (aT (aT (aT (aT qac (qaf _) 0 _) (qaf _) 1 _) (qaf _) 2 _) (qaf _) 3 _) (qaf _) 4 _) (qaf _) 5 _) (qaf _) 6 _) (qaf _) 7 _) (qaf _) 8 _
 have gz:aG w3 (w.heap.size+1) (dB 7):=by rw[hw3];exact heap_put (i:=8) (heap_put (i:=7) (heap_put (i:=6) (heap_put (i:=5) (heap_put (i:=4) (heap_put (i:=3) (heap_put (i:=2) (heap_put (i:=1) (heap_put (i:=0) (hR2) (.int .i64 7)) (.int .i64 0)) (.int .i64 0)) (.int .i64 0)) (.int .i64 0)) (.int .i64 0)) (.int .i64 0)) (.int .i64 0)) (.int .i64 0)
 replace hw2:=qae hw2;replace hw3:=qae hw3;have eZ:MW w3 p dv lv M:=hM2.out.cK hb3 (fun k hk=>Nat.lt_succ_of_lt (hp0.out k hk));have hof:aB (ax p dv lv) w w3:=(aB.of_below (S:=ax p dv lv) hbw.out).later hb3 (Nat.le_succ _);refine aO rfl rfl rfl gz underlying67 rfl (by kernel_rfl) ⟨rfl,⟨lv,eZ,aY.refl _ _⟩,hof⟩
theorem aG.store {b:Nat}{r:Rl}(h:aG w b r)(x:Rl):Sem.run prog (storeCells ⟨b,0,none⟩ (gJ x) 0) w=.ok () (w.setRow b (gJ x).toArray)∧aG (w.setRow b (gJ x).toArray) b x:=by
 refine⟨?_,setRow_heap w b _ _ _ _ h⟩;have hst:=run_storeCells_at prog b 0 67 (gJ x) 0 (gJ r).toArray w h (by simp[gJ]) (by intro v hv;simp[gJ]at hv;rcases hv with rfl|rfl|rfl|rfl|rfl|rfl|rfl|rfl|rfl<;>rfl);simp only[Nat.add_zero]at hst;rw[hst];rfl
theorem Vf {g n cap i:Nat}(h:MW w p dv (.slice (some ⟨g,0,none⟩) n cap) M)(hb:MB M)(q3 q4 q5 q6:Int)(q7:Bool)(q8 q9:Int)(T:Int)(hT:T=M.now)(hn:n=M.L.length)(hi:i<n)(x1 x2 x3 x4 x5 x7 x8 x9 x0:Int)(hg:getM M ((i:Int)+1)=((x1,x2,x3,x4,x5,3,x7,x8,x9,x0),true)):Calls prog 92 #[.pointer (some ⟨p,0,none⟩),.agg #[.int .i64 5,.int .i64 ((i:Int)+1),.int .i64 q3,.int .i64 q4,.int .i64 q5,.int .i64 q6,.bool q7,.int .i64 q8,.int .i64 q9]] w (iJ w p dv (.slice (some ⟨g,0,none⟩) n cap) (gH (x1,x2,x3,x4,x5,4,x7,T,-1,x0),{M with L:=M.L.set i (x1,x2,x3,x4,x5,4,x7,T,-1,x0)})):=by
 have hll:=hb.ll;rw[←hn]at hll;have hin:(i:Int)<(n:Int):=by omega
 have b0:(0:Int)≤(i:Int):=by omega
 have xU:IntKind.i64.wrap (i:Int)=(i:Int):=by rw[IntKind.wrap_i64];omega
 have hcap:n≤cap:=by obtain⟨ao,cp,hv,h1,_⟩:=bE h.js;injection hv with _ e1 e2;omega
 obtain⟨wA,aj⟩:=qaa ((w.alloc (.cells #[.int .i64 5,.int .i64 ((i:Int)+1),.int .i64 q3,.int .i64 q4,.int .i64 q5,.int .i64 q6,.bool q7,.int .i64 q8,.int .i64 q9] 33)).alloc (.cells #[.int .i64 0,.int .i64 0,.int .i64 0,.int .i64 0,.int .i64 0,.int .i64 0,.int .i64 0,.int .i64 0,.int .i64 0] 67));have aC:Below w.heap.size w wA:=by rw[aj];exact(qac.alloc (qaf _) _).alloc (by simp) _
 have hsA:wA.heap.size=w.heap.size+2:=by rw[aj];simp
 have aH:aG wA (w.heap.size+1) aQ:=by rw[aj];exact heap_alloc2_new w _ _
 have bg:wA.heap[w.heap.size]? =some (.cells #[.int .i64 5,.int .i64 ((i:Int)+1),.int .i64 q3,.int .i64 q4,.int .i64 q5,.int .i64 q6,.bool q7,.int .i64 q8,.int .i64 q9] 33 (0,0)):=by rw[aj];exact aJ (heap_alloc_new w _)
 have aP:=h.kept aC;have hp0:Hid (∀k,ax p dv (.slice (some ⟨g,0,none⟩) n cap) k→k<w.heap.size):=h.bF;have hgt:=ma aP.read hb ((i:Int)+1) (by omega);rw[aj,hg]at hgt;rw[dP]at hgt;have fw:Hid (i<M.L.length):=by show _<_;rw[←hn];exact hi
 replace aP:=qae aP;replace aC:=qae aC;replace hn:=qae hn;replace hT:=qae hT;clear h hb hg;go_enter func92,ntmps92;go_wp2_with fail;go_at_call 112;refine hgt.mono ?_;clear hgt;rw[←aj];rintro e w1 ⟨rfl,hb1⟩;replace aj:=qae aj;have hs1:w.heap.size+2≤w1.heap.size:=by have:=hb1.size;omega
 have hne:¬w1.heap.size=w.heap.size:=by omega
 have hne2:¬w.heap.size=w1.heap.size:=by omega
 have fV:aG w1 (w.heap.size+1) aQ:=aH.below hb1 (by omega);have ou:w1.heap[w.heap.size]? =some (.cells #[.int .i64 5,.int .i64 ((i:Int)+1),.int .i64 q3,.int .i64 q4,.int .i64 q5,.int .i64 q6,.bool q7,.int .i64 q8,.int .i64 q9] 33 (0,0)):=(hb1.block _ (by omega)).trans bg;have hM1:=aP.out.kept hb1;have hbw:=aC.out.trans (hb1.mono aC.out.size);have c0:∀o,(w1.alloc o).cell? ⟨p,0,none⟩=some (.int .i64 T):=fun o=>by have:=(hM1.kept (qac.alloc (qaf _) o)).read.c0;rw[←hT.out]at this;exact this
 have d0:∀o,(w1.alloc o).cell? ⟨w.heap.size,0,none⟩=some (.int .i64 5):=fun o=>by simp[World.cell?,aJ (o':=o) ou]
 obtain⟨wB,cO⟩:=qaa (w1.alloc (.cells #[.int .i64 x1,.int .i64 x2,.int .i64 x3,.int .i64 x4,.int .i64 x5,.int .i64 4,.int .i64 x7,.int .i64 T,.int .i64 (-1),.int .u64 x0] 55));have fT:Below w1.heap.size w1 wB:=by rw[cO];exact qac.alloc (qaf _) _
 have fD:Hid (wB.heap[w1.heap.size]? =some (.cells (ag (x1,x2,x3,x4,x5,4,x7,T,-1,x0)).toArray 55 (0,0))):=by show _=_;rw[cO];exact heap_alloc_new w1 _
 have iO:Hid (MW wB p dv (.slice (some ⟨g,0,none⟩) n cap) M):=hM1.kept fT;have lN:Hid (wB.heap[w.heap.size]? =some (.cells #[.int .i64 5,.int .i64 ((i:Int)+1),.int .i64 q3,.int .i64 q4,.int .i64 q5,.int .i64 q6,.bool q7,.int .i64 q8,.int .i64 q9] 33 (0,0))):=(fT.block _ (by omega)).trans ou;have nL:Hid (aG wB (w.heap.size+1) aQ):=fV.below fT (by omega);have gQ:Hid (aB (ax p dv (.slice (some ⟨g,0,none⟩) n cap)) w wB):=(aB.of_below (S:=ax p dv (.slice (some ⟨g,0,none⟩) n cap)) hbw).later fT (by omega);clear hb1 aH bg fV ou hM1 hbw fT;go_wp2_with fail;rw[←cO];replace cO:=qae cO;clear c0 d0;have lX:=aA (x1,x2,x3,x4,x5,4,x7,T,-1,x0);have zJ:=bC;obtain⟨k10,hk10⟩:∃k,k=10:=⟨_,rfl⟩;rw[←hk10]at lX zJ;replace hk10:=qae hk10;refine Reg2.ro wB 8 56 [.p 0,.p 1,.p 3,.m 7,.p 0,.m 16,.p 48,.m 0] [.slice (some ⟨g,0,none⟩) n cap,.int .i64 ((i:Int)+1),.agg (ag (x1,x2,x3,x4,x5,4,x7,T,-1,x0)).toArray] (by kernel_rfl) (by kernel_rfl) rfl rfl ⟨rfl,rfl,rfl,qaf _,fun _ _=>rfl⟩ ?_;dsimp only[Reg2.fF]
 repeat(refine' Reg2.ak _ (by rfl) (fun wz=>?_) ?_;rotate_left;(go_simp;first|rfl|rw[qai (by omega)]);simp only[Act.put,xA,xB,xC,xD,xE,id])
 refine Reg2.pm (fun wz hI hF=>?_) (fun s3=>?_) (by rfl)
 ·have d0:=(iO.out.kept hI).read.c2;go_wp2_with fail
  first|exact⟨_,rfl,rfl,qad⟩|exact⟨_,rfl,⟨(),rfl,trivial⟩,qad⟩
 simp only[Act.put,xA,xB,xC,xD,xE,id]
 repeat(refine' Reg2.ak _ (by rfl) (fun wz=>?_) ?_;rotate_left;(go_simp;first|rfl|rw[qai (by omega)]);simp only[Act.put,xA,xB,xC,xD,xE,id])
 refine Reg2.pm (fun wz hI hF=>?_) (fun s5=>?_) (by rfl)
 ·have hX:=(hI.block _ (ai lN.out)).trans lN.out;have d0:wz.cell? ⟨w.heap.size,1,none⟩=some (.int .i64 ((i:Int)+1)):=by simp[World.cell?,hX]
  clear hX;go_wp2_with fail
  first|exact⟨_,rfl,rfl,qad⟩|exact⟨_,rfl,⟨(),rfl,trivial⟩,qad⟩
 simp only[Act.put,xA,xB,xC,xD,xE,id];refine Reg2.ak (.int .i64 (i:Int)) (by rfl) (fun wz=>?_) ?_
 ·go_simp
  (try rw[xU])
 simp only[Act.put,xA,xB,xC,xD,xE,id]
 repeat((first
  |(refine' Reg2.ak _ (by rfl) (fun wz=>?_) ?_;rotate_left;(go_simp;first|rfl|rw[qai (by omega)]))
  |(refine Reg2.az (by rfl) (fun wz hI hF=>?_) (fun _=>?_)
    ·unfold Reg2.One;have d0:=bJ ((hI.block _ (ai fD.out)).trans fD.out) lX;go_wp2_with fail
     first|exact⟨_,rfl,rfl,qad⟩|exact⟨_,rfl,⟨(),rfl,trivial⟩,qad⟩));simp only[Act.put,xA,xB,xC,xD,xE,id])
 refine Reg2.aD ?_;intro w9 eu _ p9;clear p9 s3 s5;dsimp only[List.drop];have jT:=iO.out.kept eu;obtain⟨iP,pJ,jS,ib⟩:=jT.put (m:=i) fw.out (x1,x2,x3,x4,x5,4,x7,T,-1,x0);have nK:Hid (aB (ax p dv (.slice (some ⟨g,0,none⟩) n cap)) w iP):=(gQ.out.trans (aB.of_below (S:=ax p dv (.slice (some ⟨g,0,none⟩) n cap)) eu) (aY.refl _ _)).trans ib (aY.refl _ _);have vK:w1.heap.size<w9.heap.size:=Nat.lt_of_lt_of_le (ai fD.out) eu.size;have ku:iP.heap[w1.heap.size]? =some (.cells (ag (x1,x2,x3,x4,x5,4,x7,T,-1,x0)).toArray 55 (0,0)):=(ib.block _ vK (fun hk=>by have:=hp0.out _ hk;omega)).trans ((eu.block _ (ai fD.out)).trans fD.out);have lh:aG iP (w.heap.size+1) aQ:=(ib.block _ (by omega) (fun hk=>by have:=hp0.out _ hk;omega)).trans ((eu.block _ (ai nL.out)).trans nL.out);have hld:=bJ ku lX;have htl:=pK (x1,x2,x3,x4,x5,4,x7,T,-1,x0) iP;have Fz:w1.heap.size<iP.heap.size:=ai ku;replace jS:=qae jS;replace lh:=qae lh;rw[←hk10.out]at pJ;clear jT ib eu ku fD nL lN iO gQ;generalize gH (x1,x2,x3,x4,x5,4,x7,T,-1,x0)=tr at*;go_wp2_with fail;go_at_call 157;refine htl.mono ?_;clear htl hld pJ lX zJ;rintro e kF ⟨rfl,iK⟩;have lQ:aG kF (w.heap.size+1) aQ:=lh.out.below iK (by omega);obtain⟨hst,qZ⟩:=lQ.store tr;have jH:Below (w.heap.size+1) iP (kF.setRow (w.heap.size+1) (gJ tr).toArray):=mP (iK.mono (by omega)) (qaf _) _;have rq:Hid (MW (kF.setRow (w.heap.size+1) (gJ tr).toArray) p dv (.slice (some ⟨g,0,none⟩) n cap) {M with L:=M.L.set i (x1,x2,x3,x4,x5,4,x7,T,-1,x0)}):=jS.out.cK jH (fun k hk=>by have:=hp0.out k hk;omega);have mX:Hid (aB (ax p dv (.slice (some ⟨g,0,none⟩) n cap)) w (kF.setRow (w.heap.size+1) (gJ tr).toArray)):=nK.out.later jH (by omega);clear iK jH lQ;go_wp2_with fail;refine aO rfl rfl rfl qZ underlying67 rfl (by kernel_rfl) ⟨rfl,⟨_,rq.out,aY.refl _ _⟩,mX.out⟩
theorem Xk {g n cap i:Nat}(h:MW w p dv (.slice (some ⟨g,0,none⟩) n cap) M)(hb:MB M)(k q3 q4 q5 q6:Int)(q7:Bool)(q8 q9:Int)(T:Int)(hT:T=M.now)(hn:n=M.L.length)(hi:i<n)(x1 x2 x3 x4 x5 x7 x8 x9 x0:Int)(hg:getM M ((i:Int)+1)=((x1,x2,x3,x4,x5,3,x7,x8,x9,x0),true))(hk5:k≠5):Calls prog 92 #[.pointer (some ⟨p,0,none⟩),.agg #[.int .i64 k,.int .i64 ((i:Int)+1),.int .i64 q3,.int .i64 q4,.int .i64 q5,.int .i64 q6,.bool q7,.int .i64 q8,.int .i64 q9]] w (iJ w p dv (.slice (some ⟨g,0,none⟩) n cap) (gH (x1,x2,x3,x4,x5,5,x7,T,-1,x0),{M with L:=M.L.set i (x1,x2,x3,x4,x5,5,x7,T,-1,x0)})):=by
 have hll:=hb.ll;rw[←hn]at hll;have hin:(i:Int)<(n:Int):=by omega
 have b0:(0:Int)≤(i:Int):=by omega
 have xU:IntKind.i64.wrap (i:Int)=(i:Int):=by rw[IntKind.wrap_i64];omega
 have hcap:n≤cap:=by obtain⟨ao,cp,hv,h1,_⟩:=bE h.js;injection hv with _ e1 e2;omega
 obtain⟨wA,aj⟩:=qaa ((w.alloc (.cells #[.int .i64 k,.int .i64 ((i:Int)+1),.int .i64 q3,.int .i64 q4,.int .i64 q5,.int .i64 q6,.bool q7,.int .i64 q8,.int .i64 q9] 33)).alloc (.cells #[.int .i64 0,.int .i64 0,.int .i64 0,.int .i64 0,.int .i64 0,.int .i64 0,.int .i64 0,.int .i64 0,.int .i64 0] 67));have aC:Below w.heap.size w wA:=by rw[aj];exact(qac.alloc (qaf _) _).alloc (by simp) _
 have hsA:wA.heap.size=w.heap.size+2:=by rw[aj];simp
 have aH:aG wA (w.heap.size+1) aQ:=by rw[aj];exact heap_alloc2_new w _ _
 have bg:wA.heap[w.heap.size]? =some (.cells #[.int .i64 k,.int .i64 ((i:Int)+1),.int .i64 q3,.int .i64 q4,.int .i64 q5,.int .i64 q6,.bool q7,.int .i64 q8,.int .i64 q9] 33 (0,0)):=by rw[aj];exact aJ (heap_alloc_new w _)
 have aP:=h.kept aC;have hp0:Hid (∀k,ax p dv (.slice (some ⟨g,0,none⟩) n cap) k→k<w.heap.size):=h.bF;have hgt:=ma aP.read hb ((i:Int)+1) (by omega);rw[aj,hg]at hgt;rw[dP]at hgt;have fw:Hid (i<M.L.length):=by show _<_;rw[←hn];exact hi
 replace aP:=qae aP;replace aC:=qae aC;replace hn:=qae hn;replace hT:=qae hT;have dk:(k == 5)=false:=by simp[hk5]
 clear h hb hg;go_enter func92,ntmps92;go_wp2_with fail;go_at_call 112;refine hgt.mono ?_;clear hgt;rw[←aj];rintro e w1 ⟨rfl,hb1⟩;replace aj:=qae aj;have hs1:w.heap.size+2≤w1.heap.size:=by have:=hb1.size;omega
 have hne:¬w1.heap.size=w.heap.size:=by omega
 have hne2:¬w.heap.size=w1.heap.size:=by omega
 have fV:aG w1 (w.heap.size+1) aQ:=aH.below hb1 (by omega);have ou:w1.heap[w.heap.size]? =some (.cells #[.int .i64 k,.int .i64 ((i:Int)+1),.int .i64 q3,.int .i64 q4,.int .i64 q5,.int .i64 q6,.bool q7,.int .i64 q8,.int .i64 q9] 33 (0,0)):=(hb1.block _ (by omega)).trans bg;have hM1:=aP.out.kept hb1;have hbw:=aC.out.trans (hb1.mono aC.out.size);have c0:∀o,(w1.alloc o).cell? ⟨p,0,none⟩=some (.int .i64 T):=fun o=>by have:=(hM1.kept (qac.alloc (qaf _) o)).read.c0;rw[←hT.out]at this;exact this
 have d0:∀o,(w1.alloc o).cell? ⟨w.heap.size,0,none⟩=some (.int .i64 k):=fun o=>by simp[World.cell?,aJ (o':=o) ou]
 obtain⟨wB,cO⟩:=qaa (w1.alloc (.cells #[.int .i64 x1,.int .i64 x2,.int .i64 x3,.int .i64 x4,.int .i64 x5,.int .i64 5,.int .i64 x7,.int .i64 T,.int .i64 (-1),.int .u64 x0] 55));have fT:Below w1.heap.size w1 wB:=by rw[cO];exact qac.alloc (qaf _) _
 have fD:Hid (wB.heap[w1.heap.size]? =some (.cells (ag (x1,x2,x3,x4,x5,5,x7,T,-1,x0)).toArray 55 (0,0))):=by show _=_;rw[cO];exact heap_alloc_new w1 _
 have iO:Hid (MW wB p dv (.slice (some ⟨g,0,none⟩) n cap) M):=hM1.kept fT;have lN:Hid (wB.heap[w.heap.size]? =some (.cells #[.int .i64 k,.int .i64 ((i:Int)+1),.int .i64 q3,.int .i64 q4,.int .i64 q5,.int .i64 q6,.bool q7,.int .i64 q8,.int .i64 q9] 33 (0,0))):=(fT.block _ (by omega)).trans ou;have nL:Hid (aG wB (w.heap.size+1) aQ):=fV.below fT (by omega);have gQ:Hid (aB (ax p dv (.slice (some ⟨g,0,none⟩) n cap)) w wB):=(aB.of_below (S:=ax p dv (.slice (some ⟨g,0,none⟩) n cap)) hbw).later fT (by omega);clear hb1 aH bg fV ou hM1 hbw fT;go_wp2_with fail;rw[←cO];replace cO:=qae cO;clear c0 d0;have lX:=aA (x1,x2,x3,x4,x5,5,x7,T,-1,x0);have zJ:=bC;obtain⟨k10,hk10⟩:∃k,k=10:=⟨_,rfl⟩;rw[←hk10]at lX zJ;replace hk10:=qae hk10;refine Reg2.ro wB 8 56 [.p 0,.p 1,.p 3,.m 7,.p 0,.m 16,.p 48,.m 0] [.slice (some ⟨g,0,none⟩) n cap,.int .i64 ((i:Int)+1),.agg (ag (x1,x2,x3,x4,x5,5,x7,T,-1,x0)).toArray] (by kernel_rfl) (by kernel_rfl) rfl rfl ⟨rfl,rfl,rfl,qaf _,fun _ _=>rfl⟩ ?_;dsimp only[Reg2.fF]
 repeat(refine' Reg2.ak _ (by rfl) (fun wz=>?_) ?_;rotate_left;(go_simp;first|rfl|rw[qai (by omega)]);simp only[Act.put,xA,xB,xC,xD,xE,id])
 refine Reg2.pm (fun wz hI hF=>?_) (fun s3=>?_) (by rfl)
 ·have d0:=(iO.out.kept hI).read.c2;go_wp2_with fail
  first|exact⟨_,rfl,rfl,qad⟩|exact⟨_,rfl,⟨(),rfl,trivial⟩,qad⟩
 simp only[Act.put,xA,xB,xC,xD,xE,id]
 repeat(refine' Reg2.ak _ (by rfl) (fun wz=>?_) ?_;rotate_left;(go_simp;first|rfl|rw[qai (by omega)]);simp only[Act.put,xA,xB,xC,xD,xE,id])
 refine Reg2.pm (fun wz hI hF=>?_) (fun s5=>?_) (by rfl)
 ·have hX:=(hI.block _ (ai lN.out)).trans lN.out;have d0:wz.cell? ⟨w.heap.size,1,none⟩=some (.int .i64 ((i:Int)+1)):=by simp[World.cell?,hX]
  clear hX;go_wp2_with fail
  first|exact⟨_,rfl,rfl,qad⟩|exact⟨_,rfl,⟨(),rfl,trivial⟩,qad⟩
 simp only[Act.put,xA,xB,xC,xD,xE,id];refine Reg2.ak (.int .i64 (i:Int)) (by rfl) (fun wz=>?_) ?_
 ·go_simp
  (try rw[xU])
 simp only[Act.put,xA,xB,xC,xD,xE,id]
 repeat((first
  |(refine' Reg2.ak _ (by rfl) (fun wz=>?_) ?_;rotate_left;(go_simp;first|rfl|rw[qai (by omega)]))
  |(refine Reg2.az (by rfl) (fun wz hI hF=>?_) (fun _=>?_)
    ·unfold Reg2.One;have d0:=bJ ((hI.block _ (ai fD.out)).trans fD.out) lX;go_wp2_with fail
     first|exact⟨_,rfl,rfl,qad⟩|exact⟨_,rfl,⟨(),rfl,trivial⟩,qad⟩));simp only[Act.put,xA,xB,xC,xD,xE,id])
 refine Reg2.aD ?_;intro w9 eu _ p9;clear p9 s3 s5;dsimp only[List.drop];have jT:=iO.out.kept eu;obtain⟨iP,pJ,jS,ib⟩:=jT.put (m:=i) fw.out (x1,x2,x3,x4,x5,5,x7,T,-1,x0);have nK:Hid (aB (ax p dv (.slice (some ⟨g,0,none⟩) n cap)) w iP):=(gQ.out.trans (aB.of_below (S:=ax p dv (.slice (some ⟨g,0,none⟩) n cap)) eu) (aY.refl _ _)).trans ib (aY.refl _ _);have vK:w1.heap.size<w9.heap.size:=Nat.lt_of_lt_of_le (ai fD.out) eu.size;have ku:iP.heap[w1.heap.size]? =some (.cells (ag (x1,x2,x3,x4,x5,5,x7,T,-1,x0)).toArray 55 (0,0)):=(ib.block _ vK (fun hk=>by have:=hp0.out _ hk;omega)).trans ((eu.block _ (ai fD.out)).trans fD.out);have lh:aG iP (w.heap.size+1) aQ:=(ib.block _ (by omega) (fun hk=>by have:=hp0.out _ hk;omega)).trans ((eu.block _ (ai nL.out)).trans nL.out);have hld:=bJ ku lX;have htl:=pK (x1,x2,x3,x4,x5,5,x7,T,-1,x0) iP;have Fz:w1.heap.size<iP.heap.size:=ai ku;replace jS:=qae jS;replace lh:=qae lh;rw[←hk10.out]at pJ;clear jT ib eu ku fD nL lN iO gQ;generalize gH (x1,x2,x3,x4,x5,5,x7,T,-1,x0)=tr at*;go_wp2_with fail;go_at_call 157;refine htl.mono ?_;clear htl hld pJ lX zJ;rintro e kF ⟨rfl,iK⟩;have lQ:aG kF (w.heap.size+1) aQ:=lh.out.below iK (by omega);obtain⟨hst,qZ⟩:=lQ.store tr;have jH:Below (w.heap.size+1) iP (kF.setRow (w.heap.size+1) (gJ tr).toArray):=mP (iK.mono (by omega)) (qaf _) _;have rq:Hid (MW (kF.setRow (w.heap.size+1) (gJ tr).toArray) p dv (.slice (some ⟨g,0,none⟩) n cap) {M with L:=M.L.set i (x1,x2,x3,x4,x5,5,x7,T,-1,x0)}):=jS.out.cK jH (fun k hk=>by have:=hp0.out k hk;omega);have mX:Hid (aB (ax p dv (.slice (some ⟨g,0,none⟩) n cap)) w (kF.setRow (w.heap.size+1) (gJ tr).toArray)):=nK.out.later jH (by omega);clear iK jH lQ;go_wp2_with fail;refine aO rfl rfl rfl qZ underlying67 rfl (by kernel_rfl) ⟨rfl,⟨_,rq.out,aY.refl _ _⟩,mX.out⟩
theorem Vg {g n cap i:Nat}(h:MW w p dv (.slice (some ⟨g,0,none⟩) n cap) M)(hb:MB M)(k q3 q4 q5 q6:Int)(q7:Bool)(q8 q9:Int)(T:Int)(hT:T=M.now)(hn:n=M.L.length)(hi:i<n)(x1 x2 x3 x4 x5 x6 x7 x8 x9 x0:Int)(hg:getM M ((i:Int)+1)=((x1,x2,x3,x4,x5,x6,x7,x8,x9,x0),true))(hk5:k≠5)(hs3:x6≠3)(hs4:x6≤3):Calls prog 92 #[.pointer (some ⟨p,0,none⟩),.agg #[.int .i64 k,.int .i64 ((i:Int)+1),.int .i64 q3,.int .i64 q4,.int .i64 q5,.int .i64 q6,.bool q7,.int .i64 q8,.int .i64 q9]] w (iJ w p dv (.slice (some ⟨g,0,none⟩) n cap) (gH (x1,x2,x3,x4,x5,5,x7,x8,-1,x0),{M with L:=M.L.set i (x1,x2,x3,x4,x5,5,x7,x8,-1,x0)})):=by
 have hll:=hb.ll;rw[←hn]at hll;have hin:(i:Int)<(n:Int):=by omega
 have b0:(0:Int)≤(i:Int):=by omega
 have xU:IntKind.i64.wrap (i:Int)=(i:Int):=by rw[IntKind.wrap_i64];omega
 have hcap:n≤cap:=by obtain⟨ao,cp,hv,h1,_⟩:=bE h.js;injection hv with _ e1 e2;omega
 obtain⟨wA,aj⟩:=qaa ((w.alloc (.cells #[.int .i64 k,.int .i64 ((i:Int)+1),.int .i64 q3,.int .i64 q4,.int .i64 q5,.int .i64 q6,.bool q7,.int .i64 q8,.int .i64 q9] 33)).alloc (.cells #[.int .i64 0,.int .i64 0,.int .i64 0,.int .i64 0,.int .i64 0,.int .i64 0,.int .i64 0,.int .i64 0,.int .i64 0] 67));have aC:Below w.heap.size w wA:=by rw[aj];exact(qac.alloc (qaf _) _).alloc (by simp) _
 have hsA:wA.heap.size=w.heap.size+2:=by rw[aj];simp
 have aH:aG wA (w.heap.size+1) aQ:=by rw[aj];exact heap_alloc2_new w _ _
 have bg:wA.heap[w.heap.size]? =some (.cells #[.int .i64 k,.int .i64 ((i:Int)+1),.int .i64 q3,.int .i64 q4,.int .i64 q5,.int .i64 q6,.bool q7,.int .i64 q8,.int .i64 q9] 33 (0,0)):=by rw[aj];exact aJ (heap_alloc_new w _)
 have aP:=h.kept aC;have hp0:Hid (∀k,ax p dv (.slice (some ⟨g,0,none⟩) n cap) k→k<w.heap.size):=h.bF;have hgt:=ma aP.read hb ((i:Int)+1) (by omega);rw[aj,hg]at hgt;rw[dP]at hgt;have fw:Hid (i<M.L.length):=by show _<_;rw[←hn];exact hi
 replace aP:=qae aP;replace aC:=qae aC;replace hn:=qae hn;replace hT:=qae hT;have dk:(k == 5)=false:=by simp[hk5]
 have ds:(x6 == 3)=false:=by simp[hs3]
 have dg:decide (3<x6)=false:=qah (by omega);clear h hb hg;go_enter func92,ntmps92;go_wp2_with fail;go_at_call 112;refine hgt.mono ?_;clear hgt;rw[←aj];rintro e w1 ⟨rfl,hb1⟩;replace aj:=qae aj;have hs1:w.heap.size+2≤w1.heap.size:=by have:=hb1.size;omega
 have hne:¬w1.heap.size=w.heap.size:=by omega
 have hne2:¬w.heap.size=w1.heap.size:=by omega
 have fV:aG w1 (w.heap.size+1) aQ:=aH.below hb1 (by omega);have ou:w1.heap[w.heap.size]? =some (.cells #[.int .i64 k,.int .i64 ((i:Int)+1),.int .i64 q3,.int .i64 q4,.int .i64 q5,.int .i64 q6,.bool q7,.int .i64 q8,.int .i64 q9] 33 (0,0)):=(hb1.block _ (by omega)).trans bg;have hM1:=aP.out.kept hb1;have hbw:=aC.out.trans (hb1.mono aC.out.size);have c0:∀o,(w1.alloc o).cell? ⟨p,0,none⟩=some (.int .i64 T):=fun o=>by have:=(hM1.kept (qac.alloc (qaf _) o)).read.c0;rw[←hT.out]at this;exact this
 have d0:∀o,(w1.alloc o).cell? ⟨w.heap.size,0,none⟩=some (.int .i64 k):=fun o=>by simp[World.cell?,aJ (o':=o) ou]
 obtain⟨wB,cO⟩:=qaa (w1.alloc (.cells #[.int .i64 x1,.int .i64 x2,.int .i64 x3,.int .i64 x4,.int .i64 x5,.int .i64 5,.int .i64 x7,.int .i64 x8,.int .i64 (-1),.int .u64 x0] 55));have fT:Below w1.heap.size w1 wB:=by rw[cO];exact qac.alloc (qaf _) _
 have fD:Hid (wB.heap[w1.heap.size]? =some (.cells (ag (x1,x2,x3,x4,x5,5,x7,x8,-1,x0)).toArray 55 (0,0))):=by show _=_;rw[cO];exact heap_alloc_new w1 _
 have iO:Hid (MW wB p dv (.slice (some ⟨g,0,none⟩) n cap) M):=hM1.kept fT;have lN:Hid (wB.heap[w.heap.size]? =some (.cells #[.int .i64 k,.int .i64 ((i:Int)+1),.int .i64 q3,.int .i64 q4,.int .i64 q5,.int .i64 q6,.bool q7,.int .i64 q8,.int .i64 q9] 33 (0,0))):=(fT.block _ (by omega)).trans ou;have nL:Hid (aG wB (w.heap.size+1) aQ):=fV.below fT (by omega);have gQ:Hid (aB (ax p dv (.slice (some ⟨g,0,none⟩) n cap)) w wB):=(aB.of_below (S:=ax p dv (.slice (some ⟨g,0,none⟩) n cap)) hbw).later fT (by omega);clear hb1 aH bg fV ou hM1 hbw fT;go_wp2_with fail;rw[←cO];replace cO:=qae cO;clear c0 d0;have lX:=aA (x1,x2,x3,x4,x5,5,x7,x8,-1,x0);have zJ:=bC;obtain⟨k10,hk10⟩:∃k,k=10:=⟨_,rfl⟩;rw[←hk10]at lX zJ;replace hk10:=qae hk10;refine Reg2.ro wB 8 56 [.p 0,.p 1,.p 3,.m 7,.p 0,.m 16,.p 48,.m 0] [.slice (some ⟨g,0,none⟩) n cap,.int .i64 ((i:Int)+1),.agg (ag (x1,x2,x3,x4,x5,5,x7,x8,-1,x0)).toArray] (by kernel_rfl) (by kernel_rfl) rfl rfl ⟨rfl,rfl,rfl,qaf _,fun _ _=>rfl⟩ ?_;dsimp only[Reg2.fF]
 repeat(refine' Reg2.ak _ (by rfl) (fun wz=>?_) ?_;rotate_left;(go_simp;first|rfl|rw[qai (by omega)]);simp only[Act.put,xA,xB,xC,xD,xE,id])
 refine Reg2.pm (fun wz hI hF=>?_) (fun s3=>?_) (by rfl)
 ·have d0:=(iO.out.kept hI).read.c2;go_wp2_with fail
  first|exact⟨_,rfl,rfl,qad⟩|exact⟨_,rfl,⟨(),rfl,trivial⟩,qad⟩
 simp only[Act.put,xA,xB,xC,xD,xE,id]
 repeat(refine' Reg2.ak _ (by rfl) (fun wz=>?_) ?_;rotate_left;(go_simp;first|rfl|rw[qai (by omega)]);simp only[Act.put,xA,xB,xC,xD,xE,id])
 refine Reg2.pm (fun wz hI hF=>?_) (fun s5=>?_) (by rfl)
 ·have hX:=(hI.block _ (ai lN.out)).trans lN.out;have d0:wz.cell? ⟨w.heap.size,1,none⟩=some (.int .i64 ((i:Int)+1)):=by simp[World.cell?,hX]
  clear hX;go_wp2_with fail
  first|exact⟨_,rfl,rfl,qad⟩|exact⟨_,rfl,⟨(),rfl,trivial⟩,qad⟩
 simp only[Act.put,xA,xB,xC,xD,xE,id];refine Reg2.ak (.int .i64 (i:Int)) (by rfl) (fun wz=>?_) ?_
 ·go_simp
  (try rw[xU])
 simp only[Act.put,xA,xB,xC,xD,xE,id]
 repeat((first
  |(refine' Reg2.ak _ (by rfl) (fun wz=>?_) ?_;rotate_left;(go_simp;first|rfl|rw[qai (by omega)]))
  |(refine Reg2.az (by rfl) (fun wz hI hF=>?_) (fun _=>?_)
    ·unfold Reg2.One;have d0:=bJ ((hI.block _ (ai fD.out)).trans fD.out) lX;go_wp2_with fail
     first|exact⟨_,rfl,rfl,qad⟩|exact⟨_,rfl,⟨(),rfl,trivial⟩,qad⟩));simp only[Act.put,xA,xB,xC,xD,xE,id])
 refine Reg2.aD ?_;intro w9 eu _ p9;clear p9 s3 s5;dsimp only[List.drop];have jT:=iO.out.kept eu;obtain⟨iP,pJ,jS,ib⟩:=jT.put (m:=i) fw.out (x1,x2,x3,x4,x5,5,x7,x8,-1,x0);have nK:Hid (aB (ax p dv (.slice (some ⟨g,0,none⟩) n cap)) w iP):=(gQ.out.trans (aB.of_below (S:=ax p dv (.slice (some ⟨g,0,none⟩) n cap)) eu) (aY.refl _ _)).trans ib (aY.refl _ _);have vK:w1.heap.size<w9.heap.size:=Nat.lt_of_lt_of_le (ai fD.out) eu.size;have ku:iP.heap[w1.heap.size]? =some (.cells (ag (x1,x2,x3,x4,x5,5,x7,x8,-1,x0)).toArray 55 (0,0)):=(ib.block _ vK (fun hk=>by have:=hp0.out _ hk;omega)).trans ((eu.block _ (ai fD.out)).trans fD.out);have lh:aG iP (w.heap.size+1) aQ:=(ib.block _ (by omega) (fun hk=>by have:=hp0.out _ hk;omega)).trans ((eu.block _ (ai nL.out)).trans nL.out);have hld:=bJ ku lX;have htl:=pK (x1,x2,x3,x4,x5,5,x7,x8,-1,x0) iP;have Fz:w1.heap.size<iP.heap.size:=ai ku;replace jS:=qae jS;replace lh:=qae lh;rw[←hk10.out]at pJ;clear jT ib eu ku fD nL lN iO gQ;generalize gH (x1,x2,x3,x4,x5,5,x7,x8,-1,x0)=tr at*;go_wp2_with fail;go_at_call 157;refine htl.mono ?_;clear htl hld pJ lX zJ;rintro e kF ⟨rfl,iK⟩;have lQ:aG kF (w.heap.size+1) aQ:=lh.out.below iK (by omega);obtain⟨hst,qZ⟩:=lQ.store tr;have jH:Below (w.heap.size+1) iP (kF.setRow (w.heap.size+1) (gJ tr).toArray):=mP (iK.mono (by omega)) (qaf _) _;have rq:Hid (MW (kF.setRow (w.heap.size+1) (gJ tr).toArray) p dv (.slice (some ⟨g,0,none⟩) n cap) {M with L:=M.L.set i (x1,x2,x3,x4,x5,5,x7,x8,-1,x0)}):=jS.out.cK jH (fun k hk=>by have:=hp0.out k hk;omega);have mX:Hid (aB (ax p dv (.slice (some ⟨g,0,none⟩) n cap)) w (kF.setRow (w.heap.size+1) (gJ tr).toArray)):=nK.out.later jH (by omega);clear iK jH lQ;go_wp2_with fail;refine aO rfl rfl rfl qZ underlying67 rfl (by kernel_rfl) ⟨rfl,⟨_,rq.out,aY.refl _ _⟩,mX.out⟩
theorem Px (h:MW w p dv lv M)(hb:MB M)(k id q3 q4 q5 q6:Int)(q7:Bool)(q8 q9:Int)(hid: -9223372036854775808≤id∧id≤9223372036854775807)(x1 x2 x3 x4 x5 x6 x7 x8 x9 x0:Int)(hg:getM M id=((x1,x2,x3,x4,x5,x6,x7,x8,x9,x0),true))(hs:3<x6):Calls prog 92 #[.pointer (some ⟨p,0,none⟩),.agg #[.int .i64 k,.int .i64 id,.int .i64 q3,.int .i64 q4,.int .i64 q5,.int .i64 q6,.bool q7,.int .i64 q8,.int .i64 q9]] w (iJ w p dv lv (dB 8,M)):=by
 obtain⟨wA,aj⟩:=qaa ((w.alloc (.cells #[.int .i64 k,.int .i64 id,.int .i64 q3,.int .i64 q4,.int .i64 q5,.int .i64 q6,.bool q7,.int .i64 q8,.int .i64 q9] 33)).alloc (.cells #[.int .i64 0,.int .i64 0,.int .i64 0,.int .i64 0,.int .i64 0,.int .i64 0,.int .i64 0,.int .i64 0,.int .i64 0] 67));have aC:Below w.heap.size w wA:=by rw[aj];exact(qac.alloc (qaf _) _).alloc (by simp) _
 have hsA:wA.heap.size=w.heap.size+2:=by rw[aj];simp
 have aH:aG wA (w.heap.size+1) aQ:=by rw[aj];exact heap_alloc2_new w _ _
 have bg:wA.heap[w.heap.size]? =some (.cells #[.int .i64 k,.int .i64 id,.int .i64 q3,.int .i64 q4,.int .i64 q5,.int .i64 q6,.bool q7,.int .i64 q8,.int .i64 q9] 33 (0,0)):=by rw[aj];exact aJ (heap_alloc_new w _)
 have aP:=h.kept aC;have hp0:Hid (∀k,ax p dv lv k→k<w.heap.size):=h.bF;have hgt:=ma aP.read hb id hid;rw[aj,hg]at hgt;rw[dP]at hgt;replace aP:=qae aP;replace aC:=qae aC;have dg:decide (3<x6)=true:=qag hs;clear h hb hid hg;go_enter func92,ntmps92;go_wp2_with fail;go_at_call 112;refine hgt.mono ?_;clear hgt;rw[←aj];rintro e w1 ⟨rfl,hb1⟩;replace aj:=qae aj;obtain⟨w2,hw2⟩:=qaa (w1.alloc (.cells #[.int .i64 x1,.int .i64 x2,.int .i64 x3,.int .i64 x4,.int .i64 x5,.int .i64 x6,.int .i64 x7,.int .i64 x8,.int .i64 x9,.int .u64 x0] 55));have hb2:Below wA.heap.size wA w2:=by rw[hw2];exact hb1.alloc hb1.size _
 have hR2:aG w2 (w.heap.size+1) aQ:=aH.below hb2 (by omega);have mD:w2.heap[w.heap.size]? =some (.cells #[.int .i64 k,.int .i64 id,.int .i64 q3,.int .i64 q4,.int .i64 q5,.int .i64 q6,.bool q7,.int .i64 q8,.int .i64 q9] 33 (0,0)):=(hb2.block _ (by omega)).trans bg;have d0:w2.cell? ⟨w.heap.size,0,none⟩=some (.int .i64 k):=by simp[World.cell?,mD]
 have hM2:=qae (aP.out.kept hb2);have hbw:=qae (aC.out.trans (hb2.mono aC.out.size));have a0:=hR2.at 0 (.int .i64 0) rfl;have f0:=hR2.free 0;have a1:=hR2.at 1 (.int .i64 0) rfl;have f1:=hR2.free 1;have a2:=hR2.at 2 (.int .i64 0) rfl;have f2:=hR2.free 2;have a3:=hR2.at 3 (.int .i64 0) rfl;have f3:=hR2.free 3;have a4:=hR2.at 4 (.int .i64 0) rfl;have f4:=hR2.free 4;have a5:=hR2.at 5 (.int .i64 0) rfl;have f5:=hR2.free 5;have a6:=hR2.at 6 (.int .i64 0) rfl;have f6:=hR2.free 6;have a7:=hR2.at 7 (.int .i64 0) rfl;have f7:=hR2.free 7;have a8:=hR2.at 8 (.int .i64 0) rfl;have f8:=hR2.free 8;rw[hw2]at d0 a0 f0 a1 f1 a2 f2 a3 f3 a4 f4 a5 f5 a6 f6 a7 f7 a8 f8;clear hb1 hb2 aH bg mD;go_wp2_with fail;rw[←hw2];obtain⟨w3,hw3⟩:=qaa ((((((((((w2).setCell ⟨w.heap.size+1,0,none⟩ (.int .i64 8)).setCell ⟨w.heap.size+1,1,none⟩ (.int .i64 0)).setCell ⟨w.heap.size+1,2,none⟩ (.int .i64 0)).setCell ⟨w.heap.size+1,3,none⟩ (.int .i64 0)).setCell ⟨w.heap.size+1,4,none⟩ (.int .i64 0)).setCell ⟨w.heap.size+1,5,none⟩ (.int .i64 0)).setCell ⟨w.heap.size+1,6,none⟩ (.int .i64 0)).setCell ⟨w.heap.size+1,7,none⟩ (.int .i64 0)).setCell ⟨w.heap.size+1,8,none⟩ (.int .i64 0));rw[←hw3];have hb3:Below (w.heap.size+1) w2 w3:=by rw[hw3];exact aT (aT (aT (aT (aT (aT (aT (aT (aT qac (qaf _) 0 _) (qaf _) 1 _) (qaf _) 2 _) (qaf _) 3 _) (qaf _) 4 _) (qaf _) 5 _) (qaf _) 6 _) (qaf _) 7 _) (qaf _) 8 _
 have gz:aG w3 (w.heap.size+1) (dB 8):=by rw[hw3];exact heap_put (i:=8) (heap_put (i:=7) (heap_put (i:=6) (heap_put (i:=5) (heap_put (i:=4) (heap_put (i:=3) (heap_put (i:=2) (heap_put (i:=1) (heap_put (i:=0) (hR2) (.int .i64 8)) (.int .i64 0)) (.int .i64 0)) (.int .i64 0)) (.int .i64 0)) (.int .i64 0)) (.int .i64 0)) (.int .i64 0)) (.int .i64 0)
 replace hw2:=qae hw2;replace hw3:=qae hw3;have eZ:MW w3 p dv lv M:=hM2.out.cK hb3 (fun k hk=>Nat.lt_succ_of_lt (hp0.out k hk));have hof:aB (ax p dv lv) w w3:=(aB.of_below (S:=ax p dv lv) hbw.out).later hb3 (Nat.le_succ _);refine aO rfl rfl rfl gz underlying67 rfl (by kernel_rfl) ⟨rfl,⟨lv,eZ,aY.refl _ _⟩,hof⟩
theorem Py (h:MW w p dv lv M)(hb:MB M)(id q3 q4 q5 q6:Int)(q7:Bool)(q8 q9:Int)(hid: -9223372036854775808≤id∧id≤9223372036854775807)(x1 x2 x3 x4 x5 x6 x7 x8 x9 x0:Int)(hg:getM M id=((x1,x2,x3,x4,x5,x6,x7,x8,x9,x0),true))(hs:x6≤3)(hs3:x6≠3):Calls prog 92 #[.pointer (some ⟨p,0,none⟩),.agg #[.int .i64 5,.int .i64 id,.int .i64 q3,.int .i64 q4,.int .i64 q5,.int .i64 q6,.bool q7,.int .i64 q8,.int .i64 q9]] w (iJ w p dv lv (dB 8,M)):=by
 obtain⟨wA,aj⟩:=qaa ((w.alloc (.cells #[.int .i64 5,.int .i64 id,.int .i64 q3,.int .i64 q4,.int .i64 q5,.int .i64 q6,.bool q7,.int .i64 q8,.int .i64 q9] 33)).alloc (.cells #[.int .i64 0,.int .i64 0,.int .i64 0,.int .i64 0,.int .i64 0,.int .i64 0,.int .i64 0,.int .i64 0,.int .i64 0] 67));have aC:Below w.heap.size w wA:=by rw[aj];exact(qac.alloc (qaf _) _).alloc (by simp) _
 have hsA:wA.heap.size=w.heap.size+2:=by rw[aj];simp
 have aH:aG wA (w.heap.size+1) aQ:=by rw[aj];exact heap_alloc2_new w _ _
 have bg:wA.heap[w.heap.size]? =some (.cells #[.int .i64 5,.int .i64 id,.int .i64 q3,.int .i64 q4,.int .i64 q5,.int .i64 q6,.bool q7,.int .i64 q8,.int .i64 q9] 33 (0,0)):=by rw[aj];exact aJ (heap_alloc_new w _)
 have aP:=h.kept aC;have hp0:Hid (∀k,ax p dv lv k→k<w.heap.size):=h.bF;have hgt:=ma aP.read hb id hid;rw[aj,hg]at hgt;rw[dP]at hgt;replace aP:=qae aP;replace aC:=qae aC;have dg:decide (3<x6)=false:=qah (by omega);have dn:(x6 != 3)=true:=by simp[hs3]
 clear h hb hid hg;go_enter func92,ntmps92;go_wp2_with fail;go_at_call 112;refine hgt.mono ?_;clear hgt;rw[←aj];rintro e w1 ⟨rfl,hb1⟩;replace aj:=qae aj;obtain⟨w2,hw2⟩:=qaa (w1.alloc (.cells #[.int .i64 x1,.int .i64 x2,.int .i64 x3,.int .i64 x4,.int .i64 x5,.int .i64 x6,.int .i64 x7,.int .i64 x8,.int .i64 x9,.int .u64 x0] 55));have hb2:Below wA.heap.size wA w2:=by rw[hw2];exact hb1.alloc hb1.size _
 have hR2:aG w2 (w.heap.size+1) aQ:=aH.below hb2 (by omega);have mD:w2.heap[w.heap.size]? =some (.cells #[.int .i64 5,.int .i64 id,.int .i64 q3,.int .i64 q4,.int .i64 q5,.int .i64 q6,.bool q7,.int .i64 q8,.int .i64 q9] 33 (0,0)):=(hb2.block _ (by omega)).trans bg;have d0:w2.cell? ⟨w.heap.size,0,none⟩=some (.int .i64 5):=by simp[World.cell?,mD]
 have hM2:=qae (aP.out.kept hb2);have hbw:=qae (aC.out.trans (hb2.mono aC.out.size));have a0:=hR2.at 0 (.int .i64 0) rfl;have f0:=hR2.free 0;have a1:=hR2.at 1 (.int .i64 0) rfl;have f1:=hR2.free 1;have a2:=hR2.at 2 (.int .i64 0) rfl;have f2:=hR2.free 2;have a3:=hR2.at 3 (.int .i64 0) rfl;have f3:=hR2.free 3;have a4:=hR2.at 4 (.int .i64 0) rfl;have f4:=hR2.free 4;have a5:=hR2.at 5 (.int .i64 0) rfl;have f5:=hR2.free 5;have a6:=hR2.at 6 (.int .i64 0) rfl;have f6:=hR2.free 6;have a7:=hR2.at 7 (.int .i64 0) rfl;have f7:=hR2.free 7;have a8:=hR2.at 8 (.int .i64 0) rfl;have f8:=hR2.free 8;rw[hw2]at d0 a0 f0 a1 f1 a2 f2 a3 f3 a4 f4 a5 f5 a6 f6 a7 f7 a8 f8;clear hb1 hb2 aH bg mD;go_wp2_with fail;rw[←hw2];obtain⟨w3,hw3⟩:=qaa ((((((((((w2).setCell ⟨w.heap.size+1,0,none⟩ (.int .i64 8)).setCell ⟨w.heap.size+1,1,none⟩ (.int .i64 0)).setCell ⟨w.heap.size+1,2,none⟩ (.int .i64 0)).setCell ⟨w.heap.size+1,3,none⟩ (.int .i64 0)).setCell ⟨w.heap.size+1,4,none⟩ (.int .i64 0)).setCell ⟨w.heap.size+1,5,none⟩ (.int .i64 0)).setCell ⟨w.heap.size+1,6,none⟩ (.int .i64 0)).setCell ⟨w.heap.size+1,7,none⟩ (.int .i64 0)).setCell ⟨w.heap.size+1,8,none⟩ (.int .i64 0));rw[←hw3];have hb3:Below (w.heap.size+1) w2 w3:=by rw[hw3];exact aT (aT (aT (aT (aT (aT (aT (aT (aT qac (qaf _) 0 _) (qaf _) 1 _) (qaf _) 2 _) (qaf _) 3 _) (qaf _) 4 _) (qaf _) 5 _) (qaf _) 6 _) (qaf _) 7 _) (qaf _) 8 _
 have gz:aG w3 (w.heap.size+1) (dB 8):=by rw[hw3];exact heap_put (i:=8) (heap_put (i:=7) (heap_put (i:=6) (heap_put (i:=5) (heap_put (i:=4) (heap_put (i:=3) (heap_put (i:=2) (heap_put (i:=1) (heap_put (i:=0) (hR2) (.int .i64 8)) (.int .i64 0)) (.int .i64 0)) (.int .i64 0)) (.int .i64 0)) (.int .i64 0)) (.int .i64 0)) (.int .i64 0)) (.int .i64 0)
 replace hw2:=qae hw2;replace hw3:=qae hw3;have eZ:MW w3 p dv lv M:=hM2.out.cK hb3 (fun k hk=>Nat.lt_succ_of_lt (hp0.out k hk));have hof:aB (ax p dv lv) w w3:=(aB.of_below (S:=ax p dv lv) hbw.out).later hb3 (Nat.le_succ _);refine aO rfl rfl rfl gz underlying67 rfl (by kernel_rfl) ⟨rfl,⟨lv,eZ,aY.refl _ _⟩,hof⟩
theorem CK (M:Md)(id:Int):(getM M id).2=false∨∃i:Nat,id=(i:Int)+1∧i<M.L.length∧getM M id=(M.L.getD i default,true):=by
 by_cases hc:id<1∨(M.L.length:Int)<id
 ·left;unfold getM;rw[qaj hc]
 ·right;refine⟨(id-1).toNat,by omega,by omega,?_⟩;unfold getM;rw[qai hc]
theorem OB (h:MW w p dv lv M)(hb:MB M)(k id q3 q4 q5 q6:Int)(q7:Bool)(q8 q9:Int)(hk:k=2∨k=5)(hid: -9223372036854775808≤id∧id≤9223372036854775807):Calls prog 92 #[.pointer (some ⟨p,0,none⟩),.agg #[.int .i64 k,.int .i64 id,.int .i64 q3,.int .i64 q4,.int .i64 q5,.int .i64 q6,.bool q7,.int .i64 q8,.int .i64 q9]] w (iJ w p dv lv (kY M ⟨k,id,q3,q4,q5,q6,q7,q8,q9⟩)):=by
 unfold kY;simp only;rcases CK M id with hg|⟨i,rfl,hi,hg⟩
 ·rw[qaj hg];exact Ve h hb k id q3 q4 q5 q6 q7 q8 q9 hid hg
 ·rw[hg];simp only[Bool.true_eq_false,if_false];obtain⟨ao,cap,hlv,_,_,hsome⟩:=bE h.js;obtain⟨g,rfl⟩:=hsome (by omega);subst hlv;rw[show((i:Int)+1-1).toNat=i by omega];generalize M.L.getD i default=y at*;obtain⟨x1,x2,x3,x4,x5,x6,x7,x8,x9,x0⟩:=y;show Calls _ _ _ _ (iJ w p dv _ (if 3<x6∨(k=5∧x6≠3)then _ else _));by_cases hs:3<x6
  ·rw[qaj (.inl hs)];exact Px h hb k _ q3 q4 q5 q6 q7 q8 q9 hid x1 x2 x3 x4 x5 x6 x7 x8 x9 x0 hg hs
  ·rcases hk with rfl|rfl
   ·rw[qai (by omega)];by_cases h3:x6=3
    ·subst h3;exact Xk h hb 2 q3 q4 q5 q6 q7 q8 q9 M.now rfl rfl hi x1 x2 x3 x4 x5 x7 x8 x9 x0 hg (by decide)
    ·have e:jA M 2 (x1,x2,x3,x4,x5,x6,x7,x8,x9,x0)=(x1,x2,x3,x4,x5,5,x7,x8,-1,x0):=by
      unfold jA;rw[qai (show¬Jb.st (x1,x2,x3,x4,x5,x6,x7,x8,x9,x0)=3 from h3)];rfl
     rw[e];exact Vg h hb 2 q3 q4 q5 q6 q7 q8 q9 M.now rfl rfl hi x1 x2 x3 x4 x5 x6 x7 x8 x9 x0 hg (by decide) h3 (by omega)
   ·by_cases h3:x6=3
    ·subst h3;rw[qai (by omega)];exact Vf h hb q3 q4 q5 q6 q7 q8 q9 M.now rfl rfl hi x1 x2 x3 x4 x5 x7 x8 x9 x0 hg
    ·rw[qaj (.inr ⟨rfl,h3⟩)];exact Py h hb _ q3 q4 q5 q6 q7 q8 q9 hid x1 x2 x3 x4 x5 x6 x7 x8 x9 x0 hg (by omega) h3
end
end Go.Proofs.YtaimcpmcndapcaaGreat
