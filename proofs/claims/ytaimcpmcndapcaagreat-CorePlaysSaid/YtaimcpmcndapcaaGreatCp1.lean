/-
 Own words and walks, merged: part 1 of 10.
-/
import Derived.WalkKit
import Derived.ProofKit
import Derived.OpenShut
import Derived.Deep.Slices
import Derived.Deep.Fields
import Derived.ChangeSame
import Derived.Laws.AppendOwn
import Derived.Test.YtaimcpmcndapcaaGreatChecked
import Derived.WalkSpells
import Derived.WalkLawsBesides
import Derived.Deep.DeepMust
import Derived.Lib.Hide
import Derived.LaidEql
import Derived.Sort.Grow
import Derived.Shelf.GgSortFunc.RowK
import Derived.Shelf.SlicesQ.Load
import Derived.Deep.AppendSrc
import Derived.Lib.OwnBridge
import Derived.Lib.AppendZerosOnto
import Derived.Lib.Overlaps
import Derived.Laws.CopyRow
import Derived.Laws.Externs
import Derived.Laws.Rows
import Derived.BigRegion
set_option maxRecDepth 1000000
set_option maxHeartbeats 8000000
set_option linter.all false
namespace Go.Proofs.YtaimcpmcndapcaaGreat
open Go.Proofs.Tryz
theorem qaa.{u}{a:Sort u}(y:a):∃x,x=y:=⟨y,rfl⟩
theorem qab.{u}{a:Sort u}(y:a):∃x,y=x:=⟨y,rfl⟩
open Go Go.RowKit in
theorem qac {B:Nat}{w:World}:Below B w w:=Below.refl B w
open Go in
theorem qae {p:Prop}(h:p):RowKit.Hid p:=Lib.hid h
theorem qaf (n:Nat):n≤n:=Nat.le_refl n
theorem qag {p:Prop}[i:Decidable p]:p→decide p=true:=decide_eq_true
theorem qah {p:Prop}[i:Decidable p]:¬p→decide p=false:=decide_eq_false
theorem qai.{u}{c:Prop}{h:Decidable c}(n:¬c){a:Sort u}{t e:a}:ite c t e=e:=if_neg n
theorem qaj.{u}{c:Prop}{h:Decidable c}(n:c){a:Sort u}{t e:a}:ite c t e=t:=if_pos n
theorem xA.{u}{a:Type u}(l:List a)(i:Nat)(x:a):l.toArray.setIfInBounds i x=(l.set i x).toArray:=List.setIfInBounds_toArray l i x
theorem xB.{u}{a:Type u}{x:a}{xs:List a}{y:a}:(x::xs).set 0 y=y::xs:=rfl
theorem xC.{u}{a:Type u}{x:a}{xs:List a}{i:Nat}{y:a}:(x::xs).set (i+1) y=x::xs.set i y:=rfl
theorem xD.{u}{a:Type u}(l:List a): []++l=l:=rfl
theorem xE.{u}{a:Type u}{x:a}{l k:List a}:x::l++k=x::(l++k):=rfl
open Go.ChangeShapes Go.WideShapes Go.RowKit
theorem vF {H:Type}{enc:TypeId×Value→H}{P:Program}(hl:laidOutB P=true){W W':World}(hb:Below W.heap.size W W'){sp:Nat→Bool}:
 ∀(ts:List TypeId) (vs:List Value) (ds:List (DataW H)) (ps:List MemPlace),(∀t∈ts,P.readableRec t=true∧t<P.types.size)→(∀x∈ps,x.block<W.heap.size∧sp x.block=true)→
  DataW.TrodAll enc P W 0 (fun _=>true) true ts vs ds ps→DataW.TrodAll enc P W' 0 sp true ts vs ds ps
 | [],vs,ds,ps,_,_,h=>by
   obtain⟨rfl,rfl,rfl⟩:=trodAll_nil h;exact trodAll_mk0
 |t::ts,vs,ds,ps,hr,hp,h=>by
  obtain⟨v,vs1,d,ds1,a,b,rfl,rfl,rfl,h1,h2⟩:=trodAll_cons h;refine⟨a,b,?_,vF hl hb ts vs1 ds1 b (fun t ht=>hr t (List.mem_cons_of_mem _ ht)) (fun x hx=>hp x (List.mem_append_right _ hx)) h2,rfl⟩;exact WideElems.Trod_stays hl (hr t (List.mem_cons_self ..)).1 (hr t (List.mem_cons_self ..)).2 h1 (fun x hx=>hb.same (hp x (List.mem_append_left _ hx)).1) (fun x hx=>(hp x (List.mem_append_left _ hx)).2)
theorem Pj {H:Type}{enc:TypeId×Value→H}{P:Program}{f:Func}{s:ChangeSpec}{apart fresh handsOn again:Bool}{W W':World}{args:Array Value}{ds:List (DataW H)}{before:List MemPlace}{tb:TypeId}
 (hW:DataW.Whole enc P f.params.toList s.vars apart W args.toList ds [] before) (hvars:s.vars=[]) (hfn:s.fn H (ds++[])={results:=[.lit (.bool true)],args:=ds,vars:=[]})
 (hrt:f.resultTypes= #[tb]) (htb:P.underlying tb=some .bool) (hl:laidOutB P=true) (hr:∀t∈f.params.toList,P.readableRec t=true∧t<P.types.size) (hb:Below W.heap.size W W'):
 s.post enc P f apart fresh handsOn again W args (.bool true) W':=by
 have hlt:=fun p hp=>hW.lt p hp;obtain⟨p,q,hA,hV,hps,hz,hn⟩:=hW;have hW0:DataW.Whole enc P f.params.toList s.vars apart W args.toList ds [] before:=⟨p,q,hA,hV,hps,hz,hn⟩;rw[hvars]at hV;obtain⟨_,rfl⟩:=trodVars_none hV;rw[List.append_nil]at hps;subst hps;have hold:∀x∈before,x.block<W.heap.size∧(fun b=>decide (b<W.heap.size)) x.block=true:=fun x hx=>by have:=hlt x hx;exact⟨this,by simpa using this⟩
 have hres:∀(b:Nat) (sp:Nat→Bool) (hd:Bool),DataW.TrodAll enc P W' b sp hd f.resultTypes.toList ((Value.bool true).resultList f.resultTypes.size) (s.fn H (ds++[])).results []:=by
  intro b sp hd;rw[hrt,hfn];exact trodAll_mk1 (shut_bool htb true)
 have hargs:∀sp:Nat→Bool,(∀x∈before,sp x.block=true)→DataW.TrodAll enc P W' 0 sp true f.params.toList args.toList (s.fn H (ds++[])).args before:=by
  intro sp hsp;rw[hfn];exact vF hl hb _ _ _ _ hr (fun x hx=>⟨(hold x hx).1,hsp x hx⟩) hA
 have hvs:∀sp:Nat→Bool,DataW.TrodVars enc P W' sp s.vars (s.fn H (ds++[])).vars []:=by
  intro sp;rw[hfn,hvars];rfl
 refine⟨ds,[],before,[],before,[],hW0,hres _ _ _,hargs _ fun x hx=>(hold x hx).2,hvs _,World.keptBut_mono (fun x hx=>⟨hx,by first|exact Or.inr hx|(right;simpa using hx)⟩) (hb.frame (·∈before)),fun _=>?_⟩;refine⟨ok_one hrt rfl (okWide_bool_mk htb true),_,_,([]++before)++[],⟨[]++before,[],trodAll_append (hargs _ (fun _ _=>rfl)) (hres _ _ _),hvs _,rfl,?_,?_⟩,?_⟩
 ·intro b off hp;have hp:MemPlace.cell b off∈before:=by simpa using hp
  rw[hb.frozen (p:=⟨b,off,none⟩) (hold _ hp).1];exact hz b off hp
 ·intro ha;simpa using hn ha
 ·intro x hx _;simpa using hx
theorem U5 {P:Program}{l:List TypeId}(h:(l.all fun t=>P.readableRec t&&decide (t<P.types.size))=true):∀t∈l,P.readableRec t=true∧t<P.types.size:=by
 intro t ht;have:=List.all_eq_true.1 h t ht;simpa using this
open Go.ChangeAt Go.Deep
def aL {α:Type}(enc:α→List Value)(sz:Nat)(w:World)(v:Value)(l:List α):Prop:=
 ∃ao cap,v=.slice ao l.length cap∧l.length≤cap∧cap≤maxLen∧
  (0<l.length→∃b off,ao=some ⟨b,off,none⟩∧b<w.heap.size∧∀i s j u,l[i]? =some s→(enc s)[j]? =some u→w.cell? ⟨b,off+(i*sz+j),none⟩=some u)
section
variable {α : Type} {enc : α → List Value} {sz : Nat} {w w' : World} {v : Value} {l : List α}
theorem aL.below (h:aL enc sz w v l)(hb:Below w.heap.size w w'):aL enc sz w' v l:=by
 obtain⟨ao,cap,h1,h2,h3,h4⟩:=h;refine⟨ao,cap,h1,h2,h3,fun hn=>?_⟩;obtain⟨b,off,e,hlt,hc⟩:=h4 hn;refine⟨b,off,e,Nat.lt_of_lt_of_le hlt hb.size,fun i s j u hi hj=>?_⟩;rw[hb.cell (p:=⟨b,_,none⟩) hlt];exact hc i s j u hi hj
theorem aL.nil (w:World):aL enc sz w (.slice none 0 0) ([]:List α):=⟨none,0,rfl,qaf _,Nat.zero_le _,fun h=>absurd h (by simp)⟩
theorem aL.cut {ao:Option Addr}{m cap n:Nat}(h:aL enc sz w (.slice ao m cap) l)(hn:n≤l.length):aL enc sz w (.slice ao n cap) (l.take n):=by
 obtain⟨I5,cap',e,h2,h3,h4⟩:=h;cases e;have hl:(l.take n).length=n:=by rw[List.length_take];omega
 refine⟨ao,cap,by rw[hl],by omega,h3,fun hp=>?_⟩;obtain⟨b,off,e,hlt,hc⟩:=h4 (by omega);refine⟨b,off,e,hlt,fun i s j u hi hj=>hc i s j u ?_ hj⟩;rw[List.getElem?_take]at hi;split at hi
 ·exact hi
 ·cases hi
theorem aL.iB {base:Nat}{e:TypeId}{n:Nat}{xs:List Value}(h:w.ownsRow base e sz v n xs)(hlen:∀s,(enc s).length=sz)(hx:xs=l.flatMap enc)(hn:n=l.length):aL enc sz w v l:=by
 subst hx;subst hn;rcases h.2 with⟨rfl,h0⟩|⟨g,cap,cur,rfl,_,hg,hc1,hc2,_,_⟩
 ·have:l=[]:=by
   rcases l with _|⟨s,l⟩
   ·rfl
   ·simp at h0
  subst this;exact aL.nil w
 ·refine⟨_,_,rfl,hc1,hc2,fun _=>⟨g,0,rfl,?_,fun i s j u hi hj=>?_⟩⟩
  ·rcases Nat.lt_or_ge g w.heap.size with hlt|hge
   ·exact hlt
   ·rw[Array.getElem?_eq_none hge]at hg;cases hg
  ·have hj':j<sz:=by rw[←hlen s];exact(List.getElem?_eq_some_iff.1 hj).1
   have key:∀(l:List α) (i:Nat),l[i]? =some s→(l.flatMap enc)[i*sz+j]? =some u:=by
    intro l
    induction l with
    |nil=>intro i hi;simp at hi
    |cons a l ih=>
     intro i hi;rw[List.flatMap_cons];rcases i with _|i
     ·simp at hi;subst hi;rw[List.getElem?_append_left (by rw[hlen];omega)];simpa using hj
     ·rw[List.getElem?_append_right (by rw[hlen,Nat.add_mul];omega),hlen];have:=ih i (by simpa using hi);rw[←this];congr 1;rw[Nat.add_mul];omega
   have:=h.cells (g:=g) rfl (i*sz+j) u (key l i hi);rw[Go.WideShapes.add_plain]at this;simpa using this
end
section
end
theorem qQ {w:World}{n:Nat}{e:TypeId}{vs:List Value}(hn:n=w.heap.size):∀j u,vs[j]? =some u→(w.alloc (.cells vs.toArray e)).cell? ((⟨n,0,none⟩:Addr).add j)=some u:=by
 subst hn;intro j u hj;rw[Go.WideShapes.add_plain,cell_of_row _ _ _ vs.toArray e (0,0) (heap_alloc_new w _)];simpa using hj
open Go.Lib
abbrev Jb :Type:=Int×Int×Int×Int×Int×Int×Int×Int×Int×Int
instance : DecidableEq Jb := (@instDecidableEqProd _ _ (inferInstanceAs (DecidableEq Int)) (@instDecidableEqProd _ _ (inferInstanceAs (DecidableEq Int)) (@instDecidableEqProd _ _ (inferInstanceAs (DecidableEq Int)) (@instDecidableEqProd _ _ (inferInstanceAs (DecidableEq Int)) (@instDecidableEqProd _ _ (inferInstanceAs (DecidableEq Int)) (@instDecidableEqProd _ _ (inferInstanceAs (DecidableEq Int)) (@instDecidableEqProd _ _ (inferInstanceAs (DecidableEq Int)) (@instDecidableEqProd _ _ (inferInstanceAs (DecidableEq Int)) (@instDecidableEqProd _ _ (inferInstanceAs (DecidableEq Int)) (inferInstanceAs (DecidableEq Int)))))))))))
instance : Inhabited Jb := ⟨(0, 0, 0, 0, 0, 0, 0, 0, 0, 0)⟩
def Jb.id (j:Jb):Int:=j.1
def Jb.prio (j:Jb):Int:=j.2.2.2.2.1
def ag (j:Jb):List Value:=[.int .i64 j.1,.int .i64 j.2.1,.int .i64 j.2.2.1,.int .i64 j.2.2.2.1,.int .i64 j.2.2.2.2.1,.int .i64 j.2.2.2.2.2.1,.int .i64 j.2.2.2.2.2.2.1,.int .i64 j.2.2.2.2.2.2.2.1,.int .i64 j.2.2.2.2.2.2.2.2.1,.int .u64 j.2.2.2.2.2.2.2.2.2]
theorem aA (j:Jb):(ag j).length=10:=rfl
theorem dO (j:Jb):∀v∈ag j,v.oneCell'=true:=by
 intro v hv;simp[ag]at hv;rcases hv with rfl|rfl|rfl|rfl|rfl|rfl|rfl|rfl|rfl|rfl<;>rfl
def bA (a b:Jb):Bool:=decide (b.prio<a.prio)||(decide (a.prio=b.prio)&&decide (a.id<b.id))
def AU (a b:Jb):Int:=if bA a b then-1 else if bA b a then 1 else 0
theorem I6 {a b:Jb}(h:bA a b=true):bA b a=false:=by
 unfold bA at*;simp only[Bool.or_eq_true,Bool.and_eq_true,decide_eq_true_eq]at h;simp only[Bool.or_eq_false_iff,Bool.and_eq_false_iff,decide_eq_false_iff_not];omega
theorem I7 (a b:Jb):decide (AU a b<0)=bA a b:=by
 unfold AU;cases h:bA a b with
 |true=>rfl
 |false=>cases bA b a<;>rfl
section
set_option maxRecDepth 100000
theorem Gy (x y:Jb)(w:World):(Op.equalIn 10000 55 (.agg (ag x).toArray) (.agg (ag y).toArray)).run prog w=.ok (decide (x=y)) w:=by
 have u2:=underlying2;have a2:=isAgg2;have z2:=sizeOf2;have u3:=underlying3;have a3:=isAgg3;have z3:=sizeOf3;have u4:=underlying53;have a4:=isAgg53;have z4:=sizeOf53;have hS:prog.underlying 55=some (.struct (prog.fieldsOf 55)):=by kernel_rfl
 have hp:prog.stoodInHeld 55=false:=by kernel_rfl
 rw[show(10000:Nat)=9999+1 from rfl,run_equalIn_agg w 9999 55 _ _ hS hp];simp only[Program.fieldsOf,underlying55];obtain⟨x1,x2,x3,x4,x5,x6,x7,x8,x9,x0⟩:=x;obtain⟨y1,y2,y3,y4,y5,y6,y7,y8,y9,y0⟩:=y;simp only[ag];go_simp;by_cases h1:x1=y1
 ·by_cases h2:x2=y2
  ·by_cases h3:x3=y3
   ·by_cases h4:x4=y4
    ·by_cases h5:x5=y5
     ·by_cases h6:x6=y6
      ·by_cases h7:x7=y7
       ·by_cases h8:x8=y8
        ·by_cases h9:x9=y9
         ·by_cases h0:x0=y0<;>simp[h1,h2,h3,h4,h5,h6,h7,h8,h9,h0]
         ·simp[h1,h2,h3,h4,h5,h6,h7,h8,h9]
        ·simp[h1,h2,h3,h4,h5,h6,h7,h8]
       ·simp[h1,h2,h3,h4,h5,h6,h7]
      ·simp[h1,h2,h3,h4,h5,h6]
     ·simp[h1,h2,h3,h4,h5]
    ·simp[h1,h2,h3,h4]
   ·simp[h1,h2,h3]
  ·simp[h1,h2]
 ·simp[h1]
theorem RA (x y:Jb)(w:World):(binOp .neq 55 (.agg (ag x).toArray) (.agg (ag y).toArray)).run prog w=.ok (.bool (!decide (x=y))) w:=by
 rw[run_neq_struct,Gy];rfl
end
def Jb.wid (j:Jb):Int:=j.2.2.1
def Jb.lim (j:Jb):Int:=j.2.2.2.1
def Jb.st (j:Jb):Int:=j.2.2.2.2.2.1
def Jb.kM (j:Jb):Int:=j.2.2.2.2.2.2.1
def Jb.fin (j:Jb):Int:=j.2.2.2.2.2.2.2.1
def Jb.aW (j:Jb):Int:=j.2.2.2.2.2.2.2.2.1
def Jb.bY (j:Jb):Int:=j.2.2.2.2.2.2.2.2.2
def Jb.setSt (j:Jb)(s:Int):Jb:=(j.1,j.2.1,j.2.2.1,j.2.2.2.1,j.2.2.2.2.1,s,j.2.2.2.2.2.2.1,j.2.2.2.2.2.2.2.1,j.2.2.2.2.2.2.2.2.1,j.2.2.2.2.2.2.2.2.2)
def Jb.aR (j:Jb)(t:Int):Jb:=(j.1,j.2.1,j.2.2.1,j.2.2.2.1,j.2.2.2.2.1,j.2.2.2.2.2.1,j.2.2.2.2.2.2.1,j.2.2.2.2.2.2.2.1,t,j.2.2.2.2.2.2.2.2.2)
def Jb.U6 (j:Jb)(t:Int):Jb:=(j.1,j.2.1,j.2.2.1,j.2.2.2.1,j.2.2.2.2.1,j.2.2.2.2.2.1,j.2.2.2.2.2.2.1,t,j.2.2.2.2.2.2.2.2.1,j.2.2.2.2.2.2.2.2.2)
structure Md where
 now:Int
 dr:List Bool
 L:List Jb
 cl:Bool
def dw (s n:Nat):Bool:=decide (s/2^n %2=1)
def aN (k:Nat)(j:Jb):Bool:=decide (j.st=3)&&dw j.bY.toNat k
def holderL (L:List Jb)(k:Nat):Int:=match L.findIdx? (aN k)with|some i=>(i:Int)|none=> -1
def aK (M:Md)(n:Int):Int:=
 if n<0∨(M.dr.length:Int)≤n then 0
 else if 0≤holderL M.L n.toNat then(if M.dr.getD n.toNat false then 3 else 2)else if M.dr.getD n.toNat false then 4 else 1
def ay (j:Jb):Bool:=decide (j.st=1)&&decide (0≤j.aW)
def bW (M:Md)(t:Int)(k:Nat):Bool:=!(M.dr.getD k false)&&(decide (holderL M.L k<0)||decide ((M.L.getD (holderL M.L k).toNat default).fin≤t))
def jU (t but:Int)(j:Jb):Bool:=ay j&&decide (j.id≠but)&&decide (j.aW≤t)&&decide (t<j.aW+j.lim)
def aU (M:Md)(t:Int)(k:Nat):Int:=(((List.range k).countP (bW M t):Nat):Int)
def bM (L:List Jb)(t but:Int):Int:=((L.filter (jU t but)).map Jb.wid).sum
def aF (M:Md)(t but:Int):Int:=aU M t M.dr.length-bM M.L t but
def fQ (RB t last:Int):Int:=if last<t∧(RB<0∨t<RB)then t else RB
def qR (last:Int)(b:Int)(j:Jb):Int:=
 let b1:=if j.st=3 then fQ b j.fin last else b
 if ay j then fQ (fQ b1 j.aW last) (j.aW+j.lim) last else b1
def jB (L:List Jb)(last:Int):Int:=L.foldl (qR last) (-1)
def timesGo (L:List Jb):Nat→Int→List Int
 |0,_=>[]
 |n+1,last=>if jB L last<0 then[]else jB L last::timesGo L n (jB L last)
def jq (M:Md):List Int:=M.now::timesGo M.L (2*M.L.length) M.now
def stepOn (M:Md)(acc:List (Int×Int))(t:Int):List (Int×Int):=
 match acc.getLast? with
 |some s=>if s.2=aF M t 0 then acc else acc++[(t,aF M t 0)]
 |none=>acc++[(t,aF M t 0)]
def kE (M:Md):List (Int×Int):=(jq M).foldl (stepOn M) []
def sQ (M:Md)(at' long width but:Int):Bool:=
 decide (width≤aF M at' but)&&(jq M).all fun t=>!(decide (at'<t)&&decide (t<at'+long)&&decide (aF M t but<width))
def getM (M:Md)(id:Int):Jb×Bool:=if id<1∨(M.L.length:Int)<id then(default,false)else(M.L.getD (id-1).toNat default,true)
def eY (M:Md)(id at':Int):Bool:=
 let j:=(getM M id).1
 if M.cl=true∨(getM M id).2=false∨j.st≠1∨at'<M.now∨1099511627776<at'∨(0≤j.aW∧j.aW≤at')then false
 else sQ M at' j.lim j.wid j.id
def fB (j x:Jb):Jb:=if ay x&&(decide (j.id=0)||bA j x)then x.aR (-1)else x
def eH (M:Md)(j:Jb):Md:={M with L:=M.L.map (fB j)}
def lowGo (M:Md)(wid:Int):Nat→Nat×Int
 |0=>(0,0)
 |k+1=>if(lowGo M wid k).2<wid∧aK M k=1 then((lowGo M wid k).1+2^k,(lowGo M wid k).2+1)else lowGo M wid k
def jF (M:Md)(wid:Int):Nat:=(lowGo M wid M.dr.length).1
def gG (M:Md)(j:Jb):Jb:=(j.1,j.2.1,j.2.2.1,j.2.2.2.1,j.2.2.2.2.1,3,M.now,M.now+j.lim,-1,(jF M j.wid:Int))
def bG (M:Md)(i:Nat):Md:={M with L:=M.L.set i (gG M (M.L.getD i default))}
def cZ (M:Md)(id at':Int):Bool×Md:=
 if eY M id at' then
  if at'=M.now then(true,bG M (id-1).toNat)
  else(true,{M with L:=M.L.set (id-1).toNat ((M.L.getD (id-1).toNat default).aR at')})
 else(false,M)
abbrev Rl :Type:=Int×Int×Int×Int×Int×Int×Int×Int×Int
def dB (e:Int):Rl:=(e,0,0,0,0,0,0,0,0)
def gH (j:Jb):Rl:=(0,j.id,j.st,j.kM,j.fin,j.aW,j.wid,j.prio,0)
def nE (M:Md):Nat:=M.L.countP fun j=>decide (j.st<4)
structure Rw where
 kind:Int
 id:Int
 usr:Int
 wid:Int
 lim:Int
 prio:Int
 held:Bool
 node:Int
 by':Int
def dS (M:Md)(r:Rw):Jb:=((M.L.length:Int)+1,r.usr,r.wid,r.lim,r.prio,if r.held then 2 else 1,-1,-1,-1,0)
def iV (M:Md)(r:Rw):Int:=
 if r.usr<0∨255<r.usr∨r.prio<0∨1000<r.prio then 1
 else if r.wid<1∨(M.dr.length:Int)<r.wid then 9
 else if r.lim<1∨1048576<r.lim then 10
 else if 63<nE M∨1023<M.L.length then 6 else 0
def iW (M:Md)(r:Rw):Rl×Md:=
 if iV M r≠0 then(dB (iV M r),M)
 else if r.held then(gH (dS M r),{M with L:=M.L++[dS M r]})
 else(gH (dS M r),eH {M with L:=M.L++[dS M r]} (dS M r))
def jA (M:Md)(kind:Int)(j:Jb):Jb:=((if j.st=3 then j.U6 M.now else j).aR (-1)).setSt (if kind=5 then 4 else 5)
def kY (M:Md)(r:Rw):Rl×Md:=
 let j:=(getM M r.id).1
 if(getM M r.id).2=false then(dB 7,M)
 else if 3<j.st∨(r.kind=5∧j.st≠3)then(dB 8,M)
 else(gH (jA M r.kind j),{M with L:=M.L.set (r.id-1).toNat (jA M r.kind j)})
def gI (kind:Int)(j:Jb):Jb:=if kind=3 then(j.setSt 2).aR (-1)else if kind=4 then j.setSt 1 else j
def fC (M:Md)(r:Rw):Rl×Md:=
 let j:=(getM M r.id).1
 if(getM M r.id).2=false then(dB 7,M)
 else if(r.kind=3∧j.st≠1)∨(r.kind=4∧j.st≠2)then(dB 8,M)
 else if r.kind=4 then(gH (gI r.kind j),eH {M with L:=M.L.set (r.id-1).toNat (gI r.kind j)} (gI r.kind j))
 else(gH (gI r.kind j),{M with L:=M.L.set (r.id-1).toNat (gI r.kind j)})
def mq :Jb:=default
def dK (M:Md)(n:Nat)(b:Bool):Md:=
 if b then{eH M mq with dr:=M.dr.set n true}else{M with dr:=M.dr.set n false}
def gU (M:Md)(r:Rw):Rl×Md:=
 if r.node<0∨(M.dr.length:Int)≤r.node then(dB 11,M)
 else if M.dr.getD r.node.toNat false=decide (r.kind=7)then(dB 8,M)
 else((0,r.node,aK (dK M r.node.toNat (decide (r.kind=7))) r.node,0,0,0,0,0,0),dK M r.node.toNat (decide (r.kind=7)))
def qU (now:Int)(b:Int)(j:Jb):Int:=
 let b1:=if j.st=3 then fQ b j.fin now else b
 if ay j then fQ b1 j.aW now else b1
def bu (M:Md):Int:=M.L.foldl (qU M.now) (-1)
def aV (now:Int)(j:Jb):Jb:=if j.st=3∧j.fin=now then j.setSt 6 else j
def eF (L:List Jb)(now:Int):Nat→Int
 |0=> -1
 |i+1=>if ay (L.getD i default)=true∧(L.getD i default).aW=now∧(eF L now i<0∨bA (L.getD i default) (L.getD (eF L now i).toNat default)=true)then(i:Int)else eF L now i
def firstM (M:Md):Int:=eF M.L M.now M.L.length
def startGo :Nat→Md→Md
 |0,M=>M
 |n+1,M=>if 0≤firstM M then startGo n (bG M (firstM M).toNat)else startGo n M
def dA (M:Md):Md:=startGo M.L.length {M with L:=M.L.map (aV M.now)}
def dL (to:Int):Nat→Md→Md
 |0,M=>M
 |n+1,M=>if bu M<0∨to<bu M then M else dL to n (dA {M with now:=bu M})
def nG (M:Md)(to:Int):Md:={dL to (2*M.L.length+1) M with now:=to}
def lF (M:Md)(by':Int):Rl×Md:=
 if by'<1∨1099511627776-M.now<by' then(dB 10,M)
 else((0,0,0,M.now+by',0,0,aF (nG M (M.now+by')) (M.now+by') 0,0,0),nG M (M.now+by'))
def jG (M:Md)(a:Int):Nat:=M.L.countP fun j=>decide (j.st=a)
def iM (M:Md)(a b:Int):Nat:=(List.range M.dr.length).countP fun k:Nat=>decide (aK M k=a)||decide (aK M k=b)
def iy (M:Md)(r:Rw):Rl×Md:=
 if M.cl then(dB 12,M)
 else if r.kind=1 then iW M r
 else if r.kind=2∨r.kind=5 then kY M r
 else if r.kind=3∨r.kind=4∨r.kind=6 then fC M r
 else if r.kind=7∨r.kind=8 then gU M r
 else if r.kind=9 then lF M r.by'
 else if r.kind=10 then((0,0,0,0,0,0,iM M 1 1,iM M 2 3,iM M 4 4),M)
 else if r.kind=11 then((0,0,0,0,0,0,jG M 1,jG M 2,jG M 3),M)
 else if r.kind=12 then((0,0,0,M.now,0,0,aF M M.now 0,0,0),M)
 else if r.kind=13 then(dB 0,{M with cl:=true})
 else(dB 4,M)
open Go.Sort
def Gr (w w':World):Prop:=∃q os',w'=grow (w.drewN q) os'
theorem Gr.below {w w':World}(h:Gr w w'):Below w.heap.size w w':=by
 obtain⟨q,os,rfl⟩:=h;exact⟨rfl,rfl,rfl,by simp,fun k hk=>by rw[heap_grow_old _ os (by simpa using hk)];rfl⟩
theorem Gr.refl (w:World):Gr w w:=⟨0,#[],by rw[grow_empty];rfl⟩
theorem bJ {W:World}{p k:Nat}{cs:List Value}{T:TypeId}(h:W.heap[p]? =some (.cells cs.toArray T (0,0)))(hk:cs.length=k):
 Sem.run prog (loadCellsFrom ⟨p,0,none⟩ 0 k #[]) W=.ok cs.toArray W:=by
 refine run_loadCellsFrom_list prog W _ cs k hk fun j v hj=>?_;rw[Go.WideShapes.add_plain];simp[World.cell?,h,hj]
theorem Ox :∀w,Sem.run prog (isAgg 55) w=.ok true w:=isAgg55
theorem bC :∀w,Sem.run prog (Go.sizeOf 55) w=.ok 10 w:=sizeOf55
def RD (w:World)(size:Nat)(v:Value)(n:Nat)(xs:List Value):Prop:=
 ∃a,v=.slice (some a) n n∧xs.length=n*size∧∀j u,xs[j]? =some u→w.cell? (a.add j)=some u
def Buf (w:World)(base:Nat)(e:TypeId)(size:Nat)(v:Value)(n:Nat)(xs:List Value):Prop:=
 w.ownsRow base e size v n xs∨RD w size v n xs
theorem oZ {w:World}{base base':Nat}{e:TypeId}{size:Nat}{v:Value}{n:Nat}{xs:List Value}(h:w.ownsRow base e size v n xs)(hb:base'≤base):w.ownsRow base' e size v n xs:=by
 obtain⟨h1,h2⟩:=h;refine⟨h1,?_⟩;rcases h2 with h2|⟨g,cap,cur,hv,hg,r⟩
 ·exact Or.inl h2
 ·exact Or.inr ⟨g,cap,cur,hv,Nat.le_trans hb hg,r⟩
theorem bH {w w':World}{base:Nat}{e:TypeId}{size:Nat}{v:Value}{n:Nat}{xs:List Value}(h:w.ownsRow base e size v n xs)(hk:∀k,v.ownBlock=some k→w'.heap[k]? =w.heap[k]?):w'.ownsRow base e size v n xs:=by
 obtain⟨h1,h2⟩:=h;refine⟨h1,?_⟩;rcases h2 with h2|⟨g,cap,cur,rfl,hg,hh,r⟩
 ·exact Or.inl h2
 ·exact Or.inr ⟨g,cap,cur,rfl,hg,by rw[hk g rfl];exact hh,r⟩
theorem mW {P:Program}(w:World){ops:Array Oper}{rest:List Oper}{o:Oper}{a:Act}{Q:Exit→Act→World→Prop}
 (hgd:o.guard=none) (s x:Operand) (t:TypeId)
 (ho:o.op=.call {callee:=.builtin .append,args:=#[s,x],argTypes:=#[t,t]})
 (base:Nat) (e:TypeId) (i:TypeInfo) (z:Value) (size bytes:Nat) (ht:P.underlying t=some (.slice e)) (hi:P.info? e=some i) (hz:i.zero=some z)
 (hsize:i.size=size) (hby:i.bytes=bytes) (hzs:z.cells.size=size) (hsz:0<size)
 (v:Value) (n:Nat) (xs:List Value) (hs:a.eval s=v) (hown:Buf w base e size v n xs)
 (ad:Addr) (m c:Nat) (news:List Value) (hx:a.eval x=.slice (some ad) m c) (hl:news.length=m*size) (hnews:∀j u,news[j]? =some u→w.cell? (ad.add j)=some u) (h1:∀u∈news,u.oneCell'=true)
 (hm:0<m) (h63:n+m≤maxLen) (hbytes:(n+m)*bytes≤140737488355328) (hbase:base≤w.heap.size)
 (h:∀v' w',w'.ownsRow base e size v' (n+m) (xs++news)→Below base w w'→wpList P ops Q rest (a.put o.dst v') w'):wpList P ops Q (o::rest) a w:=by
 rcases hown with hown|⟨b,rfl,hlo,hold⟩
 ·refine wpList_append_own w hgd s x t ho base e i z size bytes ht hi hz hsize hby hzs hsz v n xs hs hown ad m c news hx hl hnews h1 h63 hbytes hbase fun v' w' h2 h3 _=>h v' w' h2 ?_;exact(Below.refl base w).grown h3 hbase fun k hk=>(hown.lt k hk).1
 ·refine wpList_append_grows w hgd s x t ho e i z size bytes ht hi hz hsize hby hzs hsz (some b) n n xs hs (by simp) hlo (fun b' hb'=>by cases hb';exact hold) ad m c news hx hl hnews h1 (by omega) h63 hbytes fun v' w' h2 h3=>h v' w' (oZ h2 hbase) ?_;exact(Below.refl base w).grown h3 hbase fun k hk=>by cases hk
theorem ownsRow_below {w w':World}{base B:Nat}{e:TypeId}{size:Nat}{v:Value}{n:Nat}{xs:List Value}(h:w.ownsRow base e size v n xs)(hb:Below B w w')(hv:∀k,v.ownBlock=some k→k<B):w'.ownsRow base e size v n xs:=
 bH h fun k hk=>hb.block k (hv k hk)
theorem xH {P:Program}(w:World)(base:Nat)(t tx ty e:TypeId)(i:TypeInfo)(z:Value)(size bytes:Nat)(ht:P.underlying t=some (.slice e))(hi:P.info? e=some i)(hz:i.zero=some z)
 (hsize:i.size=size) (hby:i.bytes=bytes) (hzs:z.cells.size=size)
 (v:Value) (n:Nat) (xs:List Value) (hown:w.ownsRow base e size v n xs) (x:Value) (m:Nat) (news:List Value) (hs:Src P size tx x m news w)
 (h63:n+m≤maxLen) (hbytes:(n+m)*bytes≤140737488355328) (hbase:base≤w.heap.size):
 ∃v' w',(Builtin.append_ #[t,tx] ty #[v,x]).run P w=.ok v' w'∧w'.ownsRow base e size v' (n+m) (xs++news)∧w.grownBy w' v.ownBlock:=by
 subst hsize;subst hby;have hsmall:n+m≤9223372036854775807:=by simp only[maxLen]at h63;omega
 have hlen:(xs++news).length=(n+m)*i.size:=by rw[List.length_append,hown.1,hs.newsLen,Nat.add_mul]
 have grown:∀(old:Nat),old<n+m→∀(row:Option Nat),
  (w.drew.alloc (.cells ((xs++news).toArray++Builtin.zeroCells z.cells (grownCap w (n+m) old e-(n+m))) e)).ownsRow base e i.size
   (.slice (some ⟨w.heap.size,0,none⟩) (n+m) (grownCap w (n+m) old e)) (n+m) (xs++news)∧
  w.grownBy (w.drew.alloc (.cells ((xs++news).toArray++Builtin.zeroCells z.cells (grownCap w (n+m) old e-(n+m))) e)) row:=by
  intro old ho row;have hge:=grownCap_ge w (n+m) old e;have hcm:grownCap w (n+m) old e≤maxLen:=grownCap_le_maxLen w (n+m) old e h63;refine⟨⟨hlen,.inr ⟨w.heap.size,_,_,rfl,hbase,heap_alloc_new w.drew _,hge,hcm,?_,?_⟩⟩,⟨rfl,rfl,rfl,by simp,fun k hk _=>Go.heap_alloc_old w.drew _ hk⟩⟩
  ·simp only[Array.size_append,List.size_toArray,size_zeroCells,hzs,hlen,←Nat.add_mul];congr 1;omega
  ·simp only[Array.toList_append];rw[←hlen];exact List.take_left
 rcases hown.2 with⟨rfl,rfl⟩|⟨g,cap,cur,rfl,hbg,hg,hnc,hcm,hcs,htake⟩
 ·have hx:xs=[]:=List.eq_nil_of_length_eq_zero (by simpa using hown.1);subst hx;by_cases hm:m=0
  ·subst hm;have hn:news=[]:=List.eq_nil_of_length_eq_zero (by simpa using hs.newsLen);subst hn;refine⟨.slice none 0 0,w,?_,World.ownsRow_nil w base e i.size,⟨rfl,rfl,rfl,qaf _,fun _ _ _=>rfl⟩⟩;rcases hs.kind with⟨e',hk⟩|hk<;>simp[Builtin.append_,run_underlying ht,run_underlying hk,sizeOf,typeInfo,hi,hs.len,hs.cells]
  ·have hr:=run_append_grow_src (P:=P) w t tx ty e i z ht hi hz none 0 0 [] (by simp[Builtin.firstCells]) x m news hs (by omega) (by omega) (growslice_fits (by omega) hbytes);have hgr:=grown 0 (by omega) (Value.ownBlock (.slice none 0 0));exact⟨_,_,hr,hgr.1,hgr.2⟩
 ·by_cases hroom:n+m≤cap
  ·have hfit:n*i.size+news.length≤cur.size:=by rw[hs.newsLen,hcs,←Nat.add_mul];exact Nat.mul_le_mul_right _ hroom
   have hst:=run_storeCells_at P g (n*i.size) e news 0 cur w hg (by simpa using hfit) hs.one;simp only[Nat.add_zero]at hst;have hr:(Builtin.append_ #[t,tx] ty #[.slice (some ⟨g,0,none⟩) n cap,x]).run P w=
    .ok (.slice (some ⟨g,0,none⟩) (n+m) cap) (w.setRow g (cur.toList.take (n*i.size)++news++cur.toList.drop (n*i.size+news.length)).toArray):=by
    rcases hs.kind with⟨e',hk⟩|hk<;>simp[Builtin.append_,run_underlying ht,run_underlying hk,sizeOf,typeInfo,hi,hs.len,hroom,hs.cells,Addr.add_lit,hst]
   refine⟨_,_,hr,⟨hlen,.inr ⟨g,cap,_,rfl,hbg,setRow_heap w g cur _ e _ hg,hroom,hcm,?_,?_⟩⟩,⟨rfl,rfl,rfl,by simp,fun k hk hne=>setRow_other w g k _ (fun e=>hne (by simp[Value.ownBlock,e]))⟩⟩
   ·simp only[List.size_toArray,List.length_append,List.length_take,List.length_drop,Array.length_toList];omega
   ·rw[htake,←hlen];exact List.take_left
  ·have holds:∀j u,xs[j]? =some u→w.drew.cell? ((⟨g,0,none⟩:Addr).add j)=some u:=fun j u hu=>by simpa using hown.cells (g:=g) rfl j u hu
   have hr:=run_append_grow_src (P:=P) w t tx ty e i z ht hi hz (some ⟨g,0,none⟩) n cap xs (run_firstCells_some (P:=P) w.drew i.size n ⟨g,0,none⟩ n cap xs hown.1 holds) x m news hs (by omega) (by omega) (growslice_fits (by omega) hbytes);have hgr:=grown cap (by omega) (Value.ownBlock (.slice (some ⟨g,0,none⟩) n cap));exact⟨_,_,hr,hgr.1,hgr.2⟩
theorem xS {P:Program}(w:World){ops:Array Oper}{rest:List Oper}{o:Oper}{a:Act}{Q:Exit→Act→World→Prop}(hgd:o.guard=none)(s x:Operand)(t tx:TypeId)
 (ho:o.op=.call {callee:=.builtin .append,args:=#[s,x],argTypes:=#[t,tx]})
 (base:Nat) (e:TypeId) (i:TypeInfo) (z:Value) (size bytes:Nat) (ht:P.underlying t=some (.slice e)) (hi:P.info? e=some i) (hz:i.zero=some z)
 (hsize:i.size=size) (hby:i.bytes=bytes) (hzs:z.cells.size=size)
 (v:Value) (n:Nat) (xs:List Value) (hs:a.eval s=v) (hown:w.ownsRow base e size v n xs) (xv:Value) (m:Nat) (news:List Value) (hx:a.eval x=xv) (hsrc:Src P size tx xv m news w)
 (h63:n+m≤maxLen) (hbytes:(n+m)*bytes≤140737488355328) (hbase:base≤w.heap.size)
 (h:∀v' w',w'.ownsRow base e size v' (n+m) (xs++news)→w.grownBy w' v.ownBlock→wpList P ops Q rest (a.put o.dst v') w'):wpList P ops Q (o::rest) a w:=
 wpList_plain hgd fun K hK=>by
  obtain⟨v',w',hr,h2,h3⟩:=xH (P:=P) w base t tx o.type e i z size bytes ht hi hz hsize hby hzs v n xs hown xv m news hsrc h63 hbytes hbase;unfold Oper.wp execOp;simp only[ho,resolve,invoke,builtin,Sem.run_bind,Sem.run_pure,Result.andThen_ok,List.map_toArray,List.map_cons,List.map_nil,hs,hx,hr];exact hK _ _ (h v' w' h2 h3)
theorem LK {w:World}{base:Nat}{e:TypeId}{sz:Nat}{v:Value}{n:Nat}{xs:List Value}(h:w.ownsRow base e sz v n xs)(hv:v≠.slice none 0 0):
 ∃g cap,v=.slice (some ⟨g,0,none⟩) n cap∧base≤g∧g<w.heap.size∧n≤cap∧cap≤maxLen∧Holds id w g 0 xs.toArray:=by
 have hl:=h.1;rcases h.2 with⟨e0,_⟩|⟨g,cap,cur,rfl,hb,hg,hn,hm,hs,ht⟩
 ·exact absurd e0 hv
 ·have hlt:g<w.heap.size:=by
   rcases Nat.lt_or_ge g w.heap.size with h'|h'
   ·exact h'
   ·rw[Array.getElem?_eq_none h']at hg;cases hg
  refine⟨g,cap,rfl,hb,hlt,hn,hm,fun j hj=>?_⟩;have hj':j<n*sz:=by simpa[hl]using hj
  have Yn:j<xs.length:=by omega
  refine⟨?_,by simp[World.frozen?,hg]⟩;have e1:(cur.toList.take (n*sz))[j]? =xs[j]? :=by rw[ht]
  rw[List.getElem?_take,qaj hj',Array.getElem?_toList,List.getElem?_eq_getElem Yn]at e1;simp only[World.cell?,hg,Nat.zero_add];simp only[Option.isSome_none,Bool.false_eq_true,if_false];rw[e1];simp[getElem!_pos,Yn]
theorem I8 {w:World}{base:Nat}{e:TypeId}{sz g n cap q:Nat}{xs ys:List Value}(h:w.ownsRow base e sz (.slice (some ⟨g,0,none⟩) n cap) n xs)(hy:ys.length=xs.length):
 (putRow id (Sort.ahead w q) g 0 ys.toArray).ownsRow base e sz (.slice (some ⟨g,0,none⟩) n cap) n ys:=by
 have hl:=h.1;rcases h.2 with⟨e0,_⟩|⟨g',cap',cur,e0,hb,hg,hn,hm,hs,ht⟩
 ·cases e0
 ·injection e0 with e1 _ e3;injection e1 with e1;injection e1 with e1;subst e1;subst e3;have hcs:n*sz≤cur.size:=by rw[hs];exact Nat.mul_le_mul_right _ hn
  refine⟨by omega,.inr ⟨g,cap,putCells id 0 ys.toArray cur,rfl,hb,?_,hn,hm,by simpa[putCells]using hs,?_⟩⟩
  ·simp[putRow,mapBlock,Sort.ahead,Array.getElem?_modify,hg,onCells]
  ·apply List.ext_getElem?;intro j;rw[List.getElem?_take,Array.getElem?_toList];by_cases hj:j<n*sz
   ·have hjc:j<cur.size:=by omega
    simp only[qaj hj,putCells,Array.getElem?_mapIdx,Array.getElem?_eq_getElem hjc,Option.map_some];rw[qaj (by simp;omega),List.getElem?_eq_getElem (by omega)];simp[getElem!_pos,show j<ys.length by omega]
   ·rw[qai hj,List.getElem?_eq_none (by omega)]
theorem below_grow {B:Nat}{w0 w:World}(h:Below B w0 w)(hB:B≤w.heap.size)(os:Array Obj):Below B w0 (grow w os):=
 ⟨h.os,h.tape,h.output,Nat.le_trans h.size (by simp),fun k hk=>by rw[heap_grow_old w os (by omega)];exact h.block k hk⟩
theorem Pk {w:World}{base:Nat}{e:TypeId}{sz:Nat}{v:Value}{n:Nat}{xs:List Value}(h:w.ownsRow base e sz v n xs)(os:Array Obj):(grow w os).ownsRow base e sz v n xs:=
 bH h fun k hk=>heap_grow_old w os (h.lt k hk).2
theorem I9 {α:Type}[Inhabited α](enc:α→List Value)(k:Nat)(hk:∀x,(enc x).length=k)(d:Array α):flatK enc k d=(d.toList.flatMap enc).toArray:=by
 have hlen:∀l:List α,(l.flatMap enc).length=l.length*k:=by
  intro l
  induction l with
  |nil=>simp
  |cons a l ih=>rw[List.flatMap_cons,List.length_append,ih,hk,List.length_cons,Nat.add_mul];omega
 have key:∀(l:List α) (t:Nat),t<l.length*k→(l.flatMap enc)[t]! =(enc l[t/k]!)[t %k]! :=by
  intro l
  induction l with
  |nil=>intro t ht;simp at ht
  |cons a l ih=>
   intro t ht;rw[List.length_cons,Nat.add_mul]at ht;have k0:0<k:=by
    rcases Nat.eq_zero_or_pos k with h|h
    ·subst h;omega
    ·exact h
   rw[List.flatMap_cons];by_cases hlt:t<k
   ·rw[Nat.div_eq_of_lt hlt,Nat.mod_eq_of_lt hlt];simp only[List.getElem!_eq_getElem?_getD];rw[List.getElem?_append_left (by rw[hk];exact hlt)];simp
   ·obtain⟨u,rfl⟩:∃u,t=u+k:=⟨t-k,by omega⟩;rw[Nat.add_div_right _ k0,Nat.add_mod_right];have:=ih u (by omega);simp only[List.getElem!_eq_getElem?_getD]at this⊢;rw[List.getElem?_append_right (by rw[hk];omega),hk,Nat.add_sub_cancel,this];simp
 refine ext_get! (by rw[size_flatK];simp[hlen]) fun t ht=>?_;rw[size_flatK]at ht;rw[get_flatK _ _ _ _ ht];have:=key d.toList t (by simpa using ht);simp only[List.getElem!_eq_getElem?_getD,Array.getElem!_eq_getD,Array.getD_eq_getD_getElem?,List.getElem?_toArray,Array.getElem?_toList]at this⊢;exact this.symm
theorem yO {w:World}{base:Nat}{e:TypeId}{sz n g:Nat}{vs:List Value}(hg:g=w.heap.size)(hb:base≤w.heap.size)(hl:vs.length=n*sz)(hn:n≤maxLen):(w.alloc (.cells vs.toArray e)).ownsRow base e sz (.slice (some ⟨g,0,none⟩) n n) n vs:=by
 subst hg;exact⟨hl,.inr ⟨w.heap.size,n,vs.toArray,rfl,hb,heap_alloc_new w _,qaf _,hn,by simpa using hl,by simp[←hl]⟩⟩
theorem Ck {w:World}{base:Nat}{e:TypeId}{sz n g:Nat}{v:Value}{xs:List Value}(h:w.ownsRow base e sz v n xs)(hne:∀k,v.ownBlock=some k→k≠g)(j:Nat)(u:Value):(w.setCell ⟨g,j,none⟩ u).ownsRow base e sz v n xs:=
 bH h fun k hk=>Below.heap_setCell w ⟨g,j,none⟩ u k (hne k hk)
theorem iX {w:World}{base:Nat}{e:TypeId}{sz n:Nat}{v:Value}{xs:List Value}(h:w.ownsRow base e sz v n xs):∃ao cap,v=.slice ao n cap∧(0<n→∃g,ao=some ⟨g,0,none⟩):=by
 rcases h.2 with⟨rfl,rfl⟩|⟨g,cap,cur,rfl,_⟩
 ·exact⟨none,0,rfl,fun h=>by omega⟩
 ·exact⟨_,cap,rfl,fun _=>⟨g,rfl⟩⟩
theorem vG {w:World}{base:Nat}{e:TypeId}{sz n:Nat}{v:Value}{xs:List Value}(h:w.ownsRow base e sz v n xs):n≤9223372036854775807:=by
 rcases h.2 with⟨_,rfl⟩|⟨_,_,_,_,_,_,hn,hm,_⟩
 ·omega
 ·unfold maxLen at hm;omega
theorem below_drewN {B:Nat}{a w:World}(h:Below B a w)(n:Nat):Below B a (w.drewN n):=⟨h.os,h.tape,h.output,h.size,h.block⟩
theorem RF {w:World}{base:Nat}{e:TypeId}{sz g n cap c:Nat}{xs:List Value}(h:w.ownsRow base e sz (.slice (some ⟨g,0,none⟩) n cap) n xs)(hc:c≤n):
 w.ownsRow base e sz (.slice (some ⟨g,0,none⟩) c cap) c (xs.take (c*sz)):=by
 have hcs:c*sz≤n*sz:=Nat.mul_le_mul_right _ hc;rcases h.2 with⟨e0,_⟩|⟨g',cap',cur,e0,hb,hg,hn,hm,hs,ht⟩
 ·cases e0
 ·cases e0;refine⟨by rw[List.length_take,h.1];omega,.inr ⟨g,cap,cur,rfl,hb,hg,by omega,hm,hs,?_⟩⟩;rw[←ht,List.take_take,Nat.min_eq_left hcs]
namespace Put
theorem gN {w w':World}{base:Nat}{e:TypeId}{size:Nat}{v:Value}{n:Nat}{xs:List Value}(h:w.ownsRow base e size v n xs)(hb:Below w.heap.size w w'):w'.ownsRow base e size v n xs:=
 ownsRow_below h hb fun k hk=>(h.lt k hk).2
structure Off (p g : Nat) (w w' : World) : Prop where
 os:w'.os=w.os
 tape:w'.tape=w.tape
 output:w'.output=w.output
 size:w.heap.size≤w'.heap.size
 block:∀k,k<w.heap.size→k≠p→k≠g→w'.heap[k]? =w.heap[k]?
section
variable {p g g' : Nat} {w w' w'' : World}
theorem Off.refl (p g:Nat)(w:World):Off p g w w:=⟨rfl,rfl,rfl,qaf _,fun _ _ _ _=>rfl⟩
theorem Off.below {base:Nat}(h:Off p g w w')(hp:base≤p)(hg:base≤g)(hb:base≤w.heap.size):Below base w w':=⟨h.os,h.tape,h.output,h.size,fun k hk=>h.block k (by omega) (by omega) (by omega)⟩
theorem Off.own {base:Nat}{e:TypeId}{sz n:Nat}{v:Value}{xs:List Value}(h:Off p g w w')(ho:w.ownsRow base e sz v n xs)(hne:∀k,v.ownBlock=some k→k≠p∧k≠g):w'.ownsRow base e sz v n xs:=
 bH ho fun k hk=>h.block k (ho.lt k hk).2 (hne k hk).1 (hne k hk).2
theorem Off.setCell {b j:Nat}{v:Value}(h:Off p g w w')(hb:b=p∨b=g∨w.heap.size≤b):Off p g w (w'.setCell ⟨b,j,none⟩ v):=
 ⟨h.os,h.tape,h.output,by simpa using h.size,fun k hk h1 h2=>by
  rw[Below.heap_setCell w' ⟨b,j,none⟩ v k (by show k≠b;omega)];exact h.block k hk h1 h2⟩
end
theorem lt_of_heap {w:World}{p:Nat}{o:Obj}(h:w.heap[p]? =some o):p<w.heap.size:=by
 rcases Nat.lt_or_ge p w.heap.size with h'|h'
 ·exact h'
 ·rw[Array.getElem?_eq_none h']at h;cases h
theorem bX {w:World}{p q:Nat}{a b:Array Value}{s t:TypeId}{x y:Nat×Nat}(h:w.heap[p]? =some (.cells a s x))(h':w.heap[q]? =some (.cells b t y))(hne:s≠t):p≠q:=by
 intro e;subst e;rw[h]at h';injection h' with h';injection h' with _ h3;exact hne h3
theorem AV {α:Type}(l vs:List α)(o:Nat)(h:o+vs.length≤l.length)(j:Nat):(l.take o++vs++l.drop (o+vs.length))[j]? =if j<o then l[j]? else if j<o+vs.length then vs[j-o]? else l[j]? :=by
 have hl1:(l.take o).length=o:=by rw[List.length_take];omega
 rw[List.append_assoc];by_cases h1:j<o
 ·rw[qaj h1,List.getElem?_append_left (by omega),List.getElem?_take,qaj h1]
 ·rw[qai h1,List.getElem?_append_right (by omega),hl1];by_cases h2:j<o+vs.length
  ·rw[qaj h2,List.getElem?_append_left (by omega)]
  ·rw[qai h2,List.getElem?_append_right (by omega),List.getElem?_drop];congr 1;omega
section
variable {w : World} {base g n cap sz : Nat} {e : TypeId} {xs : List Value}
theorem tF (h:w.ownsRow base e sz (.slice (some ⟨g,0,none⟩) n cap) n xs)(o:Nat)(vs:List Value)(hfit:o+vs.length≤n*sz)(h1:∀u∈vs,u.oneCell'=true):
 ∃w',(∀P:Program,(storeCells ⟨g,o,none⟩ vs).run P w=.ok () w')∧w'.ownsRow base e sz (.slice (some ⟨g,0,none⟩) n cap) n (xs.take o++vs++xs.drop (o+vs.length))∧Off g g w w':=by
 have hl:=h.1;rcases h.2 with⟨e0,_⟩|⟨g',cap',cur,e0,hb,hg,hn,hm,hs,ht⟩
 ·cases e0
 ·cases e0;have hcs:n*sz≤cur.size:=by rw[hs];exact Nat.mul_le_mul_right _ hn
  refine⟨w.setRow g (cur.toList.take o++vs++cur.toList.drop (o+vs.length)).toArray,fun P=>?_,⟨?_,.inr ⟨g,cap,_,rfl,hb,setRow_heap w g cur _ e _ hg,hn,hm,?_,?_⟩⟩,⟨rfl,rfl,rfl,by simp,fun k hk _ hne=>setRow_other w g k _ hne⟩⟩
  ·have:=run_storeCells_at P g o e vs 0 cur w hg (by omega) h1;simpa using this
  ·simp only[List.length_append,List.length_take,List.length_drop];omega
  ·simp only[List.size_toArray,List.length_append,List.length_take,List.length_drop,Array.length_toList];omega
  ·rw[←ht];apply List.ext_getElem?;intro j;show(List.take (n*sz) (cur.toList.take o++vs++cur.toList.drop (o+vs.length)))[j]? =_;have hcl:cur.toList.length=cur.size:=Array.length_toList;rw[AV (cur.toList.take (n*sz)) vs o (by rw[List.length_take,hcl];omega),List.getElem?_take,AV cur.toList vs o (by rw[hcl];omega),List.getElem?_take];by_cases h2:j<n*sz
   ·rw[qaj h2,qaj h2]
   ·rw[qai h2,qai h2,qai (by omega),qai (by omega)]
end
end Put
theorem heap_put {w:World}{g i:Nat}{cs:Array Value}{t:TypeId}{fr:Nat×Nat}(h:w.heap[g]? =some (.cells cs t fr))(v:Value):(w.setCell ⟨g,i,none⟩ v).heap[g]? =some (.cells (cs.setIfInBounds i v) t fr):=by
 simp[World.setCell,Array.getElem?_modify,h]
theorem aJ {w:World}{g:Nat}{o o':Obj}(h:w.heap[g]? =some o):(w.alloc o').heap[g]? =some o:=by
 have hlt:g<w.heap.size:=by
  rcases Nat.lt_or_ge g w.heap.size with h1|h1
  ·exact h1
  ·rw[Array.getElem?_eq_none h1]at h;cases h
 exact(Go.heap_alloc_old w o' hlt).trans h
def Yo (d:TypeDesc):Bool:=match d with|.struct _|.array _ _=>true|_=>false
theorem aO {fn:Func}{K:Ending→World→Prop}{a:Act}{w:World}{p:Tmp}{ty:TypeId}{g:Nat}{t:TypeId}{cs:Array Value}{fr:Nat×Nat}{d:TypeDesc}(h:fn.results= #[.cell p ty])(hd0:a.defers=[])
 (hp:a.tmps.getD p undef=.pointer (some ⟨g,0,none⟩)) (hg:w.heap[g]? =some (.cells cs t fr))
 (hu:prog.underlying ty=some d) (hd:Yo d=true) (hi:(prog.info? ty).map (·.size)=some cs.size)
 (hK:K (.returned (.agg cs)) w):bodyPost prog fn K .ret a w:=bodyPost_ret (results_cell_row h a.tmps w g t cs fr d hp hg hu (by cases d<;>first|rfl|cases hd) hi) hd0 hK
theorem ai {w:World}{g:Nat}{o:Obj}(h:w.heap[g]? =some o):g<w.heap.size:=by
 rcases Nat.lt_or_ge g w.heap.size with h1|h1
 ·exact h1
 ·rw[Array.getElem?_eq_none h1]at h;cases h
theorem Ja (W:World)(a b:Array Value)(T:TypeId):(W.alloc (.cells a T)).setRow W.heap.size b=W.alloc (.cells b T):=by
 have h1:∀o,W.alloc o={W with heap:=W.heap.push o}:=fun o=>rfl;rw[h1,h1];unfold World.setRow;have h2:∀f:Obj→Obj,(W.heap.push (.cells a T)).modify W.heap.size f=W.heap.push (f (.cells a T)):=fun f=>by
  refine Array.ext (by simp) fun i h1 h2=>?_;rw[Array.getElem_modify];by_cases e:W.heap.size=i
  ·subst e;simp
  ·have:i<W.heap.size:=by simp at h2;omega
   simp[e,Array.getElem_push,this]
 simp only[h2]
theorem dW (W:World)(n:Nat)(cs zs:List Value)(T:TypeId)(hn:n=W.heap.size)(hl:cs.length=zs.length)(h1:∀v∈cs,v.oneCell'=true):
 Sem.run prog (storeCells ⟨n,0,none⟩ cs 0) (W.alloc (.cells zs.toArray T))=.ok () (W.alloc (.cells cs.toArray T)):=by
 subst hn;have hst:=run_storeCells_at prog W.heap.size 0 T cs 0 zs.toArray (W.alloc (.cells zs.toArray T)) (heap_alloc_new W _) (by simp[hl]) h1;simp only[Nat.add_zero]at hst;rw[hst];congr 1;have e:((zs.toArray.toList.take 0++cs++zs.toArray.toList.drop (0+cs.length)).toArray)=cs.toArray:=by simp[hl]
 rw[e];exact Ja W _ _ T
def rZ (b:Bool):List Value:=[.bool b]
structure MR (w : World) (p : Nat) (dv lv : Value) (M : Md) : Prop where
 cell:w.heap[p]? =some (.cells #[.int .i64 M.now,dv,lv,.bool M.cl] 94 (0,0))
 dr:aL rZ 1 w dv M.dr
 js:aL ag 10 w lv M.L
section
variable {w w' : World} {p : Nat} {dv lv : Value} {M : Md}
theorem MR.lt (h:MR w p dv lv M):p<w.heap.size:=ai h.cell
theorem MR.below (h:MR w p dv lv M)(hb:Below w.heap.size w w'):MR w' p dv lv M:=⟨(hb.block p h.lt).trans h.cell,h.dr.below hb,h.js.below hb⟩
theorem MR.c0 (h:MR w p dv lv M):w.cell? ⟨p,0,none⟩=some (.int .i64 M.now):=by simp[World.cell?,h.cell]
theorem MR.c1 (h:MR w p dv lv M):w.cell? ⟨p,1,none⟩=some dv:=by simp[World.cell?,h.cell]
theorem MR.c2 (h:MR w p dv lv M):w.cell? ⟨p,2,none⟩=some lv:=by simp[World.cell?,h.cell]
theorem MR.c3 (h:MR w p dv lv M):w.cell? ⟨p,3,none⟩=some (.bool M.cl):=by simp[World.cell?,h.cell]
structure MB (M : Md) : Prop where
 nn:M.dr.length≤64
 ll:M.L.length≤1024
 now:0≤M.now∧M.now≤1099511627776
 wid:∀j∈M.L,0≤j.wid∧j.wid≤64
 lim:∀j∈M.L,0≤j.lim∧j.lim≤1048576
 aW:∀j∈M.L,-1≤j.aW∧j.aW≤1099511627776
 fin:∀j∈M.L,-1≤j.fin∧j.fin≤1099512676352
 bY:∀j∈M.L,0≤j.bY∧j.bY≤18446744073709551615
theorem lG (b t l:Int)(w:World):Calls prog 110 #[.int .i64 b,.int .i64 t,.int .i64 l] w fun e w'=>e=.returned (.int .i64 (fQ b t l))∧w=w':=by
 unfold fQ;by_cases h1:l<t
 ·have d1:decide (l<t)=true:=qag h1;by_cases h2:b<0
  ·have d2:decide (b<0)=true:=qag h2;rw[qaj ⟨h1,.inl h2⟩];go_enter func110,ntmps110;go_wp2_with fail;go_ret;exact⟨rfl,rfl⟩
  ·have d2:decide (b<0)=false:=qah h2;by_cases h3:t<b
   ·have d3:decide (t<b)=true:=qag h3;rw[qaj ⟨h1,.inr h3⟩];go_enter func110,ntmps110;go_wp2_with fail;go_ret;exact⟨rfl,rfl⟩
   ·have d3:decide (t<b)=false:=qah h3;rw[qai (by omega)];go_enter func110,ntmps110;go_wp2_with fail;go_ret;exact⟨rfl,rfl⟩
 ·have d1:decide (l<t)=false:=qah h1;rw[qai (by omega)];go_enter func110,ntmps110;go_wp2_with fail;go_ret;exact⟨rfl,rfl⟩
theorem Pm (s k:Nat):s/2^k/2=s/2^(k+1):=by rw[Nat.div_div_eq_div_mul,Nat.pow_succ]
theorem U7 (s n:Nat)(hs:s≤18446744073709551615)(hn:n≤1000)(w:World):Calls prog 25 #[.int .u64 s,.int .i64 n] w fun e w'=>e=.returned (.bool (dw s n))∧w=w':=by
 obtain⟨r,hr⟩:=qaa (s/2^n);have hq:dw s n=decide (r %2=1):=by unfold dw;rw[hr]
 rw[hq];replace hr:=qae hr;clear hq;obtain⟨K,hK⟩:∃K:Nat→Nat,∀k,K k=s/2^k:=⟨fun k=>s/2^k,fun k=>rfl⟩;replace hK:=qae hK;have e0:Hid (s=K 0):=by show _=_;rw[hK.out 0];simp
 go_enter func25,ntmps25;go_wp2_with fail;go_loopw [0,5] (fun ss ii wr=>∃k u:Nat,k≤n∧u≤18446744073709551615∧ss=.int .u64 u∧ii=.int .i64 k∧Hid (u=K k)∧w=wr) (fun _ ii _=>n-(intOf ii).toNat)
 case atStart=>exact⟨0,s,Nat.zero_le _,hs,rfl,rfl,e0,rfl⟩
 case round=>
  obtain⟨k,u,hk,hu,rfl,rfl,Yp,rfl⟩:=hrel;by_cases hlt:k<n
  ·have b2:(k:Int)<(n:Int):=by omega
   have hst:Hid (K (k+1)=u/2):=by show _=_;rw[hK.out,←Pm,←hK.out,←Yp.out]
   clear e0;go_wp2_with fail;go_roundw
   case rel=>exact⟨k+1,u/2,by omega,by omega,by congr 1,by go_num,hst.out.symm,trivial⟩
   case measure=>simp[intOf];omega
  ·obtain rfl:k=n:=by omega
   have b2:¬(k:Int)<(k:Int):=by omega
   have hur:Hid (u=r):=by show _=_;rw[Yp.out,hK.out,hr.out]
   clear e0;go_wp2_with fail;go_ret;refine⟨?_,rfl⟩;rw[←hur.out];have e2:(((u:Int)%2) == 1)=decide (u %2=1):=by
    by_cases h:u %2=1
    ·rw[qag h];exact beq_iff_eq.2 (by omega)
    ·rw[qah h];exact beq_eq_false_iff_ne.2 (by omega)
   rw[←e2];rfl
theorem pF (j:Jb)(w:World):Calls prog 111 #[.agg (ag j).toArray] w fun e w'=>e=.returned (.bool (ay j))∧Below w.heap.size w w':=by
 unfold ay Jb.st Jb.aW;obtain⟨x1,x2,x3,x4,x5,x6,x7,x8,x9,x0⟩:=j;simp only[ag];by_cases h1:x6=1
 ·subst h1;go_enter func111,ntmps111;go_wp2_with fail;go_ret;exact⟨by simp,qac.alloc (qaf _) _⟩
 ·have d2:(x6 == 1)=false:=by simp[h1]
  go_enter func111,ntmps111;go_wp2_with fail;go_ret;exact⟨by simp[h1],qac.alloc (qaf _) _⟩
theorem Ff (a b:Jb)(w:World):Calls prog 198 #[.agg (ag a).toArray,.agg (ag b).toArray] w fun e w'=>e=.returned (.bool (bA a b))∧Below w.heap.size w w':=by
 have hg:∀o1 o2:Obj,Below w.heap.size w ((w.alloc o1).alloc o2):=fun o1 o2=>(qac.alloc (qaf _) _).alloc (by simp) _;unfold bA Jb.prio Jb.id;obtain⟨x1,x2,x3,x4,x5,x6,x7,x8,x9,x0⟩:=a;obtain⟨y1,y2,y3,y4,y5,y6,y7,y8,y9,y0⟩:=b;simp only[ag];by_cases h1:y5<x5
 ·have d1:decide (y5<x5)=true:=qag h1;go_enter func198,ntmps198;go_wp2_with fail;go_ret;exact⟨by simp[h1],hg _ _⟩
 ·have d1:decide (y5<x5)=false:=qah h1;by_cases h2:x5=y5
  ·have d2:(x5 == y5)=true:=by simp[h2]
   subst h2;go_enter func198,ntmps198;go_wp2_with fail;go_ret;exact⟨by simp,hg _ _⟩
  ·have d2:(x5 == y5)=false:=by simp[h2]
   go_enter func198,ntmps198;go_wp2_with fail;go_ret;exact⟨by simp[h1,h2],hg _ _⟩
end
section
variable {w w' : World} {p : Nat} {dv lv : Value} {M : Md}
theorem aL.mr {v:Value}{L:List Jb}(h:aL ag 10 w v L)(i:Nat)(hi:i<L.length):∃b off cap,v=.slice (some ⟨b,off,none⟩) L.length cap∧L.length≤cap∧cap≤maxLen∧b<w.heap.size∧∀j u,(ag (L.getD i default))[j]? =some u→w.cell? ⟨b,off+i*10+j,none⟩=some u:=by
 obtain⟨ao,cap,rfl,h1,h2,h3⟩:=h;obtain⟨b,off,rfl,hb,hc⟩:=h3 (by omega);refine⟨b,off,cap,rfl,h1,h2,hb,fun j u hj=>by rw[Nat.add_assoc];exact hc i (L.getD i default) j u (by simp[List.getD,hi]) hj⟩
theorem qG {L:List Jb}{i:Nat}(h:i<L.length):L.getD i default∈L:=by
 rw[List.getD,List.getElem?_eq_getElem h];exact List.getElem_mem h
theorem Ew {L:List Jb}{k:Nat}(h:∀m,m<L.length→aN k (L.getD m default)=false):holderL L k= -1:=by
 unfold holderL;cases he:L.findIdx? (aN k)with
 |none=>rfl
 |some q=>
  obtain⟨h1,h2,_⟩:=List.findIdx?_eq_some_iff_getElem.1 he;have:=h q h1;rw[List.getD,List.getElem?_eq_getElem h1,Option.getD_some,h2]at this;cases this
theorem Ex {L:List Jb}{k i:Nat}(hi:i<L.length)(h:∀m,m<i→aN k (L.getD m default)=false)(hy:aN k (L.getD i default)=true):holderL L k=(i:Int):=by
 unfold holderL;have he:L.findIdx? (aN k)=some i:=by
  refine List.findIdx?_eq_some_iff_getElem.2 ⟨hi,?_,fun m hm=>?_⟩
  ·rwa [List.getD,List.getElem?_eq_getElem hi,Option.getD_some]at hy
  ·have:=h m hm;rw[List.getD,List.getElem?_eq_getElem (by omega),Option.getD_some]at this;rw[this];decide
 rw[he]
theorem Jc {L:List Jb}{k:Nat}(h:0≤holderL L k):∃i:Nat,holderL L k=(i:Int)∧i<L.length∧aN k (L.getD i default)=true:=by
 unfold holderL at h⊢;cases he:L.findIdx? (aN k)with
 |none=>rw[he]at h;exact absurd h (by decide)
 |some q=>
  obtain⟨h1,h2,_⟩:=List.findIdx?_eq_some_iff_getElem.1 he;exact⟨q,rfl,h1,by rwa [List.getD,List.getElem?_eq_getElem h1,Option.getD_some]⟩
theorem AX (L:List Jb)(k:Nat): -1≤holderL L k:=by
 unfold holderL;split<;>omega
theorem Cm (h:MR w p dv lv M)(hb:MB M)(k:Nat)(hk:k≤1000):Calls prog 148 #[.pointer (some ⟨p,0,none⟩),.int .i64 k] w fun e w'=>e=.returned (.int .i64 (holderL M.L k))∧w=w':=by
 have c2:=h.c2;have hjs:=qae h.js;have hll:=hb.ll;have Fg:=qae hb.bY;obtain⟨n,hn⟩:=qaa (M.L.length);obtain⟨ao,cap,rfl,h1,h2,_⟩:=id h.js;rw[←hn]at hll c2 h1;have BO:cap≤9223372036854775807:=by unfold maxLen at h2;omega
 clear h hb h2;generalize M.L=L at*;replace hn:=qae hn;go_enter func148,ntmps148;go_wp2_with fail;go_loopw [5] (fun ii wr=>∃i:Nat,i≤n∧ii=.int .i64 i∧Hid (∀m,m<i→aN k (L.getD m default)=false)∧w=wr) (fun ii _=>n-(intOf ii).toNat)
 case atStart=>exact⟨0,Nat.zero_le _,rfl,fun m hm=>absurd hm (Nat.not_lt_zero m),rfl⟩
 case round=>
  obtain⟨i,hi,rfl,hno,rfl⟩:=hrel;by_cases hlt:i<n
  ·have b2:(i:Int)<(n:Int):=by omega
   have wi:IntKind.i64.wrap ((i:Int)+1)=(i:Int)+1:=by rw[IntKind.wrap_i64];omega
   obtain⟨b,off,cap',hv,_,_,hbl,hc⟩:=hjs.out.mr i (by rw[←hn.out];exact hlt);rw[←hn.out]at hv;cases hv;have hmem:=qG (L:=L) (i:=i) (by rw[←hn.out];exact hlt);have hnd:=Fg.out _ hmem;have BP:=hc 5 _ rfl;have hc9:=hc 9 _ rfl;have hS:Hid (i<L.length):=by show i<L.length;rw[←hn.out];exact hlt
   generalize hy:L.getD i default=y at*;obtain⟨x1,x2,x3,x4,x5,x6,x7,x8,x9,x0⟩:=y;have hnd:0≤x0∧x0≤18446744073709551615:=hnd;obtain⟨s,rfl⟩:=Int.eq_ofNat_of_zero_le hnd.1;have Yq:s≤18446744073709551615:=by omega
   simp only at BP hc9;have hc:True:=trivial;have hhas:=U7 s k Yq hk w;by_cases h3:x6=3
   ·subst h3;have hq:Hid (aN k (L.getD i default)=dw s k):=by show _=_;rw[hy];simp[aN,Jb.st,Jb.bY]
    generalize dw s k=q at*;replace hy:=qae hy;clear hmem;cases q
    ·go_wp2_with (go_at_call 25;go_must (refine hhas.mono ?_);rintro e w1 ⟨rfl,rfl⟩);go_roundw
     case rel=>
      refine⟨i+1,by omega,by go_num,fun m hm=>?_,trivial⟩;rcases Nat.lt_or_ge m i with h|h
      ·exact hno.out m h
      ·obtain rfl:m=i:=by omega
       exact hq.out
     case measure=>simp[intOf];omega
    ·go_wp2_with (go_at_call 25;go_must (refine hhas.mono ?_);rintro e w1 ⟨rfl,rfl⟩);go_ret;exact⟨by rw[Ex hS.out hno.out hq.out];rfl,rfl⟩
   ·have hq:Hid (aN k (L.getD i default)=false):=by show _=_;rw[hy];simp[aN,Jb.st,h3]
    have d3:(x6 == 3)=false:=by simp[h3]
    replace hy:=qae hy;clear hmem h3;go_wp2_with fail;go_roundw
    case rel=>
     refine⟨i+1,by omega,by go_num,fun m hm=>?_,trivial⟩;rcases Nat.lt_or_ge m i with h|h
     ·exact hno.out m h
     ·obtain rfl:m=i:=by omega
      exact hq.out
    case measure=>simp[intOf];omega
  ·obtain rfl:i=n:=by omega
   have b2:¬(i:Int)<(i:Int):=by omega
   have hR:Hid (holderL L k= -1):=Ew (fun m hm=>hno.out m (by rw[hn.out];exact hm));go_wp2_with fail;go_ret;exact⟨by rw[hR.out];rfl,rfl⟩
end
section
variable {w w' : World} {p : Nat} {dv lv : Value} {M : Md}
theorem aL.Cn {v:Value}{L:List Bool}(h:aL rZ 1 w v L)(i:Nat)(hi:i<L.length):∃b off cap,v=.slice (some ⟨b,off,none⟩) L.length cap∧L.length≤cap∧cap≤maxLen∧b<w.heap.size∧w.cell? ⟨b,off+i,none⟩=some (.bool (L.getD i false)):=by
 obtain⟨ao,cap,rfl,h1,h2,h3⟩:=h;obtain⟨b,off,rfl,hb,hc⟩:=h3 (by omega);refine⟨b,off,cap,rfl,h1,h2,hb,?_⟩;have:=hc i (L.getD i false) 0 _ (by simp[List.getD,hi]) rfl;simpa using this
theorem aL.shape {α:Type}{enc:α→List Value}{sz:Nat}{v:Value}{L:List α}(h:aL enc sz w v L):∃ao cap,v=.slice ao L.length cap∧L.length≤cap∧cap≤9223372036854775807:=by
 obtain⟨ao,cap,rfl,h1,h2,_⟩:=h;exact⟨ao,cap,rfl,h1,by unfold maxLen at h2;omega⟩
theorem tH (h:MR w p dv lv M)(hb:MB M)(n:Int):Calls prog 74 #[.pointer (some ⟨p,0,none⟩),.int .i64 n] w fun e w'=>e=.returned (.int .i64 (aK M n))∧w=w':=by
 have c1:=h.c1;have hnn:=hb.nn;obtain⟨N,hN⟩:=qaa (M.dr.length);by_cases h0:n<0
 ·have d1:decide (n<0)=true:=qag h0;have e0:aK M n=0:=by unfold aK;rw[qaj (.inl h0)]
  rw[e0];clear e0 hnn;go_enter func74,ntmps74;go_wp2_with fail;go_ret;exact⟨rfl,rfl⟩
 ·have d1:decide (n<0)=false:=qah h0;obtain⟨ao,cap,rfl,hc1,BO⟩:=h.dr.shape;by_cases h1:(M.dr.length:Int)≤n
  ·have d2:decide ((M.dr.length:Int)≤n)=true:=qag h1;have e0:aK M n=0:=by unfold aK;rw[qaj (.inr h1)]
   rw[e0];rw[←hN]at c1 h1 d2;clear e0 hnn hc1 BO;go_enter func74,ntmps74;go_wp2_with fail;go_ret;exact⟨rfl,rfl⟩
  ·have d2:decide ((M.dr.length:Int)≤n)=false:=qah h1;obtain⟨k,rfl⟩:=Int.eq_ofNat_of_zero_le (Int.not_lt.1 h0);have hkN:k<M.dr.length:=by omega
   obtain⟨b,off,cap',hv,_,_,_,hcd⟩:=h.dr.Cn k hkN;have hho:=Cm h hb k (by omega);have e0:aK M (k:Int)=if 0≤holderL M.L k then(if M.dr.getD k false then 3 else 2)else if M.dr.getD k false then 4 else 1:=by
    unfold aK;rw[qai (by omega)];rfl
   rw[e0];rw[←hN]at c1 hkN d2 hv hc1;cases hv;have hlo:=AX M.L k;generalize M.dr.getD k false=q at*;generalize holderL M.L k=H at*;clear e0 h0 h1;by_cases hH:0≤H
   ·rw[qaj hH];have d3:decide (0≤H)=true:=qag hH;cases q
    ·go_enter func74,ntmps74;go_wp2_with (go_at_call 148;go_must (refine hho.mono ?_);rintro e w1 ⟨rfl,rfl⟩);go_ret;exact⟨rfl,rfl⟩
    ·go_enter func74,ntmps74;go_wp2_with (go_at_call 148;go_must (refine hho.mono ?_);rintro e w1 ⟨rfl,rfl⟩);go_ret;exact⟨rfl,rfl⟩
   ·rw[qai hH];have d3:decide (0≤H)=false:=qah hH;cases q
    ·go_enter func74,ntmps74;go_wp2_with (go_at_call 148;go_must (refine hho.mono ?_);rintro e w1 ⟨rfl,rfl⟩);go_ret;exact⟨rfl,rfl⟩
    ·go_enter func74,ntmps74;go_wp2_with (go_at_call 148;go_must (refine hho.mono ?_);rintro e w1 ⟨rfl,rfl⟩);go_ret;exact⟨rfl,rfl⟩
end
theorem dP (x1 x2 x3 x4 x5 x6 x7 x8 x9 x0:Int):(ag (x1,x2,x3,x4,x5,x6,x7,x8,x9,x0)).toArray= #[.int .i64 x1,.int .i64 x2,.int .i64 x3,.int .i64 x4,.int .i64 x5,.int .i64 x6,.int .i64 x7,.int .i64 x8,.int .i64 x9,.int .u64 x0]:=rfl
theorem BQ (M:Md)(t:Int)(k:Nat):aU M t (k+1)=aU M t k+(if bW M t k=true then 1 else 0):=by
 unfold aU;rw[List.range_succ,List.countP_append,List.countP_cons,List.countP_nil];split<;>simp
theorem iT (M:Md)(t:Int)(k:Nat):0≤aU M t k∧aU M t k≤k:=by
 unfold aU;have:=List.countP_le_length (p:=bW M t) (l:=List.range k);rw[List.length_range]at this;omega
theorem Gz (L:List Jb)(t but:Int)(j:Jb):bM (L++[j]) t but=bM L t but+(if jU t but j=true then j.wid else 0):=by
 unfold bM;rw[List.filter_append,List.map_append,List.sum_append];by_cases h:jU t but j=true
 ·simp[h]
 ·simp[h]
theorem GA {L:List Jb}{i:Nat}(hi:i<L.length)(t but:Int):bM (L.take (i+1)) t but=bM (L.take i) t but+(if jU t but (L.getD i default)=true then(L.getD i default).wid else 0):=by
 rw[List.take_succ_eq_append_getElem hi,Gz];simp[List.getD,hi]
theorem mI {L:List Jb}(h:∀j∈L,0≤j.wid∧j.wid≤64)(t but:Int):0≤bM L t but∧bM L t but≤64*L.length:=by
 induction L with
 |nil=>simp[bM]
 |cons j L ih=>
  have h1:=h j List.mem_cons_self;have h2:=ih fun x hx=>h x (List.mem_cons_of_mem _ hx);have e:bM (j::L) t but=(if jU t but j=true then j.wid else 0)+bM L t but:=by
   unfold bM;by_cases hk:jU t but j=true
   ·simp[hk]
   ·simp[hk]
  rw[e,List.length_cons];split<;>omega
section
variable {w w' : World} {p : Nat} {dv lv : Value} {M : Md}
theorem qV (h:MR w p dv lv M)(hb:MB M)(t but:Int):Calls prog 97 #[.pointer (some ⟨p,0,none⟩),.int .i64 t,.int .i64 but] w fun e w'=>e=.returned (.int .i64 (aF M t but))∧Below w.heap.size w w':=by
 have hM:=qae h;have hB:=qae hb;have hnn:=hb.nn;have hll:=hb.ll;obtain⟨N,hN⟩:=qaa (M.dr.length);obtain⟨n,hn⟩:=qaa (M.L.length);rw[←hN]at hnn;rw[←hn]at hll;replace hN:=qae hN;replace hn:=qae hn;clear h hb;go_enter func97,ntmps97;go_wp2_with fail;go_loopw [7,8] (fun cc kk wr=>∃k:Nat,k≤N∧cc=.int .i64 (aU M t k)∧kk=.int .i64 k∧w=wr) (fun _ kk _=>N-(intOf kk).toNat)
 case atStart=>exact⟨0,Nat.zero_le _,rfl,rfl,rfl⟩
 case round=>
  obtain⟨k,hk,rfl,rfl,rfl⟩:=hrel;obtain⟨ao,cap,hdv,hc1,BO⟩:=hM.out.dr.shape;obtain⟨dI,cap2,hlv,hl1,Yr⟩:=hM.out.js.shape;rw[←hN.out]at hdv hc1;rw[←hn.out]at hlv hl1;have c1:=hM.out.c1;have c2:=hM.out.c2;rw[hdv]at c1;rw[hlv]at c2;by_cases hlt:k<N
  ·have b2:(k:Int)<(N:Int):=by omega
   have wi:IntKind.i64.wrap ((k:Int)+1)=(k:Int)+1:=by rw[IntKind.wrap_i64];omega
   obtain⟨b,off,cap',hv,_,_,_,hcd⟩:=hM.out.dr.Cn k (by rw[←hN.out];exact hlt);rw[←hN.out,hdv]at hv;cases hv;have hho:=Cm hM.out hB.out k (by omega);have hsucc:=BQ M t k;have hfr:=iT M t k;have hlo:=AX M.L k;have hnF:bW M t k=(!(M.dr.getD k false)&&(decide (holderL M.L k<0)||decide ((M.L.getD (holderL M.L k).toNat default).fin≤t))):=rfl;have hof:0≤holderL M.L k→∃i:Nat,holderL M.L k=(i:Int)∧i<n∧∃b off cap,lv=.slice (some ⟨b,off,none⟩) n cap∧w.cell? ⟨b,off+i*10+7,none⟩=some (.int .i64 (M.L.getD i default).fin):=fun h0=>by
    obtain⟨i,hi,hil,_⟩:=Jc h0;obtain⟨b,off,cap,hv,_,_,_,hc⟩:=hM.out.js.mr i hil;exact⟨i,hi,by rw[hn.out];exact hil,b,off,cap,by rw[hn.out];exact hv,hc 7 _ rfl⟩
   have xU:IntKind.i64.wrap (aU M t k+1)=aU M t k+1:=by rw[IntKind.wrap_i64];omega
   generalize aU M t k=F at*;generalize M.dr.getD k false=q at*;cases q
   ·by_cases h0:holderL M.L k<0
    ·have d0:decide (holderL M.L k<0)=true:=qag h0;have hne:bW M t k=true:=by rw[hnF,d0];rfl
     rw[hne]at hsucc;replace hsucc:=qae hsucc;clear hnF hof hne;generalize holderL M.L k=H at*;go_wp2_with (go_at_call 148;go_must (refine hho.mono ?_);rintro e w1 ⟨rfl,rfl⟩);go_roundw
     case rel=>exact⟨k+1,by omega,by rw[hsucc.out];rfl,by go_num,trivial⟩
     case measure=>simp[intOf];omega
    ·have d0:decide (holderL M.L k<0)=false:=qah h0;obtain⟨i,hi,hin,b3,aaj,Jd,hv3,hc7⟩:=hof (by omega);rw[hlv]at hv3;cases hv3;rw[hi]at hho d0 hnF;rw[show((i:Nat):Int).toNat=i from rfl]at hnF;clear hof hlo h0;generalize (M.L.getD i default).fin=E at*;by_cases hE:E≤t
     ·have dE:decide (E≤t)=true:=qag hE;have hne:bW M t k=true:=by rw[hnF,dE];simp
      rw[hne]at hsucc;replace hsucc:=qae hsucc;replace hi:=qae hi;clear hnF hne;go_wp2_with (go_at_call 148;go_must (refine hho.mono ?_);rintro e w1 ⟨rfl,rfl⟩);go_roundw
      case rel=>exact⟨k+1,by omega,by rw[hsucc.out];rfl,by go_num,trivial⟩
      case measure=>simp[intOf];omega
     ·have dE:decide (E≤t)=false:=qah hE;have hne:bW M t k=false:=by rw[hnF,dE,d0];simp
      rw[hne]at hsucc;replace hsucc:=qae hsucc;replace hi:=qae hi;clear hnF hne;go_wp2_with (go_at_call 148;go_must (refine hho.mono ?_);rintro e w1 ⟨rfl,rfl⟩);go_roundw
      case rel=>exact⟨k+1,by omega,by rw[hsucc.out];simp,by go_num,trivial⟩
      case measure=>simp[intOf];omega
   ·have hne:bW M t k=false:=by rw[hnF];rfl
    rw[hne]at hsucc;replace hsucc:=qae hsucc;clear hnF hof hne hho;go_wp2_with fail;go_roundw
    case rel=>exact⟨k+1,by omega,by rw[hsucc.out];simp,by go_num,trivial⟩
    case measure=>simp[intOf];omega
  ·obtain rfl:k=N:=by omega
   have b2:¬(k:Int)<(k:Int):=by omega
   have hfr:=iT M t k;have hFd:Hid (aF M t but=aU M t k-bM (M.L.take n) t but):=by show _=_;rw[hn.out,List.take_length];unfold aF;rw[←hN.out]
   generalize aU M t k=F at*;go_wp2_with fail;go_loopw [7,10] (fun cc ii wr=>∃i:Nat,i≤n∧cc=.int .i64 (F-bM (M.L.take i) t but)∧ii=.int .i64 i∧Hid (Below w.heap.size w wr)) (fun _ ii _=>n-(intOf ii).toNat)
   case atStart=>exact⟨0,Nat.zero_le _,by simp[bM],rfl,Below.refl _ _⟩
   case round=>
    obtain⟨i,hi,rfl,rfl,hbw⟩:=hrel;clear c1 c2;have iU:=hM.out.below hbw.out;have c2:=iU.c2;rw[hlv]at c2;by_cases hlt:i<n
    ·have b2:(i:Int)<(n:Int):=by omega
     have wi:IntKind.i64.wrap ((i:Int)+1)=(i:Int)+1:=by rw[IntKind.wrap_i64];omega
     obtain⟨b4,nH,cap4,hv4,_,_,hb4,hc⟩:=iU.js.mr i (by rw[←hn.out];exact hlt);rw[←hn.out,hlv]at hv4;cases hv4;have hmem:=qG (L:=M.L) (i:=i) (by rw[←hn.out];exact hlt);have hsucc:=GA (L:=M.L) (i:=i) (by rw[←hn.out];exact hlt) t but;have htr:=mI (L:=M.L.take i) (fun j hj=>hB.out.wid j (List.mem_of_mem_take hj)) t but;have htl:(M.L.take i).length≤i:=List.length_take_le _ _;have hw3:=hB.out.wid _ hmem;have hl4:=hB.out.lim _ hmem;have LM:=hB.out.aW _ hmem;have hbs:wr.heap.size≥w.heap.size:=hbw.out.size;generalize M.L.getD i default=y at*;obtain⟨x1,x2,x3,x4,x5,x6,x7,x8,x9,x0⟩:=y;have hw3:0≤x3∧x3≤64:=hw3;have hl4:0≤x4∧x4≤1048576:=hl4;have LM: -1≤x9∧x9≤1099511627776:=LM;have e0:=hc 0 _ rfl;have e1:=hc 1 _ rfl;have e2:=hc 2 _ rfl;have e3:=hc 3 _ rfl;have e4:=hc 4 _ rfl;have e5:=hc 5 _ rfl;have e6:=hc 6 _ rfl;have e7:=hc 7 _ rfl;have e8:=hc 8 _ rfl;have e9:=hc 9 _ rfl;rw[Nat.add_zero]at e0;have htk:jU t but (x1,x2,x3,x4,x5,x6,x7,x8,x9,x0)=(ay (x1,x2,x3,x4,x5,x6,x7,x8,x9,x0)&&decide (x1≠but)&&decide (x9≤t)&&decide (t<x9+x4)):=rfl;rw[htk]at hsucc;have hpl:=pF (x1,x2,x3,x4,x5,x6,x7,x8,x9,x0) (wr.alloc (.cells #[.int .i64 x1,.int .i64 x2,.int .i64 x3,.int .i64 x4,.int .i64 x5,.int .i64 x6,.int .i64 x7,.int .i64 x8,.int .i64 x9,.int .u64 x0] 55));rw[dP]at hpl;generalize ay (x1,x2,x3,x4,x5,x6,x7,x8,x9,x0)=q at*;have w9:IntKind.i64.wrap (x9+x4)=x9+x4:=by rw[IntKind.wrap_i64];omega
     have hwd:(Jb.wid (x1,x2,x3,x4,x5,x6,x7,x8,x9,x0))=x3:=rfl;rw[hwd]at hsucc;have wT:IntKind.i64.wrap (F-bM (M.L.take i) t but-x3)=F-bM (M.L.take i) t but-x3:=by rw[IntKind.wrap_i64];omega
     generalize bM (M.L.take i) t but=T at*;obtain⟨T1,hT1⟩:=qaa (bM (M.L.take (i+1)) t but);rw[←hT1]at hsucc;replace hT1:=qae hT1;have hbn:=hbw.out.alloc hbs (.cells #[.int .i64 x1,.int .i64 x2,.int .i64 x3,.int .i64 x4,.int .i64 x5,.int .i64 x6,.int .i64 x7,.int .i64 x8,.int .i64 x9,.int .u64 x0] 55);obtain⟨wn,hwn⟩:=qaa (wr.alloc (.cells #[.int .i64 x1,.int .i64 x2,.int .i64 x3,.int .i64 x4,.int .i64 x5,.int .i64 x6,.int .i64 x7,.int .i64 x8,.int .i64 x9,.int .u64 x0] 55));have hxa:wn.heap[wr.heap.size]? =some (.cells #[.int .i64 x1,.int .i64 x2,.int .i64 x3,.int .i64 x4,.int .i64 x5,.int .i64 x6,.int .i64 x7,.int .i64 x8,.int .i64 x9,.int .u64 x0] 55 (0,0)):=by rw[hwn];exact heap_alloc_new wr _
     rw[←hwn]at hbn;replace hbn:=qae hbn;replace hxa:=qae hxa;have hwz:Hid (wr.heap.size<wn.heap.size):=ai hxa.out;clear hbw iU hc hmem htk hwd htr htl hw3 hl4 LM;replace hsucc:=qae hsucc;cases q
     ·skip
      go_wp2_with fail;go_at_call 111;refine hpl.mono ?_;clear hpl e0 e1 e2 e3 e4 e5 e6 e7 e8 e9 c2;rw[←hwn];rintro e w1 ⟨rfl,hb1⟩;have hx1:w1.heap[wr.heap.size]? =_:=(hb1.block _ hwz.out).trans hxa.out;have g0:w1.cell? ⟨wr.heap.size,0,none⟩=some (.int .i64 x1):=by simp[World.cell?,hx1]
      have g2:w1.cell? ⟨wr.heap.size,2,none⟩=some (.int .i64 x3):=by simp[World.cell?,hx1]
      have g3:w1.cell? ⟨wr.heap.size,3,none⟩=some (.int .i64 x4):=by simp[World.cell?,hx1]
      have g8:w1.cell? ⟨wr.heap.size,8,none⟩=some (.int .i64 x9):=by simp[World.cell?,hx1]
      have hbf:Hid (Below w.heap.size w w1):=hbn.out.trans (hb1.mono (by have:=hwz.out;omega));replace hwn:=qae hwn;clear hb1 hx1;go_wp2_with fail;go_roundw
      case rel=>exact⟨i+1,by omega,by rw[←hT1.out];congr 1;have:=hsucc.out;simp at this;omega,by go_num,hbf⟩
      case measure=>simp[intOf];omega
     ·by_cases k1:x1=but
      ·subst k1;go_wp2_with fail;go_at_call 111;refine hpl.mono ?_;clear hpl e0 e1 e2 e3 e4 e5 e6 e7 e8 e9 c2;rw[←hwn];rintro e w1 ⟨rfl,hb1⟩;have hx1:w1.heap[wr.heap.size]? =_:=(hb1.block _ hwz.out).trans hxa.out;have g0:w1.cell? ⟨wr.heap.size,0,none⟩=some (.int .i64 x1):=by simp[World.cell?,hx1]
       have g2:w1.cell? ⟨wr.heap.size,2,none⟩=some (.int .i64 x3):=by simp[World.cell?,hx1]
       have g3:w1.cell? ⟨wr.heap.size,3,none⟩=some (.int .i64 x4):=by simp[World.cell?,hx1]
       have g8:w1.cell? ⟨wr.heap.size,8,none⟩=some (.int .i64 x9):=by simp[World.cell?,hx1]
       have hbf:Hid (Below w.heap.size w w1):=hbn.out.trans (hb1.mono (by have:=hwz.out;omega));replace hwn:=qae hwn;clear hb1 hx1;go_wp2_with fail;go_roundw
       case rel=>exact⟨i+1,by omega,by rw[←hT1.out];congr 1;have:=hsucc.out;simp at this;omega,by go_num,hbf⟩
       case measure=>simp[intOf];omega
      ·have m1:(x1 != but)=true:=by simp[k1]
       by_cases k2:x9≤t
       ·have m2:decide (x9≤t)=true:=qag k2;by_cases k3:t<x9+x4
        ·have m3:decide (t<x9+x4)=true:=qag k3;go_wp2_with fail;go_at_call 111;refine hpl.mono ?_;clear hpl e0 e1 e2 e3 e4 e5 e6 e7 e8 e9 c2;rw[←hwn];rintro e w1 ⟨rfl,hb1⟩;have hx1:w1.heap[wr.heap.size]? =_:=(hb1.block _ hwz.out).trans hxa.out;have g0:w1.cell? ⟨wr.heap.size,0,none⟩=some (.int .i64 x1):=by simp[World.cell?,hx1]
         have g2:w1.cell? ⟨wr.heap.size,2,none⟩=some (.int .i64 x3):=by simp[World.cell?,hx1]
         have g3:w1.cell? ⟨wr.heap.size,3,none⟩=some (.int .i64 x4):=by simp[World.cell?,hx1]
         have g8:w1.cell? ⟨wr.heap.size,8,none⟩=some (.int .i64 x9):=by simp[World.cell?,hx1]
         have hbf:Hid (Below w.heap.size w w1):=hbn.out.trans (hb1.mono (by have:=hwz.out;omega));replace hwn:=qae hwn;clear hb1 hx1;go_wp2_with fail;go_roundw
         case rel=>exact⟨i+1,by omega,by rw[←hT1.out];congr 1;have:=hsucc.out;simp[k1,k2,k3]at this;omega,by go_num,hbf⟩
         case measure=>simp[intOf];omega
        ·have m3:decide (t<x9+x4)=false:=qah k3;go_wp2_with fail;go_at_call 111;refine hpl.mono ?_;clear hpl e0 e1 e2 e3 e4 e5 e6 e7 e8 e9 c2;rw[←hwn];rintro e w1 ⟨rfl,hb1⟩;have hx1:w1.heap[wr.heap.size]? =_:=(hb1.block _ hwz.out).trans hxa.out;have g0:w1.cell? ⟨wr.heap.size,0,none⟩=some (.int .i64 x1):=by simp[World.cell?,hx1]
         have g2:w1.cell? ⟨wr.heap.size,2,none⟩=some (.int .i64 x3):=by simp[World.cell?,hx1]
         have g3:w1.cell? ⟨wr.heap.size,3,none⟩=some (.int .i64 x4):=by simp[World.cell?,hx1]
         have g8:w1.cell? ⟨wr.heap.size,8,none⟩=some (.int .i64 x9):=by simp[World.cell?,hx1]
         have hbf:Hid (Below w.heap.size w w1):=hbn.out.trans (hb1.mono (by have:=hwz.out;omega));replace hwn:=qae hwn;clear hb1 hx1;go_wp2_with fail;go_roundw
         case rel=>exact⟨i+1,by omega,by rw[←hT1.out];congr 1;have:=hsucc.out;simp[k1,k2,k3]at this;omega,by go_num,hbf⟩
         case measure=>simp[intOf];omega
       ·have m2:decide (x9≤t)=false:=qah k2;go_wp2_with fail;go_at_call 111;refine hpl.mono ?_;clear hpl e0 e1 e2 e3 e4 e5 e6 e7 e8 e9 c2;rw[←hwn];rintro e w1 ⟨rfl,hb1⟩;have hx1:w1.heap[wr.heap.size]? =_:=(hb1.block _ hwz.out).trans hxa.out;have g0:w1.cell? ⟨wr.heap.size,0,none⟩=some (.int .i64 x1):=by simp[World.cell?,hx1]
        have g2:w1.cell? ⟨wr.heap.size,2,none⟩=some (.int .i64 x3):=by simp[World.cell?,hx1]
        have g3:w1.cell? ⟨wr.heap.size,3,none⟩=some (.int .i64 x4):=by simp[World.cell?,hx1]
        have g8:w1.cell? ⟨wr.heap.size,8,none⟩=some (.int .i64 x9):=by simp[World.cell?,hx1]
        have hbf:Hid (Below w.heap.size w w1):=hbn.out.trans (hb1.mono (by have:=hwz.out;omega));replace hwn:=qae hwn;clear hb1 hx1;go_wp2_with fail;go_roundw
        case rel=>exact⟨i+1,by omega,by rw[←hT1.out];congr 1;have:=hsucc.out;simp[k1,k2]at this;omega,by go_num,hbf⟩
        case measure=>simp[intOf];omega
    ·obtain rfl:i=n:=by omega
     have b2:¬(i:Int)<(i:Int):=by omega
     go_wp2_with fail;go_ret;exact⟨by rw[hFd.out];rfl,hbw.out⟩
end
def tA (L:List (Int×Int))(i:Nat):Int:=(L.getD i (0,0)).1
def tV (L:List (Int×Int))(i:Nat):Int:=(L.getD i (0,0)).2
structure Sm (L : List (Int × Int)) (now : Int) (f : Int → Int) : Prop where
 pos:0<L.length
 hd:tA L 0=now
 inc:∀i,i+1<L.length→tA L i<tA L (i+1)
 top:∀i,i<L.length→tA L i<1152921504606846976
 rep:∀i t,i<L.length→tA L i≤t→(i+1<L.length→t<tA L (i+1))→f t=tV L i
def lH (L:List (Int×Int))(X:Int→Prop):Prop:=∀i,i+1<L.length→¬X (tA L (i+1))→tV L i≠tV L (i+1)
structure Can (L : List (Int × Int)) (now : Int) (f : Int → Int) : Prop where
 sm:Sm L now f
 alt:lH L (fun _=>False)
structure jV (L : List (Int × Int)) (t : Int) (i : Nat) : Prop where
 lt:i<L.length
 le:0<i→tA L i≤t
 nx:i+1<L.length→t<tA L (i+1)
section
variable {L : List (Int × Int)} {now : Int} {f : Int → Int}
theorem Sm.lt (h:Sm L now f){i j:Nat}(hij:i<j)(hj:j<L.length):tA L i<tA L j:=by
 induction j with
 |zero=>omega
 |succ j ih=>
  rcases Nat.lt_or_ge i j with h1|h1
  ·have:=ih h1 (by omega);have:=h.inc j hj;omega
  ·have:i=j:=by omega
   subst this;exact h.inc i hj
theorem Sm.le (h:Sm L now f){i j:Nat}(hij:i≤j)(hj:j<L.length):tA L i≤tA L j:=by
 rcases Nat.lt_or_ge i j with h1|h1
 ·exact Int.le_of_lt (h.lt h1 hj)
 ·have:i=j:=by omega
  subst this;exact Int.le_refl _
theorem Sm.Cf (h:Sm L now f){i:Nat}(hi:i<L.length):now≤tA L i:=by
 rw[←h.hd];exact h.le (Nat.zero_le _) hi
theorem Sm.RG (h:Sm L now f){i j:Nat}(hi:i<L.length)(_hj:j<L.length)(hlt:tA L i<tA L j):i<j:=by
 rcases Nat.lt_or_ge i j with h1|h1
 ·exact h1
 ·have:=h.le h1 hi;omega
theorem jV.yP (h:Sm L now f){t:Int}{i:Nat}(hi:jV L t i)(hn:now≤t):tA L i≤t:=by
 rcases Nat.eq_zero_or_pos i with h0|h0
 ·subst h0;rw[h.hd];exact hn
 ·exact hi.le h0
theorem jV.val (h:Sm L now f){t:Int}{i:Nat}(hi:jV L t i)(hn:now≤t):f t=tV L i:=h.rep i t hi.lt (hi.yP h hn) hi.nx
theorem Sm.ix (h:Sm L now f)(t:Int):∃i,jV L t i:=by
 have key:∀k,k≤L.length→(∃i,jV L t i)∨(∀j,j<L.length→L.length-k≤j→t<tA L j):=by
  intro k
  induction k with
  |zero=>intro _;exact .inr fun j _ hk=>by omega
  |succ k ih=>
   intro hk;rcases ih (by omega)with h1|h1
   ·exact .inl h1
   ·by_cases hle:tA L (L.length-(k+1))≤t
    ·exact .inl ⟨L.length-(k+1),by omega,fun _=>hle,fun hx=>h1 _ hx (by omega)⟩
    ·refine .inr fun j hj hjk=>?_;rcases Nat.lt_or_ge j (L.length-k)with h2|h2
     ·have:j=L.length-(k+1):=by omega
      subst this;omega
     ·exact h1 j hj h2
 rcases key L.length (qaf _)with h1|h1
 ·exact h1
 ·exact⟨0,h.pos,fun h=>by omega,fun hx=>h1 1 hx (by omega)⟩
theorem Can.uniq {L':List (Int×Int)}{g:Int→Int}(h:Can L now f)(h':Can L' now g)(hfg:∀t,now≤t→f t=g t):L=L':=by
 have half:∀{L L':List (Int×Int)} {f g:Int→Int},Can L now f→Can L' now g→(∀t,now≤t→f t=g t)→∀i,(∀j,j≤i→j<L.length∧j<L'.length∧tA L j=tA L' j∧tV L j=tV L' j)→i+1<L.length→i+1<L'.length∧tA L' (i+1)≤tA L (i+1):=by
  intro L L' f g h h' hfg i hi hlt;obtain⟨h1,h2,ea,ev⟩:=hi i (qaf _);have aak:=h.sm.inc i hlt;have fK:=h.sm.Cf h1;have v1:=h.sm.rep (i+1) (tA L (i+1)) hlt (Int.le_refl _) (fun hx=>h.sm.inc (i+1) hx);have hne:=h.alt i hlt (fun x=>x);have hf:=hfg (tA L (i+1)) (by omega);by_cases hx:i+1<L'.length
  ·refine⟨hx,?_⟩;rcases Int.lt_or_le (tA L (i+1)) (tA L' (i+1))with h3|h3
   ·have v2:=h'.sm.rep i (tA L (i+1)) h2 (by omega) (fun _=>h3);exact absurd (by omega) hne
   ·exact h3
  ·have v2:=h'.sm.rep i (tA L (i+1)) h2 (by omega) (fun hy=>absurd hy hx);exact absurd (by omega) hne
 have all:∀i,(i<L.length→i<L'.length∧tA L i=tA L' i∧tV L i=tV L' i)∧(i<L'.length→i<L.length):=by
  intro i
  induction i using Nat.strongRecOn with
  |_ i ih=>
   rcases i with _|i
   ·refine⟨fun _=>⟨h'.sm.pos,by rw[h.sm.hd,h'.sm.hd],?_⟩,fun _=>h.sm.pos⟩;have v1:=h.sm.rep 0 now h.sm.pos (by rw[h.sm.hd];exact Int.le_refl _) (fun hx=>by have:=h.sm.inc 0 hx;rw[h.sm.hd]at this;exact this);have v2:=h'.sm.rep 0 now h'.sm.pos (by rw[h'.sm.hd];exact Int.le_refl _) (fun hx=>by have:=h'.sm.inc 0 hx;rw[h'.sm.hd]at this;exact this);have:=hfg now (Int.le_refl _);omega
   ·have both:i+1<L.length∨i+1<L'.length→∀j,j≤i→j<L.length∧j<L'.length∧tA L j=tA L' j∧tV L j=tV L' j:=by
     intro hor j hj;obtain⟨a,b⟩:=ih j (by omega);have hl:j<L.length:=by
      rcases hor with h1|h1
      ·omega
      ·exact b (by omega)
     obtain⟨c,d,e⟩:=a hl;exact⟨hl,c,d,e⟩
    have both':i+1<L.length∨i+1<L'.length→∀j,j≤i→j<L'.length∧j<L.length∧tA L' j=tA L j∧tV L' j=tV L j:=by
     intro hor j hj;obtain⟨a,b,c,d⟩:=both hor j hj;exact⟨b,a,c.symm,d.symm⟩
    refine⟨fun hlt=>?_,fun hlt=>(half h' h (fun t ht=>(hfg t ht).symm) i (both' (.inr hlt)) hlt).1⟩;obtain⟨h1,h2⟩:=half h h' hfg i (both (.inl hlt)) hlt;obtain⟨_,h3⟩:=half h' h (fun t ht=>(hfg t ht).symm) i (both' (.inl hlt)) h1;have ea:tA L (i+1)=tA L' (i+1):=by omega
    refine⟨h1,ea,?_⟩;have v1:=h.sm.rep (i+1) (tA L (i+1)) hlt (Int.le_refl _) (fun hx=>h.sm.inc (i+1) hx);have v2:=h'.sm.rep (i+1) (tA L (i+1)) h1 (by omega) (fun hx=>by rw[ea];exact h'.sm.inc (i+1) hx);have hge:=h.sm.Cf hlt;have:=hfg (tA L (i+1)) hge;omega
 apply List.ext_getElem?;intro i;by_cases hi:i<L.length
 ·obtain⟨hl,ea,ev⟩:=(all i).1 hi;simp only[tA,tV,List.getD_eq_getElem?_getD,List.getElem?_eq_getElem hi,List.getElem?_eq_getElem hl,Option.getD_some]at ea ev;rw[List.getElem?_eq_getElem hi,List.getElem?_eq_getElem hl];congr 1;exact Prod.ext ea ev
 ·have hl:¬i<L'.length:=fun hl=>hi ((all i).2 hl);rw[List.getElem?_eq_none (by omega),List.getElem?_eq_none (by omega)]
theorem Can.congr {g:Int→Int}(h:Can L now f)(hfg:∀t,now≤t→f t=g t):Can L now g:=
 ⟨⟨h.sm.pos,h.sm.hd,h.sm.inc,h.sm.top,fun i t hi ha hn=>by have:=h.sm.Cf hi;rw[←hfg t (by omega)];exact h.sm.rep i t hi ha hn⟩,h.alt⟩
def kZ (L:List (Int×Int))(k:Nat)(x:Int×Int):List (Int×Int):=L.take k++x::L.drop k
def tJ (L:List (Int×Int))(k:Nat):List (Int×Int):=L.take k++L.drop (k+1)
theorem qw {k:Nat}{x:Int×Int}(hk:k≤L.length):(kZ L k x).length=L.length+1:=by simp[kZ];omega
theorem uw {k:Nat}(hk:k<L.length):(tJ L k).length=L.length-1:=by simp[tJ];omega
theorem Co {k:Nat}{x:Int×Int}(hk:k≤L.length)(m:Nat)(d:Int×Int):(kZ L k x).getD m d=if m<k then L.getD m d else if m=k then x else L.getD (m-1) d:=by
 simp only[kZ,List.getD_eq_getElem?_getD];have hl:(L.take k).length=k:=by rw[List.length_take];omega
 by_cases h1:m<k
 ·rw[qaj h1,List.getElem?_append_left (by omega),List.getElem?_take,qaj h1]
 ·rw[qai h1,List.getElem?_append_right (by omega),hl];by_cases h2:m=k
  ·subst h2;simp
  ·rw[qai h2];obtain⟨q,hq⟩:∃q,m-k=q+1:=⟨m-k-1,by omega⟩;rw[hq,List.getElem?_cons_succ,List.getElem?_drop];congr 2;omega
theorem Cq {k:Nat}(hk:k<L.length)(m:Nat)(d:Int×Int):(tJ L k).getD m d=if m<k then L.getD m d else L.getD (m+1) d:=by
 simp only[tJ,List.getD_eq_getElem?_getD];have hl:(L.take k).length=k:=by rw[List.length_take];omega
 by_cases h1:m<k
 ·rw[qaj h1,List.getElem?_append_left (by omega),List.getElem?_take,qaj h1]
 ·rw[qai h1,List.getElem?_append_right (by omega),hl,List.getElem?_drop];congr 2;omega
theorem Cg {k:Nat}{x:Int×Int}(hk:k≤L.length)(m:Nat):tA (kZ L k x) m=if m<k then tA L m else if m=k then x.1 else tA L (m-1):=by
 simp only[tA,Co hk];split;·rfl
 ·split<;>rfl
theorem Oy {k:Nat}{x:Int×Int}(hk:k≤L.length)(m:Nat):tV (kZ L k x) m=if m<k then tV L m else if m=k then x.2 else tV L (m-1):=by
 simp only[tV,Co hk];split;·rfl
 ·split<;>rfl
theorem GD {k:Nat}(hk:k<L.length)(m:Nat):tA (tJ L k) m=if m<k then tA L m else tA L (m+1):=by
 simp only[tA,Cq hk];split<;>rfl
theorem Oz {k:Nat}(hk:k<L.length)(m:Nat):tV (tJ L k) m=if m<k then tV L m else tV L (m+1):=by
 simp only[tV,Cq hk];split<;>rfl
theorem Sm.ins (h:Sm L now f){t:Int}{i:Nat}(hi:jV L t i)(hn:now≤t)(hne:tA L i≠t)(ht:t<1152921504606846976):Sm (kZ L (i+1) (t,tV L i)) now f:=by
 have hik:=hi.lt;have hk:i+1≤L.length:=by omega
 have hle:=hi.yP h hn;have hl:=qw (x:=(t,tV L i)) hk;have A:=Cg (x:=(t,tV L i)) hk;have V:=Oy (x:=(t,tV L i)) hk;refine⟨by omega,?_,?_,?_,?_⟩
 ·rw[A,qaj (by omega),h.hd]
 ·intro m hm;rw[A,A];rcases(by omega:m+1<i+1∨m=i∨m=i+1∨i+1<m)with h1|h1|h1|h1
  ·rw[qaj (by omega),qaj h1];exact h.inc m (by omega)
  ·subst h1;rw[qaj (by omega),qai (by omega),qaj rfl];show tA L m<t;omega
  ·subst h1;rw[qai (by omega),qaj rfl,qai (by omega),qai (by omega)];exact hi.nx (by omega)
  ·rw[qai (by omega),qai (by omega),qai (by omega),qai (by omega)];have:=h.inc (m-1) (by omega);rw[show m-1+1=m by omega]at this;rw[show m+1-1=m by omega];exact this
 ·intro m hm;rw[A];split
  ·exact h.top m (by omega)
  ·split
   ·exact ht
   ·exact h.top (m-1) (by omega)
 ·intro m u hm hle2 hnx;rw[A]at hle2;rw[V];rcases(by omega:m+1<i+1∨m=i∨m=i+1∨i+1<m)with h1|h1|h1|h1
  ·rw[qaj (by omega)]at hle2⊢;refine h.rep m u (by omega) hle2 fun hx=>?_;have:=hnx (by omega);rw[A,qaj h1]at this;exact this
  ·subst h1;rw[qaj (by omega)]at hle2⊢;have h2:=hnx (by omega);rw[A,qai (by omega),qaj rfl]at h2;have h2:u<t:=h2;exact h.rep m u (by omega) hle2 fun hx=>by have:=hi.nx hx;omega
  ·subst h1;rw[qai (by omega),qaj rfl]at hle2⊢;have hle2:t≤u:=hle2;refine h.rep i u hik (by omega) fun hx=>?_;have:=hnx (by omega);rw[A,qai (by omega),qai (by omega)]at this;exact this
  ·rw[qai (by omega),qai (by omega)]at hle2⊢;refine h.rep (m-1) u (by omega) hle2 fun hx=>?_;have:=hnx (by omega);rw[A,qai (by omega),qai (by omega)]at this;rw[show m-1+1=m+1-1 by omega];exact this
theorem lH.ins {X Y:Int→Prop}{t:Int}{i:Nat}(h:lH L X)(hik:i<L.length)(hX:∀s,X s→Y s)(ht:Y t):lH (kZ L (i+1) (t,tV L i)) Y:=by
 have hk:i+1≤L.length:=by omega
 have hl:=qw (x:=(t,tV L i)) hk;have A:=Cg (x:=(t,tV L i)) hk;have V:=Oy (x:=(t,tV L i)) hk;intro m hm hY;rw[A]at hY;rw[V,V];rcases(by omega:m+1<i+1∨m=i∨m=i+1∨i+1<m)with h1|h1|h1|h1
 ·rw[qaj h1]at hY;rw[qaj (by omega),qaj h1];exact h m (by omega) fun hx=>hY (hX _ hx)
 ·subst h1;rw[qai (by omega),qaj rfl]at hY;exact absurd ht hY
 ·subst h1;rw[qai (by omega),qai (by omega)]at hY;rw[qai (by omega),qaj rfl,qai (by omega),qai (by omega)];exact h i (by omega) fun hx=>hY (hX _ hx)
 ·rw[qai (by omega),qai (by omega)]at hY;rw[qai (by omega),qai (by omega),qai (by omega),qai (by omega)];have:=h (m-1) (by omega);rw[show m-1+1=m by omega]at this;rw[show m+1-1=m by omega]at hY⊢;exact this fun hx=>hY (hX _ hx)
theorem Sm.del (h:Sm L now f){j:Nat}(hj0:0<j)(hj:j<L.length)(hv:tV L j=tV L (j-1)):Sm (tJ L j) now f:=by
 have hl:=uw hj;have A:=GD hj;have V:=Oz hj;refine⟨by omega,?_,?_,?_,?_⟩
 ·rw[A,qaj hj0,h.hd]
 ·intro m hm;rw[A,A];rcases(by omega:m+1<j∨m+1=j∨j≤m)with h1|h1|h1
  ·rw[qaj (by omega),qaj h1];exact h.inc m (by omega)
  ·rw[qaj (by omega),qai (by omega)];exact h.lt (by omega) (by omega)
  ·rw[qai (by omega),qai (by omega)];exact h.inc (m+1) (by omega)
 ·intro m hm;rw[A];split
  ·exact h.top m (by omega)
  ·exact h.top (m+1) (by omega)
 ·intro m u hm hle hnx;rw[A]at hle;rw[V];rcases(by omega:m+1<j∨m+1=j∨j≤m)with h1|h1|h1
  ·rw[qaj (by omega)]at hle⊢;refine h.rep m u (by omega) hle fun hx=>?_;have:=hnx (by omega);rw[A,qaj h1]at this;exact this
  ·subst h1;rw[qaj (by omega)]at hle⊢;by_cases hu:u<tA L (m+1)
   ·exact h.rep m u (by omega) hle fun _=>hu
   ·rw[show m=m+1-1 by omega,←hv];refine h.rep (m+1) u (by omega) (by omega) fun hx=>?_;have:=hnx (by omega);rw[A,qai (by omega)]at this;exact this
  ·rw[qai (by omega)]at hle⊢;refine h.rep (m+1) u (by omega) hle fun hx=>?_;have:=hnx (by omega);rw[A,qai (by omega)]at this;exact this
theorem lH.del {X Y:Int→Prop}{j:Nat}(h:lH L X)(hj0:0<j)(hj:j<L.length)(hv:tV L j=tV L (j-1))(hX:∀s,X s→Y s∨s=tA L j)(hs:∀m,j<m→m<L.length→tA L j≠tA L m)(hs2:∀m,m<j→tA L m≠tA L j):lH (tJ L j) Y:=by
 have hl:=uw hj;have A:=GD hj;have V:=Oz hj;intro m hm hY;rw[A]at hY;rw[V,V];rcases(by omega:m+1<j∨m+1=j∨j≤m)with h1|h1|h1
 ·rw[qaj h1]at hY;rw[qaj (by omega),qaj h1];refine h m (by omega) fun hx=>?_;rcases hX _ hx with h2|h2
  ·exact hY h2
  ·exact hs2 _ h1 h2
 ·rw[qai (by omega)]at hY;rw[qaj (by omega),qai (by omega)];have:=h (m+1) (by omega);rw[show m=j-1 by omega,←hv,show j=m+1 by omega];rw[show m+1-1=m by omega];refine this fun hx=>?_;rcases hX _ hx with h2|h2
  ·exact hY h2
  ·exact hs _ (by omega) (by omega) h2.symm
 ·rw[qai (by omega)]at hY;rw[qai (by omega),qai (by omega)];refine h (m+1) (by omega) fun hx=>?_;rcases hX _ hx with h2|h2
  ·exact hY h2
  ·exact hs _ (by omega) (by omega) h2.symm
structure Ch (L L' : List (Int × Int)) (i j : Nat) (n : Int) : Prop where
 len:L'.length=L.length
 a:∀m,tA L' m=tA L m
 v:∀m,m<L.length→tV L' m=tV L m+(if i≤m∧m<j then n else 0)
def had (a b n t:Int):Int:=if a≤t∧(t<b∨b=1152921504606846976)then n else 0
theorem Sm.raise {L':List (Int×Int)}{i j:Nat}{n a b:Int}(h:Sm L now f)(hr:Ch L L' i j n)(hi:i<L.length)(ha:tA L i=a)
 (hj:(j<L.length∧tA L j=b)∨(j=L.length∧b=1152921504606846976)):Sm L' now (fun t=>f t+had a b n t):=by
 refine⟨by rw[hr.len];exact h.pos,by rw[hr.a];exact h.hd,fun m hm=>by rw[hr.a,hr.a];rw[hr.len]at hm;exact h.inc m hm,fun m hm=>by rw[hr.a];rw[hr.len]at hm;exact h.top m hm,fun m t hm hle hnx=>?_⟩;rw[hr.len]at hm hnx;rw[hr.a]at hle hnx;rw[hr.v m hm];show f t+had a b n t=_;rw[h.rep m t hm hle hnx];congr 1;unfold had;have h1:a≤t↔i≤m:=by
  constructor
  ·intro h1;rcases Nat.lt_or_ge m i with h2|h2
   ·have h3:=h.le (i:=m+1) (j:=i) (by omega) hi;have:=hnx (by omega);omega
   ·exact h2
  ·intro h1;have:=h.le h1 hm;omega
 have h2:(t<b∨b=1152921504606846976)↔m<j:=by
  rcases hj with⟨hj,hb⟩|⟨hj,hb⟩
  ·have htop:=h.top j hj;constructor
   ·intro h1;rcases Nat.lt_or_ge m j with h2|h2
    ·exact h2
    ·have:=h.le h2 hm;omega
   ·intro h1;have h3:=h.le (i:=m+1) (j:=j) (by omega) hj;have:=hnx (by omega);exact .inl (by omega)
  ·exact⟨fun _=>by omega,fun _=>.inr hb⟩
 by_cases hc:i≤m∧m<j
 ·rw[qaj hc,qaj ⟨h1.2 hc.1,h2.2 hc.2⟩]
 ·rw[qai hc,qai fun hx=>hc ⟨h1.1 hx.1,h2.1 hx.2⟩]
theorem lH.raise {L':List (Int×Int)}{i j:Nat}{n a b:Int}{X Y:Int→Prop}(h:lH L X)(hr:Ch L L' i j n)(ha:tA L i=a)
 (hj:(j<L.length∧tA L j=b)∨(j=L.length∧b=1152921504606846976)) (hX:∀s,X s→Y s) (hY1:Y a) (hY2:Y b):lH L' Y:=by
 intro m hm hY;rw[hr.len]at hm;rw[hr.a]at hY;have h0:=h m hm fun hx=>hY (hX _ hx);rw[hr.v m (by omega),hr.v (m+1) hm];have e1:m+1≠i:=fun e=>by rw[e,ha]at hY;exact hY hY1
 have e2:m+1≠j:=fun e=>by
  rcases hj with⟨hj,hb⟩|⟨hj,hb⟩
  ·rw[e,hb]at hY;exact hY hY2
  ·omega
 by_cases hc:i≤m∧m<j
 ·rw[qaj hc,qaj (by omega)];omega
 ·rw[qai hc,qai (by omega)];omega
theorem Can.later {L':List (Int×Int)}{k:Nat}{t:Int}(h:Can L now f)(hk:jV L t k)(hn:now≤t)(ht:t<1152921504606846976)(hl:L'.length=L.length-k)(h0:tA L' 0=t)(ha:∀m,0<m→tA L' m=tA L (m+k))(hv:∀m,tV L' m=tV L (m+k)):Can L' t f:=by
 have hkl:=hk.lt;have hle:=hk.yP h.sm hn;refine⟨⟨by omega,h0,fun m hm=>?_,fun m hm=>?_,fun m u hm hle2 hnx=>?_⟩,fun m hm _=>?_⟩
 ·rw[ha (m+1) (by omega)];rcases Nat.eq_zero_or_pos m with h1|h1
  ·subst h1;rw[h0,show 0+1+k=k+1 by omega];exact hk.nx (by omega)
  ·rw[ha m h1,show m+1+k=m+k+1 by omega];exact h.sm.inc (m+k) (by omega)
 ·rcases Nat.eq_zero_or_pos m with h1|h1
  ·subst h1;rw[h0];exact ht
  ·rw[ha m h1];exact h.sm.top (m+k) (by omega)
 ·rw[hv];refine h.sm.rep (m+k) u (by omega) ?_ fun hx=>?_
  ·rcases Nat.eq_zero_or_pos m with h1|h1
   ·subst h1;rw[h0]at hle2;rw[show 0+k=k by omega];omega
   ·rw[ha m h1]at hle2;exact hle2
  ·have:=hnx (by omega);rw[ha (m+1) (by omega)]at this;rw[show m+k+1=m+1+k by omega];exact this
 ·rw[hv,hv,show m+1+k=m+k+1 by omega];exact h.alt (m+k) (by omega) (fun x=>x)
end
structure BL (f : Int → Int) (lo hi m : Int) : Prop where
 le:m≤64
 all:∀t,lo≤t→t<hi→m≤f t
 one:m=64∨∃t,lo≤t∧t<hi∧f t=m
section
end
def Cr (j:Jb):List Int:=(if j.st=3 then[j.fin]else[])++(if ay j=true then[j.aW,j.aW+j.lim]else[])
def sS (L:List Jb):List Int:=L.flatMap Cr
theorem Je (j:Jb):(Cr j).length≤2:=by
 unfold Cr;by_cases h3:j.st=3
 ·have:ay j=false:=by unfold ay;rw[qah (by omega)];rfl
  simp[h3,this]
 ·rw[qai h3];by_cases hp:ay j=true
  ·rw[qaj hp];simp
  ·rw[qai hp];simp
theorem Jf (L:List Jb):(sS L).length≤2*L.length:=by
 induction L with
 |nil=>simp[sS]
 |cons j L ih=>
  have h1:=Je j;have:sS (j::L)=Cr j++sS L:=by simp[sS]
  rw[this,List.length_append,List.length_cons];omega
def l9 (E:List Int)(last b:Int):Prop:=(b<0∧∀t∈E,t≤last)∨(0≤b∧last<b∧b∈E∧∀t∈E,last<t→b≤t)
theorem iY {E:List Int}{last b t:Int}(hl:0≤last)(h:l9 E last b):l9 (E++[t]) last (fQ b t last):=by
 unfold fQ;by_cases hc:last<t∧(b<0∨t<b)
 ·rw[qaj hc];refine .inr ⟨by omega,hc.1,by simp,fun u hu WU=>?_⟩;rw[List.mem_append,List.mem_singleton]at hu;rcases hu with hu|rfl
  ·rcases h with⟨_,h2⟩|⟨_,_,_,h4⟩
   ·have:=h2 u hu;omega
   ·have:=h4 u hu WU;omega
  ·omega
 ·rw[qai hc];rcases h with⟨h1,h2⟩|⟨h1,h2,h3,h4⟩
  ·refine .inl ⟨h1,fun u hu=>?_⟩;rw[List.mem_append,List.mem_singleton]at hu;rcases hu with hu|rfl
   ·exact h2 u hu
   ·omega
  ·refine .inr ⟨h1,h2,by simp[h3],fun u hu WU=>?_⟩;rw[List.mem_append,List.mem_singleton]at hu;rcases hu with hu|rfl
   ·exact h4 u hu WU
   ·omega
theorem GG {E:List Int}{last b:Int}(hl:0≤last)(h:l9 E last b)(j:Jb):l9 (E++Cr j) last (qR last b j):=by
 unfold qR Cr;by_cases h3:j.st=3
 ·have hp:ay j=false:=by unfold ay;rw[qah (by omega)];rfl
  simp only[h3,hp,if_true,Bool.false_eq_true,if_false,List.append_nil];exact iY hl h
 ·simp only[h3,if_false,xD];by_cases hp:ay j=true
  ·simp only[hp,if_true];have:=iY (t:=j.aW+j.lim) hl (iY (t:=j.aW) hl h);rw[List.append_assoc]at this;exact this
  ·simp only[hp,Bool.false_eq_true,if_false,List.append_nil];exact h
theorem GH {L:List Jb}{E:List Int}{last b:Int}(hl:0≤last)(h:l9 E last b):l9 (E++sS L) last (L.foldl (qR last) b):=by
 induction L generalizing E b with
 |nil=>simpa[sS]using h
 |cons j L ih=>
  have:=ih (GG hl h j);rw[List.append_assoc]at this;exact this
theorem qy (L:List Jb){last:Int}(hl:0≤last):l9 (sS L) last (jB L last):=by
 have:=GH (L:=L) (E:=[]) (b:= -1) hl (.inl ⟨by omega,fun t ht=>by cases ht⟩);simpa[jB]using this
theorem qW (L:List Jb){n:Nat}{last:Int}(hl:0≤last):∀t∈timesGo L n last,last<t∧t∈sS L:=by
 induction n generalizing last with
 |zero=>intro t ht;cases ht
 |succ n ih=>
  intro t ht;unfold timesGo at ht;have hb:=qy L hl;by_cases h:jB L last<0
  ·rw[qaj h]at ht;cases ht
  ·rw[qai h]at ht;rcases hb with⟨h1,_⟩|⟨h1,h2,h3,_⟩
   ·exact absurd h1 h
   ·rcases List.mem_cons.1 ht with rfl|ht
    ·exact⟨h2,h3⟩
    ·have:=ih (by omega) t ht;exact⟨by omega,this.2⟩
theorem BR (L:List Jb){n:Nat}{last:Int}(hl:0≤last):(timesGo L n last).Pairwise (· < ·):=by
 induction n generalizing last with
 |zero=>exact List.Pairwise.nil
 |succ n ih=>
  unfold timesGo;have hb:=qy L hl;by_cases h:jB L last<0
  ·rw[qaj h];exact List.Pairwise.nil
  ·rw[qai h];have h0:0≤jB L last:=by omega
   exact List.Pairwise.cons (fun t ht=>(qW L h0 t ht).1) (ih h0)
theorem GI (L:List Jb){n:Nat}{last:Int}(hl:0≤last)(hn:((sS L).filter fun t=>decide (last<t)).length≤n):∀t∈sS L,last<t→t∈timesGo L n last:=by
 induction n generalizing last with
 |zero=>
  intro t ht hlt;have:t∈(sS L).filter fun t=>decide (last<t):=List.mem_filter.2 ⟨ht,by simpa using hlt⟩;have:=List.length_pos_of_mem this;omega
 |succ n ih=>
  intro t ht hlt;unfold timesGo;have hb:=qy L hl;rcases hb with⟨h1,h2⟩|⟨h1,h2,h3,h4⟩
  ·have:=h2 t ht;omega
  ·rw[qai (by omega)];rcases Int.lt_or_le (jB L last) t with h5|h5
   ·refine List.mem_cons_of_mem _ (ih h1 ?_ t ht h5);have hlt2:((sS L).filter fun u=>decide (jB L last<u)).length<((sS L).filter fun u=>decide (last<u)).length:=by
     have hs:((sS L).filter fun u=>decide (jB L last<u))=((sS L).filter fun u=>decide (last<u)).filter fun u=>decide (jB L last<u):=by
      rw[List.filter_filter];refine List.filter_congr fun u _=>?_;by_cases h6:jB L last<u
      ·have:last<u:=by omega
       simp[h6,this]
      ·simp[h6]
     rw[hs];refine Nat.lt_of_le_of_ne (List.length_filter_le _ _) fun he=>?_;have:=List.length_filter_eq_length_iff.1 he (jB L last) (List.mem_filter.2 ⟨h3,by simpa using h2⟩);simp at this
    omega
   ·have:=h4 t ht hlt;have:t=jB L last:=by omega
    rw[this];exact List.mem_cons_self
theorem vH {M:Md}(h0:0≤M.now)(t:Int):t∈jq M↔t=M.now∨(M.now<t∧t∈sS M.L):=by
 unfold jq;rw[List.mem_cons];constructor
 ·rintro(h|h)
  ·exact .inl h
  ·exact .inr (qW M.L h0 t h)
 ·rintro(h|⟨h1,h2⟩)
  ·exact .inl h
  ·exact .inr (GI M.L h0 (Nat.le_trans (List.length_filter_le _ _) (Jf M.L)) t h2 h1)
theorem Cs {M:Md}(h0:0≤M.now):(jq M).Pairwise (· < ·):=
 List.Pairwise.cons (fun t ht=>(qW M.L h0 t ht).1) (BR M.L h0)
def encI (x:Int):List Value:=[.int .i64 x]
theorem WV :(prog.info? 2).map (fun i=>(i.zero,i.size,i.bytes))=some (some (.int .i64 0),1,8):=by kernel_rfl
def si (w:World)(B:Nat)(v:Value)(l:List Int):Prop:=Buf w B 2 1 v l.length (l.map (.int .i64))
theorem LP (l:List Int):l.map (Value.int .i64)=l.flatMap encI:=by
 induction l with
 |nil=>rfl
 |cons a l ih=>rw[List.map_cons,List.flatMap_cons,ih];rfl
theorem si.below {w w':World}{B:Nat}{v:Value}{l:List Int}(h:si w B v l)(hb:Below w.heap.size w w'):si w' B v l:=by
 rcases h with h|⟨a,rfl,h1,h2⟩
 ·exact .inl (Put.gN h hb)
 ·exact .inr ⟨a,rfl,h1,fun j u hj=>by
   have:=h2 j u hj;rw[Below.cell hb (World.block_lt_of_cell? w _ this)];exact this⟩
theorem si.at {w:World}{B:Nat}{v:Value}{l:List Int}(h:si w B v l)(hl:0<l.length):∃b off cap,v=.slice (some ⟨b,off,none⟩) l.length cap∧l.length≤cap∧b<w.heap.size∧∀i,i<l.length→w.cell? ⟨b,off+i,none⟩=some (.int .i64 (l.getD i 0)):=by
 rcases h with⟨h1,h|⟨g,cap,cur,rfl,hg,hh,hn,hm,hs,ht⟩⟩|⟨⟨b,off,sp⟩,rfl,h1,h2⟩
 ·omega
 ·refine⟨g,0,cap,rfl,hn,ai hh,fun i hi=>?_⟩;have hx:=World.ownsRow.cells (v:=.slice (some ⟨g,0,none⟩) l.length cap) (n:=l.length) (xs:=l.map (.int .i64)) ⟨h1,.inr ⟨g,cap,cur,rfl,hg,hh,hn,hm,hs,ht⟩⟩ rfl i (.int .i64 (l.getD i 0)) (by simp[hi]);rw[Addr.add_lit]at hx;exact hx
 ·have h0:=h2 0 (.int .i64 (l.getD 0 0)) (by simp[hl]);have hsp:sp=Option.none:=by simpa[Addr.add]using World.cell?_spot h0
  subst hsp;refine⟨b,off,_,rfl,qaf _,?_,fun i hi=>?_⟩
  ·rw[Go.WideShapes.add_plain]at h0;exact World.block_lt_of_cell? w ⟨b,_,none⟩ h0
  ·have h3:=h2 i (.int .i64 (l.getD i 0)) (by simp[hi]);rw[Go.WideShapes.add_plain]at h3;exact h3
theorem si.row {w:World}{B:Nat}{v:Value}{l:List Int}(h:si w B v l)(hl:0<l.length)(hmax:l.length≤100000):aL encI 1 w v l:=by
 rcases h with h|⟨a,rfl,h1,h2⟩
 ·exact aL.iB h (fun _=>rfl) (LP l) rfl
 ·obtain⟨b,off,cap,hv,_,hb,hc⟩:=si.at (B:=0) (.inr ⟨a,rfl,h1,h2⟩) hl;cases hv;refine⟨some ⟨b,off,none⟩,l.length,rfl,qaf _,by unfold maxLen;omega,fun _=>⟨b,off,rfl,hb,fun i s j u hi hj=>?_⟩⟩;have hil:i<l.length:=(List.getElem?_eq_some_iff.1 hi).1;have hj0:j=0:=by
   have:=(List.getElem?_eq_some_iff.1 hj).1;simp[encI]at this;exact this
  subst hj0;have hu:u=.int .i64 s:=by simpa[encI]using hj.symm
  have:=hc i hil;rw[hu];simp only[Nat.mul_one,Nat.add_zero];rw[this];simp[List.getD,hi]
theorem Jg {L:List Jb}{i:Nat}(hi:i<L.length)(last:Int):(L.take (i+1)).foldl (qR last) (-1)=qR last ((L.take i).foldl (qR last) (-1)) (L.getD i default):=by
 rw[List.take_succ_eq_append_getElem hi,List.foldl_append];simp[List.getD,hi]
theorem yQ (L:List Jb)(n:Nat)(last:Int):(timesGo L n last).length≤n:=by
 induction n generalizing last with
 |zero=>simp[timesGo]
 |succ n ih=>
  unfold timesGo;split
  ·simp
  ·have:=ih (jB L last);rw[List.length_cons];omega
section
variable {w w' : World} {p : Nat} {dv lv : Value} {M : Md}
theorem Fh (h:MR w p dv lv M)(hb:MB M):Calls prog 49 #[.pointer (some ⟨p,0,none⟩)] w fun e w'=>∃v,e=.returned v∧aL encI 1 w' v (jq M)∧Below w.heap.size w w':=by
 obtain⟨i0,hi0,hz0,hz1,hz2⟩:=info_parts WV;have hM:=qae h;have hB:=qae hb;have hll:=hb.ll;have fK:=hb.now;obtain⟨n,hn⟩:=qaa (M.L.length);rw[←hn]at hll;have c0:=h.c0;obtain⟨T,hT⟩:=qaa (M.now);rw[←hT]at c0 fK;have WW:jq M=T::timesGo M.L (2*n) T:=by rw[hT,hn];rfl
 have WX:=yQ M.L (2*n) T;rw[WW];generalize hG:timesGo M.L (2*n) T=G at*;replace hG:=qae hG;replace hn:=qae hn;replace hT:=qae hT;replace WW:=qae WW;clear h hb;go_enter func49,ntmps49;go_wp2_with fail;obtain⟨w0,hw0⟩:=qaa (w.alloc (.cells #[.int .i64 T] 2));have hb0:Hid (Below w.heap.size w w0):=by show Below _ _ _;rw[hw0];exact qac.alloc (qaf _) _
 have We:si w0 w.heap.size (.slice (some ⟨w.heap.size,0,none⟩) 1 1) [T]:=by
  refine .inr ⟨⟨w.heap.size,0,none⟩,rfl,rfl,fun j u hj=>?_⟩;rw[hw0];exact cell_one_new _ _ _ j u hj
 rw[←hw0];replace hw0:=qae hw0;go_loopw [3,4] (fun oo kk wr=>∃(k:Nat) (tl:List Int) (last:Int),k≤2*n∧tl.length=k∧kk=.int .i64 k∧0≤last∧(T::tl).getD k 0=last∧si wr w.heap.size oo (T::tl)∧Hid (G=tl++timesGo M.L (2*n-k) last)∧Hid (Below w.heap.size w wr)) (fun _ kk _=>2*n-(intOf kk).toNat)
 case atStart=>exact⟨0,[],T,Nat.zero_le _,rfl,rfl,fK.1,rfl,We,hG.out.symm,hb0⟩
 case round=>
  obtain⟨k,tl,last,hk,htl,rfl,U8,hlast,hbuf,WY,hbw⟩:=hrel;clear We c0 hb0;have iU:=hM.out.below hbw.out;obtain⟨dI,cap2,hlv,hl1,Yr⟩:=hM.out.js.shape;rw[←hn.out]at hlv hl1;have c2:=iU.c2;rw[hlv]at c2;have wm:IntKind.i64.wrap (2*(n:Int))=2*(n:Int):=by rw[IntKind.wrap_i64];omega
  obtain⟨b4,nH,cap4,rfl,hcap4,hb4,hcell⟩:=hbuf.at (by simp);have hlen:(T::tl).length=k+1:=by rw[List.length_cons,htl]
  have hck:=hcell k (by rw[hlen];omega);rw[hlast]at hck;rw[hlen]at hbuf hcap4⊢;by_cases hlt:k<2*n
  ·have b2:(k:Int)<2*(n:Int):=by omega
   have wi:IntKind.i64.wrap ((k:Int)+1)=(k:Int)+1:=by rw[IntKind.wrap_i64];omega
   have hbs:w.heap.size≤wr.heap.size:=hbw.out.size;replace hbuf:=qae hbuf;clear hcell hlast iU;obtain⟨wq,rfl⟩:=qaa (wr);go_wp2_with fail;go_loopw [6,7] (fun bb ii wr=>∃i:Nat,i≤n∧bb=.int .i64 ((M.L.take i).foldl (qR last) (-1))∧ii=.int .i64 i∧Hid (Below wq.heap.size wq wr)) (fun _ ii _=>n-(intOf ii).toNat)
   case atStart=>exact⟨0,Nat.zero_le _,rfl,rfl,Below.refl _ _⟩
   case round=>
    obtain⟨i,hi,rfl,rfl,hbz⟩:=hrel;clear c2;have WZ:=hM.out.below (hbw.out.trans (hbz.out.mono hbs));have c2:=WZ.c2;rw[hlv]at c2;by_cases hit:i<n
    ·have b3:(i:Int)<(n:Int):=by omega
     have wi3:IntKind.i64.wrap ((i:Int)+1)=(i:Int)+1:=by rw[IntKind.wrap_i64];omega
     obtain⟨b5,qg,cap5,hv5,_,_,hb5,hc⟩:=WZ.js.mr i (by rw[←hn.out];exact hit);rw[←hn.out,hlv]at hv5;cases hv5;have hmem:=qG (L:=M.L) (i:=i) (by rw[←hn.out];exact hit);have hsucc:=Jg (L:=M.L) (i:=i) (by rw[←hn.out];exact hit) last;have hl4:=hB.out.lim _ hmem;have LM:=hB.out.aW _ hmem;have hsz:wq.heap.size≤wr.heap.size:=hbz.out.size;generalize M.L.getD i default=y at*;obtain⟨x1,x2,x3,x4,x5,x6,x7,x8,x9,x0⟩:=y;have hl4:0≤x4∧x4≤1048576:=hl4;have LM: -1≤x9∧x9≤1099511627776:=LM;have e0:=hc 0 _ rfl;have e1:=hc 1 _ rfl;have e2:=hc 2 _ rfl;have e3:=hc 3 _ rfl;have e4:=hc 4 _ rfl;have e5:=hc 5 _ rfl;have e6:=hc 6 _ rfl;have e7:=hc 7 _ rfl;have e8:=hc 8 _ rfl;have e9:=hc 9 _ rfl;rw[Nat.add_zero]at e0;have hbj:∀b,qR last b (x1,x2,x3,x4,x5,x6,x7,x8,x9,x0)=(if ay (x1,x2,x3,x4,x5,x6,x7,x8,x9,x0)=true then fQ (fQ (if x6=3 then fQ b x8 last else b) x9 last) (x9+x4) last else if x6=3 then fQ b x8 last else b):=fun b=>rfl;rw[hbj]at hsucc;clear hbj;have hpl:=fun W=>pF (x1,x2,x3,x4,x5,x6,x7,x8,x9,x0) W;rw[dP]at hpl;generalize ay (x1,x2,x3,x4,x5,x6,x7,x8,x9,x0)=q at*;have w9:IntKind.i64.wrap (x9+x4)=x9+x4:=by rw[IntKind.wrap_i64];omega
     generalize (M.L.take i).foldl (qR last) (-1)=F at*;have hs1:=fun W=>lG F x8 last W;have hbn:=hbz.out.alloc hsz (.cells #[.int .i64 x1,.int .i64 x2,.int .i64 x3,.int .i64 x4,.int .i64 x5,.int .i64 x6,.int .i64 x7,.int .i64 x8,.int .i64 x9,.int .u64 x0] 55);obtain⟨wn,hwn⟩:=qaa (wr.alloc (.cells #[.int .i64 x1,.int .i64 x2,.int .i64 x3,.int .i64 x4,.int .i64 x5,.int .i64 x6,.int .i64 x7,.int .i64 x8,.int .i64 x9,.int .u64 x0] 55));have hxa:wn.heap[wr.heap.size]? =some (.cells #[.int .i64 x1,.int .i64 x2,.int .i64 x3,.int .i64 x4,.int .i64 x5,.int .i64 x6,.int .i64 x7,.int .i64 x8,.int .i64 x9,.int .u64 x0] 55 (0,0)):=by rw[hwn];exact heap_alloc_new wr _
     rw[←hwn]at hbn;replace hpl:=hpl wn;replace hs1:=hs1 wn;rw[hwn]at hpl hs1;replace hbn:=qae hbn;replace hxa:=qae hxa;have hwz:Hid (wr.heap.size<wn.heap.size):=ai hxa.out;clear hbz WZ hc hmem hl4 LM;by_cases k3:x6=3
     ·subst k3;simp only[if_true]at hsucc;cases q
      ·simp only[Bool.false_eq_true,if_false]at hsucc;replace hsucc:=qae hsucc;go_wp2_with fail;go_at_call 110;refine hs1.mono ?_;clear hs1;rintro e w9 ⟨rfl,rfl⟩;go_wp2_with fail;go_at_call 111;refine hpl.mono ?_;clear hpl e0 e1 e2 e3 e4 e5 e6 e7 e8 e9 c2;rw[←hwn];rintro e w1 ⟨rfl,hb1⟩;have hx1:w1.heap[wr.heap.size]? =_:=(hb1.block _ hwz.out).trans hxa.out;have g3:w1.cell? ⟨wr.heap.size,3,none⟩=some (.int .i64 x4):=by simp[World.cell?,hx1]
       have g8:w1.cell? ⟨wr.heap.size,8,none⟩=some (.int .i64 x9):=by simp[World.cell?,hx1]
       have hbf:Hid (Below wq.heap.size wq w1):=hbn.out.trans (hb1.mono (by have:=hwz.out;omega));replace hwn:=qae hwn;clear hb1 hx1;go_wp2_with fail;go_roundw
       case rel=>exact⟨i+1,by omega,by rw[hsucc.out],by go_num,hbf⟩
       case measure=>simp[intOf];omega
      ·simp only[if_true]at hsucc;replace hsucc:=qae hsucc;go_wp2_with fail;go_at_call 110;refine hs1.mono ?_;clear hs1;rintro e w9 ⟨rfl,rfl⟩;go_wp2_with fail;go_at_call 111;refine hpl.mono ?_;clear hpl e0 e1 e2 e3 e4 e5 e6 e7 e8 e9 c2;rw[←hwn];rintro e w1 ⟨rfl,hb1⟩;have hx1:w1.heap[wr.heap.size]? =_:=(hb1.block _ hwz.out).trans hxa.out;have g3:w1.cell? ⟨wr.heap.size,3,none⟩=some (.int .i64 x4):=by simp[World.cell?,hx1]
       have g8:w1.cell? ⟨wr.heap.size,8,none⟩=some (.int .i64 x9):=by simp[World.cell?,hx1]
       have hbf:Hid (Below wq.heap.size wq w1):=hbn.out.trans (hb1.mono (by have:=hwz.out;omega));replace hwn:=qae hwn;clear hb1 hx1;have hs2:=lG (fQ F x8 last) x9 last w1;have hs3:=lG (fQ (fQ F x8 last) x9 last) (x9+x4) last w1;go_wp2_with fail;go_at_call 110;refine hs2.mono ?_;clear hs2;rintro e w9 ⟨rfl,rfl⟩;go_wp2_with fail;go_at_call 110;refine hs3.mono ?_;clear hs3;rintro e w9 ⟨rfl,rfl⟩;go_wp2_with fail;go_roundw
       case rel=>exact⟨i+1,by omega,by rw[hsucc.out],by go_num,hbf⟩
       case measure=>simp[intOf];omega
     ·have m3:(x6 == 3)=false:=by simp[k3]
      simp only[k3,if_false]at hsucc;cases q
      ·simp only[Bool.false_eq_true,if_false]at hsucc;replace hsucc:=qae hsucc;go_wp2_with fail;go_at_call 111;refine hpl.mono ?_;clear hpl e0 e1 e2 e3 e4 e5 e6 e7 e8 e9 c2;rw[←hwn];rintro e w1 ⟨rfl,hb1⟩;have hx1:w1.heap[wr.heap.size]? =_:=(hb1.block _ hwz.out).trans hxa.out;have g3:w1.cell? ⟨wr.heap.size,3,none⟩=some (.int .i64 x4):=by simp[World.cell?,hx1]
       have g8:w1.cell? ⟨wr.heap.size,8,none⟩=some (.int .i64 x9):=by simp[World.cell?,hx1]
       have hbf:Hid (Below wq.heap.size wq w1):=hbn.out.trans (hb1.mono (by have:=hwz.out;omega));replace hwn:=qae hwn;clear hb1 hx1;go_wp2_with fail;go_roundw
       case rel=>exact⟨i+1,by omega,by rw[hsucc.out],by go_num,hbf⟩
       case measure=>simp[intOf];omega
      ·simp only[if_true]at hsucc;replace hsucc:=qae hsucc;go_wp2_with fail;go_at_call 111;refine hpl.mono ?_;clear hpl e0 e1 e2 e3 e4 e5 e6 e7 e8 e9 c2;rw[←hwn];rintro e w1 ⟨rfl,hb1⟩;have hx1:w1.heap[wr.heap.size]? =_:=(hb1.block _ hwz.out).trans hxa.out;have g3:w1.cell? ⟨wr.heap.size,3,none⟩=some (.int .i64 x4):=by simp[World.cell?,hx1]
       have g8:w1.cell? ⟨wr.heap.size,8,none⟩=some (.int .i64 x9):=by simp[World.cell?,hx1]
       have hbf:Hid (Below wq.heap.size wq w1):=hbn.out.trans (hb1.mono (by have:=hwz.out;omega));replace hwn:=qae hwn;clear hb1 hx1;have hs2:=lG (F) x9 last w1;have hs3:=lG (fQ (F) x9 last) (x9+x4) last w1;go_wp2_with fail;go_at_call 110;refine hs2.mono ?_;clear hs2;rintro e w9 ⟨rfl,rfl⟩;go_wp2_with fail;go_at_call 110;refine hs3.mono ?_;clear hs3;rintro e w9 ⟨rfl,rfl⟩;go_wp2_with fail;go_roundw
       case rel=>exact⟨i+1,by omega,by rw[hsucc.out],by go_num,hbf⟩
       case measure=>simp[intOf];omega
    ·obtain rfl:i=n:=by omega
     have b3:¬(i:Int)<(i:Int):=by omega
     have hbe:Hid ((M.L.take i).foldl (qR last) (-1)=jB M.L last):=by show _=_;rw[hn.out,List.take_length];rfl
     rw[hbe.out];have hsz:wq.heap.size≤wr.heap.size:=hbz.out.size;have OA:=qy M.L U8;have Yt:timesGo M.L (2*i-k) last=if jB M.L last<0 then[]else jB M.L last::timesGo M.L (2*i-(k+1)) (jB M.L last):=by
      rw[show 2*i-k=(2*i-(k+1))+1 by omega];rfl
     have Fj:=WY.out;rw[Yt]at Fj;have GJ:=hbuf.out.below hbz.out;have Wh:Hid (Below w.heap.size w wr):=hbw.out.trans (hbz.out.mono hbs);clear WY Yt hbuf hbz;generalize jB M.L last=X at*;by_cases hX:X<0
     ·rw[qaj hX,List.append_nil]at Fj;subst Fj;have hrow:=GJ.row (by simp) (by rw[hlen];omega);replace hrow:=qae hrow;clear GJ OA;go_wp2_with fail;go_ret;exact⟨_,rfl,hrow.out,Wh.out⟩
     ·rw[qai hX]at Fj;have hX0:0≤X:=by omega
      have hG2:Hid (G=(tl++[X])++timesGo M.L (2*i-(k+1)) X):=by show _=_;rw[Fj,List.append_assoc];rfl
      clear Fj OA;have dX:¬X<0:=hX;obtain⟨w3,hw3⟩:=qaa (wr.alloc (.cells #[.int .i64 X] 2));have GK:si w3 w.heap.size (.slice (some ⟨b4,nH,none⟩) (k+1) cap4) (T::tl):=GJ.below (by rw[hw3];exact qac.alloc (qaf _) _);have hc3:∀j u,[Value.int .i64 X][j]? =some u→w3.cell? ((⟨wr.heap.size,0,none⟩:Addr).add j)=some u:=by rw[hw3];exact cell_one_new _ _ _
      have Wi:Hid (Below w.heap.size w w3):=by show Below _ _ _;rw[hw3];exact Wh.out.alloc (by omega) _
      have hbase:w.heap.size≤w3.heap.size:=Wi.out.size;unfold si at GK;rw[hlen]at GK;rw[hw3]at GK hc3 hbase;clear GJ;go_wp2_with (at_builtin;go_must (refine mW _ rfl (.tmp 72) (.tmp 74) 96 rfl w.heap.size 2 i0 (.int .i64 0) 1 8 underlying96 hi0 hz0 hz1 hz2 rfl (by decide) (.slice (some ⟨b4,nH,none⟩) (k+1) cap4) (k+1) ((T::tl).map (.int .i64)) rfl GK ⟨wr.heap.size,0,none⟩ 1 1 [.int .i64 X] rfl rfl hc3 ?d1 (by omega) ?d2 ?d3 ?d4 ?d5))
      case d5=>
       intro v' w4 hown1 RH;rw[←hw3]at RH;have hnew:Hid (si w4 w.heap.size v' (T::(tl++[X]))):=by
        show si _ _ _ _;refine .inl ?_;rw[show(T::(tl++[X])).length=k+1+1 by simp[htl],show(T::(tl++[X])).map (Value.int .i64)=(T::tl).map (.int .i64)++[.int .i64 X]by simp];exact hown1
       have hfin:Hid (Below w.heap.size w w4):=Wi.out.trans RH;clear hown1 RH;go_wp2;go_roundw
       case rel=>exact⟨k+1,tl++[X],X,by omega,by simp[htl],by go_num,hX0,by rw[←htl];simp[List.getD],hnew.out,hG2,hfin⟩
       case measure=>simp[intOf];omega
      case d1=>simp[Value.oneCell']
      case d2=>unfold maxLen;omega
      case d3=>omega
      case d4=>have:=hbase;simp at this;omega
  ·obtain rfl:k=2*n:=by omega
   have b2:¬(2*(n:Int))<2*(n:Int):=by omega
   have hcast:((2*n:Nat):Int)=2*(n:Int):=by omega
   have U9:=WY.out;rw[Nat.sub_self]at U9;unfold timesGo at U9;rw[List.append_nil]at U9;subst U9;have hrow:=qae (hbuf.row (by simp) (by rw[hlen];omega));clear hcell hck hbuf;rw[hcast];go_wp2_with fail;go_ret;exact⟨_,rfl,hrow.out,hbw.out⟩
end
def qh (s:Int×Int):List Value:=[.int .i64 s.1,.int .i64 s.2]
theorem Xa :(prog.info? 58).map (fun i=>(i.zero,i.size,i.bytes))=some (some (.agg #[.int .i64 0,.int .i64 0]),2,16):=by kernel_rfl
theorem aL.GL {w:World}{v:Value}{L:List Int}(h:aL encI 1 w v L)(i:Nat)(hi:i<L.length):∃b off cap,v=.slice (some ⟨b,off,none⟩) L.length cap∧L.length≤cap∧cap≤maxLen∧b<w.heap.size∧w.cell? ⟨b,off+i,none⟩=some (.int .i64 (L.getD i 0)):=by
 obtain⟨ao,cap,rfl,h1,h2,h3⟩:=h;obtain⟨b,off,rfl,hb,hc⟩:=h3 (by omega);refine⟨b,off,cap,rfl,h1,h2,hb,?_⟩;have:=hc i (L.getD i 0) 0 _ (by simp[List.getD,hi]) rfl;simpa using this
theorem GM {M:Md}{ts:List Int}{i:Nat}(hi:i<ts.length):(ts.take (i+1)).foldl (stepOn M) []=stepOn M ((ts.take i).foldl (stepOn M) []) (ts.getD i 0):=by
 rw[List.take_succ_eq_append_getElem hi,List.foldl_append];simp[List.getD,hi]
theorem Jh (M:Md)(ts:List Int):(ts.foldl (stepOn M) []).length≤ts.length:=by
 have H:∀(ts:List Int) (acc:List (Int×Int)),(ts.foldl (stepOn M) acc).length≤acc.length+ts.length:=by
  intro ts
  induction ts with
  |nil=>intro acc;simp
  |cons t ts ih=>
   intro acc;rw[List.foldl_cons];have h1:=ih (stepOn M acc t);have h2:(stepOn M acc t).length≤acc.length+1:=by
    unfold stepOn;split
    ·split
     ·omega
     ·simp
    ·simp
   rw[List.length_cons];omega
 have:=H ts [];simpa using this
theorem AY (M:Md):(jq M).length≤2*M.L.length+1:=by
 have:=yQ M.L (2*M.L.length) M.now;unfold jq;rw[List.length_cons];omega
theorem bE {w:World}{B:Nat}{e:TypeId}{sz n:Nat}{v:Value}{xs:List Value}(h:w.ownsRow B e sz v n xs):∃ao cap,v=.slice ao n cap∧n≤cap∧cap≤9223372036854775807∧(0<n→∃g,ao=some ⟨g,0,none⟩):=by
 obtain⟨_,⟨rfl,rfl⟩|⟨g,cap,cur,rfl,_,_,hn,hm,_⟩⟩:=h
 ·exact⟨none,0,rfl,qaf _,Nat.zero_le _,fun h=>absurd h (Nat.lt_irrefl 0)⟩
 ·exact⟨some ⟨g,0,none⟩,cap,rfl,hn,by unfold maxLen at hm;omega,fun _=>⟨g,rfl⟩⟩
section
variable {w w' : World} {p : Nat} {dv lv : Value} {M : Md}
theorem yR (hb:MB M)(t but:Int): -65536≤aF M t but∧aF M t but≤64:=by
 have h1:=iT M t M.dr.length;have h2:=mI hb.wid t but;have:=hb.nn;have:=hb.ll;unfold aF;omega
theorem Pn (h:MR w p dv lv M)(hb:MB M):Calls prog 73 #[.pointer (some ⟨p,0,none⟩)] w fun e w'=>∃v,e=.returned v∧aL qh 2 w' v (kE M)∧Below w.heap.size w w':=by
 obtain⟨i0,hi0,hz0,hz1,hz2⟩:=info_parts Xa;have hM:=qae h;have hB:=qae hb;have hll:=hb.ll;have hti:=Fh h hb;have htl:=AY M;have hst:kE M=(jq M).foldl (stepOn M) []:=rfl;rw[hst];clear hst;generalize jq M=ts at*;obtain⟨m,hm⟩:=qaa (ts.length);rw[←hm]at htl;have hm2:m≤2049:=by omega
 clear h hb htl hll;replace hm:=qae hm;go_enter func73,ntmps73;go_wp2_with fail;go_at_call 49;refine hti.mono ?_;clear hti;rintro e w0 ⟨tv,rfl,LQ,hb0⟩;replace LQ:=qae LQ;replace hb0:=qae hb0;obtain⟨wq,rfl⟩:=qaa (w0);go_wp2_with fail;go_loopw [3,5] (fun oo ii wr=>∃i:Nat,i≤m∧ii=.int .i64 i∧wr.ownsRow wq.heap.size 58 2 oo ((ts.take i).foldl (stepOn M) []).length (((ts.take i).foldl (stepOn M) []).flatMap qh)∧Hid (Below wq.heap.size wq wr)) (fun _ ii _=>m-(intOf ii).toNat)
 case atStart=>exact⟨0,Nat.zero_le _,rfl,World.ownsRow_nil _ _ _ _,Below.refl _ _⟩
 case round=>
  obtain⟨i,hi,rfl,hown,hbr⟩:=hrel;have htr:=LQ.out.below hbr.out;have hbw:Hid (Below w.heap.size w wr):=hb0.out.trans (hbr.out.mono hb0.out.size);obtain⟨ao,cap,Ct,_,_⟩:=htr.shape;rw[←hm.out]at Ct;by_cases hlt:i<m
  ·have b2:(i:Int)<(m:Int):=by omega
   have wi:IntKind.i64.wrap ((i:Int)+1)=(i:Int)+1:=by rw[IntKind.wrap_i64];omega
   obtain⟨b4,nH,cap4,hv4,_,_,_,hc4⟩:=htr.GL i (by rw[←hm.out];exact hlt);rw[←hm.out]at hv4;have hfr:=qV (hM.out.below hbw.out) hB.out (ts.getD i 0) 0;have hrg:=yR hB.out (ts.getD i 0) 0;have hsucc:=GM (M:=M) (i:=i) (ts:=ts) (by rw[←hm.out];exact hlt);have hal:=Jh M (ts.take i);have htl:(ts.take i).length≤i:=List.length_take_le _ _;subst hv4;clear Ct;obtain⟨x,hx⟩:=qaa (ts.getD i 0);rw[←hx]at hfr hrg hsucc hc4;generalize hA:(ts.take i).foldl (stepOn M) []=A at*;have hst:stepOn M A x=(match A.getLast? with|some s=>if s.2=aF M x 0 then A else A++[(x,aF M x 0)]|none=>A++[(x,aF M x 0)]):=rfl;rw[hst]at hsucc;clear hst;generalize aF M x 0=F at*;replace hx:=qae hx;obtain⟨Yu,Jd,hsh,hc31,hc32,hg3⟩:=bE hown;subst hsh;by_cases h0:A=[]
   ·subst h0;have hA1:Hid ((ts.take (i+1)).foldl (stepOn M) []=[(x,F)]):=hsucc;replace hA:=qae hA;replace hown:=qae hown;clear hsucc hal htl hg3;go_wp2_with fail;go_at_call 97;refine hfr.mono ?_;clear hfr;rintro e w1 ⟨rfl,hb1⟩;have hown1:=Put.gN hown.out hb1;have hc1:=htr.below hb1;obtain⟨b5,qg,cap5,hv5,_,_,_,BP⟩:=hc1.GL i (by rw[←hm.out];exact hlt);rw[←hm.out]at hv5;cases hv5;rw[←hx.out]at BP;have sj:Hid (Below wq.heap.size wq w1):=hbr.out.trans (hb1.mono hbr.out.size);have hsz:wq.heap.size≤w1.heap.size:=sj.out.size;obtain⟨w3,hw3⟩:=qaa (w1.alloc (.cells #[.int .i64 x,.int .i64 F] 58));have hown3:Buf w3 wq.heap.size 58 2 (.slice Yu 0 Jd) 0 []:=.inl (Put.gN hown1 (by rw[hw3];exact qac.alloc (qaf _) _));have hc3:∀j u,[Value.int .i64 x,.int .i64 F][j]? =some u→w3.cell? ((⟨w1.heap.size,0,none⟩:Addr).add j)=some u:=by rw[hw3];exact qQ rfl
    have yS:Hid (Below wq.heap.size wq w3):=by show Below _ _ _;rw[hw3];exact sj.out.alloc (by have:=sj.out.size;omega) _
    rw[hw3]at hown3 hc3;clear hown1 hb1 hc4 htr hc1 hbr hbw;go_wp2_with (at_builtin;go_must (refine mW _ rfl (.tmp 35) (.tmp 42) 42 rfl wq.heap.size 58 i0 (.agg #[.int .i64 0,.int .i64 0]) 2 16 underlying42 hi0 hz0 hz1 hz2 rfl (by decide) (.slice Yu 0 Jd) 0 [] rfl hown3 ⟨w1.heap.size,0,none⟩ 1 1 [.int .i64 x,.int .i64 F] rfl rfl hc3 ?d1 (by omega) ?d2 ?d3 ?d4 ?d5))
    case d5=>
     intro v' w4 Cu hb4;rw[←hw3]at hb4;have hnew:w4.ownsRow wq.heap.size 58 2 v' [(x,F)].length ([(x,F)].flatMap qh):=Cu;have hfin:Hid (Below wq.heap.size wq w4):=yS.out.trans hb4;clear Cu hb4 hown3 hc3;replace hnew:=qae hnew;go_wp2;go_roundw
     case rel=>exact⟨i+1,by omega,by go_num,by rw[hA1.out];exact hnew.out,hfin⟩
     case measure=>simp[intOf];omega
    case d1=>simp[Value.oneCell']
    case d2=>unfold maxLen;omega
    case d3=>omega
    case d4=>simp;omega
   ·obtain⟨q,hq⟩:∃q,A.length=q+1:=⟨A.length-1,by have:=List.length_pos_iff.2 h0;omega⟩;obtain⟨g,rfl⟩:=hg3 (by omega);have hgl:A.getLast? =some (A.getD q default):=by
     rw[List.getLast?_eq_getElem?,hq,Nat.add_sub_cancel,List.getD,List.getElem?_eq_getElem (by omega)];rfl
    rw[hgl]at hsucc;have hsucc:(ts.take (i+1)).foldl (stepOn M) []=if(A.getD q default).2=F then A else A++[(x,F)]:=hsucc
    have hlast:∀W:World,Below wr.heap.size wr W→W.cell? ⟨g,q*2+1,none⟩=some (.int .i64 (A.getD q default).2):=fun W hW=>by
     have hr:=aL.iB (enc:=qh) (l:=A) (Put.gN hown hW) (fun _=>rfl) rfl rfl;obtain⟨ao,cp,hv,_,_,hcc⟩:=hr;cases hv;obtain⟨b6,Cv,e6,_,hcc⟩:=hcc (by omega);cases e6;have:=hcc q (A.getD q default) 1 _ (by simp[List.getD,show q<A.length by omega]) rfl;simpa using this
    generalize (A.getD q default).2=Z at*;rw[hq]at hown hc31⊢;have hq2:q+1≤2049:=by omega
    replace hown:=qae hown;replace hlast:=qae hlast;replace hA:=qae hA;replace hq:=qae hq;clear hal htl hg3 hgl h0;by_cases hZ:Z=F
    ·have hA1:Hid ((ts.take (i+1)).foldl (stepOn M) []=A):=by show _=_;rw[hsucc,qaj hZ]
     clear hsucc;subst hZ;go_wp2_with fail;go_at_call 97;refine hfr.mono ?_;clear hfr;rintro e w1 ⟨rfl,hb1⟩;have hown1:=qae (Put.gN hown.out hb1);have hl1:=hlast.out w1 hb1;have sj:Hid (Below wq.heap.size wq w1):=hbr.out.trans (hb1.mono hbr.out.size);clear hb1 hc4 htr hbr hbw;go_wp2_with fail;go_roundw
     case rel=>exact⟨i+1,by omega,by go_num,by rw[hA1.out,hq.out];exact hown1.out,sj⟩
     case measure=>simp[intOf];omega
    ·have hA1:Hid ((ts.take (i+1)).foldl (stepOn M) []=A++[(x,F)]):=by show _=_;rw[hsucc,qai hZ]
     have dZ:(Z != F)=true:=by simp[hZ]
     clear hsucc;go_wp2_with fail;go_at_call 97;refine hfr.mono ?_;clear hfr;rintro e w1 ⟨rfl,hb1⟩;have hown1:=Put.gN hown.out hb1;have hl1:=hlast.out w1 hb1;have hc1:=htr.below hb1;obtain⟨b5,qg,cap5,hv5,_,_,_,BP⟩:=hc1.GL i (by rw[←hm.out];exact hlt);rw[←hm.out]at hv5;cases hv5;rw[←hx.out]at BP;have sj:Hid (Below wq.heap.size wq w1):=hbr.out.trans (hb1.mono hbr.out.size);have hsz:wq.heap.size≤w1.heap.size:=sj.out.size;obtain⟨w3,hw3⟩:=qaa (w1.alloc (.cells #[.int .i64 x,.int .i64 F] 58));have hown3:Buf w3 wq.heap.size 58 2 (.slice (some ⟨g,0,none⟩) (q+1) Jd) (q+1) (A.flatMap qh):=.inl (Put.gN hown1 (by rw[hw3];exact qac.alloc (qaf _) _));have hc3:∀j u,[Value.int .i64 x,.int .i64 F][j]? =some u→w3.cell? ((⟨w1.heap.size,0,none⟩:Addr).add j)=some u:=by rw[hw3];exact qQ rfl
     have yS:Hid (Below wq.heap.size wq w3):=by show Below _ _ _;rw[hw3];exact sj.out.alloc (by have:=sj.out.size;omega) _
     rw[hw3]at hown3 hc3;clear hown1 hb1 hc4 htr hc1 hbr hbw;go_wp2_with (at_builtin;go_must (refine mW _ rfl (.tmp 35) (.tmp 42) 42 rfl wq.heap.size 58 i0 (.agg #[.int .i64 0,.int .i64 0]) 2 16 underlying42 hi0 hz0 hz1 hz2 rfl (by decide) (.slice (some ⟨g,0,none⟩) (q+1) Jd) (q+1) (A.flatMap qh) rfl hown3 ⟨w1.heap.size,0,none⟩ 1 1 [.int .i64 x,.int .i64 F] rfl rfl hc3 ?e1 (by omega) ?e2 ?e3 ?e4 ?e5))
     case e5=>
      intro v' w4 Cu hb4;rw[←hw3]at hb4;have hnew:Hid (w4.ownsRow wq.heap.size 58 2 v' (A++[(x,F)]).length ((A++[(x,F)]).flatMap qh)):=by
       show w4.ownsRow _ _ _ _ _ _;rw[List.length_append,hq.out,List.flatMap_append];exact Cu
      have hfin:Hid (Below wq.heap.size wq w4):=yS.out.trans hb4;clear Cu hb4 hown3 hc3;go_wp2;go_roundw
      case rel=>exact⟨i+1,by omega,by go_num,by rw[hA1.out];exact hnew.out,hfin⟩
      case measure=>simp[intOf];omega
     case e1=>simp[Value.oneCell']
     case e2=>unfold maxLen;omega
     case e3=>omega
     case e4=>simp;omega
  ·obtain rfl:i=m:=by omega
   have b2:¬(i:Int)<(i:Int):=by omega
   subst Ct;have hrow:Hid (aL qh 2 wr u3 (ts.foldl (stepOn M) [])):=by
    show aL _ _ _ _ _;have h1:=hown;rw[hm.out,List.take_length]at h1;exact aL.iB h1 (fun _=>rfl) rfl rfl
   clear hown;go_wp2_with fail;go_ret;exact⟨_,rfl,hrow.out,hbw.out⟩
end
section
variable {w w' : World} {p : Nat} {dv lv : Value} {M : Md}
def Ey (M:Md)(a long width but:Int)(t:Int):Bool:=!(decide (a<t)&&decide (t<a+long)&&decide (aF M t but<width))
theorem Po {ts:List Int}{f:Int→Bool}{i:Nat}(hi:i<ts.length)(h:(ts.take i).all f=true)(hf:f (ts.getD i 0)=true):(ts.take (i+1)).all f=true:=by
 rw[List.take_succ_eq_append_getElem hi,List.all_append,h];simpa[List.getD,hi]using hf
theorem RI {ts:List Int}{f:Int→Bool}{i:Nat}(hi:i<ts.length)(hf:f (ts.getD i 0)=false):ts.all f=false:=by
 rw[List.all_eq_false];refine⟨ts[i],List.getElem_mem _,?_⟩;rw[List.getD,List.getElem?_eq_getElem hi,Option.getD_some]at hf;simp[hf]
theorem Ji (h:MR w p dv lv M)(hb:MB M)(a long width but:Int)(ha: -1152921504606846976≤a∧a≤1152921504606846976)(hlong:0≤long∧long≤1048576):Calls prog 113 #[.pointer (some ⟨p,0,none⟩),.int .i64 a,.int .i64 long,.int .i64 width,.int .i64 but] w fun e w'=>e=.returned (.bool (sQ M a long width but))∧Below w.heap.size w w':=by
 have hM:=qae h;have hB:=qae hb;have hfr:=qV h hb a but;have hti:=fun W (hW:Below w.heap.size w W)=>Fh (h.below hW) hb;have htl:=AY M;have hll:=hb.ll;have hrm:sQ M a long width but=(decide (width≤aF M a but)&&(jq M).all (Ey M a long width but)):=rfl;rw[hrm];clear hrm;generalize jq M=ts at*;generalize aF M a but=F at*;obtain⟨m,hm⟩:=qaa (ts.length);rw[←hm]at htl;have hm2:m≤2049:=by omega
 have wal:IntKind.i64.wrap (a+long)=a+long:=by rw[IntKind.wrap_i64];omega
 clear h hb htl hll;replace hm:=qae hm;by_cases hw0:F<width
 ·have d0:decide (F<width)=true:=qag hw0;rw[qah (show¬width≤F by omega),Bool.false_and];go_enter func113,ntmps113;go_wp2_with fail;go_at_call 97;refine hfr.mono ?_;clear hfr hti;rintro e w1 ⟨rfl,hb1⟩;replace hb1:=qae hb1;go_wp2_with fail;go_ret;exact⟨rfl,hb1.out⟩
 ·have d0:decide (F<width)=false:=qah hw0;rw[qag (show width≤F by omega),Bool.true_and];go_enter func113,ntmps113;go_wp2_with fail;go_at_call 97;refine hfr.mono ?_;clear hfr;rintro e w1 ⟨rfl,hb1⟩;have Wj:=hti w1 hb1;clear hti;replace hb1:=qae hb1;go_wp2_with fail;go_at_call 49;refine Wj.mono ?_;clear Wj;rintro e w2 ⟨tv,rfl,LQ,hb2⟩;have hbq:Hid (Below w.heap.size w w2):=hb1.out.trans (hb2.mono hb1.out.size);replace LQ:=qae LQ;obtain⟨wq,rfl⟩:=qaa (w2);clear hb2 hb1;go_wp2_with fail;go_loopw [12] (fun ii wr=>∃i:Nat,i≤m∧ii=.int .i64 i∧Hid ((ts.take i).all (Ey M a long width but)=true)∧Hid (Below wq.heap.size wq wr)) (fun ii _=>m-(intOf ii).toNat)
  case atStart=>exact⟨0,Nat.zero_le _,rfl,by show _=_;simp,Below.refl _ _⟩
  case round=>
   obtain⟨i,hi,rfl,hall,hbr⟩:=hrel;have htr:=LQ.out.below hbr.out;have hbw:Hid (Below w.heap.size w wr):=hbq.out.trans (hbr.out.mono hbq.out.size);obtain⟨ao,cap,Ct,_,_⟩:=htr.shape;rw[←hm.out]at Ct;by_cases hlt:i<m
   ·have b2:(i:Int)<(m:Int):=by omega
    have wi:IntKind.i64.wrap ((i:Int)+1)=(i:Int)+1:=by rw[IntKind.wrap_i64];omega
    obtain⟨b4,nH,cap4,hv4,_,_,_,hc4⟩:=htr.GL i (by rw[←hm.out];exact hlt);rw[←hm.out]at hv4;subst hv4;clear Ct htr;have ql:=Po (ts:=ts) (f:=Ey M a long width but) (i:=i) (by rw[←hm.out];exact hlt) hall.out;have hno:=RI (ts:=ts) (f:=Ey M a long width but) (i:=i) (by rw[←hm.out];exact hlt);have hfr:=qV (hM.out.below hbw.out) hB.out (ts.getD i 0) but;obtain⟨x,hx⟩:=qaa (ts.getD i 0);rw[←hx]at hfr ql hno hc4;have hok:Ey M a long width but x= !(decide (a<x)&&decide (x<a+long)&&decide (aF M x but<width)):=rfl;rw[hok]at ql hno;replace hx:=qae hx;clear hok;generalize aF M x but=Z at*;by_cases k1:a<x
    ·have m1:decide (a<x)=true:=qag k1;by_cases k2:x<a+long
     ·have m2:decide (x<a+long)=true:=qag k2;by_cases k3:Z<width
      ·have m3:decide (Z<width)=true:=qag k3;have hfin:Hid (ts.all (Ey M a long width but)=false):=hno (by rw[m1,m2,m3];rfl);clear ql hno;go_wp2_with fail;go_at_call 97;refine hfr.mono ?_;clear hfr;rintro e w3 ⟨rfl,hb3⟩;have hbf:Hid (Below w.heap.size w w3):=hbw.out.trans (hb3.mono hbw.out.size);clear hb3;go_wp2_with fail;go_ret;exact⟨by rw[hfin.out];rfl,hbf.out⟩
      ·have m3:decide (Z<width)=false:=qah k3;have hfin:Hid ((ts.take (i+1)).all (Ey M a long width but)=true):=ql (by rw[m1,m2,m3];rfl);clear ql hno;go_wp2_with fail;go_at_call 97;refine hfr.mono ?_;clear hfr;rintro e w3 ⟨rfl,hb3⟩;have hbf:Hid (Below wq.heap.size wq w3):=hbr.out.trans (hb3.mono hbr.out.size);clear hb3 hc4;go_wp2_with fail;go_roundw
       case rel=>exact⟨i+1,by omega,by go_num,hfin,hbf⟩
       case measure=>simp[intOf];omega
     ·have m2:decide (x<a+long)=false:=qah k2;have hfin:Hid ((ts.take (i+1)).all (Ey M a long width but)=true):=ql (by rw[m1,m2];rfl);clear ql hno hfr;go_wp2_with fail;go_roundw
      case rel=>exact⟨i+1,by omega,by go_num,hfin,hbr⟩
      case measure=>simp[intOf];omega
    ·have m1:decide (a<x)=false:=qah k1;have hfin:Hid ((ts.take (i+1)).all (Ey M a long width but)=true):=ql (by rw[m1];rfl);clear ql hno hfr;go_wp2_with fail;go_roundw
     case rel=>exact⟨i+1,by omega,by go_num,hfin,hbr⟩
     case measure=>simp[intOf];omega
   ·obtain rfl:i=m:=by omega
    have b2:¬(i:Int)<(i:Int):=by omega
    have hfin:Hid (ts.all (Ey M a long width but)=true):=by
     show _=_;have h1:=hall.out;rw[hm.out,List.take_length]at h1;exact h1
    subst Ct;clear htr;go_wp2_with fail;go_ret;exact⟨by rw[hfin.out];rfl,hbw.out⟩
end
theorem zO {fn:Func}{q u:Tmp}{b:Nat}{tmps:Array Value}{w:World}{cs:List Value}(h:fn.results= #[.cell q 55,.tmp u])(ha:tmps.getD q undef=.pointer (some ⟨b,0,none⟩))(hb:w.heap[b]? =some (.cells cs.toArray 55 (0,0)))(hl:cs.length=10):
 (results fn tmps).run prog w=.ok (.tuple #[.agg cs.toArray,tmps.getD u undef]) w:=by
 have h1:Sem.run prog (loadCells ⟨b,0,none⟩ 10) w=.ok cs.toArray w:=bJ hb hl;rw[results_cell_tmp h,ha];simp only[loadVar,asAddr,Sem.run_bind,Sem.run_pure,Result.andThen_ok,Ox,bC,h1,if_true]
section
variable {w w' : World} {p : Nat} {dv lv : Value} {M : Md}
theorem ma (h:MR w p dv lv M)(hb:MB M)(id:Int)(hid: -9223372036854775808≤id∧id≤9223372036854775807):Calls prog 112 #[.pointer (some ⟨p,0,none⟩),.int .i64 id] w fun e w'=>e=.returned (.tuple #[.agg (ag (getM M id).1).toArray,.bool (getM M id).2])∧Below w.heap.size w w':=by
 have hM:=h.below (w':=w.alloc (.cells #[.int .i64 0,.int .i64 0,.int .i64 0,.int .i64 0,.int .i64 0,.int .i64 0,.int .i64 0,.int .i64 0,.int .i64 0,.int .u64 0] 55)) (qac.alloc (qaf _) _);have hll:=hb.ll;have c2:=hM.c2;obtain⟨n,hn⟩:=qaa (M.L.length);obtain⟨ao,cap,hlv,hl1,Yr⟩:=hM.js.shape;rw[←hn]at hlv hl1 hll;rw[hlv]at c2;unfold getM;rw[←hn];by_cases h1:id<1
 ·have d1:decide (id<1)=true:=qag h1;rw[qaj (.inl h1)];clear hM h hb;go_enter func112,ntmps112;go_wp2_with fail
  (try simp only[Exit.inBlock,Exit.then])
  refine bodyPost_ret (zO (b:=w.heap.size) (cs:=ag default) rfl rfl (heap_alloc_new w _) (aA _)) rfl ?_;exact⟨rfl,qac.alloc (qaf _) _⟩
 ·have d1:decide (id<1)=false:=qah h1;by_cases h2:(n:Int)<id
  ·have d2:decide ((n:Int)<id)=true:=qag h2;rw[qaj (.inr h2)];clear hM h hb;go_enter func112,ntmps112;go_wp2_with fail
   (try simp only[Exit.inBlock,Exit.then])
   refine bodyPost_ret (zO (b:=w.heap.size) (cs:=ag default) rfl rfl (heap_alloc_new w _) (aA _)) rfl ?_;exact⟨rfl,qac.alloc (qaf _) _⟩
  ·have d2:decide ((n:Int)<id)=false:=qah h2;rw[qai (by omega)];obtain⟨i,hi⟩:∃i:Nat,id=(i:Int)+1:=⟨(id-1).toNat,by omega⟩;subst hi;have hin:i<n:=by omega
   have ei:((i:Int)+1-1).toNat=i:=by omega
   rw[ei];obtain⟨b5,qg,cap5,hv5,_,_,hb5,hc⟩:=hM.js.mr i (by rw[←hn];exact hin);rw[←hn,hlv]at hv5;cases hv5;generalize M.L.getD i default=y at*;obtain⟨x1,x2,x3,x4,x5,x6,x7,x8,x9,x0⟩:=y;have e0:=hc 0 _ rfl;have e1:=hc 1 _ rfl;have e2:=hc 2 _ rfl;have e3:=hc 3 _ rfl;have e4:=hc 4 _ rfl;have e5:=hc 5 _ rfl;have e6:=hc 6 _ rfl;have e7:=hc 7 _ rfl;have e8:=hc 8 _ rfl;have e9:=hc 9 _ rfl;rw[Nat.add_zero]at e0;have hil:(i:Int)<(n:Int):=by omega
   replace hn:=qae hn;clear hM h hb hc hlv ei;go_enter func112,ntmps112;go_wp2_with fail
   (try simp only[Exit.inBlock,Exit.then])
   refine bodyPost_ret (zO (b:=w.heap.size) (cs:=ag (x1,x2,x3,x4,x5,x6,x7,x8,x9,x0)) rfl rfl (heap_alloc_new w _) (aA _)) rfl ?_;exact⟨rfl,qac.alloc (qaf _) _⟩
end
section
variable {w w' : World} {p : Nat} {dv lv : Value} {M : Md}
theorem RJ (h:MR w p dv lv M)(hb:MB M)(id t:Int)(hid: -9223372036854775808≤id∧id≤9223372036854775807):Calls prog 50 #[.pointer (some ⟨p,0,none⟩),.agg #[.int .i64 id,.int .i64 t]] w fun e w'=>e=.returned (.bool (eY M id t))∧Below w.heap.size w w':=by
 have hM:=qae h;have hB:=qae hb;obtain⟨wA,aj⟩:=qaa (w.alloc (.cells #[.int .i64 id,.int .i64 t] 35));have aC:Hid (Below w.heap.size w wA):=by show Below _ _ _;rw[aj];exact qac.alloc (qaf _) _
 have hsA:wA.heap.size=w.heap.size+1:=by rw[aj];simp
 have sU:Hid (wA.heap[w.heap.size]? =some (.cells #[.int .i64 id,.int .i64 t] 35 (0,0))):=by show _=_;rw[aj];exact heap_alloc_new w _
 have hgt:=ma (hM.out.below aC.out) hb id hid;have hfm:eY M id t=(if M.cl=true∨(getM M id).2=false∨(getM M id).1.st≠1∨t<M.now∨1099511627776<t∨(0≤(getM M id).1.aW∧(getM M id).1.aW≤t)then false else sQ M t (getM M id).1.lim (getM M id).1.wid (getM M id).1.id):=rfl;have hlim:0≤(getM M id).1.lim∧(getM M id).1.lim≤1048576:=by
  unfold getM;split
  ·exact⟨by decide,by decide⟩
  ·rename_i hn
   exact hb.lim _ (qG (by omega))
 rw[hfm];clear hfm hb h;rw[aj]at hgt;generalize (getM M id).2=ok at*;generalize (getM M id).1=y at*;obtain⟨x1,x2,x3,x4,x5,x6,x7,x8,x9,x0⟩:=y;rw[dP]at hgt;have hlim:0≤x4∧x4≤1048576:=hlim;show Calls _ _ _ _ fun e w'=>e=.returned (.bool (if M.cl=true∨ok=false∨x6≠1∨t<M.now∨1099511627776<t∨(0≤x9∧x9≤t)then false else sQ M t x4 x3 x1))∧Below w.heap.size w w';obtain⟨cl,hcl⟩:=qaa (M.cl);obtain⟨now,fK⟩:=qaa (M.now);rw[←hcl,←fK];have hn0:=hB.out.now;rw[←fK]at hn0;replace hcl:=qae hcl;replace fK:=qae fK;clear hid;cases cl
 ·cases ok
  ·skip
   rw[qaj (.inr (.inl rfl))];go_enter func50,ntmps50;go_wp2_with fail;go_at_call 112;refine hgt.mono ?_;clear hgt;rw[←aj];rintro e w1 ⟨rfl,hb1⟩;replace aj:=qae aj;obtain⟨w2,hw2⟩:=qaa (w1.alloc (.cells #[.int .i64 x1,.int .i64 x2,.int .i64 x3,.int .i64 x4,.int .i64 x5,.int .i64 x6,.int .i64 x7,.int .i64 x8,.int .i64 x9,.int .u64 x0] 55));have hb2:Hid (Below w.heap.size w w2):=by show Below _ _ _;rw[hw2];exact(aC.out.trans (hb1.mono aC.out.size)).alloc (by have:=hb1.size;omega) _
   have hX2:w2.heap[w.heap.size]? =some (.cells #[.int .i64 id,.int .i64 t] 35 (0,0)):=by rw[hw2];exact aJ ((hb1.block _ (by omega)).trans sU.out)
   have hJ2:w2.heap[w1.heap.size]? =some (.cells #[.int .i64 x1,.int .i64 x2,.int .i64 x3,.int .i64 x4,.int .i64 x5,.int .i64 x6,.int .i64 x7,.int .i64 x8,.int .i64 x9,.int .u64 x0] 55 (0,0)):=by rw[hw2];exact heap_alloc_new w1 _
   have hM2:=hM.out.below hb2.out;have c0:=hM2.c0;have c3:=hM2.c3;rw[←fK.out]at c0;rw[←hcl.out]at c3;have f1:w2.cell? ⟨w.heap.size,1,none⟩=some (.int .i64 t):=by simp[World.cell?,hX2]
   have j0:w2.cell? ⟨w1.heap.size,0,none⟩=some (.int .i64 x1):=by simp[World.cell?,hJ2]
   have j2:w2.cell? ⟨w1.heap.size,2,none⟩=some (.int .i64 x3):=by simp[World.cell?,hJ2]
   have j3:w2.cell? ⟨w1.heap.size,3,none⟩=some (.int .i64 x4):=by simp[World.cell?,hJ2]
   have j5:w2.cell? ⟨w1.heap.size,5,none⟩=some (.int .i64 x6):=by simp[World.cell?,hJ2]
   have j8:w2.cell? ⟨w1.heap.size,8,none⟩=some (.int .i64 x9):=by simp[World.cell?,hJ2]
   clear hb1 hX2 hJ2 hM2 aC sU hsA;go_wp2_with fail;rw[←hw2];replace hw2:=qae hw2;go_region
   all_goals(try go_wp2_with fail)
   go_ret;exact⟨rfl,hb2.out.drew⟩
  ·by_cases k1:x6=1
   ·subst k1;by_cases k2:t<now
    ·have m2:decide (t<now)=true:=qag k2;rw[qaj (.inr (.inr (.inr (.inl k2))))];go_enter func50,ntmps50;go_wp2_with fail;go_at_call 112;refine hgt.mono ?_;clear hgt;rw[←aj];rintro e w1 ⟨rfl,hb1⟩;replace aj:=qae aj;obtain⟨w2,hw2⟩:=qaa (w1.alloc (.cells #[.int .i64 x1,.int .i64 x2,.int .i64 x3,.int .i64 x4,.int .i64 x5,.int .i64 1,.int .i64 x7,.int .i64 x8,.int .i64 x9,.int .u64 x0] 55));have hb2:Hid (Below w.heap.size w w2):=by show Below _ _ _;rw[hw2];exact(aC.out.trans (hb1.mono aC.out.size)).alloc (by have:=hb1.size;omega) _
     have hX2:w2.heap[w.heap.size]? =some (.cells #[.int .i64 id,.int .i64 t] 35 (0,0)):=by rw[hw2];exact aJ ((hb1.block _ (by omega)).trans sU.out)
     have hJ2:w2.heap[w1.heap.size]? =some (.cells #[.int .i64 x1,.int .i64 x2,.int .i64 x3,.int .i64 x4,.int .i64 x5,.int .i64 1,.int .i64 x7,.int .i64 x8,.int .i64 x9,.int .u64 x0] 55 (0,0)):=by rw[hw2];exact heap_alloc_new w1 _
     have hM2:=hM.out.below hb2.out;have c0:=hM2.c0;have c3:=hM2.c3;rw[←fK.out]at c0;rw[←hcl.out]at c3;have f1:w2.cell? ⟨w.heap.size,1,none⟩=some (.int .i64 t):=by simp[World.cell?,hX2]
     have j0:w2.cell? ⟨w1.heap.size,0,none⟩=some (.int .i64 x1):=by simp[World.cell?,hJ2]
     have j2:w2.cell? ⟨w1.heap.size,2,none⟩=some (.int .i64 x3):=by simp[World.cell?,hJ2]
     have j3:w2.cell? ⟨w1.heap.size,3,none⟩=some (.int .i64 x4):=by simp[World.cell?,hJ2]
     have j5:w2.cell? ⟨w1.heap.size,5,none⟩=some (.int .i64 1):=by simp[World.cell?,hJ2]
     have j8:w2.cell? ⟨w1.heap.size,8,none⟩=some (.int .i64 x9):=by simp[World.cell?,hJ2]
     clear hb1 hX2 hJ2 hM2 aC sU hsA;go_wp2_with fail;rw[←hw2];replace hw2:=qae hw2;go_region
     all_goals(try go_wp2_with fail)
     go_ret;exact⟨rfl,hb2.out.drew⟩
    ·have m2:decide (t<now)=false:=qah k2;by_cases k3:1099511627776<t
     ·have m3:decide (1099511627776<t)=true:=qag k3;rw[qaj (.inr (.inr (.inr (.inr (.inl k3)))))];go_enter func50,ntmps50;go_wp2_with fail;go_at_call 112;refine hgt.mono ?_;clear hgt;rw[←aj];rintro e w1 ⟨rfl,hb1⟩;replace aj:=qae aj;obtain⟨w2,hw2⟩:=qaa (w1.alloc (.cells #[.int .i64 x1,.int .i64 x2,.int .i64 x3,.int .i64 x4,.int .i64 x5,.int .i64 1,.int .i64 x7,.int .i64 x8,.int .i64 x9,.int .u64 x0] 55));have hb2:Hid (Below w.heap.size w w2):=by show Below _ _ _;rw[hw2];exact(aC.out.trans (hb1.mono aC.out.size)).alloc (by have:=hb1.size;omega) _
      have hX2:w2.heap[w.heap.size]? =some (.cells #[.int .i64 id,.int .i64 t] 35 (0,0)):=by rw[hw2];exact aJ ((hb1.block _ (by omega)).trans sU.out)
      have hJ2:w2.heap[w1.heap.size]? =some (.cells #[.int .i64 x1,.int .i64 x2,.int .i64 x3,.int .i64 x4,.int .i64 x5,.int .i64 1,.int .i64 x7,.int .i64 x8,.int .i64 x9,.int .u64 x0] 55 (0,0)):=by rw[hw2];exact heap_alloc_new w1 _
      have hM2:=hM.out.below hb2.out;have c0:=hM2.c0;have c3:=hM2.c3;rw[←fK.out]at c0;rw[←hcl.out]at c3;have f1:w2.cell? ⟨w.heap.size,1,none⟩=some (.int .i64 t):=by simp[World.cell?,hX2]
      have j0:w2.cell? ⟨w1.heap.size,0,none⟩=some (.int .i64 x1):=by simp[World.cell?,hJ2]
      have j2:w2.cell? ⟨w1.heap.size,2,none⟩=some (.int .i64 x3):=by simp[World.cell?,hJ2]
      have j3:w2.cell? ⟨w1.heap.size,3,none⟩=some (.int .i64 x4):=by simp[World.cell?,hJ2]
      have j5:w2.cell? ⟨w1.heap.size,5,none⟩=some (.int .i64 1):=by simp[World.cell?,hJ2]
      have j8:w2.cell? ⟨w1.heap.size,8,none⟩=some (.int .i64 x9):=by simp[World.cell?,hJ2]
      clear hb1 hX2 hJ2 hM2 aC sU hsA;go_wp2_with fail;rw[←hw2];replace hw2:=qae hw2;go_region
      all_goals(try go_wp2_with fail)
      go_ret;exact⟨rfl,hb2.out.drew⟩
     ·have m3:decide (1099511627776<t)=false:=qah k3;by_cases k4:0≤x9
      ·have m4:decide (0≤x9)=true:=qag k4;by_cases k5:x9≤t
       ·have m5:decide (x9≤t)=true:=qag k5;rw[qaj (.inr (.inr (.inr (.inr (.inr ⟨k4,k5⟩)))))];go_enter func50,ntmps50;go_wp2_with fail;go_at_call 112;refine hgt.mono ?_;clear hgt;rw[←aj];rintro e w1 ⟨rfl,hb1⟩;replace aj:=qae aj;obtain⟨w2,hw2⟩:=qaa (w1.alloc (.cells #[.int .i64 x1,.int .i64 x2,.int .i64 x3,.int .i64 x4,.int .i64 x5,.int .i64 1,.int .i64 x7,.int .i64 x8,.int .i64 x9,.int .u64 x0] 55));have hb2:Hid (Below w.heap.size w w2):=by show Below _ _ _;rw[hw2];exact(aC.out.trans (hb1.mono aC.out.size)).alloc (by have:=hb1.size;omega) _
        have hX2:w2.heap[w.heap.size]? =some (.cells #[.int .i64 id,.int .i64 t] 35 (0,0)):=by rw[hw2];exact aJ ((hb1.block _ (by omega)).trans sU.out)
        have hJ2:w2.heap[w1.heap.size]? =some (.cells #[.int .i64 x1,.int .i64 x2,.int .i64 x3,.int .i64 x4,.int .i64 x5,.int .i64 1,.int .i64 x7,.int .i64 x8,.int .i64 x9,.int .u64 x0] 55 (0,0)):=by rw[hw2];exact heap_alloc_new w1 _
        have hM2:=hM.out.below hb2.out;have c0:=hM2.c0;have c3:=hM2.c3;rw[←fK.out]at c0;rw[←hcl.out]at c3;have f1:w2.cell? ⟨w.heap.size,1,none⟩=some (.int .i64 t):=by simp[World.cell?,hX2]
        have j0:w2.cell? ⟨w1.heap.size,0,none⟩=some (.int .i64 x1):=by simp[World.cell?,hJ2]
        have j2:w2.cell? ⟨w1.heap.size,2,none⟩=some (.int .i64 x3):=by simp[World.cell?,hJ2]
        have j3:w2.cell? ⟨w1.heap.size,3,none⟩=some (.int .i64 x4):=by simp[World.cell?,hJ2]
        have j5:w2.cell? ⟨w1.heap.size,5,none⟩=some (.int .i64 1):=by simp[World.cell?,hJ2]
        have j8:w2.cell? ⟨w1.heap.size,8,none⟩=some (.int .i64 x9):=by simp[World.cell?,hJ2]
        clear hb1 hX2 hJ2 hM2 aC sU hsA;go_wp2_with fail;rw[←hw2];replace hw2:=qae hw2;go_region
        all_goals(try go_wp2_with fail)
        go_ret;exact⟨rfl,hb2.out.drew⟩
       ·have m5:decide (x9≤t)=false:=qah k5;rw[qai (by simp;omega)];go_enter func50,ntmps50;go_wp2_with fail;go_at_call 112;refine hgt.mono ?_;clear hgt;rw[←aj];rintro e w1 ⟨rfl,hb1⟩;replace aj:=qae aj;obtain⟨w2,hw2⟩:=qaa (w1.alloc (.cells #[.int .i64 x1,.int .i64 x2,.int .i64 x3,.int .i64 x4,.int .i64 x5,.int .i64 1,.int .i64 x7,.int .i64 x8,.int .i64 x9,.int .u64 x0] 55));have hb2:Hid (Below w.heap.size w w2):=by show Below _ _ _;rw[hw2];exact(aC.out.trans (hb1.mono aC.out.size)).alloc (by have:=hb1.size;omega) _
        have hX2:w2.heap[w.heap.size]? =some (.cells #[.int .i64 id,.int .i64 t] 35 (0,0)):=by rw[hw2];exact aJ ((hb1.block _ (by omega)).trans sU.out)
        have hJ2:w2.heap[w1.heap.size]? =some (.cells #[.int .i64 x1,.int .i64 x2,.int .i64 x3,.int .i64 x4,.int .i64 x5,.int .i64 1,.int .i64 x7,.int .i64 x8,.int .i64 x9,.int .u64 x0] 55 (0,0)):=by rw[hw2];exact heap_alloc_new w1 _
        have hM2:=hM.out.below hb2.out;have c0:=hM2.c0;have c3:=hM2.c3;rw[←fK.out]at c0;rw[←hcl.out]at c3;have f1:w2.cell? ⟨w.heap.size,1,none⟩=some (.int .i64 t):=by simp[World.cell?,hX2]
        have j0:w2.cell? ⟨w1.heap.size,0,none⟩=some (.int .i64 x1):=by simp[World.cell?,hJ2]
        have j2:w2.cell? ⟨w1.heap.size,2,none⟩=some (.int .i64 x3):=by simp[World.cell?,hJ2]
        have j3:w2.cell? ⟨w1.heap.size,3,none⟩=some (.int .i64 x4):=by simp[World.cell?,hJ2]
        have j5:w2.cell? ⟨w1.heap.size,5,none⟩=some (.int .i64 1):=by simp[World.cell?,hJ2]
        have j8:w2.cell? ⟨w1.heap.size,8,none⟩=some (.int .i64 x9):=by simp[World.cell?,hJ2]
        have hrm:=fun W (hW:Below w2.heap.size w2 W)=>Ji (hM2.below hW) hB.out t x4 x3 x1 (by omega) hlim;clear hb1 hX2 hJ2 hM2 aC sU hsA;go_wp2_with fail;rw[←hw2];replace hw2:=qae hw2;go_region
        all_goals(try go_wp2_with fail)
        go_at_call 113;refine(hrm _ qac.drew).mono ?_;clear hrm;rintro e w4 ⟨rfl,hb4⟩;have hb5:Hid (Below w.heap.size w w4):=hb2.out.trans (((Below.refl w2.heap.size w2).drew).trans (hb4.mono (qaf _)) |>.mono hb2.out.size);clear hb4;go_wp2_with fail;go_ret;exact⟨rfl,hb5.out⟩
      ·have m4:decide (0≤x9)=false:=qah k4;rw[qai (by simp;omega)];go_enter func50,ntmps50;go_wp2_with fail;go_at_call 112;refine hgt.mono ?_;clear hgt;rw[←aj];rintro e w1 ⟨rfl,hb1⟩;replace aj:=qae aj;obtain⟨w2,hw2⟩:=qaa (w1.alloc (.cells #[.int .i64 x1,.int .i64 x2,.int .i64 x3,.int .i64 x4,.int .i64 x5,.int .i64 1,.int .i64 x7,.int .i64 x8,.int .i64 x9,.int .u64 x0] 55));have hb2:Hid (Below w.heap.size w w2):=by show Below _ _ _;rw[hw2];exact(aC.out.trans (hb1.mono aC.out.size)).alloc (by have:=hb1.size;omega) _
       have hX2:w2.heap[w.heap.size]? =some (.cells #[.int .i64 id,.int .i64 t] 35 (0,0)):=by rw[hw2];exact aJ ((hb1.block _ (by omega)).trans sU.out)
       have hJ2:w2.heap[w1.heap.size]? =some (.cells #[.int .i64 x1,.int .i64 x2,.int .i64 x3,.int .i64 x4,.int .i64 x5,.int .i64 1,.int .i64 x7,.int .i64 x8,.int .i64 x9,.int .u64 x0] 55 (0,0)):=by rw[hw2];exact heap_alloc_new w1 _
       have hM2:=hM.out.below hb2.out;have c0:=hM2.c0;have c3:=hM2.c3;rw[←fK.out]at c0;rw[←hcl.out]at c3;have f1:w2.cell? ⟨w.heap.size,1,none⟩=some (.int .i64 t):=by simp[World.cell?,hX2]
       have j0:w2.cell? ⟨w1.heap.size,0,none⟩=some (.int .i64 x1):=by simp[World.cell?,hJ2]
       have j2:w2.cell? ⟨w1.heap.size,2,none⟩=some (.int .i64 x3):=by simp[World.cell?,hJ2]
       have j3:w2.cell? ⟨w1.heap.size,3,none⟩=some (.int .i64 x4):=by simp[World.cell?,hJ2]
       have j5:w2.cell? ⟨w1.heap.size,5,none⟩=some (.int .i64 1):=by simp[World.cell?,hJ2]
       have j8:w2.cell? ⟨w1.heap.size,8,none⟩=some (.int .i64 x9):=by simp[World.cell?,hJ2]
       have hrm:=fun W (hW:Below w2.heap.size w2 W)=>Ji (hM2.below hW) hB.out t x4 x3 x1 (by omega) hlim;clear hb1 hX2 hJ2 hM2 aC sU hsA;go_wp2_with fail;rw[←hw2];replace hw2:=qae hw2;go_region
       all_goals(try go_wp2_with fail)
       go_at_call 113;refine(hrm _ qac.drew).mono ?_;clear hrm;rintro e w4 ⟨rfl,hb4⟩;have hb5:Hid (Below w.heap.size w w4):=hb2.out.trans (((Below.refl w2.heap.size w2).drew).trans (hb4.mono (qaf _)) |>.mono hb2.out.size);clear hb4;go_wp2_with fail;go_ret;exact⟨rfl,hb5.out⟩
   ·have m1:(x6 != 1)=true:=by simp[k1]
    rw[qaj (.inr (.inr (.inl k1)))];go_enter func50,ntmps50;go_wp2_with fail;go_at_call 112;refine hgt.mono ?_;clear hgt;rw[←aj];rintro e w1 ⟨rfl,hb1⟩;replace aj:=qae aj;obtain⟨w2,hw2⟩:=qaa (w1.alloc (.cells #[.int .i64 x1,.int .i64 x2,.int .i64 x3,.int .i64 x4,.int .i64 x5,.int .i64 x6,.int .i64 x7,.int .i64 x8,.int .i64 x9,.int .u64 x0] 55));have hb2:Hid (Below w.heap.size w w2):=by show Below _ _ _;rw[hw2];exact(aC.out.trans (hb1.mono aC.out.size)).alloc (by have:=hb1.size;omega) _
    have hX2:w2.heap[w.heap.size]? =some (.cells #[.int .i64 id,.int .i64 t] 35 (0,0)):=by rw[hw2];exact aJ ((hb1.block _ (by omega)).trans sU.out)
    have hJ2:w2.heap[w1.heap.size]? =some (.cells #[.int .i64 x1,.int .i64 x2,.int .i64 x3,.int .i64 x4,.int .i64 x5,.int .i64 x6,.int .i64 x7,.int .i64 x8,.int .i64 x9,.int .u64 x0] 55 (0,0)):=by rw[hw2];exact heap_alloc_new w1 _
    have hM2:=hM.out.below hb2.out;have c0:=hM2.c0;have c3:=hM2.c3;rw[←fK.out]at c0;rw[←hcl.out]at c3;have f1:w2.cell? ⟨w.heap.size,1,none⟩=some (.int .i64 t):=by simp[World.cell?,hX2]
    have j0:w2.cell? ⟨w1.heap.size,0,none⟩=some (.int .i64 x1):=by simp[World.cell?,hJ2]
    have j2:w2.cell? ⟨w1.heap.size,2,none⟩=some (.int .i64 x3):=by simp[World.cell?,hJ2]
    have j3:w2.cell? ⟨w1.heap.size,3,none⟩=some (.int .i64 x4):=by simp[World.cell?,hJ2]
    have j5:w2.cell? ⟨w1.heap.size,5,none⟩=some (.int .i64 x6):=by simp[World.cell?,hJ2]
    have j8:w2.cell? ⟨w1.heap.size,8,none⟩=some (.int .i64 x9):=by simp[World.cell?,hJ2]
    clear hb1 hX2 hJ2 hM2 aC sU hsA;go_wp2_with fail;rw[←hw2];replace hw2:=qae hw2;go_region
    all_goals(try go_wp2_with fail)
    go_ret;exact⟨rfl,hb2.out.drew⟩
 ·skip
  rw[qaj (.inl rfl)];go_enter func50,ntmps50;go_wp2_with fail;go_at_call 112;refine hgt.mono ?_;clear hgt;rw[←aj];rintro e w1 ⟨rfl,hb1⟩;replace aj:=qae aj;obtain⟨w2,hw2⟩:=qaa (w1.alloc (.cells #[.int .i64 x1,.int .i64 x2,.int .i64 x3,.int .i64 x4,.int .i64 x5,.int .i64 x6,.int .i64 x7,.int .i64 x8,.int .i64 x9,.int .u64 x0] 55));have hb2:Hid (Below w.heap.size w w2):=by show Below _ _ _;rw[hw2];exact(aC.out.trans (hb1.mono aC.out.size)).alloc (by have:=hb1.size;omega) _
  have hX2:w2.heap[w.heap.size]? =some (.cells #[.int .i64 id,.int .i64 t] 35 (0,0)):=by rw[hw2];exact aJ ((hb1.block _ (by omega)).trans sU.out)
  have hJ2:w2.heap[w1.heap.size]? =some (.cells #[.int .i64 x1,.int .i64 x2,.int .i64 x3,.int .i64 x4,.int .i64 x5,.int .i64 x6,.int .i64 x7,.int .i64 x8,.int .i64 x9,.int .u64 x0] 55 (0,0)):=by rw[hw2];exact heap_alloc_new w1 _
  have hM2:=hM.out.below hb2.out;have c0:=hM2.c0;have c3:=hM2.c3;rw[←fK.out]at c0;rw[←hcl.out]at c3;have f1:w2.cell? ⟨w.heap.size,1,none⟩=some (.int .i64 t):=by simp[World.cell?,hX2]
  have j0:w2.cell? ⟨w1.heap.size,0,none⟩=some (.int .i64 x1):=by simp[World.cell?,hJ2]
  have j2:w2.cell? ⟨w1.heap.size,2,none⟩=some (.int .i64 x3):=by simp[World.cell?,hJ2]
  have j3:w2.cell? ⟨w1.heap.size,3,none⟩=some (.int .i64 x4):=by simp[World.cell?,hJ2]
  have j5:w2.cell? ⟨w1.heap.size,5,none⟩=some (.int .i64 x6):=by simp[World.cell?,hJ2]
  have j8:w2.cell? ⟨w1.heap.size,8,none⟩=some (.int .i64 x9):=by simp[World.cell?,hJ2]
  clear hb1 hX2 hJ2 hM2 aC sU hsA;go_wp2_with fail;rw[←hw2];replace hw2:=qae hw2;go_region
  all_goals(try go_wp2_with fail)
  go_ret;exact⟨rfl,hb2.out.drew⟩
end
end Go.Proofs.YtaimcpmcndapcaaGreat
