/-
 Own words and walks, merged: part 1 of 8.
-/
import Derived.WalkKit
import Derived.ProofKit
import Derived.OpenShut
import Derived.Deep.Slices
import Derived.Deep.Fields
import Derived.ChangeSame
import Derived.Laws.AppendOwn
import Derived.Test.YtaimcpmcndapcaaGreatChecked
import Derived.WalkSpells
import Derived.WalkLawsBesides
import Derived.Deep.DeepMust
import Derived.Lib.Hide
import Derived.LaidEql
import Derived.Sort.Grow
import Derived.Shelf.GgSortFunc.RowK
import Derived.Shelf.SlicesQ.Load
import Derived.Deep.AppendSrc
import Derived.Lib.OwnBridge
import Derived.Lib.AppendZerosOnto
import Derived.Lib.Overlaps
import Derived.Laws.CopyRow
import Derived.Laws.Externs
import Derived.Laws.Rows
import Derived.Orders
set_option maxRecDepth 1000000
set_option maxHeartbeats 8000000
set_option linter.all false
namespace Go.Proofs.YtaimcpmcndapcaaGreat
open Go.Proofs.Tryz
theorem qaa.{u}{a:Sort u}(y:a):∃x,x=y:=⟨y,rfl⟩
theorem qab.{u}{a:Sort u}(y:a):∃x,y=x:=⟨y,rfl⟩
open Go Go.RowKit in
theorem qac {B:Nat}{w:World}:Below B w w:=Below.refl B w
open Go in
theorem qae {p:Prop}(h:p):RowKit.Hid p:=Lib.hid h
theorem qaf (n:Nat):n≤n:=Nat.le_refl n
theorem qag {p:Prop}[i:Decidable p]:p→decide p=true:=decide_eq_true
theorem qah {p:Prop}[i:Decidable p]:¬p→decide p=false:=decide_eq_false
theorem qai.{u}{c:Prop}{h:Decidable c}(n:¬c){a:Sort u}{t e:a}:ite c t e=e:=if_neg n
theorem qaj.{u}{c:Prop}{h:Decidable c}(n:c){a:Sort u}{t e:a}:ite c t e=t:=if_pos n
theorem xA.{u}{a:Type u}(l:List a)(i:Nat)(x:a):l.toArray.setIfInBounds i x=(l.set i x).toArray:=List.setIfInBounds_toArray l i x
theorem xB.{u}{a:Type u}{x:a}{xs:List a}{y:a}:(x::xs).set 0 y=y::xs:=rfl
theorem xC.{u}{a:Type u}{x:a}{xs:List a}{i:Nat}{y:a}:(x::xs).set (i+1) y=x::xs.set i y:=rfl
theorem xD.{u}{a:Type u}(l:List a): []++l=l:=rfl
theorem xE.{u}{a:Type u}{x:a}{l k:List a}:x::l++k=x::(l++k):=rfl
open Go.ChangeShapes Go.WideShapes Go.RowKit
theorem sU {H:Type}{enc:TypeId×Value→H}{P:Program}(hl:laidOutB P=true){W W':World}(hb:Below W.heap.size W W'){sp:Nat→Bool}:
 ∀(ts:List TypeId) (vs:List Value) (ds:List (DataW H)) (ps:List MemPlace),(∀t∈ts,P.readableRec t=true∧t<P.types.size)→(∀x∈ps,x.block<W.heap.size∧sp x.block=true)→
  DataW.TrodAll enc P W 0 (fun _=>true) true ts vs ds ps→DataW.TrodAll enc P W' 0 sp true ts vs ds ps
 | [],vs,ds,ps,_,_,h=>by
   obtain⟨rfl,rfl,rfl⟩:=trodAll_nil h;exact trodAll_mk0
 |t::ts,vs,ds,ps,hr,hp,h=>by
  obtain⟨v,vs1,d,ds1,a,b,rfl,rfl,rfl,h1,h2⟩:=trodAll_cons h;refine⟨a,b,?_,sU hl hb ts vs1 ds1 b (fun t ht=>hr t (List.mem_cons_of_mem _ ht)) (fun x hx=>hp x (List.mem_append_right _ hx)) h2,rfl⟩;exact WideElems.Trod_stays hl (hr t (List.mem_cons_self ..)).1 (hr t (List.mem_cons_self ..)).2 h1 (fun x hx=>hb.same (hp x (List.mem_append_left _ hx)).1) (fun x hx=>(hp x (List.mem_append_left _ hx)).2)
theorem NR {H:Type}{enc:TypeId×Value→H}{P:Program}{f:Func}{s:ChangeSpec}{apart fresh handsOn again:Bool}{W W':World}{args:Array Value}{ds:List (DataW H)}{before:List MemPlace}{tb:TypeId}
 (hW:DataW.Whole enc P f.params.toList s.vars apart W args.toList ds [] before) (hvars:s.vars=[]) (hfn:s.fn H (ds++[])={results:=[.lit (.bool true)],args:=ds,vars:=[]})
 (hrt:f.resultTypes= #[tb]) (htb:P.underlying tb=some .bool) (hl:laidOutB P=true) (hr:∀t∈f.params.toList,P.readableRec t=true∧t<P.types.size) (hb:Below W.heap.size W W'):
 s.post enc P f apart fresh handsOn again W args (.bool true) W':=by
 have hlt:=fun p hp=>hW.lt p hp;obtain⟨p,q,hA,hV,hps,hz,hn⟩:=hW;have hW0:DataW.Whole enc P f.params.toList s.vars apart W args.toList ds [] before:=⟨p,q,hA,hV,hps,hz,hn⟩;rw[hvars]at hV;obtain⟨_,rfl⟩:=trodVars_none hV;rw[List.append_nil]at hps;subst hps;have hold:∀x∈before,x.block<W.heap.size∧(fun b=>decide (b<W.heap.size)) x.block=true:=fun x hx=>by have:=hlt x hx;exact⟨this,by simpa using this⟩
 have hres:∀(b:Nat) (sp:Nat→Bool) (hd:Bool),DataW.TrodAll enc P W' b sp hd f.resultTypes.toList ((Value.bool true).resultList f.resultTypes.size) (s.fn H (ds++[])).results []:=by
  intro b sp hd;rw[hrt,hfn];exact trodAll_mk1 (shut_bool htb true)
 have hargs:∀sp:Nat→Bool,(∀x∈before,sp x.block=true)→DataW.TrodAll enc P W' 0 sp true f.params.toList args.toList (s.fn H (ds++[])).args before:=by
  intro sp hsp;rw[hfn];exact sU hl hb _ _ _ _ hr (fun x hx=>⟨(hold x hx).1,hsp x hx⟩) hA
 have hvs:∀sp:Nat→Bool,DataW.TrodVars enc P W' sp s.vars (s.fn H (ds++[])).vars []:=by
  intro sp;rw[hfn,hvars];rfl
 refine⟨ds,[],before,[],before,[],hW0,hres _ _ _,hargs _ fun x hx=>(hold x hx).2,hvs _,World.keptBut_mono (fun x hx=>⟨hx,by first|exact Or.inr hx|(right;simpa using hx)⟩) (hb.frame (·∈before)),fun _=>?_⟩;refine⟨ok_one hrt rfl (okWide_bool_mk htb true),_,_,([]++before)++[],⟨[]++before,[],trodAll_append (hargs _ (fun _ _=>rfl)) (hres _ _ _),hvs _,rfl,?_,?_⟩,?_⟩
 ·intro b off hp;have hp:MemPlace.cell b off∈before:=by simpa using hp
  rw[hb.frozen (p:=⟨b,off,none⟩) (hold _ hp).1];exact hz b off hp
 ·intro ha;simpa using hn ha
 ·intro x hx _;simpa using hx
theorem TE {P:Program}{l:List TypeId}(h:(l.all fun t=>P.readableRec t&&decide (t<P.types.size))=true):∀t∈l,P.readableRec t=true∧t<P.types.size:=by
 intro t ht;have:=List.all_eq_true.1 h t ht;simpa using this
open Go.ChangeAt Go.Deep
def aC {α:Type}(enc:α→List Value)(sz:Nat)(w:World)(v:Value)(l:List α):Prop:=
 ∃ao cap,v=.slice ao l.length cap∧l.length≤cap∧cap≤maxLen∧
  (0<l.length→∃b off,ao=some ⟨b,off,none⟩∧b<w.heap.size∧∀i s j u,l[i]? =some s→(enc s)[j]? =some u→w.cell? ⟨b,off+(i*sz+j),none⟩=some u)
section
variable {α : Type} {enc : α → List Value} {sz : Nat} {w w' : World} {v : Value} {l : List α}
theorem aC.below (h:aC enc sz w v l)(hb:Below w.heap.size w w'):aC enc sz w' v l:=by
 obtain⟨ao,cap,h1,h2,h3,h4⟩:=h;refine⟨ao,cap,h1,h2,h3,fun hn=>?_⟩;obtain⟨b,off,e,hlt,hc⟩:=h4 hn;refine⟨b,off,e,Nat.lt_of_lt_of_le hlt hb.size,fun i s j u hi hj=>?_⟩;rw[hb.cell (p:=⟨b,_,none⟩) hlt];exact hc i s j u hi hj
theorem aC.nil (w:World):aC enc sz w (.slice none 0 0) ([]:List α):=⟨none,0,rfl,qaf _,Nat.zero_le _,fun h=>absurd h (by simp)⟩
theorem aC.cut {ao:Option Addr}{m cap n:Nat}(h:aC enc sz w (.slice ao m cap) l)(hn:n≤l.length):aC enc sz w (.slice ao n cap) (l.take n):=by
 obtain⟨Kn,cap',e,h2,h3,h4⟩:=h;cases e;have hl:(l.take n).length=n:=by rw[List.length_take];omega
 refine⟨ao,cap,by rw[hl],by omega,h3,fun hp=>?_⟩;obtain⟨b,off,e,hlt,hc⟩:=h4 (by omega);refine⟨b,off,e,hlt,fun i s j u hi hj=>hc i s j u ?_ hj⟩;rw[List.getElem?_take]at hi;split at hi
 ·exact hi
 ·cases hi
theorem aC.fA {base:Nat}{e:TypeId}{n:Nat}{xs:List Value}(h:w.ownsRow base e sz v n xs)(hlen:∀s,(enc s).length=sz)(hx:xs=l.flatMap enc)(hn:n=l.length):aC enc sz w v l:=by
 subst hx;subst hn;rcases h.2 with⟨rfl,h0⟩|⟨g,cap,cur,rfl,_,hg,hc1,hc2,_,_⟩
 ·have:l=[]:=by
   rcases l with _|⟨s,l⟩
   ·rfl
   ·simp at h0
  subst this;exact aC.nil w
 ·refine⟨_,_,rfl,hc1,hc2,fun _=>⟨g,0,rfl,?_,fun i s j u hi hj=>?_⟩⟩
  ·rcases Nat.lt_or_ge g w.heap.size with hlt|hge
   ·exact hlt
   ·rw[Array.getElem?_eq_none hge]at hg;cases hg
  ·have hj':j<sz:=by rw[←hlen s];exact(List.getElem?_eq_some_iff.1 hj).1
   have key:∀(l:List α) (i:Nat),l[i]? =some s→(l.flatMap enc)[i*sz+j]? =some u:=by
    intro l
    induction l with
    |nil=>intro i hi;simp at hi
    |cons a l ih=>
     intro i hi;rw[List.flatMap_cons];rcases i with _|i
     ·simp at hi;subst hi;rw[List.getElem?_append_left (by rw[hlen];omega)];simpa using hj
     ·rw[List.getElem?_append_right (by rw[hlen,Nat.add_mul];omega),hlen];have:=ih i (by simpa using hi);rw[←this];congr 1;rw[Nat.add_mul];omega
   have:=h.cells (g:=g) rfl (i*sz+j) u (key l i hi);rw[Go.WideShapes.add_plain]at this;simpa using this
end
section
end
theorem oC {w:World}{n:Nat}{e:TypeId}{vs:List Value}(hn:n=w.heap.size):∀j u,vs[j]? =some u→(w.alloc (.cells vs.toArray e)).cell? ((⟨n,0,none⟩:Addr).add j)=some u:=by
 subst hn;intro j u hj;rw[Go.WideShapes.add_plain,cell_of_row _ _ _ vs.toArray e (0,0) (heap_alloc_new w _)];simpa using hj
open Go.Lib
abbrev Jb :Type:=Int×Int×Int×Int×Int×Int×Int×Int×Int×Int
instance : DecidableEq Jb := (@instDecidableEqProd _ _ (inferInstanceAs (DecidableEq Int)) (@instDecidableEqProd _ _ (inferInstanceAs (DecidableEq Int)) (@instDecidableEqProd _ _ (inferInstanceAs (DecidableEq Int)) (@instDecidableEqProd _ _ (inferInstanceAs (DecidableEq Int)) (@instDecidableEqProd _ _ (inferInstanceAs (DecidableEq Int)) (@instDecidableEqProd _ _ (inferInstanceAs (DecidableEq Int)) (@instDecidableEqProd _ _ (inferInstanceAs (DecidableEq Int)) (@instDecidableEqProd _ _ (inferInstanceAs (DecidableEq Int)) (@instDecidableEqProd _ _ (inferInstanceAs (DecidableEq Int)) (inferInstanceAs (DecidableEq Int)))))))))))
instance : Inhabited Jb := ⟨(0, 0, 0, 0, 0, 0, 0, 0, 0, 0)⟩
def Jb.id (j:Jb):Int:=j.1
def Jb.prio (j:Jb):Int:=j.2.2.2.2.1
def ah (j:Jb):List Value:=[.int .i64 j.1,.int .i64 j.2.1,.int .i64 j.2.2.1,.int .i64 j.2.2.2.1,.int .i64 j.2.2.2.2.1,.int .i64 j.2.2.2.2.2.1,.int .i64 j.2.2.2.2.2.2.1,.int .i64 j.2.2.2.2.2.2.2.1,.int .i64 j.2.2.2.2.2.2.2.2.1,.int .u64 j.2.2.2.2.2.2.2.2.2]
theorem ay (j:Jb):(ah j).length=10:=rfl
theorem dH (j:Jb):∀v∈ah j,v.oneCell'=true:=by
 intro v hv;simp[ah]at hv;rcases hv with rfl|rfl|rfl|rfl|rfl|rfl|rfl|rfl|rfl|rfl<;>rfl
def aP (a b:Jb):Bool:=decide (b.prio<a.prio)||(decide (a.prio=b.prio)&&decide (a.id<b.id))
def zx (a b:Jb):Int:=if aP a b then-1 else if aP b a then 1 else 0
theorem G6 {a b:Jb}(h:aP a b=true):aP b a=false:=by
 unfold aP at*;simp only[Bool.or_eq_true,Bool.and_eq_true,decide_eq_true_eq]at h;simp only[Bool.or_eq_false_iff,Bool.and_eq_false_iff,decide_eq_false_iff_not];omega
theorem G9 (a b:Jb):decide (zx a b<0)=aP a b:=by
 unfold zx;cases h:aP a b with
 |true=>rfl
 |false=>cases aP b a<;>rfl
section
set_option maxRecDepth 100000
theorem Fb (x y:Jb)(w:World):(Op.equalIn 10000 55 (.agg (ah x).toArray) (.agg (ah y).toArray)).run prog w=.ok (decide (x=y)) w:=by
 have u2:=underlying2;have a2:=isAgg2;have z2:=sizeOf2;have u3:=underlying3;have a3:=isAgg3;have z3:=sizeOf3;have u4:=underlying53;have a4:=isAgg53;have z4:=sizeOf53;have hS:prog.underlying 55=some (.struct (prog.fieldsOf 55)):=by kernel_rfl
 have hp:prog.stoodInHeld 55=false:=by kernel_rfl
 rw[show(10000:Nat)=9999+1 from rfl,run_equalIn_agg w 9999 55 _ _ hS hp];simp only[Program.fieldsOf,underlying55];obtain⟨x1,x2,x3,x4,x5,x6,x7,x8,x9,x0⟩:=x;obtain⟨y1,y2,y3,y4,y5,y6,y7,y8,y9,y0⟩:=y;simp only[ah];go_simp;by_cases h1:x1=y1
 ·by_cases h2:x2=y2
  ·by_cases h3:x3=y3
   ·by_cases h4:x4=y4
    ·by_cases h5:x5=y5
     ·by_cases h6:x6=y6
      ·by_cases h7:x7=y7
       ·by_cases h8:x8=y8
        ·by_cases h9:x9=y9
         ·by_cases h0:x0=y0<;>simp[h1,h2,h3,h4,h5,h6,h7,h8,h9,h0]
         ·simp[h1,h2,h3,h4,h5,h6,h7,h8,h9]
        ·simp[h1,h2,h3,h4,h5,h6,h7,h8]
       ·simp[h1,h2,h3,h4,h5,h6,h7]
      ·simp[h1,h2,h3,h4,h5,h6]
     ·simp[h1,h2,h3,h4,h5]
    ·simp[h1,h2,h3,h4]
   ·simp[h1,h2,h3]
  ·simp[h1,h2]
 ·simp[h1]
theorem Qg (x y:Jb)(w:World):(binOp .neq 55 (.agg (ah x).toArray) (.agg (ah y).toArray)).run prog w=.ok (.bool (!decide (x=y))) w:=by
 rw[run_neq_struct,Fb];rfl
end
def Jb.wid (j:Jb):Int:=j.2.2.1
def Jb.lim (j:Jb):Int:=j.2.2.2.1
def Jb.st (j:Jb):Int:=j.2.2.2.2.2.1
def Jb.iO (j:Jb):Int:=j.2.2.2.2.2.2.1
def Jb.fin (j:Jb):Int:=j.2.2.2.2.2.2.2.1
def Jb.aJ (j:Jb):Int:=j.2.2.2.2.2.2.2.2.1
def Jb.bQ (j:Jb):Int:=j.2.2.2.2.2.2.2.2.2
def Jb.setSt (j:Jb)(s:Int):Jb:=(j.1,j.2.1,j.2.2.1,j.2.2.2.1,j.2.2.2.2.1,s,j.2.2.2.2.2.2.1,j.2.2.2.2.2.2.2.1,j.2.2.2.2.2.2.2.2.1,j.2.2.2.2.2.2.2.2.2)
def Jb.aH (j:Jb)(t:Int):Jb:=(j.1,j.2.1,j.2.2.1,j.2.2.2.1,j.2.2.2.2.1,j.2.2.2.2.2.1,j.2.2.2.2.2.2.1,j.2.2.2.2.2.2.2.1,t,j.2.2.2.2.2.2.2.2.2)
def Jb.TF (j:Jb)(t:Int):Jb:=(j.1,j.2.1,j.2.2.1,j.2.2.2.1,j.2.2.2.2.1,j.2.2.2.2.2.1,j.2.2.2.2.2.2.1,t,j.2.2.2.2.2.2.2.2.1,j.2.2.2.2.2.2.2.2.2)
structure Md where
 now:Int
 dr:List Bool
 L:List Jb
 cl:Bool
def cZ (s n:Nat):Bool:=decide (s/2^n %2=1)
def aI (k:Nat)(j:Jb):Bool:=decide (j.st=3)&&cZ j.bQ.toNat k
def holderL (L:List Jb)(k:Nat):Int:=match L.findIdx? (aI k)with|some i=>(i:Int)|none=> -1
def aU (M:Md)(n:Int):Int:=
 if n<0∨(M.dr.length:Int)≤n then 0
 else if 0≤holderL M.L n.toNat then(if M.dr.getD n.toNat false then 3 else 2)else if M.dr.getD n.toNat false then 4 else 1
def aj (j:Jb):Bool:=decide (j.st=1)&&decide (0≤j.aJ)
def bP (M:Md)(t:Int)(k:Nat):Bool:=!(M.dr.getD k false)&&(decide (holderL M.L k<0)||decide ((M.L.getD (holderL M.L k).toNat default).fin≤t))
def jH (t but:Int)(j:Jb):Bool:=aj j&&decide (j.id≠but)&&decide (j.aJ≤t)&&decide (t<j.aJ+j.lim)
def aM (M:Md)(t:Int)(k:Nat):Int:=(((List.range k).countP (bP M t):Nat):Int)
def bT (L:List Jb)(t but:Int):Int:=((L.filter (jH t but)).map Jb.wid).sum
def ax (M:Md)(t but:Int):Int:=aM M t M.dr.length-bT M.L t but
def oD (Qh t last:Int):Int:=if last<t∧(Qh<0∨t<Qh)then t else Qh
def Fe (last:Int)(b:Int)(j:Jb):Int:=
 let b1:=if j.st=3 then oD b j.fin last else b
 if aj j then oD (oD b1 j.aJ last) (j.aJ+j.lim) last else b1
def ko (L:List Jb)(last:Int):Int:=L.foldl (Fe last) (-1)
def timesGo (L:List Jb):Nat→Int→List Int
 |0,_=>[]
 |n+1,last=>if ko L last<0 then[]else ko L last::timesGo L n (ko L last)
def mV (M:Md):List Int:=M.now::timesGo M.L (2*M.L.length) M.now
def stepOn (M:Md)(acc:List (Int×Int))(t:Int):List (Int×Int):=
 match acc.getLast? with
 |some s=>if s.2=ax M t 0 then acc else acc++[(t,ax M t 0)]
 |none=>acc++[(t,ax M t 0)]
def uH (M:Md):List (Int×Int):=(mV M).foldl (stepOn M) []
def yx (M:Md)(at' long width but:Int):Bool:=
 decide (width≤ax M at' but)&&(mV M).all fun t=>!(decide (at'<t)&&decide (t<at'+long)&&decide (ax M t but<width))
def getM (M:Md)(id:Int):Jb×Bool:=if id<1∨(M.L.length:Int)<id then(default,false)else(M.L.getD (id-1).toNat default,true)
def eF (M:Md)(id at':Int):Bool:=
 let j:=(getM M id).1
 if M.cl=true∨(getM M id).2=false∨j.st≠1∨at'<M.now∨1099511627776<at'∨(0≤j.aJ∧j.aJ≤at')then false
 else yx M at' j.lim j.wid j.id
def gN (j x:Jb):Jb:=if aj x&&(decide (j.id=0)||aP j x)then x.aH (-1)else x
def fB (M:Md)(j:Jb):Md:={M with L:=M.L.map (gN j)}
def lowGo (M:Md)(wid:Int):Nat→Nat×Int
 |0=>(0,0)
 |k+1=>if(lowGo M wid k).2<wid∧aU M k=1 then((lowGo M wid k).1+2^k,(lowGo M wid k).2+1)else lowGo M wid k
def iM (M:Md)(wid:Int):Nat:=(lowGo M wid M.dr.length).1
def fC (M:Md)(j:Jb):Jb:=(j.1,j.2.1,j.2.2.1,j.2.2.2.1,j.2.2.2.2.1,3,M.now,M.now+j.lim,-1,(iM M j.wid:Int))
def aX (M:Md)(i:Nat):Md:={M with L:=M.L.set i (fC M (M.L.getD i default))}
def aL (M:Md)(id at':Int):Bool×Md:=
 if eF M id at' then
  if at'=M.now then(true,aX M (id-1).toNat)
  else(true,{M with L:=M.L.set (id-1).toNat ((M.L.getD (id-1).toNat default).aH at')})
 else(false,M)
abbrev Rl :Type:=Int×Int×Int×Int×Int×Int×Int×Int×Int
def fJ (e:Int):Rl:=(e,0,0,0,0,0,0,0,0)
def nH (j:Jb):Rl:=(0,j.id,j.st,j.iO,j.fin,j.aJ,j.wid,j.prio,0)
def Ff (M:Md):Nat:=M.L.countP fun j=>decide (j.st<4)
structure Rw where
 kind:Int
 id:Int
 usr:Int
 wid:Int
 lim:Int
 prio:Int
 held:Bool
 node:Int
 by':Int
def dC (M:Md)(r:Rw):Jb:=((M.L.length:Int)+1,r.usr,r.wid,r.lim,r.prio,if r.held then 2 else 1,-1,-1,-1,0)
def iy (M:Md)(r:Rw):Int:=
 if r.usr<0∨255<r.usr∨r.prio<0∨1000<r.prio then 1
 else if r.wid<1∨(M.dr.length:Int)<r.wid then 9
 else if r.lim<1∨1048576<r.lim then 10
 else if 63<Ff M∨1023<M.L.length then 6 else 0
def jL (M:Md)(r:Rw):Rl×Md:=
 if iy M r≠0 then(fJ (iy M r),M)
 else if r.held then(nH (dC M r),{M with L:=M.L++[dC M r]})
 else(nH (dC M r),fB {M with L:=M.L++[dC M r]} (dC M r))
def iN (M:Md)(kind:Int)(j:Jb):Jb:=((if j.st=3 then j.TF M.now else j).aH (-1)).setSt (if kind=5 then 4 else 5)
def ma (M:Md)(r:Rw):Rl×Md:=
 let j:=(getM M r.id).1
 if(getM M r.id).2=false then(fJ 7,M)
 else if 3<j.st∨(r.kind=5∧j.st≠3)then(fJ 8,M)
 else(nH (iN M r.kind j),{M with L:=M.L.set (r.id-1).toNat (iN M r.kind j)})
def fD (kind:Int)(j:Jb):Jb:=if kind=3 then(j.setSt 2).aH (-1)else if kind=4 then j.setSt 1 else j
def fZ (M:Md)(r:Rw):Rl×Md:=
 let j:=(getM M r.id).1
 if(getM M r.id).2=false then(fJ 7,M)
 else if(r.kind=3∧j.st≠1)∨(r.kind=4∧j.st≠2)then(fJ 8,M)
 else if r.kind=4 then(nH (fD r.kind j),fB {M with L:=M.L.set (r.id-1).toNat (fD r.kind j)} (fD r.kind j))
 else(nH (fD r.kind j),{M with L:=M.L.set (r.id-1).toNat (fD r.kind j)})
def kY :Jb:=default
def fI (M:Md)(n:Nat)(b:Bool):Md:=
 if b then{fB M kY with dr:=M.dr.set n true}else{M with dr:=M.dr.set n false}
def ik (M:Md)(r:Rw):Rl×Md:=
 if r.node<0∨(M.dr.length:Int)≤r.node then(fJ 11,M)
 else if M.dr.getD r.node.toNat false=decide (r.kind=7)then(fJ 8,M)
 else((0,r.node,aU (fI M r.node.toNat (decide (r.kind=7))) r.node,0,0,0,0,0,0),fI M r.node.toNat (decide (r.kind=7)))
def Fg (now:Int)(b:Int)(j:Jb):Int:=
 let b1:=if j.st=3 then oD b j.fin now else b
 if aj j then oD b1 j.aJ now else b1
def aV (M:Md):Int:=M.L.foldl (Fg M.now) (-1)
def aW (now:Int)(j:Jb):Jb:=if j.st=3∧j.fin=now then j.setSt 6 else j
def iA (L:List Jb)(now:Int):Nat→Int
 |0=> -1
 |i+1=>if aj (L.getD i default)=true∧(L.getD i default).aJ=now∧(iA L now i<0∨aP (L.getD i default) (L.getD (iA L now i).toNat default)=true)then(i:Int)else iA L now i
def firstM (M:Md):Int:=iA M.L M.now M.L.length
def startGo :Nat→Md→Md
 |0,M=>M
 |n+1,M=>if 0≤firstM M then startGo n (aX M (firstM M).toNat)else startGo n M
def dK (M:Md):Md:=startGo M.L.length {M with L:=M.L.map (aW M.now)}
def dG (to:Int):Nat→Md→Md
 |0,M=>M
 |n+1,M=>if aV M<0∨to<aV M then M else dG to n (dK {M with now:=aV M})
def pJ (M:Md)(to:Int):Md:={dG to (2*M.L.length+1) M with now:=to}
def mq (M:Md)(by':Int):Rl×Md:=
 if by'<1∨1099511627776-M.now<by' then(fJ 10,M)
 else((0,0,0,M.now+by',0,0,ax (pJ M (M.now+by')) (M.now+by') 0,0,0),pJ M (M.now+by'))
def nP (M:Md)(a:Int):Nat:=M.L.countP fun j=>decide (j.st=a)
def kZ (M:Md)(a b:Int):Nat:=(List.range M.dr.length).countP fun k:Nat=>decide (aU M k=a)||decide (aU M k=b)
def fH (M:Md)(r:Rw):Rl×Md:=
 if M.cl then(fJ 12,M)
 else if r.kind=1 then jL M r
 else if r.kind=2∨r.kind=5 then ma M r
 else if r.kind=3∨r.kind=4∨r.kind=6 then fZ M r
 else if r.kind=7∨r.kind=8 then ik M r
 else if r.kind=9 then mq M r.by'
 else if r.kind=10 then((0,0,0,0,0,0,kZ M 1 1,kZ M 2 3,kZ M 4 4),M)
 else if r.kind=11 then((0,0,0,0,0,0,nP M 1,nP M 2,nP M 3),M)
 else if r.kind=12 then((0,0,0,M.now,0,0,ax M M.now 0,0,0),M)
 else if r.kind=13 then(fJ 0,{M with cl:=true})
 else(fJ 4,M)
open Go.Sort
def Gr (w w':World):Prop:=∃q os',w'=grow (w.drewN q) os'
theorem Gr.below {w w':World}(h:Gr w w'):Below w.heap.size w w':=by
 obtain⟨q,os,rfl⟩:=h;exact⟨rfl,rfl,rfl,by simp,fun k hk=>by rw[heap_grow_old _ os (by simpa using hk)];rfl⟩
theorem Gr.refl (w:World):Gr w w:=⟨0,#[],by rw[grow_empty];rfl⟩
theorem nZ {W:World}{p k:Nat}{cs:List Value}{T:TypeId}(h:W.heap[p]? =some (.cells cs.toArray T (0,0)))(hk:cs.length=k):
 Sem.run prog (loadCellsFrom ⟨p,0,none⟩ 0 k #[]) W=.ok cs.toArray W:=by
 refine run_loadCellsFrom_list prog W _ cs k hk fun j v hj=>?_;rw[Go.WideShapes.add_plain];simp[World.cell?,h,hj]
theorem TG :∀w,Sem.run prog (isAgg 55) w=.ok true w:=isAgg55
theorem bL :∀w,Sem.run prog (Go.sizeOf 55) w=.ok 10 w:=sizeOf55
theorem kC {w:World}{base base':Nat}{e:TypeId}{size:Nat}{v:Value}{n:Nat}{xs:List Value}(h:w.ownsRow base e size v n xs)(hb:base'≤base):w.ownsRow base' e size v n xs:=by
 obtain⟨h1,h2⟩:=h;refine⟨h1,?_⟩;rcases h2 with h2|⟨g,cap,cur,hv,hg,r⟩
 ·exact Or.inl h2
 ·exact Or.inr ⟨g,cap,cur,hv,Nat.le_trans hb hg,r⟩
theorem bH {w w':World}{base:Nat}{e:TypeId}{size:Nat}{v:Value}{n:Nat}{xs:List Value}(h:w.ownsRow base e size v n xs)(hk:∀k,v.ownBlock=some k→w'.heap[k]? =w.heap[k]?):w'.ownsRow base e size v n xs:=by
 obtain⟨h1,h2⟩:=h;refine⟨h1,?_⟩;rcases h2 with h2|⟨g,cap,cur,rfl,hg,hh,r⟩
 ·exact Or.inl h2
 ·exact Or.inr ⟨g,cap,cur,rfl,hg,by rw[hk g rfl];exact hh,r⟩
theorem ownsRow_below {w w':World}{base B:Nat}{e:TypeId}{size:Nat}{v:Value}{n:Nat}{xs:List Value}(h:w.ownsRow base e size v n xs)(hb:Below B w w')(hv:∀k,v.ownBlock=some k→k<B):w'.ownsRow base e size v n xs:=
 bH h fun k hk=>hb.block k (hv k hk)
theorem vz {P:Program}(w:World)(base:Nat)(t tx ty e:TypeId)(i:TypeInfo)(z:Value)(size bytes:Nat)(ht:P.underlying t=some (.slice e))(hi:P.info? e=some i)(hz:i.zero=some z)
 (hsize:i.size=size) (hby:i.bytes=bytes) (hzs:z.cells.size=size)
 (v:Value) (n:Nat) (xs:List Value) (hown:w.ownsRow base e size v n xs) (x:Value) (m:Nat) (news:List Value) (hs:Src P size tx x m news w)
 (h63:n+m≤maxLen) (hbytes:(n+m)*bytes≤140737488355328) (hbase:base≤w.heap.size):
 ∃v' w',(Builtin.append_ #[t,tx] ty #[v,x]).run P w=.ok v' w'∧w'.ownsRow base e size v' (n+m) (xs++news)∧w.grownBy w' v.ownBlock:=by
 subst hsize;subst hby;have hsmall:n+m≤9223372036854775807:=by simp only[maxLen]at h63;omega
 have hlen:(xs++news).length=(n+m)*i.size:=by rw[List.length_append,hown.1,hs.newsLen,Nat.add_mul]
 have grown:∀(old:Nat),old<n+m→∀(row:Option Nat),
  (w.drew.alloc (.cells ((xs++news).toArray++Builtin.zeroCells z.cells (grownCap w (n+m) old e-(n+m))) e)).ownsRow base e i.size
   (.slice (some ⟨w.heap.size,0,none⟩) (n+m) (grownCap w (n+m) old e)) (n+m) (xs++news)∧
  w.grownBy (w.drew.alloc (.cells ((xs++news).toArray++Builtin.zeroCells z.cells (grownCap w (n+m) old e-(n+m))) e)) row:=by
  intro old ho row;have hge:=grownCap_ge w (n+m) old e;have hcm:grownCap w (n+m) old e≤maxLen:=grownCap_le_maxLen w (n+m) old e h63;refine⟨⟨hlen,.inr ⟨w.heap.size,_,_,rfl,hbase,heap_alloc_new w.drew _,hge,hcm,?_,?_⟩⟩,⟨rfl,rfl,rfl,by simp,fun k hk _=>Go.heap_alloc_old w.drew _ hk⟩⟩
  ·simp only[Array.size_append,List.size_toArray,size_zeroCells,hzs,hlen,←Nat.add_mul];congr 1;omega
  ·simp only[Array.toList_append];rw[←hlen];exact List.take_left
 rcases hown.2 with⟨rfl,rfl⟩|⟨g,cap,cur,rfl,hbg,hg,hnc,hcm,hcs,htake⟩
 ·have hx:xs=[]:=List.eq_nil_of_length_eq_zero (by simpa using hown.1);subst hx;by_cases hm:m=0
  ·subst hm;have hn:news=[]:=List.eq_nil_of_length_eq_zero (by simpa using hs.newsLen);subst hn;refine⟨.slice none 0 0,w,?_,World.ownsRow_nil w base e i.size,⟨rfl,rfl,rfl,qaf _,fun _ _ _=>rfl⟩⟩;rcases hs.kind with⟨e',hk⟩|hk<;>simp[Builtin.append_,run_underlying ht,run_underlying hk,sizeOf,typeInfo,hi,hs.len,hs.cells]
  ·have hr:=run_append_grow_src (P:=P) w t tx ty e i z ht hi hz none 0 0 [] (by simp[Builtin.firstCells]) x m news hs (by omega) (by omega) (growslice_fits (by omega) hbytes);have hgr:=grown 0 (by omega) (Value.ownBlock (.slice none 0 0));exact⟨_,_,hr,hgr.1,hgr.2⟩
 ·by_cases hroom:n+m≤cap
  ·have hfit:n*i.size+news.length≤cur.size:=by rw[hs.newsLen,hcs,←Nat.add_mul];exact Nat.mul_le_mul_right _ hroom
   have hst:=run_storeCells_at P g (n*i.size) e news 0 cur w hg (by simpa using hfit) hs.one;simp only[Nat.add_zero]at hst;have hr:(Builtin.append_ #[t,tx] ty #[.slice (some ⟨g,0,none⟩) n cap,x]).run P w=
    .ok (.slice (some ⟨g,0,none⟩) (n+m) cap) (w.setRow g (cur.toList.take (n*i.size)++news++cur.toList.drop (n*i.size+news.length)).toArray):=by
    rcases hs.kind with⟨e',hk⟩|hk<;>simp[Builtin.append_,run_underlying ht,run_underlying hk,sizeOf,typeInfo,hi,hs.len,hroom,hs.cells,Addr.add_lit,hst]
   refine⟨_,_,hr,⟨hlen,.inr ⟨g,cap,_,rfl,hbg,setRow_heap w g cur _ e _ hg,hroom,hcm,?_,?_⟩⟩,⟨rfl,rfl,rfl,by simp,fun k hk hne=>setRow_other w g k _ (fun e=>hne (by simp[Value.ownBlock,e]))⟩⟩
   ·simp only[List.size_toArray,List.length_append,List.length_take,List.length_drop,Array.length_toList];omega
   ·rw[htake,←hlen];exact List.take_left
  ·have holds:∀j u,xs[j]? =some u→w.drew.cell? ((⟨g,0,none⟩:Addr).add j)=some u:=fun j u hu=>by simpa using hown.cells (g:=g) rfl j u hu
   have hr:=run_append_grow_src (P:=P) w t tx ty e i z ht hi hz (some ⟨g,0,none⟩) n cap xs (run_firstCells_some (P:=P) w.drew i.size n ⟨g,0,none⟩ n cap xs hown.1 holds) x m news hs (by omega) (by omega) (growslice_fits (by omega) hbytes);have hgr:=grown cap (by omega) (Value.ownBlock (.slice (some ⟨g,0,none⟩) n cap));exact⟨_,_,hr,hgr.1,hgr.2⟩
theorem kL {P:Program}(w:World){ops:Array Oper}{rest:List Oper}{o:Oper}{a:Act}{Q:Exit→Act→World→Prop}(hgd:o.guard=none)(s x:Operand)(t tx:TypeId)
 (ho:o.op=.call {callee:=.builtin .append,args:=#[s,x],argTypes:=#[t,tx]})
 (base:Nat) (e:TypeId) (i:TypeInfo) (z:Value) (size bytes:Nat) (ht:P.underlying t=some (.slice e)) (hi:P.info? e=some i) (hz:i.zero=some z)
 (hsize:i.size=size) (hby:i.bytes=bytes) (hzs:z.cells.size=size)
 (v:Value) (n:Nat) (xs:List Value) (hs:a.eval s=v) (hown:w.ownsRow base e size v n xs) (xv:Value) (m:Nat) (news:List Value) (hx:a.eval x=xv) (hsrc:Src P size tx xv m news w)
 (h63:n+m≤maxLen) (hbytes:(n+m)*bytes≤140737488355328) (hbase:base≤w.heap.size)
 (h:∀v' w',w'.ownsRow base e size v' (n+m) (xs++news)→w.grownBy w' v.ownBlock→wpList P ops Q rest (a.put o.dst v') w'):wpList P ops Q (o::rest) a w:=
 wpList_plain hgd fun K hK=>by
  obtain⟨v',w',hr,h2,h3⟩:=vz (P:=P) w base t tx o.type e i z size bytes ht hi hz hsize hby hzs v n xs hown xv m news hsrc h63 hbytes hbase;unfold Oper.wp execOp;simp only[ho,resolve,invoke,builtin,Sem.run_bind,Sem.run_pure,Result.andThen_ok,List.map_toArray,List.map_cons,List.map_nil,hs,hx,hr];exact hK _ _ (h v' w' h2 h3)
theorem Ko {w:World}{base:Nat}{e:TypeId}{sz:Nat}{v:Value}{n:Nat}{xs:List Value}(h:w.ownsRow base e sz v n xs)(hv:v≠.slice none 0 0):
 ∃g cap,v=.slice (some ⟨g,0,none⟩) n cap∧base≤g∧g<w.heap.size∧n≤cap∧cap≤maxLen∧Holds id w g 0 xs.toArray:=by
 have hl:=h.1;rcases h.2 with⟨e0,_⟩|⟨g,cap,cur,rfl,hb,hg,hn,hm,hs,ht⟩
 ·exact absurd e0 hv
 ·have hlt:g<w.heap.size:=by
   rcases Nat.lt_or_ge g w.heap.size with h'|h'
   ·exact h'
   ·rw[Array.getElem?_eq_none h']at hg;cases hg
  refine⟨g,cap,rfl,hb,hlt,hn,hm,fun j hj=>?_⟩;have hj':j<n*sz:=by simpa[hl]using hj
  have WK:j<xs.length:=by omega
  refine⟨?_,by simp[World.frozen?,hg]⟩;have e1:(cur.toList.take (n*sz))[j]? =xs[j]? :=by rw[ht]
  rw[List.getElem?_take,qaj hj',Array.getElem?_toList,List.getElem?_eq_getElem WK]at e1;simp only[World.cell?,hg,Nat.zero_add];simp only[Option.isSome_none,Bool.false_eq_true,if_false];rw[e1];simp[getElem!_pos,WK]
theorem Ha {w:World}{base:Nat}{e:TypeId}{sz g n cap q:Nat}{xs ys:List Value}(h:w.ownsRow base e sz (.slice (some ⟨g,0,none⟩) n cap) n xs)(hy:ys.length=xs.length):
 (putRow id (Sort.ahead w q) g 0 ys.toArray).ownsRow base e sz (.slice (some ⟨g,0,none⟩) n cap) n ys:=by
 have hl:=h.1;rcases h.2 with⟨e0,_⟩|⟨g',cap',cur,e0,hb,hg,hn,hm,hs,ht⟩
 ·cases e0
 ·injection e0 with e1 _ e3;injection e1 with e1;injection e1 with e1;subst e1;subst e3;have hcs:n*sz≤cur.size:=by rw[hs];exact Nat.mul_le_mul_right _ hn
  refine⟨by omega,.inr ⟨g,cap,putCells id 0 ys.toArray cur,rfl,hb,?_,hn,hm,by simpa[putCells]using hs,?_⟩⟩
  ·simp[putRow,mapBlock,Sort.ahead,Array.getElem?_modify,hg,onCells]
  ·apply List.ext_getElem?;intro j;rw[List.getElem?_take,Array.getElem?_toList];by_cases hj:j<n*sz
   ·have hjc:j<cur.size:=by omega
    simp only[qaj hj,putCells,Array.getElem?_mapIdx,Array.getElem?_eq_getElem hjc,Option.map_some];rw[qaj (by simp;omega),List.getElem?_eq_getElem (by omega)];simp[getElem!_pos,show j<ys.length by omega]
   ·rw[qai hj,List.getElem?_eq_none (by omega)]
theorem below_grow {B:Nat}{w0 w:World}(h:Below B w0 w)(hB:B≤w.heap.size)(os:Array Obj):Below B w0 (grow w os):=
 ⟨h.os,h.tape,h.output,Nat.le_trans h.size (by simp),fun k hk=>by rw[heap_grow_old w os (by omega)];exact h.block k hk⟩
theorem NS {w:World}{base:Nat}{e:TypeId}{sz:Nat}{v:Value}{n:Nat}{xs:List Value}(h:w.ownsRow base e sz v n xs)(os:Array Obj):(grow w os).ownsRow base e sz v n xs:=
 bH h fun k hk=>heap_grow_old w os (h.lt k hk).2
theorem Hd {α:Type}[Inhabited α](enc:α→List Value)(k:Nat)(hk:∀x,(enc x).length=k)(d:Array α):flatK enc k d=(d.toList.flatMap enc).toArray:=by
 have hlen:∀l:List α,(l.flatMap enc).length=l.length*k:=by
  intro l
  induction l with
  |nil=>simp
  |cons a l ih=>rw[List.flatMap_cons,List.length_append,ih,hk,List.length_cons,Nat.add_mul];omega
 have key:∀(l:List α) (t:Nat),t<l.length*k→(l.flatMap enc)[t]! =(enc l[t/k]!)[t %k]! :=by
  intro l
  induction l with
  |nil=>intro t ht;simp at ht
  |cons a l ih=>
   intro t ht;rw[List.length_cons,Nat.add_mul]at ht;have k0:0<k:=by
    rcases Nat.eq_zero_or_pos k with h|h
    ·subst h;omega
    ·exact h
   rw[List.flatMap_cons];by_cases hlt:t<k
   ·rw[Nat.div_eq_of_lt hlt,Nat.mod_eq_of_lt hlt];simp only[List.getElem!_eq_getElem?_getD];rw[List.getElem?_append_left (by rw[hk];exact hlt)];simp
   ·obtain⟨u,rfl⟩:∃u,t=u+k:=⟨t-k,by omega⟩;rw[Nat.add_div_right _ k0,Nat.add_mod_right];have:=ih u (by omega);simp only[List.getElem!_eq_getElem?_getD]at this⊢;rw[List.getElem?_append_right (by rw[hk];omega),hk,Nat.add_sub_cancel,this];simp
 refine ext_get! (by rw[size_flatK];simp[hlen]) fun t ht=>?_;rw[size_flatK]at ht;rw[get_flatK _ _ _ _ ht];have:=key d.toList t (by simpa using ht);simp only[List.getElem!_eq_getElem?_getD,Array.getElem!_eq_getD,Array.getD_eq_getD_getElem?,List.getElem?_toArray,Array.getElem?_toList]at this⊢;exact this.symm
theorem qm {w:World}{base:Nat}{e:TypeId}{sz n g:Nat}{vs:List Value}(hg:g=w.heap.size)(hb:base≤w.heap.size)(hl:vs.length=n*sz)(hn:n≤maxLen):(w.alloc (.cells vs.toArray e)).ownsRow base e sz (.slice (some ⟨g,0,none⟩) n n) n vs:=by
 subst hg;exact⟨hl,.inr ⟨w.heap.size,n,vs.toArray,rfl,hb,heap_alloc_new w _,qaf _,hn,by simpa using hl,by simp[←hl]⟩⟩
theorem sV {w:World}{base:Nat}{e:TypeId}{sz n g:Nat}{v:Value}{xs:List Value}(h:w.ownsRow base e sz v n xs)(hne:∀k,v.ownBlock=some k→k≠g)(j:Nat)(u:Value):(w.setCell ⟨g,j,none⟩ u).ownsRow base e sz v n xs:=
 bH h fun k hk=>Below.heap_setCell w ⟨g,j,none⟩ u k (hne k hk)
theorem dE {w:World}{base:Nat}{e:TypeId}{sz n:Nat}{v:Value}{xs:List Value}(h:w.ownsRow base e sz v n xs):∃ao cap,v=.slice ao n cap∧(0<n→∃g,ao=some ⟨g,0,none⟩):=by
 rcases h.2 with⟨rfl,rfl⟩|⟨g,cap,cur,rfl,_⟩
 ·exact⟨none,0,rfl,fun h=>by omega⟩
 ·exact⟨_,cap,rfl,fun _=>⟨g,rfl⟩⟩
theorem sW {w:World}{base:Nat}{e:TypeId}{sz n:Nat}{v:Value}{xs:List Value}(h:w.ownsRow base e sz v n xs):n≤9223372036854775807:=by
 rcases h.2 with⟨_,rfl⟩|⟨_,_,_,_,_,_,hn,hm,_⟩
 ·omega
 ·unfold maxLen at hm;omega
theorem below_drewN {B:Nat}{a w:World}(h:Below B a w)(n:Nat):Below B a (w.drewN n):=⟨h.os,h.tape,h.output,h.size,h.block⟩
theorem Qi {w:World}{base:Nat}{e:TypeId}{sz g n cap c:Nat}{xs:List Value}(h:w.ownsRow base e sz (.slice (some ⟨g,0,none⟩) n cap) n xs)(hc:c≤n):
 w.ownsRow base e sz (.slice (some ⟨g,0,none⟩) c cap) c (xs.take (c*sz)):=by
 have hcs:c*sz≤n*sz:=Nat.mul_le_mul_right _ hc;rcases h.2 with⟨e0,_⟩|⟨g',cap',cur,e0,hb,hg,hn,hm,hs,ht⟩
 ·cases e0
 ·cases e0;refine⟨by rw[List.length_take,h.1];omega,.inr ⟨g,cap,cur,rfl,hb,hg,by omega,hm,hs,?_⟩⟩;rw[←ht,List.take_take,Nat.min_eq_left hcs]
namespace Put
theorem jA {w w':World}{base:Nat}{e:TypeId}{size:Nat}{v:Value}{n:Nat}{xs:List Value}(h:w.ownsRow base e size v n xs)(hb:Below w.heap.size w w'):w'.ownsRow base e size v n xs:=
 ownsRow_below h hb fun k hk=>(h.lt k hk).2
structure Off (p g : Nat) (w w' : World) : Prop where
 os:w'.os=w.os
 tape:w'.tape=w.tape
 output:w'.output=w.output
 size:w.heap.size≤w'.heap.size
 block:∀k,k<w.heap.size→k≠p→k≠g→w'.heap[k]? =w.heap[k]?
section
variable {p g g' : Nat} {w w' w'' : World}
theorem Off.refl (p g:Nat)(w:World):Off p g w w:=⟨rfl,rfl,rfl,qaf _,fun _ _ _ _=>rfl⟩
theorem Off.below {base:Nat}(h:Off p g w w')(hp:base≤p)(hg:base≤g)(hb:base≤w.heap.size):Below base w w':=⟨h.os,h.tape,h.output,h.size,fun k hk=>h.block k (by omega) (by omega) (by omega)⟩
theorem Off.own {base:Nat}{e:TypeId}{sz n:Nat}{v:Value}{xs:List Value}(h:Off p g w w')(ho:w.ownsRow base e sz v n xs)(hne:∀k,v.ownBlock=some k→k≠p∧k≠g):w'.ownsRow base e sz v n xs:=
 bH ho fun k hk=>h.block k (ho.lt k hk).2 (hne k hk).1 (hne k hk).2
theorem Off.setCell {b j:Nat}{v:Value}(h:Off p g w w')(hb:b=p∨b=g∨w.heap.size≤b):Off p g w (w'.setCell ⟨b,j,none⟩ v):=
 ⟨h.os,h.tape,h.output,by simpa using h.size,fun k hk h1 h2=>by
  rw[Below.heap_setCell w' ⟨b,j,none⟩ v k (by show k≠b;omega)];exact h.block k hk h1 h2⟩
end
theorem lt_of_heap {w:World}{p:Nat}{o:Obj}(h:w.heap[p]? =some o):p<w.heap.size:=by
 rcases Nat.lt_or_ge p w.heap.size with h'|h'
 ·exact h'
 ·rw[Array.getElem?_eq_none h']at h;cases h
theorem bU {w:World}{p q:Nat}{a b:Array Value}{s t:TypeId}{x y:Nat×Nat}(h:w.heap[p]? =some (.cells a s x))(h':w.heap[q]? =some (.cells b t y))(hne:s≠t):p≠q:=by
 intro e;subst e;rw[h]at h';injection h' with h';injection h' with _ h3;exact hne h3
section
end
end Put
theorem heap_put {w:World}{g i:Nat}{cs:Array Value}{t:TypeId}{fr:Nat×Nat}(h:w.heap[g]? =some (.cells cs t fr))(v:Value):(w.setCell ⟨g,i,none⟩ v).heap[g]? =some (.cells (cs.setIfInBounds i v) t fr):=by
 simp[World.setCell,Array.getElem?_modify,h]
theorem dL {w:World}{g:Nat}{o o':Obj}(h:w.heap[g]? =some o):(w.alloc o').heap[g]? =some o:=by
 have hlt:g<w.heap.size:=by
  rcases Nat.lt_or_ge g w.heap.size with h1|h1
  ·exact h1
  ·rw[Array.getElem?_eq_none h1]at h;cases h
 exact(Go.heap_alloc_old w o' hlt).trans h
def WL (d:TypeDesc):Bool:=match d with|.struct _|.array _ _=>true|_=>false
theorem eH {fn:Func}{K:Ending→World→Prop}{a:Act}{w:World}{p:Tmp}{ty:TypeId}{g:Nat}{t:TypeId}{cs:Array Value}{fr:Nat×Nat}{d:TypeDesc}(h:fn.results= #[.cell p ty])(hd0:a.defers=[])
 (hp:a.tmps.getD p undef=.pointer (some ⟨g,0,none⟩)) (hg:w.heap[g]? =some (.cells cs t fr))
 (hu:prog.underlying ty=some d) (hd:WL d=true) (hi:(prog.info? ty).map (·.size)=some cs.size)
 (hK:K (.returned (.agg cs)) w):bodyPost prog fn K .ret a w:=bodyPost_ret (results_cell_row h a.tmps w g t cs fr d hp hg hu (by cases d<;>first|rfl|cases hd) hi) hd0 hK
theorem au {w:World}{g:Nat}{o:Obj}(h:w.heap[g]? =some o):g<w.heap.size:=by
 rcases Nat.lt_or_ge g w.heap.size with h1|h1
 ·exact h1
 ·rw[Array.getElem?_eq_none h1]at h;cases h
theorem He (W:World)(a b:Array Value)(T:TypeId):(W.alloc (.cells a T)).setRow W.heap.size b=W.alloc (.cells b T):=by
 have h1:∀o,W.alloc o={W with heap:=W.heap.push o}:=fun o=>rfl;rw[h1,h1];unfold World.setRow;have h2:∀f:Obj→Obj,(W.heap.push (.cells a T)).modify W.heap.size f=W.heap.push (f (.cells a T)):=fun f=>by
  refine Array.ext (by simp) fun i h1 h2=>?_;rw[Array.getElem_modify];by_cases e:W.heap.size=i
  ·subst e;simp
  ·have:i<W.heap.size:=by simp at h2;omega
   simp[e,Array.getElem_push,this]
 simp only[h2]
theorem df (W:World)(n:Nat)(cs zs:List Value)(T:TypeId)(hn:n=W.heap.size)(hl:cs.length=zs.length)(h1:∀v∈cs,v.oneCell'=true):
 Sem.run prog (storeCells ⟨n,0,none⟩ cs 0) (W.alloc (.cells zs.toArray T))=.ok () (W.alloc (.cells cs.toArray T)):=by
 subst hn;have hst:=run_storeCells_at prog W.heap.size 0 T cs 0 zs.toArray (W.alloc (.cells zs.toArray T)) (heap_alloc_new W _) (by simp[hl]) h1;simp only[Nat.add_zero]at hst;rw[hst];congr 1;have e:((zs.toArray.toList.take 0++cs++zs.toArray.toList.drop (0+cs.length)).toArray)=cs.toArray:=by simp[hl]
 rw[e];exact He W _ _ T
section
variable {w w' : World} {p : Nat} {dv lv : Value} {M : Md}
structure MB (M : Md) : Prop where
 nn:M.dr.length≤64
 ll:M.L.length≤1024
 now:0≤M.now∧M.now≤1099511627776
 wid:∀j∈M.L,0≤j.wid∧j.wid≤64
 lim:∀j∈M.L,0≤j.lim∧j.lim≤1048576
 aJ:∀j∈M.L,-1≤j.aJ∧j.aJ≤1099511627776
 fin:∀j∈M.L,-1≤j.fin∧j.fin≤1099512676352
 bQ:∀j∈M.L,0≤j.bQ∧j.bQ≤18446744073709551615
end
section
variable {w w' : World} {p : Nat} {dv lv : Value} {M : Md}
theorem aC.Kq {v:Value}{L:List Jb}(h:aC ah 10 w v L)(i:Nat)(hi:i<L.length):∃b off cap,v=.slice (some ⟨b,off,none⟩) L.length cap∧L.length≤cap∧cap≤maxLen∧b<w.heap.size∧∀j u,(ah (L.getD i default))[j]? =some u→w.cell? ⟨b,off+i*10+j,none⟩=some u:=by
 obtain⟨ao,cap,rfl,h1,h2,h3⟩:=h;obtain⟨b,off,rfl,hb,hc⟩:=h3 (by omega);refine⟨b,off,cap,rfl,h1,h2,hb,fun j u hj=>by rw[Nat.add_assoc];exact hc i (L.getD i default) j u (by simp[List.getD,hi]) hj⟩
end
theorem D5 (x1 x2 x3 x4 x5 x6 x7 x8 x9 x0:Int):(ah (x1,x2,x3,x4,x5,x6,x7,x8,x9,x0)).toArray= #[.int .i64 x1,.int .i64 x2,.int .i64 x3,.int .i64 x4,.int .i64 x5,.int .i64 x6,.int .i64 x7,.int .i64 x8,.int .i64 x9,.int .u64 x0]:=rfl
theorem jU (M:Md)(t:Int)(k:Nat):0≤aM M t k∧aM M t k≤k:=by
 unfold aM;have:=List.countP_le_length (p:=bP M t) (l:=List.range k);rw[List.length_range]at this;omega
theorem mW {L:List Jb}(h:∀j∈L,0≤j.wid∧j.wid≤64)(t but:Int):0≤bT L t but∧bT L t but≤64*L.length:=by
 induction L with
 |nil=>simp[bT]
 |cons j L ih=>
  have h1:=h j List.mem_cons_self;have h2:=ih fun x hx=>h x (List.mem_cons_of_mem _ hx);have e:bT (j::L) t but=(if jH t but j=true then j.wid else 0)+bT L t but:=by
   unfold bT;by_cases hk:jH t but j=true
   ·simp[hk]
   ·simp[hk]
  rw[e,List.length_cons];split<;>omega
section
end
def tA (L:List (Int×Int))(i:Nat):Int:=(L.getD i (0,0)).1
def tV (L:List (Int×Int))(i:Nat):Int:=(L.getD i (0,0)).2
structure Sm (L : List (Int × Int)) (now : Int) (f : Int → Int) : Prop where
 pos:0<L.length
 hd:tA L 0=now
 inc:∀i,i+1<L.length→tA L i<tA L (i+1)
 top:∀i,i<L.length→tA L i<1152921504606846976
 rep:∀i t,i<L.length→tA L i≤t→(i+1<L.length→t<tA L (i+1))→f t=tV L i
def jM (L:List (Int×Int))(X:Int→Prop):Prop:=∀i,i+1<L.length→¬X (tA L (i+1))→tV L i≠tV L (i+1)
structure Can (L : List (Int × Int)) (now : Int) (f : Int → Int) : Prop where
 sm:Sm L now f
 alt:jM L (fun _=>False)
structure ic (L : List (Int × Int)) (t : Int) (i : Nat) : Prop where
 lt:i<L.length
 le:0<i→tA L i≤t
 nx:i+1<L.length→t<tA L (i+1)
section
variable {L : List (Int × Int)} {now : Int} {f : Int → Int}
theorem Sm.lt (h:Sm L now f){i j:Nat}(hij:i<j)(hj:j<L.length):tA L i<tA L j:=by
 induction j with
 |zero=>omega
 |succ j ih=>
  rcases Nat.lt_or_ge i j with h1|h1
  ·have:=ih h1 (by omega);have:=h.inc j hj;omega
  ·have:i=j:=by omega
   subst this;exact h.inc i hj
theorem Sm.le (h:Sm L now f){i j:Nat}(hij:i≤j)(hj:j<L.length):tA L i≤tA L j:=by
 rcases Nat.lt_or_ge i j with h1|h1
 ·exact Int.le_of_lt (h.lt h1 hj)
 ·have:i=j:=by omega
  subst this;exact Int.le_refl _
theorem Sm.uI (h:Sm L now f){i:Nat}(hi:i<L.length):now≤tA L i:=by
 rw[←h.hd];exact h.le (Nat.zero_le _) hi
theorem Sm.Qj (h:Sm L now f){i j:Nat}(hi:i<L.length)(_hj:j<L.length)(hlt:tA L i<tA L j):i<j:=by
 rcases Nat.lt_or_ge i j with h1|h1
 ·exact h1
 ·have:=h.le h1 hi;omega
theorem ic.uL (h:Sm L now f){t:Int}{i:Nat}(hi:ic L t i)(hn:now≤t):tA L i≤t:=by
 rcases Nat.eq_zero_or_pos i with h0|h0
 ·subst h0;rw[h.hd];exact hn
 ·exact hi.le h0
theorem ic.val (h:Sm L now f){t:Int}{i:Nat}(hi:ic L t i)(hn:now≤t):f t=tV L i:=h.rep i t hi.lt (hi.uL h hn) hi.nx
theorem Sm.ix (h:Sm L now f)(t:Int):∃i,ic L t i:=by
 have key:∀k,k≤L.length→(∃i,ic L t i)∨(∀j,j<L.length→L.length-k≤j→t<tA L j):=by
  intro k
  induction k with
  |zero=>intro _;exact .inr fun j _ hk=>by omega
  |succ k ih=>
   intro hk;rcases ih (by omega)with h1|h1
   ·exact .inl h1
   ·by_cases hle:tA L (L.length-(k+1))≤t
    ·exact .inl ⟨L.length-(k+1),by omega,fun _=>hle,fun hx=>h1 _ hx (by omega)⟩
    ·refine .inr fun j hj hjk=>?_;rcases Nat.lt_or_ge j (L.length-k)with h2|h2
     ·have:j=L.length-(k+1):=by omega
      subst this;omega
     ·exact h1 j hj h2
 rcases key L.length (qaf _)with h1|h1
 ·exact h1
 ·exact⟨0,h.pos,fun h=>by omega,fun hx=>h1 1 hx (by omega)⟩
theorem Can.uniq {L':List (Int×Int)}{g:Int→Int}(h:Can L now f)(h':Can L' now g)(hfg:∀t,now≤t→f t=g t):L=L':=by
 have half:∀{L L':List (Int×Int)} {f g:Int→Int},Can L now f→Can L' now g→(∀t,now≤t→f t=g t)→∀i,(∀j,j≤i→j<L.length∧j<L'.length∧tA L j=tA L' j∧tV L j=tV L' j)→i+1<L.length→i+1<L'.length∧tA L' (i+1)≤tA L (i+1):=by
  intro L L' f g h h' hfg i hi hlt;obtain⟨h1,h2,ea,ev⟩:=hi i (qaf _);have Zw:=h.sm.inc i hlt;have kg:=h.sm.uI h1;have v1:=h.sm.rep (i+1) (tA L (i+1)) hlt (Int.le_refl _) (fun hx=>h.sm.inc (i+1) hx);have hne:=h.alt i hlt (fun x=>x);have hf:=hfg (tA L (i+1)) (by omega);by_cases hx:i+1<L'.length
  ·refine⟨hx,?_⟩;rcases Int.lt_or_le (tA L (i+1)) (tA L' (i+1))with h3|h3
   ·have v2:=h'.sm.rep i (tA L (i+1)) h2 (by omega) (fun _=>h3);exact absurd (by omega) hne
   ·exact h3
  ·have v2:=h'.sm.rep i (tA L (i+1)) h2 (by omega) (fun hy=>absurd hy hx);exact absurd (by omega) hne
 have all:∀i,(i<L.length→i<L'.length∧tA L i=tA L' i∧tV L i=tV L' i)∧(i<L'.length→i<L.length):=by
  intro i
  induction i using Nat.strongRecOn with
  |_ i ih=>
   rcases i with _|i
   ·refine⟨fun _=>⟨h'.sm.pos,by rw[h.sm.hd,h'.sm.hd],?_⟩,fun _=>h.sm.pos⟩;have v1:=h.sm.rep 0 now h.sm.pos (by rw[h.sm.hd];exact Int.le_refl _) (fun hx=>by have:=h.sm.inc 0 hx;rw[h.sm.hd]at this;exact this);have v2:=h'.sm.rep 0 now h'.sm.pos (by rw[h'.sm.hd];exact Int.le_refl _) (fun hx=>by have:=h'.sm.inc 0 hx;rw[h'.sm.hd]at this;exact this);have:=hfg now (Int.le_refl _);omega
   ·have both:i+1<L.length∨i+1<L'.length→∀j,j≤i→j<L.length∧j<L'.length∧tA L j=tA L' j∧tV L j=tV L' j:=by
     intro hor j hj;obtain⟨a,b⟩:=ih j (by omega);have hl:j<L.length:=by
      rcases hor with h1|h1
      ·omega
      ·exact b (by omega)
     obtain⟨c,d,e⟩:=a hl;exact⟨hl,c,d,e⟩
    have both':i+1<L.length∨i+1<L'.length→∀j,j≤i→j<L'.length∧j<L.length∧tA L' j=tA L j∧tV L' j=tV L j:=by
     intro hor j hj;obtain⟨a,b,c,d⟩:=both hor j hj;exact⟨b,a,c.symm,d.symm⟩
    refine⟨fun hlt=>?_,fun hlt=>(half h' h (fun t ht=>(hfg t ht).symm) i (both' (.inr hlt)) hlt).1⟩;obtain⟨h1,h2⟩:=half h h' hfg i (both (.inl hlt)) hlt;obtain⟨_,h3⟩:=half h' h (fun t ht=>(hfg t ht).symm) i (both' (.inl hlt)) h1;have ea:tA L (i+1)=tA L' (i+1):=by omega
    refine⟨h1,ea,?_⟩;have v1:=h.sm.rep (i+1) (tA L (i+1)) hlt (Int.le_refl _) (fun hx=>h.sm.inc (i+1) hx);have v2:=h'.sm.rep (i+1) (tA L (i+1)) h1 (by omega) (fun hx=>by rw[ea];exact h'.sm.inc (i+1) hx);have hge:=h.sm.uI hlt;have:=hfg (tA L (i+1)) hge;omega
 apply List.ext_getElem?;intro i;by_cases hi:i<L.length
 ·obtain⟨hl,ea,ev⟩:=(all i).1 hi;simp only[tA,tV,List.getD_eq_getElem?_getD,List.getElem?_eq_getElem hi,List.getElem?_eq_getElem hl,Option.getD_some]at ea ev;rw[List.getElem?_eq_getElem hi,List.getElem?_eq_getElem hl];congr 1;exact Prod.ext ea ev
 ·have hl:¬i<L'.length:=fun hl=>hi ((all i).2 hl);rw[List.getElem?_eq_none (by omega),List.getElem?_eq_none (by omega)]
theorem Can.congr {g:Int→Int}(h:Can L now f)(hfg:∀t,now≤t→f t=g t):Can L now g:=
 ⟨⟨h.sm.pos,h.sm.hd,h.sm.inc,h.sm.top,fun i t hi ha hn=>by have:=h.sm.uI hi;rw[←hfg t (by omega)];exact h.sm.rep i t hi ha hn⟩,h.alt⟩
def jI (L:List (Int×Int))(k:Nat)(x:Int×Int):List (Int×Int):=L.take k++x::L.drop k
def qo (L:List (Int×Int))(k:Nat):List (Int×Int):=L.take k++L.drop (k+1)
theorem nQ {k:Nat}{x:Int×Int}(hk:k≤L.length):(jI L k x).length=L.length+1:=by simp[jI];omega
theorem qW {k:Nat}(hk:k<L.length):(qo L k).length=L.length-1:=by simp[qo];omega
theorem AY {k:Nat}{x:Int×Int}(hk:k≤L.length)(m:Nat)(d:Int×Int):(jI L k x).getD m d=if m<k then L.getD m d else if m=k then x else L.getD (m-1) d:=by
 simp only[jI,List.getD_eq_getElem?_getD];have hl:(L.take k).length=k:=by rw[List.length_take];omega
 by_cases h1:m<k
 ·rw[qaj h1,List.getElem?_append_left (by omega),List.getElem?_take,qaj h1]
 ·rw[qai h1,List.getElem?_append_right (by omega),hl];by_cases h2:m=k
  ·subst h2;simp
  ·rw[qai h2];obtain⟨q,hq⟩:∃q,m-k=q+1:=⟨m-k-1,by omega⟩;rw[hq,List.getElem?_cons_succ,List.getElem?_drop];congr 2;omega
theorem AZ {k:Nat}(hk:k<L.length)(m:Nat)(d:Int×Int):(qo L k).getD m d=if m<k then L.getD m d else L.getD (m+1) d:=by
 simp only[qo,List.getD_eq_getElem?_getD];have hl:(L.take k).length=k:=by rw[List.length_take];omega
 by_cases h1:m<k
 ·rw[qaj h1,List.getElem?_append_left (by omega),List.getElem?_take,qaj h1]
 ·rw[qai h1,List.getElem?_append_right (by omega),hl,List.getElem?_drop];congr 2;omega
theorem AQ {k:Nat}{x:Int×Int}(hk:k≤L.length)(m:Nat):tA (jI L k x) m=if m<k then tA L m else if m=k then x.1 else tA L (m-1):=by
 simp only[tA,AY hk];split;·rfl
 ·split<;>rfl
theorem M6 {k:Nat}{x:Int×Int}(hk:k≤L.length)(m:Nat):tV (jI L k x) m=if m<k then tV L m else if m=k then x.2 else tV L (m-1):=by
 simp only[tV,AY hk];split;·rfl
 ·split<;>rfl
theorem Fh {k:Nat}(hk:k<L.length)(m:Nat):tA (qo L k) m=if m<k then tA L m else tA L (m+1):=by
 simp only[tA,AZ hk];split<;>rfl
theorem M7 {k:Nat}(hk:k<L.length)(m:Nat):tV (qo L k) m=if m<k then tV L m else tV L (m+1):=by
 simp only[tV,AZ hk];split<;>rfl
theorem Sm.ins (h:Sm L now f){t:Int}{i:Nat}(hi:ic L t i)(hn:now≤t)(hne:tA L i≠t)(ht:t<1152921504606846976):Sm (jI L (i+1) (t,tV L i)) now f:=by
 have hik:=hi.lt;have hk:i+1≤L.length:=by omega
 have hle:=hi.uL h hn;have hl:=nQ (x:=(t,tV L i)) hk;have A:=AQ (x:=(t,tV L i)) hk;have V:=M6 (x:=(t,tV L i)) hk;refine⟨by omega,?_,?_,?_,?_⟩
 ·rw[A,qaj (by omega),h.hd]
 ·intro m hm;rw[A,A];rcases(by omega:m+1<i+1∨m=i∨m=i+1∨i+1<m)with h1|h1|h1|h1
  ·rw[qaj (by omega),qaj h1];exact h.inc m (by omega)
  ·subst h1;rw[qaj (by omega),qai (by omega),qaj rfl];show tA L m<t;omega
  ·subst h1;rw[qai (by omega),qaj rfl,qai (by omega),qai (by omega)];exact hi.nx (by omega)
  ·rw[qai (by omega),qai (by omega),qai (by omega),qai (by omega)];have:=h.inc (m-1) (by omega);rw[show m-1+1=m by omega]at this;rw[show m+1-1=m by omega];exact this
 ·intro m hm;rw[A];split
  ·exact h.top m (by omega)
  ·split
   ·exact ht
   ·exact h.top (m-1) (by omega)
 ·intro m u hm hle2 hnx;rw[A]at hle2;rw[V];rcases(by omega:m+1<i+1∨m=i∨m=i+1∨i+1<m)with h1|h1|h1|h1
  ·rw[qaj (by omega)]at hle2⊢;refine h.rep m u (by omega) hle2 fun hx=>?_;have:=hnx (by omega);rw[A,qaj h1]at this;exact this
  ·subst h1;rw[qaj (by omega)]at hle2⊢;have h2:=hnx (by omega);rw[A,qai (by omega),qaj rfl]at h2;have h2:u<t:=h2;exact h.rep m u (by omega) hle2 fun hx=>by have:=hi.nx hx;omega
  ·subst h1;rw[qai (by omega),qaj rfl]at hle2⊢;have hle2:t≤u:=hle2;refine h.rep i u hik (by omega) fun hx=>?_;have:=hnx (by omega);rw[A,qai (by omega),qai (by omega)]at this;exact this
  ·rw[qai (by omega),qai (by omega)]at hle2⊢;refine h.rep (m-1) u (by omega) hle2 fun hx=>?_;have:=hnx (by omega);rw[A,qai (by omega),qai (by omega)]at this;rw[show m-1+1=m+1-1 by omega];exact this
theorem jM.ins {X Y:Int→Prop}{t:Int}{i:Nat}(h:jM L X)(hik:i<L.length)(hX:∀s,X s→Y s)(ht:Y t):jM (jI L (i+1) (t,tV L i)) Y:=by
 have hk:i+1≤L.length:=by omega
 have hl:=nQ (x:=(t,tV L i)) hk;have A:=AQ (x:=(t,tV L i)) hk;have V:=M6 (x:=(t,tV L i)) hk;intro m hm hY;rw[A]at hY;rw[V,V];rcases(by omega:m+1<i+1∨m=i∨m=i+1∨i+1<m)with h1|h1|h1|h1
 ·rw[qaj h1]at hY;rw[qaj (by omega),qaj h1];exact h m (by omega) fun hx=>hY (hX _ hx)
 ·subst h1;rw[qai (by omega),qaj rfl]at hY;exact absurd ht hY
 ·subst h1;rw[qai (by omega),qai (by omega)]at hY;rw[qai (by omega),qaj rfl,qai (by omega),qai (by omega)];exact h i (by omega) fun hx=>hY (hX _ hx)
 ·rw[qai (by omega),qai (by omega)]at hY;rw[qai (by omega),qai (by omega),qai (by omega),qai (by omega)];have:=h (m-1) (by omega);rw[show m-1+1=m by omega]at this;rw[show m+1-1=m by omega]at hY⊢;exact this fun hx=>hY (hX _ hx)
theorem Sm.del (h:Sm L now f){j:Nat}(hj0:0<j)(hj:j<L.length)(hv:tV L j=tV L (j-1)):Sm (qo L j) now f:=by
 have hl:=qW hj;have A:=Fh hj;have V:=M7 hj;refine⟨by omega,?_,?_,?_,?_⟩
 ·rw[A,qaj hj0,h.hd]
 ·intro m hm;rw[A,A];rcases(by omega:m+1<j∨m+1=j∨j≤m)with h1|h1|h1
  ·rw[qaj (by omega),qaj h1];exact h.inc m (by omega)
  ·rw[qaj (by omega),qai (by omega)];exact h.lt (by omega) (by omega)
  ·rw[qai (by omega),qai (by omega)];exact h.inc (m+1) (by omega)
 ·intro m hm;rw[A];split
  ·exact h.top m (by omega)
  ·exact h.top (m+1) (by omega)
 ·intro m u hm hle hnx;rw[A]at hle;rw[V];rcases(by omega:m+1<j∨m+1=j∨j≤m)with h1|h1|h1
  ·rw[qaj (by omega)]at hle⊢;refine h.rep m u (by omega) hle fun hx=>?_;have:=hnx (by omega);rw[A,qaj h1]at this;exact this
  ·subst h1;rw[qaj (by omega)]at hle⊢;by_cases hu:u<tA L (m+1)
   ·exact h.rep m u (by omega) hle fun _=>hu
   ·rw[show m=m+1-1 by omega,←hv];refine h.rep (m+1) u (by omega) (by omega) fun hx=>?_;have:=hnx (by omega);rw[A,qai (by omega)]at this;exact this
  ·rw[qai (by omega)]at hle⊢;refine h.rep (m+1) u (by omega) hle fun hx=>?_;have:=hnx (by omega);rw[A,qai (by omega)]at this;exact this
theorem jM.del {X Y:Int→Prop}{j:Nat}(h:jM L X)(hj0:0<j)(hj:j<L.length)(hv:tV L j=tV L (j-1))(hX:∀s,X s→Y s∨s=tA L j)(hs:∀m,j<m→m<L.length→tA L j≠tA L m)(hs2:∀m,m<j→tA L m≠tA L j):jM (qo L j) Y:=by
 have hl:=qW hj;have A:=Fh hj;have V:=M7 hj;intro m hm hY;rw[A]at hY;rw[V,V];rcases(by omega:m+1<j∨m+1=j∨j≤m)with h1|h1|h1
 ·rw[qaj h1]at hY;rw[qaj (by omega),qaj h1];refine h m (by omega) fun hx=>?_;rcases hX _ hx with h2|h2
  ·exact hY h2
  ·exact hs2 _ h1 h2
 ·rw[qai (by omega)]at hY;rw[qaj (by omega),qai (by omega)];have:=h (m+1) (by omega);rw[show m=j-1 by omega,←hv,show j=m+1 by omega];rw[show m+1-1=m by omega];refine this fun hx=>?_;rcases hX _ hx with h2|h2
  ·exact hY h2
  ·exact hs _ (by omega) (by omega) h2.symm
 ·rw[qai (by omega)]at hY;rw[qai (by omega),qai (by omega)];refine h (m+1) (by omega) fun hx=>?_;rcases hX _ hx with h2|h2
  ·exact hY h2
  ·exact hs _ (by omega) (by omega) h2.symm
structure AR (L L' : List (Int × Int)) (i j : Nat) (n : Int) : Prop where
 len:L'.length=L.length
 a:∀m,tA L' m=tA L m
 v:∀m,m<L.length→tV L' m=tV L m+(if i≤m∧m<j then n else 0)
def had (a b n t:Int):Int:=if a≤t∧(t<b∨b=1152921504606846976)then n else 0
theorem Sm.raise {L':List (Int×Int)}{i j:Nat}{n a b:Int}(h:Sm L now f)(hr:AR L L' i j n)(hi:i<L.length)(ha:tA L i=a)
 (hj:(j<L.length∧tA L j=b)∨(j=L.length∧b=1152921504606846976)):Sm L' now (fun t=>f t+had a b n t):=by
 refine⟨by rw[hr.len];exact h.pos,by rw[hr.a];exact h.hd,fun m hm=>by rw[hr.a,hr.a];rw[hr.len]at hm;exact h.inc m hm,fun m hm=>by rw[hr.a];rw[hr.len]at hm;exact h.top m hm,fun m t hm hle hnx=>?_⟩;rw[hr.len]at hm hnx;rw[hr.a]at hle hnx;rw[hr.v m hm];show f t+had a b n t=_;rw[h.rep m t hm hle hnx];congr 1;unfold had;have h1:a≤t↔i≤m:=by
  constructor
  ·intro h1;rcases Nat.lt_or_ge m i with h2|h2
   ·have h3:=h.le (i:=m+1) (j:=i) (by omega) hi;have:=hnx (by omega);omega
   ·exact h2
  ·intro h1;have:=h.le h1 hm;omega
 have h2:(t<b∨b=1152921504606846976)↔m<j:=by
  rcases hj with⟨hj,hb⟩|⟨hj,hb⟩
  ·have htop:=h.top j hj;constructor
   ·intro h1;rcases Nat.lt_or_ge m j with h2|h2
    ·exact h2
    ·have:=h.le h2 hm;omega
   ·intro h1;have h3:=h.le (i:=m+1) (j:=j) (by omega) hj;have:=hnx (by omega);exact .inl (by omega)
  ·exact⟨fun _=>by omega,fun _=>.inr hb⟩
 by_cases hc:i≤m∧m<j
 ·rw[qaj hc,qaj ⟨h1.2 hc.1,h2.2 hc.2⟩]
 ·rw[qai hc,qai fun hx=>hc ⟨h1.1 hx.1,h2.1 hx.2⟩]
theorem jM.raise {L':List (Int×Int)}{i j:Nat}{n a b:Int}{X Y:Int→Prop}(h:jM L X)(hr:AR L L' i j n)(ha:tA L i=a)
 (hj:(j<L.length∧tA L j=b)∨(j=L.length∧b=1152921504606846976)) (hX:∀s,X s→Y s) (YJ:Y a) (hY2:Y b):jM L' Y:=by
 intro m hm hY;rw[hr.len]at hm;rw[hr.a]at hY;have h0:=h m hm fun hx=>hY (hX _ hx);rw[hr.v m (by omega),hr.v (m+1) hm];have e1:m+1≠i:=fun e=>by rw[e,ha]at hY;exact hY YJ
 have e2:m+1≠j:=fun e=>by
  rcases hj with⟨hj,hb⟩|⟨hj,hb⟩
  ·rw[e,hb]at hY;exact hY hY2
  ·omega
 by_cases hc:i≤m∧m<j
 ·rw[qaj hc,qaj (by omega)];omega
 ·rw[qai hc,qai (by omega)];omega
theorem Can.later {L':List (Int×Int)}{k:Nat}{t:Int}(h:Can L now f)(hk:ic L t k)(hn:now≤t)(ht:t<1152921504606846976)(hl:L'.length=L.length-k)(h0:tA L' 0=t)(ha:∀m,0<m→tA L' m=tA L (m+k))(hv:∀m,tV L' m=tV L (m+k)):Can L' t f:=by
 have hkl:=hk.lt;have hle:=hk.uL h.sm hn;refine⟨⟨by omega,h0,fun m hm=>?_,fun m hm=>?_,fun m u hm hle2 hnx=>?_⟩,fun m hm _=>?_⟩
 ·rw[ha (m+1) (by omega)];rcases Nat.eq_zero_or_pos m with h1|h1
  ·subst h1;rw[h0,show 0+1+k=k+1 by omega];exact hk.nx (by omega)
  ·rw[ha m h1,show m+1+k=m+k+1 by omega];exact h.sm.inc (m+k) (by omega)
 ·rcases Nat.eq_zero_or_pos m with h1|h1
  ·subst h1;rw[h0];exact ht
  ·rw[ha m h1];exact h.sm.top (m+k) (by omega)
 ·rw[hv];refine h.sm.rep (m+k) u (by omega) ?_ fun hx=>?_
  ·rcases Nat.eq_zero_or_pos m with h1|h1
   ·subst h1;rw[h0]at hle2;rw[show 0+k=k by omega];omega
   ·rw[ha m h1]at hle2;exact hle2
  ·have:=hnx (by omega);rw[ha (m+1) (by omega)]at this;rw[show m+k+1=m+1+k by omega];exact this
 ·rw[hv,hv,show m+1+k=m+k+1 by omega];exact h.alt (m+k) (by omega) (fun x=>x)
end
structure BL (f : Int → Int) (lo hi m : Int) : Prop where
 le:m≤64
 all:∀t,lo≤t→t<hi→m≤f t
 one:m=64∨∃t,lo≤t∧t<hi∧f t=m
def Good (f:Int→Int)(long width u:Int):Prop:=∀x,u≤x→x<u+long→width≤f x
def qX (f:Int→Int)(lo long width t e:Int):Prop:=
 (e=0∧lo≤t∧t≤1099511627776∧Good f long width t∧∀u,lo≤u→u<t→¬Good f long width u)∨(e=16∧t=0∧∀u,lo≤u→u≤1099511627776→¬Good f long width u)
theorem Good.congr {f g:Int→Int}{long width u lo:Int}(hfg:∀t,lo≤t→f t=g t)(hu:lo≤u)(h:Good f long width u):Good g long width u:=fun x h1 h2=>by rw[←hfg x (by omega)];exact h x h1 h2
theorem qX.uniq {f g:Int→Int}{lo long width t e t' e':Int}(h:qX f lo long width t e)(h':qX g lo long width t' e')(hfg:∀t,lo≤t→f t=g t):t=t'∧e=e':=by
 have hgf:∀t,lo≤t→g t=f t:=fun t ht=>(hfg t ht).symm;rcases h with⟨e1,a1,b1,c1,d1⟩|⟨e1,a1,d1⟩<;>rcases h' with⟨e2,a2,b2,c2,d2⟩|⟨e2,a2,d2⟩
 ·refine⟨?_,by omega⟩;rcases Int.lt_trichotomy t t' with h|h|h
  ·exact absurd (c1.congr hfg a1) (d2 t a1 h)
  ·exact h
  ·exact absurd (c2.congr hgf a2) (d1 t' a2 h)
 ·exact absurd (c1.congr hfg a1) (d2 t a1 b1)
 ·exact absurd (c2.congr hgf a2) (d1 t' a2 b2)
 ·exact⟨by omega,by omega⟩
section
end
def A7 (j:Jb):List Int:=(if j.st=3 then[j.fin]else[])++(if aj j=true then[j.aJ,j.aJ+j.lim]else[])
def p8 (L:List Jb):List Int:=L.flatMap A7
theorem Hf (j:Jb):(A7 j).length≤2:=by
 unfold A7;by_cases h3:j.st=3
 ·have:aj j=false:=by unfold aj;rw[qah (by omega)];rfl
  simp[h3,this]
 ·rw[qai h3];by_cases hp:aj j=true
  ·rw[qaj hp];simp
  ·rw[qai hp];simp
theorem Hg (L:List Jb):(p8 L).length≤2*L.length:=by
 induction L with
 |nil=>simp[p8]
 |cons j L ih=>
  have h1:=Hf j;have:p8 (j::L)=A7 j++p8 L:=by simp[p8]
  rw[this,List.length_append,List.length_cons];omega
def jV (E:List Int)(last b:Int):Prop:=(b<0∧∀t∈E,t≤last)∨(0≤b∧last<b∧b∈E∧∀t∈E,last<t→b≤t)
theorem gP {E:List Int}{last b t:Int}(hl:0≤last)(h:jV E last b):jV (E++[t]) last (oD b t last):=by
 unfold oD;by_cases hc:last<t∧(b<0∨t<b)
 ·rw[qaj hc];refine .inr ⟨by omega,hc.1,by simp,fun u hu Vu=>?_⟩;rw[List.mem_append,List.mem_singleton]at hu;rcases hu with hu|rfl
  ·rcases h with⟨_,h2⟩|⟨_,_,_,h4⟩
   ·have:=h2 u hu;omega
   ·have:=h4 u hu Vu;omega
  ·omega
 ·rw[qai hc];rcases h with⟨h1,h2⟩|⟨h1,h2,h3,h4⟩
  ·refine .inl ⟨h1,fun u hu=>?_⟩;rw[List.mem_append,List.mem_singleton]at hu;rcases hu with hu|rfl
   ·exact h2 u hu
   ·omega
  ·refine .inr ⟨h1,h2,by simp[h3],fun u hu Vu=>?_⟩;rw[List.mem_append,List.mem_singleton]at hu;rcases hu with hu|rfl
   ·exact h4 u hu Vu
   ·omega
theorem Fj {E:List Int}{last b:Int}(hl:0≤last)(h:jV E last b)(j:Jb):jV (E++A7 j) last (Fe last b j):=by
 unfold Fe A7;by_cases h3:j.st=3
 ·have hp:aj j=false:=by unfold aj;rw[qah (by omega)];rfl
  simp only[h3,hp,if_true,Bool.false_eq_true,if_false,List.append_nil];exact gP hl h
 ·simp only[h3,if_false,xD];by_cases hp:aj j=true
  ·simp only[hp,if_true];have:=gP (t:=j.aJ+j.lim) hl (gP (t:=j.aJ) hl h);rw[List.append_assoc]at this;exact this
  ·simp only[hp,Bool.false_eq_true,if_false,List.append_nil];exact h
theorem Fp {L:List Jb}{E:List Int}{last b:Int}(hl:0≤last)(h:jV E last b):jV (E++p8 L) last (L.foldl (Fe last) b):=by
 induction L generalizing E b with
 |nil=>simpa[p8]using h
 |cons j L ih=>
  have:=ih (Fj hl h j);rw[List.append_assoc]at this;exact this
theorem qY (L:List Jb){last:Int}(hl:0≤last):jV (p8 L) last (ko L last):=by
 have:=Fp (L:=L) (E:=[]) (b:= -1) hl (.inl ⟨by omega,fun t ht=>by cases ht⟩);simpa[ko]using this
theorem oF (L:List Jb){n:Nat}{last:Int}(hl:0≤last):∀t∈timesGo L n last,last<t∧t∈p8 L:=by
 induction n generalizing last with
 |zero=>intro t ht;cases ht
 |succ n ih=>
  intro t ht;unfold timesGo at ht;have hb:=qY L hl;by_cases h:ko L last<0
  ·rw[qaj h]at ht;cases ht
  ·rw[qai h]at ht;rcases hb with⟨h1,_⟩|⟨h1,h2,h3,_⟩
   ·exact absurd h1 h
   ·rcases List.mem_cons.1 ht with rfl|ht
    ·exact⟨h2,h3⟩
    ·have:=ih (by omega) t ht;exact⟨by omega,this.2⟩
theorem Al (L:List Jb){n:Nat}{last:Int}(hl:0≤last):(timesGo L n last).Pairwise (· < ·):=by
 induction n generalizing last with
 |zero=>exact List.Pairwise.nil
 |succ n ih=>
  unfold timesGo;have hb:=qY L hl;by_cases h:ko L last<0
  ·rw[qaj h];exact List.Pairwise.nil
  ·rw[qai h];have h0:0≤ko L last:=by omega
   exact List.Pairwise.cons (fun t ht=>(oF L h0 t ht).1) (ih h0)
theorem Fq (L:List Jb){n:Nat}{last:Int}(hl:0≤last)(hn:((p8 L).filter fun t=>decide (last<t)).length≤n):∀t∈p8 L,last<t→t∈timesGo L n last:=by
 induction n generalizing last with
 |zero=>
  intro t ht hlt;have:t∈(p8 L).filter fun t=>decide (last<t):=List.mem_filter.2 ⟨ht,by simpa using hlt⟩;have:=List.length_pos_of_mem this;omega
 |succ n ih=>
  intro t ht hlt;unfold timesGo;have hb:=qY L hl;rcases hb with⟨h1,h2⟩|⟨h1,h2,h3,h4⟩
  ·have:=h2 t ht;omega
  ·rw[qai (by omega)];rcases Int.lt_or_le (ko L last) t with h5|h5
   ·refine List.mem_cons_of_mem _ (ih h1 ?_ t ht h5);have hlt2:((p8 L).filter fun u=>decide (ko L last<u)).length<((p8 L).filter fun u=>decide (last<u)).length:=by
     have hs:((p8 L).filter fun u=>decide (ko L last<u))=((p8 L).filter fun u=>decide (last<u)).filter fun u=>decide (ko L last<u):=by
      rw[List.filter_filter];refine List.filter_congr fun u _=>?_;by_cases h6:ko L last<u
      ·have:last<u:=by omega
       simp[h6,this]
      ·simp[h6]
     rw[hs];refine Nat.lt_of_le_of_ne (List.length_filter_le _ _) fun he=>?_;have:=List.length_filter_eq_length_iff.1 he (ko L last) (List.mem_filter.2 ⟨h3,by simpa using h2⟩);simp at this
    omega
   ·have:=h4 t ht hlt;have:t=ko L last:=by omega
    rw[this];exact List.mem_cons_self
theorem sZ {M:Md}(h0:0≤M.now)(t:Int):t∈mV M↔t=M.now∨(M.now<t∧t∈p8 M.L):=by
 unfold mV;rw[List.mem_cons];constructor
 ·rintro(h|h)
  ·exact .inl h
  ·exact .inr (oF M.L h0 t h)
 ·rintro(h|⟨h1,h2⟩)
  ·exact .inl h
  ·exact .inr (Fq M.L h0 (Nat.le_trans (List.length_filter_le _ _) (Hg M.L)) t h2 h1)
theorem A8 {M:Md}(h0:0≤M.now):(mV M).Pairwise (· < ·):=
 List.Pairwise.cons (fun t ht=>(oF M.L h0 t ht).1) (Al M.L h0)
section
variable {w w' : World} {p : Nat} {dv lv : Value} {M : Md}
theorem Fs (hb:MB M)(t but:Int): -65536≤ax M t but∧ax M t but≤64:=by
 have h1:=jU M t M.dr.length;have h2:=mW hb.wid t but;have:=hb.nn;have:=hb.ll;unfold ax;omega
end
namespace Reg2
inductive Kind : Type 1 where
 |pure
 |minor (α:Type) (d:α) (val:α→Value) (Post:α→World→Prop)
 |pinned (α:Type) (d:α) (val:α→Value) (Post:α→World→Prop)
 |major (α:Type) (d:α) (val:α→Value)
variable (P : Program) (ops : Array Oper)
def slot (o:Oper)(a:Act):Value:=match o.dst with|some d=>a.tmps.getD d undef|none=>undef
def Ext (w w':World):Prop:=Below w.heap.size w w'
def Done (o:Oper)(R:Value→World→Prop)(a0:Act):Exit→Act→World→Prop
 |.normal,a,w=>∃v,a=a0.put o.dst v∧R v w
 |_,_,_=>False
def One (o:Oper)(a:Act)(w:World)(R:Value→World→Prop):Prop:=wpList P ops (Done o R a) [o] a w
def jW :World→Prop:=fun _=>True
def facts (w:World):List Bool→List (World→Prop)→Prop
 |true::bs,f::fs=>f w∧facts w bs fs
 |false::bs,_::fs=>facts w bs fs
 |_,_=>True
def uM (w:World):List (World→Prop)→Prop
 |f::fs=>f w∧uM w fs
 | []=>True
variable (I : World → Prop) (S : List Value → World → Prop) (G : World → World → Prop) (fin : Act → List (World → Prop) → List Value → Prop)
def opPass (o:Oper)(m:List Bool)(a:Act)(F:List (World→Prop))(vs:List Value)(nx:Act→List (World→Prop)→List Value→Prop):Kind→Prop
 |.pure=>∃v:Value,Yields P ops o v a∧nx (a.put o.dst v) (F++[jW]) vs
 |.minor α _ val Post=>
  (Region.wanted o (yielded ops a.tmps)=true→(∀w,I w→facts w m F→One P ops o a w fun v w'=>(∃x:α,v=val x∧Post x w')∧Ext w w')∧∀x:α,nx (a.put o.dst (val x)) (F++[Post x]) vs)∧
  (Region.wanted o (yielded ops a.tmps)=false→nx (a.put o.dst undef) (F++[jW]) vs)
 |.pinned α _ val Post=>
  (Region.wanted o (yielded ops a.tmps)=true→(∀w,I w→S vs w→facts w m F→One P ops o a w fun v w'=>(∃x:α,v=val x∧Post x w')∧Ext w w')∧∀x:α,nx (a.put o.dst (val x)) (F++[Post x]) vs)∧
  (Region.wanted o (yielded ops a.tmps)=false→nx (a.put o.dst undef) (F++[jW]) vs)
 |.major α _ val=>
  (Region.wanted o (yielded ops a.tmps)=true→(∀w,I w→S vs w→facts w m F→One P ops o a w fun v w'=>((∃x:α,v=val x)∧S (vs++[v]) w')∧G w w')∧∀x:α,nx (a.put o.dst (val x)) (F++[jW]) (vs++[val x]))∧
  (Region.wanted o (yielded ops a.tmps)=false→(∀w,I w→S vs w→S (vs++[undef]) w)∧nx (a.put o.dst undef) (F++[jW]) (vs++[undef]))
def pass :List (Oper×Kind×List Bool)→Act→List (World→Prop)→List Value→Prop
 | [],a,F,vs=>fin a F vs
 |x::r,a,F,vs=>opPass P ops I S G x.1 x.2.2 a F vs (pass r) x.2.1
def vT :Kind→Prop
 |.minor _ _ _ Post=>(∀x w w',Ext w w'→Post x w→Post x w')∧(∀x w w',G w w'→Post x w→Post x w')
 |.pinned _ _ _ Post=>(∀x w w',Ext w w'→Post x w→Post x w')∧(∀x w w',G w w'→Post x w→Post x w')
 |_=>True
def stays :List (Oper×Kind×List Bool)→Prop
 |x::r=>vT G x.2.1∧stays r
 | []=>True
def bE :Kind→Nat|.pure=>0|.minor .. =>1|.pinned .. =>2|.major .. =>3
def at2 (ms:List (List Bool))(i j:Nat):Bool:=(ms.getD i []).getD j false
def okRow (n:Nat)(ms:List (List Bool))(tags:List Nat)(i:Nat)(o:Oper):Bool:=
 (ms.getD i []).length == i&&(o.dst.isSome||tags.getD i 0 == 3)&&(match o.op with|.select _ _=>false|_=>true)&&
 o.after.all (fun e=>!Region.binds .any e||e.on<i)&&
 (List.range n).all fun j=>
  (!at2 ms i j||o.after.any fun e=>Region.binds .any e&&(e.on == j||at2 ms e.on j))&&
  (!at2 ms i j||(List.range n).all fun l=>!at2 ms j l||at2 ms i l)&&
  (match ops[j]? with
   |none=>false
   |some p=>(i == j|| !(o.dst == p.dst)|| !o.dst.isSome)&&(match p.dst with|some d=>!(o.looksAt ops).contains d||at2 ms i j|none=>true)&&
    (!((tags.getD i 0 == 3||tags.getD i 0 == 2)&&tags.getD j 0 == 3)||i == j||at2 ms i j||at2 ms j i))
def okB (n N:Nat)(ms:List (List Bool))(tags:List Nat):Bool:=
 (n≤ops.size)&&(List.range ops.size).all fun i=>match ops[i]? with
  |none=>false
  |some o=>if i<n then okRow ops n ms tags i o&&(match o.dst with|some d=>d<N|none=>true)
   else o.after.all (fun e=>!Region.binds .any e||e.on<i)&&(List.range i).all fun j=>o.after.any fun e=>Region.binds .any e&&(e.on == j||(decide (e.on<n)&&at2 ms e.on j)||(decide (n≤e.on)&&decide (j<e.on)))
def silent :Kind→Prop|.major _ _ val=>∀x,val x=undef|_=>False
structure Ok (n N : Nat) (ms : List (List Bool)) (all : List (Oper × Kind × List Bool)) : Prop where
 le:n≤ops.size
 len:all.length=n
 get:∀(i:Nat) (o:Oper) (k:Kind) (m:List Bool),all[i]? =some (o,k,m)→ops[i]? =some o∧m=ms.getD i []
 D6:∀(i:Nat) (o:Oper),i<n→ops[i]? =some o→(ms.getD i []).length=i
 dst:∀(i:Nat) (o:Oper),i<n→ops[i]? =some o→∀d,o.dst=some d→d<N
 non:∀(i:Nat) (o:Oper) (k:Kind) (m:List Bool),all[i]? =some (o,k,m)→o.dst=none→silent k
 TH:∀(i:Nat) (o:Oper),i<n→ops[i]? =some o→∀cs b,o.op≠.select cs b
 back:∀(i:Nat) (o:Oper),ops[i]? =some o→∀e∈o.after,Region.binds .any e=true→e.on<i
 ahead:∀(i:Nat) (o:Oper) (j:Nat),i<n→ops[i]? =some o→at2 ms i j=true→∃e∈o.after,Region.binds .any e=true∧(e.on=j∨at2 ms e.on j=true)
 trans:∀(i j l:Nat),i<n→at2 ms i j=true→at2 ms j l=true→at2 ms i l=true
 apart:∀(i j:Nat) (o p:Oper),i<n→j<n→i≠j→ops[i]? =some o→ops[j]? =some p→∀d,o.dst=some d→p.dst≠some d
 looks:∀(i j:Nat) (o p:Oper) (d:Tmp),i<n→j<n→ops[i]? =some o→ops[j]? =some p→p.dst=some d→d∈o.looksAt ops→at2 ms i j=true
 WM:∀(i j:Nat) (o:Oper) (k:Kind) (m:List Bool) (p:Oper) (k':Kind) (m':List Bool),all[i]? =some (o,k,m)→(bE k=3∨bE k=2)→all[j]? =some (p,k',m')→bE k'=3→i≠j→at2 ms i j=true∨at2 ms j i=true
 tail:∀(i:Nat) (o:Oper) (j:Nat),n≤i→ops[i]? =some o→j<i→∃e∈o.after,Region.binds .any e=true∧(e.on=j∨(e.on<n∧at2 ms e.on j=true)∨(n≤e.on∧j<e.on))
theorem nR {ms:List (List Bool)}{i j:Nat}(h:(ms.getD i []).length=i)(hj:at2 ms i j=true):j<i:=by
 unfold at2 at hj;rcases Nat.lt_or_ge j i with hlt|hge
 ·exact hlt
 ·rw[List.getD_eq_getElem?_getD,List.getElem?_eq_none (by omega)]at hj;cases hj
theorem Qk {n N:Nat}{ms:List (List Bool)}{all:List (Oper×Kind×List Bool)}(h:okB ops n N ms (all.map fun x=>bE x.2.1)=true)(hl:all.map (·.1)=ops.toList.take n)(hms:all.map (·.2.2)=ms)(pK:∀x∈all,x.1.dst=none→silent x.2.1):Ok ops n N ms all:=by
 unfold okB at h;rw[Bool.and_eq_true]at h;obtain⟨hle,h⟩:=h;have hle:n≤ops.size:=by simpa using hle
 rw[List.all_eq_true]at h;have hlen:all.length=n:=by
  have:=congrArg List.length hl;simp only[List.length_map,List.length_take,Array.length_toList]at this;omega
 have hget:∀(i:Nat) (o:Oper) (k:Kind) (m:List Bool),all[i]? =some (o,k,m)→ops[i]? =some o∧m=ms.getD i []:=by
  intro i o k m hi;refine⟨?_,by rw[←hms];simp[List.getD,hi]⟩;have h1:(all.map (·.1))[i]? =some o:=by simp[hi]
  rw[hl,List.getElem?_take]at h1;split at h1
  ·simpa using h1
  ·cases h1
 have row:∀(i:Nat) (o:Oper),i<n→ops[i]? =some o→okRow ops n ms (all.map fun x=>bE x.2.1) i o=true∧∀d,o.dst=some d→d<N:=by
  intro i o hi ho;have:=h i (List.mem_range.2 (by omega));simp only[ho,hi,if_true,Bool.and_eq_true]at this;refine⟨this.1,?_⟩;have h2:=this.2;intro d hd;simpa[hd]using h2
 have Hl:∀(i:Nat) (o:Oper) (j:Nat),i<n→ops[i]? =some o→j<n→
  ((!at2 ms i j||o.after.any fun e=>Region.binds .any e&&(e.on == j||at2 ms e.on j))&&
  (!at2 ms i j||(List.range n).all fun l=>!at2 ms j l||at2 ms i l)&&
  (match ops[j]? with
   |none=>false
   |some p=>(i == j|| !(o.dst == p.dst)|| !o.dst.isSome)&&(match p.dst with|some d=>!(o.looksAt ops).contains d||at2 ms i j|none=>true)&&
    (!(((all.map fun x=>bE x.2.1).getD i 0 == 3||(all.map fun x=>bE x.2.1).getD i 0 == 2)&&(all.map fun x=>bE x.2.1).getD j 0 == 3)||i == j||at2 ms i j||at2 ms j i)))=true:=by
  intro i o j hi ho hj;have h1:=(row i o hi ho).1;unfold okRow at h1;rw[Bool.and_eq_true,List.all_eq_true]at h1;exact h1.2 j (List.mem_range.2 hj)
 have Fu:∀(i:Nat) (o:Oper),i<n→ops[i]? =some o→(ms.getD i []).length=i:=by
  intro i o hi ho;have h1:=(row i o hi ho).1;unfold okRow at h1;simp only[Bool.and_eq_true]at h1;simpa using h1.1.1.1.1
 have Hm:∀(i:Nat),i<ops.size→∃o,ops[i]? =some o:=fun i hi=>⟨ops[i],by simp[hi]⟩
 refine⟨hle,hlen,hget,Fu,fun i o hi ho=>(row i o hi ho).2,fun i o k m hi=>pK _ (List.mem_of_getElem? hi),?_,?_,?_,?_,?_,?_,?_,?_⟩
 ·intro i o hi ho cs b hop;have h1:=(row i o hi ho).1;unfold okRow at h1;simp only[Bool.and_eq_true]at h1;have:=h1.1.1.2;rw[hop]at this;cases this
 ·intro i o ho e he hb;have hi:i<ops.size:=(Array.getElem?_eq_some_iff.1 ho).1;have h1:=h i (List.mem_range.2 hi);simp only[ho]at h1;split at h1
  ·rename_i hin
   have h2:=(row i o hin ho).1;unfold okRow at h2;simp only[Bool.and_eq_true,Array.all_eq_true_iff_forall_mem]at h2;simpa[hb]using h2.1.2 e he
  ·rw[Bool.and_eq_true,Array.all_eq_true_iff_forall_mem]at h1;simpa[hb]using h1.1 e he
 ·intro i o j hi ho hj;have hlt:=nR (Fu i o hi ho) hj;have h1:=Hl i o j hi ho (by omega);simp only[Bool.and_eq_true,hj,Bool.not_true,Bool.false_or]at h1;have h2:=h1.1.1;rw[Array.any_eq_true]at h2;obtain⟨x,hx,h3⟩:=h2;simp only[Bool.and_eq_true,Bool.or_eq_true,beq_iff_eq]at h3;exact⟨_,Array.getElem_mem hx,h3.1,h3.2⟩
 ·intro i j l hi hij hjl;obtain⟨o,ho⟩:=Hm i (by omega);have hlt:=nR (Fu i o hi ho) hij;obtain⟨p,hp⟩:=Hm j (by omega);have hlt2:=nR (Fu j p (by omega) hp) hjl;have h1:=Hl i o j hi ho (by omega);simp only[Bool.and_eq_true,hij,Bool.not_true,Bool.false_or]at h1;have h2:=h1.1.2;rw[List.all_eq_true]at h2;have:=h2 l (List.mem_range.2 (by omega));simpa[hjl]using this
 ·intro i j o p hi hj hne ho hp d hd he;have h1:=Hl i o j hi ho hj;simp only[hp,Bool.and_eq_true]at h1;have h2:=h1.2.1.1;rw[he,hd]at h2;simp[hne]at h2
 ·intro i j o p d hi hj ho hp hd hm;have h1:=Hl i o j hi ho hj;simp only[hp,Bool.and_eq_true,hd]at h1;have h2:=h1.2.1.2;simpa[List.contains_iff_mem,hm]using h2
 ·intro i j o k m p k' m' hi hk hj hk' hne;have ho:=(hget i o k m hi).1;have hp:=(hget j p k' m' hj).1;have hin:i<n:=by rw[←hlen];exact(List.getElem?_eq_some_iff.1 hi).1
  have hjn:j<n:=by rw[←hlen];exact(List.getElem?_eq_some_iff.1 hj).1
  have h1:=Hl i o j hin ho hjn;simp only[hp,Bool.and_eq_true]at h1;have h2:=h1.2.2;have e1:(all.map fun x=>bE x.2.1).getD i 0=bE k:=by simp[List.getD,hi]
  have e2:(all.map fun x=>bE x.2.1).getD j 0=3:=by simp[List.getD,hj,hk']
  rw[e1,e2]at h2;have e3:((bE k == 3||bE k == 2)&&(3 == 3))=true:=by rcases hk with hk|hk<;>simp[hk]
  rw[e3]at h2;simpa[hne]using h2
 ·intro i o j hi ho hj;have YK:i<ops.size:=(Array.getElem?_eq_some_iff.1 ho).1;have h1:=h i (List.mem_range.2 YK);simp only[ho,show¬i<n by omega,if_false,Bool.and_eq_true,List.all_eq_true]at h1;have h2:=h1.2 j (List.mem_range.2 hj);rw[Array.any_eq_true]at h2;obtain⟨x,hx,h3⟩:=h2;simp only[Bool.and_eq_true,Bool.or_eq_true,beq_iff_eq,decide_eq_true_eq]at h3;refine⟨_,Array.getElem_mem hx,h3.1,?_⟩;rcases h3.2 with(h4|h4)|h4
  ·exact .inl h4
  ·exact .inr (.inl h4)
  ·exact .inr (.inr h4)
variable {P ops I S G fin}
def valsOf (L:Nat→Bool)(a:Act):List (Oper×Kind×List Bool)→Nat→List Value
 | [],_=>[]
 |x::r,j=>(if bE x.2.1=3∧L j=true then[slot x.1 a]else[])++valsOf L a r (j+1)
theorem iQ (L:Nat→Bool)(a:Act)(r:List (Oper×Kind×List Bool)):∀(l:List (Oper×Kind×List Bool)) (j:Nat),valsOf L a (l++r) j=valsOf L a l j++valsOf L a r (j+l.length)
 | [],j=>by simp[valsOf]
 |x::l,j=>by
  simp only[xE,valsOf,iQ L a r l (j+1),List.append_assoc,List.length_cons];rw[show j+1+l.length=j+(l.length+1)by omega]
theorem vG {L L':Nat→Bool}{a a':Act}:∀(l:List (Oper×Kind×List Bool)) (j:Nat),(∀i x,l[i]? =some x→bE x.2.1=3→L (j+i)=L' (j+i)∧(L (j+i)=true→slot x.1 a=slot x.1 a'))→valsOf L a l j=valsOf L' a' l j
 | [],_,_=>rfl
 |x::l,j,h=>by
  have h0:=h 0 x rfl;simp only[valsOf];rw[vG l (j+1) fun i y hy ht=>by have:=h (i+1) y (by simpa using hy) ht;rw[show j+(i+1)=j+1+i by omega]at this;exact this];by_cases ht:bE x.2.1=3
  ·obtain⟨h1,h2⟩:=h0 ht;simp only[Nat.add_zero]at h1 h2;by_cases hL:L j=true
   ·rw[qaj ⟨ht,hL⟩,qaj ⟨ht,by rw[←h1];exact hL⟩,h2 hL]
   ·rw[qai (by simp[hL]),qai (by rw[←h1];simp[hL])]
  ·simp[ht]
theorem pM {L:Nat→Bool}{a:Act}:∀(l:List (Oper×Kind×List Bool)) (j:Nat),(∀i x,l[i]? =some x→bE x.2.1=3→L (j+i)=false)→valsOf L a l j=[]
 | [],_,_=>rfl
 |x::l,j,h=>by
  have h0:=h 0 x rfl;simp only[valsOf];rw[pM l (j+1) fun i y hy ht=>by have:=h (i+1) y (by simpa using hy) ht;rw[show j+(i+1)=j+1+i by omega]at this;exact this];by_cases ht:bE x.2.1=3
  ·have h1:=h0 ht;simp only[Nat.add_zero]at h1;simp[h1]
  ·simp[ht]
def oG (P:Program)(ops:Array Oper)(o:Oper)(a:Act)(w:World):Kind→Prop
 |.pure=>Yields P ops o (slot o a) a
 |.minor α _ val Post=>(Region.wanted o (yielded ops a.tmps)=true→∃x:α,slot o a=val x∧Post x w)∧(Region.wanted o (yielded ops a.tmps)=false→slot o a=undef)
 |.pinned α _ val Post=>(Region.wanted o (yielded ops a.tmps)=true→∃x:α,slot o a=val x∧Post x w)∧(Region.wanted o (yielded ops a.tmps)=false→slot o a=undef)
 |.major α _ val=>(Region.wanted o (yielded ops a.tmps)=true→∃x:α,slot o a=val x)∧(Region.wanted o (yielded ops a.tmps)=false→slot o a=undef)
variable (P ops S) in
structure Inv (n : Nat) (ms : List (List Bool)) (all : List (Oper × Kind × List Bool)) (a0 : Act) (L : Nat → Bool) (a : Act) (w : World) : Prop where
 defers:a.defers=a0.defers
 size:a.tmps.size=a0.tmps.size
 frame:∀t,(∀(j:Nat) (o:Oper),j<n→L j=true→ops[j]? =some o→o.dst≠some t)→a.tmps[t]? =a0.tmps[t]?
 closed:∀i j,i<n→L i=true→at2 ms i j=true→L j=true
 holds:∀(j:Nat) (o:Oper) (k:Kind) (m:List Bool),L j=true→all[j]? =some (o,k,m)→oG P ops o a w k
 state:S (valsOf L a all 0) w
theorem Ho {o:Oper}{v v':Value}{a:Act}(w:World)(h:Yields P ops o v a)(h':Yields P ops o v' a):v=v':=by
 rcases h with⟨h1,h2⟩|⟨h1,rfl⟩<;>rcases h' with⟨h3,h4⟩|⟨h3,rfl⟩
 ·have:=(h2 w).symm.trans (h4 w);simpa using this
 ·rw[h1]at h3;cases h3
 ·rw[h1]at h3;cases h3
 ·rfl
theorem xe {o:Oper}(hs:∀cs b,o.op≠.select cs b){a b:Act}(h:∀t,t∈o.looksAt ops→a.tmps[t]? =b.tmps[t]?):
 execOp a.eval o=execOp b.eval o∧Region.wanted o (yielded ops a.tmps)=Region.wanted o (yielded ops b.tmps):=by
 constructor
 ·refine execOp_congr o hs fun x hx=>?_;cases x with
  |tmp t=>
   have:t∈o.looksAt ops:=List.mem_append_left _ (List.mem_filterMap.2 ⟨.tmp t,by simpa using hx,rfl⟩);simp[Act.eval,h t this]
  |_=>rfl
 ·unfold Region.wanted;cases hg:o.guard with
  |none=>rfl
  |some gw=>
   obtain⟨g,want⟩:=gw;have hy:yielded ops a.tmps g=yielded ops b.tmps g:=by
    unfold yielded;cases ht:(ops[g]?).bind (·.dst)with
    |none=>rfl
    |some t=>
     have:t∈o.looksAt ops:=List.mem_append_right _ (by simp[hg,ht]);simp[h t this]
   simp only[hy]
theorem NT {o:Oper}{a:Act}{d:Tmp}(hd:o.dst=some d)(hlt:d<a.tmps.size)(v:Value):slot o (a.put o.dst v)=v:=by
 simp[slot,hd,Act.put,hlt]
theorem Hq {a:Act}{d t:Tmp}(h:d≠t)(v:Value):(a.put (some d) v).tmps[t]? =a.tmps[t]? :=by
 simp[Act.put,Array.getElem?_setIfInBounds_ne h]
theorem Fv {o:Oper}{a:Act}{d:Tmp}(h:o.dst≠some d)(v:Value):slot o (a.put (some d) v)=slot o a:=by
 unfold slot;cases ho:o.dst with
 |none=>rfl
 |some e=>
  have hne:d≠e:=fun hx=>h (by rw[ho,hx]);simp only[Array.getD_eq_getD_getElem?,Hq hne]
theorem NU {a b:Act}{d:Tmp}(ha:d<a.tmps.size)(v:Value)(hv:v=b.tmps.getD d undef)(hb:d<b.tmps.size):(a.put (some d) v).tmps[d]? =b.tmps[d]? :=by
 subst hv;simp[Act.put,ha,hb]
theorem jN {o:Oper}{a:Act}{v:Value}(hn:o.dst=none→v=undef)(hlt:∀d,o.dst=some d→d<a.tmps.size):slot o (a.put o.dst v)=v:=by
 cases hd:o.dst with
 |none=>rw[hn hd];simp[slot,hd]
 |some d=>rw[←hd];exact NT hd (hlt d hd) v
theorem qp {o:Oper}{a:Act}{t:Tmp}(h:o.dst≠some t)(v:Value):(a.put o.dst v).tmps[t]? =a.tmps[t]? :=by
 cases hd:o.dst with
 |none=>rfl
 |some d=>exact Hq (fun e=>h (by rw[hd,e])) v
theorem vH {o p:Oper}{a:Act}(h:∀d,o.dst=some d→p.dst≠some d)(v:Value):slot p (a.put o.dst v)=slot p a:=by
 cases hd:o.dst with
 |none=>rfl
 |some d=>exact Fv (h d hd) v
theorem D7 (a:Act)(d:Option Tmp)(v:Value):(a.put d v).tmps.size=a.tmps.size:=by
 cases d<;>simp[Act.put]
theorem put_defers (a:Act)(d:Option Tmp)(v:Value):(a.put d v).defers=a.defers:=by
 cases d<;>rfl
structure Kr (ops : Array Oper) (n : Nat) (L : Nat → Bool) (a0 a : Act) (j : Nat) (ac : Act) : Prop where
 defers:ac.defers=a0.defers
 size:ac.tmps.size=a0.tmps.size
 done:∀(i:Nat) (o:Oper) (t:Tmp),i<j→i<n→L i=true→ops[i]? =some o→o.dst=some t→ac.tmps[t]? =a.tmps[t]?
 rest:∀t,(∀(i:Nat) (o:Oper),i<j→i<n→ops[i]? =some o→o.dst≠some t)→ac.tmps[t]? =a0.tmps[t]?
theorem Kr.step {n N:Nat}{ms:List (List Bool)}{all:List (Oper×Kind×List Bool)}{L:Nat→Bool}{a0 a ac:Act}{j:Nat}{o:Oper}(ok:Ok ops n N ms all)(hN:a0.tmps.size=N)(ha:a.tmps.size=a0.tmps.size)
 (h:Kr ops n L a0 a j ac) (hj:j<n) (ho:ops[j]? =some o) {v:Value} (hv:L j=true→v=slot o a):Kr ops n L a0 a (j+1) (ac.put o.dst v):=by
 refine⟨(put_defers _ _ _).trans h.defers,(D7 _ _ _).trans h.size,?_,?_⟩
 ·intro i p t hi hin xg hp ht;by_cases hij:i=j
  ·subst hij;rw[ho]at hp;obtain rfl:=Option.some.inj hp;have hlt:=ok.dst i o hj ho t ht;rw[ht];exact NU (by rw[h.size,hN];exact hlt) _ (by rw[hv xg];simp[slot,ht]) (by rw[ha,hN];exact hlt)
  ·rw[qp (ok.apart i j p o hin hj hij hp ho t ht) _];exact h.done i p t (by omega) hin xg hp ht
 ·intro t ht;rw[qp (ht j o (by omega) hj ho)];exact h.rest t fun i p hi hin hp=>ht i p (by omega) hin hp
theorem Kr.looks {n N:Nat}{ms:List (List Bool)}{all:List (Oper×Kind×List Bool)}{a0 a ac:Act}{j:Nat}{o:Oper}{L:Nat→Bool}{w:World}(ok:Ok ops n N ms all)(inv:Inv P ops S n ms all a0 L a w)
 (h:Kr ops n L a0 a j ac) (hjn:j<n) (ho:ops[j]? =some o) (hM:∀i,at2 ms j i=true→L i=true):
 ∀t,t∈o.looksAt ops→ac.tmps[t]? =a.tmps[t]? :=by
 intro t ht;by_cases hx:∃(i:Nat) (p:Oper),i<n∧ops[i]? =some p∧p.dst=some t
 ·obtain⟨i,p,hin,hp,hd⟩:=hx;have h2:=ok.looks j i o p t hjn hin ho hp hd ht;have hlt:=nR (ok.D6 j o hjn ho) h2;exact h.done i p t hlt hin (hM i h2) hp hd
 ·rw[h.rest t fun i p _ hin hp hd=>hx ⟨i,p,hin,hp,hd⟩,inv.frame t fun i p hin _ hp hd=>hx ⟨i,p,hin,hp,hd⟩]
theorem yz {w:World}:∀(m:List Bool) (F:List (World→Prop)),(∀(i:Nat) (f:World→Prop),m.getD i false=true→F[i]? =some f→f w)→facts w m F
 | [],F,_=>by unfold facts;trivial
 |true::m,[],_=>by unfold facts;trivial
 |false::m,[],_=>by unfold facts;trivial
 |true::m,f::F,h=>⟨h 0 f rfl rfl,yz m F fun i g hi hg=>h (i+1) g (by simpa using hi) (by simpa using hg)⟩
 |false::m,f::F,h=>yz m F fun i g hi hg=>h (i+1) g (by simpa using hi) (by simpa using hg)
theorem xh {w:World}:∀(F:List (World→Prop)),(∀(i:Nat) (f:World→Prop),F[i]? =some f→f w)→uM w F
 | [],_=>trivial
 |f::F,h=>⟨h 0 f rfl,xh F fun i g hg=>h (i+1) g (by simpa using hg)⟩
theorem D8 {n N:Nat}{ms:List (List Bool)}{all:List (Oper×Kind×List Bool)}{a0 a:Act}{L:Nat→Bool}{w:World}(ok:Ok ops n N ms all)(hN:a0.tmps.size=N)(inv:Inv P ops S n ms all a0 L a w)
 (hp:pass P ops I S G fin all a0 [] []):∀j,j≤n→∃ac F vs,pass P ops I S G fin (all.drop j) ac F vs∧Kr ops n L a0 a j ac∧F.length=j∧(∀(i:Nat) (f:World→Prop),L i=true→F[i]? =some f→f w)∧
  ((∀i x,i<j→all[i]? =some x→bE x.2.1=3→L i=true)→vs=valsOf L a (all.take j) 0):=by
 intro j
 induction j with
 |zero=>exact fun _=>⟨a0,[],[],by simpa using hp,⟨rfl,rfl,fun i o t hi=>by omega,fun t _=>rfl⟩,rfl,fun i f _ h=>by simp at h,fun _=>by simp[valsOf]⟩
 |succ j ih=>
  intro hj;obtain⟨ac,F,vs,gJ,hag,hF,hf,hvs⟩:=ih (by omega);have hjl:j<all.length:=by rw[ok.len];omega
  obtain⟨⟨o,k,m⟩,hall⟩:∃x,all[j]? =some x:=⟨all[j],by simp[hjl]⟩;obtain⟨ho,_⟩:=ok.get j o k m hall;have hdrop:all.drop j=(o,k,m)::all.drop (j+1):=by
   rw[List.drop_eq_getElem_cons hjl];rw[List.getElem?_eq_getElem hjl]at hall;rw[Option.some.inj hall]
  have htake:all.take (j+1)=all.take j++[(o,k,m)]:=by
   rw[List.take_succ_eq_append_getElem hjl];rw[List.getElem?_eq_getElem hjl]at hall;rw[Option.some.inj hall]
  rw[hdrop]at gJ;have Ql:(all.take j).length=j:=by rw[List.length_take];omega
  have hfn:∀(g:World→Prop),(L j=true→g w)→∀(i:Nat) (f:World→Prop),L i=true→(F++[g])[i]? =some f→f w:=by
   intro g hg i f xg hfi;rcases Nat.lt_or_ge i F.length with h|h
   ·rw[List.getElem?_append_left h]at hfi;exact hf i f xg hfi
   ·rw[List.getElem?_append_right h]at hfi;have:i=j:=by
     have:=(List.getElem?_eq_some_iff.1 hfi).1;simp at this;omega
    subst this;rw[hF,Nat.sub_self]at hfi;simp at hfi;subst hfi;exact hg xg
  have hv0:bE k≠3→(∀i x,i<j+1→all[i]? =some x→bE x.2.1=3→L i=true)→vs=valsOf L a (all.take (j+1)) 0:=by
   intro ht hx;rw[htake,iQ,Ql,hvs fun i x hi=>hx i x (by omega)];simp[valsOf,ht]
  have hv3:bE k=3→∀v,(L j=true→v=slot o a)→(∀i x,i<j+1→all[i]? =some x→bE x.2.1=3→L i=true)→vs++[v]=valsOf L a (all.take (j+1)) 0:=by
   intro ht v hv hx;have tq:=hx j _ (by omega) hall ht;rw[htake,iQ,Ql,hvs fun i x hi=>hx i x (by omega),hv tq];simp[valsOf,ht,tq]
  have hlk:L j=true→execOp ac.eval o=execOp a.eval o∧Region.wanted o (yielded ops ac.tmps)=Region.wanted o (yielded ops a.tmps):=fun tq=>
   xe (fun cs b=>ok.TH j o (by omega) ho cs b) (hag.looks ok inv (by omega) ho fun i hi=>inv.closed j i (by omega) tq hi)
  have hst:∀v,(L j=true→v=slot o a)→Kr ops n L a0 a (j+1) (ac.put o.dst v):=fun v hv=>hag.step ok hN inv.size (by omega) ho hv;have lh:∀(g:World→Prop),(F++[g]).length=j+1:=fun g=>by simp[hF]
  cases tq:L j with
  |false=>
   have hno:∀{p:Prop},L j=true→p:=fun h=>by rw[tq]at h;cases h
   cases k with
   |pure=>
    obtain⟨v,hy,hnx⟩:=gJ;exact⟨_,_,_,hnx,hst v hno,lh _,hfn _ hno,hv0 (by simp[bE])⟩
   |minor α d val Post=>
    cases hw:Region.wanted o (yielded ops ac.tmps)with
    |true=>exact⟨_,_,_,(gJ.1 hw).2 d,hst _ hno,lh _,hfn _ hno,hv0 (by simp[bE])⟩
    |false=>exact⟨_,_,_,gJ.2 hw,hst _ hno,lh _,hfn _ hno,hv0 (by simp[bE])⟩
   |pinned α d val Post=>
    cases hw:Region.wanted o (yielded ops ac.tmps)with
    |true=>exact⟨_,_,_,(gJ.1 hw).2 d,hst _ hno,lh _,hfn _ hno,hv0 (by simp[bE])⟩
    |false=>exact⟨_,_,_,gJ.2 hw,hst _ hno,lh _,hfn _ hno,hv0 (by simp[bE])⟩
   |major α d val=>
    cases hw:Region.wanted o (yielded ops ac.tmps)with
    |true=>exact⟨_,_,_,(gJ.1 hw).2 d,hst _ hno,lh _,hfn _ hno,hv3 rfl _ hno⟩
    |false=>exact⟨_,_,_,(gJ.2 hw).2,hst _ hno,lh _,hfn _ hno,hv3 rfl _ hno⟩
  |true=>
   obtain⟨hex,hwt⟩:=hlk tq;have hh:=inv.holds j o k m tq hall;cases k with
   |pure=>
    obtain⟨v,hy,hnx⟩:=gJ;have hv:v=slot o a:=Ho w hy (Yields.of_same (show Yields P ops o (slot o a) a from hh) hex hwt);exact⟨_,_,_,hnx,hst v fun _=>hv,lh _,hfn _ fun _=>trivial,hv0 (by simp[bE])⟩
   |minor α d val Post=>
    cases hw:Region.wanted o (yielded ops ac.tmps)with
    |true=>
     obtain⟨x,hx,hpx⟩:=hh.1 (by rw[←hwt];exact hw);exact⟨_,_,_,(gJ.1 hw).2 x,hst _ fun _=>hx.symm,lh _,hfn _ fun _=>hpx,hv0 (by simp[bE])⟩
    |false=>
     have hu:=hh.2 (by rw[←hwt];exact hw);exact⟨_,_,_,gJ.2 hw,hst _ fun _=>hu.symm,lh _,hfn _ fun _=>trivial,hv0 (by simp[bE])⟩
   |pinned α d val Post=>
    cases hw:Region.wanted o (yielded ops ac.tmps)with
    |true=>
     obtain⟨x,hx,hpx⟩:=hh.1 (by rw[←hwt];exact hw);exact⟨_,_,_,(gJ.1 hw).2 x,hst _ fun _=>hx.symm,lh _,hfn _ fun _=>hpx,hv0 (by simp[bE])⟩
    |false=>
     have hu:=hh.2 (by rw[←hwt];exact hw);exact⟨_,_,_,gJ.2 hw,hst _ fun _=>hu.symm,lh _,hfn _ fun _=>trivial,hv0 (by simp[bE])⟩
   |major α d val=>
    cases hw:Region.wanted o (yielded ops ac.tmps)with
    |true=>
     obtain⟨x,hx⟩:=hh.1 (by rw[←hwt];exact hw);exact⟨_,_,_,(gJ.1 hw).2 x,hst _ fun _=>hx.symm,lh _,hfn _ fun _=>trivial,hv3 rfl _ fun _=>hx.symm⟩
    |false=>
     have hu:=hh.2 (by rw[←hwt];exact hw);exact⟨_,_,_,(gJ.2 hw).2,hst _ fun _=>hu.symm,lh _,hfn _ fun _=>trivial,hv3 rfl _ fun _=>hu.symm⟩
theorem Qm {a:Act}{d:Tmp}(hlt:d<a.tmps.size){u v:Value}(h:a.put (some d) u=a.put (some d) v):u=v:=by
 have:=congrArg (fun b:Act=>b.tmps[d]?) h;simpa[Act.put,hlt]using this
theorem Fw {o:Oper}{a ac:Act}{w:World}{R:Value→World→Prop}{K:Act→World→Prop}{Q:Exit→Act→World→Prop}(hlt:∀d,o.dst=some d→d<ac.tmps.size)
 (h:One P ops o ac w R) (hex:execOp ac.eval o=execOp a.eval o) (hw:Region.wanted o (yielded ops ac.tmps)=true) (hK:∀v w',R v w'→K (a.put o.dst v) w'):o.wp P a w K Q:=by
 unfold One wpList at h;rw[qaj hw]at h;rcases h with h|⟨_,a',w',h⟩
 case inr=>exact h.elim
 unfold Oper.wp at*;rw[hex]at h;generalize (execOp a.eval o).run P w=r at*;have key:∀u w',wpList P ops (Done o R ac) [] (ac.put o.dst u) w'→K (a.put o.dst u) w':=by
  intro u w' hn;obtain⟨v,hv,hR⟩:=hn;cases hd:o.dst with
  |none=>rw[←show a.put o.dst v=a.put none u by rw[hd];rfl];exact hK _ _ hR
  |some d=>
   rw[hd]at hv;have:=Qm (hlt d hd) hv;subst this;rw[←hd];exact hK _ _ hR
 cases r with
 |ok n w'=>
  cases n<;>simp only[Oper.upon]at h⊢
  case value u=>exact key _ _ h
  case skip=>exact key _ _ h
  case defer x=>
   obtain⟨v,hv,_⟩:=h;have:=congrArg (fun b:Act=>b.defers.length) hv;simp[put_defers]at this
  case enter f args=>
   refine Calls.mono h fun e w'' he=>?_;cases e with
   |returned u=>exact key _ _ he
   |panicked c=>exact(he:False).elim
   |outgrown=>obtain⟨a',w',he⟩:=he;exact(he:False).elim
  case row row args=>exact Rows.mono h fun u w'' he=>key _ _ he
 |halt x w'=>
  cases x<;>simp only[Oper.upon]at h⊢
  case panic u=>exact(h:False).elim
def more (L:Nat→Bool)(i:Nat):Nat→Bool:=fun j=>j == i||L j
theorem vU {L:Nat→Bool}{i:Nat}:more L i i=true:=by simp[more]
theorem qw {L:Nat→Bool}{i j:Nat}(h:L j=true):more L i j=true:=by simp[more,h]
theorem zy {L:Nat→Bool}{i j:Nat}(h:more L i j=true):j=i∨L j=true:=by simpa[more]using h
theorem Am {n N:Nat}{ms:List (List Bool)}{all:List (Oper×Kind×List Bool)}{i j:Nat}{o p:Oper}{k:Kind}{a:Act}{w w':World}(ok:Ok ops n N ms all)(hi:i<n)(hj:j<n)(hne:i≠j)
 (ho:ops[i]? =some o) (hp:ops[j]? =some p) (hnot:at2 ms j i≠true) (v:Value)
 (hpost:∀α d val Post,(k=.minor α d val Post∨k=.pinned α d val Post)→∀x,Post x w→Post x w') (h:oG P ops p a w k):oG P ops p (a.put o.dst v) w' k:=by
 have vV:slot p (a.put o.dst v)=slot p a:=vH (ok.apart i j o p hi hj hne ho hp) v;have hlk:∀t,t∈p.looksAt ops→(a.put o.dst v).tmps[t]? =a.tmps[t]? :=by
  intro t ht;exact qp (fun hd=>hnot (ok.looks j i p o t hj hi hp ho hd ht)) v
 obtain⟨hex,hwt⟩:=xe (fun cs b=>ok.TH j p hj hp cs b) hlk;cases k with
 |pure=>exact Yields.of_same (by rw[vV];exact h) hex hwt
 |minor α dd val Post=>
  refine⟨fun hw=>?_,fun hw=>?_⟩
  ·obtain⟨x,hx,hpx⟩:=h.1 (by rw[←hwt];exact hw);exact⟨x,by rw[vV];exact hx,hpost α dd val Post (Or.inl rfl) x hpx⟩
  ·rw[vV];exact h.2 (by rw[←hwt];exact hw)
 |pinned α dd val Post=>
  refine⟨fun hw=>?_,fun hw=>?_⟩
  ·obtain⟨x,hx,hpx⟩:=h.1 (by rw[←hwt];exact hw);exact⟨x,by rw[vV];exact hx,hpost α dd val Post (Or.inr rfl) x hpx⟩
  ·rw[vV];exact h.2 (by rw[←hwt];exact hw)
 |major α dd val=>
  refine⟨fun hw=>?_,fun hw=>?_⟩
  ·obtain⟨x,hx⟩:=h.1 (by rw[←hwt];exact hw);exact⟨x,by rw[vV];exact hx⟩
  ·rw[vV];exact h.2 (by rw[←hwt];exact hw)
theorem Kt {l:List (Oper×Kind×List Bool)}(h:stays G l){j:Nat}{o:Oper}{k:Kind}{m:List Bool}(hj:l[j]? =some (o,k,m)):vT G k:=by
 induction l generalizing j with
 |nil=>simp at hj
 |cons x l ih=>
  cases j with
  |zero=>simp at hj;subst hj;exact h.1
  |succ j=>exact ih h.2 (by simpa using hj)
theorem Inv.next {n N:Nat}{ms:List (List Bool)}{all:List (Oper×Kind×List Bool)}{a0 a:Act}{L:Nat→Bool}{w w':World}{i:Nat}{o:Oper}{k:Kind}{m:List Bool}{v:Value}
 (ok:Ok ops n N ms all) (hN:a0.tmps.size=N) (inv:Inv P ops S n ms all a0 L a w) (hi:i<n) (xg:L i=false) (hall:all[i]? =some (o,k,m)) (hm:∀j,at2 ms i j=true→L j=true)
 (hpost:∀(j:Nat) (p:Oper) (k':Kind) (m':List Bool),all[j]? =some (p,k',m')→∀α d val Post,(k'=.minor α d val Post∨k'=.pinned α d val Post)→∀x,Post x w→Post x w')
 (Vv:o.dst=none→v=undef) (hself:oG P ops o (a.put o.dst v) w' k)
 (hS:S (if bE k=3 then valsOf L a all 0++[v]else valsOf L a all 0) w'):Inv P ops S n ms all a0 (more L i) (a.put o.dst v) w':=by
 obtain⟨ho,_⟩:=ok.get i o k m hall;have hsz:∀d,o.dst=some d→d<a.tmps.size:=fun d hd=>by rw[inv.size,hN];exact ok.dst i o hi ho d hd
 have hjlt:∀(j:Nat) (p:Oper) (k':Kind) (m':List Bool),all[j]? =some (p,k',m')→j<n:=fun j p k' m' hj=>by rw[←ok.len];exact(List.getElem?_eq_some_iff.1 hj).1
 refine⟨(put_defers _ _ _).trans inv.defers,(D7 _ _ _).trans inv.size,?_,?_,?_,?_⟩
 ·intro t ht;rw[qp (ht i o hi vU ho)];exact inv.frame t fun j p hj tq hp=>ht j p hj (qw tq) hp
 ·intro x j hx Vw hxj;rcases zy Vw with rfl|Vw
  ·exact qw (hm j hxj)
  ·exact qw (inv.closed x j hx Vw hxj)
 ·intro j p k' m' tq hj;rcases zy tq with rfl|tq
  ·rw[hall]at hj;obtain⟨rfl,rfl,rfl⟩:o=p∧k=k'∧m=m':=by simpa using hj
   exact hself
  ·have hjn:=hjlt j p k' m' hj;have hne:i≠j:=fun e=>by subst e;rw[xg]at tq;cases tq
   refine Am ok hi hjn hne ho (ok.get j p k' m' hj).1 (fun h=>?_) v (hpost j p k' m' hj) (inv.holds j p k' m' tq hj);have:=inv.closed j i hjn tq h;rw[xg]at this;cases this
 ·have hil:i<all.length:=by rw[ok.len];exact hi
  have hsplit:all=all.take i++(o,k,m)::all.drop (i+1):=by
   have h1:=List.drop_eq_getElem_cons hil;rw[List.getElem?_eq_getElem hil]at hall;rw[Option.some.inj hall]at h1;rw[←h1,List.take_append_drop]
  have hlen:(all.take i).length=i:=by rw[List.length_take];omega
  have hval:valsOf (more L i) (a.put o.dst v) all 0=if bE k=3 then valsOf L a all 0++[v]else valsOf L a all 0:=by
   have Qn:∀(l:List (Oper×Kind×List Bool)) (j0:Nat),(∀x y,l[x]? =some y→all[j0+x]? =some y∧j0+x≠i)→valsOf (more L i) (a.put o.dst v) l j0=valsOf L a l j0:=by
    intro l j0 hl;refine(vG l j0 fun x y hx ht=>?_).symm;obtain⟨h1,h2⟩:=hl x y hx;refine⟨by simp[more,h2],fun hL=>?_⟩;obtain⟨p,k',m'⟩:=y;exact(vH (ok.apart i (j0+x) o p hi (hjlt _ p k' m' h1) (Ne.symm h2) ho (ok.get _ p k' m' h1).1) v).symm
   have hA:valsOf (more L i) (a.put o.dst v) (all.take i) 0=valsOf L a (all.take i) 0:=Qn _ 0 fun x y hx=>by
    rw[List.getElem?_take]at hx;split at hx
    ·exact⟨by simpa using hx,by omega⟩
    ·cases hx
   have hB:valsOf (more L i) (a.put o.dst v) (all.drop (i+1)) (i+1)=valsOf L a (all.drop (i+1)) (i+1):=Qn _ (i+1) fun x y hx=>by
    rw[List.getElem?_drop]at hx;exact⟨hx,by omega⟩
   have e1:valsOf (more L i) (a.put o.dst v) all 0=valsOf L a (all.take i) 0++((if bE k=3 then[v]else[])++valsOf L a (all.drop (i+1)) (i+1)):=by
    conv=>lhs;rw[hsplit]
    rw[iQ,hA,hlen];simp only[valsOf,Nat.zero_add,hB,vU,and_true];rw[jN Vv hsz]
   have e2:valsOf L a all 0=valsOf L a (all.take i) 0++valsOf L a (all.drop (i+1)) (i+1):=by
    conv=>lhs;rw[hsplit]
    rw[iQ,hlen];simp[valsOf,xg]
   by_cases ht:bE k=3
   ·have hC:valsOf L a (all.drop (i+1)) (i+1)=[]:=by
     refine pM _ _ fun x y hx hy=>?_;rw[List.getElem?_drop]at hx;obtain⟨p,k',m'⟩:=y;have hjn:=hjlt _ p k' m' hx;rcases ok.WM i (i+1+x) o k m p k' m' hall (Or.inl ht) hx hy (by omega)with h|h
     ·have:=nR (ok.D6 i o hi ho) h;omega
     ·cases hL:L (i+1+x)with
      |false=>rfl
      |true=>have:=inv.closed _ i hjn hL h;rw[xg]at this;cases this
    rw[e1,e2,hC];simp[ht]
   ·rw[e1,e2];simp[ht]
  rw[hval];exact hS
structure Qo (I : World → Prop) (S : List Value → World → Prop) (G : World → World → Prop) (all : List (Oper × Kind × List Bool)) : Prop where
 s:∀vs w w',Ext w w'→S vs w→S vs w'
 ie:∀w w',Ext w w'→I w→I w'
 ig:∀w w',G w w'→I w→I w'
 st:stays G all
theorem Ext.refl (w:World):Ext w w:=Below.refl _ _
theorem NV {n N:Nat}{ms:List (List Bool)}{all:List (Oper×Kind×List Bool)}{a0 a:Act}{L:Nat→Bool}{w:World}{i:Nat}{K:Act→World→Prop}{Q:Exit→Act→World→Prop}(ok:Ok ops n N ms all)(hN:a0.tmps.size=N)(xk:Qo I S G all)
 (hp:pass P ops I S G fin all a0 [] []) (inv:Inv P ops S n ms all a0 L a w) (hI:I w) (hi:i<n) (xg:L i=false) (hm:∀j,at2 ms i j=true→L j=true)
 (hK:∀a' w',Inv P ops S n ms all a0 (more L i) a' w'→I w'→K a' w'):wpOp P ops Q i K a w:=by
 obtain⟨ac,F,vs,gJ,hag,hF,hf,hvs⟩:=D8 ok hN inv hp i (by omega);have hil:i<all.length:=by rw[ok.len];exact hi
 obtain⟨⟨o,k,m⟩,hall⟩:∃x,all[i]? =some x:=⟨all[i],by simp[hil]⟩;obtain⟨ho,hmm⟩:=ok.get i o k m hall;have hlt:=ok.dst i o hi ho;have pK:=ok.non i o k m hall;have hdrop:all.drop i=(o,k,m)::all.drop (i+1):=by
  rw[List.drop_eq_getElem_cons hil];rw[List.getElem?_eq_getElem hil]at hall;rw[Option.some.inj hall]
 rw[hdrop]at gJ;have A9:∀d,o.dst=some d→d<a.tmps.size:=fun d hd=>by rw[inv.size,hN];exact hlt d hd
 have hcsz:∀d,o.dst=some d→d<ac.tmps.size:=fun d hd=>by rw[hag.size,hN];exact hlt d hd
 obtain⟨hex,hwt⟩:=xe (fun cs b=>ok.TH i o hi ho cs b) (hag.looks ok inv hi ho hm);have hjlt:∀(j:Nat) (p:Oper) (k':Kind) (m':List Bool),all[j]? =some (p,k',m')→j<n:=fun j p k' m' hj=>by rw[←ok.len];exact(List.getElem?_eq_some_iff.1 hj).1
 have hown:∀v,execOp (a.put o.dst v).eval o=execOp a.eval o∧Region.wanted o (yielded ops (a.put o.dst v).tmps)=Region.wanted o (yielded ops a.tmps):=fun v=>
  xe (fun cs b=>ok.TH i o hi ho cs b) fun t ht=>by
   refine qp (fun hd=>?_) v;have h1:=ok.looks i i o o t hi hi ho ho hd ht;have:=nR (ok.D6 i o hi ho) h1;omega
 have Fx:facts w m F:=yz m F fun j f hj YL=>hf j f (hm j (by subst hmm;exact hj)) YL;have Vx:∀w',Ext w w'∨G w w'→∀(j:Nat) (p:Oper) (k':Kind) (m':List Bool),all[j]? =some (p,k',m')→∀α dd val Post,(k'=.minor α dd val Post∨k'=.pinned α dd val Post)→∀x,Post x w→Post x w':=by
  intro w' hw' j p k' m' hj α dd val Post hk x hx;have hs:=Kt xk.st hj;rcases hk with rfl|rfl<;>rcases hw' with h|h
  ·exact hs.1 x w w' h hx
  ·exact hs.2 x w w' h hx
  ·exact hs.1 x w w' h hx
  ·exact hs.2 x w w' h hx
 have Ba:(bE k=3∨bE k=2)→vs=valsOf L a all 0:=by
  intro ht;have hold:∀(j:Nat) (x:Oper×Kind×List Bool),j≠i→all[j]? =some x→bE x.2.1=3→(j<i→L j=true)∧(i<j→L j=false):=by
   intro j x hne hj hx;obtain⟨p,k',m'⟩:=x;have hjn:=hjlt j p k' m' hj;rcases ok.WM i j o k m p k' m' hall ht hj hx (Ne.symm hne)with h|h
   ·have hji:=nR (ok.D6 i o hi ho) h;exact⟨fun _=>hm j h,fun _=>by omega⟩
   ·have hji:=nR (ok.D6 j p hjn (ok.get j p k' m' hj).1) h;refine⟨fun _=>by omega,fun _=>?_⟩;cases hL:L j with
    |false=>rfl
    |true=>have:=inv.closed j i hjn hL h;rw[xg]at this;cases this
  rw[hvs fun j x hji hj hx=>(hold j x (by omega) hj hx).1 hji];have hsplit:all=all.take i++all.drop i:=(List.take_append_drop i all).symm;have hlen:(all.take i).length=i:=by rw[List.length_take];omega
  conv=>rhs;rw[hsplit]
  rw[iQ,hlen,Nat.zero_add,pM (all.drop i) i fun x y hx hy=>?_,List.append_nil];rw[List.getElem?_drop]at hx;by_cases h0:x=0
  ·subst h0;simpa using xg
  ·exact(hold (i+x) y (by omega) hx hy).2 (by omega)
 have other:∀v w',(o.dst=none→v=undef)→(Ext w w'∨G w w')→oG P ops o (a.put o.dst v) w' k→S (if bE k=3 then valsOf L a all 0++[v]else valsOf L a all 0) w'→K (a.put o.dst v) w':=by
  intro v w' Vv hw' hself hS;refine hK _ _ (inv.next ok hN hi xg hall hm (Vx w' hw') Vv hself hS) ?_;rcases hw' with h|h
  ·exact xk.ie w w' h hI
  ·exact xk.ig w w' h hI
 unfold wpOp;simp only[ho];cases k with
 |pure=>
  obtain⟨v,hy,_⟩:=gJ;have hya:Yields P ops o v a:=hy.of_same hex.symm hwt.symm;have hk:=other v w (fun hn=>absurd (pK hn) id) (Or.inl (Ext.refl w)) (by
   show Yields P ops o (slot o (a.put o.dst v)) (a.put o.dst v);rw[jN (fun hn=>absurd (pK hn) id) A9];exact hya.of_same (hown v).1 (hown v).2) (by simpa[bE]using inv.state)
  rcases hya with⟨hw,hv⟩|⟨hw,rfl⟩
  ·rw[qaj hw];left;simp only[Oper.wp,hv w,Oper.upon];exact hk
  ·rw[qai (by simp[hw])];exact hk
 |minor α dd val Post=>
  cases hw:Region.wanted o (yielded ops ac.tmps)with
  |true=>
   rw[qaj (by rw[←hwt];exact hw)];left;refine Fw hcsz ((gJ.1 hw).1 w hI Fx) hex hw fun v w' ⟨⟨x,hx,hpx⟩,he⟩=>?_;refine other v w' (fun hn=>absurd (pK hn) id) (Or.inl he) ⟨fun _=>⟨x,by rw[jN (fun hn=>absurd (pK hn) id) A9];exact hx,hpx⟩,fun h=>?_⟩ (by simpa[bE]using xk.s _ w w' he inv.state);rw[(hown v).2,←hwt,hw]at h;cases h
  |false=>
   rw[qai (by rw[←hwt];simp[hw])];refine other undef w (fun hn=>absurd (pK hn) id) (Or.inl (Ext.refl w)) ⟨fun h=>?_,fun _=>jN (fun hn=>absurd (pK hn) id) A9⟩ (by simpa[bE]using inv.state);rw[(hown undef).2,←hwt,hw]at h;cases h
 |pinned α dd val Post=>
  cases hw:Region.wanted o (yielded ops ac.tmps)with
  |true=>
   rw[qaj (by rw[←hwt];exact hw)];left;refine Fw hcsz ((gJ.1 hw).1 w hI (by rw[Ba (Or.inr rfl)];exact inv.state) Fx) hex hw fun v w' ⟨⟨x,hx,hpx⟩,he⟩=>?_;refine other v w' (fun hn=>absurd (pK hn) id) (Or.inl he) ⟨fun _=>⟨x,by rw[jN (fun hn=>absurd (pK hn) id) A9];exact hx,hpx⟩,fun h=>?_⟩ (by simpa[bE]using xk.s _ w w' he inv.state);rw[(hown v).2,←hwt,hw]at h;cases h
  |false=>
   rw[qai (by rw[←hwt];simp[hw])];refine other undef w (fun hn=>absurd (pK hn) id) (Or.inl (Ext.refl w)) ⟨fun h=>?_,fun _=>jN (fun hn=>absurd (pK hn) id) A9⟩ (by simpa[bE]using inv.state);rw[(hown undef).2,←hwt,hw]at h;cases h
 |major α dd val=>
  cases hw:Region.wanted o (yielded ops ac.tmps)with
  |true=>
   rw[qaj (by rw[←hwt];exact hw)];left;refine Fw hcsz ((gJ.1 hw).1 w hI (by rw[Ba (Or.inl rfl)];exact inv.state) Fx) hex hw fun v w' ⟨⟨⟨x,hx⟩,hS⟩,hg⟩=>?_;refine other v w' (fun hn=>by rw[hx];exact pK hn x) (Or.inr hg) ⟨fun _=>⟨x,by rw[jN (fun hn=>by rw[hx];exact pK hn x) A9];exact hx⟩,fun h=>?_⟩ (by rw[Ba (Or.inl rfl)]at hS;simpa[bE]using hS);rw[(hown v).2,←hwt,hw]at h;cases h
  |false=>
   rw[qai (by rw[←hwt];simp[hw])];have hS:=(gJ.2 hw).1 w hI (by rw[Ba (Or.inl rfl)];exact inv.state);rw[Ba (Or.inl rfl)]at hS;refine other undef w (fun _=>rfl) (Or.inl (Ext.refl w)) ⟨fun h=>?_,fun _=>jN (fun _=>rfl) A9⟩ (by simpa[bE]using hS);rw[(hown undef).2,←hwt,hw]at h;cases h
def Last (P:Program)(ops:Array Oper)(I:World→Prop)(S:List Value→World→Prop)(Q:Exit→Act→World→Prop)(n:Nat)(a:Act)(F:List (World→Prop))(vs:List Value):Prop:=
 ∀w,I w→S vs w→uM w F→wpList P ops Q (ops.toList.drop n) a w
theorem Qp {a b:Act}(h1:a.defers=b.defers)(hs:a.tmps.size=b.tmps.size)(h:∀t:Nat,a.tmps[t]? =b.tmps[t]?):a=b:=by
 obtain⟨at_,ad⟩:=a;obtain⟨bt,bd⟩:=b;simp only at h1 hs h;subst h1;congr 1;apply Array.ext hs;intro i hi hi';have:=h i;simpa[hi,hi']using this
theorem NW {n N:Nat}{ms:List (List Bool)}{all:List (Oper×Kind×List Bool)}{a0 a:Act}{L:Nat→Bool}{w:World}{Q:Exit→Act→World→Prop}(ok:Ok ops n N ms all)(hN:a0.tmps.size=N)
 (hp:pass P ops I S G (Last P ops I S Q n) all a0 [] []) (inv:Inv P ops S n ms all a0 L a w) (hI:I w) (hL:∀j,j<n→L j=true):wpList P ops Q (ops.toList.drop n) a w:=by
 obtain⟨ac,F,vs,gJ,hag,hF,hf,hvs⟩:=D8 ok hN inv hp n (qaf _);have hd:all.drop n=[]:=List.drop_eq_nil_of_le (by rw[ok.len];exact qaf _);rw[hd]at gJ;have hv:vs=valsOf L a all 0:=by
  rw[hvs fun i x hi _ _=>hL i hi,List.take_of_length_le (by rw[ok.len];exact qaf _)]
 have hac:ac=a:=by
  refine Qp (hag.defers.trans inv.defers.symm) (hag.size.trans inv.size.symm) fun t=>?_;by_cases hx:∃(i:Nat) (p:Oper),i<n∧ops[i]? =some p∧p.dst=some t
  ·obtain⟨i,p,hin,hp,hdt⟩:=hx;exact hag.done i p t hin hin (hL i hin) hp hdt
  ·rw[hag.rest t fun i p _ hin hp hdt=>hx ⟨i,p,hin,hp,hdt⟩,inv.frame t fun i p hin _ hp hdt=>hx ⟨i,p,hin,hp,hdt⟩]
 subst hac;exact gJ w hI (by rw[hv];exact inv.state) (xh F fun i f hi=>hf i f (hL i (by have:=(List.getElem?_eq_some_iff.1 hi).1;omega)) hi)
theorem D9 {f:Nat→Bool}:∀n,(∃j,j<n∧f j=false)→∃j,j<n∧f j=false∧∀i,i<j→f i=true
 |0,⟨j,h,_⟩=>by omega
 |n+1,⟨j,hj,hf⟩=>by
  by_cases hx:∃i,i<n∧f i=false
  ·obtain⟨i,hi,h1,h2⟩:=D9 n hx;exact⟨i,by omega,h1,h2⟩
  ·have hjn:j=n:=by
    rcases Nat.lt_or_ge j n with h|h
    ·exact(hx ⟨j,h,hf⟩).elim
    ·omega
   subst hjn;refine⟨j,hj,hf,fun i hi=>?_⟩;cases h:f i with
   |true=>rfl
   |false=>exact(hx ⟨i,hi,h⟩).elim
theorem Bb {l:Array Bool}{i:Nat}(h:l.getD i true=false):i<l.size:=by
 rcases Nat.lt_or_ge i l.size with h'|h'
 ·exact h'
 ·simp[Array.getElem?_eq_none h']at h
theorem uN {l:Array Bool}{i:Nat}(h:i<l.size)(d d':Bool):l.getD i d=l.getD i d':=by simp[h]
theorem Ea {l:Array Bool}{i:Nat}(h:i<l.size):(fun j=>(l.setIfInBounds i true).getD j false)=more (fun j=>l.getD j false) i:=by
 funext j
 by_cases hij:i=j
 ·subst hij;simp[more,h]
 ·have:(j == i)=false:=by simp[Ne.symm hij]
  simp only[more,this,Bool.false_or];exact getD_set_ne false hij
theorem count_set {l:Array Bool}{i:Nat}(h:l.getD i true=false):(l.setIfInBounds i true).toList.count false+1=l.toList.count false:=by
 have hi:=Bb h;have hl:l[i]=false:=by simpa[hi]using h
 have hpos:0<l.toList.count false:=List.count_pos_iff.2 (by rw[←hl];exact Array.mem_toList_iff.2 (Array.getElem_mem hi));rw[Array.toList_setIfInBounds,List.count_set (by simpa using hi)];have e:(l.toList[i]'(by simpa using hi) == false)=true:=by simp[hl]
 rw[qaj e,qai (by decide)];omega
theorem NY {n N:Nat}{ms:List (List Bool)}{all:List (Oper×Kind×List Bool)}{a0:Act}{Q:Exit→Act→World→Prop}(ok:Ok ops n N ms all)(hN:a0.tmps.size=N)(xk:Qo I S G all)
 (hp:pass P ops I S G (Last P ops I S Q n) all a0 [] []):∀(fuel:Nat) (listed:Array Bool) (a:Act) (w:World),listed.size=ops.size→listed.toList.count false≤fuel→
  (((∃j,j<n∧listed.getD j false=false)∧Inv P ops S n ms all a0 (fun j=>listed.getD j false) a w∧I w)∨
    ∃k,n≤k∧k≤ops.size∧(∀j,j<k→listed.getD j false=true)∧(∀j,k≤j→listed.getD j false=false)∧wpList P ops Q (ops.toList.drop k) a w)→
  (∀j,n≤j→(∃i,i<n∧listed.getD i false=false)→listed.getD j false=false)→wpAny P .any ops Q fuel listed a w:=by
 intro fuel;have yA:∀{listed:Array Bool} {i:Nat},listed.size=ops.size→i∈Region.ready .any ops listed→∃o,ops[i]? =some o∧i<listed.size∧listed.getD i false=false∧∀e∈o.after,Region.binds .any e=true→listed.getD e.on false=true:=by
  intro listed i hs h;obtain⟨h0,o,ho,hall⟩:=mem_ready.1 h;have hlt:=Bb h0;exact⟨o,ho,hlt,by rw[uN hlt false true];exact h0,hall⟩
 have Eb:∀{listed:Array Bool} {j:Nat},listed.size=ops.size→j<ops.size→listed.getD j false=false→(∀i,i<j→listed.getD i false=true)→j∈Region.ready .any ops listed:=by
  intro listed j hs hj hf hbe;refine mem_ready.2 ⟨by rw[uN (by omega) true false];exact hf,ops[j],by simp[hj],fun e he hb=>hbe _ (ok.back j ops[j] (by simp[hj]) e he hb)⟩
 induction fuel with
 |zero=>
  intro listed a w hs hc Fy _;have hnone:∀j,j<ops.size→listed.getD j false=true:=by
   intro j hj;have hj':j<listed.size:=by omega
   have h0:¬false∈listed.toList:=fun h=>by have:=List.count_pos_iff.2 h;omega
   have:listed[j]≠false:=fun e=>h0 (by rw[←e];exact Array.mem_toList_iff.2 (Array.getElem_mem hj'));simpa[hj']using this
  have hr:Region.ready .any ops listed=[]:=by
   cases hx:Region.ready .any ops listed with
   |nil=>rfl
   |cons i l=>
    obtain⟨o,ho,_,hf,_⟩:=yA hs (by rw[hx];exact List.mem_cons_self ..);have:=hnone i (Array.getElem?_eq_some_iff.1 ho).1;rw[hf]at this;cases this
  refine⟨hr,?_⟩;rcases Fy with⟨⟨j,hj,hf⟩,_⟩|⟨k,hnk,hks,_,hafter,hl⟩
  ·have:=hnone j (by have:=ok.le;omega);rw[hf]at this;cases this
  ·have hk:k=ops.size:=by
    rcases Nat.lt_or_ge k ops.size with h|h
    ·have h1:=hnone k h;rw[hafter k (qaf _)]at h1;cases h1
    ·omega
   rw[List.drop_eq_nil_of_le (by rw[Array.length_toList,hk];exact qaf _)]at hl;exact hl
 |succ fuel ih=>
  intro listed a w hs hc Fy Ku;rcases Fy with⟨hex,inv,hI⟩|⟨k,hnk,hks,xm,hafter,hl⟩
  ·obtain⟨j0,hj0,hf0,hb0⟩:=D9 n hex;have UQ:=Eb (j:=j0) hs (by have:=ok.le;omega) hf0 hb0;refine⟨fun h=>(by rw[h]at UQ;cases UQ),fun i hi=>?_⟩;obtain⟨o,ho,hil,hif,Fz⟩:=yA hs hi;have hin:i<n:=by
    rcases Nat.lt_or_ge i n with h|h
    ·exact h
    ·obtain⟨e,he,hb,hon⟩:=ok.tail i o j0 h ho (by omega);have:=Fz e he hb;rcases hon with hon|⟨hon,hat⟩|⟨hon,_⟩
     ·rw[hon,hf0]at this;cases this
     ·have h2:=inv.closed e.on j0 hon this hat;have h2:listed.getD j0 false=true:=h2;rw[hf0]at h2;cases h2
     ·rw[Ku e.on hon hex]at this;cases this
   have hm:∀j,at2 ms i j=true→(fun j=>listed.getD j false) j=true:=by
    intro j hj;obtain⟨e,he,hb,hon⟩:=ok.ahead i o j hin ho hj;have h1:=Fz e he hb;rcases hon with rfl|hon
    ·exact h1
    ·exact inv.closed e.on j (by have:=ok.back i o ho e he hb;omega) h1 hon
   refine NV ok hN xk hp inv hI hin hif hm fun a' w' UR hI'=>?_;have hset:(fun j=>(listed.setIfInBounds i true).getD j false)=more (fun j=>listed.getD j false) i:=Ea hil;have hcnt:=count_set (l:=listed) (i:=i) (by rw[uN hil true false];exact hif);refine ih _ a' w' (by simpa using hs) (by omega) ?_ ?_
   ·by_cases hall:∀j,j<n→more (fun j=>listed.getD j false) i j=true
    ·right;refine⟨n,qaf _,ok.le,fun j hj=>?_,fun j hj=>?_,NW ok hN hp UR hI' hall⟩
     ·have:=congrFun hset j;rw[this];exact hall j hj
     ·have:=congrFun hset j;rw[this];have h1:=Ku j hj hex;have:(j == i)=false:=by simp;omega
      simp only[more,this,Bool.false_or];exact h1
    ·left;refine⟨?_,by rw[hset];exact UR,hI'⟩;have⟨j,hj⟩:=Classical.not_forall.1 hall;have⟨hjn,hj2⟩:=Classical.not_imp.1 hj;exact⟨j,hjn,by have:=congrFun hset j;rw[this];simpa using hj2⟩
   ·intro j hj _;have:=congrFun hset j;rw[this];have h1:=Ku j hj hex;have:(j == i)=false:=by simp;omega
    simp only[more,this,Bool.false_or];exact h1
  ·refine⟨fun h=>?_,fun i hi=>?_⟩
   ·have hk:k=ops.size:=by
     rcases Nat.lt_or_ge k ops.size with hlt|hge
     ·have:=Eb hs hlt (hafter k (qaf _)) xm;rw[h]at this;cases this
     ·omega
    rw[List.drop_eq_nil_of_le (by rw[Array.length_toList,hk];exact qaf _)]at hl;exact hl
   ·obtain⟨o,ho,hil,hif,Fz⟩:=yA hs hi;have hki:k≤i:=by
     rcases Nat.lt_or_ge i k with h|h
     ·have:=xm i h;rw[hif]at this;cases this
     ·exact h
    have hik:i=k:=by
     rcases Nat.lt_or_ge k i with h|h
     ·obtain⟨e,he,hb,hon⟩:=ok.tail i o k (by omega) ho h;have:=Fz e he hb;rcases hon with hon|⟨hon,hat⟩|⟨_,hon⟩
      ·rw[hon,hafter k (qaf _)]at this;cases this
      ·obtain⟨oe,hoe⟩:∃oe,ops[e.on]? =some oe:=⟨_,Array.getElem?_eq_getElem (by have:=ok.le;omega)⟩;have:=nR (ok.D6 e.on oe hon hoe) hat;omega
      ·rw[hafter e.on (by omega)]at this;cases this
     ·omega
    subst hik;have hilt:i<ops.toList.length:=by rw[Array.length_toList];exact(Array.getElem?_eq_some_iff.1 ho).1
    have Vy:ops.toList.drop i=o::ops.toList.drop (i+1):=by
     rw[List.drop_eq_getElem_cons hilt];have h1:=ho;rw[←Array.getElem?_toList,List.getElem?_eq_getElem hilt]at h1;rw[Option.some.inj h1]
    rw[Vy]at hl;have hset:(fun j=>(listed.setIfInBounds i true).getD j false)=more (fun j=>listed.getD j false) i:=Ea hil;have hcnt:=count_set (l:=listed) (i:=i) (by rw[uN hil true false];exact hif);have hw:wpOp P ops Q i (wpList P ops Q (ops.toList.drop (i+1))) a w:=by
     unfold wpOp;simp only[ho];exact hl
    refine wpOp_mono (fun a' w' h=>ih _ a' w' (by simpa using hs) (by omega) (Or.inr ⟨i+1,by omega,by rw[Array.length_toList]at hilt;omega,fun j hj=>?_,fun j hj=>?_,h⟩) ?_) hw
    ·have:=congrFun hset j;rw[this];by_cases hji:j=i
     ·subst hji;exact vU
     ·exact qw (xm j (by omega))
    ·have:=congrFun hset j;rw[this];have:(j == i)=false:=by simp;omega
     simp only[more,this,Bool.false_or];exact hafter j (by omega)
    ·rintro j hj ⟨x,hx,Vz⟩;have:=congrFun hset x;rw[this]at Vz;have h2:=xm x (by omega);rw[qw h2]at Vz;cases Vz
theorem region {n N:Nat}{ms:List (List Bool)}(all:List (Oper×Kind×List Bool)){a:Act}{w:World}{id:Nat}{Q:Exit→Act→World→Prop}(I:World→Prop)(S:List Value→World→Prop)(G:World→World→Prop)
 (hm:P.follows .mixedOrders=true) (ok:Ok ops n N ms all) (hN:a.tmps.size=N) (xk:Qo I S G all) (hn:0<n) (hI:I w.drew) (hS:S [] w.drew)
 (hp:pass P ops I S G (Last P ops I S Q n) all a [] []):(Code.region id ops true).wp P Q a w:=by
 refine wp_region_any hm ?_;show wpAny P .any ops Q ops.size (Array.replicate ops.size false) a w.drew;have FB:∀j,(Array.replicate ops.size false).getD j false=false:=by
  intro j;rcases Nat.lt_or_ge j ops.size with h|h
  ·simp[h]
  ·simp[Array.getElem?_eq_none (xs:=Array.replicate ops.size false) (i:=j) (by simpa using h)]
 refine NY ok hN xk hp ops.size _ a w.drew (by simp) (by simp) (Or.inl ⟨⟨0,hn,FB 0⟩,?_,hI⟩) fun j _ _=>FB j;have hL:(fun j=>(Array.replicate ops.size false).getD j false)=fun _=>false:=funext FB;rw[hL];refine⟨rfl,rfl,fun t _=>rfl,fun i j _ h=>(nomatch h),fun j o k m h=>(nomatch h),?_⟩;rw[pM all 0 fun i x _ _=>rfl];exact hS
def mk (ops:Array Oper)(n:Nat)(ks:List Kind)(ms:List (List Bool)):List (Oper×Kind×List Bool):=(ops.toList.take n).zip (ks.zip ms)
def FC :List (Oper×Kind×List Bool)→Prop
 |x::r=>(x.1.dst=none→silent x.2.1)∧FC r
 | []=>True
theorem Bc :∀{l:List (Oper×Kind×List Bool)},FC l→∀x∈l,x.1.dst=none→silent x.2.1
 | [],_,_,hx=>nomatch hx
 |y::l,h,x,hx=>by
  rcases List.mem_cons.1 hx with rfl|hx
  ·exact h.1
  ·exact Bc h.2 x hx
theorem qZ (n N:Nat)(ms:List (List Bool))(tags:List Nat)(ks:List Kind){a:Act}{w:World}{id:Nat}{Q:Exit→Act→World→Prop}(I:World→Prop)(S:List Value→World→Prop)(G:World→World→Prop)
 (hm:P.follows .mixedOrders=true) (hok:(okB ops n N ms tags&&(ms.length == n)&&(tags.length == n)&&decide (0<n))=true) (yB:ks.map bE=tags) (hN:a.tmps.size=N)
 (hs:∀vs w w',Ext w w'→S vs w→S vs w') (hie:∀w w',Ext w w'→I w→I w') (hig:∀w w',G w w'→I w→I w') (hst:stays G (mk ops n ks ms)) (hnn:FC (mk ops n ks ms)) (hI:I w.drew) (hS:S [] w.drew)
 (hp:pass P ops I S G (Last P ops I S Q n) (mk ops n ks ms) a [] []):(Code.region id ops true).wp P Q a w:=by
 simp only[Bool.and_eq_true,beq_iff_eq,decide_eq_true_eq]at hok;obtain⟨⟨⟨hok,vW⟩,htl⟩,hn⟩:=hok;have hle:n≤ops.size:=by
  unfold okB at hok;rw[Bool.and_eq_true]at hok;simpa using hok.1
 have hkl:ks.length=n:=by rw[←htl,←yB,List.length_map]
 have h1:(mk ops n ks ms).map (·.1)=ops.toList.take n:=by
  unfold mk;rw[List.map_fst_zip];rw[List.length_zip,List.length_take,hkl,vW];omega
 have hl0:(ops.toList.take n).length=n:=by rw[List.length_take,Array.length_toList];omega
 have h2:(mk ops n ks ms).map (·.2)=ks.zip ms:=by
  unfold mk;rw[List.map_snd_zip];rw[List.length_zip,hl0,hkl,vW];omega
 have h3:(mk ops n ks ms).map (·.2.2)=ms:=by
  have:(mk ops n ks ms).map (·.2.2)=((mk ops n ks ms).map (·.2)).map (·.2):=by rw[List.map_map];rfl
  rw[this,h2,List.map_snd_zip];omega
 have h4:(mk ops n ks ms).map (fun x=>bE x.2.1)=tags:=by
  have:(mk ops n ks ms).map (fun x=>bE x.2.1)=(((mk ops n ks ms).map (·.2)).map (·.1)).map bE:=by rw[List.map_map,List.map_map];rfl
  rw[this,h2,List.map_fst_zip,yB];omega
 exact region _ I S G hm (Qk _ (by rw[h4];exact hok) h1 h3 (Bc hnn)) hN ⟨hs,hie,hig,hst⟩ hn hI hS hp
theorem sO (k N:Nat)(ms:List (List Bool))(tags:List Nat)(ks:List Kind){a:Act}{w:World}{id:Nat}{Q:Exit→Act→World→Prop}(I:World→Prop)(S:List Value→World→Prop)(G:World→World→Prop)
 (hm:P.follows .mixedOrders=true) (hok:((okB ops k N ms tags&&(ms.length == k)&&(tags.length == k)&&decide (0<k))&&(ops.toList.take k).all (fun o=>o.dst.isSome))=true) (yB:ks.map bE=tags) (hN:a.tmps.size=N)
 (hs:∀vs w w',Ext w w'→S vs w→S vs w') (hie:∀w w',Ext w w'→I w→I w') (hig:∀w w',G w w'→I w→I w') (hst:stays G (mk ops k ks ms)) (hI:I w.drew) (hS:S [] w.drew)
 (hp:pass P ops I S G (Last P ops I S Q k) (mk ops k ks ms) a [] []):(Code.region id ops true).wp P Q a w:=by
 have h:=Bool.and_eq_true_iff.1 hok;refine qZ (P:=P) (ops:=ops) k N ms tags ks I S G hm h.1 yB hN hs hie hig hst ?_ hI hS hp;have key:∀l:List (Oper×Kind×List Bool),(∀x∈l,x.1.dst.isSome=true)→FC l:=by
  intro l
  induction l with
  |nil=>intro _;trivial
  |cons x l ih=>exact fun hl=>⟨fun e=>(by have:=hl x List.mem_cons_self;rw[e]at this;cases this),ih fun z hz=>hl z (List.mem_cons_of_mem _ hz)⟩
 exact key _ fun x hx=>List.all_eq_true.1 h.2 x.1 (List.of_mem_zip (a:=x.1) (b:=x.2) hx).1
inductive RC where
 |p (n:Nat)
 |m (n:Nat)
def row (i n:Nat):List Bool:=(List.range i).map n.testBit
def tg :RC→Nat|.p _=>0|.m _=>1
def rows :Nat→List RC→List (List Bool)
 |i,.p n::cs=>row i n::rows (i+1) cs
 |i,.m n::cs=>row i n::rows (i+1) cs
 |_,[]=>[]
def need :List RC→Nat
 |.p _::cs=>need cs
 |.m _::cs=>need cs+1
 | []=>0
def gY :List Oper→Nat→List RC→List Value→List (Oper×Kind×List Bool)
 |o::os,i,.p n::cs,vs=>(o,.pure,row i n)::gY os (i+1) cs vs
 |o::os,i,.m n::cs,v::vs=>(o,.minor Unit () (fun _=>v) (fun _ _=>True),row i n)::gY os (i+1) cs vs
 |_,_,_,_=>[]
theorem Bd (G:World→World→Prop):∀(cs:List RC) (os:List Oper) (i:Nat) (vs:List Value),cs.length≤os.length→need cs=vs.length→
 (gY os i cs vs).map (·.1)=os.take cs.length∧(gY os i cs vs).map (fun x=>bE x.2.1)=cs.map tg∧(gY os i cs vs).map (·.2.2)=rows i cs∧stays G (gY os i cs vs)
 | [],os,i,vs,_,_=>by cases os<;>exact⟨rfl,rfl,rfl,trivial⟩
 |.p n::cs,[],i,vs,h,_=>by simp at h
 |.m n::cs,[],i,vs,h,_=>by simp at h
 |.p n::cs,o::os,i,vs,h,hv=>by
  obtain⟨h1,h2,h3,h4⟩:=Bd G cs os (i+1) vs (by simpa using h) hv;exact⟨congrArg (List.cons o) h1,congrArg (List.cons 0) h2,congrArg (List.cons (row i n)) h3,trivial,h4⟩
 |.m n::cs,o::os,i,[],h,hv=>by simp[need]at hv
 |.m n::cs,o::os,i,v::vs,h,hv=>by
  obtain⟨h1,h2,h3,h4⟩:=Bd G cs os (i+1) vs (by simpa using h) (by simpa[need]using hv);exact⟨congrArg (List.cons o) h1,congrArg (List.cons 1) h2,congrArg (List.cons (row i n)) h3,⟨fun _ _ _ _ _=>trivial,fun _ _ _ _ _=>trivial⟩,h4⟩
def WN (ops:Array Oper)(n N:Nat)(cs:List RC):Bool:=
 okB ops n N (rows 0 cs) (cs.map tg)&&decide (n≤ops.size)&&decide (0<n)&&(cs.length == n)&&(ops.toList.take n).all (fun o=>o.dst.isSome)
theorem ro (w0:World)(n N:Nat)(cs:List RC)(vs:List Value){a:Act}{w:World}{id:Nat}{Q:Exit→Act→World→Prop}
 (hm:P.follows .mixedOrders=true) (hok:WN ops n N cs=true) (hk:need cs=vs.length) (hN:a.tmps.size=N) (hI:Below w0.heap.size w0 w.drew)
 (hp:pass P ops (fun W=>Below w0.heap.size w0 W) (fun _ _=>True) (fun a b=>Below a.heap.size a b) (Last P ops (fun W=>Below w0.heap.size w0 W) (fun _ _=>True) Q n) (gY ops.toList 0 cs vs) a [] []):(Code.region id ops true).wp P Q a w:=by
 unfold WN at hok;simp only[Bool.and_eq_true,beq_iff_eq,decide_eq_true_eq]at hok;obtain⟨⟨⟨⟨hok,hle⟩,h0⟩,rfl⟩,hd⟩:=hok;obtain⟨h1,h2,h3,h4⟩:=Bd (fun a b=>Below a.heap.size a b) cs ops.toList 0 vs (by simpa using hle) hk;exact region (P:=P) (ops:=ops) (gY ops.toList 0 cs vs) (fun W=>Below w0.heap.size w0 W) (fun _ _=>True) (fun a b=>Below a.heap.size a b) hm
  (Qk (ops:=ops) (by rw[h2];exact hok) h1 h3 fun x hx e=>(by
   have hx1:x.1∈ops.toList.take cs.length:=by rw[←h1];exact List.mem_map_of_mem hx
   have:=List.all_eq_true.1 hd x.1 hx1;rw[e]at this;cases this)) hN
  ⟨fun _ _ _ _ _=>trivial,fun _ _ he hb=>hb.trans (Below.mono he hb.size),fun _ _ he hb=>hb.trans (Below.mono he hb.size),h4⟩ h0 hI trivial hp
section
variable {o : Oper} {m : List Bool} {r : List (Oper × Kind × List Bool)} {a : Act} {F : List (World → Prop)} {vs : List Value}
theorem VA (v:Value)(h:Yields P ops o v a)(hn:pass P ops I S G fin r (a.put o.dst v) (F++[jW]) vs):pass P ops I S G fin ((o,.pure,m)::r) a F vs:=⟨v,h,hn⟩
theorem ak (v:Value)(hw:Region.wanted o (yielded ops a.tmps)=true)(h:∀w,(execOp a.eval o).run P w=.ok (.value v) w)(hn:pass P ops I S G fin r (a.put o.dst v) (F++[jW]) vs):pass P ops I S G fin ((o,.pure,m)::r) a F vs:=⟨v,Or.inl ⟨hw,h⟩,hn⟩
theorem uO (hw:Region.wanted o (yielded ops a.tmps)=false)(hn:pass P ops I S G fin r (a.put o.dst undef) (F++[jW]) vs):pass P ops I S G fin ((o,.pure,m)::r) a F vs:=⟨undef,Or.inr ⟨hw,rfl⟩,hn⟩
theorem aA {α:Type}{d:α}{val:α→Value}{Post:α→World→Prop}(hw:Region.wanted o (yielded ops a.tmps)=true)(h:∀w,I w→facts w m F→One P ops o a w fun v w'=>(∃x:α,v=val x∧Post x w')∧Ext w w')
 (hn:∀x:α,pass P ops I S G fin r (a.put o.dst (val x)) (F++[Post x]) vs):pass P ops I S G fin ((o,.minor α d val Post,m)::r) a F vs:=⟨fun _=>⟨h,hn⟩,fun h'=>by rw[hw]at h';cases h'⟩
theorem lq {α:Type}{d:α}{val:α→Value}{Post:α→World→Prop}(hw:Region.wanted o (yielded ops a.tmps)=false)
 (hn:pass P ops I S G fin r (a.put o.dst undef) (F++[jW]) vs):pass P ops I S G fin ((o,.minor α d val Post,m)::r) a F vs:=⟨fun h'=>(by rw[hw]at h';cases h'),fun _=>hn⟩
theorem FD {α:Type}{d:α}{val:α→Value}{Post:α→World→Prop}(hw:Region.wanted o (yielded ops a.tmps)=true)(h:∀w,I w→S vs w→facts w m F→One P ops o a w fun v w'=>(∃x:α,v=val x∧Post x w')∧Ext w w')
 (hn:∀x:α,pass P ops I S G fin r (a.put o.dst (val x)) (F++[Post x]) vs):pass P ops I S G fin ((o,.pinned α d val Post,m)::r) a F vs:=⟨fun _=>⟨h,hn⟩,fun h'=>by rw[hw]at h';cases h'⟩
theorem Qf {α:Type}{d:α}{val:α→Value}{Post:α→World→Prop}(hw:Region.wanted o (yielded ops a.tmps)=false)
 (hn:pass P ops I S G fin r (a.put o.dst undef) (F++[jW]) vs):pass P ops I S G fin ((o,.pinned α d val Post,m)::r) a F vs:=⟨fun h'=>(by rw[hw]at h';cases h'),fun _=>hn⟩
theorem Hr {α:Type}{d:α}{val:α→Value}(hw:Region.wanted o (yielded ops a.tmps)=true)(h:∀w,I w→S vs w→facts w m F→One P ops o a w fun v w'=>((∃x:α,v=val x)∧S (vs++[v]) w')∧G w w')
 (hn:∀x:α,pass P ops I S G fin r (a.put o.dst (val x)) (F++[jW]) (vs++[val x])):pass P ops I S G fin ((o,.major α d val,m)::r) a F vs:=⟨fun _=>⟨h,hn⟩,fun h'=>by rw[hw]at h';cases h'⟩
theorem Qq {α:Type}{d:α}{val:α→Value}(hw:Region.wanted o (yielded ops a.tmps)=false)(h:∀w,I w→S vs w→S (vs++[undef]) w)
 (hn:pass P ops I S G fin r (a.put o.dst undef) (F++[jW]) (vs++[undef])):pass P ops I S G fin ((o,.major α d val,m)::r) a F vs:=⟨fun h'=>(by rw[hw]at h';cases h'),fun _=>⟨h,hn⟩⟩
theorem aB {n:Nat}{Q:Exit→Act→World→Prop}(h:∀w,I w→S vs w→uM w F→wpList P ops Q (ops.toList.drop n) a w):pass P ops I S G (Last P ops I S Q n) [] a F vs:=h
end
end Reg2
theorem qad {w:World}:Reg2.Ext w w:=Reg2.Ext.refl w
end Go.Proofs.YtaimcpmcndapcaaGreat

namespace Go.Proofs.YtaimcpmcndapcaaGreat
open Go.Proofs.Tryz
open Go.RowKit
abbrev ae :Bool:=true
abbrev af :Bool:=false
namespace Reg2
abbrev Kind.mU (v:Value):Kind:=.minor Unit () (fun _=>v) (fun _ _=>True)
theorem rd {P:Program}{ops:Array Oper}(w0:World)(k N:Nat)(ms:List (List Bool))(tags:List Nat)(ks:List Kind){a:Act}{w:World}{id:Nat}{Q:Exit→Act→World→Prop}
 (hm:P.follows .mixedOrders=true) (hok:((okB ops k N ms tags&&(ms.length == k)&&(tags.length == k)&&decide (0<k))&&(ops.toList.take k).all (fun o=>o.dst.isSome))=true)
 (yB:ks.map bE=tags) (hN:a.tmps.size=N) (hst:stays (fun a b=>Below a.heap.size a b) (mk ops k ks ms)) (hI:Below w0.heap.size w0 w.drew)
 (hp:pass P ops (fun W=>Below w0.heap.size w0 W) (fun _ _=>True) (fun a b=>Below a.heap.size a b) (Last P ops (fun W=>Below w0.heap.size w0 W) (fun _ _=>True) Q k) (mk ops k ks ms) a [] []):(Code.region id ops true).wp P Q a w:=
 sO k N ms tags ks (fun W=>Below w0.heap.size w0 W) (fun _ _=>True) (fun a b=>Below a.heap.size a b) hm hok yB hN (fun _ _ _ _ _=>trivial) (fun _ _ he hb=>hb.trans (Below.mono he hb.size)) (fun _ _ he hb=>hb.trans (Below.mono he hb.size)) hst hI trivial hp
theorem tt {G:World→World→Prop}:vT G (Kind.mU .nilFunc):=⟨fun _ _ _ _ _=>trivial,fun _ _ _ _ _=>trivial⟩
section
variable {P : Program} {ops : Array Oper} {I : World → Prop} {S : List Value → World → Prop} {G : World → World → Prop} {fin : Act → List (World → Prop) → List Value → Prop} {o : Oper} {m : List Bool} {r : List (Oper × Kind × List Bool)} {a : Act} {F : List (World → Prop)} {vs : List Value}
theorem pm {α:Type}{d:α}{val:α→Value}{Post:α→World→Prop}(h:∀w,I w→facts w m F→wpList P ops (Done o (fun v w'=>(∃x:α,v=val x∧Post x w')∧Ext w w') a) [o] a w)(hn:∀x:α,pass P ops I S G fin r (a.put o.dst (val x)) (F++[Post x]) vs)(hw:Region.wanted o (yielded ops a.tmps)=true):pass P ops I S G fin ((o,.minor α d val Post,m)::r) a F vs:=aA hw h hn
theorem pp {α:Type}{d:α}{val:α→Value}{Post:α→World→Prop}(h:∀w,I w→S vs w→facts w m F→wpList P ops (Done o (fun v w'=>(∃x:α,v=val x∧Post x w')∧Ext w w') a) [o] a w)(hn:∀x:α,pass P ops I S G fin r (a.put o.dst (val x)) (F++[Post x]) vs)(hw:Region.wanted o (yielded ops a.tmps)=true):pass P ops I S G fin ((o,.pinned α d val Post,m)::r) a F vs:=FD hw h hn
theorem pj {α:Type}{d:α}{val:α→Value}(h:∀w,I w→S vs w→facts w m F→wpList P ops (Done o (fun v w'=>((∃x:α,v=val x)∧S (vs++[v]) w')∧G w w') a) [o] a w)(hn:∀x:α,pass P ops I S G fin r (a.put o.dst (val x)) (F++[jW]) (vs++[val x]))(hw:Region.wanted o (yielded ops a.tmps)=true):pass P ops I S G fin ((o,.major α d val,m)::r) a F vs:=Hr hw h hn

end
end Reg2
open Go.Lib
structure gB (S : Nat → Prop) (w w' : World) : Prop where
 os:w'.os=w.os
 tape:w'.tape=w.tape
 output:w'.output=w.output
 size:w.heap.size≤w'.heap.size
 block:∀k,k<w.heap.size→¬S k→w'.heap[k]? =w.heap[k]?
def ni (w:World)(S S':Nat→Prop):Prop:=∀k,S' k→S k∨w.heap.size≤k
section
variable {S S' : Nat → Prop} {w w1 w2 : World}
theorem gB.refl (S:Nat→Prop)(w:World):gB S w w:=⟨rfl,rfl,rfl,qaf _,fun _ _ _=>rfl⟩
theorem gB.of_below (h:Below w.heap.size w w1):gB S w w1:=⟨h.os,h.tape,h.output,h.size,fun k hk _=>h.block k hk⟩
theorem gB.trans (h:gB S w w1)(h':gB S' w1 w2)(hg:ni w S S'):gB S w w2:=
 ⟨h'.os.trans h.os,h'.tape.trans h.tape,h'.output.trans h.output,Nat.le_trans h.size h'.size,fun k hk hn=>by
  rw[h'.block k (Nat.lt_of_lt_of_le hk h.size) (fun hs=>(hg k hs).elim hn (fun hle=>absurd hk (Nat.not_lt.2 hle)))];exact h.block k hk hn⟩
theorem gB.below {B:Nat}(h:gB S w w1)(hS:∀k,S k→B≤k)(hB:B≤w.heap.size):Below B w w1:=
 ⟨h.os,h.tape,h.output,h.size,fun k hk=>h.block k (by omega) (fun hs=>absurd (hS k hs) (by omega))⟩
theorem ni.refl (w:World)(S:Nat→Prop):ni w S S:=fun _ h=>.inl h
theorem ni.trans {WO:Nat→Prop}(h:ni w S S')(h':ni w1 S' WO)(hs:w.heap.size≤w1.heap.size):ni w S WO:=fun k hk=>(h' k hk).elim (h k) (fun hle=>.inr (by omega))
end
section
variable {w w' : World} {p g n cap m : Nat} {dv lv : Value} {M : Md}
theorem iH {e:TypeId}{sz n B k:Nat}{v:Value}{xs:List Value}(h:w.ownsRow B e sz v n xs)(hk:v.ownBlock=some k):∃cur,w.heap[k]? =some (.cells cur e (0,0)):=by
 obtain⟨_,⟨rfl,_⟩|⟨g,cap,cur,rfl,_,hh,_⟩⟩:=h
 ·cases hk
 ·have:k=g:=by simpa[Value.ownBlock]using hk.symm
  subst this;exact⟨cur,hh⟩
theorem qy {e:TypeId}{sz n B:Nat}{v:Value}{xs:List Value}(h:w.ownsRow B e sz v n xs)(hk:∀k,v.ownBlock=some k→w'.heap[k]? =w.heap[k]?):w'.ownsRow B e sz v n xs:=bH h hk
end
theorem og (M:Md)(wid:Int)(k:Nat):(lowGo M wid k).1<2^k∧0≤(lowGo M wid k).2∧(lowGo M wid k).2≤k:=by
 induction k with
 |zero=>simp[lowGo]
 |succ k ih=>
  have h2:2^(k+1)=2*2^k:=by rw[Nat.pow_succ,Nat.mul_comm]
  unfold lowGo;split
  ·refine⟨?_,?_,?_⟩
   ·show(lowGo M wid k).1+2^k<_;omega
   ·show 0≤(lowGo M wid k).2+1;omega
   ·show(lowGo M wid k).2+1≤_;omega
  ·refine⟨by omega,ih.2.1,by omega⟩
section
end
section
variable {w w' : World} {p : Nat} {dv lv : Value} {M : Md}
theorem mr {b:Nat}{x y:Jb}(h:w.heap[b]? =some (.cells (ah y).toArray 55 (0,0))):Sem.run prog (storeCells ⟨b,0,none⟩ (ah x) 0) w=.ok () (w.setRow b (ah x).toArray):=by
 have hst:=run_storeCells_at prog b 0 55 (ah x) 0 (ah y).toArray w h (by simp[ay]) (dH x);simp only[Nat.add_zero]at hst;rw[hst];rfl
theorem TI {B g:Nat}{w0 w:World}(hb:Below B w0 w)(hBg:B≤g)(cs:Array Value):Below B w0 (w.setRow g cs):=
 hb.trans ⟨rfl,rfl,rfl,by simp[World.setRow],fun k hk=>setRow_other w g k cs (by omega)⟩
end
section
variable {w w' : World} {p : Nat} {dv lv : Value} {M : Md}
theorem Qr (M:Md)(id:Int):(getM M id).2=false∨∃i:Nat,id=(i:Int)+1∧i<M.L.length∧getM M id=(M.L.getD i default,true):=by
 by_cases hc:id<1∨(M.L.length:Int)<id
 ·left;unfold getM;rw[qaj hc]
 ·right;refine⟨(id-1).toNat,by omega,by omega,?_⟩;unfold getM;rw[qai hc]
end
section
variable {w w' : World} {p : Nat} {dv lv : Value} {M : Md}
theorem MB.set (hb:MB M)(i:Nat)(x:Jb)(h1:0≤x.wid∧x.wid≤64)(h2:0≤x.lim∧x.lim≤1048576)(h3: -1≤x.aJ∧x.aJ≤1099511627776)(h4: -1≤x.fin∧x.fin≤1099512676352)(h5:0≤x.bQ∧x.bQ≤18446744073709551615):MB {M with L:=M.L.set i x}:=by
 have H:∀{P:Jb→Prop},(∀j∈M.L,P j)→P x→∀j∈M.L.set i x,P j:=fun h hx j hj=>by
  rcases List.mem_or_eq_of_mem_set hj with h1|rfl
  ·exact h j h1
  ·exact hx
 exact⟨hb.nn,by show(M.L.set i x).length≤1024;rw[List.length_set];exact hb.ll,hb.now,H hb.wid h1,H hb.lim h2,H hb.aJ h3,H hb.fin h4,H hb.bQ h5⟩
end
section
variable {w w' : World} {p : Nat} {dv lv : Value} {M : Md}
theorem MB.drop (hb:MB M)(j:Jb):MB (fB M j):=by
 have H:∀{P:Jb→Prop},(∀j∈M.L,P j)→(∀x,P x→P (x.aH (-1)))→∀x∈M.L.map (gN j),P x:=fun h hx x hj=>by
  obtain⟨y,hy,rfl⟩:=List.mem_map.1 hj;unfold gN;split
  ·exact hx _ (h y hy)
  ·exact h y hy
 exact⟨hb.nn,by show(M.L.map (gN j)).length≤1024;rw[List.length_map];exact hb.ll,hb.now,H hb.wid fun _ h=>h,H hb.lim fun _ h=>h,H hb.aJ fun _ _=>(by show(-1:Int)≤-1∧(-1:Int)≤_;omega),H hb.fin fun _ h=>h,H hb.bQ fun _ h=>h⟩
theorem MB.drain (hb:MB M)(m:Nat)(x:Bool):MB {M with dr:=M.dr.set m x}:=
 ⟨by show(M.dr.set m x).length≤64;rw[List.length_set];exact hb.nn,hb.ll,hb.now,hb.wid,hb.lim,hb.aJ,hb.fin,hb.bQ⟩
end
def eO (f:Jb→Jb)(L:List Jb)(i:Nat):List Jb:=(L.take i).map f++L.drop i
section
variable {f : Jb → Jb}
theorem oH (L:List Jb)(i:Nat):(eO f L i).length=L.length:=by simp[eO];omega
theorem qz {L:List Jb}{i:Nat}(hi:i<L.length):(eO f L i).getD i default=L.getD i default:=by
 unfold eO;have:((L.take i).map f).length=i:=by simp;omega
 rw[List.getD,List.getElem?_append_right (by omega),this,Nat.sub_self,List.getElem?_drop,Nat.add_zero];rfl
theorem jd {L:List Jb}{i:Nat}(hi:i<L.length):(eO f L i).set i (f (L.getD i default))=eO f L (i+1):=by
 unfold eO;have hl:((L.take i).map f).length=i:=by simp;omega
 rw[List.set_append_right _ _ (by omega),hl,Nat.sub_self,List.drop_eq_getElem_cons hi,xB,List.take_succ_eq_append_getElem hi,List.map_append,List.append_assoc];simp[List.getD,hi]
theorem nk {L:List Jb}{i:Nat}(hi:i<L.length)(h:f (L.getD i default)=L.getD i default):eO f L i=eO f L (i+1):=by
 rw[←jd hi,h];have:=qz (f:=f) hi;rw[List.getD,List.getElem?_eq_getElem (by rw[oH];exact hi),Option.getD_some]at this;rw[←this,List.set_getElem_self]
theorem rq (L:List Jb):eO f L L.length=L.map f:=by simp[eO]
end
section
variable {w w' : World} {p : Nat} {dv lv : Value} {M : Md}
theorem MB.over (hb:MB M)(t:Int):MB {M with L:=M.L.map (aW t)}:=by
 have H:∀{P:Jb→Prop},(∀j∈M.L,P j)→(∀x,P x→P (x.setSt 6))→∀x∈M.L.map (aW t),P x:=fun h hx x hj=>by
  obtain⟨y,hy,rfl⟩:=List.mem_map.1 hj;unfold aW;split
  ·exact hx _ (h y hy)
  ·exact h y hy
 exact⟨hb.nn,by show(M.L.map (aW t)).length≤1024;rw[List.length_map];exact hb.ll,hb.now,H hb.wid fun _ h=>h,H hb.lim fun _ h=>h,H hb.aJ fun _ h=>h,H hb.fin fun _ h=>h,H hb.bQ fun _ h=>h⟩
theorem MB.begin (hb:MB M)(i:Nat)(hi:i<M.L.length):MB (aX M i):=by
 have hm:M.L.getD i default∈M.L:=by simp[List.getD,hi]
 refine hb.set i _ (show 0≤(M.L.getD i default).wid∧(M.L.getD i default).wid≤64 from hb.wid _ hm) (show 0≤(M.L.getD i default).lim∧(M.L.getD i default).lim≤1048576 from hb.lim _ hm) (by show(-1:Int)≤-1∧(-1:Int)≤_;omega) ?_ ?_
 ·have h1:=hb.lim _ hm;have h2:=hb.now;show-1≤M.now+(M.L.getD i default).lim∧M.now+(M.L.getD i default).lim≤1099512676352;omega
 ·have h1:=(og M (M.L.getD i default).wid M.dr.length).1;have h2:2^M.dr.length≤2^64:=Nat.pow_le_pow_right (by decide) hb.nn;show 0≤((iM M (M.L.getD i default).wid:Nat):Int)∧((iM M (M.L.getD i default).wid:Nat):Int)≤18446744073709551615;unfold iM;omega
theorem Ht (M:Md)(i:Nat):(aX M i).L.length=M.L.length:=by simp[aX]
theorem Be (L:List Jb)(now:Int)(i:Nat): -1≤iA L now i∧iA L now i<i:=by
 induction i with
 |zero=>simp[iA]
 |succ i ih=>
  unfold iA;split<;>omega
end
section
variable {w w' : World} {p : Nat} {dv lv : Value} {M : Md}
theorem vI (n:Nat)(hb:MB M):MB (startGo n M)∧(startGo n M).L.length=M.L.length∧(startGo n M).now=M.now∧(startGo n M).dr=M.dr∧(startGo n M).cl=M.cl:=by
 induction n generalizing M with
 |zero=>exact⟨hb,rfl,rfl,rfl,rfl⟩
 |succ n ih=>
  unfold startGo;split
  ·rename_i h
   have hr:=Be M.L M.now M.L.length;have hf:(firstM M).toNat<M.L.length:=by unfold firstM at h⊢;omega
   obtain⟨h1,h2,h3,h4,h5⟩:=ih (hb.begin _ hf);exact⟨h1,by rw[h2,Ht],h3,h4,h5⟩
  ·exact ih hb
theorem nS (hb:MB M):MB (dK M)∧(dK M).L.length=M.L.length∧(dK M).now=M.now∧(dK M).dr=M.dr∧(dK M).cl=M.cl:=by
 obtain⟨h1,h2,h3,h4,h5⟩:=vI M.L.length (hb.over M.now);exact⟨h1,by show(startGo _ _).L.length=_;rw[h2];simp,h3,h4,h5⟩
theorem MB.at (hb:MB M)(t:Int)(h0:0≤t)(h1:t≤1099511627776):MB {M with now:=t}:=⟨hb.nn,hb.ll,⟨h0,h1⟩,hb.wid,hb.lim,hb.aJ,hb.fin,hb.bQ⟩
theorem FE (to:Int)(n:Nat)(hb:MB M)(h1:to≤1099511627776):MB (dG to n M)∧(dG to n M).L.length=M.L.length∧(dG to n M).dr=M.dr∧(dG to n M).cl=M.cl:=by
 induction n generalizing M with
 |zero=>exact⟨hb,rfl,rfl,rfl⟩
 |succ n ih=>
  unfold dG;split
  ·exact⟨hb,rfl,rfl,rfl⟩
  ·rename_i h
   obtain⟨k1,k2,k3,k4,k5⟩:=nS (hb.at (aV M) (by omega) (by omega));obtain⟨j1,j2,j3,j4⟩:=ih k1;exact⟨j1,by rw[j2,k2],by rw[j3,k4],by rw[j4,k5]⟩
end
section
variable {M : Md}
theorem kP {id:Int}(h:(getM M id).2=true):(getM M id).1∈M.L∧(id-1).toNat<M.L.length∧(getM M id).1=M.L.getD (id-1).toNat default∧id=(((id-1).toNat:Nat):Int)+1:=by
 rcases Qr M id with h1|⟨i,rfl,hi,h1⟩
 ·rw[h1]at h;cases h
 ·have e:((i:Int)+1-1).toNat=i:=by omega
  rw[h1,e];exact⟨by simp[List.getD,hi],hi,rfl,by omega⟩
theorem MB.app (hb:MB M)(x:Jb)(hl:M.L.length<1024)(h1:0≤x.wid∧x.wid≤64)(h2:0≤x.lim∧x.lim≤1048576)(h3: -1≤x.aJ∧x.aJ≤1099511627776)(h4: -1≤x.fin∧x.fin≤1099512676352)(h5:0≤x.bQ∧x.bQ≤18446744073709551615):MB {M with L:=M.L++[x]}:=by
 have H:∀{P:Jb→Prop},(∀j∈M.L,P j)→P x→∀j∈M.L++[x],P j:=fun h hx j hj=>by
  rcases List.mem_append.1 hj with h1|h1
  ·exact h j h1
  ·rw[List.mem_singleton]at h1;subst h1;exact hx
 exact⟨hb.nn,by show(M.L++[x]).length≤1024;rw[List.length_append];simp;omega,hb.now,H hb.wid h1,H hb.lim h2,H hb.aJ h3,H hb.fin h4,H hb.bQ h5⟩
theorem MB.M8 (hb:MB M)(r:Rw):MB (ma M r).2:=by
 unfold ma;simp only;split
 ·exact hb
 split
 ·exact hb
 ·rename_i h1 h2
  obtain⟨hm,hi,he,_⟩:=kP (by simpa using h1);have bw:=hb.wid _ hm;have bl:=hb.lim _ hm;have bp:=hb.aJ _ hm;have bf:=hb.fin _ hm;have bn:=hb.bQ _ hm;refine hb.set _ _ (by unfold iN;split<;>exact bw) (by unfold iN;split<;>exact bl) (by show(-1:Int)≤-1∧(-1:Int)≤_;omega) ?_ (by
   unfold iN;split
   ·exact bn
   ·exact bn)
  unfold iN;split
  ·have:=hb.now;show-1≤M.now∧M.now≤_;omega
  ·exact bf
theorem MB.FH (hb:MB M)(r:Rw):MB (fZ M r).2:=by
 unfold fZ;simp only;split
 ·exact hb
 split
 ·exact hb
 ·rename_i h1 h2
  obtain⟨hm,hi,he,_⟩:=kP (by simpa using h1);have bw:=hb.wid _ hm;have bl:=hb.lim _ hm;have bp:=hb.aJ _ hm;have bf:=hb.fin _ hm;have bn:=hb.bQ _ hm;have ha:MB {M with L:=M.L.set (r.id-1).toNat (fD r.kind (getM M r.id).1)}:=by
   refine hb.set _ _ ?_ ?_ ?_ ?_ ?_
   ·unfold fD;split;exact bw;split;exact bw;exact bw
   ·unfold fD;split;exact bl;split;exact bl;exact bl
   ·unfold fD;split
    ·show(-1:Int)≤-1∧(-1:Int)≤_;omega
    ·split;exact bp;exact bp
   ·unfold fD;split;exact bf;split;exact bf;exact bf
   ·unfold fD;split;exact bn;split;exact bn;exact bn
  split
  ·exact ha.drop _
  ·exact ha
theorem MB.FI (hb:MB M)(n:Nat)(b:Bool):MB (fI M n b):=by
 unfold fI;split
 ·exact(hb.drop kY).drain n true
 ·exact hb.drain n false
theorem MB.jq (hb:MB M)(id t:Int):MB (aL M id t).2:=by
 have hn:=hb.now;unfold aL;split
 ·rename_i hf
  unfold eF at hf;simp only at hf;split at hf
  ·cases hf
  rename_i hq
  have hg:(getM M id).2=true:=by cases h:(getM M id).2<;>simp_all
  obtain⟨hm,hi,he,_⟩:=kP hg;split
  ·exact hb.begin _ hi
  ·rw[he]at hm;have bw:=hb.wid _ hm;have bl:=hb.lim _ hm;have bp:=hb.aJ _ hm;have bf:=hb.fin _ hm;have bn:=hb.bQ _ hm;exact hb.set _ _ (bw) (bl) (by show-1≤t∧t≤1099511627776;omega) (bf) (bn)
 ·exact hb
end
theorem Hu {j:Jb}{a t:Int}(hat:a≤t)(h:∀u∈A7 j,¬(a<u∧u≤t))(but:Int):jH t but j=jH a but j:=by
 unfold jH;by_cases hp:aj j=true
 ·have h1:=h j.aJ (by unfold A7;rw[qaj hp];simp);have h2:=h (j.aJ+j.lim) (by unfold A7;rw[qaj hp];simp);have e1:decide (j.aJ≤t)=decide (j.aJ≤a):=decide_eq_decide.2 (by omega);have e2:decide (t<j.aJ+j.lim)=decide (a<j.aJ+j.lim):=decide_eq_decide.2 (by omega);rw[e1,e2]
 ·simp[hp]
theorem Hw {L:List Jb}{a t:Int}(hat:a≤t)(h:∀u∈p8 L,¬(a<u∧u≤t))(but:Int):bT L t but=bT L a but:=by
 unfold bT;congr 2;refine List.filter_congr fun j hj=>?_;exact Hu hat (fun u hu=>h u (List.mem_flatMap.2 ⟨j,hj,hu⟩)) but
theorem FJ {L:List Jb}{k:Nat}(h:0≤holderL L k):∃j∈L,L.getD (holderL L k).toNat default=j∧j.st=3:=by
 unfold holderL at h⊢;cases he:L.findIdx? (aI k)with
 |none=>rw[he]at h;exact absurd h (by decide)
 |some q=>
  obtain⟨h1,h2,_⟩:=List.findIdx?_eq_some_iff_getElem.1 he;refine⟨L[q],List.getElem_mem _,by simp[List.getD,h1],?_⟩;unfold aI at h2;simp at h2;exact h2.1
theorem Hy {M:Md}{a t:Int}(hat:a≤t)(h:∀u∈p8 M.L,¬(a<u∧u≤t))(k:Nat):bP M t k=bP M a k:=by
 unfold bP;by_cases h0:holderL M.L k<0
 ·simp[h0]
 ·obtain⟨j,hj,he,hs⟩:=FJ (L:=M.L) (k:=k) (by omega);rw[he];have:=h j.fin (List.mem_flatMap.2 ⟨j,hj,by unfold A7;rw[qaj hs];simp⟩);rw[show decide (j.fin≤t)=decide (j.fin≤a)from decide_eq_decide.2 (by omega)]
theorem Bf {M:Md}{a t:Int}(hat:a≤t)(h:∀u∈p8 M.L,¬(a<u∧u≤t))(but:Int):ax M t but=ax M a but:=by
 unfold ax aM;rw[Hw hat h but,show bP M t=bP M a from funext (Hy hat h)]
structure WQ (T : List Int) (now : Int) (f : Int → Int) : Prop where
 hd:T.head? =some now
 inc:T.Pairwise (· < ·)
 top:∀t∈T,t<1152921504606846976
 same:∀a t,now≤a→a≤t→(∀u∈T,¬(a<u∧u≤t))→f t=f a
theorem FK {M:Md}(h0:0≤M.now)(htop:∀t∈mV M,t<1152921504606846976)(but:Int):WQ (mV M) M.now (fun t=>ax M t but):=
 ⟨rfl,A8 h0,htop,fun a t ha hat h=>Bf hat (fun u hu YM=>h u ((sZ h0 u).2 (.inr ⟨by omega,hu⟩)) YM) but⟩
theorem oI (A:List (Int×Int))(x:Int×Int)(i:Nat):tA (A++[x]) i=if i<A.length then tA A i else if i=A.length then x.1 else 0:=by
 unfold tA;by_cases h:i<A.length
 ·rw[qaj h,List.getD,List.getElem?_append_left h];rfl
 ·rw[qai h];by_cases h2:i=A.length
  ·subst h2;simp
  ·rw[qai h2,List.getD,List.getElem?_eq_none (by simp;omega)];rfl
theorem Bh (A:List (Int×Int))(x:Int×Int)(i:Nat):tV (A++[x]) i=if i<A.length then tV A i else if i=A.length then x.2 else 0:=by
 unfold tV;by_cases h:i<A.length
 ·rw[qaj h,List.getD,List.getElem?_append_left h];rfl
 ·rw[qai h];by_cases h2:i=A.length
  ·subst h2;simp
  ·rw[qai h2,List.getD,List.getElem?_eq_none (by simp;omega)];rfl
structure Pre (A : List (Int × Int)) (now a : Int) (f : Int → Int) : Prop where
 pos:0<A.length
 hd:tA A 0=now
 inc:∀i,i+1<A.length→tA A i<tA A (i+1)
 last:∀i,i<A.length→tA A i≤a
 top:∀i,i<A.length→tA A i<1152921504606846976
 rep:∀i t,i<A.length→tA A i≤t→(i+1<A.length→t<tA A (i+1))→t≤a→f t=tV A i
 alt:∀i,i+1<A.length→tV A i≠tV A (i+1)
def vX (f:Int→Int)(acc:List (Int×Int))(t:Int):List (Int×Int):=
 match acc.getLast? with
 |some s=>if s.2=f t then acc else acc++[(t,f t)]
 |none=>acc++[(t,f t)]
theorem Pre.start {now:Int}(f:Int→Int)(ht:now<1152921504606846976):Pre (vX f [] now) now now f:=by
 have e:vX f [] now=[(now,f now)]:=rfl;rw[e];refine⟨by simp,rfl,fun i h=>by simp at h,fun i h=>?_,fun i h=>?_,fun i t h h1 _ h3=>?_,fun i h=>by simp at h⟩
 ·have:i=0:=by simpa using h
  subst this;exact Int.le_refl _
 ·have:i=0:=by simpa using h
  subst this;exact ht
 ·have:i=0:=by simpa using h
  subst this;have h1:now≤t:=h1;have:t=now:=by omega
  subst this;rfl
theorem Hz {A:List (Int×Int)}(h:0<A.length):∃s,A.getLast? =some s∧s.2=tV A (A.length-1):=by
 refine⟨A.getD (A.length-1) (0,0),?_,rfl⟩;rw[List.getLast?_eq_getElem?,List.getD,List.getElem?_eq_getElem (by omega)];rfl
theorem Pre.next {A:List (Int×Int)}{now a b:Int}{f:Int→Int}(h:Pre A now a f)(hab:a<b)(hb:b<1152921504606846976)(hf:∀t,a≤t→t<b→f t=f a):Pre (vX f A b) now b f:=by
 obtain⟨s,hs,hs2⟩:=Hz h.pos;have hlast:=h.last (A.length-1) (by have:=h.pos;omega);have hfa:f a=tV A (A.length-1):=h.rep _ a (by have:=h.pos;omega) hlast (by have:=h.pos;omega) (Int.le_refl _);have hnew:∀t,tA A (A.length-1)≤t→t<b→f t=tV A (A.length-1):=fun t h1 h2=>by
  rcases Int.lt_or_le a t with h3|h3
  ·rw[hf t (by omega) h2,hfa]
  ·exact h.rep _ t (by have:=h.pos;omega) h1 (by have:=h.pos;omega) h3
 have hold:∀i t,i+1<A.length→tA A i≤t→t<tA A (i+1)→f t=tV A i:=fun i t hi h1 h2=>by
  have:=h.last (i+1) hi;exact h.rep i t (by omega) h1 (fun _=>h2) (by omega)
 unfold vX;rw[hs];simp only;by_cases he:s.2=f b
 ·rw[qaj he];refine⟨h.pos,h.hd,h.inc,fun i hi=>by have:=h.last i hi;omega,h.top,fun i t hi h1 h2 h3=>?_,h.alt⟩;by_cases hi2:i+1<A.length
  ·exact hold i t hi2 h1 (h2 hi2)
  ·have:i=A.length-1:=by omega
   subst this;rcases Int.lt_or_le t b with h4|h4
   ·exact hnew t h1 h4
   ·have:t=b:=by omega
    subst this;rw[←hs2,he]
 ·rw[qai he];have hl:(A++[(b,f b)]).length=A.length+1:=by simp
  refine⟨by rw[hl];omega,?_,fun i hi=>?_,fun i hi=>?_,fun i hi=>?_,fun i t hi h1 h2 h3=>?_,fun i hi=>?_⟩
  ·rw[oI,qaj h.pos];exact h.hd
  ·rw[hl]at hi;rw[oI,oI,qaj (by omega)];by_cases h4:i+1<A.length
   ·rw[qaj h4];exact h.inc i h4
   ·rw[qai h4,qaj (by omega)];have:=h.last i (by omega);show _<b;omega
  ·rw[hl]at hi;rw[oI];split
   ·have:=h.last i (by assumption);omega
   ·rw[qaj (by omega)];exact Int.le_refl _
  ·rw[hl]at hi;rw[oI];split
   ·exact h.top i (by assumption)
   ·rw[qaj (by omega)];exact hb
  ·rw[hl]at hi h2;rw[oI]at h1;rw[Bh];by_cases h4:i<A.length
   ·rw[qaj h4]at h1⊢;have h5:=h2 (by omega);rw[oI]at h5;by_cases h6:i+1<A.length
    ·rw[qaj h6]at h5;exact hold i t h6 h1 h5
    ·rw[qai h6,qaj (by omega)]at h5;have:i=A.length-1:=by omega
     subst this;exact hnew t h1 h5
   ·rw[qai h4,qaj (by omega)]at h1⊢;have h1:b≤t:=h1;have:t=b:=by omega
    rw[this]
  ·rw[hl]at hi;rw[Bh,Bh,qaj (by omega)];by_cases h4:i+1<A.length
   ·rw[qaj h4];exact h.alt i h4
   ·rw[qai h4,qaj (by omega)];have:i=A.length-1:=by omega
    subst this;rw[←hs2];exact he
theorem Pre.all {A:List (Int×Int)}{now a:Int}{f:Int→Int}{T:List Int}(h:Pre A now a f)(hT:(a::T).Pairwise (· < ·))(ht:∀t∈T,t<1152921504606846976)(hs:∀u t,a≤u→u≤t→(∀v∈a::T,¬(u<v∧v≤t))→f t=f u):Can (T.foldl (vX f) A) now f:=by
 induction T generalizing A a with
 |nil=>
  rw[List.foldl_nil];have hlast:=h.last (A.length-1) (by have:=h.pos;omega);have hfa:f a=tV A (A.length-1):=h.rep _ a (by have:=h.pos;omega) hlast (by have:=h.pos;omega) (Int.le_refl _);refine⟨⟨h.pos,h.hd,h.inc,h.top,fun i t hi h1 h2=>?_⟩,fun i hi _=>h.alt i hi⟩;rcases Int.lt_or_le a t with h3|h3
  ·rw[hs a t (Int.le_refl _) (by omega) (fun v hv=>by rw[List.mem_singleton]at hv;omega),hfa];by_cases h4:i+1<A.length
   ·have:=h2 h4;have:=h.last _ h4;omega
   ·have:i=A.length-1:=by omega
    rw[this]
  ·exact h.rep i t hi h1 h2 h3
 |cons b T ih=>
  rw[List.foldl_cons];rw[List.pairwise_cons]at hT;have hab:=hT.1 b List.mem_cons_self;refine ih (h.next hab (ht b List.mem_cons_self) fun t h1 h2=>hs a t (Int.le_refl _) h1 fun v hv hc=>?_) hT.2 (fun t hm=>ht t (List.mem_cons_of_mem _ hm)) fun u t h1 h2 h3=>hs u t (by omega) h2 fun v hv hc=>?_
  ·rcases List.mem_cons.1 hv with rfl|hv
   ·omega
   ·rcases List.mem_cons.1 hv with rfl|hv
    ·omega
    ·have:=(List.pairwise_cons.1 hT.2).1 v hv;omega
  ·rcases List.mem_cons.1 hv with rfl|hv
   ·omega
   ·exact h3 v hv hc
theorem HV {M:Md}(h0:0≤M.now)(htop:∀t∈mV M,t<1152921504606846976):Can (uH M) M.now (fun t=>ax M t 0):=by
 have hr:=FK h0 htop 0;have e:uH M=(timesGo M.L (2*M.L.length) M.now).foldl (vX fun t=>ax M t 0) (vX (fun t=>ax M t 0) [] M.now):=rfl;rw[e];exact(Pre.start _ (htop _ List.mem_cons_self)).all hr.inc (fun t ht=>htop t (List.mem_cons_of_mem _ ht)) (fun u t h1 h2 h3=>hr.same u t h1 h2 h3)
section
variable {w w' : World} {p : Nat} {dv lv : Value} {M : Md}
theorem jX (f:Nat→Bool)(k:Nat):(List.range (k+1)).countP f=(List.range k).countP f+(if f k=true then 1 else 0):=by
 rw[List.range_succ,List.countP_append,List.countP_cons,List.countP_nil];simp
end
def dM (t but:Int)(j:Jb):Int:=if jH t but j=true then j.wid else 0
theorem iV (L:List Jb)(t but:Int):bT L t but=(L.map (dM t but)).sum:=by
 induction L with
 |nil=>rfl
 |cons a L ih=>
  unfold bT at ih⊢;rw[List.map_cons,List.sum_cons,←ih];unfold dM;by_cases h:jH t but a=true
  ·rw[List.filter_cons_of_pos h,qaj h,List.map_cons,List.sum_cons]
  ·rw[List.filter_cons_of_neg h,qai h,Int.zero_add]
theorem Bi (f:Jb→Int)(L:List Jb)(i:Nat)(y:Jb)(hi:i<L.length):((L.set i y).map f).sum=(L.map f).sum-f (L.getD i default)+f y:=by
 induction L generalizing i with
 |nil=>simp at hi
 |cons a L ih=>
  cases i with
  |zero=>simp[List.getD];omega
  |succ i=>
   have:=ih i (by simpa using hi);simp only[xC,List.map_cons,List.sum_cons,List.getD_cons_succ];rw[this];omega
theorem nu {L:List Jb}{i:Nat}(hi:i<L.length)(y:Jb)(t but:Int):bT (L.set i y) t but=bT L t but-dM t but (L.getD i default)+dM t but y:=by
 rw[iV,iV];exact Bi _ L i y hi
theorem dN {t but:Int}{j:Jb}(h:aj j=false):dM t but j=0:=by
 unfold dM jH;simp[h]
theorem mD {t but:Int}{j:Jb}(h:aj j=true)(hb:j.id≠but):dM t but j=if j.aJ≤t∧t<j.aJ+j.lim then j.wid else 0:=by
 unfold dM jH;by_cases h1:j.aJ≤t<;>by_cases h2:t<j.aJ+j.lim<;>simp[h,hb,h1,h2]
theorem Kv {t:Int}{j:Jb}:dM t j.id j=0:=by
 unfold dM jH;simp
theorem je {L:List Jb}{k:Nat}:holderL L k<0↔∀j∈L,aI k j=false:=by
 unfold holderL;cases h:L.findIdx? (aI k)with
 |none=>
  rw[List.findIdx?_eq_none_iff]at h;exact⟨fun _=>h,fun _=>by decide⟩
 |some i=>
  rw[List.findIdx?_eq_some_iff_getElem]at h;obtain⟨hi,h1,_⟩:=h;refine⟨fun h=>by simp only at h;omega,fun h2=>?_⟩;have:=h2 _ (List.getElem_mem hi);rw[h1]at this;cases this
theorem Kw {L:List Jb}{k i:Nat}(h:holderL L k=i):i<L.length∧aI k (L.getD i default)=true:=by
 unfold holderL at h;cases h1:L.findIdx? (aI k)with
 |none=>rw[h1]at h;simp only at h;omega
 |some q=>
  rw[h1]at h;simp only at h;have:q=i:=by omega
  subst this;rw[List.findIdx?_eq_some_iff_getElem]at h1;obtain⟨hi,h2,_⟩:=h1;exact⟨hi,by simp[List.getD,hi,h2]⟩
theorem fG (L:List Jb)(k:Nat):holderL L k<0∨∃i:Nat,holderL L k=i∧i<L.length∧aI k (L.getD i default)=true:=by
 rcases Int.lt_or_le (holderL L k) 0 with h|h
 ·exact .inl h
 ·obtain⟨i,hi⟩:=Int.eq_ofNat_of_zero_le h;exact .inr ⟨i,hi,Kw hi⟩
def xn (L:List Jb):Prop:=∀i k n:Nat,i<L.length→k<L.length→aI n (L.getD i default)=true→aI n (L.getD k default)=true→i=k
theorem vJ {L:List Jb}(hd:xn L){n i:Nat}(hi:i<L.length)(h:aI n (L.getD i default)=true):holderL L n=i:=by
 rcases fG L n with h1|⟨q,h1,hq,h2⟩
 ·have:=je.1 h1 (L.getD i default) (by simp[List.getD,hi]);rw[h]at this;cases this
 ·rw[h1,hd i q n hi hq h h2]
theorem gF {L:List Jb}{i q:Nat}{y:Jb}:(L.set i y).getD q default=if i=q∧i<L.length then y else L.getD q default:=by
 simp only[List.getD,List.getElem?_set];by_cases h:i=q
 ·subst h;by_cases h2:i<L.length
  ·simp[h2]
  ·simp[h2]
 ·simp[h]
theorem jB {L:List Jb}{i:Nat}{y:Jb}{n:Nat}(hi:i<L.length)(h:aI n y=aI n (L.getD i default)):holderL (L.set i y) n=holderL L n:=by
 unfold holderL;have:(L.set i y).findIdx? (aI n)=L.findIdx? (aI n):=by
  have e:∀M:List Jb,M.findIdx? (aI n)=(M.map (aI n)).findIdx? id:=fun M=>by rw[List.findIdx?_map];rfl
  rw[e,e,List.map_set,h];congr 1;have:(L.map (aI n))[i]? =some (aI n (L.getD i default)):=by simp[List.getD,hi]
  refine List.ext_getElem? fun q=>?_;rw[List.getElem?_set];split
  ·rename_i h1;subst h1
   split
   ·rw[this]
   ·simp_all
  ·rfl
 rw[this]
theorem holds_of {n:Nat}{x y:Jb}(h1:(y.st=3)↔(x.st=3))(h2:y.bQ=x.bQ):aI n y=aI n x:=by
 unfold aI;rw[h2];by_cases h:x.st=3
 ·simp[h,h1.2 h]
 ·simp[h,mt h1.1 h]
section
variable {M : Md}
theorem ru {i:Nat}{y:Jb}(hi:i<M.L.length)(h1:(y.st=3)↔((M.L.getD i default).st=3))(h2:y.bQ=(M.L.getD i default).bQ)(h3:y.fin=(M.L.getD i default).fin)(t but:Int):
 ax {M with L:=M.L.set i y} t but=ax M t but+dM t but (M.L.getD i default)-dM t but y:=by
 have hn:∀k,bP {M with L:=M.L.set i y} t k=bP M t k:=fun k=>by
  unfold bP;have e:=jB (n:=k) hi (holds_of h1 h2);show(!(M.dr.getD k false)&&(decide (holderL (M.L.set i y) k<0)||decide (((M.L.set i y).getD (holderL (M.L.set i y) k).toNat default).fin≤t)))=_;rw[e,gF];split
  ·rename_i h;rw[h3,←h.1]
  ·rfl
 have hf:aM {M with L:=M.L.set i y} t M.dr.length=aM M t M.dr.length:=by
  unfold aM;congr 2;exact funext fun k=>hn k
 show aM {M with L:=M.L.set i y} t M.dr.length-bT (M.L.set i y) t but=aM M t M.dr.length-bT M.L t but+dM t but (M.L.getD i default)-dM t but y;rw[hf,nu hi];omega
theorem iW {i:Nat}{u:Int}(hi:i<M.L.length)(t but:Int):
 ax {M with L:=M.L.set i ((M.L.getD i default).aH u)} t but=ax M t but+dM t but (M.L.getD i default)-dM t but ((M.L.getD i default).aH u):=
 ru (y:=(M.L.getD i default).aH u) hi Iff.rfl rfl rfl t but
theorem mE {i:Nat}(hi:i<M.L.length)(hid:∀q,q<M.L.length→(M.L.getD q default).id=(q:Int)+1)(t:Int):ax M t ((i:Int)+1)=ax M t 0+dM t 0 (M.L.getD i default):=by
 have h:bT M.L t ((i:Int)+1)=bT M.L t 0-dM t 0 (M.L.getD i default):=by
  have hd:=iW (M:=M) (u:= -1) hi t 0;have hd2:=iW (M:=M) (u:= -1) hi t ((i:Int)+1);have e0:∀b,dM t b ((M.L.getD i default).aH (-1))=0:=fun b=>dN (by unfold aj;simp[Jb.aH,Jb.aJ]);have e1:dM t ((i:Int)+1) (M.L.getD i default)=0:=by rw[←hid i hi];exact Kv
  have e2:bT (M.L.set i ((M.L.getD i default).aH (-1))) t ((i:Int)+1)=bT (M.L.set i ((M.L.getD i default).aH (-1))) t 0:=by
   rw[iV,iV];congr 1;refine List.map_congr_left fun j hj=>?_;obtain⟨q,hq,rfl⟩:=List.getElem_of_mem hj;have hq':q<M.L.length:=by simpa using hq
   have hg:(M.L.set i ((M.L.getD i default).aH (-1)))[q]=(M.L.set i ((M.L.getD i default).aH (-1))).getD q default:=by simp[List.getD,hq']
   rw[hg,gF];split
   ·rw[e0,e0]
   ·rename_i hne
    have hqi:q≠i:=fun e=>hne ⟨e.symm,hi⟩;have:=hid q hq';unfold dM jH;rw[this];have a1:decide ((q:Int)+1≠(i:Int)+1)=true:=qag (by omega);have a2:decide ((q:Int)+1≠0)=true:=qag (by omega);rw[a1,a2]
  rw[nu hi,nu hi,e0,e0,e1]at e2;omega
 unfold ax;omega
theorem zz (f g:Nat→Bool)(n N:Nat)(hn:n<N)(h:∀k,k≠n→f k=g k):(((List.range N).countP f:Nat):Int)=((List.range N).countP g:Nat)-(if g n=true then 1 else 0)+(if f n=true then 1 else 0):=by
 induction N with
 |zero=>omega
 |succ N ih=>
  rw[jX,jX];by_cases e:n=N
  ·subst e;have:(List.range n).countP f=(List.range n).countP g:=List.countP_congr fun k hk=>by rw[h k (by have:=List.mem_range.1 hk;omega)]
   rw[this];split<;>split<;>omega
  ·have h1:=ih (by omega);rw[h N (fun e2=>e e2.symm)];split<;>omega
theorem xq {n:Nat}(hn:n<M.dr.length)(b:Bool)(t but:Int):
 ax {M with dr:=M.dr.set n b} t but=ax M t but-(if bP M t n=true then 1 else 0)+(if(!b&&(decide (holderL M.L n<0)||decide ((M.L.getD (holderL M.L n).toNat default).fin≤t)))=true then 1 else 0):=by
 have hs:∀k,(M.dr.set n b).getD k false=if n=k then b else M.dr.getD k false:=fun k=>by
  simp only[List.getD,List.getElem?_set];by_cases h:n=k
  ·subst h;simp[hn]
  ·simp[h]
 have h:=zz (bP {M with dr:=M.dr.set n b} t) (bP M t) n M.dr.length hn (fun k hk=>by
  unfold bP;show(!((M.dr.set n b).getD k false)&&_)=_;rw[hs,qai (fun e=>hk e.symm)])
 have e:bP {M with dr:=M.dr.set n b} t n=(!b&&(decide (holderL M.L n<0)||decide ((M.L.getD (holderL M.L n).toNat default).fin≤t))):=by
  unfold bP;show(!((M.dr.set n b).getD n false)&&_)=_;rw[hs,qaj rfl]
 rw[e]at h;show aM {M with dr:=M.dr.set n b} t (M.dr.set n b).length-bT M.L t but=aM M t M.dr.length-bT M.L t but-_+_;rw[List.length_set];unfold aM;rw[h];omega
end
theorem kQ (s n:Nat):cZ s n=s.testBit n:=by
 unfold cZ;rw[Nat.testBit_eq_decide_div_mod_eq]
theorem uP {s k:Nat}(h:s<2^k)(n:Nat):cZ (s+2^k) n=(cZ s n||decide (n=k)):=by
 rw[kQ,kQ,Nat.add_comm];rcases Nat.lt_trichotomy n k with h1|h1|h1
 ·rw[Nat.testBit_two_pow_add_gt h1];simp[Nat.ne_of_lt h1]
 ·subst h1;rw[Nat.testBit_two_pow_add_eq,Nat.testBit_lt_two_pow h];simp
 ·have h2:2^(k+1)≤2^n:=Nat.pow_le_pow_right (by decide) h1;rw[Nat.pow_succ]at h2;rw[Nat.testBit_lt_two_pow (show 2^k+s<2^n by omega),Nat.testBit_lt_two_pow (show s<2^n by omega)];simp[Nat.ne_of_gt h1]
theorem Ec {s k n:Nat}(h:s<2^k)(hn:k≤n):cZ s n=false:=by
 rw[kQ];exact Nat.testBit_lt_two_pow (Nat.lt_of_lt_of_le h (Nat.pow_le_pow_right (by decide) hn))
section
variable {M : Md}
theorem oL (M:Md)(wid:Int)(k n:Nat)(h:cZ (lowGo M wid k).1 n=true):n<k∧aU M n=1:=by
 induction k with
 |zero=>simp[lowGo,cZ]at h
 |succ k ih=>
  unfold lowGo at h;split at h
  ·rename_i hc
   rw[uP (og M wid k).1]at h;rcases Bool.or_eq_true _ _▸h with h|h
   ·have:=ih h;exact⟨by omega,this.2⟩
   ·have h:=of_decide_eq_true h;subst h;exact⟨by omega,hc.2⟩
  ·have:=ih h;exact⟨by omega,this.2⟩
theorem xu (M:Md)(wid:Int)(k N:Nat)(hN:k≤N):(((List.range N).countP (cZ (lowGo M wid k).1):Nat):Int)=(lowGo M wid k).2:=by
 induction k with
 |zero=>
  have:(List.range N).countP (cZ (lowGo M wid 0).1)=0:=List.countP_eq_zero.2 fun n _=>by simp[lowGo,cZ]
  rw[this];rfl
 |succ k ih=>
  have ih:=ih (by omega);unfold lowGo;split
  ·show(((List.range N).countP (cZ ((lowGo M wid k).1+2^k)):Nat):Int)=(lowGo M wid k).2+1;have hl:=(og M wid k).1;have:=zz (cZ ((lowGo M wid k).1+2^k)) (cZ (lowGo M wid k).1) k N (by omega) (fun n hn=>by rw[uP hl];simp[hn]);rw[this,uP hl,Ec hl (qaf _),ih];simp
  ·exact ih
theorem HY (M:Md)(wid:Int)(k:Nat)(hw:0≤wid)(h:wid≤((List.range k).countP fun n:Nat=>decide (aU M n=1):Nat)):(lowGo M wid k).2=wid:=by
 have key:∀k:Nat,(lowGo M wid k).2=min wid (((List.range k).countP fun n:Nat=>decide (aU M n=1):Nat):Int):=fun k=>by
  induction k with
  |zero=>simp[lowGo];omega
  |succ k ih=>
   rw[jX];unfold lowGo;by_cases h1:aU M k=1
   ·simp only[h1,decide_true,if_true,and_true];split
    ·show(lowGo M wid k).2+1=_;omega
    ·omega
   ·simp only[h1,decide_false,and_false,if_false];rw[ih];simp
 rw[key];omega
theorem jO {n:Nat}(hn:n<M.dr.length):aU M n=1↔holderL M.L n<0∧M.dr.getD n false=false:=by
 unfold aU;rw[qai (by omega)];simp only[Int.toNat_natCast];by_cases h:0≤holderL M.L n
 ·rw[qaj h];constructor
  ·intro h1;split at h1<;>omega
  ·intro h1;omega
 ·rw[qai h];by_cases hb:M.dr.getD n false=true
  ·rw[qaj hb];constructor
   ·intro h1;omega
   ·intro h1;rw[hb]at h1;exact absurd h1.2 (by decide)
  ·rw[qai hb];exact⟨fun _=>⟨by omega,by
    cases e:M.dr.getD n false with
    |false=>rfl
    |true=>exact absurd e hb⟩,fun _=>rfl⟩
theorem xw (f g s:Nat→Bool)(b:Bool)(N:Nat)(h1:∀n,n<N→s n=true→g n=true∧f n=b)(h2:∀n,n<N→s n=false→f n=g n):
 (((List.range N).countP f:Nat):Int)=((List.range N).countP g:Nat)-(if b=true then 0 else((List.range N).countP s:Nat)):=by
 induction N with
 |zero=>simp
 |succ N ih=>
  have ih:=ih (fun n hn=>h1 n (by omega)) (fun n hn=>h2 n (by omega));rw[jX,jX,jX];cases hs:s N with
  |true=>
   obtain⟨e1,e2⟩:=h1 N (by omega) hs;rw[e1,e2];cases b<;>simp at ih⊢ <;>omega
  |false=>
   rw[h2 N (by omega) hs];cases b<;>simp at ih⊢ <;>omega
theorem rz {i:Nat}(hi:i<M.L.length)(hst:(M.L.getD i default).st≠3)(t but:Int):
 ax (aX M i) t but=ax M t but+dM t but (M.L.getD i default)-(if t<M.now+(M.L.getD i default).lim then(lowGo M (M.L.getD i default).wid M.dr.length).2 else 0):=by
 generalize hx:M.L.getD i default=x at*;have hy:(fC M x).st=3:=rfl;have hs:∀n,cZ (iM M x.wid) n=true→n<M.dr.length∧holderL M.L n<0∧M.dr.getD n false=false:=fun n h=>by
  obtain⟨h1,h2⟩:=oL M x.wid M.dr.length n h;exact⟨h1,(jO h1).1 h2⟩
 have Bj:∀n,aI n (fC M x)=cZ (iM M x.wid) n:=fun n=>by
  unfold aI;rw[hy];show(decide ((3:Int)=3)&&cZ ((iM M x.wid:Nat):Int).toNat n)=_;simp
 have hxh:∀n,aI n x=false:=fun n=>by unfold aI;simp[hst]
 have hold:∀n,holderL (M.L.set i (fC M x)) n=if cZ (iM M x.wid) n=true then(i:Int)else holderL M.L n:=fun n=>by
  split
  ·rename_i h
   have hneg:=je.1 (hs n h).2.1;rcases fG (M.L.set i (fC M x)) n with h1|⟨q,h1,hq,h2⟩
   ·have:=je.1 h1 (fC M x) (List.mem_set hi _);rw[Bj,h]at this;cases this
   ·rw[gF]at h2;split at h2
    ·rename_i e;rw[h1,e.1]
    ·have hq':q<M.L.length:=by simpa using hq
     have:=hneg (M.L.getD q default) (by simp[List.getD,hq']);rw[h2]at this;cases this
  ·rename_i h
   refine jB hi ?_;rw[hx,Bj,hxh];simpa using h
 have VB:∀n,n<M.dr.length→cZ (iM M x.wid) n=true→bP M t n=true∧bP (aX M i) t n=decide (M.now+x.lim≤t):=fun n hn h=>by
  obtain⟨h1,h2,h3⟩:=hs n h;refine⟨by unfold bP;rw[h3];simp[h2],?_⟩;unfold bP aX;simp only[hx];rw[hold,qaj h,h3,Int.toNat_natCast,gF,qaj ⟨rfl,hi⟩];have:¬(i:Int)<0:=by omega
  simp only[this,decide_false,Bool.false_or,Bool.not_false,Bool.true_and];rfl
 have hsame:∀n,n<M.dr.length→cZ (iM M x.wid) n=false→bP (aX M i) t n=bP M t n:=fun n hn h=>by
  have h':¬cZ (iM M x.wid) n=true:=by simp[h]
  unfold bP aX;simp only[hx];rw[hold,qai h',gF];split
  ·rename_i e
   rcases fG M.L n with g1|⟨q,g1,hq,g2⟩
   ·simp[g1]
   ·rw[g1,Int.toNat_natCast]at e;rw[←e.1,hx,hxh]at g2;cases g2
  ·rfl
 have hcount:=xw (bP (aX M i) t) (bP M t) (cZ (iM M x.wid)) (decide (M.now+x.lim≤t)) M.dr.length VB hsame;have hlc:=xu M x.wid M.dr.length M.dr.length (qaf _);have hfn:aM (aX M i) t M.dr.length=aM M t M.dr.length-(if t<M.now+x.lim then(lowGo M x.wid M.dr.length).2 else 0):=by
  unfold aM;rw[hcount,←hlc];unfold iM;by_cases h:M.now+x.lim≤t
  ·rw[qaj (qag h),qai (by omega)];simp
  ·rw[qai (by simp[h]),qaj (by omega)]
 have htk:bT (M.L.set i (fC M x)) t but=bT M.L t but-dM t but x:=by
  rw[nu hi,hx,dN (j:=fC M x) (by unfold aj;rw[hy];rfl)];omega
 show aM (aX M i) t M.dr.length-bT (M.L.set i (fC M (M.L.getD i default))) t but=aM M t M.dr.length-bT M.L t but+dM t but x-_;rw[hx,htk,hfn];omega
theorem rA {i:Nat}{y:Jb}(hd:xn M.L)(hi:i<M.L.length)(hst:(M.L.getD i default).st=3)(hy:y.st≠3)(hyp:aj y=false)(t but:Int):
 ax {M with L:=M.L.set i y} t but=ax M t but+(if t<(M.L.getD i default).fin then((List.range M.dr.length).countP (fun n=>cZ (M.L.getD i default).bQ.toNat n&& !(M.dr.getD n false)):Nat)else 0):=by
 generalize hx:M.L.getD i default=x at*;have hxh:∀n,aI n x=cZ x.bQ.toNat n:=fun n=>by unfold aI;simp[hst]
 have Qs:∀n,aI n y=false:=fun n=>by unfold aI;simp[hy]
 have hold:∀n,holderL (M.L.set i y) n=if cZ x.bQ.toNat n=true then-1 else holderL M.L n:=fun n=>by
  split
  ·rename_i h
   rcases fG (M.L.set i y) n with h1|⟨q,h1,hq,h2⟩
   ·unfold holderL at h1⊢;cases h3:(M.L.set i y).findIdx? (aI n)with
    |none=>rfl
    |some q=>rw[h3]at h1;simp only at h1;omega
   ·rw[gF]at h2;have hq':q<M.L.length:=by simpa using hq
    split at h2
    ·rw[Qs]at h2;cases h2
    ·rename_i e
     exact absurd (hd i q n hi hq' (by rw[hx,hxh];exact h) h2) (fun e2=>e ⟨e2,hi⟩)
  ·rename_i h
   exact jB hi (by rw[hx,Qs,hxh];simpa using h)
 have hS:∀n,n<M.dr.length→(cZ x.bQ.toNat n&& !(M.dr.getD n false))=true→bP {M with L:=M.L.set i y} t n=true∧bP M t n=decide (x.fin≤t):=fun n hn h=>by
  simp only[Bool.and_eq_true,Bool.not_eq_true']at h;constructor
  ·unfold bP;simp only;rw[hold,qaj h.1,h.2];rfl
  ·unfold bP;rw[vJ hd hi (by rw[hx,hxh];exact h.1),Int.toNat_natCast,hx,h.2];have:¬(i:Int)<0:=by omega
   simp[this]
 have hT:∀n,n<M.dr.length→(cZ x.bQ.toNat n&& !(M.dr.getD n false))=false→bP M t n=bP {M with L:=M.L.set i y} t n:=fun n hn h=>by
  unfold bP;simp only;rw[hold];by_cases h1:cZ x.bQ.toNat n=true
  ·rw[h1,Bool.true_and]at h;have h2:M.dr.getD n false=true:=by simpa using h
   rw[h2];rfl
  ·rw[qai h1,gF];split
   ·rename_i e
    rcases fG M.L n with g1|⟨q,g1,hq,g2⟩
    ·simp[g1]
    ·rw[g1,Int.toNat_natCast]at e;rw[←e.1,hx,hxh]at g2;exact absurd g2 h1
   ·rfl
 have hcount:=xw (bP M t) (bP {M with L:=M.L.set i y} t) (fun n=>cZ x.bQ.toNat n&& !(M.dr.getD n false)) (decide (x.fin≤t)) M.dr.length hS hT;have htk:bT (M.L.set i y) t but=bT M.L t but:=by
  have hxp:aj x=false:=by unfold aj;simp[hst]
  rw[nu hi,hx,dN hyp,dN hxp];omega
 show aM {M with L:=M.L.set i y} t M.dr.length-bT (M.L.set i y) t but=aM M t M.dr.length-bT M.L t but+_;rw[htk];unfold aM;by_cases h:x.fin≤t
 ·rw[qaj (qag h)]at hcount;rw[qai (by omega)];omega
 ·rw[qai (by simp[h])]at hcount;rw[qaj (by omega)];omega
end
end Go.Proofs.YtaimcpmcndapcaaGreat
