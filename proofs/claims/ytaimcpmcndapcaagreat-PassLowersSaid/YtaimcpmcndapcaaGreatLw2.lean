/-
 Own words and walks, merged: part 2 of 8.
-/
import Derived.Test.YtaimcpmcndapcaaGreatChecked
import Derived.WalkKit
import Derived.WalkSpells
import Derived.WalkLawsBesides
import Derived.Deep.DeepMust
import Derived.Lib.Hide
import Derived.LaidEql
import Derived.Laws.StructEq
import Derived.Shelf.SlicesQ.Load
import Derived.Sort.Grow
import Derived.Deep.RegionWith
import Derived.StillTailTactics
import Derived.Sort.LotA
import Derived.Sort.WalkA
import Derived.Shelf.SlSortCmp.QuietGrown
import Derived.Deep.QuietTactic
import Derived.BigQuiet
import Derived.BigRegion
import Derived.Shelf.SlSortCmp.InsertionK
import Derived.Test.YtaimcpmcndapcaaGreatLw1
set_option maxRecDepth 1000000
set_option maxHeartbeats 8000000
set_option linter.all false
namespace Go.Proofs.YtaimcpmcndapcaaGreat
open Go.Proofs.Tryz
structure aG (M : Md) : Prop where
 mb:MB M
 ids:∀i,i<M.L.length→(M.L.getD i default).id=(i:Int)+1
 one:∀j∈M.L,1≤j.wid∧j.wid≤M.dr.length∧1≤j.lim∧1≤j.st∧j.st≤6
 rest:∀j∈M.L,j.st≠1→j.aJ= -1
 runs:∀j∈M.L,j.st=3→M.now≤j.fin∧(((List.range M.dr.length).countP (cZ j.bQ.toNat):Nat):Int)=j.wid∧j.bQ.toNat<2^M.dr.length
 plan:∀j∈M.L,j.aJ= -1∨M.now≤j.aJ
 lu:xn M.L
 free:∀t,M.now≤t→0≤ax M t 0
structure Calm (M : Md) : Prop where
 runs:∀j∈M.L,j.st=3→M.now<j.fin
 plan:∀j∈M.L,j.aJ= -1∨M.now<j.aJ
theorem iI {t but:Int}{j:Jb}(h:0≤j.wid):0≤dM t but j:=by
 unfold dM;split<;>omega
theorem xn.set {L:List Jb}{i:Nat}{y:Jb}(hd:xn L)(hi:i<L.length)(h:∀n,aI n y=true→aI n (L.getD i default)=true∨holderL L n<0):xn (L.set i y):=by
 intro a b n ha hb h1 h2;have ha':a<L.length:=by simpa using ha
 have hb':b<L.length:=by simpa using hb
 rw[gF]at h1 h2;have other:∀q,q<L.length→aI n y=true→aI n (L.getD q default)=true→i=q:=fun q hq hy hq2=>by
  rcases h n hy with h3|h3
  ·exact hd i q n hi hq h3 hq2
  ·have:=je.1 h3 (L.getD q default) (by simp[List.getD,hq]);rw[hq2]at this;cases this
 split at h1
 ·rename_i e1
  split at h2
  ·rename_i e2;omega
  ·exact e1.1.symm.trans (other b hb' h1 h2)
 ·split at h2
  ·rename_i e2;exact(other a ha' h2 h1).symm.trans e2.1
  ·exact hd a b n ha' hb' h1 h2
theorem aZ {L:List Jb}{i:Nat}(hi:i<L.length):L.getD i default∈L:=by simp[List.getD,hi]
section
variable {M : Md}
theorem aG.set (h:aG M){i:Nat}{y:Jb}(hmb:MB {M with L:=M.L.set i y})(hid:y.id=(M.L.getD i default).id)
 (h1:1≤y.wid∧y.wid≤M.dr.length∧1≤y.lim∧1≤y.st∧y.st≤6) (h2:y.st≠1→y.aJ= -1)
 (h3:y.st=3→M.now≤y.fin∧(((List.range M.dr.length).countP (cZ y.bQ.toNat):Nat):Int)=y.wid∧y.bQ.toNat<2^M.dr.length)
 (h4:y.aJ= -1∨M.now≤y.aJ) (hd:xn (M.L.set i y)) (hf:∀t,M.now≤t→0≤ax {M with L:=M.L.set i y} t 0):aG {M with L:=M.L.set i y}:=by
 have H:∀{P:Jb→Prop},(∀j∈M.L,P j)→P y→∀j∈M.L.set i y,P j:=fun h hx j hj=>by
  rcases List.mem_or_eq_of_mem_set hj with h1|rfl
  ·exact h j h1
  ·exact hx
 refine⟨hmb,fun q hq=>?_,H h.one h1,H h.rest h2,H h.runs h3,H h.plan h4,hd,hf⟩;have hq':q<M.L.length:=by simpa using hq
 show((M.L.set i y).getD q default).id=_;rw[gF];split
 ·rename_i e;rw[hid,e.1];exact h.ids q hq'
 ·exact h.ids q hq'
theorem Calm.set (h:Calm M){i:Nat}{y:Jb}(h1:y.st=3→M.now<y.fin)(h2:y.aJ= -1∨M.now<y.aJ):Calm {M with L:=M.L.set i y}:=by
 have H:∀{P:Jb→Prop},(∀j∈M.L,P j)→P y→∀j∈M.L.set i y,P j:=fun h hx j hj=>by
  rcases List.mem_or_eq_of_mem_set hj with h1|rfl
  ·exact h j h1
  ·exact hx
 exact⟨H h.runs h1,H h.plan h2⟩
theorem Bl {x y:Jb}(h1:(y.st=3)↔(x.st=3))(h2:y.bQ=x.bQ)(L:List Jb):∀n,aI n y=true→aI n x=true∨holderL L n<0:=fun n h=>.inl (by rw[←holds_of h1 h2];exact h)
theorem aG.xy (h:aG M){i:Nat}(hi:i<M.L.length):aG {M with L:=M.L.set i ((M.L.getD i default).aH (-1))}:=by
 have hm:=aZ hi;have bw:=h.mb.wid _ hm;have bl:=h.mb.lim _ hm;have bf:=h.mb.fin _ hm;have bn:=h.mb.bQ _ hm;have bo:=h.one _ hm;have br:=h.runs _ hm;refine h.set (h.mb.set _ _ bw bl (by show(-1:Int)≤-1∧(-1:Int)≤_;omega) bf bn) rfl bo (fun _=>rfl) br (.inl rfl) (h.lu.set hi (Bl Iff.rfl rfl _)) fun t ht=>?_;rw[iW hi];have h1:=h.free t ht;have h2:=iI (t:=t) (but:=0) bw.1;rw[dN (j:=(M.L.getD i default).aH (-1)) (by unfold aj;simp[Jb.aH,Jb.aJ])];omega
theorem aG.TJ (h:aG M)(j:Jb)(i:Nat)(hi:i≤M.L.length):aG {M with L:=eO (gN j) M.L i}:=by
 induction i with
 |zero=>exact h
 |succ i ih=>
  have ih:=ih (by omega);have hl:i<(eO (gN j) M.L i).length:=by rw[oH];omega
  have ha:=qz (f:=gN j) (L:=M.L) (i:=i) (by omega);rw[←jd (f:=gN j) (L:=M.L) (i:=i) (by omega)];by_cases hp:(aj (M.L.getD i default)&&(decide (j.id=0)||aP j (M.L.getD i default)))=true
  ·have e:gN j (M.L.getD i default)=(M.L.getD i default).aH (-1):=by unfold gN;rw[qaj hp]
   have:=ih.xy hl;simp only[ha]at this;rw[e];exact this
  ·have e:gN j (M.L.getD i default)=M.L.getD i default:=by unfold gN;rw[qai hp]
   rw[jd (by omega),←nk (by omega) e];exact ih
theorem aG.drop (h:aG M)(j:Jb):aG (fB M j):=by
 have:=h.TJ j M.L.length (qaf _);rw[rq]at this;exact this
theorem Calm.drop (h:Calm M)(j:Jb):Calm (fB M j):=by
 refine⟨fun x hx=>?_,fun x hx=>?_⟩
 ·obtain⟨y,hy,rfl⟩:=List.mem_map.1 hx;unfold gN;split
  ·exact h.runs y hy
  ·exact h.runs y hy
 ·obtain⟨y,hy,rfl⟩:=List.mem_map.1 hx;unfold gN;split
  ·exact .inl rfl
  ·exact h.plan y hy
theorem xz (L:List Jb)(x:Jb)(n:Nat)(hx:aI n x=false):holderL (L++[x]) n=holderL L n:=by
 unfold holderL;rw[List.findIdx?_append];have: [x].findIdx? (aI n)=none:=by rw[List.findIdx?_eq_none_iff];intro y hy;rw[List.mem_singleton]at hy;subst hy;exact hx
 rw[this];cases L.findIdx? (aI n)<;>rfl
theorem uQ {L:List Jb}{x:Jb}{q:Nat}(hq:q<L.length):(L++[x]).getD q default=L.getD q default:=by
 simp only[List.getD];rw[List.getElem?_append_left hq]
theorem Bn (x:Jb)(h1:x.st≠3)(h2:aj x=false)(t but:Int):ax {M with L:=M.L++[x]} t but=ax M t but:=by
 have hx:∀n,aI n x=false:=fun n=>by unfold aI;simp[h1]
 have hn:∀k,bP {M with L:=M.L++[x]} t k=bP M t k:=fun k=>by
  unfold bP;simp only;rw[xz _ _ _ (hx k)];rcases fG M.L k with g|⟨q,g,hq,_⟩
  ·simp[g]
  ·rw[g,Int.toNat_natCast,uQ hq]
 have e:aM {M with L:=M.L++[x]} t M.dr.length=aM M t M.dr.length:=by
  unfold aM;congr 2;exact funext fun k=>hn k
 show aM {M with L:=M.L++[x]} t M.dr.length-bT (M.L++[x]) t but=aM M t M.dr.length-bT M.L t but;rw[e,iV,iV,List.map_append,List.sum_append];simp[dN h2]
theorem aG.app (h:aG M)(x:Jb)(hmb:MB {M with L:=M.L++[x]})(hid:x.id=(M.L.length:Int)+1)(h1:1≤x.wid∧x.wid≤M.dr.length∧1≤x.lim∧1≤x.st∧x.st≤6)(h2:x.aJ= -1)(h3:x.st≠3):aG {M with L:=M.L++[x]}:=by
 have H:∀{P:Jb→Prop},(∀j∈M.L,P j)→P x→∀j∈M.L++[x],P j:=fun h hx j hj=>by
  rcases List.mem_append.1 hj with h1|h1
  ·exact h j h1
  ·rw[List.mem_singleton]at h1;subst h1;exact hx
 have hx:∀n,aI n x=false:=fun n=>by unfold aI;simp[h3]
 have hlast:(M.L++[x]).getD M.L.length default=x:=by simp[List.getD]
 refine⟨hmb,fun q hq=>?_,H h.one h1,H h.rest fun _=>h2,H h.runs fun e=>absurd e h3,H h.plan (.inl h2),fun a b n ha hb k1 k2=>?_,fun t ht=>?_⟩
 ·show((M.L++[x]).getD q default).id=_;rcases Nat.lt_or_ge q M.L.length with g|g
  ·rw[uQ g];exact h.ids q g
  ·have:q=M.L.length:=by have:q<(M.L++[x]).length:=hq;simp at this;omega
   subst this;rw[hlast,hid]
 ·have at':∀q,q<(M.L++[x]).length→aI n ((M.L++[x]).getD q default)=true→q<M.L.length:=fun q hq k=>by
   rcases Nat.lt_or_ge q M.L.length with g|g
   ·exact g
   ·have:q=M.L.length:=by simp at hq;omega
    subst this;rw[hlast,hx]at k;cases k
  have a1:=at' a ha k1;have b1:=at' b hb k2;rw[uQ a1]at k1;rw[uQ b1]at k2;exact h.lu a b n a1 b1 k1 k2
 ·rw[Bn x h3 (by unfold aj;simp[h2])];exact h.free t ht
theorem Calm.app (h:Calm M)(x:Jb)(h2:x.aJ= -1)(h3:x.st≠3):Calm {M with L:=M.L++[x]}:=by
 have H:∀{P:Jb→Prop},(∀j∈M.L,P j)→P x→∀j∈M.L++[x],P j:=fun h hx j hj=>by
  rcases List.mem_append.1 hj with h1|h1
  ·exact h j h1
  ·rw[List.mem_singleton]at h1;subst h1;exact hx
 exact⟨H h.runs fun e=>absurd e h3,H h.plan (.inl h2)⟩
end
section
variable {M : Md}
theorem aG.TK (h:aG M)(hc:Calm M)(r:Rw):aG (jL M r).2∧Calm (jL M r).2:=by
 have hn:=h.mb.nn;unfold jL;split
 ·exact⟨h,hc⟩
 ·rename_i hE
  have e:iy M r=0:=by omega
  unfold iy at e;split at e
  ·omega
  split at e
  ·omega
  split at e
  ·omega
  split at e
  ·omega
  rename_i h2 h3 h4 h5
  have hst:(dC M r).st=if r.held then 2 else 1:=rfl
  have xG:1≤(dC M r).st∧(dC M r).st≤2:=by rw[hst];split<;>omega
  have hmb:MB {M with L:=M.L++[dC M r]}:=h.mb.app _ (by omega) (by show 0≤r.wid∧r.wid≤64;omega) (by show 0≤r.lim∧r.lim≤1048576;omega) (by show(-1:Int)≤-1∧(-1:Int)≤_;omega) (by show(-1:Int)≤-1∧(-1:Int)≤_;omega) (by show(0:Int)≤0∧(0:Int)≤_;omega);have ha:=h.app (dC M r) hmb rfl ⟨show 1≤r.wid by omega,show r.wid≤_ by omega,show 1≤r.lim by omega,xG.1,by omega⟩ rfl (by omega);have WR:=hc.app (dC M r) rfl (by omega);split
  ·exact⟨ha,WR⟩
  ·exact⟨ha.drop _,WR.drop _⟩
theorem mX (h:aG M){i:Nat}{y:Jb}(hi:i<M.L.length)(h1:(y.st=3)↔((M.L.getD i default).st=3))(h2:y.bQ=(M.L.getD i default).bQ)(h3:y.fin=(M.L.getD i default).fin)(hp:aj y=false)(t:Int)(ht:M.now≤t):0≤ax {M with L:=M.L.set i y} t 0:=by
 have a1:=h.free t ht;have a2:=iI (t:=t) (but:=0) (h.mb.wid _ (aZ hi)).1;rw[ru hi h1 h2 h3,dN hp];omega
theorem aG.M8 (h:aG M)(hc:Calm M)(r:Rw):aG (ma M r).2∧Calm (ma M r).2:=by
 have nM:=h.mb.M8 r;have kg:=h.mb.now;unfold ma at nM⊢;simp only at nM⊢;split
 ·exact⟨h,hc⟩
 rename_i h1
 rw[qai h1]at nM;split
 ·exact⟨h,hc⟩
 rename_i h2
 rw[qai h2]at nM;obtain⟨hm,hi,he,_⟩:=kP (by simpa using h1);simp only at nM⊢;generalize hx:(getM M r.id).1=x at*;have bo:=h.one _ hm;have hy3:(iN M r.kind x).st≠3:=by
  have:(iN M r.kind x).st=if r.kind=5 then 4 else 5:=rfl
  rw[this];split<;>omega
 have hy1:1≤(iN M r.kind x).st∧(iN M r.kind x).st≤6:=by
  have:(iN M r.kind x).st=if r.kind=5 then 4 else 5:=rfl
  rw[this];split<;>omega
 have hyp:(iN M r.kind x).aJ= -1:=rfl;have UT:aj (iN M r.kind x)=false:=by unfold aj;rw[hyp];simp
 have Qt:(iN M r.kind x).wid=x.wid:=by unfold iN;split<;>rfl
 have hlim:(iN M r.kind x).lim=x.lim:=by unfold iN;split<;>rfl
 have hid:(iN M r.kind x).id=x.id:=by unfold iN;split<;>rfl
 have M9:(iN M r.kind x).bQ=x.bQ:=by unfold iN;split<;>rfl
 have hno:∀n,aI n (iN M r.kind x)=false:=fun n=>by unfold aI;simp[hy3]
 refine⟨h.set nM (by rw[hid,he]) (by rw[Qt,hlim];exact⟨bo.1,bo.2.1,bo.2.2.1,hy1⟩) (fun _=>hyp) (fun e=>absurd e hy3) (.inl hyp) (h.lu.set hi fun n e=>by rw[hno]at e;cases e) fun t ht=>?_,hc.set (fun e=>absurd e hy3) (.inl hyp)⟩;by_cases hs:x.st=3
 ·have:=rA (y:=iN M r.kind x) h.lu hi (by rw[←he];exact hs) hy3 UT t 0;rw[this];have a1:=h.free t ht;split<;>omega
 ·refine mX h hi (by rw[←he];exact⟨fun e=>absurd e hy3,fun e=>absurd e hs⟩) (by rw[M9,he]) ?_ UT t ht;rw[←he];unfold iN;rw[qai hs];rfl
theorem aG.FH (h:aG M)(hc:Calm M)(r:Rw):aG (fZ M r).2∧Calm (fZ M r).2:=by
 have nM:=h.mb.FH r;unfold fZ at nM⊢;simp only at nM⊢;split
 ·exact⟨h,hc⟩
 rename_i h1
 rw[qai h1]at nM;split
 ·exact⟨h,hc⟩
 rename_i h2
 rw[qai h2]at nM;obtain⟨hm,hi,he,_⟩:=kP (by simpa using h1);generalize hx:(getM M r.id).1=x at*;have bo:=h.one _ hm;have bw:=h.mb.wid _ hm;have bl:=h.mb.lim _ hm;have bf:=h.mb.fin _ hm;have bn:=h.mb.bQ _ hm;by_cases k4:r.kind=4
 ·rw[qaj k4];have hs:x.st=2:=by
   by_cases e:x.st=2
   ·exact e
   ·exact absurd (.inr ⟨k4,e⟩) h2
  have hj:fD r.kind x=x.setSt 1:=by unfold fD;rw[qai (by omega),qaj k4]
  rw[hj];have hp:x.aJ= -1:=h.rest _ hm (by omega);have hpl:aj (x.setSt 1)=false:=by unfold aj;simp[show(x.setSt 1).aJ= -1 from hp]
  have a:=h.set (i:=(r.id-1).toNat) (y:=x.setSt 1) (h.mb.set _ _ bw bl (by show-1≤x.aJ∧x.aJ≤_;omega) bf bn) (by rw[he];rfl) ⟨bo.1,bo.2.1,bo.2.2.1,(show(1:Int)≤1 by omega),(show(1:Int)≤6 by omega)⟩ (fun _=>hp) (fun e=>absurd (show(1:Int)=3 from e) (by decide)) (.inl hp) (h.lu.set hi fun n e=>by unfold aI at e;simp[Jb.setSt,Jb.st]at e) fun t ht=>mX h hi (by rw[←he];exact⟨fun e=>absurd (show(1:Int)=3 from e) (by decide),fun e=>by omega⟩) (by rw[←he];rfl) (by rw[←he];rfl) hpl t ht;have b:=hc.set (i:=(r.id-1).toNat) (y:=x.setSt 1) (fun e=>absurd (show(1:Int)=3 from e) (by decide)) (.inl hp);exact⟨a.drop _,b.drop _⟩
 ·rw[qai k4];by_cases k3:r.kind=3
  ·have hs:x.st=1:=by
    by_cases e:x.st=1
    ·exact e
    ·exact absurd (.inl ⟨k3,e⟩) h2
   have hj:fD r.kind x=(x.setSt 2).aH (-1):=by unfold fD;rw[qaj k3]
   rw[hj];have hpl:aj ((x.setSt 2).aH (-1))=false:=by unfold aj;simp[show((x.setSt 2).aH (-1)).aJ= -1 from rfl]
   refine⟨h.set (h.mb.set _ _ bw bl (by show(-1:Int)≤-1∧(-1:Int)≤_;omega) bf bn) (by rw[he];rfl) ⟨bo.1,bo.2.1,bo.2.2.1,(show(1:Int)≤2 by omega),(show(2:Int)≤6 by omega)⟩ (fun _=>rfl) (fun e=>absurd (show(2:Int)=3 from e) (by decide)) (.inl rfl) (h.lu.set hi fun n e=>by unfold aI at e;simp[Jb.setSt,Jb.aH,Jb.st]at e) fun t ht=>mX h hi (by rw[←he];exact⟨fun e=>absurd (show(2:Int)=3 from e) (by decide),fun e=>by omega⟩) (by rw[←he];rfl) (by rw[←he];rfl) hpl t ht,hc.set (fun e=>absurd (show(2:Int)=3 from e) (by decide)) (.inl rfl)⟩
  ·have hj:fD r.kind x=x:=by unfold fD;rw[qai k3,qai k4]
   rw[hj];have:M.L.set (r.id-1).toNat x=M.L:=by
    rw[he];simp only[List.getD,List.getElem?_eq_getElem hi,Option.getD_some,List.set_getElem_self]
   rw[this];exact⟨h,hc⟩
theorem aG.FI (h:aG M)(hc:Calm M){n:Nat}(hn:n<M.dr.length)(b:Bool)(hb:M.dr.getD n false= !b):aG (fI M n b)∧Calm (fI M n b):=by
 have hmb:=h.mb.FI n b;unfold fI at hmb⊢;split
 ·rename_i hbt
  rw[qaj hbt]at hmb;have hd:=h.drop kY;have hcd:=hc.drop kY;have hnone:∀j∈(fB M kY).L,aj j=false:=fun j hj=>by
   obtain⟨x,_,rfl⟩:=List.mem_map.1 hj;unfold gN;split
   ·unfold aj;simp[Jb.aH,Jb.aJ]
   ·rename_i e
    simp only[show decide (kY.id=0)=true from rfl,Bool.true_or,Bool.and_true]at e;simpa using e
  refine⟨⟨hmb,hd.ids,fun j hj=>?_,hd.rest,fun j hj hs=>?_,hd.plan,hd.lu,fun t ht=>?_⟩,⟨hcd.runs,hcd.plan⟩⟩
  ·have:=hd.one j hj;show 1≤j.wid∧j.wid≤(M.dr.set n true).length∧_;rw[List.length_set];exact this
  ·have:=hd.runs j hj hs;show M.now≤j.fin∧(((List.range (M.dr.set n true).length).countP (cZ j.bQ.toNat):Nat):Int)=j.wid∧j.bQ.toNat<2^(M.dr.set n true).length;rw[List.length_set];exact this
  ·have hz:bT (fB M kY).L t 0=0:=by
    rw[iV];have:∀L:List Jb,(∀j∈L,aj j=false)→(L.map (dM t 0)).sum=0:=fun L=>by
     induction L with
     |nil=>intro _;rfl
     |cons a L ih=>
      intro hl;rw[List.map_cons,List.sum_cons,ih fun j hj=>hl j (List.mem_cons_of_mem _ hj),dN (hl a List.mem_cons_self)];rfl
    exact this _ hnone
   have h0:=(jU {fB M kY with dr:=M.dr.set n true} t (M.dr.set n true).length).1;show 0≤aM {fB M kY with dr:=M.dr.set n true} t (M.dr.set n true).length-bT (fB M kY).L t 0;omega
 ·rename_i hbt
  rw[qai hbt]at hmb;have hbf:b=false:=by simpa using hbt
  subst hbf;refine⟨⟨hmb,h.ids,fun j hj=>?_,h.rest,fun j hj hs=>?_,h.plan,h.lu,fun t ht=>?_⟩,⟨hc.runs,hc.plan⟩⟩
  ·have:=h.one j hj;show 1≤j.wid∧j.wid≤(M.dr.set n false).length∧_;rw[List.length_set];exact this
  ·have:=h.runs j hj hs;show M.now≤j.fin∧(((List.range (M.dr.set n false).length).countP (cZ j.bQ.toNat):Nat):Int)=j.wid∧j.bQ.toNat<2^(M.dr.set n false).length;rw[List.length_set];exact this
  ·have a1:=h.free t ht;rw[xq hn];have:bP M t n=false:=by unfold bP;rw[hb];rfl
   rw[this];simp only[Bool.false_eq_true,if_false];split<;>omega
theorem aG.Ky (h:aG M)(hc:Calm M)(r:Rw):aG (ik M r).2∧Calm (ik M r).2:=by
 unfold ik;split
 ·exact⟨h,hc⟩
 split
 ·exact⟨h,hc⟩
 ·rename_i h1 h2
  refine h.FI hc (by omega) _ ?_;cases e:M.dr.getD r.node.toNat false<;>cases e2:decide (r.kind=7)<;>rw[e,e2]at h2<;>first|rfl|exact absurd rfl h2
theorem WJ (hc:Calm M):aM M M.now M.dr.length=(((List.range M.dr.length).countP fun n:Nat=>decide (aU M n=1):Nat):Int):=by
 unfold aM;congr 1;refine List.countP_congr fun n hn=>?_;have hn:=List.mem_range.1 hn;have hs:=jO (M:=M) hn;unfold bP;rcases fG M.L n with g|⟨q,g,hq,g2⟩
 ·rw[decide_eq_true_iff,hs];simp[g]
 ·have hrun:(M.L.getD q default).st=3:=by unfold aI at g2;simp at g2;exact g2.1
  have:=hc.runs _ (aZ hq) hrun;rw[decide_eq_true_iff,hs,g,Int.toNat_natCast];have e1:¬((q:Int)<0):=by omega
  have e2:decide ((M.L.getD q default).fin≤M.now)=false:=qah (by omega);rw[e2,qah e1,Bool.or_false,Bool.and_false];exact⟨fun e=>(nomatch e),fun e=>absurd e.1 e1⟩
theorem vY {L:List Jb}(h:∀j∈L,0≤j.wid)(t but:Int){x:Jb}(hx:x∈L):dM t but x≤bT L t but:=by
 rw[iV]
 induction L with
 |nil=>cases hx
 |cons a L ih=>
  have h0:∀l:List Jb,(∀j∈l,0≤j.wid)→0≤(l.map (dM t but)).sum:=fun l=>by
   induction l with
   |nil=>intro _;simp
   |cons b l ih2=>
    intro hl;rw[List.map_cons,List.sum_cons];have:=iI (t:=t) (but:=but) (hl b List.mem_cons_self);have:=ih2 fun j hj=>hl j (List.mem_cons_of_mem _ hj);omega
  rw[List.map_cons,List.sum_cons];rcases List.mem_cons.1 hx with rfl|hx
  ·have:=h0 L fun j hj=>h j (List.mem_cons_of_mem _ hj);omega
  ·have:=ih (fun j hj=>h j (List.mem_cons_of_mem _ hj)) hx;have:=iI (t:=t) (but:=but) (h a List.mem_cons_self);omega
theorem yC (h0:0≤M.now){at' long width but:Int}(hat:M.now≤at')(h:yx M at' long width but=true)(t:Int)(h1:at'≤t)(h2:t<at'+long):width≤ax M t but:=by
 unfold yx at h;rw[Bool.and_eq_true,decide_eq_true_iff,List.all_eq_true]at h;obtain⟨ha,hall⟩:=h;obtain⟨k,rfl⟩:∃k:Nat,t=at'+k:=⟨(t-at').toNat,by omega⟩;clear h1
 induction k with
 |zero=>simpa using ha
 |succ k ih=>
  have ih:=ih (by omega);by_cases he:(at'+(k+1:Nat):Int)∈p8 M.L
  ·have hm:=(sZ h0 (at'+(k+1:Nat))).2 (.inr ⟨by omega,he⟩);have:=hall _ hm;have e1:decide (at'<at'+((k+1:Nat):Int))=true:=qag (by omega);have e2:decide (at'+((k+1:Nat):Int)<at'+long)=true:=qag h2;rw[e1,e2]at this;simp only[Bool.true_and,Bool.not_eq_true',decide_eq_false_iff_not]at this;omega
  ·rw[Bf (a:=at'+k) (by omega) (fun u hu hr=>he (by
    have:u=at'+((k+1:Nat):Int):=by omega
    rw[←this];exact hu))]
   exact ih
theorem aG.begin (h:aG M)(hrun:∀j∈M.L,j.st=3→M.now<j.fin){i:Nat}(hi:i<M.L.length)(hs:(M.L.getD i default).st=1)
 (hidle:(M.L.getD i default).wid≤aM M M.now M.dr.length) (hf:∀t,M.now≤t→t<M.now+(M.L.getD i default).lim→(M.L.getD i default).wid≤ax M t 0+dM t 0 (M.L.getD i default)):
 aG (aX M i)∧(lowGo M (M.L.getD i default).wid M.dr.length).2=(M.L.getD i default).wid:=by
 have hm:=aZ hi;have bo:=h.one _ hm;have hcount:aM M M.now M.dr.length=(((List.range M.dr.length).countP fun n:Nat=>decide (aU M n=1):Nat):Int):=by
  unfold aM;congr 1;refine List.countP_congr fun n hn=>?_;have hn:=List.mem_range.1 hn;have hs:=jO (M:=M) hn;unfold bP;rcases fG M.L n with g|⟨q,g,hq,g2⟩
  ·rw[decide_eq_true_iff,hs];simp[g]
  ·have hrun':(M.L.getD q default).st=3:=by unfold aI at g2;simp at g2;exact g2.1
   have:=hrun _ (aZ hq) hrun';rw[decide_eq_true_iff,hs,g,Int.toNat_natCast];have e1:¬((q:Int)<0):=by omega
   have e2:decide ((M.L.getD q default).fin≤M.now)=false:=qah (by omega);rw[e2,qah e1,Bool.or_false,Bool.and_false];exact⟨fun e=>(nomatch e),fun e=>absurd e.1 e1⟩
 have hfull:(lowGo M (M.L.getD i default).wid M.dr.length).2=(M.L.getD i default).wid:=HY M _ _ (by omega) (by rw[←hcount];exact hidle);refine⟨?_,hfull⟩;have hlc:=xu M (M.L.getD i default).wid M.dr.length M.dr.length (qaf _);have hll:=(og M (M.L.getD i default).wid M.dr.length).1;have Kz:(fC M (M.L.getD i default)).bQ.toNat=(lowGo M (M.L.getD i default).wid M.dr.length).1:=by
  show((iM M (M.L.getD i default).wid:Nat):Int).toNat=_;rw[Int.toNat_natCast];rfl
 refine h.set (y:=fC M (M.L.getD i default)) (h.mb.begin i hi) rfl ⟨bo.1,bo.2.1,bo.2.2.1,(show(1:Int)≤3 by omega),(show(3:Int)≤6 by omega)⟩ (fun _=>rfl) (fun _=>⟨?_,?_,?_⟩) (.inl rfl) (h.lu.set hi fun n e=>.inr ?_) fun t ht=>?_
 ·show M.now≤M.now+(M.L.getD i default).lim;omega
 ·rw[Kz,hlc,hfull];rfl
 ·rw[Kz];exact hll
 ·have e2:cZ (lowGo M (M.L.getD i default).wid M.dr.length).1 n=true:=by
   unfold aI at e;rw[Kz]at e;simp at e;exact e.2
  obtain⟨g1,g2⟩:=oL M _ _ _ e2;exact((jO g1).1 g2).1
 ·have a1:=h.free t ht;have a2:=iI (t:=t) (but:=0) (h.mb.wid _ hm).1;have:=rz hi (by omega) t 0;unfold aX at this;rw[this,hfull];split
  ·rename_i hlt
   have:=hf t ht hlt;omega
  ·omega
theorem aG.jq (h:aG M)(hc:Calm M)(id t:Int):aG (aL M id t).2∧Calm (aL M id t).2:=by
 have hn:=h.mb.now;have nM:=h.mb.jq id t;unfold aL at nM⊢;split
 ·rename_i hf
  rw[qaj hf]at nM;unfold eF at hf;simp only at hf;split at hf
  ·cases hf
  rename_i hq
  have hg:(getM M id).2=true:=by cases e:(getM M id).2<;>simp_all
  obtain⟨hm,hi,he,hid⟩:=kP hg;rw[he]at hm hq hf;have hs:(M.L.getD (id-1).toNat default).st=1:=by
   by_cases e:(M.L.getD (id-1).toNat default).st=1
   ·exact e
   ·exact absurd (.inr (.inr (.inl e))) hq
  have ht:M.now≤t∧t≤1099511627776:=by omega
  have bo:=h.one _ hm;have HZ:=h.ids _ hi;have hroom:=fun u=>yC hn.1 ht.1 hf u;rw[HZ]at hroom;have zA:=fun u=>mE hi h.ids u;split
  ·rename_i e
   subst e;have h0:=hroom M.now (Int.le_refl _) (by omega);have hfn:(M.L.getD (id-1).toNat default).wid≤aM M M.now M.dr.length:=by
    have ht0:=mW (L:=M.L) (fun j hj=>h.mb.wid j hj) M.now ((((id-1).toNat:Nat):Int)+1);unfold ax at h0;omega
   have hb:=h.begin hc.runs hi hs hfn fun u h1 h2=>by
    have:=hroom u h1 h2;rw[zA]at this;exact this
   refine⟨hb.1,hc.set (fun _=>?_) (.inl rfl)⟩;show M.now<M.now+(M.L.getD (id-1).toNat default).lim;omega
  ·rename_i e
   rw[qai e]at nM;refine⟨h.set nM rfl bo (fun e=>absurd hs e) (fun e=>by
    have:(M.L.getD (id-1).toNat default).st=3:=e;omega) (.inr ht.1) (h.lu.set hi (Bl Iff.rfl rfl _)) fun u hu=>?_,hc.set (fun e=>by
    have:(M.L.getD (id-1).toNat default).st=3:=e;omega) (.inr (show M.now<t by omega))⟩
   rw[iW hi];have a1:=h.free u hu;have a2:=iI (t:=u) (but:=0) (h.mb.wid _ hm).1;have hpl:aj ((M.L.getD (id-1).toNat default).aH t)=true:=by
    unfold aj;rw[Bool.and_eq_true];exact⟨qag hs,qag (show 0≤t by omega)⟩
   have hc2:=mD (t:=u) (but:=0) hpl (show(M.L.getD (id-1).toNat default).id≠0 by rw[HZ];omega);rw[hc2];show 0≤_+_-(if t≤u∧u<t+(M.L.getD (id-1).toNat default).lim then(M.L.getD (id-1).toNat default).wid else 0);split
   ·rename_i e2
    have:=hroom u e2.1 e2.2;rw[zA]at this;omega
   ·omega
 ·exact⟨h,hc⟩
end
def xH (j:Jb):List Int:=(if j.st=3 then[j.fin]else[])++(if aj j=true then[j.aJ]else[])
theorem FL {E:List Int}{last b:Int}(hl:0≤last)(h:jV E last b)(j:Jb):jV (E++xH j) last (Fg last b j):=by
 unfold Fg xH;by_cases h3:j.st=3<;>by_cases hp:aj j=true
 ·simp only[h3,hp,if_true];have:=gP (t:=j.aJ) hl (gP (t:=j.fin) hl h);simpa using this
 ·simp only[h3,hp,if_true];have:=gP (t:=j.fin) hl h;simpa[hp]using this
 ·simp only[h3,hp,if_true,if_false];have:=gP (t:=j.aJ) hl h;simpa using this
 ·simpa[h3,hp]using h
theorem Di {L:List Jb}{E:List Int}{last b:Int}(hl:0≤last)(h:jV E last b):jV (E++L.flatMap xH) last (L.foldl (Fg last) b):=by
 induction L generalizing E b with
 |nil=>simpa using h
 |cons a L ih=>
  have:=ih (FL hl h a);rw[List.foldl_cons,List.flatMap_cons];simpa using this
section
variable {M : Md}
theorem rC (h0:0≤M.now):jV (M.L.flatMap xH) M.now (aV M):=by
 have:=Di (L:=M.L) h0 (show jV [] M.now (-1)from .inl ⟨by decide,by simp⟩);rw[xD]at this;exact this
theorem FM {j:Jb}(hj:j∈M.L)(h:j.st=3):j.fin∈M.L.flatMap xH:=List.mem_flatMap.2 ⟨j,hj,by unfold xH;simp[h]⟩
theorem FN {j:Jb}(hj:j∈M.L)(h:aj j=true):j.aJ∈M.L.flatMap xH:=List.mem_flatMap.2 ⟨j,hj,by unfold xH;simp[h]⟩
theorem bu {j:Jb}:aj j=true↔j.st=1∧0≤j.aJ:=by unfold aj;simp
theorem aG.later (h:aG M)(t:Int)(h0:M.now≤t)(h1:t≤1099511627776)(hr:∀j∈M.L,j.st=3→t≤j.fin)(hp:∀j∈M.L,j.aJ= -1∨t≤j.aJ):aG {M with now:=t}:=
 ⟨h.mb.at t (by have:=h.mb.now;omega) h1,h.ids,h.one,h.rest,fun j hj hs=>⟨hr j hj hs,(h.runs j hj hs).2⟩,hp,h.lu,fun u hu=>h.free u (show M.now≤u by have:t≤u:=hu;omega)⟩
theorem aG.AU (h:aG M)(i:Nat)(hi:i≤M.L.length):aG {M with L:=eO (aW M.now) M.L i}:=by
 induction i with
 |zero=>exact h
 |succ i ih=>
  have ih:=ih (by omega);have hl:i<(eO (aW M.now) M.L i).length:=by rw[oH];omega
  have ha:=qz (f:=aW M.now) (L:=M.L) (i:=i) (by omega);have hm:=aZ (L:=M.L) (i:=i) (by omega);have bo:=h.one _ hm;have bw:=h.mb.wid _ hm;have bl:=h.mb.lim _ hm;have bp:=h.mb.aJ _ hm;have bf:=h.mb.fin _ hm;have bn:=h.mb.bQ _ hm;have br:=h.rest _ hm;rw[←jd (f:=aW M.now) (L:=M.L) (i:=i) (by omega)];by_cases hp:(M.L.getD i default).st=3∧(M.L.getD i default).fin=M.now
  ·have e:aW M.now (M.L.getD i default)=(M.L.getD i default).setSt 6:=by unfold aW;rw[qaj hp]
   rw[e];have hno:∀n,aI n ((M.L.getD i default).setSt 6)=false:=fun n=>by unfold aI;simp[Jb.setSt,Jb.st]
   refine ih.set (ih.mb.set _ _ bw bl bp bf bn) (by show _=((eO (aW M.now) M.L i).getD i default).id;rw[ha];rfl) ⟨bo.1,bo.2.1,bo.2.2.1,(show(1:Int)≤6 by omega),(show(6:Int)≤6 by omega)⟩ (fun _=>br (by omega)) (fun e=>absurd (show(6:Int)=3 from e) (by decide)) (.inl (br (by omega))) (ih.lu.set hl fun n e=>by rw[hno]at e;cases e) fun t ht=>?_;have hpl:aj ((M.L.getD i default).setSt 6)=false:=by unfold aj;simp[Jb.setSt,Jb.st]
   have:=rA (M:={M with L:=eO (aW M.now) M.L i}) (y:=(M.L.getD i default).setSt 6) ih.lu hl (by show((eO (aW M.now) M.L i).getD i default).st=3;rw[ha];exact hp.1) (show(6:Int)≠3 by decide) hpl t 0;have a1:=ih.free t ht;show 0≤ax {M with L:=(eO (aW M.now) M.L i).set i ((M.L.getD i default).setSt 6)} t 0;rw[this];split<;>omega
  ·have e:aW M.now (M.L.getD i default)=M.L.getD i default:=by unfold aW;rw[qai hp]
   rw[jd (by omega),←nk (by omega) e];exact ih
theorem aG.over (h:aG M):aG {M with L:=M.L.map (aW M.now)}∧∀j∈M.L.map (aW M.now),j.st=3→M.now<j.fin:=by
 have:=h.AU M.L.length (qaf _);rw[rq]at this;refine⟨this,fun j hj hs=>?_⟩;obtain⟨x,hx,rfl⟩:=List.mem_map.1 hj;by_cases hp:x.st=3∧x.fin=M.now
 ·have e:aW M.now x=x.setSt 6:=by unfold aW;rw[qaj hp]
  rw[e]at hs;exact absurd (show(6:Int)=3 from hs) (by decide)
 ·have e:aW M.now x=x:=by unfold aW;rw[qai hp]
  rw[e]at hs⊢;have:=(h.runs x hx hs).1;have:x.fin≠M.now:=fun e=>hp ⟨hs,e⟩;omega
def dA (now:Int)(j:Jb):Bool:=aj j&&decide (j.aJ=now)
theorem mY (L:List Jb)(now:Int)(i:Nat):(iA L now i<0∧∀q,q<i→dA now (L.getD q default)=false)∨∃f:Nat,iA L now i=f∧f<i∧dA now (L.getD f default)=true:=by
 induction i with
 |zero=>exact .inl ⟨by simp[iA],fun q hq=>by omega⟩
 |succ i ih=>
  unfold iA;split
  ·rename_i h
   exact .inr ⟨i,rfl,by omega,by unfold dA;rw[h.1,qag h.2.1];rfl⟩
  ·rename_i h
   rcases ih with⟨h1,h2⟩|⟨f,h1,h2,h3⟩
   ·refine .inl ⟨h1,fun q hq=>?_⟩;by_cases e:q=i
    ·subst e;cases hd:dA now (L.getD q default)with
     |false=>rfl
     |true=>
      unfold dA at hd;rw[Bool.and_eq_true,decide_eq_true_iff]at hd;exact absurd ⟨hd.1,hd.2,.inl h1⟩ h
    ·exact h2 q (by omega)
   ·exact .inr ⟨f,h1,by omega,h3⟩
def nI (j:Jb):Int:=if j.st=3 then 1 else if aj j=true then 2 else 0
def l8 (M:Md):Int:=(M.L.map nI).sum
def mf (M:Md):Int:=(M.L.map fun j=>if dA M.now j=true then 1 else 0).sum
theorem oM (j:Jb):0≤nI j∧nI j≤2:=by unfold nI;split;omega;split<;>omega
theorem mF (f:Jb→Int)(a:Int)(L:List Jb)(h:∀j∈L,0≤f j∧f j≤a):0≤(L.map f).sum∧(L.map f).sum≤a*L.length:=by
 induction L with
 |nil=>simp
 |cons b L ih=>
  have h1:=ih fun j hj=>h j (List.mem_cons_of_mem _ hj);have h2:=h b List.mem_cons_self;rw[List.map_cons,List.sum_cons,List.length_cons];have:a*((L.length+1:Nat):Int)=a*L.length+a:=by rw[Int.natCast_add];simp[Int.mul_add]
  rw[this];omega
theorem Bo (f:Jb→Int)(L:List Jb)(h:∀j∈L,0≤f j){x:Jb}(hx:x∈L):f x≤(L.map f).sum:=by
 induction L with
 |nil=>cases hx
 |cons a L ih=>
  have h0:∀l:List Jb,(∀j∈l,0≤f j)→0≤(l.map f).sum:=fun l=>by
   induction l with
   |nil=>intro _;simp
   |cons b l ih2=>
    intro hl;rw[List.map_cons,List.sum_cons];have:=hl b List.mem_cons_self;have:=ih2 fun j hj=>hl j (List.mem_cons_of_mem _ hj);omega
  rw[List.map_cons,List.sum_cons];rcases List.mem_cons.1 hx with rfl|hx
  ·have:=h0 L fun j hj=>h j (List.mem_cons_of_mem _ hj);omega
  ·have:=ih (fun j hj=>h j (List.mem_cons_of_mem _ hj)) hx;have:=h a List.mem_cons_self;omega
theorem aG.start (h:aG M)(hrun:∀j∈M.L,j.st=3→M.now<j.fin){f:Nat}(hf:f<M.L.length)(hd:dA M.now (M.L.getD f default)=true):
 aG (aX M f)∧(∀j∈(aX M f).L,j.st=3→M.now<j.fin)∧mf (aX M f)=mf M-1∧l8 (aX M f)=l8 M-1:=by
 have hm:=aZ hf;have bo:=h.one _ hm;unfold dA at hd;rw[Bool.and_eq_true,decide_eq_true_iff,bu]at hd;have hpl:aj (M.L.getD f default)=true:=bu.2 hd.1;have hid:=h.ids f hf;have hc:=fun t=>mD (t:=t) (but:=0) hpl (by rw[hid];omega);have h0:=h.free M.now (Int.le_refl _);have hge:=vY (L:=M.L) (fun j hj=>(h.mb.wid j hj).1) M.now 0 hm;rw[hc,qaj (by omega)]at hge;have hb:=h.begin hrun hf hd.1.1 (by unfold ax at h0;omega) fun t h1 h2=>by
  have:=h.free t h1;rw[hc,qaj (by omega)];omega
 have VC:dA M.now (fC M (M.L.getD f default))=false:=by unfold dA aj;rfl
 have VD:dA M.now (M.L.getD f default)=true:=by unfold dA;rw[hpl,qag hd.2];rfl
 refine⟨hb.1,fun j hj hs=>?_,?_,?_⟩
 ·rcases List.mem_or_eq_of_mem_set hj with h1|rfl
  ·exact hrun j h1 hs
  ·show M.now<M.now+(M.L.getD f default).lim;omega
 ·show((M.L.set f (fC M (M.L.getD f default))).map fun j=>if dA M.now j=true then(1:Int)else 0).sum=_;rw[Bi _ _ _ _ hf,VC,VD];unfold mf;simp
 ·show((M.L.set f (fC M (M.L.getD f default))).map nI).sum=_;rw[Bi _ _ _ _ hf];have e1:nI (M.L.getD f default)=2:=by unfold nI;rw[qai (by omega),qaj hpl]
  have e2:nI (fC M (M.L.getD f default))=1:=rfl;rw[e1,e2];unfold l8;omega
theorem aG.starts (n:Nat)(h:aG M)(hrun:∀j∈M.L,j.st=3→M.now<j.fin)(hn:mf M≤n):
 aG (startGo n M)∧Calm (startGo n M)∧l8 (startGo n M)≤l8 M∧(0<n→0<mf M→l8 (startGo n M)<l8 M):=by
 have calm:∀{N:Md},aG N→(∀j∈N.L,j.st=3→N.now<j.fin)→(∀q,q<N.L.length→dA N.now (N.L.getD q default)=false)→Calm N:=fun{N} hN hr hq=>by
  refine⟨hr,fun j hj=>?_⟩;obtain⟨q,hq1,rfl⟩:=List.getElem_of_mem hj;have e:=hq q hq1;have eg:N.L.getD q default=N.L[q]:=by simp[List.getD,hq1]
  rw[eg]at e;rcases hN.plan _ hj with h1|h1
  ·exact .inl h1
  ·by_cases h2:N.L[q].st=1
   ·right;unfold dA at e;have kg:=hN.mb.now;rw[bu.2 ⟨h2,by omega⟩,Bool.true_and,decide_eq_false_iff_not]at e;omega
   ·exact .inl (hN.rest _ hj h2)
 induction n generalizing M with
 |zero=>
  refine⟨h,calm h hrun fun q hq=>?_,Int.le_refl _,fun e=>absurd e (by omega)⟩;cases hd:dA M.now (M.L.getD q default)with
  |false=>exact hd
  |true=>
   have:=Bo (fun j=>if dA M.now j=true then(1:Int)else 0) M.L (fun j _=>by split<;>omega) (aZ hq);rw[hd,qaj rfl]at this;unfold mf at hn;omega
 |succ n ih=>
  unfold startGo;rcases mY M.L M.now M.L.length with⟨h1,h2⟩|⟨f,h1,h2,h3⟩
  ·have e:¬0≤firstM M:=by unfold firstM;omega
   rw[qai e];have hz:mf M=0:=by
    unfold mf;have:M.L.map (fun j=>if dA M.now j=true then(1:Int)else 0)=M.L.map fun _=>0:=List.map_congr_left fun j hj=>by
     obtain⟨q,hq1,rfl⟩:=List.getElem_of_mem hj;have e:=h2 q hq1;have eg:M.L.getD q default=M.L[q]:=by simp[List.getD,hq1]
     rw[eg]at e;rw[e];rfl
    rw[this];have:∀L:List Jb,(L.map fun _=>(0:Int)).sum=0:=fun L=>by induction L<;>simp_all
    exact this _
   obtain⟨a,b,c,_⟩:=ih h hrun (by omega);exact⟨a,b,c,fun _ hp=>by omega⟩
  ·have e:firstM M=f:=h1;rw[e,qaj (by omega),Int.toNat_natCast];obtain⟨a1,a2,a3,a4⟩:=h.start hrun h2 h3;obtain⟨b1,b2,b3,_⟩:=ih a1 a2 (by omega);exact⟨b1,b2,by omega,fun _ _=>by omega⟩
theorem NZ (t:Int)(j:Jb):nI (aW t j)=if j.st=3∧j.fin=t then 0 else nI j:=by
 unfold aW;split
 ·unfold nI;rfl
 ·rfl
theorem aG.rD (h:aG M):aG (dK M)∧Calm (dK M)∧l8 (dK M)≤l8 M∧((∃j∈M.L,(j.st=3∧j.fin=M.now)∨dA M.now j=true)→l8 (dK M)<l8 M):=by
 obtain⟨h1,h2⟩:=h.over;have hev:l8 {M with L:=M.L.map (aW M.now)}≤l8 M∧((∃j∈M.L,j.st=3∧j.fin=M.now)→l8 {M with L:=M.L.map (aW M.now)}<l8 M):=by
  show((M.L.map (aW M.now)).map nI).sum≤(M.L.map nI).sum∧(_→((M.L.map (aW M.now)).map nI).sum<(M.L.map nI).sum);have:∀L:List Jb,((L.map (aW M.now)).map nI).sum≤(L.map nI).sum∧((∃j∈L,j.st=3∧j.fin=M.now)→((L.map (aW M.now)).map nI).sum<(L.map nI).sum):=fun L=>by
   induction L with
   |nil=>exact⟨Int.le_refl _,fun⟨j,hj,_⟩=>nomatch hj⟩
   |cons a L ih=>
    simp only[List.map_cons,List.sum_cons];have hr:=oM a;have he:=NZ M.now a;by_cases hq:a.st=3∧a.fin=M.now
    ·rw[qaj hq]at he;have h1:nI a=1:=by unfold nI;rw[qaj hq.1]
     exact⟨by omega,fun _=>by omega⟩
    ·rw[qai hq]at he;refine⟨by omega,fun⟨j,hj,hjq⟩=>?_⟩;rcases List.mem_cons.1 hj with rfl|hj
     ·exact absurd hjq hq
     ·have:=ih.2 ⟨j,hj,hjq⟩;omega
  exact this M.L
 have H5:mf {M with L:=M.L.map (aW M.now)}=mf M:=by
  show((M.L.map (aW M.now)).map fun j=>if dA M.now j=true then(1:Int)else 0).sum=_;rw[List.map_map];unfold mf;congr 1;refine List.map_congr_left fun j _=>?_;show(if dA M.now (aW M.now j)=true then(1:Int)else 0)=_;unfold aW;split
  ·rename_i e
   have e1:dA M.now (j.setSt 6)=false:=by unfold dA aj;rfl
   have e2:dA M.now j=false:=by unfold dA aj;simp[e.1]
   rw[e1,e2]
  ·rfl
 have hdr:=mF (fun j=>if dA M.now j=true then(1:Int)else 0) 1 M.L (fun j _=>by split<;>omega);have YN:mf M≤M.L.length:=by unfold mf;omega
 obtain⟨a,b,c,d⟩:=aG.starts M.L.length h1 h2 (by rw[H5];exact YN);refine⟨a,b,Int.le_trans c hev.1,fun⟨j,hj,hq⟩=>?_⟩;rcases hq with hq|hq
 ·exact Int.lt_of_le_of_lt c (hev.2 ⟨j,hj,hq⟩)
 ·have hp:=Bo (fun j=>if dA M.now j=true then(1:Int)else 0) M.L (fun j _=>by split<;>omega) hj;rw[hq,qaj rfl]at hp;have hl:0<M.L.length:=List.length_pos_of_mem hj;exact Int.lt_of_lt_of_le (d hl (by rw[H5];unfold mf;omega)) hev.1
theorem aG.step (h:aG M)(hc:Calm M)(h1:0≤aV M)(h2:aV M≤1099511627776):M.now<aV M∧aG {M with now:=aV M}∧∃j∈M.L,(j.st=3∧j.fin=aV M)∨dA (aV M) j=true:=by
 have hn:=h.mb.now;rcases rC (M:=M) hn.1 with⟨g,_⟩|⟨_,g2,g3,g4⟩
 ·omega
 refine⟨g2,h.later _ (by omega) h2 (fun j hj hs=>g4 _ (FM hj hs) (hc.runs j hj hs)) (fun j hj=>?_),?_⟩
 ·rcases hc.plan j hj with e|e
  ·exact .inl e
  ·by_cases h3:j.st=1
   ·exact .inr (g4 _ (FN hj (bu.2 ⟨h3,by omega⟩)) e)
   ·exact .inl (h.rest j hj h3)
 ·obtain⟨j,hj,hm⟩:=List.mem_flatMap.1 g3;unfold xH at hm;rcases List.mem_append.1 hm with hm|hm
  ·split at hm
   ·rename_i e;exact⟨j,hj,.inl ⟨e,(List.mem_singleton.1 hm).symm⟩⟩
   ·cases hm
  ·split at hm
   ·rename_i e;exact⟨j,hj,.inr (by unfold dA;rw[e,qag (List.mem_singleton.1 hm).symm];rfl)⟩
   ·cases hm
theorem aG.dG (to:Int)(n:Nat)(hto:to≤1099511627776)(h:aG M)(hc:Calm M)(hnt:M.now≤to)(hn:l8 M<n):
 aG (dG to n M)∧Calm (dG to n M)∧(dG to n M).now≤to∧(aV (dG to n M)<0∨to<aV (dG to n M)):=by
 induction n generalizing M with
 |zero=>
  have:=(mF nI 2 M.L fun j _=>oM j).1;unfold l8 at hn;omega
 |succ n ih=>
  unfold Proofs.YtaimcpmcndapcaaGreat.dG;split
  ·rename_i e;exact⟨h,hc,hnt,e⟩
  ·rename_i e
   obtain⟨a1,a2,a3⟩:=h.step hc (by omega) (by omega);obtain⟨b1,b2,b3,b4⟩:=a2.rD;have hk:=nS a2.mb;refine ih b1 b2 (by rw[hk.2.2.1];show aV M≤to;omega) ?_;have:=b4 a3;have e2:l8 {M with now:=aV M}=l8 M:=rfl;omega
theorem aG.VE (h:aG M)(hc:Calm M)(y:Int):aG (mq M y).2∧Calm (mq M y).2:=by
 have hn:=h.mb.now;unfold mq;split
 ·exact⟨h,hc⟩
 ·have he:=(mF nI 2 M.L fun j _=>oM j).2;obtain⟨a,b,c,d⟩:=aG.dG (M.now+y) (2*M.L.length+1) (by omega) h hc (by omega) (by unfold l8;omega);have hR:=a.mb.now;show aG (pJ M (M.now+y))∧Calm (pJ M (M.now+y));unfold pJ;generalize Proofs.YtaimcpmcndapcaaGreat.dG (M.now+y) (2*M.L.length+1) M=R at*;have key:∀j∈R.L,(j.st=3→M.now+y<j.fin)∧(j.aJ= -1∨M.now+y<j.aJ):=fun j hj=>by
   rcases rC (M:=R) hR.1 with⟨g,g2⟩|⟨_,g2,g3,g4⟩
   ·refine⟨fun hs=>?_,?_⟩
    ·have:=g2 _ (FM hj hs);have:=b.runs j hj hs;omega
    ·rcases b.plan j hj with e|e
     ·exact .inl e
     ·by_cases h3:j.st=1
      ·have:=g2 _ (FN hj (bu.2 ⟨h3,by omega⟩));omega
      ·exact .inl (a.rest j hj h3)
   ·refine⟨fun hs=>?_,?_⟩
    ·have:=g4 _ (FM hj hs) (b.runs j hj hs);omega
    ·rcases b.plan j hj with e|e
     ·exact .inl e
     ·by_cases h3:j.st=1
      ·have:=g4 _ (FN hj (bu.2 ⟨h3,by omega⟩)) e;omega
      ·exact .inl (a.rest j hj h3)
  exact⟨a.later _ c (by omega) (fun j hj hs=>by have:=(key j hj).1 hs;omega) (fun j hj=>(key j hj).2.imp (fun e=>e) (fun e=>by omega)),⟨fun j hj hs=>(key j hj).1 hs,fun j hj=>(key j hj).2⟩⟩
theorem aG.H6 (h:aG M)(hc:Calm M)(r:Rw):aG (fH M r).2∧Calm (fH M r).2:=by
 unfold fH
 repeat' split
 all_goals first|exact⟨h,hc⟩|exact h.TK hc r|exact h.M8 hc r|exact h.FH hc r|exact h.Ky hc r|exact h.VE hc _|exact⟨⟨⟨h.mb.nn,h.mb.ll,h.mb.now,h.mb.wid,h.mb.lim,h.mb.aJ,h.mb.fin,h.mb.bQ⟩,h.ids,h.one,h.rest,h.runs,h.plan,h.lu,h.free⟩,⟨hc.runs,hc.plan⟩⟩
end
open Go.RowKit Go.Lib
def eQ (n:Nat):Md:=⟨0,List.replicate n false,[],false⟩
section
variable {M : Md}
theorem Dj (h:aG M)(i:Nat)(hi:i≤M.L.length)(t:Int)(ht:M.now≤t):ax {M with L:=eO (aW M.now) M.L i} t 0=ax M t 0:=by
 induction i with
 |zero=>rfl
 |succ i ih=>
  have ih:=ih (by omega);have hI:=h.AU i (by omega);have hl:i<(eO (aW M.now) M.L i).length:=by rw[oH];omega
  have ha:=qz (f:=aW M.now) (L:=M.L) (i:=i) (by omega);rw[←jd (f:=aW M.now) (L:=M.L) (i:=i) (by omega)];by_cases hp:(M.L.getD i default).st=3∧(M.L.getD i default).fin=M.now
  ·have e:aW M.now (M.L.getD i default)=(M.L.getD i default).setSt 6:=by unfold aW;rw[qaj hp]
   rw[e];have hpl:aj ((M.L.getD i default).setSt 6)=false:=by unfold aj;simp[Jb.setSt,Jb.st]
   have:=rA (M:={M with L:=eO (aW M.now) M.L i}) (y:=(M.L.getD i default).setSt 6) hI.lu hl (by show((eO (aW M.now) M.L i).getD i default).st=3;rw[ha];exact hp.1) (show(6:Int)≠3 by decide) hpl t 0;have e2:((eO (aW M.now) M.L i).getD i default).fin=M.now:=by rw[ha];exact hp.2
   show ax {M with L:=(eO (aW M.now) M.L i).set i ((M.L.getD i default).setSt 6)} t 0=_;rw[this,qai (by show¬t<((eO (aW M.now) M.L i).getD i default).fin;omega),ih];simp
  ·have e:aW M.now (M.L.getD i default)=M.L.getD i default:=by unfold aW;rw[qai hp]
   rw[jd (by omega),←nk (by omega) e];exact ih
theorem FO (h:aG M)(hrun:∀j∈M.L,j.st=3→M.now<j.fin){f:Nat}(hf:f<M.L.length)(hd:dA M.now (M.L.getD f default)=true)(t:Int)(ht:M.now≤t):ax (aX M f) t 0=ax M t 0:=by
 have hm:=aZ hf;have bo:=h.one _ hm;unfold dA at hd;rw[Bool.and_eq_true,decide_eq_true_iff,bu]at hd;have hpl:aj (M.L.getD f default)=true:=bu.2 hd.1;have hid:=h.ids f hf;have hc:=fun t=>mD (t:=t) (but:=0) hpl (by rw[hid];omega);have h0:=h.free M.now (Int.le_refl _);have hge:=vY (L:=M.L) (fun j hj=>(h.mb.wid j hj).1) M.now 0 hm;rw[hc,qaj (by omega)]at hge;have hb:=h.begin hrun hf hd.1.1 (by unfold ax at h0;omega) fun t h1 h2=>by
  have:=h.free t h1;rw[hc,qaj (by omega)];omega
 rw[rz hf (by omega),hb.2,hc];by_cases e:t<M.now+(M.L.getD f default).lim
 ·rw[qaj e,qaj (by omega)];omega
 ·rw[qai e,qai (by omega)];omega
theorem Dk (n:Nat)(h:aG M)(hrun:∀j∈M.L,j.st=3→M.now<j.fin)(t:Int)(ht:M.now≤t):ax (startGo n M) t 0=ax M t 0:=by
 induction n generalizing M with
 |zero=>rfl
 |succ n ih=>
  unfold startGo;rcases mY M.L M.now M.L.length with⟨h1,h2⟩|⟨f,h1,h2,h3⟩
  ·have e:¬0≤firstM M:=by unfold firstM;omega
   rw[qai e];exact ih h hrun ht
  ·have e:firstM M=f:=h1;rw[e,qaj (by omega),Int.toNat_natCast];obtain⟨a1,a2,_,_⟩:=h.start hrun h2 h3;rw[ih a1 a2 ht];exact FO h hrun h2 h3 t ht
theorem Dl (h:aG M)(t:Int)(ht:M.now≤t):ax (dK M) t 0=ax M t 0:=by
 obtain⟨h1,h2⟩:=h.over;have e:=Dj h M.L.length (qaf _) t ht;rw[rq]at e;rw[←e];exact Dk M.L.length h1 h2 t ht
theorem Bp {i:Nat}(hi:i<M.L.length)(hst:(M.L.getD i default).st≠3)(n:Nat):holderL (aX M i).L n=if cZ (iM M (M.L.getD i default).wid) n=true then(i:Int)else holderL M.L n:=by
 generalize hx:M.L.getD i default=x at*;have Bj:aI n (fC M x)=cZ (iM M x.wid) n:=by
  unfold aI;show(decide ((3:Int)=3)&&cZ ((iM M x.wid:Nat):Int).toNat n)=_;simp
 show holderL (M.L.set i (fC M (M.L.getD i default))) n=_;rw[hx];split
 ·rename_i h
  obtain⟨g1,g2⟩:=oL M x.wid M.dr.length n h;have hneg:=je.1 ((jO g1).1 g2).1;rcases fG (M.L.set i (fC M x)) n with h1|⟨q,h1,hq,h2⟩
  ·have:=je.1 h1 (fC M x) (List.mem_set hi _);rw[Bj,h]at this;cases this
  ·rw[gF]at h2;split at h2
   ·rename_i e;rw[h1,e.1]
   ·have hq':q<M.L.length:=by simpa using hq
    have:=hneg (M.L.getD q default) (aZ hq');rw[h2]at this;cases this
 ·rename_i h
  refine jB hi ?_;rw[hx,Bj];unfold aI;simp[hst];simpa using h
theorem FP {i:Nat}{y:Jb}(hd:xn M.L)(hi:i<M.L.length)(hst:(M.L.getD i default).st=3)(hy:y.st≠3)(n:Nat):holderL (M.L.set i y) n=if cZ (M.L.getD i default).bQ.toNat n=true then-1 else holderL M.L n:=by
 generalize hx:M.L.getD i default=x at*;have hxh:aI n x=cZ x.bQ.toNat n:=by unfold aI;simp[hst]
 have Qs:aI n y=false:=by unfold aI;simp[hy]
 split
 ·rename_i h
  rcases fG (M.L.set i y) n with h1|⟨q,h1,hq,h2⟩
  ·unfold holderL at h1⊢;cases h3:(M.L.set i y).findIdx? (aI n)with
   |none=>rfl
   |some q=>rw[h3]at h1;simp only at h1;omega
  ·rw[gF]at h2;have hq':q<M.L.length:=by simpa using hq
   split at h2
   ·rw[Qs]at h2;cases h2
   ·rename_i e
    exact absurd (hd i q n hi hq' (by rw[hx,hxh];exact h) h2) (fun e2=>e ⟨e2,hi⟩)
 ·rename_i h
  exact jB hi (by rw[hx,Qs,hxh];simpa using h)
theorem fe {n:Nat}(hn:n<M.dr.length):aU M n=if 0≤holderL M.L n then(if M.dr.getD n false=true then 3 else 2)else if M.dr.getD n false=true then 4 else 1:=by
 unfold aU;rw[qai (by omega)];simp only[Int.toNat_natCast]
theorem iB {n:Nat}(hn:¬n<M.dr.length):aU M n=0:=by
 unfold aU;rw[qaj (by omega)]
theorem Dm {i n:Nat}(hi:i<M.L.length)(hst:(M.L.getD i default).st≠3):aU (aX M i) n=if cZ (iM M (M.L.getD i default).wid) n=true then 2 else aU M n:=by
 have hh:=Bp hi hst n;by_cases hn:n<M.dr.length
 ·rw[fe (M:=aX M i) hn,fe hn,hh];by_cases h:cZ (iM M (M.L.getD i default).wid) n=true
  ·obtain⟨g1,g2⟩:=oL M _ M.dr.length n h;have hd:(aX M i).dr.getD n false=false:=((jO g1).1 g2).2;rw[qaj h,qaj h,qaj (by omega)];simp only[hd];rfl
  ·rw[qai h,qai h];rfl
 ·have h:¬cZ (iM M (M.L.getD i default).wid) n=true:=fun h=>hn (oL M _ M.dr.length n h).1;rw[qai h,iB (M:=aX M i) hn,iB hn]
theorem H7 {i n:Nat}{y:Jb}(hd:xn M.L)(hi:i<M.L.length)(hst:(M.L.getD i default).st=3)(hy:y.st≠3):aU {M with L:=M.L.set i y} n=if cZ (M.L.getD i default).bQ.toNat n=true∧n<M.dr.length then(if M.dr.getD n false=true then 4 else 1)else aU M n:=by
 have hh:=FP hd hi hst hy n;by_cases hn:n<M.dr.length
 ·rw[fe (M:={M with L:=M.L.set i y}) hn,fe hn];simp only;rw[hh];by_cases h:cZ (M.L.getD i default).bQ.toNat n=true
  ·have h2:cZ (M.L.getD i default).bQ.toNat n=true∧n<M.dr.length:=⟨h,hn⟩;have h3:¬(0:Int)≤-1:=by omega
   rw[qaj h2,qaj h,qai h3]
  ·have h2:¬(cZ (M.L.getD i default).bQ.toNat n=true∧n<M.dr.length):=fun e=>h e.1;rw[qai h2,qai h]
 ·rw[qai (fun e=>hn e.2),iB (M:={M with L:=M.L.set i y}) hn,iB hn]
theorem pO {i:Nat}{n:Int}{y:Jb}(hi:i<M.L.length)(h1:(y.st=3)↔((M.L.getD i default).st=3))(h2:y.bQ=(M.L.getD i default).bQ):aU {M with L:=M.L.set i y} n=aU M n:=by
 unfold aU;simp only;rw[jB hi (holds_of h1 h2)]
theorem Dn {m:Nat}{b:Bool}(hm:m<M.dr.length)(n:Nat):aU {M with dr:=M.dr.set m b} n=if n=m then(if 0≤holderL M.L n then(if b=true then 3 else 2)else if b=true then 4 else 1)else aU M n:=by
 have hs:(M.dr.set m b).getD n false=if m=n then b else M.dr.getD n false:=by
  simp only[List.getD,List.getElem?_set];by_cases h:m=n
  ·subst h;simp[hm]
  ·simp[h]
 by_cases hn:n<M.dr.length
 ·rw[fe (M:={M with dr:=M.dr.set m b}) (by show n<(M.dr.set m b).length;rw[List.length_set];exact hn),fe hn];simp only[hs];by_cases e:n=m
  ·subst e;simp
  ·have e2:¬m=n:=fun h=>e h.symm;simp only[e,e2,if_false]
 ·have e3:¬n=m:=fun e=>hn (by omega);rw[qai e3,iB (M:={M with dr:=M.dr.set m b}) (by show¬n<(M.dr.set m b).length;rw[List.length_set];exact hn),iB hn]
theorem H8 {n:Nat}(h1:n≤64):aG (eQ n)∧Calm (eQ n):=by
 have no:∀{P:Jb→Prop},∀j∈(eQ n).L,P j:=fun j hj=>nomatch hj;refine⟨⟨⟨by show(List.replicate n false).length≤64;rw[List.length_replicate];exact h1,by show([]:List Jb).length≤1024;simp,⟨(show(0:Int)≤0 by decide),(show(0:Int)≤1099511627776 by decide)⟩,no,no,no,no,no⟩,fun i hi=>absurd hi (by simp[eQ]),no,no,no,no,fun i k n hi=>absurd hi (by simp[eQ]),fun t _=>?_⟩,⟨no,no⟩⟩;have:=(jU (eQ n) t (eQ n).dr.length).1;show 0≤aM (eQ n) t (eQ n).dr.length-0;omega
theorem KA (h:aG M):Can (uH M) M.now (fun t=>ax M t 0):=by
 refine HV h.mb.now.1 fun t ht=>?_;rcases(sZ h.mb.now.1 t).1 ht with e|⟨_,e⟩
 ·have:=h.mb.now;omega
 ·obtain⟨j,hj,hm⟩:=List.mem_flatMap.1 e;have b1:=h.mb.fin j hj;have b2:=h.mb.aJ j hj;have b3:=h.mb.lim j hj;unfold A7 at hm;rcases List.mem_append.1 hm with hm|hm
  ·split at hm
   ·have:=List.mem_singleton.1 hm;omega
   ·cases hm
  ·split at hm
   ·rcases List.mem_cons.1 hm with e|e
    ·omega
    ·have:=List.mem_singleton.1 e;omega
   ·cases hm
end
def qA (j x:Jb):Bool:=aj x&&(decide (j.id=0)||aP j x)
theorem vZ (j x:Jb):gN j x=if qA j x=true then x.aH (-1)else x:=rfl
theorem Bq (j x:Jb):qA j (x.aH (-1))=false:=by unfold qA aj;simp[Jb.aH,Jb.aJ]
theorem FQ (j x:Jb):gN j (x.aH (-1))=x.aH (-1):=by rw[vZ,Bq];rfl
def dV (j:Jb)(L:List Jb):Option Nat:=L.findIdx? (qA j)
def hits (j:Jb)(L:List Jb):Nat:=L.countP (qA j)
theorem Dp {j:Jb}{L:List Jb}(h:dV j L=none):L.map (gN j)=L∧hits j L=0:=by
 unfold dV at h;rw[List.findIdx?_eq_none_iff]at h;refine⟨?_,List.countP_eq_zero.2 fun x hx=>by simp[h x hx]⟩;have:L.map (gN j)=L.map id:=List.map_congr_left fun x hx=>by rw[vZ,h x hx];rfl
 rw[this,List.map_id]
theorem countP_set (f:Jb→Bool)(L:List Jb)(i:Nat)(y:Jb)(hi:i<L.length):(L.set i y).countP f+(if f (L.getD i default)=true then 1 else 0)=L.countP f+(if f y=true then 1 else 0):=by
 induction L generalizing i with
 |nil=>simp at hi
 |cons a L ih=>
  cases i with
  |zero=>simp only[xB,List.countP_cons,List.getD_cons_zero];omega
  |succ i=>
   have:=ih i (by simpa using hi);simp only[xC,List.countP_cons,List.getD_cons_succ];omega
theorem jC {j:Jb}{L:List Jb}{i:Nat}(h:dV j L=some i):
 i<L.length∧qA j (L.getD i default)=true∧(∀q,q<i→qA j (L.getD q default)=false)∧
 (L.set i ((L.getD i default).aH (-1))).map (gN j)=L.map (gN j)∧hits j (L.set i ((L.getD i default).aH (-1)))+1=hits j L:=by
 unfold dV at h;rw[List.findIdx?_eq_some_iff_getElem]at h;obtain⟨hi,h1,h2⟩:=h;have e:L.getD i default=L[i]:=by simp[List.getD,hi]
 have hh:qA j (L.getD i default)=true:=by rw[e];exact h1
 refine⟨hi,hh,fun q hq=>?_,?_,?_⟩
 ·have hq2:q<L.length:=by omega
  have:=h2 q hq;have e:L.getD q default=L[q]:=by simp[List.getD,hq2]
  rw[e];simpa using this
 ·rw[List.map_set,FQ];have e2:(L.getD i default).aH (-1)=(L.map (gN j))[i]'(by simpa using hi):=by
   rw[List.getElem_map,←e,vZ,hh];rfl
  rw[e2,List.set_getElem_self]
 ·have:=countP_set (qA j) L i ((L.getD i default).aH (-1)) hi;rw[hh,Bq]at this;unfold hits;simpa using this
section
variable {M : Md}
theorem rE {j:Jb}(hh:dV j M.L=none):fB M j=M:=by
 unfold fB;rw[(Dp hh).1]
theorem wo {j:Jb}{i:Nat}(hh:dV j M.L=some i):fB {M with L:=M.L.set i ((M.L.getD i default).aH (-1))} j=fB M j:=by
 unfold fB;simp only;rw[(jC hh).2.2.2.1]
theorem Dq (h:aG M){i:Nat}(hi:i<M.L.length)(t:Int)(ht:M.now≤t):0≤ax M t ((i:Int)+1):=by
 have:=h.free t ht;have:=iI (t:=t) (but:=0) (h.mb.wid _ (aZ hi)).1;rw[mE hi h.ids];omega
theorem Br (h:aG M)(t:Int):ax M t 0≤M.dr.length:=by
 have h1:=(jU M t M.dr.length).2;have h2:=(mW (L:=M.L) h.mb.wid t 0).1;unfold ax;omega
end
open Go.ChangeShapes Go.WideShapes Go.ChangeAt Go.Deep
def leafy (P:Program):Nat→TypeId→List TypeId
 |0,t=>[t]
 |n+1,t=>match P.underlying t with
  |some (.struct fs)=>fs.toList.flatMap fun f=>leafy P n f.type
  |_=>[t]
def offsOk (P:Program)(lv:TypeId→List TypeId)(ok:TypeId→Bool):List Field→Nat→Bool
 | [],_=>true
 |f::r,o=>f.offset == o&&P.cellsOf f.type == (lv f.type).length&&ok f.type&&offsOk P lv ok r (o+(lv f.type).length)
def uR (P:Program):Nat→TypeId→Bool
 |0,t=>P.cellsOf t == 1
 |n+1,t=>match P.underlying t with
  |some (.struct fs)=>P.cellsOf t == (leafy P (n+1) t).length&&offsOk P (leafy P n) (uR P n) fs.toList 0
  |_=>P.cellsOf t == 1
section
variable {H : Type} {enc : TypeId × Value → H} {P : Program} {w : World} {base : Nat} {spare : Nat → Bool} {held : Bool}
def nT (enc:TypeId×Value→H)(P:Program)(w:World)(base:Nat)(spare:Nat→Bool)(held:Bool)(ts:List TypeId)(cs:List Value):Prop:=
 ∀(j:Nat) (T:TypeId) (u:Value),ts[j]? =some T→cs[j]? =some u→∃(n:Nat) (y:DataW H×List MemPlace),DataW.trod enc P w base spare held n T [u]=some y
theorem Ed {t:TypeId}{fuel:Nat}{cs:List Value}{x:DataW H×List MemPlace}(hl:cs.length=1)(h:DataW.trod enc P w base spare held fuel t cs=some x):nT enc P w base spare held [t] cs:=by
 intro j T u hT hu;have hj:j=0:=by
  have:=(List.getElem?_eq_some_iff.1 hT).1;simp at this;exact this
 subst hj
 match cs,hl with
 | [c],_=>
   simp at hT hu;subst hT hu;exact⟨fuel,x,h⟩
theorem N7 (n:Nat):∀(t:TypeId) (fuel:Nat) (cs:List Value) (x:DataW H×List MemPlace),uR P n t=true→cs.length=P.cellsOf t→DataW.trod enc P w base spare held fuel t cs=some x→
 cs.length=(leafy P n t).length∧nT enc P w base spare held (leafy P n t) cs:=by
 induction n with
 |zero=>
  intro t fuel cs x hok hl h;simp only[uR,beq_iff_eq]at hok;exact⟨by rw[hl,hok];rfl,Ed (by rw[hl,hok]) h⟩
 |succ n ih=>
  intro t fuel cs x hok hl h;have plain:P.cellsOf t=1→leafy P (n+1) t=[t]→cs.length=(leafy P (n+1) t).length∧nT enc P w base spare held (leafy P (n+1) t) cs:=fun h1 h2=>by
   rw[h2];exact⟨by rw[hl,h1];rfl,Ed (by rw[hl,h1]) h⟩
  unfold uR at hok;split at hok
  ·rename_i fs hu
   rw[Bool.and_eq_true,beq_iff_eq]at hok;obtain⟨hc,ho⟩:=hok;refine⟨by rw[hl,hc],?_⟩;obtain⟨ys,n',_,_,_,hyl,hf⟩:=DataW.trod_struct hu h;have hlv:leafy P (n+1) t=fs.toList.flatMap fun f=>leafy P n f.type:=by rw[leafy,hu]
   rw[hlv]at hc⊢;have key:∀(fl:List Field) (o:Nat),offsOk P (leafy P n) (uR P n) fl o=true→o+(fl.flatMap fun f=>leafy P n f.type).length≤cs.length→(∀f∈fl,∃y,DataW.trod enc P w base spare held n' f.type ((cs.drop f.offset).take (P.cellsOf f.type))=some y)→
    nT enc P w base spare held (fl.flatMap fun f=>leafy P n f.type) (cs.drop o):=by
    intro fl
    induction fl with
    |nil=>intro o _ _ _ j T u hT;simp at hT
    |cons f r ihr=>
     intro o ho hle hall;simp only[offsOk,Bool.and_eq_true,beq_iff_eq]at ho;obtain⟨⟨⟨h1,h2⟩,h3⟩,h4⟩:=ho;rw[List.flatMap_cons,List.length_append]at hle;obtain⟨y,hy⟩:=hall f (by simp);rw[h1,h2]at hy;have hlen:((cs.drop o).take (leafy P n f.type).length).length=P.cellsOf f.type:=by rw[List.length_take,List.length_drop,h2];omega
     obtain⟨_,hL⟩:=ih f.type n' _ y h3 hlen hy;have hR:=ihr (o+(leafy P n f.type).length) h4 (by omega) (fun g hg=>hall g (by simp[hg]));intro j T u hT hu;rw[List.flatMap_cons]at hT;rcases Nat.lt_or_ge j (leafy P n f.type).length with hlt|hge
     ·rw[List.getElem?_append_left hlt]at hT;exact hL j T u hT (by rw[List.getElem?_take,qaj hlt];exact hu)
     ·rw[List.getElem?_append_right hge]at hT;refine hR (j-(leafy P n f.type).length) T u hT ?_;rw[List.getElem?_drop]at hu⊢;rw[←hu];congr 1;omega
   have:=key fs.toList 0 ho (by rw[hl,hc];omega) (fun f hfm=>by
    obtain⟨i,hi,rfl⟩:=List.getElem_of_mem hfm;have hi':i<fs.size:=by simpa using hi
    have h5:=hf i fs[i] (Array.getElem?_eq_getElem hi');have h6:ys[i]? =some (ys[i]'(by omega)):=List.getElem?_eq_getElem (by omega);exact⟨_,by rw[Array.getElem_toList];exact h5.trans h6⟩)
   simpa using this
  ·rename_i hn
   refine plain (by simpa using hok) ?_;rw[leafy];split
   ·rename_i fs hu;exact absurd hu (hn fs)
   ·rfl
end
theorem N8 {H:Type}{enc:TypeId×Value→H}{P:Program}{w:World}{base:Nat}{t e:TypeId}{ts:List TypeId}{n:Nat}{v:Value}{d:DataW H}{ps:List MemPlace}(ht:P.underlying t=some (.slice e))
 (hok:uR P n e=true) (hts:leafy P n e=ts) (hc:P.cellsOf e=ts.length) (h0:0<ts.length) (hval:Value.okWide P w .any base t v) (hd:DataW.Trod enc P w 0 (fun _=>true) true t v d ps):
 ∃l:List (List Value),aC id ts.length w v l∧∀s∈l,s.length=ts.length∧nT enc P w 0 (fun _=>true) true ts s:=by
 subst hts;obtain⟨a0,len,cap,rfl⟩:=okWide_slice ht hval;obtain⟨fuel,hf⟩:=hd;rcases open_slice ht hf with⟨hcs,_⟩|⟨a,len',cap',m,nn,D,Pl,hcs,_,hl,hm,hmm,_,hi⟩
 ·simp[Value.cells]at hcs;obtain⟨rfl,rfl,rfl⟩:=hcs;exact⟨[],aC.nil w,fun s hs=>by cases hs⟩
 ·simp[Value.cells]at hcs;obtain⟨rfl,rfl,rfl⟩:=hcs;simp only[if_true]at hmm;have hrow:∀i,i<len→∃cs:List Value,cs.length=(leafy P n e).length∧(∀j,j<cs.length→w.cell? ((a.add (i*(leafy P n e).length)).add j)=cs[j]?)∧nT enc P w 0 (fun _=>true) true (leafy P n e) cs:=by
   intro i hil;obtain⟨cs',hc',ht'⟩:=hi i (by omega);obtain⟨_,hcl,hat⟩:=World.cells?_some hc';obtain⟨h1,h2⟩:=N7 n e nn _ _ hok hcl ht';rw[hc]at hat hcl;exact⟨cs',h1,fun j hj=>hat j (by omega),h2⟩
  have hpick:∃f:Nat→List Value,∀i,i<len→(f i).length=(leafy P n e).length∧(∀j,j<(f i).length→w.cell? ((a.add (i*(leafy P n e).length)).add j)=(f i)[j]?)∧nT enc P w 0 (fun _=>true) true (leafy P n e) (f i):=by
   refine⟨fun i=>if h:i<len then Classical.choose (hrow i h)else[],fun i hil=>?_⟩;simp only[dif_pos hil];exact Classical.choose_spec (hrow i hil)
  obtain⟨f,hf'⟩:=hpick;refine⟨(List.range len).map f,⟨some a,cap,by simp,by simpa using hl,hm,fun hp=>?_⟩,fun s hs=>?_⟩
  ·have hp:0<len:=by simpa using hp
   obtain⟨b,off,spot⟩:=a;have uS:=(hf' 0 hp).2.1 0 (by rw[(hf' 0 hp).1];exact h0);obtain⟨u0,hu0⟩:∃u,(f 0)[0]? =some u:=⟨_,List.getElem?_eq_getElem (by rw[(hf' 0 hp).1];exact h0)⟩;rw[hu0]at uS;have hspot:spot=none:=by simpa[Addr.add]using World.cell?_spot uS
   subst hspot;refine⟨b,off,rfl,?_,fun i s j u hi2 hj=>?_⟩
   ·rw[Go.WideShapes.add_plain,Go.WideShapes.add_plain]at uS;exact World.block_lt_of_cell? w ⟨b,_,none⟩ uS
   ·rw[List.getElem?_map]at hi2;obtain⟨i',hi',rfl⟩:=Option.map_eq_some_iff.1 hi2;obtain⟨hil,rfl⟩:=List.getElem?_eq_some_iff.1 hi';rw[List.length_range]at hil;rw[List.getElem_range]at hj;have hj2:(f i)[j]? =some u:=hj;have:=(hf' i hil).2.1 j (List.getElem?_eq_some_iff.1 hj2).1;rw[Go.WideShapes.add_plain,Go.WideShapes.add_plain,hj2,Nat.add_assoc]at this;exact this
  ·obtain⟨i,hi2,rfl⟩:=List.mem_map.1 hs;have:=hf' i (by simpa using hi2);exact⟨this.1,this.2.2⟩
structure Rq where
 kind:Int
 id:Int
 user:Int
 width:Int
 limit:Int
 prio:Int
 held:Bool
 node:Int
 till:Int
deriving DecidableEq
def encR (r:Rq):List Value:=[.int .i64 r.kind,.int .i64 r.id,.int .i64 r.user,.int .i64 r.width,.int .i64 r.limit,.int .i64 r.prio,.bool r.held,.int .i64 r.node,.int .i64 r.till]
theorem lC :∀w,Sem.run prog (Go.sizeOf 33) w=.ok 9 w:=sizeOf33
theorem iR (r:Rq):(encR r).length=9:=rfl
theorem mG {W:World}{p:Nat}{x:Rq}(h:W.heap[p]? =some (.cells (encR x).toArray 33 (0,0))):∀j u,(encR x)[j]? =some u→W.cell? ⟨p,j,none⟩=some u:=by
 intro j u hj;simp[World.cell?,h,hj]
section
variable {H : Type} {enc : TypeId × Value → H} {w : World} {base : Nat} {v : Value} {d : DataW H} {ps : List MemPlace}
theorem Bt {ts:List TypeId}{cs:List Value}(h:nT enc prog w 0 (fun _=>true) true ts cs)(j:Nat){T:TypeId}{u:Value}(hT:ts[j]? =some T)(hu:prog.underlying T=some .bool)(hc:cs[j]? =some u):∃x,u=.bool x:=by
 obtain⟨_,_,t0⟩:=h j T u hT hc;obtain⟨x,hx,_⟩:=DataW.trod_bool hu t0;exact⟨x,by simpa using hx⟩
theorem jD {ts:List TypeId}{cs:List Value}(h:nT enc prog w 0 (fun _=>true) true ts cs)(j:Nat){T:TypeId}{u:Value}(hT:ts[j]? =some T)(hu:prog.underlying T=some (.int .i64))(hc:cs[j]? =some u):∃x,u=.int .i64 x∧-9223372036854775808≤x∧x≤9223372036854775807:=by
 obtain⟨_,_,t0⟩:=h j T u hT hc;obtain⟨x,hx,_,hw⟩:=DataW.trod_int hu t0;exact⟨x,by simpa using hx,bounds_i64 hw⟩
structure VF (r : Rq) : Prop where
 kind: -9223372036854775808≤r.kind∧r.kind≤9223372036854775807
 id: -9223372036854775808≤r.id∧r.id≤9223372036854775807
 user: -9223372036854775808≤r.user∧r.user≤9223372036854775807
 width: -9223372036854775808≤r.width∧r.width≤9223372036854775807
 limit: -9223372036854775808≤r.limit∧r.limit≤9223372036854775807
 prio: -9223372036854775808≤r.prio∧r.prio≤9223372036854775807
 node: -9223372036854775808≤r.node∧r.node≤9223372036854775807
 till: -9223372036854775808≤r.till∧r.till≤9223372036854775807
end
open Go.Sort
def aS (r:Rq):Int:=
 if r.user<0 then 1 else if 255<r.user then 1 else if r.prio<0 then 1 else if 1000<r.prio then 1 else if r.width<1 then 9 else if 64<r.width then 9 else if r.limit<1 then 10 else if 1048576<r.limit then 10 else 0
def sF (x y:Int):Int:=if x<y then-1 else if y<x then 1 else 0
theorem Ee (x:Int)(w:World):Calls prog 256 #[.int .i64 x] w fun e w'=>e=.returned (.bool false)∧w=w':=by
 have h:(x != x)=false:=by simp
 go_enter func256,ntmps256;go_wp2_with fail;go_ret;exact⟨rfl,rfl⟩
theorem Bu (x y:Int)(w:World):Calls prog 228 #[.int .i64 x,.int .i64 y] w fun e w'=>e=.returned (.int .i64 (sF x y))∧w=w':=by
 have hx:=Ee x w;have hy:=Ee y w;unfold sF;by_cases h1:x<y
 ·have e1:(if x<y then(-1:Int)else if y<x then 1 else 0)= -1:=qaj h1;rw[e1];go_enter func228,ntmps228;go_wp2_with (go_at_call 256;first|(refine hx.mono ?_;rintro e w' ⟨rfl,rfl⟩)|(refine hy.mono ?_;rintro e w' ⟨rfl,rfl⟩));go_ret;exact⟨rfl,rfl⟩
 ·by_cases h2:y<x
  ·have e1:(if x<y then(-1:Int)else if y<x then 1 else 0)=1:=by rw[qai h1,qaj h2]
   rw[e1];go_enter func228,ntmps228;go_wp2_with (go_at_call 256;first|(refine hx.mono ?_;rintro e w' ⟨rfl,rfl⟩)|(refine hy.mono ?_;rintro e w' ⟨rfl,rfl⟩));go_ret;exact⟨rfl,rfl⟩
  ·have e1:(if x<y then(-1:Int)else if y<x then 1 else 0)=0:=by rw[qai h1,qai h2]
   rw[e1];go_enter func228,ntmps228;go_wp2_with (go_at_call 256;first|(refine hx.mono ?_;rintro e w' ⟨rfl,rfl⟩)|(refine hy.mono ?_;rintro e w' ⟨rfl,rfl⟩));go_ret;exact⟨rfl,rfl⟩
theorem TL (x y:Int)(p c:Nat)(w:World)(h0:w.cell? ⟨p,0,none⟩=some (.int .i64 x))(h1:w.cell? ⟨p,1,none⟩=some (.int .i64 y)):Calls prog 227 #[.slice (some ⟨p,0,none⟩) 2 c] w fun e w'=>e=.returned (.int .i64 (if x=0 then y else x))∧w=w':=by
 by_cases hx:x=0
 ·subst hx;rw[qaj rfl];by_cases hy:y=0
  ·subst hy;go_enter func227,ntmps227;go_wp2_with fail;go_loopw [8] (fun ii wr=>∃(i:Nat),i≤2∧ii=.int .i64 i∧wr=w) (fun ii _=>2-(intOf ii).toNat)
   case atStart=>exact⟨0,by omega,rfl,rfl⟩
   case round=>
    obtain⟨i,hi,rfl,rfl⟩:=hrel;rcases(by omega:i=0∨i=1∨i=2)with rfl|rfl|rfl
    ·go_wp2_with fail;go_roundw
     case rel=>exact⟨1,by omega,rfl,trivial⟩
     case measure=>decide
    ·go_wp2_with fail;go_roundw
     case rel=>exact⟨2,by omega,rfl,trivial⟩
     case measure=>decide
    ·go_wp2_with fail;go_ret;exact⟨rfl,rfl⟩
  ·have ny:(y != 0)=true:=by simp[hy]
   go_enter func227,ntmps227;go_wp2_with fail;go_loopw [8] (fun ii wr=>∃(i:Nat),i≤1∧ii=.int .i64 i∧wr=w) (fun ii _=>2-(intOf ii).toNat)
   case atStart=>exact⟨0,by omega,rfl,rfl⟩
   case round=>
    obtain⟨i,hi,rfl,rfl⟩:=hrel;rcases(by omega:i=0∨i=1)with rfl|rfl
    ·go_wp2_with fail;go_roundw
     case rel=>exact⟨1,by omega,rfl,trivial⟩
     case measure=>decide
    ·go_wp2_with fail;go_ret;exact⟨rfl,rfl⟩
 ·rw[qai hx];have nx:(x != 0)=true:=by simp[hx]
  go_enter func227,ntmps227;go_wp2_with fail;go_loopw [8] (fun ii wr=>ii=.int .i64 0∧wr=w) (fun ii _=>2-(intOf ii).toNat)
  case atStart=>exact⟨rfl,rfl⟩
  case round=>
   obtain⟨rfl,rfl⟩:=hrel;go_wp2_with fail;go_ret;exact⟨rfl,rfl⟩
theorem N9 (a b:Jb):(if sF b.prio a.prio=0 then sF a.id b.id else sF b.prio a.prio)=zx a b:=by
 unfold sF zx aP;by_cases h1:b.prio<a.prio
 ·simp[h1]
 ·by_cases h2:a.prio<b.prio
  ·have:¬a.prio=b.prio:=by omega
   have:¬b.prio=a.prio:=by omega
   simp[*]
  ·have e:a.prio=b.prio:=by omega
   simp[e]
theorem H9 (x y:Value)(t:Nat)(n:Nat)(W:World)(hn:n=W.heap.size):(W.alloc (.cells #[x,y] t)).cell? ⟨n,0,none⟩=some x:=by
 subst hn;have h:(W.alloc (.cells #[x,y] t)).heap[W.heap.size]? =some (.cells #[x,y] t):=heap_alloc_new W _;unfold World.cell?;rw[h];rfl
theorem FR (x y:Value)(t:Nat)(n:Nat)(W:World)(hn:n=W.heap.size):(W.alloc (.cells #[x,y] t)).cell? ⟨n,1,none⟩=some y:=by
 subst hn;have h:(W.alloc (.cells #[x,y] t)).heap[W.heap.size]? =some (.cells #[x,y] t):=heap_alloc_new W _;unfold World.cell?;rw[h];rfl
theorem Qu (w:World)(o1 o2:Obj):((w.alloc o1).alloc o2).heap.size=w.heap.size+2∧((w.alloc o1).alloc o2).heap[w.heap.size]? =some o1∧((w.alloc o1).alloc o2).heap[w.heap.size+1]? =some o2:=by
 refine⟨by simp,?_,?_⟩
 ·rw[Below.heap_alloc _ _ _ (by simp)];exact heap_alloc_new w o1
 ·have:=heap_alloc_new (w.alloc o1) o2
  rwa [show(w.alloc o1).heap.size=w.heap.size+1 from by simp]at this
theorem zB (a b:Jb)(w:World):Calls prog 204 #[.agg (ah a).toArray,.agg (ah b).toArray] w fun e w'=>e=.returned (.int .i64 (zx a b))∧Gr w w':=by
 rw[←N9];have hg:∀o1 o2 o3:Obj,Gr w (((w.alloc o1).alloc o2).drew.alloc o3):=fun o1 o2 o3=>⟨1,#[o1]++ #[o2]++ #[o3],by
  rw[Go.Sort.alloc_eq_grow,Go.Sort.alloc_eq_grow,Go.Sort.alloc_eq_grow,←Go.Sort.grow_grow,←Go.Sort.grow_grow];rfl⟩
 obtain⟨x1,x2,x3,x4,x5,x6,x7,x8,x9,x0⟩:=a;obtain⟨y1,y2,y3,y4,y5,y6,y7,y8,y9,y0⟩:=b;have nA:=(by kernel_rfl:prog.follows .mixedOrders=true);unfold Jb.prio Jb.id;simp only[ah];have c1:=fun W=>(Bu y5 x5 W).mono fun e w1 h=>(⟨h.1,h.2.symm⟩:_∧w1=W)
 have c2:=fun W=>(Bu x1 y1 W).mono fun e w1 h=>(⟨h.1,h.2.symm⟩:_∧w1=W)
 have ho:=fun(n:Nat) (W:World) (hn:n=W.heap.size)=>TL (sF y5 x5) (sF x1 y1) n 2 (W.alloc (.cells #[.int .i64 (sF y5 x5),.int .i64 (sF x1 y1)] 3)) (H9 _ _ _ _ _ hn) (FR _ _ _ _ _ hn);generalize sF y5 x5=r1 at*;generalize sF x1 y1=r2 at*;generalize (if r1=0 then r2 else r1)=rr at*;have HO:=qae ho;clear ho;have C1:=qae c1;have C2:=qae c2;clear c1 c2;go_enter func204,ntmps204;go_wp2_with fail;have H2:=Qu w (.cells #[.int .i64 x1,.int .i64 x2,.int .i64 x3,.int .i64 x4,.int .i64 x5,.int .i64 x6,.int .i64 x7,.int .i64 x8,.int .i64 x9,.int .u64 x0] 55) (.cells #[.int .i64 y1,.int .i64 y2,.int .i64 y3,.int .i64 y4,.int .i64 y5,.int .i64 y6,.int .i64 y7,.int .i64 y8,.int .i64 y9,.int .u64 y0] 55);have hg2:=fun o3=>hg (.cells #[.int .i64 x1,.int .i64 x2,.int .i64 x3,.int .i64 x4,.int .i64 x5,.int .i64 x6,.int .i64 x7,.int .i64 x8,.int .i64 x9,.int .u64 x0] 55) (.cells #[.int .i64 y1,.int .i64 y2,.int .i64 y3,.int .i64 y4,.int .i64 y5,.int .i64 y6,.int .i64 y7,.int .i64 y8,.int .i64 y9,.int .u64 y0] 55) o3;clear hg;generalize ((w.alloc (.cells #[.int .i64 x1,.int .i64 x2,.int .i64 x3,.int .i64 x4,.int .i64 x5,.int .i64 x6,.int .i64 x7,.int .i64 x8,.int .i64 x9,.int .u64 x0] 55)).alloc (.cells #[.int .i64 y1,.int .i64 y2,.int .i64 y3,.int .i64 y4,.int .i64 y5,.int .i64 y6,.int .i64 y7,.int .i64 y8,.int .i64 y9,.int .u64 y0] 55))=wr at*;obtain⟨hsz,hA,hB⟩:=H2;have ZN:wr.drew.cell? ⟨w.heap.size,0,none⟩=some (.int .i64 x1):=by
  show wr.cell? _=_;unfold World.cell?;rw[hA];rfl
 have ZO:wr.drew.cell? ⟨w.heap.size,4,none⟩=some (.int .i64 x5):=by
  show wr.cell? _=_;unfold World.cell?;rw[hA];rfl
 have ZP:wr.drew.cell? ⟨w.heap.size+1,0,none⟩=some (.int .i64 y1):=by
  show wr.cell? _=_;unfold World.cell?;rw[hB];rfl
 have ZQ:wr.drew.cell? ⟨w.heap.size+1,4,none⟩=some (.int .i64 y5):=by
  show wr.cell? _=_;unfold World.cell?;rw[hB];rfl
 clear hA hB;replace hsz:=qae hsz;replace hg2:=qae hg2;refine wp_region_still_tail 10 nA (by kernel_rfl) ?_;simp only[List.take_succ_cons,List.take_zero,List.drop_succ_cons,List.drop_zero];change wpStill _ _ wr.drew _ _ _
 still_step
 still_step
 still_step
 still_step
 still_call (C1.out _)
 still_step
 still_step
 still_step
 still_step
 still_call (C2.out _)
 refine wpStill_nil ?_;change wpList _ _ _ _ _ wr.drew;generalize wr.drew=w2 at*;go_wp2_with (go_at_call 227;refine(HO.out _ _ ?_).mono ?_;rotate_left;rintro e w' ⟨rfl,rfl⟩)
 ·go_ret;exact⟨rfl,hg2.out _⟩
 ·rfl
theorem eB {a b c:World}(h:Gr a b)(k:Gr b c):Gr a c:=by
 obtain⟨q,os,rfl⟩:=h;obtain⟨q',os',rfl⟩:=k;refine⟨q+q',os++os',?_⟩;rw[←Go.Sort.grow_grow];simp[Go.Sort.grow,World.drewN,Nat.add_assoc]
theorem TM (w:World)(o1 o2:Obj):Gr w ((w.alloc o1).alloc o2):=⟨0,#[o1]++ #[o2],by
 rw[Go.Sort.alloc_eq_grow,Go.Sort.alloc_eq_grow,←Go.Sort.grow_grow];rfl⟩
theorem Qv (a b:Jb)(w:World):Calls prog 276 #[.agg (ah a).toArray,.agg (ah b).toArray] w fun e w'=>e=.returned (.bool (aP a b))∧Gr w w':=by
 have hc:=qae fun(W:World)=>zB a b W;rw[←G9];generalize zx a b=q at*;obtain⟨x1,x2,x3,x4,x5,x6,x7,x8,x9,x0⟩:=a;obtain⟨y1,y2,y3,y4,y5,y6,y7,y8,y9,y0⟩:=b;simp only[ah]at*;go_enter func276,ntmps276;go_wp2_with (go_at_call 204;refine(hc.out _).mono ?_;rintro e w' ⟨rfl,hw⟩);go_ret;exact⟨rfl,eB (TM w _ _) hw⟩
namespace Sb
variable {α : Type} [Inhabited α]
def nU (a b n i:Nat)(d:Array α):Array α:=if i<n then nU a b n (i+1) (swp d (a+i) (b+i))else d
termination_by n -i
def mH (m i j:Nat)(d:Array α):Array α:=
 if i=j∨i=0∨j=0 then nU (m-i) m i 0 d
 else if j<i then mH m (i-j) j (nU (m-i) m j 0 d)
 else mH m i (j-i) (nU (m-i) (m+j-i) i 0 d)
termination_by i +j
def fK (f:Nat→Bool)(i j:Nat):Nat:=if i<j then(if f ((i+j)/2)then fK f ((i+j)/2+1) j else fK f i ((i+j)/2))else i
termination_by j -i
def wu (e k:Nat)(d:Array α):Array α:=if k<e then wu e (k+1) (swp d k (k+1))else d
termination_by e -k
def wy (i k:Nat)(d:Array α):Array α:=if i<k then wy i (k-1) (swp d k (k-1))else d
termination_by k
def tu (lt:α→α→Bool)(a m b:Nat)(d:Array α):Nat:=
 if(a+b)/2<m then fK (fun c=>!lt d[(a+b)/2+m-1-c]! d[c]!) ((a+b)/2+m-b) ((a+b)/2)
 else fK (fun c=>!lt d[(a+b)/2+m-1-c]! d[c]!) a m
def symF (lt:α→α→Bool):Nat→Nat→Nat→Nat→Array α→Array α
 |0,_,_,_,d=>d
 |f+1,a,m,b,d=>
  if m-a=1 then wu (fK (fun h=>lt d[h]! d[a]!) m b-1) a d
  else if b-m=1 then wy (fK (fun h=>!lt d[m]! d[h]!) a m) m d
  else
   let mid:=(a+b)/2
   let s:=tu lt a m b d
   let e:=mid+m-s
   let d1:=if s<m∧m<e then mH m (m-s) (e-m) d else d
   let d2:=if a<s∧s<mid then symF lt f a s mid d1 else d1
   if mid<e∧e<b then symF lt f mid e b d2 else d2
def nN (lt:α→α→Bool)(n a:Nat)(d:Array α):Array α:=
 if a+20≤n then nN lt n (a+20) (insertionSort lt d a (a+20))else insertionSort lt d a n
termination_by n -a
def mg (lt:α→α→Bool)(s n a:Nat)(d:Array α):Array α:=
 if 0<s∧a+2*s≤n then mg lt s n (a+2*s) (symF lt (2*s) a (a+s) (a+2*s) d)
 else if a+s<n then symF lt (n-a) a (a+s) n d else d
termination_by n -a
def pQ (lt:α→α→Bool)(n s:Nat)(d:Array α):Array α:=if 0<s∧s<n then pQ lt n (2*s) (mg lt s n 0 d)else d
termination_by n -s
def xI (lt:α→α→Bool)(d:Array α):Array α:=pQ lt d.size 20 (nN lt d.size 0 d)
theorem FT {a b n i:Nat}{d:Array α}(h:i<n):nU a b n i d=nU a b n (i+1) (swp d (a+i) (b+i)):=by rw[nU,qaj h]
theorem yD {a b n i:Nat}{d:Array α}(h:¬i<n):nU a b n i d=d:=by rw[nU,qai h]
theorem qB {f:Nat→Bool}{i j:Nat}(h:i<j)(hf:f ((i+j)/2)=true):fK f i j=fK f ((i+j)/2+1) j:=by rw[fK,qaj h,qaj hf]
theorem uT {f:Nat→Bool}{i j:Nat}(h:i<j)(hf:f ((i+j)/2)=false):fK f i j=fK f i ((i+j)/2):=by rw[fK,qaj h,qai (by rw[hf];decide)]
theorem kR {f:Nat→Bool}{i j:Nat}(h:¬i<j):fK f i j=i:=by rw[fK,qai h]
theorem Na {e k:Nat}{d:Array α}(h:k<e):wu e k d=wu e (k+1) (swp d k (k+1)):=by rw[wu,qaj h]
theorem Ef {e k:Nat}{d:Array α}(h:¬k<e):wu e k d=d:=by rw[wu,qai h]
theorem Nb {i k:Nat}{d:Array α}(h:i<k):wy i k d=wy i (k-1) (swp d k (k-1)):=by rw[wy,qaj h]
theorem Eg {i k:Nat}{d:Array α}(h:¬i<k):wy i k d=d:=by rw[wy,qai h]
theorem qC (a b n:Nat):∀(t i:Nat) (d:Array α),n-i=t→i≤n→a+n≤b→b+n≤d.size→
 (nU a b n i d).size=d.size∧(∀k,(nU a b n i d)[k]! =if a+i≤k∧k<a+n then d[k+(b-a)]! else if b+i≤k∧k<b+n then d[k-(b-a)]! else d[k]!):=by
 intro t
 induction t with
 |zero=>
  intro i d ht hi hab hb;rw[yD (by omega)];exact⟨rfl,fun k=>by rw[qai (by omega),qai (by omega)]⟩
 |succ t ih=>
  intro i d ht hi hab hb;rw[FT (by omega)];obtain⟨h1,h2⟩:=ih (i+1) (swp d (a+i) (b+i)) (by omega) (by omega) hab (by rw[swp_size];exact hb);refine⟨by rw[h1,swp_size],fun k=>?_⟩;rw[h2 k];simp only[swp_get d (show a+i<d.size by omega) (show b+i<d.size by omega)];by_cases c1:k=a+i
  ·subst c1;rw[qai (by omega),qai (by omega),qai (by omega),qaj rfl,qaj (by omega)];congr 1;omega
  ·by_cases c2:k=b+i
   ·subst c2;rw[qai (by omega),qai (by omega),qaj rfl,qai (by omega),qaj (by omega)];congr 1;omega
   ·by_cases c3:a+(i+1)≤k∧k<a+n
    ·rw[qaj c3,qai (by omega),qai (by omega),qaj (by omega)]
    ·rw[qai c3];by_cases c4:b+(i+1)≤k∧k<b+n
     ·rw[qaj c4,qai (by omega),qai (by omega),qai (by omega),qaj (by omega)]
     ·rw[qai c4,qai c2,qai c1,qai (by omega),qai (by omega)]
theorem yE (a b n lo hi:Nat):∀(t i:Nat) (d:Array α),n-i=t→lo≤a→a+n≤b→b+n≤hi→hi≤d.size→PermIn lo hi d (nU a b n i d):=by
 intro t
 induction t with
 |zero=>intro i d ht h1 h2 h3 h4;rw[yD (by omega)];exact permIn_refl _ _ _
 |succ t ih=>
  intro i d ht h1 h2 h3 h4;rw[FT (by omega)];refine permIn_trans _ _ _ _ _ (swp_permIn d lo hi (a+i) (b+i) (by omega) (by omega) (by omega) (by omega) h4) ?_;exact ih (i+1) _ (by omega) h1 h2 h3 (by rw[swp_size];exact h4)
theorem Nc {m i:Nat}{d:Array α}:mH m i i d=nU (m-i) m i 0 d:=by rw[mH,qaj (.inl rfl)]
theorem Nf {m i j:Nat}{d:Array α}(h:j<i)(hj:0<j):mH m i j d=mH m (i-j) j (nU (m-i) m j 0 d):=by rw[mH,qai (by omega),qaj h]
theorem Ng {m i j:Nat}{d:Array α}(h:i<j)(hi:0<i):mH m i j d=mH m i (j-i) (nU (m-i) (m+j-i) i 0 d):=by rw[mH,qai (by omega),qai (by omega)]
theorem yF :∀(t m i j:Nat) (d:Array α),i+j≤t→0<i→0<j→i≤m→m+j≤d.size→
 (mH m i j d).size=d.size∧(∀k,(mH m i j d)[k]! =if m-i≤k∧k<m-i+j then d[k+i]! else if m-i+j≤k∧k<m+j then d[k-j]! else d[k]!)∧∀lo hi,lo≤m-i→m+j≤hi→hi≤d.size→PermIn lo hi d (mH m i j d):=by
 intro t
 induction t with
 |zero=>intro m i j d ht hi;omega
 |succ t ih=>
  intro m i j d ht hi hj him ZR;rcases Nat.lt_trichotomy i j with h|h|h
  ·obtain⟨s1,s2⟩:=qC (m-i) (m+j-i) i (i-0) 0 d rfl (Nat.zero_le _) (by omega) (by omega);have sp:∀lo hi,lo≤m-i→m+j≤hi→hi≤d.size→PermIn lo hi d (nU (m-i) (m+j-i) i 0 d):=fun lo hi h1 h2 h3=>yE (m-i) (m+j-i) i lo hi (i-0) 0 d rfl h1 (by omega) (by omega) h3;rw[Ng h hi];obtain⟨r1,r2,r3⟩:=ih m i (j-i) (nU (m-i) (m+j-i) i 0 d) (by omega) hi (by omega) him (by rw[s1];omega);refine⟨by rw[r1,s1],fun k=>?_,fun lo hi' h1 h2 h3=>permIn_trans _ _ _ _ _ (sp lo hi' h1 h2 h3) (r3 lo hi' h1 (by omega) (by rw[s1];exact h3))⟩;rw[r2 k];simp only[s2];by_cases c1:m-i≤k∧k<m-i+(j-i)
   ·rw[qaj c1,qai (by omega),qai (by omega),qaj (by omega)]
   ·rw[qai c1];by_cases c2:m-i+(j-i)≤k∧k<m+(j-i)
    ·rw[qaj c2,qaj (by omega),qaj (by omega)];congr 1;omega
    ·rw[qai c2];by_cases c3:m-i+j≤k∧k<m+j
     ·rw[qai (by omega),qaj (by omega),qai (by omega),qaj c3];congr 1;omega
     ·rw[qai (by omega),qai (by omega),qai (by omega),qai c3]
  ·subst h;rw[Nc];obtain⟨s1,s2⟩:=qC (m-i) m i (i-0) 0 d rfl (Nat.zero_le _) (by omega) (by omega);refine⟨s1,fun k=>?_,fun lo hi' h1 h2 h3=>yE (m-i) m i lo hi' (i-0) 0 d rfl h1 (by omega) h2 h3⟩;rw[s2 k];by_cases c1:m-i≤k∧k<m-i+i
   ·rw[qaj (by omega),qaj c1];congr 1;omega
   ·rw[qai (by omega),qai c1];by_cases c2:m-i+i≤k∧k<m+i
    ·rw[qaj (by omega),qaj c2];congr 1;omega
    ·rw[qai (by omega),qai c2]
  ·obtain⟨s1,s2⟩:=qC (m-i) m j (j-0) 0 d rfl (Nat.zero_le _) (by omega) (by omega);have sp:∀lo hi,lo≤m-i→m+j≤hi→hi≤d.size→PermIn lo hi d (nU (m-i) m j 0 d):=fun lo hi h1 h2 h3=>yE (m-i) m j lo hi (j-0) 0 d rfl h1 (by omega) h2 h3;rw[Nf h hj];obtain⟨r1,r2,r3⟩:=ih m (i-j) j (nU (m-i) m j 0 d) (by omega) (by omega) hj (by omega) (by rw[s1];omega);refine⟨by rw[r1,s1],fun k=>?_,fun lo hi' h1 h2 h3=>permIn_trans _ _ _ _ _ (sp lo hi' h1 h2 h3) (r3 lo hi' (by omega) h2 (by rw[s1];exact h3))⟩;rw[r2 k];simp only[s2];by_cases c0:m-i≤k∧k<m-i+j
   ·rw[qai (by omega),qai (by omega),qaj (by omega),qaj c0];congr 1;omega
   ·rw[qai c0];by_cases c1:m-(i-j)≤k∧k<m-(i-j)+j
    ·rw[qaj c1,qai (by omega),qaj (by omega),qaj (by omega)];congr 1;omega
    ·rw[qai c1];by_cases c2:m-(i-j)+j≤k∧k<m+j
     ·rw[qaj c2,qai (by omega),qai (by omega),qaj (by omega)]
     ·rw[qai c2,qai (by omega),qai (by omega),qai (by omega)]
theorem yG (f:Nat→Bool):∀(t i j:Nat),j-i≤t→i≤j→(∀x y,i≤x→x≤y→y<j→f y=true→f x=true)→
 i≤fK f i j∧fK f i j≤j∧(∀x,i≤x→x<fK f i j→f x=true)∧∀x,fK f i j≤x→x<j→f x=false:=by
 intro t
 induction t with
 |zero=>
  intro i j ht hij hm;rw[kR (by omega)];exact⟨qaf _,hij,fun x h1 h2=>by omega,fun x h1 h2=>by omega⟩
 |succ t ih=>
  intro i j ht hij hm;by_cases h:i<j
  ·cases hf:f ((i+j)/2)with
   |true=>
    rw[qB h hf];obtain⟨h1,h2,h3,h4⟩:=ih ((i+j)/2+1) j (by omega) (by omega) (fun x y a b c=>hm x y (by omega) b c);refine⟨by omega,h2,fun x h5 h6=>?_,h4⟩;by_cases h7:x≤(i+j)/2
    ·exact hm x _ h5 h7 (by omega) hf
    ·exact h3 x (by omega) h6
   |false=>
    rw[uT h hf];obtain⟨h1,h2,h3,h4⟩:=ih i ((i+j)/2) (by omega) (by omega) (fun x y a b c=>hm x y a b (by omega));refine⟨h1,by omega,h3,fun x h5 h6=>?_⟩;by_cases h7:x<(i+j)/2
    ·exact h4 x h5 h7
    ·cases hx:f x with
     |false=>rfl
     |true=>
      have:=hm ((i+j)/2) x (by omega) (by omega) h6 hx;rw[hf]at this;cases this
  ·rw[kR h];exact⟨qaf _,hij,fun x h1 h2=>by omega,fun x h1 h2=>by omega⟩
theorem Eh (e:Nat):∀(t k:Nat) (d:Array α),e-k=t→k≤e→e<d.size→
 (wu e k d).size=d.size∧(∀x,(wu e k d)[x]! =if k≤x∧x<e then d[x+1]! else if x=e then d[k]! else d[x]!)∧∀lo hi,lo≤k→e<hi→hi≤d.size→PermIn lo hi d (wu e k d):=by
 intro t
 induction t with
 |zero=>
  intro k d ht hk he;rw[Ef (by omega)];refine⟨rfl,fun x=>?_,fun _ _ _ _ _=>permIn_refl _ _ _⟩;rw[qai (by omega)];by_cases c:x=e
  ·rw[qaj c,c];congr 1;omega
  ·rw[qai c]
 |succ t ih=>
  intro k d ht hk he;rw[Na (by omega)];obtain⟨h1,h2,h3⟩:=ih (k+1) (swp d k (k+1)) (by omega) (by omega) (by rw[swp_size];exact he);refine⟨by rw[h1,swp_size],fun x=>?_,fun lo hi a b c=>permIn_trans _ _ _ _ _ (swp_permIn d lo hi k (k+1) a (by omega) (by omega) (by omega) c) (h3 lo hi (by omega) b (by rw[swp_size];exact c))⟩;rw[h2 x];simp only[swp_get d (show k<d.size by omega) (show k+1<d.size by omega)];by_cases c1:k+1≤x∧x<e
  ·rw[qaj c1,qai (by omega),qai (by omega),qaj (by omega)]
  ·rw[qai c1];by_cases c2:x=e
   ·rw[qaj c2,qaj trivial,qai (by omega),qaj c2]
   ·rw[qai c2];by_cases c3:x=k
    ·rw[qai (by omega),qaj c3,qaj (by omega),c3]
    ·rw[qai (by omega),qai c3,qai (by omega),qai c2]
theorem Ei (i:Nat):∀(t k:Nat) (d:Array α),k-i=t→i≤k→k<d.size→
 (wy i k d).size=d.size∧(∀x,(wy i k d)[x]! =if i<x∧x≤k then d[x-1]! else if x=i then d[k]! else d[x]!)∧∀lo hi,lo≤i→k<hi→hi≤d.size→PermIn lo hi d (wy i k d):=by
 intro t
 induction t with
 |zero=>
  intro k d ht hk he;rw[Eg (by omega)];refine⟨rfl,fun x=>?_,fun _ _ _ _ _=>permIn_refl _ _ _⟩;rw[qai (by omega)];by_cases c:x=i
  ·rw[qaj c,c];congr 1;omega
  ·rw[qai c]
 |succ t ih=>
  intro k d ht hk he;rw[Nb (by omega)];obtain⟨h1,h2,h3⟩:=ih (k-1) (swp d k (k-1)) (by omega) (by omega) (by rw[swp_size];omega);refine⟨by rw[h1,swp_size],fun x=>?_,fun lo hi a b c=>permIn_trans _ _ _ _ _ (swp_permIn d lo hi k (k-1) (by omega) b (by omega) (by omega) c) (h3 lo hi a (by omega) (by rw[swp_size];exact c))⟩;rw[h2 x];simp only[swp_get d (show k<d.size by omega) (show k-1<d.size by omega)];by_cases c1:i<x∧x≤k-1
  ·rw[qaj c1,qai (by omega),qai (by omega),qaj (by omega)]
  ·rw[qai c1];by_cases c2:x=i
   ·rw[qaj c2,qaj trivial,qai (by omega),qaj c2]
   ·rw[qai c2];by_cases c3:x=k
    ·rw[qai (by omega),qaj c3,qaj (by omega),c3]
    ·rw[qai (by omega),qai c3,qai (by omega),qai c2]
end Sb
end Go.Proofs.YtaimcpmcndapcaaGreat

namespace Go.Proofs.YtaimcpmcndapcaaGreat
open Go.Proofs.Tryz
namespace Sb
open Go.Sort
variable {α : Type} {lt : α → α → Bool} {tg : α → Nat}
def R (lt:α→α→Bool)(tg:α→Nat)(x y:α):Prop:=lt x y=true∨(lt y x=false∧tg x<tg y)
theorem R.trans (hS:SWO lt){x y z:α}(h:R lt tg x y)(h':R lt tg y z):R lt tg x z:=by
 rcases h with h|⟨h,ht⟩<;>rcases h' with h'|⟨h',ht'⟩
 ·exact .inl (hS.trans _ _ _ h h')
 ·left;cases hx:lt x z with
  |true=>rfl
  |false=>have:=hS.ntrans _ _ _ hx h';rw[h]at this;cases this
 ·left;cases hx:lt x z with
  |true=>rfl
  |false=>have:=hS.ntrans _ _ _ h hx;rw[h']at this;cases this
 ·exact .inr ⟨hS.ntrans _ _ _ h' h,by omega⟩
theorem tC {x y:α}(h:lt x y=true):R lt tg x y:=.inl h
theorem VG {x y:α}(ht:tg x<tg y)(h:R lt tg y x):lt y x=true:=by
 rcases h with h|⟨_,h⟩
 ·exact h
 ·omega
theorem UU (hS:SWO lt){x y:α}(h:R lt tg x y):lt y x=false:=by
 rcases h with h|⟨h,_⟩
 ·exact hS.asymmA h
 ·exact h
theorem qD {x y:α}(ht:tg x<tg y)(h:lt y x=false):R lt tg x y:=.inr ⟨h,ht⟩
variable [Inhabited α]
def Sr (lt:α→α→Bool)(tg:α→Nat)(a b:Nat)(d:Array α):Prop:=∀i j,a≤i→i<j→j<b→R lt tg d[i]! d[j]!
theorem Sr.sub {a b a' b':Nat}{d:Array α}(h:Sr lt tg a b d)(h1:a≤a')(h2:b'≤b):Sr lt tg a' b' d:=fun i j x y z=>h i j (by omega) y (by omega)
theorem Sr.le (hS:SWO lt){a b:Nat}{d:Array α}(h:Sr lt tg a b d){x y:Nat}{z:α}(hx:a≤x)(hxy:x≤y)(hy:y<b)(hr:R lt tg d[y]! z):R lt tg d[x]! z:=by
 rcases Nat.lt_or_ge x y with h1|h1
 ·exact(h x y hx h1 hy).trans hS hr
 ·obtain rfl:x=y:=by omega
  exact hr
theorem Sr.ge (hS:SWO lt){a b:Nat}{d:Array α}(h:Sr lt tg a b d){x y:Nat}{z:α}(hx:a≤x)(hxy:x≤y)(hy:y<b)(hr:R lt tg z d[x]!):R lt tg z d[y]! :=by
 rcases Nat.lt_or_ge x y with h1|h1
 ·exact hr.trans hS (h x y hx h1 hy)
 ·obtain rfl:x=y:=by omega
  exact hr
structure Pre (lt : α → α → Bool) (tg : α → Nat) (a m b : Nat) (d : Array α) : Prop where
 am:a<m
 mb:m<b
 bs:b≤d.size
 l:Sr lt tg a m d
 r:Sr lt tg m b d
 t:∀i j,a≤i→i<m→m≤j→j<b→tg d[i]! <tg d[j]!
theorem Oa (hS:SWO lt){a m b:Nat}{d:Array α}(p:Pre lt tg a m b d)(h1:m-a=1):
 Sr lt tg a b (wu (fK (fun h=>lt d[h]! d[a]!) m b-1) a d)∧PermIn a b d (wu (fK (fun h=>lt d[h]! d[a]!) m b-1) a d):=by
 have am:=p.am;have mb:=p.mb;have bs:=p.bs;obtain⟨s1,s2,s3,s4⟩:=yG (fun h=>lt d[h]! d[a]!) (b-m) m b (qaf _) (by omega) (fun x y hx hxy hy hf=>by
  refine VG (p.t a x (by omega) am hx (by omega)) (p.r.le hS hx hxy hy ?_);exact tC hf)
 generalize fK (fun h=>lt d[h]! d[a]!) m b=s at*;obtain⟨u1,u2,u3⟩:=Eh (s-1) (s-1-a) a d rfl (by omega) (by omega);refine⟨fun i j hi hij hj=>?_,u3 a b (qaf _) (by omega) bs⟩;rw[u2 i,u2 j];have vK:∀h,m≤h→h<s→R lt tg d[h]! d[a]! :=fun h h2 h3=>tC (s3 h h2 h3);have hno:∀h,s≤h→h<b→R lt tg d[a]! d[h]! :=fun h h2 h3=>qD (p.t a h (by omega) am (by omega) h3) (s4 h h2 h3);by_cases c1:j<s-1
 ·rw[qaj (by omega),qaj (by omega)];exact p.r (i+1) (j+1) (by omega) (by omega) (by omega)
 ·by_cases c2:j=s-1
  ·rw[qaj (by omega),qai (by omega),qaj c2];exact vK (i+1) (by omega) (by omega)
  ·rw[qai (show¬(a≤j∧j<s-1)by omega),qai c2];by_cases c3:i<s-1
   ·rw[qaj (by omega)];exact p.r (i+1) j (by omega) (by omega) hj
   ·rw[qai (by omega)];by_cases c4:i=s-1
    ·rw[qaj c4];exact hno j (by omega) hj
    ·rw[qai c4];exact p.r i j (by omega) hij hj
theorem KC (hS:SWO lt){a m b:Nat}{d:Array α}(p:Pre lt tg a m b d)(h1:b-m=1):
 Sr lt tg a b (wy (fK (fun h=>!lt d[m]! d[h]!) a m) m d)∧PermIn a b d (wy (fK (fun h=>!lt d[m]! d[h]!) a m) m d):=by
 have am:=p.am;have mb:=p.mb;have bs:=p.bs;obtain⟨s1,s2,s3,s4⟩:=yG (fun h=>!lt d[m]! d[h]!) (m-a) a m (qaf _) (by omega) (fun x y hx hxy hy hf=>by
  have h2:R lt tg d[y]! d[m]! :=qD (p.t y m (by omega) hy (qaf _) mb) (by simpa using hf);have h3:=UU hS (p.l.le hS hx hxy hy h2);simp[h3])
 generalize fK (fun h=>!lt d[m]! d[h]!) a m=s at*;obtain⟨u1,u2,u3⟩:=Ei s (m-s) m d rfl (by omega) (by omega);refine⟨fun i j hi hij hj=>?_,u3 a b (by omega) mb bs⟩;rw[u2 i,u2 j];have vK:∀h,a≤h→h<s→R lt tg d[h]! d[m]! :=fun h h2 h3=>qD (p.t h m h2 (by omega) (qaf _) mb) (by simpa using s3 h h2 h3);have hno:∀h,s≤h→h<m→R lt tg d[m]! d[h]! :=fun h h2 h3=>tC (by simpa using s4 h h2 h3);by_cases c1:j<s
 ·rw[qai (by omega),qai (by omega),qai (by omega),qai (by omega)];exact p.l i j hi hij (by omega)
 ·by_cases c2:j=s
  ·rw[qai (by omega),qai (by omega),qai (by omega),qaj c2];exact vK i hi (by omega)
  ·rw[qaj (show s<j∧j≤m by omega)];by_cases c3:i<s
   ·rw[qai (by omega),qai (by omega)];exact p.l i (j-1) hi (by omega) (by omega)
   ·by_cases c4:i=s
    ·rw[qai (by omega),qaj c4];exact hno (j-1) (by omega) (by omega)
    ·rw[qaj (by omega)];exact p.l (i-1) (j-1) (by omega) (by omega) (by omega)
theorem Ob (hS:SWO lt){a m b:Nat}{d:Array α}(p:Pre lt tg a m b d):
 ∃s,s=tu lt a m b d∧a≤s∧s≤m∧s≤(a+b)/2∧(a+b)/2+m-s≤b∧m≤(a+b)/2+m-s∧
  (∀x y,a≤x→x<s→(a+b)/2+m-s≤y→y<b→R lt tg d[x]! d[y]!)∧(∀x y,m≤x→x<(a+b)/2+m-s→s≤y→y<m→R lt tg d[x]! d[y]!):=by
 have am:=p.am;have mb:=p.mb;have bs:=p.bs;obtain⟨mid,hmid⟩:=qaa ((a+b)/2);have key:∀lo hi,a≤lo→lo≤hi→hi≤m→hi≤mid→mid+m-b≤lo→(lo=a∨mid+m-lo=b)→(hi=m∨hi=mid)→
  ∃s,s=fK (fun c=>!lt d[mid+m-1-c]! d[c]!) lo hi∧a≤s∧s≤m∧s≤mid∧mid+m-s≤b∧m≤mid+m-s∧
  (∀x y,a≤x→x<s→mid+m-s≤y→y<b→R lt tg d[x]! d[y]!)∧(∀x y,m≤x→x<mid+m-s→s≤y→y<m→R lt tg d[x]! d[y]!):=by
  intro lo hi h1 h2 h3 h4 h5 h6 h7;have hR:∀c,lo≤c→c<hi→tg d[c]! <tg d[mid+m-1-c]! :=fun c c1 c2=>p.t c (mid+m-1-c) (by omega) (by omega) (by omega) (by omega);obtain⟨s1,s2,s3,s4⟩:=yG (fun c=>!lt d[mid+m-1-c]! d[c]!) (hi-lo) lo hi (qaf _) h2 (fun x y hx hxy hy hf=>by
   have h8:R lt tg d[y]! d[mid+m-1-y]! :=qD (hR y (by omega) hy) (by simpa using hf);have h9:R lt tg d[y]! d[mid+m-1-x]! :=p.r.ge hS (by omega) (by omega) (by omega) h8;have h10:=UU hS (p.l.le hS (by omega) hxy (by omega) h9);simp[h10])
  generalize fK (fun c=>!lt d[mid+m-1-c]! d[c]!) lo hi=s at*;refine⟨s,rfl,by omega,by omega,by omega,by omega,by omega,fun x y hx hxs hy hyb=>?_,fun x y hx hxe hy hym=>?_⟩
  ·have Zx:lo<s:=by omega
   have h8:R lt tg d[s-1]! d[mid+m-1-(s-1)]! :=qD (hR (s-1) (by omega) (by omega)) (by simpa using s3 (s-1) (by omega) (by omega));exact p.l.le hS hx (by omega) (by omega) (p.r.ge hS (by omega) (by omega) hyb h8)
  ·have WT:s<hi:=by omega
   have h8:R lt tg d[mid+m-1-s]! d[s]! :=tC (by simpa using s4 s (qaf _) WT);exact p.r.le hS hx (by omega) (by omega) (p.l.ge hS (by omega) hy hym h8)
 unfold tu;rw[←hmid];by_cases c:mid<m
 ·rw[qaj c];exact key (mid+m-b) mid (by omega) (by omega) (by omega) (qaf _) (qaf _) (by omega) (.inr rfl)
 ·rw[qai c];exact key a m (qaf _) (by omega) (qaf _) (by omega) (by omega) (.inl rfl) (.inl rfl)
theorem Oc (hS:SWO lt):∀(f a m b:Nat) (d:Array α),b-a≤f→Pre lt tg a m b d→Sr lt tg a b (symF lt f a m b d)∧PermIn a b d (symF lt f a m b d):=by
 intro f
 induction f with
 |zero=>intro a m b d hf p;have:=p.am;have:=p.mb;omega
 |succ f ih=>
  intro a m b d hf p;have am:=p.am;have mb:=p.mb;have bs:=p.bs;unfold symF;by_cases c1:m-a=1
  ·rw[qaj c1];exact Oa hS p c1
  ·rw[qai c1];by_cases c2:b-m=1
   ·rw[qaj c2];exact KC hS p c2
   ·rw[qai c2];obtain⟨s,hs,has,sm,sd,eb,me,hx1,hx2⟩:=Ob hS p;simp only[←hs];obtain⟨mid,hmid⟩:=qaa ((a+b)/2);rw[←hmid]at sd eb me hx1 hx2;simp only[←hmid];obtain⟨e,he⟩:=qaa (mid+m-s);rw[←he]at eb me hx1 hx2;simp only[←he];clear hs;obtain⟨d1,hd1⟩:=qaa (if s<m∧m<e then mH m (m-s) (e-m) d else d);rw[←hd1];have WU:d1.size=d.size∧(∀k,d1[k]! =if s≤k∧k<mid then d[k+(m-s)]! else if mid≤k∧k<e then d[k-(e-m)]! else d[k]!)∧PermIn a b d d1:=by
     by_cases c3:s<m∧m<e
     ·rw[qaj c3]at hd1;obtain⟨r1,r2,r3⟩:=yF (m-s+(e-m)) m (m-s) (e-m) d (qaf _) (by omega) (by omega) (by omega) (by omega);rw[hd1];refine⟨r1,fun k=>?_,r3 a b (by omega) (by omega) bs⟩;rw[r2 k,show m-(m-s)=s by omega,show s+(e-m)=mid by omega,show m+(e-m)=e by omega]
     ·rw[qai c3]at hd1;rw[hd1];refine⟨rfl,fun k=>?_,permIn_refl _ _ _⟩;by_cases c4:s≤k∧k<mid
      ·rw[qaj c4,show m-s=0 by omega,Nat.add_zero]
      ·rw[qai c4];by_cases c5:mid≤k∧k<e
       ·rw[qaj c5,show e-m=0 by omega,Nat.sub_zero]
       ·rw[qai c5]
    clear hd1;obtain⟨z1,g1,q1⟩:=WU;have v1:∀k,a≤k→k<s→d1[k]! =d[k]! :=fun k h1 h2=>by rw[g1 k,qai (by omega),qai (by omega)]
    have v2:∀k,s≤k→k<mid→d1[k]! =d[k+(m-s)]! :=fun k h1 h2=>by rw[g1 k,qaj ⟨h1,h2⟩]
    have v3:∀k,mid≤k→k<e→d1[k]! =d[k-(e-m)]! :=fun k h1 h2=>by rw[g1 k,qai (by omega),qaj ⟨h1,h2⟩]
    have v4:∀k,e≤k→d1[k]! =d[k]! :=fun k h1=>by rw[g1 k,qai (by omega),qai (by omega)]
    have o1:Sr lt tg a s d1:=fun i j h1 h2 h3=>by rw[v1 i h1 (by omega),v1 j (by omega) h3];exact p.l i j h1 h2 (by omega)
    have o2:Sr lt tg s mid d1:=fun i j h1 h2 h3=>by rw[v2 i h1 (by omega),v2 j (by omega) h3];exact p.r _ _ (by omega) (by omega) (by omega)
    have o3:Sr lt tg mid e d1:=fun i j h1 h2 h3=>by rw[v3 i h1 (by omega),v3 j (by omega) h3];exact p.l _ _ (by omega) (by omega) (by omega)
    have o4:Sr lt tg e b d1:=fun i j h1 h2 h3=>by rw[v4 i h1,v4 j (by omega)];exact p.r i j (by omega) h2 h3
    have cross:∀x y,a≤x→x<mid→mid≤y→y<b→R lt tg d1[x]! d1[y]! :=fun x y h1 h2 h3 h4=>by
     by_cases c5:x<s
     ·rw[v1 x h1 c5];by_cases c6:y<e
      ·rw[v3 y h3 c6];exact p.l _ _ h1 (by omega) (by omega)
      ·rw[v4 y (by omega)];exact hx1 x y h1 c5 (by omega) h4
     ·rw[v2 x (by omega) h2];by_cases c6:y<e
      ·rw[v3 y h3 c6];exact hx2 _ _ (by omega) (by omega) (by omega) (by omega)
      ·rw[v4 y (by omega)];exact p.r _ _ (by omega) (by omega) h4
    obtain⟨d2,hd2⟩:=qaa (if a<s∧s<mid then symF lt f a s mid d1 else d1);rw[←hd2];have hp2:Sr lt tg a mid d2∧PermIn a mid d1 d2:=by
     by_cases c3:a<s∧s<mid
     ·rw[qaj c3]at hd2;rw[hd2];refine ih a s mid d1 (by omega) ⟨c3.1,c3.2,by omega,o1,o2,fun i j h1 h2 h3 h4=>?_⟩;rw[v1 i h1 h2,v2 j h3 h4];exact p.t _ _ h1 (by omega) (by omega) (by omega)
     ·rw[qai c3]at hd2;rw[hd2];refine⟨?_,permIn_refl _ _ _⟩;by_cases c4:a<s
      ·exact o1.sub (qaf _) (by omega)
      ·exact o2.sub (by omega) (qaf _)
    clear hd2;obtain⟨o5,q2⟩:=hp2;have w2:∀k,mid≤k→d2[k]! =d1[k]! :=fun k h1=>q2.2.1 k (.inr h1);obtain⟨d3,hd3⟩:=qaa (if mid<e∧e<b then symF lt f mid e b d2 else d2);rw[←hd3];have hp3:Sr lt tg mid b d3∧PermIn mid b d2 d3:=by
     have WV:Sr lt tg mid e d2:=fun i j h1 h2 h3=>by rw[w2 i h1,w2 j (by omega)];exact o3 i j h1 h2 h3
     have WW:Sr lt tg e b d2:=fun i j h1 h2 h3=>by rw[w2 i (by omega),w2 j (by omega)];exact o4 i j h1 h2 h3
     by_cases c3:mid<e∧e<b
     ·rw[qaj c3]at hd3;rw[hd3];refine ih mid e b d2 (by omega) ⟨c3.1,c3.2,by rw[q2.1,z1];exact bs,WV,WW,fun i j h1 h2 h3 h4=>?_⟩;rw[w2 i h1,w2 j (by omega),v3 i h1 h2,v4 j h3];exact p.t _ _ (by omega) (by omega) (by omega) h4
     ·rw[qai c3]at hd3;rw[hd3];refine⟨?_,permIn_refl _ _ _⟩;by_cases c4:mid<e
      ·exact WV.sub (qaf _) (by omega)
      ·exact WW.sub (by omega) (qaf _)
    clear hd3;obtain⟨o6,q3⟩:=hp3;have w3:∀k,k<mid→d3[k]! =d2[k]! :=fun k h1=>q3.2.1 k (.inl h1);have x1:∀x,a≤x→x<mid→∀y,mid≤y→y<b→R lt tg d2[x]! d1[y]! :=
     permIn_all d1 d2 a mid (fun u=>∀y,mid≤y→y<b→R lt tg u d1[y]!) (by omega) q2 (fun x h1 h2 y h3 h4=>cross x y h1 h2 h3 h4)
    have x2:∀y,mid≤y→y<b→∀x,a≤x→x<mid→R lt tg d2[x]! d3[y]! :=
     permIn_all d2 d3 mid b (fun v=>∀x,a≤x→x<mid→R lt tg d2[x]! v) (by rw[q2.1,z1];exact bs) q3 (fun y h3 h4 x h1 h2=>by rw[w2 y h3];exact x1 x h1 h2 y h3 h4)
    refine⟨fun i j h1 h2 h3=>?_,?_⟩
    ·by_cases c5:j<mid
     ·rw[w3 i (by omega),w3 j c5];exact o5 i j h1 h2 c5
     ·by_cases c6:i<mid
      ·rw[w3 i c6];exact x2 j (by omega) h3 i h1 c6
      ·exact o6 i j (by omega) h2 h3
    ·refine permIn_trans _ _ _ _ _ q1 (permIn_trans _ _ _ _ _ (permIn_mono d1 d2 a mid a b (qaf _) (by omega) (by omega) q2) (permIn_mono d2 d3 mid b a b (by omega) (qaf _) (by rw[q2.1,z1];exact bs) q3))
end Sb
end Go.Proofs.YtaimcpmcndapcaaGreat

namespace Go.Proofs.YtaimcpmcndapcaaGreat
open Go.Proofs.Tryz
namespace Sb
open Go.Sort
variable {α : Type} [Inhabited α] {lt : α → α → Bool} {tg : α → Nat}
structure In (lt : α → α → Bool) (tg : α → Nat) (a j i : Nat) (d : Array α) : Prop where
 o:∀x y,a≤x→x<y→y≤i→x≠j→y≠j→R lt tg d[x]! d[y]!
 g:∀y,j<y→y≤i→R lt tg d[j]! d[y]!
 t:∀x,a≤x→x<j→tg d[x]! <tg d[j]!
theorem Ia (hS:SWO lt)(a i:Nat):∀(j:Nat) (d:Array α),a≤j→j≤i→i<d.size→In lt tg a j i d→Sr lt tg a (i+1) (insInner lt a j d)∧PermIn a (i+1) d (insInner lt a j d):=by
 intro j
 induction j with
 |zero=>
  intro d haj hji hi h;rw[insInner_stop lt a 0 d (.inl (by omega))];refine⟨fun x y h1 h2 h3=>?_,permIn_refl _ _ _⟩;by_cases c:x=0
  ·subst c;exact h.g y h2 (by omega)
  ·exact h.o x y h1 h2 (by omega) c (by omega)
 |succ j ih=>
  intro d haj hji hi h;by_cases hs:j+1≤a∨lt d[j+1]! d[j]! =false
  ·rw[insInner_stop lt a (j+1) d (by simpa using hs)];refine⟨fun x y h1 h2 h3=>?_,permIn_refl _ _ _⟩;by_cases c:x=j+1
   ·subst c;exact h.g y h2 (by omega)
   ·by_cases c2:y=j+1
    ·subst c2;have hn:lt d[j+1]! d[j]! =false:=by
      rcases hs with hs|hs
      ·omega
      ·exact hs
     have h4:R lt tg d[j]! d[j+1]! :=qD (h.t j (by omega) (by omega)) hn;by_cases c3:x=j
     ·rw[c3];exact h4
     ·exact(h.o x j h1 (by omega) (by omega) c (by omega)).trans hS h4
    ·exact h.o x y h1 h2 (by omega) c c2
  ·have hja:a<j+1:=by omega
   have hl:lt d[j+1]! d[j]! =true:=by
    cases hx:lt d[j+1]! d[j]! with
    |true=>rfl
    |false=>exact absurd (.inr hx) hs
   rw[insInner_go lt a (j+1) d hja hl,Nat.add_sub_cancel];have gt:=fun k=>swp_get d (show j+1<d.size by omega) (show j<d.size by omega) k;have h1:=ih (swp d (j+1) j) (by omega) (by omega) (by rw[swp_size];exact hi) ⟨fun x y h1 h2 h3 h4 h5=>?_,fun y h1 h2=>?_,fun x h1 h2=>?_⟩
   ·exact⟨h1.1,permIn_trans _ _ _ _ _ (swp_permIn d a (i+1) (j+1) j (by omega) (by omega) (by omega) (by omega) (by omega)) h1.2⟩
   ·rw[gt x,gt y,qai h4,qai h5];by_cases c:y=j+1
    ·rw[qai (by omega),qaj c];exact h.o x j h1 (by omega) (by omega) (by omega) (by omega)
    ·rw[qai c];by_cases c2:x=j+1
     ·rw[qaj c2];exact h.o j y (by omega) (by omega) h3 (by omega) c
     ·rw[qai c2];exact h.o x y h1 h2 h3 c2 c
   ·rw[gt j,gt y,qaj rfl,qai (by omega)];by_cases c:y=j+1
    ·rw[qaj c];exact tC hl
    ·rw[qai c];exact h.g y (by omega) h2
   ·rw[gt x,gt j,qaj rfl,qai (by omega),qai (by omega)];exact h.t x h1 (by omega)
theorem Ib (hS:SWO lt)(a b:Nat):∀(t i:Nat) (d:Array α),b-i=t→a<i→i≤b→b≤d.size→Sr lt tg a i d→(∀x y,a≤x→x<y→i≤y→y<b→tg d[x]! <tg d[y]!)→
 Sr lt tg a b (insOuter lt a b i d)∧PermIn a b d (insOuter lt a b i d):=by
 intro t
 induction t with
 |zero=>
  intro i d ht ha hi hb hs _;rw[insOuter_stop lt a b i d (by omega)];obtain rfl:i=b:=by omega
  exact⟨hs,permIn_refl _ _ _⟩
 |succ t ih=>
  intro i d ht ha hi hb hs tF;rw[insOuter_go lt a b i d (by omega)];obtain⟨h1,h2⟩:=Ia (tg:=tg) hS a i i d (by omega) (qaf _) (by omega) ⟨fun x y h1 h2 h3 h4 h5=>hs x y h1 h2 (by omega),fun y h1 h2=>by omega,fun x h1 h2=>tF x i h1 h2 (qaf _) (by omega)⟩;have w:∀k,i+1≤k→(insInner lt a i d)[k]! =d[k]! :=fun k hk=>h2.2.1 k (.inr hk);have ha2:∀x,a≤x→x<i+1→∀y,i+1≤y→y<b→tg (insInner lt a i d)[x]! <tg d[y]! :=
   permIn_all d _ a (i+1) (fun u=>∀y,i+1≤y→y<b→tg u<tg d[y]!) (by omega) h2 (fun x h3 h4 y h5 h6=>tF x y h3 (by omega) (by omega) h6)
  obtain⟨h3,h4⟩:=ih (i+1) (insInner lt a i d) (by omega) (by omega) (by omega) (by rw[h2.1];exact hb) h1 (fun x y h3 h4 h5 h6=>by
   rw[w y h5];by_cases c:x<i+1
   ·exact ha2 x h3 c y h5 h6
   ·rw[w x (by omega)];exact tF x y h3 h4 (by omega) h6)
  exact⟨h3,permIn_trans _ _ _ _ _ (permIn_mono d _ a (i+1) a b (qaf _) (by omega) hb h2) h4⟩
theorem yH (hS:SWO lt){a b:Nat}{d:Array α}(hab:a≤b)(hb:b≤d.size)(tF:∀x y,a≤x→x<y→y<b→tg d[x]! <tg d[y]!):Sr lt tg a b (insertionSort lt d a b)∧PermIn a b d (insertionSort lt d a b):=by
 unfold insertionSort;by_cases c:a<b
 ·exact Ib hS a b (b-(a+1)) (a+1) d rfl (by omega) (by omega) hb (fun x y h1 h2 h3=>by omega) (fun x y h1 h2 _ h3=>tF x y h1 h2 h3)
 ·rw[insOuter_stop lt a b (a+1) d (by omega)];exact⟨fun x y h1 h2 h3=>by omega,permIn_refl _ _ _⟩
def Ok (lt:α→α→Bool)(tg:α→Nat)(a b:Nat)(d:Array α):Prop:=Sr lt tg a b d∧∀i,a≤i→i<b→a≤tg d[i]! ∧tg d[i]! <b
theorem Ok.same {a b:Nat}{d d':Array α}(h:Ok lt tg a b d)(hs:∀i,a≤i→i<b→d'[i]! =d[i]!):Ok lt tg a b d':=
 ⟨fun i j h1 h2 h3=>by rw[hs i h1 (by omega),hs j (by omega) h3];exact h.1 i j h1 h2 h3,fun i h1 h2=>by rw[hs i h1 h2];exact h.2 i h1 h2⟩
theorem Ok.none {a b:Nat}{d:Array α}(h:b≤a):Ok lt tg a b d:=⟨fun i j h1 h2 h3=>by omega,fun i h1 h2=>by omega⟩
theorem Ok.merge (hS:SWO lt){a m b f:Nat}{d:Array α}(h1:Ok lt tg a m d)(h2:Ok lt tg m b d)(Qw:a<m)(hmb:m<b)(hb:b≤d.size)(hf:b-a≤f):Ok lt tg a b (symF lt f a m b d)∧PermIn a b d (symF lt f a m b d):=by
 obtain⟨q1,q2⟩:=Oc (tg:=tg) hS f a m b d hf ⟨Qw,hmb,hb,h1.1,h2.1,fun i j a1 a2 a3 a4=>by have:=(h1.2 i a1 a2).2;have:=(h2.2 j a3 a4).1;omega⟩;refine⟨⟨q1,permIn_all d _ a b (fun u=>a≤tg u∧tg u<b) hb q2 fun i a1 a2=>?_⟩,q2⟩;by_cases c:i<m
 ·have:=h1.2 i a1 c;omega
 ·have:=h2.2 i (by omega) a2;omega
theorem jE {s a c:Nat}(ha:s∣a)(hc:s∣c)(h:a<c):a+s≤c:=by
 have:=Nat.le_of_dvd (by omega) (Nat.dvd_sub hc ha);omega
theorem KD (hS:SWO lt)(n:Nat):∀(t a:Nat) (d:Array α),n-a≤t→20∣a→a≤n→n=d.size→(∀c,20∣c→c<a→Ok lt tg c (c+20) d)→(∀i,a≤i→i<n→tg d[i]! =i)→
 (∀c,20∣c→c<n→Ok lt tg c (min (c+20) n) (nN lt n a d))∧PermIn 0 n d (nN lt n a d):=by
 intro t
 induction t with
 |zero=>
  intro a d ht ha Ic hn h1 h2;rw[nN,qai (by omega)];obtain⟨q1,q2⟩:=yH (tg:=tg) (d:=d) hS Ic (by omega) (fun x y a1 a2 a3=>by rw[h2 x a1 (by omega),h2 y (by omega) a3];exact a2);refine⟨fun c hc hcn=>?_,permIn_mono d _ a n 0 n (Nat.zero_le _) (qaf _) (by omega) q2⟩;have:=jE hc ha (by omega);rw[Nat.min_eq_left (by omega)];exact(h1 c hc (by omega)).same fun i a1 a2=>q2.2.1 i (.inl (by omega))
 |succ t ih=>
  intro a d ht ha Ic hn h1 h2;by_cases c:a+20≤n
  ·rw[nN,qaj c];obtain⟨q1,q2⟩:=yH (tg:=tg) hS (show a≤a+20 by omega) (show a+20≤d.size by omega) (fun x y a1 a2 a3=>by rw[h2 x a1 (by omega),h2 y (by omega) (by omega)];exact a2);obtain⟨q3,q4⟩:=ih (a+20) (insertionSort lt d a (a+20)) (by omega) (Nat.dvd_add ha (Nat.dvd_refl _)) c (by rw[q2.1];exact hn) (fun e he Qx=>by
    by_cases c2:e<a
    ·have:=jE he ha c2;exact(h1 e he c2).same fun i a1 a2=>q2.2.1 i (.inl (by omega))
    ·have:e=a:=by
      rcases Nat.lt_or_ge a e with h3|h3
      ·have:=jE ha he h3;omega
      ·omega
     subst this;refine⟨q1,permIn_all d _ e (e+20) (fun u=>e≤tg u∧tg u<e+20) (by omega) q2 fun i a1 a2=>?_⟩;rw[h2 i a1 (by omega)];exact⟨a1,a2⟩) (fun i a1 a2=>by rw[q2.2.1 i (.inr a1)];exact h2 i (by omega) a2)
   exact⟨q3,permIn_trans _ _ _ _ _ (permIn_mono d _ a (a+20) 0 n (Nat.zero_le _) c (by omega) q2) q4⟩
  ·rw[nN,qai c];obtain⟨q1,q2⟩:=yH (tg:=tg) (d:=d) hS Ic (by omega) (fun x y a1 a2 a3=>by rw[h2 x a1 (by omega),h2 y (by omega) a3];exact a2);refine⟨fun e he hen=>?_,permIn_mono d _ a n 0 n (Nat.zero_le _) (qaf _) (by omega) q2⟩;by_cases c2:e<a
   ·have:=jE he ha c2;rw[Nat.min_eq_left (by omega)];exact(h1 e he c2).same fun i a1 a2=>q2.2.1 i (.inl (by omega))
   ·have:e=a:=by
     rcases Nat.lt_or_ge a e with h3|h3
     ·have:=jE ha he h3;omega
     ·omega
    subst this;rw[Nat.min_eq_right (by omega)];refine⟨q1,permIn_all d _ e n (fun u=>e≤tg u∧tg u<n) (by omega) q2 fun i a1 a2=>?_⟩;rw[h2 i a1 a2];exact⟨a1,a2⟩
theorem KE (hS:SWO lt)(s n:Nat)(hs:0<s):∀(t a:Nat) (d:Array α),n-a≤t→2*s∣a→a≤n→n=d.size→(∀c,2*s∣c→c<a→Ok lt tg c (c+2*s) d)→(∀c,s∣c→a≤c→c<n→Ok lt tg c (min (c+s) n) d)→
 (∀c,2*s∣c→c<n→Ok lt tg c (min (c+2*s) n) (mg lt s n a d))∧PermIn 0 n d (mg lt s n a d):=by
 intro t
 induction t with
 |zero=>
  intro a d ht ha Ic hn h1 h2;rw[mg,qai (by omega),qai (by omega)];refine⟨fun c hc hcn=>?_,permIn_refl _ _ _⟩;have:=jE hc ha (by omega);rw[Nat.min_eq_left (by omega)];exact h1 c hc (by omega)
 |succ t ih=>
  intro a d ht ha Ic hn h1 h2;have hsa:s∣a:=Nat.dvd_trans (Nat.dvd_mul_left s 2) ha;have UW:s∣a+s:=Nat.dvd_add hsa (Nat.dvd_refl _);have heq:∀e,2*s∣e→¬e<a→e<a+2*s→e=a:=fun e he c2 c3=>by
   rcases Nat.lt_or_ge a e with h3|h3
   ·have:=jE ha he h3;omega
   ·omega
  by_cases c:a+2*s≤n
  ·rw[mg,qaj ⟨hs,c⟩];have b1:=h2 a hsa (qaf _) (by omega);have b2:=h2 (a+s) UW (by omega) (by omega);rw[Nat.min_eq_left (by omega)]at b1 b2;obtain⟨q1,q2⟩:=b1.merge hS (f:=2*s) (b:=a+2*s) (by rw[show a+2*s=a+s+s by omega];exact b2) (by omega) (by omega) (by omega) (by omega);obtain⟨q3,q4⟩:=ih (a+2*s) (symF lt (2*s) a (a+s) (a+2*s) d) (by omega) (Nat.dvd_add ha (Nat.dvd_refl _)) c (by rw[q2.1];exact hn) (fun e he Qx=>by
    by_cases c2:e<a
    ·have:=jE he ha c2;exact(h1 e he c2).same fun i a1 a2=>q2.2.1 i (.inl (by omega))
    ·have:=heq e he c2 Qx;subst this;exact q1) (fun e he hae hen=>(h2 e he (by omega) hen).same fun i a1 a2=>q2.2.1 i (.inr (by omega)))
   exact⟨q3,permIn_trans _ _ _ _ _ (permIn_mono d _ a (a+2*s) 0 n (Nat.zero_le _) c (by omega) q2) q4⟩
  ·rw[mg,qai (by omega)];by_cases c4:a+s<n
   ·rw[qaj c4];have b1:=h2 a hsa (qaf _) (by omega);have b2:=h2 (a+s) UW (by omega) c4;rw[Nat.min_eq_left (by omega)]at b1;rw[Nat.min_eq_right (by omega)]at b2;obtain⟨q1,q2⟩:=b1.merge hS (f:=n-a) b2 (by omega) c4 (by omega) (qaf _);refine⟨fun e he hen=>?_,permIn_mono d _ a n 0 n (Nat.zero_le _) (qaf _) (by omega) q2⟩;by_cases c2:e<a
    ·have:=jE he ha c2;rw[Nat.min_eq_left (by omega)];exact(h1 e he c2).same fun i a1 a2=>q2.2.1 i (.inl (by omega))
    ·have:=heq e he c2 (by omega);subst this;rw[Nat.min_eq_right (by omega)];exact q1
   ·rw[qai c4];refine⟨fun e he hen=>?_,permIn_refl _ _ _⟩;by_cases c2:e<a
    ·have:=jE he ha c2;rw[Nat.min_eq_left (by omega)];exact h1 e he c2
    ·have:=heq e he c2 (by omega);subst this;have b1:=h2 e hsa (qaf _) hen;rw[Nat.min_eq_right (by omega)]at b1;rw[Nat.min_eq_right (by omega)];exact b1
theorem KF (hS:SWO lt)(n:Nat):∀(t s:Nat) (d:Array α),n-s≤t→0<s→n=d.size→(∀c,s∣c→c<n→Ok lt tg c (min (c+s) n) d)→Ok lt tg 0 n (pQ lt n s d)∧PermIn 0 n d (pQ lt n s d):=by
 intro t
 induction t with
 |zero=>
  intro s d ht hs hn h;rw[pQ,qai (by omega)];refine⟨?_,permIn_refl _ _ _⟩;by_cases c:0<n
  ·have:=h 0 (Nat.dvd_zero s) c;rw[Nat.min_eq_right (by omega)]at this;exact this
  ·exact Ok.none (by omega)
 |succ t ih=>
  intro s d ht hs hn h;by_cases c:s<n
  ·rw[pQ,qaj ⟨hs,c⟩];obtain⟨q1,q2⟩:=KE (tg:=tg) hS s n hs n 0 d (by omega) (Nat.dvd_zero _) (Nat.zero_le _) hn (fun c _ hc=>by omega) (fun c hc _ hcn=>h c hc hcn);obtain⟨q3,q4⟩:=ih (2*s) (mg lt s n 0 d) (by omega) (by omega) (by rw[q2.1];exact hn) q1;exact⟨q3,permIn_trans _ _ _ _ _ q2 q4⟩
  ·rw[pQ,qai (by omega)];refine⟨?_,permIn_refl _ _ _⟩;by_cases c:0<n
   ·have:=h 0 (Nat.dvd_zero s) c;rw[Nat.min_eq_right (by omega)]at this;exact this
   ·exact Ok.none (by omega)
theorem KG (hS:SWO lt)(d:Array α)(tF:∀i,i<d.size→tg d[i]! =i):Sr lt tg 0 d.size (xI lt d)∧PermIn 0 d.size d (xI lt d):=by
 unfold xI;obtain⟨q1,q2⟩:=KD (tg:=tg) hS d.size d.size 0 d (by omega) (Nat.dvd_zero _) (Nat.zero_le _) rfl (fun c _ hc=>by omega) (fun i _ hi=>tF i hi);obtain⟨q3,q4⟩:=KF (tg:=tg) hS d.size d.size 20 (nN lt d.size 0 d) (by omega) (by omega) q2.1.symm q1;exact⟨q3.1,permIn_trans _ _ _ _ _ q2 q4⟩
end Sb
end Go.Proofs.YtaimcpmcndapcaaGreat

namespace Go.Proofs.YtaimcpmcndapcaaGreat
open Go.Proofs.Tryz
namespace Sb
open Go.Sort
theorem KH {β:Type}(f:β→β→Bool)(L:List β)(hp:L.Pairwise fun x y=>f x y=true∧f y x=false)(hi:∀x,f x x=false)(p:Nat)(h:p<L.length):L.countP (fun u=>f u L[p])=p:=by
 have e:L=L.take p++(L[p]::L.drop (p+1)):=by rw[List.getElem_cons_drop,List.take_append_drop]
 have h1:∀x∈L.take p,f x L[p]=true:=fun x hx=>by
  obtain⟨i,hi2,rfl⟩:=List.mem_iff_getElem.1 hx;have hlt:i<p:=by simp at hi2;omega
  rw[List.getElem_take];exact(List.pairwise_iff_getElem.1 hp i p (by omega) h hlt).1
 have h2:∀x∈L.drop (p+1),f x L[p]=false:=fun x hx=>by
  obtain⟨i,hi2,rfl⟩:=List.mem_iff_getElem.1 hx;rw[List.getElem_drop];exact(List.pairwise_iff_getElem.1 hp p (p+1+i) h (by simp at hi2;omega) (by omega)).2
 generalize L[p]=t at*;rw[e,List.countP_append,List.countP_cons];have c1:List.countP (fun u=>f u t) (L.take p)=(L.take p).length:=List.countP_eq_length.2 h1;have c2:List.countP (fun u=>f u t) (L.drop (p+1))=0:=List.countP_eq_zero.2 fun x hx=>by rw[h2 x hx];decide
 rw[c1,c2,hi t,List.length_take];simp;omega
variable {α : Type} [Inhabited α] {lt : α → α → Bool}
def Bv (lt:α→α→Bool)(l:List α)(i k:Nat):Nat:=(List.range k).countP fun j=>lt l[j]! l[i]! ||(!lt l[i]! l[j]! &&decide (j<i))
def tagged (l:List α):List (α×Nat):=(List.range l.length).map fun i=>(l[i]!,i)
theorem tH (l:List α):(tagged l).length=l.length:=by simp[tagged]
theorem zC (l:List α){i:Nat}(h:i<l.length):(tagged l)[i]? =some (l[i]!,i):=by simp[tagged,h]
theorem zD (l:List α):(tagged l).map (·.1)=l:=by
 refine List.ext_getElem (by simp[tagged]) fun i h1 h2=>?_;simp[tagged,h2]
theorem Od (hS:SWO lt)(l:List α):∃r:Array (α×Nat),r=xI (fun x y:α×Nat=>lt x.1 y.1) (tagged l).toArray∧r.size=l.length∧(∀i,i<l.length→Bv lt l i l.length<l.length∧(r[Bv lt l i l.length]!).1=l[i]!)∧(r.toList.map (·.1)).Perm l∧(r.toList.map (·.1)).Pairwise (fun x y=>lt y x=false):=by
 refine⟨_,rfl,?_⟩;have hS1:SWO (fun x y:α×Nat=>lt x.1 y.1):=⟨fun x=>hS.irrefl _,fun x y z h1 h2=>hS.trans _ _ _ h1 h2,fun x y z h1 h2=>hS.ntrans _ _ _ h1 h2⟩;have hn:(tagged l).toArray.size=l.length:=by simp[tH]
 obtain⟨q1,q2,q3,q4⟩:=KG (tg:=fun x:α×Nat=>x.2) hS1 (tagged l).toArray (fun i hi=>by
  rw[hn]at hi;have:=zC l hi;simp[Array.getElem!_eq_getD,Array.getD_eq_getD_getElem?,this])
 rw[hn]at q1 q4;generalize xI (fun x y:α×Nat=>lt x.1 y.1) (tagged l).toArray=r at*;have hrs:r.size=l.length:=by rw[q2];exact hn
 have hperm:r.toList.Perm (tagged l):=by
  have e1:r.extract 0 l.length=r:=by rw[←hrs];exact Array.extract_size
  have e2:(tagged l).toArray.extract 0 l.length=(tagged l).toArray:=by rw[←hn];exact Array.extract_size
  rw[e1,e2]at q4;exact q4
 refine⟨hrs,fun i hi=>?_,?_,?_⟩
 ·let f:α×Nat→α×Nat→Bool:=fun x y=>lt x.1 y.1||(!lt y.1 x.1&&decide (x.2<y.2))
  have hR:∀x y,R (fun x y:α×Nat=>lt x.1 y.1) (fun x=>x.2) x y→f x y=true∧f y x=false:=fun x y h=>by
   rcases h with h|⟨h,ht⟩
   ·have h2:=hS.asymmA h;exact⟨by simp[f,h],by simp[f,h,h2]⟩
   ·have ht:x.2<y.2:=ht;by_cases h2:lt x.1 y.1=true
    ·have h3:=hS.asymmA h2;exact⟨by simp[f,h2],by simp[f,h2,h3]⟩
    ·have h2':lt x.1 y.1=false:=by simpa using h2
     exact⟨by simp[f,h,ht],by simp only[f,h,h2',Bool.false_or,Bool.not_false,Bool.true_and,decide_eq_false_iff_not];omega⟩
  have hpw:r.toList.Pairwise fun x y=>f x y=true∧f y x=false:=by
   rw[List.pairwise_iff_getElem];intro a b ha hb hab;have:=hR _ _ (q1 a b (Nat.zero_le _) hab (by simpa[hrs]using hb));rw[getElem!_pos r a (by simpa using ha),getElem!_pos r b (by simpa using hb)]at this;simpa using this
  have hmem:(l[i]!,i)∈r.toList:=hperm.mem_iff.2 (List.mem_of_getElem? (zC l hi));obtain⟨p,hp,hpe⟩:=List.mem_iff_getElem.1 hmem;have hc:=KH f r.toList hpw (fun x=>by simp[f,hS.irrefl]) p hp;rw[hpe,hperm.countP_eq]at hc;have hpk:Bv lt l i l.length=p:=by
   rw[←hc];unfold Bv tagged;rw[List.countP_map];rfl
  rw[hpk];have hp2:p<r.size:=by simpa using hp
  refine⟨by omega,?_⟩;rw[getElem!_pos r p hp2];have:r[p]=(l[i]!,i):=by simpa using hpe
  rw[this]
 ·have:=hperm.map (·.1);rw[zD]at this;exact this
 ·rw[List.pairwise_map,List.pairwise_iff_getElem];intro a b ha hb hab;have h1:=q1 a b (Nat.zero_le _) hab (by simpa[hrs]using hb);rw[getElem!_pos r a (by simpa using ha),getElem!_pos r b (by simpa using hb)]at h1;simp only[Array.getElem_toList];rcases h1 with h|⟨h,_⟩
  ·exact hS.asymmA h
  ·exact h
end Sb
end Go.Proofs.YtaimcpmcndapcaaGreat

namespace Go.Proofs.YtaimcpmcndapcaaGreat
open Go.Proofs.Tryz
open Go.RowKit Go.Lib Go.Sort
open Go.ChangeShapes Go.WideShapes Go.ChangeAt Go.Deep in
section
variable {w W : World} {v : Value} {l : List Jb}
structure nC (w : World) (b off : Nat) (l : List Jb) : Prop where
 lt:b<w.heap.size
 cell:∀i s j u,l[i]? =some s→(ah s)[j]? =some u→w.cell? ⟨b,off+(i*10+j),none⟩=some u
theorem nC.below {b off:Nat}(h:nC w b off l)(hb:Below w.heap.size w W):nC W b off l:=
 ⟨Nat.lt_of_lt_of_le h.lt hb.size,fun i s j u hi hj=>by rw[hb.cell (p:=⟨b,_,none⟩) h.lt];exact h.cell i s j u hi hj⟩
theorem nC.load {b off i k:Nat}(h:nC w b off l)(hk:k=10)(hi:i<l.length):Sem.run prog (loadCellsFrom ⟨b,off+i*k,none⟩ 0 k #[]) w=.ok (ah l[i]!).toArray w:=by
 subst hk;refine run_loadCellsFrom_list prog w _ _ 10 (ay _) fun j u hj=>?_;rw[Go.WideShapes.add_plain,Nat.add_assoc];exact h.cell i _ j u (by rw[List.getElem?_eq_getElem hi,getElem!_pos l i hi]) hj
end
theorem Ej {α:Type}[Inhabited α]{p:α→Bool}{l:List α}{i:Nat}(hi:i<l.length)(h:p l[i]! =true):(l.take (i+1)).filter p=(l.take i).filter p++[l[i]!]:=by
 have e:l[i]! =l[i]:=getElem!_pos l i hi;rw[e]at h⊢;rw[List.take_add_one,List.getElem?_eq_getElem hi,List.filter_append];simp[h]
theorem Ie {α:Type}[Inhabited α]{p:α→Bool}{l:List α}{i:Nat}(hi:i<l.length)(h:p l[i]! =false):(l.take (i+1)).filter p=(l.take i).filter p:=by
 have e:l[i]! =l[i]:=getElem!_pos l i hi;rw[e]at h;rw[List.take_add_one,List.getElem?_eq_getElem hi,List.filter_append];simp[h]
theorem TN :prog.follows .mixedOrders=true:=by kernel_rfl
theorem vB {P:Program}(w:World)(base:Nat)(t tx ty e:TypeId)(i:TypeInfo)(z:Value)(size bytes:Nat)(ht:P.underlying t=some (.slice e))(hi:P.info? e=some i)(hz:i.zero=some z)
 (hsize:i.size=size) (hby:i.bytes=bytes) (hzs:z.cells.size=size)
 (v:Value) (n:Nat) (xs:List Value) (hown:w.ownsRow base e size v n xs) (x:Value) (m:Nat) (news:List Value) (hs:Src P size tx x m news w)
 (h63:n+m≤maxLen) (hbytes:(n+m)*bytes≤140737488355328) (hbase:base≤w.heap.size):
 ∃v' w',(Builtin.append_ #[t,tx] ty #[v,x]).run P w=.ok v' w'∧w'.ownsRow base e size v' (n+m) (xs++news)∧w.grownBy w' v.ownBlock∧(v'.ownBlock=v.ownBlock∨v'.ownBlock=some w.heap.size):=by
 subst hsize;subst hby;have hsmall:n+m≤9223372036854775807:=by simp only[maxLen]at h63;omega
 have hlen:(xs++news).length=(n+m)*i.size:=by rw[List.length_append,hown.1,hs.newsLen,Nat.add_mul]
 have grown:∀(old:Nat),old<n+m→∀(row:Option Nat),
  (w.drew.alloc (.cells ((xs++news).toArray++Builtin.zeroCells z.cells (grownCap w (n+m) old e-(n+m))) e)).ownsRow base e i.size
   (.slice (some ⟨w.heap.size,0,none⟩) (n+m) (grownCap w (n+m) old e)) (n+m) (xs++news)∧
  w.grownBy (w.drew.alloc (.cells ((xs++news).toArray++Builtin.zeroCells z.cells (grownCap w (n+m) old e-(n+m))) e)) row:=by
  intro old ho row;have hge:=grownCap_ge w (n+m) old e;have hcm:grownCap w (n+m) old e≤maxLen:=grownCap_le_maxLen w (n+m) old e h63;refine⟨⟨hlen,.inr ⟨w.heap.size,_,_,rfl,hbase,heap_alloc_new w.drew _,hge,hcm,?_,?_⟩⟩,⟨rfl,rfl,rfl,by simp,fun k hk _=>Go.heap_alloc_old w.drew _ hk⟩⟩
  ·simp only[Array.size_append,List.size_toArray,size_zeroCells,hzs,hlen,←Nat.add_mul];congr 1;omega
  ·simp only[Array.toList_append];rw[←hlen];exact List.take_left
 rcases hown.2 with⟨rfl,rfl⟩|⟨g,cap,cur,rfl,hbg,hg,hnc,hcm,hcs,htake⟩
 ·have hx:xs=[]:=List.eq_nil_of_length_eq_zero (by simpa using hown.1);subst hx;by_cases hm:m=0
  ·subst hm;have hn:news=[]:=List.eq_nil_of_length_eq_zero (by simpa using hs.newsLen);subst hn;refine⟨.slice none 0 0,w,?_,World.ownsRow_nil w base e i.size,⟨rfl,rfl,rfl,qaf _,fun _ _ _=>rfl⟩,.inl rfl⟩;rcases hs.kind with⟨e',hk⟩|hk<;>simp[Builtin.append_,run_underlying ht,run_underlying hk,sizeOf,typeInfo,hi,hs.len,hs.cells]
  ·have hr:=run_append_grow_src (P:=P) w t tx ty e i z ht hi hz none 0 0 [] (by simp[Builtin.firstCells]) x m news hs (by omega) (by omega) (growslice_fits (by omega) hbytes);have hgr:=grown 0 (by omega) (Value.ownBlock (.slice none 0 0));exact⟨_,_,hr,hgr.1,hgr.2,.inr rfl⟩
 ·by_cases hroom:n+m≤cap
  ·have hfit:n*i.size+news.length≤cur.size:=by rw[hs.newsLen,hcs,←Nat.add_mul];exact Nat.mul_le_mul_right _ hroom
   have hst:=run_storeCells_at P g (n*i.size) e news 0 cur w hg (by simpa using hfit) hs.one;simp only[Nat.add_zero]at hst;have hr:(Builtin.append_ #[t,tx] ty #[.slice (some ⟨g,0,none⟩) n cap,x]).run P w=
    .ok (.slice (some ⟨g,0,none⟩) (n+m) cap) (w.setRow g (cur.toList.take (n*i.size)++news++cur.toList.drop (n*i.size+news.length)).toArray):=by
    rcases hs.kind with⟨e',hk⟩|hk<;>simp[Builtin.append_,run_underlying ht,run_underlying hk,sizeOf,typeInfo,hi,hs.len,hroom,hs.cells,Addr.add_lit,hst]
   refine⟨_,_,hr,⟨hlen,.inr ⟨g,cap,_,rfl,hbg,setRow_heap w g cur _ e _ hg,hroom,hcm,?_,?_⟩⟩,⟨rfl,rfl,rfl,by simp,fun k hk hne=>setRow_other w g k _ (fun e=>hne (by simp[Value.ownBlock,e]))⟩,.inl rfl⟩
   ·simp only[List.size_toArray,List.length_append,List.length_take,List.length_drop,Array.length_toList];omega
   ·rw[htake,←hlen];exact List.take_left
  ·have holds:∀j u,xs[j]? =some u→w.drew.cell? ((⟨g,0,none⟩:Addr).add j)=some u:=fun j u hu=>by simpa using hown.cells (g:=g) rfl j u hu
   have hr:=run_append_grow_src (P:=P) w t tx ty e i z ht hi hz (some ⟨g,0,none⟩) n cap xs (run_firstCells_some (P:=P) w.drew i.size n ⟨g,0,none⟩ n cap xs hown.1 holds) x m news hs (by omega) (by omega) (growslice_fits (by omega) hbytes);have hgr:=grown cap (by omega) (Value.ownBlock (.slice (some ⟨g,0,none⟩) n cap));exact⟨_,_,hr,hgr.1,hgr.2,.inr rfl⟩
theorem oN {P:Program}(w:World){ops:Array Oper}{rest:List Oper}{o:Oper}{a:Act}{Q:Exit→Act→World→Prop}(hgd:o.guard=none)(s x:Operand)(t tx:TypeId)
 (ho:o.op=.call {callee:=.builtin .append,args:=#[s,x],argTypes:=#[t,tx]})
 (base:Nat) (e:TypeId) (i:TypeInfo) (z:Value) (size bytes:Nat) (ht:P.underlying t=some (.slice e)) (hi:P.info? e=some i) (hz:i.zero=some z)
 (hsize:i.size=size) (hby:i.bytes=bytes) (hzs:z.cells.size=size)
 (v:Value) (n:Nat) (xs:List Value) (hs:a.eval s=v) (hown:w.ownsRow base e size v n xs) (xv:Value) (m:Nat) (news:List Value) (hx:a.eval x=xv) (hsrc:Src P size tx xv m news w)
 (h63:n+m≤maxLen) (hbytes:(n+m)*bytes≤140737488355328) (hbase:base≤w.heap.size)
 (h:∀v' w',w'.ownsRow base e size v' (n+m) (xs++news)→w.grownBy w' v.ownBlock→(v'.ownBlock=v.ownBlock∨v'.ownBlock=some w.heap.size)→wpList P ops Q rest (a.put o.dst v') w'):wpList P ops Q (o::rest) a w:=
 wpList_plain hgd fun K hK=>by
  obtain⟨v',w',hr,h2,h3,h4⟩:=vB (P:=P) w base t tx o.type e i z size bytes ht hi hz hsize hby hzs v n xs hown xv m news hsrc h63 hbytes hbase;unfold Oper.wp execOp;simp only[ho,resolve,invoke,builtin,Sem.run_bind,Sem.run_pure,Result.andThen_ok,List.map_toArray,List.map_cons,List.map_nil,hs,hx,hr];exact hK _ _ (h v' w' h2 h3 h4)
theorem xJ :(prog.info? 55).map (fun i=>(i.zero,i.size,i.bytes))=some (some (.agg (ah default).toArray),10,80):=by kernel_rfl
theorem mI (l:List Jb):(l.flatMap ah).length=l.length*10:=by
 induction l with
 |nil=>rfl
 |cons a l ih=>rw[List.flatMap_cons,List.length_append,ih,ay,List.length_cons,Nat.add_mul];omega
theorem Bw {l:List Jb}{i:Nat}(h:i<l.length):l.take (i+1)=l.take i++[l[i]!]:=by
 rw[List.take_add_one,List.getElem?_eq_getElem h,getElem!_pos l i h];rfl
open Go.Shelf
structure lD {α : Type} (enc : α → List Value) (k : Nat) : Prop where
 len:∀x,(enc x).length=k
 one:∀x,∀v∈enc x,v.oneCell'=true
section
variable {α : Type} [Inhabited α] {enc : α → List Value} {w : World} {blk off cap : Nat} {d d0 : Array α}
theorem oh {W:World}{k:Nat}(h:HoldsK enc k W blk off d)(hE:lD enc k){i:Nat}(hi:i<d.size):
 Sem.run prog (loadCellsFrom ⟨blk,off+i*k,none⟩ 0 k #[]) W=.ok (enc d[i]!).toArray W:=
 run_loadCellsFrom_list prog _ _ _ k (hE.len _) (HoldsK.cells h hE.len hi)
theorem Bz {k n x:Nat}(hx:x<n):x*k+k≤n*k:=by
 have:=Nat.mul_le_mul_right k (show x+1≤n from hx)
 rwa [Nat.add_mul,Nat.one_mul]at this
theorem zF {W:World}{k:Nat}(h:HoldsK enc k W blk off d)(hE:lD enc k){i j:Nat}(hi:i<d.size)(hj:j<d.size)(x y:α):
 Sem.run prog (storeCells ⟨blk,off+i*k,none⟩ (enc x) 0) W=.ok () (W.setCells blk (off+i*k) (enc x))∧
 Sem.run prog (storeCells ⟨blk,off+j*k,none⟩ (enc y) 0) (W.setCells blk (off+i*k) (enc x))=.ok () ((W.setCells blk (off+i*k) (enc x)).setCells blk (off+j*k) (enc y)):=
 ⟨stores_of_holds prog h (i*k) _ (by rw[hE.len,size_flatK];exact Bz hi) (hE.one _),
  stores_of_holds prog (holds_setCells_c h (i*k) _ (by rw[hE.len,size_flatK];exact Bz hi)) (j*k) _ (by rw[hE.len,size_setMany,size_flatK];exact Bz hj) (hE.one _)⟩
theorem Dr (k:Nat)(zE:∀w,Sem.run prog (Go.sizeOf 55) w=.ok k w)(g:Value)(a b n m:Nat)(os:Array Obj)(hE:lD enc k)(hH:HoldsK enc k w blk off d0)(hs:d.size=d0.size)(hblk:blk<w.heap.size)(hab:a+n≤b)(hb:b+n≤d.size)(hsz:d.size<4611686018427387904):
 Calls prog 279 #[.slice (some ⟨blk,off,none⟩) d.size cap,.int .i64 a,.int .i64 b,.int .i64 n,g] (sortWorldK enc k w blk off m d os) fun e w'=>
  e=.returned (.tuple #[])∧∃m',w'=sortWorldK enc k w blk off m' (Sb.nU a b n 0 d) os:=by
 replace hs:=qae hs;go_enter func279,ntmps279;go_wp2_with fail;go_loopw [10] (fun ii wr=>∃(i mi:Nat) (di:Array α),ii=.int .i64 i∧i≤n∧di.size=d.size∧wr=sortWorldK enc k w blk off mi di os∧Hid (Sb.nU a b n i di=Sb.nU a b n 0 d)) (fun ii _=>n-(intOf ii).toNat)
 case atStart=>exact⟨0,m,d,rfl,Nat.zero_le _,rfl,rfl,rfl⟩
 case round=>
  obtain⟨i,mi,di,rfl,hin,hsi,rfl,HI⟩:=hrel;by_cases hlt:i<n
  ·have b2:(i:Int)<(n:Int):=by omega
   have hW:=holdsK_sortWorldK_c enc k w blk off d0 di mi os hH hblk (by rw[hsi];exact hs.out);have hnx:Hid (∀(_:Unit),(((sortWorldK enc k w blk off mi di os).drew.setCells blk (off+(a+i)*k) (enc di[b+i]!)).setCells blk (off+(b+i)*k) (enc di[a+i]!))=sortWorldK enc k w blk off (mi+1) (swp di (a+i) (b+i)) os):=fun _=>sortWorldK_swp_c enc k w blk off hE.len mi di os hblk (a+i) (b+i) (by omega) (by omega);have la:=fun(W:World) (hW:HoldsK enc k W blk off di)=>oh hW hE (i:=a+i) (by omega);have lb:=fun(W:World) (hW:HoldsK enc k W blk off di)=>oh hW hE (i:=b+i) (by omega);have st:=fun(W:World) (hW:HoldsK enc k W blk off di)=>zF hW hE (i:=a+i) (j:=b+i) (by omega) (by omega) di[b+i]! di[a+i]!;have hsd:(swp di (a+i) (b+i)).size=d.size:=by rw[swp_size];exact hsi
   have hgo:=Sb.FT (a:=a) (b:=b) (d:=di) hlt;generalize hwq:sortWorldK enc k w blk off mi di os=wq at hW hnx⊢;have YO:=la wq.drew hW;have YP:=lb wq.drew hW;obtain⟨s1,s2⟩:=st wq.drew hW;obtain⟨cA,hcA⟩:∃c,c=enc di[a+i]! :=⟨_,rfl⟩;obtain⟨cB,hcB⟩:∃c,c=enc di[b+i]! :=⟨_,rfl⟩;rw[←hcA]at YO s2 hnx;rw[←hcB]at YP s1 s2 hnx;have lA:cA.length=k:=by rw[hcA];exact hE.len _
   have lB:cB.length=k:=by rw[hcB];exact hE.len _
   replace hcA:=qae hcA;replace hcB:=qae hcB;clear la lb st hwq hW;have wa:IntKind.i64.wrap ((a:Int)+(i:Int))=(a:Int)+(i:Int):=by rw[IntKind.wrap_i64];omega
   have wb:IntKind.i64.wrap ((b:Int)+(i:Int))=(b:Int)+(i:Int):=by rw[IntKind.wrap_i64];omega
   have ja:(a:Int)+(i:Int)<(d.size:Int):=by omega
   have jb:(b:Int)+(i:Int)<(d.size:Int):=by omega
   have ka:(0:Int)≤(a:Int)+(i:Int):=by omega
   have kb:(0:Int)≤(b:Int)+(i:Int):=by omega
   have ea:((a:Int)+(i:Int)).toNat=a+i:=by omega
   have eb:((b:Int)+(i:Int)).toNat=b+i:=by omega
   go_wp2_with fail;go_region;rw[hnx.out ()];go_wp2_with fail;go_roundw
   case rel=>exact⟨i+1,mi+1,swp di (a+i) (b+i),by go_num,by omega,hsd,rfl,by show _=_;rw[←HI.out,hgo]⟩
   case measure=>simp[intOf];omega
  ·have b2:¬(i:Int)<(n:Int):=by omega
   go_wp2_with fail;go_end0;exact⟨rfl,mi,by rw[←HI.out,Sb.yD hlt]⟩
theorem KI (k:Nat)(zE:∀w,Sem.run prog (Go.sizeOf 55) w=.ok k w)(g:Value)(a m b q:Nat)(os:Array Obj)(hE:lD enc k)(hH:HoldsK enc k w blk off d0)(hs:d.size=d0.size)(hblk:blk<w.heap.size)(Qw:a<m)(hmb:m<b)(hb:b≤d.size)(hsz:d.size<4611686018427387904):
 Calls prog 274 #[.slice (some ⟨blk,off,none⟩) d.size cap,.int .i64 a,.int .i64 m,.int .i64 b,g] (sortWorldK enc k w blk off q d os) fun e w'=>
  e=.returned (.tuple #[])∧∃q',w'=sortWorldK enc k w blk off q' (Sb.mH m (m-a) (b-m) d) os:=by
 have hsw:=fun(a b n q:Nat) (di:Array α) (h1:a+n≤b) (h2:b+n≤d.size) (h3:di.size=d.size)=>Dr (cap:=cap) (d:=di) k zE g a b n q os hE hH (by rw[h3];exact hs) hblk h1 (by rw[h3];exact h2) (by rw[h3];exact hsz);have HS:Hid _:=hsw;clear hsw hH;replace hs:=qae hs;have wa:IntKind.i64.wrap ((m:Int)-(a:Int))=((m-a:Nat):Int):=by rw[IntKind.wrap_i64];omega
 have wb:IntKind.i64.wrap ((b:Int)-(m:Int))=((b-m:Nat):Int):=by rw[IntKind.wrap_i64];omega
 obtain⟨ia,hia⟩:∃x,x=m-a:=⟨_,rfl⟩;obtain⟨jb,hjb⟩:∃x,x=b-m:=⟨_,rfl⟩;rw[←hia]at wa;rw[←hjb]at wb;rw[←hia,←hjb];have i0:0<ia:=by omega
 have j0:0<jb:=by omega
 have im:ia≤m:=by omega
 have jm:m+jb≤d.size:=by omega
 clear hia hjb Qw hmb hb;go_enter func274,ntmps274;go_wp2_with fail;go_loopw [10,11] (fun ii jj wr=>∃(i j qi:Nat) (di:Array α),ii=.int .i64 i∧jj=.int .i64 j∧0<i∧0<j∧i≤ia∧j≤jb∧di.size=d.size∧wr=sortWorldK enc k w blk off qi di os∧Hid (Sb.mH m i j di=Sb.mH m ia jb d)) (fun ii jj _=>(intOf ii).toNat+(intOf jj).toNat)
 case atStart=>exact⟨ia,jb,q,d,rfl,rfl,i0,j0,qaf _,qaf _,rfl,rfl,rfl⟩
 case round=>
  obtain⟨i,j,qi,di,rfl,rfl,hi0,hj0,WX,hjb2,hsi,rfl,HI⟩:=hrel;have w1:IntKind.i64.wrap ((m:Int)-(i:Int))=((m-i:Nat):Int):=by rw[IntKind.wrap_i64];omega
  by_cases hij:i=j
  ·subst hij;have hc:=HS.out (m-i) m i qi di (by omega) (by omega) hsi;rw[hsi]at hc;rw[Sb.Nc]at HI;have n1:((i:Int) != (i:Int))=false:=by simp
   generalize sortWorldK enc k w blk off qi di os=wq at hc⊢;go_wp2_with (go_at_call 279;go_must (refine hc.mono ?_);rintro e w5 ⟨rfl,q5,rfl⟩);go_end0;exact⟨rfl,q5,by rw[HI.out]⟩
  ·have n1:((i:Int) != (j:Int))=true:=by simp;omega
   by_cases hgt:j<i
   ·have hc:=HS.out (m-i) m j qi di (by omega) (by omega) hsi;rw[hsi]at hc;rw[Sb.Nf hgt hj0]at HI;have hsz2:=(Sb.qC (m-i) m j j 0 di rfl (Nat.zero_le _) (by omega) (by omega)).1;have b2:(j:Int)<(i:Int):=by omega
    have w2:IntKind.i64.wrap ((i:Int)-(j:Int))=((i-j:Nat):Int):=by rw[IntKind.wrap_i64];omega
    generalize sortWorldK enc k w blk off qi di os=wq at hc⊢;go_wp2_with (go_at_call 279;go_must (refine hc.mono ?_);rintro e w5 ⟨rfl,q5,rfl⟩);go_roundw
    case rel=>exact⟨i-j,j,q5,Sb.nU (m-i) m j 0 di,by go_num,rfl,by omega,hj0,by omega,hjb2,by rw[hsz2,hsi],rfl,HI⟩
    case measure=>simp[intOf];omega
   ·have hc:=HS.out (m-i) (m+j-i) i qi di (by omega) (by omega) hsi;rw[hsi]at hc;rw[Sb.Ng (by omega) hi0]at HI;have hsz2:=(Sb.qC (m-i) (m+j-i) i i 0 di rfl (Nat.zero_le _) (by omega) (by omega)).1;obtain⟨x,hx⟩:=qaa (m+j-i);rw[←hx]at hc HI hsz2;have b2:¬(j:Int)<(i:Int):=by omega
    have w2:IntKind.i64.wrap ((j:Int)-(i:Int))=((j-i:Nat):Int):=by rw[IntKind.wrap_i64];omega
    have w3:IntKind.i64.wrap ((m:Int)+(j:Int))=(m:Int)+(j:Int):=by rw[IntKind.wrap_i64];omega
    have w4:IntKind.i64.wrap ((m:Int)+(j:Int)-(i:Int))=(x:Int):=by rw[IntKind.wrap_i64];omega
    replace hx:=qae hx;generalize sortWorldK enc k w blk off qi di os=wq at hc⊢;go_wp2_with (go_at_call 279;go_must (refine hc.mono ?_);rintro e w5 ⟨rfl,q5,rfl⟩);go_roundw
    case rel=>exact⟨i,j-i,q5,Sb.nU (m-i) x i 0 di,rfl,by go_num,hi0,by omega,WX,by omega,by rw[hsz2,hsi],rfl,HI⟩
    case measure=>simp[intOf];omega
end
namespace Sb
variable {α : Type} [Inhabited α]
theorem pR (f:Nat→Bool):∀(t i j:Nat),j-i≤t→i≤j→i≤fK f i j∧fK f i j≤j:=by
 intro t
 induction t with
 |zero=>intro i j ht hij;rw[kR (by omega)];exact⟨qaf _,hij⟩
 |succ t ih=>
  intro i j ht hij;by_cases h:i<j
  ·cases hf:f ((i+j)/2)with
   |true=>rw[qB h hf];have:=ih ((i+j)/2+1) j (by omega) (by omega);omega
   |false=>rw[uT h hf];have:=ih i ((i+j)/2) (by omega) (by omega);omega
  ·rw[kR h];exact⟨qaf _,hij⟩
theorem zG {lt:α→α→Bool}{a m b:Nat}{d:Array α}(h1:a<m)(h2:m<b):a≤tu lt a m b d∧tu lt a m b d≤m∧tu lt a m b d≤(a+b)/2∧(a+b)/2+m-b≤tu lt a m b d:=by
 unfold tu;by_cases c:(a+b)/2<m
 ·rw[qaj c];have:=pR (fun c=>!lt d[(a+b)/2+m-1-c]! d[c]!) _ ((a+b)/2+m-b) ((a+b)/2) (qaf _) (by omega);omega
 ·rw[qai c];have:=pR (fun c=>!lt d[(a+b)/2+m-1-c]! d[c]!) _ a m (qaf _) (by omega);omega
theorem wC {lt:α→α→Bool}:∀(f a m b:Nat) (d:Array α),a<m→m<b→b≤d.size→(symF lt f a m b d).size=d.size:=by
 intro f
 induction f with
 |zero=>intro a m b d _ _ _;rfl
 |succ f ih=>
  intro a m b d h1 h2 h3;unfold symF;by_cases c1:m-a=1
  ·rw[qaj c1];have hb:=pR (fun h=>lt d[h]! d[a]!) _ m b (qaf _) (by omega);exact(Eh (fK (fun h=>lt d[h]! d[a]!) m b-1) _ a d rfl (by omega) (by omega)).1
  ·rw[qai c1];by_cases c2:b-m=1
   ·rw[qaj c2];have hb:=pR (fun h=>!lt d[m]! d[h]!) _ a m (qaf _) (by omega);exact(Ei (fK (fun h=>!lt d[m]! d[h]!) a m) _ m d rfl (by omega) (by omega)).1
   ·rw[qai c2];have hc:=zG (lt:=lt) (d:=d) h1 h2;simp only;generalize tu lt a m b d=s at*;have z1:(if s<m∧m<(a+b)/2+m-s then mH m (m-s) ((a+b)/2+m-s-m) d else d).size=d.size:=by
     by_cases c3:s<m∧m<(a+b)/2+m-s
     ·rw[qaj c3];exact(yF _ m (m-s) ((a+b)/2+m-s-m) d (qaf _) (by omega) (by omega) (by omega) (by omega)).1
     ·rw[qai c3]
    generalize (if s<m∧m<(a+b)/2+m-s then mH m (m-s) ((a+b)/2+m-s-m) d else d)=d1 at*;have z2:(if a<s∧s<(a+b)/2 then symF lt f a s ((a+b)/2) d1 else d1).size=d.size:=by
     by_cases c3:a<s∧s<(a+b)/2
     ·rw[qaj c3,ih a s _ d1 c3.1 c3.2 (by omega),z1]
     ·rw[qai c3,z1]
    generalize (if a<s∧s<(a+b)/2 then symF lt f a s ((a+b)/2) d1 else d1)=d2 at*;by_cases c3:(a+b)/2<(a+b)/2+m-s∧(a+b)/2+m-s<b
    ·rw[qaj c3,ih _ _ b d2 c3.1 c3.2 (by omega),z2]
    ·rw[qai c3,z2]
end Sb
structure oO {α : Type} [Inhabited α] (P : Program) (g : Nat) (enc : α → List Value) (k : Nat) (cf : α → α → Int) (blk off size : Nat) (w : World) : Prop where
 eg:∀args w,Sem.run P (callFunc g args) w=.ok (.enter g args) w
 lays:CmpLays P g #[] enc k cf blk off size w
section
variable {α : Type} [Inhabited α] {enc : α → List Value} {w : World} {blk off cap : Nat} {d d0 : Array α} {cf : α → α → Int} {g : Nat}
theorem FU :prog.follows .mixedOrders=true:=by kernel_rfl
theorem wD {k q:Nat}{os:Array Obj}(hE:lD enc k)(hC:oO prog g enc k cf blk off d0.size w)(hH:HoldsK enc k w blk off d0)(hs:d.size=d0.size)(hblk:blk<w.heap.size){x y:Nat}(hx:x<d.size)(hy:y<d.size):
 (∀n' os',grow ((sortWorldK enc k w blk off q d os).drewN n') os'=sortWorldK enc k w blk off (q+n') d (os++os'))∧
 (∀n' os',Sem.run prog (loadCellsFrom ⟨blk,off+x*k,none⟩ 0 k #[]) (grow ((sortWorldK enc k w blk off q d os).drewN n') os')=.ok (enc d[x]!).toArray (grow ((sortWorldK enc k w blk off q d os).drewN n') os'))∧
 (∀n' os',Sem.run prog (loadCellsFrom ⟨blk,off+y*k,none⟩ 0 k #[]) (grow ((sortWorldK enc k w blk off q d os).drewN n') os')=.ok (enc d[y]!).toArray (grow ((sortWorldK enc k w blk off q d os).drewN n') os'))∧
 (∀n' os',Calls prog g #[.agg (enc d[x]!).toArray,.agg (enc d[y]!).toArray] (grow ((sortWorldK enc k w blk off q d os).drewN n') os') fun e w'=>e=.returned (.int .i64 (cf d[x]! d[y]!))∧∃q' os'',w'=grow ((grow ((sortWorldK enc k w blk off q d os).drewN n') os').drewN q') os''):=by
 have hcls:∀n' os',grow ((sortWorldK enc k w blk off q d os).drewN n') os'=sortWorldK enc k w blk off (q+n') d (os++os'):=fun n' os'=>sortWorldK_grown_c enc k w blk off q n' d os os';have hHc:∀n' os',HoldsK enc k (grow ((sortWorldK enc k w blk off q d os).drewN n') os') blk off d:=fun n' os'=>by rw[hcls];exact holdsK_sortWorldK_c enc k w blk off d0 d _ _ hH hblk hs
 refine⟨hcls,fun n' os'=>oh (hHc n' os') hE hx,fun n' os'=>oh (hHc n' os') hE hy,fun n' os'=>?_⟩;rw[hcls];have:=hC.lays (q+n') (os++os') d hs d[x]! d[y]!;simpa using this
theorem zH {k q:Nat}{os:Array Obj}(hE:lD enc k)(hH:HoldsK enc k w blk off d0)(hs:d.size=d0.size)(hblk:blk<w.heap.size){x y:Nat}(hx:x<d.size)(hy:y<d.size):
 Sem.run prog (loadCellsFrom ⟨blk,off+x*k,none⟩ 0 k #[]) (sortWorldK enc k w blk off q d os).drew=.ok (enc d[x]!).toArray (sortWorldK enc k w blk off q d os).drew∧
 Sem.run prog (loadCellsFrom ⟨blk,off+y*k,none⟩ 0 k #[]) (sortWorldK enc k w blk off q d os).drew=.ok (enc d[y]!).toArray (sortWorldK enc k w blk off q d os).drew∧
 Sem.run prog (storeCells ⟨blk,off+x*k,none⟩ (enc d[y]!) 0) (sortWorldK enc k w blk off q d os).drew=.ok () ((sortWorldK enc k w blk off q d os).drew.setCells blk (off+x*k) (enc d[y]!))∧
 Sem.run prog (storeCells ⟨blk,off+y*k,none⟩ (enc d[x]!) 0) ((sortWorldK enc k w blk off q d os).drew.setCells blk (off+x*k) (enc d[y]!))=.ok () (((sortWorldK enc k w blk off q d os).drew.setCells blk (off+x*k) (enc d[y]!)).setCells blk (off+y*k) (enc d[x]!))∧
 Hid (((sortWorldK enc k w blk off q d os).drew.setCells blk (off+x*k) (enc d[y]!)).setCells blk (off+y*k) (enc d[x]!)=sortWorldK enc k w blk off (q+1) (swp d x y) os):=by
 have hW:HoldsK enc k (sortWorldK enc k w blk off q d os).drew blk off d:=holdsK_sortWorldK_c enc k w blk off d0 d q os hH hblk hs;obtain⟨s1,s2⟩:=zF hW hE hx hy d[y]! d[x]!;exact⟨oh hW hE hx,oh hW hE hy,s1,s2,sortWorldK_swp_c enc k w blk off hE.len q d os hblk x y hx hy⟩
theorem Qy (k:Nat)(zE:∀w,Sem.run prog (Go.sizeOf 55) w=.ok k w)(a m b q:Nat)(os:Array Obj)(hE:lD enc k)(hC:oO prog g enc k cf blk off d0.size w)(hH:HoldsK enc k w blk off d0)(hs:d.size=d0.size)(hblk:blk<w.heap.size)(h1:m=a+1)(hmb:m<b)(hb:b≤d.size)(hsz:d.size<4611686018427387904):
 Calls prog 255 #[.slice (some ⟨blk,off,none⟩) d.size cap,.int .i64 a,.int .i64 m,.int .i64 b,.func (.func g) #[] #[]] (sortWorldK enc k w blk off q d os) fun e w'=>
  e=.returned (.tuple #[])∧∃q' os',w'=sortWorldK enc k w blk off q' (Sb.wu (Sb.fK (fun h=>ltOf cf d[h]! d[a]!) m b-1) a d) os':=by
 have eg:=hC.eg;have nA:=FU;replace hs:=qae hs;have wd:IntKind.i64.wrap ((m:Int)-(a:Int))=1:=by rw[IntKind.wrap_i64];omega
 have Qw:a<m:=by omega
 replace h1:=qae h1;obtain⟨F,hF⟩:∃F:Nat→Bool,F=fun h=>ltOf cf d[h]! d[a]! :=⟨_,rfl⟩;have hF2:Hid (∀h,F h=decide (cf d[h]! d[a]! <0)):=fun h=>by rw[hF];rfl
 rw[←hF];replace hF:=qae hF;have CC:Aside _:=fun(x y q:Nat) (os:Array Obj) (hx:x<d.size) (hy:y<d.size)=>wD (q:=q) (os:=os) hE hC hH hs.out hblk hx hy;have SC:Aside _:=fun(x y q:Nat) (os:Array Obj) (di:Array α) (hsi:di.size=d.size) (hx:x<di.size) (hy:y<di.size)=>zH (d:=di) (q:=q) (os:=os) hE hH (hsi.trans hs.out) hblk hx hy;have hlen:Hid _:=hE.len;clear hC hH hE;go_enter func255,ntmps255;go_wp2_with fail;go_loopw [10,11] (fun ii jj wr=>∃(i j qi:Nat) (oi:Array Obj),ii=.int .i64 i∧jj=.int .i64 j∧m≤i∧i≤j∧j≤b∧wr=sortWorldK enc k w blk off qi d oi∧Hid (Sb.fK F i j=Sb.fK F m b)) (fun ii jj _=>(intOf jj).toNat-(intOf ii).toNat)
 case atStart=>exact⟨m,b,q,os,rfl,rfl,qaf _,by omega,qaf _,rfl,rfl⟩
 case round=>
  obtain⟨i,j,qi,oi,rfl,rfl,Ig,hij,hjb,rfl,HI⟩:=hrel;by_cases hlt:i<j
  ·have b2:(i:Int)<(j:Int):=by omega
   obtain⟨hm,hhm⟩:∃x:Nat,x=(i+j)/2:=⟨_,rfl⟩;have eh:((i:Int)+(j:Int))/2=(hm:Int):=by omega
   have vW:hm<d.size:=by omega
   have VH:(hm:Int)<(d.size:Int):=by omega
   have VI:(a:Int)<(d.size:Int):=by omega
   have wh:IntKind.i64.wrap ((hm:Int)+1)=(hm:Int)+1:=by rw[IntKind.wrap_i64];omega
   obtain⟨cls,lx,ly,cg⟩:=CC.out hm a qi oi vW (by omega);have HI2:Hid ((F hm=true→Sb.fK F (hm+1) j=Sb.fK F m b)∧(F hm=false→Sb.fK F i hm=Sb.fK F m b)):=
    ⟨fun hf=>by rw[←HI.out,Sb.qB hlt (by rw[←hhm];exact hf),hhm],fun hf=>by rw[←HI.out,Sb.uT hlt (by rw[←hhm];exact hf),hhm]⟩
   have o1:i≤hm:=by omega
   have o2:hm<j:=by omega
   replace hhm:=qae hhm;have CLS:Hid _:=cls;clear cls HI;generalize hwq:sortWorldK enc k w blk off qi d oi=wq at lx ly cg CLS⊢;replace hwq:=qae hwq;have rF:Hid (F hm=decide (cf d[hm]! d[a]! <0)):=hF2.out hm;generalize d[hm]! =X at*;generalize d[a]! =Y at*;by_cases hlv:cf X Y<0
   ·have oP:F hm=true:=by rw[rF.out];exact qag hlv
    have HI3:Hid _:=HI2.out.1 oP;clear HI2 rF oP;go_wp2_with fail;go_quiet_grown (first|(go_at_fn g;refine Calls.grown_of (cg _ _)));go_wp2_with fail;go_roundw
    case rel=>exact⟨hm+1,j,qi+nq,oi++osq,by go_num,rfl,by omega,by omega,hjb,CLS.out nq osq,HI3⟩
    case measure=>simp[intOf];omega
   ·have oP:F hm=false:=by rw[rF.out];exact qah hlv
    have HI3:Hid _:=HI2.out.2 oP;clear HI2 rF oP;go_wp2_with fail;go_quiet_grown (first|(go_at_fn g;refine Calls.grown_of (cg _ _)));go_wp2_with fail;go_roundw
    case rel=>exact⟨i,hm,qi+nq,oi++osq,rfl,by go_num,Ig,o1,by omega,CLS.out nq osq,HI3⟩
    case measure=>simp[intOf];omega
  ·obtain rfl:i=j:=by omega
   rw[Sb.kR hlt]at HI;obtain⟨e,he⟩:=qaa (i-1);have we:IntKind.i64.wrap ((i:Int)-1)=(e:Int):=by rw[IntKind.wrap_i64];omega
   have hae:a≤e:=by omega
   have ZT:e<b:=by omega
   have HE:Hid (Sb.fK F m b-1=e):=by show _=_;rw[←HI.out,he]
   replace he:=qae he;clear HI;have b2:¬(i:Int)<(i:Int):=by omega
   generalize Ih:sortWorldK enc k w blk off qi d oi=YQ;go_wp2_with fail;go_loopw [13] (fun kk wr=>∃(x qx:Nat) (dx:Array α) (ox:Array Obj),kk=.int .i64 x∧a≤x∧x≤e∧dx.size=d.size∧wr=sortWorldK enc k w blk off qx dx ox∧Hid (Sb.wu e x dx=Sb.wu e a d)) (fun kk _=>e-(intOf kk).toNat)
   case atStart=>exact⟨a,qi,d,oi,rfl,qaf _,hae,rfl,Ih.symm,rfl⟩
   case round=>
    obtain⟨x,qx,dx,ox,rfl,hax,hxe,hsx,rfl,HX⟩:=hrel;clear Ih;by_cases hlx:x<e
    ·have b3:(x:Int)<(e:Int):=by omega
     obtain⟨la,lb,s1,s2,hnx⟩:=SC.out x (x+1) qx ox dx hsx (by omega) (by omega);have hsd:(swp dx x (x+1)).size=d.size:=by rw[swp_size];exact hsx
     rw[Sb.Na hlx]at HX;generalize sortWorldK enc k w blk off qx dx ox=wq at la lb s1 s2 hnx⊢;obtain⟨cA,hcA⟩:∃c,c=enc dx[x]! :=⟨_,rfl⟩;obtain⟨cB,hcB⟩:∃c,c=enc dx[x+1]! :=⟨_,rfl⟩;have lA:cA.length=k:=by rw[hcA];exact hlen.out _
     have lB:cB.length=k:=by rw[hcB];exact hlen.out _
     rw[←hcA]at la s2 hnx;rw[←hcB]at lb s1 s2 hnx;replace hcA:=qae hcA;replace hcB:=qae hcB;have wx:IntKind.i64.wrap ((x:Int)+1)=(x:Int)+1:=by rw[IntKind.wrap_i64];omega
     have j0:(x:Int)<(d.size:Int):=by omega
     have j1:(x:Int)+1<(d.size:Int):=by omega
     have j2:(0:Int)≤(x:Int)+1:=by omega
     have j3:((x:Int)+1).toNat=x+1:=by omega
     go_wp2_with fail;go_region;rw[hnx.out];go_wp2_with fail;go_roundw
     case rel=>exact⟨x+1,qx+1,swp dx x (x+1),ox,by go_num,by omega,by omega,hsd,rfl,HX⟩
     case measure=>simp[intOf];omega
    ·have b3:¬(x:Int)<(e:Int):=by omega
     rw[Sb.Ef hlx]at HX;go_wp2_with fail;refine bodyPost_ret (results_none rfl _ _ _) rfl ?_;exact⟨rfl,qx,ox,by rw[HE.out,←HX.out]⟩
theorem Qz (k:Nat)(zE:∀w,Sem.run prog (Go.sizeOf 55) w=.ok k w)(a m b q:Nat)(os:Array Obj)(hE:lD enc k)(hC:oO prog g enc k cf blk off d0.size w)(hH:HoldsK enc k w blk off d0)(hs:d.size=d0.size)(hblk:blk<w.heap.size)(h1:b=m+1)(h0:a+1<m)(hb:b≤d.size)(hsz:d.size<4611686018427387904):
 Calls prog 255 #[.slice (some ⟨blk,off,none⟩) d.size cap,.int .i64 a,.int .i64 m,.int .i64 b,.func (.func g) #[] #[]] (sortWorldK enc k w blk off q d os) fun e w'=>
  e=.returned (.tuple #[])∧∃q' os',w'=sortWorldK enc k w blk off q' (Sb.wy (Sb.fK (fun h=>!ltOf cf d[m]! d[h]!) a m) m d) os':=by
 have eg:=hC.eg;have nA:=FU;replace hs:=qae hs;have wd:IntKind.i64.wrap ((b:Int)-(m:Int))=1:=by rw[IntKind.wrap_i64];omega
 have YR:IntKind.i64.wrap ((m:Int)-(a:Int))=(m:Int)-(a:Int):=by rw[IntKind.wrap_i64];omega
 have YS:((m:Int)-(a:Int) == 1)=false:=by simp;omega
 have Qw:a<m:=by omega
 have hmb:m<d.size:=by omega
 replace h1:=qae h1;obtain⟨F,hF⟩:∃F:Nat→Bool,F=fun h=>!ltOf cf d[m]! d[h]! :=⟨_,rfl⟩;have hF2:Hid (∀h,F h= !decide (cf d[m]! d[h]! <0)):=fun h=>by rw[hF];rfl
 rw[←hF];replace hF:=qae hF;have CC:Aside _:=fun(x y q:Nat) (os:Array Obj) (hx:x<d.size) (hy:y<d.size)=>wD (q:=q) (os:=os) hE hC hH hs.out hblk hx hy;have SC:Aside _:=fun(x y q:Nat) (os:Array Obj) (di:Array α) (hsi:di.size=d.size) (hx:x<di.size) (hy:y<di.size)=>zH (d:=di) (q:=q) (os:=os) hE hH (hsi.trans hs.out) hblk hx hy;have hlen:Hid _:=hE.len;clear hC hH hE;go_enter func255,ntmps255;go_wp2_with fail;go_loopw [14,15] (fun ii jj wr=>∃(i j qi:Nat) (oi:Array Obj),ii=.int .i64 i∧jj=.int .i64 j∧a≤i∧i≤j∧j≤m∧wr=sortWorldK enc k w blk off qi d oi∧Hid (Sb.fK F i j=Sb.fK F a m)) (fun ii jj _=>(intOf jj).toNat-(intOf ii).toNat)
 case atStart=>exact⟨a,m,q,os,rfl,rfl,qaf _,by omega,qaf _,rfl,rfl⟩
 case round=>
  obtain⟨i,j,qi,oi,rfl,rfl,Ig,hij,hjb,rfl,HI⟩:=hrel;by_cases hlt:i<j
  ·have b2:(i:Int)<(j:Int):=by omega
   obtain⟨hm,hhm⟩:∃x:Nat,x=(i+j)/2:=⟨_,rfl⟩;have eh:((i:Int)+(j:Int))/2=(hm:Int):=by omega
   have vW:hm<d.size:=by omega
   have VH:(hm:Int)<(d.size:Int):=by omega
   have VI:(m:Int)<(d.size:Int):=by omega
   have wh:IntKind.i64.wrap ((hm:Int)+1)=(hm:Int)+1:=by rw[IntKind.wrap_i64];omega
   obtain⟨cls,lx,ly,cg⟩:=CC.out m hm qi oi (by omega) vW;have HI2:Hid ((F hm=true→Sb.fK F (hm+1) j=Sb.fK F a m)∧(F hm=false→Sb.fK F i hm=Sb.fK F a m)):=
    ⟨fun hf=>by rw[←HI.out,Sb.qB hlt (by rw[←hhm];exact hf),hhm],fun hf=>by rw[←HI.out,Sb.uT hlt (by rw[←hhm];exact hf),hhm]⟩
   have o1:i≤hm:=by omega
   have o2:hm<j:=by omega
   replace hhm:=qae hhm;have CLS:Hid _:=cls;clear cls HI;generalize hwq:sortWorldK enc k w blk off qi d oi=wq at lx ly cg CLS⊢;replace hwq:=qae hwq;have rF:Hid (F hm= !decide (cf d[m]! d[hm]! <0)):=hF2.out hm;generalize d[m]! =X at*;generalize d[hm]! =Y at*;by_cases hlv:cf X Y<0
   ·have oP:F hm=false:=by rw[rF.out,qag hlv];rfl
    have nb:(!decide (cf X Y<0))=false:=by rw[qag hlv];rfl
    have HI3:Hid _:=HI2.out.2 oP;clear HI2 rF oP;go_wp2_with fail;go_quiet_grown (first|(go_at_fn g;refine Calls.grown_of (cg _ _)));go_wp2_with fail;go_roundw
    case rel=>exact⟨i,hm,qi+nq,oi++osq,rfl,by go_num,Ig,o1,by omega,CLS.out nq osq,HI3⟩
    case measure=>simp[intOf];omega
   ·have oP:F hm=true:=by rw[rF.out,qah hlv];rfl
    have nb:(!decide (cf X Y<0))=true:=by rw[qah hlv];rfl
    have HI3:Hid _:=HI2.out.1 oP;clear HI2 rF oP;go_wp2_with fail;go_quiet_grown (first|(go_at_fn g;refine Calls.grown_of (cg _ _)));go_wp2_with fail;go_roundw
    case rel=>exact⟨hm+1,j,qi+nq,oi++osq,by go_num,rfl,by omega,by omega,hjb,CLS.out nq osq,HI3⟩
    case measure=>simp[intOf];omega
  ·obtain rfl:i=j:=by omega
   rw[Sb.kR hlt]at HI;replace HI:Hid (Sb.fK F a m=i):=by show _=_;rw[←HI.out]
   have b2:¬(i:Int)<(i:Int):=by omega
   generalize Ih:sortWorldK enc k w blk off qi d oi=YQ;go_wp2_with fail;go_loopw [17] (fun kk wr=>∃(x qx:Nat) (dx:Array α) (ox:Array Obj),kk=.int .i64 x∧i≤x∧x≤m∧dx.size=d.size∧wr=sortWorldK enc k w blk off qx dx ox∧Hid (Sb.wy i x dx=Sb.wy i m d)) (fun kk _=>(intOf kk).toNat)
   case atStart=>exact⟨m,qi,d,oi,rfl,hjb,qaf _,rfl,Ih.symm,rfl⟩
   case round=>
    obtain⟨x,qx,dx,ox,rfl,hax,hxe,hsx,rfl,HX⟩:=hrel;clear Ih;by_cases hlx:i<x
    ·obtain⟨y,rfl⟩:∃y,x=y+1:=⟨x-1,by omega⟩;have b3:(i:Int)<(y:Int)+1:=by omega
     obtain⟨la,lb,s1,s2,hnx⟩:=SC.out (y+1) y qx ox dx hsx (by omega) (by omega);have hsd:(swp dx (y+1) y).size=d.size:=by rw[swp_size];exact hsx
     rw[Sb.Nb hlx,Nat.add_sub_cancel]at HX;generalize sortWorldK enc k w blk off qx dx ox=wq at la lb s1 s2 hnx⊢;obtain⟨cA,hcA⟩:∃c,c=enc dx[y+1]! :=⟨_,rfl⟩;obtain⟨cB,hcB⟩:∃c,c=enc dx[y]! :=⟨_,rfl⟩;have lA:cA.length=k:=by rw[hcA];exact hlen.out _
     have lB:cB.length=k:=by rw[hcB];exact hlen.out _
     rw[←hcA]at la s2 hnx;rw[←hcB]at lb s1 s2 hnx;replace hcA:=qae hcA;replace hcB:=qae hcB;have wx:IntKind.i64.wrap (y:Int)=(y:Int):=by rw[IntKind.wrap_i64];omega
     have j0:(y:Int)<(d.size:Int):=by omega
     have j1:(y:Int)+1<(d.size:Int):=by omega
     have j2:(0:Int)≤(y:Int)+1:=by omega
     have j3:((y:Int)+1).toNat=y+1:=by omega
     go_wp2_with fail;go_region;rw[hnx.out];go_wp2_with fail;go_roundw
     case rel=>exact⟨y,qx+1,swp dx (y+1) y,ox,by go_num,by omega,by omega,hsd,rfl,HX⟩
     case measure=>simp[intOf]
    ·have b3:¬(i:Int)<(x:Int):=by omega
     rw[Sb.Eg hlx]at HX;go_wp2_with fail;refine bodyPost_ret (results_none rfl _ _ _) rfl ?_;exact⟨rfl,qx,ox,by rw[HI.out,←HX.out]⟩
end
end Go.Proofs.YtaimcpmcndapcaaGreat
