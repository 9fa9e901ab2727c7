/-
 Own words and walks, merged: the last part but one.
-/
import Derived.Deep.Cut
import Derived.Deep.CutRange
import Derived.Deep.LoopGhost
import Derived.Test.YtaimcpmcndapcaaGreatRows
import Derived.ProofKit
import Derived.OpenShut
import Derived.Test.YtaimcpmcndapcaaGreatLw7
set_option maxRecDepth 1000000
set_option maxHeartbeats 8000000
set_option linter.all false
namespace Go.Proofs.YtaimcpmcndapcaaGreat
open Go.Proofs.Tryz
def AB (j:Jb):It:=⟨j.id,j.wid,j.lim,j.aJ⟩
def dR (M:Md)(c:List (Int×Int)):Md:=c.foldl (fun M x=>(aL M x.1 x.2).2) M
def jo :Md→List (Int×Int)→Nat
 |_,[]=>0
 |M,x::c=>(if(aL M x.1 x.2).1 then 1 else 0)+jo (aL M x.1 x.2).2 c
def AV (M:Md)(x:Int×Int):Bool:=(aL M x.1 x.2).1&&decide ((getM (aL M x.1 x.2).2 x.1).1.st=3)
def bZ :Md→List (Int×Int)→List Int
 |_,[]=>[]
 |M,x::c=>(if AV M x then[x.1]else[])++bZ (aL M x.1 x.2).2 c
section
variable {M : Md}
theorem uB (M:Md)(x:Int×Int)(c:List (Int×Int)):dR M (x::c)=dR (aL M x.1 x.2).2 c:=rfl
theorem J2 (M:Md)(c:List (Int×Int))(x:Int×Int):dR M (c++[x])=(aL (dR M c) x.1 x.2).2:=by
 unfold dR;rw[List.foldl_append];rfl
theorem Ai (x:Int×Int):∀(c:List (Int×Int)) (M:Md),jo M (c++[x])=jo M c+if(aL (dR M c) x.1 x.2).1 then 1 else 0
 | [],M=>Nat.add_comm (if(aL M x.1 x.2).1 then 1 else 0) 0
 |y::c,M=>by
  show _+jo _ (c++[x])=_+jo _ c+_;rw[Ai x c];show _=_+_+(if(aL (dR (aL M y.1 y.2).2 c) x.1 x.2).1 then 1 else 0);omega
theorem yc (x:Int×Int):∀(c:List (Int×Int)) (M:Md),bZ M (c++[x])=bZ M c++if AV (dR M c) x then[x.1]else[]
 | [],M=>List.append_nil (if AV M x then[x.1]else[])
 |y::c,M=>by
  show _++bZ _ (c++[x])=_++bZ _ c++_;rw[yc x c,List.append_assoc];rfl
theorem EY :∀(c:List (Int×Int)) (M:Md),jo M c≤c.length
 | [],_=>qaf _
 |x::c,M=>by
  have:=EY c (aL M x.1 x.2).2;show(if _ then 1 else 0)+_≤c.length+1;split<;>omega
theorem CU :∀(c:List (Int×Int)) (M:Md),(bZ M c).length≤c.length
 | [],_=>qaf _
 |x::c,M=>by
  have:=CU c (aL M x.1 x.2).2;show(_++_:List Int).length≤c.length+1;rw[List.length_append];split
  ·show 1+_≤_;omega
  ·show 0+_≤_;omega
theorem vP (M:Md)(i x:Int):(aL M i x).2.L.length=M.L.length∧(aL M i x).2.dr=M.dr∧(aL M i x).2.now=M.now∧(aL M i x).2.cl=M.cl:=by
 unfold aL;split
 ·split
  ·exact⟨by simp[aX],rfl,rfl,rfl⟩
  ·exact⟨by simp,rfl,rfl,rfl⟩
 ·exact⟨rfl,rfl,rfl,rfl⟩
theorem nY :∀(c:List (Int×Int)) (M:Md),(dR M c).L.length=M.L.length∧(dR M c).dr=M.dr∧(dR M c).now=M.now∧(dR M c).cl=M.cl
 | [],_=>⟨rfl,rfl,rfl,rfl⟩
 |x::c,M=>by
  have h:=vP M x.1 x.2;have h2:=nY c (aL M x.1 x.2).2;rw[uB];exact⟨h2.1.trans h.1,h2.2.1.trans h.2.1,h2.2.2.1.trans h.2.2.1,h2.2.2.2.trans h.2.2.2⟩
theorem zo :∀(c:List (Int×Int)) {M:Md},Ok M→Ok (dR M c)
 | [],_,h=>h
 |x::c,_,h=>by rw[uB];exact zo c (h.jq _ _)
def sw (now:Int)(a b:Jb):Prop:=b=a∨(a.st=1∧((b.st=3∧b.iO=now)∨(b.st=1∧0≤b.aJ∧(a.aJ<0∨b.aJ≤a.aJ))))
theorem sw.trans {now:Int}{a b c:Jb}(h:sw now a b)(h':sw now b c):sw now a c:=by
 rcases h with rfl|⟨h1,h2⟩
 ·exact h'
 ·rcases h' with rfl|⟨h3,h4⟩
  ·exact .inr ⟨h1,h2⟩
  ·refine .inr ⟨h1,?_⟩;rcases h2 with⟨h2,_⟩|⟨h2,h5,h6⟩
   ·rw[h2]at h3;exact absurd h3 (by decide)
   ·rcases h4 with h4|⟨h4,h7,h8⟩
    ·exact .inl h4
    ·exact .inr ⟨h4,h7,by omega⟩
theorem J3 {i x:Int}(h:eF M i x=false):aL M i x=(false,M):=qai (by rw[h];decide)
theorem MK {i x:Int}(h:eF M i x=true):aL M i x=(true,if x=M.now then aX M (i-1).toNat else{M with L:=M.L.set (i-1).toNat ((M.L.getD (i-1).toNat default).aH x)}):=by
 unfold aL;rw[qaj h];split<;>rfl
theorem getD_set_ne {L:List Jb}{i q:Nat}{y:Jb}(h:q≠i):(L.set i y).getD q default=L.getD q default:=by
 simp[List.getD,List.getElem?_set,Ne.symm h]
theorem lZ {L:List Jb}{i:Nat}{y:Jb}(h:i<L.length):(L.set i y).getD i default=y:=by
 simp[List.getD,List.getElem?_set,h]
theorem ML {i x:Int}(h:eF M i x=true):¬(0≤(getM M i).1.aJ∧(getM M i).1.aJ≤x):=by
 unfold eF at h;simp only at h;split at h
 ·cases h
 ·rename_i hq
  exact fun e=>hq (.inr (.inr (.inr (.inr (.inr e)))))
theorem CV (hI:aG M)(i x:Int)(q:Nat):sw M.now (M.L.getD q default) ((aL M i x).2.L.getD q default):=by
 cases hf:eF M i x with
 |false=>rw[J3 hf];exact .inl rfl
 |true=>
  obtain⟨n,rfl,hn,hs,ht1,ht2,hcl,hroom⟩:=Ah hI hf;have hp:=ML hf;have hg:(getM M ((n:Int)+1)).1=M.L.getD n default:=by
   unfold getM;rw[qai (by omega)];show M.L.getD ((n:Int)+1-1).toNat default=_;rw[show((n:Int)+1-1).toNat=n by omega]
  rw[hg]at hp;rw[MK hf,show((n:Int)+1-1).toNat=n by omega];by_cases hq:q=n
  ·subst hq;refine .inr ⟨hs,?_⟩;by_cases e:x=M.now
   ·rw[qaj e];show((M.L.set q (fC M (M.L.getD q default))).getD q default).st=3∧_∨_;refine .inl ⟨?_,?_⟩
    ·rw[lZ hn];rfl
    ·show((M.L.set q (fC M (M.L.getD q default))).getD q default).iO=_;rw[lZ hn];rfl
   ·rw[qai e];show _∨(((M.L.set q ((M.L.getD q default).aH x)).getD q default).st=1∧_);have hnw:=hI.mb.now;refine .inr ⟨?_,?_,?_⟩
    ·rw[lZ hn];exact hs
    ·show 0≤((M.L.set q ((M.L.getD q default).aH x)).getD q default).aJ;rw[lZ hn];show 0≤x;omega
    ·show _∨((M.L.set q ((M.L.getD q default).aH x)).getD q default).aJ≤_;rw[lZ hn];show _∨x≤_;omega
  ·refine .inl ?_;split
   ·exact getD_set_ne hq
   ·exact getD_set_ne hq
theorem vQ (q:Nat):∀(c:List (Int×Int)) {M:Md},Ok M→sw M.now (M.L.getD q default) ((dR M c).L.getD q default)
 | [],_,_=>.inl rfl
 |x::c,M,h=>by
  have h2:=vQ q c (h.jq x.1 x.2);rw[(vP M x.1 x.2).2.2.1]at h2;rw[uB];exact(CV h.inv x.1 x.2 q).trans h2
theorem SI {M:Md}(hI:aG M)(hC:Calm M){j:Jb}(h:j∈M.L):(AB j).ok:=by
 have h1:=hI.one j h;have h2:=hI.mb.wid j h;have h3:=hI.mb.lim j h;have h4:=hI.mb.aJ j h;exact⟨⟨h1.1,h2.2⟩,⟨h1.2.2.1,h3.2⟩,h4.1,h4.2⟩
end
open Go.RowKit Go.Sort Go.Lib
theorem GQ :(prog.info? 100).map (fun i=>(i.zero,i.size,i.bytes))=some (some (.agg #[.int .i64 0,.int .i64 0,.int .i64 0,.int .i64 0]),4,32):=by kernel_rfl
theorem Aj :(prog.info? 35).map (fun i=>(i.zero,i.size,i.bytes))=some (some (.agg #[.int .i64 0,.int .i64 0]),2,16):=by kernel_rfl
theorem CX (x:It)(w:World):
 Calls prog 163 #[.agg (eZ x).toArray] w fun e w'=>e=.returned (.bool (JY x))∧w'=w.alloc (.cells (eZ x).toArray 100):=by
 obtain⟨i,n,l,p⟩:=x;unfold JY eZ;dsimp only;by_cases h1:1≤n
 ·by_cases h2:n≤64
  ·by_cases h3:1≤l
   ·by_cases h4:l≤1048576
    ·by_cases h5: -1≤p
     ·by_cases h6:p≤1099511627776
      ·go_enter func163,ntmps163;go_wp2_with fail;go_ret;exact⟨by simp[*]<;>omega,rfl⟩
      ·go_enter func163,ntmps163;go_wp2_with fail;go_ret;exact⟨by simp[*]<;>omega,rfl⟩
     ·go_enter func163,ntmps163;go_wp2_with fail;go_ret;exact⟨by simp[*]<;>omega,rfl⟩
    ·go_enter func163,ntmps163;go_wp2_with fail;go_ret;exact⟨by simp[*]<;>omega,rfl⟩
   ·go_enter func163,ntmps163;go_wp2_with fail;go_ret;exact⟨by simp[*]<;>omega,rfl⟩
  ·go_enter func163,ntmps163;go_wp2_with fail;go_ret;exact⟨by simp[*]<;>omega,rfl⟩
 ·go_enter func163,ntmps163;go_wp2_with fail;go_ret;exact⟨by simp[*]<;>omega,rfl⟩
theorem GR (x:It)(w:World):
 Calls prog 162 #[.agg (eZ x).toArray] w fun e w'=>e=.returned (.bool (!JY x))∧Below w.heap.size w w':=by
 have h:=fun W=>CX x W;have hz:(eZ x).toArray= #[.int .i64 x.id,.int .i64 x.wd,.int .i64 x.lim,.int .i64 x.pl]:=rfl;rw[hz]at h⊢;clear hz;obtain⟨b,hb⟩:=qaa (JY x);rw[←hb]at h⊢;clear hb;have hb2:Hid (Below w.heap.size w ((w.alloc (.cells #[.int .i64 x.id,.int .i64 x.wd,.int .i64 x.lim,.int .i64 x.pl] 100)).alloc (.cells #[.int .i64 x.id,.int .i64 x.wd,.int .i64 x.lim,.int .i64 x.pl] 100))):=(qac.alloc (qaf _) _).alloc (by simp) _;go_enter func162,ntmps162;go_wp2_with (go_at_call 163;go_must (refine(h _).mono ?_);rintro e w1 ⟨rfl,rfl⟩);go_ret;exact⟨rfl,hb2.out⟩
theorem vR {α:Type}{l:List α}{k:Nat}{s:α}(h:l[k]? =some s):l.take (k+1)=l.take k++[s]:=by
 obtain⟨hk,rfl⟩:=List.getElem?_eq_some_iff.1 h;rw[List.take_succ_eq_append_getElem hk]
theorem J4 {w:World}{l:List It}{b off k:Nat}{s:It}(hc:∀i s j u,l[i]? =some s→(eZ s)[j]? =some u→w.cell? ⟨b,off+(i*4+j),none⟩=some u)(hs:l[k]? =some s):
 w.cell? ⟨b,off+k*4,none⟩=some (.int .i64 s.id)∧w.cell? ⟨b,off+k*4+1,none⟩=some (.int .i64 s.wd)∧w.cell? ⟨b,off+k*4+2,none⟩=some (.int .i64 s.lim)∧w.cell? ⟨b,off+k*4+3,none⟩=some (.int .i64 s.pl):=
 ⟨hc k s 0 _ hs rfl,hc k s 1 _ hs rfl,hc k s 2 _ hs rfl,hc k s 3 _ hs rfl⟩
def SK (l:List It)(r:Int):Prop:=((∀x∈l,x.ok)∧r= -1)∨((∃x∈l,¬x.ok)∧0≤r)
theorem GV {w:World}{v:Value}{l:List It}(h:aC eZ 4 w v l)(hl:l.length≤1000):
 Calls prog 114 #[v,.func (.func 162) #[] #[]] w fun e w'=>∃r,e=.returned (.int .i64 r)∧SK l r∧Below w.heap.size w w':=by
 obtain⟨ao,cap,rfl,hlc,hcm,hcells⟩:=h;clear hcm;go_enter func114,ntmps114;go_wp2_with fail;go_loopw [5,8] (fun _ ii wr=>∃(k:Nat),k≤l.length∧ii=.int .i64 k∧(∀x∈l.take k,x.ok)∧Below w.heap.size w wr) (fun _ ii _=>l.length-(intOf ii).toNat)
 case atStart=>exact⟨0,Nat.zero_le _,rfl,fun x hx=>by simp at hx,Below.refl _ _⟩
 case round=>
  obtain⟨k,hk,rfl,hok,hb⟩:=hrel;by_cases hlt:k<l.length
  ·obtain⟨b,off,rfl,hbw,hcell⟩:=hcells (by omega);obtain⟨s,hs⟩:∃s,l[k]? =some s:=⟨_,List.getElem?_eq_getElem hlt⟩;obtain⟨c0,c1,c2,c3⟩:=J4 hcell hs;rw[←hb.cell (p:=⟨b,_,none⟩) hbw]at c0 c1 c2 c3;have hsz:=hb.size;have hR:=fun W=>GR s W;rw[show(eZ s).toArray= #[.int .i64 s.id,.int .i64 s.wd,.int .i64 s.lim,.int .i64 s.pl]from rfl]at hR;have hmem:=List.mem_of_getElem? hs;have htk:=vR hs;have b1:(0:Int)≤k:=by omega
   have b2:(k:Int)<(l.length:Int):=by omega
   clear hcell hcells;by_cases hg:s.ok
   ·rw[(JZ s).2 hg]at hR;have hok':Hid (∀x∈l.take (k+1),x.ok):=by
     rw[htk];intro x hx;rcases List.mem_append.1 hx with h1|h1
     ·exact hok x h1
     ·have:x=s:=by simpa using h1
      rw[this];exact hg
    clear hok hg htk;go_wp2_with (go_at_call 162;go_must (refine(hR _).mono ?_);rintro e w2 ⟨rfl,hb2⟩);go_roundw
    case rel=>exact⟨k+1,by omega,by go_num,hok'.out,hb.trans (hb2.mono hsz)⟩
    case measure=>simp[intOf];omega
   ·rw[Uz hg]at hR;have hfin:Hid (SK l k):=.inr ⟨⟨s,hmem,hg⟩,by omega⟩;clear hok hg htk;go_wp2_with (go_at_call 162;go_must (refine(hR _).mono ?_);rintro e w2 ⟨rfl,hb2⟩);go_ret;exact⟨_,rfl,hfin.out,hb.trans (hb2.mono hsz)⟩
  ·obtain rfl:k=l.length:=by omega
   have hfin:Hid (SK l (-1)):=.inl ⟨by rw[List.take_length]at hok;exact hok,rfl⟩;clear hok hcells;go_wp2_with fail;go_ret;exact⟨_,rfl,hfin.out,hb⟩
theorem AJ {w:World}{v:Value}{l:List It}(h:aC eZ 4 w v l)(hl:l.length≤1000):
 Calls prog 161 #[v,.func (.func 162) #[] #[]] w fun e w'=>∃b,e=.returned (.bool b)∧(b=false→∀x∈l,x.ok)∧(b=true→∃x∈l,¬x.ok)∧Below w.heap.size w w':=by
 have hi:=GV h hl;go_enter func161,ntmps161;go_wp2_with fail;go_at_call 114;refine hi.mono ?_;clear hi;rintro e w1 ⟨r,rfl,hr,hb⟩;rcases hr with⟨h1,rfl⟩|⟨h1,h2⟩
 ·replace h1:=qae h1;go_wp2_with fail;go_ret;exact⟨_,rfl,fun _=>h1.out,fun h=>by simp at h,hb⟩
 ·replace h1:=qae h1;go_wp2_with fail;go_ret;exact⟨_,rfl,fun h=>by simp at h<;>omega,fun _=>h1.out,hb⟩
section
variable {α : Type} {enc : α → List Value} {sz : Nat}
theorem GX {w:World}{b off:Nat}(hsz:∀x,(enc x).length=sz){l:List α}(h:∀i s j u,l[i]? =some s→(enc s)[j]? =some u→w.cell? ⟨b,off+(i*sz+j),none⟩=some u):∀j u,(l.flatMap enc)[j]? =some u→w.cell? ((⟨b,off,none⟩:Addr).add j)=some u:=by
 intro j u hj;rw[Go.WideShapes.add_plain];have key:∀(l:List α) (j:Nat),(l.flatMap enc)[j]? =some u→∃i s q,l[i]? =some s∧(enc s)[q]? =some u∧j=i*sz+q:=by
  intro l
  induction l with
  |nil=>intro j hj;simp at hj
  |cons a l ih=>
   intro j hj;rw[List.flatMap_cons]at hj;by_cases hlt:j<sz
   ·rw[List.getElem?_append_left (by rw[hsz];exact hlt)]at hj;exact⟨0,a,j,rfl,hj,by omega⟩
   ·rw[List.getElem?_append_right (by rw[hsz];omega),hsz]at hj;obtain⟨i,s,q,h1,h2,h3⟩:=ih _ hj;exact⟨i+1,s,q,h1,h2,by rw[Nat.add_mul];omega⟩
 obtain⟨i,s,q,h1,h2,rfl⟩:=key l j hj;exact h i s q u h1 h2
theorem MM (hsz:∀x,(enc x).length=sz)(l:List α):(l.flatMap enc).length=l.length*sz:=by
 induction l with
 |nil=>simp
 |cons a l ih=>rw[List.flatMap_cons,List.length_append,ih,hsz,List.length_cons,Nat.add_mul];omega
theorem J5 {P:Program}{w:World}{v:Value}{t e:TypeId}{l:List α}(hu:P.underlying t=some (.slice e))(hsz:∀x,(enc x).length=sz)(h1:∀u∈l.flatMap enc,u.oneCell'=true)(hr:aC enc sz w v l):Src P sz t v l.length (l.flatMap enc) w:=by
 obtain⟨ao,cap,rfl,q1,q2,q3⟩:=hr;by_cases h0:l.length=0
 ·have:l=[]:=List.eq_nil_of_length_eq_zero h0;subst this;rcases ao with _|a
  ·exact Src.ofNil w hu cap
  ·exact Src.ofSlice w hu a 0 cap [] (by simp) (fun j u hj=>by simp at hj) (fun u hu=>by simp at hu)
 ·obtain⟨b,off,rfl,hlt,hc⟩:=q3 (by omega);exact Src.ofSlice w hu ⟨b,off,none⟩ l.length cap _ (MM hsz l) (GX hsz hc) h1
end
theorem PX (l:List It):∀u∈l.flatMap eZ,u.oneCell'=true:=by
 intro u hu;obtain⟨x,_,hx⟩:=List.mem_flatMap.1 hu;simp only[eZ,List.mem_cons,List.not_mem_nil,or_false]at hx;rcases hx with rfl|rfl|rfl|rfl<;>rfl
def CY (w:World)(l:List It)(e:Ending)(w':World):Prop:=
 ∃v',e=.returned v'∧w'.ownsRow w.heap.size 100 4 v' l.length (l.flatMap eZ)∧Below w.heap.size w w'
theorem MN {w:World}{v:Value}{l:List It}(hr:aC eZ 4 w v l)(hl:l.length≤1000):Calls prog 164 #[v] w (CY w l):=by
 obtain⟨i0,hi0,hz0,hz1,hz2⟩:=info_parts GQ;have hr1:=hr.below ((Below.refl w.heap.size w).alloc (qaf _) (.cells #[] 100));have hown:(w.alloc (.cells #[] 100)).ownsRow w.heap.size 100 4 (.slice (some ⟨w.heap.size,0,none⟩) 0 0) 0 []:=qm (vs:=[]) rfl (qaf _) rfl (Nat.zero_le _);have hsrc:=qae (J5 (enc:=eZ) (sz:=4) (t:=75) (P:=prog) underlying75 (fun _=>rfl) (PX l) hr1);obtain⟨ao,cap,rfl,q1,q2,q3⟩:=hr;rcases ao with _|a
 ·have hz:l=[]:=by
   rcases Nat.eq_zero_or_pos l.length with h|h
   ·exact List.eq_nil_of_length_eq_zero h
   ·obtain⟨b,off,e,_⟩:=q3 h;cases e
  subst hz;have hnil:∀w:World,(binOp .eql 75 (.slice none 0 cap) (.slice none 0 0)).run prog w=.ok (.bool true) w:=fun w=>Lib.run_eql_slice_nil w _ _ _ _ _ _ _ underlying75;have hfin:Hid (CY w [] (.returned (.slice none 0 0)) w):=⟨_,rfl,World.ownsRow_nil w w.heap.size 100 4,Below.refl _ _⟩;clear hown hsrc q3 hr1;simp only[List.length_nil]at*;go_enter func164,ntmps164;go_wp2_with fail;go_ret;exact hfin.out
 ·have hnil:∀w:World,(binOp .eql 75 (.slice (some a) l.length cap) (.slice none 0 0)).run prog w=.ok (.bool false) w:=fun w=>Lib.run_eql_slice_nil w _ _ _ _ _ _ _ underlying75;obtain⟨n,hn⟩:=qab (l.length);rw[hn]at hnil hsrc hl⊢;clear q1 q2 q3 hr1;replace hn:=qae hn;go_enter func164,ntmps164;go_wp2_with (at_builtin;go_must (refine kL _ rfl (.tmp 5) (.tmp 6) 75 75 rfl w.heap.size 100 i0 (.agg #[.int .i64 0,.int .i64 0,.int .i64 0,.int .i64 0]) 4 32 underlying75 hi0 hz0 hz1 hz2 rfl (.slice (some ⟨w.heap.size,0,none⟩) 0 0) 0 [] rfl hown (.slice (some a) n cap) n (l.flatMap eZ) rfl hsrc.out ?c2 ?c3 ?c4 ?c5))
  case c2=>unfold maxLen;omega
  case c3=>omega
  case c4=>simp
  case c5=>
   intro v' w2 hown3 hgrow;have hfin:Hid (CY w l (.returned v') w2):=⟨_,rfl,by rw[hn.out];exact hown3,((Below.refl _ w).alloc (qaf _) _).grown hgrow (by simp) (fun q hq=>by cases hq;exact qaf _)⟩;clear hown hgrow hown3 hsrc;go_wp2_with fail;go_ret;exact hfin.out
def yf (w:World)(l:List (Int×Int))(e:Ending)(w':World):Prop:=
 ∃v',e=.returned v'∧w'.ownsRow w.heap.size 35 2 v' l.length (l.flatMap enc2)∧Below w.heap.size w w'
theorem MO {w:World}{v:Value}{l:List (Int×Int)}(hr:aC enc2 2 w v l)(hl:l.length≤1000):Calls prog 166 #[v] w (yf w l):=by
 obtain⟨i0,hi0,hz0,hz1,hz2⟩:=info_parts Aj;have hr1:=hr.below ((Below.refl w.heap.size w).alloc (qaf _) (.cells #[] 35));have hown:(w.alloc (.cells #[] 35)).ownsRow w.heap.size 35 2 (.slice (some ⟨w.heap.size,0,none⟩) 0 0) 0 []:=qm (vs:=[]) rfl (qaf _) rfl (Nat.zero_le _);have hsrc:=qae (J5 (enc:=enc2) (sz:=2) (t:=72) (P:=prog) underlying72 (fun _=>rfl) (qM l) hr1);obtain⟨ao,cap,rfl,q1,q2,q3⟩:=hr;rcases ao with _|a
 ·have hz:l=[]:=by
   rcases Nat.eq_zero_or_pos l.length with h|h
   ·exact List.eq_nil_of_length_eq_zero h
   ·obtain⟨b,off,e,_⟩:=q3 h;cases e
  subst hz;have hnil:∀w:World,(binOp .eql 72 (.slice none 0 cap) (.slice none 0 0)).run prog w=.ok (.bool true) w:=fun w=>Lib.run_eql_slice_nil w _ _ _ _ _ _ _ underlying72;have hfin:Hid (yf w [] (.returned (.slice none 0 0)) w):=⟨_,rfl,World.ownsRow_nil w w.heap.size 35 2,Below.refl _ _⟩;clear hown hsrc q3 hr1;simp only[List.length_nil]at*;go_enter func166,ntmps166;go_wp2_with fail;go_ret;exact hfin.out
 ·have hnil:∀w:World,(binOp .eql 72 (.slice (some a) l.length cap) (.slice none 0 0)).run prog w=.ok (.bool false) w:=fun w=>Lib.run_eql_slice_nil w _ _ _ _ _ _ _ underlying72;obtain⟨n,hn⟩:=qab (l.length);rw[hn]at hnil hsrc hl⊢;clear q1 q2 q3 hr1;replace hn:=qae hn;go_enter func166,ntmps166;go_wp2_with (at_builtin;go_must (refine kL _ rfl (.tmp 5) (.tmp 6) 72 72 rfl w.heap.size 35 i0 (.agg #[.int .i64 0,.int .i64 0]) 2 16 underlying72 hi0 hz0 hz1 hz2 rfl (.slice (some ⟨w.heap.size,0,none⟩) 0 0) 0 [] rfl hown (.slice (some a) n cap) n (l.flatMap enc2) rfl hsrc.out ?c2 ?c3 ?c4 ?c5))
  case c2=>unfold maxLen;omega
  case c3=>omega
  case c4=>simp
  case c5=>
   intro v' w2 hown3 hgrow;have hfin:Hid (yf w l (.returned v') w2):=⟨_,rfl,by rw[hn.out];exact hown3,((Below.refl _ w).alloc (qaf _) _).grown hgrow (by simp) (fun q hq=>by cases hq;exact qaf _)⟩;clear hown hgrow hown3 hsrc;go_wp2_with fail;go_ret;exact hfin.out
theorem uC {w:World}{base:Nat}{e:TypeId}{sz n k:Nat}{v:Value}{xs:List Value}(h:w.ownsRow base e sz v n xs)(hk:v.ownBlock=some k):∃cur,w.heap[k]? =some (.cells cur e (0,0)):=by
 rcases h.2 with⟨rfl,_⟩|⟨g,cap,cur,rfl,_,hg,_⟩
 ·simp[Value.ownBlock]at hk
 ·have:g=k:=by simpa[Value.ownBlock]using hk
  subst this;exact⟨cur,hg⟩
structure jT (w w' : World) : Prop where
 size:w.heap.size≤w'.heap.size
 at_:∀(k:Nat) (cur:Array Value),w.heap[k]? =some (Obj.cells cur 100 (0,0))→w'.heap[k]? =some (Obj.cells cur 100 (0,0))
theorem jT.trans {w w' w'':World}(h:jT w w')(h':jT w' w''):jT w w'':=⟨Nat.le_trans h.size h'.size,fun k _ hk=>h'.at_ k _ (h.at_ k _ hk)⟩
theorem jT.of_below {w w':World}(h:Below w.heap.size w w'):jT w w':=⟨h.size,fun k c hk=>(h.block k (au hk)).trans hk⟩
theorem jT.FZ {w w':World}{p g:Nat}{L:List (Int×Int)}{aF:Int}(h:Off p g w w')(hp:PW w p g L aF):jT w w':=by
 obtain⟨cap,Z⟩:=hp.facts;obtain⟨cur,hg,_⟩:=fQ Z.own;exact⟨h.size,fun k c hk=>(h.block k (au hk) (aT hk Z.obj (by decide)) (aT hk hg (by decide))).trans hk⟩
structure l9 (B : Nat) (w : World) (z p g : Nat) (lv cv : Value) (L : List (Int × Int)) (aF now : Int) (f : Int → Int) (cs : List (Int × Int)) (a : Nat) (m : Int) : Prop where
 bz:B≤z
 obj:w.heap[z]? =some (.cells #[.pointer (some ⟨p,0,none⟩),lv,cv] 212 (0,0))
 x:PW w p g L aF
 can:Can L now f
 fr:∀t,now≤t→0≤f t∧f t≤64
 qR:0≤now∧now≤1099511627776
 ll:L.length≤a
 v:0≤aF∧aF≤m
 bp:B≤p
 bg:B≤g
 ch:w.ownsRow B 35 2 cv cs.length (aN cs)
section
variable {B : Nat} {w w' : World} {z p g : Nat} {lv cv : Value} {L : List (Int × Int)} {aF now : Int} {f : Int → Int} {cs : List (Int × Int)} {a : Nat} {m : Int}
theorem l9.kept (h:l9 B w z p g lv cv L aF now f cs a m)(hb:Below w.heap.size w w'):l9 B w' z p g lv cv L aF now f cs a m:=
 ⟨h.bz,(hb.block _ (au h.obj)).trans h.obj,h.x.kept hb,h.can,h.fr,h.qR,h.ll,h.v,h.bp,h.bg,bF h.ch hb⟩
theorem l9.size (h:l9 B w z p g lv cv L aF now f cs a m):B≤w.heap.size:=Nat.le_trans h.bz (Nat.le_of_lt (au h.obj))
theorem l9.more (h:l9 B w z p g lv cv L aF now f cs a m){a':Nat}{m':Int}(ha:a≤a')(hm:m≤m'):l9 B w z p g lv cv L aF now f cs a' m':=
 ⟨h.bz,h.obj,h.x,h.can,h.fr,h.qR,Nat.le_trans h.ll ha,⟨h.v.1,Int.le_trans h.v.2 hm⟩,h.bp,h.bg,h.ch⟩
theorem l9.added {x y n:Int}{r:Value}(h:l9 B w z p g lv cv L aF now f cs a m)(hA:bO w p g L aF now f x y n (.returned r) w'):
 ∃(r1 dv:Int) (f':Int→Int) (g':Nat) (L':List (Int×Int)),r=.int .i64 r1∧sK f now x y n r1 f' dv∧l9 B w' z p g' lv cv L' (aF+dv) now f' cs (a+2) (m+1)∧Below B w w'∧jT w w':=by
 obtain⟨r1,dv,f',g',L',hr,hR,hP,hC,hg,hO,hl⟩:=hA;injection hr with hr;obtain⟨cap,Z⟩:=h.x.facts;obtain⟨cur,hgh,_⟩:=fQ Z.own;have hdv:0≤dv∧dv≤1:=by
  rcases hR with⟨_,_,_,h⟩|⟨_,_,_,_,h⟩|⟨_,_,_,_,_,h⟩|⟨_,_,_,_,_,h⟩<;>omega
 have hv:=h.v;have hll:=h.ll;have hsz:=h.size;refine⟨r1,dv,f',g',L',hr,hR,⟨h.bz,(hO.block z (au h.obj) (aT h.obj Z.obj (by decide)) (aT h.obj hgh (by decide))).trans h.obj,hP,hC,hR.range h.fr (fun t ht=>h.can.sm.late t ht),h.qR,by omega,by omega,h.bp,?_,?_⟩,hO.below h.bp h.bg hsz,.FZ hO h.x⟩
 ·have:=h.bg;omega
 ·refine hO.own h.ch fun k hk=>?_;obtain⟨Vi,hk2⟩:=uC h.ch hk;exact⟨aT hk2 Z.obj (by decide),aT hk2 hgh (by decide)⟩
def NF (w:World)(b:Nat)(x:It):Prop:=w.heap[b]? =some (.cells #[.int .i64 x.id,.int .i64 x.wd,.int .i64 x.lim,.int .i64 x.pl] 100 (0,0))
theorem J6 {b:Nat}{x:It}(at_:Int)(hI:NF w b x)(h64: -9223372036854775808≤at_+x.lim∧at_+x.lim≤9223372036854775807):
 Calls prog 199 #[.int .i64 at_,.pointer (some ⟨b,0,none⟩)] w fun e w'=>e=.returned (.agg #[.int .i64 at_,.int .i64 (at_+x.lim),.int .i64 x.wd])∧Below w.heap.size w w':=by
 have hlt:=au hI;have hI':(w.alloc (.cells #[.int .i64 0,.int .i64 0,.int .i64 0] 131)).heap[b]? =some (.cells #[.int .i64 x.id,.int .i64 x.wd,.int .i64 x.lim,.int .i64 x.pl] 100 (0,0)):=dL hI;have c1:(w.alloc (.cells #[.int .i64 0,.int .i64 0,.int .i64 0] 131)).cell? ⟨b,1,none⟩=some (.int .i64 x.wd):=by simp[World.cell?,hI']
 have c2:(w.alloc (.cells #[.int .i64 0,.int .i64 0,.int .i64 0] 131)).cell? ⟨b,2,none⟩=some (.int .i64 x.lim):=by simp[World.cell?,hI']
 have hw:IntKind.i64.wrap (at_+x.lim)=at_+x.lim:=IntWalk.i64_in _ h64;clear hI' hI h64;go_enter func199,ntmps199;go_wp2_with fail;refine eH rfl rfl rfl (heap_alloc_new w _) underlying131 rfl (by kernel_rfl) ⟨rfl,qac.alloc (qaf _) _⟩
theorem PY {w:World}{b:Nat}{vs:List Value}{T:TypeId}(h:w.heap[b]? =some (.cells vs.toArray T (0,0))):∀j u,vs[j]? =some u→w.cell? ((⟨b,0,none⟩:Addr).add j)=some u:=by
 intro j u hj;rw[Go.WideShapes.add_plain];simp[World.cell?,h,hj]
def ownB (v:Value)(w:World):Nat:=v.ownBlock.getD w.heap.size
theorem yg {w:World}{v:Value}{n:Nat}{xs:List Value}{k:Nat}{cur:Array Value}{T:TypeId}(h:w.ownsRow B 35 2 v n xs)(hk:w.heap[k]? =some (.cells cur T (0,0)))(hT:T≠35):k≠ownB v w:=by
 unfold ownB;cases ho:v.ownBlock with
 |none=>have:=au hk;simp;omega
 |some q=>
  obtain⟨Vi,hq⟩:=uC h ho;exact aT hk hq hT
theorem J7 {w:World}{v:Value}{n:Nat}{xs:List Value}(h:w.ownsRow B 35 2 v n xs)(hB:B≤w.heap.size):B≤ownB v w:=by
 unfold ownB;cases ho:v.ownBlock with
 |none=>exact hB
 |some q=>exact(h.lt q ho).1
def Vj (w a b:World):Prop:=∀k,w.heap.size≤k→k<a.heap.size→b.heap[k]? =a.heap[k]?
def ql (B:Nat)(w:World)(cv:Value)(n:Nat)(xs:List Value)(v:Value)(W:World):Prop:=W.ownsRow B 35 2 v n xs∧Off (ownB cv w) (ownB cv w) w W
theorem ql.ext {w:World}{n:Nat}{xs:List Value}{v:Value}(a b:World)(he:Below a.heap.size a b)(h:ql B w cv n xs v a):ql B w cv n xs v b:=⟨bF h.1 he,h.2.nD he⟩
theorem ql.of {w wz W:World}{v:Value}{n n':Nat}{xs ys:List Value}(h:w.ownsRow B 35 2 cv n xs)(hb:Below w.heap.size w wz)(ho:W.ownsRow B 35 2 v n' ys)(hg:wz.grownBy W cv.ownBlock):ql B w cv n' ys v W∧Vj w wz W:=by
 refine⟨⟨ho,⟨hg.os.trans hb.os,hg.tape.trans hb.tape,hg.output.trans hb.output,Nat.le_trans hb.size hg.size,fun k hk h1 _=>?_⟩⟩,fun k h1 h2=>hg.block k h2 ?_⟩
 ·refine(hg.block k (Nat.lt_of_lt_of_le hk hb.size) ?_).trans (hb.block k hk);intro e;exact h1 (by simp[ownB,←e])
 ·intro e;have:=(h.lt k e.symm).2;omega
theorem l9.pushed {W:World}{v:Value}{x y:Int}(h:l9 B w z p g lv cv L aF now f cs a m)(hG:ql B w cv (cs.length+1) (aN cs++[.int .i64 x,.int .i64 y]) v W):
 l9 B (W.setCell ⟨z,2,none⟩ v) z p g lv v L aF now f (cs++[(x,y)]) a m∧Below B w (W.setCell ⟨z,2,none⟩ v)∧jT w (W.setCell ⟨z,2,none⟩ v)∧W.heap[z]? =some (.cells #[.pointer (some ⟨p,0,none⟩),lv,cv] 212 (0,0)):=by
 obtain⟨ho,hO⟩:=hG;obtain⟨cap,Z⟩:=h.x.facts;obtain⟨cur,hgh,_⟩:=fQ Z.own;have nz:=yg h.ch h.obj (by decide);have np:=yg h.ch Z.obj (by decide);have ng:=yg h.ch hgh (by decide);have sM:W.heap[z]? =some (.cells #[.pointer (some ⟨p,0,none⟩),lv,cv] 212 (0,0)):=(hO.block z (au h.obj) nz nz).trans h.obj;have hx:PW W p g L aF:=h.x.off hO ⟨np,np⟩ ⟨ng,ng⟩;obtain⟨cap2,Z2⟩:=hx.facts;obtain⟨Vi,Vk,_⟩:=fQ Z2.own;have hS:Off z z W (W.setCell ⟨z,2,none⟩ v):=(Off.refl z z W).setCell (.inl rfl);have hbw:Below B w W:=hO.below (J7 h.ch h.size) (J7 h.ch h.size) h.size;refine⟨⟨h.bz,by rw[heap_put sM];rfl,hx.off hS ⟨aT Z2.obj sM (by decide),aT Z2.obj sM (by decide)⟩ ⟨aT Vk sM (by decide),aT Vk sM (by decide)⟩,h.can,h.fr,h.qR,h.ll,h.v,h.bp,h.bg,?_⟩,hbw.setCell h.bz _,?_,sM⟩
 ·have e1:aN (cs++[(x,y)])=aN cs++[.int .i64 x,.int .i64 y]:=by simp[aN,enc2]
  rw[e1,List.length_append,List.length_singleton];refine sV ho (fun k hk=>?_) 2 v;obtain⟨SL,hk3⟩:=uC ho hk;exact aT hk3 sM (by decide)
 ·refine⟨by simpa using hO.size,fun k SL hk=>?_⟩;have n1:=yg h.ch hk (by decide);have hk2:=(hO.block k (au hk) n1 n1).trans hk;rw[Below.heap_setCell W ⟨z,2,none⟩ v k (aT hk2 sM (by decide))];exact hk2
def qU (B:Nat)(w:World)(z p:Nat)(lv:Value)(now:Int)(f:Int→Int)(cs:List (Int×Int))(a:Nat)(m:Int)(x:It)(e:Ending)(w':World):Prop:=
 e=.returned (.tuple #[])∧∃(g':Nat) (cv':Value) (L':List (Int×Int)) (J8:Int) (f':Int→Int) (c:List (Int×Int)),
  l9 B w' z p g' lv cv' L' J8 now f' (cs++c) (a+4) (m+2)∧nL now x f f' c∧Below B w w'∧jT w w'
theorem SN (x:It)(hx:x.ok)(h:l9 B w z p g lv cv L aF now f cs a m)(ha:a≤700)(hm:m≤900000)(hcs:cs.length≤1000):
 Calls prog 165 #[.pointer (some ⟨z,0,none⟩),.agg #[.int .i64 x.id,.int .i64 x.wd,.int .i64 x.lim,.int .i64 x.pl]] w (qU B w z p lv now f cs a m x):=by
 have hmf:∀(fn:Fn) (first cap:Array Value) (w:World),(Instr.makeFunc fn first cap).run prog w=.ok (.func fn first cap) w:=fun _ _ _ _=>rfl;have nA:=iw;obtain⟨⟨o1,o2⟩,⟨o3,o4⟩,o5,o6⟩:=hx;have hsz:=h.size;obtain⟨wA,aK⟩:=qaa (w.alloc (.cells #[.int .i64 x.id,.int .i64 x.wd,.int .i64 x.lim,.int .i64 x.pl] 100));have bS:Below w.heap.size w wA:=by rw[aK];exact qac.alloc (qaf _) _
 obtain⟨ib,hib⟩:=qaa (w.heap.size);have J9:Hid (NF wA ib x):=by rw[aK,hib];exact heap_alloc_new w _
 have hA:=qae (h.kept bS);have DJ:=qae (bS.mono hsz);have Wq:=qae (jT.of_below bS);have d3:wA.cell? ⟨ib,3,none⟩=some (.int .i64 x.pl):=by have:=J9.out;unfold NF at this;simp[World.cell?,this]
 clear h bS;go_enter func165,ntmps165;go_upto_region 3 with fail;rw[←aK,←hib];clear aK hib;have hsp:Hid (∀W,Below wA.heap.size wA W→∀t:Int,-1≤t→t≤1099511627776→Calls prog 199 #[.int .i64 t,.pointer (some ⟨ib,0,none⟩)] W fun e w'=>e=.returned (.agg #[.int .i64 t,.int .i64 (t+x.lim),.int .i64 x.wd])∧Below W.heap.size W w'):=fun W hW t h1 h2=>J6 t ((hW.block _ (au J9.out)).trans J9.out) (by omega);have vD:Hid (wA.heap[z]? =some (.cells #[.pointer (some ⟨p,0,none⟩),lv,cv] 212 (0,0))):=hA.out.obj;have Ka:Hid (wA.heap[ib]? =some (.cells #[.int .i64 x.id,.int .i64 x.wd,.int .i64 x.lim,.int .i64 x.pl] 100 (0,0))):=J9.out;clear d3;obtain⟨pb,hpb⟩:∃pb:Bool,pb=(x.pl != -1):=⟨_,rfl⟩;rw[←hpb];replace hpb:=qae hpb;go_cut [24]from 12 (fun v wc=>∃(r1:Int) (g1:Nat) (L1:List (Int×Int)) (sN:Int) (f1:Int→Int),v=.bool (r1 != 0)∧Hid (l9 B wc z p g1 lv cv L1 sN now f1 cs (a+2) (m+1))∧Hid (sj now x f f1 r1)∧Hid (wc.heap[ib]? =some (.cells #[.int .i64 x.id,.int .i64 x.wd,.int .i64 x.lim,.int .i64 x.pl] 100 (0,0)))∧Hid (Below B w wc)∧Hid (jT w wc))
 case first=>
  cases pb with
  |false=>
   have hp:Hid (x.pl= -1):=by have:=hpb.out;simp at this;show x.pl= -1;omega
   clear hsp vD Ka hpb;go_quiet (fail);have hbq:Below wA.heap.size wA (wA.drewN nq):=below_drewN qac nq;have hfin:Hid (∃(r1:Int) (g1:Nat) (L1:List (Int×Int)) (sN:Int) (f1:Int→Int),(.bool false:Value)=.bool (r1 != 0)∧Hid (l9 B (wA.drewN nq) z p g1 lv cv L1 sN now f1 cs (a+2) (m+1))∧Hid (sj now x f f1 r1)∧Hid ((wA.drewN nq).heap[ib]? =some (.cells #[.int .i64 x.id,.int .i64 x.wd,.int .i64 x.lim,.int .i64 x.pl] 100 (0,0)))∧Hid (Below B w (wA.drewN nq))∧Hid (jT w (wA.drewN nq))):=
    ⟨0,g,L,aF,f,rfl,(hA.out.kept hbq).more (by omega) (by omega),.inl ⟨hp.out,rfl,rfl⟩,J9.out,below_drewN DJ.out nq,Wq.out.trans (.of_below hbq)⟩
   go_wp2_with fail;go_meet
   case rel=>exact hfin.out
  |true=>
   have hp2:Hid (x.pl≠-1):=by have:=hpb.out;simp at this;show x.pl≠-1;omega
   have hs1:=fun W hW=>hsp.out W hW x.pl o5 o6;replace hs1:=qae hs1;clear hpb;refine Reg2.ro wA 10 87 [.p 0,.p 1,.p 3,.p 7,.p 15,.m 31,.p 3,.p 3,.m 131,.m 451] [.pointer (some ⟨p,0,none⟩),.int .i64 x.pl,.agg #[.int .i64 x.pl,.int .i64 (x.pl+x.lim),.int .i64 x.wd]] (by kernel_rfl) (by kernel_rfl) rfl rfl ⟨rfl,rfl,rfl,qaf _,fun _ _=>rfl⟩ ?_;dsimp only[Reg2.gY]
   repeat((first
    |(refine' Reg2.ak _ (by rfl) (fun wz=>?_) ?_;rotate_left;(go_simp;first|rfl|rw[qai (by omega)]))
    |(refine Reg2.aA (by rfl) (fun wz hI hF=>?_) (fun _=>?_)
      ·unfold Reg2.One;have q0:wz.cell? ⟨z,0,none⟩=some (.pointer (some ⟨p,0,none⟩)):=by simp[World.cell?,(hI.block _ (au vD.out)).trans vD.out]
       have xR:wz.cell? ⟨ib,3,none⟩=some (.int .i64 x.pl):=by simp[World.cell?,(hI.block _ (au Ka.out)).trans Ka.out]
       go_wp2_with fail
       first|exact⟨_,rfl,rfl,qad⟩|exact⟨_,rfl,⟨(),rfl,trivial⟩,qad⟩));simp only[Act.put,xA,xB,xC,xD,xE,id])
   refine Reg2.pm (fun wz hI hF=>?_) (fun r9=>?_) (by rfl)
   ·have hs2:=hs1.out wz hI;go_wp2_with (go_at_call 199;go_must (refine hs2.mono ?_);rintro e w5 ⟨rfl,hb5⟩)
    first|exact⟨_,rfl,⟨(),rfl,trivial⟩,hb5⟩|exact⟨_,rfl,rfl,hb5⟩
   simp only[Act.put,xA,xB,xC,xD,xE,id];refine Reg2.aB ?_;intro w1 HI _ eX;clear eX;dsimp only[List.drop];have hP1:=hA.out.kept HI;have hrel:=xO x.pl (x.pl+x.lim) x.wd (by omega) hP1.can hP1.qR.1 hP1.fr (by have:=hP1.v;omega) (by have:=hP1.ll;omega) hP1.x;have hb1:=DJ.out.trans (HI.mono (by have:=hA.out.size;exact this));have hk1:=Wq.out.trans (.of_below HI);have hI1:=(HI.block _ (au J9.out)).trans J9.out;replace hb1:=qae hb1;replace hk1:=qae hk1;replace hI1:=qae hI1;replace hP1:=qae hP1;clear HI hs1 hsp vD Ka;go_wp2_with fail;go_at_call 200;refine hrel.mono ?_;clear hrel;intro e w2 hp3;obtain⟨v2,rfl,hp3⟩:∃v2,e=.returned v2∧bO w1 p g L aF now f x.pl (x.pl+x.lim) x.wd (.returned v2) w2:=by
    obtain⟨r,dv,f',g',L',h1,h2⟩:=hp3;exact⟨_,h1,r,dv,f',g',L',rfl,h2⟩
   obtain⟨r1,dv,f1,g1,L1,rfl,hR,hP2,hb2,hk2⟩:=hP1.out.added hp3;have hfin:Hid (∃(r2:Int) (g1:Nat) (L1:List (Int×Int)) (sN:Int) (f1:Int→Int),(.bool (r1 != 0):Value)=.bool (r2 != 0)∧Hid (l9 B w2 z p g1 lv cv L1 sN now f1 cs (a+2) (m+1))∧Hid (sj now x f f1 r2)∧Hid (w2.heap[ib]? =some (.cells #[.int .i64 x.id,.int .i64 x.wd,.int .i64 x.lim,.int .i64 x.pl] 100 (0,0)))∧Hid (Below B w w2)∧Hid (jT w w2)):=
    ⟨r1,g1,L1,_,f1,rfl,hP2,.inr ⟨hp2.out,dv,hR⟩,hk2.at_ _ _ hI1.out,hb1.out.trans hb2,hk1.out.trans hk2⟩
   clear hp3 hR hP2 hb2 hk2;go_wp2_with fail;go_meet
   case rel=>exact hfin.out
 case rest=>
  obtain⟨r1,g1,L1,sN,f1,rfl,hP1,hF1,hI1,hb1,hk1⟩:=hcut;clear hA DJ Wq J9 hsp vD Ka;by_cases h0:r1=0
  ·subst h0;have Ws:Hid (wc.heap[z]? =some (.cells #[.pointer (some ⟨p,0,none⟩),lv,cv] 212 (0,0))):=hP1.out.obj;have hnw:Hid (∀W,Below wc.heap.size wc W→Calls prog 45 #[.pointer (some ⟨p,0,none⟩)] W fun e w'=>e=.returned (.int .i64 now)∧W=w'):=fun W hW=>by
    have:=lN (hP1.out.x.kept hW) hP1.out.can.sm.pos;rw[hP1.out.can.sm.hd]at this;exact this
   have Qx:Hid (∀W,Below wc.heap.size wc W→Calls prog 201 #[.pointer (some ⟨p,0,none⟩),.int .i64 now,.int .i64 x.lim,.int .i64 x.wd] W fun e w'=>∃t e':Int,e=.returned (.tuple #[.int .i64 t,.int .i64 e'])∧qX f1 now x.lim x.wd t e'∧Below W.heap.size W w'):=fun W hW=>by
    have:=DC now x.lim x.wd (by have:=hP1.out.qR;omega) hP1.out.can.sm hP1.out.qR.1 (by have:=hP1.out.ll;omega) (hP1.out.x.kept hW) (by omega);rw[show max now now=now by omega]at this;exact this
   have d1:((0:Int) != 0)=false:=rfl;go_upto_region 4 with fail;clear d1;refine Reg2.rd wc 18 87 (Reg2.rows 0 [.p 0,.p 1,.p 3,.p 7,.p 0,.p 16,.p 48,.p 112,.p 240,.p 0,.p 512,.p 0,.p 2048,.p 8191,.p 16383,.p 32767,.p 32767,.p 65535]) [0,0,0,1,0,0,0,1,1,0,1,0,1,1,0,0,0,0] [.pure,.pure,.pure,.mU (.pointer (some ⟨p,0,none⟩)),.pure,.pure,.pure,.mU (.pointer (some ⟨p,0,none⟩)),.mU (.int .i64 now),.pure,.mU (.int .i64 x.lim),.pure,.mU (.int .i64 x.wd),.minor (Int×Int) (0,0) (fun y=>.tuple #[.int .i64 y.1,.int .i64 y.2]) (fun y W=>qX f1 now x.lim x.wd y.1 y.2),.pure,.pure,.pure,.pure] (by kernel_rfl) (by kernel_rfl) rfl rfl ⟨trivial,trivial,trivial,Reg2.tt,trivial,trivial,trivial,Reg2.tt,Reg2.tt,trivial,Reg2.tt,trivial,Reg2.tt,⟨fun _ _ _ _ h=>h,fun _ _ _ _ h=>h⟩,trivial,trivial,trivial,trivial,trivial⟩ ⟨rfl,rfl,rfl,qaf _,fun _ _=>rfl⟩ ?_;dsimp only[Reg2.rows,Reg2.mk,List.zip,List.zipWith,List.take]
   repeat((first
    |(refine' Reg2.ak _ (by rfl) (fun wz=>?_) ?_;rotate_left;(go_simp;first|rfl|rw[qai (by omega)]))
    |(refine Reg2.aA (by rfl) (fun wz hI hF=>?_) (fun _=>?_)
      ·unfold Reg2.One;have q0:wz.cell? ⟨z,0,none⟩=some (.pointer (some ⟨p,0,none⟩)):=by simp[World.cell?,(hI.block _ (au Ws.out)).trans Ws.out]
       go_wp2_with fail
       first|exact⟨_,rfl,rfl,qad⟩|exact⟨_,rfl,⟨(),rfl,trivial⟩,qad⟩));simp only[Act.put,xA,xB,xC,xD,xE,id])
   refine Reg2.pm (fun wz hI hF=>?_) (fun r8=>?_) (by rfl)
   ·have hs2:=hnw.out wz hI;go_wp2_with (go_at_call 45;go_must (refine hs2.mono ?_);rintro e w5 ⟨rfl,rfl⟩)
    first|exact⟨_,rfl,rfl,qad⟩|exact⟨_,rfl,⟨(),rfl,trivial⟩,qad⟩
   simp only[Act.put,xA,xB,xC,xD,xE,id]
   repeat((first
    |(refine' Reg2.ak _ (by rfl) (fun wz=>?_) ?_;rotate_left;(go_simp;first|rfl|rw[qai (by omega)]))
    |(refine Reg2.aA (by rfl) (fun wz hI hF=>?_) (fun _=>?_)
      ·unfold Reg2.One;have q0:wz.cell? ⟨ib,2,none⟩=some (.int .i64 x.lim):=by simp[World.cell?,(hI.block _ (au hI1.out)).trans hI1.out]
       have xR:wz.cell? ⟨ib,1,none⟩=some (.int .i64 x.wd):=by simp[World.cell?,(hI.block _ (au hI1.out)).trans hI1.out]
       go_wp2_with fail
       first|exact⟨_,rfl,rfl,qad⟩|exact⟨_,rfl,⟨(),rfl,trivial⟩,qad⟩));simp only[Act.put,xA,xB,xC,xD,xE,id])
   refine Reg2.pm (fun wz hI hF=>?_) (fun Su=>?_) (by rfl)
   ·have hs2:=Qx.out wz hI;go_wp2_with (go_at_call 201;go_must (refine hs2.mono ?_);rintro e w5 ⟨t5,e5,rfl,Zk,hb5⟩);exact⟨_,rfl,⟨(t5,e5),rfl,Zk⟩,hb5⟩
   simp only[Act.put,xA,xB,xC,xD,xE,id]
   repeat(refine' Reg2.ak _ (by rfl) (fun wz=>?_) ?_;rotate_left;(go_simp;first|rfl|rw[qai (by omega)]);simp only[Act.put,xA,xB,xC,xD,xE,id])
   refine Reg2.aB ?_;intro w3 HI3 _ rJ;have hE:=rJ.2.2.2.2.2.2.2.2.2.2.2.2.2.1;obtain⟨t,e3⟩:=Su;clear rJ;dsimp only at hE;dsimp only[List.drop];have hP3:=hP1.out.kept HI3;have AL:=(HI3.block _ (au hI1.out)).trans hI1.out;have Ik:=hP1.out.size;have hb3:=hb1.out.trans (HI3.mono Ik);have hk3:=hk1.out.trans (.of_below HI3);clear hP1 hI1 hb1 hk1 Ws hnw Qx HI3 Ik;have hO3:Hid (w3.heap[z]? =some (.cells #[.pointer (some ⟨p,0,none⟩),lv,cv] 212 (0,0))):=hP3.obj;have hsp:Hid (∀W,Below w3.heap.size w3 W→∀t:Int,-1≤t→t≤1099511627776→Calls prog 199 #[.int .i64 t,.pointer (some ⟨ib,0,none⟩)] W fun e w'=>e=.returned (.agg #[.int .i64 t,.int .i64 (t+x.lim),.int .i64 x.wd])∧Below W.heap.size W w'):=fun W hW t h1 h2=>J6 t (show NF W ib x from(hW.block _ (au AL)).trans AL) (by omega);have hE2:(e3=0∧now≤t∧t≤1099511627776)∨e3=16:=by
    rcases hE with⟨h1,h2,h3,_⟩|⟨h1,_⟩
    ·exact .inl ⟨h1,h2,h3⟩
    ·exact .inr h1
   replace hP3:=qae hP3;replace AL:=qae AL;replace hb3:=qae hb3;replace hk3:=qae hk3;replace hE:=qae hE;have q3:w3.cell? ⟨ib,3,none⟩=some (.int .i64 x.pl):=by simp[World.cell?,AL.out]
   go_upto_region 5 with fail;go_cut [42]from 43 (fun v wd=>∃b:Bool,v=.bool b∧Hid (b=true↔su x t e3)∧w3=wd)
   case first=>
    cases pb with
    |false=>
     have hp:x.pl= -1:=by have:=hpb.out;simp at this;omega
     rcases hE2 with⟨rfl,h1,h2⟩|rfl
     ·have hfin:Hid (su x t 0):=⟨rfl,.inl hp⟩;clear hp;go_wp2_with fail;go_meet
      case rel=>exact⟨true,rfl,⟨fun _=>hfin.out,fun _=>rfl⟩,rfl⟩
     ·have hfin:Hid (false=true↔su x t 16):=⟨fun h=>(by cases h),fun h=>absurd h.1 (by decide)⟩;clear hp;go_wp2_with fail;go_meet
      case rel=>exact⟨_,rfl,hfin,rfl⟩
    |true=>
     have hp:x.pl≠-1:=by have:=hpb.out;simp at this;omega
     rcases hE2 with⟨rfl,h1,h2⟩|rfl
     ·by_cases hlt:t<x.pl
      ·have hfin:Hid (su x t 0):=⟨rfl,.inr hlt⟩;clear hp;go_wp2_with fail;go_meet
       case rel=>exact⟨true,rfl,⟨fun _=>hfin.out,fun _=>rfl⟩,rfl⟩
      ·have hfin:Hid (false=true↔su x t 0):=⟨fun h=>(by cases h),fun h=>h.2.elim (fun h=>absurd h hp) (fun h=>absurd h hlt)⟩;clear hp;go_wp2_with fail;go_meet
       case rel=>exact⟨_,rfl,hfin,rfl⟩
     ·have hfin:Hid (false=true↔su x t 16):=⟨fun h=>(by cases h),fun h=>absurd h.1 (by decide)⟩;clear hp;go_wp2_with fail;go_meet
      case rel=>exact⟨_,rfl,hfin,rfl⟩
   case rest=>
    obtain⟨b,rfl,hbk,rfl⟩:=hcut;clear q3;cases b with
    |true=>
     have hpk:=hbk.out.1 rfl;have ht:=hE2.resolve_right (by rw[hpk.1];decide);obtain⟨rfl,ht1,ht2⟩:=ht;have hs1:=fun W hW=>hsp.out W hW t (by have:=hP3.out.qR;omega) ht2;replace hs1:=qae hs1;replace hpk:=qae hpk;clear hbk hE2 hsp;go_wp2_with fail;refine Reg2.ro w3 7 87 [.p 0,.p 1,.p 3,.m 7,.p 0,.p 0,.m 48] [.pointer (some ⟨p,0,none⟩),.agg #[.int .i64 t,.int .i64 (t+x.lim),.int .i64 x.wd]] (by kernel_rfl) (by kernel_rfl) rfl rfl ⟨rfl,rfl,rfl,qaf _,fun _ _=>rfl⟩ ?_;dsimp only[Reg2.gY]
     repeat((first
      |(refine' Reg2.ak _ (by rfl) (fun wz=>?_) ?_;rotate_left;(go_simp;first|rfl|rw[qai (by omega)]))
      |(refine Reg2.aA (by rfl) (fun wz hI hF=>?_) (fun _=>?_)
        ·unfold Reg2.One;have q0:wz.cell? ⟨z,0,none⟩=some (.pointer (some ⟨p,0,none⟩)):=by simp[World.cell?,(hI.block _ (au hO3.out)).trans hO3.out]
         go_wp2_with fail
         first|exact⟨_,rfl,rfl,qad⟩|exact⟨_,rfl,⟨(),rfl,trivial⟩,qad⟩));simp only[Act.put,xA,xB,xC,xD,xE,id])
     refine Reg2.pm (fun wz hI hF=>?_) (fun r6=>?_) (by rfl)
     ·have hs2:=hs1.out wz hI;go_wp2_with (go_at_call 199;go_must (refine hs2.mono ?_);rintro e w5 ⟨rfl,hb5⟩)
      first|exact⟨_,rfl,⟨(),rfl,trivial⟩,hb5⟩|exact⟨_,rfl,rfl,hb5⟩
     simp only[Act.put,xA,xB,xC,xD,xE,id];refine Reg2.aB ?_;intro w4 HI _ eX;clear eX;dsimp only[List.drop];have nJ:=hP3.out.kept HI;have hres:=rQ t (t+x.lim) x.wd (by omega) nJ.can nJ.qR.1 nJ.fr (by have:=nJ.v;omega) (by have:=nJ.ll;omega) nJ.x;have hb4:=hb3.out.trans (HI.mono hP3.out.size);have hk4:=hk3.out.trans (.of_below HI);have UA:=(HI.block _ (au AL.out)).trans AL.out;replace hb4:=qae hb4;replace hk4:=qae hk4;replace UA:=qae UA;replace nJ:=qae nJ;clear HI hs1 hO3 hP3 AL hb3 hk3;go_wp2_with fail;go_at_call 202;refine hres.mono ?_;clear hres;intro e w5 hp3;obtain⟨v5,rfl,hp3⟩:∃v5,e=.returned v5∧bO w4 p g1 L1 sN now f1 t (t+x.lim) (-x.wd) (.returned v5) w5:=by
      obtain⟨r,dv,f',g',L',h1,h2⟩:=hp3;exact⟨_,h1,r,dv,f',g',L',rfl,h2⟩
     obtain⟨r5,Wt,f5,g5,L5,rfl,yO,wM,hb5,hk5⟩:=nJ.out.added hp3;have SQ:=hk5.at_ _ _ UA.out;have hb5:=hb4.out.trans hb5;have hk5:=hk4.out.trans hk5;have hL5:Hid (nL now x f f5 [(x.id,t)]):=⟨f1,0,hF1.out,.inr ⟨rfl,t,0,hE.out,.inl ⟨hpk.out,rfl,r5,Wt,yO⟩⟩⟩;clear hp3 yO nJ hb4 hk4 UA hF1 hE;have Wu:Hid (w5.heap[z]? =some (.cells #[.pointer (some ⟨p,0,none⟩),lv,cv] 212 (0,0))):=wM.obj;replace SQ:=qae SQ;replace wM:=qae wM;replace hb5:=qae hb5;replace hk5:=qae hk5;have hch:Hid (w5.ownsRow B 35 2 cv cs.length (aN cs)):=wM.out.ch;obtain⟨i0,hi0,hz0,hz1,hz2⟩:=info_parts Aj;go_upto_region 7 with fail;refine Reg2.sO 11 87 (Reg2.rows 0 [.p 0,.p 0,.p 2,.p 6,.p 14,.p 0,.p 32,.p 0,.p 224,.p 480,.p 1022]) [0,0,0,0,2,0,2,0,0,2,3]
      [.pure,.pure,.pure,.pure,.pinned Unit () (fun _=>cv) (fun _ _=>True),.pure,.pinned Unit () (fun _=>.int .i64 x.id) (fun _ _=>True),.pure,.pure,.pinned Nat 0 (fun k=>.slice (some ⟨k,0,none⟩) 1 1) (fun k W=>w5.heap.size≤k∧W.heap[k]? =some (.cells #[.int .i64 x.id,.int .i64 t] 35 (0,0))),.major Value undef (fun v=>v)]
      (fun _=>True) (fun vs W=>match vs with| []=>Below w5.heap.size w5 W|v::_=>ql B w5 cv (cs.length+1) (aN cs++[.int .i64 x.id,.int .i64 t]) v W) (fun a b=>Vj w5 a b) (by kernel_rfl) (by kernel_rfl) rfl rfl (fun vs a b h hs=>by cases vs with|nil=>exact Below.trans hs (h.mono (Below.size hs))|cons v vs=>exact ql.ext a b h hs) ?_ ?_ ?_ ?_ ?_ ?_
     ·intro a b he hb;trivial
     ·intro a b he hb;trivial
     ·exact⟨trivial,trivial,trivial,trivial,⟨fun _ _ _ _ _=>trivial,fun _ _ _ _ _=>trivial⟩,trivial,⟨fun _ _ _ _ _=>trivial,fun _ _ _ _ _=>trivial⟩,trivial,trivial,⟨fun k a b he hx=>⟨hx.1,(he.block _ (au hx.2)).trans hx.2⟩,fun k a b hg hx=>⟨hx.1,(hg k hx.1 (au hx.2)).trans hx.2⟩⟩,trivial,trivial⟩
     ·trivial
     ·exact⟨rfl,rfl,rfl,qaf _,fun _ _=>rfl⟩
     dsimp only[Reg2.rows,Reg2.mk,List.zip,List.zipWith,List.take]
     repeat(refine' Reg2.ak _ (by rfl) (fun wz=>?_) ?_;rotate_left;(go_simp;first|rfl|rw[qai (by omega)]);simp only[Act.put,xA,xB,xC,xD,xE,id])
     refine Reg2.pp (fun wz _ hI hF=>?_) (fun r4=>?_) (by rfl)
     ·have q0:wz.cell? ⟨z,2,none⟩=some (cv):=by simp[World.cell?,(hI.block _ (au Wu.out)).trans Wu.out]
      go_wp2_with fail
      first|exact⟨_,rfl,rfl,qad⟩|exact⟨_,rfl,⟨(),rfl,trivial⟩,qad⟩
     simp only[Act.put,xA,xB,xC,xD,xE,id]
     repeat(refine' Reg2.ak _ (by rfl) (fun wz=>?_) ?_;rotate_left;(go_simp;first|rfl|rw[qai (by omega)]);simp only[Act.put,xA,xB,xC,xD,xE,id])
     refine Reg2.pp (fun wz _ hI hF=>?_) (fun r6=>?_) (by rfl)
     ·have q0:wz.cell? ⟨ib,0,none⟩=some (.int .i64 x.id):=by simp[World.cell?,(hI.block _ (au SQ.out)).trans SQ.out]
      go_wp2_with fail
      first|exact⟨_,rfl,rfl,qad⟩|exact⟨_,rfl,⟨(),rfl,trivial⟩,qad⟩
     simp only[Act.put,xA,xB,xC,xD,xE,id]
     repeat(refine' Reg2.ak _ (by rfl) (fun wz=>?_) ?_;rotate_left;(go_simp;first|rfl|rw[qai (by omega)]);simp only[Act.put,xA,xB,xC,xD,xE,id])
     refine Reg2.pp (fun wz _ hI hF=>?_) (fun r9=>?_) (by rfl)
     ·have hge:=hI.size;go_wp2_with fail;exact⟨_,rfl,⟨wz.heap.size,rfl,hge,heap_alloc_new wz _⟩,qac.alloc (qaf _) _⟩
     simp only[Act.put,xA,xB,xC,xD,xE,id];refine Reg2.pj (fun wz _ hI hF=>?_) (fun yN=>?_) (by rfl)
     ·have bV:=hF.2.2.2.2.2.2.2.2.1;have hown:=bF hch.out hI;have ZL:=Nat.le_trans wM.out.size hI.size;go_wp2_with (at_builtin;go_must (refine wpList_append_own _ rfl (.tmp 67) (.tmp 72) 72 rfl B 35 i0 (.agg #[.int .i64 0,.int .i64 0]) 2 16 underlying72 hi0 hz0 hz1 hz2 rfl (by decide) cv cs.length (aN cs) rfl hown ⟨r9,0,none⟩ 1 1 [.int .i64 x.id,.int .i64 t] rfl rfl ?c0 ?c1 ?c2 ?c3 ?c4 ?c5))
      case c0=>exact fun j u hj=>by simpa[Go.WideShapes.add_plain]using PY bV.2 j u hj
      case c1=>simp[Value.oneCell']
      case c2=>unfold maxLen;omega
      case c3=>omega
      case c5=>
       intro v9 w9 SV hgrow _;have hpost:=ql.of hch.out hI SV hgrow;clear SV hgrow hown bV;go_wp2_with fail;exact⟨v9,rfl,hpost.1,hpost.2⟩
     simp only[Act.put,xA,xB,xC,xD,xE,id];refine Reg2.aB ?_;intro w6 _ Yj Zl;clear Zl;dsimp only[List.drop];have Wv:ql B w5 cv (cs.length+1) (aN cs++[.int .i64 x.id,.int .i64 t]) yN w6:=Yj;obtain⟨SX,cap6,rfl,_⟩:=dE Wv.1;obtain⟨Yk,kr,Yl,Ar⟩:=wM.out.pushed Wv;have hfin:Hid (qU B w z p lv now f cs a m x (.returned (.tuple #[])) (w6.setCell ⟨z,2,none⟩ (.slice SX (cs.length+1) cap6))):=⟨rfl,g5,_,L5,_,f5,[(x.id,t)],Yk.more (by omega) (by omega),hL5.out,hb5.out.trans kr,hk5.out.trans Yl⟩;have q2:w6.cell? ⟨z,2,none⟩=some cv:=by simp[World.cell?,Ar]
     have q3:w6.frozen? ⟨z,2,none⟩=false:=by simp[World.frozen?,Ar]
     clear Yk kr Yl Ar Yj Wv wM hb5 hk5 Wu SQ hL5 hch hpk;go_wp2_with fail;refine bodyPost_end (results_none rfl _ _ _) rfl ?_;exact hfin.out
    |false=>
     have hpk:¬su x t e3:=fun h=>by have:=hbk.out.2 h;cases this
     replace hpk:=qae hpk;clear hbk hE2;cases pb with
     |false=>
      have hp:x.pl= -1:=by have:=hpb.out;simp at this;omega
      have hfin:Hid (qU B w z p lv now f cs a m x (.returned (.tuple #[])) w3):=⟨rfl,g1,cv,L1,sN,f1,[],by rw[List.append_nil];exact hP3.out.more (by omega) (by omega),⟨f1,0,hF1.out,.inr ⟨rfl,t,e3,hE.out,.inr ⟨hpk.out,rfl,.inl ⟨hp,rfl⟩⟩⟩⟩,hb3.out,hk3.out⟩;clear hp hP3 AL hb3 hk3 hsp hO3 hE hF1 hpk;go_wp2_with fail;refine bodyPost_end (results_none rfl _ _ _) rfl ?_;exact hfin.out
     |true=>
      have hp2:Hid (x.pl≠-1):=by have:=hpb.out;simp at this;show x.pl≠-1;omega
      have hs1:=fun W hW=>hsp.out W hW x.pl o5 o6;replace hs1:=qae hs1;clear hsp;go_wp2_with fail;refine Reg2.ro w3 8 87 [.p 0,.p 1,.p 3,.m 7,.p 0,.p 0,.m 32,.m 112] [.pointer (some ⟨p,0,none⟩),.int .i64 x.pl,.agg #[.int .i64 x.pl,.int .i64 (x.pl+x.lim),.int .i64 x.wd]] (by kernel_rfl) (by kernel_rfl) rfl rfl ⟨rfl,rfl,rfl,qaf _,fun _ _=>rfl⟩ ?_;dsimp only[Reg2.gY]
      repeat((first
       |(refine' Reg2.ak _ (by rfl) (fun wz=>?_) ?_;rotate_left;(go_simp;first|rfl|rw[qai (by omega)]))
       |(refine Reg2.aA (by rfl) (fun wz hI hF=>?_) (fun _=>?_)
         ·unfold Reg2.One;have q0:wz.cell? ⟨z,0,none⟩=some (.pointer (some ⟨p,0,none⟩)):=by simp[World.cell?,(hI.block _ (au hO3.out)).trans hO3.out]
          have xR:wz.cell? ⟨ib,3,none⟩=some (.int .i64 x.pl):=by simp[World.cell?,(hI.block _ (au AL.out)).trans AL.out]
          go_wp2_with fail
          first|exact⟨_,rfl,rfl,qad⟩|exact⟨_,rfl,⟨(),rfl,trivial⟩,qad⟩));simp only[Act.put,xA,xB,xC,xD,xE,id])
      refine Reg2.pm (fun wz hI hF=>?_) (fun r7=>?_) (by rfl)
      ·have hs2:=hs1.out wz hI;go_wp2_with (go_at_call 199;go_must (refine hs2.mono ?_);rintro e w5 ⟨rfl,hb5⟩)
       first|exact⟨_,rfl,⟨(),rfl,trivial⟩,hb5⟩|exact⟨_,rfl,rfl,hb5⟩
      simp only[Act.put,xA,xB,xC,xD,xE,id];refine Reg2.aB ?_;intro w4 HI _ eX;clear eX;dsimp only[List.drop];have nJ:=hP3.out.kept HI;have hres:=rQ x.pl (x.pl+x.lim) x.wd (by omega) nJ.can nJ.qR.1 nJ.fr (by have:=nJ.v;omega) (by have:=nJ.ll;omega) nJ.x;have hb4:=hb3.out.trans (HI.mono hP3.out.size);have hk4:=hk3.out.trans (.of_below HI);replace hb4:=qae hb4;replace hk4:=qae hk4;replace nJ:=qae nJ;clear HI hs1 hO3 hP3 AL hb3 hk3;go_wp2_with fail;go_at_call 202;refine hres.mono ?_;clear hres;intro e w5 hp3;obtain⟨v5,rfl,hp3⟩:∃v5,e=.returned v5∧bO w4 p g1 L1 sN now f1 x.pl (x.pl+x.lim) (-x.wd) (.returned v5) w5:=by
       obtain⟨r,dv,f',g',L',h1,h2⟩:=hp3;exact⟨_,h1,r,dv,f',g',L',rfl,h2⟩
      obtain⟨r5,Wt,f5,g5,L5,rfl,yO,wM,hb5,hk5⟩:=nJ.out.added hp3;have hfin:Hid (qU B w z p lv now f cs a m x (.returned (.tuple #[])) w5):=⟨rfl,g5,cv,L5,_,f5,[],by rw[List.append_nil];exact wM.more (by omega) (by omega),⟨f1,0,hF1.out,.inr ⟨rfl,t,e3,hE.out,.inr ⟨hpk.out,rfl,.inr ⟨hp2.out,r5,Wt,yO⟩⟩⟩⟩,hb4.out.trans hb5,hk4.out.trans hk5⟩;clear hp3 yO nJ hb4 hk4 hF1 hE wM hb5 hk5;go_wp2_with fail;refine bodyPost_end (results_none rfl _ _ _) rfl ?_;exact hfin.out
  ·have hbn:(r1 != 0)=true:=by simp[h0]
   have hfin:Hid (qU B w z p lv now f cs a m x (.returned (.tuple #[])) wc):=⟨rfl,g1,cv,L1,sN,f1,[],by rw[List.append_nil];exact hP1.out.more (by omega) (by omega),⟨f1,r1,hF1.out,.inl ⟨h0,rfl,rfl⟩⟩,hb1.out,hk1.out⟩;clear hP1 hF1 hI1 hb1 hk1;go_wp2_with fail;refine bodyPost_ret (results_none rfl _ _ _) rfl ?_;exact hfin.out
end
def iP (w:World)(lv:Value)(l:List It):Prop:=
 aC eZ 4 w lv l∧∀b off n cap,lv=.slice (some ⟨b,off,none⟩) n cap→∃cur,w.heap[b]? =some (Obj.cells cur 100 (0,0))
section
variable {w w' : World} {lv : Value} {l : List It}
theorem iP.kept (h:iP w lv l)(hk:jT w w'):iP w' lv l:=by
 obtain⟨⟨ao,cap,rfl,q1,q2,q3⟩,h2⟩:=h;refine⟨⟨ao,cap,rfl,q1,q2,fun hp=>?_⟩,fun b off n cap e=>?_⟩
 ·obtain⟨b,off,rfl,hlt,hc⟩:=q3 hp;obtain⟨cur,hb⟩:=h2 b off _ _ rfl;refine⟨b,off,rfl,Nat.lt_of_lt_of_le hlt hk.size,fun i s j u hi hj=>?_⟩;rw[←hc i s j u hi hj];simp[World.cell?,hb,hk.at_ _ _ hb]
 ·obtain⟨cur,hb⟩:=h2 b off n cap e;exact⟨cur,hk.at_ _ _ hb⟩
theorem iP.fA {base n:Nat}{xs:List Value}(h:w.ownsRow base 100 4 lv n xs)(hx:xs=l.flatMap eZ)(hn:n=l.length):iP w lv l:=
 ⟨aC.fA h (fun _=>rfl) hx hn,fun b off m cap e=>by subst e;exact uC h rfl⟩
theorem iP.shape (h:iP w lv l):∃ao cap,lv=.slice ao l.length cap∧l.length≤cap∧cap≤maxLen:=by
 obtain⟨⟨ao,cap,rfl,q1,q2,_⟩,_⟩:=h;exact⟨ao,cap,rfl,q1,q2⟩
theorem iP.head {x:It}(h:iP w lv (x::l)):∃b off cap,lv=.slice (some ⟨b,off,none⟩) (l.length+1) cap∧l.length+1≤cap∧cap≤maxLen∧
 (w.cell? ⟨b,off,none⟩=some (.int .i64 x.id)∧w.cell? ⟨b,off+1,none⟩=some (.int .i64 x.wd)∧w.cell? ⟨b,off+2,none⟩=some (.int .i64 x.lim)∧w.cell? ⟨b,off+3,none⟩=some (.int .i64 x.pl))∧
 iP w (.slice (if cap=1 then some ⟨b,off,none⟩else some ⟨b,off+4,none⟩) l.length (cap-1)) l:=by
 obtain⟨⟨ao,cap,rfl,q1,q2,q3⟩,h2⟩:=h;obtain⟨b,off,rfl,hlt,hc⟩:=q3 (by simp);obtain⟨cur,hb⟩:=h2 b off _ _ rfl;rw[List.length_cons]at q1;refine⟨b,off,cap,by rw[List.length_cons],q1,q2,?_,⟨_,_,rfl,by omega,by omega,fun hp=>?_⟩,fun b2 ZM n2 cap2 e=>?_⟩
 ·have h3:=J4 hc (k:=0) rfl;simpa using h3
 ·have hc1:¬cap=1:=by omega
  refine⟨b,off+4,by rw[qai hc1],hlt,fun i s j u hi hj=>?_⟩;have:=hc (i+1) s j u (by simpa using hi) hj;rw[←this];congr 2;omega
 ·split at e<;>(injection e with e1;injection e1 with e1;injection e1 with e1;subst e1;exact⟨cur,hb⟩)
end
section
variable {B : Nat} {w w' : World} {z p g : Nat} {lv cv : Value} {L : List (Int × Int)} {aF now : Int} {f : Int → Int} {cs : List (Int × Int)} {a : Nat} {m : Int} {l : List It}
theorem l9.left (h:l9 B w z p g lv cv L aF now f cs a m)(zq:Value):l9 B (w.setCell ⟨z,1,none⟩ zq) z p g zq cv L aF now f cs a m∧Below B w (w.setCell ⟨z,1,none⟩ zq)∧jT w (w.setCell ⟨z,1,none⟩ zq):=by
 obtain⟨cap,Z⟩:=h.x.facts;obtain⟨cur,hgh,_⟩:=fQ Z.own;have hS:Off z z w (w.setCell ⟨z,1,none⟩ zq):=(Off.refl z z w).setCell (.inl rfl);refine⟨⟨h.bz,by rw[heap_put h.obj];rfl,h.x.off hS ⟨aT Z.obj h.obj (by decide),aT Z.obj h.obj (by decide)⟩ ⟨aT hgh h.obj (by decide),aT hgh h.obj (by decide)⟩,h.can,h.fr,h.qR,h.ll,h.v,h.bp,h.bg,?_⟩,(Below.refl B w).setCell h.bz _,⟨by simp,fun k SL hk=>?_⟩⟩
 ·refine sV h.ch (fun k hk=>?_) 1 zq;obtain⟨SL,hk3⟩:=uC h.ch hk;exact aT hk3 h.obj (by decide)
 ·rw[Below.heap_setCell w ⟨z,1,none⟩ zq k (aT hk h.obj (by decide))];exact hk
theorem Kb (h:l9 B w z p g lv cv L aF now f cs a m)(hl:iP w lv l):
 Calls prog 102 #[.pointer (some ⟨z,0,none⟩)] w fun e w'=>e=.returned (.int .i64 l.length)∧w=w':=by
 obtain⟨ao,cap,rfl,q1,q2⟩:=hl.shape;have c1:w.cell? ⟨z,1,none⟩=some (.slice ao l.length cap):=by simp[World.cell?,h.obj]
 clear h hl q1 q2;go_enter func102,ntmps102;go_wp2_with fail;go_ret;exact⟨rfl,rfl⟩
theorem Kc (h:l9 B w z p g lv cv L aF now f cs a m)(hl:cs.length≤1000):
 Calls prog 103 #[.pointer (some ⟨z,0,none⟩)] w (yf w cs):=by
 have hc:=MO (aC.fA (enc:=enc2) h.ch (fun _=>rfl) rfl rfl) hl;obtain⟨ao,cap,rfl,_⟩:=dE h.ch;have c2:w.cell? ⟨z,2,none⟩=some (.slice ao cs.length cap):=by simp[World.cell?,h.obj]
 clear h;go_enter func103,ntmps103;go_wp2_with fail;go_at_call 166;refine hc.mono ?_;clear hc;rintro e w1 ⟨v1,rfl,ho,hb⟩;clear c2;go_wp2_with fail;go_ret;exact⟨_,rfl,ho,hb⟩
def EZ (B:Nat)(w:World)(z p:Nat)(now:Int)(f:Int→Int)(cs:List (Int×Int))(a:Nat)(m:Int)(l:List It)(n:Int)(e:Ending)(w':World):Prop:=
 ∃K:Nat,(K:Int)=max 0 (min n l.length)∧e=.returned (.int .i64 K)∧∃(g':Nat) (zq cv':Value) (L':List (Int×Int)) (J8:Int) (f':Int→Int) (c:List (Int×Int)),
  l9 B w' z p g' zq cv' L' J8 now f' (cs++c) (a+4*K) (m+2*K)∧iP w' zq (l.drop K)∧dB now (l.take K) f f' c∧Below B w w'
theorem Ke (n:Int)(h:l9 B w z p g lv cv L aF now f cs a m)(hl:iP w lv l)(hok:∀x∈l,x.ok)(ha:a+4*l.length≤700)(hm:m+2*l.length≤900000)(hm0:0≤m)(hcs:cs.length+l.length≤1000):
 Calls prog 101 #[.pointer (some ⟨z,0,none⟩),.int .i64 n] w (EZ B w z p now f cs a m l n):=by
 obtain⟨K,hK⟩:∃K:Nat,(K:Int)=max 0 (min n l.length):=⟨(max 0 (min n l.length)).toNat,by omega⟩;have hKl:K≤l.length:=by omega
 have hlf:=Kb h hl;have Ym:=qae h;have hL0:=qae hl;have hK2:max 0 (min n (l.length:Int))=(K:Int):=hK.symm;replace hK:=qae hK;replace hok:=qae hok;have hkk:(K:Int)≤9223372036854775807:=by omega
 have hlen:l.length≤1000:=by omega
 clear h hl;go_enter func101,ntmps101;go_wp2_with (go_at_call 102;go_must (refine hlf.mono ?_);rintro e w' ⟨rfl,rfl⟩);clear hlf hK2;go_loopw [11] (fun ii wr=>∃(i:Nat) (g':Nat) (zq cv':Value) (L':List (Int×Int)) (J8:Int) (f':Int→Int) (c:List (Int×Int)),i≤K∧ii=.int .i64 i∧Hid (l9 B wr z p g' zq cv' L' J8 now f' (cs++c) (a+4*i) (m+2*i))∧Hid (iP wr zq (l.drop i))∧Hid (dB now (l.take i) f f' c)∧Hid (Below B w wr)) (fun ii _=>K-(intOf ii).toNat)
 case atStart=>exact⟨0,g,lv,cv,L,aF,f,[],Nat.zero_le _,rfl,by rw[List.append_nil];simpa using Ym,by simpa using hL0,⟨rfl,rfl⟩,Below.refl _ _⟩
 case round=>
  obtain⟨i,g1,Zm,Zn,L1,sN,f1,c1,hi,rfl,hP1,hL1,BM,hb1⟩:=hrel;by_cases hlt:i<K
  ·obtain⟨x,hx⟩:∃x,l[i]? =some x:=⟨_,List.getElem?_eq_getElem (by omega)⟩;have hd:l.drop i=x::l.drop (i+1):=by
    obtain⟨h1,rfl⟩:=List.getElem?_eq_some_iff.1 hx;exact List.drop_eq_getElem_cons h1
   have htk:=vR hx;have hL1':=hL1.out;rw[hd]at hL1';obtain⟨b,off,cap,rfl,q1,q2,⟨k0,k1,k2,k3⟩,hL2⟩:=hL1'.head;have hc1:wr.cell? ⟨z,1,none⟩=some (.slice (some ⟨b,off,none⟩) ((l.drop (i+1)).length+1) cap):=by simp[World.cell?,hP1.out.obj]
   obtain⟨r,hr⟩:=qaa (l.drop (i+1));have Cy:=SN x (hok.out x (List.mem_of_getElem? hx)) hP1.out (by omega) (by omega) (by
    have h1:=dB.len _ BM.out;rw[List.length_take]at h1;rw[List.length_append];omega)
   rw[←hr]at hc1 hL2;have hd':Hid (l.drop (i+1)=r):=hr.symm;obtain⟨rn,hrn⟩:=qaa (r.length);rw[←hrn]at hc1 hL2;have hrl:i+1+rn=l.length:=by rw[hrn,hr,List.length_drop];omega
   have q3:rn+1≤cap:=by rw[hrn,hr];exact q1
   clear hr q1 hL1' hd;replace hrn:=qae hrn;replace hL2:=qae hL2;replace htk:=qae htk;replace hx:=qae hx;go_wp2_with fail;go_at_call 165;refine Cy.mono ?_;clear Cy k0 k1 k2 k3 hc1;rintro e w2 ⟨rfl,g2,Yn,L2,Vl,f2,c2,hP2,hR2,hb2,hk2⟩;have hc1:w2.cell? ⟨z,1,none⟩=some (.slice (some ⟨b,off,none⟩) (rn+1) cap):=by
    have:=hP2.obj;have Yo:=hrn.out;have hd2:=hd'.out;rw[hd2,←Yo]at this;simp[World.cell?,this]
   have hz1:w2.frozen? ⟨z,1,none⟩=false:=by simp[World.frozen?,hP2.obj]
   have hL3:=hL2.out.kept hk2;obtain⟨Ww,hlv3⟩:=qaa (Value.slice (if cap=1 then some ⟨b,off,none⟩else some ⟨b,off+4,none⟩) rn (cap-1));rw[←hlv3]at hL3;obtain⟨hP3,hb3,hk3⟩:=hP2.left Ww;replace hL3:=qae (hL3.kept hk3);replace hP3:=qae hP3;have hb3:=qae ((hb1.out.trans hb2).trans hb3);have Cu:Hid (dB now (l.take (i+1)) f f2 (c1++c2)):=by rw[htk.out];exact BM.out.snoc _ hR2
   clear hP2 hL2 hk2 hk3 hb2 hR2 hP1 hL1 BM hb1;subst hlv3;go_wp2_with fail;go_roundw
   case rel=>
    refine⟨i+1,g2,.slice (if cap=1 then some ⟨b,off,none⟩else some ⟨b,off+4,none⟩) rn (cap-1),Yn,L2,Vl,f2,c1++c2,by omega,by go_num,?_,?_,Cu,hb3⟩
    ·have h1:=hP3.out;rw[List.append_assoc,show a+4*i+4=a+4*(i+1)by omega,show m+2*(i:Int)+2=m+2*((i+1:Nat):Int)by omega]at h1;exact h1
    ·rw[hd'.out];exact hL3
   case measure=>simp[intOf];omega
  ·obtain rfl:i=K:=by omega
   have hfin:Hid (EZ B w z p now f cs a m l n (.returned (.int .i64 i)) wr):=⟨i,hK.out,rfl,g1,Zm,Zn,L1,sN,f1,c1,hP1.out,hL1.out,BM.out,hb1.out⟩;clear hP1 hL1 BM hb1 Ym hL0;go_wp2_with fail;go_ret;exact hfin.out
end
def zt (w:World)(L:List (Int×Int))(aF now:Int)(f:Int→Int)(a:Nat)(m:Int)(l:List It)(depth:Int)(e:Ending)(w':World):Prop:=
 Below w.heap.size w w'∧(((depth<1∨64<depth)∧e=.returned (.tuple #[.pointer none,.int .i64 1]))∨
  ((1≤depth∧depth≤64)∧(∃x∈l.take depth.toNat,¬x.ok)∧e=.returned (.tuple #[.pointer none,.int .i64 5]))∨
  ((1≤depth∧depth≤64)∧(∀x∈l.take depth.toNat,x.ok)∧∃(z p' g':Nat) (lv:Value),e=.returned (.tuple #[.pointer (some ⟨z,0,none⟩),.int .i64 0])∧
    l9 w.heap.size w' z p' g' lv (.slice none 0 0) L aF now f [] a m∧iP w' lv (l.take depth.toNat)))
structure SY (w : World) (p g : Nat) (L : List (Int × Int)) (aF now : Int) (f : Int → Int) (a : Nat) (m : Int) : Prop where
 x:PW w p g L aF
 can:Can L now f
 fr:∀t,now≤t→0≤f t∧f t≤64
 qR:0≤now∧now≤1099511627776
 ll:L.length≤a
 v:0≤aF∧aF≤m
section
variable {w : World} {p g : Nat} {v : Value} {L : List (Int × Int)} {aF now : Int} {f : Int → Int} {a : Nat} {m : Int} {l : List It}
theorem Kg (depth:Int)(h:SY w p g L aF now f a m)(ha:a≤1000)(hv:aC eZ 4 w v l)(hl:l.length≤1000):
 Calls prog 100 #[.pointer (some ⟨p,0,none⟩),.int .i64 depth,v] w (zt w L aF now f a m l depth):=by
 have hcp:=Gf h.x h.can.sm.pos (Nat.le_trans h.ll ha);have hrec:=qae h;clear h;by_cases hd:depth<1∨64<depth
 ·obtain⟨ao,cap,rfl,_⟩:=hv;have hd':=qae hd;rcases hd with hd|hd
  ·go_enter func100,ntmps100;go_wp2_with (go_at_call 160;go_must (refine hcp.mono ?_);rintro e w1 ⟨p1,g1,rfl,h1,h2,h3,hb⟩);go_ret2;exact⟨hb,.inl ⟨hd'.out,rfl⟩⟩
  ·have hd2:¬depth<1:=by omega
   go_enter func100,ntmps100;go_wp2_with (go_at_call 160;go_must (refine hcp.mono ?_);rintro e w1 ⟨p1,g1,rfl,h1,h2,h3,hb⟩);go_ret2;exact⟨hb,.inl ⟨hd'.out,rfl⟩⟩
 ·obtain⟨K,rfl⟩:∃K:Nat,depth=(K:Int):=⟨depth.toNat,by omega⟩;have hd1:¬((K:Int)<1):=by omega
  have hd2:¬(64<(K:Int)):=by omega
  have hd0:Hid (1≤(K:Int)∧(K:Int)≤64):=by show _∧_;omega
  clear hd;obtain⟨ao,cap,rfl,q1,q2,q3⟩:=hv;obtain⟨n,hn⟩:=qaa (min K l.length);have hmin:min (K:Int) (l.length:Int)=(n:Int):=by omega
  have hv:aC eZ 4 w (.slice ao n cap) (l.take n):=aC.cut ⟨ao,cap,rfl,q1,q2,q3⟩ (by omega);have htk:Hid (l.take (K:Int).toNat=l.take n):=by
   show _=_;rw[Int.toNat_natCast];rcases Nat.le_total K l.length with h1|h1
   ·rw[hn,Nat.min_eq_left h1]
   ·rw[hn,Nat.min_eq_right h1,List.take_of_length_le h1,List.take_of_length_le (qaf _)]
  have hnl:n≤l.length:=by omega
  have hln:(l.take n).length≤1000:=by rw[List.length_take];omega
  have hcf:=fun(W:World) (hW:Below w.heap.size w W)=>AJ (hv.below hW) hln;have hcl:=fun(W:World) (hW:Below w.heap.size w W)=>MN (hv.below hW) hln;replace hcf:=qae hcf;replace hcl:=qae hcl;clear q3 hv;replace hn:=qae hn;have b0:(0:Int)≤n:=by omega
  have b1:n≤cap:=by omega
  go_enter func100,ntmps100;go_wp2_with (go_at_call 160;go_must (refine hcp.mono ?_);rintro e w1 ⟨p1,g1,rfl,h1,h2,h3,hb⟩);go_at_call 161;refine(hcf.out w1 hb).mono ?_;clear hcf hcp;rintro e w2 ⟨bb,rfl,hno,vK,hb2⟩;cases bb with
  |true=>
   have hfin:Hid (zt w L aF now f a m l K (.returned (.tuple #[.pointer none,.int .i64 5])) w2):=⟨hb.trans (hb2.mono hb.size),.inr (.inl ⟨hd0.out,by rw[htk.out];exact vK rfl,rfl⟩)⟩;clear hno vK h1 h2 h3 hb hb2;go_wp2_with fail;go_ret2;exact hfin.out
  |false=>
   have hall:=qae (hno rfl);clear hno vK;have uD:=hb.trans (hb2.mono hb.size);have hx2:=h1.kept hb2;have Vm:=hcl.out w2 uD;clear hcl h1 hb hb2;replace hx2:=qae hx2;go_wp2_with fail;go_at_call 164;refine Vm.mono ?_;clear Vm;rintro e w3 ⟨v3,rfl,ho3,hb3⟩;have hx3:=hx2.out.kept hb3;have hsz:=uD.size;have Ik:=hb3.size;have hlen:(l.take n).length=n:=by rw[List.length_take];omega
   rw[hlen]at ho3;obtain⟨Wx,S9,rfl,_⟩:=dE ho3;have hb4:=uD.trans (hb3.mono hsz);obtain⟨o,ho⟩:=qaa (Obj.cells #[.pointer (some ⟨p1,0,none⟩),.slice Wx n S9,.slice none 0 0] 212);have hal:Below w3.heap.size w3 (w3.alloc o):=qac.alloc (qaf _) _;have sM:(w3.alloc o).heap[w3.heap.size]? =some o:=heap_alloc_new w3 o;rw[show some o=some (Obj.cells #[.pointer (some ⟨p1,0,none⟩),.slice Wx n S9,.slice none 0 0] 212)from by rw[ho]]at sM;have hfin:Hid (zt w L aF now f a m l K (.returned (.tuple #[.pointer (some ⟨w3.heap.size,0,none⟩),.int .i64 0])) (w3.alloc o)):=
    ⟨hb4.alloc (by have:=hb4.size;omega) _,.inr (.inr ⟨hd0.out,by rw[htk.out];exact hall.out,w3.heap.size,p1,g1,_,rfl,
     ⟨by have:=hb4.size;omega,sM,hx3.kept hal,hrec.out.can,hrec.out.fr,hrec.out.qR,hrec.out.ll,hrec.out.v,h2,h3,World.ownsRow_nil _ w.heap.size 35 2⟩,
     by rw[htk.out];exact iP.fA (bF ho3 hal) rfl hlen.symm⟩)⟩
   rw[ho]at hfin;clear sM hal hb4 hx3 ho3 hb3 hx2 hall uD ho;go_wp2_with fail;go_ret2;exact hfin.out
def E5 (w:World)(now:Int)(f:Int→Int)(l:List It)(depth:Int)(e:Ending)(w':World):Prop:=
 Below w.heap.size w w'∧(((depth<1∨64<depth)∧e=.returned (.tuple #[.slice none 0 0,.int .i64 1]))∨
  ((1≤depth∧depth≤64)∧(∃x∈l.take depth.toNat,¬x.ok)∧e=.returned (.tuple #[.slice none 0 0,.int .i64 5]))∨
  ((1≤depth∧depth≤64)∧(∀x∈l.take depth.toNat,x.ok)∧∃(v':Value) (c:List (Int×Int)) (f':Int→Int),e=.returned (.tuple #[v',.int .i64 0])∧
    w'.ownsRow w.heap.size 35 2 v' c.length (aN c)∧dB now (l.take depth.toNat) f f' c))
theorem MP (depth:Int)(h:SY w p g L aF now f a m)(ha:a≤400)(hm:m≤800000)(hm0:0≤m)(hv:aC eZ 4 w v l)(hl:l.length≤1000):
 Calls prog 37 #[.pointer (some ⟨p,0,none⟩),.int .i64 depth,v] w (E5 w now f l depth):=by
 have hnew:=Kg depth h (by omega) hv hl;obtain⟨ao,cap,rfl,_⟩:=hv;clear h;go_enter func37,ntmps37;go_wp2_with fail;go_at_call 100;refine hnew.mono ?_;clear hnew;rintro e w1 ⟨hb,hr⟩;rcases hr with⟨h1,rfl⟩|⟨h1,h2,rfl⟩|⟨h1,h2,z,p1,g1,lv,rfl,hP,hL⟩
 ·have hfin:Hid (E5 w now f l depth (.returned (.tuple #[.slice none 0 0,.int .i64 1])) w1):=⟨hb,.inl ⟨h1,rfl⟩⟩;clear hb h1;go_wp2_with fail;go_ret2;exact hfin.out
 ·have hfin:Hid (E5 w now f l depth (.returned (.tuple #[.slice none 0 0,.int .i64 5])) w1):=⟨hb,.inr (.inl ⟨h1,h2,rfl⟩)⟩;clear hb h1 h2;go_wp2_with fail;go_ret2;exact hfin.out
 ·obtain⟨r,hr⟩:=qaa (l.take depth.toNat);have hrl:r.length≤64:=by rw[hr,List.length_take];omega
  rw[←hr]at hL h2;have hlf:=Kb hP hL;have hnx:=Ke (r.length:Int) hP hL h2 (by omega) (by omega) hm0 (by simp;omega);replace h1:=qae h1;replace h2:=qae h2;replace hr:=qae hr;have hsz:=hb.size;clear hP hL;go_wp2_with (go_at_call 102;go_must (refine hlf.mono ?_);rintro e w' ⟨rfl,rfl⟩);go_at_call 101;refine hnx.mono ?_;clear hnx hlf;rintro e w2 ⟨K,hK,rfl,g2,lv2,Yn,L2,Vl,f2,c2,hP2,hL2,hR2,hb2⟩;have hKr:K=r.length:=by omega
  subst hKr;rw[List.take_length]at hR2;rw[xD]at hP2;have hcl:=dB.len _ hR2;have hch:=Kc hP2 (by omega);have uD:=hb.trans hb2;replace hR2:=qae hR2;have hsz2:=hb2.size;clear hP2 hL2 hK hb hb2;go_wp2_with fail;go_at_call 103;refine hch.mono ?_;clear hch;rintro e w3 ⟨v3,rfl,ho3,hb3⟩;have hfin:Hid (E5 w now f l depth (.returned (.tuple #[v3,.int .i64 0])) w3):=⟨uD.trans (hb3.mono (by omega)),.inr (.inr ⟨h1.out,by rw[←hr.out];exact h2.out,v3,c2,f2,rfl,kC ho3 (by omega),by rw[←hr.out];exact hR2.out⟩)⟩;obtain⟨Wx,S9,rfl,_⟩:=dE ho3;clear ho3 hb3 uD;go_wp2_with fail;go_ret2;exact hfin.out
end
section
variable {M : Md}
def CZ (M:Md)(r:Rw):Rl×Md:=if 1≤r.kind∧r.kind≤13 then fH M r else(fJ 4,M)
theorem Kh {r:Rw}(h:1≤r.kind∧r.kind≤13):CZ M r=fH M r:=by unfold CZ;rw[qaj h]
theorem zu {r:Rw}(h:¬(1≤r.kind∧r.kind≤13)):CZ M r=(fJ 4,M):=by unfold CZ;rw[qai h]
theorem PZ (M:Md)(r:Rw):(CZ M r).2=(fH M r).2:=by
 by_cases h:1≤r.kind∧r.kind≤13
 ·rw[Kh h]
 ·rw[zu h];unfold fH;rw[qai (show¬r.kind=1 by omega),qai (show¬(r.kind=2∨r.kind=5)by omega),qai (show¬(r.kind=3∨r.kind=4∨r.kind=6)by omega),qai (show¬(r.kind=7∨r.kind=8)by omega),qai (show¬r.kind=9 by omega),qai (show¬r.kind=10 by omega),qai (show¬r.kind=11 by omega),qai (show¬r.kind=12 by omega),qai (show¬r.kind=13 by omega)];split<;>rfl
end
def kV (w:World)(s c:Nat):Prop:=w.heap[s]? =some (.cells #[.pointer (some ⟨c,0,none⟩)] 70 (0,0))
theorem kV.lt {w:World}{s c:Nat}(h:kV w s c):s<w.heap.size:=au h
theorem kV.c0 {w:World}{s c:Nat}(h:kV w s c):w.cell? ⟨s,0,none⟩=some (.pointer (some ⟨c,0,none⟩)):=by simp[World.cell?,show w.heap[s]? =_ from h]
theorem kV.kept {w w':World}{s c:Nat}(h:kV w s c)(hb:Below w.heap.size w w'):kV w' s c:=(hb.block s h.lt).trans h
theorem kV.far {w w':World}{s c:Nat}(h:kV w s c)(hf:Yf w w'):kV w' s c:=hf s _ _ _ (by decide) (by decide) h
structure SO (B : Nat) (w : World) (s c t d p : Nat) (v : Value) (g : Nat) (m : Int) (M : Md) : Prop where
 at':kV w s c
 Ta:B≤s
 cw:CW w c t d p v g (1+2*M.L.length) m (ai M)
 lo:∀k,dY c t d p v g k→B≤k
section
variable {w w' w1 : World} {B s c t d p g g' : Nat} {v v' : Value} {m m' : Int} {M M' : Md}
theorem SO.apart (h:SO B w s c t d p v g m M):¬dY c t d p v g s:=h.cw.other h.at' (by decide)
theorem SO.kept (h:SO B w s c t d p v g m M)(hb:Below w.heap.size w w'):SO B w' s c t d p v g m M:=⟨h.at'.kept hb,h.Ta,h.cw.kept hb,h.lo⟩
theorem SO.wider (h:SO B w s c t d p v g m M)(hm:m≤m'):SO B w s c t d p v g m' M:=⟨h.at',h.Ta,h.cw.wider (qaf _) hm,h.lo⟩
theorem SO.turn (h:SO B w s c t d p v g m M)(hs:CS w w' c t d p v g v' g')(hC:CW w' c t d p v' g' (1+2*M'.L.length) m' (ai M'))(hB:B≤w.heap.size):SO B w' s c t d p v' g' m' M':=
 ⟨(hs.heap h.at'.lt h.apart).trans h.at',h.Ta,hC,hs.lo h.lo hB⟩
theorem SO.below (h:SO B w s c t d p v g m M)(hs:CS w w' c t d p v g v' g')(hB:B≤w.heap.size):Below B w w':=hs.below h.lo hB
theorem CS.Tc {b:Nat}(hb:Below w.heap.size w w1)(hlo:w.heap.size≤b)(hs:WS w1 w' b c t d p v g v' g'):CS w w' c t d p v g v' g':=by
 refine⟨⟨hs.off.os.trans hb.os,hs.off.tape.trans hb.tape,hs.off.output.trans hb.output,Nat.le_trans hb.size hs.off.size,fun k hk hf=>?_⟩,fun k hk=>?_⟩
 ·refine(hs.heap (Nat.lt_of_lt_of_le hk hb.size) ?_).trans (hb.block k hk);rintro(rfl|h2)
  ·omega
  ·exact hf h2
 ·rcases hs.grew k (.inr hk)with(rfl|h2)|h2
  ·exact .inr hlo
  ·exact .inl h2
  ·exact .inr (Nat.le_trans hb.size h2)
end
section
variable {w : World} {B s c t d p g : Nat} {v : Value} {m : Int} {M : Md}
theorem vw (h:SO B w s c t d p v g m M):Calls prog 88 #[.pointer (some ⟨s,0,none⟩)] w fun e w'=>e=.returned (.bool false)∧w=w':=by
 have c0:=h.at'.c0;have hn:=kE h.cw;go_enter func88,ntmps88;go_wp2_with fail;go_at_call 71;refine hn.mono ?_;clear hn;rintro e w' ⟨rfl,rfl⟩;go_wp2_with fail;go_ret;exact⟨rfl,rfl⟩
theorem Td (c:Nat)(w:World):Calls prog 87 #[.pointer (some ⟨c,0,none⟩)] w fun e w'=>e=.returned (.pointer (some ⟨w.heap.size,0,none⟩))∧kV w' w.heap.size c∧Below w.heap.size w w':=by
 go_enter func87,ntmps87;go_wp2_with fail;go_ret;exact⟨rfl,heap_alloc_new w _,qac.alloc (qaf _) _⟩
theorem P5 (n:Int)(w:World)(h:n<1∨64<n):Calls prog 29 #[.int .i64 n] w fun e w'=>e=.returned (.tuple #[.pointer none,.int .i64 1])∧w=w':=by
 have hn:=PN n w h;go_enter func29,ntmps29;go_wp2_with (go_at_call 15;go_must (refine hn.mono ?_);rintro e w' ⟨rfl,rfl⟩);go_ret2;exact⟨rfl,rfl⟩
theorem Ki (n:Nat)(w:World)(h1:1≤n)(h2:n≤64):Calls prog 29 #[.int .i64 n] w fun e w'=>∃s c t d p v g,e=.returned (.tuple #[.pointer (some ⟨s,0,none⟩),.int .i64 0])∧SO w.heap.size w' s c t d p v g 0 (eQ n)∧Below w.heap.size w w':=by
 have hn:=Sv n w h1 h2;go_enter func29,ntmps29;go_wp2_with fail;go_at_call 15;refine hn.mono ?_;clear hn;rintro e w1 ⟨c,t,d,p,v,g,rfl,⟨yY,hlo1⟩,hb1⟩;have ho:=Td c w1;go_wp2_with fail;go_at_call 87;refine ho.mono ?_;clear ho;rintro e w2 ⟨rfl,hS2,hb2⟩;go_wp2_with fail;go_ret2;exact⟨w1.heap.size,c,t,d,p,v,g,rfl,⟨hS2,hb1.size,yY.kept hb2,hlo1⟩,hb1.trans (hb2.mono hb1.size)⟩
end
section
variable {w w0 : World} {B s b c t d p g N : Nat} {v : Value} {m : Int} {M : Md} {Q : Nat → Int → Wk → Pg → Prop}
theorem Kj {a:Nat}{R:Wk}{P:Pg}(hs:kV w s c)(h:SW w b c t d p v g a m R P)(hr:Run N a m R P Q):Calls prog 89 #[.pointer (some ⟨s,0,none⟩),.pointer (some ⟨b,0,none⟩)] w fun e w'=>e=.returned (.pointer (some ⟨b,0,none⟩))∧
 ∃v' g' a' m' R' P',SW w' b c t d p v' g' a' m' R' P'∧Q a' m' R' P'∧WS w w' b c t d p v g v' g':=by
 go_enter func89,ntmps89;go_wp2_with fail;go_loopg [] N (fun k wr=>Hid (kV wr s c)∧Hid (∃v1 g1 a1 m1 R1 P1,SW wr b c t d p v1 g1 a1 m1 R1 P1∧Run k a1 m1 R1 P1 Q∧WS w wr b c t d p v g v1 g1))
 case atStart=>exact⟨qae hs,v,g,a,m,R,P,h,hr,WS.refl w⟩
 case round=>
  clear h hr hs;obtain⟨h1,h2⟩:=hrel;obtain⟨v1,g1,a1,m1,R1,P1,hS,hr,hw⟩:=h2.out;clear h2;cases gk with
  |zero=>exact hr.elim
  |succ K=>
   have c0:=h1.out.c0;have hx:Hid (∀w' v2 g2,WS wr w' b c t d p v1 g1 v2 g2→kV w' s c):=fun w' v2 g2 h=>h1.out.far (hS.far h);obtain⟨_,a2,m2,R2,P2,⟨rfl,ho,hq⟩|⟨ho,hq⟩⟩:=hr
   ·have hc:=ho wr b c t d p v1 g1 hS;replace hq:=qae hq;replace hw:=qae hw;clear ho hS;go_wp2_with fail;go_at_call 143;refine hc.mono ?_;clear hc;rintro e w' ⟨rfl,v2,g2,hS2,hw2⟩;replace hS2:=qae hS2;replace hw2:=qae hw2;go_wp2_with fail;go_ret;exact⟨rfl,v2,g2,a2,m2,R2,P2,hS2.out,hq.out,hw.out.trans hw2.out⟩
   ·have hc:=ho wr b c t d p v1 g1 hS;replace hq:=qae hq;replace hw:=qae hw;clear ho hS;go_wp2_with fail;go_at_call 143;refine hc.mono ?_;clear hc;rintro e w' ⟨rfl,v2,g2,hS2,hw2⟩;have h3:=qae (hx.out w' v2 g2 hw2);replace hS2:=qae hS2;replace hw2:=qae hw2;go_wp2_with fail;go_roundg K
    case measure=>omega
    case rel=>exact⟨h3,v2,g2,a2,m2,R2,P2,hS2.out,hq.out,hw.out.trans hw2.out⟩
def C9 (w:World)(b c t d p:Nat)(v:Value)(g:Nat)(m:Int)(M':Md)(y:Ry)(ok:Bool)(e:Ending)(w':World):Prop:=
 ∃(v':Value) (g':Nat) (R:Wk),e=.returned (.pointer (some ⟨b,0,none⟩))∧CW w' c t d p v' g' (1+2*M'.L.length) (m+1000) (ai M')∧cu w' b R∧R.rep=y∧R.ok=ok∧WS w w' b c t d p v g v' g'
theorem yh {a:Nat}{R:Wk}{P:Pg}{M':Md}{y:Ry}{ok:Bool}(hs:kV w s c)(hS:SW w b c t d p v g a m R P)(h:fE 1000 a m R P (Fin (m+1000) M' y ok))(hI:aG M'):
 Calls prog 89 #[.pointer (some ⟨s,0,none⟩),.pointer (some ⟨b,0,none⟩)] w (C9 w b c t d p v g m M' y ok):=by
 obtain⟨K,_,hr⟩:=h;refine(Kj hs hS hr).mono ?_;rintro e w' ⟨rfl,v',g',a,m',R,P,hS,⟨rfl,ha,hm,hl,hr,ho⟩,hw⟩;exact⟨v',g',R,rfl,(hS.cw.Sw hI).wider (qaf _) hm,hS.wk,hr,ho,hw⟩
theorem DX (hs:kV w s c)(h:CW w c t d p v g (1+2*M.L.length) m (ai M))(r:Rq)(hb:cu w b (vO r))(hM:Ok M)(h1:1≤M.dr.length)(hll:M.L.length≤190)(hm:m+1000≤1000000)(hnd: -9223372036854775808≤r.node∧r.node≤9223372036854775807):
 Calls prog 89 #[.pointer (some ⟨s,0,none⟩),.pointer (some ⟨b,0,none⟩)] w (C9 w b c t d p v g m (fH M (toW r)).2 (lV (fH M (toW r)).1) false):=
 yh hs ⟨hb,h⟩ (SH r hM h1 hll hm hnd) (hM.H6 _).inv
theorem AO (hs:kV w s c)(h:CW w c t d p v g (1+2*M.L.length) m (ai M))(i x:Int)(hb:cu w b (Af i x))(hM:Ok M)(h1:1≤M.dr.length)(hll:M.L.length≤190)(hm:m+1000≤1000000)(hx: -9223372036854775808≤x∧x≤9223372036854775807):
 Calls prog 89 #[.pointer (some ⟨s,0,none⟩),.pointer (some ⟨b,0,none⟩)] w (C9 w b c t d p v g m (aL M i x).2 (lX M) (aL M i x).1):=
 yh hs ⟨hb,h⟩ (GL i x hM h1 hll hm hx) (hM.jq i x).inv
theorem NG {w:World}{G:Nat}{z:Ry}(hb:w.heap[G]? =some (.cells (bW z).toArray 67 (0,0)))(y:Ry):
 Sem.run prog (storeCells ⟨G,0,none⟩ (bW y) 0) w=.ok () (w.setRow G (bW y).toArray)∧(w.setRow G (bW y).toArray).heap[G]? =some (.cells (bW y).toArray 67 (0,0)):=by
 have hst:=run_storeCells_at prog G 0 67 (bW y) 0 (bW z).toArray w hb (by simp[jF]) (za y);simp only[Nat.add_zero]at hst;have e:(((bW z).toArray.toList.take 0++bW y++(bW z).toArray.toList.drop (0+(bW y).length)).toArray)=(bW y).toArray:=by simp[jF]
 rw[e]at hst;exact⟨hst,setRow_heap w G _ _ _ _ hb⟩
theorem CS.row {w w':World}{c t d p g g' G:Nat}{v v':Value}(h:CS w w' c t d p v g v' g')(hG:w.heap.size≤G)(cs:Array Value):CS w (w'.setRow G cs) c t d p v g v' g':=
 ⟨⟨h.off.os,h.off.tape,h.off.output,by simp;exact h.off.size,fun k hk hf=>(setRow_other w' G k cs (by omega)).trans (h.off.block k hk hf)⟩,h.grew⟩
theorem CS.later {w w1 w':World}{c t d p g g':Nat}{v v':Value}(h:CS w w1 c t d p v g v' g')(hb:Below w1.heap.size w1 w'):CS w w' c t d p v g v' g':=h.trans (CS.of_below hb)
def NH (B:Nat)(w:World)(s c t d p:Nat)(v:Value)(g:Nat)(m:Int)(M':Md)(r:Value)(e:Ending)(w':World):Prop:=
 ∃(v':Value) (g':Nat),e=.returned r∧SO B w' s c t d p v' g' (m+1000) M'∧CS w w' c t d p v g v' g'∧Below B w w'
theorem NI (h:SO B w s c t d p v g m M)(hB:B≤w.heap.size)(r:Rq)(hM:Ok M)(h1:1≤M.dr.length)(hll:M.L.length≤190)(hm:m+1000≤1000000)(hnd: -9223372036854775808≤r.node∧r.node≤9223372036854775807):
 Calls prog 34 #[.pointer (some ⟨s,0,none⟩),.agg (encR r).toArray] w (NH B w s c t d p v g m (fH M (toW r)).2 (.agg (bW (lV (CZ M (toW r)).1)).toArray)):=by
 by_cases hk:1≤r.kind∧r.kind≤13
 ·rw[Kh (show 1≤(toW r).kind∧(toW r).kind≤13 from hk)];have key:∀w2 b,cu w2 b (vO r)→Below w.heap.size w w2→Calls prog 89 #[.pointer (some ⟨s,0,none⟩),.pointer (some ⟨b,0,none⟩)] w2 (C9 w2 b c t d p v g m (fH M (toW r)).2 (lV (fH M (toW r)).1) false):=
   fun w2 b hW hb2=>DX (h.at'.kept hb2) (h.cw.kept hb2) r hW hM h1 hll hm hnd
  have hf0:∀k,dY c t d p v g k→k<w.heap.size:=fun k=>h.cw.lt;generalize lV (fH M (toW r)).1=y at*;generalize (fH M (toW r)).2=M2 at*;obtain⟨y1,y2,y3,y4,y5,y6,y7,y8,y9⟩:=r;obtain⟨wA,aK⟩:=qaa ((w.alloc (.cells #[.int .i64 y1,.int .i64 y2,.int .i64 y3,.int .i64 y4,.int .i64 y5,.int .i64 y6,.bool y7,.int .i64 y8,.int .i64 y9] 33)).alloc (.cells #[.int .i64 0,.int .i64 0,.int .i64 0,.int .i64 0,.int .i64 0,.int .i64 0,.int .i64 0,.int .i64 0,.int .i64 0] 67));have bS:Below w.heap.size w wA:=by rw[aK];exact(qac.alloc (qaf _) _).alloc (by simp) _
  have hsA:wA.heap.size=w.heap.size+2:=by rw[aK];simp
  have jr:wA.heap[w.heap.size+1]? =some (.cells (bW nW).toArray 67 (0,0)):=by rw[aK];exact heap_alloc2_new w _ _
  have uE:wA.heap[w.heap.size]? =some (.cells #[.int .i64 y1,.int .i64 y2,.int .i64 y3,.int .i64 y4,.int .i64 y5,.int .i64 y6,.bool y7,.int .i64 y8,.int .i64 y9] 33 (0,0)):=by rw[aK];exact dL (heap_alloc_new w _)
  have hl:=vw (h.kept bS);have hi:=Cz y1 wA;dsimp only at hk;rw[qag hk.1,qag hk.2]at hi;have hq:=JO ⟨y1,y2,y3,y4,y5,y6,y7,y8,y9⟩ wA;rw[show(encR ⟨y1,y2,y3,y4,y5,y6,y7,y8,y9⟩).toArray= #[.int .i64 y1,.int .i64 y2,.int .i64 y3,.int .i64 y4,.int .i64 y5,.int .i64 y6,.bool y7,.int .i64 y8,.int .i64 y9]from rfl]at hq⊢;have r0:wA.cell? ⟨w.heap.size,0,none⟩=some (.int .i64 y1):=by simp[World.cell?,uE]
  have r1:wA.cell? ⟨w.heap.size,1,none⟩=some (.int .i64 y2):=by simp[World.cell?,uE]
  have r2:wA.cell? ⟨w.heap.size,2,none⟩=some (.int .i64 y3):=by simp[World.cell?,uE]
  have r3:wA.cell? ⟨w.heap.size,3,none⟩=some (.int .i64 y4):=by simp[World.cell?,uE]
  have r4:wA.cell? ⟨w.heap.size,4,none⟩=some (.int .i64 y5):=by simp[World.cell?,uE]
  have r5:wA.cell? ⟨w.heap.size,5,none⟩=some (.int .i64 y6):=by simp[World.cell?,uE]
  have r6:wA.cell? ⟨w.heap.size,6,none⟩=some (.bool y7):=by simp[World.cell?,uE]
  have r7:wA.cell? ⟨w.heap.size,7,none⟩=some (.int .i64 y8):=by simp[World.cell?,uE]
  have r8:wA.cell? ⟨w.heap.size,8,none⟩=some (.int .i64 y9):=by simp[World.cell?,uE]
  clear uE;have zY:=wN;obtain⟨k9,bV⟩:∃k,k=9:=⟨_,rfl⟩;rw[←bV]at zY;have lY:=jF y;rw[←bV]at lY;have hk0:¬k9=0:=by omega
  replace bV:=qae bV;replace key:=qae key;replace hf0:=qae hf0;replace jr:=qae jr;go_enter func34,ntmps34;go_wp2_with fail;rw[←aK];replace aK:=qae aK;go_at_call 88;refine hl.mono ?_;clear hl;rintro e w' ⟨rfl,rfl⟩;go_wp2_with fail;go_at_call 99;refine hi.mono ?_;clear hi;rintro e w' ⟨rfl,rfl⟩;go_wp2_with fail;go_at_call 64;refine hq.mono ?_;clear hq;rintro e w2 ⟨b,rfl,hW2,hlb,hb2⟩;have Kk:Below w.heap.size w w2:=bS.trans (hb2.mono bS.size);have hp:=key.out w2 b hW2 Kk;go_wp2_with fail;go_at_call 89;refine hp.mono ?_;clear hp;rintro e w3 ⟨v',g',R,rfl,yj,hW3,hr,_,hs3⟩;have MQ:=PV hW3;rw[hr]at MQ;go_wp2_with fail;go_at_call 67;refine MQ.mono ?_;clear MQ;rintro e w4 ⟨rfl,hb4⟩;have hcs:CS w w4 c t d p v g v' g':=(CS.Tc Kk (by omega) hs3).later hb4;have hG:¬Cv b c t d p v g (w.heap.size+1):=by
   rintro(e|hf)
   ·omega
   ·have:=hf0.out _ hf;omega
  have hlt2:w.heap.size+1<w2.heap.size:=by have:=hb2.size;omega
  have hR2:=(hb2.block (w.heap.size+1) (by omega)).trans jr.out;have Cu:=(hs3.heap hlt2 hG).trans hR2;have qF:=(hb4.block (w.heap.size+1) (Nat.lt_of_lt_of_le hlt2 hs3.off.size)).trans Cu;obtain⟨st,yO⟩:=NG qF y;have nX:=yj.kept hb4;have hnf:¬dY c t d p v' g' (w.heap.size+1):=fun hf=>(hs3.grew _ (.inr hf)).elim hG (fun h2=>by omega);have gK:=nX.Jc (cO w4 (bW y).toArray) hnf;have ym:=hcs.row (G:=w.heap.size+1) (Nat.le_succ _) (bW y).toArray;have hfin:Hid (SO B (w4.setRow (w.heap.size+1) (bW y).toArray) s c t d p v' g' (m+1000) M2∧CS w (w4.setRow (w.heap.size+1) (bW y).toArray) c t d p v g v' g'∧Below B w (w4.setRow (w.heap.size+1) (bW y).toArray)):=
   ⟨h.turn ym gK hB,ym,h.below ym hB⟩
  have hsz:(bW y).toArray.size=9:=rfl;clear hs3 hb4 hb2 yj nX gK hcs ym hW3 hW2 hR2 Cu qF h;go_wp2_with fail;exact eH rfl rfl rfl yO underlying67 rfl (by rw[hsz];kernel_rfl) ⟨v',g',rfl,hfin.out⟩
 ·rw[zu (show¬(1≤(toW r).kind∧(toW r).kind≤13)from hk),←PZ,zu (show¬(1≤(toW r).kind∧(toW r).kind≤13)from hk)];obtain⟨y1,y2,y3,y4,y5,y6,y7,y8,y9⟩:=r;dsimp only at hk;obtain⟨wA,aK⟩:=qaa ((w.alloc (.cells #[.int .i64 y1,.int .i64 y2,.int .i64 y3,.int .i64 y4,.int .i64 y5,.int .i64 y6,.bool y7,.int .i64 y8,.int .i64 y9] 33)).alloc (.cells #[.int .i64 0,.int .i64 0,.int .i64 0,.int .i64 0,.int .i64 0,.int .i64 0,.int .i64 0,.int .i64 0,.int .i64 0] 67));have bS:Below w.heap.size w wA:=by rw[aK];exact(qac.alloc (qaf _) _).alloc (by simp) _
  have hsA:wA.heap.size=w.heap.size+2:=by rw[aK];simp
  have jr:wA.heap[w.heap.size+1]? =some (.cells (bW nW).toArray 67 (0,0)):=by rw[aK];exact heap_alloc2_new w _ _
  have uE:wA.heap[w.heap.size]? =some (.cells #[.int .i64 y1,.int .i64 y2,.int .i64 y3,.int .i64 y4,.int .i64 y5,.int .i64 y6,.bool y7,.int .i64 y8,.int .i64 y9] 33 (0,0)):=by rw[aK];exact dL (heap_alloc_new w _)
  have r0:wA.cell? ⟨w.heap.size,0,none⟩=some (.int .i64 y1):=by simp[World.cell?,uE]
  have hl:=vw (h.kept bS);have hi:=Cz y1 wA;have hii:(decide (1≤y1)&&decide (y1≤13))=false:=by
   by_cases c1:1≤y1
   ·rw[qah (show¬y1≤13 by omega),Bool.and_false]
   ·rw[qah c1,Bool.false_and]
  rw[hii]at hi;have hq:=I9 4 wA;generalize hy:(⟨4,0,0,0,0,0,0,0,0⟩:Ry)=y at*;rw[show lV (fJ 4,M).1=y from hy];rw[show(encR ⟨y1,y2,y3,y4,y5,y6,y7,y8,y9⟩).toArray= #[.int .i64 y1,.int .i64 y2,.int .i64 y3,.int .i64 y4,.int .i64 y5,.int .i64 y6,.bool y7,.int .i64 y8,.int .i64 y9]from rfl];clear hy hii uE;have zY:=wN;obtain⟨k9,bV⟩:∃k,k=9:=⟨_,rfl⟩;rw[←bV]at zY;have lY:=jF y;rw[←bV]at lY;have hk0:¬k9=0:=by omega
  replace bV:=qae bV;replace jr:=qae jr;go_enter func34,ntmps34;go_wp2_with fail;rw[←aK];replace aK:=qae aK;go_at_call 88;refine hl.mono ?_;clear hl;rintro e w' ⟨rfl,rfl⟩;go_wp2_with fail;go_at_call 99;refine hi.mono ?_;clear hi;rintro e w' ⟨rfl,rfl⟩;go_wp2_with fail;go_at_call 98;refine hq.mono ?_;clear hq;rintro e w4 ⟨rfl,hb4⟩;have Vn:Below w.heap.size w w4:=bS.trans (hb4.mono bS.size);have qF:=(hb4.block (w.heap.size+1) (by omega)).trans jr.out;obtain⟨st,yO⟩:=NG qF y;have ym:=(CS.of_below (c:=c) (t:=t) (d:=d) (p:=p) (v:=v) (g:=g) Vn).row (G:=w.heap.size+1) (Nat.le_succ _) (bW y).toArray;have hnf:¬dY c t d p v g (w.heap.size+1):=fun hf=>by have:=h.cw.lt hf;omega
  have gK:=(h.cw.kept Vn).Jc (cO w4 (bW y).toArray) hnf;have hfin:Hid (SO B (w4.setRow (w.heap.size+1) (bW y).toArray) s c t d p v g (m+1000) M∧CS w (w4.setRow (w.heap.size+1) (bW y).toArray) c t d p v g v g∧Below B w (w4.setRow (w.heap.size+1) (bW y).toArray)):=
   ⟨(h.turn ym gK hB).wider (by omega),ym,h.below ym hB⟩
  have hsz:(bW y).toArray.size=9:=rfl;clear hb4 gK ym qF h;go_wp2_with fail;exact eH rfl rfl rfl yO underlying67 rfl (by rw[hsz];kernel_rfl) ⟨v,g,rfl,hfin.out⟩
theorem Ak (h:SO B w s c t d p v g m M)(hB:B≤w.heap.size)(i x:Int)(hM:Ok M)(h1:1≤M.dr.length)(hll:M.L.length≤190)(hm:m+1000≤1000000)(hx: -9223372036854775808≤x∧x≤9223372036854775807):
 Calls prog 31 #[.pointer (some ⟨s,0,none⟩),.agg #[.int .i64 i,.int .i64 x]] w (NH B w s c t d p v g m (aL M i x).2 (.bool (aL M i x).1)):=by
 obtain⟨wA,aK⟩:=qaa (w.alloc (.cells #[.int .i64 i,.int .i64 x] 35));have bS:Below w.heap.size w wA:=by rw[aK];exact qac.alloc (qaf _) _
 have uE:wA.heap[w.heap.size]? =some (.cells #[.int .i64 i,.int .i64 x] 35 (0,0)):=by rw[aK];exact heap_alloc_new w _
 have r0:wA.cell? ⟨w.heap.size,0,none⟩=some (.int .i64 i):=by simp[World.cell?,uE]
 have r1:wA.cell? ⟨w.heap.size,1,none⟩=some (.int .i64 x):=by simp[World.cell?,uE]
 clear uE;have hl:=vw (h.kept bS);have hq:=DU i x wA;have key:∀w2 b,cu w2 b (Af i x)→Below w.heap.size w w2→Calls prog 89 #[.pointer (some ⟨s,0,none⟩),.pointer (some ⟨b,0,none⟩)] w2 (C9 w2 b c t d p v g m (aL M i x).2 (lX M) (aL M i x).1):=
  fun w2 b hW hb2=>AO (h.at'.kept hb2) (h.cw.kept hb2) i x hW hM h1 hll hm hx
 replace key:=qae key;go_enter func31,ntmps31;go_wp2_with fail;rw[←aK];replace aK:=qae aK;go_at_call 88;refine hl.mono ?_;clear hl;rintro e w' ⟨rfl,rfl⟩;go_wp2_with fail;go_at_call 66;refine hq.mono ?_;clear hq;rintro e w2 ⟨b,rfl,hW2,hlb,hb2⟩;have Kk:Below w.heap.size w w2:=bS.trans (hb2.mono bS.size);have hp:=key.out w2 b hW2 Kk;go_wp2_with fail;go_at_call 89;refine hp.mono ?_;clear hp;rintro e w3 ⟨v',g',R,rfl,yj,hW3,_,hr,hs3⟩;have MQ:=Wp hW3;rw[hr]at MQ;go_wp2_with fail;go_at_call 68;refine MQ.mono ?_;clear MQ;rintro e w' ⟨rfl,rfl⟩;have hcs:CS w w3 c t d p v g v' g':=CS.Tc Kk (by have:=bS.size;omega) hs3;have hfin:=qae (And.intro (h.turn hcs yj hB) (And.intro hcs (h.below hcs hB)));clear hs3 hb2 yj hcs hW3 hW2 h key;generalize (aL M i x).1=ok at*;go_wp2_with fail;go_ret;exact⟨v',g',rfl,hfin.out⟩
end
def zw (x:De):Prop:=VF x.r∧(-9223372036854775808≤x.xi∧x.xi≤9223372036854775807)∧(-9223372036854775808≤x.xt∧x.xt≤9223372036854775807)
section
end
section
variable {w : World} {u : Value} {l : List De}
theorem P6 (h:aC si 12 w u l)(n:Int)(hn:n<1∨64<n):Calls prog 35 #[.int .i64 n,u] w fun e w'=>e=.returned (.pointer none)∧w=w':=by
 have hf:=ND h;have hb:=P5 n w hn;go_enter func35,ntmps35;go_wp2_with fail;go_at_call 14;refine hf.mono ?_;rintro e w' ⟨v',rfl,_,rfl⟩;go_wp2_with fail;go_at_call 29;refine hb.mono ?_;rintro e w' ⟨rfl,rfl⟩;go_wp2_with fail;go_ret;exact⟨rfl,rfl⟩
theorem Te (h:aC si 12 w u l)(hfit:∀x∈l,zw x)(n:Nat)(h1:1≤n)(h2:n≤64):Calls prog 35 #[.int .i64 n,u] w fun e w'=>∃s c t d p v g,e=.returned (.pointer (some ⟨s,0,none⟩))∧
 SO w.heap.size w' s c t d p v g 60000 (mQ (eQ n) (l.take 60))∧Below w.heap.size w w':=by
 have hf:=ND h;have hb:=Ki n w h1 h2;have Wy:∀x∈l.take 60,zw x:=fun x hx=>hfit x (List.mem_of_mem_take hx);have hlen:(l.take 60).length≤60:=by rw[List.length_take];omega
 generalize l.take 60=ds at*;clear h hfit;go_enter func35,ntmps35;go_wp2_with fail;go_at_call 14;refine hf.mono ?_;clear hf;rintro e w' ⟨u',rfl,hr,rfl⟩;go_wp2_with fail;go_at_call 29;refine hb.mono ?_;clear hb;rintro e w1 ⟨s,c,t,d,p,v1,g1,rfl,hS1,hb1⟩;replace hr:=qae hr;obtain⟨ao,cap,rfl,q1,q2,q3⟩:=hr.out;clear q1 q3;go_wp2_with fail;go_loopw [7] (fun ii wr=>∃(i:Nat) (v:Value) (g:Nat),i≤ds.length∧ii=.int .i64 i∧Hid (SO w.heap.size wr s c t d p v g (1000*i) (mQ (eQ n) (ds.take i)))∧Hid (Below w.heap.size w wr)) (fun ii _=>ds.length-(intOf ii).toNat)
 case atStart=>
  exact⟨0,v1,g1,Nat.zero_le _,rfl,qae hS1,qae hb1⟩
 case round=>
  clear hS1 hb1;obtain⟨i,v,g,hin,rfl,hC,hbr⟩:=hrel;obtain⟨hok,hpl,Zo⟩:=EX (Ok.new h2) (ds.take i);have hle:(ds.take i).length≤60:=by rw[List.length_take];omega
  have hnl:(eQ n).L.length=0∧(eQ n).dr.length=n:=⟨rfl,by simp[eQ]⟩;by_cases hlt:i<ds.length
  ·have b2:(i:Int)<(ds.length:Int):=by omega
   have wi:IntKind.i64.wrap ((i:Int)+1)=(i:Int)+1:=by rw[IntKind.wrap_i64];omega
   have hrr:=hr.out.below hbr.out;obtain⟨Kn,cap',e0,r1,r2,r3⟩:=hrr;injection e0 with e1 _ e2;subst e1 e2;obtain⟨B,off,rfl,hB,hcell⟩:=r3 (by omega);have hx:=fun(j:Nat) (z:Value) (hz:(si ds[i])[j]? =some z)=>hcell i ds[i] j z (List.getElem?_eq_getElem hlt) hz;have hsn:=MJ (eQ n) hlt;generalize hxd:ds[i]=x at*;have hfx:=Wy x (by rw[←hxd];exact List.getElem_mem hlt);obtain⟨cm,⟨y1,y2,y3,y4,y5,y6,y7,y8,y9⟩,xi,xt⟩:=x;have k0:wr.cell? ⟨B,off+i*12,none⟩=some (.bool cm):=hx 0 _ rfl;have k1:wr.cell? ⟨B,off+i*12+1,none⟩=some (.int .i64 y1):=hx 1 _ rfl;have k2:wr.cell? ⟨B,off+i*12+1+1,none⟩=some (.int .i64 y2):=(congrArg (fun z=>wr.cell? ⟨B,z,none⟩) (show off+i*12+1+1=off+(i*12+2)by omega)).trans (hx 2 _ rfl);have k3:wr.cell? ⟨B,off+i*12+1+2,none⟩=some (.int .i64 y3):=(congrArg (fun z=>wr.cell? ⟨B,z,none⟩) (show off+i*12+1+2=off+(i*12+3)by omega)).trans (hx 3 _ rfl);have k4:wr.cell? ⟨B,off+i*12+1+3,none⟩=some (.int .i64 y4):=(congrArg (fun z=>wr.cell? ⟨B,z,none⟩) (show off+i*12+1+3=off+(i*12+4)by omega)).trans (hx 4 _ rfl);have k5:wr.cell? ⟨B,off+i*12+1+4,none⟩=some (.int .i64 y5):=(congrArg (fun z=>wr.cell? ⟨B,z,none⟩) (show off+i*12+1+4=off+(i*12+5)by omega)).trans (hx 5 _ rfl);have k6:wr.cell? ⟨B,off+i*12+1+5,none⟩=some (.int .i64 y6):=(congrArg (fun z=>wr.cell? ⟨B,z,none⟩) (show off+i*12+1+5=off+(i*12+6)by omega)).trans (hx 6 _ rfl);have k7:wr.cell? ⟨B,off+i*12+1+6,none⟩=some (.bool y7):=(congrArg (fun z=>wr.cell? ⟨B,z,none⟩) (show off+i*12+1+6=off+(i*12+7)by omega)).trans (hx 7 _ rfl);have k8:wr.cell? ⟨B,off+i*12+1+7,none⟩=some (.int .i64 y8):=(congrArg (fun z=>wr.cell? ⟨B,z,none⟩) (show off+i*12+1+7=off+(i*12+8)by omega)).trans (hx 8 _ rfl);have k9:wr.cell? ⟨B,off+i*12+1+8,none⟩=some (.int .i64 y9):=(congrArg (fun z=>wr.cell? ⟨B,z,none⟩) (show off+i*12+1+8=off+(i*12+9)by omega)).trans (hx 9 _ rfl);have k10:wr.cell? ⟨B,off+i*12+10,none⟩=some (.int .i64 xi):=hx 10 _ rfl;have k11:wr.cell? ⟨B,off+i*12+10+1,none⟩=some (.int .i64 xt):=hx 11 _ rfl;clear hx r3 hcell;obtain⟨M,hM⟩:=qaa (mQ (eQ n) (ds.take i));rw[←hM]at hC hok hpl Zo hsn;cases cm with
   |false=>
    have hq:=NI hC.out hbr.out.size ⟨y1,y2,y3,y4,y5,y6,y7,y8,y9⟩ hok (by omega) (by omega) (by omega) hfx.1.node;rw[show(fH M (toW ⟨y1,y2,y3,y4,y5,y6,y7,y8,y9⟩)).2=mQ (eQ n) (ds.take (i+1))from hsn.symm,show(encR ⟨y1,y2,y3,y4,y5,y6,y7,y8,y9⟩).toArray= #[.int .i64 y1,.int .i64 y2,.int .i64 y3,.int .i64 y4,.int .i64 y5,.int .i64 y6,.bool y7,.int .i64 y8,.int .i64 y9]from rfl]at hq;replace hq:=qae hq;go_wp2_with fail;go_at_call 34;refine hq.out.mono ?_;clear hq k0 k1 k2 k3 k4 k5 k6 k7 k8 k9 k10 k11;rintro e w3 ⟨v3,g3,rfl,yj,_,hb3⟩;have Kl:=qae (hbr.out.trans hb3);have Tf:=qae (yj.wider (show 1000*(i:Int)+1000≤1000*((i+1:Nat):Int)by omega));clear yj hb3;go_wp2_with fail;go_roundw
    case rel=>exact⟨i+1,v3,g3,by omega,by go_num,Tf,Kl⟩
    case measure=>simp[intOf];omega
   |true=>
    have hq:=Ak hC.out hbr.out.size xi xt hok (by omega) (by omega) (by omega) hfx.2.2;rw[show(aL M xi xt).2=mQ (eQ n) (ds.take (i+1))from hsn.symm]at hq;replace hq:=qae hq;go_wp2_with fail;go_at_call 31;refine hq.out.mono ?_;clear hq k0 k1 k2 k3 k4 k5 k6 k7 k8 k9 k10 k11;rintro e w3 ⟨v3,g3,rfl,yj,_,hb3⟩;have Kl:=qae (hbr.out.trans hb3);have Tf:=qae (yj.wider (show 1000*(i:Int)+1000≤1000*((i+1:Nat):Int)by omega));clear yj hb3;go_wp2_with fail;go_roundw
    case rel=>exact⟨i+1,v3,g3,by omega,by go_num,Tf,Kl⟩
    case measure=>simp[intOf];omega
  ·have b2:¬(i:Int)<(ds.length:Int):=by omega
   have hi:i=ds.length:=by omega
   subst hi;rw[List.take_length]at hC;have hC':=qae (hC.out.wider (show(1000*(ds.length:Int))≤60000 by omega));go_wp2_with fail;go_ret;exact⟨s,rfl,⟨c,t,d,p,v,g,hC'.out⟩,hbr.out⟩
end
open Go.ChangeShapes Go.WideShapes Go.ChangeAt Go.Deep
section
variable {H : Type} {enc : TypeId × Value → H} {w : World} {base : Nat} {v : Value} {d : DataW H} {ps : List MemPlace}
def UB :List TypeId:=[4,3,3,3,3,2,3,4,3,2,3,2]
theorem Da {α:Type}{Db:α→List Value}{p:α→Prop}:∀{l:List (List Value)},(∀s∈l,∃x:α,s=Db x∧p x)→∃L:List α,l=L.map Db∧∀x∈L,p x
 | [],_=>⟨[],rfl,fun _ h=>nomatch h⟩
 |s::l,h=>by
  obtain⟨x,rfl,hx⟩:=h s List.mem_cons_self;obtain⟨L,rfl,hL⟩:=Da (l:=l) fun s hs=>h s (List.mem_cons_of_mem _ hs);exact⟨x::L,rfl,fun y hy=>by
   rcases List.mem_cons.1 hy with rfl|hy
   ·exact hx
   ·exact hL y hy⟩
theorem MR {α:Type}{Db:α→List Value}{n:Nat}{L:List α}(h:aC id n w v (L.map Db)):aC Db n w v L:=by
 obtain⟨ao,cap,h1,h2,h3,h4⟩:=h;rw[List.length_map]at h1 h2 h4;refine⟨ao,cap,h1,h2,h3,fun hn=>?_⟩;obtain⟨b,off,e,hlt,hc⟩:=h4 hn;exact⟨b,off,e,hlt,fun i s j u hi hj=>hc i (Db s) j u (by rw[List.getElem?_map,hi];rfl) hj⟩
theorem P7 (hval:Value.okWide prog w .any base 22 v)(hd:DataW.Trod enc prog w 0 (fun _=>true) true 22 v d ps):∃l:List De,aC si 12 w v l∧∀x∈l,zw x:=by
 obtain⟨l,hr,hf⟩:=N8 (n:=3) (ts:=UB) underlying22 (by kernel_rfl) (by kernel_rfl) (by kernel_rfl) (by decide) hval hd;obtain⟨L,rfl,hL⟩:=Da (Db:=si) (p:=zw) fun s hs=>by
  obtain⟨hl,hf⟩:=hf s hs
  match s,hl with
  | [a0,a1,a2,a3,a4,a5,a6,a7,a8,a9,a10,a11],_=>
    obtain⟨x0,rfl⟩:=Bt hf 0 rfl underlying4 rfl;obtain⟨x1,rfl,b1⟩:=jD hf 1 rfl underlying3 rfl;obtain⟨x2,rfl,b2⟩:=jD hf 2 rfl underlying3 rfl;obtain⟨x3,rfl,b3⟩:=jD hf 3 rfl underlying3 rfl;obtain⟨x4,rfl,b4⟩:=jD hf 4 rfl underlying3 rfl;obtain⟨x5,rfl,b5⟩:=jD hf 5 rfl underlying2 rfl;obtain⟨x6,rfl,b6⟩:=jD hf 6 rfl underlying3 rfl;obtain⟨x7,rfl⟩:=Bt hf 7 rfl underlying4 rfl;obtain⟨x8,rfl,b8⟩:=jD hf 8 rfl underlying3 rfl;obtain⟨x9,rfl,b9⟩:=jD hf 9 rfl underlying2 rfl;obtain⟨Lf,rfl,b10⟩:=jD hf 10 rfl underlying3 rfl;obtain⟨Xt,rfl,b11⟩:=jD hf 11 rfl underlying2 rfl;exact⟨⟨x0,⟨x1,x2,x3,x4,x5,x6,x7,x8,x9⟩,Lf,Xt⟩,rfl,⟨b1,b2,b3,b4,b5,b6,b8,b9⟩,b10,b11⟩
 exact⟨L,MR hr,hL⟩
end
def iL (j:Jb):List Value:=[.int .i64 j.id,.int .i64 j.wid,.int .i64 j.lim,.int .i64 j.aJ]
theorem MS (j:Jb):(iL j).length=4:=rfl
theorem MU (j:Jb):∀v∈iL j,v.oneCell'=true:=by
 intro v hv;simp only[iL,List.mem_cons,List.not_mem_nil,or_false]at hv;rcases hv with rfl|rfl|rfl|rfl<;>rfl
theorem P8 :(prog.info? 100).map (fun i=>(i.zero,i.size,i.bytes))=some (some (.agg (iL default).toArray),4,32):=by kernel_rfl
theorem Tg (x:Jb)(w:World):Calls prog 168 #[.agg (ah x).toArray] w fun e w'=>e=.returned (.agg (iL x).toArray)∧Below w.heap.size w w':=by
 obtain⟨x1,x2,x3,x4,x5,x6,x7,x8,x9,x0⟩:=x;rw[show(ah (x1,x2,x3,x4,x5,x6,x7,x8,x9,x0)).toArray= #[.int .i64 x1,.int .i64 x2,.int .i64 x3,.int .i64 x4,.int .i64 x5,.int .i64 x6,.int .i64 x7,.int .i64 x8,.int .i64 x9,.int .u64 x0]from rfl,show(iL (x1,x2,x3,x4,x5,x6,x7,x8,x9,x0)).toArray= #[.int .i64 x1,.int .i64 x3,.int .i64 x4,.int .i64 x9]from rfl];go_enter func168,ntmps168;go_wp2_with fail;refine eH rfl rfl rfl (heap_alloc2_new w _ _) underlying100 rfl (by kernel_rfl) ⟨rfl,?_⟩;exact(qac.alloc (qaf _) _).alloc (by simp) _
section
variable {w : World} {u : Value} {L : List Jb}
def Dc (w:World)(e:TypeId)(sz n:Nat)(xs:List Value)(en:Ending)(w':World):Prop:=∃v',en=.returned v'∧w'.ownsRow w.heap.size e sz v' n xs∧Below w.heap.size w w'
theorem P9 (h:aC ah 10 w u L)(hL:L.length≤1000):Calls prog 167 #[.func (.func 168) #[] #[],u] w (Dc w 100 4 L.length (L.flatMap iL)):=by
 obtain⟨i0,hi0,hz0,hz1,hz2⟩:=info_parts P8;have hr:=qae h;obtain⟨ao,cap,rfl,q1,q2,_⟩:=h;have FX:cap≤9223372036854775807:=by unfold maxLen at q2;omega
 go_enter func167,ntmps167;go_wp2_with (at_make;refine wpList_make_own w rfl _ _ 75 rfl w.heap.size 100 i0 (.agg (iL default).toArray) 4 underlying75 hi0 hz0 hz1 .i64 .i64 _ L.length rfl rfl rfl (by rw[hz2];omega) (by unfold maxLen;omega) (qaf _) ?_;intro w1 ho1 hg1);have hb1:Below w.heap.size w w1:=qac.grown hg1 (qaf _) (fun k hk=>nomatch hk);obtain⟨n,hn⟩:=qab (L.length);rw[hn]at hL q1 ho1⊢;replace hn:=qae hn;clear hg1;go_wp2_with fail;go_loopw [5,13] (fun oo ii wr=>∃(i:Nat),i≤n∧ii=.int .i64 i∧wr.ownsRow w.heap.size 100 4 oo (L.take i).length ((L.take i).flatMap iL)∧Below w.heap.size w wr) (fun _ ii _=>n-(intOf ii).toNat)
 case atStart=>exact⟨0,Nat.zero_le _,rfl,by simpa using ho1,hb1⟩
 case round=>
  obtain⟨i,hin,rfl,hown,hbr⟩:=hrel;clear ho1 hb1;by_cases hlt:i<n
  ·have b2:(i:Int)<(n:Int):=by omega
   have wi:IntKind.i64.wrap ((i:Int)+1)=(i:Int)+1:=by rw[IntKind.wrap_i64];omega
   have iJ:i<L.length:=by have:=hn.out;omega
   have hrr:=hr.out.below hbr;obtain⟨B,off,cap',eJ,_,_,hB,LJ⟩:=hrr.Kq i iJ;injection eJ with Wz eJ3 WA;subst Wz WA;obtain⟨X,hX⟩:=qaa (L.take i);have VM:X.length≤1000:=by rw[hX,List.length_take];omega
   have HE:Hid (L.take (i+1)=X++[L.getD i default]):=by
    show _=_;rw[hX,List.take_succ_eq_append_getElem iJ,List.getD_eq_getElem?_getD,List.getElem?_eq_getElem iJ];rfl
   rw[←hX]at hown;replace hX:=qae hX;generalize L.getD i default=x at*;have hit:=Tg x;obtain⟨x1,x2,x3,x4,x5,x6,x7,x8,x9,x0⟩:=x;rw[show(ah (x1,x2,x3,x4,x5,x6,x7,x8,x9,x0)).toArray= #[.int .i64 x1,.int .i64 x2,.int .i64 x3,.int .i64 x4,.int .i64 x5,.int .i64 x6,.int .i64 x7,.int .i64 x8,.int .i64 x9,.int .u64 x0]from rfl,show(iL (x1,x2,x3,x4,x5,x6,x7,x8,x9,x0)).toArray= #[.int .i64 x1,.int .i64 x3,.int .i64 x4,.int .i64 x9]from rfl]at hit;have a0:=LJ 0 _ rfl;have a1:=LJ 1 _ rfl;have a2:=LJ 2 _ rfl;have a3:=LJ 3 _ rfl;have a4:=LJ 4 _ rfl;have a5:=LJ 5 _ rfl;have a6:=LJ 6 _ rfl;have a7:=LJ 7 _ rfl;have a8:=LJ 8 _ rfl;have a9:=LJ 9 _ rfl;rw[Nat.add_zero]at a0;clear LJ;obtain⟨w1,hw1⟩:=qaa (wr.alloc (.cells #[.int .i64 x1,.int .i64 x2,.int .i64 x3,.int .i64 x4,.int .i64 x5,.int .i64 x6,.int .i64 x7,.int .i64 x8,.int .i64 x9,.int .u64 x0] 55));have hb1:Below wr.heap.size wr w1:=by rw[hw1];exact qac.alloc (qaf _) _
   replace hown:=qae hown;go_wp2_with fail;rw[←hw1];replace hw1:=qae hw1;go_at_call 168;refine(hit w1).mono ?_;clear hit a0 a1 a2 a3 a4 a5 a6 a7 a8 a9;rintro e w5 ⟨rfl,hb5⟩;have Ti:=hb1.trans (hb5.mono hb1.size);have hown1:=qy hown.out (w':=w5) fun k hk=>Ti.block k (hown.out.lt k hk).2;have NJ:=hbr.trans (Ti.mono hbr.size);clear hb1 hb5 Ti hown hbr;have hsz:w.heap.size≤w5.heap.size:=NJ.size;go_wp2_with (at_builtin;go_must (refine wpList_append_own _ rfl (.tmp 17) (.tmp 21) 75 rfl w.heap.size 100 i0 (.agg (iL default).toArray) 4 32 underlying75 hi0 hz0 hz1 hz2 rfl (by decide) u5 X.length (X.flatMap iL) rfl (hown1.alloc _) ⟨w5.heap.size,0,none⟩ 1 1 (iL (x1,x2,x3,x4,x5,x6,x7,x8,x9,x0)) rfl rfl ?c0 ?c1 ?c2 ?c3 ?c4 ?c5))
   case c0=>exact oC (vs:=iL (x1,x2,x3,x4,x5,x6,x7,x8,x9,x0)) rfl
   case c1=>exact MU _
   case c2=>unfold maxLen;omega
   case c3=>omega
   case c4=>(have hh:∀o,(w5.alloc o).heap.size=w5.heap.size+1:=fun o=>by simp);first|omega|(rw[hh];omega)
   case c5=>
    intro v6 w7 Ao vC _;have kr:Below w.heap.size w w7:=(NJ.alloc NJ.size _).grown vC (by simp;omega) (fun k hk=>(hown1.lt k hk).1);have KU:Hid (w7.ownsRow w.heap.size 100 4 v6 (L.take (i+1)).length ((L.take (i+1)).flatMap iL)):=by
     show World.ownsRow _ _ _ _ _ _ _;rw[HE.out,List.length_append,List.flatMap_append];simp only[List.length_singleton,List.flatMap_cons,List.flatMap_nil,List.append_nil];exact Ao
    clear Ao vC hown1 NJ;go_wp2_with fail;go_roundw
    case rel=>exact⟨i+1,by omega,by go_num,KU.out,kr⟩
    case measure=>simp[intOf];omega
  ·obtain rfl:i=n:=by omega
   have b2:¬(i:Int)<(i:Int):=by omega
   have e1:L.take i=L:=List.take_of_length_le (by rw[hn.out];exact qaf _);rw[e1,hn.out]at hown;have hfin:Hid (Dc w 100 4 L.length (L.flatMap iL) (.returned u5) wr):=by
    rw[←hn.out]at hown;exact⟨u5,rfl,hown,hbr⟩
   clear hown e1;go_wp2_with fail;go_ret;exact hfin.out
end
section
variable {w w' w1 : World} {B s c t d p g g' : Nat} {v v' : Value} {m : Int} {M : Md}
theorem CS.grown (h:CS w w1 c t d p v g v' g'){o:Option Nat}(hg:w1.grownBy w' o)(ho:∀k,o=some k→w.heap.size≤k):CS w w' c t d p v g v' g':=
 ⟨⟨hg.os.trans h.off.os,hg.tape.trans h.off.tape,hg.output.trans h.off.output,Nat.le_trans h.off.size hg.size,fun k hk hf=>(hg.block k (Nat.lt_of_lt_of_le hk h.off.size) (fun e=>by have:=ho k e.symm;omega)).trans (h.off.block k hk hf)⟩,h.grew⟩
end
section
end
theorem Tj {L r r':List Jb}{p:Jb→Bool}(hid:∀a∈L,∀b∈L,a.id=b.id→a=b)(h:r.Perm (L.filter p))(h':r'.Perm (L.filter p))(hw:r.Pairwise fun x y=>aP y x=false)(hw':r'.Pairwise fun x y=>aP y x=false):r=r':=by
 refine List.Perm.eq_of_pairwise (le:=fun x y=>aP y x=false) (fun x y hx hy h1 h2=>?_) hw hw' (h.trans h'.symm);refine hid x (List.mem_filter.1 (h.subset hx)).1 y (List.mem_filter.1 (h'.subset hy)).1 ?_;unfold aP at h1 h2;simp only[Bool.or_eq_false_iff,Bool.and_eq_false_iff,decide_eq_false_iff_not]at h1 h2;omega
theorem Tk {M:Md}(h:aG M):∀a∈M.L,∀b∈M.L,a.id=b.id→a=b:=by
 intro x hx y hy e;obtain⟨i,hi,rfl⟩:=List.getElem_of_mem hx;obtain⟨j,hj,rfl⟩:=List.getElem_of_mem hy;have e1:=h.ids i hi;have e2:=h.ids j hj;rw[List.getD_eq_getElem?_getD,List.getElem?_eq_getElem hi]at e1;rw[List.getD_eq_getElem?_getD,List.getElem?_eq_getElem hj]at e2;have e1':M.L[i].id=(i:Int)+1:=e1;have e2':M.L[j].id=(j:Int)+1:=e2;obtain rfl:i=j:=by omega
 rfl
section
variable {w : World} {B s c t d p g : Nat} {v u : Value} {m : Int} {M : Md} {L : List Jb}
theorem MV (h:aC ah 10 w u L)(hL:L.length≤1000):Calls prog 104 #[u] w (Dc w 100 4 L.length (L.flatMap iL)):=by
 have hq:=P9 h hL;go_enter func104,ntmps104;go_wp2_with fail;go_at_call 167;refine hq.mono ?_;clear hq;rintro e w' ⟨u',rfl,h1,h2⟩;have hfin:=qae (And.intro h1 h2);clear h1 h2;go_wp2_with fail;go_ret;exact⟨u',rfl,hfin.out⟩
def kN (M:Md)(r:List Jb):Prop:=r.Perm (M.L.filter fun j=>decide (j.state=1))∧r.Pairwise (fun x y=>aP y x=false)
theorem kN.uniq {r r':List Jb}(hI:aG M)(h:kN M r)(h':kN M r'):r=r':=Tj (Tk hI) h.1 h'.1 h.2 h'.2
theorem kN.len {r:List Jb}(h:kN M r):r.length≤M.L.length:=by rw[h.1.length_eq];exact List.length_filter_le _ _
theorem Qa {a:Nat}(h:CW w c t d p v g a m (ai M))(hll:M.L.length≤900):Calls prog 105 #[.pointer (some ⟨t,0,none⟩)] w fun e w'=>∃(v':Value) (r:List Jb),e=.returned v'∧aC ah 10 w' v' r∧kN M r∧Below w.heap.size w w':=by
 refine(Ir h.eU (by show M.L.length≤1000;omega)).mono ?_;rintro e w' ⟨v',r,rfl,h1,h2,h3,h4⟩;exact⟨v',r,rfl,h1,⟨h2,h3⟩,h4⟩
theorem MW (h:SO B w s c t d p v g m M)(hll:M.L.length≤900):Calls prog 38 #[.pointer (some ⟨s,0,none⟩)] w fun e w'=>∃(v':Value) (r:List Jb),e=.returned v'∧kN M r∧aC iL 4 w' v' r∧Below w.heap.size w w':=by
 have hl:=vw h;have q0:=h.at'.c0;have q1:=h.cw.c0;have hw:=Qa h.cw hll;go_enter func38,ntmps38;go_wp2_with fail;go_at_call 88;refine hl.mono ?_;clear hl;rintro e w' ⟨rfl,rfl⟩;go_wp2_with fail;go_at_call 105;refine hw.mono ?_;clear hw q0 q1;rintro e w1 ⟨v1,r,rfl,h1,h2,hb1⟩;have hi:=MV h1 (by have:=h2.len;omega);go_wp2_with fail;go_at_call 104;refine hi.mono ?_;clear hi;rintro e w2 ⟨u',rfl,h3,hb2⟩;have hfin:Hid (aC iL 4 w2 u' r∧Below w.heap.size w w2):=⟨aC.fA h3 MS rfl rfl,hb1.trans (hb2.mono hb1.size)⟩;replace h2:=qae h2;clear h1 h3 hb1 hb2;go_wp2_with fail;go_ret;exact⟨u',r,rfl,h2.out,hfin.out⟩
end
open Put
section
variable {w : World} {B s c t d p g : Nat} {v : Value} {m : Int} {M : Md}
theorem MX (h:SO B w s c t d p v g m M):Calls prog 107 #[.pointer (some ⟨s,0,none⟩)] w fun e w'=>e=.returned (.bool false)∧w=w':=by
 have c0:=h.at'.c0;have hn:=kE h.cw;go_enter func107,ntmps107;go_wp2_with fail;go_at_call 71;refine hn.mono ?_;clear hn;rintro e w' ⟨rfl,rfl⟩;go_wp2_with fail;go_ret;exact⟨rfl,rfl⟩
theorem Tm {a:Nat}(h:CW w c t d p v g a m (ai M))(hI:aG M)(h1:1≤M.dr.length)(hll:M.L.length≤900):∃S aF,SY w p g S aF M.now (fun t=>ax M t 0) a m:=by
 obtain⟨S,aF,hp,Ev,hl,hv0,hv1⟩:=h.mh;have hk:=fu hI h1 hll;exact⟨S,aF,hp,Ev,hk.f,hk.now,hl,hv0,hv1⟩
end
section
variable {M : Md}
theorem kN.mem {r:List Jb}(h:kN M r){x:Jb}(hx:x∈r):x∈M.L∧x.st=1:=by
 have:=h.1.mem_iff.1 hx;rw[List.mem_filter]at this;exact⟨this.1,of_decide_eq_true this.2⟩
theorem kN.ok {r:List Jb}(hO:Ok M)(h:kN M r){x:Jb}(hx:x∈r):(AB x).ok:=SI hO.inv hO.calm (h.mem hx).1
end
section
end
section
variable {w w' : World} {B s c t d p g g' base sz n : Nat} {v v' u : Value} {m : Int} {M : Md} {xs : List Value} {T : TypeId}
abbrev AX (T:TypeId):Prop:=T≠70∧T≠48∧T≠134∧T≠138∧T≠125∧T≠55∧T≠58
theorem qV (h:SO B w s c t d p v g m M)(hc:CS w w' c t d p v g v' g'){k:Nat}{cs:Array Value}{fz:Nat×Nat}(hk:w.heap[k]? =some (.cells cs T fz))(hT:AX T):w'.heap[k]? =some (.cells cs T fz):=
 (hc.heap (au hk) (h.cw.other hk hT.2)).trans hk
theorem NK (h:SO B w s c t d p v g m M)(hc:CS w w' c t d p v g v' g')(ho:w.ownsRow base T sz u n xs)(hT:AX T):w'.ownsRow base T sz u n xs:=
 qy ho fun k hk=>by
  obtain⟨cur,hb⟩:=iH ho hk;exact(qV h hc hb hT).trans hb.symm
theorem Qb (h:SO B w s c t d p v g m M){o:Option Nat}(hg:w.grownBy w' o)(ho:∀k,o=some k→∃cs,w.heap[k]? =some (.cells cs T (0,0)))(hT:AX T):SO B w' s c t d p v g m M:=by
 cases o with
 |none=>exact h.kept ⟨hg.os,hg.tape,hg.output,hg.size,fun k hk=>hg.block k hk (fun e=>nomatch e)⟩
 |some G=>
  obtain⟨cs,hG⟩:=ho G rfl;have hO:gB (fun k=>k=G) w w':=⟨hg.os,hg.tape,hg.output,hg.size,fun k hk hne=>hg.block k hk (fun e=>hne (Option.some.inj e))⟩;have hs:s≠G:=by
   rintro rfl;have e:=h.at';unfold kV at e;rw[hG]at e;exact absurd (Obj.cells.inj (Option.some.inj e)).2.1 hT.1
  exact⟨(hO.block s h.at'.lt hs).trans h.at',h.Ta,h.cw.Jc hO (h.cw.other hG hT.2),h.lo⟩
theorem sD {o:Option Nat}(hg:w.grownBy w' o)(ho:∀k,o=some k→∃cs,w.heap[k]? =some (.cells cs T (0,0))){k:Nat}{cs:Array Value}{T':TypeId}{fz:Nat×Nat}(hk:w.heap[k]? =some (.cells cs T' fz))(hT:T'≠T):w'.heap[k]? =some (.cells cs T' fz):=by
 refine(hg.block k (au hk) fun e=>?_).trans hk;obtain⟨cs2,h2⟩:=ho k e.symm;rw[hk]at h2;exact hT (Obj.cells.inj (Option.some.inj h2)).2.1
theorem MZ {o:Option Nat}(hg:w.grownBy w' o)(ho:∀k,o=some k→∃cs,w.heap[k]? =some (.cells cs T (0,0))){T':TypeId}(hr:w.ownsRow base T' sz u n xs)(hT:T'≠T):w'.ownsRow base T' sz u n xs:=
 qy hr fun k hk=>by
  obtain⟨cur,hb⟩:=iH hr hk;exact(sD hg ho hb hT).trans hb.symm
theorem aC.items {r:List Jb}(h:aC iL 4 w u r):aC eZ 4 w u (r.map AB):=by
 obtain⟨ao,cap,rfl,h1,h2,h3⟩:=h;refine⟨ao,cap,by simp,by simpa using h1,h2,fun hp=>?_⟩;obtain⟨b,off,e,hb,hc⟩:=h3 (by simpa using hp);refine⟨b,off,e,hb,fun i x j z hi hj=>?_⟩;rw[List.getElem?_map,Option.map_eq_some_iff]at hi;obtain⟨y,hy,rfl⟩:=hi;exact hc i y j z hy hj
theorem M0 (M:Md)(a:Int):bI M.L a=(getM M a).1:=by
 unfold bI getM;by_cases h1:a<1
 ·rw[qaj h1,qaj (.inl h1)]
 ·by_cases h2:(M.L.length:Int)<a
  ·rw[qai h1,qaj h2,qaj (.inr h2)]
  ·rw[qai h1,qai h2,qai (by omega)];simp[List.getD]
end
theorem E8 {fn:Func}{q u:Tmp}{b:Nat}{tmps:Array Value}{w:World}{x y z:Value}(h:fn.results= #[.cell q 80,.tmp u])(ha:tmps.getD q undef=.pointer (some ⟨b,0,none⟩))(hb:w.heap[b]? =some (.cells #[x,y,z] 80 (0,0))):
 (results fn tmps).run prog w=.ok (.tuple #[.agg #[x,y,z],tmps.getD u undef]) w:=by
 have h1:Sem.run prog (loadCells ⟨b,0,none⟩ 3) w=.ok #[x,y,z] w:=nZ (cs:=[x,y,z]) hb rfl;have aE:∀w,Sem.run prog (isAgg 80) w=.ok true w:=isAgg80;have zE:∀w,Sem.run prog (Go.sizeOf 80) w=.ok 3 w:=sizeOf80;rw[results_cell_tmp h,ha];simp only[loadVar,asAddr,Sem.run_bind,Sem.run_pure,Result.andThen_ok,aE,zE,h1,if_true]
section
variable {w : World} {B s c t d p g : Nat} {v : Value} {m : Int} {M : Md}
def WB (B:Nat)(w:World)(s c t d p:Nat)(v:Value)(g:Nat)(m:Int)(M:Md)(depth:Int)(e:Ending)(w':World):Prop:=
 ∃(r:List Jb) (cs:List (Int×Int)) (f':Int→Int) (uc us v':Value) (g':Nat),kN M r∧dB M.now ((r.map AB).take depth.toNat) (fun t=>ax M t 0) f' cs∧e=.returned (.tuple #[.agg #[uc,.int .i64 (jo M cs),us],.int .i64 0])∧
  SO B w' s c t d p v' g' (m+1000*cs.length) (dR M cs)∧CS w w' c t d p v g v' g'∧w'.ownsRow w.heap.size 35 2 uc cs.length (aN cs)∧w'.ownsRow w.heap.size 3 1 us (bZ M cs).length ((bZ M cs).flatMap enc1)
theorem E5.told {r:List Jb}{depth:Int}{e:Ending}{w':World}(h:E5 w M.now (fun t=>ax M t 0) (r.map AB) depth e w')(hr:∀x∈r,(AB x).ok):∃ao n cap k,e=.returned (.tuple #[.slice ao n cap,.int .i64 k])∧Below w.heap.size w w'∧
 ((k=1∧¬(1≤depth∧depth≤64))∨(k=0∧(1≤depth∧depth≤64)∧∃cs f',n=cs.length∧w'.ownsRow w.heap.size 35 2 (.slice ao n cap) cs.length (aN cs)∧dB M.now ((r.map AB).take depth.toNat) (fun t=>ax M t 0) f' cs)):=by
 obtain⟨hb,⟨h1,rfl⟩|⟨_,⟨y,hy,hn⟩,_⟩|⟨h1,_,v',cs,f',rfl,ho,hR⟩⟩:=h
 ·exact⟨none,0,0,1,rfl,hb,.inl ⟨rfl,by omega⟩⟩
 ·obtain⟨x,hx,rfl⟩:=List.mem_map.1 (List.mem_of_mem_take hy);exact absurd (hr x hx) hn
 ·obtain⟨ao,cap,rfl,_⟩:=dE ho;exact⟨ao,cs.length,cap,0,rfl,hb,.inr ⟨rfl,h1,cs,f',rfl,ho,hR⟩⟩
end
theorem nL.time {now:Int}{x:It}{f f':Int→Int}{c:List (Int×Int)}(h0:0≤now)(h:nL now x f f' c):∀a∈c,0≤a.2∧a.2≤1099511627776:=by
 obtain⟨_,_,_,⟨_,_,rfl⟩|⟨_,t,e,hE,hL⟩⟩:=h
 ·intro a ha;cases ha
 ·rcases hL with⟨⟨he,_⟩,rfl,_⟩|⟨_,rfl,_⟩
  ·intro a ha;obtain rfl:a=(x.id,t):=by simpa using ha
   rcases hE with⟨_,h1,h2,_⟩|⟨h1,_⟩
   ·exact⟨by show 0≤t;omega,h2⟩
   ·omega
  ·intro a ha;cases ha
theorem dB.time {now:Int}(h0:0≤now):∀(l:List It) {f f':Int→Int} {c:List (Int×Int)},dB now l f f' c→∀a∈c,0≤a.2∧a.2≤1099511627776
 | [],_,_,_,⟨_,e⟩=>by rw[e];intro a ha;cases ha
 |x::l,_,_,_,⟨_,c1,c2,h1,h2,e⟩=>by
  rw[e];intro a ha;rcases List.mem_append.1 ha with ha|ha
  ·exact h1.time h0 a ha
  ·exact dB.time h0 l h2 a ha
section
variable {w w1 : World} {B s c t d p g g' base sz n G i : Nat} {v v' u val : Value} {m : Int} {M : Md} {xs : List Value} {T T' : TypeId} {cs : Array Value} {fz : Nat × Nat}
theorem mR (w:World)(G i:Nat)(val:Value){k:Nat}(h:k≠G):(w.setCell ⟨G,i,none⟩ val).heap[k]? =w.heap[k]? :=Below.heap_setCell _ _ _ _ h
theorem yn (h:SO B w s c t d p v g m M)(hG:w.heap[G]? =some (.cells cs T fz))(hT:AX T)(i:Nat)(val:Value):SO B (w.setCell ⟨G,i,none⟩ val) s c t d p v g m M:=by
 have hO:gB (fun k=>k=G) w (w.setCell ⟨G,i,none⟩ val):=⟨rfl,rfl,rfl,by simp,fun k hk hne=>mR w G i val hne⟩;have hs:s≠G:=by
  rintro rfl;have e:=h.at';unfold kV at e;rw[hG]at e;exact absurd (Obj.cells.inj (Option.some.inj e)).2.1 hT.1
 exact⟨(hO.block s h.at'.lt hs).trans h.at',h.Ta,h.cw.Jc hO (h.cw.other hG hT.2),h.lo⟩
theorem yo (h:CS w w1 c t d p v g v' g')(hG:w.heap.size≤G)(i:Nat)(val:Value):CS w (w1.setCell ⟨G,i,none⟩ val) c t d p v g v' g':=
 ⟨⟨h.off.os,h.off.tape,h.off.output,by simp;exact h.off.size,fun k hk hf=>(mR w1 G i val (by omega)).trans (h.off.block k hk hf)⟩,h.grew⟩
theorem kH (hr:w.ownsRow base T' sz u n xs)(hG:w.heap[G]? =some (.cells cs T fz))(hT:T'≠T)(i:Nat)(val:Value):(w.setCell ⟨G,i,none⟩ val).ownsRow base T' sz u n xs:=
 qy hr fun k hk=>by
  obtain⟨cur,hb⟩:=iH hr hk;refine mR w G i val ?_;rintro rfl;rw[hG]at hb;exact hT (Obj.cells.inj (Option.some.inj hb)).2.1.symm
end
section
variable {w : World} {B s c t d p g : Nat} {v : Value} {m : Int} {M : Md}
def Tn (B:Nat)(w:World)(s c t d p:Nat)(v:Value)(g:Nat)(m:Int)(M:Md)(depth:Int)(e:Ending)(w':World):Prop:=
 (¬(1≤depth∧depth≤64)∧e=.returned (.tuple #[.agg #[.slice none 0 0,.int .i64 0,.slice none 0 0],.int .i64 1])∧Below w.heap.size w w')∨
 ((1≤depth∧depth≤64)∧WB B w s c t d p v g m M depth e w')
theorem NL (h:SO B w s c t d p v g m M)(hB:B≤w.heap.size)(hO:Ok M)(h1:1≤M.dr.length)(hll:M.L.length≤190)(hm:m≤800000)(depth:Int):
 Calls prog 40 #[.pointer (some ⟨s,0,none⟩),.int .i64 depth] w (Tn B w s c t d p v g m M depth):=by
 obtain⟨wA,aK⟩:=qaa (w.alloc (.cells #[.slice none 0 0,.int .i64 0,.slice none 0 0] 80));have bS:Below w.heap.size w wA:=by rw[aK];exact qac.alloc (qaf _) _
 have hsA:wA.heap.size=w.heap.size+1:=by rw[aK];simp
 have qQ:Hid (wA.heap[w.heap.size]? =some (.cells #[.slice none 0 0,.int .i64 0,.slice none 0 0] 80 (0,0))):=by show _=_;rw[aK];exact heap_alloc_new w _
 have hA:=h.kept bS;have hl:=MX hA;have hbD:Below wA.heap.size wA wA.drew:=qac.drew;have hD:=hA.kept hbD;have q0:=hD.at'.c0;have q1:=hD.cw.c2;have hit:=MW hD (by omega);have hkeep:Hid (∀W,Below wA.drew.heap.size wA.drew W→W.cell? ⟨s,0,none⟩=some (.pointer (some ⟨c,0,none⟩))∧W.cell? ⟨c,2,none⟩=some (.pointer (some ⟨p,0,none⟩))):=fun W hW=>⟨(hD.kept hW).at'.c0,(hD.kept hW).cw.c2⟩
 have hall:Hid (∀W u r,Below wA.drew.heap.size wA.drew W→kN M r→aC iL 4 W u r→Calls prog 37 #[.pointer (some ⟨p,0,none⟩),.int .i64 depth,u] W fun e w'=>∃ao n cap k,e=.returned (.tuple #[.slice ao n cap,.int .i64 k])∧Below W.heap.size W w'∧
  ((k=1∧¬(1≤depth∧depth≤64))∨(k=0∧(1≤depth∧depth≤64)∧∃cs f',n=cs.length∧w'.ownsRow W.heap.size 35 2 (.slice ao n cap) cs.length (aN cs)∧dB M.now ((r.map AB).take depth.toNat) (fun t=>ax M t 0) f' cs))):=fun W u r hW hw hr=>by
  obtain⟨S,aF,Yp⟩:=Tm (hD.kept hW).cw hO.inv h1 (by omega);have hl2:=hw.len;exact(MP depth Yp (by omega) hm (by have:=Yp.v;omega) hr.items (by rw[List.length_map];omega)).mono fun e w' hp=>hp.told fun x hx=>hw.ok hO hx
 have hs0:=qae h;replace hit:=qae hit;have Vo:=qae bS;clear h hA hD bS hbD;go_enter func40,ntmps40;go_wp2_with fail;rw[←aK];replace aK:=qae aK;go_at_call 107;refine hl.mono ?_;clear hl;rintro e w' ⟨rfl,rfl⟩;go_upto_region 3 with fail;go_cut [6,7]from 16 to 29 (fun va vb wc=>∃r ao n cap k,va=.slice ao n cap∧vb=.int .i64 k∧Hid (kN M r)∧Hid (Below wA.heap.size wA wc)∧Hid ((k=1∧¬(1≤depth∧depth≤64))∨(k=0∧(1≤depth∧depth≤64)∧∃cs f',n=cs.length∧wc.ownsRow wA.heap.size 35 2 (.slice ao n cap) cs.length (aN cs)∧dB M.now ((r.map AB).take depth.toNat) (fun t=>ax M t 0) f' cs)))
 case first=>
  go_region_with (first
   |(go_at_call 38;refine hit.out.mono ?_;rintro e wi ⟨ui,ri,rfl,UC,CB,hbi⟩;have q2:=(hkeep.out wi hbi).1;have q3:=(hkeep.out wi hbi).2;have hc2:=qae (hall.out wi ui ri hbi UC CB);replace UC:=qae UC;replace CB:=qae CB;replace hbi:=qae hbi)
   |(go_at_call 37;refine hc2.out.mono ?_;rintro e wn ⟨Zp,n9,Yq,k9,rfl,qg,hor⟩;replace qg:=qae qg;replace hor:=qae hor))
  all_goals
   (have hbn:Hid (Below wA.heap.size wA wn):=((Below.refl wA.heap.size wA).drew).trans (hbi.out.trans (qg.out.mono hbi.out.size))
    have hor2:Hid ((k9=1∧¬(1≤depth∧depth≤64))∨(k9=0∧(1≤depth∧depth≤64)∧∃cs f',n9=cs.length∧wn.ownsRow wA.heap.size 35 2 (.slice Zp n9 Yq) cs.length (aN cs)∧dB M.now ((ri.map AB).take depth.toNat) (fun t=>ax M t 0) f' cs)):=by
     rcases hor.out with h2|⟨h2,h3,cs,f',h4,h5,h6⟩
     ·exact .inl h2
     ·exact .inr ⟨h2,h3,cs,f',h4,kC h5 hbi.out.size,h6⟩
    clear hor qg CB hbi q2 q3 hc2;go_wp2_with fail;go_meet
    case rel=>exact⟨ri,_,_,_,_,rfl,rfl,UC,hbn,hor2⟩)
 case rest=>
  clear hall hit hkeep q0 q1;obtain⟨r,ao,n,cap,k,rfl,rfl,hW,hbc,hor⟩:=hcut;obtain⟨wK,rfl⟩:∃wK:World,wK=wc:=⟨_,rfl⟩;have NM:Hid (Below w.heap.size w wK):=Vo.out.trans (hbc.out.mono Vo.out.size);have hzc:=(hbc.out.block _ (by omega)).trans qQ.out;have z0:wK.cell? ⟨w.heap.size,0,none⟩=some (.slice none 0 0):=by simp[World.cell?,hzc]
  have z1:wK.cell? ⟨w.heap.size,1,none⟩=some (.int .i64 0):=by simp[World.cell?,hzc]
  have z2:wK.cell? ⟨w.heap.size,2,none⟩=some (.slice none 0 0):=by simp[World.cell?,hzc]
  have f0:wK.frozen? ⟨w.heap.size,0,none⟩=false:=by simp[World.frozen?,hzc]
  have f1:wK.frozen? ⟨w.heap.size,1,none⟩=false:=by simp[World.frozen?,hzc]
  have f2:wK.frozen? ⟨w.heap.size,2,none⟩=false:=by simp[World.frozen?,hzc]
  rcases hor.out with⟨rfl,hdp⟩|⟨rfl,hdp,cs,f',rfl,hcs,hpl⟩
  ·have GG:(((wK.setCell ⟨w.heap.size,0,none⟩ (.slice none 0 0)).setCell ⟨w.heap.size,1,none⟩ (.int .i64 0)).setCell ⟨w.heap.size,2,none⟩ (.slice none 0 0)).heap[w.heap.size]? =some (.cells #[.slice none 0 0,.int .i64 0,.slice none 0 0] 80 (0,0)):=heap_put (heap_put (heap_put hzc _) _) _;have qg:Below w.heap.size w (((wK.setCell ⟨w.heap.size,0,none⟩ (.slice none 0 0)).setCell ⟨w.heap.size,1,none⟩ (.int .i64 0)).setCell ⟨w.heap.size,2,none⟩ (.slice none 0 0)):=((NM.out.setCell (qaf _) _).setCell (qaf _) _).setCell (qaf _) _;have hK:Hid (Tn B w s c t d p v g m M depth (.returned (.tuple #[.agg #[.slice none 0 0,.int .i64 0,.slice none 0 0],.int .i64 1])) (((wK.setCell ⟨w.heap.size,0,none⟩ (.slice none 0 0)).setCell ⟨w.heap.size,1,none⟩ (.int .i64 0)).setCell ⟨w.heap.size,2,none⟩ (.slice none 0 0))):=.inl ⟨hdp,rfl,qg⟩;clear hor hbc hW;go_wp2_with fail;exact bodyPost_ret (E8 rfl rfl GG) rfl hK.out
  ·clear hor;have hcl:cs.length≤64:=by
    have h2:=dB.len _ hpl;rw[List.length_take]at h2;omega
   obtain⟨N,hN⟩:=qab (cs.length);obtain⟨j0,hj0,hy0,hy1,hy2⟩:=info_parts Q0;have hms:∀a∈cs,0≤a.2∧a.2≤1099511627776:=dB.time hO.inv.mb.now.1 _ hpl;have NN:=kC hcs (show w.heap.size≤wA.heap.size by omega);have hlc:=(NN.lt);obtain⟨wG,Tp⟩:=qaa (wK.alloc (.cells #[.slice ao N cap,.int .i64 0,.slice none 0 0] 80));have UF:Below wK.heap.size wK wG:=by rw[Tp];exact qac.alloc (qaf _) _
   have Yr:Hid (wG.heap[wK.heap.size]? =some (.cells #[.slice ao N cap,.int .i64 0,.slice none 0 0] 80 (0,0))):=by show _=_;rw[Tp];exact heap_alloc_new wK _
   have Tq:Hid (Below w.heap.size w wG):=NM.out.trans (UF.mono NM.out.size);have Yt:=qae (hs0.out.kept Tq.out);have Yu:=qae (CS.of_below (c:=c) (t:=t) (d:=d) (p:=p) (v:=v) (g:=g) Tq.out);have WC:=qae (jA NN UF);have hz0:=qae ((UF.block _ (au hzc)).trans hzc);have hGw:w.heap.size<wK.heap.size:=by have:=hbc.out.size;omega
   rw[hN]at hcs NN⊢;rw[hN]at WC hcl;have hQ:Hid (∀W us v' g',SO B W s c t d p v' g' (m+1000*N) (dR M cs)→CS w W c t d p v g v' g'→W.ownsRow w.heap.size 35 2 (.slice ao N cap) N (aN cs)→W.ownsRow w.heap.size 3 1 us (bZ M cs).length ((bZ M cs).flatMap enc1)→Tn B w s c t d p v g m M depth (.returned (.tuple #[.agg #[.slice ao N cap,.int .i64 (jo M cs),us],.int .i64 0])) W):=fun W us v' g' a1 a2 a3 a4=>.inr ⟨hdp,r,cs,f',_,us,v',g',hW.out,hpl,rfl,by rw[hN];exact a1,a2,by rw[hN];exact a3,a4⟩;clear hcs NN UF z0 z1 z2 f0 f1 f2 hzc hbc hpl hdp hW hlc;replace hN:=qae hN;go_wp2_with fail;rw[←Tp];replace Tp:=qae Tp;go_loopg [38] N (fun k ii wr=>∃(i:Nat) (us v':Value) (g':Nat),i+k=N∧ii=.int .i64 i∧Hid (SO B wr s c t d p v' g' (m+1000*i) (dR M (cs.take i)))∧Hid (CS w wr c t d p v g v' g')∧
    Hid (wr.heap[wK.heap.size]? =some (.cells #[.slice ao N cap,.int .i64 (jo M (cs.take i)),us] 80 (0,0)))∧Hid (wr.heap[w.heap.size]? =some (.cells #[.slice none 0 0,.int .i64 0,.slice none 0 0] 80 (0,0)))∧
    Hid (wr.ownsRow w.heap.size 3 1 us (bZ M (cs.take i)).length ((bZ M (cs.take i)).flatMap enc1))∧Hid (wr.ownsRow w.heap.size 35 2 (.slice ao N cap) N (aN cs)))
   case atStart=>
    refine⟨0,.slice none 0 0,v,g,by omega,rfl,?_,Yu,Yr,hz0,World.ownsRow_nil _ _ _ _,WC⟩;show SO _ _ _ _ _ _ _ _ _ _ _;rw[show m+1000*((0:Nat):Int)=m by omega];exact Yt.out
   case round=>
    clear Yt Yu WC hz0 Yr Tq NM hs0;obtain⟨i,us,v',g',hin,rfl,hS,hC,hG,hZ,hU,hR⟩:=hrel;have NP:=nY (cs.take i) M;have Yv:=zo (cs.take i) hO;by_cases hlt:i<N
    ·have b2:(i:Int)<(N:Int):=by omega
     have wi:IntKind.i64.wrap ((i:Int)+1)=(i:Int)+1:=by rw[IntKind.wrap_i64];omega
     have hil:i<cs.length:=by rw[hN.out];exact hlt
     obtain⟨Kn,cap',e0,r1,r2,r3⟩:=aC.fA (l:=cs) (enc:=enc2) hR.out (fun _=>rfl) rfl hN.out.symm;obtain⟨b,off,rfl,hbl,hcell⟩:=r3 (by omega);injection e0 with e1 e3 e2;subst e1 e2;clear e3;have htk:cs.take (i+1)=cs.take i++[cs[i]]:=List.take_succ_eq_append_getElem hil;have Tt:=hms cs[i] (List.getElem_mem hil);have hc0:=hcell i cs[i] 0 _ (List.getElem?_eq_getElem hil) rfl;have hc1:=hcell i cs[i] 1 _ (List.getElem?_eq_getElem hil) rfl;have uF:=J2 M (cs.take i) cs[i];have uG:=Ai cs[i] (cs.take i) M;have hstart:=yc cs[i] (cs.take i) M;have htl:=EY (cs.take i) M;have hsl:=CU (cs.take i) M;rw[List.length_take]at htl hsl;rw[←htk]at uF uG hstart;obtain⟨x,hx⟩:=qaa (cs[i]);rw[←hx]at Tt hc0 hc1 uF uG hstart;obtain⟨a,y⟩:=x;dsimp only at Tt hc0 hc1 uF uG hstart;obtain⟨Mi,WE⟩:=qaa (dR M (cs.take i));rw[←WE]at hS Yv NP uF uG hstart;have Yw:Mi.L.length≤190:=by rw[NP.1];exact hll
     have Yx:1≤Mi.dr.length:=by rw[NP.2.1];exact h1
     have k0:wr.cell? ⟨b,off+i*2,none⟩=some (.int .i64 a):=hc0;have k1:wr.cell? ⟨b,off+i*2+1,none⟩=some (.int .i64 y):=by rw[Nat.add_assoc];exact hc1
     obtain⟨wX,Tu⟩:=qaa (wr.alloc (.cells #[.int .i64 a,.int .i64 y] 35));have hbX:Below wr.heap.size wr wX:=by rw[Tu];exact qac.alloc (qaf _) _
     have UG:wX.heap[wr.heap.size]? =some (.cells #[.int .i64 a,.int .i64 y] 35 (0,0)):=by rw[Tu];exact heap_alloc_new wr _
     have x0:wX.cell? ⟨wr.heap.size,0,none⟩=some (.int .i64 a):=by simp[World.cell?,UG]
     have x1:wX.cell? ⟨wr.heap.size,1,none⟩=some (.int .i64 y):=by simp[World.cell?,UG]
     have M4:=hS.out.kept hbX;have hGr:w.heap.size≤wr.heap.size:=hC.out.off.size;have Zq:B≤wX.heap.size:=by have:=hbX.size;omega
     have hq:=Ak M4 Zq a y Yv Yx Yw (by omega) (by omega);have hnext:Hid (∀(W:World) (v2:Value) (g2:Nat),SO B W s c t d p v2 g2 (m+1000*i+1000) (aL Mi a y).2→CS wX W c t d p v' g' v2 g2→SO B W s c t d p v2 g2 (m+1000*((i+1:Nat):Int)) (dR M (cs.take (i+1)))∧CS w W c t d p v g v2 g2∧W.heap[wK.heap.size]? =some (.cells #[.slice (some ⟨b,off,none⟩) N cap,.int .i64 (jo M (cs.take i)),us] 80 (0,0))∧
      W.heap[w.heap.size]? =some (.cells #[.slice none 0 0,.int .i64 0,.slice none 0 0] 80 (0,0))∧W.ownsRow w.heap.size 3 1 us (bZ M (cs.take i)).length ((bZ M (cs.take i)).flatMap enc1)∧W.ownsRow w.heap.size 35 2 (.slice (some ⟨b,off,none⟩) N cap) N (aN cs)∧W.heap[wr.heap.size]? =some (.cells #[.int .i64 a,.int .i64 y] 35 (0,0))):=fun W v2 g2 hs hc=>by
      refine⟨?_,(hC.out.later hbX).trans hc,qV M4 hc ((hbX.block _ (au hG.out)).trans hG.out) (by decide),qV M4 hc ((hbX.block _ (au hZ.out)).trans hZ.out) (by decide),NK M4 hc (jA hU.out hbX) (by decide),NK M4 hc (jA hR.out hbX) (by decide),qV M4 hc UG (by decide)⟩;rw[uF,show m+1000*((i+1:Nat):Int)=m+1000*i+1000 by omega];exact hs
     replace WE:=qae WE;replace hx:=qae hx;replace htk:=qae htk;replace uF:=qae uF;replace uG:=qae uG;replace hstart:=qae hstart;have Yy:Hid (Ok (dR M (cs.take (i+1)))∧(dR M (cs.take (i+1))).L.length≤190):=⟨zo _ hO,by rw[(nY (cs.take (i+1)) M).1];exact hll⟩;have E9:Hid (AV Mi (a,y)=((aL Mi a y).1&&decide ((getM (dR M (cs.take (i+1))) a).1.st=3))):=by
      show _=_;rw[uF.out];rfl
     have hGX:wK.heap.size<wr.heap.size:=au hG.out;clear hc0 hc1 hcell r1 r2 r3 hS hC hG hZ hU hR hbX UG M4 NP;generalize (aL Mi a y).1=ok at*;generalize (aL Mi a y).2=Mj at*;go_wp2_with fail;rw[←Tu];replace Tu:=qae Tu;go_at_call 31;refine hq.mono ?_;clear hq k0 k1 x0 x1;rintro e w2 ⟨v2,g2,rfl,hS2,hcs2,hb2⟩;obtain⟨S2,C2,G2,Z2,U2,R2,X2⟩:=hnext.out w2 v2 g2 hS2 hcs2;clear hS2 hcs2 hb2 hnext;cases ok with
     |false=>
      have et:jo M (cs.take (i+1))=jo M (cs.take i):=by rw[uG.out];simp
      have es:bZ M (cs.take (i+1))=bZ M (cs.take i):=by rw[hstart.out,E9.out];simp
      have G3:Hid (w2.heap[wK.heap.size]? =some (.cells #[.slice (some ⟨b,off,none⟩) N cap,.int .i64 (jo M (cs.take (i+1))),us] 80 (0,0))):=by show _=_;rw[et];exact G2
      have U3:Hid (w2.ownsRow w.heap.size 3 1 us (bZ M (cs.take (i+1))).length ((bZ M (cs.take (i+1))).flatMap enc1)):=by show World.ownsRow _ _ _ _ _ _ _;rw[es];exact U2
      replace S2:=qae S2;replace C2:=qae C2;replace Z2:=qae Z2;replace R2:=qae R2;clear et es G2 U2 X2 Yy;go_wp2_with fail;go_roundg (gk-1)
      case measure=>omega
      case rel=>exact⟨i+1,us,v2,g2,by omega,by go_num,S2,C2,G3,Z2,U3,R2⟩
     |true=>
      obtain⟨T0,hT0⟩:=qaa (jo M (cs.take i));rw[←hT0]at G2 htl;have wt:IntKind.i64.wrap ((T0:Int)+1)=(T0:Int)+1:=by rw[IntKind.wrap_i64];omega
      have et:Hid (jo M (cs.take (i+1))=T0+1):=by show _=_;rw[uG.out,hT0];simp
      replace hT0:=qae hT0;have z1:w2.cell? ⟨wK.heap.size,1,none⟩=some (.int .i64 (T0:Int)):=by simp[World.cell?,G2]
      have f1:w2.frozen? ⟨wK.heap.size,1,none⟩=false:=by simp[World.frozen?,G2]
      obtain⟨wS,DY⟩:=qaa (w2.setCell ⟨wK.heap.size,1,none⟩ (.int .i64 ((T0:Int)+1)));have hx2:=au X2;have SS:SO B wS s c t d p v2 g2 (m+1000*((i+1:Nat):Int)) (dR M (cs.take (i+1))):=by rw[DY];exact yn S2 G2 (by decide) 1 _
      have Yz:Hid (CS w wS c t d p v g v2 g2):=by show CS _ _ _ _ _ _ _ _ _ _;rw[DY];exact yo C2 (by omega) 1 _
      have GS:Hid (wS.heap[wK.heap.size]? =some (.cells #[.slice (some ⟨b,off,none⟩) N cap,.int .i64 ((T0+1:Nat):Int),us] 80 (0,0))):=by show _=_;rw[DY];exact heap_put G2 _
      have ZS:Hid (wS.heap[w.heap.size]? =some (.cells #[.slice none 0 0,.int .i64 0,.slice none 0 0] 80 (0,0))):=by show _=_;rw[DY];exact(mR w2 _ 1 _ (by omega)).trans Z2
      have US:Hid (wS.ownsRow w.heap.size 3 1 us (bZ M (cs.take i)).length ((bZ M (cs.take i)).flatMap enc1)):=by show World.ownsRow _ _ _ _ _ _ _;rw[DY];exact kH U2 G2 (by decide) 1 _
      have YA:Hid (wS.ownsRow w.heap.size 35 2 (.slice (some ⟨b,off,none⟩) N cap) N (aN cs)):=by show World.ownsRow _ _ _ _ _ _ _;rw[DY];exact kH R2 G2 (by decide) 1 _
      have XS:wS.heap[wr.heap.size]? =some (.cells #[.int .i64 a,.int .i64 y] 35 (0,0)):=by rw[DY];exact(mR w2 _ 1 _ (by omega)).trans X2
      clear S2 C2 G2 Z2 U2 R2 X2 hx2;obtain⟨Mk,UH⟩:=qaa (dR M (cs.take (i+1)));rw[←UH]at SS Yy E9;obtain⟨j,hj⟩:=qaa (bI Mk.L a);obtain⟨ej,R5⟩:=qaa (gG Mk.L a);have hkp:∀W,Below wS.heap.size wS W→W.cell? ⟨s,0,none⟩=some (.pointer (some ⟨c,0,none⟩))∧W.cell? ⟨c,0,none⟩=some (.pointer (some ⟨t,0,none⟩))∧W.cell? ⟨wr.heap.size,0,none⟩=some (.int .i64 a)∧Calls prog 41 #[.pointer (some ⟨t,0,none⟩),.int .i64 a] W fun e w'=>e=.returned (.tuple #[.agg (ah j).toArray,.int .i64 ej])∧Below W.heap.size W w':=fun W hW=>by
       have qh:=SS.kept hW;have Tv:=(hW.block _ (au XS)).trans XS;refine⟨qh.at'.c0,qh.cw.c0,by simp[World.cell?,Tv],(fO qh.cw.eU a).mono ?_⟩;rintro e w' ⟨rfl,hgr⟩;exact⟨by rw[hj,R5];rfl,hgr.below⟩
      have Vp:Below wS.heap.size wS wS.drew:=qac.drew;have Fa:Below wS.heap.size wS (wS.alloc (.cells #[.int .i64 0,.int .i64 0,.int .i64 0,.int .i64 0,.int .i64 0,.int .i64 0,.int .i64 0,.int .i64 0,.int .i64 0,.int .u64 0] 55)).drew:=(qac.alloc (qaf _) _).drew;obtain⟨q0,q1,q2,hg1⟩:=hkp _ Vp;obtain⟨p0,p1,p2,hg2⟩:=hkp _ Fa;have xG:Hid (∀W:World,Sem.run prog (storeCells ⟨W.heap.size,0,none⟩ (ah j) 0) (W.alloc (.cells #[.int .i64 0,.int .i64 0,.int .i64 0,.int .i64 0,.int .i64 0,.int .i64 0,.int .i64 0,.int .i64 0,.int .i64 0,.int .u64 0] 55))=.ok () (W.alloc (.cells (ah j).toArray 55))):=fun W=>df W W.heap.size (ah j) (ah default) 55 rfl rfl (dH j);have EC:Hid (∀W:World,Below (wS.alloc (.cells #[.int .i64 0,.int .i64 0,.int .i64 0,.int .i64 0,.int .i64 0,.int .i64 0,.int .i64 0,.int .i64 0,.int .i64 0,.int .u64 0] 55)).drew.heap.size (wS.alloc (.cells #[.int .i64 0,.int .i64 0,.int .i64 0,.int .i64 0,.int .i64 0,.int .i64 0,.int .i64 0,.int .i64 0,.int .i64 0,.int .u64 0] 55)).drew W→Sem.run prog (storeCells ⟨wS.heap.size,0,none⟩ (ah j) 0) W=.ok () (W.setRow wS.heap.size (ah j).toArray)∧(W.setRow wS.heap.size (ah j).toArray).heap[wS.heap.size]? =some (.cells (ah j).toArray 55 (0,0))∧Below wS.heap.size wS (W.setRow wS.heap.size (ah j).toArray)):=fun W hW=>by
       have hz:W.heap[wS.heap.size]? =some (.cells (ah default).toArray 55 (0,0)):=(hW.block _ (by show _<(wS.alloc _).heap.size;simp)).trans (heap_alloc_new wS _);exact⟨mr hz,setRow_heap W _ _ _ _ _ hz,TI (Fa.trans (hW.mono Fa.size)) (qaf _) _⟩
      have NQ:Hid (∀(W:World) (J:Nat),W.heap[J]? =some (.cells (ah j).toArray 55 (0,0))→W.cell? ⟨J,5,none⟩=some (.int .i64 j.st)):=fun W J hW=>dP hW 5 _ rfl;have hsz:(ah j).toArray.size=10:=rfl;have hgj:Hid (j=(getM Mk a).1):=hj.trans (M0 Mk a);have qh:=qae SS;have Tv:=qae XS;clear hkp SS XS Vp;replace Fa:=qae Fa;replace hj:=qae hj;replace R5:=qae R5;replace UH:=qae UH;replace hg1:=qae hg1;replace hg2:=qae hg2;generalize ah j=cJ at*;go_upto_region 12 with fail;rw[←DY];replace DY:=qae DY;clear z1 f1;go_cut [11,12]from 50 to 62 (fun va vb wd=>∃J,va=.pointer (some ⟨J,0,none⟩)∧Hid (wd.heap[J]? =some (.cells cJ.toArray 55 (0,0)))∧Hid (Below wS.heap.size wS wd))
      case first=>
       go_region_with (first
        |(go_at_call 41;refine hg1.out.mono ?_;rintro e wn ⟨rfl,hbn⟩;have st:=xG.out wn;have UI:=qae (heap_alloc_new wn (.cells cJ.toArray 55));have yt:=qae ((((Below.refl wS.heap.size wS).drew).trans hbn).alloc hbn.size (.cells cJ.toArray 55));clear hbn)
        |(go_at_call 41;refine hg2.out.mono ?_;rintro e wn ⟨rfl,hbn⟩;obtain⟨st,UI,yt⟩:=EC.out wn hbn;replace UI:=qae UI;replace yt:=qae yt;clear hbn))
       all_goals
        (go_wp2_with fail
         go_meet
         case rel=>exact⟨_,rfl,UI,yt⟩)
      case rest=>
       clear hg1 hg2 xG EC q0 q1 q2 p0 p1 p2 Fa;obtain⟨J,rfl,hJ,yt⟩:=hcut;obtain⟨wd,rfl⟩:∃wd:World,wd=wc:=⟨_,rfl⟩;have k5:=NQ.out wd J hJ.out;have SD:=qh.out.kept yt.out;have CD:CS w wd c t d p v g v2 g2:=Yz.out.later yt.out;have GD:=(yt.out.block _ (au GS.out)).trans GS.out;have ZD:=(yt.out.block _ (au ZS.out)).trans ZS.out;have UD:=jA US.out yt.out;have RD:=jA YA.out yt.out;have XD:=(yt.out.block _ (au Tv.out)).trans Tv.out;clear GS ZS US YA Tv Yz qh hJ NQ yt;rw[UH.out]at SD E9 hgj;have hb2:(getM (dR M (cs.take (i+1))) a).1.st=j.st:=by rw[hgj.out]
       rw[hb2]at E9;by_cases hst:j.st=3
       ·rw[hst]at k5;have es:Hid (bZ M (cs.take (i+1))=bZ M (cs.take i)++[a]):=by show _=_;rw[hstart.out,E9.out,qag hst];rfl
        have x0:wd.cell? ⟨wr.heap.size,0,none⟩=some (.int .i64 a):=by simp[World.cell?,XD]
        have g2c:wd.cell? ⟨wK.heap.size,2,none⟩=some us:=by simp[World.cell?,GD]
        obtain⟨wE,UJ⟩:=qaa (wd.alloc (.cells #[.int .i64 a] 3));have Tw:Below wd.heap.size wd wE:=by rw[UJ];exact qac.alloc (qaf _) _
        have UE:=UD.alloc (.cells #[.int .i64 a] 3);have SE:=qae (SD.kept Tw);have CE:=qae (CD.later Tw);have GE:=qae ((Tw.block _ (au GD)).trans GD);have ZE:=qae ((Tw.block _ (au ZD)).trans ZD);have RE:=qae (jA RD Tw);have hwd:=CD.off.size;have YB:=UD.lt;obtain⟨LS,WG⟩:=qaa (bZ M (cs.take i));rw[←WG]at UD UE es hsl;replace WG:=qae WG;replace hst:=qae hst;replace YB:=qae YB;clear SD CD GD ZD RD XD hb2;rw[←UJ]at UE;rw[UJ]at UE;go_wp2_with (at_builtin;go_must (refine wpList_append_own _ rfl (.tmp 67) (.tmp 70) 78 rfl w.heap.size 3 j0 (.int .i64 0) 1 8 underlying78 hj0 hy0 hy1 hy2 rfl (by decide) us LS.length (LS.flatMap enc1) rfl UE ⟨wd.heap.size,0,none⟩ 1 1 [.int .i64 a] rfl rfl ?c0 ?c1 ?c2 ?c3 ?c4 ?c5))
        case c0=>exact oC (vs:=[.int .i64 a]) rfl
        case c1=>simp[Value.oneCell']
        case c2=>unfold maxLen;omega
        case c3=>omega
        case c4=>(have hh:∀o,(wd.alloc o).heap.size=wd.heap.size+1:=fun o=>by simp);first|omega|(rw[hh];omega)
        case c5=>
         intro v6 w7 Ao vC _;rw[←UJ]at vC UE;have Tx:∀k,us.ownBlock=some k→∃cs,wE.heap[k]? =some (.cells cs 3 (0,0)):=fun k hk=>iH UE hk;have S7:=Qb SE.out vC Tx (by decide);have C7:=CE.out.grown vC (fun k hk=>(UE.lt k hk).1);have G7:=sD vC Tx GE.out (by decide);have Z7:=sD vC Tx ZE.out (by decide);have R7:=MZ vC Tx RE.out (by decide);obtain⟨SX,cap6,rfl,_⟩:=dE Ao;have g7:w7.cell? ⟨wK.heap.size,2,none⟩=some us:=by simp[World.cell?,G7]
         have f7:w7.frozen? ⟨wK.heap.size,2,none⟩=false:=by simp[World.frozen?,G7]
         obtain⟨w8,hw8⟩:=qaa (w7.setCell ⟨wK.heap.size,2,none⟩ (.slice SX (LS.length+1) cap6));have S8:Hid (SO B w8 s c t d p v2 g2 (m+1000*((i+1:Nat):Int)) (dR M (cs.take (i+1)))):=by show SO _ _ _ _ _ _ _ _ _ _ _;rw[hw8];exact yn S7 G7 (by decide) 2 _
         have C8:Hid (CS w w8 c t d p v g v2 g2):=by show CS _ _ _ _ _ _ _ _ _ _;rw[hw8];exact yo C7 (by omega) 2 _
         have G8:Hid (w8.heap[wK.heap.size]? =some (.cells #[.slice (some ⟨b,off,none⟩) N cap,.int .i64 (jo M (cs.take (i+1))),.slice SX (LS.length+1) cap6] 80 (0,0))):=by show _=_;rw[hw8,et.out];exact heap_put G7 _
         have Z8:Hid (w8.heap[w.heap.size]? =some (.cells #[.slice none 0 0,.int .i64 0,.slice none 0 0] 80 (0,0))):=by show _=_;rw[hw8];exact(mR w7 _ 2 _ (by omega)).trans Z7
         have U8:Hid (w8.ownsRow w.heap.size 3 1 (.slice SX (LS.length+1) cap6) (bZ M (cs.take (i+1))).length ((bZ M (cs.take (i+1))).flatMap enc1)):=by
          show World.ownsRow _ _ _ _ _ _ _;rw[hw8,es.out,List.length_append,List.flatMap_append];exact kH Ao G7 (by decide) 2 _
         have R8:Hid (w8.ownsRow w.heap.size 35 2 (.slice (some ⟨b,off,none⟩) N cap) N (aN cs)):=by show World.ownsRow _ _ _ _ _ _ _;rw[hw8];exact kH R7 G7 (by decide) 2 _
         clear S7 C7 G7 Z7 R7 Ao vC Tx UE SE CE GE ZE RE;go_wp2_with fail;rw[←hw8];replace hw8:=qae hw8;go_roundg (gk-1)
         case measure=>omega
         case rel=>exact⟨i+1,_,v2,g2,by omega,by go_num,S8,C8,G8,Z8,U8,R8⟩
       ·have YC:decide (j.st=3)=false:=qah hst;have es:bZ M (cs.take (i+1))=bZ M (cs.take i):=by rw[hstart.out,E9.out,YC];simp
        have G8:Hid (wd.heap[wK.heap.size]? =some (.cells #[.slice (some ⟨b,off,none⟩) N cap,.int .i64 (jo M (cs.take (i+1))),us] 80 (0,0))):=by show _=_;rw[et.out];exact GD
        have U8:Hid (wd.ownsRow w.heap.size 3 1 us (bZ M (cs.take (i+1))).length ((bZ M (cs.take (i+1))).flatMap enc1)):=by show World.ownsRow _ _ _ _ _ _ _;rw[es];exact UD
        replace SD:=qae SD;replace CD:=qae CD;replace ZD:=qae ZD;replace RD:=qae RD;clear GD UD XD es hb2;go_wp2_with fail;go_roundg (gk-1)
        case measure=>omega
        case rel=>exact⟨i+1,us,v2,g2,by omega,by go_num,SD,CD,G8,ZD,U8,RD⟩
    ·have b2:¬(i:Int)<(N:Int):=by omega
     have ei:cs.take i=cs:=List.take_of_length_le (by rw[hN.out];omega);rw[ei]at hS hG hU;have Zr:i=N:=by omega
     subst Zr;obtain⟨T0,hT0⟩:∃T0:Int,T0=jo M cs:=⟨_,rfl⟩;rw[←hT0]at hG hQ;replace hT0:=qae hT0;obtain⟨Qc,vS,rfl,_⟩:=dE hU.out;have y0:wr.cell? ⟨wK.heap.size,0,none⟩=some (.slice ao i cap):=by simp[World.cell?,hG.out]
     have y1:wr.cell? ⟨wK.heap.size,1,none⟩=some (.int .i64 T0):=by simp[World.cell?,hG.out]
     have y2:wr.cell? ⟨wK.heap.size,2,none⟩=some (.slice Qc (bZ M cs).length vS):=by simp[World.cell?,hG.out]
     have z0:wr.cell? ⟨w.heap.size,0,none⟩=some (.slice none 0 0):=by simp[World.cell?,hZ.out]
     have z1:wr.cell? ⟨w.heap.size,1,none⟩=some (.int .i64 0):=by simp[World.cell?,hZ.out]
     have z2:wr.cell? ⟨w.heap.size,2,none⟩=some (.slice none 0 0):=by simp[World.cell?,hZ.out]
     have f0:wr.frozen? ⟨w.heap.size,0,none⟩=false:=by simp[World.frozen?,hZ.out]
     have f1:wr.frozen? ⟨w.heap.size,1,none⟩=false:=by simp[World.frozen?,hZ.out]
     have f2:wr.frozen? ⟨w.heap.size,2,none⟩=false:=by simp[World.frozen?,hZ.out]
     have a1:=heap_put (i:=0) hZ.out (.slice ao i cap);have a2:=heap_put (i:=1) a1 (.int .i64 T0);have a3:=heap_put (i:=2) a2 (.slice Qc (bZ M cs).length vS);have GG:(((wr.setCell ⟨w.heap.size,0,none⟩ (.slice ao i cap)).setCell ⟨w.heap.size,1,none⟩ (.int .i64 T0)).setCell ⟨w.heap.size,2,none⟩ (.slice Qc (bZ M cs).length vS)).heap[w.heap.size]? =some (.cells #[.slice ao i cap,.int .i64 T0,.slice Qc (bZ M cs).length vS] 80 (0,0)):=a3;have hK:=qae (hQ.out (((wr.setCell ⟨w.heap.size,0,none⟩ (.slice ao i cap)).setCell ⟨w.heap.size,1,none⟩ (.int .i64 T0)).setCell ⟨w.heap.size,2,none⟩ (.slice Qc (bZ M cs).length vS)) _ v' g'
      (yn (yn (yn hS.out hZ.out (by decide) 0 _) a1 (by decide) 1 _) a2 (by decide) 2 _) (yo (yo (yo hC.out (qaf _) 0 _) (qaf _) 1 _) (qaf _) 2 _)
      (kH (kH (kH hR.out hZ.out (by decide) 0 _) a1 (by decide) 1 _) a2 (by decide) 2 _) (kH (kH (kH hU.out hZ.out (by decide) 0 _) a1 (by decide) 1 _) a2 (by decide) 2 _))
     clear a1 a2 a3 hS hC hG hZ hU hR hQ;go_wp2_with fail;exact bodyPost_ret (E8 rfl rfl GG) rfl hK.out
end
theorem Df {f:Int→Int}(x:It)(t:Int)(hp:x.pl= -1)(hw:1≤x.wd∧x.wd≤64)(hl:1≤x.lim∧x.lim≤1048576)(ht:0≤t∧t≤1099511627776)(hg:∀u,t≤u→u<t+x.lim→x.wd≤f u∧f u≤64)(hn:∀u,0≤u→u<t→∃y,u≤y∧y<u+x.lim∧f y<x.wd):
 nL 0 x f (fun u=>f u+had t (t+x.lim) (-x.wd) u) [(x.id,t)]:=by
 refine⟨f,0,.inl ⟨hp,rfl,rfl⟩,.inr ⟨rfl,t,0,.inl ⟨rfl,ht.1,ht.2,fun u h1 h2=>(hg u h1 h2).1,fun u h1 h2 h3=>?_⟩,.inl ⟨⟨rfl,.inl hp⟩,rfl,0,1,.inr (.inr (.inr ⟨by omega,by omega,fun u h1 h2=>?_,rfl,?_,rfl⟩))⟩⟩⟩
 ·obtain⟨y,h4,h5,h6⟩:=hn u h1 h2;have:=h3 y h4 h5;omega
 ·have:=hg u (by omega) h2;omega
 ·rw[show max t 0=t by omega]
theorem UK :∃f',dB 0 [⟨1,3,10,-1⟩,⟨2,3,10,-1⟩,⟨3,1,10,-1⟩] (fun _=>4) f' [(1,0),(2,10),(3,0)]:=by
 have h1:=Df (f:=fun _=>4) ⟨1,3,10,-1⟩ 0 rfl (by decide) (by decide) (by omega) (fun u _ _=>by dsimp only;omega) (fun u h1 h2=>by omega);dsimp only at h1;have h2:=Df (f:=fun u=>4+had 0 (0+10) (-3) u) ⟨2,3,10,-1⟩ 10 rfl (by decide) (by decide) (by omega) (fun u h1 h2=>by dsimp only at h2⊢;unfold had;rw[qai (by omega)];omega) (fun u h1 h2=>⟨u,by omega,by dsimp only;omega,by dsimp only;unfold had;rw[qaj (by omega)];omega⟩);dsimp only at h2;have h3:=Df (f:=fun u=>4+had 0 (0+10) (-3) u+had 10 (10+10) (-3) u) ⟨3,1,10,-1⟩ 0 rfl (by decide) (by decide) (by omega) (fun u h1 h2=>by dsimp only at h2⊢;unfold had;rw[qaj (by omega),qai (by omega)];omega) (fun u h1 h2=>by omega);exact⟨_,_,[(1,0)],[(2,10),(3,0)],h1,⟨_,[(2,10)],[(3,0)],h2,⟨_,[(3,0)],[],h3,⟨rfl,rfl⟩,rfl⟩,rfl⟩,rfl⟩
section
variable {M : Md}
theorem M5 (h:∀j∈M.L,aj j=false∧j.st≠3)(hd:∀k,M.dr.getD k false=false)(t:Int):ax M t 0=M.dr.length:=by
 unfold ax aM bT;have h1:(List.range M.dr.length).countP (bP M t)=M.dr.length:=by
  have:(List.range M.dr.length).countP (bP M t)=(List.range M.dr.length).length:=by
   rw[List.countP_eq_length];intro k _;have h2:holderL M.L k<0:=je.2 fun j hj=>by
    unfold aI;rw[qah (h j hj).2,Bool.false_and]
   unfold bP;rw[hd k,qag h2];rfl
  rw[this,List.length_range]
 have h2:M.L.filter (jH t 0)=[]:=List.filter_eq_nil_iff.2 fun j hj=>by
  unfold jH;rw[(h j hj).1];simp
 rw[h1,h2];simp
end
def Ty (i:Nat):Int:=if i=2 then 1 else 3
def Tz (i:Nat):Rq:=⟨1,0,0,Ty i,10,0,false,0,0⟩
def mP :Nat→Md
 |0=>eQ 4
 |i+1=>(fH (mP i) (toW (Tz i))).2
theorem GY :∀i,Ok (mP i)
 |0=>Ok.new (by decide)
 |i+1=>(GY i).H6 _
def AP :List (Int×Int):=[(1,0),(2,10),(3,0)]
theorem GZ (i:Nat)(h:i≤3):(mP i).L.length=i∧(mP i).dr.length=4:=by
 have:i=0∨i=1∨i=2∨i=3:=by omega
 rcases this with rfl|rfl|rfl|rfl<;>decide
theorem UL :(mP 3).now=0:=by decide
theorem Qd :kN (mP 3) (mP 3).L:=⟨by rw[show(mP 3).L.filter (fun j=>decide (j.state=1))=(mP 3).L by decide],by decide⟩
theorem Qe :(mP 3).L.map AB=[⟨1,3,10,-1⟩,⟨2,3,10,-1⟩,⟨3,1,10,-1⟩]:=by
 have h:(mP 3).L=[(1,0,3,10,0,1,-1,-1,-1,0),(2,0,3,10,0,1,-1,-1,-1,0),(3,0,1,10,0,1,-1,-1,-1,0)]:=by decide
 rw[h];rfl
theorem TA (t:Int):ax (mP 3) t 0=4:=by
 have h:=M5 (M:=mP 3) (by decide) (fun k=>by
  have hd:(mP 3).dr=[false,false,false,false]:=by decide
  rw[hd]
  match k with
  |0=>rfl
  |1=>rfl
  |2=>rfl
  |3=>rfl
  |n+4=>rfl) t
 rw[h,(GZ 3 (qaf _)).2];rfl
theorem TB {f':Int→Int}{c:List (Int×Int)}(h:dB (mP 3).now (((mP 3).L.map AB).take (9:Int).toNat) (fun t=>ax (mP 3) t 0) f' c):c=AP:=by
 obtain⟨f2,h2⟩:=UK;rw[UL,Qe]at h;exact(dB.uniq _ h h2 fun t _=>TA t).1
theorem UM :jo (mP 3) AP=3∧bZ (mP 3) AP=[1,3]∧gG (dR (mP 3) AP).L 2=0∧(bI (dR (mP 3) AP).L 2).aJ=10∧(dR (mP 3) AP).L.length=3:=by decide
theorem Dh (w:World):Calls prog 36 #[] w fun e w'=>e=.returned (.bool true)∧Below w.heap.size w w':=by
 have hn:=Ki 4 w (by decide) (by decide);go_enter func36,ntmps36;go_wp2_with fail;go_at_call 29;refine hn.mono ?_;clear hn;rintro e w1 ⟨s,c,t,d,p,v,g,rfl,h1,hb1⟩;obtain⟨wA,aK⟩:=qaa (w1.alloc (.cells #[.int .i64 3,.int .i64 3,.int .i64 1] 3));have bS:Below w1.heap.size w1 wA:=by rw[aK];exact qac.alloc (qaf _) _
 have qQ:Hid (wA.heap[w1.heap.size]? =some (.cells #[.int .i64 3,.int .i64 3,.int .i64 1] 3 (0,0))):=by show _=_;rw[aK];exact heap_alloc_new w1 _
 have DR:Hid (SO w.heap.size wA s c t d p v g (1000*((0:Nat):Int)) (mP 0)):=by show SO _ _ _ _ _ _ _ _ _ _ _;exact h1.kept bS
 have Vq:Hid (Below w.heap.size w wA):=hb1.trans (bS.mono hb1.size);clear h1 hb1 bS;go_wp2_with fail;rw[←aK];replace aK:=qae aK;go_loopw [4] (fun ii wr=>∃(i:Nat) (v:Value) (g:Nat),i≤3∧ii=.int .i64 i∧Hid (SO w.heap.size wr s c t d p v g (1000*(i:Int)) (mP i))∧Hid (wr.heap[w1.heap.size]? =some (.cells #[.int .i64 3,.int .i64 3,.int .i64 1] 3 (0,0)))∧Hid (Below w.heap.size w wr)) (fun ii _=>3-(intOf ii).toNat)
 case atStart=>exact⟨0,v,g,by omega,rfl,DR,qQ,Vq⟩
 case round=>
  clear DR qQ Vq;obtain⟨i,v,g,hin,rfl,hS,hz,hbr⟩:=hrel;by_cases hlt:i<3
  ·have b2:(i:Int)<3:=by omega
   have b1:(0:Int)≤i:=by omega
   have wi:IntKind.i64.wrap ((i:Int)+1)=(i:Int)+1:=by rw[IntKind.wrap_i64];omega
   have k0:wr.cell? ⟨w1.heap.size,i,none⟩=some (.int .i64 (Ty i)):=by
    have:i=0∨i=1∨i=2:=by omega
    rcases this with rfl|rfl|rfl<;>simp[World.cell?,hz.out,Ty]
   have hq:=NI hS.out hbr.out.size (Tz i) (GY i) (by rw[(GZ i hin).2];decide) (by rw[(GZ i hin).1];omega) (by omega) (show-9223372036854775808≤(0:Int)∧(0:Int)≤9223372036854775807 by decide);rw[show(fH (mP i) (toW (Tz i))).2=mP (i+1)from rfl,show(encR (Tz i)).toArray= #[.int .i64 1,.int .i64 0,.int .i64 0,.int .i64 (Ty i),.int .i64 10,.int .i64 0,.bool false,.int .i64 0,.int .i64 0]from rfl]at hq;have hfr:Hid (∀W v' g',CS wr W c t d p v g v' g'→W.heap[w1.heap.size]? =some (.cells #[.int .i64 3,.int .i64 3,.int .i64 1] 3 (0,0))):=fun W v' g' hc=>qV hS.out hc hz.out (by decide);generalize Ty i=wd at*;generalize (bW (lV (CZ (mP i) (toW (Tz i))).1)).toArray=ry at*;replace hq:=qae hq;clear hS hz;go_wp2_with fail;go_at_call 34;refine hq.out.mono ?_;clear hq k0;rintro e w3 ⟨v3,g3,rfl,yj,hc3,hb3⟩;have hz3:=qae (hfr.out w3 v3 g3 hc3);have Kl:=qae (hbr.out.trans hb3);have nX:=qae (yj.wider (show 1000*(i:Int)+1000≤1000*((i+1:Nat):Int)by omega));clear yj hb3 hc3 hfr;go_wp2_with fail;go_roundw
   case rel=>exact⟨i+1,v3,g3,by omega,by go_num,nX,hz3,Kl⟩
   case measure=>simp[intOf];omega
  ·have b2:¬(i:Int)<3:=by omega
   have hi:i=3:=by omega
   subst hi;have hrun:=NL hS.out hbr.out.size (GY 3) (by decide) (by decide) (by decide) 9;clear hz;go_wp2_with fail;go_at_call 40;refine hrun.mono ?_;clear hrun;rintro e w3 (⟨h2,_⟩|⟨_,r,cs,f',uc,us,v3,g3,hW,hpl,rfl,qh,hc3,Cu,YD⟩)
   ·omega
   ·obtain rfl:r=(mP 3).L:=hW.uniq (GY 3).inv Qd;obtain rfl:cs=AP:=TB hpl;have hb3:Hid (Below w.heap.size w w3):=hbr.out.trans (hc3.below hS.out.lo hbr.out.size);rw[UM.1,UM.2.1]at*;have hrow:=aC.fA (l:=[1,3]) (enc:=enc1) YD (fun _=>rfl) rfl rfl;obtain⟨YE,Vr,rfl,_⟩:=dE Cu;obtain⟨Qc,vS,rfl,q1,q2,q3⟩:=hrow;obtain⟨GU,off,rfl,hgl,hcell⟩:=q3 (by simp);have u1:w3.cell? ⟨GU,off+1,none⟩=some (.int .i64 3):=hcell 1 3 0 _ rfl rfl;have hcm:vS≤9223372036854775807:=by unfold maxLen at q2;omega
    obtain⟨wT,hwT⟩:=qaa (w3.alloc (.cells #[.slice YE AP.length Vr,.int .i64 3,.slice (some ⟨GU,off,none⟩) 2 vS] 80));have TC:Below w3.heap.size w3 wT:=by rw[hwT];exact qac.alloc (qaf _) _
    have WH:wT.heap[w3.heap.size]? =some (.cells #[.slice YE AP.length Vr,.int .i64 3,.slice (some ⟨GU,off,none⟩) 2 vS] 80 (0,0)):=by rw[hwT];exact heap_alloc_new w3 _
    have hST:=qh.kept TC;have hg:=fO hST.cw.eU 2;rw[show(ai (dR (mP 3) AP)).J=(dR (mP 3) AP).L from rfl]at hg;unfold iC at hg;rw[UM.2.2.1]at hg;have hj:=UM.2.2.2.1;obtain⟨j,hjd⟩:=qaa (bI (dR (mP 3) AP).L 2);rw[←hjd]at hg hj;clear hjd;obtain⟨j1,j2,j3,j4,j5,j6,j7,j8,j9,j0⟩:=j;obtain rfl:j9=10:=hj;rw[show(ah (j1,j2,j3,j4,j5,j6,j7,j8,(10:Int),j0)).toArray= #[.int .i64 j1,.int .i64 j2,.int .i64 j3,.int .i64 j4,.int .i64 j5,.int .i64 j6,.int .i64 j7,.int .i64 j8,.int .i64 10,.int .u64 j0]from rfl]at hg;have q0:=hST.at'.c0;have YF:=hST.cw.c0;have hfr:Hid (∀W,Below wT.heap.size wT W→W.cell? ⟨w3.heap.size,1,none⟩=some (.int .i64 3)∧W.cell? ⟨w3.heap.size,2,none⟩=some (.slice (some ⟨GU,off,none⟩) 2 vS)∧W.cell? ⟨GU,off+1,none⟩=some (.int .i64 3)):=fun W hW=>by
     have hz:=(hW.block _ (au WH)).trans WH;have h4:Below w3.heap.size w3 W:=TC.trans (hW.mono TC.size);exact⟨by simp[World.cell?,hz],by simp[World.cell?,hz],(h4.cell (p:=⟨GU,off+1,none⟩) hgl).trans u1⟩
    have Vs:Hid (Below w.heap.size w wT):=hb3.out.trans (TC.mono hb3.out.size);clear hW hpl hc3 Cu hS hbr hcell q1 q2 q3 YD qh hST TC WH u1;rw[hwT]at q0 YF hg;go_wp2_with fail;go_at_call 41;refine hg.mono ?_;clear hg q0 YF;rw[←hwT];rintro e w5 ⟨rfl,hg5⟩;have hb5:=hg5.below;obtain⟨w6,rH⟩:=qaa (w5.alloc (.cells #[.int .i64 j1,.int .i64 j2,.int .i64 j3,.int .i64 j4,.int .i64 j5,.int .i64 j6,.int .i64 j7,.int .i64 j8,.int .i64 10,.int .u64 j0] 55));have hb6:Below wT.heap.size wT w6:=by rw[rH];exact hb5.alloc hb5.size _
    obtain⟨a1,a2,a3⟩:=hfr.out w6 hb6;have hfin:Hid (Below w.heap.size w w6):=Vs.out.trans (hb6.mono Vs.out.size);have YG:w6.heap[w5.heap.size]? =some (.cells #[.int .i64 j1,.int .i64 j2,.int .i64 j3,.int .i64 j4,.int .i64 j5,.int .i64 j6,.int .i64 j7,.int .i64 j8,.int .i64 10,.int .u64 j0] 55 (0,0)):=by rw[rH];exact heap_alloc_new w5 _
    have a8:w6.cell? ⟨w5.heap.size,8,none⟩=some (.int .i64 10):=by simp[World.cell?,YG]
    clear hb5 hb6 hg5 YG;rw[rH]at a1 a2 a3 a8;go_wp2_with fail;go_ret;rw[←rH];exact⟨rfl,hfin.out⟩
def yu (B:Nat)(w:World)(P:World→Prop):Prop:=∀w':World,(∀k,B≤k→k<w.heap.size→w'.heap[k]? =w.heap[k]?)→w.heap.size≤w'.heap.size→P w'
section
variable {B : Nat} {w w' : World} {P : World → Prop}
theorem yu.now (h:yu B w P):P w:=h w (fun _ _ _=>rfl) (qaf _)
theorem yu.off (h:yu B w P)(hk:∀k,B≤k→k<w.heap.size→w'.heap[k]? =w.heap[k]?)(hs:w.heap.size≤w'.heap.size):yu B w' P:=fun W h1 h2=>
 h W (fun k a b=>(h1 k a (Nat.lt_of_lt_of_le b hs)).trans (hk k a b)) (Nat.le_trans hs h2)
theorem yu.cs {c t d p g g':Nat}{v v':Value}(h:yu B w P)(hcs:CS w w' c t d p v g v' g')(hf:∀k,dY c t d p v g k→k<B):yu B w' P:=
 h.off (fun k hB hk=>hcs.heap hk fun hf'=>absurd (hf k hf') (Nat.not_lt.2 hB)) hcs.off.size
theorem Km {c t d p g a:Nat}{v:Value}{m:Int}{M:Md}(h:CW w c t d p v g a m (ai M))(hll:M.L.length≤900):Calls prog 44 #[.pointer (some ⟨t,0,none⟩)] w fun e w'=>∃u,e=.returned u∧yu w.heap.size w' (fun W=>aC ah 10 W u M.L)∧Below w.heap.size w w':=by
 refine(TY h.eU (by show M.L.length≤1000;omega)).mono ?_;rintro e w' ⟨u,rfl,h1,h2⟩;exact⟨u,rfl,fun W hW _=>aC.fA (qy h1 fun k hk=>hW k (h1.lt k hk).1 (h1.lt k hk).2) ay rfl rfl,h2⟩
end
section
end
section
variable {w : World} {B s c t d p g : Nat} {v : Value} {m : Int} {M : Md}
def YH (B:Nat)(w:World)(s c t d p:Nat)(v:Value)(g:Nat)(m:Int)(M:Md)(e:Ending)(w':World):Prop:=
 ∃(r:Value) (cs:List (Int×Int)) (v':Value) (g':Nat),e=.returned r∧SO B w' s c t d p v' g' (m+64000) (dR M cs)∧CS w w' c t d p v g v' g'
theorem UN (h:SO B w s c t d p v g m M)(hB:B≤w.heap.size)(hO:Ok M)(h1:1≤M.dr.length)(hll:M.L.length≤190)(hm:m≤800000)(depth:Int):
 Calls prog 40 #[.pointer (some ⟨s,0,none⟩),.int .i64 depth] w (YH B w s c t d p v g m M):=by
 refine(NL h hB hO h1 hll hm depth).mono ?_;rintro e w' (⟨_,rfl,hb⟩|⟨hd,r,cs,f',uc,us,v',g',hW,hpl,rfl,hS,hc,_,_⟩)
 ·exact⟨_,[],v,g,rfl,(h.kept hb).wider (by omega),CS.of_below hb⟩
 ·have hl:=dB.len _ hpl;rw[List.length_take]at hl;exact⟨_,cs,v',g',rfl,hS.wider (by omega),hc⟩
end
section
variable {w : World} {u : Value} {l : List De}
theorem DZ (h:aC si 12 w u l)(hfit:∀x∈l,zw x)(n depth:Int):Calls prog 7 #[.int .i64 n,u,.int .i64 depth] w fun e w'=>e=.returned (.bool true)∧Below w.heap.size w w':=by
 by_cases hn:n<1∨64<n
 ·have hm:=P6 h n hn;have haw:=Dh w;go_enter func7,ntmps7;go_wp2_with fail;go_at_call 35;refine hm.mono ?_;clear hm;rintro e w2 ⟨rfl,rfl⟩;go_wp2_with fail;go_at_call 36;refine haw.mono ?_;clear haw;rintro e w2 ⟨rfl,hb2⟩;go_wp2_with fail;go_ret;exact⟨rfl,hb2⟩
 obtain⟨N,rfl⟩:=Int.eq_ofNat_of_zero_le (show 0≤n by omega);have hm:=Te h hfit N (by omega) (by omega);obtain⟨M,hM⟩:=qaa (mQ (eQ N) (l.take 60));have hpl:=EX (Ok.new (show N≤64 by omega)) (l.take 60);rw[←hM]at hm hpl;have hdr:M.dr.length=N:=by rw[hpl.2.2];simp[eQ]
 have hd1:1≤M.dr.length:=by omega
 have hLl:M.L.length≤60:=by
  have h1:=hpl.2.1;have h2:(eQ N).L.length=0:=rfl;have h3:(l.take 60).length≤60:=by rw[List.length_take];omega
  omega
 have hok:=hpl.1;replace hM:=qae hM;clear hpl hdr hfit h;replace hn:=qae hn;go_enter func7,ntmps7;go_wp2_with fail;go_at_call 35;refine hm.mono ?_;clear hm;rintro e w1 ⟨s,c,t,d,p,v,g,rfl,S1,hb1⟩;have hf1:∀k,dY c t d p v g k→k<w1.heap.size:=fun k=>S1.cw.lt;replace hf1:=qae hf1;have q0:=S1.at'.c0;have q1:=S1.cw.c0;have h1:=Km S1.cw (by omega);go_wp2_with fail;go_at_call 44;refine h1.mono ?_;clear h1 q0 q1;rintro e w2 ⟨uJ,rfl,hJ2,hb2⟩;have S2:=S1.kept hb2;have uD:Hid (Below w.heap.size w w2):=hb1.trans (hb2.mono hb1.size);have hrun:=UN S2 uD.out.size hok hd1 (by omega) (by decide) depth;replace S2:=qae S2;clear hb1 hb2 S1;go_wp2_with fail;go_at_call 40;refine hrun.mono ?_;clear hrun;rintro e w3 ⟨rv,cs,v3,g3,rfl,S3,hc3⟩;have TD:Hid (Below w.heap.size w w3):=uD.out.trans (hc3.below S2.out.lo uD.out.size);have hJ3:=qae (hJ2.cs hc3 hf1.out).now;have hso:Hid (∀q,sw M.now (M.L.getD q default) ((dR M cs).L.getD q default)):=fun q=>vQ q cs hok;have hsh:=nY cs M;obtain⟨M2,hM2⟩:=qaa (dR M cs);rw[←hM2]at S3 hso hsh;replace hM2:=qae hM2;have hL2:M2.L.length=M.L.length:=hsh.1;have Zt:Hid (M2.now=M.now):=hsh.2.2.1;have q0:=S3.at'.c0;have q1:=S3.cw.c0;have h1:=Km S3.cw (by omega);replace S3:=qae S3;clear hJ2 hc3 S2 hsh;go_wp2_with fail;go_at_call 44;refine h1.mono ?_;clear h1 q0 q1;rintro e w4 ⟨uK,rfl,hK4,hb4⟩;have S4:=qae (S3.out.kept hb4);have Lu:=qae (hJ3.out.below hb4);replace hK4:=qae hK4.now;have Vt:Hid (Below w.heap.size w w4):=TD.out.trans (hb4.mono TD.out.size);clear hb4 TD hJ3 S3;obtain⟨aoJ,cJ,rfl,j1,j2,_⟩:=Lu.out;obtain⟨aoK,cK,rfl,k1,k2,_⟩:=hK4.out;have hcJ:cJ≤9223372036854775807:=by unfold maxLen at j2;omega
 have hcK:cK≤9223372036854775807:=by unfold maxLen at k2;omega
 rw[hL2]at k1⊢;replace hL2:=qae hL2;go_wp2_with fail;go_loopg [10] (M.L.length) (fun k ii wr=>∃(i:Nat),i+k=M.L.length∧ii=.int .i64 i∧Hid (Below w4.heap.size w4 wr))
 case atStart=>exact⟨0,Nat.zero_add _,rfl,Below.refl _ _⟩
 case round=>
  obtain⟨i,hin,rfl,hbr⟩:=hrel;by_cases hlt:i<M.L.length
  ·have b2:(i:Int)<(M.L.length:Int):=by omega
   have wi:IntKind.i64.wrap ((i:Int)+1)=(i:Int)+1:=by rw[IntKind.wrap_i64];omega
   have YI:=Lu.out.below hbr.out;have hKr:=hK4.out.below hbr.out;obtain⟨bJ,oJ,cJ',eJ,_,_,yt,LJ⟩:=YI.Kq i hlt;obtain⟨bK,oK,cK',eK,_,_,hbK,LK⟩:=hKr.Kq i (by have:=hL2.out;omega);injection eJ with Wz _ WA;injection eK with Zu _ Zv;subst Wz WA Zu Zv;have JA:=hso.out i;have hSr:=qae (S4.out.kept hbr.out);generalize M.L.getD i default=x at*;generalize M2.L.getD i default=y at*;replace JA:=qae JA;clear YI hKr;go_upto_region 12 with fail;go_cut [11,12]from 49 to 56 (fun va vb wc=>∃ra rb,va=.pointer (some ⟨ra,0,none⟩)∧vb=.pointer (some ⟨rb,0,none⟩)∧Hid (wc.heap[ra]? =some (.cells (ah x).toArray 55 (0,0)))∧Hid (wc.heap[rb]? =some (.cells (ah y).toArray 55 (0,0)))∧Hid (Below wr.heap.size wr wc))
   case first=>
    clear JA;obtain⟨x1,x2,x3,x4,x5,x6,x7,x8,x9,x0⟩:=x;obtain⟨y1,y2,y3,y4,y5,y6,y7,y8,y9,y0⟩:=y;have a0:=LJ 0 _ rfl;have a1:=LJ 1 _ rfl;have a2:=LJ 2 _ rfl;have a3:=LJ 3 _ rfl;have a4:=LJ 4 _ rfl;have a5:=LJ 5 _ rfl;have a6:=LJ 6 _ rfl;have a7:=LJ 7 _ rfl;have a8:=LJ 8 _ rfl;have a9:=LJ 9 _ rfl;have e0:=LK 0 _ rfl;have e1:=LK 1 _ rfl;have e2:=LK 2 _ rfl;have e3:=LK 3 _ rfl;have e4:=LK 4 _ rfl;have e5:=LK 5 _ rfl;have e6:=LK 6 _ rfl;have e7:=LK 7 _ rfl;have e8:=LK 8 _ rfl;have e9:=LK 9 _ rfl;rw[Nat.add_zero]at a0 e0;clear LJ LK;go_region
    all_goals
     (go_wp2_with fail
      go_meet
      case rel=>
       first
       |exact⟨_,_,rfl,rfl,dL (heap_alloc_new wr _),heap_alloc2_new wr _ _,(((Below.refl wr.heap.size wr).alloc (qaf _) _).alloc (by simp) _).drew⟩
       |exact⟨_,_,rfl,rfl,heap_alloc2_new wr _ _,dL (heap_alloc_new wr _),(((Below.refl wr.heap.size wr).alloc (qaf _) _).alloc (by simp) _).drew⟩)
   case rest=>
    clear LJ LK;obtain⟨ra,rb,rfl,rfl,hra,hrb,hbc⟩:=hcut;obtain⟨wq,rfl⟩:∃wq:World,wq=wc:=⟨_,rfl⟩;have hbq:Hid (Below w4.heap.size w4 wq):=hbr.out.trans (hbc.out.mono hbr.out.size);have WI:=hSr.out.kept hbc.out;have jx:=fun j u hj=>dP hra.out j u hj;have jy:=fun j u hj=>dP hrb.out j u hj;have a5:wq.cell? ⟨ra,5,none⟩=some (.int .i64 x.st):=jx 5 _ rfl;have a8:wq.cell? ⟨ra,8,none⟩=some (.int .i64 x.aJ):=jx 8 _ rfl;have e5:wq.cell? ⟨rb,5,none⟩=some (.int .i64 y.st):=jy 5 _ rfl;have e6:wq.drew.cell? ⟨rb,6,none⟩=some (.int .i64 y.iO):=jy 6 _ rfl;have UO:wq.drew.cell? ⟨rb,5,none⟩=some (.int .i64 y.st):=jy 5 _ rfl;have e8:wq.drew.cell? ⟨rb,8,none⟩=some (.int .i64 y.aJ):=jy 8 _ rfl;by_cases hx1:x.st=1
    ·rw[hx1]at a5;have hSd:=WI.kept (qac.drew);have q0:=hSd.at'.c0;have q1:=hSd.cw.c2;have hnw:=gq hSd.cw;rw[show(ai M2).now=M2.now from rfl,Zt.out]at hnw;replace hnw:=qae hnw;have hor:y.st=3∧y.iO=M.now∨y.st=1∧(x.aJ<0∨0≤y.aJ∧y.aJ≤x.aJ):=by
      rcases JA.out with rfl|⟨_,h2|⟨h2,h3,h4⟩⟩
      ·exact .inr ⟨hx1,by omega⟩
      ·exact .inl h2
      ·exact .inr ⟨h2,by omega⟩
     have hk:Hid (∀W,Below wq.heap.size wq W→W.cell? ⟨ra,8,none⟩=some (.int .i64 x.aJ)∧W.cell? ⟨rb,5,none⟩=some (.int .i64 y.st)∧W.cell? ⟨rb,8,none⟩=some (.int .i64 y.aJ)):=fun W hb=>
      ⟨dP ((hb.block _ (au hra.out)).trans hra.out) 8 _ rfl,dP ((hb.block _ (au hrb.out)).trans hrb.out) 5 _ rfl,dP ((hb.block _ (au hrb.out)).trans hrb.out) 8 _ rfl⟩
     clear hSd WI jx jy hx1 JA a8 e5 e8;rcases hor with⟨h3,h4⟩|⟨h3,h4⟩
     ·rw[h3]at UO;rw[h4]at e6;replace h3:=qae h3;replace h4:=qae h4;go_upto_region 16 with fail;go_cut [78]from 63 to 78 (fun vb wd=>vb=.bool true∧Hid (Below wq.heap.size wq wd))
      case first=>
       go_region_with (go_at_call 45;refine hnw.out.mono ?_;rintro e w' ⟨rfl,rfl⟩)
       all_goals
        (go_wp2_with fail
         go_meet
         case rel=>exact⟨rfl,qac.drew⟩)
      case rest=>
       obtain⟨rfl,hbd⟩:=hcut;have qg:Hid (Below w4.heap.size w4 wc):=hbq.out.trans (hbd.out.mono hbq.out.size);go_wp2_with fail;go_roundg (gk-1)
       case measure=>omega
       case rel=>exact⟨i+1,by omega,by go_num,qg⟩
     ·rw[h3]at UO;replace h4:=qae h4;go_upto_region 16 with fail;go_cut [78]from 63 to 78 (fun vb wd=>vb=.bool false∧Hid (Below wq.heap.size wq wd))
      case first=>
       go_region
       all_goals
        (go_wp2_with fail
         go_meet
         case rel=>exact⟨rfl,qac.drew⟩)
      case rest=>
       obtain⟨rfl,hbd⟩:=hcut;have qg:Hid (Below w4.heap.size w4 wc):=hbq.out.trans (hbd.out.mono hbq.out.size);obtain⟨a8,e5,e8⟩:=hk.out wc hbd.out;rw[h3]at e5;clear q0 q1 e6 UO a5 hk hnw;by_cases hp:0≤x.aJ
       ·have hy:=h4.out;have d0:¬y.aJ<0:=by omega
        have d1:¬x.aJ<y.aJ:=by omega
        generalize x.aJ=px at*;generalize y.aJ=py at*;go_wp2_with fail;go_roundg (gk-1)
        case measure=>omega
        case rel=>exact⟨i+1,by omega,by go_num,qg⟩
       ·generalize x.aJ=px at*;generalize y.aJ=py at*;go_wp2_with fail;go_roundg (gk-1)
        case measure=>omega
        case rel=>exact⟨i+1,by omega,by go_num,qg⟩
    ·have hyx:y=x:=by
      rcases JA.out with h2|⟨h2,_⟩
      ·exact h2
      ·exact absurd h2 hx1
     subst hyx;clear JA WI e6 UO e8 a8 e5;obtain⟨x1,x2,x3,x4,x5,x6,x7,x8,x9,x0⟩:=y;have a5:wq.cell? ⟨ra,5,none⟩=some (.int .i64 x6):=a5;have hx1:¬x6=1:=hx1;have b0_:=jx 0 _ rfl;have b1_:=jx 1 _ rfl;have b2_:=jx 2 _ rfl;have b3_:=jx 3 _ rfl;have b4_:=jx 4 _ rfl;have b6_:=jx 6 _ rfl;have b7_:=jx 7 _ rfl;have b8_:=jx 8 _ rfl;have b9_:=jx 9 _ rfl;have c0_:=jy 0 _ rfl;have c1_:=jy 1 _ rfl;have c2_:=jy 2 _ rfl;have c3_:=jy 3 _ rfl;have c4_:=jy 4 _ rfl;have c5_:=jy 5 _ rfl;have c6_:=jy 6 _ rfl;have c7_:=jy 7 _ rfl;have c8_:=jy 8 _ rfl;have c9_:=jy 9 _ rfl;clear jx jy;have en:∀W,Sem.run prog (binOp .neq 55 (.agg #[.int .i64 x1,.int .i64 x2,.int .i64 x3,.int .i64 x4,.int .i64 x5,.int .i64 x6,.int .i64 x7,.int .i64 x8,.int .i64 x9,.int .u64 x0]) (.agg #[.int .i64 x1,.int .i64 x2,.int .i64 x3,.int .i64 x4,.int .i64 x5,.int .i64 x6,.int .i64 x7,.int .i64 x8,.int .i64 x9,.int .u64 x0])) W=.ok (.bool false) W:=fun W=>by
      have e:=Qg (x1,x2,x3,x4,x5,x6,x7,x8,x9,x0) (x1,x2,x3,x4,x5,x6,x7,x8,x9,x0) W;rw[qag rfl]at e;exact e
     go_wp2_with fail;go_roundg (gk-1)
     case measure=>omega
     case rel=>exact⟨i+1,by omega,by go_num,hbq⟩
  ·have b2:¬(i:Int)<(M.L.length:Int):=by omega
   have haw:=Dh wr;go_wp2_with fail;go_at_call 36;refine haw.mono ?_;clear haw;rintro e w5 ⟨rfl,hb5⟩;have hfin:Hid (Below w.heap.size w w5):=Vt.out.trans (hbr.out.trans (hb5.mono hbr.out.size) |>.mono Vt.out.size);clear hb5;go_wp2_with fail;go_ret;exact⟨rfl,hfin.out⟩
theorem G5 (n:Int)(u:Value)(l:List De)(depth:Int)(w:World)(_: -9223372036854775808≤n∧n≤9223372036854775807)(h:aC si 12 w u l)(hf:∀x∈l,zw x)(_: -9223372036854775808≤depth∧depth≤9223372036854775807):Calls prog 7 #[.int .i64 n,u,.int .i64 depth] w fun e w'=>e=.returned (.bool true)∧Below w.heap.size w w':=DZ h hf n depth
end
end Go.Proofs.YtaimcpmcndapcaaGreat
