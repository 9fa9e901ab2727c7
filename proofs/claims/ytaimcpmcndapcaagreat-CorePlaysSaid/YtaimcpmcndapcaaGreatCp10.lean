/-
 Own words and walks, merged: the last part but one.
-/
import Derived.LaidEql
import Derived.Laws.StructEq
import Derived.Test.YtaimcpmcndapcaaGreatRows
import Derived.ProofKit
import Derived.OpenShut
import Derived.Test.YtaimcpmcndapcaaGreatCp9
set_option maxRecDepth 1000000
set_option maxHeartbeats 8000000
set_option linter.all false
namespace Go.Proofs.YtaimcpmcndapcaaGreat
open Go.Proofs.Tryz
open Go.RowKit Go.Lib
theorem Og {L K:List Jb}{i:Nat}(h1:i<L.length)(h2:i<K.length)(he:L.take i=K.take i)(hx:L.getD i default=K.getD i default):L.take (i+1)=K.take (i+1):=by
 rw[List.take_succ_eq_append_getElem h1,List.take_succ_eq_append_getElem h2,he];rw[List.getD,List.getElem?_eq_getElem h1,List.getD,List.getElem?_eq_getElem h2]at hx;simp only[Option.getD_some]at hx;rw[hx]
section
variable {w w' : World} {u v : Value} {L K : List Jb}
theorem IW (hu:aL ag 10 w u L)(hv:aL ag 10 w v K)(hL:L.length≤100000):Calls prog 43 #[u,v] w fun e w'=>e=.returned (.bool (decide (L=K)))∧Below w.heap.size w w':=by
 have hU:=qae hu;have hV:=qae hv;obtain⟨ao,cap,rfl,h1,h2⟩:=hu.shape;obtain⟨bo,cbp,rfl,h3,h4⟩:=hv.shape;obtain⟨n,hn⟩:=qaa (L.length);obtain⟨m,hm⟩:=qaa (K.length);rw[←hn]at h1 hL⊢;rw[←hm]at h3⊢;clear hu hv;by_cases hnm:n=m
 ·subst hnm;replace hn:=qae hn;replace hm:=qae hm;go_enter func43,ntmps43;go_wp2_with fail;go_loopw [5] (fun ii wr=>∃i:Nat,i≤n∧ii=.int .i64 i∧Hid (L.take i=K.take i)∧Hid (Below w.heap.size w wr)) (fun ii _=>n-(intOf ii).toNat)
  case atStart=>exact⟨0,Nat.zero_le _,rfl,by show _=_;simp,Below.refl _ _⟩
  case round=>
   obtain⟨i,hi,rfl,hsm,hbw⟩:=hrel;by_cases hlt:i<n
   ·have b2:(i:Int)<(n:Int):=by omega
    have b0:(0:Int)≤(i:Int):=by omega
    have wi:IntKind.i64.wrap ((i:Int)+1)=(i:Int)+1:=by rw[IntKind.wrap_i64];omega
    have hi1:i<L.length:=by rw[←hn.out];exact hlt
    have hi2:i<K.length:=by rw[←hm.out];exact hlt
    obtain⟨b,off,cp,hv5,_,_,hbl,hc⟩:=(hU.out.below hbw.out).mr i hi1;obtain⟨d,ZV,cp2,hv6,_,_,hdl,hd⟩:=(hV.out.below hbw.out).mr i hi2;rw[←hn.out]at hv5;rw[←hm.out]at hv6;cases hv5;cases hv6;have hmore:=Og hi1 hi2 hsm.out;have hless:L.getD i default≠K.getD i default→¬L=K:=fun h e=>h (by rw[e]);generalize L.getD i default=x at*;generalize K.getD i default=y at*;obtain⟨x1,x2,x3,x4,x5,x6,x7,x8,x9,x0⟩:=x;obtain⟨y1,y2,y3,y4,y5,y6,y7,y8,y9,y0⟩:=y;have a0:=hc 0 _ rfl;have a1:=hc 1 _ rfl;have a2:=hc 2 _ rfl;have a3:=hc 3 _ rfl;have a4:=hc 4 _ rfl;have a5:=hc 5 _ rfl;have a6:=hc 6 _ rfl;have a7:=hc 7 _ rfl;have a8:=hc 8 _ rfl;have a9:=hc 9 _ rfl;rw[Nat.add_zero]at a0;have e0:=hd 0 _ rfl;have e1:=hd 1 _ rfl;have e2:=hd 2 _ rfl;have e3:=hd 3 _ rfl;have e4:=hd 4 _ rfl;have e5:=hd 5 _ rfl;have e6:=hd 6 _ rfl;have e7:=hd 7 _ rfl;have e8:=hd 8 _ rfl;have e9:=hd 9 _ rfl;rw[Nat.add_zero]at e0;have hq:=fun W=>RA (x1,x2,x3,x4,x5,x6,x7,x8,x9,x0) (y1,y2,y3,y4,y5,y6,y7,y8,y9,y0) W;rw[dP,dP]at hq;clear hc hd;by_cases hxy:(x1,x2,x3,x4,x5,x6,x7,x8,x9,x0)=(y1,y2,y3,y4,y5,y6,y7,y8,y9,y0)
    ·rw[qag hxy,Bool.not_true]at hq;have hm1:Hid (L.take (i+1)=K.take (i+1)):=hmore hxy;have hbd:Hid (Below w.heap.size w wr.drew):=hbw.out.drew;clear hmore hless hxy;go_wp2_with fail;go_region
     all_goals(try go_wp2_with fail)
     exact⟨⟨i+1,by omega,by go_num,hm1,hbd⟩,by simp[intOf];omega⟩
    ·rw[qah hxy,Bool.not_false]at hq;have hf:Hid (decide (L=K)=false):=qah (hless hxy);have hbd:Hid (Below w.heap.size w wr.drew):=hbw.out.drew;clear hmore hless hxy;go_wp2_with fail;go_region
     all_goals(try go_wp2_with fail)
     go_ret;exact⟨by rw[hf.out];rfl,hbd.out⟩
   ·obtain rfl:i=n:=by omega
    have b2:¬(i:Int)<(i:Int):=by omega
    have hf:Hid (decide (L=K)=true):=by
     refine qag ?_;have h:=hsm.out;rw[hn.out,List.take_length]at h;rw[h,←hn.out,hm.out,List.take_length]
    go_wp2_with fail;go_ret;exact⟨by rw[hf.out];rfl,hbw.out⟩
 ·have dn:((n:Int) != (m:Int))=true:=by simp;omega
  have hf:Hid (decide (L=K)=false):=qah fun e=>hnm (by rw[hn,hm,e]);replace hn:=qae hn;replace hm:=qae hm;clear hnm;go_enter func43,ntmps43;go_wp2_with fail;go_ret;exact⟨by rw[hf.out];rfl,Below.refl _ _⟩
end
theorem Ls {L K:List (Int×Int)}{i:Nat}(h1:i<L.length)(h2:i<K.length)(he:L.take i=K.take i)(hx:L.getD i (0,0)=K.getD i (0,0)):L.take (i+1)=K.take (i+1):=by
 rw[List.take_succ_eq_append_getElem h1,List.take_succ_eq_append_getElem h2,he];rw[List.getD,List.getElem?_eq_getElem h1,List.getD,List.getElem?_eq_getElem h2]at hx;simp only[Option.getD_some]at hx;rw[hx]
theorem aL.UU {w:World}{v:Value}{L:List (Int×Int)}(h:aL qh 2 w v L)(i:Nat)(hi:i<L.length):∃b off cap,v=.slice (some ⟨b,off,none⟩) L.length cap∧L.length≤cap∧cap≤maxLen∧b<w.heap.size∧∀j u,(qh (L.getD i (0,0)))[j]? =some u→w.cell? ⟨b,off+i*2+j,none⟩=some u:=by
 obtain⟨ao,cap,rfl,h1,h2,h3⟩:=h;obtain⟨b,off,rfl,hb,hc⟩:=h3 (by omega);exact⟨b,off,cap,rfl,h1,h2,hb,fun j u hj=>by rw[Nat.add_assoc];exact hc i (L.getD i (0,0)) j u (by simp[List.getD,hi]) hj⟩
section
theorem Fb (x y:Int×Int)(w:World):(Op.equalIn 10000 58 (.agg #[.int .i64 x.1,.int .i64 x.2]) (.agg #[.int .i64 y.1,.int .i64 y.2])).run prog w=.ok (decide (x=y)) w:=by
 have u2:=underlying2;have a2:=isAgg2;have z2:=sizeOf2;have u3:=underlying3;have a3:=isAgg3;have z3:=sizeOf3;have hS:prog.underlying 58=some (.struct (prog.fieldsOf 58)):=by kernel_rfl
 have hp:prog.stoodInHeld 58=false:=by kernel_rfl
 rw[show(10000:Nat)=9999+1 from rfl,run_equalIn_agg w 9999 58 _ _ hS hp];simp only[Program.fieldsOf,underlying58];go_simp;obtain⟨x1,x2⟩:=x;obtain⟨y1,y2⟩:=y;by_cases h1:x1=y1<;>by_cases h2:x2=y2<;>simp[h1,h2]
theorem Rn (x y:Int×Int)(w:World):(binOp .neq 58 (.agg #[.int .i64 x.1,.int .i64 x.2]) (.agg #[.int .i64 y.1,.int .i64 y.2])).run prog w=.ok (.bool (!decide (x=y))) w:=by
 rw[run_neq_struct,Fb];rfl
end
section
variable {w w' : World} {u v : Value} {L K : List (Int × Int)}
theorem Fe (hu:aL qh 2 w u L)(hv:aL qh 2 w v K)(hL:L.length≤100000):Calls prog 21 #[u,v] w fun e w'=>e=.returned (.bool (decide (L=K)))∧Below w.heap.size w w':=by
 have hU:=qae hu;have hV:=qae hv;obtain⟨ao,cap,rfl,h1,h2⟩:=hu.shape;obtain⟨bo,cbp,rfl,h3,h4⟩:=hv.shape;obtain⟨n,hn⟩:=qaa (L.length);obtain⟨m,hm⟩:=qaa (K.length);rw[←hn]at h1 hL⊢;rw[←hm]at h3⊢;clear hu hv;by_cases hnm:n=m
 ·subst hnm;replace hn:=qae hn;replace hm:=qae hm;go_enter func21,ntmps21;go_wp2_with fail;go_loopw [5] (fun ii wr=>∃i:Nat,i≤n∧ii=.int .i64 i∧Hid (L.take i=K.take i)∧Hid (Below w.heap.size w wr)) (fun ii _=>n-(intOf ii).toNat)
  case atStart=>exact⟨0,Nat.zero_le _,rfl,by show _=_;simp,Below.refl _ _⟩
  case round=>
   obtain⟨i,hi,rfl,hsm,hbw⟩:=hrel;by_cases hlt:i<n
   ·have b2:(i:Int)<(n:Int):=by omega
    have b0:(0:Int)≤(i:Int):=by omega
    have wi:IntKind.i64.wrap ((i:Int)+1)=(i:Int)+1:=by rw[IntKind.wrap_i64];omega
    have hi1:i<L.length:=by rw[←hn.out];exact hlt
    have hi2:i<K.length:=by rw[←hm.out];exact hlt
    obtain⟨b,off,cp,hv5,_,_,hbl,hc⟩:=(hU.out.below hbw.out).UU i hi1;obtain⟨d,ZV,cp2,hv6,_,_,hdl,hd⟩:=(hV.out.below hbw.out).UU i hi2;rw[←hn.out]at hv5;rw[←hm.out]at hv6;cases hv5;cases hv6;have hmore:=Ls hi1 hi2 hsm.out;have hless:L.getD i (0,0)≠K.getD i (0,0)→¬L=K:=fun h e=>h (by rw[e]);generalize L.getD i (0,0)=x at*;generalize K.getD i (0,0)=y at*;obtain⟨x1,x2⟩:=x;obtain⟨y1,y2⟩:=y;have a0:=hc 0 _ rfl;have a1:=hc 1 _ rfl;rw[Nat.add_zero]at a0;have e0:=hd 0 _ rfl;have e1:=hd 1 _ rfl;rw[Nat.add_zero]at e0;have hq:=fun W=>Rn (x1,x2) (y1,y2) W;simp only at hq;clear hc hd;by_cases hxy:(x1,x2)=(y1,y2)
    ·rw[qag hxy,Bool.not_true]at hq;have hm1:Hid (L.take (i+1)=K.take (i+1)):=hmore hxy;have hbd:Hid (Below w.heap.size w wr.drew):=hbw.out.drew;clear hmore hless hxy;go_wp2_with fail;go_region
     all_goals(try go_wp2_with fail)
     exact⟨⟨i+1,by omega,by go_num,hm1,hbd⟩,by simp[intOf];omega⟩
    ·rw[qah hxy,Bool.not_false]at hq;have hf:Hid (decide (L=K)=false):=qah (hless hxy);have hbd:Hid (Below w.heap.size w wr.drew):=hbw.out.drew;clear hmore hless hxy;go_wp2_with fail;go_region
     all_goals(try go_wp2_with fail)
     go_ret;exact⟨by rw[hf.out];rfl,hbd.out⟩
   ·obtain rfl:i=n:=by omega
    have b2:¬(i:Int)<(i:Int):=by omega
    have hf:Hid (decide (L=K)=true):=by
     refine qag ?_;have h:=hsm.out;rw[hn.out,List.take_length]at h;rw[h,←hn.out,hm.out,List.take_length]
    go_wp2_with fail;go_ret;exact⟨by rw[hf.out];rfl,hbw.out⟩
 ·have dn:((n:Int) != (m:Int))=true:=by simp;omega
  have hf:Hid (decide (L=K)=false):=qah fun e=>hnm (by rw[hn,hm,e]);replace hn:=qae hn;replace hm:=qae hm;clear hnm;go_enter func21,ntmps21;go_wp2_with fail;go_ret;exact⟨by rw[hf.out];rfl,Below.refl _ _⟩
end
open Go.Sort
theorem MR.wR {w w1:World}{q:Nat}{dv lv:Value}{M:Md}(h:MR w q dv lv M)(hb:Below w.heap.size w w1):MR w1 q dv lv M:=⟨(hb.block q h.lt).trans h.cell,h.dr.below hb,h.js.below hb⟩
section
variable {w : World} {c t d p g a q : Nat} {v dv lv : Value} {m : Int} {M : Md}
theorem Eo (h:CW w c t d p v g a m (au M))(hI:aS M)(h1:1≤M.dr.length)(hll:M.L.length≤400)(hM:MR w q dv lv M):Calls prog 19 #[.pointer (some ⟨c,0,none⟩),.pointer (some ⟨q,0,none⟩)] w fun e w'=>e=.returned (.int .i64 0)∧Below w.heap.size w w':=by
 have hno:=fun(W:World) (hW:Below w.heap.size w W)=>og (h.kept hW);have hnw:=fun(W:World) (hW:Below w.heap.size w W)=>il (h.kept hW);rw[show(au M).now=M.now from rfl]at hnw;have hcl:=fun(W:World) (hW:Below w.heap.size w W)=>jR (h.kept hW);rw[show(au M).cl=M.cl from rfl]at hcl;have hsz:=fun(W:World) (hW:Below w.heap.size w W)=>Rm (h.kept hW) hI h1;have hal:=fun(W:World) (hW:Below w.heap.size w W)=>UT (h.kept hW) (show M.L.length≤900 by omega);have hss:=fun(W:World) (hW:Below w.heap.size w W)=>En (h.kept hW) hI hll;have hsm:=fun(W:World) (hW:Below w.heap.size w W)=>Pn (hM.wR hW) hI.mb;have hsj:Hid (∀(W:World) (x:Value),Below w.heap.size w W→aL ag 10 W x M.L→Calls prog 43 #[x,lv] W fun e w'=>e=.returned (.bool true)∧Below W.heap.size W w'):=fun W x hW hx=>by
  have:=IW hx (hM.wR hW).js (show M.L.length≤100000 by omega)
  rwa [qag rfl]at this
 have hst:Hid (∀(W:World) (x y:Value),aL qh 2 W x (kE M)→aL qh 2 W y (kE M)→Calls prog 21 #[x,y] W fun e w'=>e=.returned (.bool true)∧Below W.heap.size W w'):=fun W x y hx hy=>by
  have:=Fe hx hy (by have:=wO M;omega)
  rwa [qag rfl]at this
 have hsc:=fun(W:World) (n:Nat) (hn:n<64) (hW:Below w.heap.size w W)=>Od (h.kept hW) hI h1 n (by omega);have hsd:=fun(W:World) (n:Nat) (hW:Below w.heap.size w W)=>tH (hM.wR hW) hI.mb n;have hnn:=hI.mb.nn;have hS:=qae h;have hR:=qae hM;obtain⟨ao,cap,hdv,q1,q2,q3⟩:=hM.dr;clear q1 q3 h hM hI;subst hdv;obtain⟨N,hN⟩:=qaa (M.dr.length);rw[←hN]at hsz hnn h1 hR;replace hN:=qae hN;go_enter func19,ntmps19;go_wp2_with fail;refine Reg2.rd w 56 95 [[],[ae],[ae,ae],[ae,ae,ae],[ae,ae,ae,ae],[ae,ae,ae,ae,ae],[ae,ae,ae,ae,ae,ae],[ae,ae,ae,ae,ae,ae,ae],[ae,ae,ae,af,af,af,af,af],[ae,ae,ae,af,af,af,af,af,ae],[ae,ae,ae,af,af,af,af,af,ae,ae],[ae,ae,ae,af,af,af,af,af,ae,ae,ae],[ae,ae,ae,ae,ae,ae,ae,ae,ae,ae,ae,ae],[ae,ae,ae,ae,ae,ae,ae,ae,ae,ae,ae,ae,ae],[ae,ae,ae,ae,ae,ae,ae,ae,ae,ae,ae,ae,ae,ae],[ae,ae,ae,ae,ae,ae,ae,ae,ae,ae,ae,ae,ae,ae,ae],[ae,ae,ae,ae,ae,ae,ae,ae,ae,ae,ae,ae,ae,ae,ae,ae],[ae,ae,ae,ae,ae,ae,ae,ae,ae,ae,ae,ae,ae,ae,ae,af,af],[ae,ae,ae,ae,ae,ae,ae,ae,ae,ae,ae,ae,ae,ae,ae,af,af,ae],[ae,ae,ae,ae,ae,ae,ae,ae,ae,ae,ae,ae,ae,ae,ae,af,af,ae,ae],[ae,ae,ae,ae,ae,ae,ae,ae,ae,ae,ae,ae,ae,ae,ae,af,af,ae,ae,ae],[ae,ae,ae,ae,ae,ae,ae,ae,ae,ae,ae,ae,ae,ae,ae,ae,ae,ae,ae,ae,ae],[ae,ae,ae,ae,ae,ae,ae,ae,ae,ae,ae,ae,ae,ae,ae,ae,ae,ae,ae,ae,ae,ae],[ae,ae,ae,ae,ae,ae,ae,ae,ae,ae,ae,ae,ae,ae,ae,ae,ae,ae,ae,ae,ae,ae,ae],[ae,ae,ae,ae,ae,ae,ae,ae,ae,ae,ae,ae,ae,ae,ae,ae,ae,ae,ae,ae,ae,ae,ae,ae],[ae,ae,ae,ae,ae,ae,ae,ae,ae,ae,ae,ae,ae,ae,ae,ae,ae,ae,ae,ae,ae,ae,ae,ae,ae],[ae,ae,ae,ae,ae,ae,ae,ae,ae,ae,ae,ae,ae,ae,ae,ae,ae,ae,ae,ae,ae,ae,ae,ae,ae,ae],[ae,ae,ae,ae,ae,ae,ae,ae,ae,ae,ae,ae,ae,ae,ae,ae,ae,ae,ae,ae,ae,ae,ae,ae,ae,ae,ae],[ae,ae,ae,ae,ae,ae,ae,ae,ae,ae,ae,ae,ae,ae,ae,ae,ae,ae,ae,ae,ae,ae,ae,ae,ae,ae,ae,ae],[ae,ae,ae,ae,ae,ae,ae,ae,ae,ae,ae,ae,ae,ae,ae,ae,ae,ae,ae,ae,ae,ae,ae,ae,af,af,af,af,af],[ae,ae,ae,ae,ae,ae,ae,ae,ae,ae,ae,ae,ae,ae,ae,ae,ae,ae,ae,ae,ae,ae,ae,ae,af,af,af,af,af,ae],[ae,ae,ae,ae,ae,ae,ae,ae,ae,ae,ae,ae,ae,ae,ae,ae,ae,ae,ae,ae,ae,ae,ae,ae,af,af,af,af,af,ae,ae],[ae,ae,ae,ae,ae,ae,ae,ae,ae,ae,ae,ae,ae,ae,ae,ae,ae,ae,ae,ae,ae,ae,ae,ae,af,af,af,af,af,ae,ae,ae],[ae,ae,ae,ae,ae,ae,ae,ae,ae,ae,ae,ae,ae,ae,ae,ae,ae,ae,ae,ae,ae,ae,ae,ae,af,af,af,af,af,ae,ae,ae,ae],[ae,ae,ae,ae,ae,ae,ae,ae,ae,ae,ae,ae,ae,ae,ae,ae,ae,ae,ae,ae,ae,ae,ae,ae,ae,ae,ae,ae,ae,ae,ae,ae,ae,ae],[ae,ae,ae,ae,ae,ae,ae,ae,ae,ae,ae,ae,ae,ae,ae,ae,ae,ae,ae,ae,ae,ae,ae,ae,ae,ae,ae,ae,ae,ae,ae,ae,ae,ae,ae],[ae,ae,ae,ae,ae,ae,ae,ae,ae,ae,ae,ae,ae,ae,ae,ae,ae,ae,ae,ae,ae,ae,ae,ae,ae,ae,ae,ae,ae,ae,ae,ae,ae,ae,ae,ae],[ae,ae,ae,ae,ae,ae,ae,ae,ae,ae,ae,ae,ae,ae,ae,ae,ae,ae,ae,ae,ae,ae,ae,ae,ae,ae,ae,ae,ae,ae,ae,ae,ae,ae,ae,ae,ae],[ae,ae,ae,ae,ae,ae,ae,ae,ae,ae,ae,ae,ae,ae,ae,ae,ae,ae,ae,ae,ae,ae,ae,ae,ae,ae,ae,ae,ae,ae,ae,ae,ae,ae,ae,ae,ae,ae],[ae,ae,ae,ae,ae,ae,ae,ae,ae,ae,ae,ae,ae,ae,ae,ae,ae,ae,ae,ae,ae,ae,ae,ae,ae,ae,ae,ae,ae,ae,ae,ae,ae,ae,ae,ae,ae,ae,ae],[ae,ae,ae,ae,ae,ae,ae,ae,ae,ae,ae,ae,ae,ae,ae,ae,ae,ae,ae,ae,ae,ae,ae,ae,ae,ae,ae,ae,ae,ae,ae,ae,ae,ae,ae,ae,ae,ae,ae,ae],[ae,ae,ae,ae,ae,ae,ae,ae,ae,ae,ae,ae,ae,ae,ae,ae,ae,ae,ae,ae,ae,ae,ae,ae,ae,ae,ae,ae,ae,ae,ae,ae,ae,ae,ae,ae,ae,ae,ae,ae,ae],[ae,ae,ae,ae,ae,ae,ae,ae,ae,ae,ae,ae,ae,ae,ae,ae,ae,ae,ae,ae,ae,ae,ae,ae,ae,ae,ae,ae,ae,ae,ae,ae,ae,ae,ae,ae,ae,af,af,af,af,af],[ae,ae,ae,ae,ae,ae,ae,ae,ae,ae,ae,ae,ae,ae,ae,ae,ae,ae,ae,ae,ae,ae,ae,ae,ae,ae,ae,ae,ae,ae,ae,ae,ae,ae,ae,ae,ae,af,af,af,af,af,ae],[ae,ae,ae,ae,ae,ae,ae,ae,ae,ae,ae,ae,ae,ae,ae,ae,ae,ae,ae,ae,ae,ae,ae,ae,ae,ae,ae,ae,ae,ae,ae,ae,ae,ae,ae,ae,ae,af,af,af,af,af,ae,ae],[ae,ae,ae,ae,ae,ae,ae,ae,ae,ae,ae,ae,ae,ae,ae,ae,ae,ae,ae,ae,ae,ae,ae,ae,ae,ae,ae,ae,ae,ae,ae,ae,ae,ae,ae,ae,ae,af,af,af,af,af,ae,ae,ae],[ae,ae,ae,ae,ae,ae,ae,ae,ae,ae,ae,ae,ae,ae,ae,ae,ae,ae,ae,ae,ae,ae,ae,ae,ae,ae,ae,ae,ae,ae,ae,ae,ae,ae,ae,ae,ae,ae,ae,ae,ae,ae,ae,ae,ae,ae],[ae,ae,ae,ae,ae,ae,ae,ae,ae,ae,ae,ae,ae,ae,ae,ae,ae,ae,ae,ae,ae,ae,ae,ae,ae,ae,ae,ae,ae,ae,ae,ae,ae,ae,ae,ae,ae,ae,ae,ae,ae,ae,ae,ae,ae,ae,ae],[ae,ae,ae,ae,ae,ae,ae,ae,ae,ae,ae,ae,ae,ae,ae,ae,ae,ae,ae,ae,ae,ae,ae,ae,ae,ae,ae,ae,ae,ae,ae,ae,ae,ae,ae,ae,ae,ae,ae,ae,ae,ae,ae,ae,ae,ae,ae,ae],[ae,ae,ae,ae,ae,ae,ae,ae,ae,ae,ae,ae,ae,ae,ae,ae,ae,ae,ae,ae,ae,ae,ae,ae,ae,ae,ae,ae,ae,ae,ae,ae,ae,ae,ae,ae,ae,ae,ae,ae,ae,ae,ae,ae,ae,ae,ae,ae,ae],[ae,ae,ae,ae,ae,ae,ae,ae,ae,ae,ae,ae,ae,ae,ae,ae,ae,ae,ae,ae,ae,ae,ae,ae,ae,ae,ae,ae,ae,ae,ae,ae,ae,ae,ae,ae,ae,ae,ae,ae,ae,ae,ae,ae,ae,ae,ae,ae,ae,ae],[ae,ae,ae,ae,ae,ae,ae,ae,ae,ae,ae,ae,ae,ae,ae,ae,ae,ae,ae,ae,ae,ae,ae,ae,ae,ae,ae,ae,ae,ae,ae,ae,ae,ae,ae,ae,ae,ae,ae,ae,ae,ae,ae,ae,ae,ae,ae,ae,ae,ae,ae],[ae,ae,ae,ae,ae,ae,ae,ae,ae,ae,ae,ae,ae,ae,ae,ae,ae,ae,ae,ae,ae,ae,ae,ae,ae,ae,ae,ae,ae,ae,ae,ae,ae,ae,ae,ae,ae,ae,ae,ae,ae,ae,ae,ae,ae,ae,ae,ae,ae,ae,ae,ae],[ae,ae,ae,ae,ae,ae,ae,ae,ae,ae,ae,ae,ae,ae,ae,ae,ae,ae,ae,ae,ae,ae,ae,ae,ae,ae,ae,ae,ae,ae,ae,ae,ae,ae,ae,ae,ae,ae,ae,ae,ae,ae,ae,ae,ae,ae,ae,ae,ae,ae,ae,ae,ae],[ae,ae,ae,ae,ae,ae,ae,ae,ae,ae,ae,ae,ae,ae,ae,ae,ae,ae,ae,ae,ae,ae,ae,ae,ae,ae,ae,ae,ae,ae,ae,ae,ae,ae,ae,ae,ae,ae,ae,ae,ae,ae,ae,ae,ae,ae,ae,ae,ae,ae,ae,ae,ae,ae],[ae,ae,ae,ae,ae,ae,ae,ae,ae,ae,ae,ae,ae,ae,ae,ae,ae,ae,ae,ae,ae,ae,ae,ae,ae,ae,ae,ae,ae,ae,ae,ae,ae,ae,ae,ae,ae,ae,ae,ae,ae,ae,ae,ae,ae,ae,ae,ae,ae,ae,af,af,af,af,af]] [0,1,0,0,0,0,1,1,0,0,0,1,0,0,0,0,1,0,0,0,1,0,0,0,0,0,0,1,1,0,0,0,1,1,0,0,0,0,0,0,1,1,0,0,0,1,1,0,0,0,0,0,0,1,1,0] [.pure,.mU (.bool false),.pure,.pure,.pure,.pure,.mU (.pointer (some ⟨p,0,none⟩)),.mU (.int .i64 M.now),.pure,.pure,.pure,.mU (.int .i64 M.now),.pure,.pure,.pure,.pure,.mU (.bool M.cl),.pure,.pure,.pure,.mU (.bool M.cl),.pure,.pure,.pure,.pure,.pure,.pure,.mU (.pointer (some ⟨d,0,none⟩)),.mU (.int .i64 N),.pure,.pure,.pure,.mU (.slice ao N cap),.mU (.int .i64 N),.pure,.pure,.pure,.pure,.pure,.pure,.mU (.pointer (some ⟨t,0,none⟩)),.minor Value (.bool false) (fun x=>x) (fun x W=>aL ag 10 W x M.L),.pure,.pure,.pure,.mU (lv),.mU (.bool true),.pure,.pure,.pure,.pure,.pure,.pure,.mU (.pointer (some ⟨p,0,none⟩)),.minor Value (.bool false) (fun x=>x) (fun x W=>aL qh 2 W x (kE M)),.pure] (by kernel_rfl) (by kernel_rfl) rfl rfl (by exact ⟨trivial,Reg2.tt,trivial,trivial,trivial,trivial,Reg2.tt,Reg2.tt,trivial,trivial,trivial,Reg2.tt,trivial,trivial,trivial,trivial,Reg2.tt,trivial,trivial,trivial,Reg2.tt,trivial,trivial,trivial,trivial,trivial,trivial,Reg2.tt,Reg2.tt,trivial,trivial,trivial,Reg2.tt,Reg2.tt,trivial,trivial,trivial,trivial,trivial,trivial,Reg2.tt,⟨fun k a b he hp=>hp.below he,fun k a b he hp=>hp.below he⟩,trivial,trivial,trivial,Reg2.tt,Reg2.tt,trivial,trivial,trivial,trivial,trivial,trivial,Reg2.tt,⟨fun k a b he hp=>hp.below he,fun k a b he hp=>hp.below he⟩,trivial,trivial⟩) ⟨rfl,rfl,rfl,qaf _,fun _ _=>rfl⟩ ?_;dsimp only[Reg2.mk,List.zip,List.zipWith,List.take]
 repeat(refine' Reg2.ak _ (by rfl) (fun wz=>?_) ?_;rotate_left;(go_simp;first|rfl|rw[qai (by omega)]);simp only[Act.put,xA,xB,xC,xD,xE,id])
 refine Reg2.pm (fun wz hI hF=>?_) (fun r1=>?_) (by rfl)
 ·have h5:=hno wz hI;go_wp2_with (go_at_call 71;go_must (refine h5.mono ?_);rintro e w5 ⟨rfl,rfl⟩)
  first|exact⟨_,rfl,rfl,qad⟩|exact⟨_,rfl,⟨(),rfl,trivial⟩,qad⟩
 simp only[Act.put,xA,xB,xC,xD,xE,id]
 repeat((first
  |(refine' Reg2.ak _ (by rfl) (fun wz=>?_) ?_;rotate_left;(go_simp;first|rfl|rw[qai (by omega)]))
  |(refine Reg2.az (by rfl) (fun wz hI hF=>?_) (fun _=>?_)
    ·unfold Reg2.One;have c0:=(hS.out.kept hI).c2;go_wp2_with fail
     first|exact⟨_,rfl,rfl,qad⟩|exact⟨_,rfl,⟨(),rfl,trivial⟩,qad⟩));simp only[Act.put,xA,xB,xC,xD,xE,id])
 refine Reg2.pm (fun wz hI hF=>?_) (fun r7=>?_) (by rfl)
 ·have h5:=hnw wz hI;go_wp2_with (go_at_call 45;go_must (refine h5.mono ?_);rintro e w5 ⟨rfl,rfl⟩)
  first|exact⟨_,rfl,rfl,qad⟩|exact⟨_,rfl,⟨(),rfl,trivial⟩,qad⟩
 simp only[Act.put,xA,xB,xC,xD,xE,id]
 repeat((first
  |(refine' Reg2.ak _ (by rfl) (fun wz=>?_) ?_;rotate_left;(go_simp;first|rfl|rw[qai (by omega)]))
  |(refine Reg2.az (by rfl) (fun wz hI hF=>?_) (fun _=>?_)
    ·unfold Reg2.One;have c0:=(hR.out.wR hI).c0;go_wp2_with fail
     first|exact⟨_,rfl,rfl,qad⟩|exact⟨_,rfl,⟨(),rfl,trivial⟩,qad⟩));simp only[Act.put,xA,xB,xC,xD,xE,id])
 refine Reg2.pm (fun wz hI hF=>?_) (fun r16=>?_) (by rfl)
 ·have h5:=hcl wz hI;go_wp2_with (go_at_call 42;go_must (refine h5.mono ?_);rintro e w5 ⟨rfl,rfl⟩)
  first|exact⟨_,rfl,rfl,qad⟩|exact⟨_,rfl,⟨(),rfl,trivial⟩,qad⟩
 simp only[Act.put,xA,xB,xC,xD,xE,id]
 repeat((first
  |(refine' Reg2.ak _ (by rfl) (fun wz=>?_) ?_;rotate_left;(go_simp;first|rfl|rw[qai (by omega)]))
  |(refine Reg2.az (by rfl) (fun wz hI hF=>?_) (fun _=>?_)
    ·unfold Reg2.One;have c0:=(hR.out.wR hI).c3;have O1:=(hS.out.kept hI).c1;go_wp2_with fail
     first|exact⟨_,rfl,rfl,qad⟩|exact⟨_,rfl,⟨(),rfl,trivial⟩,qad⟩));simp only[Act.put,xA,xB,xC,xD,xE,id])
 refine Reg2.pm (fun wz hI hF=>?_) (fun r28=>?_) (by rfl)
 ·have h5:=hsz wz hI;go_wp2_with (go_at_call 72;go_must (refine h5.mono ?_);rintro e w5 ⟨rfl,rfl⟩)
  first|exact⟨_,rfl,rfl,qad⟩|exact⟨_,rfl,⟨(),rfl,trivial⟩,qad⟩
 simp only[Act.put,xA,xB,xC,xD,xE,id]
 repeat((first
  |(refine' Reg2.ak _ (by rfl) (fun wz=>?_) ?_;rotate_left;(go_simp;first|rfl|rw[qai (by omega)]))
  |(refine Reg2.az (by rfl) (fun wz hI hF=>?_) (fun _=>?_)
    ·unfold Reg2.One;have c0:=(hR.out.wR hI).c1;have O1:=(hS.out.kept hI).c0;go_wp2_with fail
     first|exact⟨_,rfl,rfl,qad⟩|exact⟨_,rfl,⟨(),rfl,trivial⟩,qad⟩));simp only[Act.put,xA,xB,xC,xD,xE,id])
 refine Reg2.pm (fun wz hI hF=>?_) (fun r41=>?_) (by rfl)
 ·have h5:=hal wz hI;go_wp2_with (go_at_call 44;go_must (refine h5.mono ?_);rintro e w5 ⟨u5,rfl,X9,hb5⟩);exact⟨_,rfl,⟨_,rfl,X9⟩,hb5⟩
 simp only[Act.put,xA,xB,xC,xD,xE,id]
 repeat((first
  |(refine' Reg2.ak _ (by rfl) (fun wz=>?_) ?_;rotate_left;(go_simp;first|rfl|rw[qai (by omega)]))
  |(refine Reg2.az (by rfl) (fun wz hI hF=>?_) (fun _=>?_)
    ·unfold Reg2.One;have c0:=(hR.out.wR hI).c2;go_wp2_with fail
     first|exact⟨_,rfl,rfl,qad⟩|exact⟨_,rfl,⟨(),rfl,trivial⟩,qad⟩));simp only[Act.put,xA,xB,xC,xD,xE,id])
 refine Reg2.pm (fun wz hI hF=>?_) (fun r46=>?_) (by rfl)
 ·have hv:=hF.2.2.2.2.2.2.2.2.2.2.2.2.2.2.2.2.2.2.2.2.2.2.2.2.2.2.2.2.2.2.2.2.2.2.2.2.2.2.2.2.2.1;have h5:=hsj.out wz _ hI hv;go_wp2_with (go_at_call 43;go_must (refine h5.mono ?_);rintro e w5 ⟨rfl,hb5⟩)
  first|exact⟨_,rfl,⟨(),rfl,trivial⟩,hb5⟩|exact⟨_,rfl,rfl,hb5⟩
 simp only[Act.put,xA,xB,xC,xD,xE,id]
 repeat((first
  |(refine' Reg2.ak _ (by rfl) (fun wz=>?_) ?_;rotate_left;(go_simp;first|rfl|rw[qai (by omega)]))
  |(refine Reg2.az (by rfl) (fun wz hI hF=>?_) (fun _=>?_)
    ·unfold Reg2.One;have c0:=(hS.out.kept hI).c2;go_wp2_with fail
     first|exact⟨_,rfl,rfl,qad⟩|exact⟨_,rfl,⟨(),rfl,trivial⟩,qad⟩));simp only[Act.put,xA,xB,xC,xD,xE,id])
 refine Reg2.pm (fun wz hI hF=>?_) (fun r54=>?_) (by rfl)
 ·have h5:=hss wz hI;go_wp2_with (go_at_call 22;go_must (refine h5.mono ?_);rintro e w5 ⟨u5,rfl,X9,hb5⟩);exact⟨_,rfl,⟨_,rfl,X9⟩,hb5⟩
 simp only[Act.put,xA,xB,xC,xD,xE,id]
 repeat(refine' Reg2.ak _ (by rfl) (fun wz=>?_) ?_;rotate_left;(go_simp;first|rfl|rw[qai (by omega)]);simp only[Act.put,xA,xB,xC,xD,xE,id])
 refine Reg2.aD ?_;intro w6 Ay _ ZW;have hv6:=ZW.2.2.2.2.2.2.2.2.2.2.2.2.2.2.2.2.2.2.2.2.2.2.2.2.2.2.2.2.2.2.2.2.2.2.2.2.2.2.2.2.2.2.2.2.2.2.2.2.2.2.2.2.2.2.1;clear ZW;dsimp only[List.drop];have h5:=hsm w6 Ay;go_wp2_with fail;go_at_call 73;refine h5.mono ?_;clear h5;rintro e w7 ⟨u7,rfl,ZX,iH⟩;have h5:=hst.out w7 _ _ (hv6.below iH) ZX;go_wp2_with fail;go_at_call 21;refine h5.mono ?_;clear h5 hv6 ZX;rintro e w8 ⟨rfl,kN⟩;have hb:=qae (Ay.trans ((iH.trans (kN.mono iH.size)).mono Ay.size));clear Ay iH kN;go_wp2_with fail;go_loopw [5,6] (fun mm ii wr=>mm=.int .i64 0∧∃i:Nat,i≤N∧ii=.int .i64 i∧Hid (Below w.heap.size w wr)) (fun _ ii _=>N-(intOf ii).toNat)
 case atStart=>exact⟨rfl,0,Nat.zero_le _,rfl,hb⟩
 case round=>
  clear hb;obtain⟨rfl,i,hin,rfl,hbr⟩:=hrel;have m1:=(hR.out.wR hbr.out).c1;have wi:IntKind.i64.wrap ((i:Int)+1)=(i:Int)+1:=by rw[IntKind.wrap_i64];omega
  by_cases hlt:i<N
  ·have b2:(i:Int)<(N:Int):=by omega
   have c1:=(hS.out.kept hbr.out).c1;have h5:=hsc wr i (by omega) hbr.out;go_wp2_with fail;go_at_call 48;refine h5.mono ?_;clear h5;rintro e w9 ⟨rfl,k9,bB⟩;have tQ:Hid (Below w.heap.size w w9):=by
    show Below _ _ _;rw[bB];exact below_drewN hbr.out _
   replace bB:=qae bB;have h5:=hsd w9 i tQ.out;go_wp2_with fail;go_at_call 74;refine h5.mono ?_;clear h5;rintro e w' ⟨rfl,rfl⟩;go_wp2_with fail;go_roundw
   case rel=>exact⟨rfl,i+1,by omega,by go_num,tQ⟩
   case measure=>simp[intOf];omega
  ·have b2:¬(i:Int)<(N:Int):=by omega
   go_wp2_with fail;go_ret;exact⟨rfl,hbr.out⟩
end
def Ro :Rq:=⟨1,0,0,2,10,0,false,0,0⟩
def Ya :Md:=(iy (fA 4) (toW Ro)).2
def mA2 :Md:=(cZ Ya 1 0).2
theorem eA3 :kE mA2=[(0,2),(10,4)]:=by decide
theorem zN {c t d p g:Nat}{v:Value}{b B:Nat}(h:∀k,eQ c t d p v g k→B≤k)(hb:B≤b):∀k,uQ b c t d p v g k→B≤k:=fun k hk=>hk.elim (fun e=>e▸hb) (h k)
theorem WS.Rp {w w1:World}{b c t d p g g1 B:Nat}{v v1:Value}(h:WS w w1 b c t d p v g v1 g1)(hC:∀k,eQ c t d p v g k→B≤k)(hb:B≤b)(hB:B≤w.heap.size):∀k,eQ c t d p v1 g1 k→B≤k:=fun k hk=>h.lo (zN hC hb) hB k (.inr hk)
theorem Gu (w:World):Calls prog 16 #[] w fun e w'=>e=.returned (.bool true)∧Below w.heap.size w w':=by
 have hn:=Lh 4 w (by decide) (by decide);go_enter func16,ntmps16;go_wp2_with fail;go_at_call 15;refine hn.mono ?_;clear hn;rintro e w1 ⟨c,t,d,p,v,g,rfl,⟨qC,hlo1⟩,hb1⟩;have hq:=BK Ro w1;rw[show(encR Ro).toArray= #[.int .i64 1,.int .i64 0,.int .i64 0,.int .i64 2,.int .i64 10,.int .i64 0,.bool false,.int .i64 0,.int .i64 0]from rfl]at hq;go_wp2_with fail;go_at_call 64;refine hq.mono ?_;clear hq;rintro e w2 ⟨b,rfl,hW2,hlb,hb2⟩;have hC2:=qC.kept hb2;have Ep:=BN (M:=fA 4) hC2 Ro hW2 (Ok.new (by decide)) (by decide) (by decide) (by decide) (by decide);go_wp2_with fail;go_at_call 65;refine Ep.mono ?_;clear Ep qC;rintro e w3 ⟨n1,v3,g3,R3,_,_,rfl,Lt,hW3,_,hr3,_,hs3⟩;have hx:=xQ 1 0 w3;go_wp2_with fail;go_at_call 66;refine hx.mono ?_;clear hx;rintro e w4 ⟨x,rfl,hX4,hlx,hb4⟩;have qc:=Lt.kept hb4;have ET:dm w4 b R3:=(hb4.block b hW3.lt).trans hW3;have hbx:b≠x:=Nat.ne_of_lt (Nat.lt_of_lt_of_le hW3.lt hlx);have Ep:=xR (M:=Ya) qc 1 0 hX4 ((Ok.new (by decide)).Hw _) (by decide) (by decide) (by decide) (by decide);go_wp2_with fail;go_at_call 65;refine Ep.mono ?_;clear Ep;rintro e w5 ⟨n2,v5,g5,R5,_,_,rfl,iI,ZY,_,_,Aq,hs5⟩;have KI:dm w5 b R3:=(hs5.heap ET.lt (fun hf=>hf.elim hbx (qc.other ET (by decide)))).trans ET;have WO:Hid (Below w.heap.size w w5):=by
  have l1:=hb1.size;have s2:=hb2.size;have s3:=hs3.off.size;have lo3:=hs3.Rp hlo1 (Nat.le_trans l1 hlb) (Nat.le_trans l1 s2);have f3:=hs3.below (zN hlo1 (Nat.le_trans l1 hlb)) (Nat.le_trans l1 s2);have l3:w.heap.size≤w3.heap.size:=Nat.le_trans (Nat.le_trans l1 s2) s3;have f5:=hs5.below (zN lo3 (Nat.le_trans l3 hlx)) (Nat.le_trans l3 hb4.size);exact hb1.trans ((hb2.mono l1).trans (f3.trans ((hb4.mono l3).trans f5)))
 have hst:=En iI ((Ok.new (by decide)).Hw (toW Ro) |>.lT 1 0).inv (by decide);have q2:=iI.c2;go_wp2_with fail;go_at_call 22;refine hst.mono ?_;clear hst q2;rintro e w6 ⟨u,rfl,hu,hb6⟩;rw[show kE (cZ Ya 1 0).2=[(0,2),(10,4)]from eA3]at hu;have QT:dm w6 b R3:=(hb6.block b KI.lt).trans KI;have ZZ:dm w6 x R5:=(hb6.block x ZY.lt).trans ZY;have Lu:Hid (Below w.heap.size w w6):=WO.out.trans (hb6.mono WO.out.size);obtain⟨ao,cap,rfl,q1,q2,q3⟩:=hu;obtain⟨B,off,rfl,hlt,hc⟩:=q3 (by decide);have Oh:=Gt QT;rw[hr3,show(mO (iy (fA 4) (toW Ro)).1)=⟨0,1,1,-1,-1,-1,2,0,0⟩from rfl,show(gm ⟨0,1,1,-1,-1,-1,2,0,0⟩).toArray= #[.int .i64 0,.int .i64 1,.int .i64 1,.int .i64 (-1),.int .i64 (-1),.int .i64 (-1),.int .i64 2,.int .i64 0,.int .i64 0]from rfl]at Oh;have hok:∀W,Below w6.heap.size w6 W→Calls prog 68 #[.pointer (some ⟨x,0,none⟩)] W fun e w'=>e=.returned (.bool true)∧W=w':=fun W hW=>by
  have:=Oe ((hW.block x ZZ.lt).trans ZZ);rw[Aq]at this;exact this
 have k1:w6.cell? ⟨B,off+1,none⟩=some (.int .i64 2):=hc 0 (0,2) 1 _ rfl rfl;have k2:w6.cell? ⟨B,off+2,none⟩=some (.int .i64 10):=hc 1 (10,4) 0 _ rfl rfl;have k3:w6.cell? ⟨B,off+3,none⟩=some (.int .i64 4):=hc 1 (10,4) 1 _ rfl rfl;clear hc;have fld:∀W,Sem.run prog (Instr.field 67 (.agg #[.int .i64 0,.int .i64 1,.int .i64 1,.int .i64 (-1),.int .i64 (-1),.int .i64 (-1),.int .i64 2,.int .i64 0,.int .i64 0]) 1) W=.ok (.int .i64 1) W:=fun W=>by kernel_rfl
 go_wp2_with fail;go_at_call 67;refine Oh.mono ?_;clear Oh;rintro e w7 ⟨rfl,iH⟩;have k1:=(iH.cell (p:=⟨B,off+1,none⟩) hlt).trans k1;have k2:=(iH.cell (p:=⟨B,off+2,none⟩) hlt).trans k2;have k3:=(iH.cell (p:=⟨B,off+3,none⟩) hlt).trans k3;have WQ:=hok w7 iH;have Z0:Hid (Below w.heap.size w w7):=Lu.out.trans (iH.mono Lu.out.size);clear hok;go_wp2_with fail;go_at_call 68;refine WQ.mono ?_;clear WQ;rintro e w' ⟨rfl,rfl⟩;go_wp2_with fail;go_ret;exact⟨rfl,Z0.out⟩
structure De where
 Pb:Bool
 r:Rq
 xi:Int
 xt:Int
def yN (x:De):List Value:=.bool x.Pb::(encR x.r++[.int .i64 x.xi,.int .i64 x.xt])
section
variable {w : World} {v : Value} {l : List De}
theorem V3 (h:aL yN 12 w v l):Calls prog 14 #[v] w fun e w'=>∃v',e=.returned v'∧aL yN 12 w v' (l.take 60)∧w=w':=by
 have hr:=h;obtain⟨ao,cap,rfl,h1,h2,h3⟩:=h;by_cases hn:60<l.length
 ·have d1:decide ((60:Int)<(l.length:Int))=true:=qag (by omega);have hcut:=hr.cut (n:=60) (by omega);go_enter func14,ntmps14;go_wp2_with fail;go_ret;exact⟨_,rfl,hcut,rfl⟩
 ·have d1:decide ((60:Int)<(l.length:Int))=false:=qah (by omega);have e:l.take 60=l:=List.take_of_length_le (by omega);rw[e];go_enter func14,ntmps14;go_wp2_with fail;go_ret;exact⟨_,rfl,hr,rfl⟩
end
section
variable {M : Md}
theorem AR (M:Md)(j:Jb):(eH M j).L.length=M.L.length∧(eH M j).dr=M.dr:=⟨by show(M.L.map _).length=_;rw[List.length_map],rfl⟩
theorem V4 (hI:aS M)(r:Rw):(iy M r).2.L.length≤M.L.length+1∧(iy M r).2.dr.length=M.dr.length:=by
 unfold iy;by_cases hc:M.cl=true
 ·rw[qaj hc];exact⟨Nat.le_succ _,rfl⟩
 rw[qai hc];by_cases k1:r.kind=1
 ·rw[qaj k1];unfold iW;split
  ·exact⟨Nat.le_succ _,rfl⟩
  split
  ·exact⟨by show(M.L++[_]).length≤_;simp,rfl⟩
  ·refine⟨?_,rfl⟩;rw[(AR _ _).1];show(M.L++[_]).length≤_;simp
 rw[qai k1];by_cases k2:r.kind=2∨r.kind=5
 ·rw[qaj k2];unfold kY;simp only;split
  ·exact⟨Nat.le_succ _,rfl⟩
  split
  ·exact⟨Nat.le_succ _,rfl⟩
  ·exact⟨by show(M.L.set _ _).length≤_;rw[List.length_set];omega,rfl⟩
 rw[qai k2];by_cases k3:r.kind=3∨r.kind=4∨r.kind=6
 ·rw[qaj k3];unfold fC;simp only;split
  ·exact⟨Nat.le_succ _,rfl⟩
  split
  ·exact⟨Nat.le_succ _,rfl⟩
  split
  ·refine⟨?_,rfl⟩;rw[(AR _ _).1];show(M.L.set _ _).length≤_;rw[List.length_set];omega
  ·exact⟨by show(M.L.set _ _).length≤_;rw[List.length_set];omega,rfl⟩
 rw[qai k3];by_cases k7:r.kind=7∨r.kind=8
 ·rw[qaj k7];unfold gU;split
  ·exact⟨Nat.le_succ _,rfl⟩
  split
  ·exact⟨Nat.le_succ _,rfl⟩
  ·unfold dK;split
   ·exact⟨by show(eH M mq).L.length≤_;rw[(AR _ _).1];omega,by show(M.dr.set _ _).length=_;rw[List.length_set]⟩
   ·exact⟨Nat.le_succ _,by show(M.dr.set _ _).length=_;rw[List.length_set]⟩
 rw[qai k7];by_cases k9:r.kind=9
 ·rw[qaj k9];unfold lF;split
  ·exact⟨Nat.le_succ _,rfl⟩
  ·have hn:=hI.mb.now;have hk:=ze (M.now+r.by') (2*M.L.length+1) hI.mb (by omega);exact⟨by show(dL _ _ M).L.length≤_;rw[hk.2.1];omega,by show(dL _ _ M).dr.length=_;rw[hk.2.2.1]⟩
 rw[qai k9]
 repeat' split
 all_goals exact⟨Nat.le_succ _,rfl⟩
theorem Lv (M:Md)(id t:Int):(cZ M id t).2.L.length=M.L.length∧(cZ M id t).2.dr=M.dr:=by
 unfold cZ;split
 ·split
  ·exact⟨by show(M.L.set _ _).length=_;rw[List.length_set],rfl⟩
  ·exact⟨by show(M.L.set _ _).length=_;rw[List.length_set],rfl⟩
 ·exact⟨rfl,rfl⟩
def IX (M:Md)(x:De):Md:=if x.Pb then(cZ M x.xi x.xt).2 else(iy M (toW x.r)).2
def oq (M:Md)(l:List De):Md:=l.foldl IX M
theorem Ok.de (h:Ok M)(x:De):Ok (IX M x):=by
 unfold IX;split
 ·exact h.lT _ _
 ·exact h.Hw _
theorem V5 (h:Ok M)(x:De):(IX M x).L.length≤M.L.length+1∧(IX M x).dr.length=M.dr.length:=by
 unfold IX;split
 ·have:=Lv M x.xi x.xt;exact⟨by rw[this.1];omega,by rw[this.2]⟩
 ·exact V4 h.inv _
theorem Gv (h:Ok M)(l:List De):Ok (oq M l)∧(oq M l).L.length≤M.L.length+l.length∧(oq M l).dr.length=M.dr.length:=by
 unfold oq
 induction l generalizing M with
 |nil=>exact⟨h,qaf _,rfl⟩
 |cons x l ih=>
  obtain⟨h1,h2,h3⟩:=ih (h.de x);have:=V5 h x;exact⟨h1,by show(l.foldl IX (IX M x)).L.length≤M.L.length+(l.length+1);omega,h3.trans this.2⟩
theorem Oi (M:Md){l:List De}{i:Nat}(hi:i<l.length):oq M (l.take (i+1))=IX (oq M (l.take i)) l[i]:=by
 unfold oq;rw[List.take_succ_eq_append_getElem hi,List.foldl_append];rfl
end
section
variable {w w' : World} {p : Nat} {dv lv : Value} {M : Md}
theorem Oj (h:MW w p dv lv M)(hb:MB M)(k qd us wi li pr:Int)(he:Bool)(no y:Int)(hn:us<0∨255<us∨pr<0∨1000<pr):Calls prog 91 #[.pointer (some ⟨p,0,none⟩),.agg #[.int .i64 k,.int .i64 qd,.int .i64 us,.int .i64 wi,.int .i64 li,.int .i64 pr,.bool he,.int .i64 no,.int .i64 y]] w (iJ w p dv lv (dB 1,M)):=by
 have hnn:=hb.nn;have hll:=hb.ll;obtain⟨w3,hw3⟩:=qaa ((w.alloc (.cells #[.int .i64 k,.int .i64 qd,.int .i64 us,.int .i64 wi,.int .i64 li,.int .i64 pr,.bool he,.int .i64 no,.int .i64 y] 33)).alloc (.cells #[.int .i64 1,.int .i64 0,.int .i64 0,.int .i64 0,.int .i64 0,.int .i64 0,.int .i64 0,.int .i64 0,.int .i64 0] 67));have hb3:Hid (Below w.heap.size w w3):=by show Below _ _ _;rw[hw3];exact(qac.alloc (qaf _) _).alloc (by simp) _
 have gz:aG w3 (w.heap.size+1) (dB 1):=by rw[hw3];exact heap_alloc2_new w _ _
 have eZ:=qae (h.kept hb3.out);clear h hb;by_cases h1:us<0
 ·skip
  have d1:decide (us<0)=true:=qag (by omega);clear hn;go_enter func91,ntmps91;go_wp2_with fail;rw[←hw3];replace hw3:=qae hw3;refine aO rfl rfl rfl gz underlying67 rfl (by kernel_rfl) ⟨rfl,⟨_,eZ.out,aY.refl _ _⟩,aB.of_below (S:=ax p dv lv) hb3.out⟩
 by_cases h2:255<us
 ·skip
  have d1:decide (us<0)=false:=qah (by omega);have d2:decide (us>255)=true:=qag (by omega);clear hn;go_enter func91,ntmps91;go_wp2_with fail;rw[←hw3];replace hw3:=qae hw3;refine aO rfl rfl rfl gz underlying67 rfl (by kernel_rfl) ⟨rfl,⟨_,eZ.out,aY.refl _ _⟩,aB.of_below (S:=ax p dv lv) hb3.out⟩
 by_cases h3:pr<0
 ·skip
  have d1:decide (us<0)=false:=qah (by omega);have d2:decide (us>255)=false:=qah (by omega);have d3:decide (pr<0)=true:=qag (by omega);clear hn;go_enter func91,ntmps91;go_wp2_with fail;rw[←hw3];replace hw3:=qae hw3;refine aO rfl rfl rfl gz underlying67 rfl (by kernel_rfl) ⟨rfl,⟨_,eZ.out,aY.refl _ _⟩,aB.of_below (S:=ax p dv lv) hb3.out⟩
 have d1:decide (us<0)=false:=qah (by omega);have d2:decide (us>255)=false:=qah (by omega);have d3:decide (pr<0)=false:=qah (by omega);have d4:decide (pr>1000)=true:=qag (by omega);clear hn;go_enter func91,ntmps91;go_wp2_with fail;rw[←hw3];replace hw3:=qae hw3;refine aO rfl rfl rfl gz underlying67 rfl (by kernel_rfl) ⟨rfl,⟨_,eZ.out,aY.refl _ _⟩,aB.of_below (S:=ax p dv lv) hb3.out⟩
theorem Ol {N cap n cap2:Nat}{ao dI:Option Addr}(h:MW w p (.slice ao N cap) (.slice dI n cap2) M)(hb:MB M)(k qd us wi li pr:Int)(he:Bool)(no y:Int)(hN:N=M.dr.length)(qD:n=M.L.length)(g1:0≤us∧us≤255)(g2:0≤pr∧pr≤1000)(hn:wi<1∨(N:Int)<wi):Calls prog 91 #[.pointer (some ⟨p,0,none⟩),.agg #[.int .i64 k,.int .i64 qd,.int .i64 us,.int .i64 wi,.int .i64 li,.int .i64 pr,.bool he,.int .i64 no,.int .i64 y]] w (iJ w p (.slice ao N cap) (.slice dI n cap2) (dB 9,M)):=by
 have hnn:=hb.nn;have hll:=hb.ll;rw[←hN]at hnn;rw[←qD]at hll;obtain⟨wA,aj⟩:=qaa ((w.alloc (.cells #[.int .i64 k,.int .i64 qd,.int .i64 us,.int .i64 wi,.int .i64 li,.int .i64 pr,.bool he,.int .i64 no,.int .i64 y] 33)).alloc (.cells #[.int .i64 0,.int .i64 0,.int .i64 0,.int .i64 0,.int .i64 0,.int .i64 0,.int .i64 0,.int .i64 0,.int .i64 0] 67));have aC:Below w.heap.size w wA:=by rw[aj];exact(qac.alloc (qaf _) _).alloc (by simp) _
 have hsA:wA.heap.size=w.heap.size+2:=by rw[aj];simp
 have aH:aG wA (w.heap.size+1) aQ:=by rw[aj];exact heap_alloc2_new w _ _
 have bg:wA.heap[w.heap.size]? =some (.cells #[.int .i64 k,.int .i64 qd,.int .i64 us,.int .i64 wi,.int .i64 li,.int .i64 pr,.bool he,.int .i64 no,.int .i64 y] 33 (0,0)):=by rw[aj];exact aJ (heap_alloc_new w _)
 have aP:=h.kept aC;have hp0:Hid (∀k,ax p _ _ k→k<w.heap.size):=h.bF;have c1:=aP.read.c1;have c2:=aP.read.c2;have r2:wA.cell? ⟨w.heap.size,2,none⟩=some (.int .i64 us):=by simp[World.cell?,bg]
 have r3:wA.cell? ⟨w.heap.size,3,none⟩=some (.int .i64 wi):=by simp[World.cell?,bg]
 have r4:wA.cell? ⟨w.heap.size,4,none⟩=some (.int .i64 li):=by simp[World.cell?,bg]
 have r5:wA.cell? ⟨w.heap.size,5,none⟩=some (.int .i64 pr):=by simp[World.cell?,bg]
 have r6:wA.cell? ⟨w.heap.size,6,none⟩=some (.bool he):=by simp[World.cell?,bg]
 have a0:=aH.at 0 (.int .i64 0) rfl;have f0:=aH.free 0;have a1:=aH.at 1 (.int .i64 0) rfl;have f1:=aH.free 1;have a2:=aH.at 2 (.int .i64 0) rfl;have f2:=aH.free 2;have a3:=aH.at 3 (.int .i64 0) rfl;have f3:=aH.free 3;have a4:=aH.at 4 (.int .i64 0) rfl;have f4:=aH.free 4;have a5:=aH.at 5 (.int .i64 0) rfl;have f5:=aH.free 5;have a6:=aH.at 6 (.int .i64 0) rfl;have f6:=aH.free 6;have a7:=aH.at 7 (.int .i64 0) rfl;have f7:=aH.free 7;have a8:=aH.at 8 (.int .i64 0) rfl;have f8:=aH.free 8;have hNc:N≤cap:=by obtain⟨ao,cp,hv,h1,_⟩:=bE h.dr;injection hv with _ e1 e2;omega
 have hnc:n≤cap2:=by obtain⟨ao,cp,hv,h1,_⟩:=bE h.js;injection hv with _ e1 e2;omega
 obtain⟨w3,hw3,hb3,gz⟩:=tT aH 9 0 0 0 0 0 0 0 0;replace aP:=qae aP;replace aC:=qae aC;replace hb3:=qae hb3.drew;clear h hb bg aH hN qD;by_cases h1:wi<1
 ·skip
  have d1:decide (us<0)=false:=qah (by omega);have d2:decide (us>255)=false:=qah (by omega);have d3:decide (pr<0)=false:=qah (by omega);have d4:decide (pr>1000)=false:=qah (by omega);have d5:decide (wi<1)=true:=qag (by omega);clear hn;go_enter func91,ntmps91;go_wp2_with fail;rw[←aj];replace aj:=qae aj;go_region;go_wp2_with fail;rw[←hw3];replace hw3:=qae hw3;have eZ:MW w3.drew p (.slice ao N cap) (.slice dI n cap2) M:=aP.out.cK hb3.out (fun k hk=>Nat.lt_succ_of_lt (hp0.out k hk));have hof:aB (ax p (.slice ao N cap) (.slice dI n cap2)) w w3.drew:=(aB.of_below (S:=ax p (.slice ao N cap) (.slice dI n cap2)) aC.out).later hb3.out (Nat.le_succ _);refine aO rfl rfl rfl gz underlying67 rfl (by kernel_rfl) ⟨rfl,⟨_,eZ,aY.refl _ _⟩,hof⟩
 have d1:decide (us<0)=false:=qah (by omega);have d2:decide (us>255)=false:=qah (by omega);have d3:decide (pr<0)=false:=qah (by omega);have d4:decide (pr>1000)=false:=qah (by omega);have d5:decide (wi<1)=false:=qah (by omega);have d6:decide (wi>(N:Int))=true:=qag (by omega);clear hn;go_enter func91,ntmps91;go_wp2_with fail;rw[←aj];replace aj:=qae aj;go_region;go_wp2_with fail;rw[←hw3];replace hw3:=qae hw3;have eZ:MW w3.drew p (.slice ao N cap) (.slice dI n cap2) M:=aP.out.cK hb3.out (fun k hk=>Nat.lt_succ_of_lt (hp0.out k hk));have hof:aB (ax p (.slice ao N cap) (.slice dI n cap2)) w w3.drew:=(aB.of_below (S:=ax p (.slice ao N cap) (.slice dI n cap2)) aC.out).later hb3.out (Nat.le_succ _);refine aO rfl rfl rfl gz underlying67 rfl (by kernel_rfl) ⟨rfl,⟨_,eZ,aY.refl _ _⟩,hof⟩
theorem Lx {N cap n cap2:Nat}{ao dI:Option Addr}(h:MW w p (.slice ao N cap) (.slice dI n cap2) M)(hb:MB M)(k qd us wi li pr:Int)(he:Bool)(no y:Int)(hN:N=M.dr.length)(qD:n=M.L.length)(g1:0≤us∧us≤255)(g2:0≤pr∧pr≤1000)(g3:1≤wi∧wi≤(N:Int))(hn:li<1∨1048576<li):Calls prog 91 #[.pointer (some ⟨p,0,none⟩),.agg #[.int .i64 k,.int .i64 qd,.int .i64 us,.int .i64 wi,.int .i64 li,.int .i64 pr,.bool he,.int .i64 no,.int .i64 y]] w (iJ w p (.slice ao N cap) (.slice dI n cap2) (dB 10,M)):=by
 have hnn:=hb.nn;have hll:=hb.ll;rw[←hN]at hnn;rw[←qD]at hll;obtain⟨wA,aj⟩:=qaa ((w.alloc (.cells #[.int .i64 k,.int .i64 qd,.int .i64 us,.int .i64 wi,.int .i64 li,.int .i64 pr,.bool he,.int .i64 no,.int .i64 y] 33)).alloc (.cells #[.int .i64 0,.int .i64 0,.int .i64 0,.int .i64 0,.int .i64 0,.int .i64 0,.int .i64 0,.int .i64 0,.int .i64 0] 67));have aC:Below w.heap.size w wA:=by rw[aj];exact(qac.alloc (qaf _) _).alloc (by simp) _
 have hsA:wA.heap.size=w.heap.size+2:=by rw[aj];simp
 have aH:aG wA (w.heap.size+1) aQ:=by rw[aj];exact heap_alloc2_new w _ _
 have bg:wA.heap[w.heap.size]? =some (.cells #[.int .i64 k,.int .i64 qd,.int .i64 us,.int .i64 wi,.int .i64 li,.int .i64 pr,.bool he,.int .i64 no,.int .i64 y] 33 (0,0)):=by rw[aj];exact aJ (heap_alloc_new w _)
 have aP:=h.kept aC;have hp0:Hid (∀k,ax p _ _ k→k<w.heap.size):=h.bF;have c1:=aP.read.c1;have c2:=aP.read.c2;have r2:wA.cell? ⟨w.heap.size,2,none⟩=some (.int .i64 us):=by simp[World.cell?,bg]
 have r3:wA.cell? ⟨w.heap.size,3,none⟩=some (.int .i64 wi):=by simp[World.cell?,bg]
 have r4:wA.cell? ⟨w.heap.size,4,none⟩=some (.int .i64 li):=by simp[World.cell?,bg]
 have r5:wA.cell? ⟨w.heap.size,5,none⟩=some (.int .i64 pr):=by simp[World.cell?,bg]
 have r6:wA.cell? ⟨w.heap.size,6,none⟩=some (.bool he):=by simp[World.cell?,bg]
 have a0:=aH.at 0 (.int .i64 0) rfl;have f0:=aH.free 0;have a1:=aH.at 1 (.int .i64 0) rfl;have f1:=aH.free 1;have a2:=aH.at 2 (.int .i64 0) rfl;have f2:=aH.free 2;have a3:=aH.at 3 (.int .i64 0) rfl;have f3:=aH.free 3;have a4:=aH.at 4 (.int .i64 0) rfl;have f4:=aH.free 4;have a5:=aH.at 5 (.int .i64 0) rfl;have f5:=aH.free 5;have a6:=aH.at 6 (.int .i64 0) rfl;have f6:=aH.free 6;have a7:=aH.at 7 (.int .i64 0) rfl;have f7:=aH.free 7;have a8:=aH.at 8 (.int .i64 0) rfl;have f8:=aH.free 8;have hNc:N≤cap:=by obtain⟨ao,cp,hv,h1,_⟩:=bE h.dr;injection hv with _ e1 e2;omega
 have hnc:n≤cap2:=by obtain⟨ao,cp,hv,h1,_⟩:=bE h.js;injection hv with _ e1 e2;omega
 obtain⟨w3,hw3,hb3,gz⟩:=tT aH 10 0 0 0 0 0 0 0 0;replace aP:=qae aP;replace aC:=qae aC;replace hb3:=qae hb3.drew;clear h hb bg aH hN qD;by_cases h1:li<1
 ·skip
  have d1:decide (us<0)=false:=qah (by omega);have d2:decide (us>255)=false:=qah (by omega);have d3:decide (pr<0)=false:=qah (by omega);have d4:decide (pr>1000)=false:=qah (by omega);have d5:decide (wi<1)=false:=qah (by omega);have d6:decide (wi>(N:Int))=false:=qah (by omega);have d7:decide (li<1)=true:=qag (by omega);clear hn;go_enter func91,ntmps91;go_wp2_with fail;rw[←aj];replace aj:=qae aj;go_region;go_wp2_with fail;rw[←hw3];replace hw3:=qae hw3;have eZ:MW w3.drew p (.slice ao N cap) (.slice dI n cap2) M:=aP.out.cK hb3.out (fun k hk=>Nat.lt_succ_of_lt (hp0.out k hk));have hof:aB (ax p (.slice ao N cap) (.slice dI n cap2)) w w3.drew:=(aB.of_below (S:=ax p (.slice ao N cap) (.slice dI n cap2)) aC.out).later hb3.out (Nat.le_succ _);refine aO rfl rfl rfl gz underlying67 rfl (by kernel_rfl) ⟨rfl,⟨_,eZ,aY.refl _ _⟩,hof⟩
 have d1:decide (us<0)=false:=qah (by omega);have d2:decide (us>255)=false:=qah (by omega);have d3:decide (pr<0)=false:=qah (by omega);have d4:decide (pr>1000)=false:=qah (by omega);have d5:decide (wi<1)=false:=qah (by omega);have d6:decide (wi>(N:Int))=false:=qah (by omega);have d7:decide (li<1)=false:=qah (by omega);have d8:decide (li>1048576)=true:=qag (by omega);clear hn;go_enter func91,ntmps91;go_wp2_with fail;rw[←aj];replace aj:=qae aj;go_region;go_wp2_with fail;rw[←hw3];replace hw3:=qae hw3;have eZ:MW w3.drew p (.slice ao N cap) (.slice dI n cap2) M:=aP.out.cK hb3.out (fun k hk=>Nat.lt_succ_of_lt (hp0.out k hk));have hof:aB (ax p (.slice ao N cap) (.slice dI n cap2)) w w3.drew:=(aB.of_below (S:=ax p (.slice ao N cap) (.slice dI n cap2)) aC.out).later hb3.out (Nat.le_succ _);refine aO rfl rfl rfl gz underlying67 rfl (by kernel_rfl) ⟨rfl,⟨_,eZ,aY.refl _ _⟩,hof⟩
theorem Om {N cap n cap2:Nat}{ao dI:Option Addr}(h:MW w p (.slice ao N cap) (.slice dI n cap2) M)(hb:MB M)(k qd us wi li pr:Int)(he:Bool)(no y:Int)(hN:N=M.dr.length)(qD:n=M.L.length)(g1:0≤us∧us≤255)(g2:0≤pr∧pr≤1000)(g3:1≤wi∧wi≤(N:Int))(g4:1≤li∧li≤1048576)(hn:63<nE M∨1023<n):Calls prog 91 #[.pointer (some ⟨p,0,none⟩),.agg #[.int .i64 k,.int .i64 qd,.int .i64 us,.int .i64 wi,.int .i64 li,.int .i64 pr,.bool he,.int .i64 no,.int .i64 y]] w (iJ w p (.slice ao N cap) (.slice dI n cap2) (dB 6,M)):=by
 have hnn:=hb.nn;have hll:=hb.ll;rw[←hN]at hnn;rw[←qD]at hll;obtain⟨wA,aj⟩:=qaa ((w.alloc (.cells #[.int .i64 k,.int .i64 qd,.int .i64 us,.int .i64 wi,.int .i64 li,.int .i64 pr,.bool he,.int .i64 no,.int .i64 y] 33)).alloc (.cells #[.int .i64 0,.int .i64 0,.int .i64 0,.int .i64 0,.int .i64 0,.int .i64 0,.int .i64 0,.int .i64 0,.int .i64 0] 67));have aC:Below w.heap.size w wA:=by rw[aj];exact(qac.alloc (qaf _) _).alloc (by simp) _
 have hsA:wA.heap.size=w.heap.size+2:=by rw[aj];simp
 have aH:aG wA (w.heap.size+1) aQ:=by rw[aj];exact heap_alloc2_new w _ _
 have bg:wA.heap[w.heap.size]? =some (.cells #[.int .i64 k,.int .i64 qd,.int .i64 us,.int .i64 wi,.int .i64 li,.int .i64 pr,.bool he,.int .i64 no,.int .i64 y] 33 (0,0)):=by rw[aj];exact aJ (heap_alloc_new w _)
 have aP:=h.kept aC;have hp0:Hid (∀k,ax p _ _ k→k<w.heap.size):=h.bF;have c1:=aP.read.c1;have c2:=aP.read.c2;have r2:wA.cell? ⟨w.heap.size,2,none⟩=some (.int .i64 us):=by simp[World.cell?,bg]
 have r3:wA.cell? ⟨w.heap.size,3,none⟩=some (.int .i64 wi):=by simp[World.cell?,bg]
 have r4:wA.cell? ⟨w.heap.size,4,none⟩=some (.int .i64 li):=by simp[World.cell?,bg]
 have r5:wA.cell? ⟨w.heap.size,5,none⟩=some (.int .i64 pr):=by simp[World.cell?,bg]
 have r6:wA.cell? ⟨w.heap.size,6,none⟩=some (.bool he):=by simp[World.cell?,bg]
 have a0:=aH.at 0 (.int .i64 0) rfl;have f0:=aH.free 0;have a1:=aH.at 1 (.int .i64 0) rfl;have f1:=aH.free 1;have a2:=aH.at 2 (.int .i64 0) rfl;have f2:=aH.free 2;have a3:=aH.at 3 (.int .i64 0) rfl;have f3:=aH.free 3;have a4:=aH.at 4 (.int .i64 0) rfl;have f4:=aH.free 4;have a5:=aH.at 5 (.int .i64 0) rfl;have f5:=aH.free 5;have a6:=aH.at 6 (.int .i64 0) rfl;have f6:=aH.free 6;have a7:=aH.at 7 (.int .i64 0) rfl;have f7:=aH.free 7;have a8:=aH.at 8 (.int .i64 0) rfl;have f8:=aH.free 8;have hNc:N≤cap:=by obtain⟨ao,cp,hv,h1,_⟩:=bE h.dr;injection hv with _ e1 e2;omega
 have hnc:n≤cap2:=by obtain⟨ao,cp,hv,h1,_⟩:=bE h.js;injection hv with _ e1 e2;omega
 obtain⟨w3,hw3,hb3,gz⟩:=tT aH 6 0 0 0 0 0 0 0 0;have hlv:=CJ (aP.kept qac.drew).read hb;have hlL:nE M≤n:=by rw[qD];exact List.countP_le_length
 generalize nE M=V at*;replace aP:=qae aP;replace aC:=qae aC;replace hb3:=qae hb3.drew;clear h hb bg aH hN qD;by_cases h1:63<V
 ·skip
  have d1:decide (us<0)=false:=qah (by omega);have d2:decide (us>255)=false:=qah (by omega);have d3:decide (pr<0)=false:=qah (by omega);have d4:decide (pr>1000)=false:=qah (by omega);have d5:decide (wi<1)=false:=qah (by omega);have d6:decide (wi>(N:Int))=false:=qah (by omega);have d7:decide (li<1)=false:=qah (by omega);have d8:decide (li>1048576)=false:=qah (by omega);have d9:decide ((V:Int)>63)=true:=qag (by omega);clear hn;go_enter func91,ntmps91;go_wp2_with fail;rw[←aj];replace aj:=qae aj;go_region;go_wp2_with fail;go_at_call 155;refine hlv.mono ?_;clear hlv;rintro e w4 ⟨rfl,rfl⟩;go_wp2_with fail;rw[←hw3];replace hw3:=qae hw3;have eZ:MW w3.drew p (.slice ao N cap) (.slice dI n cap2) M:=aP.out.cK hb3.out (fun k hk=>Nat.lt_succ_of_lt (hp0.out k hk));have hof:aB (ax p (.slice ao N cap) (.slice dI n cap2)) w w3.drew:=(aB.of_below (S:=ax p (.slice ao N cap) (.slice dI n cap2)) aC.out).later hb3.out (Nat.le_succ _);refine aO rfl rfl rfl gz underlying67 rfl (by kernel_rfl) ⟨rfl,⟨_,eZ,aY.refl _ _⟩,hof⟩
 have d1:decide (us<0)=false:=qah (by omega);have d2:decide (us>255)=false:=qah (by omega);have d3:decide (pr<0)=false:=qah (by omega);have d4:decide (pr>1000)=false:=qah (by omega);have d5:decide (wi<1)=false:=qah (by omega);have d6:decide (wi>(N:Int))=false:=qah (by omega);have d7:decide (li<1)=false:=qah (by omega);have d8:decide (li>1048576)=false:=qah (by omega);have d9:decide ((V:Int)>63)=false:=qah (by omega);have d10:decide ((n:Int)>1023)=true:=qag (by omega);clear hn;go_enter func91,ntmps91;go_wp2_with fail;rw[←aj];replace aj:=qae aj;go_region;go_wp2_with fail;go_at_call 155;refine hlv.mono ?_;clear hlv;rintro e w4 ⟨rfl,rfl⟩;go_wp2_with fail;rw[←hw3];replace hw3:=qae hw3;have eZ:MW w3.drew p (.slice ao N cap) (.slice dI n cap2) M:=aP.out.cK hb3.out (fun k hk=>Nat.lt_succ_of_lt (hp0.out k hk));have hof:aB (ax p (.slice ao N cap) (.slice dI n cap2)) w w3.drew:=(aB.of_below (S:=ax p (.slice ao N cap) (.slice dI n cap2)) aC.out).later hb3.out (Nat.le_succ _);refine aO rfl rfl rfl gz underlying67 rfl (by kernel_rfl) ⟨rfl,⟨_,eZ,aY.refl _ _⟩,hof⟩
theorem Pf :(prog.info? 55).map (fun i=>(i.zero,i.size,i.bytes))=some (some (.agg (ag default).toArray),10,80):=by kernel_rfl
def Gw (w:World)(o o':Option Nat):Prop:=o'=o∨∃q,o'=some q∧w.heap.size≤q
def AppS (w1:World)(hq:Value)(L:List Jb)(x:Jb)(vs:List Value)(W:World):Prop:=
 match vs with
 | []=>W.ownsRow 0 55 10 hq L.length (L.flatMap ag)
 |v'::_=>W.ownsRow 0 55 10 v' (L.length+1) (L.flatMap ag++ag x)∧Gw w1 hq.ownBlock v'.ownBlock
theorem Gx {w1 a b:World}{hq:Value}{L:List Jb}{x:Jb}{vs:List Value}(h:Below a.heap.size a b)(hs:AppS w1 hq L x vs a):AppS w1 hq L x vs b:=by
 unfold AppS at*;split at hs
 ·exact Put.gN hs h
 ·exact⟨Put.gN hs.1 h,hs.2⟩
theorem MW.wU (h:MW w p dv lv M)(hg:w.grownBy w' lv.ownBlock):w'.heap[p]? =some (.cells #[.int .i64 M.now,dv,lv,.bool M.cl] 94 (0,0)):=
 (hg.block p h.lt (fun e=>(h.xZ e.symm).1 rfl)).trans h.cell
theorem MW.row (h:MW w p dv lv M){b:Nat}(hb:¬ax p dv lv b)(cs:Array Value):MW (w.setRow b cs) p dv lv M:=
 ⟨(setRow_other w b p cs (fun e=>hb (.inl e.symm))).trans h.cell,jE h.dr fun k hk=>setRow_other w b k cs (fun e=>hb (.inr (.inl (e▸hk)))),jE h.js fun k hk=>setRow_other w b k cs (fun e=>hb (.inr (.inr (e▸hk))))⟩
theorem MW.grown (h:MW w p dv lv M)(hg:w.grownBy w' lv.ownBlock)(x:Jb){vv:Value}(ho:w'.ownsRow 0 55 10 vv (M.L.length+1) (M.L.flatMap ag++ag x))(hn:Gw w lv.ownBlock vv.ownBlock):
 w'.cell? ⟨p,2,none⟩=some lv∧w'.frozen? ⟨p,2,none⟩=false∧MW (w'.setCell ⟨p,2,none⟩ vv) p dv vv {M with L:=M.L++[x]}∧aB (ax p dv lv) w (w'.setCell ⟨p,2,none⟩ vv)∧aY w (ax p dv lv) (ax p dv vv):=by
 have hc:=h.wU hg;have hpv:∀k,vv.ownBlock=some k→k≠p:=fun k hk e=>by
  rcases hn with h1|⟨q,h1,h2⟩
  ·rw[hk]at h1;exact(h.xZ h1.symm).1 e
  ·rw[hk]at h1;injection h1 with h1;have:=h.lt;omega
 refine⟨by simp[World.cell?,hc],by simp[World.frozen?,hc],⟨heap_put (i:=2) hc vv,jE h.dr fun k hk=>?_,?_⟩,⟨hg.os,hg.tape,hg.output,by show _≤(w'.setCell _ _).heap.size;simp[World.setCell];exact hg.size,fun k hk hnf=>?_⟩,fun k hk=>?_⟩
 ·rw[Below.heap_setCell _ _ _ _ (h.G6 hk)];exact hg.block k (h.dr.lt k hk).2 (fun e=>(h.xZ e.symm).2 hk)
 ·have e1:(M.L++[x]).length=M.L.length+1:=by simp
  have e2:(M.L++[x]).flatMap ag=M.L.flatMap ag++ag x:=by simp
  show World.ownsRow _ _ _ _ _ (M.L++[x]).length ((M.L++[x]).flatMap ag);rw[e1,e2];exact jE ho fun k hk=>Below.heap_setCell _ _ _ _ (hpv k hk)
 ·rw[Below.heap_setCell _ _ _ _ (fun e=>hnf (.inl e))];exact hg.block k hk (fun e=>hnf (.inr (.inr e.symm)))
 ·rcases hk with e|e|e
  ·exact .inl (.inl e)
  ·exact .inl (.inr (.inl e))
  ·rcases hn with h1|⟨q,h1,h2⟩
   ·rw[e]at h1;exact .inl (.inr (.inr h1.symm))
   ·rw[e]at h1;injection h1 with h1;exact .inr (by omega)
theorem IY {N cap n cap2:Nat}{ao dI:Option Addr}(h:MW w p (.slice ao N cap) (.slice dI n cap2) M)(hb:MB M)(k qd us wi li pr:Int)(no y:Int)(hN:N=M.dr.length)(qD:n=M.L.length)(g1:0≤us∧us≤255)(g2:0≤pr∧pr≤1000)(g3:1≤wi∧wi≤(N:Int))(g4:1≤li∧li≤1048576)(hv:nE M≤63)(MJ:n≤1023):Calls prog 91 #[.pointer (some ⟨p,0,none⟩),.agg #[.int .i64 k,.int .i64 qd,.int .i64 us,.int .i64 wi,.int .i64 li,.int .i64 pr,.bool true,.int .i64 no,.int .i64 y]] w (iJ w p (.slice ao N cap) (.slice dI n cap2) (gH ((n:Int)+1,us,wi,li,pr,2,-1,-1,-1,0),{M with L:=M.L++[((n:Int)+1,us,wi,li,pr,2,-1,-1,-1,0)]})):=by
 have hnn:=hb.nn;have hll:=hb.ll;rw[←hN]at hnn;rw[←qD]at hll;obtain⟨wA,aj⟩:=qaa ((w.alloc (.cells #[.int .i64 k,.int .i64 qd,.int .i64 us,.int .i64 wi,.int .i64 li,.int .i64 pr,.bool true,.int .i64 no,.int .i64 y] 33)).alloc (.cells #[.int .i64 0,.int .i64 0,.int .i64 0,.int .i64 0,.int .i64 0,.int .i64 0,.int .i64 0,.int .i64 0,.int .i64 0] 67));have aC:Below w.heap.size w wA:=by rw[aj];exact(qac.alloc (qaf _) _).alloc (by simp) _
 have hsA:wA.heap.size=w.heap.size+2:=by rw[aj];simp
 have aH:aG wA (w.heap.size+1) aQ:=by rw[aj];exact heap_alloc2_new w _ _
 have bg:wA.heap[w.heap.size]? =some (.cells #[.int .i64 k,.int .i64 qd,.int .i64 us,.int .i64 wi,.int .i64 li,.int .i64 pr,.bool true,.int .i64 no,.int .i64 y] 33 (0,0)):=by rw[aj];exact aJ (heap_alloc_new w _)
 have aP:=h.kept aC;have hp0:Hid (∀k,ax p _ _ k→k<w.heap.size):=h.bF;have c1:=aP.read.c1;have c2:=aP.read.c2;have r2:wA.cell? ⟨w.heap.size,2,none⟩=some (.int .i64 us):=by simp[World.cell?,bg]
 have r3:wA.cell? ⟨w.heap.size,3,none⟩=some (.int .i64 wi):=by simp[World.cell?,bg]
 have r4:wA.cell? ⟨w.heap.size,4,none⟩=some (.int .i64 li):=by simp[World.cell?,bg]
 have r5:wA.cell? ⟨w.heap.size,5,none⟩=some (.int .i64 pr):=by simp[World.cell?,bg]
 have r6:wA.cell? ⟨w.heap.size,6,none⟩=some (.bool true):=by simp[World.cell?,bg]
 have hNc:N≤cap:=by obtain⟨ao,cp,hv,h1,_⟩:=bE h.dr;injection hv with _ e1 e2;omega
 have hnc:n≤cap2:=by obtain⟨ao,cp,hv,h1,_⟩:=bE h.js;injection hv with _ e1 e2;omega
 have hlv:=CJ (aP.kept qac.drew).read hb;generalize nE M=V at*;have wn:IntKind.i64.wrap ((n:Int)+1)=(n:Int)+1:=by rw[IntKind.wrap_i64];omega
 replace aP:=qae aP;replace aC:=qae aC;replace bg:=qae bg;replace aH:=qae aH;replace hN:=qae hN;replace qD:=qae qD;replace hb:=qae hb;obtain⟨i0,hi0,hz0,hz1,hz2⟩:=info_parts Pf;clear h;have d1:decide (us<0)=false:=qah (by omega);have d2:decide (us>255)=false:=qah (by omega);have d3:decide (pr<0)=false:=qah (by omega);have d4:decide (pr>1000)=false:=qah (by omega);have d5:decide (wi<1)=false:=qah (by omega);have d6:decide (wi>(N:Int))=false:=qah (by omega);have d7:decide (li<1)=false:=qah (by omega);have d8:decide (li>1048576)=false:=qah (by omega);have d9:decide ((V:Int)>63)=false:=qah (by omega);have d10:decide ((n:Int)>1023)=false:=qah (by omega);go_enter func91,ntmps91;go_wp2_with fail;rw[←aj];replace aj:=qae aj;go_region;go_wp2_with fail;go_at_call 155;refine hlv.mono ?_;clear hlv;rintro e w4 ⟨rfl,rfl⟩;go_wp2_with fail;obtain⟨w2,hw2⟩:=qaa (wA.drew);have hb2:Below wA.heap.size wA w2:=by rw[hw2];exact qac.drew
 have hM2:Hid (MW w2 p (.slice ao N cap) (.slice dI n cap2) M):=aP.out.kept hb2;have mD:Hid (w2.heap[w.heap.size]? =some (.cells #[.int .i64 k,.int .i64 qd,.int .i64 us,.int .i64 wi,.int .i64 li,.int .i64 pr,.bool true,.int .i64 no,.int .i64 y] 33 (0,0))):=(hb2.block _ (ai bg.out)).trans bg.out;have hR2:Hid (aG w2 (w.heap.size+1) aQ):=(hb2.block _ (ai aH.out)).trans aH.out;have tN:Hid (aB (ax p (.slice ao N cap) (.slice dI n cap2)) w w2):=(aB.of_below (S:=(ax p (.slice ao N cap) (.slice dI n cap2))) aC.out).later hb2 (by omega);have Hf:Hid (w.heap.size+1<w2.heap.size):=ai hR2.out;rw[←hw2];replace hw2:=qae hw2;clear c1 c2 r2 r3 r4 r5 r6 hb2;obtain⟨cY,LA⟩:=qab (ag ((n:Int)+1,us,wi,li,pr,1,-1,-1,-1,0));have nJ:=qae LA;clear LA;refine Reg2.rd w2 16 96 (Reg2.rows 0 [.p 0,.p 1,.p 3,.p 7,.p 15,.p 31,.p 0,.p 64,.p 0,.p 256,.p 0,.p 1024,.p 0,.p 4096,.p 16383,.p 0]) [0,0,0,1,1,0,0,1,0,1,0,1,0,1,1,1] [.pure,.pure,.pure,.mU (.slice dI n cap2),.mU (.int .i64 n),.pure,.pure,.mU (.int .i64 us),.pure,.mU (.int .i64 wi),.pure,.mU (.int .i64 li),.pure,.mU (.int .i64 pr),.mU (.agg cY.toArray),.minor Nat 0 (fun q=>.pointer (some ⟨q,0,none⟩)) (fun q W=>w2.heap.size≤q∧W.heap[q]? =some (.cells #[.int .i64 0,.int .i64 0,.int .i64 0,.int .i64 0,.int .i64 0,.int .i64 0,.int .i64 0,.int .i64 0,.int .i64 0,.int .u64 0] 55 (0,0)))] (by kernel_rfl) (by kernel_rfl) rfl rfl (by exact ⟨trivial,trivial,trivial,Reg2.tt,Reg2.tt,trivial,trivial,Reg2.tt,trivial,Reg2.tt,trivial,Reg2.tt,trivial,Reg2.tt,Reg2.tt,⟨fun x a b he hx=>⟨hx.1,(he.block _ (ai hx.2)).trans hx.2⟩,fun x a b he hx=>⟨hx.1,(he.block _ (ai hx.2)).trans hx.2⟩⟩,trivial⟩) ⟨rfl,rfl,rfl,qaf _,fun _ _=>rfl⟩ ?_;dsimp only[Reg2.rows,Reg2.mk,List.zip,List.zipWith,List.take]
 repeat(refine' Reg2.ak _ (by rfl) (fun wz=>?_) ?_;rotate_left;(go_simp;first|rfl|rw[qai (by omega)]);simp only[Act.put,xA,xB,xC,xD,xE,id])
 refine Reg2.pm (fun wz hI hF=>?_) (fun s3=>?_) (by rfl)
 ·have d0:=(hM2.out.kept hI).read.c2;go_wp2_with fail
  first|exact⟨_,rfl,rfl,qad⟩|exact⟨_,rfl,⟨(),rfl,trivial⟩,qad⟩
 simp only[Act.put,xA,xB,xC,xD,xE,id];refine Reg2.pm (fun wz hI hF=>?_) (fun s4=>?_) (by rfl)
 ·go_wp2_with fail
  first|exact⟨_,rfl,rfl,qad⟩|exact⟨_,rfl,⟨(),rfl,trivial⟩,qad⟩
 simp only[Act.put,xA,xB,xC,xD,xE,id];refine Reg2.ak (.int .i64 ((n:Int)+1)) (by rfl) (fun wz=>?_) ?_
 ·go_simp
  (try rw[wn])
 simp only[Act.put,xA,xB,xC,xD,xE,id]
 repeat((first
  |(refine' Reg2.ak _ (by rfl) (fun wz=>?_) ?_;rotate_left;(go_simp;first|rfl|rw[qai (by omega)]))
  |(refine Reg2.az (by rfl) (fun wz hI hF=>?_) (fun _=>?_)
    ·unfold Reg2.One;have hX:=(hI.block _ (ai mD.out)).trans mD.out;have d0:wz.cell? ⟨w.heap.size,2,none⟩=some (.int .i64 us):=by simp[World.cell?,hX]
     clear hX;have LB:=(hI.block _ (ai mD.out)).trans mD.out;have qY:wz.cell? ⟨w.heap.size,3,none⟩=some (.int .i64 wi):=by simp[World.cell?,LB]
     clear LB;have LC:=(hI.block _ (ai mD.out)).trans mD.out;have tO:wz.cell? ⟨w.heap.size,4,none⟩=some (.int .i64 li):=by simp[World.cell?,LC]
     clear LC;have LF:=(hI.block _ (ai mD.out)).trans mD.out;have Wq:wz.cell? ⟨w.heap.size,5,none⟩=some (.int .i64 pr):=by simp[World.cell?,LF]
     clear LF;obtain rfl:=nJ.out;go_wp2_with fail
     first|exact⟨_,rfl,rfl,qad⟩|exact⟨_,rfl,⟨(),rfl,trivial⟩,qad⟩));simp only[Act.put,xA,xB,xC,xD,xE,id])
 refine Reg2.pm (fun wz hI hF=>?_) (fun s15=>?_) (by rfl)
 ·go_wp2_with fail;exact⟨_,rfl,⟨wz.heap.size,rfl,hI.size,heap_alloc_new wz _⟩,(Below.refl wz.heap.size wz).alloc (qaf _) _⟩
 simp only[Act.put,xA,xB,xC,xD,xE,id];refine Reg2.aD ?_;intro w7 dC _ gF;obtain⟨_,_,_,_,_,_,_,_,_,_,_,_,_,_,_,hr,_⟩:=gF;clear s3 s4;dsimp only[List.drop];have hst:=lL (x:=((n:Int)+1,us,wi,li,pr,1,-1,-1,-1,0)) (y:=(0,0,0,0,0,0,0,0,0,0)) hr.2;rw[nJ.out]at hst;have lY:cY.length=10:=by rw[←nJ.out];exact aA _
 have UW:=(dC.block _ (ai mD.out)).trans mD.out;have KF:=(dC.block _ (ai hR2.out)).trans hR2.out;obtain⟨w8,hw8⟩:=qaa (w7.setRow s15 cY.toArray);have Ph:w.heap.size+1<s15:=Nat.lt_of_lt_of_le Hf.out hr.1;have hne:¬w.heap.size=s15:=by omega
 have kN:Below s15 w7 w8:=by rw[hw8];exact mP qac (qaf _) _
 have yc:Hid (w8.heap[s15]? =some (.cells (ag ((n:Int)+1,us,wi,li,pr,1,-1,-1,-1,0)).toArray 55 (0,0))):=by show _=_;rw[hw8,nJ.out];exact setRow_heap w7 s15 _ _ _ _ hr.2
 have Rs:Hid (w8.heap[w.heap.size]? =some (.cells #[.int .i64 k,.int .i64 qd,.int .i64 us,.int .i64 wi,.int .i64 li,.int .i64 pr,.bool true,.int .i64 no,.int .i64 y] 33 (0,0))):=(kN.block _ (by omega)).trans UW;have PG:Hid (aG w8 (w.heap.size+1) aQ):=(kN.block _ Ph).trans KF;have sV:Hid (MW w8 p (.slice ao N cap) (.slice dI n cap2) M):=(hM2.out.kept dC).cK kN (fun k hk=>by have:=hp0.out k hk;omega);have sF:Hid (aB (ax p (.slice ao N cap) (.slice dI n cap2)) w w8):=(tN.out.later dC tN.out.size).later kN (by omega);have c9:w8.cell? ⟨w.heap.size,6,none⟩=some (.bool true):=by simp[World.cell?,Rs.out]
 have a8:=iN yc.out 5 _ rfl;have f8:=kQ yc.out 5;obtain⟨wB,cO⟩:=qaa (w8.setCell ⟨s15,5,none⟩ (.int .i64 2));have fT:Below s15 w8 wB:=by rw[cO];exact aT qac (qaf _) 5 _
 have fD:Hid (wB.heap[s15]? =some (.cells (ag ((n:Int)+1,us,wi,li,pr,2,-1,-1,-1,0)).toArray 55 (0,0))):=by show _=_;rw[cO];exact heap_put (i:=5) yc.out (.int .i64 2)
 have lN:Hid (wB.heap[w.heap.size]? =some (.cells #[.int .i64 k,.int .i64 qd,.int .i64 us,.int .i64 wi,.int .i64 li,.int .i64 pr,.bool true,.int .i64 no,.int .i64 y] 33 (0,0))):=(fT.block _ (by omega)).trans Rs.out;have nL:Hid (aG wB (w.heap.size+1) aQ):=(fT.block _ Ph).trans PG.out;have iO:Hid (MW wB p (.slice ao N cap) (.slice dI n cap2) M):=sV.out.cK fT (fun k hk=>by have:=hp0.out k hk;omega);have gQ:Hid (aB (ax p (.slice ao N cap) (.slice dI n cap2)) w wB):=sF.out.later fT (by omega);rw[hw8]at c9 a8 f8 cO;clear dC hr kN fT UW KF;go_wp2_with fail;rw[←cO];replace cO:=qae cO;replace hw8:=qae hw8;clear a8 f8 c9 hst lY;have hsB:s15<wB.heap.size:=ai fD.out;have IZ:∀q,(Value.slice dI n cap2).ownBlock=some q→q<w.heap.size:=fun q hq=>hp0.out q (.inr (.inr hq));have hxg:Hid (∀W,wB.grownBy W (Value.slice dI n cap2).ownBlock→W.heap[s15]? =some (.cells (ag ((n:Int)+1,us,wi,li,pr,2,-1,-1,-1,0)).toArray 55 (0,0))):=fun W hW=>(hW.block _ hsB (fun e=>by have:=IZ _ e.symm;omega)).trans fD.out;have Na:Hid (∀W,wB.grownBy W (Value.slice dI n cap2).ownBlock→W.heap[p]? =some (.cells #[.int .i64 M.now,.slice ao N cap,.slice dI n cap2,.bool M.cl] 94 (0,0))):=fun W hW=>iO.out.wU hW;have hI0:wB.grownBy wB.drew (Value.slice dI n cap2).ownBlock:=⟨rfl,rfl,rfl,qaf _,fun _ _ _=>rfl⟩;have hS0:wB.drew.ownsRow 0 55 10 (.slice dI n cap2) M.L.length (M.L.flatMap ag):=bH iO.out.js fun _ _=>rfl;have rJ:Hid ((ag ((n:Int)+1,us,wi,li,pr,2,-1,-1,-1,0)).length=10):=aA _;have rM:Hid (∀u∈ag ((n:Int)+1,us,wi,li,pr,2,-1,-1,-1,0),u.oneCell'=true):=dO _;refine Reg2.vo 8 96 (Reg2.rows 0 [.p 0,.p 0,.p 2,.p 6,.p 14,.p 0,.p 32,.p 126]) [0,0,0,0,1,1,1,3]
  [.pure,.pure,.pure,.pure,.mU (.slice dI n cap2),.mU (.agg #[.int .i64 ((n:Int)+1),.int .i64 us,.int .i64 wi,.int .i64 li,.int .i64 pr,.int .i64 2,.int .i64 (-1),.int .i64 (-1),.int .i64 (-1),.int .u64 0]),.minor Nat 0 (fun x=>.slice (some ⟨x,0,none⟩) 1 1) (fun x W=>W.heap[x]? =some (.cells (ag ((n:Int)+1,us,wi,li,pr,2,-1,-1,-1,0)).toArray 55 (0,0))∧wB.heap.size≤x),.major Value undef id]
  (fun W=>wB.grownBy W (Value.slice dI n cap2).ownBlock) (AppS wB (.slice dI n cap2) M.L ((n:Int)+1,us,wi,li,pr,2,-1,-1,-1,0)) (fun a b=>a.grownBy b (Value.slice dI n cap2).ownBlock) (by kernel_rfl) (by kernel_rfl) rfl rfl (fun vs a b h hs=>Gx h hs) ?_ ?_ ?_ ?_ ?_ ?_
 ·intro a b he hb;exact⟨he.os.trans hb.os,he.tape.trans hb.tape,he.output.trans hb.output,Nat.le_trans hb.size he.size,fun q hq' h2=>(he.block q (Nat.lt_of_lt_of_le hq' hb.size)).trans (hb.block q hq' h2)⟩
 ·intro a b he hb;exact⟨he.os.trans hb.os,he.tape.trans hb.tape,he.output.trans hb.output,Nat.le_trans hb.size he.size,fun q hq' h2=>(he.block q (Nat.lt_of_lt_of_le hq' hb.size) h2).trans (hb.block q hq' h2)⟩
 ·exact⟨trivial,trivial,trivial,trivial,⟨fun _ _ _ _ _=>trivial,fun _ _ _ _ _=>trivial⟩,⟨fun _ _ _ _ _=>trivial,fun _ _ _ _ _=>trivial⟩,⟨fun x a b he h=>⟨(he.block x (ai h.1)).trans h.1,h.2⟩,fun x a b he h=>⟨(he.block x (ai h.1) (fun e=>by have:=IZ x e.symm;have:=h.2;omega)).trans h.1,h.2⟩⟩,trivial,trivial⟩
 ·exact hI0
 ·exact hS0
 dsimp only[Reg2.rows,Reg2.mk,List.zip,List.zipWith,List.take]
 repeat((first
  |(refine' Reg2.ak _ (by rfl) (fun wz=>?_) ?_;rotate_left;(go_simp;first|rfl|rw[qai (by omega)]))
  |(refine Reg2.az (by rfl) (fun wz hI hF=>?_) (fun _=>?_)
    ·unfold Reg2.One;have d0:wz.cell? ⟨p,2,none⟩=some (.slice dI n cap2):=by simp[World.cell?,Na.out wz hI]
     have kk:=iN (hxg.out wz hI);have q0:=kk 0 _ rfl;have q1:=kk 1 _ rfl;have q2:=kk 2 _ rfl;have q3:=kk 3 _ rfl;have q4:=kk 4 _ rfl;have q5:=kk 5 _ rfl;have q6:=kk 6 _ rfl;have q7:=kk 7 _ rfl;have q8:=kk 8 _ rfl;have q9:=kk 9 _ rfl;clear kk;go_wp2_with fail
     first|exact⟨_,rfl,rfl,qad⟩|exact⟨_,rfl,⟨(),rfl,trivial⟩,qad⟩));simp only[Act.put,xA,xB,xC,xD,xE,id])
 refine Reg2.pm (fun wz hI hF=>?_) (fun u6=>?_) (by rfl)
 ·go_wp2_with fail;exact⟨_,rfl,⟨wz.heap.size,rfl,heap_alloc_new wz (.cells (ag ((n:Int)+1,us,wi,li,pr,2,-1,-1,-1,0)).toArray 55),hI.size⟩,(Below.refl wz.heap.size wz).alloc (qaf _) _⟩
 simp only[Act.put,xA,xB,xC,xD,xE,id];refine Reg2.pj (fun wz hI hS hF=>?_) (fun u7=>?_) (by rfl)
 ·have hS1:wz.ownsRow 0 55 10 (.slice dI n cap2) M.L.length (M.L.flatMap ag):=hS;rw[←qD.out]at hS1;have hone:=hF.2.2.2.2.2.1;have hsrc:Src prog 10 50 (.slice (some ⟨u6,0,none⟩) 1 1) 1 (ag ((n:Int)+1,us,wi,li,pr,2,-1,-1,-1,0)) wz:=Src.ofSlice wz underlying50 ⟨u6,0,none⟩ 1 1 (ag ((n:Int)+1,us,wi,li,pr,2,-1,-1,-1,0)) rJ.out (fun j u hj=>by rw[Go.WideShapes.add_plain];simpa using iN hone.1 j u hj) rM.out;have hszI:=hI.size;go_wp2_with (at_builtin;go_must (refine kI _ rfl (.tmp 82) (.tmp 84) 50 50 rfl 0 55 i0 (.agg (ag default).toArray) 10 80 underlying50 hi0 hz0 hz1 hz2 rfl (.slice dI n cap2) n (M.L.flatMap ag) rfl hS1 (.slice (some ⟨u6,0,none⟩) 1 1) 1 (ag ((n:Int)+1,us,wi,li,pr,2,-1,-1,-1,0)) rfl hsrc ?c0 ?c1 (Nat.zero_le _) ?c2))
  case c0=>unfold maxLen;omega
  case c1=>omega
  case c2=>
   intro v' w9 MH MI hnb;have UX:Gw wB (Value.slice dI n cap2).ownBlock v'.ownBlock:=by
    rcases hnb with e|e
    ·exact .inl e
    ·exact .inr ⟨_,e,hszI⟩
   go_wp2_with fail;exact⟨v',rfl,⟨by rw[←qD.out];exact MH,UX⟩,MI⟩
 simp only[Act.put,xA,xB,xC,xD,xE,id];refine Reg2.aD ?_;intro w3 HI3 Dw vW;clear vW hI0 hS0 rJ rM;obtain⟨ho3,Er⟩:w3.ownsRow 0 55 10 u7 (M.L.length+1) (M.L.flatMap ag++ag ((n:Int)+1,us,wi,li,pr,2,-1,-1,-1,0))∧Gw wB (Value.slice dI n cap2).ownBlock u7.ownBlock:=Dw;obtain⟨g',c',rfl⟩:∃g' c',u7=.slice (some ⟨g',0,none⟩) (n+1) c':=by
  obtain⟨I5,c',e,_,_,hp'⟩:=bE ho3;obtain⟨g',e2⟩:=hp' (by omega);exact⟨g',c',by rw[e,e2,qD.out]⟩
 obtain⟨pc,pf,pM,pO,pG⟩:=iO.out.grown HI3 ((n:Int)+1,us,wi,li,pr,2,-1,-1,-1,0) ho3 Er;dsimp only[List.drop];obtain⟨wC,eO⟩:=qaa (w3.setCell ⟨p,2,none⟩ (.slice (some ⟨g',0,none⟩) (n+1) c'));have mJ:Hid (MW wC p (.slice ao N cap) (.slice (some ⟨g',0,none⟩) (n+1) c') {M with L:=M.L++[((n:Int)+1,us,wi,li,pr,2,-1,-1,-1,0)]}):=by show MW _ _ _ _ _;rw[eO];exact pM
 have jX:Hid (aB (ax p (.slice ao N cap) (.slice dI n cap2)) w wC):=by show aB _ _ _;rw[eO];exact gQ.out.trans pO (aY.refl _ _)
 have Yb:w.heap.size≤wB.heap.size:=gQ.out.size;have V6:Hid (aY w (ax p (.slice ao N cap) (.slice dI n cap2)) (ax p (.slice ao N cap) (.slice (some ⟨g',0,none⟩) (n+1) c'))):=fun k hk=>(pG k hk).imp (fun h=>h) (fun h=>Nat.le_trans Yb h);have hpl:p<w.heap.size:=hp0.out p (.inl rfl);have hfo:Hid (∀b,w.heap.size≤b→b<wB.heap.size→¬ax p (.slice ao N cap) (.slice (some ⟨g',0,none⟩) (n+1) c') b):=fun b h1 h2 hk=>by
  rcases hk with e|e|e
  ·omega
  ·have:=hp0.out b (.inr (.inl e));omega
  ·rcases Er with h3|⟨q,h3,h4⟩
   ·rw[e]at h3;have:=IZ b h3.symm;omega
   ·rw[e]at h3;injection h3 with h3;omega
 have hsR:w.heap.size+1<wB.heap.size:=by omega
 replace hsR:=qae hsR;have hkeep:∀b,w.heap.size≤b→b<wB.heap.size→wC.heap[b]? =wB.heap[b]? :=fun b h1 h2=>by
  rw[eO,Below.heap_setCell _ _ _ _ (show b≠p by omega)];exact HI3.block b h2 (fun e=>by have:=IZ _ e.symm;omega)
 have zV:Hid (wC.heap[s15]? =some (.cells (ag ((n:Int)+1,us,wi,li,pr,2,-1,-1,-1,0)).toArray 55 (0,0))):=(hkeep _ (by omega) hsB).trans fD.out;have CO:Hid (wC.heap[w.heap.size]? =some (.cells #[.int .i64 k,.int .i64 qd,.int .i64 us,.int .i64 wi,.int .i64 li,.int .i64 pr,.bool true,.int .i64 no,.int .i64 y] 33 (0,0))):=(hkeep _ (qaf _) (by omega)).trans lN.out;have jv:Hid (aG wC (w.heap.size+1) aQ):=(hkeep _ (Nat.le_succ _) (by omega)).trans nL.out;have k6:wC.cell? ⟨w.heap.size,6,none⟩=some (.bool true):=by simp[World.cell?,CO.out]
 have lX:=aA ((n:Int)+1,us,wi,li,pr,2,-1,-1,-1,0);have zJ:=bC;obtain⟨k10,hk10⟩:∃k,k=10:=⟨_,rfl⟩;rw[←hk10]at lX zJ;replace hk10:=qae hk10;have hld:=bJ zV.out lX;clear pM pO pG hkeep HI3 ho3 Er hxg Na iO gQ fD lN nL CO;rw[eO]at k6 hld;have htl:=pK ((n:Int)+1,us,wi,li,pr,2,-1,-1,-1,0) wC;rw[eO]at htl;generalize htr:gH ((n:Int)+1,us,wi,li,pr,2,-1,-1,-1,0)=tr at*;replace htr:=qae htr;go_wp2_with fail;go_at_call 157;refine htl.mono ?_;rw[←eO];replace eO:=qae eO;clear htl hld k6 pc pf lX zJ;obtain⟨wD,Hd⟩:=qaa (wC);rw[←Hd]at mJ jX jv⊢;replace Hd:=qae Hd;obtain⟨MM,I1⟩:∃MM:Md,MM={M with L:=M.L++[((n:Int)+1,us,wi,li,pr,2,-1,-1,-1,0)]}:=⟨_,rfl⟩;rw[←I1]at mJ;replace I1:=qae I1;have He:=mJ;have Jt:=jX;have V7:=jv;have UY:Hid (w.heap.size+1<wD.heap.size):=ai jv.out;rintro e kF ⟨rfl,iK⟩;have lQ:aG kF (w.heap.size+1) aQ:=V7.out.below iK UY.out;obtain⟨hst,qZ⟩:=lQ.store tr;have jH:Below (w.heap.size+1) wD (kF.setRow (w.heap.size+1) (gJ tr).toArray):=mP (iK.mono (Nat.le_of_lt UY.out)) (qaf _) _;have mX:Hid (aB (ax p (.slice ao N cap) (.slice dI n cap2)) w (kF.setRow (w.heap.size+1) (gJ tr).toArray)):=Jt.out.later jH (Nat.le_succ _);have rq:Hid (MW (kF.setRow (w.heap.size+1) (gJ tr).toArray) p (.slice ao N cap) (.slice (some ⟨g',0,none⟩) (n+1) c') MM):=(He.out.kept (iK.mono (qaf _))).row (hfo.out _ (Nat.le_succ _) hsR.out) _;clear iK jH lQ;go_wp2_with fail;refine aO rfl rfl rfl qZ underlying67 rfl (by kernel_rfl) ⟨rfl,⟨_,by have h:=rq.out;rw[I1.out]at h;exact h,V6.out⟩,mX.out⟩
theorem LG {N cap n cap2:Nat}{ao dI:Option Addr}(h:MW w p (.slice ao N cap) (.slice dI n cap2) M)(hb:MB M)(k qd us wi li pr:Int)(no y:Int)(hN:N=M.dr.length)(qD:n=M.L.length)(g1:0≤us∧us≤255)(g2:0≤pr∧pr≤1000)(g3:1≤wi∧wi≤(N:Int))(g4:1≤li∧li≤1048576)(hv:nE M≤63)(MJ:n≤1023):Calls prog 91 #[.pointer (some ⟨p,0,none⟩),.agg #[.int .i64 k,.int .i64 qd,.int .i64 us,.int .i64 wi,.int .i64 li,.int .i64 pr,.bool false,.int .i64 no,.int .i64 y]] w (iJ w p (.slice ao N cap) (.slice dI n cap2) (gH ((n:Int)+1,us,wi,li,pr,1,-1,-1,-1,0),eH {M with L:=M.L++[((n:Int)+1,us,wi,li,pr,1,-1,-1,-1,0)]} ((n:Int)+1,us,wi,li,pr,1,-1,-1,-1,0))):=by
 have hnn:=hb.nn;have hll:=hb.ll;rw[←hN]at hnn;rw[←qD]at hll;obtain⟨wA,aj⟩:=qaa ((w.alloc (.cells #[.int .i64 k,.int .i64 qd,.int .i64 us,.int .i64 wi,.int .i64 li,.int .i64 pr,.bool false,.int .i64 no,.int .i64 y] 33)).alloc (.cells #[.int .i64 0,.int .i64 0,.int .i64 0,.int .i64 0,.int .i64 0,.int .i64 0,.int .i64 0,.int .i64 0,.int .i64 0] 67));have aC:Below w.heap.size w wA:=by rw[aj];exact(qac.alloc (qaf _) _).alloc (by simp) _
 have hsA:wA.heap.size=w.heap.size+2:=by rw[aj];simp
 have aH:aG wA (w.heap.size+1) aQ:=by rw[aj];exact heap_alloc2_new w _ _
 have bg:wA.heap[w.heap.size]? =some (.cells #[.int .i64 k,.int .i64 qd,.int .i64 us,.int .i64 wi,.int .i64 li,.int .i64 pr,.bool false,.int .i64 no,.int .i64 y] 33 (0,0)):=by rw[aj];exact aJ (heap_alloc_new w _)
 have aP:=h.kept aC;have hp0:Hid (∀k,ax p _ _ k→k<w.heap.size):=h.bF;have c1:=aP.read.c1;have c2:=aP.read.c2;have r2:wA.cell? ⟨w.heap.size,2,none⟩=some (.int .i64 us):=by simp[World.cell?,bg]
 have r3:wA.cell? ⟨w.heap.size,3,none⟩=some (.int .i64 wi):=by simp[World.cell?,bg]
 have r4:wA.cell? ⟨w.heap.size,4,none⟩=some (.int .i64 li):=by simp[World.cell?,bg]
 have r5:wA.cell? ⟨w.heap.size,5,none⟩=some (.int .i64 pr):=by simp[World.cell?,bg]
 have r6:wA.cell? ⟨w.heap.size,6,none⟩=some (.bool false):=by simp[World.cell?,bg]
 have hNc:N≤cap:=by obtain⟨ao,cp,hv,h1,_⟩:=bE h.dr;injection hv with _ e1 e2;omega
 have hnc:n≤cap2:=by obtain⟨ao,cp,hv,h1,_⟩:=bE h.js;injection hv with _ e1 e2;omega
 have hlv:=CJ (aP.kept qac.drew).read hb;generalize nE M=V at*;have wn:IntKind.i64.wrap ((n:Int)+1)=(n:Int)+1:=by rw[IntKind.wrap_i64];omega
 replace aP:=qae aP;replace aC:=qae aC;replace bg:=qae bg;replace aH:=qae aH;replace hN:=qae hN;replace qD:=qae qD;replace hb:=qae hb;obtain⟨i0,hi0,hz0,hz1,hz2⟩:=info_parts Pf;clear h;have d1:decide (us<0)=false:=qah (by omega);have d2:decide (us>255)=false:=qah (by omega);have d3:decide (pr<0)=false:=qah (by omega);have d4:decide (pr>1000)=false:=qah (by omega);have d5:decide (wi<1)=false:=qah (by omega);have d6:decide (wi>(N:Int))=false:=qah (by omega);have d7:decide (li<1)=false:=qah (by omega);have d8:decide (li>1048576)=false:=qah (by omega);have d9:decide ((V:Int)>63)=false:=qah (by omega);have d10:decide ((n:Int)>1023)=false:=qah (by omega);go_enter func91,ntmps91;go_wp2_with fail;rw[←aj];replace aj:=qae aj;go_region;go_wp2_with fail;go_at_call 155;refine hlv.mono ?_;clear hlv;rintro e w4 ⟨rfl,rfl⟩;go_wp2_with fail;obtain⟨w2,hw2⟩:=qaa (wA.drew);have hb2:Below wA.heap.size wA w2:=by rw[hw2];exact qac.drew
 have hM2:Hid (MW w2 p (.slice ao N cap) (.slice dI n cap2) M):=aP.out.kept hb2;have mD:Hid (w2.heap[w.heap.size]? =some (.cells #[.int .i64 k,.int .i64 qd,.int .i64 us,.int .i64 wi,.int .i64 li,.int .i64 pr,.bool false,.int .i64 no,.int .i64 y] 33 (0,0))):=(hb2.block _ (ai bg.out)).trans bg.out;have hR2:Hid (aG w2 (w.heap.size+1) aQ):=(hb2.block _ (ai aH.out)).trans aH.out;have tN:Hid (aB (ax p (.slice ao N cap) (.slice dI n cap2)) w w2):=(aB.of_below (S:=(ax p (.slice ao N cap) (.slice dI n cap2))) aC.out).later hb2 (by omega);have Hf:Hid (w.heap.size+1<w2.heap.size):=ai hR2.out;rw[←hw2];replace hw2:=qae hw2;clear c1 c2 r2 r3 r4 r5 r6 hb2;obtain⟨cY,LA⟩:=qab (ag ((n:Int)+1,us,wi,li,pr,1,-1,-1,-1,0));have nJ:=qae LA;clear LA;refine Reg2.rd w2 16 96 (Reg2.rows 0 [.p 0,.p 1,.p 3,.p 7,.p 15,.p 31,.p 0,.p 64,.p 0,.p 256,.p 0,.p 1024,.p 0,.p 4096,.p 16383,.p 0]) [0,0,0,1,1,0,0,1,0,1,0,1,0,1,1,1] [.pure,.pure,.pure,.mU (.slice dI n cap2),.mU (.int .i64 n),.pure,.pure,.mU (.int .i64 us),.pure,.mU (.int .i64 wi),.pure,.mU (.int .i64 li),.pure,.mU (.int .i64 pr),.mU (.agg cY.toArray),.minor Nat 0 (fun q=>.pointer (some ⟨q,0,none⟩)) (fun q W=>w2.heap.size≤q∧W.heap[q]? =some (.cells #[.int .i64 0,.int .i64 0,.int .i64 0,.int .i64 0,.int .i64 0,.int .i64 0,.int .i64 0,.int .i64 0,.int .i64 0,.int .u64 0] 55 (0,0)))] (by kernel_rfl) (by kernel_rfl) rfl rfl (by exact ⟨trivial,trivial,trivial,Reg2.tt,Reg2.tt,trivial,trivial,Reg2.tt,trivial,Reg2.tt,trivial,Reg2.tt,trivial,Reg2.tt,Reg2.tt,⟨fun x a b he hx=>⟨hx.1,(he.block _ (ai hx.2)).trans hx.2⟩,fun x a b he hx=>⟨hx.1,(he.block _ (ai hx.2)).trans hx.2⟩⟩,trivial⟩) ⟨rfl,rfl,rfl,qaf _,fun _ _=>rfl⟩ ?_;dsimp only[Reg2.rows,Reg2.mk,List.zip,List.zipWith,List.take]
 repeat(refine' Reg2.ak _ (by rfl) (fun wz=>?_) ?_;rotate_left;(go_simp;first|rfl|rw[qai (by omega)]);simp only[Act.put,xA,xB,xC,xD,xE,id])
 refine Reg2.pm (fun wz hI hF=>?_) (fun s3=>?_) (by rfl)
 ·have d0:=(hM2.out.kept hI).read.c2;go_wp2_with fail
  first|exact⟨_,rfl,rfl,qad⟩|exact⟨_,rfl,⟨(),rfl,trivial⟩,qad⟩
 simp only[Act.put,xA,xB,xC,xD,xE,id];refine Reg2.pm (fun wz hI hF=>?_) (fun s4=>?_) (by rfl)
 ·go_wp2_with fail
  first|exact⟨_,rfl,rfl,qad⟩|exact⟨_,rfl,⟨(),rfl,trivial⟩,qad⟩
 simp only[Act.put,xA,xB,xC,xD,xE,id];refine Reg2.ak (.int .i64 ((n:Int)+1)) (by rfl) (fun wz=>?_) ?_
 ·go_simp
  (try rw[wn])
 simp only[Act.put,xA,xB,xC,xD,xE,id]
 repeat((first
  |(refine' Reg2.ak _ (by rfl) (fun wz=>?_) ?_;rotate_left;(go_simp;first|rfl|rw[qai (by omega)]))
  |(refine Reg2.az (by rfl) (fun wz hI hF=>?_) (fun _=>?_)
    ·unfold Reg2.One;have hX:=(hI.block _ (ai mD.out)).trans mD.out;have d0:wz.cell? ⟨w.heap.size,2,none⟩=some (.int .i64 us):=by simp[World.cell?,hX]
     clear hX;have LB:=(hI.block _ (ai mD.out)).trans mD.out;have qY:wz.cell? ⟨w.heap.size,3,none⟩=some (.int .i64 wi):=by simp[World.cell?,LB]
     clear LB;have LC:=(hI.block _ (ai mD.out)).trans mD.out;have tO:wz.cell? ⟨w.heap.size,4,none⟩=some (.int .i64 li):=by simp[World.cell?,LC]
     clear LC;have LF:=(hI.block _ (ai mD.out)).trans mD.out;have Wq:wz.cell? ⟨w.heap.size,5,none⟩=some (.int .i64 pr):=by simp[World.cell?,LF]
     clear LF;obtain rfl:=nJ.out;go_wp2_with fail
     first|exact⟨_,rfl,rfl,qad⟩|exact⟨_,rfl,⟨(),rfl,trivial⟩,qad⟩));simp only[Act.put,xA,xB,xC,xD,xE,id])
 refine Reg2.pm (fun wz hI hF=>?_) (fun s15=>?_) (by rfl)
 ·go_wp2_with fail;exact⟨_,rfl,⟨wz.heap.size,rfl,hI.size,heap_alloc_new wz _⟩,(Below.refl wz.heap.size wz).alloc (qaf _) _⟩
 simp only[Act.put,xA,xB,xC,xD,xE,id];refine Reg2.aD ?_;intro w7 dC _ gF;obtain⟨_,_,_,_,_,_,_,_,_,_,_,_,_,_,_,hr,_⟩:=gF;clear s3 s4;dsimp only[List.drop];have hst:=lL (x:=((n:Int)+1,us,wi,li,pr,1,-1,-1,-1,0)) (y:=(0,0,0,0,0,0,0,0,0,0)) hr.2;rw[nJ.out]at hst;have lY:cY.length=10:=by rw[←nJ.out];exact aA _
 have UW:=(dC.block _ (ai mD.out)).trans mD.out;have KF:=(dC.block _ (ai hR2.out)).trans hR2.out;obtain⟨w8,hw8⟩:=qaa (w7.setRow s15 cY.toArray);have Ph:w.heap.size+1<s15:=Nat.lt_of_lt_of_le Hf.out hr.1;have hne:¬w.heap.size=s15:=by omega
 have kN:Below s15 w7 w8:=by rw[hw8];exact mP qac (qaf _) _
 have yc:Hid (w8.heap[s15]? =some (.cells (ag ((n:Int)+1,us,wi,li,pr,1,-1,-1,-1,0)).toArray 55 (0,0))):=by show _=_;rw[hw8,nJ.out];exact setRow_heap w7 s15 _ _ _ _ hr.2
 have Rs:Hid (w8.heap[w.heap.size]? =some (.cells #[.int .i64 k,.int .i64 qd,.int .i64 us,.int .i64 wi,.int .i64 li,.int .i64 pr,.bool false,.int .i64 no,.int .i64 y] 33 (0,0))):=(kN.block _ (by omega)).trans UW;have PG:Hid (aG w8 (w.heap.size+1) aQ):=(kN.block _ Ph).trans KF;have sV:Hid (MW w8 p (.slice ao N cap) (.slice dI n cap2) M):=(hM2.out.kept dC).cK kN (fun k hk=>by have:=hp0.out k hk;omega);have sF:Hid (aB (ax p (.slice ao N cap) (.slice dI n cap2)) w w8):=(tN.out.later dC tN.out.size).later kN (by omega);have c9:w8.cell? ⟨w.heap.size,6,none⟩=some (.bool false):=by simp[World.cell?,Rs.out]
 obtain⟨wB,cO⟩:=qaa (w8);rw[←cO]at yc Rs PG sV sF;have fD:=yc;have lN:=Rs;have nL:=PG;have iO:=sV;have gQ:=sF;rw[hw8]at c9 cO;clear dC hr kN UW KF;go_wp2_with fail;rw[←cO];replace cO:=qae cO;replace hw8:=qae hw8;clear c9 hst lY;have hsB:s15<wB.heap.size:=ai fD.out;have IZ:∀q,(Value.slice dI n cap2).ownBlock=some q→q<w.heap.size:=fun q hq=>hp0.out q (.inr (.inr hq));have hxg:Hid (∀W,wB.grownBy W (Value.slice dI n cap2).ownBlock→W.heap[s15]? =some (.cells (ag ((n:Int)+1,us,wi,li,pr,1,-1,-1,-1,0)).toArray 55 (0,0))):=fun W hW=>(hW.block _ hsB (fun e=>by have:=IZ _ e.symm;omega)).trans fD.out;have Na:Hid (∀W,wB.grownBy W (Value.slice dI n cap2).ownBlock→W.heap[p]? =some (.cells #[.int .i64 M.now,.slice ao N cap,.slice dI n cap2,.bool M.cl] 94 (0,0))):=fun W hW=>iO.out.wU hW;have hI0:wB.grownBy wB.drew (Value.slice dI n cap2).ownBlock:=⟨rfl,rfl,rfl,qaf _,fun _ _ _=>rfl⟩;have hS0:wB.drew.ownsRow 0 55 10 (.slice dI n cap2) M.L.length (M.L.flatMap ag):=bH iO.out.js fun _ _=>rfl;have rJ:Hid ((ag ((n:Int)+1,us,wi,li,pr,1,-1,-1,-1,0)).length=10):=aA _;have rM:Hid (∀u∈ag ((n:Int)+1,us,wi,li,pr,1,-1,-1,-1,0),u.oneCell'=true):=dO _;refine Reg2.vo 8 96 (Reg2.rows 0 [.p 0,.p 0,.p 2,.p 6,.p 14,.p 0,.p 32,.p 126]) [0,0,0,0,1,1,1,3]
  [.pure,.pure,.pure,.pure,.mU (.slice dI n cap2),.mU (.agg #[.int .i64 ((n:Int)+1),.int .i64 us,.int .i64 wi,.int .i64 li,.int .i64 pr,.int .i64 1,.int .i64 (-1),.int .i64 (-1),.int .i64 (-1),.int .u64 0]),.minor Nat 0 (fun x=>.slice (some ⟨x,0,none⟩) 1 1) (fun x W=>W.heap[x]? =some (.cells (ag ((n:Int)+1,us,wi,li,pr,1,-1,-1,-1,0)).toArray 55 (0,0))∧wB.heap.size≤x),.major Value undef id]
  (fun W=>wB.grownBy W (Value.slice dI n cap2).ownBlock) (AppS wB (.slice dI n cap2) M.L ((n:Int)+1,us,wi,li,pr,1,-1,-1,-1,0)) (fun a b=>a.grownBy b (Value.slice dI n cap2).ownBlock) (by kernel_rfl) (by kernel_rfl) rfl rfl (fun vs a b h hs=>Gx h hs) ?_ ?_ ?_ ?_ ?_ ?_
 ·intro a b he hb;exact⟨he.os.trans hb.os,he.tape.trans hb.tape,he.output.trans hb.output,Nat.le_trans hb.size he.size,fun q hq' h2=>(he.block q (Nat.lt_of_lt_of_le hq' hb.size)).trans (hb.block q hq' h2)⟩
 ·intro a b he hb;exact⟨he.os.trans hb.os,he.tape.trans hb.tape,he.output.trans hb.output,Nat.le_trans hb.size he.size,fun q hq' h2=>(he.block q (Nat.lt_of_lt_of_le hq' hb.size) h2).trans (hb.block q hq' h2)⟩
 ·exact⟨trivial,trivial,trivial,trivial,⟨fun _ _ _ _ _=>trivial,fun _ _ _ _ _=>trivial⟩,⟨fun _ _ _ _ _=>trivial,fun _ _ _ _ _=>trivial⟩,⟨fun x a b he h=>⟨(he.block x (ai h.1)).trans h.1,h.2⟩,fun x a b he h=>⟨(he.block x (ai h.1) (fun e=>by have:=IZ x e.symm;have:=h.2;omega)).trans h.1,h.2⟩⟩,trivial,trivial⟩
 ·exact hI0
 ·exact hS0
 dsimp only[Reg2.rows,Reg2.mk,List.zip,List.zipWith,List.take]
 repeat((first
  |(refine' Reg2.ak _ (by rfl) (fun wz=>?_) ?_;rotate_left;(go_simp;first|rfl|rw[qai (by omega)]))
  |(refine Reg2.az (by rfl) (fun wz hI hF=>?_) (fun _=>?_)
    ·unfold Reg2.One;have d0:wz.cell? ⟨p,2,none⟩=some (.slice dI n cap2):=by simp[World.cell?,Na.out wz hI]
     have kk:=iN (hxg.out wz hI);have q0:=kk 0 _ rfl;have q1:=kk 1 _ rfl;have q2:=kk 2 _ rfl;have q3:=kk 3 _ rfl;have q4:=kk 4 _ rfl;have q5:=kk 5 _ rfl;have q6:=kk 6 _ rfl;have q7:=kk 7 _ rfl;have q8:=kk 8 _ rfl;have q9:=kk 9 _ rfl;clear kk;go_wp2_with fail
     first|exact⟨_,rfl,rfl,qad⟩|exact⟨_,rfl,⟨(),rfl,trivial⟩,qad⟩));simp only[Act.put,xA,xB,xC,xD,xE,id])
 refine Reg2.pm (fun wz hI hF=>?_) (fun u6=>?_) (by rfl)
 ·go_wp2_with fail;exact⟨_,rfl,⟨wz.heap.size,rfl,heap_alloc_new wz (.cells (ag ((n:Int)+1,us,wi,li,pr,1,-1,-1,-1,0)).toArray 55),hI.size⟩,(Below.refl wz.heap.size wz).alloc (qaf _) _⟩
 simp only[Act.put,xA,xB,xC,xD,xE,id];refine Reg2.pj (fun wz hI hS hF=>?_) (fun u7=>?_) (by rfl)
 ·have hS1:wz.ownsRow 0 55 10 (.slice dI n cap2) M.L.length (M.L.flatMap ag):=hS;rw[←qD.out]at hS1;have hone:=hF.2.2.2.2.2.1;have hsrc:Src prog 10 50 (.slice (some ⟨u6,0,none⟩) 1 1) 1 (ag ((n:Int)+1,us,wi,li,pr,1,-1,-1,-1,0)) wz:=Src.ofSlice wz underlying50 ⟨u6,0,none⟩ 1 1 (ag ((n:Int)+1,us,wi,li,pr,1,-1,-1,-1,0)) rJ.out (fun j u hj=>by rw[Go.WideShapes.add_plain];simpa using iN hone.1 j u hj) rM.out;have hszI:=hI.size;go_wp2_with (at_builtin;go_must (refine kI _ rfl (.tmp 82) (.tmp 84) 50 50 rfl 0 55 i0 (.agg (ag default).toArray) 10 80 underlying50 hi0 hz0 hz1 hz2 rfl (.slice dI n cap2) n (M.L.flatMap ag) rfl hS1 (.slice (some ⟨u6,0,none⟩) 1 1) 1 (ag ((n:Int)+1,us,wi,li,pr,1,-1,-1,-1,0)) rfl hsrc ?c0 ?c1 (Nat.zero_le _) ?c2))
  case c0=>unfold maxLen;omega
  case c1=>omega
  case c2=>
   intro v' w9 MH MI hnb;have UX:Gw wB (Value.slice dI n cap2).ownBlock v'.ownBlock:=by
    rcases hnb with e|e
    ·exact .inl e
    ·exact .inr ⟨_,e,hszI⟩
   go_wp2_with fail;exact⟨v',rfl,⟨by rw[←qD.out];exact MH,UX⟩,MI⟩
 simp only[Act.put,xA,xB,xC,xD,xE,id];refine Reg2.aD ?_;intro w3 HI3 Dw vW;clear vW hI0 hS0 rJ rM;obtain⟨ho3,Er⟩:w3.ownsRow 0 55 10 u7 (M.L.length+1) (M.L.flatMap ag++ag ((n:Int)+1,us,wi,li,pr,1,-1,-1,-1,0))∧Gw wB (Value.slice dI n cap2).ownBlock u7.ownBlock:=Dw;obtain⟨g',c',rfl⟩:∃g' c',u7=.slice (some ⟨g',0,none⟩) (n+1) c':=by
  obtain⟨I5,c',e,_,_,hp'⟩:=bE ho3;obtain⟨g',e2⟩:=hp' (by omega);exact⟨g',c',by rw[e,e2,qD.out]⟩
 obtain⟨pc,pf,pM,pO,pG⟩:=iO.out.grown HI3 ((n:Int)+1,us,wi,li,pr,1,-1,-1,-1,0) ho3 Er;dsimp only[List.drop];obtain⟨wC,eO⟩:=qaa (w3.setCell ⟨p,2,none⟩ (.slice (some ⟨g',0,none⟩) (n+1) c'));have mJ:Hid (MW wC p (.slice ao N cap) (.slice (some ⟨g',0,none⟩) (n+1) c') {M with L:=M.L++[((n:Int)+1,us,wi,li,pr,1,-1,-1,-1,0)]}):=by show MW _ _ _ _ _;rw[eO];exact pM
 have jX:Hid (aB (ax p (.slice ao N cap) (.slice dI n cap2)) w wC):=by show aB _ _ _;rw[eO];exact gQ.out.trans pO (aY.refl _ _)
 have Yb:w.heap.size≤wB.heap.size:=gQ.out.size;have V6:Hid (aY w (ax p (.slice ao N cap) (.slice dI n cap2)) (ax p (.slice ao N cap) (.slice (some ⟨g',0,none⟩) (n+1) c'))):=fun k hk=>(pG k hk).imp (fun h=>h) (fun h=>Nat.le_trans Yb h);have hpl:p<w.heap.size:=hp0.out p (.inl rfl);have hfo:Hid (∀b,w.heap.size≤b→b<wB.heap.size→¬ax p (.slice ao N cap) (.slice (some ⟨g',0,none⟩) (n+1) c') b):=fun b h1 h2 hk=>by
  rcases hk with e|e|e
  ·omega
  ·have:=hp0.out b (.inr (.inl e));omega
  ·rcases Er with h3|⟨q,h3,h4⟩
   ·rw[e]at h3;have:=IZ b h3.symm;omega
   ·rw[e]at h3;injection h3 with h3;omega
 have hsR:w.heap.size+1<wB.heap.size:=by omega
 replace hsR:=qae hsR;have hkeep:∀b,w.heap.size≤b→b<wB.heap.size→wC.heap[b]? =wB.heap[b]? :=fun b h1 h2=>by
  rw[eO,Below.heap_setCell _ _ _ _ (show b≠p by omega)];exact HI3.block b h2 (fun e=>by have:=IZ _ e.symm;omega)
 have zV:Hid (wC.heap[s15]? =some (.cells (ag ((n:Int)+1,us,wi,li,pr,1,-1,-1,-1,0)).toArray 55 (0,0))):=(hkeep _ (by omega) hsB).trans fD.out;have CO:Hid (wC.heap[w.heap.size]? =some (.cells #[.int .i64 k,.int .i64 qd,.int .i64 us,.int .i64 wi,.int .i64 li,.int .i64 pr,.bool false,.int .i64 no,.int .i64 y] 33 (0,0))):=(hkeep _ (qaf _) (by omega)).trans lN.out;have jv:Hid (aG wC (w.heap.size+1) aQ):=(hkeep _ (Nat.le_succ _) (by omega)).trans nL.out;have k6:wC.cell? ⟨w.heap.size,6,none⟩=some (.bool false):=by simp[World.cell?,CO.out]
 have lX:=aA ((n:Int)+1,us,wi,li,pr,1,-1,-1,-1,0);have zJ:=bC;obtain⟨k10,hk10⟩:∃k,k=10:=⟨_,rfl⟩;rw[←hk10]at lX zJ;replace hk10:=qae hk10;have hld:=bJ zV.out lX;clear pM pO pG hkeep HI3 ho3 Er hxg Na iO gQ fD lN nL CO;rw[eO]at k6 hld;have hmb:MB {M with L:=M.L++[((n:Int)+1,us,wi,li,pr,1,-1,-1,-1,0)]}:=by
  have H:∀{P:Jb→Prop},(∀j∈M.L,P j)→P ((n:Int)+1,us,wi,li,pr,1,-1,-1,-1,0)→∀j∈M.L++[((n:Int)+1,us,wi,li,pr,1,-1,-1,-1,0)],P j:=fun h hx j hj=>by
   rcases List.mem_append.1 hj with h1|h1
   ·exact h j h1
   ·rw[List.mem_singleton]at h1;subst h1;exact hx
  exact⟨hb.out.nn,by show(M.L++[((n:Int)+1,us,wi,li,pr,1,-1,-1,-1,0)]).length≤1024;rw[List.length_append,←qD.out];simp;omega,hb.out.now,H hb.out.wid (by show 0≤wi∧wi≤64;omega),H hb.out.lim (by show 0≤li∧li≤1048576;omega),H hb.out.aW (by show(-1:Int)≤-1∧(-1:Int)≤_;omega),H hb.out.fin (by show(-1:Int)≤-1∧(-1:Int)≤_;omega),H hb.out.bY (by show(0:Int)≤0∧(0:Int)≤_;omega)⟩
 have hdp:=CF mJ.out hmb ((n:Int)+1,us,wi,li,pr,1,-1,-1,-1,0);have lC:=ai zV.out;have lR:=ai jv.out;rw[eO]at hdp;go_wp2_with fail;go_at_call 156;refine hdp.mono ?_;rw[←eO];replace eO:=qae eO;clear hdp hld k6 pc pf hmb;rintro e wD ⟨rfl,He,V8⟩;have RY:=(V8.block _ lC (hfo.out _ (by omega) hsB)).trans zV.out;have V7:Hid (aG wD (w.heap.size+1) aQ):=(V8.block _ lR (hfo.out _ (Nat.le_succ _) hsR.out)).trans jv.out;have Jt:Hid (aB (ax p (.slice ao N cap) (.slice dI n cap2)) w wD):=jX.out.trans V8 V6.out;replace He:=qae He;have UY:Hid (w.heap.size+1<wD.heap.size):=ai V7.out;have hld:=bJ RY lX;have htl:=pK ((n:Int)+1,us,wi,li,pr,1,-1,-1,-1,0) wD;generalize htr:gH ((n:Int)+1,us,wi,li,pr,1,-1,-1,-1,0)=tr at*;replace htr:=qae htr;clear V8 RY mJ jX jv zV;obtain⟨MM,I1⟩:∃MM:Md,MM=eH {M with L:=M.L++[((n:Int)+1,us,wi,li,pr,1,-1,-1,-1,0)]} ((n:Int)+1,us,wi,li,pr,1,-1,-1,-1,0):=⟨_,rfl⟩;rw[←I1]at He;replace I1:=qae I1;go_wp2_with fail;go_at_call 157;refine htl.mono ?_;clear htl hld lX zJ;rintro e kF ⟨rfl,iK⟩;have lQ:aG kF (w.heap.size+1) aQ:=V7.out.below iK UY.out;obtain⟨hst,qZ⟩:=lQ.store tr;have jH:Below (w.heap.size+1) wD (kF.setRow (w.heap.size+1) (gJ tr).toArray):=mP (iK.mono (Nat.le_of_lt UY.out)) (qaf _) _;have mX:Hid (aB (ax p (.slice ao N cap) (.slice dI n cap2)) w (kF.setRow (w.heap.size+1) (gJ tr).toArray)):=Jt.out.later jH (Nat.le_succ _);have rq:Hid (MW (kF.setRow (w.heap.size+1) (gJ tr).toArray) p (.slice ao N cap) (.slice (some ⟨g',0,none⟩) (n+1) c') MM):=(He.out.kept (iK.mono (qaf _))).row (hfo.out _ (Nat.le_succ _) hsR.out) _;clear iK jH lQ;go_wp2_with fail;refine aO rfl rfl rfl qZ underlying67 rfl (by kernel_rfl) ⟨rfl,⟨_,by have h:=rq.out;rw[I1.out]at h;exact h,V6.out⟩,mX.out⟩
theorem Oo (h:MW w p dv lv M)(hb:MB M)(k qd us wi li pr:Int)(he:Bool)(no y:Int):Calls prog 91 #[.pointer (some ⟨p,0,none⟩),.agg #[.int .i64 k,.int .i64 qd,.int .i64 us,.int .i64 wi,.int .i64 li,.int .i64 pr,.bool he,.int .i64 no,.int .i64 y]] w (iJ w p dv lv (iW M ⟨k,qd,us,wi,li,pr,he,no,y⟩)):=by
 obtain⟨ao,cap,rfl,_,_,_⟩:=bE h.dr;obtain⟨dI,cap2,rfl,_,_,_⟩:=bE h.js;unfold iW iV;by_cases h1:us<0∨255<us∨pr<0∨1000<pr
 ·rw[qaj h1];exact Oj h hb k qd us wi li pr he no y h1
 rw[qai h1];by_cases h2:wi<1∨(M.dr.length:Int)<wi
 ·rw[qaj h2];exact Ol h hb k qd us wi li pr he no y rfl rfl (by omega) (by omega) h2
 rw[qai h2];by_cases h3:li<1∨1048576<li
 ·rw[qaj h3];exact Lx h hb k qd us wi li pr he no y rfl rfl (by omega) (by omega) (by omega) h3
 rw[qai h3];by_cases h4:63<nE M∨1023<M.L.length
 ·rw[qaj h4];exact Om h hb k qd us wi li pr he no y rfl rfl (by omega) (by omega) (by omega) (by omega) h4
 rw[qai h4];cases he with
 |true=>exact IY h hb k qd us wi li pr no y rfl rfl (by omega) (by omega) (by omega) (by omega) (by omega) (by omega)
 |false=>exact LG h hb k qd us wi li pr no y rfl rfl (by omega) (by omega) (by omega) (by omega) (by omega) (by omega)
end
section
variable {w w' : World} {p : Nat} {dv lv : Value} {M : Md}
theorem sP :∀w,Sem.run prog (Go.sizeOf 33) w=.ok 9 w:=sizeOf33
theorem qE :∀w,Sem.run prog (Go.sizeOf 67) w=.ok 9 w:=sizeOf67
theorem qF {wA w1:World}{x:Rl×Md}{e:Ending}(hp0:∀k,ax p dv lv k→k<w.heap.size)(aC:Below w.heap.size w wA)(aH:aG wA (w.heap.size+1) aQ)(hd:iJ wA p dv lv x e w1):
 ∃c:List Value,c=gJ x.1∧c.length=9∧e=.returned (.agg c.toArray)∧Sem.run prog (storeCells ⟨w.heap.size+1,0,none⟩ c 0) w1=.ok () (w1.setRow (w.heap.size+1) c.toArray)∧(w1.setRow (w.heap.size+1) c.toArray).heap[w.heap.size+1]? =some (.cells c.toArray 67 (0,0))∧(∃qa,MW (w1.setRow (w.heap.size+1) c.toArray) p dv qa x.2∧aY w (ax p dv lv) (ax p dv qa))∧aB (ax p dv lv) w (w1.setRow (w.heap.size+1) c.toArray):=by
 obtain⟨he,⟨qa,hM,hG⟩,hof⟩:=hd;have hlt:w.heap.size+1<wA.heap.size:=ai aH;have hnf:¬ax p dv lv (w.heap.size+1):=fun h=>by have:=hp0 _ h;omega
 have Z4:¬ax p dv qa (w.heap.size+1):=fun h=>(hG _ h).elim hnf (fun h=>absurd hlt (Nat.not_lt.2 h));have fV:aG w1 (w.heap.size+1) aQ:=(hof.block _ hlt hnf).trans aH;obtain⟨hst,hR2⟩:=fV.store x.1;exact⟨gJ x.1,rfl,rfl,he,hst,hR2,⟨qa,hM.row Z4 _,fun k hk=>(hG k hk).imp (fun h=>h) (fun h=>by have:=aC.size;omega)⟩,
  ((aB.of_below (S:=ax p dv lv) aC).trans hof (aY.refl _ _)).later (mP qac (Nat.le_succ _) _) (qaf _)⟩
theorem MW.Z5 (h:MW w p dv lv M):w.cell? ⟨p,3,none⟩=some (.bool M.cl)∧w.frozen? ⟨p,3,none⟩=false∧MW (w.setCell ⟨p,3,none⟩ (.bool true)) p dv lv {M with cl:=true}∧aB (ax p dv lv) w (w.setCell ⟨p,3,none⟩ (.bool true)):=by
 refine⟨h.read.c3,by simp[World.frozen?,h.cell],⟨heap_put (i:=3) h.cell _,jE h.dr fun k hk=>Below.heap_setCell _ _ _ _ (h.G6 hk),jE h.js fun k hk=>Below.heap_setCell _ _ _ _ (h.xZ hk).1⟩,⟨rfl,rfl,rfl,by simp[World.setCell],fun k hk hn=>Below.heap_setCell _ _ _ _ fun e=>hn (.inl e)⟩⟩
theorem Oq (h:MW w p dv lv M)(hb:MB M)(hcl:M.cl=true)(k qd us wi li pr:Int)(he:Bool)(no y:Int):Calls prog 33 #[.pointer (some ⟨p,0,none⟩),.agg #[.int .i64 k,.int .i64 qd,.int .i64 us,.int .i64 wi,.int .i64 li,.int .i64 pr,.bool he,.int .i64 no,.int .i64 y]] w (iJ w p dv lv (dB 12,M)):=by
 obtain⟨wA,aj⟩:=qaa ((w.alloc (.cells #[.int .i64 k,.int .i64 qd,.int .i64 us,.int .i64 wi,.int .i64 li,.int .i64 pr,.bool he,.int .i64 no,.int .i64 y] 33)).alloc (.cells #[.int .i64 0,.int .i64 0,.int .i64 0,.int .i64 0,.int .i64 0,.int .i64 0,.int .i64 0,.int .i64 0,.int .i64 0] 67));have aC:Below w.heap.size w wA:=by rw[aj];exact(qac.alloc (qaf _) _).alloc (by simp) _
 have hsA:wA.heap.size=w.heap.size+2:=by rw[aj];simp
 have aH:aG wA (w.heap.size+1) aQ:=by rw[aj];exact heap_alloc2_new w _ _
 have bg:wA.heap[w.heap.size]? =some (.cells #[.int .i64 k,.int .i64 qd,.int .i64 us,.int .i64 wi,.int .i64 li,.int .i64 pr,.bool he,.int .i64 no,.int .i64 y] 33 (0,0)):=by rw[aj];exact aJ (heap_alloc_new w _)
 have aP:=h.kept aC;have hp0:Hid (∀k,ax p dv lv k→k<w.heap.size):=h.bF;have c3:=aP.read.c3;rw[hcl]at c3;have r0:wA.cell? ⟨w.heap.size,0,none⟩=some (.int .i64 k):=by simp[World.cell?,bg]
 rw[aj]at c3 r0;obtain⟨w3,hw3⟩:=qaa ((w.alloc (.cells #[.int .i64 k,.int .i64 qd,.int .i64 us,.int .i64 wi,.int .i64 li,.int .i64 pr,.bool he,.int .i64 no,.int .i64 y] 33)).alloc (.cells #[.int .i64 12,.int .i64 0,.int .i64 0,.int .i64 0,.int .i64 0,.int .i64 0,.int .i64 0,.int .i64 0,.int .i64 0] 67));have hb3:Hid (Below w.heap.size w w3):=by show Below _ _ _;rw[hw3];exact(qac.alloc (qaf _) _).alloc (by simp) _
 have gz:aG w3 (w.heap.size+1) (12,0,0,0,0,0,0,0,0):=by rw[hw3];exact heap_alloc2_new w _ _
 have eZ:=qae (h.kept hb3.out);clear h hb aP bg aH aC aj;go_enter func33,ntmps33;go_wp2_with fail;rw[←hw3];replace hw3:=qae hw3;refine aO rfl rfl rfl gz underlying67 rfl (by kernel_rfl) ⟨rfl,⟨_,eZ.out,aY.refl _ _⟩,aB.of_below (S:=ax p dv lv) hb3.out⟩
theorem Rt (h:MW w p dv lv M)(hb:MB M)(hcl:M.cl=false)(k qd us wi li pr:Int)(he:Bool)(no y:Int)(hk:k≠1∧k≠2∧k≠5∧k≠3∧k≠4∧k≠6∧k≠7∧k≠8∧k≠9∧k≠10∧k≠11∧k≠12∧k≠13):Calls prog 33 #[.pointer (some ⟨p,0,none⟩),.agg #[.int .i64 k,.int .i64 qd,.int .i64 us,.int .i64 wi,.int .i64 li,.int .i64 pr,.bool he,.int .i64 no,.int .i64 y]] w (iJ w p dv lv (dB 4,M)):=by
 obtain⟨wA,aj⟩:=qaa ((w.alloc (.cells #[.int .i64 k,.int .i64 qd,.int .i64 us,.int .i64 wi,.int .i64 li,.int .i64 pr,.bool he,.int .i64 no,.int .i64 y] 33)).alloc (.cells #[.int .i64 0,.int .i64 0,.int .i64 0,.int .i64 0,.int .i64 0,.int .i64 0,.int .i64 0,.int .i64 0,.int .i64 0] 67));have aC:Below w.heap.size w wA:=by rw[aj];exact(qac.alloc (qaf _) _).alloc (by simp) _
 have hsA:wA.heap.size=w.heap.size+2:=by rw[aj];simp
 have aH:aG wA (w.heap.size+1) aQ:=by rw[aj];exact heap_alloc2_new w _ _
 have bg:wA.heap[w.heap.size]? =some (.cells #[.int .i64 k,.int .i64 qd,.int .i64 us,.int .i64 wi,.int .i64 li,.int .i64 pr,.bool he,.int .i64 no,.int .i64 y] 33 (0,0)):=by rw[aj];exact aJ (heap_alloc_new w _)
 have aP:=h.kept aC;have hp0:Hid (∀k,ax p dv lv k→k<w.heap.size):=h.bF;have c3:=aP.read.c3;rw[hcl]at c3;have r0:wA.cell? ⟨w.heap.size,0,none⟩=some (.int .i64 k):=by simp[World.cell?,bg]
 rw[aj]at c3 r0;obtain⟨w3,hw3⟩:=qaa ((w.alloc (.cells #[.int .i64 k,.int .i64 qd,.int .i64 us,.int .i64 wi,.int .i64 li,.int .i64 pr,.bool he,.int .i64 no,.int .i64 y] 33)).alloc (.cells #[.int .i64 4,.int .i64 0,.int .i64 0,.int .i64 0,.int .i64 0,.int .i64 0,.int .i64 0,.int .i64 0,.int .i64 0] 67));have hb3:Hid (Below w.heap.size w w3):=by show Below _ _ _;rw[hw3];exact(qac.alloc (qaf _) _).alloc (by simp) _
 have gz:aG w3 (w.heap.size+1) (4,0,0,0,0,0,0,0,0):=by rw[hw3];exact heap_alloc2_new w _ _
 have eZ:=qae (h.kept hb3.out);clear h hb aP bg aH aC aj;obtain⟨n1,n2,n5,n3,n4,n6,n7,n8,n9,n10,n11,n12,n13⟩:=hk;have t1:(k == 1)=false:=by simp[n1]
 have t2:(k == 2)=false:=by simp[n2]
 have t5:(k == 5)=false:=by simp[n5]
 have t3:(k == 3)=false:=by simp[n3]
 have t4:(k == 4)=false:=by simp[n4]
 have t6:(k == 6)=false:=by simp[n6]
 have t7:(k == 7)=false:=by simp[n7]
 have t8:(k == 8)=false:=by simp[n8]
 have t9:(k == 9)=false:=by simp[n9]
 have t10:(k == 10)=false:=by simp[n10]
 have t11:(k == 11)=false:=by simp[n11]
 have t12:(k == 12)=false:=by simp[n12]
 have t13:(k == 13)=false:=by simp[n13]
 clear n1 n2 n5 n3 n4 n6 n7 n8 n9 n10 n11 n12 n13;go_enter func33,ntmps33;go_wp2_with fail;rw[←hw3];replace hw3:=qae hw3;refine aO rfl rfl rfl gz underlying67 rfl (by kernel_rfl) ⟨rfl,⟨_,eZ.out,aY.refl _ _⟩,aB.of_below (S:=ax p dv lv) hb3.out⟩
theorem Z6 (h:MW w p dv lv M)(hb:MB M)(hcl:M.cl=false)(qd us wi li pr:Int)(he:Bool)(no y:Int)(hid: -9223372036854775808≤qd∧qd≤9223372036854775807):Calls prog 33 #[.pointer (some ⟨p,0,none⟩),.agg #[.int .i64 2,.int .i64 qd,.int .i64 us,.int .i64 wi,.int .i64 li,.int .i64 pr,.bool he,.int .i64 no,.int .i64 y]] w (iJ w p dv lv (kY M ⟨2,qd,us,wi,li,pr,he,no,y⟩)):=by
 obtain⟨wA,aj⟩:=qaa ((w.alloc (.cells #[.int .i64 2,.int .i64 qd,.int .i64 us,.int .i64 wi,.int .i64 li,.int .i64 pr,.bool he,.int .i64 no,.int .i64 y] 33)).alloc (.cells #[.int .i64 0,.int .i64 0,.int .i64 0,.int .i64 0,.int .i64 0,.int .i64 0,.int .i64 0,.int .i64 0,.int .i64 0] 67));have aC:Below w.heap.size w wA:=by rw[aj];exact(qac.alloc (qaf _) _).alloc (by simp) _
 have hsA:wA.heap.size=w.heap.size+2:=by rw[aj];simp
 have aH:aG wA (w.heap.size+1) aQ:=by rw[aj];exact heap_alloc2_new w _ _
 have bg:wA.heap[w.heap.size]? =some (.cells #[.int .i64 2,.int .i64 qd,.int .i64 us,.int .i64 wi,.int .i64 li,.int .i64 pr,.bool he,.int .i64 no,.int .i64 y] 33 (0,0)):=by rw[aj];exact aJ (heap_alloc_new w _)
 have aP:=h.kept aC;have hp0:Hid (∀k,ax p dv lv k→k<w.heap.size):=h.bF;have c3:=aP.read.c3;rw[hcl]at c3;have r0:wA.cell? ⟨w.heap.size,0,none⟩=some (.int .i64 2):=by simp[World.cell?,bg]
 have jd:=OB aP hb 2 qd us wi li pr he no y (.inl rfl) hid;have zR:=sP;obtain⟨k9,bB⟩:∃k,k=9:=⟨_,rfl⟩;rw[←bB]at zR;have ld:=bJ (k:=k9) (cs:=[.int .i64 2,.int .i64 qd,.int .i64 us,.int .i64 wi,.int .i64 li,.int .i64 pr,.bool he,.int .i64 no,.int .i64 y]) bg (by rw[bB];rfl);have zP:=qE;rw[←bB]at zP;replace bB:=qae bB;obtain⟨x,hx⟩:=qaa ((kY M ⟨2,qd,us,wi,li,pr,he,no,y⟩));rw[←hx]at jd⊢;rw[aj]at c3 r0 ld jd;replace aC:=qae aC;replace aH:=qae aH;replace hx:=qae hx;clear h hb aP bg;go_enter func33,ntmps33;go_wp2_with fail;go_at_call 92;refine jd.mono ?_;rw[←aj];rintro e w1 hd;replace aj:=qae aj;clear jd c3 r0 ld;obtain⟨c,hc,lE,rfl,hst,fV,hlv,hof⟩:=qF hp0.out aC.out aH.out hd;clear hd;have wV:=qae lE;rw[←bB.out]at lE;replace hlv:=qae hlv;replace hof:=qae hof;replace fV:=qae fV;replace hc:=qae hc;go_wp2_with fail;refine aO rfl rfl rfl fV.out underlying67 rfl (by rw[List.size_toArray,wV.out];kernel_rfl) ⟨by rw[hc.out],hlv.out,hof.out⟩
theorem Z7 (h:MW w p dv lv M)(hb:MB M)(hcl:M.cl=false)(qd us wi li pr:Int)(he:Bool)(no y:Int)(hid: -9223372036854775808≤qd∧qd≤9223372036854775807):Calls prog 33 #[.pointer (some ⟨p,0,none⟩),.agg #[.int .i64 5,.int .i64 qd,.int .i64 us,.int .i64 wi,.int .i64 li,.int .i64 pr,.bool he,.int .i64 no,.int .i64 y]] w (iJ w p dv lv (kY M ⟨5,qd,us,wi,li,pr,he,no,y⟩)):=by
 obtain⟨wA,aj⟩:=qaa ((w.alloc (.cells #[.int .i64 5,.int .i64 qd,.int .i64 us,.int .i64 wi,.int .i64 li,.int .i64 pr,.bool he,.int .i64 no,.int .i64 y] 33)).alloc (.cells #[.int .i64 0,.int .i64 0,.int .i64 0,.int .i64 0,.int .i64 0,.int .i64 0,.int .i64 0,.int .i64 0,.int .i64 0] 67));have aC:Below w.heap.size w wA:=by rw[aj];exact(qac.alloc (qaf _) _).alloc (by simp) _
 have hsA:wA.heap.size=w.heap.size+2:=by rw[aj];simp
 have aH:aG wA (w.heap.size+1) aQ:=by rw[aj];exact heap_alloc2_new w _ _
 have bg:wA.heap[w.heap.size]? =some (.cells #[.int .i64 5,.int .i64 qd,.int .i64 us,.int .i64 wi,.int .i64 li,.int .i64 pr,.bool he,.int .i64 no,.int .i64 y] 33 (0,0)):=by rw[aj];exact aJ (heap_alloc_new w _)
 have aP:=h.kept aC;have hp0:Hid (∀k,ax p dv lv k→k<w.heap.size):=h.bF;have c3:=aP.read.c3;rw[hcl]at c3;have r0:wA.cell? ⟨w.heap.size,0,none⟩=some (.int .i64 5):=by simp[World.cell?,bg]
 have jd:=OB aP hb 5 qd us wi li pr he no y (.inr rfl) hid;have zR:=sP;obtain⟨k9,bB⟩:∃k,k=9:=⟨_,rfl⟩;rw[←bB]at zR;have ld:=bJ (k:=k9) (cs:=[.int .i64 5,.int .i64 qd,.int .i64 us,.int .i64 wi,.int .i64 li,.int .i64 pr,.bool he,.int .i64 no,.int .i64 y]) bg (by rw[bB];rfl);have zP:=qE;rw[←bB]at zP;replace bB:=qae bB;obtain⟨x,hx⟩:=qaa ((kY M ⟨5,qd,us,wi,li,pr,he,no,y⟩));rw[←hx]at jd⊢;rw[aj]at c3 r0 ld jd;replace aC:=qae aC;replace aH:=qae aH;replace hx:=qae hx;clear h hb aP bg;go_enter func33,ntmps33;go_wp2_with fail;go_at_call 92;refine jd.mono ?_;rw[←aj];rintro e w1 hd;replace aj:=qae aj;clear jd c3 r0 ld;obtain⟨c,hc,lE,rfl,hst,fV,hlv,hof⟩:=qF hp0.out aC.out aH.out hd;clear hd;have wV:=qae lE;rw[←bB.out]at lE;replace hlv:=qae hlv;replace hof:=qae hof;replace fV:=qae fV;replace hc:=qae hc;go_wp2_with fail;refine aO rfl rfl rfl fV.out underlying67 rfl (by rw[List.size_toArray,wV.out];kernel_rfl) ⟨by rw[hc.out],hlv.out,hof.out⟩
theorem Z8 (h:MW w p dv lv M)(hb:MB M)(hcl:M.cl=false)(qd us wi li pr:Int)(he:Bool)(no y:Int)(hid: -9223372036854775808≤qd∧qd≤9223372036854775807):Calls prog 33 #[.pointer (some ⟨p,0,none⟩),.agg #[.int .i64 3,.int .i64 qd,.int .i64 us,.int .i64 wi,.int .i64 li,.int .i64 pr,.bool he,.int .i64 no,.int .i64 y]] w (iJ w p dv lv (fC M ⟨3,qd,us,wi,li,pr,he,no,y⟩)):=by
 obtain⟨wA,aj⟩:=qaa ((w.alloc (.cells #[.int .i64 3,.int .i64 qd,.int .i64 us,.int .i64 wi,.int .i64 li,.int .i64 pr,.bool he,.int .i64 no,.int .i64 y] 33)).alloc (.cells #[.int .i64 0,.int .i64 0,.int .i64 0,.int .i64 0,.int .i64 0,.int .i64 0,.int .i64 0,.int .i64 0,.int .i64 0] 67));have aC:Below w.heap.size w wA:=by rw[aj];exact(qac.alloc (qaf _) _).alloc (by simp) _
 have hsA:wA.heap.size=w.heap.size+2:=by rw[aj];simp
 have aH:aG wA (w.heap.size+1) aQ:=by rw[aj];exact heap_alloc2_new w _ _
 have bg:wA.heap[w.heap.size]? =some (.cells #[.int .i64 3,.int .i64 qd,.int .i64 us,.int .i64 wi,.int .i64 li,.int .i64 pr,.bool he,.int .i64 no,.int .i64 y] 33 (0,0)):=by rw[aj];exact aJ (heap_alloc_new w _)
 have aP:=h.kept aC;have hp0:Hid (∀k,ax p dv lv k→k<w.heap.size):=h.bF;have c3:=aP.read.c3;rw[hcl]at c3;have r0:wA.cell? ⟨w.heap.size,0,none⟩=some (.int .i64 3):=by simp[World.cell?,bg]
 have jd:=CL aP hb 3 qd us wi li pr he no y (.inl rfl) hid;have zR:=sP;obtain⟨k9,bB⟩:∃k,k=9:=⟨_,rfl⟩;rw[←bB]at zR;have ld:=bJ (k:=k9) (cs:=[.int .i64 3,.int .i64 qd,.int .i64 us,.int .i64 wi,.int .i64 li,.int .i64 pr,.bool he,.int .i64 no,.int .i64 y]) bg (by rw[bB];rfl);have zP:=qE;rw[←bB]at zP;replace bB:=qae bB;obtain⟨x,hx⟩:=qaa ((fC M ⟨3,qd,us,wi,li,pr,he,no,y⟩));rw[←hx]at jd⊢;rw[aj]at c3 r0 ld jd;replace aC:=qae aC;replace aH:=qae aH;replace hx:=qae hx;clear h hb aP bg;go_enter func33,ntmps33;go_wp2_with fail;go_at_call 93;refine jd.mono ?_;rw[←aj];rintro e w1 hd;replace aj:=qae aj;clear jd c3 r0 ld;obtain⟨c,hc,lE,rfl,hst,fV,hlv,hof⟩:=qF hp0.out aC.out aH.out hd;clear hd;have wV:=qae lE;rw[←bB.out]at lE;replace hlv:=qae hlv;replace hof:=qae hof;replace fV:=qae fV;replace hc:=qae hc;go_wp2_with fail;refine aO rfl rfl rfl fV.out underlying67 rfl (by rw[List.size_toArray,wV.out];kernel_rfl) ⟨by rw[hc.out],hlv.out,hof.out⟩
theorem Z9 (h:MW w p dv lv M)(hb:MB M)(hcl:M.cl=false)(qd us wi li pr:Int)(he:Bool)(no y:Int)(hid: -9223372036854775808≤qd∧qd≤9223372036854775807):Calls prog 33 #[.pointer (some ⟨p,0,none⟩),.agg #[.int .i64 4,.int .i64 qd,.int .i64 us,.int .i64 wi,.int .i64 li,.int .i64 pr,.bool he,.int .i64 no,.int .i64 y]] w (iJ w p dv lv (fC M ⟨4,qd,us,wi,li,pr,he,no,y⟩)):=by
 obtain⟨wA,aj⟩:=qaa ((w.alloc (.cells #[.int .i64 4,.int .i64 qd,.int .i64 us,.int .i64 wi,.int .i64 li,.int .i64 pr,.bool he,.int .i64 no,.int .i64 y] 33)).alloc (.cells #[.int .i64 0,.int .i64 0,.int .i64 0,.int .i64 0,.int .i64 0,.int .i64 0,.int .i64 0,.int .i64 0,.int .i64 0] 67));have aC:Below w.heap.size w wA:=by rw[aj];exact(qac.alloc (qaf _) _).alloc (by simp) _
 have hsA:wA.heap.size=w.heap.size+2:=by rw[aj];simp
 have aH:aG wA (w.heap.size+1) aQ:=by rw[aj];exact heap_alloc2_new w _ _
 have bg:wA.heap[w.heap.size]? =some (.cells #[.int .i64 4,.int .i64 qd,.int .i64 us,.int .i64 wi,.int .i64 li,.int .i64 pr,.bool he,.int .i64 no,.int .i64 y] 33 (0,0)):=by rw[aj];exact aJ (heap_alloc_new w _)
 have aP:=h.kept aC;have hp0:Hid (∀k,ax p dv lv k→k<w.heap.size):=h.bF;have c3:=aP.read.c3;rw[hcl]at c3;have r0:wA.cell? ⟨w.heap.size,0,none⟩=some (.int .i64 4):=by simp[World.cell?,bg]
 have jd:=CL aP hb 4 qd us wi li pr he no y (.inr (.inl rfl)) hid;have zR:=sP;obtain⟨k9,bB⟩:∃k,k=9:=⟨_,rfl⟩;rw[←bB]at zR;have ld:=bJ (k:=k9) (cs:=[.int .i64 4,.int .i64 qd,.int .i64 us,.int .i64 wi,.int .i64 li,.int .i64 pr,.bool he,.int .i64 no,.int .i64 y]) bg (by rw[bB];rfl);have zP:=qE;rw[←bB]at zP;replace bB:=qae bB;obtain⟨x,hx⟩:=qaa ((fC M ⟨4,qd,us,wi,li,pr,he,no,y⟩));rw[←hx]at jd⊢;rw[aj]at c3 r0 ld jd;replace aC:=qae aC;replace aH:=qae aH;replace hx:=qae hx;clear h hb aP bg;go_enter func33,ntmps33;go_wp2_with fail;go_at_call 93;refine jd.mono ?_;rw[←aj];rintro e w1 hd;replace aj:=qae aj;clear jd c3 r0 ld;obtain⟨c,hc,lE,rfl,hst,fV,hlv,hof⟩:=qF hp0.out aC.out aH.out hd;clear hd;have wV:=qae lE;rw[←bB.out]at lE;replace hlv:=qae hlv;replace hof:=qae hof;replace fV:=qae fV;replace hc:=qae hc;go_wp2_with fail;refine aO rfl rfl rfl fV.out underlying67 rfl (by rw[List.size_toArray,wV.out];kernel_rfl) ⟨by rw[hc.out],hlv.out,hof.out⟩
theorem aaa (h:MW w p dv lv M)(hb:MB M)(hcl:M.cl=false)(qd us wi li pr:Int)(he:Bool)(no y:Int)(hid: -9223372036854775808≤qd∧qd≤9223372036854775807):Calls prog 33 #[.pointer (some ⟨p,0,none⟩),.agg #[.int .i64 6,.int .i64 qd,.int .i64 us,.int .i64 wi,.int .i64 li,.int .i64 pr,.bool he,.int .i64 no,.int .i64 y]] w (iJ w p dv lv (fC M ⟨6,qd,us,wi,li,pr,he,no,y⟩)):=by
 obtain⟨wA,aj⟩:=qaa ((w.alloc (.cells #[.int .i64 6,.int .i64 qd,.int .i64 us,.int .i64 wi,.int .i64 li,.int .i64 pr,.bool he,.int .i64 no,.int .i64 y] 33)).alloc (.cells #[.int .i64 0,.int .i64 0,.int .i64 0,.int .i64 0,.int .i64 0,.int .i64 0,.int .i64 0,.int .i64 0,.int .i64 0] 67));have aC:Below w.heap.size w wA:=by rw[aj];exact(qac.alloc (qaf _) _).alloc (by simp) _
 have hsA:wA.heap.size=w.heap.size+2:=by rw[aj];simp
 have aH:aG wA (w.heap.size+1) aQ:=by rw[aj];exact heap_alloc2_new w _ _
 have bg:wA.heap[w.heap.size]? =some (.cells #[.int .i64 6,.int .i64 qd,.int .i64 us,.int .i64 wi,.int .i64 li,.int .i64 pr,.bool he,.int .i64 no,.int .i64 y] 33 (0,0)):=by rw[aj];exact aJ (heap_alloc_new w _)
 have aP:=h.kept aC;have hp0:Hid (∀k,ax p dv lv k→k<w.heap.size):=h.bF;have c3:=aP.read.c3;rw[hcl]at c3;have r0:wA.cell? ⟨w.heap.size,0,none⟩=some (.int .i64 6):=by simp[World.cell?,bg]
 have jd:=CL aP hb 6 qd us wi li pr he no y (.inr (.inr rfl)) hid;have zR:=sP;obtain⟨k9,bB⟩:∃k,k=9:=⟨_,rfl⟩;rw[←bB]at zR;have ld:=bJ (k:=k9) (cs:=[.int .i64 6,.int .i64 qd,.int .i64 us,.int .i64 wi,.int .i64 li,.int .i64 pr,.bool he,.int .i64 no,.int .i64 y]) bg (by rw[bB];rfl);have zP:=qE;rw[←bB]at zP;replace bB:=qae bB;obtain⟨x,hx⟩:=qaa ((fC M ⟨6,qd,us,wi,li,pr,he,no,y⟩));rw[←hx]at jd⊢;rw[aj]at c3 r0 ld jd;replace aC:=qae aC;replace aH:=qae aH;replace hx:=qae hx;clear h hb aP bg;go_enter func33,ntmps33;go_wp2_with fail;go_at_call 93;refine jd.mono ?_;rw[←aj];rintro e w1 hd;replace aj:=qae aj;clear jd c3 r0 ld;obtain⟨c,hc,lE,rfl,hst,fV,hlv,hof⟩:=qF hp0.out aC.out aH.out hd;clear hd;have wV:=qae lE;rw[←bB.out]at lE;replace hlv:=qae hlv;replace hof:=qae hof;replace fV:=qae fV;replace hc:=qae hc;go_wp2_with fail;refine aO rfl rfl rfl fV.out underlying67 rfl (by rw[List.size_toArray,wV.out];kernel_rfl) ⟨by rw[hc.out],hlv.out,hof.out⟩
theorem aab (h:MW w p dv lv M)(hb:MB M)(hcl:M.cl=false)(qd us wi li pr:Int)(he:Bool)(no y:Int):Calls prog 33 #[.pointer (some ⟨p,0,none⟩),.agg #[.int .i64 7,.int .i64 qd,.int .i64 us,.int .i64 wi,.int .i64 li,.int .i64 pr,.bool he,.int .i64 no,.int .i64 y]] w (iJ w p dv lv (gU M ⟨7,qd,us,wi,li,pr,he,no,y⟩)):=by
 obtain⟨wA,aj⟩:=qaa ((w.alloc (.cells #[.int .i64 7,.int .i64 qd,.int .i64 us,.int .i64 wi,.int .i64 li,.int .i64 pr,.bool he,.int .i64 no,.int .i64 y] 33)).alloc (.cells #[.int .i64 0,.int .i64 0,.int .i64 0,.int .i64 0,.int .i64 0,.int .i64 0,.int .i64 0,.int .i64 0,.int .i64 0] 67));have aC:Below w.heap.size w wA:=by rw[aj];exact(qac.alloc (qaf _) _).alloc (by simp) _
 have hsA:wA.heap.size=w.heap.size+2:=by rw[aj];simp
 have aH:aG wA (w.heap.size+1) aQ:=by rw[aj];exact heap_alloc2_new w _ _
 have bg:wA.heap[w.heap.size]? =some (.cells #[.int .i64 7,.int .i64 qd,.int .i64 us,.int .i64 wi,.int .i64 li,.int .i64 pr,.bool he,.int .i64 no,.int .i64 y] 33 (0,0)):=by rw[aj];exact aJ (heap_alloc_new w _)
 have aP:=h.kept aC;have hp0:Hid (∀k,ax p dv lv k→k<w.heap.size):=h.bF;have c3:=aP.read.c3;rw[hcl]at c3;have r0:wA.cell? ⟨w.heap.size,0,none⟩=some (.int .i64 7):=by simp[World.cell?,bg]
 have jd:=Jz aP hb 7 qd us wi li pr he no y (.inl rfl);have zR:=sP;obtain⟨k9,bB⟩:∃k,k=9:=⟨_,rfl⟩;rw[←bB]at zR;have ld:=bJ (k:=k9) (cs:=[.int .i64 7,.int .i64 qd,.int .i64 us,.int .i64 wi,.int .i64 li,.int .i64 pr,.bool he,.int .i64 no,.int .i64 y]) bg (by rw[bB];rfl);have zP:=qE;rw[←bB]at zP;replace bB:=qae bB;obtain⟨x,hx⟩:=qaa ((gU M ⟨7,qd,us,wi,li,pr,he,no,y⟩));rw[←hx]at jd⊢;rw[aj]at c3 r0 ld jd;replace aC:=qae aC;replace aH:=qae aH;replace hx:=qae hx;clear h hb aP bg;go_enter func33,ntmps33;go_wp2_with fail;go_at_call 94;refine jd.mono ?_;rw[←aj];rintro e w1 hd;replace aj:=qae aj;clear jd c3 r0 ld;obtain⟨c,hc,lE,rfl,hst,fV,hlv,hof⟩:=qF hp0.out aC.out aH.out hd;clear hd;have wV:=qae lE;rw[←bB.out]at lE;replace hlv:=qae hlv;replace hof:=qae hof;replace fV:=qae fV;replace hc:=qae hc;go_wp2_with fail;refine aO rfl rfl rfl fV.out underlying67 rfl (by rw[List.size_toArray,wV.out];kernel_rfl) ⟨by rw[hc.out],hlv.out,hof.out⟩
theorem aac (h:MW w p dv lv M)(hb:MB M)(hcl:M.cl=false)(qd us wi li pr:Int)(he:Bool)(no y:Int):Calls prog 33 #[.pointer (some ⟨p,0,none⟩),.agg #[.int .i64 8,.int .i64 qd,.int .i64 us,.int .i64 wi,.int .i64 li,.int .i64 pr,.bool he,.int .i64 no,.int .i64 y]] w (iJ w p dv lv (gU M ⟨8,qd,us,wi,li,pr,he,no,y⟩)):=by
 obtain⟨wA,aj⟩:=qaa ((w.alloc (.cells #[.int .i64 8,.int .i64 qd,.int .i64 us,.int .i64 wi,.int .i64 li,.int .i64 pr,.bool he,.int .i64 no,.int .i64 y] 33)).alloc (.cells #[.int .i64 0,.int .i64 0,.int .i64 0,.int .i64 0,.int .i64 0,.int .i64 0,.int .i64 0,.int .i64 0,.int .i64 0] 67));have aC:Below w.heap.size w wA:=by rw[aj];exact(qac.alloc (qaf _) _).alloc (by simp) _
 have hsA:wA.heap.size=w.heap.size+2:=by rw[aj];simp
 have aH:aG wA (w.heap.size+1) aQ:=by rw[aj];exact heap_alloc2_new w _ _
 have bg:wA.heap[w.heap.size]? =some (.cells #[.int .i64 8,.int .i64 qd,.int .i64 us,.int .i64 wi,.int .i64 li,.int .i64 pr,.bool he,.int .i64 no,.int .i64 y] 33 (0,0)):=by rw[aj];exact aJ (heap_alloc_new w _)
 have aP:=h.kept aC;have hp0:Hid (∀k,ax p dv lv k→k<w.heap.size):=h.bF;have c3:=aP.read.c3;rw[hcl]at c3;have r0:wA.cell? ⟨w.heap.size,0,none⟩=some (.int .i64 8):=by simp[World.cell?,bg]
 have jd:=Jz aP hb 8 qd us wi li pr he no y (.inr rfl);have zR:=sP;obtain⟨k9,bB⟩:∃k,k=9:=⟨_,rfl⟩;rw[←bB]at zR;have ld:=bJ (k:=k9) (cs:=[.int .i64 8,.int .i64 qd,.int .i64 us,.int .i64 wi,.int .i64 li,.int .i64 pr,.bool he,.int .i64 no,.int .i64 y]) bg (by rw[bB];rfl);have zP:=qE;rw[←bB]at zP;replace bB:=qae bB;obtain⟨x,hx⟩:=qaa ((gU M ⟨8,qd,us,wi,li,pr,he,no,y⟩));rw[←hx]at jd⊢;rw[aj]at c3 r0 ld jd;replace aC:=qae aC;replace aH:=qae aH;replace hx:=qae hx;clear h hb aP bg;go_enter func33,ntmps33;go_wp2_with fail;go_at_call 94;refine jd.mono ?_;rw[←aj];rintro e w1 hd;replace aj:=qae aj;clear jd c3 r0 ld;obtain⟨c,hc,lE,rfl,hst,fV,hlv,hof⟩:=qF hp0.out aC.out aH.out hd;clear hd;have wV:=qae lE;rw[←bB.out]at lE;replace hlv:=qae hlv;replace hof:=qae hof;replace fV:=qae fV;replace hc:=qae hc;go_wp2_with fail;refine aO rfl rfl rfl fV.out underlying67 rfl (by rw[List.size_toArray,wV.out];kernel_rfl) ⟨by rw[hc.out],hlv.out,hof.out⟩
theorem aad (h:MW w p dv lv M)(hb:MB M)(hcl:M.cl=false)(qd us wi li pr:Int)(he:Bool)(no y:Int)(hy: -9223372036854775808≤y∧y≤9223372036854775807):Calls prog 33 #[.pointer (some ⟨p,0,none⟩),.agg #[.int .i64 9,.int .i64 qd,.int .i64 us,.int .i64 wi,.int .i64 li,.int .i64 pr,.bool he,.int .i64 no,.int .i64 y]] w (iJ w p dv lv (lF M y)):=by
 obtain⟨wA,aj⟩:=qaa ((w.alloc (.cells #[.int .i64 9,.int .i64 qd,.int .i64 us,.int .i64 wi,.int .i64 li,.int .i64 pr,.bool he,.int .i64 no,.int .i64 y] 33)).alloc (.cells #[.int .i64 0,.int .i64 0,.int .i64 0,.int .i64 0,.int .i64 0,.int .i64 0,.int .i64 0,.int .i64 0,.int .i64 0] 67));have aC:Below w.heap.size w wA:=by rw[aj];exact(qac.alloc (qaf _) _).alloc (by simp) _
 have hsA:wA.heap.size=w.heap.size+2:=by rw[aj];simp
 have aH:aG wA (w.heap.size+1) aQ:=by rw[aj];exact heap_alloc2_new w _ _
 have bg:wA.heap[w.heap.size]? =some (.cells #[.int .i64 9,.int .i64 qd,.int .i64 us,.int .i64 wi,.int .i64 li,.int .i64 pr,.bool he,.int .i64 no,.int .i64 y] 33 (0,0)):=by rw[aj];exact aJ (heap_alloc_new w _)
 have aP:=h.kept aC;have hp0:Hid (∀k,ax p dv lv k→k<w.heap.size):=h.bF;have c3:=aP.read.c3;rw[hcl]at c3;have r0:wA.cell? ⟨w.heap.size,0,none⟩=some (.int .i64 9):=by simp[World.cell?,bg]
 have jd:=Sv aP hb y hy;have r8:wA.cell? ⟨w.heap.size,8,none⟩=some (.int .i64 y):=by simp[World.cell?,bg]
 obtain⟨k9,bB⟩:∃k,k=9:=⟨_,rfl⟩;have zP:=qE;rw[←bB]at zP;replace bB:=qae bB;obtain⟨x,hx⟩:=qaa ((lF M y));rw[←hx]at jd⊢;rw[aj]at c3 r0 r8 jd;replace aC:=qae aC;replace aH:=qae aH;replace hx:=qae hx;clear h hb aP bg;go_enter func33,ntmps33;go_wp2_with fail;go_at_call 95;refine jd.mono ?_;rw[←aj];rintro e w1 hd;replace aj:=qae aj;clear jd c3 r0 r8;obtain⟨c,hc,lE,rfl,hst,fV,hlv,hof⟩:=qF hp0.out aC.out aH.out hd;clear hd;have wV:=qae lE;rw[←bB.out]at lE;replace hlv:=qae hlv;replace hof:=qae hof;replace fV:=qae fV;replace hc:=qae hc;go_wp2_with fail;refine aO rfl rfl rfl fV.out underlying67 rfl (by rw[List.size_toArray,wV.out];kernel_rfl) ⟨by rw[hc.out],hlv.out,hof.out⟩
theorem do_1 (h:MW w p dv lv M)(hb:MB M)(hcl:M.cl=false)(qd us wi li pr:Int)(he:Bool)(no y:Int):Calls prog 33 #[.pointer (some ⟨p,0,none⟩),.agg #[.int .i64 1,.int .i64 qd,.int .i64 us,.int .i64 wi,.int .i64 li,.int .i64 pr,.bool he,.int .i64 no,.int .i64 y]] w (iJ w p dv lv (iW M ⟨1,qd,us,wi,li,pr,he,no,y⟩)):=by
 obtain⟨wA,aj⟩:=qaa ((w.alloc (.cells #[.int .i64 1,.int .i64 qd,.int .i64 us,.int .i64 wi,.int .i64 li,.int .i64 pr,.bool he,.int .i64 no,.int .i64 y] 33)).alloc (.cells #[.int .i64 0,.int .i64 0,.int .i64 0,.int .i64 0,.int .i64 0,.int .i64 0,.int .i64 0,.int .i64 0,.int .i64 0] 67));have aC:Below w.heap.size w wA:=by rw[aj];exact(qac.alloc (qaf _) _).alloc (by simp) _
 have hsA:wA.heap.size=w.heap.size+2:=by rw[aj];simp
 have aH:aG wA (w.heap.size+1) aQ:=by rw[aj];exact heap_alloc2_new w _ _
 have bg:wA.heap[w.heap.size]? =some (.cells #[.int .i64 1,.int .i64 qd,.int .i64 us,.int .i64 wi,.int .i64 li,.int .i64 pr,.bool he,.int .i64 no,.int .i64 y] 33 (0,0)):=by rw[aj];exact aJ (heap_alloc_new w _)
 have aP:=h.kept aC;have hp0:Hid (∀k,ax p dv lv k→k<w.heap.size):=h.bF;have c3:=aP.read.c3;rw[hcl]at c3;have r0:wA.cell? ⟨w.heap.size,0,none⟩=some (.int .i64 1):=by simp[World.cell?,bg]
 have jd:=Oo aP hb 1 qd us wi li pr he no y;have zR:=sP;obtain⟨k9,bB⟩:∃k,k=9:=⟨_,rfl⟩;rw[←bB]at zR;have ld:=bJ (k:=k9) (cs:=[.int .i64 1,.int .i64 qd,.int .i64 us,.int .i64 wi,.int .i64 li,.int .i64 pr,.bool he,.int .i64 no,.int .i64 y]) bg (by rw[bB];rfl);have zP:=qE;rw[←bB]at zP;replace bB:=qae bB;obtain⟨x,hx⟩:=qaa ((iW M ⟨1,qd,us,wi,li,pr,he,no,y⟩));rw[←hx]at jd⊢;rw[aj]at c3 r0 ld jd;replace aC:=qae aC;replace aH:=qae aH;replace hx:=qae hx;clear h hb aP bg;go_enter func33,ntmps33;go_wp2_with fail;go_at_call 91;refine jd.mono ?_;rw[←aj];rintro e w1 hd;replace aj:=qae aj;clear jd c3 r0 ld;obtain⟨c,hc,lE,rfl,hst,fV,hlv,hof⟩:=qF hp0.out aC.out aH.out hd;clear hd;have wV:=qae lE;rw[←bB.out]at lE;replace hlv:=qae hlv;replace hof:=qae hof;replace fV:=qae fV;replace hc:=qae hc;go_wp2_with fail;refine aO rfl rfl rfl fV.out underlying67 rfl (by rw[List.size_toArray,wV.out];kernel_rfl) ⟨by rw[hc.out],hlv.out,hof.out⟩
theorem Yc (h:MW w p dv lv M)(hb:MB M)(hcl:M.cl=false)(qd us wi li pr:Int)(he:Bool)(no y:Int):Calls prog 33 #[.pointer (some ⟨p,0,none⟩),.agg #[.int .i64 10,.int .i64 qd,.int .i64 us,.int .i64 wi,.int .i64 li,.int .i64 pr,.bool he,.int .i64 no,.int .i64 y]] w (iJ w p dv lv ((0,0,0,0,0,0,((iM M 1 1:Nat):Int),((iM M 2 3:Nat):Int),((iM M 4 4:Nat):Int)),M)):=by
 obtain⟨wA,aj⟩:=qaa ((w.alloc (.cells #[.int .i64 10,.int .i64 qd,.int .i64 us,.int .i64 wi,.int .i64 li,.int .i64 pr,.bool he,.int .i64 no,.int .i64 y] 33)).alloc (.cells #[.int .i64 0,.int .i64 0,.int .i64 0,.int .i64 0,.int .i64 0,.int .i64 0,.int .i64 0,.int .i64 0,.int .i64 0] 67));have aC:Below w.heap.size w wA:=by rw[aj];exact(qac.alloc (qaf _) _).alloc (by simp) _
 have hsA:wA.heap.size=w.heap.size+2:=by rw[aj];simp
 have aH:aG wA (w.heap.size+1) aQ:=by rw[aj];exact heap_alloc2_new w _ _
 have bg:wA.heap[w.heap.size]? =some (.cells #[.int .i64 10,.int .i64 qd,.int .i64 us,.int .i64 wi,.int .i64 li,.int .i64 pr,.bool he,.int .i64 no,.int .i64 y] 33 (0,0)):=by rw[aj];exact aJ (heap_alloc_new w _)
 have aP:=h.kept aC;have hp0:Hid (∀k,ax p dv lv k→k<w.heap.size):=h.bF;have c3:=aP.read.c3;rw[hcl]at c3;have r0:wA.cell? ⟨w.heap.size,0,none⟩=some (.int .i64 10):=by simp[World.cell?,bg]
 have hc0:=uA aP.read hb 1 1;obtain⟨C0,hC0⟩:∃C:Int,C=((iM M 1 1:Nat):Int):=⟨_,rfl⟩;rw[←hC0]at hc0⊢;rw[aj]at hc0;clear hC0;have hc1:=uA aP.read hb 2 3;obtain⟨C1,qC⟩:∃C:Int,C=((iM M 2 3:Nat):Int):=⟨_,rfl⟩;rw[←qC]at hc1⊢;rw[aj]at hc1;clear qC;have hc2:=uA aP.read hb 4 4;obtain⟨C2,hC2⟩:∃C:Int,C=((iM M 4 4:Nat):Int):=⟨_,rfl⟩;rw[←hC2]at hc2⊢;rw[aj]at hc2;clear hC2;rw[aj]at c3 r0;obtain⟨w3,hw3⟩:=qaa ((w.alloc (.cells #[.int .i64 10,.int .i64 qd,.int .i64 us,.int .i64 wi,.int .i64 li,.int .i64 pr,.bool he,.int .i64 no,.int .i64 y] 33)).alloc (.cells #[.int .i64 0,.int .i64 0,.int .i64 0,.int .i64 0,.int .i64 0,.int .i64 0,.int .i64 C0,.int .i64 C1,.int .i64 C2] 67));have hb3:Hid (Below w.heap.size w w3):=by show Below _ _ _;rw[hw3];exact(qac.alloc (qaf _) _).alloc (by simp) _
 have gz:aG w3 (w.heap.size+1) (0,0,0,0,0,0,C0,C1,C2):=by rw[hw3];exact heap_alloc2_new w _ _
 have eZ:=qae (h.kept hb3.out);clear h hb aP bg aH aC aj;go_enter func33,ntmps33;go_wp2_with fail;go_at_call 96;refine hc0.mono ?_;clear hc0;rintro e w4 ⟨rfl,rfl⟩;go_wp2_with fail;go_at_call 96;refine hc1.mono ?_;clear hc1;rintro e w4 ⟨rfl,rfl⟩;go_wp2_with fail;go_at_call 96;refine hc2.mono ?_;clear hc2;rintro e w4 ⟨rfl,rfl⟩;go_wp2_with fail;rw[←hw3];replace hw3:=qae hw3;refine aO rfl rfl rfl gz underlying67 rfl (by kernel_rfl) ⟨rfl,⟨_,eZ.out,aY.refl _ _⟩,aB.of_below (S:=ax p dv lv) hb3.out⟩
theorem Yd (h:MW w p dv lv M)(hb:MB M)(hcl:M.cl=false)(qd us wi li pr:Int)(he:Bool)(no y:Int):Calls prog 33 #[.pointer (some ⟨p,0,none⟩),.agg #[.int .i64 11,.int .i64 qd,.int .i64 us,.int .i64 wi,.int .i64 li,.int .i64 pr,.bool he,.int .i64 no,.int .i64 y]] w (iJ w p dv lv ((0,0,0,0,0,0,((jG M 1:Nat):Int),((jG M 2:Nat):Int),((jG M 3:Nat):Int)),M)):=by
 obtain⟨wA,aj⟩:=qaa ((w.alloc (.cells #[.int .i64 11,.int .i64 qd,.int .i64 us,.int .i64 wi,.int .i64 li,.int .i64 pr,.bool he,.int .i64 no,.int .i64 y] 33)).alloc (.cells #[.int .i64 0,.int .i64 0,.int .i64 0,.int .i64 0,.int .i64 0,.int .i64 0,.int .i64 0,.int .i64 0,.int .i64 0] 67));have aC:Below w.heap.size w wA:=by rw[aj];exact(qac.alloc (qaf _) _).alloc (by simp) _
 have hsA:wA.heap.size=w.heap.size+2:=by rw[aj];simp
 have aH:aG wA (w.heap.size+1) aQ:=by rw[aj];exact heap_alloc2_new w _ _
 have bg:wA.heap[w.heap.size]? =some (.cells #[.int .i64 11,.int .i64 qd,.int .i64 us,.int .i64 wi,.int .i64 li,.int .i64 pr,.bool he,.int .i64 no,.int .i64 y] 33 (0,0)):=by rw[aj];exact aJ (heap_alloc_new w _)
 have aP:=h.kept aC;have hp0:Hid (∀k,ax p dv lv k→k<w.heap.size):=h.bF;have c3:=aP.read.c3;rw[hcl]at c3;have r0:wA.cell? ⟨w.heap.size,0,none⟩=some (.int .i64 11):=by simp[World.cell?,bg]
 have hc0:=vL aP.read hb 1 1;obtain⟨C0,hC0⟩:∃C:Int,C=((jG M 1:Nat):Int):=⟨_,rfl⟩;rw[←hC0]at hc0⊢;rw[aj]at hc0;clear hC0;have hc1:=vL aP.read hb 2 2;obtain⟨C1,qC⟩:∃C:Int,C=((jG M 2:Nat):Int):=⟨_,rfl⟩;rw[←qC]at hc1⊢;rw[aj]at hc1;clear qC;have hc2:=vL aP.read hb 3 3;obtain⟨C2,hC2⟩:∃C:Int,C=((jG M 3:Nat):Int):=⟨_,rfl⟩;rw[←hC2]at hc2⊢;rw[aj]at hc2;clear hC2;rw[aj]at c3 r0;obtain⟨w3,hw3⟩:=qaa ((w.alloc (.cells #[.int .i64 11,.int .i64 qd,.int .i64 us,.int .i64 wi,.int .i64 li,.int .i64 pr,.bool he,.int .i64 no,.int .i64 y] 33)).alloc (.cells #[.int .i64 0,.int .i64 0,.int .i64 0,.int .i64 0,.int .i64 0,.int .i64 0,.int .i64 C0,.int .i64 C1,.int .i64 C2] 67));have hb3:Hid (Below w.heap.size w w3):=by show Below _ _ _;rw[hw3];exact(qac.alloc (qaf _) _).alloc (by simp) _
 have gz:aG w3 (w.heap.size+1) (0,0,0,0,0,0,C0,C1,C2):=by rw[hw3];exact heap_alloc2_new w _ _
 have eZ:=qae (h.kept hb3.out);clear h hb aP bg aH aC aj;go_enter func33,ntmps33;go_wp2_with fail;go_at_call 96;refine hc0.mono ?_;clear hc0;rintro e w4 ⟨rfl,rfl⟩;go_wp2_with fail;go_at_call 96;refine hc1.mono ?_;clear hc1;rintro e w4 ⟨rfl,rfl⟩;go_wp2_with fail;go_at_call 96;refine hc2.mono ?_;clear hc2;rintro e w4 ⟨rfl,rfl⟩;go_wp2_with fail;rw[←hw3];replace hw3:=qae hw3;refine aO rfl rfl rfl gz underlying67 rfl (by kernel_rfl) ⟨rfl,⟨_,eZ.out,aY.refl _ _⟩,aB.of_below (S:=ax p dv lv) hb3.out⟩
theorem Ye (h:MW w p dv lv M)(hb:MB M)(hcl:M.cl=false)(qd us wi li pr:Int)(he:Bool)(no y:Int):Calls prog 33 #[.pointer (some ⟨p,0,none⟩),.agg #[.int .i64 12,.int .i64 qd,.int .i64 us,.int .i64 wi,.int .i64 li,.int .i64 pr,.bool he,.int .i64 no,.int .i64 y]] w (iJ w p dv lv ((0,0,0,M.now,0,0,aF M M.now 0,0,0),M)):=by
 obtain⟨wA,aj⟩:=qaa ((w.alloc (.cells #[.int .i64 12,.int .i64 qd,.int .i64 us,.int .i64 wi,.int .i64 li,.int .i64 pr,.bool he,.int .i64 no,.int .i64 y] 33)).alloc (.cells #[.int .i64 0,.int .i64 0,.int .i64 0,.int .i64 0,.int .i64 0,.int .i64 0,.int .i64 0,.int .i64 0,.int .i64 0] 67));have aC:Below w.heap.size w wA:=by rw[aj];exact(qac.alloc (qaf _) _).alloc (by simp) _
 have hsA:wA.heap.size=w.heap.size+2:=by rw[aj];simp
 have aH:aG wA (w.heap.size+1) aQ:=by rw[aj];exact heap_alloc2_new w _ _
 have bg:wA.heap[w.heap.size]? =some (.cells #[.int .i64 12,.int .i64 qd,.int .i64 us,.int .i64 wi,.int .i64 li,.int .i64 pr,.bool he,.int .i64 no,.int .i64 y] 33 (0,0)):=by rw[aj];exact aJ (heap_alloc_new w _)
 have aP:=h.kept aC;have hp0:Hid (∀k,ax p dv lv k→k<w.heap.size):=h.bF;have c3:=aP.read.c3;rw[hcl]at c3;have r0:wA.cell? ⟨w.heap.size,0,none⟩=some (.int .i64 12):=by simp[World.cell?,bg]
 obtain⟨T,hT⟩:=qaa (M.now);obtain⟨F,uz⟩:=qaa (aF M T 0);rw[←hT,←uz];rw[aj]at c3 r0;replace aP:=qae aP;replace aC:=qae aC;replace aH:=qae aH;replace hT:=qae hT;replace uz:=qae uz;replace hb:=qae hb;clear h bg;go_enter func33,ntmps33;go_wp2_with fail;rw[←aj];replace aj:=qae aj;clear c3 r0;refine Reg2.ro wA 10 80 [.p 0,.p 1,.p 3,.m 7,.p 0,.p 0,.p 32,.p 96,.m 224,.m 496] [.int .i64 T,.int .i64 T,.int .i64 F] (by kernel_rfl) (by kernel_rfl) rfl rfl ⟨rfl,rfl,rfl,qaf _,fun _ _=>rfl⟩ ?_;dsimp only[Reg2.fF]
 repeat((first
  |(refine' Reg2.ak _ (by rfl) (fun wz=>?_) ?_;rotate_left;(go_simp;first|rfl|rw[qai (by omega)]))
  |(refine Reg2.az (by rfl) (fun wz hI hF=>?_) (fun _=>?_)
    ·unfold Reg2.One;have d0:=(aP.out.kept hI).read.c0;rw[←hT.out]at d0;go_wp2_with fail
     first|exact⟨_,rfl,rfl,qad⟩|exact⟨_,rfl,⟨(),rfl,trivial⟩,qad⟩));simp only[Act.put,xA,xB,xC,xD,xE,id])
 refine Reg2.pm (fun wz hI hF=>?_) (fun s9=>?_) (by rfl)
 ·have hst:=qV (aP.out.kept hI).read hb.out T 0;rw[←uz.out]at hst;go_wp2_with fail;go_at_call 97;refine hst.mono ?_;clear hst;rintro e w5 ⟨rfl,hb5⟩;go_wp2_with fail
  first|exact⟨_,rfl,⟨(),rfl,trivial⟩,hb5⟩|exact⟨_,rfl,rfl,hb5⟩
 simp only[Act.put,xA,xB,xC,xD,xE,id];refine Reg2.aD ?_;intro w9 eu _ p9;clear p9 s9;dsimp only[List.drop];have jT:Hid (MW w9 p dv lv M):=aP.out.kept eu;have tX:Hid (aB (ax p dv lv) w w9):=aB.of_below (S:=ax p dv lv) (aC.out.trans (eu.mono aC.out.size));have bK:aG w9 (w.heap.size+1) aQ:=(eu.block _ (ai aH.out)).trans aH.out;have a0:=bK.at 0 (.int .i64 0) rfl;have f0:=bK.free 0;have a1:=bK.at 1 (.int .i64 0) rfl;have f1:=bK.free 1;have a2:=bK.at 2 (.int .i64 0) rfl;have f2:=bK.free 2;have a3:=bK.at 3 (.int .i64 0) rfl;have f3:=bK.free 3;have a4:=bK.at 4 (.int .i64 0) rfl;have f4:=bK.free 4;have a5:=bK.at 5 (.int .i64 0) rfl;have f5:=bK.free 5;have a6:=bK.at 6 (.int .i64 0) rfl;have f6:=bK.free 6;have a7:=bK.at 7 (.int .i64 0) rfl;have f7:=bK.free 7;have a8:=bK.at 8 (.int .i64 0) rfl;have f8:=bK.free 8;obtain⟨w3,hw3,hb3,gz⟩:=tT bK 0 0 0 T 0 0 F 0 0;clear eu bK;replace hb3:=qae hb3;go_wp2_with fail;rw[←hw3];replace hw3:=qae hw3;have eZ:MW w3 p dv lv M:=jT.out.cK hb3.out (fun k hk=>Nat.lt_succ_of_lt (hp0.out k hk));have UZ:aB (ax p dv lv) w w3:=tX.out.later hb3.out (Nat.le_succ _);refine aO rfl rfl rfl gz underlying67 rfl (by kernel_rfl) ⟨rfl,⟨_,eZ,aY.refl _ _⟩,UZ⟩
theorem Yf (h:MW w p dv lv M)(hb:MB M)(hcl:M.cl=false)(qd us wi li pr:Int)(he:Bool)(no y:Int):Calls prog 33 #[.pointer (some ⟨p,0,none⟩),.agg #[.int .i64 13,.int .i64 qd,.int .i64 us,.int .i64 wi,.int .i64 li,.int .i64 pr,.bool he,.int .i64 no,.int .i64 y]] w (iJ w p dv lv (dB 0,{M with cl:=true})):=by
 obtain⟨wA,aj⟩:=qaa ((w.alloc (.cells #[.int .i64 13,.int .i64 qd,.int .i64 us,.int .i64 wi,.int .i64 li,.int .i64 pr,.bool he,.int .i64 no,.int .i64 y] 33)).alloc (.cells #[.int .i64 0,.int .i64 0,.int .i64 0,.int .i64 0,.int .i64 0,.int .i64 0,.int .i64 0,.int .i64 0,.int .i64 0] 67));have aC:Below w.heap.size w wA:=by rw[aj];exact(qac.alloc (qaf _) _).alloc (by simp) _
 have hsA:wA.heap.size=w.heap.size+2:=by rw[aj];simp
 have aH:aG wA (w.heap.size+1) aQ:=by rw[aj];exact heap_alloc2_new w _ _
 have bg:wA.heap[w.heap.size]? =some (.cells #[.int .i64 13,.int .i64 qd,.int .i64 us,.int .i64 wi,.int .i64 li,.int .i64 pr,.bool he,.int .i64 no,.int .i64 y] 33 (0,0)):=by rw[aj];exact aJ (heap_alloc_new w _)
 have aP:=h.kept aC;have hp0:Hid (∀k,ax p dv lv k→k<w.heap.size):=h.bF;have c3:=aP.read.c3;rw[hcl]at c3;have r0:wA.cell? ⟨w.heap.size,0,none⟩=some (.int .i64 13):=by simp[World.cell?,bg]
 obtain⟨pc,pf,pM,pO⟩:=aP.Z5;rw[hcl]at pc;obtain⟨wC,eO⟩:=qaa (wA.setCell ⟨p,3,none⟩ (.bool true));have mJ:Hid (MW wC p dv lv {M with cl:=true}):=by show MW _ _ _ _ _;rw[eO];exact pM
 have jX:Hid (aB (ax p dv lv) w wC):=by show aB _ _ _;rw[eO];exact(aB.of_below (S:=ax p dv lv) aC).trans pO (aY.refl _ _)
 have jv:aG wC (w.heap.size+1) aQ:=by rw[eO];exact(Below.heap_setCell _ _ _ _ (show w.heap.size+1≠p by have:=hp0.out p (.inl rfl);omega)).trans aH
 have a0:=jv.at 0 (.int .i64 0) rfl;have f0:=jv.free 0;have a1:=jv.at 1 (.int .i64 0) rfl;have f1:=jv.free 1;have a2:=jv.at 2 (.int .i64 0) rfl;have f2:=jv.free 2;have a3:=jv.at 3 (.int .i64 0) rfl;have f3:=jv.free 3;have a4:=jv.at 4 (.int .i64 0) rfl;have f4:=jv.free 4;have a5:=jv.at 5 (.int .i64 0) rfl;have f5:=jv.free 5;have a6:=jv.at 6 (.int .i64 0) rfl;have f6:=jv.free 6;have a7:=jv.at 7 (.int .i64 0) rfl;have f7:=jv.free 7;have a8:=jv.at 8 (.int .i64 0) rfl;have f8:=jv.free 8;obtain⟨w3,hw3,hb3,gz⟩:=tT jv 0 0 0 0 0 0 0 0 0;rw[eO,aj]at hw3 a0 f0 a1 f1 a2 f2 a3 f3 a4 f4 a5 f5 a6 f6 a7 f7 a8 f8;rw[aj]at c3 r0 pc pf;clear h hb aP bg aH aC pM pO jv aj eO;replace hb3:=qae hb3;go_enter func33,ntmps33;go_wp2_with fail;rw[←hw3];replace hw3:=qae hw3;have eZ:MW w3 p dv lv {M with cl:=true}:=mJ.out.cK hb3.out (fun k hk=>Nat.lt_succ_of_lt (hp0.out k hk));have UZ:aB (ax p dv lv) w w3:=jX.out.later hb3.out (Nat.le_succ _);refine aO rfl rfl rfl gz underlying67 rfl (by kernel_rfl) ⟨rfl,⟨_,eZ,aY.refl _ _⟩,UZ⟩
theorem Yg (h:MW w p dv lv M)(hb:MB M)(k qd us wi li pr:Int)(he:Bool)(no y:Int)(hid: -9223372036854775808≤qd∧qd≤9223372036854775807)(hy: -9223372036854775808≤y∧y≤9223372036854775807):Calls prog 33 #[.pointer (some ⟨p,0,none⟩),.agg #[.int .i64 k,.int .i64 qd,.int .i64 us,.int .i64 wi,.int .i64 li,.int .i64 pr,.bool he,.int .i64 no,.int .i64 y]] w (iJ w p dv lv (iy M ⟨k,qd,us,wi,li,pr,he,no,y⟩)):=by
 unfold iy;cases hcl:M.cl with
 |true=>exact Oq h hb hcl k qd us wi li pr he no y
 |false=>
  simp only[Bool.false_eq_true,if_false];by_cases h1:k=1
  ·subst h1;exact do_1 h hb hcl qd us wi li pr he no y
  by_cases h2:k=2
  ·subst h2;exact Z6 h hb hcl qd us wi li pr he no y hid
  by_cases h5:k=5
  ·subst h5;exact Z7 h hb hcl qd us wi li pr he no y hid
  by_cases h3:k=3
  ·subst h3;exact Z8 h hb hcl qd us wi li pr he no y hid
  by_cases h4:k=4
  ·subst h4;exact Z9 h hb hcl qd us wi li pr he no y hid
  by_cases h6:k=6
  ·subst h6;exact aaa h hb hcl qd us wi li pr he no y hid
  by_cases h7:k=7
  ·subst h7;exact aab h hb hcl qd us wi li pr he no y
  by_cases h8:k=8
  ·subst h8;exact aac h hb hcl qd us wi li pr he no y
  by_cases h9:k=9
  ·subst h9;exact aad h hb hcl qd us wi li pr he no y hy
  by_cases h10:k=10
  ·subst h10;exact Yc h hb hcl qd us wi li pr he no y
  by_cases h11:k=11
  ·subst h11;exact Yd h hb hcl qd us wi li pr he no y
  by_cases h12:k=12
  ·subst h12;exact Ye h hb hcl qd us wi li pr he no y
  by_cases Yh:k=13
  ·subst Yh;exact Yf h hb hcl qd us wi li pr he no y
  rw[qai h1,qai (by rintro(h|h);exact h2 h;exact h5 h),qai (by rintro(h|h|h);exact h3 h;exact h4 h;exact h6 h),qai (by rintro(h|h);exact h7 h;exact h8 h),qai h9,qai h10,qai h11,qai h12,qai Yh];exact Rt h hb hcl k qd us wi li pr he no y ⟨h1,h2,h5,h3,h4,h6,h7,h8,h9,h10,h11,h12,Yh⟩
end
section
variable {S : Nat → Prop} {w w1 : World} {c t d p g a q : Nat} {v dv lv : Value} {m : Int} {P : Pg} {M : Md}
theorem CW.U0 (h:CW w c t d p v g a m P)(ho:aB S w w1)(hd:∀k,eQ c t d p v g k→¬S k):CW w1 c t d p v g a m P:=by
 have blk:∀k,eQ c t d p v g k→w1.heap[k]? =w.heap[k]? :=fun k hk=>ho.block k (h.lt hk) (hd k hk);obtain⟨S0,aX,⟨cap,hp1,hp2⟩,hrest⟩:=h.nZ;refine⟨(blk c (.inl rfl)).trans h.cell,⟨(blk t (.inr (.inl rfl))).trans h.fZ.cell,bH h.fZ.own fun k hk=>blk k (.inr (.inr (.inr (.inr (.inl hk)))))⟩,(blk d (.inr (.inr (.inl rfl)))).trans h.nodes,S0,aX,⟨cap,(blk p (.inr (.inr (.inr (.inl rfl))))).trans hp1,bH hp2 fun k hk=>?_⟩,hrest⟩;have e:k=g:=by simpa[Value.ownBlock]using hk.symm
 exact blk k (.inr (.inr (.inr (.inr (.inr e)))))
theorem MW.U0 (h:MW w q dv lv M)(ho:aB S w w1)(hd:∀k,ax q dv lv k→¬S k):MW w1 q dv lv M:=by
 have blk:∀k,ax q dv lv k→w1.heap[k]? =w.heap[k]? :=fun k hk=>ho.block k (h.bF k hk) (hd k hk);exact⟨(blk q (.inl rfl)).trans h.cell,bH h.dr fun k hk=>blk k (.inr (.inl hk)),bH h.js fun k hk=>blk k (.inr (.inr hk))⟩
end
structure Two (B : Nat) (w : World) (c t d p : Nat) (v : Value) (g q : Nat) (dv lv : Value) (m : Int) (M : Md) : Prop where
 cw:CW w c t d p v g (1+2*M.L.length) m (au M)
 mw:MW w q dv lv M
 ap:∀k,eQ c t d p v g k→¬ax q dv lv k
 Rp:∀k,eQ c t d p v g k→B≤k
 Ru:∀k,ax q dv lv k→B≤k
 sz:B≤w.heap.size
section
variable {B : Nat} {w w1 : World} {c t d p g q : Nat} {v dv lv : Value} {m : Int} {M : Md}
theorem Two.kept (h:Two B w c t d p v g q dv lv m M)(hb:Below w.heap.size w w1):Two B w1 c t d p v g q dv lv m M:=⟨h.cw.kept hb,h.mw.kept hb,h.ap,h.Rp,h.Ru,Nat.le_trans h.sz hb.size⟩
theorem Two.work {b g1:Nat}{v1:Value}(h:Two B w c t d p v g q dv lv m M)(hb:B≤b)(Ot:¬ax q dv lv b)(hs:WS w w1 b c t d p v g v1 g1):
 MW w1 q dv lv M∧(∀k,eQ c t d p v1 g1 k→¬ax q dv lv k)∧(∀k,eQ c t d p v1 g1 k→B≤k)∧Below B w w1:=by
 have hd:∀k,ax q dv lv k→¬uQ b c t d p v g k:=fun k hk hf=>hf.elim (fun e=>Ot (e▸hk)) fun hf=>h.ap k hf hk;refine⟨h.mw.U0 hs.off hd,fun k hk hf=>?_,hs.Rp h.Rp hb h.sz,hs.below (zN h.Rp hb) h.sz⟩;exact(hs.grew k (.inr hk)).elim (hd k hf) fun hle=>absurd (h.mw.bF k hf) (Nat.not_lt.2 hle)
theorem Es {a:Nat}{P:Pg}{qa:Value}(hc:CW w c t d p v g a m P)(ap:∀k,eQ c t d p v g k→¬ax q dv lv k)(Ru:∀k,ax q dv lv k→B≤k)(hB:B≤w.heap.size)
 (hof:aB (ax q dv lv) w w1) (hG:aY w (ax q dv lv) (ax q dv qa)):
 CW w1 c t d p v g a m P∧(∀k,eQ c t d p v g k→¬ax q dv qa k)∧(∀k,ax q dv qa k→B≤k)∧Below B w w1:=
 ⟨hc.U0 hof ap,fun k hk hf=>(hG k hf).elim (ap k hk) fun hle=>absurd (hc.lt hk) (Nat.not_lt.2 hle),fun k hf=>(hG k hf).elim (Ru k) (Nat.le_trans hB),hof.below Ru hB⟩
theorem I4 (M:Md)(i x:Int):eY M i x=(cZ M i x).1:=by
 unfold cZ;cases eY M i x with
 |false=>rfl
 |true=>simp only[if_true];split<;>rfl
theorem Ou (h:Two B w c t d p v g q dv lv m M)(hok:Ok M)(h1:1≤M.dr.length)(hll:M.L.length≤120)(hm:m+1000≤1000000)(y1 y2 y3 y4 y5 y6:Int)(y7:Bool)(y8 y9 xi xt:Int)
 (hxi: -9223372036854775808≤xi∧xi≤9223372036854775807) (hxt: -9223372036854775808≤xt∧xt≤9223372036854775807):
 Calls prog 18 #[.pointer (some ⟨c,0,none⟩),.pointer (some ⟨q,0,none⟩),.agg #[.bool true,.int .i64 y1,.int .i64 y2,.int .i64 y3,.int .i64 y4,.int .i64 y5,.int .i64 y6,.bool y7,.int .i64 y8,.int .i64 y9,.int .i64 xi,.int .i64 xt]] w fun e w'=>e=.returned (.bool true)∧∃v' g' qa,Two B w' c t d p v' g' q dv qa (m+1000) (cZ M xi xt).2∧Below B w w':=by
 obtain⟨wA,aj⟩:=qaa (w.alloc (.cells #[.bool true,.int .i64 y1,.int .i64 y2,.int .i64 y3,.int .i64 y4,.int .i64 y5,.int .i64 y6,.bool y7,.int .i64 y8,.int .i64 y9,.int .i64 xi,.int .i64 xt] 37));have aC:Below w.heap.size w wA:=by rw[aj];exact qac.alloc (qaf _) _
 have hsA:wA.heap.size=w.heap.size+1:=by rw[aj];simp
 have mo:Hid (wA.heap[w.heap.size]? =some (.cells #[.bool true,.int .i64 y1,.int .i64 y2,.int .i64 y3,.int .i64 y4,.int .i64 y5,.int .i64 y6,.bool y7,.int .i64 y8,.int .i64 y9,.int .i64 xi,.int .i64 xt] 37 (0,0))):=by show _=_;rw[aj];exact heap_alloc_new w _
 have k0:wA.cell? ⟨w.heap.size,0,none⟩=some (.bool true):=by simp[World.cell?,mo.out]
 have k10:wA.cell? ⟨w.heap.size,10,none⟩=some (.int .i64 xi):=by simp[World.cell?,mo.out]
 have k11:wA.cell? ⟨w.heap.size,10+1,none⟩=some (.int .i64 xt):=by simp[World.cell?,mo.out]
 have Rv:=h.kept aC;have Yi:¬eQ c t d p v g w.heap.size:=fun hf=>absurd (h.cw.lt hf) (Nat.lt_irrefl _);have nfM:¬ax q dv lv w.heap.size:=fun hf=>absurd (h.mw.bF _ hf) (Nat.lt_irrefl _);have hB0:=h.sz;have hX:=xQ xi xt wA;rw[aj]at k0 k10 k11 hX;clear h;go_enter func18,ntmps18;go_wp2_with fail;go_at_call 66;refine hX.mono ?_;clear hX k0 k10 k11;rw[←aj];replace aj:=qae aj;rintro e w1 ⟨b,rfl,hW1,hlb,hb1⟩;have hz1:=(hb1.block _ (ai mo.out)).trans mo.out;have k10:w1.cell? ⟨w.heap.size,10,none⟩=some (.int .i64 xi):=by simp[World.cell?,hz1]
 have k11:w1.cell? ⟨w.heap.size,10+1,none⟩=some (.int .i64 xt):=by simp[World.cell?,hz1]
 have hT1:=Rv.kept hb1;have hF:=AL hT1.cw hok.inv h1 (by omega) (by omega) xi xt hxt;go_wp2_with fail;go_at_call 69;refine hF.mono ?_;clear hF k10 k11;rintro e w2 ⟨rfl,hb2⟩;have hz2:=(hb2.block _ (ai hz1)).trans hz1;have hW2:dm w2 b (BJ xi xt):=(hb2.block b hW1.lt).trans hW1;have E8:=hT1.kept hb2;have lb:B≤b:=by omega
 have Ot:¬ax q dv lv b:=fun hf=>by have:=Rv.mw.bF _ hf;omega
 have Ep:=xR E8.cw xi xt hW2 hok h1 (by omega) hm hxt;go_wp2_with fail;go_at_call 65;refine Ep.mono ?_;clear Ep;rintro e w3 ⟨n3,v3,g3,R3,hn0,_,rfl,Lt,hW3,hl3,_,ho3,hs3⟩;obtain⟨eZ,V9,lo3,hb3⟩:=E8.work lb Ot hs3;have hz3:w3.heap[w.heap.size]? =some (.cells #[.bool true,.int .i64 y1,.int .i64 y2,.int .i64 y3,.int .i64 y4,.int .i64 y5,.int .i64 y6,.bool y7,.int .i64 y8,.int .i64 y9,.int .i64 xi,.int .i64 xt] 37 (0,0)):=(hs3.heap (ai hz2) (fun hf=>hf.elim (fun e=>by have:=hW1.lt;omega) Yi)).trans hz2;have k10:w3.cell? ⟨w.heap.size,10,none⟩=some (.int .i64 xi):=by simp[World.cell?,hz3]
 have k11:w3.cell? ⟨w.heap.size,10+1,none⟩=some (.int .i64 xt):=by simp[World.cell?,hz3]
 have hbw2:Hid (Below B w w2):=(aC.mono hB0).trans ((hb1.mono (by omega)).trans (hb2.mono (by have:=hb1.size;omega)));have U1:Hid (Below B w w3):=hbw2.out.trans hb3;have hcm:=LY eZ hok.inv.mb xi xt hxi;go_wp2_with fail;go_at_call 32;refine hcm.mono ?_;clear hcm k10 k11;rintro e w4 ⟨rfl,hM4,hof⟩;obtain⟨qc,ap4,lo4,hb4⟩:=Es Lt V9 E8.Ru (Nat.le_trans E8.sz hs3.off.size) hof (aY.refl _ _);have ET:dm w4 b R3:=(hof.block b hW3.lt Ot).trans hW3;have WR:Hid (Below B w w4):=U1.out.trans hb4;have hfin:Hid (∃v' g' qa,Two B w4 c t d p v' g' q dv qa (m+1000) (cZ M xi xt).2∧Below B w w4):=⟨v3,g3,lv,⟨qc,hM4,ap4,lo3,lo4,Nat.le_trans hB0 WR.out.size⟩,WR.out⟩;have hcf:=I4 M xi xt;rw[hcf];clear hcf;have hdn:=zC ET true (.inl ⟨hl3,rfl⟩);have hko:=Oe ET;rw[ho3]at hko;have dn:decide (0<n3)=true:=qag hn0;clear Lt eZ V9 lo3 hs3 hM4 hof qc ap4 lo4 ET hW3 ho3 hl3 hz3 hz2 hz1 hW2 hW1;generalize (cZ M xi xt).1=ob at*;have eb:∀W,Sem.run prog (binOp .eql 4 (.bool ob) (.bool ob)) W=.ok (.bool true) W:=fun W=>by cases ob<;>rfl
 go_wp2_with fail;go_at_call 70;refine hdn.mono ?_;clear hdn;rintro e w' ⟨rfl,rfl⟩;go_wp2_with fail;go_at_call 68;refine hko.mono ?_;clear hko;rintro e w' ⟨rfl,rfl⟩;go_wp2_with fail;go_ret;exact⟨rfl,hfin.out⟩
theorem U2 (h:Two B w c t d p v g q dv lv m M)(hok:Ok M)(h1:1≤M.dr.length)(hll:M.L.length≤120)(hm:m+1000≤1000000)(y1 y2 y3 y4 y5 y6:Int)(y7:Bool)(y8 y9 xi xt:Int)
 (hid: -9223372036854775808≤y2∧y2≤9223372036854775807) (hnd: -9223372036854775808≤y8∧y8≤9223372036854775807) (hy: -9223372036854775808≤y9∧y9≤9223372036854775807):
 Calls prog 18 #[.pointer (some ⟨c,0,none⟩),.pointer (some ⟨q,0,none⟩),.agg #[.bool false,.int .i64 y1,.int .i64 y2,.int .i64 y3,.int .i64 y4,.int .i64 y5,.int .i64 y6,.bool y7,.int .i64 y8,.int .i64 y9,.int .i64 xi,.int .i64 xt]] w fun e w'=>e=.returned (.bool true)∧∃v' g' qa,Two B w' c t d p v' g' q dv qa (m+1000) (iy M (toW ⟨y1,y2,y3,y4,y5,y6,y7,y8,y9⟩)).2∧Below B w w':=by
 obtain⟨D,hD⟩:=qaa (iy M (toW ⟨y1,y2,y3,y4,y5,y6,y7,y8,y9⟩));rw[←hD];replace hD:=qae hD;obtain⟨wA,aj⟩:=qaa (w.alloc (.cells #[.bool false,.int .i64 y1,.int .i64 y2,.int .i64 y3,.int .i64 y4,.int .i64 y5,.int .i64 y6,.bool y7,.int .i64 y8,.int .i64 y9,.int .i64 xi,.int .i64 xt] 37));have aC:Below w.heap.size w wA:=by rw[aj];exact qac.alloc (qaf _) _
 have hsA:wA.heap.size=w.heap.size+1:=by rw[aj];simp
 have mo:Hid (wA.heap[w.heap.size]? =some (.cells #[.bool false,.int .i64 y1,.int .i64 y2,.int .i64 y3,.int .i64 y4,.int .i64 y5,.int .i64 y6,.bool y7,.int .i64 y8,.int .i64 y9,.int .i64 xi,.int .i64 xt] 37 (0,0))):=by show _=_;rw[aj];exact heap_alloc_new w _
 have k0:wA.cell? ⟨w.heap.size,0,none⟩=some (.bool false):=by simp[World.cell?,mo.out]
 have k1:wA.cell? ⟨w.heap.size,1,none⟩=some (.int .i64 y1):=by simp[World.cell?,mo.out]
 have k2:wA.cell? ⟨w.heap.size,1+1,none⟩=some (.int .i64 y2):=by simp[World.cell?,mo.out]
 have k3:wA.cell? ⟨w.heap.size,1+2,none⟩=some (.int .i64 y3):=by simp[World.cell?,mo.out]
 have k4:wA.cell? ⟨w.heap.size,1+3,none⟩=some (.int .i64 y4):=by simp[World.cell?,mo.out]
 have k5:wA.cell? ⟨w.heap.size,1+4,none⟩=some (.int .i64 y5):=by simp[World.cell?,mo.out]
 have k6:wA.cell? ⟨w.heap.size,1+5,none⟩=some (.int .i64 y6):=by simp[World.cell?,mo.out]
 have k7:wA.cell? ⟨w.heap.size,1+6,none⟩=some (.bool y7):=by simp[World.cell?,mo.out]
 have k8:wA.cell? ⟨w.heap.size,1+7,none⟩=some (.int .i64 y8):=by simp[World.cell?,mo.out]
 have k9:wA.cell? ⟨w.heap.size,1+8,none⟩=some (.int .i64 y9):=by simp[World.cell?,mo.out]
 have Rv:=h.kept aC;have Yi:¬eQ c t d p v g w.heap.size:=fun hf=>absurd (h.cw.lt hf) (Nat.lt_irrefl _);have hB0:=h.sz;have hq:=BK ⟨y1,y2,y3,y4,y5,y6,y7,y8,y9⟩ wA;rw[show(encR ⟨y1,y2,y3,y4,y5,y6,y7,y8,y9⟩).toArray= #[.int .i64 y1,.int .i64 y2,.int .i64 y3,.int .i64 y4,.int .i64 y5,.int .i64 y6,.bool y7,.int .i64 y8,.int .i64 y9]from rfl]at hq;rw[aj]at k0 k1 k2 k3 k4 k5 k6 k7 k8 k9 hq;clear h;go_enter func18,ntmps18;go_wp2_with fail;go_at_call 64;refine hq.mono ?_;clear hq k0 k1 k2 k3 k4 k5 k6 k7 k8 k9;rw[←aj];replace aj:=qae aj;rintro e w1 ⟨b,rfl,hW1,hlb,hb1⟩;have hz1:=(hb1.block _ (ai mo.out)).trans mo.out;have hT1:=Rv.kept hb1;have lb:B≤b:=by omega
 have Ot:¬ax q dv lv b:=fun hf=>by have:=Rv.mw.bF _ hf;omega
 have Ep:=BN hT1.cw ⟨y1,y2,y3,y4,y5,y6,y7,y8,y9⟩ hW1 hok h1 (by omega) hm hnd;go_wp2_with fail;go_at_call 65;refine Ep.mono ?_;clear Ep;rintro e w3 ⟨n3,v3,g3,R3,hn0,_,rfl,Lt,hW3,hl3,hr3,ho3,hs3⟩;obtain⟨eZ,V9,lo3,hb3⟩:=hT1.work lb Ot hs3;have hz3:Hid (w3.heap[w.heap.size]? =some (.cells #[.bool false,.int .i64 y1,.int .i64 y2,.int .i64 y3,.int .i64 y4,.int .i64 y5,.int .i64 y6,.bool y7,.int .i64 y8,.int .i64 y9,.int .i64 xi,.int .i64 xt] 37 (0,0))):=(hs3.heap (ai hz1) (fun hf=>hf.elim (fun e=>by omega) Yi)).trans hz1;have U1:Hid (Below B w w3):=(aC.mono hB0).trans ((hb1.mono (by omega)).trans hb3);have hl1:=hT1.Ru;have hsB:B≤w3.heap.size:=Nat.le_trans hT1.sz hs3.off.size;have hdn:=fun(W:World) (hW:Below w3.heap.size w3 W)=>zC ((hW.block b hW3.lt).trans hW3) true (.inl ⟨hl3,rfl⟩);have Oh:=fun(W:World) (hW:Below w3.heap.size w3 W)=>Gt ((hW.block b hW3.lt).trans hW3);rw[hr3]at Oh;have dn:decide (0<n3)=true:=qag hn0;rw[←hD.out]at Oh Lt;have hdo:=fun(W:World) (hW:MW W q dv lv M)=>Yg hW hok.inv.mb y1 y2 y3 y4 y5 y6 y7 y8 y9 hid hy;rw[show(⟨y1,y2,y3,y4,y5,y6,y7,y8,y9⟩:Rw)=toW ⟨y1,y2,y3,y4,y5,y6,y7,y8,y9⟩from rfl,←hD.out]at hdo;have heq:∀W,Sem.run prog (binOp .eql 67 (.agg (gm (mO D.1)).toArray) (.agg (gm (mO D.1)).toArray)) W=.ok (.bool true) W:=fun W=>by
  have:=VS (mO D.1) (mO D.1) W
  rwa [qag rfl]at this
 have WT:=qae hW3;have aae:=qae Lt;have aaf:=qae eZ;have aag:Hid (∀(W w':World) (e:Ending),iJ W q dv lv D e w'→e=.returned (.agg (gm (mO D.1)).toArray)∧(∃qa,MW w' q dv qa D.2∧aY W (ax q dv lv) (ax q dv qa))∧aB (ax q dv lv) W w'):=fun W w' e hd=>hd;clear hs3 hT1 Rv hz1 hW1 Lt eZ hr3 hl3 hW3;generalize gm (mO D.1)=cY at*;go_wp2_with fail;refine Reg2.ro w3 12 72 [.p 0,.p 1,.p 3,.p 7,.m 15,.p 31,.p 63,.p 127,.m 255,.p 127,.p 127,.m 1151] [.bool true,.agg cY.toArray,.agg #[.int .i64 y1,.int .i64 y2,.int .i64 y3,.int .i64 y4,.int .i64 y5,.int .i64 y6,.bool y7,.int .i64 y8,.int .i64 y9]] (by kernel_rfl) (by kernel_rfl) rfl rfl ⟨rfl,rfl,rfl,qaf _,fun _ _=>rfl⟩ ?_;dsimp only[Reg2.fF]
 repeat(refine' Reg2.ak _ (by rfl) (fun wz=>?_) ?_;rotate_left;(go_simp;first|rfl|rw[qai (by omega)]);simp only[Act.put,xA,xB,xC,xD,xE,id])
 refine Reg2.pm (fun wz hI hF=>?_) (fun r4=>?_) (by rfl)
 ·go_wp2_with (go_at_call 70;go_must (refine(hdn wz hI).mono ?_);rintro e w' ⟨rfl,rfl⟩)
  first|exact⟨_,rfl,rfl,qad⟩|exact⟨_,rfl,⟨(),rfl,trivial⟩,qad⟩
 simp only[Act.put,xA,xB,xC,xD,xE,id]
 repeat(refine' Reg2.ak _ (by rfl) (fun wz=>?_) ?_;rotate_left;(go_simp;first|rfl|rw[qai (by omega)]);simp only[Act.put,xA,xB,xC,xD,xE,id])
 refine Reg2.pm (fun wz hI hF=>?_) (fun r8=>?_) (by rfl)
 ·go_wp2_with (go_at_call 67;go_must (refine(Oh wz hI).mono ?_);rintro e w5 ⟨rfl,hb5⟩)
  first|exact⟨_,rfl,⟨(),rfl,trivial⟩,hb5⟩|exact⟨_,rfl,rfl,hb5⟩
 simp only[Act.put,xA,xB,xC,xD,xE,id]
 repeat((first
  |(refine' Reg2.ak _ (by rfl) (fun wz=>?_) ?_;rotate_left;(go_simp;first|rfl|rw[qai (by omega)]))
  |(refine Reg2.az (by rfl) (fun wz hI hF=>?_) (fun _=>?_)
    ·unfold Reg2.One;have vC:=(hI.block _ (ai hz3.out)).trans hz3.out;have k1:wz.cell? ⟨w.heap.size,1,none⟩=some (.int .i64 y1):=by simp[World.cell?,vC]
     have k2:wz.cell? ⟨w.heap.size,1+1,none⟩=some (.int .i64 y2):=by simp[World.cell?,vC]
     have k3:wz.cell? ⟨w.heap.size,1+2,none⟩=some (.int .i64 y3):=by simp[World.cell?,vC]
     have k4:wz.cell? ⟨w.heap.size,1+3,none⟩=some (.int .i64 y4):=by simp[World.cell?,vC]
     have k5:wz.cell? ⟨w.heap.size,1+4,none⟩=some (.int .i64 y5):=by simp[World.cell?,vC]
     have k6:wz.cell? ⟨w.heap.size,1+5,none⟩=some (.int .i64 y6):=by simp[World.cell?,vC]
     have k7:wz.cell? ⟨w.heap.size,1+6,none⟩=some (.bool y7):=by simp[World.cell?,vC]
     have k8:wz.cell? ⟨w.heap.size,1+7,none⟩=some (.int .i64 y8):=by simp[World.cell?,vC]
     have k9:wz.cell? ⟨w.heap.size,1+8,none⟩=some (.int .i64 y9):=by simp[World.cell?,vC]
     go_wp2_with fail
     first|exact⟨_,rfl,rfl,qad⟩|exact⟨_,rfl,⟨(),rfl,trivial⟩,qad⟩));simp only[Act.put,xA,xB,xC,xD,xE,id])
 refine Reg2.aD ?_;intro w5 Ag _ gB;clear gB;dsimp only[List.drop];have hM5:=aaf.out.kept Ag;have iI:=aae.out.kept Ag;have KI:dm w5 b R3:=(Ag.block b WT.out.lt).trans WT.out;have h5:=hdo w5 hM5;go_wp2_with fail;go_at_call 33;refine h5.mono ?_;clear h5 hdo;rintro e w6 hd;obtain⟨rfl,⟨qa,hM6,hG⟩,hof⟩:=aag.out w5 w6 e hd;clear hd;obtain⟨Ea,ap6,lo6,hb6⟩:=Es iI V9 hl1 (Nat.le_trans hsB Ag.size) hof hG;have QT:dm w6 b R3:=(hof.block b KI.lt Ot).trans KI;have Lu:Hid (Below B w w6):=U1.out.trans ((Ag.mono hsB).trans hb6);have hfin:Hid (∃v' g' qa,Two B w6 c t d p v' g' q dv qa (m+1000) D.2∧Below B w w6):=⟨v3,g3,qa,⟨Ea,hM6,ap6,lo3,lo6,Nat.le_trans hB0 Lu.out.size⟩,Lu.out⟩;have hko:=Oe QT;rw[ho3]at hko;clear Ea hM6 ap6 lo6 hof hG hM5 iI KI QT;go_wp2_with fail;go_at_call 68;refine hko.mono ?_;clear hko;rintro e w' ⟨rfl,rfl⟩;go_wp2_with fail;go_ret;exact⟨rfl,hfin.out⟩
end
def Et (x:De):Prop:=Xx x.r∧(-9223372036854775808≤x.xi∧x.xi≤9223372036854775807)∧(-9223372036854775808≤x.xt∧x.xt≤9223372036854775807)
section
end
open Go.ChangeShapes Go.WideShapes Go.ChangeAt Go.Deep
section
variable {H : Type} {enc : TypeId × Value → H} {w : World} {base : Nat} {v : Value} {d : DataW H} {ps : List MemPlace}
def Wd :List TypeId:=[4,3,3,3,3,2,3,4,3,2,3,2]
theorem Eu {α:Type}{Ev:α→List Value}{p:α→Prop}:∀{l:List (List Value)},(∀s∈l,∃x:α,s=Ev x∧p x)→∃L:List α,l=L.map Ev∧∀x∈L,p x
 | [],_=>⟨[],rfl,fun _ h=>nomatch h⟩
 |s::l,h=>by
  obtain⟨x,rfl,hx⟩:=h s List.mem_cons_self;obtain⟨L,rfl,hL⟩:=Eu (l:=l) fun s hs=>h s (List.mem_cons_of_mem _ hs);exact⟨x::L,rfl,fun y hy=>by
   rcases List.mem_cons.1 hy with rfl|hy
   ·exact hx
   ·exact hL y hy⟩
theorem Ov {α:Type}{Ev:α→List Value}{n:Nat}{L:List α}(h:aL id n w v (L.map Ev)):aL Ev n w v L:=by
 obtain⟨ao,cap,h1,h2,h3,h4⟩:=h;rw[List.length_map]at h1 h2 h4;refine⟨ao,cap,h1,h2,h3,fun hn=>?_⟩;obtain⟨b,off,e,hlt,hc⟩:=h4 hn;exact⟨b,off,e,hlt,fun i s j u hi hj=>hc i (Ev s) j u (by rw[List.getElem?_map,hi];rfl) hj⟩
theorem Rx (hval:Value.okWide prog w .any base 22 v)(hd:DataW.Trod enc prog w 0 (fun _=>true) true 22 v d ps):∃l:List De,aL yN 12 w v l∧∀x∈l,Et x:=by
 obtain⟨l,hr,hf⟩:=PL (n:=3) (ts:=Wd) underlying22 (by kernel_rfl) (by kernel_rfl) (by kernel_rfl) (by decide) hval hd;obtain⟨L,rfl,hL⟩:=Eu (Ev:=yN) (p:=Et) fun s hs=>by
  obtain⟨hl,hf⟩:=hf s hs
  match s,hl with
  | [a0,a1,a2,a3,a4,a5,a6,a7,a8,a9,a10,a11],_=>
    obtain⟨x0,rfl⟩:=Db hf 0 rfl underlying4 rfl;obtain⟨x1,rfl,b1⟩:=kT hf 1 rfl underlying3 rfl;obtain⟨x2,rfl,b2⟩:=kT hf 2 rfl underlying3 rfl;obtain⟨x3,rfl,b3⟩:=kT hf 3 rfl underlying3 rfl;obtain⟨x4,rfl,b4⟩:=kT hf 4 rfl underlying3 rfl;obtain⟨x5,rfl,b5⟩:=kT hf 5 rfl underlying2 rfl;obtain⟨x6,rfl,b6⟩:=kT hf 6 rfl underlying3 rfl;obtain⟨x7,rfl⟩:=Db hf 7 rfl underlying4 rfl;obtain⟨x8,rfl,b8⟩:=kT hf 8 rfl underlying3 rfl;obtain⟨x9,rfl,b9⟩:=kT hf 9 rfl underlying2 rfl;obtain⟨M6,rfl,b10⟩:=kT hf 10 rfl underlying3 rfl;obtain⟨Zd,rfl,b11⟩:=kT hf 11 rfl underlying2 rfl;exact⟨⟨x0,⟨x1,x2,x3,x4,x5,x6,x7,x8,x9⟩,M6,Zd⟩,rfl,⟨b1,b2,b3,b4,b5,b6,b8,b9⟩,b10,b11⟩
 exact⟨L,Ov hr,hL⟩
end
section
variable {w : World} {u : Value} {l : List De}
theorem LH (h:aL yN 12 w u l)(hfit:∀x∈l,Et x)(n:Int):Calls prog 3 #[.int .i64 n,u] w fun e w'=>e=.returned (.bool true)∧Below w.heap.size w w':=by
 have hf:=V3 h;by_cases hn:n<1∨64<n
 ·have hb:=Rc n w hn;have haw:=Gu w;go_enter func3,ntmps3;go_wp2_with fail;go_at_call 14;refine hf.mono ?_;clear hf;rintro e w' ⟨v',rfl,_,rfl⟩;go_wp2_with fail;go_at_call 15;refine hb.mono ?_;clear hb;rintro e w' ⟨rfl,rfl⟩;by_cases h1:n<1
  ·have d1:decide (n<1)=true:=qag h1;go_wp2_with fail;go_at_call 16;refine haw.mono ?_;clear haw;rintro e w2 ⟨rfl,hb2⟩;go_wp2_with fail;go_ret;exact⟨rfl,hb2⟩
  ·have d1:decide (n<1)=false:=qah h1;have d2:decide (64<n)=true:=qag (by omega);go_wp2_with fail;go_at_call 16;refine haw.mono ?_;clear haw;rintro e w2 ⟨rfl,hb2⟩;go_wp2_with fail;go_ret;exact⟨rfl,hb2⟩
 obtain⟨N,rfl⟩:=Int.eq_ofNat_of_zero_le (show 0≤n by omega);have d1:decide ((N:Int)<1)=false:=qah (by omega);have d2:decide (64<(N:Int))=false:=qah (by omega);have hb:=Lh N w (by omega) (by omega);have hN1:1≤N:=by omega
 have Yj:N≤64:=by omega
 have Yk:∀x∈l.take 60,Et x:=fun x hx=>hfit x (List.mem_of_mem_take hx);have hlen:(l.take 60).length≤60:=by rw[List.length_take];omega
 generalize l.take 60=ds at*;replace hn:=qae hn;clear h hfit;go_enter func3,ntmps3;go_wp2_with fail;go_at_call 14;refine hf.mono ?_;clear hf;rintro e w' ⟨u',rfl,hr,rfl⟩;go_wp2_with fail;go_at_call 15;refine hb.mono ?_;clear hb;rintro e w1 ⟨c,t,d,p,v1,g1,rfl,⟨qC,hlo1⟩,hb1⟩;have Qw:=Vp N Yj w1;go_wp2_with fail;go_at_call 17;refine Qw.mono ?_;clear Qw d1 d2;rintro e w2 ⟨q,dv,rfl,hM2,lq,Yl,hb2⟩;have hs1:=hb1.size;have E8:Hid (Two w.heap.size w2 c t d p v1 g1 q dv (.slice none 0 0) 0 (fA N)):=by
  refine⟨qC.kept hb2,hM2,fun k hk hf=>?_,hlo1,fun k hf=>?_,Nat.le_trans hs1 hb2.size⟩
  ·have hlt:=qC.lt hk;rcases hf with rfl|hf|hf
   ·omega
   ·have:=Yl k hf;omega
   ·cases hf
  ·rcases hf with rfl|hf|hf
   ·omega
   ·have:=Yl k hf;omega
   ·cases hf
 have hbw2:Hid (Below w.heap.size w w2):=hb1.trans (hb2.mono hs1);clear qC hlo1 hM2 lq Yl hb2 hb1 hs1;replace hr:=qae hr;obtain⟨ao,cap,rfl,q1,q2,q3⟩:=hr.out;clear q1 q3;go_wp2_with fail;go_loopw [8] (fun ii wr=>∃(i:Nat) (v:Value) (g:Nat) (lv:Value),i≤ds.length∧ii=.int .i64 i∧Hid (Two w.heap.size wr c t d p v g q dv lv (1000*i) (oq (fA N) (ds.take i)))∧Hid (Below w.heap.size w wr)) (fun ii _=>ds.length-(intOf ii).toNat)
 case atStart=>
  exact⟨0,v1,g1,_,Nat.zero_le _,rfl,E8,hbw2⟩
 case round=>
  clear E8 hbw2;obtain⟨i,v,g,lv,hin,rfl,hT,hbr⟩:=hrel;obtain⟨hok,hpl,hpd⟩:=Gv (Ok.new Yj) (ds.take i);have hle:(ds.take i).length≤60:=by rw[List.length_take];omega
  have hnl:(fA N).L.length=0∧(fA N).dr.length=N:=⟨rfl,by simp[fA]⟩;by_cases hlt:i<ds.length
  ·have b2:(i:Int)<(ds.length:Int):=by omega
   have wi:IntKind.i64.wrap ((i:Int)+1)=(i:Int)+1:=by rw[IntKind.wrap_i64];omega
   have hrr:=hr.out.below hbr.out;obtain⟨I5,cap',e0,r1,r2,r3⟩:=hrr;injection e0 with e1 _ e2;subst e1 e2;obtain⟨B,off,rfl,hB,hcell⟩:=r3 (by omega);have hx:=fun(j:Nat) (z:Value) (hz:(yN ds[i])[j]? =some z)=>hcell i ds[i] j z (List.getElem?_eq_getElem hlt) hz;have hsn:=Oi (fA N) hlt;obtain⟨hok',hpl',aaz⟩:=Gv (Ok.new Yj) (ds.take (i+1));have aaA:(ds.take (i+1)).length≤60:=by rw[List.length_take];omega
   generalize hxd:ds[i]=x at*;have hfx:=Yk x (by rw[←hxd];exact List.getElem_mem hlt);obtain⟨cm,⟨y1,y2,y3,y4,y5,y6,y7,y8,y9⟩,xi,xt⟩:=x;have k0:wr.cell? ⟨B,off+i*12,none⟩=some (.bool cm):=hx 0 _ rfl;have k1:wr.cell? ⟨B,off+i*12+1,none⟩=some (.int .i64 y1):=hx 1 _ rfl;have k2:wr.cell? ⟨B,off+i*12+2,none⟩=some (.int .i64 y2):=hx 2 _ rfl;have k3:wr.cell? ⟨B,off+i*12+3,none⟩=some (.int .i64 y3):=hx 3 _ rfl;have k4:wr.cell? ⟨B,off+i*12+4,none⟩=some (.int .i64 y4):=hx 4 _ rfl;have k5:wr.cell? ⟨B,off+i*12+5,none⟩=some (.int .i64 y5):=hx 5 _ rfl;have k6:wr.cell? ⟨B,off+i*12+6,none⟩=some (.int .i64 y6):=hx 6 _ rfl;have k7:wr.cell? ⟨B,off+i*12+7,none⟩=some (.bool y7):=hx 7 _ rfl;have k8:wr.cell? ⟨B,off+i*12+8,none⟩=some (.int .i64 y8):=hx 8 _ rfl;have k9:wr.cell? ⟨B,off+i*12+9,none⟩=some (.int .i64 y9):=hx 9 _ rfl;have k10:wr.cell? ⟨B,off+i*12+10,none⟩=some (.int .i64 xi):=hx 10 _ rfl;have k11:wr.cell? ⟨B,off+i*12+11,none⟩=some (.int .i64 xt):=hx 11 _ rfl;clear hx r3 hcell;cases cm with
   |true=>
    have hd:=Ou hT.out hok (by omega) (by omega) (by omega) y1 y2 y3 y4 y5 y6 y7 y8 y9 xi xt hfx.2.1 hfx.2.2;rw[show(cZ (oq (fA N) (ds.take i)) xi xt).2=oq (fA N) (ds.take (i+1))from hsn.symm]at hd;replace hsn:=qae hsn;go_wp2_with fail;go_at_call 18;refine hd.mono ?_;clear hd;rintro e w3 ⟨rfl,v3,g3,U3,pW,hb3⟩;have yS:Hid (Below w.heap.size w w3):=hbr.out.trans hb3;have hun:=Eo pW.cw hok'.inv (by omega) (by omega) pW.mw.read;have LJ:=qae pW;clear pW hb3;go_wp2_with fail;go_at_call 19;refine hun.mono ?_;clear hun;rintro e w4 ⟨rfl,hb4⟩;have pV:=LJ.out.kept hb4;have U4:Hid (Below w.heap.size w w4):=yS.out.trans (hb4.mono yS.out.size);have J4:Hid (Two w.heap.size w4 c t d p v3 g3 q dv U3 (1000*((i+1:Nat):Int)) (oq (fA N) (ds.take (i+1)))):=by
     have e:1000*((i+1:Nat):Int)=1000*(i:Int)+1000:=by omega
     show Two _ _ _ _ _ _ _ _ _ _ _ _ _;rw[e];exact pV
    clear pV LJ;go_wp2_with fail;go_roundw
    case rel=>exact⟨i+1,v3,g3,U3,by omega,by go_num,J4,U4⟩
    case measure=>simp[intOf];omega
   |false=>
    have hd:=U2 hT.out hok (by omega) (by omega) (by omega) y1 y2 y3 y4 y5 y6 y7 y8 y9 xi xt hfx.1.id hfx.1.node hfx.1.till;rw[show(iy (oq (fA N) (ds.take i)) (toW ⟨y1,y2,y3,y4,y5,y6,y7,y8,y9⟩)).2=oq (fA N) (ds.take (i+1))from hsn.symm]at hd;replace hsn:=qae hsn;go_wp2_with fail;go_at_call 18;refine hd.mono ?_;clear hd;rintro e w3 ⟨rfl,v3,g3,U3,pW,hb3⟩;have yS:Hid (Below w.heap.size w w3):=hbr.out.trans hb3;have hun:=Eo pW.cw hok'.inv (by omega) (by omega) pW.mw.read;have LJ:=qae pW;clear pW hb3;go_wp2_with fail;go_at_call 19;refine hun.mono ?_;clear hun;rintro e w4 ⟨rfl,hb4⟩;have pV:=LJ.out.kept hb4;have U4:Hid (Below w.heap.size w w4):=yS.out.trans (hb4.mono yS.out.size);have J4:Hid (Two w.heap.size w4 c t d p v3 g3 q dv U3 (1000*((i+1:Nat):Int)) (oq (fA N) (ds.take (i+1)))):=by
     have e:1000*((i+1:Nat):Int)=1000*(i:Int)+1000:=by omega
     show Two _ _ _ _ _ _ _ _ _ _ _ _ _;rw[e];exact pV
    clear pV LJ;go_wp2_with fail;go_roundw
    case rel=>exact⟨i+1,v3,g3,U3,by omega,by go_num,J4,U4⟩
    case measure=>simp[intOf];omega
  ·have b2:¬(i:Int)<(ds.length:Int):=by omega
   have haw:=Gu wr;go_wp2_with fail;go_at_call 16;refine haw.mono ?_;clear haw;rintro e w5 ⟨rfl,hb5⟩;go_wp2_with fail;go_ret;exact⟨rfl,hbr.out.trans (hb5.mono hbr.out.size)⟩
theorem Ow (n:Int)(u:Value)(l:List De)(w:World)(_: -9223372036854775808≤n∧n≤9223372036854775807)(h:aL yN 12 w u l)(hf:∀x∈l,Et x):Calls prog 3 #[.int .i64 n,u] w fun e w'=>e=.returned (.bool true)∧Below w.heap.size w w':=LH h hf n
end
end Go.Proofs.YtaimcpmcndapcaaGreat
