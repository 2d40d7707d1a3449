import PyProof.Rows.All
import Wide.All
import OpenK.AllK
import Wide.FinOn
import Lean
import PyProof.EqAt
import PyProof.EqKinds
import PyProof.TupleCall
import PySem.Challenge.RW_camplay_k15_whole_unrolled
set_option Elab.async false
set_option linter.all false
set_option maxRecDepth 100000
set_option maxHeartbeats 4000000
open List (all_cons any_cons any_eq_true append_nil filterMap_cons filter_append filter_cons flatten_cons getD_eq_getElem?_getD getElem_map getElem_mem length_cons length_drop length_filter_le length_map length_nil length_range length_replicate length_take lookup_cons map_append map_congr_left map_cons map_nil map_take mem_append mem_append_left mem_append_right mem_cons mem_cons_of_mem mem_cons_self mem_filter mem_iff_getElem mem_map mem_of_mem_drop mem_of_mem_take mem_range mem_singleton nodup_append nodup_cons not_mem_nil of_mem_zip pairwise_cons pairwise_iff_getElem pairwise_map pairwise_singleton replicate_succ size_toArray sum_cons take_length)
abbrev Frg := PySem.W.Frag
namespace L2
open PySem PySem.Spec PyProof.Rows
noncomputable abbrev Key:=Sum Int Str
noncomputable def keyIs:Key->Value->Bool
 | .inl k,v=>Value.isInt k v
 | .inr x,v=>Value.isStrOf x v
noncomputable def keyH(w:World):Key->Int
 | .inl k=>hashInt k
 | .inr x=>hashStr w x
theorem jU:∀{k:Key} {v:Value},keyIs k v=true->(∃i t,k=Sum.inl i/\v=Value.int i t)\/(∃x t,k=Sum.inr x/\v=Value.str x t)
 | .inl i,v,h=>by
  obtain⟨t,e⟩:=Value.isInt_shape (k:=i) (v:=v) h;exact .inl ⟨i,t,rfl,e⟩
 | .inr x,v,h=>by
  obtain⟨t,e⟩:=Value.isStrOf_shape (x:=x) (v:=v) h;exact .inr ⟨x,t,rfl,e⟩
theorem yf(i:Int)(t:Tok):keyIs (.inl i) (.int i t)=true:=by simp[keyIs,Value.isInt]
theorem Kx(x:Str)(t:Tok):keyIs (.inr x) (.str x t)=true:=by simp[keyIs,Value.isStrOf]
theorem W9(a b:Int):decide ((Sum.inl a:Key)=Sum.inl b)=(a==b):=by
 by_cases e:a=b
 ·subst e;simp
 ·have h:¬(Sum.inl a:Key)=Sum.inl b:=fun q=>e (Sum.inl.inj q)
  rw[decide_eq_false h];exact(beq_eq_false_iff_ne.mpr e).symm
theorem xc(a b:Str):decide ((Sum.inr a:Key)=Sum.inr b)=decide (a=b):=by
 by_cases e:a=b
 ·subst e;simp
 ·have h:¬(Sum.inr a:Key)=Sum.inr b:=fun q=>e (Sum.inr.inj q)
  rw[decide_eq_false h,decide_eq_false e]
theorem xa(a:Int)(b:Str):decide ((Sum.inl a:Key)=Sum.inr b)=false:=decide_eq_false (fun q=>nomatch q)
theorem xb(a:Str)(b:Int):decide ((Sum.inr a:Key)=Sum.inl b)=false:=decide_eq_false (fun q=>nomatch q)
noncomputable def mixKind(prog:Program)(w:World):PySem.KeyKind prog w Key where
 is:=keyIs
 hash:=keyH w
 inj:=fun v a b ha hb=>by
  rcases jU ha with⟨i,t,rfl,rfl⟩ | ⟨x,t,rfl,rfl⟩
  ·rcases jU hb with⟨j,u,rfl,e⟩ | ⟨y,u,rfl,e⟩
   ·injection e with e1 _;rw[e1]
   ·exact nomatch e
  ·rcases jU hb with⟨j,u,rfl,e⟩ | ⟨y,u,rfl,e⟩
   ·exact nomatch e
   ·injection e with e1 _;rw[e1]
 byValue:=fun k v h=>by
  rcases jU h with⟨i,t,rfl,rfl⟩ | ⟨x,t,rfl,rfl⟩<;>rfl
 pyHash:=fun hv h=>by
  rcases jU hv with⟨i,t,rfl,rfl⟩ | ⟨x,t,rfl,rfl⟩
  ·exact wpAny_pyHash_int h
  ·exact wpAny_pyHash_str h
 eqBool:=fun hu hv h=>by
  rcases jU hu with⟨i,t,rfl,rfl⟩ | ⟨x,t,rfl,rfl⟩
  ·rcases jU hv with⟨j,u,rfl,rfl⟩ | ⟨y,u,rfl,rfl⟩
   ·rw[W9]at h;exact wpAny_eqBool_int h
   ·rw[xa]at h;exact SeqAt.EqAt.int_str i t y u _ _ _ _ h
  ·rcases jU hv with⟨j,u,rfl,rfl⟩ | ⟨y,u,rfl,rfl⟩
   ·rw[xb]at h;exact SeqAt.EqAt.str_int x t j u _ _ _ _ h
   ·rw[xc]at h;exact wpAny_eqBool_str h
 «strs»:=fun k x t v h=>by
  rcases jU h with⟨i,u,rfl,e⟩ | ⟨y,u,rfl,e⟩
  ·exact nomatch e
  ·injection e with e1 _;subst e1;cases v<;>rfl
theorem Yu(prog:Program)(w:World)(i:Int)(t:Tok):(mixKind prog w).is (.inl i) (.int i t)=true:=yf i t
theorem Yv(prog:Program)(w:World)(x:Str)(t:Tok):(mixKind prog w).is (.inr x) (.str x t)=true:=Kx x t
inductive V where
 | non | bl (b:Bool) | int (i:Int) | str (x:Str) | byt (b:Array UInt8) | flt (b:UInt64) | ref (a:Addr) | ty (n:String)
 deriving DecidableEq
noncomputable def RelV:V->Value->Prop
 | .non,u=>u=Value.none
 | .bl b,u=>u=Value.bool b
 | .int i,u=>∃t,u=Value.int i t
 | .str x,u=>∃t,u=Value.str x t
 | .byt b,u=>∃t,u=Value.bytes b t
 | .flt b,u=>∃t,u=Value.float b t
 | .ref a,u=>u=Value.ref a
 | .ty n,u=>u=Value.type n
noncomputable abbrev Vals:List V->List Value->Prop:=Paired RelV
theorem Vals.length{xs:List V}{us:List Value}(r:Vals xs us):xs.length=us.length:=Paired.length r
theorem Vals.get:∀{xs:List V} {us:List Value} {i:Nat} {x:V},Vals xs us->xs[i]?=some x->∃u,us[i]?=some u/\RelV x u
 | _,_,_,_,.nil,e=>by simp at e
 | _,_,0,_,.cons r _,e=>by simp at e;subst e;exact⟨_,rfl,r⟩
 | _,_,i+1,x,.cons _ t,e=>by
  obtain⟨u,h1,h2⟩:=Vals.get (i:=i) (x:=x) t (by simpa using e);exact⟨u,by simpa using h1,h2⟩
theorem Vals.append:∀{xs ys:List V} {us ws:List Value},Vals xs us->Vals ys ws->Vals (xs++ys) (us++ws)
 | _,_,_,_,.nil,s=>s
 | _,_,_,_,.cons r t,s=>.cons r (Vals.append t s)
theorem Vals.take:∀{xs:List V} {us:List Value} (n:Nat),Vals xs us->Vals (xs.take n) (us.take n)
 | _,_,0,_=>.nil
 | _,_,_+1,.nil=>.nil
 | _,_,n+1,.cons r t=>.cons r (Vals.take n t)
theorem Vals.drop:∀{xs:List V} {us:List Value} (n:Nat),Vals xs us->Vals (xs.drop n) (us.drop n)
 | _,_,0,r=>r
 | _,_,_+1,.nil=>.nil
 | _,_,n+1,.cons _ t=>Vals.drop n t
noncomputable def RelO:Option V->Option Value->Prop
 | some v,some u=>RelV v u
 | none,none=>True
 | _,_=>False
noncomputable def KV{κ:Type}:List (κ×V)->List (κ×Value)->Prop:=Paired fun(p:κ×V) (q:κ×Value)=>p.1=q.1/\RelV p.2 q.2
noncomputable def kV:Key->V
 | .inl i=>.int i
 | .inr x=>.str x
inductive HO where
 | lst (xs:List V)
 | tup (xs:List V)
 | dK (kvs:List (Key×V)) | dT (kvs:List (List Key×V))
 | set (S:Int->Bool) (n:Nat)
 | ins (C dx:Addr) (fs:List (Str×V))
 | own (x:Addr)
 | xd (fs:List (Str×V))
 | met (f x:Addr)
 | rng (lo hi:Int)
 | frz (o:Obj) (u:HO)
 | tbl (ps:Array Value)
 | ext (φ:Heap->Prop)
noncomputable abbrev Hp:=Addr->Option HO
noncomputable def upd(H:Hp)(a:Addr)(o:HO):Hp:=fun b=>if b=a then some o else H b
theorem jh{H:Hp}{a:Addr}{o:HO}:upd H a o a=some o:=by unfold upd;rw[if_pos rfl]
theorem jm{H:Hp}{a b:Addr}{o:HO}(h:b≠a):upd H a o b=H b:=by unfold upd;rw[if_neg h]
theorem QC{H:Hp}{a b:Addr}{o u:HO}(h:H a=some o)(h':H b=some u)(d:o≠u):a≠b:=by
 intro e;subst e;rw[h]at h';exact d (Option.some.inj h')
theorem jf{H:Hp}{a b:Addr}{o:HO}(h:H a=some o)(h':H b=none):a≠b:=by
 intro e;subst e;rw[h]at h';cases h'
section
variable(P:Program)(w:World)
noncomputable def ObjOk(H:Hp)(h:Heap)(a:Addr):HO->Prop
 | .lst xs=>xs.length<=sizeLine/\∃(its:List Value) (n:Nat),Vals xs its/\h.get? a=some {cls:=.type "list",data:=.seq its.toArray n}
 | .tup xs=>xs.length<=sizeLine/\∃its:List Value,Vals xs its/\IsTup h a its.toArray
 | .dK kvs=>kvs.length<=sizeLine/\(a==sysModules)=false/\∃vs,KV kvs vs/\h.DictOf (mixKind P w) a vs
 | .dT kvs=>kvs.length<=sizeLine/\(a==sysModules)=false/\∃xs:List (List Key×Addr×Value),
   Paired (fun(p:List Key×V) (q:List Key×Addr×Value)=>p.1=q.1/\H q.2.1=some (.tup (p.1.map kV))/\RelV p.2 q.2.2) kvs xs/\
   ∃o es ep,h.get? a=some o/\o.ExactDict/\o.data = .dict es ep/\es.toList=xs.map (entryOfKey (tupleKind (mixKind P w)))/\(xs.map (·.1)).Nodup
 | .set S n=>h.SetOf (intKind P w) a S n
 | .ins C dx fs=>H dx=some (.own a)/\fs.length<=1000/\dx≠a/\h.get? a=some (PySem.W.instObj C dx)/\
   ∃mA,h.Ns1 dx mA/\(∀f,RelO (fs.lookup f) (mA f))/\PySem.Within mA (fs.map (·.1))
 | .own _=>∃o,h.get? a=some o
 | .xd fs=>∃mA,h.Ns1 a mA/\∀f,RelO (fs.lookup f) (mA f)
 | .rng lo hi=>∃t u v,h.get? a=some {cls:=.type "range",data:=.fields #[.int lo t,.int hi u,.int 1 v]}
 | .frz o u=>h.get? a=some o/\ObjOk H h a u
 | .tbl ps=>h.get? a=some {cls:=.none,data:=.fields ps}
 | .met f x=>h.get? a=some (PySem.W.methodObj (.ref f) (.ref x))
 | .ext φ=>φ h/\(∃o,h.get? a=some o)/\∀h1 h2:Heap,φ h1->(∀o,h1.get? a=some o->h2.get? a=some o)->φ h2
def HOk(H:Hp)(h:Heap):Prop:=∀a o,H a=some o->ObjOk P w H h a o
end
section
variable{P:Program}{w:World}{H H':Hp}{h h':Heap}{a:Addr}{o:HO}
theorem ObjOk.lt(x:ObjOk P w H h a o):a<h.objs.size:=by
 cases o with
 | lst xs=>obtain⟨_,_,_,_,e⟩:=x;exact Heap.lt_size e
 | tup xs=>obtain⟨_,_,_,p⟩:=x;exact p.lt
 | dK kvs=>obtain⟨_,_,_,_,o,_,_,e,_⟩:=x;exact Heap.lt_size e
 | dT kvs=>obtain⟨_,_,_,_,o,_,_,e,_⟩:=x;exact Heap.lt_size e
 | set S n=>obtain⟨o,_,_,_,e,_⟩:=x;exact Heap.lt_size e
 | ins C dx fs=>obtain⟨_,_,_,e,_⟩:=x;exact Heap.lt_size e
 | own y=>obtain⟨_,e⟩:=x;exact Heap.lt_size e
 | xd fs=>obtain⟨_,⟨_,_,_,e,_⟩,_⟩:=x;exact Heap.lt_size e
 | rng lo hi=>obtain⟨_,_,_,e⟩:=x;exact Heap.lt_size e
 | frz ob u=>obtain⟨e,_⟩:=x;exact Heap.lt_size e
 | tbl ps=>exact Heap.lt_size (show h.get? a=some _ from x)
 | met f y=>exact Heap.lt_size (show h.get? a=some _ from x)
 | ext φ=>obtain⟨_,⟨_,e⟩,_⟩:=x;exact Heap.lt_size e
theorem Paired.mapP{α β:Type}{F G:α->β->Prop}:∀{l₁:List α} {l₂:List β},Paired F l₁ l₂->(∀a b,F a b->G a b)->Paired G l₁ l₂
 | _,_,.nil,_=>.nil
 | _,_,.cons r t,f=>.cons (f _ _ r) (Paired.mapP t f)
theorem ObjOk.stay(x:ObjOk P w H h a o)(k:∀b u,(b=a\/H b=some (.own a))->h.get? b=some u->h'.get? b=some u)
  (ho:∀b,H b=some (.own a)->H' b=some (.own a)) (ht:∀b xs,H b=some (.tup xs)->H' b=some (.tup xs)):ObjOk P w H' h' a o:=by
 induction o with
 | lst xs=>obtain⟨z,its,n,r,e⟩:=x;exact⟨z,its,n,r,k _ _ (.inl rfl) e⟩
 | tup xs=>obtain⟨z,its,r,ob,e,c⟩:=x;exact⟨z,its,r,ob,k _ _ (.inl rfl) e,c⟩
 | dK kvs=>obtain⟨z,y,vs,r,ob,es,ep,e,c⟩:=x;exact⟨z,y,vs,r,ob,es,ep,k _ _ (.inl rfl) e,c⟩
 | dT kvs=>
  obtain⟨z,y,xs,r,ob,es,ep,e,c⟩:=x;exact⟨z,y,xs,Paired.mapP r fun p q z=>⟨z.1,ht _ _ z.2.1,z.2.2⟩,ob,es,ep,k _ _ (.inl rfl) e,c⟩
 | set S n=>obtain⟨ob,es,ep,t,e,c⟩:=x;exact⟨ob,es,ep,t,k _ _ (.inl rfl) e,c⟩
 | ins C dx fs=>
  obtain⟨d,z,ne,e,mA,⟨od,es,ep,e2,c⟩,r⟩:=x;exact⟨ho _ d,z,ne,k _ _ (.inl rfl) e,mA,⟨od,es,ep,k _ _ (.inr d) e2,c⟩,r⟩
 | own y=>obtain⟨ob,e⟩:=x;exact⟨ob,k _ _ (.inl rfl) e⟩
 | xd fs=>obtain⟨mA,⟨od,es,ep,e,c⟩,r⟩:=x;exact⟨mA,⟨od,es,ep,k _ _ (.inl rfl) e,c⟩,r⟩
 | rng lo hi=>obtain⟨t,u,v,e⟩:=x;exact⟨t,u,v,k _ _ (.inl rfl) e⟩
 | frz ob u ih=>obtain⟨e,q⟩:=x;exact⟨k _ _ (.inl rfl) e,ih q⟩
 | tbl ps=>
  have e:h.get? a=some {cls:=.none,data:=.fields ps}:=x;show h'.get? a=some {cls:=.none,data:=.fields ps};exact k a _ (.inl rfl) e
 | met f y=>
  have e:h.get? a=some (PySem.W.methodObj (.ref f) (.ref y)):=x;show h'.get? a=some (PySem.W.methodObj (.ref f) (.ref y));exact k a _ (.inl rfl) e
 | ext φ=>obtain⟨p,⟨o,e⟩,st⟩:=x;exact⟨st _ _ p fun o q=>k _ _ (.inl rfl) q,⟨o,k _ _ (.inl rfl) e⟩,st⟩
theorem HOk.lt(x:HOk P w H h)(e:H a=some o):a<h.objs.size:=(x a o e).lt
theorem HOk.fresh(x:HOk P w H h)(e:h.objs.size<=a):H a=none:=by
 cases q:H a with
 | none=>rfl
 | some u=>exact absurd (Nat.lt_of_lt_of_le (x.lt q) e) (Nat.lt_irrefl _)
theorem HOk.kept(x:HOk P w H h)(k:∀b u,h.get? b=some u->h'.get? b=some u):HOk P w H h':=fun a o e=>
 (x a o e).stay (fun b u _ q=>k b u q) (fun _ q=>q) fun _ _ q=>q
theorem HOk.laid(x:HOk P w H h)(k:∀b u,h.get? b=some u->h'.get? b=some u)(hp:h.objs.size<=a)(new:ObjOk P w (upd H a o) h' a o):HOk P w (upd H a o) h':=fun b u e=>by
 have hn:=x.fresh hp;by_cases hb:b=a
 ·subst hb;rw[jh]at e;cases e;exact new
 ·rw[jm hb]at e;exact(x b u e).stay (fun c v _ q=>k c v q) (fun c q=>by rw[jm (jf q hn)];exact q) fun c xs q=>by rw[jm (jf q hn)];exact q
end
def Rd(H:Hp)(a:Addr)(u:HO):Prop:=H a=some u\/∃o,H a=some (.frz o u)
theorem Rd.ok{P:Program}{w:World}{H:Hp}{h:Heap}{a:Addr}{u:HO}(r:Rd H a u)(x:HOk P w H h):ObjOk P w H h a u:=by
 rcases r with r | ⟨o,r⟩
 ·exact x a u r
 ·obtain⟨_,q⟩:=x a _ r;exact q
noncomputable def Mut:Option HO->Prop
 | some (.lst _)=>True
 | some (.dK _)=>True
 | some (.dT _)=>True
 | some (.set _ _)=>True
 | some (.ins _ _ _)=>True
 | some (.ext _)=>True
 | _=>False
section
variable{P:Program}{w:World}{H:Hp}{h h':Heap}{x e:Addr}{o':HO}
theorem HOk.write(ok:HOk P w H h)(mu:Mut (H x))(he:e=x\/H e=some (.own x))(k:∀b u,b≠e->h.get? b=some u->h'.get? b=some u)(heo:∃u,h'.get? e=some u)
  (new:ObjOk P w (upd H x o') h' x o'):HOk P w (upd H x o') h':=fun b u q=>by
 have nown:∀c y,H c=some (.own y)->c≠x:=fun c y r z=>by subst z;rw[r]at mu;exact mu
 have ntup:∀c xs,H c=some (.tup xs)->c≠x:=fun c xs r z=>by subst z;rw[r]at mu;exact mu
 by_cases hb:b=x
 ·subst hb;rw[jh]at q;cases q;exact new
 ·rw[jm hb]at q;by_cases hbe:b=e
  ·have q':H b=some (.own x):=by
    rcases he with z | z
    ·exact absurd (hbe.trans z) hb
    ·rw[hbe];exact z
   rw[q]at q';cases q';obtain⟨v,hv⟩:=heo;exact⟨v,by rw[hbe];exact hv⟩
  ·refine(ok b u q).stay (fun c v hc r=>k c v ?_ r) (fun c r=>by rw[jm (nown c b r)];exact r) fun c xs r=>by rw[jm (ntup c xs r)];exact r
   rcases hc with rfl | hc
   ·exact hbe
   ·rintro rfl;rcases he with z | z
    ·exact nown c b hc z
    ·rw[hc]at z;cases z;exact hb rfl
end
structure Un(fs ex:List Addr)(H H':Hp)(h h':Heap):Prop where
 keep:∀b o,h.get? b=some o->H b=none->b∉fs->b∉ex->h'.get? b=some o
 slot:∀b o,h.get? b=some o->H b=none->b∈fs->b∉ex->∃sl,h'.get? b=some {o with slots:=sl}
 free:∀b o,h.get? b=some o->H b=none->b∉ex->H' b=none
 there:∀b o,h.get? b=some o->b∉ex->∃o',h'.get? b=some o'
 tups:∀b xs,H b=some (.tup xs)->H' b=some (.tup xs)
 frzs:∀b o u,H b=some (.frz o u)->H' b=some (.frz o u)
 tbls:∀b ps,H b=some (.tbl ps)->∃more,H' b=some (.tbl (ps++more))
section
variable{fs fs' ex ex':List Addr}{H H1 H2:Hp}{h h1 h2 h':Heap}{a x e:Addr}{o:HO}
theorem Un.any(u:Un fs ex H H1 h h1){b:Addr}{ob:Obj}(q:h.get? b=some ob)(n:H b=none)(hx:b∉ex):∃sl,h1.get? b=some {ob with slots:=sl}:=by
 by_cases hb:b∈fs
 ·exact u.slot b ob q n hb hx
 ·exact⟨ob.slots,u.keep b ob q n hb hx⟩
theorem Un.kept(k:∀b u,h.get? b=some u->h'.get? b=some u):Un fs ex H H h h':=
 ⟨fun b ob q _ _ _=>k b ob q,fun b ob q _ _ _=>⟨ob.slots,k b ob q⟩,fun _ _ _ n _=>n,fun b ob q _=>⟨ob,k b ob q⟩,fun _ _ q=>q,fun _ _ _ q=>q,fun _ ps q=>⟨#[],by rw[q];simp⟩⟩
theorem Un.refl:Un fs ex H H h h:=Un.kept fun _ _ q=>q
theorem Un.laid(k:∀b u,h.get? b=some u->h'.get? b=some u)(hp:h.objs.size<=a)(hn:H a=none):Un fs ex H (upd H a o) h h' where
 keep:=fun b u q _ _ _=>k b u q
 slot:=fun b u q _ _ _=>⟨u.slots,k b u q⟩
 free:=fun b u q n _=>by rw[jm (Nat.ne_of_lt (Nat.lt_of_lt_of_le (Heap.lt_size q) hp))];exact n
 there:=fun b u q _=>⟨u,k b u q⟩
 tups:=fun b xs q=>by rw[jm (jf q hn)];exact q
 frzs:=fun b u xs q=>by rw[jm (jf q hn)];exact q
 tbls:=fun b ps q=>⟨#[],by rw[jm (jf q hn),q];simp⟩
theorem Un.write(mu:Mut (H x))(he:e=x\/H e=some (.own x))(k:∀b u,b≠e->h.get? b=some u->h'.get? b=some u)(heo:∃u,h'.get? e=some u):Un fs ex H (upd H x o) h h':=by
 have hx:∀b,H b=none->b≠x:=fun b n z=>by subst z;rw[n]at mu;exact mu
 have hb:∀b,H b=none->b≠e:=fun b n z=>by
  subst z;rcases he with r | r
  ·exact hx b n r
  ·rw[n]at r;cases r
 have hm:∀b u,H b=some u->¬Mut (some u)->b≠x:=fun b u q nm z=>by subst z;rw[q]at mu;exact nm mu
 refine⟨fun b u q n _ _=>k b u (hb b n) q,fun b u q n _ _=>⟨u.slots,k b u (hb b n) q⟩,fun b u q n _=>by rw[jm (hx b n)];exact n,fun b u q _=>?_,
  fun b xs q=>by rw[jm (hm b _ q fun z=>z)];exact q,fun b u xs q=>by rw[jm (hm b _ q fun z=>z)];exact q,fun b ps q=>⟨#[],by rw[jm (hm b _ q fun z=>z),q];simp⟩⟩
 by_cases hbe:b=e
 ·subst hbe;exact heo
 ·exact⟨u,k b u hbe q⟩
end
noncomputable def trk(h:Heap)(H:Hp):List Addr:=(List.range h.objs.size).filter fun a=>(H a).isSome
noncomputable def hidT(h:Heap)(H:Hp):Heap:=PySem.W.hideAll h (trk h H)
theorem Ku(h:Heap)(H:Hp):(hidT h H).objs.size=h.objs.size:=PySem.W.hideAll_size _ _
theorem wc{h:Heap}{H:Hp}{b:Addr}{o:Obj}(e:h.get? b=some o)(n:H b=none):(hidT h H).get? b=some o:=
 PySem.W.hideAll_get _ e fun hm=>by
  have q:(H b).isSome=true:=(mem_filter.mp hm).2;rw[n]at q;simp at q
theorem Ww{h:Heap}{H:Hp}{b:Addr}{o:Obj}(e:(hidT h H).get? b=some o):h.get? b=some o/\H b=none:=by
 have e':h.get? b=some o:=PySem.W.of_hideAll (trk h H) e;refine⟨e',?_⟩;cases q:H b with
 | none=>rfl
 | some x=>
  have hm:b∈trk h H:=mem_filter.mpr ⟨mem_range.mpr (Heap.lt_size e'),by simp[q]⟩;have z:(hidT h H).get? b=none:=PySem.W.hideAll_none (trk h H) hm;rw[z]at e;cases e
structure Mod(K:Frg)(mg:Str->Option Value)(base:Heap):Prop where
 kin:K.In base
 glob:base.Ns mainGlobals mg
 blt:∃mb,base.Ns builtinsNs mb/\∀x:Str,x≠"__name__"->mb x=bootBuiltins x
 nolimit:base.NoLimit
structure Cx where
 prog:Program
 w:World
 K:Frg
 mg:Str->Option Value
 base:Heap
 A:Around
 N:List Str
 s₀:Shared
 H₀:Hp
 env:Env
 outer:List Env
 stack:List Env
 ex:List Addr
 fn:Str->Bool
 calm:Bool
 pn:List (Addr×Obj)
 xe:Value->Shared->Prop
noncomputable def frs(l:List Env):List Addr:=l.filterMap (·.frame)
noncomputable abbrev Cx.fs(X:Cx):List Addr:=frs X.outer
def Vis(sc:Scope)(x:Str):Prop:=sc.names.lookup x=some .local\/sc.names.lookup x=some .cell\/sc.names.lookup x=some .free
def Loc(sc:Scope)(x:Str):Prop:=sc.names.lookup x=some .local\/sc.names.lookup x=some .cell
def Look(env:Env)(h:Heap)(m:Str->Option Value)(x:Str)(u:Value):Prop:=
 (env.kindOf x=some .local/\m x=some u)\/((env.kindOf x=some .cell\/env.kindOf x=some .free)/\∃c,env.cells.lookup x=some c/\h.IsCell c (some u))
structure Cx.Ok(X:Cx):Prop where
 mod:Mod X.K X.mg X.base
 kind:X.env.scope.kind = .function
 glob:X.env.globals=mainGlobals
 blt:X.env.builtins=builtinsNs
 above:X.s₀.heap.objs.size<=X.env.locals
 inj:∀x y c,X.env.cells.lookup x=some c->X.env.cells.lookup y=some c->x=y
 has:∀x,(X.env.kindOf x=some .cell\/X.env.kindOf x=some .free)->∃c,X.env.cells.lookup x=some c
 cab:∀x c,X.fn x=true->X.env.cells.lookup x=some c->X.s₀.heap.objs.size<=c
 hd:X.calm=true->X.A.handled=none
 frames:X.A.frames=some X.stack
 stk:X.stack=X.outer\/(X.stack=X.env::X.outer/\X.env.frame=some X.env.locals)
 exf:∀b∈X.ex,b≠X.env.locals/\∀x c,X.env.cells.lookup x=some c->c≠b
 bs:∀b o,X.base.get? b=some o->X.s₀.heap.get? b=some o/\X.H₀ b=none
 bsz:X.base.objs.size<=X.s₀.heap.objs.size
 noex:∀b o,X.base.get? b=some o->b∉X.ex
 exfs:∀b∈X.ex,b∉X.fs
 funs:X.s₀.heap.FunFrames X.base X.outer
 frf:∀b∈X.fs,X.H₀ b=none
structure Inv(X:Cx)(pins:List (Addr×Obj))(σ:List (Option V))(H:Hp)(s:Shared):Prop where
 ok:X.Ok
 os:s.os=X.s₀.os
 bare:AllBare s.gens
 base:Un X.fs X.ex X.H₀ H X.s₀.heap s.heap
 loc:∃m,s.heap.Ns X.env.locals m/\∀(i:Nat) (x:Str) (v:V),X.N[i]?=some x->σ[i]?=some (some v)->Vis X.env.scope x->∃u,RelV v u/\Look X.env s.heap m x u
 cell:∀x c,X.env.cells.lookup x=some c->∃v,s.heap.IsCell c v
 free:H X.env.locals=none
 freeC:∀x c,X.env.cells.lookup x=some c->H c=none
 pin:∀p∈X.pn++pins,s.heap.get? p.1=some p.2/\H p.1=none/\p.1≠X.env.locals/\p.1∉X.fs/\∀v,p.2.data≠.cell v
 hok:HOk X.prog X.w H s.heap
 len:σ.length=X.N.length
section
variable{X:Cx}{pins:List (Addr×Obj)}{σ:List (Option V)}{H H':Hp}{s:Shared}{h':Heap}
theorem Cx.Ok.nofr(ok:X.Ok){b:Addr}{o:Obj}(e:X.base.get? b=some o):b∉X.fs:=fun hb=>by
 have:=(ok.funs.mem hb).1;rw[e]at this;cases this
theorem Inv.bs(I:Inv X pins σ H s):∀b o,X.base.get? b=some o->s.heap.get? b=some o/\H b=none:=fun b o e=>
 ⟨I.base.keep b o (I.ok.bs b o e).1 (I.ok.bs b o e).2 (I.ok.nofr e) (I.ok.noex b o e),I.base.free b o (I.ok.bs b o e).1 (I.ok.bs b o e).2 (I.ok.noex b o e)⟩
theorem Inv.bk(I:Inv X pins σ H s):∀b o,X.base.get? b=some o->s.heap.get? b=some o:=fun b o e=>(I.bs b o e).1
theorem Inv.mod(I:Inv X pins σ H s):Mod X.K X.mg X.base:=I.ok.mod
theorem Inv.kIn(I:Inv X pins σ H s):X.K.In s.heap:=I.ok.mod.kin.keeps I.bk
theorem Inv.lt(I:Inv X pins σ H s):X.env.locals<s.heap.objs.size:=let ⟨_,hn,_⟩:=I.loc;hn.lt
theorem Inv.sz(I:Inv X pins σ H s):X.s₀.heap.objs.size<=s.heap.objs.size:=Nat.le_trans I.ok.above (Nat.le_of_lt I.lt)
theorem Inv.nofs(I:Inv X pins σ H s){a:Addr}(h:s.heap.objs.size<=a):a∉X.fs:=fun hb=>by
 obtain⟨_,o,ho,_⟩:=I.ok.funs.mem hb;exact absurd (Nat.lt_of_lt_of_le (Heap.lt_size ho) (Nat.le_trans I.sz h)) (Nat.lt_irrefl _)
theorem Inv.cne(I:Inv X pins σ H s):∀x c,X.env.cells.lookup x=some c->c≠X.env.locals:=fun x c e z=>by
 obtain⟨v,o,ho,hd⟩:=I.cell x c e;obtain⟨m,⟨o',es,ep,ho',hd',_⟩,_⟩:=I.loc;rw[z,ho']at ho;cases ho;rw[hd']at hd;cases hd
theorem Inv.funs(I:Inv X pins σ H s):s.heap.FunFrames X.base X.outer:=by
 have all:∀(l:List Env),(∀b∈frs l,b∈X.fs)->X.s₀.heap.FunFrames X.base l->s.heap.FunFrames X.base l:=by
  intro l
  induction l with
  | nil=>intro _ _;trivial
  | cons env r ih=>
   intro hs hl;obtain⟨hk,⟨L,o,hf,hn,ho,hd⟩,hr⟩:=hl;have hL:L∈X.fs:=hs L (by unfold frs;rw[filterMap_cons,hf];exact mem_cons_self);obtain⟨sl,e⟩:=I.base.slot L o ho (I.ok.frf L hL) hL fun z=>I.ok.exfs L z hL
   exact⟨hk,⟨L,_,hf,hn,e,hd⟩,ih (fun b hb=>hs b (by unfold frs;rw[filterMap_cons,hf];exact mem_cons_of_mem _ hb)) hr⟩
 exact all X.outer (fun _ hb=>hb) I.ok.funs
theorem Inv.stack(I:Inv X pins σ H s):s.heap.FunFrames X.base X.stack:=by
 rcases I.ok.stk with e | ⟨e,hf⟩
 ·rw[e];exact I.funs
 ·rw[e];obtain⟨m,hn,_⟩:=I.loc;refine .cons (by rw[I.ok.kind];decide) hf hn ?_ I.funs;exact Heap.get?_none_of_le (Nat.le_trans I.ok.bsz I.ok.above)
theorem Inv.stkSub(I:Inv X pins σ H s):∀b∈frs X.stack,b∈X.env.locals::X.fs:=fun b hb=>by
 rcases I.ok.stk with e | ⟨e,hf⟩
 ·rw[e]at hb;exact mem_cons_of_mem _ hb
 ·rw[e]at hb;unfold frs at hb;rw[filterMap_cons,hf]at hb;exact hb
theorem Inv.stkFree(I:Inv X pins σ H s):∀b∈frs X.stack,H b=none:=fun b hb=>by
 rcases mem_cons.mp (I.stkSub b hb)with e | hb
 ·rw[e];exact I.free
 ·obtain⟨_,o,ho,_⟩:=I.ok.funs.mem hb;exact I.base.free b o ho (I.ok.frf b hb) fun z=>I.ok.exfs b z hb
theorem Inv.step{g':Array GenState}{t':Nat}{d':Drawn}{ch:List Addr}(I:Inv X pins σ H s)
  (hch:∀b∈ch,(b∈X.ex\/X.s₀.heap.objs.size<=b)/\b≠X.env.locals/\(∀x c,X.env.cells.lookup x=some c->c≠b)/\∀p∈X.pn++pins,p.1≠b)
  (keep:∀b o,b≠X.env.locals->b∉X.fs->b∉ch->s.heap.get? b=some o->H b=none->h'.get? b=some o)
  (slot:∀b o,b≠X.env.locals->b∈X.fs->b∉ch->s.heap.get? b=some o->H b=none->∃sl,h'.get? b=some {o with slots:=sl}) (free:∀b o,b∉ch->s.heap.get? b=some o->H b=none->H' b=none)
  (there:∀b o,b∉ch->s.heap.get? b=some o->∃o',h'.get? b=some o')
  (tups:∀b xs,H b=some (.tup xs)->H' b=some (.tup xs)) (frzs:∀b o u,H b=some (.frz o u)->H' b=some (.frz o u)) (tbls:∀b ps,H b=some (.tbl ps)->∃more,H' b=some (.tbl (ps++more)))
  (ns:∀m,s.heap.Ns X.env.locals m->h'.Ns X.env.locals m) (hok:HOk X.prog X.w H' h') (hg:AllBare g') :
  Inv X pins σ H' {s with heap:=h',gens:=g',drawn:=d',toks:=t'}:=by
 have neL:∀b o,X.s₀.heap.get? b=some o->b≠X.env.locals:=fun b o e=>Nat.ne_of_lt (Nat.lt_of_lt_of_le (Heap.lt_size e) I.ok.above)
 have neC:∀b o,X.s₀.heap.get? b=some o->b∉X.ex->b∉ch:=fun b o e hx hb=>by
  rcases(hch b hb).1 with z | z
  ·exact hx z
  ·exact absurd (Nat.lt_of_lt_of_le (Heap.lt_size e) z) (Nat.lt_irrefl _)
 have cellK:∀x c,X.env.cells.lookup x=some c->∀v,s.heap.IsCell c v->h'.IsCell c v:=fun x c e v ⟨o,ho,hd⟩=>by
  have nch:c∉ch:=fun z=>(hch c z).2.2.1 x c e rfl
  by_cases hc:c∈X.fs
  ·obtain⟨sl,q⟩:=slot c o (I.cne x c e) hc nch ho (I.freeC x c e);exact⟨_,q,hd⟩
  ·exact⟨o,keep c o (I.cne x c e) hc nch ho (I.freeC x c e),hd⟩
 refine⟨I.ok,I.os,hg,⟨fun b o e n hb hx=>?_,fun b o e n hb hx=>?_,fun b o e n hx=>?_,fun b o e hx=>?_,fun b xs e=>tups b xs (I.base.tups b xs e),fun b o xs e=>frzs b o xs (I.base.frzs b o xs e),fun b ps e=>?_⟩,?_,fun x c e=>?_,?_,fun x c e=>?_,fun p hp=>?_,hok,I.len⟩
 ·exact keep b o (neL b o e) hb (neC b o e hx) (I.base.keep b o e n hb hx) (I.base.free b o e n hx)
 ·obtain⟨sl,e1⟩:=I.base.slot b o e n hb hx;obtain⟨sl',e2⟩:=slot b _ (neL b o e) hb (neC b o e hx) e1 (I.base.free b o e n hx);exact⟨sl',e2⟩
 ·obtain⟨o',e1⟩:=I.base.there b o e hx;exact free b o' (neC b o e hx) e1 (I.base.free b o e n hx)
 ·obtain⟨o',e1⟩:=I.base.there b o e hx;exact there b o' (neC b o e hx) e1
 ·obtain⟨m1,e1⟩:=I.base.tbls b ps e;obtain⟨m2,e2⟩:=tbls b _ e1;exact⟨m1++m2,by rw[e2,Array.append_assoc]⟩
 ·obtain⟨m,hn,hl⟩:=I.loc;refine⟨m,ns m hn,fun i x v e1 e2 e3=>?_⟩;obtain⟨u,r,l⟩:=hl i x v e1 e2 e3;refine⟨u,r,?_⟩;rcases l with l | ⟨k,c,e,z⟩
  ·exact .inl l
  ·exact .inr ⟨k,c,e,cellK x c e _ z⟩
 ·obtain⟨v,z⟩:=I.cell x c e;exact⟨v,cellK x c e v z⟩
 ·obtain⟨m,⟨o,_,_,ho,_⟩,_⟩:=I.loc;exact free _ o (fun z=>(hch _ z).2.1 rfl) ho I.free
 ·obtain⟨v,o,ho,hd⟩:=I.cell x c e;exact free c o (fun z=>(hch c z).2.2.1 x c e rfl) ho (I.freeC x c e)
 ·obtain⟨e,n,ne,nf,d⟩:=I.pin p hp;have nch:p.1∉ch:=fun z=>(hch p.1 z).2.2.2 p hp rfl
  exact⟨keep p.1 p.2 ne nf nch e n,free p.1 p.2 nch e n,ne,nf,d⟩
theorem Inv.un{t':Nat}(I:Inv X pins σ H s)(u:Un X.fs [] H H' s.heap h')(hok:HOk X.prog X.w H' h'):Inv X pins σ H' {s with heap:=h',toks:=t'}:=by
 obtain⟨m,⟨o,es,ep,ho,r⟩,_⟩:=id I.loc;obtain⟨sl,hL⟩:=u.any ho I.free (by simp);exact I.step (g':=s.gens) (d':=s.drawn) (ch:=[]) (fun _ z=>nomatch z) (fun b o _ hb _ e n=>u.keep b o e n hb (by simp)) (fun b o _ hb _ e n=>u.slot b o e n hb (by simp)) (fun b o _ e n=>u.free b o e n (by simp)) (fun b o _ e=>u.there b o e (by simp)) u.tups u.frzs u.tbls (fun m' hm=>by
  obtain⟨o',es',ep',ho',r'⟩:=hm;rw[ho]at ho';cases ho';exact⟨_,es',ep',hL,r'⟩) hok I.bare
theorem Inv.call{g':Array GenState}{t':Nat}{d':Drawn}{ch:List Addr}(I:Inv X pins σ H s)(u:Un (frs X.stack) ch H H' s.heap h')(hok:HOk X.prog X.w H' h')(hg:AllBare g')
  (hch:∀b∈ch,(b∈X.ex\/X.s₀.heap.objs.size<=b)/\b≠X.env.locals/\(∀x c,X.env.cells.lookup x=some c->c≠b)/\∀p∈X.pn++pins,p.1≠b) :
  Inv X pins σ H' {s with heap:=h',gens:=g',drawn:=d',toks:=t'}:=by
 obtain⟨m,⟨o,es,ep,ho,r⟩,_⟩:=id I.loc;obtain⟨sl,hL⟩:=u.any ho I.free fun z=>(hch _ z).2.1 rfl
 exact I.step (ch:=ch) hch (fun b o hL hb hc e n=>u.keep b o e n (fun z=>(mem_cons.mp (I.stkSub b z)).elim hL hb) hc) (fun b o _ _ hc e n=>u.any e n hc) (fun b o hc e n=>u.free b o e n hc) (fun b o hc e=>u.there b o e hc) u.tups u.frzs u.tbls (fun m' hm=>by
  obtain⟨o',es',ep',ho',r'⟩:=hm;rw[ho]at ho';cases ho';exact⟨_,es',ep',hL,r'⟩) hok hg
theorem Inv.turned{t':Nat}{it:Addr}(I:Inv X pins σ H s)(k:∀b o,b≠it->s.heap.get? b=some o->h'.get? b=some o)(hn:H it=none)(hL:it≠X.env.locals)
  (h1:it∈X.ex\/X.s₀.heap.objs.size<=it) (h2:∀x c,X.env.cells.lookup x=some c->c≠it) (h3:∀p∈X.pn++pins,p.1≠it):Inv X pins σ H {s with heap:=h',toks:=t'}:=by
 have nit:∀b u,H b=some u->b≠it:=fun b u e z=>by rw[z,hn]at e;cases e
 refine I.step (g':=s.gens) (d':=s.drawn) (ch:=[it]) (fun b hb=>?_) (fun b o _ _ hc e _=>k b o (fun z=>hc (by simp[z])) e) (fun b o _ _ hc e _=>⟨o.slots,k b o (fun z=>hc (by simp[z])) e⟩) (fun _ _ _ _ n=>n)
  (fun b o hc e=>⟨o,k b o (fun z=>hc (by simp[z])) e⟩) (fun _ _ e=>e) (fun _ _ _ e=>e) (fun b ps e=>⟨#[],by rw[e];simp⟩) (fun m hm=>?_) (fun b u e=>?_) I.bare
 ·have e:b=it:=by simpa using hb
  subst e;exact⟨h1,hL,h2,h3⟩
 ·obtain⟨o,es,ep,ho,r⟩:=hm;exact⟨o,es,ep,k _ o (Ne.symm hL) ho,r⟩
 ·refine(I.hok b u e).stay (fun c v hc q=>k c v ?_ q) (fun _ q=>q) fun _ _ q=>q
  rcases hc with z | z
  ·rw[z];exact nit b u e
  ·exact nit c _ z
theorem Inv.tok(I:Inv X pins σ H s)(t:Nat):Inv X pins σ H {s with toks:=t}:=I.un (h':=s.heap) (t':=t) Un.refl I.hok
theorem Inv.kept{t':Nat}(I:Inv X pins σ H s)(k:∀b u,s.heap.get? b=some u->h'.get? b=some u):Inv X pins σ H {s with heap:=h',toks:=t'}:=I.un (Un.kept k) (I.hok.kept k)
theorem Inv.laid{a:Addr}{o:HO}{t':Nat}(I:Inv X pins σ H s)(k:∀b u,s.heap.get? b=some u->h'.get? b=some u)(hp:s.heap.objs.size<=a)(new:ObjOk X.prog X.w (upd H a o) h' a o) :
  Inv X pins σ (upd H a o) {s with heap:=h',toks:=t'}:=I.un (Un.laid k hp (I.hok.fresh hp)) (I.hok.laid k hp new)
theorem Inv.write{x e:Addr}{o:HO}{t':Nat}(I:Inv X pins σ H s)(mu:Mut (H x))(he:e=x\/H e=some (.own x))(k:∀b u,b≠e->s.heap.get? b=some u->h'.get? b=some u)(heo:∃u,h'.get? e=some u)
  (new:ObjOk X.prog X.w (upd H x o) h' x o):Inv X pins σ (upd H x o) {s with heap:=h',toks:=t'}:=I.un (Un.write mu he k heo) (I.hok.write mu he k heo new)
theorem Inv.weak{σ':List (Option V)}(I:Inv X pins σ H s)(hl:σ'.length=σ.length)(w:∀(i:Nat) v,σ'[i]?=some (some v)->σ[i]?=some (some v)):Inv X pins σ' H s:=
 ⟨I.ok,I.os,I.bare,I.base,let ⟨m,hn,hl'⟩:=I.loc;⟨m,hn,fun i x v e1 e2 e3=>hl' i x v e1 (w i v e2) e3⟩,I.cell,I.free,I.freeC,I.pin,I.hok,hl.trans I.len⟩
theorem Inv.pins_of{pins':List (Addr×Obj)}(I:Inv X pins σ H s)(h:∀p∈pins',s.heap.get? p.1=some p.2/\H p.1=none/\p.1≠X.env.locals/\p.1∉X.fs/\∀v,p.2.data≠.cell v):Inv X pins' σ H s:=
 ⟨I.ok,I.os,I.bare,I.base,I.loc,I.cell,I.free,I.freeC,fun p hp=>(mem_append.mp hp).elim (fun z=>I.pin p (mem_append_left _ z)) (h p),I.hok,I.len⟩
theorem Yx{N:List Str}(hN:N.Nodup){i j:Nat}{x:Str}(a:N[i]?=some x)(b:N[j]?=some x):i=j:=by
 obtain⟨h1,e1⟩:=List.getElem?_eq_some_iff.mp a;obtain⟨h2,e2⟩:=List.getElem?_eq_some_iff.mp b;exact(List.getElem_inj hN).mp (e1.trans e2.symm)
theorem ym{M:Model}{A:Around}{E:Value->Shared->Prop}{i:Nat}{x:Str}{v:V}{u:Value}{Q:Unit->Shared->Prop}(I:Inv X pins σ H s)(hN:X.N.Nodup)(hi:X.N[i]?=some x)(hx:Loc X.env.scope x)(r:RelV v u)
  (h:∀s',Inv X pins (σ.set i (some v)) H s'->(∃a,Heap.SameBut a s.heap s'.heap/\(a=X.env.locals\/X.env.cells.lookup x=some a))->Q () s') (hf:X.fn x=true\/X.env.scope.names.lookup x=some .local:=by first | exact .inl rfl | exact .inr rfl | assumption):wpAny M A (storeName X.env x u) Q E s:=by
 obtain⟨m,hn,hl⟩:=id I.loc;have hcls:(X.env.scope.kind == .class||(X.env.scope.kind == .module&&X.env.locals != X.env.globals))=false:=by rw[I.ok.kind];rfl
 have hiσ:i<σ.length:=by rw[I.len];exact(List.getElem?_eq_some_iff.mp hi).1
 have cne:=I.cne;have tracked:∀{a:Addr} {h':Heap},(∃o,s.heap.get? a=some o/\H a=none)->Heap.SameBut a s.heap h'->HOk X.prog X.w H h':=fun {a h'} ha hs b ob e=>by
  obtain⟨_,_,hfree⟩:=ha;refine(I.hok b ob e).stay (fun c w' hc q=>(hs.2 c ?_).trans q) (fun _ q=>q) fun _ _ q=>q
  rintro rfl;rcases hc with rfl | hc
  ·rw[hfree]at e;cases e
  ·rw[hfree]at hc;cases hc
 rcases hx with hk | hk
 ·refine wpAny_storeName_local hk hn (fun h' hn' hs=>?_) hcls;obtain⟨oL,_,_,hoL,_⟩:=id hn;refine h _ ⟨I.ok,I.os,I.bare,⟨fun b o e n hb hx=>?_,fun b o e n hb hx=>?_,I.base.free,fun b o e hx=>?_,I.base.tups,I.base.frzs,I.base.tbls⟩,⟨_,hn',fun j y v' e1 e2 e3=>?_⟩,fun y c e=>?_,I.free,I.freeC,fun p hp=>?_,tracked ⟨oL,hoL,I.free⟩ hs,by simpa using I.len⟩ ⟨_,hs,.inl rfl⟩
  ·exact(hs.2 b (Nat.ne_of_lt (Nat.lt_of_lt_of_le (Heap.lt_size e) I.ok.above))).trans (I.base.keep b o e n hb hx)
  ·obtain⟨sl,e1⟩:=I.base.slot b o e n hb hx;exact⟨sl,(hs.2 b (Nat.ne_of_lt (Nat.lt_of_lt_of_le (Heap.lt_size e) I.ok.above))).trans e1⟩
  ·obtain⟨o',e1⟩:=I.base.there b o e hx;exact⟨o',(hs.2 b (Nat.ne_of_lt (Nat.lt_of_lt_of_le (Heap.lt_size e) I.ok.above))).trans e1⟩
  ·by_cases hj:j=i
   ·subst hj;rw[hi]at e1;cases e1;rw[List.getElem?_set_self hiσ]at e2;cases e2;exact⟨u,r,.inl ⟨hk,by simp⟩⟩
   ·rw[List.getElem?_set_ne (Ne.symm hj)]at e2;obtain⟨u',r',q⟩:=hl j y v' e1 e2 e3;refine⟨u',r',?_⟩;rcases q with⟨k,e⟩ | ⟨k,c,e,z⟩
    ·refine .inl ⟨k,?_⟩;have:y≠x:=fun e=>hj (Yx hN e1 (e▸hi))
     simp[this,e]
    ·exact .inr ⟨k,c,e,z.sameBut hs (cne y c e)⟩
  ·obtain⟨w',z⟩:=I.cell y c e;exact⟨w',z.sameBut hs (cne y c e)⟩
  ·obtain⟨e,n,ne,nf,d⟩:=I.pin p hp;exact⟨(hs.2 p.1 ne).trans e,n,ne,nf,d⟩
 ·have hfn:X.fn x=true:=by
   rcases hf with z | z
   ·exact z
   ·rw[z]at hk;cases hk
  obtain⟨c,hc⟩:=I.ok.has x (.inl hk);obtain⟨w',z⟩:=I.cell x c hc;refine wpAny_storeName_cell I.ok.kind hk hc z (fun h' hc' hs=>?_);obtain⟨oc,hoc,hocd⟩:=id z;refine h {s with heap:=h'} ⟨I.ok,I.os,I.bare,⟨fun b o e n hb hx=>?_,fun b o e n hb hx=>?_,I.base.free,fun b o e hx=>?_,I.base.tups,I.base.frzs,I.base.tbls⟩,⟨m,hn.sameBut hs (Ne.symm (cne x c hc)),fun j y v' e1 e2 e3=>?_⟩,fun y c' e=>?_,I.free,I.freeC,fun p hp=>?_,tracked ⟨oc,hoc,I.freeC x c hc⟩ hs,by simpa using I.len⟩ ⟨c,hs,.inr hc⟩
  ·exact(hs.2 b (Nat.ne_of_lt (Nat.lt_of_lt_of_le (Heap.lt_size e) (I.ok.cab x c hfn hc)))).trans (I.base.keep b o e n hb hx)
  ·obtain⟨sl,e1⟩:=I.base.slot b o e n hb hx;exact⟨sl,(hs.2 b (Nat.ne_of_lt (Nat.lt_of_lt_of_le (Heap.lt_size e) (I.ok.cab x c hfn hc)))).trans e1⟩
  ·obtain⟨o',e1⟩:=I.base.there b o e hx;exact⟨o',(hs.2 b (Nat.ne_of_lt (Nat.lt_of_lt_of_le (Heap.lt_size e) (I.ok.cab x c hfn hc)))).trans e1⟩
  ·by_cases hj:j=i
   ·subst hj;rw[hi]at e1;cases e1;rw[List.getElem?_set_self hiσ]at e2;cases e2;exact⟨u,r,.inr ⟨.inl hk,c,hc,hc'⟩⟩
   ·rw[List.getElem?_set_ne (Ne.symm hj)]at e2;obtain⟨u',r',q⟩:=hl j y v' e1 e2 e3;refine⟨u',r',?_⟩;rcases q with q | ⟨k,c',e,z'⟩
    ·exact .inl q
    ·refine .inr ⟨k,c',e,z'.sameBut hs ?_⟩;rintro rfl;exact hj (Yx hN e1 (I.ok.inj _ _ _ e hc▸hi))
  ·by_cases hcc:c'=c
   ·subst hcc;exact⟨_,hc'⟩
   ·obtain⟨w2,z2⟩:=I.cell y c' e;exact⟨w2,z2.sameBut hs hcc⟩
  ·obtain⟨e,n,ne,nf,d⟩:=I.pin p hp;refine⟨(hs.2 p.1 ?_).trans e,n,ne,nf,d⟩;intro q;rw[q,hoc]at e;have q':oc=p.2:=Option.some.inj e;exact d w' (by rw[<-q'];exact hocd)
theorem YR{M:Model}{A:Around}{E:Value->Shared->Prop}{i:Nat}{x:Str}{v:V}{u:Value}{Q:Unit->Shared->Prop}(I:Inv X pins σ H s)(hN:X.N.Nodup)(hi:X.N[i]?=some x)(hx:Loc X.env.scope x)(r:RelV v u)
  (h:∀s',Inv X pins (σ.set i (some v)) H s'->Q () s') (hf:X.fn x=true\/X.env.scope.names.lookup x=some .local:=by first | exact .inl rfl | exact .inr rfl | assumption):wpAny M A (storeName X.env x u) Q E s:=
 ym I hN hi hx r (fun s' I' _=>h s' I') hf
theorem Inv.call'{s':Shared}{ch:List Addr}(I:Inv X pins σ H s)(ho:s'.os=s.os)(u:Un (frs X.stack) ch H H' s.heap s'.heap)(hok:HOk X.prog X.w H' s'.heap)(hg:AllBare s'.gens)
  (hch:∀b∈ch,(b∈X.ex\/X.s₀.heap.objs.size<=b)/\b≠X.env.locals/\(∀x c,X.env.cells.lookup x=some c->c≠b)/\∀p∈X.pn++pins,p.1≠b):Inv X pins σ H' s':=by
 obtain⟨h',g',d',t',o'⟩:=s';have e:o'=s.os:=ho;subst e;exact I.call (g':=g') (t':=t') (d':=d') u hok hg hch
end
noncomputable abbrev XK:=Value->Option Addr->Hp->Prop
noncomputable abbrev St:=List (Option V)
noncomputable abbrev VK:=V->Hp->Prop
noncomputable abbrev TE:=St->Hp->VK->Prop
noncomputable abbrev TT:=St->Hp->(Bool->Hp->Prop)->Prop
noncomputable abbrev TA:=St->Hp->(List V->Hp->Prop)->Prop
structure Ends where
 nx:St->Hp->Prop
 rt:VK
 bk:St->Hp->Prop:=fun _ _=>False
 ct:St->Hp->Prop:=fun _ _=>False
noncomputable abbrev TS:=Ends->St->Hp->Prop
def EP(X:Cx)(pins:List (Addr×Obj))(σ:St)(Q:VK)(u:Value)(s':Shared):Prop:=∃v H',Inv X pins σ H' s'/\RelV v u/\Q v H'
def TP(X:Cx)(pins:List (Addr×Obj))(σ:St)(Q:Bool->Hp->Prop)(b:Bool)(s':Shared):Prop:=∃H',Inv X pins σ H' s'/\Q b H'
def AP(X:Cx)(pins:List (Addr×Obj))(σ:St)(Q:List V->Hp->Prop)(us:List Value)(s':Shared):Prop:=∃vs H',Inv X pins σ H' s'/\Vals vs us/\Q vs H'
def SP(X:Cx)(pins:List (Addr×Obj))(D:Ends)(f:Flow)(s':Shared):Prop:=
 match f with
 | .next=>∃σ' H',Inv X pins σ' H' s'/\D.nx σ' H'
 | .brk=>∃σ' H',Inv X pins σ' H' s'/\D.bk σ' H'
 | .cont=>∃σ' H',Inv X pins σ' H' s'/\D.ct σ' H'
 | .ret u=>∃v σ' H',Inv X pins σ' H' s'/\RelV v u/\D.rt v H'
def PE(X:Cx)(e:Expr)(t:TE):Prop:=
 ∀(pins:List (Addr×Obj)) (s:Shared) (σ:St) (H:Hp) (Q:VK),Inv X pins σ H s->t σ H Q->wpAny (model X.prog X.w) X.A (eval e X.env) (EP X pins σ Q) X.xe s
def PT(X:Cx)(e:Expr)(t:TT):Prop:=
 ∀(pins:List (Addr×Obj)) (s:Shared) (σ:St) (H:Hp) (Q:Bool->Hp->Prop),Inv X pins σ H s->t σ H Q->wpAny (model X.prog X.w) X.A (isTrue e X.env (eval e X.env)) (TP X pins σ Q) X.xe s
def PW(X:Cx)(e:Expr)(t:TT):Prop:=
 ∀(whole:Sem Value) (pins:List (Addr×Obj)) (s:Shared) (σ:St) (H:Hp) (Q:Bool->Hp->Prop),Inv X pins σ H s->t σ H Q->wpAny (model X.prog X.w) X.A (isTrue e X.env whole) (TP X pins σ Q) X.xe s
theorem PW.pt{X:Cx}{e:Expr}{t:TT}(h:PW X e t):PT X e t:=h _
def PA(X:Cx)(es:List Expr)(t:TA):Prop:=
 ∀(pos:Pos) (pins:List (Addr×Obj)) (s:Shared) (σ:St) (H:Hp) (Q:List V->Hp->Prop),Inv X pins σ H s->t σ H Q->wpAny (model X.prog X.w) X.A (spliced (backTo pos (starEach es X.env))) (AP X pins σ Q) X.xe s
def PS(X:Cx)(st:Stmt)(t:TS):Prop:=
 ∀(pins:List (Addr×Obj)) (s:Shared) (σ:St) (H:Hp) (D:Ends),Inv X pins σ H s->t D σ H->wpAny (model X.prog X.w) X.A (exec st X.env) (SP X pins D) X.xe s
def PSs(X:Cx)(st:List Stmt)(t:TS):Prop:=
 ∀(pins:List (Addr×Obj)) (s:Shared) (σ:St) (H:Hp) (D:Ends),Inv X pins σ H s->t D σ H->wpAny (model X.prog X.w) X.A (execs st X.env) (SP X pins D) X.xe s
theorem thn{α:Type}{t:Sem α}{Q Q':α->Shared->Prop}{M:Model}{A:Around}{E:Value->Shared->Prop}{s:Shared}(h:wpAny M A t Q E s)(hQ:∀a s,Q a s->Q' a s):wpAny M A t Q' E s:=wpAny_mono h hQ fun _ _ x=>x
section
variable{X:Cx}
def tVar(i:Nat):TE:=fun σ H Q=>∃v,σ[i]?=some (some v)/\Q v H
def tC(v:V):TE:=fun _ H Q=>Q v H
theorem xv{i:Nat}{x:Str}{pos:Pos}(hN:X.N[i]?=some x)(hv:Vis X.env.scope x)(hd:(x==("__debug__" : Str))=false:=by decide)(hcd:(x==("__classdict__" : Str))=false:=by decide):PE X (.Name x pos) (tVar i):=by
 intro pins s σ H Q I h;obtain⟨v,e,h⟩:=h;obtain⟨m,hn,hl⟩:=I.loc;obtain⟨u,r,l⟩:=hl i x v hN e hv;have fin:EP X pins σ Q u s:=⟨v,H,I,r,h⟩
 rcases l with⟨hk,hm⟩ | ⟨hk,c,hc,hcell⟩
 ·exact wpAny_Name (wpAny_loadName_local I.ok.kind hk hn hm fin) hd
 ·rcases hk with hk | hk
  ·exact wpAny_Name (wpAny_loadName_cell I.ok.kind hk hc hcell fin) hd
  ·exact wpAny_Name (wpAny_loadName_free I.ok.kind hk hc hcell fin hcd) hd
theorem jb{i j pos}:PE X (.Constant (.int i) j pos) (tC (.int i)):=fun _ _ _ H _ I h=>wpAny_Constant_int ⟨.int i,H,I.tok _,⟨_,rfl⟩,h⟩
theorem YE{b j pos}:PE X (.Constant (.bool b) j pos) (tC (.bl b)):=fun _ _ _ H _ I h=>Constant_bool ⟨.bl b,H,I,rfl,h⟩
theorem zL{j pos}:PE X (.Constant .none j pos) (tC .non):=fun _ _ _ H _ I h=>Constant_none ⟨.non,H,I,rfl,h⟩
theorem jv{x j pos}:PE X (.Constant (.str x) j pos) (tC (.str x)):=fun _ _ _ H _ I h=>Calls.Constant_str ⟨.str x,H,I.tok _,⟨_,rfl⟩,h⟩
def Gl(X:Cx)(x:Str):Prop:=X.env.kindOf x=some .globalImplicit
theorem kY{E:Value->Shared->Prop}{pins:List (Addr×Obj)}{s:Shared}{σ:St}{H:Hp}{x:Str}{u:Value}{pos:Pos}{Q:Value->Shared->Prop}(I:Inv X pins σ H s)(hg:Gl X x)(hm:X.mg x=some u)(h:Q u s)
  (hd:(x==("__debug__" : Str))=false:=by decide):wpAny (model X.prog X.w) X.A (eval (.Name x pos) X.env) Q E s:=
 Calls.Name_function_global I.ok.kind hg (Calls.loadGlobal_global (by rw[I.ok.glob];exact I.mod.glob.keeps I.bk) hm h) hd
theorem Q3{E:Value->Shared->Prop}{pins:List (Addr×Obj)}{s:Shared}{σ:St}{H:Hp}{x:Str}{u:Value}{pos:Pos}{Q:Value->Shared->Prop}(I:Inv X pins σ H s)(hg:Gl X x)(hm:X.mg x=none)(hv:bootBuiltins x=some u)(h:Q u s)
  (hn:x≠"__name__":=by decide) (hd:(x==("__debug__" : Str))=false:=by decide):wpAny (model X.prog X.w) X.A (eval (.Name x pos) X.env) Q E s:=by
 obtain⟨mb,h1,h2⟩:=I.mod.blt;exact Calls.Name_function_global I.ok.kind hg (Calls.loadGlobal_builtin (by rw[I.ok.glob];exact I.mod.glob.keeps I.bk) hm (by rw[I.ok.blt];exact h1.keeps I.bk) ((h2 x hn).trans hv) h) hd
theorem WC{x:Str}{v:V}{u:Value}{pos:Pos}(hg:Gl X x)(hm:X.mg x=some u)(r:RelV v u)(hd:(x==("__debug__" : Str))=false:=by decide):PE X (.Name x pos) (tC v):=
 fun _ _ _ H _ I h=>kY I hg hm ⟨v,H,I,r,h⟩ hd
variable{a b:Expr}{ta tb:TE}{pos:Pos}
variable{tA tB':TT}{rest:List Expr}
def tAnd(t u:TT):TT:=fun σ H Q=>t σ H fun c H1=>if c=true then u σ H1 Q else Q false H1
def tOr(t u:TT):TT:=fun σ H Q=>t σ H fun c H1=>if c=true then Q true H1 else u σ H1 Q
theorem Zd(ha:PT X a tA):PW X (.BoolOp .And [a] pos) tA:=by
 intro wh pins s σ H Q I h;refine isTrue_and (thn (ha pins s σ H Q I h) fun c s1 e=>?_);cases c with
 | true=>exact isTrue_and_nil e
 | false=>exact e
theorem ZG(ha:PT X a tA):PW X (.BoolOp .Or [a] pos) tA:=by
 intro wh pins s σ H Q I h;refine isTrue_or (thn (ha pins s σ H Q I h) fun c s1 e=>?_);cases c with
 | false=>exact isTrue_or_nil e
 | true=>exact e
theorem yY(ha:PT X a tA)(hb:PW X (.BoolOp .And (b::rest) pos) tB'):PW X (.BoolOp .And (a::b::rest) pos) (tAnd tA tB'):=by
 intro wh pins s σ H Q I h;refine isTrue_and (thn (ha pins s σ H _ I h) fun c s1 ⟨H1,I1,q1⟩=>?_);cases c with
 | true=>exact hb wh pins s1 σ H1 Q I1 q1
 | false=>exact⟨H1,I1,q1⟩
theorem yk(ha:PT X a tA)(hb:PW X (.BoolOp .Or (b::rest) pos) tB'):PW X (.BoolOp .Or (a::b::rest) pos) (tOr tA tB'):=by
 intro wh pins s σ H Q I h;refine isTrue_or (thn (ha pins s σ H _ I h) fun c s1 ⟨H1,I1,q1⟩=>?_);cases c with
 | true=>exact⟨H1,I1,q1⟩
 | false=>exact hb wh pins s1 σ H1 Q I1 q1
def tIf(t:TT)(ta tb:TE):TE:=fun σ H Q=>t σ H fun c H1=>if c=true then ta σ H1 Q else tb σ H1 Q
theorem wA{c:Expr}(hc:PT X c tA)(ha:PE X a ta)(hb:PE X b tb):PE X (.IfExp c a b pos) (tIf tA ta tb):=by
 intro pins s σ H Q I h;refine wpAny_IfExp (thn (hc pins s σ H _ I h) fun d s1 ⟨H1,I1,q1⟩=>?_);cases d with
 | true=>exact ha pins s1 σ H1 Q I1 q1
 | false=>exact hb pins s1 σ H1 Q I1 q1
end
def SqL(K:Frg)(H:Hp)(a:Addr)(xs:List V):Prop:=
 Rd H a (.lst xs)\/
  ∃(o:Obj) (its:Array Value) (n:Nat),K.lookup a=some o/\o.cls = .type "list"/\o.dict=none/\o.data = .seq its n/\its.size<=sizeLine/\Vals xs its.toList
def SqT(K:Frg)(H:Hp)(a:Addr)(xs:List V):Prop:=
 Rd H a (.tup xs)\/
  ∃(o:Obj) (its:Array Value) (n:Nat),K.lookup a=some o/\o.cls = .type "tuple"/\o.data = .seq its n/\its.size<=sizeLine/\Vals xs its.toList
noncomputable def absV:Value->Option V
 | .none=>some .non
 | .bool b=>some (.bl b)
 | .int i _=>some (.int i)
 | .str x _=>some (.str x)
 | .bytes b _=>some (.byt b)
 | .float b _=>some (.flt b)
 | .ref a=>some (.ref a)
 | .type n=>some (.ty n)
 | _=>none
theorem RelV.abs{x:V}{u:Value}(r:RelV x u):absV u=some x:=by
 cases x with
 | non=>cases r;rfl
 | bl _=>cases r;rfl
 | int _=>obtain⟨t,rfl⟩:=r;rfl
 | str _=>obtain⟨t,rfl⟩:=r;rfl
 | byt _=>obtain⟨t,rfl⟩:=r;rfl
 | flt _=>obtain⟨t,rfl⟩:=r;rfl
 | ref _=>cases r;rfl
 | ty _=>cases r;rfl
theorem RelV.inj{x y:V}{u:Value}(r:RelV x u)(q:RelV y u):x=y:=Option.some.inj (r.abs.symm.trans q.abs)
theorem Vals.inj:∀{xs ys:List V} {us:List Value},Vals xs us->Vals ys us->xs=ys
 | _,_,_,.nil,.nil=>rfl
 | _,_,_,.cons r t,.cons r' t'=>by rw[r.inj r',Vals.inj t t']
section
variable{X:Cx}{pins:List (Addr×Obj)}{σ:St}{H:Hp}{s:Shared}{a:Addr}{xs ys:List V}
theorem SqL.of{K:Frg}(h:H a=some (.lst xs)):SqL K H a xs:=.inl (.inl h)
theorem SqT.of{K:Frg}(h:H a=some (.tup xs)):SqT K H a xs:=.inl (.inl h)
theorem Inv.list(I:Inv X pins σ H s)(h:SqL X.K H a xs):∃its:List Value,Vals xs its/\PlainL s.heap a its.toArray/\xs.length<=sizeLine:=by
 rcases h with h | ⟨o,its,n,hk,hc,hd,hs,hz,r⟩
 ·obtain⟨z,its,n,r,e⟩:=h.ok I.hok;exact⟨its,r,⟨_,n,e,rfl,rfl,rfl⟩,z⟩
 ·refine⟨its.toList,r,⟨o,n,I.kIn a o hk,hc,hd,by simpa using hs⟩,?_⟩;have e:=r.length;simp only[Array.length_toList]at e;omega
theorem Inv.tuple(I:Inv X pins σ H s)(h:SqT X.K H a xs):∃its:List Value,Vals xs its/\IsTup s.heap a its.toArray/\xs.length<=sizeLine:=by
 rcases h with h | ⟨o,its,n,hk,hc,hs,hz,r⟩
 ·obtain⟨z,its,r,p⟩:=h.ok I.hok;exact⟨its,r,p,z⟩
 ·refine⟨its.toList,r,⟨o,I.kIn a o hk,hc,n,by simpa using hs⟩,?_⟩;have e:=r.length;simp only[Array.length_toList]at e;omega
theorem Inv.list_inj(I:Inv X pins σ H s)(h:SqL X.K H a xs)(h':SqL X.K H a ys):xs=ys:=by
 obtain⟨its,r,⟨o,n,e,_,_,d⟩,_⟩:=I.list h;obtain⟨its',r',⟨o',n',e',_,_,d'⟩,_⟩:=I.list h';rw[e]at e';cases e';rw[d]at d';injection d' with d1 _;have:its=its':=by simpa using congrArg Array.toList d1
 subst this;exact r.inj r'
theorem Inv.tuple_inj(I:Inv X pins σ H s)(h:SqT X.K H a xs)(h':SqT X.K H a ys):xs=ys:=by
 obtain⟨its,r,⟨o,e,_,n,d⟩,_⟩:=I.tuple h;obtain⟨its',r',⟨o',e',_,n',d'⟩,_⟩:=I.tuple h';rw[e]at e';cases e';rw[d]at d';injection d' with d1 _;have:its=its':=by simpa using congrArg Array.toList d1
 subst this;exact r.inj r'
end
noncomputable abbrev Cx.wish(X:Cx)(E:Value->Shared->Prop):Cx:={X with xe:=E}
noncomputable abbrev Cx.nox(X:Cx):Cx:=X.wish fun _ _=>False
theorem Cx.Ok.wish{X:Cx}(ok:X.Ok)(E:Value->Shared->Prop):(X.wish E).Ok:=
 ⟨ok.mod,ok.kind,ok.glob,ok.blt,ok.above,ok.inj,ok.has,ok.cab,ok.hd,ok.frames,ok.stk,ok.exf,ok.bs,ok.bsz,ok.noex,ok.exfs,ok.funs,ok.frf⟩
theorem Cx.Ok.unwish{X:Cx}{E:Value->Shared->Prop}(ok:(X.wish E).Ok):X.Ok:=
 ⟨ok.mod,ok.kind,ok.glob,ok.blt,ok.above,ok.inj,ok.has,ok.cab,ok.hd,ok.frames,ok.stk,ok.exf,ok.bs,ok.bsz,ok.noex,ok.exfs,ok.funs,ok.frf⟩
section
variable{X:Cx}{pins:List (Addr×Obj)}{σ:St}{H:Hp}{s:Shared}{E:Value->Shared->Prop}
theorem Inv.wish(I:Inv X pins σ H s)(E:Value->Shared->Prop):Inv (X.wish E) pins σ H s:=⟨I.ok.wish E,I.os,I.bare,I.base,I.loc,I.cell,I.free,I.freeC,I.pin,I.hok,I.len⟩
theorem Inv.unwish(I:Inv (X.wish E) pins σ H s):Inv X pins σ H s:=⟨I.ok.unwish,I.os,I.bare,I.base,I.loc,I.cell,I.free,I.freeC,I.pin,I.hok,I.len⟩
theorem SP.unwish{D:Ends}{f:Flow}{s':Shared}(h:SP (X.wish E) pins D f s'):SP X pins D f s':=by
 cases f with
 | next=>obtain⟨σ',H',I,q⟩:=h;exact⟨σ',H',I.unwish,q⟩
 | brk=>obtain⟨σ',H',I,q⟩:=h;exact⟨σ',H',I.unwish,q⟩
 | cont=>obtain⟨σ',H',I,q⟩:=h;exact⟨σ',H',I.unwish,q⟩
 | ret u=>obtain⟨v,σ',H',I,r,q⟩:=h;exact⟨v,σ',H',I.unwish,r,q⟩
theorem PSs.nox{st:List Stmt}{t:TS}(h:PSs X.nox st t):PSs X st t:=fun pins s σ H D I hw=>
 wpAny_mono (h pins s σ H D (I.wish _) hw) (fun _ _ q=>q.unwish) fun _ _ z=>False.elim z
end
section
variable{X:Cx}{st:Stmt}{rest:List Stmt}{t u:TS}{e:Expr}{te:TE}{pos:Pos}
def tNext:TS:=fun D σ H=>D.nx σ H
def tSeq(t u:TS):TS:=fun D σ H=>t {D with nx:=u D} σ H
theorem jw:PSs X [] tNext:=fun _ _ σ H _ I h=>wpAny_execs_nil ⟨σ,H,I,h⟩
theorem jc(h1:PS X st t)(h2:PSs X rest u):PSs X (st::rest) (tSeq t u):=by
 intro pins s σ H D I h;refine wpAny_execs_cons (thn (h1 pins s σ H {D with nx:=u D} I h) fun f s1 q=>?_);cases f with
 | next=>
  obtain⟨σ',H',I',q⟩:=q;exact h2 pins s1 σ' H' D I' q
 | ret v=>exact q
 | brk=>exact q
 | cont=>exact q
theorem je(h1:PS X st t):PSs X [st] t:=by
 intro pins s σ H D I h;refine wpAny_execs_cons (thn (h1 pins s σ H D I h) fun f s1 q=>?_);cases f with
 | next=>exact wpAny_execs_nil q
 | ret v=>exact q
 | brk=>exact q
 | cont=>exact q
def tBreak:TS:=fun D σ H=>D.bk σ H
theorem wD:PS X (.Break pos) tBreak:=fun _ _ σ H _ I h=>wpAny_Break ⟨σ,H,I,h⟩
theorem Inv.quiet{pins:List (Addr×Obj)}{σ:St}{H:Hp}{s:Shared}(I:Inv X pins σ H s):interactive X.env=false:=by simp[interactive,I.ok.kind]
def tDrop(te:TE):TS:=fun D σ H=>te σ H fun _ H1=>D.nx σ H1
theorem jF(he:PE X e te)(hs:swapsWith e none pos.line X.env=pure false:=by rfl):PS X (.Expr e pos) (tDrop te):=by
 intro pins s σ H D I h;exact wpAny_Expr_any (thn (he pins s σ H _ I h) fun v s1 ⟨x,H1,I1,r1,q1⟩=>⟨σ,H1,I1,q1⟩) I.quiet hs
def tRet(te:TE):TS:=fun D σ H=>te σ H D.rt
theorem jx(he:PE X e te):PS X (.Return (some e) pos) (tRet te):=by
 intro pins s σ H D I h;exact wpAny_Return_some (thn (he pins s σ H _ I h) fun v s1 ⟨x,H1,I1,r1,q1⟩=>⟨x,σ,H1,I1,r1,q1⟩)
def tRetN:TS:=fun D _ H=>D.rt .non H
theorem WF:PS X (.Return none pos) tRetN:=fun _ _ σ H _ I h=>wpAny_Return_none ⟨.non,σ,H,I,rfl,h⟩
def tIfS(c:TT)(t u:TS):TS:=fun D σ H=>c σ H fun b H1=>if b=true then t D σ H1 else u D σ H1
theorem jP{c:Expr}{a b:List Stmt}{tc:TT}(hc:PT X c tc)(ha:PSs X a t)(hb:PSs X b u):PS X (.If c a b pos) (tIfS tc t u):=by
 intro pins s σ H D I h;refine wpAny_If (thn (hc pins s σ H _ I h) fun d s1 ⟨H1,I1,q1⟩=>?_);cases d with
 | true=>exact ha pins s1 σ H1 D I1 q1
 | false=>exact hb pins s1 σ H1 D I1 q1
def tNever:TS:=fun _ _ _=>False
theorem ZF:PS X st tNever:=fun _ _ _ _ _ _ h=>h.elim
end
noncomputable abbrev TG:=V->St->Hp->(St->Hp->Prop)->Prop
noncomputable abbrev TGs:=List V->St->Hp->(St->Hp->Prop)->Prop
def PG(X:Cx)(target:Expr)(t:TG):Prop:=
 ∀(pins:List (Addr×Obj)) (s:Shared) (σ:St) (H:Hp) (v:V) (u:Value) (Q:St->Hp->Prop),Inv X pins σ H s->RelV v u->t v σ H Q->
  wpAny (model X.prog X.w) X.A (assign target X.env u) (fun _ s'=>∃σ' H',Inv X pins σ' H' s'/\Q σ' H') X.xe s
def PGs(X:Cx)(ts:List Expr)(t:TGs):Prop:=
 ∀(pins:List (Addr×Obj)) (s:Shared) (σ:St) (H:Hp) (vs:List V) (us:List Value) (Q:St->Hp->Prop),Inv X pins σ H s->Vals vs us->t vs σ H Q->
  wpAny (model X.prog X.w) X.A (assignInOrder ((assignEach ts X.env).map (·.2)) us) (fun _ s'=>∃σ' H',Inv X pins σ' H' s'/\Q σ' H') X.xe s
section
variable{X:Cx}{pos:Pos}
def gName(i:Nat):TG:=fun v σ H Q=>Q (σ.set i (some v)) H
theorem jo{i:Nat}{x:Str}(hN:X.N.Nodup)(hi:X.N[i]?=some x)(hx:Loc X.env.scope x)(hf:X.fn x=true\/X.env.scope.names.lookup x=some .local:=by first | exact .inl rfl | exact .inr rfl | assumption):PG X (.Name x pos) (gName i):=by
 intro pins s σ H v u Q I r h;exact wpAny_assign_Name (YR I hN hi hx r (fun s' I'=>⟨_,H,I',h⟩) hf)
def gNil:TGs:=fun vs σ H Q=>vs=[]/\Q σ H
def gCons(t:TG)(u:TGs):TGs:=fun vs σ H Q=>∃v r,vs=v::r/\t v σ H fun σ' H'=>u r σ' H' Q
theorem qo:PGs X [] gNil:=by
 intro pins s σ H vs us Q I r h;obtain⟨e,h⟩:=h;subst e;cases r;exact assignInOrder_nil ⟨σ,H,I,h⟩
theorem jA{e:Expr}{es:List Expr}{t:TG}{u:TGs}(h1:PG X e t)(h2:PGs X es u)
  (hs:(assignEach (e::es) X.env).map (·.2)=assign e X.env::(assignEach es X.env).map (·.2):=by rfl):PGs X (e::es) (gCons t u):=by
 intro pins s σ H vs us Q I r h;obtain⟨v,vr,e1,h⟩:=h;subst e1;cases r with
 | cons r rr=>
  rw[hs];refine assignInOrder_cons (thn (h1 pins s σ H _ _ _ I r h) fun _ s1 ⟨σ1,H1,I1,q1⟩=>?_);exact h2 pins s1 σ1 H1 _ _ Q I1 rr q1
def gTup(K:Frg)(n:Nat)(t:TGs):TG:=fun v σ H Q=>∃a xs,v = .ref a/\SqT K H a xs/\xs.length=n/\t xs σ H Q
theorem q5{es:List Expr}{k:Nat}{t:TGs}{n:Nat}(hc:X.calm=true)(h:PGs X es t)
  (hn:(assignEach es X.env).length=n:=by rfl) (hst:(assignEach es X.env).findIdx? (·.1)=none:=by rfl):PG X (.Tuple es k pos) (gTup X.K n t):=by
 intro pins s σ H v u Q I r hw;obtain⟨a,xs,e1,hq,hl,hw⟩:=hw;subst e1;cases r;obtain⟨its,rv,ht,hz⟩:=I.tuple hq;refine assign_Tuple_tuple (I.ok.hd hc) ht (by simp[hn,<-hl,rv.length]) hst fun h' hx=>?_
 have I1:Inv X pins σ H {s with heap:=h'}:=I.kept (t':=s.toks) fun b o e=>hx b o (Nat.ne_of_lt (Heap.lt_size e)) e
 exact h pins _ σ H xs _ Q I1 (by simpa using rv) hw
def tAsg(te:TE)(g:TG):TS:=fun D σ H=>te σ H fun x H1=>g x σ H1 D.nx
theorem wC{tg e:Expr}{te:TE}{g:TG}(he:PE X e te)(hg:PG X tg g)(hs:swapsWithSole [tg] e pos.line X.env=pure false:=by rfl)(hw:swappedStores [tg] e X.env=pure none:=by rfl)
  (h1:(assignEach [tg] X.env).map (·.2)=[assign tg X.env]:=by rfl):PS X (.Assign [tg] e pos) (tAsg te g):=by
 intro pins s σ H D I h;refine wpAny_Assign_stores (thn (he pins s σ H _ I h) fun v s1 ⟨x,H1,I1,r1,q1⟩=>?_) hs hw;rw[h1];exact thn (hg pins s1 σ H1 x v _ I1 r1 q1) fun _ s2 q=>q
theorem jk{i:Nat}{x:Str}{e:Expr}{te:TE}{pos':Pos}(hN:X.N.Nodup)(hi:X.N[i]?=some x)(hx:Loc X.env.scope x)(he:PE X e te)(hs:swapsWith e (some (.Name x pos')) pos.line X.env=pure false:=by rfl)(hf:X.fn x=true\/X.env.scope.names.lookup x=some .local:=by first | exact .inl rfl | exact .inr rfl | assumption) :
  PS X (.Assign [.Name x pos'] e pos) (tAsg te (gName i)):=by
 intro pins s σ H D I h;refine wpAny_Assign_Name (thn (he pins s σ H _ I h) fun v s1 ⟨y,H1,I1,r1,q1⟩=>?_) hs;exact YR I1 hN hi hx r1 (fun s2 I2=>⟨_,H1,I2,q1⟩) hf
end
section
variable{X:Cx}{pos:Pos}
end
structure It where
 go:Nat->Hp->Prop
 yld:Nat->Hp->V->Hp->Prop
 stop:Nat->Hp->Prop
def FpOk(X:Cx)(pins:List (Addr×Obj))(H:Hp)(b:Addr):Prop:=
 H b=none/\b≠X.env.locals/\b∉X.fs/\(b∈X.ex\/X.s₀.heap.objs.size<=b)/\(∀x c,X.env.cells.lookup x=some c->c≠b)/\∀p∈X.pn++pins,p.1≠b
theorem Inv.fpOk{X:Cx}{pins:List (Addr×Obj)}{σ:St}{H H':Hp}{s:Shared}{b:Addr}(I:Inv X pins σ H s)(hb:s.heap.objs.size<=b)(hn:H' b=none):FpOk X pins H' b:=by
 refine⟨hn,Nat.ne_of_gt (Nat.lt_of_lt_of_le I.lt hb),I.nofs hb,.inr (Nat.le_trans I.sz hb),fun x c e z=>?_,fun p hp z=>?_⟩
 ·obtain⟨v,q⟩:=I.cell x c e;exact absurd (Nat.lt_of_lt_of_le q.lt (by rw[z];exact hb)) (Nat.lt_irrefl _)
 ·exact absurd (Nat.lt_of_lt_of_le (Heap.lt_size (I.pin p hp).1) (by rw[z];exact hb)) (Nat.lt_irrefl _)
structure Turn(P:Program)(w:World)(K:Frg)(tg:Expr)(J:It)(fp:List Addr)(it:Addr)(tn:Nat->Heap->Prop):Prop where
 mem:it∈fp
 obj:∀i h,tn i h->∀b∈fp,∃o,h.get? b=some o/\∀v,o.data≠.cell v
 keep:∀i h h',tn i h->(∀b∈fp,∀o,h.get? b=some o->h'.get? b=some o)->tn i h'
 item:∀(X:Cx),X.prog=P->X.w=w->X.K=K->X.calm=true->∀(i:Nat) (pins:List (Addr×Obj)) (s:Shared) (σ:St) (H:Hp) (E:Value->Shared->Prop),Inv X pins σ H s->(∀b∈fp,FpOk X pins H b)->tn i s.heap->J.go i H->
  wpAny (model P w) X.A (pyNext (.ref it)) (fun r s1=>∃u,r=some u/\
   wpAny (model P w) X.A (letOwnedTupleGo tg (.ref it) u) (fun _ s2=>∃x H',Inv X pins σ H' s2/\RelV x u/\J.yld i H x H'/\tn (i+1) s2.heap/\∀b∈fp,H' b=none) E s1) E s
 done:∀(X:Cx),X.prog=P->X.w=w->X.K=K->X.calm=true->∀(i:Nat) (pins:List (Addr×Obj)) (s:Shared) (σ:St) (H:Hp) (E:Value->Shared->Prop),Inv X pins σ H s->(∀b∈fp,FpOk X pins H b)->tn i s.heap->J.stop i H->
  wpAny (model P w) X.A (pyNext (.ref it)) (fun r s1=>r=none/\Inv X pins σ H s1) E s
 self:∀(A:Around) (i:Nat) (s:Shared) (Q:Value->Shared->Prop) (E:Value->Shared->Prop),tn i s.heap->Q (.ref it) s->wpAny (model P w) A (pyIter (.ref it)) Q E s
noncomputable abbrev TI:=St->Hp->(It->Hp->Prop)->Prop
def PIE(X:Cx)(pins:List (Addr×Obj))(σ:St)(tg:Expr)(R:It->Hp->Prop)(itv:Value)(s2:Shared):Prop:=
 ∃(it:Addr) (fp:List Addr) (tn:Nat->Heap->Prop) (J:It) (H':Hp),itv = .ref it/\Inv X pins σ H' s2/\Turn X.prog X.w X.K tg J fp it tn/\tn 0 s2.heap/\(∀b∈fp,FpOk X pins H' b)/\R J H'
def PI(X:Cx)(tg iter:Expr)(wi:TI):Prop:=
 ∀(pins:List (Addr×Obj)) (s:Shared) (σ:St) (H:Hp) (R:It->Hp->Prop),Inv X pins σ H s->wi σ H R->
  wpAny (model X.prog X.w) X.A (eval iter X.env) (fun v s1=>wpAny (model X.prog X.w) X.A (pyIter v) (PIE X pins σ tg R) X.xe s1) X.xe s
theorem K8{M:Model}{A:Around}{E:Value->Shared->Prop}{s:Shared}{tg:Expr}{it:Addr}{u:Value}{o:Obj}{n:String}{vs:Array Value}{Q:Unit->Shared->Prop}(ho:s.heap.get? it=some o)(hc:o.cls = .type n)(hd:o.data = .fields vs)
    (hn:["enumerate","zip","dict_itemiterator","dict_reverseitemiterator","odict_iterator","itertools.zip_longest","itertools.pairwise"].contains n=false) (hQ:Q () s):wpAny M A (letOwnedTupleGo tg (.ref it) u) Q E s:=by
  unfold letOwnedTupleGo;cases tg<;>first
    | exact wpAny_pure hQ
    | (cases u<;>first
        | exact wpAny_pure hQ
        | (refine wpAny_bind (wpAny_load ho ?_)
           rw[hc,hd];show wpAny M A (if(["enumerate","zip","dict_itemiterator","dict_reverseitemiterator","odict_iterator","itertools.zip_longest","itertools.pairwise"].contains n&&vs[0]?==some (rawInt _))=true then _ else _) Q E s;rw[if_neg (by intro h;rw[hn,Bool.false_and]at h;cases h)];exact wpAny_pure hQ))
def Itl(K:Frg)(a:Addr):It:=
 ⟨fun i H=>∃xs x,SqL K H a xs/\xs[i]?=some x,fun i H x H'=>H'=H/\∀xs,SqL K H a xs->xs[i]?=some x,fun i H=>∃xs,SqL K H a xs/\xs.length<=i⟩
def Itt(K:Frg)(a:Addr):It:=
 ⟨fun i H=>∃xs x,SqT K H a xs/\xs[i]?=some x,fun i H x H'=>H'=H/\∀xs,SqT K H a xs->xs[i]?=some x,fun i H=>∃xs,SqT K H a xs/\xs.length<=i⟩
def Itr(lo:Int)(n:Nat):It:=⟨fun i _=>i<n,fun i H x H'=>H'=H/\x = .int (lo+i),fun i _=>n<=i⟩
theorem yn{P:Program}{w:World}{K:Frg}{tg:Expr}(a it:Addr):Turn P w K tg (Itl K a) [it] it (fun i h=>h.IsListIter it a i) where
 mem:=by simp
 obj:=fun i h st b hb=>by
  have e:b=it:=by simpa using hb
  subst e;obtain⟨o,e,c,d⟩:=st;exact⟨o,e,fun v z=>by rw[d]at z;cases z⟩
 keep:=fun i h h' st k=>st.at fun o e=>k it (by simp) o e
 item:=by
  intro X hP hw hK hc i pins s σ H E I hf st hg;subst hP hw hK;obtain⟨xs,x,hq,hx⟩:=hg;obtain⟨its,rv,p,hz⟩:=I.list hq;obtain⟨u,hu,ru⟩:=rv.get hx;obtain⟨f0,f1,f2,f3,f4,f5⟩:=hf it (by simp);refine wpAny_pyNext_list_item st p.isList (x:=u) (by simpa using hu) fun h' st' sb=>?_
  have I1:Inv X pins σ H {s with heap:=h'}:=I.turned (t':=s.toks) (fun b o hb e=>(sb.2 b hb).trans e) f0 f1 f3 f4 f5;obtain⟨o,e,c,d⟩:=id st';exact⟨u,rfl,K8 (s:={s with heap:=h'}) e c d (by decide) ⟨x,H,I1,ru,⟨rfl,fun ys hy=>by rw[I.list_inj hy hq];exact hx⟩,st',fun b hb=>(hf b hb).1⟩⟩
 done:=by
  intro X hP hw hK hc i pins s σ H E I hf st hg;subst hP hw hK;obtain⟨xs,hq,hx⟩:=hg;obtain⟨its,rv,p,hz⟩:=I.list hq;obtain⟨f0,f1,f2,f3,f4,f5⟩:=hf it (by simp);have hl:=rv.length;exact wpAny_pyNext_list_end (I.ok.hd hc) st p.isList (by simp;omega) fun h' eb=>⟨rfl,I.turned (t':=s.toks) (fun b o hb e=>eb b o hb e) f0 f1 f3 f4 f5⟩
 self:=fun _ _ _ _ _ st h=>wpAny_pyIter_listiter st h
theorem ZJ{P:Program}{w:World}{K:Frg}{tg:Expr}(a it:Addr):Turn P w K tg (Itt K a) [it] it (fun i h=>h.IsTupleIter it a i) where
 mem:=by simp
 obj:=fun i h st b hb=>by
  have e:b=it:=by simpa using hb
  subst e;obtain⟨o,e,c,d⟩:=st;exact⟨o,e,fun v z=>by rw[d]at z;cases z⟩
 keep:=fun i h h' st k=>st.at fun o e=>k it (by simp) o e
 item:=by
  intro X hP hw hK hc i pins s σ H E I hf st hg;subst hP hw hK;obtain⟨xs,x,hq,hx⟩:=hg;obtain⟨its,rv,p,hz⟩:=I.tuple hq;obtain⟨u,hu,ru⟩:=rv.get hx;obtain⟨f0,f1,f2,f3,f4,f5⟩:=hf it (by simp);refine wpAny_pyNext_tuple_item st (show s.heap.IsTuple a its.toArray from p) (x:=u) (by simpa using hu) fun h' st' sb=>?_
  have I1:Inv X pins σ H {s with heap:=h'}:=I.turned (t':=s.toks) (fun b o hb e=>(sb.2 b hb).trans e) f0 f1 f3 f4 f5;obtain⟨o,e,c,d⟩:=id st';exact⟨u,rfl,K8 (s:={s with heap:=h'}) e c d (by decide) ⟨x,H,I1,ru,⟨rfl,fun ys hy=>by rw[I.tuple_inj hy hq];exact hx⟩,st',fun b hb=>(hf b hb).1⟩⟩
 done:=by
  intro X hP hw hK hc i pins s σ H E I hf st hg;subst hP hw hK;obtain⟨xs,hq,hx⟩:=hg;obtain⟨its,rv,p,hz⟩:=I.tuple hq;obtain⟨f0,f1,f2,f3,f4,f5⟩:=hf it (by simp);have hl:=rv.length;exact wpAny_pyNext_tuple_end (I.ok.hd hc) st (show s.heap.IsTuple a its.toArray from p) (by simp;omega) fun h' eb=>⟨rfl,I.turned (t':=s.toks) (fun b o hb e=>eb b o hb e) f0 f1 f3 f4 f5⟩
 self:=fun _ _ _ _ _ st h=>wpAny_pyIter_tupleiter st h
theorem kC{P:Program}{w:World}{K:Frg}{tg:Expr}(it:Addr)(lo:Int)(n:Nat):Turn P w K tg (Itr lo n) [it] it (fun i h=>IsRangeIter h it (lo+(i:Nat)*1) ((n:Int)-(i:Nat)) 1) where
 mem:=by simp
 obj:=fun i h st b hb=>by
  have e:b=it:=by simpa using hb
  subst e;exact⟨_,st,fun v z=>by
   have z':Data.fields _=Data.cell v:=z;cases z'⟩
 keep:=fun i h h' st k=>k it (by simp) _ st
 item:=by
  intro X hP hw hK hc i pins s σ H E I hf st hg;subst hP hw hK;obtain⟨f0,f1,f2,f3,f4,f5⟩:=hf it (by simp);have W:=Walks.range (prog:=X.prog) (w:=X.w) (I.ok.hd hc) it lo 1 n;refine W.item i s _ _ hg st fun v h' tk hv st' kk=>?_
  obtain⟨t,rfl⟩:=hv;have I1:Inv X pins σ H {s with heap:=h',toks:=tk}:=I.turned (fun b o hb e=>kk b o (by simpa using hb) e) f0 f1 f3 f4 f5;refine⟨_,rfl,K8 (s:={s with heap:=h',toks:=tk}) (n:="range_iterator") st' rfl rfl (by decide) ⟨.int (lo+i),H,I1,⟨t,?_⟩,⟨rfl,rfl⟩,st',fun b hb=>(hf b hb).1⟩⟩;rw[Int.mul_one]
 done:=by
  intro X hP hw hK hc i pins s σ H E I hf st hg;subst hP hw hK;obtain⟨f0,f1,f2,f3,f4,f5⟩:=hf it (by simp);exact wpAny_pyNext_range_end (I.ok.hd hc) st (by have:n<=i:=hg;omega) fun h' eb=>⟨rfl,I.turned (t':=s.toks) (fun b o hb e=>eb b o hb e) f0 f1 f3 f4 f5⟩
 self:=fun _ _ _ _ _ st h=>wpAny_pyIter_rangeiter st h
section
variable{X:Cx}{tg:Expr}
def iList(K:Frg)(tl:TE):TI:=fun σ H R=>tl σ H fun x H1=>∃a,x = .ref a/\(∃xs,SqL K H1 a xs)/\R (Itl K a) H1
def iTup(K:Frg)(tl:TE):TI:=fun σ H R=>tl σ H fun x H1=>∃a,x = .ref a/\(∃xs,SqT K H1 a xs)/\R (Itt K a) H1
theorem jS{l:Expr}{tl:TE}(hl:PE X l tl):PI X tg l (iList X.K tl):=by
 intro pins s σ H R I h;refine thn (hl pins s σ H _ I h) fun v s1 ⟨x,H1,I1,r1,q1⟩=>?_
 obtain⟨a,e,⟨xs,hq⟩,q⟩:=q1;subst e;cases r1;obtain⟨its,rv,p,hz⟩:=I1.list hq;refine wpAny_pyIter_list p.isList ?_;refine⟨s1.heap.objs.size,[s1.heap.objs.size],_,_,H1,rfl,I1.kept (t':=s1.toks) fun b o e=>Heap.get?_push_of_some _ e,yn a _,⟨_,Heap.get?_push_size _ rfl,rfl,rfl⟩,fun b hb=>?_,q⟩;have e:b=s1.heap.objs.size:=by simpa using hb
 subst e;exact I1.fpOk (Nat.le_refl _) (I1.hok.fresh (Nat.le_refl _))
theorem xw{l:Expr}{tl:TE}(hl:PE X l tl):PI X tg l (iTup X.K tl):=by
 intro pins s σ H R I h;refine thn (hl pins s σ H _ I h) fun v s1 ⟨x,H1,I1,r1,q1⟩=>?_
 obtain⟨a,e,⟨xs,hq⟩,q⟩:=q1;subst e;cases r1;obtain⟨its,rv,p,hz⟩:=I1.tuple hq;refine wpAny_pyIter_tuple (show s1.heap.IsTuple a its.toArray from p) ?_;refine⟨s1.heap.objs.size,[s1.heap.objs.size],_,_,H1,rfl,I1.kept (t':=s1.toks) fun b o e=>Heap.get?_push_of_some _ e,ZJ a _,⟨_,Heap.get?_push_size _ rfl,rfl,rfl⟩,fun b hb=>?_,q⟩;have e:b=s1.heap.objs.size:=by simpa using hb
 subst e;exact I1.fpOk (Nat.le_refl _) (I1.hok.fresh (Nat.le_refl _))
theorem wG{pins:List (Addr×Obj)}{σ:St}{H:Hp}{s:Shared}{R:It->Hp->Prop}{E:Value->Shared->Prop}{lo hi:Int}{t u v:Tok}{tk:Nat}(I:Inv X pins σ H s)(h1 : -(2^62)<=lo)(h2:lo<2^62)(h3 : -(2^62)<=hi)(h4:hi<2^62)
  (q:R (Itr lo (hi-lo).toNat) H):wpAny (model X.prog X.w) X.A (pyIter (.ref s.heap.objs.size)) (PIE X pins σ tg R) E {s with heap:=s.heap.push {cls:=.type "range",data:=.fields #[.int lo t,.int hi u,.int 1 v]},toks:=tk}:=by
 refine wpAny_pyIter_range (IsRange.new ..) (small_one h1 h2 h3 h4) ?_;have I1:Inv X pins σ H {s with heap:=s.heap.push {cls:=.type "range",data:=.fields #[.int lo t,.int hi u,.int 1 v]},toks:=tk}:=I.kept fun b o e=>Heap.get?_push_of_some _ e
 refine⟨(s.heap.push {cls:=.type "range",data:=.fields #[.int lo t,.int hi u,.int 1 v]}).objs.size,[(s.heap.push {cls:=.type "range",data:=.fields #[.int lo t,.int hi u,.int 1 v]}).objs.size],_,_,H,rfl,
  I1.kept (t':=tk) fun b o e=>Heap.get?_push_of_some _ e,kC _ lo (hi-lo).toNat,?_,fun b hb=>?_,q⟩
 ·have e1:lo+((0:Nat):Int)*1=lo:=by simp
  have e2:(((hi-lo).toNat:Nat):Int)-((0:Nat):Int)=Builtin.Range.rangeSize lo hi 1:=by rw[rangeSize_one];split<;>omega
  show IsRangeIter _ _ (lo+((0:Nat):Int)*1) ((((hi-lo).toNat:Nat):Int)-((0:Nat):Int)) 1;rw[e1,e2];exact Heap.get?_push_size _ rfl
 ·have e:b=(s.heap.push {cls:=.type "range",data:=.fields #[.int lo t,.int hi u,.int 1 v]}).objs.size:=by simpa using hb
  subst e;exact I1.fpOk (Nat.le_refl _) (I1.hok.fresh (Nat.le_refl _))
def iRng1(ta:TA):TI:=fun σ H R=>ta σ H fun vs H1=>∃j:Int,vs=[.int j]/\-(2^62)<=j/\j<2^62/\R (Itr 0 j.toNat) H1
theorem JR{a:Expr}{ta:TA}{p pos:Pos}(hg:Gl X "range")(hm:X.mg "range"= none)(ha:PA X [a] ta)(hs:starEach [a] X.env=[(false,eval a X.env)]:=by rfl):PI X tg (.Call (.Name "range" p) [a] [] pos) (iRng1 ta):=by
 intro pins s σ H R I h;refine Call_ (Q3 I hg hm boot_range (PyProof.Rows.callWith_type1 (thn (ha pos pins s σ H _ I h) fun us s1 ⟨vs,H1,I1,r1,q1⟩=>?_) hs rfl));obtain⟨j,e,q1,q2,q⟩:=q1;subst e;cases r1 with
 | cons r rr=>
  cases rr;obtain⟨t,rfl⟩:=r;exact call_range_1 (wG I1 (by omega) (by omega) q1 q2 (by simpa using q))
def tFor(wi:TI)(g:TG)(tb:TS):TS:=fun D σ H=>wi σ H fun J H1=>∃W:Nat->Nat->St->Hp->Prop,(∃m,W 0 m σ H1)/\∀i m σ H,W i m σ H->
 (J.stop i H/\D.nx σ H)\/(J.go i H/\∃N:St->Hp->Prop,(∀σ' H',N σ' H'->∃m',m'<m/\W (i+1) m' σ' H')/\∀x H',J.yld i H x H'->g x σ H' fun σ2 H2=>tb {D with nx:=N,ct:=N,bk:=D.nx} σ2 H2)
noncomputable def pinsAt(fp:List Addr)(h:Heap):List (Addr×Obj):=fp.filterMap fun b=>(h.get? b).map fun o=>(b,o)
theorem Qr{fp:List Addr}{h:Heap}{b:Addr}{o:Obj}(hb:b∈fp)(e:h.get? b=some o):(b,o)∈pinsAt fp h:=List.mem_filterMap.mpr ⟨b,hb,by rw[e];rfl⟩
theorem KE{fp:List Addr}{h:Heap}{p:Addr×Obj}(hp:p∈pinsAt fp h):p.1∈fp/\h.get? p.1=some p.2:=by
 obtain⟨b,hb,e⟩:=List.mem_filterMap.mp hp;cases q:h.get? b with
 | none=>rw[q]at e;cases e
 | some o=>
  rw[q]at e;have e':(b,o)=p:=Option.some.inj e;subst e';exact⟨hb,q⟩
theorem Inv.pinned{pins:List (Addr×Obj)}{σ:St}{H:Hp}{s:Shared}{fp:List Addr}(I:Inv X pins σ H s)(hf:∀b∈fp,FpOk X pins H b)(ho:∀b∈fp,∃o,s.heap.get? b=some o/\∀v,o.data≠.cell v):Inv X (pins++pinsAt fp s.heap) σ H s:=
 I.pins_of fun p hp=>(mem_append.mp hp).elim (fun z=>I.pin p (mem_append_right _ z)) fun z=>by
  obtain⟨hb,e⟩:=KE z;obtain⟨f0,f1,f2,_⟩:=hf p.1 hb;obtain⟨o,e',d⟩:=ho p.1 hb;rw[e]at e';cases e';exact⟨e,f0,f1,f2,d⟩
theorem Inv.unpinned{pins pl:List (Addr×Obj)}{σ:St}{H:Hp}{s:Shared}(I:Inv X (pins++pl) σ H s):Inv X pins σ H s:=I.pins_of fun p hp=>I.pin p (mem_append_right _ (mem_append_left _ hp))
theorem Jd{iter:Expr}{body:List Stmt}{wi:TI}{g:TG}{tb:TS}{pos:Pos}(hp:PassesOwn (model X.prog X.w) X.A X.env X.xe)(hc:X.calm=true)(hi:PI X tg iter wi)(hg:PG X tg g)(hb:PSs X body tb)
  (hs:∀x,foldedSetIterable iter X.env x=pure x:=by intro _;rfl):PS X (.For tg iter body [] pos) (tFor wi g tb):=by
 intro pins s σ H D I h;refine wpAny_For (thn (hi pins s σ H _ I h) fun v s1 h1=>thn h1 fun itv s2 h2=>?_) hs;obtain⟨it,fp,tn,J,H2,e,I2,T,st2,f2,W,⟨m0,w0⟩,turn⟩:=h2;subst e;have stat:∀{H':Hp},(∀b∈fp,H' b=none)->∀b∈fp,FpOk X pins H' b:=fun hn b hb=>⟨hn b hb,(f2 b hb).2⟩
 refine codeAny_forLoop_any (fun n s'=>∃i σ' H',Inv X pins σ' H' s'/\tn i s'.heap/\(∀b∈fp,H' b=none)/\W i n σ' H') ?_ m0 ⟨0,σ,H2,I2,st2,fun b hb=>(f2 b hb).1,w0⟩;rintro n s3 ⟨i,σ3,H3,I3,st3,fr3,w3⟩;rcases turn i n σ3 H3 w3 with⟨stop,qn⟩ | ⟨go,N,hN,step⟩
 ·refine wpAny_passesOwn hp (thn (T.done X rfl rfl rfl hc i pins s3 σ3 H3 X.xe I3 (stat fr3) st3 stop) fun r s4 ⟨hr,I4⟩=>?_);subst hr;exact wpAny_execs_nil ⟨σ3,H3,I4,qn⟩
 ·refine wpAny_passesOwn hp (thn (T.item X rfl rfl rfl hc i pins s3 σ3 H3 X.xe I3 (stat fr3) st3 go) fun r s4 ⟨u,hr,h4⟩=>?_);subst hr;refine wpAny_passesOwn hp (thn h4 fun _ s5 ⟨x,H5,I5,r5,y5,st5,fr5⟩=>?_);have I5':=I5.pinned (stat fr5) (T.obj _ _ st5);refine wpAny_passesOwn hp (thn (hg _ s5 σ3 H5 x u _ I5' r5 (step x H5 y5)) fun _ s6 ⟨σ6,H6,I6,q6⟩=>?_);refine wpAny_passesOwn hp (thn (hb _ s6 σ6 H6 _ I6 q6) fun f s7 q7=>?_);have again:∀{σ7:St} {H7:Hp},Inv X (pins++pinsAt fp s5.heap) σ7 H7 s7->N σ7 H7->∃m,m<n/\∃i σ' H',Inv X pins σ' H' s7/\tn i s7.heap/\(∀b∈fp,H' b=none)/\W i m σ' H':=fun {σ7 H7} I7 n7=>by
   obtain⟨m',hm,w7⟩:=hN σ7 H7 n7;refine⟨m',hm,i+1,σ7,H7,I7.unpinned,T.keep _ _ _ st5 fun b hb o e=>(I7.pin (b,o) (mem_append_right _ (mem_append_right _ (Qr hb e)))).1,fun b hb=>?_,w7⟩;obtain⟨o,e,d⟩:=T.obj _ _ st5 b hb;exact(I7.pin (b,o) (mem_append_right _ (mem_append_right _ (Qr hb e)))).2.1
  cases f with
  | next=>obtain⟨σ7,H7,I7,n7⟩:=q7;exact again I7 n7
  | cont=>obtain⟨σ7,H7,I7,n7⟩:=q7;exact again I7 n7
  | brk=>obtain⟨σ7,H7,I7,q7⟩:=q7;exact⟨σ7,H7,I7.unpinned,q7⟩
  | ret v=>obtain⟨x7,σ7,H7,I7,r7,q7⟩:=q7;exact⟨x7,σ7,H7,I7.unpinned,r7,q7⟩
end
theorem qI{K:Frg}{a:Addr}{xs:List V}{g:TG}{tb:TS}{D:Ends}{σ:St}{H:Hp}(Pv:Nat->St->Hp->Prop)(h0:Pv 0 σ H)(hl:∀i σ H,i<=xs.length->Pv i σ H->SqL K H a xs)
  (hs:∀i x σ H,xs[i]?=some x->Pv i σ H->g x σ H fun σ2 H2=>tb {D with nx:=Pv (i+1),ct:=Pv (i+1),bk:=D.nx} σ2 H2) (hd:∀σ H,Pv xs.length σ H->D.nx σ H) :
  ∃W:Nat->Nat->St->Hp->Prop,(∃m,W 0 m σ H)/\∀i m σ H,W i m σ H->
   ((Itl K a).stop i H/\D.nx σ H)\/((Itl K a).go i H/\∃N:St->Hp->Prop,(∀σ' H',N σ' H'->∃m',m'<m/\W (i+1) m' σ' H')/\∀x H',(Itl K a).yld i H x H'->g x σ H' fun σ2 H2=>tb {D with nx:=N,ct:=N,bk:=D.nx} σ2 H2):=by
 refine⟨fun i m σ H=>m=xs.length-i/\i<=xs.length/\Pv i σ H,⟨xs.length,by simp,Nat.zero_le _,h0⟩,?_⟩;rintro i m σ H ⟨rfl,hi,p⟩;have q:=hl i σ H hi p;by_cases hlt:i<xs.length
 ·refine .inr ⟨⟨xs,xs[i],q,by simp[hlt]⟩,Pv (i+1),fun σ' H' p'=>⟨xs.length-(i+1),by omega,rfl,hlt,p'⟩,fun x H' y=>?_⟩;obtain⟨e,y⟩:=y;subst e;exact hs i x σ _ (y xs q) p
 ·have e:i=xs.length:=by omega
  subst e;exact .inl ⟨⟨xs,q,Nat.le_refl _⟩,hd σ H p⟩
theorem kQ{K:Frg}{a:Addr}{xs:List V}{g:TG}{tb:TS}{D:Ends}{σ:St}{H:Hp}(Pv:Nat->St->Hp->Prop)(h0:Pv 0 σ H)(hl:∀i σ H,i<=xs.length->Pv i σ H->SqT K H a xs)
  (hs:∀i x σ H,xs[i]?=some x->Pv i σ H->g x σ H fun σ2 H2=>tb {D with nx:=Pv (i+1),ct:=Pv (i+1),bk:=D.nx} σ2 H2) (hd:∀σ H,Pv xs.length σ H->D.nx σ H) :
  ∃W:Nat->Nat->St->Hp->Prop,(∃m,W 0 m σ H)/\∀i m σ H,W i m σ H->
   ((Itt K a).stop i H/\D.nx σ H)\/((Itt K a).go i H/\∃N:St->Hp->Prop,(∀σ' H',N σ' H'->∃m',m'<m/\W (i+1) m' σ' H')/\∀x H',(Itt K a).yld i H x H'->g x σ H' fun σ2 H2=>tb {D with nx:=N,ct:=N,bk:=D.nx} σ2 H2):=by
 refine⟨fun i m σ H=>m=xs.length-i/\i<=xs.length/\Pv i σ H,⟨xs.length,by simp,Nat.zero_le _,h0⟩,?_⟩;rintro i m σ H ⟨rfl,hi,p⟩;have q:=hl i σ H hi p;by_cases hlt:i<xs.length
 ·refine .inr ⟨⟨xs,xs[i],q,by simp[hlt]⟩,Pv (i+1),fun σ' H' p'=>⟨xs.length-(i+1),by omega,rfl,hlt,p'⟩,fun x H' y=>?_⟩;obtain⟨e,y⟩:=y;subst e;exact hs i x σ _ (y xs q) p
 ·have e:i=xs.length:=by omega
  subst e;exact .inl ⟨⟨xs,q,Nat.le_refl _⟩,hd σ H p⟩
theorem JQ{lo:Int}{n:Nat}{g:TG}{tb:TS}{D:Ends}{σ:St}{H:Hp}(Pv:Nat->St->Hp->Prop)(h0:Pv 0 σ H)
  (hs:∀i σ H,i<n->Pv i σ H->g (.int (lo+i)) σ H fun σ2 H2=>tb {D with nx:=Pv (i+1),ct:=Pv (i+1),bk:=D.nx} σ2 H2) (hd:∀σ H,Pv n σ H->D.nx σ H) :
  ∃W:Nat->Nat->St->Hp->Prop,(∃m,W 0 m σ H)/\∀i m σ H,W i m σ H->
   ((Itr lo n).stop i H/\D.nx σ H)\/((Itr lo n).go i H/\∃N:St->Hp->Prop,(∀σ' H',N σ' H'->∃m',m'<m/\W (i+1) m' σ' H')/\∀x H',(Itr lo n).yld i H x H'->g x σ H' fun σ2 H2=>tb {D with nx:=N,ct:=N,bk:=D.nx} σ2 H2):=by
 refine⟨fun i m σ H=>m=n-i/\i<=n/\Pv i σ H,⟨n,by simp,Nat.zero_le _,h0⟩,?_⟩;rintro i m σ H ⟨rfl,hi,p⟩;by_cases hlt:i<n
 ·refine .inr ⟨hlt,Pv (i+1),fun σ' H' p'=>⟨n-(i+1),by omega,rfl,hlt,p'⟩,fun x H' y=>?_⟩;obtain⟨e,y⟩:=y;subst e y;exact hs i σ _ hlt p
 ·have e:i=n:=by omega
  subst e;exact .inl ⟨Nat.le_refl _,hd σ H p⟩
noncomputable abbrev R2:=V->V->Hp->VK->Prop
def OpR(X:Cx)(f:Value->Value->Sem Value)(r:R2):Prop:=
 ∀(pins:List (Addr×Obj)) (s:Shared) (σ:St) (H:Hp) (x y:V) (v u:Value) (Q:VK),Inv X pins σ H s->RelV x v->RelV y u->r x y H Q->
  wpAny (model X.prog X.w) X.A (f v u) (EP X pins σ Q) X.xe s
def UnR(X:Cx)(f:Value->Sem Value)(r:V->Hp->VK->Prop):Prop:=
 ∀(pins:List (Addr×Obj)) (s:Shared) (σ:St) (H:Hp) (x:V) (v:Value) (Q:VK),Inv X pins σ H s->RelV x v->r x H Q->
  wpAny (model X.prog X.w) X.A (f v) (EP X pins σ Q) X.xe s
def CallR(X:Cx)(f:Value)(r:List V->Hp->VK->Prop):Prop:=
 ∀(pins:List (Addr×Obj)) (s:Shared) (σ:St) (H:Hp) (xs:List V) (us:List Value) (Q:VK),Inv X pins σ H s->Vals xs us->r xs H Q->
  wpAny (model X.prog X.w) X.A (call f us) (EP X pins σ Q) X.xe s
def tOp(r:R2)(ta tb:TE):TE:=fun σ H Q=>ta σ H fun x H1=>tb σ H1 fun y H2=>r x y H2 Q
def tUn(r:V->Hp->VK->Prop)(ta:TE):TE:=fun σ H Q=>ta σ H fun x H1=>r x H1 Q
def rI(C:Int->Int->Prop)(g:Int->Int->V):R2:=fun x y H Q=>∃i j,x = .int i/\y = .int j/\C i j/\Q (g i j) H
def rI0(g:Int->Int->V):R2:=fun x y H Q=>∃i j,x = .int i/\y = .int j/\Q (g i j) H
noncomputable def rU(g:Int->V):V->Hp->VK->Prop:=fun x H Q=>∃i,x = .int i/\Q (g i) H
section
variable{X:Cx}{a b c:Expr}{ta tb tc:TE}{pos:Pos}
theorem binT(ha:PE X a ta)(hb:PE X b tb){pins:List (Addr×Obj)}{s:Shared}{σ:St}{H:Hp}{R:V->V->Hp->Prop}(I:Inv X pins σ H s)
  (h:ta σ H fun x H1=>tb σ H1 fun y H2=>R x y H2) {Q:Value->Shared->Prop} {f:Value->Value->Sem Value}
  (hf:∀v u s2 x y H2,Inv X pins σ H2 s2->RelV x v->RelV y u->R x y H2->wpAny (model X.prog X.w) X.A (f v u) Q X.xe s2) :
  wpAny (model X.prog X.w) X.A (eval a X.env) (fun v s₁=>wpAny (model X.prog X.w) X.A (eval b X.env) (fun u s₂=>wpAny (model X.prog X.w) X.A (f v u) Q X.xe s₂) X.xe s₁) X.xe s:=by
 refine thn (ha pins s σ H _ I h) fun v s1 ⟨x,H1,I1,r1,q1⟩=>?_
 refine thn (hb pins s1 σ H1 _ I1 q1) fun u s2 ⟨y,H2,I2,r2,q2⟩=>?_
 exact hf v u s2 x y H2 I2 r1 r2 q2
theorem jg{op:Operator}{r:R2}(ho:OpR X (binaryOp op) r)(ha:PE X a ta)(hb:PE X b tb):PE X (.BinOp a op b pos) (tOp r ta tb):=by
 intro pins s σ H Q I h;exact wpAny_BinOp (binT ha hb I h fun v u s2 x y H2 I2 rx ry q=>ho pins s2 σ H2 x y v u Q I2 rx ry q)
theorem WT{op:UnaryOp}{r:V->Hp->VK->Prop}(ho:UnR X (unaryOp op) r)(ha:PE X a ta):PE X (.UnaryOp op a pos) (tUn r ta):=by
 intro pins s σ H Q I h;exact UnaryOp_ (thn (ha pins s σ H _ I h) fun v s1 ⟨x,H1,I1,r1,q1⟩=>ho pins s1 σ H1 x v Q I1 r1 q1)
theorem opI{f:Value->Value->Sem Value}{C:Int->Int->Prop}{g:Int->Int->Int}
  (rule:∀(i j:Int) (t u:Tok) (s:Shared) (Q:Value->Shared->Prop) (E:Value->Shared->Prop),C i j->Q (.int (g i j) s.toks) {s with toks:=s.toks+1}->wpAny (model X.prog X.w) X.A (f (.int i t) (.int j u)) Q E s) :
  OpR X f (rI C fun i j=>.int (g i j)):=by
 intro pins s σ H x y v u Q I rx ry h;obtain⟨i,j,rfl,rfl,hc,q⟩:=h;obtain⟨t,rfl⟩:=rx;obtain⟨t',rfl⟩:=ry;exact rule i j t t' s _ _ hc ⟨.int (g i j),H,I.tok _,⟨_,rfl⟩,q⟩
theorem opI0{f:Value->Value->Sem Value}{g:Int->Int->Int}
  (rule:∀(i j:Int) (t u:Tok) (s:Shared) (Q:Value->Shared->Prop) (E:Value->Shared->Prop),Q (.int (g i j) s.toks) {s with toks:=s.toks+1}->wpAny (model X.prog X.w) X.A (f (.int i t) (.int j u)) Q E s) :
  OpR X f (rI0 fun i j=>.int (g i j)):=by
 intro pins s σ H x y v u Q I rx ry h;obtain⟨i,j,rfl,rfl,q⟩:=h;obtain⟨t,rfl⟩:=rx;obtain⟨t',rfl⟩:=ry;exact rule i j t t' s _ _ ⟨.int (g i j),H,I.tok _,⟨_,rfl⟩,q⟩
theorem opB0{f:Value->Value->Sem Value}{g:Int->Int->Bool}
  (rule:∀(i j:Int) (t u:Tok) (s:Shared) (Q:Value->Shared->Prop) (E:Value->Shared->Prop),Q (.bool (g i j)) s->wpAny (model X.prog X.w) X.A (f (.int i t) (.int j u)) Q E s) :
  OpR X f (rI0 fun i j=>.bl (g i j)):=by
 intro pins s σ H x y v u Q I rx ry h;obtain⟨i,j,rfl,rfl,q⟩:=h;obtain⟨t,rfl⟩:=rx;obtain⟨t',rfl⟩:=ry;exact rule i j t t' s _ _ ⟨.bl (g i j),H,I,rfl,q⟩
def CPow(i j:Int):Prop:=0<=j/\j<=1000000/\i.natAbs<2^64
theorem jK:OpR X (binaryOp .Add) (rI0 fun i j=>.int (i+j)):=opI0 fun _ _ _ _ _ _ _ q=>add_int q
theorem Q5:OpR X (binaryOp .Sub) (rI0 fun i j=>.int (i-j)):=opI0 fun _ _ _ _ _ _ _ q=>sub_int q
theorem jE:OpR X (binaryOp .Mod) (rI (fun _ j=>0<j) fun i j=>.int (i%j)):=opI fun i j _ _ _ _ _ hc q=>by
 have h1:(0:Int)<j:=hc;exact mod_int' (by omega) (by rw[Int.fmod_eq_emod_of_nonneg i (by omega)];exact q)
theorem qM:OpR X (binaryOp .Pow) (rI CPow fun i j=>.int (i^j.toNat)):=opI fun _ _ _ _ _ _ _ hc q=>pow_int_small hc.1 hc.2.1 hc.2.2 q
theorem unI{f:Value->Sem Value}{g:Int->Int}
  (rule:∀(i:Int) (t:Tok) (s:Shared) (Q:Value->Shared->Prop) (E:Value->Shared->Prop),Q (.int (g i) s.toks) {s with toks:=s.toks+1}->wpAny (model X.prog X.w) X.A (f (.int i t)) Q E s) :
  UnR X f (rU fun i=>.int (g i)):=by
 intro pins s σ H x v Q I rx h;obtain⟨i,rfl,q⟩:=h;obtain⟨t,rfl⟩:=rx;exact rule i t s _ _ ⟨.int (g i),H,I.tok _,⟨_,rfl⟩,q⟩
theorem wY:UnR X (unaryOp .USub) (rU fun i=>.int (-i)):=unI fun _ _ _ _ _ q=>neg_int q
end
noncomputable def scal:V->V->Bool
 | .non,.non=>true | .non,.int _=>true | .int _,.non=>true | .non,.bl _=>true | .bl _,.non=>true | .non,.str _=>true | .str _,.non=>true
 | .int _,.int _=>true | .bl _,.bl _=>true | .str _,.str _=>true | .byt _,.byt _=>true
 | .int _,.str _=>true | .str _,.int _=>true | .bl _,.str _=>true | .str _,.bl _=>true
 | _,_=>false
def rEq:R2:=fun x y H Q=>scal x y=true/\Q (.bl (decide (x=y))) H
def rNe:R2:=fun x y H Q=>scal x y=true/\Q (.bl (!decide (x=y))) H
theorem kM{i j:Int}:decide (V.int i=V.int j)=(i==j):=by
 rw[Bool.eq_iff_iff];simp
theorem K2{i j:Bool}:decide (V.bl i=V.bl j)=(i==j):=by
 rw[Bool.eq_iff_iff];simp
theorem kN{i j:Str}:decide (V.str i=V.str j)=(i==j):=by
 rw[Bool.eq_iff_iff];simp
theorem kL{i j:Array UInt8}:decide (V.byt i=V.byt j)=(i.toList==j.toList):=by
 rw[Bool.eq_iff_iff];cases i;cases j;simp
section
variable{X:Cx}{a b c:Expr}{ta tb tc:TE}{pos:Pos}
theorem jG{pins:List (Addr×Obj)}{σ:St}{H:Hp}{s:Shared}{Q:VK}{k k':Bool}(I:Inv X pins σ H s)(q:Q (.bl k) H)(e:k=k'):EP X pins σ Q (.bool k') s:=by
 subst e;exact⟨.bl k,H,I,rfl,q⟩
theorem Jj:OpR X (compareOp .Eq) rEq:=by
 intro pins s σ H x y v u Q I rx ry h;obtain⟨hs,q⟩:=h;cases x with
 | non=>
  cases rx;cases y with
  | non=>cases ry;exact PySem.EqNone.eq_none_none (jG I q (by simp))
  | bl j=>cases ry;exact PySem.EqNone.eq_none_bool (jG I q (by simp))
  | int j=>obtain⟨t',rfl⟩:=ry;exact PySem.EqNone.eq_none_int (jG I q (by simp))
  | str j=>obtain⟨t',rfl⟩:=ry;exact PySem.EqNone.eq_none_str (jG I q (by simp))
  | _=>exact absurd (show false=true from hs) Bool.false_ne_true
 | bl i=>
  cases rx;cases y with
  | non=>cases ry;exact PySem.EqNone.eq_bool_none (jG I q (by simp))
  | bl j=>cases ry;exact eq_bool (jG I q K2)
  | str j=>obtain⟨t',rfl⟩:=ry;exact PySem.EqMixed.eq_bool_str (jG I q (by simp))
  | _=>exact absurd (show false=true from hs) Bool.false_ne_true
 | int i=>
  obtain⟨t,rfl⟩:=rx;cases y with
  | non=>cases ry;exact PySem.EqNone.eq_int_none (jG I q (by simp))
  | int j=>obtain⟨t',rfl⟩:=ry;exact eq_int (jG I q kM)
  | str j=>obtain⟨t',rfl⟩:=ry;exact PySem.EqMixed.eq_int_str (jG I q (by simp))
  | _=>exact absurd (show false=true from hs) Bool.false_ne_true
 | str i=>
  obtain⟨t,rfl⟩:=rx;cases y with
  | non=>cases ry;exact PySem.EqNone.eq_str_none (jG I q (by simp))
  | bl j=>cases ry;exact PySem.EqMixed.eq_str_bool (jG I q (by simp))
  | int j=>obtain⟨t',rfl⟩:=ry;exact PySem.EqMixed.eq_str_int (jG I q (by simp))
  | str j=>obtain⟨t',rfl⟩:=ry;exact eq_str (jG I q kN)
  | _=>exact absurd (show false=true from hs) Bool.false_ne_true
 | byt i=>
  obtain⟨t,rfl⟩:=rx;cases y with
  | byt j=>obtain⟨t',rfl⟩:=ry;exact PySem.W.eq_bytes (jG I q kL)
  | _=>exact absurd (show false=true from hs) Bool.false_ne_true
 | _=>cases y<;>exact absurd (show false=true from hs) Bool.false_ne_true
theorem Kd:OpR X (compareOp .NotEq) rNe:=by
 intro pins s σ H x y v u Q I rx ry h;obtain⟨hs,q⟩:=h;cases x with
 | non=>
  cases rx;cases y with
  | non=>cases ry;exact PySem.EqNone.ne_none_none (jG I q (by simp))
  | bl j=>cases ry;exact PySem.EqNone.ne_none_bool (jG I q (by simp))
  | int j=>obtain⟨t',rfl⟩:=ry;exact PySem.EqNone.ne_none_int (jG I q (by simp))
  | str j=>obtain⟨t',rfl⟩:=ry;exact PySem.EqNone.ne_none_str (jG I q (by simp))
  | _=>exact absurd (show false=true from hs) Bool.false_ne_true
 | bl i=>
  cases rx;cases y with
  | non=>cases ry;exact PySem.EqNone.ne_bool_none (jG I q (by simp))
  | bl j=>cases ry;exact ne_bool (jG I q (congrArg not K2))
  | str j=>obtain⟨t',rfl⟩:=ry;exact PySem.EqMixed.ne_bool_str (jG I q (by simp))
  | _=>exact absurd (show false=true from hs) Bool.false_ne_true
 | int i=>
  obtain⟨t,rfl⟩:=rx;cases y with
  | non=>cases ry;exact PySem.EqNone.ne_int_none (jG I q (by simp))
  | int j=>obtain⟨t',rfl⟩:=ry;exact ne_int (jG I q (congrArg not kM))
  | str j=>obtain⟨t',rfl⟩:=ry;exact PySem.EqMixed.ne_int_str (jG I q (by simp))
  | _=>exact absurd (show false=true from hs) Bool.false_ne_true
 | str i=>
  obtain⟨t,rfl⟩:=rx;cases y with
  | non=>cases ry;exact PySem.EqNone.ne_str_none (jG I q (by simp))
  | bl j=>cases ry;exact PySem.EqMixed.ne_str_bool (jG I q (by simp))
  | int j=>obtain⟨t',rfl⟩:=ry;exact PySem.EqMixed.ne_str_int (jG I q (by simp))
  | str j=>obtain⟨t',rfl⟩:=ry;exact ne_str (jG I q (congrArg not kN))
  | _=>exact absurd (show false=true from hs) Bool.false_ne_true
 | byt i=>
  obtain⟨t,rfl⟩:=rx;cases y with
  | byt j=>obtain⟨t',rfl⟩:=ry;exact PySem.W.ne_bytes (jG I q (congrArg not kL))
  | _=>exact absurd (show false=true from hs) Bool.false_ne_true
 | _=>cases y<;>exact absurd (show false=true from hs) Bool.false_ne_true
theorem Kc:OpR X (compareOp .Lt) (rI0 fun i j=>.bl (decide (i<j))):=opB0 fun _ _ _ _ _ _ _ q=>lt_int q
theorem zt:OpR X (compareOp .Gt) (rI0 fun i j=>.bl (decide (j<i))):=opB0 fun _ _ _ _ _ _ _ q=>gt_int q
theorem xS:OpR X (compareOp .GtE) (rI0 fun i j=>.bl (decide (j<=i))):=opB0 fun _ _ _ _ _ _ _ q=>ge_int q
theorem wz:OpR X (compareOp .Is) (fun x y H Q=>y = .non/\Q (.bl (decide (x = .non))) H):=by
 intro pins s σ H x y v u Q I rx ry h;obtain⟨rfl,q⟩:=h;cases ry;refine is_none_gen (jG I q ?_);cases x<;>first
  | (cases rx;rfl)
  | (obtain⟨t,rfl⟩:=rx;rfl)
theorem Wz:OpR X (compareOp .IsNot) (fun x y H Q=>y = .non/\Q (.bl (!decide (x = .non))) H):=by
 intro pins s σ H x y v u Q I rx ry h;obtain⟨rfl,q⟩:=h;cases ry;refine isnot_none_gen (jG I q ?_);cases x<;>first
  | (cases rx;rfl)
  | (obtain⟨t,rfl⟩:=rx;rfl)
theorem nomark(b:Expr){op:CmpOp}(h:op≠.In:=by decide)(h2:op≠.NotIn:=by decide):behindInMarks op b=false:=by
 have e1:(op==CmpOp.In)=false:=by cases op<;>first | rfl | exact absurd rfl h
 have e2:(op==CmpOp.NotIn)=false:=by cases op<;>first | rfl | exact absurd rfl h2
 cases b<;>simp[behindInMarks,e1,e2]
theorem WA{op:CmpOp}{r:R2}(ho:OpR X (compareOp op) r)(ha:PE X a ta)(hb:PE X b tb)(hm:behindInMarks op b=false):PE X (.Compare a [op] [b] pos) (tOp r ta tb):=by
 intro pins s σ H Q I h;exact wpAny_Compare1 (binT ha hb I h fun v u s2 x y H2 I2 rx ry q=>ho pins s2 σ H2 x y v u Q I2 rx ry q) hm
def tTest(t:TE):TT:=fun σ H Q=>t σ H fun x H'=>∃k,x = .bl k/\Q k H'
theorem jn{op:CmpOp}{r:R2}(ho:OpR X (compareOp op) r)(ha:PE X a ta)(hb:PE X b tb)(hm:behindInMarks op b=false):PT X (.Compare a [op] [b] pos) (tTest (tOp r ta tb)):=by
 intro pins s σ H Q I h;refine wpAny_isTrue_Compare1 (thn (ha pins s σ H _ I h) fun v s1 ⟨x,H1,I1,r1,q1⟩=>thn (hb pins s1 σ H1 _ I1 q1) fun u s2 ⟨y,H2,I2,r2,q2⟩=>
  thn (ho pins s2 σ H2 x y v u _ I2 r1 r2 q2) fun c s3 ⟨z,H3,I3,r3,k,e,q3⟩=>?_) hm
 subst e;cases r3;exact wpAny_truthy_bool ⟨H3,I3,q3⟩
theorem line63:(sizeLine:Nat)<2^63:=by rw[sizeLine_eq];decide
theorem qL:OpR X (binaryOp .Add) (fun x y H Q=>∃i j,x = .str i/\y = .str j/\i.length+j.length<=sizeLine/\Q (.str (i++j)) H):=by
 intro pins s σ H x y v u Q I rx ry h;obtain⟨i,j,rfl,rfl,hz,q⟩:=h;obtain⟨t,rfl⟩:=rx;obtain⟨t',rfl⟩:=ry;exact add_str (fun t' tk=>⟨.str (i++j),H,I.tok _,⟨_,rfl⟩,q⟩) hz
theorem vals1{x:V}{us:List Value}(r:Vals [x] us):∃u,us=[u]/\RelV x u:=by
 cases r with
 | cons r1 r2=>cases r2;exact⟨_,rfl,r1⟩
theorem vals2{x y:V}{us:List Value}(r:Vals [x,y] us):∃u w',us=[u,w']/\RelV x u/\RelV y w':=by
 cases r with
 | cons r1 r2=>
  cases r2 with
  | cons r3 r4=>cases r4;exact⟨_,_,rfl,r1,r3⟩
theorem Z5(hc:X.calm=true):CallR X (.builtin "max") (fun xs H Q=>∃i j,xs=[.int i,.int j]/\Q (.int (if j>i then j else i)) H):=by
 intro pins s σ H xs us Q I r h;obtain⟨i,j,rfl,q⟩:=h;obtain⟨u,w',rfl,⟨t,rfl⟩,⟨t',rfl⟩⟩:=vals2 r;refine max_two_ints (I.ok.hd hc) fun h' tk k=>⟨_,H,I.kept k,?_,q⟩
 by_cases hj:j>i
 ·rw[if_pos hj,if_pos hj];exact⟨_,rfl⟩
 ·rw[if_neg hj,if_neg hj];exact⟨_,rfl⟩
theorem Z7(hc:X.calm=true):CallR X (.builtin "min") (fun xs H Q=>∃i j,xs=[.int i,.int j]/\Q (.int (if j<i then j else i)) H):=by
 intro pins s σ H xs us Q I r h;obtain⟨i,j,rfl,q⟩:=h;obtain⟨u,w',rfl,⟨t,rfl⟩,⟨t',rfl⟩⟩:=vals2 r;refine min_two_ints (I.ok.hd hc) fun h' tk k=>⟨_,H,I.kept k,?_,q⟩
 by_cases hj:j<i
 ·rw[if_pos hj,if_pos hj];exact⟨_,rfl⟩
 ·rw[if_neg hj,if_neg hj];exact⟨_,rfl⟩
theorem Km:CallR X (.type "int") (fun xs H Q=>(∃i,xs=[.int i]/\Q (.int i) H)\/∃k,xs=[.bl k]/\Q (.int (if k then 1 else 0)) H):=by
 intro pins s σ H xs us Q I r h;rcases h with⟨i,rfl,q⟩ | ⟨k,rfl,q⟩
 ·obtain⟨u,rfl,t,rfl⟩:=vals1 r;exact call_int_int ⟨.int i,H,I,⟨_,rfl⟩,q⟩
 ·obtain⟨u,rfl,r1⟩:=vals1 r;cases r1;exact call_int_bool ⟨.int (if k then 1 else 0),H,I.tok _,⟨_,rfl⟩,q⟩
def LenV(K:Frg)(x:V)(H:Hp)(n:Nat):Prop:=
 match x with
 | .str y=>y.length<=sizeLine/\n=y.length
 | .byt y=>y.size<=sizeLine/\n=y.size
 | .ref p=>(∃xs,SqL K H p xs/\n=xs.length)\/∃xs,SqT K H p xs/\n=xs.length
 | _=>False
theorem jC:CallR X (.builtin "len") (fun xs H Q=>∃x n,xs=[x]/\LenV X.K x H n/\Q (.int n) H):=by
 intro pins s σ H xs us Q I r h;obtain⟨x,n,rfl,e,q⟩:=h;obtain⟨u,rfl,rx⟩:=vals1 r;have hl:=line63;have hs:sizeLine=16777216:=sizeLine_eq;cases x with
 | str y=>
  obtain⟨t,rfl⟩:=rx;obtain⟨hy,e'⟩:y.length<=sizeLine/\n=y.length:=e;subst e';exact len_str (by omega) ⟨.int _,H,I.tok _,⟨_,rfl⟩,q⟩
 | byt y=>
  obtain⟨t,rfl⟩:=rx;obtain⟨hy,e'⟩:y.size<=sizeLine/\n=y.size:=e;subst e';exact PySem.W.len_bytes (by omega) ⟨.int _,H,I.tok _,⟨_,rfl⟩,q⟩
 | ref p=>
  cases rx;have e':(∃xs,SqL X.K H p xs/\n=xs.length)\/∃xs,SqT X.K H p xs/\n=xs.length:=e;rcases e' with⟨xs,hx,e'⟩ | ⟨xs,hx,e'⟩
  ·subst e';obtain⟨its,r',pl,hz⟩:=I.list hx;have hlen:=r'.length;exact Calls.call_len_list pl.isList (by simp only[size_toArray];omega) ⟨.int xs.length,H,I.tok _,⟨_,by simp only[size_toArray];rw[hlen]⟩,q⟩
  ·subst e';obtain⟨its,r',pl,hz⟩:=I.tuple hx;have hlen:=r'.length;exact len_tuple pl (by simp only[size_toArray];omega) ⟨.int xs.length,H,I.tok _,⟨_,by simp only[size_toArray];rw[hlen]⟩,q⟩
 | _=>exact(show False from e).elim
end
section
variable{prog:Program}{w:World}{A:Around}{E:Value->Shared->Prop}{s:Shared}{K:Frg}{x dx C f:Addr}{mA:Str->Option Value}{name:Str}{v:Value}
end
theorem RelO.some_of{v:V}{o:Option Value}(r:RelO (some v) o):∃u,o=some u/\RelV v u:=by
 cases o with
 | none=>exact(show False from r).elim
 | some u=>exact⟨u,rfl,r⟩
section
variable{P:Program}{w:World}{H H':Hp}{h h':Heap}{a C dx:Addr}{fs fs':List (Str×V)}
end
section
variable{X:Cx}{pins:List (Addr×Obj)}{σ:St}{H:Hp}{s:Shared}{a C dx:Addr}{fs:List (Str×V)}{f:Str}{v:V}{A:Around}{E:Value->Shared->Prop}
end
section
variable{X:Cx}{o e value:Expr}{f:Str}{pos pos' tpos:Pos}{ta tv:TE}
end
section
variable{X:Cx}{pins:List (Addr×Obj)}{σ:St}{H:Hp}{s:Shared}{A:Around}{E:Value->Shared->Prop}{Q:Value->Shared->Prop}{c:Value}{b:Bool}
end
structure Room(k:Nat)(A:Around):Prop where
 hd:A.handled=none
 dp:A.depth+3*k+5<recursionLimit
 un:A.units+16*k+200<cLine
theorem Room.mono{j k:Nat}{A:Around}(r:Room k A)(h:j<=k):Room j A:=⟨r.hd,by have:=r.dp;omega,by have:=r.un;omega⟩
theorem Room.deeper{k:Nat}{A:Around}(r:Room (k+1) A)(env:Env):Room k (A.deeper env):=
 ⟨r.hd,by have:=r.dp;show A.depth+1+3*k+5<_;omega,by have:=r.un;show A.units+3+16*k+200<_;omega⟩
theorem Room.depth{k:Nat}{A:Around}(r:Room k A):A.depth<recursionLimit:=by have:=r.dp;omega
theorem Room.units{k:Nat}{A:Around}(r:Room k A):A.units+64<cLine:=by have:=r.un;omega
def tNil:TA:=fun _ H Q=>Q [] H
def tCons(ta:TE)(tr:TA):TA:=fun σ H Q=>ta σ H fun x H1=>tr σ H1 fun xs H2=>Q (x::xs) H2
section
variable{X:Cx}{e:Expr}{es:List Expr}{te:TE}{t:TA}{pos:Pos}
theorem jd:PA X [] tNil:=fun _ _ _ _ H Q I h=>Calls.spliced_nil ⟨[],H,I,.nil,h⟩
theorem ja(ha:PE X e te)(hr:PA X es t)(hs:starEach (e::es) X.env=(false,eval e X.env)::starEach es X.env:=by rfl):PA X (e::es) (tCons te t):=by
 intro pos pins s σ H Q I h;rw[hs];show wpAny _ _ (spliced ((false,eval e X.env)::backTo pos (starEach es X.env))) _ _ s;refine Calls.spliced_cons (thn (ha pins s σ H _ I h) fun u s1 ⟨x,H1,I1,r1,q1⟩=>?_);exact thn (hr pos pins s1 σ H1 _ I1 q1) fun us s2 ⟨xs,H2,I2,r2,q2⟩=>⟨x::xs,H2,I2,.cons r1 r2,q2⟩
def tTup(t:TA):TE:=fun σ H Q=>t σ H fun xs H1=>xs.length<=sizeLine/\∀p,H1 p=none->Q (.ref p) (upd H1 p (.tup xs))
def tLst(t:TA):TE:=fun σ H Q=>t σ H fun xs H1=>xs.length<=sizeLine/\∀p,H1 p=none->Q (.ref p) (upd H1 p (.lst xs))
theorem Jr{x1}(h:PA X es t):PE X (.Tuple es x1 pos) (tTup t):=by
 intro pins s σ H Q I hq;refine wpAny_Tuple_spliced (thn (h pos pins s σ H _ I hq) fun us s1 ⟨xs,H1,I1,r,z,q⟩=>⟨by rw[<-r.length];exact z,?_⟩);have hf:H1 s1.heap.objs.size=none:=I1.hok.fresh (Nat.le_refl _);refine⟨.ref s1.heap.objs.size,upd H1 s1.heap.objs.size (.tup xs),I1.laid (t':=s1.toks) (fun b u e=>Heap.get?_push_of_some _ e) (Nat.le_refl _) ?_,rfl,q _ hf⟩;exact⟨z,us,r,⟨_,Heap.get?_push_size _ rfl,rfl,_,rfl⟩⟩
theorem jM(h:PA X es t):PE X (.List es pos) (tLst t):=by
 intro pins s σ H Q I hq;refine wpAny_List_spliced (thn (h pos pins s σ H _ I hq) fun us s1 ⟨xs,H1,I1,r,z,q⟩=>⟨by rw[<-r.length];exact z,?_⟩);have hf:H1 s1.heap.objs.size=none:=I1.hok.fresh (Nat.le_refl _);refine⟨.ref s1.heap.objs.size,upd H1 s1.heap.objs.size (.lst xs),I1.laid (t':=s1.toks) (fun b u e=>Heap.get?_push_of_some _ e) (Nat.le_refl _) ?_,rfl,q _ hf⟩;exact⟨z,us,0,r,Heap.get?_push_size _ rfl⟩
end
noncomputable abbrev Sp:=List V->Hp->VK->XK->Prop
noncomputable abbrev CXT:=List Env->Hp->Shared->XK->Value->Shared->Prop
structure Env0(P:Program)(w:World)(K:Frg)(mg:Str->Option Value)(base:Heap)(A:Around)(outer:List Env)(s:Shared)(H:Hp):Prop where
 frames:A.frames=some outer
 mod:Mod K mg base
 bs:∀b o,base.get? b=some o->s.heap.get? b=some o/\H b=none
 bsz:base.objs.size<=s.heap.objs.size
 funs:s.heap.FunFrames base outer
 frf:∀b∈frs outer,H b=none
 hok:HOk P w H s.heap
 bare:AllBare s.gens
def CE(outer:List Env)(P:Program)(w:World)(H:Hp)(s:Shared)(Q:VK)(u:Value)(s':Shared):Prop:=
 ∃v H',s'.os=s.os/\AllBare s'.gens/\Un (frs outer) [] H H' s.heap s'.heap/\HOk P w H' s'.heap/\RelV v u/\Q v H'
def CR(CX:CXT)(outer:List Env)(P:Program)(w:World)(H:Hp)(s:Shared)(Q:VK)(E:XK)(r:Result)(s':Shared):Prop:=
 match r with
 | .ok (.ret u)=>CE outer P w H s Q u s'
 | .ok _=>False
 | .error e=>CX outer H s E e s'
structure FnOk(P:Program)(w:World)(K:Frg)(mg:Str->Option Value)(base:Heap)(CX:CXT)(k:Nat)(f:Addr)(fd:FuncData)(ps:List Str)(sp:Sp):Prop where
 len:∀vs H Q E,sp vs H Q E->vs.length=ps.length
 run:∀(A:Around) (outer:List Env) (s:Shared) (H:Hp) (args:Args) (us:List Value) (vs:List V) (Q:VK) (E:XK),Room k A->Env0 P w K mg base A outer s H->BindsTo s fd args (ps.zip us)->Vals vs us->sp vs H Q E->
  codeAny (model P w) A (.call (.ref f) args) (CR CX outer P w H s Q E) s
theorem FnOk.mono{P:Program}{w:World}{K:Frg}{mg:Str->Option Value}{base:Heap}{CX:CXT}{j k:Nat}{f:Addr}{fd:FuncData}{ps:List Str}{sp:Sp}(F:FnOk P w K mg base CX j f fd ps sp)(h:j<=k) :
  FnOk P w K mg base CX k f fd ps sp:=⟨F.len,fun A outer s H args us vs Q E hr=>F.run A outer s H args us vs Q E (hr.mono h)⟩
section
variable{X:Cx}{pins:List (Addr×Obj)}{σ:St}{H:Hp}{s s':Shared}
theorem Inv.env0(I:Inv X pins σ H s):Env0 X.prog X.w X.K X.mg X.base X.A X.stack s H:=
 ⟨I.ok.frames,I.ok.mod,I.bs,Nat.le_trans I.ok.bsz I.sz,I.stack,I.stkFree,I.hok,I.bare⟩
theorem Inv.after{Q:VK}{u:Value}(I:Inv X pins σ H s)(h:CE X.stack X.prog X.w H s Q u s'):EP X pins σ Q u s':=by
 obtain⟨v,H',os,bare,un,hok,r,q⟩:=h;obtain⟨hh,g,d,t,os'⟩:=s';obtain rfl:os'=s.os:=os;exact⟨v,H',I.call (h':=hh) (g':=g) (d':=d) (t':=t) (ch:=[]) un hok bare (fun b z=>absurd z (by simp)),r,q⟩
end
def tCall(sp:Sp)(dvs:List V)(E:XK)(t:TA):TE:=fun σ H Q=>t σ H fun vs H1=>sp (vs++dvs) H1 Q E
def Binds(K:Frg)(fd:FuncData)(ps:List Str)(ds:List Value):Prop:=
 ∀(s:Shared) (us:List Value),K.In s.heap->(us++ds).length=ps.length->BindsTo s fd ⟨us,[]⟩ (ps.zip (us++ds))
theorem Binds.all{K:Frg}{fd:FuncData}{ps:List Str}(h:∀us:List Value,us.length=ps.length->bindArgs fd ⟨us,[]⟩=pure (ps.zip us)):Binds K fd ps []:=fun s us _ hl=>by
 rw[append_nil]at hl|-;exact .of_eq (h us hl)
def Passes(CX:CXT)(X:Cx)(E:XK):Prop:=∀(pins:List (Addr×Obj)) (σ:St) (H:Hp) (s:Shared) (e:Value) (s':Shared),Inv X pins σ H s->CX X.stack H s E e s'->X.xe e s'
section
variable{X:Cx}{CX:CXT}{k:Nat}{f C:Addr}{fd:FuncData}{ps:List Str}{sp:Sp}{dvs:List V}{ds:List Value}{E:XK}{x m:Str}{p pos apos:Pos}{e o:Expr}{es:List Expr}{ta:TE}{t:TA}
theorem xy{pins:List (Addr×Obj)}{σ:St}{H:Hp}{s:Shared}{Q:VK}{us:List Value}{vs:List V}(F:FnOk X.prog X.w X.K X.mg X.base CX k f fd ps sp)(hr:Room k X.A)(hb:Binds X.K fd ps ds)(hd:Vals dvs ds)(hx:Passes CX X E)
  (I:Inv X pins σ H s) (r:Vals vs us) (h:sp (vs++dvs) H Q E):wpAny (model X.prog X.w) X.A (call (.ref f) us) (EP X pins σ Q) X.xe s:=by
 have r2:Vals (vs++dvs) (us++ds):=r.append hd;have hl:(us++ds).length=ps.length:=by rw[<-r2.length];exact F.len _ _ _ _ h
 refine wpAny_call (codeAny_mono (F.run X.A X.stack s H ⟨us,[]⟩ (us++ds) (vs++dvs) Q E hr I.env0 (hb s us I.kIn hl) r2 h) fun r s' hq=>?_);cases r with
 | error e=>exact hx pins σ H s e s' I hq
 | ok fl=>
  cases fl with
  | ret u=>exact I.after hq
  | next=>exact False.elim hq
  | brk=>exact False.elim hq
  | cont=>exact False.elim hq
theorem jp(F:FnOk X.prog X.w X.K X.mg X.base CX k f fd ps sp)(hr:Room k X.A)(hg:Gl X x)(hm:X.mg x=some (.ref f))(hk:PySem.W.keepIn X.K (.ref f)=true)(hb:Binds X.K fd ps ds)(hd:Vals dvs ds)(hx:Passes CX X E)
  (ha:PA X (e::es) t) (hdb:(x==("__debug__" : Str))=false:=by decide) (he:starEach (e::es) X.env=(false,eval e X.env)::starEach es X.env:=by rfl) (hpl:(backTo pos (starEach es X.env)).any (·.1)=false:=by rfl) :
  PE X (.Call (.Name x p) (e::es) [] pos) (tCall sp dvs E t):=by
 intro pins s σ H Q I h;refine wpAny_Call_Name_kw (kY I hg hm ?_ hdb);refine PySem.W.callWith_K (h₀:=X.base) I.ok.mod.kin hk (thn (ha pos pins s σ H _ I h) fun us s1 ⟨vs,H1,I1,r,q⟩=>⟨I1.kIn,?_⟩) he hpl;exact xy F hr hb hd hx I1 r q
end
section
variable{X:Cx}{CX:CXT}{k:Nat}{f C:Addr}{fd:FuncData}{ps ks:List Str}{sp:Sp}{E:XK}{x m:Str}{p pos apos kpos:Pos}{e o:Expr}{es:List Expr}{kws:List Keyword}{te ta:TE}{t tk:TA}{nm:Option Str}
variable{g:List Value->List Value->List Value}{gV:List V->List V->List V}
end
structure FnScope(N P:List Str)(sc:Scope):Prop where
 kind:sc.kind = .function
 co:sc.isCoroutine=false
 gen:sc.isGenerator=false
 nd:N.Nodup
 pre:N.take P.length=P
 par:∀x∈P,sc.names.lookup x=some .local\/sc.names.lookup x=some .cell
 nofree:∀y∈sc.names,y.2≠.free
theorem Z4{kindOf:Str->Option NameKind}{x:Str}:∀{binds:List (Str×Value)} {m:Str->Option Value},(∀v,(x,v)∉binds)->bindL kindOf binds m x=m x
 | [],_,_=>rfl
 | (n,v)::r,m,h=>by
  unfold bindL;rw[Z4 fun w hw=>h w (mem_cons_of_mem _ hw)];split
  ·have:x≠n:=by rintro rfl;exact h v mem_cons_self
   simp[this]
  ·rfl
theorem Z2{kindOf:Str->Option NameKind}{x:Str}:∀{binds:List (Str×Value)} {m:Str->Option Value},(∀v,(x,v)∉binds)->bindC kindOf binds m x=m x
 | [],_,_=>rfl
 | (n,v)::r,m,h=>by
  unfold bindC;rw[Z2 fun w hw=>h w (mem_cons_of_mem _ hw)];split
  ·rfl
  ·have:x≠n:=by rintro rfl;exact h v mem_cons_self
   simp[this]
theorem Z3{kindOf:Str->Option NameKind}{x:Str}{v:Value}:∀{P:List Str} {vs:List Value} {i:Nat} {m:Str->Option Value},P.Nodup->P[i]?=some x->vs[i]?=some v->kindOf x=some .local->
  bindL kindOf (P.zip vs) m x=some v
 | [],_,_,_,_,h,_,_=>by simp at h
 | _::_,[],_,_,_,_,h,_=>by simp at h
 | p::P,w::vs,0,m,nd,h1,h2,hk=>by
  simp at h1 h2;subst h1;subst h2;show bindL kindOf ((p,w)::P.zip vs) m p=_;unfold bindL;rw[Z4 fun v hv=>(nodup_cons.mp nd).1 (of_mem_zip hv).1,if_pos hk];simp
 | p::P,w::vs,i+1,m,nd,h1,h2,hk=>by
  show bindL kindOf ((p,w)::P.zip vs) m x=_;unfold bindL;exact Z3 (i:=i) (nodup_cons.mp nd).2 (by simpa using h1) (by simpa using h2) hk
theorem Z1{kindOf:Str->Option NameKind}{x:Str}{v:Value}:∀{P:List Str} {vs:List Value} {i:Nat} {m:Str->Option Value},P.Nodup->P[i]?=some x->vs[i]?=some v->kindOf x≠some .local->
  bindC kindOf (P.zip vs) m x=some v
 | [],_,_,_,_,h,_,_=>by simp at h
 | _::_,[],_,_,_,_,h,_=>by simp at h
 | p::P,w::vs,0,m,nd,h1,h2,hk=>by
  simp at h1 h2;subst h1;subst h2;show bindC kindOf ((p,w)::P.zip vs) m p=_;unfold bindC;rw[Z2 fun v hv=>(nodup_cons.mp nd).1 (of_mem_zip hv).1,if_neg hk];simp
 | p::P,w::vs,i+1,m,nd,h1,h2,hk=>by
  show bindC kindOf ((p,w)::P.zip vs) m x=_;unfold bindC;exact Z1 (i:=i) (nodup_cons.mp nd).2 (by simpa using h1) (by simpa using h2) hk
noncomputable def start(N:List Str)(vs:List V):St:=vs.map some++List.replicate (N.length-vs.length) none
noncomputable def cxOf(CX:CXT)(P:Program)(w:World)(K:Frg)(mg:Str->Option Value)(base:Heap)(N:List Str)(qual:Str)(scope:Scope)(f:Addr)(cd:Value)(A:Around)(outer:List Env)(s:Shared)(H:Hp)(E:XK):Cx where
 prog:=P
 w:=w
 K:=K
 mg:=mg
 base:=base
 A:=A.deeper (envOfC qual scope s.heap.objs.size f cd)
 N:=N
 s₀:=s
 H₀:=H
 env:=envOfC qual scope s.heap.objs.size f cd
 outer:=outer
 stack:=envOfC qual scope s.heap.objs.size f cd::outer
 ex:=[]
 calm:=true
 fn:=fun _=>true
 pn:=[]
 xe:=fun e s'=>wpAny (model P w) (A.deeper (envOfC qual scope s.heap.objs.size f cd)) (leaving (envOfC qual scope s.heap.objs.size f cd) e) (fun _ s''=>CX outer H s E e s'') (fun e' s''=>CX outer H s E e' s'') s'
theorem Ye{sc:Scope}{n:Nat}{x:Str}(h:sc.names.lookup x=some .cell):∃c,(cellsFrom n sc.names []).lookup x=some c:=by
 have q:=PySem.W.cellsFrom_some sc.names n [] (.inl h);exact Option.isSome_iff_exists.mp q
theorem Kw{CX:CXT}{P:Program}{w:World}{K:Frg}{mg:Str->Option Value}{base:Heap}{N ps:List Str}{qual:Str}{scope:Scope}{f:Addr}{cd:Value}{A:Around}{outer:List Env}{s s1:Shared}{H:Hp}{E:XK}{us:List Value}{vs:List V}
  (S:FnScope N ps scope) (hd:A.handled=none) (e0:Env0 P w K mg base A outer s H) (hl:vs.length=ps.length) (r:Vals vs us)
  (x:InCallC s s.heap.objs.size (bindL (envOfC qual scope s.heap.objs.size f cd).kindOf (ps.zip us) fun _=>none) (cellsFrom (s.heap.objs.size+1) scope.names []) (bindC (envOfC qual scope s.heap.objs.size f cd).kindOf (ps.zip us) fun _=>none) s1) :
  Inv (cxOf CX P w K mg base N qual scope f cd A outer s H E) [] (start N vs) H s1:=by
 have hpl:ps.length<=N.length:=by have:=congrArg List.length S.pre;rw[length_take]at this;omega
 obtain⟨h1,tk,rfl,hk⟩:=x.done;have noA:∀b:Addr,b∉(cxOf CX P w K mg base N qual scope f cd A outer s H E).ex:=fun b z=>absurd (show b∈([]:List Addr)from z) (by simp)
 refine⟨⟨e0.mod,S.kind,rfl,rfl,Nat.le_refl _,fun y z c h1 h2=>?_,fun y hy=>?_,fun y c _ h=>?_,fun _=>hd,Around.frames_deeper e0.frames,.inr ⟨rfl,rfl⟩,fun b z=>absurd z (noA b),e0.bs,e0.bsz,fun b _ _=>noA b,fun b z=>absurd z (noA b),e0.funs,e0.frf⟩,
  rfl,e0.bare,Un.kept hk,⟨_,x.toInCall.ns,fun i y v h1 h2 h3=>?_⟩,fun y c h=>⟨_,x.cell y c h⟩,e0.hok.fresh (Nat.le_refl _),fun y c h=>?_,fun p hp=>absurd (show p∈([]:List (Addr×Obj))from hp) (by simp),e0.hok.kept hk,?_⟩
 ·exact name_of_addr x.apart (PySem.mem_of_lookup h1) (PySem.mem_of_lookup h2)
 ·have hy:scope.names.lookup y=some .cell\/scope.names.lookup y=some .free:=hy;rcases hy with hy | hy
  ·exact Ye hy
  ·exact absurd rfl (S.nofree _ (PySem.mem_of_lookup hy))
 ·exact Nat.le_of_lt (x.above y c (PySem.mem_of_lookup h))
 ·have hi:i<vs.length:=by
   unfold start at h2;by_cases hi:i<vs.length
   ·exact hi
   ·rw[List.getElem?_append_right (by simpa using hi)]at h2;rw[List.getElem?_replicate]at h2;split at h2<;>cases h2
  have ha:vs[i]?=some v:=by
   unfold start at h2;rw[List.getElem?_append_left (by simpa using hi),List.getElem?_map]at h2;cases e:vs[i]? with
   | none=>rw[e]at h2;cases h2
   | some a=>rw[e]at h2;cases h2;rfl
  obtain⟨u,hu,rv⟩:=r.get ha;have hp:ps[i]?=some y:=by
   rw[<-S.pre,List.getElem?_take_of_lt (by omega)];exact h1
  have ndP:ps.Nodup:=by rw[<-S.pre];exact S.nd.sublist (List.take_sublist _ _)
  refine⟨u,rv,?_⟩;rcases S.par y (List.mem_of_getElem? hp)with k | k
  ·exact .inl ⟨k,Z3 ndP hp hu k⟩
  ·obtain⟨c,e⟩:=Ye (n:=s.heap.objs.size+1) k;refine .inr ⟨.inl k,c,e,?_⟩;have q:=x.cell y c e;rw[Z1 ndP hp hu (by show scope.names.lookup y≠_;rw[k];decide)]at q;exact q
 ·exact e0.hok.fresh (Nat.le_of_lt (x.above y c (PySem.mem_of_lookup h)))
 ·unfold start;show _=N.length;rw[List.length_append,length_map,length_replicate];omega
theorem xM{CX:CXT}{P:Program}{w:World}{K:Frg}{mg:Str->Option Value}{base:Heap}{k:Nat}{f:Addr}{name qual:Str}{params:Arguments}{body:List Stmt}{scope:Scope}{dV kV doc pm cdv ct oc:Value}{an od:Option Addr}
  {osl:Array (Option Value)} {N ps:List Str} {sp:Sp} (lk:K.lookup f=some ⟨oc,od,.func (PySem.W.fnOf name qual params body scope dV kV doc pm an cdv ct),osl⟩) (hcd:PySem.W.codeIn K cdv qual=true) (S:FnScope N ps scope)
  (len:∀vs H Q E,sp vs H Q E->vs.length=ps.length)
  (hbody:∀(A:Around) (outer:List Env) (s:Shared) (H:Hp) (vs:List V) (Q:VK) (E:XK),Room k (A.deeper (envOfC qual scope s.heap.objs.size f cdv))->sp vs H Q E->
   ∃t,PSs (cxOf CX P w K mg base N qual scope f cdv A outer s H E) body t/\t {nx:=fun _ H'=>Q .non H',rt:=Q} (start N vs) H) :
  FnOk P w K mg base CX (k+1) f (PySem.W.fnOf name qual params body scope dV kV doc pm an cdv ct) ps sp:=by
 refine⟨len,fun A outer s H args us vs Q E hr e0 hb r hsp=>?_⟩;have hl:=len _ _ _ _ hsp;have KX:K.In s.heap:=e0.mod.kin.keeps fun b o e=>(e0.bs b o e).1
 have lim:s.heap.NoLimit:=e0.mod.nolimit.keeps fun b o e=>(e0.bs b o e).1
 have hkind:∀y∈ps.zip us,scope.names.lookup y.1=some .local\/(scope.names.lookup y.1=some .cell/\((cellsFrom (s.heap.objs.size+1) scope.names []).lookup y.1).isSome=true):=fun⟨n,v⟩ hy=>by
  rcases S.par n (of_mem_zip hy).1 with q | q
  ·exact .inl q
  ·exact .inr ⟨q,PySem.W.cellsFrom_some _ _ _ (.inl q)⟩
 refine codeAny_call_function hr.depth (KX _ _ lk) rfl S.co S.gen rfl (PySem.W.codeRec_of KX hcd) (hb _ _ _ _ ?_);refine wpAny_newFunctionEnv_cells S.kind hkind fun env he s1 x=>?_
 subst he;refine⟨lim.keeps x.toInCall.keep,codeAny_func ?_⟩;obtain⟨t,ht,hq⟩:=hbody A outer s H vs Q E (hr.deeper _) hsp;have I:Inv (cxOf CX P w K mg base N qual scope f cdv A outer s H E) [] (start N vs) H s1:=Kw S hr.hd e0 hl r x;refine wpAny_mono (ht [] s1 (start N vs) H _ I hq) (fun fl s' hs=>?_) fun e s' hs=>hs
 have fin:∀{σ':St} {H':Hp} {v:V} {u:Value},Inv (cxOf CX P w K mg base N qual scope f cdv A outer s H E) [] σ' H' s'->RelV v u->Q v H'->CE outer P w H s Q u s':=
  fun {σ' H' v u} J rv q=>⟨v,H',J.os,J.bare,J.base,J.hok,rv,q⟩
 cases fl with
 | ret u=>
  obtain⟨v,σ',H',J,rv,q⟩:=hs;exact fin J rv q
 | next=>
  obtain⟨σ',H',J,q⟩:=hs;exact fin (v:=V.non) (u:=Value.none) J rfl q
 | brk=>
  obtain⟨_,_,_,q⟩:=hs;exact False.elim q
 | cont=>
  obtain⟨_,_,_,q⟩:=hs;exact False.elim q
section
variable{X:Cx}{x:Str}{p pos:Pos}{e:Expr}{es:List Expr}{t:TA}{id T:String}{r:List V->Hp->VK->Prop}
def tCB(r:List V->Hp->VK->Prop)(t:TA):TE:=fun σ H Q=>t σ H fun vs H1=>r vs H1 Q
theorem jt(hc:CallR X (.builtin id) r)(hg:Gl X x)(hm:X.mg x=none)(hv:bootBuiltins x=some (.builtin id))(ha:PA X (e::es) t)(hn:x≠"__name__":=by decide)(hdb:(x==("__debug__" : Str))=false:=by decide)
  (he:starEach (e::es) X.env=(false,eval e X.env)::starEach es X.env:=by rfl) (hpl:(backTo pos (starEach es X.env)).any (·.1)=false:=by rfl):PE X (.Call (.Name x p) (e::es) [] pos) (tCB r t):=by
 intro pins s σ H Q I h;refine wpAny_Call_Name_kw (Q3 I hg hm hv ?_ hn hdb);exact PyProof.Rows.callWith_builtin1 (thn (ha pos pins s σ H _ I h) fun us s1 ⟨vs,H1,I1,r1,q1⟩=>hc pins s1 σ H1 vs us Q I1 r1 q1) he hpl
theorem QT(hc:CallR X (.type T) r)(hg:Gl X x)(hm:X.mg x=none)(hv:bootBuiltins x=some (.type T))(ha:PA X (e::es) t)(hn:x≠"__name__":=by decide)(hdb:(x==("__debug__" : Str))=false:=by decide)
  (he:starEach (e::es) X.env=(false,eval e X.env)::starEach es X.env:=by rfl) (hpl:(backTo pos (starEach es X.env)).any (·.1)=false:=by rfl):PE X (.Call (.Name x p) (e::es) [] pos) (tCB r t):=by
 intro pins s σ H Q I h;refine wpAny_Call_Name_kw (Q3 I hg hm hv ?_ hn hdb);exact PyProof.Rows.callWith_type1 (thn (ha pos pins s σ H _ I h) fun us s1 ⟨vs,H1,I1,r1,q1⟩=>hc pins s1 σ H1 vs us Q I1 r1 q1) he hpl
end
end L2
namespace HT
open PySem PyProof.Rows
section
open PySem.SeqAt
open PySem.AutoSeq1 (wpAny_loadPart')
open PySem.MeetsSeq PySem.MeetsSeq2 PySem.MeetsSeq3
end
section
variable{prog:Program}{w:World}{A:Around}{E:Value->Shared->Prop}{s:Shared}
noncomputable def sIx(n d:Nat):Option Int->Nat
 | none=>d
 | some v=>if v<0 then(v+(n:Int)).toNat else min v.toNat n
theorem Zf(n d k:Nat):sIx n d (some (k:Int))=min k n:=by
 show(if(k:Int)<0 then((k:Int)+(n:Int)).toNat else min (k:Int).toNat n)=min k n;rw[if_neg (by omega),Int.toNat_natCast]
theorem xA(n d:Nat)(hd:d<=n)(o:Option Int):sIx n d o<=n:=by
 cases o with
 | none=>exact hd
 | some v=>
  show(if v<0 then(v+(n:Int)).toNat else min v.toNat n)<=n;by_cases hv:v<0
  ·rw[if_pos hv];omega
  ·rw[if_neg hv];exact Nat.min_le_right _ _
theorem kK(v:Int)(n d:Nat):(if v<0 then max (v+(n:Int)) 0 else min v (n:Int))=((sIx n d (some v):Nat):Int):=by
 show(if v<0 then max (v+(n:Int)) 0 else min v (n:Int))=(((if v<0 then(v+(n:Int)).toNat else min v.toNat n):Nat):Int)
 by_cases hv:v<0
 ·simp only[if_pos hv];omega
 ·simp only[if_neg hv];omega
theorem YX(lo hi:Option Int)(n:Nat):Builtin.Slice.sliceAdjust lo hi 1 (n:Int)=(((sIx n 0 lo:Nat):Int),((sIx n n hi:Nat):Int)):=by
 have h1:¬((1:Int)<0):=by omega
 unfold Builtin.Slice.sliceAdjust;simp only[h1,if_false];refine Prod.ext ?_ ?_
 ·cases lo with
  | none=>rfl
  | some v=>exact kK v n 0
 ·cases hi with
  | none=>rfl
  | some v=>exact kK v n n
theorem ku(i j:Nat):Builtin.Slice.slicePlaces (i:Int) (j:Int) 1=j-i:=by
 unfold Builtin.Slice.slicePlaces;have h1:(1:Int)>0:=by omega
 simp only[h1,if_true,Int.ediv_one];split<;>omega
theorem slicePart_{v:Value}{o:Option Int}{Q:Option Int->Shared->Prop}(p:IsPart v o)(h:Q o s):wpAny (model prog w) A (Builtin.Slice.slicePartIndex v) Q E s:=by
 cases p with
 | none=>exact slicePart_none h
 | int i t=>exact slicePart_int h
theorem zM{sl:Addr}{vl vu:Value}{lo hi:Option Int}{n:Nat}{Q:Int×Int×Nat->Shared->Prop}(hs:s.heap.IsSliceOf sl vl vu .none)(pl:IsPart vl lo)(pu:IsPart vu hi)
  (h:Q (((sIx n 0 lo:Nat):Int),1,sIx n n hi-sIx n 0 lo) s):wpAny (model prog w) A (Builtin.Slice.sliceApplied (.ref sl) (pure (n:Int))) Q E s:=by
 obtain⟨os,hos,hcs,hds⟩:=id hs;unfold Builtin.Slice.sliceApplied Builtin.Slice.sliceFields;refine wpAny_bind (wpAny_bind (wpAny_field hos hds (x:=vl) rfl (wpAny_bind (wpAny_field hos hds (x:=vu) rfl (wpAny_bind (wpAny_field hos hds (x:=.none) rfl (wpAny_pure ?_)))))));refine wpAny_bind (slicePart_none ?_);show wpAny _ _ (if((1:Int)==0)=true then _ else _) _ _ s;rw[if_neg (by decide)];refine wpAny_bind (slicePart_ pl (wpAny_bind (slicePart_ pu (wpAny_bind (wpAny_pure ?_)))));show wpAny _ _ (match Builtin.Slice.sliceAdjust lo hi 1 (n:Int)with | (lo,hi)=>pure (lo,(1:Int),Builtin.Slice.slicePlaces lo hi 1)) _ _ s;rw[YX lo hi n];show wpAny _ _ (pure (((sIx n 0 lo:Nat):Int),(1:Int),Builtin.Slice.slicePlaces ((sIx n 0 lo:Nat):Int) ((sIx n n hi:Nat):Int) 1)) _ _ s;rw[ku];exact wpAny_pure h
theorem wB(xs:Array Value)(i k:Nat):((List.range k).filterMap fun(m:Nat)=>xs[((i:Int)+(m:Int)*1).toNat]?).toArray=((xs.toList.drop i).take k).toArray:=by
 have e:(fun(m:Nat)=>xs[((i:Int)+(m:Int)*1).toNat]?)=fun m=>xs[i+m]?:=by
  funext m;have:((i:Int)+(m:Int)*1).toNat=i+m:=by omega
  rw[this]
 rw[e];have:=pick_run xs i k;rw[List.filterMap_map]at this;have e2:((fun x=>xs[x]?)∘fun x=>i+x)=fun m=>xs[i+m]?:=rfl
 rw[e2]at this;rw[this]
theorem zj{t sl:Addr}{items:Array Value}{vl vu:Value}{lo hi:Option Int}{Q:Value->Shared->Prop}(ht:IsTup s.heap t items)(hs:s.heap.IsSliceOf sl vl vu .none)(pl:IsPart vl lo)(pu:IsPart vu hi)
  (hw:¬(sIx items.size 0 lo=0/\sIx items.size items.size hi=items.size))
  (h:Q (.ref s.heap.objs.size) {s with heap:=s.heap.push {cls:=.type "tuple",data:=.seq ((items.toList.drop (sIx items.size 0 lo)).take (sIx items.size items.size hi-sIx items.size 0 lo)).toArray}})
  (hsz:items.size<=sizeLine):wpAny (model prog w) A (getItem (.ref t) (.ref sl)) Q E s:=by
 have htake:sizeOk (.seq ((items.toList.drop (sIx items.size 0 lo)).take (sIx items.size items.size hi-sIx items.size 0 lo)).toArray):=by
  show((items.toList.drop (sIx items.size 0 lo)).take (sIx items.size items.size hi-sIx items.size 0 lo)).toArray.size<=sizeLine;rw[size_toArray,length_take,length_drop,Array.length_toList];omega
 have hj:sIx items.size items.size hi<=items.size:=xA _ _ (Nat.le_refl _) hi;obtain⟨os,hos,hcs,hds⟩:=id hs;have hTs:s.TypeIs (.ref sl) "slice":=⟨os,hos,hcs⟩
 unfold getItem
 try with_reducible refine wpAny_holding ?_
 first | refine wpAny_bind (wpAny_pure ?_) | skip
 refine wpAny_bind (wpAny_sequenceKey ht.typeIs (by decide) ?_);refine wpAny_bind (wpAny_callSpecial?_slot (name:=Str.ofString "__getitem__") ht.typeIs PyProof.Rows.slot_tuple_getitem
  (wpAny_call_entry PyProof.Rows.slot_tuple_getitem ht.typeIs entry_tuple_getitem ?_ (args_tuple_getitem _ _)))
 show wpAny _ _ (Builtin.Tuple.tupleItemsOf (.ref t) >>= _) _ _ s;refine wpAny_bind (tupleItemsOf_ ht ?_);refine wpAny_bind (wpAny_typeOf hTs ?_);rw[if_pos (by decide)];refine wpAny_bind (zM hs pl pu ?_);have hno:¬((((sIx items.size 0 lo:Nat):Int)==0&&(1:Int)==1&&(sIx items.size items.size hi-sIx items.size 0 lo)==items.size)=true):=by
  intro q;rw[Bool.and_eq_true,Bool.and_eq_true]at q;have q1:((sIx items.size 0 lo:Nat):Int)=0:=eq_of_beq q.1.1;have q2:sIx items.size items.size hi-sIx items.size 0 lo=items.size:=eq_of_beq q.2;exact hw ⟨by omega,by omega⟩
 show wpAny _ _ (if(((sIx items.size 0 lo:Nat):Int)==0&&(1:Int)==1&&(sIx items.size items.size hi-sIx items.size 0 lo)==items.size)=true then _ else _) _ _ s;rw[if_neg hno,wB]
 first
  | exact wpAny_bind (m:=Builtin.Tuple.tupleExact _) (wpAny_newObj_type (wpAny_pure ⟨_,rfl,wpAny_pure h⟩) htake)
  | exact wpAny_bind (m:=Builtin.Tuple.tupleExact _) (wpAny_newObj_type (wpAny_bind (wpAny_pure (wpAny_pure ⟨_,rfl,wpAny_pure h⟩))) htake)
  | exact wpAny_bind (wpAny_bind (m:=Builtin.Tuple.tupleExact _) (wpAny_newObj_type (wpAny_pure (wpAny_pure ⟨_,rfl,wpAny_pure h⟩)) htake))
  | exact wpAny_bind (wpAny_bind (m:=Builtin.Tuple.tupleExact _) (wpAny_newObj_type (wpAny_pure ⟨_,rfl,wpAny_pure h⟩) htake))
end
end HT
namespace L2
open PySem PySem.Spec PyProof.Rows
noncomputable abbrev TO:=St->Hp->(Option Int->Hp->Prop)->Prop
def PO(X:Cx)(e:Option Expr)(t:TO):Prop:=
 ∀(pins:List (Addr×Obj)) (s:Shared) (σ:St) (H:Hp) (Q:Option Int->Hp->Prop),Inv X pins σ H s->t σ H Q->
  wpAny (model X.prog X.w) X.A (evalPart e X.env) (fun u s'=>∃o H',Inv X pins σ H' s'/\IsPart u o/\Q o H') X.xe s
def tNoPart:TO:=fun _ H Q=>Q none H
def tPart(t:TE):TO:=fun σ H Q=>t σ H fun x H1=>∃i,x = .int i/\Q (some i) H1
theorem intsAre_of{ns:List Int}:∀{us:List Value},Vals (ns.map V.int) us->IntsAre us ns:=by
 induction ns with
 | nil=>intro us r;rw[map_nil]at r;cases r;exact .nil
 | cons n ns ih=>
  intro us r;rw[map_cons]at r;cases r with
  | cons r1 r2=>
   obtain⟨t,e⟩:=r1;subst e;exact .cons n t (ih r2)
section
variable{X:Cx}{e:Expr}{te:TE}{lo hi:Option Expr}{tl th:TO}{pos p2:Pos}
theorem qT:PO X none tNoPart:=by
 intro pins s σ H Q I h;rw[evalPart_none];exact wpAny_pure ⟨none,H,I,.none,h⟩
theorem JM(h:PE X e te):PO X (some e) (tPart te):=by
 intro pins s σ H Q I hw;rw[evalPart_some];refine thn (h pins s σ H _ I hw) fun u s1 ⟨x,H1,I1,r1,q1⟩=>?_
 obtain⟨i,rfl,q⟩:=q1;obtain⟨t,rfl⟩:=r1;exact⟨some i,H1,I1,.int i t,q⟩
def SlR(X:Cx)(r:V->Option Int->Option Int->Hp->VK->Prop):Prop:=
 ∀(pins:List (Addr×Obj)) (s:Shared) (σ:St) (H:Hp) (x:V) (v vl vu:Value) (lo hi:Option Int) (sl:Addr) (Q:VK),Inv X pins σ H s->RelV x v->s.heap.IsSliceOf sl vl vu .none->IsPart vl lo->IsPart vu hi->r x lo hi H Q->
  ∃T id,typeLookup (.type T) "__getitem__"= pure (some (.builtin id))/\s.TypeIs v T/\wpAny (model X.prog X.w) X.A (getItem v (.ref sl)) (EP X pins σ Q) X.xe s
def tSl(r:V->Option Int->Option Int->Hp->VK->Prop)(te:TE)(tl th:TO):TE:=fun σ H Q=>te σ H fun x H1=>tl σ H1 fun l H2=>th σ H2 fun u H3=>r x l u H3 Q
theorem JJ{r:V->Option Int->Option Int->Hp->VK->Prop}(hr:SlR X r)(he:PE X e te)(hl:PO X lo tl)(hu:PO X hi th):PE X (.Subscript e (.Slice lo hi none p2) pos) (tSl r te tl th):=by
 intro pins s σ H Q I h;refine Subscript_ (thn (he pins s σ H _ I h) fun v s1 ⟨x,H1,I1,r1,q1⟩=>?_);refine wpAny_Slice (thn (hl pins s1 σ H1 _ I1 q1) fun vl s2 ⟨l,H2,I2,pl,q2⟩=>thn (hu pins s2 σ H2 _ I2 q2) fun vu s3 ⟨u,H3,I3,pu,q3⟩=>?_);rw[evalPart_none];refine wpAny_pure ?_;have I4:Inv X pins σ H3 {s3 with heap:=s3.heap.push {cls:=.type "slice",data:=.fields #[vl,vu,.none]}}:=I3.kept (t':=s3.toks) fun b ob q=>Heap.get?_push_of_some _ q
 obtain⟨T,id,hT,ht,hg⟩:=hr pins {s3 with heap:=s3.heap.push {cls:=.type "slice",data:=.fields #[vl,vu,.none]}} σ H3 x v vl vu l u s3.heap.objs.size Q I4 r1 (Heap.IsSliceOf.new ..) pl pu q3;show wpAny (model X.prog X.w) X.A (subscriptTail e (.Slice lo hi none p2) v (.ref s3.heap.objs.size)) (EP X pins σ Q) X.xe {s3 with heap:=s3.heap.push {cls:=.type "slice",data:=.fields #[vl,vu,.none]}};exact tail_any (ops:=[.ref s3.heap.objs.size,v]) ht hT hg (by with_unfolding_all rfl)
noncomputable def cutV(xs:List V)(lo hi:Option Int):List V:=(xs.drop (HT.sIx xs.length 0 lo)).take (HT.sIx xs.length xs.length hi-HT.sIx xs.length 0 lo)
theorem zU(xs:List V)(lo hi:Option Int):(cutV xs lo hi).length<=xs.length:=by
 unfold cutV;rw[length_take,length_drop];omega
noncomputable def rSlT(K:Frg):V->Option Int->Option Int->Hp->VK->Prop:=fun x lo hi H Q=>∃a xs,x = .ref a/\SqT K H a xs/\
 ¬(HT.sIx xs.length 0 lo=0/\HT.sIx xs.length xs.length hi=xs.length)/\∀p,H p=none->Q (.ref p) (upd H p (.tup (cutV xs lo hi)))
theorem xB:SlR X (rSlT X.K):=by
 intro pins s σ H x v vl vu lo hi sl Q I rx hs pl pu h;obtain⟨a,xs,rfl,hx,hw,q⟩:=h;cases rx;obtain⟨its,r,ht,hz⟩:=I.tuple hx;have hlen:its.toArray.size=xs.length:=by rw[size_toArray];exact r.length.symm
 refine⟨"tuple",_,PyProof.Rows.slot_tuple_getitem.lookup,ht.typeIs,?_⟩;refine HT.zj ht hs pl pu (by rw[hlen];exact hw) ?_ (by rw[hlen];exact hz);rw[hlen];refine⟨.ref s.heap.objs.size,_,I.laid (t':=s.toks) (o:=.tup (cutV xs lo hi)) (fun b ob q=>Heap.get?_push_of_some _ q) (Nat.le_refl _) ?_,rfl,q _ (I.hok.fresh (Nat.le_refl _))⟩;exact⟨Nat.le_trans (zU xs lo hi) hz,_,(r.drop (HT.sIx xs.length 0 lo)).take (HT.sIx xs.length xs.length hi-HT.sIx xs.length 0 lo),IsTup.new _ _⟩
end
noncomputable def ixN(n:Nat)(i:Int):Option Nat:=if 0<=i then(if i<n then some i.toNat else none)else if -(n:Int)<=i then some (i+n).toNat else none
noncomputable def atI{α:Type}(xs:List α)(i:Int):Option α:=(ixN xs.length i).bind fun j=>xs[j]?
theorem Wj{n:Nat}{i:Int}{j:Nat}(h:ixN n i=some j):seqIndex? i n=some j/\j<n/\-(n:Int)<=i/\i<n:=by
 unfold ixN at h;by_cases h0:0<=i
 ·rw[if_pos h0]at h;by_cases h1:i<n
  ·rw[if_pos h1]at h;have e:i.toNat=j:=Option.some.inj h;exact⟨by rw[seqIndex_of h0 h1,e],by omega,by omega,h1⟩
  ·rw[if_neg h1]at h;cases h
 ·rw[if_neg h0]at h;by_cases h1 : -(n:Int)<=i
  ·rw[if_pos h1]at h;have e:(i+n).toNat=j:=Option.some.inj h;exact⟨by rw[seqIndex_neg (by omega) h1,e],by omega,h1,by omega⟩
  ·rw[if_neg h1]at h;cases h
theorem yv{α:Type}{xs:List α}{i:Int}{v:α}(h:atI xs i=some v):∃j,seqIndex? i xs.length=some j/\xs[j]?=some v/\j<xs.length/\-(xs.length:Int)<=i/\i<xs.length:=by
 unfold atI at h;cases e:ixN xs.length i with
 | none=>rw[e]at h;cases h
 | some j=>
  rw[e]at h;obtain⟨h1,h2,h3,h4⟩:=Wj e;exact⟨j,h1,h,h2,h3,h4⟩
theorem qh{α:Type}{xs:List α}{j:Nat}{v:α}(h:xs[j]?=some v):atI xs (j:Int)=some v:=by
 have hj:j<xs.length:=(List.getElem?_eq_some_iff.mp h).1;have e:ixN xs.length (j:Int)=some j:=by
  unfold ixN;rw[if_pos (by omega),if_pos (by omega)];simp
 unfold atI;rw[e];exact h
def PlainIx(b:Expr):Prop:=∀o i,subscripted b false o i=operate [o,i] (getItem o i)
def IxR(X:Cx)(r:R2):Prop:=
 ∀(value slice:Expr) (pins:List (Addr×Obj)) (s:Shared) (σ:St) (H:Hp) (x y:V) (v u:Value) (Q:VK),Inv X pins σ H s->RelV x v->RelV y u->r x y H Q->
  subscripted slice false v u=operate [v,u] (getItem v u)->wpAny (model X.prog X.w) X.A (subscriptTail value slice v u) (EP X pins σ Q) X.xe s
def MtR(X:Cx)(id:String)(r:V->List V->Hp->VK->Prop):Prop:=
 ∀(pins:List (Addr×Obj)) (s:Shared) (σ:St) (H:Hp) (x:V) (xs:List V) (v:Value) (us:List Value) (Q:VK),Inv X pins σ H s->RelV x v->Vals xs us->r x xs H Q->
  wpAny (model X.prog X.w) X.A (call (.builtin id) (v::us)) (EP X pins σ Q) X.xe s
section
variable{X:Cx}{a b:Expr}{ta tb:TE}{pos:Pos}
theorem ji{r:R2}(hr:IxR X r)(ha:PE X a ta)(hb:PE X b tb)(hs:PlainIx b:=by exact fun _ _=>rfl):PE X (.Subscript a b pos) (tOp r ta tb):=by
 intro pins s σ H Q I h;exact Subscript_ (binT ha hb I h fun v u s2 x y H2 I2 rx ry q=>hr a b pins s2 σ H2 x y v u Q I2 rx ry q (hs _ _))
def rIxL(K:Frg):R2:=fun x y H Q=>∃p xs i v,x = .ref p/\y = .int i/\SqL K H p xs/\atI xs i=some v/\Q v H
def rIxT(K:Frg):R2:=fun x y H Q=>∃p xs i v,x = .ref p/\y = .int i/\SqT K H p xs/\atI xs i=some v/\Q v H
def rIxS:R2:=fun x y H Q=>∃z i c,x = .str z/\y = .int i/\z.length<=sizeLine/\atI z.cps.toList i=some c/\Q (.str ⟨#[c]⟩) H
theorem jq:IxR X (rIxL X.K):=by
 intro value slice pins s σ H x y v u Q I rx ry h hs;obtain⟨p,xs,i,z,rfl,rfl,hq,he,q⟩:=h;cases rx;obtain⟨t,rfl⟩:=ry;obtain⟨its,r,pl,hz⟩:=I.list hq;obtain⟨j,h1,h2,h3,h4,h5⟩:=yv he;obtain⟨w,ew,rw'⟩:=r.get h2;have hl:=r.length;have hn:=line63;have fin:EP X pins σ Q w s:=⟨z,H,I,rw',q⟩
 by_cases h0:0<=i
 ·have hj:i.toNat=j:=by
   rw[seqIndex_of h0 h5]at h1;exact Option.some.inj h1
  exact item_listR pl.isList h0 (by omega) (by rw[hj];simpa using ew) fin hs
 ·have hj:(i+(its.toArray.size:Int)).toNat=j:=by
   rw[seqIndex_neg (by omega) h4]at h1;rw[size_toArray,<-hl];exact Option.some.inj h1
  exact subscriptTail_builtinR (x:=w) pl.isList.typeIs slot_list_getitem.lookup
   (wpAny_getItem_list_neg (Q:=fun r s'=>r=w/\EP X pins σ Q r s') pl.isList (by omega) (by rw[size_toArray]<;>omega) (by omega) (by rw[hj];simpa using ew) ⟨rfl,fin⟩) hs
theorem jr:IxR X (rIxT X.K):=by
 intro value slice pins s σ H x y v u Q I rx ry h hs;obtain⟨p,xs,i,z,rfl,rfl,hq,he,q⟩:=h;cases rx;obtain⟨t,rfl⟩:=ry;obtain⟨its,r,pl,hz⟩:=I.tuple hq;obtain⟨j,h1,h2,h3,h4,h5⟩:=yv he;obtain⟨w,ew,rw'⟩:=r.get h2;have hl:=r.length;have hn:=line63;have fin:EP X pins σ Q w s:=⟨z,H,I,rw',q⟩
 exact subscriptTail_builtinR (x:=w) pl.typeIs slot_tuple_getitem.lookup
  (getItem_tuple (j:=j) (Q:=fun r s'=>r=w/\EP X pins σ Q r s') pl (by omega) (by omega) (by rw[size_toArray,<-hl];exact h1) (by simpa using ew) ⟨rfl,fin⟩) hs
theorem Y6:IxR X rIxS:=by
 intro value slice pins s σ H x y v u Q I rx ry h hs;obtain⟨z,i,c,rfl,rfl,hz,he,q⟩:=h;obtain⟨t,rfl⟩:=rx;obtain⟨t',rfl⟩:=ry;obtain⟨j,h1,h2,h3,h4,h5⟩:=yv he;have hl:z.cps.toList.length=z.length:=by simp[Str.length]
 rw[hl]at h1 h4 h5;have hn:=line63;exact tail_any (typeIs_str s z t) slot_str_getitem.lookup (getItem_str (c:=c) (by
  have e1:decide (i < -(2^63:Int))=false:=decide_eq_false (by omega);have e2:decide (i>=2^63)=false:=decide_eq_false (by omega);rw[e1,e2,Bool.or_false]) (by rw[h1];simpa using h2) ⟨.str ⟨#[c]⟩,H,I.tok _,⟨_,rfl⟩,q⟩) hs
theorem y3(lo hi:Option Int)(n:Nat):(sliceBounds lo hi none n).1=((HT.sIx n 0 lo:Nat):Int)/\(sliceBounds lo hi none n).2.1=((HT.sIx n n hi:Nat):Int)/\(sliceBounds lo hi none n).2.2=1:=by
 refine⟨?_,?_,rfl⟩
 ·cases lo with
  | none=>simp[sliceBounds,HT.sIx]
  | some i=>
   simp only[sliceBounds,HT.sIx,Option.getD_none,show(1:Int)>0 by decide,if_true];by_cases h:i<0
   ·simp only[h,if_true]<;>omega
   ·simp only[h,if_false]<;>omega
 ·cases hi with
  | none=>simp[sliceBounds,HT.sIx]
  | some i=>
   simp only[sliceBounds,HT.sIx,Option.getD_none,show(1:Int)>0 by decide,if_true];by_cases h:i<0
   ·simp only[h,if_true]<;>omega
   ·simp only[h,if_false]<;>omega
theorem ZY(its:List Value)(lo hi:Option Int):slicePick its.toArray lo hi none=((its.drop (HT.sIx its.length 0 lo)).take (HT.sIx its.length its.length hi-HT.sIx its.length 0 lo)).toArray:=by
 obtain⟨h1,h2,h3⟩:=y3 lo hi its.toArray.size;unfold slicePick;rw[h1,h2,h3];simp only[sliceRange_one,pick_run,size_toArray]<;>rfl
noncomputable def rSlL(K:Frg):V->Option Int->Option Int->Hp->VK->Prop:=fun x lo hi H Q=>∃a xs,x = .ref a/\SqL K H a xs/\∀p,H p=none->Q (.ref p) (upd H p (.lst (cutV xs lo hi)))
theorem zw:SlR X (rSlL X.K):=by
 intro pins s σ H x v vl vu lo hi sl Q I rx hs pl pu h;obtain⟨a,xs,rfl,hx,q⟩:=h;cases rx;obtain⟨its,r,ht,hz⟩:=I.list hx;have hlen:=r.length;refine⟨"list",_,slot_list_getitem.lookup,ht.isList.typeIs,?_⟩;refine wpAny_getItem_list_slice ht.isList hs pl pu .none (by simp) ?_ (by rw[size_toArray]<;>omega);rw[ZY,<-hlen];refine⟨.ref s.heap.objs.size,_,I.laid (t':=s.toks) (o:=.lst (cutV xs lo hi)) (fun b ob q=>Heap.get?_push_of_some _ q) (Nat.le_refl _) ?_,rfl,q _ (I.hok.fresh (Nat.le_refl _))⟩;exact⟨Nat.le_trans (zU xs lo hi) hz,_,0,(r.drop (HT.sIx xs.length 0 lo)).take (HT.sIx xs.length xs.length hi-HT.sIx xs.length 0 lo),Heap.get?_push_size _ rfl⟩
noncomputable def flatV:V->Bool
 | .non=>true
 | .bl _=>true
 | .int _=>true
 | .str _=>true
 | _=>false
noncomputable def eqV:V->V->Bool
 | .non,.non=>true
 | .bl a,.bl b=>a==b
 | .bl a,.int b=>(if a then 1 else 0)==b
 | .int a,.bl b=>a==(if b then 1 else 0)
 | .int a,.int b=>a==b
 | .str a,.str b=>a==b
 | _,_=>false
theorem W5{A:Around}{s:Shared}{y x:V}{u v:Value}(ry:RelV y u)(rx:RelV x v)(fy:flatV y=true)(fx:flatV x=true):SeqAt.EqAt A s u v (eqV y x):=by
 cases y with
 | non=>
  cases ry;cases x with
  | non=>cases rx;exact SeqAt.EqAt.same _
  | bl b=>cases rx;exact SeqAt.EqAt.none_bool b
  | int b=>obtain⟨t,rfl⟩:=rx;exact SeqAt.EqAt.none_int b t
  | str b=>obtain⟨t,rfl⟩:=rx;exact SeqAt.EqAt.none_str b t
  | _=>exact absurd (show false=true from fx) Bool.false_ne_true
 | bl a=>
  cases ry;cases x with
  | non=>cases rx;exact SeqAt.EqAt.bool_none a
  | bl b=>cases rx;exact SeqAt.EqAt.bool_bool a b
  | int b=>obtain⟨t,rfl⟩:=rx;exact SeqAt.EqAt.bool_int a b t
  | str b=>obtain⟨t,rfl⟩:=rx;exact SeqAt.EqAt.bool_str a b t
  | _=>exact absurd (show false=true from fx) Bool.false_ne_true
 | int a=>
  obtain⟨t',rfl⟩:=ry;cases x with
  | non=>cases rx;exact SeqAt.EqAt.int_none a t'
  | bl b=>cases rx;exact SeqAt.EqAt.int_bool a t' b
  | int b=>obtain⟨t,rfl⟩:=rx;exact SeqAt.EqAt.int_int a t' b t
  | str b=>obtain⟨t,rfl⟩:=rx;exact SeqAt.EqAt.int_str a t' b t
  | _=>exact absurd (show false=true from fx) Bool.false_ne_true
 | str a=>
  obtain⟨t',rfl⟩:=ry;cases x with
  | non=>cases rx;exact SeqAt.EqAt.str_none a t'
  | bl b=>cases rx;exact SeqAt.EqAt.str_bool a t' b
  | int b=>obtain⟨t,rfl⟩:=rx;exact SeqAt.EqAt.str_int a t' b t
  | str b=>obtain⟨t,rfl⟩:=rx;exact SeqAt.EqAt.str_str a t' b t
  | _=>exact absurd (show false=true from fx) Bool.false_ne_true
 | _=>exact absurd (show false=true from fy) Bool.false_ne_true
noncomputable def eqU(x:V)(u:Value):Bool:=match u with
 | .none=>eqV .non x
 | .bool b=>eqV (.bl b) x
 | .int i _=>eqV (.int i) x
 | .str z _=>eqV (.str z) x
 | _=>false
theorem yF{x y:V}{u:Value}(r:RelV y u)(f:flatV y=true):eqU x u=eqV y x:=by
 cases y with
 | non=>cases r;rfl
 | bl b=>cases r;rfl
 | int i=>obtain⟨t,rfl⟩:=r;rfl
 | str z=>obtain⟨t,rfl⟩:=r;rfl
 | _=>exact absurd (show false=true from f) Bool.false_ne_true
theorem ze{x:V}:∀{xs:List V} {us:List Value},Vals xs us->xs.all flatV=true->us.any (eqU x)=xs.any fun y=>eqV y x
 | _,_,.nil,_=>rfl
 | y::xs,u::us,.cons r t,f=>by
  rw[all_cons,Bool.and_eq_true]at f;rw[any_cons,any_cons,yF r f.1,ze t f.2]
theorem Qj{A:Around}{s:Shared}{x:V}{v:Value}(rx:RelV x v)(fx:flatV x=true):∀{xs:List V} {us:List Value},Vals xs us->xs.all flatV=true->∀u∈us,SeqAt.EqAt A s u v (eqU x u)
 | _,_,.nil,_=>fun u hu=>by cases hu
 | y::xs,u::us,.cons r t,f=>fun u' hu=>by
  rw[all_cons,Bool.and_eq_true]at f;rcases mem_cons.mp hu with rfl | hu
  ·rw[yF r f.1];exact W5 r rx f.1 fx
  ·exact Qj rx fx t f.2 u' hu
noncomputable def inV(x:V)(xs:List V):Bool:=xs.any fun y=>eqV y x
def rIn(K:Frg)(neg:Bool):R2:=fun x y H Q=>∃p xs,y = .ref p/\(SqL K H p xs\/SqT K H p xs)/\flatV x=true/\xs.all flatV=true/\Q (.bl (if neg then !inV x xs else inV x xs)) H
theorem KF:OpR X (compareOp .In) (rIn X.K false):=by
 intro pins s σ H x y v u Q I rx ry h;obtain⟨p,xs,rfl,hq,fx,fs,q⟩:=h;cases ry;rcases hq with hq | hq
 ·obtain⟨its,r,pl,hz⟩:=I.list hq;refine SeqAt.in_listAt (eqU x) pl.isList (fun w hw=>Qj rx fx r fs w (by simpa using hw)) ⟨.bl _,H,I,rfl,?_⟩;rw[show its.toArray.any (eqU x)=its.any (eqU x) by simp,ze r fs];exact q
 ·obtain⟨its,r,pl,hz⟩:=I.tuple hq;refine SeqAt.in_tupleAt (eqU x) pl (fun w hw=>Qj rx fx r fs w (by simpa using hw)) ⟨.bl _,H,I,rfl,?_⟩;rw[show its.toArray.any (eqU x)=its.any (eqU x) by simp,ze r fs];exact q
theorem yU:OpR X (compareOp .NotIn) (rIn X.K true):=by
 intro pins s σ H x y v u Q I rx ry h;obtain⟨p,xs,rfl,hq,fx,fs,q⟩:=h;cases ry;rcases hq with hq | hq
 ·obtain⟨its,r,pl,hz⟩:=I.list hq;refine SeqAt.notIn_listAt (eqU x) pl.isList (fun w hw=>Qj rx fx r fs w (by simpa using hw)) ⟨.bl _,H,I,rfl,?_⟩;rw[show its.toArray.any (eqU x)=its.any (eqU x) by simp,ze r fs];exact q
 ·obtain⟨its,r,pl,hz⟩:=I.tuple hq;refine SeqAt.notIn_tupleAt (eqU x) pl (fun w hw=>Qj rx fx r fs w (by simpa using hw)) ⟨.bl _,H,I,rfl,?_⟩;rw[show its.toArray.any (eqU x)=its.any (eqU x) by simp,ze r fs];exact q
theorem ZP:CallR X (.type "tuple") (fun xs H Q=>∃p ys,xs=[.ref p]/\((SqL X.K H p ys/\∀l,H l=none->Q (.ref l) (upd H l (.tup ys)))\/(SqT X.K H p ys/\Q (.ref p) H))):=by
 intro pins s σ H xs us Q I r h;obtain⟨p,ys,rfl,h⟩:=h;obtain⟨u,rfl,rx⟩:=vals1 r;cases rx;rcases h with⟨hq,q⟩ | ⟨hq,q⟩
 ·obtain⟨its,r',pl,hz⟩:=I.list hq;have hlen:=r'.length;refine call_tuple_list pl.isList (fun h' kp=>?_) (by simp only[size_toArray]<;>omega);have I1:Inv X pins σ H {s with heap:=h'}:=I.kept (t':=s.toks) kp;have I2:Inv X pins σ (upd H h'.objs.size (.tup ys)) {s with heap:=h'.push {cls:=.type "tuple",data:=.seq its.toArray}}:=
   I1.laid (t':=s.toks) (fun b o e=>Heap.get?_push_of_some _ e) (Nat.le_refl _) (show ObjOk X.prog X.w _ _ _ (.tup ys)from⟨hz,its,r',IsTup.new _ _⟩)
  exact⟨.ref h'.objs.size,_,I2,rfl,q _ (I1.hok.fresh (Nat.le_refl _))⟩
 ·obtain⟨its,r',pl,hz⟩:=I.tuple hq;exact call_tuple_same pl ⟨.ref p,H,I,rfl,q⟩
def tyV(K:Frg)(T:String)(x:V)(H:Hp):Prop:=match x with
 | .str _=>T = "str"
 | .int _=>T = "int"
 | .ref p=>(T = "list"/\∃xs,SqL K H p xs)\/(T = "tuple"/\∃o,K.lookup p=some o/\o.cls = .type "tuple"/\o.dict=none)\/
   (T = "dict"/\((∃kvs,H p=some (.dK kvs))\/∃kvs,H p=some (.dT kvs)))\/(T = "set"/\∃S n,H p=some (.set S n))
 | _=>False
theorem wX{pins:List (Addr×Obj)}{σ:St}{H:Hp}{s:Shared}{T:String}{x:V}{v:Value}(I:Inv X pins σ H s)(r:RelV x v)(ty:tyV X.K T x H) :
  s.TypeIs v T/\∀a,v = .ref a->∃ob,s.heap.get? a=some ob/\ob.dict=none:=by
 cases x with
 | str z=>
  obtain⟨t,rfl⟩:=r;cases(show T = "str" from ty);exact⟨typeIs_str s z t,fun _ e=>nomatch e⟩
 | int i=>
  obtain⟨t,rfl⟩:=r;cases(show T = "int" from ty);exact⟨typeIs_int s i t,fun _ e=>nomatch e⟩
 | ref p=>
  cases r;rcases ty with⟨rfl,xs,hq⟩ | ⟨rfl,o,hk,hc,hd⟩ | ⟨rfl,hk⟩ | ⟨rfl,S,n,hk⟩
  ·obtain⟨its,_,pl,_⟩:=I.list hq;refine⟨pl.isList.typeIs,fun a e=>?_⟩;cases e;obtain⟨o,n,e,c,hd,_⟩:=pl;exact⟨o,e,hd⟩
  ·refine⟨⟨o,I.kIn p o hk,hc⟩,fun a e=>?_⟩;cases e;exact⟨o,I.kIn _ o hk,hd⟩
  ·have z:∃o,s.heap.get? p=some o/\o.ExactDict:=by
    rcases hk with⟨kvs,hk⟩ | ⟨kvs,hk⟩
    ·obtain⟨_,_,_,_,o,_,_,e,ex,_⟩:=I.hok p _ hk;exact⟨o,e,ex⟩
    ·obtain⟨_,_,_,_,o,_,_,e,ex,_⟩:=I.hok p _ hk;exact⟨o,e,ex⟩
   obtain⟨o,e,ex⟩:=z;refine⟨⟨o,e,ex.1⟩,fun a e2=>?_⟩;cases e2;exact⟨o,e,ex.2.1⟩
  ·obtain⟨o,_,_,_,e,ex,_⟩:=I.hok p _ hk;refine⟨⟨o,e,ex.1⟩,fun a e2=>?_⟩;cases e2;exact⟨o,e,ex.2.1⟩
 | _=>exact False.elim ty
def tBM0(K:Frg)(T:String)(r:V->List V->Hp->VK->Prop)(to:TE):TE:=fun σ H Q=>to σ H fun x H1=>tyV K T x H1/\r x [] H1 Q
def tBM(K:Frg)(T:String)(r:V->List V->Hp->VK->Prop)(to:TE)(t:TA):TE:=fun σ H Q=>to σ H fun x H1=>tyV K T x H1/\t σ H1 fun xs H2=>r x xs H2 Q
variable{o e:Expr}{es:List Expr}{to:TE}{t:TA}{name:Str}{apos cpos:Pos}{T id:String}{r:V->List V->Hp->VK->Prop}
theorem xu(pa:PlainAttrs T)(slot:Slot T name id)(hty:typeOf (.builtin id)=pure (.type "method_descriptor"))(hm:MtR X id r)(ho:PE X o to)
  (hbase:attributeBase o name X.env (eval o X.env)=eval o X.env:=by rfl) (hline:(apos.endLine==cpos.line)=true:=by rfl):PE X (.Call (.Attribute o name apos) [] [] cpos) (tBM0 X.K T r to):=by
 intro pins s σ H Q I h;refine wpAny_Call_method0_late hbase hline (thn (ho pins s σ H _ I h) fun v s1 ⟨x,H1,I1,r1,ty,q1⟩=>?_);obtain⟨h1,h2⟩:=wX I1 r1 ty;exact⟨T,id,pa,slot,hty,h1,h2,Calls.callWith_builtin rfl (PySem.evalArgs_none (hm pins s1 σ H1 x [] v [] Q I1 r1 .nil q1))⟩
theorem qx(pa:PlainAttrs T)(slot:Slot T name id)(hty:typeOf (.builtin id)=pure (.type "method_descriptor"))(hm:MtR X id r)(ho:PE X o to)(ha:PA X (e::es) t)
  (hbase:attributeBase o name X.env (eval o X.env)=eval o X.env:=by rfl)
  (hfew:((backTo cpos (starEach (e::es) X.env)).all (fun x=>!x.1)&&(backToKw cpos (keywordEach [] X.env)).all (fun x=>x.1.isSome)
   && decide ((e::es).length+([]:List Keyword).length+(if([]:List Keyword).isEmpty then 0 else 1)<30))=true:=by rfl)
  (hline:(apos.endLine==cpos.line)=true:=by rfl) (hs:starEach (e::es) X.env=(false,eval e X.env)::starEach es X.env:=by rfl) (hplain:(backTo cpos (starEach es X.env)).any (·.1)=false:=by rfl) :
  PE X (.Call (.Attribute o name apos) (e::es) [] cpos) (tBM X.K T r to t):=by
 intro pins s σ H Q I h;refine wpAny_Call_method_late hbase hfew hline rfl (thn (ho pins s σ H _ I h) fun v s1 ⟨x,H1,I1,r1,ty,q1⟩=>?_);obtain⟨h1,h2⟩:=wX I1 r1 ty;refine⟨T,id,pa,slot,hty,h1,h2,?_⟩;have hA:=ha cpos pins s1 σ H1 _ I1 q1;rw[hs]at hA|-;refine Calls.callWith_builtin (by show(false||(backTo cpos (starEach es X.env)).any (·.1))=false;rw[hplain]<;>rfl) (Calls.evalArgs_plain ?_);exact thn hA fun us s2 ⟨vs,H2,I2,r2,q2⟩=>hm pins s2 σ H2 x vs v us Q I2 r1 r2 q2
end
def MtM(X:Cx)(id:String)(r:V->List V->Hp->VK->Prop):Prop:=
 ∀(pins:List (Addr×Obj)) (s:Shared) (σ:St) (H:Hp) (x:V) (xs:List V) (v:Value) (us:List Value) (Q:VK),Inv X pins σ H s->RelV x v->Vals xs us->r x xs H Q->
  wpAny (model X.prog X.w) X.A (call (.builtin id) (v::us)) (EP X pins σ Q) X.xe s
theorem Vals.one:∀{x:V} {us:List Value},Vals [x] us->∃u,us=[u]/\RelV x u
 | _,_,.cons r .nil=>⟨_,rfl,r⟩
theorem Vals.zero:∀{us:List Value},Vals [] us->us=[]
 | _,.nil=>rfl
theorem Vals.rep{xs:List V}{us:List Value}(h:Vals xs us):∀k:Nat,Vals (List.replicate k xs).flatten (List.replicate k us).flatten
 | 0=>.nil
 | k+1=>by
  rw[replicate_succ,replicate_succ,flatten_cons,flatten_cons];exact Vals.append h (Vals.rep h k)
theorem yc(its:List Value):∀(k:Nat) (acc:List Value),
  List.foldl (fun x1 x2=>x1++x2) acc.toArray (List.replicate k its.toArray)=(acc++(List.replicate k its).flatten).toArray
 | 0,acc=>by simp
 | k+1,acc=>by
  have e:acc.toArray++its.toArray=(acc++its).toArray:=by simp
  have e2:(acc++its)++(List.replicate k its).flatten=acc++(List.replicate (k+1) its).flatten:=by
   rw[replicate_succ,flatten_cons,List.append_assoc]
  rw[<-e2,<-yc its k (acc++its),<-e,replicate_succ,List.foldl_cons]
section
variable{X:Cx}{pins:List (Addr×Obj)}{σ:St}{H:Hp}{s:Shared}{l b:Addr}{xs ys zs:List V}
theorem Inv.lset{its its':List Value}{n:Nat}{f:Array Value->Array Value}{t':Nat}(I:Inv X pins σ H s)(hH:H l=some (.lst xs))
  (e:s.heap.get? l=some {cls:=.type "list",data:=.seq its.toArray n}) (hf:f its.toArray=its'.toArray) (hv:Vals ys its') (hz:ys.length<=sizeLine) :
  Inv X pins σ (upd H l (.lst ys)) {s with heap:=s.heap.update l (Obj.mapSeq f),toks:=t'}:=by
 have q:=PySem.IsL.update e f;rw[hf]at q;refine I.write (x:=l) (e:=l) (by rw[hH];exact trivial) (.inl rfl) (fun b' u hb hu=>(Heap.get?_update_other s.heap (Obj.mapSeq f) (Ne.symm hb)).trans hu) ⟨_,q⟩ ?_;exact⟨hz,its',_,hv,q⟩
theorem Inv.lnew{its:List Value}{t':Nat}(I:Inv X pins σ H s)(hv:Vals ys its)(hz:ys.length<=sizeLine) :
  Inv X pins σ (upd H s.heap.objs.size (.lst ys)) {s with heap:=s.heap.push {cls:=.type "list",data:=.seq its.toArray},toks:=t'}:=
 I.laid (fun _ _ q=>Heap.get?_push_of_some _ q) (Nat.le_refl _) ⟨hz,its,0,hv,Heap.get?_push_size _ rfl⟩
theorem Inv.fresh(I:Inv X pins σ H s):H s.heap.objs.size=none:=I.hok.fresh (Nat.le_refl _)
theorem Inv.lstM(I:Inv X pins σ H s)(hH:H l=some (.lst xs)):xs.length<=sizeLine/\∃(its:List Value) (n:Nat),Vals xs its/\xs.length=its.length/\s.heap.get? l=some {cls:=.type "list",data:=.seq its.toArray n}:=by
 obtain⟨z,its,n,r,e⟩:=I.hok l _ hH;exact⟨z,its,n,r,r.length,e⟩
theorem notLongL{n:Nat}(h:n<=sizeLine):Builtin.List.listTooLong n=false:=by
 unfold Builtin.List.listTooLong;exact decide_eq_false (by omega)
end
section
variable{X:Cx}
noncomputable def rAppend:V->List V->Hp->VK->Prop:=fun x vs H Q=>∃l xs y,x = .ref l/\vs=[y]/\H l=some (.lst xs)/\xs.length<sizeLine/\Q .non (upd H l (.lst (xs++[y])))
theorem jR:MtM X "list.append" rAppend:=by
 intro pins s σ H x vs v us Q I rx rv h;obtain⟨l,xs,y,rfl,rfl,hH,hz,q⟩:=h;cases rx;obtain⟨u,rfl,ru⟩:=rv.one;obtain⟨z,its,n,r,hl,e⟩:=I.lstM hH;refine call_meets F.slot_list_append ⟨_,e,rfl⟩ F.entry_list_append (F.args_list_append_2 _ _) (PySem.list_append l its.toArray n u (by rw[size_toArray];omega)) ⟨e,?_⟩;refine⟨.non,_,I.lset (its':=its++[u]) hH e (by simp) (r.append (.cons ru .nil)) ?_,rfl,q⟩;rw[List.length_append,List.length_singleton];omega
def rCat:R2:=fun x y H Q=>∃l b xs zs,x = .ref l/\y = .ref b/\H l=some (.lst xs)/\H b=some (.lst zs)/\xs.length+zs.length<=sizeLine/\∀p,H p=none->Q (.ref p) (upd H p (.lst (xs++zs)))
theorem yT:OpR X (binaryOp .Add) rCat:=by
 intro pins s σ H x y v u Q I rx ry h;obtain⟨l,b,xs,zs,rfl,rfl,hH,hB,hz,q⟩:=h;cases rx;cases ry;obtain⟨z,its,n,r,hl,e⟩:=I.lstM hH;obtain⟨z2,its2,n2,r2,hl2,e2⟩:=I.lstM hB;refine PySem.P.add_list e e2 ?_ (by rw[size_toArray,size_toArray];omega);have ea:its.toArray++its2.toArray=(its++its2).toArray:=by simp
 rw[ea];exact⟨.ref _,_,I.lnew (t':=s.toks) (r.append r2) (by rw[List.length_append];omega),rfl,q _ I.fresh⟩
def rRep:R2:=fun x y H Q=>∃l k xs,x = .ref l/\y = .int k/\H l=some (.lst xs)/\-(2^63)<=k/\k<2^63/\xs.length*k.toNat<=sizeLine/\
 ∀p,H p=none->Q (.ref p) (upd H p (.lst (List.replicate k.toNat xs).flatten))
theorem Wl{α:Type}(xs:List α)(k:Nat):(List.replicate k xs).flatten.length=k*xs.length:=by
 induction k with
 | zero=>simp
 | succ k ih=>rw[replicate_succ,flatten_cons,List.length_append,ih,Nat.succ_mul,Nat.add_comm]
theorem xt:OpR X (binaryOp .Mult) rRep:=by
 intro pins s σ H x y v u Q I rx ry h;obtain⟨l,k,xs,rfl,rfl,hH,h1,h2,hz,q⟩:=h;cases rx;obtain⟨t,rfl⟩:=ry;obtain⟨z,its,n,r,hl,e⟩:=I.lstM hH;have hlen:its.toArray.size*k.toNat<=sizeLine:=by rw[size_toArray,<-hl];exact hz
 have hcap:¬its.toArray.size*k.toNat>(2^63-1)/8:=by
  have:(sizeLine:Nat)<=(2^63-1)/8:=by decide
  omega
 have hfit:¬(!Builtin.List.listFitsIndex k)=true:=by
  rw[fitsIndex_both h1 h2];exact Bool.false_ne_true
 have hlong:¬Builtin.List.listTooLong (its.toArray.size*k.toNat)=true:=by
  rw[notLongL hlen];exact Bool.false_ne_true
 have hnew:List.foldl (fun x1 x2=>x1++x2) #[] (List.replicate (if its.toArray.isEmpty=true then 0 else k.toNat) its.toArray)=(List.replicate k.toNat its).flatten.toArray:=by
  have f0:∀m:Nat,List.foldl (fun x1 x2=>x1++x2) #[] (List.replicate m its.toArray)=(List.replicate m its).flatten.toArray:=fun m=>by
   have:=yc its m [];rw[List.nil_append]at this;exact this
  rw[f0];cases its with
  | nil=>simp
  | cons a r'=>rw[if_neg (by simp)]
 refine wpAny_binaryOp_repeat_ref (T:="list") (U:="int") (by decide) ⟨_,e,rfl⟩ (fun s'=>typeIs_int s' k t) noFill_list_mul F.fills_int_mul F.slot_int_rmul repeat_list F.slot_int_index.lookup
  (call_meets F.slot_int_rmul (typeIs_int s k t) F.entry_int_rmul (F.args_int_rmul_2 _ _) (int___rmul___int_list k t l its.toArray n)
   ⟨e,rfl,⟨_,e,rfl⟩,call_meets F.slot_list_mul ⟨_,e,rfl⟩ F.entry_list_mul (F.args_list_mul_2 _ _) (AutoListH.list___mul___list_int_3 l its.toArray n k t hfit hcap hlong) ⟨e,?_⟩⟩)
 rw[hnew];exact⟨.ref _,_,I.lnew (t':=s.toks) (r.rep k.toNat) (by rw[Wl,Nat.mul_comm];exact hz),rfl,q _ I.fresh⟩
end
section
variable{prog:Program}{w:World}{A:Around}{E:Value->Shared->Prop}{s:Shared}
end
section
variable{X:Cx}
end
end L2
namespace Att
open PySem PySem.W PySem.Calls PyProof.Rows
theorem zV{P:Params}{h:Heap}:∀(ns:List Int) (vs:List Value),WellAll P h vs (ns.map WData.int)->IntsAre vs ns:=by
 intro ns
 induction ns with
 | nil=>
  intro vs w;rw[map_nil]at w;cases w;exact .nil
 | cons n ns ih=>
  intro vs w;rw[map_cons]at w;cases w with
  | cons a b=>
   cases a;exact .cons _ _ (ih _ b)
theorem KK{l:OpenLaw}{n:Nat}(hn:l.most=some n){P:Params}{h:Heap}{args:List WData}{vals:List Value}
  (hpre:l.row.toRowW.claim.pre args=true) (hwl:WellAll P h vals args) :
  ∃a vs ns,vals=[Value.ref a]/\args=[WData.list (ns.map WData.int)]/\h.get? a=some {cls:=.type "list",data:=.seq vs.toArray}/\IntsAre vs ns/\ns.length<=n:=by
 have hsh:WShape.hasAll [] args [.list .int]=true:=(pre_splitW hpre).1;have hc:l.pre.holds [] {args:=args}=true:=(pre_splitW hpre).2;obtain⟨d,r,rfl,h1,h2⟩:=hasAllW_cons hsh;obtain rfl:=hasAllW_nil h2;obtain⟨xs,rfl,h3⟩:=hasW_list h1;obtain⟨ns,rfl⟩:=items_int h3;have hlen:ns.length<=n:=by
  unfold OpenLaw.pre at hc;have h4:(WTm.not (.lt (.lit (.int (n:Int))) (.len (.arg 0)))).holds [] {args:=[.list (ns.map .int)]}=true:=by
   have h4:=(holds_andW hc).1;rw[hn]at h4;exact h4
  have h5:=condW_of h4 (w_not (w_lt w_lit (w_len_list (w_arg rfl))));rw[length_map]at h5;refine Nat.le_of_not_lt fun q=>?_
  have q':(n:Int)<((ns.length:Nat):Int):=by omega
  first
   | (rw[decide_eq_true q']at h5;exact absurd h5 (by decide))
   | (simp at h5;omega)
 cases hwl with
 | cons w1 w2=>
  cases w2;cases w1 with
  | list ho hall=>exact⟨_,_,ns,rfl,rfl,ho,zV ns _ hall,hlen⟩
theorem KG(l:OpenLaw)(args:List WData):l.row.toRowW.claim.post args (.bool true) args=true:=
 postW_of (r:=l.row.toRowW) (X:=(true==true))
  (show WShape.has [] (.bool true) .bool=true by first | rfl | decide | simp[WShape.has,WShape.arms,WShape.armsAll])
  (show(WTm.eq .res (.lit (.bool true))).value [] {args:=args,res:=some (.bool true),after:=args}=some (.bool (true==true))from w_eq_bool (w_res rfl) w_lit) rfl
section
variable{prog:Program}{w:World}{A:Around}{E:Value->Shared->Prop}{s:Shared}{K:Frag}
end
end Att
namespace L2
open PySem PySem.Spec PyProof.Rows
theorem yo:∀{vs:List Value} {ns:List Int},IntsAre vs ns->Vals (ns.map V.int) vs
 | _,_,.nil=>.nil
 | _,_,.cons n t h=>.cons ⟨t,rfl⟩ (yo h)
def Only(H:Hp):Prop:=∀b,H b=none\/∃o xs,H b=some (.frz o (.lst xs))
theorem wg{P:Program}{w:World}{K:Frg}{mg mb:Str->Option Value}{CX:CXT}{k:Nat}{fa a:Addr}{fd:FuncData}{x:Str}{sp:Sp}{s₁:Shared}{vs:List Value}{ns:List Int}
  (KX:K.In s₁.heap) (hns:s₁.heap.Ns mainGlobals mg) (hb:s₁.heap.Ns builtinsNs mb) (hbb:∀x:Str,x≠"__name__"->mb x=bootBuiltins x) (hlim:s₁.heap.NoLimit) (hg:s₁.gens = #[])
  (ha:s₁.heap.get? a=some {cls:=.type "list",data:=.seq vs.toArray}) (hi:IntsAre vs ns) (hl:ns.length<=sizeLine) (hr:Room k callerA)
  (F:∀base:Heap,K.In base->base.Ns mainGlobals mg->FnOk P w K mg base CX k fa fd [x] sp) (hbind:∀(s:Shared) (u:Value),BindsTo s fd ⟨[u],[]⟩ [(x,u)])
  (hsp:∀H:Hp,Only H->SqL K H a (ns.map V.int)->sp [.ref a] H (fun v _=>v = .bl true) fun _ _ _=>False)
  (hCX:∀H e s',CX [] H s₁ (fun _ _ _=>False) e s'->False) :
  codeAny (model P w) callerA (.call (.ref fa) ⟨[.ref a],[]⟩) (fun r s'=>r = .ok (.ret (.bool true))/\OldK s₁.heap s'.heap/\s'.os=s₁.os/\AllBare s'.gens) s₁:=by
 have rv:=yo hi;have lenV:=hi.length;have core:∀H:Hp,Only H->SqL K H a (ns.map V.int)->HOk P w H s₁.heap->(∀b,H b≠none->b=a)->(H a≠none->K.lookup a=none)->
   codeAny (model P w) callerA (.call (.ref fa) ⟨[.ref a],[]⟩) (fun r s'=>r = .ok (.ret (.bool true))/\OldK s₁.heap s'.heap/\s'.os=s₁.os/\AllBare s'.gens) s₁:=by
  intro H hO hS hok hA hK;have base_of:∀{b:Addr} {o:Obj},s₁.heap.get? b=some o->H b=none->(hidT s₁.heap H).get? b=some o:=fun e n=>wc e n
  have noA:∀{b:Addr} {o:Obj} {es:Array DictEntry} {ep:Nat},s₁.heap.get? b=some o->o.data = .dict es ep->H b=none:=fun {b o es ep} e d=>by
   cases q:H b with
   | none=>rfl
   | some u=>
    have e':b=a:=hA b (by rw[q];simp);subst e';rw[ha]at e;cases e;have d':Data.seq vs.toArray _=Data.dict es ep:=d;cases d'
  have nsK:∀{b:Addr} {m:Str->Option Value},s₁.heap.Ns b m->(hidT s₁.heap H).Ns b m:=fun {b m} ⟨o,es,ep,e,d,r⟩=>⟨o,es,ep,base_of e (noA e d),d,r⟩
  have hKb:K.In (hidT s₁.heap H):=fun b o e=>base_of (KX b o e) (by
   cases q:H b with
   | none=>rfl
   | some u=>
    have e':b=a:=hA b (by rw[q];simp);subst e';rw[hK (by rw[q];simp)]at e;cases e)
  have hM:Mod K mg (hidT s₁.heap H):=⟨hKb,nsK hns,⟨mb,nsK hb,hbb⟩,let ⟨mc,h1,h2⟩:=hlim;⟨mc,nsK h1,h2⟩⟩
  have e0:Env0 P w K mg (hidT s₁.heap H) callerA [] s₁ H:=⟨rfl,hM,fun b o e=>Ww e,Nat.le_of_eq (Ku _ _),trivial,fun b hb=>absurd (show b∈([]:List Addr)from hb) (by simp),hok,.of_eq hg⟩
  refine codeAny_mono ((F _ hKb (nsK hns)).run callerA [] s₁ H ⟨[.ref a],[]⟩ [.ref a] [.ref a] _ _ hr e0 (hbind s₁ (.ref a)) (.cons rfl .nil) (hsp H hO hS)) fun r s' h=>?_
  cases r with
  | error e=>exact(hCX H e s' h).elim
  | ok fl=>
   cases fl with
   | next=>exact False.elim h
   | brk=>exact False.elim h
   | cont=>exact False.elim h
   | ret u=>
    obtain⟨v,H',os,bare,un,hok',r',q⟩:=h;have q':v = .bl true:=q;subst q';obtain rfl:u=Value.bool true:=r';refine⟨rfl,OldK.of_keep fun b o e=>?_,os,bare⟩;cases q:H b with
    | none=>exact un.keep b o e q (by intro z;exact absurd (show b∈([]:List Addr)from z) (by simp)) (by simp)
    | some u=>
     rcases hO b with z | ⟨ob,xs,z⟩
     ·rw[q]at z;cases z
     ·have z2:=un.frzs b ob _ z;obtain⟨e1,_⟩:=hok b _ z;obtain⟨e2,_⟩:=hok' b _ z2;rw[e]at e1;cases e1;exact e2
 cases hk:K.lookup a with
 | some o=>
  have e:=KX a o hk;rw[ha]at e;cases e;refine core (fun _=>none) (fun _=>.inl rfl) (.inr ⟨_,vs.toArray,_,hk,rfl,rfl,rfl,by rw[size_toArray,lenV];exact hl,by simpa using rv⟩) (fun b u z=>by have z':(none:Option HO)=some u:=z;cases z') (fun b z=>absurd rfl z) fun z=>absurd rfl z
 | none=>
  refine core (fun b=>if b=a then some (.frz {cls:=.type "list",data:=.seq vs.toArray} (.lst (ns.map V.int)))else none) (fun b=>?_) (.inl (.inr ⟨{cls:=.type "list",data:=.seq vs.toArray},if_pos rfl⟩)) (fun b u z=>?_) (fun b z=>?_) fun _=>hk
  ·by_cases hb:b=a
   ·exact .inr ⟨_,_,if_pos hb⟩
   ·exact .inl (if_neg hb)
  ·by_cases hb:b=a
   ·have z':=(if_pos hb).symm.trans z;cases z';subst hb;exact⟨ha,by rw[length_map];exact hl,vs,_,rv,ha⟩
   ·have z':=(if_neg hb).symm.trans z;cases z'
  ·by_cases hb:b=a
   ·exact hb
   ·exact absurd (if_neg hb) z
noncomputable abbrev KOf{K:Frg}{h:Heap}(_:K.In h):Frg:=K
noncomputable def defArgs(s:Stmt):Arguments:=match s with
 | .FunctionDef _ a _ _ _ _ _ _ _ _=>a
 | _=>{posonlyargs:=[],args:=[],vararg:=none,kwonlyargs:=[],kw_defaults:=[],kwarg:=none,defaults:=[]}
noncomputable def defBody(s:Stmt):List Stmt:=match s with
 | .FunctionDef _ _ b _ _ _ _ _ _ _=>b
 | _=>[]
noncomputable def defScope(s:Stmt):Scope:=match s with
 | .FunctionDef _ _ _ _ _ _ sc _ _ _=>sc
 | _=>{kind:=.function,names:=[],isGenerator:=false,isCoroutine:=false}
noncomputable abbrev CX0:CXT:=fun _ _ _ _ _ _=>False
noncomputable abbrev E0:XK:=fun _ _ _=>False
theorem pass0{X:Cx}:Passes CX0 X E0:=fun _ _ _ _ _ _ _ h=>h.elim
structure Fun(K:Frg)(x qual:Str)(st:Stmt)(f:Addr)(fd:FuncData):Prop where
 ex:∃(oc:Value) (od:Option Addr) (kV doc pm:Value) (an:Option Addr) (cdv ct:Value) (osl:Array (Option Value)),
  fd=PySem.W.fnOf x qual (defArgs st) (defBody st) (defScope st) .none kV doc pm an cdv ct/\K.lookup f=some ⟨oc,od,.func fd,osl⟩/\PySem.W.codeIn K cdv qual=true
 kp:PySem.W.keepIn K (.ref f)=true
section
variable{P:Program}{w:World}{K:Frg}{mg:Str->Option Value}{base:Heap}
theorem Fun.ok{x qual:Str}{st:Stmt}{f:Addr}{fd:FuncData}{N ps:List Str}{k:Nat}{sp:Sp}(F:Fun K x qual st f fd)(S:FnScope N ps (defScope st))(len:∀vs H Q E,sp vs H Q E->vs.length=ps.length)
  (hbody:∀(cdv:Value) (A:Around) (outer:List Env) (s:Shared) (H:Hp) (vs:List V) (Q:VK) (E:XK),Room k (A.deeper (envOfC qual (defScope st) s.heap.objs.size f cdv))->sp vs H Q E->
   ∃t,PSs (cxOf CX0 P w K mg base N qual (defScope st) f cdv A outer s H E).nox (defBody st) t/\t {nx:=fun _ H'=>Q .non H',rt:=Q} (start N vs) H):FnOk P w K mg base CX0 (k+1) f fd ps sp:=by
 obtain⟨oc,od,kV,doc,pm,an,cdv,ct,osl,rfl,lk,hcd⟩:=F.ex;refine xM lk hcd S len fun A outer s H vs Q E hr hsp=>?_
 obtain⟨t,h,q⟩:=hbody cdv A outer s H vs Q E hr hsp;exact⟨t,h.nox,q⟩
theorem Fun.binds{x qual:Str}{st:Stmt}{f:Addr}{fd:FuncData}{ps:List Str}(F:Fun K x qual st f fd)
  (h:∀(kV doc pm:Value) (an:Option Addr) (cdv ct:Value) (us:List Value),us.length=ps.length->bindArgs (PySem.W.fnOf x qual (defArgs st) (defBody st) (defScope st) .none kV doc pm an cdv ct) ⟨us,[]⟩=pure (ps.zip us)):Binds K fd ps []:=by
 obtain⟨oc,od,kV,doc,pm,an,cdv,ct,osl,rfl,lk,hcd⟩:=F.ex;exact .all (h kV doc pm an cdv ct)
theorem jX{x qual:Str}{st:Stmt}{f:Addr}{oc:Value}{od an:Option Addr}{osl:Array (Option Value)}{kV doc pm cdv ct:Value}(l:K.lookup f=some ⟨oc,od,.func (PySem.W.fnOf x qual (defArgs st) (defBody st) (defScope st) .none kV doc pm an cdv ct),osl⟩)
  (c:PySem.W.codeIn K cdv qual=true) (k:PySem.W.keepIn K (.ref f)=true):Fun K x qual st f (PySem.W.fnOf x qual (defArgs st) (defBody st) (defScope st) .none kV doc pm an cdv ct):=⟨⟨oc,od,kV,doc,pm,an,cdv,ct,osl,rfl,l,c⟩,k⟩
end
theorem jY{A:Around}{k:Nat}(hr:Room k A):A.units+1<cLine:=Nat.lt_of_le_of_lt (Nat.add_le_add_left (by decide:1<=64) _) hr.units
section
variable{X:Cx}
theorem pv(i:Nat){x:Str}{pos:Pos}(hN:X.N[i]?=some x:=by rfl)(hv:Vis X.env.scope x:=by first | exact Or.inl rfl | exact Or.inr (Or.inl rfl) | exact Or.inr (Or.inr rfl))(hd:(x==("__debug__" : Str))=false:=by decide)
  (hcd:(x==("__classdict__" : Str))=false:=by decide):PE X (.Name x pos) (tVar i):=xv hN hv hd hcd
end
theorem iteF{A B:Prop}(h:B):if false=true then A else B:=by
 rw[if_neg Bool.false_ne_true];exact h
theorem iteT{A B:Prop}(h:A):if true=true then A else B:=by
 rw[if_pos rfl];exact h
def Same(H H':Hp):Prop:=∀b o,H b=some o->H' b=some o
theorem Same.refl(H:Hp):Same H H:=fun _ _ h=>h
theorem Same.trans{H H1 H2:Hp}(a:Same H H1)(b:Same H1 H2):Same H H2:=fun c o h=>b c o (a c o h)
theorem Same.seq{K:Frg}{H H':Hp}{a:Addr}{xs:List V}(e:Same H H')(h:SqL K H a xs):SqL K H' a xs:=by
 rcases h with(h | ⟨o,h⟩) | h
 ·exact .inl (.inl (e _ _ h))
 ·exact .inl (.inr ⟨o,e _ _ h⟩)
 ·exact .inr h
section
variable{κ:Type}[DecidableEq κ]
noncomputable def valV(kvs:List (κ×V))(k:κ):Option V:=(kvs.find? fun kv=>decide (kv.1=k)).map (·.2)
noncomputable def putK(kvs:List (κ×V))(k:κ)(v:V):List (κ×V):=
 if(kvs.any fun kv=>decide (kv.1=k))=true then kvs.map (fun kv=>if kv.1=k then(kv.1,v)else kv)else kvs++[(k,v)]
theorem ZM{p:κ×V}{r:List (κ×V)}{k:κ}(e:p.1=k):valV (p::r) k=some p.2:=by simp[valV,List.find?_cons,e]
theorem ZL{p:κ×V}{r:List (κ×V)}{k:κ}(e:¬p.1=k):valV (p::r) k=valV r k:=by simp[valV,List.find?_cons,e]
theorem YT(k:κ):∀kvs:List (κ×V),(kvs.any fun kv=>decide (kv.1=k))=(valV kvs k).isSome
 | []=>rfl
 | p::r=>by
  rw[any_cons];by_cases e:p.1=k
  ·simp only[ZM e,decide_eq_true e,Bool.true_or,Option.isSome_some]
  ·rw[ZL e,decide_eq_false e,Bool.false_or];exact YT k r
theorem QB(kvs:List (κ×V))(k:κ)(v:V):(putK kvs k v).length<=kvs.length+1:=by
 unfold putK;split
 ·rw[length_map];omega
 ·rw[List.length_append,length_cons,length_nil];omega
theorem RelO.isSome_eq{o:Option V}{u:Option Value}(r:RelO o u):o.isSome=u.isSome:=by
 cases o with
 | none=>cases u with
  | none=>rfl
  | some _=>exact(show False from r).elim
 | some _=>cases u with
  | none=>exact(show False from r).elim
  | some _=>rfl
theorem KV.val{kvs:List (κ×V)}{vs:List (κ×Value)}(r:KV kvs vs)(k:κ):RelO (valV kvs k) (valueAt vs k):=by
 unfold KV at r
 induction r with
 | nil=>exact True.intro
 | @cons p q ps qs h t ih=>
  obtain⟨h1,h2⟩:=h;by_cases e:p.1=k
  ·have e':q.1=k:=h1.symm.trans e;have b:valueAt (q::qs) k=some q.2:=by simp[valueAt,List.find?_cons,e']
   rw[ZM e,b];exact h2
  ·have e':¬q.1=k:=fun z=>e (h1.trans z)
   have b:valueAt (q::qs) k=valueAt qs k:=by simp[valueAt,List.find?_cons,e']
   rw[ZL e,b];exact ih
theorem KV.any{kvs:List (κ×V)}{vs:List (κ×Value)}(r:KV kvs vs)(k:κ):(kvs.any fun kv=>decide (kv.1=k))=vs.any fun kv=>decide (kv.1=k):=by
 unfold KV at r
 induction r with
 | nil=>rfl
 | cons h t ih=>rw[any_cons,any_cons,ih,h.1]
theorem KV.repl{kvs:List (κ×V)}{vs:List (κ×Value)}(r:KV kvs vs)(k:κ){y:V}{u:Value}(ry:RelV y u) :
  KV (kvs.map fun kv=>if kv.1=k then(kv.1,y)else kv) (vs.map fun kv=>if kv.1=k then(kv.1,u)else kv):=by
 unfold KV at r|-
 induction r with
 | nil=>exact .nil
 | @cons p q ps qs h t ih=>
  rw[map_cons,map_cons];refine .cons ?_ ih;obtain⟨h1,h2⟩:=h;by_cases e:p.1=k
  ·rw[if_pos e,if_pos (h1.symm.trans e)];exact⟨h1,ry⟩
  ·rw[if_neg e,if_neg (fun z=>e (h1.trans z))];exact⟨h1,h2⟩
theorem KV.put{kvs:List (κ×V)}{vs:List (κ×Value)}(r:KV kvs vs)(k:κ){y:V}{u:Value}(ry:RelV y u):KV (putK kvs k y) (stored vs k u):=by
 unfold putK stored;rw[r.any k];by_cases e:(vs.any fun kv=>decide (kv.1=k))=true
 ·rw[if_pos e,if_pos e];exact r.repl k ry
 ·rw[if_neg e,if_neg e];exact Paired.snoc r ⟨rfl,ry⟩
theorem KV.keys{kvs:List (κ×V)}{vs:List (κ×Value)}(r:KV kvs vs):kvs.map (·.1)=vs.map (·.1):=by
 unfold KV at r
 induction r with
 | nil=>rfl
 | cons h t ih=>rw[map_cons,map_cons,ih,h.1]
theorem KV.length{kvs:List (κ×V)}{vs:List (κ×Value)}(r:KV kvs vs):kvs.length=vs.length:=Paired.length r
end
theorem kT{P:Program}{w:World}{k:Key}{u:Value}(r:RelV (kV k) u):(mixKind P w).is k u=true:=by
 cases k with
 | inl i=>obtain⟨t,e⟩:=(show∃t,u=Value.int i t from r);subst e;exact Yu P w i t
 | inr x=>obtain⟨t,e⟩:=(show∃t,u=Value.str x t from r);subst e;exact Yv P w x t
theorem ye{P:Program}{w:World}:∀{ks:List Key} {us:List Value},Vals (ks.map kV) us->ItemsAre (mixKind P w) ks us
 | [],_,r=>by rw[map_nil]at r;cases r;exact .nil
 | k::ks,_,r=>by
  rw[map_cons]at r;cases r with
  | cons h t=>exact .cons (kT h) (ye t)
noncomputable abbrev KT(H:Hp):List (List Key×V)->List (List Key×Addr×Value)->Prop:=Paired fun p q=>p.1=q.1/\H q.2.1=some (.tup (p.1.map kV))/\RelV p.2 q.2.2
theorem KT.val{H:Hp}{kvs:List (List Key×V)}{xs:List (List Key×Addr×Value)}(r:KT H kvs xs)(k:List Key):RelO (valV kvs k) ((atKey xs k).map (·.2)):=by
 induction r with
 | nil=>exact True.intro
 | @cons p q ps qs h t ih=>
  obtain⟨h1,_,h2⟩:=h;by_cases e:p.1=k
  ·have e':q.1=k:=h1.symm.trans e;have b:atKey (q::qs) k=some q.2:=by simp[atKey,List.find?_cons,e']
   rw[ZM e,b];exact h2
  ·have e':¬q.1=k:=fun z=>e (h1.trans z)
   have b:atKey (q::qs) k=atKey qs k:=by simp[atKey,List.find?_cons,e']
   rw[ZL e,b];exact ih
theorem KT.repl{H:Hp}{kvs:List (List Key×V)}{xs:List (List Key×Addr×Value)}(r:KT H kvs xs)(k:List Key){y:V}{u:Value}(ry:RelV y u) :
  KT H (kvs.map fun kv=>if kv.1=k then(kv.1,y)else kv) (xs.map (putAt k u)):=by
 induction r with
 | nil=>exact .nil
 | @cons p q ps qs h t ih=>
  rw[map_cons,map_cons];refine .cons ?_ ih;obtain⟨h1,h2,h3⟩:=h;unfold putAt;by_cases e:p.1=k
  ·rw[if_pos e,if_pos (h1.symm.trans e)];exact⟨h1,h2,ry⟩
  ·rw[if_neg e,if_neg (fun z=>e (h1.trans z))];exact⟨h1,h2,h3⟩
theorem KT.put{H:Hp}{kvs:List (List Key×V)}{xs:List (List Key×Addr×Value)}(r:KT H kvs xs)(k:List Key){b:Addr}{y:V}{u:Value}(hb:H b=some (.tup (k.map kV)))(ry:RelV y u) :
  KT H (putK kvs k y) (storedH xs k b u):=by
 have e:(kvs.any fun kv=>decide (kv.1=k))=(atKey xs k).isSome:=by
  rw[YT,(r.val k).isSome_eq,Option.isSome_map]
 unfold putK storedH;rw[e];by_cases q:(atKey xs k).isSome=true
 ·rw[if_pos q,if_pos q];exact r.repl k ry
 ·rw[if_neg q,if_neg q];exact Paired.snoc r ⟨rfl,hb,ry⟩
theorem KT.keeps{H H':Hp}{kvs:List (List Key×V)}{xs:List (List Key×Addr×Value)}(r:KT H kvs xs)(ht:∀b ys,H b=some (.tup ys)->H' b=some (.tup ys)):KT H' kvs xs:=
 Paired.mapP r fun _ _ z=>⟨z.1,ht _ _ z.2.1,z.2.2⟩
section
variable{P:Program}{w:World}{H:Hp}{h:Heap}{a:Addr}
theorem WU{u:HO}(ok:HOk P w H h)(e:Rd H a u):ObjOk P w H h a u:=e.ok ok
theorem K4{kvs:List (Key×V)}(ok:HOk P w H h)(e:Rd H a (.dK kvs)):kvs.length<=sizeLine/\(a==sysModules)=false/\∃vs,KV kvs vs/\h.DictOf (mixKind P w) a vs:=
 show ObjOk P w H h a (.dK kvs)from WU ok e
theorem ya{kvs:List (Key×V)}(ok:HOk P w H h)(e:H a=some (.dK kvs)):kvs.length<=sizeLine/\(a==sysModules)=false/\∃vs,KV kvs vs/\h.DictOf (mixKind P w) a vs:=K4 ok (.inl e)
theorem Y7{ks:List Key}(ok:HOk P w H h)(e:H a=some (.tup (ks.map kV))):(tupleKind (mixKind P w)).is h ks a:=by
 obtain⟨_,its,r,o,h1,h2,n,h3⟩:=(show ObjOk P w H h a (.tup (ks.map kV))from ok a _ e)
 exact⟨o,its.toArray,n,h1,h2,h3,by simpa using ye r⟩
theorem K5{kvs:List (List Key×V)}(ok:HOk P w H h)(e:Rd H a (.dT kvs)):kvs.length<=sizeLine/\(a==sysModules)=false/\
  ∃xs,KT H kvs xs/\h.DictOfH (tupleKind (mixKind P w)) a xs:=by
 obtain⟨z,y,xs,r,o,es,ep,h1,h2,h3,h4,h5⟩:=(show ObjOk P w H h a (.dT kvs)from WU ok e)
 refine⟨z,y,xs,r,o,es,ep,h1,h2,h3,h4,fun x hx=>?_,h5⟩;have all:∀{l:List (List Key×V)} {m:List (List Key×Addr×Value)},KT H l m->∀x∈m,(tupleKind (mixKind P w)).is h x.1 x.2.1:=by
  intro l m q
  induction q with
  | nil=>intro x hx;exact nomatch hx
  | @cons p q ps qs hq t ih=>
   intro x hx;rcases mem_cons.mp hx with e | hx
   ·subst e;exact Y7 ok (by rw[<-hq.1];exact hq.2.1)
   ·exact ih x hx
 exact all r x hx
theorem xI{kvs:List (List Key×V)}(ok:HOk P w H h)(e:H a=some (.dT kvs)):kvs.length<=sizeLine/\(a==sysModules)=false/\
  ∃xs,KT H kvs xs/\h.DictOfH (tupleKind (mixKind P w)) a xs:=K5 ok (.inl e)
end
def DGet(H:Hp)(a:Addr)(y:V)(r:Option V):Prop:=
 (∃kvs k,Rd H a (.dK kvs)/\y=kV k/\r=valV kvs k)\/∃kvs k b,Rd H a (.dT kvs)/\y = .ref b/\H b=some (.tup (k.map kV))/\r=valV kvs k
def DPut(H:Hp)(a:Addr)(y v:V)(H':Hp):Prop:=
 (∃kvs k,H a=some (.dK kvs)/\y=kV k/\kvs.length<sizeLine/\H'=upd H a (.dK (putK kvs k v)))\/
 ∃kvs k b,H a=some (.dT kvs)/\y = .ref b/\H b=some (.tup (k.map kV))/\kvs.length<sizeLine/\H'=upd H a (.dT (putK kvs k v))
theorem DGet.k{H:Hp}{a:Addr}{kvs:List (Key×V)}{k:Key}(e:H a=some (.dK kvs)):DGet H a (kV k) (valV kvs k):=.inl ⟨kvs,k,.inl e,rfl,rfl⟩
theorem DPut.k{H:Hp}{a:Addr}{kvs:List (Key×V)}{k:Key}{v:V}(e:H a=some (.dK kvs))(hl:kvs.length<sizeLine):DPut H a (kV k) v (upd H a (.dK (putK kvs k v))):=.inl ⟨kvs,k,e,rfl,hl,rfl⟩
section
variable{X:Cx}{pins:List (Addr×Obj)}{σ:St}{H:Hp}{s:Shared}{a:Addr}{y v:V}{u r:Value}{o:Option V}{A:Around}{E:Value->Shared->Prop}
theorem Inv.big(I:Inv X pins σ H s):sysModules<s.heap.objs.size:=by
 have h:mainGlobals<s.heap.objs.size:=(I.mod.glob.keeps I.bk).lt;exact Nat.lt_trans (by decide) h
theorem Kq{Q:Value->Shared->Prop}(hu:A.units+1<cLine)(I:Inv X pins σ H s)(g:DGet H a y (some v))(ry:RelV y u)(h:∀w' s',Inv X pins σ H s'->RelV v w'->Q w' s') :
  wpAny (model X.prog X.w) A (getItem (.ref a) u) Q E s:=by
 rcases g with⟨kvs,k,e,ey,l⟩ | ⟨kvs,k,b,e,ey,eb,l⟩
 ·subst ey;obtain⟨z,hd,vs,rel,dd⟩:=K4 I.hok e;obtain⟨w',hw,rw'⟩:=RelO.some_of (v:=v) (o:=valueAt vs k) (by rw[l];exact rel.val k);exact wpAny_getItem_of (kT ry) dd.mapOf hw (h w' _ (I.tok _) rw')
 ·subst ey;cases(show u=Value.ref b from ry);obtain⟨z,hd,xs,rel,dd⟩:=K5 I.hok e;obtain⟨w',hw,rw'⟩:=RelO.some_of (v:=v) (o:=(atKey xs k).map (·.2)) (by rw[l];exact rel.val k);obtain⟨p,hp,hp2⟩:=Option.map_eq_some_iff.mp hw;refine wpAny_getItem_heap (tupleKind_room_in1 hu) (Y7 I.hok eb) dd hp ?_;rw[hp2];exact h w' _ (I.tok _) rw'
theorem Za{h':Heap}{t':Nat}{ob:HO}(I:Inv X pins σ H s)(mu:Mut (H a))(hs:Heap.SameBut a s.heap h')(he:∃q,h'.get? a=some q)(new:ObjOk X.prog X.w (upd H a ob) h' a ob) :
  Inv X pins σ (upd H a ob) {s with heap:=h',toks:=t'}:=
 I.write (x:=a) (e:=a) mu (.inl rfl) (fun b q hb z=>(hs.2 b hb).trans z) he new
theorem yC{P:Program}{w:World}{H':Hp}{h':Heap}{kvs:List (Key×V)}{vs:List (Key×Value)}(z:kvs.length<=sizeLine)(hd:(a==sysModules)=false)(rel:KV kvs vs)(dd:h'.DictOf (mixKind P w) a vs) :
  ObjOk P w H' h' a (.dK kvs):=⟨z,hd,vs,rel,dd⟩
theorem Kr{H':Hp}{Q:Unit->Shared->Prop}(hu:A.units+1<cLine)(I:Inv X pins σ H s)(g:DPut H a y v H')(ry:RelV y u)(rv:RelV v r)(h:∀s',Inv X pins σ H' s'->Q () s') :
  wpAny (model X.prog X.w) A (setItem (.ref a) u r) Q E s:=by
 rcases g with⟨kvs,k,e,ey,l,eH⟩ | ⟨kvs,k,b,e,ey,eb,l,eH⟩
 ·subst ey eH;obtain⟨z,hd,vs,rel,dd⟩:=ya I.hok e;have hz:vs.length<=sizeLine:=by rw[<-rel.length];exact z
  have hl:(putK kvs k v).length<=sizeLine:=by have:=QB kvs k v;omega
  refine wpAny_setItem_pairs (hsz:=hz) (kT ry) dd fun h' dd' hs=>h _ ?_
  have he:∃q,h'.get? a=some q:=let ⟨q,_,_,hq,_⟩:=dd';⟨q,hq⟩;exact Za I (by rw[e];exact True.intro) hs he (yC hl hd (rel.put k rv) dd')
 ·subst ey eH;cases(show u=Value.ref b from ry);obtain⟨z,hd,xs,rel,dd⟩:=xI I.hok e;have hz:xs.length<=sizeLine:=by rw[<-Paired.length rel];exact z
  have hl:(putK kvs k v).length<=sizeLine:=by have:=QB kvs k v;omega
  refine wpAny_setItem_heap (hsz:=hz) (tupleKind_room_in1 hu) (Y7 I.hok eb) dd fun h' dd' hs=>h _ ?_
  obtain⟨q,es,ep,hq,h2,h3,h4,_,h5⟩:=dd';refine Za I (by rw[e];exact True.intro) hs ⟨q,hq⟩ ⟨hl,hd,_,(rel.put k eb rv).keeps fun c ys ec=>?_,q,es,ep,hq,h2,h3,h4,h5⟩;rw[jm (QC ec e (fun z=>nomatch z))];exact ec
end
section
variable{X:Cx}{pins:List (Addr×Obj)}{σ:St}{H:Hp}{s:Shared}{a:Addr}{kvs:List (Key×V)}{k:Key}{u:Value}{A:Around}{E:Value->Shared->Prop}
end
def NoSl(i:Expr):Prop:=∀ov iv,subscripted i false ov iv=operate [ov,iv] (getItem ov iv)
theorem WJ{prog:Program}{w:World}{A:Around}{E:Value->Shared->Prop}{s:Shared}{env:Env}{value slice:Expr}{pos:Pos}{T id:String}{Q:Value->Shared->Prop}
  (hl:typeLookup (.type T) "__getitem__"= pure (some (.builtin id))) (hs:NoSl slice)
  (h:wpAny (model prog w) A (eval value env) (fun o s₁=>wpAny (model prog w) A (eval slice env) (fun i s₂=>s₂.TypeIs o T/\wpAny (model prog w) A (getItem o i) Q E s₂) E s₁) E s) :
  wpAny (model prog w) A (eval (.Subscript value slice pos) env) Q E s:=by
 refine Subscript_ (wpAny_mono h (fun o s₁ h₁=>wpAny_mono h₁ (fun i s₂ h₂=>?_) fun _ _ x=>x) fun _ _ x=>x);obtain⟨hT,h₂⟩:=h₂;unfold subscriptTail;refine wpAny_bind ?_;rw[getitemInPython_of_ne hT.not_modules];refine wpAny_bind (wpAny_specialOf hT hl ?_);have fin:wpAny (model prog w) A (subscripted slice false o i) (fun r s₃=>wpAny (model prog w) A (letTemporaryGo value o r >>= fun _=>pure r) Q E s₃) E s₂:=by
  rw[hs o i];exact wpAny_operating (wpAny_mono h₂ (fun r s₃ h₃=>wpAny_bind (wpAny_letTemporaryGo (wpAny_pure h₃))) fun _ _ x=>x)
 first
  | exact wpAny_pure (wpAny_bind fin)
  | exact wpAny_bind (wpAny_pure (wpAny_bind fin))
  | exact wpAny_bind fin
theorem Yg{X:Cx}{pins:List (Addr×Obj)}{σ:St}{H:Hp}{s:Shared}{a:Addr}{y:V}{o:Option V}(I:Inv X pins σ H s)(g:DGet H a y o):s.TypeIs (.ref a) "dict":=by
 rcases g with⟨kvs,k,e,_,_⟩ | ⟨kvs,k,b,e,_,_,_⟩
 ·obtain⟨_,_,vs,_,dd⟩:=K4 I.hok e;exact dd.typeIs
 ·obtain⟨_,_,xs,_,dd⟩:=K5 I.hok e;exact dd.typeIs
def tDGet(td ty:TE):TE:=fun σ H Q=>td σ H fun x H1=>ty σ H1 fun y H2=>∃a v,x = .ref a/\DGet H2 a y (some v)/\Q v H2
def sDPut(td ty tv:TE):TS:=fun D σ H=>tv σ H fun v H1=>td σ H1 fun x H2=>ty σ H2 fun y H3=>∃a H4,x = .ref a/\DPut H3 a y v H4/\D.nx σ H4
section
variable{X:Cx}{o i e value:Expr}{pos pos' tpos:Pos}{td ty tv:TE}
theorem jB(hu:X.A.units+1<cLine)(ho:PE X o td)(hi:PE X i ty)(hs:NoSl i:=by exact fun _ _=>rfl):PE X (.Subscript o i pos) (tDGet td ty):=by
 intro pins s σ H Q I h;refine WJ PySem.F.slot_dict_getitem.lookup hs (thn (ho pins s σ H _ I h) fun u s1 ⟨x,H1,I1,rx,q1⟩=>thn (hi pins s1 σ H1 _ I1 q1) fun iv s2 ⟨y,H2,I2,ry,a,v,ex,g,q2⟩=>?_);subst ex;obtain rfl:u=Value.ref a:=rx;exact⟨Yg I2 g,Kq hu I2 g ry fun w' s3 I3 rw'=>⟨v,H2,I3,rw',q2⟩⟩
theorem yW(hu:X.A.units+1<cLine)(ho:PE X o td)(hi:PE X i ty)(hv:PE X value tv)(hs:swapsWith value (some (.Subscript o i pos')) pos.line X.env=pure false) :
  PS X (.Assign [.Subscript o i pos'] value pos) (sDPut td ty tv):=by
 intro pins s σ H D I h;refine wpAny_Assign_Subscript (thn (hv pins s σ H _ I h) fun r s1 ⟨v,H1,I1,rv,q1⟩=>thn (ho pins s1 σ H1 _ I1 q1) fun u s2 ⟨x,H2,I2,rx,q2⟩=>thn (hi pins s2 σ H2 _ I2 q2) fun iv s3 ⟨y,H3,I3,ry,a,H4,ex,g,q3⟩=>?_) hs;subst ex;obtain rfl:u=Value.ref a:=rx;exact Kr hu I3 g ry rv fun s4 I4=>⟨σ,H4,I4,q3⟩
end
theorem Yh{P:Program}{w:World}{H:Hp}(h:Heap)(hb:sysModules<h.objs.size):ObjOk P w H (h.push {cls:=.type "dict",data:=.dict #[]}) h.objs.size (.dK []):=
 ⟨Nat.zero_le _,beq_eq_false_iff_ne.mpr (Ne.symm (Nat.ne_of_lt hb)),[],.nil,Heap.DictOf.new h⟩
def tDNewK:TE:=fun _ H Q=>∀p,H p=none->Q (.ref p) (upd H p (.dK []))
section
variable{X:Cx}{pos:Pos}
theorem ZE:PE X (.Dict [] [] pos) tDNewK:=fun pins s σ H Q I h=>
 wpAny_Dict_empty ⟨.ref s.heap.objs.size,_,I.laid (a:=s.heap.objs.size) (o:=.dK []) (t':=s.toks) (fun _ _ q=>Heap.get?_push_of_some _ q) (Nat.le_refl _) (Yh s.heap I.big),rfl,h _ (I.hok.fresh (Nat.le_refl _))⟩
end
noncomputable def tPairs:List (TE×TE)->St->Hp->(List (V×V)->Hp->Prop)->Prop
 | [],_,H,Q=>Q [] H
 | (tk,tv)::r,σ,H,Q=>tk σ H fun x H1=>tv σ H1 fun y H2=>tPairs r σ H2 fun ps H3=>Q ((x,y)::ps) H3
noncomputable abbrev VV:List (V×V)->List (Value×Value)->Prop:=Paired fun p q=>RelV p.1 q.1/\RelV p.2 q.2
def PPs(X:Cx)(pos:Pos)(keys:List (Option Expr))(values:List Expr)(trs:List (TE×TE)):Prop:=
 ∀(pins:List (Addr×Obj)) (s:Shared) (σ:St) (H:Hp) (Q:List (V×V)->Hp->Prop),Inv X pins σ H s->tPairs trs σ H Q->
  wpAny (model X.prog X.w) X.A (evalPairs (pairTrees keys values X.env pos)) (fun vs s'=>∃ps H',Inv X pins σ H' s'/\VV ps vs/\Q ps H') X.xe s
theorem WE{X:Cx}{pos:Pos}:PPs X pos [] [] []:=fun pins s σ H Q I h=>pairTrees_nil_walk ⟨[],H,I,.nil,h⟩
theorem QD{X:Cx}{pos:Pos}{k v:Expr}{ks:List (Option Expr)}{vs:List Expr}{tk tv:TE}{trs:List (TE×TE)}(hk:PE X k tk)(hv:PE X v tv)(hr:PPs X pos ks vs trs) :
  PPs X pos (some k::ks) (v::vs) ((tk,tv)::trs):=fun pins s σ H Q I h=>
 pairTrees_cons_walk (thn (hk pins s σ H _ I h) fun u s1 ⟨x,H1,I1,rx,q1⟩=>thn (hv pins s1 σ H1 _ I1 q1) fun w2 s2 ⟨y,H2,I2,ry,q2⟩=>
  thn (hr pins s2 σ H2 _ I2 q2) fun ws s3 ⟨ps,H3,I3,rel,q3⟩=>⟨(x,y)::ps,H3,I3,.cons ⟨rx,ry⟩ rel,q3⟩)
noncomputable def mergeK(kvs more:List (Key×V)):List (Key×V):=more.foldl (fun acc kv=>putK acc kv.1 kv.2) kvs
theorem KV.merge:∀{more:List (Key×V)} {rs:List (Key×Value)} {kvs:List (Key×V)} {vs:List (Key×Value)},KV more rs->KV kvs vs->KV (mergeK kvs more) (merged vs rs):=by
 intro more rs kvs vs r;unfold KV at r
 induction r generalizing kvs vs with
 | nil=>intro q;exact q
 | @cons p q ps qs h t ih=>
  intro r0;have e:KV (putK kvs p.1 p.2) (stored vs q.1 q.2):=by
   have:=r0.put p.1 h.2;rw[<-h.1];exact this
  exact ih e
theorem qi:∀(more kvs:List (Key×V)),(mergeK kvs more).length<=kvs.length+more.length
 | [],kvs=>by show kvs.length<=kvs.length+0;omega
 | p::r,kvs=>by
  have h1:=qi r (putK kvs p.1 p.2);have h2:=QB kvs p.1 p.2;show(mergeK (putK kvs p.1 p.2) r).length<=_;rw[length_cons];omega
theorem Zm{P:Program}{w:World}:∀{kvs:List (Key×V)} {ws:List (Value×Value)},VV (kvs.map fun kv=>(kV kv.1,kv.2)) ws->∃rs,Carries (mixKind P w) ws rs/\KV kvs rs
 | [],_,r=>by rw[map_nil]at r;cases r;exact⟨[],True.intro,.nil⟩
 | p::kvs,_,r=>by
  rw[map_cons]at r;cases r with
  | @cons a b as bs h t=>
   obtain⟨rs,c,q⟩:=Zm (P:=P) (w:=w) t;obtain⟨b1,b2⟩:=b;exact⟨(p.1,b2)::rs,⟨kT h.1,rfl,c⟩,.cons ⟨rfl,h.2⟩ q⟩
def tDisp(trs:List (TE×TE)):TE:=fun σ H Q=>∀p,H p=none->tPairs trs σ (upd H p (.dK [])) fun ps H2=>H2 p=some (.dK [])/\∃kvs:List (Key×V),ps=kvs.map (fun kv=>(kV kv.1,kv.2))/\kvs.length<=15/\Q (.ref p) (upd H2 p (.dK (mergeK [] kvs)))
theorem WB{X:Cx}{pos:Pos}{keys:List (Option Expr)}{values:List Expr}{trs:List (TE×TE)}(h:PPs X pos keys values trs)(hall:keys.all (·.isSome)=true)(hl:keys.length=values.length)(h0:keys≠[])
  (h15:keys.length<=15):PE X (.Dict keys values pos) (tDisp trs):=by
 intro pins s σ H Q I q;have hn:=I.hok.fresh (Nat.le_refl s.heap.objs.size);have I1:=I.laid (a:=s.heap.objs.size) (o:=.dK []) (h':=s.heap.push {cls:=.type "dict",data:=.dict #[]}) (t':=s.toks) (fun _ _ q=>Heap.get?_push_of_some _ q) (Nat.le_refl _) (Yh s.heap I.big);refine wpAny_Dict_walk (knd:=mixKind X.prog X.w) hall hl h0 h15 (thn (h pins _ σ _ _ I1 (q _ hn)) fun ws s2 ⟨ps,H2,I2,rel,e,kvs,ep,lk,q2⟩=>?_);subst ep;obtain⟨rs,c,rk⟩:=Zm (P:=X.prog) (w:=X.w) rel;obtain⟨z,hd,vs0,r0,dd⟩:=ya I2.hok e;cases r0;refine⟨rs,c,dd,fun h' dd' hs=>⟨.ref s.heap.objs.size,_,?_,rfl,q2⟩⟩;have hz:(mergeK [] kvs).length<=sizeLine:=by
  have h1:=qi kvs [];rw[length_nil]at h1;rw[sizeLine_eq];omega
 have he:∃q,h'.get? s.heap.objs.size=some q:=let ⟨q,_,_,hq,_⟩:=dd';⟨q,hq⟩;exact Za I2 (by rw[e];exact True.intro) hs he (yC hz hd (rk.merge .nil) dd')
section
variable{X:Cx}{pins:List (Addr×Obj)}{σ:St}{H:Hp}{s:Shared}{a:Addr}{y d:V}{u r:Value}{o:Option V}{A:Around}{E:Value->Shared->Prop}
end
section
variable{X:Cx}{o e f:Expr}{apos cpos:Pos}{td ty tx:TE}
end
section
variable{X:Cx}{pins:List (Addr×Obj)}{σ:St}{H:Hp}{s:Shared}{a:Addr}{kvs:List (Key×V)}{A:Around}{E:Value->Shared->Prop}
end
section
variable{X:Cx}{pins:List (Addr×Obj)}{σ:St}{H:Hp}{s:Shared}{a:Addr}{y:V}{u:Value}{A:Around}{E:Value->Shared->Prop}
end
section
variable{X:Cx}
end
section
variable{κ:Type}[DecidableEq κ]
end
theorem compLoopT{prog:Program}{w:World}{A:Around}{R:Result->Shared->Prop}{s:Shared}{elt target iter:Expr}{ifs:List Expr}{scope:Scope}{pos:Pos}{it acc:Value}{env:Env}(I:Nat->Shared->Prop)
  (turn:∀n s,I n s->wpAny (model prog w) A (pyNext it) (fun r s₁=>match r with
   | none=>R (.ok .next) s₁
   | some v=>wpAny (model prog w) A (letOwnedTupleGo target it v) (fun _ s₂=>wpAny (model prog w) A (assign target env v) (fun _ s₃=>
     wpAny (model prog w) A (forIn ifs true fun c r=>if r=true then do let ok <-isTrue c env (eval c env);pure (ForInStep.yield ok)else pure (ForInStep.yield r)) (fun ok s₄=>
      if ok=true then wpAny (model prog w) A (eval elt env) (fun x s₅=>
       wpAny (model prog w) A (call (.builtin "list.append") [acc,x]) (fun _ s₆=>∃m,m<n/\I m s₆) (fun _ _=>False) s₅) (fun _ _=>False) s₄
      else∃m,m<n/\I m s₄) (fun _ _=>False) s₃) (fun _ _=>False) s₂) (fun _ _=>False) s₁) (fun _ _=>False) s)
  (n:Nat) (h:I n s) :
  codeAny (model prog w) A (.compLoop (.ListComp elt [⟨target,iter,ifs,0⟩] scope pos) 0 it acc env) R s:=by
 refine codeAny_loop rfl I (fun n s hI=>?_) n h;show wpAny _ A ((compTurn (.ListComp elt [⟨target,iter,ifs,0⟩] scope pos) 0 it acc env).onRaise (fun x=>do noteFrame x env;theTreesLotGoes x)) _ _ s;refine wpAny_noted ?_;rw[compTurn_list];refine wpAny_bind (wpAny_standAt (wpAny_bind (wpAny_mono (turn n s hI) (fun r s₁ h₁=>?_) fun _ _ h'=>h'.elim)));cases r with
 | none=>exact wpAny_pure h₁
 | some v=>
  refine wpAny_bind (wpAny_mono h₁ (fun _ s₂ h₂=>?_) fun _ _ h'=>h'.elim);refine wpAny_bind (wpAny_mono h₂ (fun _ s₃ h₃=>wpAny_bind (wpAny_mono h₃ (fun ok s₄ h₄=>?_) fun _ _ h'=>h'.elim)) fun _ _ h'=>h'.elim);cases ok with
  | false=>exact wpAny_pure ⟨rfl,h₄⟩
  | true=>
   exact wpAny_bind (wpAny_bind (wpAny_mono h₄ (fun x s₅ h₅=>wpAny_bind (wpAny_mono h₅ (fun _ s₆ h₆=>wpAny_pure (wpAny_pure ⟨rfl,h₆⟩)) fun _ _ h'=>h'.elim)) fun _ _ h'=>h'.elim))
def PF(X:Cx)(ifs:List Expr)(t:TT):Prop:=
 ∀(pins:List (Addr×Obj)) (s:Shared) (σ:St) (H:Hp) (Q:Bool->Hp->Prop),Inv X pins σ H s->t σ H Q->
  wpAny (model X.prog X.w) X.A (forIn ifs true fun c r=>if r=true then do let ok <-isTrue c X.env (eval c X.env);pure (ForInStep.yield ok)else pure (ForInStep.yield r)) (TP X pins σ Q) X.xe s
def tYes:TT:=fun _ H Q=>Q true H
theorem qy{X:Cx}:PF X [] tYes:=fun _ _ _ H _ I h=>wpAny_tests_nil ⟨H,I,h⟩
theorem kr{X:Cx}{c:Expr}{t:TT}(hc:PT X c t):PF X [c] t:=fun pins s σ H Q I h=>wpAny_tests_one (hc pins s σ H Q I h)
noncomputable def closL(env:Env):List (Str×NameKind)->List (Str×Addr)->List (Str×Addr)
 | [],acc=>acc
 | (n,k)::r,acc=>closL env r (if k == .free then(n,(env.cells.lookup n).getD 0)::acc else acc)
theorem zh{scope:Scope}{env:Env}(h:∀y∈scope.names,y.2 = .free->∃c,env.cells.lookup y.1=some c):closureFor scope env=pure (closL env scope.names []):=by
 have go:∀(names:List (Str×NameKind)) (acc:List (Str×Addr)),(∀y∈names,y.2 = .free->∃c,env.cells.lookup y.1=some c)->
   (forIn (m:=Sem) names acc fun x r=>(match x with | (name,kind)=>if(kind == .free)=true then do let a <-cellOf env name;pure (ForInStep.yield ((name,a)::r))else pure (ForInStep.yield r)))=pure (closL env names acc):=by
  intro names
  induction names with
  | nil=>intro acc _;rfl
  | cons y r ih=>
   obtain⟨n,k⟩:=y;intro acc hh;rw[List.forIn_cons];cases hk:(k==NameKind.free)with
   | true=>
    have hk':k = .free:=by simpa using hk
    obtain⟨c,hc⟩:=hh (n,k) mem_cons_self hk';have ec:cellOf env n=pure c:=by unfold cellOf;rw[hc]
    simp only[hk,if_true,ec,pure_bind,closL,hc,Option.getD_some];exact ih _ fun y hy=>hh y (mem_cons_of_mem _ hy)
   | false=>
    simp only[hk,Bool.false_eq_true,if_false,pure_bind,closL];exact ih _ fun y hy=>hh y (mem_cons_of_mem _ hy)
 have g:=go scope.names [] h;unfold closureFor;simp only[g,pure_bind]
theorem Z9{env:Env}:∀(names:List (Str×NameKind)) (acc:List (Str×Addr)),(∀y∈names,y.2 = .free->∃c,env.cells.lookup y.1=some c)->(∀x c,acc.lookup x=some c->env.cells.lookup x=some c)->
  ∀x c,(closL env names acc).lookup x=some c->env.cells.lookup x=some c
 | [],_,_,ha,x,c,h=>ha x c h
 | (n,k)::r,acc,hh,ha,x,c,h=>by
  refine Z9 r _ (fun y hy=>hh y (mem_cons_of_mem _ hy)) (fun x c e=>?_) x c h;cases hk:(k==NameKind.free)with
  | false=>rw[hk]at e;exact ha x c e
  | true=>
   rw[hk]at e;have hk':k = .free:=by simpa using hk
   obtain⟨c',hc⟩:=hh (n,k) mem_cons_self hk';simp only[if_true,hc,Option.getD_some]at e;rw[lookup_cons]at e;cases hx:(x==n)with
   | true=>
    rw[hx]at e;have:x=n:=by simpa using hx
    rw[this,hc];exact e
   | false=>rw[hx]at e;exact ha x c e
theorem Z8{env:Env}:∀(names:List (Str×NameKind)) (acc:List (Str×Addr)) (x:Str),(∃c,acc.lookup x=some c)->∃c,(closL env names acc).lookup x=some c
 | [],_,_,h=>h
 | (n,k)::r,acc,x,h=>by
  refine Z8 r _ x ?_;cases hk:(k==NameKind.free)with
  | false=>exact h
  | true=>
   simp only[if_true];rw[lookup_cons];cases hx:(x==n)with
   | true=>exact⟨_,rfl⟩
   | false=>exact h
theorem zF{env:Env}:∀(names:List (Str×NameKind)) (acc:List (Str×Addr)) (x:Str),(x,NameKind.free)∈names->∃c,(closL env names acc).lookup x=some c
 | [],_,_,h=>by simp at h
 | (n,k)::r,acc,x,h=>by
  rcases mem_cons.mp h with e | h
  ·cases e;refine Z8 r _ _ ?_;simp
  ·exact zF r _ x h
theorem qJ{env:Env}:∀{names:List (Str×NameKind)} {x:Str} {k:NameKind},(names.map fun(n,k)=>if(k==NameKind.free&&env.scope.kind == .function&&env.kindOf n==some .cell)then(n,NameKind.cell)else(n,k)).lookup x=some k->
  ∃k',(x,k')∈names/\names.lookup x=some k'/\(k'=k\/(k' = .free/\k = .cell))
 | [],_,_,h=>by simp at h
 | (n,k₀)::r,x,k,h=>by
  have ih:=@qJ env r x k;rw[map_cons]at h;dsimp only at h;cases hx:x==n with
  | true=>
   have e:x=n:=by simpa using hx
   subst e;refine⟨k₀,mem_cons_self,by simp,?_⟩;by_cases hc:(k₀==NameKind.free&&env.scope.kind == .function&&env.kindOf x==some .cell)=true
   ·rw[if_pos hc]at h;simp only[lookup_cons,beq_self_eq_true]at h;simp only[Bool.and_eq_true,beq_iff_eq]at hc;exact .inr ⟨hc.1.1,(Option.some.inj h).symm⟩
   ·rw[if_neg hc]at h;simp only[lookup_cons,beq_self_eq_true]at h;exact .inl (Option.some.inj h)
  | false=>
   have h':(r.map fun(n,k)=>if(k==NameKind.free&&env.scope.kind == .function&&env.kindOf n==some .cell)then(n,NameKind.cell)else(n,k)).lookup x=some k:=by
    by_cases hc:(k₀==NameKind.free&&env.scope.kind == .function&&env.kindOf n==some .cell)=true
    ·rw[if_pos hc]at h;simpa only[lookup_cons,hx]using h
    ·rw[if_neg hc]at h;simpa only[lookup_cons,hx]using h
   obtain⟨k',h1,h2,h3⟩:=ih h';exact⟨k',mem_cons_of_mem _ h1,by simpa only[lookup_cons,hx]using h2,h3⟩
theorem zE:∀(names:List (Str×NameKind)) (n:Nat) (acc:List (Str×Addr)) (x:Str) (c:Addr),(cellsFrom n names acc).lookup x=some c->n<=c\/acc.lookup x=some c
 | [],_,_,_,_,h=>.inr h
 | (y,k)::r,n,acc,x,c,h=>by
  unfold cellsFrom at h;split at h
  ·rcases zE r (n+1) _ x c h with q | q
   ·exact .inl (by omega)
   ·rw[lookup_cons]at q;cases hx:x==y with
    | true=>rw[hx]at q;cases q;exact .inl (Nat.le_refl _)
    | false=>rw[hx]at q;exact .inr q
  ·exact zE r n acc x c h
theorem Y1:∀(names:List (Str×NameKind)) (n:Nat) (acc:List (Str×Addr)),(∀x c,acc.lookup x=some c->c<n)->(∀x y c,acc.lookup x=some c->acc.lookup y=some c->x=y)->
  ∀x y c,(cellsFrom n names acc).lookup x=some c->(cellsFrom n names acc).lookup y=some c->x=y
 | [],_,_,_,hi,x,y,c,h1,h2=>hi x y c h1 h2
 | (z,k)::r,n,acc,hb,hi,x,y,c,h1,h2=>by
  unfold cellsFrom at h1 h2;split at h1
  ·rename_i hk;rw[if_pos hk]at h2;refine Y1 r (n+1) _ (fun x c e=>?_) (fun x y c e1 e2=>?_) x y c h1 h2
   ·rw[lookup_cons]at e;cases hx:x==z with
    | true=>rw[hx]at e;cases e;exact Nat.lt_succ_self _
    | false=>rw[hx]at e;exact Nat.lt_succ_of_lt (hb x c e)
   ·rw[lookup_cons]at e1 e2;cases hx:x==z with
    | true=>
     rw[hx]at e1;cases e1;cases hy:y==z with
     | true=>rw[beq_iff_eq.mp hx,beq_iff_eq.mp hy]
     | false=>rw[hy]at e2;exact absurd (hb y n e2) (Nat.lt_irrefl _)
    | false=>
     rw[hx]at e1;cases hy:y==z with
     | true=>rw[hy]at e2;cases e2;exact absurd (hb x n e1) (Nat.lt_irrefl _)
     | false=>rw[hy]at e2;exact hi x y c e1 e2
  ·rename_i hk;rw[if_neg hk]at h2;exact Y1 r n acc hb hi x y c h1 h2
theorem yB:∀(names:List (Str×NameKind)) (n:Nat) (acc:List (Str×Addr)) (x:Str),(∃c,acc.lookup x=some c)->∃c,(cellsFrom n names acc).lookup x=some c
 | [],_,_,_,h=>h
 | (y,k)::r,n,acc,x,h=>by
  unfold cellsFrom;split
  ·refine yB r (n+1) _ x ?_;rw[lookup_cons];cases hx:x==y with
   | true=>exact⟨_,rfl⟩
   | false=>exact h
  ·exact yB r n acc x h
theorem Y0:∀(names:List (Str×NameKind)) (n:Nat) (acc:List (Str×Addr)) (x:Str),(x,NameKind.cell)∈names->∃c,(cellsFrom n names acc).lookup x=some c
 | [],_,_,_,h=>by simp at h
 | (y,k)::r,n,acc,x,h=>by
  unfold cellsFrom;rcases mem_cons.mp h with e | h
  ·cases e;simp only[beq_self_eq_true,if_true];exact yB r _ _ _ (by simp)
  ·split
   ·exact Y0 r _ _ x h
   ·exact Y0 r _ _ x h
theorem Y3:∀(names:List (Str×NameKind)) (n:Nat) (acc:List (Str×Addr)) (x:Str),(x,NameKind.cell)∉names->(cellsFrom n names acc).lookup x=acc.lookup x
 | [],_,_,_,_=>rfl
 | (y,k)::r,n,acc,x,h=>by
  have hr:(x,NameKind.cell)∉r:=fun q=>h (mem_cons_of_mem _ q)
  unfold cellsFrom;split
  ·rename_i hk;rw[Y3 r _ _ x hr,lookup_cons];cases hx:x==y with
   | true=>rw[beq_iff_eq.mp hx,beq_iff_eq.mp hk]at h;exact absurd mem_cons_self h
   | false=>rfl
  ·exact Y3 r n acc x hr
theorem Y2:∀(names:List (Str×NameKind)) (n₀ n:Nat) (acc:List (Str×Addr)) (x:Str) (c:Addr),n₀<=n->((x,NameKind.cell)∈names\/∀c,acc.lookup x=some c->n₀<=c)->(cellsFrom n names acc).lookup x=some c->n₀<=c
 | [],_,_,_,_,c,_,h,e=>h.elim (fun z=>by simp at z) fun z=>z c e
 | (y,k)::r,n₀,n,acc,x,c,hn,h,e=>by
  unfold cellsFrom at e;split at e
  ·refine Y2 r n₀ (n+1) _ x c (by omega) ?_ e;rcases h with h | h
   ·rcases mem_cons.mp h with q | q
    ·cases q;exact .inr fun c q=>by rw[lookup_cons,beq_self_eq_true]at q;cases q;exact hn
    ·exact .inl q
   ·refine .inr fun c q=>?_
    rw[lookup_cons]at q;cases hx:x==y with
    | true=>rw[hx]at q;cases q;exact hn
    | false=>rw[hx]at q;exact h c q
  ·rename_i hk;refine Y2 r n₀ n acc x c hn ?_ e;rcases h with h | h
   ·rcases mem_cons.mp h with q | q
    ·cases q;exact absurd rfl hk
    ·exact .inl q
   ·exact .inr h
theorem Zn:∀(names:List (Str×NameKind)) (h:Heap) (acc:List (Str×Addr)) (x:Str) (c:Addr),(cellsFrom h.objs.size names acc).lookup x=some c->acc.lookup x=some c\/(pushCells h names).IsCell c none
 | [],_,_,_,_,e=>.inl e
 | (y,k)::r,h,acc,x,c,e=>by
  unfold cellsFrom at e;unfold pushCells;split
  ·rename_i hk;rw[if_pos hk]at e;rw[<-Heap.size_push h {cls:=.type "cell",data:=.cell none}]at e;rcases Zn r _ _ x c e with q | q
   ·rw[lookup_cons]at q;cases hx:x==y with
    | true=>
     rw[hx]at q;cases q;exact .inr ⟨_,pushCells_keeps _ _ _ _ (Heap.get?_push_size _ rfl),rfl⟩
    | false=>rw[hx]at q;exact .inl q
   ·exact .inr q
  ·rename_i hk;rw[if_neg hk]at e;exact Zn r h acc x c e
theorem envC{M:Model}{A:Around}{E:Value->Shared->Prop}{s:Shared}{scope:Scope}{globals:Addr}{cl:List (Str×Addr)}{qual:Str}{env:Env}{Q:Env->Shared->Prop}
  (h:Q (newEnv scope s.heap.objs.size globals (cellsFrom (s.heap.objs.size+1) scope.names cl) qual none .none (some env) builtinsNs) {s with heap:=pushCells (s.heap.push {cls:=.type "dict",data:=.dict #[]}) scope.names}) :
  wpAny M A (newFunctionEnv scope globals cl [] qual none .none (some env)) Q E s:=by
 simp only[newFunctionEnv,Option.isSome_some,if_true];refine wpAny_bind (wpAny_alloc ?_);refine wpAny_bind (wpAny_layCells _ (fun name kind cells=>by cases hkc:kind==NameKind.cell<;>simp[hkc]) _ _ _ _ ?_);rw[show({s with heap:=s.heap.push {cls:=.type "dict",data:=.dict #[]}}:Shared).heap.objs.size=s.heap.objs.size+1 from Heap.size_push ..];rw[List.forIn_nil];exact wpAny_bind (wpAny_pure (wpAny_pure h))
noncomputable def blk(X:Cx)(scope:Scope)(ow:List Str)(ci:List Nat)(C:Addr)(s₀:Shared)(H₀:Hp)(ex:List Addr)(pn:List (Addr×Obj)):Cx:=
 {X with N:=ow++ci.map fun j=>X.N.getD j "",s₀:=s₀,H₀:=H₀,env:=compEnvC scope (cellsFrom (C+1) scope.names (closL X.env scope.names [])) C X.env,outer:=X.stack,stack:=X.stack,ex:=ex,fn:=fun x=>scope.names.lookup x==some .cell,pn:=pn,xe:=fun _ _=>False}
structure CompScope(X:Cx)(scope:Scope)(ow:List Str)(ci:List Nat):Prop where
 kind:scope.kind = .function
 cell:∀y∈scope.names,y.2 = .cell->scope.names.lookup y.1=some .cell
 names:∀y∈scope.names,y.2 = .local->scope.names.lookup y.1=some .local
 free:∀y∈scope.names,y.2 = .free->X.env.kindOf y.1=some .cell\/X.env.kindOf y.1=some .free
 ix:∀j∈ci,j<X.N.length/\scope.names.lookup (X.N.getD j "")=some .free
noncomputable def compOk(fsc:Scope)(N:List Str)(scope:Scope)(ci:List Nat):Bool:=
 scope.kind == .function&&scope.names.all (fun y=>y.2 != .cell||scope.names.lookup y.1==some .cell)&&scope.names.all (fun y=>y.2 != .local||scope.names.lookup y.1==some .local) &&
 scope.names.all (fun y=>y.2 != .free||fsc.names.lookup y.1==some .cell||fsc.names.lookup y.1==some .free)&&ci.all (fun j=>decide (j<N.length)&&scope.names.lookup (N.getD j "")==some .free)
theorem CompScope.of{X:Cx}{scope:Scope}{ow:List Str}{ci:List Nat}(fsc:Scope)(N:List Str)(e1:X.env.scope=fsc)(e2:X.N=N)(h:compOk fsc N scope ci=true):CompScope X scope ow ci:=by
 subst e1 e2;unfold compOk at h;simp only[Bool.and_eq_true,List.all_eq_true,Bool.or_eq_true,bne_iff_ne,ne_eq,beq_iff_eq,decide_eq_true_eq]at h;obtain⟨⟨⟨⟨h1,h2⟩,h3⟩,h4⟩,h5⟩:=h;refine⟨h1,fun y hy e=>(h2 y hy).resolve_left fun z=>z e,fun y hy e=>?_,fun y hy e=>?_,fun j hj=>h5 j hj⟩
 ·rcases h3 y hy with z | z
  ·exact absurd e z
  ·exact z
 ·rcases h4 y hy with(z | z) | z
  ·exact absurd e z
  ·exact .inl z
  ·exact .inr z
theorem Jc{X:Cx}{scope:Scope}{ow:List Str}{ci:List Nat}{C:Addr}{s₀:Shared}{H₀:Hp}{ex:List Addr}{pn:List (Addr×Obj)}(N:List Str)(e:X.N=N)(h:(ow++ci.map fun j=>N.getD j "").Nodup):(blk X scope ow ci C s₀ H₀ ex pn).N.Nodup:=by
 subst e;exact h
noncomputable def capAt(σ:St)(j:Nat):Option V:=match σ[j]? with | some o=>o | none=>none
noncomputable def capS(n:Nat)(ci:List Nat)(σ:St):St:=List.replicate n none++ci.map (capAt σ)
def tComp(wi:TI)(n:Nat)(ci:List Nat)(g:TG)(tf:TT)(te:TE):TE:=fun σ H Q=>wi σ H fun J H1=>∃W:Nat->Nat->List V->Hp->Prop,(∃m,W 0 m [] H1)/\∀i m ys H,W i m ys H->
 (J.stop i H/\ys.length<=sizeLine/\∀p,H p=none->Q (.ref p) (upd H p (.lst ys)))\/
 (J.go i H/\∃N:List V->Hp->Prop,(∀ys' H',N ys' H'->∃m',m'<m/\W (i+1) m' ys' H')/\∀x H',J.yld i H x H'->g x (capS n ci σ) H' fun σ2 H2=>tf σ2 H2 fun b H3=>
  if b=true then te σ2 H3 fun v H4=>ys.length<sizeLine/\N (ys++[v]) H4 else N ys H3)
section
variable{X:Cx}{pins:List (Addr×Obj)}{σ:St}{H:Hp}{s:Shared}{elt iter tg:Expr}{ifs:List Expr}{scope:Scope}{pos:Pos}{ow:List Str}{ci:List Nat}{g:TG}{tf:TT}{te:TE}
theorem CompScope.cells(S:CompScope X scope ow ci)(ok:X.Ok):∀y∈scope.names,y.2 = .free->∃c,X.env.cells.lookup y.1=some c:=fun y hy e=>ok.has y.1 (S.free y hy e)
theorem CompScope.sub(S:CompScope X scope ow ci)(ok:X.Ok):∀x c,(closL X.env scope.names []).lookup x=some c->X.env.cells.lookup x=some c:=
 Z9 scope.names [] (S.cells ok) fun _ _ e=>by simp at e
theorem CompScope.cel(S:CompScope X scope ow ci)(ok:X.Ok){C:Addr}{x:Str}{c:Addr}(h:(cellsFrom (C+1) scope.names (closL X.env scope.names [])).lookup x=some c):C+1<=c\/X.env.cells.lookup x=some c:=
 (zE _ _ _ _ _ h).imp id (S.sub ok x c)
theorem W0(S:CompScope X scope ow ci)(I:Inv X pins σ H s){C:Addr}{ex:List Addr}{pn:List (Addr×Obj)}(hC:s.heap.objs.size<=C)
  (hex:∀b∈ex,b<s.heap.objs.size/\FpOk X pins H b):(blk X scope ow ci C s H ex pn).Ok where
 mod:=I.ok.mod
 kind:=S.kind
 glob:=I.ok.glob
 blt:=I.ok.blt
 above:=hC
 inj:=Y1 scope.names (C+1) _ (fun x c e=>by
   obtain⟨v,q⟩:=I.cell x c (S.sub I.ok x c e);exact Nat.lt_succ_of_le (Nat.le_of_lt (Nat.lt_of_lt_of_le q.lt hC))) fun x y c h1 h2=>I.ok.inj x y c (S.sub I.ok x c h1) (S.sub I.ok y c h2)
 has:=fun x h=>by
  have h':∃k,(relabel scope X.env).names.lookup x=some k/\(k = .cell\/k = .free):=by
   rcases h with h | h
   ·exact⟨_,h,.inl rfl⟩
   ·exact⟨_,h,.inr rfl⟩
  obtain⟨k,hl,hk⟩:=h';obtain⟨k',hm,_,e⟩:=qJ (env:=X.env) hl;have hf:k' = .cell\/k' = .free:=by
   rcases e with e | ⟨e,_⟩
   ·subst e;exact hk
   ·exact .inr e
  rcases hf with hf | hf
  ·subst hf;exact Y0 scope.names _ _ x hm
  ·subst hf;exact yB scope.names _ _ x (zF scope.names [] x hm)
 cab:=fun x c h e=>Nat.le_trans (Nat.le_trans hC (Nat.le_succ _)) (Y2 scope.names (C+1) (C+1) _ x c (Nat.le_refl _) (.inl (PySem.mem_of_lookup (beq_iff_eq.mp h))) e)
 hd:=I.ok.hd
 frames:=I.ok.frames
 stk:=.inl rfl
 exf:=fun b hb=>⟨Nat.ne_of_lt (Nat.lt_of_lt_of_le (hex b hb).1 hC),fun x c e=>(S.cel I.ok e).elim (fun q z=>Nat.lt_irrefl _ (Nat.lt_of_lt_of_le (z▸(hex b hb).1) (Nat.le_trans hC (Nat.le_trans (Nat.le_succ _) q)))) fun q=>(hex b hb).2.2.2.2.2.1 x c q⟩
 bs:=I.bs
 bsz:=Nat.le_trans I.ok.bsz I.sz
 noex:=fun b o e hb=>by
  obtain⟨_,_,_,h3,_⟩:=(hex b hb).2;rcases h3 with z | z
  ·exact I.ok.noex b o e z
  ·exact absurd (Nat.lt_of_lt_of_le (Heap.lt_size e) (Nat.le_trans I.ok.bsz z)) (Nat.lt_irrefl _)
 exfs:=fun b hb z=>by
  obtain⟨_,h1,h2,_⟩:=(hex b hb).2;rcases mem_cons.mp (I.stkSub b z)with e | e
  ·exact h1 e
  ·exact h2 e
 funs:=I.stack
 frf:=I.stkFree
theorem Kl(S:CompScope X scope ow ci)(I:Inv X pins σ H s){C:Addr}{ex:List Addr}{h₁:Heap}{t₁:Nat}{m₀:Str->Option Value}(hC:s.heap.objs.size<=C)
  (hex:∀b∈ex,b<s.heap.objs.size/\FpOk X pins H b) (hn:h₁.Ns C m₀) (k:∀b o,s.heap.get? b=some o->h₁.get? b=some o)
  (hnew:∀x c,(cellsFrom (C+1) scope.names (closL X.env scope.names [])).lookup x=some c->(closL X.env scope.names []).lookup x=some c\/h₁.IsCell c none) :
  Inv (blk X scope ow ci C s H ex (X.pn++pins)) [] (capS ow.length ci σ) H {s with heap:=h₁,toks:=t₁}:=by
 have ok:=W0 (pn:=X.pn++pins) S I hC hex;refine⟨ok,rfl,I.bare,Un.kept k,⟨m₀,hn,fun i x v e1 e2 e3=>?_⟩,fun x c e=>?_,I.hok.fresh hC,fun x c e=>(S.cel I.ok e).elim (fun q=>I.hok.fresh (Nat.le_trans hC (Nat.le_trans (Nat.le_succ _) q))) (I.freeC x c),fun p hp=>?_,I.hok.kept k,?_⟩
 ·have e1':(ow++ci.map fun j=>X.N.getD j "")[i]?=some x:=e1;unfold capS at e2;by_cases hi:i<ow.length
  ·rw[List.getElem?_append_left (by simpa using hi),List.getElem?_replicate,if_pos hi]at e2;cases e2
  ·rw[List.getElem?_append_right (by simpa using hi),List.getElem?_map,length_replicate]at e2;rw[List.getElem?_append_right (by omega),List.getElem?_map]at e1';cases hj:ci[i-ow.length]? with
   | none=>rw[hj]at e2;cases e2
   | some j=>
    rw[hj]at e1' e2;obtain⟨hl,hf⟩:=S.ix j (List.mem_of_getElem? hj);have ex':X.N.getD j ""= x:=Option.some.inj e1';have eN:X.N[j]?=some x:=by
     rw[<-ex',getD_eq_getElem?_getD,List.getElem?_eq_getElem hl];rfl
    have ev:σ[j]?=some (some v):=by
     have e2':capAt σ j=some v:=Option.some.inj e2;unfold capAt at e2';cases q:σ[j]? with
     | none=>rw[q]at e2';cases e2'
     | some o=>rw[q]at e2';rw[show o=some v from e2']
    rw[ex']at hf;have hmem:(x,NameKind.free)∈scope.names:=PySem.mem_of_lookup hf;have hk:=S.free _ hmem rfl;obtain⟨m,_,hl'⟩:=I.loc;have vis:Vis X.env.scope x:=by
     rcases hk with q | q
     ·exact .inr (.inl q)
     ·exact .inr (.inr q)
    obtain⟨u,r,lk⟩:=hl' j x v eN ev vis;refine⟨u,r,.inr ⟨?_,?_⟩⟩
    ·rcases e3 with q | q | q
     ·obtain⟨k',_,h2,h3⟩:=qJ (env:=X.env) q;rw[hf]at h2;cases h2;rcases h3 with h3 | ⟨_,h3⟩<;>cases h3
     ·exact .inl q
     ·exact .inr q
    ·rcases lk with⟨q,_⟩ | ⟨_,c,hc,hcell⟩
     ·have q':X.env.kindOf x=some .local:=q;rcases hk with z | z<;>(rw[z]at q';cases q')
     ·obtain⟨c',hc'⟩:=zF (env:=X.env) scope.names [] x hmem;have e:=S.sub I.ok x c' hc';rw[hc]at e;cases e;refine⟨c,?_,hcell.keeps k⟩;show(cellsFrom (C+1) scope.names (closL X.env scope.names [])).lookup x=some c;rw[Y3 scope.names _ _ x fun z=>?_]
      ·exact hc'
      ·have:=S.cell _ z rfl;rw[hf]at this;cases this
 ·rcases hnew x c e with q | q
  ·obtain⟨v,q⟩:=I.cell x c (S.sub I.ok x c q);exact⟨v,q.keeps k⟩
  ·exact⟨_,q⟩
 ·have hp':p∈X.pn++pins:=by
   rcases mem_append.mp hp with z | z
   ·exact z
   ·cases z
  obtain⟨e,n,ne,nf,d⟩:=I.pin p hp';refine⟨k _ _ e,n,Nat.ne_of_lt (Nat.lt_of_lt_of_le (Heap.lt_size e) hC),fun z=>?_,d⟩;rcases mem_cons.mp (I.stkSub p.1 z)with q | q
  ·exact ne q
  ·exact nf q
 ·show(capS ow.length ci σ).length=(ow++ci.map fun j=>X.N.getD j "").length;simp[capS]
theorem Inv.forget{σ':St}(I:Inv X pins σ' H s)(n:Nat)(ci:List Nat)(σ:St)(hl:(capS n ci σ).length=X.N.length)(h:∀i v,n<=i->(capS n ci σ)[i]?=some (some v)->σ'[i]?=some (some v)):Inv X pins (capS n ci σ) H s:=
 I.weak (by rw[hl,I.len]) fun i v e=>by
  by_cases hi:n<=i
  ·exact h i v hi e
  ·unfold capS at e;rw[List.getElem?_append_left (by simpa using hi),List.getElem?_replicate,if_pos (by omega)]at e;cases e
def GKeeps(n:Nat)(g:TG):Prop:=∀x σ H (Q:St->Hp->Prop),g x σ H Q->g x σ H fun σ2 H2=>(∀(i:Nat) v,n<=i->σ[i]?=some (some v)->σ2[i]?=some (some v))/\Q σ2 H2
theorem Jy{n i:Nat}(h:i<n):GKeeps n (gName i):=fun x σ H Q q=>⟨fun j v hj e=>by rw[List.getElem?_set_ne (by omega)];exact e,q⟩
theorem Wg{K:Frg}{n i j:Nat}(hi:i<n)(hj:j<n):GKeeps n (gTup K 2 (gCons (gName i) (gCons (gName j) gNil))):=fun x σ H Q q=>by
 obtain⟨a,xs,e1,e2,e3,v,r,e4,v',r',e5,e6,q⟩:=q;refine⟨a,xs,e1,e2,e3,v,r,e4,v',r',e5,e6,fun k u hk e=>?_,q⟩;rw[List.getElem?_set_ne (by omega),List.getElem?_set_ne (by omega)];exact e
theorem Zo{E:Value->Shared->Prop}{J:It}{fp:List Addr}{it:Addr}{tn:Nat->Heap->Prop}{RR:Value->Addr->Result->Shared->Prop}(hc:X.calm=true)(S:CompScope X scope ow ci)(hk:GKeeps ow.length g)
  (hb:∀C s₀ H₀ ex pn,PG (blk X scope ow ci C s₀ H₀ ex pn) tg g/\PF (blk X scope ow ci C s₀ H₀ ex pn) ifs tf/\PE (blk X scope ow ci C s₀ H₀ ex pn) elt te)
  (I:Inv X pins σ H s) (T:Turn X.prog X.w X.K tg J fp it tn) (st:tn 0 s.heap) (hf:∀b∈fp,FpOk X pins H b) (Z:List V->Hp->Prop)
  (W:Nat->Nat->List V->Hp->Prop) (w0:∃m,W 0 m [] H)
  (turn:∀i m ys H,W i m ys H->(J.stop i H/\ys.length<=sizeLine/\Z ys H)\/
   (J.go i H/\∃N:List V->Hp->Prop,(∀ys' H',N ys' H'->∃m',m'<m/\W (i+1) m' ys' H')/\∀x H',J.yld i H x H'->g x (capS ow.length ci σ) H' fun σ2 H2=>tf σ2 H2 fun b H3=>
    if b=true then te σ2 H3 fun v H4=>ys.length<sizeLine/\N (ys++[v]) H4 else N ys H3))
  (fin:∀D C s' H' m ys,Inv X pins σ (upd H' D (.lst ys)) s'->H' D=none->Z ys H'->s'.heap.Ns C m->s.heap.objs.size<=C->C≠D->H' C=none->RR (.ref D) C (.ok .next) s') :
  wpAny (model X.prog X.w) X.A (newList []) (fun acc s₃=>wpAny (model X.prog X.w) X.A (newFunctionEnv scope X.env.globals (closL X.env scope.names []) [] X.env.qual none .none (some X.env)) (fun cenv s₄=>
   codeAny (model X.prog X.w) X.A (.compStart (.ListComp elt [⟨tg,iter,ifs,0⟩] scope pos) 0 (.ref it) acc {cenv with scope:=relabel scope X.env}) (RR acc cenv.locals) s₄) E s₃) E s:=by
 refine wpAny_newObj_type (envC ?_);dsimp only;generalize hs3:({s with heap:=s.heap.push {cls:=.type "list",dict:=none,data:=.seq ([]:List Value).toArray}}:Shared)=s3;have e3:s3.heap=s.heap.push {cls:=.type "list",dict:=none,data:=.seq ([]:List Value).toArray}:=by rw[<-hs3]
 rw[<-e3];generalize hh1:pushCells (s3.heap.push {cls:=.type "dict",data:=.dict #[]}) scope.names=h₁;have k3:∀b o,s.heap.get? b=some o->s3.heap.get? b=some o:=fun b o e=>by rw[e3];exact Heap.get?_push_of_some _ e
 have hsz:s3.heap.objs.size=s.heap.objs.size+1:=by rw[e3,Heap.size_push]
 have I3:Inv X pins σ H s3:=by rw[<-hs3];exact I.kept (t':=s.toks) fun b o e=>Heap.get?_push_of_some _ e
 have hD3:s3.heap.get? s.heap.objs.size=some {cls:=.type "list",dict:=none,data:=.seq ([]:List Value).toArray}:=by rw[e3];exact Heap.get?_push_size _ rfl
 generalize hDD:s.heap.objs.size=D at *;generalize hCC:s3.heap.objs.size=C at *;have hDC:D<C:=by omega
 have hHD:H D=none:=I.hok.fresh (Nat.le_of_eq hDD);have fpD:FpOk X pins H D:=I.fpOk (Nat.le_of_eq hDD) hHD;have ltD:∀(b:Addr) o,s.heap.get? b=some o->b<D:=fun b o e=>by rw[<-hDD];exact Heap.lt_size e
 have ltC:∀(b:Addr) o,s3.heap.get? b=some o->b<C:=fun b o e=>by rw[<-hCC];exact Heap.lt_size e
 have hflt:∀b∈fp,b<D:=fun b hb=>by
  obtain⟨o,e,_⟩:=T.obj 0 _ st b hb;exact ltD b o e
 have hex:∀b∈D::fp,b<s3.heap.objs.size/\FpOk X pins H b:=fun b hb=>by
  rw[hCC];rcases mem_cons.mp hb with rfl | hb
  ·exact⟨hDC,fpD⟩
  ·exact⟨Nat.lt_trans (hflt b hb) hDC,hf b hb⟩
 have kk:∀b o,s3.heap.get? b=some o->h₁.get? b=some o:=fun b o e=>by rw[<-hh1];exact pushCells_keeps _ _ b o (Heap.get?_push_of_some _ e)
 have hns₁:h₁.Ns C fun _=>none:=by rw[<-hh1,<-hCC];exact(Heap.Ns.new s3.heap (.type "dict")).keeps (pushCells_keeps _ _)
 have hnew:∀x c,(cellsFrom (C+1) scope.names (closL X.env scope.names [])).lookup x=some c->(closL X.env scope.names []).lookup x=some c\/h₁.IsCell c none:=fun x c e=>by
  rw[<-hh1];refine Zn scope.names _ _ x c ?_;rw[Heap.size_push,hCC];exact e
 obtain⟨hg,hfl,he⟩:=hb C s3 H (D::fp) (X.pn++pins);generalize hY:blk X scope ow ci C s3 H (D::fp) (X.pn++pins)=Y at hg hfl he;have Yprog:Y.prog=X.prog:=by rw[<-hY];rfl
 have Yw:Y.w=X.w:=by rw[<-hY];rfl
 have YK:Y.K=X.K:=by rw[<-hY];rfl
 have YA:Y.A=X.A:=by rw[<-hY];rfl
 have Yc:Y.calm=true:=by rw[<-hY];exact hc
 have Yenv:Y.env=compEnvC scope (cellsFrom (C+1) scope.names (closL X.env scope.names [])) C X.env:=by rw[<-hY];rfl
 have Yxe:Y.xe=fun _ _=>False:=by rw[<-hY];rfl
 have Yfs:Y.fs=frs X.stack:=by rw[<-hY];rfl
 have Yex:Y.ex=D::fp:=by rw[<-hY];rfl
 have Ypn:Y.pn=X.pn++pins:=by rw[<-hY];rfl
 have Ys:Y.s₀=s3:=by rw[<-hY];rfl
 have YH:Y.H₀=H:=by rw[<-hY];rfl
 have YN:(capS ow.length ci σ).length=Y.N.length:=by rw[<-hY];show(capS ow.length ci σ).length=(ow++ci.map fun j=>X.N.getD j "").length;simp[capS]
 have own:∀b∈D::fp,b≠Y.env.locals/\b∉Y.fs/\b∈Y.ex/\(∀x c,Y.env.cells.lookup x=some c->c≠b)/\∀p∈Y.pn,p.1≠b:=fun b hb=>by
  obtain⟨h0,h1,h2,h3,h4,h5⟩:=(hex b hb).2;refine⟨by rw[Yenv];exact Nat.ne_of_lt (hCC▸(hex b hb).1),fun z=>?_,by rw[Yex];exact hb,fun x c e=>?_,by rw[Ypn];exact h5⟩
  ·rw[Yfs]at z;rcases mem_cons.mp (I.stkSub b z)with q | q
   ·exact h1 q
   ·exact h2 q
  ·rw[Yenv]at e;rcases S.cel I.ok e with q | q
   ·exact fun z=>Nat.lt_irrefl _ (Nat.lt_of_lt_of_le (hCC▸(hex b hb).1) (Nat.le_trans (Nat.le_succ _) (z▸q)))
   ·exact h4 x c q
 have nDf:D∉fp:=fun z=>Nat.lt_irrefl _ (hflt D z)
 have loop:∀s4:Shared,Inv Y [] (capS ow.length ci σ) H s4->tn 0 s4.heap->s4.heap.PlainList D #[]->
   codeAny (model X.prog X.w) X.A (.compLoop (.ListComp elt [⟨tg,iter,ifs,0⟩] scope pos) 0 (.ref it) (.ref D) (compEnvC scope (cellsFrom (C+1) scope.names (closL X.env scope.names [])) C X.env)) (RR (.ref D) C) s4:=by
  intro s4 J4 st4 pl4;obtain⟨m0,w0⟩:=w0;refine compLoopT (fun n s'=>∃i ys its H',Inv Y [] (capS ow.length ci σ) H' s'/\tn i s'.heap/\(∀b∈fp,H' b=none)/\H' D=none/\s'.heap.PlainList D its/\Vals ys its.toList/\W i n ys H') ?_ m0
   ⟨0,[],#[],H,J4,st4,fun b hb=>(hf b hb).1,hHD,pl4,.nil,w0⟩
  rintro n s5 ⟨i,ys,its,H5,J5,st5,fr5,hD5,⟨pn5,pl5⟩,va5,w5⟩;have vl:ys.length=its.size:=by have:=va5.length;simpa using this
  have pinD:∀{H':Hp} {s':Shared} {σ':St},Inv Y [] σ' H' s'->H' D=none->∀{o:Obj},s'.heap.get? D=some o->(∀v,o.data≠.cell v)->Inv Y [(D,o)] σ' H' s':=fun {H' s' σ'} K hD o e d=>
   K.pins_of fun p hp=>by
    have ep:p=(D,o):=by simpa using hp
    subst ep;obtain⟨a1,a2,_⟩:=own D mem_cons_self;exact⟨e,hD,a1,a2,d⟩
  have P5:=pinD J5 hD5 pl5 (fun v z=>by cases z);have fpk:∀{H':Hp},(∀b∈fp,H' b=none)->∀{o:Obj},∀b∈fp,FpOk Y [(D,o)] H' b:=fun {H'} hn {o} b hb=>by
   obtain⟨a1,a2,a3,a4,a5⟩:=own b (mem_cons_of_mem _ hb);refine⟨hn b hb,a1,a2,.inl a3,a4,fun p hp=>?_⟩;rcases mem_append.mp hp with q | q
   ·exact a5 p q
   ·have ep:p=(D,o):=by simpa using q
    subst ep;exact fun z=>nDf (by have z':D=b:=z;rw[z'];exact hb)
  rcases turn i n ys H5 w5 with⟨stop,hsz5,z5⟩ | ⟨go,NN,hNN,step⟩
  ·have d:=T.done Y Yprog Yw YK Yc i [(D,_)] s5 _ H5 (fun _ _=>False) P5 (fpk fr5) st5 stop;rw[YA]at d;refine thn d fun r s6 ⟨hr,J6⟩=>?_
   subst hr;have D6:=(J6.pin (D,_) (mem_append_right _ mem_cons_self)).1;obtain⟨mC,hnC,_⟩:=J6.loc;rw[Yenv]at hnC;have hnC':s6.heap.Ns C mC:=hnC;have hC6:H5 C=none:=by have:=J6.free;rw[Yenv]at this;exact this
   refine fin D C s6 H5 mC ys ?_ hD5 z5 hnC' (Nat.le_of_lt hDC) (Nat.ne_of_gt hDC) hC6;have B:=J6.base;rw[Yfs,Yex,YH,Ys]at B;have low:∀b o,s.heap.get? b=some o->b≠D/\b≠C:=fun b o e=>⟨Nat.ne_of_lt (ltD b o e),Nat.ne_of_lt (Nat.lt_trans (ltD b o e) hDC)⟩
   have nex:∀b o,s.heap.get? b=some o->b∉fp->b∉D::fp:=fun b o e hb z=>by
    rcases mem_cons.mp z with q | q
    ·exact(low b o e).1 q
    ·exact hb q
   have uN:Un (frs X.stack) fp H (upd H5 D (.lst ys)) s.heap s6.heap:=by
    refine⟨fun b o e n hb hx=>B.keep b o (k3 b o e) n hb (nex b o e hx),fun b o e n hb hx=>B.slot b o (k3 b o e) n hb (nex b o e hx),fun b o e n hx=>?_,fun b o e hx=>B.there b o (k3 b o e) (nex b o e hx),fun b xs q=>?_,fun b o u q=>?_,fun b ps q=>?_⟩
    ·rw[jm (low b o e).1];exact B.free b o (k3 b o e) n (nex b o e hx)
    ·rw[jm (jf (B.tups b xs q) hD5)];exact B.tups b xs q
    ·rw[jm (jf (B.frzs b o u q) hD5)];exact B.frzs b o u q
    ·obtain⟨mo,q'⟩:=B.tbls b ps q;exact⟨mo,by rw[jm (jf q' hD5)];exact q'⟩
   have hok6:HOk X.prog X.w H5 s6.heap:=by rw[<-Yprog,<-Yw];exact J6.hok
   have hokN:HOk X.prog X.w (upd H5 D (.lst ys)) s6.heap:=fun b u e=>by
    by_cases hbD:b=D
    ·subst hbD;rw[jh]at e;cases e;exact⟨hsz5,its.toList,_,va5,by simpa using D6⟩
    ·rw[jm hbD]at e;exact(hok6 b u e).stay (fun c v _ q=>q) (fun c q=>by rw[jm (jf q hD5)];exact q) fun c xs q=>by rw[jm (jf q hD5)];exact q
   refine I.call' (by rw[J6.os,Ys,<-hs3]) uN hokN J6.bare fun b hb=>?_
   obtain⟨h0,h1,h2,h3,h4,h5⟩:=hf b hb;exact⟨h3,h1,h4,h5⟩
  ·have d:=T.item Y Yprog Yw YK Yc i [(D,_)] s5 _ H5 (fun _ _=>False) P5 (fpk fr5) st5 go;rw[YA]at d;refine thn d fun r s6 ⟨u,hr,h6⟩=>?_
   subst hr;refine thn h6 fun _ s7 ⟨x,H7,J7,r7,y7,st7,fr7⟩=>?_
   have J7':=J7.pinned (fpk fr7) (T.obj _ _ st7);have h8:=hg _ s7 _ H7 x u _ J7' r7 (hk _ _ _ _ (step x H7 y7));rw[Yprog,Yw,YA,Yenv,Yxe]at h8;refine thn h8 fun _ s8 ⟨σ8,H8,J8,ks8,q8⟩=>?_
   have h9:=hfl _ s8 σ8 H8 _ J8 q8;rw[Yprog,Yw,YA,Yenv,Yxe]at h9;refine thn h9 fun b s9 ⟨H9,J9,q9⟩=>?_
   have back:∀{H':Hp} {s':Shared},Inv Y ([(D,({cls:=.type "list",data:=.seq its pn5}:Obj))]++pinsAt fp s7.heap) σ8 H' s'->Inv Y [] (capS ow.length ci σ) H' s'/\tn (i+1) s'.heap/\(∀b∈fp,H' b=none)/\H' D=none/\s'.heap.get? D=some {cls:=.type "list",data:=.seq its pn5}:=fun {H' s'} K=>by
    have pD:=K.pin (D,_) (mem_append_right _ (mem_append_left _ mem_cons_self));refine⟨(K.pins_of (pins':=[]) (by simp)).forget _ _ _ YN (fun j v hj e=>ks8 j v hj e),T.keep _ _ _ st7 fun b hb o e=>(K.pin (b,o) (mem_append_right _ (mem_append_right _ (Qr hb e)))).1,fun b hb=>?_,pD.2.1,pD.1⟩;obtain⟨o,e,_⟩:=T.obj _ _ st7 b hb;exact(K.pin (b,o) (mem_append_right _ (mem_append_right _ (Qr hb e)))).2.1
   cases b with
   | false=>
    rw[if_neg Bool.false_ne_true]at q9|-;obtain⟨m',hm,w9⟩:=hNN _ _ q9;obtain⟨K9,st9,fr9,hD9,e9⟩:=back J9;exact⟨m',hm,i+1,ys,its,H9,K9,st9,fr9,hD9,⟨_,e9⟩,va5,w9⟩
   | true=>
    rw[if_pos rfl]at q9|-;have h10:=he _ s9 σ8 H9 _ J9 q9;rw[Yprog,Yw,YA,Yenv,Yxe]at h10;refine thn h10 fun z s10 ⟨v,H10,J10,r10,hlt,n10⟩=>?_
    obtain⟨m',hm,w10⟩:=hNN _ _ n10;obtain⟨K10,st10,fr10,hD10,e10⟩:=back J10;refine wpAny_list_append_plain (hsz:=by rw[<-vl];exact Nat.le_of_lt hlt) ⟨_,e10⟩ fun h11 pl11 hs11=>?_
    obtain⟨a1,a2,a3,a4,a5⟩:=own D mem_cons_self;have K11:Inv Y [] (capS ow.length ci σ) H10 {s10 with heap:=h11}:=K10.turned (t':=s10.toks) (fun b o hb e=>(hs11.2 b hb).trans e) hD10 a1 (.inl a3) a4 (fun p hp=>a5 p (by simpa using hp));refine⟨m',hm,i+1,ys++[v],its.push z,H10,K11,T.keep _ _ _ st10 fun b hb o e=>(hs11.2 b (fun q=>nDf (q▸hb))).trans e,fr10,hD10,pl11,?_,w10⟩;rw[Array.toList_push];exact va5.append (.cons r10 .nil)
 have J4:Inv Y [] (capS ow.length ci σ) H {s3 with heap:=h₁}:=by
  rw[<-hY];exact Kl (t₁:=s3.toks) S I3 (Nat.le_of_eq hCC) hex hns₁ kk hnew
 have st4:tn 0 h₁:=T.keep _ _ _ st fun b _ o e=>kk b o (k3 b o e)
 have pl4:h₁.PlainList D #[]:=⟨_,kk _ _ hD3⟩
 have L:=loop _ J4 st4 pl4;subst hs3;exact codeAny_compStart_list L (T.self _ 0 _ _ _ st4 L)
variable{wi:TI}
theorem JL(hc:X.calm=true)(S:CompScope X scope ow ci)(hk:GKeeps ow.length g)(hi:PI X tg iter wi)
  (hb:∀C s₀ H₀ ex pn,PG (blk X scope ow ci C s₀ H₀ ex pn) tg g/\PF (blk X scope ow ci C s₀ H₀ ex pn) ifs tf/\PE (blk X scope ow ci C s₀ H₀ ex pn) elt te)
  (hs:∀x,foldedSetIterable iter X.env x=pure x:=by intro _;rfl):PE X (.ListComp elt [⟨tg,iter,ifs,0⟩] scope pos) (tComp wi ow.length ci g tf te):=by
 intro pins s σ H Q I h;rw[eval_ListComp];refine wpAny_comprehension_free (use:=none) rfl hs (zh (S.cells I.ok)) S.kind S.names (thn (hi pins s σ H _ I h) fun v s1 h1=>thn h1 fun itv s2 h2=>?_);obtain⟨it,fp,tn,J,H2,e,I2,T,st2,f2,W,w0,turn⟩:=h2;subst e;refine Zo (RR:=fun acc C=>compPost (model X.prog X.w) X.A X.xe none (EP X pins σ Q) acc C) hc S hk hb I2 T st2 f2 (fun ys H=>∀p,H p=none->Q (.ref p) (upd H p (.lst ys))) W w0 turn fun D C s' H' m ys K hD z hn hC hCD hC0=>?_
 refine⟨m,hn,fun h' hs'=>⟨.ref D,upd H' D (.lst ys),?_,rfl,z D hD⟩⟩;obtain⟨f0,f1,f2',f3,f4,f5⟩:=I2.fpOk (H':=upd H' D (.lst ys)) hC (by rw[jm hCD];exact hC0);exact K.turned (t':=s'.toks) (fun b o hb e=>(hs'.2 b hb).trans e) f0 f1 f3 f4 f5
theorem yX{i:Nat}{x:Str}{px spos:Pos}(hc:X.calm=true)(S:CompScope X scope ow ci)(hk:GKeeps ow.length g)(hN:X.N.Nodup)(hx1:X.N[i]?=some x)(hx:Loc X.env.scope x)(hi:PI X tg iter wi)
  (hb:∀C s₀ H₀ ex pn,PG (blk X scope ow ci C s₀ H₀ ex pn) tg g/\PF (blk X scope ow ci C s₀ H₀ ex pn) ifs tf/\PE (blk X scope ow ci C s₀ H₀ ex pn) elt te)
  (hsw:swapsWith (.ListComp elt [⟨tg,iter,ifs,0⟩] scope pos) (some (.Name x px)) spos.line X.env=pure true:=by rfl)
  (hf:X.fn x=true\/X.env.scope.names.lookup x=some .local:=by first | exact .inl rfl | exact .inr rfl | assumption)
  (hs:∀x,foldedSetIterable iter X.env x=pure x:=by intro _;rfl):PS X (.Assign [.Name x px] (.ListComp elt [⟨tg,iter,ifs,0⟩] scope pos) spos) (tAsg (tComp wi ow.length ci g tf te) (gName i)):=by
 intro pins s σ H D I h;rw[exec_Assign_Name_used _ _ _ _ hsw];refine wpAny_bind (wpAny_standAt (wpAny_bind ?_));show wpAny _ X.A (do let _ <-comprehension (.ListComp elt [⟨tg,iter,ifs,0⟩] scope pos) scope X.env _ (newList []) false (eval iter X.env) (some (assign (.Name x px) X.env))) _ _ s;refine wpAny_bind (wpAny_mono (wpAny_comprehension_free (use:=some (assign (.Name x px) X.env)) (Q:=fun _ s'=>SP X pins D .next s') rfl hs (zh (S.cells I.ok)) S.kind S.names
  (thn (hi pins s σ H _ I h) fun v s1 h1=>thn h1 fun itv s2 h2=>?_)) (fun _ s' hq=>wpAny_pure (wpAny_pure hq)) fun _ _ e=>e)
 obtain⟨it,fp,tn,J,H2,e,I2,T,st2,f2,W,w0,turn⟩:=h2;subst e;refine Zo (RR:=fun acc C=>compPost (model X.prog X.w) X.A X.xe (some (assign (.Name x px) X.env)) (fun _ s'=>SP X pins D .next s') acc C) hc S hk hb I2 T st2 f2
  (fun ys H=>∀p,H p=none->gName i (.ref p) σ (upd H p (.lst ys)) D.nx) W w0 turn fun P C s' H' m ys K hD z hn hC hCD hC0=>?_
 obtain⟨f0,f1,f2',f3,f4,f5⟩:=I2.fpOk (H':=upd H' P (.lst ys)) hC (by rw[jm hCD];exact hC0);show wpAny _ X.A (assign (.Name x px) X.env (.ref P)) _ _ s';refine wpAny_assign_Name (ym K hN hx1 hx (v:=.ref P) rfl (fun s3 K3 ⟨a,hs3,ha⟩=>⟨m,hn.sameBut hs3 ?_,fun h' hs'=>?_⟩) hf)
 ·rcases ha with q | q
  ·rw[q];exact f1
  ·exact fun z=>f4 x a q z.symm
 ·exact⟨_,_,K3.turned (t':=s3.toks) (fun b o hb e=>(hs'.2 b hb).trans e) f0 f1 f3 f4 f5,z P hD⟩
theorem jQ{K:Frg}{a:Addr}{xs:List V}{k:Nat}{ci:List Nat}{g:TG}{tf:TT}{te:TE}{σ:St}{H:Hp}{Z:Addr->List V->Hp->Prop}(Pv:Nat->List V->Hp->Prop)(h0:Pv 0 [] H)(hl:∀i ys H,i<=xs.length->Pv i ys H->SqL K H a xs)
  (hs:∀i x ys H,xs[i]?=some x->Pv i ys H->g x (capS k ci σ) H fun σ2 H2=>tf σ2 H2 fun b H3=>if b=true then te σ2 H3 fun v H4=>ys.length<sizeLine/\Pv (i+1) (ys++[v]) H4 else Pv (i+1) ys H3)
  (hd:∀ys H,Pv xs.length ys H->ys.length<=sizeLine/\∀p,H p=none->Z p ys H) :
  ∃W:Nat->Nat->List V->Hp->Prop,(∃m,W 0 m [] H)/\∀i m ys H,W i m ys H->
   ((Itl K a).stop i H/\ys.length<=sizeLine/\∀p,H p=none->Z p ys H)\/
   ((Itl K a).go i H/\∃N:List V->Hp->Prop,(∀ys' H',N ys' H'->∃m',m'<m/\W (i+1) m' ys' H')/\∀x H',(Itl K a).yld i H x H'->g x (capS k ci σ) H' fun σ2 H2=>tf σ2 H2 fun b H3=>
    if b=true then te σ2 H3 fun v H4=>ys.length<sizeLine/\N (ys++[v]) H4 else N ys H3):=by
 refine⟨fun i m ys H=>m=xs.length-i/\i<=xs.length/\Pv i ys H,⟨xs.length,by simp,Nat.zero_le _,h0⟩,?_⟩;rintro i m ys H ⟨rfl,hi,p⟩;have q:=hl i ys H hi p;by_cases hlt:i<xs.length
 ·refine .inr ⟨⟨xs,xs[i],q,by simp[hlt]⟩,Pv (i+1),fun ys' H' p'=>⟨xs.length-(i+1),by omega,rfl,hlt,p'⟩,fun x H' y=>?_⟩;obtain⟨e,y⟩:=y;subst e;exact hs i x ys _ (y xs q) p
 ·have e:i=xs.length:=by omega
  subst e;exact .inl ⟨⟨xs,q,Nat.le_refl _⟩,hd ys H p⟩
end
theorem Ke:(10:Nat)^250<2^831:=by decide +kernel
theorem Yd{x:Int}(h1 : -10^250<=x)(h2:x<=10^250):Builtin.Int.intBits x<=1048576:=by
 refine Nat.le_trans (PySem.intBits_le_iff.mpr ?_:Builtin.Int.intBits x<=831) (by decide);have:x.natAbs<=10^250:=by omega
 exact Nat.lt_of_le_of_lt this Ke
theorem mulOk{x y:Int}(h1 : -10^250<=x)(h2:x<=10^250)(h3 : -10^250<=y)(h4:y<=10^250):IntMulOk x y:=.of_bits (Yd h1 h2) (Yd h3 h4)
section
variable{X:Cx}
theorem JA:OpR X (binaryOp .Mult) (rI IntMulOk fun i j=>.int (i*j)):=opI fun _ _ _ _ _ _ _ hc q=>mul_int q hc
def CDivB(_ j:Int):Prop:=0<j/\j<=10^250
theorem cdivB{i j:Int}(h1:0<j)(h2:j<=10^250):CDivB i j:=⟨h1,h2⟩
theorem Jq:OpR X (binaryOp .FloorDiv) (rI CDivB fun i j=>.int (i/j)):=opI fun i j _ _ _ _ _ hc q=>by
 have h1:(0:Int)<j:=hc.1;have h2:j<=10^250:=hc.2;refine floordiv_int (by omega) ?_ (.inl (PyProof.noPylong_of_log2 ?_))
 ·rw[Int.fdiv_eq_ediv_of_nonneg _ (by omega)];exact q
 ·have e:j.natAbs<=10^250:=by omega
  have g:j.natAbs.log2<831:=(Nat.log2_lt (by omega)).mpr (Nat.lt_of_le_of_lt e Ke);omega
theorem KN{prog:Program}{w:World}{A:Around}{E:Value->Shared->Prop}{s:Shared}{l:Addr}{xs:Array (Int×Tok)}{Q:Value->Shared->Prop}(hh:A.handled=none)(hl:s.heap.IsList l (intItems xs))
  (h:∀h' tk t',(∀b o,s.heap.get? b=some o->h'.get? b=some o)->Q (.int (preSum (numAt xs) xs.size) t') {s with heap:=h',toks:=tk}) :
  wpAny (model prog w) A (call (.builtin "sum") [.ref l]) Q E s:=by
 obtain⟨o,ho,hc,n,hd⟩:=id hl;have hne:l≠s.heap.objs.size:=Nat.ne_of_lt (Heap.lt_size ho);have hsz:(intItems xs).size=xs.size:=by simp[intItems]
 have W:=(Walks.list (prog:=prog) (w:=w) (A:=A.in1) hh s.heap.objs.size l hne (intItems xs)).toS;rw[hsz]at W;refine call_sum_walkAnyS (wpAny_pyIter_list hl ?_);refine⟨s.heap.objs.size,_,_,_,_,_,_,numAt xs,rfl,W,⟨⟨_,Heap.get?_push_size _ rfl,rfl,rfl⟩,hl.at fun o e=>Heap.get?_push_of_some _ e⟩,fun b hb=>?_,fun i v hP=>intItems_at hP,fun s' t' hm=>?_⟩
 ·rcases mem_cons.mp hb with rfl | hb
  ·exact Heap.lt_size (Heap.get?_push_size _ rfl)
  ·obtain rfl:=mem_singleton.mp hb;exact Heap.lt_size (Heap.get?_push_of_some _ ho)
 ·obtain⟨h',g',d',tk',os'⟩:=s';have e1:g'=s.gens:=hm.gens;have e2:d'=s.drawn:=hm.drawn;have e3:os'=s.os:=hm.os;subst e1 e2 e3;exact h h' tk' t' fun b o e=>hm.heap b o (fun hb=>absurd (Heap.lt_size e) ((mem_singleton.mp hb)▸Nat.lt_irrefl _)) (Heap.get?_push_of_some _ e)
theorem zC(hc:X.calm=true):CallR X (.builtin "sum") (fun xs H Q=>∃(p:Addr) (ns:List Int),xs=[.ref p]/\SqL X.K H p (ns.map V.int)/\Q (.int ns.sum) H):=by
 intro pins s σ H xs us Q I r h;obtain⟨p,ns,rfl,hx,q⟩:=h;obtain⟨u,rfl,rx⟩:=vals1 r;cases rx;obtain⟨its,r',pl,hz⟩:=I.list hx;have hi:IntsAre its ns:=intsAre_of r';obtain⟨ys,hy⟩:=hi.allInts.items;have hn:numsOf its.toArray.toList=ns:=by rw[show its.toArray.toList=its from rfl,hi.numsOf]
 have hl:=pl.isList;rw[hy]at hl hn;rw[nums_intItems]at hn;refine KN (I.ok.hd hc) hl fun h' tk t' hk=>?_
 rw[preSum_eq,List.take_of_length_le (by simp),hn];exact⟨.int ns.sum,H,I.kept hk,⟨_,rfl⟩,q⟩
end
end L2
namespace Att
open PySem PySem.W PySem.Calls PyProof.Rows
theorem zT:∀(ns:List Int) (x:Int),x∈ns->Builtin.Int.intBits x<=WData.weightAll (ns.map WData.int)
 | [],_,h=>by cases h
 | n::r,x,h=>by
  show _<=WData.weight (.int n)+1+WData.weightAll (r.map WData.int);rcases mem_cons.mp h with e | h
  ·subst e;have e:Builtin.Int.intBits x=WData.weight (.int x):=by
    unfold Builtin.Int.intBits WData.weight;rfl
   omega
  ·have:=zT r x h;omega
theorem yw{l:OpenLaw}{n:Nat}{q:Program}{loose:List Str}{XP:(Str->Option Value)->Heap->Prop}{YP:World->Heap->Prop}{d:DefRec}
  (hn:l.most=some n) (hdf:d.params.defaults=[])
  (call:∀(w:World) (s₀ s₁:Shared) (mg mb:Str->Option Value) (fa:Addr) (o:Obj) (pm cd doc:Value) (a:Addr) (vs:List Value) (ns:List Int),
   Ground q loose [] XP w s₀ mg mb s₁.heap->YP w s₁.heap->
   s₁.heap.get? fa=some o->o.data = .func (docDef d.name d.params d.body d.scope pm cd doc)->s₁.heap.CodeRec cd d.name->mg d.name=some (.ref fa)->
   s₁.heap.get? a=some {cls:=.type "list",data:=.seq vs.toArray}->IntsAre vs ns->ns.length<=n->(∀x∈ns,Builtin.Int.intBits x<=1048576)->s₁.gens = #[]->
   codeAny (model l.prog w) callerA (.call (.ref fa) ⟨[.ref a],[]⟩) (fun r s'=>r = .ok (.ret (.bool true))/\OldK s₁.heap s'.heap/\s'.os=s₁.os/\AllBare s'.gens) s₁) :
  WalkO q loose XP YP l.row.toRowW d [] (fun f vs=>PySem.call f vs):=by
 intro w s₀ s₁ mg mb G Y fa o pm cd doc dV kV ho hd hcd hD hmg hg args vals as hpre hlay hrd hwl hlo;obtain rfl:dV = .none:=Dflts.none hD hdf;obtain rfl:kV = .none:=Dflts.noKw hD;obtain⟨a,vs,ns,rfl,rfl,hobj,hints,hlen⟩:=KK hn hpre hwl;have hbits:∀x∈ns,Builtin.Int.intBits x<=1048576:=by
  have hw:(WData.list (ns.map WData.int)).weight<=2^20:=(layableW_iff.mp (layW_cons hlay).1).2.2;intro x hx;exact Nat.le_trans (zT ns x hx) hw
 refine enter_call (codeAny_mono (call w s₀ s₁ mg mb fa o pm cd doc a vs ns G Y ho (fd_plain hd) hcd hmg hobj hints hlen hbits hg) fun r s' hq=>?_);obtain⟨rfl,h2,h3,h4⟩:=hq;exact⟨.inl ⟨.bool true,.bool true,[],rfl,fun _=>rfl,.bool true,KG l _,fun _=>⟨List.Pairwise.nil,fun _ hm=>(nomatch hm)⟩⟩,h2,h3,h4⟩
end Att
namespace L2
open PySem PySem.Spec PyProof.Rows
theorem w4{l:PySem.W.OpenLaw}{n k:Nat}{q:Program}{loose:List Str}{XP:(Str->Option Value)->Heap->Prop}{YP:World->Heap->Prop}{d:DefRec}{K:Params->Frg}{CX:CXT}{sp:Frg->Sp}{x:Str}
  (hn:l.most=some n) (hn2:n<=sizeLine) (hdf:d.params.defaults=[]) (hr:Room k callerA)
  (hY:∀(w:World) (h:Heap),YP w h->(K w.params).In h)
  (F:∀(w:World) (mg:Str->Option Value) (fa:Addr) (h:Heap),(K w.params).In h->h.Ns mainGlobals mg->mg d.name=some (.ref fa)->
   ∃fd:FuncData,(∀(s:Shared) (u:Value),BindsTo s fd ⟨[u],[]⟩ [(x,u)])/\
    ∀base:Heap,(K w.params).In base->base.Ns mainGlobals mg->FnOk l.prog w (K w.params) mg base CX k fa fd [x] (sp (K w.params)))
  (hsp:∀(K:Frg) (H:Hp) (a:Addr) (ns:List Int),ns.length<=n->(∀x∈ns,Builtin.Int.intBits x<=1048576)->Only H->SqL K H a (ns.map V.int)->sp K [.ref a] H (fun v _=>v = .bl true) fun _ _ _=>False)
  (hCX:∀(H:Hp) (s:Shared) (e:Value) (s':Shared),CX [] H s (fun _ _ _=>False) e s'->False) :
  PySem.W.WalkO q loose XP YP l.row.toRowW d [] (fun f vs=>PySem.call f vs):=by
 refine Att.yw hn hdf fun w s₀ s₁ mg mb fa o pm cd doc a vs ns G Y ho hd hcd hmg hobj hints hlen hbits hg=>?_
 have KX:=hY w _ Y;obtain⟨fd,hb,hF⟩:=F w mg fa _ KX G.T.g hmg;exact wg KX G.T.g G.T.b G.T.builtins G.T.nolimit hg hobj hints (Nat.le_trans hlen hn2) hr hF hb (fun H hO hS=>hsp _ H a ns hlen hbits hO hS) fun H e s'=>hCX H s₁ e s'
section
variable{P:Program}{w:World}{K:Frg}{mg:Str->Option Value}{base:Heap}
end
theorem SP.nx{X:Cx}{pins:List (Addr×Obj)}{D:Ends}{R:St->Hp->Prop}(hR:∀σ' H',R σ' H'->D.nx σ' H'){f:Flow}{s:Shared}(h:SP X pins {D with nx:=R} f s):SP X pins D f s:=by
 cases f with
 | next=>obtain⟨σ',H',I,q⟩:=h;exact⟨σ',H',I,hR _ _ q⟩
 | brk=>exact h
 | cont=>exact h
 | ret u=>exact h
def tIfJ(c:TT)(t u:TS):TS:=fun D σ H=>∃R:St->Hp->Prop,(∀σ' H',R σ' H'->D.nx σ' H')/\tIfS c t u {D with nx:=R} σ H
theorem Q6{X:Cx}{pos:Pos}{t u:TS}{c:Expr}{a b:List Stmt}{tc:TT}(hc:PT X c tc)(ha:PSs X a t)(hb:PSs X b u):PS X (.If c a b pos) (tIfJ tc t u):=by
 intro pins s σ H D I h;obtain⟨R,hR,h⟩:=h;exact thn (jP hc ha hb pins s σ H _ I h) fun f s' q=>q.nx hR
open PySem
theorem jW:bootBuiltins "len"= some (.builtin "len"):=by decide +kernel
theorem yy:bootBuiltins "max"= some (.builtin "max"):=by decide +kernel
theorem KY:bootBuiltins "min"= some (.builtin "min"):=by decide +kernel
theorem YY:bootBuiltins "sum"= some (.builtin "sum"):=by decide +kernel
theorem zB:bootBuiltins "sorted"= some (.builtin "sorted"):=by decide +kernel
theorem KW:bootBuiltins "int"= some (.type "int"):=by decide +kernel
theorem KZ:bootBuiltins "tuple"= some (.type "tuple"):=by decide +kernel
theorem Wb:bootBuiltins "dict"= some (.type "dict"):=by decide +kernel
theorem W1:bootBuiltins "set"= some (.type "set"):=by decide +kernel
theorem yx:bootBuiltins "enumerate"= some (.type "enumerate"):=by decide +kernel
theorem W2:bootBuiltins "zip"= some (.type "zip"):=by decide +kernel
section
variable{X:Cx}{tg:Expr}
theorem y0:SlR X (fun x lo hi H Q=>∃z,x = .str z/\z.length<=sizeLine/\Q (.str (Txt.slice z lo hi)) H):=by
 intro pins s σ H x v vl vu lo hi sl Q I rx hs pl pu h;obtain⟨z,rfl,hz,q⟩:=h;obtain⟨t,rfl⟩:=rx;refine⟨"str",_,F.slot_str_getitem.lookup,typeIs_str _ _ _,?_⟩;have fin:∀(lo hi:Option Int),Q (.str (Txt.slice z lo hi)) H->∀t' k,EP X pins σ Q (.str (Txt.slice z lo hi) t') {s with toks:=k}:=fun lo hi q t' k=>⟨.str _,H,I.tok _,⟨_,rfl⟩,q⟩
 cases pl with
 | none=>
  cases pu with
  | none=>exact wpAny_getItem_str_slice (l:=none) (u:=none) (st:=none) hs rfl (post_val_or_str ⟨Nat.le_trans (Txt.slice_le z _ _) hz,fin _ _ q⟩)
  | int j uj=>exact wpAny_getItem_str_slice (l:=none) (u:=some (j,uj)) (st:=none) hs rfl (post_val_or_str ⟨Nat.le_trans (Txt.slice_le z _ _) hz,fin _ _ q⟩)
 | int i ui=>
  cases pu with
  | none=>exact wpAny_getItem_str_slice (l:=some (i,ui)) (u:=none) (st:=none) hs rfl (post_val_or_str ⟨Nat.le_trans (Txt.slice_le z _ _) hz,fin _ _ q⟩)
  | int j uj=>exact wpAny_getItem_str_slice (l:=some (i,ui)) (u:=some (j,uj)) (st:=none) hs rfl (post_val_or_str ⟨Nat.le_trans (Txt.slice_le z _ _) hz,fin _ _ q⟩)
theorem kA{ys:List Str}:∀{us:List Value},Vals (ys.map V.str) us->StrsAre us ys:=by
 induction ys with
 | nil=>intro us r;rw[map_nil]at r;cases r;exact .nil
 | cons n ns ih=>
  intro us r;rw[map_cons]at r;cases r with
  | cons r1 r2=>
   obtain⟨t,e⟩:=r1;subst e;exact .cons n t (ih r2)
theorem Wp:MtR X "str.join" (fun x vs H Q=>∃(z:Str) (p:Addr) (ys:List Str),x = .str z/\vs=[.ref p]/\SqL X.K H p (ys.map V.str)/\(ys.map (·.length)).sum+ys.length*z.length<=16777216/\Q (.str (Txt.join z ys)) H):=by
 intro pins s σ H x vs v us Q I rx rv h;obtain⟨z,p,ys,rfl,rfl,hx,hz,q⟩:=h;obtain⟨t,rfl⟩:=rx;obtain⟨u,rfl,ru⟩:=vals1 rv;cases ru;obtain⟨its,r',pl,_⟩:=I.list hx;exact join_list pl.isList (by simpa using kA r') hz fun t' k=>⟨.str _,H,I.tok _,⟨_,rfl⟩,q⟩
theorem Kn:CallR X (.type "int") (fun xs H Q=>∃(x:Str) (n:Int),xs=[.str x]/\PySem.intText? x=some n/\x.length<=640/\Q (.int n) H):=by
 intro pins s σ H xs us Q I r h;obtain⟨x,n,rfl,e,hl,q⟩:=h;obtain⟨u,rfl,t,rfl⟩:=vals1 r;exact PySem.W.KIN.call_text e hl ⟨.int n,H,I.tok _,⟨_,rfl⟩,q⟩
theorem Wy:OpR X (binaryOp .Mult) (fun x y H Q=>∃(z:Str) (n:Int),x = .str z/\y = .int n/\MulOk z n/\Q (.str (Txt.mul z n)) H):=by
 intro pins s σ H x y v u Q I rx ry h;obtain⟨z,n,rfl,rfl,hk,q⟩:=h;obtain⟨t,rfl⟩:=rx;obtain⟨t',rfl⟩:=ry;exact SB.mul hk fun t' k=>⟨.str _,H,I.tok _,⟨_,rfl⟩,q⟩
theorem rd_str{z:Str}{R:Str->Prop}(h:R z):∃z',V.str z = .str z'/\R z':=⟨z,rfl,h⟩
end
section
variable{X:Cx}{K:Frg}
theorem zm(e:X.K=K):IxR X (rIxL K):=by subst e;exact jq
theorem yL(e:X.K=K):IxR X (rIxT K):=by subst e;exact jr
theorem ZD(e:X.K=K):OpR X (compareOp .In) (rIn K false):=by subst e;exact KF
theorem ZX(e:X.K=K):OpR X (compareOp .NotIn) (rIn K true):=by subst e;exact yU
end
mutual
inductive DV(H:Hp):V->PyData->Prop
 | non:DV H .non .none
 | bl (b:Bool):DV H (.bl b) (.bool b)
 | int (i:Int):DV H (.int i) (.int i)
 | str (x:Str):DV H (.str x) (.str x)
 | lst {a:Addr} {xs:List V} {ds:List PyData}:H a=some (.lst xs)->DVs H xs ds->DV H (.ref a) (.list ds)
 | tup {a:Addr} {xs:List V} {ds:List PyData}:H a=some (.tup xs)->DVs H xs ds->DV H (.ref a) (.tuple ds)
inductive DVs(H:Hp):List V->List PyData->Prop
 | nil:DVs H [] []
 | cons {x:V} {d:PyData} {xs:List V} {ds:List PyData}:DV H x d->DVs H xs ds->DVs H (x::xs) (d::ds)
end
section
variable{X:Cx}
mutual
theorem qH{pins:List (Addr×Obj)}{s:Shared}{σ:St}{H:Hp}(I:Inv X pins σ H s):∀{v:V} {d:PyData} {u:Value},DV H v d->RelV v u->∃as,Reads s.heap u d as
 | _,_,_,.non,r=>⟨_,by cases r;exact Reads.none⟩
 | _,_,_,.bl b,r=>⟨_,by cases r;exact Reads.bool b⟩
 | _,_,_,.int i,r=>by obtain⟨t,rfl⟩:=r;exact⟨_,Reads.int i t⟩
 | _,_,_,.str x,r=>by obtain⟨t,rfl⟩:=r;exact⟨_,Reads.str x t⟩
 | _,_,_,.lst e q,r=>by
  cases r;obtain⟨_,its,c,rv,he⟩:=I.hok _ _ e;obtain⟨as,ra⟩:=zH I q rv;exact⟨_,reads_list_at he rfl rfl (by simpa using ra)⟩
 | _,_,_,.tup e q,r=>by
  cases r;obtain⟨its,rv,pl,_⟩:=I.tuple (SqT.of e);obtain⟨o,ho,hc,n,hd⟩:=pl;obtain⟨as,ra⟩:=zH I q rv;exact⟨_,reads_tuple_at ho hc hd (by simpa using ra)⟩
theorem zH{pins:List (Addr×Obj)}{s:Shared}{σ:St}{H:Hp}(I:Inv X pins σ H s):∀{vs:List V} {ds:List PyData} {us:List Value},DVs H vs ds->Vals vs us->∃as,ReadsAll s.heap us ds as
 | _,_,_,.nil,r=>by cases r;exact⟨_,ReadsAll.nil⟩
 | _,_,_,.cons a q,r=>by
  cases r with
  | cons r1 r2=>
   obtain⟨as,ra⟩:=qH I a r1;obtain⟨bs,rb⟩:=zH I q r2;exact⟨_,ReadsAll.cons ra rb⟩
end
theorem km(hu:X.A.units+64<cLine):OpR X (compareOp .Eq) (fun x y H Q=>∃d e,DV H x d/\DV H y e/\SeqAt.shaped d=true/\SeqAt.shaped e=true/\Q (.bl (PyData.eqv d e)) H):=by
 intro pins s σ H x y v u Q I rx ry h;obtain⟨d,e,hd,he,sd,se,q⟩:=h;obtain⟨as,ra⟩:=qH I hd rx;obtain⟨bs,rb⟩:=qH I he ry;exact eq_dataH ra rb sd se hu ⟨.bl _,H,I,rfl,q⟩
theorem ko(hu:X.A.units+64<cLine):OpR X (compareOp .NotEq) (fun x y H Q=>∃d e,DV H x d/\DV H y e/\SeqAt.shaped d=true/\SeqAt.shaped e=true/\Q (.bl (!PyData.eqv d e)) H):=by
 intro pins s σ H x y v u Q I rx ry h;obtain⟨d,e,hd,he,sd,se,q⟩:=h;obtain⟨as,ra⟩:=qH I hd rx;obtain⟨bs,rb⟩:=qH I he ry;exact ne_dataH ra rb sd se hu ⟨.bl _,H,I,rfl,q⟩
theorem YU{us:List Value}:∀{ns:List Int},IntsAre us ns->Vals (ns.map V.int) us:=by
 induction us with
 | nil=>intro ns r;cases r;exact .nil
 | cons u us ih=>
  intro ns r;cases r with
  | cons n t r=>exact .cons ⟨t,rfl⟩ (ih r)
theorem zg:CallR X (.builtin "sorted") (fun xs H Q=>∃(p:Addr) (ns:List Int),xs=[.ref p]/\SqL X.K H p (ns.map V.int)/\ns.length<64/\∀(l:Addr) (ms:List Int),H l=none->ms.Perm ns->ms.Pairwise (·<=·)->Q (.ref l) (upd H l (.lst (ms.map V.int)))):=by
 intro pins s σ H xs us Q I r h;obtain⟨p,ns,rfl,hx,hn,q⟩:=h;obtain⟨u,rfl,rx⟩:=vals1 r;cases rx;obtain⟨its,r',pl,_⟩:=I.list hx;have hi:=intsAre_of r';have hlen:=r'.length;rw[length_map]at hlen;refine sorted_ints pl.isList hi (by omega) fun out ms ho hp hs=>?_
 obtain⟨e,he⟩:=sortedAll_at s.heap its out;refine⟨.ref (s.heap.objs.size+1),_,I.laid (t':=s.toks) (a:=s.heap.objs.size+1) (o:=.lst (ms.map V.int)) (fun b o hb=>sortedAll_old hb) (Nat.le_succ _) ?_,rfl,q _ ms (I.hok.fresh (Nat.le_succ _)) hp hs⟩;have hml:ms.length=ns.length:=hp.length_eq;exact⟨by rw[length_map,hml];exact Nat.le_trans (Nat.le_of_lt hn) (by decide),out.toList,e,YU ho,by simpa using he⟩
theorem Z6(hc:X.calm=true):CallR X (.builtin "max") (fun xs H Q=>∃(p:Addr) (ns:List Int),xs=[.ref p]/\SqL X.K H p (ns.map V.int)/\0<ns.length/\∀m∈ns,(∀a∈ns,a<=m)->Q (.int m) H):=by
 intro pins s σ H xs us Q I r h;obtain⟨p,ns,rfl,hx,hne,q⟩:=h;obtain⟨u,rfl,rx⟩:=vals1 r;cases rx;obtain⟨its,r',pl,_⟩:=I.list hx;have hi:=intsAre_of r';have hl:=pl.isList;obtain⟨xs,e⟩:=hi.allInts.items;have hns:ns=xs.toList.map (·.1):=by rw[<-hi.numsOf,<-nums_intItems,<-e]
 have hsz:0<xs.size:=by
  have h3:=hne;rw[hns,length_map,Array.length_toList]at h3;exact h3
 rw[e]at hl;refine max_intList (I.ok.hd hc) hl hsz fun v h' tk hv hk=>?_
 obtain⟨t,rfl⟩:=intItems_at hv;obtain⟨h1,h2⟩:=argBest_gt (numAt xs) (xs.size-1);refine⟨.int _,H,I.kept (t':=tk) hk,⟨_,rfl⟩,q _ ?_ fun a ha=>?_⟩
 ·rw[hns,numAt_eq];exact getD_mem (by rw[length_map,Array.length_toList];omega)
 ·rw[hns]at ha;obtain⟨j,hj,rfl⟩:=mem_getD ha;rw[length_map,Array.length_toList]at hj;rw[<-numAt_eq];exact h2 j (by omega)
end
section
variable{σ:St}{H:Hp}{Q:VK}
theorem rd_dget{td ty:TE}(h:td σ H fun x H1=>ty σ H1 fun y H2=>∃a v,x = .ref a/\DGet H2 a y (some v)/\Q v H2):tDGet td ty σ H Q:=h
theorem WH{trs:List (TE×TE)}(h:∀p,H p=none->tPairs trs σ (upd H p (.dK [])) fun ps H2=>H2 p=some (.dK [])/\∃kvs:List (Key×V),ps=kvs.map (fun kv=>(kV kv.1,kv.2))/\kvs.length<=15/\Q (.ref p) (upd H2 p (.dK (mergeK [] kvs)))):tDisp trs σ H Q:=h
theorem rd_prN{R:List (V×V)->Hp->Prop}(h:R [] H):tPairs [] σ H R:=h
theorem rd_prC{tk tv:TE}{r:List (TE×TE)}{R:List (V×V)->Hp->Prop}(h:tk σ H fun x H1=>tv σ H1 fun y H2=>tPairs r σ H2 fun ps H3=>R ((x,y)::ps) H3):tPairs ((tk,tv)::r) σ H R:=h
end
def TabK(K:Frg)(a:Addr)(D:List (Str×PyProof.Rows.KTD.Dat)):Prop:=PyProof.Rows.KTD.tabLook (PyProof.Rows.KTD.datLooks fun b=>K.lookup b) (fun b=>K.lookup b) a D=true
section
variable{X:Cx}
theorem xr:OpR X (compareOp .In) (fun x y H Q=>∃a k D,x = .str k/\y = .ref a/\TabK X.K a D/\Q (.bl (PyProof.Rows.KTD.inKeys k D)) H):=by
 intro pins s σ H x y v u Q I rx ry h;obtain⟨a,k,D,rfl,rfl,T,q⟩:=h;obtain⟨t,rfl⟩:=rx;cases ry;exact PyProof.Rows.KTD.in_text (h₀:=s.heap) ⟨PySem.W.kt_text_in I.kIn T,fun _ _ e=>e⟩ ⟨.bl _,H,I.tok _,rfl,q⟩
end
theorem K0{K:Frg}{a:Addr}{xs:List V}{k:Nat}{ci:List Nat}{g:TG}{tf:TT}{te:TE}{σ:St}{H:Hp}{Z:Addr->List V->Hp->Prop}(Pv:Nat->List V->Hp->Prop)(h0:Pv 0 [] H)(hl:∀i ys H,i<=xs.length->Pv i ys H->SqT K H a xs)
  (hs:∀i x ys H,xs[i]?=some x->Pv i ys H->g x (capS k ci σ) H fun σ2 H2=>tf σ2 H2 fun b H3=>if b=true then te σ2 H3 fun v H4=>ys.length<sizeLine/\Pv (i+1) (ys++[v]) H4 else Pv (i+1) ys H3)
  (hd:∀ys H,Pv xs.length ys H->ys.length<=sizeLine/\∀p,H p=none->Z p ys H) :
  ∃W:Nat->Nat->List V->Hp->Prop,(∃m,W 0 m [] H)/\∀i m ys H,W i m ys H->
   ((Itt K a).stop i H/\ys.length<=sizeLine/\∀p,H p=none->Z p ys H)\/
   ((Itt K a).go i H/\∃N:List V->Hp->Prop,(∀ys' H',N ys' H'->∃m',m'<m/\W (i+1) m' ys' H')/\∀x H',(Itt K a).yld i H x H'->g x (capS k ci σ) H' fun σ2 H2=>tf σ2 H2 fun b H3=>
    if b=true then te σ2 H3 fun v H4=>ys.length<sizeLine/\N (ys++[v]) H4 else N ys H3):=by
 refine⟨fun i m ys H=>m=xs.length-i/\i<=xs.length/\Pv i ys H,⟨xs.length,by simp,Nat.zero_le _,h0⟩,?_⟩;rintro i m ys H ⟨rfl,hi,p⟩;have q:=hl i ys H hi p;by_cases hlt:i<xs.length
 ·refine .inr ⟨⟨xs,xs[i],q,by simp[hlt]⟩,Pv (i+1),fun ys' H' p'=>⟨xs.length-(i+1),by omega,rfl,hlt,p'⟩,fun x H' y=>?_⟩;obtain⟨e,y⟩:=y;subst e;exact hs i x ys _ (y xs q) p
 ·have e:i=xs.length:=by omega
  subst e;exact .inl ⟨⟨xs,q,Nat.le_refl _⟩,hd ys H p⟩
theorem rd_iTup{K:Frg}{te:TE}{σ:St}{H:Hp}{R:It->Hp->Prop}(h:te σ H fun x H1=>∃a,x = .ref a/\(∃xs,SqT K H1 a xs)/\R (Itt K a) H1):iTup K te σ H R:=h
theorem QE{K:Frg}{i j:Nat}{a:Addr}{x y:V}{σ:St}{H:Hp}{R:St->Hp->Prop}(e:SqT K H a [x,y])(h:gName i x σ H fun σ' H'=>gName j y σ' H' R):gTup K 2 (gCons (gName i) (gCons (gName j) gNil)) (.ref a) σ H R:=
 ⟨a,[x,y],rfl,e,rfl,x,[y],rfl,y,[],rfl,rfl,h⟩
theorem rd_dnew{σ:St}{H:Hp}{Q:VK}(h:∀p,H p=none->Q (.ref p) (upd H p (.dK []))):tDNewK σ H Q:=h
theorem rd_dput{td ty tv:TE}{σ:St}{H:Hp}{D:Ends}(h:tv σ H fun v H1=>td σ H1 fun x H2=>ty σ H2 fun y H3=>∃a H4,x = .ref a/\DPut H3 a y v H4/\D.nx σ H4):sDPut td ty tv D σ H:=h
theorem rd_bm0{K:Frg}{T:String}{r:V->List V->Hp->VK->Prop}{to:TE}{σ:St}{H:Hp}{Q:VK}(h:to σ H fun x H1=>tyV K T x H1/\r x [] H1 Q):tBM0 K T r to σ H Q:=h
section
variable{X:Cx}{pins:List (Addr×Obj)}{σ:St}{H:Hp}{s:Shared}{h':Heap}
theorem Inv.turnedL{t':Nat}{ch:List Addr}(I:Inv X pins σ H s)(hf:∀b∈ch,FpOk X pins H b)(k:∀b o,b∉ch->s.heap.get? b=some o->h'.get? b=some o):Inv X pins σ H {s with heap:=h',toks:=t'}:=by
 have nit:∀b u,H b=some u->b∉ch:=fun b u e z=>by rw[(hf b z).1]at e;cases e
 refine I.step (g':=s.gens) (d':=s.drawn) (ch:=ch) (fun b hb=>?_) (fun b o _ _ hc e _=>k b o hc e) (fun b o _ _ hc e _=>⟨o.slots,k b o hc e⟩) (fun _ _ _ _ n=>n)
  (fun b o hc e=>⟨o,k b o hc e⟩) (fun _ _ e=>e) (fun _ _ _ e=>e) (fun b ps e=>⟨#[],by rw[e];simp⟩) (fun m hm=>?_) (fun b u e=>?_) I.bare
 ·obtain⟨_,f1,_,f3,f4,f5⟩:=hf b hb;exact⟨f3,f1,f4,f5⟩
 ·obtain⟨o,es,ep,ho,r⟩:=hm;exact⟨o,es,ep,k _ o (fun z=>(hf _ z).2.1 rfl) ho,r⟩
 ·refine(I.hok b u e).stay (fun c v hc q=>k c v ?_ q) (fun _ q=>q) fun _ _ q=>q
  rcases hc with z | z
  ·rw[z];exact nit b u e
  ·exact nit c _ z
theorem Inv.pair{t':Nat}{ch:List Addr}{x y:V}{u v:Value}(I:Inv X pins σ H s)(hf:∀b∈ch,FpOk X pins H b)(hl:∀b∈ch,b<s.heap.objs.size)(rx:RelV x u)(ry:RelV y v)
  (hT:h'.get? s.heap.objs.size=some {cls:=.type "tuple",data:=.seq #[u,v]}) (k:∀b o,b∉ch->s.heap.get? b=some o->h'.get? b=some o) :
  Inv X pins σ (upd H s.heap.objs.size (.tup [x,y])) {s with heap:=h',toks:=t'}/\∀b∈ch,FpOk X pins (upd H s.heap.objs.size (.tup [x,y])) b:=by
 have f:∀b∈ch,FpOk X pins (upd H s.heap.objs.size (.tup [x,y])) b:=fun b hb=>⟨(jm (Nat.ne_of_lt (hl b hb))).trans (hf b hb).1,(hf b hb).2⟩
 have I1:Inv X pins σ (upd H s.heap.objs.size (.tup [x,y])) {s with heap:=s.heap.push {cls:=.type "tuple",data:=.seq #[u,v]},toks:=t'}:=
  I.laid (t':=t') (fun b o e=>Heap.get?_push_of_some _ e) (Nat.le_refl _) (show ObjOk X.prog X.w _ _ _ (.tup [x,y])from⟨(by show 2<=sizeLine;decide),[u,v],.cons rx (.cons ry .nil),IsTup.new _ _⟩)
 refine⟨I1.turnedL (h':=h') (t':=t') f fun b o hb e=>?_,f⟩;rcases Heap.get?_push_cases e with⟨rfl,rfl⟩ | e
 ·exact hT
 ·exact k b o hb e
end
def Ite(K:Frg)(a:Addr):It:=
 ⟨fun i H=>∃xs x,SqL K H a xs/\xs[i]?=some x,fun i H x H'=>∃T v,x = .ref T/\H T=none/\H'=upd H T (.tup [.int i,v])/\∀xs,SqL K H a xs->xs[i]?=some v,fun i H=>∃xs,SqL K H a xs/\xs.length<=i⟩
theorem KP{P:Program}{w:World}{K:Frg}{elts:List Expr}{k:Nat}{pos:Pos}(a e it:Addr)(hne:e≠it) :
  Turn P w K (.Tuple elts k pos) (Ite K a) [e,it] e (fun i h=>(∃old,IsEnum h e it ((i:Nat):Int) old)/\h.IsListIter it a i) where
 mem:=by simp
 obj:=fun i h st b hb=>by
  rcases(by simpa using hb:b=e\/b=it)with rfl | rfl
  ·obtain⟨old,he⟩:=st.1;exact⟨_,he,fun v z=>by cases z⟩
  ·obtain⟨o,e,c,d⟩:=st.2;exact⟨o,e,fun v z=>by rw[d]at z;cases z⟩
 keep:=fun i h h' st k=>⟨let ⟨old,he⟩:=st.1;⟨old,k e (by simp) _ he⟩,st.2.at fun o q=>k it (by simp) o q⟩
 item:=by
  intro X hP hw hK hc i pins s σ H E I hf st hg;subst hP hw hK;obtain⟨xs,x,hq,hx⟩:=hg;obtain⟨its,rv,p,hz⟩:=I.list hq;obtain⟨u,hu,ru⟩:=rv.get hx;obtain⟨⟨old,he⟩,hit⟩:=st;have le:e<s.heap.objs.size:=Heap.lt_size he;have li:it<s.heap.objs.size:=by obtain⟨o,q,_⟩:=id hit;exact Heap.lt_size q
  refine wpAny_pyNext_enum_item he hit p.isList (x:=u) (by simpa using hu) hne fun h' ho hit' hT hsz hk=>?_
  obtain⟨I1,f1⟩:=I.pair (t':=s.toks+1) (ch:=[e,it]) (x:=.int i) (y:=x) hf (fun b hb=>by rcases(by simpa using hb:b=e\/b=it)with rfl | rfl<;>assumption) ⟨s.toks,rfl⟩ ru hT
   (fun b o hb q=>hk b o (fun z=>hb (by simp[z])) (fun z=>hb (by simp[z])) q)
  refine⟨_,rfl,wpAny_letOwnedTupleGo_enum ho fun h2 he2 sb=>?_⟩;have I2:=I1.turnedL (h':=h2) (t':=s.toks+1) (ch:=[e,it]) f1 fun b o hb q=>(sb.2 b fun z=>hb (by simp[z])).trans q
  exact⟨.ref s.heap.objs.size,_,I2,rfl,⟨_,x,rfl,I.hok.fresh (Nat.le_refl _),rfl,fun ys hy=>by rw[I.list_inj hy hq];exact hx⟩,
   ⟨⟨u,by simpa using he2⟩,hit'.at fun o q=>(sb.2 it hne.symm).trans q⟩,fun b hb=>(f1 b hb).1⟩
 done:=by
  intro X hP hw hK hc i pins s σ H E I hf st hg;subst hP hw hK;obtain⟨xs,hq,hx⟩:=hg;obtain⟨its,rv,p,hz⟩:=I.list hq;obtain⟨⟨old,he⟩,hit⟩:=st;have hl:=rv.length;exact wpAny_pyNext_enum_end (I.ok.hd hc) he hit p.isList (by simp;omega) fun h' eb=>⟨rfl,I.turnedL (t':=s.toks) (ch:=[e,it]) hf fun b o hb q=>eb b o (fun z=>hb (by simp[z])) q⟩
 self:=fun _ _ _ _ _ st h=>let ⟨_,he⟩:=st.1;wpAny_pyIter_enum he h
def iEnum(K:Frg)(ta:TA):TI:=fun σ H R=>ta σ H fun vs H1=>∃a xs,vs=[.ref a]/\SqL K H1 a xs/\R (Ite K a) H1
theorem yV{X:Cx}{a:Expr}{ta:TA}{elts:List Expr}{k:Nat}{p pos pos':Pos}(hg:Gl X "enumerate")(hm:X.mg "enumerate"= none)(ha:PA X [a] ta)(hs:starEach [a] X.env=[(false,eval a X.env)]:=by rfl) :
  PI X (.Tuple elts k pos') (.Call (.Name "enumerate" p) [a] [] pos) (iEnum X.K ta):=by
 intro pins s σ H R I h;refine Call_ (Q3 I hg hm yx (PyProof.Rows.callWith_type1 (thn (ha pos pins s σ H _ I h) fun us s1 ⟨vs,H1,I1,r1,q1⟩=>?_) hs rfl));obtain⟨b,xs,rfl,hq,q⟩:=q1;obtain⟨u,rfl,ru⟩:=vals1 r1;cases ru;obtain⟨its,rv,p,hz⟩:=I1.list hq;refine call_enumerate_list p.isList fun h' he hit hsz hk=>?_
 refine wpAny_pyIter_enum he ?_;refine⟨s1.heap.objs.size+1,[s1.heap.objs.size+1,s1.heap.objs.size],_,_,H1,rfl,I1.kept (t':=s1.toks) hk,KP b _ _ (Nat.succ_ne_self _),⟨⟨_,by simpa using he⟩,hit⟩,fun c hc=>?_,q⟩;rcases(by simpa using hc:c=s1.heap.objs.size+1\/c=s1.heap.objs.size)with rfl | rfl
 ·exact I1.fpOk (Nat.le_succ _) (I1.hok.fresh (Nat.le_succ _))
 ·exact I1.fpOk (Nat.le_refl _) (I1.hok.fresh (Nat.le_refl _))
theorem Zs{K:Frg}{a:Addr}{xs:List V}{g:TG}{tb:TS}{D:Ends}{σ:St}{H:Hp}(Pv:Nat->St->Hp->Prop)(h0:Pv 0 σ H)(hl:∀i σ H,i<=xs.length->Pv i σ H->SqL K H a xs)
  (hs:∀i v σ H T H',xs[i]?=some v->Pv i σ H->Same H H'->H' T=some (.tup [.int i,v])->g (.ref T) σ H' fun σ2 H2=>tb {D with nx:=Pv (i+1),ct:=Pv (i+1),bk:=D.nx} σ2 H2) (hd:∀σ H,Pv xs.length σ H->D.nx σ H) :
  ∃W:Nat->Nat->St->Hp->Prop,(∃m,W 0 m σ H)/\∀i m σ H,W i m σ H->
   ((Ite K a).stop i H/\D.nx σ H)\/((Ite K a).go i H/\∃N:St->Hp->Prop,(∀σ' H',N σ' H'->∃m',m'<m/\W (i+1) m' σ' H')/\∀x H',(Ite K a).yld i H x H'->g x σ H' fun σ2 H2=>tb {D with nx:=N,ct:=N,bk:=D.nx} σ2 H2):=by
 refine⟨fun i m σ H=>m=xs.length-i/\i<=xs.length/\Pv i σ H,⟨xs.length,by simp,Nat.zero_le _,h0⟩,?_⟩;rintro i m σ H ⟨rfl,hi,p⟩;have q:=hl i σ H hi p;by_cases hlt:i<xs.length
 ·refine .inr ⟨⟨xs,xs[i],q,by simp[hlt]⟩,Pv (i+1),fun σ' H' p'=>⟨xs.length-(i+1),by omega,rfl,hlt,p'⟩,fun x H' y=>?_⟩;obtain⟨T,v,rfl,hT,e,y⟩:=y;exact hs i v σ H T H' (y xs q) p (fun b o h=>by rw[e,jm (jf h hT)];exact h) (by rw[e];exact jh)
 ·have e:i=xs.length:=by omega
  subst e;exact .inl ⟨⟨xs,q,Nat.le_refl _⟩,hd σ H p⟩
theorem rd_iEnum{K:Frg}{ta:TA}{σ:St}{H:Hp}{R:It->Hp->Prop}(h:ta σ H fun vs H1=>∃a xs,vs=[.ref a]/\SqL K H1 a xs/\R (Ite K a) H1):iEnum K ta σ H R:=h
def Itz(K:Frg)(a b:Addr):It:=
 ⟨fun i H=>∃xs x ys y,SqL K H a xs/\xs[i]?=some x/\SqL K H b ys/\ys[i]?=some y,
  fun i H x H'=>∃T u v,x = .ref T/\H T=none/\H'=upd H T (.tup [u,v])/\(∀xs,SqL K H a xs->xs[i]?=some u)/\∀ys,SqL K H b ys->ys[i]?=some v,
  fun i H=>∃xs ys,SqL K H a xs/\SqL K H b ys/\(xs.length<=i\/ys.length<=i)⟩
theorem JC{h:Heap}{a b:Addr}{o u:Obj}(h1:h.get? a=some o)(h2:h.get? b=some u)(hc:o.cls≠u.cls):a≠b:=fun e=>by
 subst e;rw[h1]at h2;cases h2;exact hc rfl
theorem wW{P:Program}{w:World}{K:Frg}{elts:List Expr}{k:Nat}{pos:Pos}(l1 l2 z TI TO i1 i2:Addr)
  (D:∀l1 l2,l1≠z->l1≠TO->l1≠i1->l1≠i2->l2≠z->l2≠TO->l2≠i1->l2≠i2->ZipApart z TI TO i1 i2 l1 l2) :
  Turn P w K (.Tuple elts k pos) (Itz K l1 l2) [z,TI,TO,i1,i2] z (fun i h=>IsZip h z TI TO .none/\IsPair h TI (.ref i1) (.ref i2)/\(∃a b,IsPair h TO a b)/\h.IsListIter i1 l1 i/\h.IsListIter i2 l2 i) where
 mem:=by simp
 obj:=fun i h st b hb=>by
  obtain⟨hz,hTI,⟨a,c,hTO⟩,h1,h2⟩:=st;rcases(by simpa using hb:b=z\/b=TI\/b=TO\/b=i1\/b=i2)with rfl | rfl | rfl | rfl | rfl
  ·exact⟨_,hz,fun v z=>by cases z⟩
  ·exact⟨_,hTI,fun v z=>by cases z⟩
  ·exact⟨_,hTO,fun v z=>by cases z⟩
  ·obtain⟨o,e,c,d⟩:=h1;exact⟨o,e,fun v z=>by rw[d]at z;cases z⟩
  ·obtain⟨o,e,c,d⟩:=h2;exact⟨o,e,fun v z=>by rw[d]at z;cases z⟩
 keep:=fun i h h' st k=>by
  obtain⟨hz,hTI,⟨a,c,hTO⟩,h1,h2⟩:=st;exact⟨k z (by simp) _ hz,k TI (by simp) _ hTI,⟨a,c,k TO (by simp) _ hTO⟩,h1.at fun o q=>k i1 (by simp) o q,h2.at fun o q=>k i2 (by simp) o q⟩
 item:=by
  intro X hP hw hK hc i pins s σ H E I hf st hg;subst hP hw hK;obtain⟨xs,x,ys,y,hq,hx,hr,hy⟩:=hg;obtain⟨its,rv,p,_⟩:=I.list hq;obtain⟨jts,rw',p',_⟩:=I.list hr;obtain⟨u,hu,ru⟩:=rv.get hx;obtain⟨v,hv,rv'⟩:=rw'.get hy;obtain⟨hz,hTI,⟨a,c,hTO⟩,h1,h2⟩:=st;obtain⟨o1,n1,e1,c1,_⟩:=id p;obtain⟨o2,n2,e2,c2,_⟩:=id p';obtain⟨o3,e3,c3,_⟩:=id h1;obtain⟨o4,e4,c4,_⟩:=id h2;have D':=D l1 l2 (JC e1 hz (by rw[c1];show Value.type "list"≠Value.type "zip";decide)) (JC e1 hTO (by rw[c1];show Value.type "list"≠Value.type "tuple";decide)) (JC e1 e3 (by rw[c1,c3];decide)) (JC e1 e4 (by rw[c1,c4];decide))
   (JC e2 hz (by rw[c2];show Value.type "list"≠Value.type "zip";decide)) (JC e2 hTO (by rw[c2];show Value.type "list"≠Value.type "tuple";decide)) (JC e2 e3 (by rw[c2,c3];decide)) (JC e2 e4 (by rw[c2,c4];decide))
  have lt:∀b∈[z,TI,TO,i1,i2],b<s.heap.objs.size:=fun b hb=>by
   rcases(by simpa using hb:b=z\/b=TI\/b=TO\/b=i1\/b=i2)with rfl | rfl | rfl | rfl | rfl
   ·exact Heap.lt_size hz
   ·exact Heap.lt_size hTI
   ·exact Heap.lt_size hTO
   ·exact Heap.lt_size e3
   ·exact Heap.lt_size e4
  refine wpAny_pyNext_zip_item D' hz hTI hTO h1 h2 p.isList p'.isList (x:=u) (y:=v) (by simpa using hu) (by simpa using hv) fun h' a1 a2 a3 a4 a5 a6 hk=>?_
  obtain⟨I1,f1⟩:=I.pair (t':=s.toks) (ch:=[z,TI,TO,i1,i2]) (x:=x) (y:=y) hf lt ru rv' a5
   (fun b o hb q=>hk b o (fun e=>hb (by simp[e])) (fun e=>hb (by simp[e])) (fun e=>hb (by simp[e])) (fun e=>hb (by simp[e])) q)
  refine⟨_,rfl,wpAny_letOwnedTupleGo_zip a1 fun h3 hz3 sb=>?_⟩;have I2:=I1.turnedL (h':=h3) (t':=s.toks) (ch:=[z,TI,TO,i1,i2]) f1 fun b o hb q=>(sb.2 b fun e=>hb (by simp[e])).trans q
  exact⟨.ref s.heap.objs.size,_,I2,rfl,⟨_,x,y,rfl,I.hok.fresh (Nat.le_refl _),rfl,(fun ys hy=>by rw[I.list_inj hy hq];exact hx),fun ys hy'=>by rw[I.list_inj hy' hr];exact hy⟩,
   ⟨hz3,(sb.2 TI D'.TIz).trans (hk TI _ D'.TIz D'.TITO D'.TIi1 D'.TIi2 hTI),⟨_,_,(sb.2 TO D'.TOz).trans a2⟩,a3.at fun o q=>(sb.2 i1 D'.i1z).trans q,a4.at fun o q=>(sb.2 i2 D'.i2z).trans q⟩,fun b hb=>(f1 b hb).1⟩
 done:=by
  intro X hP hw hK hc i pins s σ H E I hf st hg;subst hP hw hK;obtain⟨xs,ys,hq,hr,hl⟩:=hg;obtain⟨its,rv,p,_⟩:=I.list hq;obtain⟨jts,rw',p',_⟩:=I.list hr;obtain⟨hz,hTI,⟨a,c,hTO⟩,h1,h2⟩:=st;obtain⟨o1,n1,e1,c1,_⟩:=id p;obtain⟨o2,n2,e2,c2,_⟩:=id p';obtain⟨o3,e3,c3,_⟩:=id h1;obtain⟨o4,e4,c4,_⟩:=id h2;have D':=D l1 l2 (JC e1 hz (by rw[c1];show Value.type "list"≠Value.type "zip";decide)) (JC e1 hTO (by rw[c1];show Value.type "list"≠Value.type "tuple";decide)) (JC e1 e3 (by rw[c1,c3];decide)) (JC e1 e4 (by rw[c1,c4];decide))
   (JC e2 hz (by rw[c2];show Value.type "list"≠Value.type "zip";decide)) (JC e2 hTO (by rw[c2];show Value.type "list"≠Value.type "tuple";decide)) (JC e2 e3 (by rw[c2,c3];decide)) (JC e2 e4 (by rw[c2,c4];decide))
  have l1':=rv.length;have l2':=rw'.length;refine wpAny_pyNext_zip_end (I.ok.hd hc) D' hz hTI hTO h1 h2 p.isList p'.isList ?_ fun h' hk=>⟨rfl,I.turnedL (t':=s.toks) (ch:=[z,TI,TO,i1,i2]) hf fun b o hb q=>hk b o (fun e=>hb (by simp[e])) (fun e=>hb (by simp[e])) (fun e=>hb (by simp[e])) (fun e=>hb (by simp[e])) q⟩
  rcases hl with q | q
  ·exact .inl (by simp;omega)
  ·exact .inr (by simp;omega)
 self:=fun _ _ _ _ _ st h=>wpAny_pyIter_zip st.1 h
theorem q4{n i j:Nat}(h:i≠j):n+i≠n+j:=fun e=>h (Nat.add_left_cancel e)
def iZip(K:Frg)(ta:TA):TI:=fun σ H R=>ta σ H fun vs H1=>∃a b xs ys,vs=[.ref a,.ref b]/\SqL K H1 a xs/\SqL K H1 b ys/\R (Itz K a b) H1
theorem xx{X:Cx}{a b:Expr}{ta:TA}{elts:List Expr}{k:Nat}{p pos pos':Pos}(hg:Gl X "zip")(hm:X.mg "zip"= none)(ha:PA X [a,b] ta)(hs:starEach [a,b] X.env=[(false,eval a X.env),(false,eval b X.env)]:=by rfl)(hs2:starEach [b] X.env=[(false,eval b X.env)]:=by rfl) :
  PI X (.Tuple elts k pos') (.Call (.Name "zip" p) [a,b] [] pos) (iZip X.K ta):=by
 intro pins s σ H R I h;refine Call_ (Q3 I hg hm W2 (PyProof.Rows.callWith_type1 (thn (ha pos pins s σ H _ I h) fun us s1 ⟨vs,H1,I1,r1,q1⟩=>?_) (by rw[hs,hs2]) (by rw[hs2];rfl)));obtain⟨l1,l2,xs,ys,rfl,hq,hr,q⟩:=q1;cases r1 with
 | cons r rr=>
  cases rr with
  | cons r' rr=>
   cases rr;cases r;cases r';obtain⟨its,rv,p,hz⟩:=I1.list hq;obtain⟨jts,rw',p',hz'⟩:=I1.list hr;refine call_zip_2 p.isList p'.isList fun h' a1 a2 a3 a4 a5 a6 hk=>?_
   refine wpAny_pyIter_zip a1 ?_;refine⟨s1.heap.objs.size+4,[s1.heap.objs.size+4,s1.heap.objs.size+2,s1.heap.objs.size+3,s1.heap.objs.size,s1.heap.objs.size+1],_,_,H1,rfl,I1.kept (t':=s1.toks) hk,
    wW l1 l2 _ _ _ _ _ (fun l1 l2 b1 b2 b3 b4 b5 b6 b7 b8=>⟨q4 (by decide),q4 (by decide),q4 (i:=0) (by decide),q4 (by decide),q4 (by decide),q4 (j:=0) (by decide),q4 (by decide),q4 (j:=0) (by decide),q4 (by decide),q4 (i:=0) (by decide),b1,b2,b3,b4,b5,b6,b7,b8⟩),⟨a1,a2,⟨_,_,a3⟩,a4,a5⟩,fun c hc=>?_,q⟩
   have hc':s1.heap.objs.size<=c:=by
    rcases(by simpa using hc:c=s1.heap.objs.size+4\/c=s1.heap.objs.size+2\/c=s1.heap.objs.size+3\/c=s1.heap.objs.size\/c=s1.heap.objs.size+1)with rfl | rfl | rfl | rfl | rfl<;>omega
   exact I1.fpOk hc' (I1.hok.fresh hc')
theorem Wf{K:Frg}{a b:Addr}{xs ys:List V}{g:TG}{tb:TS}{D:Ends}{σ:St}{H:Hp}(Pv:Nat->St->Hp->Prop)(hlen:xs.length=ys.length)(h0:Pv 0 σ H)(hl:∀i σ H,i<=xs.length->Pv i σ H->SqL K H a xs/\SqL K H b ys)
  (hs:∀i u v σ H T H',xs[i]?=some u->ys[i]?=some v->Pv i σ H->Same H H'->H' T=some (.tup [u,v])->g (.ref T) σ H' fun σ2 H2=>tb {D with nx:=Pv (i+1),ct:=Pv (i+1),bk:=D.nx} σ2 H2) (hd:∀σ H,Pv xs.length σ H->D.nx σ H) :
  ∃W:Nat->Nat->St->Hp->Prop,(∃m,W 0 m σ H)/\∀i m σ H,W i m σ H->
   ((Itz K a b).stop i H/\D.nx σ H)\/((Itz K a b).go i H/\∃N:St->Hp->Prop,(∀σ' H',N σ' H'->∃m',m'<m/\W (i+1) m' σ' H')/\∀x H',(Itz K a b).yld i H x H'->g x σ H' fun σ2 H2=>tb {D with nx:=N,ct:=N,bk:=D.nx} σ2 H2):=by
 refine⟨fun i m σ H=>m=xs.length-i/\i<=xs.length/\Pv i σ H,⟨xs.length,by simp,Nat.zero_le _,h0⟩,?_⟩;rintro i m σ H ⟨rfl,hi,p⟩;obtain⟨q,q'⟩:=hl i σ H hi p;by_cases hlt:i<xs.length
 ·refine .inr ⟨⟨xs,xs[i],ys,ys[i],q,by simp[hlt],q',by simp⟩,Pv (i+1),fun σ' H' p'=>⟨xs.length-(i+1),by omega,rfl,hlt,p'⟩,fun x H' y=>?_⟩;obtain⟨T,u,v,rfl,hT,e,y,y'⟩:=y;exact hs i u v σ H T H' (y xs q) (y' ys q') p (fun b o h=>by rw[e,jm (jf h hT)];exact h) (by rw[e];exact jh)
 ·have e:i=xs.length:=by omega
  subst e;exact .inl ⟨⟨xs,ys,q,q',.inl (Nat.le_refl _)⟩,hd σ H p⟩
theorem rd_iZip{K:Frg}{ta:TA}{σ:St}{H:Hp}{R:It->Hp->Prop}(h:ta σ H fun vs H1=>∃a b xs ys,vs=[.ref a,.ref b]/\SqL K H1 a xs/\SqL K H1 b ys/\R (Itz K a b) H1):iZip K ta σ H R:=h
theorem yb:entryFor table "dict.update.loop"= some Builtin.«dict.update.loop»:=entryFor_of_tree (by kernel_rfl)
theorem QU:plainId "dict.update.loop"= true:=by decide +kernel
theorem KA:typeLookup (.type "list") "keys"= pure none:=by rw[typeLookup_type,builtinLookup_eq_fast];kernel_rfl
section
variable{prog:Program}{w:World}{A:Around}{E:Value->Shared->Prop}{s:Shared}
theorem noKeys{a:Addr}{o:Obj}{xs:Array Value}{k:Nat}{Q:Option Value->Shared->Prop}(hx:s.heap.get? a=some o)(hc:o.cls = .type "list")(hdat:o.data = .seq xs k)(hd:o.dict=none)(hA:A.handled=none)
  (h:∀h' tk,(∀b o,s.heap.get? b=some o->h'.get? b=some o)->Q none {s with heap:=h',toks:=tk}):wpAny (model prog w) A (getAttr? (.ref a) "keys") Q E s:=by
 obtain⟨c,dct,dat,sl⟩:=o;simp only at hc hdat hd;subst hc hdat hd;obtain⟨hp,g,d,tk,os⟩:=s;have hT:∀tk',(⟨hp,g,d,tk',os⟩:Shared).TypeIs (.ref a) "list":=fun _=>⟨_,hx,rfl⟩
 have f1:=sub_AttributeError;have f3:=F.slot_list_getattribute.lookup;have f4:=F.slot_list_getattribute.bind (.ref a);have f5:=am_list_getattr_none;unfold getAttr? getAttrBy? getAttrBy
 repeat (any_goals (first | assumption | exact hT _ | ((with_reducible show wpAny _ _ (call (Value.builtin "list.__getattribute__") _ _) _ _ _);refine call_meets F.slot_list_getattribute (hT _) am_entry_list_getattribute (F.args_list_getattribute_2 _ _) (meets_getattribute_miss_list a xs k sl "keys" _ KA (by decide +kernel) (by decide +kernel)) ⟨hx,hA,fun h' tk' e hx'=>?_⟩) | wp_step))
 obtain⟨t',u',he⟩:=hx'.there;show wpAny _ _ (getattributeRaised _ _ _ _ _ _ _) _ _ _;unfold getattributeRaised
 repeat (any_goals (first | assumption | wp_step))
 exact h _ _ hx'.keeps
variable{K:Type}[DecidableEq K]{knd:KeyKind prog w K}
noncomputable def foldS(acc:List (K×Value))(ps:List (K×Value)):List (K×Value):=ps.foldl (fun acc kv=>stored acc kv.1 kv.2) acc
theorem kz(acc:List (K×Value))(k:K)(v:Value):(stored acc k v).length<=acc.length+1:=by
 unfold stored;split
 ·rw[length_map];exact Nat.le_succ _
 ·rw[List.length_append];exact Nat.le_refl _
theorem dul{R:Result->Shared->Prop}{d it l:Addr}{items:List Value}{res:Value}(hh:A.handled=none)(hdi:d≠it)(hdl:d≠l)(hil:it≠l) :
  ∀(ps:List (K×Value)) (i:Nat) (acc:List (K×Value)) (s:Shared),s.heap.IsListIter it l i->s.heap.IsList l items.toArray->(items.length=i+ps.length)->
   (∀j kv,ps[j]?=some kv->∃a key,items[i+j]?=some (.ref a)/\IsTup s.heap a #[key,kv.2]/\knd.is kv.1 key=true/\a≠d/\a≠it)->s.heap.DictOf knd d acc->acc.length+ps.length<=sizeLine->
   (∀h' tk,(∀b o,b≠d->b≠it->s.heap.get? b=some o->h'.get? b=some o)->h'.DictOf knd d (foldS acc ps)->R (.ok (.ret res)) {s with heap:=h',toks:=tk})->
   codeAny (model prog w) A (.builtin "dict.update.loop" ⟨[.ref d,.ref it,rawInt i,res],[]⟩) R s
 | [],i,acc,s,hit,hl,hn,hp,hd,hz,hR=>by
  refine codeAny_builtin yb ?_;rw[Around.under_plainId QU _];show wpAny _ A.in1 (pyNext (.ref it) >>= _) _ _ s;refine wpAny_bind (wpAny_pyNext_list_end (A:=A.in1) hh hit hl (by simp;simp at hn;omega) fun h' eb=>?_);show wpAny _ A.in1 (Builtin.Dict.addKeywords d [] >>= _) _ _ _;refine wpAny_bind (wpAny_pure (wpAny_pure (hR h' s.toks (fun b o _ hb e=>eb b o hb e) ?_)));exact hd.extBut eb hdi
 | kv::ps,i,acc,s,hit,hl,hn,hp,hd,hz,hR=>by
  obtain⟨a,key,ha,ht,hk,had,hai⟩:=hp 0 kv rfl;refine codeAny_builtin yb ?_;rw[Around.under_plainId QU _];show wpAny _ A.in1 (pyNext (.ref it) >>= _) _ _ s;refine wpAny_bind (wpAny_pyNext_list_item (A:=A.in1) hit hl (x:=.ref a) (by simpa using ha) fun h1 hit1 sb=>?_);obtain⟨ot,eo,oc,n,od⟩:=ht;have eo1:h1.get? a=some ot:=(sb.2 a hai).trans eo;show wpAny _ A.in1 (holding [Value.ref a] _ >>= _) _ _ _;refine wpAny_bind (wpAny_holding ?_);refine wpAny_bind (wpAny_tryCatch ?_);unfold Builtin.Dict.pairItems;refine wpAny_bind (wpAny_typeOf (T:="tuple") ⟨_,eo1,oc⟩ ?_);show wpAny _ A.in1 (if((Value.type "tuple"== Value.type "list")||(Value.type "tuple"== Value.type "tuple"))=true then _ else _) _ _ _;rw[if_pos (by decide)];refine wpAny_bind (wpAny_seqItems eo1 od ?_);refine wpAny_pure ?_;show wpAny _ A.in1 (holding [key,kv.2] (dictSet d key kv.2)) _ _ _;have hd1:h1.DictOf knd d acc:=hd.extBut (fun b o hb e=>(sb.2 b hb).trans e) hdi;refine wpAny_holding (wpAny_dictSet_pairs (s:={s with heap:=h1}) hk hd1 (fun h2 hd2 sb2=>?_) (by simp at hz;omega));show wpAny _ A.in1 (again _) _ _ _;refine wpAny_pure ⟨plainId_quiet QU _,?_⟩;have kp:∀b o,b≠d->b≠it->s.heap.get? b=some o->h2.get? b=some o:=fun b o h1' h2' e=>(sb2.2 b h1').trans ((sb.2 b h2').trans e)
  have sl:=kz acc kv.1 kv.2;refine dul hh hdi hdl hil ps (i+1) (stored acc kv.1 kv.2) _ (hit1.at fun o e=>(sb2.2 it hdi.symm).trans e) (hl.at fun o e=>kp l o hdl.symm hil.symm e) (by simp at hn;omega) (fun j kv' hj=>?_) hd2 (by simp at hz;omega) fun h3 tk k3 hd3=>?_
  ·obtain⟨a',key',ha',ht',hk',had',hai'⟩:=hp (j+1) kv' (by simpa using hj);obtain⟨o',e',r'⟩:=ht';exact⟨a',key',by rw[<-ha'];congr 1;omega,⟨o',kp _ _ had' hai' e',r'⟩,hk',had',hai'⟩
  ·exact hR h3 tk (fun b o h1' h2' e=>k3 b o h1' h2' (kp b o h1' h2' e)) hd3
end
open PySem PySem.W PyProof.Rows
section
variable{n:Nat}{key:Nat->Int}{p:Array Nat}
noncomputable def Tw(n:Nat)(key:Nat->Int){α:Type}:KasT α->(α->Prop)->Prop
 | .ret a,Q=>Q a
 | .ask i j k,Q=>i<n/\j<n/\Tw n key (k (decide (key i<key j))) Q
theorem Tw.bind{α β:Type}{f:α->KasT β}{Q:β->Prop}:∀{t:KasT α},Tw n key t (fun a=>Tw n key (f a) Q)->Tw n key (t.bind f) Q
 | .ret _,h=>h
 | .ask _ _ _,h=>⟨h.1,h.2.1,Tw.bind h.2.2⟩
theorem Tw.mono{α:Type}{Q Q':α->Prop}(hq:∀a,Q a->Q' a):∀{t:KasT α},Tw n key t Q->Tw n key t Q'
 | .ret _,h=>hq _ h
 | .ask _ _ _,h=>⟨h.1,h.2.1,Tw.mono hq h.2.2⟩
theorem Tw.run{α:Type}{cmp:Nat->Nat->(Bool->Shared->Prop)->Shared->Prop}{Q:α->Shared->Prop}{s:Shared}(hc:∀i j C,i<n->j<n->C (decide (key i<key j)) s->cmp i j C s) :
  ∀{t:KasT α},Tw n key t (fun a=>Q a s)->t.kasWp cmp Q s
 | .ret _,h=>h
 | .ask i j k,h=>hc i j _ h.1 h.2.1 (Tw.run hc h.2.2)
theorem Tw.asks{α:Type}{i j:Nat}{k:Bool->KasT α}{Q:α->Prop}(hi:i<n)(hj:j<n)(h1:key i<key j->Tw n key (k true) Q)(h2:¬key i<key j->Tw n key (k false) Q):Tw n key (.ask i j k) Q:=by
 refine⟨hi,hj,?_⟩;by_cases c:key i<key j
 ·rw[decide_eq_true c];exact h1 c
 ·rw[decide_eq_false c];exact h2 c
def Pk(n:Nat)(p:Array Nat):Prop:=p.toList.Perm (List.range n)
noncomputable def kv(key:Nat->Int)(p:Array Nat)(i:Nat):Int:=key (p.getD i 0)
def Up(key:Nat->Int)(p:Array Nat)(k:Nat):Prop:=∀i j,i<=j->j<k->kv key p i<=kv key p j
def Dn(key:Nat->Int)(p:Array Nat)(k:Nat):Prop:=∀i j,i<=j->j<k->kv key p j<=kv key p i
def Eqs(key:Nat->Int)(p:Array Nat)(m q:Nat):Prop:=∀k,m-(q+1)<=k->k<m->kv key p k=kv key p (m-1)
theorem Pk.size(h:Pk n p):p.size=n:=by have:=h.length_eq;simpa using this
theorem Pk.lt(h:Pk n p)(h0:0<n)(i:Nat):p.getD i 0<n:=by
 rw[Array.getD_eq_getD_getElem?];cases e:p[i]? with
 | none=>exact h0
 | some x=>exact mem_range.mp (h.mem_iff.mp (Array.mem_toList_iff.mpr (Array.mem_of_getElem? e)))
theorem Pk.of(h:Pk n p){q:Array Nat}(hq:q.Perm p):Pk n q:=(Array.perm_iff_toList_perm.mp hq).trans h
theorem Yk{a b:Array Nat}{i j:Nat}(h:a[i]?=b[j]?):kv key a i=kv key b j:=by
 unfold kv;rw[Array.getD_eq_getD_getElem?,Array.getD_eq_getD_getElem?,h]
theorem Y8{i j:Nat}(hj:j<=p.size)(k:Nat):kv key (kas_rev p i j) k=if i<=k/\k<j then kv key p (i+j-1-k)else kv key p k:=by
 have h:=getElem?_mirror_all (xs:=p) (i:=i) hj k;split
 ·rename_i c;rw[if_pos c]at h;exact Yk h
 ·rename_i c;rw[if_neg c]at h;exact Yk h
theorem xh{src d:Nat}(hs:src<p.size)(hd:d<=src)(k:Nat):kv key (bubble p src d) k=if k=src-d then kv key p src else if src-d<k/\k<=src then kv key p (k-1)else kv key p k:=by
 have h:=getElem?_bubble (xs:=p) hs d hd k;split
 ·rename_i c;rw[if_pos c]at h;exact Yk h
 ·rename_i c;rw[if_neg c]at h;split
  ·rename_i c';rw[if_pos c']at h;exact Yk h
  ·rename_i c';rw[if_neg c']at h;exact Yk h
theorem Up.snoc{m:Nat}(h:Up key p m)(h1:1<=m)(hc:¬kv key p m<kv key p (m-1)):Up key p (m+1):=fun i j hij hj=>by
 by_cases e:j<m
 ·exact h i j hij e
 ·have ej:j=m:=by omega
  subst ej;by_cases ei:i=j
  ·rw[ei];exact Int.le_refl _
  ·have:=h i (j-1) (by omega) (by omega);omega
theorem Dn.snoc{m:Nat}(h:Dn key p m)(h1:1<=m)(hc:kv key p m<=kv key p (m-1)):Dn key p (m+1):=fun i j hij hj=>by
 by_cases e:j<m
 ·exact h i j hij e
 ·have ej:j=m:=by omega
  subst ej;by_cases ei:i=j
  ·rw[ei];exact Int.le_refl _
  ·have:=h i (j-1) (by omega) (by omega);omega
theorem wS(hp:Pk n p):∀f m,1<=m->m+f<=n->Up key p m->Tw n key (kas_asc p f m) fun r=>m<=r/\r<=m+f/\Up key p r/\(r<m+f->kv key p r<kv key p (r-1))
 | 0,m,h1,hn,hu=>⟨Nat.le_refl _,Nat.le_refl _,hu,fun h=>absurd h (Nat.lt_irrefl _)⟩
 | f+1,m,h1,hn,hu=>by
  refine Tw.asks (hp.lt (by omega) _) (hp.lt (by omega) _) (fun c=>?_) (fun c=>?_)<;>simp only[Bool.false_eq_true,if_true,if_false]
  ·exact⟨Nat.le_refl _,by omega,hu,fun _=>c⟩
  ·exact Tw.mono (fun r h=>⟨by omega,by omega,h.2.2.1,fun hr=>h.2.2.2 (by omega)⟩) (wS hp f (m+1) (by omega) (by omega) (hu.snoc h1 c))
theorem kW{m q:Nat}(hm:m<=p.size)(he:Eqs key p m q)(k:Nat):kv key (kas_rev p (m-(q+1)) m) k=kv key p k:=by
 rw[Y8 hm];split
 ·rename_i c;rw[he k c.1 c.2,he _ (by omega) (by omega)]
 ·rfl
theorem y4:∀f (p:Array Nat) m q,Pk n p->1<=m->m+f<=n->q+1<=m->Dn key p m->Eqs key p m q->
  Tw n key (kas_desc f p m q) fun r=>Pk n r.1/\m<=r.2.1/\r.2.1<=m+f/\Dn key r.1 r.2.1/\r.2.2+1<=r.2.1/\Eqs key r.1 r.2.1 r.2.2
 | 0,p,m,q,hp,h1,hn,hq,hd,he=>⟨hp,Nat.le_refl _,Nat.le_refl _,hd,hq,he⟩
 | f+1,p,m,q,hp,h1,hn,hq,hd,he=>by
  have sz:=hp.size;refine Tw.asks (hp.lt (by omega) _) (hp.lt (by omega) _) (fun c=>?_) (fun c=>?_)<;>simp only[Bool.false_eq_true,if_true,if_false]
  ·have c:kv key p m<kv key p (m-1):=c;split
   ·have hk:=kW (key:=key) (p:=p) (m:=m) (q:=q) (by omega) he;have hp':Pk n (kas_rev p (m-(q+1)) m):=hp.of (mirror_perm _ _ _ _);refine Tw.mono (fun r h=>⟨h.1,by omega,by omega,h.2.2.2⟩) (y4 f _ (m+1) 0 hp' (by omega) (by omega) (by omega) (fun i j hij hj=>?_) fun k k1 k2=>?_)
    ·rw[hk,hk];exact hd.snoc h1 (by omega) i j hij hj
    ·rw[show k=m+1-1 by omega]
   ·refine Tw.mono (fun r h=>⟨h.1,by omega,by omega,h.2.2.2⟩) (y4 f p (m+1) 0 hp (by omega) (by omega) (by omega) (hd.snoc h1 (by omega)) fun k k1 k2=>?_);rw[show k=m+1-1 by omega]
  ·have c:¬kv key p m<kv key p (m-1):=c;refine Tw.asks (hp.lt (by omega) _) (hp.lt (by omega) _) (fun c2=>?_) (fun c2=>?_)<;>simp only[Bool.false_eq_true,if_true,if_false]
   ·exact⟨hp,Nat.le_refl _,Nat.le_add_right m (f+1),hd,hq,he⟩
   ·have c2:¬kv key p (m-1)<kv key p m:=c2;refine Tw.mono (fun r h=>⟨h.1,by omega,by omega,h.2.2.2⟩) (y4 f p (m+1) (q+1) hp (by omega) (by omega) (by omega) (hd.snoc h1 (by omega)) fun k k1 k2=>?_);rw[Nat.add_sub_cancel];by_cases e:k=m
    ·rw[e]
    ·rw[he k (by omega) (by omega)];omega
theorem wU{m:Nat}(hp:Pk n p)(h1:1<=m)(hn:m<=n)(hd:Dn key p m):Tw n key (kas_tail3 m n p) fun r=>Pk n r.2/\1<=r.1/\r.1<=n/\Up key r.2 r.1:=by
 have sz:=hp.size;have hp':Pk n (kas_rev p 0 m):=hp.of (mirror_perm _ _ _ _);have hk:=Y8 (key:=key) (p:=p) (i:=0) (j:=m) (by omega);refine Tw.bind (Tw.mono (fun r h=>?_) (wS hp' (n-m) m h1 (by omega) fun i j hij hj=>?_))
 ·exact⟨hp',by omega,by omega,h.2.2.1⟩
 ·rw[hk,hk,if_pos ⟨Nat.zero_le _,by omega⟩,if_pos ⟨Nat.zero_le _,hj⟩];exact hd _ _ (by omega) (by omega)
theorem wT{m:Nat}(hp:Pk n p)(hn:m+1<=n)(hd:Dn key p (m+1)):Tw n key (kas_descPart m n p) fun r=>Pk n r.2/\1<=r.1/\r.1<=n/\Up key r.2 r.1:=by
 refine Tw.bind (Tw.mono (fun r h=>?_) (y4 (n-(m+1)) p (m+1) 0 hp (by omega) (by omega) (by omega) hd fun k k1 k2=>by rw[show k=m+1-1 by omega]));obtain⟨a,b,c,d,e,g⟩:=h;have sz:=a.size;split
 ·have hk:=kW (key:=key) (p:=r.1) (m:=r.2.1) (q:=r.2.2) (by omega) g;exact wU (a.of (mirror_perm _ _ _ _)) (by omega) (by omega) fun i j hij hj=>by rw[hk,hk];exact d i j hij hj
 ·exact wU a (by omega) (by omega) d
theorem WK(hp:Pk n p)(h1:1<=n):Tw n key (kas_count n p) fun r=>Pk n r.2/\1<=r.1/\r.1<=n/\Up key r.2 r.1:=by
 have sz:=hp.size;refine Tw.bind (Tw.mono (fun r h=>?_) (wS (key:=key) hp (n-1) 1 (by omega) (by omega) fun i j hij hj=>by rw[show i=j by omega];exact Int.le_refl _));obtain⟨a,b,c,d⟩:=h;split
 ·exact⟨hp,a,by omega,c⟩
 rename_i hne;have hrn:r<n:=by
  have:r≠n:=fun e=>hne (by rw[e];simp)
  omega
 have d:=d (by omega);split
 ·refine Tw.asks (hp.lt (by omega) _) (hp.lt (by omega) _) (fun q=>?_) (fun q=>?_)<;>simp only[Bool.false_eq_true,if_true,if_false]
  ·exact⟨hp,a,by omega,c⟩
  ·have q:¬kv key p 0<kv key p (r-1):=q;have hk:=Y8 (key:=key) (p:=p) (i:=0) (j:=r) (by omega);have eqs:∀i,i<r->kv key p i=kv key p (r-1):=fun i hi=>by
    have h1:=c 0 i (Nat.zero_le _) hi;have h2:=c i (r-1) (by omega) (by omega);omega
   have eqk:∀i,kv key (kas_rev p 0 r) i=kv key p i:=fun i=>by
    rw[hk];split
    ·rename_i q';rw[eqs _ q'.2,eqs _ (by omega)]
    ·rfl
   refine wT (hp.of (mirror_perm _ _ _ _)) (by omega) fun i j hij hj=>?_
   rw[eqk,eqk];by_cases e:j=r
   ·by_cases e2:i=r
    ·rw[e,e2];exact Int.le_refl _
    ·rw[e,eqs i (by omega)];omega
   ·rw[eqs i (by omega),eqs j (by omega)];exact Int.le_refl _
 ·have er:r=1:=by omega
  subst er;refine wT hp (by omega) fun i j hij hj=>?_
  rcases(by omega:(i=0/\j=0)\/(i=0/\j=1)\/(i=1/\j=1))with⟨rfl,rfl⟩ | ⟨rfl,rfl⟩ | ⟨rfl,rfl⟩
  ·exact Int.le_refl _
  ·have:kv key p 1<kv key p (1-1):=d;exact Int.le_of_lt this
  ·exact Int.le_refl _
theorem y6{k:Nat}(hp:Pk n p)(hkn:k<n)(hu:Up key p k):∀f l r,l<=r->r<=k->r-l<=f->(∀i,i<l->kv key p i<=kv key p k)->(∀i,r<=i->i<k->kv key p k<kv key p i)->
  Tw n key (kas_place p k f l r) fun m=>m<=k/\(∀i,i<m->kv key p i<=kv key p k)/\∀i,m<=i->i<k->kv key p k<kv key p i
 | 0,l,r,h1,h2,h3,a,b=>⟨by omega,a,fun i hi=>b i (by omega)⟩
 | f+1,l,r,h1,h2,h3,a,b=>by
  unfold kas_place;split
  ·exact⟨by omega,a,fun i hi=>b i (by omega)⟩
  refine Tw.asks (hp.lt (by omega) _) (hp.lt (by omega) _) (fun q=>?_) (fun q=>?_)<;>simp only[Bool.false_eq_true,if_true,if_false]
  ·have q:kv key p k<kv key p ((l+r)/2):=q;exact y6 hp hkn hu f l _ (by omega) (by omega) (by omega) a fun i hi hk=>by
    have:=hu ((l+r)/2) i hi hk;omega
  ·have q:¬kv key p k<kv key p ((l+r)/2):=q;exact y6 hp hkn hu f _ r (by omega) h2 (by omega) (fun i hi=>by
    have:=hu i ((l+r)/2) (by omega) (by omega);omega) b
theorem WY:∀f (p:Array Nat) k,Pk n p->k+f<=n->Up key p k->Tw n key (kas_bin f p k) fun q=>Pk n q/\Up key q (k+f)
 | 0,p,k,hp,hn,hu=>⟨hp,hu⟩
 | f+1,p,k,hp,hn,hu=>by
  have sz:=hp.size;refine Tw.bind (Tw.mono (fun l h=>?_) (y6 hp (by omega) hu k 0 k (Nat.zero_le _) (Nat.le_refl _) (by omega) (fun i hi=>absurd hi (Nat.not_lt_zero _)) fun i h1 h2=>absurd h1 (by omega)));obtain⟨a,b,c⟩:=h;have hk:=xh (key:=key) (p:=p) (src:=k) (d:=k-l) (by omega) (by omega);refine Tw.mono (fun q h=>⟨h.1,by rw[show k+(f+1)=k+1+f by omega];exact h.2⟩) (WY f _ (k+1) (hp.of (bubble_perm _ _ _)) (by omega) fun i j hij hj=>?_);rw[hk,hk,show k-(k-l)=l by omega]
  repeat' split
  all_goals first
   | exact Int.le_refl _
   | (exfalso;omega)
   | exact Int.le_of_lt (c _ (by omega) (by omega))
   | exact b _ (by omega)
   | exact hu _ _ (by omega) (by omega)
   | (have h1:=b i (by omega);have h2:=c (j-1) (by omega) (by omega);omega)
theorem xC(h2:1<=n):Tw n key (kas_sort n) fun q=>Pk n q/\Up key q n:=by
 have hp:Pk n (List.toArray (List.range n)):=List.Perm.refl _;refine Tw.bind (Tw.mono (fun r h=>?_) (WK (key:=key) hp h2));obtain⟨a,b,c,d⟩:=h;split
 ·refine Tw.mono (fun q h=>⟨h.1,?_⟩) (WY (n-max r.1 1) r.2 (max r.1 1) a (by omega) (by rw[show max r.1 1=r.1 by omega];exact d));have e:max r.1 1+(n-max r.1 1)=n:=by omega
  rw[e]at h;exact h.2
 ·have e:r.1=n:=by omega
  exact⟨a,by rw[<-e];exact d⟩
end
section
variable{prog:Program}{w:World}{A:Around}{E:Value->Shared->Prop}{s:Shared}
def PrAt(h:Heap)(as:List Addr)(key:Nat->Int):Prop:=∀i a,as[i]?=some a->∃o t u n,h.get? a=some o/\o.cls = .type "tuple"/\o.data = .seq #[.int (key i) t,u] n
theorem PrAt.keep{h h':Heap}{as:List Addr}{key:Nat->Int}(x:PrAt h as key)(k:∀a∈as,∀o,h.get? a=some o->h'.get? a=some o):PrAt h' as key:=fun i a e=>by
 obtain⟨o,t,u,n,q,r⟩:=x i a e;exact⟨o,t,u,n,k a (List.mem_of_getElem? e) _ q,r⟩
theorem xT{as:List Addr}{key:Nat->Int}(x:PrAt s.heap as key)(inj:∀i j,i<as.length->j<as.length->key i=key j->i=j){i j:Nat}{C:Bool->Shared->Prop}(hi:i<as.length)(hj:j<as.length)
  (h:C (decide (key i<key j)) s):kas_ask prog w A (tuples' true) (as.map Value.ref) i j C s:=by
 unfold kas_ask;obtain⟨o,t,u,n,q1,c1,d1⟩:=x i _ (List.getElem?_eq_getElem hi);obtain⟨o',t',u',n',q2,c2,d2⟩:=x j _ (List.getElem?_eq_getElem hj);have e1:(as.map Value.ref).getD i Value.none = .ref as[i]:=by rw[getD_eq_getElem?_getD,List.getElem?_map,List.getElem?_eq_getElem hi];rfl
 have e2:(as.map Value.ref).getD j Value.none = .ref as[j]:=by rw[getD_eq_getElem?_getD,List.getElem?_map,List.getElem?_eq_getElem hj];rfl
 rw[e1,e2];refine kat_lt q1 d1 q2 d2 ?_;show KatLex prog w A true _ C [(.int (key i) t,.int (key j) t'),(u,u')] 0 s;refine kat_cons (wpAny_eqBool_int ?_);by_cases c:key i=key j
 ·have ij:=inj i j hi hj c;subst ij;rw[beq_self_eq_true];have eu:u=u':=by
   have e:o=o':=Option.some.inj (q1.symm.trans q2);subst e;have e:=d1.symm.trans d2;injection e with e _;have:=congrArg (fun a:Array Value=>a[1]?) e;simpa using this
  subst eu;refine kat_yes (kat_cons (SeqAt.EqAt.same _ _ _ _ _ ?_));refine kat_yes (kat_nil ?_);rw[decide_eq_false (Int.lt_irrefl _)]at h;exact h
 ·rw[beq_false_of_ne c];exact kat_no (oneLt_int h)
theorem Kf{h:Heap}{key:Nat->Int}:∀{as:List Addr} (_:PrAt h as key),∃fs,KatTups h (as.map Value.ref) fs/\fs.length=as.length/\∀v∈fs,∃n t,v=Value.int n t
 | [],_=>⟨[],KatTups.nil,rfl,fun v hv=>nomatch hv⟩
 | a::r,x=>by
  obtain⟨o,t,u,n,q,c,d⟩:=x 0 a rfl;obtain⟨fs,k,l,f⟩:=Kf (key:=fun i=>key (i+1)) (as:=r) fun i b e=>x (i+1) b (by simpa using e)
  refine⟨.int (key 0) t::fs,KatTups.cons q c d rfl k,by rw[length_cons,l,length_cons],fun v hv=>?_⟩;rcases mem_cons.mp hv with rfl | hv
  ·exact⟨_,_,rfl⟩
  ·exact f v hv
theorem WL(vs:List Value):(vs.toArray.zip vs.toArray).map (·.2)=vs.toArray:=by
 apply Array.toList_inj.mp;rw[Array.toList_map,Array.toList_zip];exact List.map_snd_zip (Nat.le_refl _)
theorem KI(vs:List Value):(List.range vs.length).map (fun i=>vs.getD i Value.none)=vs:=by
 refine List.ext_getElem (by simp) fun i h1 h2=>?_
 rw[getElem_map,List.getElem_range,getD_eq_getElem?_getD,List.getElem?_eq_getElem h2];rfl
theorem wF:∀{l:List Int},l.length<2->l.Pairwise (·<=·)
 | [],_=>.nil
 | [_],_=>pairwise_singleton _ _
 | _::_::_,h=>absurd h (by rw[length_cons,length_cons];omega)
theorem wQ{a:Addr}{as:List Addr}{key:Nat->Int}{c0:Nat}{P:PySem.Fin->Shared->Prop}(hob:s.heap.get? a=some (seqObj "list" (as.map Value.ref).toArray c0))(hna:a∉as)(x:PrAt s.heap as key)
  (inj:∀i j,i<as.length->j<as.length->key i=key j->i=j) (h64:as.length<64)
  (hend:∀(q:List Nat) (h':Heap) (c:Nat),q.Perm (List.range as.length)->(q.map key).Pairwise (·<=·)->(∀b o,b≠a->s.heap.get? b=some o->h'.get? b=some o)->
   h'.get? a=some (seqObj "list" ((q.map fun i=>as.getD i 0).map Value.ref).toArray c)->P (.done (.ret .none)) {s with heap:=h'}) :
  wpAny (model prog w) A (Builtin.«list.sort» ⟨[.ref a],[]⟩) P E s:=by
 have hlt:a<s.heap.objs.size:=Heap.lt_size hob;obtain⟨c1,hob1⟩:∃c1,(s.heap.update a (Obj.mapSeq fun _=>(#[]:Array Value))).get? a=some (seqObj "list" #[] c1):=⟨_,get?_update_seq hob fun _=>#[]⟩
 have sb1:=Heap.SameBut.update s.heap a (Obj.mapSeq fun _=>(#[]:Array Value));rw[list_sort_plain];refine wpAny_bind (listItems_at (s:=s) hob rfl ?_);refine wpAny_bind (listUpdate_at (s:=s) hob rfl ?_ (by rw[size_toArray,length_map,sizeLine_eq];omega) (Nat.zero_le _));refine wpAny_bind (seqEpoch_at (n:=c1) hob1 rfl ?_);refine wpAny_bind (wpAny_newTuple ?_ (by show(as.map Value.ref).length<=_;rw[length_map,sizeLine_eq];omega));refine wpAny_bind (wpAny_newList ?_ (Nat.zero_le (sizeLine)));refine wpAny_holding ?_;generalize hH:((s.heap.update a (Obj.mapSeq fun _=>(#[]:Array Value))).push (seqObj "tuple" (as.map Value.ref).toArray 0)).push (seqObj "list" #[] 0)=hX;have kX:∀b o,b≠a->s.heap.get? b=some o->hX.get? b=some o:=fun b o hb e=>by
  rw[<-hH];exact Heap.get?_push_of_some _ (Heap.get?_push_of_some _ ((sb1.2 b hb).trans e))
 have oX:hX.get? a=some (seqObj "list" #[] c1):=by
  rw[<-hH];exact Heap.get?_push_of_some _ (Heap.get?_push_of_some _ hob1)
 have xX:PrAt hX as key:=x.keep fun b hb o e=>kX b o (fun z=>hna (z▸hb)) e
 show wpAny (model prog w) A _ P E {s with heap:=hX};dsimp only;have szv:(as.map Value.ref).toArray.size=as.length:=by rw[size_toArray,length_map]
 have outE:∀q:List Nat,q.Perm (List.range as.length)->(List.map (fun i=>(as.map Value.ref).getD i Value.none) q)=(q.map fun i=>as.getD i 0).map Value.ref:=fun q hq=>by
  rw[List.map_map];refine map_congr_left fun i hi=>?_
  have hl:i<as.length:=mem_range.mp (hq.mem_iff.mp hi);show(as.map Value.ref).getD i Value.none=Value.ref (as.getD i 0);rw[getD_eq_getElem?_getD,getD_eq_getElem?_getD,List.getElem?_map,List.getElem?_eq_getElem hl];rfl
 have done:∀(q:List Nat),q.Perm (List.range as.length)->(q.map key).Pairwise (·<=·)->∀out:Array Value,out=(List.map (fun i=>(as.map Value.ref).getD i Value.none) q).toArray->
   P (.done (.ret .none)) {s with heap:=hX.update a (Obj.mapSeq fun _=>out)}:=fun q hq hs out ho=>by
  subst ho;have o2:=get?_update_seq oX fun _=>(List.map (fun i=>(as.map Value.ref).getD i Value.none) q).toArray
  have sb2:=Heap.SameBut.update hX a (Obj.mapSeq fun _=>(List.map (fun i=>(as.map Value.ref).getD i Value.none) q).toArray);rw[outE q hq]at o2 sb2|-;exact hend q _ _ hq hs (fun b o hb e=>(sb2.2 b hb).trans (kX b o hb e)) o2
 by_cases h2:(as.map Value.ref).toArray.size<2
 ·rw[if_pos h2,if_pos h2];refine wpAny_bind (wpAny_pure ?_);rw[StateT.run_pure];refine wpAny_bind (wpAny_pure ?_);dsimp only;refine wpAny_bind (seqEpoch_at (n:=c1) oX rfl ?_);have eo:(arrOf (SortSt.mk' general' ((as.map Value.ref).toArray.zip (as.map Value.ref).toArray) #[] 7 none)).map (·.2)=(List.map (fun i=>(as.map Value.ref).getD i Value.none) (List.range as.length)).toArray:=by
   have e:=KI (as.map Value.ref);rw[length_map]at e;rw[e];exact WL _
  rw[eo];refine wpAny_bind (listUpdate_at (s:={s with heap:=hX}) oX rfl ?_ (Nat.zero_le _) (by rw[size_toArray,length_map,length_range,sizeLine_eq];omega));simp only[bne_self_eq_false,Bool.false_eq_true,if_false];refine wpAny_pure (done (List.range as.length) (List.Perm.refl _) ?_ _ rfl);rw[szv]at h2;exact wF (by rw[length_map,length_range];exact h2)
 ·rw[if_neg h2,if_neg h2];rw[szv]at h2;obtain⟨fs,kt,kl,ki⟩:=Kf xX;have hX':hX=({s with heap:=hX}:Shared).heap:=rfl;refine wpAny_bind (kat_kind (s:={s with heap:=hX}) (T:=Value.type "int") kt (by omega) (fun v hv=>?_) (by decide) ?_)
  ·obtain⟨m,t,rfl⟩:=ki v hv;exact Looks.of_pure rfl
  refine wpAny_bind (wpAny_mono (kat_run (s:={s with heap:=hX}) (ks:=as.map Value.ref) (vs:=as.map Value.ref) (κ:=tuples' true) (Q:=fun st' s'=>∃p:Array Nat,Pk as.length p/\Up key p as.length/\arrOf st'=p.map (kas_item ((as.map Value.ref).toArray.zip (as.map Value.ref).toArray))/\failedOf st'=none/\s'={s with heap:=hX}) (G:=fun p s'=>Pk as.length p/\Up key p as.length/\s'={s with heap:=hX})
   rfl (by rw[length_map];omega) (by rw[length_map];exact h64) (fun p st' s' _ a2 a3 a4=>⟨p,a4.1,a4.2.1,a2,a3,a4.2.2⟩) ?_) ?_ fun _ _ e=>e)
  ·rw[length_map];exact Tw.run (n:=as.length) (key:=key) (fun i j C hi hj hC=>xT xX inj hi hj hC) (Tw.mono (fun q h=>⟨h.1,h.2,rfl⟩) (xC (key:=key) (by omega)))
  rintro⟨⟨⟩,st'⟩ s' ⟨p,hp,hu,har,hf,rfl⟩;dsimp only;rw[kat_snds rfl har];refine wpAny_bind (seqEpoch_at (n:=c1) oX rfl ?_);have psz:=hp.size;refine wpAny_bind (listUpdate_at (s:={s with heap:=hX}) oX rfl ?_ (Nat.zero_le _) (by rw[size_toArray,length_map,Array.length_toList,psz,sizeLine_eq];omega));rw[hf];simp only[bne_self_eq_false,Bool.false_eq_true,if_false];refine wpAny_pure (done p.toList hp ?_ _ rfl);refine pairwise_map.mpr (pairwise_iff_getElem.mpr fun i j hi hj hij=>?_);rw[Array.length_toList]at hi hj;have:=hu i j (by omega) (by omega);unfold kv at this;rw[Array.getD_eq_getD_getElem?,Array.getD_eq_getD_getElem?,Array.getElem?_eq_getElem hi,Array.getElem?_eq_getElem hj]at this;exact this
end
open PySem PySem.Spec PySem.W PyProof.Rows
section
variable{X:Cx}{pins:List (Addr×Obj)}{σ:St}{H:Hp}{s:Shared}
def NewA(X:Cx)(pins:List (Addr×Obj))(T:Addr):Prop:=X.s₀.heap.objs.size<=T/\T≠X.env.locals/\(∀x c,X.env.cells.lookup x=some c->c≠T)/\∀p∈X.pn++pins,p.1≠T
theorem Inv.newA(I:Inv X pins σ H s){T:Addr}(hT:s.heap.objs.size<=T):NewA X pins T:=by
 obtain⟨_,f1,_,_,f4,f5⟩:=I.fpOk (H':=fun _=>none) hT rfl;exact⟨Nat.le_trans I.sz hT,f1,f4,f5⟩
theorem ObjOk.obj{P:Program}{w:World}{h:Heap}{a:Addr}{o:HO}(x:ObjOk P w H h a o):∃u,h.get? a=some u:=by
 cases o with
 | lst xs=>obtain⟨_,_,_,_,e⟩:=x;exact⟨_,e⟩
 | tup xs=>obtain⟨_,_,_,u,e,_⟩:=x;exact⟨u,e⟩
 | dK kvs=>obtain⟨_,_,_,_,u,_,_,e,_⟩:=x;exact⟨u,e⟩
 | dT kvs=>obtain⟨_,_,_,_,u,_,_,e,_⟩:=x;exact⟨u,e⟩
 | set S n=>obtain⟨u,_,_,_,e,_⟩:=x;exact⟨u,e⟩
 | ins C dx fs=>obtain⟨_,_,_,e,_⟩:=x;exact⟨_,e⟩
 | own y=>exact x
 | xd fs=>obtain⟨_,⟨u,_,_,e,_⟩,_⟩:=x;exact⟨u,e⟩
 | rng lo hi=>obtain⟨_,_,_,e⟩:=x;exact⟨_,e⟩
 | frz u v=>exact⟨_,x.1⟩
 | tbl ps=>exact⟨_,x⟩
 | met f y=>exact⟨_,x⟩
 | ext φ=>exact x.2.1
theorem Inv.none_at{h1:Heap}(I:Inv X pins σ H s)(hk:∀b o,s.heap.get? b=some o->h1.get? b=some o):H h1.objs.size=none:=by
 cases e:H h1.objs.size with
 | none=>rfl
 | some u=>
  obtain⟨v,q⟩:=(I.hok _ _ e).obj;exact absurd (Heap.lt_size (hk _ _ q)) (Nat.lt_irrefl _)
theorem Inv.newB{h1:Heap}(I:Inv X pins σ H s)(hk:∀b o,s.heap.get? b=some o->h1.get? b=some o):NewA X pins h1.objs.size:=by
 have lt:∀b o,s.heap.get? b=some o->b<h1.objs.size:=fun b o e=>Heap.lt_size (hk b o e)
 obtain⟨m,⟨o,_,_,ho,_⟩,_⟩:=I.loc;have hL:=lt _ _ ho;refine⟨Nat.le_of_lt (Nat.lt_of_le_of_lt I.ok.above hL),Nat.ne_of_gt hL,fun x c e=>?_,fun p hp=>Nat.ne_of_lt (lt _ _ (I.pin p hp).1)⟩;obtain⟨v,o,ho,_⟩:=I.cell x c e;exact Nat.ne_of_lt (lt _ _ ho)
theorem Inv.track{T:Addr}{o:HO}(I:Inv X pins σ H s)(h0:H T=none)(hn:NewA X pins T)(new:ObjOk X.prog X.w (upd H T o) s.heap T o):Inv X pins σ (upd H T o) s:=by
 have ne:∀b u,H b=some u->b≠T:=fun b u e z=>by rw[z,h0]at e;cases e
 refine I.step (h':=s.heap) (H':=upd H T o) (g':=s.gens) (d':=s.drawn) (t':=s.toks) (ch:=[T]) (fun b hb=>?_) (fun b o _ _ _ e _=>e) (fun b o _ _ _ e _=>⟨o.slots,e⟩) (fun b u hb _ n=>?_) (fun b u _ e=>⟨u,e⟩)
  (fun b xs e=>(jm (ne _ _ e)).trans e) (fun b u v e=>(jm (ne _ _ e)).trans e) (fun b ps e=>⟨#[],by rw[jm (ne _ _ e),e];simp⟩) (fun m hm=>hm) (fun b u e=>?_) I.bare
 ·have e:b=T:=by simpa using hb
  subst e;exact⟨.inr hn.1,hn.2.1,hn.2.2.1,hn.2.2.2⟩
 ·exact(jm fun z=>hb (by simp[z])).trans n
 ·by_cases z:b=T
  ·subst z;rw[jh]at e;cases e;exact new
  ·rw[jm z]at e;exact(I.hok b u e).stay (fun c v _ q=>q) (fun c q=>(jm (ne _ _ q)).trans q) fun c ys q=>(jm (ne _ _ q)).trans q
theorem Inv.trackAll:∀(ws:List (Addr×HO)) {H:Hp},Inv X pins σ H s->(∀p∈ws,H p.1=none/\NewA X pins p.1/\∀H',ObjOk X.prog X.w H' s.heap p.1 p.2)->(ws.map (·.1)).Nodup->∃H',Inv X pins σ H' s/\Same H H'/\∀p∈ws,H' p.1=some p.2
 | [],H,I,_,_=>⟨H,I,Same.refl _,fun p hp=>nomatch hp⟩
 | w::r,H,I,h,nd=>by
  obtain⟨a,b,c⟩:=h w mem_cons_self;rw[map_cons,nodup_cons]at nd;have I1:=I.track a b (c _);obtain⟨H',I2,s2,k2⟩:=Inv.trackAll r I1 (fun p hp=>by
   obtain⟨a',b',c'⟩:=h p (mem_cons_of_mem _ hp);exact⟨(jm fun z:p.1=w.1=>nd.1 (by rw[<-z];exact mem_map.mpr ⟨p,hp,rfl⟩)).trans a',b',c'⟩) nd.2
  have s1:Same H (upd H w.1 w.2):=fun b u q=>(jm (jf q a)).trans q
  refine⟨H',I2,s1.trans s2,fun p hp=>?_⟩;rcases mem_cons.mp hp with rfl | hp
  ·exact s2 _ _ jh
  ·exact k2 p hp
end
section
variable{X:Cx}
theorem valsR:∀as:List Addr,Vals (as.map V.ref) (as.map Value.ref)
 | []=>.nil
 | _::r=>.cons rfl (valsR r)
theorem KV.get{κ:Type}:∀{kvs:List (κ×V)} {vs:List (κ×Value)} {i:Nat} {p:κ×V},KV kvs vs->kvs[i]?=some p->∃q,vs[i]?=some q/\p.1=q.1/\RelV p.2 q.2
 | _,_,_,_,.nil,e=>by simp at e
 | _,_,0,_,.cons r _,e=>by simp at e;subst e;exact⟨_,rfl,r⟩
 | _,_,i+1,p,.cons _ t,e=>by
  obtain⟨q,h1,h2⟩:=KV.get (i:=i) (p:=p) t (by simpa using e);exact⟨q,by simpa using h1,h2⟩
theorem KC:MtR X "dict.update" (fun x vs H Q=>∃d o kvs more,x = .ref d/\vs=[.ref o]/\H d=some (.dK kvs)/\H o=some (.dK more)/\d≠o/\kvs.length+more.length<=sizeLine/\Q .non (upd H d (.dK (mergeK kvs more)))):=by
 intro pins s σ H x vs v us Q I rx rv h;obtain⟨d,o,kvs,more,rfl,rfl,ed,eo,hne,hz,q⟩:=h;cases rx;obtain⟨u,rfl,ru⟩:=vals1 rv;cases ru;obtain⟨z1,hd1,vs1,r1,dd1⟩:=ya I.hok ed;obtain⟨z2,hd2,vs2,r2,dd2⟩:=ya I.hok eo;refine call_meetsIn PySem.F.slot_dict_update dd1.typeIs PySem.F.entry_dict_update (PySem.F.args_dict_update_2 _ _) (meets_dict_update (mixKind X.prog X.w) d o hne hd2) ⟨vs1,vs2,dd1,dd2,by rw[<-r1.length,<-r2.length];exact hz,fun h' dd' _ hs=>?_⟩;have he:∃q,h'.get? d=some q:=let ⟨q,_,_,hq,_⟩:=dd';⟨q,hq⟩;have hl:=qi more kvs;exact⟨.non,_,Za (t':=s.toks) I (by rw[ed];exact True.intro) hs he (yC (by omega) hd1 (r2.merge r1) dd'),rfl,q⟩
noncomputable def IView(v d:Addr):HO:=.ext fun h=>h.get? v=some {cls:=.type "dict_items",data:=.fields #[.ref d]}
theorem wu:MtR X "dict.items" (fun x vs H Q=>∃d kvs,x = .ref d/\vs=[]/\H d=some (.dK kvs)/\∀v,H v=none->Q (.ref v) (upd H v (IView v d))):=by
 intro pins s σ H x vs v us Q I rx rv h;obtain⟨d,kvs,rfl,rfl,ed,q⟩:=h;cases rx;have hus:=rv.zero;subst hus;obtain⟨z1,hd1,vs1,r1,dd1⟩:=ya I.hok ed;refine call_meetsIn PySem.F.slot_dict_items dd1.typeIs PySem.F.entry_dict_items (PySem.F.args_dict_items_1 (.ref d)) (meets_dict_items (mixKind X.prog X.w) d hd1) ⟨⟨vs1,dd1⟩,?_⟩;have e:(s.heap.push {cls:=.type "dict_items",data:=.fields #[.ref d]}).get? s.heap.objs.size=some {cls:=.type "dict_items",data:=.fields #[.ref d]}:=Heap.get?_push_size _ rfl;exact⟨.ref s.heap.objs.size,_,I.laid (t':=s.toks) (o:=IView s.heap.objs.size d) (fun b u q=>Heap.get?_push_of_some _ q) (Nat.le_refl _) (show ObjOk X.prog X.w _ _ _ (IView s.heap.objs.size d)from⟨e,⟨_,e⟩,fun h1 h2 q k=>k _ q⟩),rfl,q _ (I.hok.fresh (Nat.le_refl _))⟩
noncomputable def iiK(p:Int×Int):Key×V:=(Sum.inl p.1,.int p.2)
theorem yA(hc:X.calm=true):CallR X (.builtin "sorted") (fun xs H Q=>∃(v d:Addr) (kvs:List (Int×Int)),xs=[.ref v]/\H v=some (IView v d)/\H d=some (.dK (kvs.map iiK))/\kvs.length<64/\
  ∀(l:Addr) (as:List Addr) (ms:List (Int×Int)) (H':Hp),Same H H'->H l=none->H' l=some (.lst (as.map V.ref))->(∀a∈as,H a=none)->ms.Perm kvs->(ms.map (·.1)).Pairwise (·<=·)->as.length=ms.length->(∀(i:Nat) (a:Addr) (p:Int×Int),as[i]?=some a->ms[i]?=some p->H' a=some (.tup [.int p.1,.int p.2]))->Q (.ref l) H'):=by
 intro pins s σ H xs us Q I r h;obtain⟨v,d,kvs,rfl,ev,ed,h64,q⟩:=h;obtain⟨u,rfl,ru⟩:=vals1 r;cases ru;obtain⟨z1,hd1,vs1,r1,dd1⟩:=ya I.hok ed;have hv:s.heap.get? v=some {cls:=.type "dict_items",data:=.fields #[.ref d]}:=(I.hok v _ ev).1;obtain⟨ep,da⟩:=dd1.dictAt;have lv:=r1.length;rw[length_map]at lv;have nd:(kvs.map (·.1)).Nodup:=by
  have n1:(vs1.map (·.1)).Nodup:=let ⟨_,_,_,_,_,_,_,_,hn⟩:=dd1;hn;rw[<-r1.keys,List.map_map]at n1;refine pairwise_map.mpr ((pairwise_map.mp n1).imp fun {a b} h e=>h ?_);show(Sum.inl a.1:Key)=Sum.inl b.1;rw[e]
 refine Calls.call_function_entry kind_sorted plain_sorted entry_sorted (args_sorted1 (.ref v)) ?_;unfold Builtin.«sorted»;refine wpAny_bind (m:=checkCount "sorted" 1 1 1) (wpAny_pure ?_);refine wpAny_bind (kdx_collect (knd:=mixKind X.prog X.w) (kvs:=vs1) (ep:=ep) (A:=X.A.in1) (I.ok.hd hc) ⟨_,hv,rfl,rfl⟩ da (by rw[<-lv,sizeLine_eq];omega) fun h1 tk as hk hl hG=>?_);rw[<-lv]at hl;refine wpAny_bind (wpAny_newList ?_ (by rw[length_map,hl,sizeLine_eq];omega));have hoL:(h1.push (seqObj "list" (as.map Value.ref).toArray 0)).get? h1.objs.size=some (seqObj "list" (as.map Value.ref).toArray 0):=Heap.get?_push_size _ rfl;have hna:h1.objs.size∉as:=fun z=>Nat.lt_irrefl _ (hG.there z)
 have key:∀i p,kvs[i]?=some p->(fun i=>(kvs.getD i (0,0)).1) i=p.1/\(fun i=>(kvs.getD i (0,0)).2) i=p.2:=fun i p e=>by
  dsimp only;rw[getD_eq_getElem?_getD,e];exact⟨rfl,rfl⟩
 have xQ:∀i a,as[i]?=some a->∃t u,(h1.push (seqObj "list" (as.map Value.ref).toArray 0)).get? a=some {cls:=.type "tuple",data:=.seq #[.int ((fun i=>(kvs.getD i (0,0)).1) i) t,.int ((fun i=>(kvs.getD i (0,0)).2) i) u]}:=fun i a e=>by
  obtain⟨ky,k,x,e1,e2,e3⟩:=hG.pairs i a e;have hi:i<kvs.length:=by rw[<-hl];exact(List.getElem?_eq_some_iff.mp e).1
  obtain⟨w',e4,rw'⟩:=KV.get r1 (i:=i) (p:=iiK kvs[i]) (by rw[List.getElem?_map,List.getElem?_eq_getElem hi];rfl);rw[e1]at e4;cases e4;obtain⟨ek,t2,ex⟩:=rw';have ek':k=Sum.inl kvs[i].1:=ek.symm;subst ek';have ex':x = .int kvs[i].2 t2:=ex;subst ex';obtain⟨g1,g2⟩:=key i _ (List.getElem?_eq_getElem hi);rw[show(fun i=>(kvs.getD i (0,0)).1) i=kvs[i].1 from g1,show(fun i=>(kvs.getD i (0,0)).2) i=kvs[i].2 from g2];rcases jU (show keyIs (Sum.inl kvs[i].1) ky=true from e2)with⟨n,t,q1,q2⟩ | ⟨n,t,q1,q2⟩
  ·cases q1;subst q2;exact⟨t,t2,Heap.get?_push_of_some _ e3⟩
  ·cases q1
 have xP:PrAt (h1.push (seqObj "list" (as.map Value.ref).toArray 0)) as (fun i=>(kvs.getD i (0,0)).1):=fun i a e=>by
  obtain⟨t,u,z⟩:=xQ i a e;exact⟨_,t,_,_,z,rfl,rfl⟩
 have inj:∀i j,i<as.length->j<as.length->(fun i=>(kvs.getD i (0,0)).1) i=(fun i=>(kvs.getD i (0,0)).1) j->i=j:=fun i j hi hj e=>by
  rw[hl]at hi hj;obtain⟨g1,_⟩:=key i _ (List.getElem?_eq_getElem hi);obtain⟨g2,_⟩:=key j _ (List.getElem?_eq_getElem hj);rw[g1,g2]at e;rcases Nat.lt_trichotomy i j with z | z | z
  ·exact absurd e (by have:=pairwise_iff_getElem.mp nd i j (by rw[length_map];exact hi) (by rw[length_map];exact hj) z;simpa using this)
  ·exact z
  ·exact absurd e.symm (by have:=pairwise_iff_getElem.mp nd j i (by rw[length_map];exact hj) (by rw[length_map];exact hi) z;simpa using this)
 refine wpAny_bind (wpAny_holding (wpAny_call_entry slot_list_sort ⟨_,hoL,rfl⟩ entry_list_sort (wQ (s:={s with heap:=h1.push (seqObj "list" (as.map Value.ref).toArray 0),toks:=tk}) hoL hna xP inj (by rw[hl];exact h64) fun qs h2 c hq hs kk o2=>⟨_,rfl,?_⟩) (args_list_sort _)));refine wpAny_pure ⟨_,rfl,?_⟩;have ltB:∀b o,s.heap.get? b=some o->b<h1.objs.size:=fun b o e=>Heap.lt_size (hk b o e)
 have k2:∀b o,s.heap.get? b=some o->h2.get? b=some o:=fun b o e=>kk b o (Nat.ne_of_lt (ltB b o e)) (Heap.get?_push_of_some _ (hk b o e))
 have I2:Inv X pins σ H {s with heap:=h2,toks:=tk}:=I.kept (t':=tk) k2;have hB:H h1.objs.size=none:=I.none_at hk;have nB:=I.newB hk;have ha:∀a∈as,H a=none/\NewA X pins a:=fun a h=>⟨I.hok.fresh (Nat.le_of_lt (hG.above a h)),I.newA (Nat.le_of_lt (hG.above a h))⟩
 have qlt:∀i∈qs,i<as.length:=fun i hi=>mem_range.mp (hq.mem_iff.mp hi)
 have ndw:(((h1.objs.size,HO.lst ((qs.map fun i=>as.getD i 0).map V.ref))::(List.range as.length).map fun i=>(as.getD i 0,HO.tup [.int (kvs.getD i (0,0)).1,.int (kvs.getD i (0,0)).2])).map (·.1)).Nodup:=by
  rw[map_cons,nodup_cons,List.map_map];have e2:(List.range as.length).map ((fun x=>x.1)∘fun i=>(as.getD i 0,HO.tup [.int (kvs.getD i (0,0)).1,.int (kvs.getD i (0,0)).2]))=as:=List.ext_getElem (by simp) fun i h1 h2=>by
   rw[getElem_map,List.getElem_range];show as.getD i 0=_;rw[getD_eq_getElem?_getD,List.getElem?_eq_getElem h2];rfl
  rw[e2];exact⟨hna,hG.rise.imp fun h=>Nat.ne_of_lt h⟩
 obtain⟨H',I3,s3,k3⟩:=I2.trackAll ((h1.objs.size,HO.lst ((qs.map fun i=>as.getD i 0).map V.ref))::(List.range as.length).map fun i=>(as.getD i 0,HO.tup [.int (kvs.getD i (0,0)).1,.int (kvs.getD i (0,0)).2])) (fun p hp=>by
  rcases mem_cons.mp hp with rfl | hp
  ·refine⟨hB,nB,fun H'=>⟨?_,_,c,valsR _,o2⟩⟩;rw[length_map,length_map,hq.length_eq,length_range,hl,sizeLine_eq];omega
  ·obtain⟨i,hi,rfl⟩:=mem_map.mp hp;have hi:=mem_range.mp hi;have e:as[i]?=some (as.getD i 0):=by rw[getD_eq_getElem?_getD,List.getElem?_eq_getElem hi];rfl
   obtain⟨t1,t2,eo⟩:=xQ i _ e;have hm:=List.mem_of_getElem? e;obtain⟨n1,n2⟩:=ha _ hm;exact⟨n1,n2,fun H'=>⟨(by show 2<=sizeLine;decide),[_,_],.cons ⟨t1,rfl⟩ (.cons ⟨t2,rfl⟩ .nil),⟨_,kk _ _ (fun z=>hna (z▸hm)) eo,rfl,_,rfl⟩⟩⟩) ndw
 ·refine⟨.ref h1.objs.size,H',I3,rfl,q h1.objs.size (qs.map fun i=>as.getD i 0) (qs.map fun i=>kvs.getD i (0,0)) H' s3 hB (k3 _ mem_cons_self) (fun a h=>?_) ?_ ?_ (by rw[length_map,length_map]) fun i a p e1 e2=>?_⟩
  ·obtain⟨i,hi,rfl⟩:=mem_map.mp h;have e:as[i]?=some (as.getD i 0):=by rw[getD_eq_getElem?_getD,List.getElem?_eq_getElem (qlt i hi)];rfl
   exact(ha _ (List.mem_of_getElem? e)).1
  ·have e:=hq.map fun i=>kvs.getD i (0,0)
   rw[hl]at e;have e2:(List.range kvs.length).map (fun i=>kvs.getD i (0,0))=kvs:=List.ext_getElem (by simp) fun i h1 h2=>by
    rw[getElem_map,List.getElem_range,getD_eq_getElem?_getD,List.getElem?_eq_getElem h2];rfl
   rw[e2]at e;exact e
  ·rw[List.map_map];exact hs
  ·rw[List.getElem?_map]at e1 e2;obtain⟨j,hj,rfl⟩:=Option.map_eq_some_iff.mp e1;rw[hj]at e2;cases e2;exact k3 _ (mem_cons_of_mem _ (mem_map.mpr ⟨j,mem_range.mpr (qlt j (List.mem_of_getElem? hj)),rfl⟩))
end
theorem zP:∀{as:List Addr} {us:List Value},Vals (as.map V.ref) us->us=as.map Value.ref
 | [],_,r=>by cases r;rfl
 | a::as,_,r=>by
  cases r with
  | cons r1 r2=>rw[zP r2,show _=Value.ref a from r1];rfl
theorem YD{h:Heap}:∀{as:List Addr} {kvs:List (Int×Int)},as.length=kvs.length->(∀(i:Nat) (a:Addr) (q:Int×Int),as[i]?=some a->kvs[i]?=some q->∃t u,IsTup h a #[.int q.1 t,.int q.2 u])->
  ∃ps:List (Key×Value),KV (kvs.map iiK) ps/\ps.length=kvs.length/\∀(j:Nat) (kv:Key×Value),ps[j]?=some kv->∃a key,as[j]?=some a/\IsTup h a #[key,kv.2]/\keyIs kv.1 key=true
 | [],[],_,_=>⟨[],.nil,rfl,fun j kv e=>by simp at e⟩
 | [],_::_,l,_=>by simp at l
 | _::_,[],l,_=>by simp at l
 | a::as,q::kvs,l,f=>by
  obtain⟨ps,h1,h2,h3⟩:=YD (as:=as) (kvs:=kvs) (by simpa using l) fun i a q e1 e2=>f (i+1) a q (by simpa using e1) (by simpa using e2)
  obtain⟨t,u,e⟩:=f 0 a q rfl rfl;refine⟨(Sum.inl q.1,.int q.2 u)::ps,.cons ⟨rfl,u,rfl⟩ h1,by rw[length_cons,h2,length_cons],fun j kv ej=>?_⟩;cases j with
  | zero=>simp at ej;subst ej;exact⟨a,_,rfl,e,yf _ _⟩
  | succ j=>obtain⟨b,ky,b1,b2,b3⟩:=h3 j kv (by simpa using ej);exact⟨b,ky,by simpa using b1,b2,b3⟩
section
variable{X:Cx}
theorem YZ(hc:X.calm=true):CallR X (.type "dict") (fun xs H Q=>∃(p:Addr) (as:List Addr) (kvs:List (Int×Int)),xs=[.ref p]/\H p=some (.lst (as.map V.ref))/\as.length=kvs.length/\
  (∀(i:Nat) (a:Addr) (q:Int×Int),as[i]?=some a->kvs[i]?=some q->H a=some (.tup [.int q.1,.int q.2]))/\∀d,H d=none->Q (.ref d) (upd H d (.dK (mergeK [] (kvs.map iiK))))):=by
 intro pins s σ H xs us Q I r h;obtain⟨p,as,kvs,rfl,ep,hl,ht,q⟩:=h;obtain⟨u,rfl,ru⟩:=vals1 r;cases ru;obtain⟨z,its,n,rv,lv,e⟩:=I.lstM ep;have ei:=zP rv;subst ei;rw[length_map]at z;have hp:p<s.heap.objs.size:=Heap.lt_size e;obtain⟨ps,kp,pl,pt⟩:=YD (h:=s.heap) hl fun i a q e1 e2=>by
  obtain⟨_,its,r',t'⟩:=I.hok a _ (ht i a q e1 e2);cases r' with
  | cons ra rr=>
   cases rr with
   | cons rb rr=>
    cases rr;obtain⟨t1,rfl⟩:=ra;obtain⟨t2,rfl⟩:=rb;exact⟨t1,t2,t'⟩
 refine callType_codes (Q₁:=fun obj s₁=>obj = .ref s.heap.objs.size/\s₁={s with heap:=s.heap.push {cls:=.type "dict",data:=.dict #[]}}) PySem.F.kt_called_dict (PySem.F.kt_typeCall_dict_1 (.ref p)) PySem.F.entry_dict_init (kt_code_dict_new (.ref p) ⟨rfl,rfl⟩) ?_;rintro obj s₁ ⟨rfl,rfl⟩;have hnew:(s.heap.push {cls:=.type "dict",data:=.dict #[]}).DictOf (mixKind X.prog X.w) s.heap.objs.size []:=Heap.DictOf.new s.heap;have k0:∀b o,s.heap.get? b=some o->(s.heap.push {cls:=.type "dict",data:=.dict #[]}).get? b=some o:=fun b o e=>Heap.get?_push_of_some _ e
 generalize s.heap.push {cls:=.type "dict",data:=.dict #[]}=h0 at hnew k0;refine⟨hnew.typeIs (s:={s with heap:=h0}),PySem.F.args_dict_init_2 _ _,?_⟩;unfold Builtin.«dict.__init__»;refine wpAny_bind ?_;unfold Builtin.Dict.selfAndRest;refine wpAny_bind (wpAny_notOrdered_dict (hnew.typeIs (s:={s with heap:=h0})) ?_);show wpAny (model X.prog X.w) _ (pure (s.heap.objs.size,[Value.ref p])) _ _ _;refine wpAny_pure ?_;show wpAny (model X.prog X.w) _ (Builtin.Dict.updateFrom "dict.__init__" s.heap.objs.size (.ref p) [] .none) _ _ _;unfold Builtin.Dict.updateFrom;refine wpAny_bind (wpAny_typeOf (T:="list") ⟨_,k0 _ _ e,rfl⟩ ?_);rw[if_pos (by decide)];refine wpAny_bind (noKeys (s:={s with heap:=h0}) (k0 _ _ e) rfl rfl rfl (I.ok.hd hc) fun h1 tk k1=>?_);rw[if_pos (show(none:Option Value).isNone=true from rfl)];have k01:∀b o,s.heap.get? b=some o->h1.get? b=some o:=fun b o e=>k1 b o (k0 b o e)
 have dd1:h1.DictOf (mixKind X.prog X.w) s.heap.objs.size []:=hnew.keep k1;have ld:s.heap.objs.size<h1.objs.size:=by obtain⟨_,_,_,hg,_⟩:=dd1;exact Heap.lt_size hg
 have lp:p<h1.objs.size:=Nat.lt_trans hp ld;refine wpAny_bind (wpAny_rule ?_);refine wpAny_bind (wpAny_pyIter_list (l:=p) (items:=(as.map Value.ref).toArray) ⟨_,k01 _ _ e,rfl,n,rfl⟩ ?_);refine wpAny_pure ⟨plainId_quiet QU _,?_⟩;refine dul (knd:=mixKind X.prog X.w) (A:=X.A.in1) (d:=s.heap.objs.size) (it:=h1.objs.size) (l:=p) (items:=as.map Value.ref) (res:=.none) (I.ok.hd hc) (Nat.ne_of_lt ld) (Nat.ne_of_gt hp) (Nat.ne_of_gt lp) ps 0 [] _
  ⟨_,Heap.get?_push_size _ rfl,rfl,rfl⟩ ⟨_,Heap.get?_push_of_some _ (k01 _ _ e),rfl,n,rfl⟩ (by rw[length_map,hl,pl,Nat.zero_add]) (fun j kv ej=>?_) (dd1.push _) (by rw[length_nil,pl,<-hl,Nat.zero_add];exact z) fun h2 tk2 k2 dd2=>?_
 ·obtain⟨a,ky,b1,⟨o,b2,b3⟩,b4⟩:=pt j kv ej;have la:a<s.heap.objs.size:=Heap.lt_size b2;exact⟨a,ky,by rw[Nat.zero_add,List.getElem?_map,b1];rfl,⟨o,Heap.get?_push_of_some _ (k01 _ _ b2),b3⟩,b4,Nat.ne_of_lt la,Nat.ne_of_lt (Nat.lt_trans la ld)⟩
 ·refine⟨rfl,.ref s.heap.objs.size,upd H s.heap.objs.size (.dK (mergeK [] (kvs.map iiK))),I.laid (t':=tk2) (fun b o eb=>k2 b o (Nat.ne_of_lt (Heap.lt_size eb)) (Nat.ne_of_lt (Nat.lt_trans (Heap.lt_size eb) ld)) (Heap.get?_push_of_some _ (k01 _ _ eb))) (Nat.le_refl _) ?_,rfl,q _ (I.hok.fresh (Nat.le_refl _))⟩;have hm:=qi (kvs.map iiK) [];rw[length_nil,length_map]at hm;have hns:(s.heap.objs.size==sysModules)=false:=by
   rw[beq_eq_false_iff_ne];exact Nat.ne_of_gt I.big
  exact yC (by omega) hns (kp.merge .nil) dd2
end
theorem kP{H:Hp}:∀(ks:List Int),DVs H (ks.map V.int) (ks.map PyData.int)
 | []=>.nil
 | k::r=>.cons (.int k) (kP r)
theorem yG(ks:List Int):PyData.eqv (.list (ks.map PyData.int)) (.list [])=decide (ks=[]):=by
 cases ks<;>simp[PyData.eqv,PyData.eqvAll]
theorem xq{X:Cx}(hu:X.A.units+64<cLine):OpR X (compareOp .In) (fun x y H Q=>∃(a l:Addr) (as:List Addr) (hs:List (List Int)),x = .ref a/\y = .ref l/\H a=some (.lst [])/\H l=some (.lst (as.map V.ref))/\as.length=hs.length/\
  (∀(i:Nat) (b:Addr) (ks:List Int),as[i]?=some b->hs[i]?=some ks->H b=some (.lst (ks.map V.int)))/\Q (.bl (hs.any fun ks=>decide (ks=[]))) H):=by
 intro pins s σ H x y v u Q I rx ry h;obtain⟨a,l,as,hs,rfl,rfl,ea,el,hl,hh,q⟩:=h;cases rx;cases ry;obtain⟨its,r,pl,hz⟩:=I.list (SqL.of el);have ei:=zP r;subst ei;obtain⟨ba,ra⟩:=qH I (DV.lst ea .nil) (show RelV (.ref a) (.ref a)from rfl)
 classical
 have rd:∀(i:Nat) (b:Addr) (ks:List Int),as[i]?=some b->hs[i]?=some ks->∃bb,Reads s.heap (.ref b) (.list (ks.map PyData.int)) bb:=fun i b ks e1 e2=>qH I (DV.lst (hh i b ks e1 e2) (kP ks)) (show RelV (.ref b) (.ref b)from rfl)
 have fe:∀(i:Nat) (b:Addr) (ks:List Int),as[i]?=some b->hs[i]?=some ks->decide (∃bb,Reads s.heap (.ref b) (.list []) bb)=decide (ks=[]):=fun i b ks e1 e2=>by
  obtain⟨bb,rb⟩:=rd i b ks e1 e2;rw[decide_eq_decide];constructor
  ·rintro⟨cc,rc⟩;have e:=SeqAt.Reads.unique _ _ _ _ _ (show PyData.canLay0 (.list [])=true from rfl) rc rb;cases ks with
   | nil=>rfl
   | cons k r=>simp at e
  ·rintro rfl;exact⟨bb,rb⟩
 refine SeqAt.in_listAt (fun w=>decide (∃bb,Reads s.heap w (.list []) bb)) pl.isList (fun w hw=>?_) ⟨.bl _,H,I,rfl,?_⟩
 ·obtain⟨i,hi,e⟩:=mem_iff_getElem.mp (show w∈as.map Value.ref by simpa using hw);rw[getElem_map]at e;rw[length_map]at hi;subst e;have e1:as[i]?=some as[i]:=List.getElem?_eq_getElem hi;have e2:hs[i]?=some hs[i]:=List.getElem?_eq_getElem (by omega);obtain⟨bb,rb⟩:=rd i _ _ e1 e2;have z:=SeqAt.eqAt_reads _ _ X.A.in1 s _ _ _ _ rb ra (by show PyData.canLayAll0 _=true;exact ke_canLayAll0 _) rfl (by
   show X.A.in1.units+min (PyData.depthAll _+1) (0+1)<cLine;have h1:X.A.in1.units=X.A.units+1:=rfl;omega)
  rw[yG,<-fe i _ _ e1 e2]at z;exact z
 ·have e:(as.map Value.ref).toArray.any (fun w=>decide (∃bb,Reads s.heap w (.list []) bb))=hs.any fun ks=>decide (ks=[]):=by
   rw[List.any_toArray,List.any_map,Bool.eq_iff_iff,any_eq_true,any_eq_true];constructor
   ·rintro⟨b,hb,hw⟩;obtain⟨i,hi,rfl⟩:=mem_iff_getElem.mp hb;exact⟨hs[i],getElem_mem _,by rw[<-fe i _ _ (List.getElem?_eq_getElem hi) (List.getElem?_eq_getElem (by omega))];exact hw⟩
   ·rintro⟨ks,hk,hw⟩;obtain⟨i,hi,rfl⟩:=mem_iff_getElem.mp hk;refine⟨as[i],getElem_mem _,?_⟩;show decide _=true;rw[fe i _ _ (List.getElem?_eq_getElem (by omega)) (List.getElem?_eq_getElem hi)];exact hw
  rw[e];exact q
section
variable{X:Cx}
end
section
variable{X:Cx}{e:Expr}{te:TE}
end
theorem wH{K:Frg}{i j k l:Nat}{a:Addr}{x y z w:V}{σ:St}{H:Hp}{R:St->Hp->Prop}(e:SqT K H a [x,y,z,w])(h:gName i x σ H fun σ' H'=>gName j y σ' H' fun σ' H'=>gName k z σ' H' fun σ' H'=>gName l w σ' H' R):gTup K 4 (gCons (gName i) (gCons (gName j) (gCons (gName k) (gCons (gName l) gNil)))) (.ref a) σ H R:=
 ⟨a,[x,y,z,w],rfl,e,rfl,x,[y,z,w],rfl,y,[z,w],rfl,z,[w],rfl,w,[],rfl,rfl,h⟩
section
variable{prog:Program}{w:World}{A:Around}{E:Value->Shared->Prop}{s:Shared}
end
section
variable{X:Cx}{tg:Expr}
end
section
variable{X:Cx}
theorem KB:MtR X "list.index" (fun x vs H Q=>∃(p:Addr) (xs:List V) (y z:V) (j:Nat),x = .ref p/\vs=[y]/\SqL X.K H p xs/\flatV y=true/\xs.all flatV=true/\xs[j]?=some z/\eqV z y=true/\(∀(m:Nat) (z':V),m<j->xs[m]?=some z'->eqV z' y=false)/\Q (.int j) H):=by
 intro pins s σ H x vs v us Q I rx rv h;obtain⟨p,xs,y,z,j,rfl,rfl,hx,fy,fx,hj,ez,hno,q⟩:=h;cases rx;obtain⟨u,rfl,ru⟩:=vals1 rv;obtain⟨its,r,pl,hz⟩:=I.list hx;have lx:=r.length;have jl:=(List.getElem?_eq_some_iff.mp hj).1;obtain⟨w',hw,rw'⟩:=r.get hj;have fz:flatV z=true:=List.all_eq_true.mp fx z (List.mem_of_getElem? hj);obtain⟨⟨cls,dd,data,sl⟩,ho,hc,n,hd⟩:=id pl.isList;simp only at hc hd;subst hc hd;have hj':j<its.toArray.size:=by rw[size_toArray];omega
 have sl62:sizeLine<2^62:=by decide
 have j62:(j:Int)<2^63-1:=by omega
 refine call_meets F.slot_list_index pl.isList.typeIs F.entry_list_index (F.args_list_index_2 _ _) (SeqAt.list_indexAt p its.toArray n dd sl u (eqU y) j hj' j62 ?_ ?_) ⟨ho,fun y' hy'=>Qj ru fy r fx y' (by simpa using hy'),⟨.int j,H,I.tok _,⟨_,rfl⟩,q⟩⟩
 ·have e:its.toArray[j]=w':=by
   have:=List.getElem?_eq_some_iff.mp hw;obtain⟨h,e⟩:=this;simpa using e
  rw[e,yF rw' fz];exact ez
 ·intro m hm hmj;have hm':m<its.length:=by rw[size_toArray]at hm;exact hm
  obtain⟨z',hz'⟩:∃z',xs[m]?=some z':=⟨_,List.getElem?_eq_getElem (by omega)⟩
  obtain⟨w2,hw2,rw2⟩:=r.get hz';have e:its.toArray[m]=w2:=by
   obtain⟨h,e⟩:=List.getElem?_eq_some_iff.mp hw2;simpa using e
  rw[e,yF rw2 (List.all_eq_true.mp fx z' (List.mem_of_getElem? hz'))];exact hno m z' hmj hz'
end
section
variable{prog:Program}{w:World}{A:Around}{E:Value->Shared->Prop}{s:Shared}
end
section
variable{X:Cx}{pos:Pos}
end
section
variable{σ:St}{H:Hp}{D:Ends}{Q:VK}{ta tb te:TE}
theorem rd_seq{t u:TS}(h:t {D with nx:=u D} σ H):tSeq t u D σ H:=h
theorem rd_asg{g:TG}(h:te σ H fun x H1=>g x σ H1 D.nx):tAsg te g D σ H:=h
theorem rd_v0{v:V}{r:St}(h:Q v H):tVar 0 (some v::r) H Q:=⟨v,rfl,h⟩
theorem rd_n0{a0:Option V}{v:V}{r:St}{R:St->Hp->Prop}(h:R (some v::r) H):gName 0 v (a0::r) H R:=h
theorem rd_v1{a0:Option V}{v:V}{r:St}(h:Q v H):tVar 1 (a0::some v::r) H Q:=⟨v,rfl,h⟩
theorem rd_n1{a0 a1:Option V}{v:V}{r:St}{R:St->Hp->Prop}(h:R (a0::some v::r) H):gName 1 v (a0::a1::r) H R:=h
theorem rd_v2{a0 a1:Option V}{v:V}{r:St}(h:Q v H):tVar 2 (a0::a1::some v::r) H Q:=⟨v,rfl,h⟩
theorem rd_n2{a0 a1 a2:Option V}{v:V}{r:St}{R:St->Hp->Prop}(h:R (a0::a1::some v::r) H):gName 2 v (a0::a1::a2::r) H R:=h
theorem rd_v3{a0 a1 a2:Option V}{v:V}{r:St}(h:Q v H):tVar 3 (a0::a1::a2::some v::r) H Q:=⟨v,rfl,h⟩
theorem rd_n3{a0 a1 a2 a3:Option V}{v:V}{r:St}{R:St->Hp->Prop}(h:R (a0::a1::a2::some v::r) H):gName 3 v (a0::a1::a2::a3::r) H R:=h
theorem rd_v4{a0 a1 a2 a3:Option V}{v:V}{r:St}(h:Q v H):tVar 4 (a0::a1::a2::a3::some v::r) H Q:=⟨v,rfl,h⟩
theorem rd_n4{a0 a1 a2 a3 a4:Option V}{v:V}{r:St}{R:St->Hp->Prop}(h:R (a0::a1::a2::a3::some v::r) H):gName 4 v (a0::a1::a2::a3::a4::r) H R:=h
theorem rd_v5{a0 a1 a2 a3 a4:Option V}{v:V}{r:St}(h:Q v H):tVar 5 (a0::a1::a2::a3::a4::some v::r) H Q:=⟨v,rfl,h⟩
theorem rd_n5{a0 a1 a2 a3 a4 a5:Option V}{v:V}{r:St}{R:St->Hp->Prop}(h:R (a0::a1::a2::a3::a4::some v::r) H):gName 5 v (a0::a1::a2::a3::a4::a5::r) H R:=h
theorem rd_v6{a0 a1 a2 a3 a4 a5:Option V}{v:V}{r:St}(h:Q v H):tVar 6 (a0::a1::a2::a3::a4::a5::some v::r) H Q:=⟨v,rfl,h⟩
theorem rd_n6{a0 a1 a2 a3 a4 a5 a6:Option V}{v:V}{r:St}{R:St->Hp->Prop}(h:R (a0::a1::a2::a3::a4::a5::some v::r) H):gName 6 v (a0::a1::a2::a3::a4::a5::a6::r) H R:=h
theorem rd_v7{a0 a1 a2 a3 a4 a5 a6:Option V}{v:V}{r:St}(h:Q v H):tVar 7 (a0::a1::a2::a3::a4::a5::a6::some v::r) H Q:=⟨v,rfl,h⟩
theorem rd_n7{a0 a1 a2 a3 a4 a5 a6 a7:Option V}{v:V}{r:St}{R:St->Hp->Prop}(h:R (a0::a1::a2::a3::a4::a5::a6::some v::r) H):gName 7 v (a0::a1::a2::a3::a4::a5::a6::a7::r) H R:=h
theorem rd_v8{a0 a1 a2 a3 a4 a5 a6 a7:Option V}{v:V}{r:St}(h:Q v H):tVar 8 (a0::a1::a2::a3::a4::a5::a6::a7::some v::r) H Q:=⟨v,rfl,h⟩
theorem rd_n8{a0 a1 a2 a3 a4 a5 a6 a7 a8:Option V}{v:V}{r:St}{R:St->Hp->Prop}(h:R (a0::a1::a2::a3::a4::a5::a6::a7::some v::r) H):gName 8 v (a0::a1::a2::a3::a4::a5::a6::a7::a8::r) H R:=h
theorem rd_v9{a0 a1 a2 a3 a4 a5 a6 a7 a8:Option V}{v:V}{r:St}(h:Q v H):tVar 9 (a0::a1::a2::a3::a4::a5::a6::a7::a8::some v::r) H Q:=⟨v,rfl,h⟩
theorem rd_n9{a0 a1 a2 a3 a4 a5 a6 a7 a8 a9:Option V}{v:V}{r:St}{R:St->Hp->Prop}(h:R (a0::a1::a2::a3::a4::a5::a6::a7::a8::some v::r) H):gName 9 v (a0::a1::a2::a3::a4::a5::a6::a7::a8::a9::r) H R:=h
theorem rd_v10{a0 a1 a2 a3 a4 a5 a6 a7 a8 a9:Option V}{v:V}{r:St}(h:Q v H):tVar 10 (a0::a1::a2::a3::a4::a5::a6::a7::a8::a9::some v::r) H Q:=⟨v,rfl,h⟩
theorem rd_n10{a0 a1 a2 a3 a4 a5 a6 a7 a8 a9 a10:Option V}{v:V}{r:St}{R:St->Hp->Prop}(h:R (a0::a1::a2::a3::a4::a5::a6::a7::a8::a9::some v::r) H):gName 10 v (a0::a1::a2::a3::a4::a5::a6::a7::a8::a9::a10::r) H R:=h
theorem rd_v11{a0 a1 a2 a3 a4 a5 a6 a7 a8 a9 a10:Option V}{v:V}{r:St}(h:Q v H):tVar 11 (a0::a1::a2::a3::a4::a5::a6::a7::a8::a9::a10::some v::r) H Q:=⟨v,rfl,h⟩
theorem rd_n11{a0 a1 a2 a3 a4 a5 a6 a7 a8 a9 a10 a11:Option V}{v:V}{r:St}{R:St->Hp->Prop}(h:R (a0::a1::a2::a3::a4::a5::a6::a7::a8::a9::a10::some v::r) H):gName 11 v (a0::a1::a2::a3::a4::a5::a6::a7::a8::a9::a10::a11::r) H R:=h
theorem rd_v12{a0 a1 a2 a3 a4 a5 a6 a7 a8 a9 a10 a11:Option V}{v:V}{r:St}(h:Q v H):tVar 12 (a0::a1::a2::a3::a4::a5::a6::a7::a8::a9::a10::a11::some v::r) H Q:=⟨v,rfl,h⟩
theorem rd_n12{a0 a1 a2 a3 a4 a5 a6 a7 a8 a9 a10 a11 a12:Option V}{v:V}{r:St}{R:St->Hp->Prop}(h:R (a0::a1::a2::a3::a4::a5::a6::a7::a8::a9::a10::a11::some v::r) H):gName 12 v (a0::a1::a2::a3::a4::a5::a6::a7::a8::a9::a10::a11::a12::r) H R:=h
theorem rd_v13{a0 a1 a2 a3 a4 a5 a6 a7 a8 a9 a10 a11 a12:Option V}{v:V}{r:St}(h:Q v H):tVar 13 (a0::a1::a2::a3::a4::a5::a6::a7::a8::a9::a10::a11::a12::some v::r) H Q:=⟨v,rfl,h⟩
theorem rd_n13{a0 a1 a2 a3 a4 a5 a6 a7 a8 a9 a10 a11 a12 a13:Option V}{v:V}{r:St}{R:St->Hp->Prop}(h:R (a0::a1::a2::a3::a4::a5::a6::a7::a8::a9::a10::a11::a12::some v::r) H):gName 13 v (a0::a1::a2::a3::a4::a5::a6::a7::a8::a9::a10::a11::a12::a13::r) H R:=h
theorem rd_const{v:V}(h:Q v H):tC v σ H Q:=h
theorem rd_op{r:R2}(h:ta σ H fun x H1=>tb σ H1 fun y H2=>r x y H2 Q):tOp r ta tb σ H Q:=h
theorem rd_un{r:V->Hp->VK->Prop}(h:ta σ H fun x H1=>r x H1 Q):tUn r ta σ H Q:=h
theorem rd_i0{g:Int->Int->V}{i j:Int}(h:Q (g i j) H):rI0 g (.int i) (.int j) H Q:=⟨i,j,rfl,rfl,h⟩
theorem xV{C:Int->Int->Prop}{g:Int->Int->V}{i j:Int}(c:C i j)(h:Q (g i j) H):rI C g (.int i) (.int j) H Q:=⟨i,j,rfl,rfl,c,h⟩
theorem rd_u{g:Int->V}{i:Int}(h:Q (g i) H):rU g (.int i) H Q:=⟨i,rfl,h⟩
theorem rd_eqI{i j:Int}(h:Q (.bl (decide (i=j))) H):rEq (.int i) (.int j) H Q:=by
 refine⟨rfl,?_⟩;rw[show decide (V.int i=V.int j)=decide (i=j) by simp];exact h
theorem rd_neI{i j:Int}(h:Q (.bl (!decide (i=j))) H):rNe (.int i) (.int j) H Q:=by
 refine⟨rfl,?_⟩;rw[show decide (V.int i=V.int j)=decide (i=j) by simp];exact h
theorem rd_eqS{i j:Str}(h:Q (.bl (decide (i=j))) H):rEq (.str i) (.str j) H Q:=by
 refine⟨rfl,?_⟩;rw[show decide (V.str i=V.str j)=decide (i=j) by simp];exact h
theorem rd_if{c:TT}{t u:TS}(h:c σ H fun b H1=>if b=true then t D σ H1 else u D σ H1):tIfS c t u D σ H:=h
theorem rd_test{R:Bool->Hp->Prop}(h:te σ H fun x H'=>∃k,x = .bl k/\R k H'):tTest te σ H R:=h
theorem rd_blP{k:Bool}{R:Bool->Prop}(h:R k):∃k',V.bl k = .bl k'/\R k':=⟨k,rfl,h⟩
theorem rd_and{t u:TT}{R:Bool->Hp->Prop}(h:t σ H fun c H1=>if c=true then u σ H1 R else R false H1):tAnd t u σ H R:=h
theorem rd_or{t u:TT}{R:Bool->Hp->Prop}(h:t σ H fun c H1=>if c=true then R true H1 else u σ H1 R):tOr t u σ H R:=h
theorem rd_ifE{t:TT}(h:t σ H fun c H1=>if c=true then ta σ H1 Q else tb σ H1 Q):tIf t ta tb σ H Q:=h
theorem rd_ret(h:te σ H D.rt):tRet te D σ H:=h
theorem rd_retN(h:D.rt .non H):tRetN D σ H:=h
theorem rd_next(h:D.nx σ H):tNext D σ H:=h
theorem rd_drop(h:te σ H fun _ H1=>D.nx σ H1):tDrop te D σ H:=h
theorem rd_cb{r:List V->Hp->VK->Prop}{t:TA}(h:t σ H fun vs H1=>r vs H1 Q):tCB r t σ H Q:=h
theorem rd_call{sp:Sp}{dvs:List V}{E:XK}{t:TA}(h:t σ H fun vs H1=>sp (vs++dvs) H1 Q E):tCall sp dvs E t σ H Q:=h
theorem rd_nil{R:List V->Hp->Prop}(h:R [] H):tNil σ H R:=h
theorem rd_cons{tr:TA}{R:List V->Hp->Prop}(h:ta σ H fun x H1=>tr σ H1 fun xs H2=>R (x::xs) H2):tCons ta tr σ H R:=h
theorem rd_lst{t:TA}(h:t σ H fun xs H1=>xs.length<=sizeLine/\∀p,H1 p=none->Q (.ref p) (upd H1 p (.lst xs))):tLst t σ H Q:=h
theorem rd_tup{t:TA}(h:t σ H fun xs H1=>xs.length<=sizeLine/\∀p,H1 p=none->Q (.ref p) (upd H1 p (.tup xs))):tTup t σ H Q:=h
theorem rd_bm{K:Frg}{T:String}{r:V->List V->Hp->VK->Prop}{t:TA}(h:te σ H fun x H1=>tyV K T x H1/\t σ H1 fun xs H2=>r x xs H2 Q):tBM K T r te t σ H Q:=h
theorem rd_sl{r:V->Option Int->Option Int->Hp->VK->Prop}{tl th:TO}(h:te σ H fun x H1=>tl σ H1 fun l H2=>th σ H2 fun u H3=>r x l u H3 Q):tSl r te tl th σ H Q:=h
theorem rd_nopart{R:Option Int->Hp->Prop}(h:R none H):tNoPart σ H R:=h
theorem rd_part{R:Option Int->Hp->Prop}(h:te σ H fun x H1=>∃i,x = .int i/\R (some i) H1):tPart te σ H R:=h
theorem rd_int{i:Int}{R:Int->Prop}(h:R i):∃i',V.int i = .int i'/\R i':=⟨i,rfl,h⟩
theorem iteD{p A B:Prop}[Decidable p](h1:p->A)(h2:¬p->B):if decide p=true then A else B:=by
 by_cases h:p
 ·rw[if_pos (decide_eq_true h)];exact h1 h
 ·rw[if_neg (by simpa using h)];exact h2 h
theorem iteN{p A B:Prop}[Decidable p](h1:¬p->A)(h2:p->B):if(!decide p)=true then A else B:=by
 by_cases h:p
 ·rw[if_neg (by simpa using h)];exact h2 h
 ·rw[if_pos (by simpa using h)];exact h1 h
theorem rd_rng1{ta:TA}{R:It->Hp->Prop}(h:ta σ H fun vs H1=>∃j:Int,vs=[.int j]/\-(2^62)<=j/\j<2^62/\R (Itr 0 j.toNat) H1):iRng1 ta σ H R:=h
theorem rd_iList{K:Frg}{R:It->Hp->Prop}(h:te σ H fun x H1=>∃a,x = .ref a/\(∃xs,SqL K H1 a xs)/\R (Itl K a) H1):iList K te σ H R:=h
theorem rd_p18(h:Q (.int (10^18)) H):rI CPow (fun i j=>.int (i^j.toNat)) (.int 10) (.int 18) H Q:=⟨10,18,rfl,rfl,⟨by decide,by decide,by decide⟩,h⟩
theorem rd_p20(h:Q (.int (10^20)) H):rI CPow (fun i j=>.int (i^j.toNat)) (.int 10) (.int 20) H Q:=⟨10,20,rfl,rfl,⟨by decide,by decide,by decide⟩,h⟩
theorem rd_p60(h:Q (.int (10^60)) H):rI CPow (fun i j=>.int (i^j.toNat)) (.int 10) (.int 60) H Q:=⟨10,60,rfl,rfl,⟨by decide,by decide,by decide⟩,h⟩
theorem rd_p64(h:Q (.int (10^64)) H):rI CPow (fun i j=>.int (i^j.toNat)) (.int 10) (.int 64) H Q:=⟨10,64,rfl,rfl,⟨by decide,by decide,by decide⟩,h⟩
theorem rd_for{wi:TI}{g:TG}{tb:TS} (h:wi σ H fun J H1=>∃W:Nat->Nat->St->Hp->Prop,(∃m,W 0 m σ H1)/\∀i m σ H,W i m σ H->
 (J.stop i H/\D.nx σ H)\/(J.go i H/\∃N:St->Hp->Prop,(∀σ' H',N σ' H'->∃m',m'<m/\W (i+1) m' σ' H')/\∀x H',J.yld i H x H'->g x σ H' fun σ2 H2=>tb {D with nx:=N,ct:=N,bk:=D.nx} σ2 H2)):tFor wi g tb D σ H:=h
theorem rd_comp{wi:TI}{n:Nat}{ci:List Nat}{g:TG}{tf:TT} (h:wi σ H fun J H1=>∃W:Nat->Nat->List V->Hp->Prop,(∃m,W 0 m [] H1)/\∀i m ys H,W i m ys H->
 (J.stop i H/\ys.length<=sizeLine/\∀p,H p=none->Q (.ref p) (upd H p (.lst ys)))\/
 (J.go i H/\∃N:List V->Hp->Prop,(∀ys' H',N ys' H'->∃m',m'<m/\W (i+1) m' ys' H')/\∀x H',J.yld i H x H'->g x (capS n ci σ) H' fun σ2 H2=>tf σ2 H2 fun b H3=>
  if b=true then te σ2 H3 fun v H4=>ys.length<sizeLine/\N (ys++[v]) H4 else N ys H3)):tComp wi n ci g tf te σ H Q:=h
theorem rd_yes{R:Bool->Hp->Prop}(h:R true H):tYes σ H R:=h
theorem JO{n:Nat}{ci:List Nat}{g:TG}{x:V}{σ':St}{R:St->Hp->Prop}(e:capS n ci σ=σ')(h:g x σ' H R):g x (capS n ci σ) H R:=by rw[e];exact h
theorem jD{t:TS}{σ':St}(e:σ=σ')(h:t D σ' H):t D σ H:=by subst e;exact h
theorem xo{x y A B:Int}(h1 : -A<=x)(h2:x<=A)(h3 : -B<=y)(h4:y<=B) : -(A*B)<=x*y/\x*y<=A*B:=by
 have hx:x.natAbs<=A.toNat:=by omega
 have hy:y.natAbs<=B.toNat:=by omega
 have h:=Nat.mul_le_mul hx hy;rw[<-Int.natAbs_mul]at h;have e:((A.toNat*B.toNat:Nat):Int)=A*B:=by
  rw[Int.natCast_mul,Int.toNat_of_nonneg (by omega),Int.toNat_of_nonneg (by omega)]
 have h':((x*y).natAbs:Int)<=A*B:=by rw[<-e];exact Int.ofNat_le.mpr h
 omega
theorem Kg{H H':Hp}{p:Addr}{o:HO}(h:H p=none)(e:upd H p o=H'):Same H H':=fun b u q=>by rw[<-e,jm (jf q h)];exact q
theorem WN{H H':Hp}{p:Addr}{o:HO}(e:upd H p o=H'):H' p=some o:=by rw[<-e];exact jh
end
theorem ixLm{K:Frg}{p:Addr}{xs:List V}{i:Int}{v:V}{H:Hp}{Q:VK}(h:SqL K H p xs)(e:atI xs i=some v)(q:Q v H):rIxL K (.ref p) (.int i) H Q:=⟨p,xs,i,v,rfl,rfl,h,e,q⟩
theorem ixTm{K:Frg}{p:Addr}{xs:List V}{i:Int}{v:V}{H:Hp}{Q:VK}(h:SqT K H p xs)(e:atI xs i=some v)(q:Q v H):rIxT K (.ref p) (.int i) H Q:=⟨p,xs,i,v,rfl,rfl,h,e,q⟩
end L2
local macro_rules | `(tactic| walk_at "side") => `(tactic| first | with_reducible assumption | exact L2.cdivB (by omega) (by omega) | exact L2.mulOk (by omega) (by omega) (by omega) (by omega) | exact L2.mulOkC (by first | assumption | exact L2.bits_ediv (by assumption) _) (by omega) (by omega) | omega)
local macro_rules | `(tactic| walk_at $s:str) => do
 let ws:=s.getString.splitOn " "
 if ws.head?==some "f" then
  let vs:=if ws.length==3 then["p"++ws.getD 1 "","hp"++ws.getD 1 "","H"++ws.getD 1 "","s"++ws.getD 1 "",ws.getD 2 ""++ws.getD 1 ""]else ws.drop 1
  let i:=fun(k:Nat)=>Lean.mkIdent (Lean.Name.mkSimple (vs.getD k ""))
  return <-`(tactic| (intro $(i 0):ident $(i 1):ident;generalize eH:L2.upd _ $(i 0) _ = $(i 2):ident;have $(i 3):ident:=L2.Kg $(i 1) eH;have $(i 4):ident:=L2.WN eH;clear eH))
 let ns:=match s.getString with | "goA"=>"rd_seq rd_asg rd_op rd_const rd_i0 rd_cons rd_nil rd_call rd_ret rd_if rd_test rd_blP rd_next" | "goB"=>"rd_un rd_u rd_and rd_or rd_ifE rd_retN rd_drop rd_cb rd_lst rd_tup rd_bm rd_sl rd_nopart rd_part rd_eqI rd_neI rd_eqS rd_str rd_int rd_rng1 rd_iList rd_for rd_comp rd_yes rd_dget rd_prC rd_prN rd_iTup rd_iEnum rd_iZip rd_dnew rd_dput rd_bm0" | "goP"=>"rd_p18 rd_p20 rd_p60 rd_p64" | "goV"=>"rd_v0 rd_v1 rd_v2 rd_v3 rd_v4 rd_v5 rd_v6 rd_v7 rd_v8 rd_v9 rd_v10 rd_v11 rd_v12 rd_v13" | "goN"=>"rd_n0 rd_n1 rd_n2 rd_n3 rd_n4 rd_n5 rd_n6 rd_n7 rd_n8 rd_n9 rd_n10 rd_n11 rd_n12 rd_n13" | _=>""
 if ns == "" then Lean.Macro.throwUnsupported
 let as <-(ns.splitOn " ").toArray.mapM fun n=>`(Lean.Parser.Tactic.tacticSeq| refine $(Lean.mkIdent (Lean.Name.mkStr2 "L2" n)) ?_)
 `(tactic| with_reducible (first $[| $as]*))
local macro_rules | `(tactic| walk_at "go1") => `(tactic| first | walk_at "goA" | walk_at "goV" | walk_at "goB" | walk_at "goN" | walk_at "goP" | (with_reducible refine L2.xV ?c ?_; (case c => ((try dsimp only); walk_at "side"))))
local macro_rules | `(tactic| walk_at "g") => `(tactic| repeat walk_at "go1")
local macro_rules | `(tactic| exists $e) => `(tactic| (walk_at "g"; refine $e))
namespace Pr
open PySem L2
noncomputable def cell(ns:List Int)(k:Int):Int:=ns.getD k.toNat 0
inductive sp_cell_at(K:Frg)(vs:List V)(H:Hp)(Q:VK)(xk:XK):Prop
 | mk (a:Addr) (ns:List Int) (k:Int) (_:vs=[.ref a,.int k]) (_:SqL K H a (ns.map V.int)) (_:ns.length<=63) (_:0<=k) (_:Q (.int (cell ns k)) H):sp_cell_at K vs H Q xk
theorem jH{ns:List Int}{k:Int}(h0:0<=k)(h:k<(ns.length:Int)):atI (ns.map V.int) k=some (.int (cell ns k)):=by
 have ek:k=((k.toNat:Nat):Int):=by omega
 have hk:k.toNat<ns.length:=by omega
 have q:atI (ns.map V.int) ((k.toNat:Nat):Int)=some (.int ns[k.toNat]):=qh (by rw[List.getElem?_map,List.getElem?_eq_getElem hk]<;>rfl);rw[<-ek]at q;rw[q];unfold cell;rw[getD_eq_getElem?_getD,List.getElem?_eq_getElem hk];rfl
end Pr
namespace Pr
open PySem L2
inductive sp_law(K:Frg)(vs:List V)(H:Hp)(Q:VK)(xk:XK):Prop
 | mk (a:Addr) (ns:List Int) (_:vs=[.ref a]) (_:SqL K H a (ns.map V.int)) (_:ns.length<=63) (_:(∀x∈ns,Builtin.Int.intBits x<=1048576)) (_:∀H',Q (.bl true) H'):sp_law K vs H Q xk
end Pr
namespace Pr
open PySem L2
theorem Wo{ns:List Int}{lo hi:Option Int}{x:V}(h:x∈cutV (ns.map V.int) lo hi):∃c∈ns,x = .int c:=by
 have h1:x∈ns.map V.int:=mem_of_mem_drop (mem_of_mem_take h);obtain⟨c,hc,e⟩:=mem_map.mp h1;exact⟨c,hc,e.symm⟩
end Pr
namespace Pr
open PySem L2
theorem ju{H:Hp}{p:Addr}(h:H p=none)(o:HO):Same H (upd H p o):=fun b u q=>by rw[jm (jf q h)];exact q
end Pr
namespace Pr
open PySem L2
theorem Yj{ns:List Int}{k:Int}(_h0:0<=k)(h:k<(ns.length:Int)):ns[k.toNat]?=some (cell ns k):=by
 have hk:k.toNat<ns.length:=by omega
 unfold cell;rw[getD_eq_getElem?_getD,List.getElem?_eq_getElem hk];rfl
theorem K1{ns:List Int}{m:Int}(h0:0<=m)(h:m<=(ns.length:Int)):cutV (ns.map V.int) none (some m)=(ns.take m.toNat).map V.int:=by
 unfold cutV;rw[map_take];have e1:HT.sIx (ns.map V.int).length 0 none=0:=rfl;have e2:HT.sIx (ns.map V.int).length (ns.map V.int).length (some m)=m.toNat:=by
  show(if m<0 then _ else min m.toNat _)=_;rw[if_neg (by omega),length_map];omega
 rw[e1,e2];simp
end Pr
namespace Ws
open PySem PySem.NumText L2
noncomputable def lets:Str:="abcdefghijklmnopqrstuvwxyz"
noncomputable def among(x z:Str):Bool:=decide (∀c∈x.cps.toList,c∈z.cps.toList)
noncomputable def isW(x:Str):Bool:=decide (1<=x.length/\x.length<=8)&&among x lets
theorem Zu(x:Str):x.cps.toList.length=x.length:=Array.length_toList
def zO:Sp:=fun vs H Q _=>∃c m:Int,vs=[.int c,.int m]/\0<=m/\m<=100/\
 ∀(p:Addr) (ns:List Int) (H':Hp),Same H H'->H p=none->H' p=some (.lst (ns.map V.int))->(ns.length:Int)=m->(∀n∈ns,0<=n/\n<33554432)->Q (.ref p) H'
theorem zu{H H':Hp}{p:Addr}{o:HO}(h:Same H H')(hp:H p=none):Same H (upd H' p o):=fun b u q=>by
 rw[jm (jf q hp)];exact h b u q
end Ws
namespace Ws
open PySem PySem.NumText L2
end Ws
namespace Ws
open PySem L2
theorem YS:∀(l:List Str),(∀z∈l,z.length=1)->(l.map (·.length)).sum=l.length
 | [],_=>rfl
 | a::r,h=>by
  rw[map_cons,sum_cons,YS r fun z hz=>h z (mem_cons_of_mem _ hz),h a mem_cons_self,length_cons];omega
end Ws
namespace Rm
open PySem PySem.NumText PyProof.Rows L2
def QX:Sp:=fun vs H Q _=>∃c m:Int,vs=[.int c,.int m]/\0<=m/\m<=100/\∀r:Int,Q (.int r) H
def QW:Sp:=fun vs H Q _=>∃c m l:Int,vs=[.int c,.int m,.int l]/\0<=m/\m<33554432/\0<=l/\l<=1/\∀r:Int,l<=r->r<=10^18->Q (.int r) H
theorem to19{P:Int->Prop}(h:∀k:Nat,k<19->P k){n:Int}(h0:0<=n)(h1:n<19):P n:=by
 have e:=h n.toNat (by omega);rw[Int.toNat_of_nonneg h0]at e;exact e
theorem mulOk0{n:Int}(h0:0<=n)(h1:n<19):MulOk "0" n:=mulOk_of 16 1048576 (by decide +kernel) (by omega) (by omega) (by decide) (by decide)
theorem wV{n:Int}(h0:0<=n)(h1:n<19):(Str.ofString "1").length+(Txt.mul "0" n).length<=sizeLine:=by
 refine to19 (P:=fun n=>(Str.ofString "1").length+(Txt.mul "0" n).length<=sizeLine) ?_ h0 h1;decide +kernel
theorem KO{n:Int}(h0:0<=n)(h1:n<19):(Str.ofString "1"++Txt.mul "0" n).length<=640:=by
 refine to19 (P:=fun n=>(Str.ofString "1"++Txt.mul "0" n).length<=640) ?_ h0 h1;decide +kernel
theorem tens{n:Int}(h0:0<=n)(h1:n<19):intText? (Str.ofString "1"++Txt.mul "0" n)=some ((10:Int)^n.toNat):=by
 refine to19 (P:=fun n=>intText? (Str.ofString "1"++Txt.mul "0" n)=some ((10:Int)^n.toNat)) ?_ h0 h1;decide +kernel
def YQ:Sp:=fun vs H Q _=>∃c:Int,vs=[.int c,.int 68]/\∀(p:Addr) (ws:List Str) (H':Hp),Same H H'->H p=none->H' p=some (.lst (ws.map V.str))->ws.length=68->ws.Nodup->(∀x∈ws,Ws.isW x=true)->Q (.ref p) H'
theorem cutTo{x:Str}{j:Int}(h0:0<=j)(h:j<=(x.length:Int)):(Txt.slice x none (some j)).cps.toList=x.cps.toList.take j.toNat:=by
 have e:Txt.slice x none (some j)=⟨((x.cps.toList.drop 0).take (j-0).toNat).toArray⟩:=StrLaws.sliceText_to ⟨h0,by rw[Ws.Zu];exact h⟩;rw[e];simp
theorem cutFrom{x:Str}{i:Int}(h0:0<=i)(h:i<=(x.length:Int)):(Txt.slice x (some i) none).cps.toList=x.cps.toList.drop i.toNat:=by
 have e:Txt.slice x (some i) none=⟨((x.cps.toList.drop i.toNat).take ((x.cps.toList.length:Int)-i).toNat).toArray⟩:=StrLaws.sliceText_from ⟨h0,by rw[Ws.Zu];exact h⟩;rw[e];show List.take _ _=_;rw[List.take_of_length_le];rw[length_drop];omega
theorem app_list(a y:Str):(a++y).cps.toList=a.cps.toList++y.cps.toList:=by rw[Str.cps_append,Array.toList_append]
theorem Yt{c:Nat}:c∈Ws.lets.cps.toList↔97<=c/\c<=122:=by
 rw[show Ws.lets.cps.toList=List.range' 97 26 by decide +kernel,List.mem_range'_1];omega
theorem Y9{i:Int}(h0:0<=i)(h1:i<26):atI (Str.ofString "abcdefghijklmnopqrstuvwxyz").cps.toList i=some (97+i.toNat):=by
 have h:∀k:Nat,k<26->atI (Str.ofString "abcdefghijklmnopqrstuvwxyz").cps.toList (k:Int)=some (97+(k:Int).toNat):=by decide +kernel
 have e:=h i.toNat (by omega);rw[Int.toNat_of_nonneg h0]at e;exact e
noncomputable def nmL(way:Int)(b:List Nat)(a k:Nat):List Nat:=
 if way=0 then b.take a++[97+k/26,97+k%26]++b.drop a else if way=1 then[97+k/26,97+k%26]++b.take (k%(b.length+1))else if k<26 then[97+k%26]else[97+k/26,97+k%26]
theorem Wq{way:Int}{b:List Nat}{a j k:Nat}(hj:j<68)(hk:k<68)(h:nmL way b a j=nmL way b a k):j=k:=by
 unfold nmL at h;split at h
 ·rw[List.append_assoc,List.append_assoc]at h;have h':=List.append_cancel_left h;simp only[List.cons_append,List.cons.injEq]at h';omega
 ·split at h
  ·simp only[List.cons_append,List.cons.injEq]at h;omega
  ·split at h<;>split at h<;>simp only[List.cons.injEq,reduceCtorEq,and_true,and_false,false_and]at h<;>omega
theorem Wr{way:Int}{b:List Nat}{a k:Nat}(hb:∀c∈b,97<=c/\c<=122)(hk:k<68){c:Nat}(h:c∈nmL way b a k):97<=c/\c<=122:=by
 unfold nmL at h;have t1:∀c∈[97+k/26,97+k%26],97<=c/\c<=122:=fun c hc=>by
  simp only[mem_cons,not_mem_nil,or_false]at hc;omega
 split at h
 ·rcases mem_append.mp h with h | h
  ·rcases mem_append.mp h with h | h
   ·exact hb c (mem_of_mem_take h)
   ·exact t1 c h
  ·exact hb c (mem_of_mem_drop h)
 ·split at h
  ·rcases mem_append.mp h with h | h
   ·exact t1 c h
   ·exact hb c (mem_of_mem_take h)
  ·split at h
   ·exact t1 c (mem_cons_of_mem _ h)
   ·exact t1 c h
theorem Kb{way:Int}{b:List Nat}{a k:Nat}(hb:b.length<=6):1<=(nmL way b a k).length/\(nmL way b a k).length<=8:=by
 unfold nmL;split
 ·simp only[List.length_append,length_take,length_drop,length_cons,length_nil];omega
 ·split
  ·simp only[List.length_append,length_take,length_cons,length_nil];omega
  ·split<;>simp
theorem W8{x:Str}(h1:1<=x.cps.toList.length)(h2:x.cps.toList.length<=8)(h:∀c∈x.cps.toList,97<=c/\c<=122):Ws.isW x=true:=by
 rw[Ws.Zu]at h1 h2;unfold Ws.isW Ws.among;rw[decide_eq_true ⟨h1,h2⟩,Bool.true_and];exact decide_eq_true fun c hc=>Yt.mpr (h c hc)
theorem kh{way:Int}{b:List Nat}{a:Nat}{ws:List Str}(hb:∀c∈b,97<=c/\c<=122)(hl:b.length<=6)(hw:ws.length=68)(h:∀j,j<68->(ws[j]?).map (·.cps.toList)=some (nmL way b a j)) :
  ws.Nodup/\∀x∈ws,Ws.isW x=true:=by
 have h':∀j (hj:j<ws.length),ws[j].cps.toList=nmL way b a j:=fun j hj=>by
  have e:=h j (by omega);rw[List.getElem?_eq_getElem hj]at e;exact Option.some.inj e
 constructor
 ·refine pairwise_iff_getElem.mpr fun i j hi hj hij e=>?_
  have e1:=h' i hi;rw[e,h' j hj]at e1;have:=Wq (by omega) (by omega) e1;omega
 ·intro x hx;obtain⟨j,hj,rfl⟩:=mem_iff_getElem.mp hx;have e:=h' j hj;refine W8 ?_ ?_ ?_<;>rw[e]
  ·exact(Kb hl).1
  ·exact(Kb hl).2
  ·exact fun c hc=>Wr hb (by omega) hc
theorem join_list:∀(zs:List Str),(Txt.join (Str.ofString "") zs).cps.toList=(zs.map (·.cps.toList)).flatten:=by
 intro zs;show(Builtin.Str.glued (Str.ofString "") zs).cps.toList=_;rw[StrLaws.glued_eq_join]
 induction zs with
 | nil=>rfl
 | cons a r ih=>
  cases r with
  | nil=>show a.cps.toList=a.cps.toList++[];rw[append_nil]
  | cons b r=>
   show(a++Str.ofString ""++Str.join (Str.ofString "") (b::r)).cps.toList=_;rw[app_list,app_list,ih,show(Str.ofString "").cps.toList=[] by decide +kernel,append_nil];rfl
theorem Kk{zs:List Str}(h:∀z∈zs,∃c,z=⟨#[c]⟩/\97<=c/\c<=122):(Txt.join (Str.ofString "") zs).length=zs.length/\∀c∈(Txt.join (Str.ofString "") zs).cps.toList,97<=c/\c<=122:=by
 refine⟨PySem.W.KT.join_ones zs fun z hz=>by obtain⟨c,rfl,_⟩:=h z hz;rfl,fun c hc=>?_⟩;rw[join_list]at hc;obtain⟨l,hl,hc⟩:=List.mem_flatten.mp hc;obtain⟨z,hz,rfl⟩:=mem_map.mp hl;obtain⟨d,rfl,h1,h2⟩:=h z hz;have e:c=d:=by simpa using hc
 omega
theorem Wu{way:Int}{b:List Nat}{a i:Nat}{ws:List Str}{x:Str}(hw:ws.length=i)(h:∀j,j<i->(ws[j]?).map (·.cps.toList)=some (nmL way b a j))(hx:x.cps.toList=nmL way b a i) :
  ∀j,j<i+1->((ws++[x])[j]?).map (·.cps.toList)=some (nmL way b a j):=fun j hj=>by
 by_cases e:j<i
 ·rw[List.getElem?_append_left (by omega)];exact h j e
 ·have e2:j=i:=by omega
  subst e2;rw[List.getElem?_append_right (by omega),hw,Nat.sub_self];exact congrArg some hx
open PySem L2
theorem none_of{H H':Hp}{p:Addr}(s:Same H H')(h:H' p=none):H p=none:=by
 cases e:H p with
 | none=>rfl
 | some u=>rw[s _ _ e]at h;cases h
inductive Fm where
 | hold (n:Int) | ring (x:Str) (n:Int) | rise (x:Str) (h n:Int) | row (ps:List Str) | side (ps:List Str) | again (k:Int) (x:Str)
structure Rr where
 names:List Str
 limbs:List (Str×Int)
 parts:List (Str×Fm)
 hands:List (List Int)
 longs:List Int
noncomputable def Rr.add(m:Rr)(f:Fm)(ks:List Int)(g:Int):Rr:={m with parts:=m.parts++[(m.names.getD m.parts.length ⟨#[]⟩,f)],hands:=m.hands++[ks],longs:=m.longs++[g]}
noncomputable def FormAt(H:Hp)(a:Addr):Fm->Prop
 | .hold n=>H a=some (.tup [.str "hold",.int n])
 | .ring x n=>H a=some (.tup [.str "ring",.str x,.int n])
 | .rise x h n=>H a=some (.tup [.str "raise",.str x,.int h,.int n])
 | .row ps=>∃b,H a=some (.tup [.str "row",.ref b])/\H b=some (.tup (ps.map V.str))
 | .side ps=>∃b,H a=some (.tup [.str "side",.ref b])/\H b=some (.tup (ps.map V.str))
 | .again k x=>H a=some (.tup [.str "again",.int k,.str x])
def PartAt(H:Hp)(a:Addr)(p:Str×Fm):Prop:=∃b,H a=some (.tup [.str p.1,.ref b])/\FormAt H b p.2
def LimbAt(H:Hp)(a:Addr)(p:Str×Int):Prop:=H a=some (.tup [.str p.1,.int p.2])
def All2{α:Type}(R:Addr->α->Prop)(as:List Addr)(xs:List α):Prop:=as.length=xs.length/\∀(i:Nat) (a:Addr) (x:α),as[i]?=some a->xs[i]?=some x->R a x
theorem All2.nil{α:Type}{R:Addr->α->Prop}:All2 R [] []:=⟨rfl,fun i a x h=>by simp at h⟩
theorem All2.mono{α:Type}{R S:Addr->α->Prop}{as:List Addr}{xs:List α}(h:All2 R as xs)(k:∀a x,R a x->S a x):All2 S as xs:=⟨h.1,fun i a x h1 h2=>k a x (h.2 i a x h1 h2)⟩
theorem All2.snoc{α:Type}{R:Addr->α->Prop}{as:List Addr}{xs:List α}{a:Addr}{x:α}(h:All2 R as xs)(hx:R a x):All2 R (as++[a]) (xs++[x]):=by
 have hl:=h.1;refine⟨by simp[hl],fun i b y h1 h2=>?_⟩;by_cases hi:i<as.length
 ·rw[List.getElem?_append_left hi]at h1;rw[List.getElem?_append_left (by omega)]at h2;exact h.2 i b y h1 h2
 ·rw[List.getElem?_append_right (by omega)]at h1;rw[List.getElem?_append_right (by omega)]at h2;have e:i-as.length=0:=by
   have:=(List.getElem?_eq_some_iff.mp h1).1;simp at this;omega
  rw[e]at h1;rw[show i-xs.length=0 by omega]at h2;simp at h1 h2;subst h1 h2;exact hx
theorem All2.get{α:Type}{R:Addr->α->Prop}{as:List Addr}{xs:List α}{i:Nat}{x:α}(h:All2 R as xs)(hx:xs[i]?=some x):∃a,as[i]?=some a/\R a x:=by
 have hi:=(List.getElem?_eq_some_iff.mp hx).1;have hl:=h.1;have ha:as[i]?=some as[i]:=List.getElem?_eq_getElem (by omega);exact⟨_,ha,h.2 i _ _ ha hx⟩
structure Ra where
 r:Addr
 pn:Addr
 pl:Addr
 pp:Addr
 ph:Addr
 pg:Addr
def Ra.off(z:Ra)(a:Addr):Prop:=a≠z.pp/\a≠z.ph/\a≠z.pg
def HandAt(z:Ra)(H:Hp)(a:Addr)(ks:List Int):Prop:=H a=some (.lst (ks.map V.int))/\z.off a
structure RoomAt(H:Hp)(z:Ra)(m:Rr):Prop where
 d:H z.r=some (.dK [(Sum.inr "names",.ref z.pn),(Sum.inr "limbs",.ref z.pl),(Sum.inr "parts",.ref z.pp),(Sum.inr "hands",.ref z.ph),(Sum.inr "long",.ref z.pg)])
 n:H z.pn=some (.lst (m.names.map V.str))
 l:∃ls,H z.pl=some (.lst (ls.map V.ref))/\All2 (LimbAt H) ls m.limbs
 p:∃qs,H z.pp=some (.lst (qs.map V.ref))/\All2 (PartAt H) qs m.parts
 h:∃hs,H z.ph=some (.lst (hs.map V.ref))/\All2 (HandAt z H) hs m.hands
 g:H z.pg=some (.lst (m.longs.map V.int))
 on:z.off z.pn
 ol:z.off z.pl
 ph:z.pp≠z.ph
 pg:z.pp≠z.pg
 hg:z.ph≠z.pg
def Kp(z:Ra)(H H':Hp):Prop:=∀b u,z.off b->H b=some u->H' b=some u
theorem Kp.refl(z:Ra)(H:Hp):Kp z H H:=fun _ _ _ h=>h
theorem Kp.trans{z:Ra}{H H1 H2:Hp}(a:Kp z H H1)(b:Kp z H1 H2):Kp z H H2:=fun c u o h=>b c u o (a c u o h)
theorem Kp.of{z:Ra}{H H':Hp}(s:Same H H'):Kp z H H':=fun b u _ h=>s b u h
section
variable{H H':Hp}{z:Ra}{m:Rr}
theorem qm(R:RoomAt H z m){a:Addr}{xs:List V}(h:H a=some (.tup xs)):z.off a:=by
 obtain⟨qs,e1,_⟩:=R.p;obtain⟨hs,e2,_⟩:=R.h;exact⟨QC h e1 (fun z=>by cases z),QC h e2 (fun z=>by cases z),QC h R.g (fun z=>by cases z)⟩
theorem Yz(R:RoomAt H z m):z.off z.r:=by
 obtain⟨qs,e1,_⟩:=R.p;obtain⟨hs,e2,_⟩:=R.h;exact⟨QC R.d e1 (fun z=>by cases z),QC R.d e2 (fun z=>by cases z),QC R.d R.g (fun z=>by cases z)⟩
theorem Qs(R:RoomAt H z m){a:Addr}(h:H a=none):z.off a:=by
 obtain⟨qs,e1,_⟩:=R.p;obtain⟨hs,e2,_⟩:=R.h;refine⟨fun e=>?_,fun e=>?_,fun e=>?_⟩
 ·rw[e,e1]at h;cases h
 ·rw[e,e2]at h;cases h
 ·rw[e,R.g]at h;cases h
theorem FormAt.kp{a:Addr}{f:Fm}(R:RoomAt H z m)(k:Kp z H H')(h:FormAt H a f):FormAt H' a f:=by
 cases f with
 | row ps=>obtain⟨b,h1,h2⟩:=h;exact⟨b,k _ _ (qm R h1) h1,k _ _ (qm R h2) h2⟩
 | side ps=>obtain⟨b,h1,h2⟩:=h;exact⟨b,k _ _ (qm R h1) h1,k _ _ (qm R h2) h2⟩
 | hold n=>exact k _ _ (qm R h) h
 | ring x n=>exact k _ _ (qm R h) h
 | rise x g n=>exact k _ _ (qm R h) h
 | again x n=>exact k _ _ (qm R h) h
theorem PartAt.kp{a:Addr}{p:Str×Fm}(R:RoomAt H z m)(k:Kp z H H')(h:PartAt H a p):PartAt H' a p:=by
 obtain⟨b,h1,h2⟩:=h;exact⟨b,k _ _ (qm R h1) h1,FormAt.kp R k h2⟩
theorem RoomAt.keeps(R:RoomAt H z m)(s:Same H H'):RoomAt H' z m:=by
 have k:Kp z H H':=Kp.of s;obtain⟨ls,e1,a1⟩:=R.l;obtain⟨qs,e2,a2⟩:=R.p;obtain⟨hs,e3,a3⟩:=R.h;exact⟨s _ _ R.d,s _ _ R.n,⟨ls,s _ _ e1,a1.mono fun a x h=>s _ _ h⟩,⟨qs,s _ _ e2,a2.mono fun a x h=>PartAt.kp R k h⟩,⟨hs,s _ _ e3,a3.mono fun a x h=>⟨s _ _ h.1,h.2⟩⟩,s _ _ R.g,R.on,R.ol,R.ph,R.pg,R.hg⟩
theorem yd(R:RoomAt H z m):DGet H z.r (.str "names") (some (.ref z.pn)):=DGet.k (k:=Sum.inr "names") R.d
theorem QQ(R:RoomAt H z m):DGet H z.r (.str "limbs") (some (.ref z.pl)):=DGet.k (k:=Sum.inr "limbs") R.d
theorem Ji(R:RoomAt H z m):DGet H z.r (.str "parts") (some (.ref z.pp)):=DGet.k (k:=Sum.inr "parts") R.d
theorem zI(R:RoomAt H z m):DGet H z.r (.str "hands") (some (.ref z.ph)):=DGet.k (k:=Sum.inr "hands") R.d
theorem K7(R:RoomAt H z m):DGet H z.r (.str "long") (some (.ref z.pg)):=DGet.k (k:=Sum.inr "long") R.d
end
inductive sp_add(vs:List V)(H:Hp)(Q:VK)(xk:XK):Prop
 | mk (z:Ra) (m:Rr) (fa ha:Addr) (f:Fm) (ks:List Int) (g:Int) (_:vs=[.ref z.r,.ref fa,.ref ha,.int g]) (_:RoomAt H z m) (_:FormAt H fa f) (_:HandAt z H ha ks) (_:m.parts.length<68) (_:m.hands.length<68) (_:m.longs.length<68) (_:m.names.length=68) (_:∀H',Kp z H H'->RoomAt H' z (m.add f ks g)->(∀hs:List Addr,H z.ph=some (.lst (hs.map V.ref))->H' z.ph=some (.lst ((hs++[ha]).map V.ref)))->Q .non H'):sp_add vs H Q xk
theorem kI{ws:List Str}{n:Nat}(h:n<ws.length):atI (ws.map V.str) (n:Int)=some (.str (ws.getD n ⟨#[]⟩)):=by
 refine qh ?_;rw[List.getElem?_map,getD_eq_getElem?_getD,List.getElem?_eq_getElem h];rfl
theorem KR{H H':Hp}{z:Ra}{m:Rr}{f:Fm}{ks:List Int}{g:Int}{p ha:Addr}{qs hs:List Addr}(R:RoomAt H z m)(k:Kp z H H')
  (eq:H z.pp=some (.lst (qs.map V.ref))) (aq:All2 (PartAt H) qs m.parts) (eh:H z.ph=some (.lst (hs.map V.ref))) (ah:All2 (HandAt z H) hs m.hands)
  (hp:PartAt H p (m.names.getD m.parts.length ⟨#[]⟩,f)) (hh:HandAt z H ha ks)
  (e1:H' z.pp=some (.lst (qs.map V.ref++[.ref p]))) (e2:H' z.ph=some (.lst (hs.map V.ref++[.ref ha]))) (e3:H' z.pg=some (.lst (m.longs.map V.int++[.int g]))):RoomAt H' z (m.add f ks g):=by
 obtain⟨ls,e0,a0⟩:=R.l;refine⟨k _ _ (Yz R) R.d,k _ _ R.on R.n,⟨ls,k _ _ R.ol e0,a0.mono fun a x h=>k _ _ (qm R h) h⟩,⟨qs++[p],?_,?_⟩,⟨hs++[ha],?_,?_⟩,?_,R.on,R.ol,R.ph,R.pg,R.hg⟩
 ·rw[e1,map_append];rfl
 ·exact(aq.mono fun a x h=>PartAt.kp R k h).snoc (PartAt.kp R k hp)
 ·rw[e2,map_append];rfl
 ·exact(ah.mono fun a x h=>⟨k _ _ h.2 h.1,h.2⟩).snoc ⟨k _ _ hh.2 hh.1,hh.2⟩
 ·rw[e3];show _=some (HO.lst ((m.longs++[g]).map V.int));rw[map_append];rfl
noncomputable def Rr.nm(m:Rr)(j:Nat):Str:=m.names.getD j ⟨#[]⟩
noncomputable def Rr.hd(m:Rr)(j:Nat):List Int:=m.hands.getD j []
noncomputable def Rr.lg(m:Rr)(j:Nat):Int:=m.longs.getD j 0
def Idx(m:Rr)(i:Nat)(is:List Nat)(ps:List Str):Prop:=ps=is.map m.nm/\∀j∈is,j<i
def KsOf(m:Rr)(is:List Nat)(ks:List Int):Prop:=∀k,k∈ks↔∃j∈is,k∈m.hd j
def Apart(m:Rr)(is:List Nat):Prop:=(∀j∈is,m.hd j≠[])/\is.Pairwise fun a b=>∀k∈m.hd a,¬k∈m.hd b
noncomputable def FmOk(m:Rr)(i:Nat):Fm->List Int->Int->Prop
 | .hold n,ks,g=>1<=n/\n<=10^18/\ks=[]/\g=n
 | .ring x n,ks,g=>x∈m.names/\1<=n/\n<=10^18/\ks=[]/\g=n
 | .rise x h n,ks,g=>(∃(j:Nat) (v:Int),m.limbs[j]?=some (x,v)/\ks=[(j:Int)])/\0<=h/\h<=10^18/\1<=n/\n<=10^18/\g=n
 | .row ps,ks,g=>∃is,Idx m i is ps/\1<=is.length/\is.length<=8/\KsOf m is ks/\g=(is.map m.lg).sum
 | .side ps,ks,g=>∃is,Idx m i is ps/\2<=is.length/\is.length<=4/\Apart m is/\KsOf m is ks/\(∃j∈is,g=m.lg j)/\∀j∈is,m.lg j<=g
 | .again k x,ks,g=>1<=k/\k<=10^18/\∃j,j<i/\x=m.nm j/\ks=m.hd j/\g=k*m.lg j
structure PartOk(m:Rr)(i:Nat)(f:Fm)(ks:List Int)(g:Int):Prop where
 f:FmOk m i f ks g
 k:∀k∈ks,0<=k/\k<(m.limbs.length:Int)
 o:ks.Pairwise (· < ·)
 g1:1<=g
 g2:g<=10^60
structure Good(m:Rr):Prop where
 nl:m.names.length=68
 nd:m.names.Nodup
 nw:∀x∈m.names,Ws.isW x=true
 l1:1<=m.limbs.length
 l8:m.limbs.length<=8
 ln:(m.limbs.map (·.1)).Nodup
 lm:∀p∈m.limbs,p.1∈m.names/\0<=p.2/\p.2<=10^18
 hl:m.hands.length=m.parts.length
 gl:m.longs.length=m.parts.length
 ps:∀i p,m.parts[i]?=some p->p.1=m.nm i/\PartOk m i p.2 (m.hd i) (m.lg i)
section
variable{m:Rr}{f:Fm}{ks:List Int}{g:Int}
theorem getD_snoc{α:Type}{l:List α}{x d:α}{j:Nat}(h:j<l.length):(l++[x]).getD j d=l.getD j d:=by
 rw[getD_eq_getElem?_getD,getD_eq_getElem?_getD,List.getElem?_append_left h]
theorem getD_last{α:Type}{l:List α}{x d:α}:(l++[x]).getD l.length d=x:=by
 rw[getD_eq_getElem?_getD,List.getElem?_append_right (Nat.le_refl _),Nat.sub_self];rfl
theorem Q2{j:Nat}(h:j<m.hands.length):(m.add f ks g).hd j=m.hd j:=getD_snoc h
theorem Zk{j:Nat}(h:j<m.longs.length):(m.add f ks g).lg j=m.lg j:=getD_snoc h
theorem FmOk.add{f':Fm}{ks':List Int}{g':Int}{i:Nat}(h1:i<=m.hands.length)(h2:i<=m.longs.length)(h:FmOk m i f' ks' g'):FmOk (m.add f ks g) i f' ks' g':=by
 have eh:∀is:List Nat,(∀j∈is,j<i)->KsOf m is ks'->KsOf (m.add f ks g) is ks':=fun is hi h k=>by
  rw[h k];constructor
  ·rintro⟨j,hj,hk⟩;exact⟨j,hj,by rw[Q2 (by have:=hi j hj;omega)];exact hk⟩
  ·rintro⟨j,hj,hk⟩;exact⟨j,hj,by rw[Q2 (by have:=hi j hj;omega)]at hk;exact hk⟩
 cases f' with
 | hold n=>exact h
 | ring x n=>exact h
 | rise x v n=>exact h
 | row ps=>
  obtain⟨is,a,b,c,d,e⟩:=h;refine⟨is,a,b,c,eh is a.2 d,e.trans ?_⟩;congr 1;exact map_congr_left fun j hj=>(Zk (by have:=a.2 j hj;omega)).symm
 | side ps=>
  obtain⟨is,a,b,c,p,d,e1,e2⟩:=h;refine⟨is,a,b,c,⟨fun j hj=>?_,?_⟩,eh is a.2 d,?_,fun j hj=>?_⟩
  ·rw[Q2 (by have:=a.2 j hj;omega)];exact p.1 j hj
  ·refine List.Pairwise.imp_of_mem (fun {x y} hx hy hxy=>?_) p.2;rw[Q2 (by have:=a.2 x hx;omega),Q2 (by have:=a.2 y hy;omega)];exact hxy
  ·obtain⟨j,hj,e⟩:=e1;exact⟨j,hj,by rw[Zk (by have:=a.2 j hj;omega)];exact e⟩
  ·rw[Zk (by have:=a.2 j hj;omega)];exact e2 j hj
 | again k x=>
  obtain⟨a,b,j,hj,c,d,e⟩:=h;exact⟨a,b,j,hj,c,by rw[Q2 (by omega)];exact d,by rw[Zk (by omega)];exact e⟩
theorem Good.add(G:Good m)(h:PartOk m m.parts.length f ks g):Good (m.add f ks g):=by
 refine⟨G.nl,G.nd,G.nw,G.l1,G.l8,G.ln,G.lm,?_,?_,fun i p hp=>?_⟩
 ·show(m.hands++[ks]).length=(m.parts++_).length;rw[List.length_append,List.length_append,G.hl];rfl
 ·show(m.longs++[g]).length=(m.parts++_).length;rw[List.length_append,List.length_append,G.gl];rfl
 ·have e1:=G.hl;have e2:=G.gl;by_cases hi:i<m.parts.length
  ·have hp':m.parts[i]?=some p:=by rw[<-hp];exact(List.getElem?_append_left hi).symm
   obtain⟨n,o⟩:=G.ps i p hp';rw[Q2 (by omega),Zk (by omega)];exact⟨n,FmOk.add (by omega) (by omega) o.f,o.k,o.o,o.g1,o.g2⟩
  ·have hl:i=m.parts.length:=by
    have:=(List.getElem?_eq_some_iff.mp hp).1;have e:(m.add f ks g).parts.length=m.parts.length+1:=by show(m.parts++_).length=_;rw[List.length_append];rfl
    omega
   subst hl;have ep:p=(m.nm m.parts.length,f):=by
    have e:(m.add f ks g).parts[m.parts.length]?=some (m.nm m.parts.length,f):=by
     show(m.parts++[_])[m.parts.length]?=_;rw[List.getElem?_append_right (Nat.le_refl _),Nat.sub_self];rfl
    rw[hp]at e;exact Option.some.inj e
   have e3:(m.add f ks g).hd m.parts.length=ks:=by rw[<-G.hl];exact getD_last
   have e4:(m.add f ks g).lg m.parts.length=g:=by rw[<-G.gl];exact getD_last
   rw[ep,e3,e4];exact⟨rfl,FmOk.add (by omega) (by omega) h.f,h.k,h.o,h.g1,h.g2⟩
theorem QN:(m.add f ks g).parts.length=m.parts.length+1:=by show(m.parts++_).length=_;rw[List.length_append];rfl
end
def Big(ns:List Int):Prop:=∀n∈ns,0<=n/\n<33554432
theorem Big.cell{ns:List Int}(h:Big ns){k:Int}(h0:0<=k)(h1:k<(ns.length:Int)):0<=Pr.cell ns k/\Pr.cell ns k<33554432:=h _ (List.mem_of_getElem? (Pr.Yj h0 h1))
def More(z:Ra)(m:Rr)(H:Hp)(Q:VK):Prop:=∀m' H',Kp z H H'->RoomAt H' z m'->Good m'->m'.parts.length=m.parts.length+1->Q .non H'
inductive sp_simple(vs:List V)(H:Hp)(Q:VK)(xk:XK):Prop
 | mk (z:Ra) (m:Rr) (c:Int) (p:Addr) (ns:List Int) (_:vs=[.ref z.r,.int c,.ref p]) (_:RoomAt H z m) (_:Good m) (_:m.parts.length<65) (_:H p=some (.lst (ns.map V.int))) (_:z.off p) (_:4<=ns.length) (_:Big ns) (_:More z m H Q):sp_simple vs H Q xk
theorem Yb{ws:List Str}{i:Int}(h0:0<=i)(h:i<(ws.length:Int)):atI (ws.map V.str) i=some (.str (ws.getD i.toNat ⟨#[]⟩)):=by
 have e:=kI (ws:=ws) (n:=i.toNat) (by omega);rw[Int.toNat_of_nonneg h0]at e;exact e
theorem getD_in{ws:List Str}{n:Nat}(h:n<ws.length):ws.getD n ⟨#[]⟩∈ws:=by
 rw[getD_eq_getElem?_getD,List.getElem?_eq_getElem h];exact getElem_mem h
theorem qR{as:List Addr}{i:Int}{a:Addr}(h0:0<=i)(h:as[i.toNat]?=some a):atI (as.map V.ref) i=some (.ref a):=by
 have e:atI (as.map V.ref) ((i.toNat:Nat):Int)=some (.ref a):=qh (by rw[List.getElem?_map,h];rfl);rw[Int.toNat_of_nonneg h0]at e;exact e
open PySem PySem.Spec PyProof.Rows L2
inductive sp_there(vs:List V)(H:Hp)(Q:VK)(xk:XK):Prop
 | mk (z:Ra) (m:Rr) (n:Int) (_:vs=[.ref z.r,.int n]) (_:RoomAt H z m) (_:0<m.parts.length) (_:0<=n) (_:∀i:Nat,i<m.parts.length->Q (.int i) H):sp_there vs H Q xk
theorem kR{k:Nat}{H:Hp}{Q:VK}(q:∀i:Nat,i<k->Q (.int i) H){x:Int}(h0:0<=x)(h1:x<k):Q (.int x) H:=by
 have e:=q x.toNat (by omega);rw[Int.toNat_of_nonneg h0]at e;exact e
noncomputable def vN(j:Nat):V:=.int j
inductive sp_apart(vs:List V)(H:Hp)(Q:VK)(xk:XK):Prop
 | mk (z:Ra) (m:Rr) (p:Addr) (ns:List Int) (_:vs=[.ref z.r,.ref p]) (_:RoomAt H z m) (_:Good m) (_:0<m.parts.length) (_:m.parts.length<65) (_:H p=some (.lst (ns.map V.int))) (_:6<=ns.length) (_:Big ns) (_:∀(l:Addr) (is:List Nat) (H':Hp),Same H H'->H l=none->H' l=some (.lst (is.map vN))->is.length<=4->(∀j∈is,j<m.parts.length)->Apart m is->Q (.ref l) H'):sp_apart vs H Q xk
theorem zJ:∀{ks:List Int} {lo hi:Int},ks.Pairwise (· < ·)->(∀k∈ks,lo<=k/\k<hi)->ks.length<=(hi-lo).toNat
 | [],_,_,_,_=>Nat.zero_le _
 | k::r,lo,hi,h,b=>by
  have h1:=zJ (ks:=r) (lo:=k+1) (hi:=hi) (pairwise_cons.mp h).2 fun x hx=>⟨(pairwise_cons.mp h).1 x hx,(b x (mem_cons_of_mem _ hx)).2⟩
  have h2:=b k mem_cons_self;rw[length_cons];omega
theorem wb{m:Rr}(G:Good m){j:Nat}(h:j<m.parts.length):(m.hd j).length<=8:=by
 obtain⟨_,o⟩:=G.ps j _ (List.getElem?_eq_getElem h);have e:=zJ o.o o.k;have:=G.l8;omega
theorem kO{H:Hp}:∀(ks:List Int),DVs H (ks.map V.int) (ks.map PyData.int)
 | []=>.nil
 | k::r=>.cons (.int k) (kO r)
theorem WQ{H:Hp}{a:Addr}{ks:List Int}(h:H a=some (.lst (ks.map V.int))):DV H (.ref a) (.list (ks.map PyData.int)):=.lst h (kO ks)
theorem W4{H:Hp}{a:Addr}(h:H a=some (.lst [])):DV H (.ref a) (.list []):=.lst h .nil
theorem WR(ks:List Int):PyData.eqv (.list (ks.map PyData.int)) (.list [])=decide (ks=[]):=by
 cases ks<;>simp[PyData.eqv,PyData.eqvAll]
theorem shp(ks:List Int):SeqAt.shaped (.list (ks.map PyData.int))=true:=PySem.W.ke_shaped_ints ks
theorem shp0:SeqAt.shaped (.list [])=true:=PySem.W.ke_shaped_ints []
theorem yJ{H:Hp}{z:Ra}{m:Rr}(R:RoomAt H z m)(G:Good m){j:Nat}(hj:j<m.parts.length){hs:List Addr}(eh:H z.ph=some (.lst (hs.map V.ref))):∃a,hs[j]?=some a/\H a=some (.lst ((m.hd j).map V.int))/\z.off a:=by
 obtain⟨hs',eh',ah⟩:=R.h;have e:hs'=hs:=by
  rw[eh]at eh';injection eh' with e;injection e with e;exact(List.map_inj_right (fun x y h=>by injection h)).mp e.symm
 subst e;have hl:=G.hl;obtain⟨a,ha,h1,h2⟩:=ah.get (i:=j) (x:=m.hd j) (by unfold Rr.hd;rw[getD_eq_getElem?_getD,List.getElem?_eq_getElem (by omega)];rfl);exact⟨a,ha,h1,h2⟩
theorem Apart.snoc{m:Rr}{is:List Nat}{j:Nat}{hs:List Int}(h:Apart m is)(hh:∀i∈is,∀k∈m.hd i,k∈hs)(h1:m.hd j≠[])(h2:∀k∈m.hd j,¬k∈hs):Apart m (is++[j]):=by
 refine⟨fun i hi=>?_,List.pairwise_append.mpr ⟨h.2,pairwise_singleton _ _,fun a ha b hb k hk hk'=>?_⟩⟩
 ·rcases mem_append.mp hi with e | e
  ·exact h.1 i e
  ·have e':i=j:=by simpa using e
   rw[e'];exact h1
 ·have e:b=j:=by simpa using hb
  subst e;exact h2 k hk' (hh a ha k hk)
theorem yK(n:Int):∀hs:List Int,inV (.int n) (hs.map V.int)=decide (n∈hs)
 | []=>rfl
 | h::r=>by
  have ih:=yK n r;unfold inV at ih|-;rw[map_cons,any_cons,ih];have e:eqV (.int h) (.int n)=decide (h=n):=by
   show decide _=_;simp
  rw[e,Bool.eq_iff_iff];simp only[Bool.or_eq_true,decide_eq_true_eq,mem_cons];constructor
  ·rintro(x | x)
   ·exact .inl x.symm
   ·exact .inr x
  ·rintro(x | x)
   ·exact .inl x.symm
   ·exact .inr x
theorem inI(n:Int)(hs:List Int):(if false=true then !inV (.int n) (hs.map V.int)else inV (.int n) (hs.map V.int))=decide (n∈hs):=by rw[if_neg (by decide),yK]
theorem notInI(n:Int)(hs:List Int):(if true=true then !inV (.int n) (hs.map V.int)else inV (.int n) (hs.map V.int)) = !decide (n∈hs):=by rw[if_pos rfl,yK]
theorem flats:∀hs:List Int,(hs.map V.int).all flatV=true
 | []=>rfl
 | h::r=>by rw[map_cons,all_cons,flats r];rfl
theorem take_snoc{α:Type}{l:List α}{i:Nat}{x:α}(h:l[i]?=some x):l.take (i+1)=l.take i++[x]:=by
 rw[List.take_add_one,h];rfl
inductive sp_naming(vs:List V)(H:Hp)(Q:VK)(xk:XK):Prop
 | mk (z:Ra) (m:Rr) (c:Int) (p:Addr) (ns:List Int) (_:vs=[.ref z.r,.int c,.ref p]) (_:RoomAt H z m) (_:Good m) (_:0<m.parts.length) (_:m.parts.length<65) (_:H p=some (.lst (ns.map V.int))) (_:z.off p) (_:ns.length=12) (_:Big ns) (_:More z m H Q):sp_naming vs H Q xk
theorem Wc{ns:List Int}{h:Int}(h0:2<=h)(h1:h<=(ns.length:Int)):cutV (ns.map V.int) (some 2) (some h)=((ns.drop 2).take (h-2).toNat).map V.int:=by
 unfold cutV;rw[map_take,List.map_drop];have e1:HT.sIx (ns.map V.int).length 0 (some 2)=2:=(HT.Zf (ns.map V.int).length 0 2).trans (by rw[length_map];omega);have e2:HT.sIx (ns.map V.int).length (ns.map V.int).length (some h)=h.toNat:=by
  show(if h<0 then _ else min h.toNat _)=_;rw[if_neg (by omega),length_map];omega
 rw[e1,e2];congr 1;omega
theorem wZ{is:List Nat}{i:Nat}{x:V}(h:(is.map vN)[i]?=some x):∃j,is[i]?=some j/\x = .int j/\j∈is:=by
 rw[List.getElem?_map]at h;obtain⟨j,hj,rfl⟩:=Option.map_eq_some_iff.mp h;exact⟨j,hj,rfl,List.mem_of_getElem? hj⟩
theorem Wn{m:Rr}(G:Good m){j:Nat}(h:j<m.parts.length):atI (m.longs.map V.int) (j:Int)=some (.int (m.lg j)):=by
 have e:=G.gl;refine qh ?_;rw[List.getElem?_map];unfold Rr.lg;rw[getD_eq_getElem?_getD,List.getElem?_eq_getElem (by omega)];rfl
theorem Yo{m:Rr}(G:Good m){j:Nat}(h:j<m.parts.length):1<=m.lg j/\m.lg j<=10^60:=by
 obtain⟨_,o⟩:=G.ps j _ (List.getElem?_eq_getElem h);exact⟨o.g1,o.g2⟩
theorem kB{m:Rr}(G:Good m):∀{is:List Nat},(∀j∈is,j<m.parts.length)->(is.length:Int)<=(is.map m.lg).sum/\(is.map m.lg).sum<=is.length*10^60
 | [],_=>⟨Int.le_refl _,by simp⟩
 | j::r,h=>by
  have a:=kB G (is:=r) fun x hx=>h x (mem_cons_of_mem _ hx)
  have b:=Yo G (h j mem_cons_self);rw[map_cons,sum_cons,length_cons];omega
theorem cut1{xs:List V}:cutV xs none (some 1)=xs.take 1:=by
 unfold cutV;rw[show HT.sIx xs.length 0 none=0 from rfl,show HT.sIx xs.length xs.length (some 1)=min 1 xs.length from HT.Zf xs.length xs.length 1,List.drop_zero,Nat.sub_zero];cases xs with
 | nil=>rfl
 | cons x r=>rw[length_cons,show min 1 (r.length+1)=1 by omega]
theorem xO{m:Rr}(G:Good m){j:Nat}(h:j<m.parts.length):(m.hd j).Nodup:=by
 obtain⟨_,o⟩:=G.ps j _ (List.getElem?_eq_getElem h);exact o.o.imp fun h=>Int.ne_of_lt h
theorem Y5{m:Rr}{is:List Nat}{hs:List Int}{i j:Nat}(hj:is[i]?=some j)(h:∀k,k∈hs↔∃x∈is.take i,k∈m.hd x)(nd:hs.Nodup)(nj:(m.hd j).Nodup) :
  (hs++(m.hd j).filter fun k=>!decide (k∈hs)).Nodup/\∀k,k∈hs++(m.hd j).filter (fun k=>!decide (k∈hs))↔∃x∈is.take (i+1),k∈m.hd x:=by
 constructor
 ·refine nodup_append.mpr ⟨nd,nj.filter _,fun a ha b hb e=>?_⟩;subst e;have:=(mem_filter.mp hb).2;simp[ha]at this
 ·intro k;rw[take_snoc hj,mem_append,h k,mem_filter];constructor
  ·rintro(⟨x,hx,hk⟩ | ⟨hk,_⟩)
   ·exact⟨x,mem_append_left _ hx,hk⟩
   ·exact⟨j,mem_append_right _ (mem_singleton.mpr rfl),hk⟩
  ·rintro⟨x,hx,hk⟩;rcases mem_append.mp hx with e | e
   ·exact .inl ⟨x,e,hk⟩
   ·have e':x=j:=mem_singleton.mp e;subst e';by_cases hin:k∈hs
    ·exact .inl ((h k).mp hin)
    ·exact .inr ⟨hk,by simp[hin]⟩
theorem zN{ms hs:List Int}(hp:ms.Perm hs)(nd:hs.Nodup)(ho:ms.Pairwise (·<=·)):ms.Pairwise (· < ·):=
 (List.Pairwise.and ho (hp.nodup_iff.mpr nd)).imp fun {a b} h=>by have h1:=h.1;have h2:a≠b:=h.2;omega
theorem wa{m:Rr}(G:Good m){is:List Nat}(hj:∀j∈is,j<m.parts.length){hs:List Int}(hmem:∀k,k∈hs↔∃j∈is,k∈m.hd j):∀k∈hs,0<=k/\k<(m.limbs.length:Int):=fun k hk=>by
 obtain⟨j,h1,h2⟩:=(hmem k).mp hk;exact(G.ps j _ (List.getElem?_eq_getElem (hj j h1))).2.k k h2
def Shp(n:Nat)(d:PyData):Prop:=d.canLay0=true/\d.depth<=n
theorem Shp.int{i:Int}:Shp 0 (.int i):=⟨rfl,Nat.le_refl _⟩
theorem Shp.str{x:Str}(h:PyData.strOk x=true):Shp 0 (.str x):=⟨h,Nat.le_refl _⟩
theorem Shp.mono{n k:Nat}{d:PyData}(h:Shp n d)(hk:n<=k):Shp k d:=⟨h.1,Nat.le_trans h.2 hk⟩
theorem zv{n:Nat}:∀{ds:List PyData},(∀d∈ds,Shp n d)->PyData.canLayAll0 ds=true/\PyData.depthAll ds<=n
 | [],_=>⟨rfl,Nat.zero_le _⟩
 | d::r,h=>by
  have h1:=h d mem_cons_self;have h2:=zv (ds:=r) fun x hx=>h x (mem_cons_of_mem _ hx)
  constructor
  ·show(d.canLay0&&PyData.canLayAll0 r)=true;rw[h1.1,h2.1];rfl
  ·show max d.depth (PyData.depthAll r)<=n;exact Nat.max_le.mpr ⟨h1.2,h2.2⟩
theorem Shp.lst{n:Nat}{ds:List PyData}(h:∀d∈ds,Shp n d):Shp (n+1) (.list ds):=⟨(zv h).1,Nat.succ_le_succ (zv h).2⟩
theorem Shp.tup{n:Nat}{ds:List PyData}(h:∀d∈ds,Shp n d):Shp (n+1) (.tuple ds):=⟨(zv h).1,Nat.succ_le_succ (zv h).2⟩
theorem Shp.ok{n:Nat}{d:PyData}(h:Shp n d)(hn:n<=64):SeqAt.shaped d=true:=by
 unfold SeqAt.shaped;rw[h.1,Bool.true_and];exact decide_eq_true (Nat.le_trans h.2 hn)
theorem zx{x:Str}(h:Ws.isW x=true):PyData.strOk x=true:=by
 unfold Ws.isW Ws.among at h;rw[Bool.and_eq_true]at h;have h2:=of_decide_eq_true h.2;unfold PyData.strOk;rw[Array.all_eq_true_iff_forall_mem];intro c hc;have:=Yt.mp (h2 c (by simpa using hc));exact decide_eq_true (by omega)
noncomputable def fmD:Fm->PyData
 | .hold n=>.tuple [.str "hold",.int n]
 | .ring x n=>.tuple [.str "ring",.str x,.int n]
 | .rise x h n=>.tuple [.str "raise",.str x,.int h,.int n]
 | .row ps=>.tuple [.str "row",.tuple (ps.map PyData.str)]
 | .side ps=>.tuple [.str "side",.tuple (ps.map PyData.str)]
 | .again k x=>.tuple [.str "again",.int k,.str x]
noncomputable def partD(p:Str×Fm):PyData:=.tuple [.str p.1,fmD p.2]
theorem yD{H:Hp}:∀(xs:List Str),DVs H (xs.map V.str) (xs.map PyData.str)
 | []=>.nil
 | x::r=>.cons (.str x) (yD r)
theorem Wd{H:Hp}{a:Addr}{f:Fm}(h:FormAt H a f):DV H (.ref a) (fmD f):=by
 cases f with
 | hold n=>exact .tup h (.cons (.str _) (.cons (.int _) .nil))
 | ring x n=>exact .tup h (.cons (.str _) (.cons (.str _) (.cons (.int _) .nil)))
 | rise x v n=>exact .tup h (.cons (.str _) (.cons (.str _) (.cons (.int _) (.cons (.int _) .nil))))
 | row ps=>obtain⟨b,h1,h2⟩:=h;exact .tup h1 (.cons (.str _) (.cons (.tup h2 (yD ps)) .nil))
 | side ps=>obtain⟨b,h1,h2⟩:=h;exact .tup h1 (.cons (.str _) (.cons (.tup h2 (yD ps)) .nil))
 | again k x=>exact .tup h (.cons (.str _) (.cons (.int _) (.cons (.str _) .nil)))
theorem We{H:Hp}{a:Addr}{p:Str×Fm}(h:PartAt H a p):DV H (.ref a) (partD p):=by
 obtain⟨b,h1,h2⟩:=h;exact .tup h1 (.cons (.str _) (.cons (Wd h2) .nil))
theorem All2.tail{α:Type}{R:Addr->α->Prop}{a:Addr}{x:α}{as:List Addr}{xs:List α}(h:All2 R (a::as) (x::xs)):R a x/\All2 R as xs:=
 ⟨h.2 0 a x rfl rfl,Nat.succ.inj h.1,fun i b y h1 h2=>h.2 (i+1) b y (by simpa using h1) (by simpa using h2)⟩
theorem Zq{α:Type}{H:Hp}{R:Addr->α->Prop}{D:α->PyData}(k:∀a x,R a x->DV H (.ref a) (D x)):∀{as:List Addr} {xs:List α},All2 R as xs->DVs H (as.map V.ref) (xs.map D)
 | [],[],_=>.nil
 | [],_::_,h=>by have:=h.1;simp at this
 | _::_,[],h=>by have:=h.1;simp at this
 | _::_,_::_,h=>.cons (k _ _ h.tail.1) (Zq k h.tail.2)
noncomputable def FmWs:Fm->Prop
 | .hold n=>0<=n/\n<=10^18
 | .ring x n=>Ws.isW x=true/\0<=n/\n<=10^18
 | .rise x h n=>Ws.isW x=true/\0<=h/\h<=10^18/\0<=n/\n<=10^18
 | .row ps=>ps.length<=8/\∀x∈ps,Ws.isW x=true
 | .side ps=>ps.length<=8/\∀x∈ps,Ws.isW x=true
 | .again k x=>0<=k/\k<=10^18/\Ws.isW x=true
structure BkOk(ls:List (Str×Int))(ps:List (Str×Fm)):Prop where
 l8:ls.length<=8
 ln:∀p∈ls,Ws.isW p.1=true/\0<=p.2/\p.2<=10^18
 p61:ps.length<=61
 pn:∀p∈ps,Ws.isW p.1=true/\FmWs p.2
theorem Wt{m:Rr}(G:Good m){j:Nat}(h:j<68):Ws.isW (m.nm j)=true:=G.nw _ (getD_in (by rw[G.nl];exact h))
theorem Good.bk{m:Rr}(G:Good m)(h61:m.parts.length<=61):BkOk m.limbs m.parts:=by
 refine⟨G.l8,fun p hp=>⟨G.nw _ (G.lm p hp).1,(G.lm p hp).2⟩,h61,fun p hp=>?_⟩;obtain⟨i,hi,rfl⟩:=mem_iff_getElem.mp hp;obtain⟨e,o⟩:=G.ps i _ (List.getElem?_eq_getElem hi);refine⟨by rw[e];exact Wt G (by omega),?_⟩;have f:=o.f;generalize(m.parts[i]).2=fm at f;cases fm with
 | hold n=>exact⟨by have:=f.1;omega,f.2.1⟩
 | ring x n=>exact⟨G.nw _ f.1,by have:=f.2.1;omega,f.2.2.1⟩
 | rise x v n=>
  obtain⟨⟨j,v',hj,_⟩,h1,h2,h3,h4,_⟩:=f;exact⟨G.nw _ (G.lm _ (List.mem_of_getElem? hj)).1,h1,h2,by omega,h4⟩
 | row ps=>
  obtain⟨is,⟨rfl,hlt⟩,h1,h2,_⟩:=f;refine⟨by rw[length_map];exact h2,fun x hx=>?_⟩;obtain⟨j,hj,rfl⟩:=mem_map.mp hx;exact Wt G (by have:=hlt j hj;omega)
 | side ps=>
  obtain⟨is,⟨rfl,hlt⟩,h1,h2,_⟩:=f;refine⟨by rw[length_map];omega,fun x hx=>?_⟩;obtain⟨j,hj,rfl⟩:=mem_map.mp hx;exact Wt G (by have:=hlt j hj;omega)
 | again k x=>
  obtain⟨h1,h2,j,hj,rfl,_⟩:=f;exact⟨by omega,h2,Wt G (by omega)⟩
theorem YL{n:Nat}{xs:List Str}(h:∀x∈xs,Ws.isW x=true):∀d∈xs.map PyData.str,Shp n d:=fun d hd=>by
 obtain⟨x,hx,rfl⟩:=mem_map.mp hd;exact(Shp.str (zx (h x hx))).mono (Nat.zero_le _)
theorem wM{f:Fm}(h:FmWs f):Shp 2 (fmD f):=by
 cases f with
 | hold n=>exact(Shp.tup (n:=0) (by rintro d hd;simp only[mem_cons,not_mem_nil,or_false]at hd;rcases hd with rfl | rfl;exact Shp.str (by decide +kernel);exact Shp.int)).mono (by decide)
 | ring x n=>exact(Shp.tup (n:=0) (by rintro d hd;simp only[mem_cons,not_mem_nil,or_false]at hd;rcases hd with rfl | rfl | rfl;exact Shp.str (by decide +kernel);exact Shp.str (zx h.1);exact Shp.int)).mono (by decide)
 | rise x v n=>exact(Shp.tup (n:=0) (by rintro d hd;simp only[mem_cons,not_mem_nil,or_false]at hd;rcases hd with rfl | rfl | rfl | rfl;exact Shp.str (by decide +kernel);exact Shp.str (zx h.1);exact Shp.int;exact Shp.int)).mono (by decide)
 | row ps=>exact Shp.tup (n:=1) (by rintro d hd;simp only[mem_cons,not_mem_nil,or_false]at hd;rcases hd with rfl | rfl;exact(Shp.str (by decide +kernel)).mono (by decide);exact Shp.tup (YL h.2))
 | side ps=>exact Shp.tup (n:=1) (by rintro d hd;simp only[mem_cons,not_mem_nil,or_false]at hd;rcases hd with rfl | rfl;exact(Shp.str (by decide +kernel)).mono (by decide);exact Shp.tup (YL h.2))
 | again k x=>exact(Shp.tup (n:=0) (by rintro d hd;simp only[mem_cons,not_mem_nil,or_false]at hd;rcases hd with rfl | rfl | rfl;exact Shp.str (by decide +kernel);exact Shp.int;exact Shp.str (zx h.2.2))).mono (by decide)
theorem KL{ls:List (Str×Int)}{ps:List (Str×Fm)}(B:BkOk ls ps):Shp 4 (.list (ps.map partD)):=by
 refine Shp.lst fun d hd=>?_
 obtain⟨p,hp,rfl⟩:=mem_map.mp hd;refine Shp.tup fun d hd=>?_
 simp only[mem_cons,not_mem_nil,or_false]at hd;rcases hd with rfl | rfl
 ·exact(Shp.str (zx (B.pn p hp).1)).mono (by decide)
 ·exact wM (B.pn p hp).2
structure BookAt(H:Hp)(b pl pp:Addr)(las pas:List Addr)(ls:List (Str×Int))(ps:List (Str×Fm)):Prop where
 t:H b=some (.tup [.ref pl,.ref pp])
 l:H pl=some (.lst (las.map V.ref))
 la:All2 (LimbAt H) las ls
 p:H pp=some (.lst (pas.map V.ref))
 pa:All2 (PartAt H) pas ps
theorem FormAt.same{H H':Hp}{a:Addr}{f:Fm}(s:Same H H')(h:FormAt H a f):FormAt H' a f:=by
 cases f with
 | row ps=>obtain⟨b,h1,h2⟩:=h;exact⟨b,s _ _ h1,s _ _ h2⟩
 | side ps=>obtain⟨b,h1,h2⟩:=h;exact⟨b,s _ _ h1,s _ _ h2⟩
 | hold n=>exact s _ _ h
 | ring x n=>exact s _ _ h
 | rise x g n=>exact s _ _ h
 | again x n=>exact s _ _ h
theorem PartAt.same{H H':Hp}{a:Addr}{p:Str×Fm}(s:Same H H')(h:PartAt H a p):PartAt H' a p:=by
 obtain⟨b,h1,h2⟩:=h;exact⟨b,s _ _ h1,FormAt.same s h2⟩
theorem BookAt.same{H H':Hp}{b pl pp:Addr}{las pas:List Addr}{ls:List (Str×Int)}{ps:List (Str×Fm)}(B:BookAt H b pl pp las pas ls ps)(s:Same H H'):BookAt H' b pl pp las pas ls ps:=
 ⟨s _ _ B.t,s _ _ B.l,B.la.mono fun a x h=>s _ _ h,s _ _ B.p,B.pa.mono fun a x h=>PartAt.same s h⟩
theorem Ks(ps:List (Str×Fm)):PyData.eqv (.list (ps.map partD)) (.list [])=decide (ps=[]):=by
 cases ps<;>simp[PyData.eqv,PyData.eqvAll]
inductive sp_room(K:Frg)(vs:List V)(H:Hp)(Q:VK)(xk:XK):Prop
 | mk (a:Addr) (ns:List Int) (_:vs=[.ref a]) (_:SqL K H a (ns.map V.int)) (_:ns.length<=63) (_:∀(z:Ra) (m:Rr) (H':Hp),Same H H'->RoomAt H' z m->Good m->1<=m.parts.length->m.parts.length<=61->H z.pl=none->H z.pp=none->Q (.ref z.r) H'):sp_room K vs H Q xk
noncomputable def lix(c:Int)(k:Nat):Nat:=if c%3<2 then 60+k else((c/3+5*(k:Int))%8).toNat
noncomputable def lnm(ws:List Str)(c:Int)(k:Nat):Str:=ws.getD (lix c k) ⟨#[]⟩
theorem KS{x y:Int}{i:Int}(h0:0<=i)(h1:i<3):atI [V.int x,V.int x,V.int y] i=some (.int (if i<2 then x else y)):=by
 rcases(by omega:i=0\/i=1\/i=2)with e | e | e<;>subst e<;>rfl
theorem xi{ws:List Str}{c:Int}{i:Nat}(hl:ws.length=68)(hc:0<=c)(hi:i<8) :
  0<=(if c%3<2 then 60+(0+(i:Int))else(c/3+5*(0+(i:Int)))%8)/\(if c%3<2 then 60+(0+(i:Int))else(c/3+5*(0+(i:Int)))%8)<(ws.length:Int)/\
   ws.getD (if c%3<2 then 60+(0+(i:Int))else(c/3+5*(0+(i:Int)))%8).toNat ⟨#[]⟩=lnm ws c i:=by
 unfold lnm lix;rw[hl,Int.zero_add];split
 ·exact⟨by omega,by omega,by rw[show(60+(i:Int)).toNat=60+i by omega]⟩
 ·exact⟨by omega,by omega,rfl⟩
theorem kb{c:Int}{k:Nat}(h:k<8):lix c k<68:=by
 unfold lix;split<;>omega
theorem Wm{c:Int}{j k:Nat}(hj:j<8)(hk:k<8)(h:lix c j=lix c k):j=k:=by
 unfold lix at h;split at h<;>omega
theorem getD_inj{ws:List Str}(nd:ws.Nodup){i j:Nat}(hi:i<ws.length)(hj:j<ws.length)(h:ws.getD i ⟨#[]⟩=ws.getD j ⟨#[]⟩):i=j:=by
 rw[getD_eq_getElem?_getD,getD_eq_getElem?_getD,List.getElem?_eq_getElem hi,List.getElem?_eq_getElem hj]at h;have h':ws[i]=ws[j]:=h;rcases Nat.lt_trichotomy i j with q | q | q
 ·exact absurd h' (pairwise_iff_getElem.mp nd i j hi hj q)
 ·exact q
 ·exact absurd h'.symm (pairwise_iff_getElem.mp nd j i hj hi q)
theorem xl{ws:List Str}{c:Int}{n:Nat}(hl:ws.length=68)(nd:ws.Nodup)(hn:n<=8):((List.range n).map (lnm ws c)).Nodup:=by
 refine pairwise_map.mpr (List.Pairwise.imp_of_mem (fun {a b} ha hb hab e=>?_) List.nodup_range);have h1:=mem_range.mp ha;have h2:=mem_range.mp hb;exact hab (Wm (by omega) (by omega) (getD_inj nd (by rw[hl];exact kb (by omega)) (by rw[hl];exact kb (by omega)) e))
theorem xj{ws:List Str}{c:Int}{n:Nat}(hl:ws.length=68)(hn:n<=8){x:Str}(h:x∈(List.range n).map (lnm ws c)):x∈ws:=by
 obtain⟨k,hk,rfl⟩:=mem_map.mp h;have:=mem_range.mp hk;exact getD_in (by rw[hl];exact kb (by omega))
theorem W3{xs:List V}:(cutV xs (some 2) (some 62)).length<=60:=by
 unfold cutV;rw[length_take,show HT.sIx xs.length 0 (some 2)=min 2 xs.length from HT.Zf xs.length 0 2,show HT.sIx xs.length xs.length (some 62)=min 62 xs.length from HT.Zf xs.length xs.length 62];omega
open PyProof.Rows.KTD (inKeys Dat)
theorem at0{x:V}{xs:List V}:atI (x::xs) 0=some x:=qh (j:=0) rfl
theorem iteB0{b:Bool}{A B:Prop}(e:b=false)(h:B):if b=true then A else B:=by rw[e];exact h
theorem iteB1{b:Bool}{A B:Prop}(e:b=true)(h:A):if b=true then A else B:=by rw[e];exact h
theorem All2.at_ref{α:Type}{R:Addr->α->Prop}{as:List Addr}{xs:List α}{i:Nat}{v:V}(h:All2 R as xs)(hv:(as.map V.ref)[i]?=some v):∃a x,v = .ref a/\xs[i]?=some x/\R a x:=by
 rw[List.getElem?_map]at hv;obtain⟨a,ha,rfl⟩:=Option.map_eq_some_iff.mp hv;have hi:=(List.getElem?_eq_some_iff.mp ha).1;have hl:=h.1;have hx:xs[i]?=some xs[i]:=List.getElem?_eq_getElem (by omega);exact⟨a,_,rfl,hx,h.2 i a _ ha hx⟩
theorem Qk:∀{n:Nat} {hs:List Int},hs.Nodup->(∀k∈hs,0<=k/\k<(n:Int))->hs.length<=n
 | 0,hs,_,h=>by
  cases hs with
  | nil=>exact Nat.le_refl _
  | cons k r=>have:=h k mem_cons_self;omega
 | n+1,hs,nd,h=>by
  by_cases e:(n:Int)∈hs
  ·have i:=Qk (n:=n) (nd.erase (n:Int)) fun k hk=>by
    have h1:=h k (List.mem_of_mem_erase hk);have h2:k≠(n:Int):=fun z=>nd.not_mem_erase (z▸hk)
    omega
   have l:=List.length_erase_of_mem e;omega
  ·have i:=Qk (n:=n) nd fun k hk=>by
    have h1:=h k hk;have h2:k≠(n:Int):=fun z=>e (z▸hk)
    omega
   omega
noncomputable def Fm.ns:Fm->List Str
 | .row ps=>ps
 | .side ps=>ps
 | .again _ x=>[x]
 | _=>[]
noncomputable def numK(xs:List Str):List (Key×V):=xs.zipIdx.map fun p=>(Sum.inr p.1,.int (p.2:Nat))
theorem KD(xs:List Str)(x:Str):numK (xs++[x])=numK xs++[(Sum.inr x,.int (xs.length:Nat))]:=by
 unfold numK;rw[List.zipIdx_append,map_append];simp
theorem ww(xs:List Str):(numK xs).length=xs.length:=by simp[numK]
theorem yi(xs:List Str):(numK xs).map (·.1)=xs.map Sum.inr:=by
 unfold numK;rw[List.map_map];have e:∀(k:Nat) (xs:List Str),(xs.zipIdx k).map ((fun x=>x.1)∘fun p:Str×Nat=>((Sum.inr p.1:Key),V.int (p.2:Nat)))=xs.map Sum.inr:=fun k xs=>by
  induction xs generalizing k with
  | nil=>rfl
  | cons x r ih=>rw[List.zipIdx_cons,map_cons,map_cons,ih];rfl
 exact e 0 xs
theorem Wv{xs:List Str}{j:Nat}{x:Str}(h:xs[j]?=some x):(numK xs)[j]?=some (Sum.inr x,.int (j:Nat)):=by
 unfold numK;rw[List.getElem?_map,List.getElem?_zipIdx,h];simp
theorem kE:∀{kvs:List (Key×V)} {j:Nat} {k:Key} {v:V},(kvs.map (·.1)).Nodup->kvs[j]?=some (k,v)->valV kvs k=some v
 | [],j,k,v,_,h=>by simp at h
 | p::r,0,k,v,_,h=>by
  simp at h;subst h;unfold valV;simp
 | p::r,j+1,k,v,nd,h=>by
  rw[map_cons,nodup_cons]at nd;have h':r[j]?=some (k,v):=by simpa using h
  have ne:p.1≠k:=fun e=>nd.1 (e▸mem_map.mpr ⟨(k,v),List.mem_of_getElem? h',rfl⟩)
  have ih:=kE nd.2 h';unfold valV at ih|-;rw[List.find?_cons,decide_eq_false ne];exact ih
theorem Yy{xs:List Str}(nd:xs.Nodup){j:Nat}{x:Str}(h:xs[j]?=some x):valV (numK xs) (Sum.inr x)=some (.int (j:Nat)):=
 kE (by rw[yi];exact pairwise_map.mpr (nd.imp fun h e=>h (Sum.inr.inj e))) (Wv h)
theorem YF{kvs:List (Key×V)}{k:Key}{v:V}(h:k∉kvs.map (·.1)):putK kvs k v=kvs++[(k,v)]:=by
 unfold putK;rw[if_neg];intro e;obtain⟨p,hp,hk⟩:=any_eq_true.mp e;exact h (mem_map.mpr ⟨p,hp,of_decide_eq_true hk⟩)
noncomputable def ixOf:List Str->Str->Nat
 | [],_=>0
 | y::r,x=>if y=x then 0 else ixOf r x+1
theorem qz:∀{xs:List Str} {j:Nat} {x:Str},xs.Nodup->xs[j]?=some x->ixOf xs x=j
 | [],j,x,_,h=>by simp at h
 | y::r,0,x,_,h=>by
  simp at h;subst h;exact if_pos rfl
 | y::r,j+1,x,nd,h=>by
  rw[nodup_cons]at nd;have h':r[j]?=some x:=by simpa using h
  have ne:y≠x:=fun e=>nd.1 (e▸List.mem_of_getElem? h')
  show(if y=x then 0 else ixOf r x+1)=j+1;rw[if_neg ne,qz nd.2 h']
noncomputable def nmsOf{α:Type}(ps:List (Str×α)):List Str:=ps.map (·.1)
noncomputable def inP(ps:List (Str×Fm))(f:Fm):List Nat:=f.ns.map (ixOf (nmsOf ps))
structure WfB(ls:List (Str×Int))(ps:List (Str×Fm)):Prop where
 ln:(nmsOf ls).Nodup
 l8:ls.length<=8
 pn:(nmsOf ps).Nodup
 p61:ps.length<=61
 f:∀(i:Nat) (p:Str×Fm),ps[i]?=some p->(∀x∈p.2.ns,∃j,j<i/\(nmsOf ps)[j]?=some x)/\p.2.ns.length<=8
 r:∀(i:Nat) (y x:Str) (h n:Int),ps[i]?=some (y,.rise x h n)->∃j:Nat,(nmsOf ls)[j]?=some x
theorem WfB.inP_lt{ls:List (Str×Int)}{ps:List (Str×Fm)}(W:WfB ls ps){i:Nat}{p:Str×Fm}(h:ps[i]?=some p){j:Nat}(hj:j∈inP ps p.2):j<i:=by
 obtain⟨x,hx,rfl⟩:=mem_map.mp hj;obtain⟨k,hk,e⟩:=(W.f i p h).1 x hx;rw[qz W.pn e];exact hk
theorem yh{m:Rr}(G:Good m){j:Nat}(h:j<m.parts.length):(nmsOf m.parts)[j]?=some (m.nm j):=by
 unfold nmsOf;rw[List.getElem?_map,List.getElem?_eq_getElem h];exact congrArg some (G.ps j _ (List.getElem?_eq_getElem h)).1
theorem Good.wf{m:Rr}(G:Good m)(h61:m.parts.length<=61):WfB m.limbs m.parts:=by
 have nmd:∀i j,i<m.parts.length->j<m.parts.length->m.nm i=m.nm j->i=j:=fun i j hi hj e=>getD_inj G.nd (by rw[G.nl];omega) (by rw[G.nl];omega) e
 refine⟨G.ln,G.l8,?_,h61,fun i p hp=>?_,fun i y x h n hp=>?_⟩
 ·refine pairwise_iff_getElem.mpr fun i j hi hj hij e=>?_
  have li:i<m.parts.length:=by simpa [nmsOf]using hi
  have lj:j<m.parts.length:=by simpa [nmsOf]using hj
  have ei:=yh G li;have ej:=yh G lj;rw[List.getElem?_eq_getElem hi]at ei;rw[List.getElem?_eq_getElem hj]at ej;have:=nmd i j li lj ((Option.some.inj ei).symm.trans (e.trans (Option.some.inj ej)));omega
 ·obtain⟨_,o⟩:=G.ps i p hp;have hi:=(List.getElem?_eq_some_iff.mp hp).1;have f:=o.f;generalize p.2=fm at f;cases fm with
  | hold n=>exact⟨(fun x h=>nomatch h),Nat.zero_le _⟩
  | ring x n=>exact⟨(fun x h=>nomatch h),Nat.zero_le _⟩
  | rise x v n=>exact⟨(fun x h=>nomatch h),Nat.zero_le _⟩
  | row ps=>
   obtain⟨is,⟨rfl,hlt⟩,h1,h2,_⟩:=f;refine⟨fun x hx=>?_,by show(is.map m.nm).length<=8;rw[length_map];exact h2⟩;obtain⟨j,hj,rfl⟩:=mem_map.mp (show x∈is.map m.nm from hx);exact⟨j,hlt j hj,yh G (by have:=hlt j hj;omega)⟩
  | side ps=>
   obtain⟨is,⟨rfl,hlt⟩,h1,h2,_⟩:=f;refine⟨fun x hx=>?_,by show(is.map m.nm).length<=8;rw[length_map];omega⟩;obtain⟨j,hj,rfl⟩:=mem_map.mp (show x∈is.map m.nm from hx);exact⟨j,hlt j hj,yh G (by have:=hlt j hj;omega)⟩
  | again k x=>
   obtain⟨h1,h2,j,hj,rfl,_⟩:=f;refine⟨fun y hy=>?_,by show 1<=8;decide⟩;have e:y=m.nm j:=mem_singleton.mp (show y∈[m.nm j]from hy);rw[e];exact⟨j,hj,yh G (by omega)⟩
 ·obtain⟨_,o⟩:=G.ps i _ hp;obtain⟨⟨j,v',hj,_⟩,_⟩:=o.f;exact⟨j,by unfold nmsOf;rw[List.getElem?_map,hj];rfl⟩
theorem JK{m:Rr}(G:Good m)(W:WfB m.limbs m.parts){is:List Nat}(h:∀j∈is,j<m.parts.length):(is.map m.nm).map (ixOf (nmsOf m.parts))=is:=by
 rw[List.map_map]
 conv=>rhs;rw[<-List.map_id is]
 exact map_congr_left fun j hj=>qz W.pn (yh G (h j hj))
inductive sp_numbers_of(vs:List V)(H:Hp)(Q:VK)(xk:XK):Prop
 | mk (l:Addr) (as:List Addr) (xs:List Str) (_:vs=[.ref l]) (_:H l=some (.lst (as.map V.ref))) (_:as.length=xs.length) (_:(∀(i:Nat) (a:Addr) (x:Str),as[i]?=some a->xs[i]?=some x->∃r,H a=some (.tup [.str x,r]))) (_:xs.Nodup) (_:xs.length<=100) (_:∀(d:Addr) (H':Hp),Same H H'->H d=none->H' d=some (.dK (numK xs))->Q (.ref d) H'):sp_numbers_of vs H Q xk
inductive sp_names_in(vs:List V)(H:Hp)(Q:VK)(xk:XK):Prop
 | mk (a:Addr) (f:Fm) (_:vs=[.ref a]) (_:FormAt H a f) (_:∀(b:Addr) (H':Hp),Same H H'->H' b=some (.tup (f.ns.map V.str))->Q (.ref b) H'):sp_names_in vs H Q xk
def ListsAt(H:Hp)(as:List Addr)(M:List (List Int)):Prop:=All2 (fun a ks=>H a=some (.lst (ks.map V.int))) as M
theorem All2.monoM{α:Type}{R S:Addr->α->Prop}{as:List Addr}{xs:List α}(h:All2 R as xs)(k:∀a∈as,∀x,R a x->S a x):All2 S as xs:=⟨h.1,fun i a x h1 h2=>k a (List.mem_of_getElem? h1) x (h.2 i a x h1 h2)⟩
inductive sp_inner(vs:List V)(H:Hp)(Q:VK)(xk:XK):Prop
 | mk (b pl pp:Addr) (las pas:List Addr) (ls:List (Str×Int)) (ps:List (Str×Fm)) (_:vs=[.ref b]) (_:BookAt H b pl pp las pas ls ps) (_:WfB ls ps) (_:∀(l:Addr) (as:List Addr) (H':Hp),Same H H'->H l=none->H' l=some (.lst (as.map V.ref))->(∀a∈as,H a=none)->ListsAt H' as (ps.map fun p=>(inP ps p.2).map fun j:Nat=>(j:Int))->Q (.ref l) H'):sp_inner vs H Q xk
def PrsAt(H:Hp)(bs:List Addr)(e:List (Int×Int)):Prop:=All2 (fun b q=>H b=some (.tup [.int q.1,.int q.2])) bs e
def EndsAt(H:Hp)(as:List Addr)(E:List (List (Int×Int))):Prop:=All2 (fun a e=>∃bs,H a=some (.lst (bs.map V.ref))/\PrsAt H bs e) as E
def LastIn(E:List (List (Int×Int)))(is:List Nat)(k v:Int):Prop:=∃pre j post,is=pre++j::post/\(k,v)∈E.getD j []/\∀j'∈post,∀v',(k,v')∉E.getD j' []
def EndIs(ls:List (Str×Int))(ps:List (Str×Fm))(E:List (List (Int×Int)))(f:Fm)(k v:Int):Prop:=LastIn E (inP ps f) k v\/∃x n,f = .rise x v n/\k=(ixOf (nmsOf ls) x:Nat)
def EndOk(ls:List (Str×Int))(ps:List (Str×Fm))(E:List (List (Int×Int))):Prop:=∀(i:Nat) (p:Str×Fm) (e:List (Int×Int)),ps[i]?=some p->E[i]?=some e->(e.map (·.1)).Pairwise (· < ·)/\∀k v,(k,v)∈e↔EndIs ls ps E p.2 k v
inductive sp_ends(vs:List V)(H:Hp)(Q:VK)(xk:XK):Prop
 | mk (b pl pp:Addr) (las pas:List Addr) (ls:List (Str×Int)) (ps:List (Str×Fm)) (_:vs=[.ref b]) (_:BookAt H b pl pp las pas ls ps) (_:WfB ls ps) (_:∀(l:Addr) (as:List Addr) (E:List (List (Int×Int))) (H':Hp),Same H H'->H l=none->H' l=some (.lst (as.map V.ref))->(∀a∈as,H a=none)->E.length=ps.length->EndsAt H' as E->EndOk ls ps E->Q (.ref l) H'):sp_ends vs H Q xk
def MovOk(ls:List (Str×Int))(ps:List (Str×Fm))(M:List (List Int)):Prop:=∀(i:Nat) (p:Str×Fm) (ks:List Int),ps[i]?=some p->M[i]?=some ks->ks.Pairwise (· < ·)/\∀k,k∈ks↔(∃j∈inP ps p.2,k∈M.getD j [])\/∃x h n,p.2 = .rise x h n/\k=(ixOf (nmsOf ls) x:Nat)
inductive sp_moved(vs:List V)(H:Hp)(Q:VK)(xk:XK):Prop
 | mk (b pl pp:Addr) (las pas:List Addr) (ls:List (Str×Int)) (ps:List (Str×Fm)) (_:vs=[.ref b]) (_:BookAt H b pl pp las pas ls ps) (_:WfB ls ps) (_:∀(l:Addr) (as:List Addr) (M:List (List Int)) (H':Hp),Same H H'->H l=none->H' l=some (.lst (as.map V.ref))->(∀a∈as,H a=none)->M.length=ps.length->ListsAt H' as M->MovOk ls ps M->Q (.ref l) H'):sp_moved vs H Q xk
theorem kD:∀{a b:List Int},a.Pairwise (· < ·)->b.Pairwise (· < ·)->(∀k,k∈a↔k∈b)->a=b
 | [],[],_,_,_=>rfl
 | [],y::s,_,_,h=>absurd ((h y).mpr mem_cons_self) (by simp)
 | x::r,[],_,_,h=>absurd ((h x).mp mem_cons_self) (by simp)
 | x::r,y::s,ha,hb,h=>by
  rw[pairwise_cons]at ha hb;have e:x=y:=by
   rcases mem_cons.mp ((h x).mp mem_cons_self)with q | q
   ·exact q
   ·rcases mem_cons.mp ((h y).mpr mem_cons_self)with q' | q'
    ·exact q'.symm
    ·have h1:=hb.1 x q;have h2:=ha.1 y q';omega
  subst e;congr 1;refine kD ha.2 hb.2 fun k=>⟨fun hk=>?_,fun hk=>?_⟩
  ·rcases mem_cons.mp ((h k).mp (mem_cons_of_mem _ hk))with q | q
   ·have:=ha.1 k hk;omega
   ·exact q
  ·rcases mem_cons.mp ((h k).mpr (mem_cons_of_mem _ hk))with q | q
   ·have:=hb.1 k hk;omega
   ·exact q
theorem zq{m:Rr}(G:Good m)(W:WfB m.limbs m.parts){M:List (List Int)}(hl:M.length=m.parts.length)(h:MovOk m.limbs m.parts M):∀i,i<m.parts.length->M.getD i []=m.hd i:=by
 intro i
 induction i using Nat.strongRecOn with
 | ind i ih=>
  intro hi;have ep:m.parts[i]?=some m.parts[i]:=List.getElem?_eq_getElem hi;have eM:M[i]?=some (M.getD i []):=by rw[getD_eq_getElem?_getD,List.getElem?_eq_getElem (by omega)];rfl
  obtain⟨a,b⟩:=h i _ _ ep eM;obtain⟨_,o⟩:=G.ps i _ ep;have hlt:=fun j=>W.inP_lt (j:=j) ep
  refine kD a o.o fun k=>(b k).trans ?_
  have f:=o.f;have key:(∃j∈inP m.parts (m.parts[i]).2,k∈M.getD j [])↔∃j∈inP m.parts (m.parts[i]).2,k∈m.hd j:=by
   constructor
   ·rintro⟨j,hj,hk⟩;exact⟨j,hj,by rw[<-ih j (hlt j hj) (by have:=hlt j hj;omega)];exact hk⟩
   ·rintro⟨j,hj,hk⟩;exact⟨j,hj,by rw[ih j (hlt j hj) (by have:=hlt j hj;omega)];exact hk⟩
  rw[key];generalize(m.parts[i]).2=fm at f|-;cases fm with
  | hold n=>
   have e:m.hd i=[]:=f.2.2.1;rw[e];simp[inP,Fm.ns]
  | ring x n=>
   have e:m.hd i=[]:=f.2.2.2.1;rw[e];simp[inP,Fm.ns]
  | rise x v n=>
   obtain⟨⟨j,v',hj,e⟩,_⟩:=f;rw[e];have ex:ixOf (nmsOf m.limbs) x=j:=qz W.ln (by unfold nmsOf;rw[List.getElem?_map,hj];rfl);constructor
   ·rintro(⟨j',hj',_⟩ | ⟨x',h',n',e1,e2⟩)
    ·exact nomatch hj'
    ·injection e1 with e1 _ _;subst e1;rw[e2,ex];exact mem_singleton.mpr rfl
   ·intro hk;exact .inr ⟨x,v,n,rfl,by rw[ex];exact mem_singleton.mp hk⟩
  | row ps=>
   obtain⟨is,⟨rfl,hlt'⟩,_,_,ks,_⟩:=f;rw[show inP m.parts (.row (is.map m.nm))=is from JK G W fun j hj=>by have:=hlt' j hj;omega];rw[ks k];exact⟨(fun q=>q.elim id (fun⟨_,_,_,e,_⟩=>(nomatch e))),Or.inl⟩
  | side ps=>
   obtain⟨is,⟨rfl,hlt'⟩,_,_,_,ks,_⟩:=f;rw[show inP m.parts (.side (is.map m.nm))=is from JK G W fun j hj=>by have:=hlt' j hj;omega];rw[ks k];exact⟨(fun q=>q.elim id (fun⟨_,_,_,e,_⟩=>(nomatch e))),Or.inl⟩
  | again n x=>
   obtain⟨_,_,j,hj,rfl,e,_⟩:=f;rw[show inP m.parts (.again n (m.nm j))=[j]from JK G W (is:=[j]) fun j' hj'=>by have:=mem_singleton.mp hj';omega];rw[e];constructor
   ·rintro(⟨j',hj',hk⟩ | ⟨_,_,_,e,_⟩)
    ·rw[mem_singleton.mp hj']at hk;exact hk
    ·exact nomatch e
   ·exact fun hk=>.inl ⟨j,mem_singleton.mpr rfl,hk⟩
theorem getD_map{E:List (List (Int×Int))}(j:Nat):(E.map fun e=>e.map (·.1)).getD j []=(E.getD j []).map (·.1):=by
 rw[getD_eq_getElem?_getD,getD_eq_getElem?_getD,List.getElem?_map];cases E[j]?<;>rfl
theorem QS{k:Int}{e:List (Int×Int)}:k∈e.map (·.1)↔∃v,(k,v)∈e:=by
 constructor
 ·intro h;obtain⟨p,hp,rfl⟩:=mem_map.mp h;exact⟨p.2,hp⟩
 ·rintro⟨v,h⟩;exact mem_map.mpr ⟨_,h,rfl⟩
theorem Zc{E:List (List (Int×Int))}{k:Int}:∀{is:List Nat},(∃v,LastIn E is k v)↔∃j∈is,∃v,(k,v)∈E.getD j []
 | []=>⟨fun⟨v,pre,j,post,e,_⟩=>by cases pre<;>simp at e,fun⟨j,h,_⟩=>by simp at h⟩
 | i::r=>by
  have ih:=Zc (E:=E) (k:=k) (is:=r);constructor
  ·rintro⟨v,pre,j,post,e,h1,h2⟩;exact⟨j,by rw[e];simp,v,h1⟩
  ·rintro⟨j,hj,v,hv⟩;by_cases q:∃j∈r,∃v,(k,v)∈E.getD j []
   ·obtain⟨v',pre,j',post,e,h1,h2⟩:=ih.mpr q;exact⟨v',i::pre,j',post,by rw[e];rfl,h1,h2⟩
   ·rcases mem_cons.mp hj with rfl | hj
    ·exact⟨v,[],j,r,rfl,hv,fun j' h' v' hv'=>q ⟨j',h',v',hv'⟩⟩
    ·exact absurd ⟨j,hj,v,hv⟩ q
theorem kf{ls:List (Str×Int)}{ps:List (Str×Fm)}{E:List (List (Int×Int))}(hl:E.length=ps.length)(h:EndOk ls ps E):MovOk ls ps (E.map fun e=>e.map (·.1)):=fun i p ks hp hk=>by
 rw[List.getElem?_map]at hk;obtain⟨e,he,rfl⟩:=Option.map_eq_some_iff.mp hk;obtain⟨a,b⟩:=h i p e hp he;refine⟨a,fun k=>?_⟩;rw[QS];constructor
 ·rintro⟨v,hv⟩;rcases(b k v).mp hv with z | ⟨x,n,e1,e2⟩
  ·obtain⟨j,hj,v',hv'⟩:=Zc.mp ⟨v,z⟩;exact .inl ⟨j,hj,by rw[getD_map];exact QS.mpr ⟨v',hv'⟩⟩
  ·exact .inr ⟨x,v,n,e1,e2⟩
 ·rintro(⟨j,hj,hk⟩ | ⟨x,h,n,e1,e2⟩)
  ·rw[getD_map]at hk;obtain⟨v',hv'⟩:=QS.mp hk;obtain⟨v,z⟩:=Zc.mpr ⟨j,hj,v',hv'⟩;exact⟨v,(b k v).mpr (.inl z)⟩
  ·exact⟨h,(b k h).mpr (.inr ⟨x,n,e1,e2⟩)⟩
theorem kS{xs:List Str}{x:Str}(h:x∈xs):ixOf xs x<xs.length:=by
 induction xs with
 | nil=>exact nomatch h
 | cons y r ih=>
  show(if y=x then 0 else ixOf r x+1)<r.length+1;split
  ·omega
  ·rename_i hne;rcases mem_cons.mp h with e | e
   ·exact absurd e.symm hne
   ·have:=ih e;omega
theorem Yi{ls:List (Str×Int)}{ps:List (Str×Fm)}(W:WfB ls ps){E:List (List (Int×Int))}(hl:E.length<=ps.length)(h:EndOk ls ps E):∀(i:Nat),∀q∈E.getD i [],0<=q.1/\q.1<(ls.length:Int):=by
 intro i
 induction i using Nat.strongRecOn with
 | ind i ih=>
  intro q hq;rw[getD_eq_getElem?_getD]at hq;cases e:E[i]? with
  | none=>rw[e]at hq;exact nomatch hq
  | some ev=>
   rw[e]at hq;have hi:=(List.getElem?_eq_some_iff.mp e).1;have ep:ps[i]?=some ps[i]:=List.getElem?_eq_getElem (by omega);obtain⟨_,b⟩:=h i _ ev ep e;rcases(b q.1 q.2).mp hq with⟨pre,j,post,e1,e2,_⟩ | ⟨x,n,e1,e2⟩
   ·exact ih j (W.inP_lt ep (by rw[e1];simp)) _ e2
   ·have ep':ps[i]?=some (ps[i].1,.rise x q.2 n):=by rw[ep,<-e1]
    obtain⟨j,hj⟩:=W.r i _ _ _ _ ep';have h3:=kS (List.mem_of_getElem? hj);have h4:(nmsOf ls).length=ls.length:=length_map _;rw[e2];omega
theorem Zr{ls:List (Str×Int)}{ps:List (Str×Fm)}(W:WfB ls ps){E:List (List (Int×Int))}(hl:E.length<=ps.length)(h:EndOk ls ps E){i:Nat}{e:List (Int×Int)}(he:E[i]?=some e):e.length<=8:=by
 have hi:=(List.getElem?_eq_some_iff.mp he).1;have a:=(h i _ e (List.getElem?_eq_getElem (by omega)) he).1;have b:=Yi W hl h i;rw[getD_eq_getElem?_getD,he]at b;have z:=zJ (ks:=e.map (·.1)) (lo:=0) (hi:=ls.length) a fun k hk=>by
  obtain⟨q,hq,rfl⟩:=mem_map.mp hk;exact b q hq
 rw[length_map]at z;have:=W.l8;omega
noncomputable def putI(kvs:List (Int×Int))(k v:Int):List (Int×Int):=if k∈kvs.map (·.1)then kvs.map (fun q=>if q.1=k then(q.1,v)else q)else kvs++[(k,v)]
noncomputable def mergeI(kvs more:List (Int×Int)):List (Int×Int):=more.foldl (fun acc q=>putI acc q.1 q.2) kvs
theorem wE(kvs:List (Int×Int))(k v:Int):putK (kvs.map iiK) (Sum.inl k) (.int v)=(putI kvs k v).map iiK:=by
 have e:(((kvs.map iiK).any fun kv=>decide (kv.1=(Sum.inl k:Key)))=true)↔k∈kvs.map (·.1):=by
  rw[List.any_map,any_eq_true];constructor
  ·rintro⟨q,hq,h⟩;have h':(Sum.inl q.1:Key)=Sum.inl k:=of_decide_eq_true h;exact mem_map.mpr ⟨q,hq,Sum.inl.inj h'⟩
  ·intro h;obtain⟨q,hq,rfl⟩:=mem_map.mp h;exact⟨q,hq,decide_eq_true rfl⟩
 unfold putK putI;by_cases c:k∈kvs.map (·.1)
 ·rw[if_pos (e.mpr c),if_pos c,List.map_map,List.map_map];refine map_congr_left fun q _=>?_
  show(if(Sum.inl q.1:Key)=Sum.inl k then _ else _)=iiK (if q.1=k then(q.1,v)else q);by_cases z:q.1=k
  ·rw[if_pos z,if_pos (by rw[z])];rfl
  ·rw[if_neg z,if_neg (fun w=>z (Sum.inl.inj w))]
 ·rw[if_neg (fun w=>c (e.mp w)),if_neg c,map_append];rfl
theorem Q4:∀(more kvs:List (Int×Int)),mergeK (kvs.map iiK) (more.map iiK)=(mergeI kvs more).map iiK
 | [],kvs=>rfl
 | q::r,kvs=>by
  show mergeK (putK (kvs.map iiK) (Sum.inl q.1) (.int q.2)) (r.map iiK)=(mergeI (putI kvs q.1 q.2) r).map iiK;rw[wE,Q4 r]
theorem KH(kvs:List (Int×Int))(k v:Int)(nd:(kvs.map (·.1)).Nodup):((putI kvs k v).map (·.1)).Nodup:=by
 unfold putI;split
 ·rw[List.map_map];have e:kvs.map ((fun x=>x.1)∘fun q=>if q.1=k then(q.1,v)else q)=kvs.map (·.1):=map_congr_left fun q _=>by
   show(if q.1=k then(q.1,v)else q).1=q.1;split<;>rfl
  rw[e];exact nd
 ·rename_i c;rw[map_append,nodup_append];exact⟨nd,pairwise_singleton _ _,fun a ha b hb e=>c (by rw[show k=b from(mem_singleton.mp hb).symm,<-e];exact ha)⟩
theorem wt{kvs:List (Int×Int)}{k v a b:Int}:(a,b)∈putI kvs k v↔(a=k/\b=v)\/(a≠k/\(a,b)∈kvs):=by
 unfold putI;split
 ·rename_i c;rw[mem_map];constructor
  ·rintro⟨q,hq,e⟩;by_cases z:q.1=k
   ·rw[if_pos z]at e;cases e;exact .inl ⟨z,rfl⟩
   ·rw[if_neg z]at e;subst e;exact .inr ⟨z,hq⟩
  ·rintro(⟨rfl,rfl⟩ | ⟨h1,h2⟩)
   ·obtain⟨q,hq,e⟩:=mem_map.mp c;exact⟨q,hq,by rw[if_pos e,e]⟩
   ·exact⟨(a,b),h2,by rw[if_neg h1]⟩
 ·rename_i c;rw[mem_append];constructor
  ·rintro(h | h)
   ·exact .inr ⟨fun e=>c (e▸mem_map.mpr ⟨(a,b),h,rfl⟩),h⟩
   ·cases mem_singleton.mp h;exact .inl ⟨rfl,rfl⟩
  ·rintro(⟨rfl,rfl⟩ | ⟨_,h⟩)
   ·exact .inr (mem_singleton.mpr rfl)
   ·exact .inl h
theorem yg:∀{more kvs:List (Int×Int)},(kvs.map (·.1)).Nodup->(more.map (·.1)).Nodup->((mergeI kvs more).map (·.1)).Nodup/\∀k v,(k,v)∈mergeI kvs more↔(k,v)∈more\/((∀v',(k,v')∉more)/\(k,v)∈kvs)
 | [],kvs,nd,_=>⟨nd,fun k v=>⟨fun h=>.inr ⟨(fun _ h=>nomatch h),h⟩,fun h=>h.elim (fun h=>nomatch h) (·.2)⟩⟩
 | q::r,kvs,nd,nm=>by
  rw[map_cons,nodup_cons]at nm;obtain⟨a,b⟩:=yg (more:=r) (kvs:=putI kvs q.1 q.2) (KH _ _ _ nd) nm.2;refine⟨a,fun k v=>(b k v).trans ?_⟩;rw[wt];have nq:∀v',(q.1,v')∉r:=fun v' h=>nm.1 (mem_map.mpr ⟨_,h,rfl⟩)
  constructor
  ·rintro(h | ⟨h1,⟨rfl,rfl⟩ | ⟨h2,h3⟩⟩)
   ·exact .inl (mem_cons_of_mem _ h)
   ·exact .inl mem_cons_self
   ·refine .inr ⟨fun v' hv=>?_,h3⟩;rcases mem_cons.mp hv with e | e
    ·exact h2 (by rw[<-e])
    ·exact h1 v' e
  ·rintro(h | ⟨h1,h2⟩)
   ·rcases mem_cons.mp h with e | e
    ·refine .inr ⟨fun v' hv=>?_,.inl ⟨by rw[<-e],by rw[<-e]⟩⟩;rw[<-e]at nq;exact nq v' hv
    ·exact .inl e
   ·refine .inr ⟨fun v' hv=>h1 v' (mem_cons_of_mem _ hv),.inr ⟨fun e=>?_,h2⟩⟩;exact h1 q.2 (by rw[e];exact mem_cons_self)
theorem ke{ms:List (Int×Int)}(nd:(ms.map (·.1)).Nodup):mergeI [] ms=ms:=by
 have e:∀(r acc:List (Int×Int)),((acc++r).map (·.1)).Nodup->mergeI acc r=acc++r:=by
  intro r
  induction r with
  | nil=>intro acc _;exact(append_nil _).symm
  | cons q r ih=>
   intro acc nd;have c:q.1∉acc.map (·.1):=fun h=>by
    rw[map_append,nodup_append]at nd;exact nd.2.2 q.1 h q.1 (by simp) rfl
   show mergeI (putI acc q.1 q.2) r=_;unfold putI;rw[if_neg c,ih (acc++[(q.1,q.2)]) (by rw[List.append_assoc];exact nd),List.append_assoc];rfl
 exact e ms [] nd
theorem Qi{E:List (List (Int×Int))}{is:List Nat}{j:Nat}{k v:Int}:LastIn E (is++[j]) k v↔(k,v)∈E.getD j []\/((∀v',(k,v')∉E.getD j [])/\LastIn E is k v):=by
 constructor
 ·rintro⟨pre,i,post,e,h1,h2⟩;rcases List.eq_nil_or_concat post with rfl | ⟨post',x,rfl⟩
  ·have e':=List.append_inj' (show is++[j]=pre++[i]from e) rfl;have ej:j=i:=by simpa using e'.2
   rw[ej];exact .inl h1
  ·have e2:is++[j]=(pre++i::post')++[x]:=by rw[e];simp
   have e':=List.append_inj' e2 rfl;have ej:j=x:=by simpa using e'.2
   subst ej;exact .inr ⟨h2 j (by simp),pre,i,post',e'.1,h1,fun j' hj'=>h2 j' (by simp[hj'])⟩
 ·rintro(h | ⟨h1,pre,i,post,e,h2,h3⟩)
  ·exact⟨is,j,[],rfl,h,(fun _ h=>nomatch h)⟩
  ·refine⟨pre,i,post++[j],by rw[e];simp,h2,fun j' hj' v'=>?_⟩;rcases mem_append.mp hj' with z | z
   ·exact h3 j' z v'
   ·rw[mem_singleton.mp z];exact h1 v'
theorem Yl{E E':List (List (Int×Int))}{is:List Nat}(h:∀j∈is,E.getD j []=E'.getD j []){k v:Int}:LastIn E is k v->LastIn E' is k v:=by
 rintro⟨pre,j,post,e,h1,h2⟩;refine⟨pre,j,post,e,by rw[<-h j (by rw[e];simp)];exact h1,fun j' hj'=>?_⟩;rw[<-h j' (by rw[e];simp[hj'])];exact h2 j' hj'
theorem EndOk.snoc{ls:List (Str×Int)}{ps:List (Str×Fm)}(W:WfB ls ps){E:List (List (Int×Int))}{p:Str×Fm}{e:List (Int×Int)}(h:EndOk ls ps E)(hp:ps[E.length]?=some p)(h1:(e.map (·.1)).Pairwise (· < ·))
  (h2:∀k v,(k,v)∈e↔EndIs ls ps E p.2 k v):EndOk ls ps (E++[e]):=fun i q f hq hf=>by
 have hle:i<=E.length:=by
  have:=(List.getElem?_eq_some_iff.mp hf).1;rw[List.length_append]at this;exact Nat.le_of_lt_succ this
 have ext:∀j∈inP ps q.2,E.getD j []=(E++[e]).getD j []:=fun j hj=>(getD_snoc (by have:=W.inP_lt hq hj;omega)).symm
 have iff:∀k v,EndIs ls ps E q.2 k v↔EndIs ls ps (E++[e]) q.2 k v:=fun k v=>by
  unfold EndIs;exact⟨fun h=>h.imp (Yl ext) id,fun h=>h.imp (Yl fun j hj=>(ext j hj).symm) id⟩
 by_cases hi:i<E.length
 ·rw[List.getElem?_append_left hi]at hf;obtain⟨a,b⟩:=h i q f hq hf;exact⟨a,fun k v=>(b k v).trans (iff k v)⟩
 ·have ei:i=E.length:=by omega
  subst ei;rw[List.getElem?_append_right (Nat.le_refl _),Nat.sub_self]at hf;have ef:e=f:=by simpa using hf
  subst ef;rw[hp]at hq;cases hq;exact⟨h1,fun k v=>(h2 k v).trans (iff k v)⟩
theorem we{H:Hp}{a:Addr}{f:Fm}(h:FormAt H a f)(hn:∀x v n,f≠.rise x v n):∃k xs,H a=some (.tup (.str k::xs))/\decide (k=("raise" : Str))=false:=by
 cases f with
 | hold n=>exact⟨_,_,h,by decide +kernel⟩
 | ring x n=>exact⟨_,_,h,by decide +kernel⟩
 | rise x v n=>exact absurd rfl (hn x v n)
 | row ps=>obtain⟨b,h1,_⟩:=h;exact⟨_,_,h1,by decide +kernel⟩
 | side ps=>obtain⟨b,h1,_⟩:=h;exact⟨_,_,h1,by decide +kernel⟩
 | again k x=>exact⟨_,_,h,by decide +kernel⟩
noncomputable def kv0(ls:List (Str×Int)):Fm->List (Int×Int)
 | .rise x h _=>[((ixOf (nmsOf ls) x:Nat),h)]
 | _=>[]
theorem Wk{ls:List (Str×Int)}{f:Fm}(hn:∀x v n,f≠.rise x v n):kv0 ls f=[]:=by
 cases f with
 | rise x v n=>exact absurd rfl (hn x v n)
 | _=>rfl
theorem yP{ls:List (Str×Int)}{f:Fm}{k v:Int}:(k,v)∈kv0 ls f↔∃x n,f = .rise x v n/\k=(ixOf (nmsOf ls) x:Nat):=by
 cases f with
 | rise x h n=>
  constructor
  ·intro hk;cases mem_singleton.mp hk;exact⟨x,n,rfl,rfl⟩
  ·rintro⟨x',n',e,rfl⟩;injection e with e1 e2 e3;subst e1 e2;exact mem_singleton.mpr rfl
 | _=>exact⟨(fun h=>nomatch h),fun⟨_,_,e,_⟩=>nomatch e⟩
theorem xf{ps:List (Str×Fm)}{ls:List (Str×Int)}(f:Fm):inP ps f=[]\/kv0 ls f=[]:=by
 cases f with
 | rise x h n=>exact .inl rfl
 | _=>exact .inr rfl
theorem xg{ls:List (Str×Int)}(f:Fm):((kv0 ls f).map (·.1)).Nodup:=by
 cases f with
 | rise x h n=>exact pairwise_singleton _ _
 | _=>exact .nil
inductive sp_check_side(vs:List V)(H:Hp)(Q:VK)(xk:XK):Prop
 | mk (r:Int) (l ll:Addr) (as las:List Addr) (M:List (List Int)) (_:vs=[.int r,.ref l,.ref ll]) (_:H l=some (.lst (as.map V.ref))) (_:ListsAt H as M) (_:(∀ks∈M,ks≠[])) (_:M.length<=8) (_:H ll=some (.lst (las.map V.ref))) (_:(∀k:Int,(M.filter fun ks=>decide (k∈ks)).length<=1)) (_:∀H',Same H H'->Q .non H'):sp_check_side vs H Q xk
noncomputable def LenIs:Fm->List Int->Int->Prop
 | .hold n,_,g=>g=n
 | .ring _ n,_,g=>g=n
 | .rise _ _ n,_,g=>g=n
 | .row _,gs,g=>g=gs.sum
 | .side _,gs,g=>g∈gs/\∀x∈gs,x<=g
 | .again k _,gs,g=>∃y,gs.head?=some y/\g=k*y
noncomputable def LenPre:Fm->List Int->Prop
 | .side _,gs=>gs≠[]
 | .again k _,gs=>∃y r,gs=y::r/\0<=k/\k<=10^18/\0<=y/\y<=10^60
 | _,_=>True
inductive sp_length_of(vs:List V)(H:Hp)(Q:VK)(xk:XK):Prop
 | mk (a l:Addr) (f:Fm) (gs:List Int) (_:vs=[.ref a,.ref l]) (_:FormAt H a f) (_:H l=some (.lst (gs.map V.int))) (_:LenPre f gs) (_:∀g,LenIs f gs g->Q (.int g) H):sp_length_of vs H Q xk
structure Snd(ls:List (Str×Int))(ps:List (Str×Fm))(gs:List Int)(hs:List (List Int)):Prop where
 w:WfB ls ps
 gl:gs.length=ps.length
 gb:∀i,i<ps.length->0<=gs.getD i 0/\gs.getD i 0<=10^60
 mv:∀M:List (List Int),M.length=ps.length->MovOk ls ps M->∀i,i<ps.length->M.getD i []=hs.getD i []
 ln:∀(i:Nat) (p:Str×Fm),ps[i]?=some p->LenPre p.2 ((inP ps p.2).map fun j=>gs.getD j 0)/\∀g,LenIs p.2 ((inP ps p.2).map fun j=>gs.getD j 0) g->g=gs.getD i 0
 sd:∀(i:Nat) (p:Str×Fm) (qs:List Str),ps[i]?=some p->p.2 = .side qs->(∀j∈inP ps p.2,hs.getD j []≠[])/\∀k:Int,(((inP ps p.2).map fun j=>hs.getD j []).filter fun ks=>decide (k∈ks)).length<=1
inductive sp_lengths(vs:List V)(H:Hp)(Q:VK)(xk:XK):Prop
 | mk (b pl pp:Addr) (las pas:List Addr) (ls:List (Str×Int)) (ps:List (Str×Fm)) (gs:List Int) (hs:List (List Int)) (_:vs=[.ref b]) (_:BookAt H b pl pp las pas ls ps) (_:Snd ls ps gs hs) (_:∀(l:Addr) (H':Hp),Same H H'->H l=none->H' l=some (.lst (gs.map V.int))->Q (.ref l) H'):sp_lengths vs H Q xk
theorem wd{m:Rr}(G:Good m)(W:WfB m.limbs m.parts){i:Nat}{p:Str×Fm}(hp:m.parts[i]?=some p):(∀ps,p.2 = .row ps->∃is,Idx m i is ps/\inP m.parts p.2=is)/\(∀ps,p.2 = .side ps->∃is,Idx m i is ps/\inP m.parts p.2=is/\2<=is.length/\is.length<=4/\Apart m is):=by
 have hi:=(List.getElem?_eq_some_iff.mp hp).1;obtain⟨_,o⟩:=G.ps i p hp;have f:=o.f;generalize p.2=fm at f|-;refine⟨fun ps e=>?_,fun ps e=>?_⟩
 ·subst e;obtain⟨is,hx,_⟩:=f;refine⟨is,hx,?_⟩;obtain⟨rfl,hlt⟩:=hx;exact JK G W fun j hj=>by have:=hlt j hj;omega
 ·subst e;obtain⟨is,hx,h1,h2,h3,_⟩:=f;refine⟨is,hx,?_,h1,h2,h3⟩;obtain⟨rfl,hlt⟩:=hx;exact JK G W fun j hj=>by have:=hlt j hj;omega
theorem wk{m:Rr}(G:Good m)(W:WfB m.limbs m.parts){i:Nat}{p:Str×Fm}(hp:m.parts[i]?=some p):LenPre p.2 ((inP m.parts p.2).map m.lg)/\∀g,LenIs p.2 ((inP m.parts p.2).map m.lg) g->g=m.lg i:=by
 have hi:=(List.getElem?_eq_some_iff.mp hp).1;obtain⟨_,o⟩:=G.ps i p hp;have f:=o.f;generalize p.2=fm at f|-;cases fm with
 | hold n=>exact⟨trivial,fun g h=>h.trans f.2.2.2.symm⟩
 | ring x n=>exact⟨trivial,fun g h=>h.trans f.2.2.2.2.symm⟩
 | rise x v n=>exact⟨trivial,fun g h=>h.trans f.2.2.2.2.2.symm⟩
 | row ps=>
  obtain⟨is,⟨rfl,hlt⟩,_,_,_,e⟩:=f;rw[show inP m.parts (.row (is.map m.nm))=is from JK G W fun j hj=>by have:=hlt j hj;omega];exact⟨trivial,fun g h=>h.trans e.symm⟩
 | side ps=>
  obtain⟨is,⟨rfl,hlt⟩,h1,_,_,_,⟨j,hj,ej⟩,hmax⟩:=f;rw[show inP m.parts (.side (is.map m.nm))=is from JK G W fun j hj=>by have:=hlt j hj;omega];refine⟨fun e=>?_,fun g h=>?_⟩
  ·have z:is.length=0:=by rw[<-length_map (f:=m.lg),e];rfl
   omega
  ·obtain⟨a,b⟩:=h;obtain⟨j',hj',rfl⟩:=mem_map.mp a;have q1:=hmax j' hj';have q2:=b (m.lg j) (mem_map.mpr ⟨j,hj,rfl⟩);omega
 | again k x=>
  obtain⟨k1,k2,j,hj,rfl,_,e⟩:=f;rw[show inP m.parts (.again k (m.nm j))=[j]from JK G W (is:=[j]) fun j' hj'=>by have:=mem_singleton.mp hj';omega];have lj:=Yo G (show j<m.parts.length by omega);refine⟨⟨m.lg j,[],rfl,by omega,k2,by omega,lj.2⟩,fun g h=>?_⟩;obtain⟨y,hy,rfl⟩:=h;cases hy;exact e.symm
theorem Z0{m:Rr}{k:Int}:∀{is:List Nat},is.Pairwise (fun a b=>∀k∈m.hd a,¬k∈m.hd b)->((is.map m.hd).filter fun ks=>decide (k∈ks)).length<=1
 | [],_=>Nat.zero_le _
 | i::r,h=>by
  rw[pairwise_cons]at h;have ih:=Z0 (k:=k) h.2;rw[map_cons,filter_cons];split
  ·rename_i c;have e:(r.map m.hd).filter (fun ks=>decide (k∈ks))=[]:=by
    rw[List.filter_eq_nil_iff];intro ks hks;obtain⟨j,hj,rfl⟩:=mem_map.mp hks;have:=h.1 j hj k (of_decide_eq_true c);simpa using this
   rw[e];exact Nat.le_refl _
  ·exact ih
theorem any_empty{M:List (List Int)}(h:∀ks∈M,ks≠[]):(M.any fun ks=>decide (ks=[]))=false:=by
 rw[List.any_eq_false];intro ks hks;simpa using h ks hks
theorem Wi{gs:List Int}{i:Nat}(h:i<gs.length):gs.take (i+1)=gs.take i++[gs.getD i 0]:=by
 refine take_snoc ?_;rw[getD_eq_getElem?_getD,List.getElem?_eq_getElem h];rfl
theorem xN{gs:List Int}{i j:Nat}(hi:i<=gs.length)(hj:j<i):atI ((gs.take i).map V.int) (j:Int)=some (.int (gs.getD j 0)):=by
 refine qh ?_;rw[List.getElem?_map,List.getElem?_take,if_pos hj,getD_eq_getElem?_getD,List.getElem?_eq_getElem (by omega)];rfl
theorem Good.snd{m:Rr}(G:Good m)(h61:m.parts.length<=61):Snd m.limbs m.parts m.longs m.hands:=by
 have W:=G.wf h61;refine⟨W,G.gl,fun i hi=>?_,fun M hl h=>zq G W hl h,fun i p hp=>wk G W hp,fun i p qs hp e=>?_⟩
 ·have:=Yo G hi;unfold Rr.lg at this;omega
 ·obtain⟨is,_,ein,_,_,ap⟩:=(wd G W hp).2 qs e;rw[ein];exact⟨ap.1,fun k=>Z0 ap.2⟩
noncomputable def prD(q:Int×Int):PyData:=.tuple [.int q.1,.int q.2]
theorem xJ{H:Hp}{b:Addr}{q:Int×Int}(h:H b=some (.tup [.int q.1,.int q.2])):DV H (.ref b) (prD q):=.tup h (.cons (.int _) (.cons (.int _) .nil))
theorem yE{H:Hp}:∀{bs:List Addr} {e:List (Int×Int)},PrsAt H bs e->DVs H (bs.map V.ref) (e.map prD)
 | [],[],_=>.nil
 | [],_::_,h=>absurd h.1 (by simp)
 | _::_,[],h=>absurd h.1 (by simp)
 | b::bs,q::e,h=>.cons (xJ (All2.tail h).1) (yE (All2.tail h).2)
end Rm
namespace L2
open PySem PySem.Spec PyProof.Rows
theorem ZK{xs:List Nat}(up:xs.Pairwise (· < ·)){i j v w:Nat}(hi:xs[i]?=some v)(hj:xs[j]?=some w)(h:i<j):v<w:=by
 obtain⟨li,rfl⟩:=List.getElem?_eq_some_iff.mp hi;obtain⟨lj,rfl⟩:=List.getElem?_eq_some_iff.mp hj;exact pairwise_iff_getElem.mp up i j li lj h
theorem Zl{xs:Array Nat}{j:Nat}(up:xs.toList.Pairwise (· < ·)):∀(f lo hi:Nat),lo<=hi->hi<=xs.size->hi-lo<=f->(∀i v,i<lo->xs.toList[i]?=some v->v<j)->(∀i v,hi<=i->xs.toList[i]?=some v->j<=v)->
  SetTable.below.go xs j f lo hi<=xs.size/\(∀i v,i<SetTable.below.go xs j f lo hi->xs.toList[i]?=some v->v<j)/\∀i v,SetTable.below.go xs j f lo hi<=i->xs.toList[i]?=some v->j<=v
 | 0,lo,hi,h1,h2,h3,a,b=>by
  have e:lo=hi:=by omega
  subst e;unfold SetTable.below.go;exact⟨h2,a,b⟩
 | f+1,lo,hi,h1,h2,h3,a,b=>by
  have eg:SetTable.below.go xs j (f+1) lo hi=if lo<hi then(if xs.getD ((lo+hi)/2) j<j then SetTable.below.go xs j f ((lo+hi)/2+1) hi else SetTable.below.go xs j f lo ((lo+hi)/2))else lo:=rfl
  by_cases hlt:lo<hi
  ·have hm:(lo+hi)/2<xs.size:=by omega
   have em:xs.toList[(lo+hi)/2]?=some (xs.getD ((lo+hi)/2) j):=by
    rw[Array.getElem?_toList,Array.getElem?_eq_getElem hm];simp[Array.getD,hm]
   rw[if_pos hlt]at eg;by_cases c:xs.getD ((lo+hi)/2) j<j
   ·rw[if_pos c]at eg;rw[eg];refine Zl up f ((lo+hi)/2+1) hi (by omega) h2 (by omega) (fun i v hi' hv=>?_) b;rcases Nat.lt_or_ge i ((lo+hi)/2)with z | z
    ·exact Nat.lt_trans (ZK up hv em z) c
    ·have:i=(lo+hi)/2:=by omega
     subst this;rw[em]at hv;exact Option.some.inj hv▸c
   ·rw[if_neg c]at eg;rw[eg];refine Zl up f lo ((lo+hi)/2) (by omega) (by omega) (by omega) a fun i v hi' hv=>?_
    rcases Nat.lt_or_ge ((lo+hi)/2) i with z | z
    ·have:=ZK up em hv z;omega
    ·have:i=(lo+hi)/2:=by omega
     subst this;rw[em]at hv;have:=Option.some.inj hv;omega
  ·rw[if_neg hlt]at eg;rw[eg];have e:lo=hi:=by omega
   subst e;exact⟨h2,a,b⟩
theorem QA{xs:Array Nat}(up:xs.toList.Pairwise (· < ·))(j:Nat):SetTable.below xs j<=xs.size/\(∀i v,i<SetTable.below xs j->xs.toList[i]?=some v->v<j)/\∀i v,SetTable.below xs j<=i->xs.toList[i]?=some v->j<=v:=
 Zl up xs.size 0 xs.size (Nat.zero_le _) (Nat.le_refl _) (by omega) (fun i v h=>absurd h (Nat.not_lt_zero _)) fun i v h hv=>by
  have:=(List.getElem?_eq_some_iff.mp hv).1;rw[Array.length_toList]at this;omega
structure STb(led:Bool)(n:Nat)(t:SetTable):Prop where
 mask:t.mask=7
 dm:t.dummies = #[]
 ld:t.led=led
 plain:t.plain=true
 up:t.place.toList.Pairwise (· < ·)
 le:∀x∈t.place.toList,x<8
 sz:t.place.size=n
theorem STb.fresh(led:Bool):STb led 0 (.fresh 0 0 led):=⟨rfl,rfl,rfl,rfl,.nil,(fun x h=>nomatch h),rfl⟩
section
variable{led:Bool}{n:Nat}{t:SetTable}
theorem STb.slot(T:STb led n t)(j:Nat):(j∈t.place.toList/\∃i,t.slot j = .live i)\/(j∉t.place.toList/\t.slot j = .empty):=by
 obtain⟨b0,b1,b2⟩:=QA T.up j;unfold SetTable.slot;by_cases c:t.place[SetTable.below t.place j]?=some j
 ·refine .inl ⟨?_,SetTable.below t.place j,?_⟩
  ·rw[<-Array.getElem?_toList]at c;exact List.mem_of_getElem? c
  ·dsimp only;rw[if_pos (by rw[c];exact beq_self_eq_true _)]
 ·refine .inr ⟨fun hm=>c ?_,?_⟩
  ·obtain⟨i,hi⟩:=List.getElem?_of_mem hm;rcases Nat.lt_trichotomy i (SetTable.below t.place j)with z | z | z
   ·exact absurd (b1 i j z hi) (Nat.lt_irrefl _)
   ·rw[<-Array.getElem?_toList,<-z];exact hi
   ·have hl:=(List.getElem?_eq_some_iff.mp hi).1;have e:t.place.toList[SetTable.below t.place j]?=some (t.place.toList[SetTable.below t.place j]'(by omega)):=List.getElem?_eq_getElem _;have:=b2 _ _ (Nat.le_refl _) e;have:=ZK T.up e hi z;omega
  ·dsimp only;rw[if_neg (by rw[beq_iff_eq];exact c),T.dm];rfl
noncomputable def lp(j:Nat):Nat->Nat
 | 0=>j
 | k+1=>lp ((j*5+1)%8) k
theorem xm:∀j,j<8->∀m,m<8->∃k,k<8/\lp j k=m:=by decide
theorem STb.adv(T:STb led n t){p:SetTable.Probe}(hm:p.more=0):t.advance p={p with j:=(p.i*5+1+p.perturb/32)%8,more:=0,i:=(p.i*5+1+p.perturb/32)%8,perturb:=p.perturb/32}:=by
 unfold SetTable.advance;rw[if_neg (by omega),T.mask];have h8:(p.i*5+1+p.perturb/32)%8<8:=Nat.mod_lt _ (by decide);have e:SetTable.runEnd 7 ((p.i*5+1+p.perturb/32)%8)=(p.i*5+1+p.perturb/32)%8:=by
  unfold SetTable.runEnd;rw[if_neg (by omega)]
 unfold SetTable.leap;simp only[show(7:Nat)+1=8 from rfl];rw[e,Nat.sub_self]
abbrev PbOk(p:SetTable.Probe):Prop:=p.more=0/\p.i=p.j/\p.j<8/\p.dummy=none
theorem STb.go_live(T:STb led n t){h:Int}{f:Nat}{p:SetTable.Probe}(hp:PbOk p)(hl:∃i,t.slot p.j = .live i) :
  ∃q,PbOk q/\q.perturb=p.perturb/32/\q.j=(p.j*5+1+p.perturb/32)%8/\SetTable.probe.go t (fun _=>h+1) h (f+1) p=SetTable.probe.go t (fun _=>h+1) h f q:=by
 obtain⟨i,hi⟩:=hl;refine⟨t.advance p,?_⟩;rw[T.adv hp.1];refine⟨⟨rfl,rfl,Nat.mod_lt _ (by decide),hp.2.2.2⟩,rfl,by rw[<-hp.2.1],?_⟩;rw[SetTable.probe.go,hi];dsimp only;rw[if_neg (by rw[beq_iff_eq];omega),T.adv hp.1]
theorem STb.go_empty{h:Int}{f:Nat}{p:SetTable.Probe}(hp:PbOk p)(he:t.slot p.j = .empty):SetTable.probe.go t (fun _=>h+1) h (f+1) p=some (.empty p.j none):=by
 rw[SetTable.probe.go,he];dsimp only;rw[hp.2.2.2]
theorem STb.go0(T:STb led n t){h:Int}:∀(k f:Nat) (p:SetTable.Probe),PbOk p->p.perturb=0->k<f->t.slot (lp p.j k) = .empty->∃j,j<8/\t.slot j = .empty/\SetTable.probe.go t (fun _=>h+1) h f p=some (.empty j none)
 | _,0,_,_,_,hf,_=>absurd hf (Nat.not_lt_zero _)
 | 0,f+1,p,hp,_,_,he=>⟨p.j,hp.2.2.1,he,STb.go_empty hp he⟩
 | k+1,f+1,p,hp,h0,hf,he=>by
  rcases T.slot p.j with⟨_,hl⟩ | ⟨_,z⟩
  ·obtain⟨q,hq,e1,e2,e3⟩:=T.go_live (h:=h) (f:=f) hp hl;rw[e3];rw[h0]at e1 e2;exact STb.go0 T k f q hq e1 (by omega) (by rw[e2];exact he)
  ·exact⟨p.j,hp.2.2.1,z,STb.go_empty hp z⟩
theorem STb.some_empty(T:STb led n t)(h4:n<=7):∃m,m<8/\t.slot m = .empty:=by
 apply Classical.byContradiction;intro no;have all:∀m∈List.range 8,m∈t.place.toList:=fun m hm=>by
  rcases T.slot m with⟨z,_⟩ | ⟨_,z⟩
  ·exact z
  ·exact absurd ⟨m,mem_range.mp hm,z⟩ no
 have:=(List.nodup_range (n:=8)).length_le_of_subset all;rw[length_range,Array.length_toList,T.sz]at this;omega
theorem STb.goK(T:STb led n t)(h4:n<=7){h:Int}:∀(k f:Nat) (p:SetTable.Probe),PbOk p->p.perturb<32^k->k+9<=f->∃j,j<8/\t.slot j = .empty/\SetTable.probe.go t (fun _=>h+1) h f p=some (.empty j none)
 | 0,f,p,hp,h0,hf=>by
  obtain⟨m,m8,em⟩:=T.some_empty h4;obtain⟨k,k8,ek⟩:=xm p.j hp.2.2.1 m m8;exact T.go0 k f p hp (by simpa using h0) (by omega) (by rw[ek];exact em)
 | k+1,0,_,_,_,hf=>absurd hf (by omega)
 | k+1,f+1,p,hp,h0,hf=>by
  rcases T.slot p.j with⟨_,hl⟩ | ⟨_,z⟩
  ·obtain⟨q,hq,e1,e2,e3⟩:=T.go_live (h:=h) (f:=f) hp hl;rw[e3];exact STb.goK T h4 k f q hq (by rw[e1,Nat.div_lt_iff_lt_mul (by decide)];rw[Nat.pow_succ]at h0;exact h0) (by omega)
  ·exact⟨p.j,hp.2.2.1,z,STb.go_empty hp z⟩
theorem STb.free(T:STb led n t)(h4:n<=7)(h:Int):∃j,j<8/\j∉t.place.toList/\t.freeSlot h=some (j,false):=by
 have hb:SetTable.bits h<2^64:=by
  unfold SetTable.bits;have:=Int.emod_lt_of_pos h (show(0:Int)<2^64 by decide);have:=Int.emod_nonneg h (show(2^64:Int)≠0 by decide);omega
 have e:t.probeStart h=⟨SetTable.bits h%8,0,SetTable.bits h%8,SetTable.bits h,none⟩:=by
  unfold SetTable.probeStart;rw[T.mask];have h8:SetTable.bits h%(7+1)<8:=Nat.mod_lt _ (by decide);have e:SetTable.runEnd 7 (SetTable.bits h%(7+1))=SetTable.bits h%(7+1):=by
   unfold SetTable.runEnd;rw[if_neg (by omega)]
  simp only[e,Nat.sub_self]
 obtain⟨j,j8,ej,eg⟩:=T.goK h4 (h:=h) 13 220 ⟨SetTable.bits h%8,0,SetTable.bits h%8,SetTable.bits h,none⟩ ⟨rfl,rfl,Nat.mod_lt _ (by decide),rfl⟩ (Nat.lt_of_lt_of_le hb (by decide)) (by decide);refine⟨j,j8,?_,?_⟩
 ·rcases T.slot j with⟨_,i,z⟩ | ⟨z,_⟩
  ·rw[ej]at z;cases z
  ·exact z
 ·unfold SetTable.freeSlot SetTable.probe;rw[e,T.mask];show(match SetTable.probe.go t (fun _=>h+1) h 220 _ with | some (.empty j dummy)=>some (dummy.getD j,dummy.isSome) | _=>none)=_;rw[eg];rfl
end
structure STc(led:Bool)(n:Nat)(t:SetTable):Prop where
 dm:t.dummies = #[]
 ld:t.led=led
 plain:t.plain=true
 up:t.place.toList.Pairwise (· < ·)
 sz:t.place.size=n
 ft:n<=t.mask
theorem STb.c{led:Bool}{n:Nat}{t:SetTable}(T:STb led n t)(h:n<=7):STc led n t:=⟨T.dm,T.ld,T.plain,T.up,T.sz,by rw[T.mask];exact h⟩
theorem zi{α β:Type}{f g:α->Option β}:∀{l:List α},(∀x∈l,f x=g x)->l.filterMap f=l.filterMap g
 | [],_=>rfl
 | x::r,h=>by rw[filterMap_cons,filterMap_cons,h x mem_cons_self,zi fun y hy=>h y (mem_cons_of_mem _ hy)]
noncomputable def ownL(o:Array (Option Nat)):List Nat:=(List.range 32).filterMap fun j=>o.getD j none
structure OwG(o:Array (Option Nat))(k:Nat):Prop where
 sz:o.size=32
 pm:(ownL o).Perm (List.range k)
noncomputable def lq(j:Nat):Nat->Nat
 | 0=>j
 | k+1=>lq ((j*5+1)%32) k
theorem wp:∀j,j<32->∀m,m<32->∃k,k<32/\lq j k=m:=by decide +kernel
theorem kx{t:SetTable}(Tup:t.place.toList.Pairwise (· < ·))(Tdm:t.dummies = #[])(j:Nat):(j∈t.place.toList/\∃i,t.slot j = .live i)\/(j∉t.place.toList/\t.slot j = .empty):=by
 obtain⟨b0,b1,b2⟩:=QA Tup j;unfold SetTable.slot;by_cases c:t.place[SetTable.below t.place j]?=some j
 ·refine .inl ⟨?_,SetTable.below t.place j,?_⟩
  ·rw[<-Array.getElem?_toList]at c;exact List.mem_of_getElem? c
  ·dsimp only;rw[if_pos (by rw[c];exact beq_self_eq_true _)]
 ·refine .inr ⟨fun hm=>c ?_,?_⟩
  ·obtain⟨i,hi⟩:=List.getElem?_of_mem hm;rcases Nat.lt_trichotomy i (SetTable.below t.place j)with z | z | z
   ·exact absurd (b1 i j z hi) (Nat.lt_irrefl _)
   ·rw[<-Array.getElem?_toList,<-z];exact hi
   ·have hl:=(List.getElem?_eq_some_iff.mp hi).1;have e:t.place.toList[SetTable.below t.place j]?=some (t.place.toList[SetTable.below t.place j]'(by omega)):=List.getElem?_eq_getElem _;have:=b2 _ _ (Nat.le_refl _) e;have:=ZK Tup e hi z;omega
  ·dsimp only;rw[if_neg (by rw[beq_iff_eq];exact c),Tdm];rfl
structure STd(led:Bool)(n:Nat)(t:SetTable):Prop where
 mask:t.mask=31
 dm:t.dummies = #[]
 ld:t.led=led
 plain:t.plain=true
 up:t.place.toList.Pairwise (· < ·)
 le:∀x∈t.place.toList,x<32
 sz:t.place.size=n
theorem STd.c{led:Bool}{n:Nat}{t:SetTable}(T:STd led n t)(h:n<=31):STc led n t:=⟨T.dm,T.ld,T.plain,T.up,T.sz,by rw[T.mask];exact h⟩
section
variable{led:Bool}{n:Nat}{t:SetTable}
structure Hd(p:SetTable.Probe):Prop where
 j:p.j=p.i
 m:p.more=SetTable.runEnd 31 p.i-p.i
 i:p.i<32
 d:p.dummy=none
def Fnd(t:SetTable)(r:Option SetTable.Met):Prop:=∃j,j<32/\t.slot j = .empty/\r=some (.empty j none)
theorem xz{i:Nat}(h:i<32):i<=SetTable.runEnd 31 i/\SetTable.runEnd 31 i<32/\SetTable.runEnd 31 i-i<=9:=by
 unfold SetTable.runEnd;split<;>omega
theorem STd.run(T:STd led n t){h:Int}:∀(m f:Nat) (p:SetTable.Probe),p.more=m->p.j+m<32->p.dummy=none->m<f->
  Fnd t (SetTable.probe.go t (fun _=>h+1) h f p)\/∃q,Hd q/\q.perturb=p.perturb/32/\q.i=(p.i*5+1+p.perturb/32)%32/\SetTable.probe.go t (fun _=>h+1) h f p=SetTable.probe.go t (fun _=>h+1) h (f-(m+1)) q
 | _,0,_,_,_,_,hf=>absurd hf (Nat.not_lt_zero _)
 | m,f+1,p,hm,hj,hd,hf=>by
  rcases kx T.up T.dm p.j with⟨_,i,hl⟩ | ⟨_,z⟩
  ·have e:SetTable.probe.go t (fun _=>h+1) h (f+1) p=SetTable.probe.go t (fun _=>h+1) h f (t.advance p):=by
    rw[SetTable.probe.go,hl];dsimp only;rw[if_neg (by rw[beq_iff_eq];omega)]
   rw[e]
   match m,hm,hj,hf with
   | 0,hm,hj,hf=>
    refine .inr ⟨t.advance p,?_⟩;have ea:t.advance p={p with j:=(p.i*5+1+p.perturb/32)%32,more:=SetTable.runEnd 31 ((p.i*5+1+p.perturb/32)%32)-(p.i*5+1+p.perturb/32)%32,i:=(p.i*5+1+p.perturb/32)%32,perturb:=p.perturb/32}:=by
     unfold SetTable.advance;rw[if_neg (by omega),T.mask];rfl
    rw[ea];exact⟨⟨rfl,rfl,Nat.mod_lt _ (by decide),hd⟩,rfl,rfl,rfl⟩
   | m+1,hm,hj,hf=>
    have ea:t.advance p={p with j:=p.j+1,more:=p.more-1}:=by
     unfold SetTable.advance;rw[if_pos (by omega)]
    rw[ea];have:=STd.run T (h:=h) m f {p with j:=p.j+1,more:=p.more-1} (by show p.more-1=m;omega) (by show p.j+1+m<32;omega) hd (by omega);rw[show f+1-(m+1+1)=f-(m+1) by omega];exact this
  ·refine .inl ⟨p.j,by omega,z,?_⟩;rw[SetTable.probe.go,z];dsimp only;rw[hd]
theorem STd.blk(T:STd led n t){h:Int}{f g:Nat}{p:SetTable.Probe}(hp:Hd p)(hf:g+10<=f) :
  Fnd t (SetTable.probe.go t (fun _=>h+1) h f p)\/∃q f',Hd q/\q.perturb=p.perturb/32/\q.i=(p.i*5+1+p.perturb/32)%32/\g<=f'/\SetTable.probe.go t (fun _=>h+1) h f p=SetTable.probe.go t (fun _=>h+1) h f' q:=by
 have r:=xz hp.i;rcases T.run (h:=h) p.more f p rfl (by rw[hp.j,hp.m];omega) hp.d (by rw[hp.m];omega)with z | ⟨q,h1,h2,h3,h4⟩
 ·exact .inl z
 ·exact .inr ⟨q,_,h1,h2,h3,by rw[hp.m];omega,h4⟩
theorem STd.hit{h:Int}{f:Nat}{p:SetTable.Probe}(hp:Hd p)(hf:1<=f)(he:t.slot p.i = .empty):Fnd t (SetTable.probe.go t (fun _=>h+1) h f p):=by
 match f,hf with
 | f+1,_=>
  refine⟨p.j,by rw[hp.j];exact hp.i,by rw[hp.j];exact he,?_⟩;rw[SetTable.probe.go,hp.j,he];dsimp only;rw[hp.d]
theorem STd.go0(T:STd led n t){h:Int}:∀(k f:Nat) (p:SetTable.Probe),Hd p->p.perturb=0->10*k+1<=f->t.slot (lq p.i k) = .empty->Fnd t (SetTable.probe.go t (fun _=>h+1) h f p)
 | 0,f,p,hp,_,hf,he=>STd.hit hp (by omega) he
 | k+1,f,p,hp,h0,hf,he=>by
  rcases T.blk (h:=h) (f:=f) (g:=10*k+1) hp (by omega)with z | ⟨q,f',hq,q1,q2,hf',e⟩
  ·exact z
  ·rw[e];rw[h0]at q1 q2;exact STd.go0 T k f' q hq q1 hf' (by rw[q2];exact he)
theorem STd.some_empty(T:STd led n t)(h4:n<=31):∃m,m<32/\t.slot m = .empty:=by
 apply Classical.byContradiction;intro no;have all:∀m∈List.range 32,m∈t.place.toList:=fun m hm=>by
  rcases kx T.up T.dm m with⟨z,_⟩ | ⟨_,z⟩
  ·exact z
  ·exact absurd ⟨m,mem_range.mp hm,z⟩ no
 have:=(List.nodup_range (n:=32)).length_le_of_subset all;rw[length_range,Array.length_toList,T.sz]at this;omega
theorem STd.goK(T:STd led n t)(h4:n<=31){h:Int}:∀(k f:Nat) (p:SetTable.Probe),Hd p->p.perturb<32^k->10*k+330<=f->Fnd t (SetTable.probe.go t (fun _=>h+1) h f p)
 | 0,f,p,hp,h0,hf=>by
  obtain⟨m,m8,em⟩:=T.some_empty h4;obtain⟨k,k8,ek⟩:=wp p.i hp.i m m8;exact T.go0 k f p hp (by simpa using h0) (by omega) (by rw[ek];exact em)
 | k+1,f,p,hp,h0,hf=>by
  rcases T.blk (h:=h) (f:=f) (g:=10*k+330) hp (by omega)with z | ⟨q,f',hq,q1,q2,hf',e⟩
  ·exact z
  ·rw[e];exact STd.goK T h4 k f' q hq (by rw[q1,Nat.div_lt_iff_lt_mul (by decide)];rw[Nat.pow_succ]at h0;exact h0) hf'
theorem STd.free(T:STd led n t)(h4:n<=31)(h:Int):∃j,j<32/\j∉t.place.toList/\t.freeSlot h=some (j,false):=by
 have hb:SetTable.bits h<2^64:=by
  unfold SetTable.bits;have:=Int.emod_lt_of_pos h (show(0:Int)<2^64 by decide);have:=Int.emod_nonneg h (show(2^64:Int)≠0 by decide);omega
 have e:t.probeStart h=⟨SetTable.bits h%32,SetTable.runEnd 31 (SetTable.bits h%32)-SetTable.bits h%32,SetTable.bits h%32,SetTable.bits h,none⟩:=by
  unfold SetTable.probeStart;rw[T.mask]
 obtain⟨j,j8,ej,eg⟩:=T.goK h4 (h:=h) 13 460 ⟨SetTable.bits h%32,SetTable.runEnd 31 (SetTable.bits h%32)-SetTable.bits h%32,SetTable.bits h%32,SetTable.bits h,none⟩ ⟨rfl,rfl,Nat.mod_lt _ (by decide),rfl⟩ (Nat.lt_of_lt_of_le hb (by decide)) (by decide);refine⟨j,j8,?_,?_⟩
 ·rcases kx T.up T.dm j with⟨_,i,z⟩ | ⟨z,_⟩
  ·rw[ej]at z;cases z
  ·exact z
 ·unfold SetTable.freeSlot SetTable.probe;rw[e,T.mask];show(match SetTable.probe.go t (fun _=>h+1) h 460 _ with | some (.empty j dummy)=>some (dummy.getD j,dummy.isSome) | _=>none)=_;rw[eg];rfl
end
section
variable{o:Array (Option Nat)}
noncomputable abbrev fnd(o:Array (Option Nat))(i:Nat):Option Nat:=(List.range (SetTable.runEnd 31 i+1-i)).find? fun k=>(o.getD (i+k) (some 0)).isNone
theorem yH{i k:Nat}(hs:o.size=32)(h:fnd o i=some k):i+k<32/\o.getD (i+k) none=none:=by
 have:=List.find?_some h;have lt:i+k<32:=by
  apply Nat.not_le.mp;intro c;have e:o.getD (i+k) (some 0)=some 0:=by simp[Array.getD,show¬i+k<o.size by omega]
  rw[e]at this;cases this
 refine⟨lt,?_⟩;have e:o.getD (i+k) (some 0)=o.getD (i+k) none:=by simp[Array.getD,show i+k<o.size by omega]
 rw[e]at this;exact Option.isNone_iff_eq_none.mp this
theorem Y4{i:Nat}(hi:i<32)(hs:o.size=32)(h:o.getD i none=none):∃k,fnd o i=some k:=by
 cases hf:fnd o i with
 | some k=>exact⟨k,rfl⟩
 | none=>
  have n0:=List.find?_eq_none.mp hf 0 (mem_range.mpr (by unfold SetTable.runEnd;split<;>omega));have e:o.getD (i+0) (some 0)=none:=by
   rw[Nat.add_zero];have:o.getD i (some 0)=o.getD i none:=by simp[Array.getD,show i<o.size by omega]
   rw[this,h]
  rw[e]at n0;exact absurd rfl n0
theorem yI(f i p:Nat):SetTable.layClean.free 31 o (f+1) i p=match fnd o i with | some k=>some (i+k) | none=>SetTable.layClean.free 31 o f ((i*5+1+p/32)%32) (p/32):=rfl
def FrOk(o:Array (Option Nat))(r:Option Nat):Prop:=∃j,r=some j/\j<32/\o.getD j none=none
theorem K6{f i p:Nat}(hs:o.size=32)(hi:i<32)(h:o.getD i none=none):FrOk o (SetTable.layClean.free 31 o (f+1) i p):=by
 obtain⟨k,hk⟩:=Y4 hi hs h;rw[yI,hk];exact⟨_,rfl,yH hs hk⟩
theorem free0(hs:o.size=32):∀(k f i:Nat),i<32->k<f->o.getD (lq i k) none=none->FrOk o (SetTable.layClean.free 31 o f i 0)
 | _,0,_,_,h,_=>absurd h (Nat.not_lt_zero _)
 | 0,f+1,i,hi,_,h=>K6 hs hi h
 | k+1,f+1,i,hi,hf,h=>by
  rw[yI];cases e:fnd o i with
  | some k=>exact⟨_,rfl,yH hs e⟩
  | none=>exact free0 hs k f ((i*5+1)%32) (Nat.mod_lt _ (by decide)) (by omega) h
theorem freeK(hs:o.size=32){m:Nat}(hm:m<32)(em:o.getD m none=none):∀(K f i p:Nat),i<32->p<32^K->K+33<=f->FrOk o (SetTable.layClean.free 31 o f i p)
 | 0,f,i,p,hi,hp,hf=>by
  obtain⟨k,k32,ek⟩:=wp i hi m hm;have:p=0:=by simpa using hp
  subst this;exact free0 hs k f i hi (by omega) (by rw[ek];exact em)
 | K+1,0,_,_,_,_,hf=>absurd hf (by omega)
 | K+1,f+1,i,p,hi,hp,hf=>by
  rw[yI];cases e:fnd o i with
  | some k=>exact⟨_,rfl,yH hs e⟩
  | none=>exact freeK hs hm em K f _ _ (Nat.mod_lt _ (by decide)) (by rw[Nat.div_lt_iff_lt_mul (by decide)];rw[Nat.pow_succ]at hp;exact hp) (by omega)
theorem OwG.empty{k:Nat}(G:OwG o k)(h:k<32):∃m,m<32/\o.getD m none=none:=by
 apply Classical.byContradiction;intro no;have l:(ownL o).length=32:=by
  have key:∀l:List Nat,(∀j∈l,j<32)->(l.filterMap fun j=>o.getD j none).length=l.length:=fun l=>by
   induction l with
   | nil=>intro _;rfl
   | cons a r ih=>
    intro hl;cases e:o.getD a none with
    | none=>exact absurd ⟨a,hl a mem_cons_self,e⟩ no
    | some v=>rw[List.filterMap_cons_some (f:=fun j=>o.getD j none) (b:=v) e,length_cons,length_cons,ih fun j hj=>hl j (mem_cons_of_mem _ hj)]
  unfold ownL;rw[key _ fun j hj=>mem_range.mp hj,length_range]
 rw[G.pm.length_eq,length_range]at l;omega
theorem OwG.put{k j:Nat}(G:OwG o k)(hj:j<32)(e:o.getD j none=none):OwG (o.setIfInBounds j (some k)) (k+1):=by
 have sz:=G.sz;refine⟨by rw[Array.size_setIfInBounds];exact sz,?_⟩;have ot:∀x,x≠j->(o.setIfInBounds j (some k)).getD x none=o.getD x none:=fun x hx=>by
  rw[Array.getD_eq_getD_getElem?,Array.getD_eq_getD_getElem?,Array.getElem?_setIfInBounds_ne (Ne.symm hx)]
 have at_:(o.setIfInBounds j (some k)).getD j none=some k:=by
  rw[Array.getD_eq_getD_getElem?,Array.getElem?_setIfInBounds_self_of_lt (by omega)];rfl
 have sp:List.range 32=List.range j++j::List.range' (j+1) (31-j):=by
  rw[List.range_eq_range',show(32:Nat)=j+(1+(31-j)) by omega,<-List.range'_append_1,<-List.range_eq_range',show 1+(31-j)=(31-j)+1 by omega,List.range'_succ,Nat.zero_add]
 have c1:(List.range j).filterMap (fun x=>(o.setIfInBounds j (some k)).getD x none)=(List.range j).filterMap (fun x=>o.getD x none):=zi fun x hx=>ot x (by have:=mem_range.mp hx;omega)
 have c2:(List.range' (j+1) (31-j)).filterMap (fun x=>(o.setIfInBounds j (some k)).getD x none)=(List.range' (j+1) (31-j)).filterMap (fun x=>o.getD x none):=zi fun x hx=>ot x (by have:=(List.mem_range'_1.mp hx).1;omega)
 have l1:ownL (o.setIfInBounds j (some k))=(List.range j).filterMap (fun x=>o.getD x none)++k::(List.range' (j+1) (31-j)).filterMap (fun x=>o.getD x none):=by
  unfold ownL;rw[sp,List.filterMap_append,List.filterMap_cons_some (f:=fun x=>(o.setIfInBounds j (some k)).getD x none) (b:=k) at_,c1,c2]
 have l2:ownL o=(List.range j).filterMap (fun x=>o.getD x none)++(List.range' (j+1) (31-j)).filterMap (fun x=>o.getD x none):=by
  unfold ownL;rw[sp,List.filterMap_append,List.filterMap_cons_none (f:=fun x=>o.getD x none) e]
 rw[l1,List.range_succ];refine List.perm_middle.trans ?_;rw[<-l2];exact(List.Perm.cons _ G.pm).trans (List.perm_append_singleton k _).symm
noncomputable def layF(acc:Option (Array (Option Nat)×Nat))(h:Int):Option (Array (Option Nat)×Nat):=do
 let (owner,k) <-acc
 let j <-SetTable.layClean.free 31 owner (SetTable.turns 31) (SetTable.bits h%(31+1)) (SetTable.bits h)
 pure (owner.setIfInBounds j (some k),k+1)
theorem Ym:∀(hs:List Int) {o:Array (Option Nat)} {k:Nat},OwG o k->k+hs.length<=31->∃o',hs.foldl layF (some (o,k))=some (o',k+hs.length)/\OwG o' (k+hs.length)
 | [],o,k,G,_=>⟨o,rfl,G⟩
 | h::r,o,k,G,hl=>by
  rw[length_cons]at hl;have hb:SetTable.bits h<2^64:=by
   unfold SetTable.bits;have:=Int.emod_lt_of_pos h (show(0:Int)<2^64 by decide);have:=Int.emod_nonneg h (show(2^64:Int)≠0 by decide);omega
  obtain⟨m,hm,em⟩:=G.empty (by omega);obtain⟨j,ej,j32,nj⟩:=freeK G.sz hm em 13 46 (SetTable.bits h%(31+1)) (SetTable.bits h) (Nat.mod_lt _ (by decide)) (Nat.lt_of_lt_of_le hb (by decide)) (by decide);have e1:layF (some (o,k)) h=some (o.setIfInBounds j (some k),k+1):=by
   show((SetTable.layClean.free 31 o 46 (SetTable.bits h%(31+1)) (SetTable.bits h)).bind fun j=>some (o.setIfInBounds j (some k),k+1))=_;rw[ej];rfl
  rw[List.foldl_cons,e1];obtain⟨o',e,G'⟩:=Ym r (G.put j32 nj) (by omega);exact⟨o',by rw[e,length_cons,show k+1+r.length=k+(r.length+1) by omega],by rw[length_cons,show k+(r.length+1)=k+1+r.length by omega];exact G'⟩
end
theorem layC{hs:Array Int}(h:hs.size<=31):∃o,SetTable.layClean 31 hs=some o/\OwG o hs.size:=by
 have G0:OwG (Array.replicate 32 none) 0:=by
  refine⟨Array.size_replicate,?_⟩;have:ownL (Array.replicate 32 none)=[]:=by decide +kernel
  rw[this];exact .rfl
 obtain⟨o,e,G⟩:=Ym hs.toList G0 (by rw[Array.length_toList];omega);rw[Array.length_toList,Nat.zero_add]at e G;refine⟨o,?_,G⟩;show Option.map (fun x=>x.1) (Array.foldl layF (some (Array.replicate 32 none,0)) hs)=_;rw[<-Array.foldl_toList,e];rfl
theorem relay5{led:Bool}{t:SetTable}{es:Array (Int×Value)}(T:STb led 5 t)(h5:es.size=5):∃es' t',relayAll t es (SetTable.grown es.size)=(es',t',false)/\STd led 5 t'/\es'.size=5:=by
 obtain⟨o,eo,G⟩:=layC (hs:=es.map (·.1)) (by rw[Array.size_map];omega);rw[Array.size_map,h5]at G;have er:t.relaid (es.map (·.1)) (SetTable.grown es.size)=some ({mask:=31,place:=(((List.range 32).filterMap fun j=>(o.getD j none).map (j,·)).map (·.1)).toArray,dummies:=#[],finger:=t.finger,led:=t.led,moves:=t.movedTo 31,plain:=t.plain},(((List.range 32).filterMap fun j=>(o.getD j none).map (j,·)).map (·.2)).toArray):=by
  rw[h5];show SetTable.laid 31 t.finger (t.movedTo 31) t.led t.plain (es.map (·.1))=_;unfold SetTable.laid;rw[eo];rfl
 have e2:((List.range 32).filterMap fun j=>(o.getD j none).map (j,·)).map (·.2)=ownL o:=by
  unfold ownL;rw[List.map_filterMap];exact zi fun x _=>by rw[Option.map_map];cases o.getD x none<;>rfl
 have l5:((List.range 32).filterMap fun j=>(o.getD j none).map (j,·)).length=5:=by
  have:=congrArg List.length e2;rw[length_map,G.pm.length_eq,length_range]at this;exact this
 have up:(((List.range 32).filterMap fun j=>(o.getD j none).map (j,·)).map (·.1)).Pairwise (· < ·):=by
  rw[pairwise_map];refine List.Pairwise.filterMap _ (fun a a' h b hb b' hb'=>?_) List.pairwise_lt_range;obtain⟨_,_,rfl⟩:=Option.map_eq_some_iff.mp hb;obtain⟨_,_,rfl⟩:=Option.map_eq_some_iff.mp hb';exact h
 have cov:coversAll (((List.range 32).filterMap fun j=>(o.getD j none).map (j,·)).map (·.2)).toArray es.size=true:=by
  unfold coversAll;rw[List.toList_toArray,e2,h5];exact List.isPerm_iff.mpr G.pm
 have sz5:((((List.range 32).filterMap fun j=>(o.getD j none).map (j,·)).map (·.2)).toArray.filterMap (es[·]?)).size=5:=by
  have hp:((((List.range 32).filterMap fun j=>(o.getD j none).map (j,·)).map (·.2)).toArray).toList.Perm (List.range es.size):=List.isPerm_iff.mp cov;rw[<-Array.length_toList,Array.toList_filterMap,(hp.filterMap _).length_eq,filterMap_getElem?_range,Array.length_toList,h5]
 have T':STd led 5 {mask:=31,place:=(((List.range 32).filterMap fun j=>(o.getD j none).map (j,·)).map (·.1)).toArray,dummies:=#[],finger:=t.finger,led:=t.led,moves:=t.movedTo 31,plain:=t.plain}:=⟨rfl,rfl,T.ld,T.plain,by rw[List.toList_toArray];exact up,(fun x hx=>by
  rw[List.toList_toArray]at hx;obtain⟨y,hy,rfl⟩:=mem_map.mp hx;obtain⟨j,hj,e⟩:=List.mem_filterMap.mp hy;obtain⟨_,_,rfl⟩:=Option.map_eq_some_iff.mp e;exact mem_range.mp hj),by rw[size_toArray,length_map,l5]⟩
 refine⟨_,_,?_,T',sz5⟩;unfold relayAll;rw[er];dsimp only;rw[if_pos];rw[cov,sz5,Bool.true_and];unfold SetTable.fits SetTable.fill;rw[T'.sz];rfl
section
variable{prog:Program}{w:World}{A:Around}{E:Value->Shared->Prop}{s:Shared}
noncomputable def keyI(e:Int×Value):Int:=match e.2 with | .int k _=>k | _=>0
def SetG(prog:Program)(w:World)(led:Bool)(h:Heap)(a:Addr)(ks:List Int):Prop:=∃o es ep t,h.get? a=some o/\o.ExactSet/\o.data = .set es ep t/\ElemsOf (intKind prog w) es.toList/\es.toList.map keyI=ks/\ks.Nodup/\STc led es.size t/\(es.size<=4/\STb led es.size t\/5<=es.size/\es.size<=12/\STd led es.size t)
theorem SetG.keep{led:Bool}{h h':Heap}{a:Addr}{ks:List Int}(x:SetG prog w led h a ks)(k:∀o,h.get? a=some o->h'.get? a=some o):SetG prog w led h' a ks:=by
 obtain⟨o,es,ep,t,h1,h2⟩:=x;exact⟨o,es,ep,t,k o h1,h2⟩
theorem STc.fits{led:Bool}{n:Nat}{t:SetTable}(T:STc led n t):t.fits n=true:=by
 unfold SetTable.fits SetTable.fill;rw[T.sz,T.dm];simpa using T.ft
theorem kU{es:List (Int×Value)}(h:ElemsOf (intKind prog w) es){e:Int×Value}(he:e∈es):∃t,e.2 = .int (keyI e) t:=by
 obtain⟨⟨k,hk,_⟩,_⟩:=h e he;obtain⟨t,ht⟩:=Value.isInt_shape (k:=k) hk;refine⟨t,?_⟩;unfold keyI;rw[ht]
theorem STb.put{led:Bool}{n:Nat}{t:SetTable}(T:STb led n t){j:Nat}(j8:j<8)(nj:j∉t.place.toList):STb led (n+1) (t.put j).1:=by
 obtain⟨b0,b1,b2⟩:=QA T.up j;have e:(t.put j).1={t with place:=SetTable.insertAt t.place (SetTable.below t.place j) j,dummies:=#[]}:=by
  unfold SetTable.put;rw[T.dm];rfl
 rw[e];have lt:∀v∈t.place.toList.take (SetTable.below t.place j),v<j:=fun v hv=>by
  obtain⟨i,hi⟩:=List.getElem?_of_mem hv;have hl:=(List.getElem?_eq_some_iff.mp hi).1;rw[length_take]at hl;rw[List.getElem?_take_of_lt (by omega)]at hi;exact b1 i v (by omega) hi
 have gt:∀v∈t.place.toList.drop (SetTable.below t.place j),j<v:=fun v hv=>by
  obtain⟨i,hi⟩:=List.getElem?_of_mem hv;rw[List.getElem?_drop]at hi;have:=b2 _ v (Nat.le_add_right _ i) hi;rcases Nat.lt_or_eq_of_le this with z | z
  ·exact z
  ·exact absurd (z▸List.mem_of_getElem? hi) nj
 have ls:(SetTable.insertAt t.place (SetTable.below t.place j) j).toList=t.place.toList.take (SetTable.below t.place j)++j::t.place.toList.drop (SetTable.below t.place j):=SetTable.toList_insertAt ..;refine⟨T.mask,rfl,T.ld,T.plain,?_,?_,?_⟩
 ·show(SetTable.insertAt t.place (SetTable.below t.place j) j).toList.Pairwise _;rw[ls,List.pairwise_append,pairwise_cons];refine⟨T.up.sublist (List.take_sublist _ _),⟨gt,T.up.sublist (List.drop_sublist _ _)⟩,fun v hv u hu=>?_⟩;rcases mem_cons.mp hu with rfl | hu
  ·exact lt v hv
  ·exact Nat.lt_trans (lt v hv) (gt u hu)
 ·show∀x∈(SetTable.insertAt t.place (SetTable.below t.place j) j).toList,x<8;intro x hx;rw[ls]at hx;rcases mem_append.mp hx with z | z
  ·exact T.le x (mem_of_mem_take z)
  ·rcases mem_cons.mp z with rfl | z
   ·exact j8
   ·exact T.le x (mem_of_mem_drop z)
 ·show(SetTable.insertAt t.place (SetTable.below t.place j) j).size=n+1;rw[<-Array.length_toList,(SetTable.insertAt_perm t.place _ j).length_eq,Array.toList_push,List.length_append,Array.length_toList,T.sz];rfl
theorem STd.put{led:Bool}{n:Nat}{t:SetTable}(T:STd led n t){j:Nat}(j8:j<32)(nj:j∉t.place.toList):STd led (n+1) (t.put j).1:=by
 obtain⟨b0,b1,b2⟩:=QA T.up j;have e:(t.put j).1={t with place:=SetTable.insertAt t.place (SetTable.below t.place j) j,dummies:=#[]}:=by
  unfold SetTable.put;rw[T.dm];rfl
 rw[e];have lt:∀v∈t.place.toList.take (SetTable.below t.place j),v<j:=fun v hv=>by
  obtain⟨i,hi⟩:=List.getElem?_of_mem hv;have hl:=(List.getElem?_eq_some_iff.mp hi).1;rw[length_take]at hl;rw[List.getElem?_take_of_lt (by omega)]at hi;exact b1 i v (by omega) hi
 have gt:∀v∈t.place.toList.drop (SetTable.below t.place j),j<v:=fun v hv=>by
  obtain⟨i,hi⟩:=List.getElem?_of_mem hv;rw[List.getElem?_drop]at hi;have:=b2 _ v (Nat.le_add_right _ i) hi;rcases Nat.lt_or_eq_of_le this with z | z
  ·exact z
  ·exact absurd (z▸List.mem_of_getElem? hi) nj
 have ls:(SetTable.insertAt t.place (SetTable.below t.place j) j).toList=t.place.toList.take (SetTable.below t.place j)++j::t.place.toList.drop (SetTable.below t.place j):=SetTable.toList_insertAt ..;refine⟨T.mask,rfl,T.ld,T.plain,?_,?_,?_⟩
 ·show(SetTable.insertAt t.place (SetTable.below t.place j) j).toList.Pairwise _;rw[ls,List.pairwise_append,pairwise_cons];refine⟨T.up.sublist (List.take_sublist _ _),⟨gt,T.up.sublist (List.drop_sublist _ _)⟩,fun v hv u hu=>?_⟩;rcases mem_cons.mp hu with rfl | hu
  ·exact lt v hv
  ·exact Nat.lt_trans (lt v hv) (gt u hu)
 ·show∀x∈(SetTable.insertAt t.place (SetTable.below t.place j) j).toList,x<32;intro x hx;rw[ls]at hx;rcases mem_append.mp hx with z | z
  ·exact T.le x (mem_of_mem_take z)
  ·rcases mem_cons.mp z with rfl | z
   ·exact j8
   ·exact T.le x (mem_of_mem_drop z)
 ·show(SetTable.insertAt t.place (SetTable.below t.place j) j).size=n+1;rw[<-Array.length_toList,(SetTable.insertAt_perm t.place _ j).length_eq,Array.toList_push,List.length_append,Array.length_toList,T.sz];rfl
theorem setAddG{led:Bool}{a:Addr}{ks:List Int}{k:Int}{tok:Tok}{Q:Bool->Shared->Prop}(hS:SetG prog w led s.heap a ks)(room:k∈ks\/ks.length<12)
  (h:∀b h' ks',Heap.SameBut a s.heap h'->SetG prog w led h' a ks'->(∀x,x∈ks'↔x∈ks\/x=k)->Q b {s with heap:=h'}):wpAny (model prog w) A (setAddHashed a (.int k tok) ((intKind prog w).hash k)) Q E s:=by
 obtain⟨o,es,ep,t,ho,hex,hd,hel,hks,nd,Tc,h4⟩:=hS;have h5:es.size<=12:=by rcases h4 with⟨z,_⟩ | ⟨_,z,_⟩<;>omega
 have hf:=Tc.fits;have kl:ks.length=es.size:=by rw[<-hks,length_map,Array.length_toList]
 have mem:∀x,x∈ks↔∃e∈es.toList,(intKind prog w).is x e.2=true:=fun x=>by
  rw[<-hks,mem_map];constructor
  ·rintro⟨e,he,rfl⟩;obtain⟨u,hu⟩:=kU hel he;exact⟨e,he,by rw[hu];exact intKind_is _ _ _ _⟩
  ·rintro⟨e,he,hx⟩;obtain⟨u,hu⟩:=Value.isInt_shape (k:=x) hx;refine⟨e,he,?_⟩;unfold keyI;rw[hu]
 unfold setAddHashed setAddHashedIn;refine wpAny_holding (wpAny_bind (wpAny_setState_of ho hd hf ?_));dsimp only;rw[byScan_of (knd:=intKind prog w) (x:=.int k tok) rfl (by unfold scanBound;omega) hel];simp only[↓reduceIte];unfold setAddByScan;refine wpAny_bind (wpAny_bind (wpAny_rule (wpAny_bind (wpAny_setScan_of (knd:=intKind prog w) (k:=k) (intKind_is _ _ _ _) ho hd hf hel ?_))));cases hr:List.findIdx? (fun e=>(intKind prog w).is k e.2) es.toList with
 | some j=>
  dsimp only;obtain⟨hj,hpj,_⟩:=List.findIdx?_eq_some_iff_getElem.mp hr;have hk:k∈ks:=(mem k).mpr ⟨es.toList[j],getElem_mem hj,hpj⟩;refine wpAny_pure (wpAny_pure ?_);exact h _ s.heap ks (Heap.SameBut.refl a s.heap) ⟨o,es,ep,t,ho,hex,hd,hel,hks,nd,Tc,h4⟩ fun x=>⟨.inl,fun z=>z.elim id fun e=>e▸hk⟩
 | none=>
  dsimp only;have nk:k∉ks:=fun hk=>by
   obtain⟨e,he,hp⟩:=(mem k).mp hk;have:=List.findIdx?_eq_none_iff.mp hr e he;rw[hp]at this;cases this
  have lt12:es.size<12:=by
   rcases room with z | z
   ·exact absurd z nk
   ·omega
  obtain⟨j,ej,T1c,T1⟩:∃j,t.freeSlot ((intKind prog w).hash k)=some (j,false)/\STc led (es.size+1) (t.put j).1/\(es.size<=4/\STb led (es.size+1) (t.put j).1\/5<=es.size/\STd led (es.size+1) (t.put j).1):=by
   rcases h4 with⟨z,T⟩ | ⟨z,_,T⟩
   ·obtain⟨j,j8,nj,ej⟩:=T.free (by omega) ((intKind prog w).hash k);exact⟨j,ej,(T.put j8 nj).c (by omega),.inl ⟨z,T.put j8 nj⟩⟩
   ·obtain⟨j,j8,nj,ej⟩:=T.free (by omega) ((intKind prog w).hash k);exact⟨j,ej,(T.put j8 nj).c (by omega),.inr ⟨z,T.put j8 nj⟩⟩
  have pm:=SetTable.insertAt_perm es (t.put j).2 ((intKind prog w).hash k,Value.int k tok);have s1:(SetTable.insertAt es (t.put j).2 ((intKind prog w).hash k,Value.int k tok)).size=es.size+1:=by
   rw[<-Array.length_toList,pm.length_eq,Array.toList_push,List.length_append,Array.length_toList];rfl
  have eL:layNew t es ((intKind prog w).hash k) (.int k tok)=(SetTable.insertAt es (t.put j).2 ((intKind prog w).hash k,Value.int k tok),(t.put j).1,false,false):=by
   have f1:(t.put j).1.fits (es.size+1)=true:=T1c.fits;unfold layNew;rw[ej];dsimp only;rw[s1];unfold SetTable.orStandIn;rw[if_pos f1,f1];rfl
  rw[eL];dsimp only;refine wpAny_bind (wpAny_pure ?_);rw[if_pos T1c.plain];refine wpAny_bind ?_;rw[hashByValue_scannable 8 (x:=.int k tok) rfl];refine wpAny_pure ?_;rw[show plainKind (.int k tok)=true from rfl];simp only[↓reduceIte];generalize hes:SetTable.insertAt es (t.put j).2 ((intKind prog w).hash k,Value.int k tok)=es1 at pm s1|-;generalize ht1:(t.put j).1=t1 at T1 T1c|-;rw[Array.toList_push]at pm;have hel1:ElemsOf (intKind prog w) es1.toList:=(hel.push (k:=k) (x:=.int k tok) (intKind_is _ _ _ _) rfl).perm pm;refine wpAny_bind (wpAny_storeSet_of ho hd ?_ (fits_of_scanBound (by unfold scanBound;omega)));have hg:(s.heap.update a (Obj.putSet es1 t1)).get? a=some {o with data:=.set es1 (ep+1) t1}:=by
   have:=Heap.get?_update_self (Obj.putSet es1 t1) ho (by rw[putSet_of es1 t1 hd];rfl);rw[putSet_of es1 t1 hd]at this;exact this
  have nf:(!false&&t1.tooFull)=decide (es.size=4):=by
   unfold SetTable.tooFull SetTable.fill;rcases T1 with⟨z,T⟩ | ⟨z,T⟩
   ·rw[T.sz,T.dm,T.mask];simp;omega
   ·rw[T.sz,T.dm,T.mask];simp;omega
  rw[nf];have pk:(es1.toList.map keyI).Perm (ks++[k]):=by
   have:=pm.map keyI;rw[map_append,hks]at this;exact this
  have nd1:(ks++[k]).Nodup:=nodup_append.mpr ⟨nd,pairwise_singleton _ _,fun x hx y hy=>by rw[mem_singleton.mp hy];exact fun z=>nk (z▸hx)⟩;by_cases c5:es.size=4
  ·rw[decide_eq_true c5];simp only[↓reduceIte];have e5:es1.size=5:=by omega
   have T5:STb led 5 t1:=by
    rcases T1 with⟨_,T⟩ | ⟨z,_⟩
    ·rw[show(5:Nat)=es.size+1 by omega];exact T
    ·omega
   have hp:=relayAll_perm t1 es1 (SetTable.grown es1.size);obtain⟨es2,t2,er,T2,z2⟩:=relay5 T5 e5;rw[er]at hp|-;dsimp only at hp|-;refine wpAny_bind (wpAny_pure ?_);refine wpAny_bind (wpAny_storeSet_of hg rfl ?_ (fits_of_scanBound (by unfold scanBound;omega)));have hg2:((s.heap.update a (Obj.putSet es1 t1)).update a (Obj.putSet es2 t2)).get? a=some {o with data:=.set es2 (ep+1+1) t2}:=by
    have:=Heap.get?_update_self (Obj.putSet es2 t2) hg (by rw[putSet_of es2 t2 rfl];rfl);rw[putSet_of es2 t2 rfl]at this;exact this
   refine wpAny_pure (wpAny_pure ?_);have pk2:(es2.toList.map keyI).Perm (ks++[k]):=(hp.map keyI).trans pk;refine h _ _ (es2.toList.map keyI) ((Heap.SameBut.update s.heap a _).trans (Heap.SameBut.update _ a _)) ⟨_,es2,ep+1+1,t2,hg2,hex,rfl,hel1.perm hp,rfl,pk2.nodup_iff.mpr nd1,z2▸T2.c (by decide),.inr ⟨by omega,by omega,z2▸T2⟩⟩ fun x=>?_
   rw[pk2.mem_iff,mem_append,mem_singleton]
  ·rw[decide_eq_false c5];simp only[Bool.false_eq_true,↓reduceIte];refine wpAny_pure (wpAny_pure ?_);refine h _ _ (es1.toList.map keyI) (Heap.SameBut.update s.heap a _) ⟨_,es1,ep+1,t1,hg,hex,rfl,hel1,rfl,pk.nodup_iff.mpr nd1,s1▸T1c,?_⟩ fun x=>?_
   rcases T1 with⟨z,T⟩ | ⟨z,T⟩
   ·exact .inl ⟨by omega,s1▸T⟩
   ·exact .inr ⟨by omega,by omega,s1▸T⟩
   rw[pk.mem_iff,mem_append,mem_singleton]
end
section
variable{prog:Program}{w:World}{A:Around}{R:Result->Shared->Prop}{I:Addr}{fp wr:List Addr}{G:Array GenState->Array GenState->Prop}{n:Nat}{P:Nat->Value->Prop}{St:Nat->Shared->Prop}
theorem wL{led:Bool}(W:WalksS prog w A.in1 I fp wr G n P St)(a:Addr)(ha:a∉fp)(xs:List Int)(D:List Int)(hD:D.length<=12)(xD:∀x∈xs,x∈D)(hn:xs.length=n)(hx:∀i v,P i v->∃x t,xs[i]?=some x/\v = .int x t) :
  ∀(k i:Nat) (s:Shared) (ks:List Int),n-i=k->i<=n->St i s->SetG prog w led s.heap a ks->(∀x,x∈ks↔x∈xs.take i)->
   (∀s' ks',Moved (a::wr) G s s'->SetG prog w led s'.heap a ks'->(∀x,x∈ks'↔x∈xs)->R (.ok (.ret .none)) s')->codeAny (model prog w) A (.builtin "set.update.loop" ⟨[.ref a,.ref I],[]⟩) R s:=by
 have aw:a∉wr:=fun z=>ha (W.sub _ z)
 have up:∀c∈wr,c∈a::wr:=fun c h=>mem_cons_of_mem _ h
 intro k
 induction k with
 | zero=>
  intro i s ks e le st hS hks q;obtain rfl:i=n:=by omega
  refine codeAny_builtin F.entry_set_update_loop ?_;rw[Around.under_plainId F.plain_set_update_loop _];refine wpAny_bind (m:=pyNext (.ref I)) (W.done s _ _ st fun s' mv=>wpAny_pure (q s' ks (mv.mono up) (hS.keep fun o e=>mv.heap a _ aw e) fun x=>?_));rw[hks,<-hn,take_length]
 | succ k ih=>
  intro i s ks e le st hS hks q;have lt:i<n:=by omega
  refine codeAny_builtin F.entry_set_update_loop ?_;rw[Around.under_plainId F.plain_set_update_loop _];refine wpAny_bind (m:=pyNext (.ref I)) (W.item i s _ _ lt st fun v s' pv st' mv=>?_);obtain⟨x,t,ex,rfl⟩:=hx i v pv;have hS':SetG prog w led s'.heap a ks:=hS.keep fun o e=>mv.heap a _ aw e
  refine wpAny_bind (m:=holding [Value.int x t] (setAdd a (.int x t))) (wpAny_holding ?_);unfold setAdd;refine wpAny_holding ?_;refine wpAny_bind ((intKind prog w).pyHash (k:=x) (intKind_is _ _ _ _) ?_);have room:x∈ks\/ks.length<12:=by
   by_cases c:x∈ks
   ·exact .inl c
   ·right;obtain⟨_,_,_,_,_,_,_,_,_,nd,_,_⟩:=hS;have:=(nodup_cons.mpr ⟨c,nd⟩).length_le_of_subset (l₂:=D) fun y hy=>by
     rcases mem_cons.mp hy with rfl | hy
     ·exact xD _ (List.mem_of_getElem? ex)
     ·exact xD _ (mem_of_mem_take ((hks y).mp hy))
    rw[length_cons]at this;omega
  refine setAddG (s:={s' with toks:=s'.toks+1}) hS' room fun b h' ks' sb hS2 hk2=>?_
  have hk3:∀y,y∈ks'↔y∈xs.take (i+1):=fun y=>by
   have e2:xs.take (i+1)=xs.take i++[x]:=by
    rw[List.take_succ,ex];rfl
   rw[e2,hk2,hks,mem_append,mem_singleton]
  refine wpAny_pure ⟨plainId_quiet F.plain_set_update_loop _,ih (i+1) _ ks' (by omega) lt (W.frame _ s' _ _ st' (Nat.le_succ _) fun b hb o e=>?_) hS2 hk3 fun s'' ks'' mv2 hS'' hk4=>?_⟩
  ·rw[sb.2 b (fun z:b=a=>ha (by rw[<-z];exact hb))];exact e
  ·refine q s'' ks'' (Moved.trans W.gtrans ((mv.mono up).then_heap (Nat.le_succ _) fun b o hb e=>?_) mv2) hS'' hk4;rw[sb.2 b (fun z:b=a=>hb (by rw[z];exact mem_cons_self))];exact e
end
open PySem PySem.Spec PySem.W PyProof.Rows
theorem YO:Manifest.owners.lookup (String.ofList ['r','o','t','a','r','e','t','i','_','t','e','s'].reverse)=some Manifest.sig_set_iterator:=by kernel_rfl
theorem QV:Slot "set_iterator" "__next__" "set_iterator.__next__":=
 .of (owner:="set_iterator") (n:="__next__") (by rw[typeLookup_type,builtinLookup_eq_fast];kernel_rfl) (by decide +kernel) (by decide +kernel) (by decide +kernel) (by first | exact .inl (by decide +kernel) | exact .inr (by decide +kernel)) (by rw[isSubtype_type];kernel_rfl)
theorem YM:entryFor table "set_iterator.__next__"= some Builtin.«set_iterator.__next__»:=entryFor_of_tree (by kernel_rfl)
theorem Kh(a:Value):argsOk "set_iterator.__next__" ⟨[a],[]⟩:=by
 unfold argsOk;rw[signature?_of (id:="set_iterator.__next__") (n:=['_','_','t','x','e','n','_','_']) (o:=['r','o','t','a','r','e','t','i','_','t','e','s']) (by kernel_rfl) YO];kernel_rfl
theorem Ki:Slot "set_iterator" "__iter__" "set_iterator.__iter__":=
 .of (owner:="set_iterator") (n:="__iter__") (by rw[typeLookup_type,builtinLookup_eq_fast];kernel_rfl) (by decide +kernel) (by decide +kernel) (by decide +kernel) (by first | exact .inl (by decide +kernel) | exact .inr (by decide +kernel)) (by rw[isSubtype_type];kernel_rfl)
theorem KM:entryFor table "set_iterator.__iter__"= some Builtin.«dict_keyiterator.__iter__»:=entryFor_alias (id':="dict_keyiterator.__iter__") (by kernel_rfl) rfl (by decide +kernel) (by kernel_rfl)
theorem wP(a:Value):argsOk "set_iterator.__iter__" ⟨[a],[]⟩:=by
 unfold argsOk;rw[signature?_of (id:="set_iterator.__iter__") (n:=['_','_','r','e','t','i','_','_']) (o:=['r','o','t','a','r','e','t','i','_','t','e','s']) (by kernel_rfl) YO];kernel_rfl
theorem wK:entryFor table "set.__iter__"= some Builtin.«frozenset.__iter__»:=entryFor_alias (id':="frozenset.__iter__") (by kernel_rfl) rfl (by decide +kernel) (by kernel_rfl)
theorem yj{α:Type}(nx:Nat->Nat):∀(f k:Nat) (left:List α) (out:Array α),f=left.length->(pickOrder.go nx f k left out).toList.Perm (out.toList++left)
 | 0,_,left,out,e=>by
  rw[List.eq_nil_of_length_eq_zero e.symm,append_nil];exact .rfl
 | f+1,k,left,out,e=>by
  have hl:nx k%left.length<left.length:=Nat.mod_lt _ (by omega);unfold pickOrder.go;rw[List.getElem?_eq_getElem hl];dsimp only;refine(yj nx f (k+1) _ _ (by rw[List.length_eraseIdx_of_lt hl];omega)).trans ?_;rw[Array.toList_push,List.append_assoc];refine List.Perm.append_left _ ?_;rw[List.singleton_append,List.eraseIdx_eq_take_drop_succ];have e2:left=left.take (nx k%left.length)++left[nx k%left.length]::left.drop (nx k%left.length+1):=by
   rw[List.getElem_cons_drop,List.take_append_drop]
  exact List.perm_middle.symm.trans (List.Perm.of_eq e2.symm)
section
variable{prog:Program}{w:World}{A:Around}{E:Value->Shared->Prop}{s:Shared}
noncomputable abbrev byT(w:World):Bool:=w.params.followText "set-order"
noncomputable def ordS(w:World)(a:Addr)(ep:Nat)(es:Array (Int×Value)):Array (Int×Value):=if byT w=true then pickOrder (w.params.setOrder a ep) es else es
theorem zK(a:Addr)(ep:Nat)(es:Array (Int×Value)):(ordS w a ep es).toList.Perm es.toList:=by
 unfold ordS;split
 ·have:=yj (w.params.setOrder a ep) es.size 0 es.toList #[] (by rw[Array.length_toList]);rw[show(#[]:Array (Int×Value)).toList++es.toList=es.toList from List.nil_append _]at this;exact this
 ·exact .rfl
noncomputable def plS(w:World)(t:SetTable)(i:Nat):Nat:=if byT w=true then 0 else if i=0 then 0 else t.place.getD (i-1) 0+1
theorem STc.below_at{led:Bool}{n:Nat}{t:SetTable}(T:STc led n t){i:Nat}(hi:i<=n):SetTable.below t.place (if i=0 then 0 else t.place.getD (i-1) 0+1)=i:=by
 obtain⟨b0,b1,b2⟩:=QA T.up (if i=0 then 0 else t.place.getD (i-1) 0+1);generalize hj:(if i=0 then 0 else t.place.getD (i-1) 0+1)=j at b0 b1 b2|-;have sz:=T.sz;have at_:∀k,k<n->t.place.toList[k]?=some (t.place.getD k 0):=fun k hk=>by
  rw[Array.getElem?_toList,Array.getElem?_eq_getElem (by omega)];simp[Array.getD,show k<t.place.size by omega]
 rcases Nat.lt_trichotomy (SetTable.below t.place j) i with z | z | z
 ·have e:=at_ (i-1) (by omega);have:=b2 (i-1) _ (by omega) e;rw[if_neg (by omega)]at hj;omega
 ·exact z
 ·have e:=at_ i (by omega);have:=b1 i _ z e;by_cases c:i=0
  ·rw[if_pos c]at hj;omega
  ·rw[if_neg c]at hj;have:=ZK T.up (at_ (i-1) (by omega)) e (by omega);omega
theorem nextG{a:Addr}{o:Obj}{es:Array (Int×Value)}{ep:Nat}{t:SetTable}{i:Nat}{Q:Option (Value×Nat)->Shared->Prop}(ho:s.heap.get? a=some o)(hd:o.data = .set es ep t)(T:STc (!byT w) es.size t)(hi:i<=es.size)
  (h:Q (((ordS w a ep es)[i]?).map fun e=>(e.2,plS w t (i+1))) s):wpAny (model prog w) A (setNext a (plS w t i) i ep) Q E s:=by
 have hf:=T.fits;have ab:∀{R:Bool->Shared->Prop} {s':Shared},R (byT w) s'->wpAny (model prog w) A setsByText R E s':=fun h=>wpAny_bind (wpAny_askSetting (wpAny_pure h))
 unfold setNext;refine wpAny_bind (wpAny_setState_of ho hd hf ?_);dsimp only;refine wpAny_bind (ab ?_);by_cases c:byT w=true
 ·rw[if_pos c];rw[if_neg (by simp)];unfold setWalk;refine wpAny_bind (wpAny_bind (wpAny_setState_of ho hd hf ?_));dsimp only;refine wpAny_bind (ab ?_);rw[if_pos c];refine wpAny_bind (wpAny_askSetting (wpAny_pure (wpAny_pure ?_)));unfold ordS plS at h;rw[if_pos c,if_pos c]at h;unfold plS;rw[if_pos c];exact h
 ·rw[if_neg c];have ld:t.led=true:=by rw[T.ld];simpa using c
  refine wpAny_ite_split (fun z=>?_) (fun _=>?_)
  ·exact absurd (show(!t.plain&&decide (es.size>1))=true from z) (by rw[T.plain];simp)
  refine wpAny_bind ?_;show wpAny _ _ (if(!t.led && !es.isEmpty)=true then _ else pure ()) _ _ _;rw[if_neg (by rw[ld];simp)];refine wpAny_pure ?_;have eb:=T.below_at hi;have ep1:plS w t i=if i=0 then 0 else t.place.getD (i-1) 0+1:=by unfold plS;rw[if_neg c]
  rw[ep1,eb];unfold ordS plS at h;rw[if_neg c,if_neg c,if_neg (Nat.succ_ne_zero i)]at h;refine wpAny_pure ?_;rcases Nat.lt_or_ge i es.size with z | z
  ·have sz:=T.sz;rw[Array.getElem?_eq_getElem z]at h|-;rw[Array.getElem?_eq_getElem (show i<t.place.size by omega)];dsimp only;rw[show i+1-1=i from rfl]at h;have e:t.place.getD i 0=t.place[i]'(by omega):=by simp[Array.getD,show i<t.place.size by omega]
   rw[e]at h;exact h
  ·rw[Array.getElem?_eq_none z]at h|-;exact h
noncomputable abbrev siO(a:Addr)(p i n ep:Nat):Obj:={cls:=.type "set_iterator",dict:=none,data:=.fields #[.int p 0,.int i 0,.ref a,.int n 0,.int ep 0],slots:=#[]}
theorem nextI{it a:Addr}{o:Obj}{es:Array (Int×Value)}{ep:Nat}{t:SetTable}{i:Nat}{e:Int×Value}{Q:Option Value->Shared->Prop}(ho:s.heap.get? a=some o)(hd:o.data = .set es ep t)(T:STc (!byT w) es.size t)(hi:i<es.size)(he:(ordS w a ep es)[i]?=some e)
  (hit:s.heap.get? it=some (siO a (plS w t i) i es.size ep)) (hQ:∀h',h'.get? it=some (siO a (plS w t (i+1)) (i+1) es.size ep)->Heap.SameBut it s.heap h'->Q (some e.2) {s with heap:=h'}):wpAny (model prog w) A (pyNext (.ref it)) Q E s:=by
 have hT:s.TypeIs (.ref it) "set_iterator":=⟨_,hit,rfl⟩
 have hf:=T.fits;unfold pyNext;refine wpAny_bind (wpAny_attempt (wpAny_callSpecial?_slot (name:=Str.ofString "__next__") hT QV (wpAny_call_entry QV hT YM ?_ (Kh _))));unfold Builtin.«set_iterator.__next__»;refine wpAny_bind (m:=slotArgs "__next__" 0 ⟨[.ref it],[]⟩) (wpAny_pure ?_);refine wpAny_bind (wpAny_fieldsOf hit rfl ?_);dsimp only;refine wpAny_bind (wpAny_setEntries_of ho hd hf ?_);rw[if_neg (by simp)];simp only[Int.toNat_natCast];refine wpAny_bind (nextG ho hd T (Nat.le_of_lt hi) ?_);rw[he];dsimp only[Option.map];refine wpAny_bind (wpAny_setField_rec hit (by simp) fun h1 e1 b1=>?_);refine wpAny_bind (wpAny_setField_rec e1 (by simp) fun h2 e2 b2=>?_);exact wpAny_pure ⟨_,rfl,wpAny_pure (hQ h2 (by rw[e2];simp[rawInt]) (b1.trans b2))⟩
theorem endI{it a:Addr}{o:Obj}{es:Array (Int×Value)}{ep:Nat}{t:SetTable}{Q:Option Value->Shared->Prop}(hh:A.handled=none)(ho:s.heap.get? a=some o)(hd:o.data = .set es ep t)(T:STc (!byT w) es.size t)
  (hit:s.heap.get? it=some (siO a (plS w t es.size) es.size es.size ep)) (hQ:∀h',Heap.ExtBut it s.heap h'->Q none {s with heap:=h'}):wpAny (model prog w) A (pyNext (.ref it)) Q E s:=by
 have hT:s.TypeIs (.ref it) "set_iterator":=⟨_,hit,rfl⟩
 have hf:=T.fits;unfold pyNext;refine wpAny_bind (wpAny_attempt (wpAny_callSpecial?_slot (name:=Str.ofString "__next__") hT QV (wpAny_call_entry QV hT YM ?_ (Kh _))));unfold Builtin.«set_iterator.__next__»;refine wpAny_bind (m:=slotArgs "__next__" 0 ⟨[.ref it],[]⟩) (wpAny_pure ?_);refine wpAny_bind (wpAny_fieldsOf hit rfl ?_);dsimp only;refine wpAny_bind (wpAny_setEntries_of ho hd hf ?_);rw[if_neg (by simp)];simp only[Int.toNat_natCast];have pl:=(zK (w:=w) a ep es).length_eq;rw[Array.length_toList,Array.length_toList]at pl;refine wpAny_bind (nextG ho hd T (Nat.le_refl _) ?_);rw[Array.getElem?_eq_none (by omega)];dsimp only[Option.map];refine wpAny_bind (wpAny_setField_rec hit (by simp) fun h1 e1 b1=>?_);refine wpAny_bind ?_;simp only[newExc,newTuple];refine wpAny_bind (wpAny_newObj_type ?_ (by size_fits));refine wpAny_bind (m:=firstArgMember _ _) (wpAny_of_eq (a:=Value.none) (by first | rfl | (simp only[firstArgMember];rfl)) ?_);refine wpAny_newObj_type ?_ (by size_fits);simp only[raiseNew];refine wpAny_bind (wpAny_handled ?_);rw[show A.in1.handled=none from hh];refine wpAny_bind (wpAny_pure (wpAny_throw ?_));refine wpAny_bind (wpAny_isInstance (T:="StopIteration") (b:=true) ⟨_,Heap.get?_push_size _ rfl,rfl⟩ isSubtype_stop ?_);exact wpAny_pure (hQ _ ((b1.extBut.push _).push _))
theorem iterI{a:Addr}{o:Obj}{es:Array (Int×Value)}{ep:Nat}{t:SetTable}{Q:Value->Shared->Prop}(ho:s.heap.get? a=some o)(hx:o.ExactSet)(hd:o.data = .set es ep t)(T:STc (!byT w) es.size t)
  (hQ:Q (.ref s.heap.objs.size) {s with heap:=s.heap.push (siO a 0 0 es.size ep)}):wpAny (model prog w) A (pyIter (.ref a)) Q E s:=by
 have hT:s.TypeIs (.ref a) "set":=⟨_,ho,hx.1⟩
 have hf:=T.fits;refine wpAny_pyIter_slot hT F.slot_set_iter (wpAny_call_entry F.slot_set_iter hT wK ?_ (F.args_set_iter_1 _));unfold Builtin.«frozenset.__iter__»;refine wpAny_bind (m:=Builtin.Frozenset.slot0 "__iter__" ⟨[.ref a],[]⟩) (wpAny_pure ?_);unfold Builtin.Frozenset.sizeOf;refine wpAny_bind (wpAny_bind (wpAny_setEntries_of ho hd hf (wpAny_pure ?_)));unfold setDrawn;refine wpAny_bind (wpAny_bind (wpAny_setState_of ho hd hf ?_));dsimp only;refine wpAny_bind (wpAny_bind (wpAny_askSetting (wpAny_pure (wpAny_pure ?_))));refine wpAny_ite_split (fun z=>?_) (fun _=>?_)
 ·exact absurd (show(!byT w&&(!t.plain&&decide (es.size>1)))=true from z) (by rw[T.plain];simp)
 refine wpAny_bind (wpAny_pure ?_);refine wpAny_bind (wpAny_setEpoch_of ho hd hf ?_);refine wpAny_bind (wpAny_newObj_type (wpAny_pure ⟨_,rfl,"set_iterator",_,⟨_,Heap.get?_push_size _ rfl,rfl⟩,QV.lookup,?_⟩));exact hQ
theorem walkI(hh:A.handled=none)(I a:Addr)(hne:a≠I){o:Obj}{es:Array (Int×Value)}{ep:Nat}{t:SetTable}(hd:o.data = .set es ep t)(T:STc (!byT w) es.size t) :
  Walks prog w A I [I,a] [I] es.size (fun i v=>∃e,(ordS w a ep es)[i]?=some e/\v=e.2) (fun i h=>h.get? I=some (siO a (plS w t i) i es.size ep)/\h.get? a=some o) where
 sub:=fun b hb=>by rw[mem_singleton.mp hb];exact mem_cons_self
 frame:=fun _ _ _ st hk=>⟨hk I mem_cons_self _ st.1,hk a (mem_cons_of_mem _ mem_cons_self) _ st.2⟩
 item:=fun i s Q E hi st hQ=>by
  have pl:=(zK (w:=w) a ep es).length_eq;rw[Array.length_toList,Array.length_toList]at pl;have he:(ordS w a ep es)[i]?=some ((ordS w a ep es)[i]'(by omega)):=Array.getElem?_eq_getElem _;refine nextI st.2 hd T hi he st.1 fun h' e' sb=>?_
  exact hQ _ h' s.toks ⟨_,he,rfl⟩ ⟨e',(sb.2 a hne).trans st.2⟩ fun b o hb e=>(sb.2 b fun z=>hb (by rw[z];exact mem_cons_self)).trans e
 done:=fun s Q E st hQ=>endI hh st.2 hd T st.1 fun h' he'=>hQ h' s.toks fun b o hb e=>he' b o (fun z=>hb (by rw[z];exact mem_cons_self)) e
 self:=fun i s Q E st hQ=>by
  have hT:s.TypeIs (.ref I) "set_iterator":=⟨_,st.1,rfl⟩
  refine wpAny_pyIter_slot hT Ki (wpAny_call_entry Ki hT KM ?_ (wP _));show wpAny _ _ (ret (.ref I)) _ _ s;exact wpAny_pure ⟨_,rfl,"set_iterator",_,hT,QV.lookup,hQ⟩
theorem hintI{r:Addr}{Q:Bool->Shared->Prop}(hT:s.TypeIs (.ref r) "set")(h:Q false s):wpAny (model prog w) A (Builtin.List.listLengthHint (.ref r)) Q E s:=by
 unfold Builtin.List.listLengthHint;refine wpAny_bind (wpAny_specialOf hT F.slot_set_len.lookup ?_);generalize hid:("set.__len__" : String)=id0
 wp_delta
 rw[show splitId id0=some ("set","__len__")from by subst hid;decide +kernel];subst hid;refine wpAny_bind (wpAny_isInstance (T:="set") (b:=true) hT (by rw[isSubtype_type];kernel_rfl) ?_);refine wpAny_ite_split (fun z=>absurd z (by decide)) (fun _=>?_);refine wpAny_ite_split (fun _=>?_) (fun z=>absurd (by decide +kernel) z);exact wpAny_bind (wpAny_typeOf hT (wpAny_pure h))
theorem srcI{a:Addr}{o:Obj}{es:Array (Int×Value)}{ep:Nat}{t:SetTable}(hx:o.ExactSet)(hd:o.data = .set es ep t)(T:STc (!byT w) es.size t) :
  KdlSrc prog w "set" a a es.size (fun i v=>∃e,(ordS w a ep es)[i]?=some e/\v=e.2) (fun h=>h.get? a=some o) where
 type:=fun _ hm=>⟨_,hm,hx.1⟩
 there:=fun _ hm=>⟨Heap.lt_size hm,Heap.lt_size hm⟩
 keep:=fun _ _ hm hk=>hk a (.inl rfl) o hm
 notList:=by decide
 notTuple:=by decide
 hint:=fun _ _ s _ hm hq=>hintI ⟨_,hm,hx.1⟩ hq
 iter:=fun A s hh hm=>⟨siO a 0 0 es.size ep,_,(fun _ _ hq=>iterI hm hx hd T hq),walkI hh _ a (Nat.ne_of_lt (Heap.lt_size hm)) hd T,by
  refine⟨?_,Heap.get?_push_of_some _ hm⟩;rw[show plS w t 0=0 by unfold plS;split<;>rfl];exact Heap.get?_push_size _ rfl⟩
end
section
variable{prog:Program}{w:World}{A:Around}{E:Value->Shared->Prop}{s:Shared}
noncomputable abbrev emI(w:World):Obj:={cls:=.type "set",dict:=none,data:=.set #[] 0 (.fresh 0 0 (!byT w))}
theorem newI(a:Value){Q:Value->Shared->Prop}(h:Q (.ref s.heap.objs.size) {s with heap:=s.heap.push (emI w)}):codeAny (model prog w) A (.call (.builtin "set.__new__") ⟨[.type "set",a],[]⟩) (wants Q E) s:=by
 refine codeAny_of_tree ?_;show wpAny _ A.in1 (do checkBuiltinCall "set.__new__" ⟨[.type "set",a],[]⟩;again (.builtin "set.__new__" ⟨[.type "set",a],[]⟩)) _ _ s;refine wpAny_bind (wpAny_of_eq (F.newCall_set_1 a) (wpAny_pure ⟨plainId_quiet F.plain_set_new _,codeAny_builtin F.entry_set_new ?_⟩));rw[Around.under_plainId F.plain_set_new _];unfold Builtin.«set.__new__» Builtin.Frozenset.newClass;have hsub:=sub_set_self;obtain⟨hp,g,d,tk,os⟩:=s;dsimp only
 wp_walk
 refine wpAny_askSetting (wpAny_pure ?_);dsimp only;simp only[newObj];exact wpAny_bind (wpAny_alloc (wpAny_pure (wpAny_pure h)))
set_option maxRecDepth 100000 in
set_option maxHeartbeats 3200000 in
theorem Ko{l:Addr}{items:Array Value}{xs D:List Int}{Q:Value->Shared->Prop}(hh:A.handled=none)(hl:s.heap.IsList l items)(hD:D.length<=12)(xD:∀x∈xs,x∈D)(hn:xs.length=items.size)(hx:∀(i:Nat) (v:Value),items[i]?=some v->∃(x:Int) (t:Tok),xs[i]?=some x/\v = .int x t)
  (h:∀(h':Heap) (tk:Nat) (ks:List Int),SetG prog w (!byT w) h' s.heap.objs.size ks->(∀x,x∈ks↔x∈xs)->(∀b o,s.heap.get? b=some o->h'.get? b=some o)->Q (.ref s.heap.objs.size) {s with heap:=h',toks:=tk}) :
  wpAny (model prog w) A (call (.type "set") [.ref l]) Q E s:=by
 obtain⟨c,tl,mr⟩:=F.called_set.mro;have k1:=F.called_set.made;have k2:=F.called_set.sub;refine wpAny_call (codeAny_of_tree ?_);show wpAny _ _ (callAny (.type "set") _) _ _ _;refine wpAny_pure ⟨Code.quiet_builtin _ (by decide +kernel),codeAny_builtin F.entry_type_call ?_⟩;rw[Around.under_plain (weight_type_call_type "set" [.ref l] []) rfl];have k3:=F.called_set.notType;have k4:=F.called_set.canCreate;have k5:=F.typeCall_set_1 (.ref l)
 repeat (any_goals (first | assumption | wp_step))
 refine codeAny_mono (newI (.ref l) (E:=E) (Q:=fun obj s₁=>obj = .ref s.heap.objs.size/\s₁={s with heap:=s.heap.push (emI w)}) ⟨rfl,rfl⟩) fun r s1 hr=>?_
 cases r with
 | error e=>exact hr
 | ok fl=>
  cases fl with
  | ret obj=>
   obtain⟨rfl,rfl⟩:=hr;have hS:(s.heap.push (emI w)).get? s.heap.objs.size=some (emI w):=Heap.get?_push_size _ rfl;have hT:Shared.TypeIs {s with heap:=s.heap.push (emI w)} (.ref s.heap.objs.size) "set":=⟨_,hS,rfl⟩
   have k6:=F.called_set.init.lookup;have k7:=F.called_set.init.bind (.ref s.heap.objs.size)
   repeat (any_goals (first | assumption | wp_step))
   refine codeAny_mono (codeAny_call_builtin (R:=wants (fun r s₂=>r = .none/\∃h' tk ks,s₂={s with heap:=h',toks:=tk}/\SetG prog w (!byT w) h' s.heap.objs.size ks/\(∀x,x∈ks↔x∈xs)/\(∀b o,s.heap.get? b=some o->h'.get? b=some o)) E) F.called_set.init.plain F.entry_set_init (check_set_init_1 hT ?_)) fun r2 s2 hr2=>?_
   ·obtain⟨ol,hol,hcl,nl,hdl⟩:=hl;obtain⟨oc,od,odt,osl⟩:=ol;simp only at hcl hdl;subst hcl hdl;have hol':(s.heap.push (emI w)).get? l=some {cls:=.type "list",dict:=od,data:=.seq items nl,slots:=osl}:=Heap.get?_push_of_some _ hol;have j1:=F.sub_list_set;have j2:=F.sub_list_frozenset;have j3:(Value.type "list"== Value.type "dict")=false:=by decide
    have hl1:(s.heap.push (emI w)).IsList l items:=⟨_,hol',rfl,nl,rfl⟩
    unfold Builtin.«set.__init__» noKeywords Builtin.Frozenset.updateFrom;generalize hPI:pyIter=PI
    wp_walk
    subst hPI;refine wpAny_pyIter_list hl1 ?_;refine wpAny_bind (wpAny_runValue ?_);have lS:l<s.heap.objs.size:=Heap.lt_size hol;have h3:A.in1.in1.in1.handled=none:=by simp[hh]
    have n1:l≠(s.heap.push (emI w)).objs.size:=by rw[Heap.size_push];exact Nat.ne_of_lt (Nat.lt_succ_of_lt lS)
    have n2:s.heap.objs.size∉[(s.heap.push (emI w)).objs.size,l]:=by
     rw[Heap.size_push];simp only[mem_cons,not_mem_nil,or_false,not_or];exact⟨Nat.ne_of_lt (Nat.lt_succ_self _),Nat.ne_of_gt lS⟩
    refine wL (led:=!byT w) ((Walks.list h3 _ l n1 items).toS) s.heap.objs.size n2 xs D hD xD hn hx (items.size-0) 0 _ [] (by omega) (Nat.zero_le _) ⟨⟨_,Heap.get?_push_size _ rfl,rfl,rfl⟩,(hl1.push _)⟩ ?hS0 (fun x=>by simp) ?hR
    case hS0=>
     have hg:((s.heap.push (emI w)).push {cls:=.type "list_iterator",data:=.fields #[.ref l,.int 0 0]}).get? s.heap.objs.size=some (emI w):=Heap.get?_push_of_some _ hS;exact⟨_,#[],0,_,hg,⟨rfl,rfl,rfl⟩,rfl,(fun e he=>nomatch he),rfl,.nil,(STb.fresh _).c (by decide),.inl ⟨by decide,STb.fresh _⟩⟩
    case hR=>
     intro s' ks' hm hS' hk';obtain⟨h',g',d',tk',os'⟩:=s';have eg:g'=s.gens:=hm.gens;have ed:d'=s.drawn:=hm.drawn;have eo:os'=s.os:=hm.os;subst eg ed eo;show wpAny _ _ _ _ _ _;refine wpAny_pure ?_;show wpAny _ _ (ret Value.none) _ _ _;refine wpAny_pure ⟨rfl,h',tk',ks',rfl,hS',hk',fun b o e=>?_⟩;have lb:=Heap.lt_size e;have b2:b≠(s.heap.push (emI w)).objs.size:=by rw[Heap.size_push];exact Nat.ne_of_lt (Nat.lt_succ_of_lt lb)
     exact hm.heap b o (by simp only[mem_cons,not_mem_nil,or_false,not_or];exact⟨Nat.ne_of_lt lb,b2⟩) (Heap.get?_push_of_some _ (Heap.get?_push_of_some _ e))
   ·cases r2 with
    | error e=>exact hr2
    | ok fl2=>
     cases fl2 with
     | ret r=>
      obtain⟨rfl,h',tk,ks,rfl,q1,q2,q3⟩:=hr2
      repeat (any_goals (first | assumption | wp_step))
      exact h _ _ _ q1 q2 q3
     | _=>exact hr2.elim
  | _=>exact hr.elim
end
section
variable{X:Cx}
theorem Kv{prog:Program}{w:World}{l:List (Int×Value)}(h:ElemsOf (intKind prog w) l):IntsAre (l.map (·.2)) (l.map keyI):=by
 induction l with
 | nil=>exact .nil
 | cons e r ih=>
  obtain⟨t,ht⟩:=kU h (mem_cons_self (a:=e) (l:=r));rw[map_cons,map_cons,ht];exact .cons _ t (ih h.tail)
def tSS(K:Frg)(te:TE):TE:=fun σ H Q=>te σ H fun x H1=>∃(a:Addr) (xs D:List Int),x = .ref a/\SqL K H1 a (xs.map V.int)/\D.length<=12/\(∀x∈xs,x∈D)/\∀(l:Addr) (ms:List Int),H1 l=none->ms.Pairwise (· < ·)->(∀x,x∈ms↔x∈xs)->Q (.ref l) (upd H1 l (.lst (ms.map V.int)))
theorem xU{K:Frg}{te:TE}{σ:St}{H:Hp}{Q:VK}(h:te σ H fun x H1=>∃(a:Addr) (xs D:List Int),x = .ref a/\SqL K H1 a (xs.map V.int)/\D.length<=12/\(∀x∈xs,x∈D)/\∀(l:Addr) (ms:List Int),H1 l=none->ms.Pairwise (· < ·)->(∀x,x∈ms↔x∈xs)->Q (.ref l) (upd H1 l (.lst (ms.map V.int)))):tSS K te σ H Q:=h
theorem kq{e:Expr}{te:TE}{p p' pos pos':Pos}(hc:X.calm=true)(g1:Gl X "sorted")(m1:X.mg "sorted"= none)(g2:Gl X "set")(m2:X.mg "set"= none)(he:PE X e te)(b1:bootBuiltins "sorted"= some (.builtin "sorted"):=by decide +kernel)
  (hs0:starEach [.Call (.Name "set" p') [e] [] pos'] X.env=[(false,eval (.Call (.Name "set" p') [e] [] pos') X.env)]:=by rfl) (hs:starEach [e] X.env=[(false,eval e X.env)]:=by rfl) :
  PE X (.Call (.Name "sorted" p) [.Call (.Name "set" p') [e] [] pos'] [] pos) (tSS X.K te):=by
 intro pins s σ H Q I h;refine wpAny_Call_Name_kw (Q3 I g1 m1 b1 ?_);refine PyProof.Rows.callWith_builtin1 ?_ hs0 rfl;rw[hs0];refine Calls.spliced_cons ?_;refine Call_ (Q3 I g2 m2 W1 (PyProof.Rows.callWith_type1 ?_ hs rfl));rw[hs];refine Calls.spliced_cons (thn (he pins s σ H _ I h) fun u s1 ⟨x,H1,I1,r1,a,xs,D,ex,hq,hD,xD,q⟩=>Calls.spliced_nil ?_);subst ex;cases r1;obtain⟨its,rv,pl,_⟩:=I1.list hq;have lx:=rv.length;rw[length_map]at lx;refine Ko (xs:=xs) (D:=D) (I1.ok.hd hc) pl.isList hD xD (by rw[size_toArray];exact lx) (fun i v hv=>?_) fun h' tk ks hS hks hk=>?_
 ·have hi:i<its.length:=by
   have:=(Array.getElem?_eq_some_iff.mp hv).1;simpa using this
  have ex:xs[i]?=some (xs[i]'(by omega)):=List.getElem?_eq_getElem _;obtain⟨u,hu,ru⟩:=rv.get (i:=i) (x:=V.int (xs[i]'(by omega))) (by rw[List.getElem?_map,ex];rfl);obtain⟨t,rfl⟩:=ru;have:v=_:=Option.some.inj (hv.symm.trans (show its.toArray[i]?=some _ by simpa using hu));exact⟨_,t,ex,this⟩
 ·refine Calls.spliced_nil ?_;obtain⟨o,es,ep,t,ho,hex,hd,hel,hkk,nd,T,h45⟩:=hS;have h4:es.size<=12:=by rcases h45 with⟨z,_⟩ | ⟨_,z,_⟩<;>omega
  have I2:Inv X pins σ H1 {s1 with heap:=h',toks:=tk}:=I1.kept hk;refine Calls.call_function_entry kind_sorted plain_sorted entry_sorted (args_sorted1 _) ?_;unfold Builtin.«sorted»;refine wpAny_bind (m:=checkCount "sorted" 1 1 _) (wpAny_pure ?_);refine wpAny_bind (kdu_collect (A:=X.A.in1) (srcI hex hd T) (I2.ok.hd hc) ho (Nat.le_trans h4 (by decide)) fun h1 tk1 acc hk1 hacc=>?_);have op:=zK (w:=X.w) s1.heap.objs.size ep es;have ol:=op.length_eq;rw[Array.length_toList,Array.length_toList]at ol;have ea:acc.toList=(ordS X.w s1.heap.objs.size ep es).toList.map (·.2):=by
   refine List.ext_getElem? fun i=>?_
   rw[List.getElem?_map,Array.getElem?_toList,Array.getElem?_toList];rcases Nat.lt_or_ge i acc.size with z | z
   ·obtain⟨e,h1,h2⟩:=hacc.2 i _ (Array.getElem?_eq_getElem z);rw[Array.getElem?_eq_getElem z,h1,h2];rfl
   ·rw[Array.getElem?_eq_none z,Array.getElem?_eq_none (by have:=hacc.1;omega)];rfl
  have hI:IntsAre acc.toList ((ordS X.w s1.heap.objs.size ep es).toList.map keyI):=by rw[ea];exact Kv (hel.perm op)
  have al:acc.toList.length=es.size:=by rw[Array.length_toList];exact hacc.1
  refine wpAny_bind (wpAny_newList ?_ (by rw[al,sizeLine_eq];omega));have hoL:(h1.push (seqObj "list" acc.toList.toArray 0)).get? h1.objs.size=some (seqObj "list" acc.toList.toArray 0):=Heap.get?_push_size _ rfl;refine wpAny_bind (wpAny_holding (wpAny_call_entry slot_list_sort ⟨_,hoL,rfl⟩ entry_list_sort (list_sort_tree hoL hI (by rw[al];omega) fun out ms a1 a2 a3=>⟨_,rfl,?_⟩) (args_list_sort _)));refine wpAny_pure ⟨_,rfl,?_⟩;have pk:ms.Perm ks:=a2.trans ((op.map keyI).trans (List.Perm.of_eq hkk));have kl:ks.length=es.size:=by rw[<-hkk,length_map,Array.length_toList]
  have ml:ms.length<=12:=by rw[pk.length_eq];omega
  have hk2:∀b o,s1.heap.get? b=some o->h1.get? b=some o:=fun b o e=>hk1 b o (hk b o e)
  have hn:=I1.none_at hk2;have hb:=I1.newB hk2;have k2:∀b o,s1.heap.get? b=some o->(sortedHeap (h1.push (seqObj "list" acc.toList.toArray 0)) h1.objs.size acc.toList out).get? b=some o:=fun b o e=>by
   have lt:=Heap.lt_size (hk2 b o e);rw[sortedHeap_old (Nat.ne_of_lt lt) (by rw[size_push'];exact Nat.lt_succ_of_lt lt)];exact Heap.get?_push_of_some _ (hk2 b o e)
  obtain⟨e',he⟩:=sortedHeap_at (out:=out) hoL;refine⟨.ref h1.objs.size,_,(I1.kept (t':=tk1) k2).track hn hb (show ObjOk X.prog X.w _ _ _ (.lst (ms.map V.int))from⟨by rw[length_map];exact Nat.le_trans ml (by decide),out.toList,_,YU a1,by rw[Array.toArray_toList];exact he⟩),rfl,q _ ms hn ?_ fun x=>?_⟩
  ·exact(List.Pairwise.and a3 (pk.nodup_iff.mpr nd)).imp fun⟨x,y⟩=>by omega
  ·rw[pk.mem_iff,hks]
end
theorem Wh{K:Frg}{n i j k l:Nat}(hi:i<n)(hj:j<n)(hk:k<n)(hl:l<n):GKeeps n (gTup K 4 (gCons (gName i) (gCons (gName j) (gCons (gName k) (gCons (gName l) gNil))))):=fun x σ H Q q=>by
 obtain⟨a,xs,e1,e2,e3,v,r,e4,v',r',e5,v'',r'',e6,v3,r3,e7,e8,q⟩:=q;refine⟨a,xs,e1,e2,e3,v,r,e4,v',r',e5,v'',r'',e6,v3,r3,e7,e8,fun m u hm e=>?_,q⟩;rw[List.getElem?_set_ne (by omega),List.getElem?_set_ne (by omega),List.getElem?_set_ne (by omega),List.getElem?_set_ne (by omega)];exact e
section
variable{X:Cx}{tg:Expr}
def iBoth(K:Frg)(tl:TE):TI:=fun σ H R=>tl σ H fun x H1=>∃a,x = .ref a/\((∃xs,SqL K H1 a xs)/\R (Itl K a) H1\/(∃xs,SqT K H1 a xs)/\R (Itt K a) H1)
theorem ZH{K:Frg}{tl:TE}{σ:St}{H:Hp}{R:It->Hp->Prop}(h:tl σ H fun x H1=>∃a,x = .ref a/\((∃xs,SqL K H1 a xs)/\R (Itl K a) H1\/(∃xs,SqT K H1 a xs)/\R (Itt K a) H1)):iBoth K tl σ H R:=h
theorem WD{l:Expr}{tl:TE}(hl:PE X l tl):PI X tg l (iBoth X.K tl):=by
 intro pins s σ H R I h;refine thn (hl pins s σ H _ I h) fun v s1 ⟨x,H1,I1,r1,q1⟩=>?_
 obtain⟨a,e,⟨⟨xs,hq⟩,q⟩ | ⟨⟨xs,hq⟩,q⟩⟩:=q1
 ·subst e;cases r1;obtain⟨its,rv,p,hz⟩:=I1.list hq;refine wpAny_pyIter_list p.isList ?_;refine⟨s1.heap.objs.size,[s1.heap.objs.size],_,_,H1,rfl,I1.kept (t':=s1.toks) fun b o e=>Heap.get?_push_of_some _ e,yn a _,⟨_,Heap.get?_push_size _ rfl,rfl,rfl⟩,fun b hb=>?_,q⟩;have e:b=s1.heap.objs.size:=by simpa using hb
  subst e;exact I1.fpOk (Nat.le_refl _) (I1.hok.fresh (Nat.le_refl _))
 ·subst e;cases r1;obtain⟨its,rv,p,hz⟩:=I1.tuple hq;refine wpAny_pyIter_tuple (show s1.heap.IsTuple a its.toArray from p) ?_;refine⟨s1.heap.objs.size,[s1.heap.objs.size],_,_,H1,rfl,I1.kept (t':=s1.toks) fun b o e=>Heap.get?_push_of_some _ e,ZJ a _,⟨_,Heap.get?_push_size _ rfl,rfl,rfl⟩,fun b hb=>?_,q⟩;have e:b=s1.heap.objs.size:=by simpa using hb
  subst e;exact I1.fpOk (Nat.le_refl _) (I1.hok.fresh (Nat.le_refl _))
end
end L2
namespace Rm
open PySem PySem.Spec PyProof.Rows L2
noncomputable abbrev Rz:=Int×Int×Int×Int
noncomputable def shZ(o:Int)(r:Rz):Rz:=(r.1,r.2.1+o,r.2.2.1,r.2.2.2)
noncomputable def lfS(k:Int)(acc:Int×Option Int)(r:Rz):Int×Option Int:=if r.1=k/\acc.1<r.2.1+r.2.2.1 then(r.2.1+r.2.2.1,some r.2.2.2)else acc
noncomputable def lfL(k:Int)(rs:List Rz)(acc:Int×Option Int):Int×Option Int:=rs.foldl (lfS k) acc
noncomputable def leftZ(rs:List Rz)(k:Int):Option Int:=(lfL k rs (-1,none)).2
def ZOk(rs:List Rz)(o:Int):Prop:=∀r∈rs,0<=r.2.1/\1<=r.2.2.1/\r.2.1+r.2.2.1<=o
theorem ka(k:Int)(a b:List Rz)(acc:Int×Option Int):lfL k (a++b) acc=lfL k b (lfL k a acc):=List.foldl_append ..
theorem WS{k o:Int}:∀{rs:List Rz} {acc:Int×Option Int},ZOk rs o->acc.1<=o->(lfL k rs acc).1<=o
 | [],_,_,h=>h
 | r::s,acc,z,h=>by
  refine WS (rs:=s) (acc:=lfS k acc r) (fun y hy=>z y (mem_cons_of_mem _ hy)) ?_;unfold lfS;split
  ·exact(z r mem_cons_self).2.2
  ·exact h
theorem wo{k:Int}:∀{rs:List Rz} {acc:Int×Option Int},(∀r∈rs,r.1≠k)->lfL k rs acc=acc
 | [],_,_=>rfl
 | r::s,acc,h=>by
  show lfL k s (lfS k acc r)=acc;rw[show lfS k acc r=acc from if_neg fun z=>h r mem_cons_self z.1];exact wo fun y hy=>h y (mem_cons_of_mem _ hy)
theorem wm{k o:Int}:∀{rs:List Rz} {acc:Int×Option Int},ZOk rs o->(acc=(-1,none)\/acc.2.isSome=true)->((lfL k rs acc).2.isSome=true↔acc.2.isSome=true\/∃r∈rs,r.1=k)
 | [],acc,_,_=>⟨.inl,fun h=>h.elim id fun⟨r,hr,_⟩=>nomatch hr⟩
 | r::s,acc,z,h=>by
  have zr:=z r mem_cons_self;have zs:ZOk s o:=fun y hy=>z y (mem_cons_of_mem _ hy)
  show(lfL k s (lfS k acc r)).2.isSome=true↔_;by_cases c:r.1=k/\acc.1<r.2.1+r.2.2.1
  ·have e:lfS k acc r=(r.2.1+r.2.2.1,some r.2.2.2):=if_pos c;rw[e,wm zs (.inr rfl)];exact⟨fun _=>.inr ⟨r,mem_cons_self,c.1⟩,fun _=>.inl rfl⟩
  ·have e:lfS k acc r=acc:=if_neg c;rw[e,wm zs h];constructor
   ·rintro(w | ⟨y,hy,w⟩)
    ·exact .inl w
    ·exact .inr ⟨y,mem_cons_of_mem _ hy,w⟩
   ·rintro(w | ⟨y,hy,w⟩)
    ·exact .inl w
    ·rcases mem_cons.mp hy with rfl | hy
     ·rcases h with rfl | h
      ·exact absurd ⟨w,by show(-1:Int)<_;omega⟩ c
      ·exact .inl h
     ·exact .inr ⟨y,hy,w⟩
theorem QR{rs:List Rz}{o k:Int}(z:ZOk rs o):(∃v,leftZ rs k=some v)↔∃r∈rs,r.1=k:=by
 have:=wm (k:=k) z (.inl rfl:((-1:Int),(none:Option Int))=(-1,none)\/_);rw[show(∃v,leftZ rs k=some v)↔(leftZ rs k).isSome=true from Option.isSome_iff_exists.symm];refine this.trans ⟨fun h=>h.elim (fun z=>by cases z) id,.inr⟩
def RelZ(a o:Int)(x:Option Int)(s1 s2:Int×Option Int):Prop:=(s2=(-1,none)/\s1=(a,x))\/∃l v,s2=(l,some v)/\s1=(l+o,some v)
theorem Yn{k a o g:Int}{x:Option Int}(ha:a<=o):∀{rs:List Rz} {s1 s2:Int×Option Int},ZOk rs g->RelZ a o x s1 s2->RelZ a o x (lfL k (rs.map (shZ o)) s1) (lfL k rs s2)
 | [],_,_,_,h=>h
 | r::s,s1,s2,z,h=>by
  have zr:=z r mem_cons_self;refine Yn ha (rs:=s) (s1:=lfS k s1 (shZ o r)) (s2:=lfS k s2 r) (fun y hy=>z y (mem_cons_of_mem _ hy)) ?_;rcases h with⟨rfl,rfl⟩ | ⟨l,v,rfl,rfl⟩
  ·by_cases c:r.1=k
   ·have e1:lfS k (a,x) (shZ o r)=(r.2.1+o+r.2.2.1,some r.2.2.2):=if_pos ⟨c,by show a<r.2.1+o+r.2.2.1;omega⟩;have e2:lfS k (-1,none) r=(r.2.1+r.2.2.1,some r.2.2.2):=if_pos ⟨c,by show -1<r.2.1+r.2.2.1;omega⟩;rw[e1,e2];exact .inr ⟨_,_,rfl,by rw[show r.2.1+o+r.2.2.1=r.2.1+r.2.2.1+o by omega]⟩
   ·have e1:lfS k (a,x) (shZ o r)=(a,x):=if_neg fun z=>c z.1
    have e2:lfS k (-1,none) r=(-1,none):=if_neg fun z=>c z.1
    rw[e1,e2];exact .inl ⟨rfl,rfl⟩
  ·by_cases c:r.1=k/\l<r.2.1+r.2.2.1
   ·have e1:lfS k (l+o,some v) (shZ o r)=(r.2.1+o+r.2.2.1,some r.2.2.2):=if_pos ⟨c.1,by show l+o<r.2.1+o+r.2.2.1;have:=c.2;omega⟩;have e2:lfS k (l,some v) r=(r.2.1+r.2.2.1,some r.2.2.2):=if_pos c;rw[e1,e2];exact .inr ⟨_,_,rfl,by rw[show r.2.1+o+r.2.2.1=r.2.1+r.2.2.1+o by omega]⟩
   ·have e1:lfS k (l+o,some v) (shZ o r)=(l+o,some v):=if_neg fun z=>c ⟨z.1,by have h2:l+o<r.2.1+o+r.2.2.1:=z.2;omega⟩
    have e2:lfS k (l,some v) r=(l,some v):=if_neg c;rw[e1,e2];exact .inr ⟨_,_,rfl,rfl⟩
theorem wj{rs qs:List Rz}{o g k:Int}(z:ZOk rs o)(o0:0<=o)(y:ZOk qs g)(v:Int):leftZ (rs++qs.map (shZ o)) k=some v↔leftZ qs k=some v\/((∀v',leftZ qs k≠some v')/\leftZ rs k=some v):=by
 have le:=WS (k:=k) (acc:=(-1,none)) z (show(-1:Int)<=o by omega);have R:=Yn (k:=k) (x:=leftZ rs k) le y (.inl ⟨rfl,rfl⟩:RelZ (lfL k rs (-1,none)).1 o (leftZ rs k) (lfL k rs (-1,none)) (-1,none));have e:leftZ (rs++qs.map (shZ o)) k=(lfL k (qs.map (shZ o)) (lfL k rs (-1,none))).2:=by unfold leftZ;rw[ka]
 have e2:leftZ qs k=(lfL k qs (-1,none)).2:=rfl;rw[e,e2];rcases R with⟨h1,h2⟩ | ⟨l,w,h1,h2⟩
 ·rw[h1,h2];exact⟨fun h=>.inr ⟨(fun v' z=>by cases z),h⟩,fun h=>h.elim (fun z=>by cases z) (·.2)⟩
 ·rw[h1,h2];exact⟨.inl,fun h=>h.elim id fun h=>absurd rfl (h.1 w)⟩
theorem Ky{rs qs:List Rz}{o g k:Int}(z:ZOk rs o)(y:ZOk qs g)(ap:∀r∈rs,∀q∈qs,r.1≠q.1)(v:Int):leftZ (rs++qs) k=some v↔leftZ qs k=some v\/((∀v',leftZ qs k≠some v')/\leftZ rs k=some v):=by
 have e:leftZ (rs++qs) k=(lfL k qs (lfL k rs (-1,none))).2:=by unfold leftZ;rw[ka]
 rw[e];by_cases c:∃q∈qs,q.1=k
 ·obtain⟨q,hq,rfl⟩:=c;rw[wo (rs:=rs) fun r hr=>ap r hr q hq];obtain⟨w,hw⟩:=(QR (k:=q.1) y).mpr ⟨q,hq,rfl⟩;show leftZ qs q.1=some v↔_;exact⟨.inl,fun h=>h.elim id fun h=>absurd hw (h.1 w)⟩
 ·rw[wo (rs:=qs) fun q hq e=>c ⟨q,hq,e⟩];have n:∀v',leftZ qs k≠some v':=fun v' h=>c ((QR y).mp ⟨v',h⟩)
  show leftZ rs k=some v↔_;exact⟨fun h=>.inr ⟨n,h⟩,fun h=>h.elim (fun h=>absurd h (n v)) (·.2)⟩
section
variable{m:Rr}{E:List (List (Int×Int))}
structure Ro(m:Rr)(E:List (List (Int×Int)))(i:Nat)(rs:List Rz)(o:Int):Prop where
 ok:ZOk rs o
 e:o=m.lg i
 lf:∀k v,leftZ rs k=some v↔(k,v)∈E.getD i []
 len:rs.length<=200
structure Ru(E:List (List (Int×Int)))(is:List Nat)(rs:List Rz)(o:Int):Prop where
 o0:0<=o
 ok:ZOk rs o
 lf:∀k v,leftZ rs k=some v↔LastIn E is k v
theorem Ru.start:Ru E [] [] 0:=⟨by decide,(fun r h=>nomatch h),fun k v=>⟨(fun h=>by cases h),fun⟨pre,j,post,e,_⟩=>by cases pre<;>simp at e⟩⟩
theorem ZOk.mono{rs:List Rz}{o o':Int}(h:ZOk rs o)(l:o<=o'):ZOk rs o':=fun r hr=>by have:=h r hr;omega
theorem ZOk.app{rs qs:List Rz}{o:Int}(h:ZOk rs o)(k:ZOk qs o):ZOk (rs++qs) o:=fun r hr=>(mem_append.mp hr).elim (h r) (k r)
theorem Ru.row{is:List Nat}{rs qs:List Rz}{o g:Int}{j:Nat}(h:Ru E is rs o)(k:Ro m E j qs g)(g0:0<=g):Ru E (is++[j]) (rs++qs.map (shZ o)) (o+g):=by
 have o0:=h.o0;refine⟨by omega,(h.ok.mono (by omega)).app fun r hr=>?_,fun x v=>?_⟩
 ·obtain⟨q,hq,rfl⟩:=mem_map.mp hr;have:=k.ok q hq;show 0<=q.2.1+o/\1<=q.2.2.1/\q.2.1+o+q.2.2.1<=o+g;omega
 ·rw[wj h.ok o0 k.ok,Qi,k.lf,h.lf];refine or_congr Iff.rfl (and_congr (forall_congr' fun v'=>?_) Iff.rfl);rw[ne_eq,k.lf]
theorem Ru.side{is:List Nat}{rs qs:List Rz}{o g:Int}{j:Nat}(h:Ru E is rs o)(k:Ro m E j qs g)(ap:∀j'∈is,∀x v v',(x,v)∈E.getD j' []->(x,v')∉E.getD j []):Ru E (is++[j]) (rs++qs) (max o g):=by
 have o0:=h.o0;refine⟨by omega,(h.ok.mono (by omega)).app (k.ok.mono (by omega)),fun x v=>?_⟩;have ap':∀r∈rs,∀q∈qs,r.1≠q.1:=fun r hr q hq e=>by
  obtain⟨v1,h1⟩:=(QR h.ok).mpr ⟨r,hr,rfl⟩;obtain⟨v2,h2⟩:=(QR k.ok).mpr ⟨q,hq,rfl⟩;obtain⟨j',hj',v',hv'⟩:=Zc.mp ⟨v1,(h.lf _ _).mp h1⟩;exact ap j' hj' _ _ _ hv' (by rw[e];exact(k.lf _ _).mp h2)
 rw[Ky h.ok k.ok ap',Qi,k.lf,h.lf]
 ·refine or_congr Iff.rfl (and_congr (forall_congr' fun v'=>?_) Iff.rfl);rw[ne_eq,k.lf]
theorem Zt{j n:Nat}{k v:Int}:LastIn E (List.replicate (n+1) j) k v↔(k,v)∈E.getD j []:=by
 induction n with
 | zero=>
  rw[show List.replicate (0+1) j=[]++[j]from rfl,Qi];refine⟨fun h=>h.elim id fun⟨_,pre,j,post,e,_⟩=>by cases pre<;>simp at e,.inl⟩
 | succ n ih=>
  rw[List.replicate_succ',Qi,ih];exact⟨fun h=>h.elim id (·.2),.inl⟩
end
def QAt(H:Hp)(b:Addr)(r:Rz):Prop:=H b=some (.tup [.int r.1,.int r.2.1,.int r.2.2.1,.int r.2.2.2])
def RsAt(H:Hp)(l:Addr)(rs:List Rz):Prop:=∃as,H l=some (.lst (as.map V.ref))/\All2 (QAt H) as rs
theorem RsAt.keep{H H':Hp}{l:Addr}{rs:List Rz}(h:RsAt H l rs)(kt:∀c xs,H c=some (.tup xs)->H' c=some (.tup xs))(kl:∀c xs,H c=some (.lst xs)->H' c=some (.lst xs)):RsAt H' l rs:=by
 obtain⟨as,e,al⟩:=h;exact⟨as,kl _ _ e,al.mono fun c x h=>kt _ _ h⟩
def RoA(m:Rr)(E:List (List (Int×Int)))(H:Hp)(j:Nat)(v:V):Prop:=v = .non\/∃rs o a l,v = .ref a/\H a=some (.tup [.ref l,.int o])/\RsAt H l rs/\Ro m E j rs o
theorem RoA.keep{m:Rr}{E:List (List (Int×Int))}{H H':Hp}{j:Nat}{v:V}(h:RoA m E H j v)(kt:∀c xs,H c=some (.tup xs)->H' c=some (.tup xs))(kl:∀c xs,H c=some (.lst xs)->H' c=some (.lst xs)):RoA m E H' j v:=by
 rcases h with h | ⟨rs,o,a,l,e1,e2,e3,e4⟩
 ·exact .inl h
 ·exact .inr ⟨rs,o,a,l,e1,kt _ _ e2,e3.keep kt kl,e4⟩
theorem RoA.same{m:Rr}{E:List (List (Int×Int))}{H H':Hp}{j:Nat}{v:V}(h:RoA m E H j v)(s:Same H H'):RoA m E H' j v:=h.keep (fun c xs h=>s _ _ h) fun c xs h=>s _ _ h
noncomputable def rolK(m:Rr)(vs:List V):List (Key×V):=vs.zipIdx.map fun p=>(Sum.inr (m.nm p.2),p.1)
theorem qN(m:Rr)(vs:List V):(rolK m vs).length=vs.length:=by simp[rolK]
theorem KJ(m:Rr)(vs:List V)(v:V):rolK m (vs++[v])=rolK m vs++[(Sum.inr (m.nm vs.length),v)]:=by
 unfold rolK;rw[List.zipIdx_append,map_append];simp
theorem Ze{m:Rr}{vs:List V}{j:Nat}{v:V}(h:vs[j]?=some v):(rolK m vs)[j]?=some (Sum.inr (m.nm j),v):=by
 unfold rolK;rw[List.getElem?_map,List.getElem?_zipIdx,h];simp
theorem wI{m:Rr}{vs:List V}{k:Key}(h:k∈(rolK m vs).map (·.1)):∃j,j<vs.length/\k=Sum.inr (m.nm j):=by
 obtain⟨p,hp,rfl⟩:=mem_map.mp h;obtain⟨i,hi⟩:=List.mem_iff_getElem?.mp hp;have il:=(List.getElem?_eq_some_iff.mp hi).1;rw[qN]at il;have:=Ze (m:=m) (List.getElem?_eq_getElem il);rw[hi]at this;exact⟨i,il,by rw[Option.some.inj this]⟩
theorem wv{m:Rr}(G:Good m){i j:Nat}(hi:i<68)(hj:j<68)(e:m.nm i=m.nm j):i=j:=getD_inj G.nd (by rw[G.nl];omega) (by rw[G.nl];omega) e
theorem WI{m:Rr}(G:Good m):∀{vs:List V},vs.length<=61->((rolK m vs).map (·.1)).Nodup:=by
 intro vs hl;refine pairwise_iff_getElem.mpr fun i j hi hj hij e=>?_
 rw[length_map,qN]at hi hj;have a:=Ze (m:=m) (List.getElem?_eq_getElem hi);have b:=Ze (m:=m) (List.getElem?_eq_getElem hj);rw[getElem_map,getElem_map]at e;have ea:(rolK m vs)[i]'(by rw[qN];exact hi)=(Sum.inr (m.nm i),vs[i]):=by
  rw[List.getElem?_eq_getElem (by rw[qN];exact hi)]at a;exact Option.some.inj a
 have eb:(rolK m vs)[j]'(by rw[qN];exact hj)=(Sum.inr (m.nm j),vs[j]):=by
  rw[List.getElem?_eq_getElem (by rw[qN];exact hj)]at b;exact Option.some.inj b
 rw[ea,eb]at e;have:=wv G (by omega) (by omega) (Sum.inr.inj e);omega
theorem YG{m:Rr}(G:Good m){vs:List V}(hl:vs.length<=61){j:Nat}{v:V}(h:vs[j]?=some v):valV (rolK m vs) (Sum.inr (m.nm j))=some v:=kE (WI G hl) (Ze h)
theorem wJ{m:Rr}(G:Good m){vs:List V}(hl:vs.length<=61)(v:V):putK (rolK m vs) (Sum.inr (m.nm vs.length)) v=rolK m (vs++[v]):=by
 rw[KJ];refine YF fun z=>?_
 obtain⟨j,hj,e⟩:=wI z;have:=wv G (by omega) (by omega) (Sum.inr.inj e);omega
theorem All2.appZ{α:Type}{R:Addr->α->Prop}{as bs:List Addr}{xs ys:List α}(h:All2 R as xs)(k:All2 R bs ys):All2 R (as++bs) (xs++ys):=by
 have hl:=h.1;refine⟨by rw[List.length_append,List.length_append,h.1,k.1],fun i a x h1 h2=>?_⟩;by_cases hi:i<as.length
 ·rw[List.getElem?_append_left hi]at h1;rw[List.getElem?_append_left (by omega)]at h2;exact h.2 i a x h1 h2
 ·rw[List.getElem?_append_right (by omega)]at h1;rw[List.getElem?_append_right (by omega)]at h2;exact k.2 _ a x h1 (by rw[hl];exact h2)
theorem All2.consZ{α:Type}{R:Addr->α->Prop}{a:Addr}{as:List Addr}{x:α}{xs:List α}(h:R a x)(k:All2 R as xs):All2 R (a::as) (x::xs):=All2.appZ (as:=[a]) (xs:=[x]) (All2.snoc (as:=[]) (xs:=[]) .nil h) k
inductive sp_shiftedZ(vs:List V)(H:Hp)(Q:VK)(xk:XK):Prop
 | mk (l:Addr) (rs:List Rz) (o g:Int) (_:vs=[.ref l,.int o]) (_:RsAt H l rs) (_:rs.length<=200) (_:0<=o) (_:o<=10^80) (_:ZOk rs g) (_:g<=10^60) (_:∀(l':Addr) (H':Hp),Same H H'->RsAt H' l' (rs.map (shZ o))->Q (.ref l') H'):sp_shiftedZ vs H Q xk
noncomputable def oZ:Option Int->V
 | none=>.non
 | some v=>.int v
inductive sp_leftZ(vs:List V)(H:Hp)(Q:VK)(xk:XK):Prop
 | mk (l:Addr) (rs:List Rz) (k g:Int) (_:vs=[.ref l,.int k]) (_:RsAt H l rs) (_:rs.length<=200) (_:ZOk rs g) (_:g<=10^80) (_:Q (oZ (leftZ rs k)) H):sp_leftZ vs H Q xk
def RoldAt(m:Rr)(E:List (List (Int×Int)))(H:Hp)(vs:List V):Prop:=∀j v,vs[j]?=some v->RoA m E H j v
inductive sp_rolledZ(vs:List V)(H:Hp)(Q:VK)(xk:XK):Prop
 | mk (fa d ll:Addr) (m:Rr) (E:List (List (Int×Int))) (i:Nat) (y:Str) (f:Fm) (ws:List V) (_:vs=[.ref fa,.ref d,.ref ll]) (_:FormAt H fa f) (_:m.parts[i]?=some (y,f)) (_:Good m) (_:m.parts.length<=61) (_:EndOk m.limbs m.parts E) (_:E.length=m.parts.length) (_:H d=some (.dK (rolK m ws))) (_:ws.length=i) (_:RoldAt m E H ws) (_:H ll=some (.lst ((nmsOf m.limbs).map V.str))) (_:∀(v:V) (H':Hp),Same H H'->RoA m E H' i v->Q v H'):sp_rolledZ vs H Q xk
theorem flatZ:∀hs:List Str,(hs.map V.str).all flatV=true
 | []=>rfl
 | h::r=>by rw[map_cons,all_cons,flatZ r];rfl
theorem eqS(x y:Str):eqV (.str x) (.str y)=decide (x=y):=by
 show(x==y)=_;by_cases c:x=y
 ·subst c;simp
 ·rw[decide_eq_false c];exact beq_eq_false_iff_ne.mpr c
theorem lidx{xs:List Str}(nd:xs.Nodup){j:Nat}{x:Str}(h:xs[j]?=some x):(xs.map V.str)[j]?=some (.str x)/\eqV (.str x) (.str x)=true/\∀(n:Nat) (z:V),n<j->(xs.map V.str)[n]?=some z->eqV z (.str x)=false:=by
 refine⟨by rw[List.getElem?_map,h];rfl,by rw[eqS,decide_eq_true rfl],fun n z hn hz=>?_⟩;rw[List.getElem?_map]at hz;obtain⟨w,hw,rfl⟩:=Option.map_eq_some_iff.mp hz;rw[eqS];refine decide_eq_false fun e=>?_
 subst e;have a:=qz nd hw;have b:=qz nd h;omega
section
variable{m:Rr}{E:List (List (Int×Int))}{i:Nat}{y:Str}
theorem xL(lE:E.length=m.parts.length){i:Nat}(hi:i<m.parts.length):E[i]?=some (E.getD i []):=by rw[getD_eq_getElem?_getD,List.getElem?_eq_getElem (by omega)];rfl
theorem Zb(oE:EndOk m.limbs m.parts E)(lE:E.length=m.parts.length){f:Fm}(hp:m.parts[i]?=some (y,f))(k v:Int):(k,v)∈E.getD i []↔EndIs m.limbs m.parts E f k v:=(oE i _ _ hp (xL lE (List.getElem?_eq_some_iff.mp hp).1)).2 k v
theorem no_last'{k v:Int}:¬LastIn E [] k v:=fun⟨pre,j,post,e,_⟩=>by cases pre<;>simp at e
theorem Ro.rise(G:Good m)(oE:EndOk m.limbs m.parts E)(lE:E.length=m.parts.length){x:Str}{h n:Int}(hp:m.parts[i]?=some (y,.rise x h n)):Ro m E i [(((ixOf (nmsOf m.limbs) x:Nat):Int),0,n,h)] n:=by
 obtain⟨_,_,_,n1,_,g⟩:=(G.ps i _ hp).2.f;refine⟨fun r hr=>?_,g.symm,fun k v=>?_,by show 1<=200;decide⟩
 ·rw[mem_singleton.mp hr];exact⟨Int.le_refl _,n1,by show 0+n<=n;omega⟩
 ·rw[Zb oE lE hp];show(lfS k (-1,none) (((ixOf (nmsOf m.limbs) x:Nat):Int),0,n,h)).2=some v↔_;unfold lfS EndIs;constructor
  ·intro e;split at e
   ·rename_i c;have e':h=v:=Option.some.inj e;exact .inr ⟨x,n,by rw[e'],c.1.symm⟩
   ·cases e
  ·rintro(z | ⟨x',n',e1,e2⟩)
   ·exact absurd z no_last'
   ·injection e1 with a b c;subst a b c;rw[if_pos ⟨e2.symm,by show -1<0+n;omega⟩]
theorem Ro.idle(oE:EndOk m.limbs m.parts E)(lE:E.length=m.parts.length){f:Fm}(hp:m.parts[i]?=some (y,f))(hn:f.ns=[])(hr:∀x h n,f≠.rise x h n){n:Int}(g:m.lg i=n):Ro m E i [] n:=by
 refine⟨(fun r h=>nomatch h),g.symm,fun k v=>?_,Nat.zero_le _⟩;rw[Zb oE lE hp];refine⟨(fun h=>by cases h),?_⟩;rintro(z | ⟨x',n',e1,e2⟩)
 ·unfold inP at z;rw[hn]at z;exact absurd z no_last'
 ·exact absurd e1 (hr _ _ _)
theorem Ru.done(oE:EndOk m.limbs m.parts E)(lE:E.length=m.parts.length){f:Fm}(hp:m.parts[i]?=some (y,f))(hr:∀x h n,f≠.rise x h n){is:List Nat}{rs:List Rz}{o:Int}(h:Ru E is rs o)(hi:∀k v,LastIn E is k v↔LastIn E (inP m.parts f) k v)(g:o=m.lg i)(l:rs.length<=200):Ro m E i rs o:=by
 refine⟨h.ok,g,fun k v=>?_,l⟩;rw[Zb oE lE hp,h.lf,hi];exact⟨.inl,fun z=>z.elim id fun⟨x',n',e1,_⟩=>absurd e1 (hr _ _ _)⟩
theorem Zv(G:Good m){j:Nat}(h:j<m.parts.length):1<=m.lg j/\m.lg j<=10^60:=by
 have o:=(G.ps j _ (List.getElem?_eq_getElem h)).2;exact⟨o.g1,o.g2⟩
theorem xF(G:Good m)(oE:EndOk m.limbs m.parts E)(lE:E.length=m.parts.length)(h61:m.parts.length<=61){j j':Nat}(hj:j<m.parts.length)(hj':j'<m.parts.length)(ap:∀k∈m.hd j',¬k∈m.hd j):∀x v v',(x,v)∈E.getD j' []->(x,v')∉E.getD j []:=by
 have W:=G.wf h61;have key:=zq G W (M:=E.map fun e=>e.map (·.1)) (by rw[length_map,lE]) (kf lE oE);intro x v v' h h';have a:=key j' hj';have b:=key j hj;rw[getD_map]at a b;exact ap x (by rw[<-a];exact QS.mpr ⟨v,h⟩) (by rw[<-b];exact QS.mpr ⟨v',h'⟩)
noncomputable def zD(r:Rz):PyData:=.tuple [.int r.1,.int r.2.1,.int r.2.2.1,.int r.2.2.2]
theorem xK{H:Hp}:∀{as:List Addr} {rs:List Rz},All2 (QAt H) as rs->DVs H (as.map V.ref) (rs.map zD):=Zq (R:=QAt H) (D:=zD) fun _ r h=>show DV H _ (.tuple [.int r.1,.int r.2.1,.int r.2.2.1,.int r.2.2.2])from .tup h (.cons (.int _) (.cons (.int _) (.cons (.int _) (.cons (.int _) .nil))))
theorem WX(rs:List Rz):Shp 2 (.list (rs.map zD)):=Shp.lst fun d hd=>by
 obtain⟨r,_,rfl⟩:=mem_map.mp hd;exact Shp.tup fun d hd=>by
  simp only[mem_cons,not_mem_nil,or_false]at hd;rcases hd with rfl | rfl | rfl | rfl<;>exact .int
theorem yG(rs:List Rz):PyData.eqv (.list (rs.map zD)) (.list [])=decide (rs=[]):=by
 cases rs with
 | nil=>rfl
 | cons r s=>rfl
theorem FormAt.keepZ{H H':Hp}{a:Addr}{f:Fm}(k:∀c xs,H c=some (.tup xs)->H' c=some (.tup xs))(h:FormAt H a f):FormAt H' a f:=by
 cases f with
 | row ps=>obtain⟨c,h1,h2⟩:=h;exact⟨c,k _ _ h1,k _ _ h2⟩
 | side ps=>obtain⟨c,h1,h2⟩:=h;exact⟨c,k _ _ h1,k _ _ h2⟩
 | hold n=>exact k _ _ h
 | ring x n=>exact k _ _ h
 | rise x g n=>exact k _ _ h
 | again x n=>exact k _ _ h
theorem WV(ks:List Int):Shp 1 (.list (ks.map PyData.int)):=Shp.lst fun d hd=>by
 obtain⟨k,_,rfl⟩:=mem_map.mp hd;exact .int
theorem wN(ks:List Int):SeqAt.shaped (.list (ks.map PyData.int))=true:=(WV ks).ok (by decide)
theorem W6(ks:List Int):PyData.eqv (.list (ks.map PyData.int)) (.list (ks.map PyData.int))=true:=SeqAt.eqv_refl _ (WV ks).1
theorem WW(e:List (Int×Int)):Shp 2 (.list (e.map prD)):=Shp.lst fun d hd=>by
 obtain⟨r,_,rfl⟩:=mem_map.mp hd;exact Shp.tup fun d hd=>by
  simp only[mem_cons,not_mem_nil,or_false]at hd;rcases hd with rfl | rfl<;>exact .int
theorem wO(e:List (Int×Int)):SeqAt.shaped (.list (e.map prD))=true:=(WW e).ok (by decide)
theorem W7(e:List (Int×Int)):PyData.eqv (.list (e.map prD)) (.list (e.map prD))=true:=SeqAt.eqv_refl _ (WW e).1
theorem Zp{H:Hp}:∀ks:List Int,DVs H (ks.map V.int) (ks.map PyData.int)
 | []=>.nil
 | k::r=>.cons (.int k) (Zp r)
theorem Kt(x:V)(n:Nat):(List.replicate n [x]).flatten=List.replicate n x:=by
 induction n with
 | zero=>rfl
 | succ n ih=>rw[replicate_succ,flatten_cons,ih];rfl
theorem WG{α:Type}{R:α->α->Prop}{l:List α}(h:l.Pairwise R){t:Nat}{j:α}(hj:l[t]?=some j):∀j'∈l.take t,R j' j:=fun j' hj'=>by
 obtain⟨i,hi,e⟩:=mem_iff_getElem.mp hj';rw[length_take]at hi;rw[List.getElem_take]at e;obtain⟨ht,rfl⟩:=List.getElem?_eq_some_iff.mp hj;rw[<-e];exact pairwise_iff_getElem.mp h i t (by omega) ht (by omega)
def MxZ(m:Rr)(is:List Nat)(o:Int):Prop:=0<=o/\o<=10^60/\(∀j∈is,m.lg j<=o)/\(is=[]\/∃j∈is,o=m.lg j)
theorem MxZ.step{is:List Nat}{o:Int}{j:Nat}(h:MxZ m is o)(l:1<=m.lg j/\m.lg j<=10^60)(z:is=[]->o=0):MxZ m (is++[j]) (max o (m.lg j)):=by
 obtain⟨h0,h1,h2,h3⟩:=h;refine⟨by omega,by omega,fun x hx=>?_,.inr ?_⟩
 ·rcases mem_append.mp hx with y | y
  ·have:=h2 x y;omega
  ·rw[mem_singleton.mp y];omega
 ·rcases Int.lt_or_le o (m.lg j)with c | c
  ·exact⟨j,mem_append_right _ mem_cons_self,by omega⟩
  ·rcases h3 with e | ⟨x,hx,e⟩
   ·have:=z e;omega
   ·exact⟨x,mem_append_left _ hx,by omega⟩
theorem MxZ.done{is:List Nat}{o g:Int}(h:MxZ m is o)(ne:is≠[])(a:∃j∈is,g=m.lg j)(b:∀j∈is,m.lg j<=g):o=g:=by
 obtain⟨_,_,h2,h3⟩:=h;obtain⟨j,hj,e⟩:=a;have:=h2 j hj;rcases h3 with z | ⟨x,hx,e'⟩
 ·exact absurd z ne
 ·have:=b x hx;omega
theorem Ro.again(oE:EndOk m.limbs m.parts E)(lE:E.length=m.parts.length)(G:Good m)(h61:m.parts.length<=61){k:Int}{j:Nat}{qs:List Rz}{g:Int}(hp:m.parts[i]?=some (y,.again k (m.nm j)))(hj:j<i)(R:Ro m E j qs g)(e:qs=[])(eg:k*g=m.lg i):Ro m E i [] (k*g):=by
 subst e;have hi:=(List.getElem?_eq_some_iff.mp hp).1;have eIn:inP m.parts (.again k (m.nm j))=[j]:=JK G (G.wf h61) (is:=[j]) fun j' hj'=>by have:=mem_singleton.mp hj';omega
 refine⟨(fun r h=>nomatch h),eg,fun x v=>?_,Nat.zero_le _⟩;rw[Zb oE lE hp,R.lf];unfold EndIs;rw[eIn];have:=Zt (E:=E) (j:=j) (n:=0) (k:=x) (v:=v);exact⟨fun h=>.inl (this.mpr h),fun h=>h.elim this.mp fun⟨_,_,e1,_⟩=>by cases e1⟩
theorem xn(a b:Int):(if b>a then b else a)=max a b:=by split<;>omega
theorem wR{B:Int}(b0:0<=B):∀{l:List Int},(∀x∈l,0<=x/\x<=B)->0<=l.sum/\l.sum<=l.length*B
 | [],_=>by simp
 | x::r,h=>by
  have a:=h x mem_cons_self;have ih:=wR b0 (l:=r) fun y hy=>h y (mem_cons_of_mem _ hy)
  rw[sum_cons,length_cons,show((r.length+1:Nat):Int)=(r.length:Int)+1 by omega,Int.add_mul];omega
end
end Rm
theorem L2.fsc{N P:List PySem.Str}{sc:PySem.Scope}(a:sc.kind = .function:=by rfl)(b:sc.isCoroutine=false:=by rfl)(c:sc.isGenerator=false:=by rfl)(d:N.Nodup:=by decide +kernel)(e:N.take P.length=P:=by rfl)(f:∀x∈P,sc.names.lookup x=some .local\/sc.names.lookup x=some .cell:=by decide +kernel)(g:∀y∈sc.names,y.2≠.free:=by decide +kernel):L2.FnScope N P sc:=⟨a,b,c,d,e,f,g⟩
structure PySem.W.Fast:Prop where
  (tw14550348479232240752 tw12274614211668273458 tw10415707736689066413 tw17897592813663256853 tw9521828389935119387 tw8286780580039656943 tw8530867865981042552 tw16930641690122490321 tw3799280937102152046 tw4979252870323961605 tw13462678539162605523 tw8896864526376013964 tw5011046969297888869 tw7659944278100302181 tw10329375789110776494 tw7925787466726505984 tw16198975688779804491 tw12188817132053475111 tw5191372203345156141 tw14150050349912769622 tw8188292706009265029 tw1323548528987643991 tw10418316142702100732 tw1351202010976426546 tw112487304495582823 tw897833939716977248 tw18148948678793466248 tw10778882414993843474 tw9722377885675240863 tw17883004489005411832 tw6009514126834773278 tw15469085974939904882 tw7968066566023051858 tw18253926768730006071 tw17849048543980225457 tw8572998021090895055 tw15600331058785894280 tw1050896111166439577 tw13622221795623845213 tw3155132572032487141 tw12929017674353997261 tw12282196011737396807 tw8432265237752826024 tw6978996569773355310 tw4539886458337886919 tw17179626356106306010 tw3628550902190620074 tw15780400707181158988 tw8031479730139661312 tw10698351652067853317 tw3879182866691010196 tw6668616789893786206 tw9513518383042830213 tw9830370305651895161 tw2435741917014116228 tw11691654891899421011 tw15093683152749407731 tw17779737867610137900 tw3649591555604263918 tw17191402231395199069 tw2611761105151739619 tw465939438356717556 tw10619808653913175104 tw4653964613371469614 tw560154999581517808 tw10046169438244018813 tw732823345261804752 tw13189194359255287168 tw10993166718998670631 tw13750239307710539363 tw7920315005024402684 tw1192860237985973231 tw16901813153195500568 tw850971467385627801 tw13626786103352076332 tw8207444852597648580 tw535079339638673286 tw3279816105174213540 tw11167274079537344378 tw4651113168391703661 tw17205070043484653380 tw4237263054973587133 tw9275532425016350546 tw16288491489464791011 tw16585432262563172211 tw11407711094505817722 tw16397391592973406812 tw13742583550402860613 tw9764562254061947571 tw17626309312238906549 tw2025705570919173059 tw953379216411734253 tw11096435744480628670 tw493019470772959928 tw17462962318003492304 tw16820367929441342809 tw592791828184391126 tw12028864324785348899 tw12912343226487605619 tw558276589695716821 tw12025362943427148709 tw5814037914524265289 tw6710359850929026681 tw5969320282655590335 tw14090672510413403401 tw10115581825623213410 tw6227707242538271958 tw13677510055402779683 tw4281283033708078796 tw4730876406553307020 tw9041003648339684472 tw3616411008611619527 tw8056031355162669055 tw3654668312973393962 tw15617718402298854862 tw16985433930828952583 tw18174141288788899030 tw2253398261837486717 tw1678391025322120007 tw11016342512203227922 tw3667303204723826113 tw7630859769114226989 tw8106561856287609238 tw11333534850984721436 tw16439156744976671591 tw1114171405796941671 tw15505147284354601895 tw15700160302268305615 tw5608754106374413366 tw10619151122561232887 tw9005129222158568110:True)
theorem Rm.iteE0{b:Bool}{A B:Prop}(h:B)(e:b=false:=by decide +kernel):if b=true then A else B:=Rm.iteB0 e h
theorem Rm.iteE1{b:Bool}{A B:Prop}(h:A)(e:b=true:=by decide +kernel):if b=true then A else B:=Rm.iteB1 e h
namespace K15
open PySem L2 Rm
noncomputable def top(i:Nat):Stmt:=PySem.Challenge.pw_camplay_k15_whole_unrolled.main.body.getD i (.Pass ⟨0,0,0,0⟩)
noncomputable abbrev Qu:Stmt:=top 7
theorem qp:FnScope ["named","numbers","number","one"] ["named"] (defScope Qu):=fsc
noncomputable abbrev Q8:Stmt:=top 8
theorem YJ:FnScope ["form"] ["form"] (defScope Q8):=fsc
noncomputable abbrev Zg:Stmt:=top 10
theorem QI:FnScope ["book","numbers","found","name","form"] ["book"] (defScope Zg):=fsc
noncomputable abbrev kw:Stmt:=top 11
theorem qU:FnScope ["book","limbs","found","part","inside","form","left","other"] ["book"] (defScope kw):=fsc
noncomputable abbrev Zh:Stmt:=top 12
theorem ZI:FnScope ["book","found","left"] ["book"] (defScope Zh):=fsc
noncomputable abbrev qC:Stmt:=top 13
theorem Qf:FnScope ["row","moves","limbs","number","limb"] ["row","moves","limbs"] (defScope qC):=fsc
noncomputable abbrev QH:Stmt:=top 14
theorem yZ:FnScope ["form","inside"] ["form","inside"] (defScope QH):=fsc
noncomputable abbrev Ql:Stmt:=top 15
theorem JP:FnScope ["book","moves","found","row","inside","form","length"] ["book"] (defScope Ql):=fsc
noncomputable abbrev qO:Stmt:=top 17
theorem zY:FnScope ["_law_script","_law_k"] ["_law_script","_law_k"] (defScope qO):=fsc
noncomputable abbrev Qe:Stmt:=top 18
theorem qQ:FnScope ["_law_cell","_law_turn","_law_k"] ["_law_cell","_law_turn"] (defScope Qe):=fsc
noncomputable abbrev Qd:Stmt:=top 19
theorem jL:FnScope ["_law_cell","_law_many","_law_found","_law_number_here","_law_k"] ["_law_cell","_law_many"] (defScope Qd):=fsc
noncomputable abbrev qB:Stmt:=top 20
theorem jV:FnScope ["_law_cell","_law_many","_law_letters","_law_some","_law_base","_law_at","_law_names_here","_law_k","_law_two"] ["_law_cell","_law_many"] (defScope qB):=fsc
noncomputable abbrev Qa:Stmt:=top 21
theorem qP:FnScope ["_law_cell","_law_mixed","_law_least","_law_way","_law_power"] ["_law_cell","_law_mixed","_law_least"] (defScope Qa):=fsc
noncomputable abbrev Q7:Stmt:=top 22
theorem YI:FnScope ["_law_room_here","_law_form","_law_hands","_law_long"] ["_law_room_here","_law_form","_law_hands","_law_long"] (defScope Q7):=fsc
noncomputable abbrev Qc:Stmt:=top 23
theorem J0:FnScope ["_law_room_here","_law_cell","_law_some","_law_beats","_law_limb","_law_high"] ["_law_room_here","_law_cell","_law_some"] (defScope Qc):=fsc
noncomputable abbrev Qt:Stmt:=top 24
theorem Q0:FnScope ["_law_room_here","_law_number_here","_law_many"] ["_law_room_here","_law_number_here"] (defScope Qt):=fsc
noncomputable abbrev qA:Stmt:=top 25
theorem jN:FnScope ["_law_room_here","_law_some","_law_there_here","_law_hands","_law_k","_law_first","_law_step","_law_one","_law_here"] ["_law_room_here","_law_some"] (defScope qA):=fsc
noncomputable abbrev Jb:Stmt:=top 26
theorem jy:FnScope ["_law_room_here","_law_cell","_law_some","_law_there_here","_law_long","_law_hands","_law_one","_law_names_here","_law_times"] ["_law_room_here","_law_cell","_law_some"] (defScope Jb):=fsc
noncomputable abbrev QG:Stmt:=top 27
theorem jO:FnScope ["_law_script","_law_first","_law_names_here","_law_limbs","_law_k","_law_at","_law_high","_law_room_here","_law_cell","_law_some"] ["_law_script"] (defScope QG):=fsc
noncomputable abbrev JZ:Stmt:=top 28
theorem zZ:FnScope ["_law_raises","_law_later"] ["_law_raises","_law_later"] (defScope JZ):=fsc
noncomputable abbrev Qb:Stmt:=top 29
theorem jz:FnScope ["_law_form","_law_rolls","_law_limbs","_law_raises","_law_over","_law_names_here","_law_one","_law_name"] ["_law_form","_law_rolls","_law_limbs"] (defScope Qb):=fsc
noncomputable abbrev QF:Stmt:=top 30
theorem jT:FnScope ["_law_raises","_law_limb","_law_last","_law_left_here","_law_hand","_law_first","_law_beats","_law_high"] ["_law_raises","_law_limb"] (defScope QF):=fsc
noncomputable abbrev yl:Stmt:=top 31
theorem J1:FnScope ["_law_script","_law_room_here","_law_book","_law_limbs","_law_rolls","_law_long","_law_hands","_law_left_here","_law_k","_law_name","_law_form","_law_raises","_law_over","_law_due"] ["_law_script"] (defScope yl):=fsc
set_option genInjectivity false in
set_option genSizeOf false in
structure Ad where
 Jv:Addr
 Jx:FuncData
 qF:Addr
 qG:FuncData
 QL:Addr
 QO:FuncData
 zA:Addr
 zG:FuncData
 QM:Addr
 QP:FuncData
 JV:Addr
 JY:FuncData
 qt:Addr
 qw:FuncData
 Qg:Addr
 Qh:FuncData
 Jl:Addr
 Jo:FuncData
 j7:Addr
 Ja:FuncData
 Jf:Addr
 Jh:FuncData
 JU:Addr
 JX:FuncData
 j6:Addr
 j9:FuncData
 J3:Addr
 qb:FuncData
 Je:Addr
 Jg:FuncData
 Ju:Addr
 Jw:FuncData
 JT:Addr
 JW:FuncData
 JF:Addr
 JH:FuncData
 qr:Addr
 qv:FuncData
 Jm:Addr
 Jp:FuncData
 JG:Addr
 JI:FuncData
 qq:Addr
 qu:FuncData
 kH:Addr
 Yf:FuncData
 JB:Addr
structure Txt(K:Frg)(mg:Str->Option Value)(t:Ad):Prop where
 Qn:Fun K "numbers_of" "numbers_of" Qu t.Jv t.Jx
 zo:mg "numbers_of"= some (.ref t.Jv)
 za:Binds K t.Jx ["named"] []
 Zj:Fun K "names_in" "names_in" Q8 t.qF t.qG
 kc:mg "names_in"= some (.ref t.qF)
 YV:Binds K t.qG ["form"] []
 yt:Fun K "inner" "inner" Zg t.QL t.QO
 kZ:mg "inner"= some (.ref t.QL)
 kF:Binds K t.QO ["book"] []
 YW:Fun K "ends" "ends" kw t.zA t.zG
 wq:mg "ends"= some (.ref t.zA)
 KQ:Binds K t.zG ["book"] []
 yu:Fun K "moved" "moved" Zh t.QM t.QP
 Ka:mg "moved"= some (.ref t.QM)
 kG:Binds K t.QP ["book"] []
 zd:Fun K "check_side" "check_side" qC t.JV t.JY
 yO:mg "check_side"= some (.ref t.JV)
 yr:Binds K t.JY ["row","moves","limbs"] []
 zS:Fun K "length_of" "length_of" QH t.qt t.qw
 Yr:mg "length_of"= some (.ref t.qt)
 Ya:Binds K t.qw ["form","inside"] []
 ZZ:Fun K "lengths" "lengths" Ql t.Qg t.Qh
 Kz:mg "lengths"= some (.ref t.Qg)
 Kj:Binds K t.Qh ["book"] []
 JS:Fun K "_law_cell_at" "_law_cell_at" qO t.Jl t.Jo
 qK:mg "_law_cell_at"= some (.ref t.Jl)
 qD:Binds K t.Jo ["_law_script","_law_k"] []
 JE:Fun K "_law_window" "_law_window" Qe t.j7 t.Ja
 qk:mg "_law_window"= some (.ref t.j7)
 qe:Binds K t.Ja ["_law_cell","_law_turn"] []
 qg:Fun K "_law_stream" "_law_stream" Qd t.Jf t.Jh
 q0:mg "_law_stream"= some (.ref t.Jf)
 qW:Binds K t.Jh ["_law_cell","_law_many"] []
 zc:Fun K "_law_names" "_law_names" qB t.JU t.JX
 yN:mg "_law_names"= some (.ref t.JU)
 yq:Binds K t.JX ["_law_cell","_law_many"] []
 JD:Fun K "_law_number" "_law_number" Qa t.j6 t.j9
 qj:mg "_law_number"= some (.ref t.j6)
 qd:Binds K t.j9 ["_law_cell","_law_mixed","_law_least"] []
 JN:Fun K "_law_add" "_law_add" Q7 t.J3 t.qb
 qc:mg "_law_add"= some (.ref t.J3)
 J2:Binds K t.qb ["_law_room_here","_law_form","_law_hands","_law_long"] []
 qf:Fun K "_law_simple" "_law_simple" Qc t.Je t.Jg
 qZ:mg "_law_simple"= some (.ref t.Je)
 qV:Binds K t.Jg ["_law_room_here","_law_cell","_law_some"] []
 Qm:Fun K "_law_there" "_law_there" Qt t.Ju t.Jw
 zn:mg "_law_there"= some (.ref t.Ju)
 Q9:Binds K t.Jw ["_law_room_here","_law_number_here"] []
 zb:Fun K "_law_apart" "_law_apart" qA t.JT t.JW
 yM:mg "_law_apart"= some (.ref t.JT)
 yp:Binds K t.JW ["_law_room_here","_law_some"] []
 QY:Fun K "_law_naming" "_law_naming" Jb t.JF t.JH
 ZQ:mg "_law_naming"= some (.ref t.JF)
 ZN:Binds K t.JH ["_law_room_here","_law_cell","_law_some"] []
 zR:Fun K "_law_room" "_law_room" QG t.qr t.qv
 Yq:mg "_law_room"= some (.ref t.qr)
 y9:Binds K t.qv ["_law_script"] []
 Qv:Fun K "_law_shifted" "_law_shifted" JZ t.Jm t.Jp
 Zw:mg "_law_shifted"= some (.ref t.Jm)
 Zi:Binds K t.Jp ["_law_raises","_law_later"] []
 QZ:Fun K "_law_rolled" "_law_rolled" Qb t.JG t.JI
 ZR:mg "_law_rolled"= some (.ref t.JG)
 ZO:Binds K t.JI ["_law_form","_law_rolls","_law_limbs"] []
 zQ:Fun K "_law_left" "_law_left" QF t.qq t.qu
 Yp:mg "_law_left"= some (.ref t.qq)
 y8:Binds K t.qu ["_law_raises","_law_limb"] []
 WM:Fun K "law" "law" yl t.kH t.Yf
 xR:mg "law"= some (.ref t.kH)
 xW:Binds K t.Yf ["_law_script"] []
 WZ:mg "dict"= none
 Qz:mg "enumerate"= none
 WO:mg "int"= none
 Jn:mg "len"= none
 kJ:mg "max"= none
 WP:mg "min"= none
 qS:mg "range"= none
 xG:mg "set"= none
 zf:mg "sorted"= none
 KU:mg "sum"= none
 Wa:mg "tuple"= none
 xH:mg "zip"= none
 yz:mg "MOST_NAMES"= some (.ref t.JB)
 Jz:TabK K t.JB [("row",.flat (.int 8)),("side",.flat (.int 4))]
section
variable{P:Program}{w:World}{K:Frg}{mg:Str->Option Value}{base:Heap}{t:Ad}
theorem ZW(T:Txt K mg t):FnOk P w K mg base CX0 1 t.Jv t.Jx ["named"] (sp_numbers_of):=by
 refine T.Qn.ok qp (fun vs H Q E h=>?_) (fun cdv A outer s H vs Q E hr h=>?_)
 ·cases h;subst_vars;rfl
 obtain⟨l,as,xs,rfl,el,hl,ha,nd,h100,q⟩:=h;refine⟨_,(jc (jk (i:=1) qp.nd rfl (.inl rfl) ZE)
  (jc (Jd PassesOwn.never rfl (yV (by rfl) T.Qz (ja (pv 0) jd)) (q5 rfl (jA (jo (i:=2) qp.nd rfl (.inl rfl)) (jA (jo (i:=3) qp.nd rfl (.inl rfl)) qo)))
   (je (yW (jY hr) (pv 1) (ji jr (pv 3) jb) (pv 2) rfl)))
  (je (jx (pv 1))))),?_⟩
 refine jD (σ':=[some _,none,none,none]) rfl ?_;have sz:(200:Nat)<sizeLine:=by decide
 walk_at"g";walk_at"f d hd H1 s1 t1";exists⟨l,_,rfl,SqL.of (s1 _ _ el),?_⟩;refine Zs (xs:=as.map V.ref) (fun i σ H'=>∃o2 o3:Option V,σ=[some (.ref l),some (.ref d),o2,o3]/\Same H H'/\H' d=some (.dK (numK (xs.take i)))) ⟨_,_,rfl,s1,t1⟩ ?_ ?_ ?_
 ·rintro i σ H' _ ⟨o2,o3,rfl,sm,ed⟩;exact SqL.of (sm _ _ el)
 ·rintro i v σ H' P H'' hx ⟨o2,o3,rfl,sm,ed⟩ sP tP;rw[List.getElem?_map]at hx;obtain⟨a,ea,rfl⟩:=Option.map_eq_some_iff.mp hx;have hi:=(List.getElem?_eq_some_iff.mp ea).1;have ex:xs[i]?=some xs[i]:=List.getElem?_eq_getElem (by omega);obtain⟨r,er⟩:=ha i a _ ea ex;have s2:=sm.trans sP;have tl:(xs.take i).length=i:=by rw[length_take];omega
  refine QE (SqT.of tP) ?_;exists ixTm (SqT.of (s2 _ _ er)) rfl ?_;refine⟨d,_,rfl,DPut.k (k:=Sum.inr xs[i]) (sP _ _ ed) (by rw[ww,tl];omega),?_⟩;have hk:(Sum.inr xs[i]:Key)∉(numK (xs.take i)).map (·.1):=fun z=>by
   rw[yi]at z;obtain⟨y,hy,e⟩:=mem_map.mp z;have e':y=xs[i]:=Sum.inr.inj e;subst e';obtain⟨j,hj,e⟩:=mem_iff_getElem.mp hy;rw[List.getElem_take]at e;rw[tl]at hj;exact absurd e (pairwise_iff_getElem.mp nd j i (by omega) (by omega) hj)
  refine⟨_,_,rfl,fun b u h=>(jm (jf h hd)).trans (s2 _ _ h),?_⟩;rw[jh,YF hk,take_snoc ex,KD,tl]
 rintro σ' H' ⟨o2,o3,rfl,sm,ed⟩;rw[length_map,hl,take_length]at ed;walk_at"g";exact q d H' sm hd ed
theorem YC(T:Txt K mg t):FnOk P w K mg base CX0 1 t.qF t.qG ["form"] (sp_names_in):=by
 refine T.Zj.ok YJ (fun vs H Q E h=>?_) (fun cdv A outer s H vs Q E hr h=>?_)
 ·cases h;subst_vars;rfl
 obtain⟨a,f,rfl,hF,q⟩:=h;refine⟨_,(jc (jP (jn xr (ji jr (pv 0) jb) (WC (v:=.ref t.JB) (by rfl) T.yz rfl) (by with_unfolding_all rfl))
   (je (jx (ji jr (pv 0) jb)))
   jw)
  (je (jx (wA (jn Jj (ji jr (pv 0) jb) jv (nomark _)) (JJ xB (pv 0) (JM jb) qT) (Jr jd))))),?_⟩
 refine jD (σ':=[some _]) rfl ?_;have sz:(200:Nat)<sizeLine:=by decide
 cases f with
 | hold n=>
  have ha:H a=some (.tup _):=hF;exists ixTm (SqT.of ha) rfl ?_;exists⟨_,_,_,rfl,rfl,T.Jz,?_⟩;exists iteE0 ?_;exists ixTm (SqT.of ha) rfl ?_;exists iteE0 ?_;exists⟨Nat.zero_le _,?_⟩;walk_at"f b hb H1 s1 t1";exact q b H1 s1 t1
 | ring x n=>
  have ha:H a=some (.tup _):=hF;exists ixTm (SqT.of ha) rfl ?_;exists⟨_,_,_,rfl,rfl,T.Jz,?_⟩;exists iteE0 ?_;exists ixTm (SqT.of ha) rfl ?_;exists iteE0 ?_;exists⟨Nat.zero_le _,?_⟩;walk_at"f b hb H1 s1 t1";exact q b H1 s1 t1
 | rise x v n=>
  have ha:H a=some (.tup _):=hF;exists ixTm (SqT.of ha) rfl ?_;exists⟨_,_,_,rfl,rfl,T.Jz,?_⟩;exists iteE0 ?_;exists ixTm (SqT.of ha) rfl ?_;exists iteE0 ?_;exists⟨Nat.zero_le _,?_⟩;walk_at"f b hb H1 s1 t1";exact q b H1 s1 t1
 | row ps=>
  obtain⟨b,ha,hb⟩:=hF;exists ixTm (SqT.of ha) rfl ?_;exists⟨_,_,_,rfl,rfl,T.Jz,?_⟩;exists iteE1 ?_;exists ixTm (SqT.of ha) rfl ?_;exact q b H (Same.refl _) hb
 | side ps=>
  obtain⟨b,ha,hb⟩:=hF;exists ixTm (SqT.of ha) rfl ?_;exists⟨_,_,_,rfl,rfl,T.Jz,?_⟩;exists iteE1 ?_;exists ixTm (SqT.of ha) rfl ?_;exact q b H (Same.refl _) hb
 | again k x=>
  have ha:H a=some (.tup _):=hF;exists ixTm (SqT.of ha) rfl ?_;exists⟨_,_,_,rfl,rfl,T.Jz,?_⟩;exists iteE0 ?_;exists ixTm (SqT.of ha) rfl ?_;exists iteE1 ?_;exists⟨a,_,rfl,SqT.of ha,(by show¬(HT.sIx 3 0 (some 2)=0/\HT.sIx 3 3 none=3);decide),?_⟩;walk_at"f b hb H1 s1 t1";exact q b H1 s1 t1
theorem wx(T:Txt K mg t)(Jt:FnOk P w K mg base CX0 1 t.Jv t.Jx ["named"] (sp_numbers_of))(Q1:FnOk P w K mg base CX0 1 t.qF t.qG ["form"] (sp_names_in)):FnOk P w K mg base CX0 2 t.QL t.QO ["book"] (sp_inner):=by
 refine T.yt.ok QI (fun vs H Q E h=>?_) (fun cdv A outer s H vs Q E hr h=>?_)
 ·cases h;subst_vars;rfl
 obtain⟨b,pl,pp,las,pas,ls,ps,rfl,B,W,q⟩:=h;refine⟨_,(jc (jk (i:=1) QI.nd rfl (.inr rfl) (jp (Jt.mono (by decide)) hr (by rfl) T.zo T.Qn.kp T.za .nil pass0 (ja (ji jr (pv 0) jb) jd)))
  (jc (jk (i:=2) QI.nd rfl (.inl rfl) (jM jd))
  (jc (Jd PassesOwn.never rfl (jS (ji jr (pv 0) jb)) (q5 rfl (jA (jo (i:=3) QI.nd rfl (.inl rfl)) (jA (jo (i:=4) QI.nd rfl (.inl rfl)) qo)))
   (je (jF (qx PySem.F.plainAttrs_list PySem.F.slot_list_append PySem.F.type_list_append jR (pv 2) (ja (JL (ow:=["other"]) (ci:=[1]) rfl (CompScope.of (defScope Zg) ["book","numbers","found","name","form"] rfl rfl (by decide +kernel)) (Jy (by decide)) (xw (jp (Q1.mono (by decide)) hr (by rfl) T.kc T.Zj.kp T.YV .nil pass0 (ja (pv 4) jd))) (fun _ _ _ _ _=>⟨(jo (i:=0) (Jc ["book","numbers","found","name","form"] rfl (by decide +kernel)) rfl (.inl rfl)),qy,(jB (jY hr) (pv 1) (pv 0))⟩)) jd)))))
  (je (jx (pv 2)))))),?_⟩
 refine jD (σ':=[some _,none,none,none,none]) rfl ?_;have sz:(200:Nat)<sizeLine:=by decide
 have p61:=W.p61;have pa:=B.pa.1;exists ixTm (SqT.of B.t) rfl ?_;exists⟨pp,pas,nmsOf ps,rfl,B.p,by rw[nmsOf,length_map];exact pa,fun i a x ea ex=>?_,W.pn,by rw[nmsOf,length_map];omega,fun d H1 s1 hd ed=>?_⟩
 ·unfold nmsOf at ex;rw[List.getElem?_map]at ex;obtain⟨p,ep,rfl⟩:=Option.map_eq_some_iff.mp ex;obtain⟨fb,hb,_⟩:=B.pa.2 i a p ea ep;exact⟨_,hb⟩
 exists⟨Nat.zero_le _,?_⟩;walk_at"f l hl H2 s2 t2";have nl:=none_of s1 hl;have s12:=s1.trans s2;exists ixTm (SqT.of (s12 _ _ B.t)) rfl ?_;refine⟨pp,rfl,⟨_,SqL.of (s12 _ _ B.p)⟩,?_⟩;refine qI (xs:=pas.map V.ref) (fun i σ H'=>∃(as:List Addr) (o3 o4:Option V),σ=[some (.ref b),some (.ref d),some (.ref l),o3,o4]/\Same H1 H'/\H' l=some (.lst (as.map V.ref))/\(∀a∈as,H a=none/\a≠l)/\ListsAt H' as ((ps.take i).map fun p=>(inP ps p.2).map fun j:Nat=>(j:Int)))
  ⟨[],_,_,rfl,s2,t2,(fun a h=>nomatch h),.nil⟩ ?_ ?_ ?_
 ·rintro i σ H' _ ⟨as,o3,o4,rfl,sm,e1,na,la⟩;exact SqL.of ((s1.trans sm) _ _ B.p)
 ·rintro i x σ H' hx ⟨as,o3,o4,rfl,sm,e1,na,la⟩;obtain⟨a,p,rfl,hp,fb,hat,hf⟩:=B.pa.at_ref hx;have hi:=(List.getElem?_eq_some_iff.mp hp).1;have s0:=s1.trans sm;obtain⟨wn,w8⟩:=W.f i p hp;have lal:=la.1;rw[length_map,length_take]at lal;refine QE (SqT.of (s0 _ _ hat)) ?_;exists⟨.inl ⟨rfl,_,SqL.of e1⟩,?_⟩;exists⟨fb,p.2,rfl,FormAt.same s0 hf,fun c H3 s3 hc=>?_⟩;refine⟨c,rfl,⟨_,SqT.of hc⟩,?_⟩;refine K0 (xs:=p.2.ns.map V.str) (fun j ys H'=>ys=((p.2.ns.take j).map fun x=>(ixOf (nmsOf ps) x:Int)).map V.int/\H3=H') ⟨rfl,rfl⟩ ?_ ?_ ?_
  ·rintro j ys H' _ ⟨rfl,rfl⟩;exact SqT.of hc
  ·rintro j x ys H' hx ⟨rfl,rfl⟩;rw[List.getElem?_map]at hx;obtain⟨y,ey,rfl⟩:=Option.map_eq_some_iff.mp hx;have hj:=(List.getElem?_eq_some_iff.mp ey).1;obtain⟨k,hk,ek⟩:=wn y (List.mem_of_getElem? ey);refine JO (σ':=[none,some _]) rfl ?_;exists iteT ?_;walk_at"g";have g:DGet H3 d (.str y) (some (.int (k:Nat))):=by
    have g:=DGet.k (k:=Sum.inr y) ((sm.trans s3) _ _ ed);rw[Yy W.pn ek]at g;exact g
   refine⟨d,_,rfl,g,?_⟩;refine⟨by rw[length_map,length_map,length_take];omega,?_,rfl⟩;rw[take_snoc ey,map_append,map_append,<-qz W.pn ek];rfl
  rintro ys H' ⟨rfl,rfl⟩;rw[show(p.2.ns.map V.str).length=p.2.ns.length from length_map _,take_length];refine⟨by rw[length_map,length_map];omega,?_⟩;walk_at"f 4 t";have s34:=s3.trans s4;exists⟨l,_,_,rfl,rfl,s34 _ _ e1,by rw[length_map];omega,?_⟩;have hne:p4≠l:=(jf (s3 _ _ e1) hp4).symm;have n4:H p4=none:=none_of (s0.trans s3) hp4;refine⟨as++[p4],_,_,rfl,fun c u h=>(jm (jf h hl)).trans ((sm.trans s34) _ _ h),?_,fun c hc'=>?_,?_⟩
  ·rw[jh,map_append];rfl
  ·rcases mem_append.mp hc' with e | e
   ·exact na c e
   ·rw[mem_singleton.mp e];exact⟨n4,hne⟩
  ·rw[take_snoc hp,map_append];refine All2.snoc (All2.monoM la fun c hc' ks h=>(jm (na c hc').2).trans (s34 _ _ h)) ?_;have eq:List.map (fun j:Nat=>(j:Int)) (inP ps p.2)=p.2.ns.map fun x=>(ixOf (nmsOf ps) x:Int):=by
    unfold inP;rw[List.map_map];rfl
   show upd H4 l _ p4=some (.lst (List.map V.int (List.map (fun j:Nat=>(j:Int)) (inP ps p.2))));rw[jm hne,t4,eq]
 rintro σ' H3 ⟨as,o3,o4,rfl,sm,e1,na,la⟩;rw[length_map,pa,take_length]at la;walk_at"g";exact q l as H3 (s1.trans sm) nl e1 (fun a ha=>(na a ha).1) la
theorem Wx(T:Txt K mg t)(Jt:FnOk P w K mg base CX0 1 t.Jv t.Jx ["named"] (sp_numbers_of))(QJ:FnOk P w K mg base CX0 2 t.QL t.QO ["book"] (sp_inner)):FnOk P w K mg base CX0 3 t.zA t.zG ["book"] (sp_ends):=by
 refine T.YW.ok qU (fun vs H Q E h=>?_) (fun cdv A outer s H vs Q E hr h=>?_)
 ·cases h;subst_vars;rfl
 obtain⟨b,pl,pp,las,pas,ls,ps,rfl,B,W,q⟩:=h;refine⟨_,(jc (jk (i:=1) qU.nd rfl (.inl rfl) (jp (Jt.mono (by decide)) hr (by rfl) T.zo T.Qn.kp T.za .nil pass0 (ja (ji jr (pv 0) jb) jd)))
  (jc (jk (i:=2) qU.nd rfl (.inl rfl) (jM jd))
  (jc (Jd PassesOwn.never rfl (xx (by rfl) T.xH (ja (ji jr (pv 0) jb) (ja (jp (QJ.mono (by decide)) hr (by rfl) T.kZ T.yt.kp T.kF .nil pass0 (ja (pv 0) jd)) jd))) (q5 rfl (jA (jo (i:=3) qU.nd rfl (.inl rfl)) (jA (jo (i:=4) qU.nd rfl (.inl rfl)) qo)))
   (jc (jk (i:=5) qU.nd rfl (.inl rfl) (ji jr (pv 3) jb))
   (jc (jk (i:=6) qU.nd rfl (.inl rfl) ZE)
   (jc (Q6 (jn Jj (ji jr (pv 5) jb) jv (nomark _))
    (je (yW (jY hr) (pv 6) (jB (jY hr) (pv 1) (ji jr (pv 5) jb)) (ji jr (pv 5) jb) rfl))
    jw)
   (jc (Jd PassesOwn.never rfl (jS (pv 4)) (jo (i:=7) qU.nd rfl (.inl rfl))
    (je (jF (qx PySem.F.plainAttrs_dict PySem.F.slot_dict_update PySem.F.type_dict_update KC (pv 6) (ja (QT (YZ rfl) (by rfl) T.WZ Wb (ja (ji jq (pv 2) (pv 7)) jd)) jd)))))
   (je (jF (qx PySem.F.plainAttrs_list PySem.F.slot_list_append PySem.F.type_list_append jR (pv 2) (ja (jt (yA rfl) (by rfl) T.zf zB (ja (xu PySem.F.plainAttrs_dict PySem.F.slot_dict_items PySem.F.type_dict_items wu (pv 6)) jd)) jd)))))))))
  (je (jx (pv 2)))))),?_⟩
 refine jD (σ':=[some _,none,none,none,none,none,none,none]) rfl ?_;have sz:(200:Nat)<sizeLine:=by decide
 have p61:=W.p61;have l8:=W.l8;have pa:=B.pa.1;have la:=B.la.1;exists ixTm (SqT.of B.t) rfl ?_;exists⟨pl,las,nmsOf ls,rfl,B.l,by rw[nmsOf,length_map];exact la,fun i a x ea ex=>?_,W.ln,by rw[nmsOf,length_map];omega,fun d H1 s1 hd ed=>?_⟩
 ·unfold nmsOf at ex;rw[List.getElem?_map]at ex;obtain⟨p,ep,rfl⟩:=Option.map_eq_some_iff.mp ex;exact⟨_,B.la.2 i a p ea ep⟩
 exists⟨Nat.zero_le _,?_⟩;walk_at"f l hl H2 s2 t2";have nl:=none_of s1 hl;have s12:=s1.trans s2;have ndl:d≠l:=jf ed hl;exists ixTm (SqT.of (s12 _ _ B.t)) rfl ?_;exists⟨b,pl,pp,las,pas,ls,ps,rfl,B.same s12,W,fun li ias H3 s3 hli eli nia lia=>?_⟩;walk_at"g";have s13:=s12.trans s3;have lial:=lia.1;rw[length_map]at lial;have nli:li≠l:=fun z=>by rw[z,t2]at hli;cases hli
 refine⟨pp,li,_,_,rfl,SqL.of (s13 _ _ B.p),SqL.of eli,?_⟩;have npl:∀{c u},H c=some u->c≠l:=fun h=>jf h nl
 have t3:H3 l=some (.lst []):=s3 _ _ t2;refine Wf (xs:=pas.map V.ref) (ys:=ias.map V.ref) (fun i σ H'=>∃(as:List Addr) (E:List (List (Int×Int))) (o3 o4 o5 o6 o7:Option V),σ=[some (.ref b),some (.ref d),some (.ref l),o3,o4,o5,o6,o7]/\(∀c u,c≠l->H3 c=some u->H' c=some u)/\H' l=some (.lst (as.map V.ref))/\(∀a∈as,H a=none/\a≠l)/\E.length=i/\EndsAt H' as E/\EndOk ls ps E)
  (by rw[length_map,length_map];omega) ⟨[],[],_,_,_,_,_,rfl,fun c u _ h=>h,t3,(fun a h=>nomatch h),rfl,.nil,fun i p e _ h=>by simp at h⟩ ?_ ?_ ?_
 ·rintro i σ H' _ ⟨as,E,o3,o4,o5,o6,o7,rfl,sm,e1,na,lE,aE,oE⟩;exact⟨SqL.of (sm _ _ (npl B.p) (s13 _ _ B.p)),SqL.of (sm _ _ nli eli)⟩
 ·rintro i u v σ H' P H4 hu hv ⟨as,E,o3,o4,o5,o6,o7,rfl,sm,e1,na,lE,aE,oE⟩ sP tP;obtain⟨a,p,rfl,hp,fb,hat,hf⟩:=B.pa.at_ref hu;obtain⟨ia,is,rfl,his,hia⟩:=lia.at_ref hv;rw[List.getElem?_map,hp]at his;cases his;have hi:=(List.getElem?_eq_some_iff.mp hp).1;have iam:ia∈ias:=by
   rw[List.getElem?_map]at hv;obtain⟨a',ea,e'⟩:=Option.map_eq_some_iff.mp hv;injection e' with e';subst e';exact List.mem_of_getElem? ea
  have nial:ia≠l:=fun z=>by have:=nia ia iam;rw[z,t2]at this;cases this
  have k4:∀c u,c≠l->H3 c=some u->H4 c=some u:=fun c u hc h=>sP _ _ (sm _ _ hc h)
  have hat4:H4 a=_:=k4 _ _ (npl hat) (s13 _ _ hat);have hia4:H4 ia=_:=k4 _ _ nial hia;have ed4:H4 d=_:=k4 _ _ ndl (s3 _ _ (s2 _ _ ed));have e14:=sP _ _ e1;have hf4:FormAt H4 fb p.2:=by
   have h0:=FormAt.same s13 hf;generalize p.2=f at h0;have np:∀{c:Addr} {xs:List V},H3 c=some (.tup xs)->c≠l:=fun h=>QC h t3 (fun z=>by cases z)
   cases f with
   | row ps=>obtain⟨c,h1,h2⟩:=h0;exact⟨c,k4 _ _ (np h1) h1,k4 _ _ (np h2) h2⟩
   | side ps=>obtain⟨c,h1,h2⟩:=h0;exact⟨c,k4 _ _ (np h1) h1,k4 _ _ (np h2) h2⟩
   | hold n=>exact k4 _ _ (np h0) h0
   | ring x n=>exact k4 _ _ (np h0) h0
   | rise x g n=>exact k4 _ _ (np h0) h0
   | again x n=>exact k4 _ _ (np h0) h0
  have w8:=(W.f i p hp).2;have wr:=fun x h n (e:p.2 = .rise x h n)=>W.r i p.1 x h n (by rw[hp,<-e])
  have inl:=fun j=>W.inP_lt (j:=j) hp
  have bnd:=Yi W (by omega) oE;have elen:∀(j:Nat) (e:List (Int×Int)),E[j]?=some e->e.length<=8:=fun j e h=>Zr W (by omega) oE h
  refine QE (SqT.of tP) ?_;exists ixTm (SqT.of hat4) rfl ?_;walk_at"g";walk_at"f dl hdl H5 s5 t5";exists⟨fun σ' H6=>σ'=[some (.ref b),some (.ref d),some (.ref l),some (.ref a),some (.ref ia),some (.ref fb),some (.ref dl),o7]/\Same H4 H6/\H6 dl=some (.dK ((kv0 ls p.2).map iiK)),?_,?_⟩
  rotate_left
  ·by_cases hr':∃x h n,p.2 = .rise x h n
   ·obtain⟨x,h,n,e⟩:=hr';rw[e]at hf4;have hf5:H5 fb=some (.tup [.str "raise",.str x,.int h,.int n]):=s5 _ _ hf4;obtain⟨j,hj⟩:=wr x h n e;exists ixTm (SqT.of hf5) rfl ?_;exists iteE1 ?_;exists ixTm (SqT.of hf5) rfl ?_;exists ixTm (SqT.of hf5) rfl ?_;have g:DGet H5 d (.str x) (some (.int (j:Nat))):=by
     have g:=DGet.k (k:=Sum.inr x) (s5 _ _ ed4);rw[Yy W.ln hj]at g;exact g
    refine⟨d,_,rfl,g,?_⟩;refine⟨dl,_,rfl,DPut.k (k:=Sum.inl (j:Int)) t5 (by show 0<sizeLine;omega),?_⟩;refine⟨rfl,fun c u h=>(jm (jf h hdl)).trans (s5 _ _ h),?_⟩;rw[jh,e];show _=some (HO.dK [iiK ((ixOf (nmsOf ls) x:Nat),h)]);rw[qz W.ln hj];rfl
   ·obtain⟨k,xs,hk,dk⟩:=we hf4 fun x v n e=>hr' ⟨x,v,n,e⟩
    exists ixTm (SqT.of (s5 _ _ hk)) (at0) ?_;exists iteB0 dk ?_;exists⟨rfl,s5,?_⟩;rw[Wk fun x v n e=>hr' ⟨x,v,n,e⟩];exact t5
  rintro σ' H6 ⟨rfl,s6,t6⟩;walk_at"g";have hia6:=s6 _ _ hia4;have nlist:∀{c u},H4 c=some u->c≠dl:=fun h=>jf h hdl
  refine⟨ia,rfl,⟨_,SqL.of hia6⟩,?_⟩;refine qI (xs:=((inP ps p.2).map fun j:Nat=>(j:Int)).map V.int) (fun t σ H7=>∃(kvs:List (Int×Int)) (o7:Option V),σ=[some (.ref b),some (.ref d),some (.ref l),some (.ref a),some (.ref ia),some (.ref fb),some (.ref dl),o7]/\Same H4 H7/\H7 dl=some (.dK (kvs.map iiK))/\(kvs.map (·.1)).Nodup/\∀k v,(k,v)∈kvs↔LastIn E ((inP ps p.2).take t) k v\/(k,v)∈kv0 ls p.2)
   ⟨_,_,rfl,s6,t6,xg _,fun k v=>⟨.inr,fun h=>h.elim (fun⟨pre,j,post,e,_⟩=>by cases pre<;>simp at e) id⟩⟩ ?_ ?_ ?_
  ·rintro t σ H7 _ ⟨kvs,o7,rfl,s7,t7,nd7,m7⟩;exact SqL.of (s7 _ _ hia4)
  ·rintro t x σ H7 hx ⟨kvs,o7,rfl,s7,t7,nd7,m7⟩;rw[List.getElem?_map,List.getElem?_map]at hx;obtain⟨jj,hjj,rfl⟩:=Option.map_eq_some_iff.mp hx;obtain⟨j,hj,rfl⟩:=Option.map_eq_some_iff.mp hjj;have jlt:=inl j (List.mem_of_getElem? hj);have e0:kv0 ls p.2=[]:=by
    rcases xf (ps:=ps) (ls:=ls) p.2 with z | z
    ·rw[z]at hj;simp at hj
    ·exact z
   rw[e0]at m7;have hE:E[j]?=some (E.getD j []):=by rw[getD_eq_getElem?_getD,List.getElem?_eq_getElem (by omega)];rfl
   obtain⟨aj,haj,bs,hbs,prs⟩:=aE.get hE;have ndE:((E.getD j []).map (·.1)).Nodup:=((oE j _ _ (List.getElem?_eq_getElem (by omega)) hE).1).imp fun h=>Int.ne_of_lt h
   have e8:=elen j _ hE;have k8:kvs.length<=8:=by
    have z:=Qk (n:=ls.length) nd7 fun k hk=>by
     obtain⟨q',hq',rfl⟩:=mem_map.mp hk;rcases(m7 q'.1 q'.2).mp hq' with⟨pre,i',post,_,hin,_⟩ | hin
     ·exact bnd i' _ hin
     ·exact nomatch hin
    rw[length_map]at z;omega
   exists⟨.inr (.inr (.inl ⟨rfl,.inl ⟨_,t7⟩⟩)),?_⟩;exists ixLm (SqL.of (s7 _ _ e14)) (qR (i:=(j:Int)) (by omega) haj) ?_;exists⟨aj,bs,E.getD j [],rfl,s7 _ _ (sP _ _ hbs),prs.1,fun i' c q' h1 h2=>s7 _ _ (sP _ _ (prs.2 i' c q' h1 h2)),?_⟩;walk_at"f d2 hd2 H8 s8 t8";walk_at"g";rw[show([]:List (Key×V))=([]:List (Int×Int)).map iiK from rfl,Q4,ke ndE]at t8;have n2:dl≠d2:=jf t7 hd2;refine⟨dl,d2,_,_,rfl,rfl,s8 _ _ t7,t8,n2,by rw[length_map,length_map];omega,?_⟩;rw[Q4];obtain⟨mn,mm⟩:=yg nd7 ndE;refine⟨mergeI kvs (E.getD j []),_,rfl,fun c u h=>(jm (nlist h)).trans (s8 _ _ (s7 _ _ h)),jh,mn,fun k v=>?_⟩;rw[mm,m7,e0,take_snoc hj,Qi];constructor
   ·rintro(h | ⟨h1,h | h⟩)
    ·exact .inl (.inl h)
    ·exact .inl (.inr ⟨h1,h⟩)
    ·exact nomatch h
   ·rintro((h | ⟨h1,h⟩) | h)
    ·exact .inl h
    ·exact .inr ⟨h1,.inl h⟩
    ·exact nomatch h
  rintro σ' H7 ⟨kvs,o7',rfl,s7,t7,nd7,m7⟩;rw[length_map,length_map,take_length]at m7;have k8:kvs.length<=8:=by
   have z:=Qk (n:=ls.length) nd7 fun k hk=>by
    obtain⟨q',hq',rfl⟩:=mem_map.mp hk;rcases(m7 q'.1 q'.2).mp hq' with⟨pre,i',post,_,hin,_⟩ | hin
    ·exact bnd i' _ hin
    ·obtain⟨x,n,e,ek⟩:=yP.mp hin;obtain⟨j,hj⟩:=wr x _ n e;have h3:=kS (List.mem_of_getElem? hj);have h4:(nmsOf ls).length=ls.length:=length_map _;rw[ek];omega
   rw[length_map]at z;omega
  exists⟨.inl ⟨rfl,_,SqL.of (s7 _ _ e14)⟩,?_⟩;exists⟨.inr (.inr (.inl ⟨rfl,.inl ⟨_,t7⟩⟩)),dl,_,rfl,rfl,t7,?_⟩;walk_at"f vw hvw H8 s8 t8";exists⟨vw,dl,kvs,rfl,t8,s8 _ _ t7,by omega,fun r cs ms H9 s9 hr9 e9 n9 perm pw len tup=>?_⟩;walk_at"g";have asl:=aE.1;refine⟨l,_,_,rfl,rfl,s9 _ _ (s8 _ _ (s7 _ _ e14)),by rw[length_map];omega,?_⟩;have s49:=s7.trans (s8.trans s9);have nrl:r≠l:=(jf (s8 _ _ (s7 _ _ e14)) hr9).symm;have nr:H r=none:=by
   cases z:H r with
   | none=>rfl
   | some u=>rw[s8 _ _ (s7 _ _ (k4 _ _ nrl (s13 _ _ z)))]at hr9;cases hr9
  have ntl:∀{c:Addr} {xs:List V},H9 c=some (.tup xs)->c≠l:=fun h=>QC h (s49 _ _ e14) (fun z=>by cases z)
  refine⟨as++[r],E++[ms],_,_,_,_,_,rfl,fun c u hc h=>(jm hc).trans (s49 _ _ (k4 _ _ hc h)),?_,fun c hc=>?_,by rw[List.length_append,lE];rfl,?_,?_⟩
  ·rw[jh,map_append];rfl
  ·rcases mem_append.mp hc with z | z
   ·exact na c z
   ·rw[mem_singleton.mp z];exact⟨nr,nrl⟩
  ·refine All2.snoc (All2.monoM aE fun c hc e h=>?_) ?_
   ·obtain⟨bs,hbs,prs⟩:=h;refine⟨bs,(jm (na c hc).2).trans (s49 _ _ (sP _ _ hbs)),All2.mono prs fun c' q' h'=>?_⟩;have h9:=s49 _ _ (sP _ _ h');exact(jm (ntl h9)).trans h9
   ·exact⟨cs,(jm nrl).trans e9,len,fun i' c q' h1 h2=>(jm (ntl (tup i' c q' h1 h2))).trans (tup i' c q' h1 h2)⟩
  ·refine EndOk.snoc W oE (p:=p) (by rw[lE];exact hp) ?_ fun k v=>?_
   ·exact zN (perm.map _) nd7 pw
   ·rw[perm.mem_iff,m7];exact⟨fun h=>h.imp id yP.mp,fun h=>h.imp id yP.mpr⟩
 rintro σ' H' ⟨as,E,o3,o4,o5,o6,o7,rfl,sm,e1,na,lE,aE,oE⟩;rw[length_map]at lE;walk_at"g";exact q l as E H' (fun c u h=>sm _ _ (npl h) (s13 _ _ h)) nl e1 (fun a ha=>(na a ha).1) (by omega) aE oE
theorem wy(T:Txt K mg t)(zy:FnOk P w K mg base CX0 3 t.zA t.zG ["book"] (sp_ends)):FnOk P w K mg base CX0 4 t.QM t.QP ["book"] (sp_moved):=by
 refine T.yu.ok ZI (fun vs H Q E h=>?_) (fun cdv A outer s H vs Q E hr h=>?_)
 ·cases h;subst_vars;rfl
 obtain⟨b,pl,pp,las,pas,ls,ps,rfl,B,W,q⟩:=h;refine⟨_,(jc (jk (i:=1) ZI.nd rfl (.inl rfl) (jM jd))
  (jc (Jd PassesOwn.never rfl (jS (jp (zy.mono (by decide)) hr (by rfl) T.wq T.YW.kp T.KQ .nil pass0 (ja (pv 0) jd))) (jo (i:=2) ZI.nd rfl (.inl rfl))
   (je (jF (qx PySem.F.plainAttrs_list PySem.F.slot_list_append PySem.F.type_list_append jR (pv 1) (ja (JL (ow:=["limb","height"]) (ci:=[]) rfl (CompScope.of (defScope Zh) ["book","found","left"] rfl rfl (by decide +kernel)) (Wg (by decide) (by decide)) (jS (pv 2)) (fun _ _ _ _ _=>⟨(q5 rfl (jA (jo (i:=0) (Jc ["book","found","left"] rfl (by decide +kernel)) rfl (.inl rfl)) (jA (jo (i:=1) (Jc ["book","found","left"] rfl (by decide +kernel)) rfl (.inl rfl)) qo))),qy,(pv 0)⟩)) jd)))))
  (je (jx (pv 1))))),?_⟩
 refine jD (σ':=[some _,none,none]) rfl ?_;have sz:(200:Nat)<sizeLine:=by decide
 have p61:=W.p61;exists⟨Nat.zero_le _,?_⟩;walk_at"f l hl H1 s1 t1";exists⟨b,pl,pp,las,pas,ls,ps,rfl,B.same s1,W,fun e as E H2 s2 he ee ne lE aE oE=>?_⟩;have aE1:=aE.1;have s12:=s1.trans s2;have l2:H2 l=some (.lst []):=s2 _ _ t1;have nle:l≠e:=fun z=>by rw[z,he]at t1;cases t1
 refine⟨e,rfl,⟨_,SqL.of ee⟩,?_⟩;refine qI (xs:=as.map V.ref) (fun i σ H'=>∃(cs:List Addr) (o2:Option V),σ=[some (.ref b),some (.ref l),o2]/\(∀c u,c≠l->H2 c=some u->H' c=some u)/\H' l=some (.lst (cs.map V.ref))/\(∀c∈cs,H1 c=none/\c≠l)/\ListsAt H' cs ((E.take i).map fun e=>e.map (·.1)))
  ⟨[],_,rfl,fun c u _ h=>h,l2,(fun c h=>nomatch h),.nil⟩ ?_ ?_ ?_
 ·rintro i σ H' _ ⟨cs,o2,rfl,sm,e1,na,la⟩;exact SqL.of (sm _ _ nle.symm ee)
 ·rintro i x σ H' hx ⟨cs,o2,rfl,sm,e1,na,la⟩;obtain⟨a,ev,rfl,hev,bs,hbs,prs⟩:=aE.at_ref hx;have hi:=(List.getElem?_eq_some_iff.mp hev).1;have lal:=la.1;rw[length_map,length_take]at lal;have am:a∈as:=by
   rw[List.getElem?_map]at hx;obtain⟨a',ea,e'⟩:=Option.map_eq_some_iff.mp hx;injection e' with e';subst e';exact List.mem_of_getElem? ea
  have nal:a≠l:=fun z=>by have:=ne a am;rw[z,t1]at this;cases this
  have hb':H' a=some (.lst (bs.map V.ref)):=sm _ _ nal hbs;have evl:=(oE i _ ev (List.getElem?_eq_getElem (by omega)) hev).1;have ev100:=Zr W (by omega) oE hev;exists⟨.inl ⟨rfl,_,SqL.of e1⟩,?_⟩;exists⟨a,rfl,⟨_,SqL.of hb'⟩,?_⟩;refine jQ (xs:=bs.map V.ref) (fun j ys H''=>ys=((ev.take j).map (·.1)).map V.int/\H'=H'') ⟨rfl,rfl⟩ ?_ ?_ ?_
  ·rintro j ys H'' _ ⟨rfl,rfl⟩;exact SqL.of hb'
  ·rintro j x ys H'' hx2 ⟨rfl,rfl⟩;obtain⟨c,kv,rfl,hkv,ht⟩:=prs.at_ref hx2;have hj:=(List.getElem?_eq_some_iff.mp hkv).1;have ncl:c≠l:=fun z=>by rw[z,l2]at ht;cases ht
   refine JO (σ':=[none,none]) rfl ?_;refine QE (SqT.of (sm _ _ ncl ht)) ?_;exists iteT ?_;exists⟨by rw[length_map,length_map,length_take];omega,?_,rfl⟩;rw[take_snoc hkv,map_append,map_append];rfl
  rintro ys H'' ⟨rfl,rfl⟩;rw[show(bs.map V.ref).length=ev.length by rw[length_map];exact prs.1,take_length];refine⟨by rw[length_map,length_map];omega,?_⟩;walk_at"f 4 t";exists⟨l,_,_,rfl,rfl,s4 _ _ e1,by rw[length_map];omega,?_⟩;have hne:p4≠l:=(jf e1 hp4).symm;have n4:H1 p4=none:=by
   cases z:H1 p4 with
   | none=>rfl
   | some u=>rw[sm _ _ hne (s2 _ _ z)]at hp4;cases hp4
  refine⟨cs++[p4],_,rfl,fun c u hc h=>(jm hc).trans (s4 _ _ (sm _ _ hc h)),?_,fun c hc=>?_,?_⟩
  ·rw[jh,map_append];rfl
  ·rcases mem_append.mp hc with z | z
   ·exact na c z
   ·rw[mem_singleton.mp z];exact⟨n4,hne⟩
  ·rw[take_snoc hev,map_append];exact All2.snoc (All2.monoM la fun c hc ks h=>(jm (na c hc).2).trans (s4 _ _ h)) ((jm hne).trans t4)
 rintro σ' H3 ⟨cs,o2,rfl,sm,e1,na,la⟩;rw[length_map,aE1,take_length]at la;exists q l cs (E.map fun e=>e.map (·.1)) H3 (fun c u h=>sm _ _ (jf h hl) (s12 _ _ h)) hl e1 (fun c hc=>none_of s1 (na c hc).1) (by rw[length_map];exact lE) la (kf lE oE)
theorem ZV(T:Txt K mg t):FnOk P w K mg base CX0 1 t.JV t.JY ["row","moves","limbs"] (sp_check_side):=by
 refine T.zd.ok Qf (fun vs H Q E h=>?_) (fun cdv A outer s H vs Q E hr h=>?_)
 ·cases h;subst_vars;rfl
 obtain⟨r,l,ll,as,las,M,rfl,el,la,ne,M8,ell,one,q⟩:=h;refine⟨_,(jc (jP (jn (xq hr.units) (jM jd) (pv 1) (by with_unfolding_all rfl))
   (je ZF)
   jw)
  (je (Jd PassesOwn.never rfl (yV (by rfl) T.Qz (ja (pv 2) jd)) (q5 rfl (jA (jo (i:=3) Qf.nd rfl (.inr rfl)) (jA (jo (i:=4) Qf.nd rfl (.inl rfl)) qo)))
   (je (jP (jn zt (jt jC (by rfl) T.Jn jW (ja (JL (ow:=["move"]) (ci:=[3]) rfl (CompScope.of (defScope qC) ["row","moves","limbs","number","limb"] rfl rfl (by decide +kernel)) (Jy (by decide)) (jS (pv 1)) (fun _ _ _ _ _=>⟨(jo (i:=0) (Jc ["row","moves","limbs","number","limb"] rfl (by decide +kernel)) rfl (.inl rfl)),(kr (jn (ZD (K:=K) rfl) (pv 1) (pv 0) (by with_unfolding_all rfl))),YE⟩)) jd)) jb (nomark _))
    (je ZF)
    jw))))),?_⟩
 refine jD (σ':=[some _,some _,some _,none,none]) rfl ?_;have sz:(200:Nat)<sizeLine:=by decide
 have lal:=la.1;exists⟨Nat.zero_le _,?_⟩;walk_at"f 0 t";exists⟨p0,l,as,M,rfl,rfl,t0,s0 _ _ el,lal,fun i b ks e1 e2=>s0 _ _ (la.2 i b ks e1 e2),?_⟩;exists iteB0 (any_empty ne) ?_;exists⟨ll,_,rfl,SqL.of (s0 _ _ ell),?_⟩;refine Zs (xs:=las.map V.ref) (fun i σ H'=>∃o3 o4:Option V,σ=[some (.int r),some (.ref l),some (.ref ll),o3,o4]/\Same H H') ⟨_,_,rfl,s0⟩ ?_ ?_ ?_
 ·rintro i σ H' _ ⟨o3,o4,rfl,sm⟩;exact SqL.of (sm _ _ ell)
 ·rintro i v σ H' P H1 hx ⟨o3,o4,rfl,sm⟩ sP tP;have s1:=sm.trans sP;refine QE (SqT.of tP) ?_;exists⟨l,rfl,⟨_,SqL.of (s1 _ _ el)⟩,?_⟩;refine jQ (xs:=as.map V.ref) (fun j ys H''=>ys.length=((M.take j).filter fun ks=>decide ((i:Int)∈ks)).length/\H1=H'') ⟨rfl,rfl⟩ ?_ ?_ ?_
  ·rintro j ys H'' _ ⟨_,rfl⟩;exact SqL.of (s1 _ _ el)
  ·rintro j x ys H'' hx2 ⟨hy,rfl⟩;obtain⟨a,ks,rfl,hks,ha⟩:=la.at_ref hx2;refine JO (σ':=[none,some _]) rfl ?_;exists⟨a,_,rfl,.inl (SqL.of (s1 _ _ ha)),rfl,flats ks,?_⟩;rw[inI];walk_at"g";have hle:((M.take j).filter fun ks=>decide ((i:Int)∈ks)).length<=8:=Nat.le_trans (length_filter_le _ _) (Nat.le_trans (List.length_take_le' _ _) M8);refine iteD (fun d=>?_) (fun d=>?_)
   ·exists⟨by omega,?_,rfl⟩;rw[take_snoc hks,filter_append,filter_cons,if_pos (decide_eq_true d),List.length_append,List.length_append,hy];rfl
   ·refine⟨?_,rfl⟩;rw[take_snoc hks,filter_append,filter_cons,if_neg (by simpa using d),List.length_append,hy];rfl
  rintro ys H'' ⟨hy,rfl⟩;rw[length_map,lal,take_length]at hy;have o1:=one (i:Int);refine⟨by omega,?_⟩;walk_at"f 2 t";exists⟨_,_,rfl,.inl ⟨_,SqL.of t2,rfl⟩,?_⟩;exists iteD (fun d=>?_) (fun d=>?_)
  ·exfalso;omega
  ·walk_at"g";exact⟨_,_,rfl,s1.trans s2⟩
 rintro σ' H' ⟨o3,o4,rfl,sm⟩;exact q H' sm
theorem yS(T:Txt K mg t):FnOk P w K mg base CX0 1 t.qt t.qw ["form","inside"] (sp_length_of):=by
 refine T.zS.ok yZ (fun vs H Q E h=>?_) (fun cdv A outer s H vs Q E hr h=>?_)
 ·cases h;subst_vars;rfl
 obtain⟨a,l,f,gs,rfl,hF,el,pre,q⟩:=h;refine⟨_,(jc (jP (jn Jj (ji jr (pv 0) jb) jv (nomark _))
   (je (jx (jt (zC rfl) (by rfl) T.KU YY (ja (pv 1) jd))))
   jw)
  (jc (jP (jn Jj (ji jr (pv 0) jb) jv (nomark _))
   (je (jx (jt (Z6 rfl) (by rfl) T.kJ yy (ja (pv 1) jd))))
   jw)
  (jc (jP (jn Jj (ji jr (pv 0) jb) jv (nomark _))
   (je (jx (jg JA (ji jr (pv 0) jb) (ji jq (pv 1) jb))))
   jw)
  (je (jx (ji jr (pv 0) (WT wY jb))))))),?_⟩
 refine jD (σ':=[some _,some _]) rfl ?_;have sz:(200:Nat)<sizeLine:=by decide
 cases f with
 | hold n=>
  have ha:H a=some (.tup _):=hF;exists ixTm (SqT.of ha) rfl ?_;exists iteE0 ?_;exists ixTm (SqT.of ha) rfl ?_;exists iteE0 ?_;exists ixTm (SqT.of ha) rfl ?_;exists iteE0 ?_;exists ixTm (SqT.of ha) rfl ?_;exact q _ rfl
 | ring x n=>
  have ha:H a=some (.tup _):=hF;exists ixTm (SqT.of ha) rfl ?_;exists iteE0 ?_;exists ixTm (SqT.of ha) rfl ?_;exists iteE0 ?_;exists ixTm (SqT.of ha) rfl ?_;exists iteE0 ?_;exists ixTm (SqT.of ha) rfl ?_;exact q _ rfl
 | rise x v n=>
  have ha:H a=some (.tup _):=hF;exists ixTm (SqT.of ha) rfl ?_;exists iteE0 ?_;exists ixTm (SqT.of ha) rfl ?_;exists iteE0 ?_;exists ixTm (SqT.of ha) rfl ?_;exists iteE0 ?_;exists ixTm (SqT.of ha) rfl ?_;exact q _ rfl
 | row ps=>
  obtain⟨b,ha,hb⟩:=hF;exists ixTm (SqT.of ha) rfl ?_;exists iteE1 ?_;exists⟨l,gs,rfl,SqL.of el,?_⟩;exact q _ rfl
 | side ps=>
  obtain⟨b,ha,hb⟩:=hF;exists ixTm (SqT.of ha) rfl ?_;exists iteE0 ?_;exists ixTm (SqT.of ha) rfl ?_;exists iteE1 ?_;exists⟨l,gs,rfl,SqL.of el,List.length_pos_iff.mpr pre,fun g h1 h2=>?_⟩;exact q g ⟨h1,h2⟩
 | again k x=>
  have ha:H a=some (.tup _):=hF;obtain⟨y,r,rfl,k1,k2,y1,y2⟩:=pre;exists ixTm (SqT.of ha) rfl ?_;exists iteE0 ?_;exists ixTm (SqT.of ha) rfl ?_;exists iteE0 ?_;exists ixTm (SqT.of ha) rfl ?_;exists iteE1 ?_;exists ixTm (SqT.of ha) rfl ?_;exists ixLm (SqL.of el) (at0) ?_;walk_at"g";exact q _ ⟨y,rfl,rfl⟩
theorem kj(T:Txt K mg t)(QJ:FnOk P w K mg base CX0 2 t.QL t.QO ["book"] (sp_inner))(QK:FnOk P w K mg base CX0 4 t.QM t.QP ["book"] (sp_moved))(Qq:FnOk P w K mg base CX0 1 t.JV t.JY ["row","moves","limbs"] (sp_check_side))(Qy:FnOk P w K mg base CX0 1 t.qt t.qw ["form","inside"] (sp_length_of)):FnOk P w K mg base CX0 5 t.Qg t.Qh ["book"] (sp_lengths):=by
 refine T.ZZ.ok JP (fun vs H Q E h=>?_) (fun cdv A outer s H vs Q E hr h=>?_)
 ·cases h;subst_vars;rfl
 obtain⟨b,pl,pp,las,pas,ls,ps,gs,hs,rfl,B,S,q⟩:=h;refine⟨_,(jc (jk (i:=1) JP.nd rfl (.inr rfl) (jp (QK.mono (by decide)) hr (by rfl) T.Ka T.yu.kp T.kG .nil pass0 (ja (pv 0) jd)))
  (jc (jk (i:=2) JP.nd rfl (.inr rfl) (jM jd))
  (jc (Jd PassesOwn.never rfl (yV (by rfl) T.Qz (ja (jp (QJ.mono (by decide)) hr (by rfl) T.kZ T.yt.kp T.kF .nil pass0 (ja (pv 0) jd)) jd)) (q5 rfl (jA (jo (i:=3) JP.nd rfl (.inl rfl)) (jA (jo (i:=4) JP.nd rfl (.inl rfl)) qo)))
   (jc (jk (i:=5) JP.nd rfl (.inl rfl) (ji jr (ji jq (ji jr (pv 0) jb) (pv 3)) jb))
   (jc (Q6 (jn Jj (ji jr (pv 5) jb) jv (nomark _))
    (je (jF (jp (Qq.mono (by decide)) hr (by rfl) T.yO T.zd.kp T.yr .nil pass0 (ja (pv 3) (ja (JL (ow:=["part"]) (ci:=[1]) rfl (CompScope.of (defScope Ql) ["book","moves","found","row","inside","form","length"] rfl rfl (by decide +kernel)) (Jy (by decide)) (jS (pv 4)) (fun _ _ _ _ _=>⟨(jo (i:=0) (Jc ["book","moves","found","row","inside","form","length"] rfl (by decide +kernel)) rfl (.inl rfl)),qy,(ji (zm (K:=K) rfl) (pv 1) (pv 0))⟩)) (ja (ji jr (pv 0) jb) jd))))))
    jw)
   (jc (jk (i:=6) JP.nd rfl (.inl rfl) (jp (Qy.mono (by decide)) hr (by rfl) T.Yr T.zS.kp T.Ya .nil pass0 (ja (pv 5) (ja (JL (ow:=["part"]) (ci:=[2]) rfl (CompScope.of (defScope Ql) ["book","moves","found","row","inside","form","length"] rfl rfl (by decide +kernel)) (Jy (by decide)) (jS (pv 4)) (fun _ _ _ _ _=>⟨(jo (i:=0) (Jc ["book","moves","found","row","inside","form","length"] rfl (by decide +kernel)) rfl (.inl rfl)),qy,(ji (zm (K:=K) rfl) (pv 1) (pv 0))⟩)) jd))))
   (jc (jP (jn zt (pv 6) (jg qM jb jb) (nomark _))
    (je ZF)
    jw)
   (je (jF (qx PySem.F.plainAttrs_list PySem.F.slot_list_append PySem.F.type_list_append jR (pv 2) (ja (pv 6) jd)))))))))
  (je (jx (pv 2)))))),?_⟩
 refine jD (σ':=[some _,none,none,none,none,none,none]) rfl ?_;have sz:(200:Nat)<sizeLine:=by decide
 have W:=S.w;have pa:=B.pa.1;have gl:=S.gl;have p61:=W.p61;exists⟨b,pl,pp,las,pas,_,_,rfl,B,W,fun lm cms M H1 s1 hlm elm nlm Ml aM oM=>?_⟩;have mg:=S.mv M Ml oM;have aMl:=aM.1;exists⟨Nat.zero_le _,?_⟩;walk_at"f l hl H2 s2 t2";have nl:=none_of s1 hl;have s12:=s1.trans s2;exists⟨b,pl,pp,las,pas,_,_,rfl,B.same s12,W,fun li ias H3 s3 hli eli nia lia=>?_⟩;walk_at"g";have s13:=s12.trans s3;have s23:=s2.trans s3;have lial:=lia.1;rw[length_map]at lial;have nli:li≠l:=fun z=>by rw[z,t2]at hli;cases hli
 have t3:H3 l=some (.lst []):=s3 _ _ t2;have npl:∀{c u},H c=some u->c≠l:=fun h=>jf h nl
 have np1:∀{c u},H1 c=some u->c≠l:=fun h=>jf h hl
 refine⟨li,_,rfl,SqL.of eli,?_⟩;refine Zs (xs:=ias.map V.ref) (fun i σ H'=>∃(o3 o4 o5 o6:Option V),σ=[some (.ref b),some (.ref lm),some (.ref l),o3,o4,o5,o6]/\(∀c u,c≠l->H3 c=some u->H' c=some u)/\H' l=some (.lst ((gs.take i).map V.int)))
  ⟨_,_,_,_,rfl,fun c u _ h=>h,t3⟩ ?_ ?_ ?_
 ·rintro i σ H' _ ⟨o3,o4,o5,o6,rfl,sm,e1⟩;exact SqL.of (sm _ _ nli eli)
 ·rintro i v σ H' P H4 hv ⟨o3,o4,o5,o6,rfl,sm,e1⟩ sP tP;obtain⟨ia,is',rfl,his,hia⟩:=lia.at_ref hv;have hi:i<ps.length:=by
   have:=(List.getElem?_eq_some_iff.mp his).1;rw[length_map]at this;exact this
  obtain⟨p,hp⟩:∃p,ps[i]?=some p:=⟨_,List.getElem?_eq_getElem hi⟩
  rw[List.getElem?_map,hp]at his;cases his;obtain⟨a,ea,fb,hat,hf⟩:=B.pa.get hp;have iam:ia∈ias:=by
   rw[List.getElem?_map]at hv;obtain⟨a',ea',e'⟩:=Option.map_eq_some_iff.mp hv;injection e' with e';subst e';exact List.mem_of_getElem? ea'
  have nial:ia≠l:=fun z=>by have:=nia ia iam;rw[z,t2]at this;cases this
  have k4:∀c u,c≠l->H3 c=some u->H4 c=some u:=fun c u hc h=>sP _ _ (sm _ _ hc h)
  have k04:∀c u,H c=some u->H4 c=some u:=fun c u h=>k4 _ _ (npl h) (s13 _ _ h)
  have k14:∀c u,H1 c=some u->H4 c=some u:=fun c u h=>k4 _ _ (np1 h) (s23 _ _ h)
  have hia4:H4 ia=some (.lst (((inP ps p.2).map fun j:Nat=>(j:Int)).map V.int)):=k4 _ _ nial hia;have e14:=sP _ _ e1;have hf4:FormAt H4 fb p.2:=FormAt.same k04 hf;have inl:=fun j=>W.inP_lt (j:=j) hp
  have w8:(inP ps p.2).length<=8:=by unfold inP;rw[length_map];exact(W.f i p hp).2
  obtain⟨lp,lgd⟩:=S.ln i p hp;have lgi:=S.gb i hi;refine QE (SqT.of tP) ?_;exists ixTm (SqT.of (k04 _ _ B.t)) rfl ?_;exists ixLm (SqL.of (k04 _ _ B.p)) (qR (i:=(i:Int)) (by omega) ea) ?_;exists ixTm (SqT.of (k04 _ _ hat)) rfl ?_;exists⟨fun σ' H5=>σ'=[some (.ref b),some (.ref lm),some (.ref l),some (.int i),some (.ref ia),some (.ref fb),o6]/\Same H4 H5,?_,?_⟩
  rotate_left
  ·by_cases hs0:∃qs,p.2 = .side qs
   ·obtain⟨qs,e⟩:=hs0;have ap:=S.sd i p qs hp e;generalize inP ps p.2=is at hia4 inl ap w8;rw[e]at hf4;obtain⟨nb,hf5,_⟩:=hf4;exists ixTm (SqT.of hf5) rfl ?_;exists iteE1 ?_;exists⟨ia,rfl,⟨_,SqL.of hia4⟩,?_⟩;have cat:∀j∈is,∃c,cms[j]?=some c/\H4 c=some (.lst ((hs.getD j []).map V.int)):=fun j hj=>by
     have jl:=inl j hj;obtain⟨c,hc,h1⟩:=aM.get (i:=j) (x:=M.getD j []) (by rw[getD_eq_getElem?_getD,List.getElem?_eq_getElem (by omega)];rfl);rw[mg j (by omega)]at h1;exact⟨c,hc,k14 _ _ h1⟩
    refine jQ (xs:=(is.map fun j:Nat=>(j:Int)).map V.int) (fun t ys H'=>∃cs:List Addr,ys=cs.map V.ref/\ListsAt H4 cs ((is.take t).map fun j=>hs.getD j [])/\H4=H') ⟨[],rfl,.nil,rfl⟩ ?_ ?_ ?_
    ·rintro t ys H' _ ⟨cs,rfl,lc,rfl⟩;exact SqL.of hia4
    ·rintro t x ys H' hx ⟨cs,rfl,lc,rfl⟩;rw[List.getElem?_map,List.getElem?_map]at hx;obtain⟨jj,hjj,rfl⟩:=Option.map_eq_some_iff.mp hx;obtain⟨j,hj,rfl⟩:=Option.map_eq_some_iff.mp hjj;obtain⟨c,hc,h1⟩:=cat j (List.mem_of_getElem? hj);have lcl:=lc.1;rw[length_map,length_take]at lcl;refine JO (σ':=[none,some _]) rfl ?_;exists iteT ?_;exists ixLm (SqL.of (k14 _ _ elm)) (qR (i:=(j:Int)) (by omega) hc) ?_;refine⟨by rw[length_map];omega,cs++[c],by rw[map_append];rfl,?_,rfl⟩;rw[take_snoc hj,map_append];exact All2.snoc lc h1
    rintro ys H' ⟨cs,rfl,lc,rfl⟩;rw[length_map,length_map,take_length]at lc;have lcl:=lc.1;rw[length_map]at lcl;refine⟨by rw[length_map];omega,?_⟩;walk_at"f 5 t";exists ixTm (SqT.of (s5 _ _ (k04 _ _ B.t))) rfl ?_;exists⟨_,p5,pl,cs,las,(is.map fun j=>hs.getD j []),rfl,t5,All2.mono lc fun c ks h=>s5 _ _ h,fun ks hks=>?_,by rw[length_map];omega,s5 _ _ (k04 _ _ B.l),ap.2,fun H6 s6=>?_⟩
    ·obtain⟨j,hj,rfl⟩:=mem_map.mp hks;exact ap.1 j hj
    walk_at"g";exact⟨rfl,s5.trans s6⟩
   ·have kd:∃k xs,H4 fb=some (.tup (.str k::xs))/\decide (k=("side" : Str))=false:=by
     generalize p.2=f at hf4 hs0;cases f with
     | side qs=>exact absurd ⟨qs,rfl⟩ hs0
     | hold n=>exact⟨_,_,hf4,by decide +kernel⟩
     | ring x n=>exact⟨_,_,hf4,by decide +kernel⟩
     | rise x v n=>exact⟨_,_,hf4,by decide +kernel⟩
     | row qs=>obtain⟨_,h1,_⟩:=hf4;exact⟨_,_,h1,by decide +kernel⟩
     | again k x=>exact⟨_,_,hf4,by decide +kernel⟩
    obtain⟨k,xs,hk,dk⟩:=kd;exists ixTm (SqT.of hk) (at0) ?_;exists iteB0 dk ?_;walk_at"g";exact⟨rfl,Same.refl _⟩
  rintro σ' H5 ⟨rfl,s5⟩;exists⟨ia,rfl,⟨_,SqL.of (s5 _ _ hia4)⟩,?_⟩;have e15:=s5 _ _ e14;refine jQ (xs:=((inP ps p.2).map fun j:Nat=>(j:Int)).map V.int) (fun t ys H'=>ys=(((inP ps p.2).take t).map fun j=>gs.getD j 0).map V.int/\H5=H') ⟨rfl,rfl⟩ ?_ ?_ ?_
  ·rintro t ys H' _ ⟨rfl,rfl⟩;exact SqL.of (s5 _ _ hia4)
  ·rintro t x ys H' hx ⟨rfl,rfl⟩;rw[List.getElem?_map,List.getElem?_map]at hx;obtain⟨jj,hjj,rfl⟩:=Option.map_eq_some_iff.mp hx;obtain⟨j,hj,rfl⟩:=Option.map_eq_some_iff.mp hjj;have jl:=inl j (List.mem_of_getElem? hj);refine JO (σ':=[none,some _]) rfl ?_;exists iteT ?_;exists ixLm (SqL.of e15) (xN (by omega) jl) ?_;refine⟨by rw[length_map,length_map,length_take];omega,?_,rfl⟩;rw[take_snoc hj,map_append,map_append];rfl
  rintro ys H' ⟨rfl,rfl⟩;rw[show(((inP ps p.2).map fun j:Nat=>(j:Int)).map V.int).length=(inP ps p.2).length by rw[length_map,length_map],take_length];refine⟨by rw[length_map,length_map];omega,?_⟩;walk_at"f 6 t";exists⟨fb,p6,p.2,_,rfl,FormAt.same (s5.trans s6) hf4,t6,lp,fun g hg=>?_⟩;have eg:=lgd g hg;subst eg;exists iteD (fun d=>?_) (fun d=>?_)
  ·exfalso;omega
  exists⟨.inl ⟨rfl,_,SqL.of (s6 _ _ e15)⟩,?_⟩;exists⟨l,_,_,rfl,rfl,s6 _ _ e15,by rw[length_map,length_take];omega,?_⟩;refine⟨_,_,_,_,rfl,fun c u hc h=>(jm hc).trans (s6 _ _ (s5 _ _ (k4 _ _ hc h))),?_⟩;rw[jh,Wi (by omega),map_append];rfl
 rintro σ' H' ⟨o3,o4,o5,o6,rfl,sm,e1⟩;rw[length_map,lial,<-gl,take_length]at e1;walk_at"g";exact q l H' (fun c u h=>sm _ _ (npl h) (s13 _ _ h)) nl e1
theorem zW(T:Txt K mg t):FnOk P w K mg base CX0 1 t.Jl t.Jo ["_law_script","_law_k"] (Pr.sp_cell_at K):=by
 refine T.JS.ok zY (fun vs H Q E h=>?_) (fun cdv A outer s H vs Q E hr h=>?_)
 ·cases h;subst_vars;rfl
 obtain⟨a,ns,k,rfl,hS,h63,h0,q⟩:=h;refine⟨_,(jc (jP (jn Kc (pv 1) (jt jC (by rfl) T.Jn jW (ja (pv 0) jd)) (nomark _))
   (je (jx (ji jq (pv 0) (pv 1))))
   jw)
  (je (jx jb))),?_⟩
 refine jD (σ':=[some _,some _]) rfl ?_;exists⟨_,_,rfl,.inl ⟨_,hS,rfl⟩,?_⟩;exists iteD (fun c=>?_) (fun c=>?_)
 ·walk_at"g";exact⟨a,_,k,_,rfl,rfl,hS,Pr.jH h0 (by rw[length_map]at c;exact c),q⟩
 ·walk_at"g";have e:Pr.cell ns k=0:=by
   rw[length_map]at c;unfold Pr.cell;rw[getD_eq_getElem?_getD,List.getElem?_eq_none (by omega)];rfl
  rw[e]at q;exact q
theorem ZC(T:Txt K mg t):FnOk P w K mg base CX0 1 t.j7 t.Ja ["_law_cell","_law_turn"] (QX):=by
 refine T.JE.ok qQ (fun vs H Q E h=>?_) (fun cdv A outer s H vs Q E hr h=>?_)
 ·obtain⟨c,m,rfl,m0,m1,q⟩:=h;rfl
 obtain⟨c,m,rfl,m0,m1,q⟩:=h;refine⟨_,(jc (jP (jn Kc (pv 0) (jg qM jb jb) (nomark _))
   (je (jx (pv 0)))
   jw)
  (jc (Jd PassesOwn.never rfl (JR (by rfl) T.qS (ja (jg JA jb (pv 1)) jd)) (jo (i:=2) qQ.nd rfl (.inl rfl))
   (je (jk (i:=0) qQ.nd rfl (.inl rfl) (jg Jq (pv 0) (jg qM jb jb)))))
  (je (jx (jg jK (jg qM jb jb) (pv 0)))))),?_⟩
 refine jD (σ':=[some _,some _,none]) rfl ?_;exists iteD (fun c1=>?_) (fun c1=>?_)
 ·walk_at"g";exact q _
 exists⟨_,rfl,by omega,by omega,?_⟩;refine JQ (fun i σ H'=>∃(x:Int) (o2:Option V),σ=[some (.int x),some (.int m),o2]/\H=H') ⟨_,_,rfl,rfl⟩ ?_ ?_
 ·rintro i σ H' hi ⟨x,o2,rfl,rfl⟩;walk_at"g";exact⟨_,_,rfl,rfl⟩
 ·rintro σ H' ⟨x,o2,rfl,rfl⟩;walk_at"g";exact q _
theorem ZB(T:Txt K mg t):FnOk P w K mg base CX0 1 t.Jf t.Jh ["_law_cell","_law_many"] (Ws.zO):=by
 refine T.qg.ok jL (fun vs H Q E h=>?_) (fun cdv A outer s H vs Q E hr h=>?_)
 ·obtain⟨c,m,rfl,m0,m1,q⟩:=h;rfl
 obtain⟨c,m,rfl,m0,m1,q⟩:=h;refine⟨_,(jc (jk (i:=2) jL.nd rfl (.inl rfl) (jM jd))
  (jc (jP (jn xS (pv 0) (jg qM jb jb) (nomark _))
   (jc (jk (i:=3) jL.nd rfl (.inl rfl) (jg Q5 (pv 0) (jg qM jb jb)))
   (jc (Jd PassesOwn.never rfl (JR (by rfl) T.qS (ja (pv 1) jd)) (jo (i:=4) jL.nd rfl (.inl rfl))
    (jc (jF (qx PySem.F.plainAttrs_list PySem.F.slot_list_append PySem.F.type_list_append jR (pv 2) (ja (jg jE (pv 3) jb) jd)))
    (je (jk (i:=3) jL.nd rfl (.inl rfl) (jg Jq (pv 3) jb)))))
   (je (jx (pv 2)))))
   jw)
  (jc (jk (i:=3) jL.nd rfl (.inl rfl) (jg jK (jg jE (pv 0) jb) jb))
  (jc (Jd PassesOwn.never rfl (JR (by rfl) T.qS (ja (pv 1) jd)) (jo (i:=4) jL.nd rfl (.inl rfl))
   (jc (jk (i:=3) jL.nd rfl (.inl rfl) (jg jK (jg jK (jg jK (jg JA (pv 3) (pv 3)) (jg JA jb (pv 3))) (jg JA jb (pv 4))) jb))
   (jc (jk (i:=3) jL.nd rfl (.inl rfl) (jg jE (pv 3) jb))
   (je (jF (qx PySem.F.plainAttrs_list PySem.F.slot_list_append PySem.F.type_list_append jR (pv 2) (ja (jg Jq (pv 3) jb) jd)))))))
  (je (jx (pv 2))))))),?_⟩
 refine jD (σ':=[some _,some _,none,none,none]) rfl ?_;have sz:(100:Nat)<sizeLine:=by decide
 exists⟨Nat.zero_le _,fun p hp=>?_⟩;exists iteD (fun c1=>?_) (fun c1=>?_)
 ·exists⟨_,rfl,by omega,by omega,?_⟩;refine JQ (fun i σ H'=>∃(x:Int) (o4:Option V) (ns:List Int),σ=[some (.int c),some (.int m),some (.ref p),some (.int x),o4]/\Same H H'/\H' p=some (.lst (ns.map V.int))/\ns.length=i/\∀n∈ns,0<=n/\n<33554432)
   ⟨_,_,[],rfl,Pr.ju hp _,jh,rfl,fun n h=>by cases h⟩ ?_ ?_
  ·rintro i σ H' hi ⟨x,o4,ns,rfl,sm,hl,hn,hb⟩;exists⟨.inl ⟨rfl,_,SqL.of hl⟩,?_⟩;exists⟨p,_,_,rfl,rfl,hl,by rw[length_map];omega,?_⟩;exists⟨_,_,ns++[x%33554432],rfl,Ws.zu sm hp,by rw[jh,map_append];rfl,by simp[hn],fun n h=>?_⟩;rcases mem_append.mp h with z | z
   ·exact hb n z
   ·have e:n=x%33554432:=by simpa using z
    omega
  ·rintro σ H' ⟨x,o4,ns,rfl,sm,hl,hn,hb⟩;walk_at"g";exact q p ns _ sm hp hl (by omega) hb
 ·exists⟨_,rfl,by omega,by omega,?_⟩;refine JQ (fun i σ H'=>∃(x:Int) (o4:Option V) (ns:List Int),σ=[some (.int c),some (.int m),some (.ref p),some (.int x),o4]/\0<=x/\x<=2147531918/\Same H H'/\H' p=some (.lst (ns.map V.int))/\ns.length=i/\∀n∈ns,0<=n/\n<33554432)
   ⟨_,_,[],rfl,by omega,by omega,Pr.ju hp _,jh,rfl,fun n h=>by cases h⟩ ?_ ?_
  ·rintro i σ H' hi ⟨x,o4,ns,rfl,x0,x1,sm,hl,hn,hb⟩;walk_at"g";generalize x*x+48271*x+7*(0+(i:Int))+1=y;refine⟨.inl ⟨rfl,_,SqL.of hl⟩,?_⟩;exists⟨p,_,_,rfl,rfl,hl,by rw[length_map];omega,?_⟩;refine⟨_,_,ns++[y%2147483647/64],rfl,by omega,by omega,Ws.zu sm hp,by rw[jh,map_append];rfl,by simp[hn],fun n h=>?_⟩;rcases mem_append.mp h with z | z
   ·exact hb n z
   ·have e:n=y%2147483647/64:=by simpa using z
    omega
  ·rintro σ H' ⟨x,o4,ns,rfl,x0,x1,sm,hl,hn,hb⟩;walk_at"g";exact q p ns _ sm hp hl (by omega) hb
theorem ZT(T:Txt K mg t)(j5:FnOk P w K mg base CX0 1 t.Jf t.Jh ["_law_cell","_law_many"] (Ws.zO)):FnOk P w K mg base CX0 2 t.JU t.JX ["_law_cell","_law_many"] (YQ):=by
 refine T.zc.ok jV (fun vs H Q E h=>?_) (fun cdv A outer s H vs Q E hr h=>?_)
 ·obtain⟨c,rfl,q⟩:=h;rfl
 obtain⟨c,rfl,q⟩:=h;refine⟨_,(jc (jk (i:=2) jV.nd rfl (.inr rfl) jv)
  (jc (jk (i:=3) jV.nd rfl (.inl rfl) (jp (j5.mono (by decide)) hr (by rfl) T.q0 T.qg.kp T.qW .nil pass0 (ja (pv 0) (ja jb jd))))
  (jc (jk (i:=4) jV.nd rfl (.inl rfl) (qx PySem.F.plainAttrs_str PySem.F.slot_str_join PySem.F.type_str_join Wp jv (ja (JL (ow:=["_law_one"]) (ci:=[2]) rfl (CompScope.of (defScope qB) ["_law_cell","_law_many","_law_letters","_law_some","_law_base","_law_at","_law_names_here","_law_k","_law_two"] rfl rfl (by decide +kernel)) (Jy (by decide)) (jS (JJ zw (pv 3) qT (JM (jg jE (ji jq (pv 3) jb) jb)))) (fun _ _ _ _ _=>⟨(jo (i:=0) (Jc ["_law_cell","_law_many","_law_letters","_law_some","_law_base","_law_at","_law_names_here","_law_k","_law_two"] rfl (by decide +kernel)) rfl (.inl rfl)),qy,(ji Y6 (pv 1) (jg jE (pv 0) jb))⟩)) jd)))
  (jc (jk (i:=5) jV.nd rfl (.inl rfl) (jg jE (ji jq (pv 3) jb) (jg jK (jt jC (by rfl) T.Jn jW (ja (pv 4) jd)) jb)))
  (jc (jk (i:=6) jV.nd rfl (.inl rfl) (jM jd))
  (jc (Jd PassesOwn.never rfl (JR (by rfl) T.qS (ja (pv 1) jd)) (jo (i:=7) jV.nd rfl (.inl rfl))
   (jc (jk (i:=8) jV.nd rfl (.inl rfl) (jg qL (ji Y6 (pv 2) (jg Jq (pv 7) jb)) (ji Y6 (pv 2) (jg jE (pv 7) jb))))
   (je (jP (jn Jj (jg jE (ji jq (pv 3) jb) jb) jb (nomark _))
    (je (jF (qx PySem.F.plainAttrs_list PySem.F.slot_list_append PySem.F.type_list_append jR (pv 6) (ja (jg qL (jg qL (JJ y0 (pv 4) qT (JM (pv 5))) (pv 8)) (JJ y0 (pv 4) (JM (pv 5)) qT)) jd))))
    (je (jP (jn Jj (jg jE (ji jq (pv 3) jb) jb) jb (nomark _))
     (je (jF (qx PySem.F.plainAttrs_list PySem.F.slot_list_append PySem.F.type_list_append jR (pv 6) (ja (jg qL (pv 8) (JJ y0 (pv 4) qT (JM (jg jE (pv 7) (jg jK (jt jC (by rfl) T.Jn jW (ja (pv 4) jd)) jb))))) jd))))
     (je (jF (qx PySem.F.plainAttrs_list PySem.F.slot_list_append PySem.F.type_list_append jR (pv 6) (ja (JJ y0 (pv 8) (JM (QT Km (by rfl) T.WO KW (ja (WA Kc (pv 7) jb (nomark _)) jd))) qT) jd))))))))))
  (je (jx (pv 6))))))))),?_⟩
 refine jD (σ':=[some _,some _,none,none,none,none,none,none,none]) rfl ?_;have sz:(200:Nat)<sizeLine:=by decide
 exists⟨_,_,rfl,by omega,by omega,fun p ns H1 s1 hp hl hn hb=>?_⟩;have hb':∀k:Int,0<=k->k<9->0<=Pr.cell ns k:=fun k h0 h1=>(hb _ (List.mem_of_getElem? (Pr.Yj (ns:=ns) (k:=k) h0 (by omega)))).1
 exists⟨rfl,?_⟩;exists ixLm (SqL.of hl) (Pr.jH (by omega) (by omega)) ?_;exists⟨p,_,rfl,SqL.of hl,fun p3 hp3=>?_⟩;have b6:=hb' 6 (by omega) (by omega);have hcut:=Pr.K1 (ns:=ns) (m:=Pr.cell ns 6%7) (by omega) (by omega);rw[hcut];have s4:=Pr.ju hp3 (.lst ((ns.take (Pr.cell ns 6%7).toNat).map V.int));have e3:upd H1 p3 (.lst ((ns.take (Pr.cell ns 6%7).toNat).map V.int)) p3=some (.lst ((ns.take (Pr.cell ns 6%7).toNat).map V.int)):=jh;generalize upd H1 p3 (.lst ((ns.take (Pr.cell ns 6%7).toNat).map V.int))=H4 at s4 e3|-;have hml:(ns.take (Pr.cell ns 6%7).toNat).length<=6:=by rw[length_take];omega
 generalize ns.take (Pr.cell ns 6%7).toNat=ms at e3 hml|-;refine⟨p3,rfl,⟨_,SqL.of e3⟩,?_⟩;refine jQ (xs:=ms.map V.int) (fun i ys H'=>∃zs:List Str,ys=zs.map V.str/\zs.length=i/\(∀z∈zs,∃c,z=⟨#[c]⟩/\97<=c/\c<=122)/\H4=H') ⟨[],rfl,rfl,(fun z h=>nomatch h),rfl⟩ ?_ ?_ ?_
 ·rintro i ys H' _ ⟨zs,rfl,hz,h1,rfl⟩;exact SqL.of e3
 ·rintro i x ys H' hx ⟨zs,rfl,hz,h1,rfl⟩;obtain⟨n,hn',rfl⟩:=mem_map.mp (List.mem_of_getElem? hx);have hi:=(List.getElem?_eq_some_iff.mp hx).1;rw[length_map]at hi;refine JO (σ':=[none,some _]) rfl ?_;exists iteT ?_;exists⟨_,_,_,rfl,rfl,(by decide +kernel),Y9 (by omega) (by omega),?_⟩;refine⟨by rw[length_map];omega,zs++[⟨#[97+(n%26).toNat]⟩],by rw[map_append];rfl,by simp[hz],fun y hy=>?_,rfl⟩;rcases mem_append.mp hy with w | w
  ·exact h1 y w
  ·have e:y=⟨#[97+(n%26).toNat]⟩:=by simpa using w
   exact⟨_,e,by omega,by omega⟩
 rintro ys H' ⟨zs,rfl,hz,h1,rfl⟩;rw[length_map]at hz;refine⟨by rw[length_map];omega,fun p4 hp4=>?_⟩;have s5:=Pr.ju hp4 (.lst (zs.map V.str));have e4:upd H4 p4 (.lst (zs.map V.str)) p4=some (.lst (zs.map V.str)):=jh;generalize upd H4 p4 (.lst (zs.map V.str))=H5 at s5 e4|-;have h1':∀z∈zs,z.length=1:=fun z hz=>by obtain⟨c,rfl,_⟩:=h1 z hz;rfl
 have hone:(zs.map (·.length)).sum=zs.length:=Ws.YS zs h1';have ee:(Str.ofString "").length=0:=by decide +kernel
 have hsum:(zs.map (·.length)).sum+zs.length*(Str.ofString "").length<=16777216:=by rw[hone,ee];omega
 exists⟨_,p4,zs,rfl,rfl,SqL.of e4,hsum,?_⟩;obtain⟨hxl,hxc⟩:=Kk (zs:=zs) h1;generalize Txt.join (Str.ofString "") zs=x at hxl hxc|-;have s6:=s1.trans (s4.trans s5);have hl5:=s5 _ _ (s4 _ _ hl);have b7:=hb' 7 (by omega) (by omega);have b8:=hb' 8 (by omega) (by omega);exists ixLm (SqL.of hl5) (Pr.jH (by omega) (by omega)) ?_;exists⟨_,_,rfl,⟨by omega,rfl⟩,?_⟩;walk_at"g";have a0:=Int.emod_nonneg (Pr.cell ns 7) (show(x.length:Int)+1≠0 by omega);have a1:=Int.emod_lt_of_pos (Pr.cell ns 7) (show 0<(x.length:Int)+1 by omega);generalize Pr.cell ns 7%((x.length:Int)+1)=a at a0 a1|-;refine⟨Nat.zero_le _,fun p5 hp5=>?_⟩;exists⟨_,rfl,by omega,by omega,?_⟩;have np:p≠p5:=jf hl5 hp5;refine JQ (fun i σ H'=>∃(o7 o8:Option V) (ws:List Str),σ=[some (.int c),some (.int 68),some (.str "abcdefghijklmnopqrstuvwxyz"),some (.ref p),some (.str x),some (.int a),some (.ref p5),o7,o8]/\Same H5 H'/\H' p5=some (.lst (ws.map V.str))/\ws.length=i/\∀j,j<i->(ws[j]?).map (·.cps.toList)=some (nmL (Pr.cell ns 8%3) x.cps.toList a.toNat j))
  ⟨_,_,[],rfl,Pr.ju hp5 _,jh,rfl,fun j hj=>absurd hj (Nat.not_lt_zero j)⟩ ?_ ?_
 ·rintro i σ H' hi ⟨o7,o8,ws,rfl,sm,hl',hn',hw⟩;have hi':i<68:=by omega
  exists⟨_,_,_,rfl,rfl,(by decide +kernel),Y9 (by omega) (by omega),?_⟩;exists⟨_,_,_,rfl,rfl,(by decide +kernel),Y9 (by omega) (by omega),?_⟩;have one:∀c:Nat,(⟨#[c]⟩:Str).length=1:=fun _=>rfl
  refine⟨_,_,rfl,rfl,by rw[one,one];omega,?_⟩;obtain⟨two,etwo⟩:∃two,two=(⟨#[97+((0+(i:Int))/26).toNat]⟩:Str)++⟨#[97+((0+(i:Int))%26).toNat]⟩:=⟨_,rfl⟩
  rw[<-etwo];have ltwo:two.length=2:=by rw[etwo,Str.length_append];rfl
  have ctwo:two.cps.toList=[97+i/26,97+i%26]:=by
   rw[etwo,app_list];show[97+((0+(i:Int))/26).toNat]++[97+((0+(i:Int))%26).toNat]=_;rw[show((0+(i:Int))/26).toNat=i/26 by omega,show((0+(i:Int))%26).toNat=i%26 by omega];rfl
  clear etwo;exists ixLm (SqL.of (sm _ _ hl5)) (Pr.jH (by omega) (by omega)) ?_;walk_at"g";have fin:∀y:Str,y.cps.toList=nmL (Pr.cell ns 8%3) x.cps.toList a.toNat i->∃(o7' o8':Option V) (ws':List Str),[some (V.int c),some (.int 68),some (.str "abcdefghijklmnopqrstuvwxyz"),some (.ref p),some (.str x),some (.int a),some (.ref p5),some (.int (0+(i:Int))),some (.str two)]=[some (V.int c),some (.int 68),some (.str "abcdefghijklmnopqrstuvwxyz"),some (.ref p),some (.str x),some (.int a),some (.ref p5),o7',o8']/\Same H5 (upd H' p5 (.lst (ws.map V.str++[.str y])))/\upd H' p5 (.lst (ws.map V.str++[.str y])) p5=some (.lst (ws'.map V.str))/\ws'.length=i+1/\∀j,j<i+1->(ws'[j]?).map (·.cps.toList)=some (nmL (Pr.cell ns 8%3) x.cps.toList a.toNat j):=
   fun y hy=>⟨_,_,ws++[y],rfl,Ws.zu sm hp5,by rw[jh,map_append];rfl,by simp[hn'],Wu hn' hw hy⟩
  refine iteD (fun c1=>?_) (fun c1=>?_)
  ·exists⟨.inl ⟨rfl,_,SqL.of hl'⟩,?_⟩;walk_at"g";have j1:=Txt.slice_le x none (some a);have j2:=Txt.slice_le x (some a) none;refine⟨by omega,?_⟩;exists⟨_,_,rfl,rfl,by omega,?_⟩;exists⟨by omega,?_⟩;refine⟨_,_,rfl,rfl,by rw[Str.length_append];omega,?_⟩;exists⟨p5,_,_,rfl,rfl,hl',by rw[length_map];omega,?_⟩;exists fin _ ?_;rw[app_list,app_list,cutTo (by omega) (by omega),cutFrom (by omega) (by omega),ctwo];unfold nmL;rw[if_pos c1]
  ·exists ixLm (SqL.of (sm _ _ hl5)) (Pr.jH (by omega) (by omega)) ?_;exists iteD (fun c2=>?_) (fun c2=>?_)
   ·exists⟨.inl ⟨rfl,_,SqL.of hl'⟩,?_⟩;exists⟨_,_,rfl,⟨by omega,rfl⟩,?_⟩;walk_at"g";have d0:=Int.emod_nonneg (0+(i:Int)) (show(x.length:Int)+1≠0 by omega);have d1:=Int.emod_lt_of_pos (0+(i:Int)) (show 0<(x.length:Int)+1 by omega);have j1:=Txt.slice_le x none (some ((0+(i:Int))%((x.length:Int)+1)));refine⟨by omega,?_⟩;refine⟨_,_,rfl,rfl,by omega,?_⟩;exists⟨p5,_,_,rfl,rfl,hl',by rw[length_map];omega,?_⟩;exists fin _ ?_;rw[app_list,cutTo (by omega) (by omega),ctwo];unfold nmL;rw[if_neg c1,if_pos c2,Ws.Zu,show((0+(i:Int))%((x.length:Int)+1)).toNat=i%(x.length+1) by rw[Int.zero_add];exact Int.toNat_natCast _]
   ·exists⟨.inl ⟨rfl,_,SqL.of hl'⟩,?_⟩;exists .inr ⟨_,rfl,?_⟩;walk_at"g";have j1:=Txt.slice_le two (some (if decide (0+(i:Int)<26)=true then 1 else 0)) none;refine⟨by omega,?_⟩;exists⟨p5,_,_,rfl,rfl,hl',by rw[length_map];omega,?_⟩;exists fin _ ?_;unfold nmL;rw[if_neg c1,if_neg c2];by_cases c3:i<26
    ·rw[if_pos (decide_eq_true (by omega)),if_pos c3,cutFrom (by omega) (by omega),ctwo];rfl
    ·rw[if_neg (by simp;omega),if_neg c3,cutFrom (by omega) (by omega),ctwo];rfl
 ·rintro σ H' ⟨o7,o8,ws,rfl,sm,hl',hn',hw⟩;walk_at"g";obtain⟨g1,g2⟩:=kh (ws:=ws) hxc (by rw[Ws.Zu];omega) (by omega) hw;exact q p5 ws _ (s6.trans sm) (none_of s6 hp5) hl' (by omega) g1 g2
theorem Zy(T:Txt K mg t):FnOk P w K mg base CX0 1 t.j6 t.j9 ["_law_cell","_law_mixed","_law_least"] (QW):=by
 refine T.JD.ok qP (fun vs H Q E h=>?_) (fun cdv A outer s H vs Q E hr h=>?_)
 ·obtain⟨c,m,l,rfl,m0,m1,l0,l1,q⟩:=h;rfl
 obtain⟨c,m,l,rfl,m0,m1,l0,l1,q⟩:=h;refine⟨_,(jc (jk (i:=3) qP.nd rfl (.inl rfl) (jg jE (pv 1) jb))
  (jc (jP (jn Jj (pv 3) jb (nomark _))
   (je (jx (jg jK (pv 2) (jg jE (jg Jq (pv 1) jb) jb))))
   jw)
  (jc (jP (jn Jj (pv 3) jb (nomark _))
   (je (jx (jg jK (pv 2) (jg jE (pv 0) (jg Q5 (jg jK (jg qM jb jb) jb) (pv 2))))))
   jw)
  (jc (jP (jn Jj (pv 3) jb (nomark _))
   (je (jx (jg jK (pv 2) (jg jE (jg JA (jg JA (pv 1) (pv 1)) jb) (jg Q5 (jg jK (jg qM jb jb) jb) (pv 2))))))
   jw)
  (jc (jk (i:=4) qP.nd rfl (.inl rfl) (jg Q5 (jg jK (QT Kn (by rfl) T.WO KW (ja (jg qL jv (jg Wy jv (jg jE (jg Jq (pv 1) jb) jb))) jd)) (jg jE (jg Jq (pv 1) jb) jb)) jb))
  (je (jx (jt (Z5 rfl) (by rfl) T.kJ yy (ja (pv 2) (ja (jt (Z7 rfl) (by rfl) T.WP KY (ja (jg qM jb jb) (ja (pv 4) jd))) jd)))))))))),?_⟩
 refine jD (σ':=[some _,some _,some _,none,none]) rfl ?_;have a0:=Int.emod_nonneg c (show(10^18+1-l:Int)≠0 by omega);have a1:=Int.emod_lt_of_pos c (show(0:Int)<10^18+1-l by omega);have b0:=Int.emod_nonneg (m*m*48271) (show(10^18+1-l:Int)≠0 by omega);have b1:=Int.emod_lt_of_pos (m*m*48271) (show(0:Int)<10^18+1-l by omega);have mm:=xo (x:=m) (y:=m) (A:=33554432) (B:=33554432) (by omega) (by omega) (by omega) (by omega);exists iteD (fun c1=>?_) (fun c1=>?_)
 ·exists q _ ?_ ?_<;>omega
 exists iteD (fun c2=>?_) (fun c2=>?_)
 ·exists q _ ?_ ?_<;>omega
 exists iteD (fun c3=>?_) (fun c3=>?_)
 ·exists q _ ?_ ?_<;>omega
 exists⟨_,_,rfl,rfl,mulOk0 (by omega) (by omega),?_⟩;exists⟨_,_,rfl,rfl,wV (by omega) (by omega),?_⟩;exists⟨_,_,rfl,tens (by omega) (by omega),KO (by omega) (by omega),?_⟩;walk_at"g";generalize(10:Int)^(m/4%19).toNat+m/76%3-1=y;refine⟨_,_,rfl,?_⟩;exists⟨_,_,rfl,q _ ?_ ?_⟩<;>repeat' split<;>omega
theorem YB(T:Txt K mg t):FnOk P w K mg base CX0 1 t.J3 t.qb ["_law_room_here","_law_form","_law_hands","_law_long"] (sp_add):=by
 refine T.JN.ok YI (fun vs H Q E h=>?_) (fun cdv A outer s H vs Q E hr h=>?_)
 ·cases h;subst_vars;rfl
 obtain⟨z,m,fa,ha,f,ks,g,rfl,R,hf,hh,l1,l2,l3,l4,q⟩:=h;refine⟨_,(jc (jF (qx PySem.F.plainAttrs_list PySem.F.slot_list_append PySem.F.type_list_append jR (jB (jY hr) (pv 0) jv) (ja (Jr (ja (ji jq (jB (jY hr) (pv 0) jv) (jt jC (by rfl) T.Jn jW (ja (jB (jY hr) (pv 0) jv) jd))) (ja (pv 1) jd))) jd)))
  (jc (jF (qx PySem.F.plainAttrs_list PySem.F.slot_list_append PySem.F.type_list_append jR (jB (jY hr) (pv 0) jv) (ja (pv 2) jd)))
  (je (jF (qx PySem.F.plainAttrs_list PySem.F.slot_list_append PySem.F.type_list_append jR (jB (jY hr) (pv 0) jv) (ja (pv 3) jd)))))),?_⟩
 refine jD (σ':=[some _,some _,some _,some _]) rfl ?_;have sz:(200:Nat)<sizeLine:=by decide
 obtain⟨qs,eq,aq⟩:=R.p;obtain⟨hs,eh,ah⟩:=R.h;have hq:=aq.1;have hhl:=ah.1;exists⟨_,_,rfl,Ji R,?_⟩;refine⟨.inl ⟨rfl,_,SqL.of eq⟩,?_⟩;exists⟨_,_,rfl,yd R,?_⟩;exists⟨_,_,rfl,Ji R,?_⟩;exists⟨_,_,rfl,.inl ⟨_,SqL.of eq,rfl⟩,?_⟩;rw[length_map,hq];refine ixLm (SqL.of R.n) (kI (by omega)) ?_;exists⟨(by show 2<=sizeLine;omega),fun p hp=>?_⟩;have s1:=Pr.ju hp (.tup [.str (m.names.getD m.parts.length ⟨#[]⟩),.ref fa]);have e1:upd H p (.tup [.str (m.names.getD m.parts.length ⟨#[]⟩),.ref fa]) p=some (.tup [.str (m.names.getD m.parts.length ⟨#[]⟩),.ref fa]):=jh;generalize upd H p (.tup [.str (m.names.getD m.parts.length ⟨#[]⟩),.ref fa])=H1 at s1 e1|-;have R1:=R.keeps s1;have hf1:FormAt H1 fa f:=FormAt.kp R (Kp.of s1) hf;have hh1:HandAt z H1 ha ks:=⟨s1 _ _ hh.1,hh.2⟩
 have aq1:All2 (PartAt H1) qs m.parts:=aq.mono fun a x h=>PartAt.kp R (Kp.of s1) h
 have ah1:All2 (HandAt z H1) hs m.hands:=ah.mono fun a x h=>⟨s1 _ _ h.1,h.2⟩
 have eq1:=s1 _ _ eq;have eh1:=s1 _ _ eh;have od:=Yz R;exists⟨_,_,_,rfl,rfl,eq1,by rw[length_map];omega,?_⟩;walk_at"g";have d2:upd H1 z.pp (.lst (qs.map V.ref++[.ref p])) z.r=_:=(jm od.1).trans R1.d;have eh2:upd H1 z.pp (.lst (qs.map V.ref++[.ref p])) z.ph=_:=(jm R.ph.symm).trans eh1;have eg2:upd H1 z.pp (.lst (qs.map V.ref++[.ref p])) z.pg=_:=(jm R.pg.symm).trans R1.g;have ep2:upd H1 z.pp (.lst (qs.map V.ref++[.ref p])) z.pp=_:=jh;have k2:Kp z H1 (upd H1 z.pp (.lst (qs.map V.ref++[.ref p]))):=fun b u o h=>(jm o.1).trans h
 generalize upd H1 z.pp (.lst (qs.map V.ref++[.ref p]))=H2 at d2 eh2 eg2 ep2 k2|-;refine⟨_,_,rfl,DGet.k (k:=Sum.inr "hands") d2,?_⟩;refine⟨.inl ⟨rfl,_,SqL.of eh2⟩,?_⟩;exists⟨_,_,_,rfl,rfl,eh2,by rw[length_map];omega,?_⟩;walk_at"g";have d3:upd H2 z.ph (.lst (hs.map V.ref++[.ref ha])) z.r=_:=(jm od.2.1).trans d2;have eg3:upd H2 z.ph (.lst (hs.map V.ref++[.ref ha])) z.pg=_:=(jm R.hg.symm).trans eg2;have ep3:upd H2 z.ph (.lst (hs.map V.ref++[.ref ha])) z.pp=_:=(jm R.ph).trans ep2;have eh3:upd H2 z.ph (.lst (hs.map V.ref++[.ref ha])) z.ph=_:=jh;have k3:Kp z H1 (upd H2 z.ph (.lst (hs.map V.ref++[.ref ha]))):=fun b u o h=>(jm o.2.1).trans (k2 b u o h)
 generalize upd H2 z.ph (.lst (hs.map V.ref++[.ref ha]))=H3 at d3 eg3 ep3 eh3 k3|-;refine⟨_,_,rfl,DGet.k (k:=Sum.inr "long") d3,?_⟩;refine⟨.inl ⟨rfl,_,SqL.of eg3⟩,?_⟩;exists⟨_,_,_,rfl,rfl,eg3,by rw[length_map];omega,?_⟩;have eg4:upd H3 z.pg (.lst (m.longs.map V.int++[.int g])) z.pg=_:=jh;have ep4:upd H3 z.pg (.lst (m.longs.map V.int++[.int g])) z.pp=_:=(jm R.pg).trans ep3;have eh4:upd H3 z.pg (.lst (m.longs.map V.int++[.int g])) z.ph=_:=(jm R.hg).trans eh3;have k4:Kp z H1 (upd H3 z.pg (.lst (m.longs.map V.int++[.int g]))):=fun b u o h=>(jm o.2.2).trans (k3 b u o h)
 exact q _ (fun b u o h=>k4 b u o (s1 b u h)) (KR R1 k4 eq1 aq1 eh1 ah1 ⟨fa,e1,hf1⟩ hh1 ep4 eh4 eg4) fun hs' e=>by rw[eh]at e;injection e with e;injection e with e;rw[map_append,<-e];exact eh4
theorem ZA(T:Txt K mg t)(jJ:FnOk P w K mg base CX0 1 t.j7 t.Ja ["_law_cell","_law_turn"] (QX))(jI:FnOk P w K mg base CX0 1 t.j6 t.j9 ["_law_cell","_law_mixed","_law_least"] (QW))(jZ:FnOk P w K mg base CX0 1 t.J3 t.qb ["_law_room_here","_law_form","_law_hands","_law_long"] (sp_add)):FnOk P w K mg base CX0 2 t.Je t.Jg ["_law_room_here","_law_cell","_law_some"] (sp_simple):=by
 refine T.qf.ok J0 (fun vs H Q E h=>?_) (fun cdv A outer s H vs Q E hr h=>?_)
 ·cases h;subst_vars;rfl
 obtain⟨z,m,c,p,ns,rfl,R,G,ml,hl,op,hn,hb,q⟩:=h;refine⟨_,(jc (jk (i:=3) J0.nd rfl (.inl rfl) (jp (jI.mono (by decide)) hr (by rfl) T.qj T.JD.kp T.qd .nil pass0 (ja (jp (jJ.mono (by decide)) hr (by rfl) T.qk T.JE.kp T.qe .nil pass0 (ja (pv 1) (ja jb jd))) (ja (ji jq (pv 2) jb) (ja jb jd)))))
  (je (jP (jn Jj (jg jE (ji jq (pv 2) jb) jb) jb (nomark _))
   (je (jF (jp (jZ.mono (by decide)) hr (by rfl) T.qc T.JN.kp T.J2 .nil pass0 (ja (pv 0) (ja (Jr (ja jv (ja (pv 3) jd))) (ja (jM jd) (ja (pv 3) jd)))))))
   (je (jP (jn Jj (jg jE (ji jq (pv 2) jb) jb) jb (nomark _))
    (je (jF (jp (jZ.mono (by decide)) hr (by rfl) T.qc T.JN.kp T.J2 .nil pass0 (ja (pv 0) (ja (Jr (ja jv (ja (ji jq (jB (jY hr) (pv 0) jv) (jg jE (ji jq (pv 2) jb) jb)) (ja (pv 3) jd)))) (ja (jM jd) (ja (pv 3) jd)))))))
    (jc (jk (i:=4) J0.nd rfl (.inl rfl) (jg jE (ji jq (pv 2) jb) (jt jC (by rfl) T.Jn jW (ja (jB (jY hr) (pv 0) jv) jd))))
    (jc (jk (i:=5) J0.nd rfl (.inl rfl) (jp (jI.mono (by decide)) hr (by rfl) T.qj T.JD.kp T.qd .nil pass0 (ja (jp (jJ.mono (by decide)) hr (by rfl) T.qk T.JE.kp T.qe .nil pass0 (ja (jg Jq (pv 1) jb) (ja jb jd))) (ja (ji jq (pv 2) jb) (ja jb jd)))))
    (je (jF (jp (jZ.mono (by decide)) hr (by rfl) T.qc T.JN.kp T.J2 .nil pass0 (ja (pv 0) (ja (Jr (ja jv (ja (ji jr (ji jq (jB (jY hr) (pv 0) jv) (pv 4)) jb) (ja (pv 5) (ja (pv 3) jd))))) (ja (jM (ja (pv 4) jd)) (ja (pv 3) jd)))))))))))))),?_⟩
 refine jD (σ':=[some _,some _,some _,none,none,none]) rfl ?_;have sz:(200:Nat)<sizeLine:=by decide
 have nl:=G.nl;have e1:=G.hl;have e2:=G.gl;have c0:=hb.cell (k:=0) (by omega) (by omega);have c1:=hb.cell (k:=1) (by omega) (by omega);have c2:=hb.cell (k:=2) (by omega) (by omega);have c3:=hb.cell (k:=3) (by omega) (by omega);exists⟨_,_,rfl,by omega,by omega,fun wn=>?_⟩;exists ixLm (SqL.of hl) (Pr.jH (by omega) (by omega)) ?_;exists⟨_,_,_,rfl,by omega,by omega,by omega,by omega,fun b b1 b2=>?_⟩;exists ixLm (SqL.of hl) (Pr.jH (by omega) (by omega)) ?_;exists iteD (fun d1=>?_) (fun d1=>?_)
 ·exists⟨(by show 2<=sizeLine;omega),fun p1 hp1=>?_⟩;have s1:=Pr.ju hp1 (.tup [.str "hold",.int b]);have t1:upd H p1 (.tup [.str "hold",.int b]) p1=some (.tup [.str "hold",.int b]):=jh;generalize upd H p1 (.tup [.str "hold",.int b])=H1 at s1 t1|-;have R1:=R.keeps s1;exists⟨Nat.zero_le _,fun p2 hp2=>?_⟩;have s2:=Pr.ju hp2 (.lst []);have t2:upd H1 p2 (.lst []) p2=some (.lst []):=jh;generalize upd H1 p2 (.lst [])=H2 at s2 t2|-;have R2:=R1.keeps s2;exists⟨z,m,p1,p2,.hold b,[],b,rfl,R2,s2 _ _ t1,⟨t2,Qs R1 hp2⟩,by omega,by omega,by omega,nl,fun H' k R' _=>?_⟩;exact q _ _ ((Kp.of (s1.trans s2)).trans k) R' (G.add ⟨⟨b1,b2,rfl,rfl⟩,(fun z h=>nomatch h),.nil,by omega,by omega⟩) QN
 exists ixLm (SqL.of hl) (Pr.jH (by omega) (by omega)) ?_;exists iteD (fun d2=>?_) (fun d2=>?_)
 ·exists⟨_,_,rfl,yd R,?_⟩;exists ixLm (SqL.of hl) (Pr.jH (by omega) (by omega)) ?_;exists ixLm (SqL.of R.n) (Yb (by omega) (by omega)) ?_;have hx:=getD_in (ws:=m.names) (n:=(Pr.cell ns 1%60).toNat) (by omega);generalize m.names.getD (Pr.cell ns 1%60).toNat ⟨#[]⟩=x at hx|-;exists⟨(by show 3<=sizeLine;omega),fun p1 hp1=>?_⟩;have s1:=Pr.ju hp1 (.tup [.str "ring",.str x,.int b]);have t1:upd H p1 (.tup [.str "ring",.str x,.int b]) p1=some (.tup [.str "ring",.str x,.int b]):=jh;generalize upd H p1 (.tup [.str "ring",.str x,.int b])=H1 at s1 t1|-;have R1:=R.keeps s1;exists⟨Nat.zero_le _,fun p2 hp2=>?_⟩;have s2:=Pr.ju hp2 (.lst []);have t2:upd H1 p2 (.lst []) p2=some (.lst []):=jh;generalize upd H1 p2 (.lst [])=H2 at s2 t2|-;have R2:=R1.keeps s2;exists⟨z,m,p1,p2,.ring x b,[],b,rfl,R2,s2 _ _ t1,⟨t2,Qs R1 hp2⟩,by omega,by omega,by omega,nl,fun H' k R' _=>?_⟩;exact q _ _ ((Kp.of (s1.trans s2)).trans k) R' (G.add ⟨⟨hx,b1,b2,rfl,rfl⟩,(fun z h=>nomatch h),.nil,by omega,by omega⟩) QN
 exists ixLm (SqL.of hl) (Pr.jH (by omega) (by omega)) ?_;walk_at"g";obtain⟨ls,el,al⟩:=R.l;have l1:=G.l1;have l8:=G.l8;have la:=al.1;refine⟨_,_,rfl,QQ R,?_⟩;exists⟨_,_,rfl,.inl ⟨_,SqL.of el,rfl⟩,?_⟩;rw[length_map,la];walk_at"g";have i0:=Int.emod_nonneg (Pr.cell ns 1) (show(m.limbs.length:Int)≠0 by omega);have i1:=Int.emod_lt_of_pos (Pr.cell ns 1) (show 0<(m.limbs.length:Int) by omega);generalize Pr.cell ns 1%(m.limbs.length:Int)=j at i0 i1|-;refine⟨_,_,rfl,by omega,by omega,fun wn2=>?_⟩;exists ixLm (SqL.of hl) (Pr.jH (by omega) (by omega)) ?_;exists⟨_,_,_,rfl,by omega,by omega,by omega,by omega,fun h h1 h2=>?_⟩;exists⟨_,_,rfl,QQ R,?_⟩;walk_at"g";obtain⟨x,v,hx⟩:∃x v,m.limbs[j.toNat]?=some (x,v):=⟨_,_,List.getElem?_eq_getElem (by omega)⟩
 obtain⟨a,ha,hat⟩:=al.get hx;refine ixLm (SqL.of el) (qR i0 ha) ?_;exists ixTm (SqT.of hat) rfl ?_;exists⟨(by show 4<=sizeLine;omega),fun p1 hp1=>?_⟩;have s1:=Pr.ju hp1 (.tup [.str "raise",.str x,.int h,.int b]);have t1:upd H p1 (.tup [.str "raise",.str x,.int h,.int b]) p1=some (.tup [.str "raise",.str x,.int h,.int b]):=jh;generalize upd H p1 (.tup [.str "raise",.str x,.int h,.int b])=H1 at s1 t1|-;have R1:=R.keeps s1;exists⟨(by show 1<=sizeLine;omega),fun p2 hp2=>?_⟩;have s2:=Pr.ju hp2 (.lst [.int j]);have t2:upd H1 p2 (.lst [.int j]) p2=some (.lst [.int j]):=jh;generalize upd H1 p2 (.lst [.int j])=H2 at s2 t2|-;have R2:=R1.keeps s2;exists⟨z,m,p1,p2,.rise x h b,[j],b,rfl,R2,s2 _ _ t1,⟨t2,Qs R1 hp2⟩,by omega,by omega,by omega,nl,fun H' k R' _=>?_⟩;refine q _ _ ((Kp.of (s1.trans s2)).trans k) R' (G.add ⟨⟨⟨j.toNat,v,hx,by rw[Int.toNat_of_nonneg i0]⟩,h1,h2,b1,b2,rfl⟩,fun k hk=>?_,pairwise_singleton _ _,by omega,by omega⟩) QN;have e:k=j:=by simpa using hk
 omega
theorem ZU(T:Txt K mg t):FnOk P w K mg base CX0 1 t.Ju t.Jw ["_law_room_here","_law_number_here"] (sp_there):=by
 refine T.Qm.ok Q0 (fun vs H Q E h=>?_) (fun cdv A outer s H vs Q E hr h=>?_)
 ·cases h;subst_vars;rfl
 obtain⟨z,m,n,rfl,R,hm,n0,q⟩:=h;refine⟨_,(jc (jk (i:=2) Q0.nd rfl (.inl rfl) (jt jC (by rfl) T.Jn jW (ja (jB (jY hr) (pv 0) jv) jd)))
  (jc (jP (jn Jj (jg jE (pv 1) jb) jb (nomark _))
   (je (jx (jg Q5 (jg Q5 (pv 2) jb) (jg jE (jg Jq (pv 1) jb) (jt (Z7 rfl) (by rfl) T.WP KY (ja (pv 2) (ja jb jd)))))))
   jw)
  (je (jx (jg jE (jg Jq (pv 1) jb) (pv 2)))))),?_⟩
 refine jD (σ':=[some _,some _,none]) rfl ?_;obtain⟨qs,eq,aq⟩:=R.p;have hq:=aq.1;exists⟨_,_,rfl,Ji R,?_⟩;exists⟨_,_,rfl,.inl ⟨_,SqL.of eq,rfl⟩,?_⟩;rw[length_map,hq];generalize m.parts.length=k at hm q|-;exists iteD (fun c1=>?_) (fun c1=>?_)
 ·exists⟨_,_,rfl,?_⟩;have e:0<(if(6:Int)<(k:Int)then(6:Int)else k)/\(if(6:Int)<(k:Int)then(6:Int)else k)<=k:=by split<;>omega
  generalize(if(6:Int)<(k:Int)then(6:Int)else k)=w at e|-;walk_at"g";have a0:=Int.emod_nonneg (n/2) (show w≠0 by omega);have a1:=Int.emod_lt_of_pos (n/2) (show 0<w by omega);exact kR q (by omega) (by omega)
 ·walk_at"g";have a0:=Int.emod_nonneg (n/2) (show(k:Int)≠0 by omega);have a1:=Int.emod_lt_of_pos (n/2) (show 0<(k:Int) by omega);exact kR q (by omega) (by omega)
theorem ZS(T:Txt K mg t)(Js:FnOk P w K mg base CX0 1 t.Ju t.Jw ["_law_room_here","_law_number_here"] (sp_there)):FnOk P w K mg base CX0 2 t.JT t.JW ["_law_room_here","_law_some"] (sp_apart):=by
 refine T.zb.ok jN (fun vs H Q E h=>?_) (fun cdv A outer s H vs Q E hr h=>?_)
 ·cases h;subst_vars;rfl
 obtain⟨z,m,p,ns,rfl,R,G,hm,ml,hl,hn,hb,q⟩:=h;refine⟨_,(jc (jk (i:=2) jN.nd rfl (.inl rfl) (jM jd))
  (jc (jk (i:=3) jN.nd rfl (.inr rfl) (jM jd))
  (jc (Jd PassesOwn.never rfl (JR (by rfl) T.qS (ja (jg jK jb (jg jE (ji jq (pv 1) jb) jb)) jd)) (jo (i:=4) jN.nd rfl (.inl rfl))
   (jc (jk (i:=5) jN.nd rfl (.inl rfl) (jp (Js.mono (by decide)) hr (by rfl) T.zn T.Qm.kp T.Q9 .nil pass0 (ja (pv 0) (ja (ji jq (pv 1) (jg jK jb (pv 4))) jd))))
   (je (Jd PassesOwn.never rfl (JR (by rfl) T.qS (ja (jt jC (by rfl) T.Jn jW (ja (jB (jY hr) (pv 0) jv) jd)) jd)) (jo (i:=6) jN.nd rfl (.inl rfl))
    (jc (jk (i:=7) jN.nd rfl (.inl rfl) (jg jE (jg jK (pv 5) (pv 6)) (jt jC (by rfl) T.Jn jW (ja (jB (jY hr) (pv 0) jv) jd))))
    (jc (jk (i:=8) jN.nd rfl (.inl rfl) (ji jq (jB (jY hr) (pv 0) jv) (pv 7)))
    (je (jP (PW.pt (yY (jn (ko hr.units) (pv 8) (jM jd) (nomark _)) (Zd (jn (km hr.units) (JL (ow:=["_law_hand"]) (ci:=[3]) rfl (CompScope.of (defScope qA) ["_law_room_here","_law_some","_law_there_here","_law_hands","_law_k","_law_first","_law_step","_law_one","_law_here"] rfl rfl (by decide +kernel)) (Jy (by decide)) (jS (pv 8)) (fun _ _ _ _ _=>⟨(jo (i:=0) (Jc ["_law_room_here","_law_some","_law_there_here","_law_hands","_law_k","_law_first","_law_step","_law_one","_law_here"] rfl (by decide +kernel)) rfl (.inl rfl)),(kr (jn (ZD (K:=K) rfl) (pv 0) (pv 1) (by with_unfolding_all rfl))),(pv 0)⟩)) (jM jd) (nomark _)))))
     (jc (jF (qx PySem.F.plainAttrs_list PySem.F.slot_list_append PySem.F.type_list_append jR (pv 2) (ja (pv 7) jd)))
     (jc (jk (i:=3) jN.nd rfl (.inr rfl) (jg yT (pv 3) (pv 8)))
     (je wD)))
     jw))))))))
  (je (jx (pv 2)))))),?_⟩
 refine jD (σ':=[some _,some _,none,none,none,none,none,none,none]) rfl ?_;have sz:(200:Nat)<sizeLine:=by decide
 have c1:=hb.cell (k:=1) (by omega) (by omega);obtain⟨ha,eha,aha⟩:=R.h;exists⟨Nat.zero_le _,fun p0 hp0=>?_⟩;have s0:=Pr.ju hp0 (.lst []);have t0:upd H p0 (.lst []) p0=some (.lst []):=jh;generalize upd H p0 (.lst [])=H0 at s0 t0|-;exists⟨Nat.zero_le _,fun p1 hp1=>?_⟩;have s1:=Pr.ju hp1 (.lst []);have t1:upd H0 p1 (.lst []) p1=some (.lst []):=jh;have t01:=s1 _ _ t0;generalize upd H0 p1 (.lst [])=H1 at s1 t1 t01|-;have s2:=s0.trans s1;exists ixLm (SqL.of (s2 _ _ hl)) (Pr.jH (by omega) (by omega)) ?_;exists⟨_,rfl,by omega,by omega,?_⟩;refine JQ (fun i σ H'=>∃(o4 o5 o6 o7 o8:Option V) (ph:Addr) (is:List Nat) (hs:List Int),σ=[some (.ref z.r),some (.ref p),some (.ref p0),some (.ref ph),o4,o5,o6,o7,o8]/\Same H H'/\H' p0=some (.lst (is.map vN))/\H' ph=some (.lst (hs.map V.int))/\p0≠ph/\is.length<=i/\hs.length<=8*i/\(∀j∈is,j<m.parts.length)/\Apart m is/\∀j∈is,∀k∈m.hd j,k∈hs)
  ⟨_,_,_,_,_,p1,[],[],rfl,s2,t01,t1,jf t0 hp1,Nat.le_refl _,Nat.le_refl _,(fun j h=>nomatch h),⟨(fun j h=>nomatch h),.nil⟩,(fun j h=>nomatch h)⟩ ?_ ?_
 ·rintro i σ H' hi ⟨o4,o5,o6,o7,o8,ph,is,hs,rfl,sm,e0,e1,n01,hil,hhl,hlt,hap,hin⟩;have hi':i<4:=by omega
  have Ri:=R.keeps sm;have ck:=hb.cell (k:=2+(0+(i:Int))) (by omega) (by omega);obtain⟨qs,eqs,aq⟩:=Ri.p;have hq:=aq.1;exists ixLm (SqL.of (sm _ _ hl)) (Pr.jH (by omega) (by omega)) ?_;exists⟨z,m,_,rfl,Ri,hm,by omega,fun f hf=>?_⟩;exists⟨_,_,rfl,Ji Ri,?_⟩;exists⟨_,_,rfl,.inl ⟨_,SqL.of eqs,rfl⟩,?_⟩;rw[length_map,hq];exists⟨_,rfl,by omega,by omega,?_⟩;refine JQ (fun _ σ H2=>∃(o6 o7 o8:Option V),σ=[some (.ref z.r),some (.ref p),some (.ref p0),some (.ref ph),some (.int (0+(i:Int))),some (.int (f:Int)),o6,o7,o8]/\Same H' H2) ⟨_,_,_,rfl,Same.refl _⟩ ?_ ?_
  ·rintro i2 σ H2 hi2 ⟨o6,o7,o8,rfl,sm2⟩;have R2:=Ri.keeps sm2;exists⟨_,_,rfl,Ji R2,?_⟩;exists⟨_,_,rfl,.inl ⟨_,SqL.of (sm2 _ _ eqs),rfl⟩,?_⟩;rw[length_map,hq];walk_at"g";have a0:=Int.emod_nonneg ((f:Int)+(0+(i2:Int))) (show(m.parts.length:Int)≠0 by omega);have a1:=Int.emod_lt_of_pos ((f:Int)+(0+(i2:Int))) (show 0<(m.parts.length:Int) by omega);obtain⟨j,ej⟩:∃j:Nat,((f:Int)+(0+(i2:Int)))%(m.parts.length:Int)=(j:Int):=⟨_,(Int.toNat_of_nonneg a0).symm⟩
   rw[ej]at a0 a1|-;have hj:j<m.parts.length:=by omega
   obtain⟨a,ha1,ha2,ha3⟩:=yJ R G hj eha;have ha22:=sm2 _ _ (sm _ _ ha2);refine⟨_,_,rfl,zI R2,?_⟩;exists ixLm (SqL.of (sm2 _ _ (sm _ _ eha))) (qR (i:=(j:Int)) (by omega) ha1) ?_;exists⟨Nat.zero_le _,fun p3 hp3=>?_⟩;have s3:=Pr.ju hp3 (.lst []);have t3:upd H2 p3 (.lst []) p3=some (.lst []):=jh;generalize upd H2 p3 (.lst [])=H3 at s3 t3|-;refine⟨_,_,WQ (s3 _ _ ha22),W4 t3,shp _,shp0,?_⟩;rw[WR];exists iteN (fun d1=>?_) (fun d1=>?_)
   ·walk_at"g";have hj8:=wb G hj;have ha33:=s3 _ _ ha22;have e13:=s3 _ _ (sm2 _ _ e1);refine⟨a,rfl,⟨_,SqL.of ha33⟩,?_⟩;refine jQ (xs:=(m.hd j).map V.int) (fun i ys H'=>ys=(((m.hd j).take i).filter fun k=>decide (k∈hs)).map V.int/\H3=H') ⟨rfl,rfl⟩ ?_ ?_ ?_
    ·rintro i ys H' _ ⟨rfl,rfl⟩;exact SqL.of ha33
    ·rintro i x ys H' hx ⟨rfl,rfl⟩;rw[List.getElem?_map]at hx;obtain⟨n,hn',rfl⟩:=Option.map_eq_some_iff.mp hx;have hi:=(List.getElem?_eq_some_iff.mp hn').1;refine JO (σ':=[none,some _]) rfl ?_;exists⟨ph,_,rfl,.inl (SqL.of e13),rfl,flats hs,?_⟩;rw[inI];walk_at"g";have hle:(((m.hd j).take i).filter fun k=>decide (k∈hs)).length<=8:=Nat.le_trans (length_filter_le _ _) (Nat.le_trans (List.length_take_le' _ _) hj8);refine iteD (fun d2=>?_) (fun d2=>?_)
     ·exists⟨by rw[length_map];omega,?_,rfl⟩;rw[take_snoc hn',filter_append,map_append,filter_cons,if_pos (decide_eq_true d2)];rfl
     ·refine⟨?_,rfl⟩;rw[take_snoc hn',filter_append,map_append,filter_cons,if_neg (by simpa using d2)];exact(append_nil _).symm
    ·rintro ys H' ⟨rfl,rfl⟩;rw[show((m.hd j).map V.int).length=(m.hd j).length from length_map _,take_length];have hle:((m.hd j).filter fun k=>decide (k∈hs)).length<=8:=Nat.le_trans (length_filter_le _ _) hj8;refine⟨by rw[length_map];omega,fun p4 hp4=>?_⟩;have s4:=Pr.ju hp4 (.lst (((m.hd j).filter fun k=>decide (k∈hs)).map V.int));have t4:upd H3 p4 (.lst (((m.hd j).filter fun k=>decide (k∈hs)).map V.int)) p4=some (.lst (((m.hd j).filter fun k=>decide (k∈hs)).map V.int)):=jh;generalize upd H3 p4 (.lst (((m.hd j).filter fun k=>decide (k∈hs)).map V.int))=H4 at s4 t4|-;exists⟨Nat.zero_le _,fun p5 hp5=>?_⟩;have s5:=Pr.ju hp5 (.lst []);have t5:upd H4 p5 (.lst []) p5=some (.lst []):=jh;generalize upd H4 p5 (.lst [])=H5 at s5 t5|-;refine⟨_,_,WQ (s5 _ _ t4),W4 t5,shp _,shp0,?_⟩;rw[WR];walk_at"g";have s35:=s3.trans (s4.trans s5);have smm:=sm.trans (sm2.trans s35);refine iteD (fun d2=>?_) (fun d2=>?_)
     ·have e05:=s35 _ _ (sm2 _ _ e0);have e15:=s35 _ _ (sm2 _ _ e1);have ha5:=smm _ _ ha2;exists⟨.inl ⟨rfl,_,SqL.of e05⟩,?_⟩;exists⟨p0,_,_,rfl,rfl,e05,by rw[length_map];omega,?_⟩;have s6:Same H (upd H5 p0 (.lst (is.map vN++[.int (j:Int)]))):=Ws.zu smm hp0;have e06:upd H5 p0 (.lst (is.map vN++[.int (j:Int)])) p0=some (.lst ((is++[j]).map vN)):=by rw[jh,map_append];rfl
      have e16:upd H5 p0 (.lst (is.map vN++[.int (j:Int)])) ph=_:=(jm n01.symm).trans e15;have ha6:=s6 _ _ ha2;generalize upd H5 p0 (.lst (is.map vN++[.int (j:Int)]))=H6 at s6 e06 e16 ha6|-;exists⟨ph,a,_,_,rfl,rfl,e16,ha6,by rw[length_map,length_map];omega,fun p7 hp7=>?_⟩;have s7:=Pr.ju hp7 (.lst (hs.map V.int++(m.hd j).map V.int));have e17:upd H6 p7 (.lst (hs.map V.int++(m.hd j).map V.int)) p7=some (.lst ((hs++m.hd j).map V.int)):=by rw[jh,map_append]
      generalize upd H6 p7 (.lst (hs.map V.int++(m.hd j).map V.int))=H7 at s7 e17|-;exists⟨_,_,_,_,_,p7,is++[j],hs++m.hd j,rfl,s6.trans s7,s7 _ _ e06,e17,jf e06 hp7,by rw[List.length_append,List.length_singleton];omega,by rw[List.length_append];omega,fun x hx=>?_,hap.snoc hin d1 fun k hk hk'=>?_,fun x hx k hk=>?_⟩
      ·rcases mem_append.mp hx with e | e
       ·exact hlt x e
       ·have e':x=j:=by simpa using e
        omega
      ·have:k∈(m.hd j).filter fun k=>decide (k∈hs):=mem_filter.mpr ⟨hk,decide_eq_true hk'⟩
       rw[d2]at this;cases this
      ·rcases mem_append.mp hx with e | e
       ·exact mem_append_left _ (hin x e k hk)
       ·have e':x=j:=by simpa using e
        subst e';exact mem_append_right _ hk
     ·exact⟨_,_,_,rfl,sm2.trans s35⟩
   ·refine iteF ?_;exact⟨_,_,_,rfl,sm2.trans s3⟩
  ·rintro σ H2 ⟨o6,o7,o8,rfl,sm2⟩;walk_at"g";exact⟨_,_,_,_,_,ph,is,hs,rfl,sm.trans sm2,sm2 _ _ e0,sm2 _ _ e1,n01,by omega,by omega,hlt,hap,hin⟩
 ·rintro σ H' ⟨o4,o5,o6,o7,o8,ph,is,hs,rfl,sm,e0,e1,n01,hil,hhl,hlt,hap,hin⟩;walk_at"g";exact q p0 is H' sm hp0 e0 (by omega) hlt hap
theorem Zx(T:Txt K mg t)(jJ:FnOk P w K mg base CX0 1 t.j7 t.Ja ["_law_cell","_law_turn"] (QX))(jI:FnOk P w K mg base CX0 1 t.j6 t.j9 ["_law_cell","_law_mixed","_law_least"] (QW))(jZ:FnOk P w K mg base CX0 1 t.J3 t.qb ["_law_room_here","_law_form","_law_hands","_law_long"] (sp_add))(j4:FnOk P w K mg base CX0 2 t.Je t.Jg ["_law_room_here","_law_cell","_law_some"] (sp_simple))(Js:FnOk P w K mg base CX0 1 t.Ju t.Jw ["_law_room_here","_law_number_here"] (sp_there))(Qo:FnOk P w K mg base CX0 2 t.JT t.JW ["_law_room_here","_law_some"] (sp_apart)):FnOk P w K mg base CX0 3 t.JF t.JH ["_law_room_here","_law_cell","_law_some"] (sp_naming):=by
 refine T.QY.ok jy (fun vs H Q E h=>?_) (fun cdv A outer s H vs Q E hr h=>?_)
 ·cases h;subst_vars;rfl
 obtain⟨z,m,c,p,ns,rfl,R,G,hm,ml,hl,op,hn,hb,q⟩:=h;refine⟨_,(jc (yX (i:=3) (ow:=["_law_one"]) (ci:=[0]) rfl (CompScope.of (defScope Jb) ["_law_room_here","_law_cell","_law_some","_law_there_here","_law_long","_law_hands","_law_one","_law_names_here","_law_times"] rfl rfl (by decide +kernel)) (Jy (by decide)) jy.nd rfl (.inl rfl) (jS (JJ zw (pv 2) (JM jb) (JM (jg jK jb (jg jE (ji jq (pv 2) jb) jb))))) (fun _ _ _ _ _=>⟨(jo (i:=0) (Jc ["_law_room_here","_law_cell","_law_some","_law_there_here","_law_long","_law_hands","_law_one","_law_names_here","_law_times"] rfl (by decide +kernel)) rfl (.inl rfl)),qy,(jp (Js.mono (by decide)) hr (by rfl) T.zn T.Qm.kp T.Q9 .nil pass0 (ja (pv 1) (ja (pv 0) jd)))⟩))
  (jc (Q6 (jn Jj (jg jE (ji jq (pv 2) jb) jb) jb (nomark _))
   (jc (jk (i:=3) jy.nd rfl (.inl rfl) (jp (Qo.mono (by decide)) hr (by rfl) T.yM T.zb.kp T.yp .nil pass0 (ja (pv 0) (ja (pv 2) jd))))
   (je (jP (jn Kc (jt jC (by rfl) T.Jn jW (ja (pv 3) jd)) jb (nomark _))
    (jc (jF (jp (j4.mono (by decide)) hr (by rfl) T.qZ T.qf.kp T.qV .nil pass0 (ja (pv 0) (ja (pv 1) (ja (pv 2) jd)))))
    (je WF))
    jw)))
   jw)
  (jc (yX (i:=4) (ow:=["_law_one"]) (ci:=[0]) rfl (CompScope.of (defScope Jb) ["_law_room_here","_law_cell","_law_some","_law_there_here","_law_long","_law_hands","_law_one","_law_names_here","_law_times"] rfl rfl (by decide +kernel)) (Jy (by decide)) jy.nd rfl (.inl rfl) (jS (pv 3)) (fun _ _ _ _ _=>⟨(jo (i:=0) (Jc ["_law_room_here","_law_cell","_law_some","_law_there_here","_law_long","_law_hands","_law_one","_law_names_here","_law_times"] rfl (by decide +kernel)) rfl (.inl rfl)),qy,(ji (zm (K:=K) rfl) (jB (jY hr) (pv 1) jv) (pv 0))⟩))
  (jc (Q6 (PW.pt (yY (jn Jj (jg jE (ji jq (pv 2) jb) jb) jb (nomark _)) (Zd (jn zt (jt (zC rfl) (by rfl) T.KU YY (ja (pv 4) jd)) (jg qM jb jb) (nomark _)))))
   (jc (jk (i:=3) jy.nd rfl (.inl rfl) (JJ zw (pv 3) qT (JM jb)))
   (je (jk (i:=4) jy.nd rfl (.inl rfl) (JJ zw (pv 4) qT (JM jb)))))
   jw)
  (jc (jk (i:=5) jy.nd rfl (.inr rfl) (jM jd))
  (jc (Jd PassesOwn.never rfl (jS (pv 3)) (jo (i:=6) jy.nd rfl (.inl rfl))
   (je (jk (i:=5) jy.nd rfl (.inr rfl) (jg yT (pv 5) (JL (ow:=["_law_hand"]) (ci:=[5]) rfl (CompScope.of (defScope Jb) ["_law_room_here","_law_cell","_law_some","_law_there_here","_law_long","_law_hands","_law_one","_law_names_here","_law_times"] rfl rfl (by decide +kernel)) (Jy (by decide)) (jS (ji jq (jB (jY hr) (pv 0) jv) (pv 6))) (fun _ _ _ _ _=>⟨(jo (i:=0) (Jc ["_law_room_here","_law_cell","_law_some","_law_there_here","_law_long","_law_hands","_law_one","_law_names_here","_law_times"] rfl (by decide +kernel)) rfl (.inl rfl)),(kr (jn (ZX (K:=K) rfl) (pv 0) (pv 1) (by with_unfolding_all rfl))),(pv 0)⟩))))))
  (jc (jk (i:=7) jy.nd rfl (.inl rfl) (QT ZP (by rfl) T.Wa KZ (ja (JL (ow:=["_law_one"]) (ci:=[0]) rfl (CompScope.of (defScope Jb) ["_law_room_here","_law_cell","_law_some","_law_there_here","_law_long","_law_hands","_law_one","_law_names_here","_law_times"] rfl rfl (by decide +kernel)) (Jy (by decide)) (jS (pv 3)) (fun _ _ _ _ _=>⟨(jo (i:=0) (Jc ["_law_room_here","_law_cell","_law_some","_law_there_here","_law_long","_law_hands","_law_one","_law_names_here","_law_times"] rfl (by decide +kernel)) rfl (.inl rfl)),qy,(ji (yL (K:=K) rfl) (ji (zm (K:=K) rfl) (jB (jY hr) (pv 1) jv) (pv 0)) jb)⟩)) jd)))
  (je (jP (jn Jj (jg jE (ji jq (pv 2) jb) jb) jb (nomark _))
   (je (jF (jp (jZ.mono (by decide)) hr (by rfl) T.qc T.JN.kp T.J2 .nil pass0 (ja (pv 0) (ja (Jr (ja jv (ja (pv 7) jd))) (ja (jt zg (by rfl) T.zf zB (ja (pv 5) jd)) (ja (jt (zC rfl) (by rfl) T.KU YY (ja (pv 4) jd)) jd)))))))
   (je (jP (jn Jj (jg jE (ji jq (pv 2) jb) jb) jb (nomark _))
    (je (jF (jp (jZ.mono (by decide)) hr (by rfl) T.qc T.JN.kp T.J2 .nil pass0 (ja (pv 0) (ja (Jr (ja jv (ja (pv 7) jd))) (ja (jt zg (by rfl) T.zf zB (ja (pv 5) jd)) (ja (jt (Z6 rfl) (by rfl) T.kJ yy (ja (pv 4) jd)) jd)))))))
    (jc (jk (i:=8) jy.nd rfl (.inl rfl) (jp (jI.mono (by decide)) hr (by rfl) T.qj T.JD.kp T.qd .nil pass0 (ja (jp (jJ.mono (by decide)) hr (by rfl) T.qk T.JE.kp T.qe .nil pass0 (ja (pv 1) (ja jb jd))) (ja (ji jq (pv 2) jb) (ja jb jd)))))
    (jc (Q6 (jn zt (jg JA (pv 8) (ji jq (pv 4) jb)) (jg qM jb jb) (nomark _))
     (je (jk (i:=8) jy.nd rfl (.inl rfl) jb))
     jw)
    (je (jF (jp (jZ.mono (by decide)) hr (by rfl) T.qc T.JN.kp T.J2 .nil pass0 (ja (pv 0) (ja (Jr (ja jv (ja (pv 8) (ja (ji jr (pv 7) jb) jd)))) (ja (ji jq (jB (jY hr) (pv 0) jv) (ji jq (pv 3) jb)) (ja (jg JA (pv 8) (ji jq (pv 4) jb)) jd)))))))))))))))))))),?_⟩
 refine jD (σ':=[some _,some _,some _,none,none,none,none,none,none]) rfl ?_;have sz:(200:Nat)<sizeLine:=by decide
 have nl:=G.nl;have c0:=hb.cell (k:=0) (by omega) (by omega);have c1:=hb.cell (k:=1) (by omega) (by omega);exists ixLm (SqL.of hl) (Pr.jH (by omega) (by omega)) ?_;exists⟨p,_,rfl,SqL.of hl,fun p1 hp1=>?_⟩;rw[Wc (by omega) (by omega)];have hml:((ns.drop 2).take (3+Pr.cell ns 1%8-2).toNat).length=(1+Pr.cell ns 1%8).toNat:=by rw[length_take,length_drop];omega
 have hmb:∀n∈(ns.drop 2).take (3+Pr.cell ns 1%8-2).toNat,0<=n:=fun n h=>(hb n (mem_of_mem_drop (mem_of_mem_take h))).1
 generalize(ns.drop 2).take (3+Pr.cell ns 1%8-2).toNat=ms at hml hmb|-;have s1:=Pr.ju hp1 (.lst (ms.map V.int));have t1:upd H p1 (.lst (ms.map V.int)) p1=some (.lst (ms.map V.int)):=jh;generalize upd H p1 (.lst (ms.map V.int))=H1 at s1 t1|-;have R1:=R.keeps s1;refine⟨p1,rfl,⟨_,SqL.of t1⟩,?_⟩;refine jQ (xs:=ms.map V.int) (fun i ys H'=>∃is:List Nat,ys=is.map vN/\is.length=i/\(∀j∈is,j<m.parts.length)/\H1=H') ⟨[],rfl,rfl,(fun z h=>nomatch h),rfl⟩ ?_ ?_ ?_
 ·rintro i ys H' _ ⟨is,rfl,hz,h1,rfl⟩;exact SqL.of t1
 ·rintro i x ys H' hx ⟨is,rfl,hz,h1,rfl⟩;obtain⟨n,hn',rfl⟩:=mem_map.mp (List.mem_of_getElem? hx);have hi:=(List.getElem?_eq_some_iff.mp hx).1;rw[length_map]at hi;refine JO (σ':=[none,some _]) rfl ?_;exists iteT ?_;exists⟨z,m,n,rfl,R1,hm,hmb n hn',fun j hj=>?_⟩;refine⟨by rw[length_map];omega,is++[j],by rw[map_append];rfl,by simp[hz],fun y hy=>?_,rfl⟩;rcases mem_append.mp hy with w | w
  ·exact h1 y w
  ·have e:y=j:=by simpa using w
   omega
 rintro ys H' ⟨is,rfl,hil,hlt,rfl⟩;rw[length_map]at hil;refine⟨by rw[length_map];omega,fun p2 hp2=>?_⟩;have s2:=s1.trans (Pr.ju hp2 (.lst (is.map vN)));have t2:upd H1 p2 (.lst (is.map vN)) p2=some (.lst (is.map vN)):=jh;generalize upd H1 p2 (.lst (is.map vN))=H2 at s2 t2|-;have R2:=R.keeps s2;exists⟨fun σ' H'=>∃(l:Addr) (is:List Nat),σ'=[some (.ref z.r),some (.int c),some (.ref p),some (.ref l),none,none,none,none,none]/\Same H H'/\H' l=some (.lst (is.map vN))/\1<=is.length/\is.length<=8/\(∀j∈is,j<m.parts.length)/\(Pr.cell ns 0%8=6->Apart m is/\2<=is.length/\is.length<=4),?_,?_⟩
 rotate_left
 ·exists ixLm (SqL.of (s2 _ _ hl)) (Pr.jH (by omega) (by omega)) ?_;exists iteD (fun d1=>?_) (fun d1=>?_)
  ·exists⟨z,m,p,ns,rfl,R2,G,hm,ml,s2 _ _ hl,by omega,hb,fun l js H3 s3 hl3 e3 h4 hj ap=>?_⟩;exists⟨_,_,rfl,.inl ⟨_,SqL.of e3,rfl⟩,?_⟩;rw[length_map];exists iteD (fun d2=>?_) (fun d2=>?_)
   ·exists⟨z,m,c,p,ns,rfl,R2.keeps s3,G,by omega,s3 _ _ (s2 _ _ hl),op,by omega,hb,fun m' H' k R' G' hl'=>?_⟩;walk_at"g";exact q m' H' ((Kp.of (s2.trans s3)).trans k) R' G' hl'
   ·walk_at"g";exact⟨l,js,rfl,s2.trans s3,e3,by omega,by omega,hj,fun _=>⟨ap,by omega,h4⟩⟩
  ·walk_at"g";exact⟨p2,is,rfl,s2,t2,by omega,by omega,hlt,fun e=>absurd e d1⟩
 rintro σ' H3 ⟨l,is,rfl,s3,e3,i1,i8,hj,ap⟩;clear hlt hil t2 s2 R2 hp2 p2 H2 t1 R1 s1;have R3:=R.keeps s3;exists⟨l,rfl,⟨_,SqL.of e3⟩,?_⟩;refine jQ (xs:=is.map vN) (fun i ys H'=>ys=((is.take i).map m.lg).map V.int/\H3=H') ⟨rfl,rfl⟩ ?_ ?_ ?_
 ·rintro i ys H' _ ⟨rfl,rfl⟩;exact SqL.of e3
 ·rintro i x ys H' hx ⟨rfl,rfl⟩;obtain⟨j,hj1,rfl,hj2⟩:=wZ hx;have hi:=(List.getElem?_eq_some_iff.mp hj1).1;refine JO (σ':=[none,some _]) rfl ?_;exists iteT ?_;exists⟨_,_,rfl,K7 R3,?_⟩;exists ixLm (SqL.of R3.g) (Wn G (hj j hj2)) ?_;refine⟨by rw[length_map,length_map,length_take];omega,?_,rfl⟩;rw[take_snoc hj1,map_append,map_append];rfl
 rintro ys H' ⟨rfl,rfl⟩;rw[show(is.map vN).length=is.length from length_map _,take_length];refine⟨by rw[length_map,length_map];omega,fun p4 hp4=>?_⟩;have s4:=s3.trans (Pr.ju hp4 (.lst ((is.map m.lg).map V.int)));have e34:=Pr.ju hp4 (.lst ((is.map m.lg).map V.int)) _ _ e3;have t4:upd H3 p4 (.lst ((is.map m.lg).map V.int)) p4=some (.lst ((is.map m.lg).map V.int)):=jh;generalize upd H3 p4 (.lst ((is.map m.lg).map V.int))=H4 at s4 e34 t4|-;exists⟨fun σ' H'=>∃(l g:Addr) (is:List Nat),σ'=[some (.ref z.r),some (.int c),some (.ref p),some (.ref l),some (.ref g),none,none,none,none]/\Same H H'/\H' l=some (.lst (is.map vN))/\H' g=some (.lst ((is.map m.lg).map V.int))/\1<=is.length/\is.length<=8/\(∀j∈is,j<m.parts.length)/\(Pr.cell ns 0%8=6->Apart m is/\2<=is.length/\is.length<=4)/\(Pr.cell ns 0%8=5->(is.map m.lg).sum<=10^60),?_,?_⟩
 rotate_left
 ·exists ixLm (SqL.of (s4 _ _ hl)) (Pr.jH (by omega) (by omega)) ?_;exists iteD (fun d1=>?_) (fun d1=>?_)
  ·exists⟨_,_,rfl,SqL.of t4,?_⟩;exists iteD (fun d2=>?_) (fun d2=>?_)
   ·exists⟨l,_,rfl,SqL.of e34,fun p5 hp5=>?_⟩;rw[cut1];have s5:=Pr.ju hp5 (.lst ((is.map vN).take 1));have t5:upd H4 p5 (.lst ((is.map vN).take 1)) p5=some (.lst ((is.take 1).map vN)):=by rw[jh,map_take]
    generalize upd H4 p5 (.lst ((is.map vN).take 1))=H5 at s5 t5|-;exists⟨p4,_,rfl,SqL.of (s5 _ _ t4),fun p6 hp6=>?_⟩;rw[cut1];have s6:=Pr.ju hp6 (.lst (((is.map m.lg).map V.int).take 1));have t6:upd H5 p6 (.lst (((is.map m.lg).map V.int).take 1)) p6=some (.lst (((is.take 1).map m.lg).map V.int)):=by rw[jh,map_take,map_take]
    generalize upd H5 p6 (.lst (((is.map m.lg).map V.int).take 1))=H6 at s6 t6|-;walk_at"g";have e1:(is.take 1).length=1:=by rw[length_take];omega
    have hj':∀j∈is.take 1,j<m.parts.length:=fun j h=>hj j (mem_of_mem_take h)
    have e2:=(kB G hj').2;rw[e1]at e2;exact⟨p5,p6,is.take 1,rfl,s4.trans (s5.trans s6),s6 _ _ t5,t6,by omega,by omega,hj',fun e=>by omega,fun _=>by omega⟩
   ·walk_at"g";exact⟨l,p4,is,rfl,s4,e34,t4,i1,i8,hj,ap,fun _=>by omega⟩
  ·refine iteF ?_;walk_at"g";exact⟨l,p4,is,rfl,s4,e34,t4,i1,i8,hj,ap,fun e=>absurd e d1⟩
 clear t4 e34 s4 hp4 p4 H4 R3 i1 i8 hj ap e3 s3 l is H3;rintro σ' H5 ⟨l,g,is,rfl,s5,e5,t5,i1,i8,hj,ap,sm⟩;have R5:=R.keeps s5;exists⟨Nat.zero_le _,fun p6 hp6=>?_⟩;have s6:=s5.trans (Pr.ju hp6 (.lst []));have e6:=Pr.ju hp6 (.lst []) _ _ e5;have g6:=Pr.ju hp6 (.lst []) _ _ t5;have t6:upd H5 p6 (.lst []) p6=some (.lst []):=jh;generalize upd H5 p6 (.lst [])=H6 at s6 e6 g6 t6|-;walk_at"g";obtain⟨ha,eha,aha⟩:=R.h;refine⟨l,rfl,⟨_,SqL.of e6⟩,?_⟩;refine qI (xs:=is.map vN) (fun i σ H'=>∃(h:Addr) (hs:List Int) (o6:Option V),σ=[some (.ref z.r),some (.int c),some (.ref p),some (.ref l),some (.ref g),some (.ref h),o6,none,none]/\Same H6 H'/\H' h=some (.lst (hs.map V.int))/\hs.length<=8*i/\hs.Nodup/\∀k,k∈hs↔∃j∈is.take i,k∈m.hd j)
  ⟨p6,[],none,rfl,Same.refl _,t6,Nat.zero_le _,.nil,fun k=>⟨(fun h=>nomatch h),fun⟨j,h,_⟩=>by simp at h⟩⟩ ?_ ?_ ?_
 ·rintro i σ H' _ ⟨h,hs,o6,rfl,sm7,th,hl8,hnd,hmem⟩;exact SqL.of (sm7 _ _ e6)
 ·rintro i x σ H' hx ⟨h,hs,o6,rfl,sm7,th,hl8,hnd,hmem⟩;obtain⟨j,hj1,rfl,hj2⟩:=wZ hx;have hi:=(List.getElem?_eq_some_iff.mp hj1).1;have s7:=s6.trans sm7;have R7:=R.keeps s7;have hj8:=wb G (hj j hj2);obtain⟨a,ha1,ha2,ha3⟩:=yJ R G (hj j hj2) eha;have ha7:=s7 _ _ ha2;exists⟨_,_,rfl,zI R7,?_⟩;exists ixLm (SqL.of (s7 _ _ eha)) (qR (i:=(j:Int)) (by omega) ha1) ?_;refine⟨a,rfl,⟨_,SqL.of ha7⟩,?_⟩;refine jQ (xs:=(m.hd j).map V.int) (fun i ys H''=>ys=(((m.hd j).take i).filter fun k=>!decide (k∈hs)).map V.int/\H'=H'') ⟨rfl,rfl⟩ ?_ ?_ ?_
  ·rintro i ys H'' _ ⟨rfl,rfl⟩;exact SqL.of ha7
  ·rintro i x ys H'' hx ⟨rfl,rfl⟩;rw[List.getElem?_map]at hx;obtain⟨n,hn',rfl⟩:=Option.map_eq_some_iff.mp hx;refine JO (σ':=[none,some _]) rfl ?_;exists⟨h,_,rfl,.inl (SqL.of th),rfl,flats hs,?_⟩;rw[notInI];walk_at"g";have hle:(((m.hd j).take i).filter fun k=>!decide (k∈hs)).length<=8:=Nat.le_trans (length_filter_le _ _) (Nat.le_trans (List.length_take_le' _ _) hj8);refine iteN (fun d2=>?_) (fun d2=>?_)
   ·exists⟨by rw[length_map];omega,?_,rfl⟩;rw[take_snoc hn',filter_append,map_append,filter_cons,if_pos (by simpa using d2)];rfl
   ·refine⟨?_,rfl⟩;rw[take_snoc hn',filter_append,map_append,filter_cons,if_neg (by simpa using d2)];exact(append_nil _).symm
  ·rintro ys H'' ⟨rfl,rfl⟩;rw[show((m.hd j).map V.int).length=(m.hd j).length from length_map _,take_length];have hle:((m.hd j).filter fun k=>!decide (k∈hs)).length<=8:=Nat.le_trans (length_filter_le _ _) hj8;obtain⟨nd8,mem8⟩:=Y5 hj1 hmem hnd (xO G (hj j hj2));generalize(m.hd j).filter (fun k=>!decide (k∈hs))=fs at hle nd8 mem8|-;refine⟨by rw[length_map];omega,fun p8 hp8=>?_⟩;have s8:=Pr.ju hp8 (.lst (fs.map V.int));have t8:upd H' p8 (.lst (fs.map V.int)) p8=some (.lst (fs.map V.int)):=jh;generalize upd H' p8 (.lst (fs.map V.int))=H8 at s8 t8|-;refine⟨h,p8,_,_,rfl,rfl,s8 _ _ th,t8,by rw[length_map,length_map];omega,fun p9 hp9=>?_⟩;have s9:=Pr.ju hp9 (.lst (hs.map V.int++fs.map V.int));have t9:upd H8 p9 (.lst (hs.map V.int++fs.map V.int)) p9=some (.lst ((hs++fs).map V.int)):=by rw[jh,map_append]
   generalize upd H8 p9 (.lst (hs.map V.int++fs.map V.int))=H9 at s9 t9|-;walk_at"g";exact⟨p9,hs++fs,_,rfl,sm7.trans (s8.trans s9),t9,by rw[List.length_append];omega,nd8,mem8⟩
 rintro σ' H7 ⟨h,hs,o6,rfl,sm7,th,hl8,hnd,hmem⟩;rw[show(is.map vN).length=is.length from length_map _]at hl8 hmem;rw[take_length]at hmem;have s7:=s6.trans sm7;have R7:=R.keeps s7;have e7:=sm7 _ _ e6;have g7:=sm7 _ _ g6;walk_at"g";obtain⟨qs,eqs,aqs⟩:=R7.p;have part_at:∀j∈is,∃a b,qs[j]?=some a/\H7 a=some (.tup [.str (m.nm j),.ref b]):=fun j hjm=>by
  obtain⟨a,ha,b,hb,_⟩:=aqs.get (List.getElem?_eq_getElem (hj j hjm));rw[(G.ps j _ (List.getElem?_eq_getElem (hj j hjm))).1]at hb;exact⟨a,b,ha,hb⟩
 refine⟨l,rfl,⟨_,SqL.of e7⟩,?_⟩;refine jQ (xs:=is.map vN) (fun i ys H'=>ys=((is.take i).map m.nm).map V.str/\H7=H') ⟨rfl,rfl⟩ ?_ ?_ ?_
 ·rintro i ys H' _ ⟨rfl,rfl⟩;exact SqL.of e7
 ·rintro i x ys H' hx ⟨rfl,rfl⟩;obtain⟨j,hj1,rfl,hj2⟩:=wZ hx;have hi:=(List.getElem?_eq_some_iff.mp hj1).1;obtain⟨a,b,ha,hb⟩:=part_at j hj2;refine JO (σ':=[none,some _]) rfl ?_;exists iteT ?_;exists⟨_,_,rfl,Ji R7,?_⟩;exists ixLm (SqL.of eqs) (qR (i:=(j:Int)) (by omega) ha) ?_;exists ixTm (SqT.of hb) rfl ?_;refine⟨by rw[length_map,length_map,length_take];omega,?_,rfl⟩;rw[take_snoc hj1,map_append,map_append];rfl
 rintro ys H' ⟨rfl,rfl⟩;rw[show(is.map vN).length=is.length from length_map _,take_length];refine⟨by rw[length_map,length_map];omega,fun p8 hp8=>?_⟩;have s8:=Pr.ju hp8 (.lst ((is.map m.nm).map V.str));have t8:upd H7 p8 (.lst ((is.map m.nm).map V.str)) p8=some (.lst ((is.map m.nm).map V.str)):=jh;generalize upd H7 p8 (.lst ((is.map m.nm).map V.str))=H8 at s8 t8|-;exists⟨p8,_,rfl,.inl ⟨SqL.of t8,fun p9 hp9=>?_⟩⟩;have s9:=Pr.ju hp9 (.tup ((is.map m.nm).map V.str));have t9:upd H8 p9 (.tup ((is.map m.nm).map V.str)) p9=some (.tup ((is.map m.nm).map V.str)):=jh;generalize upd H8 p9 (.tup ((is.map m.nm).map V.str))=H9 at s9 t9|-;have s79:=s8.trans s9;have e9:=s79 _ _ e7;have g9:=s79 _ _ g7;have h9:=s79 _ _ th;have R9:=R7.keeps s79;have s09:=s7.trans s79;clear t8 s8 s9 hp8 hp9 part_at aqs eqs qs;have hk:=wa G hj hmem;have hs8:hs.length<=8:=Nat.le_trans (Qk hnd hk) G.l8;have e1:=G.hl;have e2:=G.gl;have sl:=kB G hj;exists ixLm (SqL.of (s09 _ _ hl)) (Pr.jH (by omega) (by omega)) ?_;exists iteD (fun d1=>?_) (fun d1=>?_)
 ·exists⟨(by show 2<=sizeLine;omega),fun p10 hp10=>?_⟩;have s10:=Pr.ju hp10 (.tup [.str "row",.ref p9]);have t10:upd H9 p10 (.tup [.str "row",.ref p9]) p10=some (.tup [.str "row",.ref p9]):=jh;generalize upd H9 p10 (.tup [.str "row",.ref p9])=H10 at s10 t10|-;have R10:=R9.keeps s10;exists⟨h,hs,rfl,SqL.of (s10 _ _ h9),Nat.lt_of_le_of_lt hs8 (by decide),fun p11 ms hp11 perm ord=>?_⟩;have s11:=Pr.ju hp11 (.lst (ms.map V.int));have t11:upd H10 p11 (.lst (ms.map V.int)) p11=some (.lst (ms.map V.int)):=jh;generalize upd H10 p11 (.lst (ms.map V.int))=H11 at s11 t11|-;have R11:=R10.keeps s11;exists⟨_,_,rfl,SqL.of (s11 _ _ (s10 _ _ g9)),?_⟩;exists⟨z,m,p10,p11,.row (is.map m.nm),ms,_,rfl,R11,⟨p9,s11 _ _ t10,s11 _ _ (s10 _ _ t9)⟩,⟨t11,Qs R10 hp11⟩,by omega,by omega,by omega,nl,fun H' k R' _=>?_⟩;exact q _ _ ((Kp.of (s09.trans (s10.trans s11))).trans k) R' (G.add ⟨⟨is,⟨rfl,hj⟩,i1,i8,fun k=>perm.mem_iff.trans (hmem k),rfl⟩,fun k h=>hk k (perm.mem_iff.mp h),zN perm hnd ord,by omega,sm d1⟩) QN
 exists ixLm (SqL.of (s09 _ _ hl)) (Pr.jH (by omega) (by omega)) ?_;exists iteD (fun d2=>?_) (fun d2=>?_)
 ·exists⟨(by show 2<=sizeLine;omega),fun p10 hp10=>?_⟩;have s10:=Pr.ju hp10 (.tup [.str "side",.ref p9]);have t10:upd H9 p10 (.tup [.str "side",.ref p9]) p10=some (.tup [.str "side",.ref p9]):=jh;generalize upd H9 p10 (.tup [.str "side",.ref p9])=H10 at s10 t10|-;have R10:=R9.keeps s10;exists⟨h,hs,rfl,SqL.of (s10 _ _ h9),Nat.lt_of_le_of_lt hs8 (by decide),fun p11 ms hp11 perm ord=>?_⟩;have s11:=Pr.ju hp11 (.lst (ms.map V.int));have t11:upd H10 p11 (.lst (ms.map V.int)) p11=some (.lst (ms.map V.int)):=jh;generalize upd H10 p11 (.lst (ms.map V.int))=H11 at s11 t11|-;have R11:=R10.keeps s11;exists⟨_,_,rfl,SqL.of (s11 _ _ (s10 _ _ g9)),by rw[length_map];omega,fun gm hgm hall=>?_⟩;obtain⟨j1,hj1,rfl⟩:=mem_map.mp hgm;have lj:=Yo G (hj j1 hj1);obtain⟨ap1,ap2,ap3⟩:=ap d2;exists⟨z,m,p10,p11,.side (is.map m.nm),ms,_,rfl,R11,⟨p9,s11 _ _ t10,s11 _ _ (s10 _ _ t9)⟩,⟨t11,Qs R10 hp11⟩,by omega,by omega,by omega,nl,fun H' k R' _=>?_⟩;exact q _ _ ((Kp.of (s09.trans (s10.trans s11))).trans k) R' (G.add ⟨⟨is,⟨rfl,hj⟩,ap2,ap3,ap1,fun k=>perm.mem_iff.trans (hmem k),⟨j1,hj1,rfl⟩,fun j hj'=>hall _ (mem_map.mpr ⟨j,hj',rfl⟩)⟩,fun k h=>hk k (perm.mem_iff.mp h),zN perm hnd ord,lj.1,lj.2⟩) QN
 obtain⟨j0,r,rfl⟩:∃j0 r,is=j0::r:=by
  cases is with
  | nil=>exact absurd i1 (by decide)
  | cons j0 r=>exact⟨j0,r,rfl⟩
 have hj0:=hj j0 mem_cons_self;have lj:=Yo G hj0;exists⟨_,_,rfl,by omega,by omega,fun wn=>?_⟩;have c10:=hb.cell (k:=10) (by omega) (by omega);exists ixLm (SqL.of (s09 _ _ hl)) (Pr.jH (by omega) (by omega)) ?_;exists⟨_,_,_,rfl,by omega,by omega,by omega,by omega,fun tm tm1 tm2=>?_⟩;exists⟨fun σ' H'=>∃t:Int,σ'=[some (.ref z.r),some (.int c),some (.ref p),some (.ref l),some (.ref g),some (.ref h),o6,some (.ref p9),some (.int t)]/\1<=t/\t<=10^18/\t*m.lg j0<=10^60/\H9=H',?_,?_⟩
 rotate_left
 ·exists ixLm (SqL.of g9) (at0) ?_;exists iteD (fun d3=>?_) (fun d3=>?_)
  ·walk_at"g";exact⟨1,rfl,by omega,by omega,by rw[Int.one_mul];exact lj.2,rfl⟩
  ·walk_at"g";exact⟨tm,rfl,tm1,tm2,by omega,rfl⟩
 rintro σ' H' ⟨t,rfl,u1,u2,u3,rfl⟩;exists ixTm (SqT.of t9) (at0) ?_;exists⟨(by show 3<=sizeLine;omega),?_⟩;walk_at"f 10 t";have R10:=R9.keeps s10;obtain⟨a,ha1,ha2,ha3⟩:=yJ R G hj0 eha;have s0A:=s09.trans s10;exists⟨_,_,rfl,zI R10,?_⟩;exists ixLm (SqL.of (s10 _ _ e9)) (at0) ?_;refine ixLm (SqL.of (s0A _ _ eha)) (qR (i:=(j0:Int)) (by omega) ha1) ?_;exists ixLm (SqL.of (s10 _ _ g9)) (at0) ?_;walk_at"g";have pos:=Int.mul_pos (show 0<t by omega) (show 0<m.lg j0 by omega);refine⟨z,m,p10,a,.again t (m.nm j0),m.hd j0,_,rfl,R10,t10,⟨s0A _ _ ha2,ha3⟩,by omega,by omega,by omega,nl,fun H' k R' _=>?_⟩;have oj:=(G.ps j0 _ (List.getElem?_eq_getElem hj0)).2;exact q _ _ ((Kp.of s0A).trans k) R' (G.add ⟨⟨u1,u2,j0,hj0,rfl,rfl,rfl⟩,oj.k,oj.o,by omega,u3⟩) QN
theorem yR(T:Txt K mg t)(Jk:FnOk P w K mg base CX0 1 t.Jl t.Jo ["_law_script","_law_k"] (Pr.sp_cell_at K))(jJ:FnOk P w K mg base CX0 1 t.j7 t.Ja ["_law_cell","_law_turn"] (QX))(j5:FnOk P w K mg base CX0 1 t.Jf t.Jh ["_law_cell","_law_many"] (Ws.zO))(Qp:FnOk P w K mg base CX0 2 t.JU t.JX ["_law_cell","_law_many"] (YQ))(jI:FnOk P w K mg base CX0 1 t.j6 t.j9 ["_law_cell","_law_mixed","_law_least"] (QW))(j4:FnOk P w K mg base CX0 2 t.Je t.Jg ["_law_room_here","_law_cell","_law_some"] (sp_simple))(qX:FnOk P w K mg base CX0 3 t.JF t.JH ["_law_room_here","_law_cell","_law_some"] (sp_naming)):FnOk P w K mg base CX0 4 t.qr t.qv ["_law_script"] (sp_room K):=by
 refine T.zR.ok jO (fun vs H Q E h=>?_) (fun cdv A outer s H vs Q E hr h=>?_)
 ·cases h;subst_vars;rfl
 obtain⟨a,ns,rfl,hS,h63,q⟩:=h;refine⟨_,(jc (jk (i:=1) jO.nd rfl (.inl rfl) (jp (j5.mono (by decide)) hr (by rfl) T.q0 T.qg.kp T.qW .nil pass0 (ja (jp (Jk.mono (by decide)) hr (by rfl) T.qK T.JS.kp T.qD .nil pass0 (ja (pv 0) (ja jb jd))) (ja jb jd))))
  (jc (jk (i:=2) jO.nd rfl (.inl rfl) (jp (Qp.mono (by decide)) hr (by rfl) T.yN T.zc.kp T.yq .nil pass0 (ja (jp (Jk.mono (by decide)) hr (by rfl) T.qK T.JS.kp T.qD .nil pass0 (ja (pv 0) (ja jb jd))) (ja jb jd))))
  (jc (jk (i:=3) jO.nd rfl (.inl rfl) (jM jd))
  (jc (Jd PassesOwn.never rfl (JR (by rfl) T.qS (ja (jg jK jb (jg jE (ji jq (pv 1) jb) jb)) jd)) (jo (i:=4) jO.nd rfl (.inl rfl))
   (jc (jk (i:=5) jO.nd rfl (.inl rfl) (ji jq (jM (ja (jg jK jb (pv 4)) (ja (jg jK jb (pv 4)) (ja (jg jE (jg jK (jg Jq (ji jq (pv 1) jb) jb) (jg JA jb (pv 4))) jb) jd)))) (jg jE (ji jq (pv 1) jb) jb)))
   (jc (jk (i:=6) jO.nd rfl (.inl rfl) (jp (jJ.mono (by decide)) hr (by rfl) T.qk T.JE.kp T.qe .nil pass0 (ja (jp (Jk.mono (by decide)) hr (by rfl) T.qK T.JS.kp T.qD .nil pass0 (ja (pv 0) (ja jb jd))) (ja (jg jK jb (pv 4)) jd))))
   (je (jF (qx PySem.F.plainAttrs_list PySem.F.slot_list_append PySem.F.type_list_append jR (pv 3) (ja (Jr (ja (ji jq (pv 2) (pv 5)) (ja (jp (jI.mono (by decide)) hr (by rfl) T.qj T.JD.kp T.qd .nil pass0 (ja (pv 6) (ja (ji jq (pv 1) (jg jK jb (pv 4))) (ja jb jd)))) jd))) jd)))))))
  (jc (jk (i:=7) jO.nd rfl (.inl rfl) (WB (QD jv (pv 2) (QD jv (pv 3) (QD jv (jM jd) (QD jv (jM jd) (QD jv (jM jd) WE))))) rfl rfl (by simp) (by decide)))
  (jc (Jd PassesOwn.never rfl (jS (JJ zw (pv 0) (JM jb) (JM jb))) (jo (i:=8) jO.nd rfl (.inl rfl))
   (jc (jk (i:=9) jO.nd rfl (.inl rfl) (jp (j5.mono (by decide)) hr (by rfl) T.q0 T.qg.kp T.qW .nil pass0 (ja (jg jK (pv 8) (jg JA jb (jt jC (by rfl) T.Jn jW (ja (jB (jY hr) (pv 7) jv) jd)))) (ja jb jd))))
   (je (jP (PW.pt (yY (jn zt (jg jE (ji jq (pv 9) jb) jb) jb (nomark _)) (Zd (jn zt (jt jC (by rfl) T.Jn jW (ja (jB (jY hr) (pv 7) jv) jd)) jb (nomark _)))))
    (je (jF (jp (qX.mono (by decide)) hr (by rfl) T.ZQ T.QY.kp T.ZN .nil pass0 (ja (pv 7) (ja (pv 8) (ja (pv 9) jd))))))
    (je (jF (jp (j4.mono (by decide)) hr (by rfl) T.qZ T.qf.kp T.qV .nil pass0 (ja (pv 7) (ja (pv 8) (ja (pv 9) jd))))))))))
  (jc (Q6 (jn (km hr.units) (jB (jY hr) (pv 7) jv) (jM jd) (nomark _))
   (je (jF (jp (j4.mono (by decide)) hr (by rfl) T.qZ T.qf.kp T.qV .nil pass0 (ja (pv 7) (ja jb (ja (pv 1) jd))))))
   jw)
  (je (jx (pv 7)))))))))),?_⟩
 refine jD (σ':=[some _,none,none,none,none,none,none,none,none,none]) rfl ?_;have sz:(200:Nat)<sizeLine:=by decide
 exists⟨a,ns,_,rfl,hS,h63,by omega,?_⟩;exists⟨_,_,rfl,by omega,by omega,fun p1 fs H1 s1 hp1 t1 l1 b1=>?_⟩;have B1:Big fs:=b1;exists⟨a,ns,_,rfl,s1.seq hS,h63,by omega,?_⟩;exists⟨_,rfl,fun p2 ws H2 s2 hp2 t2 l2 nd nw=>?_⟩;have s12:=s1.trans s2;have t12:=s2 _ _ t1;exists⟨Nat.zero_le _,?_⟩;walk_at"f pl hpl H3 s3 t3";have c0:=B1.cell (k:=0) (by omega) (by omega);have c9:=B1.cell (k:=9) (by omega) (by omega);exists ixLm (SqL.of (s3 _ _ t12)) (Pr.jH (by omega) (by omega)) ?_;exists⟨_,rfl,by omega,by omega,?_⟩;refine JQ (fun i σ H'=>∃(ls:List Addr) (lbs:List (Str×Int)) (o4 o5 o6:Option V),σ=[some (.ref a),some (.ref p1),some (.ref p2),some (.ref pl),o4,o5,o6,none,none,none]/\Same H2 H'/\H' pl=some (.lst (ls.map V.ref))/\All2 (LimbAt H') ls lbs/\lbs.length=i/\lbs.map (·.1)=(List.range i).map (lnm ws (Pr.cell fs 9))/\∀p∈lbs,0<=p.2/\p.2<=10^18)
  ⟨[],[],_,_,_,rfl,s3,t3,.nil,rfl,rfl,(fun z h=>nomatch h)⟩ ?_ ?_
 ·rintro i σ H' hi ⟨ls,lbs,o4,o5,o6,rfl,sm,el,al,ll,ln,lb⟩;have all:=al.1;have ck:=B1.cell (k:=1+(0+(i:Int))) (by omega) (by omega);exists ixLm (SqL.of (sm _ _ t12)) (Pr.jH (by omega) (by omega)) ?_;exists⟨(by show 3<=sizeLine;omega),?_⟩;walk_at"f 4 t";exists ixLm (SqL.of (s4 _ _ (sm _ _ t12))) (Pr.jH (by omega) (by omega)) ?_;exists ixLm (SqL.of t4) (KS (by omega) (by omega)) ?_;walk_at"g";have sm4:=sm.trans s4;refine⟨a,ns,_,rfl,sm4.seq (s12.seq hS),h63,by omega,?_⟩;exists⟨_,_,rfl,by omega,by omega,fun wn=>?_⟩;exists⟨.inl ⟨rfl,_,SqL.of (s4 _ _ el)⟩,?_⟩;walk_at"g";obtain⟨x0,x1,x2⟩:=xi (ws:=ws) (c:=Pr.cell fs 9) (i:=i) l2 (by omega) (by omega);refine ixLm (SqL.of (sm4 _ _ t2)) (Yb x0 x1) ?_;rw[x2];exists ixLm (SqL.of (sm4 _ _ t12)) (Pr.jH (by omega) (by omega)) ?_;exists⟨_,_,_,rfl,by omega,by omega,by omega,by omega,fun r r1 r2=>?_⟩;exists⟨(by show 2<=sizeLine;omega),?_⟩;walk_at"f 5 t";have s45:=s4.trans s5;have el5:=s45 _ _ el;exists⟨pl,_,_,rfl,rfl,el5,by rw[length_map];omega,?_⟩;have hne:p5≠pl:=QC t5 el5 (fun z=>by cases z);refine⟨ls++[p5],lbs++[(lnm ws (Pr.cell fs 9) i,r)],_,_,_,rfl,fun b u h=>?_,?_,?_,by rw[List.length_append,ll];rfl,?_,fun p hp=>?_⟩
  ·rw[jm (jf h hpl)];exact s45 _ _ (sm _ _ h)
  ·rw[jh,map_append];rfl
  ·refine All2.snoc (al.mono fun b x h=>?_) ?_
   ·have h':H5 b=some (.tup [.str x.1,.int x.2]):=s45 _ _ h;exact(jm (QC h' el5 (fun z=>by cases z))).trans h'
   ·exact(jm hne).trans t5
  ·rw[map_append,ln,List.range_succ,map_append];rfl
  ·rcases mem_append.mp hp with e | e
   ·exact lb p e
   ·have e':p=(lnm ws (Pr.cell fs 9) i,r):=by simpa using e
    rw[e'];exact⟨r1,r2⟩
 rintro σ' H4 ⟨ls,lbs,o4,o5,o6,rfl,s4,el,al,ll,ln,lb⟩;exists WH ?_;walk_at"f r hr5 H5 s5 t5";exists⟨Nat.zero_le _,?_⟩;walk_at"f pp hpp H6 s6 t6";exists⟨Nat.zero_le _,?_⟩;walk_at"f ph hph H7 s7 t7";exists⟨Nat.zero_le _,?_⟩;walk_at"f pg hpg H8 s8 t8";exists⟨s8 _ _ (s7 _ _ (s6 _ _ t5)),[(Sum.inr "names",.ref p2),(Sum.inr "limbs",.ref pl),(Sum.inr "parts",.ref pp),(Sum.inr "hands",.ref ph),(Sum.inr "long",.ref pg)],rfl,(by show 5<=15;decide),?_⟩;generalize eH:upd H8 r _=H9;have d9:=WN eH;have k9:∀b u,b≠r->H8 b=some u->H9 b=some u:=fun b u hb h=>by rw[<-eH,jm hb];exact h
 clear eH;have n1:r≠pp:=jf t5 hpp;have n2:r≠ph:=jf (s6 _ _ t5) hph;have n3:r≠pg:=jf (s7 _ _ (s6 _ _ t5)) hpg;have n4:pp≠ph:=jf t6 hph;have n5:pp≠pg:=jf (s7 _ _ t6) hpg;have n6:ph≠pg:=jf t7 hpg;have s58:=s6.trans (s7.trans s8);have s48:=s5.trans s58;have s49:Same H4 H9:=fun b u h=>k9 b u (jf h hr5) (s48 _ _ h)
 have offo:∀b u,H4 b=some u->b≠pp/\b≠ph/\b≠pg:=fun b u h=>⟨jf (s5 _ _ h) hpp,jf (s6 _ _ (s5 _ _ h)) hph,jf (s7 _ _ (s6 _ _ (s5 _ _ h))) hpg⟩
 have e2:=s4 _ _ t2;obtain⟨z,hz⟩:∃z:Ra,z=⟨r,p2,pl,pp,ph,pg⟩:=⟨_,rfl⟩
 have R9:RoomAt H9 z ⟨ws,lbs,[],[],[]⟩:=by
  subst hz;exact⟨d9,s49 _ _ e2,⟨ls,s49 _ _ el,al.mono fun b x h=>s49 _ _ h⟩,⟨[],k9 _ _ n1.symm (s8 _ _ (s7 _ _ t6)),.nil⟩,⟨[],k9 _ _ n2.symm (s8 _ _ t7),.nil⟩,k9 _ _ n3.symm t8,offo _ _ e2,offo _ _ el,n4,n5,n6⟩
 have G9:Good ⟨ws,lbs,[],[],[]⟩:=by
  refine⟨l2,nd,nw,?_,?_,?_,fun p hp=>⟨?_,lb p hp⟩,rfl,rfl,fun i p hp=>by simp at hp⟩
  ·show 1<=lbs.length;omega
  ·show lbs.length<=8;omega
  ·show(lbs.map (·.1)).Nodup;rw[ln];exact xl l2 nd (by omega)
  ·exact xj (c:=Pr.cell fs 9) (n:=(1+Pr.cell fs 0%8).toNat) l2 (by omega) (by rw[<-ln];exact mem_map.mpr ⟨p,hp,rfl⟩)
 have zr:z.r=r:=by rw[hz]
 have zp:z.pp=pp:=by rw[hz]
 have zl:z.pl=pl:=by rw[hz]
 have off4:∀b u,H4 b=some u->z.off b:=fun b u h=>by subst hz;exact offo b u h
 have s04:=s12.trans s4;have t1':=s49 _ _ (s4 _ _ t12);have f1:z.off p1:=off4 _ _ (s4 _ _ t12);have npp:H pp=none:=none_of (s04.trans s5) hpp;have npl:H pl=none:=none_of s12 hpl;have s09:=s04.trans s49;have off0:∀b u,H b=some u->z.off b:=fun b u h=>off4 b u (s04 _ _ h)
 walk_at"g";rw[<-zr];refine⟨a,_,rfl,s09.seq hS,?_⟩;walk_at"f 10 t";have R10:=R9.keeps s10;have f10:=Qs R9 hp10;have s010:=s09.trans s10;have t110:=s10 _ _ t1';clear t1' s49 off4 offo k9 d9 s48 s58 n1 n2 n3 n4 n5 n6 t5 t6 t7 t8 s5 s6 s7 s8;have hcl:=W3 (xs:=ns.map V.int);refine⟨p10,rfl,⟨_,SqL.of t10⟩,?_⟩;refine qI (xs:=cutV (ns.map V.int) (some 2) (some 62)) (fun i σ H'=>∃(m:Rr) (o8 o9:Option V),σ=[some (.ref a),some (.ref p1),some (.ref p2),some (.ref pl),o4,o5,o6,some (.ref z.r),o8,o9]/\Kp z H10 H'/\RoomAt H' z m/\Good m/\m.parts.length=i)
  ⟨_,none,none,rfl,Kp.refl _ _,R10,G9,rfl⟩ ?_ ?_ ?_
 ·rintro i σ H' _ ⟨m,o8,o9,rfl,k,R,G,hm⟩;exact SqL.of (k _ _ f10 t10)
 ·rintro i x σ H' hx ⟨m,o8,o9,rfl,k,R,G,hm⟩;obtain⟨n,hn,rfl⟩:=Pr.Wo (List.mem_of_getElem? hx);have hi:=(List.getElem?_eq_some_iff.mp hx).1;obtain⟨qs,eq,aq⟩:=R.p;exists⟨_,_,rfl,Ji R,?_⟩;exists⟨_,_,rfl,.inl ⟨_,SqL.of eq,rfl⟩,?_⟩;rw[length_map,aq.1,hm];exists⟨_,_,rfl,by omega,by omega,fun p11 gs H11 s11 hp11 t11 l11 b11=>?_⟩;have B11:Big gs:=b11;have g0:=B11.cell (k:=0) (by omega) (by omega);have R11:=R.keeps s11;have o11:=Qs R hp11;have k11:=k.trans (Kp.of s11);exists ixLm (SqL.of t11) (Pr.jH (by omega) (by omega)) ?_;exists iteD (fun d1=>?_) (fun d1=>?_)
  ·exists⟨_,_,rfl,Ji R11,?_⟩;exists⟨_,_,rfl,.inl ⟨_,SqL.of (s11 _ _ eq),rfl⟩,?_⟩;rw[length_map,aq.1,hm];exists iteD (fun d2=>?_) (fun d2=>?_)
   ·exists⟨z,m,n,p11,gs,rfl,R11,G,by omega,by omega,t11,o11,by omega,B11,fun m' H' k' R' G' hl'=>?_⟩;exact⟨m',_,_,rfl,k11.trans k',R',G',by omega⟩
   ·exists⟨z,m,n,p11,gs,rfl,R11,G,by omega,t11,o11,by omega,B11,fun m' H' k' R' G' hl'=>?_⟩;exact⟨m',_,_,rfl,k11.trans k',R',G',by omega⟩
  ·refine iteF ?_;exists⟨z,m,n,p11,gs,rfl,R11,G,by omega,t11,o11,by omega,B11,fun m' H' k' R' G' hl'=>?_⟩;exact⟨m',_,_,rfl,k11.trans k',R',G',by omega⟩
 rintro σ' H' ⟨m,o8,o9,rfl,k,R,G,hm⟩;have m61:m.parts.length<=60:=by omega
 exists⟨fun σ' H'=>∃(m:Rr) (o8 o9:Option V),σ'=[some (.ref a),some (.ref p1),some (.ref p2),some (.ref pl),o4,o5,o6,some (.ref z.r),o8,o9]/\Kp z H10 H'/\RoomAt H' z m/\Good m/\1<=m.parts.length/\m.parts.length<=61,?_,?_⟩
 rotate_left
 ·obtain⟨qs,eq,aq⟩:=R.p;exists⟨_,_,rfl,Ji R,?_⟩;exists⟨Nat.zero_le _,?_⟩;walk_at"f p12 hp12 H12 s12' t12'";have R12:=R.keeps s12';have k12:=k.trans (Kp.of s12');refine⟨_,_,DV.lst (s12' _ _ eq) (Zq (fun _ _ h=>We (PartAt.same s12' h)) aq),W4 t12',(KL (G.bk (by omega))).ok (by decide),shp0,?_⟩;rw[Ks];exists iteD (fun d1=>?_) (fun d1=>?_)
  ·exists⟨z,m,0,p1,fs,rfl,R12,G,by omega,k12 _ _ f1 t110,f1,by omega,B1,fun m' H' k' R' G' hl'=>?_⟩;exact⟨m',_,_,rfl,k12.trans k',R',G',by omega,by omega⟩
  ·exists⟨m,_,_,rfl,k12,R12,G,?_,by omega⟩;cases hq:m.parts with
   | nil=>exact absurd hq d1
   | cons x y=>exact Nat.succ_le_succ (Nat.zero_le _)
 rintro σ' H' ⟨m,o8,o9,rfl,k,R,G,m1,m61⟩;walk_at"g";exact q z m H' (fun b u h=>k b u (off0 b u h) (s010 _ _ h)) R G m1 m61 (by rw[zl];exact npl) (by rw[zp];exact npp)
theorem zX(T:Txt K mg t):FnOk P w K mg base CX0 1 t.Jm t.Jp ["_law_raises","_law_later"] (sp_shiftedZ):=by
 refine T.Qv.ok zZ (fun vs H Q E h=>?_) (fun cdv A outer s H vs Q E hr h=>?_)
 ·cases h;subst_vars;rfl
 obtain⟨l,rs,o,g,rfl,⟨as,el,al⟩,l200,o0,o80,zk,g60,q⟩:=h;refine⟨_,(je (jx (JL (ow:=["_law_limb","_law_first","_law_beats","_law_high"]) (ci:=[1]) rfl (CompScope.of (defScope JZ) ["_law_raises","_law_later"] rfl rfl (by decide +kernel)) (Wh (by decide) (by decide) (by decide) (by decide)) (jS (pv 0)) (fun _ _ _ _ _=>⟨(q5 rfl (jA (jo (i:=0) (Jc ["_law_raises","_law_later"] rfl (by decide +kernel)) rfl (.inl rfl)) (jA (jo (i:=1) (Jc ["_law_raises","_law_later"] rfl (by decide +kernel)) rfl (.inl rfl)) (jA (jo (i:=2) (Jc ["_law_raises","_law_later"] rfl (by decide +kernel)) rfl (.inl rfl)) (jA (jo (i:=3) (Jc ["_law_raises","_law_later"] rfl (by decide +kernel)) rfl (.inl rfl)) qo))))),qy,(Jr (ja (pv 0) (ja (jg jK (pv 1) (pv 4)) (ja (pv 2) (ja (pv 3) jd)))))⟩)))),?_⟩;refine jD (σ':=[some _,some _]) rfl ?_;have sz:(1000:Nat)<sizeLine:=by decide
 have alb:=al.1;exists⟨l,rfl,⟨_,SqL.of el⟩,?_⟩;refine jQ (xs:=as.map V.ref) (fun i ys H'=>∃bs:List Addr,ys=bs.map V.ref/\bs.length=i/\Same H H'/\All2 (QAt H') bs ((rs.take i).map (shZ o))) ⟨[],rfl,rfl,Same.refl _,.nil⟩ ?_ ?_ ?_
 ·rintro i ys H' _ ⟨bs,rfl,bl,sm,al'⟩;exact SqL.of (sm _ _ el)
 ·rintro i v ys H1 hv ⟨bs,rfl,bl,sm,al'⟩;obtain⟨b,r,rfl,hr,eb⟩:=al.at_ref hv;have hi:=(List.getElem?_eq_some_iff.mp hr).1;have zr:=zk r (List.mem_of_getElem? hr);refine JO (σ':=[none,none,none,none,some (.int o)]) rfl ?_;refine wH (SqT.of (sm _ _ eb)) ?_;exists iteT ?_;exists⟨(by show 4<=sizeLine;omega),?_⟩;walk_at"f 2 t";refine⟨by rw[length_map];omega,bs++[p2],by rw[map_append];rfl,by rw[List.length_append,bl];rfl,sm.trans s2,?_⟩;rw[take_snoc hr,map_append];exact All2.snoc (All2.mono al' fun c x h=>s2 _ _ h) t2
 rintro ys H1 ⟨bs,rfl,bl,sm,al'⟩;rw[length_map]at bl;rw[length_map,alb,take_length]at al';refine⟨by rw[length_map];omega,?_⟩;walk_at"f 2 t";exact q p2 H2 (sm.trans s2) ⟨bs,t2,All2.mono al' fun c x h=>s2 _ _ h⟩
theorem Zz(T:Txt K mg t)(qE:FnOk P w K mg base CX0 1 t.Jm t.Jp ["_law_raises","_law_later"] (sp_shiftedZ)):FnOk P w K mg base CX0 2 t.JG t.JI ["_law_form","_law_rolls","_law_limbs"] (sp_rolledZ):=by
 refine T.QZ.ok jz (fun vs H Q E h=>?_) (fun cdv A outer s H vs Q E hr h=>?_)
 ·cases h;subst_vars;rfl
 obtain⟨fa,d,ll,m,E,i,y,f,ws,rfl,hF,hp,G,h61,oE,lE,ed,wl,rld,ell,q⟩:=h;refine⟨_,(jc (jP (jn Jj (ji jr (pv 0) jb) jv (nomark _))
   (je (jx (Jr (ja (jM (ja (Jr (ja (qx PySem.F.plainAttrs_list PySem.F.slot_list_index PySem.F.type_list_index KB (pv 2) (ja (ji jr (pv 0) jb) jd)) (ja jb (ja (ji jr (pv 0) jb) (ja (ji jr (pv 0) jb) jd))))) jd)) (ja (ji jr (pv 0) jb) jd)))))
   jw)
  (jc (jP (PW.pt (yk (jn Jj (ji jr (pv 0) jb) jv (nomark _)) (ZG (jn Jj (ji jr (pv 0) jb) jv (nomark _)))))
   (je (jx (Jr (ja (jM jd) (ja (ji jr (pv 0) (jg Q5 (jt jC (by rfl) T.Jn jW (ja (pv 0) jd)) jb)) jd)))))
   jw)
  (jc (jk (i:=3) jz.nd rfl (.inl rfl) (jM jd))
  (jc (jk (i:=4) jz.nd rfl (.inl rfl) jb)
  (jc (jk (i:=5) jz.nd rfl (.inl rfl) (ji jr (pv 0) jb))
  (jc (Q6 (jn Jj (ji jr (pv 0) jb) jv (nomark _))
   (jc (jk (i:=6) jz.nd rfl (.inl rfl) (jB (jY hr) (pv 1) (ji jr (pv 0) jb)))
   (jc (jP (PW.pt (yk (jn wz (pv 6) zL (nomark _)) (ZG (jn zt (jg JA (jt jC (by rfl) T.Jn jW (ja (ji jr (pv 6) jb) jd)) (ji jr (pv 0) jb)) jb (nomark _)))))
    (je (jx zL))
    jw)
   (jc (jP (jn (km hr.units) (ji jr (pv 6) jb) (jM jd) (nomark _))
    (je (jx (Jr (ja (jM jd) (ja (jg JA (ji jr (pv 0) jb) (ji jr (pv 6) jb)) jd)))))
    jw)
   (je (jk (i:=5) jz.nd rfl (.inl rfl) (jg xt (jM (ja (ji jr (pv 0) jb) jd)) (ji jr (pv 0) jb)))))))
   jw)
  (jc (Jd PassesOwn.never rfl (WD (pv 5)) (jo (i:=7) jz.nd rfl (.inl rfl))
   (jc (jk (i:=6) jz.nd rfl (.inl rfl) (jB (jY hr) (pv 1) (pv 7)))
   (jc (jP (PW.pt (yk (jn wz (pv 6) zL (nomark _)) (ZG (jn zt (jg jK (jt jC (by rfl) T.Jn jW (ja (pv 3) jd)) (jt jC (by rfl) T.Jn jW (ja (ji jr (pv 6) jb) jd))) jb (nomark _)))))
    (je (jx zL))
    jw)
   (je (jP (jn Jj (ji jr (pv 0) jb) jv (nomark _))
    (jc (jk (i:=3) jz.nd rfl (.inl rfl) (jg yT (pv 3) (ji jr (pv 6) jb)))
    (je (jk (i:=4) jz.nd rfl (.inl rfl) (jt (Z5 rfl) (by rfl) T.kJ yy (ja (pv 4) (ja (ji jr (pv 6) jb) jd))))))
    (jc (jk (i:=3) jz.nd rfl (.inl rfl) (jg yT (pv 3) (jp (qE.mono (by decide)) hr (by rfl) T.Zw T.Qv.kp T.Zi .nil pass0 (ja (ji jr (pv 6) jb) (ja (pv 4) jd)))))
    (je (jk (i:=4) jz.nd rfl (.inl rfl) (jg jK (pv 4) (ji jr (pv 6) jb))))))))))
  (je (jx (Jr (ja (pv 3) (ja (pv 4) jd)))))))))))),?_⟩
 refine jD (σ':=[some _,some _,some _,none,none,none,none,none]) rfl ?_;have sz:(1000:Nat)<sizeLine:=by decide
 have hi:=(List.getElem?_eq_some_iff.mp hp).1;have W:=G.wf h61;have fk:=(G.ps i _ hp).2.f;have get:∀{H':Hp} {j:Nat},Same H H'->j<i->∃v,DGet H' d (.str (m.nm j)) (some v)/\RoA m E H' j v:=fun {H'} {j} s hj=>by
  have hw:ws[j]?=some (ws[j]'(by omega)):=List.getElem?_eq_getElem _;have g:=DGet.k (k:=Sum.inr (m.nm j)) (s _ _ ed);rw[YG G (by omega) hw]at g;exact⟨_,g,(rld j _ hw).same s⟩
 cases f with
 | rise x h n=>
  have ha:H fa=some (.tup _):=hF;obtain⟨j,hj⟩:=W.r i y x h n hp;obtain⟨l1,l2,l3⟩:=lidx W.ln hj;exists ixTm (SqT.of ha) rfl ?_;exists iteE1 ?_;exists⟨.inl ⟨rfl,_,SqL.of ell⟩,?_⟩;exists ixTm (SqT.of ha) rfl ?_;exists⟨ll,_,.str x,.str x,j,rfl,rfl,SqL.of ell,rfl,flatZ _,l1,l2,l3,?_⟩;exists ixTm (SqT.of ha) rfl ?_;exists ixTm (SqT.of ha) rfl ?_;exists⟨(by show 4<=sizeLine;omega),?_⟩;walk_at"f 1 t";exists⟨(by show 1<=sizeLine;omega),?_⟩;walk_at"f 2 t";have s02:=s1.trans s2;exists ixTm (SqT.of (s02 _ _ ha)) rfl ?_;exists⟨(by show 2<=sizeLine;omega),?_⟩;walk_at"f 3 t";have R:=Ro.rise G oE lE hp;rw[qz W.ln hj]at R;exact q _ H3 (s02.trans s3) (.inr ⟨_,n,p3,p2,rfl,t3,⟨[p1],s3 _ _ t2,All2.consZ (s3 _ _ (s2 _ _ t1)) .nil⟩,R⟩)
 | hold n=>
  have ha:H fa=some (.tup _):=hF;have R:=Ro.idle oE lE hp rfl (fun _ _ _ z=>by cases z) fk.2.2.2;exists ixTm (SqT.of ha) rfl ?_;exists iteE0 ?_;exists ixTm (SqT.of ha) rfl ?_;exists iteE1 ?_;exists⟨Nat.zero_le _,?_⟩;walk_at"f 1 t";exists⟨_,_,rfl,.inr ⟨_,SqT.of (s1 _ _ ha),rfl⟩,?_⟩;exists ixTm (SqT.of (s1 _ _ ha)) rfl ?_;exists⟨(by show 2<=sizeLine;omega),?_⟩;walk_at"f 3 t";exact q _ H3 (s1.trans s3) (.inr ⟨_,n,p3,p1,rfl,t3,⟨[],s3 _ _ t1,.nil⟩,R⟩)
 | ring x n=>
  have ha:H fa=some (.tup _):=hF;have R:=Ro.idle oE lE hp rfl (fun _ _ _ z=>by cases z) fk.2.2.2.2;exists ixTm (SqT.of ha) rfl ?_;exists iteE0 ?_;exists ixTm (SqT.of ha) rfl ?_;exists iteE0 ?_;exists ixTm (SqT.of ha) rfl ?_;exists iteE1 ?_;exists⟨Nat.zero_le _,?_⟩;walk_at"f 1 t";exists⟨_,_,rfl,.inr ⟨_,SqT.of (s1 _ _ ha),rfl⟩,?_⟩;exists ixTm (SqT.of (s1 _ _ ha)) rfl ?_;exists⟨(by show 2<=sizeLine;omega),?_⟩;walk_at"f 3 t";exact q _ H3 (s1.trans s3) (.inr ⟨_,n,p3,p1,rfl,t3,⟨[],s3 _ _ t1,.nil⟩,R⟩)
 | row ps=>
  obtain⟨nb,ha,hb⟩:=hF;obtain⟨is,⟨rfl,ilt⟩,i1,i8,_,ig⟩:=fk;have eIn:inP m.parts (.row (is.map m.nm))=is:=JK G W fun j hj=>by have:=ilt j hj;omega
  have lgs:∀t,0<=((is.take t).map m.lg).sum/\((is.take t).map m.lg).sum<=10^61:=fun t=>by
   have:=wR (B:=10^60) (by decide) (l:=(is.take t).map m.lg) fun x hx=>by
    obtain⟨j,hj,rfl⟩:=mem_map.mp hx;have:=Zv G (j:=j) (by have:=ilt j (mem_of_mem_take hj);omega);omega
   rw[length_map,length_take]at this;have:((min t is.length:Nat):Int)*10^60<=8*10^60:=Int.mul_le_mul_of_nonneg_right (by omega) (by decide);omega
  exists ixTm (SqT.of ha) rfl ?_;exists iteE0 ?_;exists ixTm (SqT.of ha) rfl ?_;exists iteE0 ?_;exists ixTm (SqT.of ha) rfl ?_;exists iteE0 ?_;exists⟨Nat.zero_le _,?_⟩;walk_at"f 1 t";exists ixTm (SqT.of (s1 _ _ ha)) rfl ?_;exists⟨fun σ' H'=>σ'=[some (.ref fa),some (.ref d),some (.ref ll),some (.ref p1),some (.int 0),some (.ref nb),none,none]/\H1=H',?_,?_⟩
  rotate_left
  ·exists ixTm (SqT.of (s1 _ _ ha)) rfl ?_;exists iteE0 ?_;walk_at"g";exact⟨rfl,rfl⟩
  rintro σ' H' ⟨rfl,rfl⟩;exists ZH ?_;exists⟨nb,rfl,.inr ⟨⟨_,SqT.of (s1 _ _ hb)⟩,?_⟩⟩;refine kQ (xs:=(is.map m.nm).map V.str) (fun t σ H'=>∃(o6 o7:Option V) (l:Addr) (rs:List Rm.Rz),σ=[some (.ref fa),some (.ref d),some (.ref ll),some (.ref l),some (.int ((is.take t).map m.lg).sum),some (.ref nb),o6,o7]/\Same H H'/\RsAt H' l rs/\rs.length<=200/\Ru E (is.take t) rs ((is.take t).map m.lg).sum) ⟨_,_,p1,[],rfl,s1,⟨[],t1,.nil⟩,Nat.zero_le _,Ru.start⟩ ?_ ?_ ?_
  ·rintro t σ H' _ ⟨o6,o7,l,rs,rfl,sm,_⟩;exact SqT.of (sm _ _ hb)
  ·rintro t v σ H2 hv ⟨o6,o7,l,rs,rfl,sm,⟨as,el,al⟩,r200,U⟩;rw[List.getElem?_map,List.getElem?_map]at hv;obtain⟨x,hx,rfl⟩:=Option.map_eq_some_iff.mp hv;obtain⟨j,hj,rfl⟩:=Option.map_eq_some_iff.mp hx;have jlt:=ilt j (List.mem_of_getElem? hj);have lgj:=Zv G (j:=j) (by omega);have alb:=al.1;obtain⟨v,gv,rv⟩:=get sm jlt;have so:=lgs t;exists⟨d,_,rfl,gv,?_⟩;rcases rv with rfl | ⟨qs,g,va,vl,rfl,ev,⟨as',el',al'⟩,R⟩
   ·exists⟨rfl,?_⟩;refine⟨_,rfl,?_⟩;refine iteT ?_;walk_at"g";exact q _ _ sm (.inl rfl)
   ·have alb':=al'.1;have ql:=R.len;have eg:=R.e;exists⟨rfl,?_⟩;refine⟨_,rfl,?_⟩;refine iteF ?_;exists⟨_,_,rfl,.inl ⟨_,SqL.of el,rfl⟩,?_⟩;exists ixTm (SqT.of ev) rfl ?_;exists⟨_,_,rfl,.inl ⟨_,SqL.of el',rfl⟩,?_⟩;rw[length_map,length_map];exists iteD (fun c=>?_) (fun c=>?_)
    ·walk_at"g";exact q _ _ sm (.inl rfl)
    ·exists ixTm (SqT.of (sm _ _ ha)) rfl ?_;exists iteE0 ?_;exists ixTm (SqT.of ev) rfl ?_;exists⟨vl,qs,_,g,rfl,⟨as',el',al'⟩,ql,so.1,by omega,R.ok,by omega,fun l3 H3 s3 ⟨as3,el3,al3⟩=>?_⟩;have alb3:=al3.1;rw[length_map]at alb3;refine⟨l,l3,_,_,rfl,rfl,s3 _ _ el,el3,by rw[length_map,length_map];omega,?_⟩;walk_at"f 4 t";have s24:=s3.trans s4;exists ixTm (SqT.of (s24 _ _ ev)) rfl ?_;walk_at"g";have es:((is.take (t+1)).map m.lg).sum=((is.take t).map m.lg).sum+g:=by
      rw[take_snoc hj,map_append,List.sum_append,map_cons,map_nil,sum_cons,List.sum_nil,Int.add_zero,eg]
     rw[es];refine⟨_,_,p4,rs++qs.map (shZ ((is.take t).map m.lg).sum),rfl,sm.trans s24,⟨as++as3,by rw[t4,map_append],?_⟩,by rw[List.length_append,length_map];omega,?_⟩
     ·exact All2.appZ (All2.mono al fun c x h=>s24 _ _ h) (All2.mono al3 fun c x h=>s4 _ _ h)
     ·rw[take_snoc hj];exact U.row R (by omega)
  ·rintro σ H2 ⟨o6,o7,l,rs,rfl,sm,⟨as,el,al⟩,r200,U⟩;rw[show((is.map m.nm).map V.str).length=is.length by rw[length_map,length_map],take_length]at U;rw[show((is.map m.nm).map V.str).length=is.length by rw[length_map,length_map],take_length];exists⟨(by show 2<=sizeLine;omega),?_⟩;walk_at"f 3 t";exact q _ H3 (sm.trans s3) (.inr ⟨rs,_,p3,l,rfl,t3,⟨as,s3 _ _ el,All2.mono al fun c x h=>s3 _ _ h⟩,U.done oE lE hp (fun _ _ _ z=>by cases z) (fun k v=>by rw[eIn]) ig.symm r200⟩)
 | side ps=>
  obtain⟨nb,ha,hb⟩:=hF;obtain⟨is,⟨rfl,ilt⟩,i1,i8,ap,_,ga,gb⟩:=fk;have eIn:inP m.parts (.side (is.map m.nm))=is:=JK G W fun j hj=>by have:=ilt j hj;omega
  exists ixTm (SqT.of ha) rfl ?_;exists iteE0 ?_;exists ixTm (SqT.of ha) rfl ?_;exists iteE0 ?_;exists ixTm (SqT.of ha) rfl ?_;exists iteE0 ?_;exists⟨Nat.zero_le _,?_⟩;walk_at"f 1 t";exists ixTm (SqT.of (s1 _ _ ha)) rfl ?_;exists⟨fun σ' H'=>σ'=[some (.ref fa),some (.ref d),some (.ref ll),some (.ref p1),some (.int 0),some (.ref nb),none,none]/\H1=H',?_,?_⟩
  rotate_left
  ·exists ixTm (SqT.of (s1 _ _ ha)) rfl ?_;exists iteE0 ?_;walk_at"g";exact⟨rfl,rfl⟩
  rintro σ' H' ⟨rfl,rfl⟩;exists ZH ?_;exists⟨nb,rfl,.inr ⟨⟨_,SqT.of (s1 _ _ hb)⟩,?_⟩⟩;refine kQ (xs:=(is.map m.nm).map V.str) (fun t σ H'=>∃(o6 o7:Option V) (l:Addr) (rs:List Rm.Rz) (o:Int),σ=[some (.ref fa),some (.ref d),some (.ref ll),some (.ref l),some (.int o),some (.ref nb),o6,o7]/\Same H H'/\RsAt H' l rs/\rs.length<=200/\Ru E (is.take t) rs o/\MxZ m (is.take t) o/\(is.take t=[]->o=0)) ⟨_,_,p1,[],0,rfl,s1,⟨[],t1,.nil⟩,Nat.zero_le _,Ru.start,⟨by decide,by decide,(fun j h=>nomatch h),.inl rfl⟩,fun _=>rfl⟩ ?_ ?_ ?_
  ·rintro t σ H' _ ⟨o6,o7,l,rs,o,rfl,sm,_⟩;exact SqT.of (sm _ _ hb)
  ·rintro t v σ H2 hv ⟨o6,o7,l,rs,o,rfl,sm,⟨as,el,al⟩,r200,U,X,X0⟩;rw[List.getElem?_map,List.getElem?_map]at hv;obtain⟨x,hx,rfl⟩:=Option.map_eq_some_iff.mp hv;obtain⟨j,hj,rfl⟩:=Option.map_eq_some_iff.mp hx;have jlt:=ilt j (List.mem_of_getElem? hj);have lgj:=Zv G (j:=j) (by omega);have alb:=al.1;obtain⟨v,gv,rv⟩:=get sm jlt;have so:=X.1;have so':=X.2.1;exists⟨d,_,rfl,gv,?_⟩;rcases rv with rfl | ⟨qs,g,va,vl,rfl,ev,⟨as',el',al'⟩,R⟩
   ·exists⟨rfl,?_⟩;refine⟨_,rfl,?_⟩;refine iteT ?_;walk_at"g";exact q _ _ sm (.inl rfl)
   ·have alb':=al'.1;have ql:=R.len;have eg:=R.e;exists⟨rfl,?_⟩;refine⟨_,rfl,?_⟩;refine iteF ?_;exists⟨_,_,rfl,.inl ⟨_,SqL.of el,rfl⟩,?_⟩;exists ixTm (SqT.of ev) rfl ?_;exists⟨_,_,rfl,.inl ⟨_,SqL.of el',rfl⟩,?_⟩;rw[length_map,length_map];exists iteD (fun c=>?_) (fun c=>?_)
    ·walk_at"g";exact q _ _ sm (.inl rfl)
    ·exists ixTm (SqT.of (sm _ _ ha)) rfl ?_;exists iteE1 ?_;exists ixTm (SqT.of ev) rfl ?_;refine⟨l,vl,_,_,rfl,rfl,el,el',by rw[length_map,length_map];omega,?_⟩;walk_at"f 4 t";exists ixTm (SqT.of (s4 _ _ ev)) rfl ?_;exists⟨_,_,rfl,?_⟩;rw[xn];walk_at"g";have X':=X.step lgj X0;rw[<-eg,<-take_snoc hj]at X';have U':=U.side R fun j' hj'=>xF G oE lE h61 (by omega) (by have:=ilt j' (mem_of_mem_take hj');omega) (WG ap.2 hj j' hj')
     rw[<-take_snoc hj]at U';refine⟨_,_,p4,rs++qs,max o g,rfl,sm.trans s4,⟨as++as',by rw[t4,map_append],?_⟩,by rw[List.length_append];omega,U',X',fun z=>?_⟩
     ·exact All2.appZ (All2.mono al fun c x h=>s4 _ _ h) (All2.mono al' fun c x h=>s4 _ _ h)
     ·rw[take_snoc hj]at z;exact absurd (List.append_eq_nil_iff.mp z).2 (by simp)
  ·rintro σ H2 ⟨o6,o7,l,rs,o,rfl,sm,⟨as,el,al⟩,r200,U,X,X0⟩;rw[show((is.map m.nm).map V.str).length=is.length by rw[length_map,length_map],take_length]at U X;exists⟨(by show 2<=sizeLine;omega),?_⟩;walk_at"f 3 t";exact q _ H3 (sm.trans s3) (.inr ⟨rs,_,p3,l,rfl,t3,⟨as,s3 _ _ el,All2.mono al fun c x h=>s3 _ _ h⟩,U.done oE lE hp (fun _ _ _ z=>by cases z) (fun k v=>by rw[eIn]) (X.done (fun z=>by rw[z]at i1;exact absurd i1 (by decide)) ga gb) r200⟩)
 | again k x=>
  have ha:H fa=some (.tup _):=hF;obtain⟨k1,k18,j,jlt,rfl,_,ig⟩:=fk;have lgj:=Zv G (j:=j) (by omega);have eIn:inP m.parts (.again k (m.nm j))=[j]:=JK G W (is:=[j]) fun j' hj'=>by have:=mem_singleton.mp hj';omega
  exists ixTm (SqT.of ha) rfl ?_;exists iteE0 ?_;exists ixTm (SqT.of ha) rfl ?_;exists iteE0 ?_;exists ixTm (SqT.of ha) rfl ?_;exists iteE0 ?_;exists⟨Nat.zero_le _,?_⟩;walk_at"f 1 t";have ha1:=s1 _ _ ha;exists ixTm (SqT.of ha1) rfl ?_;exists⟨fun σ' H'=>∃(nb:Addr) (o6:Option V),σ'=[some (.ref fa),some (.ref d),some (.ref ll),some (.ref p1),some (.int 0),some (.ref nb),o6,none]/\Same H1 H'/\H' nb=some (.lst (List.replicate k.toNat (.str (m.nm j))))/\k<=200,?_,?_⟩
  rotate_left
  ·exists ixTm (SqT.of ha1) rfl ?_;exists iteE1 ?_;obtain⟨v,gv,rv⟩:=get s1 jlt;exists ixTm (SqT.of ha1) rfl ?_;exists⟨d,_,rfl,gv,?_⟩;rcases rv with rfl | ⟨qs,g,va,vl,rfl,ev,⟨as',el',al'⟩,R⟩
   ·exists⟨rfl,?_⟩;refine⟨_,rfl,?_⟩;refine iteT ?_;walk_at"g";exact q _ _ s1 (.inl rfl)
   ·have alb':=al'.1;have ql:=R.len;have eg:=R.e;have kg:k*g=m.lg i:=by rw[eg];exact ig.symm
    exists⟨rfl,?_⟩;refine⟨_,rfl,?_⟩;refine iteF ?_;exists ixTm (SqT.of ev) rfl ?_;exists⟨_,_,rfl,.inl ⟨_,SqL.of el',rfl⟩,?_⟩;rw[length_map];exists ixTm (SqT.of ha1) rfl ?_;exists iteD (fun c=>?_) (fun c=>?_)
    ·walk_at"g";exact q _ _ s1 (.inl rfl)
    ·exists ixTm (SqT.of ev) rfl ?_;exists⟨Nat.zero_le _,?_⟩;walk_at"f 2 t";refine⟨_,_,.lst (s2 _ _ el') (xK (All2.mono al' fun c x h=>s2 _ _ h)),.lst t2 .nil,(WX qs).ok (by decide),(WX []).ok (by decide),?_⟩;rw[Rm.yG];refine⟨_,rfl,?_⟩;refine iteD (fun c'=>?_) (fun c'=>?_)
     ·exists⟨Nat.zero_le _,?_⟩;walk_at"f 3 t";have s13:=s2.trans s3;exists ixTm (SqT.of (s13 _ _ ha1)) rfl ?_;exists ixTm (SqT.of (s13 _ _ ev)) rfl ?_;exists⟨(by show 2<=sizeLine;omega),?_⟩;walk_at"f 4 t";exact q _ H4 (s1.trans (s13.trans s4)) (.inr ⟨[],_,p4,p3,rfl,t4,⟨[],s4 _ _ t3,.nil⟩,Ro.again oE lE G h61 hp jlt R c' kg⟩)
     ·have q1:1<=qs.length:=by
       cases qs with
       | nil=>exact absurd rfl c'
       | cons _ _=>rw[length_cons];omega
      have k2:k<=200:=by
       have:=Int.mul_le_mul_of_nonneg_right (show(1:Int)<=(as'.length:Int) by omega) (show 0<=k by omega);omega
      exists ixTm (SqT.of (s2 _ _ ha1)) rfl ?_;exists⟨(by show 1<=sizeLine;omega),?_⟩;walk_at"f 3 t";have s13:=s2.trans s3;exists ixTm (SqT.of (s13 _ _ ha1)) rfl ?_;refine⟨p3,_,_,rfl,rfl,t3,by omega,by omega,by show 1*_<=_;omega,?_⟩;walk_at"f 4 t";rw[Kt]at t4;walk_at"g";exact⟨p4,_,rfl,s13.trans s4,t4,k2⟩
  rintro σ' H5 ⟨nb,o6,rfl,s5,hb,k2⟩;have s05:=s1.trans s5;obtain⟨kn,ek⟩:∃kn:Nat,k=((kn+1:Nat):Int):=⟨(k-1).toNat,by omega⟩
  rw[show k.toNat=kn+1 by omega]at hb;exists ZH ?_;exists⟨nb,rfl,.inl ⟨⟨_,SqL.of hb⟩,?_⟩⟩;refine qI (xs:=List.replicate (kn+1) (V.str (m.nm j))) (fun t σ H'=>∃(o6 o7:Option V) (l:Addr) (rs:List Rm.Rz),σ=[some (.ref fa),some (.ref d),some (.ref ll),some (.ref l),some (.int ((t:Int)*m.lg j)),some (.ref nb),o6,o7]/\Same H5 H'/\RsAt H' l rs/\rs.length<=200/\Ru E (List.replicate t j) rs ((t:Int)*m.lg j)) ⟨_,_,p1,[],by rw[show((0:Nat):Int)*m.lg j=0 from Int.zero_mul _],Same.refl _,⟨[],s5 _ _ t1,.nil⟩,Nat.zero_le _,by rw[show((0:Nat):Int)*m.lg j=0 from Int.zero_mul _];exact Ru.start⟩ ?_ ?_ ?_
  ·rintro t σ H' _ ⟨o6,o7,l,rs,rfl,sm,_⟩;exact SqL.of (sm _ _ hb)
  ·rintro t v σ H2 hv ⟨o6,o7,l,rs,rfl,sm,⟨as,el,al⟩,r200,U⟩;have tl:=(List.getElem?_eq_some_iff.mp hv).1;rw[length_replicate]at tl;rw[List.getElem?_replicate,if_pos tl]at hv;cases hv;have s02:=s05.trans sm;have alb:=al.1;obtain⟨v,gv,rv⟩:=get s02 jlt;have so:=U.o0;have so':(t:Int)*m.lg j<=200*10^60:=Int.mul_le_mul (by omega) lgj.2 (by omega) (by decide);exists⟨d,_,rfl,gv,?_⟩;rcases rv with rfl | ⟨qs,g,va,vl,rfl,ev,⟨as',el',al'⟩,R⟩
   ·exists⟨rfl,?_⟩;refine⟨_,rfl,?_⟩;refine iteT ?_;walk_at"g";exact q _ _ s02 (.inl rfl)
   ·have alb':=al'.1;have ql:=R.len;have eg:=R.e;exists⟨rfl,?_⟩;refine⟨_,rfl,?_⟩;refine iteF ?_;exists⟨_,_,rfl,.inl ⟨_,SqL.of el,rfl⟩,?_⟩;exists ixTm (SqT.of ev) rfl ?_;exists⟨_,_,rfl,.inl ⟨_,SqL.of el',rfl⟩,?_⟩;rw[length_map,length_map];exists iteD (fun c=>?_) (fun c=>?_)
    ·walk_at"g";exact q _ _ s02 (.inl rfl)
    ·exists ixTm (SqT.of (s02 _ _ ha)) rfl ?_;exists iteE0 ?_;exists ixTm (SqT.of ev) rfl ?_;exists⟨vl,qs,_,g,rfl,⟨as',el',al'⟩,ql,so,by omega,R.ok,by omega,fun l3 H3 s3 ⟨as3,el3,al3⟩=>?_⟩;have alb3:=al3.1;rw[length_map]at alb3;refine⟨l,l3,_,_,rfl,rfl,s3 _ _ el,el3,by rw[length_map,length_map];omega,?_⟩;walk_at"f 4 t";have s24:=s3.trans s4;exists ixTm (SqT.of (s24 _ _ ev)) rfl ?_;walk_at"g";have es:((t+1:Nat):Int)*m.lg j=(t:Int)*m.lg j+g:=by rw[show((t+1:Nat):Int)=(t:Int)+1 by omega,Int.add_mul,eg];omega
     rw[es];refine⟨_,_,p4,rs++qs.map (shZ ((t:Int)*m.lg j)),rfl,sm.trans s24,⟨as++as3,by rw[t4,map_append],?_⟩,by rw[List.length_append,length_map];omega,?_⟩
     ·exact All2.appZ (All2.mono al fun c x h=>s24 _ _ h) (All2.mono al3 fun c x h=>s4 _ _ h)
     ·rw[List.replicate_succ'];exact U.row R (by omega)
  ·rintro σ H2 ⟨o6,o7,l,rs,rfl,sm,⟨as,el,al⟩,r200,U⟩;rw[length_replicate]at U;rw[length_replicate];exists⟨(by show 2<=sizeLine;omega),?_⟩;walk_at"f 3 t";refine q _ H3 (s05.trans (sm.trans s3)) (.inr ⟨rs,_,p3,l,rfl,t3,⟨as,s3 _ _ el,All2.mono al fun c x h=>s3 _ _ h⟩,U.done oE lE hp (fun _ _ _ z=>by cases z) (fun k v=>?_) (by rw[<-ek];exact ig.symm) r200⟩);rw[eIn,Zt];exact(Zt (n:=0)).symm
theorem yQ(T:Txt K mg t):FnOk P w K mg base CX0 1 t.qq t.qu ["_law_raises","_law_limb"] (sp_leftZ):=by
 refine T.zQ.ok jT (fun vs H Q E h=>?_) (fun cdv A outer s H vs Q E hr h=>?_)
 ·cases h;subst_vars;rfl
 obtain⟨l,rs,k,g,rfl,⟨as,el,al⟩,l200,zk,g80,q⟩:=h;refine⟨_,(jc (jk (i:=2) jT.nd rfl (.inl rfl) (WT wY jb))
  (jc (jk (i:=3) jT.nd rfl (.inl rfl) zL)
  (jc (Jd PassesOwn.never rfl (jS (pv 0)) (q5 rfl (jA (jo (i:=4) jT.nd rfl (.inl rfl)) (jA (jo (i:=5) jT.nd rfl (.inl rfl)) (jA (jo (i:=6) jT.nd rfl (.inl rfl)) (jA (jo (i:=7) jT.nd rfl (.inl rfl)) qo)))))
   (je (jP (PW.pt (yY (jn Jj (pv 4) (pv 1) (nomark _)) (Zd (jn zt (jg jK (pv 5) (pv 6)) (pv 2) (nomark _)))))
    (jc (jk (i:=2) jT.nd rfl (.inl rfl) (jg jK (pv 5) (pv 6)))
    (je (jk (i:=3) jT.nd rfl (.inl rfl) (pv 7))))
    jw)))
  (je (jx (pv 3)))))),?_⟩
 refine jD (σ':=[some _,some _,none,none,none,none,none,none]) rfl ?_;have sz:(1000:Nat)<sizeLine:=by decide
 have alb:=al.1;exists⟨l,rfl,⟨_,SqL.of el⟩,?_⟩;refine qI (xs:=as.map V.ref) (fun i σ H'=>∃(o4 o5 o6 o7:Option V),σ=[some (.ref l),some (.int k),some (.int (lfL k (rs.take i) (-1,none)).1),some (oZ (lfL k (rs.take i) (-1,none)).2),o4,o5,o6,o7]/\H=H') ⟨_,_,_,_,rfl,rfl⟩ ?_ ?_ ?_
 ·rintro i σ H' _ ⟨o4,o5,o6,o7,rfl,rfl⟩;exact SqL.of el
 ·rintro i v σ H1 hv ⟨o4,o5,o6,o7,rfl,rfl⟩;obtain⟨b,r,rfl,hr,eb⟩:=al.at_ref hv;have zr:=zk r (List.mem_of_getElem? hr);have st:lfL k (rs.take (i+1)) (-1,none)=lfS k (lfL k (rs.take i) (-1,none)) r:=by rw[take_snoc hr,ka];rfl
  rw[st];generalize lfL k (rs.take i) (-1,none)=acc;refine wH (SqT.of eb) ?_;exists iteD (fun c=>?_) (fun c=>?_)
  ·exists iteD (fun c'=>?_) (fun c'=>?_)
   ·rw[show lfS k acc r=(r.2.1+r.2.2.1,some r.2.2.2)from if_pos ⟨c,by omega⟩];walk_at"g";exact⟨_,_,_,_,rfl,rfl⟩
   ·rw[show lfS k acc r=acc from if_neg fun z=>c' (by have:=z.2;omega)];walk_at"g";exact⟨_,_,_,_,rfl,rfl⟩
  ·rw[show lfS k acc r=acc from if_neg fun z=>c z.1];refine iteF ?_;walk_at"g";exact⟨_,_,_,_,rfl,rfl⟩
 ·rintro σ H1 ⟨o4,o5,o6,o7,rfl,rfl⟩;rw[length_map,alb,take_length];walk_at"g";exact q
theorem xp(T:Txt K mg t)(zy:FnOk P w K mg base CX0 3 t.zA t.zG ["book"] (sp_ends))(QK:FnOk P w K mg base CX0 4 t.QM t.QP ["book"] (sp_moved))(zz:FnOk P w K mg base CX0 5 t.Qg t.Qh ["book"] (sp_lengths))(Qx:FnOk P w K mg base CX0 4 t.qr t.qv ["_law_script"] (sp_room K))(qY:FnOk P w K mg base CX0 2 t.JG t.JI ["_law_form","_law_rolls","_law_limbs"] (sp_rolledZ))(Qw:FnOk P w K mg base CX0 1 t.qq t.qu ["_law_raises","_law_limb"] (sp_leftZ)):FnOk P w K mg base CX0 6 t.kH t.Yf ["_law_script"] (Pr.sp_law K):=by
 refine T.WM.ok J1 (fun vs H Q E h=>?_) (fun cdv A outer s H vs Q E hr h=>?_)
 ·cases h;subst_vars;rfl
 obtain⟨a,ns,rfl,hS,h63,hB,q⟩:=h;refine⟨_,(jc (jk (i:=1) J1.nd rfl (.inl rfl) (jp (Qx.mono (by decide)) hr (by rfl) T.Yq T.zR.kp T.y9 .nil pass0 (ja (pv 0) jd)))
  (jc (jk (i:=2) J1.nd rfl (.inl rfl) (Jr (ja (jB (jY hr) (pv 1) jv) (ja (jB (jY hr) (pv 1) jv) jd))))
  (jc (yX (i:=3) (ow:=["_law_limb"]) (ci:=[]) rfl (CompScope.of (defScope yl) ["_law_script","_law_room_here","_law_book","_law_limbs","_law_rolls","_law_long","_law_hands","_law_left_here","_law_k","_law_name","_law_form","_law_raises","_law_over","_law_due"] rfl rfl (by decide +kernel)) (Jy (by decide)) J1.nd rfl (.inl rfl) (jS (jB (jY hr) (pv 1) jv)) (fun _ _ _ _ _=>⟨(jo (i:=0) (Jc ["_law_script","_law_room_here","_law_book","_law_limbs","_law_rolls","_law_long","_law_hands","_law_left_here","_law_k","_law_name","_law_form","_law_raises","_law_over","_law_due"] rfl (by decide +kernel)) rfl (.inl rfl)),qy,(ji (yL (K:=K) rfl) (pv 0) jb)⟩))
  (jc (jk (i:=4) J1.nd rfl (.inl rfl) ZE)
  (jc (jk (i:=5) J1.nd rfl (.inl rfl) (jp (zz.mono (by decide)) hr (by rfl) T.Kz T.ZZ.kp T.Kj .nil pass0 (ja (pv 2) jd)))
  (jc (jk (i:=6) J1.nd rfl (.inl rfl) (jp (QK.mono (by decide)) hr (by rfl) T.Ka T.yu.kp T.kG .nil pass0 (ja (pv 2) jd)))
  (jc (jk (i:=7) J1.nd rfl (.inl rfl) (jp (zy.mono (by decide)) hr (by rfl) T.wq T.YW.kp T.KQ .nil pass0 (ja (pv 2) jd)))
  (jc (jP (PW.pt (yk (jn Kd (jt jC (by rfl) T.Jn jW (ja (pv 5) jd)) (jt jC (by rfl) T.Jn jW (ja (ji jr (pv 2) jb) jd)) (nomark _)) (yk (jn Kd (jt jC (by rfl) T.Jn jW (ja (pv 6) jd)) (jt jC (by rfl) T.Jn jW (ja (ji jr (pv 2) jb) jd)) (nomark _)) (ZG (jn Kd (jt jC (by rfl) T.Jn jW (ja (pv 7) jd)) (jt jC (by rfl) T.Jn jW (ja (ji jr (pv 2) jb) jd)) (nomark _))))))
   (je (jx YE))
   jw)
  (jc (Jd PassesOwn.never rfl (JR (by rfl) T.qS (ja (jt jC (by rfl) T.Jn jW (ja (ji jr (pv 2) jb) jd)) jd)) (jo (i:=8) J1.nd rfl (.inl rfl))
   (jc (wC (ji jq (ji jr (pv 2) jb) (pv 8)) (q5 rfl (jA (jo (i:=9) J1.nd rfl (.inl rfl)) (jA (jo (i:=10) J1.nd rfl (.inl rfl)) qo))))
   (jc (yW (jY hr) (pv 4) (pv 9) (jp (qY.mono (by decide)) hr (by rfl) T.ZR T.QZ.kp T.ZO .nil pass0 (ja (pv 10) (ja (pv 4) (ja (pv 3) jd)))) rfl)
   (je (jP (jn Wz (jB (jY hr) (pv 4) (pv 9)) zL (nomark _))
    (jc (wC (jB (jY hr) (pv 4) (pv 9)) (q5 rfl (jA (jo (i:=11) J1.nd rfl (.inr rfl)) (jA (jo (i:=12) J1.nd rfl (.inl rfl)) qo))))
    (jc (jk (i:=13) J1.nd rfl (.inl rfl) (kq rfl (by rfl) T.zf (by rfl) T.xG (JL (ow:=["_law_one"]) (ci:=[]) rfl (CompScope.of (defScope yl) ["_law_script","_law_room_here","_law_book","_law_limbs","_law_rolls","_law_long","_law_hands","_law_left_here","_law_k","_law_name","_law_form","_law_raises","_law_over","_law_due"] rfl rfl (by decide +kernel)) (Jy (by decide)) (jS (pv 11)) (fun _ _ _ _ _=>⟨(jo (i:=0) (Jc ["_law_script","_law_room_here","_law_book","_law_limbs","_law_rolls","_law_long","_law_hands","_law_left_here","_law_k","_law_name","_law_form","_law_raises","_law_over","_law_due"] rfl (by decide +kernel)) rfl (.inl rfl)),qy,(ji (yL (K:=K) rfl) (pv 0) jb)⟩))))
    (jc (jP (PW.pt (yk (jn Kd (ji jq (pv 5) (pv 8)) (pv 12) (nomark _)) (ZG (jn (ko hr.units) (ji jq (pv 6) (pv 8)) (pv 13) (nomark _)))))
     (je (jx YE))
     jw)
    (je (jP (jn (ko hr.units) (ji jq (pv 7) (pv 8)) (JL (ow:=["_law_limb"]) (ci:=[11]) rfl (CompScope.of (defScope yl) ["_law_script","_law_room_here","_law_book","_law_limbs","_law_rolls","_law_long","_law_hands","_law_left_here","_law_k","_law_name","_law_form","_law_raises","_law_over","_law_due"] rfl rfl (by decide +kernel)) (Jy (by decide)) (jS (pv 13)) (fun _ _ _ _ _=>⟨(jo (i:=0) (Jc ["_law_script","_law_room_here","_law_book","_law_limbs","_law_rolls","_law_long","_law_hands","_law_left_here","_law_k","_law_name","_law_form","_law_raises","_law_over","_law_due"] rfl (by decide +kernel)) rfl (.inl rfl)),qy,(Jr (ja (pv 0) (ja (jp (Qw.mono (by decide)) hr (by rfl) T.Yp T.zQ.kp T.y8 .nil pass0 (ja (pv 1) (ja (pv 0) jd))) jd)))⟩)) (nomark _))
     (je (jx YE))
     jw)))))
    jw)))))
  (je (jx YE))))))))))),?_⟩
 refine jD (σ':=[some _,none,none,none,none,none,none,none,none,none,none,none,none,none]) rfl ?_;have sz:(1000:Nat)<sizeLine:=by decide
 exists⟨a,ns,rfl,hS,h63,fun z m H1 s1 R G m1 m61 npl npp=>?_⟩;obtain⟨ls,el,al⟩:=R.l;obtain⟨qs,eq,aq⟩:=R.p;have gl:=G.gl;have W:=G.wf m61;have alb:=al.1;have aqb:=aq.1;have l8:=G.l8;exists⟨_,_,rfl,QQ R,?_⟩;exists⟨_,_,rfl,Ji R,?_⟩;exists⟨(by show 2<=sizeLine;omega),?_⟩;walk_at"f 2 t";have B:BookAt H2 p2 z.pl z.pp ls qs m.limbs m.parts:=⟨t2,s2 _ _ el,al.mono fun b x h=>s2 _ _ h,s2 _ _ eq,aq.mono fun b x h=>PartAt.same s2 h⟩
 have R2:=R.keeps s2;exists⟨_,_,rfl,QQ R2,?_⟩;refine⟨z.pl,rfl,⟨_,SqL.of B.l⟩,?_⟩;refine jQ (xs:=ls.map V.ref) (fun i ys H'=>ys=((nmsOf m.limbs).take i).map V.str/\H2=H') ⟨rfl,rfl⟩ ?_ ?_ ?_
 ·rintro i ys H' _ ⟨rfl,rfl⟩;exact SqL.of B.l
 ·rintro i v ys H' hv ⟨rfl,rfl⟩;obtain⟨b,p,rfl,hp,eb⟩:=B.la.at_ref hv;have hi:=(List.getElem?_eq_some_iff.mp hp).1;refine JO (σ':=[none]) rfl ?_;exists iteT ?_;exists ixTm (SqT.of eb) rfl ?_;refine⟨by rw[length_map,length_take,nmsOf,length_map];omega,?_,rfl⟩;rw[take_snoc (show(nmsOf m.limbs)[i]?=some p.1 by unfold nmsOf;rw[List.getElem?_map,hp];rfl),map_append];rfl
 rintro ys H' ⟨rfl,rfl⟩;have nml:(nmsOf m.limbs).length=ls.length:=by rw[nmsOf,length_map];omega
 rw[show(ls.map V.ref).length=(nmsOf m.limbs).length by rw[length_map];omega,take_length];refine⟨by rw[length_map];omega,?_⟩;walk_at"f ll hll H3 s3 t3";walk_at"g";walk_at"f d hd H4 s4 t4";have s24:=s3.trans s4;exists⟨p2,z.pl,z.pp,ls,qs,_,_,_,_,rfl,B.same s24,G.snd m61,fun lg H5 s5 hl5 e5=>?_⟩;have s25:=s24.trans s5;exists⟨p2,z.pl,z.pp,ls,qs,m.limbs,m.parts,rfl,B.same s25,W,fun lm ams M H6 s6 hl6 e6 na6 lM aM oM=>?_⟩;have s26:=s25.trans s6;exists⟨p2,z.pl,z.pp,ls,qs,m.limbs,m.parts,rfl,B.same s26,W,fun le aes E H7 s7 hl7 e7 na7 lE aE oE=>?_⟩;have s27:=s26.trans s7;have B7:=B.same s27;have e57:=s7 _ _ (s6 _ _ e5);have e67:=s7 _ _ e6;have aM7:ListsAt H7 ams M:=All2.mono aM fun c x h=>s7 _ _ h
 have t37:=s7 _ _ (s6 _ _ (s5 _ _ (s4 _ _ t3)));have t47:=s7 _ _ (s6 _ _ (s5 _ _ t4));have aMl:=aM.1;have aEl:=aE.1;have ix:∀{u:V},(u=V.ref z.pp)->atI [V.ref z.pl,V.ref z.pp] 1=some u:=fun h=>by rw[h];rfl
 exists⟨_,_,rfl,.inl ⟨_,SqL.of e57,rfl⟩,?_⟩;exists ixTm (SqT.of B7.t) rfl ?_;exists⟨_,_,rfl,.inl ⟨_,SqL.of B7.p,rfl⟩,?_⟩;rw[length_map,length_map];exists iteN (fun c=>absurd (by omega) c) (fun _=>?_);exists⟨_,_,rfl,.inl ⟨_,SqL.of e67,rfl⟩,?_⟩;exists ixTm (SqT.of B7.t) rfl ?_;exists⟨_,_,rfl,.inl ⟨_,SqL.of B7.p,rfl⟩,?_⟩;rw[length_map,length_map];exists iteN (fun c=>absurd (by omega) c) (fun _=>?_);exists⟨_,_,rfl,.inl ⟨_,SqL.of e7,rfl⟩,?_⟩;exists ixTm (SqT.of B7.t) rfl ?_;exists⟨_,_,rfl,.inl ⟨_,SqL.of B7.p,rfl⟩,?_⟩;rw[length_map,length_map];exists iteN (fun c=>absurd (by omega) c) (fun _=>?_);exists ixTm (SqT.of B7.t) rfl ?_;exists⟨_,_,rfl,.inl ⟨_,SqL.of B7.p,rfl⟩,?_⟩;rw[length_map];exists⟨_,rfl,by omega,by omega,?_⟩;rw[Int.toNat_natCast];have np:∀{c:Addr} {u:HO},H7 c=some u->(∀kvs,u≠.dK kvs)->c≠d:=fun h n z=>by rw[z,t47]at h;exact n _ (Option.some.inj h).symm
 refine JQ (fun i σ H'=>∃(o8 o9 o10 o11 o12 o13:Option V) (ws:List V),σ=[some (.ref a),some (.ref z.r),some (.ref p2),some (.ref ll),some (.ref d),some (.ref lg),some (.ref lm),some (.ref le),o8,o9,o10,o11,o12,o13]/\(∀c u,c≠d->H7 c=some u->H' c=some u)/\H' d=some (.dK (rolK m ws))/\ws.length=i/\RoldAt m E H' ws) ⟨_,_,_,_,_,_,[],rfl,fun c u _ h=>h,t47,rfl,fun j v h=>by simp at h⟩ ?_ ?_
 ·rintro i σ H8 hi ⟨o8,o9,o10,o11,o12,o13,ws,rfl,k8,ed,wl,rld⟩;obtain⟨p,hp⟩:∃p,m.parts[i]?=some p:=⟨_,List.getElem?_eq_getElem (by omega)⟩
  obtain⟨qa,hq⟩:∃qa,qs[i]?=some qa:=⟨_,List.getElem?_eq_getElem (by omega)⟩
  obtain⟨fb,eq7,hf7⟩:=B7.pa.2 i qa p hq hp;have k8t:∀c xs,H7 c=some (.tup xs)->H8 c=some (.tup xs):=fun c xs h=>k8 _ _ (np h fun _ z=>by cases z) h
  have k8l:∀c xs,H7 c=some (.lst xs)->H8 c=some (.lst xs):=fun c xs h=>k8 _ _ (np h fun _ z=>by cases z) h
  have hf8:=FormAt.keepZ k8t hf7;have en:p.1=m.nm i:=(G.ps i p hp).1;rw[Int.zero_add];exists ixTm (SqT.of (k8t _ _ B7.t)) rfl ?_;exists ixLm (SqL.of (k8l _ _ B7.p)) (qh (by rw[List.getElem?_map,hq];rfl)) ?_;refine QE (SqT.of (k8t _ _ eq7)) ?_;exists⟨fb,d,ll,m,E,i,p.1,p.2,ws,rfl,hf8,hp,G,m61,oE,lE,ed,wl,rld,k8l _ _ t37,fun v H9 s9 rv=>?_⟩;exists⟨d,_,rfl,DPut.k (k:=Sum.inr p.1) (s9 _ _ ed) (by rw[qN];omega),?_⟩;have k10:∀c u,c≠d->H9 c=some u->upd H9 d (.dK (putK (rolK m ws) (Sum.inr p.1) v)) c=some u:=fun c u n h=>(jm n).trans h
  have e10:upd H9 d (.dK (putK (rolK m ws) (Sum.inr p.1) v)) d=some (.dK (rolK m (ws++[v]))):=by rw[jh,en,<-wl,wJ G (by omega)]
  have u10:∀c u,(∀kvs,u≠.dK kvs)->H9 c=some u->upd H9 d (.dK (putK (rolK m ws) (Sum.inr p.1) v)) c=some u:=fun c u n h=>k10 _ _ (fun z=>by rw[z,s9 _ _ ed]at h;exact n _ (Option.some.inj h).symm) h
  generalize upd H9 d _=H10 at k10 e10 u10|-;have kk:∀c u,c≠d->H7 c=some u->H10 c=some u:=fun c u n h=>k10 _ _ n (s9 _ _ (k8 _ _ n h))
  have kt:∀c xs,H7 c=some (.tup xs)->H10 c=some (.tup xs):=fun c xs h=>kk _ _ (np h fun _ z=>by cases z) h
  have kl:∀c xs,H7 c=some (.lst xs)->H10 c=some (.lst xs):=fun c xs h=>kk _ _ (np h fun _ z=>by cases z) h
  have t9:∀c xs,H9 c=some (.tup xs)->H10 c=some (.tup xs):=fun c xs h=>u10 _ _ (fun _ z=>by cases z) h
  have l9:∀c xs,H9 c=some (.lst xs)->H10 c=some (.lst xs):=fun c xs h=>u10 _ _ (fun _ z=>by cases z) h
  have rv10:=rv.keep t9 l9;have rld10:RoldAt m E H10 (ws++[v]):=fun j w hw=>by
   rcases Nat.lt_or_ge j ws.length with c | c
   ·rw[List.getElem?_append_left c]at hw;exact((rld j w hw).same s9).keep t9 l9
   ·have hj:=(List.getElem?_eq_some_iff.mp hw).1;rw[List.length_append,List.length_singleton]at hj;have ej:j=ws.length:=by omega
    subst ej;rw[List.getElem?_append_right (Nat.le_refl _),Nat.sub_self]at hw;cases hw;rw[wl];exact rv10
  have wl10:(ws++[v]).length=i+1:=by rw[List.length_append,wl];rfl
  have g10:DGet H10 d (.str p.1) (some v):=by
   have g:=DGet.k (k:=Sum.inr p.1) e10;rw[en,YG G (by omega) (show(ws++[v])[i]?=some v by rw[List.getElem?_append_right (by omega),<-wl,Nat.sub_self];rfl),<-en]at g;exact g
  exists⟨d,_,rfl,g10,?_⟩;rcases rv10 with rfl | ⟨rs,o,va,vl,rfl,ev,⟨as,ea,aa⟩,Rz⟩
  ·refine⟨rfl,?_⟩;refine⟨_,rfl,?_⟩;refine iteF ?_;walk_at"g";exact⟨_,_,_,_,_,_,ws++[.non],rfl,kk,e10,wl10,rld10⟩
  ·refine⟨rfl,?_⟩;refine⟨_,rfl,?_⟩;refine iteT ?_;have aab:=aa.1;have rl:=Rz.len;have eo:=Rz.e;have og:=Zv G (j:=i) (by omega);have eE:=xL lE (i:=i) (by omega);have e8:=Zr W (by omega) oE eE;have uE:=(oE i p _ hp eE).1;exists⟨d,_,rfl,g10,?_⟩;refine QE (SqT.of ev) ?_;exists xU ?_;exists⟨vl,rfl,⟨_,SqL.of ea⟩,?_⟩;refine jQ (xs:=as.map V.ref) (fun t ys H'=>ys=((rs.take t).map (·.1)).map V.int/\H10=H') ⟨rfl,rfl⟩ ?_ ?_ ?_
   ·rintro t ys H' _ ⟨rfl,rfl⟩;exact SqL.of ea
   ·rintro t v ys H' hv ⟨rfl,rfl⟩;obtain⟨b,r,rfl,hr,eb⟩:=aa.at_ref hv;have ht:=(List.getElem?_eq_some_iff.mp hr).1;refine JO (σ':=[none]) rfl ?_;exists iteT ?_;exists ixTm (SqT.of eb) rfl ?_;refine⟨by rw[length_map,length_map,length_take];omega,?_,rfl⟩;rw[take_snoc hr,map_append,map_append];rfl
   rintro ys H' ⟨rfl,rfl⟩;rw[show(as.map V.ref).length=rs.length by rw[length_map];omega,take_length];refine⟨by rw[length_map,length_map];omega,?_⟩;walk_at"f 11 t";have mem:∀x,x∈rs.map (·.1)↔x∈(E.getD i []).map (·.1):=fun x=>by
    rw[QS];constructor
    ·intro h;obtain⟨r,hr,rfl⟩:=mem_map.mp h;obtain⟨v,hv⟩:=(QR Rz.ok).mpr ⟨r,hr,rfl⟩;exact⟨v,(Rz.lf _ _).mp hv⟩
    ·rintro⟨v,hv⟩;obtain⟨r,hr,rfl⟩:=(QR Rz.ok).mp ⟨v,(Rz.lf _ _).mpr hv⟩;exact mem_map.mpr ⟨r,hr,rfl⟩
   refine⟨p11,rs.map (·.1),(E.getD i []).map (·.1),rfl,SqL.of t11,by rw[length_map];omega,fun x hx=>(mem x).mp hx,?_⟩;intro l12 ms hl12 up mm;have ems:ms=(E.getD i []).map (·.1):=kD up uE fun x=>(mm x).trans (mem x)
   have s12:Same H11 (upd H11 l12 (.lst (ms.map V.int))):=Kg hl12 rfl;have t12:upd H11 l12 (.lst (ms.map V.int)) l12=some (.lst (ms.map V.int)):=jh;generalize upd H11 l12 _=H12 at s12 t12|-;have s1012:=s11.trans s12;have kl12:∀c xs,H7 c=some (.lst xs)->H12 c=some (.lst xs):=fun c xs h=>s1012 _ _ (kl _ _ h)
   have kt12:∀c xs,H7 c=some (.tup xs)->H12 c=some (.tup xs):=fun c xs h=>s1012 _ _ (kt _ _ h)
   obtain⟨am,ham⟩:∃am,ams[i]?=some am:=⟨_,List.getElem?_eq_getElem (by omega)⟩
   have eM:M[i]?=some (M.getD i []):=by rw[getD_eq_getElem?_getD,List.getElem?_eq_getElem (by omega)];rfl
   have am7:=aM7.2 i am _ ham eM;have eMi:M.getD i []=(E.getD i []).map (·.1):=by
    have a1:=zq G W lM oM i (by omega);have a2:=zq G W (M:=E.map fun e=>e.map (·.1)) (by rw[length_map,lE]) (kf lE oE) i (by omega);rw[getD_map]at a2;rw[a1,a2]
   rw[eMi,<-ems]at am7;obtain⟨ae,hae⟩:∃ae,aes[i]?=some ae:=⟨_,List.getElem?_eq_getElem (by omega)⟩
   obtain⟨bs7,eb7,pr7⟩:=aE.2 i ae _ hae eE;exists ixLm (SqL.of (kl12 _ _ e57)) (qh (show(m.longs.map V.int)[i]?=some (.int (m.lg i)) by rw[List.getElem?_map,List.getElem?_eq_getElem (by omega)];unfold Rr.lg;rw[getD_eq_getElem?_getD,List.getElem?_eq_getElem (by omega)];rfl)) ?_;exists iteN (fun c=>absurd (by omega) c) (fun _=>?_);exists ixLm (SqL.of (kl12 _ _ e67)) (qh (show(ams.map V.ref)[i]?=some (.ref am) by rw[List.getElem?_map,ham];rfl)) ?_;exists⟨_,_,.lst (kl12 _ _ am7) (Zp _),.lst t12 (Zp _),wN ms,wN ms,?_⟩;rw[W6];refine⟨_,rfl,?_⟩;refine iteF ?_;exists ixLm (SqL.of (kl12 _ _ e7)) (qh (show(aes.map V.ref)[i]?=some (.ref ae) by rw[List.getElem?_map,hae];rfl)) ?_;exists⟨l12,rfl,⟨_,SqL.of t12⟩,?_⟩;refine jQ (xs:=ms.map V.int) (fun t ys H'=>∃bs:List Addr,ys=bs.map V.ref/\bs.length=t/\Same H12 H'/\PrsAt H' bs ((E.getD i []).take t)) ⟨[],rfl,rfl,Same.refl _,.nil⟩ ?_ ?_ ?_
   ·rintro t ys H' _ ⟨bs,rfl,bl,sm,al'⟩;exact SqL.of (sm _ _ t12)
   ·rintro t v ys H13 hv ⟨bs,rfl,bl,sm,al'⟩;rw[ems,List.map_map,List.getElem?_map]at hv;obtain⟨e,he,rfl⟩:=Option.map_eq_some_iff.mp hv;have ht:=(List.getElem?_eq_some_iff.mp he).1;have lv:leftZ rs e.1=some e.2:=(Rz.lf e.1 e.2).mpr (List.mem_of_getElem? he);refine JO (σ':=[none,some (.ref vl)]) rfl ?_;exists iteT ?_;exists⟨vl,rs,e.1,o,rfl,⟨as,sm _ _ (s1012 _ _ ea),All2.mono aa fun c x h=>sm _ _ (s1012 _ _ h)⟩,rl,Rz.ok,by omega,?_⟩;rw[lv];exists⟨(by show 2<=sizeLine;omega),?_⟩;walk_at"f 14 t";refine⟨by rw[length_map];omega,bs++[p14],by rw[map_append];rfl,by rw[List.length_append,bl];rfl,sm.trans s14,?_⟩;rw[take_snoc he];exact All2.snoc (All2.mono al' fun c x h=>s14 _ _ h) t14
   rintro ys H13 ⟨bs,rfl,bl,sm,al'⟩;rw[show(ms.map V.int).length=(E.getD i []).length by rw[length_map,ems,length_map]]at bl al';rw[take_length]at al';refine⟨by rw[length_map];omega,?_⟩;walk_at"f 14 t";have s1214:=sm.trans s14;refine⟨_,_,.lst (s1214 _ _ (kl12 _ _ eb7)) (yE (All2.mono pr7 fun c x h=>s1214 _ _ (kt12 _ _ h))),.lst t14 (yE (All2.mono al' fun c x h=>s14 _ _ h)),wO _,wO _,?_⟩;rw[W7];refine⟨_,rfl,?_⟩;refine iteF ?_;walk_at"g";have s1014:=s1012.trans s1214;exact⟨_,_,_,_,_,_,ws++[.ref va],rfl,fun c u n h=>s1014 _ _ (kk c u n h),s1014 _ _ e10,wl10,fun j w hw=>(rld10 j w hw).same s1014⟩
 ·rintro σ H8 ⟨o8,o9,o10,o11,o12,o13,ws,rfl,k8,ed,wl,rld⟩;walk_at"g";exact q _
theorem w6(T:Txt K mg t):FnOk P w K mg base CX0 6 t.kH t.Yf ["_law_script"] (Pr.sp_law K):=by
 have Jt:FnOk P w K mg base CX0 1 t.Jv t.Jx _ _:=ZW T;have Q1:FnOk P w K mg base CX0 1 t.qF t.qG _ _:=YC T;have QJ:FnOk P w K mg base CX0 2 t.QL t.QO _ _:=wx T Jt Q1;have zy:FnOk P w K mg base CX0 3 t.zA t.zG _ _:=Wx T Jt QJ;have QK:FnOk P w K mg base CX0 4 t.QM t.QP _ _:=wy T zy;have Qq:FnOk P w K mg base CX0 1 t.JV t.JY _ _:=ZV T;have Qy:FnOk P w K mg base CX0 1 t.qt t.qw _ _:=yS T;have zz:FnOk P w K mg base CX0 5 t.Qg t.Qh _ _:=kj T QJ QK Qq Qy;have Jk:FnOk P w K mg base CX0 1 t.Jl t.Jo _ _:=zW T;have jJ:FnOk P w K mg base CX0 1 t.j7 t.Ja _ _:=ZC T;have j5:FnOk P w K mg base CX0 1 t.Jf t.Jh _ _:=ZB T;have Qp:FnOk P w K mg base CX0 2 t.JU t.JX _ _:=ZT T j5;have jI:FnOk P w K mg base CX0 1 t.j6 t.j9 _ _:=Zy T;have jZ:FnOk P w K mg base CX0 1 t.J3 t.qb _ _:=YB T;have j4:FnOk P w K mg base CX0 2 t.Je t.Jg _ _:=ZA T jJ jI jZ;have Js:FnOk P w K mg base CX0 1 t.Ju t.Jw _ _:=ZU T;have Qo:FnOk P w K mg base CX0 2 t.JT t.JW _ _:=ZS T Js;have qX:FnOk P w K mg base CX0 3 t.JF t.JH _ _:=Zx T jJ jI jZ j4 Js Qo;have Qx:FnOk P w K mg base CX0 4 t.qr t.qv _ _:=yR T Jk jJ j5 Qp jI j4 qX;have qE:FnOk P w K mg base CX0 1 t.Jm t.Jp _ _:=zX T;have qY:FnOk P w K mg base CX0 2 t.JG t.JI _ _:=Zz T qE;have Qw:FnOk P w K mg base CX0 1 t.qq t.qu _ _:=yQ T;exact xp T zy QK zz Qx qY Qw
end
@[elab_as_elim] theorem uu1{P:List Value->Prop}(us:List Value)(hl:us.length=1)(h:∀a0,P [a0]):P us:=match us,hl with | [a0],_=>h a0
theorem bb1{K:Frg}{x q:Str}{st:Stmt}{f:Addr}{fd:FuncData}{x0:Str}(F:Fun K x q st f fd)(h:∀(kV doc pm:Value) (an:Option Addr) (cdv ct:Value) (a0:Value),bindArgs (W.fnOf x q (defArgs st) (defBody st) (defScope st) .none kV doc pm an cdv ct) ⟨[a0],[]⟩=pure ([x0].zip [a0])):Binds K fd [x0] []:=F.binds fun a b c d e g us hl=>uu1 us hl (h a b c d e g)
@[elab_as_elim] theorem uu2{P:List Value->Prop}(us:List Value)(hl:us.length=2)(h:∀a0 a1,P [a0,a1]):P us:=match us,hl with | [a0,a1],_=>h a0 a1
theorem bb2{K:Frg}{x q:Str}{st:Stmt}{f:Addr}{fd:FuncData}{x0 x1:Str}(F:Fun K x q st f fd)(h:∀(kV doc pm:Value) (an:Option Addr) (cdv ct:Value) (a0 a1:Value),bindArgs (W.fnOf x q (defArgs st) (defBody st) (defScope st) .none kV doc pm an cdv ct) ⟨[a0,a1],[]⟩=pure ([x0,x1].zip [a0,a1])):Binds K fd [x0,x1] []:=F.binds fun a b c d e g us hl=>uu2 us hl (h a b c d e g)
@[elab_as_elim] theorem uu3{P:List Value->Prop}(us:List Value)(hl:us.length=3)(h:∀a0 a1 a2,P [a0,a1,a2]):P us:=match us,hl with | [a0,a1,a2],_=>h a0 a1 a2
theorem bb3{K:Frg}{x q:Str}{st:Stmt}{f:Addr}{fd:FuncData}{x0 x1 x2:Str}(F:Fun K x q st f fd)(h:∀(kV doc pm:Value) (an:Option Addr) (cdv ct:Value) (a0 a1 a2:Value),bindArgs (W.fnOf x q (defArgs st) (defBody st) (defScope st) .none kV doc pm an cdv ct) ⟨[a0,a1,a2],[]⟩=pure ([x0,x1,x2].zip [a0,a1,a2])):Binds K fd [x0,x1,x2] []:=F.binds fun a b c d e g us hl=>uu3 us hl (h a b c d e g)
@[elab_as_elim] theorem uu4{P:List Value->Prop}(us:List Value)(hl:us.length=4)(h:∀a0 a1 a2 a3,P [a0,a1,a2,a3]):P us:=match us,hl with | [a0,a1,a2,a3],_=>h a0 a1 a2 a3
theorem bb4{K:Frg}{x q:Str}{st:Stmt}{f:Addr}{fd:FuncData}{x0 x1 x2 x3:Str}(F:Fun K x q st f fd)(h:∀(kV doc pm:Value) (an:Option Addr) (cdv ct:Value) (a0 a1 a2 a3:Value),bindArgs (W.fnOf x q (defArgs st) (defBody st) (defScope st) .none kV doc pm an cdv ct) ⟨[a0,a1,a2,a3],[]⟩=pure ([x0,x1,x2,x3].zip [a0,a1,a2,a3])):Binds K fd [x0,x1,x2,x3] []:=F.binds fun a b c d e g us hl=>uu4 us hl (h a b c d e g)
theorem xE{K:Frg}{h:Heap}{mg:Str->Option Value}(X:K.In h)(G:h.Ns mainGlobals mg)
  {f1:Addr} {d1:FuncData}
  (a1:W.nsIn K mainGlobals "numbers_of"= some (some (.ref f1))) (F1:Fun K "numbers_of" "numbers_of" Qu f1 d1)
  {f2:Addr} {d2:FuncData}
  (a2:W.nsIn K mainGlobals "names_in"= some (some (.ref f2))) (F2:Fun K "names_in" "names_in" Q8 f2 d2)
  {f3:Addr} {d3:FuncData}
  (a3:W.nsIn K mainGlobals "inner"= some (some (.ref f3))) (F3:Fun K "inner" "inner" Zg f3 d3)
  {f4:Addr} {d4:FuncData}
  (a4:W.nsIn K mainGlobals "ends"= some (some (.ref f4))) (F4:Fun K "ends" "ends" kw f4 d4)
  {f5:Addr} {d5:FuncData}
  (a5:W.nsIn K mainGlobals "moved"= some (some (.ref f5))) (F5:Fun K "moved" "moved" Zh f5 d5)
  {f6:Addr} {d6:FuncData}
  (a6:W.nsIn K mainGlobals "check_side"= some (some (.ref f6))) (F6:Fun K "check_side" "check_side" qC f6 d6)
  {f7:Addr} {d7:FuncData}
  (a7:W.nsIn K mainGlobals "length_of"= some (some (.ref f7))) (F7:Fun K "length_of" "length_of" QH f7 d7)
  {f8:Addr} {d8:FuncData}
  (a8:W.nsIn K mainGlobals "lengths"= some (some (.ref f8))) (F8:Fun K "lengths" "lengths" Ql f8 d8)
  {f9:Addr} {d9:FuncData}
  (a9:W.nsIn K mainGlobals "_law_cell_at"= some (some (.ref f9))) (F9:Fun K "_law_cell_at" "_law_cell_at" qO f9 d9)
  {f10:Addr} {d10:FuncData}
  (a10:W.nsIn K mainGlobals "_law_window"= some (some (.ref f10))) (F10:Fun K "_law_window" "_law_window" Qe f10 d10)
  {f11:Addr} {d11:FuncData}
  (a11:W.nsIn K mainGlobals "_law_stream"= some (some (.ref f11))) (F11:Fun K "_law_stream" "_law_stream" Qd f11 d11)
  {f12:Addr} {d12:FuncData}
  (a12:W.nsIn K mainGlobals "_law_names"= some (some (.ref f12))) (F12:Fun K "_law_names" "_law_names" qB f12 d12)
  {f13:Addr} {d13:FuncData}
  (a13:W.nsIn K mainGlobals "_law_number"= some (some (.ref f13))) (F13:Fun K "_law_number" "_law_number" Qa f13 d13)
  {f14:Addr} {d14:FuncData}
  (a14:W.nsIn K mainGlobals "_law_add"= some (some (.ref f14))) (F14:Fun K "_law_add" "_law_add" Q7 f14 d14)
  {f15:Addr} {d15:FuncData}
  (a15:W.nsIn K mainGlobals "_law_simple"= some (some (.ref f15))) (F15:Fun K "_law_simple" "_law_simple" Qc f15 d15)
  {f16:Addr} {d16:FuncData}
  (a16:W.nsIn K mainGlobals "_law_there"= some (some (.ref f16))) (F16:Fun K "_law_there" "_law_there" Qt f16 d16)
  {f17:Addr} {d17:FuncData}
  (a17:W.nsIn K mainGlobals "_law_apart"= some (some (.ref f17))) (F17:Fun K "_law_apart" "_law_apart" qA f17 d17)
  {f18:Addr} {d18:FuncData}
  (a18:W.nsIn K mainGlobals "_law_naming"= some (some (.ref f18))) (F18:Fun K "_law_naming" "_law_naming" Jb f18 d18)
  {f19:Addr} {d19:FuncData}
  (a19:W.nsIn K mainGlobals "_law_room"= some (some (.ref f19))) (F19:Fun K "_law_room" "_law_room" QG f19 d19)
  {f20:Addr} {d20:FuncData}
  (a20:W.nsIn K mainGlobals "_law_shifted"= some (some (.ref f20))) (F20:Fun K "_law_shifted" "_law_shifted" JZ f20 d20)
  {f21:Addr} {d21:FuncData}
  (a21:W.nsIn K mainGlobals "_law_rolled"= some (some (.ref f21))) (F21:Fun K "_law_rolled" "_law_rolled" Qb f21 d21)
  {f22:Addr} {d22:FuncData}
  (a22:W.nsIn K mainGlobals "_law_left"= some (some (.ref f22))) (F22:Fun K "_law_left" "_law_left" QF f22 d22)
  {f23:Addr} {d23:FuncData}
  (a23:W.nsIn K mainGlobals "law"= some (some (.ref f23))) (F23:Fun K "law" "law" yl f23 d23)
  {JB:Addr}
  (g_MOST_NAMES:W.nsIn K mainGlobals "MOST_NAMES"= some (some (.ref JB))) (kk_MOST_NAMES:TabK K JB [("row",.flat (.int 8)),("side",.flat (.int 4))])
  (z0:W.nsIn K mainGlobals "dict"= some none) (z1:W.nsIn K mainGlobals "enumerate"= some none) (z2:W.nsIn K mainGlobals "int"= some none) (z3:W.nsIn K mainGlobals "len"= some none) (z4:W.nsIn K mainGlobals "max"= some none) (z5:W.nsIn K mainGlobals "min"= some none) (z6:W.nsIn K mainGlobals "range"= some none) (z7:W.nsIn K mainGlobals "set"= some none) (z8:W.nsIn K mainGlobals "sorted"= some none) (z9:W.nsIn K mainGlobals "sum"= some none) (z10:W.nsIn K mainGlobals "tuple"= some none) (z11:W.nsIn K mainGlobals "zip"= some none) :
  ∃t:Ad,Txt K mg t:=by
 exact⟨⟨f1,_,f2,_,f3,_,f4,_,f5,_,f6,_,f7,_,f8,_,f9,_,f10,_,f11,_,f12,_,f13,_,f14,_,f15,_,f16,_,f17,_,f18,_,f19,_,f20,_,f21,_,f22,_,f23,_,_⟩,⟨F1,W.mg_of X G a1,bb1 F1 fun _ _ _ _ _ _ _=>rfl,
  F2,W.mg_of X G a2,bb1 F2 fun _ _ _ _ _ _ _=>rfl,
  F3,W.mg_of X G a3,bb1 F3 fun _ _ _ _ _ _ _=>rfl,
  F4,W.mg_of X G a4,bb1 F4 fun _ _ _ _ _ _ _=>rfl,
  F5,W.mg_of X G a5,bb1 F5 fun _ _ _ _ _ _ _=>rfl,
  F6,W.mg_of X G a6,bb3 F6 fun _ _ _ _ _ _ _ _ _=>rfl,
  F7,W.mg_of X G a7,bb2 F7 fun _ _ _ _ _ _ _ _=>rfl,
  F8,W.mg_of X G a8,bb1 F8 fun _ _ _ _ _ _ _=>rfl,
  F9,W.mg_of X G a9,bb2 F9 fun _ _ _ _ _ _ _ _=>rfl,
  F10,W.mg_of X G a10,bb2 F10 fun _ _ _ _ _ _ _ _=>rfl,
  F11,W.mg_of X G a11,bb2 F11 fun _ _ _ _ _ _ _ _=>rfl,
  F12,W.mg_of X G a12,bb2 F12 fun _ _ _ _ _ _ _ _=>rfl,
  F13,W.mg_of X G a13,bb3 F13 fun _ _ _ _ _ _ _ _ _=>rfl,
  F14,W.mg_of X G a14,bb4 F14 fun _ _ _ _ _ _ _ _ _ _=>rfl,
  F15,W.mg_of X G a15,bb3 F15 fun _ _ _ _ _ _ _ _ _=>rfl,
  F16,W.mg_of X G a16,bb2 F16 fun _ _ _ _ _ _ _ _=>rfl,
  F17,W.mg_of X G a17,bb2 F17 fun _ _ _ _ _ _ _ _=>rfl,
  F18,W.mg_of X G a18,bb3 F18 fun _ _ _ _ _ _ _ _ _=>rfl,
  F19,W.mg_of X G a19,bb1 F19 fun _ _ _ _ _ _ _=>rfl,
  F20,W.mg_of X G a20,bb2 F20 fun _ _ _ _ _ _ _ _=>rfl,
  F21,W.mg_of X G a21,bb3 F21 fun _ _ _ _ _ _ _ _ _=>rfl,
  F22,W.mg_of X G a22,bb2 F22 fun _ _ _ _ _ _ _ _=>rfl,
  F23,W.mg_of X G a23,bb1 F23 fun _ _ _ _ _ _ _=>rfl,
  W.mg_none_of X G z0,
  W.mg_none_of X G z1,
  W.mg_none_of X G z2,
  W.mg_none_of X G z3,
  W.mg_none_of X G z4,
  W.mg_none_of X G z5,
  W.mg_none_of X G z6,
  W.mg_none_of X G z7,
  W.mg_none_of X G z8,
  W.mg_none_of X G z9,
  W.mg_none_of X G z10,
  W.mg_none_of X G z11,
  W.mg_of X G g_MOST_NAMES,kk_MOST_NAMES⟩⟩
end K15
open PySem PySem.W PyProof.Rows
set_option maxRecDepth 100000 in
set_option maxHeartbeats 0 in
theorem PySem.Challenge.cw_camplay_k15_whole_unrolled_holds : PySem.Challenge.rw_camplay_k15_whole_unrolled.Holds := by
 w_on;o_law;k_head;(case hw=>w_witness2)
 k_fill
 refine L2.w4 (l:=PySem.Challenge.rw_camplay_k15_whole_unrolled) (n:=63) (k:=6) (x:="_law_script") (CX:=L2.CX0) (sp:=Pr.sp_law) rfl (by decide) rfl ⟨rfl,by decide,by decide⟩ (fun w h Y=>PySem.W.kIn_of Y) ?F (fun K H a ns hl hb hO hS=>⟨a,ns,rfl,hS,hl,hb,fun _=>rfl⟩) (fun _ _ _ _ z=>z)
 case F=>
  intro w mg fa h KX G hmg;have TT:∃t:K15.Ad,K15.Txt (L2.KOf KX) mg t:=by
   dsimp only[L2.KOf];refine' K15.xE KX G ?a1 (L2.jX ?l1 ?c1 ?k1) ?a2 (L2.jX ?l2 ?c2 ?k2) ?a3 (L2.jX ?l3 ?c3 ?k3) ?a4 (L2.jX ?l4 ?c4 ?k4) ?a5 (L2.jX ?l5 ?c5 ?k5) ?a6 (L2.jX ?l6 ?c6 ?k6) ?a7 (L2.jX ?l7 ?c7 ?k7) ?a8 (L2.jX ?l8 ?c8 ?k8) ?a9 (L2.jX ?l9 ?c9 ?k9) ?a10 (L2.jX ?l10 ?c10 ?k10) ?a11 (L2.jX ?l11 ?c11 ?k11) ?a12 (L2.jX ?l12 ?c12 ?k12) ?a13 (L2.jX ?l13 ?c13 ?k13) ?a14 (L2.jX ?l14 ?c14 ?k14) ?a15 (L2.jX ?l15 ?c15 ?k15) ?a16 (L2.jX ?l16 ?c16 ?k16) ?a17 (L2.jX ?l17 ?c17 ?k17) ?a18 (L2.jX ?l18 ?c18 ?k18) ?a19 (L2.jX ?l19 ?c19 ?k19) ?a20 (L2.jX ?l20 ?c20 ?k20) ?a21 (L2.jX ?l21 ?c21 ?k21) ?a22 (L2.jX ?l22 ?c22 ?k22) ?a23 (L2.jX ?l23 ?c23 ?k23) ?g_MOST_NAMES ?kk_MOST_NAMES ?z0 ?z1 ?z2 ?z3 ?z4 ?z5 ?z6 ?z7 ?z8 ?z9 ?z10 ?z11
   (case a1=>k_is);(case l1=>k_is);(case c1=>k_is);(case k1=>k_is)
   (case a2=>k_is);(case l2=>k_is);(case c2=>k_is);(case k2=>k_is)
   (case a3=>k_is);(case l3=>k_is);(case c3=>k_is);(case k3=>k_is)
   (case a4=>k_is);(case l4=>k_is);(case c4=>k_is);(case k4=>k_is)
   (case a5=>k_is);(case l5=>k_is);(case c5=>k_is);(case k5=>k_is)
   (case a6=>k_is);(case l6=>k_is);(case c6=>k_is);(case k6=>k_is)
   (case a7=>k_is);(case l7=>k_is);(case c7=>k_is);(case k7=>k_is)
   (case a8=>k_is);(case l8=>k_is);(case c8=>k_is);(case k8=>k_is)
   (case a9=>k_is);(case l9=>k_is);(case c9=>k_is);(case k9=>k_is)
   (case a10=>k_is);(case l10=>k_is);(case c10=>k_is);(case k10=>k_is)
   (case a11=>k_is);(case l11=>k_is);(case c11=>k_is);(case k11=>k_is)
   (case a12=>k_is);(case l12=>k_is);(case c12=>k_is);(case k12=>k_is)
   (case a13=>k_is);(case l13=>k_is);(case c13=>k_is);(case k13=>k_is)
   (case a14=>k_is);(case l14=>k_is);(case c14=>k_is);(case k14=>k_is)
   (case a15=>k_is);(case l15=>k_is);(case c15=>k_is);(case k15=>k_is)
   (case a16=>k_is);(case l16=>k_is);(case c16=>k_is);(case k16=>k_is)
   (case a17=>k_is);(case l17=>k_is);(case c17=>k_is);(case k17=>k_is)
   (case a18=>k_is);(case l18=>k_is);(case c18=>k_is);(case k18=>k_is)
   (case a19=>k_is);(case l19=>k_is);(case c19=>k_is);(case k19=>k_is)
   (case a20=>k_is);(case l20=>k_is);(case c20=>k_is);(case k20=>k_is)
   (case a21=>k_is);(case l21=>k_is);(case c21=>k_is);(case k21=>k_is)
   (case a22=>k_is);(case l22=>k_is);(case c22=>k_is);(case k22=>k_is)
   (case a23=>k_is);(case l23=>k_is);(case c23=>k_is);(case k23=>k_is)
   (case g_MOST_NAMES=>k_is);(case kk_MOST_NAMES=>(show PyProof.Rows.KTD.tabLook _ _ _ _=true);kernel_rfl)
   (case z0=>k_is)
   (case z1=>k_is)
   (case z2=>k_is)
   (case z3=>k_is)
   (case z4=>k_is)
   (case z5=>k_is)
   (case z6=>k_is)
   (case z7=>k_is)
   (case z8=>k_is)
   (case z9=>k_is)
   (case z10=>k_is)
   (case z11=>k_is)
  obtain⟨t,T⟩:=TT;obtain⟨_,_,kV,dc,pm,an,cd,ct,_,e,_⟩:=T.WM.ex;have e0:=hmg.symm.trans T.xR;cases e0;refine⟨t.Yf,fun s v=>?_,fun base _ _=>K15.w6 T⟩;rw[e];exact .of_eq rfl
#print axioms PySem.Challenge.cw_camplay_k15_whole_unrolled_holds
