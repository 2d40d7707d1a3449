import PyProof.Rows.All
import Wide.All
import OpenK.AllK
import Wide.FinOn
import Lean
import PyProof.EqAt
import PyProof.EqKinds
import PyProof.TupleCall
import PySem.Challenge.RW_camplay_k14_refused_books
set_option Elab.async false
set_option linter.all false
set_option maxRecDepth 100000
set_option maxHeartbeats 4000000
open List (all_cons any_cons any_eq_true any_map append_nil filterMap_cons filter_append filter_cons flatten_cons getD_eq_getElem?_getD getElem_map length_cons length_drop length_filter_le length_map length_nil length_set length_take lookup_cons map_append map_congr_left map_cons map_map map_nil map_take mem_append mem_append_left mem_append_right mem_cons mem_cons_of_mem mem_cons_self mem_filter mem_iff_getElem mem_map mem_of_mem_take mem_range mem_singleton nodup_append nodup_cons not_mem_nil of_mem_zip pairwise_iff_getElem pairwise_map pairwise_singleton range_succ replicate_succ size_toArray sum_cons take_length take_sublist)
abbrev Frg := PySem.W.Frag
namespace L2
open PySem PySem.Spec PyProof.Rows
noncomputable abbrev Key:=Sum Int Str
noncomputable def keyIs:Key->Value->Bool
 | .inl k,v=>Value.isInt k v
 | .inr x,v=>Value.isStrOf x v
noncomputable def keyH(w:World):Key->Int
 | .inl k=>hashInt k
 | .inr x=>hashStr w x
theorem Jv:∀{k:Key} {v:Value},keyIs k v=true->(∃i t,k=Sum.inl i/\v=Value.int i t)\/(∃x t,k=Sum.inr x/\v=Value.str x t)
 | .inl i,v,h=>by
  obtain⟨t,e⟩:=Value.isInt_shape (k:=i) (v:=v) h;exact .inl ⟨i,t,rfl,e⟩
 | .inr x,v,h=>by
  obtain⟨t,e⟩:=Value.isStrOf_shape (x:=x) (v:=v) h;exact .inr ⟨x,t,rfl,e⟩
theorem KB(i:Int)(t:Tok):keyIs (.inl i) (.int i t)=true:=by simp[keyIs,Value.isInt]
theorem XN(x:Str)(t:Tok):keyIs (.inr x) (.str x t)=true:=by simp[keyIs,Value.isStrOf]
theorem j2b(a b:Int):decide ((Sum.inl a:Key)=Sum.inl b)=(a==b):=by
 by_cases e:a=b
 ·subst e;simp
 ·have h:¬(Sum.inl a:Key)=Sum.inl b:=fun q=>e (Sum.inl.inj q)
  rw[decide_eq_false h];exact(beq_eq_false_iff_ne.mpr e).symm
theorem j2e(a b:Str):decide ((Sum.inr a:Key)=Sum.inr b)=decide (a=b):=by
 by_cases e:a=b
 ·subst e;simp
 ·have h:¬(Sum.inr a:Key)=Sum.inr b:=fun q=>e (Sum.inr.inj q)
  rw[decide_eq_false h,decide_eq_false e]
theorem j2c(a:Int)(b:Str):decide ((Sum.inl a:Key)=Sum.inr b)=false:=decide_eq_false (fun q=>nomatch q)
theorem j2d(a:Str)(b:Int):decide ((Sum.inr a:Key)=Sum.inl b)=false:=decide_eq_false (fun q=>nomatch q)
noncomputable def mixKind(prog:Program)(w:World):PySem.KeyKind prog w Key where
 is:=keyIs
 hash:=keyH w
 inj:=fun v a b ha hb=>by
  rcases Jv ha with⟨i,t,rfl,rfl⟩ | ⟨x,t,rfl,rfl⟩
  ·rcases Jv hb with⟨j,u,rfl,e⟩ | ⟨y,u,rfl,e⟩
   ·injection e with e1 _;rw[e1]
   ·exact nomatch e
  ·rcases Jv hb with⟨j,u,rfl,e⟩ | ⟨y,u,rfl,e⟩
   ·exact nomatch e
   ·injection e with e1 _;rw[e1]
 byValue:=fun k v h=>by
  rcases Jv h with⟨i,t,rfl,rfl⟩ | ⟨x,t,rfl,rfl⟩<;>rfl
 pyHash:=fun hv h=>by
  rcases Jv hv with⟨i,t,rfl,rfl⟩ | ⟨x,t,rfl,rfl⟩
  ·exact wpAny_pyHash_int h
  ·exact wpAny_pyHash_str h
 eqBool:=fun hu hv h=>by
  rcases Jv hu with⟨i,t,rfl,rfl⟩ | ⟨x,t,rfl,rfl⟩
  ·rcases Jv hv with⟨j,u,rfl,rfl⟩ | ⟨y,u,rfl,rfl⟩
   ·rw[j2b]at h;exact wpAny_eqBool_int h
   ·rw[j2c]at h;exact SeqAt.EqAt.int_str i t y u _ _ _ _ h
  ·rcases Jv hv with⟨j,u,rfl,rfl⟩ | ⟨y,u,rfl,rfl⟩
   ·rw[j2d]at h;exact SeqAt.EqAt.str_int x t j u _ _ _ _ h
   ·rw[j2e]at h;exact wpAny_eqBool_str h
 «strs»:=fun k x t v h=>by
  rcases Jv h with⟨i,u,rfl,e⟩ | ⟨y,u,rfl,e⟩
  ·exact nomatch e
  ·injection e with e1 _;subst e1;cases v<;>rfl
theorem Wr(prog:Program)(w:World)(i:Int)(t:Tok):(mixKind prog w).is (.inl i) (.int i t)=true:=KB i t
theorem Wt(prog:Program)(w:World)(x:Str)(t:Tok):(mixKind prog w).is (.inr x) (.str x t)=true:=XN x t
inductive V where
 | non | bl (b:Bool) | int (i:Int) | str (x:Str) | byt (b:Array UInt8) | flt (b:UInt64) | ref (a:Addr) | ty (n:String)
 deriving DecidableEq
noncomputable def RelV:V->Value->Prop
 | .non,u=>u=Value.none
 | .bl b,u=>u=Value.bool b
 | .int i,u=>∃t,u=Value.int i t
 | .str x,u=>∃t,u=Value.str x t
 | .byt b,u=>∃t,u=Value.bytes b t
 | .flt b,u=>∃t,u=Value.float b t
 | .ref a,u=>u=Value.ref a
 | .ty n,u=>u=Value.type n
noncomputable abbrev Vals:List V->List Value->Prop:=Paired RelV
theorem Vals.length{xs:List V}{us:List Value}(r:Vals xs us):xs.length=us.length:=Paired.length r
theorem Vals.get:∀{xs:List V} {us:List Value} {i:Nat} {x:V},Vals xs us->xs[i]?=some x->∃u,us[i]?=some u/\RelV x u
 | _,_,_,_,.nil,e=>by simp at e
 | _,_,0,_,.cons r _,e=>by simp at e;subst e;exact⟨_,rfl,r⟩
 | _,_,i+1,x,.cons _ t,e=>by
  obtain⟨u,h1,h2⟩:=Vals.get (i:=i) (x:=x) t (by simpa using e);exact⟨u,by simpa using h1,h2⟩
theorem Vals.set{x:V}{u:Value}(r:RelV x u):∀{xs:List V} {us:List Value} (i:Nat),Vals xs us->Vals (xs.set i x) (us.set i u)
 | _,_,_,.nil=>.nil
 | _,_,0,.cons _ t=>.cons r t
 | _,_,i+1,.cons q t=>.cons q (Vals.set r i t)
theorem Vals.append:∀{xs ys:List V} {us ws:List Value},Vals xs us->Vals ys ws->Vals (xs++ys) (us++ws)
 | _,_,_,_,.nil,s=>s
 | _,_,_,_,.cons r t,s=>.cons r (Vals.append t s)
theorem Vals.take:∀{xs:List V} {us:List Value} (n:Nat),Vals xs us->Vals (xs.take n) (us.take n)
 | _,_,0,_=>.nil
 | _,_,_+1,.nil=>.nil
 | _,_,n+1,.cons r t=>.cons r (Vals.take n t)
theorem Vals.drop:∀{xs:List V} {us:List Value} (n:Nat),Vals xs us->Vals (xs.drop n) (us.drop n)
 | _,_,0,r=>r
 | _,_,_+1,.nil=>.nil
 | _,_,n+1,.cons _ t=>Vals.drop n t
noncomputable def RelO:Option V->Option Value->Prop
 | some v,some u=>RelV v u
 | none,none=>True
 | _,_=>False
noncomputable def KV{κ:Type}:List (κ×V)->List (κ×Value)->Prop:=Paired fun(p:κ×V) (q:κ×Value)=>p.1=q.1/\RelV p.2 q.2
noncomputable def kV:Key->V
 | .inl i=>.int i
 | .inr x=>.str x
inductive HO where
 | lst (xs:List V)
 | tup (xs:List V)
 | dK (kvs:List (Key×V)) | dT (kvs:List (List Key×V))
 | set (S:Int->Bool) (n:Nat)
 | ins (C dx:Addr) (fs:List (Str×V))
 | own (x:Addr)
 | xd (fs:List (Str×V))
 | met (f x:Addr)
 | rng (lo hi:Int)
 | frz (o:Obj) (u:HO)
 | tbl (ps:Array Value)
 | ext (φ:Heap->Prop)
noncomputable abbrev Hp:=Addr->Option HO
noncomputable def upd(H:Hp)(a:Addr)(o:HO):Hp:=fun b=>if b=a then some o else H b
theorem jg{H:Hp}{a:Addr}{o:HO}:upd H a o a=some o:=by unfold upd;rw[if_pos rfl]
theorem jh{H:Hp}{a b:Addr}{o:HO}(h:b≠a):upd H a o b=H b:=by unfold upd;rw[if_neg h]
theorem Zk{H:Hp}{a b:Addr}{o u:HO}(h:H a=some o)(h':H b=some u)(d:o≠u):a≠b:=by
 intro e;subst e;rw[h]at h';exact d (Option.some.inj h')
theorem jf{H:Hp}{a b:Addr}{o:HO}(h:H a=some o)(h':H b=none):a≠b:=by
 intro e;subst e;rw[h]at h';cases h'
section
variable(P:Program)(w:World)
noncomputable def ObjOk(H:Hp)(h:Heap)(a:Addr):HO->Prop
 | .lst xs=>xs.length<=sizeLine/\∃(its:List Value) (n:Nat),Vals xs its/\h.get? a=some {cls:=.type "list",data:=.seq its.toArray n}
 | .tup xs=>xs.length<=sizeLine/\∃its:List Value,Vals xs its/\IsTup h a its.toArray
 | .dK kvs=>kvs.length<=sizeLine/\(a==sysModules)=false/\∃vs,KV kvs vs/\h.DictOf (mixKind P w) a vs
 | .dT kvs=>kvs.length<=sizeLine/\(a==sysModules)=false/\∃xs:List (List Key×Addr×Value),
   Paired (fun(p:List Key×V) (q:List Key×Addr×Value)=>p.1=q.1/\H q.2.1=some (.tup (p.1.map kV))/\RelV p.2 q.2.2) kvs xs/\
   ∃o es ep,h.get? a=some o/\o.ExactDict/\o.data = .dict es ep/\es.toList=xs.map (entryOfKey (tupleKind (mixKind P w)))/\(xs.map (·.1)).Nodup
 | .set S n=>h.SetOf (intKind P w) a S n
 | .ins C dx fs=>H dx=some (.own a)/\fs.length<=1000/\dx≠a/\h.get? a=some (PySem.W.instObj C dx)/\
   ∃mA,h.Ns1 dx mA/\(∀f,RelO (fs.lookup f) (mA f))/\PySem.Within mA (fs.map (·.1))
 | .own _=>∃o,h.get? a=some o
 | .xd fs=>∃mA,h.Ns1 a mA/\∀f,RelO (fs.lookup f) (mA f)
 | .rng lo hi=>∃t u v,h.get? a=some {cls:=.type "range",data:=.fields #[.int lo t,.int hi u,.int 1 v]}
 | .frz o u=>h.get? a=some o/\ObjOk H h a u
 | .tbl ps=>h.get? a=some {cls:=.none,data:=.fields ps}
 | .met f x=>h.get? a=some (PySem.W.methodObj (.ref f) (.ref x))
 | .ext φ=>φ h/\(∃o,h.get? a=some o)/\∀h1 h2:Heap,φ h1->(∀o,h1.get? a=some o->h2.get? a=some o)->φ h2
def HOk(H:Hp)(h:Heap):Prop:=∀a o,H a=some o->ObjOk P w H h a o
end
section
variable{P:Program}{w:World}{H H':Hp}{h h':Heap}{a:Addr}{o:HO}
theorem ObjOk.lt(x:ObjOk P w H h a o):a<h.objs.size:=by
 cases o with
 | lst xs=>obtain⟨_,_,_,_,e⟩:=x;exact Heap.lt_size e
 | tup xs=>obtain⟨_,_,_,p⟩:=x;exact p.lt
 | dK kvs=>obtain⟨_,_,_,_,o,_,_,e,_⟩:=x;exact Heap.lt_size e
 | dT kvs=>obtain⟨_,_,_,_,o,_,_,e,_⟩:=x;exact Heap.lt_size e
 | set S n=>obtain⟨o,_,_,_,e,_⟩:=x;exact Heap.lt_size e
 | ins C dx fs=>obtain⟨_,_,_,e,_⟩:=x;exact Heap.lt_size e
 | own y=>obtain⟨_,e⟩:=x;exact Heap.lt_size e
 | xd fs=>obtain⟨_,⟨_,_,_,e,_⟩,_⟩:=x;exact Heap.lt_size e
 | rng lo hi=>obtain⟨_,_,_,e⟩:=x;exact Heap.lt_size e
 | frz ob u=>obtain⟨e,_⟩:=x;exact Heap.lt_size e
 | tbl ps=>exact Heap.lt_size (show h.get? a=some _ from x)
 | met f y=>exact Heap.lt_size (show h.get? a=some _ from x)
 | ext φ=>obtain⟨_,⟨_,e⟩,_⟩:=x;exact Heap.lt_size e
theorem Paired.mapP{α β:Type}{F G:α->β->Prop}:∀{l₁:List α} {l₂:List β},Paired F l₁ l₂->(∀a b,F a b->G a b)->Paired G l₁ l₂
 | _,_,.nil,_=>.nil
 | _,_,.cons r t,f=>.cons (f _ _ r) (Paired.mapP t f)
theorem ObjOk.stay(x:ObjOk P w H h a o)(k:∀b u,(b=a\/H b=some (.own a))->h.get? b=some u->h'.get? b=some u)
  (ho:∀b,H b=some (.own a)->H' b=some (.own a)) (ht:∀b xs,H b=some (.tup xs)->H' b=some (.tup xs)):ObjOk P w H' h' a o:=by
 induction o with
 | lst xs=>obtain⟨z,its,n,r,e⟩:=x;exact⟨z,its,n,r,k _ _ (.inl rfl) e⟩
 | tup xs=>obtain⟨z,its,r,ob,e,c⟩:=x;exact⟨z,its,r,ob,k _ _ (.inl rfl) e,c⟩
 | dK kvs=>obtain⟨z,y,vs,r,ob,es,ep,e,c⟩:=x;exact⟨z,y,vs,r,ob,es,ep,k _ _ (.inl rfl) e,c⟩
 | dT kvs=>
  obtain⟨z,y,xs,r,ob,es,ep,e,c⟩:=x;exact⟨z,y,xs,Paired.mapP r fun p q z=>⟨z.1,ht _ _ z.2.1,z.2.2⟩,ob,es,ep,k _ _ (.inl rfl) e,c⟩
 | set S n=>obtain⟨ob,es,ep,t,e,c⟩:=x;exact⟨ob,es,ep,t,k _ _ (.inl rfl) e,c⟩
 | ins C dx fs=>
  obtain⟨d,z,ne,e,mA,⟨od,es,ep,e2,c⟩,r⟩:=x;exact⟨ho _ d,z,ne,k _ _ (.inl rfl) e,mA,⟨od,es,ep,k _ _ (.inr d) e2,c⟩,r⟩
 | own y=>obtain⟨ob,e⟩:=x;exact⟨ob,k _ _ (.inl rfl) e⟩
 | xd fs=>obtain⟨mA,⟨od,es,ep,e,c⟩,r⟩:=x;exact⟨mA,⟨od,es,ep,k _ _ (.inl rfl) e,c⟩,r⟩
 | rng lo hi=>obtain⟨t,u,v,e⟩:=x;exact⟨t,u,v,k _ _ (.inl rfl) e⟩
 | frz ob u ih=>obtain⟨e,q⟩:=x;exact⟨k _ _ (.inl rfl) e,ih q⟩
 | tbl ps=>
  have e:h.get? a=some {cls:=.none,data:=.fields ps}:=x;show h'.get? a=some {cls:=.none,data:=.fields ps};exact k a _ (.inl rfl) e
 | met f y=>
  have e:h.get? a=some (PySem.W.methodObj (.ref f) (.ref y)):=x;show h'.get? a=some (PySem.W.methodObj (.ref f) (.ref y));exact k a _ (.inl rfl) e
 | ext φ=>obtain⟨p,⟨o,e⟩,st⟩:=x;exact⟨st _ _ p fun o q=>k _ _ (.inl rfl) q,⟨o,k _ _ (.inl rfl) e⟩,st⟩
theorem HOk.lt(x:HOk P w H h)(e:H a=some o):a<h.objs.size:=(x a o e).lt
theorem HOk.fresh(x:HOk P w H h)(e:h.objs.size<=a):H a=none:=by
 cases q:H a with
 | none=>rfl
 | some u=>exact absurd (Nat.lt_of_lt_of_le (x.lt q) e) (Nat.lt_irrefl _)
theorem HOk.kept(x:HOk P w H h)(k:∀b u,h.get? b=some u->h'.get? b=some u):HOk P w H h':=fun a o e=>
 (x a o e).stay (fun b u _ q=>k b u q) (fun _ q=>q) fun _ _ q=>q
theorem HOk.laid(x:HOk P w H h)(k:∀b u,h.get? b=some u->h'.get? b=some u)(hp:h.objs.size<=a)(new:ObjOk P w (upd H a o) h' a o):HOk P w (upd H a o) h':=fun b u e=>by
 have hn:=x.fresh hp;by_cases hb:b=a
 ·subst hb;rw[jg]at e;cases e;exact new
 ·rw[jh hb]at e;exact(x b u e).stay (fun c v _ q=>k c v q) (fun c q=>by rw[jh (jf q hn)];exact q) fun c xs q=>by rw[jh (jf q hn)];exact q
end
def Rd(H:Hp)(a:Addr)(u:HO):Prop:=H a=some u\/∃o,H a=some (.frz o u)
theorem Rd.ok{P:Program}{w:World}{H:Hp}{h:Heap}{a:Addr}{u:HO}(r:Rd H a u)(x:HOk P w H h):ObjOk P w H h a u:=by
 rcases r with r | ⟨o,r⟩
 ·exact x a u r
 ·obtain⟨_,q⟩:=x a _ r;exact q
noncomputable def Mut:Option HO->Prop
 | some (.lst _)=>True
 | some (.dK _)=>True
 | some (.dT _)=>True
 | some (.set _ _)=>True
 | some (.ins _ _ _)=>True
 | some (.ext _)=>True
 | _=>False
section
variable{P:Program}{w:World}{H:Hp}{h h':Heap}{x e:Addr}{o':HO}
theorem HOk.write(ok:HOk P w H h)(mu:Mut (H x))(he:e=x\/H e=some (.own x))(k:∀b u,b≠e->h.get? b=some u->h'.get? b=some u)(heo:∃u,h'.get? e=some u)
  (new:ObjOk P w (upd H x o') h' x o'):HOk P w (upd H x o') h':=fun b u q=>by
 have nown:∀c y,H c=some (.own y)->c≠x:=fun c y r z=>by subst z;rw[r]at mu;exact mu
 have ntup:∀c xs,H c=some (.tup xs)->c≠x:=fun c xs r z=>by subst z;rw[r]at mu;exact mu
 by_cases hb:b=x
 ·subst hb;rw[jg]at q;cases q;exact new
 ·rw[jh hb]at q;by_cases hbe:b=e
  ·have q':H b=some (.own x):=by
    rcases he with z | z
    ·exact absurd (hbe.trans z) hb
    ·rw[hbe];exact z
   rw[q]at q';cases q';obtain⟨v,hv⟩:=heo;exact⟨v,by rw[hbe];exact hv⟩
  ·refine(ok b u q).stay (fun c v hc r=>k c v ?_ r) (fun c r=>by rw[jh (nown c b r)];exact r) fun c xs r=>by rw[jh (ntup c xs r)];exact r
   rcases hc with rfl | hc
   ·exact hbe
   ·rintro rfl;rcases he with z | z
    ·exact nown c b hc z
    ·rw[hc]at z;cases z;exact hb rfl
end
structure Un(fs ex:List Addr)(H H':Hp)(h h':Heap):Prop where
 keep:∀b o,h.get? b=some o->H b=none->b∉fs->b∉ex->h'.get? b=some o
 slot:∀b o,h.get? b=some o->H b=none->b∈fs->b∉ex->∃sl,h'.get? b=some {o with slots:=sl}
 free:∀b o,h.get? b=some o->H b=none->b∉ex->H' b=none
 there:∀b o,h.get? b=some o->b∉ex->∃o',h'.get? b=some o'
 tups:∀b xs,H b=some (.tup xs)->H' b=some (.tup xs)
 frzs:∀b o u,H b=some (.frz o u)->H' b=some (.frz o u)
 tbls:∀b ps,H b=some (.tbl ps)->∃more,H' b=some (.tbl (ps++more))
section
variable{fs fs' ex ex':List Addr}{H H1 H2:Hp}{h h1 h2 h':Heap}{a x e:Addr}{o:HO}
theorem Un.any(u:Un fs ex H H1 h h1){b:Addr}{ob:Obj}(q:h.get? b=some ob)(n:H b=none)(hx:b∉ex):∃sl,h1.get? b=some {ob with slots:=sl}:=by
 by_cases hb:b∈fs
 ·exact u.slot b ob q n hb hx
 ·exact⟨ob.slots,u.keep b ob q n hb hx⟩
theorem Un.kept(k:∀b u,h.get? b=some u->h'.get? b=some u):Un fs ex H H h h':=
 ⟨fun b ob q _ _ _=>k b ob q,fun b ob q _ _ _=>⟨ob.slots,k b ob q⟩,fun _ _ _ n _=>n,fun b ob q _=>⟨ob,k b ob q⟩,fun _ _ q=>q,fun _ _ _ q=>q,fun _ ps q=>⟨#[],by rw[q];simp⟩⟩
theorem Un.refl:Un fs ex H H h h:=Un.kept fun _ _ q=>q
theorem Un.laid(k:∀b u,h.get? b=some u->h'.get? b=some u)(hp:h.objs.size<=a)(hn:H a=none):Un fs ex H (upd H a o) h h' where
 keep:=fun b u q _ _ _=>k b u q
 slot:=fun b u q _ _ _=>⟨u.slots,k b u q⟩
 free:=fun b u q n _=>by rw[jh (Nat.ne_of_lt (Nat.lt_of_lt_of_le (Heap.lt_size q) hp))];exact n
 there:=fun b u q _=>⟨u,k b u q⟩
 tups:=fun b xs q=>by rw[jh (jf q hn)];exact q
 frzs:=fun b u xs q=>by rw[jh (jf q hn)];exact q
 tbls:=fun b ps q=>⟨#[],by rw[jh (jf q hn),q];simp⟩
theorem Un.write(mu:Mut (H x))(he:e=x\/H e=some (.own x))(k:∀b u,b≠e->h.get? b=some u->h'.get? b=some u)(heo:∃u,h'.get? e=some u):Un fs ex H (upd H x o) h h':=by
 have hx:∀b,H b=none->b≠x:=fun b n z=>by subst z;rw[n]at mu;exact mu
 have hb:∀b,H b=none->b≠e:=fun b n z=>by
  subst z;rcases he with r | r
  ·exact hx b n r
  ·rw[n]at r;cases r
 have hm:∀b u,H b=some u->¬Mut (some u)->b≠x:=fun b u q nm z=>by subst z;rw[q]at mu;exact nm mu
 refine⟨fun b u q n _ _=>k b u (hb b n) q,fun b u q n _ _=>⟨u.slots,k b u (hb b n) q⟩,fun b u q n _=>by rw[jh (hx b n)];exact n,fun b u q _=>?_,
  fun b xs q=>by rw[jh (hm b _ q fun z=>z)];exact q,fun b u xs q=>by rw[jh (hm b _ q fun z=>z)];exact q,fun b ps q=>⟨#[],by rw[jh (hm b _ q fun z=>z),q];simp⟩⟩
 by_cases hbe:b=e
 ·subst hbe;exact heo
 ·exact⟨u,k b u hbe q⟩
end
noncomputable def trk(h:Heap)(H:Hp):List Addr:=(List.range h.objs.size).filter fun a=>(H a).isSome
noncomputable def hidT(h:Heap)(H:Hp):Heap:=PySem.W.hideAll h (trk h H)
theorem XI(h:Heap)(H:Hp):(hidT h H).objs.size=h.objs.size:=PySem.W.hideAll_size _ _
theorem j0m{h:Heap}{H:Hp}{b:Addr}{o:Obj}(e:h.get? b=some o)(n:H b=none):(hidT h H).get? b=some o:=
 PySem.W.hideAll_get _ e fun hm=>by
  have q:(H b).isSome=true:=(mem_filter.mp hm).2;rw[n]at q;simp at q
theorem j1x{h:Heap}{H:Hp}{b:Addr}{o:Obj}(e:(hidT h H).get? b=some o):h.get? b=some o/\H b=none:=by
 have e':h.get? b=some o:=PySem.W.of_hideAll (trk h H) e;refine⟨e',?_⟩;cases q:H b with
 | none=>rfl
 | some x=>
  have hm:b∈trk h H:=mem_filter.mpr ⟨mem_range.mpr (Heap.lt_size e'),by simp[q]⟩;have z:(hidT h H).get? b=none:=PySem.W.hideAll_none (trk h H) hm;rw[z]at e;cases e
structure Mod(K:Frg)(mg:Str->Option Value)(base:Heap):Prop where
 kin:K.In base
 glob:base.Ns mainGlobals mg
 blt:∃mb,base.Ns builtinsNs mb/\∀x:Str,x≠"__name__"->mb x=bootBuiltins x
 nolimit:base.NoLimit
structure Cx where
 prog:Program
 w:World
 K:Frg
 mg:Str->Option Value
 base:Heap
 A:Around
 N:List Str
 s₀:Shared
 H₀:Hp
 env:Env
 outer:List Env
 stack:List Env
 ex:List Addr
 fn:Str->Bool
 calm:Bool
 pn:List (Addr×Obj)
 xe:Value->Shared->Prop
noncomputable def frs(l:List Env):List Addr:=l.filterMap (·.frame)
noncomputable abbrev Cx.fs(X:Cx):List Addr:=frs X.outer
def Vis(sc:Scope)(x:Str):Prop:=sc.names.lookup x=some .local\/sc.names.lookup x=some .cell\/sc.names.lookup x=some .free
def Loc(sc:Scope)(x:Str):Prop:=sc.names.lookup x=some .local\/sc.names.lookup x=some .cell
def Look(env:Env)(h:Heap)(m:Str->Option Value)(x:Str)(u:Value):Prop:=
 (env.kindOf x=some .local/\m x=some u)\/((env.kindOf x=some .cell\/env.kindOf x=some .free)/\∃c,env.cells.lookup x=some c/\h.IsCell c (some u))
structure Cx.Ok(X:Cx):Prop where
 mod:Mod X.K X.mg X.base
 kind:X.env.scope.kind = .function
 glob:X.env.globals=mainGlobals
 blt:X.env.builtins=builtinsNs
 above:X.s₀.heap.objs.size<=X.env.locals
 inj:∀x y c,X.env.cells.lookup x=some c->X.env.cells.lookup y=some c->x=y
 has:∀x,(X.env.kindOf x=some .cell\/X.env.kindOf x=some .free)->∃c,X.env.cells.lookup x=some c
 cab:∀x c,X.fn x=true->X.env.cells.lookup x=some c->X.s₀.heap.objs.size<=c
 hd:X.calm=true->X.A.handled=none
 frames:X.A.frames=some X.stack
 stk:X.stack=X.outer\/(X.stack=X.env::X.outer/\X.env.frame=some X.env.locals)
 exf:∀b∈X.ex,b≠X.env.locals/\∀x c,X.env.cells.lookup x=some c->c≠b
 bs:∀b o,X.base.get? b=some o->X.s₀.heap.get? b=some o/\X.H₀ b=none
 bsz:X.base.objs.size<=X.s₀.heap.objs.size
 noex:∀b o,X.base.get? b=some o->b∉X.ex
 exfs:∀b∈X.ex,b∉X.fs
 funs:X.s₀.heap.FunFrames X.base X.outer
 frf:∀b∈X.fs,X.H₀ b=none
structure Inv(X:Cx)(pins:List (Addr×Obj))(σ:List (Option V))(H:Hp)(s:Shared):Prop where
 ok:X.Ok
 os:s.os=X.s₀.os
 bare:AllBare s.gens
 base:Un X.fs X.ex X.H₀ H X.s₀.heap s.heap
 loc:∃m,s.heap.Ns X.env.locals m/\∀(i:Nat) (x:Str) (v:V),X.N[i]?=some x->σ[i]?=some (some v)->Vis X.env.scope x->∃u,RelV v u/\Look X.env s.heap m x u
 cell:∀x c,X.env.cells.lookup x=some c->∃v,s.heap.IsCell c v
 free:H X.env.locals=none
 freeC:∀x c,X.env.cells.lookup x=some c->H c=none
 pin:∀p∈X.pn++pins,s.heap.get? p.1=some p.2/\H p.1=none/\p.1≠X.env.locals/\p.1∉X.fs/\∀v,p.2.data≠.cell v
 hok:HOk X.prog X.w H s.heap
 len:σ.length=X.N.length
section
variable{X:Cx}{pins:List (Addr×Obj)}{σ:List (Option V)}{H H':Hp}{s:Shared}{h':Heap}
theorem Cx.Ok.nofr(ok:X.Ok){b:Addr}{o:Obj}(e:X.base.get? b=some o):b∉X.fs:=fun hb=>by
 have:=(ok.funs.mem hb).1;rw[e]at this;cases this
theorem Inv.bs(I:Inv X pins σ H s):∀b o,X.base.get? b=some o->s.heap.get? b=some o/\H b=none:=fun b o e=>
 ⟨I.base.keep b o (I.ok.bs b o e).1 (I.ok.bs b o e).2 (I.ok.nofr e) (I.ok.noex b o e),I.base.free b o (I.ok.bs b o e).1 (I.ok.bs b o e).2 (I.ok.noex b o e)⟩
theorem Inv.bk(I:Inv X pins σ H s):∀b o,X.base.get? b=some o->s.heap.get? b=some o:=fun b o e=>(I.bs b o e).1
theorem Inv.mod(I:Inv X pins σ H s):Mod X.K X.mg X.base:=I.ok.mod
theorem Inv.kIn(I:Inv X pins σ H s):X.K.In s.heap:=I.ok.mod.kin.keeps I.bk
theorem Inv.lt(I:Inv X pins σ H s):X.env.locals<s.heap.objs.size:=let ⟨_,hn,_⟩:=I.loc;hn.lt
theorem Inv.sz(I:Inv X pins σ H s):X.s₀.heap.objs.size<=s.heap.objs.size:=Nat.le_trans I.ok.above (Nat.le_of_lt I.lt)
theorem Inv.nofs(I:Inv X pins σ H s){a:Addr}(h:s.heap.objs.size<=a):a∉X.fs:=fun hb=>by
 obtain⟨_,o,ho,_⟩:=I.ok.funs.mem hb;exact absurd (Nat.lt_of_lt_of_le (Heap.lt_size ho) (Nat.le_trans I.sz h)) (Nat.lt_irrefl _)
theorem Inv.cne(I:Inv X pins σ H s):∀x c,X.env.cells.lookup x=some c->c≠X.env.locals:=fun x c e z=>by
 obtain⟨v,o,ho,hd⟩:=I.cell x c e;obtain⟨m,⟨o',es,ep,ho',hd',_⟩,_⟩:=I.loc;rw[z,ho']at ho;cases ho;rw[hd']at hd;cases hd
theorem Inv.funs(I:Inv X pins σ H s):s.heap.FunFrames X.base X.outer:=by
 have all:∀(l:List Env),(∀b∈frs l,b∈X.fs)->X.s₀.heap.FunFrames X.base l->s.heap.FunFrames X.base l:=by
  intro l
  induction l with
  | nil=>intro _ _;trivial
  | cons env r ih=>
   intro hs hl;obtain⟨hk,⟨L,o,hf,hn,ho,hd⟩,hr⟩:=hl;have hL:L∈X.fs:=hs L (by unfold frs;rw[filterMap_cons,hf];exact mem_cons_self);obtain⟨sl,e⟩:=I.base.slot L o ho (I.ok.frf L hL) hL fun z=>I.ok.exfs L z hL
   exact⟨hk,⟨L,_,hf,hn,e,hd⟩,ih (fun b hb=>hs b (by unfold frs;rw[filterMap_cons,hf];exact mem_cons_of_mem _ hb)) hr⟩
 exact all X.outer (fun _ hb=>hb) I.ok.funs
theorem Inv.stack(I:Inv X pins σ H s):s.heap.FunFrames X.base X.stack:=by
 rcases I.ok.stk with e | ⟨e,hf⟩
 ·rw[e];exact I.funs
 ·rw[e];obtain⟨m,hn,_⟩:=I.loc;refine .cons (by rw[I.ok.kind];decide) hf hn ?_ I.funs;exact Heap.get?_none_of_le (Nat.le_trans I.ok.bsz I.ok.above)
theorem Inv.stkSub(I:Inv X pins σ H s):∀b∈frs X.stack,b∈X.env.locals::X.fs:=fun b hb=>by
 rcases I.ok.stk with e | ⟨e,hf⟩
 ·rw[e]at hb;exact mem_cons_of_mem _ hb
 ·rw[e]at hb;unfold frs at hb;rw[filterMap_cons,hf]at hb;exact hb
theorem Inv.stkFree(I:Inv X pins σ H s):∀b∈frs X.stack,H b=none:=fun b hb=>by
 rcases mem_cons.mp (I.stkSub b hb)with e | hb
 ·rw[e];exact I.free
 ·obtain⟨_,o,ho,_⟩:=I.ok.funs.mem hb;exact I.base.free b o ho (I.ok.frf b hb) fun z=>I.ok.exfs b z hb
theorem Inv.step{g':Array GenState}{t':Nat}{d':Drawn}{ch:List Addr}(I:Inv X pins σ H s)
  (hch:∀b∈ch,(b∈X.ex\/X.s₀.heap.objs.size<=b)/\b≠X.env.locals/\(∀x c,X.env.cells.lookup x=some c->c≠b)/\∀p∈X.pn++pins,p.1≠b)
  (keep:∀b o,b≠X.env.locals->b∉X.fs->b∉ch->s.heap.get? b=some o->H b=none->h'.get? b=some o)
  (slot:∀b o,b≠X.env.locals->b∈X.fs->b∉ch->s.heap.get? b=some o->H b=none->∃sl,h'.get? b=some {o with slots:=sl}) (free:∀b o,b∉ch->s.heap.get? b=some o->H b=none->H' b=none)
  (there:∀b o,b∉ch->s.heap.get? b=some o->∃o',h'.get? b=some o')
  (tups:∀b xs,H b=some (.tup xs)->H' b=some (.tup xs)) (frzs:∀b o u,H b=some (.frz o u)->H' b=some (.frz o u)) (tbls:∀b ps,H b=some (.tbl ps)->∃more,H' b=some (.tbl (ps++more)))
  (ns:∀m,s.heap.Ns X.env.locals m->h'.Ns X.env.locals m) (hok:HOk X.prog X.w H' h') (hg:AllBare g') :
  Inv X pins σ H' {s with heap:=h',gens:=g',drawn:=d',toks:=t'}:=by
 have neL:∀b o,X.s₀.heap.get? b=some o->b≠X.env.locals:=fun b o e=>Nat.ne_of_lt (Nat.lt_of_lt_of_le (Heap.lt_size e) I.ok.above)
 have neC:∀b o,X.s₀.heap.get? b=some o->b∉X.ex->b∉ch:=fun b o e hx hb=>by
  rcases(hch b hb).1 with z | z
  ·exact hx z
  ·exact absurd (Nat.lt_of_lt_of_le (Heap.lt_size e) z) (Nat.lt_irrefl _)
 have cellK:∀x c,X.env.cells.lookup x=some c->∀v,s.heap.IsCell c v->h'.IsCell c v:=fun x c e v ⟨o,ho,hd⟩=>by
  have nch:c∉ch:=fun z=>(hch c z).2.2.1 x c e rfl
  by_cases hc:c∈X.fs
  ·obtain⟨sl,q⟩:=slot c o (I.cne x c e) hc nch ho (I.freeC x c e);exact⟨_,q,hd⟩
  ·exact⟨o,keep c o (I.cne x c e) hc nch ho (I.freeC x c e),hd⟩
 refine⟨I.ok,I.os,hg,⟨fun b o e n hb hx=>?_,fun b o e n hb hx=>?_,fun b o e n hx=>?_,fun b o e hx=>?_,fun b xs e=>tups b xs (I.base.tups b xs e),fun b o xs e=>frzs b o xs (I.base.frzs b o xs e),fun b ps e=>?_⟩,?_,fun x c e=>?_,?_,fun x c e=>?_,fun p hp=>?_,hok,I.len⟩
 ·exact keep b o (neL b o e) hb (neC b o e hx) (I.base.keep b o e n hb hx) (I.base.free b o e n hx)
 ·obtain⟨sl,e1⟩:=I.base.slot b o e n hb hx;obtain⟨sl',e2⟩:=slot b _ (neL b o e) hb (neC b o e hx) e1 (I.base.free b o e n hx);exact⟨sl',e2⟩
 ·obtain⟨o',e1⟩:=I.base.there b o e hx;exact free b o' (neC b o e hx) e1 (I.base.free b o e n hx)
 ·obtain⟨o',e1⟩:=I.base.there b o e hx;exact there b o' (neC b o e hx) e1
 ·obtain⟨m1,e1⟩:=I.base.tbls b ps e;obtain⟨m2,e2⟩:=tbls b _ e1;exact⟨m1++m2,by rw[e2,Array.append_assoc]⟩
 ·obtain⟨m,hn,hl⟩:=I.loc;refine⟨m,ns m hn,fun i x v e1 e2 e3=>?_⟩;obtain⟨u,r,l⟩:=hl i x v e1 e2 e3;refine⟨u,r,?_⟩;rcases l with l | ⟨k,c,e,z⟩
  ·exact .inl l
  ·exact .inr ⟨k,c,e,cellK x c e _ z⟩
 ·obtain⟨v,z⟩:=I.cell x c e;exact⟨v,cellK x c e v z⟩
 ·obtain⟨m,⟨o,_,_,ho,_⟩,_⟩:=I.loc;exact free _ o (fun z=>(hch _ z).2.1 rfl) ho I.free
 ·obtain⟨v,o,ho,hd⟩:=I.cell x c e;exact free c o (fun z=>(hch c z).2.2.1 x c e rfl) ho (I.freeC x c e)
 ·obtain⟨e,n,ne,nf,d⟩:=I.pin p hp;have nch:p.1∉ch:=fun z=>(hch p.1 z).2.2.2 p hp rfl
  exact⟨keep p.1 p.2 ne nf nch e n,free p.1 p.2 nch e n,ne,nf,d⟩
theorem Inv.un{t':Nat}(I:Inv X pins σ H s)(u:Un X.fs [] H H' s.heap h')(hok:HOk X.prog X.w H' h'):Inv X pins σ H' {s with heap:=h',toks:=t'}:=by
 obtain⟨m,⟨o,es,ep,ho,r⟩,_⟩:=id I.loc;obtain⟨sl,hL⟩:=u.any ho I.free (by simp);exact I.step (g':=s.gens) (d':=s.drawn) (ch:=[]) (fun _ z=>nomatch z) (fun b o _ hb _ e n=>u.keep b o e n hb (by simp)) (fun b o _ hb _ e n=>u.slot b o e n hb (by simp)) (fun b o _ e n=>u.free b o e n (by simp)) (fun b o _ e=>u.there b o e (by simp)) u.tups u.frzs u.tbls (fun m' hm=>by
  obtain⟨o',es',ep',ho',r'⟩:=hm;rw[ho]at ho';cases ho';exact⟨_,es',ep',hL,r'⟩) hok I.bare
theorem Inv.call{g':Array GenState}{t':Nat}{d':Drawn}{ch:List Addr}(I:Inv X pins σ H s)(u:Un (frs X.stack) ch H H' s.heap h')(hok:HOk X.prog X.w H' h')(hg:AllBare g')
  (hch:∀b∈ch,(b∈X.ex\/X.s₀.heap.objs.size<=b)/\b≠X.env.locals/\(∀x c,X.env.cells.lookup x=some c->c≠b)/\∀p∈X.pn++pins,p.1≠b) :
  Inv X pins σ H' {s with heap:=h',gens:=g',drawn:=d',toks:=t'}:=by
 obtain⟨m,⟨o,es,ep,ho,r⟩,_⟩:=id I.loc;obtain⟨sl,hL⟩:=u.any ho I.free fun z=>(hch _ z).2.1 rfl
 exact I.step (ch:=ch) hch (fun b o hL hb hc e n=>u.keep b o e n (fun z=>(mem_cons.mp (I.stkSub b z)).elim hL hb) hc) (fun b o _ _ hc e n=>u.any e n hc) (fun b o hc e n=>u.free b o e n hc) (fun b o hc e=>u.there b o e hc) u.tups u.frzs u.tbls (fun m' hm=>by
  obtain⟨o',es',ep',ho',r'⟩:=hm;rw[ho]at ho';cases ho';exact⟨_,es',ep',hL,r'⟩) hok hg
theorem Inv.turned{t':Nat}{it:Addr}(I:Inv X pins σ H s)(k:∀b o,b≠it->s.heap.get? b=some o->h'.get? b=some o)(hn:H it=none)(hL:it≠X.env.locals)
  (h1:it∈X.ex\/X.s₀.heap.objs.size<=it) (h2:∀x c,X.env.cells.lookup x=some c->c≠it) (h3:∀p∈X.pn++pins,p.1≠it):Inv X pins σ H {s with heap:=h',toks:=t'}:=by
 have nit:∀b u,H b=some u->b≠it:=fun b u e z=>by rw[z,hn]at e;cases e
 refine I.step (g':=s.gens) (d':=s.drawn) (ch:=[it]) (fun b hb=>?_) (fun b o _ _ hc e _=>k b o (fun z=>hc (by simp[z])) e) (fun b o _ _ hc e _=>⟨o.slots,k b o (fun z=>hc (by simp[z])) e⟩) (fun _ _ _ _ n=>n)
  (fun b o hc e=>⟨o,k b o (fun z=>hc (by simp[z])) e⟩) (fun _ _ e=>e) (fun _ _ _ e=>e) (fun b ps e=>⟨#[],by rw[e];simp⟩) (fun m hm=>?_) (fun b u e=>?_) I.bare
 ·have e:b=it:=by simpa using hb
  subst e;exact⟨h1,hL,h2,h3⟩
 ·obtain⟨o,es,ep,ho,r⟩:=hm;exact⟨o,es,ep,k _ o (Ne.symm hL) ho,r⟩
 ·refine(I.hok b u e).stay (fun c v hc q=>k c v ?_ q) (fun _ q=>q) fun _ _ q=>q
  rcases hc with z | z
  ·rw[z];exact nit b u e
  ·exact nit c _ z
theorem Inv.tok(I:Inv X pins σ H s)(t:Nat):Inv X pins σ H {s with toks:=t}:=I.un (h':=s.heap) (t':=t) Un.refl I.hok
theorem Inv.kept{t':Nat}(I:Inv X pins σ H s)(k:∀b u,s.heap.get? b=some u->h'.get? b=some u):Inv X pins σ H {s with heap:=h',toks:=t'}:=I.un (Un.kept k) (I.hok.kept k)
theorem Inv.laid{a:Addr}{o:HO}{t':Nat}(I:Inv X pins σ H s)(k:∀b u,s.heap.get? b=some u->h'.get? b=some u)(hp:s.heap.objs.size<=a)(new:ObjOk X.prog X.w (upd H a o) h' a o) :
  Inv X pins σ (upd H a o) {s with heap:=h',toks:=t'}:=I.un (Un.laid k hp (I.hok.fresh hp)) (I.hok.laid k hp new)
theorem Inv.write{x e:Addr}{o:HO}{t':Nat}(I:Inv X pins σ H s)(mu:Mut (H x))(he:e=x\/H e=some (.own x))(k:∀b u,b≠e->s.heap.get? b=some u->h'.get? b=some u)(heo:∃u,h'.get? e=some u)
  (new:ObjOk X.prog X.w (upd H x o) h' x o):Inv X pins σ (upd H x o) {s with heap:=h',toks:=t'}:=I.un (Un.write mu he k heo) (I.hok.write mu he k heo new)
theorem Inv.weak{σ':List (Option V)}(I:Inv X pins σ H s)(hl:σ'.length=σ.length)(w:∀(i:Nat) v,σ'[i]?=some (some v)->σ[i]?=some (some v)):Inv X pins σ' H s:=
 ⟨I.ok,I.os,I.bare,I.base,let ⟨m,hn,hl'⟩:=I.loc;⟨m,hn,fun i x v e1 e2 e3=>hl' i x v e1 (w i v e2) e3⟩,I.cell,I.free,I.freeC,I.pin,I.hok,hl.trans I.len⟩
theorem Inv.pins_of{pins':List (Addr×Obj)}(I:Inv X pins σ H s)(h:∀p∈pins',s.heap.get? p.1=some p.2/\H p.1=none/\p.1≠X.env.locals/\p.1∉X.fs/\∀v,p.2.data≠.cell v):Inv X pins' σ H s:=
 ⟨I.ok,I.os,I.bare,I.base,I.loc,I.cell,I.free,I.freeC,fun p hp=>(mem_append.mp hp).elim (fun z=>I.pin p (mem_append_left _ z)) (h p),I.hok,I.len⟩
theorem kB{N:List Str}(hN:N.Nodup){i j:Nat}{x:Str}(a:N[i]?=some x)(b:N[j]?=some x):i=j:=by
 obtain⟨h1,e1⟩:=List.getElem?_eq_some_iff.mp a;obtain⟨h2,e2⟩:=List.getElem?_eq_some_iff.mp b;exact(List.getElem_inj hN).mp (e1.trans e2.symm)
theorem KJ{M:Model}{A:Around}{E:Value->Shared->Prop}{i:Nat}{x:Str}{v:V}{u:Value}{Q:Unit->Shared->Prop}(I:Inv X pins σ H s)(hN:X.N.Nodup)(hi:X.N[i]?=some x)(hx:Loc X.env.scope x)(r:RelV v u)
  (h:∀s',Inv X pins (σ.set i (some v)) H s'->(∃a,Heap.SameBut a s.heap s'.heap/\(a=X.env.locals\/X.env.cells.lookup x=some a))->Q () s') (hf:X.fn x=true\/X.env.scope.names.lookup x=some .local:=by first | exact .inl rfl | exact .inr rfl | assumption):wpAny M A (storeName X.env x u) Q E s:=by
 obtain⟨m,hn,hl⟩:=id I.loc;have hcls:(X.env.scope.kind == .class||(X.env.scope.kind == .module&&X.env.locals != X.env.globals))=false:=by rw[I.ok.kind];rfl
 have hiσ:i<σ.length:=by rw[I.len];exact(List.getElem?_eq_some_iff.mp hi).1
 have cne:=I.cne;have tracked:∀{a:Addr} {h':Heap},(∃o,s.heap.get? a=some o/\H a=none)->Heap.SameBut a s.heap h'->HOk X.prog X.w H h':=fun {a h'} ha hs b ob e=>by
  obtain⟨_,_,hfree⟩:=ha;refine(I.hok b ob e).stay (fun c w' hc q=>(hs.2 c ?_).trans q) (fun _ q=>q) fun _ _ q=>q
  rintro rfl;rcases hc with rfl | hc
  ·rw[hfree]at e;cases e
  ·rw[hfree]at hc;cases hc
 rcases hx with hk | hk
 ·refine wpAny_storeName_local hk hn (fun h' hn' hs=>?_) hcls;obtain⟨oL,_,_,hoL,_⟩:=id hn;refine h _ ⟨I.ok,I.os,I.bare,⟨fun b o e n hb hx=>?_,fun b o e n hb hx=>?_,I.base.free,fun b o e hx=>?_,I.base.tups,I.base.frzs,I.base.tbls⟩,⟨_,hn',fun j y v' e1 e2 e3=>?_⟩,fun y c e=>?_,I.free,I.freeC,fun p hp=>?_,tracked ⟨oL,hoL,I.free⟩ hs,by simpa using I.len⟩ ⟨_,hs,.inl rfl⟩
  ·exact(hs.2 b (Nat.ne_of_lt (Nat.lt_of_lt_of_le (Heap.lt_size e) I.ok.above))).trans (I.base.keep b o e n hb hx)
  ·obtain⟨sl,e1⟩:=I.base.slot b o e n hb hx;exact⟨sl,(hs.2 b (Nat.ne_of_lt (Nat.lt_of_lt_of_le (Heap.lt_size e) I.ok.above))).trans e1⟩
  ·obtain⟨o',e1⟩:=I.base.there b o e hx;exact⟨o',(hs.2 b (Nat.ne_of_lt (Nat.lt_of_lt_of_le (Heap.lt_size e) I.ok.above))).trans e1⟩
  ·by_cases hj:j=i
   ·subst hj;rw[hi]at e1;cases e1;rw[List.getElem?_set_self hiσ]at e2;cases e2;exact⟨u,r,.inl ⟨hk,by simp⟩⟩
   ·rw[List.getElem?_set_ne (Ne.symm hj)]at e2;obtain⟨u',r',q⟩:=hl j y v' e1 e2 e3;refine⟨u',r',?_⟩;rcases q with⟨k,e⟩ | ⟨k,c,e,z⟩
    ·refine .inl ⟨k,?_⟩;have:y≠x:=fun e=>hj (kB hN e1 (e▸hi))
     simp[this,e]
    ·exact .inr ⟨k,c,e,z.sameBut hs (cne y c e)⟩
  ·obtain⟨w',z⟩:=I.cell y c e;exact⟨w',z.sameBut hs (cne y c e)⟩
  ·obtain⟨e,n,ne,nf,d⟩:=I.pin p hp;exact⟨(hs.2 p.1 ne).trans e,n,ne,nf,d⟩
 ·have hfn:X.fn x=true:=by
   rcases hf with z | z
   ·exact z
   ·rw[z]at hk;cases hk
  obtain⟨c,hc⟩:=I.ok.has x (.inl hk);obtain⟨w',z⟩:=I.cell x c hc;refine wpAny_storeName_cell I.ok.kind hk hc z (fun h' hc' hs=>?_);obtain⟨oc,hoc,hocd⟩:=id z;refine h {s with heap:=h'} ⟨I.ok,I.os,I.bare,⟨fun b o e n hb hx=>?_,fun b o e n hb hx=>?_,I.base.free,fun b o e hx=>?_,I.base.tups,I.base.frzs,I.base.tbls⟩,⟨m,hn.sameBut hs (Ne.symm (cne x c hc)),fun j y v' e1 e2 e3=>?_⟩,fun y c' e=>?_,I.free,I.freeC,fun p hp=>?_,tracked ⟨oc,hoc,I.freeC x c hc⟩ hs,by simpa using I.len⟩ ⟨c,hs,.inr hc⟩
  ·exact(hs.2 b (Nat.ne_of_lt (Nat.lt_of_lt_of_le (Heap.lt_size e) (I.ok.cab x c hfn hc)))).trans (I.base.keep b o e n hb hx)
  ·obtain⟨sl,e1⟩:=I.base.slot b o e n hb hx;exact⟨sl,(hs.2 b (Nat.ne_of_lt (Nat.lt_of_lt_of_le (Heap.lt_size e) (I.ok.cab x c hfn hc)))).trans e1⟩
  ·obtain⟨o',e1⟩:=I.base.there b o e hx;exact⟨o',(hs.2 b (Nat.ne_of_lt (Nat.lt_of_lt_of_le (Heap.lt_size e) (I.ok.cab x c hfn hc)))).trans e1⟩
  ·by_cases hj:j=i
   ·subst hj;rw[hi]at e1;cases e1;rw[List.getElem?_set_self hiσ]at e2;cases e2;exact⟨u,r,.inr ⟨.inl hk,c,hc,hc'⟩⟩
   ·rw[List.getElem?_set_ne (Ne.symm hj)]at e2;obtain⟨u',r',q⟩:=hl j y v' e1 e2 e3;refine⟨u',r',?_⟩;rcases q with q | ⟨k,c',e,z'⟩
    ·exact .inl q
    ·refine .inr ⟨k,c',e,z'.sameBut hs ?_⟩;rintro rfl;exact hj (kB hN e1 (I.ok.inj _ _ _ e hc▸hi))
  ·by_cases hcc:c'=c
   ·subst hcc;exact⟨_,hc'⟩
   ·obtain⟨w2,z2⟩:=I.cell y c' e;exact⟨w2,z2.sameBut hs hcc⟩
  ·obtain⟨e,n,ne,nf,d⟩:=I.pin p hp;refine⟨(hs.2 p.1 ?_).trans e,n,ne,nf,d⟩;intro q;rw[q,hoc]at e;have q':oc=p.2:=Option.some.inj e;exact d w' (by rw[<-q'];exact hocd)
theorem kO{M:Model}{A:Around}{E:Value->Shared->Prop}{i:Nat}{x:Str}{v:V}{u:Value}{Q:Unit->Shared->Prop}(I:Inv X pins σ H s)(hN:X.N.Nodup)(hi:X.N[i]?=some x)(hx:Loc X.env.scope x)(r:RelV v u)
  (h:∀s',Inv X pins (σ.set i (some v)) H s'->Q () s') (hf:X.fn x=true\/X.env.scope.names.lookup x=some .local:=by first | exact .inl rfl | exact .inr rfl | assumption):wpAny M A (storeName X.env x u) Q E s:=
 KJ I hN hi hx r (fun s' I' _=>h s' I') hf
theorem Inv.call'{s':Shared}{ch:List Addr}(I:Inv X pins σ H s)(ho:s'.os=s.os)(u:Un (frs X.stack) ch H H' s.heap s'.heap)(hok:HOk X.prog X.w H' s'.heap)(hg:AllBare s'.gens)
  (hch:∀b∈ch,(b∈X.ex\/X.s₀.heap.objs.size<=b)/\b≠X.env.locals/\(∀x c,X.env.cells.lookup x=some c->c≠b)/\∀p∈X.pn++pins,p.1≠b):Inv X pins σ H' s':=by
 obtain⟨h',g',d',t',o'⟩:=s';have e:o'=s.os:=ho;subst e;exact I.call (g':=g') (t':=t') (d':=d') u hok hg hch
end
noncomputable abbrev XK:=Value->Option Addr->Hp->Prop
noncomputable abbrev St:=List (Option V)
noncomputable abbrev VK:=V->Hp->Prop
noncomputable abbrev TE:=St->Hp->VK->Prop
noncomputable abbrev TT:=St->Hp->(Bool->Hp->Prop)->Prop
noncomputable abbrev TA:=St->Hp->(List V->Hp->Prop)->Prop
structure Ends where
 nx:St->Hp->Prop
 rt:VK
 bk:St->Hp->Prop:=fun _ _=>False
 ct:St->Hp->Prop:=fun _ _=>False
noncomputable abbrev TS:=Ends->St->Hp->Prop
def EP(X:Cx)(pins:List (Addr×Obj))(σ:St)(Q:VK)(u:Value)(s':Shared):Prop:=∃v H',Inv X pins σ H' s'/\RelV v u/\Q v H'
def TP(X:Cx)(pins:List (Addr×Obj))(σ:St)(Q:Bool->Hp->Prop)(b:Bool)(s':Shared):Prop:=∃H',Inv X pins σ H' s'/\Q b H'
def AP(X:Cx)(pins:List (Addr×Obj))(σ:St)(Q:List V->Hp->Prop)(us:List Value)(s':Shared):Prop:=∃vs H',Inv X pins σ H' s'/\Vals vs us/\Q vs H'
def SP(X:Cx)(pins:List (Addr×Obj))(D:Ends)(f:Flow)(s':Shared):Prop:=
 match f with
 | .next=>∃σ' H',Inv X pins σ' H' s'/\D.nx σ' H'
 | .brk=>∃σ' H',Inv X pins σ' H' s'/\D.bk σ' H'
 | .cont=>∃σ' H',Inv X pins σ' H' s'/\D.ct σ' H'
 | .ret u=>∃v σ' H',Inv X pins σ' H' s'/\RelV v u/\D.rt v H'
def PE(X:Cx)(e:Expr)(t:TE):Prop:=
 ∀(pins:List (Addr×Obj)) (s:Shared) (σ:St) (H:Hp) (Q:VK),Inv X pins σ H s->t σ H Q->wpAny (model X.prog X.w) X.A (eval e X.env) (EP X pins σ Q) X.xe s
def PT(X:Cx)(e:Expr)(t:TT):Prop:=
 ∀(pins:List (Addr×Obj)) (s:Shared) (σ:St) (H:Hp) (Q:Bool->Hp->Prop),Inv X pins σ H s->t σ H Q->wpAny (model X.prog X.w) X.A (isTrue e X.env (eval e X.env)) (TP X pins σ Q) X.xe s
def PW(X:Cx)(e:Expr)(t:TT):Prop:=
 ∀(whole:Sem Value) (pins:List (Addr×Obj)) (s:Shared) (σ:St) (H:Hp) (Q:Bool->Hp->Prop),Inv X pins σ H s->t σ H Q->wpAny (model X.prog X.w) X.A (isTrue e X.env whole) (TP X pins σ Q) X.xe s
theorem PW.pt{X:Cx}{e:Expr}{t:TT}(h:PW X e t):PT X e t:=h _
def PA(X:Cx)(es:List Expr)(t:TA):Prop:=
 ∀(pos:Pos) (pins:List (Addr×Obj)) (s:Shared) (σ:St) (H:Hp) (Q:List V->Hp->Prop),Inv X pins σ H s->t σ H Q->wpAny (model X.prog X.w) X.A (spliced (backTo pos (starEach es X.env))) (AP X pins σ Q) X.xe s
def PS(X:Cx)(st:Stmt)(t:TS):Prop:=
 ∀(pins:List (Addr×Obj)) (s:Shared) (σ:St) (H:Hp) (D:Ends),Inv X pins σ H s->t D σ H->wpAny (model X.prog X.w) X.A (exec st X.env) (SP X pins D) X.xe s
def PSs(X:Cx)(st:List Stmt)(t:TS):Prop:=
 ∀(pins:List (Addr×Obj)) (s:Shared) (σ:St) (H:Hp) (D:Ends),Inv X pins σ H s->t D σ H->wpAny (model X.prog X.w) X.A (execs st X.env) (SP X pins D) X.xe s
theorem thn{α:Type}{t:Sem α}{Q Q':α->Shared->Prop}{M:Model}{A:Around}{E:Value->Shared->Prop}{s:Shared}(h:wpAny M A t Q E s)(hQ:∀a s,Q a s->Q' a s):wpAny M A t Q' E s:=wpAny_mono h hQ fun _ _ x=>x
section
variable{X:Cx}
def tVar(i:Nat):TE:=fun σ H Q=>∃v,σ[i]?=some (some v)/\Q v H
def tC(v:V):TE:=fun _ H Q=>Q v H
theorem j2v{i:Nat}{x:Str}{pos:Pos}(hN:X.N[i]?=some x)(hv:Vis X.env.scope x)(hd:(x==("__debug__" : Str))=false:=by decide)(hcd:(x==("__classdict__" : Str))=false:=by decide):PE X (.Name x pos) (tVar i):=by
 intro pins s σ H Q I h;obtain⟨v,e,h⟩:=h;obtain⟨m,hn,hl⟩:=I.loc;obtain⟨u,r,l⟩:=hl i x v hN e hv;have fin:EP X pins σ Q u s:=⟨v,H,I,r,h⟩
 rcases l with⟨hk,hm⟩ | ⟨hk,c,hc,hcell⟩
 ·exact wpAny_Name (wpAny_loadName_local I.ok.kind hk hn hm fin) hd
 ·rcases hk with hk | hk
  ·exact wpAny_Name (wpAny_loadName_cell I.ok.kind hk hc hcell fin) hd
  ·exact wpAny_Name (wpAny_loadName_free I.ok.kind hk hc hcell fin hcd) hd
theorem jb{i j pos}:PE X (.Constant (.int i) j pos) (tC (.int i)):=fun _ _ _ H _ I h=>wpAny_Constant_int ⟨.int i,H,I.tok _,⟨_,rfl⟩,h⟩
theorem YQ{b j pos}:PE X (.Constant (.bool b) j pos) (tC (.bl b)):=fun _ _ _ H _ I h=>Constant_bool ⟨.bl b,H,I,rfl,h⟩
theorem wD{j pos}:PE X (.Constant .none j pos) (tC .non):=fun _ _ _ H _ I h=>Constant_none ⟨.non,H,I,rfl,h⟩
theorem jn{x j pos}:PE X (.Constant (.str x) j pos) (tC (.str x)):=fun _ _ _ H _ I h=>Calls.Constant_str ⟨.str x,H,I.tok _,⟨_,rfl⟩,h⟩
def Gl(X:Cx)(x:Str):Prop:=X.env.kindOf x=some .globalImplicit
theorem yc{E:Value->Shared->Prop}{pins:List (Addr×Obj)}{s:Shared}{σ:St}{H:Hp}{x:Str}{u:Value}{pos:Pos}{Q:Value->Shared->Prop}(I:Inv X pins σ H s)(hg:Gl X x)(hm:X.mg x=some u)(h:Q u s)
  (hd:(x==("__debug__" : Str))=false:=by decide):wpAny (model X.prog X.w) X.A (eval (.Name x pos) X.env) Q E s:=
 Calls.Name_function_global I.ok.kind hg (Calls.loadGlobal_global (by rw[I.ok.glob];exact I.mod.glob.keeps I.bk) hm h) hd
theorem Yq{E:Value->Shared->Prop}{pins:List (Addr×Obj)}{s:Shared}{σ:St}{H:Hp}{x:Str}{u:Value}{pos:Pos}{Q:Value->Shared->Prop}(I:Inv X pins σ H s)(hg:Gl X x)(hm:X.mg x=none)(hv:bootBuiltins x=some u)(h:Q u s)
  (hn:x≠"__name__":=by decide) (hd:(x==("__debug__" : Str))=false:=by decide):wpAny (model X.prog X.w) X.A (eval (.Name x pos) X.env) Q E s:=by
 obtain⟨mb,h1,h2⟩:=I.mod.blt;exact Calls.Name_function_global I.ok.kind hg (Calls.loadGlobal_builtin (by rw[I.ok.glob];exact I.mod.glob.keeps I.bk) hm (by rw[I.ok.blt];exact h1.keeps I.bk) ((h2 x hn).trans hv) h) hd
theorem Qi{x:Str}{v:V}{u:Value}{pos:Pos}(hg:Gl X x)(hm:X.mg x=some u)(r:RelV v u)(hd:(x==("__debug__" : Str))=false:=by decide):PE X (.Name x pos) (tC v):=
 fun _ _ _ H _ I h=>yc I hg hm ⟨v,H,I,r,h⟩ hd
theorem yV{x:Str}{v:V}{u:Value}{pos:Pos}(hg:Gl X x)(hm:X.mg x=none)(hv:bootBuiltins x=some u)(r:RelV v u)(hn:x≠"__name__":=by decide)(hd:(x==("__debug__" : Str))=false:=by decide):PE X (.Name x pos) (tC v):=
 fun _ _ _ H _ I h=>Yq I hg hm hv ⟨v,H,I,r,h⟩ hn hd
variable{a b:Expr}{ta tb:TE}{pos:Pos}
def PC(X:Cx)(op:CmpOp)(a b:Expr)(t:TE):Prop:=
 ∀(pins:List (Addr×Obj)) (s:Shared) (σ:St) (H:Hp) (Q:VK),Inv X pins σ H s->t σ H Q->
  wpAny (model X.prog X.w) X.A (eval a X.env) (fun v s₁=>wpAny (model X.prog X.w) X.A (eval b X.env) (fun u s₂=>wpAny (model X.prog X.w) X.A (compareOp op v u) (EP X pins σ Q) X.xe s₂) X.xe s₁) X.xe s
def tB(t:TE):TT:=fun σ H Q=>t σ H fun x H1=>∃c,x = .bl c/\Q c H1
theorem j2z{op:CmpOp}{t:TE}(h:PC X op a b t)(h1:behindInMarks op b=false:=by first | exact nobehind _ (by decide) (by decide) | rfl):PT X (.Compare a [op] [b] pos) (tB t):=by
 intro pins s σ H Q I hw;refine wpAny_isTrue_Compare1 (thn (h pins s σ H _ I hw) fun v s1 h1=>thn h1 fun u s2 h2=>thn h2 fun c s3 ⟨x,H1,I1,r1,q1⟩=>?_) h1;obtain⟨d,rfl,q⟩:=q1;cases r1;exact wpAny_truthy_bool ⟨H1,I1,q⟩
theorem xz{e:Expr}{t:TE}(h:PE X e t)(he:∀whole,isTrue e X.env whole=(do let v <-whole;standAt e.pos;holding [v] (truthy v)):=by intro _;rfl):PT X e (tB t):=by
 intro pins s σ H Q I hw;refine isTrue_plain (thn (h pins s σ H _ I hw) fun v s1 ⟨x,H1,I1,r1,q1⟩=>?_) (he _);obtain⟨d,rfl,q⟩:=q1;cases r1;exact wpAny_truthy_bool ⟨H1,I1,q⟩
variable{tA tB':TT}{rest:List Expr}
def tAnd(t u:TT):TT:=fun σ H Q=>t σ H fun c H1=>if c=true then u σ H1 Q else Q false H1
def tOr(t u:TT):TT:=fun σ H Q=>t σ H fun c H1=>if c=true then Q true H1 else u σ H1 Q
def tNot(t:TT):TT:=fun σ H Q=>t σ H fun c H1=>Q (!c) H1
theorem yZ(ha:PT X a tA):PW X (.BoolOp .And [a] pos) tA:=by
 intro wh pins s σ H Q I h;refine isTrue_and (thn (ha pins s σ H Q I h) fun c s1 e=>?_);cases c with
 | true=>exact isTrue_and_nil e
 | false=>exact e
theorem wE(ha:PT X a tA):PW X (.BoolOp .Or [a] pos) tA:=by
 intro wh pins s σ H Q I h;refine isTrue_or (thn (ha pins s σ H Q I h) fun c s1 e=>?_);cases c with
 | false=>exact isTrue_or_nil e
 | true=>exact e
theorem kJ(ha:PT X a tA)(hb:PW X (.BoolOp .And (b::rest) pos) tB'):PW X (.BoolOp .And (a::b::rest) pos) (tAnd tA tB'):=by
 intro wh pins s σ H Q I h;refine isTrue_and (thn (ha pins s σ H _ I h) fun c s1 ⟨H1,I1,q1⟩=>?_);cases c with
 | true=>exact hb wh pins s1 σ H1 Q I1 q1
 | false=>exact⟨H1,I1,q1⟩
theorem Xn(ha:PT X a tA)(hb:PW X (.BoolOp .Or (b::rest) pos) tB'):PW X (.BoolOp .Or (a::b::rest) pos) (tOr tA tB'):=by
 intro wh pins s σ H Q I h;refine isTrue_or (thn (ha pins s σ H _ I h) fun c s1 ⟨H1,I1,q1⟩=>?_);cases c with
 | true=>exact⟨H1,I1,q1⟩
 | false=>exact hb wh pins s1 σ H1 Q I1 q1
theorem j0H(ha:PT X a tA):PT X (.UnaryOp .Not a pos) (tNot tA):=by
 intro pins s σ H Q I h;exact isTrue_not (ha pins s σ H (fun c H1=>Q (!c) H1) I h)
def tAndV(ta tb:TE):TE:=fun σ H Q=>ta σ H fun x H1=>∃c,x = .bl c/\if c=true then tb σ H1 Q else Q (.bl false) H1
def tNotV(ta:TE):TE:=fun σ H Q=>ta σ H fun x H1=>∃c,x = .bl c/\Q (.bl (!c)) H1
theorem j0D{op}{t:TE}(h:PE X a t):PE X (.BoolOp op [a] pos) t:=fun pins s σ H Q I hw=>BoolOp_one (h pins s σ H Q I hw)
theorem wA(ha:PE X a ta)(hb:PE X (.BoolOp .And (b::rest) pos) tb):PE X (.BoolOp .And (a::b::rest) pos) (tAndV ta tb):=by
 intro pins s σ H Q I h;refine BoolOp_and (thn (ha pins s σ H _ I h) fun v s1 ⟨x,H1,I1,r1,q1⟩=>?_);obtain⟨c,rfl,q1⟩:=q1;cases r1;refine wpAny_truthy_bool ?_;cases c with
 | true=>exact hb pins s1 σ H1 Q I1 q1
 | false=>exact⟨.bl false,H1,I1,rfl,q1⟩
theorem j2u(ha:PE X a ta):PE X (.UnaryOp .Not a pos) (tNotV ta):=by
 intro pins s σ H Q I h;refine UnaryOp_ (thn (ha pins s σ H _ I h) fun v s1 ⟨x,H1,I1,r1,q1⟩=>?_);obtain⟨c,rfl,q1⟩:=q1;cases r1;exact not_of (wpAny_truthy_bool ⟨.bl (!c),H1,I1,rfl,q1⟩)
def tIf(t:TT)(ta tb:TE):TE:=fun σ H Q=>t σ H fun c H1=>if c=true then ta σ H1 Q else tb σ H1 Q
theorem j0C{c:Expr}(hc:PT X c tA)(ha:PE X a ta)(hb:PE X b tb):PE X (.IfExp c a b pos) (tIf tA ta tb):=by
 intro pins s σ H Q I h;refine wpAny_IfExp (thn (hc pins s σ H _ I h) fun d s1 ⟨H1,I1,q1⟩=>?_);cases d with
 | true=>exact ha pins s1 σ H1 Q I1 q1
 | false=>exact hb pins s1 σ H1 Q I1 q1
end
def SqL(K:Frg)(H:Hp)(a:Addr)(xs:List V):Prop:=
 Rd H a (.lst xs)\/
  ∃(o:Obj) (its:Array Value) (n:Nat),K.lookup a=some o/\o.cls = .type "list"/\o.dict=none/\o.data = .seq its n/\its.size<=sizeLine/\Vals xs its.toList
def SqT(K:Frg)(H:Hp)(a:Addr)(xs:List V):Prop:=
 Rd H a (.tup xs)\/
  ∃(o:Obj) (its:Array Value) (n:Nat),K.lookup a=some o/\o.cls = .type "tuple"/\o.data = .seq its n/\its.size<=sizeLine/\Vals xs its.toList
noncomputable def absV:Value->Option V
 | .none=>some .non
 | .bool b=>some (.bl b)
 | .int i _=>some (.int i)
 | .str x _=>some (.str x)
 | .bytes b _=>some (.byt b)
 | .float b _=>some (.flt b)
 | .ref a=>some (.ref a)
 | .type n=>some (.ty n)
 | _=>none
theorem RelV.abs{x:V}{u:Value}(r:RelV x u):absV u=some x:=by
 cases x with
 | non=>cases r;rfl
 | bl _=>cases r;rfl
 | int _=>obtain⟨t,rfl⟩:=r;rfl
 | str _=>obtain⟨t,rfl⟩:=r;rfl
 | byt _=>obtain⟨t,rfl⟩:=r;rfl
 | flt _=>obtain⟨t,rfl⟩:=r;rfl
 | ref _=>cases r;rfl
 | ty _=>cases r;rfl
theorem RelV.inj{x y:V}{u:Value}(r:RelV x u)(q:RelV y u):x=y:=Option.some.inj (r.abs.symm.trans q.abs)
theorem Vals.inj:∀{xs ys:List V} {us:List Value},Vals xs us->Vals ys us->xs=ys
 | _,_,_,.nil,.nil=>rfl
 | _,_,_,.cons r t,.cons r' t'=>by rw[r.inj r',Vals.inj t t']
section
variable{X:Cx}{pins:List (Addr×Obj)}{σ:St}{H:Hp}{s:Shared}{a:Addr}{xs ys:List V}
theorem SqL.of{K:Frg}(h:H a=some (.lst xs)):SqL K H a xs:=.inl (.inl h)
theorem SqT.of{K:Frg}(h:H a=some (.tup xs)):SqT K H a xs:=.inl (.inl h)
theorem Inv.list(I:Inv X pins σ H s)(h:SqL X.K H a xs):∃its:List Value,Vals xs its/\PlainL s.heap a its.toArray/\xs.length<=sizeLine:=by
 rcases h with h | ⟨o,its,n,hk,hc,hd,hs,hz,r⟩
 ·obtain⟨z,its,n,r,e⟩:=h.ok I.hok;exact⟨its,r,⟨_,n,e,rfl,rfl,rfl⟩,z⟩
 ·refine⟨its.toList,r,⟨o,n,I.kIn a o hk,hc,hd,by simpa using hs⟩,?_⟩;have e:=r.length;simp only[Array.length_toList]at e;omega
theorem Inv.tuple(I:Inv X pins σ H s)(h:SqT X.K H a xs):∃its:List Value,Vals xs its/\IsTup s.heap a its.toArray/\xs.length<=sizeLine:=by
 rcases h with h | ⟨o,its,n,hk,hc,hs,hz,r⟩
 ·obtain⟨z,its,r,p⟩:=h.ok I.hok;exact⟨its,r,p,z⟩
 ·refine⟨its.toList,r,⟨o,I.kIn a o hk,hc,n,by simpa using hs⟩,?_⟩;have e:=r.length;simp only[Array.length_toList]at e;omega
theorem Inv.list_inj(I:Inv X pins σ H s)(h:SqL X.K H a xs)(h':SqL X.K H a ys):xs=ys:=by
 obtain⟨its,r,⟨o,n,e,_,_,d⟩,_⟩:=I.list h;obtain⟨its',r',⟨o',n',e',_,_,d'⟩,_⟩:=I.list h';rw[e]at e';cases e';rw[d]at d';injection d' with d1 _;have:its=its':=by simpa using congrArg Array.toList d1
 subst this;exact r.inj r'
theorem Inv.tuple_inj(I:Inv X pins σ H s)(h:SqT X.K H a xs)(h':SqT X.K H a ys):xs=ys:=by
 obtain⟨its,r,⟨o,e,_,n,d⟩,_⟩:=I.tuple h;obtain⟨its',r',⟨o',e',_,n',d'⟩,_⟩:=I.tuple h';rw[e]at e';cases e';rw[d]at d';injection d' with d1 _;have:its=its':=by simpa using congrArg Array.toList d1
 subst this;exact r.inj r'
end
noncomputable abbrev Cx.wish(X:Cx)(E:Value->Shared->Prop):Cx:={X with xe:=E}
noncomputable abbrev Cx.nox(X:Cx):Cx:=X.wish fun _ _=>False
theorem Cx.Ok.wish{X:Cx}(ok:X.Ok)(E:Value->Shared->Prop):(X.wish E).Ok:=
 ⟨ok.mod,ok.kind,ok.glob,ok.blt,ok.above,ok.inj,ok.has,ok.cab,ok.hd,ok.frames,ok.stk,ok.exf,ok.bs,ok.bsz,ok.noex,ok.exfs,ok.funs,ok.frf⟩
theorem Cx.Ok.unwish{X:Cx}{E:Value->Shared->Prop}(ok:(X.wish E).Ok):X.Ok:=
 ⟨ok.mod,ok.kind,ok.glob,ok.blt,ok.above,ok.inj,ok.has,ok.cab,ok.hd,ok.frames,ok.stk,ok.exf,ok.bs,ok.bsz,ok.noex,ok.exfs,ok.funs,ok.frf⟩
section
variable{X:Cx}{pins:List (Addr×Obj)}{σ:St}{H:Hp}{s:Shared}{E:Value->Shared->Prop}
theorem Inv.wish(I:Inv X pins σ H s)(E:Value->Shared->Prop):Inv (X.wish E) pins σ H s:=⟨I.ok.wish E,I.os,I.bare,I.base,I.loc,I.cell,I.free,I.freeC,I.pin,I.hok,I.len⟩
theorem Inv.unwish(I:Inv (X.wish E) pins σ H s):Inv X pins σ H s:=⟨I.ok.unwish,I.os,I.bare,I.base,I.loc,I.cell,I.free,I.freeC,I.pin,I.hok,I.len⟩
theorem SP.unwish{D:Ends}{f:Flow}{s':Shared}(h:SP (X.wish E) pins D f s'):SP X pins D f s':=by
 cases f with
 | next=>obtain⟨σ',H',I,q⟩:=h;exact⟨σ',H',I.unwish,q⟩
 | brk=>obtain⟨σ',H',I,q⟩:=h;exact⟨σ',H',I.unwish,q⟩
 | cont=>obtain⟨σ',H',I,q⟩:=h;exact⟨σ',H',I.unwish,q⟩
 | ret u=>obtain⟨v,σ',H',I,r,q⟩:=h;exact⟨v,σ',H',I.unwish,r,q⟩
theorem PSs.nox{st:List Stmt}{t:TS}(h:PSs X.nox st t):PSs X st t:=fun pins s σ H D I hw=>
 wpAny_mono (h pins s σ H D (I.wish _) hw) (fun _ _ q=>q.unwish) fun _ _ z=>False.elim z
end
section
variable{X:Cx}{st:Stmt}{rest:List Stmt}{t u:TS}{e:Expr}{te:TE}{pos:Pos}
def tNext:TS:=fun D σ H=>D.nx σ H
def tSeq(t u:TS):TS:=fun D σ H=>t {D with nx:=u D} σ H
theorem jw:PSs X [] tNext:=fun _ _ σ H _ I h=>wpAny_execs_nil ⟨σ,H,I,h⟩
theorem jd(h1:PS X st t)(h2:PSs X rest u):PSs X (st::rest) (tSeq t u):=by
 intro pins s σ H D I h;refine wpAny_execs_cons (thn (h1 pins s σ H {D with nx:=u D} I h) fun f s1 q=>?_);cases f with
 | next=>
  obtain⟨σ',H',I',q⟩:=q;exact h2 pins s1 σ' H' D I' q
 | ret v=>exact q
 | brk=>exact q
 | cont=>exact q
theorem je(h1:PS X st t):PSs X [st] t:=by
 intro pins s σ H D I h;refine wpAny_execs_cons (thn (h1 pins s σ H D I h) fun f s1 q=>?_);cases f with
 | next=>exact wpAny_execs_nil q
 | ret v=>exact q
 | brk=>exact q
 | cont=>exact q
def tBreak:TS:=fun D σ H=>D.bk σ H
theorem j0G:PS X (.Break pos) tBreak:=fun _ _ σ H _ I h=>wpAny_Break ⟨σ,H,I,h⟩
theorem Inv.quiet{pins:List (Addr×Obj)}{σ:St}{H:Hp}{s:Shared}(I:Inv X pins σ H s):interactive X.env=false:=by simp[interactive,I.ok.kind]
def tDrop(te:TE):TS:=fun D σ H=>te σ H fun _ H1=>D.nx σ H1
theorem jA(he:PE X e te)(hs:swapsWith e none pos.line X.env=pure false:=by rfl):PS X (.Expr e pos) (tDrop te):=by
 intro pins s σ H D I h;exact wpAny_Expr_any (thn (he pins s σ H _ I h) fun v s1 ⟨x,H1,I1,r1,q1⟩=>⟨σ,H1,I1,q1⟩) I.quiet hs
def tRet(te:TE):TS:=fun D σ H=>te σ H D.rt
theorem jB(he:PE X e te):PS X (.Return (some e) pos) (tRet te):=by
 intro pins s σ H D I h;exact wpAny_Return_some (thn (he pins s σ H _ I h) fun v s1 ⟨x,H1,I1,r1,q1⟩=>⟨x,σ,H1,I1,r1,q1⟩)
def tRetN:TS:=fun D _ H=>D.rt .non H
theorem j1D:PS X (.Return none pos) tRetN:=fun _ _ σ H _ I h=>wpAny_Return_none ⟨.non,σ,H,I,rfl,h⟩
def tIfS(c:TT)(t u:TS):TS:=fun D σ H=>c σ H fun b H1=>if b=true then t D σ H1 else u D σ H1
theorem jV{c:Expr}{a b:List Stmt}{tc:TT}(hc:PT X c tc)(ha:PSs X a t)(hb:PSs X b u):PS X (.If c a b pos) (tIfS tc t u):=by
 intro pins s σ H D I h;refine wpAny_If (thn (hc pins s σ H _ I h) fun d s1 ⟨H1,I1,q1⟩=>?_);cases d with
 | true=>exact ha pins s1 σ H1 D I1 q1
 | false=>exact hb pins s1 σ H1 D I1 q1
def tNever:TS:=fun _ _ _=>False
theorem Zo:PS X st tNever:=fun _ _ _ _ _ _ h=>h.elim
end
noncomputable abbrev TG:=V->St->Hp->(St->Hp->Prop)->Prop
noncomputable abbrev TGs:=List V->St->Hp->(St->Hp->Prop)->Prop
def PG(X:Cx)(target:Expr)(t:TG):Prop:=
 ∀(pins:List (Addr×Obj)) (s:Shared) (σ:St) (H:Hp) (v:V) (u:Value) (Q:St->Hp->Prop),Inv X pins σ H s->RelV v u->t v σ H Q->
  wpAny (model X.prog X.w) X.A (assign target X.env u) (fun _ s'=>∃σ' H',Inv X pins σ' H' s'/\Q σ' H') X.xe s
def PGs(X:Cx)(ts:List Expr)(t:TGs):Prop:=
 ∀(pins:List (Addr×Obj)) (s:Shared) (σ:St) (H:Hp) (vs:List V) (us:List Value) (Q:St->Hp->Prop),Inv X pins σ H s->Vals vs us->t vs σ H Q->
  wpAny (model X.prog X.w) X.A (assignInOrder ((assignEach ts X.env).map (·.2)) us) (fun _ s'=>∃σ' H',Inv X pins σ' H' s'/\Q σ' H') X.xe s
noncomputable abbrev TSet:=V->V->V->Hp->(Hp->Prop)->Prop
def PSet(X:Cx)(t:TSet):Prop:=
 ∀(pins:List (Addr×Obj)) (s:Shared) (σ:St) (H:Hp) (o i v:V) (ov iv u:Value) (Q:Hp->Prop),Inv X pins σ H s->RelV o ov->RelV i iv->RelV v u->t o i v H Q->
  wpAny (model X.prog X.w) X.A (setItem ov iv u) (fun _ s'=>∃H',Inv X pins σ H' s'/\Q H') X.xe s
section
variable{X:Cx}{pos:Pos}
def gName(i:Nat):TG:=fun v σ H Q=>Q (σ.set i (some v)) H
theorem jt{i:Nat}{x:Str}(hN:X.N.Nodup)(hi:X.N[i]?=some x)(hx:Loc X.env.scope x)(hf:X.fn x=true\/X.env.scope.names.lookup x=some .local:=by first | exact .inl rfl | exact .inr rfl | assumption):PG X (.Name x pos) (gName i):=by
 intro pins s σ H v u Q I r h;exact wpAny_assign_Name (kO I hN hi hx r (fun s' I'=>⟨_,H,I',h⟩) hf)
def gNil:TGs:=fun vs σ H Q=>vs=[]/\Q σ H
def gCons(t:TG)(u:TGs):TGs:=fun vs σ H Q=>∃v r,vs=v::r/\t v σ H fun σ' H'=>u r σ' H' Q
theorem QO:PGs X [] gNil:=by
 intro pins s σ H vs us Q I r h;obtain⟨e,h⟩:=h;subst e;cases r;exact assignInOrder_nil ⟨σ,H,I,h⟩
theorem jK{e:Expr}{es:List Expr}{t:TG}{u:TGs}(h1:PG X e t)(h2:PGs X es u)
  (hs:(assignEach (e::es) X.env).map (·.2)=assign e X.env::(assignEach es X.env).map (·.2):=by rfl):PGs X (e::es) (gCons t u):=by
 intro pins s σ H vs us Q I r h;obtain⟨v,vr,e1,h⟩:=h;subst e1;cases r with
 | cons r rr=>
  rw[hs];refine assignInOrder_cons (thn (h1 pins s σ H _ _ _ I r h) fun _ s1 ⟨σ1,H1,I1,q1⟩=>?_);exact h2 pins s1 σ1 H1 _ _ Q I1 rr q1
def gTup(K:Frg)(n:Nat)(t:TGs):TG:=fun v σ H Q=>∃a xs,v = .ref a/\SqT K H a xs/\xs.length=n/\t xs σ H Q
theorem zK{es:List Expr}{k:Nat}{t:TGs}{n:Nat}(hc:X.calm=true)(h:PGs X es t)
  (hn:(assignEach es X.env).length=n:=by rfl) (hst:(assignEach es X.env).findIdx? (·.1)=none:=by rfl):PG X (.Tuple es k pos) (gTup X.K n t):=by
 intro pins s σ H v u Q I r hw;obtain⟨a,xs,e1,hq,hl,hw⟩:=hw;subst e1;cases r;obtain⟨its,rv,ht,hz⟩:=I.tuple hq;refine assign_Tuple_tuple (I.ok.hd hc) ht (by simp[hn,<-hl,rv.length]) hst fun h' hx=>?_
 have I1:Inv X pins σ H {s with heap:=h'}:=I.kept (t':=s.toks) fun b o e=>hx b o (Nat.ne_of_lt (Heap.lt_size e)) e
 exact h pins _ σ H xs _ Q I1 (by simpa using rv) hw
def gSub(to ti:TE)(t:TSet):TG:=fun v σ H Q=>to σ H fun o H1=>ti σ H1 fun i H2=>t o i v H2 fun H3=>Q σ H3
theorem j2w{o i:Expr}{to ti:TE}{t:TSet}(ho:PE X o to)(hi:PE X i ti)(hs:PSet X t)
  (ha:∀v,assign (.Subscript o i pos) X.env v=(do
   let ov <-holding [v] (eval o X.env)
   let iv <-holding [v,ov] (eval i X.env)
   standAt pos
   holding [v,ov,iv] (setItem ov iv v)
   release [v,ov,iv] []):=by intro _;rfl):PG X (.Subscript o i pos) (gSub to ti t):=by
 intro pins s σ H v u Q I r h;rw[ha];refine wpAny_bind (wpAny_holding (thn (ho pins s σ H _ I h) fun ov s1 ⟨x,H1,I1,r1,q1⟩=>?_));refine wpAny_bind (wpAny_holding (thn (hi pins s1 σ H1 _ I1 q1) fun iv s2 ⟨y,H2,I2,r2,q2⟩=>?_));refine wpAny_bind (wpAny_standAt (wpAny_bind (wpAny_holding (thn (hs pins s2 σ H2 x y v ov iv u _ I2 r1 r2 r q2) fun _ s3 ⟨H3,I3,q3⟩=>?_))));exact wpAny_release ⟨σ,H3,I3,q3⟩
def tAsg(te:TE)(g:TG):TS:=fun D σ H=>te σ H fun x H1=>g x σ H1 D.nx
theorem j0F{tg e:Expr}{te:TE}{g:TG}(he:PE X e te)(hg:PG X tg g)(hs:swapsWithSole [tg] e pos.line X.env=pure false:=by rfl)(hw:swappedStores [tg] e X.env=pure none:=by rfl)
  (h1:(assignEach [tg] X.env).map (·.2)=[assign tg X.env]:=by rfl):PS X (.Assign [tg] e pos) (tAsg te g):=by
 intro pins s σ H D I h;refine wpAny_Assign_stores (thn (he pins s σ H _ I h) fun v s1 ⟨x,H1,I1,r1,q1⟩=>?_) hs hw;rw[h1];exact thn (hg pins s1 σ H1 x v _ I1 r1 q1) fun _ s2 q=>q
theorem jp{i:Nat}{x:Str}{e:Expr}{te:TE}{pos':Pos}(hN:X.N.Nodup)(hi:X.N[i]?=some x)(hx:Loc X.env.scope x)(he:PE X e te)(hs:swapsWith e (some (.Name x pos')) pos.line X.env=pure false:=by rfl)(hf:X.fn x=true\/X.env.scope.names.lookup x=some .local:=by first | exact .inl rfl | exact .inr rfl | assumption) :
  PS X (.Assign [.Name x pos'] e pos) (tAsg te (gName i)):=by
 intro pins s σ H D I h;refine wpAny_Assign_Name (thn (he pins s σ H _ I h) fun v s1 ⟨y,H1,I1,r1,q1⟩=>?_) hs;exact kO I1 hN hi hx r1 (fun s2 I2=>⟨_,H1,I2,q1⟩) hf
end
section
variable{X:Cx}{pos:Pos}
end
structure It where
 go:Nat->Hp->Prop
 yld:Nat->Hp->V->Hp->Prop
 stop:Nat->Hp->Prop
def FpOk(X:Cx)(pins:List (Addr×Obj))(H:Hp)(b:Addr):Prop:=
 H b=none/\b≠X.env.locals/\b∉X.fs/\(b∈X.ex\/X.s₀.heap.objs.size<=b)/\(∀x c,X.env.cells.lookup x=some c->c≠b)/\∀p∈X.pn++pins,p.1≠b
theorem Inv.fpOk{X:Cx}{pins:List (Addr×Obj)}{σ:St}{H H':Hp}{s:Shared}{b:Addr}(I:Inv X pins σ H s)(hb:s.heap.objs.size<=b)(hn:H' b=none):FpOk X pins H' b:=by
 refine⟨hn,Nat.ne_of_gt (Nat.lt_of_lt_of_le I.lt hb),I.nofs hb,.inr (Nat.le_trans I.sz hb),fun x c e z=>?_,fun p hp z=>?_⟩
 ·obtain⟨v,q⟩:=I.cell x c e;exact absurd (Nat.lt_of_lt_of_le q.lt (by rw[z];exact hb)) (Nat.lt_irrefl _)
 ·exact absurd (Nat.lt_of_lt_of_le (Heap.lt_size (I.pin p hp).1) (by rw[z];exact hb)) (Nat.lt_irrefl _)
structure Turn(P:Program)(w:World)(K:Frg)(tg:Expr)(J:It)(fp:List Addr)(it:Addr)(tn:Nat->Heap->Prop):Prop where
 mem:it∈fp
 obj:∀i h,tn i h->∀b∈fp,∃o,h.get? b=some o/\∀v,o.data≠.cell v
 keep:∀i h h',tn i h->(∀b∈fp,∀o,h.get? b=some o->h'.get? b=some o)->tn i h'
 item:∀(X:Cx),X.prog=P->X.w=w->X.K=K->X.calm=true->∀(i:Nat) (pins:List (Addr×Obj)) (s:Shared) (σ:St) (H:Hp) (E:Value->Shared->Prop),Inv X pins σ H s->(∀b∈fp,FpOk X pins H b)->tn i s.heap->J.go i H->
  wpAny (model P w) X.A (pyNext (.ref it)) (fun r s1=>∃u,r=some u/\
   wpAny (model P w) X.A (letOwnedTupleGo tg (.ref it) u) (fun _ s2=>∃x H',Inv X pins σ H' s2/\RelV x u/\J.yld i H x H'/\tn (i+1) s2.heap/\∀b∈fp,H' b=none) E s1) E s
 done:∀(X:Cx),X.prog=P->X.w=w->X.K=K->X.calm=true->∀(i:Nat) (pins:List (Addr×Obj)) (s:Shared) (σ:St) (H:Hp) (E:Value->Shared->Prop),Inv X pins σ H s->(∀b∈fp,FpOk X pins H b)->tn i s.heap->J.stop i H->
  wpAny (model P w) X.A (pyNext (.ref it)) (fun r s1=>r=none/\Inv X pins σ H s1) E s
 self:∀(A:Around) (i:Nat) (s:Shared) (Q:Value->Shared->Prop) (E:Value->Shared->Prop),tn i s.heap->Q (.ref it) s->wpAny (model P w) A (pyIter (.ref it)) Q E s
noncomputable abbrev TI:=St->Hp->(It->Hp->Prop)->Prop
def PIE(X:Cx)(pins:List (Addr×Obj))(σ:St)(tg:Expr)(R:It->Hp->Prop)(itv:Value)(s2:Shared):Prop:=
 ∃(it:Addr) (fp:List Addr) (tn:Nat->Heap->Prop) (J:It) (H':Hp),itv = .ref it/\Inv X pins σ H' s2/\Turn X.prog X.w X.K tg J fp it tn/\tn 0 s2.heap/\(∀b∈fp,FpOk X pins H' b)/\R J H'
def PI(X:Cx)(tg iter:Expr)(wi:TI):Prop:=
 ∀(pins:List (Addr×Obj)) (s:Shared) (σ:St) (H:Hp) (R:It->Hp->Prop),Inv X pins σ H s->wi σ H R->
  wpAny (model X.prog X.w) X.A (eval iter X.env) (fun v s1=>wpAny (model X.prog X.w) X.A (pyIter v) (PIE X pins σ tg R) X.xe s1) X.xe s
theorem j0h{M:Model}{A:Around}{E:Value->Shared->Prop}{s:Shared}{tg:Expr}{it:Addr}{u:Value}{o:Obj}{n:String}{vs:Array Value}{Q:Unit->Shared->Prop}(ho:s.heap.get? it=some o)(hc:o.cls = .type n)(hd:o.data = .fields vs)
    (hn:["enumerate","zip","dict_itemiterator","dict_reverseitemiterator","odict_iterator","itertools.zip_longest","itertools.pairwise"].contains n=false) (hQ:Q () s):wpAny M A (letOwnedTupleGo tg (.ref it) u) Q E s:=by
  unfold letOwnedTupleGo;cases tg<;>first
    | exact wpAny_pure hQ
    | (cases u<;>first
        | exact wpAny_pure hQ
        | (refine wpAny_bind (wpAny_load ho ?_)
           rw[hc,hd];show wpAny M A (if(["enumerate","zip","dict_itemiterator","dict_reverseitemiterator","odict_iterator","itertools.zip_longest","itertools.pairwise"].contains n&&vs[0]?==some (rawInt _))=true then _ else _) Q E s;rw[if_neg (by intro h;rw[hn,Bool.false_and]at h;cases h)];exact wpAny_pure hQ))
def Itl(K:Frg)(a:Addr):It:=
 ⟨fun i H=>∃xs x,SqL K H a xs/\xs[i]?=some x,fun i H x H'=>H'=H/\∀xs,SqL K H a xs->xs[i]?=some x,fun i H=>∃xs,SqL K H a xs/\xs.length<=i⟩
def Itt(K:Frg)(a:Addr):It:=
 ⟨fun i H=>∃xs x,SqT K H a xs/\xs[i]?=some x,fun i H x H'=>H'=H/\∀xs,SqT K H a xs->xs[i]?=some x,fun i H=>∃xs,SqT K H a xs/\xs.length<=i⟩
def Itr(lo:Int)(n:Nat):It:=⟨fun i _=>i<n,fun i H x H'=>H'=H/\x = .int (lo+i),fun i _=>n<=i⟩
theorem j06{P:Program}{w:World}{K:Frg}{tg:Expr}(a it:Addr):Turn P w K tg (Itl K a) [it] it (fun i h=>h.IsListIter it a i) where
 mem:=by simp
 obj:=fun i h st b hb=>by
  have e:b=it:=by simpa using hb
  subst e;obtain⟨o,e,c,d⟩:=st;exact⟨o,e,fun v z=>by rw[d]at z;cases z⟩
 keep:=fun i h h' st k=>st.at fun o e=>k it (by simp) o e
 item:=by
  intro X hP hw hK hc i pins s σ H E I hf st hg;subst hP hw hK;obtain⟨xs,x,hq,hx⟩:=hg;obtain⟨its,rv,p,hz⟩:=I.list hq;obtain⟨u,hu,ru⟩:=rv.get hx;obtain⟨f0,f1,f2,f3,f4,f5⟩:=hf it (by simp);refine wpAny_pyNext_list_item st p.isList (x:=u) (by simpa using hu) fun h' st' sb=>?_
  have I1:Inv X pins σ H {s with heap:=h'}:=I.turned (t':=s.toks) (fun b o hb e=>(sb.2 b hb).trans e) f0 f1 f3 f4 f5;obtain⟨o,e,c,d⟩:=id st';exact⟨u,rfl,j0h (s:={s with heap:=h'}) e c d (by decide) ⟨x,H,I1,ru,⟨rfl,fun ys hy=>by rw[I.list_inj hy hq];exact hx⟩,st',fun b hb=>(hf b hb).1⟩⟩
 done:=by
  intro X hP hw hK hc i pins s σ H E I hf st hg;subst hP hw hK;obtain⟨xs,hq,hx⟩:=hg;obtain⟨its,rv,p,hz⟩:=I.list hq;obtain⟨f0,f1,f2,f3,f4,f5⟩:=hf it (by simp);have hl:=rv.length;exact wpAny_pyNext_list_end (I.ok.hd hc) st p.isList (by simp;omega) fun h' eb=>⟨rfl,I.turned (t':=s.toks) (fun b o hb e=>eb b o hb e) f0 f1 f3 f4 f5⟩
 self:=fun _ _ _ _ _ st h=>wpAny_pyIter_listiter st h
theorem xI{P:Program}{w:World}{K:Frg}{tg:Expr}(a it:Addr):Turn P w K tg (Itt K a) [it] it (fun i h=>h.IsTupleIter it a i) where
 mem:=by simp
 obj:=fun i h st b hb=>by
  have e:b=it:=by simpa using hb
  subst e;obtain⟨o,e,c,d⟩:=st;exact⟨o,e,fun v z=>by rw[d]at z;cases z⟩
 keep:=fun i h h' st k=>st.at fun o e=>k it (by simp) o e
 item:=by
  intro X hP hw hK hc i pins s σ H E I hf st hg;subst hP hw hK;obtain⟨xs,x,hq,hx⟩:=hg;obtain⟨its,rv,p,hz⟩:=I.tuple hq;obtain⟨u,hu,ru⟩:=rv.get hx;obtain⟨f0,f1,f2,f3,f4,f5⟩:=hf it (by simp);refine wpAny_pyNext_tuple_item st (show s.heap.IsTuple a its.toArray from p) (x:=u) (by simpa using hu) fun h' st' sb=>?_
  have I1:Inv X pins σ H {s with heap:=h'}:=I.turned (t':=s.toks) (fun b o hb e=>(sb.2 b hb).trans e) f0 f1 f3 f4 f5;obtain⟨o,e,c,d⟩:=id st';exact⟨u,rfl,j0h (s:={s with heap:=h'}) e c d (by decide) ⟨x,H,I1,ru,⟨rfl,fun ys hy=>by rw[I.tuple_inj hy hq];exact hx⟩,st',fun b hb=>(hf b hb).1⟩⟩
 done:=by
  intro X hP hw hK hc i pins s σ H E I hf st hg;subst hP hw hK;obtain⟨xs,hq,hx⟩:=hg;obtain⟨its,rv,p,hz⟩:=I.tuple hq;obtain⟨f0,f1,f2,f3,f4,f5⟩:=hf it (by simp);have hl:=rv.length;exact wpAny_pyNext_tuple_end (I.ok.hd hc) st (show s.heap.IsTuple a its.toArray from p) (by simp;omega) fun h' eb=>⟨rfl,I.turned (t':=s.toks) (fun b o hb e=>eb b o hb e) f0 f1 f3 f4 f5⟩
 self:=fun _ _ _ _ _ st h=>wpAny_pyIter_tupleiter st h
theorem xH{P:Program}{w:World}{K:Frg}{tg:Expr}(it:Addr)(lo:Int)(n:Nat):Turn P w K tg (Itr lo n) [it] it (fun i h=>IsRangeIter h it (lo+(i:Nat)*1) ((n:Int)-(i:Nat)) 1) where
 mem:=by simp
 obj:=fun i h st b hb=>by
  have e:b=it:=by simpa using hb
  subst e;exact⟨_,st,fun v z=>by
   have z':Data.fields _=Data.cell v:=z;cases z'⟩
 keep:=fun i h h' st k=>k it (by simp) _ st
 item:=by
  intro X hP hw hK hc i pins s σ H E I hf st hg;subst hP hw hK;obtain⟨f0,f1,f2,f3,f4,f5⟩:=hf it (by simp);have W:=Walks.range (prog:=X.prog) (w:=X.w) (I.ok.hd hc) it lo 1 n;refine W.item i s _ _ hg st fun v h' tk hv st' kk=>?_
  obtain⟨t,rfl⟩:=hv;have I1:Inv X pins σ H {s with heap:=h',toks:=tk}:=I.turned (fun b o hb e=>kk b o (by simpa using hb) e) f0 f1 f3 f4 f5;refine⟨_,rfl,j0h (s:={s with heap:=h',toks:=tk}) (n:="range_iterator") st' rfl rfl (by decide) ⟨.int (lo+i),H,I1,⟨t,?_⟩,⟨rfl,rfl⟩,st',fun b hb=>(hf b hb).1⟩⟩;rw[Int.mul_one]
 done:=by
  intro X hP hw hK hc i pins s σ H E I hf st hg;subst hP hw hK;obtain⟨f0,f1,f2,f3,f4,f5⟩:=hf it (by simp);exact wpAny_pyNext_range_end (I.ok.hd hc) st (by have:n<=i:=hg;omega) fun h' eb=>⟨rfl,I.turned (t':=s.toks) (fun b o hb e=>eb b o hb e) f0 f1 f3 f4 f5⟩
 self:=fun _ _ _ _ _ st h=>wpAny_pyIter_rangeiter st h
section
variable{X:Cx}{tg:Expr}
def iList(K:Frg)(tl:TE):TI:=fun σ H R=>tl σ H fun x H1=>∃a,x = .ref a/\(∃xs,SqL K H1 a xs)/\R (Itl K a) H1
def iTup(K:Frg)(tl:TE):TI:=fun σ H R=>tl σ H fun x H1=>∃a,x = .ref a/\(∃xs,SqT K H1 a xs)/\R (Itt K a) H1
theorem jQ{l:Expr}{tl:TE}(hl:PE X l tl):PI X tg l (iList X.K tl):=by
 intro pins s σ H R I h;refine thn (hl pins s σ H _ I h) fun v s1 ⟨x,H1,I1,r1,q1⟩=>?_
 obtain⟨a,e,⟨xs,hq⟩,q⟩:=q1;subst e;cases r1;obtain⟨its,rv,p,hz⟩:=I1.list hq;refine wpAny_pyIter_list p.isList ?_;refine⟨s1.heap.objs.size,[s1.heap.objs.size],_,_,H1,rfl,I1.kept (t':=s1.toks) fun b o e=>Heap.get?_push_of_some _ e,j06 a _,⟨_,Heap.get?_push_size _ rfl,rfl,rfl⟩,fun b hb=>?_,q⟩;have e:b=s1.heap.objs.size:=by simpa using hb
 subst e;exact I1.fpOk (Nat.le_refl _) (I1.hok.fresh (Nat.le_refl _))
theorem Yu{l:Expr}{tl:TE}(hl:PE X l tl):PI X tg l (iTup X.K tl):=by
 intro pins s σ H R I h;refine thn (hl pins s σ H _ I h) fun v s1 ⟨x,H1,I1,r1,q1⟩=>?_
 obtain⟨a,e,⟨xs,hq⟩,q⟩:=q1;subst e;cases r1;obtain⟨its,rv,p,hz⟩:=I1.tuple hq;refine wpAny_pyIter_tuple (show s1.heap.IsTuple a its.toArray from p) ?_;refine⟨s1.heap.objs.size,[s1.heap.objs.size],_,_,H1,rfl,I1.kept (t':=s1.toks) fun b o e=>Heap.get?_push_of_some _ e,xI a _,⟨_,Heap.get?_push_size _ rfl,rfl,rfl⟩,fun b hb=>?_,q⟩;have e:b=s1.heap.objs.size:=by simpa using hb
 subst e;exact I1.fpOk (Nat.le_refl _) (I1.hok.fresh (Nat.le_refl _))
theorem j0K{pins:List (Addr×Obj)}{σ:St}{H:Hp}{s:Shared}{R:It->Hp->Prop}{E:Value->Shared->Prop}{lo hi:Int}{t u v:Tok}{tk:Nat}(I:Inv X pins σ H s)(h1 : -(2^62)<=lo)(h2:lo<2^62)(h3 : -(2^62)<=hi)(h4:hi<2^62)
  (q:R (Itr lo (hi-lo).toNat) H):wpAny (model X.prog X.w) X.A (pyIter (.ref s.heap.objs.size)) (PIE X pins σ tg R) E {s with heap:=s.heap.push {cls:=.type "range",data:=.fields #[.int lo t,.int hi u,.int 1 v]},toks:=tk}:=by
 refine wpAny_pyIter_range (IsRange.new ..) (small_one h1 h2 h3 h4) ?_;have I1:Inv X pins σ H {s with heap:=s.heap.push {cls:=.type "range",data:=.fields #[.int lo t,.int hi u,.int 1 v]},toks:=tk}:=I.kept fun b o e=>Heap.get?_push_of_some _ e
 refine⟨(s.heap.push {cls:=.type "range",data:=.fields #[.int lo t,.int hi u,.int 1 v]}).objs.size,[(s.heap.push {cls:=.type "range",data:=.fields #[.int lo t,.int hi u,.int 1 v]}).objs.size],_,_,H,rfl,
  I1.kept (t':=tk) fun b o e=>Heap.get?_push_of_some _ e,xH _ lo (hi-lo).toNat,?_,fun b hb=>?_,q⟩
 ·have e1:lo+((0:Nat):Int)*1=lo:=by simp
  have e2:(((hi-lo).toNat:Nat):Int)-((0:Nat):Int)=Builtin.Range.rangeSize lo hi 1:=by rw[rangeSize_one];split<;>omega
  show IsRangeIter _ _ (lo+((0:Nat):Int)*1) ((((hi-lo).toNat:Nat):Int)-((0:Nat):Int)) 1;rw[e1,e2];exact Heap.get?_push_size _ rfl
 ·have e:b=(s.heap.push {cls:=.type "range",data:=.fields #[.int lo t,.int hi u,.int 1 v]}).objs.size:=by simpa using hb
  subst e;exact I1.fpOk (Nat.le_refl _) (I1.hok.fresh (Nat.le_refl _))
def iRng1(ta:TA):TI:=fun σ H R=>ta σ H fun vs H1=>∃j:Int,vs=[.int j]/\-(2^62)<=j/\j<2^62/\R (Itr 0 j.toNat) H1
theorem qK{a:Expr}{ta:TA}{p pos:Pos}(hg:Gl X "range")(hm:X.mg "range"= none)(ha:PA X [a] ta)(hs:starEach [a] X.env=[(false,eval a X.env)]:=by rfl):PI X tg (.Call (.Name "range" p) [a] [] pos) (iRng1 ta):=by
 intro pins s σ H R I h;refine Call_ (Yq I hg hm boot_range (PyProof.Rows.callWith_type1 (thn (ha pos pins s σ H _ I h) fun us s1 ⟨vs,H1,I1,r1,q1⟩=>?_) hs rfl));obtain⟨j,e,q1,q2,q⟩:=q1;subst e;cases r1 with
 | cons r rr=>
  cases rr;obtain⟨t,rfl⟩:=r;exact call_range_1 (j0K I1 (by omega) (by omega) q1 q2 (by simpa using q))
def tFor(wi:TI)(g:TG)(tb:TS):TS:=fun D σ H=>wi σ H fun J H1=>∃W:Nat->Nat->St->Hp->Prop,(∃m,W 0 m σ H1)/\∀i m σ H,W i m σ H->
 (J.stop i H/\D.nx σ H)\/(J.go i H/\∃N:St->Hp->Prop,(∀σ' H',N σ' H'->∃m',m'<m/\W (i+1) m' σ' H')/\∀x H',J.yld i H x H'->g x σ H' fun σ2 H2=>tb {D with nx:=N,ct:=N,bk:=D.nx} σ2 H2)
noncomputable def pinsAt(fp:List Addr)(h:Heap):List (Addr×Obj):=fp.filterMap fun b=>(h.get? b).map fun o=>(b,o)
theorem QY{fp:List Addr}{h:Heap}{b:Addr}{o:Obj}(hb:b∈fp)(e:h.get? b=some o):(b,o)∈pinsAt fp h:=List.mem_filterMap.mpr ⟨b,hb,by rw[e];rfl⟩
theorem X6{fp:List Addr}{h:Heap}{p:Addr×Obj}(hp:p∈pinsAt fp h):p.1∈fp/\h.get? p.1=some p.2:=by
 obtain⟨b,hb,e⟩:=List.mem_filterMap.mp hp;cases q:h.get? b with
 | none=>rw[q]at e;cases e
 | some o=>
  rw[q]at e;have e':(b,o)=p:=Option.some.inj e;subst e';exact⟨hb,q⟩
theorem Inv.pinned{pins:List (Addr×Obj)}{σ:St}{H:Hp}{s:Shared}{fp:List Addr}(I:Inv X pins σ H s)(hf:∀b∈fp,FpOk X pins H b)(ho:∀b∈fp,∃o,s.heap.get? b=some o/\∀v,o.data≠.cell v):Inv X (pins++pinsAt fp s.heap) σ H s:=
 I.pins_of fun p hp=>(mem_append.mp hp).elim (fun z=>I.pin p (mem_append_right _ z)) fun z=>by
  obtain⟨hb,e⟩:=X6 z;obtain⟨f0,f1,f2,_⟩:=hf p.1 hb;obtain⟨o,e',d⟩:=ho p.1 hb;rw[e]at e';cases e';exact⟨e,f0,f1,f2,d⟩
theorem Inv.unpinned{pins pl:List (Addr×Obj)}{σ:St}{H:Hp}{s:Shared}(I:Inv X (pins++pl) σ H s):Inv X pins σ H s:=I.pins_of fun p hp=>I.pin p (mem_append_right _ (mem_append_left _ hp))
theorem qh{iter:Expr}{body:List Stmt}{wi:TI}{g:TG}{tb:TS}{pos:Pos}(hp:PassesOwn (model X.prog X.w) X.A X.env X.xe)(hc:X.calm=true)(hi:PI X tg iter wi)(hg:PG X tg g)(hb:PSs X body tb)
  (hs:∀x,foldedSetIterable iter X.env x=pure x:=by intro _;rfl):PS X (.For tg iter body [] pos) (tFor wi g tb):=by
 intro pins s σ H D I h;refine wpAny_For (thn (hi pins s σ H _ I h) fun v s1 h1=>thn h1 fun itv s2 h2=>?_) hs;obtain⟨it,fp,tn,J,H2,e,I2,T,st2,f2,W,⟨m0,w0⟩,turn⟩:=h2;subst e;have stat:∀{H':Hp},(∀b∈fp,H' b=none)->∀b∈fp,FpOk X pins H' b:=fun hn b hb=>⟨hn b hb,(f2 b hb).2⟩
 refine codeAny_forLoop_any (fun n s'=>∃i σ' H',Inv X pins σ' H' s'/\tn i s'.heap/\(∀b∈fp,H' b=none)/\W i n σ' H') ?_ m0 ⟨0,σ,H2,I2,st2,fun b hb=>(f2 b hb).1,w0⟩;rintro n s3 ⟨i,σ3,H3,I3,st3,fr3,w3⟩;rcases turn i n σ3 H3 w3 with⟨stop,qn⟩ | ⟨go,N,hN,step⟩
 ·refine wpAny_passesOwn hp (thn (T.done X rfl rfl rfl hc i pins s3 σ3 H3 X.xe I3 (stat fr3) st3 stop) fun r s4 ⟨hr,I4⟩=>?_);subst hr;exact wpAny_execs_nil ⟨σ3,H3,I4,qn⟩
 ·refine wpAny_passesOwn hp (thn (T.item X rfl rfl rfl hc i pins s3 σ3 H3 X.xe I3 (stat fr3) st3 go) fun r s4 ⟨u,hr,h4⟩=>?_);subst hr;refine wpAny_passesOwn hp (thn h4 fun _ s5 ⟨x,H5,I5,r5,y5,st5,fr5⟩=>?_);have I5':=I5.pinned (stat fr5) (T.obj _ _ st5);refine wpAny_passesOwn hp (thn (hg _ s5 σ3 H5 x u _ I5' r5 (step x H5 y5)) fun _ s6 ⟨σ6,H6,I6,q6⟩=>?_);refine wpAny_passesOwn hp (thn (hb _ s6 σ6 H6 _ I6 q6) fun f s7 q7=>?_);have again:∀{σ7:St} {H7:Hp},Inv X (pins++pinsAt fp s5.heap) σ7 H7 s7->N σ7 H7->∃m,m<n/\∃i σ' H',Inv X pins σ' H' s7/\tn i s7.heap/\(∀b∈fp,H' b=none)/\W i m σ' H':=fun {σ7 H7} I7 n7=>by
   obtain⟨m',hm,w7⟩:=hN σ7 H7 n7;refine⟨m',hm,i+1,σ7,H7,I7.unpinned,T.keep _ _ _ st5 fun b hb o e=>(I7.pin (b,o) (mem_append_right _ (mem_append_right _ (QY hb e)))).1,fun b hb=>?_,w7⟩;obtain⟨o,e,d⟩:=T.obj _ _ st5 b hb;exact(I7.pin (b,o) (mem_append_right _ (mem_append_right _ (QY hb e)))).2.1
  cases f with
  | next=>obtain⟨σ7,H7,I7,n7⟩:=q7;exact again I7 n7
  | cont=>obtain⟨σ7,H7,I7,n7⟩:=q7;exact again I7 n7
  | brk=>obtain⟨σ7,H7,I7,q7⟩:=q7;exact⟨σ7,H7,I7.unpinned,q7⟩
  | ret v=>obtain⟨x7,σ7,H7,I7,r7,q7⟩:=q7;exact⟨x7,σ7,H7,I7.unpinned,r7,q7⟩
end
theorem Zi{K:Frg}{a:Addr}{xs:List V}{g:TG}{tb:TS}{D:Ends}{σ:St}{H:Hp}(Pv:Nat->St->Hp->Prop)(h0:Pv 0 σ H)(hl:∀i σ H,i<=xs.length->Pv i σ H->SqL K H a xs)
  (hs:∀i x σ H,xs[i]?=some x->Pv i σ H->g x σ H fun σ2 H2=>tb {D with nx:=Pv (i+1),ct:=Pv (i+1),bk:=D.nx} σ2 H2) (hd:∀σ H,Pv xs.length σ H->D.nx σ H) :
  ∃W:Nat->Nat->St->Hp->Prop,(∃m,W 0 m σ H)/\∀i m σ H,W i m σ H->
   ((Itl K a).stop i H/\D.nx σ H)\/((Itl K a).go i H/\∃N:St->Hp->Prop,(∀σ' H',N σ' H'->∃m',m'<m/\W (i+1) m' σ' H')/\∀x H',(Itl K a).yld i H x H'->g x σ H' fun σ2 H2=>tb {D with nx:=N,ct:=N,bk:=D.nx} σ2 H2):=by
 refine⟨fun i m σ H=>m=xs.length-i/\i<=xs.length/\Pv i σ H,⟨xs.length,by simp,Nat.zero_le _,h0⟩,?_⟩;rintro i m σ H ⟨rfl,hi,p⟩;have q:=hl i σ H hi p;by_cases hlt:i<xs.length
 ·refine .inr ⟨⟨xs,xs[i],q,by simp[hlt]⟩,Pv (i+1),fun σ' H' p'=>⟨xs.length-(i+1),by omega,rfl,hlt,p'⟩,fun x H' y=>?_⟩;obtain⟨e,y⟩:=y;subst e;exact hs i x σ _ (y xs q) p
 ·have e:i=xs.length:=by omega
  subst e;exact .inl ⟨⟨xs,q,Nat.le_refl _⟩,hd σ H p⟩
theorem x9{K:Frg}{a:Addr}{xs:List V}{g:TG}{tb:TS}{D:Ends}{σ:St}{H:Hp}(Pv:Nat->St->Hp->Prop)(h0:Pv 0 σ H)(hl:∀i σ H,i<=xs.length->Pv i σ H->SqT K H a xs)
  (hs:∀i x σ H,xs[i]?=some x->Pv i σ H->g x σ H fun σ2 H2=>tb {D with nx:=Pv (i+1),ct:=Pv (i+1),bk:=D.nx} σ2 H2) (hd:∀σ H,Pv xs.length σ H->D.nx σ H) :
  ∃W:Nat->Nat->St->Hp->Prop,(∃m,W 0 m σ H)/\∀i m σ H,W i m σ H->
   ((Itt K a).stop i H/\D.nx σ H)\/((Itt K a).go i H/\∃N:St->Hp->Prop,(∀σ' H',N σ' H'->∃m',m'<m/\W (i+1) m' σ' H')/\∀x H',(Itt K a).yld i H x H'->g x σ H' fun σ2 H2=>tb {D with nx:=N,ct:=N,bk:=D.nx} σ2 H2):=by
 refine⟨fun i m σ H=>m=xs.length-i/\i<=xs.length/\Pv i σ H,⟨xs.length,by simp,Nat.zero_le _,h0⟩,?_⟩;rintro i m σ H ⟨rfl,hi,p⟩;have q:=hl i σ H hi p;by_cases hlt:i<xs.length
 ·refine .inr ⟨⟨xs,xs[i],q,by simp[hlt]⟩,Pv (i+1),fun σ' H' p'=>⟨xs.length-(i+1),by omega,rfl,hlt,p'⟩,fun x H' y=>?_⟩;obtain⟨e,y⟩:=y;subst e;exact hs i x σ _ (y xs q) p
 ·have e:i=xs.length:=by omega
  subst e;exact .inl ⟨⟨xs,q,Nat.le_refl _⟩,hd σ H p⟩
theorem Qf{lo:Int}{n:Nat}{g:TG}{tb:TS}{D:Ends}{σ:St}{H:Hp}(Pv:Nat->St->Hp->Prop)(h0:Pv 0 σ H)
  (hs:∀i σ H,i<n->Pv i σ H->g (.int (lo+i)) σ H fun σ2 H2=>tb {D with nx:=Pv (i+1),ct:=Pv (i+1),bk:=D.nx} σ2 H2) (hd:∀σ H,Pv n σ H->D.nx σ H) :
  ∃W:Nat->Nat->St->Hp->Prop,(∃m,W 0 m σ H)/\∀i m σ H,W i m σ H->
   ((Itr lo n).stop i H/\D.nx σ H)\/((Itr lo n).go i H/\∃N:St->Hp->Prop,(∀σ' H',N σ' H'->∃m',m'<m/\W (i+1) m' σ' H')/\∀x H',(Itr lo n).yld i H x H'->g x σ H' fun σ2 H2=>tb {D with nx:=N,ct:=N,bk:=D.nx} σ2 H2):=by
 refine⟨fun i m σ H=>m=n-i/\i<=n/\Pv i σ H,⟨n,by simp,Nat.zero_le _,h0⟩,?_⟩;rintro i m σ H ⟨rfl,hi,p⟩;by_cases hlt:i<n
 ·refine .inr ⟨hlt,Pv (i+1),fun σ' H' p'=>⟨n-(i+1),by omega,rfl,hlt,p'⟩,fun x H' y=>?_⟩;obtain⟨e,y⟩:=y;subst e y;exact hs i σ _ hlt p
 ·have e:i=n:=by omega
  subst e;exact .inl ⟨Nat.le_refl _,hd σ H p⟩
noncomputable abbrev R2:=V->V->Hp->VK->Prop
def OpR(X:Cx)(f:Value->Value->Sem Value)(r:R2):Prop:=
 ∀(pins:List (Addr×Obj)) (s:Shared) (σ:St) (H:Hp) (x y:V) (v u:Value) (Q:VK),Inv X pins σ H s->RelV x v->RelV y u->r x y H Q->
  wpAny (model X.prog X.w) X.A (f v u) (EP X pins σ Q) X.xe s
def UnR(X:Cx)(f:Value->Sem Value)(r:V->Hp->VK->Prop):Prop:=
 ∀(pins:List (Addr×Obj)) (s:Shared) (σ:St) (H:Hp) (x:V) (v:Value) (Q:VK),Inv X pins σ H s->RelV x v->r x H Q->
  wpAny (model X.prog X.w) X.A (f v) (EP X pins σ Q) X.xe s
def CallR(X:Cx)(f:Value)(r:List V->Hp->VK->Prop):Prop:=
 ∀(pins:List (Addr×Obj)) (s:Shared) (σ:St) (H:Hp) (xs:List V) (us:List Value) (Q:VK),Inv X pins σ H s->Vals xs us->r xs H Q->
  wpAny (model X.prog X.w) X.A (call f us) (EP X pins σ Q) X.xe s
def tOp(r:R2)(ta tb:TE):TE:=fun σ H Q=>ta σ H fun x H1=>tb σ H1 fun y H2=>r x y H2 Q
def tUn(r:V->Hp->VK->Prop)(ta:TE):TE:=fun σ H Q=>ta σ H fun x H1=>r x H1 Q
def rI(C:Int->Int->Prop)(g:Int->Int->V):R2:=fun x y H Q=>∃i j,x = .int i/\y = .int j/\C i j/\Q (g i j) H
def rI0(g:Int->Int->V):R2:=fun x y H Q=>∃i j,x = .int i/\y = .int j/\Q (g i j) H
noncomputable def rU(g:Int->V):V->Hp->VK->Prop:=fun x H Q=>∃i,x = .int i/\Q (g i) H
section
variable{X:Cx}{a b c:Expr}{ta tb tc:TE}{pos:Pos}
theorem binT(ha:PE X a ta)(hb:PE X b tb){pins:List (Addr×Obj)}{s:Shared}{σ:St}{H:Hp}{R:V->V->Hp->Prop}(I:Inv X pins σ H s)
  (h:ta σ H fun x H1=>tb σ H1 fun y H2=>R x y H2) {Q:Value->Shared->Prop} {f:Value->Value->Sem Value}
  (hf:∀v u s2 x y H2,Inv X pins σ H2 s2->RelV x v->RelV y u->R x y H2->wpAny (model X.prog X.w) X.A (f v u) Q X.xe s2) :
  wpAny (model X.prog X.w) X.A (eval a X.env) (fun v s₁=>wpAny (model X.prog X.w) X.A (eval b X.env) (fun u s₂=>wpAny (model X.prog X.w) X.A (f v u) Q X.xe s₂) X.xe s₁) X.xe s:=by
 refine thn (ha pins s σ H _ I h) fun v s1 ⟨x,H1,I1,r1,q1⟩=>?_
 refine thn (hb pins s1 σ H1 _ I1 q1) fun u s2 ⟨y,H2,I2,r2,q2⟩=>?_
 exact hf v u s2 x y H2 I2 r1 r2 q2
theorem jk{op:Operator}{r:R2}(ho:OpR X (binaryOp op) r)(ha:PE X a ta)(hb:PE X b tb):PE X (.BinOp a op b pos) (tOp r ta tb):=by
 intro pins s σ H Q I h;exact wpAny_BinOp (binT ha hb I h fun v u s2 x y H2 I2 rx ry q=>ho pins s2 σ H2 x y v u Q I2 rx ry q)
theorem j2T{op:UnaryOp}{r:V->Hp->VK->Prop}(ho:UnR X (unaryOp op) r)(ha:PE X a ta):PE X (.UnaryOp op a pos) (tUn r ta):=by
 intro pins s σ H Q I h;exact UnaryOp_ (thn (ha pins s σ H _ I h) fun v s1 ⟨x,H1,I1,r1,q1⟩=>ho pins s1 σ H1 x v Q I1 r1 q1)
theorem opI{f:Value->Value->Sem Value}{C:Int->Int->Prop}{g:Int->Int->Int}
  (rule:∀(i j:Int) (t u:Tok) (s:Shared) (Q:Value->Shared->Prop) (E:Value->Shared->Prop),C i j->Q (.int (g i j) s.toks) {s with toks:=s.toks+1}->wpAny (model X.prog X.w) X.A (f (.int i t) (.int j u)) Q E s) :
  OpR X f (rI C fun i j=>.int (g i j)):=by
 intro pins s σ H x y v u Q I rx ry h;obtain⟨i,j,rfl,rfl,hc,q⟩:=h;obtain⟨t,rfl⟩:=rx;obtain⟨t',rfl⟩:=ry;exact rule i j t t' s _ _ hc ⟨.int (g i j),H,I.tok _,⟨_,rfl⟩,q⟩
theorem opI0{f:Value->Value->Sem Value}{g:Int->Int->Int}
  (rule:∀(i j:Int) (t u:Tok) (s:Shared) (Q:Value->Shared->Prop) (E:Value->Shared->Prop),Q (.int (g i j) s.toks) {s with toks:=s.toks+1}->wpAny (model X.prog X.w) X.A (f (.int i t) (.int j u)) Q E s) :
  OpR X f (rI0 fun i j=>.int (g i j)):=by
 intro pins s σ H x y v u Q I rx ry h;obtain⟨i,j,rfl,rfl,q⟩:=h;obtain⟨t,rfl⟩:=rx;obtain⟨t',rfl⟩:=ry;exact rule i j t t' s _ _ ⟨.int (g i j),H,I.tok _,⟨_,rfl⟩,q⟩
theorem opB0{f:Value->Value->Sem Value}{g:Int->Int->Bool}
  (rule:∀(i j:Int) (t u:Tok) (s:Shared) (Q:Value->Shared->Prop) (E:Value->Shared->Prop),Q (.bool (g i j)) s->wpAny (model X.prog X.w) X.A (f (.int i t) (.int j u)) Q E s) :
  OpR X f (rI0 fun i j=>.bl (g i j)):=by
 intro pins s σ H x y v u Q I rx ry h;obtain⟨i,j,rfl,rfl,q⟩:=h;obtain⟨t,rfl⟩:=rx;obtain⟨t',rfl⟩:=ry;exact rule i j t t' s _ _ ⟨.bl (g i j),H,I,rfl,q⟩
def CPow(i j:Int):Prop:=0<=j/\j<=1000000/\i.natAbs<2^64
theorem jT:OpR X (binaryOp .Add) (rI0 fun i j=>.int (i+j)):=opI0 fun _ _ _ _ _ _ _ q=>add_int q
theorem yy:OpR X (binaryOp .Sub) (rI0 fun i j=>.int (i-j)):=opI0 fun _ _ _ _ _ _ _ q=>sub_int q
theorem jC:OpR X (binaryOp .Mod) (rI (fun _ j=>0<j) fun i j=>.int (i%j)):=opI fun i j _ _ _ _ _ hc q=>by
 have h1:(0:Int)<j:=hc;exact mod_int' (by omega) (by rw[Int.fmod_eq_emod_of_nonneg i (by omega)];exact q)
theorem qv:OpR X (binaryOp .Pow) (rI CPow fun i j=>.int (i^j.toNat)):=opI fun _ _ _ _ _ _ _ hc q=>pow_int_small hc.1 hc.2.1 hc.2.2 q
theorem unI{f:Value->Sem Value}{g:Int->Int}
  (rule:∀(i:Int) (t:Tok) (s:Shared) (Q:Value->Shared->Prop) (E:Value->Shared->Prop),Q (.int (g i) s.toks) {s with toks:=s.toks+1}->wpAny (model X.prog X.w) X.A (f (.int i t)) Q E s) :
  UnR X f (rU fun i=>.int (g i)):=by
 intro pins s σ H x v Q I rx h;obtain⟨i,rfl,q⟩:=h;obtain⟨t,rfl⟩:=rx;exact rule i t s _ _ ⟨.int (g i),H,I.tok _,⟨_,rfl⟩,q⟩
theorem j2H:UnR X (unaryOp .USub) (rU fun i=>.int (-i)):=unI fun _ _ _ _ _ q=>neg_int q
end
noncomputable def scal:V->V->Bool
 | .non,.non=>true | .non,.int _=>true | .int _,.non=>true | .non,.bl _=>true | .bl _,.non=>true | .non,.str _=>true | .str _,.non=>true
 | .int _,.int _=>true | .bl _,.bl _=>true | .str _,.str _=>true | .byt _,.byt _=>true
 | .int _,.str _=>true | .str _,.int _=>true | .bl _,.str _=>true | .str _,.bl _=>true
 | _,_=>false
def rEq:R2:=fun x y H Q=>scal x y=true/\Q (.bl (decide (x=y))) H
def rNe:R2:=fun x y H Q=>scal x y=true/\Q (.bl (!decide (x=y))) H
theorem xT{i j:Int}:decide (V.int i=V.int j)=(i==j):=by
 rw[Bool.eq_iff_iff];simp
theorem j0d{i j:Bool}:decide (V.bl i=V.bl j)=(i==j):=by
 rw[Bool.eq_iff_iff];simp
theorem xU{i j:Str}:decide (V.str i=V.str j)=(i==j):=by
 rw[Bool.eq_iff_iff];simp
theorem xS{i j:Array UInt8}:decide (V.byt i=V.byt j)=(i.toList==j.toList):=by
 rw[Bool.eq_iff_iff];cases i;cases j;simp
section
variable{X:Cx}{a b c:Expr}{ta tb tc:TE}{pos:Pos}
theorem jS{pins:List (Addr×Obj)}{σ:St}{H:Hp}{s:Shared}{Q:VK}{k k':Bool}(I:Inv X pins σ H s)(q:Q (.bl k) H)(e:k=k'):EP X pins σ Q (.bool k') s:=by
 subst e;exact⟨.bl k,H,I,rfl,q⟩
theorem Jh:OpR X (compareOp .Eq) rEq:=by
 intro pins s σ H x y v u Q I rx ry h;obtain⟨hs,q⟩:=h;cases x with
 | non=>
  cases rx;cases y with
  | non=>cases ry;exact PySem.EqNone.eq_none_none (jS I q (by simp))
  | bl j=>cases ry;exact PySem.EqNone.eq_none_bool (jS I q (by simp))
  | int j=>obtain⟨t',rfl⟩:=ry;exact PySem.EqNone.eq_none_int (jS I q (by simp))
  | str j=>obtain⟨t',rfl⟩:=ry;exact PySem.EqNone.eq_none_str (jS I q (by simp))
  | _=>exact absurd (show false=true from hs) Bool.false_ne_true
 | bl i=>
  cases rx;cases y with
  | non=>cases ry;exact PySem.EqNone.eq_bool_none (jS I q (by simp))
  | bl j=>cases ry;exact eq_bool (jS I q j0d)
  | str j=>obtain⟨t',rfl⟩:=ry;exact PySem.EqMixed.eq_bool_str (jS I q (by simp))
  | _=>exact absurd (show false=true from hs) Bool.false_ne_true
 | int i=>
  obtain⟨t,rfl⟩:=rx;cases y with
  | non=>cases ry;exact PySem.EqNone.eq_int_none (jS I q (by simp))
  | int j=>obtain⟨t',rfl⟩:=ry;exact eq_int (jS I q xT)
  | str j=>obtain⟨t',rfl⟩:=ry;exact PySem.EqMixed.eq_int_str (jS I q (by simp))
  | _=>exact absurd (show false=true from hs) Bool.false_ne_true
 | str i=>
  obtain⟨t,rfl⟩:=rx;cases y with
  | non=>cases ry;exact PySem.EqNone.eq_str_none (jS I q (by simp))
  | bl j=>cases ry;exact PySem.EqMixed.eq_str_bool (jS I q (by simp))
  | int j=>obtain⟨t',rfl⟩:=ry;exact PySem.EqMixed.eq_str_int (jS I q (by simp))
  | str j=>obtain⟨t',rfl⟩:=ry;exact eq_str (jS I q xU)
  | _=>exact absurd (show false=true from hs) Bool.false_ne_true
 | byt i=>
  obtain⟨t,rfl⟩:=rx;cases y with
  | byt j=>obtain⟨t',rfl⟩:=ry;exact PySem.W.eq_bytes (jS I q xS)
  | _=>exact absurd (show false=true from hs) Bool.false_ne_true
 | _=>cases y<;>exact absurd (show false=true from hs) Bool.false_ne_true
theorem j0A:OpR X (compareOp .NotEq) rNe:=by
 intro pins s σ H x y v u Q I rx ry h;obtain⟨hs,q⟩:=h;cases x with
 | non=>
  cases rx;cases y with
  | non=>cases ry;exact PySem.EqNone.ne_none_none (jS I q (by simp))
  | bl j=>cases ry;exact PySem.EqNone.ne_none_bool (jS I q (by simp))
  | int j=>obtain⟨t',rfl⟩:=ry;exact PySem.EqNone.ne_none_int (jS I q (by simp))
  | str j=>obtain⟨t',rfl⟩:=ry;exact PySem.EqNone.ne_none_str (jS I q (by simp))
  | _=>exact absurd (show false=true from hs) Bool.false_ne_true
 | bl i=>
  cases rx;cases y with
  | non=>cases ry;exact PySem.EqNone.ne_bool_none (jS I q (by simp))
  | bl j=>cases ry;exact ne_bool (jS I q (congrArg not j0d))
  | str j=>obtain⟨t',rfl⟩:=ry;exact PySem.EqMixed.ne_bool_str (jS I q (by simp))
  | _=>exact absurd (show false=true from hs) Bool.false_ne_true
 | int i=>
  obtain⟨t,rfl⟩:=rx;cases y with
  | non=>cases ry;exact PySem.EqNone.ne_int_none (jS I q (by simp))
  | int j=>obtain⟨t',rfl⟩:=ry;exact ne_int (jS I q (congrArg not xT))
  | str j=>obtain⟨t',rfl⟩:=ry;exact PySem.EqMixed.ne_int_str (jS I q (by simp))
  | _=>exact absurd (show false=true from hs) Bool.false_ne_true
 | str i=>
  obtain⟨t,rfl⟩:=rx;cases y with
  | non=>cases ry;exact PySem.EqNone.ne_str_none (jS I q (by simp))
  | bl j=>cases ry;exact PySem.EqMixed.ne_str_bool (jS I q (by simp))
  | int j=>obtain⟨t',rfl⟩:=ry;exact PySem.EqMixed.ne_str_int (jS I q (by simp))
  | str j=>obtain⟨t',rfl⟩:=ry;exact ne_str (jS I q (congrArg not xU))
  | _=>exact absurd (show false=true from hs) Bool.false_ne_true
 | byt i=>
  obtain⟨t,rfl⟩:=rx;cases y with
  | byt j=>obtain⟨t',rfl⟩:=ry;exact PySem.W.ne_bytes (jS I q (congrArg not xS))
  | _=>exact absurd (show false=true from hs) Bool.false_ne_true
 | _=>cases y<;>exact absurd (show false=true from hs) Bool.false_ne_true
theorem KH:OpR X (compareOp .Lt) (rI0 fun i j=>.bl (decide (i<j))):=opB0 fun _ _ _ _ _ _ _ q=>lt_int q
theorem Zm:OpR X (compareOp .Gt) (rI0 fun i j=>.bl (decide (j<i))):=opB0 fun _ _ _ _ _ _ _ q=>gt_int q
theorem j2S:OpR X (compareOp .GtE) (rI0 fun i j=>.bl (decide (j<=i))):=opB0 fun _ _ _ _ _ _ _ q=>ge_int q
theorem j0z:OpR X (compareOp .Is) (fun x y H Q=>y = .non/\Q (.bl (decide (x = .non))) H):=by
 intro pins s σ H x y v u Q I rx ry h;obtain⟨rfl,q⟩:=h;cases ry;refine is_none_gen (jS I q ?_);cases x<;>first
  | (cases rx;rfl)
  | (obtain⟨t,rfl⟩:=rx;rfl)
theorem nomark(b:Expr){op:CmpOp}(h:op≠.In:=by decide)(h2:op≠.NotIn:=by decide):behindInMarks op b=false:=by
 have e1:(op==CmpOp.In)=false:=by cases op<;>first | rfl | exact absurd rfl h
 have e2:(op==CmpOp.NotIn)=false:=by cases op<;>first | rfl | exact absurd rfl h2
 cases b<;>simp[behindInMarks,e1,e2]
theorem Y2{op:CmpOp}{r:R2}(ho:OpR X (compareOp op) r)(ha:PE X a ta)(hb:PE X b tb)(hm:behindInMarks op b=false):PE X (.Compare a [op] [b] pos) (tOp r ta tb):=by
 intro pins s σ H Q I h;exact wpAny_Compare1 (binT ha hb I h fun v u s2 x y H2 I2 rx ry q=>ho pins s2 σ H2 x y v u Q I2 rx ry q) hm
def tTest(t:TE):TT:=fun σ H Q=>t σ H fun x H'=>∃k,x = .bl k/\Q k H'
theorem jm{op:CmpOp}{r:R2}(ho:OpR X (compareOp op) r)(ha:PE X a ta)(hb:PE X b tb)(hm:behindInMarks op b=false):PT X (.Compare a [op] [b] pos) (tTest (tOp r ta tb)):=by
 intro pins s σ H Q I h;refine wpAny_isTrue_Compare1 (thn (ha pins s σ H _ I h) fun v s1 ⟨x,H1,I1,r1,q1⟩=>thn (hb pins s1 σ H1 _ I1 q1) fun u s2 ⟨y,H2,I2,r2,q2⟩=>
  thn (ho pins s2 σ H2 x y v u _ I2 r1 r2 q2) fun c s3 ⟨z,H3,I3,r3,k,e,q3⟩=>?_) hm
 subst e;cases r3;exact wpAny_truthy_bool ⟨H3,I3,q3⟩
theorem line63:(sizeLine:Nat)<2^63:=by rw[sizeLine_eq];decide
theorem zJ:OpR X (binaryOp .Add) (fun x y H Q=>∃i j,x = .str i/\y = .str j/\i.length+j.length<=sizeLine/\Q (.str (i++j)) H):=by
 intro pins s σ H x y v u Q I rx ry h;obtain⟨i,j,rfl,rfl,hz,q⟩:=h;obtain⟨t,rfl⟩:=rx;obtain⟨t',rfl⟩:=ry;exact add_str (fun t' tk=>⟨.str (i++j),H,I.tok _,⟨_,rfl⟩,q⟩) hz
theorem vals1{x:V}{us:List Value}(r:Vals [x] us):∃u,us=[u]/\RelV x u:=by
 cases r with
 | cons r1 r2=>cases r2;exact⟨_,rfl,r1⟩
theorem vals2{x y:V}{us:List Value}(r:Vals [x,y] us):∃u w',us=[u,w']/\RelV x u/\RelV y w':=by
 cases r with
 | cons r1 r2=>
  cases r2 with
  | cons r3 r4=>cases r4;exact⟨_,_,rfl,r1,r3⟩
theorem XB(hc:X.calm=true):CallR X (.builtin "max") (fun xs H Q=>∃i j,xs=[.int i,.int j]/\Q (.int (if j>i then j else i)) H):=by
 intro pins s σ H xs us Q I r h;obtain⟨i,j,rfl,q⟩:=h;obtain⟨u,w',rfl,⟨t,rfl⟩,⟨t',rfl⟩⟩:=vals2 r;refine max_two_ints (I.ok.hd hc) fun h' tk k=>⟨_,H,I.kept k,?_,q⟩
 by_cases hj:j>i
 ·rw[if_pos hj,if_pos hj];exact⟨_,rfl⟩
 ·rw[if_neg hj,if_neg hj];exact⟨_,rfl⟩
theorem Kr(hc:X.calm=true):CallR X (.builtin "min") (fun xs H Q=>∃i j,xs=[.int i,.int j]/\Q (.int (if j<i then j else i)) H):=by
 intro pins s σ H xs us Q I r h;obtain⟨i,j,rfl,q⟩:=h;obtain⟨u,w',rfl,⟨t,rfl⟩,⟨t',rfl⟩⟩:=vals2 r;refine min_two_ints (I.ok.hd hc) fun h' tk k=>⟨_,H,I.kept k,?_,q⟩
 by_cases hj:j<i
 ·rw[if_pos hj,if_pos hj];exact⟨_,rfl⟩
 ·rw[if_neg hj,if_neg hj];exact⟨_,rfl⟩
theorem Xy:CallR X (.type "int") (fun xs H Q=>(∃i,xs=[.int i]/\Q (.int i) H)\/∃k,xs=[.bl k]/\Q (.int (if k then 1 else 0)) H):=by
 intro pins s σ H xs us Q I r h;rcases h with⟨i,rfl,q⟩ | ⟨k,rfl,q⟩
 ·obtain⟨u,rfl,t,rfl⟩:=vals1 r;exact call_int_int ⟨.int i,H,I,⟨_,rfl⟩,q⟩
 ·obtain⟨u,rfl,r1⟩:=vals1 r;cases r1;exact call_int_bool ⟨.int (if k then 1 else 0),H,I.tok _,⟨_,rfl⟩,q⟩
def LenV(K:Frg)(x:V)(H:Hp)(n:Nat):Prop:=
 match x with
 | .str y=>y.length<=sizeLine/\n=y.length
 | .byt y=>y.size<=sizeLine/\n=y.size
 | .ref p=>(∃xs,SqL K H p xs/\n=xs.length)\/∃xs,SqT K H p xs/\n=xs.length
 | _=>False
theorem jX:CallR X (.builtin "len") (fun xs H Q=>∃x n,xs=[x]/\LenV X.K x H n/\Q (.int n) H):=by
 intro pins s σ H xs us Q I r h;obtain⟨x,n,rfl,e,q⟩:=h;obtain⟨u,rfl,rx⟩:=vals1 r;have hl:=line63;have hs:sizeLine=16777216:=sizeLine_eq;cases x with
 | str y=>
  obtain⟨t,rfl⟩:=rx;obtain⟨hy,e'⟩:y.length<=sizeLine/\n=y.length:=e;subst e';exact len_str (by omega) ⟨.int _,H,I.tok _,⟨_,rfl⟩,q⟩
 | byt y=>
  obtain⟨t,rfl⟩:=rx;obtain⟨hy,e'⟩:y.size<=sizeLine/\n=y.size:=e;subst e';exact PySem.W.len_bytes (by omega) ⟨.int _,H,I.tok _,⟨_,rfl⟩,q⟩
 | ref p=>
  cases rx;have e':(∃xs,SqL X.K H p xs/\n=xs.length)\/∃xs,SqT X.K H p xs/\n=xs.length:=e;rcases e' with⟨xs,hx,e'⟩ | ⟨xs,hx,e'⟩
  ·subst e';obtain⟨its,r',pl,hz⟩:=I.list hx;have hlen:=r'.length;exact Calls.call_len_list pl.isList (by simp only[size_toArray];omega) ⟨.int xs.length,H,I.tok _,⟨_,by simp only[size_toArray];rw[hlen]⟩,q⟩
  ·subst e';obtain⟨its,r',pl,hz⟩:=I.tuple hx;have hlen:=r'.length;exact len_tuple pl (by simp only[size_toArray];omega) ⟨.int xs.length,H,I.tok _,⟨_,by simp only[size_toArray];rw[hlen]⟩,q⟩
 | _=>exact(show False from e).elim
end
structure ObjM(h:Heap)(x dx C:Addr)(mA:Str->Option Value):Prop where
 obj:h.get? x=some (PySem.W.instObj C dx)
 ns:h.Ns1 dx mA
 ne:dx≠x
theorem XR{h:Heap}{dx:Addr}{mA:Str->Option Value}(n:h.Ns1 dx mA):∃od,h.get? dx=some od/\∀name,PySem.W.lookIn name od=some (mA name):=by
 obtain⟨o,es,ep,ho,hd,hk,_,hm⟩:=n;refine⟨o,ho,fun name=>?_⟩;have e:=hm name;unfold nsFind findBy at e;rw[<-Array.find?_toList]at e;unfold PySem.W.lookIn;rw[hd];dsimp only;split
 ·rename_i y q;rw[q]at e;exact congrArg some e
 ·rename_i q;rw[q]at e;have a:es.toList.any (·.refKey)=false:=by
   rw[List.any_eq_false];intro y hy;obtain⟨z,t,hkey⟩:=hk y (Array.mem_toList_iff.mp hy);simp[DictEntry.refKey,hkey]
  have a':¬es.toList.any (·.refKey)=true:=by rw[a];exact Bool.false_ne_true
  rw[if_neg a'];exact congrArg some e
theorem ObjM.look{h:Heap}{x dx C:Addr}{mA:Str->Option Value}(I:ObjM h x dx C mA):∃od,PySem.W.InstAt h x (PySem.W.instObj C dx) C (some od)/\∀name,PySem.W.lookIn name od=some (mA name):=
 let ⟨od,ho,hl⟩:=XR I.ns
 ⟨od,⟨I.obj,rfl,rfl,ho⟩,hl⟩
section
variable{prog:Program}{w:World}{A:Around}{E:Value->Shared->Prop}{s:Shared}{K:Frg}{x dx C f:Addr}{mA:Str->Option Value}{name:Str}{v:Value}
end
noncomputable def putF(f:Str)(v:V):List (Str×V)->List (Str×V)
 | []=>[(f,v)]
 | (g,x)::r=>if g=f then(g,v)::r else(g,x)::putF f v r
theorem zV(f g:Str)(v:V):∀fs:List (Str×V),(putF f v fs).lookup g=if g=f then some v else fs.lookup g
 | []=>by
  show List.lookup g [(f,v)]=_;by_cases h:g=f
  ·have hb:(g==f)=true:=beq_iff_eq.mpr h;simp only[List.lookup,hb,if_pos h]
  ·have hb:(g==f)=false:=beq_eq_false_iff_ne.mpr h;simp only[List.lookup,hb,if_neg h]
 | (k,x)::r=>by
  have ih:=zV f g v r;rw[show putF f v ((k,x)::r)=(if k=f then(k,v)::r else(k,x)::putF f v r)from rfl];by_cases hk:k=f
  ·rw[if_pos hk];by_cases h:g=k
   ·have hb:(g==k)=true:=beq_iff_eq.mpr h;simp only[List.lookup,hb,if_pos (h.trans hk)]
   ·have hb:(g==k)=false:=beq_eq_false_iff_ne.mpr h;simp only[List.lookup,hb,if_neg (fun e:g=f=>h (e.trans hk.symm))]
  ·rw[if_neg hk];by_cases h:g=k
   ·have hb:(g==k)=true:=beq_iff_eq.mpr h;simp only[List.lookup,hb,if_neg (fun e:g=f=>hk (h.symm.trans e))]
   ·have hb:(g==k)=false:=beq_eq_false_iff_ne.mpr h;simp only[List.lookup,hb];exact ih
theorem RelO.some_of{v:V}{o:Option Value}(r:RelO (some v) o):∃u,o=some u/\RelV v u:=by
 cases o with
 | none=>exact(show False from r).elim
 | some u=>exact⟨u,rfl,r⟩
section
variable{P:Program}{w:World}{H H':Hp}{h h':Heap}{a C dx:Addr}{fs fs':List (Str×V)}
theorem j1i(hok:HOk P w H h)(e:H a=some (.ins C dx fs)):∃mA,ObjM h a dx C mA/\(∀f,RelO (fs.lookup f) (mA f))/\PySem.Within mA (fs.map (·.1))/\fs.length<=1000/\H dx=some (.own a):=by
 obtain⟨d,z,ne,ob,mA,n,r,q⟩:=(show ObjOk P w H h a (.ins C dx fs)from hok a _ e)
 exact⟨mA,⟨ob,n,ne⟩,r,q,z,d⟩
end
structure Cls(K:Frg)(C:Addr):Prop where
 pg:PySem.W.plainGet K C Str.empty=true
 hd:PySem.W.hasDictIn K C=true
 po:PySem.W.plainOver K C=true
 sa:PySem.W.findIn K (.ref C) "__setattr__"= some (some (.builtin "object.__setattr__"))
theorem Cls.get{K:Frg}{C:Addr}(c:Cls K C)(f:Str):PySem.W.plainGet K C f=true:=c.pg
structure Meth(K:Frg)(C:Addr)(m:Str)(f:Addr):Prop where
 at_:PySem.W.findIn K (.ref C) m=some (some (.ref f))
 fn:PySem.W.isFn K (.ref f)=true
 kp:PySem.W.keepIn K (.ref f)=true
section
variable{X:Cx}{pins:List (Addr×Obj)}{σ:St}{H:Hp}{s:Shared}{a C dx:Addr}{fs:List (Str×V)}{f:Str}{v:V}{A:Around}{E:Value->Shared->Prop}
theorem j17{prog:Program}{w:World}{env:Env}{e:Expr}{f:Str}{pos:Pos}{s:Shared}{Q:Value->Shared->Prop}(hb:attributeBase e f env (eval e env)=eval e env)
  (h:wpAny (model prog w) A (eval e env) (fun o s₁=>wpAny (model prog w) A (getAttr o f true) Q E s₁) E s):wpAny (model prog w) A (eval (.Attribute e f pos) env) Q E s:=
 Attribute_any_ h (by rw[arm_eval_Attribute,hb])
end
section
variable{X:Cx}{o e value:Expr}{f:Str}{pos pos' tpos:Pos}{ta tv:TE}
end
section
variable{X:Cx}{pins:List (Addr×Obj)}{σ:St}{H:Hp}{s:Shared}{A:Around}{E:Value->Shared->Prop}{Q:Value->Shared->Prop}{c:Value}{b:Bool}
inductive TyOf(K:Frg)(H:Hp):V->Value->Prop where
 | non:TyOf K H .non (.type "NoneType")
 | bl (x:Bool):TyOf K H (.bl x) (.type "bool")
 | int (i:Int):TyOf K H (.int i) (.type "int")
 | str (x:Str):TyOf K H (.str x) (.type "str")
 | flt (x:UInt64):TyOf K H (.flt x) (.type "float")
 | lst {a:Addr} {xs:List V} (e:H a=some (.lst xs)):TyOf K H (.ref a) (.type "list")
 | frz {a:Addr} {o:Obj} {xs:List V} (e:H a=some (.frz o (.lst xs))):TyOf K H (.ref a) (.type "list")
 | tup {a:Addr} {xs:List V} (e:H a=some (.tup xs)):TyOf K H (.ref a) (.type "tuple")
 | dK {a:Addr} {kvs:List (Key×V)} (e:H a=some (.dK kvs)):TyOf K H (.ref a) (.type "dict")
 | dT {a:Addr} {kvs:List (List Key×V)} (e:H a=some (.dT kvs)):TyOf K H (.ref a) (.type "dict")
 | ins {a C dx:Addr} {fs:List (Str×V)} (e:H a=some (.ins C dx fs)) (cl:Cls K C) (ha:PySem.W.findIn K (.ref C) "__class__"= some (some (.builtin "object.__class__")))
   (hn:PySem.W.specialIn K (.builtin "object.__class__") "__get__"= some (some (.builtin "getset_descriptor.__get__"))) (htk:PySem.W.takesIn K (.builtin "object.__class__")=some true)
   (hm:PySem.W.mroIn K C (.type "object")=some true):TyOf K H (.ref a) (.ref C)
theorem XL{x:V}{u t:Value}(I:Inv X pins σ H s)(rx:RelV x u)(ty:TyOf X.K H x t)(e:PySem.W.kitOne X.K t c=some b)(h:∀tk,Q (.bool b) {s with toks:=tk}) :
  wpAny (model X.prog X.w) A (call (.builtin "isinstance") [u,c]) Q E s:=by
 cases ty with
 | non=>cases(show u=Value.none from rx);exact PySem.W.kia_one PySem.W.kitx_none I.kIn True.intro e (fun z=>nomatch z) h
 | bl y=>cases(show u=Value.bool y from rx);exact PySem.W.kia_one PySem.W.kitx_bool I.kIn True.intro e (fun z=>nomatch z) h
 | int i=>obtain⟨t,q⟩:=(show∃t,u=Value.int i t from rx);cases q;exact PySem.W.kia_one PySem.W.kitx_int I.kIn True.intro e (fun z=>nomatch z) h
 | str y=>obtain⟨t,q⟩:=(show∃t,u=Value.str y t from rx);cases q;exact PySem.W.kia_one PySem.W.kitx_str I.kIn True.intro e (fun z=>nomatch z) h
 | flt y=>obtain⟨t,q⟩:=(show∃t,u=Value.float y t from rx);cases q;exact PySem.W.kia_one PySem.W.kitx_float I.kIn True.intro e (fun z=>nomatch z) h
 | @lst a xs ea=>
  cases(show u=Value.ref a from rx);obtain⟨_,_,n,_,h1⟩:=(show ObjOk X.prog X.w H s.heap a (.lst xs)from I.hok a _ ea)
  exact PySem.W.kia_one PySem.W.kitx_list I.kIn ⟨_,h1,rfl⟩ e (fun z=>nomatch z) h
 | @frz a ob xs ea=>
  cases(show u=Value.ref a from rx);obtain⟨_,_,_,n,_,h1⟩:=(show ObjOk X.prog X.w H s.heap a (.frz ob (.lst xs))from I.hok a _ ea)
  exact PySem.W.kia_one PySem.W.kitx_list I.kIn ⟨_,h1,rfl⟩ e (fun z=>nomatch z) h
 | @tup a xs ea=>
  cases(show u=Value.ref a from rx);obtain⟨_,_,_,p⟩:=(show ObjOk X.prog X.w H s.heap a (.tup xs)from I.hok a _ ea)
  obtain⟨o,h1,h2,_⟩:=p;exact PySem.W.kia_one PySem.W.kitx_tuple I.kIn ⟨o,h1,h2⟩ e (fun z=>nomatch z) h
 | @dK a kvs ea=>
  cases(show u=Value.ref a from rx);obtain⟨_,_,vs,_,p⟩:=(show ObjOk X.prog X.w H s.heap a (.dK kvs)from I.hok a _ ea)
  obtain⟨o,es,ep,h1,h2,_⟩:=p;exact PySem.W.kia_one PySem.W.kitx_dict I.kIn ⟨o,h1,h2.1⟩ e (fun z=>nomatch z) h
 | @dT a kvs ea=>
  cases(show u=Value.ref a from rx);obtain⟨_,_,xs,_,o,es,ep,h1,h2,_⟩:=(show ObjOk X.prog X.w H s.heap a (.dT kvs)from I.hok a _ ea)
  exact PySem.W.kia_one PySem.W.kitx_dict I.kIn ⟨o,h1,h2.1⟩ e (fun z=>nomatch z) h
 | @ins a C dx fs ea cl ha hn htk hm=>
  cases(show u=Value.ref a from rx);obtain⟨mA,O,_⟩:=j1i I.hok ea;obtain⟨od,J,_⟩:=O.look;exact PySem.W.kia_one (PySem.W.kitx_own (cl.get _) cl.hd ha hn htk hm) I.kIn J e (fun z=>nomatch z) h
end
structure Room(k:Nat)(A:Around):Prop where
 hd:A.handled=none
 dp:A.depth+3*k+5<recursionLimit
 un:A.units+16*k+200<cLine
theorem Room.mono{j k:Nat}{A:Around}(r:Room k A)(h:j<=k):Room j A:=⟨r.hd,by have:=r.dp;omega,by have:=r.un;omega⟩
theorem Room.deeper{k:Nat}{A:Around}(r:Room (k+1) A)(env:Env):Room k (A.deeper env):=
 ⟨r.hd,by have:=r.dp;show A.depth+1+3*k+5<_;omega,by have:=r.un;show A.units+3+16*k+200<_;omega⟩
theorem xh{A:Around}{C:Addr}{us:List Value}{kw:List (Str×Value)}:(A.under (.builtin "type.__call__" ⟨.ref C::us,kw⟩)).depth=A.depth+1:=by
 first | rfl | simp[Around.under,Code.weight,Code.isCreation,Code.isGuard,Code.isCaller,Code.frames,Code.isFrame,guardIds]
theorem xi{A:Around}{C:Addr}{us:List Value}{kw:List (Str×Value)}:(A.under (.builtin "type.__call__" ⟨.ref C::us,kw⟩)).units=A.units+1:=by
 first | rfl | simp[Around.under,Code.cUnits,Code.frames,Code.isFrame]
theorem Room.make{k:Nat}{A:Around}(r:Room (k+1) A)(C:Addr)(us:List Value)(kw:List (Str×Value)):Room k (A.under (.builtin "type.__call__" ⟨.ref C::us,kw⟩)):=
 ⟨r.hd,by have:=r.dp;rw[xh];omega,by have:=r.un;rw[xi];omega⟩
theorem Room.depth{k:Nat}{A:Around}(r:Room k A):A.depth<recursionLimit:=by have:=r.dp;omega
theorem Room.units{k:Nat}{A:Around}(r:Room k A):A.units+64<cLine:=by have:=r.un;omega
def tNil:TA:=fun _ H Q=>Q [] H
def tCons(ta:TE)(tr:TA):TA:=fun σ H Q=>ta σ H fun x H1=>tr σ H1 fun xs H2=>Q (x::xs) H2
section
variable{X:Cx}{e:Expr}{es:List Expr}{te:TE}{t:TA}{pos:Pos}
theorem jc:PA X [] tNil:=fun _ _ _ _ H Q I h=>Calls.spliced_nil ⟨[],H,I,.nil,h⟩
theorem ja(ha:PE X e te)(hr:PA X es t)(hs:starEach (e::es) X.env=(false,eval e X.env)::starEach es X.env:=by rfl):PA X (e::es) (tCons te t):=by
 intro pos pins s σ H Q I h;rw[hs];show wpAny _ _ (spliced ((false,eval e X.env)::backTo pos (starEach es X.env))) _ _ s;refine Calls.spliced_cons (thn (ha pins s σ H _ I h) fun u s1 ⟨x,H1,I1,r1,q1⟩=>?_);exact thn (hr pos pins s1 σ H1 _ I1 q1) fun us s2 ⟨xs,H2,I2,r2,q2⟩=>⟨x::xs,H2,I2,.cons r1 r2,q2⟩
def tTup(t:TA):TE:=fun σ H Q=>t σ H fun xs H1=>xs.length<=sizeLine/\∀p,H1 p=none->Q (.ref p) (upd H1 p (.tup xs))
def tLst(t:TA):TE:=fun σ H Q=>t σ H fun xs H1=>xs.length<=sizeLine/\∀p,H1 p=none->Q (.ref p) (upd H1 p (.lst xs))
theorem jM{x1}(h:PA X es t):PE X (.Tuple es x1 pos) (tTup t):=by
 intro pins s σ H Q I hq;refine wpAny_Tuple_spliced (thn (h pos pins s σ H _ I hq) fun us s1 ⟨xs,H1,I1,r,z,q⟩=>⟨by rw[<-r.length];exact z,?_⟩);have hf:H1 s1.heap.objs.size=none:=I1.hok.fresh (Nat.le_refl _);refine⟨.ref s1.heap.objs.size,upd H1 s1.heap.objs.size (.tup xs),I1.laid (t':=s1.toks) (fun b u e=>Heap.get?_push_of_some _ e) (Nat.le_refl _) ?_,rfl,q _ hf⟩;exact⟨z,us,r,⟨_,Heap.get?_push_size _ rfl,rfl,_,rfl⟩⟩
theorem j4(h:PA X es t):PE X (.List es pos) (tLst t):=by
 intro pins s σ H Q I hq;refine wpAny_List_spliced (thn (h pos pins s σ H _ I hq) fun us s1 ⟨xs,H1,I1,r,z,q⟩=>⟨by rw[<-r.length];exact z,?_⟩);have hf:H1 s1.heap.objs.size=none:=I1.hok.fresh (Nat.le_refl _);refine⟨.ref s1.heap.objs.size,upd H1 s1.heap.objs.size (.lst xs),I1.laid (t':=s1.toks) (fun b u e=>Heap.get?_push_of_some _ e) (Nat.le_refl _) ?_,rfl,q _ hf⟩;exact⟨z,us,0,r,Heap.get?_push_size _ rfl⟩
end
noncomputable abbrev Sp:=List V->Hp->VK->XK->Prop
noncomputable abbrev CXT:=List Env->Hp->Shared->XK->Value->Shared->Prop
structure Env0(P:Program)(w:World)(K:Frg)(mg:Str->Option Value)(base:Heap)(A:Around)(outer:List Env)(s:Shared)(H:Hp):Prop where
 frames:A.frames=some outer
 mod:Mod K mg base
 bs:∀b o,base.get? b=some o->s.heap.get? b=some o/\H b=none
 bsz:base.objs.size<=s.heap.objs.size
 funs:s.heap.FunFrames base outer
 frf:∀b∈frs outer,H b=none
 hok:HOk P w H s.heap
 bare:AllBare s.gens
def CE(outer:List Env)(P:Program)(w:World)(H:Hp)(s:Shared)(Q:VK)(u:Value)(s':Shared):Prop:=
 ∃v H',s'.os=s.os/\AllBare s'.gens/\Un (frs outer) [] H H' s.heap s'.heap/\HOk P w H' s'.heap/\RelV v u/\Q v H'
def CR(CX:CXT)(outer:List Env)(P:Program)(w:World)(H:Hp)(s:Shared)(Q:VK)(E:XK)(r:Result)(s':Shared):Prop:=
 match r with
 | .ok (.ret u)=>CE outer P w H s Q u s'
 | .ok _=>False
 | .error e=>CX outer H s E e s'
structure FnOk(P:Program)(w:World)(K:Frg)(mg:Str->Option Value)(base:Heap)(CX:CXT)(k:Nat)(f:Addr)(fd:FuncData)(ps:List Str)(sp:Sp):Prop where
 len:∀vs H Q E,sp vs H Q E->vs.length=ps.length
 run:∀(A:Around) (outer:List Env) (s:Shared) (H:Hp) (args:Args) (us:List Value) (vs:List V) (Q:VK) (E:XK),Room k A->Env0 P w K mg base A outer s H->BindsTo s fd args (ps.zip us)->Vals vs us->sp vs H Q E->
  codeAny (model P w) A (.call (.ref f) args) (CR CX outer P w H s Q E) s
theorem FnOk.mono{P:Program}{w:World}{K:Frg}{mg:Str->Option Value}{base:Heap}{CX:CXT}{j k:Nat}{f:Addr}{fd:FuncData}{ps:List Str}{sp:Sp}(F:FnOk P w K mg base CX j f fd ps sp)(h:j<=k) :
  FnOk P w K mg base CX k f fd ps sp:=⟨F.len,fun A outer s H args us vs Q E hr=>F.run A outer s H args us vs Q E (hr.mono h)⟩
theorem Env0.make{P:Program}{w:World}{K:Frg}{mg:Str->Option Value}{base:Heap}{A:Around}{outer:List Env}{s:Shared}{H:Hp}(e:Env0 P w K mg base A outer s H)(C:Addr)(us:List Value)(kw:List (Str×Value)) :
  Env0 P w K mg base (A.under (.builtin "type.__call__" ⟨.ref C::us,kw⟩)) outer s H:=⟨by first | exact e.frames | (simpa [Around.under,Code.envs,Code.isFrame,pushEnvs]using e.frames),e.mod,e.bs,e.bsz,e.funs,e.frf,e.hok,e.bare⟩
section
variable{X:Cx}{pins:List (Addr×Obj)}{σ:St}{H:Hp}{s s':Shared}
theorem Inv.env0(I:Inv X pins σ H s):Env0 X.prog X.w X.K X.mg X.base X.A X.stack s H:=
 ⟨I.ok.frames,I.ok.mod,I.bs,Nat.le_trans I.ok.bsz I.sz,I.stack,I.stkFree,I.hok,I.bare⟩
theorem Inv.after{Q:VK}{u:Value}(I:Inv X pins σ H s)(h:CE X.stack X.prog X.w H s Q u s'):EP X pins σ Q u s':=by
 obtain⟨v,H',os,bare,un,hok,r,q⟩:=h;obtain⟨hh,g,d,t,os'⟩:=s';obtain rfl:os'=s.os:=os;exact⟨v,H',I.call (h':=hh) (g':=g) (d':=d) (t':=t) (ch:=[]) un hok bare (fun b z=>absurd z (by simp)),r,q⟩
end
def tCall(sp:Sp)(dvs:List V)(E:XK)(t:TA):TE:=fun σ H Q=>t σ H fun vs H1=>sp (vs++dvs) H1 Q E
def Binds(K:Frg)(fd:FuncData)(ps:List Str)(ds:List Value):Prop:=
 ∀(s:Shared) (us:List Value),K.In s.heap->(us++ds).length=ps.length->BindsTo s fd ⟨us,[]⟩ (ps.zip (us++ds))
theorem Binds.all{K:Frg}{fd:FuncData}{ps:List Str}(h:∀us:List Value,us.length=ps.length->bindArgs fd ⟨us,[]⟩=pure (ps.zip us)):Binds K fd ps []:=fun s us _ hl=>by
 rw[append_nil]at hl|-;exact .of_eq (h us hl)
def Passes(CX:CXT)(X:Cx)(E:XK):Prop:=∀(pins:List (Addr×Obj)) (σ:St) (H:Hp) (s:Shared) (e:Value) (s':Shared),Inv X pins σ H s->CX X.stack H s E e s'->X.xe e s'
section
variable{X:Cx}{CX:CXT}{k:Nat}{f C:Addr}{fd:FuncData}{ps:List Str}{sp:Sp}{dvs:List V}{ds:List Value}{E:XK}{x m:Str}{p pos apos:Pos}{e o:Expr}{es:List Expr}{ta:TE}{t:TA}
theorem j2B{pins:List (Addr×Obj)}{σ:St}{H:Hp}{s:Shared}{Q:VK}{us:List Value}{vs:List V}(F:FnOk X.prog X.w X.K X.mg X.base CX k f fd ps sp)(hr:Room k X.A)(hb:Binds X.K fd ps ds)(hd:Vals dvs ds)(hx:Passes CX X E)
  (I:Inv X pins σ H s) (r:Vals vs us) (h:sp (vs++dvs) H Q E):wpAny (model X.prog X.w) X.A (call (.ref f) us) (EP X pins σ Q) X.xe s:=by
 have r2:Vals (vs++dvs) (us++ds):=r.append hd;have hl:(us++ds).length=ps.length:=by rw[<-r2.length];exact F.len _ _ _ _ h
 refine wpAny_call (codeAny_mono (F.run X.A X.stack s H ⟨us,[]⟩ (us++ds) (vs++dvs) Q E hr I.env0 (hb s us I.kIn hl) r2 h) fun r s' hq=>?_);cases r with
 | error e=>exact hx pins σ H s e s' I hq
 | ok fl=>
  cases fl with
  | ret u=>exact I.after hq
  | next=>exact False.elim hq
  | brk=>exact False.elim hq
  | cont=>exact False.elim hq
theorem jr(F:FnOk X.prog X.w X.K X.mg X.base CX k f fd ps sp)(hr:Room k X.A)(hg:Gl X x)(hm:X.mg x=some (.ref f))(hk:PySem.W.keepIn X.K (.ref f)=true)(hb:Binds X.K fd ps ds)(hd:Vals dvs ds)(hx:Passes CX X E)
  (ha:PA X (e::es) t) (hdb:(x==("__debug__" : Str))=false:=by decide) (he:starEach (e::es) X.env=(false,eval e X.env)::starEach es X.env:=by rfl) (hpl:(backTo pos (starEach es X.env)).any (·.1)=false:=by rfl) :
  PE X (.Call (.Name x p) (e::es) [] pos) (tCall sp dvs E t):=by
 intro pins s σ H Q I h;refine wpAny_Call_Name_kw (yc I hg hm ?_ hdb);refine PySem.W.callWith_K (h₀:=X.base) I.ok.mod.kin hk (thn (ha pos pins s σ H _ I h) fun us s1 ⟨vs,H1,I1,r,q⟩=>⟨I1.kIn,?_⟩) he hpl;exact j2B F hr hb hd hx I1 r q
end
section
variable{X:Cx}{CX:CXT}{k:Nat}{f C:Addr}{fd:FuncData}{ps ks:List Str}{sp:Sp}{E:XK}{x m:Str}{p pos apos kpos:Pos}{e o:Expr}{es:List Expr}{kws:List Keyword}{te ta:TE}{t tk:TA}{nm:Option Str}
variable{g:List Value->List Value->List Value}{gV:List V->List V->List V}
end
structure FnScope(N P:List Str)(sc:Scope):Prop where
 kind:sc.kind = .function
 co:sc.isCoroutine=false
 gen:sc.isGenerator=false
 nd:N.Nodup
 pre:N.take P.length=P
 par:∀x∈P,sc.names.lookup x=some .local\/sc.names.lookup x=some .cell
 nofree:∀y∈sc.names,y.2≠.free
theorem Kq{kindOf:Str->Option NameKind}{x:Str}:∀{binds:List (Str×Value)} {m:Str->Option Value},(∀v,(x,v)∉binds)->bindL kindOf binds m x=m x
 | [],_,_=>rfl
 | (n,v)::r,m,h=>by
  unfold bindL;rw[Kq fun w hw=>h w (mem_cons_of_mem _ hw)];split
  ·have:x≠n:=by rintro rfl;exact h v mem_cons_self
   simp[this]
  ·rfl
theorem Kn{kindOf:Str->Option NameKind}{x:Str}:∀{binds:List (Str×Value)} {m:Str->Option Value},(∀v,(x,v)∉binds)->bindC kindOf binds m x=m x
 | [],_,_=>rfl
 | (n,v)::r,m,h=>by
  unfold bindC;rw[Kn fun w hw=>h w (mem_cons_of_mem _ hw)];split
  ·rfl
  ·have:x≠n:=by rintro rfl;exact h v mem_cons_self
   simp[this]
theorem Ko{kindOf:Str->Option NameKind}{x:Str}{v:Value}:∀{P:List Str} {vs:List Value} {i:Nat} {m:Str->Option Value},P.Nodup->P[i]?=some x->vs[i]?=some v->kindOf x=some .local->
  bindL kindOf (P.zip vs) m x=some v
 | [],_,_,_,_,h,_,_=>by simp at h
 | _::_,[],_,_,_,_,h,_=>by simp at h
 | p::P,w::vs,0,m,nd,h1,h2,hk=>by
  simp at h1 h2;subst h1;subst h2;show bindL kindOf ((p,w)::P.zip vs) m p=_;unfold bindL;rw[Kq fun v hv=>(nodup_cons.mp nd).1 (of_mem_zip hv).1,if_pos hk];simp
 | p::P,w::vs,i+1,m,nd,h1,h2,hk=>by
  show bindL kindOf ((p,w)::P.zip vs) m x=_;unfold bindL;exact Ko (i:=i) (nodup_cons.mp nd).2 (by simpa using h1) (by simpa using h2) hk
theorem Km{kindOf:Str->Option NameKind}{x:Str}{v:Value}:∀{P:List Str} {vs:List Value} {i:Nat} {m:Str->Option Value},P.Nodup->P[i]?=some x->vs[i]?=some v->kindOf x≠some .local->
  bindC kindOf (P.zip vs) m x=some v
 | [],_,_,_,_,h,_,_=>by simp at h
 | _::_,[],_,_,_,_,h,_=>by simp at h
 | p::P,w::vs,0,m,nd,h1,h2,hk=>by
  simp at h1 h2;subst h1;subst h2;show bindC kindOf ((p,w)::P.zip vs) m p=_;unfold bindC;rw[Kn fun v hv=>(nodup_cons.mp nd).1 (of_mem_zip hv).1,if_neg hk];simp
 | p::P,w::vs,i+1,m,nd,h1,h2,hk=>by
  show bindC kindOf ((p,w)::P.zip vs) m x=_;unfold bindC;exact Km (i:=i) (nodup_cons.mp nd).2 (by simpa using h1) (by simpa using h2) hk
noncomputable def start(N:List Str)(vs:List V):St:=vs.map some++List.replicate (N.length-vs.length) none
noncomputable def cxOf(CX:CXT)(P:Program)(w:World)(K:Frg)(mg:Str->Option Value)(base:Heap)(N:List Str)(qual:Str)(scope:Scope)(f:Addr)(cd:Value)(A:Around)(outer:List Env)(s:Shared)(H:Hp)(E:XK):Cx where
 prog:=P
 w:=w
 K:=K
 mg:=mg
 base:=base
 A:=A.deeper (envOfC qual scope s.heap.objs.size f cd)
 N:=N
 s₀:=s
 H₀:=H
 env:=envOfC qual scope s.heap.objs.size f cd
 outer:=outer
 stack:=envOfC qual scope s.heap.objs.size f cd::outer
 ex:=[]
 calm:=true
 fn:=fun _=>true
 pn:=[]
 xe:=fun e s'=>wpAny (model P w) (A.deeper (envOfC qual scope s.heap.objs.size f cd)) (leaving (envOfC qual scope s.heap.objs.size f cd) e) (fun _ s''=>CX outer H s E e s'') (fun e' s''=>CX outer H s E e' s'') s'
theorem wV{sc:Scope}{n:Nat}{x:Str}(h:sc.names.lookup x=some .cell):∃c,(cellsFrom n sc.names []).lookup x=some c:=by
 have q:=PySem.W.cellsFrom_some sc.names n [] (.inl h);exact Option.isSome_iff_exists.mp q
theorem Kz{CX:CXT}{P:Program}{w:World}{K:Frg}{mg:Str->Option Value}{base:Heap}{N ps:List Str}{qual:Str}{scope:Scope}{f:Addr}{cd:Value}{A:Around}{outer:List Env}{s s1:Shared}{H:Hp}{E:XK}{us:List Value}{vs:List V}
  (S:FnScope N ps scope) (hd:A.handled=none) (e0:Env0 P w K mg base A outer s H) (hl:vs.length=ps.length) (r:Vals vs us)
  (x:InCallC s s.heap.objs.size (bindL (envOfC qual scope s.heap.objs.size f cd).kindOf (ps.zip us) fun _=>none) (cellsFrom (s.heap.objs.size+1) scope.names []) (bindC (envOfC qual scope s.heap.objs.size f cd).kindOf (ps.zip us) fun _=>none) s1) :
  Inv (cxOf CX P w K mg base N qual scope f cd A outer s H E) [] (start N vs) H s1:=by
 have hpl:ps.length<=N.length:=by have:=congrArg List.length S.pre;rw[length_take]at this;omega
 obtain⟨h1,tk,rfl,hk⟩:=x.done;have noA:∀b:Addr,b∉(cxOf CX P w K mg base N qual scope f cd A outer s H E).ex:=fun b z=>absurd (show b∈([]:List Addr)from z) (by simp)
 refine⟨⟨e0.mod,S.kind,rfl,rfl,Nat.le_refl _,fun y z c h1 h2=>?_,fun y hy=>?_,fun y c _ h=>?_,fun _=>hd,Around.frames_deeper e0.frames,.inr ⟨rfl,rfl⟩,fun b z=>absurd z (noA b),e0.bs,e0.bsz,fun b _ _=>noA b,fun b z=>absurd z (noA b),e0.funs,e0.frf⟩,
  rfl,e0.bare,Un.kept hk,⟨_,x.toInCall.ns,fun i y v h1 h2 h3=>?_⟩,fun y c h=>⟨_,x.cell y c h⟩,e0.hok.fresh (Nat.le_refl _),fun y c h=>?_,fun p hp=>absurd (show p∈([]:List (Addr×Obj))from hp) (by simp),e0.hok.kept hk,?_⟩
 ·exact name_of_addr x.apart (PySem.mem_of_lookup h1) (PySem.mem_of_lookup h2)
 ·have hy:scope.names.lookup y=some .cell\/scope.names.lookup y=some .free:=hy;rcases hy with hy | hy
  ·exact wV hy
  ·exact absurd rfl (S.nofree _ (PySem.mem_of_lookup hy))
 ·exact Nat.le_of_lt (x.above y c (PySem.mem_of_lookup h))
 ·have hi:i<vs.length:=by
   unfold start at h2;by_cases hi:i<vs.length
   ·exact hi
   ·rw[List.getElem?_append_right (by simpa using hi)]at h2;rw[List.getElem?_replicate]at h2;split at h2<;>cases h2
  have ha:vs[i]?=some v:=by
   unfold start at h2;rw[List.getElem?_append_left (by simpa using hi),List.getElem?_map]at h2;cases e:vs[i]? with
   | none=>rw[e]at h2;cases h2
   | some a=>rw[e]at h2;cases h2;rfl
  obtain⟨u,hu,rv⟩:=r.get ha;have hp:ps[i]?=some y:=by
   rw[<-S.pre,List.getElem?_take_of_lt (by omega)];exact h1
  have ndP:ps.Nodup:=by rw[<-S.pre];exact S.nd.sublist (take_sublist _ _)
  refine⟨u,rv,?_⟩;rcases S.par y (List.mem_of_getElem? hp)with k | k
  ·exact .inl ⟨k,Ko ndP hp hu k⟩
  ·obtain⟨c,e⟩:=wV (n:=s.heap.objs.size+1) k;refine .inr ⟨.inl k,c,e,?_⟩;have q:=x.cell y c e;rw[Km ndP hp hu (by show scope.names.lookup y≠_;rw[k];decide)]at q;exact q
 ·exact e0.hok.fresh (Nat.le_of_lt (x.above y c (PySem.mem_of_lookup h)))
 ·unfold start;show _=N.length;rw[List.length_append,length_map,List.length_replicate];omega
theorem j2O{CX:CXT}{P:Program}{w:World}{K:Frg}{mg:Str->Option Value}{base:Heap}{k:Nat}{f:Addr}{name qual:Str}{params:Arguments}{body:List Stmt}{scope:Scope}{dV kV doc pm cdv ct oc:Value}{an od:Option Addr}
  {osl:Array (Option Value)} {N ps:List Str} {sp:Sp} (lk:K.lookup f=some ⟨oc,od,.func (PySem.W.fnOf name qual params body scope dV kV doc pm an cdv ct),osl⟩) (hcd:PySem.W.codeIn K cdv qual=true) (S:FnScope N ps scope)
  (len:∀vs H Q E,sp vs H Q E->vs.length=ps.length)
  (hbody:∀(A:Around) (outer:List Env) (s:Shared) (H:Hp) (vs:List V) (Q:VK) (E:XK),Room k (A.deeper (envOfC qual scope s.heap.objs.size f cdv))->sp vs H Q E->
   ∃t,PSs (cxOf CX P w K mg base N qual scope f cdv A outer s H E) body t/\t {nx:=fun _ H'=>Q .non H',rt:=Q} (start N vs) H) :
  FnOk P w K mg base CX (k+1) f (PySem.W.fnOf name qual params body scope dV kV doc pm an cdv ct) ps sp:=by
 refine⟨len,fun A outer s H args us vs Q E hr e0 hb r hsp=>?_⟩;have hl:=len _ _ _ _ hsp;have KX:K.In s.heap:=e0.mod.kin.keeps fun b o e=>(e0.bs b o e).1
 have lim:s.heap.NoLimit:=e0.mod.nolimit.keeps fun b o e=>(e0.bs b o e).1
 have hkind:∀y∈ps.zip us,scope.names.lookup y.1=some .local\/(scope.names.lookup y.1=some .cell/\((cellsFrom (s.heap.objs.size+1) scope.names []).lookup y.1).isSome=true):=fun⟨n,v⟩ hy=>by
  rcases S.par n (of_mem_zip hy).1 with q | q
  ·exact .inl q
  ·exact .inr ⟨q,PySem.W.cellsFrom_some _ _ _ (.inl q)⟩
 refine codeAny_call_function hr.depth (KX _ _ lk) rfl S.co S.gen rfl (PySem.W.codeRec_of KX hcd) (hb _ _ _ _ ?_);refine wpAny_newFunctionEnv_cells S.kind hkind fun env he s1 x=>?_
 subst he;refine⟨lim.keeps x.toInCall.keep,codeAny_func ?_⟩;obtain⟨t,ht,hq⟩:=hbody A outer s H vs Q E (hr.deeper _) hsp;have I:Inv (cxOf CX P w K mg base N qual scope f cdv A outer s H E) [] (start N vs) H s1:=Kz S hr.hd e0 hl r x;refine wpAny_mono (ht [] s1 (start N vs) H _ I hq) (fun fl s' hs=>?_) fun e s' hs=>hs
 have fin:∀{σ':St} {H':Hp} {v:V} {u:Value},Inv (cxOf CX P w K mg base N qual scope f cdv A outer s H E) [] σ' H' s'->RelV v u->Q v H'->CE outer P w H s Q u s':=
  fun {σ' H' v u} J rv q=>⟨v,H',J.os,J.bare,J.base,J.hok,rv,q⟩
 cases fl with
 | ret u=>
  obtain⟨v,σ',H',J,rv,q⟩:=hs;exact fin J rv q
 | next=>
  obtain⟨σ',H',J,q⟩:=hs;exact fin (v:=V.non) (u:=Value.none) J rfl q
 | brk=>
  obtain⟨_,_,_,q⟩:=hs;exact False.elim q
 | cont=>
  obtain⟨_,_,_,q⟩:=hs;exact False.elim q
section
variable{X:Cx}{x:Str}{p pos:Pos}{e:Expr}{es:List Expr}{t:TA}{id T:String}{r:List V->Hp->VK->Prop}
def tCB(r:List V->Hp->VK->Prop)(t:TA):TE:=fun σ H Q=>t σ H fun vs H1=>r vs H1 Q
theorem ju(hc:CallR X (.builtin id) r)(hg:Gl X x)(hm:X.mg x=none)(hv:bootBuiltins x=some (.builtin id))(ha:PA X (e::es) t)(hn:x≠"__name__":=by decide)(hdb:(x==("__debug__" : Str))=false:=by decide)
  (he:starEach (e::es) X.env=(false,eval e X.env)::starEach es X.env:=by rfl) (hpl:(backTo pos (starEach es X.env)).any (·.1)=false:=by rfl):PE X (.Call (.Name x p) (e::es) [] pos) (tCB r t):=by
 intro pins s σ H Q I h;refine wpAny_Call_Name_kw (Yq I hg hm hv ?_ hn hdb);exact PyProof.Rows.callWith_builtin1 (thn (ha pos pins s σ H _ I h) fun us s1 ⟨vs,H1,I1,r1,q1⟩=>hc pins s1 σ H1 vs us Q I1 r1 q1) he hpl
theorem qg(hc:CallR X (.type T) r)(hg:Gl X x)(hm:X.mg x=none)(hv:bootBuiltins x=some (.type T))(ha:PA X (e::es) t)(hn:x≠"__name__":=by decide)(hdb:(x==("__debug__" : Str))=false:=by decide)
  (he:starEach (e::es) X.env=(false,eval e X.env)::starEach es X.env:=by rfl) (hpl:(backTo pos (starEach es X.env)).any (·.1)=false:=by rfl):PE X (.Call (.Name x p) (e::es) [] pos) (tCB r t):=by
 intro pins s σ H Q I h;refine wpAny_Call_Name_kw (Yq I hg hm hv ?_ hn hdb);exact PyProof.Rows.callWith_type1 (thn (ha pos pins s σ H _ I h) fun us s1 ⟨vs,H1,I1,r1,q1⟩=>hc pins s1 σ H1 vs us Q I1 r1 q1) he hpl
end
end L2
namespace HT
open PySem PyProof.Rows
section
open PySem.SeqAt
open PySem.AutoSeq1 (wpAny_loadPart')
open PySem.MeetsSeq PySem.MeetsSeq2 PySem.MeetsSeq3
end
section
variable{prog:Program}{w:World}{A:Around}{E:Value->Shared->Prop}{s:Shared}
noncomputable def sIx(n d:Nat):Option Int->Nat
 | none=>d
 | some v=>if v<0 then(v+(n:Int)).toNat else min v.toNat n
theorem y8(n d k:Nat):sIx n d (some (k:Int))=min k n:=by
 show(if(k:Int)<0 then((k:Int)+(n:Int)).toNat else min (k:Int).toNat n)=min k n;rw[if_neg (by omega),Int.toNat_natCast]
theorem j2C(n d:Nat)(hd:d<=n)(o:Option Int):sIx n d o<=n:=by
 cases o with
 | none=>exact hd
 | some v=>
  show(if v<0 then(v+(n:Int)).toNat else min v.toNat n)<=n;by_cases hv:v<0
  ·rw[if_pos hv];omega
  ·rw[if_neg hv];exact Nat.min_le_right _ _
theorem xR(v:Int)(n d:Nat):(if v<0 then max (v+(n:Int)) 0 else min v (n:Int))=((sIx n d (some v):Nat):Int):=by
 show(if v<0 then max (v+(n:Int)) 0 else min v (n:Int))=(((if v<0 then(v+(n:Int)).toNat else min v.toNat n):Nat):Int)
 by_cases hv:v<0
 ·simp only[if_pos hv];omega
 ·simp only[if_neg hv];omega
theorem WP(lo hi:Option Int)(n:Nat):Builtin.Slice.sliceAdjust lo hi 1 (n:Int)=(((sIx n 0 lo:Nat):Int),((sIx n n hi:Nat):Int)):=by
 have h1:¬((1:Int)<0):=by omega
 unfold Builtin.Slice.sliceAdjust;simp only[h1,if_false];refine Prod.ext ?_ ?_
 ·cases lo with
  | none=>rfl
  | some v=>exact xR v n 0
 ·cases hi with
  | none=>rfl
  | some v=>exact xR v n n
theorem xy(i j:Nat):Builtin.Slice.slicePlaces (i:Int) (j:Int) 1=j-i:=by
 unfold Builtin.Slice.slicePlaces;have h1:(1:Int)>0:=by omega
 simp only[h1,if_true,Int.ediv_one];split<;>omega
theorem slicePart_{v:Value}{o:Option Int}{Q:Option Int->Shared->Prop}(p:IsPart v o)(h:Q o s):wpAny (model prog w) A (Builtin.Slice.slicePartIndex v) Q E s:=by
 cases p with
 | none=>exact slicePart_none h
 | int i t=>exact slicePart_int h
theorem YB{sl:Addr}{vl vu:Value}{lo hi:Option Int}{n:Nat}{Q:Int×Int×Nat->Shared->Prop}(hs:s.heap.IsSliceOf sl vl vu .none)(pl:IsPart vl lo)(pu:IsPart vu hi)
  (h:Q (((sIx n 0 lo:Nat):Int),1,sIx n n hi-sIx n 0 lo) s):wpAny (model prog w) A (Builtin.Slice.sliceApplied (.ref sl) (pure (n:Int))) Q E s:=by
 obtain⟨os,hos,hcs,hds⟩:=id hs;unfold Builtin.Slice.sliceApplied Builtin.Slice.sliceFields;refine wpAny_bind (wpAny_bind (wpAny_field hos hds (x:=vl) rfl (wpAny_bind (wpAny_field hos hds (x:=vu) rfl (wpAny_bind (wpAny_field hos hds (x:=.none) rfl (wpAny_pure ?_)))))));refine wpAny_bind (slicePart_none ?_);show wpAny _ _ (if((1:Int)==0)=true then _ else _) _ _ s;rw[if_neg (by decide)];refine wpAny_bind (slicePart_ pl (wpAny_bind (slicePart_ pu (wpAny_bind (wpAny_pure ?_)))));show wpAny _ _ (match Builtin.Slice.sliceAdjust lo hi 1 (n:Int)with | (lo,hi)=>pure (lo,(1:Int),Builtin.Slice.slicePlaces lo hi 1)) _ _ s;rw[WP lo hi n];show wpAny _ _ (pure (((sIx n 0 lo:Nat):Int),(1:Int),Builtin.Slice.slicePlaces ((sIx n 0 lo:Nat):Int) ((sIx n n hi:Nat):Int) 1)) _ _ s;rw[xy];exact wpAny_pure h
theorem j0E(xs:Array Value)(i k:Nat):((List.range k).filterMap fun(m:Nat)=>xs[((i:Int)+(m:Int)*1).toNat]?).toArray=((xs.toList.drop i).take k).toArray:=by
 have e:(fun(m:Nat)=>xs[((i:Int)+(m:Int)*1).toNat]?)=fun m=>xs[i+m]?:=by
  funext m;have:((i:Int)+(m:Int)*1).toNat=i+m:=by omega
  rw[this]
 rw[e];have:=pick_run xs i k;rw[List.filterMap_map]at this;have e2:((fun x=>xs[x]?)∘fun x=>i+x)=fun m=>xs[i+m]?:=rfl
 rw[e2]at this;rw[this]
theorem yN{t sl:Addr}{items:Array Value}{vl vu:Value}{lo hi:Option Int}{Q:Value->Shared->Prop}(ht:IsTup s.heap t items)(hs:s.heap.IsSliceOf sl vl vu .none)(pl:IsPart vl lo)(pu:IsPart vu hi)
  (hw:¬(sIx items.size 0 lo=0/\sIx items.size items.size hi=items.size))
  (h:Q (.ref s.heap.objs.size) {s with heap:=s.heap.push {cls:=.type "tuple",data:=.seq ((items.toList.drop (sIx items.size 0 lo)).take (sIx items.size items.size hi-sIx items.size 0 lo)).toArray}})
  (hsz:items.size<=sizeLine):wpAny (model prog w) A (getItem (.ref t) (.ref sl)) Q E s:=by
 have htake:sizeOk (.seq ((items.toList.drop (sIx items.size 0 lo)).take (sIx items.size items.size hi-sIx items.size 0 lo)).toArray):=by
  show((items.toList.drop (sIx items.size 0 lo)).take (sIx items.size items.size hi-sIx items.size 0 lo)).toArray.size<=sizeLine;rw[size_toArray,length_take,length_drop,Array.length_toList];omega
 have hj:sIx items.size items.size hi<=items.size:=j2C _ _ (Nat.le_refl _) hi;obtain⟨os,hos,hcs,hds⟩:=id hs;have hTs:s.TypeIs (.ref sl) "slice":=⟨os,hos,hcs⟩
 unfold getItem
 try with_reducible refine wpAny_holding ?_
 first | refine wpAny_bind (wpAny_pure ?_) | skip
 refine wpAny_bind (wpAny_sequenceKey ht.typeIs (by decide) ?_);refine wpAny_bind (wpAny_callSpecial?_slot (name:=Str.ofString "__getitem__") ht.typeIs PyProof.Rows.slot_tuple_getitem
  (wpAny_call_entry PyProof.Rows.slot_tuple_getitem ht.typeIs entry_tuple_getitem ?_ (args_tuple_getitem _ _)))
 show wpAny _ _ (Builtin.Tuple.tupleItemsOf (.ref t) >>= _) _ _ s;refine wpAny_bind (tupleItemsOf_ ht ?_);refine wpAny_bind (wpAny_typeOf hTs ?_);rw[if_pos (by decide)];refine wpAny_bind (YB hs pl pu ?_);have hno:¬((((sIx items.size 0 lo:Nat):Int)==0&&(1:Int)==1&&(sIx items.size items.size hi-sIx items.size 0 lo)==items.size)=true):=by
  intro q;rw[Bool.and_eq_true,Bool.and_eq_true]at q;have q1:((sIx items.size 0 lo:Nat):Int)=0:=eq_of_beq q.1.1;have q2:sIx items.size items.size hi-sIx items.size 0 lo=items.size:=eq_of_beq q.2;exact hw ⟨by omega,by omega⟩
 show wpAny _ _ (if(((sIx items.size 0 lo:Nat):Int)==0&&(1:Int)==1&&(sIx items.size items.size hi-sIx items.size 0 lo)==items.size)=true then _ else _) _ _ s;rw[if_neg hno,j0E]
 first
  | exact wpAny_bind (m:=Builtin.Tuple.tupleExact _) (wpAny_newObj_type (wpAny_pure ⟨_,rfl,wpAny_pure h⟩) htake)
  | exact wpAny_bind (m:=Builtin.Tuple.tupleExact _) (wpAny_newObj_type (wpAny_bind (wpAny_pure (wpAny_pure ⟨_,rfl,wpAny_pure h⟩))) htake)
  | exact wpAny_bind (wpAny_bind (m:=Builtin.Tuple.tupleExact _) (wpAny_newObj_type (wpAny_pure (wpAny_pure ⟨_,rfl,wpAny_pure h⟩)) htake))
  | exact wpAny_bind (wpAny_bind (m:=Builtin.Tuple.tupleExact _) (wpAny_newObj_type (wpAny_pure ⟨_,rfl,wpAny_pure h⟩) htake))
end
end HT
namespace L2
open PySem PySem.Spec PyProof.Rows
noncomputable abbrev TO:=St->Hp->(Option Int->Hp->Prop)->Prop
def PO(X:Cx)(e:Option Expr)(t:TO):Prop:=
 ∀(pins:List (Addr×Obj)) (s:Shared) (σ:St) (H:Hp) (Q:Option Int->Hp->Prop),Inv X pins σ H s->t σ H Q->
  wpAny (model X.prog X.w) X.A (evalPart e X.env) (fun u s'=>∃o H',Inv X pins σ H' s'/\IsPart u o/\Q o H') X.xe s
def tNoPart:TO:=fun _ H Q=>Q none H
def tPart(t:TE):TO:=fun σ H Q=>t σ H fun x H1=>∃i,x = .int i/\Q (some i) H1
theorem intsAre_of{ns:List Int}:∀{us:List Value},Vals (ns.map V.int) us->IntsAre us ns:=by
 induction ns with
 | nil=>intro us r;rw[map_nil]at r;cases r;exact .nil
 | cons n ns ih=>
  intro us r;rw[map_cons]at r;cases r with
  | cons r1 r2=>
   obtain⟨t,e⟩:=r1;subst e;exact .cons n t (ih r2)
section
variable{X:Cx}{e:Expr}{te:TE}{lo hi:Option Expr}{tl th:TO}{pos p2:Pos}
theorem Q6:PO X none tNoPart:=by
 intro pins s σ H Q I h;rw[evalPart_none];exact wpAny_pure ⟨none,H,I,.none,h⟩
theorem qP(h:PE X e te):PO X (some e) (tPart te):=by
 intro pins s σ H Q I hw;rw[evalPart_some];refine thn (h pins s σ H _ I hw) fun u s1 ⟨x,H1,I1,r1,q1⟩=>?_
 obtain⟨i,rfl,q⟩:=q1;obtain⟨t,rfl⟩:=r1;exact⟨some i,H1,I1,.int i t,q⟩
def SlR(X:Cx)(r:V->Option Int->Option Int->Hp->VK->Prop):Prop:=
 ∀(pins:List (Addr×Obj)) (s:Shared) (σ:St) (H:Hp) (x:V) (v vl vu:Value) (lo hi:Option Int) (sl:Addr) (Q:VK),Inv X pins σ H s->RelV x v->s.heap.IsSliceOf sl vl vu .none->IsPart vl lo->IsPart vu hi->r x lo hi H Q->
  ∃T id,typeLookup (.type T) "__getitem__"= pure (some (.builtin id))/\s.TypeIs v T/\wpAny (model X.prog X.w) X.A (getItem v (.ref sl)) (EP X pins σ Q) X.xe s
def tSl(r:V->Option Int->Option Int->Hp->VK->Prop)(te:TE)(tl th:TO):TE:=fun σ H Q=>te σ H fun x H1=>tl σ H1 fun l H2=>th σ H2 fun u H3=>r x l u H3 Q
theorem qz{r:V->Option Int->Option Int->Hp->VK->Prop}(hr:SlR X r)(he:PE X e te)(hl:PO X lo tl)(hu:PO X hi th):PE X (.Subscript e (.Slice lo hi none p2) pos) (tSl r te tl th):=by
 intro pins s σ H Q I h;refine Subscript_ (thn (he pins s σ H _ I h) fun v s1 ⟨x,H1,I1,r1,q1⟩=>?_);refine wpAny_Slice (thn (hl pins s1 σ H1 _ I1 q1) fun vl s2 ⟨l,H2,I2,pl,q2⟩=>thn (hu pins s2 σ H2 _ I2 q2) fun vu s3 ⟨u,H3,I3,pu,q3⟩=>?_);rw[evalPart_none];refine wpAny_pure ?_;have I4:Inv X pins σ H3 {s3 with heap:=s3.heap.push {cls:=.type "slice",data:=.fields #[vl,vu,.none]}}:=I3.kept (t':=s3.toks) fun b ob q=>Heap.get?_push_of_some _ q
 obtain⟨T,id,hT,ht,hg⟩:=hr pins {s3 with heap:=s3.heap.push {cls:=.type "slice",data:=.fields #[vl,vu,.none]}} σ H3 x v vl vu l u s3.heap.objs.size Q I4 r1 (Heap.IsSliceOf.new ..) pl pu q3;show wpAny (model X.prog X.w) X.A (subscriptTail e (.Slice lo hi none p2) v (.ref s3.heap.objs.size)) (EP X pins σ Q) X.xe {s3 with heap:=s3.heap.push {cls:=.type "slice",data:=.fields #[vl,vu,.none]}};exact tail_any (ops:=[.ref s3.heap.objs.size,v]) ht hT hg (by with_unfolding_all rfl)
noncomputable def cutV(xs:List V)(lo hi:Option Int):List V:=(xs.drop (HT.sIx xs.length 0 lo)).take (HT.sIx xs.length xs.length hi-HT.sIx xs.length 0 lo)
theorem YL(xs:List V)(lo hi:Option Int):(cutV xs lo hi).length<=xs.length:=by
 unfold cutV;rw[length_take,length_drop];omega
noncomputable def rSlT(K:Frg):V->Option Int->Option Int->Hp->VK->Prop:=fun x lo hi H Q=>∃a xs,x = .ref a/\SqT K H a xs/\
 ¬(HT.sIx xs.length 0 lo=0/\HT.sIx xs.length xs.length hi=xs.length)/\∀p,H p=none->Q (.ref p) (upd H p (.tup (cutV xs lo hi)))
theorem j2D:SlR X (rSlT X.K):=by
 intro pins s σ H x v vl vu lo hi sl Q I rx hs pl pu h;obtain⟨a,xs,rfl,hx,hw,q⟩:=h;cases rx;obtain⟨its,r,ht,hz⟩:=I.tuple hx;have hlen:its.toArray.size=xs.length:=by rw[size_toArray];exact r.length.symm
 refine⟨"tuple",_,PyProof.Rows.slot_tuple_getitem.lookup,ht.typeIs,?_⟩;refine HT.yN ht hs pl pu (by rw[hlen];exact hw) ?_ (by rw[hlen];exact hz);rw[hlen];refine⟨.ref s.heap.objs.size,_,I.laid (t':=s.toks) (o:=.tup (cutV xs lo hi)) (fun b ob q=>Heap.get?_push_of_some _ q) (Nat.le_refl _) ?_,rfl,q _ (I.hok.fresh (Nat.le_refl _))⟩;exact⟨Nat.le_trans (YL xs lo hi) hz,_,(r.drop (HT.sIx xs.length 0 lo)).take (HT.sIx xs.length xs.length hi-HT.sIx xs.length 0 lo),IsTup.new _ _⟩
end
noncomputable def ixN(n:Nat)(i:Int):Option Nat:=if 0<=i then(if i<n then some i.toNat else none)else if -(n:Int)<=i then some (i+n).toNat else none
noncomputable def atI{α:Type}(xs:List α)(i:Int):Option α:=(ixN xs.length i).bind fun j=>xs[j]?
theorem Xd{n:Nat}{i:Int}{j:Nat}(h:ixN n i=some j):seqIndex? i n=some j/\j<n/\-(n:Int)<=i/\i<n:=by
 unfold ixN at h;by_cases h0:0<=i
 ·rw[if_pos h0]at h;by_cases h1:i<n
  ·rw[if_pos h1]at h;have e:i.toNat=j:=Option.some.inj h;exact⟨by rw[seqIndex_of h0 h1,e],by omega,by omega,h1⟩
  ·rw[if_neg h1]at h;cases h
 ·rw[if_neg h0]at h;by_cases h1 : -(n:Int)<=i
  ·rw[if_pos h1]at h;have e:(i+n).toNat=j:=Option.some.inj h;exact⟨by rw[seqIndex_neg (by omega) h1,e],by omega,h1,by omega⟩
  ·rw[if_neg h1]at h;cases h
theorem KS{α:Type}{xs:List α}{i:Int}{v:α}(h:atI xs i=some v):∃j,seqIndex? i xs.length=some j/\xs[j]?=some v/\j<xs.length/\-(xs.length:Int)<=i/\i<xs.length:=by
 unfold atI at h;cases e:ixN xs.length i with
 | none=>rw[e]at h;cases h
 | some j=>
  rw[e]at h;obtain⟨h1,h2,h3,h4⟩:=Xd e;exact⟨j,h1,h,h2,h3,h4⟩
theorem zw{α:Type}{xs:List α}{j:Nat}{v:α}(h:xs[j]?=some v):atI xs (j:Int)=some v:=by
 have hj:j<xs.length:=(List.getElem?_eq_some_iff.mp h).1;have e:ixN xs.length (j:Int)=some j:=by
  unfold ixN;rw[if_pos (by omega),if_pos (by omega)];simp
 unfold atI;rw[e];exact h
def PlainIx(b:Expr):Prop:=∀o i,subscripted b false o i=operate [o,i] (getItem o i)
def IxR(X:Cx)(r:R2):Prop:=
 ∀(value slice:Expr) (pins:List (Addr×Obj)) (s:Shared) (σ:St) (H:Hp) (x y:V) (v u:Value) (Q:VK),Inv X pins σ H s->RelV x v->RelV y u->r x y H Q->
  subscripted slice false v u=operate [v,u] (getItem v u)->wpAny (model X.prog X.w) X.A (subscriptTail value slice v u) (EP X pins σ Q) X.xe s
def MtR(X:Cx)(id:String)(r:V->List V->Hp->VK->Prop):Prop:=
 ∀(pins:List (Addr×Obj)) (s:Shared) (σ:St) (H:Hp) (x:V) (xs:List V) (v:Value) (us:List Value) (Q:VK),Inv X pins σ H s->RelV x v->Vals xs us->r x xs H Q->
  wpAny (model X.prog X.w) X.A (call (.builtin id) (v::us)) (EP X pins σ Q) X.xe s
section
variable{X:Cx}{a b:Expr}{ta tb:TE}{pos:Pos}
theorem ji{r:R2}(hr:IxR X r)(ha:PE X a ta)(hb:PE X b tb)(hs:PlainIx b:=by exact fun _ _=>rfl):PE X (.Subscript a b pos) (tOp r ta tb):=by
 intro pins s σ H Q I h;exact Subscript_ (binT ha hb I h fun v u s2 x y H2 I2 rx ry q=>hr a b pins s2 σ H2 x y v u Q I2 rx ry q (hs _ _))
def rIxL(K:Frg):R2:=fun x y H Q=>∃p xs i v,x = .ref p/\y = .int i/\SqL K H p xs/\atI xs i=some v/\Q v H
def rIxT(K:Frg):R2:=fun x y H Q=>∃p xs i v,x = .ref p/\y = .int i/\SqT K H p xs/\atI xs i=some v/\Q v H
def rIxS:R2:=fun x y H Q=>∃z i c,x = .str z/\y = .int i/\z.length<=sizeLine/\atI z.cps.toList i=some c/\Q (.str ⟨#[c]⟩) H
theorem jo:IxR X (rIxL X.K):=by
 intro value slice pins s σ H x y v u Q I rx ry h hs;obtain⟨p,xs,i,z,rfl,rfl,hq,he,q⟩:=h;cases rx;obtain⟨t,rfl⟩:=ry;obtain⟨its,r,pl,hz⟩:=I.list hq;obtain⟨j,h1,h2,h3,h4,h5⟩:=KS he;obtain⟨w,ew,rw'⟩:=r.get h2;have hl:=r.length;have hn:=line63;have fin:EP X pins σ Q w s:=⟨z,H,I,rw',q⟩
 by_cases h0:0<=i
 ·have hj:i.toNat=j:=by
   rw[seqIndex_of h0 h5]at h1;exact Option.some.inj h1
  exact item_listR pl.isList h0 (by omega) (by rw[hj];simpa using ew) fin hs
 ·have hj:(i+(its.toArray.size:Int)).toNat=j:=by
   rw[seqIndex_neg (by omega) h4]at h1;rw[size_toArray,<-hl];exact Option.some.inj h1
  exact subscriptTail_builtinR (x:=w) pl.isList.typeIs slot_list_getitem.lookup
   (wpAny_getItem_list_neg (Q:=fun r s'=>r=w/\EP X pins σ Q r s') pl.isList (by omega) (by rw[size_toArray]<;>omega) (by omega) (by rw[hj];simpa using ew) ⟨rfl,fin⟩) hs
theorem jv:IxR X (rIxT X.K):=by
 intro value slice pins s σ H x y v u Q I rx ry h hs;obtain⟨p,xs,i,z,rfl,rfl,hq,he,q⟩:=h;cases rx;obtain⟨t,rfl⟩:=ry;obtain⟨its,r,pl,hz⟩:=I.tuple hq;obtain⟨j,h1,h2,h3,h4,h5⟩:=KS he;obtain⟨w,ew,rw'⟩:=r.get h2;have hl:=r.length;have hn:=line63;have fin:EP X pins σ Q w s:=⟨z,H,I,rw',q⟩
 exact subscriptTail_builtinR (x:=w) pl.typeIs slot_tuple_getitem.lookup
  (getItem_tuple (j:=j) (Q:=fun r s'=>r=w/\EP X pins σ Q r s') pl (by omega) (by omega) (by rw[size_toArray,<-hl];exact h1) (by simpa using ew) ⟨rfl,fin⟩) hs
theorem W7:IxR X rIxS:=by
 intro value slice pins s σ H x y v u Q I rx ry h hs;obtain⟨z,i,c,rfl,rfl,hz,he,q⟩:=h;obtain⟨t,rfl⟩:=rx;obtain⟨t',rfl⟩:=ry;obtain⟨j,h1,h2,h3,h4,h5⟩:=KS he;have hl:z.cps.toList.length=z.length:=by simp[Str.length]
 rw[hl]at h1 h4 h5;have hn:=line63;exact tail_any (typeIs_str s z t) slot_str_getitem.lookup (getItem_str (c:=c) (by
  have e1:decide (i < -(2^63:Int))=false:=decide_eq_false (by omega);have e2:decide (i>=2^63)=false:=decide_eq_false (by omega);rw[e1,e2,Bool.or_false]) (by rw[h1];simpa using h2) ⟨.str ⟨#[c]⟩,H,I.tok _,⟨_,rfl⟩,q⟩) hs
theorem xj(its:List Value)(n j:Nat)(u:Value):Obj.mapSeq (·.setIfInBounds j u) {cls:=.type "list",data:=.seq its.toArray n}={cls:=.type "list",data:=.seq (its.set j u).toArray n}:=by
 simp[Obj.mapSeq]
theorem Inv.lst{pins:List (Addr×Obj)}{σ:St}{H:Hp}{s:Shared}{p:Addr}{xs:List V}(I:Inv X pins σ H s)(h:H p=some (.lst xs)) :
  ∃(its:List Value) (n:Nat),Vals xs its/\s.heap.get? p=some {cls:=.type "list",data:=.seq its.toArray n}/\xs.length<=sizeLine:=by
 obtain⟨z,its,n,r,e⟩:=I.hok p _ h;exact⟨its,n,r,e,z⟩
theorem Inv.lstUpd{pins:List (Addr×Obj)}{σ:St}{H:Hp}{s:Shared}{p:Addr}{xs ys:List V}{its its':List Value}{n n':Nat}{f:Obj->Obj}(I:Inv X pins σ H s)(h:H p=some (.lst xs))
  (ho:s.heap.get? p=some {cls:=.type "list",data:=.seq its.toArray n}) (hf:f {cls:=.type "list",data:=.seq its.toArray n}={cls:=.type "list",data:=.seq its'.toArray n'}) (r:Vals ys its') (hz:ys.length<=sizeLine) (t:Nat) :
  Inv X pins σ (upd H p (.lst ys)) {s with heap:=s.heap.update p f,toks:=t}:=by
 have e:(s.heap.update p f).get? p=some {cls:=.type "list",data:=.seq its'.toArray n'}:=by
  rw[Heap.get?_update_self f ho (by rw[hf]<;>rfl),hf]
 refine I.write (x:=p) (e:=p) (by rw[h];trivial) (.inl rfl) (fun b u hb q=>(Heap.get?_update_other _ _ (Ne.symm hb)).trans q) ⟨_,e⟩ ?_;exact⟨hz,its',n',r,e⟩
noncomputable def rSetL:V->V->V->Hp->(Hp->Prop)->Prop:=fun o i v H Q=>∃p xs k j,o = .ref p/\i = .int k/\H p=some (.lst xs)/\ixN xs.length k=some j/\Q (upd H p (.lst (xs.set j v)))
theorem set_list:PSet X rSetL:=by
 intro pins s σ H o i v ov iv u Q I ro ri rv h;obtain⟨p,xs,k,j,rfl,rfl,hp,hj,q⟩:=h;cases ro;obtain⟨t,rfl⟩:=ri;obtain⟨its,n,r,ho,hz⟩:=I.lst hp;obtain⟨h1,h2,h3,h4⟩:=Xd hj;have hl:=r.length;have hn:=line63;have I':Inv X pins σ (upd H p (.lst (xs.set j v))) {s with heap:=s.heap.update p (Obj.mapSeq (·.setIfInBounds j u))}:=
  I.lstUpd hp ho (xj its n j u) (r.set rv j) (by rw[length_set];exact hz) s.toks
 by_cases h0:0<=k
 ·have hk:k.toNat=j:=by
   rw[seqIndex_of h0 h4]at h1;exact Option.some.inj h1
  exact PySem.W.ki_setAt ho h0 (by omega) (by rw[size_toArray,<-hl];exact h4) (by rw[hk];exact⟨_,I',q⟩)
 ·have hk:(k+(its.toArray.size:Int)).toNat=j:=by
   rw[seqIndex_neg (by omega) h3]at h1;rw[size_toArray,<-hl];exact Option.some.inj h1
  exact PySem.W.ki_setBack ho (by omega) (by rw[size_toArray,<-hl];exact h3) (by omega) (by rw[hk];exact⟨_,I',q⟩)
theorem wM(lo hi:Option Int)(n:Nat):(sliceBounds lo hi none n).1=((HT.sIx n 0 lo:Nat):Int)/\(sliceBounds lo hi none n).2.1=((HT.sIx n n hi:Nat):Int)/\(sliceBounds lo hi none n).2.2=1:=by
 refine⟨?_,?_,rfl⟩
 ·cases lo with
  | none=>simp[sliceBounds,HT.sIx]
  | some i=>
   simp only[sliceBounds,HT.sIx,Option.getD_none,show(1:Int)>0 by decide,if_true];by_cases h:i<0
   ·simp only[h,if_true]<;>omega
   ·simp only[h,if_false]<;>omega
 ·cases hi with
  | none=>simp[sliceBounds,HT.sIx]
  | some i=>
   simp only[sliceBounds,HT.sIx,Option.getD_none,show(1:Int)>0 by decide,if_true];by_cases h:i<0
   ·simp only[h,if_true]<;>omega
   ·simp only[h,if_false]<;>omega
theorem Kk(its:List Value)(lo hi:Option Int):slicePick its.toArray lo hi none=((its.drop (HT.sIx its.length 0 lo)).take (HT.sIx its.length its.length hi-HT.sIx its.length 0 lo)).toArray:=by
 obtain⟨h1,h2,h3⟩:=wM lo hi its.toArray.size;unfold slicePick;rw[h1,h2,h3];simp only[sliceRange_one,pick_run,size_toArray]<;>rfl
noncomputable def rSlL(K:Frg):V->Option Int->Option Int->Hp->VK->Prop:=fun x lo hi H Q=>∃a xs,x = .ref a/\SqL K H a xs/\∀p,H p=none->Q (.ref p) (upd H p (.lst (cutV xs lo hi)))
theorem ZI:SlR X (rSlL X.K):=by
 intro pins s σ H x v vl vu lo hi sl Q I rx hs pl pu h;obtain⟨a,xs,rfl,hx,q⟩:=h;cases rx;obtain⟨its,r,ht,hz⟩:=I.list hx;have hlen:=r.length;refine⟨"list",_,slot_list_getitem.lookup,ht.isList.typeIs,?_⟩;refine wpAny_getItem_list_slice ht.isList hs pl pu .none (by simp) ?_ (by rw[size_toArray]<;>omega);rw[Kk,<-hlen];refine⟨.ref s.heap.objs.size,_,I.laid (t':=s.toks) (o:=.lst (cutV xs lo hi)) (fun b ob q=>Heap.get?_push_of_some _ q) (Nat.le_refl _) ?_,rfl,q _ (I.hok.fresh (Nat.le_refl _))⟩;exact⟨Nat.le_trans (YL xs lo hi) hz,_,0,(r.drop (HT.sIx xs.length 0 lo)).take (HT.sIx xs.length xs.length hi-HT.sIx xs.length 0 lo),Heap.get?_push_size _ rfl⟩
noncomputable def flatV:V->Bool
 | .non=>true
 | .bl _=>true
 | .int _=>true
 | .str _=>true
 | _=>false
noncomputable def eqV:V->V->Bool
 | .non,.non=>true
 | .bl a,.bl b=>a==b
 | .bl a,.int b=>(if a then 1 else 0)==b
 | .int a,.bl b=>a==(if b then 1 else 0)
 | .int a,.int b=>a==b
 | .str a,.str b=>a==b
 | _,_=>false
theorem j28{A:Around}{s:Shared}{y x:V}{u v:Value}(ry:RelV y u)(rx:RelV x v)(fy:flatV y=true)(fx:flatV x=true):SeqAt.EqAt A s u v (eqV y x):=by
 cases y with
 | non=>
  cases ry;cases x with
  | non=>cases rx;exact SeqAt.EqAt.same _
  | bl b=>cases rx;exact SeqAt.EqAt.none_bool b
  | int b=>obtain⟨t,rfl⟩:=rx;exact SeqAt.EqAt.none_int b t
  | str b=>obtain⟨t,rfl⟩:=rx;exact SeqAt.EqAt.none_str b t
  | _=>exact absurd (show false=true from fx) Bool.false_ne_true
 | bl a=>
  cases ry;cases x with
  | non=>cases rx;exact SeqAt.EqAt.bool_none a
  | bl b=>cases rx;exact SeqAt.EqAt.bool_bool a b
  | int b=>obtain⟨t,rfl⟩:=rx;exact SeqAt.EqAt.bool_int a b t
  | str b=>obtain⟨t,rfl⟩:=rx;exact SeqAt.EqAt.bool_str a b t
  | _=>exact absurd (show false=true from fx) Bool.false_ne_true
 | int a=>
  obtain⟨t',rfl⟩:=ry;cases x with
  | non=>cases rx;exact SeqAt.EqAt.int_none a t'
  | bl b=>cases rx;exact SeqAt.EqAt.int_bool a t' b
  | int b=>obtain⟨t,rfl⟩:=rx;exact SeqAt.EqAt.int_int a t' b t
  | str b=>obtain⟨t,rfl⟩:=rx;exact SeqAt.EqAt.int_str a t' b t
  | _=>exact absurd (show false=true from fx) Bool.false_ne_true
 | str a=>
  obtain⟨t',rfl⟩:=ry;cases x with
  | non=>cases rx;exact SeqAt.EqAt.str_none a t'
  | bl b=>cases rx;exact SeqAt.EqAt.str_bool a t' b
  | int b=>obtain⟨t,rfl⟩:=rx;exact SeqAt.EqAt.str_int a t' b t
  | str b=>obtain⟨t,rfl⟩:=rx;exact SeqAt.EqAt.str_str a t' b t
  | _=>exact absurd (show false=true from fx) Bool.false_ne_true
 | _=>exact absurd (show false=true from fy) Bool.false_ne_true
noncomputable def eqU(x:V)(u:Value):Bool:=match u with
 | .none=>eqV .non x
 | .bool b=>eqV (.bl b) x
 | .int i _=>eqV (.int i) x
 | .str z _=>eqV (.str z) x
 | _=>false
theorem kq{x y:V}{u:Value}(r:RelV y u)(f:flatV y=true):eqU x u=eqV y x:=by
 cases y with
 | non=>cases r;rfl
 | bl b=>cases r;rfl
 | int i=>obtain⟨t,rfl⟩:=r;rfl
 | str z=>obtain⟨t,rfl⟩:=r;rfl
 | _=>exact absurd (show false=true from f) Bool.false_ne_true
theorem yJ{x:V}:∀{xs:List V} {us:List Value},Vals xs us->xs.all flatV=true->us.any (eqU x)=xs.any fun y=>eqV y x
 | _,_,.nil,_=>rfl
 | y::xs,u::us,.cons r t,f=>by
  rw[all_cons,Bool.and_eq_true]at f;rw[any_cons,any_cons,kq r f.1,yJ t f.2]
theorem zI{A:Around}{s:Shared}{x:V}{v:Value}(rx:RelV x v)(fx:flatV x=true):∀{xs:List V} {us:List Value},Vals xs us->xs.all flatV=true->∀u∈us,SeqAt.EqAt A s u v (eqU x u)
 | _,_,.nil,_=>fun u hu=>by cases hu
 | y::xs,u::us,.cons r t,f=>fun u' hu=>by
  rw[all_cons,Bool.and_eq_true]at f;rcases mem_cons.mp hu with rfl | hu
  ·rw[kq r f.1];exact j28 r rx f.1 fx
  ·exact zI rx fx t f.2 u' hu
noncomputable def inV(x:V)(xs:List V):Bool:=xs.any fun y=>eqV y x
def rIn(K:Frg)(neg:Bool):R2:=fun x y H Q=>∃p xs,y = .ref p/\(SqL K H p xs\/SqT K H p xs)/\flatV x=true/\xs.all flatV=true/\Q (.bl (if neg then !inV x xs else inV x xs)) H
theorem X7:OpR X (compareOp .In) (rIn X.K false):=by
 intro pins s σ H x y v u Q I rx ry h;obtain⟨p,xs,rfl,hq,fx,fs,q⟩:=h;cases ry;rcases hq with hq | hq
 ·obtain⟨its,r,pl,hz⟩:=I.list hq;refine SeqAt.in_listAt (eqU x) pl.isList (fun w hw=>zI rx fx r fs w (by simpa using hw)) ⟨.bl _,H,I,rfl,?_⟩;rw[show its.toArray.any (eqU x)=its.any (eqU x) by simp,yJ r fs];exact q
 ·obtain⟨its,r,pl,hz⟩:=I.tuple hq;refine SeqAt.in_tupleAt (eqU x) pl (fun w hw=>zI rx fx r fs w (by simpa using hw)) ⟨.bl _,H,I,rfl,?_⟩;rw[show its.toArray.any (eqU x)=its.any (eqU x) by simp,yJ r fs];exact q
theorem wz:OpR X (compareOp .NotIn) (rIn X.K true):=by
 intro pins s σ H x y v u Q I rx ry h;obtain⟨p,xs,rfl,hq,fx,fs,q⟩:=h;cases ry;rcases hq with hq | hq
 ·obtain⟨its,r,pl,hz⟩:=I.list hq;refine SeqAt.notIn_listAt (eqU x) pl.isList (fun w hw=>zI rx fx r fs w (by simpa using hw)) ⟨.bl _,H,I,rfl,?_⟩;rw[show its.toArray.any (eqU x)=its.any (eqU x) by simp,yJ r fs];exact q
 ·obtain⟨its,r,pl,hz⟩:=I.tuple hq;refine SeqAt.notIn_tupleAt (eqU x) pl (fun w hw=>zI rx fx r fs w (by simpa using hw)) ⟨.bl _,H,I,rfl,?_⟩;rw[show its.toArray.any (eqU x)=its.any (eqU x) by simp,yJ r fs];exact q
theorem QJ:CallR X (.type "list") (fun xs H Q=>∃p ys,xs=[.ref p]/\(SqL X.K H p ys\/SqT X.K H p ys)/\∀l,H l=none->Q (.ref l) (upd H l (.lst ys))):=by
 intro pins s σ H xs us Q I r h;obtain⟨p,ys,rfl,hq,q⟩:=h;obtain⟨u,rfl,rx⟩:=vals1 r;cases rx;have fin:∀(its:List Value),Vals ys its->ys.length<=sizeLine->∀(h':Heap) (c':Nat),(∀b o',s.heap.get? b=some o'->h'.get? b=some o')->
   h'.get? s.heap.objs.size=some {cls:=.type "list",dict:=none,data:=.seq its.toArray c',slots:=#[]}->EP X pins σ Q (.ref s.heap.objs.size) {s with heap:=h'}:=fun its r' hz h' c' kp e=>
  ⟨.ref s.heap.objs.size,_,I.laid (t':=s.toks) kp (Nat.le_refl _) (show ObjOk X.prog X.w _ h' _ (.lst ys)from⟨hz,its,c',r',e⟩),rfl,q _ (I.hok.fresh (Nat.le_refl _))⟩
 rcases hq with hq | hq
 ·obtain⟨its,r',pl,hz⟩:=I.list hq;have hlen:=r'.length;obtain⟨o,ho,hc,n,hd⟩:=pl.isList;exact call_list_seq p (.inl rfl) ho hc hd (fun h' c' kp e=>fin its r' hz h' c' kp e) (by simp only[size_toArray]<;>omega)
 ·obtain⟨its,r',pl,hz⟩:=I.tuple hq;have hlen:=r'.length;obtain⟨o,ho,hc,n,hd⟩:=pl;exact call_list_seq p (.inr rfl) ho hc hd (fun h' c' kp e=>fin its r' hz h' c' kp e) (by simp only[size_toArray]<;>omega)
theorem Za:CallR X (.type "tuple") (fun xs H Q=>∃p ys,xs=[.ref p]/\((SqL X.K H p ys/\∀l,H l=none->Q (.ref l) (upd H l (.tup ys)))\/(SqT X.K H p ys/\Q (.ref p) H))):=by
 intro pins s σ H xs us Q I r h;obtain⟨p,ys,rfl,h⟩:=h;obtain⟨u,rfl,rx⟩:=vals1 r;cases rx;rcases h with⟨hq,q⟩ | ⟨hq,q⟩
 ·obtain⟨its,r',pl,hz⟩:=I.list hq;have hlen:=r'.length;refine call_tuple_list pl.isList (fun h' kp=>?_) (by simp only[size_toArray]<;>omega);have I1:Inv X pins σ H {s with heap:=h'}:=I.kept (t':=s.toks) kp;have I2:Inv X pins σ (upd H h'.objs.size (.tup ys)) {s with heap:=h'.push {cls:=.type "tuple",data:=.seq its.toArray}}:=
   I1.laid (t':=s.toks) (fun b o e=>Heap.get?_push_of_some _ e) (Nat.le_refl _) (show ObjOk X.prog X.w _ _ _ (.tup ys)from⟨hz,its,r',IsTup.new _ _⟩)
  exact⟨.ref h'.objs.size,_,I2,rfl,q _ (I1.hok.fresh (Nat.le_refl _))⟩
 ·obtain⟨its,r',pl,hz⟩:=I.tuple hq;exact call_tuple_same pl ⟨.ref p,H,I,rfl,q⟩
def tyV(K:Frg)(T:String)(x:V)(H:Hp):Prop:=match x with
 | .str _=>T = "str"
 | .int _=>T = "int"
 | .ref p=>(T = "list"/\∃xs,SqL K H p xs)\/(T = "tuple"/\∃o,K.lookup p=some o/\o.cls = .type "tuple"/\o.dict=none)\/
   (T = "dict"/\((∃kvs,H p=some (.dK kvs))\/∃kvs,H p=some (.dT kvs)))\/(T = "set"/\∃S n,H p=some (.set S n))
 | _=>False
theorem j0W{pins:List (Addr×Obj)}{σ:St}{H:Hp}{s:Shared}{T:String}{x:V}{v:Value}(I:Inv X pins σ H s)(r:RelV x v)(ty:tyV X.K T x H) :
  s.TypeIs v T/\∀a,v = .ref a->∃ob,s.heap.get? a=some ob/\ob.dict=none:=by
 cases x with
 | str z=>
  obtain⟨t,rfl⟩:=r;cases(show T = "str" from ty);exact⟨typeIs_str s z t,fun _ e=>nomatch e⟩
 | int i=>
  obtain⟨t,rfl⟩:=r;cases(show T = "int" from ty);exact⟨typeIs_int s i t,fun _ e=>nomatch e⟩
 | ref p=>
  cases r;rcases ty with⟨rfl,xs,hq⟩ | ⟨rfl,o,hk,hc,hd⟩ | ⟨rfl,hk⟩ | ⟨rfl,S,n,hk⟩
  ·obtain⟨its,_,pl,_⟩:=I.list hq;refine⟨pl.isList.typeIs,fun a e=>?_⟩;cases e;obtain⟨o,n,e,c,hd,_⟩:=pl;exact⟨o,e,hd⟩
  ·refine⟨⟨o,I.kIn p o hk,hc⟩,fun a e=>?_⟩;cases e;exact⟨o,I.kIn _ o hk,hd⟩
  ·have z:∃o,s.heap.get? p=some o/\o.ExactDict:=by
    rcases hk with⟨kvs,hk⟩ | ⟨kvs,hk⟩
    ·obtain⟨_,_,_,_,o,_,_,e,ex,_⟩:=I.hok p _ hk;exact⟨o,e,ex⟩
    ·obtain⟨_,_,_,_,o,_,_,e,ex,_⟩:=I.hok p _ hk;exact⟨o,e,ex⟩
   obtain⟨o,e,ex⟩:=z;refine⟨⟨o,e,ex.1⟩,fun a e2=>?_⟩;cases e2;exact⟨o,e,ex.2.1⟩
  ·obtain⟨o,_,_,_,e,ex,_⟩:=I.hok p _ hk;refine⟨⟨o,e,ex.1⟩,fun a e2=>?_⟩;cases e2;exact⟨o,e,ex.2.1⟩
 | _=>exact False.elim ty
def tBM0(K:Frg)(T:String)(r:V->List V->Hp->VK->Prop)(to:TE):TE:=fun σ H Q=>to σ H fun x H1=>tyV K T x H1/\r x [] H1 Q
def tBM(K:Frg)(T:String)(r:V->List V->Hp->VK->Prop)(to:TE)(t:TA):TE:=fun σ H Q=>to σ H fun x H1=>tyV K T x H1/\t σ H1 fun xs H2=>r x xs H2 Q
variable{o e:Expr}{es:List Expr}{to:TE}{t:TA}{name:Str}{apos cpos:Pos}{T id:String}{r:V->List V->Hp->VK->Prop}
theorem j2t(pa:PlainAttrs T)(slot:Slot T name id)(hty:typeOf (.builtin id)=pure (.type "method_descriptor"))(hm:MtR X id r)(ho:PE X o to)
  (hbase:attributeBase o name X.env (eval o X.env)=eval o X.env:=by rfl) (hline:(apos.endLine==cpos.line)=true:=by rfl):PE X (.Call (.Attribute o name apos) [] [] cpos) (tBM0 X.K T r to):=by
 intro pins s σ H Q I h;refine wpAny_Call_method0_late hbase hline (thn (ho pins s σ H _ I h) fun v s1 ⟨x,H1,I1,r1,ty,q1⟩=>?_);obtain⟨h1,h2⟩:=j0W I1 r1 ty;exact⟨T,id,pa,slot,hty,h1,h2,Calls.callWith_builtin rfl (PySem.evalArgs_none (hm pins s1 σ H1 x [] v [] Q I1 r1 .nil q1))⟩
theorem qO(pa:PlainAttrs T)(slot:Slot T name id)(hty:typeOf (.builtin id)=pure (.type "method_descriptor"))(hm:MtR X id r)(ho:PE X o to)(ha:PA X (e::es) t)
  (hbase:attributeBase o name X.env (eval o X.env)=eval o X.env:=by rfl)
  (hfew:((backTo cpos (starEach (e::es) X.env)).all (fun x=>!x.1)&&(backToKw cpos (keywordEach [] X.env)).all (fun x=>x.1.isSome)
   && decide ((e::es).length+([]:List Keyword).length+(if([]:List Keyword).isEmpty then 0 else 1)<30))=true:=by rfl)
  (hline:(apos.endLine==cpos.line)=true:=by rfl) (hs:starEach (e::es) X.env=(false,eval e X.env)::starEach es X.env:=by rfl) (hplain:(backTo cpos (starEach es X.env)).any (·.1)=false:=by rfl) :
  PE X (.Call (.Attribute o name apos) (e::es) [] cpos) (tBM X.K T r to t):=by
 intro pins s σ H Q I h;refine wpAny_Call_method_late hbase hfew hline rfl (thn (ho pins s σ H _ I h) fun v s1 ⟨x,H1,I1,r1,ty,q1⟩=>?_);obtain⟨h1,h2⟩:=j0W I1 r1 ty;refine⟨T,id,pa,slot,hty,h1,h2,?_⟩;have hA:=ha cpos pins s1 σ H1 _ I1 q1;rw[hs]at hA|-;refine Calls.callWith_builtin (by show(false||(backTo cpos (starEach es X.env)).any (·.1))=false;rw[hplain]<;>rfl) (Calls.evalArgs_plain ?_);exact thn hA fun us s2 ⟨vs,H2,I2,r2,q2⟩=>hm pins s2 σ H2 x vs v us Q I2 r1 r2 q2
end
def MtM(X:Cx)(id:String)(r:V->List V->Hp->VK->Prop):Prop:=
 ∀(pins:List (Addr×Obj)) (s:Shared) (σ:St) (H:Hp) (x:V) (xs:List V) (v:Value) (us:List Value) (Q:VK),Inv X pins σ H s->RelV x v->Vals xs us->r x xs H Q->
  wpAny (model X.prog X.w) X.A (call (.builtin id) (v::us)) (EP X pins σ Q) X.xe s
theorem Vals.one:∀{x:V} {us:List Value},Vals [x] us->∃u,us=[u]/\RelV x u
 | _,_,.cons r .nil=>⟨_,rfl,r⟩
theorem Vals.zero:∀{us:List Value},Vals [] us->us=[]
 | _,.nil=>rfl
theorem Vals.rep{xs:List V}{us:List Value}(h:Vals xs us):∀k:Nat,Vals (List.replicate k xs).flatten (List.replicate k us).flatten
 | 0=>.nil
 | k+1=>by
  rw[replicate_succ,replicate_succ,flatten_cons,flatten_cons];exact Vals.append h (Vals.rep h k)
theorem Kw(its:List Value):∀(k:Nat) (acc:List Value),
  List.foldl (fun x1 x2=>x1++x2) acc.toArray (List.replicate k its.toArray)=(acc++(List.replicate k its).flatten).toArray
 | 0,acc=>by simp
 | k+1,acc=>by
  have e:acc.toArray++its.toArray=(acc++its).toArray:=by simp
  have e2:(acc++its)++(List.replicate k its).flatten=acc++(List.replicate (k+1) its).flatten:=by
   rw[replicate_succ,flatten_cons,List.append_assoc]
  rw[<-e2,<-Kw its k (acc++its),<-e,replicate_succ,List.foldl_cons]
section
variable{X:Cx}{pins:List (Addr×Obj)}{σ:St}{H:Hp}{s:Shared}{l b:Addr}{xs ys zs:List V}
theorem Inv.lset{its its':List Value}{n:Nat}{f:Array Value->Array Value}{t':Nat}(I:Inv X pins σ H s)(hH:H l=some (.lst xs))
  (e:s.heap.get? l=some {cls:=.type "list",data:=.seq its.toArray n}) (hf:f its.toArray=its'.toArray) (hv:Vals ys its') (hz:ys.length<=sizeLine) :
  Inv X pins σ (upd H l (.lst ys)) {s with heap:=s.heap.update l (Obj.mapSeq f),toks:=t'}:=by
 have q:=PySem.IsL.update e f;rw[hf]at q;refine I.write (x:=l) (e:=l) (by rw[hH];exact trivial) (.inl rfl) (fun b' u hb hu=>(Heap.get?_update_other s.heap (Obj.mapSeq f) (Ne.symm hb)).trans hu) ⟨_,q⟩ ?_;exact⟨hz,its',_,hv,q⟩
theorem Inv.lnew{its:List Value}{t':Nat}(I:Inv X pins σ H s)(hv:Vals ys its)(hz:ys.length<=sizeLine) :
  Inv X pins σ (upd H s.heap.objs.size (.lst ys)) {s with heap:=s.heap.push {cls:=.type "list",data:=.seq its.toArray},toks:=t'}:=
 I.laid (fun _ _ q=>Heap.get?_push_of_some _ q) (Nat.le_refl _) ⟨hz,its,0,hv,Heap.get?_push_size _ rfl⟩
theorem Inv.fresh(I:Inv X pins σ H s):H s.heap.objs.size=none:=I.hok.fresh (Nat.le_refl _)
theorem Inv.lstM(I:Inv X pins σ H s)(hH:H l=some (.lst xs)):xs.length<=sizeLine/\∃(its:List Value) (n:Nat),Vals xs its/\xs.length=its.length/\s.heap.get? l=some {cls:=.type "list",data:=.seq its.toArray n}:=by
 obtain⟨z,its,n,r,e⟩:=I.hok l _ hH;exact⟨z,its,n,r,r.length,e⟩
theorem notLongL{n:Nat}(h:n<=sizeLine):Builtin.List.listTooLong n=false:=by
 unfold Builtin.List.listTooLong;exact decide_eq_false (by omega)
end
section
variable{X:Cx}
noncomputable def rAppend:V->List V->Hp->VK->Prop:=fun x vs H Q=>∃l xs y,x = .ref l/\vs=[y]/\H l=some (.lst xs)/\xs.length<sizeLine/\Q .non (upd H l (.lst (xs++[y])))
theorem jJ:MtM X "list.append" rAppend:=by
 intro pins s σ H x vs v us Q I rx rv h;obtain⟨l,xs,y,rfl,rfl,hH,hz,q⟩:=h;cases rx;obtain⟨u,rfl,ru⟩:=rv.one;obtain⟨z,its,n,r,hl,e⟩:=I.lstM hH;refine call_meets F.slot_list_append ⟨_,e,rfl⟩ F.entry_list_append (F.args_list_append_2 _ _) (PySem.list_append l its.toArray n u (by rw[size_toArray];omega)) ⟨e,?_⟩;refine⟨.non,_,I.lset (its':=its++[u]) hH e (by simp) (r.append (.cons ru .nil)) ?_,rfl,q⟩;rw[List.length_append,List.length_singleton];omega
def rCat:R2:=fun x y H Q=>∃l b xs zs,x = .ref l/\y = .ref b/\H l=some (.lst xs)/\H b=some (.lst zs)/\xs.length+zs.length<=sizeLine/\∀p,H p=none->Q (.ref p) (upd H p (.lst (xs++zs)))
theorem xt:OpR X (binaryOp .Add) rCat:=by
 intro pins s σ H x y v u Q I rx ry h;obtain⟨l,b,xs,zs,rfl,rfl,hH,hB,hz,q⟩:=h;cases rx;cases ry;obtain⟨z,its,n,r,hl,e⟩:=I.lstM hH;obtain⟨z2,its2,n2,r2,hl2,e2⟩:=I.lstM hB;refine PySem.P.add_list e e2 ?_ (by rw[size_toArray,size_toArray];omega);have ea:its.toArray++its2.toArray=(its++its2).toArray:=by simp
 rw[ea];exact⟨.ref _,_,I.lnew (t':=s.toks) (r.append r2) (by rw[List.length_append];omega),rfl,q _ I.fresh⟩
def rRep:R2:=fun x y H Q=>∃l k xs,x = .ref l/\y = .int k/\H l=some (.lst xs)/\-(2^63)<=k/\k<2^63/\xs.length*k.toNat<=sizeLine/\
 ∀p,H p=none->Q (.ref p) (upd H p (.lst (List.replicate k.toNat xs).flatten))
theorem j1k{α:Type}(xs:List α)(k:Nat):(List.replicate k xs).flatten.length=k*xs.length:=by
 induction k with
 | zero=>simp
 | succ k ih=>rw[replicate_succ,flatten_cons,List.length_append,ih,Nat.succ_mul,Nat.add_comm]
theorem j2r:OpR X (binaryOp .Mult) rRep:=by
 intro pins s σ H x y v u Q I rx ry h;obtain⟨l,k,xs,rfl,rfl,hH,h1,h2,hz,q⟩:=h;cases rx;obtain⟨t,rfl⟩:=ry;obtain⟨z,its,n,r,hl,e⟩:=I.lstM hH;have hlen:its.toArray.size*k.toNat<=sizeLine:=by rw[size_toArray,<-hl];exact hz
 have hcap:¬its.toArray.size*k.toNat>(2^63-1)/8:=by
  have:(sizeLine:Nat)<=(2^63-1)/8:=by decide
  omega
 have hfit:¬(!Builtin.List.listFitsIndex k)=true:=by
  rw[fitsIndex_both h1 h2];exact Bool.false_ne_true
 have hlong:¬Builtin.List.listTooLong (its.toArray.size*k.toNat)=true:=by
  rw[notLongL hlen];exact Bool.false_ne_true
 have hnew:List.foldl (fun x1 x2=>x1++x2) #[] (List.replicate (if its.toArray.isEmpty=true then 0 else k.toNat) its.toArray)=(List.replicate k.toNat its).flatten.toArray:=by
  have f0:∀m:Nat,List.foldl (fun x1 x2=>x1++x2) #[] (List.replicate m its.toArray)=(List.replicate m its).flatten.toArray:=fun m=>by
   have:=Kw its m [];rw[List.nil_append]at this;exact this
  rw[f0];cases its with
  | nil=>simp
  | cons a r'=>rw[if_neg (by simp)]
 refine wpAny_binaryOp_repeat_ref (T:="list") (U:="int") (by decide) ⟨_,e,rfl⟩ (fun s'=>typeIs_int s' k t) noFill_list_mul F.fills_int_mul F.slot_int_rmul repeat_list F.slot_int_index.lookup
  (call_meets F.slot_int_rmul (typeIs_int s k t) F.entry_int_rmul (F.args_int_rmul_2 _ _) (int___rmul___int_list k t l its.toArray n)
   ⟨e,rfl,⟨_,e,rfl⟩,call_meets F.slot_list_mul ⟨_,e,rfl⟩ F.entry_list_mul (F.args_list_mul_2 _ _) (AutoListH.list___mul___list_int_3 l its.toArray n k t hfit hcap hlong) ⟨e,?_⟩⟩)
 rw[hnew];exact⟨.ref _,_,I.lnew (t':=s.toks) (r.rep k.toNat) (by rw[j1k,Nat.mul_comm];exact hz),rfl,q _ I.fresh⟩
end
section
variable{prog:Program}{w:World}{A:Around}{E:Value->Shared->Prop}{s:Shared}
end
section
variable{X:Cx}
end
end L2
namespace Att
open PySem PySem.W PySem.Calls PyProof.Rows
theorem YU{P:Params}{h:Heap}:∀(ns:List Int) (vs:List Value),WellAll P h vs (ns.map WData.int)->IntsAre vs ns:=by
 intro ns
 induction ns with
 | nil=>
  intro vs w;rw[map_nil]at w;cases w;exact .nil
 | cons n ns ih=>
  intro vs w;rw[map_cons]at w;cases w with
  | cons a b=>
   cases a;exact .cons _ _ (ih _ b)
theorem j01{l:OpenLaw}{n:Nat}(hn:l.most=some n){P:Params}{h:Heap}{args:List WData}{vals:List Value}
  (hpre:l.row.toRowW.claim.pre args=true) (hwl:WellAll P h vals args) :
  ∃a vs ns,vals=[Value.ref a]/\args=[WData.list (ns.map WData.int)]/\h.get? a=some {cls:=.type "list",data:=.seq vs.toArray}/\IntsAre vs ns/\ns.length<=n:=by
 have hsh:WShape.hasAll [] args [.list .int]=true:=(pre_splitW hpre).1;have hc:l.pre.holds [] {args:=args}=true:=(pre_splitW hpre).2;obtain⟨d,r,rfl,h1,h2⟩:=hasAllW_cons hsh;obtain rfl:=hasAllW_nil h2;obtain⟨xs,rfl,h3⟩:=hasW_list h1;obtain⟨ns,rfl⟩:=items_int h3;have hlen:ns.length<=n:=by
  unfold OpenLaw.pre at hc;have h4:(WTm.not (.lt (.lit (.int (n:Int))) (.len (.arg 0)))).holds [] {args:=[.list (ns.map .int)]}=true:=by
   have h4:=(holds_andW hc).1;rw[hn]at h4;exact h4
  have h5:=condW_of h4 (w_not (w_lt w_lit (w_len_list (w_arg rfl))));rw[length_map]at h5;refine Nat.le_of_not_lt fun q=>?_
  have q':(n:Int)<((ns.length:Nat):Int):=by omega
  first
   | (rw[decide_eq_true q']at h5;exact absurd h5 (by decide))
   | (simp at h5;omega)
 cases hwl with
 | cons w1 w2=>
  cases w2;cases w1 with
  | list ho hall=>exact⟨_,_,ns,rfl,rfl,ho,YU ns _ hall,hlen⟩
theorem X8(l:OpenLaw)(args:List WData):l.row.toRowW.claim.post args (.bool true) args=true:=
 postW_of (r:=l.row.toRowW) (X:=(true==true))
  (show WShape.has [] (.bool true) .bool=true by first | rfl | decide | simp[WShape.has,WShape.arms,WShape.armsAll])
  (show(WTm.eq .res (.lit (.bool true))).value [] {args:=args,res:=some (.bool true),after:=args}=some (.bool (true==true))from w_eq_bool (w_res rfl) w_lit) rfl
section
variable{prog:Program}{w:World}{A:Around}{E:Value->Shared->Prop}{s:Shared}{K:Frag}
end
end Att
namespace L2
open PySem PySem.Spec PyProof.Rows
theorem KK:∀{vs:List Value} {ns:List Int},IntsAre vs ns->Vals (ns.map V.int) vs
 | _,_,.nil=>.nil
 | _,_,.cons n t h=>.cons ⟨t,rfl⟩ (KK h)
def Only(H:Hp):Prop:=∀b,H b=none\/∃o xs,H b=some (.frz o (.lst xs))
theorem j0p{P:Program}{w:World}{K:Frg}{mg mb:Str->Option Value}{CX:CXT}{k:Nat}{fa a:Addr}{fd:FuncData}{x:Str}{sp:Sp}{s₁:Shared}{vs:List Value}{ns:List Int}
  (KX:K.In s₁.heap) (hns:s₁.heap.Ns mainGlobals mg) (hb:s₁.heap.Ns builtinsNs mb) (hbb:∀x:Str,x≠"__name__"->mb x=bootBuiltins x) (hlim:s₁.heap.NoLimit) (hg:s₁.gens = #[])
  (ha:s₁.heap.get? a=some {cls:=.type "list",data:=.seq vs.toArray}) (hi:IntsAre vs ns) (hl:ns.length<=sizeLine) (hr:Room k callerA)
  (F:∀base:Heap,K.In base->base.Ns mainGlobals mg->FnOk P w K mg base CX k fa fd [x] sp) (hbind:∀(s:Shared) (u:Value),BindsTo s fd ⟨[u],[]⟩ [(x,u)])
  (hsp:∀H:Hp,Only H->SqL K H a (ns.map V.int)->sp [.ref a] H (fun v _=>v = .bl true) fun _ _ _=>False)
  (hCX:∀H e s',CX [] H s₁ (fun _ _ _=>False) e s'->False) :
  codeAny (model P w) callerA (.call (.ref fa) ⟨[.ref a],[]⟩) (fun r s'=>r = .ok (.ret (.bool true))/\OldK s₁.heap s'.heap/\s'.os=s₁.os/\AllBare s'.gens) s₁:=by
 have rv:=KK hi;have lenV:=hi.length;have core:∀H:Hp,Only H->SqL K H a (ns.map V.int)->HOk P w H s₁.heap->(∀b,H b≠none->b=a)->(H a≠none->K.lookup a=none)->
   codeAny (model P w) callerA (.call (.ref fa) ⟨[.ref a],[]⟩) (fun r s'=>r = .ok (.ret (.bool true))/\OldK s₁.heap s'.heap/\s'.os=s₁.os/\AllBare s'.gens) s₁:=by
  intro H hO hS hok hA hK;have base_of:∀{b:Addr} {o:Obj},s₁.heap.get? b=some o->H b=none->(hidT s₁.heap H).get? b=some o:=fun e n=>j0m e n
  have noA:∀{b:Addr} {o:Obj} {es:Array DictEntry} {ep:Nat},s₁.heap.get? b=some o->o.data = .dict es ep->H b=none:=fun {b o es ep} e d=>by
   cases q:H b with
   | none=>rfl
   | some u=>
    have e':b=a:=hA b (by rw[q];simp);subst e';rw[ha]at e;cases e;have d':Data.seq vs.toArray _=Data.dict es ep:=d;cases d'
  have nsK:∀{b:Addr} {m:Str->Option Value},s₁.heap.Ns b m->(hidT s₁.heap H).Ns b m:=fun {b m} ⟨o,es,ep,e,d,r⟩=>⟨o,es,ep,base_of e (noA e d),d,r⟩
  have hKb:K.In (hidT s₁.heap H):=fun b o e=>base_of (KX b o e) (by
   cases q:H b with
   | none=>rfl
   | some u=>
    have e':b=a:=hA b (by rw[q];simp);subst e';rw[hK (by rw[q];simp)]at e;cases e)
  have hM:Mod K mg (hidT s₁.heap H):=⟨hKb,nsK hns,⟨mb,nsK hb,hbb⟩,let ⟨mc,h1,h2⟩:=hlim;⟨mc,nsK h1,h2⟩⟩
  have e0:Env0 P w K mg (hidT s₁.heap H) callerA [] s₁ H:=⟨rfl,hM,fun b o e=>j1x e,Nat.le_of_eq (XI _ _),trivial,fun b hb=>absurd (show b∈([]:List Addr)from hb) (by simp),hok,.of_eq hg⟩
  refine codeAny_mono ((F _ hKb (nsK hns)).run callerA [] s₁ H ⟨[.ref a],[]⟩ [.ref a] [.ref a] _ _ hr e0 (hbind s₁ (.ref a)) (.cons rfl .nil) (hsp H hO hS)) fun r s' h=>?_
  cases r with
  | error e=>exact(hCX H e s' h).elim
  | ok fl=>
   cases fl with
   | next=>exact False.elim h
   | brk=>exact False.elim h
   | cont=>exact False.elim h
   | ret u=>
    obtain⟨v,H',os,bare,un,hok',r',q⟩:=h;have q':v = .bl true:=q;subst q';obtain rfl:u=Value.bool true:=r';refine⟨rfl,OldK.of_keep fun b o e=>?_,os,bare⟩;cases q:H b with
    | none=>exact un.keep b o e q (by intro z;exact absurd (show b∈([]:List Addr)from z) (by simp)) (by simp)
    | some u=>
     rcases hO b with z | ⟨ob,xs,z⟩
     ·rw[q]at z;cases z
     ·have z2:=un.frzs b ob _ z;obtain⟨e1,_⟩:=hok b _ z;obtain⟨e2,_⟩:=hok' b _ z2;rw[e]at e1;cases e1;exact e2
 cases hk:K.lookup a with
 | some o=>
  have e:=KX a o hk;rw[ha]at e;cases e;refine core (fun _=>none) (fun _=>.inl rfl) (.inr ⟨_,vs.toArray,_,hk,rfl,rfl,rfl,by rw[size_toArray,lenV];exact hl,by simpa using rv⟩) (fun b u z=>by have z':(none:Option HO)=some u:=z;cases z') (fun b z=>absurd rfl z) fun z=>absurd rfl z
 | none=>
  refine core (fun b=>if b=a then some (.frz {cls:=.type "list",data:=.seq vs.toArray} (.lst (ns.map V.int)))else none) (fun b=>?_) (.inl (.inr ⟨{cls:=.type "list",data:=.seq vs.toArray},if_pos rfl⟩)) (fun b u z=>?_) (fun b z=>?_) fun _=>hk
  ·by_cases hb:b=a
   ·exact .inr ⟨_,_,if_pos hb⟩
   ·exact .inl (if_neg hb)
  ·by_cases hb:b=a
   ·have z':=(if_pos hb).symm.trans z;cases z';subst hb;exact⟨ha,by rw[length_map];exact hl,vs,_,rv,ha⟩
   ·have z':=(if_neg hb).symm.trans z;cases z'
  ·by_cases hb:b=a
   ·exact hb
   ·exact absurd (if_neg hb) z
noncomputable abbrev KOf{K:Frg}{h:Heap}(_:K.In h):Frg:=K
noncomputable def inClass(s:Stmt)(j:Nat):Stmt:=match s with
 | .ClassDef _ _ _ body _ _ _ _ _ _ _=>body.getD j (.Pass ⟨0,0,0,0⟩)
 | _=>.Pass ⟨0,0,0,0⟩
noncomputable def defArgs(s:Stmt):Arguments:=match s with
 | .FunctionDef _ a _ _ _ _ _ _ _ _=>a
 | _=>{posonlyargs:=[],args:=[],vararg:=none,kwonlyargs:=[],kw_defaults:=[],kwarg:=none,defaults:=[]}
noncomputable def defBody(s:Stmt):List Stmt:=match s with
 | .FunctionDef _ _ b _ _ _ _ _ _ _=>b
 | _=>[]
noncomputable def defScope(s:Stmt):Scope:=match s with
 | .FunctionDef _ _ _ _ _ _ sc _ _ _=>sc
 | _=>{kind:=.function,names:=[],isGenerator:=false,isCoroutine:=false}
noncomputable abbrev CX0:CXT:=fun _ _ _ _ _ _=>False
noncomputable abbrev E0:XK:=fun _ _ _=>False
theorem pass0{X:Cx}:Passes CX0 X E0:=fun _ _ _ _ _ _ _ h=>h.elim
structure Fun(K:Frg)(x qual:Str)(st:Stmt)(f:Addr)(fd:FuncData):Prop where
 ex:∃(oc:Value) (od:Option Addr) (kV doc pm:Value) (an:Option Addr) (cdv ct:Value) (osl:Array (Option Value)),
  fd=PySem.W.fnOf x qual (defArgs st) (defBody st) (defScope st) .none kV doc pm an cdv ct/\K.lookup f=some ⟨oc,od,.func fd,osl⟩/\PySem.W.codeIn K cdv qual=true
 kp:PySem.W.keepIn K (.ref f)=true
section
variable{P:Program}{w:World}{K:Frg}{mg:Str->Option Value}{base:Heap}
theorem Fun.ok{x qual:Str}{st:Stmt}{f:Addr}{fd:FuncData}{N ps:List Str}{k:Nat}{sp:Sp}(F:Fun K x qual st f fd)(S:FnScope N ps (defScope st))(len:∀vs H Q E,sp vs H Q E->vs.length=ps.length)
  (hbody:∀(cdv:Value) (A:Around) (outer:List Env) (s:Shared) (H:Hp) (vs:List V) (Q:VK) (E:XK),Room k (A.deeper (envOfC qual (defScope st) s.heap.objs.size f cdv))->sp vs H Q E->
   ∃t,PSs (cxOf CX0 P w K mg base N qual (defScope st) f cdv A outer s H E).nox (defBody st) t/\t {nx:=fun _ H'=>Q .non H',rt:=Q} (start N vs) H):FnOk P w K mg base CX0 (k+1) f fd ps sp:=by
 obtain⟨oc,od,kV,doc,pm,an,cdv,ct,osl,rfl,lk,hcd⟩:=F.ex;refine j2O lk hcd S len fun A outer s H vs Q E hr hsp=>?_
 obtain⟨t,h,q⟩:=hbody cdv A outer s H vs Q E hr hsp;exact⟨t,h.nox,q⟩
theorem Fun.binds{x qual:Str}{st:Stmt}{f:Addr}{fd:FuncData}{ps:List Str}(F:Fun K x qual st f fd)
  (h:∀(kV doc pm:Value) (an:Option Addr) (cdv ct:Value) (us:List Value),us.length=ps.length->bindArgs (PySem.W.fnOf x qual (defArgs st) (defBody st) (defScope st) .none kV doc pm an cdv ct) ⟨us,[]⟩=pure (ps.zip us)):Binds K fd ps []:=by
 obtain⟨oc,od,kV,doc,pm,an,cdv,ct,osl,rfl,lk,hcd⟩:=F.ex;exact .all (h kV doc pm an cdv ct)
theorem jY{x qual:Str}{st:Stmt}{f:Addr}{oc:Value}{od an:Option Addr}{osl:Array (Option Value)}{kV doc pm cdv ct:Value}(l:K.lookup f=some ⟨oc,od,.func (PySem.W.fnOf x qual (defArgs st) (defBody st) (defScope st) .none kV doc pm an cdv ct),osl⟩)
  (c:PySem.W.codeIn K cdv qual=true) (k:PySem.W.keepIn K (.ref f)=true):Fun K x qual st f (PySem.W.fnOf x qual (defArgs st) (defBody st) (defScope st) .none kV doc pm an cdv ct):=⟨⟨oc,od,kV,doc,pm,an,cdv,ct,osl,rfl,l,c⟩,k⟩
end
theorem jU{A:Around}{k:Nat}(hr:Room k A):A.units+1<cLine:=Nat.lt_of_le_of_lt (Nat.add_le_add_left (by decide:1<=64) _) hr.units
section
variable{X:Cx}
theorem pv(i:Nat){x:Str}{pos:Pos}(hN:X.N[i]?=some x:=by rfl)(hv:Vis X.env.scope x:=by first | exact Or.inl rfl | exact Or.inr (Or.inl rfl) | exact Or.inr (Or.inr rfl))(hd:(x==("__debug__" : Str))=false:=by decide)
  (hcd:(x==("__classdict__" : Str))=false:=by decide):PE X (.Name x pos) (tVar i):=j2v hN hv hd hcd
end
theorem iteF{A B:Prop}(h:B):if false=true then A else B:=by
 rw[if_neg Bool.false_ne_true];exact h
theorem iteT{A B:Prop}(h:A):if true=true then A else B:=by
 rw[if_pos rfl];exact h
def Same(H H':Hp):Prop:=∀b o,H b=some o->H' b=some o
theorem Same.refl(H:Hp):Same H H:=fun _ _ h=>h
theorem Same.trans{H H1 H2:Hp}(a:Same H H1)(b:Same H1 H2):Same H H2:=fun c o h=>b c o (a c o h)
theorem Same.seq{K:Frg}{H H':Hp}{a:Addr}{xs:List V}(e:Same H H')(h:SqL K H a xs):SqL K H' a xs:=by
 rcases h with(h | ⟨o,h⟩) | h
 ·exact .inl (.inl (e _ _ h))
 ·exact .inl (.inr ⟨o,e _ _ h⟩)
 ·exact .inr h
section
variable{κ:Type}[DecidableEq κ]
noncomputable def valV(kvs:List (κ×V))(k:κ):Option V:=(kvs.find? fun kv=>decide (kv.1=k)).map (·.2)
noncomputable def putK(kvs:List (κ×V))(k:κ)(v:V):List (κ×V):=
 if(kvs.any fun kv=>decide (kv.1=k))=true then kvs.map (fun kv=>if kv.1=k then(kv.1,v)else kv)else kvs++[(k,v)]
theorem kS{p:κ×V}{r:List (κ×V)}{k:κ}(e:p.1=k):valV (p::r) k=some p.2:=by simp[valV,List.find?_cons,e]
theorem kR{p:κ×V}{r:List (κ×V)}{k:κ}(e:¬p.1=k):valV (p::r) k=valV r k:=by simp[valV,List.find?_cons,e]
theorem Yf(k:κ):∀kvs:List (κ×V),(kvs.any fun kv=>decide (kv.1=k))=(valV kvs k).isSome
 | []=>rfl
 | p::r=>by
  rw[any_cons];by_cases e:p.1=k
  ·simp only[kS e,decide_eq_true e,Bool.true_or,Option.isSome_some]
  ·rw[kR e,decide_eq_false e,Bool.false_or];exact Yf k r
theorem ZT(kvs:List (κ×V))(k:κ)(v:V):(putK kvs k v).length<=kvs.length+1:=by
 unfold putK;split
 ·rw[length_map];omega
 ·rw[List.length_append,length_cons,length_nil];omega
theorem RelO.isSome_eq{o:Option V}{u:Option Value}(r:RelO o u):o.isSome=u.isSome:=by
 cases o with
 | none=>cases u with
  | none=>rfl
  | some _=>exact(show False from r).elim
 | some _=>cases u with
  | none=>exact(show False from r).elim
  | some _=>rfl
theorem KV.val{kvs:List (κ×V)}{vs:List (κ×Value)}(r:KV kvs vs)(k:κ):RelO (valV kvs k) (valueAt vs k):=by
 unfold KV at r
 induction r with
 | nil=>exact True.intro
 | @cons p q ps qs h t ih=>
  obtain⟨h1,h2⟩:=h;by_cases e:p.1=k
  ·have e':q.1=k:=h1.symm.trans e;have b:valueAt (q::qs) k=some q.2:=by simp[valueAt,List.find?_cons,e']
   rw[kS e,b];exact h2
  ·have e':¬q.1=k:=fun z=>e (h1.trans z)
   have b:valueAt (q::qs) k=valueAt qs k:=by simp[valueAt,List.find?_cons,e']
   rw[kR e,b];exact ih
theorem KV.any{kvs:List (κ×V)}{vs:List (κ×Value)}(r:KV kvs vs)(k:κ):(kvs.any fun kv=>decide (kv.1=k))=vs.any fun kv=>decide (kv.1=k):=by
 unfold KV at r
 induction r with
 | nil=>rfl
 | cons h t ih=>rw[any_cons,any_cons,ih,h.1]
theorem KV.repl{kvs:List (κ×V)}{vs:List (κ×Value)}(r:KV kvs vs)(k:κ){y:V}{u:Value}(ry:RelV y u) :
  KV (kvs.map fun kv=>if kv.1=k then(kv.1,y)else kv) (vs.map fun kv=>if kv.1=k then(kv.1,u)else kv):=by
 unfold KV at r|-
 induction r with
 | nil=>exact .nil
 | @cons p q ps qs h t ih=>
  rw[map_cons,map_cons];refine .cons ?_ ih;obtain⟨h1,h2⟩:=h;by_cases e:p.1=k
  ·rw[if_pos e,if_pos (h1.symm.trans e)];exact⟨h1,ry⟩
  ·rw[if_neg e,if_neg (fun z=>e (h1.trans z))];exact⟨h1,h2⟩
theorem KV.put{kvs:List (κ×V)}{vs:List (κ×Value)}(r:KV kvs vs)(k:κ){y:V}{u:Value}(ry:RelV y u):KV (putK kvs k y) (stored vs k u):=by
 unfold putK stored;rw[r.any k];by_cases e:(vs.any fun kv=>decide (kv.1=k))=true
 ·rw[if_pos e,if_pos e];exact r.repl k ry
 ·rw[if_neg e,if_neg e];exact Paired.snoc r ⟨rfl,ry⟩
theorem KV.keys{kvs:List (κ×V)}{vs:List (κ×Value)}(r:KV kvs vs):kvs.map (·.1)=vs.map (·.1):=by
 unfold KV at r
 induction r with
 | nil=>rfl
 | cons h t ih=>rw[map_cons,map_cons,ih,h.1]
theorem KV.length{kvs:List (κ×V)}{vs:List (κ×Value)}(r:KV kvs vs):kvs.length=vs.length:=Paired.length r
end
theorem Wi{P:Program}{w:World}{k:Key}{u:Value}(r:RelV (kV k) u):(mixKind P w).is k u=true:=by
 cases k with
 | inl i=>obtain⟨t,e⟩:=(show∃t,u=Value.int i t from r);subst e;exact Wr P w i t
 | inr x=>obtain⟨t,e⟩:=(show∃t,u=Value.str x t from r);subst e;exact Wt P w x t
theorem KA{P:Program}{w:World}:∀{ks:List Key} {us:List Value},Vals (ks.map kV) us->ItemsAre (mixKind P w) ks us
 | [],_,r=>by rw[map_nil]at r;cases r;exact .nil
 | k::ks,_,r=>by
  rw[map_cons]at r;cases r with
  | cons h t=>exact .cons (Wi h) (KA t)
noncomputable abbrev KT(H:Hp):List (List Key×V)->List (List Key×Addr×Value)->Prop:=Paired fun p q=>p.1=q.1/\H q.2.1=some (.tup (p.1.map kV))/\RelV p.2 q.2.2
theorem KT.val{H:Hp}{kvs:List (List Key×V)}{xs:List (List Key×Addr×Value)}(r:KT H kvs xs)(k:List Key):RelO (valV kvs k) ((atKey xs k).map (·.2)):=by
 induction r with
 | nil=>exact True.intro
 | @cons p q ps qs h t ih=>
  obtain⟨h1,_,h2⟩:=h;by_cases e:p.1=k
  ·have e':q.1=k:=h1.symm.trans e;have b:atKey (q::qs) k=some q.2:=by simp[atKey,List.find?_cons,e']
   rw[kS e,b];exact h2
  ·have e':¬q.1=k:=fun z=>e (h1.trans z)
   have b:atKey (q::qs) k=atKey qs k:=by simp[atKey,List.find?_cons,e']
   rw[kR e,b];exact ih
theorem KT.repl{H:Hp}{kvs:List (List Key×V)}{xs:List (List Key×Addr×Value)}(r:KT H kvs xs)(k:List Key){y:V}{u:Value}(ry:RelV y u) :
  KT H (kvs.map fun kv=>if kv.1=k then(kv.1,y)else kv) (xs.map (putAt k u)):=by
 induction r with
 | nil=>exact .nil
 | @cons p q ps qs h t ih=>
  rw[map_cons,map_cons];refine .cons ?_ ih;obtain⟨h1,h2,h3⟩:=h;unfold putAt;by_cases e:p.1=k
  ·rw[if_pos e,if_pos (h1.symm.trans e)];exact⟨h1,h2,ry⟩
  ·rw[if_neg e,if_neg (fun z=>e (h1.trans z))];exact⟨h1,h2,h3⟩
theorem KT.put{H:Hp}{kvs:List (List Key×V)}{xs:List (List Key×Addr×Value)}(r:KT H kvs xs)(k:List Key){b:Addr}{y:V}{u:Value}(hb:H b=some (.tup (k.map kV)))(ry:RelV y u) :
  KT H (putK kvs k y) (storedH xs k b u):=by
 have e:(kvs.any fun kv=>decide (kv.1=k))=(atKey xs k).isSome:=by
  rw[Yf,(r.val k).isSome_eq,Option.isSome_map]
 unfold putK storedH;rw[e];by_cases q:(atKey xs k).isSome=true
 ·rw[if_pos q,if_pos q];exact r.repl k ry
 ·rw[if_neg q,if_neg q];exact Paired.snoc r ⟨rfl,hb,ry⟩
theorem KT.keeps{H H':Hp}{kvs:List (List Key×V)}{xs:List (List Key×Addr×Value)}(r:KT H kvs xs)(ht:∀b ys,H b=some (.tup ys)->H' b=some (.tup ys)):KT H' kvs xs:=
 Paired.mapP r fun _ _ z=>⟨z.1,ht _ _ z.2.1,z.2.2⟩
section
variable{P:Program}{w:World}{H:Hp}{h:Heap}{a:Addr}
theorem j1X{u:HO}(ok:HOk P w H h)(e:Rd H a u):ObjOk P w H h a u:=e.ok ok
theorem xV{kvs:List (Key×V)}(ok:HOk P w H h)(e:Rd H a (.dK kvs)):kvs.length<=sizeLine/\(a==sysModules)=false/\∃vs,KV kvs vs/\h.DictOf (mixKind P w) a vs:=
 show ObjOk P w H h a (.dK kvs)from j1X ok e
theorem YM{kvs:List (Key×V)}(ok:HOk P w H h)(e:H a=some (.dK kvs)):kvs.length<=sizeLine/\(a==sysModules)=false/\∃vs,KV kvs vs/\h.DictOf (mixKind P w) a vs:=xV ok (.inl e)
theorem wd{ks:List Key}(ok:HOk P w H h)(e:H a=some (.tup (ks.map kV))):(tupleKind (mixKind P w)).is h ks a:=by
 obtain⟨_,its,r,o,h1,h2,n,h3⟩:=(show ObjOk P w H h a (.tup (ks.map kV))from ok a _ e)
 exact⟨o,its.toArray,n,h1,h2,h3,by simpa using KA r⟩
theorem xW{kvs:List (List Key×V)}(ok:HOk P w H h)(e:Rd H a (.dT kvs)):kvs.length<=sizeLine/\(a==sysModules)=false/\
  ∃xs,KT H kvs xs/\h.DictOfH (tupleKind (mixKind P w)) a xs:=by
 obtain⟨z,y,xs,r,o,es,ep,h1,h2,h3,h4,h5⟩:=(show ObjOk P w H h a (.dT kvs)from j1X ok e)
 refine⟨z,y,xs,r,o,es,ep,h1,h2,h3,h4,fun x hx=>?_,h5⟩;have all:∀{l:List (List Key×V)} {m:List (List Key×Addr×Value)},KT H l m->∀x∈m,(tupleKind (mixKind P w)).is h x.1 x.2.1:=by
  intro l m q
  induction q with
  | nil=>intro x hx;exact nomatch hx
  | @cons p q ps qs hq t ih=>
   intro x hx;rcases mem_cons.mp hx with e | hx
   ·subst e;exact wd ok (by rw[<-hq.1];exact hq.2.1)
   ·exact ih x hx
 exact all r x hx
theorem j2N{kvs:List (List Key×V)}(ok:HOk P w H h)(e:H a=some (.dT kvs)):kvs.length<=sizeLine/\(a==sysModules)=false/\
  ∃xs,KT H kvs xs/\h.DictOfH (tupleKind (mixKind P w)) a xs:=xW ok (.inl e)
end
def DGet(H:Hp)(a:Addr)(y:V)(r:Option V):Prop:=
 (∃kvs k,Rd H a (.dK kvs)/\y=kV k/\r=valV kvs k)\/∃kvs k b,Rd H a (.dT kvs)/\y = .ref b/\H b=some (.tup (k.map kV))/\r=valV kvs k
def DPut(H:Hp)(a:Addr)(y v:V)(H':Hp):Prop:=
 (∃kvs k,H a=some (.dK kvs)/\y=kV k/\kvs.length<sizeLine/\H'=upd H a (.dK (putK kvs k v)))\/
 ∃kvs k b,H a=some (.dT kvs)/\y = .ref b/\H b=some (.tup (k.map kV))/\kvs.length<sizeLine/\H'=upd H a (.dT (putK kvs k v))
theorem DGet.k{H:Hp}{a:Addr}{kvs:List (Key×V)}{k:Key}(e:H a=some (.dK kvs)):DGet H a (kV k) (valV kvs k):=.inl ⟨kvs,k,.inl e,rfl,rfl⟩
theorem DPut.k{H:Hp}{a:Addr}{kvs:List (Key×V)}{k:Key}{v:V}(e:H a=some (.dK kvs))(hl:kvs.length<sizeLine):DPut H a (kV k) v (upd H a (.dK (putK kvs k v))):=.inl ⟨kvs,k,e,rfl,hl,rfl⟩
section
variable{X:Cx}{pins:List (Addr×Obj)}{σ:St}{H:Hp}{s:Shared}{a:Addr}{y v:V}{u r:Value}{o:Option V}{A:Around}{E:Value->Shared->Prop}
theorem Inv.big(I:Inv X pins σ H s):sysModules<s.heap.objs.size:=by
 have h:mainGlobals<s.heap.objs.size:=(I.mod.glob.keeps I.bk).lt;exact Nat.lt_trans (by decide) h
theorem XC{Q:Value->Shared->Prop}(hu:A.units+1<cLine)(I:Inv X pins σ H s)(g:DGet H a y (some v))(ry:RelV y u)(h:∀w' s',Inv X pins σ H s'->RelV v w'->Q w' s') :
  wpAny (model X.prog X.w) A (getItem (.ref a) u) Q E s:=by
 rcases g with⟨kvs,k,e,ey,l⟩ | ⟨kvs,k,b,e,ey,eb,l⟩
 ·subst ey;obtain⟨z,hd,vs,rel,dd⟩:=xV I.hok e;obtain⟨w',hw,rw'⟩:=RelO.some_of (v:=v) (o:=valueAt vs k) (by rw[l];exact rel.val k);exact wpAny_getItem_of (Wi ry) dd.mapOf hw (h w' _ (I.tok _) rw')
 ·subst ey;cases(show u=Value.ref b from ry);obtain⟨z,hd,xs,rel,dd⟩:=xW I.hok e;obtain⟨w',hw,rw'⟩:=RelO.some_of (v:=v) (o:=(atKey xs k).map (·.2)) (by rw[l];exact rel.val k);obtain⟨p,hp,hp2⟩:=Option.map_eq_some_iff.mp hw;refine wpAny_getItem_heap (tupleKind_room_in1 hu) (wd I.hok eb) dd hp ?_;rw[hp2];exact h w' _ (I.tok _) rw'
theorem j2Y{Q:Value->Shared->Prop}(hu:A.units+1<cLine)(I:Inv X pins σ H s)(g:DGet H a y o)(ry:RelV y u)(h:∀s',Inv X pins σ H s'->Q (.bool o.isSome) s') :
  wpAny (model X.prog X.w) A (compareOp .In u (.ref a)) Q E s:=by
 rcases g with⟨kvs,k,e,ey,l⟩ | ⟨kvs,k,b,e,ey,eb,l⟩
 ·subst ey;obtain⟨z,hd,vs,rel,dd⟩:=xV I.hok e;refine wpAny_in_of (Wi ry) hd dd.mapOf ?_;rw[<-(rel.val k).isSome_eq,<-l];exact h _ (I.tok _)
 ·subst ey;cases(show u=Value.ref b from ry);obtain⟨z,hd,xs,rel,dd⟩:=xW I.hok e;refine wpAny_in_heap (tupleKind_room_in1 hu) (wd I.hok eb) hd dd ?_;have q:=(rel.val k).isSome_eq;rw[Option.isSome_map]at q;rw[<-q,<-l];exact h _ (I.tok _)
theorem YY{h':Heap}{t':Nat}{ob:HO}(I:Inv X pins σ H s)(mu:Mut (H a))(hs:Heap.SameBut a s.heap h')(he:∃q,h'.get? a=some q)(new:ObjOk X.prog X.w (upd H a ob) h' a ob) :
  Inv X pins σ (upd H a ob) {s with heap:=h',toks:=t'}:=
 I.write (x:=a) (e:=a) mu (.inl rfl) (fun b q hb z=>(hs.2 b hb).trans z) he new
theorem K7{P:Program}{w:World}{H':Hp}{h':Heap}{kvs:List (Key×V)}{vs:List (Key×Value)}(z:kvs.length<=sizeLine)(hd:(a==sysModules)=false)(rel:KV kvs vs)(dd:h'.DictOf (mixKind P w) a vs) :
  ObjOk P w H' h' a (.dK kvs):=⟨z,hd,vs,rel,dd⟩
theorem XD{H':Hp}{Q:Unit->Shared->Prop}(hu:A.units+1<cLine)(I:Inv X pins σ H s)(g:DPut H a y v H')(ry:RelV y u)(rv:RelV v r)(h:∀s',Inv X pins σ H' s'->Q () s') :
  wpAny (model X.prog X.w) A (setItem (.ref a) u r) Q E s:=by
 rcases g with⟨kvs,k,e,ey,l,eH⟩ | ⟨kvs,k,b,e,ey,eb,l,eH⟩
 ·subst ey eH;obtain⟨z,hd,vs,rel,dd⟩:=YM I.hok e;have hz:vs.length<=sizeLine:=by rw[<-rel.length];exact z
  have hl:(putK kvs k v).length<=sizeLine:=by have:=ZT kvs k v;omega
  refine wpAny_setItem_pairs (hsz:=hz) (Wi ry) dd fun h' dd' hs=>h _ ?_
  have he:∃q,h'.get? a=some q:=let ⟨q,_,_,hq,_⟩:=dd';⟨q,hq⟩;exact YY I (by rw[e];exact True.intro) hs he (K7 hl hd (rel.put k rv) dd')
 ·subst ey eH;cases(show u=Value.ref b from ry);obtain⟨z,hd,xs,rel,dd⟩:=j2N I.hok e;have hz:xs.length<=sizeLine:=by rw[<-Paired.length rel];exact z
  have hl:(putK kvs k v).length<=sizeLine:=by have:=ZT kvs k v;omega
  refine wpAny_setItem_heap (hsz:=hz) (tupleKind_room_in1 hu) (wd I.hok eb) dd fun h' dd' hs=>h _ ?_
  obtain⟨q,es,ep,hq,h2,h3,h4,_,h5⟩:=dd';refine YY I (by rw[e];exact True.intro) hs ⟨q,hq⟩ ⟨hl,hd,_,(rel.put k eb rv).keeps fun c ys ec=>?_,q,es,ep,hq,h2,h3,h4,h5⟩;rw[jh (Zk ec e (fun z=>nomatch z))];exact ec
end
section
variable{X:Cx}{pins:List (Addr×Obj)}{σ:St}{H:Hp}{s:Shared}{a:Addr}{kvs:List (Key×V)}{k:Key}{u:Value}{A:Around}{E:Value->Shared->Prop}
end
def NoSl(i:Expr):Prop:=∀ov iv,subscripted i false ov iv=operate [ov,iv] (getItem ov iv)
theorem j1L{prog:Program}{w:World}{A:Around}{E:Value->Shared->Prop}{s:Shared}{env:Env}{value slice:Expr}{pos:Pos}{T id:String}{Q:Value->Shared->Prop}
  (hl:typeLookup (.type T) "__getitem__"= pure (some (.builtin id))) (hs:NoSl slice)
  (h:wpAny (model prog w) A (eval value env) (fun o s₁=>wpAny (model prog w) A (eval slice env) (fun i s₂=>s₂.TypeIs o T/\wpAny (model prog w) A (getItem o i) Q E s₂) E s₁) E s) :
  wpAny (model prog w) A (eval (.Subscript value slice pos) env) Q E s:=by
 refine Subscript_ (wpAny_mono h (fun o s₁ h₁=>wpAny_mono h₁ (fun i s₂ h₂=>?_) fun _ _ x=>x) fun _ _ x=>x);obtain⟨hT,h₂⟩:=h₂;unfold subscriptTail;refine wpAny_bind ?_;rw[getitemInPython_of_ne hT.not_modules];refine wpAny_bind (wpAny_specialOf hT hl ?_);have fin:wpAny (model prog w) A (subscripted slice false o i) (fun r s₃=>wpAny (model prog w) A (letTemporaryGo value o r >>= fun _=>pure r) Q E s₃) E s₂:=by
  rw[hs o i];exact wpAny_operating (wpAny_mono h₂ (fun r s₃ h₃=>wpAny_bind (wpAny_letTemporaryGo (wpAny_pure h₃))) fun _ _ x=>x)
 first
  | exact wpAny_pure (wpAny_bind fin)
  | exact wpAny_bind (wpAny_pure (wpAny_bind fin))
  | exact wpAny_bind fin
theorem wY{X:Cx}{pins:List (Addr×Obj)}{σ:St}{H:Hp}{s:Shared}{a:Addr}{y:V}{o:Option V}(I:Inv X pins σ H s)(g:DGet H a y o):s.TypeIs (.ref a) "dict":=by
 rcases g with⟨kvs,k,e,_,_⟩ | ⟨kvs,k,b,e,_,_,_⟩
 ·obtain⟨_,_,vs,_,dd⟩:=xV I.hok e;exact dd.typeIs
 ·obtain⟨_,_,xs,_,dd⟩:=xW I.hok e;exact dd.typeIs
def tDGet(td ty:TE):TE:=fun σ H Q=>td σ H fun x H1=>ty σ H1 fun y H2=>∃a v,x = .ref a/\DGet H2 a y (some v)/\Q v H2
def tDIn(ty td:TE):TE:=fun σ H Q=>ty σ H fun y H1=>td σ H1 fun x H2=>∃a o,x = .ref a/\DGet H2 a y o/\Q (.bl o.isSome) H2
def sDPut(td ty tv:TE):TS:=fun D σ H=>tv σ H fun v H1=>td σ H1 fun x H2=>ty σ H2 fun y H3=>∃a H4,x = .ref a/\DPut H3 a y v H4/\D.nx σ H4
section
variable{X:Cx}{o i e value:Expr}{pos pos' tpos:Pos}{td ty tv:TE}
theorem jE(hu:X.A.units+1<cLine)(ho:PE X o td)(hi:PE X i ty)(hs:NoSl i:=by exact fun _ _=>rfl):PE X (.Subscript o i pos) (tDGet td ty):=by
 intro pins s σ H Q I h;refine j1L PySem.F.slot_dict_getitem.lookup hs (thn (ho pins s σ H _ I h) fun u s1 ⟨x,H1,I1,rx,q1⟩=>thn (hi pins s1 σ H1 _ I1 q1) fun iv s2 ⟨y,H2,I2,ry,a,v,ex,g,q2⟩=>?_);subst ex;obtain rfl:u=Value.ref a:=rx;exact⟨wY I2 g,XC hu I2 g ry fun w' s3 I3 rw'=>⟨v,H2,I3,rw',q2⟩⟩
theorem j2s(hu:X.A.units+1<cLine)(hi:PE X i ty)(ho:PE X o td):PC X .In i o (tDIn ty td):=by
 intro pins s σ H Q I h;refine thn (hi pins s σ H _ I h) fun iv s1 ⟨y,H1,I1,ry,q1⟩=>thn (ho pins s1 σ H1 _ I1 q1) fun u s2 ⟨x,H2,I2,rx,a,ov,ex,g,q2⟩=>?_
 subst ex;obtain rfl:u=Value.ref a:=rx;exact j2Y hu I2 g ry fun s3 I3=>⟨.bl ov.isSome,H2,I3,rfl,q2⟩
theorem yY(hu:X.A.units+1<cLine)(ho:PE X o td)(hi:PE X i ty)(hv:PE X value tv)(hs:swapsWith value (some (.Subscript o i pos')) pos.line X.env=pure false) :
  PS X (.Assign [.Subscript o i pos'] value pos) (sDPut td ty tv):=by
 intro pins s σ H D I h;refine wpAny_Assign_Subscript (thn (hv pins s σ H _ I h) fun r s1 ⟨v,H1,I1,rv,q1⟩=>thn (ho pins s1 σ H1 _ I1 q1) fun u s2 ⟨x,H2,I2,rx,q2⟩=>thn (hi pins s2 σ H2 _ I2 q2) fun iv s3 ⟨y,H3,I3,ry,a,H4,ex,g,q3⟩=>?_) hs;subst ex;obtain rfl:u=Value.ref a:=rx;exact XD hu I3 g ry rv fun s4 I4=>⟨σ,H4,I4,q3⟩
end
theorem wZ{P:Program}{w:World}{H:Hp}(h:Heap)(hb:sysModules<h.objs.size):ObjOk P w H (h.push {cls:=.type "dict",data:=.dict #[]}) h.objs.size (.dK []):=
 ⟨Nat.zero_le _,beq_eq_false_iff_ne.mpr (Ne.symm (Nat.ne_of_lt hb)),[],.nil,Heap.DictOf.new h⟩
def tDNewK:TE:=fun _ H Q=>∀p,H p=none->Q (.ref p) (upd H p (.dK []))
section
variable{X:Cx}{pos:Pos}
theorem Zn:PE X (.Dict [] [] pos) tDNewK:=fun pins s σ H Q I h=>
 wpAny_Dict_empty ⟨.ref s.heap.objs.size,_,I.laid (a:=s.heap.objs.size) (o:=.dK []) (t':=s.toks) (fun _ _ q=>Heap.get?_push_of_some _ q) (Nat.le_refl _) (wZ s.heap I.big),rfl,h _ (I.hok.fresh (Nat.le_refl _))⟩
end
noncomputable def tPairs:List (TE×TE)->St->Hp->(List (V×V)->Hp->Prop)->Prop
 | [],_,H,Q=>Q [] H
 | (tk,tv)::r,σ,H,Q=>tk σ H fun x H1=>tv σ H1 fun y H2=>tPairs r σ H2 fun ps H3=>Q ((x,y)::ps) H3
noncomputable abbrev VV:List (V×V)->List (Value×Value)->Prop:=Paired fun p q=>RelV p.1 q.1/\RelV p.2 q.2
def PPs(X:Cx)(pos:Pos)(keys:List (Option Expr))(values:List Expr)(trs:List (TE×TE)):Prop:=
 ∀(pins:List (Addr×Obj)) (s:Shared) (σ:St) (H:Hp) (Q:List (V×V)->Hp->Prop),Inv X pins σ H s->tPairs trs σ H Q->
  wpAny (model X.prog X.w) X.A (evalPairs (pairTrees keys values X.env pos)) (fun vs s'=>∃ps H',Inv X pins σ H' s'/\VV ps vs/\Q ps H') X.xe s
theorem j1C{X:Cx}{pos:Pos}:PPs X pos [] [] []:=fun pins s σ H Q I h=>pairTrees_nil_walk ⟨[],H,I,.nil,h⟩
theorem ZW{X:Cx}{pos:Pos}{k v:Expr}{ks:List (Option Expr)}{vs:List Expr}{tk tv:TE}{trs:List (TE×TE)}(hk:PE X k tk)(hv:PE X v tv)(hr:PPs X pos ks vs trs) :
  PPs X pos (some k::ks) (v::vs) ((tk,tv)::trs):=fun pins s σ H Q I h=>
 pairTrees_cons_walk (thn (hk pins s σ H _ I h) fun u s1 ⟨x,H1,I1,rx,q1⟩=>thn (hv pins s1 σ H1 _ I1 q1) fun w2 s2 ⟨y,H2,I2,ry,q2⟩=>
  thn (hr pins s2 σ H2 _ I2 q2) fun ws s3 ⟨ps,H3,I3,rel,q3⟩=>⟨(x,y)::ps,H3,I3,.cons ⟨rx,ry⟩ rel,q3⟩)
noncomputable def mergeK(kvs more:List (Key×V)):List (Key×V):=more.foldl (fun acc kv=>putK acc kv.1 kv.2) kvs
theorem KV.merge:∀{more:List (Key×V)} {rs:List (Key×Value)} {kvs:List (Key×V)} {vs:List (Key×Value)},KV more rs->KV kvs vs->KV (mergeK kvs more) (merged vs rs):=by
 intro more rs kvs vs r;unfold KV at r
 induction r generalizing kvs vs with
 | nil=>intro q;exact q
 | @cons p q ps qs h t ih=>
  intro r0;have e:KV (putK kvs p.1 p.2) (stored vs q.1 q.2):=by
   have:=r0.put p.1 h.2;rw[<-h.1];exact this
  exact ih e
theorem Q3:∀(more kvs:List (Key×V)),(mergeK kvs more).length<=kvs.length+more.length
 | [],kvs=>by show kvs.length<=kvs.length+0;omega
 | p::r,kvs=>by
  have h1:=Q3 r (putK kvs p.1 p.2);have h2:=ZT kvs p.1 p.2;show(mergeK (putK kvs p.1 p.2) r).length<=_;rw[length_cons];omega
theorem ke{P:Program}{w:World}:∀{kvs:List (Key×V)} {ws:List (Value×Value)},VV (kvs.map fun kv=>(kV kv.1,kv.2)) ws->∃rs,Carries (mixKind P w) ws rs/\KV kvs rs
 | [],_,r=>by rw[map_nil]at r;cases r;exact⟨[],True.intro,.nil⟩
 | p::kvs,_,r=>by
  rw[map_cons]at r;cases r with
  | @cons a b as bs h t=>
   obtain⟨rs,c,q⟩:=ke (P:=P) (w:=w) t;obtain⟨b1,b2⟩:=b;exact⟨(p.1,b2)::rs,⟨Wi h.1,rfl,c⟩,.cons ⟨rfl,h.2⟩ q⟩
def tDisp(trs:List (TE×TE)):TE:=fun σ H Q=>∀p,H p=none->tPairs trs σ (upd H p (.dK [])) fun ps H2=>H2 p=some (.dK [])/\∃kvs:List (Key×V),ps=kvs.map (fun kv=>(kV kv.1,kv.2))/\kvs.length<=15/\Q (.ref p) (upd H2 p (.dK (mergeK [] kvs)))
theorem j1B{X:Cx}{pos:Pos}{keys:List (Option Expr)}{values:List Expr}{trs:List (TE×TE)}(h:PPs X pos keys values trs)(hall:keys.all (·.isSome)=true)(hl:keys.length=values.length)(h0:keys≠[])
  (h15:keys.length<=15):PE X (.Dict keys values pos) (tDisp trs):=by
 intro pins s σ H Q I q;have hn:=I.hok.fresh (Nat.le_refl s.heap.objs.size);have I1:=I.laid (a:=s.heap.objs.size) (o:=.dK []) (h':=s.heap.push {cls:=.type "dict",data:=.dict #[]}) (t':=s.toks) (fun _ _ q=>Heap.get?_push_of_some _ q) (Nat.le_refl _) (wZ s.heap I.big);refine wpAny_Dict_walk (knd:=mixKind X.prog X.w) hall hl h0 h15 (thn (h pins _ σ _ _ I1 (q _ hn)) fun ws s2 ⟨ps,H2,I2,rel,e,kvs,ep,lk,q2⟩=>?_);subst ep;obtain⟨rs,c,rk⟩:=ke (P:=X.prog) (w:=X.w) rel;obtain⟨z,hd,vs0,r0,dd⟩:=YM I2.hok e;cases r0;refine⟨rs,c,dd,fun h' dd' hs=>⟨.ref s.heap.objs.size,_,?_,rfl,q2⟩⟩;have hz:(mergeK [] kvs).length<=sizeLine:=by
  have h1:=Q3 kvs [];rw[length_nil]at h1;rw[sizeLine_eq];omega
 have he:∃q,h'.get? s.heap.objs.size=some q:=let ⟨q,_,_,hq,_⟩:=dd';⟨q,hq⟩;exact YY I2 (by rw[e];exact True.intro) hs he (K7 hz hd (rk.merge .nil) dd')
section
variable{X:Cx}{pins:List (Addr×Obj)}{σ:St}{H:Hp}{s:Shared}{a:Addr}{y d:V}{u r:Value}{o:Option V}{A:Around}{E:Value->Shared->Prop}
end
section
variable{X:Cx}{o e f:Expr}{apos cpos:Pos}{td ty tx:TE}
end
section
variable{X:Cx}{pins:List (Addr×Obj)}{σ:St}{H:Hp}{s:Shared}{a:Addr}{kvs:List (Key×V)}{A:Around}{E:Value->Shared->Prop}
end
section
variable{X:Cx}{pins:List (Addr×Obj)}{σ:St}{H:Hp}{s:Shared}{a:Addr}{y:V}{u:Value}{A:Around}{E:Value->Shared->Prop}
end
section
variable{X:Cx}
end
section
variable{κ:Type}[DecidableEq κ]
end
theorem compLoopT{prog:Program}{w:World}{A:Around}{R:Result->Shared->Prop}{s:Shared}{elt target iter:Expr}{ifs:List Expr}{scope:Scope}{pos:Pos}{it acc:Value}{env:Env}(I:Nat->Shared->Prop)
  (turn:∀n s,I n s->wpAny (model prog w) A (pyNext it) (fun r s₁=>match r with
   | none=>R (.ok .next) s₁
   | some v=>wpAny (model prog w) A (letOwnedTupleGo target it v) (fun _ s₂=>wpAny (model prog w) A (assign target env v) (fun _ s₃=>
     wpAny (model prog w) A (forIn ifs true fun c r=>if r=true then do let ok <-isTrue c env (eval c env);pure (ForInStep.yield ok)else pure (ForInStep.yield r)) (fun ok s₄=>
      if ok=true then wpAny (model prog w) A (eval elt env) (fun x s₅=>
       wpAny (model prog w) A (call (.builtin "list.append") [acc,x]) (fun _ s₆=>∃m,m<n/\I m s₆) (fun _ _=>False) s₅) (fun _ _=>False) s₄
      else∃m,m<n/\I m s₄) (fun _ _=>False) s₃) (fun _ _=>False) s₂) (fun _ _=>False) s₁) (fun _ _=>False) s)
  (n:Nat) (h:I n s) :
  codeAny (model prog w) A (.compLoop (.ListComp elt [⟨target,iter,ifs,0⟩] scope pos) 0 it acc env) R s:=by
 refine codeAny_loop rfl I (fun n s hI=>?_) n h;show wpAny _ A ((compTurn (.ListComp elt [⟨target,iter,ifs,0⟩] scope pos) 0 it acc env).onRaise (fun x=>do noteFrame x env;theTreesLotGoes x)) _ _ s;refine wpAny_noted ?_;rw[compTurn_list];refine wpAny_bind (wpAny_standAt (wpAny_bind (wpAny_mono (turn n s hI) (fun r s₁ h₁=>?_) fun _ _ h'=>h'.elim)));cases r with
 | none=>exact wpAny_pure h₁
 | some v=>
  refine wpAny_bind (wpAny_mono h₁ (fun _ s₂ h₂=>?_) fun _ _ h'=>h'.elim);refine wpAny_bind (wpAny_mono h₂ (fun _ s₃ h₃=>wpAny_bind (wpAny_mono h₃ (fun ok s₄ h₄=>?_) fun _ _ h'=>h'.elim)) fun _ _ h'=>h'.elim);cases ok with
  | false=>exact wpAny_pure ⟨rfl,h₄⟩
  | true=>
   exact wpAny_bind (wpAny_bind (wpAny_mono h₄ (fun x s₅ h₅=>wpAny_bind (wpAny_mono h₅ (fun _ s₆ h₆=>wpAny_pure (wpAny_pure ⟨rfl,h₆⟩)) fun _ _ h'=>h'.elim)) fun _ _ h'=>h'.elim))
def PF(X:Cx)(ifs:List Expr)(t:TT):Prop:=
 ∀(pins:List (Addr×Obj)) (s:Shared) (σ:St) (H:Hp) (Q:Bool->Hp->Prop),Inv X pins σ H s->t σ H Q->
  wpAny (model X.prog X.w) X.A (forIn ifs true fun c r=>if r=true then do let ok <-isTrue c X.env (eval c X.env);pure (ForInStep.yield ok)else pure (ForInStep.yield r)) (TP X pins σ Q) X.xe s
def tYes:TT:=fun _ H Q=>Q true H
theorem qN{X:Cx}:PF X [] tYes:=fun _ _ _ H _ I h=>wpAny_tests_nil ⟨H,I,h⟩
theorem yz{X:Cx}{c:Expr}{t:TT}(hc:PT X c t):PF X [c] t:=fun pins s σ H Q I h=>wpAny_tests_one (hc pins s σ H Q I h)
noncomputable def closL(env:Env):List (Str×NameKind)->List (Str×Addr)->List (Str×Addr)
 | [],acc=>acc
 | (n,k)::r,acc=>closL env r (if k == .free then(n,(env.cells.lookup n).getD 0)::acc else acc)
theorem yM{scope:Scope}{env:Env}(h:∀y∈scope.names,y.2 = .free->∃c,env.cells.lookup y.1=some c):closureFor scope env=pure (closL env scope.names []):=by
 have go:∀(names:List (Str×NameKind)) (acc:List (Str×Addr)),(∀y∈names,y.2 = .free->∃c,env.cells.lookup y.1=some c)->
   (forIn (m:=Sem) names acc fun x r=>(match x with | (name,kind)=>if(kind == .free)=true then do let a <-cellOf env name;pure (ForInStep.yield ((name,a)::r))else pure (ForInStep.yield r)))=pure (closL env names acc):=by
  intro names
  induction names with
  | nil=>intro acc _;rfl
  | cons y r ih=>
   obtain⟨n,k⟩:=y;intro acc hh;rw[List.forIn_cons];cases hk:(k==NameKind.free)with
   | true=>
    have hk':k = .free:=by simpa using hk
    obtain⟨c,hc⟩:=hh (n,k) mem_cons_self hk';have ec:cellOf env n=pure c:=by unfold cellOf;rw[hc]
    simp only[hk,if_true,ec,pure_bind,closL,hc,Option.getD_some];exact ih _ fun y hy=>hh y (mem_cons_of_mem _ hy)
   | false=>
    simp only[hk,Bool.false_eq_true,if_false,pure_bind,closL];exact ih _ fun y hy=>hh y (mem_cons_of_mem _ hy)
 have g:=go scope.names [] h;unfold closureFor;simp only[g,pure_bind]
theorem Kt{env:Env}:∀(names:List (Str×NameKind)) (acc:List (Str×Addr)),(∀y∈names,y.2 = .free->∃c,env.cells.lookup y.1=some c)->(∀x c,acc.lookup x=some c->env.cells.lookup x=some c)->
  ∀x c,(closL env names acc).lookup x=some c->env.cells.lookup x=some c
 | [],_,_,ha,x,c,h=>ha x c h
 | (n,k)::r,acc,hh,ha,x,c,h=>by
  refine Kt r _ (fun y hy=>hh y (mem_cons_of_mem _ hy)) (fun x c e=>?_) x c h;cases hk:(k==NameKind.free)with
  | false=>rw[hk]at e;exact ha x c e
  | true=>
   rw[hk]at e;have hk':k = .free:=by simpa using hk
   obtain⟨c',hc⟩:=hh (n,k) mem_cons_self hk';simp only[if_true,hc,Option.getD_some]at e;rw[lookup_cons]at e;cases hx:(x==n)with
   | true=>
    rw[hx]at e;have:x=n:=by simpa using hx
    rw[this,hc];exact e
   | false=>rw[hx]at e;exact ha x c e
theorem Ks{env:Env}:∀(names:List (Str×NameKind)) (acc:List (Str×Addr)) (x:Str),(∃c,acc.lookup x=some c)->∃c,(closL env names acc).lookup x=some c
 | [],_,_,h=>h
 | (n,k)::r,acc,x,h=>by
  refine Ks r _ x ?_;cases hk:(k==NameKind.free)with
  | false=>exact h
  | true=>
   simp only[if_true];rw[lookup_cons];cases hx:(x==n)with
   | true=>exact⟨_,rfl⟩
   | false=>exact h
theorem Ym{env:Env}:∀(names:List (Str×NameKind)) (acc:List (Str×Addr)) (x:Str),(x,NameKind.free)∈names->∃c,(closL env names acc).lookup x=some c
 | [],_,_,h=>by simp at h
 | (n,k)::r,acc,x,h=>by
  rcases mem_cons.mp h with e | h
  ·cases e;refine Ks r _ _ ?_;simp
  ·exact Ym r _ x h
theorem zH{env:Env}:∀{names:List (Str×NameKind)} {x:Str} {k:NameKind},(names.map fun(n,k)=>if(k==NameKind.free&&env.scope.kind == .function&&env.kindOf n==some .cell)then(n,NameKind.cell)else(n,k)).lookup x=some k->
  ∃k',(x,k')∈names/\names.lookup x=some k'/\(k'=k\/(k' = .free/\k = .cell))
 | [],_,_,h=>by simp at h
 | (n,k₀)::r,x,k,h=>by
  have ih:=@zH env r x k;rw[map_cons]at h;dsimp only at h;cases hx:x==n with
  | true=>
   have e:x=n:=by simpa using hx
   subst e;refine⟨k₀,mem_cons_self,by simp,?_⟩;by_cases hc:(k₀==NameKind.free&&env.scope.kind == .function&&env.kindOf x==some .cell)=true
   ·rw[if_pos hc]at h;simp only[lookup_cons,beq_self_eq_true]at h;simp only[Bool.and_eq_true,beq_iff_eq]at hc;exact .inr ⟨hc.1.1,(Option.some.inj h).symm⟩
   ·rw[if_neg hc]at h;simp only[lookup_cons,beq_self_eq_true]at h;exact .inl (Option.some.inj h)
  | false=>
   have h':(r.map fun(n,k)=>if(k==NameKind.free&&env.scope.kind == .function&&env.kindOf n==some .cell)then(n,NameKind.cell)else(n,k)).lookup x=some k:=by
    by_cases hc:(k₀==NameKind.free&&env.scope.kind == .function&&env.kindOf n==some .cell)=true
    ·rw[if_pos hc]at h;simpa only[lookup_cons,hx]using h
    ·rw[if_neg hc]at h;simpa only[lookup_cons,hx]using h
   obtain⟨k',h1,h2,h3⟩:=ih h';exact⟨k',mem_cons_of_mem _ h1,by simpa only[lookup_cons,hx]using h2,h3⟩
theorem Yl:∀(names:List (Str×NameKind)) (n:Nat) (acc:List (Str×Addr)) (x:Str) (c:Addr),(cellsFrom n names acc).lookup x=some c->n<=c\/acc.lookup x=some c
 | [],_,_,_,_,h=>.inr h
 | (y,k)::r,n,acc,x,c,h=>by
  unfold cellsFrom at h;split at h
  ·rcases Yl r (n+1) _ x c h with q | q
   ·exact .inl (by omega)
   ·rw[lookup_cons]at q;cases hx:x==y with
    | true=>rw[hx]at q;cases q;exact .inl (Nat.le_refl _)
    | false=>rw[hx]at q;exact .inr q
  ·exact Yl r n acc x c h
theorem WU:∀(names:List (Str×NameKind)) (n:Nat) (acc:List (Str×Addr)),(∀x c,acc.lookup x=some c->c<n)->(∀x y c,acc.lookup x=some c->acc.lookup y=some c->x=y)->
  ∀x y c,(cellsFrom n names acc).lookup x=some c->(cellsFrom n names acc).lookup y=some c->x=y
 | [],_,_,_,hi,x,y,c,h1,h2=>hi x y c h1 h2
 | (z,k)::r,n,acc,hb,hi,x,y,c,h1,h2=>by
  unfold cellsFrom at h1 h2;split at h1
  ·rename_i hk;rw[if_pos hk]at h2;refine WU r (n+1) _ (fun x c e=>?_) (fun x y c e1 e2=>?_) x y c h1 h2
   ·rw[lookup_cons]at e;cases hx:x==z with
    | true=>rw[hx]at e;cases e;exact Nat.lt_succ_self _
    | false=>rw[hx]at e;exact Nat.lt_succ_of_lt (hb x c e)
   ·rw[lookup_cons]at e1 e2;cases hx:x==z with
    | true=>
     rw[hx]at e1;cases e1;cases hy:y==z with
     | true=>rw[beq_iff_eq.mp hx,beq_iff_eq.mp hy]
     | false=>rw[hy]at e2;exact absurd (hb y n e2) (Nat.lt_irrefl _)
    | false=>
     rw[hx]at e1;cases hy:y==z with
     | true=>rw[hy]at e2;cases e2;exact absurd (hb x n e1) (Nat.lt_irrefl _)
     | false=>rw[hy]at e2;exact hi x y c e1 e2
  ·rename_i hk;rw[if_neg hk]at h2;exact WU r n acc hb hi x y c h1 h2
theorem K6:∀(names:List (Str×NameKind)) (n:Nat) (acc:List (Str×Addr)) (x:Str),(∃c,acc.lookup x=some c)->∃c,(cellsFrom n names acc).lookup x=some c
 | [],_,_,_,h=>h
 | (y,k)::r,n,acc,x,h=>by
  unfold cellsFrom;split
  ·refine K6 r (n+1) _ x ?_;rw[lookup_cons];cases hx:x==y with
   | true=>exact⟨_,rfl⟩
   | false=>exact h
  ·exact K6 r n acc x h
theorem WT:∀(names:List (Str×NameKind)) (n:Nat) (acc:List (Str×Addr)) (x:Str),(x,NameKind.cell)∈names->∃c,(cellsFrom n names acc).lookup x=some c
 | [],_,_,_,h=>by simp at h
 | (y,k)::r,n,acc,x,h=>by
  unfold cellsFrom;rcases mem_cons.mp h with e | h
  ·cases e;simp only[beq_self_eq_true,if_true];exact K6 r _ _ _ (by simp)
  ·split
   ·exact WT r _ _ x h
   ·exact WT r _ _ x h
theorem WW:∀(names:List (Str×NameKind)) (n:Nat) (acc:List (Str×Addr)) (x:Str),(x,NameKind.cell)∉names->(cellsFrom n names acc).lookup x=acc.lookup x
 | [],_,_,_,_=>rfl
 | (y,k)::r,n,acc,x,h=>by
  have hr:(x,NameKind.cell)∉r:=fun q=>h (mem_cons_of_mem _ q)
  unfold cellsFrom;split
  ·rename_i hk;rw[WW r _ _ x hr,lookup_cons];cases hx:x==y with
   | true=>rw[beq_iff_eq.mp hx,beq_iff_eq.mp hk]at h;exact absurd mem_cons_self h
   | false=>rfl
  ·exact WW r n acc x hr
theorem WV:∀(names:List (Str×NameKind)) (n₀ n:Nat) (acc:List (Str×Addr)) (x:Str) (c:Addr),n₀<=n->((x,NameKind.cell)∈names\/∀c,acc.lookup x=some c->n₀<=c)->(cellsFrom n names acc).lookup x=some c->n₀<=c
 | [],_,_,_,_,c,_,h,e=>h.elim (fun z=>by simp at z) fun z=>z c e
 | (y,k)::r,n₀,n,acc,x,c,hn,h,e=>by
  unfold cellsFrom at e;split at e
  ·refine WV r n₀ (n+1) _ x c (by omega) ?_ e;rcases h with h | h
   ·rcases mem_cons.mp h with q | q
    ·cases q;exact .inr fun c q=>by rw[lookup_cons,beq_self_eq_true]at q;cases q;exact hn
    ·exact .inl q
   ·refine .inr fun c q=>?_
    rw[lookup_cons]at q;cases hx:x==y with
    | true=>rw[hx]at q;cases q;exact hn
    | false=>rw[hx]at q;exact h c q
  ·rename_i hk;refine WV r n₀ n acc x c hn ?_ e;rcases h with h | h
   ·rcases mem_cons.mp h with q | q
    ·cases q;exact absurd rfl hk
    ·exact .inl q
   ·exact .inr h
theorem kg:∀(names:List (Str×NameKind)) (h:Heap) (acc:List (Str×Addr)) (x:Str) (c:Addr),(cellsFrom h.objs.size names acc).lookup x=some c->acc.lookup x=some c\/(pushCells h names).IsCell c none
 | [],_,_,_,_,e=>.inl e
 | (y,k)::r,h,acc,x,c,e=>by
  unfold cellsFrom at e;unfold pushCells;split
  ·rename_i hk;rw[if_pos hk]at e;rw[<-Heap.size_push h {cls:=.type "cell",data:=.cell none}]at e;rcases kg r _ _ x c e with q | q
   ·rw[lookup_cons]at q;cases hx:x==y with
    | true=>
     rw[hx]at q;cases q;exact .inr ⟨_,pushCells_keeps _ _ _ _ (Heap.get?_push_size _ rfl),rfl⟩
    | false=>rw[hx]at q;exact .inl q
   ·exact .inr q
  ·rename_i hk;rw[if_neg hk]at e;exact kg r h acc x c e
theorem envC{M:Model}{A:Around}{E:Value->Shared->Prop}{s:Shared}{scope:Scope}{globals:Addr}{cl:List (Str×Addr)}{qual:Str}{env:Env}{Q:Env->Shared->Prop}
  (h:Q (newEnv scope s.heap.objs.size globals (cellsFrom (s.heap.objs.size+1) scope.names cl) qual none .none (some env) builtinsNs) {s with heap:=pushCells (s.heap.push {cls:=.type "dict",data:=.dict #[]}) scope.names}) :
  wpAny M A (newFunctionEnv scope globals cl [] qual none .none (some env)) Q E s:=by
 simp only[newFunctionEnv,Option.isSome_some,if_true];refine wpAny_bind (wpAny_alloc ?_);refine wpAny_bind (wpAny_layCells _ (fun name kind cells=>by cases hkc:kind==NameKind.cell<;>simp[hkc]) _ _ _ _ ?_);rw[show({s with heap:=s.heap.push {cls:=.type "dict",data:=.dict #[]}}:Shared).heap.objs.size=s.heap.objs.size+1 from Heap.size_push ..];rw[List.forIn_nil];exact wpAny_bind (wpAny_pure (wpAny_pure h))
noncomputable def blk(X:Cx)(scope:Scope)(ow:List Str)(ci:List Nat)(C:Addr)(s₀:Shared)(H₀:Hp)(ex:List Addr)(pn:List (Addr×Obj)):Cx:=
 {X with N:=ow++ci.map fun j=>X.N.getD j "",s₀:=s₀,H₀:=H₀,env:=compEnvC scope (cellsFrom (C+1) scope.names (closL X.env scope.names [])) C X.env,outer:=X.stack,stack:=X.stack,ex:=ex,fn:=fun x=>scope.names.lookup x==some .cell,pn:=pn,xe:=fun _ _=>False}
structure CompScope(X:Cx)(scope:Scope)(ow:List Str)(ci:List Nat):Prop where
 kind:scope.kind = .function
 cell:∀y∈scope.names,y.2 = .cell->scope.names.lookup y.1=some .cell
 names:∀y∈scope.names,y.2 = .local->scope.names.lookup y.1=some .local
 free:∀y∈scope.names,y.2 = .free->X.env.kindOf y.1=some .cell\/X.env.kindOf y.1=some .free
 ix:∀j∈ci,j<X.N.length/\scope.names.lookup (X.N.getD j "")=some .free
noncomputable def compOk(fsc:Scope)(N:List Str)(scope:Scope)(ci:List Nat):Bool:=
 scope.kind == .function&&scope.names.all (fun y=>y.2 != .cell||scope.names.lookup y.1==some .cell)&&scope.names.all (fun y=>y.2 != .local||scope.names.lookup y.1==some .local) &&
 scope.names.all (fun y=>y.2 != .free||fsc.names.lookup y.1==some .cell||fsc.names.lookup y.1==some .free)&&ci.all (fun j=>decide (j<N.length)&&scope.names.lookup (N.getD j "")==some .free)
theorem CompScope.of{X:Cx}{scope:Scope}{ow:List Str}{ci:List Nat}(fsc:Scope)(N:List Str)(e1:X.env.scope=fsc)(e2:X.N=N)(h:compOk fsc N scope ci=true):CompScope X scope ow ci:=by
 subst e1 e2;unfold compOk at h;simp only[Bool.and_eq_true,List.all_eq_true,Bool.or_eq_true,bne_iff_ne,ne_eq,beq_iff_eq,decide_eq_true_eq]at h;obtain⟨⟨⟨⟨h1,h2⟩,h3⟩,h4⟩,h5⟩:=h;refine⟨h1,fun y hy e=>(h2 y hy).resolve_left fun z=>z e,fun y hy e=>?_,fun y hy e=>?_,fun j hj=>h5 j hj⟩
 ·rcases h3 y hy with z | z
  ·exact absurd e z
  ·exact z
 ·rcases h4 y hy with(z | z) | z
  ·exact absurd e z
  ·exact .inl z
  ·exact .inr z
theorem Jb{X:Cx}{scope:Scope}{ow:List Str}{ci:List Nat}{C:Addr}{s₀:Shared}{H₀:Hp}{ex:List Addr}{pn:List (Addr×Obj)}(N:List Str)(e:X.N=N)(h:(ow++ci.map fun j=>N.getD j "").Nodup):(blk X scope ow ci C s₀ H₀ ex pn).N.Nodup:=by
 subst e;exact h
noncomputable def capAt(σ:St)(j:Nat):Option V:=match σ[j]? with | some o=>o | none=>none
noncomputable def capS(n:Nat)(ci:List Nat)(σ:St):St:=List.replicate n none++ci.map (capAt σ)
def tComp(wi:TI)(n:Nat)(ci:List Nat)(g:TG)(tf:TT)(te:TE):TE:=fun σ H Q=>wi σ H fun J H1=>∃W:Nat->Nat->List V->Hp->Prop,(∃m,W 0 m [] H1)/\∀i m ys H,W i m ys H->
 (J.stop i H/\ys.length<=sizeLine/\∀p,H p=none->Q (.ref p) (upd H p (.lst ys)))\/
 (J.go i H/\∃N:List V->Hp->Prop,(∀ys' H',N ys' H'->∃m',m'<m/\W (i+1) m' ys' H')/\∀x H',J.yld i H x H'->g x (capS n ci σ) H' fun σ2 H2=>tf σ2 H2 fun b H3=>
  if b=true then te σ2 H3 fun v H4=>ys.length<sizeLine/\N (ys++[v]) H4 else N ys H3)
section
variable{X:Cx}{pins:List (Addr×Obj)}{σ:St}{H:Hp}{s:Shared}{elt iter tg:Expr}{ifs:List Expr}{scope:Scope}{pos:Pos}{ow:List Str}{ci:List Nat}{g:TG}{tf:TT}{te:TE}
theorem CompScope.cells(S:CompScope X scope ow ci)(ok:X.Ok):∀y∈scope.names,y.2 = .free->∃c,X.env.cells.lookup y.1=some c:=fun y hy e=>ok.has y.1 (S.free y hy e)
theorem CompScope.sub(S:CompScope X scope ow ci)(ok:X.Ok):∀x c,(closL X.env scope.names []).lookup x=some c->X.env.cells.lookup x=some c:=
 Kt scope.names [] (S.cells ok) fun _ _ e=>by simp at e
theorem CompScope.cel(S:CompScope X scope ow ci)(ok:X.Ok){C:Addr}{x:Str}{c:Addr}(h:(cellsFrom (C+1) scope.names (closL X.env scope.names [])).lookup x=some c):C+1<=c\/X.env.cells.lookup x=some c:=
 (Yl _ _ _ _ _ h).imp id (S.sub ok x c)
theorem j23(S:CompScope X scope ow ci)(I:Inv X pins σ H s){C:Addr}{ex:List Addr}{pn:List (Addr×Obj)}(hC:s.heap.objs.size<=C)
  (hex:∀b∈ex,b<s.heap.objs.size/\FpOk X pins H b):(blk X scope ow ci C s H ex pn).Ok where
 mod:=I.ok.mod
 kind:=S.kind
 glob:=I.ok.glob
 blt:=I.ok.blt
 above:=hC
 inj:=WU scope.names (C+1) _ (fun x c e=>by
   obtain⟨v,q⟩:=I.cell x c (S.sub I.ok x c e);exact Nat.lt_succ_of_le (Nat.le_of_lt (Nat.lt_of_lt_of_le q.lt hC))) fun x y c h1 h2=>I.ok.inj x y c (S.sub I.ok x c h1) (S.sub I.ok y c h2)
 has:=fun x h=>by
  have h':∃k,(relabel scope X.env).names.lookup x=some k/\(k = .cell\/k = .free):=by
   rcases h with h | h
   ·exact⟨_,h,.inl rfl⟩
   ·exact⟨_,h,.inr rfl⟩
  obtain⟨k,hl,hk⟩:=h';obtain⟨k',hm,_,e⟩:=zH (env:=X.env) hl;have hf:k' = .cell\/k' = .free:=by
   rcases e with e | ⟨e,_⟩
   ·subst e;exact hk
   ·exact .inr e
  rcases hf with hf | hf
  ·subst hf;exact WT scope.names _ _ x hm
  ·subst hf;exact K6 scope.names _ _ x (Ym scope.names [] x hm)
 cab:=fun x c h e=>Nat.le_trans (Nat.le_trans hC (Nat.le_succ _)) (WV scope.names (C+1) (C+1) _ x c (Nat.le_refl _) (.inl (PySem.mem_of_lookup (beq_iff_eq.mp h))) e)
 hd:=I.ok.hd
 frames:=I.ok.frames
 stk:=.inl rfl
 exf:=fun b hb=>⟨Nat.ne_of_lt (Nat.lt_of_lt_of_le (hex b hb).1 hC),fun x c e=>(S.cel I.ok e).elim (fun q z=>Nat.lt_irrefl _ (Nat.lt_of_lt_of_le (z▸(hex b hb).1) (Nat.le_trans hC (Nat.le_trans (Nat.le_succ _) q)))) fun q=>(hex b hb).2.2.2.2.2.1 x c q⟩
 bs:=I.bs
 bsz:=Nat.le_trans I.ok.bsz I.sz
 noex:=fun b o e hb=>by
  obtain⟨_,_,_,h3,_⟩:=(hex b hb).2;rcases h3 with z | z
  ·exact I.ok.noex b o e z
  ·exact absurd (Nat.lt_of_lt_of_le (Heap.lt_size e) (Nat.le_trans I.ok.bsz z)) (Nat.lt_irrefl _)
 exfs:=fun b hb z=>by
  obtain⟨_,h1,h2,_⟩:=(hex b hb).2;rcases mem_cons.mp (I.stkSub b z)with e | e
  ·exact h1 e
  ·exact h2 e
 funs:=I.stack
 frf:=I.stkFree
theorem Xx(S:CompScope X scope ow ci)(I:Inv X pins σ H s){C:Addr}{ex:List Addr}{h₁:Heap}{t₁:Nat}{m₀:Str->Option Value}(hC:s.heap.objs.size<=C)
  (hex:∀b∈ex,b<s.heap.objs.size/\FpOk X pins H b) (hn:h₁.Ns C m₀) (k:∀b o,s.heap.get? b=some o->h₁.get? b=some o)
  (hnew:∀x c,(cellsFrom (C+1) scope.names (closL X.env scope.names [])).lookup x=some c->(closL X.env scope.names []).lookup x=some c\/h₁.IsCell c none) :
  Inv (blk X scope ow ci C s H ex (X.pn++pins)) [] (capS ow.length ci σ) H {s with heap:=h₁,toks:=t₁}:=by
 have ok:=j23 (pn:=X.pn++pins) S I hC hex;refine⟨ok,rfl,I.bare,Un.kept k,⟨m₀,hn,fun i x v e1 e2 e3=>?_⟩,fun x c e=>?_,I.hok.fresh hC,fun x c e=>(S.cel I.ok e).elim (fun q=>I.hok.fresh (Nat.le_trans hC (Nat.le_trans (Nat.le_succ _) q))) (I.freeC x c),fun p hp=>?_,I.hok.kept k,?_⟩
 ·have e1':(ow++ci.map fun j=>X.N.getD j "")[i]?=some x:=e1;unfold capS at e2;by_cases hi:i<ow.length
  ·rw[List.getElem?_append_left (by simpa using hi),List.getElem?_replicate,if_pos hi]at e2;cases e2
  ·rw[List.getElem?_append_right (by simpa using hi),List.getElem?_map,List.length_replicate]at e2;rw[List.getElem?_append_right (by omega),List.getElem?_map]at e1';cases hj:ci[i-ow.length]? with
   | none=>rw[hj]at e2;cases e2
   | some j=>
    rw[hj]at e1' e2;obtain⟨hl,hf⟩:=S.ix j (List.mem_of_getElem? hj);have ex':X.N.getD j ""= x:=Option.some.inj e1';have eN:X.N[j]?=some x:=by
     rw[<-ex',getD_eq_getElem?_getD,List.getElem?_eq_getElem hl];rfl
    have ev:σ[j]?=some (some v):=by
     have e2':capAt σ j=some v:=Option.some.inj e2;unfold capAt at e2';cases q:σ[j]? with
     | none=>rw[q]at e2';cases e2'
     | some o=>rw[q]at e2';rw[show o=some v from e2']
    rw[ex']at hf;have hmem:(x,NameKind.free)∈scope.names:=PySem.mem_of_lookup hf;have hk:=S.free _ hmem rfl;obtain⟨m,_,hl'⟩:=I.loc;have vis:Vis X.env.scope x:=by
     rcases hk with q | q
     ·exact .inr (.inl q)
     ·exact .inr (.inr q)
    obtain⟨u,r,lk⟩:=hl' j x v eN ev vis;refine⟨u,r,.inr ⟨?_,?_⟩⟩
    ·rcases e3 with q | q | q
     ·obtain⟨k',_,h2,h3⟩:=zH (env:=X.env) q;rw[hf]at h2;cases h2;rcases h3 with h3 | ⟨_,h3⟩<;>cases h3
     ·exact .inl q
     ·exact .inr q
    ·rcases lk with⟨q,_⟩ | ⟨_,c,hc,hcell⟩
     ·have q':X.env.kindOf x=some .local:=q;rcases hk with z | z<;>(rw[z]at q';cases q')
     ·obtain⟨c',hc'⟩:=Ym (env:=X.env) scope.names [] x hmem;have e:=S.sub I.ok x c' hc';rw[hc]at e;cases e;refine⟨c,?_,hcell.keeps k⟩;show(cellsFrom (C+1) scope.names (closL X.env scope.names [])).lookup x=some c;rw[WW scope.names _ _ x fun z=>?_]
      ·exact hc'
      ·have:=S.cell _ z rfl;rw[hf]at this;cases this
 ·rcases hnew x c e with q | q
  ·obtain⟨v,q⟩:=I.cell x c (S.sub I.ok x c q);exact⟨v,q.keeps k⟩
  ·exact⟨_,q⟩
 ·have hp':p∈X.pn++pins:=by
   rcases mem_append.mp hp with z | z
   ·exact z
   ·cases z
  obtain⟨e,n,ne,nf,d⟩:=I.pin p hp';refine⟨k _ _ e,n,Nat.ne_of_lt (Nat.lt_of_lt_of_le (Heap.lt_size e) hC),fun z=>?_,d⟩;rcases mem_cons.mp (I.stkSub p.1 z)with q | q
  ·exact ne q
  ·exact nf q
 ·show(capS ow.length ci σ).length=(ow++ci.map fun j=>X.N.getD j "").length;simp[capS]
theorem Inv.forget{σ':St}(I:Inv X pins σ' H s)(n:Nat)(ci:List Nat)(σ:St)(hl:(capS n ci σ).length=X.N.length)(h:∀i v,n<=i->(capS n ci σ)[i]?=some (some v)->σ'[i]?=some (some v)):Inv X pins (capS n ci σ) H s:=
 I.weak (by rw[hl,I.len]) fun i v e=>by
  by_cases hi:n<=i
  ·exact h i v hi e
  ·unfold capS at e;rw[List.getElem?_append_left (by simpa using hi),List.getElem?_replicate,if_pos (by omega)]at e;cases e
def GKeeps(n:Nat)(g:TG):Prop:=∀x σ H (Q:St->Hp->Prop),g x σ H Q->g x σ H fun σ2 H2=>(∀(i:Nat) v,n<=i->σ[i]?=some (some v)->σ2[i]?=some (some v))/\Q σ2 H2
theorem jZ{n i:Nat}(h:i<n):GKeeps n (gName i):=fun x σ H Q q=>⟨fun j v hj e=>by rw[List.getElem?_set_ne (by omega)];exact e,q⟩
theorem Xa{K:Frg}{n i j:Nat}(hi:i<n)(hj:j<n):GKeeps n (gTup K 2 (gCons (gName i) (gCons (gName j) gNil))):=fun x σ H Q q=>by
 obtain⟨a,xs,e1,e2,e3,v,r,e4,v',r',e5,e6,q⟩:=q;refine⟨a,xs,e1,e2,e3,v,r,e4,v',r',e5,e6,fun k u hk e=>?_,q⟩;rw[List.getElem?_set_ne (by omega),List.getElem?_set_ne (by omega)];exact e
theorem kh{E:Value->Shared->Prop}{J:It}{fp:List Addr}{it:Addr}{tn:Nat->Heap->Prop}{RR:Value->Addr->Result->Shared->Prop}(hc:X.calm=true)(S:CompScope X scope ow ci)(hk:GKeeps ow.length g)
  (hb:∀C s₀ H₀ ex pn,PG (blk X scope ow ci C s₀ H₀ ex pn) tg g/\PF (blk X scope ow ci C s₀ H₀ ex pn) ifs tf/\PE (blk X scope ow ci C s₀ H₀ ex pn) elt te)
  (I:Inv X pins σ H s) (T:Turn X.prog X.w X.K tg J fp it tn) (st:tn 0 s.heap) (hf:∀b∈fp,FpOk X pins H b) (Z:List V->Hp->Prop)
  (W:Nat->Nat->List V->Hp->Prop) (w0:∃m,W 0 m [] H)
  (turn:∀i m ys H,W i m ys H->(J.stop i H/\ys.length<=sizeLine/\Z ys H)\/
   (J.go i H/\∃N:List V->Hp->Prop,(∀ys' H',N ys' H'->∃m',m'<m/\W (i+1) m' ys' H')/\∀x H',J.yld i H x H'->g x (capS ow.length ci σ) H' fun σ2 H2=>tf σ2 H2 fun b H3=>
    if b=true then te σ2 H3 fun v H4=>ys.length<sizeLine/\N (ys++[v]) H4 else N ys H3))
  (fin:∀D C s' H' m ys,Inv X pins σ (upd H' D (.lst ys)) s'->H' D=none->Z ys H'->s'.heap.Ns C m->s.heap.objs.size<=C->C≠D->H' C=none->RR (.ref D) C (.ok .next) s') :
  wpAny (model X.prog X.w) X.A (newList []) (fun acc s₃=>wpAny (model X.prog X.w) X.A (newFunctionEnv scope X.env.globals (closL X.env scope.names []) [] X.env.qual none .none (some X.env)) (fun cenv s₄=>
   codeAny (model X.prog X.w) X.A (.compStart (.ListComp elt [⟨tg,iter,ifs,0⟩] scope pos) 0 (.ref it) acc {cenv with scope:=relabel scope X.env}) (RR acc cenv.locals) s₄) E s₃) E s:=by
 refine wpAny_newObj_type (envC ?_);dsimp only;generalize hs3:({s with heap:=s.heap.push {cls:=.type "list",dict:=none,data:=.seq ([]:List Value).toArray}}:Shared)=s3;have e3:s3.heap=s.heap.push {cls:=.type "list",dict:=none,data:=.seq ([]:List Value).toArray}:=by rw[<-hs3]
 rw[<-e3];generalize hh1:pushCells (s3.heap.push {cls:=.type "dict",data:=.dict #[]}) scope.names=h₁;have k3:∀b o,s.heap.get? b=some o->s3.heap.get? b=some o:=fun b o e=>by rw[e3];exact Heap.get?_push_of_some _ e
 have hsz:s3.heap.objs.size=s.heap.objs.size+1:=by rw[e3,Heap.size_push]
 have I3:Inv X pins σ H s3:=by rw[<-hs3];exact I.kept (t':=s.toks) fun b o e=>Heap.get?_push_of_some _ e
 have hD3:s3.heap.get? s.heap.objs.size=some {cls:=.type "list",dict:=none,data:=.seq ([]:List Value).toArray}:=by rw[e3];exact Heap.get?_push_size _ rfl
 generalize hDD:s.heap.objs.size=D at *;generalize hCC:s3.heap.objs.size=C at *;have hDC:D<C:=by omega
 have hHD:H D=none:=I.hok.fresh (Nat.le_of_eq hDD);have fpD:FpOk X pins H D:=I.fpOk (Nat.le_of_eq hDD) hHD;have ltD:∀(b:Addr) o,s.heap.get? b=some o->b<D:=fun b o e=>by rw[<-hDD];exact Heap.lt_size e
 have ltC:∀(b:Addr) o,s3.heap.get? b=some o->b<C:=fun b o e=>by rw[<-hCC];exact Heap.lt_size e
 have hflt:∀b∈fp,b<D:=fun b hb=>by
  obtain⟨o,e,_⟩:=T.obj 0 _ st b hb;exact ltD b o e
 have hex:∀b∈D::fp,b<s3.heap.objs.size/\FpOk X pins H b:=fun b hb=>by
  rw[hCC];rcases mem_cons.mp hb with rfl | hb
  ·exact⟨hDC,fpD⟩
  ·exact⟨Nat.lt_trans (hflt b hb) hDC,hf b hb⟩
 have kk:∀b o,s3.heap.get? b=some o->h₁.get? b=some o:=fun b o e=>by rw[<-hh1];exact pushCells_keeps _ _ b o (Heap.get?_push_of_some _ e)
 have hns₁:h₁.Ns C fun _=>none:=by rw[<-hh1,<-hCC];exact(Heap.Ns.new s3.heap (.type "dict")).keeps (pushCells_keeps _ _)
 have hnew:∀x c,(cellsFrom (C+1) scope.names (closL X.env scope.names [])).lookup x=some c->(closL X.env scope.names []).lookup x=some c\/h₁.IsCell c none:=fun x c e=>by
  rw[<-hh1];refine kg scope.names _ _ x c ?_;rw[Heap.size_push,hCC];exact e
 obtain⟨hg,hfl,he⟩:=hb C s3 H (D::fp) (X.pn++pins);generalize hY:blk X scope ow ci C s3 H (D::fp) (X.pn++pins)=Y at hg hfl he;have Yprog:Y.prog=X.prog:=by rw[<-hY];rfl
 have Yw:Y.w=X.w:=by rw[<-hY];rfl
 have YK:Y.K=X.K:=by rw[<-hY];rfl
 have YA:Y.A=X.A:=by rw[<-hY];rfl
 have Yc:Y.calm=true:=by rw[<-hY];exact hc
 have Yenv:Y.env=compEnvC scope (cellsFrom (C+1) scope.names (closL X.env scope.names [])) C X.env:=by rw[<-hY];rfl
 have Yxe:Y.xe=fun _ _=>False:=by rw[<-hY];rfl
 have Yfs:Y.fs=frs X.stack:=by rw[<-hY];rfl
 have Yex:Y.ex=D::fp:=by rw[<-hY];rfl
 have Ypn:Y.pn=X.pn++pins:=by rw[<-hY];rfl
 have Ys:Y.s₀=s3:=by rw[<-hY];rfl
 have YH:Y.H₀=H:=by rw[<-hY];rfl
 have YN:(capS ow.length ci σ).length=Y.N.length:=by rw[<-hY];show(capS ow.length ci σ).length=(ow++ci.map fun j=>X.N.getD j "").length;simp[capS]
 have own:∀b∈D::fp,b≠Y.env.locals/\b∉Y.fs/\b∈Y.ex/\(∀x c,Y.env.cells.lookup x=some c->c≠b)/\∀p∈Y.pn,p.1≠b:=fun b hb=>by
  obtain⟨h0,h1,h2,h3,h4,h5⟩:=(hex b hb).2;refine⟨by rw[Yenv];exact Nat.ne_of_lt (hCC▸(hex b hb).1),fun z=>?_,by rw[Yex];exact hb,fun x c e=>?_,by rw[Ypn];exact h5⟩
  ·rw[Yfs]at z;rcases mem_cons.mp (I.stkSub b z)with q | q
   ·exact h1 q
   ·exact h2 q
  ·rw[Yenv]at e;rcases S.cel I.ok e with q | q
   ·exact fun z=>Nat.lt_irrefl _ (Nat.lt_of_lt_of_le (hCC▸(hex b hb).1) (Nat.le_trans (Nat.le_succ _) (z▸q)))
   ·exact h4 x c q
 have nDf:D∉fp:=fun z=>Nat.lt_irrefl _ (hflt D z)
 have loop:∀s4:Shared,Inv Y [] (capS ow.length ci σ) H s4->tn 0 s4.heap->s4.heap.PlainList D #[]->
   codeAny (model X.prog X.w) X.A (.compLoop (.ListComp elt [⟨tg,iter,ifs,0⟩] scope pos) 0 (.ref it) (.ref D) (compEnvC scope (cellsFrom (C+1) scope.names (closL X.env scope.names [])) C X.env)) (RR (.ref D) C) s4:=by
  intro s4 J4 st4 pl4;obtain⟨m0,w0⟩:=w0;refine compLoopT (fun n s'=>∃i ys its H',Inv Y [] (capS ow.length ci σ) H' s'/\tn i s'.heap/\(∀b∈fp,H' b=none)/\H' D=none/\s'.heap.PlainList D its/\Vals ys its.toList/\W i n ys H') ?_ m0
   ⟨0,[],#[],H,J4,st4,fun b hb=>(hf b hb).1,hHD,pl4,.nil,w0⟩
  rintro n s5 ⟨i,ys,its,H5,J5,st5,fr5,hD5,⟨pn5,pl5⟩,va5,w5⟩;have vl:ys.length=its.size:=by have:=va5.length;simpa using this
  have pinD:∀{H':Hp} {s':Shared} {σ':St},Inv Y [] σ' H' s'->H' D=none->∀{o:Obj},s'.heap.get? D=some o->(∀v,o.data≠.cell v)->Inv Y [(D,o)] σ' H' s':=fun {H' s' σ'} K hD o e d=>
   K.pins_of fun p hp=>by
    have ep:p=(D,o):=by simpa using hp
    subst ep;obtain⟨a1,a2,_⟩:=own D mem_cons_self;exact⟨e,hD,a1,a2,d⟩
  have P5:=pinD J5 hD5 pl5 (fun v z=>by cases z);have fpk:∀{H':Hp},(∀b∈fp,H' b=none)->∀{o:Obj},∀b∈fp,FpOk Y [(D,o)] H' b:=fun {H'} hn {o} b hb=>by
   obtain⟨a1,a2,a3,a4,a5⟩:=own b (mem_cons_of_mem _ hb);refine⟨hn b hb,a1,a2,.inl a3,a4,fun p hp=>?_⟩;rcases mem_append.mp hp with q | q
   ·exact a5 p q
   ·have ep:p=(D,o):=by simpa using q
    subst ep;exact fun z=>nDf (by have z':D=b:=z;rw[z'];exact hb)
  rcases turn i n ys H5 w5 with⟨stop,hsz5,z5⟩ | ⟨go,NN,hNN,step⟩
  ·have d:=T.done Y Yprog Yw YK Yc i [(D,_)] s5 _ H5 (fun _ _=>False) P5 (fpk fr5) st5 stop;rw[YA]at d;refine thn d fun r s6 ⟨hr,J6⟩=>?_
   subst hr;have D6:=(J6.pin (D,_) (mem_append_right _ mem_cons_self)).1;obtain⟨mC,hnC,_⟩:=J6.loc;rw[Yenv]at hnC;have hnC':s6.heap.Ns C mC:=hnC;have hC6:H5 C=none:=by have:=J6.free;rw[Yenv]at this;exact this
   refine fin D C s6 H5 mC ys ?_ hD5 z5 hnC' (Nat.le_of_lt hDC) (Nat.ne_of_gt hDC) hC6;have B:=J6.base;rw[Yfs,Yex,YH,Ys]at B;have low:∀b o,s.heap.get? b=some o->b≠D/\b≠C:=fun b o e=>⟨Nat.ne_of_lt (ltD b o e),Nat.ne_of_lt (Nat.lt_trans (ltD b o e) hDC)⟩
   have nex:∀b o,s.heap.get? b=some o->b∉fp->b∉D::fp:=fun b o e hb z=>by
    rcases mem_cons.mp z with q | q
    ·exact(low b o e).1 q
    ·exact hb q
   have uN:Un (frs X.stack) fp H (upd H5 D (.lst ys)) s.heap s6.heap:=by
    refine⟨fun b o e n hb hx=>B.keep b o (k3 b o e) n hb (nex b o e hx),fun b o e n hb hx=>B.slot b o (k3 b o e) n hb (nex b o e hx),fun b o e n hx=>?_,fun b o e hx=>B.there b o (k3 b o e) (nex b o e hx),fun b xs q=>?_,fun b o u q=>?_,fun b ps q=>?_⟩
    ·rw[jh (low b o e).1];exact B.free b o (k3 b o e) n (nex b o e hx)
    ·rw[jh (jf (B.tups b xs q) hD5)];exact B.tups b xs q
    ·rw[jh (jf (B.frzs b o u q) hD5)];exact B.frzs b o u q
    ·obtain⟨mo,q'⟩:=B.tbls b ps q;exact⟨mo,by rw[jh (jf q' hD5)];exact q'⟩
   have hok6:HOk X.prog X.w H5 s6.heap:=by rw[<-Yprog,<-Yw];exact J6.hok
   have hokN:HOk X.prog X.w (upd H5 D (.lst ys)) s6.heap:=fun b u e=>by
    by_cases hbD:b=D
    ·subst hbD;rw[jg]at e;cases e;exact⟨hsz5,its.toList,_,va5,by simpa using D6⟩
    ·rw[jh hbD]at e;exact(hok6 b u e).stay (fun c v _ q=>q) (fun c q=>by rw[jh (jf q hD5)];exact q) fun c xs q=>by rw[jh (jf q hD5)];exact q
   refine I.call' (by rw[J6.os,Ys,<-hs3]) uN hokN J6.bare fun b hb=>?_
   obtain⟨h0,h1,h2,h3,h4,h5⟩:=hf b hb;exact⟨h3,h1,h4,h5⟩
  ·have d:=T.item Y Yprog Yw YK Yc i [(D,_)] s5 _ H5 (fun _ _=>False) P5 (fpk fr5) st5 go;rw[YA]at d;refine thn d fun r s6 ⟨u,hr,h6⟩=>?_
   subst hr;refine thn h6 fun _ s7 ⟨x,H7,J7,r7,y7,st7,fr7⟩=>?_
   have J7':=J7.pinned (fpk fr7) (T.obj _ _ st7);have h8:=hg _ s7 _ H7 x u _ J7' r7 (hk _ _ _ _ (step x H7 y7));rw[Yprog,Yw,YA,Yenv,Yxe]at h8;refine thn h8 fun _ s8 ⟨σ8,H8,J8,ks8,q8⟩=>?_
   have h9:=hfl _ s8 σ8 H8 _ J8 q8;rw[Yprog,Yw,YA,Yenv,Yxe]at h9;refine thn h9 fun b s9 ⟨H9,J9,q9⟩=>?_
   have back:∀{H':Hp} {s':Shared},Inv Y ([(D,({cls:=.type "list",data:=.seq its pn5}:Obj))]++pinsAt fp s7.heap) σ8 H' s'->Inv Y [] (capS ow.length ci σ) H' s'/\tn (i+1) s'.heap/\(∀b∈fp,H' b=none)/\H' D=none/\s'.heap.get? D=some {cls:=.type "list",data:=.seq its pn5}:=fun {H' s'} K=>by
    have pD:=K.pin (D,_) (mem_append_right _ (mem_append_left _ mem_cons_self));refine⟨(K.pins_of (pins':=[]) (by simp)).forget _ _ _ YN (fun j v hj e=>ks8 j v hj e),T.keep _ _ _ st7 fun b hb o e=>(K.pin (b,o) (mem_append_right _ (mem_append_right _ (QY hb e)))).1,fun b hb=>?_,pD.2.1,pD.1⟩;obtain⟨o,e,_⟩:=T.obj _ _ st7 b hb;exact(K.pin (b,o) (mem_append_right _ (mem_append_right _ (QY hb e)))).2.1
   cases b with
   | false=>
    rw[if_neg Bool.false_ne_true]at q9|-;obtain⟨m',hm,w9⟩:=hNN _ _ q9;obtain⟨K9,st9,fr9,hD9,e9⟩:=back J9;exact⟨m',hm,i+1,ys,its,H9,K9,st9,fr9,hD9,⟨_,e9⟩,va5,w9⟩
   | true=>
    rw[if_pos rfl]at q9|-;have h10:=he _ s9 σ8 H9 _ J9 q9;rw[Yprog,Yw,YA,Yenv,Yxe]at h10;refine thn h10 fun z s10 ⟨v,H10,J10,r10,hlt,n10⟩=>?_
    obtain⟨m',hm,w10⟩:=hNN _ _ n10;obtain⟨K10,st10,fr10,hD10,e10⟩:=back J10;refine wpAny_list_append_plain (hsz:=by rw[<-vl];exact Nat.le_of_lt hlt) ⟨_,e10⟩ fun h11 pl11 hs11=>?_
    obtain⟨a1,a2,a3,a4,a5⟩:=own D mem_cons_self;have K11:Inv Y [] (capS ow.length ci σ) H10 {s10 with heap:=h11}:=K10.turned (t':=s10.toks) (fun b o hb e=>(hs11.2 b hb).trans e) hD10 a1 (.inl a3) a4 (fun p hp=>a5 p (by simpa using hp));refine⟨m',hm,i+1,ys++[v],its.push z,H10,K11,T.keep _ _ _ st10 fun b hb o e=>(hs11.2 b (fun q=>nDf (q▸hb))).trans e,fr10,hD10,pl11,?_,w10⟩;rw[Array.toList_push];exact va5.append (.cons r10 .nil)
 have J4:Inv Y [] (capS ow.length ci σ) H {s3 with heap:=h₁}:=by
  rw[<-hY];exact Xx (t₁:=s3.toks) S I3 (Nat.le_of_eq hCC) hex hns₁ kk hnew
 have st4:tn 0 h₁:=T.keep _ _ _ st fun b _ o e=>kk b o (k3 b o e)
 have pl4:h₁.PlainList D #[]:=⟨_,kk _ _ hD3⟩
 have L:=loop _ J4 st4 pl4;subst hs3;exact codeAny_compStart_list L (T.self _ 0 _ _ _ st4 L)
variable{wi:TI}
theorem j3(hc:X.calm=true)(S:CompScope X scope ow ci)(hk:GKeeps ow.length g)(hi:PI X tg iter wi)
  (hb:∀C s₀ H₀ ex pn,PG (blk X scope ow ci C s₀ H₀ ex pn) tg g/\PF (blk X scope ow ci C s₀ H₀ ex pn) ifs tf/\PE (blk X scope ow ci C s₀ H₀ ex pn) elt te)
  (hs:∀x,foldedSetIterable iter X.env x=pure x:=by intro _;rfl):PE X (.ListComp elt [⟨tg,iter,ifs,0⟩] scope pos) (tComp wi ow.length ci g tf te):=by
 intro pins s σ H Q I h;rw[eval_ListComp];refine wpAny_comprehension_free (use:=none) rfl hs (yM (S.cells I.ok)) S.kind S.names (thn (hi pins s σ H _ I h) fun v s1 h1=>thn h1 fun itv s2 h2=>?_);obtain⟨it,fp,tn,J,H2,e,I2,T,st2,f2,W,w0,turn⟩:=h2;subst e;refine kh (RR:=fun acc C=>compPost (model X.prog X.w) X.A X.xe none (EP X pins σ Q) acc C) hc S hk hb I2 T st2 f2 (fun ys H=>∀p,H p=none->Q (.ref p) (upd H p (.lst ys))) W w0 turn fun D C s' H' m ys K hD z hn hC hCD hC0=>?_
 refine⟨m,hn,fun h' hs'=>⟨.ref D,upd H' D (.lst ys),?_,rfl,z D hD⟩⟩;obtain⟨f0,f1,f2',f3,f4,f5⟩:=I2.fpOk (H':=upd H' D (.lst ys)) hC (by rw[jh hCD];exact hC0);exact K.turned (t':=s'.toks) (fun b o hb e=>(hs'.2 b hb).trans e) f0 f1 f3 f4 f5
theorem Xm{i:Nat}{x:Str}{px spos:Pos}(hc:X.calm=true)(S:CompScope X scope ow ci)(hk:GKeeps ow.length g)(hN:X.N.Nodup)(hx1:X.N[i]?=some x)(hx:Loc X.env.scope x)(hi:PI X tg iter wi)
  (hb:∀C s₀ H₀ ex pn,PG (blk X scope ow ci C s₀ H₀ ex pn) tg g/\PF (blk X scope ow ci C s₀ H₀ ex pn) ifs tf/\PE (blk X scope ow ci C s₀ H₀ ex pn) elt te)
  (hsw:swapsWith (.ListComp elt [⟨tg,iter,ifs,0⟩] scope pos) (some (.Name x px)) spos.line X.env=pure true:=by rfl)
  (hf:X.fn x=true\/X.env.scope.names.lookup x=some .local:=by first | exact .inl rfl | exact .inr rfl | assumption)
  (hs:∀x,foldedSetIterable iter X.env x=pure x:=by intro _;rfl):PS X (.Assign [.Name x px] (.ListComp elt [⟨tg,iter,ifs,0⟩] scope pos) spos) (tAsg (tComp wi ow.length ci g tf te) (gName i)):=by
 intro pins s σ H D I h;rw[exec_Assign_Name_used _ _ _ _ hsw];refine wpAny_bind (wpAny_standAt (wpAny_bind ?_));show wpAny _ X.A (do let _ <-comprehension (.ListComp elt [⟨tg,iter,ifs,0⟩] scope pos) scope X.env _ (newList []) false (eval iter X.env) (some (assign (.Name x px) X.env))) _ _ s;refine wpAny_bind (wpAny_mono (wpAny_comprehension_free (use:=some (assign (.Name x px) X.env)) (Q:=fun _ s'=>SP X pins D .next s') rfl hs (yM (S.cells I.ok)) S.kind S.names
  (thn (hi pins s σ H _ I h) fun v s1 h1=>thn h1 fun itv s2 h2=>?_)) (fun _ s' hq=>wpAny_pure (wpAny_pure hq)) fun _ _ e=>e)
 obtain⟨it,fp,tn,J,H2,e,I2,T,st2,f2,W,w0,turn⟩:=h2;subst e;refine kh (RR:=fun acc C=>compPost (model X.prog X.w) X.A X.xe (some (assign (.Name x px) X.env)) (fun _ s'=>SP X pins D .next s') acc C) hc S hk hb I2 T st2 f2
  (fun ys H=>∀p,H p=none->gName i (.ref p) σ (upd H p (.lst ys)) D.nx) W w0 turn fun P C s' H' m ys K hD z hn hC hCD hC0=>?_
 obtain⟨f0,f1,f2',f3,f4,f5⟩:=I2.fpOk (H':=upd H' P (.lst ys)) hC (by rw[jh hCD];exact hC0);show wpAny _ X.A (assign (.Name x px) X.env (.ref P)) _ _ s';refine wpAny_assign_Name (KJ K hN hx1 hx (v:=.ref P) rfl (fun s3 K3 ⟨a,hs3,ha⟩=>⟨m,hn.sameBut hs3 ?_,fun h' hs'=>?_⟩) hf)
 ·rcases ha with q | q
  ·rw[q];exact f1
  ·exact fun z=>f4 x a q z.symm
 ·exact⟨_,_,K3.turned (t':=s3.toks) (fun b o hb e=>(hs'.2 b hb).trans e) f0 f1 f3 f4 f5,z P hD⟩
theorem WX{lo:Int}{n k:Nat}{ci:List Nat}{g:TG}{tf:TT}{te:TE}{σ:St}{H:Hp}{Z:Addr->List V->Hp->Prop}(Pv:Nat->List V->Hp->Prop)(h0:Pv 0 [] H)
  (hs:∀i ys H,i<n->Pv i ys H->g (.int (lo+i)) (capS k ci σ) H fun σ2 H2=>tf σ2 H2 fun b H3=>if b=true then te σ2 H3 fun v H4=>ys.length<sizeLine/\Pv (i+1) (ys++[v]) H4 else Pv (i+1) ys H3)
  (hd:∀ys H,Pv n ys H->ys.length<=sizeLine/\∀p,H p=none->Z p ys H) :
  ∃W:Nat->Nat->List V->Hp->Prop,(∃m,W 0 m [] H)/\∀i m ys H,W i m ys H->
   ((Itr lo n).stop i H/\ys.length<=sizeLine/\∀p,H p=none->Z p ys H)\/
   ((Itr lo n).go i H/\∃N:List V->Hp->Prop,(∀ys' H',N ys' H'->∃m',m'<m/\W (i+1) m' ys' H')/\∀x H',(Itr lo n).yld i H x H'->g x (capS k ci σ) H' fun σ2 H2=>tf σ2 H2 fun b H3=>
    if b=true then te σ2 H3 fun v H4=>ys.length<sizeLine/\N (ys++[v]) H4 else N ys H3):=by
 refine⟨fun i m ys H=>m=n-i/\i<=n/\Pv i ys H,⟨n,by simp,Nat.zero_le _,h0⟩,?_⟩;rintro i m ys H ⟨rfl,hi,p⟩;by_cases hlt:i<n
 ·refine .inr ⟨hlt,Pv (i+1),fun ys' H' p'=>⟨n-(i+1),by omega,rfl,hlt,p'⟩,fun x H' y=>?_⟩;obtain⟨e,y⟩:=y;subst e y;exact hs i ys _ hlt p
 ·have e:i=n:=by omega
  subst e;exact .inl ⟨Nat.le_refl _,hd ys H p⟩
theorem jH{K:Frg}{a:Addr}{xs:List V}{k:Nat}{ci:List Nat}{g:TG}{tf:TT}{te:TE}{σ:St}{H:Hp}{Z:Addr->List V->Hp->Prop}(Pv:Nat->List V->Hp->Prop)(h0:Pv 0 [] H)(hl:∀i ys H,i<=xs.length->Pv i ys H->SqL K H a xs)
  (hs:∀i x ys H,xs[i]?=some x->Pv i ys H->g x (capS k ci σ) H fun σ2 H2=>tf σ2 H2 fun b H3=>if b=true then te σ2 H3 fun v H4=>ys.length<sizeLine/\Pv (i+1) (ys++[v]) H4 else Pv (i+1) ys H3)
  (hd:∀ys H,Pv xs.length ys H->ys.length<=sizeLine/\∀p,H p=none->Z p ys H) :
  ∃W:Nat->Nat->List V->Hp->Prop,(∃m,W 0 m [] H)/\∀i m ys H,W i m ys H->
   ((Itl K a).stop i H/\ys.length<=sizeLine/\∀p,H p=none->Z p ys H)\/
   ((Itl K a).go i H/\∃N:List V->Hp->Prop,(∀ys' H',N ys' H'->∃m',m'<m/\W (i+1) m' ys' H')/\∀x H',(Itl K a).yld i H x H'->g x (capS k ci σ) H' fun σ2 H2=>tf σ2 H2 fun b H3=>
    if b=true then te σ2 H3 fun v H4=>ys.length<sizeLine/\N (ys++[v]) H4 else N ys H3):=by
 refine⟨fun i m ys H=>m=xs.length-i/\i<=xs.length/\Pv i ys H,⟨xs.length,by simp,Nat.zero_le _,h0⟩,?_⟩;rintro i m ys H ⟨rfl,hi,p⟩;have q:=hl i ys H hi p;by_cases hlt:i<xs.length
 ·refine .inr ⟨⟨xs,xs[i],q,by simp[hlt]⟩,Pv (i+1),fun ys' H' p'=>⟨xs.length-(i+1),by omega,rfl,hlt,p'⟩,fun x H' y=>?_⟩;obtain⟨e,y⟩:=y;subst e;exact hs i x ys _ (y xs q) p
 ·have e:i=xs.length:=by omega
  subst e;exact .inl ⟨⟨xs,q,Nat.le_refl _⟩,hd ys H p⟩
end
theorem Xk:(10:Nat)^250<2^831:=by decide +kernel
theorem wU{x:Int}(h1 : -10^250<=x)(h2:x<=10^250):Builtin.Int.intBits x<=1048576:=by
 refine Nat.le_trans (PySem.intBits_le_iff.mpr ?_:Builtin.Int.intBits x<=831) (by decide);have:x.natAbs<=10^250:=by omega
 exact Nat.lt_of_le_of_lt this Xk
theorem mulOk{x y:Int}(h1 : -10^250<=x)(h2:x<=10^250)(h3 : -10^250<=y)(h4:y<=10^250):IntMulOk x y:=.of_bits (wU h1 h2) (wU h3 h4)
section
variable{X:Cx}
theorem Qh:OpR X (binaryOp .Mult) (rI IntMulOk fun i j=>.int (i*j)):=opI fun _ _ _ _ _ _ _ hc q=>mul_int q hc
def CDivB(_ j:Int):Prop:=0<j/\j<=10^250
theorem cdivB{i j:Int}(h1:0<j)(h2:j<=10^250):CDivB i j:=⟨h1,h2⟩
theorem qy:OpR X (binaryOp .FloorDiv) (rI CDivB fun i j=>.int (i/j)):=opI fun i j _ _ _ _ _ hc q=>by
 have h1:(0:Int)<j:=hc.1;have h2:j<=10^250:=hc.2;refine floordiv_int (by omega) ?_ (.inl (PyProof.noPylong_of_log2 ?_))
 ·rw[Int.fdiv_eq_ediv_of_nonneg _ (by omega)];exact q
 ·have e:j.natAbs<=10^250:=by omega
  have g:j.natAbs.log2<831:=(Nat.log2_lt (by omega)).mpr (Nat.lt_of_le_of_lt e Xk);omega
theorem yK:CallR X (.builtin "isinstance") (fun xs H Q=>∃x T t b,xs=[x,.ty T]/\TyOf X.K H x t/\PySem.W.kitOne X.K t (.type T)=some b/\Q (.bl b) H):=by
 intro pins s σ H xs us Q I r h;obtain⟨x,T,t,b,rfl,ty,e,q⟩:=h;obtain⟨u,w',rfl,rx,rT⟩:=vals2 r;cases(show w'=Value.type T from rT);exact XL I rx ty e fun tk=>⟨.bl b,H,I.tok _,rfl,q⟩
theorem j03{prog:Program}{w:World}{A:Around}{E:Value->Shared->Prop}{s:Shared}{l:Addr}{xs:Array (Int×Tok)}{Q:Value->Shared->Prop}(hh:A.handled=none)(hl:s.heap.IsList l (intItems xs))
  (h:∀h' tk t',(∀b o,s.heap.get? b=some o->h'.get? b=some o)->Q (.int (preSum (numAt xs) xs.size) t') {s with heap:=h',toks:=tk}) :
  wpAny (model prog w) A (call (.builtin "sum") [.ref l]) Q E s:=by
 obtain⟨o,ho,hc,n,hd⟩:=id hl;have hne:l≠s.heap.objs.size:=Nat.ne_of_lt (Heap.lt_size ho);have hsz:(intItems xs).size=xs.size:=by simp[intItems]
 have W:=(Walks.list (prog:=prog) (w:=w) (A:=A.in1) hh s.heap.objs.size l hne (intItems xs)).toS;rw[hsz]at W;refine call_sum_walkAnyS (wpAny_pyIter_list hl ?_);refine⟨s.heap.objs.size,_,_,_,_,_,_,numAt xs,rfl,W,⟨⟨_,Heap.get?_push_size _ rfl,rfl,rfl⟩,hl.at fun o e=>Heap.get?_push_of_some _ e⟩,fun b hb=>?_,fun i v hP=>intItems_at hP,fun s' t' hm=>?_⟩
 ·rcases mem_cons.mp hb with rfl | hb
  ·exact Heap.lt_size (Heap.get?_push_size _ rfl)
  ·obtain rfl:=mem_singleton.mp hb;exact Heap.lt_size (Heap.get?_push_of_some _ ho)
 ·obtain⟨h',g',d',tk',os'⟩:=s';have e1:g'=s.gens:=hm.gens;have e2:d'=s.drawn:=hm.drawn;have e3:os'=s.os:=hm.os;subst e1 e2 e3;exact h h' tk' t' fun b o e=>hm.heap b o (fun hb=>absurd (Heap.lt_size e) ((mem_singleton.mp hb)▸Nat.lt_irrefl _)) (Heap.get?_push_of_some _ e)
theorem ya(hc:X.calm=true):CallR X (.builtin "sum") (fun xs H Q=>∃(p:Addr) (ns:List Int),xs=[.ref p]/\SqL X.K H p (ns.map V.int)/\Q (.int ns.sum) H):=by
 intro pins s σ H xs us Q I r h;obtain⟨p,ns,rfl,hx,q⟩:=h;obtain⟨u,rfl,rx⟩:=vals1 r;cases rx;obtain⟨its,r',pl,hz⟩:=I.list hx;have hi:IntsAre its ns:=intsAre_of r';obtain⟨ys,hy⟩:=hi.allInts.items;have hn:numsOf its.toArray.toList=ns:=by rw[show its.toArray.toList=its from rfl,hi.numsOf]
 have hl:=pl.isList;rw[hy]at hl hn;rw[nums_intItems]at hn;refine j03 (I.ok.hd hc) hl fun h' tk t' hk=>?_
 rw[preSum_eq,List.take_of_length_le (by simp),hn];exact⟨.int ns.sum,H,I.kept hk,⟨_,rfl⟩,q⟩
end
end L2
namespace Att
open PySem PySem.W PySem.Calls PyProof.Rows
theorem YI:∀(ns:List Int) (x:Int),x∈ns->Builtin.Int.intBits x<=WData.weightAll (ns.map WData.int)
 | [],_,h=>by cases h
 | n::r,x,h=>by
  show _<=WData.weight (.int n)+1+WData.weightAll (r.map WData.int);rcases mem_cons.mp h with e | h
  ·subst e;have e:Builtin.Int.intBits x=WData.weight (.int x):=by
    unfold Builtin.Int.intBits WData.weight;rfl
   omega
  ·have:=YI r x h;omega
theorem KW{l:OpenLaw}{n:Nat}{q:Program}{loose:List Str}{XP:(Str->Option Value)->Heap->Prop}{YP:World->Heap->Prop}{d:DefRec}
  (hn:l.most=some n) (hdf:d.params.defaults=[])
  (call:∀(w:World) (s₀ s₁:Shared) (mg mb:Str->Option Value) (fa:Addr) (o:Obj) (pm cd doc:Value) (a:Addr) (vs:List Value) (ns:List Int),
   Ground q loose [] XP w s₀ mg mb s₁.heap->YP w s₁.heap->
   s₁.heap.get? fa=some o->o.data = .func (docDef d.name d.params d.body d.scope pm cd doc)->s₁.heap.CodeRec cd d.name->mg d.name=some (.ref fa)->
   s₁.heap.get? a=some {cls:=.type "list",data:=.seq vs.toArray}->IntsAre vs ns->ns.length<=n->(∀x∈ns,Builtin.Int.intBits x<=1048576)->s₁.gens = #[]->
   codeAny (model l.prog w) callerA (.call (.ref fa) ⟨[.ref a],[]⟩) (fun r s'=>r = .ok (.ret (.bool true))/\OldK s₁.heap s'.heap/\s'.os=s₁.os/\AllBare s'.gens) s₁) :
  WalkO q loose XP YP l.row.toRowW d [] (fun f vs=>PySem.call f vs):=by
 intro w s₀ s₁ mg mb G Y fa o pm cd doc dV kV ho hd hcd hD hmg hg args vals as hpre hlay hrd hwl hlo;obtain rfl:dV = .none:=Dflts.none hD hdf;obtain rfl:kV = .none:=Dflts.noKw hD;obtain⟨a,vs,ns,rfl,rfl,hobj,hints,hlen⟩:=j01 hn hpre hwl;have hbits:∀x∈ns,Builtin.Int.intBits x<=1048576:=by
  have hw:(WData.list (ns.map WData.int)).weight<=2^20:=(layableW_iff.mp (layW_cons hlay).1).2.2;intro x hx;exact Nat.le_trans (YI ns x hx) hw
 refine enter_call (codeAny_mono (call w s₀ s₁ mg mb fa o pm cd doc a vs ns G Y ho (fd_plain hd) hcd hmg hobj hints hlen hbits hg) fun r s' hq=>?_);obtain⟨rfl,h2,h3,h4⟩:=hq;exact⟨.inl ⟨.bool true,.bool true,[],rfl,fun _=>rfl,.bool true,X8 l _,fun _=>⟨List.Pairwise.nil,fun _ hm=>(nomatch hm)⟩⟩,h2,h3,h4⟩
end Att
namespace L2
open PySem PySem.Spec PyProof.Rows
theorem j10{l:PySem.W.OpenLaw}{n k:Nat}{q:Program}{loose:List Str}{XP:(Str->Option Value)->Heap->Prop}{YP:World->Heap->Prop}{d:DefRec}{K:Params->Frg}{CX:CXT}{sp:Frg->Sp}{x:Str}
  (hn:l.most=some n) (hn2:n<=sizeLine) (hdf:d.params.defaults=[]) (hr:Room k callerA)
  (hY:∀(w:World) (h:Heap),YP w h->(K w.params).In h)
  (F:∀(w:World) (mg:Str->Option Value) (fa:Addr) (h:Heap),(K w.params).In h->h.Ns mainGlobals mg->mg d.name=some (.ref fa)->
   ∃fd:FuncData,(∀(s:Shared) (u:Value),BindsTo s fd ⟨[u],[]⟩ [(x,u)])/\
    ∀base:Heap,(K w.params).In base->base.Ns mainGlobals mg->FnOk l.prog w (K w.params) mg base CX k fa fd [x] (sp (K w.params)))
  (hsp:∀(K:Frg) (H:Hp) (a:Addr) (ns:List Int),ns.length<=n->(∀x∈ns,Builtin.Int.intBits x<=1048576)->Only H->SqL K H a (ns.map V.int)->sp K [.ref a] H (fun v _=>v = .bl true) fun _ _ _=>False)
  (hCX:∀(H:Hp) (s:Shared) (e:Value) (s':Shared),CX [] H s (fun _ _ _=>False) e s'->False) :
  PySem.W.WalkO q loose XP YP l.row.toRowW d [] (fun f vs=>PySem.call f vs):=by
 refine Att.KW hn hdf fun w s₀ s₁ mg mb fa o pm cd doc a vs ns G Y ho hd hcd hmg hobj hints hlen hbits hg=>?_
 have KX:=hY w _ Y;obtain⟨fd,hb,hF⟩:=F w mg fa _ KX G.T.g hmg;exact j0p KX G.T.g G.T.b G.T.builtins G.T.nolimit hg hobj hints (Nat.le_trans hlen hn2) hr hF hb (fun H hO hS=>hsp _ H a ns hlen hbits hO hS) fun H e s'=>hCX H s₁ e s'
section
variable{P:Program}{w:World}{K:Frg}{mg:Str->Option Value}{base:Heap}
end
theorem SP.nx{X:Cx}{pins:List (Addr×Obj)}{D:Ends}{R:St->Hp->Prop}(hR:∀σ' H',R σ' H'->D.nx σ' H'){f:Flow}{s:Shared}(h:SP X pins {D with nx:=R} f s):SP X pins D f s:=by
 cases f with
 | next=>obtain⟨σ',H',I,q⟩:=h;exact⟨σ',H',I,hR _ _ q⟩
 | brk=>exact h
 | cont=>exact h
 | ret u=>exact h
def tIfJ(c:TT)(t u:TS):TS:=fun D σ H=>∃R:St->Hp->Prop,(∀σ' H',R σ' H'->D.nx σ' H')/\tIfS c t u {D with nx:=R} σ H
theorem Qx{X:Cx}{pos:Pos}{t u:TS}{c:Expr}{a b:List Stmt}{tc:TT}(hc:PT X c tc)(ha:PSs X a t)(hb:PSs X b u):PS X (.If c a b pos) (tIfJ tc t u):=by
 intro pins s σ H D I h;obtain⟨R,hR,h⟩:=h;exact thn (jV hc ha hb pins s σ H _ I h) fun f s' q=>q.nx hR
open PySem
theorem qu:bootBuiltins "len"= some (.builtin "len"):=by decide +kernel
theorem K1:bootBuiltins "max"= some (.builtin "max"):=by decide +kernel
theorem j0b:bootBuiltins "min"= some (.builtin "min"):=by decide +kernel
theorem K2:bootBuiltins "sum"= some (.builtin "sum"):=by decide +kernel
theorem Jd:bootBuiltins "isinstance"= some (.builtin "isinstance"):=by decide +kernel
theorem Yj:bootBuiltins "sorted"= some (.builtin "sorted"):=by decide +kernel
theorem WR:bootBuiltins "int"= some (.type "int"):=by decide +kernel
theorem j24:bootBuiltins "str"= some (.type "str"):=by decide +kernel
theorem j18:bootBuiltins "bool"= some (.type "bool"):=by decide +kernel
theorem Z8:bootBuiltins "list"= some (.type "list"):=by decide +kernel
theorem kb:bootBuiltins "tuple"= some (.type "tuple"):=by decide +kernel
theorem j19:bootBuiltins "dict"= some (.type "dict"):=by decide +kernel
theorem K0:bootBuiltins "enumerate"= some (.type "enumerate"):=by decide +kernel
theorem j25:bootBuiltins "zip"= some (.type "zip"):=by decide +kernel
theorem kx(K:Frg)(t:Value)(h:(t==t)=true):PySem.W.kitOne K t t=some true:=by unfold PySem.W.kitOne;rw[if_pos h]
theorem XO(K:Frg){a b:String}{v:Bool}(h0:(Value.type a==Value.type b)=false)(h1:PySem.W.kitMeta b=true)(h2:PySem.W.subIn [] (.type a) (.type b)=some v):PySem.W.kitOne K (.type a) (.type b)=some v:=by
 unfold PySem.W.kitOne;rw[if_neg (by rw[h0];exact Bool.false_ne_true)];show(if PySem.W.kitMeta b=true then _ else _)=_;rw[if_pos h1];exact h2
theorem Ky{K:Frg}:PySem.W.kitOne K (.type "int") (.type "int")=some true:=kx K _ (by decide +kernel)
theorem ku{K:Frg}:PySem.W.kitOne K (.type "int") (.type "bool")=some false:=XO K (by decide +kernel) (by decide +kernel) (by decide +kernel)
theorem XJ{K:Frg}:PySem.W.kitOne K (.type "str") (.type "str")=some true:=kx K _ (by decide +kernel)
theorem Wh{K:Frg}:PySem.W.kitOne K (.type "list") (.type "list")=some true:=kx K _ (by decide +kernel)
section
variable{X:Cx}{tg:Expr}
theorem wL:SlR X (fun x lo hi H Q=>∃z,x = .str z/\z.length<=sizeLine/\Q (.str (Txt.slice z lo hi)) H):=by
 intro pins s σ H x v vl vu lo hi sl Q I rx hs pl pu h;obtain⟨z,rfl,hz,q⟩:=h;obtain⟨t,rfl⟩:=rx;refine⟨"str",_,F.slot_str_getitem.lookup,typeIs_str _ _ _,?_⟩;have fin:∀(lo hi:Option Int),Q (.str (Txt.slice z lo hi)) H->∀t' k,EP X pins σ Q (.str (Txt.slice z lo hi) t') {s with toks:=k}:=fun lo hi q t' k=>⟨.str _,H,I.tok _,⟨_,rfl⟩,q⟩
 cases pl with
 | none=>
  cases pu with
  | none=>exact wpAny_getItem_str_slice (l:=none) (u:=none) (st:=none) hs rfl (post_val_or_str ⟨Nat.le_trans (Txt.slice_le z _ _) hz,fin _ _ q⟩)
  | int j uj=>exact wpAny_getItem_str_slice (l:=none) (u:=some (j,uj)) (st:=none) hs rfl (post_val_or_str ⟨Nat.le_trans (Txt.slice_le z _ _) hz,fin _ _ q⟩)
 | int i ui=>
  cases pu with
  | none=>exact wpAny_getItem_str_slice (l:=some (i,ui)) (u:=none) (st:=none) hs rfl (post_val_or_str ⟨Nat.le_trans (Txt.slice_le z _ _) hz,fin _ _ q⟩)
  | int j uj=>exact wpAny_getItem_str_slice (l:=some (i,ui)) (u:=some (j,uj)) (st:=none) hs rfl (post_val_or_str ⟨Nat.le_trans (Txt.slice_le z _ _) hz,fin _ _ q⟩)
theorem xE{ys:List Str}:∀{us:List Value},Vals (ys.map V.str) us->StrsAre us ys:=by
 induction ys with
 | nil=>intro us r;rw[map_nil]at r;cases r;exact .nil
 | cons n ns ih=>
  intro us r;rw[map_cons]at r;cases r with
  | cons r1 r2=>
   obtain⟨t,e⟩:=r1;subst e;exact .cons n t (ih r2)
theorem j1s:MtR X "str.join" (fun x vs H Q=>∃(z:Str) (p:Addr) (ys:List Str),x = .str z/\vs=[.ref p]/\SqL X.K H p (ys.map V.str)/\(ys.map (·.length)).sum+ys.length*z.length<=16777216/\Q (.str (Txt.join z ys)) H):=by
 intro pins s σ H x vs v us Q I rx rv h;obtain⟨z,p,ys,rfl,rfl,hx,hz,q⟩:=h;obtain⟨t,rfl⟩:=rx;obtain⟨u,rfl,ru⟩:=vals1 rv;cases ru;obtain⟨its,r',pl,_⟩:=I.list hx;exact join_list pl.isList (by simpa using xE r') hz fun t' k=>⟨.str _,H,I.tok _,⟨_,rfl⟩,q⟩
theorem Xz:CallR X (.type "int") (fun xs H Q=>∃(x:Str) (n:Int),xs=[.str x]/\PySem.intText? x=some n/\x.length<=640/\Q (.int n) H):=by
 intro pins s σ H xs us Q I r h;obtain⟨x,n,rfl,e,hl,q⟩:=h;obtain⟨u,rfl,t,rfl⟩:=vals1 r;exact PySem.W.KIN.call_text e hl ⟨.int n,H,I.tok _,⟨_,rfl⟩,q⟩
theorem j1A:OpR X (binaryOp .Mult) (fun x y H Q=>∃(z:Str) (n:Int),x = .str z/\y = .int n/\MulOk z n/\Q (.str (Txt.mul z n)) H):=by
 intro pins s σ H x y v u Q I rx ry h;obtain⟨z,n,rfl,rfl,hk,q⟩:=h;obtain⟨t,rfl⟩:=rx;obtain⟨t',rfl⟩:=ry;exact SB.mul hk fun t' k=>⟨.str _,H,I.tok _,⟨_,rfl⟩,q⟩
theorem rd_str{z:Str}{R:Str->Prop}(h:R z):∃z',V.str z = .str z'/\R z':=⟨z,rfl,h⟩
end
section
variable{X:Cx}{K:Frg}
theorem qR(e:X.K=K):IxR X (rIxL K):=by subst e;exact jo
theorem Xe(e:X.K=K):IxR X (rIxT K):=by subst e;exact jv
theorem ZB(e:X.K=K):OpR X (compareOp .In) (rIn K false):=by subst e;exact X7
theorem Ki(e:X.K=K):OpR X (compareOp .NotIn) (rIn K true):=by subst e;exact wz
end
mutual
inductive DV(H:Hp):V->PyData->Prop
 | non:DV H .non .none
 | bl (b:Bool):DV H (.bl b) (.bool b)
 | int (i:Int):DV H (.int i) (.int i)
 | str (x:Str):DV H (.str x) (.str x)
 | lst {a:Addr} {xs:List V} {ds:List PyData}:H a=some (.lst xs)->DVs H xs ds->DV H (.ref a) (.list ds)
 | tup {a:Addr} {xs:List V} {ds:List PyData}:H a=some (.tup xs)->DVs H xs ds->DV H (.ref a) (.tuple ds)
inductive DVs(H:Hp):List V->List PyData->Prop
 | nil:DVs H [] []
 | cons {x:V} {d:PyData} {xs:List V} {ds:List PyData}:DV H x d->DVs H xs ds->DVs H (x::xs) (d::ds)
end
section
variable{X:Cx}
mutual
theorem zG{pins:List (Addr×Obj)}{s:Shared}{σ:St}{H:Hp}(I:Inv X pins σ H s):∀{v:V} {d:PyData} {u:Value},DV H v d->RelV v u->∃as,Reads s.heap u d as
 | _,_,_,.non,r=>⟨_,by cases r;exact Reads.none⟩
 | _,_,_,.bl b,r=>⟨_,by cases r;exact Reads.bool b⟩
 | _,_,_,.int i,r=>by obtain⟨t,rfl⟩:=r;exact⟨_,Reads.int i t⟩
 | _,_,_,.str x,r=>by obtain⟨t,rfl⟩:=r;exact⟨_,Reads.str x t⟩
 | _,_,_,.lst e q,r=>by
  cases r;obtain⟨_,its,c,rv,he⟩:=I.hok _ _ e;obtain⟨as,ra⟩:=Yo I q rv;exact⟨_,reads_list_at he rfl rfl (by simpa using ra)⟩
 | _,_,_,.tup e q,r=>by
  cases r;obtain⟨its,rv,pl,_⟩:=I.tuple (SqT.of e);obtain⟨o,ho,hc,n,hd⟩:=pl;obtain⟨as,ra⟩:=Yo I q rv;exact⟨_,reads_tuple_at ho hc hd (by simpa using ra)⟩
theorem Yo{pins:List (Addr×Obj)}{s:Shared}{σ:St}{H:Hp}(I:Inv X pins σ H s):∀{vs:List V} {ds:List PyData} {us:List Value},DVs H vs ds->Vals vs us->∃as,ReadsAll s.heap us ds as
 | _,_,_,.nil,r=>by cases r;exact⟨_,ReadsAll.nil⟩
 | _,_,_,.cons a q,r=>by
  cases r with
  | cons r1 r2=>
   obtain⟨as,ra⟩:=zG I a r1;obtain⟨bs,rb⟩:=Yo I q r2;exact⟨_,ReadsAll.cons ra rb⟩
end
theorem xu(hu:X.A.units+64<cLine):OpR X (compareOp .Eq) (fun x y H Q=>∃d e,DV H x d/\DV H y e/\SeqAt.shaped d=true/\SeqAt.shaped e=true/\Q (.bl (PyData.eqv d e)) H):=by
 intro pins s σ H x y v u Q I rx ry h;obtain⟨d,e,hd,he,sd,se,q⟩:=h;obtain⟨as,ra⟩:=zG I hd rx;obtain⟨bs,rb⟩:=zG I he ry;exact eq_dataH ra rb sd se hu ⟨.bl _,H,I,rfl,q⟩
theorem j0B(hu:X.A.units+64<cLine):OpR X (compareOp .NotEq) (fun x y H Q=>∃d e,DV H x d/\DV H y e/\SeqAt.shaped d=true/\SeqAt.shaped e=true/\Q (.bl (!PyData.eqv d e)) H):=by
 intro pins s σ H x y v u Q I rx ry h;obtain⟨d,e,hd,he,sd,se,q⟩:=h;obtain⟨as,ra⟩:=zG I hd rx;obtain⟨bs,rb⟩:=zG I he ry;exact ne_dataH ra rb sd se hu ⟨.bl _,H,I,rfl,q⟩
theorem j0Z{us:List Value}:∀{ns:List Int},IntsAre us ns->Vals (ns.map V.int) us:=by
 induction us with
 | nil=>intro ns r;cases r;exact .nil
 | cons u us ih=>
  intro ns r;cases r with
  | cons n t r=>exact .cons ⟨t,rfl⟩ (ih r)
theorem yL:CallR X (.builtin "sorted") (fun xs H Q=>∃(p:Addr) (ns:List Int),xs=[.ref p]/\SqL X.K H p (ns.map V.int)/\ns.length<64/\∀(l:Addr) (ms:List Int),H l=none->ms.Perm ns->ms.Pairwise (·<=·)->Q (.ref l) (upd H l (.lst (ms.map V.int)))):=by
 intro pins s σ H xs us Q I r h;obtain⟨p,ns,rfl,hx,hn,q⟩:=h;obtain⟨u,rfl,rx⟩:=vals1 r;cases rx;obtain⟨its,r',pl,_⟩:=I.list hx;have hi:=intsAre_of r';have hlen:=r'.length;rw[length_map]at hlen;refine sorted_ints pl.isList hi (by omega) fun out ms ho hp hs=>?_
 obtain⟨e,he⟩:=sortedAll_at s.heap its out;refine⟨.ref (s.heap.objs.size+1),_,I.laid (t':=s.toks) (a:=s.heap.objs.size+1) (o:=.lst (ms.map V.int)) (fun b o hb=>sortedAll_old hb) (Nat.le_succ _) ?_,rfl,q _ ms (I.hok.fresh (Nat.le_succ _)) hp hs⟩;have hml:ms.length=ns.length:=hp.length_eq;exact⟨by rw[length_map,hml];exact Nat.le_trans (Nat.le_of_lt hn) (by decide),out.toList,e,j0Z ho,by simpa using he⟩
theorem Yk(hc:X.calm=true):CallR X (.builtin "max") (fun xs H Q=>∃(p:Addr) (ns:List Int),xs=[.ref p]/\SqL X.K H p (ns.map V.int)/\0<ns.length/\∀m∈ns,(∀a∈ns,a<=m)->Q (.int m) H):=by
 intro pins s σ H xs us Q I r h;obtain⟨p,ns,rfl,hx,hne,q⟩:=h;obtain⟨u,rfl,rx⟩:=vals1 r;cases rx;obtain⟨its,r',pl,_⟩:=I.list hx;have hi:=intsAre_of r';have hl:=pl.isList;obtain⟨xs,e⟩:=hi.allInts.items;have hns:ns=xs.toList.map (·.1):=by rw[<-hi.numsOf,<-nums_intItems,<-e]
 have hsz:0<xs.size:=by
  have h3:=hne;rw[hns,length_map,Array.length_toList]at h3;exact h3
 rw[e]at hl;refine max_intList (I.ok.hd hc) hl hsz fun v h' tk hv hk=>?_
 obtain⟨t,rfl⟩:=intItems_at hv;obtain⟨h1,h2⟩:=argBest_gt (numAt xs) (xs.size-1);refine⟨.int _,H,I.kept (t':=tk) hk,⟨_,rfl⟩,q _ ?_ fun a ha=>?_⟩
 ·rw[hns,numAt_eq];exact getD_mem (by rw[length_map,Array.length_toList];omega)
 ·rw[hns]at ha;obtain⟨j,hj,rfl⟩:=mem_getD ha;rw[length_map,Array.length_toList]at hj;rw[<-numAt_eq];exact h2 j (by omega)
end
section
variable{σ:St}{H:Hp}{Q:VK}
theorem rd_dget{td ty:TE}(h:td σ H fun x H1=>ty σ H1 fun y H2=>∃a v,x = .ref a/\DGet H2 a y (some v)/\Q v H2):tDGet td ty σ H Q:=h
theorem j1F{trs:List (TE×TE)}(h:∀p,H p=none->tPairs trs σ (upd H p (.dK [])) fun ps H2=>H2 p=some (.dK [])/\∃kvs:List (Key×V),ps=kvs.map (fun kv=>(kV kv.1,kv.2))/\kvs.length<=15/\Q (.ref p) (upd H2 p (.dK (mergeK [] kvs)))):tDisp trs σ H Q:=h
theorem rd_prN{R:List (V×V)->Hp->Prop}(h:R [] H):tPairs [] σ H R:=h
theorem rd_prC{tk tv:TE}{r:List (TE×TE)}{R:List (V×V)->Hp->Prop}(h:tk σ H fun x H1=>tv σ H1 fun y H2=>tPairs r σ H2 fun ps H3=>R ((x,y)::ps) H3):tPairs ((tk,tv)::r) σ H R:=h
end
def TabK(K:Frg)(a:Addr)(D:List (Str×PyProof.Rows.KTD.Dat)):Prop:=PyProof.Rows.KTD.tabLook (PyProof.Rows.KTD.datLooks fun b=>K.lookup b) (fun b=>K.lookup b) a D=true
section
variable{X:Cx}
theorem j2q:OpR X (compareOp .In) (fun x y H Q=>∃a k D,x = .str k/\y = .ref a/\TabK X.K a D/\Q (.bl (PyProof.Rows.KTD.inKeys k D)) H):=by
 intro pins s σ H x y v u Q I rx ry h;obtain⟨a,k,D,rfl,rfl,T,q⟩:=h;obtain⟨t,rfl⟩:=rx;cases ry;exact PyProof.Rows.KTD.in_text (h₀:=s.heap) ⟨PySem.W.kt_text_in I.kIn T,fun _ _ e=>e⟩ ⟨.bl _,H,I.tok _,rfl,q⟩
end
theorem ZQ{K:Frg}{a:Addr}{xs:List V}{k:Nat}{ci:List Nat}{g:TG}{tf:TT}{te:TE}{σ:St}{H:Hp}{Z:Addr->List V->Hp->Prop}(Pv:Nat->List V->Hp->Prop)(h0:Pv 0 [] H)(hl:∀i ys H,i<=xs.length->Pv i ys H->SqT K H a xs)
  (hs:∀i x ys H,xs[i]?=some x->Pv i ys H->g x (capS k ci σ) H fun σ2 H2=>tf σ2 H2 fun b H3=>if b=true then te σ2 H3 fun v H4=>ys.length<sizeLine/\Pv (i+1) (ys++[v]) H4 else Pv (i+1) ys H3)
  (hd:∀ys H,Pv xs.length ys H->ys.length<=sizeLine/\∀p,H p=none->Z p ys H) :
  ∃W:Nat->Nat->List V->Hp->Prop,(∃m,W 0 m [] H)/\∀i m ys H,W i m ys H->
   ((Itt K a).stop i H/\ys.length<=sizeLine/\∀p,H p=none->Z p ys H)\/
   ((Itt K a).go i H/\∃N:List V->Hp->Prop,(∀ys' H',N ys' H'->∃m',m'<m/\W (i+1) m' ys' H')/\∀x H',(Itt K a).yld i H x H'->g x (capS k ci σ) H' fun σ2 H2=>tf σ2 H2 fun b H3=>
    if b=true then te σ2 H3 fun v H4=>ys.length<sizeLine/\N (ys++[v]) H4 else N ys H3):=by
 refine⟨fun i m ys H=>m=xs.length-i/\i<=xs.length/\Pv i ys H,⟨xs.length,by simp,Nat.zero_le _,h0⟩,?_⟩;rintro i m ys H ⟨rfl,hi,p⟩;have q:=hl i ys H hi p;by_cases hlt:i<xs.length
 ·refine .inr ⟨⟨xs,xs[i],q,by simp[hlt]⟩,Pv (i+1),fun ys' H' p'=>⟨xs.length-(i+1),by omega,rfl,hlt,p'⟩,fun x H' y=>?_⟩;obtain⟨e,y⟩:=y;subst e;exact hs i x ys _ (y xs q) p
 ·have e:i=xs.length:=by omega
  subst e;exact .inl ⟨⟨xs,q,Nat.le_refl _⟩,hd ys H p⟩
theorem rd_iTup{K:Frg}{te:TE}{σ:St}{H:Hp}{R:It->Hp->Prop}(h:te σ H fun x H1=>∃a,x = .ref a/\(∃xs,SqT K H1 a xs)/\R (Itt K a) H1):iTup K te σ H R:=h
theorem zL{K:Frg}{i j:Nat}{a:Addr}{x y:V}{σ:St}{H:Hp}{R:St->Hp->Prop}(e:SqT K H a [x,y])(h:gName i x σ H fun σ' H'=>gName j y σ' H' R):gTup K 2 (gCons (gName i) (gCons (gName j) gNil)) (.ref a) σ H R:=
 ⟨a,[x,y],rfl,e,rfl,x,[y],rfl,y,[],rfl,rfl,h⟩
theorem rd_sub{to ti:TE}{t:TSet}{v:V}{σ:St}{H:Hp}{R:St->Hp->Prop}(h:to σ H fun o H1=>ti σ H1 fun i H2=>t o i v H2 fun H3=>R σ H3):gSub to ti t v σ H R:=h
theorem rd_dnew{σ:St}{H:Hp}{Q:VK}(h:∀p,H p=none->Q (.ref p) (upd H p (.dK []))):tDNewK σ H Q:=h
theorem rd_dput{td ty tv:TE}{σ:St}{H:Hp}{D:Ends}(h:tv σ H fun v H1=>td σ H1 fun x H2=>ty σ H2 fun y H3=>∃a H4,x = .ref a/\DPut H3 a y v H4/\D.nx σ H4):sDPut td ty tv D σ H:=h
theorem rd_bm0{K:Frg}{T:String}{r:V->List V->Hp->VK->Prop}{to:TE}{σ:St}{H:Hp}{Q:VK}(h:to σ H fun x H1=>tyV K T x H1/\r x [] H1 Q):tBM0 K T r to σ H Q:=h
section
variable{X:Cx}{pins:List (Addr×Obj)}{σ:St}{H:Hp}{s:Shared}{h':Heap}
theorem Inv.turnedL{t':Nat}{ch:List Addr}(I:Inv X pins σ H s)(hf:∀b∈ch,FpOk X pins H b)(k:∀b o,b∉ch->s.heap.get? b=some o->h'.get? b=some o):Inv X pins σ H {s with heap:=h',toks:=t'}:=by
 have nit:∀b u,H b=some u->b∉ch:=fun b u e z=>by rw[(hf b z).1]at e;cases e
 refine I.step (g':=s.gens) (d':=s.drawn) (ch:=ch) (fun b hb=>?_) (fun b o _ _ hc e _=>k b o hc e) (fun b o _ _ hc e _=>⟨o.slots,k b o hc e⟩) (fun _ _ _ _ n=>n)
  (fun b o hc e=>⟨o,k b o hc e⟩) (fun _ _ e=>e) (fun _ _ _ e=>e) (fun b ps e=>⟨#[],by rw[e];simp⟩) (fun m hm=>?_) (fun b u e=>?_) I.bare
 ·obtain⟨_,f1,_,f3,f4,f5⟩:=hf b hb;exact⟨f3,f1,f4,f5⟩
 ·obtain⟨o,es,ep,ho,r⟩:=hm;exact⟨o,es,ep,k _ o (fun z=>(hf _ z).2.1 rfl) ho,r⟩
 ·refine(I.hok b u e).stay (fun c v hc q=>k c v ?_ q) (fun _ q=>q) fun _ _ q=>q
  rcases hc with z | z
  ·rw[z];exact nit b u e
  ·exact nit c _ z
theorem Inv.pair{t':Nat}{ch:List Addr}{x y:V}{u v:Value}(I:Inv X pins σ H s)(hf:∀b∈ch,FpOk X pins H b)(hl:∀b∈ch,b<s.heap.objs.size)(rx:RelV x u)(ry:RelV y v)
  (hT:h'.get? s.heap.objs.size=some {cls:=.type "tuple",data:=.seq #[u,v]}) (k:∀b o,b∉ch->s.heap.get? b=some o->h'.get? b=some o) :
  Inv X pins σ (upd H s.heap.objs.size (.tup [x,y])) {s with heap:=h',toks:=t'}/\∀b∈ch,FpOk X pins (upd H s.heap.objs.size (.tup [x,y])) b:=by
 have f:∀b∈ch,FpOk X pins (upd H s.heap.objs.size (.tup [x,y])) b:=fun b hb=>⟨(jh (Nat.ne_of_lt (hl b hb))).trans (hf b hb).1,(hf b hb).2⟩
 have I1:Inv X pins σ (upd H s.heap.objs.size (.tup [x,y])) {s with heap:=s.heap.push {cls:=.type "tuple",data:=.seq #[u,v]},toks:=t'}:=
  I.laid (t':=t') (fun b o e=>Heap.get?_push_of_some _ e) (Nat.le_refl _) (show ObjOk X.prog X.w _ _ _ (.tup [x,y])from⟨(by show 2<=sizeLine;decide),[u,v],.cons rx (.cons ry .nil),IsTup.new _ _⟩)
 refine⟨I1.turnedL (h':=h') (t':=t') f fun b o hb e=>?_,f⟩;rcases Heap.get?_push_cases e with⟨rfl,rfl⟩ | e
 ·exact hT
 ·exact k b o hb e
end
def Ite(K:Frg)(a:Addr):It:=
 ⟨fun i H=>∃xs x,SqL K H a xs/\xs[i]?=some x,fun i H x H'=>∃T v,x = .ref T/\H T=none/\H'=upd H T (.tup [.int i,v])/\∀xs,SqL K H a xs->xs[i]?=some v,fun i H=>∃xs,SqL K H a xs/\xs.length<=i⟩
theorem j05{P:Program}{w:World}{K:Frg}{elts:List Expr}{k:Nat}{pos:Pos}(a e it:Addr)(hne:e≠it) :
  Turn P w K (.Tuple elts k pos) (Ite K a) [e,it] e (fun i h=>(∃old,IsEnum h e it ((i:Nat):Int) old)/\h.IsListIter it a i) where
 mem:=by simp
 obj:=fun i h st b hb=>by
  rcases(by simpa using hb:b=e\/b=it)with rfl | rfl
  ·obtain⟨old,he⟩:=st.1;exact⟨_,he,fun v z=>by cases z⟩
  ·obtain⟨o,e,c,d⟩:=st.2;exact⟨o,e,fun v z=>by rw[d]at z;cases z⟩
 keep:=fun i h h' st k=>⟨let ⟨old,he⟩:=st.1;⟨old,k e (by simp) _ he⟩,st.2.at fun o q=>k it (by simp) o q⟩
 item:=by
  intro X hP hw hK hc i pins s σ H E I hf st hg;subst hP hw hK;obtain⟨xs,x,hq,hx⟩:=hg;obtain⟨its,rv,p,hz⟩:=I.list hq;obtain⟨u,hu,ru⟩:=rv.get hx;obtain⟨⟨old,he⟩,hit⟩:=st;have le:e<s.heap.objs.size:=Heap.lt_size he;have li:it<s.heap.objs.size:=by obtain⟨o,q,_⟩:=id hit;exact Heap.lt_size q
  refine wpAny_pyNext_enum_item he hit p.isList (x:=u) (by simpa using hu) hne fun h' ho hit' hT hsz hk=>?_
  obtain⟨I1,f1⟩:=I.pair (t':=s.toks+1) (ch:=[e,it]) (x:=.int i) (y:=x) hf (fun b hb=>by rcases(by simpa using hb:b=e\/b=it)with rfl | rfl<;>assumption) ⟨s.toks,rfl⟩ ru hT
   (fun b o hb q=>hk b o (fun z=>hb (by simp[z])) (fun z=>hb (by simp[z])) q)
  refine⟨_,rfl,wpAny_letOwnedTupleGo_enum ho fun h2 he2 sb=>?_⟩;have I2:=I1.turnedL (h':=h2) (t':=s.toks+1) (ch:=[e,it]) f1 fun b o hb q=>(sb.2 b fun z=>hb (by simp[z])).trans q
  exact⟨.ref s.heap.objs.size,_,I2,rfl,⟨_,x,rfl,I.hok.fresh (Nat.le_refl _),rfl,fun ys hy=>by rw[I.list_inj hy hq];exact hx⟩,
   ⟨⟨u,by simpa using he2⟩,hit'.at fun o q=>(sb.2 it hne.symm).trans q⟩,fun b hb=>(f1 b hb).1⟩
 done:=by
  intro X hP hw hK hc i pins s σ H E I hf st hg;subst hP hw hK;obtain⟨xs,hq,hx⟩:=hg;obtain⟨its,rv,p,hz⟩:=I.list hq;obtain⟨⟨old,he⟩,hit⟩:=st;have hl:=rv.length;exact wpAny_pyNext_enum_end (I.ok.hd hc) he hit p.isList (by simp;omega) fun h' eb=>⟨rfl,I.turnedL (t':=s.toks) (ch:=[e,it]) hf fun b o hb q=>eb b o (fun z=>hb (by simp[z])) q⟩
 self:=fun _ _ _ _ _ st h=>let ⟨_,he⟩:=st.1;wpAny_pyIter_enum he h
def iEnum(K:Frg)(ta:TA):TI:=fun σ H R=>ta σ H fun vs H1=>∃a xs,vs=[.ref a]/\SqL K H1 a xs/\R (Ite K a) H1
theorem yX{X:Cx}{a:Expr}{ta:TA}{elts:List Expr}{k:Nat}{p pos pos':Pos}(hg:Gl X "enumerate")(hm:X.mg "enumerate"= none)(ha:PA X [a] ta)(hs:starEach [a] X.env=[(false,eval a X.env)]:=by rfl) :
  PI X (.Tuple elts k pos') (.Call (.Name "enumerate" p) [a] [] pos) (iEnum X.K ta):=by
 intro pins s σ H R I h;refine Call_ (Yq I hg hm K0 (PyProof.Rows.callWith_type1 (thn (ha pos pins s σ H _ I h) fun us s1 ⟨vs,H1,I1,r1,q1⟩=>?_) hs rfl));obtain⟨b,xs,rfl,hq,q⟩:=q1;obtain⟨u,rfl,ru⟩:=vals1 r1;cases ru;obtain⟨its,rv,p,hz⟩:=I1.list hq;refine call_enumerate_list p.isList fun h' he hit hsz hk=>?_
 refine wpAny_pyIter_enum he ?_;refine⟨s1.heap.objs.size+1,[s1.heap.objs.size+1,s1.heap.objs.size],_,_,H1,rfl,I1.kept (t':=s1.toks) hk,j05 b _ _ (Nat.succ_ne_self _),⟨⟨_,by simpa using he⟩,hit⟩,fun c hc=>?_,q⟩;rcases(by simpa using hc:c=s1.heap.objs.size+1\/c=s1.heap.objs.size)with rfl | rfl
 ·exact I1.fpOk (Nat.le_succ _) (I1.hok.fresh (Nat.le_succ _))
 ·exact I1.fpOk (Nat.le_refl _) (I1.hok.fresh (Nat.le_refl _))
theorem kr{K:Frg}{a:Addr}{xs:List V}{g:TG}{tb:TS}{D:Ends}{σ:St}{H:Hp}(Pv:Nat->St->Hp->Prop)(h0:Pv 0 σ H)(hl:∀i σ H,i<=xs.length->Pv i σ H->SqL K H a xs)
  (hs:∀i v σ H T H',xs[i]?=some v->Pv i σ H->Same H H'->H' T=some (.tup [.int i,v])->g (.ref T) σ H' fun σ2 H2=>tb {D with nx:=Pv (i+1),ct:=Pv (i+1),bk:=D.nx} σ2 H2) (hd:∀σ H,Pv xs.length σ H->D.nx σ H) :
  ∃W:Nat->Nat->St->Hp->Prop,(∃m,W 0 m σ H)/\∀i m σ H,W i m σ H->
   ((Ite K a).stop i H/\D.nx σ H)\/((Ite K a).go i H/\∃N:St->Hp->Prop,(∀σ' H',N σ' H'->∃m',m'<m/\W (i+1) m' σ' H')/\∀x H',(Ite K a).yld i H x H'->g x σ H' fun σ2 H2=>tb {D with nx:=N,ct:=N,bk:=D.nx} σ2 H2):=by
 refine⟨fun i m σ H=>m=xs.length-i/\i<=xs.length/\Pv i σ H,⟨xs.length,by simp,Nat.zero_le _,h0⟩,?_⟩;rintro i m σ H ⟨rfl,hi,p⟩;have q:=hl i σ H hi p;by_cases hlt:i<xs.length
 ·refine .inr ⟨⟨xs,xs[i],q,by simp[hlt]⟩,Pv (i+1),fun σ' H' p'=>⟨xs.length-(i+1),by omega,rfl,hlt,p'⟩,fun x H' y=>?_⟩;obtain⟨T,v,rfl,hT,e,y⟩:=y;exact hs i v σ H T H' (y xs q) p (fun b o h=>by rw[e,jh (jf h hT)];exact h) (by rw[e];exact jg)
 ·have e:i=xs.length:=by omega
  subst e;exact .inl ⟨⟨xs,q,Nat.le_refl _⟩,hd σ H p⟩
theorem rd_iEnum{K:Frg}{ta:TA}{σ:St}{H:Hp}{R:It->Hp->Prop}(h:ta σ H fun vs H1=>∃a xs,vs=[.ref a]/\SqL K H1 a xs/\R (Ite K a) H1):iEnum K ta σ H R:=h
def Itz(K:Frg)(a b:Addr):It:=
 ⟨fun i H=>∃xs x ys y,SqL K H a xs/\xs[i]?=some x/\SqL K H b ys/\ys[i]?=some y,
  fun i H x H'=>∃T u v,x = .ref T/\H T=none/\H'=upd H T (.tup [u,v])/\(∀xs,SqL K H a xs->xs[i]?=some u)/\∀ys,SqL K H b ys->ys[i]?=some v,
  fun i H=>∃xs ys,SqL K H a xs/\SqL K H b ys/\(xs.length<=i\/ys.length<=i)⟩
theorem Ql{h:Heap}{a b:Addr}{o u:Obj}(h1:h.get? a=some o)(h2:h.get? b=some u)(hc:o.cls≠u.cls):a≠b:=fun e=>by
 subst e;rw[h1]at h2;cases h2;exact hc rfl
theorem j0V{P:Program}{w:World}{K:Frg}{elts:List Expr}{k:Nat}{pos:Pos}(l1 l2 z TI TO i1 i2:Addr)
  (D:∀l1 l2,l1≠z->l1≠TO->l1≠i1->l1≠i2->l2≠z->l2≠TO->l2≠i1->l2≠i2->ZipApart z TI TO i1 i2 l1 l2) :
  Turn P w K (.Tuple elts k pos) (Itz K l1 l2) [z,TI,TO,i1,i2] z (fun i h=>IsZip h z TI TO .none/\IsPair h TI (.ref i1) (.ref i2)/\(∃a b,IsPair h TO a b)/\h.IsListIter i1 l1 i/\h.IsListIter i2 l2 i) where
 mem:=by simp
 obj:=fun i h st b hb=>by
  obtain⟨hz,hTI,⟨a,c,hTO⟩,h1,h2⟩:=st;rcases(by simpa using hb:b=z\/b=TI\/b=TO\/b=i1\/b=i2)with rfl | rfl | rfl | rfl | rfl
  ·exact⟨_,hz,fun v z=>by cases z⟩
  ·exact⟨_,hTI,fun v z=>by cases z⟩
  ·exact⟨_,hTO,fun v z=>by cases z⟩
  ·obtain⟨o,e,c,d⟩:=h1;exact⟨o,e,fun v z=>by rw[d]at z;cases z⟩
  ·obtain⟨o,e,c,d⟩:=h2;exact⟨o,e,fun v z=>by rw[d]at z;cases z⟩
 keep:=fun i h h' st k=>by
  obtain⟨hz,hTI,⟨a,c,hTO⟩,h1,h2⟩:=st;exact⟨k z (by simp) _ hz,k TI (by simp) _ hTI,⟨a,c,k TO (by simp) _ hTO⟩,h1.at fun o q=>k i1 (by simp) o q,h2.at fun o q=>k i2 (by simp) o q⟩
 item:=by
  intro X hP hw hK hc i pins s σ H E I hf st hg;subst hP hw hK;obtain⟨xs,x,ys,y,hq,hx,hr,hy⟩:=hg;obtain⟨its,rv,p,_⟩:=I.list hq;obtain⟨jts,rw',p',_⟩:=I.list hr;obtain⟨u,hu,ru⟩:=rv.get hx;obtain⟨v,hv,rv'⟩:=rw'.get hy;obtain⟨hz,hTI,⟨a,c,hTO⟩,h1,h2⟩:=st;obtain⟨o1,n1,e1,c1,_⟩:=id p;obtain⟨o2,n2,e2,c2,_⟩:=id p';obtain⟨o3,e3,c3,_⟩:=id h1;obtain⟨o4,e4,c4,_⟩:=id h2;have D':=D l1 l2 (Ql e1 hz (by rw[c1];show Value.type "list"≠Value.type "zip";decide)) (Ql e1 hTO (by rw[c1];show Value.type "list"≠Value.type "tuple";decide)) (Ql e1 e3 (by rw[c1,c3];decide)) (Ql e1 e4 (by rw[c1,c4];decide))
   (Ql e2 hz (by rw[c2];show Value.type "list"≠Value.type "zip";decide)) (Ql e2 hTO (by rw[c2];show Value.type "list"≠Value.type "tuple";decide)) (Ql e2 e3 (by rw[c2,c3];decide)) (Ql e2 e4 (by rw[c2,c4];decide))
  have lt:∀b∈[z,TI,TO,i1,i2],b<s.heap.objs.size:=fun b hb=>by
   rcases(by simpa using hb:b=z\/b=TI\/b=TO\/b=i1\/b=i2)with rfl | rfl | rfl | rfl | rfl
   ·exact Heap.lt_size hz
   ·exact Heap.lt_size hTI
   ·exact Heap.lt_size hTO
   ·exact Heap.lt_size e3
   ·exact Heap.lt_size e4
  refine wpAny_pyNext_zip_item D' hz hTI hTO h1 h2 p.isList p'.isList (x:=u) (y:=v) (by simpa using hu) (by simpa using hv) fun h' a1 a2 a3 a4 a5 a6 hk=>?_
  obtain⟨I1,f1⟩:=I.pair (t':=s.toks) (ch:=[z,TI,TO,i1,i2]) (x:=x) (y:=y) hf lt ru rv' a5
   (fun b o hb q=>hk b o (fun e=>hb (by simp[e])) (fun e=>hb (by simp[e])) (fun e=>hb (by simp[e])) (fun e=>hb (by simp[e])) q)
  refine⟨_,rfl,wpAny_letOwnedTupleGo_zip a1 fun h3 hz3 sb=>?_⟩;have I2:=I1.turnedL (h':=h3) (t':=s.toks) (ch:=[z,TI,TO,i1,i2]) f1 fun b o hb q=>(sb.2 b fun e=>hb (by simp[e])).trans q
  exact⟨.ref s.heap.objs.size,_,I2,rfl,⟨_,x,y,rfl,I.hok.fresh (Nat.le_refl _),rfl,(fun ys hy=>by rw[I.list_inj hy hq];exact hx),fun ys hy'=>by rw[I.list_inj hy' hr];exact hy⟩,
   ⟨hz3,(sb.2 TI D'.TIz).trans (hk TI _ D'.TIz D'.TITO D'.TIi1 D'.TIi2 hTI),⟨_,_,(sb.2 TO D'.TOz).trans a2⟩,a3.at fun o q=>(sb.2 i1 D'.i1z).trans q,a4.at fun o q=>(sb.2 i2 D'.i2z).trans q⟩,fun b hb=>(f1 b hb).1⟩
 done:=by
  intro X hP hw hK hc i pins s σ H E I hf st hg;subst hP hw hK;obtain⟨xs,ys,hq,hr,hl⟩:=hg;obtain⟨its,rv,p,_⟩:=I.list hq;obtain⟨jts,rw',p',_⟩:=I.list hr;obtain⟨hz,hTI,⟨a,c,hTO⟩,h1,h2⟩:=st;obtain⟨o1,n1,e1,c1,_⟩:=id p;obtain⟨o2,n2,e2,c2,_⟩:=id p';obtain⟨o3,e3,c3,_⟩:=id h1;obtain⟨o4,e4,c4,_⟩:=id h2;have D':=D l1 l2 (Ql e1 hz (by rw[c1];show Value.type "list"≠Value.type "zip";decide)) (Ql e1 hTO (by rw[c1];show Value.type "list"≠Value.type "tuple";decide)) (Ql e1 e3 (by rw[c1,c3];decide)) (Ql e1 e4 (by rw[c1,c4];decide))
   (Ql e2 hz (by rw[c2];show Value.type "list"≠Value.type "zip";decide)) (Ql e2 hTO (by rw[c2];show Value.type "list"≠Value.type "tuple";decide)) (Ql e2 e3 (by rw[c2,c3];decide)) (Ql e2 e4 (by rw[c2,c4];decide))
  have l1':=rv.length;have l2':=rw'.length;refine wpAny_pyNext_zip_end (I.ok.hd hc) D' hz hTI hTO h1 h2 p.isList p'.isList ?_ fun h' hk=>⟨rfl,I.turnedL (t':=s.toks) (ch:=[z,TI,TO,i1,i2]) hf fun b o hb q=>hk b o (fun e=>hb (by simp[e])) (fun e=>hb (by simp[e])) (fun e=>hb (by simp[e])) (fun e=>hb (by simp[e])) q⟩
  rcases hl with q | q
  ·exact .inl (by simp;omega)
  ·exact .inr (by simp;omega)
 self:=fun _ _ _ _ _ st h=>wpAny_pyIter_zip st.1 h
theorem Zc{n i j:Nat}(h:i≠j):n+i≠n+j:=fun e=>h (Nat.add_left_cancel e)
def iZip(K:Frg)(ta:TA):TI:=fun σ H R=>ta σ H fun vs H1=>∃a b xs ys,vs=[.ref a,.ref b]/\SqL K H1 a xs/\SqL K H1 b ys/\R (Itz K a b) H1
theorem j2x{X:Cx}{a b:Expr}{ta:TA}{elts:List Expr}{k:Nat}{p pos pos':Pos}(hg:Gl X "zip")(hm:X.mg "zip"= none)(ha:PA X [a,b] ta)(hs:starEach [a,b] X.env=[(false,eval a X.env),(false,eval b X.env)]:=by rfl)(hs2:starEach [b] X.env=[(false,eval b X.env)]:=by rfl) :
  PI X (.Tuple elts k pos') (.Call (.Name "zip" p) [a,b] [] pos) (iZip X.K ta):=by
 intro pins s σ H R I h;refine Call_ (Yq I hg hm j25 (PyProof.Rows.callWith_type1 (thn (ha pos pins s σ H _ I h) fun us s1 ⟨vs,H1,I1,r1,q1⟩=>?_) (by rw[hs,hs2]) (by rw[hs2];rfl)));obtain⟨l1,l2,xs,ys,rfl,hq,hr,q⟩:=q1;cases r1 with
 | cons r rr=>
  cases rr with
  | cons r' rr=>
   cases rr;cases r;cases r';obtain⟨its,rv,p,hz⟩:=I1.list hq;obtain⟨jts,rw',p',hz'⟩:=I1.list hr;refine call_zip_2 p.isList p'.isList fun h' a1 a2 a3 a4 a5 a6 hk=>?_
   refine wpAny_pyIter_zip a1 ?_;refine⟨s1.heap.objs.size+4,[s1.heap.objs.size+4,s1.heap.objs.size+2,s1.heap.objs.size+3,s1.heap.objs.size,s1.heap.objs.size+1],_,_,H1,rfl,I1.kept (t':=s1.toks) hk,
    j0V l1 l2 _ _ _ _ _ (fun l1 l2 b1 b2 b3 b4 b5 b6 b7 b8=>⟨Zc (by decide),Zc (by decide),Zc (i:=0) (by decide),Zc (by decide),Zc (by decide),Zc (j:=0) (by decide),Zc (by decide),Zc (j:=0) (by decide),Zc (by decide),Zc (i:=0) (by decide),b1,b2,b3,b4,b5,b6,b7,b8⟩),⟨a1,a2,⟨_,_,a3⟩,a4,a5⟩,fun c hc=>?_,q⟩
   have hc':s1.heap.objs.size<=c:=by
    rcases(by simpa using hc:c=s1.heap.objs.size+4\/c=s1.heap.objs.size+2\/c=s1.heap.objs.size+3\/c=s1.heap.objs.size\/c=s1.heap.objs.size+1)with rfl | rfl | rfl | rfl | rfl<;>omega
   exact I1.fpOk hc' (I1.hok.fresh hc')
theorem j1g{K:Frg}{a b:Addr}{xs ys:List V}{g:TG}{tb:TS}{D:Ends}{σ:St}{H:Hp}(Pv:Nat->St->Hp->Prop)(hlen:xs.length=ys.length)(h0:Pv 0 σ H)(hl:∀i σ H,i<=xs.length->Pv i σ H->SqL K H a xs/\SqL K H b ys)
  (hs:∀i u v σ H T H',xs[i]?=some u->ys[i]?=some v->Pv i σ H->Same H H'->H' T=some (.tup [u,v])->g (.ref T) σ H' fun σ2 H2=>tb {D with nx:=Pv (i+1),ct:=Pv (i+1),bk:=D.nx} σ2 H2) (hd:∀σ H,Pv xs.length σ H->D.nx σ H) :
  ∃W:Nat->Nat->St->Hp->Prop,(∃m,W 0 m σ H)/\∀i m σ H,W i m σ H->
   ((Itz K a b).stop i H/\D.nx σ H)\/((Itz K a b).go i H/\∃N:St->Hp->Prop,(∀σ' H',N σ' H'->∃m',m'<m/\W (i+1) m' σ' H')/\∀x H',(Itz K a b).yld i H x H'->g x σ H' fun σ2 H2=>tb {D with nx:=N,ct:=N,bk:=D.nx} σ2 H2):=by
 refine⟨fun i m σ H=>m=xs.length-i/\i<=xs.length/\Pv i σ H,⟨xs.length,by simp,Nat.zero_le _,h0⟩,?_⟩;rintro i m σ H ⟨rfl,hi,p⟩;obtain⟨q,q'⟩:=hl i σ H hi p;by_cases hlt:i<xs.length
 ·refine .inr ⟨⟨xs,xs[i],ys,ys[i],q,by simp[hlt],q',by simp⟩,Pv (i+1),fun σ' H' p'=>⟨xs.length-(i+1),by omega,rfl,hlt,p'⟩,fun x H' y=>?_⟩;obtain⟨T,u,v,rfl,hT,e,y,y'⟩:=y;exact hs i u v σ H T H' (y xs q) (y' ys q') p (fun b o h=>by rw[e,jh (jf h hT)];exact h) (by rw[e];exact jg)
 ·have e:i=xs.length:=by omega
  subst e;exact .inl ⟨⟨xs,ys,q,q',.inl (Nat.le_refl _)⟩,hd σ H p⟩
theorem rd_iZip{K:Frg}{ta:TA}{σ:St}{H:Hp}{R:It->Hp->Prop}(h:ta σ H fun vs H1=>∃a b xs ys,vs=[.ref a,.ref b]/\SqL K H1 a xs/\SqL K H1 b ys/\R (Itz K a b) H1):iZip K ta σ H R:=h
theorem Ku:entryFor table "dict.update.loop"= some Builtin.«dict.update.loop»:=entryFor_of_tree (by kernel_rfl)
theorem yd:plainId "dict.update.loop"= true:=by decide +kernel
theorem XZ:typeLookup (.type "list") "keys"= pure none:=by rw[typeLookup_type,builtinLookup_eq_fast];kernel_rfl
section
variable{prog:Program}{w:World}{A:Around}{E:Value->Shared->Prop}{s:Shared}
theorem noKeys{a:Addr}{o:Obj}{xs:Array Value}{k:Nat}{Q:Option Value->Shared->Prop}(hx:s.heap.get? a=some o)(hc:o.cls = .type "list")(hdat:o.data = .seq xs k)(hd:o.dict=none)(hA:A.handled=none)
  (h:∀h' tk,(∀b o,s.heap.get? b=some o->h'.get? b=some o)->Q none {s with heap:=h',toks:=tk}):wpAny (model prog w) A (getAttr? (.ref a) "keys") Q E s:=by
 obtain⟨c,dct,dat,sl⟩:=o;simp only at hc hdat hd;subst hc hdat hd;obtain⟨hp,g,d,tk,os⟩:=s;have hT:∀tk',(⟨hp,g,d,tk',os⟩:Shared).TypeIs (.ref a) "list":=fun _=>⟨_,hx,rfl⟩
 have f1:=sub_AttributeError;have f3:=F.slot_list_getattribute.lookup;have f4:=F.slot_list_getattribute.bind (.ref a);have f5:=am_list_getattr_none;unfold getAttr? getAttrBy? getAttrBy
 repeat (any_goals (first | assumption | exact hT _ | ((with_reducible show wpAny _ _ (call (Value.builtin "list.__getattribute__") _ _) _ _ _);refine call_meets F.slot_list_getattribute (hT _) am_entry_list_getattribute (F.args_list_getattribute_2 _ _) (meets_getattribute_miss_list a xs k sl "keys" _ XZ (by decide +kernel) (by decide +kernel)) ⟨hx,hA,fun h' tk' e hx'=>?_⟩) | wp_step))
 obtain⟨t',u',he⟩:=hx'.there;show wpAny _ _ (getattributeRaised _ _ _ _ _ _ _) _ _ _;unfold getattributeRaised
 repeat (any_goals (first | assumption | wp_step))
 exact h _ _ hx'.keeps
variable{K:Type}[DecidableEq K]{knd:KeyKind prog w K}
noncomputable def foldS(acc:List (K×Value))(ps:List (K×Value)):List (K×Value):=ps.foldl (fun acc kv=>stored acc kv.1 kv.2) acc
theorem xD(acc:List (K×Value))(k:K)(v:Value):(stored acc k v).length<=acc.length+1:=by
 unfold stored;split
 ·rw[length_map];exact Nat.le_succ _
 ·rw[List.length_append];exact Nat.le_refl _
theorem dul{R:Result->Shared->Prop}{d it l:Addr}{items:List Value}{res:Value}(hh:A.handled=none)(hdi:d≠it)(hdl:d≠l)(hil:it≠l) :
  ∀(ps:List (K×Value)) (i:Nat) (acc:List (K×Value)) (s:Shared),s.heap.IsListIter it l i->s.heap.IsList l items.toArray->(items.length=i+ps.length)->
   (∀j kv,ps[j]?=some kv->∃a key,items[i+j]?=some (.ref a)/\IsTup s.heap a #[key,kv.2]/\knd.is kv.1 key=true/\a≠d/\a≠it)->s.heap.DictOf knd d acc->acc.length+ps.length<=sizeLine->
   (∀h' tk,(∀b o,b≠d->b≠it->s.heap.get? b=some o->h'.get? b=some o)->h'.DictOf knd d (foldS acc ps)->R (.ok (.ret res)) {s with heap:=h',toks:=tk})->
   codeAny (model prog w) A (.builtin "dict.update.loop" ⟨[.ref d,.ref it,rawInt i,res],[]⟩) R s
 | [],i,acc,s,hit,hl,hn,hp,hd,hz,hR=>by
  refine codeAny_builtin Ku ?_;rw[Around.under_plainId yd _];show wpAny _ A.in1 (pyNext (.ref it) >>= _) _ _ s;refine wpAny_bind (wpAny_pyNext_list_end (A:=A.in1) hh hit hl (by simp;simp at hn;omega) fun h' eb=>?_);show wpAny _ A.in1 (Builtin.Dict.addKeywords d [] >>= _) _ _ _;refine wpAny_bind (wpAny_pure (wpAny_pure (hR h' s.toks (fun b o _ hb e=>eb b o hb e) ?_)));exact hd.extBut eb hdi
 | kv::ps,i,acc,s,hit,hl,hn,hp,hd,hz,hR=>by
  obtain⟨a,key,ha,ht,hk,had,hai⟩:=hp 0 kv rfl;refine codeAny_builtin Ku ?_;rw[Around.under_plainId yd _];show wpAny _ A.in1 (pyNext (.ref it) >>= _) _ _ s;refine wpAny_bind (wpAny_pyNext_list_item (A:=A.in1) hit hl (x:=.ref a) (by simpa using ha) fun h1 hit1 sb=>?_);obtain⟨ot,eo,oc,n,od⟩:=ht;have eo1:h1.get? a=some ot:=(sb.2 a hai).trans eo;show wpAny _ A.in1 (holding [Value.ref a] _ >>= _) _ _ _;refine wpAny_bind (wpAny_holding ?_);refine wpAny_bind (wpAny_tryCatch ?_);unfold Builtin.Dict.pairItems;refine wpAny_bind (wpAny_typeOf (T:="tuple") ⟨_,eo1,oc⟩ ?_);show wpAny _ A.in1 (if((Value.type "tuple"== Value.type "list")||(Value.type "tuple"== Value.type "tuple"))=true then _ else _) _ _ _;rw[if_pos (by decide)];refine wpAny_bind (wpAny_seqItems eo1 od ?_);refine wpAny_pure ?_;show wpAny _ A.in1 (holding [key,kv.2] (dictSet d key kv.2)) _ _ _;have hd1:h1.DictOf knd d acc:=hd.extBut (fun b o hb e=>(sb.2 b hb).trans e) hdi;refine wpAny_holding (wpAny_dictSet_pairs (s:={s with heap:=h1}) hk hd1 (fun h2 hd2 sb2=>?_) (by simp at hz;omega));show wpAny _ A.in1 (again _) _ _ _;refine wpAny_pure ⟨plainId_quiet yd _,?_⟩;have kp:∀b o,b≠d->b≠it->s.heap.get? b=some o->h2.get? b=some o:=fun b o h1' h2' e=>(sb2.2 b h1').trans ((sb.2 b h2').trans e)
  have sl:=xD acc kv.1 kv.2;refine dul hh hdi hdl hil ps (i+1) (stored acc kv.1 kv.2) _ (hit1.at fun o e=>(sb2.2 it hdi.symm).trans e) (hl.at fun o e=>kp l o hdl.symm hil.symm e) (by simp at hn;omega) (fun j kv' hj=>?_) hd2 (by simp at hz;omega) fun h3 tk k3 hd3=>?_
  ·obtain⟨a',key',ha',ht',hk',had',hai'⟩:=hp (j+1) kv' (by simpa using hj);obtain⟨o',e',r'⟩:=ht';exact⟨a',key',by rw[<-ha'];congr 1;omega,⟨o',kp _ _ had' hai' e',r'⟩,hk',had',hai'⟩
  ·exact hR h3 tk (fun b o h1' h2' e=>k3 b o h1' h2' (kp b o h1' h2' e)) hd3
end
open PySem PySem.W PyProof.Rows
section
variable{n:Nat}{key:Nat->Int}{p:Array Nat}
noncomputable def Tw(n:Nat)(key:Nat->Int){α:Type}:KasT α->(α->Prop)->Prop
 | .ret a,Q=>Q a
 | .ask i j k,Q=>i<n/\j<n/\Tw n key (k (decide (key i<key j))) Q
theorem Tw.bind{α β:Type}{f:α->KasT β}{Q:β->Prop}:∀{t:KasT α},Tw n key t (fun a=>Tw n key (f a) Q)->Tw n key (t.bind f) Q
 | .ret _,h=>h
 | .ask _ _ _,h=>⟨h.1,h.2.1,Tw.bind h.2.2⟩
theorem Tw.mono{α:Type}{Q Q':α->Prop}(hq:∀a,Q a->Q' a):∀{t:KasT α},Tw n key t Q->Tw n key t Q'
 | .ret _,h=>hq _ h
 | .ask _ _ _,h=>⟨h.1,h.2.1,Tw.mono hq h.2.2⟩
theorem Tw.run{α:Type}{cmp:Nat->Nat->(Bool->Shared->Prop)->Shared->Prop}{Q:α->Shared->Prop}{s:Shared}(hc:∀i j C,i<n->j<n->C (decide (key i<key j)) s->cmp i j C s) :
  ∀{t:KasT α},Tw n key t (fun a=>Q a s)->t.kasWp cmp Q s
 | .ret _,h=>h
 | .ask i j k,h=>hc i j _ h.1 h.2.1 (Tw.run hc h.2.2)
theorem Tw.asks{α:Type}{i j:Nat}{k:Bool->KasT α}{Q:α->Prop}(hi:i<n)(hj:j<n)(h1:key i<key j->Tw n key (k true) Q)(h2:¬key i<key j->Tw n key (k false) Q):Tw n key (.ask i j k) Q:=by
 refine⟨hi,hj,?_⟩;by_cases c:key i<key j
 ·rw[decide_eq_true c];exact h1 c
 ·rw[decide_eq_false c];exact h2 c
def Pk(n:Nat)(p:Array Nat):Prop:=p.toList.Perm (List.range n)
noncomputable def kv(key:Nat->Int)(p:Array Nat)(i:Nat):Int:=key (p.getD i 0)
def Up(key:Nat->Int)(p:Array Nat)(k:Nat):Prop:=∀i j,i<=j->j<k->kv key p i<=kv key p j
def Dn(key:Nat->Int)(p:Array Nat)(k:Nat):Prop:=∀i j,i<=j->j<k->kv key p j<=kv key p i
def Eqs(key:Nat->Int)(p:Array Nat)(m q:Nat):Prop:=∀k,m-(q+1)<=k->k<m->kv key p k=kv key p (m-1)
theorem Pk.size(h:Pk n p):p.size=n:=by have:=h.length_eq;simpa using this
theorem Pk.lt(h:Pk n p)(h0:0<n)(i:Nat):p.getD i 0<n:=by
 rw[Array.getD_eq_getD_getElem?];cases e:p[i]? with
 | none=>exact h0
 | some x=>exact mem_range.mp (h.mem_iff.mp (Array.mem_toList_iff.mpr (Array.mem_of_getElem? e)))
theorem Pk.of(h:Pk n p){q:Array Nat}(hq:q.Perm p):Pk n q:=(Array.perm_iff_toList_perm.mp hq).trans h
theorem Wk{a b:Array Nat}{i j:Nat}(h:a[i]?=b[j]?):kv key a i=kv key b j:=by
 unfold kv;rw[Array.getD_eq_getD_getElem?,Array.getD_eq_getD_getElem?,h]
theorem W8{i j:Nat}(hj:j<=p.size)(k:Nat):kv key (kas_rev p i j) k=if i<=k/\k<j then kv key p (i+j-1-k)else kv key p k:=by
 have h:=getElem?_mirror_all (xs:=p) (i:=i) hj k;split
 ·rename_i c;rw[if_pos c]at h;exact Wk h
 ·rename_i c;rw[if_neg c]at h;exact Wk h
theorem j2h{src d:Nat}(hs:src<p.size)(hd:d<=src)(k:Nat):kv key (bubble p src d) k=if k=src-d then kv key p src else if src-d<k/\k<=src then kv key p (k-1)else kv key p k:=by
 have h:=getElem?_bubble (xs:=p) hs d hd k;split
 ·rename_i c;rw[if_pos c]at h;exact Wk h
 ·rename_i c;rw[if_neg c]at h;split
  ·rename_i c';rw[if_pos c']at h;exact Wk h
  ·rename_i c';rw[if_neg c']at h;exact Wk h
theorem Up.snoc{m:Nat}(h:Up key p m)(h1:1<=m)(hc:¬kv key p m<kv key p (m-1)):Up key p (m+1):=fun i j hij hj=>by
 by_cases e:j<m
 ·exact h i j hij e
 ·have ej:j=m:=by omega
  subst ej;by_cases ei:i=j
  ·rw[ei];exact Int.le_refl _
  ·have:=h i (j-1) (by omega) (by omega);omega
theorem Dn.snoc{m:Nat}(h:Dn key p m)(h1:1<=m)(hc:kv key p m<=kv key p (m-1)):Dn key p (m+1):=fun i j hij hj=>by
 by_cases e:j<m
 ·exact h i j hij e
 ·have ej:j=m:=by omega
  subst ej;by_cases ei:i=j
  ·rw[ei];exact Int.le_refl _
  ·have:=h i (j-1) (by omega) (by omega);omega
theorem j0R(hp:Pk n p):∀f m,1<=m->m+f<=n->Up key p m->Tw n key (kas_asc p f m) fun r=>m<=r/\r<=m+f/\Up key p r/\(r<m+f->kv key p r<kv key p (r-1))
 | 0,m,h1,hn,hu=>⟨Nat.le_refl _,Nat.le_refl _,hu,fun h=>absurd h (Nat.lt_irrefl _)⟩
 | f+1,m,h1,hn,hu=>by
  refine Tw.asks (hp.lt (by omega) _) (hp.lt (by omega) _) (fun c=>?_) (fun c=>?_)<;>simp only[Bool.false_eq_true,if_true,if_false]
  ·exact⟨Nat.le_refl _,by omega,hu,fun _=>c⟩
  ·exact Tw.mono (fun r h=>⟨by omega,by omega,h.2.2.1,fun hr=>h.2.2.2 (by omega)⟩) (j0R hp f (m+1) (by omega) (by omega) (hu.snoc h1 c))
theorem Xf{m q:Nat}(hm:m<=p.size)(he:Eqs key p m q)(k:Nat):kv key (kas_rev p (m-(q+1)) m) k=kv key p k:=by
 rw[W8 hm];split
 ·rename_i c;rw[he k c.1 c.2,he _ (by omega) (by omega)]
 ·rfl
theorem wN:∀f (p:Array Nat) m q,Pk n p->1<=m->m+f<=n->q+1<=m->Dn key p m->Eqs key p m q->
  Tw n key (kas_desc f p m q) fun r=>Pk n r.1/\m<=r.2.1/\r.2.1<=m+f/\Dn key r.1 r.2.1/\r.2.2+1<=r.2.1/\Eqs key r.1 r.2.1 r.2.2
 | 0,p,m,q,hp,h1,hn,hq,hd,he=>⟨hp,Nat.le_refl _,Nat.le_refl _,hd,hq,he⟩
 | f+1,p,m,q,hp,h1,hn,hq,hd,he=>by
  have sz:=hp.size;refine Tw.asks (hp.lt (by omega) _) (hp.lt (by omega) _) (fun c=>?_) (fun c=>?_)<;>simp only[Bool.false_eq_true,if_true,if_false]
  ·have c:kv key p m<kv key p (m-1):=c;split
   ·have hk:=Xf (key:=key) (p:=p) (m:=m) (q:=q) (by omega) he;have hp':Pk n (kas_rev p (m-(q+1)) m):=hp.of (mirror_perm _ _ _ _);refine Tw.mono (fun r h=>⟨h.1,by omega,by omega,h.2.2.2⟩) (wN f _ (m+1) 0 hp' (by omega) (by omega) (by omega) (fun i j hij hj=>?_) fun k k1 k2=>?_)
    ·rw[hk,hk];exact hd.snoc h1 (by omega) i j hij hj
    ·rw[show k=m+1-1 by omega]
   ·refine Tw.mono (fun r h=>⟨h.1,by omega,by omega,h.2.2.2⟩) (wN f p (m+1) 0 hp (by omega) (by omega) (by omega) (hd.snoc h1 (by omega)) fun k k1 k2=>?_);rw[show k=m+1-1 by omega]
  ·have c:¬kv key p m<kv key p (m-1):=c;refine Tw.asks (hp.lt (by omega) _) (hp.lt (by omega) _) (fun c2=>?_) (fun c2=>?_)<;>simp only[Bool.false_eq_true,if_true,if_false]
   ·exact⟨hp,Nat.le_refl _,Nat.le_add_right m (f+1),hd,hq,he⟩
   ·have c2:¬kv key p (m-1)<kv key p m:=c2;refine Tw.mono (fun r h=>⟨h.1,by omega,by omega,h.2.2.2⟩) (wN f p (m+1) (q+1) hp (by omega) (by omega) (by omega) (hd.snoc h1 (by omega)) fun k k1 k2=>?_);rw[Nat.add_sub_cancel];by_cases e:k=m
    ·rw[e]
    ·rw[he k (by omega) (by omega)];omega
theorem j0T{m:Nat}(hp:Pk n p)(h1:1<=m)(hn:m<=n)(hd:Dn key p m):Tw n key (kas_tail3 m n p) fun r=>Pk n r.2/\1<=r.1/\r.1<=n/\Up key r.2 r.1:=by
 have sz:=hp.size;have hp':Pk n (kas_rev p 0 m):=hp.of (mirror_perm _ _ _ _);have hk:=W8 (key:=key) (p:=p) (i:=0) (j:=m) (by omega);refine Tw.bind (Tw.mono (fun r h=>?_) (j0R hp' (n-m) m h1 (by omega) fun i j hij hj=>?_))
 ·exact⟨hp',by omega,by omega,h.2.2.1⟩
 ·rw[hk,hk,if_pos ⟨Nat.zero_le _,by omega⟩,if_pos ⟨Nat.zero_le _,hj⟩];exact hd _ _ (by omega) (by omega)
theorem j0S{m:Nat}(hp:Pk n p)(hn:m+1<=n)(hd:Dn key p (m+1)):Tw n key (kas_descPart m n p) fun r=>Pk n r.2/\1<=r.1/\r.1<=n/\Up key r.2 r.1:=by
 refine Tw.bind (Tw.mono (fun r h=>?_) (wN (n-(m+1)) p (m+1) 0 hp (by omega) (by omega) (by omega) hd fun k k1 k2=>by rw[show k=m+1-1 by omega]));obtain⟨a,b,c,d,e,g⟩:=h;have sz:=a.size;split
 ·have hk:=Xf (key:=key) (p:=r.1) (m:=r.2.1) (q:=r.2.2) (by omega) g;exact j0T (a.of (mirror_perm _ _ _ _)) (by omega) (by omega) fun i j hij hj=>by rw[hk,hk];exact d i j hij hj
 ·exact j0T a (by omega) (by omega) d
theorem j1M(hp:Pk n p)(h1:1<=n):Tw n key (kas_count n p) fun r=>Pk n r.2/\1<=r.1/\r.1<=n/\Up key r.2 r.1:=by
 have sz:=hp.size;refine Tw.bind (Tw.mono (fun r h=>?_) (j0R (key:=key) hp (n-1) 1 (by omega) (by omega) fun i j hij hj=>by rw[show i=j by omega];exact Int.le_refl _));obtain⟨a,b,c,d⟩:=h;split
 ·exact⟨hp,a,by omega,c⟩
 rename_i hne;have hrn:r<n:=by
  have:r≠n:=fun e=>hne (by rw[e];simp)
  omega
 have d:=d (by omega);split
 ·refine Tw.asks (hp.lt (by omega) _) (hp.lt (by omega) _) (fun q=>?_) (fun q=>?_)<;>simp only[Bool.false_eq_true,if_true,if_false]
  ·exact⟨hp,a,by omega,c⟩
  ·have q:¬kv key p 0<kv key p (r-1):=q;have hk:=W8 (key:=key) (p:=p) (i:=0) (j:=r) (by omega);have eqs:∀i,i<r->kv key p i=kv key p (r-1):=fun i hi=>by
    have h1:=c 0 i (Nat.zero_le _) hi;have h2:=c i (r-1) (by omega) (by omega);omega
   have eqk:∀i,kv key (kas_rev p 0 r) i=kv key p i:=fun i=>by
    rw[hk];split
    ·rename_i q';rw[eqs _ q'.2,eqs _ (by omega)]
    ·rfl
   refine j0S (hp.of (mirror_perm _ _ _ _)) (by omega) fun i j hij hj=>?_
   rw[eqk,eqk];by_cases e:j=r
   ·by_cases e2:i=r
    ·rw[e,e2];exact Int.le_refl _
    ·rw[e,eqs i (by omega)];omega
   ·rw[eqs i (by omega),eqs j (by omega)];exact Int.le_refl _
 ·have er:r=1:=by omega
  subst er;refine j0S hp (by omega) fun i j hij hj=>?_
  rcases(by omega:(i=0/\j=0)\/(i=0/\j=1)\/(i=1/\j=1))with⟨rfl,rfl⟩ | ⟨rfl,rfl⟩ | ⟨rfl,rfl⟩
  ·exact Int.le_refl _
  ·have:kv key p 1<kv key p (1-1):=d;exact Int.le_of_lt this
  ·exact Int.le_refl _
theorem wO{k:Nat}(hp:Pk n p)(hkn:k<n)(hu:Up key p k):∀f l r,l<=r->r<=k->r-l<=f->(∀i,i<l->kv key p i<=kv key p k)->(∀i,r<=i->i<k->kv key p k<kv key p i)->
  Tw n key (kas_place p k f l r) fun m=>m<=k/\(∀i,i<m->kv key p i<=kv key p k)/\∀i,m<=i->i<k->kv key p k<kv key p i
 | 0,l,r,h1,h2,h3,a,b=>⟨by omega,a,fun i hi=>b i (by omega)⟩
 | f+1,l,r,h1,h2,h3,a,b=>by
  unfold kas_place;split
  ·exact⟨by omega,a,fun i hi=>b i (by omega)⟩
  refine Tw.asks (hp.lt (by omega) _) (hp.lt (by omega) _) (fun q=>?_) (fun q=>?_)<;>simp only[Bool.false_eq_true,if_true,if_false]
  ·have q:kv key p k<kv key p ((l+r)/2):=q;exact wO hp hkn hu f l _ (by omega) (by omega) (by omega) a fun i hi hk=>by
    have:=hu ((l+r)/2) i hi hk;omega
  ·have q:¬kv key p k<kv key p ((l+r)/2):=q;exact wO hp hkn hu f _ r (by omega) h2 (by omega) (fun i hi=>by
    have:=hu i ((l+r)/2) (by omega) (by omega);omega) b
theorem j1Y:∀f (p:Array Nat) k,Pk n p->k+f<=n->Up key p k->Tw n key (kas_bin f p k) fun q=>Pk n q/\Up key q (k+f)
 | 0,p,k,hp,hn,hu=>⟨hp,hu⟩
 | f+1,p,k,hp,hn,hu=>by
  have sz:=hp.size;refine Tw.bind (Tw.mono (fun l h=>?_) (wO hp (by omega) hu k 0 k (Nat.zero_le _) (Nat.le_refl _) (by omega) (fun i hi=>absurd hi (Nat.not_lt_zero _)) fun i h1 h2=>absurd h1 (by omega)));obtain⟨a,b,c⟩:=h;have hk:=j2h (key:=key) (p:=p) (src:=k) (d:=k-l) (by omega) (by omega);refine Tw.mono (fun q h=>⟨h.1,by rw[show k+(f+1)=k+1+f by omega];exact h.2⟩) (j1Y f _ (k+1) (hp.of (bubble_perm _ _ _)) (by omega) fun i j hij hj=>?_);rw[hk,hk,show k-(k-l)=l by omega]
  repeat' split
  all_goals first
   | exact Int.le_refl _
   | (exfalso;omega)
   | exact Int.le_of_lt (c _ (by omega) (by omega))
   | exact b _ (by omega)
   | exact hu _ _ (by omega) (by omega)
   | (have h1:=b i (by omega);have h2:=c (j-1) (by omega) (by omega);omega)
theorem j2F(h2:1<=n):Tw n key (kas_sort n) fun q=>Pk n q/\Up key q n:=by
 have hp:Pk n (List.toArray (List.range n)):=List.Perm.refl _;refine Tw.bind (Tw.mono (fun r h=>?_) (j1M (key:=key) hp h2));obtain⟨a,b,c,d⟩:=h;split
 ·refine Tw.mono (fun q h=>⟨h.1,?_⟩) (j1Y (n-max r.1 1) r.2 (max r.1 1) a (by omega) (by rw[show max r.1 1=r.1 by omega];exact d));have e:max r.1 1+(n-max r.1 1)=n:=by omega
  rw[e]at h;exact h.2
 ·have e:r.1=n:=by omega
  exact⟨a,by rw[<-e];exact d⟩
end
section
variable{prog:Program}{w:World}{A:Around}{E:Value->Shared->Prop}{s:Shared}
def PrAt(h:Heap)(as:List Addr)(key:Nat->Int):Prop:=∀i a,as[i]?=some a->∃o t u n,h.get? a=some o/\o.cls = .type "tuple"/\o.data = .seq #[.int (key i) t,u] n
theorem PrAt.keep{h h':Heap}{as:List Addr}{key:Nat->Int}(x:PrAt h as key)(k:∀a∈as,∀o,h.get? a=some o->h'.get? a=some o):PrAt h' as key:=fun i a e=>by
 obtain⟨o,t,u,n,q,r⟩:=x i a e;exact⟨o,t,u,n,k a (List.mem_of_getElem? e) _ q,r⟩
theorem j2U{as:List Addr}{key:Nat->Int}(x:PrAt s.heap as key)(inj:∀i j,i<as.length->j<as.length->key i=key j->i=j){i j:Nat}{C:Bool->Shared->Prop}(hi:i<as.length)(hj:j<as.length)
  (h:C (decide (key i<key j)) s):kas_ask prog w A (tuples' true) (as.map Value.ref) i j C s:=by
 unfold kas_ask;obtain⟨o,t,u,n,q1,c1,d1⟩:=x i _ (List.getElem?_eq_getElem hi);obtain⟨o',t',u',n',q2,c2,d2⟩:=x j _ (List.getElem?_eq_getElem hj);have e1:(as.map Value.ref).getD i Value.none = .ref as[i]:=by rw[getD_eq_getElem?_getD,List.getElem?_map,List.getElem?_eq_getElem hi];rfl
 have e2:(as.map Value.ref).getD j Value.none = .ref as[j]:=by rw[getD_eq_getElem?_getD,List.getElem?_map,List.getElem?_eq_getElem hj];rfl
 rw[e1,e2];refine kat_lt q1 d1 q2 d2 ?_;show KatLex prog w A true _ C [(.int (key i) t,.int (key j) t'),(u,u')] 0 s;refine kat_cons (wpAny_eqBool_int ?_);by_cases c:key i=key j
 ·have ij:=inj i j hi hj c;subst ij;rw[beq_self_eq_true];have eu:u=u':=by
   have e:o=o':=Option.some.inj (q1.symm.trans q2);subst e;have e:=d1.symm.trans d2;injection e with e _;have:=congrArg (fun a:Array Value=>a[1]?) e;simpa using this
  subst eu;refine kat_yes (kat_cons (SeqAt.EqAt.same _ _ _ _ _ ?_));refine kat_yes (kat_nil ?_);rw[decide_eq_false (Int.lt_irrefl _)]at h;exact h
 ·rw[beq_false_of_ne c];exact kat_no (oneLt_int h)
theorem Xl{h:Heap}{key:Nat->Int}:∀{as:List Addr} (_:PrAt h as key),∃fs,KatTups h (as.map Value.ref) fs/\fs.length=as.length/\∀v∈fs,∃n t,v=Value.int n t
 | [],_=>⟨[],KatTups.nil,rfl,fun v hv=>nomatch hv⟩
 | a::r,x=>by
  obtain⟨o,t,u,n,q,c,d⟩:=x 0 a rfl;obtain⟨fs,k,l,f⟩:=Xl (key:=fun i=>key (i+1)) (as:=r) fun i b e=>x (i+1) b (by simpa using e)
  refine⟨.int (key 0) t::fs,KatTups.cons q c d rfl k,by rw[length_cons,l,length_cons],fun v hv=>?_⟩;rcases mem_cons.mp hv with rfl | hv
  ·exact⟨_,_,rfl⟩
  ·exact f v hv
theorem j1R(vs:List Value):(vs.toArray.zip vs.toArray).map (·.2)=vs.toArray:=by
 apply Array.toList_inj.mp;rw[Array.toList_map,Array.toList_zip];exact List.map_snd_zip (Nat.le_refl _)
theorem j00(vs:List Value):(List.range vs.length).map (fun i=>vs.getD i Value.none)=vs:=by
 refine List.ext_getElem (by simp) fun i h1 h2=>?_
 rw[getElem_map,List.getElem_range,getD_eq_getElem?_getD,List.getElem?_eq_getElem h2];rfl
theorem j0J:∀{l:List Int},l.length<2->l.Pairwise (·<=·)
 | [],_=>.nil
 | [_],_=>pairwise_singleton _ _
 | _::_::_,h=>absurd h (by rw[length_cons,length_cons];omega)
theorem j0P{a:Addr}{as:List Addr}{key:Nat->Int}{c0:Nat}{P:PySem.Fin->Shared->Prop}(hob:s.heap.get? a=some (seqObj "list" (as.map Value.ref).toArray c0))(hna:a∉as)(x:PrAt s.heap as key)
  (inj:∀i j,i<as.length->j<as.length->key i=key j->i=j) (h64:as.length<64)
  (hend:∀(q:List Nat) (h':Heap) (c:Nat),q.Perm (List.range as.length)->(q.map key).Pairwise (·<=·)->(∀b o,b≠a->s.heap.get? b=some o->h'.get? b=some o)->
   h'.get? a=some (seqObj "list" ((q.map fun i=>as.getD i 0).map Value.ref).toArray c)->P (.done (.ret .none)) {s with heap:=h'}) :
  wpAny (model prog w) A (Builtin.«list.sort» ⟨[.ref a],[]⟩) P E s:=by
 have hlt:a<s.heap.objs.size:=Heap.lt_size hob;obtain⟨c1,hob1⟩:∃c1,(s.heap.update a (Obj.mapSeq fun _=>(#[]:Array Value))).get? a=some (seqObj "list" #[] c1):=⟨_,get?_update_seq hob fun _=>#[]⟩
 have sb1:=Heap.SameBut.update s.heap a (Obj.mapSeq fun _=>(#[]:Array Value));rw[list_sort_plain];refine wpAny_bind (listItems_at (s:=s) hob rfl ?_);refine wpAny_bind (listUpdate_at (s:=s) hob rfl ?_ (by rw[size_toArray,length_map,sizeLine_eq];omega) (Nat.zero_le _));refine wpAny_bind (seqEpoch_at (n:=c1) hob1 rfl ?_);refine wpAny_bind (wpAny_newTuple ?_ (by show(as.map Value.ref).length<=_;rw[length_map,sizeLine_eq];omega));refine wpAny_bind (wpAny_newList ?_ (Nat.zero_le (sizeLine)));refine wpAny_holding ?_;generalize hH:((s.heap.update a (Obj.mapSeq fun _=>(#[]:Array Value))).push (seqObj "tuple" (as.map Value.ref).toArray 0)).push (seqObj "list" #[] 0)=hX;have kX:∀b o,b≠a->s.heap.get? b=some o->hX.get? b=some o:=fun b o hb e=>by
  rw[<-hH];exact Heap.get?_push_of_some _ (Heap.get?_push_of_some _ ((sb1.2 b hb).trans e))
 have oX:hX.get? a=some (seqObj "list" #[] c1):=by
  rw[<-hH];exact Heap.get?_push_of_some _ (Heap.get?_push_of_some _ hob1)
 have xX:PrAt hX as key:=x.keep fun b hb o e=>kX b o (fun z=>hna (z▸hb)) e
 show wpAny (model prog w) A _ P E {s with heap:=hX};dsimp only;have szv:(as.map Value.ref).toArray.size=as.length:=by rw[size_toArray,length_map]
 have outE:∀q:List Nat,q.Perm (List.range as.length)->(List.map (fun i=>(as.map Value.ref).getD i Value.none) q)=(q.map fun i=>as.getD i 0).map Value.ref:=fun q hq=>by
  rw[map_map];refine map_congr_left fun i hi=>?_
  have hl:i<as.length:=mem_range.mp (hq.mem_iff.mp hi);show(as.map Value.ref).getD i Value.none=Value.ref (as.getD i 0);rw[getD_eq_getElem?_getD,getD_eq_getElem?_getD,List.getElem?_map,List.getElem?_eq_getElem hl];rfl
 have done:∀(q:List Nat),q.Perm (List.range as.length)->(q.map key).Pairwise (·<=·)->∀out:Array Value,out=(List.map (fun i=>(as.map Value.ref).getD i Value.none) q).toArray->
   P (.done (.ret .none)) {s with heap:=hX.update a (Obj.mapSeq fun _=>out)}:=fun q hq hs out ho=>by
  subst ho;have o2:=get?_update_seq oX fun _=>(List.map (fun i=>(as.map Value.ref).getD i Value.none) q).toArray
  have sb2:=Heap.SameBut.update hX a (Obj.mapSeq fun _=>(List.map (fun i=>(as.map Value.ref).getD i Value.none) q).toArray);rw[outE q hq]at o2 sb2|-;exact hend q _ _ hq hs (fun b o hb e=>(sb2.2 b hb).trans (kX b o hb e)) o2
 by_cases h2:(as.map Value.ref).toArray.size<2
 ·rw[if_pos h2,if_pos h2];refine wpAny_bind (wpAny_pure ?_);rw[StateT.run_pure];refine wpAny_bind (wpAny_pure ?_);dsimp only;refine wpAny_bind (seqEpoch_at (n:=c1) oX rfl ?_);have eo:(arrOf (SortSt.mk' general' ((as.map Value.ref).toArray.zip (as.map Value.ref).toArray) #[] 7 none)).map (·.2)=(List.map (fun i=>(as.map Value.ref).getD i Value.none) (List.range as.length)).toArray:=by
   have e:=j00 (as.map Value.ref);rw[length_map]at e;rw[e];exact j1R _
  rw[eo];refine wpAny_bind (listUpdate_at (s:={s with heap:=hX}) oX rfl ?_ (Nat.zero_le _) (by rw[size_toArray,length_map,List.length_range,sizeLine_eq];omega));simp only[bne_self_eq_false,Bool.false_eq_true,if_false];refine wpAny_pure (done (List.range as.length) (List.Perm.refl _) ?_ _ rfl);rw[szv]at h2;exact j0J (by rw[length_map,List.length_range];exact h2)
 ·rw[if_neg h2,if_neg h2];rw[szv]at h2;obtain⟨fs,kt,kl,ki⟩:=Xl xX;have hX':hX=({s with heap:=hX}:Shared).heap:=rfl;refine wpAny_bind (kat_kind (s:={s with heap:=hX}) (T:=Value.type "int") kt (by omega) (fun v hv=>?_) (by decide) ?_)
  ·obtain⟨m,t,rfl⟩:=ki v hv;exact Looks.of_pure rfl
  refine wpAny_bind (wpAny_mono (kat_run (s:={s with heap:=hX}) (ks:=as.map Value.ref) (vs:=as.map Value.ref) (κ:=tuples' true) (Q:=fun st' s'=>∃p:Array Nat,Pk as.length p/\Up key p as.length/\arrOf st'=p.map (kas_item ((as.map Value.ref).toArray.zip (as.map Value.ref).toArray))/\failedOf st'=none/\s'={s with heap:=hX}) (G:=fun p s'=>Pk as.length p/\Up key p as.length/\s'={s with heap:=hX})
   rfl (by rw[length_map];omega) (by rw[length_map];exact h64) (fun p st' s' _ a2 a3 a4=>⟨p,a4.1,a4.2.1,a2,a3,a4.2.2⟩) ?_) ?_ fun _ _ e=>e)
  ·rw[length_map];exact Tw.run (n:=as.length) (key:=key) (fun i j C hi hj hC=>j2U xX inj hi hj hC) (Tw.mono (fun q h=>⟨h.1,h.2,rfl⟩) (j2F (key:=key) (by omega)))
  rintro⟨⟨⟩,st'⟩ s' ⟨p,hp,hu,har,hf,rfl⟩;dsimp only;rw[kat_snds rfl har];refine wpAny_bind (seqEpoch_at (n:=c1) oX rfl ?_);have psz:=hp.size;refine wpAny_bind (listUpdate_at (s:={s with heap:=hX}) oX rfl ?_ (Nat.zero_le _) (by rw[size_toArray,length_map,Array.length_toList,psz,sizeLine_eq];omega));rw[hf];simp only[bne_self_eq_false,Bool.false_eq_true,if_false];refine wpAny_pure (done p.toList hp ?_ _ rfl);refine pairwise_map.mpr (pairwise_iff_getElem.mpr fun i j hi hj hij=>?_);rw[Array.length_toList]at hi hj;have:=hu i j (by omega) (by omega);unfold kv at this;rw[Array.getD_eq_getD_getElem?,Array.getD_eq_getD_getElem?,Array.getElem?_eq_getElem hi,Array.getElem?_eq_getElem hj]at this;exact this
end
open PySem PySem.Spec PySem.W PyProof.Rows
section
variable{X:Cx}{pins:List (Addr×Obj)}{σ:St}{H:Hp}{s:Shared}
def NewA(X:Cx)(pins:List (Addr×Obj))(T:Addr):Prop:=X.s₀.heap.objs.size<=T/\T≠X.env.locals/\(∀x c,X.env.cells.lookup x=some c->c≠T)/\∀p∈X.pn++pins,p.1≠T
theorem Inv.newA(I:Inv X pins σ H s){T:Addr}(hT:s.heap.objs.size<=T):NewA X pins T:=by
 obtain⟨_,f1,_,_,f4,f5⟩:=I.fpOk (H':=fun _=>none) hT rfl;exact⟨Nat.le_trans I.sz hT,f1,f4,f5⟩
theorem ObjOk.obj{P:Program}{w:World}{h:Heap}{a:Addr}{o:HO}(x:ObjOk P w H h a o):∃u,h.get? a=some u:=by
 cases o with
 | lst xs=>obtain⟨_,_,_,_,e⟩:=x;exact⟨_,e⟩
 | tup xs=>obtain⟨_,_,_,u,e,_⟩:=x;exact⟨u,e⟩
 | dK kvs=>obtain⟨_,_,_,_,u,_,_,e,_⟩:=x;exact⟨u,e⟩
 | dT kvs=>obtain⟨_,_,_,_,u,_,_,e,_⟩:=x;exact⟨u,e⟩
 | set S n=>obtain⟨u,_,_,_,e,_⟩:=x;exact⟨u,e⟩
 | ins C dx fs=>obtain⟨_,_,_,e,_⟩:=x;exact⟨_,e⟩
 | own y=>exact x
 | xd fs=>obtain⟨_,⟨u,_,_,e,_⟩,_⟩:=x;exact⟨u,e⟩
 | rng lo hi=>obtain⟨_,_,_,e⟩:=x;exact⟨_,e⟩
 | frz u v=>exact⟨_,x.1⟩
 | tbl ps=>exact⟨_,x⟩
 | met f y=>exact⟨_,x⟩
 | ext φ=>exact x.2.1
theorem Inv.none_at{h1:Heap}(I:Inv X pins σ H s)(hk:∀b o,s.heap.get? b=some o->h1.get? b=some o):H h1.objs.size=none:=by
 cases e:H h1.objs.size with
 | none=>rfl
 | some u=>
  obtain⟨v,q⟩:=(I.hok _ _ e).obj;exact absurd (Heap.lt_size (hk _ _ q)) (Nat.lt_irrefl _)
theorem Inv.newB{h1:Heap}(I:Inv X pins σ H s)(hk:∀b o,s.heap.get? b=some o->h1.get? b=some o):NewA X pins h1.objs.size:=by
 have lt:∀b o,s.heap.get? b=some o->b<h1.objs.size:=fun b o e=>Heap.lt_size (hk b o e)
 obtain⟨m,⟨o,_,_,ho,_⟩,_⟩:=I.loc;have hL:=lt _ _ ho;refine⟨Nat.le_of_lt (Nat.lt_of_le_of_lt I.ok.above hL),Nat.ne_of_gt hL,fun x c e=>?_,fun p hp=>Nat.ne_of_lt (lt _ _ (I.pin p hp).1)⟩;obtain⟨v,o,ho,_⟩:=I.cell x c e;exact Nat.ne_of_lt (lt _ _ ho)
theorem Inv.track{T:Addr}{o:HO}(I:Inv X pins σ H s)(h0:H T=none)(hn:NewA X pins T)(new:ObjOk X.prog X.w (upd H T o) s.heap T o):Inv X pins σ (upd H T o) s:=by
 have ne:∀b u,H b=some u->b≠T:=fun b u e z=>by rw[z,h0]at e;cases e
 refine I.step (h':=s.heap) (H':=upd H T o) (g':=s.gens) (d':=s.drawn) (t':=s.toks) (ch:=[T]) (fun b hb=>?_) (fun b o _ _ _ e _=>e) (fun b o _ _ _ e _=>⟨o.slots,e⟩) (fun b u hb _ n=>?_) (fun b u _ e=>⟨u,e⟩)
  (fun b xs e=>(jh (ne _ _ e)).trans e) (fun b u v e=>(jh (ne _ _ e)).trans e) (fun b ps e=>⟨#[],by rw[jh (ne _ _ e),e];simp⟩) (fun m hm=>hm) (fun b u e=>?_) I.bare
 ·have e:b=T:=by simpa using hb
  subst e;exact⟨.inr hn.1,hn.2.1,hn.2.2.1,hn.2.2.2⟩
 ·exact(jh fun z=>hb (by simp[z])).trans n
 ·by_cases z:b=T
  ·subst z;rw[jg]at e;cases e;exact new
  ·rw[jh z]at e;exact(I.hok b u e).stay (fun c v _ q=>q) (fun c q=>(jh (ne _ _ q)).trans q) fun c ys q=>(jh (ne _ _ q)).trans q
theorem Inv.trackAll:∀(ws:List (Addr×HO)) {H:Hp},Inv X pins σ H s->(∀p∈ws,H p.1=none/\NewA X pins p.1/\∀H',ObjOk X.prog X.w H' s.heap p.1 p.2)->(ws.map (·.1)).Nodup->∃H',Inv X pins σ H' s/\Same H H'/\∀p∈ws,H' p.1=some p.2
 | [],H,I,_,_=>⟨H,I,Same.refl _,fun p hp=>nomatch hp⟩
 | w::r,H,I,h,nd=>by
  obtain⟨a,b,c⟩:=h w mem_cons_self;rw[map_cons,nodup_cons]at nd;have I1:=I.track a b (c _);obtain⟨H',I2,s2,k2⟩:=Inv.trackAll r I1 (fun p hp=>by
   obtain⟨a',b',c'⟩:=h p (mem_cons_of_mem _ hp);exact⟨(jh fun z:p.1=w.1=>nd.1 (by rw[<-z];exact mem_map.mpr ⟨p,hp,rfl⟩)).trans a',b',c'⟩) nd.2
  have s1:Same H (upd H w.1 w.2):=fun b u q=>(jh (jf q a)).trans q
  refine⟨H',I2,s1.trans s2,fun p hp=>?_⟩;rcases mem_cons.mp hp with rfl | hp
  ·exact s2 _ _ jg
  ·exact k2 p hp
end
section
variable{X:Cx}
theorem valsR:∀as:List Addr,Vals (as.map V.ref) (as.map Value.ref)
 | []=>.nil
 | _::r=>.cons rfl (valsR r)
theorem KV.get{κ:Type}:∀{kvs:List (κ×V)} {vs:List (κ×Value)} {i:Nat} {p:κ×V},KV kvs vs->kvs[i]?=some p->∃q,vs[i]?=some q/\p.1=q.1/\RelV p.2 q.2
 | _,_,_,_,.nil,e=>by simp at e
 | _,_,0,_,.cons r _,e=>by simp at e;subst e;exact⟨_,rfl,r⟩
 | _,_,i+1,p,.cons _ t,e=>by
  obtain⟨q,h1,h2⟩:=KV.get (i:=i) (p:=p) t (by simpa using e);exact⟨q,by simpa using h1,h2⟩
theorem KE:MtR X "dict.update" (fun x vs H Q=>∃d o kvs more,x = .ref d/\vs=[.ref o]/\H d=some (.dK kvs)/\H o=some (.dK more)/\d≠o/\kvs.length+more.length<=sizeLine/\Q .non (upd H d (.dK (mergeK kvs more)))):=by
 intro pins s σ H x vs v us Q I rx rv h;obtain⟨d,o,kvs,more,rfl,rfl,ed,eo,hne,hz,q⟩:=h;cases rx;obtain⟨u,rfl,ru⟩:=vals1 rv;cases ru;obtain⟨z1,hd1,vs1,r1,dd1⟩:=YM I.hok ed;obtain⟨z2,hd2,vs2,r2,dd2⟩:=YM I.hok eo;refine call_meetsIn PySem.F.slot_dict_update dd1.typeIs PySem.F.entry_dict_update (PySem.F.args_dict_update_2 _ _) (meets_dict_update (mixKind X.prog X.w) d o hne hd2) ⟨vs1,vs2,dd1,dd2,by rw[<-r1.length,<-r2.length];exact hz,fun h' dd' _ hs=>?_⟩;have he:∃q,h'.get? d=some q:=let ⟨q,_,_,hq,_⟩:=dd';⟨q,hq⟩;have hl:=Q3 more kvs;exact⟨.non,_,YY (t':=s.toks) I (by rw[ed];exact True.intro) hs he (K7 (by omega) hd1 (r2.merge r1) dd'),rfl,q⟩
noncomputable def IView(v d:Addr):HO:=.ext fun h=>h.get? v=some {cls:=.type "dict_items",data:=.fields #[.ref d]}
theorem j0u:MtR X "dict.items" (fun x vs H Q=>∃d kvs,x = .ref d/\vs=[]/\H d=some (.dK kvs)/\∀v,H v=none->Q (.ref v) (upd H v (IView v d))):=by
 intro pins s σ H x vs v us Q I rx rv h;obtain⟨d,kvs,rfl,rfl,ed,q⟩:=h;cases rx;have hus:=rv.zero;subst hus;obtain⟨z1,hd1,vs1,r1,dd1⟩:=YM I.hok ed;refine call_meetsIn PySem.F.slot_dict_items dd1.typeIs PySem.F.entry_dict_items (PySem.F.args_dict_items_1 (.ref d)) (meets_dict_items (mixKind X.prog X.w) d hd1) ⟨⟨vs1,dd1⟩,?_⟩;have e:(s.heap.push {cls:=.type "dict_items",data:=.fields #[.ref d]}).get? s.heap.objs.size=some {cls:=.type "dict_items",data:=.fields #[.ref d]}:=Heap.get?_push_size _ rfl;exact⟨.ref s.heap.objs.size,_,I.laid (t':=s.toks) (o:=IView s.heap.objs.size d) (fun b u q=>Heap.get?_push_of_some _ q) (Nat.le_refl _) (show ObjOk X.prog X.w _ _ _ (IView s.heap.objs.size d)from⟨e,⟨_,e⟩,fun h1 h2 q k=>k _ q⟩),rfl,q _ (I.hok.fresh (Nat.le_refl _))⟩
noncomputable def iiK(p:Int×Int):Key×V:=(Sum.inl p.1,.int p.2)
theorem K5(hc:X.calm=true):CallR X (.builtin "sorted") (fun xs H Q=>∃(v d:Addr) (kvs:List (Int×Int)),xs=[.ref v]/\H v=some (IView v d)/\H d=some (.dK (kvs.map iiK))/\kvs.length<64/\
  ∀(l:Addr) (as:List Addr) (ms:List (Int×Int)) (H':Hp),Same H H'->H l=none->H' l=some (.lst (as.map V.ref))->(∀a∈as,H a=none)->ms.Perm kvs->(ms.map (·.1)).Pairwise (·<=·)->as.length=ms.length->(∀(i:Nat) (a:Addr) (p:Int×Int),as[i]?=some a->ms[i]?=some p->H' a=some (.tup [.int p.1,.int p.2]))->Q (.ref l) H'):=by
 intro pins s σ H xs us Q I r h;obtain⟨v,d,kvs,rfl,ev,ed,h64,q⟩:=h;obtain⟨u,rfl,ru⟩:=vals1 r;cases ru;obtain⟨z1,hd1,vs1,r1,dd1⟩:=YM I.hok ed;have hv:s.heap.get? v=some {cls:=.type "dict_items",data:=.fields #[.ref d]}:=(I.hok v _ ev).1;obtain⟨ep,da⟩:=dd1.dictAt;have lv:=r1.length;rw[length_map]at lv;have nd:(kvs.map (·.1)).Nodup:=by
  have n1:(vs1.map (·.1)).Nodup:=let ⟨_,_,_,_,_,_,_,_,hn⟩:=dd1;hn;rw[<-r1.keys,map_map]at n1;refine pairwise_map.mpr ((pairwise_map.mp n1).imp fun {a b} h e=>h ?_);show(Sum.inl a.1:Key)=Sum.inl b.1;rw[e]
 refine Calls.call_function_entry kind_sorted plain_sorted entry_sorted (args_sorted1 (.ref v)) ?_;unfold Builtin.«sorted»;refine wpAny_bind (m:=checkCount "sorted" 1 1 1) (wpAny_pure ?_);refine wpAny_bind (kdx_collect (knd:=mixKind X.prog X.w) (kvs:=vs1) (ep:=ep) (A:=X.A.in1) (I.ok.hd hc) ⟨_,hv,rfl,rfl⟩ da (by rw[<-lv,sizeLine_eq];omega) fun h1 tk as hk hl hG=>?_);rw[<-lv]at hl;refine wpAny_bind (wpAny_newList ?_ (by rw[length_map,hl,sizeLine_eq];omega));have hoL:(h1.push (seqObj "list" (as.map Value.ref).toArray 0)).get? h1.objs.size=some (seqObj "list" (as.map Value.ref).toArray 0):=Heap.get?_push_size _ rfl;have hna:h1.objs.size∉as:=fun z=>Nat.lt_irrefl _ (hG.there z)
 have key:∀i p,kvs[i]?=some p->(fun i=>(kvs.getD i (0,0)).1) i=p.1/\(fun i=>(kvs.getD i (0,0)).2) i=p.2:=fun i p e=>by
  dsimp only;rw[getD_eq_getElem?_getD,e];exact⟨rfl,rfl⟩
 have xQ:∀i a,as[i]?=some a->∃t u,(h1.push (seqObj "list" (as.map Value.ref).toArray 0)).get? a=some {cls:=.type "tuple",data:=.seq #[.int ((fun i=>(kvs.getD i (0,0)).1) i) t,.int ((fun i=>(kvs.getD i (0,0)).2) i) u]}:=fun i a e=>by
  obtain⟨ky,k,x,e1,e2,e3⟩:=hG.pairs i a e;have hi:i<kvs.length:=by rw[<-hl];exact(List.getElem?_eq_some_iff.mp e).1
  obtain⟨w',e4,rw'⟩:=KV.get r1 (i:=i) (p:=iiK kvs[i]) (by rw[List.getElem?_map,List.getElem?_eq_getElem hi];rfl);rw[e1]at e4;cases e4;obtain⟨ek,t2,ex⟩:=rw';have ek':k=Sum.inl kvs[i].1:=ek.symm;subst ek';have ex':x = .int kvs[i].2 t2:=ex;subst ex';obtain⟨g1,g2⟩:=key i _ (List.getElem?_eq_getElem hi);rw[show(fun i=>(kvs.getD i (0,0)).1) i=kvs[i].1 from g1,show(fun i=>(kvs.getD i (0,0)).2) i=kvs[i].2 from g2];rcases Jv (show keyIs (Sum.inl kvs[i].1) ky=true from e2)with⟨n,t,q1,q2⟩ | ⟨n,t,q1,q2⟩
  ·cases q1;subst q2;exact⟨t,t2,Heap.get?_push_of_some _ e3⟩
  ·cases q1
 have xP:PrAt (h1.push (seqObj "list" (as.map Value.ref).toArray 0)) as (fun i=>(kvs.getD i (0,0)).1):=fun i a e=>by
  obtain⟨t,u,z⟩:=xQ i a e;exact⟨_,t,_,_,z,rfl,rfl⟩
 have inj:∀i j,i<as.length->j<as.length->(fun i=>(kvs.getD i (0,0)).1) i=(fun i=>(kvs.getD i (0,0)).1) j->i=j:=fun i j hi hj e=>by
  rw[hl]at hi hj;obtain⟨g1,_⟩:=key i _ (List.getElem?_eq_getElem hi);obtain⟨g2,_⟩:=key j _ (List.getElem?_eq_getElem hj);rw[g1,g2]at e;rcases Nat.lt_trichotomy i j with z | z | z
  ·exact absurd e (by have:=pairwise_iff_getElem.mp nd i j (by rw[length_map];exact hi) (by rw[length_map];exact hj) z;simpa using this)
  ·exact z
  ·exact absurd e.symm (by have:=pairwise_iff_getElem.mp nd j i (by rw[length_map];exact hj) (by rw[length_map];exact hi) z;simpa using this)
 refine wpAny_bind (wpAny_holding (wpAny_call_entry slot_list_sort ⟨_,hoL,rfl⟩ entry_list_sort (j0P (s:={s with heap:=h1.push (seqObj "list" (as.map Value.ref).toArray 0),toks:=tk}) hoL hna xP inj (by rw[hl];exact h64) fun qs h2 c hq hs kk o2=>⟨_,rfl,?_⟩) (args_list_sort _)));refine wpAny_pure ⟨_,rfl,?_⟩;have ltB:∀b o,s.heap.get? b=some o->b<h1.objs.size:=fun b o e=>Heap.lt_size (hk b o e)
 have k2:∀b o,s.heap.get? b=some o->h2.get? b=some o:=fun b o e=>kk b o (Nat.ne_of_lt (ltB b o e)) (Heap.get?_push_of_some _ (hk b o e))
 have I2:Inv X pins σ H {s with heap:=h2,toks:=tk}:=I.kept (t':=tk) k2;have hB:H h1.objs.size=none:=I.none_at hk;have nB:=I.newB hk;have ha:∀a∈as,H a=none/\NewA X pins a:=fun a h=>⟨I.hok.fresh (Nat.le_of_lt (hG.above a h)),I.newA (Nat.le_of_lt (hG.above a h))⟩
 have qlt:∀i∈qs,i<as.length:=fun i hi=>mem_range.mp (hq.mem_iff.mp hi)
 have ndw:(((h1.objs.size,HO.lst ((qs.map fun i=>as.getD i 0).map V.ref))::(List.range as.length).map fun i=>(as.getD i 0,HO.tup [.int (kvs.getD i (0,0)).1,.int (kvs.getD i (0,0)).2])).map (·.1)).Nodup:=by
  rw[map_cons,nodup_cons,map_map];have e2:(List.range as.length).map ((fun x=>x.1)∘fun i=>(as.getD i 0,HO.tup [.int (kvs.getD i (0,0)).1,.int (kvs.getD i (0,0)).2]))=as:=List.ext_getElem (by simp) fun i h1 h2=>by
   rw[getElem_map,List.getElem_range];show as.getD i 0=_;rw[getD_eq_getElem?_getD,List.getElem?_eq_getElem h2];rfl
  rw[e2];exact⟨hna,hG.rise.imp fun h=>Nat.ne_of_lt h⟩
 obtain⟨H',I3,s3,k3⟩:=I2.trackAll ((h1.objs.size,HO.lst ((qs.map fun i=>as.getD i 0).map V.ref))::(List.range as.length).map fun i=>(as.getD i 0,HO.tup [.int (kvs.getD i (0,0)).1,.int (kvs.getD i (0,0)).2])) (fun p hp=>by
  rcases mem_cons.mp hp with rfl | hp
  ·refine⟨hB,nB,fun H'=>⟨?_,_,c,valsR _,o2⟩⟩;rw[length_map,length_map,hq.length_eq,List.length_range,hl,sizeLine_eq];omega
  ·obtain⟨i,hi,rfl⟩:=mem_map.mp hp;have hi:=mem_range.mp hi;have e:as[i]?=some (as.getD i 0):=by rw[getD_eq_getElem?_getD,List.getElem?_eq_getElem hi];rfl
   obtain⟨t1,t2,eo⟩:=xQ i _ e;have hm:=List.mem_of_getElem? e;obtain⟨n1,n2⟩:=ha _ hm;exact⟨n1,n2,fun H'=>⟨(by show 2<=sizeLine;decide),[_,_],.cons ⟨t1,rfl⟩ (.cons ⟨t2,rfl⟩ .nil),⟨_,kk _ _ (fun z=>hna (z▸hm)) eo,rfl,_,rfl⟩⟩⟩) ndw
 ·refine⟨.ref h1.objs.size,H',I3,rfl,q h1.objs.size (qs.map fun i=>as.getD i 0) (qs.map fun i=>kvs.getD i (0,0)) H' s3 hB (k3 _ mem_cons_self) (fun a h=>?_) ?_ ?_ (by rw[length_map,length_map]) fun i a p e1 e2=>?_⟩
  ·obtain⟨i,hi,rfl⟩:=mem_map.mp h;have e:as[i]?=some (as.getD i 0):=by rw[getD_eq_getElem?_getD,List.getElem?_eq_getElem (qlt i hi)];rfl
   exact(ha _ (List.mem_of_getElem? e)).1
  ·have e:=hq.map fun i=>kvs.getD i (0,0)
   rw[hl]at e;have e2:(List.range kvs.length).map (fun i=>kvs.getD i (0,0))=kvs:=List.ext_getElem (by simp) fun i h1 h2=>by
    rw[getElem_map,List.getElem_range,getD_eq_getElem?_getD,List.getElem?_eq_getElem h2];rfl
   rw[e2]at e;exact e
  ·rw[map_map];exact hs
  ·rw[List.getElem?_map]at e1 e2;obtain⟨j,hj,rfl⟩:=Option.map_eq_some_iff.mp e1;rw[hj]at e2;cases e2;exact k3 _ (mem_cons_of_mem _ (mem_map.mpr ⟨j,mem_range.mpr (qlt j (List.mem_of_getElem? hj)),rfl⟩))
end
theorem YD:∀{as:List Addr} {us:List Value},Vals (as.map V.ref) us->us=as.map Value.ref
 | [],_,r=>by cases r;rfl
 | a::as,_,r=>by
  cases r with
  | cons r1 r2=>rw[YD r2,show _=Value.ref a from r1];rfl
theorem WD{h:Heap}:∀{as:List Addr} {kvs:List (Int×Int)},as.length=kvs.length->(∀(i:Nat) (a:Addr) (q:Int×Int),as[i]?=some a->kvs[i]?=some q->∃t u,IsTup h a #[.int q.1 t,.int q.2 u])->
  ∃ps:List (Key×Value),KV (kvs.map iiK) ps/\ps.length=kvs.length/\∀(j:Nat) (kv:Key×Value),ps[j]?=some kv->∃a key,as[j]?=some a/\IsTup h a #[key,kv.2]/\keyIs kv.1 key=true
 | [],[],_,_=>⟨[],.nil,rfl,fun j kv e=>by simp at e⟩
 | [],_::_,l,_=>by simp at l
 | _::_,[],l,_=>by simp at l
 | a::as,q::kvs,l,f=>by
  obtain⟨ps,h1,h2,h3⟩:=WD (as:=as) (kvs:=kvs) (by simpa using l) fun i a q e1 e2=>f (i+1) a q (by simpa using e1) (by simpa using e2)
  obtain⟨t,u,e⟩:=f 0 a q rfl rfl;refine⟨(Sum.inl q.1,.int q.2 u)::ps,.cons ⟨rfl,u,rfl⟩ h1,by rw[length_cons,h2,length_cons],fun j kv ej=>?_⟩;cases j with
  | zero=>simp at ej;subst ej;exact⟨a,_,rfl,e,KB _ _⟩
  | succ j=>obtain⟨b,ky,b1,b2,b3⟩:=h3 j kv (by simpa using ej);exact⟨b,ky,by simpa using b1,b2,b3⟩
section
variable{X:Cx}
theorem WS(hc:X.calm=true):CallR X (.type "dict") (fun xs H Q=>∃(p:Addr) (as:List Addr) (kvs:List (Int×Int)),xs=[.ref p]/\H p=some (.lst (as.map V.ref))/\as.length=kvs.length/\
  (∀(i:Nat) (a:Addr) (q:Int×Int),as[i]?=some a->kvs[i]?=some q->H a=some (.tup [.int q.1,.int q.2]))/\∀d,H d=none->Q (.ref d) (upd H d (.dK (mergeK [] (kvs.map iiK))))):=by
 intro pins s σ H xs us Q I r h;obtain⟨p,as,kvs,rfl,ep,hl,ht,q⟩:=h;obtain⟨u,rfl,ru⟩:=vals1 r;cases ru;obtain⟨z,its,n,rv,lv,e⟩:=I.lstM ep;have ei:=YD rv;subst ei;rw[length_map]at z;have hp:p<s.heap.objs.size:=Heap.lt_size e;obtain⟨ps,kp,pl,pt⟩:=WD (h:=s.heap) hl fun i a q e1 e2=>by
  obtain⟨_,its,r',t'⟩:=I.hok a _ (ht i a q e1 e2);cases r' with
  | cons ra rr=>
   cases rr with
   | cons rb rr=>
    cases rr;obtain⟨t1,rfl⟩:=ra;obtain⟨t2,rfl⟩:=rb;exact⟨t1,t2,t'⟩
 refine callType_codes (Q₁:=fun obj s₁=>obj = .ref s.heap.objs.size/\s₁={s with heap:=s.heap.push {cls:=.type "dict",data:=.dict #[]}}) PySem.F.kt_called_dict (PySem.F.kt_typeCall_dict_1 (.ref p)) PySem.F.entry_dict_init (kt_code_dict_new (.ref p) ⟨rfl,rfl⟩) ?_;rintro obj s₁ ⟨rfl,rfl⟩;have hnew:(s.heap.push {cls:=.type "dict",data:=.dict #[]}).DictOf (mixKind X.prog X.w) s.heap.objs.size []:=Heap.DictOf.new s.heap;have k0:∀b o,s.heap.get? b=some o->(s.heap.push {cls:=.type "dict",data:=.dict #[]}).get? b=some o:=fun b o e=>Heap.get?_push_of_some _ e
 generalize s.heap.push {cls:=.type "dict",data:=.dict #[]}=h0 at hnew k0;refine⟨hnew.typeIs (s:={s with heap:=h0}),PySem.F.args_dict_init_2 _ _,?_⟩;unfold Builtin.«dict.__init__»;refine wpAny_bind ?_;unfold Builtin.Dict.selfAndRest;refine wpAny_bind (wpAny_notOrdered_dict (hnew.typeIs (s:={s with heap:=h0})) ?_);show wpAny (model X.prog X.w) _ (pure (s.heap.objs.size,[Value.ref p])) _ _ _;refine wpAny_pure ?_;show wpAny (model X.prog X.w) _ (Builtin.Dict.updateFrom "dict.__init__" s.heap.objs.size (.ref p) [] .none) _ _ _;unfold Builtin.Dict.updateFrom;refine wpAny_bind (wpAny_typeOf (T:="list") ⟨_,k0 _ _ e,rfl⟩ ?_);rw[if_pos (by decide)];refine wpAny_bind (noKeys (s:={s with heap:=h0}) (k0 _ _ e) rfl rfl rfl (I.ok.hd hc) fun h1 tk k1=>?_);rw[if_pos (show(none:Option Value).isNone=true from rfl)];have k01:∀b o,s.heap.get? b=some o->h1.get? b=some o:=fun b o e=>k1 b o (k0 b o e)
 have dd1:h1.DictOf (mixKind X.prog X.w) s.heap.objs.size []:=hnew.keep k1;have ld:s.heap.objs.size<h1.objs.size:=by obtain⟨_,_,_,hg,_⟩:=dd1;exact Heap.lt_size hg
 have lp:p<h1.objs.size:=Nat.lt_trans hp ld;refine wpAny_bind (wpAny_rule ?_);refine wpAny_bind (wpAny_pyIter_list (l:=p) (items:=(as.map Value.ref).toArray) ⟨_,k01 _ _ e,rfl,n,rfl⟩ ?_);refine wpAny_pure ⟨plainId_quiet yd _,?_⟩;refine dul (knd:=mixKind X.prog X.w) (A:=X.A.in1) (d:=s.heap.objs.size) (it:=h1.objs.size) (l:=p) (items:=as.map Value.ref) (res:=.none) (I.ok.hd hc) (Nat.ne_of_lt ld) (Nat.ne_of_gt hp) (Nat.ne_of_gt lp) ps 0 [] _
  ⟨_,Heap.get?_push_size _ rfl,rfl,rfl⟩ ⟨_,Heap.get?_push_of_some _ (k01 _ _ e),rfl,n,rfl⟩ (by rw[length_map,hl,pl,Nat.zero_add]) (fun j kv ej=>?_) (dd1.push _) (by rw[length_nil,pl,<-hl,Nat.zero_add];exact z) fun h2 tk2 k2 dd2=>?_
 ·obtain⟨a,ky,b1,⟨o,b2,b3⟩,b4⟩:=pt j kv ej;have la:a<s.heap.objs.size:=Heap.lt_size b2;exact⟨a,ky,by rw[Nat.zero_add,List.getElem?_map,b1];rfl,⟨o,Heap.get?_push_of_some _ (k01 _ _ b2),b3⟩,b4,Nat.ne_of_lt la,Nat.ne_of_lt (Nat.lt_trans la ld)⟩
 ·refine⟨rfl,.ref s.heap.objs.size,upd H s.heap.objs.size (.dK (mergeK [] (kvs.map iiK))),I.laid (t':=tk2) (fun b o eb=>k2 b o (Nat.ne_of_lt (Heap.lt_size eb)) (Nat.ne_of_lt (Nat.lt_trans (Heap.lt_size eb) ld)) (Heap.get?_push_of_some _ (k01 _ _ eb))) (Nat.le_refl _) ?_,rfl,q _ (I.hok.fresh (Nat.le_refl _))⟩;have hm:=Q3 (kvs.map iiK) [];rw[length_nil,length_map]at hm;have hns:(s.heap.objs.size==sysModules)=false:=by
   rw[beq_eq_false_iff_ne];exact Nat.ne_of_gt I.big
  exact K7 (by omega) hns (kp.merge .nil) dd2
end
theorem xZ{H:Hp}:∀(ks:List Int),DVs H (ks.map V.int) (ks.map PyData.int)
 | []=>.nil
 | k::r=>.cons (.int k) (xZ r)
theorem j1f(ks:List Int):PyData.eqv (.list (ks.map PyData.int)) (.list [])=decide (ks=[]):=by
 cases ks<;>simp[PyData.eqv,PyData.eqvAll]
theorem xv{X:Cx}(hu:X.A.units+64<cLine):OpR X (compareOp .In) (fun x y H Q=>∃(a l:Addr) (as:List Addr) (hs:List (List Int)),x = .ref a/\y = .ref l/\H a=some (.lst [])/\H l=some (.lst (as.map V.ref))/\as.length=hs.length/\
  (∀(i:Nat) (b:Addr) (ks:List Int),as[i]?=some b->hs[i]?=some ks->H b=some (.lst (ks.map V.int)))/\Q (.bl (hs.any fun ks=>decide (ks=[]))) H):=by
 intro pins s σ H x y v u Q I rx ry h;obtain⟨a,l,as,hs,rfl,rfl,ea,el,hl,hh,q⟩:=h;cases rx;cases ry;obtain⟨its,r,pl,hz⟩:=I.list (SqL.of el);have ei:=YD r;subst ei;obtain⟨ba,ra⟩:=zG I (DV.lst ea .nil) (show RelV (.ref a) (.ref a)from rfl)
 classical
 have rd:∀(i:Nat) (b:Addr) (ks:List Int),as[i]?=some b->hs[i]?=some ks->∃bb,Reads s.heap (.ref b) (.list (ks.map PyData.int)) bb:=fun i b ks e1 e2=>zG I (DV.lst (hh i b ks e1 e2) (xZ ks)) (show RelV (.ref b) (.ref b)from rfl)
 have fe:∀(i:Nat) (b:Addr) (ks:List Int),as[i]?=some b->hs[i]?=some ks->decide (∃bb,Reads s.heap (.ref b) (.list []) bb)=decide (ks=[]):=fun i b ks e1 e2=>by
  obtain⟨bb,rb⟩:=rd i b ks e1 e2;rw[decide_eq_decide];constructor
  ·rintro⟨cc,rc⟩;have e:=SeqAt.Reads.unique _ _ _ _ _ (show PyData.canLay0 (.list [])=true from rfl) rc rb;cases ks with
   | nil=>rfl
   | cons k r=>simp at e
  ·rintro rfl;exact⟨bb,rb⟩
 refine SeqAt.in_listAt (fun w=>decide (∃bb,Reads s.heap w (.list []) bb)) pl.isList (fun w hw=>?_) ⟨.bl _,H,I,rfl,?_⟩
 ·obtain⟨i,hi,e⟩:=mem_iff_getElem.mp (show w∈as.map Value.ref by simpa using hw);rw[getElem_map]at e;rw[length_map]at hi;subst e;have e1:as[i]?=some as[i]:=List.getElem?_eq_getElem hi;have e2:hs[i]?=some hs[i]:=List.getElem?_eq_getElem (by omega);obtain⟨bb,rb⟩:=rd i _ _ e1 e2;have z:=SeqAt.eqAt_reads _ _ X.A.in1 s _ _ _ _ rb ra (by show PyData.canLayAll0 _=true;exact ke_canLayAll0 _) rfl (by
   show X.A.in1.units+min (PyData.depthAll _+1) (0+1)<cLine;have h1:X.A.in1.units=X.A.units+1:=rfl;omega)
  rw[j1f,<-fe i _ _ e1 e2]at z;exact z
 ·have e:(as.map Value.ref).toArray.any (fun w=>decide (∃bb,Reads s.heap w (.list []) bb))=hs.any fun ks=>decide (ks=[]):=by
   rw[List.any_toArray,any_map,Bool.eq_iff_iff,any_eq_true,any_eq_true];constructor
   ·rintro⟨b,hb,hw⟩;obtain⟨i,hi,rfl⟩:=mem_iff_getElem.mp hb;exact⟨hs[i],List.getElem_mem _,by rw[<-fe i _ _ (List.getElem?_eq_getElem hi) (List.getElem?_eq_getElem (by omega))];exact hw⟩
   ·rintro⟨ks,hk,hw⟩;obtain⟨i,hi,rfl⟩:=mem_iff_getElem.mp hk;refine⟨as[i],List.getElem_mem _,?_⟩;show decide _=true;rw[fe i _ _ (List.getElem?_eq_getElem (by omega)) (List.getElem?_eq_getElem hi)];exact hw
  rw[e];exact q
section
variable{X:Cx}
end
section
variable{X:Cx}{e:Expr}{te:TE}
end
section
variable{prog:Program}{w:World}{A:Around}{E:Value->Shared->Prop}{s:Shared}
end
section
variable{X:Cx}{tg:Expr}
end
section
variable{X:Cx}
theorem X1:MtR X "list.index" (fun x vs H Q=>∃(p:Addr) (xs:List V) (y z:V) (j:Nat),x = .ref p/\vs=[y]/\SqL X.K H p xs/\flatV y=true/\xs.all flatV=true/\xs[j]?=some z/\eqV z y=true/\(∀(m:Nat) (z':V),m<j->xs[m]?=some z'->eqV z' y=false)/\Q (.int j) H):=by
 intro pins s σ H x vs v us Q I rx rv h;obtain⟨p,xs,y,z,j,rfl,rfl,hx,fy,fx,hj,ez,hno,q⟩:=h;cases rx;obtain⟨u,rfl,ru⟩:=vals1 rv;obtain⟨its,r,pl,hz⟩:=I.list hx;have lx:=r.length;have jl:=(List.getElem?_eq_some_iff.mp hj).1;obtain⟨w',hw,rw'⟩:=r.get hj;have fz:flatV z=true:=List.all_eq_true.mp fx z (List.mem_of_getElem? hj);obtain⟨⟨cls,dd,data,sl⟩,ho,hc,n,hd⟩:=id pl.isList;simp only at hc hd;subst hc hd;have hj':j<its.toArray.size:=by rw[size_toArray];omega
 have sl62:sizeLine<2^62:=by decide
 have j62:(j:Int)<2^63-1:=by omega
 refine call_meets F.slot_list_index pl.isList.typeIs F.entry_list_index (F.args_list_index_2 _ _) (SeqAt.list_indexAt p its.toArray n dd sl u (eqU y) j hj' j62 ?_ ?_) ⟨ho,fun y' hy'=>zI ru fy r fx y' (by simpa using hy'),⟨.int j,H,I.tok _,⟨_,rfl⟩,q⟩⟩
 ·have e:its.toArray[j]=w':=by
   have:=List.getElem?_eq_some_iff.mp hw;obtain⟨h,e⟩:=this;simpa using e
  rw[e,kq rw' fz];exact ez
 ·intro m hm hmj;have hm':m<its.length:=by rw[size_toArray]at hm;exact hm
  obtain⟨z',hz'⟩:∃z',xs[m]?=some z':=⟨_,List.getElem?_eq_getElem (by omega)⟩
  obtain⟨w2,hw2,rw2⟩:=r.get hz';have e:its.toArray[m]=w2:=by
   obtain⟨h,e⟩:=List.getElem?_eq_some_iff.mp hw2;simpa using e
  rw[e,kq rw2 (List.all_eq_true.mp fx z' (List.mem_of_getElem? hz'))];exact hno m z' hmj hz'
end
section
variable{prog:Program}{w:World}{A:Around}{E:Value->Shared->Prop}{s:Shared}
end
section
variable{X:Cx}{pos:Pos}
end
section
variable{σ:St}{H:Hp}{D:Ends}{Q:VK}{ta tb te:TE}
theorem rd_seq{t u:TS}(h:t {D with nx:=u D} σ H):tSeq t u D σ H:=h
theorem rd_asg{g:TG}(h:te σ H fun x H1=>g x σ H1 D.nx):tAsg te g D σ H:=h
theorem rd_v0{v:V}{r:St}(h:Q v H):tVar 0 (some v::r) H Q:=⟨v,rfl,h⟩
theorem rd_n0{a0:Option V}{v:V}{r:St}{R:St->Hp->Prop}(h:R (some v::r) H):gName 0 v (a0::r) H R:=h
theorem rd_v1{a0:Option V}{v:V}{r:St}(h:Q v H):tVar 1 (a0::some v::r) H Q:=⟨v,rfl,h⟩
theorem rd_n1{a0 a1:Option V}{v:V}{r:St}{R:St->Hp->Prop}(h:R (a0::some v::r) H):gName 1 v (a0::a1::r) H R:=h
theorem rd_v2{a0 a1:Option V}{v:V}{r:St}(h:Q v H):tVar 2 (a0::a1::some v::r) H Q:=⟨v,rfl,h⟩
theorem rd_n2{a0 a1 a2:Option V}{v:V}{r:St}{R:St->Hp->Prop}(h:R (a0::a1::some v::r) H):gName 2 v (a0::a1::a2::r) H R:=h
theorem rd_v3{a0 a1 a2:Option V}{v:V}{r:St}(h:Q v H):tVar 3 (a0::a1::a2::some v::r) H Q:=⟨v,rfl,h⟩
theorem rd_n3{a0 a1 a2 a3:Option V}{v:V}{r:St}{R:St->Hp->Prop}(h:R (a0::a1::a2::some v::r) H):gName 3 v (a0::a1::a2::a3::r) H R:=h
theorem rd_v4{a0 a1 a2 a3:Option V}{v:V}{r:St}(h:Q v H):tVar 4 (a0::a1::a2::a3::some v::r) H Q:=⟨v,rfl,h⟩
theorem rd_n4{a0 a1 a2 a3 a4:Option V}{v:V}{r:St}{R:St->Hp->Prop}(h:R (a0::a1::a2::a3::some v::r) H):gName 4 v (a0::a1::a2::a3::a4::r) H R:=h
theorem rd_v5{a0 a1 a2 a3 a4:Option V}{v:V}{r:St}(h:Q v H):tVar 5 (a0::a1::a2::a3::a4::some v::r) H Q:=⟨v,rfl,h⟩
theorem rd_n5{a0 a1 a2 a3 a4 a5:Option V}{v:V}{r:St}{R:St->Hp->Prop}(h:R (a0::a1::a2::a3::a4::some v::r) H):gName 5 v (a0::a1::a2::a3::a4::a5::r) H R:=h
theorem rd_v6{a0 a1 a2 a3 a4 a5:Option V}{v:V}{r:St}(h:Q v H):tVar 6 (a0::a1::a2::a3::a4::a5::some v::r) H Q:=⟨v,rfl,h⟩
theorem rd_n6{a0 a1 a2 a3 a4 a5 a6:Option V}{v:V}{r:St}{R:St->Hp->Prop}(h:R (a0::a1::a2::a3::a4::a5::some v::r) H):gName 6 v (a0::a1::a2::a3::a4::a5::a6::r) H R:=h
theorem rd_v7{a0 a1 a2 a3 a4 a5 a6:Option V}{v:V}{r:St}(h:Q v H):tVar 7 (a0::a1::a2::a3::a4::a5::a6::some v::r) H Q:=⟨v,rfl,h⟩
theorem rd_n7{a0 a1 a2 a3 a4 a5 a6 a7:Option V}{v:V}{r:St}{R:St->Hp->Prop}(h:R (a0::a1::a2::a3::a4::a5::a6::some v::r) H):gName 7 v (a0::a1::a2::a3::a4::a5::a6::a7::r) H R:=h
theorem rd_v8{a0 a1 a2 a3 a4 a5 a6 a7:Option V}{v:V}{r:St}(h:Q v H):tVar 8 (a0::a1::a2::a3::a4::a5::a6::a7::some v::r) H Q:=⟨v,rfl,h⟩
theorem rd_n8{a0 a1 a2 a3 a4 a5 a6 a7 a8:Option V}{v:V}{r:St}{R:St->Hp->Prop}(h:R (a0::a1::a2::a3::a4::a5::a6::a7::some v::r) H):gName 8 v (a0::a1::a2::a3::a4::a5::a6::a7::a8::r) H R:=h
theorem rd_v9{a0 a1 a2 a3 a4 a5 a6 a7 a8:Option V}{v:V}{r:St}(h:Q v H):tVar 9 (a0::a1::a2::a3::a4::a5::a6::a7::a8::some v::r) H Q:=⟨v,rfl,h⟩
theorem rd_n9{a0 a1 a2 a3 a4 a5 a6 a7 a8 a9:Option V}{v:V}{r:St}{R:St->Hp->Prop}(h:R (a0::a1::a2::a3::a4::a5::a6::a7::a8::some v::r) H):gName 9 v (a0::a1::a2::a3::a4::a5::a6::a7::a8::a9::r) H R:=h
theorem rd_const{v:V}(h:Q v H):tC v σ H Q:=h
theorem rd_op{r:R2}(h:ta σ H fun x H1=>tb σ H1 fun y H2=>r x y H2 Q):tOp r ta tb σ H Q:=h
theorem rd_un{r:V->Hp->VK->Prop}(h:ta σ H fun x H1=>r x H1 Q):tUn r ta σ H Q:=h
theorem rd_i0{g:Int->Int->V}{i j:Int}(h:Q (g i j) H):rI0 g (.int i) (.int j) H Q:=⟨i,j,rfl,rfl,h⟩
theorem j2Z{C:Int->Int->Prop}{g:Int->Int->V}{i j:Int}(c:C i j)(h:Q (g i j) H):rI C g (.int i) (.int j) H Q:=⟨i,j,rfl,rfl,c,h⟩
theorem rd_u{g:Int->V}{i:Int}(h:Q (g i) H):rU g (.int i) H Q:=⟨i,rfl,h⟩
theorem rd_eqI{i j:Int}(h:Q (.bl (decide (i=j))) H):rEq (.int i) (.int j) H Q:=by
 refine⟨rfl,?_⟩;rw[show decide (V.int i=V.int j)=decide (i=j) by simp];exact h
theorem rd_neI{i j:Int}(h:Q (.bl (!decide (i=j))) H):rNe (.int i) (.int j) H Q:=by
 refine⟨rfl,?_⟩;rw[show decide (V.int i=V.int j)=decide (i=j) by simp];exact h
theorem rd_eqS{i j:Str}(h:Q (.bl (decide (i=j))) H):rEq (.str i) (.str j) H Q:=by
 refine⟨rfl,?_⟩;rw[show decide (V.str i=V.str j)=decide (i=j) by simp];exact h
theorem rd_neS{i j:Str}(h:Q (.bl (!decide (i=j))) H):rNe (.str i) (.str j) H Q:=by
 refine⟨rfl,?_⟩;rw[show decide (V.str i=V.str j)=decide (i=j) by simp];exact h
theorem rd_if{c:TT}{t u:TS}(h:c σ H fun b H1=>if b=true then t D σ H1 else u D σ H1):tIfS c t u D σ H:=h
theorem rd_test{R:Bool->Hp->Prop}(h:te σ H fun x H'=>∃k,x = .bl k/\R k H'):tTest te σ H R:=h
theorem rd_tB{R:Bool->Hp->Prop}(h:te σ H fun x H'=>∃k,x = .bl k/\R k H'):tB te σ H R:=h
theorem rd_blP{k:Bool}{R:Bool->Prop}(h:R k):∃k',V.bl k = .bl k'/\R k':=⟨k,rfl,h⟩
theorem rd_not{t:TT}{R:Bool->Hp->Prop}(h:t σ H fun c H1=>R (!c) H1):tNot t σ H R:=h
theorem rd_and{t u:TT}{R:Bool->Hp->Prop}(h:t σ H fun c H1=>if c=true then u σ H1 R else R false H1):tAnd t u σ H R:=h
theorem rd_or{t u:TT}{R:Bool->Hp->Prop}(h:t σ H fun c H1=>if c=true then R true H1 else u σ H1 R):tOr t u σ H R:=h
theorem rd_andV(h:ta σ H fun x H1=>∃c,x = .bl c/\if c=true then tb σ H1 Q else Q (.bl false) H1):tAndV ta tb σ H Q:=h
theorem rd_notV(h:ta σ H fun x H1=>∃c,x = .bl c/\Q (.bl (!c)) H1):tNotV ta σ H Q:=h
theorem rd_ifE{t:TT}(h:t σ H fun c H1=>if c=true then ta σ H1 Q else tb σ H1 Q):tIf t ta tb σ H Q:=h
theorem rd_ret(h:te σ H D.rt):tRet te D σ H:=h
theorem rd_retN(h:D.rt .non H):tRetN D σ H:=h
theorem rd_next(h:D.nx σ H):tNext D σ H:=h
theorem rd_drop(h:te σ H fun _ H1=>D.nx σ H1):tDrop te D σ H:=h
theorem rd_cb{r:List V->Hp->VK->Prop}{t:TA}(h:t σ H fun vs H1=>r vs H1 Q):tCB r t σ H Q:=h
theorem rd_call{sp:Sp}{dvs:List V}{E:XK}{t:TA}(h:t σ H fun vs H1=>sp (vs++dvs) H1 Q E):tCall sp dvs E t σ H Q:=h
theorem rd_dIn(h:ta σ H fun y H1=>tb σ H1 fun x H2=>∃a o,x = .ref a/\DGet H2 a y o/\Q (.bl o.isSome) H2):tDIn ta tb σ H Q:=h
theorem rd_nil{R:List V->Hp->Prop}(h:R [] H):tNil σ H R:=h
theorem rd_cons{tr:TA}{R:List V->Hp->Prop}(h:ta σ H fun x H1=>tr σ H1 fun xs H2=>R (x::xs) H2):tCons ta tr σ H R:=h
theorem rd_lst{t:TA}(h:t σ H fun xs H1=>xs.length<=sizeLine/\∀p,H1 p=none->Q (.ref p) (upd H1 p (.lst xs))):tLst t σ H Q:=h
theorem rd_tup{t:TA}(h:t σ H fun xs H1=>xs.length<=sizeLine/\∀p,H1 p=none->Q (.ref p) (upd H1 p (.tup xs))):tTup t σ H Q:=h
theorem rd_bm{K:Frg}{T:String}{r:V->List V->Hp->VK->Prop}{t:TA}(h:te σ H fun x H1=>tyV K T x H1/\t σ H1 fun xs H2=>r x xs H2 Q):tBM K T r te t σ H Q:=h
theorem rd_sl{r:V->Option Int->Option Int->Hp->VK->Prop}{tl th:TO}(h:te σ H fun x H1=>tl σ H1 fun l H2=>th σ H2 fun u H3=>r x l u H3 Q):tSl r te tl th σ H Q:=h
theorem rd_nopart{R:Option Int->Hp->Prop}(h:R none H):tNoPart σ H R:=h
theorem rd_part{R:Option Int->Hp->Prop}(h:te σ H fun x H1=>∃i,x = .int i/\R (some i) H1):tPart te σ H R:=h
theorem rd_int{i:Int}{R:Int->Prop}(h:R i):∃i',V.int i = .int i'/\R i':=⟨i,rfl,h⟩
theorem iteD{p A B:Prop}[Decidable p](h1:p->A)(h2:¬p->B):if decide p=true then A else B:=by
 by_cases h:p
 ·rw[if_pos (decide_eq_true h)];exact h1 h
 ·rw[if_neg (by simpa using h)];exact h2 h
theorem iteN{p A B:Prop}[Decidable p](h1:¬p->A)(h2:p->B):if(!decide p)=true then A else B:=by
 by_cases h:p
 ·rw[if_neg (by simpa using h)];exact h2 h
 ·rw[if_pos (by simpa using h)];exact h1 h
theorem rd_rng1{ta:TA}{R:It->Hp->Prop}(h:ta σ H fun vs H1=>∃j:Int,vs=[.int j]/\-(2^62)<=j/\j<2^62/\R (Itr 0 j.toNat) H1):iRng1 ta σ H R:=h
theorem rd_iList{K:Frg}{R:It->Hp->Prop}(h:te σ H fun x H1=>∃a,x = .ref a/\(∃xs,SqL K H1 a xs)/\R (Itl K a) H1):iList K te σ H R:=h
theorem rd_p6(h:Q (.int (10^6)) H):rI CPow (fun i j=>.int (i^j.toNat)) (.int 10) (.int 6) H Q:=⟨10,6,rfl,rfl,⟨by decide,by decide,by decide⟩,h⟩
theorem rd_p18(h:Q (.int (10^18)) H):rI CPow (fun i j=>.int (i^j.toNat)) (.int 10) (.int 18) H Q:=⟨10,18,rfl,rfl,⟨by decide,by decide,by decide⟩,h⟩
theorem rd_p20(h:Q (.int (10^20)) H):rI CPow (fun i j=>.int (i^j.toNat)) (.int 10) (.int 20) H Q:=⟨10,20,rfl,rfl,⟨by decide,by decide,by decide⟩,h⟩
theorem rd_p60(h:Q (.int (10^60)) H):rI CPow (fun i j=>.int (i^j.toNat)) (.int 10) (.int 60) H Q:=⟨10,60,rfl,rfl,⟨by decide,by decide,by decide⟩,h⟩
theorem rd_p64(h:Q (.int (10^64)) H):rI CPow (fun i j=>.int (i^j.toNat)) (.int 10) (.int 64) H Q:=⟨10,64,rfl,rfl,⟨by decide,by decide,by decide⟩,h⟩
theorem rd_for{wi:TI}{g:TG}{tb:TS} (h:wi σ H fun J H1=>∃W:Nat->Nat->St->Hp->Prop,(∃m,W 0 m σ H1)/\∀i m σ H,W i m σ H->
 (J.stop i H/\D.nx σ H)\/(J.go i H/\∃N:St->Hp->Prop,(∀σ' H',N σ' H'->∃m',m'<m/\W (i+1) m' σ' H')/\∀x H',J.yld i H x H'->g x σ H' fun σ2 H2=>tb {D with nx:=N,ct:=N,bk:=D.nx} σ2 H2)):tFor wi g tb D σ H:=h
theorem rd_comp{wi:TI}{n:Nat}{ci:List Nat}{g:TG}{tf:TT} (h:wi σ H fun J H1=>∃W:Nat->Nat->List V->Hp->Prop,(∃m,W 0 m [] H1)/\∀i m ys H,W i m ys H->
 (J.stop i H/\ys.length<=sizeLine/\∀p,H p=none->Q (.ref p) (upd H p (.lst ys)))\/
 (J.go i H/\∃N:List V->Hp->Prop,(∀ys' H',N ys' H'->∃m',m'<m/\W (i+1) m' ys' H')/\∀x H',J.yld i H x H'->g x (capS n ci σ) H' fun σ2 H2=>tf σ2 H2 fun b H3=>
  if b=true then te σ2 H3 fun v H4=>ys.length<sizeLine/\N (ys++[v]) H4 else N ys H3)):tComp wi n ci g tf te σ H Q:=h
theorem rd_yes{R:Bool->Hp->Prop}(h:R true H):tYes σ H R:=h
theorem Ji{n:Nat}{ci:List Nat}{g:TG}{x:V}{σ':St}{R:St->Hp->Prop}(e:capS n ci σ=σ')(h:g x σ' H R):g x (capS n ci σ) H R:=by rw[e];exact h
theorem jz{t:TS}{σ':St}(e:σ=σ')(h:t D σ' H):t D σ H:=by subst e;exact h
theorem j2o{x y A B:Int}(h1 : -A<=x)(h2:x<=A)(h3 : -B<=y)(h4:y<=B) : -(A*B)<=x*y/\x*y<=A*B:=by
 have hx:x.natAbs<=A.toNat:=by omega
 have hy:y.natAbs<=B.toNat:=by omega
 have h:=Nat.mul_le_mul hx hy;rw[<-Int.natAbs_mul]at h;have e:((A.toNat*B.toNat:Nat):Int)=A*B:=by
  rw[Int.natCast_mul,Int.toNat_of_nonneg (by omega),Int.toNat_of_nonneg (by omega)]
 have h':((x*y).natAbs:Int)<=A*B:=by rw[<-e];exact Int.ofNat_le.mpr h
 omega
theorem j1K{H H':Hp}{p:Addr}{o:HO}(h:H p=none)(e:upd H p o=H'):Same H H':=fun b u q=>by rw[<-e,jh (jf q h)];exact q
theorem j1T{H H':Hp}{p:Addr}{o:HO}(e:upd H p o=H'):H' p=some o:=by rw[<-e];exact jg
end
theorem ixLm{K:Frg}{p:Addr}{xs:List V}{i:Int}{v:V}{H:Hp}{Q:VK}(h:SqL K H p xs)(e:atI xs i=some v)(q:Q v H):rIxL K (.ref p) (.int i) H Q:=⟨p,xs,i,v,rfl,rfl,h,e,q⟩
theorem ixTm{K:Frg}{p:Addr}{xs:List V}{i:Int}{v:V}{H:Hp}{Q:VK}(h:SqT K H p xs)(e:atI xs i=some v)(q:Q v H):rIxT K (.ref p) (.int i) H Q:=⟨p,xs,i,v,rfl,rfl,h,e,q⟩
end L2
local macro_rules | `(tactic| walk_at "side") => `(tactic| first | with_reducible assumption | exact L2.cdivB (by omega) (by omega) | exact L2.mulOk (by omega) (by omega) (by omega) (by omega) | exact L2.mulOkC (by first | assumption | exact L2.bits_ediv (by assumption) _) (by omega) (by omega) | omega)
local macro_rules | `(tactic| walk_at $s:str) => do
 let ws:=s.getString.splitOn " "
 if ws.head?==some "f" then
  let vs:=if ws.length==3 then["p"++ws.getD 1 "","hp"++ws.getD 1 "","H"++ws.getD 1 "","s"++ws.getD 1 "",ws.getD 2 ""++ws.getD 1 ""]else ws.drop 1
  let i:=fun(k:Nat)=>Lean.mkIdent (Lean.Name.mkSimple (vs.getD k ""))
  return <-`(tactic| (intro $(i 0):ident $(i 1):ident;generalize eH:L2.upd _ $(i 0) _ = $(i 2):ident;have $(i 3):ident:=L2.j1K $(i 1) eH;have $(i 4):ident:=L2.j1T eH;clear eH))
 let ns:=match s.getString with | "goA"=>"rd_seq rd_asg rd_op rd_const rd_i0 rd_cons rd_nil rd_call rd_ret rd_if rd_test rd_tB rd_blP rd_not rd_next" | "goB"=>"rd_un rd_u rd_and rd_or rd_andV rd_notV rd_ifE rd_retN rd_drop rd_cb rd_lst rd_tup rd_bm rd_sl rd_nopart rd_part rd_eqI rd_neI rd_eqS rd_neS rd_str rd_int rd_rng1 rd_iList rd_for rd_comp rd_yes rd_dget rd_prC rd_prN rd_iTup rd_sub rd_iEnum rd_iZip rd_dnew rd_dput rd_bm0 rd_dIn" | "goP"=>"rd_p6 rd_p18 rd_p20 rd_p60 rd_p64" | "goV"=>"rd_v0 rd_v1 rd_v2 rd_v3 rd_v4 rd_v5 rd_v6 rd_v7 rd_v8 rd_v9" | "goN"=>"rd_n0 rd_n1 rd_n2 rd_n3 rd_n4 rd_n5 rd_n6 rd_n7 rd_n8 rd_n9" | _=>""
 if ns == "" then Lean.Macro.throwUnsupported
 let as <-(ns.splitOn " ").toArray.mapM fun n=>`(Lean.Parser.Tactic.tacticSeq| refine $(Lean.mkIdent (Lean.Name.mkStr2 "L2" n)) ?_)
 `(tactic| with_reducible (first $[| $as]*))
local macro_rules | `(tactic| walk_at "go1") => `(tactic| first | walk_at "goA" | walk_at "goV" | walk_at "goB" | walk_at "goN" | walk_at "goP" | (with_reducible refine L2.j2Z ?c ?_; (case c => ((try dsimp only); walk_at "side"))))
local macro_rules | `(tactic| walk_at "g") => `(tactic| repeat walk_at "go1")
local macro_rules | `(tactic| exists $e) => `(tactic| (walk_at "g"; refine $e))
namespace Pr
open PySem L2
noncomputable def cell(ns:List Int)(k:Int):Int:=ns.getD k.toNat 0
inductive sp_cell_at(K:Frg)(vs:List V)(H:Hp)(Q:VK)(xk:XK):Prop
 | mk (a:Addr) (ns:List Int) (k:Int) (_:vs=[.ref a,.int k]) (_:SqL K H a (ns.map V.int)) (_:ns.length<=63) (_:0<=k) (_:Q (.int (cell ns k)) H):sp_cell_at K vs H Q xk
theorem jD{ns:List Int}{k:Int}(h0:0<=k)(h:k<(ns.length:Int)):atI (ns.map V.int) k=some (.int (cell ns k)):=by
 have ek:k=((k.toNat:Nat):Int):=by omega
 have hk:k.toNat<ns.length:=by omega
 have q:atI (ns.map V.int) ((k.toNat:Nat):Int)=some (.int ns[k.toNat]):=zw (by rw[List.getElem?_map,List.getElem?_eq_getElem hk]<;>rfl);rw[<-ek]at q;rw[q];unfold cell;rw[getD_eq_getElem?_getD,List.getElem?_eq_getElem hk];rfl
end Pr
namespace Pr
open PySem L2
inductive sp_law(K:Frg)(vs:List V)(H:Hp)(Q:VK)(xk:XK):Prop
 | mk (a:Addr) (ns:List Int) (_:vs=[.ref a]) (_:SqL K H a (ns.map V.int)) (_:ns.length<=63) (_:(∀x∈ns,Builtin.Int.intBits x<=1048576)) (_:∀H',Q (.bl true) H'):sp_law K vs H Q xk
end Pr
namespace Pr
open PySem L2
theorem j1n{ns:List Int}{lo hi:Option Int}{x:V}(h:x∈cutV (ns.map V.int) lo hi):∃c∈ns,x = .int c:=by
 have h1:x∈ns.map V.int:=List.mem_of_mem_drop (mem_of_mem_take h);obtain⟨c,hc,e⟩:=mem_map.mp h1;exact⟨c,hc,e.symm⟩
end Pr
namespace Pr
open PySem L2
theorem jy{H:Hp}{p:Addr}(h:H p=none)(o:HO):Same H (upd H p o):=fun b u q=>by rw[jh (jf q h)];exact q
end Pr
namespace Pr
open PySem L2
theorem Wg{ns:List Int}{k:Int}(_h0:0<=k)(h:k<(ns.length:Int)):ns[k.toNat]?=some (cell ns k):=by
 have hk:k.toNat<ns.length:=by omega
 unfold cell;rw[getD_eq_getElem?_getD,List.getElem?_eq_getElem hk];rfl
theorem j0c{ns:List Int}{m:Int}(h0:0<=m)(h:m<=(ns.length:Int)):cutV (ns.map V.int) none (some m)=(ns.take m.toNat).map V.int:=by
 unfold cutV;rw[map_take];have e1:HT.sIx (ns.map V.int).length 0 none=0:=rfl;have e2:HT.sIx (ns.map V.int).length (ns.map V.int).length (some m)=m.toNat:=by
  show(if m<0 then _ else min m.toNat _)=_;rw[if_neg (by omega),length_map];omega
 rw[e1,e2];simp
end Pr
namespace Ws
open PySem PySem.NumText L2
noncomputable def lets:Str:="abcdefghijklmnopqrstuvwxyz"
noncomputable def among(x z:Str):Bool:=decide (∀c∈x.cps.toList,c∈z.cps.toList)
noncomputable def isW(x:Str):Bool:=decide (1<=x.length/\x.length<=8)&&among x lets
theorem kz(x:Str):x.cps.toList.length=x.length:=Array.length_toList
theorem y9{H H':Hp}{p:Addr}{o:HO}(h:Same H H')(hp:H p=none):Same H (upd H' p o):=fun b u q=>by
 rw[jh (jf q hp)];exact h b u q
end Ws
namespace Ws
open PySem PySem.NumText L2
end Ws
namespace Ws
open PySem L2
theorem WI:∀(l:List Str),(∀z∈l,z.length=1)->(l.map (·.length)).sum=l.length
 | [],_=>rfl
 | a::r,h=>by
  rw[map_cons,sum_cons,WI r fun z hz=>h z (mem_cons_of_mem _ hz),h a mem_cons_self,length_cons];omega
end Ws
namespace Rm
open PySem PySem.NumText PyProof.Rows L2
def Zp:Sp:=fun vs H Q _=>∃c m:Int,vs=[.int c,.int m]/\0<=m/\m<=100/\∀r:Int,Q (.int r) H
def yh:Sp:=fun vs H Q _=>∃c m l:Int,vs=[.int c,.int m,.int l]/\0<=m/\m<33554432/\0<=l/\l<=1/\∀r:Int,l<=r->r<=10^18->Q (.int r) H
theorem to19{P:Int->Prop}(h:∀k:Nat,k<19->P k){n:Int}(h0:0<=n)(h1:n<19):P n:=by
 have e:=h n.toNat (by omega);rw[Int.toNat_of_nonneg h0]at e;exact e
theorem mulOk0{n:Int}(h0:0<=n)(h1:n<19):MulOk "0" n:=mulOk_of 16 1048576 (by decide +kernel) (by omega) (by omega) (by decide) (by decide)
theorem j0U{n:Int}(h0:0<=n)(h1:n<19):(Str.ofString "1").length+(Txt.mul "0" n).length<=sizeLine:=by
 refine to19 (P:=fun n=>(Str.ofString "1").length+(Txt.mul "0" n).length<=sizeLine) ?_ h0 h1;decide +kernel
theorem j04{n:Int}(h0:0<=n)(h1:n<19):(Str.ofString "1"++Txt.mul "0" n).length<=640:=by
 refine to19 (P:=fun n=>(Str.ofString "1"++Txt.mul "0" n).length<=640) ?_ h0 h1;decide +kernel
theorem tens{n:Int}(h0:0<=n)(h1:n<19):intText? (Str.ofString "1"++Txt.mul "0" n)=some ((10:Int)^n.toNat):=by
 refine to19 (P:=fun n=>intText? (Str.ofString "1"++Txt.mul "0" n)=some ((10:Int)^n.toNat)) ?_ h0 h1;decide +kernel
theorem cutTo{x:Str}{j:Int}(h0:0<=j)(h:j<=(x.length:Int)):(Txt.slice x none (some j)).cps.toList=x.cps.toList.take j.toNat:=by
 have e:Txt.slice x none (some j)=⟨((x.cps.toList.drop 0).take (j-0).toNat).toArray⟩:=StrLaws.sliceText_to ⟨h0,by rw[Ws.kz];exact h⟩;rw[e];simp
theorem cutFrom{x:Str}{i:Int}(h0:0<=i)(h:i<=(x.length:Int)):(Txt.slice x (some i) none).cps.toList=x.cps.toList.drop i.toNat:=by
 have e:Txt.slice x (some i) none=⟨((x.cps.toList.drop i.toNat).take ((x.cps.toList.length:Int)-i).toNat).toArray⟩:=StrLaws.sliceText_from ⟨h0,by rw[Ws.kz];exact h⟩;rw[e];show List.take _ _=_;rw[List.take_of_length_le];rw[length_drop];omega
theorem app_list(a y:Str):(a++y).cps.toList=a.cps.toList++y.cps.toList:=by rw[Str.cps_append,Array.toList_append]
theorem Wq{c:Nat}:c∈Ws.lets.cps.toList↔97<=c/\c<=122:=by
 rw[show Ws.lets.cps.toList=List.range' 97 26 by decide +kernel,List.mem_range'_1];omega
theorem W9{i:Int}(h0:0<=i)(h1:i<26):atI (Str.ofString "abcdefghijklmnopqrstuvwxyz").cps.toList i=some (97+i.toNat):=by
 have h:∀k:Nat,k<26->atI (Str.ofString "abcdefghijklmnopqrstuvwxyz").cps.toList (k:Int)=some (97+(k:Int).toNat):=by decide +kernel
 have e:=h i.toNat (by omega);rw[Int.toNat_of_nonneg h0]at e;exact e
noncomputable def nmL(way:Int)(b:List Nat)(a k:Nat):List Nat:=
 if way=0 then b.take a++[97+k/26,97+k%26]++b.drop a else if way=1 then[97+k/26,97+k%26]++b.take (k%(b.length+1))else if k<26 then[97+k%26]else[97+k/26,97+k%26]
theorem Xj{way:Int}{b:List Nat}{a k:Nat}(hb:b.length<=6):1<=(nmL way b a k).length/\(nmL way b a k).length<=8:=by
 unfold nmL;split
 ·simp only[List.length_append,length_take,length_drop,length_cons,length_nil];omega
 ·split
  ·simp only[List.length_append,length_take,length_cons,length_nil];omega
  ·split<;>simp
theorem j2a{x:Str}(h1:1<=x.cps.toList.length)(h2:x.cps.toList.length<=8)(h:∀c∈x.cps.toList,97<=c/\c<=122):Ws.isW x=true:=by
 rw[Ws.kz]at h1 h2;unfold Ws.isW Ws.among;rw[decide_eq_true ⟨h1,h2⟩,Bool.true_and];exact decide_eq_true fun c hc=>Wq.mpr (h c hc)
theorem join_list:∀(zs:List Str),(Txt.join (Str.ofString "") zs).cps.toList=(zs.map (·.cps.toList)).flatten:=by
 intro zs;show(Builtin.Str.glued (Str.ofString "") zs).cps.toList=_;rw[StrLaws.glued_eq_join]
 induction zs with
 | nil=>rfl
 | cons a r ih=>
  cases r with
  | nil=>show a.cps.toList=a.cps.toList++[];rw[append_nil]
  | cons b r=>
   show(a++Str.ofString ""++Str.join (Str.ofString "") (b::r)).cps.toList=_;rw[app_list,app_list,ih,show(Str.ofString "").cps.toList=[] by decide +kernel,append_nil];rfl
theorem Xw{zs:List Str}(h:∀z∈zs,∃c,z=⟨#[c]⟩/\97<=c/\c<=122):(Txt.join (Str.ofString "") zs).length=zs.length/\∀c∈(Txt.join (Str.ofString "") zs).cps.toList,97<=c/\c<=122:=by
 refine⟨PySem.W.KT.join_ones zs fun z hz=>by obtain⟨c,rfl,_⟩:=h z hz;rfl,fun c hc=>?_⟩;rw[join_list]at hc;obtain⟨l,hl,hc⟩:=List.mem_flatten.mp hc;obtain⟨z,hz,rfl⟩:=mem_map.mp hl;obtain⟨d,rfl,h1,h2⟩:=h z hz;have e:c=d:=by simpa using hc
 omega
theorem j1v{way:Int}{b:List Nat}{a i:Nat}{ws:List Str}{x:Str}(hw:ws.length=i)(h:∀j,j<i->(ws[j]?).map (·.cps.toList)=some (nmL way b a j))(hx:x.cps.toList=nmL way b a i) :
  ∀j,j<i+1->((ws++[x])[j]?).map (·.cps.toList)=some (nmL way b a j):=fun j hj=>by
 by_cases e:j<i
 ·rw[List.getElem?_append_left (by omega)];exact h j e
 ·have e2:j=i:=by omega
  subst e2;rw[List.getElem?_append_right (by omega),hw,Nat.sub_self];exact congrArg some hx
open PySem L2
theorem none_of{H H':Hp}{p:Addr}(s:Same H H')(h:H' p=none):H p=none:=by
 cases e:H p with
 | none=>rfl
 | some u=>rw[s _ _ e]at h;cases h
inductive Fm where
 | hold (n:Int) | ring (x:Str) (n:Int) | rise (x:Str) (h n:Int) | row (ps:List Str) | side (ps:List Str) | again (k:Int) (x:Str)
structure Rr where
 names:List Str
 limbs:List (Str×Int)
 parts:List (Str×Fm)
 hands:List (List Int)
 longs:List Int
noncomputable def Rr.add(m:Rr)(f:Fm)(ks:List Int)(g:Int):Rr:={m with parts:=m.parts++[(m.names.getD m.parts.length ⟨#[]⟩,f)],hands:=m.hands++[ks],longs:=m.longs++[g]}
noncomputable def FormAt(H:Hp)(a:Addr):Fm->Prop
 | .hold n=>H a=some (.tup [.str "hold",.int n])
 | .ring x n=>H a=some (.tup [.str "ring",.str x,.int n])
 | .rise x h n=>H a=some (.tup [.str "raise",.str x,.int h,.int n])
 | .row ps=>∃b,H a=some (.tup [.str "row",.ref b])/\H b=some (.tup (ps.map V.str))
 | .side ps=>∃b,H a=some (.tup [.str "side",.ref b])/\H b=some (.tup (ps.map V.str))
 | .again k x=>H a=some (.tup [.str "again",.int k,.str x])
def PartAt(H:Hp)(a:Addr)(p:Str×Fm):Prop:=∃b,H a=some (.tup [.str p.1,.ref b])/\FormAt H b p.2
def LimbAt(H:Hp)(a:Addr)(p:Str×Int):Prop:=H a=some (.tup [.str p.1,.int p.2])
def All2{α:Type}(R:Addr->α->Prop)(as:List Addr)(xs:List α):Prop:=as.length=xs.length/\∀(i:Nat) (a:Addr) (x:α),as[i]?=some a->xs[i]?=some x->R a x
theorem All2.nil{α:Type}{R:Addr->α->Prop}:All2 R [] []:=⟨rfl,fun i a x h=>by simp at h⟩
theorem All2.mono{α:Type}{R S:Addr->α->Prop}{as:List Addr}{xs:List α}(h:All2 R as xs)(k:∀a x,R a x->S a x):All2 S as xs:=⟨h.1,fun i a x h1 h2=>k a x (h.2 i a x h1 h2)⟩
theorem All2.snoc{α:Type}{R:Addr->α->Prop}{as:List Addr}{xs:List α}{a:Addr}{x:α}(h:All2 R as xs)(hx:R a x):All2 R (as++[a]) (xs++[x]):=by
 have hl:=h.1;refine⟨by simp[hl],fun i b y h1 h2=>?_⟩;by_cases hi:i<as.length
 ·rw[List.getElem?_append_left hi]at h1;rw[List.getElem?_append_left (by omega)]at h2;exact h.2 i b y h1 h2
 ·rw[List.getElem?_append_right (by omega)]at h1;rw[List.getElem?_append_right (by omega)]at h2;have e:i-as.length=0:=by
   have:=(List.getElem?_eq_some_iff.mp h1).1;simp at this;omega
  rw[e]at h1;rw[show i-xs.length=0 by omega]at h2;simp at h1 h2;subst h1 h2;exact hx
theorem All2.get{α:Type}{R:Addr->α->Prop}{as:List Addr}{xs:List α}{i:Nat}{x:α}(h:All2 R as xs)(hx:xs[i]?=some x):∃a,as[i]?=some a/\R a x:=by
 have hi:=(List.getElem?_eq_some_iff.mp hx).1;have hl:=h.1;have ha:as[i]?=some as[i]:=List.getElem?_eq_getElem (by omega);exact⟨_,ha,h.2 i _ _ ha hx⟩
structure Ra where
 r:Addr
 pn:Addr
 pl:Addr
 pp:Addr
 ph:Addr
 pg:Addr
def Ra.off(z:Ra)(a:Addr):Prop:=a≠z.pp/\a≠z.ph/\a≠z.pg
def HandAt(z:Ra)(H:Hp)(a:Addr)(ks:List Int):Prop:=H a=some (.lst (ks.map V.int))/\z.off a
structure RoomAt(H:Hp)(z:Ra)(m:Rr):Prop where
 d:H z.r=some (.dK [(Sum.inr "names",.ref z.pn),(Sum.inr "limbs",.ref z.pl),(Sum.inr "parts",.ref z.pp),(Sum.inr "hands",.ref z.ph),(Sum.inr "long",.ref z.pg)])
 n:H z.pn=some (.lst (m.names.map V.str))
 l:∃ls,H z.pl=some (.lst (ls.map V.ref))/\All2 (LimbAt H) ls m.limbs
 p:∃qs,H z.pp=some (.lst (qs.map V.ref))/\All2 (PartAt H) qs m.parts
 h:∃hs,H z.ph=some (.lst (hs.map V.ref))/\All2 (HandAt z H) hs m.hands
 g:H z.pg=some (.lst (m.longs.map V.int))
 on:z.off z.pn
 ol:z.off z.pl
 ph:z.pp≠z.ph
 pg:z.pp≠z.pg
 hg:z.ph≠z.pg
def Kp(z:Ra)(H H':Hp):Prop:=∀b u,z.off b->H b=some u->H' b=some u
theorem Kp.refl(z:Ra)(H:Hp):Kp z H H:=fun _ _ _ h=>h
theorem Kp.trans{z:Ra}{H H1 H2:Hp}(a:Kp z H H1)(b:Kp z H1 H2):Kp z H H2:=fun c u o h=>b c u o (a c u o h)
theorem Kp.of{z:Ra}{H H':Hp}(s:Same H H'):Kp z H H':=fun b u _ h=>s b u h
section
variable{H H':Hp}{z:Ra}{m:Rr}
theorem Q5(R:RoomAt H z m){a:Addr}{xs:List V}(h:H a=some (.tup xs)):z.off a:=by
 obtain⟨qs,e1,_⟩:=R.p;obtain⟨hs,e2,_⟩:=R.h;exact⟨Zk h e1 (fun z=>by cases z),Zk h e2 (fun z=>by cases z),Zk h R.g (fun z=>by cases z)⟩
theorem Wy(R:RoomAt H z m):z.off z.r:=by
 obtain⟨qs,e1,_⟩:=R.p;obtain⟨hs,e2,_⟩:=R.h;exact⟨Zk R.d e1 (fun z=>by cases z),Zk R.d e2 (fun z=>by cases z),Zk R.d R.g (fun z=>by cases z)⟩
theorem ZA(R:RoomAt H z m){a:Addr}(h:H a=none):z.off a:=by
 obtain⟨qs,e1,_⟩:=R.p;obtain⟨hs,e2,_⟩:=R.h;refine⟨fun e=>?_,fun e=>?_,fun e=>?_⟩
 ·rw[e,e1]at h;cases h
 ·rw[e,e2]at h;cases h
 ·rw[e,R.g]at h;cases h
theorem FormAt.kp{a:Addr}{f:Fm}(R:RoomAt H z m)(k:Kp z H H')(h:FormAt H a f):FormAt H' a f:=by
 cases f with
 | row ps=>obtain⟨b,h1,h2⟩:=h;exact⟨b,k _ _ (Q5 R h1) h1,k _ _ (Q5 R h2) h2⟩
 | side ps=>obtain⟨b,h1,h2⟩:=h;exact⟨b,k _ _ (Q5 R h1) h1,k _ _ (Q5 R h2) h2⟩
 | hold n=>exact k _ _ (Q5 R h) h
 | ring x n=>exact k _ _ (Q5 R h) h
 | rise x g n=>exact k _ _ (Q5 R h) h
 | again x n=>exact k _ _ (Q5 R h) h
theorem PartAt.kp{a:Addr}{p:Str×Fm}(R:RoomAt H z m)(k:Kp z H H')(h:PartAt H a p):PartAt H' a p:=by
 obtain⟨b,h1,h2⟩:=h;exact⟨b,k _ _ (Q5 R h1) h1,FormAt.kp R k h2⟩
theorem RoomAt.keeps(R:RoomAt H z m)(s:Same H H'):RoomAt H' z m:=by
 have k:Kp z H H':=Kp.of s;obtain⟨ls,e1,a1⟩:=R.l;obtain⟨qs,e2,a2⟩:=R.p;obtain⟨hs,e3,a3⟩:=R.h;exact⟨s _ _ R.d,s _ _ R.n,⟨ls,s _ _ e1,a1.mono fun a x h=>s _ _ h⟩,⟨qs,s _ _ e2,a2.mono fun a x h=>PartAt.kp R k h⟩,⟨hs,s _ _ e3,a3.mono fun a x h=>⟨s _ _ h.1,h.2⟩⟩,s _ _ R.g,R.on,R.ol,R.ph,R.pg,R.hg⟩
theorem Kx(R:RoomAt H z m):DGet H z.r (.str "names") (some (.ref z.pn)):=DGet.k (k:=Sum.inr "names") R.d
theorem Zj(R:RoomAt H z m):DGet H z.r (.str "limbs") (some (.ref z.pl)):=DGet.k (k:=Sum.inr "limbs") R.d
theorem qI(R:RoomAt H z m):DGet H z.r (.str "parts") (some (.ref z.pp)):=DGet.k (k:=Sum.inr "parts") R.d
theorem Yp(R:RoomAt H z m):DGet H z.r (.str "hands") (some (.ref z.ph)):=DGet.k (k:=Sum.inr "hands") R.d
theorem j0g(R:RoomAt H z m):DGet H z.r (.str "long") (some (.ref z.pg)):=DGet.k (k:=Sum.inr "long") R.d
end
inductive sp_add(vs:List V)(H:Hp)(Q:VK)(xk:XK):Prop
 | mk (z:Ra) (m:Rr) (fa ha:Addr) (f:Fm) (ks:List Int) (g:Int) (_:vs=[.ref z.r,.ref fa,.ref ha,.int g]) (_:RoomAt H z m) (_:FormAt H fa f) (_:HandAt z H ha ks) (_:m.parts.length<68) (_:m.hands.length<68) (_:m.longs.length<68) (_:m.names.length=68) (_:∀H',Kp z H H'->RoomAt H' z (m.add f ks g)->(∀hs:List Addr,H z.ph=some (.lst (hs.map V.ref))->H' z.ph=some (.lst ((hs++[ha]).map V.ref)))->Q .non H'):sp_add vs H Q xk
theorem xM{ws:List Str}{n:Nat}(h:n<ws.length):atI (ws.map V.str) (n:Int)=some (.str (ws.getD n ⟨#[]⟩)):=by
 refine zw ?_;rw[List.getElem?_map,getD_eq_getElem?_getD,List.getElem?_eq_getElem h];rfl
theorem j08{H H':Hp}{z:Ra}{m:Rr}{f:Fm}{ks:List Int}{g:Int}{p ha:Addr}{qs hs:List Addr}(R:RoomAt H z m)(k:Kp z H H')
  (eq:H z.pp=some (.lst (qs.map V.ref))) (aq:All2 (PartAt H) qs m.parts) (eh:H z.ph=some (.lst (hs.map V.ref))) (ah:All2 (HandAt z H) hs m.hands)
  (hp:PartAt H p (m.names.getD m.parts.length ⟨#[]⟩,f)) (hh:HandAt z H ha ks)
  (e1:H' z.pp=some (.lst (qs.map V.ref++[.ref p]))) (e2:H' z.ph=some (.lst (hs.map V.ref++[.ref ha]))) (e3:H' z.pg=some (.lst (m.longs.map V.int++[.int g]))):RoomAt H' z (m.add f ks g):=by
 obtain⟨ls,e0,a0⟩:=R.l;refine⟨k _ _ (Wy R) R.d,k _ _ R.on R.n,⟨ls,k _ _ R.ol e0,a0.mono fun a x h=>k _ _ (Q5 R h) h⟩,⟨qs++[p],?_,?_⟩,⟨hs++[ha],?_,?_⟩,?_,R.on,R.ol,R.ph,R.pg,R.hg⟩
 ·rw[e1,map_append];rfl
 ·exact(aq.mono fun a x h=>PartAt.kp R k h).snoc (PartAt.kp R k hp)
 ·rw[e2,map_append];rfl
 ·exact(ah.mono fun a x h=>⟨k _ _ h.2 h.1,h.2⟩).snoc ⟨k _ _ hh.2 hh.1,hh.2⟩
 ·rw[e3];show _=some (HO.lst ((m.longs++[g]).map V.int));rw[map_append];rfl
noncomputable def Rr.nm(m:Rr)(j:Nat):Str:=m.names.getD j ⟨#[]⟩
noncomputable def Rr.hd(m:Rr)(j:Nat):List Int:=m.hands.getD j []
noncomputable def Rr.lg(m:Rr)(j:Nat):Int:=m.longs.getD j 0
def Idx(m:Rr)(i:Nat)(is:List Nat)(ps:List Str):Prop:=ps=is.map m.nm/\∀j∈is,j<i
def KsOf(m:Rr)(is:List Nat)(ks:List Int):Prop:=∀k,k∈ks↔∃j∈is,k∈m.hd j
def Apart(m:Rr)(is:List Nat):Prop:=(∀j∈is,m.hd j≠[])/\is.Pairwise fun a b=>∀k∈m.hd a,¬k∈m.hd b
noncomputable def FmOk(m:Rr)(i:Nat):Fm->List Int->Int->Prop
 | .hold n,ks,g=>1<=n/\n<=10^18/\ks=[]/\g=n
 | .ring x n,ks,g=>x∈m.names/\1<=n/\n<=10^18/\ks=[]/\g=n
 | .rise x h n,ks,g=>(∃(j:Nat) (v:Int),m.limbs[j]?=some (x,v)/\ks=[(j:Int)])/\0<=h/\h<=10^18/\1<=n/\n<=10^18/\g=n
 | .row ps,ks,g=>∃is,Idx m i is ps/\1<=is.length/\is.length<=8/\KsOf m is ks/\g=(is.map m.lg).sum
 | .side ps,ks,g=>∃is,Idx m i is ps/\2<=is.length/\is.length<=4/\Apart m is/\KsOf m is ks/\(∃j∈is,g=m.lg j)/\∀j∈is,m.lg j<=g
 | .again k x,ks,g=>1<=k/\k<=10^18/\∃j,j<i/\x=m.nm j/\ks=m.hd j/\g=k*m.lg j
structure PartOk(m:Rr)(i:Nat)(f:Fm)(ks:List Int)(g:Int):Prop where
 f:FmOk m i f ks g
 k:∀k∈ks,0<=k/\k<(m.limbs.length:Int)
 o:ks.Pairwise (· < ·)
 g1:1<=g
 g2:g<=10^60
structure Good(m:Rr):Prop where
 nl:m.names.length=68
 nd:m.names.Nodup
 nw:∀x∈m.names,Ws.isW x=true
 l1:1<=m.limbs.length
 l8:m.limbs.length<=8
 ln:(m.limbs.map (·.1)).Nodup
 lm:∀p∈m.limbs,p.1∈m.names/\0<=p.2/\p.2<=10^18
 hl:m.hands.length=m.parts.length
 gl:m.longs.length=m.parts.length
 ps:∀i p,m.parts[i]?=some p->p.1=m.nm i/\PartOk m i p.2 (m.hd i) (m.lg i)
section
variable{m:Rr}{f:Fm}{ks:List Int}{g:Int}
theorem getD_snoc{α:Type}{l:List α}{x d:α}{j:Nat}(h:j<l.length):(l++[x]).getD j d=l.getD j d:=by
 rw[getD_eq_getElem?_getD,getD_eq_getElem?_getD,List.getElem?_append_left h]
theorem getD_last{α:Type}{l:List α}{x d:α}:(l++[x]).getD l.length d=x:=by
 rw[getD_eq_getElem?_getD,List.getElem?_append_right (Nat.le_refl _),Nat.sub_self];rfl
theorem yv{j:Nat}(h:j<m.hands.length):(m.add f ks g).hd j=m.hd j:=getD_snoc h
theorem Y9{j:Nat}(h:j<m.longs.length):(m.add f ks g).lg j=m.lg j:=getD_snoc h
theorem FmOk.add{f':Fm}{ks':List Int}{g':Int}{i:Nat}(h1:i<=m.hands.length)(h2:i<=m.longs.length)(h:FmOk m i f' ks' g'):FmOk (m.add f ks g) i f' ks' g':=by
 have eh:∀is:List Nat,(∀j∈is,j<i)->KsOf m is ks'->KsOf (m.add f ks g) is ks':=fun is hi h k=>by
  rw[h k];constructor
  ·rintro⟨j,hj,hk⟩;exact⟨j,hj,by rw[yv (by have:=hi j hj;omega)];exact hk⟩
  ·rintro⟨j,hj,hk⟩;exact⟨j,hj,by rw[yv (by have:=hi j hj;omega)]at hk;exact hk⟩
 cases f' with
 | hold n=>exact h
 | ring x n=>exact h
 | rise x v n=>exact h
 | row ps=>
  obtain⟨is,a,b,c,d,e⟩:=h;refine⟨is,a,b,c,eh is a.2 d,e.trans ?_⟩;congr 1;exact map_congr_left fun j hj=>(Y9 (by have:=a.2 j hj;omega)).symm
 | side ps=>
  obtain⟨is,a,b,c,p,d,e1,e2⟩:=h;refine⟨is,a,b,c,⟨fun j hj=>?_,?_⟩,eh is a.2 d,?_,fun j hj=>?_⟩
  ·rw[yv (by have:=a.2 j hj;omega)];exact p.1 j hj
  ·refine List.Pairwise.imp_of_mem (fun {x y} hx hy hxy=>?_) p.2;rw[yv (by have:=a.2 x hx;omega),yv (by have:=a.2 y hy;omega)];exact hxy
  ·obtain⟨j,hj,e⟩:=e1;exact⟨j,hj,by rw[Y9 (by have:=a.2 j hj;omega)];exact e⟩
  ·rw[Y9 (by have:=a.2 j hj;omega)];exact e2 j hj
 | again k x=>
  obtain⟨a,b,j,hj,c,d,e⟩:=h;exact⟨a,b,j,hj,c,by rw[yv (by omega)];exact d,by rw[Y9 (by omega)];exact e⟩
theorem Good.add(G:Good m)(h:PartOk m m.parts.length f ks g):Good (m.add f ks g):=by
 refine⟨G.nl,G.nd,G.nw,G.l1,G.l8,G.ln,G.lm,?_,?_,fun i p hp=>?_⟩
 ·show(m.hands++[ks]).length=(m.parts++_).length;rw[List.length_append,List.length_append,G.hl];rfl
 ·show(m.longs++[g]).length=(m.parts++_).length;rw[List.length_append,List.length_append,G.gl];rfl
 ·have e1:=G.hl;have e2:=G.gl;by_cases hi:i<m.parts.length
  ·have hp':m.parts[i]?=some p:=by rw[<-hp];exact(List.getElem?_append_left hi).symm
   obtain⟨n,o⟩:=G.ps i p hp';rw[yv (by omega),Y9 (by omega)];exact⟨n,FmOk.add (by omega) (by omega) o.f,o.k,o.o,o.g1,o.g2⟩
  ·have hl:i=m.parts.length:=by
    have:=(List.getElem?_eq_some_iff.mp hp).1;have e:(m.add f ks g).parts.length=m.parts.length+1:=by show(m.parts++_).length=_;rw[List.length_append];rfl
    omega
   subst hl;have ep:p=(m.nm m.parts.length,f):=by
    have e:(m.add f ks g).parts[m.parts.length]?=some (m.nm m.parts.length,f):=by
     show(m.parts++[_])[m.parts.length]?=_;rw[List.getElem?_append_right (Nat.le_refl _),Nat.sub_self];rfl
    rw[hp]at e;exact Option.some.inj e
   have e3:(m.add f ks g).hd m.parts.length=ks:=by rw[<-G.hl];exact getD_last
   have e4:(m.add f ks g).lg m.parts.length=g:=by rw[<-G.gl];exact getD_last
   rw[ep,e3,e4];exact⟨rfl,FmOk.add (by omega) (by omega) h.f,h.k,h.o,h.g1,h.g2⟩
theorem Z7:(m.add f ks g).parts.length=m.parts.length+1:=by show(m.parts++_).length=_;rw[List.length_append];rfl
end
def Big(ns:List Int):Prop:=∀n∈ns,0<=n/\n<33554432
theorem Big.cell{ns:List Int}(h:Big ns){k:Int}(h0:0<=k)(h1:k<(ns.length:Int)):0<=Pr.cell ns k/\Pr.cell ns k<33554432:=h _ (List.mem_of_getElem? (Pr.Wg h0 h1))
def More(z:Ra)(m:Rr)(H:Hp)(Q:VK):Prop:=∀m' H',Kp z H H'->RoomAt H' z m'->Good m'->m'.parts.length=m.parts.length+1->Q .non H'
inductive sp_simple(vs:List V)(H:Hp)(Q:VK)(xk:XK):Prop
 | mk (z:Ra) (m:Rr) (c:Int) (p:Addr) (ns:List Int) (_:vs=[.ref z.r,.int c,.ref p]) (_:RoomAt H z m) (_:Good m) (_:m.parts.length<65) (_:H p=some (.lst (ns.map V.int))) (_:z.off p) (_:4<=ns.length) (_:Big ns) (_:More z m H Q):sp_simple vs H Q xk
theorem wT{ws:List Str}{i:Int}(h0:0<=i)(h:i<(ws.length:Int)):atI (ws.map V.str) i=some (.str (ws.getD i.toNat ⟨#[]⟩)):=by
 have e:=xM (ws:=ws) (n:=i.toNat) (by omega);rw[Int.toNat_of_nonneg h0]at e;exact e
theorem getD_in{ws:List Str}{n:Nat}(h:n<ws.length):ws.getD n ⟨#[]⟩∈ws:=by
 rw[getD_eq_getElem?_getD,List.getElem?_eq_getElem h];exact List.getElem_mem h
theorem qa{as:List Addr}{i:Int}{a:Addr}(h0:0<=i)(h:as[i.toNat]?=some a):atI (as.map V.ref) i=some (.ref a):=by
 have e:atI (as.map V.ref) ((i.toNat:Nat):Int)=some (.ref a):=zw (by rw[List.getElem?_map,h];rfl);rw[Int.toNat_of_nonneg h0]at e;exact e
open PySem PySem.Spec PyProof.Rows L2
inductive sp_there(vs:List V)(H:Hp)(Q:VK)(xk:XK):Prop
 | mk (z:Ra) (m:Rr) (n:Int) (_:vs=[.ref z.r,.int n]) (_:RoomAt H z m) (_:0<m.parts.length) (_:0<=n) (_:∀i:Nat,i<m.parts.length->Q (.int i) H):sp_there vs H Q xk
theorem Xc{k:Nat}{H:Hp}{Q:VK}(q:∀i:Nat,i<k->Q (.int i) H){x:Int}(h0:0<=x)(h1:x<k):Q (.int x) H:=by
 have e:=q x.toNat (by omega);rw[Int.toNat_of_nonneg h0]at e;exact e
noncomputable def vN(j:Nat):V:=.int j
inductive sp_apart(vs:List V)(H:Hp)(Q:VK)(xk:XK):Prop
 | mk (z:Ra) (m:Rr) (p:Addr) (ns:List Int) (_:vs=[.ref z.r,.ref p]) (_:RoomAt H z m) (_:Good m) (_:0<m.parts.length) (_:m.parts.length<65) (_:H p=some (.lst (ns.map V.int))) (_:6<=ns.length) (_:Big ns) (_:∀(l:Addr) (is:List Nat) (H':Hp),Same H H'->H l=none->H' l=some (.lst (is.map vN))->is.length<=4->(∀j∈is,j<m.parts.length)->Apart m is->Q (.ref l) H'):sp_apart vs H Q xk
theorem Yr:∀{ks:List Int} {lo hi:Int},ks.Pairwise (· < ·)->(∀k∈ks,lo<=k/\k<hi)->ks.length<=(hi-lo).toNat
 | [],_,_,_,_=>Nat.zero_le _
 | k::r,lo,hi,h,b=>by
  have h1:=Yr (ks:=r) (lo:=k+1) (hi:=hi) (List.pairwise_cons.mp h).2 fun x hx=>⟨(List.pairwise_cons.mp h).1 x hx,(b x (mem_cons_of_mem _ hx)).2⟩
  have h2:=b k mem_cons_self;rw[length_cons];omega
theorem j0l{m:Rr}(G:Good m){j:Nat}(h:j<m.parts.length):(m.hd j).length<=8:=by
 obtain⟨_,o⟩:=G.ps j _ (List.getElem?_eq_getElem h);have e:=Yr o.o o.k;have:=G.l8;omega
theorem xY{H:Hp}:∀(ks:List Int),DVs H (ks.map V.int) (ks.map PyData.int)
 | []=>.nil
 | k::r=>.cons (.int k) (xY r)
theorem j1V{H:Hp}{a:Addr}{ks:List Int}(h:H a=some (.lst (ks.map V.int))):DV H (.ref a) (.list (ks.map PyData.int)):=.lst h (xY ks)
theorem j1c{H:Hp}{a:Addr}(h:H a=some (.lst [])):DV H (.ref a) (.list []):=.lst h .nil
theorem j1W(ks:List Int):PyData.eqv (.list (ks.map PyData.int)) (.list [])=decide (ks=[]):=by
 cases ks<;>simp[PyData.eqv,PyData.eqvAll]
theorem shp(ks:List Int):SeqAt.shaped (.list (ks.map PyData.int))=true:=PySem.W.ke_shaped_ints ks
theorem shp0:SeqAt.shaped (.list [])=true:=PySem.W.ke_shaped_ints []
theorem wa{H:Hp}{z:Ra}{m:Rr}(R:RoomAt H z m)(G:Good m){j:Nat}(hj:j<m.parts.length){hs:List Addr}(eh:H z.ph=some (.lst (hs.map V.ref))):∃a,hs[j]?=some a/\H a=some (.lst ((m.hd j).map V.int))/\z.off a:=by
 obtain⟨hs',eh',ah⟩:=R.h;have e:hs'=hs:=by
  rw[eh]at eh';injection eh' with e;injection e with e;exact(List.map_inj_right (fun x y h=>by injection h)).mp e.symm
 subst e;have hl:=G.hl;obtain⟨a,ha,h1,h2⟩:=ah.get (i:=j) (x:=m.hd j) (by unfold Rr.hd;rw[getD_eq_getElem?_getD,List.getElem?_eq_getElem (by omega)];rfl);exact⟨a,ha,h1,h2⟩
theorem Apart.snoc{m:Rr}{is:List Nat}{j:Nat}{hs:List Int}(h:Apart m is)(hh:∀i∈is,∀k∈m.hd i,k∈hs)(h1:m.hd j≠[])(h2:∀k∈m.hd j,¬k∈hs):Apart m (is++[j]):=by
 refine⟨fun i hi=>?_,List.pairwise_append.mpr ⟨h.2,pairwise_singleton _ _,fun a ha b hb k hk hk'=>?_⟩⟩
 ·rcases mem_append.mp hi with e | e
  ·exact h.1 i e
  ·have e':i=j:=by simpa using e
   rw[e'];exact h1
 ·have e:b=j:=by simpa using hb
  subst e;exact h2 k hk' (hh a ha k hk)
theorem wb(n:Int):∀hs:List Int,inV (.int n) (hs.map V.int)=decide (n∈hs)
 | []=>rfl
 | h::r=>by
  have ih:=wb n r;unfold inV at ih|-;rw[map_cons,any_cons,ih];have e:eqV (.int h) (.int n)=decide (h=n):=by
   show decide _=_;simp
  rw[e,Bool.eq_iff_iff];simp only[Bool.or_eq_true,decide_eq_true_eq,mem_cons];constructor
  ·rintro(x | x)
   ·exact .inl x.symm
   ·exact .inr x
  ·rintro(x | x)
   ·exact .inl x.symm
   ·exact .inr x
theorem inI(n:Int)(hs:List Int):(if false=true then !inV (.int n) (hs.map V.int)else inV (.int n) (hs.map V.int))=decide (n∈hs):=by rw[if_neg (by decide),wb]
theorem notInI(n:Int)(hs:List Int):(if true=true then !inV (.int n) (hs.map V.int)else inV (.int n) (hs.map V.int)) = !decide (n∈hs):=by rw[if_pos rfl,wb]
theorem flats:∀hs:List Int,(hs.map V.int).all flatV=true
 | []=>rfl
 | h::r=>by rw[map_cons,all_cons,flats r];rfl
theorem take_snoc{α:Type}{l:List α}{i:Nat}{x:α}(h:l[i]?=some x):l.take (i+1)=l.take i++[x]:=by
 rw[List.take_add_one,h];rfl
inductive sp_naming(vs:List V)(H:Hp)(Q:VK)(xk:XK):Prop
 | mk (z:Ra) (m:Rr) (c:Int) (p:Addr) (ns:List Int) (_:vs=[.ref z.r,.int c,.ref p]) (_:RoomAt H z m) (_:Good m) (_:0<m.parts.length) (_:m.parts.length<65) (_:H p=some (.lst (ns.map V.int))) (_:z.off p) (_:ns.length=12) (_:Big ns) (_:More z m H Q):sp_naming vs H Q xk
theorem j1a{ns:List Int}{h:Int}(h0:2<=h)(h1:h<=(ns.length:Int)):cutV (ns.map V.int) (some 2) (some h)=((ns.drop 2).take (h-2).toNat).map V.int:=by
 unfold cutV;rw[map_take,List.map_drop];have e1:HT.sIx (ns.map V.int).length 0 (some 2)=2:=(HT.y8 (ns.map V.int).length 0 2).trans (by rw[length_map];omega);have e2:HT.sIx (ns.map V.int).length (ns.map V.int).length (some h)=h.toNat:=by
  show(if h<0 then _ else min h.toNat _)=_;rw[if_neg (by omega),length_map];omega
 rw[e1,e2];congr 1;omega
theorem j0Y{is:List Nat}{i:Nat}{x:V}(h:(is.map vN)[i]?=some x):∃j,is[i]?=some j/\x = .int j/\j∈is:=by
 rw[List.getElem?_map]at h;obtain⟨j,hj,rfl⟩:=Option.map_eq_some_iff.mp h;exact⟨j,hj,rfl,List.mem_of_getElem? hj⟩
theorem j1m{m:Rr}(G:Good m){j:Nat}(h:j<m.parts.length):atI (m.longs.map V.int) (j:Int)=some (.int (m.lg j)):=by
 have e:=G.gl;refine zw ?_;rw[List.getElem?_map];unfold Rr.lg;rw[getD_eq_getElem?_getD,List.getElem?_eq_getElem (by omega)];rfl
theorem j0q{m:Rr}(G:Good m){j:Nat}(h:j<m.parts.length):1<=m.lg j/\m.lg j<=10^60:=by
 obtain⟨_,o⟩:=G.ps j _ (List.getElem?_eq_getElem h);exact⟨o.g1,o.g2⟩
theorem xF{m:Rr}(G:Good m):∀{is:List Nat},(∀j∈is,j<m.parts.length)->(is.length:Int)<=(is.map m.lg).sum/\(is.map m.lg).sum<=is.length*10^60
 | [],_=>⟨Int.le_refl _,by simp⟩
 | j::r,h=>by
  have a:=xF G (is:=r) fun x hx=>h x (mem_cons_of_mem _ hx)
  have b:=j0q G (h j mem_cons_self);rw[map_cons,sum_cons,length_cons];omega
theorem cut1{xs:List V}:cutV xs none (some 1)=xs.take 1:=by
 unfold cutV;rw[show HT.sIx xs.length 0 none=0 from rfl,show HT.sIx xs.length xs.length (some 1)=min 1 xs.length from HT.y8 xs.length xs.length 1,List.drop_zero,Nat.sub_zero];cases xs with
 | nil=>rfl
 | cons x r=>rw[length_cons,show min 1 (r.length+1)=1 by omega]
theorem j2P{m:Rr}(G:Good m){j:Nat}(h:j<m.parts.length):(m.hd j).Nodup:=by
 obtain⟨_,o⟩:=G.ps j _ (List.getElem?_eq_getElem h);exact o.o.imp fun h=>Int.ne_of_lt h
theorem W5{m:Rr}{is:List Nat}{hs:List Int}{i j:Nat}(hj:is[i]?=some j)(h:∀k,k∈hs↔∃x∈is.take i,k∈m.hd x)(nd:hs.Nodup)(nj:(m.hd j).Nodup) :
  (hs++(m.hd j).filter fun k=>!decide (k∈hs)).Nodup/\∀k,k∈hs++(m.hd j).filter (fun k=>!decide (k∈hs))↔∃x∈is.take (i+1),k∈m.hd x:=by
 constructor
 ·refine nodup_append.mpr ⟨nd,nj.filter _,fun a ha b hb e=>?_⟩;subst e;have:=(mem_filter.mp hb).2;simp[ha]at this
 ·intro k;rw[take_snoc hj,mem_append,h k,mem_filter];constructor
  ·rintro(⟨x,hx,hk⟩ | ⟨hk,_⟩)
   ·exact⟨x,mem_append_left _ hx,hk⟩
   ·exact⟨j,mem_append_right _ (mem_singleton.mpr rfl),hk⟩
  ·rintro⟨x,hx,hk⟩;rcases mem_append.mp hx with e | e
   ·exact .inl ⟨x,e,hk⟩
   ·have e':x=j:=mem_singleton.mp e;subst e';by_cases hin:k∈hs
    ·exact .inl ((h k).mp hin)
    ·exact .inr ⟨hk,by simp[hin]⟩
theorem YC{ms hs:List Int}(hp:ms.Perm hs)(nd:hs.Nodup)(ho:ms.Pairwise (·<=·)):ms.Pairwise (· < ·):=
 (List.Pairwise.and ho (hp.nodup_iff.mpr nd)).imp fun {a b} h=>by have h1:=h.1;have h2:a≠b:=h.2;omega
theorem j0k{m:Rr}(G:Good m){is:List Nat}(hj:∀j∈is,j<m.parts.length){hs:List Int}(hmem:∀k,k∈hs↔∃j∈is,k∈m.hd j):∀k∈hs,0<=k/\k<(m.limbs.length:Int):=fun k hk=>by
 obtain⟨j,h1,h2⟩:=(hmem k).mp hk;exact(G.ps j _ (List.getElem?_eq_getElem (hj j h1))).2.k k h2
def Shp(n:Nat)(d:PyData):Prop:=d.canLay0=true/\d.depth<=n
theorem Shp.int{i:Int}:Shp 0 (.int i):=⟨rfl,Nat.le_refl _⟩
theorem Shp.str{x:Str}(h:PyData.strOk x=true):Shp 0 (.str x):=⟨h,Nat.le_refl _⟩
theorem Shp.mono{n k:Nat}{d:PyData}(h:Shp n d)(hk:n<=k):Shp k d:=⟨h.1,Nat.le_trans h.2 hk⟩
theorem Yb{n:Nat}:∀{ds:List PyData},(∀d∈ds,Shp n d)->PyData.canLayAll0 ds=true/\PyData.depthAll ds<=n
 | [],_=>⟨rfl,Nat.zero_le _⟩
 | d::r,h=>by
  have h1:=h d mem_cons_self;have h2:=Yb (ds:=r) fun x hx=>h x (mem_cons_of_mem _ hx)
  constructor
  ·show(d.canLay0&&PyData.canLayAll0 r)=true;rw[h1.1,h2.1];rfl
  ·show max d.depth (PyData.depthAll r)<=n;exact Nat.max_le.mpr ⟨h1.2,h2.2⟩
theorem Shp.lst{n:Nat}{ds:List PyData}(h:∀d∈ds,Shp n d):Shp (n+1) (.list ds):=⟨(Yb h).1,Nat.succ_le_succ (Yb h).2⟩
theorem Shp.tup{n:Nat}{ds:List PyData}(h:∀d∈ds,Shp n d):Shp (n+1) (.tuple ds):=⟨(Yb h).1,Nat.succ_le_succ (Yb h).2⟩
theorem Shp.ok{n:Nat}{d:PyData}(h:Shp n d)(hn:n<=64):SeqAt.shaped d=true:=by
 unfold SeqAt.shaped;rw[h.1,Bool.true_and];exact decide_eq_true (Nat.le_trans h.2 hn)
theorem Yd{x:Str}(h:Ws.isW x=true):PyData.strOk x=true:=by
 unfold Ws.isW Ws.among at h;rw[Bool.and_eq_true]at h;have h2:=of_decide_eq_true h.2;unfold PyData.strOk;rw[Array.all_eq_true_iff_forall_mem];intro c hc;have:=Wq.mp (h2 c (by simpa using hc));exact decide_eq_true (by omega)
noncomputable def fmD:Fm->PyData
 | .hold n=>.tuple [.str "hold",.int n]
 | .ring x n=>.tuple [.str "ring",.str x,.int n]
 | .rise x h n=>.tuple [.str "raise",.str x,.int h,.int n]
 | .row ps=>.tuple [.str "row",.tuple (ps.map PyData.str)]
 | .side ps=>.tuple [.str "side",.tuple (ps.map PyData.str)]
 | .again k x=>.tuple [.str "again",.int k,.str x]
noncomputable def partD(p:Str×Fm):PyData:=.tuple [.str p.1,fmD p.2]
theorem YZ{H:Hp}:∀(xs:List Str),DVs H (xs.map V.str) (xs.map PyData.str)
 | []=>.nil
 | x::r=>.cons (.str x) (YZ r)
theorem j1d{H:Hp}{a:Addr}{f:Fm}(h:FormAt H a f):DV H (.ref a) (fmD f):=by
 cases f with
 | hold n=>exact .tup h (.cons (.str _) (.cons (.int _) .nil))
 | ring x n=>exact .tup h (.cons (.str _) (.cons (.str _) (.cons (.int _) .nil)))
 | rise x v n=>exact .tup h (.cons (.str _) (.cons (.str _) (.cons (.int _) (.cons (.int _) .nil))))
 | row ps=>obtain⟨b,h1,h2⟩:=h;exact .tup h1 (.cons (.str _) (.cons (.tup h2 (YZ ps)) .nil))
 | side ps=>obtain⟨b,h1,h2⟩:=h;exact .tup h1 (.cons (.str _) (.cons (.tup h2 (YZ ps)) .nil))
 | again k x=>exact .tup h (.cons (.str _) (.cons (.int _) (.cons (.str _) .nil)))
theorem j1e{H:Hp}{a:Addr}{p:Str×Fm}(h:PartAt H a p):DV H (.ref a) (partD p):=by
 obtain⟨b,h1,h2⟩:=h;exact .tup h1 (.cons (.str _) (.cons (j1d h2) .nil))
theorem All2.tail{α:Type}{R:Addr->α->Prop}{a:Addr}{x:α}{as:List Addr}{xs:List α}(h:All2 R (a::as) (x::xs)):R a x/\All2 R as xs:=
 ⟨h.2 0 a x rfl rfl,Nat.succ.inj h.1,fun i b y h1 h2=>h.2 (i+1) b y (by simpa using h1) (by simpa using h2)⟩
theorem Wd{α:Type}{H:Hp}{R:Addr->α->Prop}{D:α->PyData}(k:∀a x,R a x->DV H (.ref a) (D x)):∀{as:List Addr} {xs:List α},All2 R as xs->DVs H (as.map V.ref) (xs.map D)
 | [],[],_=>.nil
 | [],_::_,h=>by have:=h.1;simp at this
 | _::_,[],h=>by have:=h.1;simp at this
 | _::_,_::_,h=>.cons (k _ _ h.tail.1) (Wd k h.tail.2)
noncomputable def FmWs:Fm->Prop
 | .hold n=>0<=n/\n<=10^18
 | .ring x n=>Ws.isW x=true/\0<=n/\n<=10^18
 | .rise x h n=>Ws.isW x=true/\0<=h/\h<=10^18/\0<=n/\n<=10^18
 | .row ps=>ps.length<=8/\∀x∈ps,Ws.isW x=true
 | .side ps=>ps.length<=8/\∀x∈ps,Ws.isW x=true
 | .again k x=>0<=k/\k<=10^18/\Ws.isW x=true
structure BkOk(ls:List (Str×Int))(ps:List (Str×Fm)):Prop where
 l8:ls.length<=8
 ln:∀p∈ls,Ws.isW p.1=true/\0<=p.2/\p.2<=10^18
 p61:ps.length<=61
 pn:∀p∈ps,Ws.isW p.1=true/\FmWs p.2
theorem j1u{m:Rr}(G:Good m){j:Nat}(h:j<68):Ws.isW (m.nm j)=true:=G.nw _ (getD_in (by rw[G.nl];exact h))
theorem Good.bk{m:Rr}(G:Good m)(h61:m.parts.length<=61):BkOk m.limbs m.parts:=by
 refine⟨G.l8,fun p hp=>⟨G.nw _ (G.lm p hp).1,(G.lm p hp).2⟩,h61,fun p hp=>?_⟩;obtain⟨i,hi,rfl⟩:=mem_iff_getElem.mp hp;obtain⟨e,o⟩:=G.ps i _ (List.getElem?_eq_getElem hi);refine⟨by rw[e];exact j1u G (by omega),?_⟩;have f:=o.f;generalize(m.parts[i]).2=fm at f;cases fm with
 | hold n=>exact⟨by have:=f.1;omega,f.2.1⟩
 | ring x n=>exact⟨G.nw _ f.1,by have:=f.2.1;omega,f.2.2.1⟩
 | rise x v n=>
  obtain⟨⟨j,v',hj,_⟩,h1,h2,h3,h4,_⟩:=f;exact⟨G.nw _ (G.lm _ (List.mem_of_getElem? hj)).1,h1,h2,by omega,h4⟩
 | row ps=>
  obtain⟨is,⟨rfl,hlt⟩,h1,h2,_⟩:=f;refine⟨by rw[length_map];exact h2,fun x hx=>?_⟩;obtain⟨j,hj,rfl⟩:=mem_map.mp hx;exact j1u G (by have:=hlt j hj;omega)
 | side ps=>
  obtain⟨is,⟨rfl,hlt⟩,h1,h2,_⟩:=f;refine⟨by rw[length_map];omega,fun x hx=>?_⟩;obtain⟨j,hj,rfl⟩:=mem_map.mp hx;exact j1u G (by have:=hlt j hj;omega)
 | again k x=>
  obtain⟨h1,h2,j,hj,rfl,_⟩:=f;exact⟨by omega,h2,j1u G (by omega)⟩
theorem kN{n:Nat}{xs:List Str}(h:∀x∈xs,Ws.isW x=true):∀d∈xs.map PyData.str,Shp n d:=fun d hd=>by
 obtain⟨x,hx,rfl⟩:=mem_map.mp hd;exact(Shp.str (Yd (h x hx))).mono (Nat.zero_le _)
theorem j0O{f:Fm}(h:FmWs f):Shp 2 (fmD f):=by
 cases f with
 | hold n=>exact(Shp.tup (n:=0) (by rintro d hd;simp only[mem_cons,not_mem_nil,or_false]at hd;rcases hd with rfl | rfl;exact Shp.str (by decide +kernel);exact Shp.int)).mono (by decide)
 | ring x n=>exact(Shp.tup (n:=0) (by rintro d hd;simp only[mem_cons,not_mem_nil,or_false]at hd;rcases hd with rfl | rfl | rfl;exact Shp.str (by decide +kernel);exact Shp.str (Yd h.1);exact Shp.int)).mono (by decide)
 | rise x v n=>exact(Shp.tup (n:=0) (by rintro d hd;simp only[mem_cons,not_mem_nil,or_false]at hd;rcases hd with rfl | rfl | rfl | rfl;exact Shp.str (by decide +kernel);exact Shp.str (Yd h.1);exact Shp.int;exact Shp.int)).mono (by decide)
 | row ps=>exact Shp.tup (n:=1) (by rintro d hd;simp only[mem_cons,not_mem_nil,or_false]at hd;rcases hd with rfl | rfl;exact(Shp.str (by decide +kernel)).mono (by decide);exact Shp.tup (kN h.2))
 | side ps=>exact Shp.tup (n:=1) (by rintro d hd;simp only[mem_cons,not_mem_nil,or_false]at hd;rcases hd with rfl | rfl;exact(Shp.str (by decide +kernel)).mono (by decide);exact Shp.tup (kN h.2))
 | again k x=>exact(Shp.tup (n:=0) (by rintro d hd;simp only[mem_cons,not_mem_nil,or_false]at hd;rcases hd with rfl | rfl | rfl;exact Shp.str (by decide +kernel);exact Shp.int;exact Shp.str (Yd h.2.2))).mono (by decide)
theorem j02{ls:List (Str×Int)}{ps:List (Str×Fm)}(B:BkOk ls ps):Shp 4 (.list (ps.map partD)):=by
 refine Shp.lst fun d hd=>?_
 obtain⟨p,hp,rfl⟩:=mem_map.mp hd;refine Shp.tup fun d hd=>?_
 simp only[mem_cons,not_mem_nil,or_false]at hd;rcases hd with rfl | rfl
 ·exact(Shp.str (Yd (B.pn p hp).1)).mono (by decide)
 ·exact j0O (B.pn p hp).2
structure BookAt(H:Hp)(b pl pp:Addr)(las pas:List Addr)(ls:List (Str×Int))(ps:List (Str×Fm)):Prop where
 t:H b=some (.tup [.ref pl,.ref pp])
 l:H pl=some (.lst (las.map V.ref))
 la:All2 (LimbAt H) las ls
 p:H pp=some (.lst (pas.map V.ref))
 pa:All2 (PartAt H) pas ps
theorem FormAt.same{H H':Hp}{a:Addr}{f:Fm}(s:Same H H')(h:FormAt H a f):FormAt H' a f:=by
 cases f with
 | row ps=>obtain⟨b,h1,h2⟩:=h;exact⟨b,s _ _ h1,s _ _ h2⟩
 | side ps=>obtain⟨b,h1,h2⟩:=h;exact⟨b,s _ _ h1,s _ _ h2⟩
 | hold n=>exact s _ _ h
 | ring x n=>exact s _ _ h
 | rise x g n=>exact s _ _ h
 | again x n=>exact s _ _ h
theorem PartAt.same{H H':Hp}{a:Addr}{p:Str×Fm}(s:Same H H')(h:PartAt H a p):PartAt H' a p:=by
 obtain⟨b,h1,h2⟩:=h;exact⟨b,s _ _ h1,FormAt.same s h2⟩
theorem BookAt.same{H H':Hp}{b pl pp:Addr}{las pas:List Addr}{ls:List (Str×Int)}{ps:List (Str×Fm)}(B:BookAt H b pl pp las pas ls ps)(s:Same H H'):BookAt H' b pl pp las pas ls ps:=
 ⟨s _ _ B.t,s _ _ B.l,B.la.mono fun a x h=>s _ _ h,s _ _ B.p,B.pa.mono fun a x h=>PartAt.same s h⟩
theorem XG(ps:List (Str×Fm)):PyData.eqv (.list (ps.map partD)) (.list [])=decide (ps=[]):=by
 cases ps<;>simp[PyData.eqv,PyData.eqvAll]
noncomputable def tI(n:Int):Str:=Str.ofString (toString n)
theorem xb{n:Int}(h0:0<=n)(h1:n<=10^18):n.natAbs.log2<1920:=by
 by_cases e:n.natAbs=0
 ·rw[e];decide
 ·exact(Nat.log2_lt e).mpr (Nat.lt_of_lt_of_le (show n.natAbs<2^60 by omega) (Nat.pow_le_pow_right (by decide) (by decide)))
theorem xG{n:Int}(h0:0<=n)(h1:n<=10^18):(tI n).length<=19:=toString_length_le h0 (by decide) (by omega)
noncomputable def lix(c:Int)(k:Nat):Nat:=if c%3<2 then 60+k else((c/3+5*(k:Int))%8).toNat
noncomputable def lnm(ws:List Str)(c:Int)(k:Nat):Str:=ws.getD (lix c k) ⟨#[]⟩
theorem j09{x y:Int}{i:Int}(h0:0<=i)(h1:i<3):atI [V.int x,V.int x,V.int y] i=some (.int (if i<2 then x else y)):=by
 rcases(by omega:i=0\/i=1\/i=2)with e | e | e<;>subst e<;>rfl
theorem j2i{ws:List Str}{c:Int}{i:Nat}(hl:ws.length=68)(hc:0<=c)(hi:i<8) :
  0<=(if c%3<2 then 60+(0+(i:Int))else(c/3+5*(0+(i:Int)))%8)/\(if c%3<2 then 60+(0+(i:Int))else(c/3+5*(0+(i:Int)))%8)<(ws.length:Int)/\
   ws.getD (if c%3<2 then 60+(0+(i:Int))else(c/3+5*(0+(i:Int)))%8).toNat ⟨#[]⟩=lnm ws c i:=by
 unfold lnm lix;rw[hl,Int.zero_add];split
 ·exact⟨by omega,by omega,by rw[show(60+(i:Int)).toNat=60+i by omega]⟩
 ·exact⟨by omega,by omega,rfl⟩
theorem xa{c:Int}{k:Nat}(h:k<8):lix c k<68:=by
 unfold lix;split<;>omega
theorem j1l{c:Int}{j k:Nat}(hj:j<8)(hk:k<8)(h:lix c j=lix c k):j=k:=by
 unfold lix at h;split at h<;>omega
theorem getD_inj{ws:List Str}(nd:ws.Nodup){i j:Nat}(hi:i<ws.length)(hj:j<ws.length)(h:ws.getD i ⟨#[]⟩=ws.getD j ⟨#[]⟩):i=j:=by
 rw[getD_eq_getElem?_getD,getD_eq_getElem?_getD,List.getElem?_eq_getElem hi,List.getElem?_eq_getElem hj]at h;have h':ws[i]=ws[j]:=h;rcases Nat.lt_trichotomy i j with q | q | q
 ·exact absurd h' (pairwise_iff_getElem.mp nd i j hi hj q)
 ·exact q
 ·exact absurd h'.symm (pairwise_iff_getElem.mp nd j i hj hi q)
theorem j2k{ws:List Str}{c:Int}{n:Nat}(hl:ws.length=68)(nd:ws.Nodup)(hn:n<=8):((List.range n).map (lnm ws c)).Nodup:=by
 refine pairwise_map.mpr (List.Pairwise.imp_of_mem (fun {a b} ha hb hab e=>?_) List.nodup_range);have h1:=mem_range.mp ha;have h2:=mem_range.mp hb;exact hab (j1l (by omega) (by omega) (getD_inj nd (by rw[hl];exact xa (by omega)) (by rw[hl];exact xa (by omega)) e))
theorem j2j{ws:List Str}{c:Int}{n:Nat}(hl:ws.length=68)(hn:n<=8){x:Str}(h:x∈(List.range n).map (lnm ws c)):x∈ws:=by
 obtain⟨k,hk,rfl⟩:=mem_map.mp h;have:=mem_range.mp hk;exact getD_in (by rw[hl];exact xa (by omega))
theorem j26{xs:List V}:(cutV xs (some 2) (some 62)).length<=60:=by
 unfold cutV;rw[length_take,show HT.sIx xs.length 0 (some 2)=min 2 xs.length from HT.y8 xs.length 0 2,show HT.sIx xs.length xs.length (some 62)=min 62 xs.length from HT.y8 xs.length xs.length 62];omega
open PyProof.Rows.KTD (inKeys Dat)
theorem at0{x:V}{xs:List V}:atI (x::xs) 0=some x:=zw (j:=0) rfl
theorem iteB0{b:Bool}{A B:Prop}(e:b=false)(h:B):if b=true then A else B:=by rw[e];exact h
theorem iteB1{b:Bool}{A B:Prop}(e:b=true)(h:A):if b=true then A else B:=by rw[e];exact h
theorem All2.at_ref{α:Type}{R:Addr->α->Prop}{as:List Addr}{xs:List α}{i:Nat}{v:V}(h:All2 R as xs)(hv:(as.map V.ref)[i]?=some v):∃a x,v = .ref a/\xs[i]?=some x/\R a x:=by
 rw[List.getElem?_map]at hv;obtain⟨a,ha,rfl⟩:=Option.map_eq_some_iff.mp hv;have hi:=(List.getElem?_eq_some_iff.mp ha).1;have hl:=h.1;have hx:xs[i]?=some xs[i]:=List.getElem?_eq_getElem (by omega);exact⟨a,_,rfl,hx,h.2 i a _ ha hx⟩
theorem Zl:∀{n:Nat} {hs:List Int},hs.Nodup->(∀k∈hs,0<=k/\k<(n:Int))->hs.length<=n
 | 0,hs,_,h=>by
  cases hs with
  | nil=>exact Nat.le_refl _
  | cons k r=>have:=h k mem_cons_self;omega
 | n+1,hs,nd,h=>by
  by_cases e:(n:Int)∈hs
  ·have i:=Zl (n:=n) (nd.erase (n:Int)) fun k hk=>by
    have h1:=h k (List.mem_of_mem_erase hk);have h2:k≠(n:Int):=fun z=>nd.not_mem_erase (z▸hk)
    omega
   have l:=List.length_erase_of_mem e;omega
  ·have i:=Zl (n:=n) nd fun k hk=>by
    have h1:=h k hk;have h2:k≠(n:Int):=fun z=>e (z▸hk)
    omega
   omega
noncomputable def Fm.ns:Fm->List Str
 | .row ps=>ps
 | .side ps=>ps
 | .again _ x=>[x]
 | _=>[]
noncomputable def numK(xs:List Str):List (Key×V):=xs.zipIdx.map fun p=>(Sum.inr p.1,.int (p.2:Nat))
theorem X3(xs:List Str)(x:Str):numK (xs++[x])=numK xs++[(Sum.inr x,.int (xs.length:Nat))]:=by
 unfold numK;rw[List.zipIdx_append,map_append];simp
theorem j0w(xs:List Str):(numK xs).length=xs.length:=by simp[numK]
theorem KG(xs:List Str):(numK xs).map (·.1)=xs.map Sum.inr:=by
 unfold numK;rw[map_map];have e:∀(k:Nat) (xs:List Str),(xs.zipIdx k).map ((fun x=>x.1)∘fun p:Str×Nat=>((Sum.inr p.1:Key),V.int (p.2:Nat)))=xs.map Sum.inr:=fun k xs=>by
  induction xs generalizing k with
  | nil=>rfl
  | cons x r ih=>rw[List.zipIdx_cons,map_cons,map_cons,ih];rfl
 exact e 0 xs
theorem j1w{xs:List Str}{j:Nat}{x:Str}(h:xs[j]?=some x):(numK xs)[j]?=some (Sum.inr x,.int (j:Nat)):=by
 unfold numK;rw[List.getElem?_map,List.getElem?_zipIdx,h];simp
theorem xJ:∀{kvs:List (Key×V)} {j:Nat} {k:Key} {v:V},(kvs.map (·.1)).Nodup->kvs[j]?=some (k,v)->valV kvs k=some v
 | [],j,k,v,_,h=>by simp at h
 | p::r,0,k,v,_,h=>by
  simp at h;subst h;unfold valV;simp
 | p::r,j+1,k,v,nd,h=>by
  rw[map_cons,nodup_cons]at nd;have h':r[j]?=some (k,v):=by simpa using h
  have ne:p.1≠k:=fun e=>nd.1 (e▸mem_map.mpr ⟨(k,v),List.mem_of_getElem? h',rfl⟩)
  have ih:=xJ nd.2 h';unfold valV at ih|-;rw[List.find?_cons,decide_eq_false ne];exact ih
theorem Wx{xs:List Str}(nd:xs.Nodup){j:Nat}{x:Str}(h:xs[j]?=some x):valV (numK xs) (Sum.inr x)=some (.int (j:Nat)):=
 xJ (by rw[KG];exact pairwise_map.mpr (nd.imp fun h e=>h (Sum.inr.inj e))) (j1w h)
theorem WE{kvs:List (Key×V)}{k:Key}{v:V}(h:k∉kvs.map (·.1)):putK kvs k v=kvs++[(k,v)]:=by
 unfold putK;rw[if_neg];intro e;obtain⟨p,hp,hk⟩:=any_eq_true.mp e;exact h (mem_map.mpr ⟨p,hp,of_decide_eq_true hk⟩)
noncomputable def ixOf:List Str->Str->Nat
 | [],_=>0
 | y::r,x=>if y=x then 0 else ixOf r x+1
theorem qb:∀{xs:List Str} {j:Nat} {x:Str},xs.Nodup->xs[j]?=some x->ixOf xs x=j
 | [],j,x,_,h=>by simp at h
 | y::r,0,x,_,h=>by
  simp at h;subst h;exact if_pos rfl
 | y::r,j+1,x,nd,h=>by
  rw[nodup_cons]at nd;have h':r[j]?=some x:=by simpa using h
  have ne:y≠x:=fun e=>nd.1 (e▸List.mem_of_getElem? h')
  show(if y=x then 0 else ixOf r x+1)=j+1;rw[if_neg ne,qb nd.2 h']
noncomputable def nmsOf{α:Type}(ps:List (Str×α)):List Str:=ps.map (·.1)
noncomputable def inP(ps:List (Str×Fm))(f:Fm):List Nat:=f.ns.map (ixOf (nmsOf ps))
structure WfB(ls:List (Str×Int))(ps:List (Str×Fm)):Prop where
 ln:(nmsOf ls).Nodup
 l8:ls.length<=8
 pn:(nmsOf ps).Nodup
 p61:ps.length<=61
 f:∀(i:Nat) (p:Str×Fm),ps[i]?=some p->(∀x∈p.2.ns,∃j,j<i/\(nmsOf ps)[j]?=some x)/\p.2.ns.length<=8
 r:∀(i:Nat) (y x:Str) (h n:Int),ps[i]?=some (y,.rise x h n)->∃j:Nat,(nmsOf ls)[j]?=some x
theorem WfB.inP_lt{ls:List (Str×Int)}{ps:List (Str×Fm)}(W:WfB ls ps){i:Nat}{p:Str×Fm}(h:ps[i]?=some p){j:Nat}(hj:j∈inP ps p.2):j<i:=by
 obtain⟨x,hx,rfl⟩:=mem_map.mp hj;obtain⟨k,hk,e⟩:=(W.f i p h).1 x hx;rw[qb W.pn e];exact hk
theorem KF{m:Rr}(G:Good m){j:Nat}(h:j<m.parts.length):(nmsOf m.parts)[j]?=some (m.nm j):=by
 unfold nmsOf;rw[List.getElem?_map,List.getElem?_eq_getElem h];exact congrArg some (G.ps j _ (List.getElem?_eq_getElem h)).1
theorem Good.wf{m:Rr}(G:Good m)(h61:m.parts.length<=61):WfB m.limbs m.parts:=by
 have nmd:∀i j,i<m.parts.length->j<m.parts.length->m.nm i=m.nm j->i=j:=fun i j hi hj e=>getD_inj G.nd (by rw[G.nl];omega) (by rw[G.nl];omega) e
 refine⟨G.ln,G.l8,?_,h61,fun i p hp=>?_,fun i y x h n hp=>?_⟩
 ·refine pairwise_iff_getElem.mpr fun i j hi hj hij e=>?_
  have li:i<m.parts.length:=by simpa [nmsOf]using hi
  have lj:j<m.parts.length:=by simpa [nmsOf]using hj
  have ei:=KF G li;have ej:=KF G lj;rw[List.getElem?_eq_getElem hi]at ei;rw[List.getElem?_eq_getElem hj]at ej;have:=nmd i j li lj ((Option.some.inj ei).symm.trans (e.trans (Option.some.inj ej)));omega
 ·obtain⟨_,o⟩:=G.ps i p hp;have hi:=(List.getElem?_eq_some_iff.mp hp).1;have f:=o.f;generalize p.2=fm at f;cases fm with
  | hold n=>exact⟨(fun x h=>nomatch h),Nat.zero_le _⟩
  | ring x n=>exact⟨(fun x h=>nomatch h),Nat.zero_le _⟩
  | rise x v n=>exact⟨(fun x h=>nomatch h),Nat.zero_le _⟩
  | row ps=>
   obtain⟨is,⟨rfl,hlt⟩,h1,h2,_⟩:=f;refine⟨fun x hx=>?_,by show(is.map m.nm).length<=8;rw[length_map];exact h2⟩;obtain⟨j,hj,rfl⟩:=mem_map.mp (show x∈is.map m.nm from hx);exact⟨j,hlt j hj,KF G (by have:=hlt j hj;omega)⟩
  | side ps=>
   obtain⟨is,⟨rfl,hlt⟩,h1,h2,_⟩:=f;refine⟨fun x hx=>?_,by show(is.map m.nm).length<=8;rw[length_map];omega⟩;obtain⟨j,hj,rfl⟩:=mem_map.mp (show x∈is.map m.nm from hx);exact⟨j,hlt j hj,KF G (by have:=hlt j hj;omega)⟩
  | again k x=>
   obtain⟨h1,h2,j,hj,rfl,_⟩:=f;refine⟨fun y hy=>?_,by show 1<=8;decide⟩;have e:y=m.nm j:=mem_singleton.mp (show y∈[m.nm j]from hy);rw[e];exact⟨j,hj,KF G (by omega)⟩
 ·obtain⟨_,o⟩:=G.ps i _ hp;obtain⟨⟨j,v',hj,_⟩,_⟩:=o.f;exact⟨j,by unfold nmsOf;rw[List.getElem?_map,hj];rfl⟩
inductive sp_numbers_of(vs:List V)(H:Hp)(Q:VK)(xk:XK):Prop
 | mk (l:Addr) (as:List Addr) (xs:List Str) (_:vs=[.ref l]) (_:H l=some (.lst (as.map V.ref))) (_:as.length=xs.length) (_:(∀(i:Nat) (a:Addr) (x:Str),as[i]?=some a->xs[i]?=some x->∃r,H a=some (.tup [.str x,r]))) (_:xs.Nodup) (_:xs.length<=100) (_:∀(d:Addr) (H':Hp),Same H H'->H d=none->H' d=some (.dK (numK xs))->Q (.ref d) H'):sp_numbers_of vs H Q xk
inductive sp_names_in(vs:List V)(H:Hp)(Q:VK)(xk:XK):Prop
 | mk (a:Addr) (f:Fm) (_:vs=[.ref a]) (_:FormAt H a f) (_:∀(b:Addr) (H':Hp),Same H H'->H' b=some (.tup (f.ns.map V.str))->Q (.ref b) H'):sp_names_in vs H Q xk
def ListsAt(H:Hp)(as:List Addr)(M:List (List Int)):Prop:=All2 (fun a ks=>H a=some (.lst (ks.map V.int))) as M
theorem All2.monoM{α:Type}{R S:Addr->α->Prop}{as:List Addr}{xs:List α}(h:All2 R as xs)(k:∀a∈as,∀x,R a x->S a x):All2 S as xs:=⟨h.1,fun i a x h1 h2=>k a (List.mem_of_getElem? h1) x (h.2 i a x h1 h2)⟩
inductive sp_inner(vs:List V)(H:Hp)(Q:VK)(xk:XK):Prop
 | mk (b pl pp:Addr) (las pas:List Addr) (ls:List (Str×Int)) (ps:List (Str×Fm)) (_:vs=[.ref b]) (_:BookAt H b pl pp las pas ls ps) (_:WfB ls ps) (_:∀(l:Addr) (as:List Addr) (H':Hp),Same H H'->H l=none->H' l=some (.lst (as.map V.ref))->(∀a∈as,H a=none)->ListsAt H' as (ps.map fun p=>(inP ps p.2).map fun j:Nat=>(j:Int))->Q (.ref l) H'):sp_inner vs H Q xk
def PrsAt(H:Hp)(bs:List Addr)(e:List (Int×Int)):Prop:=All2 (fun b q=>H b=some (.tup [.int q.1,.int q.2])) bs e
def EndsAt(H:Hp)(as:List Addr)(E:List (List (Int×Int))):Prop:=All2 (fun a e=>∃bs,H a=some (.lst (bs.map V.ref))/\PrsAt H bs e) as E
def LastIn(E:List (List (Int×Int)))(is:List Nat)(k v:Int):Prop:=∃pre j post,is=pre++j::post/\(k,v)∈E.getD j []/\∀j'∈post,∀v',(k,v')∉E.getD j' []
def EndIs(ls:List (Str×Int))(ps:List (Str×Fm))(E:List (List (Int×Int)))(f:Fm)(k v:Int):Prop:=LastIn E (inP ps f) k v\/∃x n,f = .rise x v n/\k=(ixOf (nmsOf ls) x:Nat)
def EndOk(ls:List (Str×Int))(ps:List (Str×Fm))(E:List (List (Int×Int))):Prop:=∀(i:Nat) (p:Str×Fm) (e:List (Int×Int)),ps[i]?=some p->E[i]?=some e->(e.map (·.1)).Pairwise (· < ·)/\∀k v,(k,v)∈e↔EndIs ls ps E p.2 k v
inductive sp_ends(vs:List V)(H:Hp)(Q:VK)(xk:XK):Prop
 | mk (b pl pp:Addr) (las pas:List Addr) (ls:List (Str×Int)) (ps:List (Str×Fm)) (_:vs=[.ref b]) (_:BookAt H b pl pp las pas ls ps) (_:WfB ls ps) (_:∀(l:Addr) (as:List Addr) (E:List (List (Int×Int))) (H':Hp),Same H H'->H l=none->H' l=some (.lst (as.map V.ref))->(∀a∈as,H a=none)->E.length=ps.length->EndsAt H' as E->EndOk ls ps E->Q (.ref l) H'):sp_ends vs H Q xk
def MovOk(ls:List (Str×Int))(ps:List (Str×Fm))(M:List (List Int)):Prop:=∀(i:Nat) (p:Str×Fm) (ks:List Int),ps[i]?=some p->M[i]?=some ks->ks.Pairwise (· < ·)/\∀k,k∈ks↔(∃j∈inP ps p.2,k∈M.getD j [])\/∃x h n,p.2 = .rise x h n/\k=(ixOf (nmsOf ls) x:Nat)
inductive sp_moved(vs:List V)(H:Hp)(Q:VK)(xk:XK):Prop
 | mk (b pl pp:Addr) (las pas:List Addr) (ls:List (Str×Int)) (ps:List (Str×Fm)) (_:vs=[.ref b]) (_:BookAt H b pl pp las pas ls ps) (_:WfB ls ps) (_:∀(l:Addr) (as:List Addr) (M:List (List Int)) (H':Hp),Same H H'->H l=none->H' l=some (.lst (as.map V.ref))->(∀a∈as,H a=none)->M.length=ps.length->ListsAt H' as M->MovOk ls ps M->Q (.ref l) H'):sp_moved vs H Q xk
theorem j0X:∀{a b:List Int},a.Pairwise (· < ·)->b.Pairwise (· < ·)->(∀k,k∈a↔k∈b)->a=b
 | [],[],_,_,_=>rfl
 | [],y::s,_,_,h=>absurd ((h y).mpr mem_cons_self) (by simp)
 | x::r,[],_,_,h=>absurd ((h x).mp mem_cons_self) (by simp)
 | x::r,y::s,ha,hb,h=>by
  rw[List.pairwise_cons]at ha hb;have e:x=y:=by
   rcases mem_cons.mp ((h x).mp mem_cons_self)with q | q
   ·exact q
   ·rcases mem_cons.mp ((h y).mpr mem_cons_self)with q' | q'
    ·exact q'.symm
    ·have h1:=hb.1 x q;have h2:=ha.1 y q';omega
  subst e;congr 1;refine j0X ha.2 hb.2 fun k=>⟨fun hk=>?_,fun hk=>?_⟩
  ·rcases mem_cons.mp ((h k).mp (mem_cons_of_mem _ hk))with q | q
   ·have:=ha.1 k hk;omega
   ·exact q
  ·rcases mem_cons.mp ((h k).mpr (mem_cons_of_mem _ hk))with q | q
   ·have:=hb.1 k hk;omega
   ·exact q
theorem getD_map{E:List (List (Int×Int))}(j:Nat):(E.map fun e=>e.map (·.1)).getD j []=(E.getD j []).map (·.1):=by
 rw[getD_eq_getElem?_getD,getD_eq_getElem?_getD,List.getElem?_map];cases E[j]?<;>rfl
theorem Y0{k:Int}{e:List (Int×Int)}:k∈e.map (·.1)↔∃v,(k,v)∈e:=by
 constructor
 ·intro h;obtain⟨p,hp,rfl⟩:=mem_map.mp h;exact⟨p.2,hp⟩
 ·rintro⟨v,h⟩;exact mem_map.mpr ⟨_,h,rfl⟩
theorem wk{E:List (List (Int×Int))}{k:Int}:∀{is:List Nat},(∃v,LastIn E is k v)↔∃j∈is,∃v,(k,v)∈E.getD j []
 | []=>⟨fun⟨v,pre,j,post,e,_⟩=>by cases pre<;>simp at e,fun⟨j,h,_⟩=>by simp at h⟩
 | i::r=>by
  have ih:=wk (E:=E) (k:=k) (is:=r);constructor
  ·rintro⟨v,pre,j,post,e,h1,h2⟩;exact⟨j,by rw[e];simp,v,h1⟩
  ·rintro⟨j,hj,v,hv⟩;by_cases q:∃j∈r,∃v,(k,v)∈E.getD j []
   ·obtain⟨v',pre,j',post,e,h1,h2⟩:=ih.mpr q;exact⟨v',i::pre,j',post,by rw[e];rfl,h1,h2⟩
   ·rcases mem_cons.mp hj with rfl | hj
    ·exact⟨v,[],j,r,rfl,hv,fun j' h' v' hv'=>q ⟨j',h',v',hv'⟩⟩
    ·exact absurd ⟨j,hj,v,hv⟩ q
theorem j2n{ls:List (Str×Int)}{ps:List (Str×Fm)}{E:List (List (Int×Int))}(hl:E.length=ps.length)(h:EndOk ls ps E):MovOk ls ps (E.map fun e=>e.map (·.1)):=fun i p ks hp hk=>by
 rw[List.getElem?_map]at hk;obtain⟨e,he,rfl⟩:=Option.map_eq_some_iff.mp hk;obtain⟨a,b⟩:=h i p e hp he;refine⟨a,fun k=>?_⟩;rw[Y0];constructor
 ·rintro⟨v,hv⟩;rcases(b k v).mp hv with z | ⟨x,n,e1,e2⟩
  ·obtain⟨j,hj,v',hv'⟩:=wk.mp ⟨v,z⟩;exact .inl ⟨j,hj,by rw[getD_map];exact Y0.mpr ⟨v',hv'⟩⟩
  ·exact .inr ⟨x,v,n,e1,e2⟩
 ·rintro(⟨j,hj,hk⟩ | ⟨x,h,n,e1,e2⟩)
  ·rw[getD_map]at hk;obtain⟨v',hv'⟩:=Y0.mp hk;obtain⟨v,z⟩:=wk.mpr ⟨j,hj,v',hv'⟩;exact⟨v,(b k v).mpr (.inl z)⟩
  ·exact⟨h,(b k h).mpr (.inr ⟨x,n,e1,e2⟩)⟩
theorem wc{xs:List Str}{x:Str}(h:x∈xs):ixOf xs x<xs.length:=by
 induction xs with
 | nil=>exact nomatch h
 | cons y r ih=>
  show(if y=x then 0 else ixOf r x+1)<r.length+1;split
  ·omega
  ·rename_i hne;rcases mem_cons.mp h with e | e
   ·exact absurd e.symm hne
   ·have:=ih e;omega
theorem We{ls:List (Str×Int)}{ps:List (Str×Fm)}(W:WfB ls ps){E:List (List (Int×Int))}(hl:E.length<=ps.length)(h:EndOk ls ps E):∀(i:Nat),∀q∈E.getD i [],0<=q.1/\q.1<(ls.length:Int):=by
 intro i
 induction i using Nat.strongRecOn with
 | ind i ih=>
  intro q hq;rw[getD_eq_getElem?_getD]at hq;cases e:E[i]? with
  | none=>rw[e]at hq;exact nomatch hq
  | some ev=>
   rw[e]at hq;have hi:=(List.getElem?_eq_some_iff.mp e).1;have ep:ps[i]?=some ps[i]:=List.getElem?_eq_getElem (by omega);obtain⟨_,b⟩:=h i _ ev ep e;rcases(b q.1 q.2).mp hq with⟨pre,j,post,e1,e2,_⟩ | ⟨x,n,e1,e2⟩
   ·exact ih j (W.inP_lt ep (by rw[e1];simp)) _ e2
   ·have ep':ps[i]?=some (ps[i].1,.rise x q.2 n):=by rw[ep,<-e1]
    obtain⟨j,hj⟩:=W.r i _ _ _ _ ep';have h3:=wc (List.mem_of_getElem? hj);have h4:(nmsOf ls).length=ls.length:=length_map _;rw[e2];omega
theorem Wf{ls:List (Str×Int)}{ps:List (Str×Fm)}(W:WfB ls ps){E:List (List (Int×Int))}(hl:E.length<=ps.length)(h:EndOk ls ps E){i:Nat}{e:List (Int×Int)}(he:E[i]?=some e):e.length<=8:=by
 have hi:=(List.getElem?_eq_some_iff.mp he).1;have a:=(h i _ e (List.getElem?_eq_getElem (by omega)) he).1;have b:=We W hl h i;rw[getD_eq_getElem?_getD,he]at b;have z:=Yr (ks:=e.map (·.1)) (lo:=0) (hi:=ls.length) a fun k hk=>by
  obtain⟨q,hq,rfl⟩:=mem_map.mp hk;exact b q hq
 rw[length_map]at z;have:=W.l8;omega
noncomputable def putI(kvs:List (Int×Int))(k v:Int):List (Int×Int):=if k∈kvs.map (·.1)then kvs.map (fun q=>if q.1=k then(q.1,v)else q)else kvs++[(k,v)]
noncomputable def mergeI(kvs more:List (Int×Int)):List (Int×Int):=more.foldl (fun acc q=>putI acc q.1 q.2) kvs
theorem j0I(kvs:List (Int×Int))(k v:Int):putK (kvs.map iiK) (Sum.inl k) (.int v)=(putI kvs k v).map iiK:=by
 have e:(((kvs.map iiK).any fun kv=>decide (kv.1=(Sum.inl k:Key)))=true)↔k∈kvs.map (·.1):=by
  rw[any_map,any_eq_true];constructor
  ·rintro⟨q,hq,h⟩;have h':(Sum.inl q.1:Key)=Sum.inl k:=of_decide_eq_true h;exact mem_map.mpr ⟨q,hq,Sum.inl.inj h'⟩
  ·intro h;obtain⟨q,hq,rfl⟩:=mem_map.mp h;exact⟨q,hq,decide_eq_true rfl⟩
 unfold putK putI;by_cases c:k∈kvs.map (·.1)
 ·rw[if_pos (e.mpr c),if_pos c,map_map,map_map];refine map_congr_left fun q _=>?_
  show(if(Sum.inl q.1:Key)=Sum.inl k then _ else _)=iiK (if q.1=k then(q.1,v)else q);by_cases z:q.1=k
  ·rw[if_pos z,if_pos (by rw[z])];rfl
  ·rw[if_neg z,if_neg (fun w=>z (Sum.inl.inj w))]
 ·rw[if_neg (fun w=>c (e.mp w)),if_neg c,map_append];rfl
theorem yw:∀(more kvs:List (Int×Int)),mergeK (kvs.map iiK) (more.map iiK)=(mergeI kvs more).map iiK
 | [],kvs=>rfl
 | q::r,kvs=>by
  show mergeK (putK (kvs.map iiK) (Sum.inl q.1) (.int q.2)) (r.map iiK)=(mergeI (putI kvs q.1 q.2) r).map iiK;rw[j0I,yw r]
theorem X9(kvs:List (Int×Int))(k v:Int)(nd:(kvs.map (·.1)).Nodup):((putI kvs k v).map (·.1)).Nodup:=by
 unfold putI;split
 ·rw[map_map];have e:kvs.map ((fun x=>x.1)∘fun q=>if q.1=k then(q.1,v)else q)=kvs.map (·.1):=map_congr_left fun q _=>by
   show(if q.1=k then(q.1,v)else q).1=q.1;split<;>rfl
  rw[e];exact nd
 ·rename_i c;rw[map_append,nodup_append];exact⟨nd,pairwise_singleton _ _,fun a ha b hb e=>c (by rw[show k=b from(mem_singleton.mp hb).symm,<-e];exact ha)⟩
theorem j0r{kvs:List (Int×Int)}{k v a b:Int}:(a,b)∈putI kvs k v↔(a=k/\b=v)\/(a≠k/\(a,b)∈kvs):=by
 unfold putI;split
 ·rename_i c;rw[mem_map];constructor
  ·rintro⟨q,hq,e⟩;by_cases z:q.1=k
   ·rw[if_pos z]at e;cases e;exact .inl ⟨z,rfl⟩
   ·rw[if_neg z]at e;subst e;exact .inr ⟨z,hq⟩
  ·rintro(⟨rfl,rfl⟩ | ⟨h1,h2⟩)
   ·obtain⟨q,hq,e⟩:=mem_map.mp c;exact⟨q,hq,by rw[if_pos e,e]⟩
   ·exact⟨(a,b),h2,by rw[if_neg h1]⟩
 ·rename_i c;rw[mem_append];constructor
  ·rintro(h | h)
   ·exact .inr ⟨fun e=>c (e▸mem_map.mpr ⟨(a,b),h,rfl⟩),h⟩
   ·cases mem_singleton.mp h;exact .inl ⟨rfl,rfl⟩
  ·rintro(⟨rfl,rfl⟩ | ⟨_,h⟩)
   ·exact .inr (mem_singleton.mpr rfl)
   ·exact .inl h
theorem KD:∀{more kvs:List (Int×Int)},(kvs.map (·.1)).Nodup->(more.map (·.1)).Nodup->((mergeI kvs more).map (·.1)).Nodup/\∀k v,(k,v)∈mergeI kvs more↔(k,v)∈more\/((∀v',(k,v')∉more)/\(k,v)∈kvs)
 | [],kvs,nd,_=>⟨nd,fun k v=>⟨fun h=>.inr ⟨(fun _ h=>nomatch h),h⟩,fun h=>h.elim (fun h=>nomatch h) (·.2)⟩⟩
 | q::r,kvs,nd,nm=>by
  rw[map_cons,nodup_cons]at nm;obtain⟨a,b⟩:=KD (more:=r) (kvs:=putI kvs q.1 q.2) (X9 _ _ _ nd) nm.2;refine⟨a,fun k v=>(b k v).trans ?_⟩;rw[j0r];have nq:∀v',(q.1,v')∉r:=fun v' h=>nm.1 (mem_map.mpr ⟨_,h,rfl⟩)
  constructor
  ·rintro(h | ⟨h1,⟨rfl,rfl⟩ | ⟨h2,h3⟩⟩)
   ·exact .inl (mem_cons_of_mem _ h)
   ·exact .inl mem_cons_self
   ·refine .inr ⟨fun v' hv=>?_,h3⟩;rcases mem_cons.mp hv with e | e
    ·exact h2 (by rw[<-e])
    ·exact h1 v' e
  ·rintro(h | ⟨h1,h2⟩)
   ·rcases mem_cons.mp h with e | e
    ·refine .inr ⟨fun v' hv=>?_,.inl ⟨by rw[<-e],by rw[<-e]⟩⟩;rw[<-e]at nq;exact nq v' hv
    ·exact .inl e
   ·refine .inr ⟨fun v' hv=>h1 v' (mem_cons_of_mem _ hv),.inr ⟨fun e=>?_,h2⟩⟩;exact h1 q.2 (by rw[e];exact mem_cons_self)
theorem xo{ms:List (Int×Int)}(nd:(ms.map (·.1)).Nodup):mergeI [] ms=ms:=by
 have e:∀(r acc:List (Int×Int)),((acc++r).map (·.1)).Nodup->mergeI acc r=acc++r:=by
  intro r
  induction r with
  | nil=>intro acc _;exact(append_nil _).symm
  | cons q r ih=>
   intro acc nd;have c:q.1∉acc.map (·.1):=fun h=>by
    rw[map_append,nodup_append]at nd;exact nd.2.2 q.1 h q.1 (by simp) rfl
   show mergeI (putI acc q.1 q.2) r=_;unfold putI;rw[if_neg c,ih (acc++[(q.1,q.2)]) (by rw[List.append_assoc];exact nd),List.append_assoc];rfl
 exact e ms [] nd
theorem XQ{E:List (List (Int×Int))}{is:List Nat}{j:Nat}{k v:Int}:LastIn E (is++[j]) k v↔(k,v)∈E.getD j []\/((∀v',(k,v')∉E.getD j [])/\LastIn E is k v):=by
 constructor
 ·rintro⟨pre,i,post,e,h1,h2⟩;rcases List.eq_nil_or_concat post with rfl | ⟨post',x,rfl⟩
  ·have e':=List.append_inj' (show is++[j]=pre++[i]from e) rfl;have ej:j=i:=by simpa using e'.2
   rw[ej];exact .inl h1
  ·have e2:is++[j]=(pre++i::post')++[x]:=by rw[e];simp
   have e':=List.append_inj' e2 rfl;have ej:j=x:=by simpa using e'.2
   subst ej;exact .inr ⟨h2 j (by simp),pre,i,post',e'.1,h1,fun j' hj'=>h2 j' (by simp[hj'])⟩
 ·rintro(h | ⟨h1,pre,i,post,e,h2,h3⟩)
  ·exact⟨is,j,[],rfl,h,(fun _ h=>nomatch h)⟩
  ·refine⟨pre,i,post++[j],by rw[e];simp,h2,fun j' hj' v'=>?_⟩;rcases mem_append.mp hj' with z | z
   ·exact h3 j' z v'
   ·rw[mem_singleton.mp z];exact h1 v'
theorem Wl{E E':List (List (Int×Int))}{is:List Nat}(h:∀j∈is,E.getD j []=E'.getD j []){k v:Int}:LastIn E is k v->LastIn E' is k v:=by
 rintro⟨pre,j,post,e,h1,h2⟩;refine⟨pre,j,post,e,by rw[<-h j (by rw[e];simp)];exact h1,fun j' hj'=>?_⟩;rw[<-h j' (by rw[e];simp[hj'])];exact h2 j' hj'
theorem EndOk.snoc{ls:List (Str×Int)}{ps:List (Str×Fm)}(W:WfB ls ps){E:List (List (Int×Int))}{p:Str×Fm}{e:List (Int×Int)}(h:EndOk ls ps E)(hp:ps[E.length]?=some p)(h1:(e.map (·.1)).Pairwise (· < ·))
  (h2:∀k v,(k,v)∈e↔EndIs ls ps E p.2 k v):EndOk ls ps (E++[e]):=fun i q f hq hf=>by
 have hle:i<=E.length:=by
  have:=(List.getElem?_eq_some_iff.mp hf).1;rw[List.length_append]at this;exact Nat.le_of_lt_succ this
 have ext:∀j∈inP ps q.2,E.getD j []=(E++[e]).getD j []:=fun j hj=>(getD_snoc (by have:=W.inP_lt hq hj;omega)).symm
 have iff:∀k v,EndIs ls ps E q.2 k v↔EndIs ls ps (E++[e]) q.2 k v:=fun k v=>by
  unfold EndIs;exact⟨fun h=>h.imp (Wl ext) id,fun h=>h.imp (Wl fun j hj=>(ext j hj).symm) id⟩
 by_cases hi:i<E.length
 ·rw[List.getElem?_append_left hi]at hf;obtain⟨a,b⟩:=h i q f hq hf;exact⟨a,fun k v=>(b k v).trans (iff k v)⟩
 ·have ei:i=E.length:=by omega
  subst ei;rw[List.getElem?_append_right (Nat.le_refl _),Nat.sub_self]at hf;have ef:e=f:=by simpa using hf
  subst ef;rw[hp]at hq;cases hq;exact⟨h1,fun k v=>(h2 k v).trans (iff k v)⟩
theorem j0o{H:Hp}{a:Addr}{f:Fm}(h:FormAt H a f)(hn:∀x v n,f≠.rise x v n):∃k xs,H a=some (.tup (.str k::xs))/\decide (k=("raise" : Str))=false:=by
 cases f with
 | hold n=>exact⟨_,_,h,by decide +kernel⟩
 | ring x n=>exact⟨_,_,h,by decide +kernel⟩
 | rise x v n=>exact absurd rfl (hn x v n)
 | row ps=>obtain⟨b,h1,_⟩:=h;exact⟨_,_,h1,by decide +kernel⟩
 | side ps=>obtain⟨b,h1,_⟩:=h;exact⟨_,_,h1,by decide +kernel⟩
 | again k x=>exact⟨_,_,h,by decide +kernel⟩
noncomputable def kv0(ls:List (Str×Int)):Fm->List (Int×Int)
 | .rise x h _=>[((ixOf (nmsOf ls) x:Nat),h)]
 | _=>[]
theorem j1j{ls:List (Str×Int)}{f:Fm}(hn:∀x v n,f≠.rise x v n):kv0 ls f=[]:=by
 cases f with
 | rise x v n=>exact absurd rfl (hn x v n)
 | _=>rfl
theorem yT{ls:List (Str×Int)}{f:Fm}{k v:Int}:(k,v)∈kv0 ls f↔∃x n,f = .rise x v n/\k=(ixOf (nmsOf ls) x:Nat):=by
 cases f with
 | rise x h n=>
  constructor
  ·intro hk;cases mem_singleton.mp hk;exact⟨x,n,rfl,rfl⟩
  ·rintro⟨x',n',e,rfl⟩;injection e with e1 e2 e3;subst e1 e2;exact mem_singleton.mpr rfl
 | _=>exact⟨(fun h=>nomatch h),fun⟨_,_,e,_⟩=>nomatch e⟩
theorem j2f{ps:List (Str×Fm)}{ls:List (Str×Int)}(f:Fm):inP ps f=[]\/kv0 ls f=[]:=by
 cases f with
 | rise x h n=>exact .inl rfl
 | _=>exact .inr rfl
theorem j2g{ls:List (Str×Int)}(f:Fm):((kv0 ls f).map (·.1)).Nodup:=by
 cases f with
 | rise x h n=>exact pairwise_singleton _ _
 | _=>exact .nil
inductive sp_check_side(vs:List V)(H:Hp)(Q:VK)(xk:XK):Prop
 | mk (r:Int) (l ll:Addr) (as las:List Addr) (M:List (List Int)) (_:vs=[.int r,.ref l,.ref ll]) (_:H l=some (.lst (as.map V.ref))) (_:ListsAt H as M) (_:(∀ks∈M,ks≠[])) (_:M.length<=8) (_:H ll=some (.lst (las.map V.ref))) (_:(∀k:Int,(M.filter fun ks=>decide (k∈ks)).length<=1)) (_:∀H',Same H H'->Q .non H'):sp_check_side vs H Q xk
noncomputable def LenIs:Fm->List Int->Int->Prop
 | .hold n,_,g=>g=n
 | .ring _ n,_,g=>g=n
 | .rise _ _ n,_,g=>g=n
 | .row _,gs,g=>g=gs.sum
 | .side _,gs,g=>g∈gs/\∀x∈gs,x<=g
 | .again k _,gs,g=>∃y,gs.head?=some y/\g=k*y
noncomputable def LenPre:Fm->List Int->Prop
 | .side _,gs=>gs≠[]
 | .again k _,gs=>∃y r,gs=y::r/\0<=k/\k<=10^18/\0<=y/\y<=10^60
 | _,_=>True
inductive sp_length_of(vs:List V)(H:Hp)(Q:VK)(xk:XK):Prop
 | mk (a l:Addr) (f:Fm) (gs:List Int) (_:vs=[.ref a,.ref l]) (_:FormAt H a f) (_:H l=some (.lst (gs.map V.int))) (_:LenPre f gs) (_:∀g,LenIs f gs g->Q (.int g) H):sp_length_of vs H Q xk
structure Snd(ls:List (Str×Int))(ps:List (Str×Fm))(gs:List Int)(hs:List (List Int)):Prop where
 w:WfB ls ps
 gl:gs.length=ps.length
 gb:∀i,i<ps.length->0<=gs.getD i 0/\gs.getD i 0<=10^60
 mv:∀M:List (List Int),M.length=ps.length->MovOk ls ps M->∀i,i<ps.length->M.getD i []=hs.getD i []
 ln:∀(i:Nat) (p:Str×Fm),ps[i]?=some p->LenPre p.2 ((inP ps p.2).map fun j=>gs.getD j 0)/\∀g,LenIs p.2 ((inP ps p.2).map fun j=>gs.getD j 0) g->g=gs.getD i 0
 sd:∀(i:Nat) (p:Str×Fm) (qs:List Str),ps[i]?=some p->p.2 = .side qs->(∀j∈inP ps p.2,hs.getD j []≠[])/\∀k:Int,(((inP ps p.2).map fun j=>hs.getD j []).filter fun ks=>decide (k∈ks)).length<=1
inductive sp_lengths(vs:List V)(H:Hp)(Q:VK)(xk:XK):Prop
 | mk (b pl pp:Addr) (las pas:List Addr) (ls:List (Str×Int)) (ps:List (Str×Fm)) (gs:List Int) (hs:List (List Int)) (_:vs=[.ref b]) (_:BookAt H b pl pp las pas ls ps) (_:Snd ls ps gs hs) (_:∀(l:Addr) (H':Hp),Same H H'->H l=none->H' l=some (.lst (gs.map V.int))->Q (.ref l) H'):sp_lengths vs H Q xk
theorem any_empty{M:List (List Int)}(h:∀ks∈M,ks≠[]):(M.any fun ks=>decide (ks=[]))=false:=by
 rw[List.any_eq_false];intro ks hks;simpa using h ks hks
theorem Xb{gs:List Int}{i:Nat}(h:i<gs.length):gs.take (i+1)=gs.take i++[gs.getD i 0]:=by
 refine take_snoc ?_;rw[getD_eq_getElem?_getD,List.getElem?_eq_getElem h];rfl
theorem j0j{gs:List Int}{i j:Nat}(hi:i<=gs.length)(hj:j<i):atI ((gs.take i).map V.int) (j:Int)=some (.int (gs.getD j 0)):=by
 refine zw ?_;rw[List.getElem?_map,List.getElem?_take,if_pos hj,getD_eq_getElem?_getD,List.getElem?_eq_getElem (by omega)];rfl
theorem zw{xs:List V}{i:Nat}{x:V}(h:xs[i]?=some x):atI xs (0+(i:Int))=some x:=by
 obtain⟨hi,rfl⟩:=List.getElem?_eq_some_iff.mp h;rw[Int.zero_add];unfold atI;simp[hi,ixN]
def New(ps:List (Str×Fm))(k:Nat)(f:Fm):Prop:=(∀x∈f.ns,∃j,j<k/\(nmsOf ps)[j]?=some x)/\f.ns.length<=8/\((∃xs,f = .side xs)\/(∃xs,f = .row xs)\/∃x,f = .again (10^18) x)
theorem wu{ps:List (Str×Fm)}{k:Nat}{p:Str×Fm}(h:ps[k]?=some p)(f:Fm):nmsOf (ps.set k (p.1,f))=nmsOf ps:=by
 obtain⟨hk,rfl⟩:=List.getElem?_eq_some_iff.mp h;unfold nmsOf;rw[List.map_set];refine List.ext_getElem? fun i=>?_
 rw[List.getElem?_set];by_cases e:k=i
 ·subst e;simp[hk]
 ·rw[if_neg e]
theorem KU{ps:List (Str×Fm)}{k i:Nat}{p q r:Str×Fm}(h:ps[k]?=some p)(hi:(ps.set k r)[i]?=some q):(i=k/\q=r)\/(i≠k/\ps[i]?=some q):=by
 rw[List.getElem?_set]at hi;by_cases e:k=i
 ·subst e;have hk:=(List.getElem?_eq_some_iff.mp h).1;rw[if_pos rfl,if_pos hk]at hi;exact .inl ⟨rfl,(Option.some.inj hi).symm⟩
 ·rw[if_neg e]at hi;exact .inr ⟨fun z=>e z.symm,hi⟩
theorem j2I{ls:List (Str×Int)}{ps:List (Str×Fm)}(W:WfB ls ps){k:Nat}{p:Str×Fm}(h:ps[k]?=some p){f:Fm}(hf:New ps k f):WfB ls (ps.set k (p.1,f)):=by
 refine⟨W.ln,W.l8,by rw[wu h];exact W.pn,by rw[length_set];exact W.p61,fun i q hq=>?_,fun i y x v n hq=>?_⟩
 ·rw[wu h];rcases KU h hq with⟨rfl,rfl⟩ | ⟨_,hq⟩
  ·exact⟨hf.1,hf.2.1⟩
  ·exact W.f i q hq
 ·rcases KU h hq with⟨rfl,e⟩ | ⟨_,hq⟩
  ·rw[<-(Prod.mk.inj e).2]at hf;rcases hf.2.2 with⟨_,z⟩ | ⟨_,z⟩ | ⟨_,z⟩<;>cases z
  ·exact W.r i y x v n hq
theorem j27{xs:List V}{k:Nat}:cutV xs none (some (k:Int))=xs.take k:=by
 unfold cutV;rw[show HT.sIx xs.length 0 none=0 from rfl,HT.y8,List.drop_zero,Nat.sub_zero,List.take_eq_take_iff];omega
theorem j1r{ls:List (Str×Int)}{ps:List (Str×Fm)}(W:WfB ls ps){M:List (List Int)}(hl:M.length=ps.length)(h:MovOk ls ps M):∀(i:Nat),∀k∈M.getD i [],0<=k/\k<(ls.length:Int):=by
 intro i
 induction i using Nat.strongRecOn with
 | ind i ih=>
  intro k hk;rw[getD_eq_getElem?_getD]at hk;cases e:M[i]? with
  | none=>rw[e]at hk;exact nomatch hk
  | some ks=>
   rw[e]at hk;have hi:=(List.getElem?_eq_some_iff.mp e).1;have ep:ps[i]?=some ps[i]:=List.getElem?_eq_getElem (by omega);obtain⟨_,b⟩:=h i _ ks ep e;rcases(b k).mp hk with⟨j,hj,hk'⟩ | ⟨x,v,n,e1,rfl⟩
   ·exact ih j (W.inP_lt ep hj) k hk'
   ·obtain⟨j,hj⟩:=W.r i (ps[i]).1 x v n (by rw[ep,<-e1]);rw[qb W.ln hj];have:=(List.getElem?_eq_some_iff.mp hj).1;unfold nmsOf at this;rw[length_map]at this;omega
noncomputable def hd0(ls:List (Str×Int))(f:Fm):List Int:=(kv0 ls f).map (·.1)
theorem j1o{ls:List (Str×Int)}{f:Fm}{k:Int}:k∈hd0 ls f↔∃x h n,f = .rise x h n/\k=(ixOf (nmsOf ls) x:Nat):=by
 unfold hd0;rw[Y0];constructor
 ·rintro⟨v,hv⟩;obtain⟨x,n,e1,e2⟩:=yT.mp hv;exact⟨x,v,n,e1,e2⟩
 ·rintro⟨x,v,n,e1,e2⟩;exact⟨v,yT.mpr ⟨x,n,e1,e2⟩⟩
theorem ko{H:Hp}:∀ks:List Int,DVs H (ks.map V.int) (ks.map PyData.int)
 | []=>.nil
 | k::r=>.cons (.int k) (ko r)
theorem FormAt.keep{H H':Hp}{a:Addr}{f:Fm}(k:∀c xs,H c=some (.tup xs)->H' c=some (.tup xs))(h:FormAt H a f):FormAt H' a f:=by
 cases f with
 | row ps=>obtain⟨c,h1,h2⟩:=h;exact⟨c,k _ _ h1,k _ _ h2⟩
 | side ps=>obtain⟨c,h1,h2⟩:=h;exact⟨c,k _ _ h1,k _ _ h2⟩
 | hold n=>exact k _ _ h
 | ring x n=>exact k _ _ h
 | rise x g n=>exact k _ _ h
 | again x n=>exact k _ _ h
theorem PartAt.keep{H H':Hp}{a:Addr}{p:Str×Fm}(k:∀c xs,H c=some (.tup xs)->H' c=some (.tup xs))(h:PartAt H a p):PartAt H' a p:=by
 obtain⟨b,h1,h2⟩:=h;exact⟨b,k _ _ h1,FormAt.keep k h2⟩
theorem All2.set{α:Type}{R:Addr->α->Prop}{as:List Addr}{xs:List α}(h:All2 R as xs){k:Nat}{a:Addr}{x:α}(hx:R a x):All2 R (as.set k a) (xs.set k x):=by
 refine⟨by rw[length_set,length_set];exact h.1,fun i b y hb hy=>?_⟩;rw[List.getElem?_set]at hb hy;by_cases e:k=i
 ·rw[if_pos e]at hb hy;split at hb
  ·split at hy
   ·cases hb;cases hy;exact hx
   ·cases hy
  ·cases hb
 ·rw[if_neg e]at hb hy;exact h.2 i b y hb hy
theorem ixK{n k:Nat}(h:k<n):ixN n (k:Int)=some k:=by
 unfold ixN;simp[h]
end Rm
namespace L2
open PySem PySem.Spec PyProof.Rows
theorem ObjOk.has{P:Program}{w:World}{H:Hp}{h:Heap}{a:Addr}{o:HO}(x:ObjOk P w H h a o):∃ob,h.get? a=some ob:=by
 cases o with
 | lst xs=>obtain⟨_,_,_,_,e⟩:=x;exact⟨_,e⟩
 | tup xs=>obtain⟨_,_,_,_,e,_⟩:=x;exact⟨_,e⟩
 | dK kvs=>obtain⟨_,_,_,_,o,_,_,e,_⟩:=x;exact⟨_,e⟩
 | dT kvs=>obtain⟨_,_,_,_,o,_,_,e,_⟩:=x;exact⟨_,e⟩
 | set S n=>obtain⟨o,_,_,_,e,_⟩:=x;exact⟨_,e⟩
 | ins C dx fs=>obtain⟨_,_,_,e,_⟩:=x;exact⟨_,e⟩
 | own y=>exact x
 | xd fs=>obtain⟨_,⟨_,_,_,e,_⟩,_⟩:=x;exact⟨_,e⟩
 | rng lo hi=>obtain⟨_,_,_,e⟩:=x;exact⟨_,e⟩
 | frz ob u=>obtain⟨e,_⟩:=x;exact⟨_,e⟩
 | tbl ps=>exact⟨_,show h.get? a=some _ from x⟩
 | met f y=>exact⟨_,show h.get? a=some _ from x⟩
 | ext φ=>obtain⟨_,e,_⟩:=x;exact e
def Air(B:Heap)(l:List Env)(a:Addr)(cls:Value)(h:Heap):Prop:=
  B.StaysIn h/\B.get? a=none/\h.FunFrames B l/\
    ((∃a0,h.TracedW B a cls a0)\/(∃oe vs a0,h.get? a=some oe/\oe.cls=cls/\oe.data = .fields vs/\vs[1]?=some .none/\vs[0]?=some a0)\/
     ∃env r L a0,l=env::r/\env.frame=some L/\h.TracedAtW B a cls a0 (rawInt L))
section
variable{M:Model}{A:Around}{E:Value->Shared->Prop}{s:Shared}{B:Heap}{env:Env}{outer:List Env}{L a:Addr}{cls:Value}{Q:Unit->Shared->Prop}
theorem wS(hfr:A.frames=some (env::outer))(hf:env.frame=some L)(x:Air B (env::outer) a cls s.heap)
  (hQ:∀h',Air B outer a cls h'->s.heap.UpToSlots h'->Q () {s with heap:=h'}):wpAny M A (leaving env (.ref a)) Q E s:=by
 obtain⟨k1,k2,k3,⟨a0,t⟩ | ⟨oe,vs,a0,he,rfl,hd,h1,h0⟩ | ⟨env',r,L',a0,e1,hf',t⟩⟩:=x
 ·exact wpAny_leaving_nextW hfr k3 hf t k1 k2 fun h' ⟨x1,⟨_,_,x2⟩,x3,x4⟩=>hQ h' ⟨x1,k2,x2,.inl ⟨a0,x3⟩⟩ x4
 ·exact wpAny_leaving_firstW (a0:=a0) hfr k3 hf he k1 k2 hd h1 h0 fun h' ⟨x1,⟨_,_,x2⟩,x3,x4⟩=>hQ h' ⟨x1,k2,x2,.inl ⟨a0,x3⟩⟩ x4
 ·cases e1;unfold leaving;refine wpAny_bind (wpAny_noteFrame_againW hf' t (wpAny_landsW ⟨k1,k2,k3,t⟩ fun h' ⟨x1,x2,⟨_,_,x3⟩,x4⟩ u=>hQ h' ⟨x1,x2,x3,.inl ⟨a0,x4⟩⟩ u))
theorem Xu(hfr:A.frames=some (env::outer))(hf:env.frame=some L)(x:Air B (env::outer) a cls s.heap)
  (hQ:∀h' a0,Heap.FlyingW B (env::outer) a cls a0 h'->s.heap.UpToSlots h'->Q () {s with heap:=h'}) :
  wpAny M A (noteFrame (.ref a) env) (fun _ s₂=>wpAny M A (setFlight (.ref a) none) Q E s₂) E s:=by
 obtain⟨k1,k2,k3,⟨a0,t⟩ | ⟨oe,vs,a0,he,rfl,hd,h1,h0⟩ | ⟨env',r,L',a0,e1,hf',t⟩⟩:=x
 ·exact wpAny_looks_onW hfr hf ⟨k1,k2,k3,t⟩ fun h4 hh u4=>wpAny_landsW hh fun h5 f5 u5=>hQ h5 a0 f5 (u4.trans u5)
 ·unfold noteFrame;simp only[hf];refine wpAny_bind (wpAny_field he hd h1 ?_);rw[if_neg (by decide)];refine wpAny_entryW hfr k3 hf he k1 k2 hd (Array.getElem?_eq_some_iff.mp h1).1 h0 fun h4 ⟨x1,x2,x3,x4⟩=>?_
  exact wpAny_landsW ⟨x1,k2,x2,x3⟩ fun h5 f5 u5=>hQ h5 a0 f5 (Heap.UpToSlots.trans x4 u5)
 ·cases e1;exact wpAny_noteFrame_againW hf' t (wpAny_landsW ⟨k1,k2,k3,t⟩ fun h5 f5 u5=>hQ h5 a0 f5 u5)
theorem Xv(hfr:A.frames=some (env::outer))(hf:env.frame=some L)(x:Air B (env::outer) a cls s.heap)
  (hQ:∀h' a0,Heap.HeldW B (env::outer) a cls a0 L h'->s.heap.UpToSlots h'->Q () {s with heap:=h'}):wpAny M A (noteFrame (.ref a) env) Q E s:=by
 obtain⟨k1,k2,k3,⟨a0,t⟩ | ⟨oe,vs,a0,he,rfl,hd,h1,h0⟩ | ⟨env',r,L',a0,e1,hf',t⟩⟩:=x
 ·exact wpAny_looks_onW hfr hf ⟨k1,k2,k3,t⟩ fun h4 hh u4=>hQ h4 a0 hh u4
 ·unfold noteFrame;simp only[hf];refine wpAny_bind (wpAny_field he hd h1 ?_);rw[if_neg (by decide)];exact wpAny_entryW hfr k3 hf he k1 k2 hd (Array.getElem?_eq_some_iff.mp h1).1 h0 fun h4 ⟨x1,x2,x3,x4⟩=>hQ h4 a0 ⟨x1,k2,x2,x3⟩ x4
 ·cases e1;obtain rfl:L=L':=Option.some.inj (hf.symm.trans hf');exact wpAny_noteFrame_againW hf' t (hQ _ a0 ⟨k1,k2,k3,t⟩ (.refl _))
theorem W6{a0:Value}(x:Heap.HeldW B (env::outer) a cls a0 L s.heap)(hf:env.frame=some L)
  (hQ:∀h',Heap.HeldW B (env::outer) a cls a0 L h'->s.heap.UpToSlots h'->Q () {s with heap:=h'}) :
  wpAny M A (do
   if(<-field (.ref a) 1) == .none then unsupported "frame.own-activation:exception-without-traceback"
   setFlight (.ref a) env.frame) Q E s:=by
 obtain⟨hkb,hen,hl,oe,vs,T,oT,ts,he,hcls,hd,h1,hnT,hTe,hT,hdT,h3⟩:=x;have hsz3:3<ts.size:=(Array.getElem?_eq_some_iff.mp h3).1;have other:∀b,b≠T->(s.heap.update T (Obj.mapFields (·.setIfInBounds 3 ((some L).elim Value.none fun f=>rawInt f)))).get? b=s.heap.get? b:=
  fun b hb=>Heap.get?_update_other _ _ (Ne.symm hb)
 have noRecord:∀b o,s.heap.get? b=some o->(∀vs,o.data≠.fields vs)->b≠T:=fun b o hb hnf q=>by
  rw[q,hT]at hb;injection hb with hb;subst hb;exact hnf ts hdT
 rw[hf];refine wpAny_bind (wpAny_field he hd h1 ?_);rw[if_neg (show¬((Value.ref T==Value.none)=true)from by simp)];unfold setFlight;refine wpAny_bind (wpAny_field he hd h1 ?_);rw[if_pos (show(Value.ref T != Value.none)=true from by simp)];refine wpAny_setField hT hdT hsz3 (hQ _ ⟨fun b o hbo=>(other b fun q=>by rw[q,hnT]at hbo;cases hbo).trans (hkb b o hbo),hen,
  hl.of_keeps fun b o hb hnf=>⟨o,(other b (noRecord b o hb hnf)).trans hb,rfl⟩,?_⟩ fun b o hb hnf=>⟨o.slots,(other b (noRecord b o hb hnf)).trans hb⟩)
 exact⟨oe,vs,T,_,_,(other a (Ne.symm hTe)).trans he,hcls,hd,h1,hnT,hTe,Heap.get?_update_self _ hT (Obj.isFreed_of_fields (Obj.data_mapFields hdT _)),Obj.data_mapFields hdT _,by simp[hsz3]⟩
end
def DS(h h':Heap):Prop:=∀b o,h.get? b=some o->∃o',h'.get? b=some o'/\o'.cls=o.cls/\o'.dict=o.dict
theorem DS.refl(h:Heap):DS h h:=fun _ o e=>⟨o,e,rfl,rfl⟩
theorem DS.trans{h1 h2 h3:Heap}(x:DS h1 h2)(y:DS h2 h3):DS h1 h3:=fun b o e=>
 let ⟨o1,e1,c1,d1⟩:=x b o e;let ⟨o2,e2,c2,d2⟩:=y b o1 e1;⟨o2,e2,c2.trans c1,d2.trans d1⟩
def Kf(f:Obj->Obj):Prop:=∀o,(f o).cls=o.cls/\(f o).dict=o.dict/\(o.isFreed=false->(f o).isFreed=false)
theorem DS.upd{h:Heap}{a:Addr}{f:Obj->Obj}(k:Kf f):DS h (h.update a f):=fun b o e=>by
 by_cases z:b=a
 ·subst z;exact⟨f o,Heap.get?_update_self _ e ((k o).2.2 (Heap.get?_some_iff.mp e).2),(k o).1,(k o).2.1⟩
 ·exact⟨o,(Heap.get?_update_ne _ _ _ _ z).trans e,rfl,rfl⟩
theorem DS.push{h:Heap}{o:Obj}:DS h (h.push o):=fun b ob e=>⟨ob,Heap.get?_push_of_some _ e,rfl,rfl⟩
inductive DK{α:Type}:Sem α->Prop
 | pure (a:α):DK (.pure a)
 | raise (e:Value):DK (.raise e)
 | unsupported (w:String):DK (.unsupported w)
 | finish (e:Ending):DK (.finish e)
 | rule {t:String} {k:Unit->Sem α} (h:∀u,DK (k u)):DK (.rule t k)
 | at {p:Pos} {k:Unit->Sem α} (h:∀u,DK (k u)):DK (.at p k)
 | load {a:Addr} {pt:Option Value} {k:Obj->Sem α} (h:∀o,DK (k o)):DK (.load a pt k)
 | update {a:Addr} {pt:Option Value} {f:Obj->Obj} {k:Unit->Sem α} (kf:Kf f) (h:∀u,DK (k u)):DK (.update a pt f k)
 | alloc {o:Obj} {k:Addr->Sem α} (h:∀a,DK (k a)):DK (.alloc o k)
 | alive {a:Addr} {k:Option Obj->Sem α} (h:∀o,DK (k o)):DK (.loadIfAlive a k)
 | point {l:List Value} {k:Unit->Sem α} (h:∀u,DK (k u)):DK (.point l k)
 | ask {k:Setting->Sem α} (h:∀u,DK (k u)):DK (.ask k)
 | stack {k:List (Code×Pos)->Sem α} (h:∀u,DK (k u)):DK (.stack k)
 | fresh {k:Tok->Sem α} (h:∀u,DK (k u)):DK (.fresh k)
 | handled {b:Bool} {k:Option Value->Sem α} (h:∀u,DK (k u)):DK (.handled b k)
theorem wpMono{α:Type}{M:Model}{Γ:PySem.Ctx}{t:Sem α}{Q Q':α->Pos->Shared->Prop}{E E':Value->Pos->Shared->Prop}{p:Pos}{s:Shared}(h:Sem.wp M Γ t Q E p s)(q:∀a p' s',Q a p' s'->Q' a p' s')(e:∀a p' s',E a p' s'->E' a p' s'):Sem.wp M Γ t Q' E' p s:=Sem.wp_mono M Γ t q e p s h
theorem j2V{α:Type}{M:Model}{Γ:PySem.Ctx}{t:Sem α}(d:DK t):∀{Q:α->Pos->Shared->Prop} {E:Value->Pos->Shared->Prop} {p:Pos} {s:Shared},Sem.wp M Γ t Q E p s->
  Sem.wp M Γ t (fun a p' s'=>Q a p' s'/\DS s.heap s'.heap) (fun a p' s'=>E a p' s'/\DS s.heap s'.heap) p s:=by
 induction d with
 | pure a=>intro Q E p s h;rw[Sem.wp]at h|-;exact⟨h,.refl _⟩
 | raise a=>intro Q E p s h;rw[Sem.wp]at h|-;exact⟨h,.refl _⟩
 | unsupported=>intro Q E p s h;rw[Sem.wp]at h;exact h.elim
 | finish=>intro Q E p s h;rw[Sem.wp]at h;exact h.elim
 | rule _ ih=>intro Q E p s h;rw[Sem.wp]at h|-;exact ih _ h
 | «at» _ ih=>intro Q E p s h;rw[Sem.wp]at h|-;exact ih _ h
 | load _ ih=>intro Q E p s h;rw[Sem.wp]at h|-;obtain⟨o,e,h⟩:=h;exact⟨o,e,ih _ h⟩
 | update kf _ ih=>
  intro Q E p s h;rw[Sem.wp]at h|-;refine⟨h.1,wpMono (ih _ h.2) (fun a p' s' z=>⟨z.1,(DS.upd kf).trans z.2⟩) fun a p' s' z=>⟨z.1,(DS.upd kf).trans z.2⟩⟩
 | alloc _ ih=>
  intro Q E p s h;rw[Sem.wp]at h|-;exact wpMono (ih _ h) (fun a p' s' z=>⟨z.1,DS.push.trans z.2⟩) fun a p' s' z=>⟨z.1,DS.push.trans z.2⟩
 | alive _ ih=>intro Q E p s h;rw[Sem.wp]at h|-;exact ih _ h
 | point _ ih=>intro Q E p s h;rw[Sem.wp]at h|-;exact ih _ h
 | ask _ ih=>intro Q E p s h;rw[Sem.wp]at h|-;exact ih _ h
 | stack _ ih=>intro Q E p s h;rw[Sem.wp]at h|-;exact ih _ h
 | fresh _ ih=>intro Q E p s h;rw[Sem.wp]at h|-;exact ih _ h
 | handled _ ih=>intro Q E p s h;rw[Sem.wp]at h|-;exact ih _ h
theorem Zr{α:Type}{M:Model}{A:Around}{t:Sem α}(d:DK t){Q:α->Shared->Prop}{E:Value->Shared->Prop}{s:Shared}(h:wpAny M A t Q E s):wpAny M A t (fun a s'=>Q a s'/\DS s.heap s'.heap) (fun e s'=>E e s'/\DS s.heap s'.heap) s:=
 fun Γ p z=>j2V d (h Γ p z)
theorem DK.bind{α β:Type}{t:Sem α}{f:α->Sem β}(d:DK t)(h:∀a,DK (f a)):DK (t >>= f):=by
 show DK (Sem.bind t f)
 induction d with
 | pure a=>exact h a
 | raise=>exact .raise _
 | unsupported=>exact .unsupported _
 | finish=>exact .finish _
 | rule _ ih=>exact .rule ih
 | «at» _ ih=>exact .at ih
 | load _ ih=>exact .load ih
 | update kf _ ih=>exact .update kf ih
 | alloc _ ih=>exact .alloc ih
 | alive _ ih=>exact .alive ih
 | point _ ih=>exact .point ih
 | ask _ ih=>exact .ask ih
 | stack _ ih=>exact .stack ih
 | fresh _ ih=>exact .fresh ih
 | handled _ ih=>exact .handled ih
theorem j0n(f:Array Value->Array Value):Kf (Obj.mapFields f):=fun o=>by
 obtain⟨c,d,dt,sl⟩:=o;cases dt<;>exact⟨rfl,rfl,fun h=>h⟩
theorem ZR(v:Value):DK (fieldsOf v):=by
 unfold fieldsOf;split
 ·refine DK.bind (.load fun o=>.pure _) fun o=>?_
  split
  ·exact .pure _
  ·exact .unsupported _
 ·exact .unsupported _
theorem Zh(v:Value)(i:Nat):DK (field v i):=by
 unfold field;refine DK.bind (ZR v) fun a=>?_
 split
 ·exact .pure _
 ·exact .unsupported _
theorem kn(a:Addr)(i:Nat)(v:Value):DK (updateField a i v):=by
 unfold updateField
 repeat (first | exact DK.pure _ | exact DK.unsupported _ | exact DK.raise _ | exact ZR _ | exact Zh _ _ | (refine DK.update (j0n _) fun _=>?_) | (refine DK.load fun _=>?_) | (refine DK.stack fun _=>?_) | (refine DK.alloc fun _=>?_) | (refine DK.rule fun _=>?_) | (refine DK.point fun _=>?_) | (refine DK.bind ?_ fun _=>?_) | split | assumption)
theorem ZS(v:Value)(i:Nat)(x:Value):DK (setField v i x):=by
 unfold setField;split
 ·exact kn _ _ _
 ·exact .unsupported _
theorem QN(e:Value)(f:Option Addr):DK (setFlight e f):=by
 unfold setFlight;refine DK.bind (Zh _ _) fun _=>?_
 split
 ·exact ZS _ _ _
 ·exact .pure _
theorem XF(env:Env)(l:List Env):DK (behindIsImport env l):=by
 unfold behindIsImport
 repeat (first | exact DK.pure _ | exact DK.unsupported _ | exact DK.raise _ | exact ZR _ | exact Zh _ _ | (refine DK.update (j0n _) fun _=>?_) | (refine DK.load fun _=>?_) | (refine DK.stack fun _=>?_) | (refine DK.alloc fun _=>?_) | (refine DK.rule fun _=>?_) | (refine DK.point fun _=>?_) | (refine DK.bind ?_ fun _=>?_) | split | assumption)
theorem j0f:DK underTheClaimsCaller:=.stack fun _=>.pure _
theorem Wa(env:Env)(i:Bool)(l:List Env):DK (keptBack env i l):=by
 unfold keptBack;split
 ·split
  ·exact .pure _
  ·exact .bind j0f fun _=>.pure _
 ·exact .pure _
theorem Wc:∀l:List Env,DK (readyFrames l)
 | []=>.pure _
 | env::outer=>by
  unfold readyFrames;split
  ·refine DK.bind (.load fun o=>.pure _) fun o=>?_
   split
   ·exact .pure _
   ·refine DK.bind (XF _ _) fun _=>DK.bind (Wa _ _ _) fun _=>DK.bind (.update (fun o=>⟨rfl,rfl,fun h=>by obtain⟨c,d,dt,sl⟩:=o;cases dt<;>exact h⟩) fun _=>.pure _) fun _=>Wc outer
  ·exact .unsupported _
theorem km:∀l:List Env,DK (frameObject l)
 | []=>.pure _
 | env::outer=>.bind (Wc _) fun _=>.pure _
theorem WY(env:Env):DK (PySem.frameOf env):=by
 unfold PySem.frameOf;refine DK.bind (.stack fun _=>.pure _) fun _=>DK.bind (km _) fun a=>?_
 split
 ·exact .pure _
 ·exact .unsupported _
theorem j0e(f:Addr)(b:Bool):DK (entryPlaceOf f b):=by
 unfold entryPlaceOf;refine DK.bind (.stack fun _=>.pure _) fun _=>?_
 split<;>exact .pure _
theorem Wb(a b c d e:Value)(pl:List Value):DK (EntryCells.newEntry a b c d e pl):=by
 unfold EntryCells.newEntry newFields newObj;dsimp only;have fin:∀dt:Data,DK (newObjAsIs (.type "traceback") dt):=fun dt=>DK.bind (.alloc fun _=>.pure _) fun _=>.pure _
 split<;>split<;>first | exact fin _ | exact DK.bind (.unsupported _) fun _=>fin _
theorem K8(e:Value)(env:Env):DK (noteFrame e env):=by
 unfold noteFrame;split
 ·refine DK.bind (Zh _ _) fun hd=>?_
  have rest:∀(f:Addr),DK (do setField e 1 (<-EntryCells.newEntry hd (<-frameOf env) .none (rawInt f) .none (<-entryPlaceOf f (hd != .none)))):=fun f=>
   DK.bind (WY _) fun _=>DK.bind (j0e _ _) fun _=>DK.bind (Wb _ _ _ _ _ _) fun _=>ZS _ _ _
  split
  ·refine DK.bind (Zh _ _) fun _=>?_
   split
   ·exact .pure _
   ·exact DK.bind (ZS _ _ _) fun _=>rest _
  ·exact rest _
 ·exact .unsupported _
theorem WZ(env:Env)(e:Value):DK (leaving env e):=.bind (K8 _ _) fun _=>QN _ _
theorem KR{M:Model}{A:Around}{E:Value->Shared->Prop}{s:Shared}{B:Heap}{env:Env}{outer:List Env}{L a:Addr}{cls:Value}{Q:Unit->Shared->Prop}(hfr:A.frames=some (env::outer))(hf:env.frame=some L)(x:Air B (env::outer) a cls s.heap)
  (hQ:∀h',Air B outer a cls h'->s.heap.UpToSlots h'->DS s.heap h'->Q () {s with heap:=h'}):wpAny M A (leaving env (.ref a)) Q E s:=by
 refine wpAny_mono (Zr (WZ env (.ref a)) (wS (E:=E) (Q:=fun u s'=>Air B outer a cls s'.heap/\s.heap.UpToSlots s'.heap/\s'={s with heap:=s'.heap}) hfr hf x fun h' a' u=>⟨a',u,rfl⟩)) (fun u s' z=>?_) fun _ _ z=>z.1
 obtain⟨⟨z1,z2,z3⟩,z4⟩:=z;rw[z3];exact hQ _ z1 z2 z4
theorem WQ{M:Model}{A:Around}{E:Value->Shared->Prop}{s:Shared}{B:Heap}{env:Env}{outer:List Env}{L a:Addr}{cls:Value}{Q:Unit->Shared->Prop}(hfr:A.frames=some (env::outer))(hf:env.frame=some L)(x:Air B (env::outer) a cls s.heap)
  (hQ:∀h' a0,Heap.FlyingW B (env::outer) a cls a0 h'->s.heap.UpToSlots h'->DS s.heap h'->Q () {s with heap:=h'}) :
  wpAny M A (noteFrame (.ref a) env) (fun _ s₂=>wpAny M A (setFlight (.ref a) none) Q E s₂) E s:=by
 have h1:=Zr (K8 (.ref a) env) (Xu (M:=M) (E:=E) (Q:=fun u s'=>(∃a0,Heap.FlyingW B (env::outer) a cls a0 s'.heap)/\s.heap.UpToSlots s'.heap/\s'={s with heap:=s'.heap}) hfr hf x fun h' a0 f u=>⟨⟨a0,f⟩,u,rfl⟩);refine wpAny_mono h1 (fun u s' z=>?_) fun _ _ z=>z.1
 refine wpAny_mono (Zr (QN _ _) z.1) (fun u' s2 y=>?_) fun _ _ y=>y.1
 obtain⟨⟨⟨a0,y1⟩,y2,y3⟩,y4⟩:=y;rw[y3];exact hQ _ a0 y1 y2 (z.2.trans y4)
noncomputable def CX1(P:Program)(w:World):CXT:=fun outer H s E e s'=>∃a cls H' B dd,e = .ref a/\s.heap.get? a=none/\s'.os=s.os/\AllBare s'.gens/\
 Un (frs outer) [] H H' s.heap s'.heap/\HOk P w H' s'.heap/\H' a=none/\Air B outer a cls s'.heap/\
 (∀b o,s'.heap.get? b=some o->(H' b≠none\/∃o0,s.heap.get? b=some o0)->b∉frs outer->B.get? b=some o)/\(∃oe,s'.heap.get? a=some oe/\oe.dict=dd)/\E cls dd H'
def XP(X:Cx)(pins:List (Addr×Obj))(σ:St)(E:XK)(e:Value)(s':Shared):Prop:=
 ∃a cls H' B dd,e = .ref a/\X.s₀.heap.get? a=none/\Inv X pins σ H' s'/\H' a=none/\Air B X.stack a cls s'.heap/\
  (∀b o,s'.heap.get? b=some o->(H' b≠none\/(∃o0,X.s₀.heap.get? b=some o0)\/∃p∈X.pn++pins,p.1=b)->b∉frs X.stack->B.get? b=some o)/\(∃oe,s'.heap.get? a=some oe/\oe.dict=dd)/\E cls dd H'
structure Flat(X:Cx):Prop where
 ex:X.ex=[]
 stk:X.stack=X.env::X.outer
 fr:X.env.frame=some X.env.locals
 calm:X.calm=true
section
variable{X:Cx}{pins:List (Addr×Obj)}{σ:St}{H:Hp}{s s':Shared}{E:XK}{e:Value}
theorem Flat.fs(F:Flat X):frs X.stack=X.env.locals::X.fs:=by
 rw[F.stk];unfold frs;rw[filterMap_cons,F.fr];rfl
theorem XP.of_call(F:Flat X)(I:Inv X pins σ H s)(h:CX1 X.prog X.w X.stack H s E e s'):XP X pins σ E e s':=by
 obtain⟨a,cls,H',B,dd,rfl,na,os,bare,un,hok,n,air,cov,hD,hE⟩:=h;have I':Inv X pins σ H' s':=I.call' (ch:=[]) os un hok bare (fun b z=>absurd z (by simp));have old:∀b o,X.s₀.heap.get? b=some o->∃o',s.heap.get? b=some o':=fun b o e=>I.base.there b o e (by rw[F.ex];simp)
 refine⟨a,cls,H',B,dd,rfl,?_,I',n,air,fun b o e q hb=>cov b o e ?_ hb,hD,hE⟩
 ·cases q:X.s₀.heap.get? a with
  | none=>rfl
  | some o=>obtain⟨o',e'⟩:=old a o q;rw[na]at e';cases e'
 ·rcases q with q | ⟨o0,q⟩ | ⟨p,hp,rfl⟩
  ·exact .inl q
  ·exact .inr (old b o0 q)
  ·exact .inr ⟨_,(I.pin p hp).1⟩
theorem XP.stays(F:Flat X){H':Hp}{B h':Heap}(I:Inv X pins σ H' s')
  (cov:∀b o,s'.heap.get? b=some o->(H' b≠none\/(∃o0,X.s₀.heap.get? b=some o0)\/∃p∈X.pn++pins,p.1=b)->b∉frs X.stack->B.get? b=some o)
  (st:B.StaysIn h') (up:s'.heap.UpToSlots h') :
  (∀b o,s'.heap.get? b=some o->(H' b≠none\/(∃o0,X.s₀.heap.get? b=some o0)\/∃p∈X.pn++pins,p.1=b)->b∉frs X.stack->h'.get? b=some o)/\
  (∀b o,s'.heap.get? b=some o->b∈frs X.stack->∃sl,h'.get? b=some {o with slots:=sl})/\HOk X.prog X.w H' h':=by
 have k1:∀b o,s'.heap.get? b=some o->(H' b≠none\/(∃o0,X.s₀.heap.get? b=some o0)\/∃p∈X.pn++pins,p.1=b)->b∉frs X.stack->h'.get? b=some o:=fun b o e q hb=>st b o (cov b o e q hb)
 refine⟨k1,fun b o e hb=>?_,fun b u e=>?_⟩
 ·obtain⟨_,o',e',hd⟩:=I.stack.mem hb;rw[e]at e';cases e';exact up b o e hd
 ·have nf:∀c v,H' c=some v->c∉frs X.stack:=fun c v q z=>by rw[I.stkFree c z]at q;cases q
  refine(I.hok b u e).stay (fun c v hc q=>?_) (fun _ q=>q) fun _ _ q=>q
  rcases hc with rfl | hc
  ·exact k1 c v q (.inl (by rw[e];simp)) (nf c u e)
  ·exact k1 c v q (.inl (by rw[hc];simp)) (nf c _ hc)
end
theorem XP.leaves{P:Program}{w:World}{K:Frg}{mg:Str->Option Value}{base:Heap}{N:List Str}{qual:Str}{scope:Scope}{f:Addr}{cd:Value}{A:Around}{outer:List Env}{s s':Shared}{H:Hp}{E:XK}{σ:St}{e:Value}
  (h:XP (cxOf (CX1 P w) P w K mg base N qual scope f cd A outer s H E) [] σ E e s'):(cxOf (CX1 P w) P w K mg base N qual scope f cd A outer s H E).xe e s':=by
 obtain⟨a,cls,H',B,dd,rfl,na,I,n,air,cov,⟨oe,hoe,hoed⟩,hE⟩:=h;refine KR (L:=s.heap.objs.size) I.ok.frames rfl air fun h' air' up ds=>?_
 obtain⟨oe',hoe',_,hd'⟩:=ds a oe hoe;obtain⟨k1,k2,hok⟩:=XP.stays (X:=cxOf (CX1 P w) P w K mg base N qual scope f cd A outer s H E) ⟨rfl,rfl,rfl,rfl⟩ I cov air'.1 up;have fsE:frs (cxOf (CX1 P w) P w K mg base N qual scope f cd A outer s H E).stack=s.heap.objs.size::frs outer:=rfl;have nL:∀b o,s.heap.get? b=some o->b≠s.heap.objs.size:=fun b o e=>Nat.ne_of_lt (Heap.lt_size e)
 have nfs:∀b o,s.heap.get? b=some o->b∉frs outer->b∉frs (cxOf (CX1 P w) P w K mg base N qual scope f cd A outer s H E).stack:=fun b o e hb z=>by
  rw[fsE]at z;rcases mem_cons.mp z with z | z
  ·exact nL b o e z
  ·exact hb z
 have nx:∀b:Addr,b∉(cxOf (CX1 P w) P w K mg base N qual scope f cd A outer s H E).ex:=fun b z=>absurd (show b∈([]:List Addr)from z) (by simp)
 have inS:∀b,b∈frs outer->b∈frs (cxOf (CX1 P w) P w K mg base N qual scope f cd A outer s H E).stack:=fun b z=>by rw[fsE];exact mem_cons_of_mem _ z
 refine⟨a,cls,H',B,dd,rfl,na,I.os,I.bare,⟨fun b o e m hb _=>?_,fun b o e m hb _=>?_,fun b o e m _=>I.base.free b o e m (nx b),fun b o e _=>?_,I.base.tups,I.base.frzs,I.base.tbls⟩,hok,n,air',fun b o e q hb=>?_,⟨oe',hoe',hd'.trans hoed⟩,hE⟩
 ·exact k1 b o (I.base.keep b o e m hb (nx b)) (.inr (.inl ⟨o,e⟩)) (nfs b o e hb)
 ·obtain⟨sl,e1⟩:=I.base.slot b o e m hb (nx b);obtain⟨sl',e2⟩:=k2 b _ e1 (inS b hb);exact⟨sl',e2⟩
 ·obtain⟨o',e1⟩:=I.base.there b o e (nx b);by_cases hb:b∈frs outer
  ·obtain⟨sl',e2⟩:=k2 b _ e1 (inS b hb);exact⟨_,e2⟩
  ·exact⟨o',k1 b o' e1 (.inr (.inl ⟨o,e⟩)) (nfs b o e hb)⟩
 ·have had:∃o',s'.heap.get? b=some o'/\b∉frs (cxOf (CX1 P w) P w K mg base N qual scope f cd A outer s H E).stack:=by
   rcases q with q | ⟨o0,q⟩
   ·cases q':H' b with
    | none=>exact absurd q' q
    | some u=>
     obtain⟨ob,z⟩:=(I.hok b u q').has;exact⟨ob,z,fun zz=>by rw[I.stkFree b zz]at q';cases q'⟩
   ·obtain⟨o',e1⟩:=I.base.there b o0 q (nx b);exact⟨o',e1,nfs b o0 q hb⟩
  obtain⟨o',e1,nf⟩:=had;have q2:H' b≠none\/(∃o0,s.heap.get? b=some o0)\/∃p∈(cxOf (CX1 P w) P w K mg base N qual scope f cd A outer s H E).pn++[],p.1=b:=by
   rcases q with q | q
   ·exact .inl q
   ·exact .inr (.inl q)
  have e2:=cov b o' e1 q2 nf;have e3:h'.get? b=some o:=e;rw[air'.1 b o' e2]at e3;cases e3;exact e2
noncomputable abbrev XS:=St->XK
noncomputable abbrev TRE:=St->Hp->XK->Prop
noncomputable abbrev TRS:=St->Hp->XS->Prop
def XPS(X:Cx)(pins:List (Addr×Obj))(E:XS)(e:Value)(s':Shared):Prop:=∃σ',XP X pins σ' (E σ') e s'
def RE(X:Cx)(e:Expr)(t:TRE):Prop:=
 ∀(pins:List (Addr×Obj)) (s:Shared) (σ:St) (H:Hp) (E:XK),Inv X pins σ H s->t σ H E->wpAny (model X.prog X.w) X.A (eval e X.env) (fun _ _=>False) (XP X pins σ E) s
def RS(X:Cx)(st:Stmt)(t:TRS):Prop:=
 ∀(pins:List (Addr×Obj)) (s:Shared) (σ:St) (H:Hp) (E:XS),Inv X pins σ H s->t σ H E->wpAny (model X.prog X.w) X.A (exec st X.env) (fun _ _=>False) (XPS X pins E) s
def RSs(X:Cx)(st:List Stmt)(t:TRS):Prop:=
 ∀(pins:List (Addr×Obj)) (s:Shared) (σ:St) (H:Hp) (E:XS),Inv X pins σ H s->t σ H E->wpAny (model X.prog X.w) X.A (execs st X.env) (fun _ _=>False) (XPS X pins E) s
noncomputable def rE(t:TRE):TRS:=fun σ H E=>t σ H (E σ)
noncomputable def rSeq(t1:TS)(t2:TRS):TRS:=fun σ H E=>t1 {nx:=fun σ' H'=>t2 σ' H' E,rt:=fun _ _=>False} σ H
noncomputable def rIf(tc:TT)(ta tb:TRS):TRS:=fun σ H E=>tc σ H fun b H1=>if b=true then ta σ H1 E else tb σ H1 E
noncomputable def rNever:TRS:=fun _ _ _=>False
section
variable{X:Cx}{e a b c:Expr}{t:TRE}{ta tb:TRS}{x:Str}{pos pos':Pos}{st:Stmt}{rest l r:List Stmt}
theorem j2A(he:RE X e t)(hs:swapsWith e (some (.Name x pos')) pos.line X.env=pure false:=by rfl):RS X (.Assign [.Name x pos'] e pos) (rE t):=fun pins s σ H E I h=>
 wpAny_Assign_Name (wpAny_mono (he pins s σ H _ I h) (fun _ _ z=>z.elim) fun e s' q=>⟨σ,q⟩) hs
theorem j1I(he:RE X e t)(hs:swapsWith e none pos.line X.env=pure false:=by rfl):RS X (.Expr e pos) (rE t):=fun pins s σ H E I h=>
 wpAny_Expr_any (wpAny_mono (he pins s σ H _ I h) (fun _ _ z=>z.elim) fun e s' q=>⟨σ,q⟩) I.quiet hs
theorem yg:RSs X l rNever:=fun _ _ _ _ _ _ h=>h.elim
theorem Qs(h1:RS X st ta):RSs X (st::rest) ta:=fun pins s σ H E I h=>
 wpAny_execs_cons (wpAny_mono (h1 pins s σ H E I h) (fun _ _ z=>z.elim) fun _ _ q=>q)
theorem ZX{t1:TS}(h1:PS X.nox st t1)(h2:RSs X rest tb):RSs X (st::rest) (rSeq t1 tb):=fun pins s σ H E I h=>by
 refine wpAny_execs_cons (wpAny_mono (h1 pins s σ H _ (I.wish _) h) (fun f s1 q=>?_) fun _ _ z=>False.elim z);cases f with
 | next=>
  obtain⟨σ',H',I',q⟩:=q;exact h2 pins s1 σ' H' E I'.unwish q
 | ret v=>obtain⟨_,_,_,_,_,q⟩:=q;exact q.elim
 | brk=>obtain⟨_,_,_,q⟩:=q;exact q.elim
 | cont=>obtain⟨_,_,_,q⟩:=q;exact q.elim
theorem Xr{tc:TT}(hc:PT X.nox c tc)(ha:RSs X l ta)(hb:RSs X r tb):RS X (.If c l r pos) (rIf tc ta tb):=fun pins s σ H E I h=>by
 refine wpAny_If (wpAny_mono (hc pins s σ H _ (I.wish _) h) (fun d s1 ⟨H1,I1,q1⟩=>?_) fun _ _ z=>False.elim z);cases d with
 | true=>exact ha pins s1 σ H1 E I1.unwish q1
 | false=>exact hb pins s1 σ H1 E I1.unwish q1
end
section
variable{X:Cx}{k:Nat}{f C:Addr}{fd:FuncData}{ps:List Str}{sp:Sp}{dvs:List V}{ds:List Value}{E:XK}{x m:Str}{p pos apos:Pos}{e o:Expr}{es:List Expr}{ta:TE}{t:TA}
theorem j1J{pins:List (Addr×Obj)}{σ:St}{H:Hp}{s:Shared}{us:List Value}{vs:List V}(F:FnOk X.prog X.w X.K X.mg X.base (CX1 X.prog X.w) k f fd ps sp)(hr:Room k X.A)(hb:Binds X.K fd ps ds)(hd:Vals dvs ds)(fl:Flat X)
  (I:Inv X pins σ H s) (r:Vals vs us) (h:sp (vs++dvs) H (fun _ _=>False) E):wpAny (model X.prog X.w) X.A (call (.ref f) us) (fun _ _=>False) (XP X pins σ E) s:=by
 have r2:Vals (vs++dvs) (us++ds):=r.append hd;have hl:(us++ds).length=ps.length:=by rw[<-r2.length];exact F.len _ _ _ _ h
 refine wpAny_call (codeAny_mono (F.run X.A X.stack s H ⟨us,[]⟩ (us++ds) (vs++dvs) _ E hr I.env0 (hb s us I.kIn hl) r2 h) fun r s' hq=>?_);cases r with
 | error e=>exact XP.of_call fl I hq
 | ok fl=>
  cases fl with
  | ret u=>obtain⟨_,_,_,_,_,_,_,q⟩:=hq;exact q.elim
  | next=>exact False.elim hq
  | brk=>exact False.elim hq
  | cont=>exact False.elim hq
noncomputable def rCall(sp:Sp)(dvs:List V)(t:TA):TRE:=fun σ H E=>t σ H fun vs H1=>sp (vs++dvs) H1 (fun _ _=>False) E
theorem Xp(F:FnOk X.prog X.w X.K X.mg X.base (CX1 X.prog X.w) k f fd ps sp)(hr:Room k X.A)(hg:Gl X x)(hm:X.mg x=some (.ref f))(hk:PySem.W.keepIn X.K (.ref f)=true)(hb:Binds X.K fd ps ds)(hd:Vals dvs ds)(fl:Flat X)
  (ha:PA X.nox (e::es) t) (hdb:(x==("__debug__" : Str))=false:=by decide) (he:starEach (e::es) X.env=(false,eval e X.env)::starEach es X.env:=by rfl) (hpl:(backTo pos (starEach es X.env)).any (·.1)=false:=by rfl) :
  RE X (.Call (.Name x p) (e::es) [] pos) (rCall sp dvs t):=by
 intro pins s σ H E I h;refine wpAny_Call_Name_kw (yc I hg hm ?_ hdb);refine PySem.W.callWith_K (h₀:=X.base) I.ok.mod.kin hk (wpAny_mono (ha pos pins s σ H _ (I.wish _) h) (fun us s1 ⟨vs,H1,I1,r,q⟩=>⟨I1.unwish.kIn,?_⟩) fun _ _ z=>False.elim z) he hpl;exact j1J F hr hb hd fl I1.unwish r q
end
section
variable{P:Program}{w:World}{K:Frg}{mg:Str->Option Value}{base:Heap}
theorem j29{k:Nat}{f:Addr}{name qual:Str}{params:Arguments}{body:List Stmt}{scope:Scope}{dV kV doc pm cdv ct oc:Value}{an od:Option Addr}
  {osl:Array (Option Value)} {N ps:List Str} {sp:Sp} (lk:K.lookup f=some ⟨oc,od,.func (PySem.W.fnOf name qual params body scope dV kV doc pm an cdv ct),osl⟩) (hcd:PySem.W.codeIn K cdv qual=true) (S:FnScope N ps scope)
  (len:∀vs H Q E,sp vs H Q E->vs.length=ps.length)
  (hbody:∀(A:Around) (outer:List Env) (s:Shared) (H:Hp) (vs:List V) (Q:VK) (E:XK),Room k (A.deeper (envOfC qual scope s.heap.objs.size f cdv))->sp vs H Q E->
   ∃t,RSs (cxOf (CX1 P w) P w K mg base N qual scope f cdv A outer s H E) body t/\t (start N vs) H (fun _=>E)) :
  FnOk P w K mg base (CX1 P w) (k+1) f (PySem.W.fnOf name qual params body scope dV kV doc pm an cdv ct) ps sp:=by
 refine⟨len,fun A outer s H args us vs Q E hr e0 hb r hsp=>?_⟩;have hl:=len _ _ _ _ hsp;have KX:K.In s.heap:=e0.mod.kin.keeps fun b o e=>(e0.bs b o e).1
 have lim:s.heap.NoLimit:=e0.mod.nolimit.keeps fun b o e=>(e0.bs b o e).1
 have hkind:∀y∈ps.zip us,scope.names.lookup y.1=some .local\/(scope.names.lookup y.1=some .cell/\((cellsFrom (s.heap.objs.size+1) scope.names []).lookup y.1).isSome=true):=fun⟨n,v⟩ hy=>by
  rcases S.par n (of_mem_zip hy).1 with q | q
  ·exact .inl q
  ·exact .inr ⟨q,PySem.W.cellsFrom_some _ _ _ (.inl q)⟩
 refine codeAny_call_function hr.depth (KX _ _ lk) rfl S.co S.gen rfl (PySem.W.codeRec_of KX hcd) (hb _ _ _ _ ?_);refine wpAny_newFunctionEnv_cells S.kind hkind fun env he s1 x=>?_
 subst he;refine⟨lim.keeps x.toInCall.keep,codeAny_func ?_⟩;obtain⟨t,ht,hq⟩:=hbody A outer s H vs Q E (hr.deeper _) hsp;have I:Inv (cxOf (CX1 P w) P w K mg base N qual scope f cdv A outer s H E) [] (start N vs) H s1:=Kz S hr.hd e0 hl r x;exact wpAny_mono (ht [] s1 (start N vs) H _ I hq) (fun _ _ z=>z.elim) fun e s' ⟨σ',q⟩=>XP.leaves q
theorem Fun.okR{x qual:Str}{st:Stmt}{f:Addr}{fd:FuncData}{N ps:List Str}{k:Nat}{sp:Sp}(F:Fun K x qual st f fd)(S:FnScope N ps (defScope st))(len:∀vs H Q E,sp vs H Q E->vs.length=ps.length)
  (hbody:∀(cdv:Value) (A:Around) (outer:List Env) (s:Shared) (H:Hp) (vs:List V) (Q:VK) (E:XK),Room k (A.deeper (envOfC qual (defScope st) s.heap.objs.size f cdv))->sp vs H Q E->
   ∃t,RSs (cxOf (CX1 P w) P w K mg base N qual (defScope st) f cdv A outer s H E) (defBody st) t/\t (start N vs) H (fun _=>E)):FnOk P w K mg base (CX1 P w) (k+1) f fd ps sp:=by
 obtain⟨oc,od,kV,doc,pm,an,cdv,ct,osl,rfl,lk,hcd⟩:=F.ex;exact j29 lk hcd S len fun A outer s H vs Q E hr hsp=>hbody cdv A outer s H vs Q E hr hsp
end
noncomputable def xcO(cls:Value)(a:Addr):Heap->Prop:=fun h=>∃o vs,h.get? a=some o/\o.cls=cls/\o.data = .fields vs
noncomputable def xcF(cls:Value)(a:Addr)(dd:Option Addr):Heap->Prop:=fun h=>∃o vs,h.get? a=some o/\o.cls=cls/\o.data = .fields vs/\o.dict=dd
noncomputable abbrev XcF(cls:Value)(a:Addr)(dd:Option Addr):HO:=.ext (xcF cls a dd)
theorem xcF.xc{cls:Value}{a:Addr}{dd:Option Addr}{h:Heap}(x:xcF cls a dd h):xcO cls a h:=let ⟨o,vs,e,c,f,_⟩:=x;⟨o,vs,e,c,f⟩
theorem wj{M:Model}{A:Around}{E:Value->Shared->Prop}{s:Shared}{base:Heap}{l:List Env}{e:Addr}{cls a0:Value}{Q:Unit->Shared->Prop}(hh:Heap.FlyingW base l e cls a0 s.heap)
  (hQ:∀h',Heap.FlyingW base l e cls a0 h'->s.heap.UpToSlots h'->DS s.heap h'->Q () {s with heap:=h'}):wpAny M A (setFlight (.ref e) none) Q E s:=by
 refine wpAny_mono (Zr (QN _ _) (lands_againW (M:=M) (A:=A) (E:=E) (Q:=fun _ s'=>Heap.FlyingW base l e cls a0 s'.heap/\s.heap.UpToSlots s'.heap/\s'={s with heap:=s'.heap}) hh fun h' f u=>⟨f,u,rfl⟩)) (fun u s' z=>?_) fun _ _ z=>z.1
 obtain⟨⟨z1,z2,z3⟩,z4⟩:=z;rw[z3];exact hQ _ z1 z2 z4
section
variable{X:Cx}{pins:List (Addr×Obj)}{σ:St}{H:Hp}{s:Shared}
theorem Inv.landed{H':Hp}{B h':Heap}(F:Flat X)(I:Inv X pins σ H' s)
  (cov:∀b o,s.heap.get? b=some o->(H' b≠none\/(∃o0,X.s₀.heap.get? b=some o0)\/∃p∈X.pn++pins,p.1=b)->b∉frs X.stack->B.get? b=some o)
  (st:B.StaysIn h') (up:s.heap.UpToSlots h'):Inv X pins σ H' {s with heap:=h'}:=by
 obtain⟨k1,k2,hok⟩:=XP.stays F I cov st up;have nfs:∀b o,X.s₀.heap.get? b=some o->b∉X.fs->b∉frs X.stack:=fun b o e hb z=>by
  rw[F.fs]at z;rcases mem_cons.mp z with z | z
  ·exact absurd (Nat.lt_of_lt_of_le (Heap.lt_size e) I.ok.above) (by rw[z];exact Nat.lt_irrefl _)
  ·exact hb z
 have inS:∀b,b∈X.fs->b∈frs X.stack:=fun b z=>by rw[F.fs];exact mem_cons_of_mem _ z
 have cellK:∀c v,s.heap.IsCell c v->h'.IsCell c v:=fun c v ⟨o,ho,hd⟩=>by
  obtain⟨sl,e⟩:=up c o ho fun vs q=>by rw[hd]at q;cases q
  exact⟨_,e,hd⟩
 refine⟨I.ok,I.os,I.bare,⟨fun b o e n hb hx=>?_,fun b o e n hb hx=>?_,I.base.free,fun b o e hx=>?_,I.base.tups,I.base.frzs,I.base.tbls⟩,?_,fun x c e=>?_,I.free,I.freeC,fun p hp=>?_,hok,I.len⟩
 ·exact k1 b o (I.base.keep b o e n hb hx) (.inr (.inl ⟨o,e⟩)) (nfs b o e hb)
 ·obtain⟨sl,e1⟩:=I.base.slot b o e n hb hx;obtain⟨sl',e2⟩:=k2 b _ e1 (inS b hb);exact⟨sl',e2⟩
 ·obtain⟨o',e1⟩:=I.base.there b o e hx;by_cases hb:b∈X.fs
  ·obtain⟨sl',e2⟩:=k2 b _ e1 (inS b hb);exact⟨_,e2⟩
  ·exact⟨o',k1 b o' e1 (.inr (.inl ⟨o,e⟩)) (nfs b o e hb)⟩
 ·obtain⟨m,hn,hl⟩:=I.loc;refine⟨m,up.ns hn,fun i x v e1 e2 e3=>?_⟩;obtain⟨u,r,l⟩:=hl i x v e1 e2 e3;refine⟨u,r,?_⟩;rcases l with l | ⟨k,c,e,z⟩
  ·exact .inl l
  ·exact .inr ⟨k,c,e,cellK c _ z⟩
 ·obtain⟨v,z⟩:=I.cell x c e;exact⟨v,cellK c v z⟩
 ·obtain⟨e,n,ne,nf,d⟩:=I.pin p hp;refine⟨k1 p.1 p.2 e (.inr (.inr ⟨p,hp,rfl⟩)) ?_,n,ne,nf,d⟩;rw[F.fs];intro z;rcases mem_cons.mp z with z | z
  ·exact ne z
  ·exact nf z
theorem Inv.known{T:Addr}{o:HO}(I:Inv X pins σ H s)(h0:H T=none)(hs:X.s₀.heap.get? T=none)(hL:T≠X.env.locals)(hC:∀x c,X.env.cells.lookup x=some c->c≠T)(hp:∀p∈X.pn++pins,p.1≠T)
  (new:ObjOk X.prog X.w (upd H T o) s.heap T o):Inv X pins σ (upd H T o) s:=by
 have ne:∀b u,H b=some u->b≠T:=fun b u e z=>by rw[z,h0]at e;cases e
 have ns:∀b u,X.s₀.heap.get? b=some u->b≠T:=fun b u e z=>by rw[z,hs]at e;cases e
 refine⟨I.ok,I.os,I.bare,⟨I.base.keep,I.base.slot,fun b u e n hx=>(jh (ns b u e)).trans (I.base.free b u e n hx),I.base.there,fun b xs e=>?_,fun b u v e=>?_,fun b ps e=>?_⟩,I.loc,I.cell,(jh (Ne.symm hL)).trans I.free,fun x c e=>(jh (hC x c e)).trans (I.freeC x c e),fun p hq=>?_,fun b u e=>?_,I.len⟩
 ·have:=I.base.tups b xs e;exact(jh (ne _ _ this)).trans this
 ·have:=I.base.frzs b u v e;exact(jh (ne _ _ this)).trans this
 ·obtain⟨more,this⟩:=I.base.tbls b ps e;exact⟨more,(jh (ne _ _ this)).trans this⟩
 ·obtain⟨e,n,r⟩:=I.pin p hq;exact⟨e,(jh (hp p hq)).trans n,r⟩
 ·by_cases z:b=T
  ·subst z;rw[jg]at e;cases e;exact new
  ·rw[jh z]at e;exact(I.hok b u e).stay (fun c v _ q=>q) (fun c q=>(jh (ne _ _ q)).trans q) fun c ys q=>(jh (ne _ _ q)).trans q
noncomputable abbrev Cx.inExc(X:Cx)(A:Around):Cx:={X with A:=A,calm:=false,xe:=fun _ _=>False}
theorem Inv.inExc(I:Inv X pins σ H s){A:Around}(hA:A.frames=X.A.frames):Inv (X.inExc A) pins σ H s:=
 ⟨⟨I.ok.mod,I.ok.kind,I.ok.glob,I.ok.blt,I.ok.above,I.ok.inj,I.ok.has,I.ok.cab,(fun z=>nomatch z),hA.trans I.ok.frames,I.ok.stk,I.ok.exf,I.ok.bs,I.ok.bsz,I.ok.noex,I.ok.exfs,I.ok.funs,I.ok.frf⟩,I.os,I.bare,I.base,I.loc,I.cell,I.free,I.freeC,I.pin,I.hok,I.len⟩
theorem Inv.outExc{A:Around}(I:Inv (X.inExc A) pins σ H s)(ok:X.Ok):Inv X pins σ H s:=⟨ok,I.os,I.bare,I.base,I.loc,I.cell,I.free,I.freeC,I.pin,I.hok,I.len⟩
theorem X2{M:Model}{A:Around}{E:Value->Shared->Prop}{i:Nat}{n:Str}{pos:Pos}{Q:Unit->Shared->Prop}(I:Inv X pins σ H s)(hN:X.N.Nodup)(hi:X.N[i]?=some n)(hl:X.env.scope.names.lookup n=some .local)
  (h:∀s',Inv X pins (σ.set i none) H s'->Q () s'):wpAny M A (do bindName X.env n .none;unbindBehindTheSuite X.env n pos) Q E s:=by
 obtain⟨m,hn,hlk⟩:=id I.loc;refine wpAny_nameGoes_keeps hl hn (by rw[I.ok.kind];rfl) fun h' v hn' hs=>h _ ?_
 obtain⟨oL,_,_,hoL,_⟩:=id hn;have hiσ:i<σ.length:=by rw[I.len];exact(List.getElem?_eq_some_iff.mp hi).1
 have tracked:HOk X.prog X.w H h':=fun b ob e=>by
  refine(I.hok b ob e).stay (fun c w' hc q=>(hs.2 c ?_).trans q) (fun _ q=>q) fun _ _ q=>q
  rintro rfl;rcases hc with hc | hc
  ·rw[<-hc,I.free]at e;cases e
  ·rw[I.free]at hc;cases hc
 refine⟨I.ok,I.os,I.bare,⟨fun b o e n hb hx=>?_,fun b o e n hb hx=>?_,I.base.free,fun b o e hx=>?_,I.base.tups,I.base.frzs,I.base.tbls⟩,⟨_,hn',fun j y v' e1 e2 e3=>?_⟩,fun y c e=>?_,I.free,I.freeC,fun p hp=>?_,tracked,by simpa using I.len⟩
 ·exact(hs.2 b (Nat.ne_of_lt (Nat.lt_of_lt_of_le (Heap.lt_size e) I.ok.above))).trans (I.base.keep b o e n hb hx)
 ·obtain⟨sl,e1⟩:=I.base.slot b o e n hb hx;exact⟨sl,(hs.2 b (Nat.ne_of_lt (Nat.lt_of_lt_of_le (Heap.lt_size e) I.ok.above))).trans e1⟩
 ·obtain⟨o',e1⟩:=I.base.there b o e hx;exact⟨o',(hs.2 b (Nat.ne_of_lt (Nat.lt_of_lt_of_le (Heap.lt_size e) I.ok.above))).trans e1⟩
 ·by_cases hj:j=i
  ·subst hj;rw[List.getElem?_set_self hiσ]at e2;cases e2
  ·rw[List.getElem?_set_ne (Ne.symm hj)]at e2;obtain⟨u',r',q⟩:=hlk j y v' e1 e2 e3;refine⟨u',r',?_⟩;rcases q with⟨k,e⟩ | ⟨k,c,e,z⟩
   ·refine .inl ⟨k,?_⟩;have:y≠n:=fun e=>hj (kB hN e1 (e▸hi))
    simp[this,e]
   ·exact .inr ⟨k,c,e,z.sameBut hs (I.cne y c e)⟩
 ·obtain⟨w',z⟩:=I.cell y c e;exact⟨w',z.sameBut hs (I.cne y c e)⟩
 ·obtain⟨e,n,ne,nf,d⟩:=I.pin p hp;exact⟨(hs.2 p.1 ne).trans e,n,ne,nf,d⟩
end
def tTry(K:Frg)(c:Value)(i:Nat)(tn:TS)(tr:TRS)(ts:TS):TS:=fun D σ H=>
 tn D σ H\/tr σ H fun σ' cls dd H'=>PySem.W.exmOne K cls c=some true/\∀a,H' a=none->
  ts {nx:=fun σ2 H2=>D.nx (σ2.set i none) H2,rt:=D.rt,bk:=fun σ2 H2=>D.bk (σ2.set i none) H2,ct:=fun σ2 H2=>D.ct (σ2.set i none) H2} (σ'.set i (some (.ref a))) (upd H' a (XcF cls a dd))
theorem j2y{X:Cx}{body suite:List Stmt}{b0:Stmt}{x n:Str}{C:Addr}{i:Nat}{np hp pos:Pos}{tn:TS}{tr:TRS}{ts:TS}(fl:Flat X)(hN:X.N.Nodup)(hi:X.N[i]?=some n)(hl:X.env.scope.names.lookup n=some .local)
  (hg:Gl X x) (hm:X.mg x=some (.ref C)) (hb:PSs X.nox body tn) (hr:RSs X body tr) (hs:∀A,PSs (X.inExc A) (b0::suite) ts) (hdb:(x==("__debug__" : Str))=false:=by decide) :
  PS X (.Try body [.ExceptHandler (some (.Name x np)) (some n) (b0::suite) hp] [] [] pos) (tTry X.K (.ref C) i tn tr ts):=by
 intro pins s σ H D I h;rcases h with h | h
 ·refine wpAny_Try_except (wpAny_mono (hb pins s σ H D (I.wish _) h) (fun f s1 q=>?_) fun _ _ z=>False.elim z);have q:=q.unwish;cases f with
  | next=>exact wpAny_execs_nil q
  | ret v=>exact q
  | brk=>exact q
  | cont=>exact q
 ·refine wpAny_Try_except (wpAny_mono (hr pins s σ H _ I h) (fun _ _ z=>z.elim) fun e s1 xp=>?_);obtain⟨σ',a,cls,H',B,dd,rfl,na,I1,nT,air,cov,⟨oe0,hoe0,hod0⟩,hcls,hsu⟩:=xp;have air1:=air;rw[fl.stk]at air1;have frs1:X.A.frames=some (X.env::X.outer):=by rw[<-fl.stk];exact I.ok.frames
  refine WQ frs1 fl.fr air1 fun h5 a0 fl5 up5 ds5=>?_
  have I5:Inv X pins σ' H' {s1 with heap:=h5}:=I1.landed fl cov fl5.1 up5;have I5m:Inv (X.inExc (X.A.mark (some (.ref a)))) pins σ' H' {s1 with heap:=h5}:=I5.inExc rfl;have LT:PySem.W.Looks (model X.prog X.w) h5 (typeOf (.ref a)) cls:=by
   obtain⟨ob,hob,hc⟩:=fl5.there;subst hc;exact(PySem.W.Looks.ld hob).andThen .now
  refine wpAny_handleBy_cons (codeAny_handlers_test (yc (X:=X.inExc (X.A.mark (some (.ref a)))) I5m hg hm ?_ hdb)) (by intro q;cases q);refine(PySem.W.exm_one I5.kIn LT hcls).here (codeAny_handlers_suite_as ?_);refine wj fl5 fun h6 fl6 up6 ds6=>?_
  have I6:Inv X pins σ' H' {s1 with heap:=h6}:=I1.landed fl cov fl6.1 (up5.trans up6);obtain⟨oe,ws,hoe,hoec,hoed,_⟩:=fl6.first
  have hoD:oe.dict=dd:=by
   obtain⟨o1,e1,_,d1⟩:=(ds5.trans ds6) a oe0 hoe0;rw[hoe]at e1;cases e1;exact d1.trans hod0
  have I7:Inv X pins σ' (upd H' a (XcF cls a dd)) {s1 with heap:=h6}:=by
   refine I6.known nT na (fun z=>?_) (fun y c e z=>?_) (fun p hp z=>?_) ⟨⟨oe,ws,hoe,hoec,hoed,hoD⟩,⟨oe,hoe⟩,fun h1 h2 ⟨o,vs,e1,e2,e3,e4⟩ k=>⟨o,vs,k o e1,e2,e3,e4⟩⟩
   ·obtain⟨m,⟨o,es,ep,ho,hd,_⟩,_⟩:=I6.loc;have ho':h6.get? a=some o:=by rw[z];exact ho
    rw[hoe]at ho';cases ho';rw[hoed]at hd;cases hd
   ·obtain⟨v,o,ho,hd⟩:=I6.cell y c e;have ho':h6.get? a=some o:=by rw[<-z];exact ho
    rw[hoe]at ho';cases ho';rw[hoed]at hd;cases hd
   ·obtain⟨e,nn,ne,nf,_⟩:=I1.pin p hp;have nf':p.1∉frs X.stack:=by
     rw[fl.fs];intro zz;rcases mem_cons.mp zz with zz | zz
     ·exact ne zz
     ·exact nf zz
    have:=cov p.1 p.2 e (.inr (.inr ⟨p,hp,rfl⟩)) nf';rw[z,air.2.1]at this;cases this
  refine kO (X:=X) I7 hN hi (.inl hl) (v:=.ref a) rfl (fun s8 I8=>?_) (.inr hl);refine wpAny_mono (hs (X.A.mark (some (.ref a))) pins s8 _ _ _ (I8.inExc rfl) (hsu a nT)) (fun f s9 q=>?_) fun _ _ z=>False.elim z
  have fin:∀{σ9:St} {H9:Hp},Inv (X.inExc (X.A.mark (some (.ref a)))) pins σ9 H9 s9->(∀s',Inv X pins (σ9.set i none) H9 s'->SP X pins D f s')->
    wpAny (model X.prog X.w) X.A (do bindName X.env n .none;unbindBehindTheSuite X.env n hp) (fun _ s₃=>SP X pins D f s₃) X.xe s9:=fun {σ9 H9} I9 k=>X2 (I9.outExc I.ok) hN hi hl k
  cases f with
  | next=>obtain⟨σ9,H9,I9,q⟩:=q;exact fin I9 fun s' I'=>⟨_,_,I',q⟩
  | brk=>obtain⟨σ9,H9,I9,q⟩:=q;exact fin I9 fun s' I'=>⟨_,_,I',q⟩
  | cont=>obtain⟨σ9,H9,I9,q⟩:=q;exact fin I9 fun s' I'=>⟨_,_,I',q⟩
  | ret u=>obtain⟨v,σ9,H9,I9,r,q⟩:=q;exact fin I9 fun s' I'=>⟨v,_,_,I',r,q⟩
def tTryJ(K:Frg)(c:Value)(i:Nat)(tn:TS)(tr:TRS)(ts:TS):TS:=fun D σ H=>∃Mid:St->Hp->Prop,tTry K c i tn tr ts {nx:=Mid,rt:=D.rt} σ H/\∀σ' H',Mid σ' H'->D.nx σ' H'
theorem j1E{X:Cx}{body suite:List Stmt}{b0:Stmt}{x n:Str}{C:Addr}{i:Nat}{np hp pos:Pos}{tn:TS}{tr:TRS}{ts:TS}(fl:Flat X)(hN:X.N.Nodup)(hi:X.N[i]?=some n)(hl:X.env.scope.names.lookup n=some .local)
  (hg:Gl X x) (hm:X.mg x=some (.ref C)) (hb:PSs X.nox body tn) (hr:RSs X body tr) (hs:∀A,PSs (X.inExc A) (b0::suite) ts) (hdb:(x==("__debug__" : Str))=false:=by decide) :
  PS X (.Try body [.ExceptHandler (some (.Name x np)) (some n) (b0::suite) hp] [] [] pos) (tTryJ X.K (.ref C) i tn tr ts):=by
 intro pins s σ H D I ⟨Mid,h,k⟩;refine thn (j2y fl hN hi hl hg hm hb hr hs hdb pins s σ H _ I h) fun f s1 q=>?_
 cases f with
 | next=>obtain⟨σ',H',I',q⟩:=q;exact⟨σ',H',I',k σ' H' q⟩
 | ret v=>exact q
 | brk=>obtain⟨_,_,_,q⟩:=q;exact q.elim
 | cont=>obtain⟨_,_,_,q⟩:=q;exact q.elim
open PySem PySem.Spec PyProof.Rows PySem.W
theorem j1b(a:Addr)(f:Option Addr):DK (do
   if(<-field (.ref a) 1) == .none then unsupported "frame.own-activation:exception-without-traceback"
   setFlight (.ref a) f):=by
 refine DK.bind (Zh _ _) fun v=>?_
 split
 ·exact DK.bind (.unsupported _) fun _=>QN _ _
 ·exact QN _ _
section
variable{X:Cx}{pins pl:List (Addr×Obj)}{σ:St}{E:XK}{e:Value}{s':Shared}
theorem XP.unpinned(h:XP X (pins++pl) σ E e s'):XP X pins σ E e s':=by
 obtain⟨a,cls,H',B,dd,rfl,na,I,nT,air,cov,hD,hE⟩:=h;refine⟨a,cls,H',B,dd,rfl,na,I.unpinned,nT,air,fun b o e q hb=>cov b o e ?_ hb,hD,hE⟩;rcases q with q | q | ⟨p,hp,q⟩
 ·exact .inl q
 ·exact .inr (.inl q)
 ·refine .inr (.inr ⟨p,?_,q⟩);rcases mem_append.mp hp with z | z
  ·exact mem_append_left _ z
  ·exact mem_append_right _ (mem_append_left _ z)
theorem XP.own(F:Flat X)(h:XP X pins σ E e s'):notedBy (model X.prog X.w) X.A X.env (cameBackBy (model X.prog X.w) X.A X.env (XP X pins σ E)) e s':=by
 obtain⟨a,cls,H',B,dd,rfl,na,I,nT,air,cov,⟨oe0,hoe0,hod0⟩,hE⟩:=h;have air1:=air;rw[F.stk]at air1;have frs1:X.A.frames=some (X.env::X.outer):=by rw[<-F.stk];exact I.ok.frames
 have step1:=Zr (K8 (.ref a) X.env) (Xv (M:=model X.prog X.w) (A:=X.A) (E:=fun _ _=>False) (Q:=fun _ s1=>(∃a0,Heap.HeldW B (X.env::X.outer) a cls a0 X.env.locals s1.heap)/\s'.heap.UpToSlots s1.heap/\s1={s' with heap:=s1.heap}) frs1 F.fr air1 fun h' a0 hh u=>⟨⟨a0,hh⟩,u,rfl⟩);refine wpAny_mono step1 (fun _ s1 ⟨⟨⟨a0,hh⟩,u1,es1⟩,ds1⟩=>?_) fun _ _ z=>z.1.elim
 have step2:=Zr (j1b a X.env.frame) (W6 (M:=model X.prog X.w) (A:=X.A) (E:=fun _ _=>False) (Q:=fun _ s2=>Heap.HeldW B (X.env::X.outer) a cls a0 X.env.locals s2.heap/\s1.heap.UpToSlots s2.heap/\s2={s1 with heap:=s2.heap}) hh F.fr fun h' hh' u=>⟨hh',u,rfl⟩);refine wpAny_mono step2 (fun _ s2 ⟨⟨hh2,u2,es2⟩,ds2⟩=>?_) fun _ _ z=>z.1.elim
 have up:=u1.trans u2;obtain⟨k1,_,_⟩:=XP.stays F I cov hh2.1 up;have I2:Inv X pins σ H' s2:=by
  have e3:s2={s' with heap:=s2.heap}:=es2.trans (by
   obtain⟨_,_,_,_,_⟩:=s1;injection es1 with _ q1 q2 q3 q4;subst q1 q2 q3 q4;rfl)
  rw[e3];exact I.landed F cov hh2.1 up
 obtain⟨oe2,he2,_,hd2⟩:=(ds1.trans ds2) a oe0 hoe0;refine⟨a,cls,H',B,dd,rfl,na,I2,nT,⟨hh2.1,hh2.2.1,by rw[F.stk];exact hh2.2.2.1,.inr (.inr ⟨X.env,X.outer,X.env.locals,a0,F.stk,F.fr,hh2.2.2.2⟩)⟩,fun b o e q hb=>?_,⟨oe2,he2,hd2.trans hod0⟩,hE⟩;have had:∃o',s'.heap.get? b=some o':=by
  rcases q with q | ⟨o0,q⟩ | ⟨p,hp,q⟩
  ·cases q':H' b with
   | none=>exact absurd q' q
   | some u=>exact(I.hok b u q').has
  ·exact I.base.there b o0 q (by rw[F.ex];simp)
  ·exact⟨p.2,by rw[<-q];exact(I.pin p hp).1⟩
 obtain⟨o',e'⟩:=had;have e2:=k1 b o' e' q hb;rw[e]at e2;cases e2;exact cov b o e' q hb
end
theorem XPS.own{X:Cx}{pins:List (Addr×Obj)}{E:XS}(F:Flat X):PassesOwn (model X.prog X.w) X.A X.env (XPS X pins E):=fun e s' ⟨σ',xp⟩=>by
 refine wpAny_mono (XP.own F xp) (fun _ s1 q=>?_) fun _ s1 q=>?_
 all_goals exact wpAny_mono q (fun _ _ z=>⟨σ',z⟩) fun _ _ z=>⟨σ',z⟩
noncomputable def rFor(wi:TI)(g:TG)(tb:TS)(tr:TRS):TRS:=fun σ H E=>wi σ H fun J H1=>∃W:Nat->Nat->St->Hp->Prop,(∃m,W 0 m σ H1)/\∀i m σ H,W i m σ H->
 J.go i H/\∃N:St->Hp->Prop,(∀σ' H',N σ' H'->∃m',m'<m/\W (i+1) m' σ' H')/\∀x H',J.yld i H x H'->g x σ H' fun σ2 H2=>tr σ2 H2 E\/tb {nx:=N,ct:=N,bk:=fun _ _=>False,rt:=fun _ _=>False} σ2 H2
theorem Xq{X:Cx}{tg iter:PySem.Expr}{body:List Stmt}{wi:TI}{g:TG}{tb:TS}{tr:TRS}{pos:Pos}(fl:Flat X)(hi:PI X.nox tg iter wi)(hg:PG X.nox tg g)(hb:PSs X.nox body tb)(hr:RSs X body tr)
  (hs:∀x,foldedSetIterable iter X.env x=pure x:=by intro _;rfl):RS X (.For tg iter body [] pos) (rFor wi g tb tr):=by
 intro pins s σ H E I h;have weak:∀{α:Type} {t:Sem α} {Q:α->Shared->Prop} {s0:Shared} {E':Value->Shared->Prop},wpAny (model X.prog X.w) X.A t Q (fun _ _=>False) s0->wpAny (model X.prog X.w) X.A t Q E' s0:=fun z=>wpAny_mono z (fun _ _ y=>y) fun _ _ y=>y.elim
 refine wpAny_For (wpAny_mono (hi pins s σ H _ (I.wish _) h) (fun v s1 h1=>wpAny_mono h1 (fun itv s2 h2=>?_) fun _ _ z=>False.elim z) fun _ _ z=>False.elim z) hs;obtain⟨it,fp,tn,J,H2,e,I2,T,st2,f2,W,⟨m0,w0⟩,turn⟩:=h2;subst e;have I2:=I2.unwish;have f2:∀b∈fp,FpOk X pins H2 b:=f2;have stat:∀{H':Hp},(∀b∈fp,H' b=none)->∀b∈fp,FpOk X pins H' b:=fun hn b hb=>⟨hn b hb,(f2 b hb).2⟩
 refine codeAny_forLoop_any (fun n s'=>∃i σ' H',Inv X pins σ' H' s'/\tn i s'.heap/\(∀b∈fp,H' b=none)/\W i n σ' H') ?_ m0 ⟨0,σ,H2,I2,st2,fun b hb=>(f2 b hb).1,w0⟩;rintro n s3 ⟨i,σ3,H3,I3,st3,fr3,w3⟩;obtain⟨go,N,hN,step⟩:=turn i n σ3 H3 w3;refine wpAny_mono (T.item X.nox rfl rfl rfl fl.calm i pins s3 σ3 H3 (fun _ _=>False) (I3.wish _) (stat fr3) st3 go) (fun r s4 ⟨u,hr4,h4⟩=>?_) fun _ _ z=>z.elim
 subst hr4;refine wpAny_mono h4 (fun _ s5 ⟨x,H5,I5,r5,y5,st5,fr5⟩=>?_) fun _ _ z=>z.elim
 have I5':=(I5.unwish).pinned (stat fr5) (T.obj _ _ st5);refine wpAny_mono (hg _ s5 σ3 H5 x u _ (I5'.wish _) r5 (step x H5 y5)) (fun _ s6 ⟨σ6,H6,I6,q6⟩=>?_) fun _ _ z=>False.elim z
 have I6:=I6.unwish;rcases q6 with q6 | q6
 ·refine wpAny_passesOwn (XPS.own fl) (wpAny_mono (hr _ s6 σ6 H6 E I6 q6) (fun _ _ z=>z.elim) fun e s7 ⟨σ7,xp⟩=>⟨σ7,xp.unpinned⟩)
 ·refine wpAny_mono (hb _ s6 σ6 H6 _ (I6.wish _) q6) (fun f s7 q7=>?_) fun _ _ z=>False.elim z
  have again:∀{σ7:St} {H7:Hp},Inv X (pins++pinsAt fp s5.heap) σ7 H7 s7->N σ7 H7->∃m,m<n/\∃i σ' H',Inv X pins σ' H' s7/\tn i s7.heap/\(∀b∈fp,H' b=none)/\W i m σ' H':=fun {σ7 H7} I7 n7=>by
   obtain⟨m',hm,w7⟩:=hN σ7 H7 n7;refine⟨m',hm,i+1,σ7,H7,I7.unpinned,T.keep _ _ _ st5 fun b hb o e=>(I7.pin (b,o) (mem_append_right _ (mem_append_right _ (QY hb e)))).1,fun b hb=>?_,w7⟩;obtain⟨o,e,d⟩:=T.obj _ _ st5 b hb;exact(I7.pin (b,o) (mem_append_right _ (mem_append_right _ (QY hb e)))).2.1
  cases f with
  | next=>obtain⟨σ7,H7,I7,n7⟩:=q7;exact again I7.unwish n7
  | cont=>obtain⟨σ7,H7,I7,n7⟩:=q7;exact again I7.unwish n7
  | brk=>obtain⟨_,_,_,q7⟩:=q7;exact q7.elim
  | ret v=>obtain⟨_,_,_,_,_,q7⟩:=q7;exact q7.elim
theorem KI{K:Frag}{a:Addr}{xs:List V}{g:TG}{tb:TS}{tr:TRS}{E:XS}{σ:St}{H:Hp}(k:Nat)(hk:k<xs.length)(Pv:Nat->St->Hp->Prop)(h0:Pv 0 σ H)(hl:∀i σ H,i<=k->Pv i σ H->SqL K H a xs)
  (hs:∀i v σ H T H',i<=k->xs[i]?=some v->Pv i σ H->Same H H'->H' T=some (.tup [.int i,v])->g (.ref T) σ H' fun σ2 H2=>tr σ2 H2 E\/tb {nx:=fun σ' H'=>i<k/\Pv (i+1) σ' H',ct:=fun σ' H'=>i<k/\Pv (i+1) σ' H',bk:=fun _ _=>False,rt:=fun _ _=>False} σ2 H2) :
  ∃W:Nat->Nat->St->Hp->Prop,(∃m,W 0 m σ H)/\∀i m σ H,W i m σ H->
   (Ite K a).go i H/\∃N:St->Hp->Prop,(∀σ' H',N σ' H'->∃m',m'<m/\W (i+1) m' σ' H')/\∀x H',(Ite K a).yld i H x H'->g x σ H' fun σ2 H2=>tr σ2 H2 E\/tb {nx:=N,ct:=N,bk:=fun _ _=>False,rt:=fun _ _=>False} σ2 H2:=by
 refine⟨fun i m σ H=>m=k-i/\i<=k/\Pv i σ H,⟨k,by simp,Nat.zero_le _,h0⟩,?_⟩;rintro i m σ H ⟨rfl,hi,p⟩;have q:=hl i σ H hi p;refine⟨⟨xs,xs[i],q,by rw[List.getElem?_eq_getElem (by omega)]⟩,fun σ' H'=>i<k/\Pv (i+1) σ' H',fun σ' H' ⟨h1,p'⟩=>⟨k-(i+1),by omega,rfl,h1,p'⟩,fun x H' y=>?_⟩;obtain⟨T,v,rfl,hT,e,y⟩:=y;exact hs i v σ H T H' hi (y xs q) p (fun b o h=>by rw[e,jh (jf h hT)];exact h) (by rw[e];exact jg)
noncomputable def rOr(a b:TRS):TRS:=fun σ H E=>a σ H E\/b σ H E
theorem j0M{X:Cx}{st:Stmt}{rest:List Stmt}{ta tb:TRS}{t1:TS}(h1:RS X st ta)(h2:PS X.nox st t1)(h3:RSs X rest tb):RSs X (st::rest) (rOr ta (rSeq t1 tb)):=fun pins s σ H E I h=>by
 rcases h with h | h
 ·exact Qs h1 pins s σ H E I h
 ·exact ZX h2 h3 pins s σ H E I h
theorem Xo{wi:TI}{g:TG}{tb:TS}{tr:TRS}{σ:St}{H:Hp}{E:XS} (h:wi σ H fun J H1=>∃W:Nat->Nat->St->Hp->Prop,(∃m,W 0 m σ H1)/\∀i m σ H,W i m σ H->
 J.go i H/\∃N:St->Hp->Prop,(∀σ' H',N σ' H'->∃m',m'<m/\W (i+1) m' σ' H')/\∀x H',J.yld i H x H'->g x σ H' fun σ2 H2=>tr σ2 H2 E\/tb {nx:=N,ct:=N,bk:=fun _ _=>False,rt:=fun _ _=>False} σ2 H2):rFor wi g tb tr σ H E:=h
theorem we{K:Frag}{t:Value}:∀{cs:List Value},(∀c∈cs,kitOne K t c=some false)->kitAny K t cs=some false
 | [],_=>rfl
 | c::r,h=>by
  unfold kitAny;rw[h c mem_cons_self];exact we fun d hd=>h d (mem_cons_of_mem _ hd)
structure ExcI(K:Frag)(C:Addr):Prop where
 ga:findIn K (.ref C) "__getattribute__"= some (some (.builtin "BaseException.__getattribute__"))
 nh:findIn K (.ref C) "__getattr__"= some none
 cls:findIn K (.ref C) "__class__"= some (some (.builtin "object.__class__"))
 base:subIn K (.ref C) (.type "BaseException")=some true
 obj:subIn K (.ref C) (.type "object")=some true
 is:isClsIn K C=true
section
variable{prog:Program}{w:World}{A:Around}{E:Value->Shared->Prop}{K:Frag}{C a:Addr}
theorem WJ{M:Model}{h:Heap}{cls:Value}(p:xcO cls a h):Looks M h (typeOf (.ref a)) cls:=by
 obtain⟨o,vs,h1,h2,_⟩:=p;exact h2▸(Looks.ld h1).andThen .now
theorem j2K{R:Result->Shared->Prop}{h:Heap}{g:Array GenState}{d:Drawn}{t:Nat}{os:OsState}(Z:ExcI K C)(X:K.In h)(p:xcO (.ref C) a h)(hq:R (.ok (.ret (.ref C))) ⟨h,g,d,t,os⟩) :
  codeAny (model prog w) A (.call (.builtin "getset_descriptor.__get__") ⟨[.builtin "object.__class__",.ref a,.ref C],[]⟩) R ⟨h,g,d,t,os⟩:=by
 have L0:Looks (model prog w) h (typeOf (.ref a)) (.ref C):=WJ p;have hT5:(⟨h,g,d,t,os⟩:Shared).TypeIs (.builtin "object.__class__") "getset_descriptor":=F.typeOf_object_class;have L5:Looks (model prog w) h (isSubtype (.ref C) (.type (".".intercalate ("object.__class__".cutAt '.').dropLast))) true:=by rw[F.owner_object_class];exact looks_subIn X Z.obj
 refine codeAny_call_builtin F.slot_gs_get.plain F.entry_gs_get (F.slot_gs_get.check _ _ _ _ _ _ _ _ hT5 (F.args_gs_get _ _ _) ?_)
 repeat (any_goals (first | assumption | with_reducible refine Looks.at L0 ?_ | with_reducible refine Looks.at L5 ?_ | wp_step))
 refine⟨Code.quiet_builtin _ (by decide +kernel),codeAny_builtin F.entry_object_class ?_⟩
 repeat (any_goals (first | assumption | with_reducible refine Looks.at L0 ?_ | wp_step))
theorem j15{tk:Tok}{Q:Fin->Shared->Prop}{h:Heap}{g:Array GenState}{d:Drawn}{t:Nat}{os:OsState}(Z:ExcI K C)(X:K.In h)(p:xcO (.ref C) a h)(hq:Q (.done (.ret (.ref C))) ⟨h,g,d,t,os⟩) :
  wpAny (model prog w) A (Builtin.«object.__getattribute__» ⟨[.ref a,.str "__class__" tk],[]⟩) Q E ⟨h,g,d,t,os⟩:=by
 have L0:Looks (model prog w) h (typeOf (.ref a)) (.ref C):=WJ p;have L3:=looks_findIn (M:=model prog w) X Z.cls;have hT5:(⟨h,g,d,t,os⟩:Shared).TypeIs (.builtin "object.__class__") "getset_descriptor":=F.typeOf_object_class;have f5:=F.typeOf_object_class;have f6:=F.slot_gs_get.lookup;have f7:=F.slot_gs_set.lookup
 repeat (any_goals (first | assumption | with_reducible refine Looks.at L0 ?_ | with_reducible refine Looks.at L3 ?_ | wp_step))
 refine j2K Z X p ?_
 repeat (any_goals (first | assumption | wp_step))
theorem j13{M:Model}{nameV:Value}{Q:Unit->Shared->Prop}{h:Heap}{g:Array GenState}{d:Drawn}{t:Nat}{os:OsState}(Z:ExcI K C)(X:K.In h)(p:xcO (.ref C) a h)(hq:Q () ⟨h,g,d,t,os⟩) :
  wpAny M A (checkBuiltinCall "BaseException.__getattribute__" ⟨[.ref a,nameV],[]⟩) Q E ⟨h,g,d,t,os⟩:=by
 have hk:builtinKind "BaseException.__getattribute__"= some .slot:=by decide +kernel
 have hsplit:splitId "BaseException.__getattribute__"= some ("BaseException","__getattribute__"):=by decide +kernel
 have L0:Looks M h (typeOf (.ref a)) (.ref C):=WJ p;have L4:Looks M h (isSubtype (.ref C) (.type "BaseException")) true:=looks_subIn X Z.base;have ha:=F.args_bexc_ga (.ref a) nameV;simp only[checkBuiltinCall,hk,hsplit];refine wpAny_bind ?_;unfold isInstance
 repeat (first | with_reducible refine Looks.at L0 ?_ | with_reducible refine Looks.at L4 ?_ | wp_step)
 exact hq
theorem j14{Q:Option Value->Shared->Prop}{s:Shared}(Z:ExcI K C)(X:K.In s.heap)(p:xcO (.ref C) a s.heap)(q:Q (some (.ref C)) {s with toks:=s.toks+1}) :
  wpAny (model prog w) A (getAttr? (.ref a) "__class__") Q E s:=by
 obtain⟨h,g,d,t,os⟩:=s;have L0:Looks (model prog w) h (typeOf (.ref a)) (.ref C):=WJ p;have L1:=looks_findIn (M:=model prog w) X Z.ga;have L2:=looks_findIn (M:=model prog w) X Z.nh;have f3:=F.attr_ValueError.ga.bind (.ref a);have hx2:(Value.builtin "BaseException.__getattribute__"== Value.builtin "object.__getattribute__")=false:=by decide +kernel
 unfold getAttr? getAttrBy? getAttrBy;refine wpAny_bind (wpAny_mkText (wpAny_bind (wpAny_attempt (wpAny_holding (wpAny_bind (L0.at (wpAny_bind (L1.at ?_))))))));dsimp only;rw[show(onTheHeap (Value.ref C)&&Value.builtin "BaseException.__getattribute__"== Value.builtin "object.__getattribute__")=false from by rw[hx2];rfl];simp only[Bool.false_eq_true,if_false];unfold getAttrByItsOwn hookBefore;rw[show onTheHeap (Value.ref C)=true from rfl];simp only[if_true];refine wpAny_bind (L2.at ?_);refine wpAny_bind (wpAny_attempt (wpAny_holding ?_));unfold callGetattribute;simp only[Bool.false_and,Bool.false_eq_true,if_false];unfold boundAndCalled
 repeat (any_goals (first | assumption | wp_step))
 refine codeAny_call_builtin F.attr_ValueError.ga.plain F.entry_bexc_ga (j13 Z X p (j15 Z X p ?_))
 repeat (any_goals (first | assumption | wp_step))
theorem Wj(Z:ExcI K C):KitX K (.ref a) (.ref C) (xcO (.ref C) a) where
 ty:=fun _ _ _ p=>WJ p
 it:=fun _ _ X _=>by
  have z0:(clsIn K C).isSome=true:=Z.is;unfold clsIn at z0;split at z0
  ·rename_i c' d' cd' sl' ho;intro A' Q' E' s' k q;unfold isType loadHead;exact wpAny_bind (wpAny_loadPart (k _ _ (X _ _ ho)) (wpAny_pure q))
  ·cases z0
 ne:=fun h tp dd its n sl X htp=>by
  have z0:(clsIn K C).isSome=true:=Z.is;refine Bool.eq_false_iff.mpr fun q=>?_
  have e:C=tp:=Value.ref.inj (beq_iff_eq.mp q);subst e;unfold clsIn at z0;split at z0
  ·rename_i c' d' cd' sl' ho;have z:=(X _ _ ho).symm.trans htp;cases z
  ·cases z0
 ca:=fun X p k=>j14 Z X p k
end
section
variable{X:Cx}
def rIsiE(K:Frag)(xs:List V)(H:Hp)(Q:VK):Prop:=∃a C dd d u b,xs=[.ref a,d]/\H a=some (XcF (.ref C) a dd)/\ExcI K C/\RelV d u/\kitOne K (.ref C) u=some b/\Q (.bl b) H
theorem Z9:CallR X (.builtin "isinstance") (rIsiE X.K):=by
 intro pins s σ H xs us Q I r h;obtain⟨a,C,dd,d,u,b,rfl,ea,Z,rd,e,q⟩:=h;obtain⟨v,w',rfl,rx,rT⟩:=vals2 r;cases(show v=Value.ref a from rx);obtain⟨p,_,_⟩:=(show ObjOk X.prog X.w H s.heap a (XcF (.ref C) a dd)from I.hok a _ ea)
 have e':kitOne X.K (.ref C) w'=some b:=by
  cases d with
  | ref D=>cases(show w'=Value.ref D from rT);cases(show u=Value.ref D from rd);exact e
  | ty T=>cases(show w'=Value.type T from rT);cases(show u=Value.type T from rd);exact e
  | non=>cases(show u=Value.none from rd);cases(show w'=Value.none from rT);exact e
  | bl y=>cases(show u=Value.bool y from rd);cases(show w'=Value.bool y from rT);exact e
  | int i=>obtain⟨t,z⟩:=(show∃t,u=Value.int i t from rd);obtain⟨t',z'⟩:=(show∃t,w'=Value.int i t from rT);subst z z';unfold kitOne at e|-;rw[if_neg (by intro h;cases beq_iff_eq.mp h)]at e|-;exact e
  | str i=>obtain⟨t,z⟩:=(show∃t,u=Value.str i t from rd);obtain⟨t',z'⟩:=(show∃t,w'=Value.str i t from rT);subst z z';unfold kitOne at e|-;rw[if_neg (by intro h;cases beq_iff_eq.mp h)]at e|-;exact e
  | byt i=>obtain⟨t,z⟩:=(show∃t,u=Value.bytes i t from rd);obtain⟨t',z'⟩:=(show∃t,w'=Value.bytes i t from rT);subst z z';unfold kitOne at e|-;rw[if_neg (by intro h;cases beq_iff_eq.mp h)]at e|-;exact e
  | flt i=>obtain⟨t,z⟩:=(show∃t,u=Value.float i t from rd);obtain⟨t',z'⟩:=(show∃t,w'=Value.float i t from rT);subst z z';unfold kitOne at e|-;rw[if_neg (by intro h;cases beq_iff_eq.mp h)]at e|-;exact e
 exact kia_one (Wj Z) I.kIn p.xc e' (fun z=>nomatch z) fun tk=>⟨.bl b,H,I.tok _,rfl,q⟩
theorem Qv{a C:Addr}{dd:Option Addr}{d:V}{u:Value}{b:Bool}{K:Frag}{H:Hp}{Q:VK}(ea:H a=some (XcF (.ref C) a dd))(Z:ExcI K C)(e:kitOne K (.ref C) u=some b)(q:Q (.bl b) H)(rd:RelV d u:=by rfl):rIsiE K [.ref a,d] H Q:=⟨a,C,dd,d,u,b,rfl,ea,Z,rd,e,q⟩
def rIsiT(K:Frag)(xs:List V)(H:Hp)(Q:VK):Prop:=∃(a C tp:Addr) (dd:Option Addr) (cs:List Addr) (b:Bool),xs=[.ref a,.ref tp]/\H a=some (XcF (.ref C) a dd)/\ExcI K C/\H tp=some (.tup (cs.map V.ref))/\kitAny K (.ref C) (cs.map Value.ref)=some b/\Q (.bl b) H
theorem kT:∀{cs:List Addr} {us:List Value},Vals (cs.map V.ref) us->us=cs.map Value.ref
 | [],_,.nil=>rfl
 | _::_,_,.cons r t=>by rw[kT t];cases r;rfl
theorem XA:CallR X (.builtin "isinstance") (rIsiT X.K):=by
 intro pins s σ H xs us Q I r h;obtain⟨a,C,tp,dd,cs,b,rfl,ea,Z,et,e,q⟩:=h;obtain⟨v,w',rfl,rx,rT⟩:=vals2 r;cases(show v=Value.ref a from rx);cases(show w'=Value.ref tp from rT);obtain⟨p,_,_⟩:=(show ObjOk X.prog X.w H s.heap a (XcF (.ref C) a dd)from I.hok a _ ea)
 obtain⟨_,its,rv,⟨o,e1,e2,n,e3⟩⟩:=(show ObjOk X.prog X.w H s.heap tp (.tup (cs.map V.ref))from I.hok tp _ et)
 have ei:=kT rv;subst ei;obtain⟨oc,od,oda,osl⟩:=o;dsimp only at e2 e3;subst e2 e3;exact kia_tup (Wj Z) I.kIn p.xc e1 e (fun z=>nomatch z) fun tk=>⟨.bl b,H,I.tok _,rfl,q⟩
theorem kY:bootBuiltins "ValueError"= some (.type "ValueError"):=by decide +kernel
theorem ye{t:TRS}{σ σ':St}{H:Hp}{E:XS}(e:σ=σ')(h:t σ' H E):t σ H E:=by subst e;exact h
theorem yf{t1:TS}{t2:TRS}{σ:St}{H:Hp}{E:XS}(h:t1 {nx:=fun σ' H'=>t2 σ' H' E,rt:=fun _ _=>False} σ H):rSeq t1 t2 σ H E:=h
theorem kL{tc:TT}{ta tb:TRS}{σ:St}{H:Hp}{E:XS}(h:tc σ H fun b H1=>if b=true then ta σ H1 E else tb σ H1 E):rIf tc ta tb σ H E:=h
theorem j0L{t:TRE}{σ:St}{H:Hp}{E:XS}(h:t σ H (E σ)):rE t σ H E:=h
theorem kK{sp:Sp}{dvs:List V}{t:TA}{σ:St}{H:Hp}{E:XK}(h:t σ H fun vs H1=>sp (vs++dvs) H1 (fun _ _=>False) E):rCall sp dvs t σ H E:=h
theorem j1G{K:Frag}{c:Value}{i:Nat}{tn:TS}{tr:TRS}{ts:TS}{D:Ends}{σ:St}{H:Hp}(h:tn D σ H):tTry K c i tn tr ts D σ H:=.inl h
theorem j1H{K:Frag}{c:Value}{i:Nat}{tn:TS}{tr:TRS}{ts:TS}{D:Ends}{σ:St}{H:Hp} (h:tr σ H fun σ' cls dd H'=>exmOne K cls c=some true/\∀a,H' a=none->
  ts {nx:=fun σ2 H2=>D.nx (σ2.set i none) H2,rt:=D.rt,bk:=fun σ2 H2=>D.bk (σ2.set i none) H2,ct:=fun σ2 H2=>D.ct (σ2.set i none) H2} (σ'.set i (some (.ref a))) (upd H' a (XcF cls a dd))):tTry K c i tn tr ts D σ H:=.inr h
end
section
variable{X:Cx}{e:PySem.Expr}{es:List PySem.Expr}{te:TE}{t:TRE}{f:Addr}{x:Str}{p pos:Pos}
end
end L2
namespace PySem
section
variable{prog:Program}{w:World}{A:Around}{E:Value->Shared->Prop}{h:Heap}{g:Array GenState}{d:Drawn}{t:Nat}{os:OsState}
variable{nm q:Str}{C N:Addr}{bs bm bmB:List Value}{hdct:Bool}{sn:List Str}{sub:List Value}{ab:Bool}{col:Option Bool}{dd:Option Addr}{k0 k1 k2 k3 k5:Option Value}{B newId initId:String}
theorem yn(F:ExcBaseFacts B newId initId bmB)(T:OwnTail h bmB bm){mN:Str->Option Value}{rest:List Value}{fI:Addr}{oI:Obj}{Q:Fin->Shared->Prop}
  (hC:h.get? C=some (excClassObj nm q C N bs bm hdct sn sub ab col dd k0 k1 k2 k3 k5 newId)) (hn:h.Ns N mN) (hi:mN "__init__"= some (.ref fI))
  (hfI:h.get? fI=some oI) (hfc:oI.cls = .type "function")
  (hq:∀h' e,Heap.MadeExcOf h h' e (.ref C) rest->
   wpAny (model prog w) A (call (.ref fI) (.ref e::rest)) (fun r s'=>r = .none/\Q (.done (.ret (.ref e))) s') E ⟨h',g,d,t,os⟩) (hrest:rest.length<=sizeLine:=by size_fits) :
  wpAny (model prog w) A (Builtin.«type.__call__» ⟨.ref C::rest,[]⟩) Q E ⟨h,g,d,t,os⟩:=by
 repeat (first | with_reducible refine wpAny_loadPart_at hC ?_ | with_reducible refine wpAny_madeBy_exc hC ?_ | wp_step)
 refine codeAny_call_builtin_code (Code.quiet_builtin _ F.quiet) (wpAny_check_new_subT F T hC ?_);refine codeAny_exc_new_subT F T hC ?_ hrest;show wpAny _ _ _ _ _ _;have hC₁:=Heap.get?_push_of_some {cls:=.ref C,data:=.fields #[.ref h.objs.size,.none,.none,.none,.bool false,.none]}
  (Heap.get?_push_of_some {cls:=.type "tuple",data:=.seq rest.toArray} hC)
 have hfI₁:=Heap.get?_push_of_some {cls:=.ref C,data:=.fields #[.ref h.objs.size,.none,.none,.none,.bool false,.none]}
  (Heap.get?_push_of_some {cls:=.type "tuple",data:=.seq rest.toArray} hfI)
 have hn₁:((h.push {cls:=.type "tuple",data:=.seq rest.toArray}).push {cls:=.ref C,data:=.fields #[.ref h.objs.size,.none,.none,.none,.bool false,.none]}).Ns N mN:=
  let ⟨o,es,ep,e,r⟩:=hn;⟨o,es,ep,Heap.get?_push_of_some _ (Heap.get?_push_of_some _ e),r⟩
 have hget:((h.push {cls:=.type "tuple",data:=.seq rest.toArray}).push
   {cls:=.ref C,data:=.fields #[.ref h.objs.size,.none,.none,.none,.bool false,.none]}).get? (h.objs.size+1)=some
   {cls:=.ref C,data:=.fields #[.ref h.objs.size,.none,.none,.none,.bool false,.none]}:=by heap_get
 have hcC:(Value.ref C::bm).contains (.ref C)=true:=by simp
 have T₁:=T.keeps (h':=(h.push {cls:=.type "tuple",data:=.seq rest.toArray}).push {cls:=.ref C,data:=.fields #[.ref h.objs.size,.none,.none,.none,.bool false,.none]})
  fun b o e=>Heap.get?_push_of_some _ (Heap.get?_push_of_some _ e)
 unfold isInstance
 repeat (first | with_reducible refine wpAny_loadPart_at hget ?_ | (with_reducible refine wpAny_isSubtype_exc hC₁ ?_;rw[hcC]) | wp_step)
 show wpAny _ _ (typeLookup (.ref C) _) _ _ _;refine wpAny_typeLookup_tail hC₁ hn₁ T₁ F.mroIs F.init.lookup ?_;rw[hi];refine wpAny_holding (wpAny_bind ?_);unfold bindSpecial;refine wpAny_bind (wpAny_typeOf (T:="function") ⟨_,hfI₁,hfc⟩ ?_);rw[if_pos (by decide)];refine wpAny_pure (wpAny_bind (wpAny_mono (hq _ (h.objs.size+1) ⟨fun b o hb=>Heap.get?_push_of_some _ (Heap.get?_push_of_some _ hb),Heap.get?_none_of_le (Nat.le_succ _),h.objs.size,hget,Heap.get?_none_of_le (Nat.le_refl _),?_⟩) (fun r s' hr=>?_) fun _ _ x=>x))
 ·exact Heap.get?_push_of_some _ (Heap.get?_push_at rfl rfl)
 ·obtain⟨rfl,hQ⟩:=hr
  wp_walk
  exact hQ
theorem kc(F:ExcBaseFacts B newId initId bmB)(T:OwnTail h bmB bm){mN:Str->Option Value}{rest:List Value}{fI:Addr}{oI:Obj}{Q:Value->Shared->Prop}
  (hC:h.get? C=some (excClassObj nm q C N bs bm hdct sn sub ab col dd k0 k1 k2 k3 k5 newId)) (hn:h.Ns N mN) (hi:mN "__init__"= some (.ref fI))
  (hfI:h.get? fI=some oI) (hfc:oI.cls = .type "function")
  (hq:∀h' e,Heap.MadeExcOf h h' e (.ref C) rest->
   wpAny (model prog w) (A.under (.builtin "type.__call__" ⟨.ref C::rest,[]⟩)) (call (.ref fI) (.ref e::rest)) (fun r s'=>r = .none/\Q (.ref e) s') E ⟨h',g,d,t,os⟩) (hrest:rest.length<=sizeLine:=by size_fits) :
  wpAny (model prog w) A (call (.ref C) rest) Q E ⟨h,g,d,t,os⟩:=by
 have f1:=tc_lookup;have f2:=tc_bind (.ref C);have hT:(⟨h,g,d,t,os⟩:Shared).TypeIs (.ref C) "type":=⟨_,hC,rfl⟩
 refine wpAny_call (codeAny_of_tree ?_);show wpAny _ _ (callAny (.ref C) _) _ _ _
 repeat (any_goals (first | assumption | with_reducible refine wpAny_loadPart_at hC ?_ | wp_step))
 refine⟨rfl,?_⟩;refine codeAny_call_builtin_at (Code.quiet_builtin _ (by decide +kernel)) entry_typeCall (wpAny_check_type_call_sub hC (yn (hrest:=hrest) F T hC hn hi hfI hfc fun h' e hm=>?_));exact hq h' e hm
end
end PySem
namespace L2
open PySem PySem.Spec PyProof.Rows PySem.W PySem.Builtin PySem.Builtin.ObjectAttr
noncomputable def overVE:List Value->Bool
 | [.type a,.type b,.type c,.type d]=>a == "ValueError" && b == "Exception" && c == "BaseException" && d == "object"
 | .ref _::r=>overVE r
 | _=>false
theorem Yx(self:Value):∀{l:List Value},overVE l=true->refuseLoop self "__setattr__" l=pure ()/\l.contains (.type "object")=true/\l.isEmpty=false
 | [.type a,.type b,.type c,.type d],e=>by
  unfold overVE at e;simp only[Bool.and_eq_true,beq_iff_eq]at e;obtain⟨⟨⟨rfl,rfl⟩,rfl⟩,rfl⟩:=e;exact⟨PySem.F.store_ValueError.passes self,by decide +kernel,rfl⟩
 | .ref c::r,e=>by
  obtain⟨h1,h2,_⟩:=Yx self (l:=r) (by cases r<;>first | exact e | cases e);exact⟨by rw[refuseLoop_ref];exact h1,by rw[List.contains_cons,h2,Bool.or_true],rfl⟩
noncomputable def xovIn(K:Frag)(C:Addr):Bool:=(clsIn K C).any (fun cd=>overVE cd.mro&&cd.hasDict)
structure ExcF(K:Frag)(C:Addr):Prop where
 i:ExcI K C
 sa:findIn K (.ref C) "__setattr__"= some (some (.builtin "object.__setattr__"))
 ov:xovIn K C=true
section
variable{prog:Program}{w:World}{A:Around}{E:Value->Shared->Prop}{K:Frag}{C x:Addr}{h:Heap}{g:Array GenState}{d:Drawn}{t:Nat}{os:OsState}{mA:Str->Option Value}{name:Str}{v:Value}
theorem yO{M:Model}(I:h.Inst x C mA):Looks M h (typeOf (.ref x)) (.ref C):=by
 obtain⟨o,h1,h2,_⟩:=I;exact h2▸(Looks.ld h1).andThen .now
theorem j2X{tk:Tok}{Q:Fin->Shared->Prop}{ns:List Str}(X:K.In h)(Z:ExcF K C)(ha:findIn K (.ref C) name=some none)(I:h.Inst x C mA)
  (hq:∀h' tk',h'.Inst x C (fun y=>if y=name then some v else mA y)->
   (∀b o,b≠x->(∀o₀ dx,h.get? x=some o₀->o₀.dict=some dx->b≠dx)->h.get? b=some o->h'.get? b=some o)->
   (∀o₀,h.get? x=some o₀->∃o₁,h'.get? x=some o₁/\o₁.cls=o₀.cls/\o₁.data=o₀.data/\o₁.slots=o₀.slots/\(∀dx,o₀.dict=some dx->o₁.dict=some dx)/\(o₀.dict=none->o₁.dict=some h.objs.size))->Q (.done (.ret .none)) ⟨h',g,d,tk',os⟩) (hw:Within mA ns) (hsz:ns.length<sizeLine) :
  wpAny (model prog w) A (Builtin.«object.__setattr__» ⟨[.ref x,.str name tk,v],[]⟩) Q E ⟨h,g,d,t,os⟩:=by
 obtain⟨cd,hc,ho⟩:=any_some Z.ov;rw[Bool.and_eq_true]at ho;obtain⟨ho,hd'⟩:=ho;obtain⟨r1,r2,r3⟩:=Yx (.ref x) ho;have hm:Looks (model prog w) h (mroOf (.ref C)) cd.mro:=(looks_clsIn X hc).andThen .now;have LT:Looks (model prog w) h (typeOf (.ref x)) (.ref C):=yO I;rw[osa_eq,refuse_eq];refine wpAny_bind (wpAny_bind (LT.here (wpAny_bind (hm.here ?_))));rw[r1];refine wpAny_pure (wpAny_bind (LT.here (wpAny_bind ((looks_findIn X ha).here (wpAny_bind ?_)))));refine wpAny_pure ?_;dsimp only;obtain⟨o,hx,hcl,hnc,hd⟩:=I;refine wpAny_bind (wpAny_pure (wpAny_bind (wpAny_bind (wpAny_loadPart hx ?_))));dsimp only;rw[hcl];refine wpAny_bind ((looks_clsIn X hc).here ?_);rw[hd'];rw[if_neg (by decide)];rcases hd with⟨hdn,hmA⟩ | ⟨dx,hdx,hne,hns⟩
 ·rw[hdn,if_neg (by simp[typeHasDict])];split
  ·rename_i hcd;cases hcd
  split
  ·rename_i c hcd;exact absurd hcd (hnc c)
  ·have hx₁:(h.push {cls:=.type "dict",data:=.dict #[]}).get? x=some o:=Heap.get?_push_of_some _ hx;have hxs:x≠h.objs.size:=Nat.ne_of_lt (Heap.lt_size hx);refine wpAny_bind (wpAny_alloc' ?_);refine wpAny_bind (wpAny_update' hx₁ ?_);refine wpAny_pure ?_;have hgd:((h.push {cls:=.type "dict",data:=.dict #[]}).update x fun o=>{cls:=o.cls,dict:=some h.objs.size,data:=o.data,slots:=o.slots}).get? h.objs.size
     = some {cls:=.type "dict",data:=.dict #[]}:=
    (Heap.get?_update_ne _ _ _ _ hxs.symm).trans (Heap.get?_push_at rfl rfl)
   have hnd:((h.push {cls:=.type "dict",data:=.dict #[]}).update x fun o=>{cls:=o.cls,dict:=some h.objs.size,data:=o.data,slots:=o.slots}).Ns h.objs.size (fun _=>none):=
    ⟨_,#[],_,hgd,rfl,fun e he=>absurd he (by simp),fun _=>rfl⟩
   show wpAny _ _ (storeInDict h.objs.size (.str name tk) name v) _ _ _;unfold storeInDict newKeyGuard;refine wpAny_bind (wpAny_pure (wpAny_bind (wpAny_nsSet1 (Heap.Ns1.of_empty hnd) fun h' hn' hs=>?_)));obtain⟨oD,esD,epD,hoD,hdD,hcD⟩:=hn'.count (Within.cons name v Within.nil);refine wpAny_bind (wpAny_lookBehind hoD (by rw[hdD];exact pastItsLine_dict (Nat.le_trans hcD (by rw[length_cons,length_nil,sizeLine_eq];omega))) ?_)
   wp_walk
   have hx':h'.get? x=some {cls:=o.cls,dict:=some h.objs.size,data:=o.data,slots:=o.slots}:=?_;refine hq h' _ ⟨{cls:=o.cls,dict:=some h.objs.size,data:=o.data,slots:=o.slots},hx',hcl,hnc,.inr ⟨h.objs.size,rfl,hxs.symm,?_⟩⟩ (fun b ob hbx _ hb=>?_)
    (fun o₀ h₀=>by obtain rfl:o=o₀:=Option.some.inj (hx.symm.trans h₀);exact⟨_,hx',rfl,rfl,rfl,(fun dx e=>by rw[hdn]at e;cases e),fun _=>rfl⟩)
   ·obtain⟨o',es,ep,e1,e2,e3,eu,e4⟩:=hn';exact⟨o',es,ep,e1,e2,e3,eu,fun y=>by rw[e4 y];by_cases hy:y=name<;>simp[hy,hmA]⟩
   ·exact(hs.2 b (Nat.ne_of_lt (Heap.lt_size hb))).trans ((Heap.get?_update_ne _ _ _ _ hbx).trans (Heap.get?_push_of_some _ hb))
   ·refine(hs.2 x hxs).trans (Heap.get?_update_self _ hx₁ ?_);have hfr:=(Heap.get?_some_iff.mp hx).2;obtain⟨oc,od,odt,osl⟩:=o;cases odt<;>first | rfl | exact hfr
 ·rw[hdx];refine wpAny_pure ?_;show wpAny _ _ (storeInDict dx (.str name tk) name v) _ _ _;unfold storeInDict newKeyGuard;refine wpAny_bind (wpAny_pure (wpAny_bind (wpAny_nsSet1 hns fun h' hn' hs=>?_)));obtain⟨oD,esD,epD,hoD,hdD,hcD⟩:=hn'.count (Within.cons name v hw);refine wpAny_bind (wpAny_lookBehind hoD (by rw[hdD];exact pastItsLine_dict (Nat.le_trans hcD (by rw[length_cons];omega))) ?_)
  wp_walk
  refine hq h' _ ⟨o,(hs.2 x hne.symm).trans hx,hcl,hnc,.inr ⟨dx,hdx,hne,hn'⟩⟩ (fun b ob _ hbd hb=>?_)
   (fun o₀ h₀=>⟨o₀,(hs.2 x hne.symm).trans h₀,rfl,rfl,rfl,(fun _ e=>e),fun e=>by rw[hx]at h₀;cases h₀;rw[hdx]at e;cases e⟩)
  exact(hs.2 b (hbd o dx hx hdx)).trans hb
theorem j1Z{Q:Unit->Shared->Prop}{ns:List Str}(X:K.In h)(Z:ExcF K C)(ha:findIn K (.ref C) name=some none)(I:h.Inst x C mA)
  (hq:∀h' tk',h'.Inst x C (fun y=>if y=name then some v else mA y)->
   (∀b o,b≠x->(∀o₀ dx,h.get? x=some o₀->o₀.dict=some dx->b≠dx)->h.get? b=some o->h'.get? b=some o)->
   (∀o₀,h.get? x=some o₀->∃o₁,h'.get? x=some o₁/\o₁.cls=o₀.cls/\o₁.data=o₀.data/\o₁.slots=o₀.slots/\(∀dx,o₀.dict=some dx->o₁.dict=some dx)/\(o₀.dict=none->o₁.dict=some h.objs.size))->Q () ⟨h',g,d,tk',os⟩) (hw:Within mA ns) (hsz:ns.length<sizeLine) :
  wpAny (model prog w) A (setAttr (.ref x) name v) Q E ⟨h,g,d,t,os⟩:=by
 have SF:=PySem.F.store_object;obtain⟨cd,hc,ho⟩:=any_some Z.ov;rw[Bool.and_eq_true]at ho;obtain⟨r1,r2,r3⟩:=Yx (.ref x) ho.1;have LT:Looks (model prog w) h (typeOf (.ref x)) (.ref C):=yO I;have sub:Looks (model prog w) h (isInstance (.ref x) (.type "object")) true:=LT.andThen (looks_mroIn X (by unfold mroIn;rw[hc,Option.bind_some,if_neg (by rw[r3];decide),r2]));refine wpAny_bind (wpAny_mkText (wpAny_bind (wpAny_bind (wpAny_bind (LT _ _ _ _ (fun _ _ e=>e) (looks_findIn X Z.sa _ _ _ _ (fun _ _ e=>e) (wpAny_holding ?_)))))));rw[SF.slot.bind];refine wpAny_bind (wpAny_pure (wpAny_bind (wpAny_call ?_)));refine codeAny_call_builtin SF.slot.plain SF.entry (@check_slot (model prog w) _ _ ⟨h,g,d,_,os⟩ "object.__setattr__" "object" "__setattr__" (.ref x) [.str name _,v] [] _ SF.kind SF.split sub (SF.args (.ref x) (.str name _) v) ?_);refine j2X X Z ha I (fun h' tk' a b c=>?_) hw hsz;exact wpAny_pure (wpAny_pure (hq h' tk' a b c))
structure ExcP(K:Frag)(CP:Addr)(initId:String):Prop where
 g:specialIn K (.ref CP) "__getattribute__"= some (some (.builtin "type.__getattribute__"))
 r:readsIn K CP (.type "type")=true
 f:findCls K (.ref CP) (.type "type") "__init__"= some (.val (.builtin initId))
 h:handedIn (.builtin initId)=true
theorem j2J{CP:Addr}{initId:String}{pl:Sem Bool}{Q:Value×List Value->Shared->Prop}{s:Shared}(X:K.In s.heap)(Z:ExcP K CP initId)(h:Q (.builtin initId,[]) {s with toks:=s.toks+1}):wpAny (model prog w) A (getMethod (.ref CP) "__init__" pl) Q E s:=
 method_cls X Z.g (cls_value X Z.r Z.f Z.h h)
theorem j1Q{newId initId:String}{bmB:List Value}(F:ExcBaseFacts "ValueError" newId initId bmB){o:Obj}{vs:Array Value}{Q:Value->Shared->Prop}(X:K.In h)(Z:ExcF K C)(hs:subIn K (.ref C) (.type "ValueError")=some true)(he:h.get? x=some o)(hcl:o.cls = .ref C)(hdt:o.data = .fields vs){a0:Addr}(h0:vs[0]?=some (.ref a0))
  (hq:∀h' t',(∀b ob,b≠x->h.get? b=some ob->h'.get? b=some ob)->h.get? t'=none->h'.get? x=some {o with data:=.fields (vs.setIfInBounds 0 (.ref t'))}->Q .none ⟨h',g,d,t,os⟩) {u:Value} :
  wpAny (model prog w) A (call (.builtin initId) [.ref x,u]) Q E ⟨h,g,d,t,os⟩:=by
 have LT:Looks (model prog w) h (typeOf (.ref x)) (.ref C):=hcl▸(Looks.ld he).andThen .now;have LS:Looks (model prog w) h (isSubtype (.ref C) (.type "ValueError")) true:=looks_subIn X hs;have hshort:=F.noStar;obtain⟨oC,cd,hC,hCd⟩:∃oC cd,h.get? C=some oC/\oC.data = .cls cd:=by
  have z0:(clsIn K C).isSome=true:=Z.i.is;unfold clsIn at z0;split at z0
  ·rename_i c' d' cd' sl' ho;exact⟨_,_,X _ _ ho,rfl⟩
  ·cases z0
 refine wpAny_call (codeAny_call_builtin F.init.plain F.initEntry ?_);simp only[checkBuiltinCall,F.initKind,F.initSplit,F.initRow];unfold isInstance
 repeat (first | with_reducible refine Looks.at LT ?_ | with_reducible refine Looks.at LS ?_ | (with_reducible refine wpAny_load hC ?_;rw[hCd]) | wp_step)
 rw[hdt];refine wpAny_pure ?_;rw[h0];refine wpAny_pure ?_;have he₁:(h.push {cls:=.type "tuple",data:=.seq #[u]}).get? x=some o:=Heap.get?_push_of_some _ he
 repeat (first | (with_reducible refine wpAny_load he₁ ?_;rw[hdt]) | wp_step)
 rw[if_pos (Array.getElem?_eq_some_iff.mp h0).1];refine wpAny_update' he₁ ?_
 repeat (first | wp_step)
 refine hq _ h.objs.size (fun b ob hb e=>(Heap.get?_update_ne _ _ _ _ hb).trans (Heap.get?_push_of_some _ e)) (Heap.get?_none_of_le (Nat.le_refl _)) ?_;refine(Heap.get?_update_self _ he₁ ?_).trans ?_
 all_goals (obtain⟨oc,od,odt,osl⟩:=o;dsimp only at hdt;subst hdt;rfl)
theorem j12{tk:Tok}{Q:Fin->Shared->Prop}(X:K.In h)(Z:ExcF K C)(ha:findIn K (.ref C) name=some none)(I:h.Inst x C mA)(hv:mA name=some v)(hq:Q (.done (.ret v)) ⟨h,g,d,t,os⟩) :
  wpAny (model prog w) A (Builtin.«object.__getattribute__» ⟨[.ref x,.str name tk],[]⟩) Q E ⟨h,g,d,t,os⟩:=by
 have L0:Looks (model prog w) h (typeOf (.ref x)) (.ref C):=yO I;have L3:=looks_findIn (M:=model prog w) X ha;obtain⟨o,hx,hcl,hnc,hd⟩:=I;obtain⟨dx,hdx,hne,hns⟩:∃dx,o.dict=some dx/\dx≠x/\h.Ns1 dx mA:=by
  rcases hd with⟨_,hm⟩ | z
  ·rw[hm]at hv;cases hv
  ·exact z
 have hn:=hns.ns;obtain⟨oc,od,odt,osl⟩:=o;dsimp only at hcl hdx;subst hcl hdx;obtain⟨cd,hc,ho⟩:=any_some Z.ov;rw[Bool.and_eq_true]at ho;have LC:Looks (model prog w) h (classData C) cd:=looks_clsIn X hc;have hd':=ho.2
 repeat (any_goals (first | assumption | with_reducible refine Looks.at L0 ?_ | with_reducible refine Looks.at L3 ?_ | with_reducible refine Looks.at LC ?_ | with_reducible refine wpAny_loadPart_at hx ?_ | (with_reducible refine wpAny_nsGet hn ?_;rw[hv]) | wp_step))
 split
 ·rename_i c hcd;exact absurd hcd (hnc c)
 ·unfold instanceDict;refine wpAny_bind (wpAny_loadPart hx ?_);dsimp only;refine wpAny_bind (LC.at ?_);rw[hd',if_neg (by decide)];refine wpAny_pure ?_;unfold inDict;refine wpAny_nsGet hn ?_;rw[hv]
  repeat (any_goals (first | assumption | wp_step))
theorem j11{M:Model}{nameV:Value}{Q:Unit->Shared->Prop}(Z:ExcF K C)(X:K.In h)(I:h.Inst x C mA)(hq:Q () ⟨h,g,d,t,os⟩) :
  wpAny M A (checkBuiltinCall "BaseException.__getattribute__" ⟨[.ref x,nameV],[]⟩) Q E ⟨h,g,d,t,os⟩:=by
 have hk:builtinKind "BaseException.__getattribute__"= some .slot:=by decide +kernel
 have hsplit:splitId "BaseException.__getattribute__"= some ("BaseException","__getattribute__"):=by decide +kernel
 have L0:Looks M h (typeOf (.ref x)) (.ref C):=yO I;have L4:Looks M h (isSubtype (.ref C) (.type "BaseException")) true:=looks_subIn X Z.i.base;have ha:=F.args_bexc_ga (.ref x) nameV;simp only[checkBuiltinCall,hk,hsplit];refine wpAny_bind ?_;unfold isInstance
 repeat (first | with_reducible refine Looks.at L0 ?_ | with_reducible refine Looks.at L4 ?_ | wp_step)
 exact hq
theorem j2W{expr:Bool}{Q:Value->Shared->Prop}(X:K.In h)(Z:ExcF K C)(ha:findIn K (.ref C) name=some none)(I:h.Inst x C mA)(hv:mA name=some v)(hh:handedIn v=true)(hq:Q v ⟨h,g,d,t+1,os⟩) :
  wpAny (model prog w) A (getAttr (.ref x) name expr) Q E ⟨h,g,d,t,os⟩:=by
 have L0:Looks (model prog w) h (typeOf (.ref x)) (.ref C):=yO I;have L1:=looks_findIn (M:=model prog w) X Z.i.ga;have L2:=looks_findIn (M:=model prog w) X Z.i.nh;have f3:=F.attr_ValueError.ga.bind (.ref x);have hx2:(Value.builtin "BaseException.__getattribute__"== Value.builtin "object.__getattribute__")=false:=by decide +kernel
 unfold getAttr getAttrBy;refine wpAny_bind (wpAny_mkText (wpAny_holding (wpAny_bind (L0.at (wpAny_bind (L1.at ?_))))));dsimp only;rw[show(onTheHeap (Value.ref C)&&Value.builtin "BaseException.__getattribute__"== Value.builtin "object.__getattribute__")=false from by rw[hx2];rfl];simp only[Bool.false_eq_true,if_false];unfold getAttrByItsOwn hookBefore;rw[show onTheHeap (Value.ref C)=true from rfl];simp only[if_true];refine wpAny_bind (L2.at ?_);refine wpAny_bind (wpAny_attempt (wpAny_holding ?_));unfold callGetattribute;rw[show(expr&&onTheHeap (Value.builtin "BaseException.__getattribute__"))=false from Bool.and_false _,if_neg (by decide)];unfold boundAndCalled
 repeat (any_goals (first | assumption | wp_step))
 refine codeAny_call_builtin F.attr_ValueError.ga.plain F.entry_bexc_ga (j11 Z X I (j12 X Z ha I hv ?_));show wpAny _ _ (handedOut v) _ _ _;rw[handedOut_of hh];exact wpAny_pure hq
end
open PySem PySem.Spec PyProof.Rows PySem.W
theorem xcF.inst{C a dx:Addr}{h:Heap}{mA:Str->Option Value}(x:xcF (.ref C) a (some dx) h)(hn:h.Ns1 dx mA):h.Inst a C mA:=by
 obtain⟨o,vs,e,c,f,d⟩:=x;refine⟨o,e,c,(fun cd z=>by rw[f]at z;cases z),.inr ⟨dx,d,fun z=>?_,hn⟩⟩;obtain⟨o',es,ep,e',d',_⟩:=hn;rw[z,e]at e';cases e';rw[f]at d';cases d'
def tXf(K:Frag)(ta:TE)(m:Str):TE:=fun σ H Q=>ta σ H fun x H1=>∃a C dx fs v,x = .ref a/\H1 a=some (XcF (.ref C) a (some dx))/\H1 dx=some (.xd fs)/\ExcF K C/\findIn K (.ref C) m=some none/\fs.lookup m=some v/\Q v H1
theorem yW{X:Cx}{e:PySem.Expr}{ta:TE}{f:Str}{pos:Pos}(he:PE X e ta)(hb:attributeBase e f X.env (eval e X.env)=eval e X.env:=by rfl):PE X (.Attribute e f pos) (tXf X.K ta f):=by
 intro pins s σ H Q I h;refine j17 hb (thn (he pins s σ H _ I h) fun u s1 ⟨x,H1,I1,rx,a,C,dx,fs,v,ex,ea,ed,Z,n,l,q⟩=>?_);subst ex;obtain rfl:u=Value.ref a:=rx;obtain⟨p,_,_⟩:=(show ObjOk X.prog X.w H1 s1.heap a (XcF (.ref C) a (some dx))from I1.hok a _ ea)
 obtain⟨mA,hn,hr⟩:=(show ObjOk X.prog X.w H1 s1.heap dx (.xd fs)from I1.hok dx _ ed)
 have hrf:=hr f;rw[l]at hrf;cases em:mA f with
 | none=>rw[em]at hrf;exact hrf.elim
 | some w'=>
  rw[em]at hrf;have hh:handedIn w'=true:=by
   cases v<;>first | (obtain⟨_,z⟩:=hrf;subst z;rfl) | (cases hrf;rfl)
  obtain⟨h,g,d,t,os⟩:=s1;exact j2W I1.kIn Z n (p.inst hn) em hh ⟨v,H1,I1.tok _,hrf,q⟩
theorem zW{K:Frag}{ta:TE}{m:Str}{σ:St}{H:Hp}{Q:VK}(h:ta σ H fun x H1=>∃a C dx fs v,x = .ref a/\H1 a=some (XcF (.ref C) a (some dx))/\H1 dx=some (.xd fs)/\ExcF K C/\findIn K (.ref C) m=some none/\fs.lookup m=some v/\Q v H1):tXf K ta m σ H Q:=h
noncomputable def unk(H:Hp)(T:Addr):Hp:=fun b=>if b=T then none else H b
theorem kQ{H:Hp}{T b:Addr}(h:b≠T):unk H T b=H b:=if_neg h
theorem Ye{H:Hp}{T:Addr}:unk H T T=none:=if_pos rfl
theorem Inv.unknow{X:Cx}{pins:List (Addr×Obj)}{σ:St}{H:Hp}{s:Shared}{T:Addr}{φ:Heap->Prop}(I:Inv X pins σ H s)(hT:H T=some (.ext φ)):Inv X pins σ (unk H T) s:=by
 have non:∀b,H b=none->unk H T b=none:=fun b h=>by
  by_cases z:b=T
  ·rw[z];exact Ye
  ·rw[kQ z];exact h
 have oth:∀b u,H b=some u->(∀ψ,u≠.ext ψ)->unk H T b=some u:=fun b u h n=>by
  rw[kQ fun z=>?_]
  ·exact h
  ·rw[z,hT]at h;exact n φ (Option.some.inj h).symm
 refine⟨I.ok,I.os,I.bare,⟨I.base.keep,I.base.slot,fun b u e n hx=>non b (I.base.free b u e n hx),I.base.there,fun b xs e=>oth _ _ (I.base.tups b xs e) (fun ψ z=>by cases z),fun b u v e=>oth _ _ (I.base.frzs b u v e) (fun ψ z=>by cases z),fun b ps e=>?_⟩,I.loc,I.cell,non _ I.free,fun x c e=>non _ (I.freeC x c e),fun p hq=>?_,fun b u e=>?_,I.len⟩
 ·obtain⟨more,this⟩:=I.base.tbls b ps e;exact⟨more,oth _ _ this (fun ψ z=>by cases z)⟩
 ·obtain⟨e,n,r⟩:=I.pin p hq;exact⟨e,non _ n,r⟩
 ·have z:b≠T:=fun z=>by rw[z,Ye]at e;cases e
  rw[kQ z]at e;exact(I.hok b u e).stay (fun c v _ q=>q) (fun c q=>oth _ _ q (fun ψ z=>by cases z)) fun c ys q=>oth _ _ q (fun ψ z=>by cases z)
open PySem PySem.Spec PyProof.Rows
def tFmt(te:TE):TE:=fun σ H Q=>te σ H fun x H1=>(∃i:Int,x = .int i/\i.natAbs.log2<1920/\Q (.str (toString i)) H1)\/∃y:Str,x = .str y/\y.length<=sizeLine/\Q (.str y) H1
theorem wB{X:Cx}{e:PySem.Expr}{te:TE}{pos:Pos}(he:PE X e te):PE X (.FormattedValue e (-1) none pos) (tFmt te):=by
 intro pins s σ H Q I h;refine FormattedValue_plain (thn (he pins s σ H _ I h) fun u s1 ⟨x,H1,I1,rx,q⟩=>?_);rcases q with⟨i,rfl,hi,q⟩ | ⟨y,rfl,hy,q⟩
 ·obtain⟨t,rfl⟩:=(show∃t,u=Value.int i t from rx)
  exact formatField_int_small hi ⟨.str (toString i),H1,I1.tok _,⟨_,rfl⟩,q⟩
 ·obtain⟨t,rfl⟩:=(show∃t,u=Value.str y t from rx)
  exact formatField_str (fun t' tk=>⟨.str y,H1,I1.tok _,⟨_,rfl⟩,q⟩) hy
noncomputable abbrev TJ:=Str->TE
def PJ(X:Cx)(es:List PySem.Expr)(t:TJ):Prop:=∀(out:Str) (pins:List (Addr×Obj)) (s:Shared) (σ:St) (H:Hp) (Q:VK),Inv X pins σ H s->t out σ H Q->
 wpAny (model X.prog X.w) X.A (joinParts out (evalEach es X.env)) (fun u s1=>∃x H1,Inv X pins σ H1 s1/\RelV x u/\Q x H1) X.xe s
noncomputable def jNil:TJ:=fun out _ H Q=>out.length<=sizeLine/\Q (.str out) H
noncomputable def jCons(te:TE)(t:TJ):TJ:=fun out σ H Q=>te σ H fun x H1=>∃y:Str,x = .str y/\(out++y).length<=sizeLine/\t (out++y) σ H1 Q
theorem xx{X:Cx}:PJ X [] jNil:=fun out pins s σ H Q I h=>joinParts_nil ⟨.str out,H,I.tok _,⟨_,rfl⟩,h.2⟩ h.1
theorem QP{X:Cx}{e:PySem.Expr}{es:List PySem.Expr}{te:TE}{t:TJ}(he:PE X e te)(hr:PJ X es t)(hs:evalEach (e::es) X.env=eval e X.env::evalEach es X.env:=by rfl):PJ X (e::es) (jCons te t):=by
 intro out pins s σ H Q I h;rw[hs];refine joinParts_cons (thn (he pins s σ H _ I h) fun u s1 ⟨x,H1,I1,rx,y,ex,hl,q⟩=>?_);subst ex;obtain⟨t',rfl⟩:=(show∃t,u=Value.str y t from rx)
 exact⟨hl,hr _ pins s1 σ H1 Q I1 q⟩
def tJoin(t:TJ):TE:=fun σ H Q=>t Str.empty σ H Q
theorem wC{X:Cx}{a b:PySem.Expr}{es:List PySem.Expr}{t:TJ}{pos:Pos}(h:PJ X (a::b::es) t)(hs:evalEach (a::b::es) X.env=eval a X.env::eval b X.env::evalEach es X.env:=by rfl):PE X (.JoinedStr (a::b::es) pos) (tJoin t):=by
 intro pins s σ H Q I q;have z:=h Str.empty pins s σ H Q I q;rw[hs]at z;exact JoinedStr_many z
noncomputable def xcN(C e:Addr)(dd:Option Addr):Heap->Prop:=fun h=>∃o vs a0,h.get? e=some o/\o.cls = .ref C/\o.data = .fields vs/\vs[0]?=some (.ref a0)/\vs[1]?=some .none/\o.dict=dd
noncomputable abbrev XcN(C e:Addr)(dd:Option Addr):HO:=.ext (xcN C e dd)
theorem xcN.ok{C e:Addr}{dd:Option Addr}{P:Program}{w:World}{H:Hp}{h:Heap}(x:xcN C e dd h):ObjOk P w H h e (XcN C e dd):=
 ⟨x,let ⟨o,_,_,z,_⟩:=x;⟨o,z⟩,fun _ _ ⟨o,vs,a0,e1,r⟩ k=>⟨o,vs,a0,k o e1,r⟩⟩
section
variable{X:Cx}{pins:List (Addr×Obj)}{σ:St}{H:Hp}{s:Shared}{C e dx:Addr}{dd:Option Addr}
theorem Inv.xset{h':Heap}{t':Nat}{fs:List (Str×V)}(I:Inv X pins σ H s)(he:H e=some (XcN C e dd))(k:∀b o,b≠e->b≠dx->s.heap.get? b=some o->h'.get? b=some o)
  (hdx:s.heap.objs.size<=dx\/∃gs,H dx=some (.xd gs)) (n1:xcN C e (some dx) h') (n2:∃mA,h'.Ns1 dx mA/\∀f,RelO (fs.lookup f) (mA f)) :
  Inv X pins σ (upd (upd H e (XcN C e (some dx))) dx (.xd fs)) {s with heap:=h',toks:=t'}:=by
 have ne:∀b u,H b=some u->(∀φ,u≠.ext φ)->b≠e:=fun b u q n z=>by rw[z,he]at q;exact n _ (Option.some.inj q).symm
 have nd:∀b u,H b=some u->(∀gs,u≠.xd gs)->b≠dx:=fun b u q n z=>by
  rcases hdx with w' | ⟨gs,w'⟩
  ·rw[z,I.hok.fresh w']at q;cases q
  ·rw[z,w']at q;exact n _ (Option.some.inj q).symm
 have ned:e≠dx:=nd e _ he (fun gs z=>by cases z);have n0:∀b o,H b=none->s.heap.get? b=some o->b≠e/\b≠dx:=fun b o q z=>⟨(fun w'=>by rw[w',he]at q;cases q),fun w'=>by
  rcases hdx with w2 | ⟨gs,w2⟩
  ·rw[w']at z;exact absurd (Heap.lt_size z) (Nat.not_lt.mpr w2)
  ·rw[w',w2]at q;cases q⟩
 have oth:∀b,b≠e->b≠dx->upd (upd H e (XcN C e (some dx))) dx (.xd fs) b=H b:=fun b z1 z2=>(jh z2).trans (jh z1)
 have keep:∀b u,H b=some u->(∀φ,u≠.ext φ)->(∀gs,u≠.xd gs)->upd (upd H e (XcN C e (some dx))) dx (.xd fs) b=some u:=fun b u q z1 z2=>(oth b (ne b u q z1) (nd b u q z2)).trans q
 refine I.un ⟨fun b o q n _ _=>k b o (n0 b o n q).1 (n0 b o n q).2 q,fun b o q n _ _=>⟨o.slots,k b o (n0 b o n q).1 (n0 b o n q).2 q⟩,fun b o q n _=>(oth b (n0 b o n q).1 (n0 b o n q).2).trans n,fun b o q _=>?_,fun b xs q=>keep b _ q (fun _ z=>by cases z) (fun _ z=>by cases z),
  fun b o u q=>keep b _ q (fun _ z=>by cases z) (fun _ z=>by cases z),fun b ps q=>⟨#[],by rw[keep b _ q (fun _ z=>by cases z) (fun _ z=>by cases z)];simp⟩⟩ fun b u q=>?_
 ·by_cases z1:b=e
  ·obtain⟨o',_,_,z,_⟩:=n1;exact⟨o',by rw[z1];exact z⟩
  ·by_cases z2:b=dx
   ·obtain⟨_,⟨o',_,_,z,_⟩,_⟩:=n2;exact⟨o',by rw[z2];exact z⟩
   ·exact⟨o,k b o z1 z2 q⟩
 ·by_cases z2:b=dx
  ·subst z2;rw[jg]at q;cases q;exact n2
  ·rw[jh z2]at q;by_cases z1:b=e
   ·subst z1;rw[jg]at q;cases q;exact n1.ok
   ·rw[jh z1]at q;refine(I.hok b u q).stay (fun c v hc z=>k c v ?_ ?_ z) (fun c z=>keep c _ z (fun _ z=>by cases z) (fun _ z=>by cases z)) fun c xs z=>keep c _ z (fun _ z=>by cases z) (fun _ z=>by cases z)
    ·rcases hc with rfl | hc
     ·exact z1
     ·exact ne c _ hc (fun _ z=>by cases z)
    ·rcases hc with rfl | hc
     ·exact z2
     ·exact nd c _ hc (fun _ z=>by cases z)
end
theorem xcN.inst{C e dx:Addr}{h:Heap}{mA:Str->Option Value}(x:xcN C e (some dx) h)(hn:h.Ns1 dx mA):h.Inst e C mA:=by
 obtain⟨o,vs,a0,e1,c,f,_,_,d⟩:=x;refine⟨o,e1,c,(fun cd z=>by rw[f]at z;cases z),.inr ⟨dx,d,fun z=>?_,hn⟩⟩;obtain⟨o',es,ep,e',d',_⟩:=hn;rw[z,e1]at e';cases e';rw[f]at d';cases d'
theorem xcN.inst0{C e:Addr}{h:Heap}(x:xcN C e none h):h.Inst e C (fun _=>none):=by
 obtain⟨o,vs,a0,e1,c,f,_,_,d⟩:=x;exact⟨o,e1,c,(fun cd z=>by rw[f]at z;cases z),.inl ⟨d,fun _=>rfl⟩⟩
def sXf(K:Frag)(ta tv:TE)(m:Str):TS:=fun D σ H=>tv σ H fun y H1=>ta σ H1 fun x H2=>∃e C,x = .ref e/\ExcF K C/\findIn K (.ref C) m=some none/\
  ((H2 e=some (XcN C e none)/\∀dx,H2 dx=none->D.nx σ (upd (upd H2 e (XcN C e (some dx))) dx (.xd [(m,y)])))\/
   ∃dx fs,H2 e=some (XcN C e (some dx))/\H2 dx=some (.xd fs)/\fs.length<1000/\D.nx σ (upd (upd H2 e (XcN C e (some dx))) dx (.xd (putF m y fs))))
theorem Y3{X:Cx}{o value:PySem.Expr}{f:Str}{pos pos':Pos}{ta tv:TE}(ha:PE X o ta)(hv:PE X value tv)(hs:swapsWith value (some (.Attribute o f pos')) pos.line X.env=pure false:=by rfl):PS X (.Assign [.Attribute o f pos'] value pos) (sXf X.K ta tv f):=by
 intro pins s σ H D I h;refine plainObj_wpAny_Assign_Attribute (thn (hv pins s σ H _ I h) fun u s1 ⟨y,H1,I1,ry,q⟩=>thn (ha pins s1 σ H1 _ I1 q) fun ov s2 ⟨x,H2,I2,rx,e,C,ex,Z,hn,q2⟩=>?_) hs;subst ex;obtain rfl:ov=Value.ref e:=rx;rcases q2 with⟨he,q2⟩ | ⟨dx,fs,he,hd,hl,q2⟩
 ·obtain⟨p,_,_⟩:=(show ObjOk X.prog X.w H2 s2.heap e (XcN C e none)from I2.hok e _ he)
  obtain⟨o,vs,a0,e1,ec,ed,e0,e2,edd⟩:=id p;have I2':=I2;obtain⟨hp,g,d,t,os⟩:=s2;refine j1Z (ns:=[]) I2.kIn Z hn p.inst0 (fun h' tk' i1 i2 i3=>?_) Within.nil (by rw[length_nil,sizeLine_eq];omega);obtain⟨o1,z1,z2,z3,z4,_,z6⟩:=i3 o e1;have zd:=z6 edd;obtain⟨o',y1,y2,y3,y4⟩:=i1;rw[z1]at y1;cases y1;have hns:h'.Ns1 hp.objs.size (fun z=>if z=f then some u else none):=by
   rcases y4 with⟨w1,_⟩ | ⟨dx,w1,w2,w3⟩
   ·rw[zd]at w1;cases w1
   ·rw[zd]at w1;cases w1;exact w3
  have J:=Inv.xset (h':=h') (t':=tk') (dx:=hp.objs.size) (fs:=[(f,y)]) I2' he (fun b ob b1 _ b3=>i2 b ob b1 (fun o₀ dx w1 w2=>by rw[e1]at w1;cases w1;rw[edd]at w2;cases w2) b3) (.inl (Nat.le_refl _))
   ⟨o1,vs,a0,z1,z2.trans ec,z3.trans ed,e0,e2,zd⟩ ⟨_,hns,fun m=>?_⟩
  ·exact⟨σ,_,J,q2 _ (I2'.hok.fresh (Nat.le_refl _))⟩
  ·show RelO (List.lookup m [(f,y)]) (if m=f then some u else none);rw[lookup_cons];by_cases z:m=f
   ·rw[if_pos z,beq_iff_eq.mpr z];exact ry
   ·rw[if_neg z,beq_false_of_ne z];exact True.intro
 ·obtain⟨p,_,_⟩:=(show ObjOk X.prog X.w H2 s2.heap e (XcN C e (some dx))from I2.hok e _ he)
  obtain⟨mA,hns,hr⟩:=(show ObjOk X.prog X.w H2 s2.heap dx (.xd fs)from I2.hok dx _ hd)
  obtain⟨o,vs,a0,e1,ec,ed,e0,e2,edd⟩:=id p;have I2':=I2;have wi:Within mA (fs.map (·.1)):=fun z hz=>by
   have:=hr z;cases q:fs.lookup z with
   | none=>rw[q]at this;cases q':mA z with
    | none=>exact absurd q' hz
    | some _=>rw[q']at this;exact this.elim
   | some v=>
    exact mem_map.mpr ⟨(z,v),by
     clear this hr hz hd hl he q2
     induction fs with
     | nil=>cases q
     | cons p r ih=>
      obtain⟨p1,p2⟩:=p;rw[lookup_cons]at q;by_cases w':z=p1
      ·subst w';rw[beq_self_eq_true]at q;cases q;exact mem_cons_self
      ·rw[beq_false_of_ne w']at q;exact mem_cons_of_mem _ (ih q),rfl⟩
  obtain⟨hp,g,d,t,os⟩:=s2;refine j1Z I2.kIn Z hn (p.inst hns) (fun h' tk' i1 i2 i3=>?_) wi (by rw[length_map,sizeLine_eq];omega);obtain⟨o1,z1,z2,z3,z4,z5,_⟩:=i3 o e1;have zd:=z5 dx edd;obtain⟨o',y1,y2,y3,y4⟩:=i1;rw[z1]at y1;cases y1;have hns':h'.Ns1 dx (fun z=>if z=f then some u else mA z):=by
   rcases y4 with⟨w1,_⟩ | ⟨dx',w1,w2,w3⟩
   ·rw[zd]at w1;cases w1
   ·rw[zd]at w1;cases w1;exact w3
  have J:=Inv.xset (h':=h') (t':=tk') (dx:=dx) (fs:=putF f y fs) I2' he (fun b ob b1 b2 b3=>i2 b ob b1 (fun o₀ dx' w1 w2=>by rw[e1]at w1;cases w1;rw[edd]at w2;cases w2;exact b2) b3) (.inr ⟨_,hd⟩)
   ⟨o1,vs,a0,z1,z2.trans ec,z3.trans ed,e0,e2,zd⟩ ⟨_,hns',fun m=>?_⟩
  ·exact⟨σ,_,J,q2⟩
  ·show RelO ((putF f y fs).lookup m) (if m=f then some u else mA m);rw[zV];by_cases z:m=f
   ·rw[if_pos z,if_pos z];exact ry
   ·rw[if_neg z,if_neg z];exact hr m
def tBin(K:Frag)(t:TA):TE:=fun σ H Q=>t σ H fun vs H1=>∃e C dd u,vs=[.ref e,u]/\H1 e=some (XcN C e dd)/\ExcF K C/\subIn K (.ref C) (.type "ValueError")=some true/\Q .non H1
theorem kI{X:Cx}{x:Str}{CP:Addr}{newId initId:String}{bmB:List Value}{pl:Sem Bool}{p apos pos:Pos}{e:PySem.Expr}{es:List PySem.Expr}{t:TA}(F:ExcBaseFacts "ValueError" newId initId bmB)(Z:ExcP X.K CP initId)(hg:Gl X x)(hm:X.mg x=some (.ref CP))(ha:PA X (e::es) t)
  (hdb:(x==("__debug__" : Str))=false:=by decide) (hst:starEach (e::es) X.env=(false,eval e X.env)::starEach es X.env:=by rfl) (hpl:(backTo pos (starEach es X.env)).any (·.1)=false:=by rfl)
  (ht:eval (.Call (.Attribute (.Name x p) "__init__" apos) (e::es) [] pos) X.env=(do
   let ov <-eval (.Name x p) X.env
   standAt apos.atName
   let (f,first) <-holding [ov] (getMethod ov "__init__" pl)
   callWith pos f first (backTo pos (starEach (e::es) X.env)) (backToKw pos (keywordEach [] X.env))):=by rfl) :
  PE X (.Call (.Attribute (.Name x p) "__init__" apos) (e::es) [] pos) (tBin X.K t):=by
 intro pins s σ H Q I h;refine PySem.W.methodCall_KW (pl:=pl) (yc I hg hm ?_ hdb) ht;refine j2J (X:=I.kIn) Z ?_;refine PyProof.Rows.callWith_builtin1 (thn (ha pos pins _ σ H _ (I.tok _) h) fun us s1 ⟨vs,H1,I1,r,e',C,dd,u,ev,he,ZF,hsub,q⟩=>?_) hst hpl;subst ev;obtain⟨v1,v2,rfl,r1,r2⟩:=vals2 r;obtain rfl:v1=Value.ref e':=r1;obtain⟨p,_,_⟩:=(show ObjOk X.prog X.w H1 s1.heap e' (XcN C e' dd)from I1.hok e' _ he)
 obtain⟨o,vs,a0,e1,ec,ed,e0,e2,edd⟩:=id p;have I1':=I1;obtain⟨hp,g,d,t,os⟩:=s1;refine j1Q F I1.kIn ZF hsub e1 ec ed e0 fun h' t' k nt hx=>?_
 have J:=I1'.write (x:=e') (e:=e') (o:=XcN C e' dd) (h':=h') (t':=t) (by rw[he];exact True.intro) (.inl rfl) (fun b ob hb q=>k b ob hb q) ⟨_,hx⟩
  (xcN.ok ⟨_,_,t',hx,ec,rfl,?_,?_,edd⟩)
 ·have eH:upd H1 e' (XcN C e' dd)=H1:=by
   funext b;by_cases z:b=e'
   ·rw[z,jg,he]
   ·exact jh z
  rw[eH]at J;exact⟨.non,H1,J,rfl,q⟩
 ·have:=(Array.getElem?_eq_some_iff.mp e0).1;rw[Array.getElem?_setIfInBounds_self_of_lt this]
 ·rw[Array.getElem?_setIfInBounds_ne (by decide)];exact e2
theorem xA{K:Frag}{t:TA}{σ:St}{H:Hp}{Q:VK}(h:t σ H fun vs H1=>∃e C dd u,vs=[.ref e,u]/\H1 e=some (XcN C e dd)/\ExcF K C/\subIn K (.ref C) (.type "ValueError")=some true/\Q .non H1):tBin K t σ H Q:=h
theorem wI{K:Frag}{ta tv:TE}{m:Str}{D:Ends}{σ:St}{H:Hp} (h:tv σ H fun y H1=>ta σ H1 fun x H2=>∃e C,x = .ref e/\ExcF K C/\findIn K (.ref C) m=some none/\
  ((H2 e=some (XcN C e none)/\∀dx,H2 dx=none->D.nx σ (upd (upd H2 e (XcN C e (some dx))) dx (.xd [(m,y)])))\/
   ∃dx fs,H2 e=some (XcN C e (some dx))/\H2 dx=some (.xd fs)/\fs.length<1000/\D.nx σ (upd (upd H2 e (XcN C e (some dx))) dx (.xd (putF m y fs))))):sXf K ta tv m D σ H:=h
theorem wH{t:TJ}{σ:St}{H:Hp}{Q:VK}(h:t Str.empty σ H Q):tJoin t σ H Q:=h
theorem wG{out:Str}{σ:St}{H:Hp}{Q:VK}(h:out.length<=sizeLine/\Q (.str out) H):jNil out σ H Q:=h
theorem zM{y:Str}{t:TJ}{out:Str}{σ:St}{H:Hp}{Q:VK}(h1:(out++y).length<=sizeLine)(h:t (out++y) σ H Q):jCons (tC (.str y)) t out σ H Q:=⟨y,rfl,h1,h⟩
theorem y6{te:TE}{t:TJ}{out:Str}{σ:St}{H:Hp}{Q:VK}(h:te σ H fun x H1=>∃y:Str,x = .str y/\(out++y).length<=sizeLine/\t (out++y) σ H1 Q):jCons te t out σ H Q:=h
theorem wF{te:TE}{σ:St}{H:Hp}{Q:VK}(h:te σ H fun x H1=>(∃i:Int,x = .int i/\i.natAbs.log2<1920/\Q (.str (toString i)) H1)\/∃y:Str,x = .str y/\y.length<=sizeLine/\Q (.str y) H1):tFmt te σ H Q:=h
noncomputable def exiIn(K:Frag)(C:Addr)(bmB:List Value)(newId:String)(f:Addr):Bool:=match K.lookup C with
 | some ⟨.type "type",_,.cls cd,sl⟩=>(match cd.mro,sl.toList with
  | .ref C'::bm,[_,_,_,_,some (.builtin n),_]=>C'==C&&n==newId && !cd.hasDel&&tailIn K bmB bm&&nsOkIn K cd.ns&&nsIn K cd.ns "__init__"== some (some (.ref f))
  | _,_=>false)
 | _=>false
theorem j2R{K:Frag}{h:Heap}{N:Addr}{mg:Str->Option Value}{n:Str}{v:Value}(X:K.In h)(G:h.Ns N mg)(e:nsIn K N n=some (some v)):mg n=some v:=by
 obtain⟨o,es,ep,ho,hd,_,hf⟩:=G;unfold nsIn at e;split at e
 ·rename_i es' ep' hl;have:=X _ _ hl;rw[ho]at this;cases this;cases hd;split at e
  ·rename_i e' he;cases e;rw[<-hf];unfold nsFind findBy;rw[<-Array.find?_toList,he];rfl
  ·split at e<;>cases e
 ·cases e
theorem x6{K:Frag}{h:Heap}{C f:Addr}{bmB:List Value}{newId:String}(X:K.In h)(q:exiIn K C bmB newId f=true) :
  ∃bm N nm qn bs hdct sn sub ab col dd k0 k1 k2 k3 k5 mN,h.get? C=some (excClassObj nm qn C N bs bm hdct sn sub ab col dd k0 k1 k2 k3 k5 newId)/\h.Ns N mN/\mN "__init__"= some (.ref f)/\OwnTail h bmB bm:=by
 unfold exiIn at q;split at q
 ·rename_i dd cd sl ho;split at q
  ·rename_i C' bm k0 k1 k2 k3 n k5 hm hs;simp only[Bool.and_eq_true,beq_iff_eq,Bool.not_eq_true']at q;obtain⟨⟨⟨⟨⟨rfl,rfl⟩,hdel⟩,ht⟩,hok⟩,hni⟩:=q;obtain⟨nm,bs,mro,ns,qn,hd,sn,sub,ab,col,del⟩:=cd;dsimp only at hm hdel hok hni;subst hm hdel;have hsl:sl = #[k0,k1,k2,k3,some (.builtin n),k5]:=by
    obtain⟨l⟩:=sl;simp only at hs;rw[hs]
   subst hsl;exact⟨bm,ns,nm,qn,bs,hd,sn,sub,ab,col,dd,k0,k1,k2,k3,k5,_,X _ _ ho,.of_isNs (PySem.W.isNs_of_in X hok),j2R X (.of_isNs (PySem.W.isNs_of_in X hok)) hni,PySem.W.tail_of_in X ht⟩
  ·cases q
 ·cases q
structure ExcM(K:Frag)(C f:Addr):Prop where
 x:exiIn K C [.type "ValueError",.type "Exception",.type "BaseException",.type "object"] "ValueError.__new__" f=true
 F:ExcF K C
 ve:subIn K (.ref C) (.type "ValueError")=some true
 fn:isFn K (.ref f)=true
 kp:keepIn K (.ref C)=true
section
variable{X:Cx}{pins:List (Addr×Obj)}{σ:St}{H:Hp}{s:Shared}{E:XK}{e C:Addr}{dd:Option Addr}
theorem XP.of_known(F:Flat X)(I:Inv X pins σ H s)(he:H e=some (XcN C e dd))(n0:X.s₀.heap.get? e=none)(hE:E (.ref C) dd (unk H e)):XP X pins σ E (.ref e) s:=by
 obtain⟨⟨o,vs,a0,e1,ec,ed,e0,e2,edd⟩,_,_⟩:=(show ObjOk X.prog X.w H s.heap e (XcN C e dd)from I.hok e _ he)
 have hin:∀env∈X.stack,∀b,env.frame=some b->b∈e::frs X.stack:=fun env he b hb=>mem_cons_of_mem _ (List.mem_filterMap.mpr ⟨env,he,hb⟩)
 refine⟨e,.ref C,unk H e,hideAll s.heap (e::frs X.stack),dd,rfl,n0,I.unknow he,Ye,⟨fun b o q=>of_hideAll _ q,hideAll_none _ (mem_cons_self ..),funFrames_hide I.stack hin,.inr (.inl ⟨o,vs,_,e1,ec,ed,e2,e0⟩)⟩,fun b ob q z hb=>hideAll_get _ q fun w'=>?_,⟨o,e1,edd⟩,hE⟩;rcases mem_cons.mp w' with w' | w'
 ·subst w';rcases z with z | ⟨o0,z⟩ | ⟨p,hp,z⟩
  ·exact z Ye
  ·rw[n0]at z;cases z
  ·have:=(I.pin p hp).2.1;rw[z,he]at this;cases this
 ·exact hb w'
end
theorem Kj{M:Model}{A:Around}{E:Value->Shared->Prop}{s:Shared}{env:Env}{K:Frag}{C f:Addr}{x:Sem Value}{Q:Flow->Shared->Prop}(Z:ExcM K C f)(hh:A.handled=none)
  (h:wpAny M A x (fun v s₁=>∃e o vs,v = .ref e/\K.In s₁.heap/\s₁.heap.get? e=some o/\o.cls = .ref C/\o.data = .fields vs/\vs[1]?=some .none/\E (.ref e) s₁) E s) :
  wpAny M A (raiseStmt env (some x) none) Q E s:=by
 unfold raiseStmt;refine wpAny_bind (wpAny_mono h (fun v s₁ h₁=>?_) fun _ _ x=>x);obtain⟨e,o,vs,rfl,X,he,hc,hd,h1,hE⟩:=h₁;obtain⟨tl,N,nm,q,bs,hdct,sn,sub,ab,col,dd,k0,k1,k2,k3,k5,mN,hC,_,_,T⟩:=x6 X Z.x;have L4:Looks M s₁.heap (isSubtype (.ref C) (.type "BaseException")) true:=looks_subIn X Z.F.i.base;obtain⟨hp,g,d,tk,os⟩:=s₁;obtain⟨oc,od,odt,osl⟩:=o;dsimp only at hc hd;subst hc hd
 repeat (first | with_reducible refine wpAny_loadPart_at he ?_ | with_reducible refine wpAny_loadPart_at hC ?_ | with_reducible refine Looks.at L4 ?_ | wp_step)
 rw[h1]
 repeat wp_step
 exact wpAny_raiseNew_none hh hE
noncomputable def rRaiseF(C:Addr)(sp:Sp)(E0:XK)(t:TA):TRS:=fun σ H E=>t σ H fun vs H1=>∀e,H1 e=none->sp (.ref e::vs) (upd H1 e (XcN C e none)) (fun v H2=>v = .non/\∃dx,H2 e=some (XcN C e (some dx))/\E σ (.ref C) (some dx) (unk H2 e)) E0
theorem Yy{X:Cx}{CX:CXT}{x:Str}{C f:Addr}{fd:FuncData}{ps:List Str}{k:Nat}{sp:Sp}{E0:XK}{np cpos pos:Pos}{initId:String}{e:PySem.Expr}{es:List PySem.Expr}{t:TA}(FB:ExcBaseFacts "ValueError" "ValueError.__new__" initId [.type "ValueError",.type "Exception",.type "BaseException",.type "object"])(fl:Flat X)(Z:ExcM X.K C f)(hg:Gl X x)(hm:X.mg x=some (.ref C))
  (F:FnOk X.prog X.w X.K X.mg X.base CX k f fd ps sp) (hr:Room (k+1) X.A) (hb:Binds X.K fd ps []) (hp:Passes CX X.nox E0) (ha:PA X.nox (e::es) t)
  (hps:ps.length<=1000:=by decide) (hdb:(x==("__debug__" : Str))=false:=by decide) (he:starEach (e::es) X.env=(false,eval e X.env)::starEach es X.env:=by rfl) (hpl:(backTo cpos (starEach es X.env)).any (·.1)=false:=by rfl) :
  RS X (.Raise (some (.Call (.Name x np) (e::es) [] cpos)) none pos) (rRaiseF C sp E0 t):=by
 intro pins s σ H E I h;show wpAny _ _ (do standAt pos;raiseStmt X.env (some (do let v <-eval (.Call (.Name x np) (e::es) [] cpos) X.env;standAt pos;pure v)) none) _ _ _;refine wpAny_bind (wpAny_standAt (Kj Z (I.ok.hd fl.calm) (wpAny_bind (wpAny_mono ?_ (fun v s₁ h₁=>wpAny_bind (wpAny_standAt (wpAny_pure h₁))) fun _ _ x=>x))));refine wpAny_Call_Name_kw (yc I hg hm ?_ hdb);refine PySem.W.callWith_K (h₀:=X.base) I.ok.mod.kin Z.kp (wpAny_mono (ha cpos pins s σ H _ (I.wish _) h) (fun us s1 ⟨vs,H1,I1,r,q⟩=>⟨I1.unwish.kIn,?_⟩) fun _ _ z=>False.elim z) he hpl;have I1:=I1.unwish;obtain⟨tl,N,nm,qn,bs,hdct,sn,sub,ab,col,dd,k0,k1,k2,k3,k5,mN,hC,hn,hi,T⟩:=x6 I1.kIn Z.x;obtain⟨oI,hfI,hfc⟩:∃oI,s1.heap.get? f=some oI/\oI.cls = .type "function":=by
  have z:=Z.fn;unfold isFn typeIn at z;obtain⟨o,ho,hc⟩:=Option.map_eq_some_iff.mp (beq_iff_eq.mp z);exact⟨o,I1.kIn _ _ ho,hc⟩
 have hq0:=q s1.heap.objs.size (I1.hok.fresh (Nat.le_refl _));have hlen0:=F.len _ _ _ _ hq0;have hlen:us.length<=sizeLine:=by
  have z:=r.length;rw[length_cons]at hlen0;rw[sizeLine_eq];omega
 have I1':=I1;obtain⟨hp1,g1,d1,t1,os1⟩:=s1;refine kc FB T hC hn hi hfI hfc (fun h' a made=>?_) hlen;have na:H1 a=none:=by
  cases z:H1 a with
  | none=>rfl
  | some o=>obtain⟨ob,e⟩:=(I1'.hok a o z).has;rw[made.new]at e;cases e
 have hq:=q a na;obtain⟨ta,hta,hta2,_⟩:=made.there;have J:Inv X pins σ H1 ⟨h',g1,d1,t1,os1⟩:=I1'.kept (h':=h') (t':=t1) made.keeps;have n0:X.s₀.heap.get? a=none:=by
  cases z:X.s₀.heap.get? a with
  | none=>rfl
  | some o=>
   obtain⟨o',e'⟩:=I1'.base.there a o z (by rw[fl.ex];simp);rw[made.new]at e';cases e'
 have J2:Inv X pins σ (upd H1 a (XcN C a none)) ⟨h',g1,d1,t1,os1⟩:=by
  refine J.known na n0 (fun z=>?_) (fun y c e z=>?_) (fun p hp z=>?_) (xcN.ok ⟨_,_,ta,hta,rfl,rfl,rfl,rfl,rfl⟩)
  ·obtain⟨m,⟨o,es,ep,ho,hd,_⟩,_⟩:=I1'.loc;rw[<-z,made.new]at ho;cases ho
  ·obtain⟨v,o,ho,hd⟩:=I1'.cell y c e;rw[z,made.new]at ho;cases ho
  ·have:=(I1'.pin p hp).1;rw[z,made.new]at this;cases this
 have r2:Vals (V.ref a::vs) (Value.ref a::us):=.cons rfl r;have hl2:(Value.ref a::us).length=ps.length:=by
  have z:=r2.length;rw[F.len _ _ _ _ hq]at z;exact z.symm
 refine wpAny_call (codeAny_mono (F.run _ X.stack _ _ ⟨Value.ref a::us,[]⟩ (Value.ref a::us) _ _ E0 (hr.make C us []) (J2.env0.make C us []) (by have z:=hb ⟨h',g1,d1,t1,os1⟩ (Value.ref a::us) J2.kIn (by rw[append_nil];exact hl2);rw[append_nil]at z;exact z) r2 hq) fun r s' hq'=>?_);cases r with
 | error e=>exact False.elim (hp pins σ _ _ e s' (J2.wish _) hq')
 | ok fl'=>
  cases fl' with
  | ret u=>
   obtain⟨v,H',I3,rv,ev,dx,hdx,q3⟩:=J2.after hq';subst ev;refine⟨rv,?_⟩;obtain⟨⟨o,ws,a0,e1,ec,ed,e0,e2,edd⟩,_,_⟩:=(show ObjOk X.prog X.w H' s'.heap a (XcN C a (some dx))from I3.hok a _ hdx)
   exact⟨a,o,ws,rfl,I3.kIn,e1,ec,ed,e2,σ,XP.of_known fl I3 hdx n0 q3⟩
  | next=>exact False.elim hq'
  | brk=>exact False.elim hq'
  | cont=>exact False.elim hq'
theorem Yv{C:Addr}{sp:Sp}{E0:XK}{t:TA}{σ:St}{H:Hp}{E:XS}(h:t σ H fun vs H1=>∀e,H1 e=none->sp (.ref e::vs) (upd H1 e (XcN C e none)) (fun v H2=>v = .non/\∃dx,H2 e=some (XcN C e (some dx))/\E σ (.ref C) (some dx) (unk H2 e)) E0):rRaiseF C sp E0 t σ H E:=h
section
variable{X:Cx}
theorem j1z(hu:X.A.units+64<cLine):OpR X (compareOp .Eq) (fun x y H Q=>∃a kvs b,x = .ref a/\y = .ref b/\H a=some (.dK kvs)/\H b=some (.dK [])/\Q (.bl (kvs.length==0)) H):=by
 intro pins s σ H x y v u Q I rx ry h;obtain⟨a,kvs,b,rfl,rfl,ea,eb,q⟩:=h;cases rx;cases ry;obtain⟨_,ha,vs,ra,da⟩:=YM I.hok ea;obtain⟨_,hb,us,rb,db⟩:=YM I.hok eb;have e0:us=[]:=by
  have:=rb.length;exact List.eq_nil_of_length_eq_zero (by rw[<-this];rfl)
 subst e0;refine PySem.W.keq_eq (r:=true) ha hb da db (by omega) (fun z=>?_) ⟨.bl (kvs.length==0),H,I,?_,q⟩
 ·have:vs=[]:=List.eq_nil_of_length_eq_zero z;subst this;exact .nil
 ·show Value.bool _=Value.bool _;rw[ra.length,Bool.and_true];rfl
theorem YJ{y:V}:∀{xs:List V} {its:List Value},Vals xs its->xs.all flatV=true->its.countP (eqU y)=xs.countP (fun z=>eqV z y)
 | [],_,.nil,_=>rfl
 | x::xs,_,.cons (b:=u) (l₂:=us) r t,h=>by
  have h':(flatV x&&xs.all flatV)=true:=h;rw[Bool.and_eq_true]at h';rw[List.countP_cons,List.countP_cons,YJ t h'.2,kq r h'.1]
theorem X0:MtR X "list.count" (fun x vs H Q=>∃(p:Addr) (xs:List V) (y:V),x = .ref p/\vs=[y]/\SqL X.K H p xs/\flatV y=true/\xs.all flatV=true/\Q (.int (xs.countP (fun z=>eqV z y):Nat)) H):=by
 intro pins s σ H x vs v us Q I rx rv h;obtain⟨p,xs,y,rfl,rfl,hx,fy,fx,q⟩:=h;cases rx;obtain⟨u,rfl,ru⟩:=vals1 rv;obtain⟨its,r,pl,hz⟩:=I.list hx;obtain⟨⟨cls,dd,data,sl⟩,ho,hc,n,hd⟩:=id pl.isList;simp only at hc hd;subst hc hd;refine call_meets F.slot_list_count pl.isList.typeIs F.entry_list_count (F.args_list_count_2 _ _) (SeqAt.list_countAt p its.toArray n dd sl u (eqU y)) ⟨ho,fun y' hy'=>zI ru fy r fx y' (by simpa using hy'),?_⟩;rw[show its.toArray.toList=its from rfl,YJ r fx];exact⟨.int _,H,I.tok _,⟨_,rfl⟩,q⟩
end
end L2
namespace Rm
open PySem PySem.Spec PyProof.Rows L2
def XiDone(H:Hp)(e C:Addr)(fs:List (Str×V))(Q:VK):Prop:=∀(dx:Addr) (H':Hp),(∀b u,b≠e->H b=some u->H' b=some u)->H dx=none->dx≠e->H' e=some (XcN C e (some dx))->H' dx=some (.xd fs)->Q .non H'
inductive sp_xi1(C:Addr)(vs:List V)(H:Hp)(Q:VK)(xk:XK):Prop
 | mk (e:Addr) (r:Int) (_:vs=[.ref e,.int r]) (_:0<=r) (_:r<=10^18) (_:H e=some (XcN C e none)) (_:XiDone H e C [("row",.int r)] Q):sp_xi1 C vs H Q xk
inductive sp_xi2(C:Addr)(vs:List V)(H:Hp)(Q:VK)(xk:XK):Prop
 | mk (e:Addr) (r:Int) (x:Str) (_:vs=[.ref e,.int r,.str x]) (_:0<=r) (_:r<=10^18) (_:x.length<=100) (_:H e=some (XcN C e none)) (_:XiDone H e C (putF "limb" (.str x) [("row",.int r)]) Q):sp_xi2 C vs H Q xk
def XE(H:Hp)(C:Addr)(fs:List (Str×V))(E:XK):Prop:=∀(dx:Addr) (H':Hp),Same H H'->H dx=none->H' dx=some (.xd fs)->E (.ref C) (some dx) H'
theorem XE.of{H H1:Hp}{e C:Addr}{fs:List (Str×V)}{E:XK}(x:XE H C fs E)(s:Same H H1)(he:H1 e=none) :
  XiDone (upd H1 e (XcN C e none)) e C fs (fun v H2=>v = .non/\∃dx,H2 e=some (XcN C e (some dx))/\E (.ref C) (some dx) (unk H2 e)):=by
 intro dx H' k hd ne h1 h2;rw[jh ne]at hd;refine⟨rfl,dx,h1,x dx (unk H' e) (fun b u h=>?_) (none_of s hd) ((kQ ne).trans h2)⟩;have hb:=s b u h;have nb:b≠e:=jf hb he;exact(kQ nb).trans (k b u nb ((jh nb).trans hb))
theorem XE.same{H H1:Hp}{C:Addr}{fs:List (Str×V)}{E:XK}(x:XE H C fs E)(s:Same H H1):XE H1 C fs E:=fun dx H' s' hd h=>x dx H' (s.trans s') (none_of s hd) h
noncomputable def FmL:Fm->Prop
 | .hold n=>1<=n/\n<=10^18
 | .ring _ n=>1<=n/\n<=10^18
 | .rise _ _ n=>1<=n/\n<=10^18
 | .row ps=>ps≠[]
 | .side ps=>ps≠[]
 | .again k _=>1<=k/\k<=10^18
structure WfL(ls:List (Str×Int))(ps:List (Str×Fm)):Prop where
 w:WfB ls ps
 f:∀p∈ps,FmL p.2
 x:∀p∈ls,p.1.length<=100
 n:∀p∈ps,Ws.isW p.1=true
noncomputable def cntL(ps:List (Str×Fm))(M:List (List Int))(f:Fm)(k:Int):Nat:=(((inP ps f).map fun j=>M.getD j []).filter fun ks=>decide (k∈ks)).length
def SideOk(ps:List (Str×Fm))(M:List (List Int))(f:Fm):Prop:=∀qs,f = .side qs->(∀j∈inP ps f,M.getD j []≠[])/\∀k:Int,cntL ps M f k<=1
noncomputable def inL(ps:List (Str×Fm))(gs:List Int)(f:Fm):List Int:=(inP ps f).map fun j=>gs.getD j 0
structure PreL(ps:List (Str×Fm))(M:List (List Int))(gs:List Int)(k:Nat):Prop where
 gl:gs.length=k
 kl:k<=ps.length
 ok:∀(i:Nat) (p:Str×Fm),i<k->ps[i]?=some p->LenIs p.2 (inL ps gs p.2) (gs.getD i 0)/\1<=gs.getD i 0/\gs.getD i 0<=10^60/\SideOk ps M p.2
def IdleAt(ps:List (Str×Fm))(M:List (List Int))(k:Nat):Prop:=∃p qs,ps[k]?=some p/\p.2 = .side qs/\∃j∈inP ps p.2,M.getD j []=[]
def TwoAt(ls:List (Str×Int))(ps:List (Str×Fm))(M:List (List Int))(k:Nat)(x:Str):Prop:=∃(p:Str×Fm) (qs:List Str) (n:Nat) (v:Int),ps[k]?=some p/\p.2 = .side qs/\(∀j∈inP ps p.2,M.getD j []≠[])/\ls[n]?=some (x,v)/\1<cntL ps M p.2 n/\∀n':Nat,n'<n->cntL ps M p.2 n'<=1
def LongAt(ps:List (Str×Fm))(M:List (List Int))(gs:List Int)(k:Nat):Prop:=∃p g,ps[k]?=some p/\SideOk ps M p.2/\LenIs p.2 (inL ps gs p.2) g/\10^60<g
theorem LenIs.uniq{f:Fm}{gs:List Int}{a b:Int}(h1:LenIs f gs a)(h2:LenIs f gs b):a=b:=by
 cases f with
 | hold n=>exact h1.trans h2.symm
 | ring x n=>exact h1.trans h2.symm
 | rise x h n=>exact h1.trans h2.symm
 | row ps=>exact h1.trans h2.symm
 | side ps=>
  have:=h1.2 b h2.1;have:=h2.2 a h1.1;omega
 | again k x=>
  obtain⟨y,hy,rfl⟩:=h1;obtain⟨z,hz,rfl⟩:=h2;rw[hy]at hz;cases hz;rfl
theorem j1h{ls:List (Str×Int)}{ps:List (Str×Fm)}(W:WfB ls ps){i:Nat}{p:Str×Fm}(hp:ps[i]?=some p){gs hs:List Int}(h:∀j,j<i->gs.getD j 0=hs.getD j 0):inL ps gs p.2=inL ps hs p.2:=
 map_congr_left fun j hj=>h j (W.inP_lt hp hj)
theorem PreL.len{ls:List (Str×Int)}{ps:List (Str×Fm)}{M:List (List Int)}{gs:List Int}{k:Nat}(P:PreL ps M gs k)(W:WfL ls ps){i:Nat}{p:Str×Fm}(ik:i<=k)(hp:ps[i]?=some p) :
  LenPre p.2 (inL ps gs p.2)/\(∀x∈inL ps gs p.2,1<=x/\x<=10^60)/\(inL ps gs p.2).length<=8/\∀g,LenIs p.2 (inL ps gs p.2) g->1<=g/\g<=10^80:=by
 have fl:=W.f p (List.mem_of_getElem? hp);have il:∀j∈inP ps p.2,j<i:=fun j hj=>W.w.inP_lt hp hj
 have bnd:∀x∈inL ps gs p.2,1<=x/\x<=10^60:=fun x hx=>by
  obtain⟨j,hj,rfl⟩:=mem_map.mp hx;have jl:=il j hj;have kl:=P.kl;obtain⟨_,h1,h2,_⟩:=P.ok j _ (by omega) (List.getElem?_eq_getElem (by omega));exact⟨h1,h2⟩
 have l8:(inL ps gs p.2).length<=8:=by
  unfold inL inP;rw[length_map,length_map];exact(W.w.f i p hp).2
 have ln:(inL ps gs p.2).length=p.2.ns.length:=by unfold inL inP;rw[length_map,length_map]
 generalize inL ps gs p.2=ys at bnd l8 ln|-;generalize p.2=f at fl ln|-;have e80:(10:Int)^60*8<=10^80:=by decide
 have e79:(10:Int)^18<=10^80:=by decide
 cases f with
 | hold n=>exact⟨trivial,bnd,l8,fun g h=>by rw[show g=n from h];have:=fl.1;have:=fl.2;omega⟩
 | ring x n=>exact⟨trivial,bnd,l8,fun g h=>by rw[show g=n from h];have:=fl.1;have:=fl.2;omega⟩
 | rise x v n=>exact⟨trivial,bnd,l8,fun g h=>by rw[show g=n from h];have:=fl.1;have:=fl.2;omega⟩
 | row qs=>
  refine⟨trivial,bnd,l8,fun g h=>?_⟩;have h:g=ys.sum:=h;have sum:∀zs:List Int,(∀x∈zs,1<=x/\x<=10^60)->(zs.length:Int)<=zs.sum/\zs.sum<=10^60*(zs.length:Int):=fun zs=>by
   induction zs with
   | nil=>intro _;exact⟨Int.le_refl _,by simp⟩
   | cons z r ih=>
    intro hz;have h1:=ih fun x hx=>hz x (mem_cons_of_mem _ hx)
    have h2:=hz z mem_cons_self;rw[sum_cons,length_cons,Int.natCast_add,Int.mul_add];omega
  have h1:=sum ys bnd;have q1:qs≠[]:=fl;have q2:1<=ys.length:=by
   rw[ln];cases qs with
   | nil=>exact absurd rfl q1
   | cons a r=>exact Nat.le_add_left 1 _
  have q3:(10:Int)^60*(ys.length:Int)<=10^60*8:=Int.mul_le_mul_of_nonneg_left (by omega) (by decide);omega
 | side qs=>
  refine⟨fun e=>?_,bnd,l8,fun g h=>?_⟩
  ·have q1:qs≠[]:=fl;rw[e]at ln;cases qs with
   | nil=>exact q1 rfl
   | cons a r=>exact absurd ln (by show¬0=r.length+1;omega)
  ·have:=bnd g h.1;have e:(10:Int)^60<=10^80:=by decide
   omega
 | again n x=>
  have f1:=fl.1;have f2:=fl.2;cases ys with
  | nil=>exact absurd ln (by show¬0=1;omega)
  | cons y r=>
   have hy:=bnd y mem_cons_self;refine⟨⟨y,r,rfl,by omega,f2,by omega,hy.2⟩,bnd,l8,fun g h=>?_⟩;obtain⟨z,hz,rfl⟩:=h;cases hz;have h1:1*1<=n*y:=Int.mul_le_mul f1 hy.1 (by decide) (by omega);have h2:n*y<=10^18*10^60:=Int.mul_le_mul f2 hy.2 (by omega) (by decide);have e:(10:Int)^18*10^60<=10^80:=by decide
   omega
theorem PreL.snoc{ls:List (Str×Int)}{ps:List (Str×Fm)}{M:List (List Int)}{gs:List Int}{k:Nat}(P:PreL ps M gs k)(W:WfL ls ps){p:Str×Fm}(hp:ps[k]?=some p){g:Int}(hg:LenIs p.2 (inL ps gs p.2) g)(g60:g<=10^60)(so:SideOk ps M p.2):PreL ps M (gs++[g]) (k+1):=by
 have gl:=P.gl;have kl:=(List.getElem?_eq_some_iff.mp hp).1;have g1:=(P.len W (Nat.le_refl _) hp).2.2.2 g hg;refine⟨by rw[List.length_append,gl];rfl,kl,fun i q hi hq=>?_⟩;have ext:inL ps (gs++[g]) q.2=inL ps gs q.2:=j1h W.w hq fun j hj=>getD_snoc (by omega)
 rw[ext];by_cases e:i<k
 ·rw[getD_snoc (by omega)];exact P.ok i q e hq
 ·have e:i=k:=by omega
  subst e;rw[hp]at hq;cases hq;rw[<-gl,getD_last];exact⟨hg,g1.1,g60,so⟩
theorem PreL.snd{ls:List (Str×Int)}{ps:List (Str×Fm)}{M:List (List Int)}{gs:List Int}(P:PreL ps M gs ps.length)(W:WfL ls ps)(hu:∀M':List (List Int),M'.length=ps.length->MovOk ls ps M'->∀i,i<ps.length->M'.getD i []=M.getD i []):Snd ls ps gs M:=by
 refine⟨W.w,P.gl,fun i hi=>?_,hu,fun i p hp=>?_,fun i p qs hp e=>?_⟩
 ·obtain⟨_,h1,h2,_⟩:=P.ok i _ hi (List.getElem?_eq_getElem hi);omega
 ·have hi:=(List.getElem?_eq_some_iff.mp hp).1;exact⟨(P.len W (by omega) hp).1,fun g hg=>LenIs.uniq hg (P.ok i p hi hp).1⟩
 ·have hi:=(List.getElem?_eq_some_iff.mp hp).1;exact(P.ok i p hi hp).2.2.2 qs e
noncomputable def movN(ls:List (Str×Int))(ps:List (Str×Fm)):Nat->List (List Int)
 | 0=>[]
 | i+1=>movN ls ps i++[((List.range ls.length).map fun k:Nat=>(k:Int)).filter fun k=>((inP ps (ps.getD i (⟨#[]⟩,.hold 0)).2).any fun j=>decide (k∈(movN ls ps i).getD j []))||decide (k∈hd0 ls (ps.getD i (⟨#[]⟩,.hold 0)).2)]
theorem yU(ls:List (Str×Int))(ps:List (Str×Fm)):∀n,(movN ls ps n).length=n
 | 0=>rfl
 | n+1=>by unfold movN;rw[List.length_append,yU ls ps n];rfl
theorem Y1(ls:List (Str×Int))(ps:List (Str×Fm)):∀n i,i<n->(movN ls ps n).getD i []=(movN ls ps (i+1)).getD i []
 | 0,i,h=>absurd h (Nat.not_lt_zero _)
 | n+1,i,h=>by
  by_cases e:i=n
  ·rw[e]
  ·show(movN ls ps n++_).getD i []=_;rw[getD_snoc (by rw[yU];omega)];exact Y1 ls ps n i (by omega)
theorem j2m{ls:List (Str×Int)}{ps:List (Str×Fm)}(W:WfB ls ps):∃M:List (List Int),M.length=ps.length/\MovOk ls ps M:=by
 refine⟨movN ls ps ps.length,yU ls ps _,fun i p ks hp hk=>?_⟩;have hi:=(List.getElem?_eq_some_iff.mp hp).1;have e1:(movN ls ps ps.length).getD i []=ks:=by rw[getD_eq_getElem?_getD,hk];rfl
 rw[Y1 ls ps _ i hi]at e1;have e2:(movN ls ps (i+1)).getD i []=((List.range ls.length).map fun k:Nat=>(k:Int)).filter fun k=>((inP ps (ps.getD i (⟨#[]⟩,.hold 0)).2).any fun j=>decide (k∈(movN ls ps i).getD j []))||decide (k∈hd0 ls (ps.getD i (⟨#[]⟩,.hold 0)).2):=by
  have gl:∀(l:List (List Int)) (x:List Int),l.length=i->(l++[x]).getD i []=x:=fun l x e=>by rw[<-e];exact getD_last
  exact gl _ _ (yU ls ps i)
 have ep:ps.getD i (⟨#[]⟩,.hold 0)=p:=by rw[getD_eq_getElem?_getD,hp];rfl
 rw[e2,ep]at e1;have bnd:∀(n:Nat) (k:Int),∀j,k∈(movN ls ps n).getD j []->0<=k/\k<(ls.length:Int):=fun n=>by
  induction n with
  | zero=>intro k j h;simp[movN]at h
  | succ n ih=>
   intro k j h;unfold movN at h;by_cases e:j<(movN ls ps n).length
   ·rw[getD_snoc e]at h;exact ih k j h
   ·by_cases e':j=(movN ls ps n).length
    ·rw[e',getD_last]at h;obtain⟨k',hk',rfl⟩:=mem_map.mp (mem_filter.mp h).1;have:=mem_range.mp hk';omega
    ·rw[getD_eq_getElem?_getD,List.getElem?_eq_none (by rw[List.length_append];show(movN ls ps n).length+1<=j;omega)]at h;exact nomatch h
 subst e1;refine⟨List.Pairwise.filter _ (pairwise_map.mpr (List.Pairwise.imp (fun h=>by omega) List.pairwise_lt_range)),fun k=>?_⟩;rw[mem_filter,Bool.or_eq_true,any_eq_true,decide_eq_true_iff,j1o];have old:∀j,j∈inP ps p.2->(movN ls ps ps.length).getD j []=(movN ls ps i).getD j []:=fun j hj=>by
  have jl:=W.inP_lt hp hj;rw[Y1 ls ps _ j (by omega),Y1 ls ps _ j jl]
 constructor
 ·rintro⟨_,⟨j,hj,hk'⟩ | h⟩
  ·exact .inl ⟨j,hj,by rw[old j hj];exact of_decide_eq_true hk'⟩
  ·exact .inr h
 ·rintro(⟨j,hj,hk'⟩ | h)
  ·rw[old j hj]at hk';have b:=bnd i k j hk';exact⟨mem_map.mpr ⟨k.toNat,mem_range.mpr (by omega),Int.toNat_of_nonneg b.1⟩,.inl ⟨j,hj,decide_eq_true hk'⟩⟩
  ·refine⟨?_,.inr h⟩;obtain⟨x,v,n,e,rfl⟩:=h;obtain⟨j,hj⟩:=W.r i p.1 x v n (by rw[hp,<-e]);have:=wc (List.mem_of_getElem? hj);have e':(nmsOf ls).length=ls.length:=length_map _;exact mem_map.mpr ⟨ixOf (nmsOf ls) x,mem_range.mpr (by omega),rfl⟩
theorem Wu{ls:List (Str×Int)}{ps:List (Str×Fm)}(W:WfB ls ps){M M':List (List Int)}(l1:M.length=ps.length)(h1:MovOk ls ps M)(l2:M'.length=ps.length)(h2:MovOk ls ps M'):∀i,i<ps.length->M'.getD i []=M.getD i []:=by
 intro i
 induction i using Nat.strongRecOn with
 | ind i ih=>
  intro hi;have ep:ps[i]?=some ps[i]:=List.getElem?_eq_getElem hi;have g:∀N:List (List Int),N.length=ps.length->N[i]?=some (N.getD i []):=fun N l=>by rw[getD_eq_getElem?_getD,List.getElem?_eq_getElem (by omega)];rfl
  obtain⟨a1,b1⟩:=h1 i _ _ ep (g M l1);obtain⟨a2,b2⟩:=h2 i _ _ ep (g M' l2);refine j0X a2 a1 fun k=>?_
  rw[b1 k,b2 k];have e:(∃j∈inP ps ps[i].2,k∈M'.getD j [])↔∃j∈inP ps ps[i].2,k∈M.getD j []:=by
   constructor
   ·rintro⟨j,hj,h⟩;have jl:=W.inP_lt ep hj;exact⟨j,hj,by rw[<-ih j jl (by omega)];exact h⟩
   ·rintro⟨j,hj,h⟩;have jl:=W.inP_lt ep hj;exact⟨j,hj,by rw[ih j jl (by omega)];exact h⟩
  rw[e]
def Z3(cI cT:Addr):Sp:=fun vs H Q xk=>∃(r:Int) (l ll:Addr) (as las:List Addr) (M:List (List Int)) (ls:List (Str×Int)),vs=[.int r,.ref l,.ref ll]/\0<=r/\r<=1000/\H l=some (.lst (as.map V.ref))/\ListsAt H as M/\M.length<=8/\H ll=some (.lst (las.map V.ref))/\All2 (LimbAt H) las ls/\(∀p∈ls,p.1.length<=100)/\
 (((∃ks∈M,ks=[])/\XE H cI [("row",.int r)] xk)\/∃(n:Nat) (x:Str) (v:Int),(∀ks∈M,ks≠[])/\ls[n]?=some (x,v)/\1<(M.filter fun ks=>decide ((n:Int)∈ks)).length/\(∀n':Nat,n'<n->(M.filter fun ks=>decide ((n':Int)∈ks)).length<=1)/\XE H cT (putF "limb" (.str x) [("row",.int r)]) xk)
def YR(cI cT cL:Addr):Sp:=fun vs H Q xk=>∃(b pl pp:Addr) (las pas:List Addr) (ls:List (Str×Int)) (ps:List (Str×Fm)) (M:List (List Int)) (gs:List Int) (k:Nat),vs=[.ref b]/\BookAt H b pl pp las pas ls ps/\WfL ls ps/\M.length=ps.length/\MovOk ls ps M/\PreL ps M gs k/\k<ps.length/\
 ((IdleAt ps M k/\XE H cI [("row",.int k)] xk)\/(∃x,TwoAt ls ps M k x/\XE H cT (putF "limb" (.str x) [("row",.int k)]) xk)\/(LongAt ps M gs k/\XE H cL [("row",.int k)] xk))
theorem xC{M:List (List Int)}(h:∃ks∈M,ks=[]):(M.any fun ks=>decide (ks=[]))=true:=by
 obtain⟨ks,h1,h2⟩:=h;exact any_eq_true.mpr ⟨ks,h1,decide_eq_true h2⟩
noncomputable def zpK(nm:List Str)(vs:List V):List (Key×V):=(nm.zip vs).map fun p=>(Sum.inr p.1,p.2)
theorem kU{nm:List Str}{vs:List V}(h:nm.length=vs.length):(zpK nm vs).map (·.1)=nm.map Sum.inr:=by
 unfold zpK;rw[map_map];have e:((fun x:Key×V=>x.1)∘fun p:Str×V=>((Sum.inr p.1:Key),p.2))=(fun x:Str=>(Sum.inr x:Key))∘Prod.fst:=rfl;rw[e,<-map_map,List.map_fst_zip (by omega)]
theorem Xs{nm:List Str}{vs:List V}(h:nm.length=vs.length):(zpK nm vs).length=nm.length:=by
 rw[<-length_map (f:=(·.1)),kU h,length_map]
theorem Yg{nm:List Str}{vs:List V}(nd:nm.Nodup)(h:nm.length=vs.length){j:Nat}{x:Str}{v:V}(hx:nm[j]?=some x)(hv:vs[j]?=some v):valV (zpK nm vs) (Sum.inr x)=some v:=by
 refine xJ (j:=j) (by rw[kU h];exact pairwise_map.mpr (nd.imp fun h e=>h (Sum.inr.inj e))) ?_;unfold zpK;have e:(nm.zip vs)[j]?=some (x,v):=List.getElem?_zip_eq_some.mpr ⟨hx,hv⟩;rw[List.getElem?_map,e];rfl
theorem Xt{nm:List Str}{vs:List V}(h:nm.length=vs.length){x:Str}(hx:x∉nm)(v:V):putK (zpK nm vs) (Sum.inr x) v=zpK (nm++[x]) (vs++[v]):=by
 rw[WE (by rw[kU h];intro z;obtain⟨y,hy,e⟩:=mem_map.mp z;exact hx (Sum.inr.inj e▸hy))];unfold zpK;rw[List.zip_append h,map_append];rfl
noncomputable def tK(xs:List Str):List (Key×V):=xs.map fun x=>(Sum.inr x,.bl true)
theorem j0Q(xs:List Str)(y:Str):(valV (tK xs) (Sum.inr y)).isSome=decide (y∈xs):=by
 rw[<-Yf];unfold tK;rw[any_map];refine Bool.eq_iff_iff.mpr ?_;rw[any_eq_true,decide_eq_true_iff];constructor
 ·rintro⟨x,hx,e⟩;have e':(Sum.inr x:Key)=Sum.inr y:=of_decide_eq_true e;cases e';exact hx
 ·exact fun h=>⟨y,h,decide_eq_true rfl⟩
theorem j2E(xs:List Str)(x:Str):putK (tK xs) (Sum.inr x) (.bl true)=tK (if x∈xs then xs else xs++[x]):=by
 unfold putK;rw[Yf,j0Q];by_cases h:x∈xs
 ·rw[if_pos (decide_eq_true h),if_pos h];unfold tK;rw[map_map];refine map_congr_left fun y _=>?_
  show(if(Sum.inr y:Key)=Sum.inr x then((Sum.inr y:Key),V.bl true)else(Sum.inr y,.bl true))=_;split<;>rfl
 ·rw[if_neg (by simpa using h),if_neg h];unfold tK;rw[map_append];rfl
noncomputable def addT(xs ys:List Str):List Str:=ys.foldl (fun a y=>if y∈a then a else a++[y]) xs
theorem kP:∀(ys xs:List Str),mergeK (tK xs) (tK ys)=tK (addT xs ys)
 | [],_=>rfl
 | y::r,xs=>by
  show mergeK (putK (tK xs) (Sum.inr y) (.bl true)) (tK r)=tK (addT (if y∈xs then xs else xs++[y]) r);rw[j2E,kP r]
theorem KQ:∀{ys xs:List Str},xs.Nodup->(addT xs ys).Nodup/\∀y,y∈addT xs ys↔y∈xs\/y∈ys
 | [],xs,nd=>⟨nd,fun y=>⟨Or.inl,fun h=>h.elim id (fun h=>nomatch h)⟩⟩
 | z::r,xs,nd=>by
  have nd':(if z∈xs then xs else xs++[z]).Nodup:=by
   split
   ·exact nd
   ·rename_i h;exact nodup_append.mpr ⟨nd,pairwise_singleton _ _,fun a ha b hb e=>h (by rw[<-mem_singleton.mp hb,<-e];exact ha)⟩
  obtain⟨a,b⟩:=KQ (ys:=r) nd';refine⟨a,fun y=>(b y).trans ?_⟩;rw[mem_cons];split
  ·rename_i h;constructor
   ·rintro(h1 | h1)
    ·exact .inl h1
    ·exact .inr (.inr h1)
   ·rintro(h1 | rfl | h1)
    ·exact .inl h1
    ·exact .inl h
    ·exact .inr h1
  ·rw[mem_append,mem_singleton];constructor
   ·rintro((h1 | h1) | h1)
    ·exact .inl h1
    ·exact .inr (.inl h1)
    ·exact .inr (.inr h1)
   ·rintro(h1 | h1 | h1)
    ·exact .inl (.inl h1)
    ·exact .inl (.inr h1)
    ·exact .inr h1
theorem wt:∀{xs L:List Str},xs.Nodup->(∀x∈xs,x∈L)->xs.length<=L.length
 | [],_,_,_=>Nat.zero_le _
 | x::r,L,nd,h=>by
  rw[nodup_cons]at nd;have hx:=h x mem_cons_self;have ih:=wt (L:=L.erase x) nd.2 fun y hy=>(List.mem_erase_of_ne (fun(e:y=x)=>nd.1 (e▸hy))).mpr (h y (mem_cons_of_mem _ hy))
  rw[List.length_erase_of_mem hx]at ih;have:=List.length_pos_of_mem hx;rw[length_cons];omega
def NmOf(ls:List (Str×Int))(ks:List Int)(xs:List Str):Prop:=xs.Nodup/\∀y,y∈xs↔∃j:Nat,(nmsOf ls)[j]?=some y/\(j:Int)∈ks
def DsAt(H:Hp)(ls:List (Str×Int))(ds:List Addr)(Ms:List (List Int)):Prop:=All2 (fun a ks=>∃xs,H a=some (.dK (tK xs))/\NmOf ls ks xs) ds Ms
theorem DsAt.same{H H':Hp}{ls:List (Str×Int)}{ds:List Addr}{Ms:List (List Int)}(k:∀b u,H b=some (.dK u)->b∈ds->H' b=some (.dK u))(h:DsAt H ls ds Ms):DsAt H' ls ds Ms:=
 All2.monoM h fun a ha ks ⟨xs,e,n⟩=>⟨xs,k _ _ e ha,n⟩
theorem NmOf.len{ls:List (Str×Int)}{ks:List Int}{xs:List Str}(h:NmOf ls ks xs):xs.length<=ls.length:=by
 rw[<-length_map (f:=(·.1)) (as:=ls)];exact wt h.1 fun x hx=>by obtain⟨j,hj,_⟩:=(h.2 x).mp hx;exact List.mem_of_getElem? hj
theorem NmOf.nil{ls:List (Str×Int)}{ks:List Int}{xs:List Str}(h:NmOf ls ks xs)(b:∀k∈ks,0<=k/\k<(ls.length:Int)):((tK xs).length==0)=decide (ks=[]):=by
 have e:(tK xs).length=xs.length:=by unfold tK;exact length_map _
 rw[e];cases ks with
 | nil=>
  cases xs with
  | nil=>rfl
  | cons x r=>obtain⟨j,_,hj⟩:=(h.2 x).mp mem_cons_self;exact nomatch hj
 | cons k r=>
  have bk:=b k mem_cons_self;have hl:(nmsOf ls).length=ls.length:=length_map _;have hx:(nmsOf ls)[k.toNat]?=some ((nmsOf ls)[k.toNat]'(by omega)):=List.getElem?_eq_getElem (by omega);have:=(h.2 _).mpr ⟨k.toNat,hx,by rw[Int.toNat_of_nonneg bk.1];exact mem_cons_self⟩;cases xs with
  | nil=>exact nomatch this
  | cons x r=>rfl
theorem NmOf.at{ls:List (Str×Int)}{ks:List Int}{xs:List Str}(h:NmOf ls ks xs)(nd:(nmsOf ls).Nodup){n:Nat}{x:Str}(hx:(nmsOf ls)[n]?=some x):decide (x∈xs)=decide ((n:Int)∈ks):=by
 refine decide_eq_decide.mpr ((h.2 x).trans ⟨?_,fun hk=>⟨n,hx,hk⟩⟩);rintro⟨j,hj,hk⟩;have e1:=qb nd hj;have e2:=qb nd hx;rw[<-e2,e1];exact hk
inductive sp_movesX(vs:List V)(H:Hp)(Q:VK)(xk:XK):Prop
 | mk (fa d:Addr) (f:Fm) (nm:List Str) (ds:List Addr) (ls:List (Str×Int)) (Ms:List (List Int)) (ks:List Int) (_:vs=[.ref fa,.ref d]) (_:FormAt H fa f) (_:H d=some (.dK (zpK nm (ds.map V.ref)))) (_:nm.Nodup) (_:nm.length=ds.length) (_:DsAt H ls ds Ms) (_:(nmsOf ls).Nodup) (_:ls.length<=8) (_:(∀x∈f.ns,x∈nm)) (_:f.ns.length<=8) (_:(∀x v n,f = .rise x v n->x∈nmsOf ls)) (_:(∀k,k∈ks↔(∃x∈f.ns,k∈Ms.getD (ixOf nm x) [])\/∃x v n,f = .rise x v n/\k=(ixOf (nmsOf ls) x:Nat))) (_:∀(a:Addr) (H':Hp),Same H H'->(H a=none\/a∈ds)->(∃xs,H' a=some (.dK (tK xs))/\NmOf ls ks xs)->Q (.ref a) H'):sp_movesX vs H Q xk
inductive sp_longX(vs:List V)(H:Hp)(Q:VK)(xk:XK):Prop
 | mk (fa d:Addr) (f:Fm) (nm:List Str) (gs:List Int) (_:vs=[.ref fa,.ref d]) (_:FormAt H fa f) (_:H d=some (.dK (zpK nm (gs.map V.int)))) (_:nm.Nodup) (_:nm.length=gs.length) (_:(∀x∈f.ns,x∈nm)) (_:f.ns.length<=8) (_:LenPre f (f.ns.map fun x=>gs.getD (ixOf nm x) 0)) (_:∀(g:Int) (H':Hp),Same H H'->LenIs f (f.ns.map fun x=>gs.getD (ixOf nm x) 0) g->Q (.int g) H'):sp_longX vs H Q xk
def DueR(ls:List (Str×Int))(ps:List (Str×Fm))(M:List (List Int))(H':Hp)(tg:Str)(v:V)(x:Str):Prop:=
 (∃gs k,PreL ps M gs k/\k<ps.length/\v = .int (k:Nat)/\((tg = "idle"/\IdleAt ps M k)\/(tg = "two"/\TwoAt ls ps M k x)\/(tg = "long"/\LongAt ps M gs k)))\/
 ∃gs l,PreL ps M gs ps.length/\tg = "told"/\v = .ref l/\H' l=some (.lst (gs.map V.int))
inductive sp_dueX(vs:List V)(H:Hp)(Q:VK)(xk:XK):Prop
 | mk (pl pp:Addr) (las pas:List Addr) (ls:List (Str×Int)) (ps:List (Str×Fm)) (M:List (List Int)) (_:vs=[.ref pl,.ref pp]) (_:H pl=some (.lst (las.map V.ref))) (_:All2 (LimbAt H) las ls) (_:H pp=some (.lst (pas.map V.ref))) (_:All2 (PartAt H) pas ps) (_:WfL ls ps) (_:M.length=ps.length) (_:MovOk ls ps M) (_:∀(a:Addr) (H':Hp) (tg:Str) (v:V) (x:Str),Same H H'->H' a=some (.tup [.str tg,v,.str x])->DueR ls ps M H' tg v x->Q (.ref a) H'):sp_dueX vs H Q xk
inductive sp_kindX(cI cT cL:Addr)(vs:List V)(H:Hp)(Q:VK)(xk:XK):Prop
 | mk (a C:Addr) (dd:Option Addr) (w:Str) (_:vs=[.ref a]) (_:H a=some (XcF (.ref C) a dd)) (_:((C=cI/\w = "idle")\/(C=cT/\w = "two")\/(C=cL/\w = "long"))) (_:∀H',Same H H'->Q (.str w) H'):sp_kindX cI cT cL vs H Q xk
def NewL(ps:List (Str×Fm))(k:Nat)(f:Fm):Prop:=New ps k f/\FmL f
theorem j1P{ls:List (Str×Int)}{ps:List (Str×Fm)}(W:WfL ls ps){k:Nat}{p:Str×Fm}(h:ps[k]?=some p){f:Fm}(hf:NewL ps k f):WfL ls (ps.set k (p.1,f)):=by
 refine⟨j2I W.w h hf.1,fun q hq=>?_,W.x,fun q hq=>?_⟩
 ·obtain⟨i,hi⟩:=List.getElem?_of_mem hq;rcases KU h hi with⟨_,rfl⟩ | ⟨_,hi⟩
  ·exact hf.2
  ·exact W.f q (List.mem_of_getElem? hi)
 ·obtain⟨i,hi⟩:=List.getElem?_of_mem hq;rcases KU h hi with⟨_,rfl⟩ | ⟨_,hi⟩
  ·exact W.n p (List.mem_of_getElem? h)
  ·exact W.n q (List.mem_of_getElem? hi)
theorem j1N{ls:List (Str×Int)}{qs ps:List (Str×Fm)}(W1:WfL ls qs)(W2:WfL ls ps)(hd:∀x∈nmsOf qs,x∉nmsOf ps)(hl:qs.length+ps.length<=61):WfL ls (qs++ps):=by
 have en:nmsOf (qs++ps)=nmsOf qs++nmsOf ps:=map_append;have ql:(nmsOf qs).length=qs.length:=length_map _;have left:∀(j:Nat) (x:Str),(nmsOf qs)[j]?=some x->(nmsOf (qs++ps))[j]?=some x:=fun j x h=>by
  rw[en,List.getElem?_append_left (List.getElem?_eq_some_iff.mp h).1];exact h
 have right:∀(j:Nat) (x:Str),(nmsOf ps)[j]?=some x->(nmsOf (qs++ps))[qs.length+j]?=some x:=fun j x h=>by
  rw[en,List.getElem?_append_right (by omega),ql,Nat.add_sub_cancel_left];exact h
 refine⟨⟨W2.w.ln,W2.w.l8,?_,by rw[List.length_append];exact hl,fun i p hp=>?_,fun i y x h n hp=>?_⟩,fun p hp=>?_,W2.x,fun p hp=>(mem_append.mp hp).elim (W1.n p) (W2.n p)⟩
 ·rw[en];exact nodup_append.mpr ⟨W1.w.pn,W2.w.pn,fun a ha b hb e=>hd a ha (e▸hb)⟩
 ·by_cases hi:i<qs.length
  ·rw[List.getElem?_append_left hi]at hp;obtain⟨a,b⟩:=W1.w.f i p hp;exact⟨fun x hx=>by obtain⟨j,hj,e⟩:=a x hx;exact⟨j,hj,left j x e⟩,b⟩
  ·rw[List.getElem?_append_right (by omega)]at hp;obtain⟨a,b⟩:=W2.w.f _ p hp;exact⟨fun x hx=>by obtain⟨j,hj,e⟩:=a x hx;exact⟨qs.length+j,by omega,right j x e⟩,b⟩
 ·by_cases hi:i<qs.length
  ·rw[List.getElem?_append_left hi]at hp;exact W1.w.r i y x h n hp
  ·rw[List.getElem?_append_right (by omega)]at hp;exact W2.w.r _ y x h n hp
 ·rcases mem_append.mp hp with h | h
  ·exact W1.f p h
  ·exact W2.f p h
theorem Zq{ls:List (Str×Int)}{ps:List (Str×Fm)}(W:WfL ls ps){x:Str}{f:Fm}(hx:x∉nmsOf ps)(hl:ps.length<61)(hf:∀y∈f.ns,y∈nmsOf ps)(f8:f.ns.length<=8)(fl:FmL f)(nr:∀y v n,f≠.rise y v n)(xw:Ws.isW x=true):WfL ls (ps++[(x,f)]):=by
 have en:nmsOf (ps++[(x,f)])=nmsOf ps++[x]:=map_append;have pl:(nmsOf ps).length=ps.length:=length_map _;have left:∀(j:Nat) (y:Str),(nmsOf ps)[j]?=some y->(nmsOf (ps++[(x,f)]))[j]?=some y:=fun j y h=>by
  rw[en,List.getElem?_append_left (List.getElem?_eq_some_iff.mp h).1];exact h
 have last:∀(i:Nat) (p:Str×Fm),(ps++[(x,f)])[i]?=some p->¬i<ps.length->i=ps.length/\p=(x,f):=fun i p hp hi=>by
  rw[List.getElem?_append_right (by omega)]at hp;have h1:=(List.getElem?_eq_some_iff.mp hp).1;have e:i-ps.length=0:=by simpa using h1
  rw[e]at hp;exact⟨by omega,(Option.some.inj hp).symm⟩
 refine⟨⟨W.w.ln,W.w.l8,?_,by rw[List.length_append];exact hl,fun i p hp=>?_,fun i y z h n hp=>?_⟩,fun p hp=>?_,W.x,fun p hp=>(mem_append.mp hp).elim (W.n p) (fun h=>by rw[mem_singleton.mp h];exact xw)⟩
 ·rw[en];exact nodup_append.mpr ⟨W.w.pn,pairwise_singleton _ _,fun a ha b hb e=>hx (by rw[<-mem_singleton.mp hb,<-e];exact ha)⟩
 ·by_cases hi:i<ps.length
  ·rw[List.getElem?_append_left hi]at hp;obtain⟨a,b⟩:=W.w.f i p hp;exact⟨fun x hx=>by obtain⟨j,hj,e⟩:=a x hx;exact⟨j,hj,left j x e⟩,b⟩
  ·obtain⟨e,rfl⟩:=last i p hp hi;refine⟨fun y hy=>?_,f8⟩;obtain⟨j,hj⟩:=List.getElem?_of_mem (hf y hy);exact⟨j,by have:=(List.getElem?_eq_some_iff.mp hj).1;omega,left j y hj⟩
 ·by_cases hi:i<ps.length
  ·rw[List.getElem?_append_left hi]at hp;exact W.w.r i y z h n hp
  ·obtain⟨_,e⟩:=last i _ hp hi;cases e;exact absurd rfl (nr _ _ _)
 ·rcases mem_append.mp hp with h | h
  ·exact W.f p h
  ·rw[mem_singleton.mp h];exact fl
theorem j1O{ls:List (Str×Int)}{ps:List (Str×Fm)}(W:WfL ls ps):WfL ls []:=⟨⟨W.w.ln,W.w.l8,.nil,Nat.zero_le _,fun i p hp=>by simp at hp,fun i y x h n hp=>by simp at hp⟩,(fun p h=>nomatch h),W.x,(fun p h=>nomatch h)⟩
theorem Good.wfl{m:Rr}(G:Good m)(h61:m.parts.length<=61):WfL m.limbs m.parts:=by
 refine⟨G.wf h61,fun p hp=>?_,fun p hp=>?_,fun p hp=>?_⟩
 ·obtain⟨i,hi⟩:=List.getElem?_of_mem hp;obtain⟨_,o⟩:=G.ps i p hi;have f:=o.f;generalize p.2=fm at f|-;cases fm with
  | hold n=>exact⟨f.1,f.2.1⟩
  | ring x n=>exact⟨f.2.1,f.2.2.1⟩
  | rise x v n=>exact⟨f.2.2.2.1,f.2.2.2.2.1⟩
  | row ps=>
   obtain⟨is,⟨rfl,_⟩,h1,_⟩:=f;intro e;rw[<-length_map (f:=m.nm),e]at h1;exact absurd h1 (by decide)
  | side ps=>
   obtain⟨is,⟨rfl,_⟩,h1,_⟩:=f;intro e;rw[<-length_map (f:=m.nm),e]at h1;exact absurd h1 (by decide)
  | again k x=>exact⟨f.1,f.2.1⟩
 ·have h:=G.nw _ (G.lm p hp).1;unfold Ws.isW at h;rw[Bool.and_eq_true]at h;have:=(of_decide_eq_true h.1).2;omega
 ·obtain⟨i,hi⟩:=List.getElem?_of_mem hp;have il:=(List.getElem?_eq_some_iff.mp hi).1;have nl:=G.nl;have p68:=h61;rw[(G.ps i p hi).1];exact G.nw _ (getD_in (by omega))
inductive sp_other_formL(vs:List V)(H:Hp)(Q:VK)(xk:XK):Prop
 | mk (pp sp:Addr) (k:Nat) (pas:List Addr) (ps:List (Str×Fm)) (ns:List Int) (_:vs=[.ref pp,.int k,.ref sp]) (_:H pp=some (.lst (pas.map V.ref))) (_:All2 (PartAt H) pas ps) (_:0<k) (_:k<ps.length) (_:ps.length<=61) (_:H sp=some (.lst (ns.map V.int))) (_:ns.length=7) (_:Big ns) (_:∀(fb:Addr) (f:Fm) (H':Hp),Same H H'->H fb=none->FormAt H' fb f->NewL ps k f->Q (.ref fb) H'):sp_other_formL vs H Q xk
noncomputable def stD(x:Int):Nat->Int
 | 0=>x
 | i+1=>stD x i/33554432
noncomputable def stM(c:Int):Nat->Int
 | 0=>c%2147483647+48271
 | i+1=>(stM c i*stM c i+48271*stM c i+7*(0+(i:Int))+1)%2147483647
noncomputable def stF(c:Int)(n:Nat):List Int:=if 10^20<=c then(List.range n).map fun i=>stD (c-10^20) i%33554432 else(List.range n).map fun i=>stM c (i+1)/64
inductive sp_streamF(vs:List V)(H:Hp)(Q:VK)(xk:XK):Prop
 | mk (c m:Int) (_:vs=[.int c,.int m]) (_:0<=m) (_:m<=100) (_:∀(p:Addr) (ns:List Int) (H':Hp),Same H H'->H p=none->H' p=some (.lst (ns.map V.int))->(ns.length:Int)=m->(∀n∈ns,0<=n/\n<33554432)->ns=stF c m.toNat->Q (.ref p) H'):sp_streamF vs H Q xk
noncomputable def ltF(n:Int):Str:=⟨#[97+(n%26).toNat]⟩
noncomputable def baF(c:Int):Str:=Txt.join (Str.ofString "") (((stF c 9).take (Pr.cell (stF c 9) 6%7).toNat).map ltF)
noncomputable def nmC(c:Int)(j:Nat):List Nat:=nmL (Pr.cell (stF c 9) 8%3) (baF c).cps.toList (Pr.cell (stF c 9) 7%(((baF c).length:Int)+1)).toNat j
theorem Ww{way:Int}{b:List Nat}{a j k:Nat}(hj:j<74)(hk:k<74)(h:nmL way b a j=nmL way b a k):j=k:=by
 unfold nmL at h;split at h
 ·rw[List.append_assoc,List.append_assoc]at h;have h':=List.append_cancel_left h;simp only[List.cons_append,List.cons.injEq]at h';omega
 ·split at h
  ·simp only[List.cons_append,List.cons.injEq]at h;omega
  ·split at h<;>split at h<;>simp only[List.cons.injEq,reduceCtorEq,and_true,and_false,false_and]at h<;>omega
theorem j0v{way:Int}{b:List Nat}{a k:Nat}(hb:∀c∈b,97<=c/\c<=122)(hk:k<74){c:Nat}(h:c∈nmL way b a k):97<=c/\c<=122:=by
 unfold nmL at h;have t1:∀c∈[97+k/26,97+k%26],97<=c/\c<=122:=fun c hc=>by
  simp only[mem_cons,not_mem_nil,or_false]at hc;omega
 split at h
 ·rcases mem_append.mp h with h | h
  ·rcases mem_append.mp h with h | h
   ·exact hb c (mem_of_mem_take h)
   ·exact t1 c h
  ·exact hb c (List.mem_of_mem_drop h)
 ·split at h
  ·rcases mem_append.mp h with h | h
   ·exact t1 c h
   ·exact hb c (mem_of_mem_take h)
  ·split at h
   ·exact t1 c (mem_cons_of_mem _ h)
   ·exact t1 c h
theorem j1t{c:Int}{j k:Nat}(hj:j<74)(hk:k<74)(h:nmC c j=nmC c k):j=k:=Ww hj hk h
def NamC(c:Int)(ws:List Str):Prop:=∀j,j<ws.length->(ws[j]?).map (·.cps.toList)=some (nmC c j)
inductive sp_namesC(vs:List V)(H:Hp)(Q:VK)(xk:XK):Prop
 | mk (c:Int) (n:Nat) (_:vs=[.int c,.int (n:Nat)]) (_:n<=74) (_:∀(p:Addr) (ws:List Str) (H':Hp),Same H H'->H p=none->H' p=some (.lst (ws.map V.str))->ws.length=n->NamC c ws->ws.Nodup->(∀x∈ws,Ws.isW x=true)->Q (.ref p) H'):sp_namesC vs H Q xk
inductive sp_roomC(K:Frg)(vs:List V)(H:Hp)(Q:VK)(xk:XK):Prop
 | mk (a:Addr) (ns:List Int) (_:vs=[.ref a]) (_:SqL K H a (ns.map V.int)) (_:ns.length<=63) (_:∀(z:Ra) (m:Rr) (H':Hp),Same H H'->RoomAt H' z m->Good m->1<=m.parts.length->m.parts.length<=61->H z.pl=none->H z.pp=none->NamC (Pr.cell ns 1) m.names->Q (.ref z.r) H'):sp_roomC K vs H Q xk
inductive sp_partsC(K:Frg)(vs:List V)(H:Hp)(Q:VK)(xk:XK):Prop
 | mk (a:Addr) (ns:List Int) (z:Ra) (m:Rr) (_:vs=[.ref a,.ref z.r]) (_:SqL K H a (ns.map V.int)) (_:ns.length<=63) (_:RoomAt H z m) (_:1<=m.parts.length) (_:m.parts.length<=61) (_:Good m) (_:NamC (Pr.cell ns 1) m.names) (_:∀(pp:Addr) (pas:List Addr) (ps:List (Str×Fm)) (H':Hp),Same H H'->H pp=none->H' pp=some (.lst (pas.map V.ref))->All2 (PartAt H') pas ps->WfL m.limbs ps->Q (.ref pp) H'):sp_partsC K vs H Q xk
theorem Xi{c:Int}{ws vs:List Str}(h1:NamC c ws)(h2:NamC c vs){i j:Nat}{x:Str}(hi:i<74)(hj:j<74)(e1:ws[i]?=some x)(e2:vs[j]?=some x):i=j:=by
 have a:=h1 i (List.getElem?_eq_some_iff.mp e1).1;have b:=h2 j (List.getElem?_eq_some_iff.mp e2).1;rw[e1]at a;rw[e2]at b;exact j1t hi hj ((Option.some.inj a).symm.trans (Option.some.inj b))
theorem Wv{way:Int}{b:List Nat}{a n:Nat}{ws:List Str}(n74:n<=74)(hb:∀c∈b,97<=c/\c<=122)(hl:b.length<=6)(hw:ws.length=n)(h:∀j,j<n->(ws[j]?).map (·.cps.toList)=some (nmL way b a j)) :
  ws.Nodup/\∀x∈ws,Ws.isW x=true:=by
 have h':∀j (hj:j<ws.length),ws[j].cps.toList=nmL way b a j:=fun j hj=>by
  have e:=h j (by omega);rw[List.getElem?_eq_getElem hj]at e;exact Option.some.inj e
 constructor
 ·refine pairwise_iff_getElem.mpr fun i j hi hj hij e=>?_
  have e1:=h' i hi;rw[e,h' j hj]at e1;have:=Ww (by omega) (by omega) e1;omega
 ·intro x hx;obtain⟨j,hj,rfl⟩:=mem_iff_getElem.mp hx;have e:=h' j hj;refine j2a ?_ ?_ ?_<;>rw[e]
  ·exact(Xj hl).1
  ·exact(Xj hl).2
  ·exact fun c hc=>j0v hb (by omega) hc
theorem WH:∀{a b:List Str},a.map V.str=b.map V.str->a=b
 | [],[],_=>rfl
 | [],_::_,h=>by cases h
 | _::_,[],h=>by cases h
 | x::r,y::s,h=>by
  rw[map_cons,map_cons]at h;injection h with h1 h2;injection h1 with h1;rw[h1,WH h2]
theorem Yn{ws:List Str}(h:ws.length=74)(i:Nat)(hi:i<6):∃x,ws[68+i]?=some x/\atI (cutV (ws.map V.str) (some 68) none) (i:Int)=some (.str x):=by
 have e:cutV (ws.map V.str) (some 68) none=(ws.map V.str).drop 68:=by
  unfold cutV;rw[show HT.sIx (ws.map V.str).length 0 (some 68)=68 by rw[length_map,h];decide,show HT.sIx (ws.map V.str).length (ws.map V.str).length none=(ws.map V.str).length from rfl,List.take_of_length_le (by rw[length_drop];omega)]
 refine⟨_,List.getElem?_eq_getElem (by omega),?_⟩;rw[e,<-Int.zero_add (i:Int)];refine zw ?_;rw[List.getElem?_drop,List.getElem?_map,List.getElem?_eq_getElem (by omega)];rfl
structure GrAt(H0 H:Hp)(q:Addr)(gas:List Addr)(gr:List (Str×Fm)):Prop where
 k:Same H0 H
 n:H0 q=none
 l:H q=some (.lst (gas.map V.ref))
 a:All2 (PartAt H) gas gr
theorem GrAt.push{H0 H H':Hp}{q pt:Addr}{gas:List Addr}{gr:List (Str×Fm)}{p:Str×Fm}(G:GrAt H0 H q gas gr)(s:Same H H')(hp:PartAt H' pt p):GrAt H0 (upd H' q (.lst (gas.map V.ref++[.ref pt]))) q (gas++[pt]) (gr++[p]):=by
 have kt:∀c xs,H' c=some (.tup xs)->upd H' q (.lst (gas.map V.ref++[.ref pt])) c=some (.tup xs):=fun c xs h=>(jh (Zk h (s _ _ G.l) (fun z=>by cases z))).trans h
 refine⟨fun b u h=>(jh (jf h G.n)).trans (s _ _ (G.k _ _ h)),G.n,by rw[jg,map_append];rfl,All2.snoc (G.a.mono fun b x h=>PartAt.keep kt (PartAt.same s h)) (PartAt.keep kt hp)⟩
theorem j0i{ls:List (Str×Int)}{ps:List (Str×Fm)}{c k:Int}{ws:List Str}{x0 x1 x2 x3 x4 x5:Str}(W:WfL ls ps)(nm:NamC c ws)(nw:∀x∈ws,Ws.isW x=true)(l4:ws.length=74)(e0:ws[68+0]?=some x0)(e1:ws[68+1]?=some x1)(e2:ws[68+2]?=some x2)(e3:ws[68+3]?=some x3)(e4:ws[68+4]?=some x4)(e5:ws[68+5]?=some x5)(k1:1<=k)(k2:k<=10^18) :
  WfL ls ([(x0,.hold (10^18)),(x1,.again (10^18) x0)]++[(x2,.again (10^18) x1)]++[(x3,.again k x2)])/\WfL ls ([(x0,.hold (10^18)),(x1,.again (10^18) x0)]++[(x2,.again (10^18) x1)]++[(x3,.again k x2)]++[(x4,.hold 1)]++[(x5,.row [x3,x4])]):=by
 have d:∀(i j:Nat) (x y:Str),i<j->j<6->ws[68+i]?=some x->ws[68+j]?=some y->y≠x:=fun i j x y h1 h2 a b e=>by
  subst e;have:=Xi nm nm (by omega) (by omega) a b;omega
 have w:∀(i:Nat) (x:Str),ws[68+i]?=some x->Ws.isW x=true:=fun i x h=>nw x (List.mem_of_getElem? h)
 have W0:WfL ls [(x0,Fm.hold (10^18))]:=Zq (j1O W) (fun h=>nomatch h) (by decide) (fun y h=>nomatch h) (by decide) ⟨by decide,by decide⟩ (fun _ _ _ z=>by cases z) (w _ _ e0);have W1:WfL ls [(x0,.hold (10^18)),(x1,.again (10^18) x0)]:=Zq W0 (by simpa [nmsOf]using d 0 1 _ _ (by decide) (by decide) e0 e1) (by show 1<61;decide) (by intro y hy;simpa [nmsOf,Fm.ns]using hy) (by show 1<=8;decide) ⟨by decide,by decide⟩ (fun _ _ _ z=>by cases z) (w _ _ e1);have W2:=Zq (x:=x2) (f:=.again (10^18) x1) W1 (by simpa [nmsOf]using⟨d 0 2 _ _ (by decide) (by decide) e0 e2,d 1 2 _ _ (by decide) (by decide) e1 e2⟩) (by show 2<61;decide) (fun y hy=>by have e:y=x1:=(by simpa [Fm.ns]using hy);simp[nmsOf,e]) (by show 1<=8;decide) ⟨by decide,by decide⟩ (fun _ _ _ z=>by cases z) (w _ _ e2);have W3:=Zq (x:=x3) (f:=.again k x2) W2 (by simpa [nmsOf]using⟨d 0 3 _ _ (by decide) (by decide) e0 e3,d 1 3 _ _ (by decide) (by decide) e1 e3,d 2 3 _ _ (by decide) (by decide) e2 e3⟩) (by show 3<61;decide) (fun y hy=>by have e:y=x2:=(by simpa [Fm.ns]using hy);simp[nmsOf,e]) (by show 1<=8;decide) ⟨k1,k2⟩ (fun _ _ _ z=>by cases z) (w _ _ e3);have W4:=Zq (x:=x4) (f:=.hold 1) W3 (by simpa [nmsOf]using⟨d 0 4 _ _ (by decide) (by decide) e0 e4,d 1 4 _ _ (by decide) (by decide) e1 e4,d 2 4 _ _ (by decide) (by decide) e2 e4,d 3 4 _ _ (by decide) (by decide) e3 e4⟩) (by show 4<61;decide) (fun y h=>nomatch h) (by decide) ⟨by decide,by decide⟩ (fun _ _ _ z=>by cases z) (w _ _ e4);refine⟨W3,Zq (x:=x5) (f:=.row [x3,x4]) W4 (by simpa [nmsOf]using⟨d 0 5 _ _ (by decide) (by decide) e0 e5,d 1 5 _ _ (by decide) (by decide) e1 e5,d 2 5 _ _ (by decide) (by decide) e2 e5,d 3 5 _ _ (by decide) (by decide) e3 e5,d 4 5 _ _ (by decide) (by decide) e4 e5⟩) (by show 5<61;decide) (fun y hy=>?_) (by show 2<=8;decide) (fun z=>by cases z) (fun _ _ _ z=>by cases z) (w _ _ e5)⟩;have:y=x3\/y=x4:=by simpa [Fm.ns]using hy
 rcases this with e | e<;>simp[nmsOf,e]
theorem All2.appX{α:Type}{R:Addr->α->Prop}{as bs:List Addr}{xs ys:List α}(h:All2 R as xs)(k:All2 R bs ys):All2 R (as++bs) (xs++ys):=by
 have hl:=h.1;refine⟨by rw[List.length_append,List.length_append,h.1,k.1],fun i a x h1 h2=>?_⟩;by_cases hi:i<as.length
 ·rw[List.getElem?_append_left hi]at h1;rw[List.getElem?_append_left (by omega)]at h2;exact h.2 i a x h1 h2
 ·rw[List.getElem?_append_right (by omega)]at h1;rw[List.getElem?_append_right (by omega)]at h2;exact k.2 _ a x h1 (by rw[hl];exact h2)
theorem NmOf.none{ls:List (Str×Int)}{ks:List Int}(h:∀k,k∉ks):NmOf ls ks []:=⟨.nil,fun y=>⟨(fun h=>nomatch h),fun⟨j,_,hj⟩=>absurd hj (h j)⟩⟩
theorem NmOf.one{ls:List (Str×Int)}{ks:List Int}{x:Str}(nd:(nmsOf ls).Nodup)(hx:x∈nmsOf ls)(h:∀k,k∈ks↔k=(ixOf (nmsOf ls) x:Nat)):NmOf ls ks [x]:=by
 refine⟨pairwise_singleton _ _,fun y=>?_⟩;rw[mem_singleton];constructor
 ·rintro rfl;obtain⟨j,hj⟩:=List.getElem?_of_mem hx;exact⟨j,hj,(h j).mpr (by rw[qb nd hj])⟩
 ·rintro⟨j,hj,hk⟩;have e:=(h j).mp hk;obtain⟨i,hi⟩:=List.getElem?_of_mem hx;rw[qb nd hi]at e;have e:j=i:=by omega
  subst e;rw[hj]at hi;exact Option.some.inj hi
theorem NmOf.ext{ls:List (Str×Int)}{ks ks':List Int}{xs:List Str}(h:NmOf ls ks xs)(e:∀k,k∈ks'↔k∈ks):NmOf ls ks' xs:=⟨h.1,fun y=>(h.2 y).trans ⟨fun⟨j,a,b⟩=>⟨j,a,(e j).mpr b⟩,fun⟨j,a,b⟩=>⟨j,a,(e j).mp b⟩⟩⟩
theorem wW{ps:List (Str×Fm)}{M:List (List Int)}{qs:List Str}{k:Int}:cntL ps M (.side qs) k=(qs.filter fun y=>decide (k∈M.getD (ixOf (nmsOf ps) y) [])).length:=by
 unfold cntL inP;rw[List.filter_map,length_map,List.filter_map,length_map];rfl
theorem XM{xs:List Str}(nd:xs.Nodup){i j:Nat}{x:Str}(h:j<i)(hj:xs[j]?=some x):ixOf (xs.take i) x=j:=qb (nd.sublist (take_sublist _ _)) (by rw[List.getElem?_take_of_lt h];exact hj)
theorem XH{ks:List Str}:(!PyData.eqv (.list (ks.map PyData.str)) (.list []))=decide (ks≠[]):=by
 cases ks with
 | nil=>rfl
 | cons k r=>rfl
structure XkR(K:Frg)(cI cT cL:Addr)(H:Hp)(ex dx C:Addr)(fs:List (Str×V))(tg x:Str)(k:Int):Prop where
 e:H ex=some (XcF (.ref C) ex (some dx))
 d:H dx=some (.xd fs)
 F:ExcF K C
 n:PySem.W.findIn K (.ref C) "row"= some none
 r:fs.lookup ("row" : Str)=some (.int k)
 c:(C=cI/\tg = "idle")\/(C=cT/\tg = "two")\/(C=cL/\tg = "long")
 t:tg = "two"->PySem.W.findIn K (.ref C) "limb"= some none/\fs.lookup ("limb" : Str)=some (.str x)
theorem XkR.same{K:Frg}{cI cT cL:Addr}{H H':Hp}{ex dx C:Addr}{fs:List (Str×V)}{tg x:Str}{k:Int}(h:XkR K cI cT cL H ex dx C fs tg x k)(s:Same H H'):XkR K cI cT cL H' ex dx C fs tg x k:=⟨s _ _ h.e,s _ _ h.d,h.F,h.n,h.r,h.c,h.t⟩
theorem Kv:∀ns:List Int,PyData.eqv (.list (ns.map PyData.int)) (.list (ns.map PyData.int))=true
 | []=>rfl
 | n::r=>by
  show((n==n)&&PyData.eqvAll (r.map PyData.int) (r.map PyData.int))=true;have:=Kv r;rw[beq_self_eq_true,Bool.true_and];exact this
end Rm
theorem L2.fsc{N P:List PySem.Str}{sc:PySem.Scope}(a:sc.kind = .function:=by rfl)(b:sc.isCoroutine=false:=by rfl)(c:sc.isGenerator=false:=by rfl)(d:N.Nodup:=by decide +kernel)(e:N.take P.length=P:=by rfl)(f:∀x∈P,sc.names.lookup x=some .local\/sc.names.lookup x=some .cell:=by decide +kernel)(g:∀y∈sc.names,y.2≠.free:=by decide +kernel):L2.FnScope N P sc:=⟨a,b,c,d,e,f,g⟩
structure PySem.W.Fast:Prop where
  (tw5335461676650597067 tw15036954178591263813 tw4324693033957330299 tw9258966399072865216 tw17448661601212447826 tw11434672564682800740 tw14777016917934778225 tw699185174969093734 tw16059537404978421310 tw15661238013521708527 tw11990161781202664458 tw14831410105907554370 tw15178487768438762546 tw2371363501682920565 tw14127403996119382063 tw17109256302177597645 tw4579297786831479442 tw7276783518755391262 tw2110241244725134269 tw11662906326077157166 tw1785021856180723797 tw7797369261234217456 tw11032914712103417678 tw14747198830693988830 tw14113959882480408677 tw4685135923942903978 tw5403997899397831236 tw15312877538573731003 tw16370450413694262688 tw8085298076312011468 tw1755524355462164844 tw17070524076609595593 tw6711230614017200626 tw16169857285056907309 tw3411399671877047767 tw13170318958960704666 tw13517757051837902430 tw17305351933897644306 tw729092276728603613 tw10448946817863863441 tw11596191348099595166 tw7880135573015081128 tw15267384614722160887 tw1004301970991761252 tw5847879104780315695 tw15324643902911696133 tw116575753548815718 tw14759954975086289153 tw11819522651312328774 tw3134368161825529202 tw6418653262245845768 tw8142564069694214744 tw14401805277894735306 tw618805601361478832 tw10491921396405127146 tw18368673522382544961 tw7145942903414236 tw9565515267284529308 tw14448873814589953584 tw17215853526377713693 tw6229724948281647300 tw11287233405724434483 tw10290441613270095751 tw10047427792474405261 tw12198840864127198693 tw13668497806048848673 tw15372222343329809558 tw2573575454441468486 tw1658360648441652445 tw14367525606109251281 tw16757943333868358736 tw5830733942541587208 tw15341821135969376849 tw8552249732754168720 tw6925425308692866264 tw16919612565694562227 tw5127001805563104767 tw7563541216233388712 tw5440029645682066649 tw13080700595324869765 tw11700906606194697758 tw17323434149996446241 tw7048719158886191972 tw9954128307714543745 tw14146235994158953037 tw2675263272855732229 tw15349231373551574473 tw381351319347206633 tw9270488609699026942 tw5654035895910975381 tw10959686813229190052 tw11180455725431336965 tw538261010329593797 tw11993422774474608466 tw6816668648267742754 tw3722953808801630480 tw11620289292193450370 tw14487913903044937924 tw1706823082285484991 tw13755865461058733594 tw11475181344930847497 tw6184649827288284654 tw6553154180170305947 tw13180316881838093465 tw10089198528472390485 tw9932309345997587163 tw2755151986890145153 tw2735098038352661656 tw2969245706276898073 tw18125933996172299472 tw379676921058494409 tw11432808209592268071 tw6070069647707855262 tw12041024924877599374 tw1324569971782175083 tw9875988897447746545 tw3212489317978250811 tw363539621659050148 tw13593618014277720167 tw18320979157716658348 tw1962066371606054614 tw7058390120823602372 tw10896311748062973104 tw14629572010288707767 tw11811118479045930361 tw11065021880789987253 tw10594364729876938318 tw2818235082373123478 tw12518463585132388383 tw5004350341590888451 tw11915608816996889702 tw4950644301345018271 tw104164681561994288 tw14448247941045585782 tw6669393294478595507 tw968690994497818125 tw11619899405706378372 tw5569961823731023776 tw7536243718031468722 tw8826105901218040791 tw7841642172247923701 tw12406794597262575025 tw8338845321043381872 tw11941614460012892440 tw6279215207536482656 tw9867861665642280137 tw7874233579039498545 tw10712758084134325230 tw5213396406931184996 tw1902574682774014685 tw10046986257565854797 tw8695694789115153977 tw14492261431864154899 tw11355515560759366352 tw3115918637027428332 tw8077647165635949221 tw4987168968428926302 tw17126957834992388177 tw9002204571184109418 tw14038110267370151940 tw7581585978923696462 tw2183789648892393941 tw11348009179992820638 tw6658012137945486123 tw11417531895831000200 tw10286999751150321225 tw17116707526539962618 tw11975684582688687139 tw478144292623507245 tw17279947308530435260 tw8645320140575933918 tw16177387175679744466 tw10623008662184099264 tw17837341914179022343 tw13306821610557555895 tw5225996250969233589 tw16393107411343363784 tw7021968177177205942 tw12421575769453105406 tw7942887781918385766 tw1935073971530117513 tw2312284718650473273 tw2923033200856165943 tw13186701304838894666 tw10178269696489799271 tw10854587380499401769 tw2962802943710424231 tw1710265032156986950 tw1207546190082290243 tw703740313716925725 tw1836101053391151393 tw17334499885391631314 tw11342408637280608304 tw262964795157920851 tw2408407192396077074 tw13928287657894505490 tw15989363857805319847 tw11167463538421396195 tw10638950437276639280 tw12613669585427462690 tw5946115040785897854 tw22804048595622698 tw606408298093118194 tw3234878973889505659 tw3921010960935271898 tw8117005882550905881 tw3225695099005375949 tw10418695138689596376 tw9447976210261121475:True)
theorem Rm.iteE0{b:Bool}{A B:Prop}(h:B)(e:b=false:=by decide +kernel):if b=true then A else B:=Rm.iteB0 e h
theorem Rm.iteE1{b:Bool}{A B:Prop}(h:A)(e:b=true:=by decide +kernel):if b=true then A else B:=Rm.iteB1 e h
namespace K14
open PySem L2 Rm
noncomputable def top(i:Nat):Stmt:=PySem.Challenge.pw_camplay_k14_refused_books.main.body.getD i (.Pass ⟨0,0,0,0⟩)
noncomputable abbrev zt:Stmt:=(inClass (top 3) 0)
theorem Yz:FnScope ["self","row"] ["self","row"] (defScope zt):=fsc
noncomputable abbrev Qm:Stmt:=(inClass (top 4) 0)
theorem Z1:FnScope ["self","row","limb"] ["self","row","limb"] (defScope Qm):=fsc
noncomputable abbrev Qy:Stmt:=(inClass (top 5) 0)
theorem ym:FnScope ["self","row"] ["self","row"] (defScope Qy):=fsc
noncomputable abbrev ZG:Stmt:=top 16
theorem Q8:FnScope ["named","numbers","number","one"] ["named"] (defScope ZG):=fsc
noncomputable abbrev yB:Stmt:=top 17
theorem WG:FnScope ["form"] ["form"] (defScope yB):=fsc
noncomputable abbrev Y4:Stmt:=top 19
theorem Z2:FnScope ["book","numbers","found","name","form"] ["book"] (defScope Y4):=fsc
noncomputable abbrev xB:Stmt:=top 20
theorem zX:FnScope ["book","limbs","found","part","inside","form","left","other"] ["book"] (defScope xB):=fsc
noncomputable abbrev Y5:Stmt:=top 21
theorem kM:FnScope ["book","found","left"] ["book"] (defScope Y5):=fsc
noncomputable abbrev Qj:Stmt:=top 22
theorem qM:FnScope ["row","moves","limbs","number","limb"] ["row","moves","limbs"] (defScope Qj):=fsc
noncomputable abbrev Z0:Stmt:=top 23
theorem wK:FnScope ["form","inside"] ["form","inside"] (defScope Z0):=fsc
noncomputable abbrev qL:Stmt:=top 24
theorem jN:FnScope ["book","moves","found","row","inside","form","length"] ["book"] (defScope qL):=fsc
noncomputable abbrev zN:Stmt:=top 26
theorem YW:FnScope ["_law_script","_law_k"] ["_law_script","_law_k"] (defScope zN):=fsc
noncomputable abbrev Zg:Stmt:=top 27
theorem zQ:FnScope ["_law_cell","_law_turn","_law_k"] ["_law_cell","_law_turn"] (defScope Zg):=fsc
noncomputable abbrev Zf:Stmt:=top 28
theorem j5:FnScope ["_law_cell","_law_many","_law_found","_law_number_here","_law_k"] ["_law_cell","_law_many"] (defScope Zf):=fsc
noncomputable abbrev zB:Stmt:=top 29
theorem Jw:FnScope ["_law_cell","_law_many","_law_letters","_law_some","_law_base","_law_at","_law_names_here","_law_k","_law_two"] ["_law_cell","_law_many"] (defScope zB):=fsc
noncomputable abbrev Zd:Stmt:=top 30
theorem zO:FnScope ["_law_cell","_law_mixed","_law_least","_law_way","_law_power"] ["_law_cell","_law_mixed","_law_least"] (defScope Zd):=fsc
noncomputable abbrev yA:Stmt:=top 31
theorem WF:FnScope ["_law_room_here","_law_form","_law_hands","_law_long_here"] ["_law_room_here","_law_form","_law_hands","_law_long_here"] (defScope yA):=fsc
noncomputable abbrev Ze:Stmt:=top 32
theorem QQ:FnScope ["_law_room_here","_law_cell","_law_some","_law_beats","_law_limb","_law_high"] ["_law_room_here","_law_cell","_law_some"] (defScope Ze):=fsc
noncomputable abbrev ZE:Stmt:=top 33
theorem yp:FnScope ["_law_room_here","_law_number_here","_law_many"] ["_law_room_here","_law_number_here"] (defScope ZE):=fsc
noncomputable abbrev zA:Stmt:=top 34
theorem Je:FnScope ["_law_room_here","_law_some","_law_there_here","_law_hands","_law_k","_law_first","_law_step","_law_one","_law_here"] ["_law_room_here","_law_some"] (defScope zA):=fsc
noncomputable abbrev J1:Stmt:=top 35
theorem jG:FnScope ["_law_room_here","_law_cell","_law_some","_law_there_here","_law_long_here","_law_hands","_law_one","_law_names_here","_law_times"] ["_law_room_here","_law_cell","_law_some"] (defScope J1):=fsc
noncomputable abbrev ZZ:Stmt:=top 36
theorem Jg:FnScope ["_law_script","_law_first","_law_names_here","_law_limbs","_law_k","_law_at","_law_high","_law_room_here","_law_cell","_law_some"] ["_law_script"] (defScope ZZ):=fsc
noncomputable abbrev JL:Stmt:=top 37
theorem zP:FnScope ["_law_parts_here","_law_at","_law_some","_law_names_here"] ["_law_parts_here","_law_at","_law_some"] (defScope JL):=fsc
noncomputable abbrev ZD:Stmt:=top 38
theorem Jf:FnScope ["_law_script","_law_room_here","_law_parts_here","_law_some","_law_k","_law_mixed","_law_at","_law_names_here","_law_great"] ["_law_script","_law_room_here"] (defScope ZD):=fsc
noncomputable abbrev zq:Stmt:=top 39
theorem wJ:FnScope ["_law_form","_law_long_here"] ["_law_form","_law_long_here"] (defScope zq):=fsc
noncomputable abbrev ZC:Stmt:=top 40
theorem Q7:FnScope ["_law_form","_law_moves_here","_law_found","_law_name"] ["_law_form","_law_moves_here"] (defScope ZC):=fsc
noncomputable abbrev QZ:Stmt:=top 41
theorem qr:FnScope ["_law_limbs","_law_parts_here","_law_moves_here","_law_long_here","_law_k","_law_name","_law_form","_law_limb","_law_high"] ["_law_limbs","_law_parts_here"] (defScope QZ):=fsc
noncomputable abbrev ZY:Stmt:=top 42
theorem Ya:FnScope ["_law_error","_law_kinds"] ["_law_error"] (defScope ZY):=fsc
noncomputable abbrev j0N:Stmt:=top 43
theorem ZH:FnScope ["_law_script","_law_room_here","_law_parts_here","_law_due_here","_law_error","_law_found","e"] ["_law_script"] (defScope j0N):=fsc
set_option genInjectivity false in
set_option genSizeOf false in
structure Ad where
 Jm:Addr
 JH:FuncData
 jL:Addr
 j7:FuncData
 jR:Addr
 Jc:FuncData
 Qb:Addr
 Qe:FuncData
 zD:Addr
 zF:FuncData
 Zy:Addr
 Zz:FuncData
 Y8:Addr
 kj:FuncData
 Z6:Addr
 yb:FuncData
 Jq:Addr
 Js:FuncData
 Qz:Addr
 QB:FuncData
 QA:Addr
 QC:FuncData
 qd:Addr
 qe:FuncData
 Jt:Addr
 Ju:FuncData
 JY:Addr
 J0:FuncData
 q5:Addr
 Qc:FuncData
 JX:Addr
 JZ:FuncData
 QV:Addr
 QW:FuncData
 qG:Addr
 qH:FuncData
 Qa:Addr
 Qd:FuncData
 QF:Addr
 QK:FuncData
 Qp:Addr
 Qq:FuncData
 zc:Addr
 zo:FuncData
 JJ:Addr
 JK:FuncData
 QH:Addr
 QM:FuncData
 zb:Addr
 zn:FuncData
 QG:Addr
 QL:FuncData
 zC:Addr
 zE:FuncData
 za:Addr
 zm:FuncData
 xL:Addr
 wX:FuncData
 jI:Addr
 jq:Addr
 jx:Addr
 zk:Addr
 zU:Addr
 zj:Addr
 zi:Addr
 zh:Addr
 zg:Addr
 zf:Addr
 ZP:Addr
 ZO:Addr
 zT:Addr
 Qk:Addr
structure Txt(K:Frg)(mg:Str->Option Value)(t:Ad):Prop where
 YT:Fun K "__init__" "Idle.__init__" zt t.Jm t.JH
 XT:Meth K t.jI "__init__" t.Jm
 YS:Binds K t.JH ["self","row"] []
 yj:Fun K "__init__" "TwoHands.__init__" Qm t.jL t.j7
 Wp:Meth K t.jq "__init__" t.jL
 yi:Binds K t.j7 ["self","row","limb"] []
 yr:Fun K "__init__" "TooLong.__init__" Qy t.jR t.Jc
 WK:Meth K t.jx "__init__" t.jR
 yq:Binds K t.Jc ["self","row"] []
 Zu:Fun K "numbers_of" "numbers_of" ZG t.Qb t.Qe
 yS:mg "numbers_of"= some (.ref t.Qb)
 yF:Binds K t.Qe ["named"] []
 Y7:Fun K "names_in" "names_in" yB t.zD t.zF
 xg:mg "names_in"= some (.ref t.zD)
 WN:Binds K t.zF ["form"] []
 YX:Fun K "inner" "inner" Y4 t.Zy t.Zz
 wq:mg "inner"= some (.ref t.Zy)
 KO:Binds K t.Zz ["book"] []
 j07:Fun K "ends" "ends" xB t.Y8 t.kj
 j2l:mg "ends"= some (.ref t.Y8)
 j20:Binds K t.kj ["book"] []
 KP:Fun K "moved" "moved" Y5 t.Z6 t.yb
 Xg:mg "moved"= some (.ref t.Z6)
 xK:Binds K t.yb ["book"] []
 qX:Fun K "check_side" "check_side" Qj t.Jq t.Js
 zx:mg "check_side"= some (.ref t.Jq)
 zu:Binds K t.Js ["row","moves","limbs"] []
 zS:Fun K "length_of" "length_of" Z0 t.Qz t.QB
 ZU:mg "length_of"= some (.ref t.Qz)
 ZK:Binds K t.QB ["form","inside"] []
 Z4:Fun K "lengths" "lengths" qL t.QA t.QC
 KC:mg "lengths"= some (.ref t.QA)
 Kl:Binds K t.QC ["book"] []
 Jy:Fun K "_law_cell_at" "_law_cell_at" zN t.qd t.qe
 qf:mg "_law_cell_at"= some (.ref t.qd)
 qc:Binds K t.qe ["_law_script","_law_k"] []
 JU:Fun K "_law_window" "_law_window" Zg t.Jt t.Ju
 qJ:mg "_law_window"= some (.ref t.Jt)
 qE:Binds K t.Ju ["_law_cell","_law_turn"] []
 qF:Fun K "_law_stream" "_law_stream" Zf t.JY t.J0
 Qr:mg "_law_stream"= some (.ref t.JY)
 Qn:Binds K t.J0 ["_law_cell","_law_many"] []
 Zs:Fun K "_law_names" "_law_names" zB t.q5 t.Qc
 yP:mg "_law_names"= some (.ref t.q5)
 yC:Binds K t.Qc ["_law_cell","_law_many"] []
 Qo:Fun K "_law_number" "_law_number" Zd t.JX t.JZ
 Q4:mg "_law_number"= some (.ref t.JX)
 Q0:Binds K t.JZ ["_law_cell","_law_mixed","_law_least"] []
 Qw:Fun K "_law_add" "_law_add" yA t.QV t.QW
 QX:mg "_law_add"= some (.ref t.QV)
 QU:Binds K t.QW ["_law_room_here","_law_form","_law_hands","_law_long_here"] []
 Q1:Fun K "_law_simple" "_law_simple" Ze t.qG t.qH
 Zb:mg "_law_simple"= some (.ref t.qG)
 zY:Binds K t.qH ["_law_room_here","_law_cell","_law_some"] []
 Zt:Fun K "_law_there" "_law_there" ZE t.Qa t.Qd
 yR:mg "_law_there"= some (.ref t.Qa)
 yE:Binds K t.Qd ["_law_room_here","_law_number_here"] []
 yG:Fun K "_law_apart" "_law_apart" zA t.QF t.QK
 wl:mg "_law_apart"= some (.ref t.QF)
 KL:Binds K t.QK ["_law_room_here","_law_some"] []
 yo:Fun K "_law_naming" "_law_naming" J1 t.Qp t.Qq
 kZ:mg "_law_naming"= some (.ref t.Qp)
 kW:Binds K t.Qq ["_law_room_here","_law_cell","_law_some"] []
 YG:Fun K "_law_room" "_law_room" ZZ t.zc t.zo
 Wo:mg "_law_room"= some (.ref t.zc)
 wR:Binds K t.zo ["_law_script"] []
 zR:Fun K "_law_other_form" "_law_other_form" JL t.JJ t.JK
 yQ:mg "_law_other_form"= some (.ref t.JJ)
 yD:Binds K t.JK ["_law_parts_here","_law_at","_law_some"] []
 yI:Fun K "_law_parts" "_law_parts" ZD t.QH t.QM
 wo:mg "_law_parts"= some (.ref t.QH)
 KN:Binds K t.QM ["_law_script","_law_room_here"] []
 YF:Fun K "_law_long" "_law_long" zq t.zb t.zn
 Wn:mg "_law_long"= some (.ref t.zb)
 wQ:Binds K t.zn ["_law_form","_law_long_here"] []
 yH:Fun K "_law_moves" "_law_moves" ZC t.QG t.QL
 wm:mg "_law_moves"= some (.ref t.QG)
 KM:Binds K t.QL ["_law_form","_law_moves_here"] []
 Y6:Fun K "_law_due" "_law_due" QZ t.zC t.zE
 xf:mg "_law_due"= some (.ref t.zC)
 WM:Binds K t.zE ["_law_limbs","_law_parts_here"] []
 YE:Fun K "_law_kind" "_law_kind" ZY t.za t.zm
 Wm:mg "_law_kind"= some (.ref t.za)
 wP:Binds K t.zm ["_law_error"] []
 j1S:Fun K "law" "law" j0N t.xL t.wX
 j2Q:mg "law"= some (.ref t.xL)
 j30:Binds K t.wX ["_law_script"] []
 Xh:mg "Idle"= some (.ref t.jI)
 YO:mg "TwoHands"= some (.ref t.jq)
 kA:mg "TooLong"= some (.ref t.jx)
 zy:mg "PlayError"= some (.ref t.zk)
 j0t:mg "NoRow"= some (.ref t.zU)
 XY:mg "NoPins"= some (.ref t.zj)
 XX:mg "NoName"= some (.ref t.zi)
 XW:mg "NoLimb"= some (.ref t.zh)
 XV:mg "NoBook"= some (.ref t.zg)
 XU:mg "NoBeat"= some (.ref t.zf)
 j1q:mg "Long"= some (.ref t.ZP)
 j1p:mg "Done"= some (.ref t.ZO)
 j0s:mg "Broad"= some (.ref t.zT)
 ZJ:ExcP K t.zk "ValueError.__init__"
 Q9:ExcM K t.jI t.Jm
 QD:W.findIn K (.ref t.jI) "row"= some none
 JT:W.exmOne K (.ref t.jI) (.ref t.zk)=some true
 qA:W.kitOne K (.ref t.jI) (.ref t.jx)=some false
 qi:W.kitOne K (.ref t.jI) (.ref t.jq)=some false
 QS:W.kitOne K (.ref t.jI) (.ref t.jI)=some true
 JA:W.kitOne K (.ref t.jI) (.type "ValueError")=some true
 Qu:W.kitOne K (.ref t.jI) (.ref t.zU)=some false
 qW:W.kitOne K (.ref t.jI) (.ref t.zj)=some false
 qV:W.kitOne K (.ref t.jI) (.ref t.zi)=some false
 qU:W.kitOne K (.ref t.jI) (.ref t.zh)=some false
 qT:W.kitOne K (.ref t.jI) (.ref t.zg)=some false
 qS:W.kitOne K (.ref t.jI) (.ref t.zf)=some false
 QT:W.kitOne K (.ref t.jI) (.ref t.ZP)=some false
 QR:W.kitOne K (.ref t.jI) (.ref t.ZO)=some false
 Qt:W.kitOne K (.ref t.jI) (.ref t.zT)=some false
 Jj:ExcM K t.jq t.jL
 JI:W.findIn K (.ref t.jq) "row"= some none
 Jx:W.findIn K (.ref t.jq) "limb"= some none
 Ja:W.exmOne K (.ref t.jq) (.ref t.zk)=some true
 Jp:W.kitOne K (.ref t.jq) (.ref t.jx)=some false
 Jk:W.kitOne K (.ref t.jq) (.ref t.jq)=some true
 qo:W.kitOne K (.ref t.jq) (.ref t.jI)=some false
 j6:W.kitOne K (.ref t.jq) (.type "ValueError")=some true
 JS:W.kitOne K (.ref t.jq) (.ref t.zU)=some false
 JG:W.kitOne K (.ref t.jq) (.ref t.zj)=some false
 JF:W.kitOne K (.ref t.jq) (.ref t.zi)=some false
 JE:W.kitOne K (.ref t.jq) (.ref t.zh)=some false
 JD:W.kitOne K (.ref t.jq) (.ref t.zg)=some false
 JC:W.kitOne K (.ref t.jq) (.ref t.zf)=some false
 qp:W.kitOne K (.ref t.jq) (.ref t.ZP)=some false
 qm:W.kitOne K (.ref t.jq) (.ref t.ZO)=some false
 JR:W.kitOne K (.ref t.jq) (.ref t.zT)=some false
 J3:ExcM K t.jx t.jR
 qq:W.findIn K (.ref t.jx) "row"= some none
 Jl:W.exmOne K (.ref t.jx) (.ref t.zk)=some true
 JB:W.kitOne K (.ref t.jx) (.ref t.jx)=some true
 Jo:W.kitOne K (.ref t.jx) (.ref t.jq)=some false
 qC:W.kitOne K (.ref t.jx) (.ref t.jI)=some false
 j9:W.kitOne K (.ref t.jx) (.type "ValueError")=some true
 qk:W.kitOne K (.ref t.jx) (.ref t.zU)=some false
 JQ:W.kitOne K (.ref t.jx) (.ref t.zj)=some false
 JP:W.kitOne K (.ref t.jx) (.ref t.zi)=some false
 JO:W.kitOne K (.ref t.jx) (.ref t.zh)=some false
 JN:W.kitOne K (.ref t.jx) (.ref t.zg)=some false
 JM:W.kitOne K (.ref t.jx) (.ref t.zf)=some false
 qD:W.kitOne K (.ref t.jx) (.ref t.ZP)=some false
 qB:W.kitOne K (.ref t.jx) (.ref t.ZO)=some false
 qj:W.kitOne K (.ref t.jx) (.ref t.zT)=some false
 KY:mg "ValueError"= none
 j21:mg "bool"= none
 j22:mg "dict"= none
 ze:mg "enumerate"= none
 j0a:mg "int"= none
 Jr:mg "isinstance"= none
 QI:mg "len"= none
 Yi:mg "list"= none
 xN:mg "max"= none
 j1U:mg "min"= none
 Q2:mg "range"= none
 ka:mg "sorted"= none
 j2L:mg "str"= none
 xO:mg "sum"= none
 KZ:mg "tuple"= none
 j2M:mg "zip"= none
 K4:mg "MOST_NAMES"= some (.ref t.Qk)
 Qg:TabK K t.Qk [("row",.flat (.int 8)),("side",.flat (.int 4))]
section
variable{P:Program}{w:World}{K:Frg}{mg:Str->Option Value}{base:Heap}{t:Ad}
theorem yk(T:Txt K mg t):FnOk P w K mg base CX0 1 t.jR t.Jc ["self","row"] (sp_xi1 t.jx):=by
 refine T.yr.ok ym (fun vs H Q E h=>?_) (fun cdv A outer s H vs Q E hr h=>?_)
 ·cases h;subst_vars;rfl
 obtain⟨e,r,rfl,r0,r1,he,q⟩:=h;refine⟨_,(jd (jA (kI PySem.F.excBase_ValueError T.ZJ (by rfl) T.zy (ja (pv 0) (ja (wC (QP jn (QP (wB (pv 1)) (QP jn xx)))) jc))))
  (je (Y3 (pv 0) (pv 1)))),?_⟩
 refine jz (σ':=[some _,some _]) rfl ?_;have sz:(200:Nat)<sizeLine:=by decide
 have tl:=xG r0 r1;unfold tI at tl;have e1:(Str.empty++Str.ofString "part ").length<=60:=by decide +kernel
 have e2:(Str.ofString " is too long").length<=60:=by decide +kernel
 exists xA ?_;exists wH (zM (by omega) (y6 (wF ?_)));exists .inl ⟨r,rfl,xb r0 r1,_,rfl,by rw[Str.length_append];omega,zM (by rw[Str.length_append,Str.length_append];omega) (wG ⟨by rw[Str.length_append,Str.length_append];omega,?_⟩)⟩;exists⟨e,t.jx,none,_,rfl,he,T.J3.F,T.J3.ve,?_⟩;dsimp only;refine wI ?_;exists⟨e,t.jx,rfl,T.J3.F,T.qq,.inl ⟨he,fun dx hd=>?_⟩⟩;have ne:dx≠e:=fun z=>by rw[z,he]at hd;cases hd
 exact q dx _ (fun b u nb h=>(jh (jf h hd)).trans ((jh nb).trans h)) hd ne ((jh (Ne.symm ne)).trans jg) jg
theorem Kh(T:Txt K mg t):FnOk P w K mg base CX0 1 t.Qb t.Qe ["named"] (sp_numbers_of):=by
 refine T.Zu.ok Q8 (fun vs H Q E h=>?_) (fun cdv A outer s H vs Q E hr h=>?_)
 ·cases h;subst_vars;rfl
 obtain⟨l,as,xs,rfl,el,hl,ha,nd,h100,q⟩:=h;refine⟨_,(jd (jp (i:=1) Q8.nd rfl (.inl rfl) Zn)
  (jd (qh PassesOwn.never rfl (yX (by rfl) T.ze (ja (pv 0) jc)) (zK rfl (jK (jt (i:=2) Q8.nd rfl (.inl rfl)) (jK (jt (i:=3) Q8.nd rfl (.inl rfl)) QO)))
   (je (yY (jU hr) (pv 1) (ji jv (pv 3) jb) (pv 2) rfl)))
  (je (jB (pv 1))))),?_⟩
 refine jz (σ':=[some _,none,none,none]) rfl ?_;have sz:(200:Nat)<sizeLine:=by decide
 walk_at"g";walk_at"f d hd H1 s1 t1";exists⟨l,_,rfl,SqL.of (s1 _ _ el),?_⟩;refine kr (xs:=as.map V.ref) (fun i σ H'=>∃o2 o3:Option V,σ=[some (.ref l),some (.ref d),o2,o3]/\Same H H'/\H' d=some (.dK (numK (xs.take i)))) ⟨_,_,rfl,s1,t1⟩ ?_ ?_ ?_
 ·rintro i σ H' _ ⟨o2,o3,rfl,sm,ed⟩;exact SqL.of (sm _ _ el)
 ·rintro i v σ H' P H'' hx ⟨o2,o3,rfl,sm,ed⟩ sP tP;rw[List.getElem?_map]at hx;obtain⟨a,ea,rfl⟩:=Option.map_eq_some_iff.mp hx;have hi:=(List.getElem?_eq_some_iff.mp ea).1;have ex:xs[i]?=some xs[i]:=List.getElem?_eq_getElem (by omega);obtain⟨r,er⟩:=ha i a _ ea ex;have s2:=sm.trans sP;have tl:(xs.take i).length=i:=by rw[length_take];omega
  refine zL (SqT.of tP) ?_;exists ixTm (SqT.of (s2 _ _ er)) rfl ?_;refine⟨d,_,rfl,DPut.k (k:=Sum.inr xs[i]) (sP _ _ ed) (by rw[j0w,tl];omega),?_⟩;have hk:(Sum.inr xs[i]:Key)∉(numK (xs.take i)).map (·.1):=fun z=>by
   rw[KG]at z;obtain⟨y,hy,e⟩:=mem_map.mp z;have e':y=xs[i]:=Sum.inr.inj e;subst e';obtain⟨j,hj,e⟩:=mem_iff_getElem.mp hy;rw[List.getElem_take]at e;rw[tl]at hj;exact absurd e (pairwise_iff_getElem.mp nd j i (by omega) (by omega) hj)
  refine⟨_,_,rfl,fun b u h=>(jh (jf h hd)).trans (s2 _ _ h),?_⟩;rw[jg,WE hk,take_snoc ex,X3,tl]
 rintro σ' H' ⟨o2,o3,rfl,sm,ed⟩;rw[length_map,hl,take_length]at ed;walk_at"g";exact q d H' sm hd ed
theorem WC(T:Txt K mg t):FnOk P w K mg base CX0 1 t.zD t.zF ["form"] (sp_names_in):=by
 refine T.Y7.ok WG (fun vs H Q E h=>?_) (fun cdv A outer s H vs Q E hr h=>?_)
 ·cases h;subst_vars;rfl
 obtain⟨a,f,rfl,hF,q⟩:=h;refine⟨_,(jd (jV (jm j2q (ji jv (pv 0) jb) (Qi (v:=.ref t.Qk) (by rfl) T.K4 rfl) (by with_unfolding_all rfl))
   (je (jB (ji jv (pv 0) jb)))
   jw)
  (je (jB (j0C (jm Jh (ji jv (pv 0) jb) jn (nomark _)) (qz j2D (pv 0) (qP jb) Q6) (jM jc))))),?_⟩
 refine jz (σ':=[some _]) rfl ?_;have sz:(200:Nat)<sizeLine:=by decide
 cases f with
 | hold n=>
  have ha:H a=some (.tup _):=hF;exists ixTm (SqT.of ha) rfl ?_;exists⟨_,_,_,rfl,rfl,T.Qg,?_⟩;exists iteE0 ?_;exists ixTm (SqT.of ha) rfl ?_;exists iteE0 ?_;exists⟨Nat.zero_le _,?_⟩;walk_at"f b hb H1 s1 t1";exact q b H1 s1 t1
 | ring x n=>
  have ha:H a=some (.tup _):=hF;exists ixTm (SqT.of ha) rfl ?_;exists⟨_,_,_,rfl,rfl,T.Qg,?_⟩;exists iteE0 ?_;exists ixTm (SqT.of ha) rfl ?_;exists iteE0 ?_;exists⟨Nat.zero_le _,?_⟩;walk_at"f b hb H1 s1 t1";exact q b H1 s1 t1
 | rise x v n=>
  have ha:H a=some (.tup _):=hF;exists ixTm (SqT.of ha) rfl ?_;exists⟨_,_,_,rfl,rfl,T.Qg,?_⟩;exists iteE0 ?_;exists ixTm (SqT.of ha) rfl ?_;exists iteE0 ?_;exists⟨Nat.zero_le _,?_⟩;walk_at"f b hb H1 s1 t1";exact q b H1 s1 t1
 | row ps=>
  obtain⟨b,ha,hb⟩:=hF;exists ixTm (SqT.of ha) rfl ?_;exists⟨_,_,_,rfl,rfl,T.Qg,?_⟩;exists iteE1 ?_;exists ixTm (SqT.of ha) rfl ?_;exact q b H (Same.refl _) hb
 | side ps=>
  obtain⟨b,ha,hb⟩:=hF;exists ixTm (SqT.of ha) rfl ?_;exists⟨_,_,_,rfl,rfl,T.Qg,?_⟩;exists iteE1 ?_;exists ixTm (SqT.of ha) rfl ?_;exact q b H (Same.refl _) hb
 | again k x=>
  have ha:H a=some (.tup _):=hF;exists ixTm (SqT.of ha) rfl ?_;exists⟨_,_,_,rfl,rfl,T.Qg,?_⟩;exists iteE0 ?_;exists ixTm (SqT.of ha) rfl ?_;exists iteE1 ?_;exists⟨a,_,rfl,SqT.of ha,(by show¬(HT.sIx 3 0 (some 2)=0/\HT.sIx 3 3 none=3);decide),?_⟩;walk_at"f b hb H1 s1 t1";exact q b H1 s1 t1
theorem j0x(T:Txt K mg t)(q0:FnOk P w K mg base CX0 1 t.Qb t.Qe ["named"] (sp_numbers_of))(yu:FnOk P w K mg base CX0 1 t.zD t.zF ["form"] (sp_names_in)):FnOk P w K mg base CX0 2 t.Zy t.Zz ["book"] (sp_inner):=by
 refine T.YX.ok Z2 (fun vs H Q E h=>?_) (fun cdv A outer s H vs Q E hr h=>?_)
 ·cases h;subst_vars;rfl
 obtain⟨b,pl,pp,las,pas,ls,ps,rfl,B,W,q⟩:=h;refine⟨_,(jd (jp (i:=1) Z2.nd rfl (.inr rfl) (jr (q0.mono (by decide)) hr (by rfl) T.yS T.Zu.kp T.yF .nil pass0 (ja (ji jv (pv 0) jb) jc)))
  (jd (jp (i:=2) Z2.nd rfl (.inl rfl) (j4 jc))
  (jd (qh PassesOwn.never rfl (jQ (ji jv (pv 0) jb)) (zK rfl (jK (jt (i:=3) Z2.nd rfl (.inl rfl)) (jK (jt (i:=4) Z2.nd rfl (.inl rfl)) QO)))
   (je (jA (qO PySem.F.plainAttrs_list PySem.F.slot_list_append PySem.F.type_list_append jJ (pv 2) (ja (j3 (ow:=["other"]) (ci:=[1]) rfl (CompScope.of (defScope Y4) ["book","numbers","found","name","form"] rfl rfl (by decide +kernel)) (jZ (by decide)) (Yu (jr (yu.mono (by decide)) hr (by rfl) T.xg T.Y7.kp T.WN .nil pass0 (ja (pv 4) jc))) (fun _ _ _ _ _=>⟨(jt (i:=0) (Jb ["book","numbers","found","name","form"] rfl (by decide +kernel)) rfl (.inl rfl)),qN,(jE (jU hr) (pv 1) (pv 0))⟩)) jc)))))
  (je (jB (pv 2)))))),?_⟩
 refine jz (σ':=[some _,none,none,none,none]) rfl ?_;have sz:(200:Nat)<sizeLine:=by decide
 have p61:=W.p61;have pa:=B.pa.1;exists ixTm (SqT.of B.t) rfl ?_;exists⟨pp,pas,nmsOf ps,rfl,B.p,by rw[nmsOf,length_map];exact pa,fun i a x ea ex=>?_,W.pn,by rw[nmsOf,length_map];omega,fun d H1 s1 hd ed=>?_⟩
 ·unfold nmsOf at ex;rw[List.getElem?_map]at ex;obtain⟨p,ep,rfl⟩:=Option.map_eq_some_iff.mp ex;obtain⟨fb,hb,_⟩:=B.pa.2 i a p ea ep;exact⟨_,hb⟩
 exists⟨Nat.zero_le _,?_⟩;walk_at"f l hl H2 s2 t2";have nl:=none_of s1 hl;have s12:=s1.trans s2;exists ixTm (SqT.of (s12 _ _ B.t)) rfl ?_;refine⟨pp,rfl,⟨_,SqL.of (s12 _ _ B.p)⟩,?_⟩;refine Zi (xs:=pas.map V.ref) (fun i σ H'=>∃(as:List Addr) (o3 o4:Option V),σ=[some (.ref b),some (.ref d),some (.ref l),o3,o4]/\Same H1 H'/\H' l=some (.lst (as.map V.ref))/\(∀a∈as,H a=none/\a≠l)/\ListsAt H' as ((ps.take i).map fun p=>(inP ps p.2).map fun j:Nat=>(j:Int)))
  ⟨[],_,_,rfl,s2,t2,(fun a h=>nomatch h),.nil⟩ ?_ ?_ ?_
 ·rintro i σ H' _ ⟨as,o3,o4,rfl,sm,e1,na,la⟩;exact SqL.of ((s1.trans sm) _ _ B.p)
 ·rintro i x σ H' hx ⟨as,o3,o4,rfl,sm,e1,na,la⟩;obtain⟨a,p,rfl,hp,fb,hat,hf⟩:=B.pa.at_ref hx;have hi:=(List.getElem?_eq_some_iff.mp hp).1;have s0:=s1.trans sm;obtain⟨wn,w8⟩:=W.f i p hp;have lal:=la.1;rw[length_map,length_take]at lal;refine zL (SqT.of (s0 _ _ hat)) ?_;exists⟨.inl ⟨rfl,_,SqL.of e1⟩,?_⟩;exists⟨fb,p.2,rfl,FormAt.same s0 hf,fun c H3 s3 hc=>?_⟩;refine⟨c,rfl,⟨_,SqT.of hc⟩,?_⟩;refine ZQ (xs:=p.2.ns.map V.str) (fun j ys H'=>ys=((p.2.ns.take j).map fun x=>(ixOf (nmsOf ps) x:Int)).map V.int/\H3=H') ⟨rfl,rfl⟩ ?_ ?_ ?_
  ·rintro j ys H' _ ⟨rfl,rfl⟩;exact SqT.of hc
  ·rintro j x ys H' hx ⟨rfl,rfl⟩;rw[List.getElem?_map]at hx;obtain⟨y,ey,rfl⟩:=Option.map_eq_some_iff.mp hx;have hj:=(List.getElem?_eq_some_iff.mp ey).1;obtain⟨k,hk,ek⟩:=wn y (List.mem_of_getElem? ey);refine Ji (σ':=[none,some _]) rfl ?_;exists iteT ?_;walk_at"g";have g:DGet H3 d (.str y) (some (.int (k:Nat))):=by
    have g:=DGet.k (k:=Sum.inr y) ((sm.trans s3) _ _ ed);rw[Wx W.pn ek]at g;exact g
   refine⟨d,_,rfl,g,?_⟩;refine⟨by rw[length_map,length_map,length_take];omega,?_,rfl⟩;rw[take_snoc ey,map_append,map_append,<-qb W.pn ek];rfl
  rintro ys H' ⟨rfl,rfl⟩;rw[show(p.2.ns.map V.str).length=p.2.ns.length from length_map _,take_length];refine⟨by rw[length_map,length_map];omega,?_⟩;walk_at"f 4 t";have s34:=s3.trans s4;exists⟨l,_,_,rfl,rfl,s34 _ _ e1,by rw[length_map];omega,?_⟩;have hne:p4≠l:=(jf (s3 _ _ e1) hp4).symm;have n4:H p4=none:=none_of (s0.trans s3) hp4;refine⟨as++[p4],_,_,rfl,fun c u h=>(jh (jf h hl)).trans ((sm.trans s34) _ _ h),?_,fun c hc'=>?_,?_⟩
  ·rw[jg,map_append];rfl
  ·rcases mem_append.mp hc' with e | e
   ·exact na c e
   ·rw[mem_singleton.mp e];exact⟨n4,hne⟩
  ·rw[take_snoc hp,map_append];refine All2.snoc (All2.monoM la fun c hc' ks h=>(jh (na c hc').2).trans (s34 _ _ h)) ?_;have eq:List.map (fun j:Nat=>(j:Int)) (inP ps p.2)=p.2.ns.map fun x=>(ixOf (nmsOf ps) x:Int):=by
    unfold inP;rw[map_map];rfl
   show upd H4 l _ p4=some (.lst (List.map V.int (List.map (fun j:Nat=>(j:Int)) (inP ps p.2))));rw[jh hne,t4,eq]
 rintro σ' H3 ⟨as,o3,o4,rfl,sm,e1,na,la⟩;rw[length_map,pa,take_length]at la;walk_at"g";exact q l as H3 (s1.trans sm) nl e1 (fun a ha=>(na a ha).1) la
theorem j1y(T:Txt K mg t)(q0:FnOk P w K mg base CX0 1 t.Qb t.Qe ["named"] (sp_numbers_of))(zv:FnOk P w K mg base CX0 2 t.Zy t.Zz ["book"] (sp_inner)):FnOk P w K mg base CX0 3 t.Y8 t.kj ["book"] (sp_ends):=by
 refine T.j07.ok zX (fun vs H Q E h=>?_) (fun cdv A outer s H vs Q E hr h=>?_)
 ·cases h;subst_vars;rfl
 obtain⟨b,pl,pp,las,pas,ls,ps,rfl,B,W,q⟩:=h;refine⟨_,(jd (jp (i:=1) zX.nd rfl (.inl rfl) (jr (q0.mono (by decide)) hr (by rfl) T.yS T.Zu.kp T.yF .nil pass0 (ja (ji jv (pv 0) jb) jc)))
  (jd (jp (i:=2) zX.nd rfl (.inl rfl) (j4 jc))
  (jd (qh PassesOwn.never rfl (j2x (by rfl) T.j2M (ja (ji jv (pv 0) jb) (ja (jr (zv.mono (by decide)) hr (by rfl) T.wq T.YX.kp T.KO .nil pass0 (ja (pv 0) jc)) jc))) (zK rfl (jK (jt (i:=3) zX.nd rfl (.inl rfl)) (jK (jt (i:=4) zX.nd rfl (.inl rfl)) QO)))
   (jd (jp (i:=5) zX.nd rfl (.inl rfl) (ji jv (pv 3) jb))
   (jd (jp (i:=6) zX.nd rfl (.inl rfl) Zn)
   (jd (Qx (jm Jh (ji jv (pv 5) jb) jn (nomark _))
    (je (yY (jU hr) (pv 6) (jE (jU hr) (pv 1) (ji jv (pv 5) jb)) (ji jv (pv 5) jb) rfl))
    jw)
   (jd (qh PassesOwn.never rfl (jQ (pv 4)) (jt (i:=7) zX.nd rfl (.inl rfl))
    (je (jA (qO PySem.F.plainAttrs_dict PySem.F.slot_dict_update PySem.F.type_dict_update KE (pv 6) (ja (qg (WS rfl) (by rfl) T.j22 j19 (ja (ji jo (pv 2) (pv 7)) jc)) jc)))))
   (je (jA (qO PySem.F.plainAttrs_list PySem.F.slot_list_append PySem.F.type_list_append jJ (pv 2) (ja (ju (K5 rfl) (by rfl) T.ka Yj (ja (j2t PySem.F.plainAttrs_dict PySem.F.slot_dict_items PySem.F.type_dict_items j0u (pv 6)) jc)) jc)))))))))
  (je (jB (pv 2)))))),?_⟩
 refine jz (σ':=[some _,none,none,none,none,none,none,none]) rfl ?_;have sz:(200:Nat)<sizeLine:=by decide
 have p61:=W.p61;have l8:=W.l8;have pa:=B.pa.1;have la:=B.la.1;exists ixTm (SqT.of B.t) rfl ?_;exists⟨pl,las,nmsOf ls,rfl,B.l,by rw[nmsOf,length_map];exact la,fun i a x ea ex=>?_,W.ln,by rw[nmsOf,length_map];omega,fun d H1 s1 hd ed=>?_⟩
 ·unfold nmsOf at ex;rw[List.getElem?_map]at ex;obtain⟨p,ep,rfl⟩:=Option.map_eq_some_iff.mp ex;exact⟨_,B.la.2 i a p ea ep⟩
 exists⟨Nat.zero_le _,?_⟩;walk_at"f l hl H2 s2 t2";have nl:=none_of s1 hl;have s12:=s1.trans s2;have ndl:d≠l:=jf ed hl;exists ixTm (SqT.of (s12 _ _ B.t)) rfl ?_;exists⟨b,pl,pp,las,pas,ls,ps,rfl,B.same s12,W,fun li ias H3 s3 hli eli nia lia=>?_⟩;walk_at"g";have s13:=s12.trans s3;have lial:=lia.1;rw[length_map]at lial;have nli:li≠l:=fun z=>by rw[z,t2]at hli;cases hli
 refine⟨pp,li,_,_,rfl,SqL.of (s13 _ _ B.p),SqL.of eli,?_⟩;have npl:∀{c u},H c=some u->c≠l:=fun h=>jf h nl
 have t3:H3 l=some (.lst []):=s3 _ _ t2;refine j1g (xs:=pas.map V.ref) (ys:=ias.map V.ref) (fun i σ H'=>∃(as:List Addr) (E:List (List (Int×Int))) (o3 o4 o5 o6 o7:Option V),σ=[some (.ref b),some (.ref d),some (.ref l),o3,o4,o5,o6,o7]/\(∀c u,c≠l->H3 c=some u->H' c=some u)/\H' l=some (.lst (as.map V.ref))/\(∀a∈as,H a=none/\a≠l)/\E.length=i/\EndsAt H' as E/\EndOk ls ps E)
  (by rw[length_map,length_map];omega) ⟨[],[],_,_,_,_,_,rfl,fun c u _ h=>h,t3,(fun a h=>nomatch h),rfl,.nil,fun i p e _ h=>by simp at h⟩ ?_ ?_ ?_
 ·rintro i σ H' _ ⟨as,E,o3,o4,o5,o6,o7,rfl,sm,e1,na,lE,aE,oE⟩;exact⟨SqL.of (sm _ _ (npl B.p) (s13 _ _ B.p)),SqL.of (sm _ _ nli eli)⟩
 ·rintro i u v σ H' P H4 hu hv ⟨as,E,o3,o4,o5,o6,o7,rfl,sm,e1,na,lE,aE,oE⟩ sP tP;obtain⟨a,p,rfl,hp,fb,hat,hf⟩:=B.pa.at_ref hu;obtain⟨ia,is,rfl,his,hia⟩:=lia.at_ref hv;rw[List.getElem?_map,hp]at his;cases his;have hi:=(List.getElem?_eq_some_iff.mp hp).1;have iam:ia∈ias:=by
   rw[List.getElem?_map]at hv;obtain⟨a',ea,e'⟩:=Option.map_eq_some_iff.mp hv;injection e' with e';subst e';exact List.mem_of_getElem? ea
  have nial:ia≠l:=fun z=>by have:=nia ia iam;rw[z,t2]at this;cases this
  have k4:∀c u,c≠l->H3 c=some u->H4 c=some u:=fun c u hc h=>sP _ _ (sm _ _ hc h)
  have hat4:H4 a=_:=k4 _ _ (npl hat) (s13 _ _ hat);have hia4:H4 ia=_:=k4 _ _ nial hia;have ed4:H4 d=_:=k4 _ _ ndl (s3 _ _ (s2 _ _ ed));have e14:=sP _ _ e1;have hf4:FormAt H4 fb p.2:=by
   have h0:=FormAt.same s13 hf;generalize p.2=f at h0;have np:∀{c:Addr} {xs:List V},H3 c=some (.tup xs)->c≠l:=fun h=>Zk h t3 (fun z=>by cases z)
   cases f with
   | row ps=>obtain⟨c,h1,h2⟩:=h0;exact⟨c,k4 _ _ (np h1) h1,k4 _ _ (np h2) h2⟩
   | side ps=>obtain⟨c,h1,h2⟩:=h0;exact⟨c,k4 _ _ (np h1) h1,k4 _ _ (np h2) h2⟩
   | hold n=>exact k4 _ _ (np h0) h0
   | ring x n=>exact k4 _ _ (np h0) h0
   | rise x g n=>exact k4 _ _ (np h0) h0
   | again x n=>exact k4 _ _ (np h0) h0
  have w8:=(W.f i p hp).2;have wr:=fun x h n (e:p.2 = .rise x h n)=>W.r i p.1 x h n (by rw[hp,<-e])
  have inl:=fun j=>W.inP_lt (j:=j) hp
  have bnd:=We W (by omega) oE;have elen:∀(j:Nat) (e:List (Int×Int)),E[j]?=some e->e.length<=8:=fun j e h=>Wf W (by omega) oE h
  refine zL (SqT.of tP) ?_;exists ixTm (SqT.of hat4) rfl ?_;walk_at"g";walk_at"f dl hdl H5 s5 t5";exists⟨fun σ' H6=>σ'=[some (.ref b),some (.ref d),some (.ref l),some (.ref a),some (.ref ia),some (.ref fb),some (.ref dl),o7]/\Same H4 H6/\H6 dl=some (.dK ((kv0 ls p.2).map iiK)),?_,?_⟩
  rotate_left
  ·by_cases hr':∃x h n,p.2 = .rise x h n
   ·obtain⟨x,h,n,e⟩:=hr';rw[e]at hf4;have hf5:H5 fb=some (.tup [.str "raise",.str x,.int h,.int n]):=s5 _ _ hf4;obtain⟨j,hj⟩:=wr x h n e;exists ixTm (SqT.of hf5) rfl ?_;exists iteE1 ?_;exists ixTm (SqT.of hf5) rfl ?_;exists ixTm (SqT.of hf5) rfl ?_;have g:DGet H5 d (.str x) (some (.int (j:Nat))):=by
     have g:=DGet.k (k:=Sum.inr x) (s5 _ _ ed4);rw[Wx W.ln hj]at g;exact g
    refine⟨d,_,rfl,g,?_⟩;refine⟨dl,_,rfl,DPut.k (k:=Sum.inl (j:Int)) t5 (by show 0<sizeLine;omega),?_⟩;refine⟨rfl,fun c u h=>(jh (jf h hdl)).trans (s5 _ _ h),?_⟩;rw[jg,e];show _=some (HO.dK [iiK ((ixOf (nmsOf ls) x:Nat),h)]);rw[qb W.ln hj];rfl
   ·obtain⟨k,xs,hk,dk⟩:=j0o hf4 fun x v n e=>hr' ⟨x,v,n,e⟩
    exists ixTm (SqT.of (s5 _ _ hk)) (at0) ?_;exists iteB0 dk ?_;exists⟨rfl,s5,?_⟩;rw[j1j fun x v n e=>hr' ⟨x,v,n,e⟩];exact t5
  rintro σ' H6 ⟨rfl,s6,t6⟩;walk_at"g";have hia6:=s6 _ _ hia4;have nlist:∀{c u},H4 c=some u->c≠dl:=fun h=>jf h hdl
  refine⟨ia,rfl,⟨_,SqL.of hia6⟩,?_⟩;refine Zi (xs:=((inP ps p.2).map fun j:Nat=>(j:Int)).map V.int) (fun t σ H7=>∃(kvs:List (Int×Int)) (o7:Option V),σ=[some (.ref b),some (.ref d),some (.ref l),some (.ref a),some (.ref ia),some (.ref fb),some (.ref dl),o7]/\Same H4 H7/\H7 dl=some (.dK (kvs.map iiK))/\(kvs.map (·.1)).Nodup/\∀k v,(k,v)∈kvs↔LastIn E ((inP ps p.2).take t) k v\/(k,v)∈kv0 ls p.2)
   ⟨_,_,rfl,s6,t6,j2g _,fun k v=>⟨.inr,fun h=>h.elim (fun⟨pre,j,post,e,_⟩=>by cases pre<;>simp at e) id⟩⟩ ?_ ?_ ?_
  ·rintro t σ H7 _ ⟨kvs,o7,rfl,s7,t7,nd7,m7⟩;exact SqL.of (s7 _ _ hia4)
  ·rintro t x σ H7 hx ⟨kvs,o7,rfl,s7,t7,nd7,m7⟩;rw[List.getElem?_map,List.getElem?_map]at hx;obtain⟨jj,hjj,rfl⟩:=Option.map_eq_some_iff.mp hx;obtain⟨j,hj,rfl⟩:=Option.map_eq_some_iff.mp hjj;have jlt:=inl j (List.mem_of_getElem? hj);have e0:kv0 ls p.2=[]:=by
    rcases j2f (ps:=ps) (ls:=ls) p.2 with z | z
    ·rw[z]at hj;simp at hj
    ·exact z
   rw[e0]at m7;have hE:E[j]?=some (E.getD j []):=by rw[getD_eq_getElem?_getD,List.getElem?_eq_getElem (by omega)];rfl
   obtain⟨aj,haj,bs,hbs,prs⟩:=aE.get hE;have ndE:((E.getD j []).map (·.1)).Nodup:=((oE j _ _ (List.getElem?_eq_getElem (by omega)) hE).1).imp fun h=>Int.ne_of_lt h
   have e8:=elen j _ hE;have k8:kvs.length<=8:=by
    have z:=Zl (n:=ls.length) nd7 fun k hk=>by
     obtain⟨q',hq',rfl⟩:=mem_map.mp hk;rcases(m7 q'.1 q'.2).mp hq' with⟨pre,i',post,_,hin,_⟩ | hin
     ·exact bnd i' _ hin
     ·exact nomatch hin
    rw[length_map]at z;omega
   exists⟨.inr (.inr (.inl ⟨rfl,.inl ⟨_,t7⟩⟩)),?_⟩;exists ixLm (SqL.of (s7 _ _ e14)) (qa (i:=(j:Int)) (by omega) haj) ?_;exists⟨aj,bs,E.getD j [],rfl,s7 _ _ (sP _ _ hbs),prs.1,fun i' c q' h1 h2=>s7 _ _ (sP _ _ (prs.2 i' c q' h1 h2)),?_⟩;walk_at"f d2 hd2 H8 s8 t8";walk_at"g";rw[show([]:List (Key×V))=([]:List (Int×Int)).map iiK from rfl,yw,xo ndE]at t8;have n2:dl≠d2:=jf t7 hd2;refine⟨dl,d2,_,_,rfl,rfl,s8 _ _ t7,t8,n2,by rw[length_map,length_map];omega,?_⟩;rw[yw];obtain⟨mn,mm⟩:=KD nd7 ndE;refine⟨mergeI kvs (E.getD j []),_,rfl,fun c u h=>(jh (nlist h)).trans (s8 _ _ (s7 _ _ h)),jg,mn,fun k v=>?_⟩;rw[mm,m7,e0,take_snoc hj,XQ];constructor
   ·rintro(h | ⟨h1,h | h⟩)
    ·exact .inl (.inl h)
    ·exact .inl (.inr ⟨h1,h⟩)
    ·exact nomatch h
   ·rintro((h | ⟨h1,h⟩) | h)
    ·exact .inl h
    ·exact .inr ⟨h1,.inl h⟩
    ·exact nomatch h
  rintro σ' H7 ⟨kvs,o7',rfl,s7,t7,nd7,m7⟩;rw[length_map,length_map,take_length]at m7;have k8:kvs.length<=8:=by
   have z:=Zl (n:=ls.length) nd7 fun k hk=>by
    obtain⟨q',hq',rfl⟩:=mem_map.mp hk;rcases(m7 q'.1 q'.2).mp hq' with⟨pre,i',post,_,hin,_⟩ | hin
    ·exact bnd i' _ hin
    ·obtain⟨x,n,e,ek⟩:=yT.mp hin;obtain⟨j,hj⟩:=wr x _ n e;have h3:=wc (List.mem_of_getElem? hj);have h4:(nmsOf ls).length=ls.length:=length_map _;rw[ek];omega
   rw[length_map]at z;omega
  exists⟨.inl ⟨rfl,_,SqL.of (s7 _ _ e14)⟩,?_⟩;exists⟨.inr (.inr (.inl ⟨rfl,.inl ⟨_,t7⟩⟩)),dl,_,rfl,rfl,t7,?_⟩;walk_at"f vw hvw H8 s8 t8";exists⟨vw,dl,kvs,rfl,t8,s8 _ _ t7,by omega,fun r cs ms H9 s9 hr9 e9 n9 perm pw len tup=>?_⟩;walk_at"g";have asl:=aE.1;refine⟨l,_,_,rfl,rfl,s9 _ _ (s8 _ _ (s7 _ _ e14)),by rw[length_map];omega,?_⟩;have s49:=s7.trans (s8.trans s9);have nrl:r≠l:=(jf (s8 _ _ (s7 _ _ e14)) hr9).symm;have nr:H r=none:=by
   cases z:H r with
   | none=>rfl
   | some u=>rw[s8 _ _ (s7 _ _ (k4 _ _ nrl (s13 _ _ z)))]at hr9;cases hr9
  have ntl:∀{c:Addr} {xs:List V},H9 c=some (.tup xs)->c≠l:=fun h=>Zk h (s49 _ _ e14) (fun z=>by cases z)
  refine⟨as++[r],E++[ms],_,_,_,_,_,rfl,fun c u hc h=>(jh hc).trans (s49 _ _ (k4 _ _ hc h)),?_,fun c hc=>?_,by rw[List.length_append,lE];rfl,?_,?_⟩
  ·rw[jg,map_append];rfl
  ·rcases mem_append.mp hc with z | z
   ·exact na c z
   ·rw[mem_singleton.mp z];exact⟨nr,nrl⟩
  ·refine All2.snoc (All2.monoM aE fun c hc e h=>?_) ?_
   ·obtain⟨bs,hbs,prs⟩:=h;refine⟨bs,(jh (na c hc).2).trans (s49 _ _ (sP _ _ hbs)),All2.mono prs fun c' q' h'=>?_⟩;have h9:=s49 _ _ (sP _ _ h');exact(jh (ntl h9)).trans h9
   ·exact⟨cs,(jh nrl).trans e9,len,fun i' c q' h1 h2=>(jh (ntl (tup i' c q' h1 h2))).trans (tup i' c q' h1 h2)⟩
  ·refine EndOk.snoc W oE (p:=p) (by rw[lE];exact hp) ?_ fun k v=>?_
   ·exact YC (perm.map _) nd7 pw
   ·rw[perm.mem_iff,m7];exact⟨fun h=>h.imp id yT.mp,fun h=>h.imp id yT.mpr⟩
 rintro σ' H' ⟨as,E,o3,o4,o5,o6,o7,rfl,sm,e1,na,lE,aE,oE⟩;rw[length_map]at lE;walk_at"g";exact q l as E H' (fun c u h=>sm _ _ (npl h) (s13 _ _ h)) nl e1 (fun a ha=>(na a ha).1) (by omega) aE oE
theorem j0y(T:Txt K mg t)(WO:FnOk P w K mg base CX0 3 t.Y8 t.kj ["book"] (sp_ends)):FnOk P w K mg base CX0 4 t.Z6 t.yb ["book"] (sp_moved):=by
 refine T.KP.ok kM (fun vs H Q E h=>?_) (fun cdv A outer s H vs Q E hr h=>?_)
 ·cases h;subst_vars;rfl
 obtain⟨b,pl,pp,las,pas,ls,ps,rfl,B,W,q⟩:=h;refine⟨_,(jd (jp (i:=1) kM.nd rfl (.inl rfl) (j4 jc))
  (jd (qh PassesOwn.never rfl (jQ (jr (WO.mono (by decide)) hr (by rfl) T.j2l T.j07.kp T.j20 .nil pass0 (ja (pv 0) jc))) (jt (i:=2) kM.nd rfl (.inl rfl))
   (je (jA (qO PySem.F.plainAttrs_list PySem.F.slot_list_append PySem.F.type_list_append jJ (pv 1) (ja (j3 (ow:=["limb","height"]) (ci:=[]) rfl (CompScope.of (defScope Y5) ["book","found","left"] rfl rfl (by decide +kernel)) (Xa (by decide) (by decide)) (jQ (pv 2)) (fun _ _ _ _ _=>⟨(zK rfl (jK (jt (i:=0) (Jb ["book","found","left"] rfl (by decide +kernel)) rfl (.inl rfl)) (jK (jt (i:=1) (Jb ["book","found","left"] rfl (by decide +kernel)) rfl (.inl rfl)) QO))),qN,(pv 0)⟩)) jc)))))
  (je (jB (pv 1))))),?_⟩
 refine jz (σ':=[some _,none,none]) rfl ?_;have sz:(200:Nat)<sizeLine:=by decide
 have p61:=W.p61;exists⟨Nat.zero_le _,?_⟩;walk_at"f l hl H1 s1 t1";exists⟨b,pl,pp,las,pas,ls,ps,rfl,B.same s1,W,fun e as E H2 s2 he ee ne lE aE oE=>?_⟩;have aE1:=aE.1;have s12:=s1.trans s2;have l2:H2 l=some (.lst []):=s2 _ _ t1;have nle:l≠e:=fun z=>by rw[z,he]at t1;cases t1
 refine⟨e,rfl,⟨_,SqL.of ee⟩,?_⟩;refine Zi (xs:=as.map V.ref) (fun i σ H'=>∃(cs:List Addr) (o2:Option V),σ=[some (.ref b),some (.ref l),o2]/\(∀c u,c≠l->H2 c=some u->H' c=some u)/\H' l=some (.lst (cs.map V.ref))/\(∀c∈cs,H1 c=none/\c≠l)/\ListsAt H' cs ((E.take i).map fun e=>e.map (·.1)))
  ⟨[],_,rfl,fun c u _ h=>h,l2,(fun c h=>nomatch h),.nil⟩ ?_ ?_ ?_
 ·rintro i σ H' _ ⟨cs,o2,rfl,sm,e1,na,la⟩;exact SqL.of (sm _ _ nle.symm ee)
 ·rintro i x σ H' hx ⟨cs,o2,rfl,sm,e1,na,la⟩;obtain⟨a,ev,rfl,hev,bs,hbs,prs⟩:=aE.at_ref hx;have hi:=(List.getElem?_eq_some_iff.mp hev).1;have lal:=la.1;rw[length_map,length_take]at lal;have am:a∈as:=by
   rw[List.getElem?_map]at hx;obtain⟨a',ea,e'⟩:=Option.map_eq_some_iff.mp hx;injection e' with e';subst e';exact List.mem_of_getElem? ea
  have nal:a≠l:=fun z=>by have:=ne a am;rw[z,t1]at this;cases this
  have hb':H' a=some (.lst (bs.map V.ref)):=sm _ _ nal hbs;have evl:=(oE i _ ev (List.getElem?_eq_getElem (by omega)) hev).1;have ev100:=Wf W (by omega) oE hev;exists⟨.inl ⟨rfl,_,SqL.of e1⟩,?_⟩;exists⟨a,rfl,⟨_,SqL.of hb'⟩,?_⟩;refine jH (xs:=bs.map V.ref) (fun j ys H''=>ys=((ev.take j).map (·.1)).map V.int/\H'=H'') ⟨rfl,rfl⟩ ?_ ?_ ?_
  ·rintro j ys H'' _ ⟨rfl,rfl⟩;exact SqL.of hb'
  ·rintro j x ys H'' hx2 ⟨rfl,rfl⟩;obtain⟨c,kv,rfl,hkv,ht⟩:=prs.at_ref hx2;have hj:=(List.getElem?_eq_some_iff.mp hkv).1;have ncl:c≠l:=fun z=>by rw[z,l2]at ht;cases ht
   refine Ji (σ':=[none,none]) rfl ?_;refine zL (SqT.of (sm _ _ ncl ht)) ?_;exists iteT ?_;exists⟨by rw[length_map,length_map,length_take];omega,?_,rfl⟩;rw[take_snoc hkv,map_append,map_append];rfl
  rintro ys H'' ⟨rfl,rfl⟩;rw[show(bs.map V.ref).length=ev.length by rw[length_map];exact prs.1,take_length];refine⟨by rw[length_map,length_map];omega,?_⟩;walk_at"f 4 t";exists⟨l,_,_,rfl,rfl,s4 _ _ e1,by rw[length_map];omega,?_⟩;have hne:p4≠l:=(jf e1 hp4).symm;have n4:H1 p4=none:=by
   cases z:H1 p4 with
   | none=>rfl
   | some u=>rw[sm _ _ hne (s2 _ _ z)]at hp4;cases hp4
  refine⟨cs++[p4],_,rfl,fun c u hc h=>(jh hc).trans (s4 _ _ (sm _ _ hc h)),?_,fun c hc=>?_,?_⟩
  ·rw[jg,map_append];rfl
  ·rcases mem_append.mp hc with z | z
   ·exact na c z
   ·rw[mem_singleton.mp z];exact⟨n4,hne⟩
  ·rw[take_snoc hev,map_append];exact All2.snoc (All2.monoM la fun c hc ks h=>(jh (na c hc).2).trans (s4 _ _ h)) ((jh hne).trans t4)
 rintro σ' H3 ⟨cs,o2,rfl,sm,e1,na,la⟩;rw[length_map,aE1,take_length]at la;exists q l cs (E.map fun e=>e.map (·.1)) H3 (fun c u h=>sm _ _ (jf h hl) (s12 _ _ h)) hl e1 (fun c hc=>none_of s1 (na c hc).1) (by rw[length_map];exact lE) la (j2n lE oE)
theorem Yt(T:Txt K mg t):FnOk P w K mg base CX0 1 t.Jm t.JH ["self","row"] (sp_xi1 t.jI):=by
 refine T.YT.ok Yz (fun vs H Q E h=>?_) (fun cdv A outer s H vs Q E hr h=>?_)
 ·cases h;subst_vars;rfl
 obtain⟨e,r,rfl,r0,r1,he,q⟩:=h;refine⟨_,(jd (jA (kI PySem.F.excBase_ValueError T.ZJ (by rfl) T.zy (ja (pv 0) (ja (wC (QP jn (QP (wB (pv 1)) (QP jn xx)))) jc))))
  (je (Y3 (pv 0) (pv 1)))),?_⟩
 refine jz (σ':=[some _,some _]) rfl ?_;have sz:(200:Nat)<sizeLine:=by decide
 have tl:=xG r0 r1;unfold tI at tl;have e1:(Str.empty++Str.ofString "the side that is part ").length<=60:=by decide +kernel
 have e2:(Str.ofString " names a part that moves no limb").length<=60:=by decide +kernel
 exists xA ?_;exists wH (zM (by omega) (y6 (wF ?_)));exists .inl ⟨r,rfl,xb r0 r1,_,rfl,by rw[Str.length_append];omega,zM (by rw[Str.length_append,Str.length_append];omega) (wG ⟨by rw[Str.length_append,Str.length_append];omega,?_⟩)⟩;exists⟨e,t.jI,none,_,rfl,he,T.Q9.F,T.Q9.ve,?_⟩;dsimp only;refine wI ?_;exists⟨e,t.jI,rfl,T.Q9.F,T.QD,.inl ⟨he,fun dx hd=>?_⟩⟩;have ne:dx≠e:=fun z=>by rw[z,he]at hd;cases hd
 exact q dx _ (fun b u nb h=>(jh (jf h hd)).trans ((jh nb).trans h)) hd ne ((jh (Ne.symm ne)).trans jg) jg
theorem ZV(T:Txt K mg t):FnOk P w K mg base CX0 1 t.jL t.j7 ["self","row","limb"] (sp_xi2 t.jq):=by
 refine T.yj.ok Z1 (fun vs H Q E h=>?_) (fun cdv A outer s H vs Q E hr h=>?_)
 ·cases h;subst_vars;rfl
 obtain⟨e,r,x,rfl,r0,r1,xl,he,q⟩:=h;refine⟨_,(jd (jA (kI PySem.F.excBase_ValueError T.ZJ (by rfl) T.zy (ja (pv 0) (ja (wC (QP jn (QP (wB (pv 1)) (QP jn (QP (wB (pv 2)) (QP jn xx)))))) jc))))
  (jd (Y3 (pv 0) (pv 1))
  (je (Y3 (pv 0) (pv 2))))),?_⟩
 refine jz (σ':=[some _,some _,some _]) rfl ?_;have sz:(200:Nat)<sizeLine:=by decide
 have tl:=xG r0 r1;unfold tI at tl;have e1:(Str.empty++Str.ofString "the side that is part ").length<=30:=by decide +kernel
 have e2:(Str.ofString " moves the limb ").length<=20:=by decide +kernel
 have e3:(Str.ofString " twice").length<=20:=by decide +kernel
 exists xA ?_;exists wH (zM (by omega) (y6 (wF ?_)));exists .inl ⟨r,rfl,xb r0 r1,_,rfl,by rw[Str.length_append];omega,zM (by rw[Str.length_append,Str.length_append];omega) (y6 (wF ?_))⟩;exists .inr ⟨x,rfl,by omega,_,rfl,by rw[Str.length_append,Str.length_append,Str.length_append];omega,zM (by rw[Str.length_append,Str.length_append,Str.length_append,Str.length_append];omega) (wG ⟨by rw[Str.length_append,Str.length_append,Str.length_append,Str.length_append];omega,?_⟩)⟩;exists⟨e,t.jq,none,_,rfl,he,T.Jj.F,T.Jj.ve,?_⟩;walk_at"g";dsimp only;refine wI ?_;exists⟨e,t.jq,rfl,T.Jj.F,T.JI,.inl ⟨he,fun dx hd=>?_⟩⟩;have ne:dx≠e:=fun z=>by rw[z,he]at hd;cases hd
 dsimp only;refine wI ?_;exists⟨e,t.jq,rfl,T.Jj.F,T.Jx,.inr ⟨dx,_,(jh (Ne.symm ne)).trans jg,jg,(by show 1<1000;decide),?_⟩⟩;exact q dx _ (fun b u nb h=>(jh (jf h hd)).trans ((jh nb).trans ((jh (jf h hd)).trans ((jh nb).trans h)))) hd ne ((jh (Ne.symm ne)).trans jg) jg
theorem kC(T:Txt K mg t)(qx:FnOk P w K mg base CX0 1 t.Jm t.JH ["self","row"] (sp_xi1 t.jI))(Jn:FnOk P w K mg base CX0 1 t.jL t.j7 ["self","row","limb"] (sp_xi2 t.jq)):FnOk P w K mg base (CX1 P w) 3 t.Jq t.Js ["row","moves","limbs"] (Z3 t.jI t.jq):=by
 refine T.qX.okR qM (fun vs H Q E h=>?_) (fun cdv A outer s H vs Q E hr h=>?_)
 ·obtain⟨r,l,ll,as,las,M,ls,rfl,r0,r1,el,la,M8,ell,al,lx,q⟩:=h;rfl
 obtain⟨r,l,ll,as,las,M,ls,rfl,r0,r1,el,la,M8,ell,al,lx,q⟩:=h;refine⟨_,(j0M (Xr (jm (xv hr.units) (j4 jc) (pv 1) (by with_unfolding_all rfl))
   (Qs (Yy PySem.F.excBase_ValueError ⟨rfl,rfl,rfl,rfl⟩ T.Q9 (by rfl) T.Xh (qx.mono (by decide)) hr T.YS pass0 (ja (pv 0) jc)))
   yg)
  (Qx (jm (xv hr.units) (j4 jc) (pv 1) (by with_unfolding_all rfl))
   (je Zo)
   jw)
  (Qs (Xq ⟨rfl,rfl,rfl,rfl⟩ (yX (by rfl) T.ze (ja (pv 2) jc)) (zK rfl (jK (jt (i:=3) qM.nd rfl (.inr rfl)) (jK (jt (i:=4) qM.nd rfl (.inl rfl)) QO)))
   (je (jV (jm Zm (ju jX (by rfl) T.QI qu (ja (j3 (ow:=["move"]) (ci:=[3]) rfl (CompScope.of (defScope Qj) ["row","moves","limbs","number","limb"] rfl rfl (by decide +kernel)) (jZ (by decide)) (jQ (pv 1)) (fun _ _ _ _ _=>⟨(jt (i:=0) (Jb ["row","moves","limbs","number","limb"] rfl (by decide +kernel)) rfl (.inl rfl)),(yz (jm (ZB (K:=K) rfl) (pv 1) (pv 0) (by with_unfolding_all rfl))),YQ⟩)) jc)) jb (nomark _))
    (je Zo)
    jw))
   (Qs (Xr (jm Zm (ju jX (by rfl) T.QI qu (ja (j3 (ow:=["move"]) (ci:=[3]) rfl (CompScope.of (defScope Qj) ["row","moves","limbs","number","limb"] rfl rfl (by decide +kernel)) (jZ (by decide)) (jQ (pv 1)) (fun _ _ _ _ _=>⟨(jt (i:=0) (Jb ["row","moves","limbs","number","limb"] rfl (by decide +kernel)) rfl (.inl rfl)),(yz (jm (ZB (K:=K) rfl) (pv 1) (pv 0) (by with_unfolding_all rfl))),YQ⟩)) jc)) jb (nomark _))
    (Qs (Yy PySem.F.excBase_ValueError ⟨rfl,rfl,rfl,rfl⟩ T.Jj (by rfl) T.YO (Jn.mono (by decide)) hr T.yi pass0 (ja (pv 0) (ja (ji jv (pv 4) jb) jc))))
    yg))))),?_⟩
 refine ye (σ':=[some _,some _,some _,none,none]) rfl ?_;have sz:(200:Nat)<sizeLine:=by decide
 have lal:=la.1;rcases q with⟨hi,x⟩ | ⟨n,x,v,ne,hn,c1,c2,xe⟩
 ·refine .inl ?_;refine kL ?_;exists⟨Nat.zero_le _,?_⟩;walk_at"f 0 t";exists⟨p0,l,as,M,rfl,rfl,t0,s0 _ _ el,lal,fun i b ks e1 e2=>s0 _ _ (la.2 i b ks e1 e2),?_⟩;exists iteB1 (xC hi) ?_;refine Yv ?_;walk_at"g";intro e he;exact⟨e,r,rfl,r0,by omega,jg,x.of s0 he⟩
 refine .inr (yf ?_);refine⟨fun σ' H'=>σ'=[some (.int r),some (.ref l),some (.ref ll),none,none]/\Same H H',?_,?_⟩
 rotate_left
 ·exists⟨Nat.zero_le _,?_⟩;walk_at"f 0 t";exists⟨p0,l,as,M,rfl,rfl,t0,s0 _ _ el,lal,fun i b ks e1 e2=>s0 _ _ (la.2 i b ks e1 e2),?_⟩;exists iteB0 (any_empty ne) ?_;walk_at"g";exact⟨rfl,s0⟩
 rintro σ' H0 ⟨rfl,s0⟩;dsimp only;refine Xo ?_;exists⟨ll,_,rfl,SqL.of (s0 _ _ ell),?_⟩;have nl:n<las.length:=by rw[al.1];exact(List.getElem?_eq_some_iff.mp hn).1
 refine KI (xs:=las.map V.ref) n (by rw[length_map];exact nl) (fun i σ H'=>∃o3 o4:Option V,σ=[some (.int r),some (.ref l),some (.ref ll),o3,o4]/\Same H H') ⟨_,_,rfl,s0⟩ ?_ ?_
 ·rintro i σ H' _ ⟨o3,o4,rfl,sm⟩;exact SqL.of (sm _ _ ell)
 rintro i v σ H' P H1 hin hx ⟨o3,o4,rfl,sm⟩ sP tP;have s1:=sm.trans sP;refine zL (SqT.of tP) ?_;have inv:∀(j:Nat) (x:V) (ys:List V),(as.map V.ref)[j]?=some x->ys.length=((M.take j).filter fun ks=>decide ((i:Int)∈ks)).length->∃(a:Addr) (ks:List Int),x = .ref a/\H1 a=some (.lst (ks.map V.int))/\ys.length<sizeLine/\ys.length+(if(i:Int)∈ks then 1 else 0)=((M.take (j+1)).filter fun ks=>decide ((i:Int)∈ks)).length:=fun j x ys hx2 hy=>by
  obtain⟨a,ks,rfl,hks,ha⟩:=la.at_ref hx2;have hle:((M.take j).filter fun ks=>decide ((i:Int)∈ks)).length<=8:=Nat.le_trans (length_filter_le _ _) (Nat.le_trans (List.length_take_le' _ _) M8);refine⟨a,ks,rfl,s1 _ _ ha,by omega,?_⟩;rw[take_snoc hks,filter_append,filter_cons,List.length_append,<-hy];by_cases d:(i:Int)∈ks
  ·rw[if_pos d,if_pos (decide_eq_true d)];rfl
  ·rw[if_neg d,if_neg (by simpa using d)];rfl
 by_cases e:i<n
 ·refine .inr ?_;refine jz (σ':=[some _,some _,some _,some _,some _]) rfl ?_;exists⟨l,rfl,⟨_,SqL.of (s1 _ _ el)⟩,?_⟩;refine jH (xs:=as.map V.ref) (fun j ys H''=>ys.length=((M.take j).filter fun ks=>decide ((i:Int)∈ks)).length/\H1=H'') ⟨rfl,rfl⟩ ?_ ?_ ?_
  ·rintro j ys H'' _ ⟨_,rfl⟩;exact SqL.of (s1 _ _ el)
  ·rintro j x ys H'' hx2 ⟨hy,rfl⟩;obtain⟨a,ks,rfl,ha,yl,en⟩:=inv j x ys hx2 hy;refine Ji (σ':=[none,some _]) rfl ?_;exists⟨a,_,rfl,.inl (SqL.of ha),rfl,flats ks,?_⟩;rw[inI];exists iteD (fun d=>?_) (fun d=>?_)
   ·walk_at"g";rw[if_pos d]at en;exact⟨yl,by rw[List.length_append];exact en,rfl⟩
   ·rw[if_neg d]at en;exact⟨en,rfl⟩
  rintro ys H'' ⟨hy,rfl⟩;rw[length_map,lal,take_length]at hy;have o1:=c2 i e;refine⟨by omega,?_⟩;walk_at"f 2 t";exists⟨_,_,rfl,.inl ⟨_,SqL.of t2,rfl⟩,?_⟩;exists iteD (fun d=>?_) (fun d=>?_)
  ·exfalso;omega
  ·walk_at"g";exact⟨e,_,_,rfl,s1.trans s2⟩
 have e:i=n:=by omega
 subst e;refine .inl ?_;refine ye (σ':=[some _,some _,some _,some _,some _]) rfl ?_;refine kL ?_;exists⟨l,rfl,⟨_,SqL.of (s1 _ _ el)⟩,?_⟩;refine jH (xs:=as.map V.ref) (fun j ys H''=>ys.length=((M.take j).filter fun ks=>decide ((i:Int)∈ks)).length/\H1=H'') ⟨rfl,rfl⟩ ?_ ?_ ?_
 ·rintro j ys H'' _ ⟨_,rfl⟩;exact SqL.of (s1 _ _ el)
 ·rintro j x ys H'' hx2 ⟨hy,rfl⟩;obtain⟨a,ks,rfl,ha,yl,en⟩:=inv j x ys hx2 hy;refine Ji (σ':=[none,some _]) rfl ?_;exists⟨a,_,rfl,.inl (SqL.of ha),rfl,flats ks,?_⟩;rw[inI];exists iteD (fun d=>?_) (fun d=>?_)
  ·walk_at"g";rw[if_pos d]at en;exact⟨yl,by rw[List.length_append];exact en,rfl⟩
  ·rw[if_neg d]at en;exact⟨en,rfl⟩
 rintro ys H'' ⟨hy,rfl⟩;rw[length_map,lal,take_length]at hy;have l8:(M.filter fun ks=>decide ((i:Int)∈ks)).length<=8:=Nat.le_trans (length_filter_le _ _) M8;refine⟨by omega,?_⟩;walk_at"f 2 t";have s02:=s1.trans s2;exists⟨_,_,rfl,.inl ⟨_,SqL.of t2,rfl⟩,?_⟩;exists iteD (fun d=>?_) (fun d=>?_)
 ·obtain⟨a,ea,ha⟩:=al.get hn;rw[List.getElem?_map,ea]at hx;cases hx;refine Yv ?_;exists ixTm (SqT.of (s02 _ _ ha)) rfl ?_;walk_at"g";intro ex he;exact⟨ex,r,x,rfl,r0,by omega,lx _ (List.mem_of_getElem? hn),jg,xe.of s02 he⟩
 ·exfalso;omega
theorem Kg(T:Txt K mg t)(qx:FnOk P w K mg base CX0 1 t.Jm t.JH ["self","row"] (sp_xi1 t.jI))(Jn:FnOk P w K mg base CX0 1 t.jL t.j7 ["self","row","limb"] (sp_xi2 t.jq)):FnOk P w K mg base CX0 3 t.Jq t.Js ["row","moves","limbs"] (sp_check_side):=by
 refine T.qX.ok qM (fun vs H Q E h=>?_) (fun cdv A outer s H vs Q E hr h=>?_)
 ·cases h;subst_vars;rfl
 obtain⟨r,l,ll,as,las,M,rfl,el,la,ne,M8,ell,one,q⟩:=h;refine⟨_,(jd (jV (jm (xv hr.units) (j4 jc) (pv 1) (by with_unfolding_all rfl))
   (je Zo)
   jw)
  (je (qh PassesOwn.never rfl (yX (by rfl) T.ze (ja (pv 2) jc)) (zK rfl (jK (jt (i:=3) qM.nd rfl (.inr rfl)) (jK (jt (i:=4) qM.nd rfl (.inl rfl)) QO)))
   (je (jV (jm Zm (ju jX (by rfl) T.QI qu (ja (j3 (ow:=["move"]) (ci:=[3]) rfl (CompScope.of (defScope Qj) ["row","moves","limbs","number","limb"] rfl rfl (by decide +kernel)) (jZ (by decide)) (jQ (pv 1)) (fun _ _ _ _ _=>⟨(jt (i:=0) (Jb ["row","moves","limbs","number","limb"] rfl (by decide +kernel)) rfl (.inl rfl)),(yz (jm (ZB (K:=K) rfl) (pv 1) (pv 0) (by with_unfolding_all rfl))),YQ⟩)) jc)) jb (nomark _))
    (je Zo)
    jw))))),?_⟩
 refine jz (σ':=[some _,some _,some _,none,none]) rfl ?_;have sz:(200:Nat)<sizeLine:=by decide
 have lal:=la.1;exists⟨Nat.zero_le _,?_⟩;walk_at"f 0 t";exists⟨p0,l,as,M,rfl,rfl,t0,s0 _ _ el,lal,fun i b ks e1 e2=>s0 _ _ (la.2 i b ks e1 e2),?_⟩;exists iteB0 (any_empty ne) ?_;exists⟨ll,_,rfl,SqL.of (s0 _ _ ell),?_⟩;refine kr (xs:=las.map V.ref) (fun i σ H'=>∃o3 o4:Option V,σ=[some (.int r),some (.ref l),some (.ref ll),o3,o4]/\Same H H') ⟨_,_,rfl,s0⟩ ?_ ?_ ?_
 ·rintro i σ H' _ ⟨o3,o4,rfl,sm⟩;exact SqL.of (sm _ _ ell)
 ·rintro i v σ H' P H1 hx ⟨o3,o4,rfl,sm⟩ sP tP;have s1:=sm.trans sP;refine zL (SqT.of tP) ?_;exists⟨l,rfl,⟨_,SqL.of (s1 _ _ el)⟩,?_⟩;refine jH (xs:=as.map V.ref) (fun j ys H''=>ys.length=((M.take j).filter fun ks=>decide ((i:Int)∈ks)).length/\H1=H'') ⟨rfl,rfl⟩ ?_ ?_ ?_
  ·rintro j ys H'' _ ⟨_,rfl⟩;exact SqL.of (s1 _ _ el)
  ·rintro j x ys H'' hx2 ⟨hy,rfl⟩;obtain⟨a,ks,rfl,hks,ha⟩:=la.at_ref hx2;refine Ji (σ':=[none,some _]) rfl ?_;exists⟨a,_,rfl,.inl (SqL.of (s1 _ _ ha)),rfl,flats ks,?_⟩;rw[inI];walk_at"g";have hle:((M.take j).filter fun ks=>decide ((i:Int)∈ks)).length<=8:=Nat.le_trans (length_filter_le _ _) (Nat.le_trans (List.length_take_le' _ _) M8);refine iteD (fun d=>?_) (fun d=>?_)
   ·exists⟨by omega,?_,rfl⟩;rw[take_snoc hks,filter_append,filter_cons,if_pos (decide_eq_true d),List.length_append,List.length_append,hy];rfl
   ·refine⟨?_,rfl⟩;rw[take_snoc hks,filter_append,filter_cons,if_neg (by simpa using d),List.length_append,hy];rfl
  rintro ys H'' ⟨hy,rfl⟩;rw[length_map,lal,take_length]at hy;have o1:=one (i:Int);refine⟨by omega,?_⟩;walk_at"f 2 t";exists⟨_,_,rfl,.inl ⟨_,SqL.of t2,rfl⟩,?_⟩;exists iteD (fun d=>?_) (fun d=>?_)
  ·exfalso;omega
  ·walk_at"g";exact⟨_,_,rfl,s1.trans s2⟩
 rintro σ' H' ⟨o3,o4,rfl,sm⟩;exact q H' sm
theorem wy(T:Txt K mg t):FnOk P w K mg base CX0 1 t.Qz t.QB ["form","inside"] (sp_length_of):=by
 refine T.zS.ok wK (fun vs H Q E h=>?_) (fun cdv A outer s H vs Q E hr h=>?_)
 ·cases h;subst_vars;rfl
 obtain⟨a,l,f,gs,rfl,hF,el,pre,q⟩:=h;refine⟨_,(jd (jV (jm Jh (ji jv (pv 0) jb) jn (nomark _))
   (je (jB (ju (ya rfl) (by rfl) T.xO K2 (ja (pv 1) jc))))
   jw)
  (jd (jV (jm Jh (ji jv (pv 0) jb) jn (nomark _))
   (je (jB (ju (Yk rfl) (by rfl) T.xN K1 (ja (pv 1) jc))))
   jw)
  (jd (jV (jm Jh (ji jv (pv 0) jb) jn (nomark _))
   (je (jB (jk Qh (ji jv (pv 0) jb) (ji jo (pv 1) jb))))
   jw)
  (je (jB (ji jv (pv 0) (j2T j2H jb))))))),?_⟩
 refine jz (σ':=[some _,some _]) rfl ?_;have sz:(200:Nat)<sizeLine:=by decide
 cases f with
 | hold n=>
  have ha:H a=some (.tup _):=hF;exists ixTm (SqT.of ha) rfl ?_;exists iteE0 ?_;exists ixTm (SqT.of ha) rfl ?_;exists iteE0 ?_;exists ixTm (SqT.of ha) rfl ?_;exists iteE0 ?_;exists ixTm (SqT.of ha) rfl ?_;exact q _ rfl
 | ring x n=>
  have ha:H a=some (.tup _):=hF;exists ixTm (SqT.of ha) rfl ?_;exists iteE0 ?_;exists ixTm (SqT.of ha) rfl ?_;exists iteE0 ?_;exists ixTm (SqT.of ha) rfl ?_;exists iteE0 ?_;exists ixTm (SqT.of ha) rfl ?_;exact q _ rfl
 | rise x v n=>
  have ha:H a=some (.tup _):=hF;exists ixTm (SqT.of ha) rfl ?_;exists iteE0 ?_;exists ixTm (SqT.of ha) rfl ?_;exists iteE0 ?_;exists ixTm (SqT.of ha) rfl ?_;exists iteE0 ?_;exists ixTm (SqT.of ha) rfl ?_;exact q _ rfl
 | row ps=>
  obtain⟨b,ha,hb⟩:=hF;exists ixTm (SqT.of ha) rfl ?_;exists iteE1 ?_;exists⟨l,gs,rfl,SqL.of el,?_⟩;exact q _ rfl
 | side ps=>
  obtain⟨b,ha,hb⟩:=hF;exists ixTm (SqT.of ha) rfl ?_;exists iteE0 ?_;exists ixTm (SqT.of ha) rfl ?_;exists iteE1 ?_;exists⟨l,gs,rfl,SqL.of el,List.length_pos_iff.mpr pre,fun g h1 h2=>?_⟩;exact q g ⟨h1,h2⟩
 | again k x=>
  have ha:H a=some (.tup _):=hF;obtain⟨y,r,rfl,k1,k2,y1,y2⟩:=pre;exists ixTm (SqT.of ha) rfl ?_;exists iteE0 ?_;exists ixTm (SqT.of ha) rfl ?_;exists iteE0 ?_;exists ixTm (SqT.of ha) rfl ?_;exists iteE1 ?_;exists ixTm (SqT.of ha) rfl ?_;exists ixLm (SqL.of el) (at0) ?_;walk_at"g";exact q _ ⟨y,rfl,rfl⟩
theorem Wz(T:Txt K mg t)(Jz:FnOk P w K mg base CX0 1 t.jR t.Jc ["self","row"] (sp_xi1 t.jx))(zv:FnOk P w K mg base CX0 2 t.Zy t.Zz ["book"] (sp_inner))(Z5:FnOk P w K mg base CX0 4 t.Z6 t.yb ["book"] (sp_moved))(qt:FnOk P w K mg base CX0 3 t.Jq t.Js ["row","moves","limbs"] (sp_check_side))(qQ:FnOk P w K mg base CX0 1 t.Qz t.QB ["form","inside"] (sp_length_of))(R_check_side:FnOk P w K mg base (CX1 P w) 3 t.Jq t.Js ["row","moves","limbs"] (Z3 t.jI t.jq)):FnOk P w K mg base (CX1 P w) 5 t.QA t.QC ["book"] (YR t.jI t.jq t.jx):=by
 refine T.Z4.okR jN (fun vs H Q E h=>?_) (fun cdv A outer s H vs Q E hr h=>?_)
 ·obtain⟨b,pl,pp,las,pas,ls,ps,M0,gs,k,rfl,B,WL,lM0,oM0,P,kl,q⟩:=h;rfl
 obtain⟨b,pl,pp,las,pas,ls,ps,M0,gs,k,rfl,B,WL,lM0,oM0,P,kl,q⟩:=h;refine⟨_,(ZX (jp (i:=1) jN.nd rfl (.inr rfl) (jr (Z5.mono (by decide)) hr (by rfl) T.Xg T.KP.kp T.xK .nil pass0 (ja (pv 0) jc)))
  (ZX (jp (i:=2) jN.nd rfl (.inr rfl) (j4 jc))
  (Qs (Xq ⟨rfl,rfl,rfl,rfl⟩ (yX (by rfl) T.ze (ja (jr (zv.mono (by decide)) hr (by rfl) T.wq T.YX.kp T.KO .nil pass0 (ja (pv 0) jc)) jc)) (zK rfl (jK (jt (i:=3) jN.nd rfl (.inl rfl)) (jK (jt (i:=4) jN.nd rfl (.inl rfl)) QO)))
   (jd (jp (i:=5) jN.nd rfl (.inl rfl) (ji jv (ji jo (ji jv (pv 0) jb) (pv 3)) jb))
   (jd (Qx (jm Jh (ji jv (pv 5) jb) jn (nomark _))
    (je (jA (jr (qt.mono (by decide)) hr (by rfl) T.zx T.qX.kp T.zu .nil pass0 (ja (pv 3) (ja (j3 (ow:=["part"]) (ci:=[1]) rfl (CompScope.of (defScope qL) ["book","moves","found","row","inside","form","length"] rfl rfl (by decide +kernel)) (jZ (by decide)) (jQ (pv 4)) (fun _ _ _ _ _=>⟨(jt (i:=0) (Jb ["book","moves","found","row","inside","form","length"] rfl (by decide +kernel)) rfl (.inl rfl)),qN,(ji (qR (K:=K) rfl) (pv 1) (pv 0))⟩)) (ja (ji jv (pv 0) jb) jc))))))
    jw)
   (jd (jp (i:=6) jN.nd rfl (.inl rfl) (jr (qQ.mono (by decide)) hr (by rfl) T.ZU T.zS.kp T.ZK .nil pass0 (ja (pv 5) (ja (j3 (ow:=["part"]) (ci:=[2]) rfl (CompScope.of (defScope qL) ["book","moves","found","row","inside","form","length"] rfl rfl (by decide +kernel)) (jZ (by decide)) (jQ (pv 4)) (fun _ _ _ _ _=>⟨(jt (i:=0) (Jb ["book","moves","found","row","inside","form","length"] rfl (by decide +kernel)) rfl (.inl rfl)),qN,(ji (qR (K:=K) rfl) (pv 1) (pv 0))⟩)) jc))))
   (jd (jV (jm Zm (pv 6) (jk qv jb jb) (nomark _))
    (je Zo)
    jw)
   (je (jA (qO PySem.F.plainAttrs_list PySem.F.slot_list_append PySem.F.type_list_append jJ (pv 2) (ja (pv 6) jc))))))))
   (ZX (jp (i:=5) jN.nd rfl (.inl rfl) (ji jv (ji jo (ji jv (pv 0) jb) (pv 3)) jb))
   (j0M (Xr (jm Jh (ji jv (pv 5) jb) jn (nomark _))
    (Qs (j1I (Xp (R_check_side.mono (by decide)) hr (by rfl) T.zx T.qX.kp T.zu .nil ⟨rfl,rfl,rfl,rfl⟩ (ja (pv 3) (ja (j3 (ow:=["part"]) (ci:=[1]) rfl (CompScope.of (defScope qL) ["book","moves","found","row","inside","form","length"] rfl rfl (by decide +kernel)) (jZ (by decide)) (jQ (pv 4)) (fun _ _ _ _ _=>⟨(jt (i:=0) (Jb ["book","moves","found","row","inside","form","length"] rfl (by decide +kernel)) rfl (.inl rfl)),qN,(ji (qR (K:=K) rfl) (pv 1) (pv 0))⟩)) (ja (ji jv (pv 0) jb) jc))))))
    yg)
   (Qx (jm Jh (ji jv (pv 5) jb) jn (nomark _))
    (je (jA (jr (qt.mono (by decide)) hr (by rfl) T.zx T.qX.kp T.zu .nil pass0 (ja (pv 3) (ja (j3 (ow:=["part"]) (ci:=[1]) rfl (CompScope.of (defScope qL) ["book","moves","found","row","inside","form","length"] rfl rfl (by decide +kernel)) (jZ (by decide)) (jQ (pv 4)) (fun _ _ _ _ _=>⟨(jt (i:=0) (Jb ["book","moves","found","row","inside","form","length"] rfl (by decide +kernel)) rfl (.inl rfl)),qN,(ji (qR (K:=K) rfl) (pv 1) (pv 0))⟩)) (ja (ji jv (pv 0) jb) jc))))))
    jw)
   (ZX (jp (i:=6) jN.nd rfl (.inl rfl) (jr (qQ.mono (by decide)) hr (by rfl) T.ZU T.zS.kp T.ZK .nil pass0 (ja (pv 5) (ja (j3 (ow:=["part"]) (ci:=[2]) rfl (CompScope.of (defScope qL) ["book","moves","found","row","inside","form","length"] rfl rfl (by decide +kernel)) (jZ (by decide)) (jQ (pv 4)) (fun _ _ _ _ _=>⟨(jt (i:=0) (Jb ["book","moves","found","row","inside","form","length"] rfl (by decide +kernel)) rfl (.inl rfl)),qN,(ji (qR (K:=K) rfl) (pv 1) (pv 0))⟩)) jc))))
   (Qs (Xr (jm Zm (pv 6) (jk qv jb jb) (nomark _))
    (Qs (Yy PySem.F.excBase_ValueError ⟨rfl,rfl,rfl,rfl⟩ T.J3 (by rfl) T.kA (Jz.mono (by decide)) hr T.yq pass0 (ja (pv 3) jc)))
    yg))))))))),?_⟩
 refine ye (σ':=[some _,none,none,none,none,none,none]) rfl ?_;have sz:(200:Nat)<sizeLine:=by decide
 have W:=WL.w;have pa:=B.pa.1;have gl:=P.gl;have p61:=W.p61;refine yf ?_;exists⟨b,pl,pp,las,pas,_,_,rfl,B,W,fun lm cms M H1 s1 hlm elm nlm Ml aM oM=>?_⟩;have mg:=Wu W lM0 oM0 Ml oM;have aMl:=aM.1;walk_at"g";dsimp only;refine yf ?_;exists⟨Nat.zero_le _,?_⟩;walk_at"f l hl H2 s2 t2";have nl:=none_of s1 hl;have s12:=s1.trans s2;walk_at"g";dsimp only;refine Xo ?_;exists⟨b,pl,pp,las,pas,_,_,rfl,B.same s12,W,fun li ias H3 s3 hli eli nia lia=>?_⟩;walk_at"g";have s13:=s12.trans s3;have s23:=s2.trans s3;have lial:=lia.1;rw[length_map]at lial;have nli:li≠l:=fun z=>by rw[z,t2]at hli;cases hli
 have t3:H3 l=some (.lst []):=s3 _ _ t2;have npl:∀{c u},H c=some u->c≠l:=fun h=>jf h nl
 have np1:∀{c u},H1 c=some u->c≠l:=fun h=>jf h hl
 refine⟨li,_,rfl,SqL.of eli,?_⟩;refine KI (xs:=ias.map V.ref) k (by rw[length_map,lial];exact kl) (fun i σ H'=>∃(o3 o4 o5 o6:Option V),σ=[some (.ref b),some (.ref lm),some (.ref l),o3,o4,o5,o6]/\(∀c u,c≠l->H3 c=some u->H' c=some u)/\H' l=some (.lst ((gs.take i).map V.int)))
  ⟨_,_,_,_,rfl,fun c u _ h=>h,t3⟩ ?_ ?_
 ·rintro i σ H' _ ⟨o3,o4,o5,o6,rfl,sm,e1⟩;exact SqL.of (sm _ _ nli eli)
 ·rintro i v σ H' P0 H4 hik hv ⟨o3,o4,o5,o6,rfl,sm,e1⟩ sP tP;obtain⟨ia,is',rfl,his,hia⟩:=lia.at_ref hv;have hi:i<ps.length:=by
   have:=(List.getElem?_eq_some_iff.mp his).1;rw[length_map]at this;exact this
  obtain⟨p,hp⟩:∃p,ps[i]?=some p:=⟨_,List.getElem?_eq_getElem hi⟩
  rw[List.getElem?_map,hp]at his;cases his;obtain⟨a,ea,fb,hat,hf⟩:=B.pa.get hp;have iam:ia∈ias:=by
   rw[List.getElem?_map]at hv;obtain⟨a',ea',e'⟩:=Option.map_eq_some_iff.mp hv;injection e' with e';subst e';exact List.mem_of_getElem? ea'
  have nial:ia≠l:=fun z=>by have:=nia ia iam;rw[z,t2]at this;cases this
  have k4:∀c u,c≠l->H3 c=some u->H4 c=some u:=fun c u hc h=>sP _ _ (sm _ _ hc h)
  have k04:∀c u,H c=some u->H4 c=some u:=fun c u h=>k4 _ _ (npl h) (s13 _ _ h)
  have k14:∀c u,H1 c=some u->H4 c=some u:=fun c u h=>k4 _ _ (np1 h) (s23 _ _ h)
  have hia4:H4 ia=some (.lst (((inP ps p.2).map fun j:Nat=>(j:Int)).map V.int)):=k4 _ _ nial hia;have e14:=sP _ _ e1;have hf4:FormAt H4 fb p.2:=FormAt.same k04 hf;have inl:=fun j=>W.inP_lt (j:=j) hp
  have w8:(inP ps p.2).length<=8:=by unfold inP;rw[length_map];exact(W.f i p hp).2
  refine zL (SqT.of tP) ?_;have cat:∀j∈inP ps p.2,∃c,cms[j]?=some c/\H4 c=some (.lst ((M0.getD j []).map V.int)):=fun j hj=>by
   have jl:=inl j hj;obtain⟨c,hc,h1⟩:=aM.get (i:=j) (x:=M.getD j []) (by rw[getD_eq_getElem?_getD,List.getElem?_eq_getElem (by omega)];rfl);rw[mg j (by omega)]at h1;exact⟨c,hc,k14 _ _ h1⟩
  have lenr:=P.len WL hik hp;by_cases ik:i<k
  ·refine .inr ?_;refine jz (σ':=[some _,some _,some _,some _,some _,o5,o6]) rfl ?_;obtain⟨lgd,g1,g2,sdo⟩:=P.ok i p ik hp;exists ixTm (SqT.of (k04 _ _ B.t)) rfl ?_;exists ixLm (SqL.of (k04 _ _ B.p)) (qa (i:=(i:Int)) (by omega) ea) ?_;exists ixTm (SqT.of (k04 _ _ hat)) rfl ?_;exists⟨fun σ' H5=>σ'=[some (.ref b),some (.ref lm),some (.ref l),some (.int i),some (.ref ia),some (.ref fb),o6]/\Same H4 H5,?_,?_⟩
   rotate_left
   ·by_cases hs0:∃qs,p.2 = .side qs
    ·obtain⟨qs,e⟩:=hs0;have ap:=sdo qs e;unfold cntL at ap;generalize inP ps p.2=is at hia4 inl ap w8 cat;rw[e]at hf4;obtain⟨nb,hf5,_⟩:=hf4;exists ixTm (SqT.of hf5) rfl ?_;exists iteE1 ?_;exists⟨ia,rfl,⟨_,SqL.of hia4⟩,?_⟩;refine jH (xs:=(is.map fun j:Nat=>(j:Int)).map V.int) (fun t ys H'=>∃cs:List Addr,ys=cs.map V.ref/\ListsAt H4 cs ((is.take t).map fun j=>M0.getD j [])/\H4=H') ⟨[],rfl,.nil,rfl⟩ ?_ ?_ ?_
     ·rintro t ys H' _ ⟨cs,rfl,lc,rfl⟩;exact SqL.of hia4
     ·rintro t x ys H' hx ⟨cs,rfl,lc,rfl⟩;rw[List.getElem?_map,List.getElem?_map]at hx;obtain⟨jj,hjj,rfl⟩:=Option.map_eq_some_iff.mp hx;obtain⟨j,hj,rfl⟩:=Option.map_eq_some_iff.mp hjj;obtain⟨c,hc,h1⟩:=cat j (List.mem_of_getElem? hj);have lcl:=lc.1;rw[length_map,length_take]at lcl;refine Ji (σ':=[none,some _]) rfl ?_;exists iteT ?_;exists ixLm (SqL.of (k14 _ _ elm)) (qa (i:=(j:Int)) (by omega) hc) ?_;refine⟨by rw[length_map];omega,cs++[c],by rw[map_append];rfl,?_,rfl⟩;rw[take_snoc hj,map_append];exact All2.snoc lc h1
     rintro ys H' ⟨cs,rfl,lc,rfl⟩;rw[length_map,length_map,take_length]at lc;have lcl:=lc.1;rw[length_map]at lcl;refine⟨by rw[length_map];omega,?_⟩;walk_at"f 5 t";exists ixTm (SqT.of (s5 _ _ (k04 _ _ B.t))) rfl ?_;exists⟨_,p5,pl,cs,las,(is.map fun j=>M0.getD j []),rfl,t5,All2.mono lc fun c ks h=>s5 _ _ h,fun ks hks=>?_,by rw[length_map];omega,s5 _ _ (k04 _ _ B.l),ap.2,fun H6 s6=>?_⟩
     ·obtain⟨j,hj,rfl⟩:=mem_map.mp hks;exact ap.1 j hj
     walk_at"g";exact⟨rfl,s5.trans s6⟩
    ·have kd:∃k xs,H4 fb=some (.tup (.str k::xs))/\decide (k=("side" : Str))=false:=by
      generalize p.2=f at hf4 hs0;cases f with
      | side qs=>exact absurd ⟨qs,rfl⟩ hs0
      | hold n=>exact⟨_,_,hf4,by decide +kernel⟩
      | ring x n=>exact⟨_,_,hf4,by decide +kernel⟩
      | rise x v n=>exact⟨_,_,hf4,by decide +kernel⟩
      | row qs=>obtain⟨_,h1,_⟩:=hf4;exact⟨_,_,h1,by decide +kernel⟩
      | again k x=>exact⟨_,_,hf4,by decide +kernel⟩
     obtain⟨k,xs,hk,dk⟩:=kd;exists ixTm (SqT.of hk) (at0) ?_;exists iteB0 dk ?_;walk_at"g";exact⟨rfl,Same.refl _⟩
   rintro σ' H5 ⟨rfl,s5⟩;exists⟨ia,rfl,⟨_,SqL.of (s5 _ _ hia4)⟩,?_⟩;have e15:=s5 _ _ e14;refine jH (xs:=((inP ps p.2).map fun j:Nat=>(j:Int)).map V.int) (fun t ys H'=>ys=(((inP ps p.2).take t).map fun j=>gs.getD j 0).map V.int/\H5=H') ⟨rfl,rfl⟩ ?_ ?_ ?_
   ·rintro t ys H' _ ⟨rfl,rfl⟩;exact SqL.of (s5 _ _ hia4)
   ·rintro t x ys H' hx ⟨rfl,rfl⟩;rw[List.getElem?_map,List.getElem?_map]at hx;obtain⟨jj,hjj,rfl⟩:=Option.map_eq_some_iff.mp hx;obtain⟨j,hj,rfl⟩:=Option.map_eq_some_iff.mp hjj;have jl:=inl j (List.mem_of_getElem? hj);refine Ji (σ':=[none,some _]) rfl ?_;exists iteT ?_;exists ixLm (SqL.of e15) (j0j (by omega) jl) ?_;refine⟨by rw[length_map,length_map,length_take];omega,?_,rfl⟩;rw[take_snoc hj,map_append,map_append];rfl
   rintro ys H' ⟨rfl,rfl⟩;rw[show(((inP ps p.2).map fun j:Nat=>(j:Int)).map V.int).length=(inP ps p.2).length by rw[length_map,length_map],take_length];refine⟨by rw[length_map,length_map];omega,?_⟩;walk_at"f 6 t";exists⟨fb,p6,p.2,_,rfl,FormAt.same (s5.trans s6) hf4,t6,lenr.1,fun g hg=>?_⟩;have eg:=LenIs.uniq hg lgd;subst eg;exists iteD (fun d=>?_) (fun d=>?_)
   ·exfalso;omega
   exists⟨.inl ⟨rfl,_,SqL.of (s6 _ _ e15)⟩,?_⟩;exists⟨l,_,_,rfl,rfl,s6 _ _ e15,by rw[length_map,length_take];omega,?_⟩;refine⟨ik,_,_,_,_,rfl,fun c u hc h=>(jh hc).trans (s6 _ _ (s5 _ _ (k4 _ _ hc h))),?_⟩;rw[jg,Xb (by omega),map_append];rfl
  have ik:i=k:=by omega
  subst ik;refine .inl ?_;refine ye (σ':=[some _,some _,some _,some _,some _,o5,o6]) rfl ?_;refine yf ?_;exists ixTm (SqT.of (k04 _ _ B.t)) rfl ?_;exists ixLm (SqL.of (k04 _ _ B.p)) (qa (i:=(i:Int)) (by omega) ea) ?_;exists ixTm (SqT.of (k04 _ _ hat)) rfl ?_;walk_at"g";dsimp only;have s04:Same H H4:=k04;rcases q with⟨⟨p',qs,hp',e,⟨j0,hj0,ej0⟩⟩,x⟩ | ⟨nm,⟨p',qs,n,v,hp',e,ne,hn,c1,c2⟩,x⟩ | ⟨⟨p',g,hp',so,hg,g60⟩,x⟩
  ·rw[hp]at hp';cases hp';refine .inl (kL ?_);generalize inP ps p.2=is at hia4 inl w8 cat hj0;rw[e]at hf4;obtain⟨nb,hf5,_⟩:=hf4;exists ixTm (SqT.of hf5) rfl ?_;exists iteE1 ?_;refine j0L (kK ?_);exists⟨ia,rfl,⟨_,SqL.of hia4⟩,?_⟩;refine jH (xs:=(is.map fun j:Nat=>(j:Int)).map V.int) (fun t ys H'=>∃cs:List Addr,ys=cs.map V.ref/\ListsAt H4 cs ((is.take t).map fun j=>M0.getD j [])/\H4=H') ⟨[],rfl,.nil,rfl⟩ ?_ ?_ ?_
   ·rintro t ys H' _ ⟨cs,rfl,lc,rfl⟩;exact SqL.of hia4
   ·rintro t x ys H' hx ⟨cs,rfl,lc,rfl⟩;rw[List.getElem?_map,List.getElem?_map]at hx;obtain⟨jj,hjj,rfl⟩:=Option.map_eq_some_iff.mp hx;obtain⟨j,hj,rfl⟩:=Option.map_eq_some_iff.mp hjj;obtain⟨c,hc,h1⟩:=cat j (List.mem_of_getElem? hj);have lcl:=lc.1;rw[length_map,length_take]at lcl;refine Ji (σ':=[none,some _]) rfl ?_;exists iteT ?_;exists ixLm (SqL.of (k14 _ _ elm)) (qa (i:=(j:Int)) (by omega) hc) ?_;refine⟨by rw[length_map];omega,cs++[c],by rw[map_append];rfl,?_,rfl⟩;rw[take_snoc hj,map_append];exact All2.snoc lc h1
   rintro ys H' ⟨cs,rfl,lc,rfl⟩;rw[length_map,length_map,take_length]at lc;have lcl:=lc.1;rw[length_map]at lcl;refine⟨by rw[length_map];omega,?_⟩;walk_at"f 5 t";exists ixTm (SqT.of (s5 _ _ (k04 _ _ B.t))) rfl ?_;exists⟨_,p5,pl,cs,las,(is.map fun j=>M0.getD j []),ls,rfl,by omega,by omega,t5,All2.mono lc fun c ks h=>s5 _ _ h,by rw[length_map];omega,s5 _ _ (k04 _ _ B.l),B.la.mono fun c u h=>s5 _ _ (k04 _ _ h),WL.x,.inl ⟨⟨_,mem_map.mpr ⟨j0,hj0,rfl⟩,ej0⟩,x.same (s04.trans s5)⟩⟩
  ·rw[hp]at hp';cases hp';refine .inl (kL ?_);unfold cntL at c1 c2;generalize inP ps p.2=is at hia4 inl w8 cat ne c1 c2;rw[e]at hf4;obtain⟨nb,hf5,_⟩:=hf4;exists ixTm (SqT.of hf5) rfl ?_;exists iteE1 ?_;refine j0L (kK ?_);exists⟨ia,rfl,⟨_,SqL.of hia4⟩,?_⟩;refine jH (xs:=(is.map fun j:Nat=>(j:Int)).map V.int) (fun t ys H'=>∃cs:List Addr,ys=cs.map V.ref/\ListsAt H4 cs ((is.take t).map fun j=>M0.getD j [])/\H4=H') ⟨[],rfl,.nil,rfl⟩ ?_ ?_ ?_
   ·rintro t ys H' _ ⟨cs,rfl,lc,rfl⟩;exact SqL.of hia4
   ·rintro t x ys H' hx ⟨cs,rfl,lc,rfl⟩;rw[List.getElem?_map,List.getElem?_map]at hx;obtain⟨jj,hjj,rfl⟩:=Option.map_eq_some_iff.mp hx;obtain⟨j,hj,rfl⟩:=Option.map_eq_some_iff.mp hjj;obtain⟨c,hc,h1⟩:=cat j (List.mem_of_getElem? hj);have lcl:=lc.1;rw[length_map,length_take]at lcl;refine Ji (σ':=[none,some _]) rfl ?_;exists iteT ?_;exists ixLm (SqL.of (k14 _ _ elm)) (qa (i:=(j:Int)) (by omega) hc) ?_;refine⟨by rw[length_map];omega,cs++[c],by rw[map_append];rfl,?_,rfl⟩;rw[take_snoc hj,map_append];exact All2.snoc lc h1
   rintro ys H' ⟨cs,rfl,lc,rfl⟩;rw[length_map,length_map,take_length]at lc;have lcl:=lc.1;rw[length_map]at lcl;refine⟨by rw[length_map];omega,?_⟩;walk_at"f 5 t";exists ixTm (SqT.of (s5 _ _ (k04 _ _ B.t))) rfl ?_;exists⟨_,p5,pl,cs,las,(is.map fun j=>M0.getD j []),ls,rfl,by omega,by omega,t5,All2.mono lc fun c ks h=>s5 _ _ h,by rw[length_map];omega,s5 _ _ (k04 _ _ B.l),B.la.mono fun c u h=>s5 _ _ (k04 _ _ h),WL.x,.inr ⟨n,nm,v,fun ks hks=>?_,hn,c1,c2,x.same (s04.trans s5)⟩⟩;obtain⟨j,hj,rfl⟩:=mem_map.mp hks;exact ne j hj
  rw[hp]at hp';cases hp';refine .inr (yf ?_);refine⟨fun σ' H5=>σ'=[some (.ref b),some (.ref lm),some (.ref l),some (.int i),some (.ref ia),some (.ref fb),o6]/\Same H4 H5,?_,?_⟩
  rotate_left
  ·by_cases hs0:∃qs,p.2 = .side qs
   ·obtain⟨qs,e⟩:=hs0;have ap:=so qs e;unfold cntL at ap;generalize inP ps p.2=is at hia4 inl ap w8 cat;rw[e]at hf4;obtain⟨nb,hf5,_⟩:=hf4;exists ixTm (SqT.of hf5) rfl ?_;exists iteE1 ?_;exists⟨ia,rfl,⟨_,SqL.of hia4⟩,?_⟩;refine jH (xs:=(is.map fun j:Nat=>(j:Int)).map V.int) (fun t ys H'=>∃cs:List Addr,ys=cs.map V.ref/\ListsAt H4 cs ((is.take t).map fun j=>M0.getD j [])/\H4=H') ⟨[],rfl,.nil,rfl⟩ ?_ ?_ ?_
    ·rintro t ys H' _ ⟨cs,rfl,lc,rfl⟩;exact SqL.of hia4
    ·rintro t x ys H' hx ⟨cs,rfl,lc,rfl⟩;rw[List.getElem?_map,List.getElem?_map]at hx;obtain⟨jj,hjj,rfl⟩:=Option.map_eq_some_iff.mp hx;obtain⟨j,hj,rfl⟩:=Option.map_eq_some_iff.mp hjj;obtain⟨c,hc,h1⟩:=cat j (List.mem_of_getElem? hj);have lcl:=lc.1;rw[length_map,length_take]at lcl;refine Ji (σ':=[none,some _]) rfl ?_;exists iteT ?_;exists ixLm (SqL.of (k14 _ _ elm)) (qa (i:=(j:Int)) (by omega) hc) ?_;refine⟨by rw[length_map];omega,cs++[c],by rw[map_append];rfl,?_,rfl⟩;rw[take_snoc hj,map_append];exact All2.snoc lc h1
    rintro ys H' ⟨cs,rfl,lc,rfl⟩;rw[length_map,length_map,take_length]at lc;have lcl:=lc.1;rw[length_map]at lcl;refine⟨by rw[length_map];omega,?_⟩;walk_at"f 5 t";exists ixTm (SqT.of (s5 _ _ (k04 _ _ B.t))) rfl ?_;exists⟨_,p5,pl,cs,las,(is.map fun j=>M0.getD j []),rfl,t5,All2.mono lc fun c ks h=>s5 _ _ h,fun ks hks=>?_,by rw[length_map];omega,s5 _ _ (k04 _ _ B.l),ap.2,fun H6 s6=>?_⟩
    ·obtain⟨j,hj,rfl⟩:=mem_map.mp hks;exact ap.1 j hj
    walk_at"g";exact⟨rfl,s5.trans s6⟩
   ·have kd:∃k xs,H4 fb=some (.tup (.str k::xs))/\decide (k=("side" : Str))=false:=by
     generalize p.2=f at hf4 hs0;cases f with
     | side qs=>exact absurd ⟨qs,rfl⟩ hs0
     | hold n=>exact⟨_,_,hf4,by decide +kernel⟩
     | ring x n=>exact⟨_,_,hf4,by decide +kernel⟩
     | rise x v n=>exact⟨_,_,hf4,by decide +kernel⟩
     | row qs=>obtain⟨_,h1,_⟩:=hf4;exact⟨_,_,h1,by decide +kernel⟩
     | again k x=>exact⟨_,_,hf4,by decide +kernel⟩
    obtain⟨k,xs,hk,dk⟩:=kd;exists ixTm (SqT.of hk) (at0) ?_;exists iteB0 dk ?_;walk_at"g";exact⟨rfl,Same.refl _⟩
  rintro σ' H5 ⟨rfl,s5⟩;dsimp only;refine yf ?_;exists⟨ia,rfl,⟨_,SqL.of (s5 _ _ hia4)⟩,?_⟩;have e15:=s5 _ _ e14;refine jH (xs:=((inP ps p.2).map fun j:Nat=>(j:Int)).map V.int) (fun t ys H'=>ys=(((inP ps p.2).take t).map fun j=>gs.getD j 0).map V.int/\H5=H') ⟨rfl,rfl⟩ ?_ ?_ ?_
  ·rintro t ys H' _ ⟨rfl,rfl⟩;exact SqL.of (s5 _ _ hia4)
  ·rintro t x ys H' hx ⟨rfl,rfl⟩;rw[List.getElem?_map,List.getElem?_map]at hx;obtain⟨jj,hjj,rfl⟩:=Option.map_eq_some_iff.mp hx;obtain⟨j,hj,rfl⟩:=Option.map_eq_some_iff.mp hjj;have jl:=inl j (List.mem_of_getElem? hj);refine Ji (σ':=[none,some _]) rfl ?_;exists iteT ?_;exists ixLm (SqL.of e15) (j0j (by omega) jl) ?_;refine⟨by rw[length_map,length_map,length_take];omega,?_,rfl⟩;rw[take_snoc hj,map_append,map_append];rfl
  rintro ys H' ⟨rfl,rfl⟩;rw[show(((inP ps p.2).map fun j:Nat=>(j:Int)).map V.int).length=(inP ps p.2).length by rw[length_map,length_map],take_length];refine⟨by rw[length_map,length_map];omega,?_⟩;walk_at"f 6 t";exists⟨fb,p6,p.2,_,rfl,FormAt.same (s5.trans s6) hf4,t6,lenr.1,fun g' hg'=>?_⟩;have eg:=LenIs.uniq hg' hg;subst eg;walk_at"g";dsimp only;refine kL ?_;exists iteD (fun d=>?_) (fun d=>?_)
  ·refine Yv ?_;walk_at"g";intro ex hex;have s46:=s04.trans (s5.trans s6);exact⟨ex,_,rfl,by omega,by omega,jg,x.of s46 hex⟩
  ·exfalso;omega
theorem xq(T:Txt K mg t)(Jz:FnOk P w K mg base CX0 1 t.jR t.Jc ["self","row"] (sp_xi1 t.jx))(zv:FnOk P w K mg base CX0 2 t.Zy t.Zz ["book"] (sp_inner))(Z5:FnOk P w K mg base CX0 4 t.Z6 t.yb ["book"] (sp_moved))(qt:FnOk P w K mg base CX0 3 t.Jq t.Js ["row","moves","limbs"] (sp_check_side))(qQ:FnOk P w K mg base CX0 1 t.Qz t.QB ["form","inside"] (sp_length_of)):FnOk P w K mg base CX0 5 t.QA t.QC ["book"] (sp_lengths):=by
 refine T.Z4.ok jN (fun vs H Q E h=>?_) (fun cdv A outer s H vs Q E hr h=>?_)
 ·cases h;subst_vars;rfl
 obtain⟨b,pl,pp,las,pas,ls,ps,gs,hs,rfl,B,S,q⟩:=h;refine⟨_,(jd (jp (i:=1) jN.nd rfl (.inr rfl) (jr (Z5.mono (by decide)) hr (by rfl) T.Xg T.KP.kp T.xK .nil pass0 (ja (pv 0) jc)))
  (jd (jp (i:=2) jN.nd rfl (.inr rfl) (j4 jc))
  (jd (qh PassesOwn.never rfl (yX (by rfl) T.ze (ja (jr (zv.mono (by decide)) hr (by rfl) T.wq T.YX.kp T.KO .nil pass0 (ja (pv 0) jc)) jc)) (zK rfl (jK (jt (i:=3) jN.nd rfl (.inl rfl)) (jK (jt (i:=4) jN.nd rfl (.inl rfl)) QO)))
   (jd (jp (i:=5) jN.nd rfl (.inl rfl) (ji jv (ji jo (ji jv (pv 0) jb) (pv 3)) jb))
   (jd (Qx (jm Jh (ji jv (pv 5) jb) jn (nomark _))
    (je (jA (jr (qt.mono (by decide)) hr (by rfl) T.zx T.qX.kp T.zu .nil pass0 (ja (pv 3) (ja (j3 (ow:=["part"]) (ci:=[1]) rfl (CompScope.of (defScope qL) ["book","moves","found","row","inside","form","length"] rfl rfl (by decide +kernel)) (jZ (by decide)) (jQ (pv 4)) (fun _ _ _ _ _=>⟨(jt (i:=0) (Jb ["book","moves","found","row","inside","form","length"] rfl (by decide +kernel)) rfl (.inl rfl)),qN,(ji (qR (K:=K) rfl) (pv 1) (pv 0))⟩)) (ja (ji jv (pv 0) jb) jc))))))
    jw)
   (jd (jp (i:=6) jN.nd rfl (.inl rfl) (jr (qQ.mono (by decide)) hr (by rfl) T.ZU T.zS.kp T.ZK .nil pass0 (ja (pv 5) (ja (j3 (ow:=["part"]) (ci:=[2]) rfl (CompScope.of (defScope qL) ["book","moves","found","row","inside","form","length"] rfl rfl (by decide +kernel)) (jZ (by decide)) (jQ (pv 4)) (fun _ _ _ _ _=>⟨(jt (i:=0) (Jb ["book","moves","found","row","inside","form","length"] rfl (by decide +kernel)) rfl (.inl rfl)),qN,(ji (qR (K:=K) rfl) (pv 1) (pv 0))⟩)) jc))))
   (jd (jV (jm Zm (pv 6) (jk qv jb jb) (nomark _))
    (je Zo)
    jw)
   (je (jA (qO PySem.F.plainAttrs_list PySem.F.slot_list_append PySem.F.type_list_append jJ (pv 2) (ja (pv 6) jc)))))))))
  (je (jB (pv 2)))))),?_⟩
 refine jz (σ':=[some _,none,none,none,none,none,none]) rfl ?_;have sz:(200:Nat)<sizeLine:=by decide
 have W:=S.w;have pa:=B.pa.1;have gl:=S.gl;have p61:=W.p61;exists⟨b,pl,pp,las,pas,_,_,rfl,B,W,fun lm cms M H1 s1 hlm elm nlm Ml aM oM=>?_⟩;have mg:=S.mv M Ml oM;have aMl:=aM.1;exists⟨Nat.zero_le _,?_⟩;walk_at"f l hl H2 s2 t2";have nl:=none_of s1 hl;have s12:=s1.trans s2;exists⟨b,pl,pp,las,pas,_,_,rfl,B.same s12,W,fun li ias H3 s3 hli eli nia lia=>?_⟩;walk_at"g";have s13:=s12.trans s3;have s23:=s2.trans s3;have lial:=lia.1;rw[length_map]at lial;have nli:li≠l:=fun z=>by rw[z,t2]at hli;cases hli
 have t3:H3 l=some (.lst []):=s3 _ _ t2;have npl:∀{c u},H c=some u->c≠l:=fun h=>jf h nl
 have np1:∀{c u},H1 c=some u->c≠l:=fun h=>jf h hl
 refine⟨li,_,rfl,SqL.of eli,?_⟩;refine kr (xs:=ias.map V.ref) (fun i σ H'=>∃(o3 o4 o5 o6:Option V),σ=[some (.ref b),some (.ref lm),some (.ref l),o3,o4,o5,o6]/\(∀c u,c≠l->H3 c=some u->H' c=some u)/\H' l=some (.lst ((gs.take i).map V.int)))
  ⟨_,_,_,_,rfl,fun c u _ h=>h,t3⟩ ?_ ?_ ?_
 ·rintro i σ H' _ ⟨o3,o4,o5,o6,rfl,sm,e1⟩;exact SqL.of (sm _ _ nli eli)
 ·rintro i v σ H' P H4 hv ⟨o3,o4,o5,o6,rfl,sm,e1⟩ sP tP;obtain⟨ia,is',rfl,his,hia⟩:=lia.at_ref hv;have hi:i<ps.length:=by
   have:=(List.getElem?_eq_some_iff.mp his).1;rw[length_map]at this;exact this
  obtain⟨p,hp⟩:∃p,ps[i]?=some p:=⟨_,List.getElem?_eq_getElem hi⟩
  rw[List.getElem?_map,hp]at his;cases his;obtain⟨a,ea,fb,hat,hf⟩:=B.pa.get hp;have iam:ia∈ias:=by
   rw[List.getElem?_map]at hv;obtain⟨a',ea',e'⟩:=Option.map_eq_some_iff.mp hv;injection e' with e';subst e';exact List.mem_of_getElem? ea'
  have nial:ia≠l:=fun z=>by have:=nia ia iam;rw[z,t2]at this;cases this
  have k4:∀c u,c≠l->H3 c=some u->H4 c=some u:=fun c u hc h=>sP _ _ (sm _ _ hc h)
  have k04:∀c u,H c=some u->H4 c=some u:=fun c u h=>k4 _ _ (npl h) (s13 _ _ h)
  have k14:∀c u,H1 c=some u->H4 c=some u:=fun c u h=>k4 _ _ (np1 h) (s23 _ _ h)
  have hia4:H4 ia=some (.lst (((inP ps p.2).map fun j:Nat=>(j:Int)).map V.int)):=k4 _ _ nial hia;have e14:=sP _ _ e1;have hf4:FormAt H4 fb p.2:=FormAt.same k04 hf;have inl:=fun j=>W.inP_lt (j:=j) hp
  have w8:(inP ps p.2).length<=8:=by unfold inP;rw[length_map];exact(W.f i p hp).2
  obtain⟨lp,lgd⟩:=S.ln i p hp;have lgi:=S.gb i hi;refine zL (SqT.of tP) ?_;exists ixTm (SqT.of (k04 _ _ B.t)) rfl ?_;exists ixLm (SqL.of (k04 _ _ B.p)) (qa (i:=(i:Int)) (by omega) ea) ?_;exists ixTm (SqT.of (k04 _ _ hat)) rfl ?_;exists⟨fun σ' H5=>σ'=[some (.ref b),some (.ref lm),some (.ref l),some (.int i),some (.ref ia),some (.ref fb),o6]/\Same H4 H5,?_,?_⟩
  rotate_left
  ·by_cases hs0:∃qs,p.2 = .side qs
   ·obtain⟨qs,e⟩:=hs0;have ap:=S.sd i p qs hp e;generalize inP ps p.2=is at hia4 inl ap w8;rw[e]at hf4;obtain⟨nb,hf5,_⟩:=hf4;exists ixTm (SqT.of hf5) rfl ?_;exists iteE1 ?_;exists⟨ia,rfl,⟨_,SqL.of hia4⟩,?_⟩;have cat:∀j∈is,∃c,cms[j]?=some c/\H4 c=some (.lst ((hs.getD j []).map V.int)):=fun j hj=>by
     have jl:=inl j hj;obtain⟨c,hc,h1⟩:=aM.get (i:=j) (x:=M.getD j []) (by rw[getD_eq_getElem?_getD,List.getElem?_eq_getElem (by omega)];rfl);rw[mg j (by omega)]at h1;exact⟨c,hc,k14 _ _ h1⟩
    refine jH (xs:=(is.map fun j:Nat=>(j:Int)).map V.int) (fun t ys H'=>∃cs:List Addr,ys=cs.map V.ref/\ListsAt H4 cs ((is.take t).map fun j=>hs.getD j [])/\H4=H') ⟨[],rfl,.nil,rfl⟩ ?_ ?_ ?_
    ·rintro t ys H' _ ⟨cs,rfl,lc,rfl⟩;exact SqL.of hia4
    ·rintro t x ys H' hx ⟨cs,rfl,lc,rfl⟩;rw[List.getElem?_map,List.getElem?_map]at hx;obtain⟨jj,hjj,rfl⟩:=Option.map_eq_some_iff.mp hx;obtain⟨j,hj,rfl⟩:=Option.map_eq_some_iff.mp hjj;obtain⟨c,hc,h1⟩:=cat j (List.mem_of_getElem? hj);have lcl:=lc.1;rw[length_map,length_take]at lcl;refine Ji (σ':=[none,some _]) rfl ?_;exists iteT ?_;exists ixLm (SqL.of (k14 _ _ elm)) (qa (i:=(j:Int)) (by omega) hc) ?_;refine⟨by rw[length_map];omega,cs++[c],by rw[map_append];rfl,?_,rfl⟩;rw[take_snoc hj,map_append];exact All2.snoc lc h1
    rintro ys H' ⟨cs,rfl,lc,rfl⟩;rw[length_map,length_map,take_length]at lc;have lcl:=lc.1;rw[length_map]at lcl;refine⟨by rw[length_map];omega,?_⟩;walk_at"f 5 t";exists ixTm (SqT.of (s5 _ _ (k04 _ _ B.t))) rfl ?_;exists⟨_,p5,pl,cs,las,(is.map fun j=>hs.getD j []),rfl,t5,All2.mono lc fun c ks h=>s5 _ _ h,fun ks hks=>?_,by rw[length_map];omega,s5 _ _ (k04 _ _ B.l),ap.2,fun H6 s6=>?_⟩
    ·obtain⟨j,hj,rfl⟩:=mem_map.mp hks;exact ap.1 j hj
    walk_at"g";exact⟨rfl,s5.trans s6⟩
   ·have kd:∃k xs,H4 fb=some (.tup (.str k::xs))/\decide (k=("side" : Str))=false:=by
     generalize p.2=f at hf4 hs0;cases f with
     | side qs=>exact absurd ⟨qs,rfl⟩ hs0
     | hold n=>exact⟨_,_,hf4,by decide +kernel⟩
     | ring x n=>exact⟨_,_,hf4,by decide +kernel⟩
     | rise x v n=>exact⟨_,_,hf4,by decide +kernel⟩
     | row qs=>obtain⟨_,h1,_⟩:=hf4;exact⟨_,_,h1,by decide +kernel⟩
     | again k x=>exact⟨_,_,hf4,by decide +kernel⟩
    obtain⟨k,xs,hk,dk⟩:=kd;exists ixTm (SqT.of hk) (at0) ?_;exists iteB0 dk ?_;walk_at"g";exact⟨rfl,Same.refl _⟩
  rintro σ' H5 ⟨rfl,s5⟩;exists⟨ia,rfl,⟨_,SqL.of (s5 _ _ hia4)⟩,?_⟩;have e15:=s5 _ _ e14;refine jH (xs:=((inP ps p.2).map fun j:Nat=>(j:Int)).map V.int) (fun t ys H'=>ys=(((inP ps p.2).take t).map fun j=>gs.getD j 0).map V.int/\H5=H') ⟨rfl,rfl⟩ ?_ ?_ ?_
  ·rintro t ys H' _ ⟨rfl,rfl⟩;exact SqL.of (s5 _ _ hia4)
  ·rintro t x ys H' hx ⟨rfl,rfl⟩;rw[List.getElem?_map,List.getElem?_map]at hx;obtain⟨jj,hjj,rfl⟩:=Option.map_eq_some_iff.mp hx;obtain⟨j,hj,rfl⟩:=Option.map_eq_some_iff.mp hjj;have jl:=inl j (List.mem_of_getElem? hj);refine Ji (σ':=[none,some _]) rfl ?_;exists iteT ?_;exists ixLm (SqL.of e15) (j0j (by omega) jl) ?_;refine⟨by rw[length_map,length_map,length_take];omega,?_,rfl⟩;rw[take_snoc hj,map_append,map_append];rfl
  rintro ys H' ⟨rfl,rfl⟩;rw[show(((inP ps p.2).map fun j:Nat=>(j:Int)).map V.int).length=(inP ps p.2).length by rw[length_map,length_map],take_length];refine⟨by rw[length_map,length_map];omega,?_⟩;walk_at"f 6 t";exists⟨fb,p6,p.2,_,rfl,FormAt.same (s5.trans s6) hf4,t6,lp,fun g hg=>?_⟩;have eg:=lgd g hg;subst eg;exists iteD (fun d=>?_) (fun d=>?_)
  ·exfalso;omega
  exists⟨.inl ⟨rfl,_,SqL.of (s6 _ _ e15)⟩,?_⟩;exists⟨l,_,_,rfl,rfl,s6 _ _ e15,by rw[length_map,length_take];omega,?_⟩;refine⟨_,_,_,_,rfl,fun c u hc h=>(jh hc).trans (s6 _ _ (s5 _ _ (k4 _ _ hc h))),?_⟩;rw[jg,Xb (by omega),map_append];rfl
 rintro σ' H' ⟨o3,o4,o5,o6,rfl,sm,e1⟩;rw[length_map,lial,<-gl,take_length]at e1;walk_at"g";exact q l H' (fun c u h=>sm _ _ (npl h) (s13 _ _ h)) nl e1
theorem YV(T:Txt K mg t):FnOk P w K mg base CX0 1 t.qd t.qe ["_law_script","_law_k"] (Pr.sp_cell_at K):=by
 refine T.Jy.ok YW (fun vs H Q E h=>?_) (fun cdv A outer s H vs Q E hr h=>?_)
 ·cases h;subst_vars;rfl
 obtain⟨a,ns,k,rfl,hS,h63,h0,q⟩:=h;refine⟨_,(jd (jV (jm KH (pv 1) (ju jX (by rfl) T.QI qu (ja (pv 0) jc)) (nomark _))
   (je (jB (ji jo (pv 0) (pv 1))))
   jw)
  (je (jB jb))),?_⟩
 refine jz (σ':=[some _,some _]) rfl ?_;exists⟨_,_,rfl,.inl ⟨_,hS,rfl⟩,?_⟩;exists iteD (fun c=>?_) (fun c=>?_)
 ·walk_at"g";exact⟨a,_,k,_,rfl,rfl,hS,Pr.jD h0 (by rw[length_map]at c;exact c),q⟩
 ·walk_at"g";have e:Pr.cell ns k=0:=by
   rw[length_map]at c;unfold Pr.cell;rw[getD_eq_getElem?_getD,List.getElem?_eq_none (by omega)];rfl
  rw[e]at q;exact q
theorem kH(T:Txt K mg t):FnOk P w K mg base CX0 1 t.Jt t.Ju ["_law_cell","_law_turn"] (Zp):=by
 refine T.JU.ok zQ (fun vs H Q E h=>?_) (fun cdv A outer s H vs Q E hr h=>?_)
 ·obtain⟨c,m,rfl,m0,m1,q⟩:=h;rfl
 obtain⟨c,m,rfl,m0,m1,q⟩:=h;refine⟨_,(jd (jV (jm KH (pv 0) (jk qv jb jb) (nomark _))
   (je (jB (pv 0)))
   jw)
  (jd (qh PassesOwn.never rfl (qK (by rfl) T.Q2 (ja (jk Qh jb (pv 1)) jc)) (jt (i:=2) zQ.nd rfl (.inl rfl))
   (je (jp (i:=0) zQ.nd rfl (.inl rfl) (jk qy (pv 0) (jk qv jb jb)))))
  (je (jB (jk jT (jk qv jb jb) (pv 0)))))),?_⟩
 refine jz (σ':=[some _,some _,none]) rfl ?_;exists iteD (fun c1=>?_) (fun c1=>?_)
 ·walk_at"g";exact q _
 exists⟨_,rfl,by omega,by omega,?_⟩;refine Qf (fun i σ H'=>∃(x:Int) (o2:Option V),σ=[some (.int x),some (.int m),o2]/\H=H') ⟨_,_,rfl,rfl⟩ ?_ ?_
 ·rintro i σ H' hi ⟨x,o2,rfl,rfl⟩;walk_at"g";exact⟨_,_,rfl,rfl⟩
 ·rintro σ H' ⟨x,o2,rfl,rfl⟩;walk_at"g";exact q _
theorem kG(T:Txt K mg t):FnOk P w K mg base CX0 1 t.JY t.J0 ["_law_cell","_law_many"] (sp_streamF):=by
 refine T.qF.ok j5 (fun vs H Q E h=>?_) (fun cdv A outer s H vs Q E hr h=>?_)
 ·cases h;subst_vars;rfl
 obtain⟨c,m,rfl,m0,m1,q⟩:=h;refine⟨_,(jd (jp (i:=2) j5.nd rfl (.inl rfl) (j4 jc))
  (jd (jV (jm j2S (pv 0) (jk qv jb jb) (nomark _))
   (jd (jp (i:=3) j5.nd rfl (.inl rfl) (jk yy (pv 0) (jk qv jb jb)))
   (jd (qh PassesOwn.never rfl (qK (by rfl) T.Q2 (ja (pv 1) jc)) (jt (i:=4) j5.nd rfl (.inl rfl))
    (jd (jA (qO PySem.F.plainAttrs_list PySem.F.slot_list_append PySem.F.type_list_append jJ (pv 2) (ja (jk jC (pv 3) jb) jc)))
    (je (jp (i:=3) j5.nd rfl (.inl rfl) (jk qy (pv 3) jb)))))
   (je (jB (pv 2)))))
   jw)
  (jd (jp (i:=3) j5.nd rfl (.inl rfl) (jk jT (jk jC (pv 0) jb) jb))
  (jd (qh PassesOwn.never rfl (qK (by rfl) T.Q2 (ja (pv 1) jc)) (jt (i:=4) j5.nd rfl (.inl rfl))
   (jd (jp (i:=3) j5.nd rfl (.inl rfl) (jk jT (jk jT (jk jT (jk Qh (pv 3) (pv 3)) (jk Qh jb (pv 3))) (jk Qh jb (pv 4))) jb))
   (jd (jp (i:=3) j5.nd rfl (.inl rfl) (jk jC (pv 3) jb))
   (je (jA (qO PySem.F.plainAttrs_list PySem.F.slot_list_append PySem.F.type_list_append jJ (pv 2) (ja (jk qy (pv 3) jb) jc)))))))
  (je (jB (pv 2))))))),?_⟩
 refine jz (σ':=[some _,some _,none,none,none]) rfl ?_;have sz:(100:Nat)<sizeLine:=by decide
 exists⟨Nat.zero_le _,fun p hp=>?_⟩;exists iteD (fun c1=>?_) (fun c1=>?_)
 ·exists⟨_,rfl,by omega,by omega,?_⟩;refine Qf (fun i σ H'=>∃(x:Int) (o4:Option V) (ns:List Int),σ=[some (.int c),some (.int m),some (.ref p),some (.int x),o4]/\Same H H'/\H' p=some (.lst (ns.map V.int))/\ns.length=i/\(∀n∈ns,0<=n/\n<33554432)/\x=stD (c-10^20) i/\ns=(List.range i).map fun i=>stD (c-10^20) i%33554432)
   ⟨_,_,[],rfl,Pr.jy hp _,jg,rfl,(fun n h=>by cases h),rfl,rfl⟩ ?_ ?_
  ·rintro i σ H' hi ⟨x,o4,ns,rfl,sm,hl,hn,hb,ex,en⟩;exists⟨.inl ⟨rfl,_,SqL.of hl⟩,?_⟩;exists⟨p,_,_,rfl,rfl,hl,by rw[length_map];omega,?_⟩;exists⟨_,_,ns++[x%33554432],rfl,Ws.y9 sm hp,by rw[jg,map_append];rfl,by simp[hn],fun n h=>?_,by rw[ex];rfl,by rw[en,ex,range_succ,map_append];rfl⟩;rcases mem_append.mp h with z | z
   ·exact hb n z
   ·have e:n=x%33554432:=by simpa using z
    omega
  ·rintro σ H' ⟨x,o4,ns,rfl,sm,hl,hn,hb,ex,en⟩;walk_at"g";exact q p ns _ sm hp hl (by omega) hb (by rw[en];unfold stF;rw[if_pos c1])
 ·exists⟨_,rfl,by omega,by omega,?_⟩;refine Qf (fun i σ H'=>∃(x:Int) (o4:Option V) (ns:List Int),σ=[some (.int c),some (.int m),some (.ref p),some (.int x),o4]/\0<=x/\x<=2147531918/\Same H H'/\H' p=some (.lst (ns.map V.int))/\ns.length=i/\(∀n∈ns,0<=n/\n<33554432)/\x=stM c i/\ns=(List.range i).map fun i=>stM c (i+1)/64)
   ⟨_,_,[],rfl,by omega,by omega,Pr.jy hp _,jg,rfl,(fun n h=>by cases h),rfl,rfl⟩ ?_ ?_
  ·rintro i σ H' hi ⟨x,o4,ns,rfl,x0,x1,sm,hl,hn,hb,ex,en⟩;walk_at"g";have ey:(x*x+48271*x+7*(0+(i:Int))+1)%2147483647=stM c (i+1):=by rw[ex];rfl
   generalize x*x+48271*x+7*(0+(i:Int))+1=y at ey|-;refine⟨.inl ⟨rfl,_,SqL.of hl⟩,?_⟩;exists⟨p,_,_,rfl,rfl,hl,by rw[length_map];omega,?_⟩;refine⟨_,_,ns++[y%2147483647/64],rfl,by omega,by omega,Ws.y9 sm hp,by rw[jg,map_append];rfl,by simp[hn],fun n h=>?_,ey,by rw[en,range_succ,map_append,ey];rfl⟩;rcases mem_append.mp h with z | z
   ·exact hb n z
   ·have e:n=y%2147483647/64:=by simpa using z
    omega
  ·rintro σ H' ⟨x,o4,ns,rfl,x0,x1,sm,hl,hn,hb,ex,en⟩;walk_at"g";exact q p ns _ sm hp hl (by omega) hb (by rw[en];unfold stF;rw[if_neg c1])
theorem Kc(T:Txt K mg t)(jP:FnOk P w K mg base CX0 1 t.JY t.J0 ["_law_cell","_law_many"] (sp_streamF)):FnOk P w K mg base CX0 2 t.q5 t.Qc ["_law_cell","_law_many"] (sp_namesC):=by
 refine T.Zs.ok Jw (fun vs H Q E h=>?_) (fun cdv A outer s H vs Q E hr h=>?_)
 ·cases h;subst_vars;rfl
 obtain⟨c,n,rfl,n74,q⟩:=h;refine⟨_,(jd (jp (i:=2) Jw.nd rfl (.inr rfl) jn)
  (jd (jp (i:=3) Jw.nd rfl (.inl rfl) (jr (jP.mono (by decide)) hr (by rfl) T.Qr T.qF.kp T.Qn .nil pass0 (ja (pv 0) (ja jb jc))))
  (jd (jp (i:=4) Jw.nd rfl (.inl rfl) (qO PySem.F.plainAttrs_str PySem.F.slot_str_join PySem.F.type_str_join j1s jn (ja (j3 (ow:=["_law_one"]) (ci:=[2]) rfl (CompScope.of (defScope zB) ["_law_cell","_law_many","_law_letters","_law_some","_law_base","_law_at","_law_names_here","_law_k","_law_two"] rfl rfl (by decide +kernel)) (jZ (by decide)) (jQ (qz ZI (pv 3) Q6 (qP (jk jC (ji jo (pv 3) jb) jb)))) (fun _ _ _ _ _=>⟨(jt (i:=0) (Jb ["_law_cell","_law_many","_law_letters","_law_some","_law_base","_law_at","_law_names_here","_law_k","_law_two"] rfl (by decide +kernel)) rfl (.inl rfl)),qN,(ji W7 (pv 1) (jk jC (pv 0) jb))⟩)) jc)))
  (jd (jp (i:=5) Jw.nd rfl (.inl rfl) (jk jC (ji jo (pv 3) jb) (jk jT (ju jX (by rfl) T.QI qu (ja (pv 4) jc)) jb)))
  (jd (jp (i:=6) Jw.nd rfl (.inl rfl) (j4 jc))
  (jd (qh PassesOwn.never rfl (qK (by rfl) T.Q2 (ja (pv 1) jc)) (jt (i:=7) Jw.nd rfl (.inl rfl))
   (jd (jp (i:=8) Jw.nd rfl (.inl rfl) (jk zJ (ji W7 (pv 2) (jk qy (pv 7) jb)) (ji W7 (pv 2) (jk jC (pv 7) jb))))
   (je (jV (jm Jh (jk jC (ji jo (pv 3) jb) jb) jb (nomark _))
    (je (jA (qO PySem.F.plainAttrs_list PySem.F.slot_list_append PySem.F.type_list_append jJ (pv 6) (ja (jk zJ (jk zJ (qz wL (pv 4) Q6 (qP (pv 5))) (pv 8)) (qz wL (pv 4) (qP (pv 5)) Q6)) jc))))
    (je (jV (jm Jh (jk jC (ji jo (pv 3) jb) jb) jb (nomark _))
     (je (jA (qO PySem.F.plainAttrs_list PySem.F.slot_list_append PySem.F.type_list_append jJ (pv 6) (ja (jk zJ (pv 8) (qz wL (pv 4) Q6 (qP (jk jC (pv 7) (jk jT (ju jX (by rfl) T.QI qu (ja (pv 4) jc)) jb))))) jc))))
     (je (jA (qO PySem.F.plainAttrs_list PySem.F.slot_list_append PySem.F.type_list_append jJ (pv 6) (ja (qz wL (pv 8) (qP (qg Xy (by rfl) T.j0a WR (ja (Y2 KH (pv 7) jb (nomark _)) jc))) Q6) jc))))))))))
  (je (jB (pv 6))))))))),?_⟩
 refine jz (σ':=[some _,some _,none,none,none,none,none,none,none]) rfl ?_;have sz:(200:Nat)<sizeLine:=by decide
 exists⟨_,_,rfl,by omega,by omega,fun p ns H1 s1 hp hl hn hb hst=>?_⟩;have hb':∀k:Int,0<=k->k<9->0<=Pr.cell ns k:=fun k h0 h1=>(hb _ (List.mem_of_getElem? (Pr.Wg (ns:=ns) (k:=k) h0 (by omega)))).1
 exists⟨rfl,?_⟩;exists ixLm (SqL.of hl) (Pr.jD (by omega) (by omega)) ?_;exists⟨p,_,rfl,SqL.of hl,fun p3 hp3=>?_⟩;have b6:=hb' 6 (by omega) (by omega);have hcut:=Pr.j0c (ns:=ns) (m:=Pr.cell ns 6%7) (by omega) (by omega);rw[hcut];have s4:=Pr.jy hp3 (.lst ((ns.take (Pr.cell ns 6%7).toNat).map V.int));have e3:upd H1 p3 (.lst ((ns.take (Pr.cell ns 6%7).toNat).map V.int)) p3=some (.lst ((ns.take (Pr.cell ns 6%7).toNat).map V.int)):=jg;generalize upd H1 p3 (.lst ((ns.take (Pr.cell ns 6%7).toNat).map V.int))=H4 at s4 e3|-;have hml:(ns.take (Pr.cell ns 6%7).toNat).length<=6:=by rw[length_take];omega
 have eba:baF c=Txt.join (Str.ofString "") ((ns.take (Pr.cell ns 6%7).toNat).map ltF):=by rw[hst];rfl
 generalize ns.take (Pr.cell ns 6%7).toNat=ms at e3 hml eba|-;refine⟨p3,rfl,⟨_,SqL.of e3⟩,?_⟩;refine jH (xs:=ms.map V.int) (fun i ys H'=>∃zs:List Str,ys=zs.map V.str/\zs.length=i/\(∀z∈zs,∃c,z=⟨#[c]⟩/\97<=c/\c<=122)/\zs=(ms.take i).map ltF/\H4=H') ⟨[],rfl,rfl,(fun z h=>nomatch h),rfl,rfl⟩ ?_ ?_ ?_
 ·rintro i ys H' _ ⟨zs,rfl,hz,h1,ezs,rfl⟩;exact SqL.of e3
 ·rintro i x ys H' hx ⟨zs,rfl,hz,h1,ezs,rfl⟩;rw[List.getElem?_map]at hx;obtain⟨n,hn',rfl⟩:=Option.map_eq_some_iff.mp hx;have hi:=(List.getElem?_eq_some_iff.mp hn').1;refine Ji (σ':=[none,some _]) rfl ?_;exists iteT ?_;exists⟨_,_,_,rfl,rfl,(by decide +kernel),W9 (by omega) (by omega),?_⟩;refine⟨by rw[length_map];omega,zs++[⟨#[97+(n%26).toNat]⟩],by rw[map_append];rfl,by simp[hz],fun y hy=>?_,by rw[ezs,take_snoc hn',map_append];rfl,rfl⟩;rcases mem_append.mp hy with w | w
  ·exact h1 y w
  ·have e:y=⟨#[97+(n%26).toNat]⟩:=by simpa using w
   exact⟨_,e,by omega,by omega⟩
 rintro ys H' ⟨zs,rfl,hz,h1,ezs,rfl⟩;rw[length_map]at hz;rw[length_map,take_length]at ezs;refine⟨by rw[length_map];omega,fun p4 hp4=>?_⟩;have s5:=Pr.jy hp4 (.lst (zs.map V.str));have e4:upd H4 p4 (.lst (zs.map V.str)) p4=some (.lst (zs.map V.str)):=jg;generalize upd H4 p4 (.lst (zs.map V.str))=H5 at s5 e4|-;have h1':∀z∈zs,z.length=1:=fun z hz=>by obtain⟨c,rfl,_⟩:=h1 z hz;rfl
 have hone:(zs.map (·.length)).sum=zs.length:=Ws.WI zs h1';have ee:(Str.ofString "").length=0:=by decide +kernel
 have hsum:(zs.map (·.length)).sum+zs.length*(Str.ofString "").length<=16777216:=by rw[hone,ee];omega
 exists⟨_,p4,zs,rfl,rfl,SqL.of e4,hsum,?_⟩;obtain⟨hxl,hxc⟩:=Xw (zs:=zs) h1;rw[<-ezs]at eba;generalize Txt.join (Str.ofString "") zs=x at hxl hxc eba|-;have s6:=s1.trans (s4.trans s5);have hl5:=s5 _ _ (s4 _ _ hl);have b7:=hb' 7 (by omega) (by omega);have b8:=hb' 8 (by omega) (by omega);exists ixLm (SqL.of hl5) (Pr.jD (by omega) (by omega)) ?_;exists⟨_,_,rfl,⟨by omega,rfl⟩,?_⟩;walk_at"g";have a0:=Int.emod_nonneg (Pr.cell ns 7) (show(x.length:Int)+1≠0 by omega);have a1:=Int.emod_lt_of_pos (Pr.cell ns 7) (show 0<(x.length:Int)+1 by omega);have enm:∀j,nmC c j=nmL (Pr.cell ns 8%3) x.cps.toList (Pr.cell ns 7%((x.length:Int)+1)).toNat j:=fun j=>by
  unfold nmC;rw[eba,hst];rfl
 generalize Pr.cell ns 7%((x.length:Int)+1)=a at a0 a1 enm|-;refine⟨Nat.zero_le _,fun p5 hp5=>?_⟩;exists⟨_,rfl,by omega,by omega,?_⟩;have np:p≠p5:=jf hl5 hp5;refine Qf (fun i σ H'=>∃(o7 o8:Option V) (ws:List Str),σ=[some (.int c),some (.int (n:Nat)),some (.str "abcdefghijklmnopqrstuvwxyz"),some (.ref p),some (.str x),some (.int a),some (.ref p5),o7,o8]/\Same H5 H'/\H' p5=some (.lst (ws.map V.str))/\ws.length=i/\∀j,j<i->(ws[j]?).map (·.cps.toList)=some (nmL (Pr.cell ns 8%3) x.cps.toList a.toNat j))
  ⟨_,_,[],rfl,Pr.jy hp5 _,jg,rfl,fun j hj=>absurd hj (Nat.not_lt_zero j)⟩ ?_ ?_
 ·rintro i σ H' hi ⟨o7,o8,ws,rfl,sm,hl',hn',hw⟩;have hi':i<74:=by omega
  exists⟨_,_,_,rfl,rfl,(by decide +kernel),W9 (by omega) (by omega),?_⟩;exists⟨_,_,_,rfl,rfl,(by decide +kernel),W9 (by omega) (by omega),?_⟩;have one:∀c:Nat,(⟨#[c]⟩:Str).length=1:=fun _=>rfl
  refine⟨_,_,rfl,rfl,by rw[one,one];omega,?_⟩;obtain⟨two,etwo⟩:∃two,two=(⟨#[97+((0+(i:Int))/26).toNat]⟩:Str)++⟨#[97+((0+(i:Int))%26).toNat]⟩:=⟨_,rfl⟩
  rw[<-etwo];have ltwo:two.length=2:=by rw[etwo,Str.length_append];rfl
  have ctwo:two.cps.toList=[97+i/26,97+i%26]:=by
   rw[etwo,app_list];show[97+((0+(i:Int))/26).toNat]++[97+((0+(i:Int))%26).toNat]=_;rw[show((0+(i:Int))/26).toNat=i/26 by omega,show((0+(i:Int))%26).toNat=i%26 by omega];rfl
  clear etwo;exists ixLm (SqL.of (sm _ _ hl5)) (Pr.jD (by omega) (by omega)) ?_;walk_at"g";have fin:∀y:Str,y.cps.toList=nmL (Pr.cell ns 8%3) x.cps.toList a.toNat i->∃(o7' o8':Option V) (ws':List Str),[some (V.int c),some (.int (n:Nat)),some (.str "abcdefghijklmnopqrstuvwxyz"),some (.ref p),some (.str x),some (.int a),some (.ref p5),some (.int (0+(i:Int))),some (.str two)]=[some (V.int c),some (.int (n:Nat)),some (.str "abcdefghijklmnopqrstuvwxyz"),some (.ref p),some (.str x),some (.int a),some (.ref p5),o7',o8']/\Same H5 (upd H' p5 (.lst (ws.map V.str++[.str y])))/\upd H' p5 (.lst (ws.map V.str++[.str y])) p5=some (.lst (ws'.map V.str))/\ws'.length=i+1/\∀j,j<i+1->(ws'[j]?).map (·.cps.toList)=some (nmL (Pr.cell ns 8%3) x.cps.toList a.toNat j):=
   fun y hy=>⟨_,_,ws++[y],rfl,Ws.y9 sm hp5,by rw[jg,map_append];rfl,by simp[hn'],j1v hn' hw hy⟩
  refine iteD (fun c1=>?_) (fun c1=>?_)
  ·exists⟨.inl ⟨rfl,_,SqL.of hl'⟩,?_⟩;walk_at"g";have j1:=Txt.slice_le x none (some a);have j2:=Txt.slice_le x (some a) none;refine⟨by omega,?_⟩;exists⟨_,_,rfl,rfl,by omega,?_⟩;exists⟨by omega,?_⟩;refine⟨_,_,rfl,rfl,by rw[Str.length_append];omega,?_⟩;exists⟨p5,_,_,rfl,rfl,hl',by rw[length_map];omega,?_⟩;exists fin _ ?_;rw[app_list,app_list,cutTo (by omega) (by omega),cutFrom (by omega) (by omega),ctwo];unfold nmL;rw[if_pos c1]
  ·exists ixLm (SqL.of (sm _ _ hl5)) (Pr.jD (by omega) (by omega)) ?_;exists iteD (fun c2=>?_) (fun c2=>?_)
   ·exists⟨.inl ⟨rfl,_,SqL.of hl'⟩,?_⟩;exists⟨_,_,rfl,⟨by omega,rfl⟩,?_⟩;walk_at"g";have d0:=Int.emod_nonneg (0+(i:Int)) (show(x.length:Int)+1≠0 by omega);have d1:=Int.emod_lt_of_pos (0+(i:Int)) (show 0<(x.length:Int)+1 by omega);have j1:=Txt.slice_le x none (some ((0+(i:Int))%((x.length:Int)+1)));refine⟨by omega,?_⟩;refine⟨_,_,rfl,rfl,by omega,?_⟩;exists⟨p5,_,_,rfl,rfl,hl',by rw[length_map];omega,?_⟩;exists fin _ ?_;rw[app_list,cutTo (by omega) (by omega),ctwo];unfold nmL;rw[if_neg c1,if_pos c2,Ws.kz,show((0+(i:Int))%((x.length:Int)+1)).toNat=i%(x.length+1) by rw[Int.zero_add];exact Int.toNat_natCast _]
   ·exists⟨.inl ⟨rfl,_,SqL.of hl'⟩,?_⟩;exists .inr ⟨_,rfl,?_⟩;walk_at"g";have j1:=Txt.slice_le two (some (if decide (0+(i:Int)<26)=true then 1 else 0)) none;refine⟨by omega,?_⟩;exists⟨p5,_,_,rfl,rfl,hl',by rw[length_map];omega,?_⟩;exists fin _ ?_;unfold nmL;rw[if_neg c1,if_neg c2];by_cases c3:i<26
    ·rw[if_pos (decide_eq_true (by omega)),if_pos c3,cutFrom (by omega) (by omega),ctwo];rfl
    ·rw[if_neg (by simp;omega),if_neg c3,cutFrom (by omega) (by omega),ctwo];rfl
 ·rintro σ H' ⟨o7,o8,ws,rfl,sm,hl',hn',hw⟩;walk_at"g";obtain⟨g1,g2⟩:=Wv (ws:=ws) n74 hxc (by rw[Ws.kz];omega) hn' hw;refine q p5 ws _ (s6.trans sm) (none_of s6 hp5) hl' (by omega) (fun j hj=>?_) g1 g2;rw[enm];exact hw j (by omega)
theorem kE(T:Txt K mg t):FnOk P w K mg base CX0 1 t.JX t.JZ ["_law_cell","_law_mixed","_law_least"] (yh):=by
 refine T.Qo.ok zO (fun vs H Q E h=>?_) (fun cdv A outer s H vs Q E hr h=>?_)
 ·obtain⟨c,m,l,rfl,m0,m1,l0,l1,q⟩:=h;rfl
 obtain⟨c,m,l,rfl,m0,m1,l0,l1,q⟩:=h;refine⟨_,(jd (jp (i:=3) zO.nd rfl (.inl rfl) (jk jC (pv 1) jb))
  (jd (jV (jm Jh (pv 3) jb (nomark _))
   (je (jB (jk jT (pv 2) (jk jC (jk qy (pv 1) jb) jb))))
   jw)
  (jd (jV (jm Jh (pv 3) jb (nomark _))
   (je (jB (jk jT (pv 2) (jk jC (pv 0) (jk yy (jk jT (jk qv jb jb) jb) (pv 2))))))
   jw)
  (jd (jV (jm Jh (pv 3) jb (nomark _))
   (je (jB (jk jT (pv 2) (jk jC (jk Qh (jk Qh (pv 1) (pv 1)) jb) (jk yy (jk jT (jk qv jb jb) jb) (pv 2))))))
   jw)
  (jd (jp (i:=4) zO.nd rfl (.inl rfl) (jk yy (jk jT (qg Xz (by rfl) T.j0a WR (ja (jk zJ jn (jk j1A jn (jk jC (jk qy (pv 1) jb) jb))) jc)) (jk jC (jk qy (pv 1) jb) jb)) jb))
  (je (jB (ju (XB rfl) (by rfl) T.xN K1 (ja (pv 2) (ja (ju (Kr rfl) (by rfl) T.j1U j0b (ja (jk qv jb jb) (ja (pv 4) jc))) jc)))))))))),?_⟩
 refine jz (σ':=[some _,some _,some _,none,none]) rfl ?_;have a0:=Int.emod_nonneg c (show(10^18+1-l:Int)≠0 by omega);have a1:=Int.emod_lt_of_pos c (show(0:Int)<10^18+1-l by omega);have b0:=Int.emod_nonneg (m*m*48271) (show(10^18+1-l:Int)≠0 by omega);have b1:=Int.emod_lt_of_pos (m*m*48271) (show(0:Int)<10^18+1-l by omega);have mm:=j2o (x:=m) (y:=m) (A:=33554432) (B:=33554432) (by omega) (by omega) (by omega) (by omega);exists iteD (fun c1=>?_) (fun c1=>?_)
 ·exists q _ ?_ ?_<;>omega
 exists iteD (fun c2=>?_) (fun c2=>?_)
 ·exists q _ ?_ ?_<;>omega
 exists iteD (fun c3=>?_) (fun c3=>?_)
 ·exists q _ ?_ ?_<;>omega
 exists⟨_,_,rfl,rfl,mulOk0 (by omega) (by omega),?_⟩;exists⟨_,_,rfl,rfl,j0U (by omega) (by omega),?_⟩;exists⟨_,_,rfl,tens (by omega) (by omega),j04 (by omega) (by omega),?_⟩;walk_at"g";generalize(10:Int)^(m/4%19).toNat+m/76%3-1=y;refine⟨_,_,rfl,?_⟩;exists⟨_,_,rfl,q _ ?_ ?_⟩<;>repeat' split<;>omega
theorem WA(T:Txt K mg t):FnOk P w K mg base CX0 1 t.QV t.QW ["_law_room_here","_law_form","_law_hands","_law_long_here"] (sp_add):=by
 refine T.Qw.ok WF (fun vs H Q E h=>?_) (fun cdv A outer s H vs Q E hr h=>?_)
 ·cases h;subst_vars;rfl
 obtain⟨z,m,fa,ha,f,ks,g,rfl,R,hf,hh,l1,l2,l3,l4,q⟩:=h;refine⟨_,(jd (jA (qO PySem.F.plainAttrs_list PySem.F.slot_list_append PySem.F.type_list_append jJ (jE (jU hr) (pv 0) jn) (ja (jM (ja (ji jo (jE (jU hr) (pv 0) jn) (ju jX (by rfl) T.QI qu (ja (jE (jU hr) (pv 0) jn) jc))) (ja (pv 1) jc))) jc)))
  (jd (jA (qO PySem.F.plainAttrs_list PySem.F.slot_list_append PySem.F.type_list_append jJ (jE (jU hr) (pv 0) jn) (ja (pv 2) jc)))
  (je (jA (qO PySem.F.plainAttrs_list PySem.F.slot_list_append PySem.F.type_list_append jJ (jE (jU hr) (pv 0) jn) (ja (pv 3) jc)))))),?_⟩
 refine jz (σ':=[some _,some _,some _,some _]) rfl ?_;have sz:(200:Nat)<sizeLine:=by decide
 obtain⟨qs,eq,aq⟩:=R.p;obtain⟨hs,eh,ah⟩:=R.h;have hq:=aq.1;have hhl:=ah.1;exists⟨_,_,rfl,qI R,?_⟩;refine⟨.inl ⟨rfl,_,SqL.of eq⟩,?_⟩;exists⟨_,_,rfl,Kx R,?_⟩;exists⟨_,_,rfl,qI R,?_⟩;exists⟨_,_,rfl,.inl ⟨_,SqL.of eq,rfl⟩,?_⟩;rw[length_map,hq];refine ixLm (SqL.of R.n) (xM (by omega)) ?_;exists⟨(by show 2<=sizeLine;omega),fun p hp=>?_⟩;have s1:=Pr.jy hp (.tup [.str (m.names.getD m.parts.length ⟨#[]⟩),.ref fa]);have e1:upd H p (.tup [.str (m.names.getD m.parts.length ⟨#[]⟩),.ref fa]) p=some (.tup [.str (m.names.getD m.parts.length ⟨#[]⟩),.ref fa]):=jg;generalize upd H p (.tup [.str (m.names.getD m.parts.length ⟨#[]⟩),.ref fa])=H1 at s1 e1|-;have R1:=R.keeps s1;have hf1:FormAt H1 fa f:=FormAt.kp R (Kp.of s1) hf;have hh1:HandAt z H1 ha ks:=⟨s1 _ _ hh.1,hh.2⟩
 have aq1:All2 (PartAt H1) qs m.parts:=aq.mono fun a x h=>PartAt.kp R (Kp.of s1) h
 have ah1:All2 (HandAt z H1) hs m.hands:=ah.mono fun a x h=>⟨s1 _ _ h.1,h.2⟩
 have eq1:=s1 _ _ eq;have eh1:=s1 _ _ eh;have od:=Wy R;exists⟨_,_,_,rfl,rfl,eq1,by rw[length_map];omega,?_⟩;walk_at"g";have d2:upd H1 z.pp (.lst (qs.map V.ref++[.ref p])) z.r=_:=(jh od.1).trans R1.d;have eh2:upd H1 z.pp (.lst (qs.map V.ref++[.ref p])) z.ph=_:=(jh R.ph.symm).trans eh1;have eg2:upd H1 z.pp (.lst (qs.map V.ref++[.ref p])) z.pg=_:=(jh R.pg.symm).trans R1.g;have ep2:upd H1 z.pp (.lst (qs.map V.ref++[.ref p])) z.pp=_:=jg;have k2:Kp z H1 (upd H1 z.pp (.lst (qs.map V.ref++[.ref p]))):=fun b u o h=>(jh o.1).trans h
 generalize upd H1 z.pp (.lst (qs.map V.ref++[.ref p]))=H2 at d2 eh2 eg2 ep2 k2|-;refine⟨_,_,rfl,DGet.k (k:=Sum.inr "hands") d2,?_⟩;refine⟨.inl ⟨rfl,_,SqL.of eh2⟩,?_⟩;exists⟨_,_,_,rfl,rfl,eh2,by rw[length_map];omega,?_⟩;walk_at"g";have d3:upd H2 z.ph (.lst (hs.map V.ref++[.ref ha])) z.r=_:=(jh od.2.1).trans d2;have eg3:upd H2 z.ph (.lst (hs.map V.ref++[.ref ha])) z.pg=_:=(jh R.hg.symm).trans eg2;have ep3:upd H2 z.ph (.lst (hs.map V.ref++[.ref ha])) z.pp=_:=(jh R.ph).trans ep2;have eh3:upd H2 z.ph (.lst (hs.map V.ref++[.ref ha])) z.ph=_:=jg;have k3:Kp z H1 (upd H2 z.ph (.lst (hs.map V.ref++[.ref ha]))):=fun b u o h=>(jh o.2.1).trans (k2 b u o h)
 generalize upd H2 z.ph (.lst (hs.map V.ref++[.ref ha]))=H3 at d3 eg3 ep3 eh3 k3|-;refine⟨_,_,rfl,DGet.k (k:=Sum.inr "long") d3,?_⟩;refine⟨.inl ⟨rfl,_,SqL.of eg3⟩,?_⟩;exists⟨_,_,_,rfl,rfl,eg3,by rw[length_map];omega,?_⟩;have eg4:upd H3 z.pg (.lst (m.longs.map V.int++[.int g])) z.pg=_:=jg;have ep4:upd H3 z.pg (.lst (m.longs.map V.int++[.int g])) z.pp=_:=(jh R.pg).trans ep3;have eh4:upd H3 z.pg (.lst (m.longs.map V.int++[.int g])) z.ph=_:=(jh R.hg).trans eh3;have k4:Kp z H1 (upd H3 z.pg (.lst (m.longs.map V.int++[.int g]))):=fun b u o h=>(jh o.2.2).trans (k3 b u o h)
 exact q _ (fun b u o h=>k4 b u o (s1 b u h)) (j08 R1 k4 eq1 aq1 eh1 ah1 ⟨fa,e1,hf1⟩ hh1 ep4 eh4 eg4) fun hs' e=>by rw[eh]at e;injection e with e;injection e with e;rw[map_append,<-e];exact eh4
theorem kF(T:Txt K mg t)(jF:FnOk P w K mg base CX0 1 t.Jt t.Ju ["_law_cell","_law_turn"] (Zp))(jW:FnOk P w K mg base CX0 1 t.JX t.JZ ["_law_cell","_law_mixed","_law_least"] (yh))(JV:FnOk P w K mg base CX0 1 t.QV t.QW ["_law_room_here","_law_form","_law_hands","_law_long_here"] (sp_add)):FnOk P w K mg base CX0 2 t.qG t.qH ["_law_room_here","_law_cell","_law_some"] (sp_simple):=by
 refine T.Q1.ok QQ (fun vs H Q E h=>?_) (fun cdv A outer s H vs Q E hr h=>?_)
 ·cases h;subst_vars;rfl
 obtain⟨z,m,c,p,ns,rfl,R,G,ml,hl,op,hn,hb,q⟩:=h;refine⟨_,(jd (jp (i:=3) QQ.nd rfl (.inl rfl) (jr (jW.mono (by decide)) hr (by rfl) T.Q4 T.Qo.kp T.Q0 .nil pass0 (ja (jr (jF.mono (by decide)) hr (by rfl) T.qJ T.JU.kp T.qE .nil pass0 (ja (pv 1) (ja jb jc))) (ja (ji jo (pv 2) jb) (ja jb jc)))))
  (je (jV (jm Jh (jk jC (ji jo (pv 2) jb) jb) jb (nomark _))
   (je (jA (jr (JV.mono (by decide)) hr (by rfl) T.QX T.Qw.kp T.QU .nil pass0 (ja (pv 0) (ja (jM (ja jn (ja (pv 3) jc))) (ja (j4 jc) (ja (pv 3) jc)))))))
   (je (jV (jm Jh (jk jC (ji jo (pv 2) jb) jb) jb (nomark _))
    (je (jA (jr (JV.mono (by decide)) hr (by rfl) T.QX T.Qw.kp T.QU .nil pass0 (ja (pv 0) (ja (jM (ja jn (ja (ji jo (jE (jU hr) (pv 0) jn) (jk jC (ji jo (pv 2) jb) jb)) (ja (pv 3) jc)))) (ja (j4 jc) (ja (pv 3) jc)))))))
    (jd (jp (i:=4) QQ.nd rfl (.inl rfl) (jk jC (ji jo (pv 2) jb) (ju jX (by rfl) T.QI qu (ja (jE (jU hr) (pv 0) jn) jc))))
    (jd (jp (i:=5) QQ.nd rfl (.inl rfl) (jr (jW.mono (by decide)) hr (by rfl) T.Q4 T.Qo.kp T.Q0 .nil pass0 (ja (jr (jF.mono (by decide)) hr (by rfl) T.qJ T.JU.kp T.qE .nil pass0 (ja (jk qy (pv 1) jb) (ja jb jc))) (ja (ji jo (pv 2) jb) (ja jb jc)))))
    (je (jA (jr (JV.mono (by decide)) hr (by rfl) T.QX T.Qw.kp T.QU .nil pass0 (ja (pv 0) (ja (jM (ja jn (ja (ji jv (ji jo (jE (jU hr) (pv 0) jn) (pv 4)) jb) (ja (pv 5) (ja (pv 3) jc))))) (ja (j4 (ja (pv 4) jc)) (ja (pv 3) jc)))))))))))))),?_⟩
 refine jz (σ':=[some _,some _,some _,none,none,none]) rfl ?_;have sz:(200:Nat)<sizeLine:=by decide
 have nl:=G.nl;have e1:=G.hl;have e2:=G.gl;have c0:=hb.cell (k:=0) (by omega) (by omega);have c1:=hb.cell (k:=1) (by omega) (by omega);have c2:=hb.cell (k:=2) (by omega) (by omega);have c3:=hb.cell (k:=3) (by omega) (by omega);exists⟨_,_,rfl,by omega,by omega,fun wn=>?_⟩;exists ixLm (SqL.of hl) (Pr.jD (by omega) (by omega)) ?_;exists⟨_,_,_,rfl,by omega,by omega,by omega,by omega,fun b b1 b2=>?_⟩;exists ixLm (SqL.of hl) (Pr.jD (by omega) (by omega)) ?_;exists iteD (fun d1=>?_) (fun d1=>?_)
 ·exists⟨(by show 2<=sizeLine;omega),fun p1 hp1=>?_⟩;have s1:=Pr.jy hp1 (.tup [.str "hold",.int b]);have t1:upd H p1 (.tup [.str "hold",.int b]) p1=some (.tup [.str "hold",.int b]):=jg;generalize upd H p1 (.tup [.str "hold",.int b])=H1 at s1 t1|-;have R1:=R.keeps s1;exists⟨Nat.zero_le _,fun p2 hp2=>?_⟩;have s2:=Pr.jy hp2 (.lst []);have t2:upd H1 p2 (.lst []) p2=some (.lst []):=jg;generalize upd H1 p2 (.lst [])=H2 at s2 t2|-;have R2:=R1.keeps s2;exists⟨z,m,p1,p2,.hold b,[],b,rfl,R2,s2 _ _ t1,⟨t2,ZA R1 hp2⟩,by omega,by omega,by omega,nl,fun H' k R' _=>?_⟩;exact q _ _ ((Kp.of (s1.trans s2)).trans k) R' (G.add ⟨⟨b1,b2,rfl,rfl⟩,(fun z h=>nomatch h),.nil,by omega,by omega⟩) Z7
 exists ixLm (SqL.of hl) (Pr.jD (by omega) (by omega)) ?_;exists iteD (fun d2=>?_) (fun d2=>?_)
 ·exists⟨_,_,rfl,Kx R,?_⟩;exists ixLm (SqL.of hl) (Pr.jD (by omega) (by omega)) ?_;exists ixLm (SqL.of R.n) (wT (by omega) (by omega)) ?_;have hx:=getD_in (ws:=m.names) (n:=(Pr.cell ns 1%60).toNat) (by omega);generalize m.names.getD (Pr.cell ns 1%60).toNat ⟨#[]⟩=x at hx|-;exists⟨(by show 3<=sizeLine;omega),fun p1 hp1=>?_⟩;have s1:=Pr.jy hp1 (.tup [.str "ring",.str x,.int b]);have t1:upd H p1 (.tup [.str "ring",.str x,.int b]) p1=some (.tup [.str "ring",.str x,.int b]):=jg;generalize upd H p1 (.tup [.str "ring",.str x,.int b])=H1 at s1 t1|-;have R1:=R.keeps s1;exists⟨Nat.zero_le _,fun p2 hp2=>?_⟩;have s2:=Pr.jy hp2 (.lst []);have t2:upd H1 p2 (.lst []) p2=some (.lst []):=jg;generalize upd H1 p2 (.lst [])=H2 at s2 t2|-;have R2:=R1.keeps s2;exists⟨z,m,p1,p2,.ring x b,[],b,rfl,R2,s2 _ _ t1,⟨t2,ZA R1 hp2⟩,by omega,by omega,by omega,nl,fun H' k R' _=>?_⟩;exact q _ _ ((Kp.of (s1.trans s2)).trans k) R' (G.add ⟨⟨hx,b1,b2,rfl,rfl⟩,(fun z h=>nomatch h),.nil,by omega,by omega⟩) Z7
 exists ixLm (SqL.of hl) (Pr.jD (by omega) (by omega)) ?_;walk_at"g";obtain⟨ls,el,al⟩:=R.l;have l1:=G.l1;have l8:=G.l8;have la:=al.1;refine⟨_,_,rfl,Zj R,?_⟩;exists⟨_,_,rfl,.inl ⟨_,SqL.of el,rfl⟩,?_⟩;rw[length_map,la];walk_at"g";have i0:=Int.emod_nonneg (Pr.cell ns 1) (show(m.limbs.length:Int)≠0 by omega);have i1:=Int.emod_lt_of_pos (Pr.cell ns 1) (show 0<(m.limbs.length:Int) by omega);generalize Pr.cell ns 1%(m.limbs.length:Int)=j at i0 i1|-;refine⟨_,_,rfl,by omega,by omega,fun wn2=>?_⟩;exists ixLm (SqL.of hl) (Pr.jD (by omega) (by omega)) ?_;exists⟨_,_,_,rfl,by omega,by omega,by omega,by omega,fun h h1 h2=>?_⟩;exists⟨_,_,rfl,Zj R,?_⟩;walk_at"g";obtain⟨x,v,hx⟩:∃x v,m.limbs[j.toNat]?=some (x,v):=⟨_,_,List.getElem?_eq_getElem (by omega)⟩
 obtain⟨a,ha,hat⟩:=al.get hx;refine ixLm (SqL.of el) (qa i0 ha) ?_;exists ixTm (SqT.of hat) rfl ?_;exists⟨(by show 4<=sizeLine;omega),fun p1 hp1=>?_⟩;have s1:=Pr.jy hp1 (.tup [.str "raise",.str x,.int h,.int b]);have t1:upd H p1 (.tup [.str "raise",.str x,.int h,.int b]) p1=some (.tup [.str "raise",.str x,.int h,.int b]):=jg;generalize upd H p1 (.tup [.str "raise",.str x,.int h,.int b])=H1 at s1 t1|-;have R1:=R.keeps s1;exists⟨(by show 1<=sizeLine;omega),fun p2 hp2=>?_⟩;have s2:=Pr.jy hp2 (.lst [.int j]);have t2:upd H1 p2 (.lst [.int j]) p2=some (.lst [.int j]):=jg;generalize upd H1 p2 (.lst [.int j])=H2 at s2 t2|-;have R2:=R1.keeps s2;exists⟨z,m,p1,p2,.rise x h b,[j],b,rfl,R2,s2 _ _ t1,⟨t2,ZA R1 hp2⟩,by omega,by omega,by omega,nl,fun H' k R' _=>?_⟩;refine q _ _ ((Kp.of (s1.trans s2)).trans k) R' (G.add ⟨⟨⟨j.toNat,v,hx,by rw[Int.toNat_of_nonneg i0]⟩,h1,h2,b1,b2,rfl⟩,fun k hk=>?_,pairwise_singleton _ _,by omega,by omega⟩) Z7;have e:k=j:=by simpa using hk
 omega
theorem Ke(T:Txt K mg t):FnOk P w K mg base CX0 1 t.Qa t.Qd ["_law_room_here","_law_number_here"] (sp_there):=by
 refine T.Zt.ok yp (fun vs H Q E h=>?_) (fun cdv A outer s H vs Q E hr h=>?_)
 ·cases h;subst_vars;rfl
 obtain⟨z,m,n,rfl,R,hm,n0,q⟩:=h;refine⟨_,(jd (jp (i:=2) yp.nd rfl (.inl rfl) (ju jX (by rfl) T.QI qu (ja (jE (jU hr) (pv 0) jn) jc)))
  (jd (jV (jm Jh (jk jC (pv 1) jb) jb (nomark _))
   (je (jB (jk yy (jk yy (pv 2) jb) (jk jC (jk qy (pv 1) jb) (ju (Kr rfl) (by rfl) T.j1U j0b (ja (pv 2) (ja jb jc)))))))
   jw)
  (je (jB (jk jC (jk qy (pv 1) jb) (pv 2)))))),?_⟩
 refine jz (σ':=[some _,some _,none]) rfl ?_;obtain⟨qs,eq,aq⟩:=R.p;have hq:=aq.1;exists⟨_,_,rfl,qI R,?_⟩;exists⟨_,_,rfl,.inl ⟨_,SqL.of eq,rfl⟩,?_⟩;rw[length_map,hq];generalize m.parts.length=k at hm q|-;exists iteD (fun c1=>?_) (fun c1=>?_)
 ·exists⟨_,_,rfl,?_⟩;have e:0<(if(6:Int)<(k:Int)then(6:Int)else k)/\(if(6:Int)<(k:Int)then(6:Int)else k)<=k:=by split<;>omega
  generalize(if(6:Int)<(k:Int)then(6:Int)else k)=w at e|-;walk_at"g";have a0:=Int.emod_nonneg (n/2) (show w≠0 by omega);have a1:=Int.emod_lt_of_pos (n/2) (show 0<w by omega);exact Xc q (by omega) (by omega)
 ·walk_at"g";have a0:=Int.emod_nonneg (n/2) (show(k:Int)≠0 by omega);have a1:=Int.emod_lt_of_pos (n/2) (show 0<(k:Int) by omega);exact Xc q (by omega) (by omega)
theorem Ka(T:Txt K mg t)(qZ:FnOk P w K mg base CX0 1 t.Qa t.Qd ["_law_room_here","_law_number_here"] (sp_there)):FnOk P w K mg base CX0 2 t.QF t.QK ["_law_room_here","_law_some"] (sp_apart):=by
 refine T.yG.ok Je (fun vs H Q E h=>?_) (fun cdv A outer s H vs Q E hr h=>?_)
 ·cases h;subst_vars;rfl
 obtain⟨z,m,p,ns,rfl,R,G,hm,ml,hl,hn,hb,q⟩:=h;refine⟨_,(jd (jp (i:=2) Je.nd rfl (.inl rfl) (j4 jc))
  (jd (jp (i:=3) Je.nd rfl (.inr rfl) (j4 jc))
  (jd (qh PassesOwn.never rfl (qK (by rfl) T.Q2 (ja (jk jT jb (jk jC (ji jo (pv 1) jb) jb)) jc)) (jt (i:=4) Je.nd rfl (.inl rfl))
   (jd (jp (i:=5) Je.nd rfl (.inl rfl) (jr (qZ.mono (by decide)) hr (by rfl) T.yR T.Zt.kp T.yE .nil pass0 (ja (pv 0) (ja (ji jo (pv 1) (jk jT jb (pv 4))) jc))))
   (je (qh PassesOwn.never rfl (qK (by rfl) T.Q2 (ja (ju jX (by rfl) T.QI qu (ja (jE (jU hr) (pv 0) jn) jc)) jc)) (jt (i:=6) Je.nd rfl (.inl rfl))
    (jd (jp (i:=7) Je.nd rfl (.inl rfl) (jk jC (jk jT (pv 5) (pv 6)) (ju jX (by rfl) T.QI qu (ja (jE (jU hr) (pv 0) jn) jc))))
    (jd (jp (i:=8) Je.nd rfl (.inl rfl) (ji jo (jE (jU hr) (pv 0) jn) (pv 7)))
    (je (jV (PW.pt (kJ (jm (j0B hr.units) (pv 8) (j4 jc) (nomark _)) (yZ (jm (xu hr.units) (j3 (ow:=["_law_hand"]) (ci:=[3]) rfl (CompScope.of (defScope zA) ["_law_room_here","_law_some","_law_there_here","_law_hands","_law_k","_law_first","_law_step","_law_one","_law_here"] rfl rfl (by decide +kernel)) (jZ (by decide)) (jQ (pv 8)) (fun _ _ _ _ _=>⟨(jt (i:=0) (Jb ["_law_room_here","_law_some","_law_there_here","_law_hands","_law_k","_law_first","_law_step","_law_one","_law_here"] rfl (by decide +kernel)) rfl (.inl rfl)),(yz (jm (ZB (K:=K) rfl) (pv 0) (pv 1) (by with_unfolding_all rfl))),(pv 0)⟩)) (j4 jc) (nomark _)))))
     (jd (jA (qO PySem.F.plainAttrs_list PySem.F.slot_list_append PySem.F.type_list_append jJ (pv 2) (ja (pv 7) jc)))
     (jd (jp (i:=3) Je.nd rfl (.inr rfl) (jk xt (pv 3) (pv 8)))
     (je j0G)))
     jw))))))))
  (je (jB (pv 2)))))),?_⟩
 refine jz (σ':=[some _,some _,none,none,none,none,none,none,none]) rfl ?_;have sz:(200:Nat)<sizeLine:=by decide
 have c1:=hb.cell (k:=1) (by omega) (by omega);obtain⟨ha,eha,aha⟩:=R.h;exists⟨Nat.zero_le _,fun p0 hp0=>?_⟩;have s0:=Pr.jy hp0 (.lst []);have t0:upd H p0 (.lst []) p0=some (.lst []):=jg;generalize upd H p0 (.lst [])=H0 at s0 t0|-;exists⟨Nat.zero_le _,fun p1 hp1=>?_⟩;have s1:=Pr.jy hp1 (.lst []);have t1:upd H0 p1 (.lst []) p1=some (.lst []):=jg;have t01:=s1 _ _ t0;generalize upd H0 p1 (.lst [])=H1 at s1 t1 t01|-;have s2:=s0.trans s1;exists ixLm (SqL.of (s2 _ _ hl)) (Pr.jD (by omega) (by omega)) ?_;exists⟨_,rfl,by omega,by omega,?_⟩;refine Qf (fun i σ H'=>∃(o4 o5 o6 o7 o8:Option V) (ph:Addr) (is:List Nat) (hs:List Int),σ=[some (.ref z.r),some (.ref p),some (.ref p0),some (.ref ph),o4,o5,o6,o7,o8]/\Same H H'/\H' p0=some (.lst (is.map vN))/\H' ph=some (.lst (hs.map V.int))/\p0≠ph/\is.length<=i/\hs.length<=8*i/\(∀j∈is,j<m.parts.length)/\Apart m is/\∀j∈is,∀k∈m.hd j,k∈hs)
  ⟨_,_,_,_,_,p1,[],[],rfl,s2,t01,t1,jf t0 hp1,Nat.le_refl _,Nat.le_refl _,(fun j h=>nomatch h),⟨(fun j h=>nomatch h),.nil⟩,(fun j h=>nomatch h)⟩ ?_ ?_
 ·rintro i σ H' hi ⟨o4,o5,o6,o7,o8,ph,is,hs,rfl,sm,e0,e1,n01,hil,hhl,hlt,hap,hin⟩;have hi':i<4:=by omega
  have Ri:=R.keeps sm;have ck:=hb.cell (k:=2+(0+(i:Int))) (by omega) (by omega);obtain⟨qs,eqs,aq⟩:=Ri.p;have hq:=aq.1;exists ixLm (SqL.of (sm _ _ hl)) (Pr.jD (by omega) (by omega)) ?_;exists⟨z,m,_,rfl,Ri,hm,by omega,fun f hf=>?_⟩;exists⟨_,_,rfl,qI Ri,?_⟩;exists⟨_,_,rfl,.inl ⟨_,SqL.of eqs,rfl⟩,?_⟩;rw[length_map,hq];exists⟨_,rfl,by omega,by omega,?_⟩;refine Qf (fun _ σ H2=>∃(o6 o7 o8:Option V),σ=[some (.ref z.r),some (.ref p),some (.ref p0),some (.ref ph),some (.int (0+(i:Int))),some (.int (f:Int)),o6,o7,o8]/\Same H' H2) ⟨_,_,_,rfl,Same.refl _⟩ ?_ ?_
  ·rintro i2 σ H2 hi2 ⟨o6,o7,o8,rfl,sm2⟩;have R2:=Ri.keeps sm2;exists⟨_,_,rfl,qI R2,?_⟩;exists⟨_,_,rfl,.inl ⟨_,SqL.of (sm2 _ _ eqs),rfl⟩,?_⟩;rw[length_map,hq];walk_at"g";have a0:=Int.emod_nonneg ((f:Int)+(0+(i2:Int))) (show(m.parts.length:Int)≠0 by omega);have a1:=Int.emod_lt_of_pos ((f:Int)+(0+(i2:Int))) (show 0<(m.parts.length:Int) by omega);obtain⟨j,ej⟩:∃j:Nat,((f:Int)+(0+(i2:Int)))%(m.parts.length:Int)=(j:Int):=⟨_,(Int.toNat_of_nonneg a0).symm⟩
   rw[ej]at a0 a1|-;have hj:j<m.parts.length:=by omega
   obtain⟨a,ha1,ha2,ha3⟩:=wa R G hj eha;have ha22:=sm2 _ _ (sm _ _ ha2);refine⟨_,_,rfl,Yp R2,?_⟩;exists ixLm (SqL.of (sm2 _ _ (sm _ _ eha))) (qa (i:=(j:Int)) (by omega) ha1) ?_;exists⟨Nat.zero_le _,fun p3 hp3=>?_⟩;have s3:=Pr.jy hp3 (.lst []);have t3:upd H2 p3 (.lst []) p3=some (.lst []):=jg;generalize upd H2 p3 (.lst [])=H3 at s3 t3|-;refine⟨_,_,j1V (s3 _ _ ha22),j1c t3,shp _,shp0,?_⟩;rw[j1W];exists iteN (fun d1=>?_) (fun d1=>?_)
   ·walk_at"g";have hj8:=j0l G hj;have ha33:=s3 _ _ ha22;have e13:=s3 _ _ (sm2 _ _ e1);refine⟨a,rfl,⟨_,SqL.of ha33⟩,?_⟩;refine jH (xs:=(m.hd j).map V.int) (fun i ys H'=>ys=(((m.hd j).take i).filter fun k=>decide (k∈hs)).map V.int/\H3=H') ⟨rfl,rfl⟩ ?_ ?_ ?_
    ·rintro i ys H' _ ⟨rfl,rfl⟩;exact SqL.of ha33
    ·rintro i x ys H' hx ⟨rfl,rfl⟩;rw[List.getElem?_map]at hx;obtain⟨n,hn',rfl⟩:=Option.map_eq_some_iff.mp hx;have hi:=(List.getElem?_eq_some_iff.mp hn').1;refine Ji (σ':=[none,some _]) rfl ?_;exists⟨ph,_,rfl,.inl (SqL.of e13),rfl,flats hs,?_⟩;rw[inI];walk_at"g";have hle:(((m.hd j).take i).filter fun k=>decide (k∈hs)).length<=8:=Nat.le_trans (length_filter_le _ _) (Nat.le_trans (List.length_take_le' _ _) hj8);refine iteD (fun d2=>?_) (fun d2=>?_)
     ·exists⟨by rw[length_map];omega,?_,rfl⟩;rw[take_snoc hn',filter_append,map_append,filter_cons,if_pos (decide_eq_true d2)];rfl
     ·refine⟨?_,rfl⟩;rw[take_snoc hn',filter_append,map_append,filter_cons,if_neg (by simpa using d2)];exact(append_nil _).symm
    ·rintro ys H' ⟨rfl,rfl⟩;rw[show((m.hd j).map V.int).length=(m.hd j).length from length_map _,take_length];have hle:((m.hd j).filter fun k=>decide (k∈hs)).length<=8:=Nat.le_trans (length_filter_le _ _) hj8;refine⟨by rw[length_map];omega,fun p4 hp4=>?_⟩;have s4:=Pr.jy hp4 (.lst (((m.hd j).filter fun k=>decide (k∈hs)).map V.int));have t4:upd H3 p4 (.lst (((m.hd j).filter fun k=>decide (k∈hs)).map V.int)) p4=some (.lst (((m.hd j).filter fun k=>decide (k∈hs)).map V.int)):=jg;generalize upd H3 p4 (.lst (((m.hd j).filter fun k=>decide (k∈hs)).map V.int))=H4 at s4 t4|-;exists⟨Nat.zero_le _,fun p5 hp5=>?_⟩;have s5:=Pr.jy hp5 (.lst []);have t5:upd H4 p5 (.lst []) p5=some (.lst []):=jg;generalize upd H4 p5 (.lst [])=H5 at s5 t5|-;refine⟨_,_,j1V (s5 _ _ t4),j1c t5,shp _,shp0,?_⟩;rw[j1W];walk_at"g";have s35:=s3.trans (s4.trans s5);have smm:=sm.trans (sm2.trans s35);refine iteD (fun d2=>?_) (fun d2=>?_)
     ·have e05:=s35 _ _ (sm2 _ _ e0);have e15:=s35 _ _ (sm2 _ _ e1);have ha5:=smm _ _ ha2;exists⟨.inl ⟨rfl,_,SqL.of e05⟩,?_⟩;exists⟨p0,_,_,rfl,rfl,e05,by rw[length_map];omega,?_⟩;have s6:Same H (upd H5 p0 (.lst (is.map vN++[.int (j:Int)]))):=Ws.y9 smm hp0;have e06:upd H5 p0 (.lst (is.map vN++[.int (j:Int)])) p0=some (.lst ((is++[j]).map vN)):=by rw[jg,map_append];rfl
      have e16:upd H5 p0 (.lst (is.map vN++[.int (j:Int)])) ph=_:=(jh n01.symm).trans e15;have ha6:=s6 _ _ ha2;generalize upd H5 p0 (.lst (is.map vN++[.int (j:Int)]))=H6 at s6 e06 e16 ha6|-;exists⟨ph,a,_,_,rfl,rfl,e16,ha6,by rw[length_map,length_map];omega,fun p7 hp7=>?_⟩;have s7:=Pr.jy hp7 (.lst (hs.map V.int++(m.hd j).map V.int));have e17:upd H6 p7 (.lst (hs.map V.int++(m.hd j).map V.int)) p7=some (.lst ((hs++m.hd j).map V.int)):=by rw[jg,map_append]
      generalize upd H6 p7 (.lst (hs.map V.int++(m.hd j).map V.int))=H7 at s7 e17|-;exists⟨_,_,_,_,_,p7,is++[j],hs++m.hd j,rfl,s6.trans s7,s7 _ _ e06,e17,jf e06 hp7,by rw[List.length_append,List.length_singleton];omega,by rw[List.length_append];omega,fun x hx=>?_,hap.snoc hin d1 fun k hk hk'=>?_,fun x hx k hk=>?_⟩
      ·rcases mem_append.mp hx with e | e
       ·exact hlt x e
       ·have e':x=j:=by simpa using e
        omega
      ·have:k∈(m.hd j).filter fun k=>decide (k∈hs):=mem_filter.mpr ⟨hk,decide_eq_true hk'⟩
       rw[d2]at this;cases this
      ·rcases mem_append.mp hx with e | e
       ·exact mem_append_left _ (hin x e k hk)
       ·have e':x=j:=by simpa using e
        subst e';exact mem_append_right _ hk
     ·exact⟨_,_,_,rfl,sm2.trans s35⟩
   ·refine iteF ?_;exact⟨_,_,_,rfl,sm2.trans s3⟩
  ·rintro σ H2 ⟨o6,o7,o8,rfl,sm2⟩;walk_at"g";exact⟨_,_,_,_,_,ph,is,hs,rfl,sm.trans sm2,sm2 _ _ e0,sm2 _ _ e1,n01,by omega,by omega,hlt,hap,hin⟩
 ·rintro σ H' ⟨o4,o5,o6,o7,o8,ph,is,hs,rfl,sm,e0,e1,n01,hil,hhl,hlt,hap,hin⟩;walk_at"g";exact q p0 is H' sm hp0 e0 (by omega) hlt hap
theorem kD(T:Txt K mg t)(jF:FnOk P w K mg base CX0 1 t.Jt t.Ju ["_law_cell","_law_turn"] (Zp))(jW:FnOk P w K mg base CX0 1 t.JX t.JZ ["_law_cell","_law_mixed","_law_least"] (yh))(JV:FnOk P w K mg base CX0 1 t.QV t.QW ["_law_room_here","_law_form","_law_hands","_law_long_here"] (sp_add))(JW:FnOk P w K mg base CX0 2 t.qG t.qH ["_law_room_here","_law_cell","_law_some"] (sp_simple))(qZ:FnOk P w K mg base CX0 1 t.Qa t.Qd ["_law_room_here","_law_number_here"] (sp_there))(Zv:FnOk P w K mg base CX0 2 t.QF t.QK ["_law_room_here","_law_some"] (sp_apart)):FnOk P w K mg base CX0 3 t.Qp t.Qq ["_law_room_here","_law_cell","_law_some"] (sp_naming):=by
 refine T.yo.ok jG (fun vs H Q E h=>?_) (fun cdv A outer s H vs Q E hr h=>?_)
 ·cases h;subst_vars;rfl
 obtain⟨z,m,c,p,ns,rfl,R,G,hm,ml,hl,op,hn,hb,q⟩:=h;refine⟨_,(jd (Xm (i:=3) (ow:=["_law_one"]) (ci:=[0]) rfl (CompScope.of (defScope J1) ["_law_room_here","_law_cell","_law_some","_law_there_here","_law_long_here","_law_hands","_law_one","_law_names_here","_law_times"] rfl rfl (by decide +kernel)) (jZ (by decide)) jG.nd rfl (.inl rfl) (jQ (qz ZI (pv 2) (qP jb) (qP (jk jT jb (jk jC (ji jo (pv 2) jb) jb))))) (fun _ _ _ _ _=>⟨(jt (i:=0) (Jb ["_law_room_here","_law_cell","_law_some","_law_there_here","_law_long_here","_law_hands","_law_one","_law_names_here","_law_times"] rfl (by decide +kernel)) rfl (.inl rfl)),qN,(jr (qZ.mono (by decide)) hr (by rfl) T.yR T.Zt.kp T.yE .nil pass0 (ja (pv 1) (ja (pv 0) jc)))⟩))
  (jd (Qx (jm Jh (jk jC (ji jo (pv 2) jb) jb) jb (nomark _))
   (jd (jp (i:=3) jG.nd rfl (.inl rfl) (jr (Zv.mono (by decide)) hr (by rfl) T.wl T.yG.kp T.KL .nil pass0 (ja (pv 0) (ja (pv 2) jc))))
   (je (jV (jm KH (ju jX (by rfl) T.QI qu (ja (pv 3) jc)) jb (nomark _))
    (jd (jA (jr (JW.mono (by decide)) hr (by rfl) T.Zb T.Q1.kp T.zY .nil pass0 (ja (pv 0) (ja (pv 1) (ja (pv 2) jc)))))
    (je j1D))
    jw)))
   jw)
  (jd (Xm (i:=4) (ow:=["_law_one"]) (ci:=[0]) rfl (CompScope.of (defScope J1) ["_law_room_here","_law_cell","_law_some","_law_there_here","_law_long_here","_law_hands","_law_one","_law_names_here","_law_times"] rfl rfl (by decide +kernel)) (jZ (by decide)) jG.nd rfl (.inl rfl) (jQ (pv 3)) (fun _ _ _ _ _=>⟨(jt (i:=0) (Jb ["_law_room_here","_law_cell","_law_some","_law_there_here","_law_long_here","_law_hands","_law_one","_law_names_here","_law_times"] rfl (by decide +kernel)) rfl (.inl rfl)),qN,(ji (qR (K:=K) rfl) (jE (jU hr) (pv 1) jn) (pv 0))⟩))
  (jd (Qx (PW.pt (kJ (jm Jh (jk jC (ji jo (pv 2) jb) jb) jb (nomark _)) (yZ (jm Zm (ju (ya rfl) (by rfl) T.xO K2 (ja (pv 4) jc)) (jk qv jb jb) (nomark _)))))
   (jd (jp (i:=3) jG.nd rfl (.inl rfl) (qz ZI (pv 3) Q6 (qP jb)))
   (je (jp (i:=4) jG.nd rfl (.inl rfl) (qz ZI (pv 4) Q6 (qP jb)))))
   jw)
  (jd (jp (i:=5) jG.nd rfl (.inr rfl) (j4 jc))
  (jd (qh PassesOwn.never rfl (jQ (pv 3)) (jt (i:=6) jG.nd rfl (.inl rfl))
   (je (jp (i:=5) jG.nd rfl (.inr rfl) (jk xt (pv 5) (j3 (ow:=["_law_hand"]) (ci:=[5]) rfl (CompScope.of (defScope J1) ["_law_room_here","_law_cell","_law_some","_law_there_here","_law_long_here","_law_hands","_law_one","_law_names_here","_law_times"] rfl rfl (by decide +kernel)) (jZ (by decide)) (jQ (ji jo (jE (jU hr) (pv 0) jn) (pv 6))) (fun _ _ _ _ _=>⟨(jt (i:=0) (Jb ["_law_room_here","_law_cell","_law_some","_law_there_here","_law_long_here","_law_hands","_law_one","_law_names_here","_law_times"] rfl (by decide +kernel)) rfl (.inl rfl)),(yz (jm (Ki (K:=K) rfl) (pv 0) (pv 1) (by with_unfolding_all rfl))),(pv 0)⟩))))))
  (jd (jp (i:=7) jG.nd rfl (.inl rfl) (qg Za (by rfl) T.KZ kb (ja (j3 (ow:=["_law_one"]) (ci:=[0]) rfl (CompScope.of (defScope J1) ["_law_room_here","_law_cell","_law_some","_law_there_here","_law_long_here","_law_hands","_law_one","_law_names_here","_law_times"] rfl rfl (by decide +kernel)) (jZ (by decide)) (jQ (pv 3)) (fun _ _ _ _ _=>⟨(jt (i:=0) (Jb ["_law_room_here","_law_cell","_law_some","_law_there_here","_law_long_here","_law_hands","_law_one","_law_names_here","_law_times"] rfl (by decide +kernel)) rfl (.inl rfl)),qN,(ji (Xe (K:=K) rfl) (ji (qR (K:=K) rfl) (jE (jU hr) (pv 1) jn) (pv 0)) jb)⟩)) jc)))
  (je (jV (jm Jh (jk jC (ji jo (pv 2) jb) jb) jb (nomark _))
   (je (jA (jr (JV.mono (by decide)) hr (by rfl) T.QX T.Qw.kp T.QU .nil pass0 (ja (pv 0) (ja (jM (ja jn (ja (pv 7) jc))) (ja (ju yL (by rfl) T.ka Yj (ja (pv 5) jc)) (ja (ju (ya rfl) (by rfl) T.xO K2 (ja (pv 4) jc)) jc)))))))
   (je (jV (jm Jh (jk jC (ji jo (pv 2) jb) jb) jb (nomark _))
    (je (jA (jr (JV.mono (by decide)) hr (by rfl) T.QX T.Qw.kp T.QU .nil pass0 (ja (pv 0) (ja (jM (ja jn (ja (pv 7) jc))) (ja (ju yL (by rfl) T.ka Yj (ja (pv 5) jc)) (ja (ju (Yk rfl) (by rfl) T.xN K1 (ja (pv 4) jc)) jc)))))))
    (jd (jp (i:=8) jG.nd rfl (.inl rfl) (jr (jW.mono (by decide)) hr (by rfl) T.Q4 T.Qo.kp T.Q0 .nil pass0 (ja (jr (jF.mono (by decide)) hr (by rfl) T.qJ T.JU.kp T.qE .nil pass0 (ja (pv 1) (ja jb jc))) (ja (ji jo (pv 2) jb) (ja jb jc)))))
    (jd (Qx (jm Zm (jk Qh (pv 8) (ji jo (pv 4) jb)) (jk qv jb jb) (nomark _))
     (je (jp (i:=8) jG.nd rfl (.inl rfl) jb))
     jw)
    (je (jA (jr (JV.mono (by decide)) hr (by rfl) T.QX T.Qw.kp T.QU .nil pass0 (ja (pv 0) (ja (jM (ja jn (ja (pv 8) (ja (ji jv (pv 7) jb) jc)))) (ja (ji jo (jE (jU hr) (pv 0) jn) (ji jo (pv 3) jb)) (ja (jk Qh (pv 8) (ji jo (pv 4) jb)) jc)))))))))))))))))))),?_⟩
 refine jz (σ':=[some _,some _,some _,none,none,none,none,none,none]) rfl ?_;have sz:(200:Nat)<sizeLine:=by decide
 have nl:=G.nl;have c0:=hb.cell (k:=0) (by omega) (by omega);have c1:=hb.cell (k:=1) (by omega) (by omega);exists ixLm (SqL.of hl) (Pr.jD (by omega) (by omega)) ?_;exists⟨p,_,rfl,SqL.of hl,fun p1 hp1=>?_⟩;rw[j1a (by omega) (by omega)];have hml:((ns.drop 2).take (3+Pr.cell ns 1%8-2).toNat).length=(1+Pr.cell ns 1%8).toNat:=by rw[length_take,length_drop];omega
 have hmb:∀n∈(ns.drop 2).take (3+Pr.cell ns 1%8-2).toNat,0<=n:=fun n h=>(hb n (List.mem_of_mem_drop (mem_of_mem_take h))).1
 generalize(ns.drop 2).take (3+Pr.cell ns 1%8-2).toNat=ms at hml hmb|-;have s1:=Pr.jy hp1 (.lst (ms.map V.int));have t1:upd H p1 (.lst (ms.map V.int)) p1=some (.lst (ms.map V.int)):=jg;generalize upd H p1 (.lst (ms.map V.int))=H1 at s1 t1|-;have R1:=R.keeps s1;refine⟨p1,rfl,⟨_,SqL.of t1⟩,?_⟩;refine jH (xs:=ms.map V.int) (fun i ys H'=>∃is:List Nat,ys=is.map vN/\is.length=i/\(∀j∈is,j<m.parts.length)/\H1=H') ⟨[],rfl,rfl,(fun z h=>nomatch h),rfl⟩ ?_ ?_ ?_
 ·rintro i ys H' _ ⟨is,rfl,hz,h1,rfl⟩;exact SqL.of t1
 ·rintro i x ys H' hx ⟨is,rfl,hz,h1,rfl⟩;obtain⟨n,hn',rfl⟩:=mem_map.mp (List.mem_of_getElem? hx);have hi:=(List.getElem?_eq_some_iff.mp hx).1;rw[length_map]at hi;refine Ji (σ':=[none,some _]) rfl ?_;exists iteT ?_;exists⟨z,m,n,rfl,R1,hm,hmb n hn',fun j hj=>?_⟩;refine⟨by rw[length_map];omega,is++[j],by rw[map_append];rfl,by simp[hz],fun y hy=>?_,rfl⟩;rcases mem_append.mp hy with w | w
  ·exact h1 y w
  ·have e:y=j:=by simpa using w
   omega
 rintro ys H' ⟨is,rfl,hil,hlt,rfl⟩;rw[length_map]at hil;refine⟨by rw[length_map];omega,fun p2 hp2=>?_⟩;have s2:=s1.trans (Pr.jy hp2 (.lst (is.map vN)));have t2:upd H1 p2 (.lst (is.map vN)) p2=some (.lst (is.map vN)):=jg;generalize upd H1 p2 (.lst (is.map vN))=H2 at s2 t2|-;have R2:=R.keeps s2;exists⟨fun σ' H'=>∃(l:Addr) (is:List Nat),σ'=[some (.ref z.r),some (.int c),some (.ref p),some (.ref l),none,none,none,none,none]/\Same H H'/\H' l=some (.lst (is.map vN))/\1<=is.length/\is.length<=8/\(∀j∈is,j<m.parts.length)/\(Pr.cell ns 0%8=6->Apart m is/\2<=is.length/\is.length<=4),?_,?_⟩
 rotate_left
 ·exists ixLm (SqL.of (s2 _ _ hl)) (Pr.jD (by omega) (by omega)) ?_;exists iteD (fun d1=>?_) (fun d1=>?_)
  ·exists⟨z,m,p,ns,rfl,R2,G,hm,ml,s2 _ _ hl,by omega,hb,fun l js H3 s3 hl3 e3 h4 hj ap=>?_⟩;exists⟨_,_,rfl,.inl ⟨_,SqL.of e3,rfl⟩,?_⟩;rw[length_map];exists iteD (fun d2=>?_) (fun d2=>?_)
   ·exists⟨z,m,c,p,ns,rfl,R2.keeps s3,G,by omega,s3 _ _ (s2 _ _ hl),op,by omega,hb,fun m' H' k R' G' hl'=>?_⟩;walk_at"g";exact q m' H' ((Kp.of (s2.trans s3)).trans k) R' G' hl'
   ·walk_at"g";exact⟨l,js,rfl,s2.trans s3,e3,by omega,by omega,hj,fun _=>⟨ap,by omega,h4⟩⟩
  ·walk_at"g";exact⟨p2,is,rfl,s2,t2,by omega,by omega,hlt,fun e=>absurd e d1⟩
 rintro σ' H3 ⟨l,is,rfl,s3,e3,i1,i8,hj,ap⟩;clear hlt hil t2 s2 R2 hp2 p2 H2 t1 R1 s1;have R3:=R.keeps s3;exists⟨l,rfl,⟨_,SqL.of e3⟩,?_⟩;refine jH (xs:=is.map vN) (fun i ys H'=>ys=((is.take i).map m.lg).map V.int/\H3=H') ⟨rfl,rfl⟩ ?_ ?_ ?_
 ·rintro i ys H' _ ⟨rfl,rfl⟩;exact SqL.of e3
 ·rintro i x ys H' hx ⟨rfl,rfl⟩;obtain⟨j,hj1,rfl,hj2⟩:=j0Y hx;have hi:=(List.getElem?_eq_some_iff.mp hj1).1;refine Ji (σ':=[none,some _]) rfl ?_;exists iteT ?_;exists⟨_,_,rfl,j0g R3,?_⟩;exists ixLm (SqL.of R3.g) (j1m G (hj j hj2)) ?_;refine⟨by rw[length_map,length_map,length_take];omega,?_,rfl⟩;rw[take_snoc hj1,map_append,map_append];rfl
 rintro ys H' ⟨rfl,rfl⟩;rw[show(is.map vN).length=is.length from length_map _,take_length];refine⟨by rw[length_map,length_map];omega,fun p4 hp4=>?_⟩;have s4:=s3.trans (Pr.jy hp4 (.lst ((is.map m.lg).map V.int)));have e34:=Pr.jy hp4 (.lst ((is.map m.lg).map V.int)) _ _ e3;have t4:upd H3 p4 (.lst ((is.map m.lg).map V.int)) p4=some (.lst ((is.map m.lg).map V.int)):=jg;generalize upd H3 p4 (.lst ((is.map m.lg).map V.int))=H4 at s4 e34 t4|-;exists⟨fun σ' H'=>∃(l g:Addr) (is:List Nat),σ'=[some (.ref z.r),some (.int c),some (.ref p),some (.ref l),some (.ref g),none,none,none,none]/\Same H H'/\H' l=some (.lst (is.map vN))/\H' g=some (.lst ((is.map m.lg).map V.int))/\1<=is.length/\is.length<=8/\(∀j∈is,j<m.parts.length)/\(Pr.cell ns 0%8=6->Apart m is/\2<=is.length/\is.length<=4)/\(Pr.cell ns 0%8=5->(is.map m.lg).sum<=10^60),?_,?_⟩
 rotate_left
 ·exists ixLm (SqL.of (s4 _ _ hl)) (Pr.jD (by omega) (by omega)) ?_;exists iteD (fun d1=>?_) (fun d1=>?_)
  ·exists⟨_,_,rfl,SqL.of t4,?_⟩;exists iteD (fun d2=>?_) (fun d2=>?_)
   ·exists⟨l,_,rfl,SqL.of e34,fun p5 hp5=>?_⟩;rw[cut1];have s5:=Pr.jy hp5 (.lst ((is.map vN).take 1));have t5:upd H4 p5 (.lst ((is.map vN).take 1)) p5=some (.lst ((is.take 1).map vN)):=by rw[jg,map_take]
    generalize upd H4 p5 (.lst ((is.map vN).take 1))=H5 at s5 t5|-;exists⟨p4,_,rfl,SqL.of (s5 _ _ t4),fun p6 hp6=>?_⟩;rw[cut1];have s6:=Pr.jy hp6 (.lst (((is.map m.lg).map V.int).take 1));have t6:upd H5 p6 (.lst (((is.map m.lg).map V.int).take 1)) p6=some (.lst (((is.take 1).map m.lg).map V.int)):=by rw[jg,map_take,map_take]
    generalize upd H5 p6 (.lst (((is.map m.lg).map V.int).take 1))=H6 at s6 t6|-;walk_at"g";have e1:(is.take 1).length=1:=by rw[length_take];omega
    have hj':∀j∈is.take 1,j<m.parts.length:=fun j h=>hj j (mem_of_mem_take h)
    have e2:=(xF G hj').2;rw[e1]at e2;exact⟨p5,p6,is.take 1,rfl,s4.trans (s5.trans s6),s6 _ _ t5,t6,by omega,by omega,hj',fun e=>by omega,fun _=>by omega⟩
   ·walk_at"g";exact⟨l,p4,is,rfl,s4,e34,t4,i1,i8,hj,ap,fun _=>by omega⟩
  ·refine iteF ?_;walk_at"g";exact⟨l,p4,is,rfl,s4,e34,t4,i1,i8,hj,ap,fun e=>absurd e d1⟩
 clear t4 e34 s4 hp4 p4 H4 R3 i1 i8 hj ap e3 s3 l is H3;rintro σ' H5 ⟨l,g,is,rfl,s5,e5,t5,i1,i8,hj,ap,sm⟩;have R5:=R.keeps s5;exists⟨Nat.zero_le _,fun p6 hp6=>?_⟩;have s6:=s5.trans (Pr.jy hp6 (.lst []));have e6:=Pr.jy hp6 (.lst []) _ _ e5;have g6:=Pr.jy hp6 (.lst []) _ _ t5;have t6:upd H5 p6 (.lst []) p6=some (.lst []):=jg;generalize upd H5 p6 (.lst [])=H6 at s6 e6 g6 t6|-;walk_at"g";obtain⟨ha,eha,aha⟩:=R.h;refine⟨l,rfl,⟨_,SqL.of e6⟩,?_⟩;refine Zi (xs:=is.map vN) (fun i σ H'=>∃(h:Addr) (hs:List Int) (o6:Option V),σ=[some (.ref z.r),some (.int c),some (.ref p),some (.ref l),some (.ref g),some (.ref h),o6,none,none]/\Same H6 H'/\H' h=some (.lst (hs.map V.int))/\hs.length<=8*i/\hs.Nodup/\∀k,k∈hs↔∃j∈is.take i,k∈m.hd j)
  ⟨p6,[],none,rfl,Same.refl _,t6,Nat.zero_le _,.nil,fun k=>⟨(fun h=>nomatch h),fun⟨j,h,_⟩=>by simp at h⟩⟩ ?_ ?_ ?_
 ·rintro i σ H' _ ⟨h,hs,o6,rfl,sm7,th,hl8,hnd,hmem⟩;exact SqL.of (sm7 _ _ e6)
 ·rintro i x σ H' hx ⟨h,hs,o6,rfl,sm7,th,hl8,hnd,hmem⟩;obtain⟨j,hj1,rfl,hj2⟩:=j0Y hx;have hi:=(List.getElem?_eq_some_iff.mp hj1).1;have s7:=s6.trans sm7;have R7:=R.keeps s7;have hj8:=j0l G (hj j hj2);obtain⟨a,ha1,ha2,ha3⟩:=wa R G (hj j hj2) eha;have ha7:=s7 _ _ ha2;exists⟨_,_,rfl,Yp R7,?_⟩;exists ixLm (SqL.of (s7 _ _ eha)) (qa (i:=(j:Int)) (by omega) ha1) ?_;refine⟨a,rfl,⟨_,SqL.of ha7⟩,?_⟩;refine jH (xs:=(m.hd j).map V.int) (fun i ys H''=>ys=(((m.hd j).take i).filter fun k=>!decide (k∈hs)).map V.int/\H'=H'') ⟨rfl,rfl⟩ ?_ ?_ ?_
  ·rintro i ys H'' _ ⟨rfl,rfl⟩;exact SqL.of ha7
  ·rintro i x ys H'' hx ⟨rfl,rfl⟩;rw[List.getElem?_map]at hx;obtain⟨n,hn',rfl⟩:=Option.map_eq_some_iff.mp hx;refine Ji (σ':=[none,some _]) rfl ?_;exists⟨h,_,rfl,.inl (SqL.of th),rfl,flats hs,?_⟩;rw[notInI];walk_at"g";have hle:(((m.hd j).take i).filter fun k=>!decide (k∈hs)).length<=8:=Nat.le_trans (length_filter_le _ _) (Nat.le_trans (List.length_take_le' _ _) hj8);refine iteN (fun d2=>?_) (fun d2=>?_)
   ·exists⟨by rw[length_map];omega,?_,rfl⟩;rw[take_snoc hn',filter_append,map_append,filter_cons,if_pos (by simpa using d2)];rfl
   ·refine⟨?_,rfl⟩;rw[take_snoc hn',filter_append,map_append,filter_cons,if_neg (by simpa using d2)];exact(append_nil _).symm
  ·rintro ys H'' ⟨rfl,rfl⟩;rw[show((m.hd j).map V.int).length=(m.hd j).length from length_map _,take_length];have hle:((m.hd j).filter fun k=>!decide (k∈hs)).length<=8:=Nat.le_trans (length_filter_le _ _) hj8;obtain⟨nd8,mem8⟩:=W5 hj1 hmem hnd (j2P G (hj j hj2));generalize(m.hd j).filter (fun k=>!decide (k∈hs))=fs at hle nd8 mem8|-;refine⟨by rw[length_map];omega,fun p8 hp8=>?_⟩;have s8:=Pr.jy hp8 (.lst (fs.map V.int));have t8:upd H' p8 (.lst (fs.map V.int)) p8=some (.lst (fs.map V.int)):=jg;generalize upd H' p8 (.lst (fs.map V.int))=H8 at s8 t8|-;refine⟨h,p8,_,_,rfl,rfl,s8 _ _ th,t8,by rw[length_map,length_map];omega,fun p9 hp9=>?_⟩;have s9:=Pr.jy hp9 (.lst (hs.map V.int++fs.map V.int));have t9:upd H8 p9 (.lst (hs.map V.int++fs.map V.int)) p9=some (.lst ((hs++fs).map V.int)):=by rw[jg,map_append]
   generalize upd H8 p9 (.lst (hs.map V.int++fs.map V.int))=H9 at s9 t9|-;walk_at"g";exact⟨p9,hs++fs,_,rfl,sm7.trans (s8.trans s9),t9,by rw[List.length_append];omega,nd8,mem8⟩
 rintro σ' H7 ⟨h,hs,o6,rfl,sm7,th,hl8,hnd,hmem⟩;rw[show(is.map vN).length=is.length from length_map _]at hl8 hmem;rw[take_length]at hmem;have s7:=s6.trans sm7;have R7:=R.keeps s7;have e7:=sm7 _ _ e6;have g7:=sm7 _ _ g6;walk_at"g";obtain⟨qs,eqs,aqs⟩:=R7.p;have part_at:∀j∈is,∃a b,qs[j]?=some a/\H7 a=some (.tup [.str (m.nm j),.ref b]):=fun j hjm=>by
  obtain⟨a,ha,b,hb,_⟩:=aqs.get (List.getElem?_eq_getElem (hj j hjm));rw[(G.ps j _ (List.getElem?_eq_getElem (hj j hjm))).1]at hb;exact⟨a,b,ha,hb⟩
 refine⟨l,rfl,⟨_,SqL.of e7⟩,?_⟩;refine jH (xs:=is.map vN) (fun i ys H'=>ys=((is.take i).map m.nm).map V.str/\H7=H') ⟨rfl,rfl⟩ ?_ ?_ ?_
 ·rintro i ys H' _ ⟨rfl,rfl⟩;exact SqL.of e7
 ·rintro i x ys H' hx ⟨rfl,rfl⟩;obtain⟨j,hj1,rfl,hj2⟩:=j0Y hx;have hi:=(List.getElem?_eq_some_iff.mp hj1).1;obtain⟨a,b,ha,hb⟩:=part_at j hj2;refine Ji (σ':=[none,some _]) rfl ?_;exists iteT ?_;exists⟨_,_,rfl,qI R7,?_⟩;exists ixLm (SqL.of eqs) (qa (i:=(j:Int)) (by omega) ha) ?_;exists ixTm (SqT.of hb) rfl ?_;refine⟨by rw[length_map,length_map,length_take];omega,?_,rfl⟩;rw[take_snoc hj1,map_append,map_append];rfl
 rintro ys H' ⟨rfl,rfl⟩;rw[show(is.map vN).length=is.length from length_map _,take_length];refine⟨by rw[length_map,length_map];omega,fun p8 hp8=>?_⟩;have s8:=Pr.jy hp8 (.lst ((is.map m.nm).map V.str));have t8:upd H7 p8 (.lst ((is.map m.nm).map V.str)) p8=some (.lst ((is.map m.nm).map V.str)):=jg;generalize upd H7 p8 (.lst ((is.map m.nm).map V.str))=H8 at s8 t8|-;exists⟨p8,_,rfl,.inl ⟨SqL.of t8,fun p9 hp9=>?_⟩⟩;have s9:=Pr.jy hp9 (.tup ((is.map m.nm).map V.str));have t9:upd H8 p9 (.tup ((is.map m.nm).map V.str)) p9=some (.tup ((is.map m.nm).map V.str)):=jg;generalize upd H8 p9 (.tup ((is.map m.nm).map V.str))=H9 at s9 t9|-;have s79:=s8.trans s9;have e9:=s79 _ _ e7;have g9:=s79 _ _ g7;have h9:=s79 _ _ th;have R9:=R7.keeps s79;have s09:=s7.trans s79;clear t8 s8 s9 hp8 hp9 part_at aqs eqs qs;have hk:=j0k G hj hmem;have hs8:hs.length<=8:=Nat.le_trans (Zl hnd hk) G.l8;have e1:=G.hl;have e2:=G.gl;have sl:=xF G hj;exists ixLm (SqL.of (s09 _ _ hl)) (Pr.jD (by omega) (by omega)) ?_;exists iteD (fun d1=>?_) (fun d1=>?_)
 ·exists⟨(by show 2<=sizeLine;omega),fun p10 hp10=>?_⟩;have s10:=Pr.jy hp10 (.tup [.str "row",.ref p9]);have t10:upd H9 p10 (.tup [.str "row",.ref p9]) p10=some (.tup [.str "row",.ref p9]):=jg;generalize upd H9 p10 (.tup [.str "row",.ref p9])=H10 at s10 t10|-;have R10:=R9.keeps s10;exists⟨h,hs,rfl,SqL.of (s10 _ _ h9),Nat.lt_of_le_of_lt hs8 (by decide),fun p11 ms hp11 perm ord=>?_⟩;have s11:=Pr.jy hp11 (.lst (ms.map V.int));have t11:upd H10 p11 (.lst (ms.map V.int)) p11=some (.lst (ms.map V.int)):=jg;generalize upd H10 p11 (.lst (ms.map V.int))=H11 at s11 t11|-;have R11:=R10.keeps s11;exists⟨_,_,rfl,SqL.of (s11 _ _ (s10 _ _ g9)),?_⟩;exists⟨z,m,p10,p11,.row (is.map m.nm),ms,_,rfl,R11,⟨p9,s11 _ _ t10,s11 _ _ (s10 _ _ t9)⟩,⟨t11,ZA R10 hp11⟩,by omega,by omega,by omega,nl,fun H' k R' _=>?_⟩;exact q _ _ ((Kp.of (s09.trans (s10.trans s11))).trans k) R' (G.add ⟨⟨is,⟨rfl,hj⟩,i1,i8,fun k=>perm.mem_iff.trans (hmem k),rfl⟩,fun k h=>hk k (perm.mem_iff.mp h),YC perm hnd ord,by omega,sm d1⟩) Z7
 exists ixLm (SqL.of (s09 _ _ hl)) (Pr.jD (by omega) (by omega)) ?_;exists iteD (fun d2=>?_) (fun d2=>?_)
 ·exists⟨(by show 2<=sizeLine;omega),fun p10 hp10=>?_⟩;have s10:=Pr.jy hp10 (.tup [.str "side",.ref p9]);have t10:upd H9 p10 (.tup [.str "side",.ref p9]) p10=some (.tup [.str "side",.ref p9]):=jg;generalize upd H9 p10 (.tup [.str "side",.ref p9])=H10 at s10 t10|-;have R10:=R9.keeps s10;exists⟨h,hs,rfl,SqL.of (s10 _ _ h9),Nat.lt_of_le_of_lt hs8 (by decide),fun p11 ms hp11 perm ord=>?_⟩;have s11:=Pr.jy hp11 (.lst (ms.map V.int));have t11:upd H10 p11 (.lst (ms.map V.int)) p11=some (.lst (ms.map V.int)):=jg;generalize upd H10 p11 (.lst (ms.map V.int))=H11 at s11 t11|-;have R11:=R10.keeps s11;exists⟨_,_,rfl,SqL.of (s11 _ _ (s10 _ _ g9)),by rw[length_map];omega,fun gm hgm hall=>?_⟩;obtain⟨j1,hj1,rfl⟩:=mem_map.mp hgm;have lj:=j0q G (hj j1 hj1);obtain⟨ap1,ap2,ap3⟩:=ap d2;exists⟨z,m,p10,p11,.side (is.map m.nm),ms,_,rfl,R11,⟨p9,s11 _ _ t10,s11 _ _ (s10 _ _ t9)⟩,⟨t11,ZA R10 hp11⟩,by omega,by omega,by omega,nl,fun H' k R' _=>?_⟩;exact q _ _ ((Kp.of (s09.trans (s10.trans s11))).trans k) R' (G.add ⟨⟨is,⟨rfl,hj⟩,ap2,ap3,ap1,fun k=>perm.mem_iff.trans (hmem k),⟨j1,hj1,rfl⟩,fun j hj'=>hall _ (mem_map.mpr ⟨j,hj',rfl⟩)⟩,fun k h=>hk k (perm.mem_iff.mp h),YC perm hnd ord,lj.1,lj.2⟩) Z7
 obtain⟨j0,r,rfl⟩:∃j0 r,is=j0::r:=by
  cases is with
  | nil=>exact absurd i1 (by decide)
  | cons j0 r=>exact⟨j0,r,rfl⟩
 have hj0:=hj j0 mem_cons_self;have lj:=j0q G hj0;exists⟨_,_,rfl,by omega,by omega,fun wn=>?_⟩;have c10:=hb.cell (k:=10) (by omega) (by omega);exists ixLm (SqL.of (s09 _ _ hl)) (Pr.jD (by omega) (by omega)) ?_;exists⟨_,_,_,rfl,by omega,by omega,by omega,by omega,fun tm tm1 tm2=>?_⟩;exists⟨fun σ' H'=>∃t:Int,σ'=[some (.ref z.r),some (.int c),some (.ref p),some (.ref l),some (.ref g),some (.ref h),o6,some (.ref p9),some (.int t)]/\1<=t/\t<=10^18/\t*m.lg j0<=10^60/\H9=H',?_,?_⟩
 rotate_left
 ·exists ixLm (SqL.of g9) (at0) ?_;exists iteD (fun d3=>?_) (fun d3=>?_)
  ·walk_at"g";exact⟨1,rfl,by omega,by omega,by rw[Int.one_mul];exact lj.2,rfl⟩
  ·walk_at"g";exact⟨tm,rfl,tm1,tm2,by omega,rfl⟩
 rintro σ' H' ⟨t,rfl,u1,u2,u3,rfl⟩;exists ixTm (SqT.of t9) (at0) ?_;exists⟨(by show 3<=sizeLine;omega),?_⟩;walk_at"f 10 t";have R10:=R9.keeps s10;obtain⟨a,ha1,ha2,ha3⟩:=wa R G hj0 eha;have s0A:=s09.trans s10;exists⟨_,_,rfl,Yp R10,?_⟩;exists ixLm (SqL.of (s10 _ _ e9)) (at0) ?_;refine ixLm (SqL.of (s0A _ _ eha)) (qa (i:=(j0:Int)) (by omega) ha1) ?_;exists ixLm (SqL.of (s10 _ _ g9)) (at0) ?_;walk_at"g";have pos:=Int.mul_pos (show 0<t by omega) (show 0<m.lg j0 by omega);refine⟨z,m,p10,a,.again t (m.nm j0),m.hd j0,_,rfl,R10,t10,⟨s0A _ _ ha2,ha3⟩,by omega,by omega,by omega,nl,fun H' k R' _=>?_⟩;have oj:=(G.ps j0 _ (List.getElem?_eq_getElem hj0)).2;exact q _ _ ((Kp.of s0A).trans k) R' (G.add ⟨⟨u1,u2,j0,hj0,rfl,rfl,rfl⟩,oj.k,oj.o,by omega,u3⟩) Z7
theorem wx(T:Txt K mg t)(jO:FnOk P w K mg base CX0 1 t.qd t.qe ["_law_script","_law_k"] (Pr.sp_cell_at K))(jF:FnOk P w K mg base CX0 1 t.Jt t.Ju ["_law_cell","_law_turn"] (Zp))(jP:FnOk P w K mg base CX0 1 t.JY t.J0 ["_law_cell","_law_many"] (sp_streamF))(qY:FnOk P w K mg base CX0 2 t.q5 t.Qc ["_law_cell","_law_many"] (sp_namesC))(jW:FnOk P w K mg base CX0 1 t.JX t.JZ ["_law_cell","_law_mixed","_law_least"] (yh))(JW:FnOk P w K mg base CX0 2 t.qG t.qH ["_law_room_here","_law_cell","_law_some"] (sp_simple))(zZ:FnOk P w K mg base CX0 3 t.Qp t.Qq ["_law_room_here","_law_cell","_law_some"] (sp_naming)):FnOk P w K mg base CX0 4 t.zc t.zo ["_law_script"] (sp_roomC K):=by
 refine T.YG.ok Jg (fun vs H Q E h=>?_) (fun cdv A outer s H vs Q E hr h=>?_)
 ·cases h;subst_vars;rfl
 obtain⟨a,ns,rfl,hS,h63,q⟩:=h;refine⟨_,(jd (jp (i:=1) Jg.nd rfl (.inl rfl) (jr (jP.mono (by decide)) hr (by rfl) T.Qr T.qF.kp T.Qn .nil pass0 (ja (jr (jO.mono (by decide)) hr (by rfl) T.qf T.Jy.kp T.qc .nil pass0 (ja (pv 0) (ja jb jc))) (ja jb jc))))
  (jd (jp (i:=2) Jg.nd rfl (.inl rfl) (jr (qY.mono (by decide)) hr (by rfl) T.yP T.Zs.kp T.yC .nil pass0 (ja (jr (jO.mono (by decide)) hr (by rfl) T.qf T.Jy.kp T.qc .nil pass0 (ja (pv 0) (ja jb jc))) (ja jb jc))))
  (jd (jp (i:=3) Jg.nd rfl (.inl rfl) (j4 jc))
  (jd (qh PassesOwn.never rfl (qK (by rfl) T.Q2 (ja (jk jT jb (jk jC (ji jo (pv 1) jb) jb)) jc)) (jt (i:=4) Jg.nd rfl (.inl rfl))
   (jd (jp (i:=5) Jg.nd rfl (.inl rfl) (ji jo (j4 (ja (jk jT jb (pv 4)) (ja (jk jT jb (pv 4)) (ja (jk jC (jk jT (jk qy (ji jo (pv 1) jb) jb) (jk Qh jb (pv 4))) jb) jc)))) (jk jC (ji jo (pv 1) jb) jb)))
   (jd (jp (i:=6) Jg.nd rfl (.inl rfl) (jr (jF.mono (by decide)) hr (by rfl) T.qJ T.JU.kp T.qE .nil pass0 (ja (jr (jO.mono (by decide)) hr (by rfl) T.qf T.Jy.kp T.qc .nil pass0 (ja (pv 0) (ja jb jc))) (ja (jk jT jb (pv 4)) jc))))
   (je (jA (qO PySem.F.plainAttrs_list PySem.F.slot_list_append PySem.F.type_list_append jJ (pv 3) (ja (jM (ja (ji jo (pv 2) (pv 5)) (ja (jr (jW.mono (by decide)) hr (by rfl) T.Q4 T.Qo.kp T.Q0 .nil pass0 (ja (pv 6) (ja (ji jo (pv 1) (jk jT jb (pv 4))) (ja jb jc)))) jc))) jc)))))))
  (jd (jp (i:=7) Jg.nd rfl (.inl rfl) (j1B (ZW jn (pv 2) (ZW jn (pv 3) (ZW jn (j4 jc) (ZW jn (j4 jc) (ZW jn (j4 jc) j1C))))) rfl rfl (by simp) (by decide)))
  (jd (qh PassesOwn.never rfl (jQ (qz ZI (pv 0) (qP jb) (qP jb))) (jt (i:=8) Jg.nd rfl (.inl rfl))
   (jd (jp (i:=9) Jg.nd rfl (.inl rfl) (jr (jP.mono (by decide)) hr (by rfl) T.Qr T.qF.kp T.Qn .nil pass0 (ja (jk jT (pv 8) (jk Qh jb (ju jX (by rfl) T.QI qu (ja (jE (jU hr) (pv 7) jn) jc)))) (ja jb jc))))
   (je (jV (PW.pt (kJ (jm Zm (jk jC (ji jo (pv 9) jb) jb) jb (nomark _)) (yZ (jm Zm (ju jX (by rfl) T.QI qu (ja (jE (jU hr) (pv 7) jn) jc)) jb (nomark _)))))
    (je (jA (jr (zZ.mono (by decide)) hr (by rfl) T.kZ T.yo.kp T.kW .nil pass0 (ja (pv 7) (ja (pv 8) (ja (pv 9) jc))))))
    (je (jA (jr (JW.mono (by decide)) hr (by rfl) T.Zb T.Q1.kp T.zY .nil pass0 (ja (pv 7) (ja (pv 8) (ja (pv 9) jc))))))))))
  (jd (Qx (jm (xu hr.units) (jE (jU hr) (pv 7) jn) (j4 jc) (nomark _))
   (je (jA (jr (JW.mono (by decide)) hr (by rfl) T.Zb T.Q1.kp T.zY .nil pass0 (ja (pv 7) (ja jb (ja (pv 1) jc))))))
   jw)
  (je (jB (pv 7)))))))))),?_⟩
 refine jz (σ':=[some _,none,none,none,none,none,none,none,none,none]) rfl ?_;have sz:(200:Nat)<sizeLine:=by decide
 exists⟨a,ns,_,rfl,hS,h63,by omega,?_⟩;exists⟨_,_,rfl,by omega,by omega,fun p1 fs H1 s1 hp1 t1 l1 b1 _=>?_⟩;have B1:Big fs:=b1;exists⟨a,ns,_,rfl,s1.seq hS,h63,by omega,?_⟩;exists⟨_,68,rfl,by decide,fun p2 ws H2 s2 hp2 t2 l2 nmc nd nw=>?_⟩;have s12:=s1.trans s2;have t12:=s2 _ _ t1;exists⟨Nat.zero_le _,?_⟩;walk_at"f pl hpl H3 s3 t3";have c0:=B1.cell (k:=0) (by omega) (by omega);have c9:=B1.cell (k:=9) (by omega) (by omega);exists ixLm (SqL.of (s3 _ _ t12)) (Pr.jD (by omega) (by omega)) ?_;exists⟨_,rfl,by omega,by omega,?_⟩;refine Qf (fun i σ H'=>∃(ls:List Addr) (lbs:List (Str×Int)) (o4 o5 o6:Option V),σ=[some (.ref a),some (.ref p1),some (.ref p2),some (.ref pl),o4,o5,o6,none,none,none]/\Same H2 H'/\H' pl=some (.lst (ls.map V.ref))/\All2 (LimbAt H') ls lbs/\lbs.length=i/\lbs.map (·.1)=(List.range i).map (lnm ws (Pr.cell fs 9))/\∀p∈lbs,0<=p.2/\p.2<=10^18)
  ⟨[],[],_,_,_,rfl,s3,t3,.nil,rfl,rfl,(fun z h=>nomatch h)⟩ ?_ ?_
 ·rintro i σ H' hi ⟨ls,lbs,o4,o5,o6,rfl,sm,el,al,ll,ln,lb⟩;have all:=al.1;have ck:=B1.cell (k:=1+(0+(i:Int))) (by omega) (by omega);exists ixLm (SqL.of (sm _ _ t12)) (Pr.jD (by omega) (by omega)) ?_;exists⟨(by show 3<=sizeLine;omega),?_⟩;walk_at"f 4 t";exists ixLm (SqL.of (s4 _ _ (sm _ _ t12))) (Pr.jD (by omega) (by omega)) ?_;exists ixLm (SqL.of t4) (j09 (by omega) (by omega)) ?_;walk_at"g";have sm4:=sm.trans s4;refine⟨a,ns,_,rfl,sm4.seq (s12.seq hS),h63,by omega,?_⟩;exists⟨_,_,rfl,by omega,by omega,fun wn=>?_⟩;exists⟨.inl ⟨rfl,_,SqL.of (s4 _ _ el)⟩,?_⟩;walk_at"g";obtain⟨x0,x1,x2⟩:=j2i (ws:=ws) (c:=Pr.cell fs 9) (i:=i) l2 (by omega) (by omega);refine ixLm (SqL.of (sm4 _ _ t2)) (wT x0 x1) ?_;rw[x2];exists ixLm (SqL.of (sm4 _ _ t12)) (Pr.jD (by omega) (by omega)) ?_;exists⟨_,_,_,rfl,by omega,by omega,by omega,by omega,fun r r1 r2=>?_⟩;exists⟨(by show 2<=sizeLine;omega),?_⟩;walk_at"f 5 t";have s45:=s4.trans s5;have el5:=s45 _ _ el;exists⟨pl,_,_,rfl,rfl,el5,by rw[length_map];omega,?_⟩;have hne:p5≠pl:=Zk t5 el5 (fun z=>by cases z);refine⟨ls++[p5],lbs++[(lnm ws (Pr.cell fs 9) i,r)],_,_,_,rfl,fun b u h=>?_,?_,?_,by rw[List.length_append,ll];rfl,?_,fun p hp=>?_⟩
  ·rw[jh (jf h hpl)];exact s45 _ _ (sm _ _ h)
  ·rw[jg,map_append];rfl
  ·refine All2.snoc (al.mono fun b x h=>?_) ?_
   ·have h':H5 b=some (.tup [.str x.1,.int x.2]):=s45 _ _ h;exact(jh (Zk h' el5 (fun z=>by cases z))).trans h'
   ·exact(jh hne).trans t5
  ·rw[map_append,ln,range_succ,map_append];rfl
  ·rcases mem_append.mp hp with e | e
   ·exact lb p e
   ·have e':p=(lnm ws (Pr.cell fs 9) i,r):=by simpa using e
    rw[e'];exact⟨r1,r2⟩
 rintro σ' H4 ⟨ls,lbs,o4,o5,o6,rfl,s4,el,al,ll,ln,lb⟩;exists j1F ?_;walk_at"f r hr5 H5 s5 t5";exists⟨Nat.zero_le _,?_⟩;walk_at"f pp hpp H6 s6 t6";exists⟨Nat.zero_le _,?_⟩;walk_at"f ph hph H7 s7 t7";exists⟨Nat.zero_le _,?_⟩;walk_at"f pg hpg H8 s8 t8";exists⟨s8 _ _ (s7 _ _ (s6 _ _ t5)),[(Sum.inr "names",.ref p2),(Sum.inr "limbs",.ref pl),(Sum.inr "parts",.ref pp),(Sum.inr "hands",.ref ph),(Sum.inr "long",.ref pg)],rfl,(by show 5<=15;decide),?_⟩;generalize eH:upd H8 r _=H9;have d9:=j1T eH;have k9:∀b u,b≠r->H8 b=some u->H9 b=some u:=fun b u hb h=>by rw[<-eH,jh hb];exact h
 clear eH;have n1:r≠pp:=jf t5 hpp;have n2:r≠ph:=jf (s6 _ _ t5) hph;have n3:r≠pg:=jf (s7 _ _ (s6 _ _ t5)) hpg;have n4:pp≠ph:=jf t6 hph;have n5:pp≠pg:=jf (s7 _ _ t6) hpg;have n6:ph≠pg:=jf t7 hpg;have s58:=s6.trans (s7.trans s8);have s48:=s5.trans s58;have s49:Same H4 H9:=fun b u h=>k9 b u (jf h hr5) (s48 _ _ h)
 have offo:∀b u,H4 b=some u->b≠pp/\b≠ph/\b≠pg:=fun b u h=>⟨jf (s5 _ _ h) hpp,jf (s6 _ _ (s5 _ _ h)) hph,jf (s7 _ _ (s6 _ _ (s5 _ _ h))) hpg⟩
 have e2:=s4 _ _ t2;obtain⟨z,hz⟩:∃z:Ra,z=⟨r,p2,pl,pp,ph,pg⟩:=⟨_,rfl⟩
 have R9:RoomAt H9 z ⟨ws,lbs,[],[],[]⟩:=by
  subst hz;exact⟨d9,s49 _ _ e2,⟨ls,s49 _ _ el,al.mono fun b x h=>s49 _ _ h⟩,⟨[],k9 _ _ n1.symm (s8 _ _ (s7 _ _ t6)),.nil⟩,⟨[],k9 _ _ n2.symm (s8 _ _ t7),.nil⟩,k9 _ _ n3.symm t8,offo _ _ e2,offo _ _ el,n4,n5,n6⟩
 have G9:Good ⟨ws,lbs,[],[],[]⟩:=by
  refine⟨l2,nd,nw,?_,?_,?_,fun p hp=>⟨?_,lb p hp⟩,rfl,rfl,fun i p hp=>by simp at hp⟩
  ·show 1<=lbs.length;omega
  ·show lbs.length<=8;omega
  ·show(lbs.map (·.1)).Nodup;rw[ln];exact j2k l2 nd (by omega)
  ·exact j2j (c:=Pr.cell fs 9) (n:=(1+Pr.cell fs 0%8).toNat) l2 (by omega) (by rw[<-ln];exact mem_map.mpr ⟨p,hp,rfl⟩)
 have zr:z.r=r:=by rw[hz]
 have zp:z.pp=pp:=by rw[hz]
 have zl:z.pl=pl:=by rw[hz]
 have off4:∀b u,H4 b=some u->z.off b:=fun b u h=>by subst hz;exact offo b u h
 have s04:=s12.trans s4;have t1':=s49 _ _ (s4 _ _ t12);have f1:z.off p1:=off4 _ _ (s4 _ _ t12);have npp:H pp=none:=none_of (s04.trans s5) hpp;have npl:H pl=none:=none_of s12 hpl;have s09:=s04.trans s49;have off0:∀b u,H b=some u->z.off b:=fun b u h=>off4 b u (s04 _ _ h)
 walk_at"g";rw[<-zr];refine⟨a,_,rfl,s09.seq hS,?_⟩;walk_at"f 10 t";have R10:=R9.keeps s10;have f10:=ZA R9 hp10;have s010:=s09.trans s10;have t110:=s10 _ _ t1';clear t1' s49 off4 offo k9 d9 s48 s58 n1 n2 n3 n4 n5 n6 t5 t6 t7 t8 s5 s6 s7 s8;have hcl:=j26 (xs:=ns.map V.int);refine⟨p10,rfl,⟨_,SqL.of t10⟩,?_⟩;refine Zi (xs:=cutV (ns.map V.int) (some 2) (some 62)) (fun i σ H'=>∃(m:Rr) (o8 o9:Option V),σ=[some (.ref a),some (.ref p1),some (.ref p2),some (.ref pl),o4,o5,o6,some (.ref z.r),o8,o9]/\Kp z H10 H'/\RoomAt H' z m/\Good m/\m.parts.length=i)
  ⟨_,none,none,rfl,Kp.refl _ _,R10,G9,rfl⟩ ?_ ?_ ?_
 ·rintro i σ H' _ ⟨m,o8,o9,rfl,k,R,G,hm⟩;exact SqL.of (k _ _ f10 t10)
 ·rintro i x σ H' hx ⟨m,o8,o9,rfl,k,R,G,hm⟩;obtain⟨n,hn,rfl⟩:=Pr.j1n (List.mem_of_getElem? hx);have hi:=(List.getElem?_eq_some_iff.mp hx).1;obtain⟨qs,eq,aq⟩:=R.p;exists⟨_,_,rfl,qI R,?_⟩;exists⟨_,_,rfl,.inl ⟨_,SqL.of eq,rfl⟩,?_⟩;rw[length_map,aq.1,hm];exists⟨_,_,rfl,by omega,by omega,fun p11 gs H11 s11 hp11 t11 l11 b11 _=>?_⟩;have B11:Big gs:=b11;have g0:=B11.cell (k:=0) (by omega) (by omega);have R11:=R.keeps s11;have o11:=ZA R hp11;have k11:=k.trans (Kp.of s11);exists ixLm (SqL.of t11) (Pr.jD (by omega) (by omega)) ?_;exists iteD (fun d1=>?_) (fun d1=>?_)
  ·exists⟨_,_,rfl,qI R11,?_⟩;exists⟨_,_,rfl,.inl ⟨_,SqL.of (s11 _ _ eq),rfl⟩,?_⟩;rw[length_map,aq.1,hm];exists iteD (fun d2=>?_) (fun d2=>?_)
   ·exists⟨z,m,n,p11,gs,rfl,R11,G,by omega,by omega,t11,o11,by omega,B11,fun m' H' k' R' G' hl'=>?_⟩;exact⟨m',_,_,rfl,k11.trans k',R',G',by omega⟩
   ·exists⟨z,m,n,p11,gs,rfl,R11,G,by omega,t11,o11,by omega,B11,fun m' H' k' R' G' hl'=>?_⟩;exact⟨m',_,_,rfl,k11.trans k',R',G',by omega⟩
  ·refine iteF ?_;exists⟨z,m,n,p11,gs,rfl,R11,G,by omega,t11,o11,by omega,B11,fun m' H' k' R' G' hl'=>?_⟩;exact⟨m',_,_,rfl,k11.trans k',R',G',by omega⟩
 rintro σ' H' ⟨m,o8,o9,rfl,k,R,G,hm⟩;have m61:m.parts.length<=60:=by omega
 exists⟨fun σ' H'=>∃(m:Rr) (o8 o9:Option V),σ'=[some (.ref a),some (.ref p1),some (.ref p2),some (.ref pl),o4,o5,o6,some (.ref z.r),o8,o9]/\Kp z H10 H'/\RoomAt H' z m/\Good m/\1<=m.parts.length/\m.parts.length<=61,?_,?_⟩
 rotate_left
 ·obtain⟨qs,eq,aq⟩:=R.p;exists⟨_,_,rfl,qI R,?_⟩;exists⟨Nat.zero_le _,?_⟩;walk_at"f p12 hp12 H12 s12' t12'";have R12:=R.keeps s12';have k12:=k.trans (Kp.of s12');refine⟨_,_,DV.lst (s12' _ _ eq) (Wd (fun _ _ h=>j1e (PartAt.same s12' h)) aq),j1c t12',(j02 (G.bk (by omega))).ok (by decide),shp0,?_⟩;rw[XG];exists iteD (fun d1=>?_) (fun d1=>?_)
  ·exists⟨z,m,0,p1,fs,rfl,R12,G,by omega,k12 _ _ f1 t110,f1,by omega,B1,fun m' H' k' R' G' hl'=>?_⟩;exact⟨m',_,_,rfl,k12.trans k',R',G',by omega,by omega⟩
  ·exists⟨m,_,_,rfl,k12,R12,G,?_,by omega⟩;cases hq:m.parts with
   | nil=>exact absurd hq d1
   | cons x y=>exact Nat.succ_le_succ (Nat.zero_le _)
 rintro σ' H' ⟨m,o8,o9,rfl,k,R,G,m1,m61⟩;walk_at"g";have en:m.names=ws:=by
  have e:=(k _ _ R10.on R10.n).symm.trans R.n;injection e with e;injection e with e;exact(WH e).symm
 exact q z m H' (fun b u h=>k b u (off0 b u h) (s010 _ _ h)) R G m1 m61 (by rw[zl];exact npl) (by rw[zp];exact npp) (by rw[en];exact nmc)
theorem yx(T:Txt K mg t):FnOk P w K mg base CX0 1 t.JJ t.JK ["_law_parts_here","_law_at","_law_some"] (sp_other_formL):=by
 refine T.zR.ok zP (fun vs H Q E h=>?_) (fun cdv A outer s H vs Q E hr h=>?_)
 ·cases h;subst_vars;rfl
 obtain⟨pp,sp,k,pas,ps,ns,rfl,ep,aP,k0,kl,p61,es,l7,bg,q⟩:=h;refine⟨_,(jd (jp (i:=3) zP.nd rfl (.inr rfl) (j3 (ow:=["_law_part"]) (ci:=[]) rfl (CompScope.of (defScope JL) ["_law_parts_here","_law_at","_law_some","_law_names_here"] rfl rfl (by decide +kernel)) (jZ (by decide)) (jQ (qz ZI (pv 0) Q6 (qP (pv 1)))) (fun _ _ _ _ _=>⟨(jt (i:=0) (Jb ["_law_parts_here","_law_at","_law_some","_law_names_here"] rfl (by decide +kernel)) rfl (.inl rfl)),qN,(ji (Xe (K:=K) rfl) (pv 0) jb)⟩)))
  (jd (jV (jm KH (jk jC (ji jo (pv 2) jb) jb) jb (nomark _))
   (je (jB (jM (ja jn (ja (qg Za (by rfl) T.KZ kb (ja (j3 (ow:=["_law_k"]) (ci:=[3,1,2]) rfl (CompScope.of (defScope JL) ["_law_parts_here","_law_at","_law_some","_law_names_here"] rfl rfl (by decide +kernel)) (jZ (by decide)) (qK (by rfl) T.Q2 (ja (jk jT jb (jk jC (ji jo (pv 2) jb) jb)) jc)) (fun _ _ _ _ _=>⟨(jt (i:=0) (Jb ["_law_parts_here","_law_at","_law_some","_law_names_here"] rfl (by decide +kernel)) rfl (.inl rfl)),qN,(ji (qR (K:=K) rfl) (pv 1) (jk jC (ji (qR (K:=K) rfl) (pv 3) (jk jT jb (pv 0))) (pv 2)))⟩)) jc)) jc)))))
   jw)
  (jd (jV (jm Jh (jk jC (ji jo (pv 2) jb) jb) jb (nomark _))
   (je (jB (jM (ja jn (ja (qg Za (by rfl) T.KZ kb (ja (jk j2r (j4 (ja (ji jo (pv 3) (jk jC (ji jo (pv 2) jb) (pv 1))) jc)) jb) jc)) jc)))))
   jw)
  (je (jB (jM (ja jn (ja (jk qv jb jb) (ja (ji jo (pv 3) (jk jC (ji jo (pv 2) jb) (pv 1))) jc))))))))),?_⟩
 refine jz (σ':=[some _,some _,some _,none]) rfl ?_;have sz:(200:Nat)<sizeLine:=by decide
 have pl:=aP.1;have nl:(nmsOf ps).length=ps.length:=by unfold nmsOf;rw[length_map]
 exists⟨pp,_,rfl,SqL.of ep,?_⟩;walk_at"f 1 t";rw[j27]at t1;have e1:(pas.map V.ref).take k=(pas.take k).map V.ref:=by rw[map_take]
 rw[e1]at t1;refine⟨p1,rfl,⟨_,SqL.of t1⟩,?_⟩;refine jH (xs:=(pas.take k).map V.ref) (fun t ys H'=>ys=((nmsOf ps).take t).map V.str/\t<=k/\H1=H') ⟨rfl,Nat.zero_le _,rfl⟩ ?_ ?_ ?_
 ·rintro t ys H' _ ⟨rfl,_,rfl⟩;exact SqL.of t1
 ·rintro t x ys H' hx ⟨rfl,_,rfl⟩;rw[List.getElem?_map]at hx;obtain⟨a,ha,rfl⟩:=Option.map_eq_some_iff.mp hx;have tk:t<k:=by
   have:=(List.getElem?_eq_some_iff.mp ha).1;rw[length_take]at this;omega
  rw[List.getElem?_take_of_lt tk]at ha;obtain⟨p,hp⟩:∃p,ps[t]?=some p:=⟨_,List.getElem?_eq_getElem (by omega)⟩
  obtain⟨fb,hb,_⟩:=aP.2 t a p ha hp;refine Ji (σ':=[none]) rfl ?_;exists iteT ?_;exists ixTm (SqT.of (s1 _ _ hb)) (at0) ?_;refine⟨by rw[length_map,length_take];omega,?_,tk,rfl⟩;rw[take_snoc (x:=p.1) (by unfold nmsOf;rw[List.getElem?_map,hp];rfl),map_append];rfl
 rintro ys H' ⟨rfl,_,rfl⟩;rw[show((pas.take k).map V.ref).length=k by rw[length_map,length_take];omega];refine⟨by rw[length_map,length_take];omega,?_⟩;walk_at"f 2 t";have s12:=s1.trans s2;have c0:=bg.cell (k:=0) (by omega) (by omega);have es2:=s12 _ _ es;have nm:∀i:Int,0<=i->∃j x,j<k/\(nmsOf ps)[j]?=some x/\atI (((nmsOf ps).take k).map V.str) (i%(k:Int))=some (.str x):=fun i hi=>by
  have a0:=Int.emod_nonneg i (show(k:Int)≠0 by omega);have a1:=Int.emod_lt_of_pos i (show(0:Int)<k by omega);obtain⟨x,hx⟩:∃x,(nmsOf ps)[(i%(k:Int)).toNat]?=some x:=⟨_,List.getElem?_eq_getElem (by omega)⟩
  refine⟨(i%(k:Int)).toNat,x,by omega,hx,?_⟩;have:=Rm.zw (xs:=((nmsOf ps).take k).map V.str) (i:=(i%(k:Int)).toNat) (x:=.str x) (by rw[List.getElem?_map,List.getElem?_take_of_lt (by omega),hx];rfl);rw[show(0+(((i%(k:Int)).toNat:Nat):Int))=i%(k:Int) by omega]at this;exact this
 exists ixLm (SqL.of es2) (Pr.jD (by omega) (by omega)) ?_;exists iteD (fun d=>?_) (fun d=>?_)
 ·exists ixLm (SqL.of es2) (Pr.jD (by omega) (by omega)) ?_;have c1:=bg.cell (k:=1) (by omega) (by omega);have b0:=Int.emod_nonneg (Pr.cell ns 1) (show(3:Int)≠0 by omega);have b1:=Int.emod_lt_of_pos (Pr.cell ns 1) (show(0:Int)<3 by omega);exists⟨_,rfl,by omega,by omega,?_⟩;refine WX (fun t ys H'=>∃xs:List Str,ys=xs.map V.str/\xs.length=t/\(∀x∈xs,∃j,j<k/\(nmsOf ps)[j]?=some x)/\H2=H') ⟨[],rfl,rfl,(fun _ h=>nomatch h),rfl⟩ ?_ ?_
  ·rintro t ys H' ht ⟨xs,rfl,lx,hx,rfl⟩;refine Ji (σ':=[none,some _,some _,some _]) rfl ?_;exists iteT ?_;exists ixLm (SqL.of es2) (Pr.jD (k:=2+(0+(t:Int))) (by omega) (by omega)) ?_;have ct:=bg.cell (k:=2+(0+(t:Int))) (by omega) (by omega);obtain⟨j,x,hj,hn,hat⟩:=nm _ ct.1;exists ixLm (SqL.of t2) (hat) ?_;refine⟨by rw[length_map];omega,xs++[x],by rw[map_append];rfl,by rw[List.length_append,lx];rfl,fun y hy=>?_,rfl⟩;rcases mem_append.mp hy with hy | hy
   ·exact hx y hy
   ·rw[mem_singleton.mp hy];exact⟨j,hj,hn⟩
  rintro ys H' ⟨xs,rfl,lx,hx,rfl⟩;refine⟨by rw[length_map];omega,?_⟩;walk_at"f 3 t";refine⟨p3,_,rfl,.inl ⟨SqL.of t3,?_⟩⟩;walk_at"f 4 t";exists⟨(by show 2<=sizeLine;omega),?_⟩;walk_at"f 5 t";have s04:=s12.trans (s3.trans s4);exact q p5 (.side xs) H5 (s04.trans s5) (none_of s04 hp5) ⟨p4,t5,s5 _ _ t4⟩ ⟨⟨hx,by show xs.length<=8;omega,.inl ⟨_,rfl⟩⟩,fun z=>by rw[z]at lx;have:(0:Nat)=_:=lx;omega⟩
 have c2:=bg.cell (k:=2) (by omega) (by omega);obtain⟨j,x,hj,hn,hat⟩:=nm _ c2.1;exists ixLm (SqL.of es2) (Pr.jD (by omega) (by omega)) ?_;exists iteD (fun d2=>?_) (fun d2=>?_)
 ·exists ixLm (SqL.of es2) (Pr.jD (by omega) (by omega)) ?_;exists ixLm (SqL.of t2) (hat) ?_;exists⟨(by show 1<=sizeLine;omega),?_⟩;walk_at"f 3 t";exists⟨p3,_,_,rfl,rfl,t3,by decide,by decide,by show 1*8<=sizeLine;omega,?_⟩;walk_at"f 4 t";exists⟨p4,_,rfl,.inl ⟨SqL.of t4,?_⟩⟩;walk_at"f 5 t";exists⟨(by show 2<=sizeLine;omega),?_⟩;walk_at"f 6 t";have s05:=s12.trans (s3.trans (s4.trans s5));refine q p6 (.row (List.replicate 8 x)) H6 (s05.trans s6) (none_of s05 hp6) ⟨p5,t6,s6 _ _ t5⟩ ⟨⟨fun y hy=>?_,Nat.le_refl 8,.inr (.inl ⟨_,rfl⟩)⟩,fun z=>by cases z⟩;rw[List.eq_of_mem_replicate hy];exact⟨j,hj,hn⟩
 exists ixLm (SqL.of es2) (Pr.jD (by omega) (by omega)) ?_;exists ixLm (SqL.of t2) (hat) ?_;exists⟨(by show 3<=sizeLine;omega),?_⟩;walk_at"f 3 t";refine q p3 (.again (10^18) x) H3 (s12.trans s3) (none_of s12 hp3) t3 ⟨⟨fun y hy=>?_,by show 1<=8;omega,.inr (.inr ⟨_,rfl⟩)⟩,by decide,by decide⟩;rw[mem_singleton.mp hy];exact⟨j,hj,hn⟩
theorem Kd(T:Txt K mg t)(jO:FnOk P w K mg base CX0 1 t.qd t.qe ["_law_script","_law_k"] (Pr.sp_cell_at K))(jF:FnOk P w K mg base CX0 1 t.Jt t.Ju ["_law_cell","_law_turn"] (Zp))(jP:FnOk P w K mg base CX0 1 t.JY t.J0 ["_law_cell","_law_many"] (sp_streamF))(qY:FnOk P w K mg base CX0 2 t.q5 t.Qc ["_law_cell","_law_many"] (sp_namesC))(QE:FnOk P w K mg base CX0 1 t.JJ t.JK ["_law_parts_here","_law_at","_law_some"] (sp_other_formL)):FnOk P w K mg base CX0 3 t.QH t.QM ["_law_script","_law_room_here"] (sp_partsC K):=by
 refine T.yI.ok Jf (fun vs H Q E h=>?_) (fun cdv A outer s H vs Q E hr h=>?_)
 ·cases h;subst_vars;rfl
 obtain⟨a,ns,z,m,rfl,hS,h63,R,m1,m61,G,nmc,q⟩:=h;refine⟨_,(jd (jp (i:=2) Jf.nd rfl (.inl rfl) (qg QJ (by rfl) T.Yi Z8 (ja (jE (jU hr) (pv 1) jn) jc)))
  (jd (jp (i:=3) Jf.nd rfl (.inl rfl) (jr (jP.mono (by decide)) hr (by rfl) T.Qr T.qF.kp T.Qn .nil pass0 (ja (jk jT (jr (jF.mono (by decide)) hr (by rfl) T.qJ T.JU.kp T.qE .nil pass0 (ja (jr (jO.mono (by decide)) hr (by rfl) T.qf T.Jy.kp T.qc .nil pass0 (ja (pv 0) (ja jb jc))) (ja jb jc))) jb) (ja jb jc))))
  (jd (qh PassesOwn.never rfl (qK (by rfl) T.Q2 (ja (jk jC (ji jo (pv 3) jb) jb) jc)) (jt (i:=4) Jf.nd rfl (.inl rfl))
   (jd (jp (i:=5) Jf.nd rfl (.inl rfl) (jr (jP.mono (by decide)) hr (by rfl) T.Qr T.qF.kp T.Qn .nil pass0 (ja (jk jT (jr (jF.mono (by decide)) hr (by rfl) T.qJ T.JU.kp T.qE .nil pass0 (ja (jr (jO.mono (by decide)) hr (by rfl) T.qf T.Jy.kp T.qc .nil pass0 (ja (pv 0) (ja jb jc))) (ja (jk jT jb (pv 4)) jc))) (jk Qh jb (pv 4))) (ja jb jc))))
   (jd (jp (i:=6) Jf.nd rfl (.inl rfl) (jk jC (ji jo (pv 5) jb) (ju jX (by rfl) T.QI qu (ja (pv 2) jc))))
   (je (jV (jm Zm (pv 6) jb (nomark _))
    (je (j0F (jM (ja (ji jv (ji jo (pv 2) (pv 6)) jb) (ja (jr (QE.mono (by decide)) hr (by rfl) T.yQ T.zR.kp T.yD .nil pass0 (ja (pv 2) (ja (pv 6) (ja (pv 5) jc)))) jc))) (j2w (pv 2) (pv 6) set_list)))
    jw)))))
  (jd (Qx (PW.pt (kJ (jm Jh (jk jC (ji jo (pv 3) jb) jb) jb (nomark _)) (yZ (jm KH (ju jX (by rfl) T.QI qu (ja (pv 2) jc)) jb (nomark _)))))
   (jd (jp (i:=7) Jf.nd rfl (.inl rfl) (qz ZI (jr (qY.mono (by decide)) hr (by rfl) T.yP T.Zs.kp T.yC .nil pass0 (ja (jr (jO.mono (by decide)) hr (by rfl) T.qf T.Jy.kp T.qc .nil pass0 (ja (pv 0) (ja jb jc))) (ja jb jc))) (qP jb) Q6))
   (jd (jp (i:=8) Jf.nd rfl (.inl rfl) (j4 (ja (jM (ja (ji jo (pv 7) jb) (ja (jM (ja jn (ja (jk qv jb jb) jc))) jc))) (ja (jM (ja (ji jo (pv 7) jb) (ja (jM (ja jn (ja (jk qv jb jb) (ja (ji jo (pv 7) jb) jc)))) jc))) jc))))
   (jd (jA (qO PySem.F.plainAttrs_list PySem.F.slot_list_append PySem.F.type_list_append jJ (pv 8) (ja (jM (ja (ji jo (pv 7) jb) (ja (jM (ja jn (ja (jk qv jb jb) (ja (ji jo (pv 7) jb) jc)))) jc))) jc)))
   (jd (jA (qO PySem.F.plainAttrs_list PySem.F.slot_list_append PySem.F.type_list_append jJ (pv 8) (ja (jM (ja (ji jo (pv 7) jb) (ja (jM (ja jn (ja (jk jT (jk qv jb jb) (jk qy (jk jC (ji jo (pv 3) jb) jb) jb)) (ja (ji jo (pv 7) jb) jc)))) jc))) jc)))
   (jd (Qx (jm Jh (jk jC (ji jo (pv 3) jb) jb) jb (nomark _))
    (jd (jA (qO PySem.F.plainAttrs_list PySem.F.slot_list_append PySem.F.type_list_append jJ (pv 8) (ja (jM (ja (ji jo (pv 7) jb) (ja (jM (ja jn (ja jb jc))) jc))) jc)))
    (je (jA (qO PySem.F.plainAttrs_list PySem.F.slot_list_append PySem.F.type_list_append jJ (pv 8) (ja (jM (ja (ji jo (pv 7) jb) (ja (jM (ja jn (ja (jM (ja (ji jo (pv 7) jb) (ja (ji jo (pv 7) jb) jc))) jc))) jc))) jc)))))
    jw)
   (je (jp (i:=2) Jf.nd rfl (.inl rfl) (jk xt (pv 8) (pv 2)))))))))
   jw)
  (je (jB (pv 2))))))),?_⟩
 refine jz (σ':=[some _,some _,none,none,none,none,none,none,none]) rfl ?_;have sz:(200:Nat)<sizeLine:=by decide
 have W:=G.wfl m61;have p61:=W.w.p61;obtain⟨qs,eq,aq⟩:=R.p;exists⟨_,_,rfl,qI R,?_⟩;exists⟨z.pp,_,rfl,.inl (SqL.of eq),?_⟩;walk_at"f 1 t";exists⟨a,ns,_,rfl,s1.seq hS,h63,by omega,?_⟩;exists⟨_,_,rfl,by omega,by omega,fun r=>?_⟩;exists⟨_,_,rfl,by omega,by omega,fun p2 fs H2 s2 hp2 t2 l2 b2 _=>?_⟩;have B2:Big fs:=b2;have c0:=B2.cell (k:=0) (by omega) (by omega);have b0:=Int.emod_nonneg (Pr.cell fs 0) (show(4:Int)≠0 by omega);have b1:=Int.emod_lt_of_pos (Pr.cell fs 0) (show(0:Int)<4 by omega);have s12:=s1.trans s2;exists ixLm (SqL.of t2) (Pr.jD (by omega) (by omega)) ?_;exists⟨_,rfl,by omega,by omega,?_⟩;refine Qf (fun i σ H'=>∃(pas:List Addr) (ps:List (Str×Fm)) (o4 o5 o6:Option V),σ=[some (.ref a),some (.ref z.r),some (.ref p1),some (.ref p2),o4,o5,o6,none,none]/\Same H H'/\H' p1=some (.lst (pas.map V.ref))/\H' p2=some (.lst (fs.map V.int))/\All2 (PartAt H') pas ps/\nmsOf ps=nmsOf m.parts/\ps.length=m.parts.length/\WfL m.limbs ps)
  ⟨qs,m.parts,_,_,_,rfl,s12,s2 _ _ t1,t2,aq.mono fun b x h=>PartAt.same s12 h,rfl,rfl,W⟩ ?_ ?_
 ·rintro i σ H' hi ⟨pas,ps,o4,o5,o6,rfl,sm,e1,ef,aP,en,lp,W'⟩;have pl:=aP.1;exists⟨a,ns,_,rfl,sm.seq hS,h63,by omega,?_⟩;exists⟨_,_,rfl,by omega,by omega,fun r=>?_⟩;exists⟨_,_,rfl,by omega,by omega,fun p3 gs H3 s3 hp3 t3 l3 b3 _=>?_⟩;have B3:Big gs:=b3;have c6:=B3.cell (k:=6) (by omega) (by omega);exists ixLm (SqL.of t3) (Pr.jD (by omega) (by omega)) ?_;exists⟨_,_,rfl,.inl ⟨_,SqL.of (s3 _ _ e1),rfl⟩,?_⟩;rw[length_map,pl,lp];walk_at"g";have d0:=Int.emod_nonneg (Pr.cell gs 6) (show(m.parts.length:Int)≠0 by omega);have d1:=Int.emod_lt_of_pos (Pr.cell gs 6) (show(0:Int)<(m.parts.length:Int) by omega);obtain⟨k,hk⟩:∃k:Nat,Pr.cell gs 6%(m.parts.length:Int)=(k:Int):=⟨_,(Int.toNat_of_nonneg d0).symm⟩
  rw[hk]at d1|-;have s03:=sm.trans s3;have aP3:All2 (PartAt H3) pas ps:=aP.mono fun b x h=>PartAt.same s3 h
  exists iteD (fun d=>?_) (fun d=>?_)
  ·obtain⟨p,hp⟩:∃p,ps[k]?=some p:=⟨_,List.getElem?_eq_getElem (by omega)⟩
   obtain⟨ak,eak,fb0,hb0,_⟩:=aP3.get hp;exists ixLm (SqL.of (s3 _ _ e1)) (qa (i:=(k:Int)) (by omega) eak) ?_;exists ixTm (SqT.of hb0) (at0) ?_;exists⟨p1,p3,k,pas,ps,gs,rfl,s3 _ _ e1,aP3,by omega,by omega,by omega,t3,by omega,B3,fun fb f H4 s4 hfb hf nw=>?_⟩;exists⟨(by show 2<=sizeLine;omega),?_⟩;walk_at"f 5 t";have s35:=s4.trans s5;have e5:H5 p1=some (.lst (pas.map V.ref)):=s35 _ _ (s3 _ _ e1);exists⟨p1,_,_,k,rfl,rfl,e5,ixK (by rw[length_map];omega),?_⟩;have kt:∀c xs,H5 c=some (.tup xs)->upd H5 p1 (.lst ((pas.map V.ref).set k (.ref p5))) c=some (.tup xs):=fun c xs h=>(jh (Zk h e5 (fun z=>by cases z))).trans h
   refine⟨pas.set k p5,ps.set k (p.1,f),_,_,_,rfl,fun c u h=>(jh (jf h hp1)).trans (s35 _ _ (s03 _ _ h)),by rw[jg,List.map_set],(jh (jf t1 hp2).symm).trans (s35 _ _ (s3 _ _ ef)),All2.set (aP3.mono fun b x h=>PartAt.keep kt (PartAt.same s35 h)) ⟨fb,kt _ _ t5,FormAt.keep kt (FormAt.same s5 hf)⟩,(wu hp f).trans en,by rw[length_set];exact lp,j1P W' hp nw⟩
  ·walk_at"g";exact⟨pas,ps,_,_,_,rfl,s03,s3 _ _ e1,s3 _ _ ef,aP3,en,lp,W'⟩
 rintro σ' H3 ⟨pas,ps,o4,o5,o6,rfl,s03,e1,ef,aP,en,lp,W'⟩;have pl:=aP.1;have c1:=B2.cell (k:=1) (by omega) (by omega);have c2:=B2.cell (k:=2) (by omega) (by omega);exists⟨fun σ' H'=>∃(pp:Addr) (pas:List Addr) (ps:List (Str×Fm)) (o7 o8:Option V),σ'=[some (.ref a),some (.ref z.r),some (.ref pp),some (.ref p2),o4,o5,o6,o7,o8]/\Same H H'/\H pp=none/\H' pp=some (.lst (pas.map V.ref))/\All2 (PartAt H') pas ps/\WfL m.limbs ps,?_,?_⟩
 rotate_left
 ·exists ixLm (SqL.of ef) (Pr.jD (by omega) (by omega)) ?_;walk_at"g";have done:∀o7 o8,∃(pp:Addr) (pas:List Addr) (ps:List (Str×Fm)) (o7' o8':Option V),[some (V.ref a),some (.ref z.r),some (.ref p1),some (.ref p2),o4,o5,o6,o7,o8]=[some (V.ref a),some (.ref z.r),some (.ref pp),some (.ref p2),o4,o5,o6,o7',o8']/\Same H H3/\H pp=none/\H3 pp=some (.lst (pas.map V.ref))/\All2 (PartAt H3) pas ps/\WfL m.limbs ps:=fun o7 o8=>⟨p1,pas,ps,_,_,rfl,s03,hp1,e1,aP,W'⟩
  refine iteD (fun d1=>?_) (fun d1=>?_)
  ·exists⟨_,_,rfl,.inl ⟨_,SqL.of e1,rfl⟩,?_⟩;rw[length_map,pl];exists iteD (fun d2=>?_) (fun d2=>?_)
   ·exists⟨a,ns,_,rfl,s03.seq hS,h63,by omega,?_⟩;exists⟨_,74,rfl,by decide,fun p4 ws H4 s4 hp4 t4 l4 nm4 _ nw4=>?_⟩;exists⟨p4,_,rfl,SqL.of t4,?_⟩;walk_at"f 5 t";obtain⟨x0,e0,a0⟩:=Yn l4 0 (by decide);obtain⟨x1,e1',a1⟩:=Yn l4 1 (by decide);obtain⟨x2,e2,a2⟩:=Yn l4 2 (by decide);obtain⟨x3,e3,a3⟩:=Yn l4 3 (by decide);obtain⟨x4,e4,a4⟩:=Yn l4 4 (by decide);obtain⟨x5,e5,a5⟩:=Yn l4 5 (by decide);exists ixLm (SqL.of t5) (a0) ?_;exists⟨(by show 2<=sizeLine;omega),?_⟩;walk_at"f 6 t";exists⟨(by show 2<=sizeLine;omega),?_⟩;walk_at"f 7 t";exists ixLm (SqL.of (s7 _ _ (s6 _ _ t5))) (a1) ?_;exists ixLm (SqL.of (s7 _ _ (s6 _ _ t5))) (a0) ?_;exists⟨(by show 3<=sizeLine;omega),?_⟩;walk_at"f 8 t";exists⟨(by show 2<=sizeLine;omega),?_⟩;walk_at"f 9 t";have s59:=s6.trans (s7.trans (s8.trans s9));exists⟨(by show 2<=sizeLine;omega),?_⟩;walk_at"f 10 t";have s510:=s59.trans s10;have t510:=s510 _ _ t5;exists⟨.inl ⟨rfl,_,SqL.of t10⟩,?_⟩;exists ixLm (SqL.of t510) (a2) ?_;exists ixLm (SqL.of t510) (a1) ?_;exists⟨(by show 3<=sizeLine;omega),?_⟩;walk_at"f 11 t";exists⟨(by show 2<=sizeLine;omega),?_⟩;walk_at"f p12 hp12 H12 s12' t12";have g0:GrAt H5 H10 p10 [p7,p9] [(x0,.hold (10^18)),(x1,.again (10^18) x0)]:=by
     refine⟨s510,none_of s59 hp10,t10,rfl,fun i b x h1 h2=>?_⟩
     match i,h1,h2 with
     | 0,h1,h2=>cases h1;cases h2;exact⟨p6,s10 _ _ (s9 _ _ (s8 _ _ t7)),s10 _ _ (s9 _ _ (s8 _ _ (s7 _ _ t6)))⟩
     | 1,h1,h2=>cases h1;cases h2;exact⟨p8,s10 _ _ t9,s10 _ _ (s9 _ _ t8)⟩
    have g1:GrAt H5 (upd H12 p10 (.lst ([V.ref p7,V.ref p9]++[V.ref p12]))) p10 ([p7,p9]++[p12]) _:=g0.push (p:=(x2,.again (10^18) x1)) (s11.trans s12') ⟨p11,t12,s12' _ _ t11⟩;exists⟨p10,_,_,rfl,rfl,(s11.trans s12') _ _ t10,(by show 2<sizeLine;omega),?_⟩;generalize upd H12 p10 _=H13 at g1|-;have t513:=g1.k _ _ t5;have ef13:=g1.k _ _ (s5 _ _ (s4 _ _ ef));exists⟨.inl ⟨rfl,_,SqL.of g1.l⟩,?_⟩;exists ixLm (SqL.of t513) (a3) ?_;exists ixLm (SqL.of ef13) (Pr.jD (by omega) (by omega)) ?_;exists ixLm (SqL.of t513) (a2) ?_;exists⟨(by show 3<=sizeLine;omega),?_⟩;walk_at"f 14 t";exists⟨(by show 2<=sizeLine;omega),?_⟩;walk_at"f 15 t";have g2:=g1.push (p:=(x3,.again (10^6+Pr.cell fs 2%3/2) x2)) (s14.trans s15) ⟨p14,t15,s15 _ _ t14⟩;exists⟨p10,_,_,rfl,rfl,(s14.trans s15) _ _ g1.l,(by show 3<sizeLine;omega),?_⟩;generalize upd H15 p10 _=H16 at g2|-;have t516:=g2.k _ _ t5;have ef16:=g2.k _ _ (s5 _ _ (s4 _ _ ef));obtain⟨w4,w6⟩:=j0i (k:=10^6+Pr.cell fs 2%3/2) W' nm4 nw4 l4 e0 e1' e2 e3 e4 e5 (by omega) (by omega);have s05:=s03.trans (s4.trans s5);exists⟨fun σ' H'=>∃(gas:List Addr) (gr:List (Str×Fm)),σ'=[some (.ref a),some (.ref z.r),some (.ref p1),some (.ref p2),o4,o5,o6,some (.ref p5),some (.ref p10)]/\GrAt H5 H' p10 gas gr/\WfL m.limbs gr/\gr.length<=6/\∀x∈nmsOf gr,∃i:Nat,i<6/\ws[68+i]?=some x,?_,?_⟩
    rotate_left
    ·exists ixLm (SqL.of ef16) (Pr.jD (by omega) (by omega)) ?_;exists iteD (fun d3=>?_) (fun d3=>?_)
     ·exists⟨.inl ⟨rfl,_,SqL.of g2.l⟩,?_⟩;exists ixLm (SqL.of t516) (a4) ?_;exists⟨(by show 2<=sizeLine;omega),?_⟩;walk_at"f 17 t";exists⟨(by show 2<=sizeLine;omega),?_⟩;walk_at"f 18 t";have g3:=g2.push (p:=(x4,.hold 1)) (s17.trans s18) ⟨p17,t18,s18 _ _ t17⟩;exists⟨p10,_,_,rfl,rfl,(s17.trans s18) _ _ g2.l,(by show 4<sizeLine;omega),?_⟩;generalize upd H18 p10 _=H19 at g3|-;have t519:=g3.k _ _ t5;exists⟨.inl ⟨rfl,_,SqL.of g3.l⟩,?_⟩;exists ixLm (SqL.of t519) (a5) ?_;exists ixLm (SqL.of t519) (a3) ?_;exists ixLm (SqL.of t519) (a4) ?_;exists⟨(by show 2<=sizeLine;omega),?_⟩;walk_at"f 20 t";exists⟨(by show 2<=sizeLine;omega),?_⟩;walk_at"f 21 t";exists⟨(by show 2<=sizeLine;omega),?_⟩;walk_at"f 22 t";have g4:=g3.push (p:=(x5,.row [x3,x4])) (s20.trans (s21.trans s22)) ⟨p21,t22,p20,s22 _ _ t21,s22 _ _ (s21 _ _ t20)⟩;exists⟨p10,_,_,rfl,rfl,(s20.trans (s21.trans s22)) _ _ g3.l,(by show 5<sizeLine;omega),?_⟩;generalize upd H22 p10 _=H23 at g4|-;exists⟨_,_,rfl,g4,w6,Nat.le_refl 6,fun x hx=>?_⟩;have hx':x=x0\/x=x1\/x=x2\/x=x3\/x=x4\/x=x5:=by simpa [nmsOf]using hx
      rcases hx' with rfl | rfl | rfl | rfl | rfl | rfl
      ·exact⟨0,by decide,e0⟩
      ·exact⟨1,by decide,e1'⟩
      ·exact⟨2,by decide,e2⟩
      ·exact⟨3,by decide,e3⟩
      ·exact⟨4,by decide,e4⟩
      ·exact⟨5,by decide,e5⟩
     ·exists⟨_,_,rfl,g2,w4,(by show 4<=6;decide),fun x hx=>?_⟩;have hx':x=x0\/x=x1\/x=x2\/x=x3:=by simpa [nmsOf]using hx
      rcases hx' with rfl | rfl | rfl | rfl
      ·exact⟨0,by decide,e0⟩
      ·exact⟨1,by decide,e1'⟩
      ·exact⟨2,by decide,e2⟩
      ·exact⟨3,by decide,e3⟩
    rintro σ' H24 ⟨gas,gr,rfl,g,wg,lg,hg⟩;have gl:=g.a.1;have s0g:=s05.trans g.k;have e24:H24 p1=some (.lst (pas.map V.ref)):=g.k _ _ (s5 _ _ (s4 _ _ e1));exists⟨p10,p1,_,_,rfl,rfl,g.l,e24,by rw[length_map,length_map];omega,?_⟩;walk_at"f 25 t";exists⟨p25,gas++pas,gr++ps,_,_,rfl,s0g.trans s25,none_of s0g hp25,by rw[t25,map_append],?_,j1N wg W' (fun x hx hx'=>?_) (by omega)⟩
    ·refine All2.appX (g.a.mono fun b x h=>PartAt.same s25 h) (aP.mono fun b x h=>PartAt.same (s4.trans (s5.trans (g.k.trans s25))) h)
    ·obtain⟨i,hi,ei⟩:=hg x hx;rw[en]at hx';obtain⟨j,hj⟩:=List.getElem?_of_mem hx';have jl:j<m.parts.length:=by have:=(List.getElem?_eq_some_iff.mp hj).1;unfold nmsOf at this;rw[length_map]at this;exact this
     have hj':m.names[j]?=some x:=by
      have e:=KF G jl;rw[hj]at e;have nl:=G.nl;rw[Option.some.inj e];unfold Rr.nm;rw[getD_eq_getElem?_getD,List.getElem?_eq_getElem (by omega)];rfl
     have:=Xi nm4 nmc (by omega) (by omega) ei hj';omega
   ·walk_at"g";exact done _ _
  ·walk_at"g";exact done _ _
 rintro σ' H' ⟨pp,pas',ps',o7,o8,rfl,s4,hpp,e4,aP4,W4⟩;walk_at"g";exact q pp pas' ps' H' s4 hpp e4 aP4 W4
theorem ww(T:Txt K mg t):FnOk P w K mg base CX0 1 t.zb t.zn ["_law_form","_law_long_here"] (sp_longX):=by
 refine T.YF.ok wJ (fun vs H Q E h=>?_) (fun cdv A outer s H vs Q E hr h=>?_)
 ·cases h;subst_vars;rfl
 obtain⟨fa,d,f,nm,gs,rfl,hF,ed,nd,ng,xin,x8,pre,q⟩:=h;refine⟨_,(jd (jV (jm Jh (ji jv (pv 0) jb) jn (nomark _))
   (je (jB (ju (ya rfl) (by rfl) T.xO K2 (ja (j3 (ow:=["_law_name"]) (ci:=[1]) rfl (CompScope.of (defScope zq) ["_law_form","_law_long_here"] rfl rfl (by decide +kernel)) (jZ (by decide)) (Yu (ji jv (pv 0) jb)) (fun _ _ _ _ _=>⟨(jt (i:=0) (Jb ["_law_form","_law_long_here"] rfl (by decide +kernel)) rfl (.inl rfl)),qN,(jE (jU hr) (pv 1) (pv 0))⟩)) jc))))
   jw)
  (jd (jV (jm Jh (ji jv (pv 0) jb) jn (nomark _))
   (je (jB (ju (Yk rfl) (by rfl) T.xN K1 (ja (j3 (ow:=["_law_name"]) (ci:=[1]) rfl (CompScope.of (defScope zq) ["_law_form","_law_long_here"] rfl rfl (by decide +kernel)) (jZ (by decide)) (Yu (ji jv (pv 0) jb)) (fun _ _ _ _ _=>⟨(jt (i:=0) (Jb ["_law_form","_law_long_here"] rfl (by decide +kernel)) rfl (.inl rfl)),qN,(jE (jU hr) (pv 1) (pv 0))⟩)) jc))))
   jw)
  (jd (jV (jm Jh (ji jv (pv 0) jb) jn (nomark _))
   (je (jB (jk Qh (ji jv (pv 0) jb) (jE (jU hr) (pv 1) (ji jv (pv 0) jb)))))
   jw)
  (je (jB (ji jv (pv 0) (jk yy (ju jX (by rfl) T.QI qu (ja (pv 0) jc)) jb))))))),?_⟩
 refine jz (σ':=[some _,some _]) rfl ?_;have sz:(200:Nat)<sizeLine:=by decide
 have get:∀x,x∈nm->DGet H d (.str x) (some (.int (gs.getD (ixOf nm x) 0))):=fun x hx=>by
  have g:=DGet.k (k:=Sum.inr x) ed;obtain⟨j,hj⟩:=List.getElem?_of_mem hx;have jl:=(List.getElem?_eq_some_iff.mp hj).1;rw[Yg nd (by rw[length_map];exact ng) hj (v:=.int (gs.getD j 0)) (by rw[List.getElem?_map,getD_eq_getElem?_getD,List.getElem?_eq_getElem (by omega)];rfl)]at g;rw[qb nd hj];exact g
 cases f with
 | hold n=>
  have ha:H fa=some (.tup _):=hF;exists ixTm (SqT.of ha) rfl ?_;exists iteE0 ?_;exists ixTm (SqT.of ha) rfl ?_;exists iteE0 ?_;exists ixTm (SqT.of ha) rfl ?_;exists iteE0 ?_;exists⟨_,_,rfl,.inr ⟨_,SqT.of ha,rfl⟩,?_⟩;exists ixTm (SqT.of ha) rfl ?_;exact q _ H (Same.refl _) rfl
 | ring x n=>
  have ha:H fa=some (.tup _):=hF;exists ixTm (SqT.of ha) rfl ?_;exists iteE0 ?_;exists ixTm (SqT.of ha) rfl ?_;exists iteE0 ?_;exists ixTm (SqT.of ha) rfl ?_;exists iteE0 ?_;exists⟨_,_,rfl,.inr ⟨_,SqT.of ha,rfl⟩,?_⟩;exists ixTm (SqT.of ha) rfl ?_;exact q _ H (Same.refl _) rfl
 | rise x h n=>
  have ha:H fa=some (.tup _):=hF;exists ixTm (SqT.of ha) rfl ?_;exists iteE0 ?_;exists ixTm (SqT.of ha) rfl ?_;exists iteE0 ?_;exists ixTm (SqT.of ha) rfl ?_;exists iteE0 ?_;exists⟨_,_,rfl,.inr ⟨_,SqT.of ha,rfl⟩,?_⟩;exists ixTm (SqT.of ha) rfl ?_;exact q _ H (Same.refl _) rfl
 | row is=>
  obtain⟨b,ha,hb⟩:=hF;have j8:is.length<=8:=x8;have jlt:∀x∈is,x∈nm:=xin;exists ixTm (SqT.of ha) rfl ?_;exists iteE1 ?_;exists ixTm (SqT.of ha) rfl ?_;refine⟨b,rfl,⟨_,SqT.of hb⟩,?_⟩;refine ZQ (xs:=is.map V.str) (fun t ys H'=>ys=((is.take t).map fun x=>gs.getD (ixOf nm x) 0).map V.int/\H=H') ⟨rfl,rfl⟩ ?_ ?_ ?_
  ·rintro t ys H' _ ⟨rfl,rfl⟩;exact SqT.of hb
  ·rintro t v ys H' hv ⟨rfl,rfl⟩;rw[List.getElem?_map]at hv;obtain⟨x,hx,rfl⟩:=Option.map_eq_some_iff.mp hv;have ht:=(List.getElem?_eq_some_iff.mp hx).1;refine Ji (σ':=[none,some (.ref d)]) rfl ?_;exists iteT ?_;exists⟨d,_,rfl,get x (jlt x (List.mem_of_getElem? hx)),?_⟩;refine⟨by rw[length_map,length_map,length_take];omega,?_,rfl⟩;rw[take_snoc hx,map_append,map_append];rfl
  rintro ys H' ⟨rfl,rfl⟩;rw[show(is.map V.str).length=is.length from length_map _,take_length];refine⟨by rw[length_map,length_map];omega,?_⟩;walk_at"f 1 t";exists⟨p1,_,rfl,SqL.of t1,?_⟩;exact q _ H1 s1 rfl
 | side is=>
  obtain⟨b,ha,hb⟩:=hF;have j8:is.length<=8:=x8;have jlt:∀x∈is,x∈nm:=xin;exists ixTm (SqT.of ha) rfl ?_;exists iteE0 ?_;exists ixTm (SqT.of ha) rfl ?_;exists iteE1 ?_;exists ixTm (SqT.of ha) rfl ?_;refine⟨b,rfl,⟨_,SqT.of hb⟩,?_⟩;refine ZQ (xs:=is.map V.str) (fun t ys H'=>ys=((is.take t).map fun x=>gs.getD (ixOf nm x) 0).map V.int/\H=H') ⟨rfl,rfl⟩ ?_ ?_ ?_
  ·rintro t ys H' _ ⟨rfl,rfl⟩;exact SqT.of hb
  ·rintro t v ys H' hv ⟨rfl,rfl⟩;rw[List.getElem?_map]at hv;obtain⟨x,hx,rfl⟩:=Option.map_eq_some_iff.mp hv;have ht:=(List.getElem?_eq_some_iff.mp hx).1;refine Ji (σ':=[none,some (.ref d)]) rfl ?_;exists iteT ?_;exists⟨d,_,rfl,get x (jlt x (List.mem_of_getElem? hx)),?_⟩;refine⟨by rw[length_map,length_map,length_take];omega,?_,rfl⟩;rw[take_snoc hx,map_append,map_append];rfl
  rintro ys H' ⟨rfl,rfl⟩;rw[show(is.map V.str).length=is.length from length_map _,take_length];refine⟨by rw[length_map,length_map];omega,?_⟩;walk_at"f 1 t";exists⟨p1,_,rfl,SqL.of t1,List.length_pos_iff.mpr pre,fun g h1 h2=>?_⟩;exact q g H1 s1 ⟨h1,h2⟩
 | again k x=>
  have ha:H fa=some (.tup _):=hF;obtain⟨y,r,ey,k0,k1,y0,y1⟩:=pre;have ey:gs.getD (ixOf nm x) 0=y:=by injection ey
  exists ixTm (SqT.of ha) rfl ?_;exists iteE0 ?_;exists ixTm (SqT.of ha) rfl ?_;exists iteE0 ?_;exists ixTm (SqT.of ha) rfl ?_;exists iteE1 ?_;exists ixTm (SqT.of ha) rfl ?_;exists ixTm (SqT.of ha) rfl ?_;exists⟨d,_,rfl,get x (xin x mem_cons_self),?_⟩;rw[ey];walk_at"g";exact q _ H (Same.refl _) ⟨y,by rw[<-ey];rfl,rfl⟩
theorem Kb(T:Txt K mg t):FnOk P w K mg base CX0 1 t.QG t.QL ["_law_form","_law_moves_here"] (sp_movesX):=by
 refine T.yH.ok Q7 (fun vs H Q E h=>?_) (fun cdv A outer s H vs Q E hr h=>?_)
 ·cases h;subst_vars;rfl
 obtain⟨fa,d,f,nm,ds,ls,Ms,ks,rfl,hF,ed,nd,ng,ad,ln,l8,xin,x8,xr,hk,q⟩:=h;refine⟨_,(jd (jp (i:=2) Q7.nd rfl (.inl rfl) Zn)
  (jd (Qx (jm Jh (ji jv (pv 0) jb) jn (nomark _))
   (je (yY (jU hr) (pv 2) (ji jv (pv 0) jb) YQ rfl))
   jw)
  (jd (Qx (jm Jh (ji jv (pv 0) jb) jn (nomark _))
   (je (jp (i:=2) Q7.nd rfl (.inl rfl) (jE (jU hr) (pv 1) (ji jv (pv 0) jb))))
   jw)
  (jd (Qx (PW.pt (Xn (jm Jh (ji jv (pv 0) jb) jn (nomark _)) (wE (jm Jh (ji jv (pv 0) jb) jn (nomark _)))))
   (je (qh PassesOwn.never rfl (Yu (ji jv (pv 0) jb)) (jt (i:=3) Q7.nd rfl (.inl rfl))
    (je (jA (qO PySem.F.plainAttrs_dict PySem.F.slot_dict_update PySem.F.type_dict_update KE (pv 2) (ja (jE (jU hr) (pv 1) (pv 3)) jc))))))
   jw)
  (je (jB (pv 2))))))),?_⟩
 refine jz (σ':=[some _,some _,none,none]) rfl ?_;have sz:(200:Nat)<sizeLine:=by decide
 have adl:=ad.1;have get:∀x,x∈nm->∃a xs,a∈ds/\H a=some (.dK (tK xs))/\NmOf ls (Ms.getD (ixOf nm x) []) xs/\∀H',Same H H'->DGet H' d (.str x) (some (.ref a)):=fun x hx=>by
  obtain⟨j,hj⟩:=List.getElem?_of_mem hx;have jl:=(List.getElem?_eq_some_iff.mp hj).1;obtain⟨a,ha,xs,e1,e2⟩:=ad.get (i:=j) (x:=Ms.getD j []) (by rw[getD_eq_getElem?_getD,List.getElem?_eq_getElem (by omega)];rfl);refine⟨a,xs,List.mem_of_getElem? ha,e1,by rw[qb nd hj];exact e2,fun H' s'=>?_⟩;have g:=DGet.k (k:=Sum.inr x) (s' _ _ ed);rw[Yg nd (by rw[length_map];exact ng) hj (v:=.ref a) (by rw[List.getElem?_map,ha];rfl)]at g;exact g
 walk_at"g";walk_at"f d0 hd0 H1 s1 t1";have nd0:∀{c u},H c=some u->c≠d0:=fun h=>jf h hd0
 cases f with
 | hold n=>
  have ha:H fa=some (.tup _):=hF;exists⟨fun σ' H'=>σ'=[some (.ref fa),some (.ref d),some (.ref d0),none]/\H1=H',?_,?_⟩
  rotate_left
  ·exists ixTm (SqT.of (s1 _ _ ha)) rfl ?_;exists iteE0 ?_;walk_at"g";exact⟨rfl,rfl⟩
  rintro σ' H' ⟨rfl,rfl⟩;exists⟨fun σ' H'=>σ'=[some (.ref fa),some (.ref d),some (.ref d0),none]/\H1=H',?_,?_⟩
  rotate_left
  ·exists ixTm (SqT.of (s1 _ _ ha)) rfl ?_;exists iteE0 ?_;walk_at"g";exact⟨rfl,rfl⟩
  rintro σ' H' ⟨rfl,rfl⟩;exists⟨fun σ' H'=>σ'=[some (.ref fa),some (.ref d),some (.ref d0),none]/\H1=H',?_,?_⟩
  rotate_left
  ·exists ixTm (SqT.of (s1 _ _ ha)) rfl ?_;exists iteE0 ?_;exists ixTm (SqT.of (s1 _ _ ha)) rfl ?_;exists iteE0 ?_;walk_at"g";exact⟨rfl,rfl⟩
  rintro σ' H' ⟨rfl,rfl⟩;exists q d0 H1 s1 (.inl hd0) ⟨[],t1,NmOf.none fun k h=>?_⟩;rcases(hk k).mp h with⟨_,z,_⟩ | ⟨_,_,_,z,_⟩
  ·exact nomatch z
  ·cases z
 | ring x n=>
  have ha:H fa=some (.tup _):=hF;exists⟨fun σ' H'=>σ'=[some (.ref fa),some (.ref d),some (.ref d0),none]/\H1=H',?_,?_⟩
  rotate_left
  ·exists ixTm (SqT.of (s1 _ _ ha)) rfl ?_;exists iteE0 ?_;walk_at"g";exact⟨rfl,rfl⟩
  rintro σ' H' ⟨rfl,rfl⟩;exists⟨fun σ' H'=>σ'=[some (.ref fa),some (.ref d),some (.ref d0),none]/\H1=H',?_,?_⟩
  rotate_left
  ·exists ixTm (SqT.of (s1 _ _ ha)) rfl ?_;exists iteE0 ?_;walk_at"g";exact⟨rfl,rfl⟩
  rintro σ' H' ⟨rfl,rfl⟩;exists⟨fun σ' H'=>σ'=[some (.ref fa),some (.ref d),some (.ref d0),none]/\H1=H',?_,?_⟩
  rotate_left
  ·exists ixTm (SqT.of (s1 _ _ ha)) rfl ?_;exists iteE0 ?_;exists ixTm (SqT.of (s1 _ _ ha)) rfl ?_;exists iteE0 ?_;walk_at"g";exact⟨rfl,rfl⟩
  rintro σ' H' ⟨rfl,rfl⟩;exists q d0 H1 s1 (.inl hd0) ⟨[],t1,NmOf.none fun k h=>?_⟩;rcases(hk k).mp h with⟨_,z,_⟩ | ⟨_,_,_,z,_⟩
  ·exact nomatch z
  ·cases z
 | rise x v n=>
  have ha:H fa=some (.tup _):=hF;exists⟨fun σ' H'=>σ'=[some (.ref fa),some (.ref d),some (.ref d0),none]/\upd H1 d0 (.dK (tK [x]))=H',?_,?_⟩
  rotate_left
  ·exists ixTm (SqT.of (s1 _ _ ha)) rfl ?_;exists iteE1 ?_;exists ixTm (SqT.of (s1 _ _ ha)) rfl ?_;refine⟨d0,_,rfl,DPut.k (k:=Sum.inr x) t1 (by show 0<sizeLine;omega),?_⟩;exact⟨rfl,rfl⟩
  rintro σ' H' ⟨rfl,rfl⟩;have s2:Same H (upd H1 d0 (.dK (tK [x]))):=fun c u h=>(jh (nd0 h)).trans (s1 _ _ h)
  have t2:upd H1 d0 (.dK (tK [x])) d0=some (.dK (tK [x])):=jg;generalize upd H1 d0 (.dK (tK [x]))=H2 at s2 t2|-;exists⟨fun σ' H'=>σ'=[some (.ref fa),some (.ref d),some (.ref d0),none]/\H2=H',?_,?_⟩
  rotate_left
  ·exists ixTm (SqT.of (s2 _ _ ha)) rfl ?_;exists iteE0 ?_;walk_at"g";exact⟨rfl,rfl⟩
  rintro σ' H' ⟨rfl,rfl⟩;exists⟨fun σ' H'=>σ'=[some (.ref fa),some (.ref d),some (.ref d0),none]/\H2=H',?_,?_⟩
  rotate_left
  ·exists ixTm (SqT.of (s2 _ _ ha)) rfl ?_;exists iteE0 ?_;exists ixTm (SqT.of (s2 _ _ ha)) rfl ?_;exists iteE0 ?_;walk_at"g";exact⟨rfl,rfl⟩
  rintro σ' H' ⟨rfl,rfl⟩;exists q d0 H2 s2 (.inl hd0) ⟨[x],t2,NmOf.one ln (xr x v n rfl) fun k=>(hk k).trans ⟨?_,fun e=>.inr ⟨x,v,n,rfl,e⟩⟩⟩;rintro(⟨_,z,_⟩ | ⟨x',_,_,z,e⟩)
  ·exact nomatch z
  ·cases z;exact e
 | row is=>
  obtain⟨b,ha,hb⟩:=hF;have i8:is.length<=8:=x8;have xin:∀x∈is,x∈nm:=xin;exists⟨fun σ' H'=>σ'=[some (.ref fa),some (.ref d),some (.ref d0),none]/\H1=H',?_,?_⟩
  rotate_left
  ·exists ixTm (SqT.of (s1 _ _ ha)) rfl ?_;exists iteE0 ?_;walk_at"g";exact⟨rfl,rfl⟩
  rintro σ' H' ⟨rfl,rfl⟩;exists⟨fun σ' H'=>σ'=[some (.ref fa),some (.ref d),some (.ref d0),none]/\H1=H',?_,?_⟩
  rotate_left
  ·exists ixTm (SqT.of (s1 _ _ ha)) rfl ?_;exists iteE0 ?_;walk_at"g";exact⟨rfl,rfl⟩
  rintro σ' H' ⟨rfl,rfl⟩;exists⟨fun σ' H'=>∃(o3:Option V) (xs:List Str),σ'=[some (.ref fa),some (.ref d),some (.ref d0),o3]/\Same H H'/\H' d0=some (.dK (tK xs))/\NmOf ls ks xs,?_,?_⟩
  rotate_left
  ·exists ixTm (SqT.of (s1 _ _ ha)) rfl ?_;exists iteE1 ?_;refine iteT ?_;exists ixTm (SqT.of (s1 _ _ ha)) rfl ?_;refine⟨b,rfl,⟨_,SqT.of (s1 _ _ hb)⟩,?_⟩;refine x9 (xs:=is.map V.str) (fun t σ H'=>∃(o3:Option V) (xs:List Str),σ=[some (.ref fa),some (.ref d),some (.ref d0),o3]/\Same H H'/\H' d0=some (.dK (tK xs))/\xs.Nodup/\∀y,y∈xs↔∃j:Nat,(nmsOf ls)[j]?=some y/\∃x∈is.take t,(j:Int)∈Ms.getD (ixOf nm x) [])
    ⟨_,[],rfl,s1,t1,.nil,fun y=>⟨(fun h=>nomatch h),fun⟨_,_,_,h,_⟩=>nomatch h⟩⟩ ?_ ?_ ?_
   ·rintro t σ H' _ ⟨o3,xs,rfl,sm,e0,xn,xm⟩;exact SqT.of (sm _ _ hb)
   ·rintro t v σ H' hv ⟨o3,xs,rfl,sm,e0,xn,xm⟩;rw[List.getElem?_map]at hv;obtain⟨x,hx,rfl⟩:=Option.map_eq_some_iff.mp hv;obtain⟨a,zs,ain,ea,nz,dg⟩:=get x (xin x (List.mem_of_getElem? hx));have zl:=nz.len;have xl:xs.length<=ls.length:=by
     rw[<-length_map (f:=(·.1)) (as:=ls)];exact wt xn fun y hy=>by obtain⟨j,hj,_⟩:=(xm y).mp hy;exact List.mem_of_getElem? hj
    have lt:∀ys:List Str,(tK ys).length=ys.length:=fun ys=>length_map _
    exists⟨.inr (.inr (.inl ⟨rfl,.inl ⟨_,e0⟩⟩)),?_⟩;exists⟨d,_,rfl,dg H' sm,?_⟩;exists⟨d0,a,_,_,rfl,rfl,e0,sm _ _ ea,(nd0 ea).symm,by rw[lt,lt];omega,?_⟩;rw[kP];obtain⟨an,am⟩:=KQ (ys:=zs) xn;refine⟨_,_,rfl,fun c u h=>(jh (nd0 h)).trans (sm _ _ h),jg,an,fun y=>?_⟩;rw[am y,xm y,nz.2 y,take_snoc hx];constructor
    ·rintro(⟨j,h1,z,h2,h3⟩ | ⟨j,h1,h2⟩)
     ·exact⟨j,h1,z,mem_append_left _ h2,h3⟩
     ·exact⟨j,h1,x,mem_append_right _ mem_cons_self,h2⟩
    ·rintro⟨j,h1,z,h2,h3⟩;rcases mem_append.mp h2 with h2 | h2
     ·exact .inl ⟨j,h1,z,h2,h3⟩
     ·rw[mem_singleton.mp h2]at h3;exact .inr ⟨j,h1,h3⟩
   ·rintro σ H' ⟨o3,xs,rfl,sm,e0,xn,xm⟩;rw[length_map,take_length]at xm;refine⟨_,xs,rfl,sm,e0,xn,fun y=>(xm y).trans ⟨?_,?_⟩⟩
    ·rintro⟨j,h1,x,h2,h3⟩;exact⟨j,h1,(hk j).mpr (.inl ⟨x,h2,h3⟩)⟩
    ·rintro⟨j,h1,h2⟩;rcases(hk j).mp h2 with⟨x,h3,h4⟩ | ⟨_,_,_,z,_⟩
     ·exact⟨j,h1,x,h3,h4⟩
     ·cases z
  rintro σ' H' ⟨o3,xs,rfl,sm,e0,nx⟩;walk_at"g";exact q d0 H' sm (.inl hd0) ⟨xs,e0,nx⟩
 | side is=>
  obtain⟨b,ha,hb⟩:=hF;have i8:is.length<=8:=x8;have xin:∀x∈is,x∈nm:=xin;exists⟨fun σ' H'=>σ'=[some (.ref fa),some (.ref d),some (.ref d0),none]/\H1=H',?_,?_⟩
  rotate_left
  ·exists ixTm (SqT.of (s1 _ _ ha)) rfl ?_;exists iteE0 ?_;walk_at"g";exact⟨rfl,rfl⟩
  rintro σ' H' ⟨rfl,rfl⟩;exists⟨fun σ' H'=>σ'=[some (.ref fa),some (.ref d),some (.ref d0),none]/\H1=H',?_,?_⟩
  rotate_left
  ·exists ixTm (SqT.of (s1 _ _ ha)) rfl ?_;exists iteE0 ?_;walk_at"g";exact⟨rfl,rfl⟩
  rintro σ' H' ⟨rfl,rfl⟩;exists⟨fun σ' H'=>∃(o3:Option V) (xs:List Str),σ'=[some (.ref fa),some (.ref d),some (.ref d0),o3]/\Same H H'/\H' d0=some (.dK (tK xs))/\NmOf ls ks xs,?_,?_⟩
  rotate_left
  ·exists ixTm (SqT.of (s1 _ _ ha)) rfl ?_;exists iteE0 ?_;exists ixTm (SqT.of (s1 _ _ ha)) rfl ?_;exists iteE1 ?_;exists ixTm (SqT.of (s1 _ _ ha)) rfl ?_;refine⟨b,rfl,⟨_,SqT.of (s1 _ _ hb)⟩,?_⟩;refine x9 (xs:=is.map V.str) (fun t σ H'=>∃(o3:Option V) (xs:List Str),σ=[some (.ref fa),some (.ref d),some (.ref d0),o3]/\Same H H'/\H' d0=some (.dK (tK xs))/\xs.Nodup/\∀y,y∈xs↔∃j:Nat,(nmsOf ls)[j]?=some y/\∃x∈is.take t,(j:Int)∈Ms.getD (ixOf nm x) [])
    ⟨_,[],rfl,s1,t1,.nil,fun y=>⟨(fun h=>nomatch h),fun⟨_,_,_,h,_⟩=>nomatch h⟩⟩ ?_ ?_ ?_
   ·rintro t σ H' _ ⟨o3,xs,rfl,sm,e0,xn,xm⟩;exact SqT.of (sm _ _ hb)
   ·rintro t v σ H' hv ⟨o3,xs,rfl,sm,e0,xn,xm⟩;rw[List.getElem?_map]at hv;obtain⟨x,hx,rfl⟩:=Option.map_eq_some_iff.mp hv;obtain⟨a,zs,ain,ea,nz,dg⟩:=get x (xin x (List.mem_of_getElem? hx));have zl:=nz.len;have xl:xs.length<=ls.length:=by
     rw[<-length_map (f:=(·.1)) (as:=ls)];exact wt xn fun y hy=>by obtain⟨j,hj,_⟩:=(xm y).mp hy;exact List.mem_of_getElem? hj
    have lt:∀ys:List Str,(tK ys).length=ys.length:=fun ys=>length_map _
    exists⟨.inr (.inr (.inl ⟨rfl,.inl ⟨_,e0⟩⟩)),?_⟩;exists⟨d,_,rfl,dg H' sm,?_⟩;exists⟨d0,a,_,_,rfl,rfl,e0,sm _ _ ea,(nd0 ea).symm,by rw[lt,lt];omega,?_⟩;rw[kP];obtain⟨an,am⟩:=KQ (ys:=zs) xn;refine⟨_,_,rfl,fun c u h=>(jh (nd0 h)).trans (sm _ _ h),jg,an,fun y=>?_⟩;rw[am y,xm y,nz.2 y,take_snoc hx];constructor
    ·rintro(⟨j,h1,z,h2,h3⟩ | ⟨j,h1,h2⟩)
     ·exact⟨j,h1,z,mem_append_left _ h2,h3⟩
     ·exact⟨j,h1,x,mem_append_right _ mem_cons_self,h2⟩
    ·rintro⟨j,h1,z,h2,h3⟩;rcases mem_append.mp h2 with h2 | h2
     ·exact .inl ⟨j,h1,z,h2,h3⟩
     ·rw[mem_singleton.mp h2]at h3;exact .inr ⟨j,h1,h3⟩
   ·rintro σ H' ⟨o3,xs,rfl,sm,e0,xn,xm⟩;rw[length_map,take_length]at xm;refine⟨_,xs,rfl,sm,e0,xn,fun y=>(xm y).trans ⟨?_,?_⟩⟩
    ·rintro⟨j,h1,x,h2,h3⟩;exact⟨j,h1,(hk j).mpr (.inl ⟨x,h2,h3⟩)⟩
    ·rintro⟨j,h1,h2⟩;rcases(hk j).mp h2 with⟨x,h3,h4⟩ | ⟨_,_,_,z,_⟩
     ·exact⟨j,h1,x,h3,h4⟩
     ·cases z
  rintro σ' H' ⟨o3,xs,rfl,sm,e0,nx⟩;walk_at"g";exact q d0 H' sm (.inl hd0) ⟨xs,e0,nx⟩
 | again k x=>
  have ha:H fa=some (.tup _):=hF;obtain⟨a,zs,ain,ea,nz,dg⟩:=get x (xin x mem_cons_self);exists⟨fun σ' H'=>σ'=[some (.ref fa),some (.ref d),some (.ref d0),none]/\H1=H',?_,?_⟩
  rotate_left
  ·exists ixTm (SqT.of (s1 _ _ ha)) rfl ?_;exists iteE0 ?_;walk_at"g";exact⟨rfl,rfl⟩
  rintro σ' H' ⟨rfl,rfl⟩;exists⟨fun σ' H'=>σ'=[some (.ref fa),some (.ref d),some (.ref a),none]/\H1=H',?_,?_⟩
  rotate_left
  ·exists ixTm (SqT.of (s1 _ _ ha)) rfl ?_;exists iteE1 ?_;exists ixTm (SqT.of (s1 _ _ ha)) rfl ?_;exists⟨d,_,rfl,dg H1 s1,?_⟩;walk_at"g";exact⟨rfl,rfl⟩
  rintro σ' H' ⟨rfl,rfl⟩;exists⟨fun σ' H'=>σ'=[some (.ref fa),some (.ref d),some (.ref a),none]/\H1=H',?_,?_⟩
  rotate_left
  ·exists ixTm (SqT.of (s1 _ _ ha)) rfl ?_;exists iteE0 ?_;exists ixTm (SqT.of (s1 _ _ ha)) rfl ?_;exists iteE0 ?_;walk_at"g";exact⟨rfl,rfl⟩
  rintro σ' H' ⟨rfl,rfl⟩;exists q a H1 s1 (.inr ain) ⟨zs,s1 _ _ ea,nz.ext fun k'=>(hk k').trans ⟨?_,fun h=>.inl ⟨x,mem_cons_self,h⟩⟩⟩;rintro(⟨x',z,h⟩ | ⟨_,_,_,z,_⟩)
  ·rw[mem_singleton.mp z]at h;exact h
  ·cases z
theorem WB(T:Txt K mg t)(ZM:FnOk P w K mg base CX0 1 t.zb t.zn ["_law_form","_law_long_here"] (sp_longX))(Zw:FnOk P w K mg base CX0 1 t.QG t.QL ["_law_form","_law_moves_here"] (sp_movesX)):FnOk P w K mg base CX0 2 t.zC t.zE ["_law_limbs","_law_parts_here"] (sp_dueX):=by
 refine T.Y6.ok qr (fun vs H Q E h=>?_) (fun cdv A outer s H vs Q E hr h=>?_)
 ·cases h;subst_vars;rfl
 obtain⟨pl,pp,las,pas,ls,ps,M,rfl,epl,al,epp,ap,WL,Ml,oM,q⟩:=h;refine⟨_,(jd (jp (i:=2) qr.nd rfl (.inr rfl) Zn)
  (jd (jp (i:=3) qr.nd rfl (.inr rfl) Zn)
  (jd (qh PassesOwn.never rfl (qK (by rfl) T.Q2 (ja (ju jX (by rfl) T.QI qu (ja (pv 1) jc)) jc)) (jt (i:=4) qr.nd rfl (.inl rfl))
   (jd (j0F (ji jo (pv 1) (pv 4)) (zK rfl (jK (jt (i:=5) qr.nd rfl (.inl rfl)) (jK (jt (i:=6) qr.nd rfl (.inl rfl)) QO))))
   (jd (Qx (jm Jh (ji jv (pv 6) jb) jn (nomark _))
    (jd (jV (jm (j0B hr.units) (j3 (ow:=["_law_one"]) (ci:=[2]) rfl (CompScope.of (defScope QZ) ["_law_limbs","_law_parts_here","_law_moves_here","_law_long_here","_law_k","_law_name","_law_form","_law_limb","_law_high"] rfl rfl (by decide +kernel)) (jZ (by decide)) (Yu (ji jv (pv 6) jb)) (fun _ _ _ _ _=>⟨(jt (i:=0) (Jb ["_law_limbs","_law_parts_here","_law_moves_here","_law_long_here","_law_k","_law_name","_law_form","_law_limb","_law_high"] rfl (by decide +kernel)) rfl (.inl rfl)),(yz (jm (j1z hr.units) (jE (jU hr) (pv 1) (pv 0)) Zn (nomark _))),(pv 0)⟩)) (j4 jc) (nomark _))
     (je (jB (jM (ja jn (ja (pv 4) (ja jn jc))))))
     jw)
    (je (qh PassesOwn.never rfl (jQ (pv 0)) (zK rfl (jK (jt (i:=7) qr.nd rfl (.inr rfl)) (jK (jt (i:=8) qr.nd rfl (.inl rfl)) QO)))
     (je (jV (jm Zm (ju jX (by rfl) T.QI qu (ja (j3 (ow:=["_law_one"]) (ci:=[7,2]) rfl (CompScope.of (defScope QZ) ["_law_limbs","_law_parts_here","_law_moves_here","_law_long_here","_law_k","_law_name","_law_form","_law_limb","_law_high"] rfl rfl (by decide +kernel)) (jZ (by decide)) (Yu (ji jv (pv 6) jb)) (fun _ _ _ _ _=>⟨(jt (i:=0) (Jb ["_law_limbs","_law_parts_here","_law_moves_here","_law_long_here","_law_k","_law_name","_law_form","_law_limb","_law_high"] rfl (by decide +kernel)) rfl (.inl rfl)),(yz (j2z (j2s (jU hr) (pv 1) (jE (jU hr) (pv 2) (pv 0))))),(pv 0)⟩)) jc)) jb (nomark _))
      (je (jB (jM (ja jn (ja (pv 4) (ja (pv 7) jc))))))
      jw)))))
    jw)
   (jd (yY (jU hr) (pv 2) (pv 5) (jr (Zw.mono (by decide)) hr (by rfl) T.wm T.yH.kp T.KM .nil pass0 (ja (pv 6) (ja (pv 2) jc))) rfl)
   (jd (yY (jU hr) (pv 3) (pv 5) (jr (ZM.mono (by decide)) hr (by rfl) T.Wn T.YF.kp T.wQ .nil pass0 (ja (pv 6) (ja (pv 3) jc))) rfl)
   (je (jV (jm Zm (jE (jU hr) (pv 3) (pv 5)) (jk qv jb jb) (nomark _))
    (je (jB (jM (ja jn (ja (pv 4) (ja jn jc))))))
    jw)))))))
  (je (jB (jM (ja jn (ja (j3 (ow:=["_law_name","_law_form"]) (ci:=[3]) rfl (CompScope.of (defScope QZ) ["_law_limbs","_law_parts_here","_law_moves_here","_law_long_here","_law_k","_law_name","_law_form","_law_limb","_law_high"] rfl rfl (by decide +kernel)) (Xa (by decide) (by decide)) (jQ (pv 1)) (fun _ _ _ _ _=>⟨(zK rfl (jK (jt (i:=0) (Jb ["_law_limbs","_law_parts_here","_law_moves_here","_law_long_here","_law_k","_law_name","_law_form","_law_limb","_law_high"] rfl (by decide +kernel)) rfl (.inl rfl)) (jK (jt (i:=1) (Jb ["_law_limbs","_law_parts_here","_law_moves_here","_law_long_here","_law_k","_law_name","_law_form","_law_limb","_law_high"] rfl (by decide +kernel)) rfl (.inl rfl)) QO))),qN,(jE (jU hr) (pv 2) (pv 0))⟩)) (ja jn jc))))))))),?_⟩
 refine jz (σ':=[some _,some _,none,none,none,none,none,none,none]) rfl ?_;have sz:(200:Nat)<sizeLine:=by decide
 have W:=WL.w;have p61:=W.p61;have l8:=W.l8;have apl:=ap.1;have alen:=al.1;have nml:(nmsOf ps).length=ps.length:=length_map _;walk_at"g";walk_at"f dm hdm H1 s1 t1";walk_at"g";walk_at"f dl hdl H2 s2 t2";have s02:=s1.trans s2;have ndm:∀{c u},H c=some u->c≠dm:=fun h=>jf h hdm
 have ndl:∀{c u},H c=some u->c≠dl:=fun h=>jf (s1 _ _ h) hdl
 have nml2:dm≠dl:=jf t1 hdl;exists⟨_,_,rfl,.inl ⟨_,SqL.of (s02 _ _ epp),rfl⟩,?_⟩;rw[length_map,apl];exists⟨_,rfl,by omega,by omega,?_⟩;refine Qf (fun i σ H'=>∃(gs:List Int) (ds:List Addr) (o4 o5 o6 o7 o8:Option V),σ=[some (.ref pl),some (.ref pp),some (.ref dm),some (.ref dl),o4,o5,o6,o7,o8]/\Same H H'/\H' dm=some (.dK (zpK ((nmsOf ps).take i) (ds.map V.ref)))/\H' dl=some (.dK (zpK ((nmsOf ps).take i) (gs.map V.int)))/\DsAt H' ls ds (M.take i)/\(∀a∈ds,a≠dm/\a≠dl)/\PreL ps M gs i)
  ⟨[],[],_,_,_,_,_,rfl,s02,s2 _ _ t1,t2,.nil,(fun a h=>nomatch h),⟨rfl,Nat.zero_le _,fun i p h=>absurd h (Nat.not_lt_zero _)⟩⟩ ?_ ?_
 ·rintro i σ H3 hi ⟨gs,ds,o4,o5,o6,o7,o8,rfl,s3,em,el,dA,dn,P⟩;have hi:i<ps.length:=by omega
  obtain⟨p,hp⟩:∃p,ps[i]?=some p:=⟨_,List.getElem?_eq_getElem hi⟩
  obtain⟨c,hc,fb,hat,hf⟩:=ap.get hp;have gl:=P.gl;have dsl:=dA.1;rw[length_take]at dsl;have hin:∀x∈p.2.ns,∃j,j<i/\(nmsOf ps)[j]?=some x:=(W.f i p hp).1;have n8:p.2.ns.length<=8:=(W.f i p hp).2;have hn:(nmsOf ps)[i]?=some p.1:=by unfold nmsOf;rw[List.getElem?_map,hp];rfl
  have ixe:∀x∈p.2.ns,ixOf ((nmsOf ps).take i) x=ixOf (nmsOf ps) x/\ixOf (nmsOf ps) x<i:=fun x hx=>by
   obtain⟨j,hj,e⟩:=hin x hx;rw[XM W.pn hj e,qb W.pn e];exact⟨rfl,hj⟩
  have tkn:((nmsOf ps).take i).Nodup:=W.pn.sublist (take_sublist _ _);have tkl:((nmsOf ps).take i).length=i:=by rw[length_take];omega
  have mem:∀x∈p.2.ns,x∈(nmsOf ps).take i:=fun x hx=>by
   obtain⟨j,hj,e⟩:=hin x hx;exact List.mem_of_getElem? (i:=j) (by rw[List.getElem?_take_of_lt hj];exact e)
  have mtk:∀j,j<i->(M.take i).getD j []=M.getD j []:=fun j hj=>by rw[getD_eq_getElem?_getD,getD_eq_getElem?_getD,List.getElem?_take_of_lt hj]
  have get:∀x∈p.2.ns,∃a xs,H3 a=some (.dK (tK xs))/\NmOf ls (M.getD (ixOf (nmsOf ps) x) []) xs/\∀H',Same H3 H'->DGet H' dm (.str x) (some (.ref a)):=fun x hx=>by
   obtain⟨j,hj,e⟩:=hin x hx;obtain⟨a,ha,xs,e1,e2⟩:=dA.get (i:=j) (x:=M.getD j []) (by rw[List.getElem?_take_of_lt hj,getD_eq_getElem?_getD,List.getElem?_eq_getElem (by omega)];rfl);refine⟨a,xs,e1,by rw[qb W.pn e];exact e2,fun H' s'=>?_⟩;have g:=DGet.k (k:=Sum.inr x) (s' _ _ em);rw[Yg tkn (by rw[length_map];omega) (j:=j) (v:=.ref a) (by rw[List.getElem?_take_of_lt hj];exact e) (by rw[List.getElem?_map,ha];rfl)]at g;exact g
  have bnd:=j1r W Ml oM;exists ixLm (SqL.of (s3 _ _ epp)) (qa (i:=0+(i:Int)) (by omega) (by rw[show(0+(i:Int)).toNat=i by omega];exact hc)) ?_;refine zL (SqT.of (s3 _ _ hat)) ?_;exists⟨fun σ' H'=>∃o7 o8:Option V,σ'=[some (.ref pl),some (.ref pp),some (.ref dm),some (.ref dl),some (.int (0+(i:Int))),some (.str p.1),some (.ref fb),o7,o8]/\Same H3 H'/\SideOk ps M p.2,?_,?_⟩
  rotate_left
  ·by_cases hs0:∃qs,p.2 = .side qs
   ·obtain⟨qs,e⟩:=hs0;rw[e]at hf get n8;have get:∀x∈qs,∃a xs,H3 a=some (.dK (tK xs))/\NmOf ls (M.getD (ixOf (nmsOf ps) x) []) xs/\∀H',Same H3 H'->DGet H' dm (.str x) (some (.ref a)):=get;have q8:qs.length<=8:=n8;have qw:∀x∈qs,Ws.isW x=true:=fun x hx=>by
     obtain⟨j,_,ej⟩:=hin x (by rw[e];exact hx);unfold nmsOf at ej;rw[List.getElem?_map]at ej;obtain⟨p',hp',rfl⟩:=Option.map_eq_some_iff.mp ej;exact WL.n p' (List.mem_of_getElem? hp')
    have inq:inP ps p.2=qs.map (ixOf (nmsOf ps)):=by rw[e];rfl
    obtain⟨nb,hf5,hnb⟩:=hf;exists ixTm (SqT.of (s3 _ _ hf5)) rfl ?_;exists iteE1 ?_;exists ixTm (SqT.of (s3 _ _ hf5)) rfl ?_;refine⟨nb,rfl,⟨_,SqT.of (s3 _ _ hnb)⟩,?_⟩;refine ZQ (xs:=qs.map V.str) (fun t ys H'=>ys=((qs.take t).filter fun y=>decide (M.getD (ixOf (nmsOf ps) y) []=[])).map V.str/\Same H3 H') ⟨rfl,Same.refl _⟩ ?_ ?_ ?_
    ·rintro t ys H' _ ⟨rfl,s'⟩;exact SqT.of (s' _ _ (s3 _ _ hnb))
    ·rintro t v ys H' hv ⟨rfl,s'⟩;rw[List.getElem?_map]at hv;obtain⟨x,hx,rfl⟩:=Option.map_eq_some_iff.mp hv;have ht:=(List.getElem?_eq_some_iff.mp hx).1;obtain⟨a,xs,ea,nx,dg⟩:=get x (List.mem_of_getElem? hx);have lle:((qs.take t).filter fun y=>decide (M.getD (ixOf (nmsOf ps) y) []=[])).length<=8:=Nat.le_trans (length_filter_le _ _) (Nat.le_trans (List.length_take_le' _ _) q8);refine Ji (σ':=[none,some (.ref dm)]) rfl ?_;exists⟨dm,_,rfl,dg H' s',?_⟩;walk_at"g";walk_at"f 7 t";have s37:=s'.trans s7;refine⟨a,_,p7,rfl,rfl,s37 _ _ ea,t7,?_⟩;rw[nx.nil (bnd _)];exists iteD (fun d=>?_) (fun d=>?_)
     ·exists⟨by rw[length_map];omega,?_,s37⟩;rw[take_snoc hx,filter_append,filter_cons,if_pos (decide_eq_true d),map_append];rfl
     ·refine⟨?_,s37⟩;rw[take_snoc hx,filter_append,filter_cons,if_neg (by simpa using d),map_append];exact(append_nil _).symm
    rintro ys H4 ⟨rfl,s4⟩;rw[show(qs.map V.str).length=qs.length from length_map _,take_length];have lle:(qs.filter fun y=>decide (M.getD (ixOf (nmsOf ps) y) []=[])).length<=8:=Nat.le_trans (length_filter_le _ _) q8;refine⟨by rw[length_map];omega,?_⟩;walk_at"f 5 t";exists⟨Nat.zero_le _,?_⟩;walk_at"f 6 t";have s36:=s4.trans (s5.trans s6);refine⟨_,_,DV.lst (s6 _ _ t5) (YZ _),j1c t6,(Shp.lst (n:=0) (kN fun x hx=>qw x ((mem_filter.mp hx).1))).ok (by decide),shp0,?_⟩;rw[XH];exists iteD (fun d=>?_) (fun d=>?_)
    ·exists⟨(by show 3<=sizeLine;omega),?_⟩;walk_at"f 9 t";refine q p9 H9 _ _ _ (s3.trans (s36.trans s9)) t9 (.inl ⟨gs,i,P,hi,by rw[Int.zero_add],.inl ⟨rfl,p,qs,hp,e,?_⟩⟩);obtain⟨x,hx⟩:=List.exists_mem_of_ne_nil _ d;obtain⟨h1,h2⟩:=mem_filter.mp hx;exact⟨_,by rw[inq];exact mem_map.mpr ⟨x,h1,rfl⟩,of_decide_eq_true h2⟩
    ·have ne:∀j∈inP ps p.2,M.getD j []≠[]:=fun j hj z=>by
      rw[inq]at hj;obtain⟨x,hx,rfl⟩:=mem_map.mp hj;exact absurd (mem_filter.mpr ⟨hx,decide_eq_true z⟩) (by rw[Classical.not_not.mp d];simp)
     exists⟨pl,rfl,⟨_,SqL.of (s36 _ _ (s3 _ _ epl))⟩,?_⟩;refine Zi (xs:=las.map V.ref) (fun n σ H'=>∃o7 o8:Option V,σ=[some (.ref pl),some (.ref pp),some (.ref dm),some (.ref dl),some (.int (0+(i:Int))),some (.str p.1),some (.ref fb),o7,o8]/\Same H3 H'/\∀n':Nat,n'<n->cntL ps M p.2 n'<=1) ⟨_,_,rfl,s36,fun n' h=>absurd h (Nat.not_lt_zero _)⟩ ?_ ?_ ?_
     ·rintro n σ H' _ ⟨o7,o8,rfl,s',_⟩;exact SqL.of (s' _ _ (s3 _ _ epl))
     ·rintro n v σ H' hv ⟨o7,o8,rfl,s',cn⟩;obtain⟨ac,lv,rfl,hlv,hlt⟩:=al.at_ref hv;obtain⟨lx,lh⟩:=lv;have hlx:(nmsOf ls)[n]?=some lx:=by unfold nmsOf;rw[List.getElem?_map,hlv];rfl
      refine zL (SqT.of (s' _ _ (s3 _ _ hlt))) ?_;exists ixTm (SqT.of (s' _ _ (s3 _ _ hf5))) rfl ?_;refine⟨nb,rfl,⟨_,SqT.of (s' _ _ (s3 _ _ hnb))⟩,?_⟩;refine ZQ (xs:=qs.map V.str) (fun t ys H''=>ys.length=((qs.take t).filter fun y=>decide ((n:Int)∈M.getD (ixOf (nmsOf ps) y) [])).length/\H'=H'') ⟨rfl,rfl⟩ ?_ ?_ ?_
      ·rintro t ys H'' _ ⟨_,rfl⟩;exact SqT.of (s' _ _ (s3 _ _ hnb))
      ·rintro t v ys H'' hv ⟨hy,rfl⟩;rw[List.getElem?_map]at hv;obtain⟨x,hx,rfl⟩:=Option.map_eq_some_iff.mp hv;obtain⟨a,xs,ea,nx,dg⟩:=get x (List.mem_of_getElem? hx);have lle:((qs.take t).filter fun y=>decide ((n:Int)∈M.getD (ixOf (nmsOf ps) y) [])).length<=8:=Nat.le_trans (length_filter_le _ _) (Nat.le_trans (List.length_take_le' _ _) q8);refine Ji (σ':=[none,some (.str lx),some (.ref dm)]) rfl ?_;exists⟨dm,_,rfl,dg H' s',?_⟩;exists⟨a,_,rfl,DGet.k (k:=Sum.inr lx) (s' _ _ ea),?_⟩;rw[j0Q,nx.at W.ln hlx];exists iteD (fun d=>?_) (fun d=>?_)
       ·exists⟨by omega,?_,rfl⟩;rw[take_snoc hx,filter_append,filter_cons,if_pos (decide_eq_true d),List.length_append,List.length_append,hy];rfl
       ·refine⟨?_,rfl⟩;rw[take_snoc hx,filter_append,filter_cons,if_neg (by simpa using d),List.length_append,hy];rfl
      rintro ys H'' ⟨hy,rfl⟩;rw[length_map,take_length,<-wW (ps:=ps),<-e]at hy;have lle:cntL ps M p.2 n<=8:=by rw[e,wW];exact Nat.le_trans (length_filter_le _ _) q8
      refine⟨by omega,?_⟩;walk_at"f 8 t";exists⟨_,_,rfl,.inl ⟨_,SqL.of t8,rfl⟩,?_⟩;exists iteD (fun d2=>?_) (fun d2=>?_)
      ·exists⟨(by show 3<=sizeLine;omega),?_⟩;walk_at"f 9 t";exact q p9 H9 _ _ _ (s3.trans (s'.trans (s8.trans s9))) t9 (.inl ⟨gs,i,P,hi,by rw[Int.zero_add],.inr (.inl ⟨rfl,p,qs,n,lh,hp,e,ne,hlv,by omega,cn⟩)⟩)
      ·exists⟨_,_,rfl,s'.trans s8,fun n' h=>?_⟩;by_cases z:n'=n
       ·rw[z];omega
       ·exact cn n' (by omega)
     ·rintro σ H' ⟨o7,o8,rfl,s',cn⟩;rw[length_map,alen]at cn;refine⟨_,_,rfl,s',fun qs' _=>⟨ne,fun k=>?_⟩⟩;by_cases hk:0<=k/\k<(ls.length:Int)
      ·have:=cn k.toNat (by omega);rw[Int.toNat_of_nonneg hk.1]at this;exact this
      ·unfold cntL;rw[List.filter_eq_nil_iff.mpr fun ks hks=>?_]
       ·exact Nat.zero_le _
       ·obtain⟨j,_,rfl⟩:=mem_map.mp hks;intro z;exact hk (bnd j k (of_decide_eq_true z))
   ·have kd:∃k xs,H fb=some (.tup (.str k::xs))/\decide (k=("side" : Str))=false:=by
     generalize p.2=f at hf hs0;cases f with
     | side qs=>exact absurd ⟨qs,rfl⟩ hs0
     | hold n=>exact⟨_,_,hf,by decide +kernel⟩
     | ring x n=>exact⟨_,_,hf,by decide +kernel⟩
     | rise x v n=>exact⟨_,_,hf,by decide +kernel⟩
     | row qs=>obtain⟨_,h1,_⟩:=hf;exact⟨_,_,h1,by decide +kernel⟩
     | again k x=>exact⟨_,_,hf,by decide +kernel⟩
    obtain⟨k,xs,hk,dk⟩:=kd;exists ixTm (SqT.of (s3 _ _ hk)) (at0) ?_;exists iteB0 dk ?_;walk_at"g";exact⟨_,_,rfl,Same.refl _,fun qs z=>absurd ⟨qs,z⟩ hs0⟩
  rintro σ' H4 ⟨o7',o8',rfl,s4,so⟩;have s04:=s3.trans s4;have hf4:FormAt H4 fb p.2:=FormAt.same s04 hf;have eM:M[i]?=some (M.getD i []):=by rw[getD_eq_getElem?_getD,List.getElem?_eq_getElem (by omega)];rfl
  obtain⟨_,mk⟩:=oM i p _ hp eM;exists⟨fb,dm,p.2,(nmsOf ps).take i,ds,ls,M.take i,M.getD i [],rfl,hf4,s4 _ _ em,tkn,by omega,dA.same fun b u h _=>s4 _ _ h,W.ln,l8,mem,n8,fun x v n z=>?_,fun k=>(mk k).trans ⟨?_,?_⟩,fun a H5 s5 an ax=>?_⟩
  ·obtain⟨j,hj⟩:=W.r i p.1 x v n (by rw[hp,<-z]);exact List.mem_of_getElem? hj
  ·rintro(⟨j,hj,h⟩ | h)
   ·obtain⟨x,hx,rfl⟩:=mem_map.mp hj;refine .inl ⟨x,hx,?_⟩;rw[(ixe x hx).1,mtk _ (ixe x hx).2];exact h
   ·exact .inr h
  ·rintro(⟨x,hx,h⟩ | h)
   ·rw[(ixe x hx).1,mtk _ (ixe x hx).2]at h;exact .inl ⟨_,mem_map.mpr ⟨x,hx,rfl⟩,h⟩
   ·exact .inr h
  have s35:=s4.trans s5;have s05:=s3.trans s35;have em5:=s35 _ _ em;have el5:=s35 _ _ el;have xn:p.1∉(nmsOf ps).take i:=fun z=>by
   obtain⟨j,hj⟩:=List.getElem?_of_mem z;have jl:=(List.getElem?_eq_some_iff.mp hj).1;rw[List.getElem?_take_of_lt (by omega)]at hj;have e1:=qb W.pn hj;have e2:=qb W.pn hn;omega
  have anm:a≠dm/\a≠dl:=by
   rcases an with an | an
   ·exact⟨(fun z=>by rw[z,s4 _ _ em]at an;cases an),(fun z=>by rw[z,s4 _ _ el]at an;cases an)⟩
   ·exact dn a an
  exists⟨dm,_,rfl,DPut.k (k:=Sum.inr p.1) em5 (by rw[Xs (by rw[length_map];omega)];omega),?_⟩;rw[Xt (by rw[length_map];omega) xn];have k6:∀c u,c≠dm->H5 c=some u->upd H5 dm (.dK (zpK ((nmsOf ps).take i++[p.1]) (ds.map V.ref++[.ref a]))) c=some u:=fun c u hc h=>(jh hc).trans h
  have em6:upd H5 dm (.dK (zpK ((nmsOf ps).take i++[p.1]) (ds.map V.ref++[.ref a]))) dm=some (.dK (zpK ((nmsOf ps).take i++[p.1]) (ds.map V.ref++[.ref a]))):=jg;generalize upd H5 dm (.dK (zpK ((nmsOf ps).take i++[p.1]) (ds.map V.ref++[.ref a])))=H6 at k6 em6|-;have s06:Same H H6:=fun c u h=>k6 c u (ndm h) (s05 _ _ h)
  have el6:=k6 _ _ nml2.symm el5;have len:=P.len WL (Nat.le_refl i) hp;have lnE:p.2.ns.map (fun x=>gs.getD (ixOf ((nmsOf ps).take i) x) 0)=inL ps gs p.2:=by
   unfold inL inP;rw[map_map];exact map_congr_left fun x hx=>by rw[(ixe x hx).1];rfl
  exists⟨fb,dl,p.2,(nmsOf ps).take i,gs,rfl,FormAt.same s06 hf,el6,tkn,by omega,mem,n8,by rw[lnE];exact len.1,fun g H7 s7 hg=>?_⟩;rw[lnE]at hg;have gb:=len.2.2.2 g hg;have el7:=s7 _ _ el6;exists⟨dl,_,rfl,DPut.k (k:=Sum.inr p.1) el7 (by rw[Xs (by rw[length_map];omega)];omega),?_⟩;rw[Xt (by rw[length_map];omega) xn];have k8:∀c u,c≠dl->H7 c=some u->upd H7 dl (.dK (zpK ((nmsOf ps).take i++[p.1]) (gs.map V.int++[.int g]))) c=some u:=fun c u hc h=>(jh hc).trans h
  have el8:upd H7 dl (.dK (zpK ((nmsOf ps).take i++[p.1]) (gs.map V.int++[.int g]))) dl=some (.dK (zpK ((nmsOf ps).take i++[p.1]) (gs.map V.int++[.int g]))):=jg;generalize upd H7 dl (.dK (zpK ((nmsOf ps).take i++[p.1]) (gs.map V.int++[.int g])))=H8 at k8 el8|-;have s08:Same H H8:=fun c u h=>k8 c u (ndl h) (s7 _ _ (s06 _ _ h))
  have em8:=k8 _ _ nml2 (s7 _ _ em6);have snd:((nmsOf ps).take i++[p.1]).Nodup:=by rw[<-take_snoc hn];exact W.pn.sublist (take_sublist _ _)
  walk_at"g";have dg:=DGet.k (k:=Sum.inr p.1) el8;rw[Yg snd (by rw[List.length_append,List.length_append,length_map];show _+1=_+1;omega) (j:=i) (v:=.int g) (by rw[List.getElem?_append_right (by omega),tkl,Nat.sub_self];rfl) (by rw[List.getElem?_append_right (by rw[length_map];omega),length_map,gl,Nat.sub_self];rfl)]at dg;refine⟨dl,_,rfl,dg,?_⟩;exists iteD (fun d=>?_) (fun d=>?_)
  ·exists⟨(by show 3<=sizeLine;omega),?_⟩;walk_at"f 9 t";exact q p9 H9 _ _ _ (s08.trans s9) t9 (.inl ⟨gs,i,P,hi,by rw[Int.zero_add],.inr (.inr ⟨rfl,p,g,hp,so,hg,d⟩)⟩)
  ·exists⟨gs++[g],ds++[a],_,_,_,_,_,rfl,s08,?_,?_,?_,fun b hb=>?_,P.snoc WL hp hg (by omega) so⟩
   ·rw[take_snoc hn,map_append];exact em8
   ·rw[take_snoc hn,map_append];exact el8
   ·obtain⟨xs,ex,nx⟩:=ax;have up:∀b u,b≠dm->b≠dl->H5 b=some u->H8 b=some u:=fun b u h1 h2 h=>k8 _ _ h2 (s7 _ _ (k6 _ _ h1 h))
    rw[take_snoc eM];exact All2.snoc (dA.same fun b u h hb=>up _ _ (dn b hb).1 (dn b hb).2 (s35 _ _ h)) ⟨xs,up _ _ anm.1 anm.2 ex,nx⟩
   ·rcases mem_append.mp hb with h | h
    ·exact dn b h
    ·rw[mem_singleton.mp h];exact anm
 ·rintro σ H3 ⟨gs,ds,o4,o5,o6,o7,o8,rfl,s3,em,el,dA,dn,P⟩;rw[Int.toNat_natCast]at el P;rw[show(nmsOf ps).take ps.length=nmsOf ps by rw[<-nml,take_length]]at el;have gl:=P.gl;exists⟨pp,rfl,⟨_,SqL.of (s3 _ _ epp)⟩,?_⟩;refine jH (xs:=pas.map V.ref) (fun t ys H'=>ys=(gs.take t).map V.int/\H3=H') ⟨rfl,rfl⟩ ?_ ?_ ?_
  ·rintro t ys H' _ ⟨rfl,rfl⟩;exact SqL.of (s3 _ _ epp)
  ·rintro t v ys H' hv ⟨rfl,rfl⟩;obtain⟨c,p,rfl,hp,fb,hat,hf⟩:=ap.at_ref hv;have ht:=(List.getElem?_eq_some_iff.mp hp).1;have hg:gs[t]?=some (gs.getD t 0):=by rw[getD_eq_getElem?_getD,List.getElem?_eq_getElem (by omega)];rfl
   refine Ji (σ':=[none,none,some (.ref dl)]) rfl ?_;refine zL (SqT.of (s3 _ _ hat)) ?_;exists iteT ?_;walk_at"g";have dg:=DGet.k (k:=Sum.inr p.1) el;rw[Yg W.pn (by rw[length_map];omega) (j:=t) (v:=.int (gs.getD t 0)) (by unfold nmsOf;rw[List.getElem?_map,hp];rfl) (by rw[List.getElem?_map,hg];rfl)]at dg;refine⟨dl,_,rfl,dg,by rw[length_map,length_take];omega,?_,rfl⟩;rw[take_snoc hg,map_append];rfl
  rintro ys H' ⟨rfl,rfl⟩;rw[show(pas.map V.ref).length=gs.length by rw[length_map,apl,gl],take_length];refine⟨by rw[length_map];omega,?_⟩;walk_at"f 4 t";exists⟨(by show 3<=sizeLine;omega),?_⟩;walk_at"f 5 t";exact q p5 H5 _ _ _ (s3.trans (s4.trans s5)) t5 (.inr ⟨gs,p4,P,rfl,rfl,s5 _ _ t4⟩)
theorem wv(T:Txt K mg t):FnOk P w K mg base CX0 1 t.za t.zm ["_law_error"] (sp_kindX t.jI t.jq t.jx):=by
 refine T.YE.ok Ya (fun vs H Q E h=>?_) (fun cdv A outer s H vs Q E hr h=>?_)
 ·cases h;subst_vars;rfl
 obtain⟨a,C,dd,w,rfl,ha,hC,q⟩:=h;refine⟨_,(jd (jp (i:=1) Ya.nd rfl (.inl rfl) (j4 (ja (ju Z9 (by rfl) T.Jr Jd (ja (pv 0) (ja (Qi (v:=.ref t.jI) (by rfl) T.Xh rfl) jc))) (ja (ju Z9 (by rfl) T.Jr Jd (ja (pv 0) (ja (Qi (v:=.ref t.jq) (by rfl) T.YO rfl) jc))) (ja (ju Z9 (by rfl) T.Jr Jd (ja (pv 0) (ja (Qi (v:=.ref t.jx) (by rfl) T.kA rfl) jc))) jc)))))
  (jd (jV (PW.pt (Xn (j0H (xz (ju Z9 (by rfl) T.Jr Jd (ja (pv 0) (ja (yV (v:=.ty "ValueError") (by rfl) T.KY kY rfl) jc))))) (wE (jm j0A (qO PySem.F.plainAttrs_list PySem.F.slot_list_count PySem.F.type_list_count X0 (pv 1) (ja YQ jc)) jb (nomark _)))))
   (je (jB jn))
   jw)
  (jd (jV (xz (ju XA (by rfl) T.Jr Jd (ja (pv 0) (ja (jM (ja (Qi (v:=.ref t.zT) (by rfl) T.j0s rfl) (ja (Qi (v:=.ref t.ZO) (by rfl) T.j1p rfl) (ja (Qi (v:=.ref t.ZP) (by rfl) T.j1q rfl) (ja (Qi (v:=.ref t.zf) (by rfl) T.XU rfl) (ja (Qi (v:=.ref t.zg) (by rfl) T.XV rfl) (ja (Qi (v:=.ref t.zh) (by rfl) T.XW rfl) (ja (Qi (v:=.ref t.zi) (by rfl) T.XX rfl) (ja (Qi (v:=.ref t.zj) (by rfl) T.XY rfl) (ja (Qi (v:=.ref t.zU) (by rfl) T.j0t rfl) jc)))))))))) jc))))
   (je (jB jn))
   jw)
  (je (jB (ji jo (j4 (ja jn (ja jn (ja jn jc)))) (qO PySem.F.plainAttrs_list PySem.F.slot_list_index PySem.F.type_list_index X1 (pv 1) (ja YQ jc)))))))),?_⟩
 refine jz (σ':=[some _,none]) rfl ?_;have sz:(200:Nat)<sizeLine:=by decide
 rcases hC with⟨rfl,rfl⟩ | ⟨rfl,rfl⟩ | ⟨rfl,rfl⟩
 ·exists Qv ha T.Q9.F.i T.QS ?_;exists Qv ha T.Q9.F.i T.qi ?_;exists Qv ha T.Q9.F.i T.qA ?_;exists⟨(by show 3<=sizeLine;omega),?_⟩;walk_at"f 1 t";exists Qv (s1 _ _ ha) T.Q9.F.i T.JA ?_;exists iteF ?_;exists⟨.inl ⟨rfl,_,SqL.of t1⟩,?_⟩;exists⟨p1,_,_,rfl,rfl,SqL.of t1,rfl,rfl,?_⟩;exists iteE0 ?_;exists⟨(by show 9<=sizeLine;omega),?_⟩;walk_at"f 2 t";have s02:=s1.trans s2;exists⟨a,t.jI,p2,dd,[t.zT,t.ZO,t.ZP,t.zf,t.zg,t.zh,t.zi,t.zj,t.zU],false,rfl,s02 _ _ ha,T.Q9.F.i,t2,we fun c hc=>?_,?_⟩
  ·simp only[map_cons,map_nil,mem_cons,not_mem_nil,or_false]at hc;rcases hc with rfl | rfl | rfl | rfl | rfl | rfl | rfl | rfl | rfl
   ·exact T.Qt
   ·exact T.QR
   ·exact T.QT
   ·exact T.qS
   ·exact T.qT
   ·exact T.qU
   ·exact T.qV
   ·exact T.qW
   ·exact T.Qu
  exists iteF ?_;exists⟨(by show 3<=sizeLine;omega),?_⟩;walk_at"f 3 t";exists⟨.inl ⟨rfl,_,SqL.of (s3 _ _ (s2 _ _ t1))⟩,?_⟩;exists⟨p1,_,_,.bl true,0,rfl,rfl,SqL.of (s3 _ _ (s2 _ _ t1)),rfl,rfl,rfl,rfl,fun m z' hm hz=>?_,?_⟩
  ·exact absurd hm (Nat.not_lt_zero _)
  exists ixLm (SqL.of t3) rfl ?_;exact q H3 (s02.trans s3)
 ·exists Qv ha T.Jj.F.i T.qo ?_;exists Qv ha T.Jj.F.i T.Jk ?_;exists Qv ha T.Jj.F.i T.Jp ?_;exists⟨(by show 3<=sizeLine;omega),?_⟩;walk_at"f 1 t";exists Qv (s1 _ _ ha) T.Jj.F.i T.j6 ?_;exists iteF ?_;exists⟨.inl ⟨rfl,_,SqL.of t1⟩,?_⟩;exists⟨p1,_,_,rfl,rfl,SqL.of t1,rfl,rfl,?_⟩;exists iteE0 ?_;exists⟨(by show 9<=sizeLine;omega),?_⟩;walk_at"f 2 t";have s02:=s1.trans s2;exists⟨a,t.jq,p2,dd,[t.zT,t.ZO,t.ZP,t.zf,t.zg,t.zh,t.zi,t.zj,t.zU],false,rfl,s02 _ _ ha,T.Jj.F.i,t2,we fun c hc=>?_,?_⟩
  ·simp only[map_cons,map_nil,mem_cons,not_mem_nil,or_false]at hc;rcases hc with rfl | rfl | rfl | rfl | rfl | rfl | rfl | rfl | rfl
   ·exact T.JR
   ·exact T.qm
   ·exact T.qp
   ·exact T.JC
   ·exact T.JD
   ·exact T.JE
   ·exact T.JF
   ·exact T.JG
   ·exact T.JS
  exists iteF ?_;exists⟨(by show 3<=sizeLine;omega),?_⟩;walk_at"f 3 t";exists⟨.inl ⟨rfl,_,SqL.of (s3 _ _ (s2 _ _ t1))⟩,?_⟩;exists⟨p1,_,_,.bl true,1,rfl,rfl,SqL.of (s3 _ _ (s2 _ _ t1)),rfl,rfl,rfl,rfl,fun m z' hm hz=>?_,?_⟩
  ·have:m=0:=by omega
   subst this;cases hz;rfl
  exists ixLm (SqL.of t3) rfl ?_;exact q H3 (s02.trans s3)
 ·exists Qv ha T.J3.F.i T.qC ?_;exists Qv ha T.J3.F.i T.Jo ?_;exists Qv ha T.J3.F.i T.JB ?_;exists⟨(by show 3<=sizeLine;omega),?_⟩;walk_at"f 1 t";exists Qv (s1 _ _ ha) T.J3.F.i T.j9 ?_;exists iteF ?_;exists⟨.inl ⟨rfl,_,SqL.of t1⟩,?_⟩;exists⟨p1,_,_,rfl,rfl,SqL.of t1,rfl,rfl,?_⟩;exists iteE0 ?_;exists⟨(by show 9<=sizeLine;omega),?_⟩;walk_at"f 2 t";have s02:=s1.trans s2;exists⟨a,t.jx,p2,dd,[t.zT,t.ZO,t.ZP,t.zf,t.zg,t.zh,t.zi,t.zj,t.zU],false,rfl,s02 _ _ ha,T.J3.F.i,t2,we fun c hc=>?_,?_⟩
  ·simp only[map_cons,map_nil,mem_cons,not_mem_nil,or_false]at hc;rcases hc with rfl | rfl | rfl | rfl | rfl | rfl | rfl | rfl | rfl
   ·exact T.qj
   ·exact T.qB
   ·exact T.qD
   ·exact T.JM
   ·exact T.JN
   ·exact T.JO
   ·exact T.JP
   ·exact T.JQ
   ·exact T.qk
  exists iteF ?_;exists⟨(by show 3<=sizeLine;omega),?_⟩;walk_at"f 3 t";exists⟨.inl ⟨rfl,_,SqL.of (s3 _ _ (s2 _ _ t1))⟩,?_⟩;exists⟨p1,_,_,.bl true,2,rfl,rfl,SqL.of (s3 _ _ (s2 _ _ t1)),rfl,rfl,rfl,rfl,fun m z' hm hz=>?_,?_⟩
  ·rcases(by omega:m=0\/m=1)with rfl | rfl<;>cases hz<;>rfl
  exists ixLm (SqL.of t3) rfl ?_;exact q H3 (s02.trans s3)
theorem j2p(T:Txt K mg t)(Yh:FnOk P w K mg base CX0 5 t.QA t.QC ["book"] (sp_lengths))(ZN:FnOk P w K mg base CX0 4 t.zc t.zo ["_law_script"] (sp_roomC K))(Zx:FnOk P w K mg base CX0 3 t.QH t.QM ["_law_script","_law_room_here"] (sp_partsC K))(yt:FnOk P w K mg base CX0 2 t.zC t.zE ["_law_limbs","_law_parts_here"] (sp_dueX))(ZL:FnOk P w K mg base CX0 1 t.za t.zm ["_law_error"] (sp_kindX t.jI t.jq t.jx))(R_lengths:FnOk P w K mg base (CX1 P w) 5 t.QA t.QC ["book"] (YR t.jI t.jq t.jx)):FnOk P w K mg base CX0 6 t.xL t.wX ["_law_script"] (Pr.sp_law K):=by
 refine T.j1S.ok ZH (fun vs H Q E h=>?_) (fun cdv A outer s H vs Q E hr h=>?_)
 ·cases h;subst_vars;rfl
 obtain⟨a,ns,rfl,hS,h63,hB,q⟩:=h;refine⟨_,(jd (jp (i:=1) ZH.nd rfl (.inl rfl) (jr (ZN.mono (by decide)) hr (by rfl) T.Wo T.YG.kp T.wR .nil pass0 (ja (pv 0) jc)))
  (jd (jp (i:=2) ZH.nd rfl (.inl rfl) (jr (Zx.mono (by decide)) hr (by rfl) T.wo T.yI.kp T.KN .nil pass0 (ja (pv 0) (ja (pv 1) jc))))
  (jd (jp (i:=3) ZH.nd rfl (.inl rfl) (jr (yt.mono (by decide)) hr (by rfl) T.xf T.Y6.kp T.WM .nil pass0 (ja (jE (jU hr) (pv 1) jn) (ja (pv 2) jc))))
  (jd (jp (i:=4) ZH.nd rfl (.inl rfl) wD)
  (jd (jp (i:=5) ZH.nd rfl (.inl rfl) wD)
  (jd (j1E (i:=6) ⟨rfl,rfl,rfl,rfl⟩ ZH.nd rfl rfl (by rfl) T.zy
   (je (jp (i:=5) ZH.nd rfl (.inl rfl) (jr (Yh.mono (by decide)) hr (by rfl) T.KC T.Z4.kp T.Kl .nil pass0 (ja (jM (ja (qg QJ (by rfl) T.Yi Z8 (ja (jE (jU hr) (pv 1) jn) jc)) (ja (qg QJ (by rfl) T.Yi Z8 (ja (pv 2) jc)) jc))) jc))))
   (Qs (j2A (Xp (R_lengths.mono (by decide)) hr (by rfl) T.KC T.Z4.kp T.Kl .nil ⟨rfl,rfl,rfl,rfl⟩ (ja (jM (ja (qg QJ (by rfl) T.Yi Z8 (ja (jE (jU hr) (pv 1) jn) jc)) (ja (qg QJ (by rfl) T.Yi Z8 (ja (pv 2) jc)) jc))) jc))))
   (fun _=>(je (jp (i:=4) ZH.nd rfl (.inl rfl) (pv 6)))))
  (jd (jV (jm Jh (ji jv (pv 3) jb) jn (nomark _))
   (je (jB (wA (Y2 j0z (pv 4) wD (nomark _)) (wA (ju yK (by rfl) T.Jr Jd (ja (pv 5) (ja (yV (v:=.ty "list") (by rfl) T.Yi Z8 rfl) jc))) (j0D (Y2 (xu hr.units) (pv 5) (ji jv (pv 3) jb) (nomark _)))))))
   jw)
  (jd (jV (PW.pt (Xn (jm j0z (pv 4) wD (nomark _)) (wE (jm j0A (jr (ZL.mono (by decide)) hr (by rfl) T.Wm T.YE.kp T.wP .nil pass0 (ja (pv 4) jc)) (ji jv (pv 3) jb) (nomark _)))))
   (je (jB YQ))
   jw)
  (jd (jV (PW.pt (kJ (jm Jh (ji jv (pv 3) jb) jn (nomark _)) (yZ (PW.pt (Xn (j0H (xz (ju yK (by rfl) T.Jr Jd (ja (yW (pv 4)) (ja (yV (v:=.ty "str") (by rfl) T.j2L j24 rfl) jc))))) (wE (jm j0A (yW (pv 4)) (ji jv (pv 3) jb) (nomark _))))))))
   (je (jB YQ))
   jw)
  (je (jB (wA (ju yK (by rfl) T.Jr Jd (ja (yW (pv 4)) (ja (yV (v:=.ty "int") (by rfl) T.j0a WR rfl) jc))) (wA (j2u (ju yK (by rfl) T.Jr Jd (ja (yW (pv 4)) (ja (yV (v:=.ty "bool") (by rfl) T.j21 j18 rfl) jc)))) (j0D (Y2 Jh (yW (pv 4)) (ji jv (pv 3) jb) (nomark _)))))))))))))))),?_⟩
 refine jz (σ':=[some _,none,none,none,none,none,none]) rfl ?_;have sz:(200:Nat)<sizeLine:=by decide
 exists⟨a,ns,rfl,hS,h63,fun z m H1 s1 R G m1 m61 npl npp nmc=>?_⟩;exists⟨a,ns,z,m,rfl,s1.seq hS,h63,R,m1,m61,G,nmc,fun pp pas ps H2 s2 hpp epp ap WL=>?_⟩;have R2:=R.keeps s2;obtain⟨ls,el,al⟩:=R2.l;obtain⟨M,Ml,oM⟩:=j2m WL.w;have p61:=WL.w.p61;exists⟨_,_,rfl,Zj R2,?_⟩;exists⟨z.pl,pp,ls,pas,m.limbs,ps,M,rfl,el,al,epp,ap,WL,Ml,oM,fun da H3 tg v x s3 e3 D=>?_⟩;have R3:=R2.keeps s3;have el3:=s3 _ _ el;have al3:All2 (LimbAt H3) ls m.limbs:=al.mono fun b u h=>s3 _ _ h
 have epp3:=s3 _ _ epp;have ap3:All2 (PartAt H3) pas ps:=ap.mono fun b u h=>PartAt.same s3 h
 walk_at"g";rcases D with⟨gs,k,P,kl,rfl,kd⟩ | ⟨gs,l,P,rfl,rfl,hl⟩
 ·have nt:decide (tg=("told" : Str))=false:=by rcases kd with⟨rfl,_⟩ | ⟨rfl,_⟩ | ⟨rfl,_⟩<;>decide +kernel
  refine⟨fun σ' H'=>∃(ex dx C:Addr) (fs:List (Str×V)),σ'=[some (.ref a),some (.ref z.r),some (.ref pp),some (.ref da),some (.ref ex),some .non,none]/\Same H3 H'/\XkR K t.jI t.jq t.jx H' ex dx C fs tg x k,?_,?_⟩
  ·refine j1H ?_;refine j0L (kK ?_);exists⟨_,_,rfl,Zj R3,?_⟩;exists⟨z.pl,_,rfl,.inl (SqL.of el3),?_⟩;walk_at"f 4 t";exists⟨pp,_,rfl,.inl (SqL.of (s4 _ _ epp3)),?_⟩;walk_at"f 5 t";exists⟨(by show 2<=sizeLine;omega),?_⟩;walk_at"f 6 t";have s36:=s4.trans (s5.trans s6);have B:BookAt H6 p6 p4 p5 ls pas m.limbs ps:=⟨t6,s6 _ _ (s5 _ _ t4),al3.mono fun b x h=>s36 _ _ h,s6 _ _ t5,ap3.mono fun b x h=>PartAt.same s36 h⟩
   walk_at"g";have fin:∀(C dx ex:Addr) (H':Hp),Same H6 H'->H' ex=none->Same H3 (upd H' ex (XcF (.ref C) ex (some dx))):=fun C dx ex H' s' hex c u h=>(jh (jf (s' _ _ (s36 _ _ h)) hex)).trans (s' _ _ (s36 _ _ h))
   refine⟨p6,p4,p5,ls,pas,m.limbs,ps,M,gs,k,rfl,B,WL,Ml,oM,P,kl,?_⟩;rcases kd with⟨rfl,hb⟩ | ⟨rfl,hb⟩ | ⟨rfl,hb⟩
   ·refine .inl ⟨hb,fun dx H' s' _ hd=>⟨T.JT,fun ex hex=>?_⟩⟩;refine jz (σ':=[some _,some _,some _,some _,some _,some _,some (.ref ex)]) rfl ?_;walk_at"g";exact⟨ex,dx,_,_,rfl,fin _ _ _ _ s' hex,⟨jg,(jh (jf hd hex)).trans hd,T.Q9.F,T.QD,rfl,.inl ⟨rfl,rfl⟩,fun z=>absurd z (by decide +kernel)⟩⟩
   ·refine .inr (.inl ⟨x,hb,fun dx H' s' _ hd=>⟨T.Ja,fun ex hex=>?_⟩⟩);refine jz (σ':=[some _,some _,some _,some _,some _,some _,some (.ref ex)]) rfl ?_;walk_at"g";exact⟨ex,dx,_,_,rfl,fin _ _ _ _ s' hex,⟨jg,(jh (jf hd hex)).trans hd,T.Jj.F,T.JI,by rw[zV];exact if_neg (by decide +kernel),.inr (.inl ⟨rfl,rfl⟩),fun _=>⟨T.Jx,by rw[zV];exact if_pos rfl⟩⟩⟩
   ·refine .inr (.inr ⟨hb,fun dx H' s' _ hd=>⟨T.Jl,fun ex hex=>?_⟩⟩);refine jz (σ':=[some _,some _,some _,some _,some _,some _,some (.ref ex)]) rfl ?_;walk_at"g";exact⟨ex,dx,_,_,rfl,fin _ _ _ _ s' hex,⟨jg,(jh (jf hd hex)).trans hd,T.J3.F,T.qq,rfl,.inr (.inr ⟨rfl,rfl⟩),fun z=>absurd z (by decide +kernel)⟩⟩
  rintro σ' H4 ⟨ex,dx,C,fs,rfl,s4,X4⟩;have e4:=s4 _ _ e3;exists ixTm (SqT.of e4) rfl ?_;exists iteB0 nt ?_;exists⟨rfl,?_⟩;exists iteB0 (decide_eq_false (fun z=>by cases z)) ?_;exists⟨ex,C,some dx,tg,rfl,X4.e,X4.c,fun H5 s5=>?_⟩;have X5:=X4.same s5;walk_at"g";have e5:=s5 _ _ e4;refine ixTm (SqT.of e5) rfl ?_;exists iteB0 (by rw[decide_eq_true rfl];rfl) ?_;exists ixTm (SqT.of e5) rfl ?_;walk_at"g";by_cases c:tg = "two"
  ·refine iteB1 (decide_eq_true c) ?_;exists zW ?_;exists⟨ex,C,dx,fs,_,rfl,X5.e,X5.d,X5.F,(X5.t c).1,(X5.t c).2,?_⟩;exists⟨_,_,_,_,rfl,.str _,XJ,?_⟩;exists iteF ?_;exists zW ?_;exists⟨ex,C,dx,fs,_,rfl,X5.e,X5.d,X5.F,(X5.t c).1,(X5.t c).2,?_⟩;exists ixTm (SqT.of e5) rfl ?_;exists iteB0 (by rw[decide_eq_true rfl];rfl) ?_;exists zW ?_;exists⟨ex,C,dx,fs,_,rfl,X5.e,X5.d,X5.F,X5.n,X5.r,?_⟩;exists⟨_,_,_,_,rfl,.int _,Ky,?_⟩;exists iteT ?_;exists zW ?_;exists⟨ex,C,dx,fs,_,rfl,X5.e,X5.d,X5.F,X5.n,X5.r,?_⟩;exists⟨_,_,_,_,rfl,.int _,ku,?_⟩;exists iteT ?_;exists zW ?_;exists⟨ex,C,dx,fs,_,rfl,X5.e,X5.d,X5.F,X5.n,X5.r,?_⟩;exists ixTm (SqT.of e5) rfl ?_;walk_at"g";rw[decide_eq_true rfl];exact q _
  ·refine iteB0 (decide_eq_false c) ?_;refine iteF ?_;exists zW ?_;exists⟨ex,C,dx,fs,_,rfl,X5.e,X5.d,X5.F,X5.n,X5.r,?_⟩;exists⟨_,_,_,_,rfl,.int _,Ky,?_⟩;exists iteT ?_;exists zW ?_;exists⟨ex,C,dx,fs,_,rfl,X5.e,X5.d,X5.F,X5.n,X5.r,?_⟩;exists⟨_,_,_,_,rfl,.int _,ku,?_⟩;exists iteT ?_;exists zW ?_;exists⟨ex,C,dx,fs,_,rfl,X5.e,X5.d,X5.F,X5.n,X5.r,?_⟩;exists ixTm (SqT.of e5) rfl ?_;walk_at"g";rw[decide_eq_true rfl];exact q _
 ·refine⟨fun σ' H'=>∃(l':Addr),σ'=[some (.ref a),some (.ref z.r),some (.ref pp),some (.ref da),some .non,some (.ref l'),none]/\Same H3 H'/\H' l'=some (.lst (gs.map V.int)),?_,?_⟩
  ·refine j1G ?_;exists⟨_,_,rfl,Zj R3,?_⟩;exists⟨z.pl,_,rfl,.inl (SqL.of el3),?_⟩;walk_at"f 4 t";exists⟨pp,_,rfl,.inl (SqL.of (s4 _ _ epp3)),?_⟩;walk_at"f 5 t";exists⟨(by show 2<=sizeLine;omega),?_⟩;walk_at"f 6 t";have s36:=s4.trans (s5.trans s6);have B:BookAt H6 p6 p4 p5 ls pas m.limbs ps:=⟨t6,s6 _ _ (s5 _ _ t4),al3.mono fun b x h=>s36 _ _ h,s6 _ _ t5,ap3.mono fun b x h=>PartAt.same s36 h⟩
   exists⟨p6,p4,p5,ls,pas,m.limbs,ps,gs,M,rfl,B,P.snd WL (fun M' l' h'=>Wu WL.w Ml oM l' h'),fun l7 H7 s7 _ e7=>?_⟩;walk_at"g";exact⟨l7,rfl,s36.trans s7,e7⟩
  rintro σ' H4 ⟨l',rfl,s4,hl'⟩;have e4:=s4 _ _ e3;have gl:=P.gl;exists ixTm (SqT.of e4) rfl ?_;exists iteE1 ?_;exists⟨rfl,?_⟩;exists iteB1 (decide_eq_true rfl) ?_;exists⟨_,_,_,_,rfl,.lst hl',Wh,?_⟩;exists iteT ?_;exists ixTm (SqT.of e4) rfl ?_;exists⟨_,_,DV.lst hl' (ko gs),DV.lst (s4 _ _ hl) (ko gs),shp gs,shp gs,?_⟩;rw[Kv];exact q _
theorem j16(T:Txt K mg t):FnOk P w K mg base CX0 6 t.xL t.wX ["_law_script"] (Pr.sp_law K):=by
 have Jz:FnOk P w K mg base CX0 1 t.jR t.Jc _ _:=yk T;have q0:FnOk P w K mg base CX0 1 t.Qb t.Qe _ _:=Kh T;have yu:FnOk P w K mg base CX0 1 t.zD t.zF _ _:=WC T;have zv:FnOk P w K mg base CX0 2 t.Zy t.Zz _ _:=j0x T q0 yu;have WO:FnOk P w K mg base CX0 3 t.Y8 t.kj _ _:=j1y T q0 zv;have Z5:FnOk P w K mg base CX0 4 t.Z6 t.yb _ _:=j0y T WO;have qx:FnOk P w K mg base CX0 1 t.Jm t.JH _ _:=Yt T;have Jn:FnOk P w K mg base CX0 1 t.jL t.j7 _ _:=ZV T;have qt:FnOk P w K mg base CX0 3 t.Jq t.Js _ _:=Kg T qx Jn;have R_check_side:FnOk P w K mg base (CX1 P w) 3 t.Jq t.Js _ _:=kC T qx Jn;have qQ:FnOk P w K mg base CX0 1 t.Qz t.QB _ _:=wy T;have Yh:FnOk P w K mg base CX0 5 t.QA t.QC _ _:=xq T Jz zv Z5 qt qQ;have R_lengths:FnOk P w K mg base (CX1 P w) 5 t.QA t.QC _ _:=Wz T Jz zv Z5 qt qQ R_check_side;have jO:FnOk P w K mg base CX0 1 t.qd t.qe _ _:=YV T;have jF:FnOk P w K mg base CX0 1 t.Jt t.Ju _ _:=kH T;have jP:FnOk P w K mg base CX0 1 t.JY t.J0 _ _:=kG T;have qY:FnOk P w K mg base CX0 2 t.q5 t.Qc _ _:=Kc T jP;have jW:FnOk P w K mg base CX0 1 t.JX t.JZ _ _:=kE T;have JV:FnOk P w K mg base CX0 1 t.QV t.QW _ _:=WA T;have JW:FnOk P w K mg base CX0 2 t.qG t.qH _ _:=kF T jF jW JV;have qZ:FnOk P w K mg base CX0 1 t.Qa t.Qd _ _:=Ke T;have Zv:FnOk P w K mg base CX0 2 t.QF t.QK _ _:=Ka T qZ;have zZ:FnOk P w K mg base CX0 3 t.Qp t.Qq _ _:=kD T jF jW JV JW qZ Zv;have ZN:FnOk P w K mg base CX0 4 t.zc t.zo _ _:=wx T jO jF jP qY jW JW zZ;have QE:FnOk P w K mg base CX0 1 t.JJ t.JK _ _:=yx T;have Zx:FnOk P w K mg base CX0 3 t.QH t.QM _ _:=Kd T jO jF jP qY QE;have ZM:FnOk P w K mg base CX0 1 t.zb t.zn _ _:=ww T;have Zw:FnOk P w K mg base CX0 1 t.QG t.QL _ _:=Kb T;have yt:FnOk P w K mg base CX0 2 t.zC t.zE _ _:=WB T ZM Zw;have ZL:FnOk P w K mg base CX0 1 t.za t.zm _ _:=wv T;exact j2p T Yh ZN Zx yt ZL R_lengths
end
@[elab_as_elim] theorem uu1{P:List Value->Prop}(us:List Value)(hl:us.length=1)(h:∀a0,P [a0]):P us:=match us,hl with | [a0],_=>h a0
theorem bb1{K:Frg}{x q:Str}{st:Stmt}{f:Addr}{fd:FuncData}{x0:Str}(F:Fun K x q st f fd)(h:∀(kV doc pm:Value) (an:Option Addr) (cdv ct:Value) (a0:Value),bindArgs (W.fnOf x q (defArgs st) (defBody st) (defScope st) .none kV doc pm an cdv ct) ⟨[a0],[]⟩=pure ([x0].zip [a0])):Binds K fd [x0] []:=F.binds fun a b c d e g us hl=>uu1 us hl (h a b c d e g)
@[elab_as_elim] theorem uu2{P:List Value->Prop}(us:List Value)(hl:us.length=2)(h:∀a0 a1,P [a0,a1]):P us:=match us,hl with | [a0,a1],_=>h a0 a1
theorem bb2{K:Frg}{x q:Str}{st:Stmt}{f:Addr}{fd:FuncData}{x0 x1:Str}(F:Fun K x q st f fd)(h:∀(kV doc pm:Value) (an:Option Addr) (cdv ct:Value) (a0 a1:Value),bindArgs (W.fnOf x q (defArgs st) (defBody st) (defScope st) .none kV doc pm an cdv ct) ⟨[a0,a1],[]⟩=pure ([x0,x1].zip [a0,a1])):Binds K fd [x0,x1] []:=F.binds fun a b c d e g us hl=>uu2 us hl (h a b c d e g)
@[elab_as_elim] theorem uu3{P:List Value->Prop}(us:List Value)(hl:us.length=3)(h:∀a0 a1 a2,P [a0,a1,a2]):P us:=match us,hl with | [a0,a1,a2],_=>h a0 a1 a2
theorem bb3{K:Frg}{x q:Str}{st:Stmt}{f:Addr}{fd:FuncData}{x0 x1 x2:Str}(F:Fun K x q st f fd)(h:∀(kV doc pm:Value) (an:Option Addr) (cdv ct:Value) (a0 a1 a2:Value),bindArgs (W.fnOf x q (defArgs st) (defBody st) (defScope st) .none kV doc pm an cdv ct) ⟨[a0,a1,a2],[]⟩=pure ([x0,x1,x2].zip [a0,a1,a2])):Binds K fd [x0,x1,x2] []:=F.binds fun a b c d e g us hl=>uu3 us hl (h a b c d e g)
@[elab_as_elim] theorem uu4{P:List Value->Prop}(us:List Value)(hl:us.length=4)(h:∀a0 a1 a2 a3,P [a0,a1,a2,a3]):P us:=match us,hl with | [a0,a1,a2,a3],_=>h a0 a1 a2 a3
theorem bb4{K:Frg}{x q:Str}{st:Stmt}{f:Addr}{fd:FuncData}{x0 x1 x2 x3:Str}(F:Fun K x q st f fd)(h:∀(kV doc pm:Value) (an:Option Addr) (cdv ct:Value) (a0 a1 a2 a3:Value),bindArgs (W.fnOf x q (defArgs st) (defBody st) (defScope st) .none kV doc pm an cdv ct) ⟨[a0,a1,a2,a3],[]⟩=pure ([x0,x1,x2,x3].zip [a0,a1,a2,a3])):Binds K fd [x0,x1,x2,x3] []:=F.binds fun a b c d e g us hl=>uu4 us hl (h a b c d e g)
theorem j2G{K:Frg}{h:Heap}{mg:Str->Option Value}(X:K.In h)(G:h.Ns mainGlobals mg)
  {C_TooLong:Addr}
  (aX_TooLong:W.nsIn K mainGlobals "TooLong"= some (some (.ref C_TooLong)))
  {C_TwoHands:Addr}
  (aX_TwoHands:W.nsIn K mainGlobals "TwoHands"= some (some (.ref C_TwoHands)))
  {C_Idle:Addr}
  (aX_Idle:W.nsIn K mainGlobals "Idle"= some (some (.ref C_Idle)))
  {f1:Addr} {d1:FuncData}
  (a1:W.findIn K (.ref C_Idle) "__init__"= some (some (.ref f1))) (i1:W.isFn K (.ref f1)=true) (F1:Fun K "__init__" "Idle.__init__" zt f1 d1)
  {f2:Addr} {d2:FuncData}
  (a2:W.findIn K (.ref C_TwoHands) "__init__"= some (some (.ref f2))) (i2:W.isFn K (.ref f2)=true) (F2:Fun K "__init__" "TwoHands.__init__" Qm f2 d2)
  {f3:Addr} {d3:FuncData}
  (a3:W.findIn K (.ref C_TooLong) "__init__"= some (some (.ref f3))) (i3:W.isFn K (.ref f3)=true) (F3:Fun K "__init__" "TooLong.__init__" Qy f3 d3)
  {f4:Addr} {d4:FuncData}
  (a4:W.nsIn K mainGlobals "numbers_of"= some (some (.ref f4))) (F4:Fun K "numbers_of" "numbers_of" ZG f4 d4)
  {f5:Addr} {d5:FuncData}
  (a5:W.nsIn K mainGlobals "names_in"= some (some (.ref f5))) (F5:Fun K "names_in" "names_in" yB f5 d5)
  {f6:Addr} {d6:FuncData}
  (a6:W.nsIn K mainGlobals "inner"= some (some (.ref f6))) (F6:Fun K "inner" "inner" Y4 f6 d6)
  {f7:Addr} {d7:FuncData}
  (a7:W.nsIn K mainGlobals "ends"= some (some (.ref f7))) (F7:Fun K "ends" "ends" xB f7 d7)
  {f8:Addr} {d8:FuncData}
  (a8:W.nsIn K mainGlobals "moved"= some (some (.ref f8))) (F8:Fun K "moved" "moved" Y5 f8 d8)
  {f9:Addr} {d9:FuncData}
  (a9:W.nsIn K mainGlobals "check_side"= some (some (.ref f9))) (F9:Fun K "check_side" "check_side" Qj f9 d9)
  {f10:Addr} {d10:FuncData}
  (a10:W.nsIn K mainGlobals "length_of"= some (some (.ref f10))) (F10:Fun K "length_of" "length_of" Z0 f10 d10)
  {f11:Addr} {d11:FuncData}
  (a11:W.nsIn K mainGlobals "lengths"= some (some (.ref f11))) (F11:Fun K "lengths" "lengths" qL f11 d11)
  {f12:Addr} {d12:FuncData}
  (a12:W.nsIn K mainGlobals "_law_cell_at"= some (some (.ref f12))) (F12:Fun K "_law_cell_at" "_law_cell_at" zN f12 d12)
  {f13:Addr} {d13:FuncData}
  (a13:W.nsIn K mainGlobals "_law_window"= some (some (.ref f13))) (F13:Fun K "_law_window" "_law_window" Zg f13 d13)
  {f14:Addr} {d14:FuncData}
  (a14:W.nsIn K mainGlobals "_law_stream"= some (some (.ref f14))) (F14:Fun K "_law_stream" "_law_stream" Zf f14 d14)
  {f15:Addr} {d15:FuncData}
  (a15:W.nsIn K mainGlobals "_law_names"= some (some (.ref f15))) (F15:Fun K "_law_names" "_law_names" zB f15 d15)
  {f16:Addr} {d16:FuncData}
  (a16:W.nsIn K mainGlobals "_law_number"= some (some (.ref f16))) (F16:Fun K "_law_number" "_law_number" Zd f16 d16)
  {f17:Addr} {d17:FuncData}
  (a17:W.nsIn K mainGlobals "_law_add"= some (some (.ref f17))) (F17:Fun K "_law_add" "_law_add" yA f17 d17)
  {f18:Addr} {d18:FuncData}
  (a18:W.nsIn K mainGlobals "_law_simple"= some (some (.ref f18))) (F18:Fun K "_law_simple" "_law_simple" Ze f18 d18)
  {f19:Addr} {d19:FuncData}
  (a19:W.nsIn K mainGlobals "_law_there"= some (some (.ref f19))) (F19:Fun K "_law_there" "_law_there" ZE f19 d19)
  {f20:Addr} {d20:FuncData}
  (a20:W.nsIn K mainGlobals "_law_apart"= some (some (.ref f20))) (F20:Fun K "_law_apart" "_law_apart" zA f20 d20)
  {f21:Addr} {d21:FuncData}
  (a21:W.nsIn K mainGlobals "_law_naming"= some (some (.ref f21))) (F21:Fun K "_law_naming" "_law_naming" J1 f21 d21)
  {f22:Addr} {d22:FuncData}
  (a22:W.nsIn K mainGlobals "_law_room"= some (some (.ref f22))) (F22:Fun K "_law_room" "_law_room" ZZ f22 d22)
  {f23:Addr} {d23:FuncData}
  (a23:W.nsIn K mainGlobals "_law_other_form"= some (some (.ref f23))) (F23:Fun K "_law_other_form" "_law_other_form" JL f23 d23)
  {f24:Addr} {d24:FuncData}
  (a24:W.nsIn K mainGlobals "_law_parts"= some (some (.ref f24))) (F24:Fun K "_law_parts" "_law_parts" ZD f24 d24)
  {f25:Addr} {d25:FuncData}
  (a25:W.nsIn K mainGlobals "_law_long"= some (some (.ref f25))) (F25:Fun K "_law_long" "_law_long" zq f25 d25)
  {f26:Addr} {d26:FuncData}
  (a26:W.nsIn K mainGlobals "_law_moves"= some (some (.ref f26))) (F26:Fun K "_law_moves" "_law_moves" ZC f26 d26)
  {f27:Addr} {d27:FuncData}
  (a27:W.nsIn K mainGlobals "_law_due"= some (some (.ref f27))) (F27:Fun K "_law_due" "_law_due" QZ f27 d27)
  {f28:Addr} {d28:FuncData}
  (a28:W.nsIn K mainGlobals "_law_kind"= some (some (.ref f28))) (F28:Fun K "_law_kind" "_law_kind" ZY f28 d28)
  {f29:Addr} {d29:FuncData}
  (a29:W.nsIn K mainGlobals "law"= some (some (.ref f29))) (F29:Fun K "law" "law" j0N f29 d29)
  {Qk:Addr}
  (g_MOST_NAMES:W.nsIn K mainGlobals "MOST_NAMES"= some (some (.ref Qk))) (kk_MOST_NAMES:TabK K Qk [("row",.flat (.int 8)),("side",.flat (.int 4))])
  {C_PlayError:Addr}
  {C_NoRow:Addr}
  {C_NoPins:Addr}
  {C_NoName:Addr}
  {C_NoLimb:Addr}
  {C_NoBook:Addr}
  {C_NoBeat:Addr}
  {C_Long:Addr}
  {C_Done:Addr}
  {C_Broad:Addr}
  (aX_PlayError:W.nsIn K mainGlobals "PlayError"= some (some (.ref C_PlayError)))
  (aX_NoRow:W.nsIn K mainGlobals "NoRow"= some (some (.ref C_NoRow)))
  (aX_NoPins:W.nsIn K mainGlobals "NoPins"= some (some (.ref C_NoPins)))
  (aX_NoName:W.nsIn K mainGlobals "NoName"= some (some (.ref C_NoName)))
  (aX_NoLimb:W.nsIn K mainGlobals "NoLimb"= some (some (.ref C_NoLimb)))
  (aX_NoBook:W.nsIn K mainGlobals "NoBook"= some (some (.ref C_NoBook)))
  (aX_NoBeat:W.nsIn K mainGlobals "NoBeat"= some (some (.ref C_NoBeat)))
  (aX_Long:W.nsIn K mainGlobals "Long"= some (some (.ref C_Long)))
  (aX_Done:W.nsIn K mainGlobals "Done"= some (some (.ref C_Done)))
  (aX_Broad:W.nsIn K mainGlobals "Broad"= some (some (.ref C_Broad)))
  (xg_PlayError:W.specialIn K (.ref C_PlayError) "__getattribute__"= some (some (.builtin "type.__getattribute__")))
  (xr_PlayError:W.readsIn K C_PlayError (.type "type")=true)
  (xf_PlayError:W.findCls K (.ref C_PlayError) (.type "type") "__init__"= some (.val (.builtin "ValueError.__init__")))
  (xga_Idle:W.findIn K (.ref C_Idle) "__getattribute__"= some (some (.builtin "BaseException.__getattribute__")))
  (xnh_Idle:W.findIn K (.ref C_Idle) "__getattr__"= some none)
  (xcl_Idle:W.findIn K (.ref C_Idle) "__class__"= some (some (.builtin "object.__class__")))
  (xba_Idle:W.subIn K (.ref C_Idle) (.type "BaseException")=some true)
  (xob_Idle:W.subIn K (.ref C_Idle) (.type "object")=some true)
  (xis_Idle:W.isClsIn K C_Idle=true)
  (xx_Idle:exiIn K C_Idle [.type "ValueError",.type "Exception",.type "BaseException",.type "object"] "ValueError.__new__" f1=true)
  (xsa_Idle:W.findIn K (.ref C_Idle) "__setattr__"= some (some (.builtin "object.__setattr__")))
  (xov_Idle:xovIn K C_Idle=true)
  (xve_Idle:W.subIn K (.ref C_Idle) (.type "ValueError")=some true)
  (xkp_Idle:W.keepIn K (.ref C_Idle)=true)
  (QD:W.findIn K (.ref C_Idle) "row"= some none)
  (JT:W.exmOne K (.ref C_Idle) (.ref C_PlayError)=some true)
  (qA:W.kitOne K (.ref C_Idle) (.ref C_TooLong)=some false)
  (qi:W.kitOne K (.ref C_Idle) (.ref C_TwoHands)=some false)
  (QS:W.kitOne K (.ref C_Idle) (.ref C_Idle)=some true)
  (JA:W.kitOne K (.ref C_Idle) (.type "ValueError")=some true)
  (Qu:W.kitOne K (.ref C_Idle) (.ref C_NoRow)=some false)
  (qW:W.kitOne K (.ref C_Idle) (.ref C_NoPins)=some false)
  (qV:W.kitOne K (.ref C_Idle) (.ref C_NoName)=some false)
  (qU:W.kitOne K (.ref C_Idle) (.ref C_NoLimb)=some false)
  (qT:W.kitOne K (.ref C_Idle) (.ref C_NoBook)=some false)
  (qS:W.kitOne K (.ref C_Idle) (.ref C_NoBeat)=some false)
  (QT:W.kitOne K (.ref C_Idle) (.ref C_Long)=some false)
  (QR:W.kitOne K (.ref C_Idle) (.ref C_Done)=some false)
  (Qt:W.kitOne K (.ref C_Idle) (.ref C_Broad)=some false)
  (xga_TwoHands:W.findIn K (.ref C_TwoHands) "__getattribute__"= some (some (.builtin "BaseException.__getattribute__")))
  (xnh_TwoHands:W.findIn K (.ref C_TwoHands) "__getattr__"= some none)
  (xcl_TwoHands:W.findIn K (.ref C_TwoHands) "__class__"= some (some (.builtin "object.__class__")))
  (xba_TwoHands:W.subIn K (.ref C_TwoHands) (.type "BaseException")=some true)
  (xob_TwoHands:W.subIn K (.ref C_TwoHands) (.type "object")=some true)
  (xis_TwoHands:W.isClsIn K C_TwoHands=true)
  (xx_TwoHands:exiIn K C_TwoHands [.type "ValueError",.type "Exception",.type "BaseException",.type "object"] "ValueError.__new__" f2=true)
  (xsa_TwoHands:W.findIn K (.ref C_TwoHands) "__setattr__"= some (some (.builtin "object.__setattr__")))
  (xov_TwoHands:xovIn K C_TwoHands=true)
  (xve_TwoHands:W.subIn K (.ref C_TwoHands) (.type "ValueError")=some true)
  (xkp_TwoHands:W.keepIn K (.ref C_TwoHands)=true)
  (JI:W.findIn K (.ref C_TwoHands) "row"= some none)
  (Jx:W.findIn K (.ref C_TwoHands) "limb"= some none)
  (Ja:W.exmOne K (.ref C_TwoHands) (.ref C_PlayError)=some true)
  (Jp:W.kitOne K (.ref C_TwoHands) (.ref C_TooLong)=some false)
  (Jk:W.kitOne K (.ref C_TwoHands) (.ref C_TwoHands)=some true)
  (qo:W.kitOne K (.ref C_TwoHands) (.ref C_Idle)=some false)
  (j6:W.kitOne K (.ref C_TwoHands) (.type "ValueError")=some true)
  (JS:W.kitOne K (.ref C_TwoHands) (.ref C_NoRow)=some false)
  (JG:W.kitOne K (.ref C_TwoHands) (.ref C_NoPins)=some false)
  (JF:W.kitOne K (.ref C_TwoHands) (.ref C_NoName)=some false)
  (JE:W.kitOne K (.ref C_TwoHands) (.ref C_NoLimb)=some false)
  (JD:W.kitOne K (.ref C_TwoHands) (.ref C_NoBook)=some false)
  (JC:W.kitOne K (.ref C_TwoHands) (.ref C_NoBeat)=some false)
  (qp:W.kitOne K (.ref C_TwoHands) (.ref C_Long)=some false)
  (qm:W.kitOne K (.ref C_TwoHands) (.ref C_Done)=some false)
  (JR:W.kitOne K (.ref C_TwoHands) (.ref C_Broad)=some false)
  (xga_TooLong:W.findIn K (.ref C_TooLong) "__getattribute__"= some (some (.builtin "BaseException.__getattribute__")))
  (xnh_TooLong:W.findIn K (.ref C_TooLong) "__getattr__"= some none)
  (xcl_TooLong:W.findIn K (.ref C_TooLong) "__class__"= some (some (.builtin "object.__class__")))
  (xba_TooLong:W.subIn K (.ref C_TooLong) (.type "BaseException")=some true)
  (xob_TooLong:W.subIn K (.ref C_TooLong) (.type "object")=some true)
  (xis_TooLong:W.isClsIn K C_TooLong=true)
  (xx_TooLong:exiIn K C_TooLong [.type "ValueError",.type "Exception",.type "BaseException",.type "object"] "ValueError.__new__" f3=true)
  (xsa_TooLong:W.findIn K (.ref C_TooLong) "__setattr__"= some (some (.builtin "object.__setattr__")))
  (xov_TooLong:xovIn K C_TooLong=true)
  (xve_TooLong:W.subIn K (.ref C_TooLong) (.type "ValueError")=some true)
  (xkp_TooLong:W.keepIn K (.ref C_TooLong)=true)
  (qq:W.findIn K (.ref C_TooLong) "row"= some none)
  (Jl:W.exmOne K (.ref C_TooLong) (.ref C_PlayError)=some true)
  (JB:W.kitOne K (.ref C_TooLong) (.ref C_TooLong)=some true)
  (Jo:W.kitOne K (.ref C_TooLong) (.ref C_TwoHands)=some false)
  (qC:W.kitOne K (.ref C_TooLong) (.ref C_Idle)=some false)
  (j9:W.kitOne K (.ref C_TooLong) (.type "ValueError")=some true)
  (qk:W.kitOne K (.ref C_TooLong) (.ref C_NoRow)=some false)
  (JQ:W.kitOne K (.ref C_TooLong) (.ref C_NoPins)=some false)
  (JP:W.kitOne K (.ref C_TooLong) (.ref C_NoName)=some false)
  (JO:W.kitOne K (.ref C_TooLong) (.ref C_NoLimb)=some false)
  (JN:W.kitOne K (.ref C_TooLong) (.ref C_NoBook)=some false)
  (JM:W.kitOne K (.ref C_TooLong) (.ref C_NoBeat)=some false)
  (qD:W.kitOne K (.ref C_TooLong) (.ref C_Long)=some false)
  (qB:W.kitOne K (.ref C_TooLong) (.ref C_Done)=some false)
  (qj:W.kitOne K (.ref C_TooLong) (.ref C_Broad)=some false)
  (z0:W.nsIn K mainGlobals "ValueError"= some none) (z1:W.nsIn K mainGlobals "bool"= some none) (z2:W.nsIn K mainGlobals "dict"= some none) (z3:W.nsIn K mainGlobals "enumerate"= some none) (z4:W.nsIn K mainGlobals "int"= some none) (z5:W.nsIn K mainGlobals "isinstance"= some none) (z6:W.nsIn K mainGlobals "len"= some none) (z7:W.nsIn K mainGlobals "list"= some none) (z8:W.nsIn K mainGlobals "max"= some none) (z9:W.nsIn K mainGlobals "min"= some none) (z10:W.nsIn K mainGlobals "range"= some none) (z11:W.nsIn K mainGlobals "sorted"= some none) (z12:W.nsIn K mainGlobals "str"= some none) (z13:W.nsIn K mainGlobals "sum"= some none) (z14:W.nsIn K mainGlobals "tuple"= some none) (z15:W.nsIn K mainGlobals "zip"= some none) :
  ∃t:Ad,Txt K mg t:=by
 exact⟨⟨f1,_,f2,_,f3,_,f4,_,f5,_,f6,_,f7,_,f8,_,f9,_,f10,_,f11,_,f12,_,f13,_,f14,_,f15,_,f16,_,f17,_,f18,_,f19,_,f20,_,f21,_,f22,_,f23,_,f24,_,f25,_,f26,_,f27,_,f28,_,f29,_,C_Idle,C_TwoHands,C_TooLong,C_PlayError,C_NoRow,C_NoPins,C_NoName,C_NoLimb,C_NoBook,C_NoBeat,C_Long,C_Done,C_Broad,_⟩,⟨F1,⟨a1,i1,F1.kp⟩,bb2 F1 fun _ _ _ _ _ _ _ _=>rfl,
  F2,⟨a2,i2,F2.kp⟩,bb3 F2 fun _ _ _ _ _ _ _ _ _=>rfl,
  F3,⟨a3,i3,F3.kp⟩,bb2 F3 fun _ _ _ _ _ _ _ _=>rfl,
  F4,W.mg_of X G a4,bb1 F4 fun _ _ _ _ _ _ _=>rfl,
  F5,W.mg_of X G a5,bb1 F5 fun _ _ _ _ _ _ _=>rfl,
  F6,W.mg_of X G a6,bb1 F6 fun _ _ _ _ _ _ _=>rfl,
  F7,W.mg_of X G a7,bb1 F7 fun _ _ _ _ _ _ _=>rfl,
  F8,W.mg_of X G a8,bb1 F8 fun _ _ _ _ _ _ _=>rfl,
  F9,W.mg_of X G a9,bb3 F9 fun _ _ _ _ _ _ _ _ _=>rfl,
  F10,W.mg_of X G a10,bb2 F10 fun _ _ _ _ _ _ _ _=>rfl,
  F11,W.mg_of X G a11,bb1 F11 fun _ _ _ _ _ _ _=>rfl,
  F12,W.mg_of X G a12,bb2 F12 fun _ _ _ _ _ _ _ _=>rfl,
  F13,W.mg_of X G a13,bb2 F13 fun _ _ _ _ _ _ _ _=>rfl,
  F14,W.mg_of X G a14,bb2 F14 fun _ _ _ _ _ _ _ _=>rfl,
  F15,W.mg_of X G a15,bb2 F15 fun _ _ _ _ _ _ _ _=>rfl,
  F16,W.mg_of X G a16,bb3 F16 fun _ _ _ _ _ _ _ _ _=>rfl,
  F17,W.mg_of X G a17,bb4 F17 fun _ _ _ _ _ _ _ _ _ _=>rfl,
  F18,W.mg_of X G a18,bb3 F18 fun _ _ _ _ _ _ _ _ _=>rfl,
  F19,W.mg_of X G a19,bb2 F19 fun _ _ _ _ _ _ _ _=>rfl,
  F20,W.mg_of X G a20,bb2 F20 fun _ _ _ _ _ _ _ _=>rfl,
  F21,W.mg_of X G a21,bb3 F21 fun _ _ _ _ _ _ _ _ _=>rfl,
  F22,W.mg_of X G a22,bb1 F22 fun _ _ _ _ _ _ _=>rfl,
  F23,W.mg_of X G a23,bb3 F23 fun _ _ _ _ _ _ _ _ _=>rfl,
  F24,W.mg_of X G a24,bb2 F24 fun _ _ _ _ _ _ _ _=>rfl,
  F25,W.mg_of X G a25,bb2 F25 fun _ _ _ _ _ _ _ _=>rfl,
  F26,W.mg_of X G a26,bb2 F26 fun _ _ _ _ _ _ _ _=>rfl,
  F27,W.mg_of X G a27,bb2 F27 fun _ _ _ _ _ _ _ _=>rfl,
  F28,W.mg_of X G a28,bb1 F28 fun _ _ _ _ _ _ _=>rfl,
  F29,W.mg_of X G a29,bb1 F29 fun _ _ _ _ _ _ _=>rfl,
  W.mg_of X G aX_Idle,
  W.mg_of X G aX_TwoHands,
  W.mg_of X G aX_TooLong,
  W.mg_of X G aX_PlayError,
  W.mg_of X G aX_NoRow,
  W.mg_of X G aX_NoPins,
  W.mg_of X G aX_NoName,
  W.mg_of X G aX_NoLimb,
  W.mg_of X G aX_NoBook,
  W.mg_of X G aX_NoBeat,
  W.mg_of X G aX_Long,
  W.mg_of X G aX_Done,
  W.mg_of X G aX_Broad,
  ⟨xg_PlayError,xr_PlayError,xf_PlayError,rfl⟩,
  ⟨xx_Idle,⟨⟨xga_Idle,xnh_Idle,xcl_Idle,xba_Idle,xob_Idle,xis_Idle⟩,xsa_Idle,xov_Idle⟩,xve_Idle,i1,xkp_Idle⟩,
  QD,
  JT,
  qA,
  qi,
  QS,
  JA,
  Qu,
  qW,
  qV,
  qU,
  qT,
  qS,
  QT,
  QR,
  Qt,
  ⟨xx_TwoHands,⟨⟨xga_TwoHands,xnh_TwoHands,xcl_TwoHands,xba_TwoHands,xob_TwoHands,xis_TwoHands⟩,xsa_TwoHands,xov_TwoHands⟩,xve_TwoHands,i2,xkp_TwoHands⟩,
  JI,
  Jx,
  Ja,
  Jp,
  Jk,
  qo,
  j6,
  JS,
  JG,
  JF,
  JE,
  JD,
  JC,
  qp,
  qm,
  JR,
  ⟨xx_TooLong,⟨⟨xga_TooLong,xnh_TooLong,xcl_TooLong,xba_TooLong,xob_TooLong,xis_TooLong⟩,xsa_TooLong,xov_TooLong⟩,xve_TooLong,i3,xkp_TooLong⟩,
  qq,
  Jl,
  JB,
  Jo,
  qC,
  j9,
  qk,
  JQ,
  JP,
  JO,
  JN,
  JM,
  qD,
  qB,
  qj,
  W.mg_none_of X G z0,
  W.mg_none_of X G z1,
  W.mg_none_of X G z2,
  W.mg_none_of X G z3,
  W.mg_none_of X G z4,
  W.mg_none_of X G z5,
  W.mg_none_of X G z6,
  W.mg_none_of X G z7,
  W.mg_none_of X G z8,
  W.mg_none_of X G z9,
  W.mg_none_of X G z10,
  W.mg_none_of X G z11,
  W.mg_none_of X G z12,
  W.mg_none_of X G z13,
  W.mg_none_of X G z14,
  W.mg_none_of X G z15,
  W.mg_of X G g_MOST_NAMES,kk_MOST_NAMES⟩⟩
end K14
open PySem PySem.W PyProof.Rows
set_option maxRecDepth 100000 in
set_option maxHeartbeats 0 in
theorem PySem.Challenge.cw_camplay_k14_refused_books_holds : PySem.Challenge.rw_camplay_k14_refused_books.Holds := by
 w_on;o_law;k_head;(case hw=>w_witness2)
 k_fill
 refine L2.j10 (l:=PySem.Challenge.rw_camplay_k14_refused_books) (n:=63) (k:=6) (x:="_law_script") (CX:=L2.CX0) (sp:=Pr.sp_law) rfl (by decide) rfl ⟨rfl,by decide,by decide⟩ (fun w h Y=>PySem.W.kIn_of Y) ?F (fun K H a ns hl hb hO hS=>⟨a,ns,rfl,hS,hl,hb,fun _=>rfl⟩) (fun _ _ _ _ z=>z)
 case F=>
  intro w mg fa h KX G hmg;have TT:∃t:K14.Ad,K14.Txt (L2.KOf KX) mg t:=by
   dsimp only[L2.KOf];refine' K14.j2G KX G ?aX_TooLong ?aX_TwoHands ?aX_Idle ?a1 ?i1 (L2.jY ?l1 ?c1 ?k1) ?a2 ?i2 (L2.jY ?l2 ?c2 ?k2) ?a3 ?i3 (L2.jY ?l3 ?c3 ?k3) ?a4 (L2.jY ?l4 ?c4 ?k4) ?a5 (L2.jY ?l5 ?c5 ?k5) ?a6 (L2.jY ?l6 ?c6 ?k6) ?a7 (L2.jY ?l7 ?c7 ?k7) ?a8 (L2.jY ?l8 ?c8 ?k8) ?a9 (L2.jY ?l9 ?c9 ?k9) ?a10 (L2.jY ?l10 ?c10 ?k10) ?a11 (L2.jY ?l11 ?c11 ?k11) ?a12 (L2.jY ?l12 ?c12 ?k12) ?a13 (L2.jY ?l13 ?c13 ?k13) ?a14 (L2.jY ?l14 ?c14 ?k14) ?a15 (L2.jY ?l15 ?c15 ?k15) ?a16 (L2.jY ?l16 ?c16 ?k16) ?a17 (L2.jY ?l17 ?c17 ?k17) ?a18 (L2.jY ?l18 ?c18 ?k18) ?a19 (L2.jY ?l19 ?c19 ?k19) ?a20 (L2.jY ?l20 ?c20 ?k20) ?a21 (L2.jY ?l21 ?c21 ?k21) ?a22 (L2.jY ?l22 ?c22 ?k22) ?a23 (L2.jY ?l23 ?c23 ?k23) ?a24 (L2.jY ?l24 ?c24 ?k24) ?a25 (L2.jY ?l25 ?c25 ?k25) ?a26 (L2.jY ?l26 ?c26 ?k26) ?a27 (L2.jY ?l27 ?c27 ?k27) ?a28 (L2.jY ?l28 ?c28 ?k28) ?a29 (L2.jY ?l29 ?c29 ?k29) ?g_MOST_NAMES ?kk_MOST_NAMES ?aX_PlayError ?aX_NoRow ?aX_NoPins ?aX_NoName ?aX_NoLimb ?aX_NoBook ?aX_NoBeat ?aX_Long ?aX_Done ?aX_Broad ?xg_PlayError ?xr_PlayError ?xf_PlayError ?xga_Idle ?xnh_Idle ?xcl_Idle ?xba_Idle ?xob_Idle ?xis_Idle ?xx_Idle ?xsa_Idle ?xov_Idle ?xve_Idle ?xkp_Idle ?QD ?JT ?qA ?qi ?QS ?JA ?Qu ?qW ?qV ?qU ?qT ?qS ?QT ?QR ?Qt ?xga_TwoHands ?xnh_TwoHands ?xcl_TwoHands ?xba_TwoHands ?xob_TwoHands ?xis_TwoHands ?xx_TwoHands ?xsa_TwoHands ?xov_TwoHands ?xve_TwoHands ?xkp_TwoHands ?JI ?Jx ?Ja ?Jp ?Jk ?qo ?j6 ?JS ?JG ?JF ?JE ?JD ?JC ?qp ?qm ?JR ?xga_TooLong ?xnh_TooLong ?xcl_TooLong ?xba_TooLong ?xob_TooLong ?xis_TooLong ?xx_TooLong ?xsa_TooLong ?xov_TooLong ?xve_TooLong ?xkp_TooLong ?qq ?Jl ?JB ?Jo ?qC ?j9 ?qk ?JQ ?JP ?JO ?JN ?JM ?qD ?qB ?qj ?z0 ?z1 ?z2 ?z3 ?z4 ?z5 ?z6 ?z7 ?z8 ?z9 ?z10 ?z11 ?z12 ?z13 ?z14 ?z15
   (case aX_TooLong=>k_is)
   (case aX_TwoHands=>k_is)
   (case aX_Idle=>k_is)
   (case a1=>k_is);(case i1=>k_is)
   (case l1=>k_is);(case c1=>k_is);(case k1=>k_is)
   (case a2=>k_is);(case i2=>k_is)
   (case l2=>k_is);(case c2=>k_is);(case k2=>k_is)
   (case a3=>k_is);(case i3=>k_is)
   (case l3=>k_is);(case c3=>k_is);(case k3=>k_is)
   (case a4=>k_is);(case l4=>k_is);(case c4=>k_is);(case k4=>k_is)
   (case a5=>k_is);(case l5=>k_is);(case c5=>k_is);(case k5=>k_is)
   (case a6=>k_is);(case l6=>k_is);(case c6=>k_is);(case k6=>k_is)
   (case a7=>k_is);(case l7=>k_is);(case c7=>k_is);(case k7=>k_is)
   (case a8=>k_is);(case l8=>k_is);(case c8=>k_is);(case k8=>k_is)
   (case a9=>k_is);(case l9=>k_is);(case c9=>k_is);(case k9=>k_is)
   (case a10=>k_is);(case l10=>k_is);(case c10=>k_is);(case k10=>k_is)
   (case a11=>k_is);(case l11=>k_is);(case c11=>k_is);(case k11=>k_is)
   (case a12=>k_is);(case l12=>k_is);(case c12=>k_is);(case k12=>k_is)
   (case a13=>k_is);(case l13=>k_is);(case c13=>k_is);(case k13=>k_is)
   (case a14=>k_is);(case l14=>k_is);(case c14=>k_is);(case k14=>k_is)
   (case a15=>k_is);(case l15=>k_is);(case c15=>k_is);(case k15=>k_is)
   (case a16=>k_is);(case l16=>k_is);(case c16=>k_is);(case k16=>k_is)
   (case a17=>k_is);(case l17=>k_is);(case c17=>k_is);(case k17=>k_is)
   (case a18=>k_is);(case l18=>k_is);(case c18=>k_is);(case k18=>k_is)
   (case a19=>k_is);(case l19=>k_is);(case c19=>k_is);(case k19=>k_is)
   (case a20=>k_is);(case l20=>k_is);(case c20=>k_is);(case k20=>k_is)
   (case a21=>k_is);(case l21=>k_is);(case c21=>k_is);(case k21=>k_is)
   (case a22=>k_is);(case l22=>k_is);(case c22=>k_is);(case k22=>k_is)
   (case a23=>k_is);(case l23=>k_is);(case c23=>k_is);(case k23=>k_is)
   (case a24=>k_is);(case l24=>k_is);(case c24=>k_is);(case k24=>k_is)
   (case a25=>k_is);(case l25=>k_is);(case c25=>k_is);(case k25=>k_is)
   (case a26=>k_is);(case l26=>k_is);(case c26=>k_is);(case k26=>k_is)
   (case a27=>k_is);(case l27=>k_is);(case c27=>k_is);(case k27=>k_is)
   (case a28=>k_is);(case l28=>k_is);(case c28=>k_is);(case k28=>k_is)
   (case a29=>k_is);(case l29=>k_is);(case c29=>k_is);(case k29=>k_is)
   (case g_MOST_NAMES=>k_is);(case kk_MOST_NAMES=>(show PyProof.Rows.KTD.tabLook _ _ _ _=true);kernel_rfl)
   (case aX_PlayError=>k_is)
   (case aX_NoRow=>k_is)
   (case aX_NoPins=>k_is)
   (case aX_NoName=>k_is)
   (case aX_NoLimb=>k_is)
   (case aX_NoBook=>k_is)
   (case aX_NoBeat=>k_is)
   (case aX_Long=>k_is)
   (case aX_Done=>k_is)
   (case aX_Broad=>k_is)
   (case xg_PlayError=>k_is)
   (case xr_PlayError=>k_is)
   (case xf_PlayError=>k_is)
   (case xga_Idle=>k_is)
   (case xnh_Idle=>k_is)
   (case xcl_Idle=>k_is)
   (case xba_Idle=>k_is)
   (case xob_Idle=>k_is)
   (case xis_Idle=>k_is)
   (case xx_Idle=>kernel_rfl)
   (case xsa_Idle=>k_is)
   (case xov_Idle=>kernel_rfl)
   (case xve_Idle=>k_is)
   (case xkp_Idle=>k_is)
   (case QD=>k_is)
   (case JT=>kts_exm)
   (case qA=>kit_is)
   (case qi=>kit_is)
   (case QS=>kit_is)
   (case JA=>kit_is)
   (case Qu=>kit_is)
   (case qW=>kit_is)
   (case qV=>kit_is)
   (case qU=>kit_is)
   (case qT=>kit_is)
   (case qS=>kit_is)
   (case QT=>kit_is)
   (case QR=>kit_is)
   (case Qt=>kit_is)
   (case xga_TwoHands=>k_is)
   (case xnh_TwoHands=>k_is)
   (case xcl_TwoHands=>k_is)
   (case xba_TwoHands=>k_is)
   (case xob_TwoHands=>k_is)
   (case xis_TwoHands=>k_is)
   (case xx_TwoHands=>kernel_rfl)
   (case xsa_TwoHands=>k_is)
   (case xov_TwoHands=>kernel_rfl)
   (case xve_TwoHands=>k_is)
   (case xkp_TwoHands=>k_is)
   (case JI=>k_is)
   (case Jx=>k_is)
   (case Ja=>kts_exm)
   (case Jp=>kit_is)
   (case Jk=>kit_is)
   (case qo=>kit_is)
   (case j6=>kit_is)
   (case JS=>kit_is)
   (case JG=>kit_is)
   (case JF=>kit_is)
   (case JE=>kit_is)
   (case JD=>kit_is)
   (case JC=>kit_is)
   (case qp=>kit_is)
   (case qm=>kit_is)
   (case JR=>kit_is)
   (case xga_TooLong=>k_is)
   (case xnh_TooLong=>k_is)
   (case xcl_TooLong=>k_is)
   (case xba_TooLong=>k_is)
   (case xob_TooLong=>k_is)
   (case xis_TooLong=>k_is)
   (case xx_TooLong=>kernel_rfl)
   (case xsa_TooLong=>k_is)
   (case xov_TooLong=>kernel_rfl)
   (case xve_TooLong=>k_is)
   (case xkp_TooLong=>k_is)
   (case qq=>k_is)
   (case Jl=>kts_exm)
   (case JB=>kit_is)
   (case Jo=>kit_is)
   (case qC=>kit_is)
   (case j9=>kit_is)
   (case qk=>kit_is)
   (case JQ=>kit_is)
   (case JP=>kit_is)
   (case JO=>kit_is)
   (case JN=>kit_is)
   (case JM=>kit_is)
   (case qD=>kit_is)
   (case qB=>kit_is)
   (case qj=>kit_is)
   (case z0=>k_is)
   (case z1=>k_is)
   (case z2=>k_is)
   (case z3=>k_is)
   (case z4=>k_is)
   (case z5=>k_is)
   (case z6=>k_is)
   (case z7=>k_is)
   (case z8=>k_is)
   (case z9=>k_is)
   (case z10=>k_is)
   (case z11=>k_is)
   (case z12=>k_is)
   (case z13=>k_is)
   (case z14=>k_is)
   (case z15=>k_is)
  obtain⟨t,T⟩:=TT;obtain⟨_,_,kV,dc,pm,an,cd,ct,_,e,_⟩:=T.j1S.ex;have e0:=hmg.symm.trans T.j2Q;cases e0;refine⟨t.wX,fun s v=>?_,fun base _ _=>K14.j16 T⟩;rw[e];exact .of_eq rfl
#print axioms PySem.Challenge.cw_camplay_k14_refused_books_holds
