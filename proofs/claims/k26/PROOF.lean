import PyProof.Rows.All
import Wide.All
import OpenK.AllK
import Wide.FinOn
import Lean
import PyProof.EqAt
import PyProof.EqKinds
import PyProof.TupleCall
import PySem.Challenge.RW_camplay_k26_whole_rings_found
set_option Elab.async false
set_option linter.all false
set_option maxRecDepth 100000
set_option maxHeartbeats 4000000
open List (all_cons all_eq_true any_cons any_eq_true append_nil ext_getElem filterMap_cons filterMap_cons_none filterMap_cons_some filter_append filter_cons filter_nil flatMap_append flatMap_cons flatMap_nil getD_eq_getElem?_getD getElem_map getElem_mem getElem_range getElem_take length_cons length_filter_le length_map length_nil length_pos_iff length_range length_singleton length_take lookup_cons map_append map_congr_left map_cons map_map map_nil mem_append mem_append_left mem_append_right mem_cons mem_cons_of_mem mem_cons_self mem_filter mem_filterMap mem_flatMap mem_iff_getElem mem_map mem_range mem_singleton nodup_append nodup_cons of_mem_zip pairwise_cons pairwise_map pairwise_singleton reverse_cons size_toArray sum_append sum_cons sum_nil take_length take_sublist)
abbrev Frg := PySem.W.Frag
namespace L2
open PySem PySem.Spec PyProof.Rows
noncomputable abbrev Key:=Sum Int Str
noncomputable def keyIs:Key->Value->Bool
 | .inl k,v=>Value.isInt k v
 | .inr x,v=>Value.isStrOf x v
noncomputable def keyH(w:World):Key->Int
 | .inl k=>hashInt k
 | .inr x=>hashStr w x
theorem Js:∀{k:Key} {v:Value},keyIs k v=true->(∃i t,k=Sum.inl i/\v=Value.int i t)\/(∃x t,k=Sum.inr x/\v=Value.str x t)
 | .inl i,v,h=>by
  obtain⟨t,e⟩:=Value.isInt_shape (k:=i) (v:=v) h;exact .inl ⟨i,t,rfl,e⟩
 | .inr x,v,h=>by
  obtain⟨t,e⟩:=Value.isStrOf_shape (x:=x) (v:=v) h;exact .inr ⟨x,t,rfl,e⟩
theorem KD(i:Int)(t:Tok):keyIs (.inl i) (.int i t)=true:=by simp[keyIs,Value.isInt]
theorem X8(x:Str)(t:Tok):keyIs (.inr x) (.str x t)=true:=by simp[keyIs,Value.isStrOf]
theorem j2N(a b:Int):decide ((Sum.inl a:Key)=Sum.inl b)=(a==b):=by
 by_cases e:a=b
 ·subst e;simp
 ·have h:¬(Sum.inl a:Key)=Sum.inl b:=fun q=>e (Sum.inl.inj q)
  rw[decide_eq_false h];exact(beq_eq_false_iff_ne.mpr e).symm
theorem j2Q(a b:Str):decide ((Sum.inr a:Key)=Sum.inr b)=decide (a=b):=by
 by_cases e:a=b
 ·subst e;simp
 ·have h:¬(Sum.inr a:Key)=Sum.inr b:=fun q=>e (Sum.inr.inj q)
  rw[decide_eq_false h,decide_eq_false e]
theorem j2O(a:Int)(b:Str):decide ((Sum.inl a:Key)=Sum.inr b)=false:=decide_eq_false (fun q=>nomatch q)
theorem j2P(a:Str)(b:Int):decide ((Sum.inr a:Key)=Sum.inl b)=false:=decide_eq_false (fun q=>nomatch q)
noncomputable def mixKind(prog:Program)(w:World):PySem.KeyKind prog w Key where
 is:=keyIs
 hash:=keyH w
 inj:=fun v a b ha hb=>by
  rcases Js ha with⟨i,t,rfl,rfl⟩ | ⟨x,t,rfl,rfl⟩
  ·rcases Js hb with⟨j,u,rfl,e⟩ | ⟨y,u,rfl,e⟩
   ·injection e with e1 _;rw[e1]
   ·exact nomatch e
  ·rcases Js hb with⟨j,u,rfl,e⟩ | ⟨y,u,rfl,e⟩
   ·exact nomatch e
   ·injection e with e1 _;rw[e1]
 byValue:=fun k v h=>by
  rcases Js h with⟨i,t,rfl,rfl⟩ | ⟨x,t,rfl,rfl⟩<;>rfl
 pyHash:=fun hv h=>by
  rcases Js hv with⟨i,t,rfl,rfl⟩ | ⟨x,t,rfl,rfl⟩
  ·exact wpAny_pyHash_int h
  ·exact wpAny_pyHash_str h
 eqBool:=fun hu hv h=>by
  rcases Js hu with⟨i,t,rfl,rfl⟩ | ⟨x,t,rfl,rfl⟩
  ·rcases Js hv with⟨j,u,rfl,rfl⟩ | ⟨y,u,rfl,rfl⟩
   ·rw[j2N]at h;exact wpAny_eqBool_int h
   ·rw[j2O]at h;exact SeqAt.EqAt.int_str i t y u _ _ _ _ h
  ·rcases Js hv with⟨j,u,rfl,rfl⟩ | ⟨y,u,rfl,rfl⟩
   ·rw[j2P]at h;exact SeqAt.EqAt.str_int x t j u _ _ _ _ h
   ·rw[j2Q]at h;exact wpAny_eqBool_str h
 «strs»:=fun k x t v h=>by
  rcases Js h with⟨i,u,rfl,e⟩ | ⟨y,u,rfl,e⟩
  ·exact nomatch e
  ·injection e with e1 _;subst e1;cases v<;>rfl
theorem Wy(prog:Program)(w:World)(i:Int)(t:Tok):(mixKind prog w).is (.inl i) (.int i t)=true:=KD i t
theorem Wz(prog:Program)(w:World)(x:Str)(t:Tok):(mixKind prog w).is (.inr x) (.str x t)=true:=X8 x t
inductive V where
 | non | bl (b:Bool) | int (i:Int) | str (x:Str) | byt (b:Array UInt8) | flt (b:UInt64) | ref (a:Addr) | ty (n:String)
 deriving DecidableEq
noncomputable def RelV:V->Value->Prop
 | .non,u=>u=Value.none
 | .bl b,u=>u=Value.bool b
 | .int i,u=>∃t,u=Value.int i t
 | .str x,u=>∃t,u=Value.str x t
 | .byt b,u=>∃t,u=Value.bytes b t
 | .flt b,u=>∃t,u=Value.float b t
 | .ref a,u=>u=Value.ref a
 | .ty n,u=>u=Value.type n
noncomputable abbrev Vals:List V->List Value->Prop:=Paired RelV
theorem Vals.length{xs:List V}{us:List Value}(r:Vals xs us):xs.length=us.length:=Paired.length r
theorem Vals.get:∀{xs:List V} {us:List Value} {i:Nat} {x:V},Vals xs us->xs[i]?=some x->∃u,us[i]?=some u/\RelV x u
 | _,_,_,_,.nil,e=>by simp at e
 | _,_,0,_,.cons r _,e=>by simp at e;subst e;exact⟨_,rfl,r⟩
 | _,_,i+1,x,.cons _ t,e=>by
  obtain⟨u,h1,h2⟩:=Vals.get (i:=i) (x:=x) t (by simpa using e);exact⟨u,by simpa using h1,h2⟩
theorem Vals.set{x:V}{u:Value}(r:RelV x u):∀{xs:List V} {us:List Value} (i:Nat),Vals xs us->Vals (xs.set i x) (us.set i u)
 | _,_,_,.nil=>.nil
 | _,_,0,.cons _ t=>.cons r t
 | _,_,i+1,.cons q t=>.cons q (Vals.set r i t)
theorem Vals.append:∀{xs ys:List V} {us ws:List Value},Vals xs us->Vals ys ws->Vals (xs++ys) (us++ws)
 | _,_,_,_,.nil,s=>s
 | _,_,_,_,.cons r t,s=>.cons r (Vals.append t s)
theorem Vals.take:∀{xs:List V} {us:List Value} (n:Nat),Vals xs us->Vals (xs.take n) (us.take n)
 | _,_,0,_=>.nil
 | _,_,_+1,.nil=>.nil
 | _,_,n+1,.cons r t=>.cons r (Vals.take n t)
theorem Vals.drop:∀{xs:List V} {us:List Value} (n:Nat),Vals xs us->Vals (xs.drop n) (us.drop n)
 | _,_,0,r=>r
 | _,_,_+1,.nil=>.nil
 | _,_,n+1,.cons _ t=>Vals.drop n t
noncomputable def RelO:Option V->Option Value->Prop
 | some v,some u=>RelV v u
 | none,none=>True
 | _,_=>False
noncomputable def KV{κ:Type}:List (κ×V)->List (κ×Value)->Prop:=Paired fun(p:κ×V) (q:κ×Value)=>p.1=q.1/\RelV p.2 q.2
noncomputable def kV:Key->V
 | .inl i=>.int i
 | .inr x=>.str x
inductive HO where
 | lst (xs:List V)
 | tup (xs:List V)
 | dK (kvs:List (Key×V)) | dT (kvs:List (List Key×V))
 | set (S:Int->Bool) (n:Nat)
 | ins (C dx:Addr) (fs:List (Str×V))
 | own (x:Addr)
 | xd (fs:List (Str×V))
 | met (f x:Addr)
 | rng (lo hi:Int)
 | frz (o:Obj) (u:HO)
 | tbl (ps:Array Value)
 | ext (φ:Heap->Prop)
noncomputable abbrev Hp:=Addr->Option HO
noncomputable def upd(H:Hp)(a:Addr)(o:HO):Hp:=fun b=>if b=a then some o else H b
theorem jx{H:Hp}{a:Addr}{o:HO}:upd H a o a=some o:=by unfold upd;rw[if_pos rfl]
theorem jg{H:Hp}{a b:Addr}{o:HO}(h:b≠a):upd H a o b=H b:=by unfold upd;rw[if_neg h]
theorem Jv{H:Hp}{a b:Addr}{o u:HO}(h:H a=some o)(h':H b=some u)(d:o≠u):a≠b:=by
 intro e;subst e;rw[h]at h';exact d (Option.some.inj h')
theorem je{H:Hp}{a b:Addr}{o:HO}(h:H a=some o)(h':H b=none):a≠b:=by
 intro e;subst e;rw[h]at h';cases h'
section
variable(P:Program)(w:World)
noncomputable def ObjOk(H:Hp)(h:Heap)(a:Addr):HO->Prop
 | .lst xs=>xs.length<=sizeLine/\∃(its:List Value) (n:Nat),Vals xs its/\h.get? a=some {cls:=.type "list",data:=.seq its.toArray n}
 | .tup xs=>xs.length<=sizeLine/\∃its:List Value,Vals xs its/\IsTup h a its.toArray
 | .dK kvs=>kvs.length<=sizeLine/\(a==sysModules)=false/\∃vs,KV kvs vs/\h.DictOf (mixKind P w) a vs
 | .dT kvs=>kvs.length<=sizeLine/\(a==sysModules)=false/\∃xs:List (List Key×Addr×Value),
   Paired (fun(p:List Key×V) (q:List Key×Addr×Value)=>p.1=q.1/\H q.2.1=some (.tup (p.1.map kV))/\RelV p.2 q.2.2) kvs xs/\
   ∃o es ep,h.get? a=some o/\o.ExactDict/\o.data = .dict es ep/\es.toList=xs.map (entryOfKey (tupleKind (mixKind P w)))/\(xs.map (·.1)).Nodup
 | .set S n=>h.SetOf (intKind P w) a S n
 | .ins C dx fs=>H dx=some (.own a)/\fs.length<=1000/\dx≠a/\h.get? a=some (PySem.W.instObj C dx)/\
   ∃mA,h.Ns1 dx mA/\(∀f,RelO (fs.lookup f) (mA f))/\PySem.Within mA (fs.map (·.1))
 | .own _=>∃o,h.get? a=some o
 | .xd fs=>∃mA,h.Ns1 a mA/\∀f,RelO (fs.lookup f) (mA f)
 | .rng lo hi=>∃t u v,h.get? a=some {cls:=.type "range",data:=.fields #[.int lo t,.int hi u,.int 1 v]}
 | .frz o u=>h.get? a=some o/\ObjOk H h a u
 | .tbl ps=>h.get? a=some {cls:=.none,data:=.fields ps}
 | .met f x=>h.get? a=some (PySem.W.methodObj (.ref f) (.ref x))
 | .ext φ=>φ h/\(∃o,h.get? a=some o)/\∀h1 h2:Heap,φ h1->(∀o,h1.get? a=some o->h2.get? a=some o)->φ h2
def HOk(H:Hp)(h:Heap):Prop:=∀a o,H a=some o->ObjOk P w H h a o
end
section
variable{P:Program}{w:World}{H H':Hp}{h h':Heap}{a:Addr}{o:HO}
theorem ObjOk.lt(x:ObjOk P w H h a o):a<h.objs.size:=by
 cases o with
 | lst xs=>obtain⟨_,_,_,_,e⟩:=x;exact Heap.lt_size e
 | tup xs=>obtain⟨_,_,_,p⟩:=x;exact p.lt
 | dK kvs=>obtain⟨_,_,_,_,o,_,_,e,_⟩:=x;exact Heap.lt_size e
 | dT kvs=>obtain⟨_,_,_,_,o,_,_,e,_⟩:=x;exact Heap.lt_size e
 | set S n=>obtain⟨o,_,_,_,e,_⟩:=x;exact Heap.lt_size e
 | ins C dx fs=>obtain⟨_,_,_,e,_⟩:=x;exact Heap.lt_size e
 | own y=>obtain⟨_,e⟩:=x;exact Heap.lt_size e
 | xd fs=>obtain⟨_,⟨_,_,_,e,_⟩,_⟩:=x;exact Heap.lt_size e
 | rng lo hi=>obtain⟨_,_,_,e⟩:=x;exact Heap.lt_size e
 | frz ob u=>obtain⟨e,_⟩:=x;exact Heap.lt_size e
 | tbl ps=>exact Heap.lt_size (show h.get? a=some _ from x)
 | met f y=>exact Heap.lt_size (show h.get? a=some _ from x)
 | ext φ=>obtain⟨_,⟨_,e⟩,_⟩:=x;exact Heap.lt_size e
theorem Paired.mapP{α β:Type}{F G:α->β->Prop}:∀{l₁:List α} {l₂:List β},Paired F l₁ l₂->(∀a b,F a b->G a b)->Paired G l₁ l₂
 | _,_,.nil,_=>.nil
 | _,_,.cons r t,f=>.cons (f _ _ r) (Paired.mapP t f)
theorem ObjOk.stay(x:ObjOk P w H h a o)(k:∀b u,(b=a\/H b=some (.own a))->h.get? b=some u->h'.get? b=some u)
  (ho:∀b,H b=some (.own a)->H' b=some (.own a)) (ht:∀b xs,H b=some (.tup xs)->H' b=some (.tup xs)):ObjOk P w H' h' a o:=by
 induction o with
 | lst xs=>obtain⟨z,its,n,r,e⟩:=x;exact⟨z,its,n,r,k _ _ (.inl rfl) e⟩
 | tup xs=>obtain⟨z,its,r,ob,e,c⟩:=x;exact⟨z,its,r,ob,k _ _ (.inl rfl) e,c⟩
 | dK kvs=>obtain⟨z,y,vs,r,ob,es,ep,e,c⟩:=x;exact⟨z,y,vs,r,ob,es,ep,k _ _ (.inl rfl) e,c⟩
 | dT kvs=>
  obtain⟨z,y,xs,r,ob,es,ep,e,c⟩:=x;exact⟨z,y,xs,Paired.mapP r fun p q z=>⟨z.1,ht _ _ z.2.1,z.2.2⟩,ob,es,ep,k _ _ (.inl rfl) e,c⟩
 | set S n=>obtain⟨ob,es,ep,t,e,c⟩:=x;exact⟨ob,es,ep,t,k _ _ (.inl rfl) e,c⟩
 | ins C dx fs=>
  obtain⟨d,z,ne,e,mA,⟨od,es,ep,e2,c⟩,r⟩:=x;exact⟨ho _ d,z,ne,k _ _ (.inl rfl) e,mA,⟨od,es,ep,k _ _ (.inr d) e2,c⟩,r⟩
 | own y=>obtain⟨ob,e⟩:=x;exact⟨ob,k _ _ (.inl rfl) e⟩
 | xd fs=>obtain⟨mA,⟨od,es,ep,e,c⟩,r⟩:=x;exact⟨mA,⟨od,es,ep,k _ _ (.inl rfl) e,c⟩,r⟩
 | rng lo hi=>obtain⟨t,u,v,e⟩:=x;exact⟨t,u,v,k _ _ (.inl rfl) e⟩
 | frz ob u ih=>obtain⟨e,q⟩:=x;exact⟨k _ _ (.inl rfl) e,ih q⟩
 | tbl ps=>
  have e:h.get? a=some {cls:=.none,data:=.fields ps}:=x;show h'.get? a=some {cls:=.none,data:=.fields ps};exact k a _ (.inl rfl) e
 | met f y=>
  have e:h.get? a=some (PySem.W.methodObj (.ref f) (.ref y)):=x;show h'.get? a=some (PySem.W.methodObj (.ref f) (.ref y));exact k a _ (.inl rfl) e
 | ext φ=>obtain⟨p,⟨o,e⟩,st⟩:=x;exact⟨st _ _ p fun o q=>k _ _ (.inl rfl) q,⟨o,k _ _ (.inl rfl) e⟩,st⟩
theorem HOk.lt(x:HOk P w H h)(e:H a=some o):a<h.objs.size:=(x a o e).lt
theorem HOk.fresh(x:HOk P w H h)(e:h.objs.size<=a):H a=none:=by
 cases q:H a with
 | none=>rfl
 | some u=>exact absurd (Nat.lt_of_lt_of_le (x.lt q) e) (Nat.lt_irrefl _)
theorem HOk.kept(x:HOk P w H h)(k:∀b u,h.get? b=some u->h'.get? b=some u):HOk P w H h':=fun a o e=>
 (x a o e).stay (fun b u _ q=>k b u q) (fun _ q=>q) fun _ _ q=>q
theorem HOk.laid(x:HOk P w H h)(k:∀b u,h.get? b=some u->h'.get? b=some u)(hp:h.objs.size<=a)(new:ObjOk P w (upd H a o) h' a o):HOk P w (upd H a o) h':=fun b u e=>by
 have hn:=x.fresh hp;by_cases hb:b=a
 ·subst hb;rw[jx]at e;cases e;exact new
 ·rw[jg hb]at e;exact(x b u e).stay (fun c v _ q=>k c v q) (fun c q=>by rw[jg (je q hn)];exact q) fun c xs q=>by rw[jg (je q hn)];exact q
end
def Rd(H:Hp)(a:Addr)(u:HO):Prop:=H a=some u\/∃o,H a=some (.frz o u)
theorem Rd.ok{P:Program}{w:World}{H:Hp}{h:Heap}{a:Addr}{u:HO}(r:Rd H a u)(x:HOk P w H h):ObjOk P w H h a u:=by
 rcases r with r | ⟨o,r⟩
 ·exact x a u r
 ·obtain⟨_,q⟩:=x a _ r;exact q
noncomputable def Mut:Option HO->Prop
 | some (.lst _)=>True
 | some (.dK _)=>True
 | some (.dT _)=>True
 | some (.set _ _)=>True
 | some (.ins _ _ _)=>True
 | some (.ext _)=>True
 | _=>False
section
variable{P:Program}{w:World}{H:Hp}{h h':Heap}{x e:Addr}{o':HO}
theorem HOk.write(ok:HOk P w H h)(mu:Mut (H x))(he:e=x\/H e=some (.own x))(k:∀b u,b≠e->h.get? b=some u->h'.get? b=some u)(heo:∃u,h'.get? e=some u)
  (new:ObjOk P w (upd H x o') h' x o'):HOk P w (upd H x o') h':=fun b u q=>by
 have nown:∀c y,H c=some (.own y)->c≠x:=fun c y r z=>by subst z;rw[r]at mu;exact mu
 have ntup:∀c xs,H c=some (.tup xs)->c≠x:=fun c xs r z=>by subst z;rw[r]at mu;exact mu
 by_cases hb:b=x
 ·subst hb;rw[jx]at q;cases q;exact new
 ·rw[jg hb]at q;by_cases hbe:b=e
  ·have q':H b=some (.own x):=by
    rcases he with z | z
    ·exact absurd (hbe.trans z) hb
    ·rw[hbe];exact z
   rw[q]at q';cases q';obtain⟨v,hv⟩:=heo;exact⟨v,by rw[hbe];exact hv⟩
  ·refine(ok b u q).stay (fun c v hc r=>k c v ?_ r) (fun c r=>by rw[jg (nown c b r)];exact r) fun c xs r=>by rw[jg (ntup c xs r)];exact r
   rcases hc with rfl | hc
   ·exact hbe
   ·rintro rfl;rcases he with z | z
    ·exact nown c b hc z
    ·rw[hc]at z;cases z;exact hb rfl
end
structure Un(fs ex:List Addr)(H H':Hp)(h h':Heap):Prop where
 keep:∀b o,h.get? b=some o->H b=none->b∉fs->b∉ex->h'.get? b=some o
 slot:∀b o,h.get? b=some o->H b=none->b∈fs->b∉ex->∃sl,h'.get? b=some {o with slots:=sl}
 free:∀b o,h.get? b=some o->H b=none->b∉ex->H' b=none
 there:∀b o,h.get? b=some o->b∉ex->∃o',h'.get? b=some o'
 tups:∀b xs,H b=some (.tup xs)->H' b=some (.tup xs)
 frzs:∀b o u,H b=some (.frz o u)->H' b=some (.frz o u)
 tbls:∀b ps,H b=some (.tbl ps)->∃more,H' b=some (.tbl (ps++more))
section
variable{fs fs' ex ex':List Addr}{H H1 H2:Hp}{h h1 h2 h':Heap}{a x e:Addr}{o:HO}
theorem Un.any(u:Un fs ex H H1 h h1){b:Addr}{ob:Obj}(q:h.get? b=some ob)(n:H b=none)(hx:b∉ex):∃sl,h1.get? b=some {ob with slots:=sl}:=by
 by_cases hb:b∈fs
 ·exact u.slot b ob q n hb hx
 ·exact⟨ob.slots,u.keep b ob q n hb hx⟩
theorem Un.kept(k:∀b u,h.get? b=some u->h'.get? b=some u):Un fs ex H H h h':=
 ⟨fun b ob q _ _ _=>k b ob q,fun b ob q _ _ _=>⟨ob.slots,k b ob q⟩,fun _ _ _ n _=>n,fun b ob q _=>⟨ob,k b ob q⟩,fun _ _ q=>q,fun _ _ _ q=>q,fun _ ps q=>⟨#[],by rw[q];simp⟩⟩
theorem Un.refl:Un fs ex H H h h:=Un.kept fun _ _ q=>q
theorem Un.laid(k:∀b u,h.get? b=some u->h'.get? b=some u)(hp:h.objs.size<=a)(hn:H a=none):Un fs ex H (upd H a o) h h' where
 keep:=fun b u q _ _ _=>k b u q
 slot:=fun b u q _ _ _=>⟨u.slots,k b u q⟩
 free:=fun b u q n _=>by rw[jg (Nat.ne_of_lt (Nat.lt_of_lt_of_le (Heap.lt_size q) hp))];exact n
 there:=fun b u q _=>⟨u,k b u q⟩
 tups:=fun b xs q=>by rw[jg (je q hn)];exact q
 frzs:=fun b u xs q=>by rw[jg (je q hn)];exact q
 tbls:=fun b ps q=>⟨#[],by rw[jg (je q hn),q];simp⟩
theorem Un.write(mu:Mut (H x))(he:e=x\/H e=some (.own x))(k:∀b u,b≠e->h.get? b=some u->h'.get? b=some u)(heo:∃u,h'.get? e=some u):Un fs ex H (upd H x o) h h':=by
 have hx:∀b,H b=none->b≠x:=fun b n z=>by subst z;rw[n]at mu;exact mu
 have hb:∀b,H b=none->b≠e:=fun b n z=>by
  subst z;rcases he with r | r
  ·exact hx b n r
  ·rw[n]at r;cases r
 have hm:∀b u,H b=some u->¬Mut (some u)->b≠x:=fun b u q nm z=>by subst z;rw[q]at mu;exact nm mu
 refine⟨fun b u q n _ _=>k b u (hb b n) q,fun b u q n _ _=>⟨u.slots,k b u (hb b n) q⟩,fun b u q n _=>by rw[jg (hx b n)];exact n,fun b u q _=>?_,
  fun b xs q=>by rw[jg (hm b _ q fun z=>z)];exact q,fun b u xs q=>by rw[jg (hm b _ q fun z=>z)];exact q,fun b ps q=>⟨#[],by rw[jg (hm b _ q fun z=>z),q];simp⟩⟩
 by_cases hbe:b=e
 ·subst hbe;exact heo
 ·exact⟨u,k b u hbe q⟩
end
noncomputable def trk(h:Heap)(H:Hp):List Addr:=(List.range h.objs.size).filter fun a=>(H a).isSome
noncomputable def hidT(h:Heap)(H:Hp):Heap:=PySem.W.hideAll h (trk h H)
theorem X4(h:Heap)(H:Hp):(hidT h H).objs.size=h.objs.size:=PySem.W.hideAll_size _ _
theorem j0K{h:Heap}{H:Hp}{b:Addr}{o:Obj}(e:h.get? b=some o)(n:H b=none):(hidT h H).get? b=some o:=
 PySem.W.hideAll_get _ e fun hm=>by
  have q:(H b).isSome=true:=(mem_filter.mp hm).2;rw[n]at q;simp at q
theorem j2k{h:Heap}{H:Hp}{b:Addr}{o:Obj}(e:(hidT h H).get? b=some o):h.get? b=some o/\H b=none:=by
 have e':h.get? b=some o:=PySem.W.of_hideAll (trk h H) e;refine⟨e',?_⟩;cases q:H b with
 | none=>rfl
 | some x=>
  have hm:b∈trk h H:=mem_filter.mpr ⟨mem_range.mpr (Heap.lt_size e'),by simp[q]⟩;have z:(hidT h H).get? b=none:=PySem.W.hideAll_none (trk h H) hm;rw[z]at e;cases e
structure Mod(K:Frg)(mg:Str->Option Value)(base:Heap):Prop where
 kin:K.In base
 glob:base.Ns mainGlobals mg
 blt:∃mb,base.Ns builtinsNs mb/\∀x:Str,x≠"__name__"->mb x=bootBuiltins x
 nolimit:base.NoLimit
structure Cx where
 prog:Program
 w:World
 K:Frg
 mg:Str->Option Value
 base:Heap
 A:Around
 N:List Str
 s₀:Shared
 H₀:Hp
 env:Env
 outer:List Env
 stack:List Env
 ex:List Addr
 fn:Str->Bool
 calm:Bool
 pn:List (Addr×Obj)
 xe:Value->Shared->Prop
noncomputable def frs(l:List Env):List Addr:=l.filterMap (·.frame)
noncomputable abbrev Cx.fs(X:Cx):List Addr:=frs X.outer
def Vis(sc:Scope)(x:Str):Prop:=sc.names.lookup x=some .local\/sc.names.lookup x=some .cell\/sc.names.lookup x=some .free
def Loc(sc:Scope)(x:Str):Prop:=sc.names.lookup x=some .local\/sc.names.lookup x=some .cell
def Look(env:Env)(h:Heap)(m:Str->Option Value)(x:Str)(u:Value):Prop:=
 (env.kindOf x=some .local/\m x=some u)\/((env.kindOf x=some .cell\/env.kindOf x=some .free)/\∃c,env.cells.lookup x=some c/\h.IsCell c (some u))
structure Cx.Ok(X:Cx):Prop where
 mod:Mod X.K X.mg X.base
 kind:X.env.scope.kind = .function
 glob:X.env.globals=mainGlobals
 blt:X.env.builtins=builtinsNs
 above:X.s₀.heap.objs.size<=X.env.locals
 inj:∀x y c,X.env.cells.lookup x=some c->X.env.cells.lookup y=some c->x=y
 has:∀x,(X.env.kindOf x=some .cell\/X.env.kindOf x=some .free)->∃c,X.env.cells.lookup x=some c
 cab:∀x c,X.fn x=true->X.env.cells.lookup x=some c->X.s₀.heap.objs.size<=c
 hd:X.calm=true->X.A.handled=none
 frames:X.A.frames=some X.stack
 stk:X.stack=X.outer\/(X.stack=X.env::X.outer/\X.env.frame=some X.env.locals)
 exf:∀b∈X.ex,b≠X.env.locals/\∀x c,X.env.cells.lookup x=some c->c≠b
 bs:∀b o,X.base.get? b=some o->X.s₀.heap.get? b=some o/\X.H₀ b=none
 bsz:X.base.objs.size<=X.s₀.heap.objs.size
 noex:∀b o,X.base.get? b=some o->b∉X.ex
 exfs:∀b∈X.ex,b∉X.fs
 funs:X.s₀.heap.FunFrames X.base X.outer
 frf:∀b∈X.fs,X.H₀ b=none
structure Inv(X:Cx)(pins:List (Addr×Obj))(σ:List (Option V))(H:Hp)(s:Shared):Prop where
 ok:X.Ok
 os:s.os=X.s₀.os
 bare:AllBare s.gens
 base:Un X.fs X.ex X.H₀ H X.s₀.heap s.heap
 loc:∃m,s.heap.Ns X.env.locals m/\∀(i:Nat) (x:Str) (v:V),X.N[i]?=some x->σ[i]?=some (some v)->Vis X.env.scope x->∃u,RelV v u/\Look X.env s.heap m x u
 cell:∀x c,X.env.cells.lookup x=some c->∃v,s.heap.IsCell c v
 free:H X.env.locals=none
 freeC:∀x c,X.env.cells.lookup x=some c->H c=none
 pin:∀p∈X.pn++pins,s.heap.get? p.1=some p.2/\H p.1=none/\p.1≠X.env.locals/\p.1∉X.fs/\∀v,p.2.data≠.cell v
 hok:HOk X.prog X.w H s.heap
 len:σ.length=X.N.length
section
variable{X:Cx}{pins:List (Addr×Obj)}{σ:List (Option V)}{H H':Hp}{s:Shared}{h':Heap}
theorem Cx.Ok.nofr(ok:X.Ok){b:Addr}{o:Obj}(e:X.base.get? b=some o):b∉X.fs:=fun hb=>by
 have:=(ok.funs.mem hb).1;rw[e]at this;cases this
theorem Inv.bs(I:Inv X pins σ H s):∀b o,X.base.get? b=some o->s.heap.get? b=some o/\H b=none:=fun b o e=>
 ⟨I.base.keep b o (I.ok.bs b o e).1 (I.ok.bs b o e).2 (I.ok.nofr e) (I.ok.noex b o e),I.base.free b o (I.ok.bs b o e).1 (I.ok.bs b o e).2 (I.ok.noex b o e)⟩
theorem Inv.bk(I:Inv X pins σ H s):∀b o,X.base.get? b=some o->s.heap.get? b=some o:=fun b o e=>(I.bs b o e).1
theorem Inv.mod(I:Inv X pins σ H s):Mod X.K X.mg X.base:=I.ok.mod
theorem Inv.kIn(I:Inv X pins σ H s):X.K.In s.heap:=I.ok.mod.kin.keeps I.bk
theorem Inv.lt(I:Inv X pins σ H s):X.env.locals<s.heap.objs.size:=let ⟨_,hn,_⟩:=I.loc;hn.lt
theorem Inv.sz(I:Inv X pins σ H s):X.s₀.heap.objs.size<=s.heap.objs.size:=Nat.le_trans I.ok.above (Nat.le_of_lt I.lt)
theorem Inv.nofs(I:Inv X pins σ H s){a:Addr}(h:s.heap.objs.size<=a):a∉X.fs:=fun hb=>by
 obtain⟨_,o,ho,_⟩:=I.ok.funs.mem hb;exact absurd (Nat.lt_of_lt_of_le (Heap.lt_size ho) (Nat.le_trans I.sz h)) (Nat.lt_irrefl _)
theorem Inv.cne(I:Inv X pins σ H s):∀x c,X.env.cells.lookup x=some c->c≠X.env.locals:=fun x c e z=>by
 obtain⟨v,o,ho,hd⟩:=I.cell x c e;obtain⟨m,⟨o',es,ep,ho',hd',_⟩,_⟩:=I.loc;rw[z,ho']at ho;cases ho;rw[hd']at hd;cases hd
theorem Inv.funs(I:Inv X pins σ H s):s.heap.FunFrames X.base X.outer:=by
 have all:∀(l:List Env),(∀b∈frs l,b∈X.fs)->X.s₀.heap.FunFrames X.base l->s.heap.FunFrames X.base l:=by
  intro l
  induction l with
  | nil=>intro _ _;trivial
  | cons env r ih=>
   intro hs hl;obtain⟨hk,⟨L,o,hf,hn,ho,hd⟩,hr⟩:=hl;have hL:L∈X.fs:=hs L (by unfold frs;rw[filterMap_cons,hf];exact mem_cons_self);obtain⟨sl,e⟩:=I.base.slot L o ho (I.ok.frf L hL) hL fun z=>I.ok.exfs L z hL
   exact⟨hk,⟨L,_,hf,hn,e,hd⟩,ih (fun b hb=>hs b (by unfold frs;rw[filterMap_cons,hf];exact mem_cons_of_mem _ hb)) hr⟩
 exact all X.outer (fun _ hb=>hb) I.ok.funs
theorem Inv.stack(I:Inv X pins σ H s):s.heap.FunFrames X.base X.stack:=by
 rcases I.ok.stk with e | ⟨e,hf⟩
 ·rw[e];exact I.funs
 ·rw[e];obtain⟨m,hn,_⟩:=I.loc;refine .cons (by rw[I.ok.kind];decide) hf hn ?_ I.funs;exact Heap.get?_none_of_le (Nat.le_trans I.ok.bsz I.ok.above)
theorem Inv.stkSub(I:Inv X pins σ H s):∀b∈frs X.stack,b∈X.env.locals::X.fs:=fun b hb=>by
 rcases I.ok.stk with e | ⟨e,hf⟩
 ·rw[e]at hb;exact mem_cons_of_mem _ hb
 ·rw[e]at hb;unfold frs at hb;rw[filterMap_cons,hf]at hb;exact hb
theorem Inv.stkFree(I:Inv X pins σ H s):∀b∈frs X.stack,H b=none:=fun b hb=>by
 rcases mem_cons.mp (I.stkSub b hb)with e | hb
 ·rw[e];exact I.free
 ·obtain⟨_,o,ho,_⟩:=I.ok.funs.mem hb;exact I.base.free b o ho (I.ok.frf b hb) fun z=>I.ok.exfs b z hb
theorem Inv.step{g':Array GenState}{t':Nat}{d':Drawn}{ch:List Addr}(I:Inv X pins σ H s)
  (hch:∀b∈ch,(b∈X.ex\/X.s₀.heap.objs.size<=b)/\b≠X.env.locals/\(∀x c,X.env.cells.lookup x=some c->c≠b)/\∀p∈X.pn++pins,p.1≠b)
  (keep:∀b o,b≠X.env.locals->b∉X.fs->b∉ch->s.heap.get? b=some o->H b=none->h'.get? b=some o)
  (slot:∀b o,b≠X.env.locals->b∈X.fs->b∉ch->s.heap.get? b=some o->H b=none->∃sl,h'.get? b=some {o with slots:=sl}) (free:∀b o,b∉ch->s.heap.get? b=some o->H b=none->H' b=none)
  (there:∀b o,b∉ch->s.heap.get? b=some o->∃o',h'.get? b=some o')
  (tups:∀b xs,H b=some (.tup xs)->H' b=some (.tup xs)) (frzs:∀b o u,H b=some (.frz o u)->H' b=some (.frz o u)) (tbls:∀b ps,H b=some (.tbl ps)->∃more,H' b=some (.tbl (ps++more)))
  (ns:∀m,s.heap.Ns X.env.locals m->h'.Ns X.env.locals m) (hok:HOk X.prog X.w H' h') (hg:AllBare g') :
  Inv X pins σ H' {s with heap:=h',gens:=g',drawn:=d',toks:=t'}:=by
 have neL:∀b o,X.s₀.heap.get? b=some o->b≠X.env.locals:=fun b o e=>Nat.ne_of_lt (Nat.lt_of_lt_of_le (Heap.lt_size e) I.ok.above)
 have neC:∀b o,X.s₀.heap.get? b=some o->b∉X.ex->b∉ch:=fun b o e hx hb=>by
  rcases(hch b hb).1 with z | z
  ·exact hx z
  ·exact absurd (Nat.lt_of_lt_of_le (Heap.lt_size e) z) (Nat.lt_irrefl _)
 have cellK:∀x c,X.env.cells.lookup x=some c->∀v,s.heap.IsCell c v->h'.IsCell c v:=fun x c e v ⟨o,ho,hd⟩=>by
  have nch:c∉ch:=fun z=>(hch c z).2.2.1 x c e rfl
  by_cases hc:c∈X.fs
  ·obtain⟨sl,q⟩:=slot c o (I.cne x c e) hc nch ho (I.freeC x c e);exact⟨_,q,hd⟩
  ·exact⟨o,keep c o (I.cne x c e) hc nch ho (I.freeC x c e),hd⟩
 refine⟨I.ok,I.os,hg,⟨fun b o e n hb hx=>?_,fun b o e n hb hx=>?_,fun b o e n hx=>?_,fun b o e hx=>?_,fun b xs e=>tups b xs (I.base.tups b xs e),fun b o xs e=>frzs b o xs (I.base.frzs b o xs e),fun b ps e=>?_⟩,?_,fun x c e=>?_,?_,fun x c e=>?_,fun p hp=>?_,hok,I.len⟩
 ·exact keep b o (neL b o e) hb (neC b o e hx) (I.base.keep b o e n hb hx) (I.base.free b o e n hx)
 ·obtain⟨sl,e1⟩:=I.base.slot b o e n hb hx;obtain⟨sl',e2⟩:=slot b _ (neL b o e) hb (neC b o e hx) e1 (I.base.free b o e n hx);exact⟨sl',e2⟩
 ·obtain⟨o',e1⟩:=I.base.there b o e hx;exact free b o' (neC b o e hx) e1 (I.base.free b o e n hx)
 ·obtain⟨o',e1⟩:=I.base.there b o e hx;exact there b o' (neC b o e hx) e1
 ·obtain⟨m1,e1⟩:=I.base.tbls b ps e;obtain⟨m2,e2⟩:=tbls b _ e1;exact⟨m1++m2,by rw[e2,Array.append_assoc]⟩
 ·obtain⟨m,hn,hl⟩:=I.loc;refine⟨m,ns m hn,fun i x v e1 e2 e3=>?_⟩;obtain⟨u,r,l⟩:=hl i x v e1 e2 e3;refine⟨u,r,?_⟩;rcases l with l | ⟨k,c,e,z⟩
  ·exact .inl l
  ·exact .inr ⟨k,c,e,cellK x c e _ z⟩
 ·obtain⟨v,z⟩:=I.cell x c e;exact⟨v,cellK x c e v z⟩
 ·obtain⟨m,⟨o,_,_,ho,_⟩,_⟩:=I.loc;exact free _ o (fun z=>(hch _ z).2.1 rfl) ho I.free
 ·obtain⟨v,o,ho,hd⟩:=I.cell x c e;exact free c o (fun z=>(hch c z).2.2.1 x c e rfl) ho (I.freeC x c e)
 ·obtain⟨e,n,ne,nf,d⟩:=I.pin p hp;have nch:p.1∉ch:=fun z=>(hch p.1 z).2.2.2 p hp rfl
  exact⟨keep p.1 p.2 ne nf nch e n,free p.1 p.2 nch e n,ne,nf,d⟩
theorem Inv.un{t':Nat}(I:Inv X pins σ H s)(u:Un X.fs [] H H' s.heap h')(hok:HOk X.prog X.w H' h'):Inv X pins σ H' {s with heap:=h',toks:=t'}:=by
 obtain⟨m,⟨o,es,ep,ho,r⟩,_⟩:=id I.loc;obtain⟨sl,hL⟩:=u.any ho I.free (by simp);exact I.step (g':=s.gens) (d':=s.drawn) (ch:=[]) (fun _ z=>nomatch z) (fun b o _ hb _ e n=>u.keep b o e n hb (by simp)) (fun b o _ hb _ e n=>u.slot b o e n hb (by simp)) (fun b o _ e n=>u.free b o e n (by simp)) (fun b o _ e=>u.there b o e (by simp)) u.tups u.frzs u.tbls (fun m' hm=>by
  obtain⟨o',es',ep',ho',r'⟩:=hm;rw[ho]at ho';cases ho';exact⟨_,es',ep',hL,r'⟩) hok I.bare
theorem Inv.call{g':Array GenState}{t':Nat}{d':Drawn}{ch:List Addr}(I:Inv X pins σ H s)(u:Un (frs X.stack) ch H H' s.heap h')(hok:HOk X.prog X.w H' h')(hg:AllBare g')
  (hch:∀b∈ch,(b∈X.ex\/X.s₀.heap.objs.size<=b)/\b≠X.env.locals/\(∀x c,X.env.cells.lookup x=some c->c≠b)/\∀p∈X.pn++pins,p.1≠b) :
  Inv X pins σ H' {s with heap:=h',gens:=g',drawn:=d',toks:=t'}:=by
 obtain⟨m,⟨o,es,ep,ho,r⟩,_⟩:=id I.loc;obtain⟨sl,hL⟩:=u.any ho I.free fun z=>(hch _ z).2.1 rfl
 exact I.step (ch:=ch) hch (fun b o hL hb hc e n=>u.keep b o e n (fun z=>(mem_cons.mp (I.stkSub b z)).elim hL hb) hc) (fun b o _ _ hc e n=>u.any e n hc) (fun b o hc e n=>u.free b o e n hc) (fun b o hc e=>u.there b o e hc) u.tups u.frzs u.tbls (fun m' hm=>by
  obtain⟨o',es',ep',ho',r'⟩:=hm;rw[ho]at ho';cases ho';exact⟨_,es',ep',hL,r'⟩) hok hg
theorem Inv.turned{t':Nat}{it:Addr}(I:Inv X pins σ H s)(k:∀b o,b≠it->s.heap.get? b=some o->h'.get? b=some o)(hn:H it=none)(hL:it≠X.env.locals)
  (h1:it∈X.ex\/X.s₀.heap.objs.size<=it) (h2:∀x c,X.env.cells.lookup x=some c->c≠it) (h3:∀p∈X.pn++pins,p.1≠it):Inv X pins σ H {s with heap:=h',toks:=t'}:=by
 have nit:∀b u,H b=some u->b≠it:=fun b u e z=>by rw[z,hn]at e;cases e
 refine I.step (g':=s.gens) (d':=s.drawn) (ch:=[it]) (fun b hb=>?_) (fun b o _ _ hc e _=>k b o (fun z=>hc (by simp[z])) e) (fun b o _ _ hc e _=>⟨o.slots,k b o (fun z=>hc (by simp[z])) e⟩) (fun _ _ _ _ n=>n)
  (fun b o hc e=>⟨o,k b o (fun z=>hc (by simp[z])) e⟩) (fun _ _ e=>e) (fun _ _ _ e=>e) (fun b ps e=>⟨#[],by rw[e];simp⟩) (fun m hm=>?_) (fun b u e=>?_) I.bare
 ·have e:b=it:=by simpa using hb
  subst e;exact⟨h1,hL,h2,h3⟩
 ·obtain⟨o,es,ep,ho,r⟩:=hm;exact⟨o,es,ep,k _ o (Ne.symm hL) ho,r⟩
 ·refine(I.hok b u e).stay (fun c v hc q=>k c v ?_ q) (fun _ q=>q) fun _ _ q=>q
  rcases hc with z | z
  ·rw[z];exact nit b u e
  ·exact nit c _ z
theorem Inv.tok(I:Inv X pins σ H s)(t:Nat):Inv X pins σ H {s with toks:=t}:=I.un (h':=s.heap) (t':=t) Un.refl I.hok
theorem Inv.kept{t':Nat}(I:Inv X pins σ H s)(k:∀b u,s.heap.get? b=some u->h'.get? b=some u):Inv X pins σ H {s with heap:=h',toks:=t'}:=I.un (Un.kept k) (I.hok.kept k)
theorem Inv.laid{a:Addr}{o:HO}{t':Nat}(I:Inv X pins σ H s)(k:∀b u,s.heap.get? b=some u->h'.get? b=some u)(hp:s.heap.objs.size<=a)(new:ObjOk X.prog X.w (upd H a o) h' a o) :
  Inv X pins σ (upd H a o) {s with heap:=h',toks:=t'}:=I.un (Un.laid k hp (I.hok.fresh hp)) (I.hok.laid k hp new)
theorem Inv.write{x e:Addr}{o:HO}{t':Nat}(I:Inv X pins σ H s)(mu:Mut (H x))(he:e=x\/H e=some (.own x))(k:∀b u,b≠e->s.heap.get? b=some u->h'.get? b=some u)(heo:∃u,h'.get? e=some u)
  (new:ObjOk X.prog X.w (upd H x o) h' x o):Inv X pins σ (upd H x o) {s with heap:=h',toks:=t'}:=I.un (Un.write mu he k heo) (I.hok.write mu he k heo new)
theorem Inv.weak{σ':List (Option V)}(I:Inv X pins σ H s)(hl:σ'.length=σ.length)(w:∀(i:Nat) v,σ'[i]?=some (some v)->σ[i]?=some (some v)):Inv X pins σ' H s:=
 ⟨I.ok,I.os,I.bare,I.base,let ⟨m,hn,hl'⟩:=I.loc;⟨m,hn,fun i x v e1 e2 e3=>hl' i x v e1 (w i v e2) e3⟩,I.cell,I.free,I.freeC,I.pin,I.hok,hl.trans I.len⟩
theorem Inv.pins_of{pins':List (Addr×Obj)}(I:Inv X pins σ H s)(h:∀p∈pins',s.heap.get? p.1=some p.2/\H p.1=none/\p.1≠X.env.locals/\p.1∉X.fs/\∀v,p.2.data≠.cell v):Inv X pins' σ H s:=
 ⟨I.ok,I.os,I.bare,I.base,I.loc,I.cell,I.free,I.freeC,fun p hp=>(mem_append.mp hp).elim (fun z=>I.pin p (mem_append_left _ z)) (h p),I.hok,I.len⟩
theorem WA{N:List Str}(hN:N.Nodup){i j:Nat}{x:Str}(a:N[i]?=some x)(b:N[j]?=some x):i=j:=by
 obtain⟨h1,e1⟩:=List.getElem?_eq_some_iff.mp a;obtain⟨h2,e2⟩:=List.getElem?_eq_some_iff.mp b;exact(List.getElem_inj hN).mp (e1.trans e2.symm)
theorem KI{M:Model}{A:Around}{E:Value->Shared->Prop}{i:Nat}{x:Str}{v:V}{u:Value}{Q:Unit->Shared->Prop}(I:Inv X pins σ H s)(hN:X.N.Nodup)(hi:X.N[i]?=some x)(hx:Loc X.env.scope x)(r:RelV v u)
  (h:∀s',Inv X pins (σ.set i (some v)) H s'->(∃a,Heap.SameBut a s.heap s'.heap/\(a=X.env.locals\/X.env.cells.lookup x=some a))->Q () s') (hf:X.fn x=true\/X.env.scope.names.lookup x=some .local:=by first | exact .inl rfl | exact .inr rfl | assumption):wpAny M A (storeName X.env x u) Q E s:=by
 obtain⟨m,hn,hl⟩:=id I.loc;have hcls:(X.env.scope.kind == .class||(X.env.scope.kind == .module&&X.env.locals != X.env.globals))=false:=by rw[I.ok.kind];rfl
 have hiσ:i<σ.length:=by rw[I.len];exact(List.getElem?_eq_some_iff.mp hi).1
 have cne:=I.cne;have tracked:∀{a:Addr} {h':Heap},(∃o,s.heap.get? a=some o/\H a=none)->Heap.SameBut a s.heap h'->HOk X.prog X.w H h':=fun {a h'} ha hs b ob e=>by
  obtain⟨_,_,hfree⟩:=ha;refine(I.hok b ob e).stay (fun c w' hc q=>(hs.2 c ?_).trans q) (fun _ q=>q) fun _ _ q=>q
  rintro rfl;rcases hc with rfl | hc
  ·rw[hfree]at e;cases e
  ·rw[hfree]at hc;cases hc
 rcases hx with hk | hk
 ·refine wpAny_storeName_local hk hn (fun h' hn' hs=>?_) hcls;obtain⟨oL,_,_,hoL,_⟩:=id hn;refine h _ ⟨I.ok,I.os,I.bare,⟨fun b o e n hb hx=>?_,fun b o e n hb hx=>?_,I.base.free,fun b o e hx=>?_,I.base.tups,I.base.frzs,I.base.tbls⟩,⟨_,hn',fun j y v' e1 e2 e3=>?_⟩,fun y c e=>?_,I.free,I.freeC,fun p hp=>?_,tracked ⟨oL,hoL,I.free⟩ hs,by simpa using I.len⟩ ⟨_,hs,.inl rfl⟩
  ·exact(hs.2 b (Nat.ne_of_lt (Nat.lt_of_lt_of_le (Heap.lt_size e) I.ok.above))).trans (I.base.keep b o e n hb hx)
  ·obtain⟨sl,e1⟩:=I.base.slot b o e n hb hx;exact⟨sl,(hs.2 b (Nat.ne_of_lt (Nat.lt_of_lt_of_le (Heap.lt_size e) I.ok.above))).trans e1⟩
  ·obtain⟨o',e1⟩:=I.base.there b o e hx;exact⟨o',(hs.2 b (Nat.ne_of_lt (Nat.lt_of_lt_of_le (Heap.lt_size e) I.ok.above))).trans e1⟩
  ·by_cases hj:j=i
   ·subst hj;rw[hi]at e1;cases e1;rw[List.getElem?_set_self hiσ]at e2;cases e2;exact⟨u,r,.inl ⟨hk,by simp⟩⟩
   ·rw[List.getElem?_set_ne (Ne.symm hj)]at e2;obtain⟨u',r',q⟩:=hl j y v' e1 e2 e3;refine⟨u',r',?_⟩;rcases q with⟨k,e⟩ | ⟨k,c,e,z⟩
    ·refine .inl ⟨k,?_⟩;have:y≠x:=fun e=>hj (WA hN e1 (e▸hi))
     simp[this,e]
    ·exact .inr ⟨k,c,e,z.sameBut hs (cne y c e)⟩
  ·obtain⟨w',z⟩:=I.cell y c e;exact⟨w',z.sameBut hs (cne y c e)⟩
  ·obtain⟨e,n,ne,nf,d⟩:=I.pin p hp;exact⟨(hs.2 p.1 ne).trans e,n,ne,nf,d⟩
 ·have hfn:X.fn x=true:=by
   rcases hf with z | z
   ·exact z
   ·rw[z]at hk;cases hk
  obtain⟨c,hc⟩:=I.ok.has x (.inl hk);obtain⟨w',z⟩:=I.cell x c hc;refine wpAny_storeName_cell I.ok.kind hk hc z (fun h' hc' hs=>?_);obtain⟨oc,hoc,hocd⟩:=id z;refine h {s with heap:=h'} ⟨I.ok,I.os,I.bare,⟨fun b o e n hb hx=>?_,fun b o e n hb hx=>?_,I.base.free,fun b o e hx=>?_,I.base.tups,I.base.frzs,I.base.tbls⟩,⟨m,hn.sameBut hs (Ne.symm (cne x c hc)),fun j y v' e1 e2 e3=>?_⟩,fun y c' e=>?_,I.free,I.freeC,fun p hp=>?_,tracked ⟨oc,hoc,I.freeC x c hc⟩ hs,by simpa using I.len⟩ ⟨c,hs,.inr hc⟩
  ·exact(hs.2 b (Nat.ne_of_lt (Nat.lt_of_lt_of_le (Heap.lt_size e) (I.ok.cab x c hfn hc)))).trans (I.base.keep b o e n hb hx)
  ·obtain⟨sl,e1⟩:=I.base.slot b o e n hb hx;exact⟨sl,(hs.2 b (Nat.ne_of_lt (Nat.lt_of_lt_of_le (Heap.lt_size e) (I.ok.cab x c hfn hc)))).trans e1⟩
  ·obtain⟨o',e1⟩:=I.base.there b o e hx;exact⟨o',(hs.2 b (Nat.ne_of_lt (Nat.lt_of_lt_of_le (Heap.lt_size e) (I.ok.cab x c hfn hc)))).trans e1⟩
  ·by_cases hj:j=i
   ·subst hj;rw[hi]at e1;cases e1;rw[List.getElem?_set_self hiσ]at e2;cases e2;exact⟨u,r,.inr ⟨.inl hk,c,hc,hc'⟩⟩
   ·rw[List.getElem?_set_ne (Ne.symm hj)]at e2;obtain⟨u',r',q⟩:=hl j y v' e1 e2 e3;refine⟨u',r',?_⟩;rcases q with q | ⟨k,c',e,z'⟩
    ·exact .inl q
    ·refine .inr ⟨k,c',e,z'.sameBut hs ?_⟩;rintro rfl;exact hj (WA hN e1 (I.ok.inj _ _ _ e hc▸hi))
  ·by_cases hcc:c'=c
   ·subst hcc;exact⟨_,hc'⟩
   ·obtain⟨w2,z2⟩:=I.cell y c' e;exact⟨w2,z2.sameBut hs hcc⟩
  ·obtain⟨e,n,ne,nf,d⟩:=I.pin p hp;refine⟨(hs.2 p.1 ?_).trans e,n,ne,nf,d⟩;intro q;rw[q,hoc]at e;have q':oc=p.2:=Option.some.inj e;exact d w' (by rw[<-q'];exact hocd)
theorem kQ{M:Model}{A:Around}{E:Value->Shared->Prop}{i:Nat}{x:Str}{v:V}{u:Value}{Q:Unit->Shared->Prop}(I:Inv X pins σ H s)(hN:X.N.Nodup)(hi:X.N[i]?=some x)(hx:Loc X.env.scope x)(r:RelV v u)
  (h:∀s',Inv X pins (σ.set i (some v)) H s'->Q () s') (hf:X.fn x=true\/X.env.scope.names.lookup x=some .local:=by first | exact .inl rfl | exact .inr rfl | assumption):wpAny M A (storeName X.env x u) Q E s:=
 KI I hN hi hx r (fun s' I' _=>h s' I') hf
theorem Inv.call'{s':Shared}{ch:List Addr}(I:Inv X pins σ H s)(ho:s'.os=s.os)(u:Un (frs X.stack) ch H H' s.heap s'.heap)(hok:HOk X.prog X.w H' s'.heap)(hg:AllBare s'.gens)
  (hch:∀b∈ch,(b∈X.ex\/X.s₀.heap.objs.size<=b)/\b≠X.env.locals/\(∀x c,X.env.cells.lookup x=some c->c≠b)/\∀p∈X.pn++pins,p.1≠b):Inv X pins σ H' s':=by
 obtain⟨h',g',d',t',o'⟩:=s';have e:o'=s.os:=ho;subst e;exact I.call (g':=g') (t':=t') (d':=d') u hok hg hch
end
noncomputable abbrev XK:=Value->Option Addr->Hp->Prop
noncomputable abbrev St:=List (Option V)
noncomputable abbrev VK:=V->Hp->Prop
noncomputable abbrev TE:=St->Hp->VK->Prop
noncomputable abbrev TT:=St->Hp->(Bool->Hp->Prop)->Prop
noncomputable abbrev TA:=St->Hp->(List V->Hp->Prop)->Prop
structure Ends where
 nx:St->Hp->Prop
 rt:VK
 bk:St->Hp->Prop:=fun _ _=>False
 ct:St->Hp->Prop:=fun _ _=>False
noncomputable abbrev TS:=Ends->St->Hp->Prop
def EP(X:Cx)(pins:List (Addr×Obj))(σ:St)(Q:VK)(u:Value)(s':Shared):Prop:=∃v H',Inv X pins σ H' s'/\RelV v u/\Q v H'
def TP(X:Cx)(pins:List (Addr×Obj))(σ:St)(Q:Bool->Hp->Prop)(b:Bool)(s':Shared):Prop:=∃H',Inv X pins σ H' s'/\Q b H'
def AP(X:Cx)(pins:List (Addr×Obj))(σ:St)(Q:List V->Hp->Prop)(us:List Value)(s':Shared):Prop:=∃vs H',Inv X pins σ H' s'/\Vals vs us/\Q vs H'
def SP(X:Cx)(pins:List (Addr×Obj))(D:Ends)(f:Flow)(s':Shared):Prop:=
 match f with
 | .next=>∃σ' H',Inv X pins σ' H' s'/\D.nx σ' H'
 | .brk=>∃σ' H',Inv X pins σ' H' s'/\D.bk σ' H'
 | .cont=>∃σ' H',Inv X pins σ' H' s'/\D.ct σ' H'
 | .ret u=>∃v σ' H',Inv X pins σ' H' s'/\RelV v u/\D.rt v H'
def PE(X:Cx)(e:Expr)(t:TE):Prop:=
 ∀(pins:List (Addr×Obj)) (s:Shared) (σ:St) (H:Hp) (Q:VK),Inv X pins σ H s->t σ H Q->wpAny (model X.prog X.w) X.A (eval e X.env) (EP X pins σ Q) X.xe s
def PT(X:Cx)(e:Expr)(t:TT):Prop:=
 ∀(pins:List (Addr×Obj)) (s:Shared) (σ:St) (H:Hp) (Q:Bool->Hp->Prop),Inv X pins σ H s->t σ H Q->wpAny (model X.prog X.w) X.A (isTrue e X.env (eval e X.env)) (TP X pins σ Q) X.xe s
def PW(X:Cx)(e:Expr)(t:TT):Prop:=
 ∀(whole:Sem Value) (pins:List (Addr×Obj)) (s:Shared) (σ:St) (H:Hp) (Q:Bool->Hp->Prop),Inv X pins σ H s->t σ H Q->wpAny (model X.prog X.w) X.A (isTrue e X.env whole) (TP X pins σ Q) X.xe s
theorem PW.pt{X:Cx}{e:Expr}{t:TT}(h:PW X e t):PT X e t:=h _
def PA(X:Cx)(es:List Expr)(t:TA):Prop:=
 ∀(pos:Pos) (pins:List (Addr×Obj)) (s:Shared) (σ:St) (H:Hp) (Q:List V->Hp->Prop),Inv X pins σ H s->t σ H Q->wpAny (model X.prog X.w) X.A (spliced (backTo pos (starEach es X.env))) (AP X pins σ Q) X.xe s
def PS(X:Cx)(st:Stmt)(t:TS):Prop:=
 ∀(pins:List (Addr×Obj)) (s:Shared) (σ:St) (H:Hp) (D:Ends),Inv X pins σ H s->t D σ H->wpAny (model X.prog X.w) X.A (exec st X.env) (SP X pins D) X.xe s
def PSs(X:Cx)(st:List Stmt)(t:TS):Prop:=
 ∀(pins:List (Addr×Obj)) (s:Shared) (σ:St) (H:Hp) (D:Ends),Inv X pins σ H s->t D σ H->wpAny (model X.prog X.w) X.A (execs st X.env) (SP X pins D) X.xe s
theorem thn{α:Type}{t:Sem α}{Q Q':α->Shared->Prop}{M:Model}{A:Around}{E:Value->Shared->Prop}{s:Shared}(h:wpAny M A t Q E s)(hQ:∀a s,Q a s->Q' a s):wpAny M A t Q' E s:=wpAny_mono h hQ fun _ _ x=>x
section
variable{X:Cx}
def tVar(i:Nat):TE:=fun σ H Q=>∃v,σ[i]?=some (some v)/\Q v H
def tC(v:V):TE:=fun _ H Q=>Q v H
theorem j34{i:Nat}{x:Str}{pos:Pos}(hN:X.N[i]?=some x)(hv:Vis X.env.scope x)(hd:(x==("__debug__" : Str))=false:=by decide)(hcd:(x==("__classdict__" : Str))=false:=by decide):PE X (.Name x pos) (tVar i):=by
 intro pins s σ H Q I h;obtain⟨v,e,h⟩:=h;obtain⟨m,hn,hl⟩:=I.loc;obtain⟨u,r,l⟩:=hl i x v hN e hv;have fin:EP X pins σ Q u s:=⟨v,H,I,r,h⟩
 rcases l with⟨hk,hm⟩ | ⟨hk,c,hc,hcell⟩
 ·exact wpAny_Name (wpAny_loadName_local I.ok.kind hk hn hm fin) hd
 ·rcases hk with hk | hk
  ·exact wpAny_Name (wpAny_loadName_cell I.ok.kind hk hc hcell fin) hd
  ·exact wpAny_Name (wpAny_loadName_free I.ok.kind hk hc hcell fin hcd) hd
theorem jd{i j pos}:PE X (.Constant (.int i) j pos) (tC (.int i)):=fun _ _ _ H _ I h=>wpAny_Constant_int ⟨.int i,H,I.tok _,⟨_,rfl⟩,h⟩
theorem YT{b j pos}:PE X (.Constant (.bool b) j pos) (tC (.bl b)):=fun _ _ _ H _ I h=>Constant_bool ⟨.bl b,H,I,rfl,h⟩
theorem Yy{j pos}:PE X (.Constant .none j pos) (tC .non):=fun _ _ _ H _ I h=>Constant_none ⟨.non,H,I,rfl,h⟩
theorem jD{x j pos}:PE X (.Constant (.str x) j pos) (tC (.str x)):=fun _ _ _ H _ I h=>Calls.Constant_str ⟨.str x,H,I.tok _,⟨_,rfl⟩,h⟩
def Gl(X:Cx)(x:Str):Prop:=X.env.kindOf x=some .globalImplicit
theorem K4{E:Value->Shared->Prop}{pins:List (Addr×Obj)}{s:Shared}{σ:St}{H:Hp}{x:Str}{u:Value}{pos:Pos}{Q:Value->Shared->Prop}(I:Inv X pins σ H s)(hg:Gl X x)(hm:X.mg x=some u)(h:Q u s)
  (hd:(x==("__debug__" : Str))=false:=by decide):wpAny (model X.prog X.w) X.A (eval (.Name x pos) X.env) Q E s:=
 Calls.Name_function_global I.ok.kind hg (Calls.loadGlobal_global (by rw[I.ok.glob];exact I.mod.glob.keeps I.bk) hm h) hd
theorem Z9{E:Value->Shared->Prop}{pins:List (Addr×Obj)}{s:Shared}{σ:St}{H:Hp}{x:Str}{u:Value}{pos:Pos}{Q:Value->Shared->Prop}(I:Inv X pins σ H s)(hg:Gl X x)(hm:X.mg x=none)(hv:bootBuiltins x=some u)(h:Q u s)
  (hn:x≠"__name__":=by decide) (hd:(x==("__debug__" : Str))=false:=by decide):wpAny (model X.prog X.w) X.A (eval (.Name x pos) X.env) Q E s:=by
 obtain⟨mb,h1,h2⟩:=I.mod.blt;exact Calls.Name_function_global I.ok.kind hg (Calls.loadGlobal_builtin (by rw[I.ok.glob];exact I.mod.glob.keeps I.bk) hm (by rw[I.ok.blt];exact h1.keeps I.bk) ((h2 x hn).trans hv) h) hd
theorem j2n{x:Str}{v:V}{u:Value}{pos:Pos}(hg:Gl X x)(hm:X.mg x=some u)(r:RelV v u)(hd:(x==("__debug__" : Str))=false:=by decide):PE X (.Name x pos) (tC v):=
 fun _ _ _ H _ I h=>K4 I hg hm ⟨v,H,I,r,h⟩ hd
theorem Xy{x:Str}{v:V}{u:Value}{pos:Pos}(hg:Gl X x)(hm:X.mg x=none)(hv:bootBuiltins x=some u)(r:RelV v u)(hn:x≠"__name__":=by decide)(hd:(x==("__debug__" : Str))=false:=by decide):PE X (.Name x pos) (tC v):=
 fun _ _ _ H _ I h=>Z9 I hg hm hv ⟨v,H,I,r,h⟩ hn hd
variable{a b:Expr}{ta tb:TE}{pos:Pos}
def tB(t:TE):TT:=fun σ H Q=>t σ H fun x H1=>∃c,x = .bl c/\Q c H1
theorem xL{e:Expr}{t:TE}(h:PE X e t)(he:∀whole,isTrue e X.env whole=(do let v <-whole;standAt e.pos;holding [v] (truthy v)):=by intro _;rfl):PT X e (tB t):=by
 intro pins s σ H Q I hw;refine isTrue_plain (thn (h pins s σ H _ I hw) fun v s1 ⟨x,H1,I1,r1,q1⟩=>?_) (he _);obtain⟨d,rfl,q⟩:=q1;cases r1;exact wpAny_truthy_bool ⟨H1,I1,q⟩
variable{tA tB':TT}{rest:List Expr}
def tAnd(t u:TT):TT:=fun σ H Q=>t σ H fun c H1=>if c=true then u σ H1 Q else Q false H1
def tOr(t u:TT):TT:=fun σ H Q=>t σ H fun c H1=>if c=true then Q true H1 else u σ H1 Q
def tNot(t:TT):TT:=fun σ H Q=>t σ H fun c H1=>Q (!c) H1
theorem qD(ha:PT X a tA):PW X (.BoolOp .And [a] pos) tA:=by
 intro wh pins s σ H Q I h;refine isTrue_and (thn (ha pins s σ H Q I h) fun c s1 e=>?_);cases c with
 | true=>exact isTrue_and_nil e
 | false=>exact e
theorem xM(ha:PT X a tA):PW X (.BoolOp .Or [a] pos) tA:=by
 intro wh pins s σ H Q I h;refine isTrue_or (thn (ha pins s σ H Q I h) fun c s1 e=>?_);cases c with
 | false=>exact isTrue_or_nil e
 | true=>exact e
theorem Qk(ha:PT X a tA)(hb:PW X (.BoolOp .And (b::rest) pos) tB'):PW X (.BoolOp .And (a::b::rest) pos) (tAnd tA tB'):=by
 intro wh pins s σ H Q I h;refine isTrue_and (thn (ha pins s σ H _ I h) fun c s1 ⟨H1,I1,q1⟩=>?_);cases c with
 | true=>exact hb wh pins s1 σ H1 Q I1 q1
 | false=>exact⟨H1,I1,q1⟩
theorem XE(ha:PT X a tA)(hb:PW X (.BoolOp .Or (b::rest) pos) tB'):PW X (.BoolOp .Or (a::b::rest) pos) (tOr tA tB'):=by
 intro wh pins s σ H Q I h;refine isTrue_or (thn (ha pins s σ H _ I h) fun c s1 ⟨H1,I1,q1⟩=>?_);cases c with
 | true=>exact⟨H1,I1,q1⟩
 | false=>exact hb wh pins s1 σ H1 Q I1 q1
theorem yg(ha:PT X a tA):PT X (.UnaryOp .Not a pos) (tNot tA):=by
 intro pins s σ H Q I h;exact isTrue_not (ha pins s σ H (fun c H1=>Q (!c) H1) I h)
def tAndV(ta tb:TE):TE:=fun σ H Q=>ta σ H fun x H1=>∃c,x = .bl c/\if c=true then tb σ H1 Q else Q (.bl false) H1
def tNotV(ta:TE):TE:=fun σ H Q=>ta σ H fun x H1=>∃c,x = .bl c/\Q (.bl (!c)) H1
theorem j32{op}{t:TE}(h:PE X a t):PE X (.BoolOp op [a] pos) t:=fun pins s σ H Q I hw=>BoolOp_one (h pins s σ H Q I hw)
theorem j30(ha:PE X a ta)(hb:PE X (.BoolOp .And (b::rest) pos) tb):PE X (.BoolOp .And (a::b::rest) pos) (tAndV ta tb):=by
 intro pins s σ H Q I h;refine BoolOp_and (thn (ha pins s σ H _ I h) fun v s1 ⟨x,H1,I1,r1,q1⟩=>?_);obtain⟨c,rfl,q1⟩:=q1;cases r1;refine wpAny_truthy_bool ?_;cases c with
 | true=>exact hb pins s1 σ H1 Q I1 q1
 | false=>exact⟨.bl false,H1,I1,rfl,q1⟩
theorem j31(ha:PE X a ta):PE X (.UnaryOp .Not a pos) (tNotV ta):=by
 intro pins s σ H Q I h;refine UnaryOp_ (thn (ha pins s σ H _ I h) fun v s1 ⟨x,H1,I1,r1,q1⟩=>?_);obtain⟨c,rfl,q1⟩:=q1;cases r1;exact not_of (wpAny_truthy_bool ⟨.bl (!c),H1,I1,rfl,q1⟩)
def tIf(t:TT)(ta tb:TE):TE:=fun σ H Q=>t σ H fun c H1=>if c=true then ta σ H1 Q else tb σ H1 Q
theorem yT{c:Expr}(hc:PT X c tA)(ha:PE X a ta)(hb:PE X b tb):PE X (.IfExp c a b pos) (tIf tA ta tb):=by
 intro pins s σ H Q I h;refine wpAny_IfExp (thn (hc pins s σ H _ I h) fun d s1 ⟨H1,I1,q1⟩=>?_);cases d with
 | true=>exact ha pins s1 σ H1 Q I1 q1
 | false=>exact hb pins s1 σ H1 Q I1 q1
end
def SqL(K:Frg)(H:Hp)(a:Addr)(xs:List V):Prop:=
 Rd H a (.lst xs)\/
  ∃(o:Obj) (its:Array Value) (n:Nat),K.lookup a=some o/\o.cls = .type "list"/\o.dict=none/\o.data = .seq its n/\its.size<=sizeLine/\Vals xs its.toList
def SqT(K:Frg)(H:Hp)(a:Addr)(xs:List V):Prop:=
 Rd H a (.tup xs)\/
  ∃(o:Obj) (its:Array Value) (n:Nat),K.lookup a=some o/\o.cls = .type "tuple"/\o.data = .seq its n/\its.size<=sizeLine/\Vals xs its.toList
noncomputable def absV:Value->Option V
 | .none=>some .non
 | .bool b=>some (.bl b)
 | .int i _=>some (.int i)
 | .str x _=>some (.str x)
 | .bytes b _=>some (.byt b)
 | .float b _=>some (.flt b)
 | .ref a=>some (.ref a)
 | .type n=>some (.ty n)
 | _=>none
theorem RelV.abs{x:V}{u:Value}(r:RelV x u):absV u=some x:=by
 cases x with
 | non=>cases r;rfl
 | bl _=>cases r;rfl
 | int _=>obtain⟨t,rfl⟩:=r;rfl
 | str _=>obtain⟨t,rfl⟩:=r;rfl
 | byt _=>obtain⟨t,rfl⟩:=r;rfl
 | flt _=>obtain⟨t,rfl⟩:=r;rfl
 | ref _=>cases r;rfl
 | ty _=>cases r;rfl
theorem RelV.inj{x y:V}{u:Value}(r:RelV x u)(q:RelV y u):x=y:=Option.some.inj (r.abs.symm.trans q.abs)
theorem Vals.inj:∀{xs ys:List V} {us:List Value},Vals xs us->Vals ys us->xs=ys
 | _,_,_,.nil,.nil=>rfl
 | _,_,_,.cons r t,.cons r' t'=>by rw[r.inj r',Vals.inj t t']
section
variable{X:Cx}{pins:List (Addr×Obj)}{σ:St}{H:Hp}{s:Shared}{a:Addr}{xs ys:List V}
theorem SqL.of{K:Frg}(h:H a=some (.lst xs)):SqL K H a xs:=.inl (.inl h)
theorem SqT.of{K:Frg}(h:H a=some (.tup xs)):SqT K H a xs:=.inl (.inl h)
theorem Inv.list(I:Inv X pins σ H s)(h:SqL X.K H a xs):∃its:List Value,Vals xs its/\PlainL s.heap a its.toArray/\xs.length<=sizeLine:=by
 rcases h with h | ⟨o,its,n,hk,hc,hd,hs,hz,r⟩
 ·obtain⟨z,its,n,r,e⟩:=h.ok I.hok;exact⟨its,r,⟨_,n,e,rfl,rfl,rfl⟩,z⟩
 ·refine⟨its.toList,r,⟨o,n,I.kIn a o hk,hc,hd,by simpa using hs⟩,?_⟩;have e:=r.length;simp only[Array.length_toList]at e;omega
theorem Inv.tuple(I:Inv X pins σ H s)(h:SqT X.K H a xs):∃its:List Value,Vals xs its/\IsTup s.heap a its.toArray/\xs.length<=sizeLine:=by
 rcases h with h | ⟨o,its,n,hk,hc,hs,hz,r⟩
 ·obtain⟨z,its,r,p⟩:=h.ok I.hok;exact⟨its,r,p,z⟩
 ·refine⟨its.toList,r,⟨o,I.kIn a o hk,hc,n,by simpa using hs⟩,?_⟩;have e:=r.length;simp only[Array.length_toList]at e;omega
theorem Inv.list_inj(I:Inv X pins σ H s)(h:SqL X.K H a xs)(h':SqL X.K H a ys):xs=ys:=by
 obtain⟨its,r,⟨o,n,e,_,_,d⟩,_⟩:=I.list h;obtain⟨its',r',⟨o',n',e',_,_,d'⟩,_⟩:=I.list h';rw[e]at e';cases e';rw[d]at d';injection d' with d1 _;have:its=its':=by simpa using congrArg Array.toList d1
 subst this;exact r.inj r'
theorem Inv.tuple_inj(I:Inv X pins σ H s)(h:SqT X.K H a xs)(h':SqT X.K H a ys):xs=ys:=by
 obtain⟨its,r,⟨o,e,_,n,d⟩,_⟩:=I.tuple h;obtain⟨its',r',⟨o',e',_,n',d'⟩,_⟩:=I.tuple h';rw[e]at e';cases e';rw[d]at d';injection d' with d1 _;have:its=its':=by simpa using congrArg Array.toList d1
 subst this;exact r.inj r'
end
noncomputable abbrev Cx.wish(X:Cx)(E:Value->Shared->Prop):Cx:={X with xe:=E}
noncomputable abbrev Cx.nox(X:Cx):Cx:=X.wish fun _ _=>False
theorem Cx.Ok.wish{X:Cx}(ok:X.Ok)(E:Value->Shared->Prop):(X.wish E).Ok:=
 ⟨ok.mod,ok.kind,ok.glob,ok.blt,ok.above,ok.inj,ok.has,ok.cab,ok.hd,ok.frames,ok.stk,ok.exf,ok.bs,ok.bsz,ok.noex,ok.exfs,ok.funs,ok.frf⟩
theorem Cx.Ok.unwish{X:Cx}{E:Value->Shared->Prop}(ok:(X.wish E).Ok):X.Ok:=
 ⟨ok.mod,ok.kind,ok.glob,ok.blt,ok.above,ok.inj,ok.has,ok.cab,ok.hd,ok.frames,ok.stk,ok.exf,ok.bs,ok.bsz,ok.noex,ok.exfs,ok.funs,ok.frf⟩
section
variable{X:Cx}{pins:List (Addr×Obj)}{σ:St}{H:Hp}{s:Shared}{E:Value->Shared->Prop}
theorem Inv.wish(I:Inv X pins σ H s)(E:Value->Shared->Prop):Inv (X.wish E) pins σ H s:=⟨I.ok.wish E,I.os,I.bare,I.base,I.loc,I.cell,I.free,I.freeC,I.pin,I.hok,I.len⟩
theorem Inv.unwish(I:Inv (X.wish E) pins σ H s):Inv X pins σ H s:=⟨I.ok.unwish,I.os,I.bare,I.base,I.loc,I.cell,I.free,I.freeC,I.pin,I.hok,I.len⟩
theorem SP.unwish{D:Ends}{f:Flow}{s':Shared}(h:SP (X.wish E) pins D f s'):SP X pins D f s':=by
 cases f with
 | next=>obtain⟨σ',H',I,q⟩:=h;exact⟨σ',H',I.unwish,q⟩
 | brk=>obtain⟨σ',H',I,q⟩:=h;exact⟨σ',H',I.unwish,q⟩
 | cont=>obtain⟨σ',H',I,q⟩:=h;exact⟨σ',H',I.unwish,q⟩
 | ret u=>obtain⟨v,σ',H',I,r,q⟩:=h;exact⟨v,σ',H',I.unwish,r,q⟩
theorem PSs.nox{st:List Stmt}{t:TS}(h:PSs X.nox st t):PSs X st t:=fun pins s σ H D I hw=>
 wpAny_mono (h pins s σ H D (I.wish _) hw) (fun _ _ q=>q.unwish) fun _ _ z=>False.elim z
end
section
variable{X:Cx}{st:Stmt}{rest:List Stmt}{t u:TS}{e:Expr}{te:TE}{pos:Pos}
def tNext:TS:=fun D σ H=>D.nx σ H
def tSeq(t u:TS):TS:=fun D σ H=>t {D with nx:=u D} σ H
theorem jt:PSs X [] tNext:=fun _ _ σ H _ I h=>wpAny_execs_nil ⟨σ,H,I,h⟩
theorem jb(h1:PS X st t)(h2:PSs X rest u):PSs X (st::rest) (tSeq t u):=by
 intro pins s σ H D I h;refine wpAny_execs_cons (thn (h1 pins s σ H {D with nx:=u D} I h) fun f s1 q=>?_);cases f with
 | next=>
  obtain⟨σ',H',I',q⟩:=q;exact h2 pins s1 σ' H' D I' q
 | ret v=>exact q
 | brk=>exact q
 | cont=>exact q
theorem jf(h1:PS X st t):PSs X [st] t:=by
 intro pins s σ H D I h;refine wpAny_execs_cons (thn (h1 pins s σ H D I h) fun f s1 q=>?_);cases f with
 | next=>exact wpAny_execs_nil q
 | ret v=>exact q
 | brk=>exact q
 | cont=>exact q
theorem Inv.quiet{pins:List (Addr×Obj)}{σ:St}{H:Hp}{s:Shared}(I:Inv X pins σ H s):interactive X.env=false:=by simp[interactive,I.ok.kind]
def tDrop(te:TE):TS:=fun D σ H=>te σ H fun _ H1=>D.nx σ H1
theorem jU(he:PE X e te)(hs:swapsWith e none pos.line X.env=pure false:=by rfl):PS X (.Expr e pos) (tDrop te):=by
 intro pins s σ H D I h;exact wpAny_Expr_any (thn (he pins s σ H _ I h) fun v s1 ⟨x,H1,I1,r1,q1⟩=>⟨σ,H1,I1,q1⟩) I.quiet hs
def tRet(te:TE):TS:=fun D σ H=>te σ H D.rt
theorem jv(he:PE X e te):PS X (.Return (some e) pos) (tRet te):=by
 intro pins s σ H D I h;exact wpAny_Return_some (thn (he pins s σ H _ I h) fun v s1 ⟨x,H1,I1,r1,q1⟩=>⟨x,σ,H1,I1,r1,q1⟩)
def tIfS(c:TT)(t u:TS):TS:=fun D σ H=>c σ H fun b H1=>if b=true then t D σ H1 else u D σ H1
theorem jT{c:Expr}{a b:List Stmt}{tc:TT}(hc:PT X c tc)(ha:PSs X a t)(hb:PSs X b u):PS X (.If c a b pos) (tIfS tc t u):=by
 intro pins s σ H D I h;refine wpAny_If (thn (hc pins s σ H _ I h) fun d s1 ⟨H1,I1,q1⟩=>?_);cases d with
 | true=>exact ha pins s1 σ H1 D I1 q1
 | false=>exact hb pins s1 σ H1 D I1 q1
def tNever:TS:=fun _ _ _=>False
theorem ZG:PS X st tNever:=fun _ _ _ _ _ _ h=>h.elim
end
noncomputable abbrev TG:=V->St->Hp->(St->Hp->Prop)->Prop
noncomputable abbrev TGs:=List V->St->Hp->(St->Hp->Prop)->Prop
def PG(X:Cx)(target:Expr)(t:TG):Prop:=
 ∀(pins:List (Addr×Obj)) (s:Shared) (σ:St) (H:Hp) (v:V) (u:Value) (Q:St->Hp->Prop),Inv X pins σ H s->RelV v u->t v σ H Q->
  wpAny (model X.prog X.w) X.A (assign target X.env u) (fun _ s'=>∃σ' H',Inv X pins σ' H' s'/\Q σ' H') X.xe s
def PGs(X:Cx)(ts:List Expr)(t:TGs):Prop:=
 ∀(pins:List (Addr×Obj)) (s:Shared) (σ:St) (H:Hp) (vs:List V) (us:List Value) (Q:St->Hp->Prop),Inv X pins σ H s->Vals vs us->t vs σ H Q->
  wpAny (model X.prog X.w) X.A (assignInOrder ((assignEach ts X.env).map (·.2)) us) (fun _ s'=>∃σ' H',Inv X pins σ' H' s'/\Q σ' H') X.xe s
noncomputable abbrev TSet:=V->V->V->Hp->(Hp->Prop)->Prop
def PSet(X:Cx)(t:TSet):Prop:=
 ∀(pins:List (Addr×Obj)) (s:Shared) (σ:St) (H:Hp) (o i v:V) (ov iv u:Value) (Q:Hp->Prop),Inv X pins σ H s->RelV o ov->RelV i iv->RelV v u->t o i v H Q->
  wpAny (model X.prog X.w) X.A (setItem ov iv u) (fun _ s'=>∃H',Inv X pins σ H' s'/\Q H') X.xe s
noncomputable abbrev TIp:=V->V->Hp->VK->Prop
def PIp(X:Cx)(op:Operator)(t:TIp):Prop:=
 ∀(pins:List (Addr×Obj)) (s:Shared) (σ:St) (H:Hp) (x y:V) (v u:Value) (Q:VK),Inv X pins σ H s->RelV x v->RelV y u->t x y H Q->
  wpAny (model X.prog X.w) X.A (inplaceOp op v u) (EP X pins σ Q) X.xe s
section
variable{X:Cx}{pos:Pos}
def gName(i:Nat):TG:=fun v σ H Q=>Q (σ.set i (some v)) H
theorem jr{i:Nat}{x:Str}(hN:X.N.Nodup)(hi:X.N[i]?=some x)(hx:Loc X.env.scope x)(hf:X.fn x=true\/X.env.scope.names.lookup x=some .local:=by first | exact .inl rfl | exact .inr rfl | assumption):PG X (.Name x pos) (gName i):=by
 intro pins s σ H v u Q I r h;exact wpAny_assign_Name (kQ I hN hi hx r (fun s' I'=>⟨_,H,I',h⟩) hf)
def gNil:TGs:=fun vs σ H Q=>vs=[]/\Q σ H
def gCons(t:TG)(u:TGs):TGs:=fun vs σ H Q=>∃v r,vs=v::r/\t v σ H fun σ' H'=>u r σ' H' Q
theorem JD:PGs X [] gNil:=by
 intro pins s σ H vs us Q I r h;obtain⟨e,h⟩:=h;subst e;cases r;exact assignInOrder_nil ⟨σ,H,I,h⟩
theorem jy{e:Expr}{es:List Expr}{t:TG}{u:TGs}(h1:PG X e t)(h2:PGs X es u)
  (hs:(assignEach (e::es) X.env).map (·.2)=assign e X.env::(assignEach es X.env).map (·.2):=by rfl):PGs X (e::es) (gCons t u):=by
 intro pins s σ H vs us Q I r h;obtain⟨v,vr,e1,h⟩:=h;subst e1;cases r with
 | cons r rr=>
  rw[hs];refine assignInOrder_cons (thn (h1 pins s σ H _ _ _ I r h) fun _ s1 ⟨σ1,H1,I1,q1⟩=>?_);exact h2 pins s1 σ1 H1 _ _ Q I1 rr q1
def gTup(K:Frg)(n:Nat)(t:TGs):TG:=fun v σ H Q=>∃a xs,v = .ref a/\SqT K H a xs/\xs.length=n/\t xs σ H Q
theorem qg{es:List Expr}{k:Nat}{t:TGs}{n:Nat}(hc:X.calm=true)(h:PGs X es t)
  (hn:(assignEach es X.env).length=n:=by rfl) (hst:(assignEach es X.env).findIdx? (·.1)=none:=by rfl):PG X (.Tuple es k pos) (gTup X.K n t):=by
 intro pins s σ H v u Q I r hw;obtain⟨a,xs,e1,hq,hl,hw⟩:=hw;subst e1;cases r;obtain⟨its,rv,ht,hz⟩:=I.tuple hq;refine assign_Tuple_tuple (I.ok.hd hc) ht (by simp[hn,<-hl,rv.length]) hst fun h' hx=>?_
 have I1:Inv X pins σ H {s with heap:=h'}:=I.kept (t':=s.toks) fun b o e=>hx b o (Nat.ne_of_lt (Heap.lt_size e)) e
 exact h pins _ σ H xs _ Q I1 (by simpa using rv) hw
def gSub(to ti:TE)(t:TSet):TG:=fun v σ H Q=>to σ H fun o H1=>ti σ H1 fun i H2=>t o i v H2 fun H3=>Q σ H3
theorem kI{o i:Expr}{to ti:TE}{t:TSet}(ho:PE X o to)(hi:PE X i ti)(hs:PSet X t)
  (ha:∀v,assign (.Subscript o i pos) X.env v=(do
   let ov <-holding [v] (eval o X.env)
   let iv <-holding [v,ov] (eval i X.env)
   standAt pos
   holding [v,ov,iv] (setItem ov iv v)
   release [v,ov,iv] []):=by intro _;rfl):PG X (.Subscript o i pos) (gSub to ti t):=by
 intro pins s σ H v u Q I r h;rw[ha];refine wpAny_bind (wpAny_holding (thn (ho pins s σ H _ I h) fun ov s1 ⟨x,H1,I1,r1,q1⟩=>?_));refine wpAny_bind (wpAny_holding (thn (hi pins s1 σ H1 _ I1 q1) fun iv s2 ⟨y,H2,I2,r2,q2⟩=>?_));refine wpAny_bind (wpAny_standAt (wpAny_bind (wpAny_holding (thn (hs pins s2 σ H2 x y v ov iv u _ I2 r1 r2 r q2) fun _ s3 ⟨H3,I3,q3⟩=>?_))));exact wpAny_release ⟨σ,H3,I3,q3⟩
def tAsg(te:TE)(g:TG):TS:=fun D σ H=>te σ H fun x H1=>g x σ H1 D.nx
theorem Yz{tg e:Expr}{te:TE}{g:TG}(he:PE X e te)(hg:PG X tg g)(hs:swapsWithSole [tg] e pos.line X.env=pure false:=by rfl)(hw:swappedStores [tg] e X.env=pure none:=by rfl)
  (h1:(assignEach [tg] X.env).map (·.2)=[assign tg X.env]:=by rfl):PS X (.Assign [tg] e pos) (tAsg te g):=by
 intro pins s σ H D I h;refine wpAny_Assign_stores (thn (he pins s σ H _ I h) fun v s1 ⟨x,H1,I1,r1,q1⟩=>?_) hs hw;rw[h1];exact thn (hg pins s1 σ H1 x v _ I1 r1 q1) fun _ s2 q=>q
theorem jp{i:Nat}{x:Str}{e:Expr}{te:TE}{pos':Pos}(hN:X.N.Nodup)(hi:X.N[i]?=some x)(hx:Loc X.env.scope x)(he:PE X e te)(hs:swapsWith e (some (.Name x pos')) pos.line X.env=pure false:=by rfl)(hf:X.fn x=true\/X.env.scope.names.lookup x=some .local:=by first | exact .inl rfl | exact .inr rfl | assumption) :
  PS X (.Assign [.Name x pos'] e pos) (tAsg te (gName i)):=by
 intro pins s σ H D I h;refine wpAny_Assign_Name (thn (he pins s σ H _ I h) fun v s1 ⟨y,H1,I1,r1,q1⟩=>?_) hs;exact kQ I1 hN hi hx r1 (fun s2 I2=>⟨_,H1,I2,q1⟩) hf
def tAug(i:Nat)(te:TE)(ti:TIp):TS:=fun D σ H=>∃x,σ[i]?=some (some x)/\te σ H fun y H1=>ti x y H1 fun z H2=>D.nx (σ.set i (some z)) H2
theorem xJ{i:Nat}{x:Str}{e:Expr}{te:TE}{op:Operator}{ti:TIp}{pos':Pos}(hN:X.N.Nodup)(hi:X.N[i]?=some x)(hx:Loc X.env.scope x)(he:PE X e te)(ho:PIp X op ti)(hf:X.fn x=true\/X.env.scope.names.lookup x=some .local:=by first | exact .inl rfl | exact .inr rfl | assumption) :
  PS X (.AugAssign (.Name x pos') op e pos) (tAug i te ti):=by
 intro pins s σ H D I h;obtain⟨v,e1,h⟩:=h;obtain⟨m,hn,hl⟩:=I.loc;have vis:Vis X.env.scope x:=by rcases hx with k | k;exact .inl k;exact .inr (.inl k)
 obtain⟨u,r,l⟩:=hl i x v hi e1 vis;refine wpAny_AugAssign_Name ?_;have go:wpAny (model X.prog X.w) X.A (eval e X.env) (fun w s₂=>wpAny (model X.prog X.w) X.A (inplaceOp op u w) (fun r s₃=>wpAny (model X.prog X.w) X.A (storeName X.env x r) (fun _=>SP X pins D .next) X.xe s₃) X.xe s₂) X.xe s:=by
  refine thn (he pins s σ H _ I h) fun w s1 ⟨y,H1,I1,r1,q1⟩=>?_
  refine thn (ho pins s1 σ H1 v y u w _ I1 r r1 q1) fun z s2 ⟨zv,H2,I2,r2,q2⟩=>?_
  exact kQ I2 hN hi hx r2 (fun s3 I3=>⟨_,H2,I3,q2⟩) hf
 rcases l with⟨hk,hm⟩ | ⟨hk,c,hc,hcell⟩
 ·exact wpAny_loadName_local I.ok.kind hk hn hm go
 ·rcases hk with hk | hk
  ·exact wpAny_loadName_cell I.ok.kind hk hc hcell go
  ·rcases hx with k | k
   ·have:X.env.scope.names.lookup x=some .free:=hk;rw[k]at this;cases this
   ·have:X.env.scope.names.lookup x=some .free:=hk;rw[k]at this;cases this
noncomputable def ipI(f:Int->Int->Int):TIp:=fun x y H Q=>∃i j,x = .int i/\y = .int j/\Q (.int (f i j)) H
theorem xm:PIp X .Add (ipI fun i j=>i+j):=by
 intro pins s σ H x y v u Q I r1 r2 h;obtain⟨i,j,e1,e2,q⟩:=h;subst e1;subst e2;obtain⟨t,rfl⟩:=r1;obtain⟨t',rfl⟩:=r2;exact iadd_int ⟨.int _,H,I.tok _,⟨_,rfl⟩,q⟩
end
section
variable{X:Cx}{pos:Pos}
def tWhile(c:TT)(tb:TS):TS:=fun D σ H=>∃W:Nat->St->Hp->Prop,(∃m,W m σ H)/\∀m σ H,W m σ H->
 c σ H fun b H1=>if b=true then∃N:St->Hp->Prop,(∀σ' H',N σ' H'->∃m',m'<m/\W m' σ' H')/\tb {D with nx:=N,ct:=N,bk:=D.nx} σ H1 else D.nx σ H1
theorem kK{c:Expr}{body:List Stmt}{tc:TT}{tb:TS}(hp:PassesOwn (model X.prog X.w) X.A X.env X.xe)(hc:PT X c tc)(hb:PSs X body tb):PS X (.While c body [] pos) (tWhile tc tb):=by
 intro pins s σ H D I h;obtain⟨W,⟨m0,w0⟩,turn⟩:=h;refine wpAny_While (codeAny_whileLoop (fun n s'=>∃σ' H',Inv X pins σ' H' s'/\W n σ' H') ?_ m0 ⟨σ,H,I,w0⟩);rintro n s1 ⟨σ1,H1,I1,w1⟩;refine wpAny_passesOwn hp (thn (hc pins s1 σ1 H1 _ I1 (turn n σ1 H1 w1)) fun b s2 ⟨H2,I2,q2⟩=>?_);cases b with
 | true=>
  obtain⟨N,hN,q2⟩:=q2;rw[if_pos rfl];refine wpAny_passesOwn hp (thn (hb pins s2 σ1 H2 _ I2 q2) fun f s3 q3=>?_);cases f with
  | next=>
   obtain⟨σ3,H3,I3,n3⟩:=q3;obtain⟨m',hm,w3⟩:=hN σ3 H3 n3;exact⟨m',hm,σ3,H3,I3,w3⟩
  | cont=>
   obtain⟨σ3,H3,I3,n3⟩:=q3;obtain⟨m',hm,w3⟩:=hN σ3 H3 n3;exact⟨m',hm,σ3,H3,I3,w3⟩
  | brk=>exact q3
  | ret v=>exact q3
 | false=>
  rw[if_neg Bool.false_ne_true];exact wpAny_execs_nil ⟨σ1,H2,I2,q2⟩
end
structure It where
 go:Nat->Hp->Prop
 yld:Nat->Hp->V->Hp->Prop
 stop:Nat->Hp->Prop
def FpOk(X:Cx)(pins:List (Addr×Obj))(H:Hp)(b:Addr):Prop:=
 H b=none/\b≠X.env.locals/\b∉X.fs/\(b∈X.ex\/X.s₀.heap.objs.size<=b)/\(∀x c,X.env.cells.lookup x=some c->c≠b)/\∀p∈X.pn++pins,p.1≠b
theorem Inv.fpOk{X:Cx}{pins:List (Addr×Obj)}{σ:St}{H H':Hp}{s:Shared}{b:Addr}(I:Inv X pins σ H s)(hb:s.heap.objs.size<=b)(hn:H' b=none):FpOk X pins H' b:=by
 refine⟨hn,Nat.ne_of_gt (Nat.lt_of_lt_of_le I.lt hb),I.nofs hb,.inr (Nat.le_trans I.sz hb),fun x c e z=>?_,fun p hp z=>?_⟩
 ·obtain⟨v,q⟩:=I.cell x c e;exact absurd (Nat.lt_of_lt_of_le q.lt (by rw[z];exact hb)) (Nat.lt_irrefl _)
 ·exact absurd (Nat.lt_of_lt_of_le (Heap.lt_size (I.pin p hp).1) (by rw[z];exact hb)) (Nat.lt_irrefl _)
structure Turn(P:Program)(w:World)(K:Frg)(tg:Expr)(J:It)(fp:List Addr)(it:Addr)(tn:Nat->Heap->Prop):Prop where
 mem:it∈fp
 obj:∀i h,tn i h->∀b∈fp,∃o,h.get? b=some o/\∀v,o.data≠.cell v
 keep:∀i h h',tn i h->(∀b∈fp,∀o,h.get? b=some o->h'.get? b=some o)->tn i h'
 item:∀(X:Cx),X.prog=P->X.w=w->X.K=K->X.calm=true->∀(i:Nat) (pins:List (Addr×Obj)) (s:Shared) (σ:St) (H:Hp) (E:Value->Shared->Prop),Inv X pins σ H s->(∀b∈fp,FpOk X pins H b)->tn i s.heap->J.go i H->
  wpAny (model P w) X.A (pyNext (.ref it)) (fun r s1=>∃u,r=some u/\
   wpAny (model P w) X.A (letOwnedTupleGo tg (.ref it) u) (fun _ s2=>∃x H',Inv X pins σ H' s2/\RelV x u/\J.yld i H x H'/\tn (i+1) s2.heap/\∀b∈fp,H' b=none) E s1) E s
 done:∀(X:Cx),X.prog=P->X.w=w->X.K=K->X.calm=true->∀(i:Nat) (pins:List (Addr×Obj)) (s:Shared) (σ:St) (H:Hp) (E:Value->Shared->Prop),Inv X pins σ H s->(∀b∈fp,FpOk X pins H b)->tn i s.heap->J.stop i H->
  wpAny (model P w) X.A (pyNext (.ref it)) (fun r s1=>r=none/\Inv X pins σ H s1) E s
 self:∀(A:Around) (i:Nat) (s:Shared) (Q:Value->Shared->Prop) (E:Value->Shared->Prop),tn i s.heap->Q (.ref it) s->wpAny (model P w) A (pyIter (.ref it)) Q E s
noncomputable abbrev TI:=St->Hp->(It->Hp->Prop)->Prop
def PIE(X:Cx)(pins:List (Addr×Obj))(σ:St)(tg:Expr)(R:It->Hp->Prop)(itv:Value)(s2:Shared):Prop:=
 ∃(it:Addr) (fp:List Addr) (tn:Nat->Heap->Prop) (J:It) (H':Hp),itv = .ref it/\Inv X pins σ H' s2/\Turn X.prog X.w X.K tg J fp it tn/\tn 0 s2.heap/\(∀b∈fp,FpOk X pins H' b)/\R J H'
def PI(X:Cx)(tg iter:Expr)(wi:TI):Prop:=
 ∀(pins:List (Addr×Obj)) (s:Shared) (σ:St) (H:Hp) (R:It->Hp->Prop),Inv X pins σ H s->wi σ H R->
  wpAny (model X.prog X.w) X.A (eval iter X.env) (fun v s1=>wpAny (model X.prog X.w) X.A (pyIter v) (PIE X pins σ tg R) X.xe s1) X.xe s
theorem Xn{M:Model}{A:Around}{E:Value->Shared->Prop}{s:Shared}{tg:Expr}{it:Addr}{u:Value}{o:Obj}{n:String}{vs:Array Value}{Q:Unit->Shared->Prop}(ho:s.heap.get? it=some o)(hc:o.cls = .type n)(hd:o.data = .fields vs)
    (hn:["enumerate","zip","dict_itemiterator","dict_reverseitemiterator","odict_iterator","itertools.zip_longest","itertools.pairwise"].contains n=false) (hQ:Q () s):wpAny M A (letOwnedTupleGo tg (.ref it) u) Q E s:=by
  unfold letOwnedTupleGo;cases tg<;>first
    | exact wpAny_pure hQ
    | (cases u<;>first
        | exact wpAny_pure hQ
        | (refine wpAny_bind (wpAny_load ho ?_)
           rw[hc,hd];show wpAny M A (if(["enumerate","zip","dict_itemiterator","dict_reverseitemiterator","odict_iterator","itertools.zip_longest","itertools.pairwise"].contains n&&vs[0]?==some (rawInt _))=true then _ else _) Q E s;rw[if_neg (by intro h;rw[hn,Bool.false_and]at h;cases h)];exact wpAny_pure hQ))
def Itl(K:Frg)(a:Addr):It:=
 ⟨fun i H=>∃xs x,SqL K H a xs/\xs[i]?=some x,fun i H x H'=>H'=H/\∀xs,SqL K H a xs->xs[i]?=some x,fun i H=>∃xs,SqL K H a xs/\xs.length<=i⟩
def Itt(K:Frg)(a:Addr):It:=
 ⟨fun i H=>∃xs x,SqT K H a xs/\xs[i]?=some x,fun i H x H'=>H'=H/\∀xs,SqT K H a xs->xs[i]?=some x,fun i H=>∃xs,SqT K H a xs/\xs.length<=i⟩
def Itr(lo:Int)(n:Nat):It:=⟨fun i _=>i<n,fun i H x H'=>H'=H/\x = .int (lo+i),fun i _=>n<=i⟩
theorem j0n{P:Program}{w:World}{K:Frg}{tg:Expr}(a it:Addr):Turn P w K tg (Itl K a) [it] it (fun i h=>h.IsListIter it a i) where
 mem:=by simp
 obj:=fun i h st b hb=>by
  have e:b=it:=by simpa using hb
  subst e;obtain⟨o,e,c,d⟩:=st;exact⟨o,e,fun v z=>by rw[d]at z;cases z⟩
 keep:=fun i h h' st k=>st.at fun o e=>k it (by simp) o e
 item:=by
  intro X hP hw hK hc i pins s σ H E I hf st hg;subst hP hw hK;obtain⟨xs,x,hq,hx⟩:=hg;obtain⟨its,rv,p,hz⟩:=I.list hq;obtain⟨u,hu,ru⟩:=rv.get hx;obtain⟨f0,f1,f2,f3,f4,f5⟩:=hf it (by simp);refine wpAny_pyNext_list_item st p.isList (x:=u) (by simpa using hu) fun h' st' sb=>?_
  have I1:Inv X pins σ H {s with heap:=h'}:=I.turned (t':=s.toks) (fun b o hb e=>(sb.2 b hb).trans e) f0 f1 f3 f4 f5;obtain⟨o,e,c,d⟩:=id st';exact⟨u,rfl,Xn (s:={s with heap:=h'}) e c d (by decide) ⟨x,H,I1,ru,⟨rfl,fun ys hy=>by rw[I.list_inj hy hq];exact hx⟩,st',fun b hb=>(hf b hb).1⟩⟩
 done:=by
  intro X hP hw hK hc i pins s σ H E I hf st hg;subst hP hw hK;obtain⟨xs,hq,hx⟩:=hg;obtain⟨its,rv,p,hz⟩:=I.list hq;obtain⟨f0,f1,f2,f3,f4,f5⟩:=hf it (by simp);have hl:=rv.length;exact wpAny_pyNext_list_end (I.ok.hd hc) st p.isList (by simp;omega) fun h' eb=>⟨rfl,I.turned (t':=s.toks) (fun b o hb e=>eb b o hb e) f0 f1 f3 f4 f5⟩
 self:=fun _ _ _ _ _ st h=>wpAny_pyIter_listiter st h
theorem xU{P:Program}{w:World}{K:Frg}{tg:Expr}(a it:Addr):Turn P w K tg (Itt K a) [it] it (fun i h=>h.IsTupleIter it a i) where
 mem:=by simp
 obj:=fun i h st b hb=>by
  have e:b=it:=by simpa using hb
  subst e;obtain⟨o,e,c,d⟩:=st;exact⟨o,e,fun v z=>by rw[d]at z;cases z⟩
 keep:=fun i h h' st k=>st.at fun o e=>k it (by simp) o e
 item:=by
  intro X hP hw hK hc i pins s σ H E I hf st hg;subst hP hw hK;obtain⟨xs,x,hq,hx⟩:=hg;obtain⟨its,rv,p,hz⟩:=I.tuple hq;obtain⟨u,hu,ru⟩:=rv.get hx;obtain⟨f0,f1,f2,f3,f4,f5⟩:=hf it (by simp);refine wpAny_pyNext_tuple_item st (show s.heap.IsTuple a its.toArray from p) (x:=u) (by simpa using hu) fun h' st' sb=>?_
  have I1:Inv X pins σ H {s with heap:=h'}:=I.turned (t':=s.toks) (fun b o hb e=>(sb.2 b hb).trans e) f0 f1 f3 f4 f5;obtain⟨o,e,c,d⟩:=id st';exact⟨u,rfl,Xn (s:={s with heap:=h'}) e c d (by decide) ⟨x,H,I1,ru,⟨rfl,fun ys hy=>by rw[I.tuple_inj hy hq];exact hx⟩,st',fun b hb=>(hf b hb).1⟩⟩
 done:=by
  intro X hP hw hK hc i pins s σ H E I hf st hg;subst hP hw hK;obtain⟨xs,hq,hx⟩:=hg;obtain⟨its,rv,p,hz⟩:=I.tuple hq;obtain⟨f0,f1,f2,f3,f4,f5⟩:=hf it (by simp);have hl:=rv.length;exact wpAny_pyNext_tuple_end (I.ok.hd hc) st (show s.heap.IsTuple a its.toArray from p) (by simp;omega) fun h' eb=>⟨rfl,I.turned (t':=s.toks) (fun b o hb e=>eb b o hb e) f0 f1 f3 f4 f5⟩
 self:=fun _ _ _ _ _ st h=>wpAny_pyIter_tupleiter st h
theorem xT{P:Program}{w:World}{K:Frg}{tg:Expr}(it:Addr)(lo:Int)(n:Nat):Turn P w K tg (Itr lo n) [it] it (fun i h=>IsRangeIter h it (lo+(i:Nat)*1) ((n:Int)-(i:Nat)) 1) where
 mem:=by simp
 obj:=fun i h st b hb=>by
  have e:b=it:=by simpa using hb
  subst e;exact⟨_,st,fun v z=>by
   have z':Data.fields _=Data.cell v:=z;cases z'⟩
 keep:=fun i h h' st k=>k it (by simp) _ st
 item:=by
  intro X hP hw hK hc i pins s σ H E I hf st hg;subst hP hw hK;obtain⟨f0,f1,f2,f3,f4,f5⟩:=hf it (by simp);have W:=Walks.range (prog:=X.prog) (w:=X.w) (I.ok.hd hc) it lo 1 n;refine W.item i s _ _ hg st fun v h' tk hv st' kk=>?_
  obtain⟨t,rfl⟩:=hv;have I1:Inv X pins σ H {s with heap:=h',toks:=tk}:=I.turned (fun b o hb e=>kk b o (by simpa using hb) e) f0 f1 f3 f4 f5;refine⟨_,rfl,Xn (s:={s with heap:=h',toks:=tk}) (n:="range_iterator") st' rfl rfl (by decide) ⟨.int (lo+i),H,I1,⟨t,?_⟩,⟨rfl,rfl⟩,st',fun b hb=>(hf b hb).1⟩⟩;rw[Int.mul_one]
 done:=by
  intro X hP hw hK hc i pins s σ H E I hf st hg;subst hP hw hK;obtain⟨f0,f1,f2,f3,f4,f5⟩:=hf it (by simp);exact wpAny_pyNext_range_end (I.ok.hd hc) st (by have:n<=i:=hg;omega) fun h' eb=>⟨rfl,I.turned (t':=s.toks) (fun b o hb e=>eb b o hb e) f0 f1 f3 f4 f5⟩
 self:=fun _ _ _ _ _ st h=>wpAny_pyIter_rangeiter st h
section
variable{X:Cx}{tg:Expr}
def iList(K:Frg)(tl:TE):TI:=fun σ H R=>tl σ H fun x H1=>∃a,x = .ref a/\(∃xs,SqL K H1 a xs)/\R (Itl K a) H1
def iTup(K:Frg)(tl:TE):TI:=fun σ H R=>tl σ H fun x H1=>∃a,x = .ref a/\(∃xs,SqT K H1 a xs)/\R (Itt K a) H1
theorem Je{l:Expr}{tl:TE}(hl:PE X l tl):PI X tg l (iList X.K tl):=by
 intro pins s σ H R I h;refine thn (hl pins s σ H _ I h) fun v s1 ⟨x,H1,I1,r1,q1⟩=>?_
 obtain⟨a,e,⟨xs,hq⟩,q⟩:=q1;subst e;cases r1;obtain⟨its,rv,p,hz⟩:=I1.list hq;refine wpAny_pyIter_list p.isList ?_;refine⟨s1.heap.objs.size,[s1.heap.objs.size],_,_,H1,rfl,I1.kept (t':=s1.toks) fun b o e=>Heap.get?_push_of_some _ e,j0n a _,⟨_,Heap.get?_push_size _ rfl,rfl,rfl⟩,fun b hb=>?_,q⟩;have e:b=s1.heap.objs.size:=by simpa using hb
 subst e;exact I1.fpOk (Nat.le_refl _) (I1.hok.fresh (Nat.le_refl _))
theorem xG{l:Expr}{tl:TE}(hl:PE X l tl):PI X tg l (iTup X.K tl):=by
 intro pins s σ H R I h;refine thn (hl pins s σ H _ I h) fun v s1 ⟨x,H1,I1,r1,q1⟩=>?_
 obtain⟨a,e,⟨xs,hq⟩,q⟩:=q1;subst e;cases r1;obtain⟨its,rv,p,hz⟩:=I1.tuple hq;refine wpAny_pyIter_tuple (show s1.heap.IsTuple a its.toArray from p) ?_;refine⟨s1.heap.objs.size,[s1.heap.objs.size],_,_,H1,rfl,I1.kept (t':=s1.toks) fun b o e=>Heap.get?_push_of_some _ e,xU a _,⟨_,Heap.get?_push_size _ rfl,rfl,rfl⟩,fun b hb=>?_,q⟩;have e:b=s1.heap.objs.size:=by simpa using hb
 subst e;exact I1.fpOk (Nat.le_refl _) (I1.hok.fresh (Nat.le_refl _))
theorem j1m{pins:List (Addr×Obj)}{σ:St}{H:Hp}{s:Shared}{R:It->Hp->Prop}{E:Value->Shared->Prop}{lo hi:Int}{t u v:Tok}{tk:Nat}(I:Inv X pins σ H s)(h1 : -(2^62)<=lo)(h2:lo<2^62)(h3 : -(2^62)<=hi)(h4:hi<2^62)
  (q:R (Itr lo (hi-lo).toNat) H):wpAny (model X.prog X.w) X.A (pyIter (.ref s.heap.objs.size)) (PIE X pins σ tg R) E {s with heap:=s.heap.push {cls:=.type "range",data:=.fields #[.int lo t,.int hi u,.int 1 v]},toks:=tk}:=by
 refine wpAny_pyIter_range (IsRange.new ..) (small_one h1 h2 h3 h4) ?_;have I1:Inv X pins σ H {s with heap:=s.heap.push {cls:=.type "range",data:=.fields #[.int lo t,.int hi u,.int 1 v]},toks:=tk}:=I.kept fun b o e=>Heap.get?_push_of_some _ e
 refine⟨(s.heap.push {cls:=.type "range",data:=.fields #[.int lo t,.int hi u,.int 1 v]}).objs.size,[(s.heap.push {cls:=.type "range",data:=.fields #[.int lo t,.int hi u,.int 1 v]}).objs.size],_,_,H,rfl,
  I1.kept (t':=tk) fun b o e=>Heap.get?_push_of_some _ e,xT _ lo (hi-lo).toNat,?_,fun b hb=>?_,q⟩
 ·have e1:lo+((0:Nat):Int)*1=lo:=by simp
  have e2:(((hi-lo).toNat:Nat):Int)-((0:Nat):Int)=Builtin.Range.rangeSize lo hi 1:=by rw[rangeSize_one];split<;>omega
  show IsRangeIter _ _ (lo+((0:Nat):Int)*1) ((((hi-lo).toNat:Nat):Int)-((0:Nat):Int)) 1;rw[e1,e2];exact Heap.get?_push_size _ rfl
 ·have e:b=(s.heap.push {cls:=.type "range",data:=.fields #[.int lo t,.int hi u,.int 1 v]}).objs.size:=by simpa using hb
  subst e;exact I1.fpOk (Nat.le_refl _) (I1.hok.fresh (Nat.le_refl _))
def iRng1(ta:TA):TI:=fun σ H R=>ta σ H fun vs H1=>∃j:Int,vs=[.int j]/\-(2^62)<=j/\j<2^62/\R (Itr 0 j.toNat) H1
theorem Qy{a:Expr}{ta:TA}{p pos:Pos}(hg:Gl X "range")(hm:X.mg "range"= none)(ha:PA X [a] ta)(hs:starEach [a] X.env=[(false,eval a X.env)]:=by rfl):PI X tg (.Call (.Name "range" p) [a] [] pos) (iRng1 ta):=by
 intro pins s σ H R I h;refine Call_ (Z9 I hg hm boot_range (PyProof.Rows.callWith_type1 (thn (ha pos pins s σ H _ I h) fun us s1 ⟨vs,H1,I1,r1,q1⟩=>?_) hs rfl));obtain⟨j,e,q1,q2,q⟩:=q1;subst e;cases r1 with
 | cons r rr=>
  cases rr;obtain⟨t,rfl⟩:=r;exact call_range_1 (j1m I1 (by omega) (by omega) q1 q2 (by simpa using q))
def tFor(wi:TI)(g:TG)(tb:TS):TS:=fun D σ H=>wi σ H fun J H1=>∃W:Nat->Nat->St->Hp->Prop,(∃m,W 0 m σ H1)/\∀i m σ H,W i m σ H->
 (J.stop i H/\D.nx σ H)\/(J.go i H/\∃N:St->Hp->Prop,(∀σ' H',N σ' H'->∃m',m'<m/\W (i+1) m' σ' H')/\∀x H',J.yld i H x H'->g x σ H' fun σ2 H2=>tb {D with nx:=N,ct:=N,bk:=D.nx} σ2 H2)
noncomputable def pinsAt(fp:List Addr)(h:Heap):List (Addr×Obj):=fp.filterMap fun b=>(h.get? b).map fun o=>(b,o)
theorem Zi{fp:List Addr}{h:Heap}{b:Addr}{o:Obj}(hb:b∈fp)(e:h.get? b=some o):(b,o)∈pinsAt fp h:=mem_filterMap.mpr ⟨b,hb,by rw[e];rfl⟩
theorem j0a{fp:List Addr}{h:Heap}{p:Addr×Obj}(hp:p∈pinsAt fp h):p.1∈fp/\h.get? p.1=some p.2:=by
 obtain⟨b,hb,e⟩:=mem_filterMap.mp hp;cases q:h.get? b with
 | none=>rw[q]at e;cases e
 | some o=>
  rw[q]at e;have e':(b,o)=p:=Option.some.inj e;subst e';exact⟨hb,q⟩
theorem Inv.pinned{pins:List (Addr×Obj)}{σ:St}{H:Hp}{s:Shared}{fp:List Addr}(I:Inv X pins σ H s)(hf:∀b∈fp,FpOk X pins H b)(ho:∀b∈fp,∃o,s.heap.get? b=some o/\∀v,o.data≠.cell v):Inv X (pins++pinsAt fp s.heap) σ H s:=
 I.pins_of fun p hp=>(mem_append.mp hp).elim (fun z=>I.pin p (mem_append_right _ z)) fun z=>by
  obtain⟨hb,e⟩:=j0a z;obtain⟨f0,f1,f2,_⟩:=hf p.1 hb;obtain⟨o,e',d⟩:=ho p.1 hb;rw[e]at e';cases e';exact⟨e,f0,f1,f2,d⟩
theorem Inv.unpinned{pins pl:List (Addr×Obj)}{σ:St}{H:Hp}{s:Shared}(I:Inv X (pins++pl) σ H s):Inv X pins σ H s:=I.pins_of fun p hp=>I.pin p (mem_append_right _ (mem_append_left _ hp))
theorem Jp{iter:Expr}{body:List Stmt}{wi:TI}{g:TG}{tb:TS}{pos:Pos}(hp:PassesOwn (model X.prog X.w) X.A X.env X.xe)(hc:X.calm=true)(hi:PI X tg iter wi)(hg:PG X tg g)(hb:PSs X body tb)
  (hs:∀x,foldedSetIterable iter X.env x=pure x:=by intro _;rfl):PS X (.For tg iter body [] pos) (tFor wi g tb):=by
 intro pins s σ H D I h;refine wpAny_For (thn (hi pins s σ H _ I h) fun v s1 h1=>thn h1 fun itv s2 h2=>?_) hs;obtain⟨it,fp,tn,J,H2,e,I2,T,st2,f2,W,⟨m0,w0⟩,turn⟩:=h2;subst e;have stat:∀{H':Hp},(∀b∈fp,H' b=none)->∀b∈fp,FpOk X pins H' b:=fun hn b hb=>⟨hn b hb,(f2 b hb).2⟩
 refine codeAny_forLoop_any (fun n s'=>∃i σ' H',Inv X pins σ' H' s'/\tn i s'.heap/\(∀b∈fp,H' b=none)/\W i n σ' H') ?_ m0 ⟨0,σ,H2,I2,st2,fun b hb=>(f2 b hb).1,w0⟩;rintro n s3 ⟨i,σ3,H3,I3,st3,fr3,w3⟩;rcases turn i n σ3 H3 w3 with⟨stop,qn⟩ | ⟨go,N,hN,step⟩
 ·refine wpAny_passesOwn hp (thn (T.done X rfl rfl rfl hc i pins s3 σ3 H3 X.xe I3 (stat fr3) st3 stop) fun r s4 ⟨hr,I4⟩=>?_);subst hr;exact wpAny_execs_nil ⟨σ3,H3,I4,qn⟩
 ·refine wpAny_passesOwn hp (thn (T.item X rfl rfl rfl hc i pins s3 σ3 H3 X.xe I3 (stat fr3) st3 go) fun r s4 ⟨u,hr,h4⟩=>?_);subst hr;refine wpAny_passesOwn hp (thn h4 fun _ s5 ⟨x,H5,I5,r5,y5,st5,fr5⟩=>?_);have I5':=I5.pinned (stat fr5) (T.obj _ _ st5);refine wpAny_passesOwn hp (thn (hg _ s5 σ3 H5 x u _ I5' r5 (step x H5 y5)) fun _ s6 ⟨σ6,H6,I6,q6⟩=>?_);refine wpAny_passesOwn hp (thn (hb _ s6 σ6 H6 _ I6 q6) fun f s7 q7=>?_);have again:∀{σ7:St} {H7:Hp},Inv X (pins++pinsAt fp s5.heap) σ7 H7 s7->N σ7 H7->∃m,m<n/\∃i σ' H',Inv X pins σ' H' s7/\tn i s7.heap/\(∀b∈fp,H' b=none)/\W i m σ' H':=fun {σ7 H7} I7 n7=>by
   obtain⟨m',hm,w7⟩:=hN σ7 H7 n7;refine⟨m',hm,i+1,σ7,H7,I7.unpinned,T.keep _ _ _ st5 fun b hb o e=>(I7.pin (b,o) (mem_append_right _ (mem_append_right _ (Zi hb e)))).1,fun b hb=>?_,w7⟩;obtain⟨o,e,d⟩:=T.obj _ _ st5 b hb;exact(I7.pin (b,o) (mem_append_right _ (mem_append_right _ (Zi hb e)))).2.1
  cases f with
  | next=>obtain⟨σ7,H7,I7,n7⟩:=q7;exact again I7 n7
  | cont=>obtain⟨σ7,H7,I7,n7⟩:=q7;exact again I7 n7
  | brk=>obtain⟨σ7,H7,I7,q7⟩:=q7;exact⟨σ7,H7,I7.unpinned,q7⟩
  | ret v=>obtain⟨x7,σ7,H7,I7,r7,q7⟩:=q7;exact⟨x7,σ7,H7,I7.unpinned,r7,q7⟩
end
theorem JU{K:Frg}{a:Addr}{xs:List V}{g:TG}{tb:TS}{D:Ends}{σ:St}{H:Hp}(Pv:Nat->St->Hp->Prop)(h0:Pv 0 σ H)(hl:∀i σ H,i<=xs.length->Pv i σ H->SqL K H a xs)
  (hs:∀i x σ H,xs[i]?=some x->Pv i σ H->g x σ H fun σ2 H2=>tb {D with nx:=Pv (i+1),ct:=Pv (i+1),bk:=D.nx} σ2 H2) (hd:∀σ H,Pv xs.length σ H->D.nx σ H) :
  ∃W:Nat->Nat->St->Hp->Prop,(∃m,W 0 m σ H)/\∀i m σ H,W i m σ H->
   ((Itl K a).stop i H/\D.nx σ H)\/((Itl K a).go i H/\∃N:St->Hp->Prop,(∀σ' H',N σ' H'->∃m',m'<m/\W (i+1) m' σ' H')/\∀x H',(Itl K a).yld i H x H'->g x σ H' fun σ2 H2=>tb {D with nx:=N,ct:=N,bk:=D.nx} σ2 H2):=by
 refine⟨fun i m σ H=>m=xs.length-i/\i<=xs.length/\Pv i σ H,⟨xs.length,by simp,Nat.zero_le _,h0⟩,?_⟩;rintro i m σ H ⟨rfl,hi,p⟩;have q:=hl i σ H hi p;by_cases hlt:i<xs.length
 ·refine .inr ⟨⟨xs,xs[i],q,by simp[hlt]⟩,Pv (i+1),fun σ' H' p'=>⟨xs.length-(i+1),by omega,rfl,hlt,p'⟩,fun x H' y=>?_⟩;obtain⟨e,y⟩:=y;subst e;exact hs i x σ _ (y xs q) p
 ·have e:i=xs.length:=by omega
  subst e;exact .inl ⟨⟨xs,q,Nat.le_refl _⟩,hd σ H p⟩
theorem za{lo:Int}{n:Nat}{g:TG}{tb:TS}{D:Ends}{σ:St}{H:Hp}(Pv:Nat->St->Hp->Prop)(h0:Pv 0 σ H)
  (hs:∀i σ H,i<n->Pv i σ H->g (.int (lo+i)) σ H fun σ2 H2=>tb {D with nx:=Pv (i+1),ct:=Pv (i+1),bk:=D.nx} σ2 H2) (hd:∀σ H,Pv n σ H->D.nx σ H) :
  ∃W:Nat->Nat->St->Hp->Prop,(∃m,W 0 m σ H)/\∀i m σ H,W i m σ H->
   ((Itr lo n).stop i H/\D.nx σ H)\/((Itr lo n).go i H/\∃N:St->Hp->Prop,(∀σ' H',N σ' H'->∃m',m'<m/\W (i+1) m' σ' H')/\∀x H',(Itr lo n).yld i H x H'->g x σ H' fun σ2 H2=>tb {D with nx:=N,ct:=N,bk:=D.nx} σ2 H2):=by
 refine⟨fun i m σ H=>m=n-i/\i<=n/\Pv i σ H,⟨n,by simp,Nat.zero_le _,h0⟩,?_⟩;rintro i m σ H ⟨rfl,hi,p⟩;by_cases hlt:i<n
 ·refine .inr ⟨hlt,Pv (i+1),fun σ' H' p'=>⟨n-(i+1),by omega,rfl,hlt,p'⟩,fun x H' y=>?_⟩;obtain⟨e,y⟩:=y;subst e y;exact hs i σ _ hlt p
 ·have e:i=n:=by omega
  subst e;exact .inl ⟨Nat.le_refl _,hd σ H p⟩
noncomputable abbrev R2:=V->V->Hp->VK->Prop
def OpR(X:Cx)(f:Value->Value->Sem Value)(r:R2):Prop:=
 ∀(pins:List (Addr×Obj)) (s:Shared) (σ:St) (H:Hp) (x y:V) (v u:Value) (Q:VK),Inv X pins σ H s->RelV x v->RelV y u->r x y H Q->
  wpAny (model X.prog X.w) X.A (f v u) (EP X pins σ Q) X.xe s
def UnR(X:Cx)(f:Value->Sem Value)(r:V->Hp->VK->Prop):Prop:=
 ∀(pins:List (Addr×Obj)) (s:Shared) (σ:St) (H:Hp) (x:V) (v:Value) (Q:VK),Inv X pins σ H s->RelV x v->r x H Q->
  wpAny (model X.prog X.w) X.A (f v) (EP X pins σ Q) X.xe s
def CallR(X:Cx)(f:Value)(r:List V->Hp->VK->Prop):Prop:=
 ∀(pins:List (Addr×Obj)) (s:Shared) (σ:St) (H:Hp) (xs:List V) (us:List Value) (Q:VK),Inv X pins σ H s->Vals xs us->r xs H Q->
  wpAny (model X.prog X.w) X.A (call f us) (EP X pins σ Q) X.xe s
def TruR(X:Cx)(r:V->Hp->(Bool->Hp->Prop)->Prop):Prop:=
 ∀(pins:List (Addr×Obj)) (s:Shared) (σ:St) (H:Hp) (x:V) (v:Value) (Q:Bool->Hp->Prop),Inv X pins σ H s->RelV x v->r x H Q->
  wpAny (model X.prog X.w) X.A (truthy v) (TP X pins σ Q) X.xe s
def tOp(r:R2)(ta tb:TE):TE:=fun σ H Q=>ta σ H fun x H1=>tb σ H1 fun y H2=>r x y H2 Q
def tUn(r:V->Hp->VK->Prop)(ta:TE):TE:=fun σ H Q=>ta σ H fun x H1=>r x H1 Q
def rI(C:Int->Int->Prop)(g:Int->Int->V):R2:=fun x y H Q=>∃i j,x = .int i/\y = .int j/\C i j/\Q (g i j) H
def rI0(g:Int->Int->V):R2:=fun x y H Q=>∃i j,x = .int i/\y = .int j/\Q (g i j) H
noncomputable def rU(g:Int->V):V->Hp->VK->Prop:=fun x H Q=>∃i,x = .int i/\Q (g i) H
section
variable{X:Cx}{a b c:Expr}{ta tb tc:TE}{pos:Pos}
theorem binT(ha:PE X a ta)(hb:PE X b tb){pins:List (Addr×Obj)}{s:Shared}{σ:St}{H:Hp}{R:V->V->Hp->Prop}(I:Inv X pins σ H s)
  (h:ta σ H fun x H1=>tb σ H1 fun y H2=>R x y H2) {Q:Value->Shared->Prop} {f:Value->Value->Sem Value}
  (hf:∀v u s2 x y H2,Inv X pins σ H2 s2->RelV x v->RelV y u->R x y H2->wpAny (model X.prog X.w) X.A (f v u) Q X.xe s2) :
  wpAny (model X.prog X.w) X.A (eval a X.env) (fun v s₁=>wpAny (model X.prog X.w) X.A (eval b X.env) (fun u s₂=>wpAny (model X.prog X.w) X.A (f v u) Q X.xe s₂) X.xe s₁) X.xe s:=by
 refine thn (ha pins s σ H _ I h) fun v s1 ⟨x,H1,I1,r1,q1⟩=>?_
 refine thn (hb pins s1 σ H1 _ I1 q1) fun u s2 ⟨y,H2,I2,r2,q2⟩=>?_
 exact hf v u s2 x y H2 I2 r1 r2 q2
theorem jo{op:Operator}{r:R2}(ho:OpR X (binaryOp op) r)(ha:PE X a ta)(hb:PE X b tb):PE X (.BinOp a op b pos) (tOp r ta tb):=by
 intro pins s σ H Q I h;exact wpAny_BinOp (binT ha hb I h fun v u s2 x y H2 I2 rx ry q=>ho pins s2 σ H2 x y v u Q I2 rx ry q)
theorem XA{op:UnaryOp}{r:V->Hp->VK->Prop}(ho:UnR X (unaryOp op) r)(ha:PE X a ta):PE X (.UnaryOp op a pos) (tUn r ta):=by
 intro pins s σ H Q I h;exact UnaryOp_ (thn (ha pins s σ H _ I h) fun v s1 ⟨x,H1,I1,r1,q1⟩=>ho pins s1 σ H1 x v Q I1 r1 q1)
theorem opI{f:Value->Value->Sem Value}{C:Int->Int->Prop}{g:Int->Int->Int}
  (rule:∀(i j:Int) (t u:Tok) (s:Shared) (Q:Value->Shared->Prop) (E:Value->Shared->Prop),C i j->Q (.int (g i j) s.toks) {s with toks:=s.toks+1}->wpAny (model X.prog X.w) X.A (f (.int i t) (.int j u)) Q E s) :
  OpR X f (rI C fun i j=>.int (g i j)):=by
 intro pins s σ H x y v u Q I rx ry h;obtain⟨i,j,rfl,rfl,hc,q⟩:=h;obtain⟨t,rfl⟩:=rx;obtain⟨t',rfl⟩:=ry;exact rule i j t t' s _ _ hc ⟨.int (g i j),H,I.tok _,⟨_,rfl⟩,q⟩
theorem opI0{f:Value->Value->Sem Value}{g:Int->Int->Int}
  (rule:∀(i j:Int) (t u:Tok) (s:Shared) (Q:Value->Shared->Prop) (E:Value->Shared->Prop),Q (.int (g i j) s.toks) {s with toks:=s.toks+1}->wpAny (model X.prog X.w) X.A (f (.int i t) (.int j u)) Q E s) :
  OpR X f (rI0 fun i j=>.int (g i j)):=by
 intro pins s σ H x y v u Q I rx ry h;obtain⟨i,j,rfl,rfl,q⟩:=h;obtain⟨t,rfl⟩:=rx;obtain⟨t',rfl⟩:=ry;exact rule i j t t' s _ _ ⟨.int (g i j),H,I.tok _,⟨_,rfl⟩,q⟩
theorem opB0{f:Value->Value->Sem Value}{g:Int->Int->Bool}
  (rule:∀(i j:Int) (t u:Tok) (s:Shared) (Q:Value->Shared->Prop) (E:Value->Shared->Prop),Q (.bool (g i j)) s->wpAny (model X.prog X.w) X.A (f (.int i t) (.int j u)) Q E s) :
  OpR X f (rI0 fun i j=>.bl (g i j)):=by
 intro pins s σ H x y v u Q I rx ry h;obtain⟨i,j,rfl,rfl,q⟩:=h;obtain⟨t,rfl⟩:=rx;obtain⟨t',rfl⟩:=ry;exact rule i j t t' s _ _ ⟨.bl (g i j),H,I,rfl,q⟩
def CPow(i j:Int):Prop:=0<=j/\j<=1000000/\i.natAbs<2^64
theorem jO:OpR X (binaryOp .Add) (rI0 fun i j=>.int (i+j)):=opI0 fun _ _ _ _ _ _ _ q=>add_int q
theorem Qw:OpR X (binaryOp .Sub) (rI0 fun i j=>.int (i-j)):=opI0 fun _ _ _ _ _ _ _ q=>sub_int q
theorem j5:OpR X (binaryOp .Mod) (rI (fun _ j=>0<j) fun i j=>.int (i%j)):=opI fun i j _ _ _ _ _ hc q=>by
 have h1:(0:Int)<j:=hc;exact mod_int' (by omega) (by rw[Int.fmod_eq_emod_of_nonneg i (by omega)];exact q)
theorem Qv:OpR X (binaryOp .Pow) (rI CPow fun i j=>.int (i^j.toNat)):=opI fun _ _ _ _ _ _ _ hc q=>pow_int_small hc.1 hc.2.1 hc.2.2 q
theorem unI{f:Value->Sem Value}{g:Int->Int}
  (rule:∀(i:Int) (t:Tok) (s:Shared) (Q:Value->Shared->Prop) (E:Value->Shared->Prop),Q (.int (g i) s.toks) {s with toks:=s.toks+1}->wpAny (model X.prog X.w) X.A (f (.int i t)) Q E s) :
  UnR X f (rU fun i=>.int (g i)):=by
 intro pins s σ H x v Q I rx h;obtain⟨i,rfl,q⟩:=h;obtain⟨t,rfl⟩:=rx;exact rule i t s _ _ ⟨.int (g i),H,I.tok _,⟨_,rfl⟩,q⟩
theorem wR:UnR X (unaryOp .USub) (rU fun i=>.int (-i)):=unI fun _ _ _ _ _ q=>neg_int q
end
noncomputable def scal:V->V->Bool
 | .non,.non=>true | .non,.int _=>true | .int _,.non=>true | .non,.bl _=>true | .bl _,.non=>true | .non,.str _=>true | .str _,.non=>true
 | .int _,.int _=>true | .bl _,.bl _=>true | .str _,.str _=>true | .byt _,.byt _=>true
 | .int _,.str _=>true | .str _,.int _=>true | .bl _,.str _=>true | .str _,.bl _=>true
 | _,_=>false
def rEq:R2:=fun x y H Q=>scal x y=true/\Q (.bl (decide (x=y))) H
def rNe:R2:=fun x y H Q=>scal x y=true/\Q (.bl (!decide (x=y))) H
theorem Xj{i j:Int}:decide (V.int i=V.int j)=(i==j):=by
 rw[Bool.eq_iff_iff];simp
theorem j0B{i j:Bool}:decide (V.bl i=V.bl j)=(i==j):=by
 rw[Bool.eq_iff_iff];simp
theorem Xk{i j:Str}:decide (V.str i=V.str j)=(i==j):=by
 rw[Bool.eq_iff_iff];simp
theorem Xi{i j:Array UInt8}:decide (V.byt i=V.byt j)=(i.toList==j.toList):=by
 rw[Bool.eq_iff_iff];cases i;cases j;simp
section
variable{X:Cx}{a b c:Expr}{ta tb tc:TE}{pos:Pos}
theorem jZ{pins:List (Addr×Obj)}{σ:St}{H:Hp}{s:Shared}{Q:VK}{k k':Bool}(I:Inv X pins σ H s)(q:Q (.bl k) H)(e:k=k'):EP X pins σ Q (.bool k') s:=by
 subst e;exact⟨.bl k,H,I,rfl,q⟩
theorem Jn:OpR X (compareOp .Eq) rEq:=by
 intro pins s σ H x y v u Q I rx ry h;obtain⟨hs,q⟩:=h;cases x with
 | non=>
  cases rx;cases y with
  | non=>cases ry;exact PySem.EqNone.eq_none_none (jZ I q (by simp))
  | bl j=>cases ry;exact PySem.EqNone.eq_none_bool (jZ I q (by simp))
  | int j=>obtain⟨t',rfl⟩:=ry;exact PySem.EqNone.eq_none_int (jZ I q (by simp))
  | str j=>obtain⟨t',rfl⟩:=ry;exact PySem.EqNone.eq_none_str (jZ I q (by simp))
  | _=>exact absurd (show false=true from hs) Bool.false_ne_true
 | bl i=>
  cases rx;cases y with
  | non=>cases ry;exact PySem.EqNone.eq_bool_none (jZ I q (by simp))
  | bl j=>cases ry;exact eq_bool (jZ I q j0B)
  | str j=>obtain⟨t',rfl⟩:=ry;exact PySem.EqMixed.eq_bool_str (jZ I q (by simp))
  | _=>exact absurd (show false=true from hs) Bool.false_ne_true
 | int i=>
  obtain⟨t,rfl⟩:=rx;cases y with
  | non=>cases ry;exact PySem.EqNone.eq_int_none (jZ I q (by simp))
  | int j=>obtain⟨t',rfl⟩:=ry;exact eq_int (jZ I q Xj)
  | str j=>obtain⟨t',rfl⟩:=ry;exact PySem.EqMixed.eq_int_str (jZ I q (by simp))
  | _=>exact absurd (show false=true from hs) Bool.false_ne_true
 | str i=>
  obtain⟨t,rfl⟩:=rx;cases y with
  | non=>cases ry;exact PySem.EqNone.eq_str_none (jZ I q (by simp))
  | bl j=>cases ry;exact PySem.EqMixed.eq_str_bool (jZ I q (by simp))
  | int j=>obtain⟨t',rfl⟩:=ry;exact PySem.EqMixed.eq_str_int (jZ I q (by simp))
  | str j=>obtain⟨t',rfl⟩:=ry;exact eq_str (jZ I q Xk)
  | _=>exact absurd (show false=true from hs) Bool.false_ne_true
 | byt i=>
  obtain⟨t,rfl⟩:=rx;cases y with
  | byt j=>obtain⟨t',rfl⟩:=ry;exact PySem.W.eq_bytes (jZ I q Xi)
  | _=>exact absurd (show false=true from hs) Bool.false_ne_true
 | _=>cases y<;>exact absurd (show false=true from hs) Bool.false_ne_true
theorem j3j:OpR X (compareOp .NotEq) rNe:=by
 intro pins s σ H x y v u Q I rx ry h;obtain⟨hs,q⟩:=h;cases x with
 | non=>
  cases rx;cases y with
  | non=>cases ry;exact PySem.EqNone.ne_none_none (jZ I q (by simp))
  | bl j=>cases ry;exact PySem.EqNone.ne_none_bool (jZ I q (by simp))
  | int j=>obtain⟨t',rfl⟩:=ry;exact PySem.EqNone.ne_none_int (jZ I q (by simp))
  | str j=>obtain⟨t',rfl⟩:=ry;exact PySem.EqNone.ne_none_str (jZ I q (by simp))
  | _=>exact absurd (show false=true from hs) Bool.false_ne_true
 | bl i=>
  cases rx;cases y with
  | non=>cases ry;exact PySem.EqNone.ne_bool_none (jZ I q (by simp))
  | bl j=>cases ry;exact ne_bool (jZ I q (congrArg not j0B))
  | str j=>obtain⟨t',rfl⟩:=ry;exact PySem.EqMixed.ne_bool_str (jZ I q (by simp))
  | _=>exact absurd (show false=true from hs) Bool.false_ne_true
 | int i=>
  obtain⟨t,rfl⟩:=rx;cases y with
  | non=>cases ry;exact PySem.EqNone.ne_int_none (jZ I q (by simp))
  | int j=>obtain⟨t',rfl⟩:=ry;exact ne_int (jZ I q (congrArg not Xj))
  | str j=>obtain⟨t',rfl⟩:=ry;exact PySem.EqMixed.ne_int_str (jZ I q (by simp))
  | _=>exact absurd (show false=true from hs) Bool.false_ne_true
 | str i=>
  obtain⟨t,rfl⟩:=rx;cases y with
  | non=>cases ry;exact PySem.EqNone.ne_str_none (jZ I q (by simp))
  | bl j=>cases ry;exact PySem.EqMixed.ne_str_bool (jZ I q (by simp))
  | int j=>obtain⟨t',rfl⟩:=ry;exact PySem.EqMixed.ne_str_int (jZ I q (by simp))
  | str j=>obtain⟨t',rfl⟩:=ry;exact ne_str (jZ I q (congrArg not Xk))
  | _=>exact absurd (show false=true from hs) Bool.false_ne_true
 | byt i=>
  obtain⟨t,rfl⟩:=rx;cases y with
  | byt j=>obtain⟨t',rfl⟩:=ry;exact PySem.W.ne_bytes (jZ I q (congrArg not Xi))
  | _=>exact absurd (show false=true from hs) Bool.false_ne_true
 | _=>cases y<;>exact absurd (show false=true from hs) Bool.false_ne_true
theorem zx:OpR X (compareOp .Lt) (rI0 fun i j=>.bl (decide (i<j))):=opB0 fun _ _ _ _ _ _ _ q=>lt_int q
theorem kH:OpR X (compareOp .LtE) (rI0 fun i j=>.bl (decide (i<=j))):=opB0 fun _ _ _ _ _ _ _ q=>le_int q
theorem zP:OpR X (compareOp .Gt) (rI0 fun i j=>.bl (decide (j<i))):=opB0 fun _ _ _ _ _ _ _ q=>gt_int q
theorem j2C:OpR X (compareOp .GtE) (rI0 fun i j=>.bl (decide (j<=i))):=opB0 fun _ _ _ _ _ _ _ q=>ge_int q
theorem j2Z:OpR X (compareOp .Is) (fun x y H Q=>y = .non/\Q (.bl (decide (x = .non))) H):=by
 intro pins s σ H x y v u Q I rx ry h;obtain⟨rfl,q⟩:=h;cases ry;refine is_none_gen (jZ I q ?_);cases x<;>first
  | (cases rx;rfl)
  | (obtain⟨t,rfl⟩:=rx;rfl)
theorem wA:OpR X (compareOp .IsNot) (fun x y H Q=>y = .non/\Q (.bl (!decide (x = .non))) H):=by
 intro pins s σ H x y v u Q I rx ry h;obtain⟨rfl,q⟩:=h;cases ry;refine isnot_none_gen (jZ I q ?_);cases x<;>first
  | (cases rx;rfl)
  | (obtain⟨t,rfl⟩:=rx;rfl)
theorem nomark(b:Expr){op:CmpOp}(h:op≠.In:=by decide)(h2:op≠.NotIn:=by decide):behindInMarks op b=false:=by
 have e1:(op==CmpOp.In)=false:=by cases op<;>first | rfl | exact absurd rfl h
 have e2:(op==CmpOp.NotIn)=false:=by cases op<;>first | rfl | exact absurd rfl h2
 cases b<;>simp[behindInMarks,e1,e2]
theorem Xz{op:CmpOp}{r:R2}(ho:OpR X (compareOp op) r)(ha:PE X a ta)(hb:PE X b tb)(hm:behindInMarks op b=false):PE X (.Compare a [op] [b] pos) (tOp r ta tb):=by
 intro pins s σ H Q I h;exact wpAny_Compare1 (binT ha hb I h fun v u s2 x y H2 I2 rx ry q=>ho pins s2 σ H2 x y v u Q I2 rx ry q) hm
def tTest(t:TE):TT:=fun σ H Q=>t σ H fun x H'=>∃k,x = .bl k/\Q k H'
theorem jk{op:CmpOp}{r:R2}(ho:OpR X (compareOp op) r)(ha:PE X a ta)(hb:PE X b tb)(hm:behindInMarks op b=false):PT X (.Compare a [op] [b] pos) (tTest (tOp r ta tb)):=by
 intro pins s σ H Q I h;refine wpAny_isTrue_Compare1 (thn (ha pins s σ H _ I h) fun v s1 ⟨x,H1,I1,r1,q1⟩=>thn (hb pins s1 σ H1 _ I1 q1) fun u s2 ⟨y,H2,I2,r2,q2⟩=>
  thn (ho pins s2 σ H2 x y v u _ I2 r1 r2 q2) fun c s3 ⟨z,H3,I3,r3,k,e,q3⟩=>?_) hm
 subst e;cases r3;exact wpAny_truthy_bool ⟨H3,I3,q3⟩
def tChain(r r':R2)(ta tb tc:TE):TE:=fun σ H Q=>ta σ H fun x H1=>tb σ H1 fun y H2=>r x y H2 fun z H3=>∃k,z = .bl k/\
 (if k=true then tc σ H3 fun w' H4=>r' y w' H4 Q else Q (.bl false) H3)
theorem kL{op op':CmpOp}{r r':R2}(ho:OpR X (compareOp op) r)(ho':OpR X (compareOp op') r')(ha:PE X a ta)(hb:PE X b tb)(hc:PE X c tc)
  (hm:lastMarks [op,op'] [b,c]=false:=by with_unfolding_all rfl):PT X (.Compare a [op,op'] [b,c] pos) (tTest (tChain r r' ta tb tc)):=by
 intro pins s σ H Q I h;refine isTrue_chain (thn (ha pins s σ H _ I h) fun v s1 ⟨x,H1,I1,r1,q1⟩=>test_link (thn (hb pins s1 σ H1 _ I1 q1) fun u s2 ⟨y,H2,I2,r2,q2⟩=>
  thn (ho pins s2 σ H2 x y v u _ I2 r1 r2 q2) fun d s3 ⟨z,H3,I3,r3,k,e,q3⟩=>?_)) hm
 subst e;cases r3;refine wpAny_truthy_bool ?_;cases k with
 | false=>
  obtain⟨k',e',q'⟩:=q3;cases e';exact ite_ff ⟨H3,I3,q'⟩
 | true=>
  refine ite_tt (test_last (thn (hc pins s3 σ H3 _ I3 q3) fun w' s4 ⟨z',H4,I4,r4,q4⟩=>thn (ho' pins s4 σ H4 y z' u w' _ I4 r2 r4 q4) fun d' s5 ⟨z2,H5,I5,r5,k2,e2,q5⟩=>?_));subst e2;cases r5;exact wpAny_truthy_bool ⟨H5,I5,q5⟩
def TruV(K:Frg)(x:V)(H:Hp)(k:Bool):Prop:=
 match x with
 | .non=>k=false
 | .bl b=>k=b
 | .int i=>k=(i != 0)
 | .str y=>y.length<=sizeLine/\k=((y.length:Int) != 0)
 | .byt y=>y.size<=sizeLine/\k=((y.size:Int) != 0)
 | .ref p=>(∃xs,SqL K H p xs/\k = !xs.isEmpty)\/(∃xs,SqT K H p xs/\k = !xs.isEmpty)\/∃kvs,H p=some (.dK kvs)/\k = !kvs.isEmpty
 | _=>False
theorem xp{κ:Type}{kvs:List (κ×V)}{vs:List (κ×Value)}(r:KV kvs vs):(!vs.isEmpty) = !kvs.isEmpty:=by
 cases r<;>rfl
theorem kA{xs:List V}{its:List Value}(r:Vals xs its):(!its.toArray.isEmpty) = !xs.isEmpty:=by
 cases r<;>simp
theorem line63:(sizeLine:Nat)<2^63:=by rw[sizeLine_eq];decide
theorem j3d:TruR X (fun x H Q=>∃k,TruV X.K x H k/\Q k H):=by
 intro pins s σ H x v Q I rx h;obtain⟨k,e,q⟩:=h;have hl:=line63;have hs:sizeLine=16777216:=sizeLine_eq;cases x with
 | non=>
  cases rx;have e':k=false:=e;subst e';exact truthy_none ⟨H,I,q⟩
 | bl b=>
  cases rx;have e':k=b:=e;subst e';exact wpAny_truthy_bool ⟨H,I,q⟩
 | int i=>
  obtain⟨t,rfl⟩:=rx;have e':k=(i != 0):=e;subst e';exact PySem.P.truthy_int ⟨H,I,q⟩
 | str y=>
  obtain⟨t,rfl⟩:=rx;obtain⟨hy,e'⟩:y.length<=sizeLine/\k=((y.length:Int) != 0):=e;subst e';exact PySem.P.truthy_str (by omega) ⟨H,I.tok _,q⟩
 | byt y=>
  obtain⟨t,rfl⟩:=rx;obtain⟨hy,e'⟩:y.size<=sizeLine/\k=((y.size:Int) != 0):=e;subst e';exact PySem.W.truthy_bytes (by omega) ⟨H,I.tok _,q⟩
 | ref p=>
  cases rx;have e':(∃xs,SqL X.K H p xs/\k = !xs.isEmpty)\/(∃xs,SqT X.K H p xs/\k = !xs.isEmpty)\/∃kvs,H p=some (.dK kvs)/\k = !kvs.isEmpty:=e;rcases e' with⟨xs,hx,e'⟩ | ⟨xs,hx,e'⟩ | ⟨kvs,hx,e'⟩
  ·subst e';obtain⟨its,r,pl,hz⟩:=I.list hx;have hlen:=r.length;exact wpAny_truthy_list pl.isList (by simp only[size_toArray];omega) ⟨H,I.tok _,by rw[kA r];exact q⟩
  ·subst e';obtain⟨its,r,pl,hz⟩:=I.tuple hx;have hlen:=r.length;exact truthy_tuple pl (by simp only[size_toArray];omega) ⟨H,I.tok _,by rw[kA r];exact q⟩
  ·subst e';obtain⟨hz,hS,vs,r,m⟩:kvs.length<=sizeLine/\(p==sysModules)=false/\∃vs,KV kvs vs/\s.heap.DictOf (mixKind X.prog X.w) p vs:=I.hok p _ hx;have hlen:kvs.length=vs.length:=Paired.length r;exact wpAny_truthy_dict hS m (by omega) ⟨H,I.tok _,by rw[xp r];exact q⟩
 | _=>exact(show False from e).elim
theorem j1j(ha:PE X a ta)(he:∀whole,isTrue a X.env whole=(do let v <-whole;standAt a.pos;holding [v] (truthy v))) :
  PT X a (fun σ H Q=>ta σ H fun x H'=>∃k,TruV X.K x H' k/\Q k H'):=by
 intro pins s σ H Q I h;exact isTrue_plain (thn (ha pins s σ H _ I h) fun v s1 ⟨x,H1,I1,r1,q1⟩=>j3d pins s1 σ H1 x v Q I1 r1 q1) (he _)
theorem ye:OpR X (binaryOp .Add) (fun x y H Q=>∃i j,x = .str i/\y = .str j/\i.length+j.length<=sizeLine/\Q (.str (i++j)) H):=by
 intro pins s σ H x y v u Q I rx ry h;obtain⟨i,j,rfl,rfl,hz,q⟩:=h;obtain⟨t,rfl⟩:=rx;obtain⟨t',rfl⟩:=ry;exact add_str (fun t' tk=>⟨.str (i++j),H,I.tok _,⟨_,rfl⟩,q⟩) hz
theorem vals1{x:V}{us:List Value}(r:Vals [x] us):∃u,us=[u]/\RelV x u:=by
 cases r with
 | cons r1 r2=>cases r2;exact⟨_,rfl,r1⟩
theorem vals2{x y:V}{us:List Value}(r:Vals [x,y] us):∃u w',us=[u,w']/\RelV x u/\RelV y w':=by
 cases r with
 | cons r1 r2=>
  cases r2 with
  | cons r3 r4=>cases r4;exact⟨_,_,rfl,r1,r3⟩
theorem kf:CallR X (.builtin "abs") (fun xs H Q=>∃i,xs=[.int i]/\Q (.int (if i<0 then -i else i)) H):=by
 intro pins s σ H xs us Q I r h;obtain⟨i,rfl,q⟩:=h;obtain⟨u,rfl,t,rfl⟩:=vals1 r;exact call_abs_int fun u tk=>⟨.int (if i<0 then -i else i),H,I.tok _,⟨_,rfl⟩,q⟩
theorem XW(hc:X.calm=true):CallR X (.builtin "max") (fun xs H Q=>∃i j,xs=[.int i,.int j]/\Q (.int (if j>i then j else i)) H):=by
 intro pins s σ H xs us Q I r h;obtain⟨i,j,rfl,q⟩:=h;obtain⟨u,w',rfl,⟨t,rfl⟩,⟨t',rfl⟩⟩:=vals2 r;refine max_two_ints (I.ok.hd hc) fun h' tk k=>⟨_,H,I.kept k,?_,q⟩
 by_cases hj:j>i
 ·rw[if_pos hj,if_pos hj];exact⟨_,rfl⟩
 ·rw[if_neg hj,if_neg hj];exact⟨_,rfl⟩
theorem Yj(hc:X.calm=true):CallR X (.builtin "min") (fun xs H Q=>∃i j,xs=[.int i,.int j]/\Q (.int (if j<i then j else i)) H):=by
 intro pins s σ H xs us Q I r h;obtain⟨i,j,rfl,q⟩:=h;obtain⟨u,w',rfl,⟨t,rfl⟩,⟨t',rfl⟩⟩:=vals2 r;refine min_two_ints (I.ok.hd hc) fun h' tk k=>⟨_,H,I.kept k,?_,q⟩
 by_cases hj:j<i
 ·rw[if_pos hj,if_pos hj];exact⟨_,rfl⟩
 ·rw[if_neg hj,if_neg hj];exact⟨_,rfl⟩
def LenV(K:Frg)(x:V)(H:Hp)(n:Nat):Prop:=
 match x with
 | .str y=>y.length<=sizeLine/\n=y.length
 | .byt y=>y.size<=sizeLine/\n=y.size
 | .ref p=>(∃xs,SqL K H p xs/\n=xs.length)\/∃xs,SqT K H p xs/\n=xs.length
 | _=>False
theorem jW:CallR X (.builtin "len") (fun xs H Q=>∃x n,xs=[x]/\LenV X.K x H n/\Q (.int n) H):=by
 intro pins s σ H xs us Q I r h;obtain⟨x,n,rfl,e,q⟩:=h;obtain⟨u,rfl,rx⟩:=vals1 r;have hl:=line63;have hs:sizeLine=16777216:=sizeLine_eq;cases x with
 | str y=>
  obtain⟨t,rfl⟩:=rx;obtain⟨hy,e'⟩:y.length<=sizeLine/\n=y.length:=e;subst e';exact len_str (by omega) ⟨.int _,H,I.tok _,⟨_,rfl⟩,q⟩
 | byt y=>
  obtain⟨t,rfl⟩:=rx;obtain⟨hy,e'⟩:y.size<=sizeLine/\n=y.size:=e;subst e';exact PySem.W.len_bytes (by omega) ⟨.int _,H,I.tok _,⟨_,rfl⟩,q⟩
 | ref p=>
  cases rx;have e':(∃xs,SqL X.K H p xs/\n=xs.length)\/∃xs,SqT X.K H p xs/\n=xs.length:=e;rcases e' with⟨xs,hx,e'⟩ | ⟨xs,hx,e'⟩
  ·subst e';obtain⟨its,r',pl,hz⟩:=I.list hx;have hlen:=r'.length;exact Calls.call_len_list pl.isList (by simp only[size_toArray];omega) ⟨.int xs.length,H,I.tok _,⟨_,by simp only[size_toArray];rw[hlen]⟩,q⟩
  ·subst e';obtain⟨its,r',pl,hz⟩:=I.tuple hx;have hlen:=r'.length;exact len_tuple pl (by simp only[size_toArray];omega) ⟨.int xs.length,H,I.tok _,⟨_,by simp only[size_toArray];rw[hlen]⟩,q⟩
 | _=>exact(show False from e).elim
end
structure ObjM(h:Heap)(x dx C:Addr)(mA:Str->Option Value):Prop where
 obj:h.get? x=some (PySem.W.instObj C dx)
 ns:h.Ns1 dx mA
 ne:dx≠x
theorem j03{h:Heap}{dx:Addr}{mA:Str->Option Value}(n:h.Ns1 dx mA):∃od,h.get? dx=some od/\∀name,PySem.W.lookIn name od=some (mA name):=by
 obtain⟨o,es,ep,ho,hd,hk,_,hm⟩:=n;refine⟨o,ho,fun name=>?_⟩;have e:=hm name;unfold nsFind findBy at e;rw[<-Array.find?_toList]at e;unfold PySem.W.lookIn;rw[hd];dsimp only;split
 ·rename_i y q;rw[q]at e;exact congrArg some e
 ·rename_i q;rw[q]at e;have a:es.toList.any (·.refKey)=false:=by
   rw[List.any_eq_false];intro y hy;obtain⟨z,t,hkey⟩:=hk y (Array.mem_toList_iff.mp hy);simp[DictEntry.refKey,hkey]
  have a':¬es.toList.any (·.refKey)=true:=by rw[a];exact Bool.false_ne_true
  rw[if_neg a'];exact congrArg some e
theorem ObjM.look{h:Heap}{x dx C:Addr}{mA:Str->Option Value}(I:ObjM h x dx C mA):∃od,PySem.W.InstAt h x (PySem.W.instObj C dx) C (some od)/\∀name,PySem.W.lookIn name od=some (mA name):=
 let ⟨od,ho,hl⟩:=j03 I.ns
 ⟨od,⟨I.obj,rfl,rfl,ho⟩,hl⟩
section
variable{prog:Program}{w:World}{A:Around}{E:Value->Shared->Prop}{s:Shared}{K:Frg}{x dx C f:Addr}{mA:Str->Option Value}{name:Str}{v:Value}
theorem j25{expr:Bool}{Q:Value->Shared->Prop}(X:K.In s.heap)(I:ObjM s.heap x dx C mA)(hg:PySem.W.plainGet K C name=true)(hh:PySem.W.hasDictIn K C=true)
  (ha:PySem.W.findIn K (.ref C) name=some none) (hv:mA name=some v) (hv':PySem.W.handedIn v=true) (h:Q v {s with toks:=s.toks+1}) :
  wpAny (model prog w) A (getAttr (.ref x) name expr) Q E s:=by
 obtain⟨od,J,hl⟩:=I.look;exact PySem.W.get_value X J (PySem.W.plainGet_of hg).1 (PySem.W.findObj_own hh ha rfl (by rw[hl,hv])) hv' h
theorem j0I{pl:Sem Bool}{Q:Value×List Value->Shared->Prop}(X:K.In s.heap)(I:ObjM s.heap x dx C mA)(hg:PySem.W.plainGet K C name=true)
  (hf:PySem.W.findIn K (.ref C) name=some (some (.ref f))) (ht:PySem.W.isFn K (.ref f)=true) (hv:mA name=none) (h:Q (.ref f,[.ref x]) s) :
  wpAny (model prog w) A (getMethod (.ref x) name pl) Q E s:=by
 obtain⟨od,J,hl⟩:=I.look;exact PySem.W.method_fn X J (PySem.W.plainGet_of hg).1 (PySem.W.plainGet_of hg).2 hf (beq_iff_eq.mp ht) (by show(PySem.W.lookIn name od).map (·.isSome)=some false;rw[hl,hv];rfl) h
theorem j2r{ns:List Str}{Q:Unit->Shared->Prop}(X:K.In s.heap)(I:ObjM s.heap x dx C mA)
  (hs:PySem.W.findIn K (.ref C) "__setattr__"= some (some (.builtin "object.__setattr__"))) (hp:PySem.W.plainOver K C=true) (ht:PySem.W.takerIn K C name=some none) (hh:PySem.W.hasDictIn K C=true)
  (hw:PySem.Within mA ns) (hsz:ns.length<=sizeLine)
  (h:∀h',ObjM h' x dx C (fun y=>if y=name then some v else mA y)->Heap.SameBut dx s.heap h'->Q () {s with heap:=h',toks:=s.toks+2}) :
  wpAny (model prog w) A (setAttr (.ref x) name v) Q E s:=by
 obtain⟨od,J,hl⟩:=I.look;refine PySem.W.set_plain X J hs (PySem.W.osa_open (s:={s with toks:=s.toks+1}) (r:=none) X J hp ht fun b=>?_);obtain⟨cd,hc,hd'⟩:=PySem.W.any_some hh;have hx:s.heap.get? x=some ⟨.ref C,some dx,.plain,#[]⟩:=I.obj;refine wpAny_bind (wpAny_pure (wpAny_bind (wpAny_bind (wpAny_loadPart hx (wpAny_bind (PySem.W.Looks.here (s:={s with toks:=s.toks+1}) (PySem.W.looks_clsIn X hc) ?_))))));rw[hd'];refine wpAny_pure (a:=some dx) (wpAny_bind (wpAny_pure (wpAny_bind ?_)));refine wpAny_nsSet1 (s:={s with toks:=s.toks+1}) I.ns fun h' hn2 hs2=>?_
 obtain⟨oD,esD,epD,hoD,hdD,hcD⟩:=hn2.count (PySem.Within.cons name v hw);refine wpAny_bind (wpAny_lookBehind hoD (by rw[hdD];exact pastItsLine_dict (Nat.le_trans hcD (by rw[length_cons];omega))) ?_);exact wpAny_pure (h _ ⟨(hs2.2 _ (Ne.symm I.ne)).trans I.obj,hn2,I.ne⟩ hs2)
theorem j0Y{R:Result->Shared->Prop}{vs:List Value}{kw:List (Str×Value)}(X:K.In s.heap)(hm:PySem.W.makesIn K C=true)
  (hi:PySem.W.findIn K (.ref C) "__init__"= some (some (.ref f))) (hf:PySem.W.typeIn K (.ref f)=some (.type "function"))
  (h:codeAny (model prog w) (A.under (.builtin "type.__call__" ⟨.ref C::vs,kw⟩)) (.call (.ref f) ⟨.ref (s.heap.objs.size+1)::vs,kw⟩) (PySem.W.InitBack (s.heap.objs.size+1) R)
   {s with heap:=(s.heap.push PySem.W.emptyDict).push (PySem.W.instObj C s.heap.objs.size)}) :
  codeAny (model prog w) A (.call (.ref C) ⟨vs,kw⟩) R s:=by
 obtain⟨hh,g,d,t,os⟩:=s;exact PySem.W.make_core (PySem.W.makes_of X hm) (PySem.W.looks_findIn X hi) (fun self=>PySem.W.bind_fn X self hf) (.inl rfl) h
end
noncomputable def putF(f:Str)(v:V):List (Str×V)->List (Str×V)
 | []=>[(f,v)]
 | (g,x)::r=>if g=f then(g,v)::r else(g,x)::putF f v r
theorem zt(f g:Str)(v:V):∀fs:List (Str×V),(putF f v fs).lookup g=if g=f then some v else fs.lookup g
 | []=>by
  show List.lookup g [(f,v)]=_;by_cases h:g=f
  ·have hb:(g==f)=true:=beq_iff_eq.mpr h;simp only[List.lookup,hb,if_pos h]
  ·have hb:(g==f)=false:=beq_eq_false_iff_ne.mpr h;simp only[List.lookup,hb,if_neg h]
 | (k,x)::r=>by
  have ih:=zt f g v r;rw[show putF f v ((k,x)::r)=(if k=f then(k,v)::r else(k,x)::putF f v r)from rfl];by_cases hk:k=f
  ·rw[if_pos hk];by_cases h:g=k
   ·have hb:(g==k)=true:=beq_iff_eq.mpr h;simp only[List.lookup,hb,if_pos (h.trans hk)]
   ·have hb:(g==k)=false:=beq_eq_false_iff_ne.mpr h;simp only[List.lookup,hb,if_neg (fun e:g=f=>h (e.trans hk.symm))]
  ·rw[if_neg hk];by_cases h:g=k
   ·have hb:(g==k)=true:=beq_iff_eq.mpr h;simp only[List.lookup,hb,if_neg (fun e:g=f=>hk (h.symm.trans e))]
   ·have hb:(g==k)=false:=beq_eq_false_iff_ne.mpr h;simp only[List.lookup,hb];exact ih
theorem Yq(f:Str)(v:V):∀fs:List (Str×V),f∈(putF f v fs).map (·.1)/\∀g,g∈fs.map (·.1)->g∈(putF f v fs).map (·.1)
 | []=>⟨by simp[putF],fun g h=>by simp at h⟩
 | (k,x)::r=>by
  obtain⟨i1,i2⟩:=Yq f v r;rw[show putF f v ((k,x)::r)=(if k=f then(k,v)::r else(k,x)::putF f v r)from rfl];by_cases hk:k=f
  ·rw[if_pos hk];subst hk;exact⟨by simp,fun g h=>by simpa using h⟩
  ·rw[if_neg hk];refine⟨?_,fun g h=>?_⟩
   ·rw[map_cons];exact mem_cons_of_mem _ i1
   ·rw[map_cons]at h|-;rcases mem_cons.mp h with e | e
    ·exact mem_cons.mpr (.inl e)
    ·exact mem_cons_of_mem _ (i2 g e)
theorem YQ(f:Str)(v:V):∀fs:List (Str×V),(putF f v fs).length<=fs.length+1
 | []=>by simp[putF]
 | (k,x)::r=>by
  have ih:=YQ f v r;rw[show putF f v ((k,x)::r)=(if k=f then(k,v)::r else(k,x)::putF f v r)from rfl];by_cases hk:k=f
  ·rw[if_pos hk,length_cons,length_cons];omega
  ·rw[if_neg hk,length_cons,length_cons];omega
theorem RelO.some_of{v:V}{o:Option Value}(r:RelO (some v) o):∃u,o=some u/\RelV v u:=by
 cases o with
 | none=>exact(show False from r).elim
 | some u=>exact⟨u,rfl,r⟩
theorem RelO.none_of{o:Option Value}(r:RelO none o):o=none:=by
 cases o with
 | none=>rfl
 | some u=>exact(show False from r).elim
theorem X3{v:V}{u:Value}(r:RelV v u):PySem.W.handedIn u=true:=by
 cases v with
 | non=>cases(show u=Value.none from r);rfl
 | bl b=>cases(show u=Value.bool b from r);rfl
 | int i=>obtain⟨t,e⟩:=(show∃t,u=Value.int i t from r);cases e;rfl
 | str x=>obtain⟨t,e⟩:=(show∃t,u=Value.str x t from r);cases e;rfl
 | byt b=>obtain⟨t,e⟩:=(show∃t,u=Value.bytes b t from r);cases e;rfl
 | flt b=>obtain⟨t,e⟩:=(show∃t,u=Value.float b t from r);cases e;rfl
 | ref a=>cases(show u=Value.ref a from r);rfl
 | ty n=>cases(show u=Value.type n from r);rfl
section
variable{P:Program}{w:World}{H H':Hp}{h h':Heap}{a C dx:Addr}{fs fs':List (Str×V)}
theorem Y3(hok:HOk P w H h)(e:H a=some (.ins C dx fs)):∃mA,ObjM h a dx C mA/\(∀f,RelO (fs.lookup f) (mA f))/\PySem.Within mA (fs.map (·.1))/\fs.length<=1000/\H dx=some (.own a):=by
 obtain⟨d,z,ne,ob,mA,n,r,q⟩:=(show ObjOk P w H h a (.ins C dx fs)from hok a _ e)
 exact⟨mA,⟨ob,n,ne⟩,r,q,z,d⟩
end
structure Cls(K:Frg)(C:Addr):Prop where
 pg:PySem.W.plainGet K C Str.empty=true
 hd:PySem.W.hasDictIn K C=true
 po:PySem.W.plainOver K C=true
 sa:PySem.W.findIn K (.ref C) "__setattr__"= some (some (.builtin "object.__setattr__"))
theorem Cls.get{K:Frg}{C:Addr}(c:Cls K C)(f:Str):PySem.W.plainGet K C f=true:=c.pg
def NoAttr(K:Frg)(C:Addr)(f:Str):Prop:=PySem.W.findIn K (.ref C) f=some none
theorem NoAttr.taker{K:Frg}{C:Addr}{f:Str}(n:NoAttr K C f):PySem.W.takerIn K C f=some none:=by
 unfold PySem.W.takerIn;rw[show PySem.W.findIn K (.ref C) f=some none from n];rfl
structure Meth(K:Frg)(C:Addr)(m:Str)(f:Addr):Prop where
 at_:PySem.W.findIn K (.ref C) m=some (some (.ref f))
 fn:PySem.W.isFn K (.ref f)=true
 kp:PySem.W.keepIn K (.ref f)=true
section
variable{X:Cx}{pins:List (Addr×Obj)}{σ:St}{H:Hp}{s:Shared}{a C dx:Addr}{fs:List (Str×V)}{f:Str}{v:V}{A:Around}{E:Value->Shared->Prop}
theorem xi{b:Bool}{Q:Value->Shared->Prop}(I:Inv X pins σ H s)(e:H a=some (.ins C dx fs))(c:Cls X.K C)(n:NoAttr X.K C f)(l:fs.lookup f=some v)
  (h:∀u s',Inv X pins σ H s'->RelV v u->Q u s'):wpAny (model X.prog X.w) A (getAttr (.ref a) f b) Q E s:=by
 obtain⟨mA,O,r,_,_,_⟩:=Y3 I.hok e;obtain⟨u,hu,ru⟩:=RelO.some_of (v:=v) (o:=mA f) (by rw[<-l];exact r f);exact j25 I.kIn O (c.get f) c.hd n hu (X3 ru) (h u _ (I.tok _) ru)
theorem xj{m:Str}{g:Addr}{pl:Sem Bool}{Q:Value×List Value->Shared->Prop}(I:Inv X pins σ H s)(e:H a=some (.ins C dx fs))(c:Cls X.K C)(k:Meth X.K C m g)(l:fs.lookup m=none)
  (h:Q (.ref g,[.ref a]) s):wpAny (model X.prog X.w) A (getMethod (.ref a) m pl) Q E s:=by
 obtain⟨mA,O,r,_,_,_⟩:=Y3 I.hok e;have hn:mA m=none:=RelO.none_of (by rw[<-l];exact r m);exact j0I I.kIn O (c.get m) k.at_ k.fn hn h
theorem xO{y:V}{u:Value}{Q:Unit->Shared->Prop}(I:Inv X pins σ H s)(e:H a=some (.ins C dx fs))(c:Cls X.K C)(n:NoAttr X.K C f)(hl:fs.length<1000)(ry:RelV y u)
  (h:∀s',Inv X pins σ (upd H a (.ins C dx (putF f y fs))) s'->Q () s'):wpAny (model X.prog X.w) A (setAttr (.ref a) f u) Q E s:=by
 obtain⟨mA,O,r,wi,_,ho⟩:=Y3 I.hok e;have hz:(fs.map (·.1)).length<=sizeLine:=by rw[length_map,sizeLine_eq];omega
 refine j2r I.kIn O c.sa c.po n.taker c.hd wi hz fun h' O' sb=>h _ ?_
 have hd:∃o,h'.get? dx=some o:=let ⟨o,_,_,e',_⟩:=O'.ns;⟨o,e'⟩;refine I.write (x:=a) (e:=dx) (by rw[e];exact True.intro) (.inr ho) (fun b q hb z=>(sb.2 b hb).trans z) hd ?_;refine⟨by rw[jg O.ne];exact ho,?_,O.ne,O'.obj,_,O'.ns,fun g=>?_,fun g hg=>?_⟩
 ·have:=YQ f y fs;omega
 ·show RelO ((putF f y fs).lookup g) (if g=f then some u else mA g);rw[zt];by_cases q:g=f
  ·rw[if_pos q,if_pos q];exact ry
  ·rw[if_neg q,if_neg q];exact r g
 ·by_cases q:g=f
  ·rw[q];exact(Yq f y fs).1
  ·refine(Yq f y fs).2 g (wi g fun z=>hg ?_);show(if g=f then some u else mA g)=none;rw[if_neg q];exact z
theorem Inv.made(I:Inv X pins σ H s):Inv X pins σ (upd (upd H s.heap.objs.size (.own (s.heap.objs.size+1))) (s.heap.objs.size+1) (.ins C s.heap.objs.size []))
  {s with heap:=(s.heap.push PySem.W.emptyDict).push (PySem.W.instObj C s.heap.objs.size)}:=by
 have e1:(s.heap.push PySem.W.emptyDict).get? s.heap.objs.size=some PySem.W.emptyDict:=Heap.get?_push_size s.heap rfl;have e2:((s.heap.push PySem.W.emptyDict).push (PySem.W.instObj C s.heap.objs.size)).get? (s.heap.objs.size+1)=some (PySem.W.instObj C s.heap.objs.size):=by
  have:=Heap.get?_push_size (s.heap.push PySem.W.emptyDict) (o:=PySem.W.instObj C s.heap.objs.size) rfl
  rwa [Heap.size_push]at this
 have e3:(s.heap.push PySem.W.emptyDict).Ns s.heap.objs.size (fun _=>none):=⟨PySem.W.emptyDict,#[],_,e1,rfl,(fun e he=>absurd he (by simp)),fun _=>rfl⟩
 have I1:=I.laid (a:=s.heap.objs.size) (o:=.own (s.heap.objs.size+1)) (h':=s.heap.push PySem.W.emptyDict) (t':=s.toks) (fun b u q=>Heap.get?_push_of_some _ q) (Nat.le_refl _) ⟨_,e1⟩;refine I1.laid (a:=s.heap.objs.size+1) (o:=.ins C s.heap.objs.size []) (t':=s.toks) (fun b u q=>Heap.get?_push_of_some _ q) (Nat.le_of_eq (Heap.size_push _ _)) ?_;have ne:s.heap.objs.size≠s.heap.objs.size+1:=Nat.ne_of_lt (Nat.lt_succ_self _);refine⟨by rw[jg ne,jx],Nat.zero_le _,ne,e2,fun _=>none,(Heap.Ns1.of_empty e3).at fun o q=>Heap.get?_push_of_some _ q,fun _=>True.intro,fun y hy=>absurd rfl hy⟩
theorem j1W{prog:Program}{w:World}{env:Env}{e:Expr}{f:Str}{pos:Pos}{s:Shared}{Q:Value->Shared->Prop}(hb:attributeBase e f env (eval e env)=eval e env)
  (h:wpAny (model prog w) A (eval e env) (fun o s₁=>wpAny (model prog w) A (getAttr o f true) Q E s₁) E s):wpAny (model prog w) A (eval (.Attribute e f pos) env) Q E s:=
 Attribute_any_ h (by rw[arm_eval_Attribute,hb])
end
def tFld(K:Frg)(ta:TE)(f:Str):TE:=fun σ H Q=>ta σ H fun x H1=>∃a C dx fs v,x = .ref a/\H1 a=some (.ins C dx fs)/\Cls K C/\NoAttr K C f/\fs.lookup f=some v/\Q v H1
def sFld(K:Frg)(ta tv:TE)(f:Str):TS:=fun D σ H=>tv σ H fun y H1=>ta σ H1 fun x H2=>∃a C dx fs,x = .ref a/\H2 a=some (.ins C dx fs)/\Cls K C/\NoAttr K C f/\fs.length<1000/\
 D.nx σ (upd H2 a (.ins C dx (putF f y fs)))
section
variable{X:Cx}{o e value:Expr}{f:Str}{pos pos' tpos:Pos}{ta tv:TE}
theorem Jw(he:PE X e ta)(hb:attributeBase e f X.env (eval e X.env)=eval e X.env):PE X (.Attribute e f pos) (tFld X.K ta f):=by
 intro pins s σ H Q I h;refine j1W hb (thn (he pins s σ H _ I h) fun u s1 ⟨x,H1,I1,rx,a,C,dx,fs,v,ex,ea,c,n,l,q⟩=>?_);subst ex;obtain rfl:u=Value.ref a:=rx;exact xi I1 ea c n l fun u' s2 I2 ru=>⟨v,H1,I2,ru,q⟩
theorem zF(ha:PE X o ta)(hv:PE X value tv)(hs:swapsWith value (some (.Attribute o f pos')) pos.line X.env=pure false):PS X (.Assign [.Attribute o f pos'] value pos) (sFld X.K ta tv f):=by
 intro pins s σ H D I h;refine plainObj_wpAny_Assign_Attribute (thn (hv pins s σ H _ I h) fun u s1 ⟨y,H1,I1,ry,q⟩=>thn (ha pins s1 σ H1 _ I1 q) fun ov s2 ⟨x,H2,I2,rx,a,C,dx,fs,ex,ea,c,n,l,q2⟩=>?_) hs;subst ex;obtain rfl:ov=Value.ref a:=rx;exact xO I2 ea c n l ry fun s3 I3=>⟨σ,_,I3,q2⟩
end
section
variable{X:Cx}{pins:List (Addr×Obj)}{σ:St}{H:Hp}{s:Shared}{A:Around}{E:Value->Shared->Prop}{Q:Value->Shared->Prop}{c:Value}{b:Bool}
inductive TyOf(K:Frg)(H:Hp):V->Value->Prop where
 | non:TyOf K H .non (.type "NoneType")
 | bl (x:Bool):TyOf K H (.bl x) (.type "bool")
 | int (i:Int):TyOf K H (.int i) (.type "int")
 | str (x:Str):TyOf K H (.str x) (.type "str")
 | flt (x:UInt64):TyOf K H (.flt x) (.type "float")
 | lst {a:Addr} {xs:List V} (e:H a=some (.lst xs)):TyOf K H (.ref a) (.type "list")
 | frz {a:Addr} {o:Obj} {xs:List V} (e:H a=some (.frz o (.lst xs))):TyOf K H (.ref a) (.type "list")
 | tup {a:Addr} {xs:List V} (e:H a=some (.tup xs)):TyOf K H (.ref a) (.type "tuple")
 | dK {a:Addr} {kvs:List (Key×V)} (e:H a=some (.dK kvs)):TyOf K H (.ref a) (.type "dict")
 | dT {a:Addr} {kvs:List (List Key×V)} (e:H a=some (.dT kvs)):TyOf K H (.ref a) (.type "dict")
 | ins {a C dx:Addr} {fs:List (Str×V)} (e:H a=some (.ins C dx fs)) (cl:Cls K C) (ha:PySem.W.findIn K (.ref C) "__class__"= some (some (.builtin "object.__class__")))
   (hn:PySem.W.specialIn K (.builtin "object.__class__") "__get__"= some (some (.builtin "getset_descriptor.__get__"))) (htk:PySem.W.takesIn K (.builtin "object.__class__")=some true)
   (hm:PySem.W.mroIn K C (.type "object")=some true):TyOf K H (.ref a) (.ref C)
theorem X7{x:V}{u t:Value}(I:Inv X pins σ H s)(rx:RelV x u)(ty:TyOf X.K H x t)(e:PySem.W.kitOne X.K t c=some b)(h:∀tk,Q (.bool b) {s with toks:=tk}) :
  wpAny (model X.prog X.w) A (call (.builtin "isinstance") [u,c]) Q E s:=by
 cases ty with
 | non=>cases(show u=Value.none from rx);exact PySem.W.kia_one PySem.W.kitx_none I.kIn True.intro e (fun z=>nomatch z) h
 | bl y=>cases(show u=Value.bool y from rx);exact PySem.W.kia_one PySem.W.kitx_bool I.kIn True.intro e (fun z=>nomatch z) h
 | int i=>obtain⟨t,q⟩:=(show∃t,u=Value.int i t from rx);cases q;exact PySem.W.kia_one PySem.W.kitx_int I.kIn True.intro e (fun z=>nomatch z) h
 | str y=>obtain⟨t,q⟩:=(show∃t,u=Value.str y t from rx);cases q;exact PySem.W.kia_one PySem.W.kitx_str I.kIn True.intro e (fun z=>nomatch z) h
 | flt y=>obtain⟨t,q⟩:=(show∃t,u=Value.float y t from rx);cases q;exact PySem.W.kia_one PySem.W.kitx_float I.kIn True.intro e (fun z=>nomatch z) h
 | @lst a xs ea=>
  cases(show u=Value.ref a from rx);obtain⟨_,_,n,_,h1⟩:=(show ObjOk X.prog X.w H s.heap a (.lst xs)from I.hok a _ ea)
  exact PySem.W.kia_one PySem.W.kitx_list I.kIn ⟨_,h1,rfl⟩ e (fun z=>nomatch z) h
 | @frz a ob xs ea=>
  cases(show u=Value.ref a from rx);obtain⟨_,_,_,n,_,h1⟩:=(show ObjOk X.prog X.w H s.heap a (.frz ob (.lst xs))from I.hok a _ ea)
  exact PySem.W.kia_one PySem.W.kitx_list I.kIn ⟨_,h1,rfl⟩ e (fun z=>nomatch z) h
 | @tup a xs ea=>
  cases(show u=Value.ref a from rx);obtain⟨_,_,_,p⟩:=(show ObjOk X.prog X.w H s.heap a (.tup xs)from I.hok a _ ea)
  obtain⟨o,h1,h2,_⟩:=p;exact PySem.W.kia_one PySem.W.kitx_tuple I.kIn ⟨o,h1,h2⟩ e (fun z=>nomatch z) h
 | @dK a kvs ea=>
  cases(show u=Value.ref a from rx);obtain⟨_,_,vs,_,p⟩:=(show ObjOk X.prog X.w H s.heap a (.dK kvs)from I.hok a _ ea)
  obtain⟨o,es,ep,h1,h2,_⟩:=p;exact PySem.W.kia_one PySem.W.kitx_dict I.kIn ⟨o,h1,h2.1⟩ e (fun z=>nomatch z) h
 | @dT a kvs ea=>
  cases(show u=Value.ref a from rx);obtain⟨_,_,xs,_,o,es,ep,h1,h2,_⟩:=(show ObjOk X.prog X.w H s.heap a (.dT kvs)from I.hok a _ ea)
  exact PySem.W.kia_one PySem.W.kitx_dict I.kIn ⟨o,h1,h2.1⟩ e (fun z=>nomatch z) h
 | @ins a C dx fs ea cl ha hn htk hm=>
  cases(show u=Value.ref a from rx);obtain⟨mA,O,_⟩:=Y3 I.hok ea;obtain⟨od,J,_⟩:=O.look;exact PySem.W.kia_one (PySem.W.kitx_own (cl.get _) cl.hd ha hn htk hm) I.kIn J e (fun z=>nomatch z) h
end
structure Room(k:Nat)(A:Around):Prop where
 hd:A.handled=none
 dp:A.depth+3*k+5<recursionLimit
 un:A.units+16*k+200<cLine
theorem Room.mono{j k:Nat}{A:Around}(r:Room k A)(h:j<=k):Room j A:=⟨r.hd,by have:=r.dp;omega,by have:=r.un;omega⟩
theorem Room.deeper{k:Nat}{A:Around}(r:Room (k+1) A)(env:Env):Room k (A.deeper env):=
 ⟨r.hd,by have:=r.dp;show A.depth+1+3*k+5<_;omega,by have:=r.un;show A.units+3+16*k+200<_;omega⟩
theorem xv{A:Around}{C:Addr}{us:List Value}{kw:List (Str×Value)}:(A.under (.builtin "type.__call__" ⟨.ref C::us,kw⟩)).depth=A.depth+1:=by
 first | rfl | simp[Around.under,Code.weight,Code.isCreation,Code.isGuard,Code.isCaller,Code.frames,Code.isFrame,guardIds]
theorem xw{A:Around}{C:Addr}{us:List Value}{kw:List (Str×Value)}:(A.under (.builtin "type.__call__" ⟨.ref C::us,kw⟩)).units=A.units+1:=by
 first | rfl | simp[Around.under,Code.cUnits,Code.frames,Code.isFrame]
theorem Room.make{k:Nat}{A:Around}(r:Room (k+1) A)(C:Addr)(us:List Value)(kw:List (Str×Value)):Room k (A.under (.builtin "type.__call__" ⟨.ref C::us,kw⟩)):=
 ⟨r.hd,by have:=r.dp;rw[xv];omega,by have:=r.un;rw[xw];omega⟩
theorem Room.depth{k:Nat}{A:Around}(r:Room k A):A.depth<recursionLimit:=by have:=r.dp;omega
theorem Room.units{k:Nat}{A:Around}(r:Room k A):A.units+64<cLine:=by have:=r.un;omega
def tNil:TA:=fun _ H Q=>Q [] H
def tCons(ta:TE)(tr:TA):TA:=fun σ H Q=>ta σ H fun x H1=>tr σ H1 fun xs H2=>Q (x::xs) H2
section
variable{X:Cx}{e:Expr}{es:List Expr}{te:TE}{t:TA}{pos:Pos}
theorem jc:PA X [] tNil:=fun _ _ _ _ H Q I h=>Calls.spliced_nil ⟨[],H,I,.nil,h⟩
theorem ja(ha:PE X e te)(hr:PA X es t)(hs:starEach (e::es) X.env=(false,eval e X.env)::starEach es X.env:=by rfl):PA X (e::es) (tCons te t):=by
 intro pos pins s σ H Q I h;rw[hs];show wpAny _ _ (spliced ((false,eval e X.env)::backTo pos (starEach es X.env))) _ _ s;refine Calls.spliced_cons (thn (ha pins s σ H _ I h) fun u s1 ⟨x,H1,I1,r1,q1⟩=>?_);exact thn (hr pos pins s1 σ H1 _ I1 q1) fun us s2 ⟨xs,H2,I2,r2,q2⟩=>⟨x::xs,H2,I2,.cons r1 r2,q2⟩
def tTup(t:TA):TE:=fun σ H Q=>t σ H fun xs H1=>xs.length<=sizeLine/\∀p,H1 p=none->Q (.ref p) (upd H1 p (.tup xs))
def tLst(t:TA):TE:=fun σ H Q=>t σ H fun xs H1=>xs.length<=sizeLine/\∀p,H1 p=none->Q (.ref p) (upd H1 p (.lst xs))
theorem jR{x1}(h:PA X es t):PE X (.Tuple es x1 pos) (tTup t):=by
 intro pins s σ H Q I hq;refine wpAny_Tuple_spliced (thn (h pos pins s σ H _ I hq) fun us s1 ⟨xs,H1,I1,r,z,q⟩=>⟨by rw[<-r.length];exact z,?_⟩);have hf:H1 s1.heap.objs.size=none:=I1.hok.fresh (Nat.le_refl _);refine⟨.ref s1.heap.objs.size,upd H1 s1.heap.objs.size (.tup xs),I1.laid (t':=s1.toks) (fun b u e=>Heap.get?_push_of_some _ e) (Nat.le_refl _) ?_,rfl,q _ hf⟩;exact⟨z,us,r,⟨_,Heap.get?_push_size _ rfl,rfl,_,rfl⟩⟩
theorem jG(h:PA X es t):PE X (.List es pos) (tLst t):=by
 intro pins s σ H Q I hq;refine wpAny_List_spliced (thn (h pos pins s σ H _ I hq) fun us s1 ⟨xs,H1,I1,r,z,q⟩=>⟨by rw[<-r.length];exact z,?_⟩);have hf:H1 s1.heap.objs.size=none:=I1.hok.fresh (Nat.le_refl _);refine⟨.ref s1.heap.objs.size,upd H1 s1.heap.objs.size (.lst xs),I1.laid (t':=s1.toks) (fun b u e=>Heap.get?_push_of_some _ e) (Nat.le_refl _) ?_,rfl,q _ hf⟩;exact⟨z,us,0,r,Heap.get?_push_size _ rfl⟩
end
noncomputable abbrev Sp:=List V->Hp->VK->XK->Prop
noncomputable abbrev CXT:=List Env->Hp->Shared->XK->Value->Shared->Prop
structure Env0(P:Program)(w:World)(K:Frg)(mg:Str->Option Value)(base:Heap)(A:Around)(outer:List Env)(s:Shared)(H:Hp):Prop where
 frames:A.frames=some outer
 mod:Mod K mg base
 bs:∀b o,base.get? b=some o->s.heap.get? b=some o/\H b=none
 bsz:base.objs.size<=s.heap.objs.size
 funs:s.heap.FunFrames base outer
 frf:∀b∈frs outer,H b=none
 hok:HOk P w H s.heap
 bare:AllBare s.gens
def CE(outer:List Env)(P:Program)(w:World)(H:Hp)(s:Shared)(Q:VK)(u:Value)(s':Shared):Prop:=
 ∃v H',s'.os=s.os/\AllBare s'.gens/\Un (frs outer) [] H H' s.heap s'.heap/\HOk P w H' s'.heap/\RelV v u/\Q v H'
def CR(CX:CXT)(outer:List Env)(P:Program)(w:World)(H:Hp)(s:Shared)(Q:VK)(E:XK)(r:Result)(s':Shared):Prop:=
 match r with
 | .ok (.ret u)=>CE outer P w H s Q u s'
 | .ok _=>False
 | .error e=>CX outer H s E e s'
structure FnOk(P:Program)(w:World)(K:Frg)(mg:Str->Option Value)(base:Heap)(CX:CXT)(k:Nat)(f:Addr)(fd:FuncData)(ps:List Str)(sp:Sp):Prop where
 len:∀vs H Q E,sp vs H Q E->vs.length=ps.length
 run:∀(A:Around) (outer:List Env) (s:Shared) (H:Hp) (args:Args) (us:List Value) (vs:List V) (Q:VK) (E:XK),Room k A->Env0 P w K mg base A outer s H->BindsTo s fd args (ps.zip us)->Vals vs us->sp vs H Q E->
  codeAny (model P w) A (.call (.ref f) args) (CR CX outer P w H s Q E) s
theorem FnOk.mono{P:Program}{w:World}{K:Frg}{mg:Str->Option Value}{base:Heap}{CX:CXT}{j k:Nat}{f:Addr}{fd:FuncData}{ps:List Str}{sp:Sp}(F:FnOk P w K mg base CX j f fd ps sp)(h:j<=k) :
  FnOk P w K mg base CX k f fd ps sp:=⟨F.len,fun A outer s H args us vs Q E hr=>F.run A outer s H args us vs Q E (hr.mono h)⟩
theorem Env0.make{P:Program}{w:World}{K:Frg}{mg:Str->Option Value}{base:Heap}{A:Around}{outer:List Env}{s:Shared}{H:Hp}(e:Env0 P w K mg base A outer s H)(C:Addr)(us:List Value)(kw:List (Str×Value)) :
  Env0 P w K mg base (A.under (.builtin "type.__call__" ⟨.ref C::us,kw⟩)) outer s H:=⟨by first | exact e.frames | (simpa [Around.under,Code.envs,Code.isFrame,pushEnvs]using e.frames),e.mod,e.bs,e.bsz,e.funs,e.frf,e.hok,e.bare⟩
section
variable{X:Cx}{pins:List (Addr×Obj)}{σ:St}{H:Hp}{s s':Shared}
theorem Inv.env0(I:Inv X pins σ H s):Env0 X.prog X.w X.K X.mg X.base X.A X.stack s H:=
 ⟨I.ok.frames,I.ok.mod,I.bs,Nat.le_trans I.ok.bsz I.sz,I.stack,I.stkFree,I.hok,I.bare⟩
theorem Inv.after{Q:VK}{u:Value}(I:Inv X pins σ H s)(h:CE X.stack X.prog X.w H s Q u s'):EP X pins σ Q u s':=by
 obtain⟨v,H',os,bare,un,hok,r,q⟩:=h;obtain⟨hh,g,d,t,os'⟩:=s';obtain rfl:os'=s.os:=os;exact⟨v,H',I.call (h':=hh) (g':=g) (d':=d) (t':=t) (ch:=[]) un hok bare (fun b z=>absurd z (by simp)),r,q⟩
end
def tCall(sp:Sp)(dvs:List V)(E:XK)(t:TA):TE:=fun σ H Q=>t σ H fun vs H1=>sp (vs++dvs) H1 Q E
def tMeth(C:Addr)(m:Str)(sp:Sp)(dvs:List V)(E:XK)(ta:TE)(t:TA):TE:=fun σ H Q=>ta σ H fun x H1=>∃a dx fs,x = .ref a/\H1 a=some (.ins C dx fs)/\fs.lookup m=none/\
 t σ H1 fun vs H2=>sp (x::(vs++dvs)) H2 Q E
def tMake(C:Addr)(sp:Sp)(dvs:List V)(E:XK)(t:TA):TE:=fun σ H Q=>t σ H fun vs H1=>∀x dx,H1 x=none->H1 dx=none->dx≠x->
 sp (.ref x::(vs++dvs)) (upd (upd H1 dx (.own x)) x (.ins C dx [])) (fun v H2=>v = .non/\Q (.ref x) H2) E
def Binds(K:Frg)(fd:FuncData)(ps:List Str)(ds:List Value):Prop:=
 ∀(s:Shared) (us:List Value),K.In s.heap->(us++ds).length=ps.length->BindsTo s fd ⟨us,[]⟩ (ps.zip (us++ds))
theorem Binds.all{K:Frg}{fd:FuncData}{ps:List Str}(h:∀us:List Value,us.length=ps.length->bindArgs fd ⟨us,[]⟩=pure (ps.zip us)):Binds K fd ps []:=fun s us _ hl=>by
 rw[append_nil]at hl|-;exact .of_eq (h us hl)
def Passes(CX:CXT)(X:Cx)(E:XK):Prop:=∀(pins:List (Addr×Obj)) (σ:St) (H:Hp) (s:Shared) (e:Value) (s':Shared),Inv X pins σ H s->CX X.stack H s E e s'->X.xe e s'
section
variable{X:Cx}{CX:CXT}{k:Nat}{f C:Addr}{fd:FuncData}{ps:List Str}{sp:Sp}{dvs:List V}{ds:List Value}{E:XK}{x m:Str}{p pos apos:Pos}{e o:Expr}{es:List Expr}{ta:TE}{t:TA}
theorem j1t{pins:List (Addr×Obj)}{σ:St}{H:Hp}{s:Shared}{Q:VK}{us:List Value}{vs:List V}(F:FnOk X.prog X.w X.K X.mg X.base CX k f fd ps sp)(hr:Room k X.A)(hb:Binds X.K fd ps ds)(hd:Vals dvs ds)(hx:Passes CX X E)
  (I:Inv X pins σ H s) (r:Vals vs us) (h:sp (vs++dvs) H Q E):wpAny (model X.prog X.w) X.A (call (.ref f) us) (EP X pins σ Q) X.xe s:=by
 have r2:Vals (vs++dvs) (us++ds):=r.append hd;have hl:(us++ds).length=ps.length:=by rw[<-r2.length];exact F.len _ _ _ _ h
 refine wpAny_call (codeAny_mono (F.run X.A X.stack s H ⟨us,[]⟩ (us++ds) (vs++dvs) Q E hr I.env0 (hb s us I.kIn hl) r2 h) fun r s' hq=>?_);cases r with
 | error e=>exact hx pins σ H s e s' I hq
 | ok fl=>
  cases fl with
  | ret u=>exact I.after hq
  | next=>exact False.elim hq
  | brk=>exact False.elim hq
  | cont=>exact False.elim hq
theorem jh(F:FnOk X.prog X.w X.K X.mg X.base CX k f fd ps sp)(hr:Room k X.A)(hg:Gl X x)(hm:X.mg x=some (.ref f))(hk:PySem.W.keepIn X.K (.ref f)=true)(hb:Binds X.K fd ps ds)(hd:Vals dvs ds)(hx:Passes CX X E)
  (ha:PA X (e::es) t) (hdb:(x==("__debug__" : Str))=false:=by decide) (he:starEach (e::es) X.env=(false,eval e X.env)::starEach es X.env:=by rfl) (hpl:(backTo pos (starEach es X.env)).any (·.1)=false:=by rfl) :
  PE X (.Call (.Name x p) (e::es) [] pos) (tCall sp dvs E t):=by
 intro pins s σ H Q I h;refine wpAny_Call_Name_kw (K4 I hg hm ?_ hdb);refine PySem.W.callWith_K (h₀:=X.base) I.ok.mod.kin hk (thn (ha pos pins s σ H _ I h) fun us s1 ⟨vs,H1,I1,r,q⟩=>⟨I1.kIn,?_⟩) he hpl;exact j1t F hr hb hd hx I1 r q
theorem yU{pl:Sem Bool}(he:PE X o ta)(c:Cls X.K C)(hm:Meth X.K C m f)(F:FnOk X.prog X.w X.K X.mg X.base CX k f fd ps sp)(hr:Room k X.A)(hb:Binds X.K fd ps ds)(hd:Vals dvs ds)(hx:Passes CX X E)(ha:PA X (e::es) t)
  (hst:starEach (e::es) X.env=(false,eval e X.env)::starEach es X.env:=by rfl) (hpl:(backTo pos (starEach es X.env)).any (·.1)=false:=by rfl)
  (ht:eval (.Call (.Attribute o m apos) (e::es) [] pos) X.env=(do
   let ov <-eval o X.env
   standAt apos.atName
   let (f,first) <-holding [ov] (getMethod ov m pl)
   callWith pos f first (backTo pos (starEach (e::es) X.env)) (backToKw pos (keywordEach [] X.env))):=by rfl) :
  PE X (.Call (.Attribute o m apos) (e::es) [] pos) (tMeth C m sp dvs E ta t):=by
 intro pins s σ H Q I h;refine PySem.W.methodCall_KW (pl:=pl) (thn (he pins s σ H _ I h) fun u s1 ⟨x,H1,I1,rx,a,dx,fs,ex,ea,l,q⟩=>?_) ht;subst ex;obtain rfl:u=Value.ref a:=rx;refine xj I1 ea c hm l ?_;refine PySem.W.callWith_K (first:=[.ref a]) (h₀:=X.base) I.ok.mod.kin hm.kp (thn (ha pos pins s1 σ H1 _ I1 q) fun us s2 ⟨vs,H2,I2,r,q2⟩=>⟨I2.kIn,?_⟩) hst hpl;exact j1t (us:=.ref a::us) (vs:=.ref a::vs) F hr hb hd hx I2 (.cons rfl r) q2
structure Mk(K:Frg)(C f:Addr):Prop where
 makes:PySem.W.makesIn K C=true
 init:PySem.W.findIn K (.ref C) "__init__"= some (some (.ref f))
 fn:PySem.W.isFn K (.ref f)=true
 kp:PySem.W.keepIn K (.ref C)=true
theorem j1u{pins:List (Addr×Obj)}{σ:St}{H:Hp}{s:Shared}{Q:VK}{us:List Value}{vs:List V}(M:Mk X.K C f)(F:FnOk X.prog X.w X.K X.mg X.base CX k f fd ps sp)(hr:Room (k+1) X.A)(hb:Binds X.K fd ps ds)(hd:Vals dvs ds)
  (hx:Passes CX X E) (I:Inv X pins σ H s) (r:Vals vs us)
  (h:∀x dx,H x=none->H dx=none->dx≠x->sp (.ref x::(vs++dvs)) (upd (upd H dx (.own x)) x (.ins C dx [])) (fun v H2=>v = .non/\Q (.ref x) H2) E) :
  wpAny (model X.prog X.w) X.A (call (.ref C) us) (EP X pins σ Q) X.xe s:=by
 have hq:=h (s.heap.objs.size+1) s.heap.objs.size (I.hok.fresh (Nat.le_succ _)) (I.hok.fresh (Nat.le_refl _)) (Nat.ne_of_lt (Nat.lt_succ_self _));have I2:=Inv.made (C:=C) I;have r2:Vals (V.ref (s.heap.objs.size+1)::(vs++dvs)) (Value.ref (s.heap.objs.size+1)::(us++ds)):=.cons rfl (r.append hd);have hl:(Value.ref (s.heap.objs.size+1)::us++ds).length=ps.length:=by
  have e:=r2.length;rw[F.len _ _ _ _ hq]at e;exact e.symm
 refine wpAny_call (j0Y (f:=f) I.kIn M.makes M.init (beq_iff_eq.mp M.fn) (codeAny_mono (F.run _ X.stack _ _ ⟨Value.ref (s.heap.objs.size+1)::us,[]⟩ (Value.ref (s.heap.objs.size+1)::(us++ds)) _ _ E (hr.make C us [])
  (I2.env0.make C us []) (hb _ (Value.ref (s.heap.objs.size+1)::us) I2.kIn hl) r2 hq) fun r s' hq'=>?_))
 cases r with
 | error e=>exact hx pins σ _ _ e s' I2 hq'
 | ok fl=>
  cases fl with
  | ret u=>
   obtain⟨v,H',I3,rv,ev,q3⟩:=I2.after hq';subst ev;exact⟨rv,⟨V.ref (s.heap.objs.size+1),H',I3,rfl,q3⟩⟩
  | next=>exact False.elim hq'
  | brk=>exact False.elim hq'
  | cont=>exact False.elim hq'
theorem wC(M:Mk X.K C f)(F:FnOk X.prog X.w X.K X.mg X.base CX k f fd ps sp)(hr:Room (k+1) X.A)(hg:Gl X x)(hm:X.mg x=some (.ref C))(hb:Binds X.K fd ps ds)(hd:Vals dvs ds)(hx:Passes CX X E)
  (ha:PA X (e::es) t) (hdb:(x==("__debug__" : Str))=false:=by decide) (he:starEach (e::es) X.env=(false,eval e X.env)::starEach es X.env:=by rfl) (hpl:(backTo pos (starEach es X.env)).any (·.1)=false:=by rfl) :
  PE X (.Call (.Name x p) (e::es) [] pos) (tMake C sp dvs E t):=by
 intro pins s σ H Q I h;refine wpAny_Call_Name_kw (K4 I hg hm ?_ hdb);refine PySem.W.callWith_K (h₀:=X.base) I.ok.mod.kin M.kp (thn (ha pos pins s σ H _ I h) fun us s1 ⟨vs,H1,I1,r,q⟩=>⟨I1.kIn,?_⟩) he hpl;exact j1u M F hr hb hd hx I1 r q
end
section
variable{X:Cx}{CX:CXT}{k:Nat}{f C:Addr}{fd:FuncData}{ps ks:List Str}{sp:Sp}{E:XK}{x m:Str}{p pos apos kpos:Pos}{e o:Expr}{es:List Expr}{kws:List Keyword}{te ta:TE}{t tk:TA}{nm:Option Str}
variable{g:List Value->List Value->List Value}{gV:List V->List V->List V}
end
structure FnScope(N P:List Str)(sc:Scope):Prop where
 kind:sc.kind = .function
 co:sc.isCoroutine=false
 gen:sc.isGenerator=false
 nd:N.Nodup
 pre:N.take P.length=P
 par:∀x∈P,sc.names.lookup x=some .local\/sc.names.lookup x=some .cell
 nofree:∀y∈sc.names,y.2≠.free
theorem Kv{kindOf:Str->Option NameKind}{x:Str}:∀{binds:List (Str×Value)} {m:Str->Option Value},(∀v,(x,v)∉binds)->bindL kindOf binds m x=m x
 | [],_,_=>rfl
 | (n,v)::r,m,h=>by
  unfold bindL;rw[Kv fun w hw=>h w (mem_cons_of_mem _ hw)];split
  ·have:x≠n:=by rintro rfl;exact h v mem_cons_self
   simp[this]
  ·rfl
theorem Kt{kindOf:Str->Option NameKind}{x:Str}:∀{binds:List (Str×Value)} {m:Str->Option Value},(∀v,(x,v)∉binds)->bindC kindOf binds m x=m x
 | [],_,_=>rfl
 | (n,v)::r,m,h=>by
  unfold bindC;rw[Kt fun w hw=>h w (mem_cons_of_mem _ hw)];split
  ·rfl
  ·have:x≠n:=by rintro rfl;exact h v mem_cons_self
   simp[this]
theorem Ku{kindOf:Str->Option NameKind}{x:Str}{v:Value}:∀{P:List Str} {vs:List Value} {i:Nat} {m:Str->Option Value},P.Nodup->P[i]?=some x->vs[i]?=some v->kindOf x=some .local->
  bindL kindOf (P.zip vs) m x=some v
 | [],_,_,_,_,h,_,_=>by simp at h
 | _::_,[],_,_,_,_,h,_=>by simp at h
 | p::P,w::vs,0,m,nd,h1,h2,hk=>by
  simp at h1 h2;subst h1;subst h2;show bindL kindOf ((p,w)::P.zip vs) m p=_;unfold bindL;rw[Kv fun v hv=>(nodup_cons.mp nd).1 (of_mem_zip hv).1,if_pos hk];simp
 | p::P,w::vs,i+1,m,nd,h1,h2,hk=>by
  show bindL kindOf ((p,w)::P.zip vs) m x=_;unfold bindL;exact Ku (i:=i) (nodup_cons.mp nd).2 (by simpa using h1) (by simpa using h2) hk
theorem Ks{kindOf:Str->Option NameKind}{x:Str}{v:Value}:∀{P:List Str} {vs:List Value} {i:Nat} {m:Str->Option Value},P.Nodup->P[i]?=some x->vs[i]?=some v->kindOf x≠some .local->
  bindC kindOf (P.zip vs) m x=some v
 | [],_,_,_,_,h,_,_=>by simp at h
 | _::_,[],_,_,_,_,h,_=>by simp at h
 | p::P,w::vs,0,m,nd,h1,h2,hk=>by
  simp at h1 h2;subst h1;subst h2;show bindC kindOf ((p,w)::P.zip vs) m p=_;unfold bindC;rw[Kt fun v hv=>(nodup_cons.mp nd).1 (of_mem_zip hv).1,if_neg hk];simp
 | p::P,w::vs,i+1,m,nd,h1,h2,hk=>by
  show bindC kindOf ((p,w)::P.zip vs) m x=_;unfold bindC;exact Ks (i:=i) (nodup_cons.mp nd).2 (by simpa using h1) (by simpa using h2) hk
noncomputable def start(N:List Str)(vs:List V):St:=vs.map some++List.replicate (N.length-vs.length) none
noncomputable def cxOf(CX:CXT)(P:Program)(w:World)(K:Frg)(mg:Str->Option Value)(base:Heap)(N:List Str)(qual:Str)(scope:Scope)(f:Addr)(cd:Value)(A:Around)(outer:List Env)(s:Shared)(H:Hp)(E:XK):Cx where
 prog:=P
 w:=w
 K:=K
 mg:=mg
 base:=base
 A:=A.deeper (envOfC qual scope s.heap.objs.size f cd)
 N:=N
 s₀:=s
 H₀:=H
 env:=envOfC qual scope s.heap.objs.size f cd
 outer:=outer
 stack:=envOfC qual scope s.heap.objs.size f cd::outer
 ex:=[]
 calm:=true
 fn:=fun _=>true
 pn:=[]
 xe:=fun e s'=>wpAny (model P w) (A.deeper (envOfC qual scope s.heap.objs.size f cd)) (leaving (envOfC qual scope s.heap.objs.size f cd) e) (fun _ s''=>CX outer H s E e s'') (fun e' s''=>CX outer H s E e' s'') s'
theorem Wb{sc:Scope}{n:Nat}{x:Str}(h:sc.names.lookup x=some .cell):∃c,(cellsFrom n sc.names []).lookup x=some c:=by
 have q:=PySem.W.cellsFrom_some sc.names n [] (.inl h);exact Option.isSome_iff_exists.mp q
theorem X6{CX:CXT}{P:Program}{w:World}{K:Frg}{mg:Str->Option Value}{base:Heap}{N ps:List Str}{qual:Str}{scope:Scope}{f:Addr}{cd:Value}{A:Around}{outer:List Env}{s s1:Shared}{H:Hp}{E:XK}{us:List Value}{vs:List V}
  (S:FnScope N ps scope) (hd:A.handled=none) (e0:Env0 P w K mg base A outer s H) (hl:vs.length=ps.length) (r:Vals vs us)
  (x:InCallC s s.heap.objs.size (bindL (envOfC qual scope s.heap.objs.size f cd).kindOf (ps.zip us) fun _=>none) (cellsFrom (s.heap.objs.size+1) scope.names []) (bindC (envOfC qual scope s.heap.objs.size f cd).kindOf (ps.zip us) fun _=>none) s1) :
  Inv (cxOf CX P w K mg base N qual scope f cd A outer s H E) [] (start N vs) H s1:=by
 have hpl:ps.length<=N.length:=by have:=congrArg List.length S.pre;rw[length_take]at this;omega
 obtain⟨h1,tk,rfl,hk⟩:=x.done;have noA:∀b:Addr,b∉(cxOf CX P w K mg base N qual scope f cd A outer s H E).ex:=fun b z=>absurd (show b∈([]:List Addr)from z) (by simp)
 refine⟨⟨e0.mod,S.kind,rfl,rfl,Nat.le_refl _,fun y z c h1 h2=>?_,fun y hy=>?_,fun y c _ h=>?_,fun _=>hd,Around.frames_deeper e0.frames,.inr ⟨rfl,rfl⟩,fun b z=>absurd z (noA b),e0.bs,e0.bsz,fun b _ _=>noA b,fun b z=>absurd z (noA b),e0.funs,e0.frf⟩,
  rfl,e0.bare,Un.kept hk,⟨_,x.toInCall.ns,fun i y v h1 h2 h3=>?_⟩,fun y c h=>⟨_,x.cell y c h⟩,e0.hok.fresh (Nat.le_refl _),fun y c h=>?_,fun p hp=>absurd (show p∈([]:List (Addr×Obj))from hp) (by simp),e0.hok.kept hk,?_⟩
 ·exact name_of_addr x.apart (PySem.mem_of_lookup h1) (PySem.mem_of_lookup h2)
 ·have hy:scope.names.lookup y=some .cell\/scope.names.lookup y=some .free:=hy;rcases hy with hy | hy
  ·exact Wb hy
  ·exact absurd rfl (S.nofree _ (PySem.mem_of_lookup hy))
 ·exact Nat.le_of_lt (x.above y c (PySem.mem_of_lookup h))
 ·have hi:i<vs.length:=by
   unfold start at h2;by_cases hi:i<vs.length
   ·exact hi
   ·rw[List.getElem?_append_right (by simpa using hi)]at h2;rw[List.getElem?_replicate]at h2;split at h2<;>cases h2
  have ha:vs[i]?=some v:=by
   unfold start at h2;rw[List.getElem?_append_left (by simpa using hi),List.getElem?_map]at h2;cases e:vs[i]? with
   | none=>rw[e]at h2;cases h2
   | some a=>rw[e]at h2;cases h2;rfl
  obtain⟨u,hu,rv⟩:=r.get ha;have hp:ps[i]?=some y:=by
   rw[<-S.pre,List.getElem?_take_of_lt (by omega)];exact h1
  have ndP:ps.Nodup:=by rw[<-S.pre];exact S.nd.sublist (take_sublist _ _)
  refine⟨u,rv,?_⟩;rcases S.par y (List.mem_of_getElem? hp)with k | k
  ·exact .inl ⟨k,Ku ndP hp hu k⟩
  ·obtain⟨c,e⟩:=Wb (n:=s.heap.objs.size+1) k;refine .inr ⟨.inl k,c,e,?_⟩;have q:=x.cell y c e;rw[Ks ndP hp hu (by show scope.names.lookup y≠_;rw[k];decide)]at q;exact q
 ·exact e0.hok.fresh (Nat.le_of_lt (x.above y c (PySem.mem_of_lookup h)))
 ·unfold start;show _=N.length;rw[List.length_append,length_map,List.length_replicate];omega
theorem j2A{CX:CXT}{P:Program}{w:World}{K:Frg}{mg:Str->Option Value}{base:Heap}{k:Nat}{f:Addr}{name qual:Str}{params:Arguments}{body:List Stmt}{scope:Scope}{dV kV doc pm cdv ct oc:Value}{an od:Option Addr}
  {osl:Array (Option Value)} {N ps:List Str} {sp:Sp} (lk:K.lookup f=some ⟨oc,od,.func (PySem.W.fnOf name qual params body scope dV kV doc pm an cdv ct),osl⟩) (hcd:PySem.W.codeIn K cdv qual=true) (S:FnScope N ps scope)
  (len:∀vs H Q E,sp vs H Q E->vs.length=ps.length)
  (hbody:∀(A:Around) (outer:List Env) (s:Shared) (H:Hp) (vs:List V) (Q:VK) (E:XK),Room k (A.deeper (envOfC qual scope s.heap.objs.size f cdv))->sp vs H Q E->
   ∃t,PSs (cxOf CX P w K mg base N qual scope f cdv A outer s H E) body t/\t {nx:=fun _ H'=>Q .non H',rt:=Q} (start N vs) H) :
  FnOk P w K mg base CX (k+1) f (PySem.W.fnOf name qual params body scope dV kV doc pm an cdv ct) ps sp:=by
 refine⟨len,fun A outer s H args us vs Q E hr e0 hb r hsp=>?_⟩;have hl:=len _ _ _ _ hsp;have KX:K.In s.heap:=e0.mod.kin.keeps fun b o e=>(e0.bs b o e).1
 have lim:s.heap.NoLimit:=e0.mod.nolimit.keeps fun b o e=>(e0.bs b o e).1
 have hkind:∀y∈ps.zip us,scope.names.lookup y.1=some .local\/(scope.names.lookup y.1=some .cell/\((cellsFrom (s.heap.objs.size+1) scope.names []).lookup y.1).isSome=true):=fun⟨n,v⟩ hy=>by
  rcases S.par n (of_mem_zip hy).1 with q | q
  ·exact .inl q
  ·exact .inr ⟨q,PySem.W.cellsFrom_some _ _ _ (.inl q)⟩
 refine codeAny_call_function hr.depth (KX _ _ lk) rfl S.co S.gen rfl (PySem.W.codeRec_of KX hcd) (hb _ _ _ _ ?_);refine wpAny_newFunctionEnv_cells S.kind hkind fun env he s1 x=>?_
 subst he;refine⟨lim.keeps x.toInCall.keep,codeAny_func ?_⟩;obtain⟨t,ht,hq⟩:=hbody A outer s H vs Q E (hr.deeper _) hsp;have I:Inv (cxOf CX P w K mg base N qual scope f cdv A outer s H E) [] (start N vs) H s1:=X6 S hr.hd e0 hl r x;refine wpAny_mono (ht [] s1 (start N vs) H _ I hq) (fun fl s' hs=>?_) fun e s' hs=>hs
 have fin:∀{σ':St} {H':Hp} {v:V} {u:Value},Inv (cxOf CX P w K mg base N qual scope f cdv A outer s H E) [] σ' H' s'->RelV v u->Q v H'->CE outer P w H s Q u s':=
  fun {σ' H' v u} J rv q=>⟨v,H',J.os,J.bare,J.base,J.hok,rv,q⟩
 cases fl with
 | ret u=>
  obtain⟨v,σ',H',J,rv,q⟩:=hs;exact fin J rv q
 | next=>
  obtain⟨σ',H',J,q⟩:=hs;exact fin (v:=V.non) (u:=Value.none) J rfl q
 | brk=>
  obtain⟨_,_,_,q⟩:=hs;exact False.elim q
 | cont=>
  obtain⟨_,_,_,q⟩:=hs;exact False.elim q
section
variable{X:Cx}{x:Str}{p pos:Pos}{e:Expr}{es:List Expr}{t:TA}{id T:String}{r:List V->Hp->VK->Prop}
def tCB(r:List V->Hp->VK->Prop)(t:TA):TE:=fun σ H Q=>t σ H fun vs H1=>r vs H1 Q
theorem jA(hc:CallR X (.builtin id) r)(hg:Gl X x)(hm:X.mg x=none)(hv:bootBuiltins x=some (.builtin id))(ha:PA X (e::es) t)(hn:x≠"__name__":=by decide)(hdb:(x==("__debug__" : Str))=false:=by decide)
  (he:starEach (e::es) X.env=(false,eval e X.env)::starEach es X.env:=by rfl) (hpl:(backTo pos (starEach es X.env)).any (·.1)=false:=by rfl):PE X (.Call (.Name x p) (e::es) [] pos) (tCB r t):=by
 intro pins s σ H Q I h;refine wpAny_Call_Name_kw (Z9 I hg hm hv ?_ hn hdb);exact PyProof.Rows.callWith_builtin1 (thn (ha pos pins s σ H _ I h) fun us s1 ⟨vs,H1,I1,r1,q1⟩=>hc pins s1 σ H1 vs us Q I1 r1 q1) he hpl
theorem Qx(hc:CallR X (.type T) r)(hg:Gl X x)(hm:X.mg x=none)(hv:bootBuiltins x=some (.type T))(ha:PA X (e::es) t)(hn:x≠"__name__":=by decide)(hdb:(x==("__debug__" : Str))=false:=by decide)
  (he:starEach (e::es) X.env=(false,eval e X.env)::starEach es X.env:=by rfl) (hpl:(backTo pos (starEach es X.env)).any (·.1)=false:=by rfl):PE X (.Call (.Name x p) (e::es) [] pos) (tCB r t):=by
 intro pins s σ H Q I h;refine wpAny_Call_Name_kw (Z9 I hg hm hv ?_ hn hdb);exact PyProof.Rows.callWith_type1 (thn (ha pos pins s σ H _ I h) fun us s1 ⟨vs,H1,I1,r1,q1⟩=>hc pins s1 σ H1 vs us Q I1 r1 q1) he hpl
end
end L2
namespace HT
open PySem PyProof.Rows
section
open PySem.SeqAt
open PySem.AutoSeq1 (wpAny_loadPart')
open PySem.MeetsSeq PySem.MeetsSeq2 PySem.MeetsSeq3
end
section
variable{prog:Program}{w:World}{A:Around}{E:Value->Shared->Prop}{s:Shared}
noncomputable def sIx(n d:Nat):Option Int->Nat
 | none=>d
 | some v=>if v<0 then(v+(n:Int)).toNat else min v.toNat n
theorem j39(n d:Nat)(hd:d<=n)(o:Option Int):sIx n d o<=n:=by
 cases o with
 | none=>exact hd
 | some v=>
  show(if v<0 then(v+(n:Int)).toNat else min v.toNat n)<=n;by_cases hv:v<0
  ·rw[if_pos hv];omega
  ·rw[if_neg hv];exact Nat.min_le_right _ _
theorem Xf(v:Int)(n d:Nat):(if v<0 then max (v+(n:Int)) 0 else min v (n:Int))=((sIx n d (some v):Nat):Int):=by
 show(if v<0 then max (v+(n:Int)) 0 else min v (n:Int))=(((if v<0 then(v+(n:Int)).toNat else min v.toNat n):Nat):Int)
 by_cases hv:v<0
 ·simp only[if_pos hv];omega
 ·simp only[if_neg hv];omega
theorem W0(lo hi:Option Int)(n:Nat):Builtin.Slice.sliceAdjust lo hi 1 (n:Int)=(((sIx n 0 lo:Nat):Int),((sIx n n hi:Nat):Int)):=by
 have h1:¬((1:Int)<0):=by omega
 unfold Builtin.Slice.sliceAdjust;simp only[h1,if_false];refine Prod.ext ?_ ?_
 ·cases lo with
  | none=>rfl
  | some v=>exact Xf v n 0
 ·cases hi with
  | none=>rfl
  | some v=>exact Xf v n n
theorem xI(i j:Nat):Builtin.Slice.slicePlaces (i:Int) (j:Int) 1=j-i:=by
 unfold Builtin.Slice.slicePlaces;have h1:(1:Int)>0:=by omega
 simp only[h1,if_true,Int.ediv_one];split<;>omega
theorem slicePart_{v:Value}{o:Option Int}{Q:Option Int->Shared->Prop}(p:IsPart v o)(h:Q o s):wpAny (model prog w) A (Builtin.Slice.slicePartIndex v) Q E s:=by
 cases p with
 | none=>exact slicePart_none h
 | int i t=>exact slicePart_int h
theorem zS{sl:Addr}{vl vu:Value}{lo hi:Option Int}{n:Nat}{Q:Int×Int×Nat->Shared->Prop}(hs:s.heap.IsSliceOf sl vl vu .none)(pl:IsPart vl lo)(pu:IsPart vu hi)
  (h:Q (((sIx n 0 lo:Nat):Int),1,sIx n n hi-sIx n 0 lo) s):wpAny (model prog w) A (Builtin.Slice.sliceApplied (.ref sl) (pure (n:Int))) Q E s:=by
 obtain⟨os,hos,hcs,hds⟩:=id hs;unfold Builtin.Slice.sliceApplied Builtin.Slice.sliceFields;refine wpAny_bind (wpAny_bind (wpAny_field hos hds (x:=vl) rfl (wpAny_bind (wpAny_field hos hds (x:=vu) rfl (wpAny_bind (wpAny_field hos hds (x:=.none) rfl (wpAny_pure ?_)))))));refine wpAny_bind (slicePart_none ?_);show wpAny _ _ (if((1:Int)==0)=true then _ else _) _ _ s;rw[if_neg (by decide)];refine wpAny_bind (slicePart_ pl (wpAny_bind (slicePart_ pu (wpAny_bind (wpAny_pure ?_)))));show wpAny _ _ (match Builtin.Slice.sliceAdjust lo hi 1 (n:Int)with | (lo,hi)=>pure (lo,(1:Int),Builtin.Slice.slicePlaces lo hi 1)) _ _ s;rw[W0 lo hi n];show wpAny _ _ (pure (((sIx n 0 lo:Nat):Int),(1:Int),Builtin.Slice.slicePlaces ((sIx n 0 lo:Nat):Int) ((sIx n n hi:Nat):Int) 1)) _ _ s;rw[xI];exact wpAny_pure h
theorem j1i(xs:Array Value)(i k:Nat):((List.range k).filterMap fun(m:Nat)=>xs[((i:Int)+(m:Int)*1).toNat]?).toArray=((xs.toList.drop i).take k).toArray:=by
 have e:(fun(m:Nat)=>xs[((i:Int)+(m:Int)*1).toNat]?)=fun m=>xs[i+m]?:=by
  funext m;have:((i:Int)+(m:Int)*1).toNat=i+m:=by omega
  rw[this]
 rw[e];have:=pick_run xs i k;rw[List.filterMap_map]at this;have e2:((fun x=>xs[x]?)∘fun x=>i+x)=fun m=>xs[i+m]?:=rfl
 rw[e2]at this;rw[this]
theorem yH{t sl:Addr}{items:Array Value}{vl vu:Value}{lo hi:Option Int}{Q:Value->Shared->Prop}(ht:IsTup s.heap t items)(hs:s.heap.IsSliceOf sl vl vu .none)(pl:IsPart vl lo)(pu:IsPart vu hi)
  (hw:¬(sIx items.size 0 lo=0/\sIx items.size items.size hi=items.size))
  (h:Q (.ref s.heap.objs.size) {s with heap:=s.heap.push {cls:=.type "tuple",data:=.seq ((items.toList.drop (sIx items.size 0 lo)).take (sIx items.size items.size hi-sIx items.size 0 lo)).toArray}})
  (hsz:items.size<=sizeLine):wpAny (model prog w) A (getItem (.ref t) (.ref sl)) Q E s:=by
 have htake:sizeOk (.seq ((items.toList.drop (sIx items.size 0 lo)).take (sIx items.size items.size hi-sIx items.size 0 lo)).toArray):=by
  show((items.toList.drop (sIx items.size 0 lo)).take (sIx items.size items.size hi-sIx items.size 0 lo)).toArray.size<=sizeLine;rw[size_toArray,length_take,List.length_drop,Array.length_toList];omega
 have hj:sIx items.size items.size hi<=items.size:=j39 _ _ (Nat.le_refl _) hi;obtain⟨os,hos,hcs,hds⟩:=id hs;have hTs:s.TypeIs (.ref sl) "slice":=⟨os,hos,hcs⟩
 unfold getItem
 try with_reducible refine wpAny_holding ?_
 first | refine wpAny_bind (wpAny_pure ?_) | skip
 refine wpAny_bind (wpAny_sequenceKey ht.typeIs (by decide) ?_);refine wpAny_bind (wpAny_callSpecial?_slot (name:=Str.ofString "__getitem__") ht.typeIs PyProof.Rows.slot_tuple_getitem
  (wpAny_call_entry PyProof.Rows.slot_tuple_getitem ht.typeIs entry_tuple_getitem ?_ (args_tuple_getitem _ _)))
 show wpAny _ _ (Builtin.Tuple.tupleItemsOf (.ref t) >>= _) _ _ s;refine wpAny_bind (tupleItemsOf_ ht ?_);refine wpAny_bind (wpAny_typeOf hTs ?_);rw[if_pos (by decide)];refine wpAny_bind (zS hs pl pu ?_);have hno:¬((((sIx items.size 0 lo:Nat):Int)==0&&(1:Int)==1&&(sIx items.size items.size hi-sIx items.size 0 lo)==items.size)=true):=by
  intro q;rw[Bool.and_eq_true,Bool.and_eq_true]at q;have q1:((sIx items.size 0 lo:Nat):Int)=0:=eq_of_beq q.1.1;have q2:sIx items.size items.size hi-sIx items.size 0 lo=items.size:=eq_of_beq q.2;exact hw ⟨by omega,by omega⟩
 show wpAny _ _ (if(((sIx items.size 0 lo:Nat):Int)==0&&(1:Int)==1&&(sIx items.size items.size hi-sIx items.size 0 lo)==items.size)=true then _ else _) _ _ s;rw[if_neg hno,j1i]
 first
  | exact wpAny_bind (m:=Builtin.Tuple.tupleExact _) (wpAny_newObj_type (wpAny_pure ⟨_,rfl,wpAny_pure h⟩) htake)
  | exact wpAny_bind (m:=Builtin.Tuple.tupleExact _) (wpAny_newObj_type (wpAny_bind (wpAny_pure (wpAny_pure ⟨_,rfl,wpAny_pure h⟩))) htake)
  | exact wpAny_bind (wpAny_bind (m:=Builtin.Tuple.tupleExact _) (wpAny_newObj_type (wpAny_pure (wpAny_pure ⟨_,rfl,wpAny_pure h⟩)) htake))
  | exact wpAny_bind (wpAny_bind (m:=Builtin.Tuple.tupleExact _) (wpAny_newObj_type (wpAny_pure ⟨_,rfl,wpAny_pure h⟩) htake))
end
end HT
namespace L2
open PySem PySem.Spec PyProof.Rows
noncomputable abbrev TO:=St->Hp->(Option Int->Hp->Prop)->Prop
def PO(X:Cx)(e:Option Expr)(t:TO):Prop:=
 ∀(pins:List (Addr×Obj)) (s:Shared) (σ:St) (H:Hp) (Q:Option Int->Hp->Prop),Inv X pins σ H s->t σ H Q->
  wpAny (model X.prog X.w) X.A (evalPart e X.env) (fun u s'=>∃o H',Inv X pins σ H' s'/\IsPart u o/\Q o H') X.xe s
def tNoPart:TO:=fun _ H Q=>Q none H
def tPart(t:TE):TO:=fun σ H Q=>t σ H fun x H1=>∃i,x = .int i/\Q (some i) H1
theorem intsAre_of{ns:List Int}:∀{us:List Value},Vals (ns.map V.int) us->IntsAre us ns:=by
 induction ns with
 | nil=>intro us r;rw[map_nil]at r;cases r;exact .nil
 | cons n ns ih=>
  intro us r;rw[map_cons]at r;cases r with
  | cons r1 r2=>
   obtain⟨t,e⟩:=r1;subst e;exact .cons n t (ih r2)
section
variable{X:Cx}{e:Expr}{te:TE}{lo hi:Option Expr}{tl th:TO}{pos p2:Pos}
theorem Z1:PO X none tNoPart:=by
 intro pins s σ H Q I h;rw[evalPart_none];exact wpAny_pure ⟨none,H,I,.none,h⟩
theorem Zl(h:PE X e te):PO X (some e) (tPart te):=by
 intro pins s σ H Q I hw;rw[evalPart_some];refine thn (h pins s σ H _ I hw) fun u s1 ⟨x,H1,I1,r1,q1⟩=>?_
 obtain⟨i,rfl,q⟩:=q1;obtain⟨t,rfl⟩:=r1;exact⟨some i,H1,I1,.int i t,q⟩
def SlR(X:Cx)(r:V->Option Int->Option Int->Hp->VK->Prop):Prop:=
 ∀(pins:List (Addr×Obj)) (s:Shared) (σ:St) (H:Hp) (x:V) (v vl vu:Value) (lo hi:Option Int) (sl:Addr) (Q:VK),Inv X pins σ H s->RelV x v->s.heap.IsSliceOf sl vl vu .none->IsPart vl lo->IsPart vu hi->r x lo hi H Q->
  ∃T id,typeLookup (.type T) "__getitem__"= pure (some (.builtin id))/\s.TypeIs v T/\wpAny (model X.prog X.w) X.A (getItem v (.ref sl)) (EP X pins σ Q) X.xe s
theorem SlR.or{r r':V->Option Int->Option Int->Hp->VK->Prop}(h:SlR X r)(h':SlR X r'):SlR X (fun x lo hi H Q=>r x lo hi H Q\/r' x lo hi H Q):=by
 intro pins s σ H x v vl vu lo hi sl Q I rx hs pl pu q;rcases q with q | q
 ·exact h pins s σ H x v vl vu lo hi sl Q I rx hs pl pu q
 ·exact h' pins s σ H x v vl vu lo hi sl Q I rx hs pl pu q
def tSl(r:V->Option Int->Option Int->Hp->VK->Prop)(te:TE)(tl th:TO):TE:=fun σ H Q=>te σ H fun x H1=>tl σ H1 fun l H2=>th σ H2 fun u H3=>r x l u H3 Q
theorem zQ{r:V->Option Int->Option Int->Hp->VK->Prop}(hr:SlR X r)(he:PE X e te)(hl:PO X lo tl)(hu:PO X hi th):PE X (.Subscript e (.Slice lo hi none p2) pos) (tSl r te tl th):=by
 intro pins s σ H Q I h;refine Subscript_ (thn (he pins s σ H _ I h) fun v s1 ⟨x,H1,I1,r1,q1⟩=>?_);refine wpAny_Slice (thn (hl pins s1 σ H1 _ I1 q1) fun vl s2 ⟨l,H2,I2,pl,q2⟩=>thn (hu pins s2 σ H2 _ I2 q2) fun vu s3 ⟨u,H3,I3,pu,q3⟩=>?_);rw[evalPart_none];refine wpAny_pure ?_;have I4:Inv X pins σ H3 {s3 with heap:=s3.heap.push {cls:=.type "slice",data:=.fields #[vl,vu,.none]}}:=I3.kept (t':=s3.toks) fun b ob q=>Heap.get?_push_of_some _ q
 obtain⟨T,id,hT,ht,hg⟩:=hr pins {s3 with heap:=s3.heap.push {cls:=.type "slice",data:=.fields #[vl,vu,.none]}} σ H3 x v vl vu l u s3.heap.objs.size Q I4 r1 (Heap.IsSliceOf.new ..) pl pu q3;show wpAny (model X.prog X.w) X.A (subscriptTail e (.Slice lo hi none p2) v (.ref s3.heap.objs.size)) (EP X pins σ Q) X.xe {s3 with heap:=s3.heap.push {cls:=.type "slice",data:=.fields #[vl,vu,.none]}};exact tail_any (ops:=[.ref s3.heap.objs.size,v]) ht hT hg (by with_unfolding_all rfl)
noncomputable def cutV(xs:List V)(lo hi:Option Int):List V:=(xs.drop (HT.sIx xs.length 0 lo)).take (HT.sIx xs.length xs.length hi-HT.sIx xs.length 0 lo)
theorem zr(xs:List V)(lo hi:Option Int):(cutV xs lo hi).length<=xs.length:=by
 unfold cutV;rw[length_take,List.length_drop];omega
noncomputable def rSlT(K:Frg):V->Option Int->Option Int->Hp->VK->Prop:=fun x lo hi H Q=>∃a xs,x = .ref a/\SqT K H a xs/\
 ¬(HT.sIx xs.length 0 lo=0/\HT.sIx xs.length xs.length hi=xs.length)/\∀p,H p=none->Q (.ref p) (upd H p (.tup (cutV xs lo hi)))
theorem j1A:SlR X (rSlT X.K):=by
 intro pins s σ H x v vl vu lo hi sl Q I rx hs pl pu h;obtain⟨a,xs,rfl,hx,hw,q⟩:=h;cases rx;obtain⟨its,r,ht,hz⟩:=I.tuple hx;have hlen:its.toArray.size=xs.length:=by rw[size_toArray];exact r.length.symm
 refine⟨"tuple",_,PyProof.Rows.slot_tuple_getitem.lookup,ht.typeIs,?_⟩;refine HT.yH ht hs pl pu (by rw[hlen];exact hw) ?_ (by rw[hlen];exact hz);rw[hlen];refine⟨.ref s.heap.objs.size,_,I.laid (t':=s.toks) (o:=.tup (cutV xs lo hi)) (fun b ob q=>Heap.get?_push_of_some _ q) (Nat.le_refl _) ?_,rfl,q _ (I.hok.fresh (Nat.le_refl _))⟩;exact⟨Nat.le_trans (zr xs lo hi) hz,_,(r.drop (HT.sIx xs.length 0 lo)).take (HT.sIx xs.length xs.length hi-HT.sIx xs.length 0 lo),IsTup.new _ _⟩
end
noncomputable def ixN(n:Nat)(i:Int):Option Nat:=if 0<=i then(if i<n then some i.toNat else none)else if -(n:Int)<=i then some (i+n).toNat else none
noncomputable def atI{α:Type}(xs:List α)(i:Int):Option α:=(ixN xs.length i).bind fun j=>xs[j]?
theorem Xp{n:Nat}{i:Int}{j:Nat}(h:ixN n i=some j):seqIndex? i n=some j/\j<n/\-(n:Int)<=i/\i<n:=by
 unfold ixN at h;by_cases h0:0<=i
 ·rw[if_pos h0]at h;by_cases h1:i<n
  ·rw[if_pos h1]at h;have e:i.toNat=j:=Option.some.inj h;exact⟨by rw[seqIndex_of h0 h1,e],by omega,by omega,h1⟩
  ·rw[if_neg h1]at h;cases h
 ·rw[if_neg h0]at h;by_cases h1 : -(n:Int)<=i
  ·rw[if_pos h1]at h;have e:(i+n).toNat=j:=Option.some.inj h;exact⟨by rw[seqIndex_neg (by omega) h1,e],by omega,h1,by omega⟩
  ·rw[if_neg h1]at h;cases h
theorem KQ{α:Type}{xs:List α}{i:Int}{v:α}(h:atI xs i=some v):∃j,seqIndex? i xs.length=some j/\xs[j]?=some v/\j<xs.length/\-(xs.length:Int)<=i/\i<xs.length:=by
 unfold atI at h;cases e:ixN xs.length i with
 | none=>rw[e]at h;cases h
 | some j=>
  rw[e]at h;obtain⟨h1,h2,h3,h4⟩:=Xp e;exact⟨j,h1,h,h2,h3,h4⟩
theorem jY{α:Type}{xs:List α}{j:Nat}{v:α}(h:xs[j]?=some v):atI xs (j:Int)=some v:=by
 have hj:j<xs.length:=(List.getElem?_eq_some_iff.mp h).1;have e:ixN xs.length (j:Int)=some j:=by
  unfold ixN;rw[if_pos (by omega),if_pos (by omega)];simp
 unfold atI;rw[e];exact h
def PlainIx(b:Expr):Prop:=∀o i,subscripted b false o i=operate [o,i] (getItem o i)
def IxR(X:Cx)(r:R2):Prop:=
 ∀(value slice:Expr) (pins:List (Addr×Obj)) (s:Shared) (σ:St) (H:Hp) (x y:V) (v u:Value) (Q:VK),Inv X pins σ H s->RelV x v->RelV y u->r x y H Q->
  subscripted slice false v u=operate [v,u] (getItem v u)->wpAny (model X.prog X.w) X.A (subscriptTail value slice v u) (EP X pins σ Q) X.xe s
def MtR(X:Cx)(id:String)(r:V->List V->Hp->VK->Prop):Prop:=
 ∀(pins:List (Addr×Obj)) (s:Shared) (σ:St) (H:Hp) (x:V) (xs:List V) (v:Value) (us:List Value) (Q:VK),Inv X pins σ H s->RelV x v->Vals xs us->r x xs H Q->
  wpAny (model X.prog X.w) X.A (call (.builtin id) (v::us)) (EP X pins σ Q) X.xe s
section
variable{X:Cx}{a b:Expr}{ta tb:TE}{pos:Pos}
theorem ji{r:R2}(hr:IxR X r)(ha:PE X a ta)(hb:PE X b tb)(hs:PlainIx b:=by exact fun _ _=>rfl):PE X (.Subscript a b pos) (tOp r ta tb):=by
 intro pins s σ H Q I h;exact Subscript_ (binT ha hb I h fun v u s2 x y H2 I2 rx ry q=>hr a b pins s2 σ H2 x y v u Q I2 rx ry q (hs _ _))
def rIxL(K:Frg):R2:=fun x y H Q=>∃p xs i v,x = .ref p/\y = .int i/\SqL K H p xs/\atI xs i=some v/\Q v H
def rIxT(K:Frg):R2:=fun x y H Q=>∃p xs i v,x = .ref p/\y = .int i/\SqT K H p xs/\atI xs i=some v/\Q v H
def rIxS:R2:=fun x y H Q=>∃z i c,x = .str z/\y = .int i/\z.length<=sizeLine/\atI z.cps.toList i=some c/\Q (.str ⟨#[c]⟩) H
theorem jq:IxR X (rIxL X.K):=by
 intro value slice pins s σ H x y v u Q I rx ry h hs;obtain⟨p,xs,i,z,rfl,rfl,hq,he,q⟩:=h;cases rx;obtain⟨t,rfl⟩:=ry;obtain⟨its,r,pl,hz⟩:=I.list hq;obtain⟨j,h1,h2,h3,h4,h5⟩:=KQ he;obtain⟨w,ew,rw'⟩:=r.get h2;have hl:=r.length;have hn:=line63;have fin:EP X pins σ Q w s:=⟨z,H,I,rw',q⟩
 by_cases h0:0<=i
 ·have hj:i.toNat=j:=by
   rw[seqIndex_of h0 h5]at h1;exact Option.some.inj h1
  exact item_listR pl.isList h0 (by omega) (by rw[hj];simpa using ew) fin hs
 ·have hj:(i+(its.toArray.size:Int)).toNat=j:=by
   rw[seqIndex_neg (by omega) h4]at h1;rw[size_toArray,<-hl];exact Option.some.inj h1
  exact subscriptTail_builtinR (x:=w) pl.isList.typeIs slot_list_getitem.lookup
   (wpAny_getItem_list_neg (Q:=fun r s'=>r=w/\EP X pins σ Q r s') pl.isList (by omega) (by rw[size_toArray]<;>omega) (by omega) (by rw[hj];simpa using ew) ⟨rfl,fin⟩) hs
theorem jw:IxR X (rIxT X.K):=by
 intro value slice pins s σ H x y v u Q I rx ry h hs;obtain⟨p,xs,i,z,rfl,rfl,hq,he,q⟩:=h;cases rx;obtain⟨t,rfl⟩:=ry;obtain⟨its,r,pl,hz⟩:=I.tuple hq;obtain⟨j,h1,h2,h3,h4,h5⟩:=KQ he;obtain⟨w,ew,rw'⟩:=r.get h2;have hl:=r.length;have hn:=line63;have fin:EP X pins σ Q w s:=⟨z,H,I,rw',q⟩
 exact subscriptTail_builtinR (x:=w) pl.typeIs slot_tuple_getitem.lookup
  (getItem_tuple (j:=j) (Q:=fun r s'=>r=w/\EP X pins σ Q r s') pl (by omega) (by omega) (by rw[size_toArray,<-hl];exact h1) (by simpa using ew) ⟨rfl,fin⟩) hs
theorem j0L:IxR X rIxS:=by
 intro value slice pins s σ H x y v u Q I rx ry h hs;obtain⟨z,i,c,rfl,rfl,hz,he,q⟩:=h;obtain⟨t,rfl⟩:=rx;obtain⟨t',rfl⟩:=ry;obtain⟨j,h1,h2,h3,h4,h5⟩:=KQ he;have hl:z.cps.toList.length=z.length:=by simp[Str.length]
 rw[hl]at h1 h4 h5;have hn:=line63;exact tail_any (typeIs_str s z t) slot_str_getitem.lookup (getItem_str (c:=c) (by
  have e1:decide (i < -(2^63:Int))=false:=decide_eq_false (by omega);have e2:decide (i>=2^63)=false:=decide_eq_false (by omega);rw[e1,e2,Bool.or_false]) (by rw[h1];simpa using h2) ⟨.str ⟨#[c]⟩,H,I.tok _,⟨_,rfl⟩,q⟩) hs
theorem xy(its:List Value)(n j:Nat)(u:Value):Obj.mapSeq (·.setIfInBounds j u) {cls:=.type "list",data:=.seq its.toArray n}={cls:=.type "list",data:=.seq (its.set j u).toArray n}:=by
 simp[Obj.mapSeq]
theorem Inv.lst{pins:List (Addr×Obj)}{σ:St}{H:Hp}{s:Shared}{p:Addr}{xs:List V}(I:Inv X pins σ H s)(h:H p=some (.lst xs)) :
  ∃(its:List Value) (n:Nat),Vals xs its/\s.heap.get? p=some {cls:=.type "list",data:=.seq its.toArray n}/\xs.length<=sizeLine:=by
 obtain⟨z,its,n,r,e⟩:=I.hok p _ h;exact⟨its,n,r,e,z⟩
theorem Inv.lstUpd{pins:List (Addr×Obj)}{σ:St}{H:Hp}{s:Shared}{p:Addr}{xs ys:List V}{its its':List Value}{n n':Nat}{f:Obj->Obj}(I:Inv X pins σ H s)(h:H p=some (.lst xs))
  (ho:s.heap.get? p=some {cls:=.type "list",data:=.seq its.toArray n}) (hf:f {cls:=.type "list",data:=.seq its.toArray n}={cls:=.type "list",data:=.seq its'.toArray n'}) (r:Vals ys its') (hz:ys.length<=sizeLine) (t:Nat) :
  Inv X pins σ (upd H p (.lst ys)) {s with heap:=s.heap.update p f,toks:=t}:=by
 have e:(s.heap.update p f).get? p=some {cls:=.type "list",data:=.seq its'.toArray n'}:=by
  rw[Heap.get?_update_self f ho (by rw[hf]<;>rfl),hf]
 refine I.write (x:=p) (e:=p) (by rw[h];trivial) (.inl rfl) (fun b u hb q=>(Heap.get?_update_other _ _ (Ne.symm hb)).trans q) ⟨_,e⟩ ?_;exact⟨hz,its',n',r,e⟩
noncomputable def rSetL:V->V->V->Hp->(Hp->Prop)->Prop:=fun o i v H Q=>∃p xs k j,o = .ref p/\i = .int k/\H p=some (.lst xs)/\ixN xs.length k=some j/\Q (upd H p (.lst (xs.set j v)))
theorem set_list:PSet X rSetL:=by
 intro pins s σ H o i v ov iv u Q I ro ri rv h;obtain⟨p,xs,k,j,rfl,rfl,hp,hj,q⟩:=h;cases ro;obtain⟨t,rfl⟩:=ri;obtain⟨its,n,r,ho,hz⟩:=I.lst hp;obtain⟨h1,h2,h3,h4⟩:=Xp hj;have hl:=r.length;have hn:=line63;have I':Inv X pins σ (upd H p (.lst (xs.set j v))) {s with heap:=s.heap.update p (Obj.mapSeq (·.setIfInBounds j u))}:=
  I.lstUpd hp ho (xy its n j u) (r.set rv j) (by rw[List.length_set];exact hz) s.toks
 by_cases h0:0<=k
 ·have hk:k.toNat=j:=by
   rw[seqIndex_of h0 h4]at h1;exact Option.some.inj h1
  exact PySem.W.ki_setAt ho h0 (by omega) (by rw[size_toArray,<-hl];exact h4) (by rw[hk];exact⟨_,I',q⟩)
 ·have hk:(k+(its.toArray.size:Int)).toNat=j:=by
   rw[seqIndex_neg (by omega) h3]at h1;rw[size_toArray,<-hl];exact Option.some.inj h1
  exact PySem.W.ki_setBack ho (by omega) (by rw[size_toArray,<-hl];exact h3) (by omega) (by rw[hk];exact⟨_,I',q⟩)
theorem wO(lo hi:Option Int)(n:Nat):(sliceBounds lo hi none n).1=((HT.sIx n 0 lo:Nat):Int)/\(sliceBounds lo hi none n).2.1=((HT.sIx n n hi:Nat):Int)/\(sliceBounds lo hi none n).2.2=1:=by
 refine⟨?_,?_,rfl⟩
 ·cases lo with
  | none=>simp[sliceBounds,HT.sIx]
  | some i=>
   simp only[sliceBounds,HT.sIx,Option.getD_none,show(1:Int)>0 by decide,if_true];by_cases h:i<0
   ·simp only[h,if_true]<;>omega
   ·simp only[h,if_false]<;>omega
 ·cases hi with
  | none=>simp[sliceBounds,HT.sIx]
  | some i=>
   simp only[sliceBounds,HT.sIx,Option.getD_none,show(1:Int)>0 by decide,if_true];by_cases h:i<0
   ·simp only[h,if_true]<;>omega
   ·simp only[h,if_false]<;>omega
theorem Kp(its:List Value)(lo hi:Option Int):slicePick its.toArray lo hi none=((its.drop (HT.sIx its.length 0 lo)).take (HT.sIx its.length its.length hi-HT.sIx its.length 0 lo)).toArray:=by
 obtain⟨h1,h2,h3⟩:=wO lo hi its.toArray.size;unfold slicePick;rw[h1,h2,h3];simp only[sliceRange_one,pick_run,size_toArray]<;>rfl
noncomputable def rSlL(K:Frg):V->Option Int->Option Int->Hp->VK->Prop:=fun x lo hi H Q=>∃a xs,x = .ref a/\SqL K H a xs/\∀p,H p=none->Q (.ref p) (upd H p (.lst (cutV xs lo hi)))
theorem XI:SlR X (rSlL X.K):=by
 intro pins s σ H x v vl vu lo hi sl Q I rx hs pl pu h;obtain⟨a,xs,rfl,hx,q⟩:=h;cases rx;obtain⟨its,r,ht,hz⟩:=I.list hx;have hlen:=r.length;refine⟨"list",_,slot_list_getitem.lookup,ht.isList.typeIs,?_⟩;refine wpAny_getItem_list_slice ht.isList hs pl pu .none (by simp) ?_ (by rw[size_toArray]<;>omega);rw[Kp,<-hlen];refine⟨.ref s.heap.objs.size,_,I.laid (t':=s.toks) (o:=.lst (cutV xs lo hi)) (fun b ob q=>Heap.get?_push_of_some _ q) (Nat.le_refl _) ?_,rfl,q _ (I.hok.fresh (Nat.le_refl _))⟩;exact⟨Nat.le_trans (zr xs lo hi) hz,_,0,(r.drop (HT.sIx xs.length 0 lo)).take (HT.sIx xs.length xs.length hi-HT.sIx xs.length 0 lo),Heap.get?_push_size _ rfl⟩
noncomputable def flatV:V->Bool
 | .non=>true
 | .bl _=>true
 | .int _=>true
 | .str _=>true
 | _=>false
noncomputable def eqV:V->V->Bool
 | .non,.non=>true
 | .bl a,.bl b=>a==b
 | .bl a,.int b=>(if a then 1 else 0)==b
 | .int a,.bl b=>a==(if b then 1 else 0)
 | .int a,.int b=>a==b
 | .str a,.str b=>a==b
 | _,_=>false
theorem j2M{A:Around}{s:Shared}{y x:V}{u v:Value}(ry:RelV y u)(rx:RelV x v)(fy:flatV y=true)(fx:flatV x=true):SeqAt.EqAt A s u v (eqV y x):=by
 cases y with
 | non=>
  cases ry;cases x with
  | non=>cases rx;exact SeqAt.EqAt.same _
  | bl b=>cases rx;exact SeqAt.EqAt.none_bool b
  | int b=>obtain⟨t,rfl⟩:=rx;exact SeqAt.EqAt.none_int b t
  | str b=>obtain⟨t,rfl⟩:=rx;exact SeqAt.EqAt.none_str b t
  | _=>exact absurd (show false=true from fx) Bool.false_ne_true
 | bl a=>
  cases ry;cases x with
  | non=>cases rx;exact SeqAt.EqAt.bool_none a
  | bl b=>cases rx;exact SeqAt.EqAt.bool_bool a b
  | int b=>obtain⟨t,rfl⟩:=rx;exact SeqAt.EqAt.bool_int a b t
  | str b=>obtain⟨t,rfl⟩:=rx;exact SeqAt.EqAt.bool_str a b t
  | _=>exact absurd (show false=true from fx) Bool.false_ne_true
 | int a=>
  obtain⟨t',rfl⟩:=ry;cases x with
  | non=>cases rx;exact SeqAt.EqAt.int_none a t'
  | bl b=>cases rx;exact SeqAt.EqAt.int_bool a t' b
  | int b=>obtain⟨t,rfl⟩:=rx;exact SeqAt.EqAt.int_int a t' b t
  | str b=>obtain⟨t,rfl⟩:=rx;exact SeqAt.EqAt.int_str a t' b t
  | _=>exact absurd (show false=true from fx) Bool.false_ne_true
 | str a=>
  obtain⟨t',rfl⟩:=ry;cases x with
  | non=>cases rx;exact SeqAt.EqAt.str_none a t'
  | bl b=>cases rx;exact SeqAt.EqAt.str_bool a t' b
  | int b=>obtain⟨t,rfl⟩:=rx;exact SeqAt.EqAt.str_int a t' b t
  | str b=>obtain⟨t,rfl⟩:=rx;exact SeqAt.EqAt.str_str a t' b t
  | _=>exact absurd (show false=true from fx) Bool.false_ne_true
 | _=>exact absurd (show false=true from fy) Bool.false_ne_true
noncomputable def eqU(x:V)(u:Value):Bool:=match u with
 | .none=>eqV .non x
 | .bool b=>eqV (.bl b) x
 | .int i _=>eqV (.int i) x
 | .str z _=>eqV (.str z) x
 | _=>false
theorem K0{x y:V}{u:Value}(r:RelV y u)(f:flatV y=true):eqU x u=eqV y x:=by
 cases y with
 | non=>cases r;rfl
 | bl b=>cases r;rfl
 | int i=>obtain⟨t,rfl⟩:=r;rfl
 | str z=>obtain⟨t,rfl⟩:=r;rfl
 | _=>exact absurd (show false=true from f) Bool.false_ne_true
theorem yz{x:V}:∀{xs:List V} {us:List Value},Vals xs us->xs.all flatV=true->us.any (eqU x)=xs.any fun y=>eqV y x
 | _,_,.nil,_=>rfl
 | y::xs,u::us,.cons r t,f=>by
  rw[all_cons,Bool.and_eq_true]at f;rw[any_cons,any_cons,K0 r f.1,yz t f.2]
theorem zO{A:Around}{s:Shared}{x:V}{v:Value}(rx:RelV x v)(fx:flatV x=true):∀{xs:List V} {us:List Value},Vals xs us->xs.all flatV=true->∀u∈us,SeqAt.EqAt A s u v (eqU x u)
 | _,_,.nil,_=>fun u hu=>by cases hu
 | y::xs,u::us,.cons r t,f=>fun u' hu=>by
  rw[all_cons,Bool.and_eq_true]at f;rcases mem_cons.mp hu with rfl | hu
  ·rw[K0 r f.1];exact j2M r rx f.1 fx
  ·exact zO rx fx t f.2 u' hu
noncomputable def inV(x:V)(xs:List V):Bool:=xs.any fun y=>eqV y x
def rIn(K:Frg)(neg:Bool):R2:=fun x y H Q=>∃p xs,y = .ref p/\(SqL K H p xs\/SqT K H p xs)/\flatV x=true/\xs.all flatV=true/\Q (.bl (if neg then !inV x xs else inV x xs)) H
theorem j0c:OpR X (compareOp .In) (rIn X.K false):=by
 intro pins s σ H x y v u Q I rx ry h;obtain⟨p,xs,rfl,hq,fx,fs,q⟩:=h;cases ry;rcases hq with hq | hq
 ·obtain⟨its,r,pl,hz⟩:=I.list hq;refine SeqAt.in_listAt (eqU x) pl.isList (fun w hw=>zO rx fx r fs w (by simpa using hw)) ⟨.bl _,H,I,rfl,?_⟩;rw[show its.toArray.any (eqU x)=its.any (eqU x) by simp,yz r fs];exact q
 ·obtain⟨its,r,pl,hz⟩:=I.tuple hq;refine SeqAt.in_tupleAt (eqU x) pl (fun w hw=>zO rx fx r fs w (by simpa using hw)) ⟨.bl _,H,I,rfl,?_⟩;rw[show its.toArray.any (eqU x)=its.any (eqU x) by simp,yz r fs];exact q
theorem yR:OpR X (compareOp .NotIn) (rIn X.K true):=by
 intro pins s σ H x y v u Q I rx ry h;obtain⟨p,xs,rfl,hq,fx,fs,q⟩:=h;cases ry;rcases hq with hq | hq
 ·obtain⟨its,r,pl,hz⟩:=I.list hq;refine SeqAt.notIn_listAt (eqU x) pl.isList (fun w hw=>zO rx fx r fs w (by simpa using hw)) ⟨.bl _,H,I,rfl,?_⟩;rw[show its.toArray.any (eqU x)=its.any (eqU x) by simp,yz r fs];exact q
 ·obtain⟨its,r,pl,hz⟩:=I.tuple hq;refine SeqAt.notIn_tupleAt (eqU x) pl (fun w hw=>zO rx fx r fs w (by simpa using hw)) ⟨.bl _,H,I,rfl,?_⟩;rw[show its.toArray.any (eqU x)=its.any (eqU x) by simp,yz r fs];exact q
theorem yC:CallR X (.type "list") (fun xs H Q=>∃p ys,xs=[.ref p]/\(SqL X.K H p ys\/SqT X.K H p ys)/\∀l,H l=none->Q (.ref l) (upd H l (.lst ys))):=by
 intro pins s σ H xs us Q I r h;obtain⟨p,ys,rfl,hq,q⟩:=h;obtain⟨u,rfl,rx⟩:=vals1 r;cases rx;have fin:∀(its:List Value),Vals ys its->ys.length<=sizeLine->∀(h':Heap) (c':Nat),(∀b o',s.heap.get? b=some o'->h'.get? b=some o')->
   h'.get? s.heap.objs.size=some {cls:=.type "list",dict:=none,data:=.seq its.toArray c',slots:=#[]}->EP X pins σ Q (.ref s.heap.objs.size) {s with heap:=h'}:=fun its r' hz h' c' kp e=>
  ⟨.ref s.heap.objs.size,_,I.laid (t':=s.toks) kp (Nat.le_refl _) (show ObjOk X.prog X.w _ h' _ (.lst ys)from⟨hz,its,c',r',e⟩),rfl,q _ (I.hok.fresh (Nat.le_refl _))⟩
 rcases hq with hq | hq
 ·obtain⟨its,r',pl,hz⟩:=I.list hq;have hlen:=r'.length;obtain⟨o,ho,hc,n,hd⟩:=pl.isList;exact call_list_seq p (.inl rfl) ho hc hd (fun h' c' kp e=>fin its r' hz h' c' kp e) (by simp only[size_toArray]<;>omega)
 ·obtain⟨its,r',pl,hz⟩:=I.tuple hq;have hlen:=r'.length;obtain⟨o,ho,hc,n,hd⟩:=pl;exact call_list_seq p (.inr rfl) ho hc hd (fun h' c' kp e=>fin its r' hz h' c' kp e) (by simp only[size_toArray]<;>omega)
theorem QE:CallR X (.type "tuple") (fun xs H Q=>∃p ys,xs=[.ref p]/\((SqL X.K H p ys/\∀l,H l=none->Q (.ref l) (upd H l (.tup ys)))\/(SqT X.K H p ys/\Q (.ref p) H))):=by
 intro pins s σ H xs us Q I r h;obtain⟨p,ys,rfl,h⟩:=h;obtain⟨u,rfl,rx⟩:=vals1 r;cases rx;rcases h with⟨hq,q⟩ | ⟨hq,q⟩
 ·obtain⟨its,r',pl,hz⟩:=I.list hq;have hlen:=r'.length;refine call_tuple_list pl.isList (fun h' kp=>?_) (by simp only[size_toArray]<;>omega);have I1:Inv X pins σ H {s with heap:=h'}:=I.kept (t':=s.toks) kp;have I2:Inv X pins σ (upd H h'.objs.size (.tup ys)) {s with heap:=h'.push {cls:=.type "tuple",data:=.seq its.toArray}}:=
   I1.laid (t':=s.toks) (fun b o e=>Heap.get?_push_of_some _ e) (Nat.le_refl _) (show ObjOk X.prog X.w _ _ _ (.tup ys)from⟨hz,its,r',IsTup.new _ _⟩)
  exact⟨.ref h'.objs.size,_,I2,rfl,q _ (I1.hok.fresh (Nat.le_refl _))⟩
 ·obtain⟨its,r',pl,hz⟩:=I.tuple hq;exact call_tuple_same pl ⟨.ref p,H,I,rfl,q⟩
def tyV(K:Frg)(T:String)(x:V)(H:Hp):Prop:=match x with
 | .str _=>T = "str"
 | .int _=>T = "int"
 | .ref p=>(T = "list"/\∃xs,SqL K H p xs)\/(T = "tuple"/\∃o,K.lookup p=some o/\o.cls = .type "tuple"/\o.dict=none)\/
   (T = "dict"/\((∃kvs,H p=some (.dK kvs))\/∃kvs,H p=some (.dT kvs)))\/(T = "set"/\∃S n,H p=some (.set S n))
 | _=>False
theorem j1K{pins:List (Addr×Obj)}{σ:St}{H:Hp}{s:Shared}{T:String}{x:V}{v:Value}(I:Inv X pins σ H s)(r:RelV x v)(ty:tyV X.K T x H) :
  s.TypeIs v T/\∀a,v = .ref a->∃ob,s.heap.get? a=some ob/\ob.dict=none:=by
 cases x with
 | str z=>
  obtain⟨t,rfl⟩:=r;cases(show T = "str" from ty);exact⟨typeIs_str s z t,fun _ e=>nomatch e⟩
 | int i=>
  obtain⟨t,rfl⟩:=r;cases(show T = "int" from ty);exact⟨typeIs_int s i t,fun _ e=>nomatch e⟩
 | ref p=>
  cases r;rcases ty with⟨rfl,xs,hq⟩ | ⟨rfl,o,hk,hc,hd⟩ | ⟨rfl,hk⟩ | ⟨rfl,S,n,hk⟩
  ·obtain⟨its,_,pl,_⟩:=I.list hq;refine⟨pl.isList.typeIs,fun a e=>?_⟩;cases e;obtain⟨o,n,e,c,hd,_⟩:=pl;exact⟨o,e,hd⟩
  ·refine⟨⟨o,I.kIn p o hk,hc⟩,fun a e=>?_⟩;cases e;exact⟨o,I.kIn _ o hk,hd⟩
  ·have z:∃o,s.heap.get? p=some o/\o.ExactDict:=by
    rcases hk with⟨kvs,hk⟩ | ⟨kvs,hk⟩
    ·obtain⟨_,_,_,_,o,_,_,e,ex,_⟩:=I.hok p _ hk;exact⟨o,e,ex⟩
    ·obtain⟨_,_,_,_,o,_,_,e,ex,_⟩:=I.hok p _ hk;exact⟨o,e,ex⟩
   obtain⟨o,e,ex⟩:=z;refine⟨⟨o,e,ex.1⟩,fun a e2=>?_⟩;cases e2;exact⟨o,e,ex.2.1⟩
  ·obtain⟨o,_,_,_,e,ex,_⟩:=I.hok p _ hk;refine⟨⟨o,e,ex.1⟩,fun a e2=>?_⟩;cases e2;exact⟨o,e,ex.2.1⟩
 | _=>exact False.elim ty
def tBM0(K:Frg)(T:String)(r:V->List V->Hp->VK->Prop)(to:TE):TE:=fun σ H Q=>to σ H fun x H1=>tyV K T x H1/\r x [] H1 Q
def tBM(K:Frg)(T:String)(r:V->List V->Hp->VK->Prop)(to:TE)(t:TA):TE:=fun σ H Q=>to σ H fun x H1=>tyV K T x H1/\t σ H1 fun xs H2=>r x xs H2 Q
variable{o e:Expr}{es:List Expr}{to:TE}{t:TA}{name:Str}{apos cpos:Pos}{T id:String}{r:V->List V->Hp->VK->Prop}
theorem xE(pa:PlainAttrs T)(slot:Slot T name id)(hty:typeOf (.builtin id)=pure (.type "method_descriptor"))(hm:MtR X id r)(ho:PE X o to)
  (hbase:attributeBase o name X.env (eval o X.env)=eval o X.env:=by rfl) (hline:(apos.endLine==cpos.line)=true:=by rfl):PE X (.Call (.Attribute o name apos) [] [] cpos) (tBM0 X.K T r to):=by
 intro pins s σ H Q I h;refine wpAny_Call_method0_late hbase hline (thn (ho pins s σ H _ I h) fun v s1 ⟨x,H1,I1,r1,ty,q1⟩=>?_);obtain⟨h1,h2⟩:=j1K I1 r1 ty;exact⟨T,id,pa,slot,hty,h1,h2,Calls.callWith_builtin rfl (PySem.evalArgs_none (hm pins s1 σ H1 x [] v [] Q I1 r1 .nil q1))⟩
theorem JK(pa:PlainAttrs T)(slot:Slot T name id)(hty:typeOf (.builtin id)=pure (.type "method_descriptor"))(hm:MtR X id r)(ho:PE X o to)(ha:PA X (e::es) t)
  (hbase:attributeBase o name X.env (eval o X.env)=eval o X.env:=by rfl)
  (hfew:((backTo cpos (starEach (e::es) X.env)).all (fun x=>!x.1)&&(backToKw cpos (keywordEach [] X.env)).all (fun x=>x.1.isSome)
   && decide ((e::es).length+([]:List Keyword).length+(if([]:List Keyword).isEmpty then 0 else 1)<30))=true:=by rfl)
  (hline:(apos.endLine==cpos.line)=true:=by rfl) (hs:starEach (e::es) X.env=(false,eval e X.env)::starEach es X.env:=by rfl) (hplain:(backTo cpos (starEach es X.env)).any (·.1)=false:=by rfl) :
  PE X (.Call (.Attribute o name apos) (e::es) [] cpos) (tBM X.K T r to t):=by
 intro pins s σ H Q I h;refine wpAny_Call_method_late hbase hfew hline rfl (thn (ho pins s σ H _ I h) fun v s1 ⟨x,H1,I1,r1,ty,q1⟩=>?_);obtain⟨h1,h2⟩:=j1K I1 r1 ty;refine⟨T,id,pa,slot,hty,h1,h2,?_⟩;have hA:=ha cpos pins s1 σ H1 _ I1 q1;rw[hs]at hA|-;refine Calls.callWith_builtin (by show(false||(backTo cpos (starEach es X.env)).any (·.1))=false;rw[hplain]<;>rfl) (Calls.evalArgs_plain ?_);exact thn hA fun us s2 ⟨vs,H2,I2,r2,q2⟩=>hm pins s2 σ H2 x vs v us Q I2 r1 r2 q2
end
def MtM(X:Cx)(id:String)(r:V->List V->Hp->VK->Prop):Prop:=
 ∀(pins:List (Addr×Obj)) (s:Shared) (σ:St) (H:Hp) (x:V) (xs:List V) (v:Value) (us:List Value) (Q:VK),Inv X pins σ H s->RelV x v->Vals xs us->r x xs H Q->
  wpAny (model X.prog X.w) X.A (call (.builtin id) (v::us)) (EP X pins σ Q) X.xe s
theorem Vals.one:∀{x:V} {us:List Value},Vals [x] us->∃u,us=[u]/\RelV x u
 | _,_,.cons r .nil=>⟨_,rfl,r⟩
theorem Vals.zero:∀{us:List Value},Vals [] us->us=[]
 | _,.nil=>rfl
theorem Vals.dropLast{xs:List V}{us:List Value}(h:Vals xs us):Vals xs.dropLast us.dropLast:=by
 induction h with
 | nil=>exact .nil
 | cons r t ih=>
  cases t with
  | nil=>exact .nil
  | cons q t'=>exact .cons r ih
theorem xg{α:Type}(l:List α):l.eraseIdx (l.length-1)=l.dropLast:=by
 induction l with
 | nil=>rfl
 | cons a r ih=>
  cases r with
  | nil=>rfl
  | cons b r=>
   have e:(a::b::r).length-1=((b::r).length-1)+1:=by
    have h1:(a::b::r).length=r.length+2:=rfl;have h2:(b::r).length=r.length+1:=rfl;omega
   rw[e,List.eraseIdx_cons_succ,ih]
   all_goals rfl
section
variable{X:Cx}{pins:List (Addr×Obj)}{σ:St}{H:Hp}{s:Shared}{l b:Addr}{xs ys zs:List V}
theorem Inv.lset{its its':List Value}{n:Nat}{f:Array Value->Array Value}{t':Nat}(I:Inv X pins σ H s)(hH:H l=some (.lst xs))
  (e:s.heap.get? l=some {cls:=.type "list",data:=.seq its.toArray n}) (hf:f its.toArray=its'.toArray) (hv:Vals ys its') (hz:ys.length<=sizeLine) :
  Inv X pins σ (upd H l (.lst ys)) {s with heap:=s.heap.update l (Obj.mapSeq f),toks:=t'}:=by
 have q:=PySem.IsL.update e f;rw[hf]at q;refine I.write (x:=l) (e:=l) (by rw[hH];exact trivial) (.inl rfl) (fun b' u hb hu=>(Heap.get?_update_other s.heap (Obj.mapSeq f) (Ne.symm hb)).trans hu) ⟨_,q⟩ ?_;exact⟨hz,its',_,hv,q⟩
theorem Inv.lnew{its:List Value}{t':Nat}(I:Inv X pins σ H s)(hv:Vals ys its)(hz:ys.length<=sizeLine) :
  Inv X pins σ (upd H s.heap.objs.size (.lst ys)) {s with heap:=s.heap.push {cls:=.type "list",data:=.seq its.toArray},toks:=t'}:=
 I.laid (fun _ _ q=>Heap.get?_push_of_some _ q) (Nat.le_refl _) ⟨hz,its,0,hv,Heap.get?_push_size _ rfl⟩
theorem Inv.fresh(I:Inv X pins σ H s):H s.heap.objs.size=none:=I.hok.fresh (Nat.le_refl _)
theorem Inv.lstM(I:Inv X pins σ H s)(hH:H l=some (.lst xs)):xs.length<=sizeLine/\∃(its:List Value) (n:Nat),Vals xs its/\xs.length=its.length/\s.heap.get? l=some {cls:=.type "list",data:=.seq its.toArray n}:=by
 obtain⟨z,its,n,r,e⟩:=I.hok l _ hH;exact⟨z,its,n,r,r.length,e⟩
theorem notLongL{n:Nat}(h:n<=sizeLine):Builtin.List.listTooLong n=false:=by
 unfold Builtin.List.listTooLong;exact decide_eq_false (by omega)
end
section
variable{X:Cx}
noncomputable def rAppend:V->List V->Hp->VK->Prop:=fun x vs H Q=>∃l xs y,x = .ref l/\vs=[y]/\H l=some (.lst xs)/\xs.length<sizeLine/\Q .non (upd H l (.lst (xs++[y])))
theorem jH:MtM X "list.append" rAppend:=by
 intro pins s σ H x vs v us Q I rx rv h;obtain⟨l,xs,y,rfl,rfl,hH,hz,q⟩:=h;cases rx;obtain⟨u,rfl,ru⟩:=rv.one;obtain⟨z,its,n,r,hl,e⟩:=I.lstM hH;refine call_meets F.slot_list_append ⟨_,e,rfl⟩ F.entry_list_append (F.args_list_append_2 _ _) (PySem.list_append l its.toArray n u (by rw[size_toArray];omega)) ⟨e,?_⟩;refine⟨.non,_,I.lset (its':=its++[u]) hH e (by simp) (r.append (.cons ru .nil)) ?_,rfl,q⟩;rw[List.length_append,length_singleton];omega
noncomputable def rExtend:V->List V->Hp->VK->Prop:=fun x vs H Q=>∃l b xs zs,x = .ref l/\vs=[.ref b]/\H l=some (.lst xs)/\H b=some (.lst zs)/\xs.length+zs.length<=sizeLine/\Q .non (upd H l (.lst (xs++zs)))
theorem j06:MtM X "list.extend" rExtend:=by
 intro pins s σ H x vs v us Q I rx rv h;obtain⟨l,b,xs,zs,rfl,rfl,hH,hB,hz,q⟩:=h;cases rx;obtain⟨u,rfl,ru⟩:=rv.one;cases ru;obtain⟨z,its,n,r,hl,e⟩:=I.lstM hH;obtain⟨z2,its2,n2,r2,hl2,e2⟩:=I.lstM hB;have hsz:its.toArray.size+its2.toArray.size<=sizeLine:=by rw[size_toArray,size_toArray];omega
 have hlong:¬(!its.toArray.isEmpty&&Builtin.List.listTooLong (its.toArray.size+its2.toArray.size))=true:=by
  rw[notLongL hsz,Bool.and_false];exact Bool.false_ne_true
 refine call_meets F.slot_list_extend ⟨_,e,rfl⟩ F.entry_list_extend (F.args_list_extend_2 _ _)
  (AutoSeq1.list_extend_list_list_0 l its.toArray n b its2.toArray n2 hlong (by rw[size_toArray];omega) (by omega)) ⟨e,e2,?_⟩
 refine⟨.non,_,I.lset (its':=its++its2) hH e (by simp) (r.append r2) ?_,rfl,q⟩;rw[List.length_append];omega
noncomputable def rPop:V->List V->Hp->VK->Prop:=fun x vs H Q=>∃l xs y,x = .ref l/\vs=[]/\H l=some (.lst xs)/\xs[xs.length-1]?=some y/\Q y (upd H l (.lst xs.dropLast))
theorem j14:MtM X "list.pop" rPop:=by
 intro pins s σ H x vs v us Q I rx rv h;obtain⟨l,xs,y,rfl,rfl,hH,hy,q⟩:=h;cases rx;have hus:=rv.zero;subst hus;obtain⟨z,its,n,r,hl,e⟩:=I.lstM hH;obtain⟨u,hu,ru⟩:=r.get hy;have hy':its.toArray[its.toArray.size-1]?=some u:=by
  show its.toArray[its.length-1]?=some u;rw[<-Array.getElem?_toList,<-hl];exact hu
 refine call_meets F.slot_list_pop ⟨_,e,rfl⟩ F.entry_list_pop (F.args_list_pop_1 _) (MeetsSeq.list_pop_last l its.toArray n u hy' (by rw[size_toArray];omega)) ⟨e,?_⟩;refine⟨y,_,I.lset (its':=its.dropLast) hH e ?_ r.dropLast ?_,ru,q⟩
 ·show its.toArray.eraseIdxIfInBounds (its.toArray.size-1)=its.dropLast.toArray;rw[size_toArray,List.eraseIdxIfInBounds_toArray,xg]
 ·rw[List.length_dropLast];omega
def rCat:R2:=fun x y H Q=>∃l b xs zs,x = .ref l/\y = .ref b/\H l=some (.lst xs)/\H b=some (.lst zs)/\xs.length+zs.length<=sizeLine/\∀p,H p=none->Q (.ref p) (upd H p (.lst (xs++zs)))
theorem Yx:OpR X (binaryOp .Add) rCat:=by
 intro pins s σ H x y v u Q I rx ry h;obtain⟨l,b,xs,zs,rfl,rfl,hH,hB,hz,q⟩:=h;cases rx;cases ry;obtain⟨z,its,n,r,hl,e⟩:=I.lstM hH;obtain⟨z2,its2,n2,r2,hl2,e2⟩:=I.lstM hB;refine PySem.P.add_list e e2 ?_ (by rw[size_toArray,size_toArray];omega);have ea:its.toArray++its2.toArray=(its++its2).toArray:=by simp
 rw[ea];exact⟨.ref _,_,I.lnew (t':=s.toks) (r.append r2) (by rw[List.length_append];omega),rfl,q _ I.fresh⟩
end
section
variable{prog:Program}{w:World}{A:Around}{E:Value->Shared->Prop}{s:Shared}
end
section
variable{X:Cx}
end
end L2
namespace Att
open PySem PySem.W PySem.Calls PyProof.Rows
theorem YV{P:Params}{h:Heap}:∀(ns:List Int) (vs:List Value),WellAll P h vs (ns.map WData.int)->IntsAre vs ns:=by
 intro ns
 induction ns with
 | nil=>
  intro vs w;rw[map_nil]at w;cases w;exact .nil
 | cons n ns ih=>
  intro vs w;rw[map_cons]at w;cases w with
  | cons a b=>
   cases a;exact .cons _ _ (ih _ b)
theorem j0i{l:OpenLaw}{n:Nat}(hn:l.most=some n){P:Params}{h:Heap}{args:List WData}{vals:List Value}
  (hpre:l.row.toRowW.claim.pre args=true) (hwl:WellAll P h vals args) :
  ∃a vs ns,vals=[Value.ref a]/\args=[WData.list (ns.map WData.int)]/\h.get? a=some {cls:=.type "list",data:=.seq vs.toArray}/\IntsAre vs ns/\ns.length<=n:=by
 have hsh:WShape.hasAll [] args [.list .int]=true:=(pre_splitW hpre).1;have hc:l.pre.holds [] {args:=args}=true:=(pre_splitW hpre).2;obtain⟨d,r,rfl,h1,h2⟩:=hasAllW_cons hsh;obtain rfl:=hasAllW_nil h2;obtain⟨xs,rfl,h3⟩:=hasW_list h1;obtain⟨ns,rfl⟩:=items_int h3;have hlen:ns.length<=n:=by
  unfold OpenLaw.pre at hc;have h4:(WTm.not (.lt (.lit (.int (n:Int))) (.len (.arg 0)))).holds [] {args:=[.list (ns.map .int)]}=true:=by
   have h4:=(holds_andW hc).1;rw[hn]at h4;exact h4
  have h5:=condW_of h4 (w_not (w_lt w_lit (w_len_list (w_arg rfl))));rw[length_map]at h5;refine Nat.le_of_not_lt fun q=>?_
  have q':(n:Int)<((ns.length:Nat):Int):=by omega
  first
   | (rw[decide_eq_true q']at h5;exact absurd h5 (by decide))
   | (simp at h5;omega)
 cases hwl with
 | cons w1 w2=>
  cases w2;cases w1 with
  | list ho hall=>exact⟨_,_,ns,rfl,rfl,ho,YV ns _ hall,hlen⟩
theorem j0d(l:OpenLaw)(args:List WData):l.row.toRowW.claim.post args (.bool true) args=true:=
 postW_of (r:=l.row.toRowW) (X:=(true==true))
  (show WShape.has [] (.bool true) .bool=true by first | rfl | decide | simp[WShape.has,WShape.arms,WShape.armsAll])
  (show(WTm.eq .res (.lit (.bool true))).value [] {args:=args,res:=some (.bool true),after:=args}=some (.bool (true==true))from w_eq_bool (w_res rfl) w_lit) rfl
section
variable{prog:Program}{w:World}{A:Around}{E:Value->Shared->Prop}{s:Shared}{K:Frag}
end
end Att
namespace L2
open PySem PySem.Spec PyProof.Rows
theorem KJ:∀{vs:List Value} {ns:List Int},IntsAre vs ns->Vals (ns.map V.int) vs
 | _,_,.nil=>.nil
 | _,_,.cons n t h=>.cons ⟨t,rfl⟩ (KJ h)
def Only(H:Hp):Prop:=∀b,H b=none\/∃o xs,H b=some (.frz o (.lst xs))
theorem j0Q{P:Program}{w:World}{K:Frg}{mg mb:Str->Option Value}{CX:CXT}{k:Nat}{fa a:Addr}{fd:FuncData}{x:Str}{sp:Sp}{s₁:Shared}{vs:List Value}{ns:List Int}
  (KX:K.In s₁.heap) (hns:s₁.heap.Ns mainGlobals mg) (hb:s₁.heap.Ns builtinsNs mb) (hbb:∀x:Str,x≠"__name__"->mb x=bootBuiltins x) (hlim:s₁.heap.NoLimit) (hg:s₁.gens = #[])
  (ha:s₁.heap.get? a=some {cls:=.type "list",data:=.seq vs.toArray}) (hi:IntsAre vs ns) (hl:ns.length<=sizeLine) (hr:Room k callerA)
  (F:∀base:Heap,K.In base->base.Ns mainGlobals mg->FnOk P w K mg base CX k fa fd [x] sp) (hbind:∀(s:Shared) (u:Value),BindsTo s fd ⟨[u],[]⟩ [(x,u)])
  (hsp:∀H:Hp,Only H->SqL K H a (ns.map V.int)->sp [.ref a] H (fun v _=>v = .bl true) fun _ _ _=>False)
  (hCX:∀H e s',CX [] H s₁ (fun _ _ _=>False) e s'->False) :
  codeAny (model P w) callerA (.call (.ref fa) ⟨[.ref a],[]⟩) (fun r s'=>r = .ok (.ret (.bool true))/\OldK s₁.heap s'.heap/\s'.os=s₁.os/\AllBare s'.gens) s₁:=by
 have rv:=KJ hi;have lenV:=hi.length;have core:∀H:Hp,Only H->SqL K H a (ns.map V.int)->HOk P w H s₁.heap->(∀b,H b≠none->b=a)->(H a≠none->K.lookup a=none)->
   codeAny (model P w) callerA (.call (.ref fa) ⟨[.ref a],[]⟩) (fun r s'=>r = .ok (.ret (.bool true))/\OldK s₁.heap s'.heap/\s'.os=s₁.os/\AllBare s'.gens) s₁:=by
  intro H hO hS hok hA hK;have base_of:∀{b:Addr} {o:Obj},s₁.heap.get? b=some o->H b=none->(hidT s₁.heap H).get? b=some o:=fun e n=>j0K e n
  have noA:∀{b:Addr} {o:Obj} {es:Array DictEntry} {ep:Nat},s₁.heap.get? b=some o->o.data = .dict es ep->H b=none:=fun {b o es ep} e d=>by
   cases q:H b with
   | none=>rfl
   | some u=>
    have e':b=a:=hA b (by rw[q];simp);subst e';rw[ha]at e;cases e;have d':Data.seq vs.toArray _=Data.dict es ep:=d;cases d'
  have nsK:∀{b:Addr} {m:Str->Option Value},s₁.heap.Ns b m->(hidT s₁.heap H).Ns b m:=fun {b m} ⟨o,es,ep,e,d,r⟩=>⟨o,es,ep,base_of e (noA e d),d,r⟩
  have hKb:K.In (hidT s₁.heap H):=fun b o e=>base_of (KX b o e) (by
   cases q:H b with
   | none=>rfl
   | some u=>
    have e':b=a:=hA b (by rw[q];simp);subst e';rw[hK (by rw[q];simp)]at e;cases e)
  have hM:Mod K mg (hidT s₁.heap H):=⟨hKb,nsK hns,⟨mb,nsK hb,hbb⟩,let ⟨mc,h1,h2⟩:=hlim;⟨mc,nsK h1,h2⟩⟩
  have e0:Env0 P w K mg (hidT s₁.heap H) callerA [] s₁ H:=⟨rfl,hM,fun b o e=>j2k e,Nat.le_of_eq (X4 _ _),trivial,fun b hb=>absurd (show b∈([]:List Addr)from hb) (by simp),hok,.of_eq hg⟩
  refine codeAny_mono ((F _ hKb (nsK hns)).run callerA [] s₁ H ⟨[.ref a],[]⟩ [.ref a] [.ref a] _ _ hr e0 (hbind s₁ (.ref a)) (.cons rfl .nil) (hsp H hO hS)) fun r s' h=>?_
  cases r with
  | error e=>exact(hCX H e s' h).elim
  | ok fl=>
   cases fl with
   | next=>exact False.elim h
   | brk=>exact False.elim h
   | cont=>exact False.elim h
   | ret u=>
    obtain⟨v,H',os,bare,un,hok',r',q⟩:=h;have q':v = .bl true:=q;subst q';obtain rfl:u=Value.bool true:=r';refine⟨rfl,OldK.of_keep fun b o e=>?_,os,bare⟩;cases q:H b with
    | none=>exact un.keep b o e q (by intro z;exact absurd (show b∈([]:List Addr)from z) (by simp)) (by simp)
    | some u=>
     rcases hO b with z | ⟨ob,xs,z⟩
     ·rw[q]at z;cases z
     ·have z2:=un.frzs b ob _ z;obtain⟨e1,_⟩:=hok b _ z;obtain⟨e2,_⟩:=hok' b _ z2;rw[e]at e1;cases e1;exact e2
 cases hk:K.lookup a with
 | some o=>
  have e:=KX a o hk;rw[ha]at e;cases e;refine core (fun _=>none) (fun _=>.inl rfl) (.inr ⟨_,vs.toArray,_,hk,rfl,rfl,rfl,by rw[size_toArray,lenV];exact hl,by simpa using rv⟩) (fun b u z=>by have z':(none:Option HO)=some u:=z;cases z') (fun b z=>absurd rfl z) fun z=>absurd rfl z
 | none=>
  refine core (fun b=>if b=a then some (.frz {cls:=.type "list",data:=.seq vs.toArray} (.lst (ns.map V.int)))else none) (fun b=>?_) (.inl (.inr ⟨{cls:=.type "list",data:=.seq vs.toArray},if_pos rfl⟩)) (fun b u z=>?_) (fun b z=>?_) fun _=>hk
  ·by_cases hb:b=a
   ·exact .inr ⟨_,_,if_pos hb⟩
   ·exact .inl (if_neg hb)
  ·by_cases hb:b=a
   ·have z':=(if_pos hb).symm.trans z;cases z';subst hb;exact⟨ha,by rw[length_map];exact hl,vs,_,rv,ha⟩
   ·have z':=(if_neg hb).symm.trans z;cases z'
  ·by_cases hb:b=a
   ·exact hb
   ·exact absurd (if_neg hb) z
noncomputable abbrev KOf{K:Frg}{h:Heap}(_:K.In h):Frg:=K
noncomputable def inClass(s:Stmt)(j:Nat):Stmt:=match s with
 | .ClassDef _ _ _ body _ _ _ _ _ _ _=>body.getD j (.Pass ⟨0,0,0,0⟩)
 | _=>.Pass ⟨0,0,0,0⟩
noncomputable def defArgs(s:Stmt):Arguments:=match s with
 | .FunctionDef _ a _ _ _ _ _ _ _ _=>a
 | _=>{posonlyargs:=[],args:=[],vararg:=none,kwonlyargs:=[],kw_defaults:=[],kwarg:=none,defaults:=[]}
noncomputable def defBody(s:Stmt):List Stmt:=match s with
 | .FunctionDef _ _ b _ _ _ _ _ _ _=>b
 | _=>[]
noncomputable def defScope(s:Stmt):Scope:=match s with
 | .FunctionDef _ _ _ _ _ _ sc _ _ _=>sc
 | _=>{kind:=.function,names:=[],isGenerator:=false,isCoroutine:=false}
noncomputable abbrev CX0:CXT:=fun _ _ _ _ _ _=>False
noncomputable abbrev E0:XK:=fun _ _ _=>False
theorem pass0{X:Cx}:Passes CX0 X E0:=fun _ _ _ _ _ _ _ h=>h.elim
structure Fun(K:Frg)(x qual:Str)(st:Stmt)(f:Addr)(fd:FuncData):Prop where
 ex:∃(oc:Value) (od:Option Addr) (kV doc pm:Value) (an:Option Addr) (cdv ct:Value) (osl:Array (Option Value)),
  fd=PySem.W.fnOf x qual (defArgs st) (defBody st) (defScope st) .none kV doc pm an cdv ct/\K.lookup f=some ⟨oc,od,.func fd,osl⟩/\PySem.W.codeIn K cdv qual=true
 kp:PySem.W.keepIn K (.ref f)=true
section
variable{P:Program}{w:World}{K:Frg}{mg:Str->Option Value}{base:Heap}
theorem Fun.ok{x qual:Str}{st:Stmt}{f:Addr}{fd:FuncData}{N ps:List Str}{k:Nat}{sp:Sp}(F:Fun K x qual st f fd)(S:FnScope N ps (defScope st))(len:∀vs H Q E,sp vs H Q E->vs.length=ps.length)
  (hbody:∀(cdv:Value) (A:Around) (outer:List Env) (s:Shared) (H:Hp) (vs:List V) (Q:VK) (E:XK),Room k (A.deeper (envOfC qual (defScope st) s.heap.objs.size f cdv))->sp vs H Q E->
   ∃t,PSs (cxOf CX0 P w K mg base N qual (defScope st) f cdv A outer s H E).nox (defBody st) t/\t {nx:=fun _ H'=>Q .non H',rt:=Q} (start N vs) H):FnOk P w K mg base CX0 (k+1) f fd ps sp:=by
 obtain⟨oc,od,kV,doc,pm,an,cdv,ct,osl,rfl,lk,hcd⟩:=F.ex;refine j2A lk hcd S len fun A outer s H vs Q E hr hsp=>?_
 obtain⟨t,h,q⟩:=hbody cdv A outer s H vs Q E hr hsp;exact⟨t,h.nox,q⟩
theorem Fun.binds{x qual:Str}{st:Stmt}{f:Addr}{fd:FuncData}{ps:List Str}(F:Fun K x qual st f fd)
  (h:∀(kV doc pm:Value) (an:Option Addr) (cdv ct:Value) (us:List Value),us.length=ps.length->bindArgs (PySem.W.fnOf x qual (defArgs st) (defBody st) (defScope st) .none kV doc pm an cdv ct) ⟨us,[]⟩=pure (ps.zip us)):Binds K fd ps []:=by
 obtain⟨oc,od,kV,doc,pm,an,cdv,ct,osl,rfl,lk,hcd⟩:=F.ex;exact .all (h kV doc pm an cdv ct)
theorem jP{x qual:Str}{st:Stmt}{f:Addr}{oc:Value}{od an:Option Addr}{osl:Array (Option Value)}{kV doc pm cdv ct:Value}(l:K.lookup f=some ⟨oc,od,.func (PySem.W.fnOf x qual (defArgs st) (defBody st) (defScope st) .none kV doc pm an cdv ct),osl⟩)
  (c:PySem.W.codeIn K cdv qual=true) (k:PySem.W.keepIn K (.ref f)=true):Fun K x qual st f (PySem.W.fnOf x qual (defArgs st) (defBody st) (defScope st) .none kV doc pm an cdv ct):=⟨⟨oc,od,kV,doc,pm,an,cdv,ct,osl,rfl,l,c⟩,k⟩
end
theorem zN{A:Around}{k:Nat}(hr:Room k A):A.units+1<cLine:=Nat.lt_of_le_of_lt (Nat.add_le_add_left (by decide:1<=64) _) hr.units
section
variable{X:Cx}
theorem pv(i:Nat){x:Str}{pos:Pos}(hN:X.N[i]?=some x:=by rfl)(hv:Vis X.env.scope x:=by first | exact Or.inl rfl | exact Or.inr (Or.inl rfl) | exact Or.inr (Or.inr rfl))(hd:(x==("__debug__" : Str))=false:=by decide)
  (hcd:(x==("__classdict__" : Str))=false:=by decide):PE X (.Name x pos) (tVar i):=j34 hN hv hd hcd
end
theorem iteF{A B:Prop}(h:B):if false=true then A else B:=by
 rw[if_neg Bool.false_ne_true];exact h
theorem iteT{A B:Prop}(h:A):if true=true then A else B:=by
 rw[if_pos rfl];exact h
def Same(H H':Hp):Prop:=∀b o,H b=some o->H' b=some o
theorem Same.refl(H:Hp):Same H H:=fun _ _ h=>h
theorem Same.trans{H H1 H2:Hp}(a:Same H H1)(b:Same H1 H2):Same H H2:=fun c o h=>b c o (a c o h)
theorem Same.seq{K:Frg}{H H':Hp}{a:Addr}{xs:List V}(e:Same H H')(h:SqL K H a xs):SqL K H' a xs:=by
 rcases h with(h | ⟨o,h⟩) | h
 ·exact .inl (.inl (e _ _ h))
 ·exact .inl (.inr ⟨o,e _ _ h⟩)
 ·exact .inr h
section
variable{κ:Type}[DecidableEq κ]
noncomputable def valV(kvs:List (κ×V))(k:κ):Option V:=(kvs.find? fun kv=>decide (kv.1=k)).map (·.2)
noncomputable def putK(kvs:List (κ×V))(k:κ)(v:V):List (κ×V):=
 if(kvs.any fun kv=>decide (kv.1=k))=true then kvs.map (fun kv=>if kv.1=k then(kv.1,v)else kv)else kvs++[(k,v)]
theorem kT{p:κ×V}{r:List (κ×V)}{k:κ}(e:p.1=k):valV (p::r) k=some p.2:=by simp[valV,List.find?_cons,e]
theorem kS{p:κ×V}{r:List (κ×V)}{k:κ}(e:¬p.1=k):valV (p::r) k=valV r k:=by simp[valV,List.find?_cons,e]
theorem WS(k:κ):∀kvs:List (κ×V),(kvs.any fun kv=>decide (kv.1=k))=(valV kvs k).isSome
 | []=>rfl
 | p::r=>by
  rw[any_cons];by_cases e:p.1=k
  ·simp only[kT e,decide_eq_true e,Bool.true_or,Option.isSome_some]
  ·rw[kS e,decide_eq_false e,Bool.false_or];exact WS k r
theorem ZF(kvs:List (κ×V))(k:κ)(v:V):(putK kvs k v).length<=kvs.length+1:=by
 unfold putK;split
 ·rw[length_map];omega
 ·rw[List.length_append,length_cons,length_nil];omega
theorem RelO.isSome_eq{o:Option V}{u:Option Value}(r:RelO o u):o.isSome=u.isSome:=by
 cases o with
 | none=>cases u with
  | none=>rfl
  | some _=>exact(show False from r).elim
 | some _=>cases u with
  | none=>exact(show False from r).elim
  | some _=>rfl
theorem KV.val{kvs:List (κ×V)}{vs:List (κ×Value)}(r:KV kvs vs)(k:κ):RelO (valV kvs k) (valueAt vs k):=by
 unfold KV at r
 induction r with
 | nil=>exact True.intro
 | @cons p q ps qs h t ih=>
  obtain⟨h1,h2⟩:=h;by_cases e:p.1=k
  ·have e':q.1=k:=h1.symm.trans e;have b:valueAt (q::qs) k=some q.2:=by simp[valueAt,List.find?_cons,e']
   rw[kT e,b];exact h2
  ·have e':¬q.1=k:=fun z=>e (h1.trans z)
   have b:valueAt (q::qs) k=valueAt qs k:=by simp[valueAt,List.find?_cons,e']
   rw[kS e,b];exact ih
theorem KV.any{kvs:List (κ×V)}{vs:List (κ×Value)}(r:KV kvs vs)(k:κ):(kvs.any fun kv=>decide (kv.1=k))=vs.any fun kv=>decide (kv.1=k):=by
 unfold KV at r
 induction r with
 | nil=>rfl
 | cons h t ih=>rw[any_cons,any_cons,ih,h.1]
theorem KV.repl{kvs:List (κ×V)}{vs:List (κ×Value)}(r:KV kvs vs)(k:κ){y:V}{u:Value}(ry:RelV y u) :
  KV (kvs.map fun kv=>if kv.1=k then(kv.1,y)else kv) (vs.map fun kv=>if kv.1=k then(kv.1,u)else kv):=by
 unfold KV at r|-
 induction r with
 | nil=>exact .nil
 | @cons p q ps qs h t ih=>
  rw[map_cons,map_cons];refine .cons ?_ ih;obtain⟨h1,h2⟩:=h;by_cases e:p.1=k
  ·rw[if_pos e,if_pos (h1.symm.trans e)];exact⟨h1,ry⟩
  ·rw[if_neg e,if_neg (fun z=>e (h1.trans z))];exact⟨h1,h2⟩
theorem KV.put{kvs:List (κ×V)}{vs:List (κ×Value)}(r:KV kvs vs)(k:κ){y:V}{u:Value}(ry:RelV y u):KV (putK kvs k y) (stored vs k u):=by
 unfold putK stored;rw[r.any k];by_cases e:(vs.any fun kv=>decide (kv.1=k))=true
 ·rw[if_pos e,if_pos e];exact r.repl k ry
 ·rw[if_neg e,if_neg e];exact Paired.snoc r ⟨rfl,ry⟩
theorem KV.keys{kvs:List (κ×V)}{vs:List (κ×Value)}(r:KV kvs vs):kvs.map (·.1)=vs.map (·.1):=by
 unfold KV at r
 induction r with
 | nil=>rfl
 | cons h t ih=>rw[map_cons,map_cons,ih,h.1]
theorem KV.length{kvs:List (κ×V)}{vs:List (κ×Value)}(r:KV kvs vs):kvs.length=vs.length:=Paired.length r
end
theorem j0M{P:Program}{w:World}{k:Key}{u:Value}(r:RelV (kV k) u):(mixKind P w).is k u=true:=by
 cases k with
 | inl i=>obtain⟨t,e⟩:=(show∃t,u=Value.int i t from r);subst e;exact Wy P w i t
 | inr x=>obtain⟨t,e⟩:=(show∃t,u=Value.str x t from r);subst e;exact Wz P w x t
theorem KC{P:Program}{w:World}:∀{ks:List Key} {us:List Value},Vals (ks.map kV) us->ItemsAre (mixKind P w) ks us
 | [],_,r=>by rw[map_nil]at r;cases r;exact .nil
 | k::ks,_,r=>by
  rw[map_cons]at r;cases r with
  | cons h t=>exact .cons (j0M h) (KC t)
noncomputable abbrev KT(H:Hp):List (List Key×V)->List (List Key×Addr×Value)->Prop:=Paired fun p q=>p.1=q.1/\H q.2.1=some (.tup (p.1.map kV))/\RelV p.2 q.2.2
theorem KT.val{H:Hp}{kvs:List (List Key×V)}{xs:List (List Key×Addr×Value)}(r:KT H kvs xs)(k:List Key):RelO (valV kvs k) ((atKey xs k).map (·.2)):=by
 induction r with
 | nil=>exact True.intro
 | @cons p q ps qs h t ih=>
  obtain⟨h1,_,h2⟩:=h;by_cases e:p.1=k
  ·have e':q.1=k:=h1.symm.trans e;have b:atKey (q::qs) k=some q.2:=by simp[atKey,List.find?_cons,e']
   rw[kT e,b];exact h2
  ·have e':¬q.1=k:=fun z=>e (h1.trans z)
   have b:atKey (q::qs) k=atKey qs k:=by simp[atKey,List.find?_cons,e']
   rw[kS e,b];exact ih
theorem KT.repl{H:Hp}{kvs:List (List Key×V)}{xs:List (List Key×Addr×Value)}(r:KT H kvs xs)(k:List Key){y:V}{u:Value}(ry:RelV y u) :
  KT H (kvs.map fun kv=>if kv.1=k then(kv.1,y)else kv) (xs.map (putAt k u)):=by
 induction r with
 | nil=>exact .nil
 | @cons p q ps qs h t ih=>
  rw[map_cons,map_cons];refine .cons ?_ ih;obtain⟨h1,h2,h3⟩:=h;unfold putAt;by_cases e:p.1=k
  ·rw[if_pos e,if_pos (h1.symm.trans e)];exact⟨h1,h2,ry⟩
  ·rw[if_neg e,if_neg (fun z=>e (h1.trans z))];exact⟨h1,h2,h3⟩
theorem KT.put{H:Hp}{kvs:List (List Key×V)}{xs:List (List Key×Addr×Value)}(r:KT H kvs xs)(k:List Key){b:Addr}{y:V}{u:Value}(hb:H b=some (.tup (k.map kV)))(ry:RelV y u) :
  KT H (putK kvs k y) (storedH xs k b u):=by
 have e:(kvs.any fun kv=>decide (kv.1=k))=(atKey xs k).isSome:=by
  rw[WS,(r.val k).isSome_eq,Option.isSome_map]
 unfold putK storedH;rw[e];by_cases q:(atKey xs k).isSome=true
 ·rw[if_pos q,if_pos q];exact r.repl k ry
 ·rw[if_neg q,if_neg q];exact Paired.snoc r ⟨rfl,hb,ry⟩
theorem KT.keeps{H H':Hp}{kvs:List (List Key×V)}{xs:List (List Key×Addr×Value)}(r:KT H kvs xs)(ht:∀b ys,H b=some (.tup ys)->H' b=some (.tup ys)):KT H' kvs xs:=
 Paired.mapP r fun _ _ z=>⟨z.1,ht _ _ z.2.1,z.2.2⟩
section
variable{P:Program}{w:World}{H:Hp}{h:Heap}{a:Addr}
theorem j2D{u:HO}(ok:HOk P w H h)(e:Rd H a u):ObjOk P w H h a u:=e.ok ok
theorem j0D{kvs:List (Key×V)}(ok:HOk P w H h)(e:Rd H a (.dK kvs)):kvs.length<=sizeLine/\(a==sysModules)=false/\∃vs,KV kvs vs/\h.DictOf (mixKind P w) a vs:=
 show ObjOk P w H h a (.dK kvs)from j2D ok e
theorem Wg{kvs:List (Key×V)}(ok:HOk P w H h)(e:H a=some (.dK kvs)):kvs.length<=sizeLine/\(a==sysModules)=false/\∃vs,KV kvs vs/\h.DictOf (mixKind P w) a vs:=j0D ok (.inl e)
theorem xq{ks:List Key}(ok:HOk P w H h)(e:H a=some (.tup (ks.map kV))):(tupleKind (mixKind P w)).is h ks a:=by
 obtain⟨_,its,r,o,h1,h2,n,h3⟩:=(show ObjOk P w H h a (.tup (ks.map kV))from ok a _ e)
 exact⟨o,its.toArray,n,h1,h2,h3,by simpa using KC r⟩
theorem j0F{kvs:List (List Key×V)}(ok:HOk P w H h)(e:Rd H a (.dT kvs)):kvs.length<=sizeLine/\(a==sysModules)=false/\
  ∃xs,KT H kvs xs/\h.DictOfH (tupleKind (mixKind P w)) a xs:=by
 obtain⟨z,y,xs,r,o,es,ep,h1,h2,h3,h4,h5⟩:=(show ObjOk P w H h a (.dT kvs)from j2D ok e)
 refine⟨z,y,xs,r,o,es,ep,h1,h2,h3,h4,fun x hx=>?_,h5⟩;have all:∀{l:List (List Key×V)} {m:List (List Key×Addr×Value)},KT H l m->∀x∈m,(tupleKind (mixKind P w)).is h x.1 x.2.1:=by
  intro l m q
  induction q with
  | nil=>intro x hx;exact nomatch hx
  | @cons p q ps qs hq t ih=>
   intro x hx;rcases mem_cons.mp hx with e | hx
   ·subst e;exact xq ok (by rw[<-hq.1];exact hq.2.1)
   ·exact ih x hx
 exact all r x hx
theorem j3g{kvs:List (List Key×V)}(ok:HOk P w H h)(e:H a=some (.dT kvs)):kvs.length<=sizeLine/\(a==sysModules)=false/\
  ∃xs,KT H kvs xs/\h.DictOfH (tupleKind (mixKind P w)) a xs:=j0F ok (.inl e)
end
def DGet(H:Hp)(a:Addr)(y:V)(r:Option V):Prop:=
 (∃kvs k,Rd H a (.dK kvs)/\y=kV k/\r=valV kvs k)\/∃kvs k b,Rd H a (.dT kvs)/\y = .ref b/\H b=some (.tup (k.map kV))/\r=valV kvs k
def DPut(H:Hp)(a:Addr)(y v:V)(H':Hp):Prop:=
 (∃kvs k,H a=some (.dK kvs)/\y=kV k/\kvs.length<sizeLine/\H'=upd H a (.dK (putK kvs k v)))\/
 ∃kvs k b,H a=some (.dT kvs)/\y = .ref b/\H b=some (.tup (k.map kV))/\kvs.length<sizeLine/\H'=upd H a (.dT (putK kvs k v))
theorem DGet.k{H:Hp}{a:Addr}{kvs:List (Key×V)}{k:Key}(e:H a=some (.dK kvs)):DGet H a (kV k) (valV kvs k):=.inl ⟨kvs,k,.inl e,rfl,rfl⟩
theorem DPut.k{H:Hp}{a:Addr}{kvs:List (Key×V)}{k:Key}{v:V}(e:H a=some (.dK kvs))(hl:kvs.length<sizeLine):DPut H a (kV k) v (upd H a (.dK (putK kvs k v))):=.inl ⟨kvs,k,e,rfl,hl,rfl⟩
section
variable{X:Cx}{pins:List (Addr×Obj)}{σ:St}{H:Hp}{s:Shared}{a:Addr}{y v:V}{u r:Value}{o:Option V}{A:Around}{E:Value->Shared->Prop}
theorem Inv.big(I:Inv X pins σ H s):sysModules<s.heap.objs.size:=by
 have h:mainGlobals<s.heap.objs.size:=(I.mod.glob.keeps I.bk).lt;exact Nat.lt_trans (by decide) h
theorem XY{Q:Value->Shared->Prop}(hu:A.units+1<cLine)(I:Inv X pins σ H s)(g:DGet H a y (some v))(ry:RelV y u)(h:∀w' s',Inv X pins σ H s'->RelV v w'->Q w' s') :
  wpAny (model X.prog X.w) A (getItem (.ref a) u) Q E s:=by
 rcases g with⟨kvs,k,e,ey,l⟩ | ⟨kvs,k,b,e,ey,eb,l⟩
 ·subst ey;obtain⟨z,hd,vs,rel,dd⟩:=j0D I.hok e;obtain⟨w',hw,rw'⟩:=RelO.some_of (v:=v) (o:=valueAt vs k) (by rw[l];exact rel.val k);exact wpAny_getItem_of (j0M ry) dd.mapOf hw (h w' _ (I.tok _) rw')
 ·subst ey;cases(show u=Value.ref b from ry);obtain⟨z,hd,xs,rel,dd⟩:=j0F I.hok e;obtain⟨w',hw,rw'⟩:=RelO.some_of (v:=v) (o:=(atKey xs k).map (·.2)) (by rw[l];exact rel.val k);obtain⟨p,hp,hp2⟩:=Option.map_eq_some_iff.mp hw;refine wpAny_getItem_heap (tupleKind_room_in1 hu) (xq I.hok eb) dd hp ?_;rw[hp2];exact h w' _ (I.tok _) rw'
theorem KZ{h':Heap}{t':Nat}{ob:HO}(I:Inv X pins σ H s)(mu:Mut (H a))(hs:Heap.SameBut a s.heap h')(he:∃q,h'.get? a=some q)(new:ObjOk X.prog X.w (upd H a ob) h' a ob) :
  Inv X pins σ (upd H a ob) {s with heap:=h',toks:=t'}:=
 I.write (x:=a) (e:=a) mu (.inl rfl) (fun b q hb z=>(hs.2 b hb).trans z) he new
theorem xf{P:Program}{w:World}{H':Hp}{h':Heap}{kvs:List (Key×V)}{vs:List (Key×Value)}(z:kvs.length<=sizeLine)(hd:(a==sysModules)=false)(rel:KV kvs vs)(dd:h'.DictOf (mixKind P w) a vs) :
  ObjOk P w H' h' a (.dK kvs):=⟨z,hd,vs,rel,dd⟩
theorem XZ{H':Hp}{Q:Unit->Shared->Prop}(hu:A.units+1<cLine)(I:Inv X pins σ H s)(g:DPut H a y v H')(ry:RelV y u)(rv:RelV v r)(h:∀s',Inv X pins σ H' s'->Q () s') :
  wpAny (model X.prog X.w) A (setItem (.ref a) u r) Q E s:=by
 rcases g with⟨kvs,k,e,ey,l,eH⟩ | ⟨kvs,k,b,e,ey,eb,l,eH⟩
 ·subst ey eH;obtain⟨z,hd,vs,rel,dd⟩:=Wg I.hok e;have hz:vs.length<=sizeLine:=by rw[<-rel.length];exact z
  have hl:(putK kvs k v).length<=sizeLine:=by have:=ZF kvs k v;omega
  refine wpAny_setItem_pairs (hsz:=hz) (j0M ry) dd fun h' dd' hs=>h _ ?_
  have he:∃q,h'.get? a=some q:=let ⟨q,_,_,hq,_⟩:=dd';⟨q,hq⟩;exact KZ I (by rw[e];exact True.intro) hs he (xf hl hd (rel.put k rv) dd')
 ·subst ey eH;cases(show u=Value.ref b from ry);obtain⟨z,hd,xs,rel,dd⟩:=j3g I.hok e;have hz:xs.length<=sizeLine:=by rw[<-Paired.length rel];exact z
  have hl:(putK kvs k v).length<=sizeLine:=by have:=ZF kvs k v;omega
  refine wpAny_setItem_heap (hsz:=hz) (tupleKind_room_in1 hu) (xq I.hok eb) dd fun h' dd' hs=>h _ ?_
  obtain⟨q,es,ep,hq,h2,h3,h4,_,h5⟩:=dd';refine KZ I (by rw[e];exact True.intro) hs ⟨q,hq⟩ ⟨hl,hd,_,(rel.put k eb rv).keeps fun c ys ec=>?_,q,es,ep,hq,h2,h3,h4,h5⟩;rw[jg (Jv ec e (fun z=>nomatch z))];exact ec
end
section
variable{X:Cx}{pins:List (Addr×Obj)}{σ:St}{H:Hp}{s:Shared}{a:Addr}{kvs:List (Key×V)}{k:Key}{u:Value}{A:Around}{E:Value->Shared->Prop}
end
def NoSl(i:Expr):Prop:=∀ov iv,subscripted i false ov iv=operate [ov,iv] (getItem ov iv)
theorem j2t{prog:Program}{w:World}{A:Around}{E:Value->Shared->Prop}{s:Shared}{env:Env}{value slice:Expr}{pos:Pos}{T id:String}{Q:Value->Shared->Prop}
  (hl:typeLookup (.type T) "__getitem__"= pure (some (.builtin id))) (hs:NoSl slice)
  (h:wpAny (model prog w) A (eval value env) (fun o s₁=>wpAny (model prog w) A (eval slice env) (fun i s₂=>s₂.TypeIs o T/\wpAny (model prog w) A (getItem o i) Q E s₂) E s₁) E s) :
  wpAny (model prog w) A (eval (.Subscript value slice pos) env) Q E s:=by
 refine Subscript_ (wpAny_mono h (fun o s₁ h₁=>wpAny_mono h₁ (fun i s₂ h₂=>?_) fun _ _ x=>x) fun _ _ x=>x);obtain⟨hT,h₂⟩:=h₂;unfold subscriptTail;refine wpAny_bind ?_;rw[getitemInPython_of_ne hT.not_modules];refine wpAny_bind (wpAny_specialOf hT hl ?_);have fin:wpAny (model prog w) A (subscripted slice false o i) (fun r s₃=>wpAny (model prog w) A (letTemporaryGo value o r >>= fun _=>pure r) Q E s₃) E s₂:=by
  rw[hs o i];exact wpAny_operating (wpAny_mono h₂ (fun r s₃ h₃=>wpAny_bind (wpAny_letTemporaryGo (wpAny_pure h₃))) fun _ _ x=>x)
 first
  | exact wpAny_pure (wpAny_bind fin)
  | exact wpAny_bind (wpAny_pure (wpAny_bind fin))
  | exact wpAny_bind fin
theorem We{X:Cx}{pins:List (Addr×Obj)}{σ:St}{H:Hp}{s:Shared}{a:Addr}{y:V}{o:Option V}(I:Inv X pins σ H s)(g:DGet H a y o):s.TypeIs (.ref a) "dict":=by
 rcases g with⟨kvs,k,e,_,_⟩ | ⟨kvs,k,b,e,_,_,_⟩
 ·obtain⟨_,_,vs,_,dd⟩:=j0D I.hok e;exact dd.typeIs
 ·obtain⟨_,_,xs,_,dd⟩:=j0F I.hok e;exact dd.typeIs
def tDGet(td ty:TE):TE:=fun σ H Q=>td σ H fun x H1=>ty σ H1 fun y H2=>∃a v,x = .ref a/\DGet H2 a y (some v)/\Q v H2
def sDPut(td ty tv:TE):TS:=fun D σ H=>tv σ H fun v H1=>td σ H1 fun x H2=>ty σ H2 fun y H3=>∃a H4,x = .ref a/\DPut H3 a y v H4/\D.nx σ H4
section
variable{X:Cx}{o i e value:Expr}{pos pos' tpos:Pos}{td ty tv:TE}
theorem Q3(hu:X.A.units+1<cLine)(ho:PE X o td)(hi:PE X i ty)(hs:NoSl i:=by exact fun _ _=>rfl):PE X (.Subscript o i pos) (tDGet td ty):=by
 intro pins s σ H Q I h;refine j2t PySem.F.slot_dict_getitem.lookup hs (thn (ho pins s σ H _ I h) fun u s1 ⟨x,H1,I1,rx,q1⟩=>thn (hi pins s1 σ H1 _ I1 q1) fun iv s2 ⟨y,H2,I2,ry,a,v,ex,g,q2⟩=>?_);subst ex;obtain rfl:u=Value.ref a:=rx;exact⟨We I2 g,XY hu I2 g ry fun w' s3 I3 rw'=>⟨v,H2,I3,rw',q2⟩⟩
theorem Y6(hu:X.A.units+1<cLine)(ho:PE X o td)(hi:PE X i ty)(hv:PE X value tv)(hs:swapsWith value (some (.Subscript o i pos')) pos.line X.env=pure false) :
  PS X (.Assign [.Subscript o i pos'] value pos) (sDPut td ty tv):=by
 intro pins s σ H D I h;refine wpAny_Assign_Subscript (thn (hv pins s σ H _ I h) fun r s1 ⟨v,H1,I1,rv,q1⟩=>thn (ho pins s1 σ H1 _ I1 q1) fun u s2 ⟨x,H2,I2,rx,q2⟩=>thn (hi pins s2 σ H2 _ I2 q2) fun iv s3 ⟨y,H3,I3,ry,a,H4,ex,g,q3⟩=>?_) hs;subst ex;obtain rfl:u=Value.ref a:=rx;exact XZ hu I3 g ry rv fun s4 I4=>⟨σ,H4,I4,q3⟩
end
theorem j0C{P:Program}{w:World}{H:Hp}(h:Heap)(hb:sysModules<h.objs.size):ObjOk P w H (h.push {cls:=.type "dict",data:=.dict #[]}) h.objs.size (.dK []):=
 ⟨Nat.zero_le _,beq_eq_false_iff_ne.mpr (Ne.symm (Nat.ne_of_lt hb)),[],.nil,Heap.DictOf.new h⟩
def tDNewK:TE:=fun _ H Q=>∀p,H p=none->Q (.ref p) (upd H p (.dK []))
section
variable{X:Cx}{pos:Pos}
theorem yS:PE X (.Dict [] [] pos) tDNewK:=fun pins s σ H Q I h=>
 wpAny_Dict_empty ⟨.ref s.heap.objs.size,_,I.laid (a:=s.heap.objs.size) (o:=.dK []) (t':=s.toks) (fun _ _ q=>Heap.get?_push_of_some _ q) (Nat.le_refl _) (j0C s.heap I.big),rfl,h _ (I.hok.fresh (Nat.le_refl _))⟩
end
noncomputable def mergeK(kvs more:List (Key×V)):List (Key×V):=more.foldl (fun acc kv=>putK acc kv.1 kv.2) kvs
theorem KV.merge:∀{more:List (Key×V)} {rs:List (Key×Value)} {kvs:List (Key×V)} {vs:List (Key×Value)},KV more rs->KV kvs vs->KV (mergeK kvs more) (merged vs rs):=by
 intro more rs kvs vs r;unfold KV at r
 induction r generalizing kvs vs with
 | nil=>intro q;exact q
 | @cons p q ps qs h t ih=>
  intro r0;have e:KV (putK kvs p.1 p.2) (stored vs q.1 q.2):=by
   have:=r0.put p.1 h.2;rw[<-h.1];exact this
  exact ih e
theorem zD:∀(more kvs:List (Key×V)),(mergeK kvs more).length<=kvs.length+more.length
 | [],kvs=>by show kvs.length<=kvs.length+0;omega
 | p::r,kvs=>by
  have h1:=zD r (putK kvs p.1 p.2);have h2:=ZF kvs p.1 p.2;show(mergeK (putK kvs p.1 p.2) r).length<=_;rw[length_cons];omega
section
variable{X:Cx}{pins:List (Addr×Obj)}{σ:St}{H:Hp}{s:Shared}{a:Addr}{y d:V}{u r:Value}{o:Option V}{A:Around}{E:Value->Shared->Prop}
end
section
variable{X:Cx}{o e f:Expr}{apos cpos:Pos}{td ty tx:TE}
end
section
variable{X:Cx}{pins:List (Addr×Obj)}{σ:St}{H:Hp}{s:Shared}{a:Addr}{kvs:List (Key×V)}{A:Around}{E:Value->Shared->Prop}
end
section
variable{X:Cx}{pins:List (Addr×Obj)}{σ:St}{H:Hp}{s:Shared}{a:Addr}{y:V}{u:Value}{A:Around}{E:Value->Shared->Prop}
end
section
variable{X:Cx}
end
section
variable{κ:Type}[DecidableEq κ]
end
theorem compLoopT{prog:Program}{w:World}{A:Around}{R:Result->Shared->Prop}{s:Shared}{elt target iter:Expr}{ifs:List Expr}{scope:Scope}{pos:Pos}{it acc:Value}{env:Env}(I:Nat->Shared->Prop)
  (turn:∀n s,I n s->wpAny (model prog w) A (pyNext it) (fun r s₁=>match r with
   | none=>R (.ok .next) s₁
   | some v=>wpAny (model prog w) A (letOwnedTupleGo target it v) (fun _ s₂=>wpAny (model prog w) A (assign target env v) (fun _ s₃=>
     wpAny (model prog w) A (forIn ifs true fun c r=>if r=true then do let ok <-isTrue c env (eval c env);pure (ForInStep.yield ok)else pure (ForInStep.yield r)) (fun ok s₄=>
      if ok=true then wpAny (model prog w) A (eval elt env) (fun x s₅=>
       wpAny (model prog w) A (call (.builtin "list.append") [acc,x]) (fun _ s₆=>∃m,m<n/\I m s₆) (fun _ _=>False) s₅) (fun _ _=>False) s₄
      else∃m,m<n/\I m s₄) (fun _ _=>False) s₃) (fun _ _=>False) s₂) (fun _ _=>False) s₁) (fun _ _=>False) s)
  (n:Nat) (h:I n s) :
  codeAny (model prog w) A (.compLoop (.ListComp elt [⟨target,iter,ifs,0⟩] scope pos) 0 it acc env) R s:=by
 refine codeAny_loop rfl I (fun n s hI=>?_) n h;show wpAny _ A ((compTurn (.ListComp elt [⟨target,iter,ifs,0⟩] scope pos) 0 it acc env).onRaise (fun x=>do noteFrame x env;theTreesLotGoes x)) _ _ s;refine wpAny_noted ?_;rw[compTurn_list];refine wpAny_bind (wpAny_standAt (wpAny_bind (wpAny_mono (turn n s hI) (fun r s₁ h₁=>?_) fun _ _ h'=>h'.elim)));cases r with
 | none=>exact wpAny_pure h₁
 | some v=>
  refine wpAny_bind (wpAny_mono h₁ (fun _ s₂ h₂=>?_) fun _ _ h'=>h'.elim);refine wpAny_bind (wpAny_mono h₂ (fun _ s₃ h₃=>wpAny_bind (wpAny_mono h₃ (fun ok s₄ h₄=>?_) fun _ _ h'=>h'.elim)) fun _ _ h'=>h'.elim);cases ok with
  | false=>exact wpAny_pure ⟨rfl,h₄⟩
  | true=>
   exact wpAny_bind (wpAny_bind (wpAny_mono h₄ (fun x s₅ h₅=>wpAny_bind (wpAny_mono h₅ (fun _ s₆ h₆=>wpAny_pure (wpAny_pure ⟨rfl,h₆⟩)) fun _ _ h'=>h'.elim)) fun _ _ h'=>h'.elim))
def PF(X:Cx)(ifs:List Expr)(t:TT):Prop:=
 ∀(pins:List (Addr×Obj)) (s:Shared) (σ:St) (H:Hp) (Q:Bool->Hp->Prop),Inv X pins σ H s->t σ H Q->
  wpAny (model X.prog X.w) X.A (forIn ifs true fun c r=>if r=true then do let ok <-isTrue c X.env (eval c X.env);pure (ForInStep.yield ok)else pure (ForInStep.yield r)) (TP X pins σ Q) X.xe s
def tYes:TT:=fun _ H Q=>Q true H
theorem zl{X:Cx}:PF X [] tYes:=fun _ _ _ H _ I h=>wpAny_tests_nil ⟨H,I,h⟩
theorem xF{X:Cx}{c:Expr}{t:TT}(hc:PT X c t):PF X [c] t:=fun pins s σ H Q I h=>wpAny_tests_one (hc pins s σ H Q I h)
noncomputable def closL(env:Env):List (Str×NameKind)->List (Str×Addr)->List (Str×Addr)
 | [],acc=>acc
 | (n,k)::r,acc=>closL env r (if k == .free then(n,(env.cells.lookup n).getD 0)::acc else acc)
theorem yD{scope:Scope}{env:Env}(h:∀y∈scope.names,y.2 = .free->∃c,env.cells.lookup y.1=some c):closureFor scope env=pure (closL env scope.names []):=by
 have go:∀(names:List (Str×NameKind)) (acc:List (Str×Addr)),(∀y∈names,y.2 = .free->∃c,env.cells.lookup y.1=some c)->
   (forIn (m:=Sem) names acc fun x r=>(match x with | (name,kind)=>if(kind == .free)=true then do let a <-cellOf env name;pure (ForInStep.yield ((name,a)::r))else pure (ForInStep.yield r)))=pure (closL env names acc):=by
  intro names
  induction names with
  | nil=>intro acc _;rfl
  | cons y r ih=>
   obtain⟨n,k⟩:=y;intro acc hh;rw[List.forIn_cons];cases hk:(k==NameKind.free)with
   | true=>
    have hk':k = .free:=by simpa using hk
    obtain⟨c,hc⟩:=hh (n,k) mem_cons_self hk';have ec:cellOf env n=pure c:=by unfold cellOf;rw[hc]
    simp only[hk,if_true,ec,pure_bind,closL,hc,Option.getD_some];exact ih _ fun y hy=>hh y (mem_cons_of_mem _ hy)
   | false=>
    simp only[hk,Bool.false_eq_true,if_false,pure_bind,closL];exact ih _ fun y hy=>hh y (mem_cons_of_mem _ hy)
 have g:=go scope.names [] h;unfold closureFor;simp only[g,pure_bind]
theorem Ky{env:Env}:∀(names:List (Str×NameKind)) (acc:List (Str×Addr)),(∀y∈names,y.2 = .free->∃c,env.cells.lookup y.1=some c)->(∀x c,acc.lookup x=some c->env.cells.lookup x=some c)->
  ∀x c,(closL env names acc).lookup x=some c->env.cells.lookup x=some c
 | [],_,_,ha,x,c,h=>ha x c h
 | (n,k)::r,acc,hh,ha,x,c,h=>by
  refine Ky r _ (fun y hy=>hh y (mem_cons_of_mem _ hy)) (fun x c e=>?_) x c h;cases hk:(k==NameKind.free)with
  | false=>rw[hk]at e;exact ha x c e
  | true=>
   rw[hk]at e;have hk':k = .free:=by simpa using hk
   obtain⟨c',hc⟩:=hh (n,k) mem_cons_self hk';simp only[if_true,hc,Option.getD_some]at e;rw[lookup_cons]at e;cases hx:(x==n)with
   | true=>
    rw[hx]at e;have:x=n:=by simpa using hx
    rw[this,hc];exact e
   | false=>rw[hx]at e;exact ha x c e
theorem Kx{env:Env}:∀(names:List (Str×NameKind)) (acc:List (Str×Addr)) (x:Str),(∃c,acc.lookup x=some c)->∃c,(closL env names acc).lookup x=some c
 | [],_,_,h=>h
 | (n,k)::r,acc,x,h=>by
  refine Kx r _ x ?_;cases hk:(k==NameKind.free)with
  | false=>exact h
  | true=>
   simp only[if_true];rw[lookup_cons];cases hx:(x==n)with
   | true=>exact⟨_,rfl⟩
   | false=>exact h
theorem Ym{env:Env}:∀(names:List (Str×NameKind)) (acc:List (Str×Addr)) (x:Str),(x,NameKind.free)∈names->∃c,(closL env names acc).lookup x=some c
 | [],_,_,h=>by simp at h
 | (n,k)::r,acc,x,h=>by
  rcases mem_cons.mp h with e | h
  ·cases e;refine Kx r _ _ ?_;simp
  ·exact Ym r _ x h
theorem zk{env:Env}:∀{names:List (Str×NameKind)} {x:Str} {k:NameKind},(names.map fun(n,k)=>if(k==NameKind.free&&env.scope.kind == .function&&env.kindOf n==some .cell)then(n,NameKind.cell)else(n,k)).lookup x=some k->
  ∃k',(x,k')∈names/\names.lookup x=some k'/\(k'=k\/(k' = .free/\k = .cell))
 | [],_,_,h=>by simp at h
 | (n,k₀)::r,x,k,h=>by
  have ih:=@zk env r x k;rw[map_cons]at h;dsimp only at h;cases hx:x==n with
  | true=>
   have e:x=n:=by simpa using hx
   subst e;refine⟨k₀,mem_cons_self,by simp,?_⟩;by_cases hc:(k₀==NameKind.free&&env.scope.kind == .function&&env.kindOf x==some .cell)=true
   ·rw[if_pos hc]at h;simp only[lookup_cons,beq_self_eq_true]at h;simp only[Bool.and_eq_true,beq_iff_eq]at hc;exact .inr ⟨hc.1.1,(Option.some.inj h).symm⟩
   ·rw[if_neg hc]at h;simp only[lookup_cons,beq_self_eq_true]at h;exact .inl (Option.some.inj h)
  | false=>
   have h':(r.map fun(n,k)=>if(k==NameKind.free&&env.scope.kind == .function&&env.kindOf n==some .cell)then(n,NameKind.cell)else(n,k)).lookup x=some k:=by
    by_cases hc:(k₀==NameKind.free&&env.scope.kind == .function&&env.kindOf n==some .cell)=true
    ·rw[if_pos hc]at h;simpa only[lookup_cons,hx]using h
    ·rw[if_neg hc]at h;simpa only[lookup_cons,hx]using h
   obtain⟨k',h1,h2,h3⟩:=ih h';exact⟨k',mem_cons_of_mem _ h1,by simpa only[lookup_cons,hx]using h2,h3⟩
theorem Yl:∀(names:List (Str×NameKind)) (n:Nat) (acc:List (Str×Addr)) (x:Str) (c:Addr),(cellsFrom n names acc).lookup x=some c->n<=c\/acc.lookup x=some c
 | [],_,_,_,_,h=>.inr h
 | (y,k)::r,n,acc,x,c,h=>by
  unfold cellsFrom at h;split at h
  ·rcases Yl r (n+1) _ x c h with q | q
   ·exact .inl (by omega)
   ·rw[lookup_cons]at q;cases hx:x==y with
    | true=>rw[hx]at q;cases q;exact .inl (Nat.le_refl _)
    | false=>rw[hx]at q;exact .inr q
  ·exact Yl r n acc x c h
theorem W9:∀(names:List (Str×NameKind)) (n:Nat) (acc:List (Str×Addr)),(∀x c,acc.lookup x=some c->c<n)->(∀x y c,acc.lookup x=some c->acc.lookup y=some c->x=y)->
  ∀x y c,(cellsFrom n names acc).lookup x=some c->(cellsFrom n names acc).lookup y=some c->x=y
 | [],_,_,_,hi,x,y,c,h1,h2=>hi x y c h1 h2
 | (z,k)::r,n,acc,hb,hi,x,y,c,h1,h2=>by
  unfold cellsFrom at h1 h2;split at h1
  ·rename_i hk;rw[if_pos hk]at h2;refine W9 r (n+1) _ (fun x c e=>?_) (fun x y c e1 e2=>?_) x y c h1 h2
   ·rw[lookup_cons]at e;cases hx:x==z with
    | true=>rw[hx]at e;cases e;exact Nat.lt_succ_self _
    | false=>rw[hx]at e;exact Nat.lt_succ_of_lt (hb x c e)
   ·rw[lookup_cons]at e1 e2;cases hx:x==z with
    | true=>
     rw[hx]at e1;cases e1;cases hy:y==z with
     | true=>rw[beq_iff_eq.mp hx,beq_iff_eq.mp hy]
     | false=>rw[hy]at e2;exact absurd (hb y n e2) (Nat.lt_irrefl _)
    | false=>
     rw[hx]at e1;cases hy:y==z with
     | true=>rw[hy]at e2;cases e2;exact absurd (hb x n e1) (Nat.lt_irrefl _)
     | false=>rw[hy]at e2;exact hi x y c e1 e2
  ·rename_i hk;rw[if_neg hk]at h2;exact W9 r n acc hb hi x y c h1 h2
theorem KY:∀(names:List (Str×NameKind)) (n:Nat) (acc:List (Str×Addr)) (x:Str),(∃c,acc.lookup x=some c)->∃c,(cellsFrom n names acc).lookup x=some c
 | [],_,_,_,h=>h
 | (y,k)::r,n,acc,x,h=>by
  unfold cellsFrom;split
  ·refine KY r (n+1) _ x ?_;rw[lookup_cons];cases hx:x==y with
   | true=>exact⟨_,rfl⟩
   | false=>exact h
  ·exact KY r n acc x h
theorem W8:∀(names:List (Str×NameKind)) (n:Nat) (acc:List (Str×Addr)) (x:Str),(x,NameKind.cell)∈names->∃c,(cellsFrom n names acc).lookup x=some c
 | [],_,_,_,h=>by simp at h
 | (y,k)::r,n,acc,x,h=>by
  unfold cellsFrom;rcases mem_cons.mp h with e | h
  ·cases e;simp only[beq_self_eq_true,if_true];exact KY r _ _ _ (by simp)
  ·split
   ·exact W8 r _ _ x h
   ·exact W8 r _ _ x h
theorem xb:∀(names:List (Str×NameKind)) (n:Nat) (acc:List (Str×Addr)) (x:Str),(x,NameKind.cell)∉names->(cellsFrom n names acc).lookup x=acc.lookup x
 | [],_,_,_,_=>rfl
 | (y,k)::r,n,acc,x,h=>by
  have hr:(x,NameKind.cell)∉r:=fun q=>h (mem_cons_of_mem _ q)
  unfold cellsFrom;split
  ·rename_i hk;rw[xb r _ _ x hr,lookup_cons];cases hx:x==y with
   | true=>rw[beq_iff_eq.mp hx,beq_iff_eq.mp hk]at h;exact absurd mem_cons_self h
   | false=>rfl
  ·exact xb r n acc x hr
theorem xa:∀(names:List (Str×NameKind)) (n₀ n:Nat) (acc:List (Str×Addr)) (x:Str) (c:Addr),n₀<=n->((x,NameKind.cell)∈names\/∀c,acc.lookup x=some c->n₀<=c)->(cellsFrom n names acc).lookup x=some c->n₀<=c
 | [],_,_,_,_,c,_,h,e=>h.elim (fun z=>by simp at z) fun z=>z c e
 | (y,k)::r,n₀,n,acc,x,c,hn,h,e=>by
  unfold cellsFrom at e;split at e
  ·refine xa r n₀ (n+1) _ x c (by omega) ?_ e;rcases h with h | h
   ·rcases mem_cons.mp h with q | q
    ·cases q;exact .inr fun c q=>by rw[lookup_cons,beq_self_eq_true]at q;cases q;exact hn
    ·exact .inl q
   ·refine .inr fun c q=>?_
    rw[lookup_cons]at q;cases hx:x==y with
    | true=>rw[hx]at q;cases q;exact hn
    | false=>rw[hx]at q;exact h c q
  ·rename_i hk;refine xa r n₀ n acc x c hn ?_ e;rcases h with h | h
   ·rcases mem_cons.mp h with q | q
    ·cases q;exact absurd rfl hk
    ·exact .inl q
   ·exact .inr h
theorem kg:∀(names:List (Str×NameKind)) (h:Heap) (acc:List (Str×Addr)) (x:Str) (c:Addr),(cellsFrom h.objs.size names acc).lookup x=some c->acc.lookup x=some c\/(pushCells h names).IsCell c none
 | [],_,_,_,_,e=>.inl e
 | (y,k)::r,h,acc,x,c,e=>by
  unfold cellsFrom at e;unfold pushCells;split
  ·rename_i hk;rw[if_pos hk]at e;rw[<-Heap.size_push h {cls:=.type "cell",data:=.cell none}]at e;rcases kg r _ _ x c e with q | q
   ·rw[lookup_cons]at q;cases hx:x==y with
    | true=>
     rw[hx]at q;cases q;exact .inr ⟨_,pushCells_keeps _ _ _ _ (Heap.get?_push_size _ rfl),rfl⟩
    | false=>rw[hx]at q;exact .inl q
   ·exact .inr q
  ·rename_i hk;rw[if_neg hk]at e;exact kg r h acc x c e
theorem envC{M:Model}{A:Around}{E:Value->Shared->Prop}{s:Shared}{scope:Scope}{globals:Addr}{cl:List (Str×Addr)}{qual:Str}{env:Env}{Q:Env->Shared->Prop}
  (h:Q (newEnv scope s.heap.objs.size globals (cellsFrom (s.heap.objs.size+1) scope.names cl) qual none .none (some env) builtinsNs) {s with heap:=pushCells (s.heap.push {cls:=.type "dict",data:=.dict #[]}) scope.names}) :
  wpAny M A (newFunctionEnv scope globals cl [] qual none .none (some env)) Q E s:=by
 simp only[newFunctionEnv,Option.isSome_some,if_true];refine wpAny_bind (wpAny_alloc ?_);refine wpAny_bind (wpAny_layCells _ (fun name kind cells=>by cases hkc:kind==NameKind.cell<;>simp[hkc]) _ _ _ _ ?_);rw[show({s with heap:=s.heap.push {cls:=.type "dict",data:=.dict #[]}}:Shared).heap.objs.size=s.heap.objs.size+1 from Heap.size_push ..];rw[List.forIn_nil];exact wpAny_bind (wpAny_pure (wpAny_pure h))
noncomputable def blk(X:Cx)(scope:Scope)(ow:List Str)(ci:List Nat)(C:Addr)(s₀:Shared)(H₀:Hp)(ex:List Addr)(pn:List (Addr×Obj)):Cx:=
 {X with N:=ow++ci.map fun j=>X.N.getD j "",s₀:=s₀,H₀:=H₀,env:=compEnvC scope (cellsFrom (C+1) scope.names (closL X.env scope.names [])) C X.env,outer:=X.stack,stack:=X.stack,ex:=ex,fn:=fun x=>scope.names.lookup x==some .cell,pn:=pn,xe:=fun _ _=>False}
structure CompScope(X:Cx)(scope:Scope)(ow:List Str)(ci:List Nat):Prop where
 kind:scope.kind = .function
 cell:∀y∈scope.names,y.2 = .cell->scope.names.lookup y.1=some .cell
 names:∀y∈scope.names,y.2 = .local->scope.names.lookup y.1=some .local
 free:∀y∈scope.names,y.2 = .free->X.env.kindOf y.1=some .cell\/X.env.kindOf y.1=some .free
 ix:∀j∈ci,j<X.N.length/\scope.names.lookup (X.N.getD j "")=some .free
noncomputable def compOk(fsc:Scope)(N:List Str)(scope:Scope)(ci:List Nat):Bool:=
 scope.kind == .function&&scope.names.all (fun y=>y.2 != .cell||scope.names.lookup y.1==some .cell)&&scope.names.all (fun y=>y.2 != .local||scope.names.lookup y.1==some .local) &&
 scope.names.all (fun y=>y.2 != .free||fsc.names.lookup y.1==some .cell||fsc.names.lookup y.1==some .free)&&ci.all (fun j=>decide (j<N.length)&&scope.names.lookup (N.getD j "")==some .free)
theorem CompScope.of{X:Cx}{scope:Scope}{ow:List Str}{ci:List Nat}(fsc:Scope)(N:List Str)(e1:X.env.scope=fsc)(e2:X.N=N)(h:compOk fsc N scope ci=true):CompScope X scope ow ci:=by
 subst e1 e2;unfold compOk at h;simp only[Bool.and_eq_true,all_eq_true,Bool.or_eq_true,bne_iff_ne,ne_eq,beq_iff_eq,decide_eq_true_eq]at h;obtain⟨⟨⟨⟨h1,h2⟩,h3⟩,h4⟩,h5⟩:=h;refine⟨h1,fun y hy e=>(h2 y hy).resolve_left fun z=>z e,fun y hy e=>?_,fun y hy e=>?_,fun j hj=>h5 j hj⟩
 ·rcases h3 y hy with z | z
  ·exact absurd e z
  ·exact z
 ·rcases h4 y hy with(z | z) | z
  ·exact absurd e z
  ·exact .inl z
  ·exact .inr z
theorem JP{X:Cx}{scope:Scope}{ow:List Str}{ci:List Nat}{C:Addr}{s₀:Shared}{H₀:Hp}{ex:List Addr}{pn:List (Addr×Obj)}(N:List Str)(e:X.N=N)(h:(ow++ci.map fun j=>N.getD j "").Nodup):(blk X scope ow ci C s₀ H₀ ex pn).N.Nodup:=by
 subst e;exact h
noncomputable def capAt(σ:St)(j:Nat):Option V:=match σ[j]? with | some o=>o | none=>none
noncomputable def capS(n:Nat)(ci:List Nat)(σ:St):St:=List.replicate n none++ci.map (capAt σ)
def tComp(wi:TI)(n:Nat)(ci:List Nat)(g:TG)(tf:TT)(te:TE):TE:=fun σ H Q=>wi σ H fun J H1=>∃W:Nat->Nat->List V->Hp->Prop,(∃m,W 0 m [] H1)/\∀i m ys H,W i m ys H->
 (J.stop i H/\ys.length<=sizeLine/\∀p,H p=none->Q (.ref p) (upd H p (.lst ys)))\/
 (J.go i H/\∃N:List V->Hp->Prop,(∀ys' H',N ys' H'->∃m',m'<m/\W (i+1) m' ys' H')/\∀x H',J.yld i H x H'->g x (capS n ci σ) H' fun σ2 H2=>tf σ2 H2 fun b H3=>
  if b=true then te σ2 H3 fun v H4=>ys.length<sizeLine/\N (ys++[v]) H4 else N ys H3)
section
variable{X:Cx}{pins:List (Addr×Obj)}{σ:St}{H:Hp}{s:Shared}{elt iter tg:Expr}{ifs:List Expr}{scope:Scope}{pos:Pos}{ow:List Str}{ci:List Nat}{g:TG}{tf:TT}{te:TE}
theorem CompScope.cells(S:CompScope X scope ow ci)(ok:X.Ok):∀y∈scope.names,y.2 = .free->∃c,X.env.cells.lookup y.1=some c:=fun y hy e=>ok.has y.1 (S.free y hy e)
theorem CompScope.sub(S:CompScope X scope ow ci)(ok:X.Ok):∀x c,(closL X.env scope.names []).lookup x=some c->X.env.cells.lookup x=some c:=
 Ky scope.names [] (S.cells ok) fun _ _ e=>by simp at e
theorem CompScope.cel(S:CompScope X scope ow ci)(ok:X.Ok){C:Addr}{x:Str}{c:Addr}(h:(cellsFrom (C+1) scope.names (closL X.env scope.names [])).lookup x=some c):C+1<=c\/X.env.cells.lookup x=some c:=
 (Yl _ _ _ _ _ h).imp id (S.sub ok x c)
theorem j2I(S:CompScope X scope ow ci)(I:Inv X pins σ H s){C:Addr}{ex:List Addr}{pn:List (Addr×Obj)}(hC:s.heap.objs.size<=C)
  (hex:∀b∈ex,b<s.heap.objs.size/\FpOk X pins H b):(blk X scope ow ci C s H ex pn).Ok where
 mod:=I.ok.mod
 kind:=S.kind
 glob:=I.ok.glob
 blt:=I.ok.blt
 above:=hC
 inj:=W9 scope.names (C+1) _ (fun x c e=>by
   obtain⟨v,q⟩:=I.cell x c (S.sub I.ok x c e);exact Nat.lt_succ_of_le (Nat.le_of_lt (Nat.lt_of_lt_of_le q.lt hC))) fun x y c h1 h2=>I.ok.inj x y c (S.sub I.ok x c h1) (S.sub I.ok y c h2)
 has:=fun x h=>by
  have h':∃k,(relabel scope X.env).names.lookup x=some k/\(k = .cell\/k = .free):=by
   rcases h with h | h
   ·exact⟨_,h,.inl rfl⟩
   ·exact⟨_,h,.inr rfl⟩
  obtain⟨k,hl,hk⟩:=h';obtain⟨k',hm,_,e⟩:=zk (env:=X.env) hl;have hf:k' = .cell\/k' = .free:=by
   rcases e with e | ⟨e,_⟩
   ·subst e;exact hk
   ·exact .inr e
  rcases hf with hf | hf
  ·subst hf;exact W8 scope.names _ _ x hm
  ·subst hf;exact KY scope.names _ _ x (Ym scope.names [] x hm)
 cab:=fun x c h e=>Nat.le_trans (Nat.le_trans hC (Nat.le_succ _)) (xa scope.names (C+1) (C+1) _ x c (Nat.le_refl _) (.inl (PySem.mem_of_lookup (beq_iff_eq.mp h))) e)
 hd:=I.ok.hd
 frames:=I.ok.frames
 stk:=.inl rfl
 exf:=fun b hb=>⟨Nat.ne_of_lt (Nat.lt_of_lt_of_le (hex b hb).1 hC),fun x c e=>(S.cel I.ok e).elim (fun q z=>Nat.lt_irrefl _ (Nat.lt_of_lt_of_le (z▸(hex b hb).1) (Nat.le_trans hC (Nat.le_trans (Nat.le_succ _) q)))) fun q=>(hex b hb).2.2.2.2.2.1 x c q⟩
 bs:=I.bs
 bsz:=Nat.le_trans I.ok.bsz I.sz
 noex:=fun b o e hb=>by
  obtain⟨_,_,_,h3,_⟩:=(hex b hb).2;rcases h3 with z | z
  ·exact I.ok.noex b o e z
  ·exact absurd (Nat.lt_of_lt_of_le (Heap.lt_size e) (Nat.le_trans I.ok.bsz z)) (Nat.lt_irrefl _)
 exfs:=fun b hb z=>by
  obtain⟨_,h1,h2,_⟩:=(hex b hb).2;rcases mem_cons.mp (I.stkSub b z)with e | e
  ·exact h1 e
  ·exact h2 e
 funs:=I.stack
 frf:=I.stkFree
theorem XT(S:CompScope X scope ow ci)(I:Inv X pins σ H s){C:Addr}{ex:List Addr}{h₁:Heap}{t₁:Nat}{m₀:Str->Option Value}(hC:s.heap.objs.size<=C)
  (hex:∀b∈ex,b<s.heap.objs.size/\FpOk X pins H b) (hn:h₁.Ns C m₀) (k:∀b o,s.heap.get? b=some o->h₁.get? b=some o)
  (hnew:∀x c,(cellsFrom (C+1) scope.names (closL X.env scope.names [])).lookup x=some c->(closL X.env scope.names []).lookup x=some c\/h₁.IsCell c none) :
  Inv (blk X scope ow ci C s H ex (X.pn++pins)) [] (capS ow.length ci σ) H {s with heap:=h₁,toks:=t₁}:=by
 have ok:=j2I (pn:=X.pn++pins) S I hC hex;refine⟨ok,rfl,I.bare,Un.kept k,⟨m₀,hn,fun i x v e1 e2 e3=>?_⟩,fun x c e=>?_,I.hok.fresh hC,fun x c e=>(S.cel I.ok e).elim (fun q=>I.hok.fresh (Nat.le_trans hC (Nat.le_trans (Nat.le_succ _) q))) (I.freeC x c),fun p hp=>?_,I.hok.kept k,?_⟩
 ·have e1':(ow++ci.map fun j=>X.N.getD j "")[i]?=some x:=e1;unfold capS at e2;by_cases hi:i<ow.length
  ·rw[List.getElem?_append_left (by simpa using hi),List.getElem?_replicate,if_pos hi]at e2;cases e2
  ·rw[List.getElem?_append_right (by simpa using hi),List.getElem?_map,List.length_replicate]at e2;rw[List.getElem?_append_right (by omega),List.getElem?_map]at e1';cases hj:ci[i-ow.length]? with
   | none=>rw[hj]at e2;cases e2
   | some j=>
    rw[hj]at e1' e2;obtain⟨hl,hf⟩:=S.ix j (List.mem_of_getElem? hj);have ex':X.N.getD j ""= x:=Option.some.inj e1';have eN:X.N[j]?=some x:=by
     rw[<-ex',getD_eq_getElem?_getD,List.getElem?_eq_getElem hl];rfl
    have ev:σ[j]?=some (some v):=by
     have e2':capAt σ j=some v:=Option.some.inj e2;unfold capAt at e2';cases q:σ[j]? with
     | none=>rw[q]at e2';cases e2'
     | some o=>rw[q]at e2';rw[show o=some v from e2']
    rw[ex']at hf;have hmem:(x,NameKind.free)∈scope.names:=PySem.mem_of_lookup hf;have hk:=S.free _ hmem rfl;obtain⟨m,_,hl'⟩:=I.loc;have vis:Vis X.env.scope x:=by
     rcases hk with q | q
     ·exact .inr (.inl q)
     ·exact .inr (.inr q)
    obtain⟨u,r,lk⟩:=hl' j x v eN ev vis;refine⟨u,r,.inr ⟨?_,?_⟩⟩
    ·rcases e3 with q | q | q
     ·obtain⟨k',_,h2,h3⟩:=zk (env:=X.env) q;rw[hf]at h2;cases h2;rcases h3 with h3 | ⟨_,h3⟩<;>cases h3
     ·exact .inl q
     ·exact .inr q
    ·rcases lk with⟨q,_⟩ | ⟨_,c,hc,hcell⟩
     ·have q':X.env.kindOf x=some .local:=q;rcases hk with z | z<;>(rw[z]at q';cases q')
     ·obtain⟨c',hc'⟩:=Ym (env:=X.env) scope.names [] x hmem;have e:=S.sub I.ok x c' hc';rw[hc]at e;cases e;refine⟨c,?_,hcell.keeps k⟩;show(cellsFrom (C+1) scope.names (closL X.env scope.names [])).lookup x=some c;rw[xb scope.names _ _ x fun z=>?_]
      ·exact hc'
      ·have:=S.cell _ z rfl;rw[hf]at this;cases this
 ·rcases hnew x c e with q | q
  ·obtain⟨v,q⟩:=I.cell x c (S.sub I.ok x c q);exact⟨v,q.keeps k⟩
  ·exact⟨_,q⟩
 ·have hp':p∈X.pn++pins:=by
   rcases mem_append.mp hp with z | z
   ·exact z
   ·cases z
  obtain⟨e,n,ne,nf,d⟩:=I.pin p hp';refine⟨k _ _ e,n,Nat.ne_of_lt (Nat.lt_of_lt_of_le (Heap.lt_size e) hC),fun z=>?_,d⟩;rcases mem_cons.mp (I.stkSub p.1 z)with q | q
  ·exact ne q
  ·exact nf q
 ·show(capS ow.length ci σ).length=(ow++ci.map fun j=>X.N.getD j "").length;simp[capS]
theorem Inv.forget{σ':St}(I:Inv X pins σ' H s)(n:Nat)(ci:List Nat)(σ:St)(hl:(capS n ci σ).length=X.N.length)(h:∀i v,n<=i->(capS n ci σ)[i]?=some (some v)->σ'[i]?=some (some v)):Inv X pins (capS n ci σ) H s:=
 I.weak (by rw[hl,I.len]) fun i v e=>by
  by_cases hi:n<=i
  ·exact h i v hi e
  ·unfold capS at e;rw[List.getElem?_append_left (by simpa using hi),List.getElem?_replicate,if_pos (by omega)]at e;cases e
def GKeeps(n:Nat)(g:TG):Prop:=∀x σ H (Q:St->Hp->Prop),g x σ H Q->g x σ H fun σ2 H2=>(∀(i:Nat) v,n<=i->σ[i]?=some (some v)->σ2[i]?=some (some v))/\Q σ2 H2
theorem Q2{n i:Nat}(h:i<n):GKeeps n (gName i):=fun x σ H Q q=>⟨fun j v hj e=>by rw[List.getElem?_set_ne (by omega)];exact e,q⟩
theorem Y1{K:Frg}{n i j:Nat}(hi:i<n)(hj:j<n):GKeeps n (gTup K 2 (gCons (gName i) (gCons (gName j) gNil))):=fun x σ H Q q=>by
 obtain⟨a,xs,e1,e2,e3,v,r,e4,v',r',e5,e6,q⟩:=q;refine⟨a,xs,e1,e2,e3,v,r,e4,v',r',e5,e6,fun k u hk e=>?_,q⟩;rw[List.getElem?_set_ne (by omega),List.getElem?_set_ne (by omega)];exact e
theorem kh{E:Value->Shared->Prop}{J:It}{fp:List Addr}{it:Addr}{tn:Nat->Heap->Prop}{RR:Value->Addr->Result->Shared->Prop}(hc:X.calm=true)(S:CompScope X scope ow ci)(hk:GKeeps ow.length g)
  (hb:∀C s₀ H₀ ex pn,PG (blk X scope ow ci C s₀ H₀ ex pn) tg g/\PF (blk X scope ow ci C s₀ H₀ ex pn) ifs tf/\PE (blk X scope ow ci C s₀ H₀ ex pn) elt te)
  (I:Inv X pins σ H s) (T:Turn X.prog X.w X.K tg J fp it tn) (st:tn 0 s.heap) (hf:∀b∈fp,FpOk X pins H b) (Z:List V->Hp->Prop)
  (W:Nat->Nat->List V->Hp->Prop) (w0:∃m,W 0 m [] H)
  (turn:∀i m ys H,W i m ys H->(J.stop i H/\ys.length<=sizeLine/\Z ys H)\/
   (J.go i H/\∃N:List V->Hp->Prop,(∀ys' H',N ys' H'->∃m',m'<m/\W (i+1) m' ys' H')/\∀x H',J.yld i H x H'->g x (capS ow.length ci σ) H' fun σ2 H2=>tf σ2 H2 fun b H3=>
    if b=true then te σ2 H3 fun v H4=>ys.length<sizeLine/\N (ys++[v]) H4 else N ys H3))
  (fin:∀D C s' H' m ys,Inv X pins σ (upd H' D (.lst ys)) s'->H' D=none->Z ys H'->s'.heap.Ns C m->s.heap.objs.size<=C->C≠D->H' C=none->RR (.ref D) C (.ok .next) s') :
  wpAny (model X.prog X.w) X.A (newList []) (fun acc s₃=>wpAny (model X.prog X.w) X.A (newFunctionEnv scope X.env.globals (closL X.env scope.names []) [] X.env.qual none .none (some X.env)) (fun cenv s₄=>
   codeAny (model X.prog X.w) X.A (.compStart (.ListComp elt [⟨tg,iter,ifs,0⟩] scope pos) 0 (.ref it) acc {cenv with scope:=relabel scope X.env}) (RR acc cenv.locals) s₄) E s₃) E s:=by
 refine wpAny_newObj_type (envC ?_);dsimp only;generalize hs3:({s with heap:=s.heap.push {cls:=.type "list",dict:=none,data:=.seq ([]:List Value).toArray}}:Shared)=s3;have e3:s3.heap=s.heap.push {cls:=.type "list",dict:=none,data:=.seq ([]:List Value).toArray}:=by rw[<-hs3]
 rw[<-e3];generalize hh1:pushCells (s3.heap.push {cls:=.type "dict",data:=.dict #[]}) scope.names=h₁;have k3:∀b o,s.heap.get? b=some o->s3.heap.get? b=some o:=fun b o e=>by rw[e3];exact Heap.get?_push_of_some _ e
 have hsz:s3.heap.objs.size=s.heap.objs.size+1:=by rw[e3,Heap.size_push]
 have I3:Inv X pins σ H s3:=by rw[<-hs3];exact I.kept (t':=s.toks) fun b o e=>Heap.get?_push_of_some _ e
 have hD3:s3.heap.get? s.heap.objs.size=some {cls:=.type "list",dict:=none,data:=.seq ([]:List Value).toArray}:=by rw[e3];exact Heap.get?_push_size _ rfl
 generalize hDD:s.heap.objs.size=D at *;generalize hCC:s3.heap.objs.size=C at *;have hDC:D<C:=by omega
 have hHD:H D=none:=I.hok.fresh (Nat.le_of_eq hDD);have fpD:FpOk X pins H D:=I.fpOk (Nat.le_of_eq hDD) hHD;have ltD:∀(b:Addr) o,s.heap.get? b=some o->b<D:=fun b o e=>by rw[<-hDD];exact Heap.lt_size e
 have ltC:∀(b:Addr) o,s3.heap.get? b=some o->b<C:=fun b o e=>by rw[<-hCC];exact Heap.lt_size e
 have hflt:∀b∈fp,b<D:=fun b hb=>by
  obtain⟨o,e,_⟩:=T.obj 0 _ st b hb;exact ltD b o e
 have hex:∀b∈D::fp,b<s3.heap.objs.size/\FpOk X pins H b:=fun b hb=>by
  rw[hCC];rcases mem_cons.mp hb with rfl | hb
  ·exact⟨hDC,fpD⟩
  ·exact⟨Nat.lt_trans (hflt b hb) hDC,hf b hb⟩
 have kk:∀b o,s3.heap.get? b=some o->h₁.get? b=some o:=fun b o e=>by rw[<-hh1];exact pushCells_keeps _ _ b o (Heap.get?_push_of_some _ e)
 have hns₁:h₁.Ns C fun _=>none:=by rw[<-hh1,<-hCC];exact(Heap.Ns.new s3.heap (.type "dict")).keeps (pushCells_keeps _ _)
 have hnew:∀x c,(cellsFrom (C+1) scope.names (closL X.env scope.names [])).lookup x=some c->(closL X.env scope.names []).lookup x=some c\/h₁.IsCell c none:=fun x c e=>by
  rw[<-hh1];refine kg scope.names _ _ x c ?_;rw[Heap.size_push,hCC];exact e
 obtain⟨hg,hfl,he⟩:=hb C s3 H (D::fp) (X.pn++pins);generalize hY:blk X scope ow ci C s3 H (D::fp) (X.pn++pins)=Y at hg hfl he;have Yprog:Y.prog=X.prog:=by rw[<-hY];rfl
 have Yw:Y.w=X.w:=by rw[<-hY];rfl
 have YK:Y.K=X.K:=by rw[<-hY];rfl
 have YA:Y.A=X.A:=by rw[<-hY];rfl
 have Yc:Y.calm=true:=by rw[<-hY];exact hc
 have Yenv:Y.env=compEnvC scope (cellsFrom (C+1) scope.names (closL X.env scope.names [])) C X.env:=by rw[<-hY];rfl
 have Yxe:Y.xe=fun _ _=>False:=by rw[<-hY];rfl
 have Yfs:Y.fs=frs X.stack:=by rw[<-hY];rfl
 have Yex:Y.ex=D::fp:=by rw[<-hY];rfl
 have Ypn:Y.pn=X.pn++pins:=by rw[<-hY];rfl
 have Ys:Y.s₀=s3:=by rw[<-hY];rfl
 have YH:Y.H₀=H:=by rw[<-hY];rfl
 have YN:(capS ow.length ci σ).length=Y.N.length:=by rw[<-hY];show(capS ow.length ci σ).length=(ow++ci.map fun j=>X.N.getD j "").length;simp[capS]
 have own:∀b∈D::fp,b≠Y.env.locals/\b∉Y.fs/\b∈Y.ex/\(∀x c,Y.env.cells.lookup x=some c->c≠b)/\∀p∈Y.pn,p.1≠b:=fun b hb=>by
  obtain⟨h0,h1,h2,h3,h4,h5⟩:=(hex b hb).2;refine⟨by rw[Yenv];exact Nat.ne_of_lt (hCC▸(hex b hb).1),fun z=>?_,by rw[Yex];exact hb,fun x c e=>?_,by rw[Ypn];exact h5⟩
  ·rw[Yfs]at z;rcases mem_cons.mp (I.stkSub b z)with q | q
   ·exact h1 q
   ·exact h2 q
  ·rw[Yenv]at e;rcases S.cel I.ok e with q | q
   ·exact fun z=>Nat.lt_irrefl _ (Nat.lt_of_lt_of_le (hCC▸(hex b hb).1) (Nat.le_trans (Nat.le_succ _) (z▸q)))
   ·exact h4 x c q
 have nDf:D∉fp:=fun z=>Nat.lt_irrefl _ (hflt D z)
 have loop:∀s4:Shared,Inv Y [] (capS ow.length ci σ) H s4->tn 0 s4.heap->s4.heap.PlainList D #[]->
   codeAny (model X.prog X.w) X.A (.compLoop (.ListComp elt [⟨tg,iter,ifs,0⟩] scope pos) 0 (.ref it) (.ref D) (compEnvC scope (cellsFrom (C+1) scope.names (closL X.env scope.names [])) C X.env)) (RR (.ref D) C) s4:=by
  intro s4 J4 st4 pl4;obtain⟨m0,w0⟩:=w0;refine compLoopT (fun n s'=>∃i ys its H',Inv Y [] (capS ow.length ci σ) H' s'/\tn i s'.heap/\(∀b∈fp,H' b=none)/\H' D=none/\s'.heap.PlainList D its/\Vals ys its.toList/\W i n ys H') ?_ m0
   ⟨0,[],#[],H,J4,st4,fun b hb=>(hf b hb).1,hHD,pl4,.nil,w0⟩
  rintro n s5 ⟨i,ys,its,H5,J5,st5,fr5,hD5,⟨pn5,pl5⟩,va5,w5⟩;have vl:ys.length=its.size:=by have:=va5.length;simpa using this
  have pinD:∀{H':Hp} {s':Shared} {σ':St},Inv Y [] σ' H' s'->H' D=none->∀{o:Obj},s'.heap.get? D=some o->(∀v,o.data≠.cell v)->Inv Y [(D,o)] σ' H' s':=fun {H' s' σ'} K hD o e d=>
   K.pins_of fun p hp=>by
    have ep:p=(D,o):=by simpa using hp
    subst ep;obtain⟨a1,a2,_⟩:=own D mem_cons_self;exact⟨e,hD,a1,a2,d⟩
  have P5:=pinD J5 hD5 pl5 (fun v z=>by cases z);have fpk:∀{H':Hp},(∀b∈fp,H' b=none)->∀{o:Obj},∀b∈fp,FpOk Y [(D,o)] H' b:=fun {H'} hn {o} b hb=>by
   obtain⟨a1,a2,a3,a4,a5⟩:=own b (mem_cons_of_mem _ hb);refine⟨hn b hb,a1,a2,.inl a3,a4,fun p hp=>?_⟩;rcases mem_append.mp hp with q | q
   ·exact a5 p q
   ·have ep:p=(D,o):=by simpa using q
    subst ep;exact fun z=>nDf (by have z':D=b:=z;rw[z'];exact hb)
  rcases turn i n ys H5 w5 with⟨stop,hsz5,z5⟩ | ⟨go,NN,hNN,step⟩
  ·have d:=T.done Y Yprog Yw YK Yc i [(D,_)] s5 _ H5 (fun _ _=>False) P5 (fpk fr5) st5 stop;rw[YA]at d;refine thn d fun r s6 ⟨hr,J6⟩=>?_
   subst hr;have D6:=(J6.pin (D,_) (mem_append_right _ mem_cons_self)).1;obtain⟨mC,hnC,_⟩:=J6.loc;rw[Yenv]at hnC;have hnC':s6.heap.Ns C mC:=hnC;have hC6:H5 C=none:=by have:=J6.free;rw[Yenv]at this;exact this
   refine fin D C s6 H5 mC ys ?_ hD5 z5 hnC' (Nat.le_of_lt hDC) (Nat.ne_of_gt hDC) hC6;have B:=J6.base;rw[Yfs,Yex,YH,Ys]at B;have low:∀b o,s.heap.get? b=some o->b≠D/\b≠C:=fun b o e=>⟨Nat.ne_of_lt (ltD b o e),Nat.ne_of_lt (Nat.lt_trans (ltD b o e) hDC)⟩
   have nex:∀b o,s.heap.get? b=some o->b∉fp->b∉D::fp:=fun b o e hb z=>by
    rcases mem_cons.mp z with q | q
    ·exact(low b o e).1 q
    ·exact hb q
   have uN:Un (frs X.stack) fp H (upd H5 D (.lst ys)) s.heap s6.heap:=by
    refine⟨fun b o e n hb hx=>B.keep b o (k3 b o e) n hb (nex b o e hx),fun b o e n hb hx=>B.slot b o (k3 b o e) n hb (nex b o e hx),fun b o e n hx=>?_,fun b o e hx=>B.there b o (k3 b o e) (nex b o e hx),fun b xs q=>?_,fun b o u q=>?_,fun b ps q=>?_⟩
    ·rw[jg (low b o e).1];exact B.free b o (k3 b o e) n (nex b o e hx)
    ·rw[jg (je (B.tups b xs q) hD5)];exact B.tups b xs q
    ·rw[jg (je (B.frzs b o u q) hD5)];exact B.frzs b o u q
    ·obtain⟨mo,q'⟩:=B.tbls b ps q;exact⟨mo,by rw[jg (je q' hD5)];exact q'⟩
   have hok6:HOk X.prog X.w H5 s6.heap:=by rw[<-Yprog,<-Yw];exact J6.hok
   have hokN:HOk X.prog X.w (upd H5 D (.lst ys)) s6.heap:=fun b u e=>by
    by_cases hbD:b=D
    ·subst hbD;rw[jx]at e;cases e;exact⟨hsz5,its.toList,_,va5,by simpa using D6⟩
    ·rw[jg hbD]at e;exact(hok6 b u e).stay (fun c v _ q=>q) (fun c q=>by rw[jg (je q hD5)];exact q) fun c xs q=>by rw[jg (je q hD5)];exact q
   refine I.call' (by rw[J6.os,Ys,<-hs3]) uN hokN J6.bare fun b hb=>?_
   obtain⟨h0,h1,h2,h3,h4,h5⟩:=hf b hb;exact⟨h3,h1,h4,h5⟩
  ·have d:=T.item Y Yprog Yw YK Yc i [(D,_)] s5 _ H5 (fun _ _=>False) P5 (fpk fr5) st5 go;rw[YA]at d;refine thn d fun r s6 ⟨u,hr,h6⟩=>?_
   subst hr;refine thn h6 fun _ s7 ⟨x,H7,J7,r7,y7,st7,fr7⟩=>?_
   have J7':=J7.pinned (fpk fr7) (T.obj _ _ st7);have h8:=hg _ s7 _ H7 x u _ J7' r7 (hk _ _ _ _ (step x H7 y7));rw[Yprog,Yw,YA,Yenv,Yxe]at h8;refine thn h8 fun _ s8 ⟨σ8,H8,J8,ks8,q8⟩=>?_
   have h9:=hfl _ s8 σ8 H8 _ J8 q8;rw[Yprog,Yw,YA,Yenv,Yxe]at h9;refine thn h9 fun b s9 ⟨H9,J9,q9⟩=>?_
   have back:∀{H':Hp} {s':Shared},Inv Y ([(D,({cls:=.type "list",data:=.seq its pn5}:Obj))]++pinsAt fp s7.heap) σ8 H' s'->Inv Y [] (capS ow.length ci σ) H' s'/\tn (i+1) s'.heap/\(∀b∈fp,H' b=none)/\H' D=none/\s'.heap.get? D=some {cls:=.type "list",data:=.seq its pn5}:=fun {H' s'} K=>by
    have pD:=K.pin (D,_) (mem_append_right _ (mem_append_left _ mem_cons_self));refine⟨(K.pins_of (pins':=[]) (by simp)).forget _ _ _ YN (fun j v hj e=>ks8 j v hj e),T.keep _ _ _ st7 fun b hb o e=>(K.pin (b,o) (mem_append_right _ (mem_append_right _ (Zi hb e)))).1,fun b hb=>?_,pD.2.1,pD.1⟩;obtain⟨o,e,_⟩:=T.obj _ _ st7 b hb;exact(K.pin (b,o) (mem_append_right _ (mem_append_right _ (Zi hb e)))).2.1
   cases b with
   | false=>
    rw[if_neg Bool.false_ne_true]at q9|-;obtain⟨m',hm,w9⟩:=hNN _ _ q9;obtain⟨K9,st9,fr9,hD9,e9⟩:=back J9;exact⟨m',hm,i+1,ys,its,H9,K9,st9,fr9,hD9,⟨_,e9⟩,va5,w9⟩
   | true=>
    rw[if_pos rfl]at q9|-;have h10:=he _ s9 σ8 H9 _ J9 q9;rw[Yprog,Yw,YA,Yenv,Yxe]at h10;refine thn h10 fun z s10 ⟨v,H10,J10,r10,hlt,n10⟩=>?_
    obtain⟨m',hm,w10⟩:=hNN _ _ n10;obtain⟨K10,st10,fr10,hD10,e10⟩:=back J10;refine wpAny_list_append_plain (hsz:=by rw[<-vl];exact Nat.le_of_lt hlt) ⟨_,e10⟩ fun h11 pl11 hs11=>?_
    obtain⟨a1,a2,a3,a4,a5⟩:=own D mem_cons_self;have K11:Inv Y [] (capS ow.length ci σ) H10 {s10 with heap:=h11}:=K10.turned (t':=s10.toks) (fun b o hb e=>(hs11.2 b hb).trans e) hD10 a1 (.inl a3) a4 (fun p hp=>a5 p (by simpa using hp));refine⟨m',hm,i+1,ys++[v],its.push z,H10,K11,T.keep _ _ _ st10 fun b hb o e=>(hs11.2 b (fun q=>nDf (q▸hb))).trans e,fr10,hD10,pl11,?_,w10⟩;rw[Array.toList_push];exact va5.append (.cons r10 .nil)
 have J4:Inv Y [] (capS ow.length ci σ) H {s3 with heap:=h₁}:=by
  rw[<-hY];exact XT (t₁:=s3.toks) S I3 (Nat.le_of_eq hCC) hex hns₁ kk hnew
 have st4:tn 0 h₁:=T.keep _ _ _ st fun b _ o e=>kk b o (k3 b o e)
 have pl4:h₁.PlainList D #[]:=⟨_,kk _ _ hD3⟩
 have L:=loop _ J4 st4 pl4;subst hs3;exact codeAny_compStart_list L (T.self _ 0 _ _ _ st4 L)
variable{wi:TI}
theorem qC(hc:X.calm=true)(S:CompScope X scope ow ci)(hk:GKeeps ow.length g)(hi:PI X tg iter wi)
  (hb:∀C s₀ H₀ ex pn,PG (blk X scope ow ci C s₀ H₀ ex pn) tg g/\PF (blk X scope ow ci C s₀ H₀ ex pn) ifs tf/\PE (blk X scope ow ci C s₀ H₀ ex pn) elt te)
  (hs:∀x,foldedSetIterable iter X.env x=pure x:=by intro _;rfl):PE X (.ListComp elt [⟨tg,iter,ifs,0⟩] scope pos) (tComp wi ow.length ci g tf te):=by
 intro pins s σ H Q I h;rw[eval_ListComp];refine wpAny_comprehension_free (use:=none) rfl hs (yD (S.cells I.ok)) S.kind S.names (thn (hi pins s σ H _ I h) fun v s1 h1=>thn h1 fun itv s2 h2=>?_);obtain⟨it,fp,tn,J,H2,e,I2,T,st2,f2,W,w0,turn⟩:=h2;subst e;refine kh (RR:=fun acc C=>compPost (model X.prog X.w) X.A X.xe none (EP X pins σ Q) acc C) hc S hk hb I2 T st2 f2 (fun ys H=>∀p,H p=none->Q (.ref p) (upd H p (.lst ys))) W w0 turn fun D C s' H' m ys K hD z hn hC hCD hC0=>?_
 refine⟨m,hn,fun h' hs'=>⟨.ref D,upd H' D (.lst ys),?_,rfl,z D hD⟩⟩;obtain⟨f0,f1,f2',f3,f4,f5⟩:=I2.fpOk (H':=upd H' D (.lst ys)) hC (by rw[jg hCD];exact hC0);exact K.turned (t':=s'.toks) (fun b o hb e=>(hs'.2 b hb).trans e) f0 f1 f3 f4 f5
theorem XD{i:Nat}{x:Str}{px spos:Pos}(hc:X.calm=true)(S:CompScope X scope ow ci)(hk:GKeeps ow.length g)(hN:X.N.Nodup)(hx1:X.N[i]?=some x)(hx:Loc X.env.scope x)(hi:PI X tg iter wi)
  (hb:∀C s₀ H₀ ex pn,PG (blk X scope ow ci C s₀ H₀ ex pn) tg g/\PF (blk X scope ow ci C s₀ H₀ ex pn) ifs tf/\PE (blk X scope ow ci C s₀ H₀ ex pn) elt te)
  (hsw:swapsWith (.ListComp elt [⟨tg,iter,ifs,0⟩] scope pos) (some (.Name x px)) spos.line X.env=pure true:=by rfl)
  (hf:X.fn x=true\/X.env.scope.names.lookup x=some .local:=by first | exact .inl rfl | exact .inr rfl | assumption)
  (hs:∀x,foldedSetIterable iter X.env x=pure x:=by intro _;rfl):PS X (.Assign [.Name x px] (.ListComp elt [⟨tg,iter,ifs,0⟩] scope pos) spos) (tAsg (tComp wi ow.length ci g tf te) (gName i)):=by
 intro pins s σ H D I h;rw[exec_Assign_Name_used _ _ _ _ hsw];refine wpAny_bind (wpAny_standAt (wpAny_bind ?_));show wpAny _ X.A (do let _ <-comprehension (.ListComp elt [⟨tg,iter,ifs,0⟩] scope pos) scope X.env _ (newList []) false (eval iter X.env) (some (assign (.Name x px) X.env))) _ _ s;refine wpAny_bind (wpAny_mono (wpAny_comprehension_free (use:=some (assign (.Name x px) X.env)) (Q:=fun _ s'=>SP X pins D .next s') rfl hs (yD (S.cells I.ok)) S.kind S.names
  (thn (hi pins s σ H _ I h) fun v s1 h1=>thn h1 fun itv s2 h2=>?_)) (fun _ s' hq=>wpAny_pure (wpAny_pure hq)) fun _ _ e=>e)
 obtain⟨it,fp,tn,J,H2,e,I2,T,st2,f2,W,w0,turn⟩:=h2;subst e;refine kh (RR:=fun acc C=>compPost (model X.prog X.w) X.A X.xe (some (assign (.Name x px) X.env)) (fun _ s'=>SP X pins D .next s') acc C) hc S hk hb I2 T st2 f2
  (fun ys H=>∀p,H p=none->gName i (.ref p) σ (upd H p (.lst ys)) D.nx) W w0 turn fun P C s' H' m ys K hD z hn hC hCD hC0=>?_
 obtain⟨f0,f1,f2',f3,f4,f5⟩:=I2.fpOk (H':=upd H' P (.lst ys)) hC (by rw[jg hCD];exact hC0);show wpAny _ X.A (assign (.Name x px) X.env (.ref P)) _ _ s';refine wpAny_assign_Name (KI K hN hx1 hx (v:=.ref P) rfl (fun s3 K3 ⟨a,hs3,ha⟩=>⟨m,hn.sameBut hs3 ?_,fun h' hs'=>?_⟩) hf)
 ·rcases ha with q | q
  ·rw[q];exact f1
  ·exact fun z=>f4 x a q z.symm
 ·exact⟨_,_,K3.turned (t':=s3.toks) (fun b o hb e=>(hs'.2 b hb).trans e) f0 f1 f3 f4 f5,z P hD⟩
theorem xc{lo:Int}{n k:Nat}{ci:List Nat}{g:TG}{tf:TT}{te:TE}{σ:St}{H:Hp}{Z:Addr->List V->Hp->Prop}(Pv:Nat->List V->Hp->Prop)(h0:Pv 0 [] H)
  (hs:∀i ys H,i<n->Pv i ys H->g (.int (lo+i)) (capS k ci σ) H fun σ2 H2=>tf σ2 H2 fun b H3=>if b=true then te σ2 H3 fun v H4=>ys.length<sizeLine/\Pv (i+1) (ys++[v]) H4 else Pv (i+1) ys H3)
  (hd:∀ys H,Pv n ys H->ys.length<=sizeLine/\∀p,H p=none->Z p ys H) :
  ∃W:Nat->Nat->List V->Hp->Prop,(∃m,W 0 m [] H)/\∀i m ys H,W i m ys H->
   ((Itr lo n).stop i H/\ys.length<=sizeLine/\∀p,H p=none->Z p ys H)\/
   ((Itr lo n).go i H/\∃N:List V->Hp->Prop,(∀ys' H',N ys' H'->∃m',m'<m/\W (i+1) m' ys' H')/\∀x H',(Itr lo n).yld i H x H'->g x (capS k ci σ) H' fun σ2 H2=>tf σ2 H2 fun b H3=>
    if b=true then te σ2 H3 fun v H4=>ys.length<sizeLine/\N (ys++[v]) H4 else N ys H3):=by
 refine⟨fun i m ys H=>m=n-i/\i<=n/\Pv i ys H,⟨n,by simp,Nat.zero_le _,h0⟩,?_⟩;rintro i m ys H ⟨rfl,hi,p⟩;by_cases hlt:i<n
 ·refine .inr ⟨hlt,Pv (i+1),fun ys' H' p'=>⟨n-(i+1),by omega,rfl,hlt,p'⟩,fun x H' y=>?_⟩;obtain⟨e,y⟩:=y;subst e y;exact hs i ys _ hlt p
 ·have e:i=n:=by omega
  subst e;exact .inl ⟨Nat.le_refl _,hd ys H p⟩
theorem qm{K:Frg}{a:Addr}{xs:List V}{k:Nat}{ci:List Nat}{g:TG}{tf:TT}{te:TE}{σ:St}{H:Hp}{Z:Addr->List V->Hp->Prop}(Pv:Nat->List V->Hp->Prop)(h0:Pv 0 [] H)(hl:∀i ys H,i<=xs.length->Pv i ys H->SqL K H a xs)
  (hs:∀i x ys H,xs[i]?=some x->Pv i ys H->g x (capS k ci σ) H fun σ2 H2=>tf σ2 H2 fun b H3=>if b=true then te σ2 H3 fun v H4=>ys.length<sizeLine/\Pv (i+1) (ys++[v]) H4 else Pv (i+1) ys H3)
  (hd:∀ys H,Pv xs.length ys H->ys.length<=sizeLine/\∀p,H p=none->Z p ys H) :
  ∃W:Nat->Nat->List V->Hp->Prop,(∃m,W 0 m [] H)/\∀i m ys H,W i m ys H->
   ((Itl K a).stop i H/\ys.length<=sizeLine/\∀p,H p=none->Z p ys H)\/
   ((Itl K a).go i H/\∃N:List V->Hp->Prop,(∀ys' H',N ys' H'->∃m',m'<m/\W (i+1) m' ys' H')/\∀x H',(Itl K a).yld i H x H'->g x (capS k ci σ) H' fun σ2 H2=>tf σ2 H2 fun b H3=>
    if b=true then te σ2 H3 fun v H4=>ys.length<sizeLine/\N (ys++[v]) H4 else N ys H3):=by
 refine⟨fun i m ys H=>m=xs.length-i/\i<=xs.length/\Pv i ys H,⟨xs.length,by simp,Nat.zero_le _,h0⟩,?_⟩;rintro i m ys H ⟨rfl,hi,p⟩;have q:=hl i ys H hi p;by_cases hlt:i<xs.length
 ·refine .inr ⟨⟨xs,xs[i],q,by simp[hlt]⟩,Pv (i+1),fun ys' H' p'=>⟨xs.length-(i+1),by omega,rfl,hlt,p'⟩,fun x H' y=>?_⟩;obtain⟨e,y⟩:=y;subst e;exact hs i x ys _ (y xs q) p
 ·have e:i=xs.length:=by omega
  subst e;exact .inl ⟨⟨xs,q,Nat.le_refl _⟩,hd ys H p⟩
end
theorem XB:(10:Nat)^250<2^831:=by decide +kernel
theorem w4{x:Int}(h1 : -10^250<=x)(h2:x<=10^250):Builtin.Int.intBits x<=1048576:=by
 refine Nat.le_trans (PySem.intBits_le_iff.mpr ?_:Builtin.Int.intBits x<=831) (by decide);have:x.natAbs<=10^250:=by omega
 exact Nat.lt_of_le_of_lt this XB
theorem mulOk{x y:Int}(h1 : -10^250<=x)(h2:x<=10^250)(h3 : -10^250<=y)(h4:y<=10^250):IntMulOk x y:=.of_bits (w4 h1 h2) (w4 h3 h4)
section
variable{X:Cx}
theorem Qj:OpR X (binaryOp .Mult) (rI IntMulOk fun i j=>.int (i*j)):=opI fun _ _ _ _ _ _ _ hc q=>mul_int q hc
def CDivB(_ j:Int):Prop:=0<j/\j<=10^250
theorem cdivB{i j:Int}(h1:0<j)(h2:j<=10^250):CDivB i j:=⟨h1,h2⟩
theorem Jf:OpR X (binaryOp .FloorDiv) (rI CDivB fun i j=>.int (i/j)):=opI fun i j _ _ _ _ _ hc q=>by
 have h1:(0:Int)<j:=hc.1;have h2:j<=10^250:=hc.2;refine floordiv_int (by omega) ?_ (.inl (PyProof.noPylong_of_log2 ?_))
 ·rw[Int.fdiv_eq_ediv_of_nonneg _ (by omega)];exact q
 ·have e:j.natAbs<=10^250:=by omega
  have g:j.natAbs.log2<831:=(Nat.log2_lt (by omega)).mpr (Nat.lt_of_le_of_lt e XB);omega
theorem Wa:CallR X (.builtin "isinstance") (fun xs H Q=>∃x T t b,xs=[x,.ty T]/\TyOf X.K H x t/\PySem.W.kitOne X.K t (.type T)=some b/\Q (.bl b) H):=by
 intro pins s σ H xs us Q I r h;obtain⟨x,T,t,b,rfl,ty,e,q⟩:=h;obtain⟨u,w',rfl,rx,rT⟩:=vals2 r;cases(show w'=Value.type T from rT);exact X7 I rx ty e fun tk=>⟨.bl b,H,I.tok _,rfl,q⟩
theorem j0l{prog:Program}{w:World}{A:Around}{E:Value->Shared->Prop}{s:Shared}{l:Addr}{xs:Array (Int×Tok)}{Q:Value->Shared->Prop}(hh:A.handled=none)(hl:s.heap.IsList l (intItems xs))
  (h:∀h' tk t',(∀b o,s.heap.get? b=some o->h'.get? b=some o)->Q (.int (preSum (numAt xs) xs.size) t') {s with heap:=h',toks:=tk}) :
  wpAny (model prog w) A (call (.builtin "sum") [.ref l]) Q E s:=by
 obtain⟨o,ho,hc,n,hd⟩:=id hl;have hne:l≠s.heap.objs.size:=Nat.ne_of_lt (Heap.lt_size ho);have hsz:(intItems xs).size=xs.size:=by simp[intItems]
 have W:=(Walks.list (prog:=prog) (w:=w) (A:=A.in1) hh s.heap.objs.size l hne (intItems xs)).toS;rw[hsz]at W;refine call_sum_walkAnyS (wpAny_pyIter_list hl ?_);refine⟨s.heap.objs.size,_,_,_,_,_,_,numAt xs,rfl,W,⟨⟨_,Heap.get?_push_size _ rfl,rfl,rfl⟩,hl.at fun o e=>Heap.get?_push_of_some _ e⟩,fun b hb=>?_,fun i v hP=>intItems_at hP,fun s' t' hm=>?_⟩
 ·rcases mem_cons.mp hb with rfl | hb
  ·exact Heap.lt_size (Heap.get?_push_size _ rfl)
  ·obtain rfl:=mem_singleton.mp hb;exact Heap.lt_size (Heap.get?_push_of_some _ ho)
 ·obtain⟨h',g',d',tk',os'⟩:=s';have e1:g'=s.gens:=hm.gens;have e2:d'=s.drawn:=hm.drawn;have e3:os'=s.os:=hm.os;subst e1 e2 e3;exact h h' tk' t' fun b o e=>hm.heap b o (fun hb=>absurd (Heap.lt_size e) ((mem_singleton.mp hb)▸Nat.lt_irrefl _)) (Heap.get?_push_of_some _ e)
theorem Yk(hc:X.calm=true):CallR X (.builtin "sum") (fun xs H Q=>∃(p:Addr) (ns:List Int),xs=[.ref p]/\SqL X.K H p (ns.map V.int)/\Q (.int ns.sum) H):=by
 intro pins s σ H xs us Q I r h;obtain⟨p,ns,rfl,hx,q⟩:=h;obtain⟨u,rfl,rx⟩:=vals1 r;cases rx;obtain⟨its,r',pl,hz⟩:=I.list hx;have hi:IntsAre its ns:=intsAre_of r';obtain⟨ys,hy⟩:=hi.allInts.items;have hn:numsOf its.toArray.toList=ns:=by rw[show its.toArray.toList=its from rfl,hi.numsOf]
 have hl:=pl.isList;rw[hy]at hl hn;rw[nums_intItems]at hn;refine j0l (I.ok.hd hc) hl fun h' tk t' hk=>?_
 rw[preSum_eq,List.take_of_length_le (by simp),hn];exact⟨.int ns.sum,H,I.kept hk,⟨_,rfl⟩,q⟩
end
end L2
namespace Att
open PySem PySem.W PySem.Calls PyProof.Rows
theorem YO:∀(ns:List Int) (x:Int),x∈ns->Builtin.Int.intBits x<=WData.weightAll (ns.map WData.int)
 | [],_,h=>by cases h
 | n::r,x,h=>by
  show _<=WData.weight (.int n)+1+WData.weightAll (r.map WData.int);rcases mem_cons.mp h with e | h
  ·subst e;have e:Builtin.Int.intBits x=WData.weight (.int x):=by
    unfold Builtin.Int.intBits WData.weight;rfl
   omega
  ·have:=YO r x h;omega
theorem KR{l:OpenLaw}{n:Nat}{q:Program}{loose:List Str}{XP:(Str->Option Value)->Heap->Prop}{YP:World->Heap->Prop}{d:DefRec}
  (hn:l.most=some n) (hdf:d.params.defaults=[])
  (call:∀(w:World) (s₀ s₁:Shared) (mg mb:Str->Option Value) (fa:Addr) (o:Obj) (pm cd doc:Value) (a:Addr) (vs:List Value) (ns:List Int),
   Ground q loose [] XP w s₀ mg mb s₁.heap->YP w s₁.heap->
   s₁.heap.get? fa=some o->o.data = .func (docDef d.name d.params d.body d.scope pm cd doc)->s₁.heap.CodeRec cd d.name->mg d.name=some (.ref fa)->
   s₁.heap.get? a=some {cls:=.type "list",data:=.seq vs.toArray}->IntsAre vs ns->ns.length<=n->(∀x∈ns,Builtin.Int.intBits x<=1048576)->s₁.gens = #[]->
   codeAny (model l.prog w) callerA (.call (.ref fa) ⟨[.ref a],[]⟩) (fun r s'=>r = .ok (.ret (.bool true))/\OldK s₁.heap s'.heap/\s'.os=s₁.os/\AllBare s'.gens) s₁) :
  WalkO q loose XP YP l.row.toRowW d [] (fun f vs=>PySem.call f vs):=by
 intro w s₀ s₁ mg mb G Y fa o pm cd doc dV kV ho hd hcd hD hmg hg args vals as hpre hlay hrd hwl hlo;obtain rfl:dV = .none:=Dflts.none hD hdf;obtain rfl:kV = .none:=Dflts.noKw hD;obtain⟨a,vs,ns,rfl,rfl,hobj,hints,hlen⟩:=j0i hn hpre hwl;have hbits:∀x∈ns,Builtin.Int.intBits x<=1048576:=by
  have hw:(WData.list (ns.map WData.int)).weight<=2^20:=(layableW_iff.mp (layW_cons hlay).1).2.2;intro x hx;exact Nat.le_trans (YO ns x hx) hw
 refine enter_call (codeAny_mono (call w s₀ s₁ mg mb fa o pm cd doc a vs ns G Y ho (fd_plain hd) hcd hmg hobj hints hlen hbits hg) fun r s' hq=>?_);obtain⟨rfl,h2,h3,h4⟩:=hq;exact⟨.inl ⟨.bool true,.bool true,[],rfl,fun _=>rfl,.bool true,j0d l _,fun _=>⟨List.Pairwise.nil,fun _ hm=>(nomatch hm)⟩⟩,h2,h3,h4⟩
end Att
namespace L2
open PySem PySem.Spec PyProof.Rows
theorem j1N{l:PySem.W.OpenLaw}{n k:Nat}{q:Program}{loose:List Str}{XP:(Str->Option Value)->Heap->Prop}{YP:World->Heap->Prop}{d:DefRec}{K:Params->Frg}{CX:CXT}{sp:Frg->Sp}{x:Str}
  (hn:l.most=some n) (hn2:n<=sizeLine) (hdf:d.params.defaults=[]) (hr:Room k callerA)
  (hY:∀(w:World) (h:Heap),YP w h->(K w.params).In h)
  (F:∀(w:World) (mg:Str->Option Value) (fa:Addr) (h:Heap),(K w.params).In h->h.Ns mainGlobals mg->mg d.name=some (.ref fa)->
   ∃fd:FuncData,(∀(s:Shared) (u:Value),BindsTo s fd ⟨[u],[]⟩ [(x,u)])/\
    ∀base:Heap,(K w.params).In base->base.Ns mainGlobals mg->FnOk l.prog w (K w.params) mg base CX k fa fd [x] (sp (K w.params)))
  (hsp:∀(K:Frg) (H:Hp) (a:Addr) (ns:List Int),ns.length<=n->(∀x∈ns,Builtin.Int.intBits x<=1048576)->Only H->SqL K H a (ns.map V.int)->sp K [.ref a] H (fun v _=>v = .bl true) fun _ _ _=>False)
  (hCX:∀(H:Hp) (s:Shared) (e:Value) (s':Shared),CX [] H s (fun _ _ _=>False) e s'->False) :
  PySem.W.WalkO q loose XP YP l.row.toRowW d [] (fun f vs=>PySem.call f vs):=by
 refine Att.KR hn hdf fun w s₀ s₁ mg mb fa o pm cd doc a vs ns G Y ho hd hcd hmg hobj hints hlen hbits hg=>?_
 have KX:=hY w _ Y;obtain⟨fd,hb,hF⟩:=F w mg fa _ KX G.T.g hmg;exact j0Q KX G.T.g G.T.b G.T.builtins G.T.nolimit hg hobj hints (Nat.le_trans hlen hn2) hr hF hb (fun H hO hS=>hsp _ H a ns hlen hbits hO hS) fun H e s'=>hCX H s₁ e s'
structure FunD(K:Frg)(x qual:Str)(st:Stmt)(T:Addr)(f:Addr)(fd:FuncData):Prop where
 ex:∃(oc:Value) (od:Option Addr) (kV doc pm:Value) (an:Option Addr) (cdv ct:Value) (osl:Array (Option Value)),
  fd=PySem.W.fnOf x qual (defArgs st) (defBody st) (defScope st) (.ref T) kV doc pm an cdv ct/\K.lookup f=some ⟨oc,od,.func fd,osl⟩/\PySem.W.codeIn K cdv qual=true
 kp:PySem.W.keepIn K (.ref f)=true
section
variable{P:Program}{w:World}{K:Frg}{mg:Str->Option Value}{base:Heap}
theorem FunD.ok{x qual:Str}{st:Stmt}{T f:Addr}{fd:FuncData}{N ps:List Str}{k:Nat}{sp:Sp}(F:FunD K x qual st T f fd)(S:FnScope N ps (defScope st))(len:∀vs H Q E,sp vs H Q E->vs.length=ps.length)
  (hbody:∀(cdv:Value) (A:Around) (outer:List Env) (s:Shared) (H:Hp) (vs:List V) (Q:VK) (E:XK),Room k (A.deeper (envOfC qual (defScope st) s.heap.objs.size f cdv))->sp vs H Q E->
   ∃t,PSs (cxOf CX0 P w K mg base N qual (defScope st) f cdv A outer s H E).nox (defBody st) t/\t {nx:=fun _ H'=>Q .non H',rt:=Q} (start N vs) H):FnOk P w K mg base CX0 (k+1) f fd ps sp:=by
 obtain⟨oc,od,kV,doc,pm,an,cdv,ct,osl,rfl,lk,hcd⟩:=F.ex;refine j2A lk hcd S len fun A outer s H vs Q E hr hsp=>?_
 obtain⟨t,h,q⟩:=hbody cdv A outer s H vs Q E hr hsp;exact⟨t,h.nox,q⟩
theorem FunD.binds{x qual:Str}{st:Stmt}{T f:Addr}{fd:FuncData}{ps:List Str}{ds:List Value}{o:Obj}{items:Array Value}{n:Nat}(m:Nat)(F:FunD K x qual st T f fd)(ht:K.lookup T=some o)(hs:o.data = .seq items n)(hm:m+ds.length=ps.length)
  (h:∀(kV doc pm:Value) (an:Option Addr) (cdv ct:Value) (us:List Value),us.length=m->∃k,bindArgs (PySem.W.fnOf x qual (defArgs st) (defBody st) (defScope st) (.ref T) kV doc pm an cdv ct) ⟨us,[]⟩=seqItems? (.ref T) >>= k/\k (some items)=pure (ps.zip (us++ds))):Binds K fd ps ds:=by
 obtain⟨oc,od,kV,doc,pm,an,cdv,ct,osl,rfl,lk,hcd⟩:=F.ex;intro s us KX hl;obtain⟨k,h1,h2⟩:=h kV doc pm an cdv ct us (by rw[List.length_append]at hl;omega);exact BindsTo.of_defaults rfl (KX _ _ ht) hs h1 h2
theorem j24{x qual:Str}{st:Stmt}{T f:Addr}{oc:Value}{od an:Option Addr}{osl:Array (Option Value)}{kV doc pm cdv ct:Value}(l:K.lookup f=some ⟨oc,od,.func (PySem.W.fnOf x qual (defArgs st) (defBody st) (defScope st) (.ref T) kV doc pm an cdv ct),osl⟩)
  (c:PySem.W.codeIn K cdv qual=true) (k:PySem.W.keepIn K (.ref f)=true):FunD K x qual st T f (PySem.W.fnOf x qual (defArgs st) (defBody st) (defScope st) (.ref T) kV doc pm an cdv ct):=⟨⟨oc,od,kV,doc,pm,an,cdv,ct,osl,rfl,l,c⟩,k⟩
end
theorem SP.nx{X:Cx}{pins:List (Addr×Obj)}{D:Ends}{R:St->Hp->Prop}(hR:∀σ' H',R σ' H'->D.nx σ' H'){f:Flow}{s:Shared}(h:SP X pins {D with nx:=R} f s):SP X pins D f s:=by
 cases f with
 | next=>obtain⟨σ',H',I,q⟩:=h;exact⟨σ',H',I,hR _ _ q⟩
 | brk=>exact h
 | cont=>exact h
 | ret u=>exact h
def tIfJ(c:TT)(t u:TS):TS:=fun D σ H=>∃R:St->Hp->Prop,(∀σ' H',R σ' H'->D.nx σ' H')/\tIfS c t u {D with nx:=R} σ H
theorem qF{X:Cx}{pos:Pos}{t u:TS}{c:Expr}{a b:List Stmt}{tc:TT}(hc:PT X c tc)(ha:PSs X a t)(hb:PSs X b u):PS X (.If c a b pos) (tIfJ tc t u):=by
 intro pins s σ H D I h;obtain⟨R,hR,h⟩:=h;exact thn (jT hc ha hb pins s σ H _ I h) fun f s' q=>q.nx hR
open PySem
theorem Ju:bootBuiltins "len"= some (.builtin "len"):=by decide +kernel
theorem W4:bootBuiltins "max"= some (.builtin "max"):=by decide +kernel
theorem W5:bootBuiltins "min"= some (.builtin "min"):=by decide +kernel
theorem W6:bootBuiltins "sum"= some (.builtin "sum"):=by decide +kernel
theorem Z4:bootBuiltins "isinstance"= some (.builtin "isinstance"):=by decide +kernel
theorem W3:bootBuiltins "abs"= some (.builtin "abs"):=by decide +kernel
theorem XU:bootBuiltins "sorted"= some (.builtin "sorted"):=by decide +kernel
theorem j2J:bootBuiltins "int"= some (.type "int"):=by decide +kernel
theorem j1X:bootBuiltins "bool"= some (.type "bool"):=by decide +kernel
theorem Xe:bootBuiltins "list"= some (.type "list"):=by decide +kernel
theorem yB:bootBuiltins "tuple"= some (.type "tuple"):=by decide +kernel
theorem j1Y:bootBuiltins "dict"= some (.type "dict"):=by decide +kernel
theorem KS:bootBuiltins "enumerate"= some (.type "enumerate"):=by decide +kernel
theorem j2K:bootBuiltins "zip"= some (.type "zip"):=by decide +kernel
theorem w6:bootBuiltins "reversed"= some (.type "reversed"):=by decide +kernel
theorem j0O(K:Frg)(t:Value)(h:(t==t)=true):PySem.W.kitOne K t t=some true:=by unfold PySem.W.kitOne;rw[if_pos h]
theorem X9(K:Frg){a b:String}{v:Bool}(h0:(Value.type a==Value.type b)=false)(h1:PySem.W.kitMeta b=true)(h2:PySem.W.subIn [] (.type a) (.type b)=some v):PySem.W.kitOne K (.type a) (.type b)=some v:=by
 unfold PySem.W.kitOne;rw[if_neg (by rw[h0];exact Bool.false_ne_true)];show(if PySem.W.kitMeta b=true then _ else _)=_;rw[if_pos h1];exact h2
theorem X5{K:Frg}:PySem.W.kitOne K (.type "int") (.type "int")=some true:=j0O K _ (by decide +kernel)
theorem xl{K:Frg}:PySem.W.kitOne K (.type "int") (.type "bool")=some false:=X9 K (by decide +kernel) (by decide +kernel) (by decide +kernel)
section
variable{X:Cx}{tg:Expr}
theorem j1z:SlR X (fun x lo hi H Q=>∃z,x = .str z/\z.length<=sizeLine/\Q (.str (Txt.slice z lo hi)) H):=by
 intro pins s σ H x v vl vu lo hi sl Q I rx hs pl pu h;obtain⟨z,rfl,hz,q⟩:=h;obtain⟨t,rfl⟩:=rx;refine⟨"str",_,F.slot_str_getitem.lookup,typeIs_str _ _ _,?_⟩;have fin:∀(lo hi:Option Int),Q (.str (Txt.slice z lo hi)) H->∀t' k,EP X pins σ Q (.str (Txt.slice z lo hi) t') {s with toks:=k}:=fun lo hi q t' k=>⟨.str _,H,I.tok _,⟨_,rfl⟩,q⟩
 cases pl with
 | none=>
  cases pu with
  | none=>exact wpAny_getItem_str_slice (l:=none) (u:=none) (st:=none) hs rfl (post_val_or_str ⟨Nat.le_trans (Txt.slice_le z _ _) hz,fin _ _ q⟩)
  | int j uj=>exact wpAny_getItem_str_slice (l:=none) (u:=some (j,uj)) (st:=none) hs rfl (post_val_or_str ⟨Nat.le_trans (Txt.slice_le z _ _) hz,fin _ _ q⟩)
 | int i ui=>
  cases pu with
  | none=>exact wpAny_getItem_str_slice (l:=some (i,ui)) (u:=none) (st:=none) hs rfl (post_val_or_str ⟨Nat.le_trans (Txt.slice_le z _ _) hz,fin _ _ q⟩)
  | int j uj=>exact wpAny_getItem_str_slice (l:=some (i,ui)) (u:=some (j,uj)) (st:=none) hs rfl (post_val_or_str ⟨Nat.le_trans (Txt.slice_le z _ _) hz,fin _ _ q⟩)
theorem rd_str{z:Str}{R:Str->Prop}(h:R z):∃z',V.str z = .str z'/\R z':=⟨z,rfl,h⟩
end
section
variable{X:Cx}{K:Frg}
theorem yI(e:X.K=K):IxR X (rIxL K):=by subst e;exact jq
theorem j28(e:X.K=K):IxR X (rIxT K):=by subst e;exact jw
theorem XV(e:X.K=K):CallR X (.builtin "len") (fun xs H Q=>∃x n,xs=[x]/\LenV K x H n/\Q (.int n) H):=by subst e;exact jW
theorem yf(e:X.K=K):OpR X (compareOp .In) (rIn K false):=by subst e;exact j0c
end
mutual
inductive DV(H:Hp):V->PyData->Prop
 | non:DV H .non .none
 | bl (b:Bool):DV H (.bl b) (.bool b)
 | int (i:Int):DV H (.int i) (.int i)
 | str (x:Str):DV H (.str x) (.str x)
 | lst {a:Addr} {xs:List V} {ds:List PyData}:H a=some (.lst xs)->DVs H xs ds->DV H (.ref a) (.list ds)
 | tup {a:Addr} {xs:List V} {ds:List PyData}:H a=some (.tup xs)->DVs H xs ds->DV H (.ref a) (.tuple ds)
inductive DVs(H:Hp):List V->List PyData->Prop
 | nil:DVs H [] []
 | cons {x:V} {d:PyData} {xs:List V} {ds:List PyData}:DV H x d->DVs H xs ds->DVs H (x::xs) (d::ds)
end
section
variable{X:Cx}
mutual
theorem zi{pins:List (Addr×Obj)}{s:Shared}{σ:St}{H:Hp}(I:Inv X pins σ H s):∀{v:V} {d:PyData} {u:Value},DV H v d->RelV v u->∃as,Reads s.heap u d as
 | _,_,_,.non,r=>⟨_,by cases r;exact Reads.none⟩
 | _,_,_,.bl b,r=>⟨_,by cases r;exact Reads.bool b⟩
 | _,_,_,.int i,r=>by obtain⟨t,rfl⟩:=r;exact⟨_,Reads.int i t⟩
 | _,_,_,.str x,r=>by obtain⟨t,rfl⟩:=r;exact⟨_,Reads.str x t⟩
 | _,_,_,.lst e q,r=>by
  cases r;obtain⟨_,its,c,rv,he⟩:=I.hok _ _ e;obtain⟨as,ra⟩:=Yo I q rv;exact⟨_,reads_list_at he rfl rfl (by simpa using ra)⟩
 | _,_,_,.tup e q,r=>by
  cases r;obtain⟨its,rv,pl,_⟩:=I.tuple (SqT.of e);obtain⟨o,ho,hc,n,hd⟩:=pl;obtain⟨as,ra⟩:=Yo I q rv;exact⟨_,reads_tuple_at ho hc hd (by simpa using ra)⟩
theorem Yo{pins:List (Addr×Obj)}{s:Shared}{σ:St}{H:Hp}(I:Inv X pins σ H s):∀{vs:List V} {ds:List PyData} {us:List Value},DVs H vs ds->Vals vs us->∃as,ReadsAll s.heap us ds as
 | _,_,_,.nil,r=>by cases r;exact⟨_,ReadsAll.nil⟩
 | _,_,_,.cons a q,r=>by
  cases r with
  | cons r1 r2=>
   obtain⟨as,ra⟩:=zi I a r1;obtain⟨bs,rb⟩:=Yo I q r2;exact⟨_,ReadsAll.cons ra rb⟩
end
theorem wz(hu:X.A.units+64<cLine):OpR X (compareOp .Eq) (fun x y H Q=>∃d e,DV H x d/\DV H y e/\SeqAt.shaped d=true/\SeqAt.shaped e=true/\Q (.bl (PyData.eqv d e)) H):=by
 intro pins s σ H x y v u Q I rx ry h;obtain⟨d,e,hd,he,sd,se,q⟩:=h;obtain⟨as,ra⟩:=zi I hd rx;obtain⟨bs,rb⟩:=zi I he ry;exact eq_dataH ra rb sd se hu ⟨.bl _,H,I,rfl,q⟩
theorem xD(hu:X.A.units+64<cLine):OpR X (compareOp .NotEq) (fun x y H Q=>∃d e,DV H x d/\DV H y e/\SeqAt.shaped d=true/\SeqAt.shaped e=true/\Q (.bl (!PyData.eqv d e)) H):=by
 intro pins s σ H x y v u Q I rx ry h;obtain⟨d,e,hd,he,sd,se,q⟩:=h;obtain⟨as,ra⟩:=zi I hd rx;obtain⟨bs,rb⟩:=zi I he ry;exact ne_dataH ra rb sd se hu ⟨.bl _,H,I,rfl,q⟩
theorem Kw(hc:X.calm=true):CallR X (.builtin "max") (fun xs H Q=>∃(p:Addr) (ns:List Int),xs=[.ref p]/\SqL X.K H p (ns.map V.int)/\0<ns.length/\∀m∈ns,(∀a∈ns,a<=m)->Q (.int m) H):=by
 intro pins s σ H xs us Q I r h;obtain⟨p,ns,rfl,hx,hne,q⟩:=h;obtain⟨u,rfl,rx⟩:=vals1 r;cases rx;obtain⟨its,r',pl,_⟩:=I.list hx;have hi:=intsAre_of r';have hl:=pl.isList;obtain⟨xs,e⟩:=hi.allInts.items;have hns:ns=xs.toList.map (·.1):=by rw[<-hi.numsOf,<-nums_intItems,<-e]
 have hsz:0<xs.size:=by
  have h3:=hne;rw[hns,length_map,Array.length_toList]at h3;exact h3
 rw[e]at hl;refine max_intList (I.ok.hd hc) hl hsz fun v h' tk hv hk=>?_
 obtain⟨t,rfl⟩:=intItems_at hv;obtain⟨h1,h2⟩:=argBest_gt (numAt xs) (xs.size-1);refine⟨.int _,H,I.kept (t':=tk) hk,⟨_,rfl⟩,q _ ?_ fun a ha=>?_⟩
 ·rw[hns,numAt_eq];exact getD_mem (by rw[length_map,Array.length_toList];omega)
 ·rw[hns]at ha;obtain⟨j,hj,rfl⟩:=mem_getD ha;rw[length_map,Array.length_toList]at hj;rw[<-numAt_eq];exact h2 j (by omega)
end
section
variable{σ:St}{H:Hp}{Q:VK}
theorem rd_dget{td ty:TE}(h:td σ H fun x H1=>ty σ H1 fun y H2=>∃a v,x = .ref a/\DGet H2 a y (some v)/\Q v H2):tDGet td ty σ H Q:=h
end
def TabK(K:Frg)(a:Addr)(D:List (Str×PyProof.Rows.KTD.Dat)):Prop:=PyProof.Rows.KTD.tabLook (PyProof.Rows.KTD.datLooks fun b=>K.lookup b) (fun b=>K.lookup b) a D=true
section
variable{X:Cx}
theorem j2Y:OpR X (compareOp .In) (fun x y H Q=>∃a k D,x = .str k/\y = .ref a/\TabK X.K a D/\Q (.bl (PyProof.Rows.KTD.inKeys k D)) H):=by
 intro pins s σ H x y v u Q I rx ry h;obtain⟨a,k,D,rfl,rfl,T,q⟩:=h;obtain⟨t,rfl⟩:=rx;cases ry;exact PyProof.Rows.KTD.in_text (h₀:=s.heap) ⟨PySem.W.kt_text_in I.kIn T,fun _ _ e=>e⟩ ⟨.bl _,H,I.tok _,rfl,q⟩
end
theorem kj{K:Frg}{a:Addr}{xs:List V}{k:Nat}{ci:List Nat}{g:TG}{tf:TT}{te:TE}{σ:St}{H:Hp}{Z:Addr->List V->Hp->Prop}(Pv:Nat->List V->Hp->Prop)(h0:Pv 0 [] H)(hl:∀i ys H,i<=xs.length->Pv i ys H->SqT K H a xs)
  (hs:∀i x ys H,xs[i]?=some x->Pv i ys H->g x (capS k ci σ) H fun σ2 H2=>tf σ2 H2 fun b H3=>if b=true then te σ2 H3 fun v H4=>ys.length<sizeLine/\Pv (i+1) (ys++[v]) H4 else Pv (i+1) ys H3)
  (hd:∀ys H,Pv xs.length ys H->ys.length<=sizeLine/\∀p,H p=none->Z p ys H) :
  ∃W:Nat->Nat->List V->Hp->Prop,(∃m,W 0 m [] H)/\∀i m ys H,W i m ys H->
   ((Itt K a).stop i H/\ys.length<=sizeLine/\∀p,H p=none->Z p ys H)\/
   ((Itt K a).go i H/\∃N:List V->Hp->Prop,(∀ys' H',N ys' H'->∃m',m'<m/\W (i+1) m' ys' H')/\∀x H',(Itt K a).yld i H x H'->g x (capS k ci σ) H' fun σ2 H2=>tf σ2 H2 fun b H3=>
    if b=true then te σ2 H3 fun v H4=>ys.length<sizeLine/\N (ys++[v]) H4 else N ys H3):=by
 refine⟨fun i m ys H=>m=xs.length-i/\i<=xs.length/\Pv i ys H,⟨xs.length,by simp,Nat.zero_le _,h0⟩,?_⟩;rintro i m ys H ⟨rfl,hi,p⟩;have q:=hl i ys H hi p;by_cases hlt:i<xs.length
 ·refine .inr ⟨⟨xs,xs[i],q,by simp[hlt]⟩,Pv (i+1),fun ys' H' p'=>⟨xs.length-(i+1),by omega,rfl,hlt,p'⟩,fun x H' y=>?_⟩;obtain⟨e,y⟩:=y;subst e;exact hs i x ys _ (y xs q) p
 ·have e:i=xs.length:=by omega
  subst e;exact .inl ⟨⟨xs,q,Nat.le_refl _⟩,hd ys H p⟩
theorem rd_iTup{K:Frg}{te:TE}{σ:St}{H:Hp}{R:It->Hp->Prop}(h:te σ H fun x H1=>∃a,x = .ref a/\(∃xs,SqT K H1 a xs)/\R (Itt K a) H1):iTup K te σ H R:=h
theorem Qz{K:Frg}{i j:Nat}{a:Addr}{x y:V}{σ:St}{H:Hp}{R:St->Hp->Prop}(e:SqT K H a [x,y])(h:gName i x σ H fun σ' H'=>gName j y σ' H' R):gTup K 2 (gCons (gName i) (gCons (gName j) gNil)) (.ref a) σ H R:=
 ⟨a,[x,y],rfl,e,rfl,x,[y],rfl,y,[],rfl,rfl,h⟩
theorem rd_sub{to ti:TE}{t:TSet}{v:V}{σ:St}{H:Hp}{R:St->Hp->Prop}(h:to σ H fun o H1=>ti σ H1 fun i H2=>t o i v H2 fun H3=>R σ H3):gSub to ti t v σ H R:=h
theorem rd_dnew{σ:St}{H:Hp}{Q:VK}(h:∀p,H p=none->Q (.ref p) (upd H p (.dK []))):tDNewK σ H Q:=h
theorem rd_dput{td ty tv:TE}{σ:St}{H:Hp}{D:Ends}(h:tv σ H fun v H1=>td σ H1 fun x H2=>ty σ H2 fun y H3=>∃a H4,x = .ref a/\DPut H3 a y v H4/\D.nx σ H4):sDPut td ty tv D σ H:=h
theorem rd_bm0{K:Frg}{T:String}{r:V->List V->Hp->VK->Prop}{to:TE}{σ:St}{H:Hp}{Q:VK}(h:to σ H fun x H1=>tyV K T x H1/\r x [] H1 Q):tBM0 K T r to σ H Q:=h
section
variable{X:Cx}{pins:List (Addr×Obj)}{σ:St}{H:Hp}{s:Shared}{h':Heap}
theorem Inv.turnedL{t':Nat}{ch:List Addr}(I:Inv X pins σ H s)(hf:∀b∈ch,FpOk X pins H b)(k:∀b o,b∉ch->s.heap.get? b=some o->h'.get? b=some o):Inv X pins σ H {s with heap:=h',toks:=t'}:=by
 have nit:∀b u,H b=some u->b∉ch:=fun b u e z=>by rw[(hf b z).1]at e;cases e
 refine I.step (g':=s.gens) (d':=s.drawn) (ch:=ch) (fun b hb=>?_) (fun b o _ _ hc e _=>k b o hc e) (fun b o _ _ hc e _=>⟨o.slots,k b o hc e⟩) (fun _ _ _ _ n=>n)
  (fun b o hc e=>⟨o,k b o hc e⟩) (fun _ _ e=>e) (fun _ _ _ e=>e) (fun b ps e=>⟨#[],by rw[e];simp⟩) (fun m hm=>?_) (fun b u e=>?_) I.bare
 ·obtain⟨_,f1,_,f3,f4,f5⟩:=hf b hb;exact⟨f3,f1,f4,f5⟩
 ·obtain⟨o,es,ep,ho,r⟩:=hm;exact⟨o,es,ep,k _ o (fun z=>(hf _ z).2.1 rfl) ho,r⟩
 ·refine(I.hok b u e).stay (fun c v hc q=>k c v ?_ q) (fun _ q=>q) fun _ _ q=>q
  rcases hc with z | z
  ·rw[z];exact nit b u e
  ·exact nit c _ z
theorem Inv.pair{t':Nat}{ch:List Addr}{x y:V}{u v:Value}(I:Inv X pins σ H s)(hf:∀b∈ch,FpOk X pins H b)(hl:∀b∈ch,b<s.heap.objs.size)(rx:RelV x u)(ry:RelV y v)
  (hT:h'.get? s.heap.objs.size=some {cls:=.type "tuple",data:=.seq #[u,v]}) (k:∀b o,b∉ch->s.heap.get? b=some o->h'.get? b=some o) :
  Inv X pins σ (upd H s.heap.objs.size (.tup [x,y])) {s with heap:=h',toks:=t'}/\∀b∈ch,FpOk X pins (upd H s.heap.objs.size (.tup [x,y])) b:=by
 have f:∀b∈ch,FpOk X pins (upd H s.heap.objs.size (.tup [x,y])) b:=fun b hb=>⟨(jg (Nat.ne_of_lt (hl b hb))).trans (hf b hb).1,(hf b hb).2⟩
 have I1:Inv X pins σ (upd H s.heap.objs.size (.tup [x,y])) {s with heap:=s.heap.push {cls:=.type "tuple",data:=.seq #[u,v]},toks:=t'}:=
  I.laid (t':=t') (fun b o e=>Heap.get?_push_of_some _ e) (Nat.le_refl _) (show ObjOk X.prog X.w _ _ _ (.tup [x,y])from⟨(by show 2<=sizeLine;decide),[u,v],.cons rx (.cons ry .nil),IsTup.new _ _⟩)
 refine⟨I1.turnedL (h':=h') (t':=t') f fun b o hb e=>?_,f⟩;rcases Heap.get?_push_cases e with⟨rfl,rfl⟩ | e
 ·exact hT
 ·exact k b o hb e
end
def Ite(K:Frg)(a:Addr):It:=
 ⟨fun i H=>∃xs x,SqL K H a xs/\xs[i]?=some x,fun i H x H'=>∃T v,x = .ref T/\H T=none/\H'=upd H T (.tup [.int i,v])/\∀xs,SqL K H a xs->xs[i]?=some v,fun i H=>∃xs,SqL K H a xs/\xs.length<=i⟩
theorem j0m{P:Program}{w:World}{K:Frg}{elts:List Expr}{k:Nat}{pos:Pos}(a e it:Addr)(hne:e≠it) :
  Turn P w K (.Tuple elts k pos) (Ite K a) [e,it] e (fun i h=>(∃old,IsEnum h e it ((i:Nat):Int) old)/\h.IsListIter it a i) where
 mem:=by simp
 obj:=fun i h st b hb=>by
  rcases(by simpa using hb:b=e\/b=it)with rfl | rfl
  ·obtain⟨old,he⟩:=st.1;exact⟨_,he,fun v z=>by cases z⟩
  ·obtain⟨o,e,c,d⟩:=st.2;exact⟨o,e,fun v z=>by rw[d]at z;cases z⟩
 keep:=fun i h h' st k=>⟨let ⟨old,he⟩:=st.1;⟨old,k e (by simp) _ he⟩,st.2.at fun o q=>k it (by simp) o q⟩
 item:=by
  intro X hP hw hK hc i pins s σ H E I hf st hg;subst hP hw hK;obtain⟨xs,x,hq,hx⟩:=hg;obtain⟨its,rv,p,hz⟩:=I.list hq;obtain⟨u,hu,ru⟩:=rv.get hx;obtain⟨⟨old,he⟩,hit⟩:=st;have le:e<s.heap.objs.size:=Heap.lt_size he;have li:it<s.heap.objs.size:=by obtain⟨o,q,_⟩:=id hit;exact Heap.lt_size q
  refine wpAny_pyNext_enum_item he hit p.isList (x:=u) (by simpa using hu) hne fun h' ho hit' hT hsz hk=>?_
  obtain⟨I1,f1⟩:=I.pair (t':=s.toks+1) (ch:=[e,it]) (x:=.int i) (y:=x) hf (fun b hb=>by rcases(by simpa using hb:b=e\/b=it)with rfl | rfl<;>assumption) ⟨s.toks,rfl⟩ ru hT
   (fun b o hb q=>hk b o (fun z=>hb (by simp[z])) (fun z=>hb (by simp[z])) q)
  refine⟨_,rfl,wpAny_letOwnedTupleGo_enum ho fun h2 he2 sb=>?_⟩;have I2:=I1.turnedL (h':=h2) (t':=s.toks+1) (ch:=[e,it]) f1 fun b o hb q=>(sb.2 b fun z=>hb (by simp[z])).trans q
  exact⟨.ref s.heap.objs.size,_,I2,rfl,⟨_,x,rfl,I.hok.fresh (Nat.le_refl _),rfl,fun ys hy=>by rw[I.list_inj hy hq];exact hx⟩,
   ⟨⟨u,by simpa using he2⟩,hit'.at fun o q=>(sb.2 it hne.symm).trans q⟩,fun b hb=>(f1 b hb).1⟩
 done:=by
  intro X hP hw hK hc i pins s σ H E I hf st hg;subst hP hw hK;obtain⟨xs,hq,hx⟩:=hg;obtain⟨its,rv,p,hz⟩:=I.list hq;obtain⟨⟨old,he⟩,hit⟩:=st;have hl:=rv.length;exact wpAny_pyNext_enum_end (I.ok.hd hc) he hit p.isList (by simp;omega) fun h' eb=>⟨rfl,I.turnedL (t':=s.toks) (ch:=[e,it]) hf fun b o hb q=>eb b o (fun z=>hb (by simp[z])) q⟩
 self:=fun _ _ _ _ _ st h=>let ⟨_,he⟩:=st.1;wpAny_pyIter_enum he h
def iEnum(K:Frg)(ta:TA):TI:=fun σ H R=>ta σ H fun vs H1=>∃a xs,vs=[.ref a]/\SqL K H1 a xs/\R (Ite K a) H1
theorem wD{X:Cx}{a:Expr}{ta:TA}{elts:List Expr}{k:Nat}{p pos pos':Pos}(hg:Gl X "enumerate")(hm:X.mg "enumerate"= none)(ha:PA X [a] ta)(hs:starEach [a] X.env=[(false,eval a X.env)]:=by rfl) :
  PI X (.Tuple elts k pos') (.Call (.Name "enumerate" p) [a] [] pos) (iEnum X.K ta):=by
 intro pins s σ H R I h;refine Call_ (Z9 I hg hm KS (PyProof.Rows.callWith_type1 (thn (ha pos pins s σ H _ I h) fun us s1 ⟨vs,H1,I1,r1,q1⟩=>?_) hs rfl));obtain⟨b,xs,rfl,hq,q⟩:=q1;obtain⟨u,rfl,ru⟩:=vals1 r1;cases ru;obtain⟨its,rv,p,hz⟩:=I1.list hq;refine call_enumerate_list p.isList fun h' he hit hsz hk=>?_
 refine wpAny_pyIter_enum he ?_;refine⟨s1.heap.objs.size+1,[s1.heap.objs.size+1,s1.heap.objs.size],_,_,H1,rfl,I1.kept (t':=s1.toks) hk,j0m b _ _ (Nat.succ_ne_self _),⟨⟨_,by simpa using he⟩,hit⟩,fun c hc=>?_,q⟩;rcases(by simpa using hc:c=s1.heap.objs.size+1\/c=s1.heap.objs.size)with rfl | rfl
 ·exact I1.fpOk (Nat.le_succ _) (I1.hok.fresh (Nat.le_succ _))
 ·exact I1.fpOk (Nat.le_refl _) (I1.hok.fresh (Nat.le_refl _))
theorem kq{K:Frg}{a:Addr}{xs:List V}{g:TG}{tb:TS}{D:Ends}{σ:St}{H:Hp}(Pv:Nat->St->Hp->Prop)(h0:Pv 0 σ H)(hl:∀i σ H,i<=xs.length->Pv i σ H->SqL K H a xs)
  (hs:∀i v σ H T H',xs[i]?=some v->Pv i σ H->Same H H'->H' T=some (.tup [.int i,v])->g (.ref T) σ H' fun σ2 H2=>tb {D with nx:=Pv (i+1),ct:=Pv (i+1),bk:=D.nx} σ2 H2) (hd:∀σ H,Pv xs.length σ H->D.nx σ H) :
  ∃W:Nat->Nat->St->Hp->Prop,(∃m,W 0 m σ H)/\∀i m σ H,W i m σ H->
   ((Ite K a).stop i H/\D.nx σ H)\/((Ite K a).go i H/\∃N:St->Hp->Prop,(∀σ' H',N σ' H'->∃m',m'<m/\W (i+1) m' σ' H')/\∀x H',(Ite K a).yld i H x H'->g x σ H' fun σ2 H2=>tb {D with nx:=N,ct:=N,bk:=D.nx} σ2 H2):=by
 refine⟨fun i m σ H=>m=xs.length-i/\i<=xs.length/\Pv i σ H,⟨xs.length,by simp,Nat.zero_le _,h0⟩,?_⟩;rintro i m σ H ⟨rfl,hi,p⟩;have q:=hl i σ H hi p;by_cases hlt:i<xs.length
 ·refine .inr ⟨⟨xs,xs[i],q,by simp[hlt]⟩,Pv (i+1),fun σ' H' p'=>⟨xs.length-(i+1),by omega,rfl,hlt,p'⟩,fun x H' y=>?_⟩;obtain⟨T,v,rfl,hT,e,y⟩:=y;exact hs i v σ H T H' (y xs q) p (fun b o h=>by rw[e,jg (je h hT)];exact h) (by rw[e];exact jx)
 ·have e:i=xs.length:=by omega
  subst e;exact .inl ⟨⟨xs,q,Nat.le_refl _⟩,hd σ H p⟩
theorem rd_iEnum{K:Frg}{ta:TA}{σ:St}{H:Hp}{R:It->Hp->Prop}(h:ta σ H fun vs H1=>∃a xs,vs=[.ref a]/\SqL K H1 a xs/\R (Ite K a) H1):iEnum K ta σ H R:=h
def Itz(K:Frg)(a b:Addr):It:=
 ⟨fun i H=>∃xs x ys y,SqL K H a xs/\xs[i]?=some x/\SqL K H b ys/\ys[i]?=some y,
  fun i H x H'=>∃T u v,x = .ref T/\H T=none/\H'=upd H T (.tup [u,v])/\(∀xs,SqL K H a xs->xs[i]?=some u)/\∀ys,SqL K H b ys->ys[i]?=some v,
  fun i H=>∃xs ys,SqL K H a xs/\SqL K H b ys/\(xs.length<=i\/ys.length<=i)⟩
theorem qv{h:Heap}{a b:Addr}{o u:Obj}(h1:h.get? a=some o)(h2:h.get? b=some u)(hc:o.cls≠u.cls):a≠b:=fun e=>by
 subst e;rw[h1]at h2;cases h2;exact hc rfl
theorem j1I{P:Program}{w:World}{K:Frg}{elts:List Expr}{k:Nat}{pos:Pos}(l1 l2 z TI TO i1 i2:Addr)
  (D:∀l1 l2,l1≠z->l1≠TO->l1≠i1->l1≠i2->l2≠z->l2≠TO->l2≠i1->l2≠i2->ZipApart z TI TO i1 i2 l1 l2) :
  Turn P w K (.Tuple elts k pos) (Itz K l1 l2) [z,TI,TO,i1,i2] z (fun i h=>IsZip h z TI TO .none/\IsPair h TI (.ref i1) (.ref i2)/\(∃a b,IsPair h TO a b)/\h.IsListIter i1 l1 i/\h.IsListIter i2 l2 i) where
 mem:=by simp
 obj:=fun i h st b hb=>by
  obtain⟨hz,hTI,⟨a,c,hTO⟩,h1,h2⟩:=st;rcases(by simpa using hb:b=z\/b=TI\/b=TO\/b=i1\/b=i2)with rfl | rfl | rfl | rfl | rfl
  ·exact⟨_,hz,fun v z=>by cases z⟩
  ·exact⟨_,hTI,fun v z=>by cases z⟩
  ·exact⟨_,hTO,fun v z=>by cases z⟩
  ·obtain⟨o,e,c,d⟩:=h1;exact⟨o,e,fun v z=>by rw[d]at z;cases z⟩
  ·obtain⟨o,e,c,d⟩:=h2;exact⟨o,e,fun v z=>by rw[d]at z;cases z⟩
 keep:=fun i h h' st k=>by
  obtain⟨hz,hTI,⟨a,c,hTO⟩,h1,h2⟩:=st;exact⟨k z (by simp) _ hz,k TI (by simp) _ hTI,⟨a,c,k TO (by simp) _ hTO⟩,h1.at fun o q=>k i1 (by simp) o q,h2.at fun o q=>k i2 (by simp) o q⟩
 item:=by
  intro X hP hw hK hc i pins s σ H E I hf st hg;subst hP hw hK;obtain⟨xs,x,ys,y,hq,hx,hr,hy⟩:=hg;obtain⟨its,rv,p,_⟩:=I.list hq;obtain⟨jts,rw',p',_⟩:=I.list hr;obtain⟨u,hu,ru⟩:=rv.get hx;obtain⟨v,hv,rv'⟩:=rw'.get hy;obtain⟨hz,hTI,⟨a,c,hTO⟩,h1,h2⟩:=st;obtain⟨o1,n1,e1,c1,_⟩:=id p;obtain⟨o2,n2,e2,c2,_⟩:=id p';obtain⟨o3,e3,c3,_⟩:=id h1;obtain⟨o4,e4,c4,_⟩:=id h2;have D':=D l1 l2 (qv e1 hz (by rw[c1];show Value.type "list"≠Value.type "zip";decide)) (qv e1 hTO (by rw[c1];show Value.type "list"≠Value.type "tuple";decide)) (qv e1 e3 (by rw[c1,c3];decide)) (qv e1 e4 (by rw[c1,c4];decide))
   (qv e2 hz (by rw[c2];show Value.type "list"≠Value.type "zip";decide)) (qv e2 hTO (by rw[c2];show Value.type "list"≠Value.type "tuple";decide)) (qv e2 e3 (by rw[c2,c3];decide)) (qv e2 e4 (by rw[c2,c4];decide))
  have lt:∀b∈[z,TI,TO,i1,i2],b<s.heap.objs.size:=fun b hb=>by
   rcases(by simpa using hb:b=z\/b=TI\/b=TO\/b=i1\/b=i2)with rfl | rfl | rfl | rfl | rfl
   ·exact Heap.lt_size hz
   ·exact Heap.lt_size hTI
   ·exact Heap.lt_size hTO
   ·exact Heap.lt_size e3
   ·exact Heap.lt_size e4
  refine wpAny_pyNext_zip_item D' hz hTI hTO h1 h2 p.isList p'.isList (x:=u) (y:=v) (by simpa using hu) (by simpa using hv) fun h' a1 a2 a3 a4 a5 a6 hk=>?_
  obtain⟨I1,f1⟩:=I.pair (t':=s.toks) (ch:=[z,TI,TO,i1,i2]) (x:=x) (y:=y) hf lt ru rv' a5
   (fun b o hb q=>hk b o (fun e=>hb (by simp[e])) (fun e=>hb (by simp[e])) (fun e=>hb (by simp[e])) (fun e=>hb (by simp[e])) q)
  refine⟨_,rfl,wpAny_letOwnedTupleGo_zip a1 fun h3 hz3 sb=>?_⟩;have I2:=I1.turnedL (h':=h3) (t':=s.toks) (ch:=[z,TI,TO,i1,i2]) f1 fun b o hb q=>(sb.2 b fun e=>hb (by simp[e])).trans q
  exact⟨.ref s.heap.objs.size,_,I2,rfl,⟨_,x,y,rfl,I.hok.fresh (Nat.le_refl _),rfl,(fun ys hy=>by rw[I.list_inj hy hq];exact hx),fun ys hy'=>by rw[I.list_inj hy' hr];exact hy⟩,
   ⟨hz3,(sb.2 TI D'.TIz).trans (hk TI _ D'.TIz D'.TITO D'.TIi1 D'.TIi2 hTI),⟨_,_,(sb.2 TO D'.TOz).trans a2⟩,a3.at fun o q=>(sb.2 i1 D'.i1z).trans q,a4.at fun o q=>(sb.2 i2 D'.i2z).trans q⟩,fun b hb=>(f1 b hb).1⟩
 done:=by
  intro X hP hw hK hc i pins s σ H E I hf st hg;subst hP hw hK;obtain⟨xs,ys,hq,hr,hl⟩:=hg;obtain⟨its,rv,p,_⟩:=I.list hq;obtain⟨jts,rw',p',_⟩:=I.list hr;obtain⟨hz,hTI,⟨a,c,hTO⟩,h1,h2⟩:=st;obtain⟨o1,n1,e1,c1,_⟩:=id p;obtain⟨o2,n2,e2,c2,_⟩:=id p';obtain⟨o3,e3,c3,_⟩:=id h1;obtain⟨o4,e4,c4,_⟩:=id h2;have D':=D l1 l2 (qv e1 hz (by rw[c1];show Value.type "list"≠Value.type "zip";decide)) (qv e1 hTO (by rw[c1];show Value.type "list"≠Value.type "tuple";decide)) (qv e1 e3 (by rw[c1,c3];decide)) (qv e1 e4 (by rw[c1,c4];decide))
   (qv e2 hz (by rw[c2];show Value.type "list"≠Value.type "zip";decide)) (qv e2 hTO (by rw[c2];show Value.type "list"≠Value.type "tuple";decide)) (qv e2 e3 (by rw[c2,c3];decide)) (qv e2 e4 (by rw[c2,c4];decide))
  have l1':=rv.length;have l2':=rw'.length;refine wpAny_pyNext_zip_end (I.ok.hd hc) D' hz hTI hTO h1 h2 p.isList p'.isList ?_ fun h' hk=>⟨rfl,I.turnedL (t':=s.toks) (ch:=[z,TI,TO,i1,i2]) hf fun b o hb q=>hk b o (fun e=>hb (by simp[e])) (fun e=>hb (by simp[e])) (fun e=>hb (by simp[e])) (fun e=>hb (by simp[e])) q⟩
  rcases hl with q | q
  ·exact .inl (by simp;omega)
  ·exact .inr (by simp;omega)
 self:=fun _ _ _ _ _ st h=>wpAny_pyIter_zip st.1 h
theorem zE{n i j:Nat}(h:i≠j):n+i≠n+j:=fun e=>h (Nat.add_left_cancel e)
def iZip(K:Frg)(ta:TA):TI:=fun σ H R=>ta σ H fun vs H1=>∃a b xs ys,vs=[.ref a,.ref b]/\SqL K H1 a xs/\SqL K H1 b ys/\R (Itz K a b) H1
theorem xH{X:Cx}{a b:Expr}{ta:TA}{elts:List Expr}{k:Nat}{p pos pos':Pos}(hg:Gl X "zip")(hm:X.mg "zip"= none)(ha:PA X [a,b] ta)(hs:starEach [a,b] X.env=[(false,eval a X.env),(false,eval b X.env)]:=by rfl)(hs2:starEach [b] X.env=[(false,eval b X.env)]:=by rfl) :
  PI X (.Tuple elts k pos') (.Call (.Name "zip" p) [a,b] [] pos) (iZip X.K ta):=by
 intro pins s σ H R I h;refine Call_ (Z9 I hg hm j2K (PyProof.Rows.callWith_type1 (thn (ha pos pins s σ H _ I h) fun us s1 ⟨vs,H1,I1,r1,q1⟩=>?_) (by rw[hs,hs2]) (by rw[hs2];rfl)));obtain⟨l1,l2,xs,ys,rfl,hq,hr,q⟩:=q1;cases r1 with
 | cons r rr=>
  cases rr with
  | cons r' rr=>
   cases rr;cases r;cases r';obtain⟨its,rv,p,hz⟩:=I1.list hq;obtain⟨jts,rw',p',hz'⟩:=I1.list hr;refine call_zip_2 p.isList p'.isList fun h' a1 a2 a3 a4 a5 a6 hk=>?_
   refine wpAny_pyIter_zip a1 ?_;refine⟨s1.heap.objs.size+4,[s1.heap.objs.size+4,s1.heap.objs.size+2,s1.heap.objs.size+3,s1.heap.objs.size,s1.heap.objs.size+1],_,_,H1,rfl,I1.kept (t':=s1.toks) hk,
    j1I l1 l2 _ _ _ _ _ (fun l1 l2 b1 b2 b3 b4 b5 b6 b7 b8=>⟨zE (by decide),zE (by decide),zE (i:=0) (by decide),zE (by decide),zE (by decide),zE (j:=0) (by decide),zE (by decide),zE (j:=0) (by decide),zE (by decide),zE (i:=0) (by decide),b1,b2,b3,b4,b5,b6,b7,b8⟩),⟨a1,a2,⟨_,_,a3⟩,a4,a5⟩,fun c hc=>?_,q⟩
   have hc':s1.heap.objs.size<=c:=by
    rcases(by simpa using hc:c=s1.heap.objs.size+4\/c=s1.heap.objs.size+2\/c=s1.heap.objs.size+3\/c=s1.heap.objs.size\/c=s1.heap.objs.size+1)with rfl | rfl | rfl | rfl | rfl<;>omega
   exact I1.fpOk hc' (I1.hok.fresh hc')
theorem Xm{K:Frg}{a b:Addr}{xs ys:List V}{g:TG}{tb:TS}{D:Ends}{σ:St}{H:Hp}(Pv:Nat->St->Hp->Prop)(hlen:xs.length=ys.length)(h0:Pv 0 σ H)(hl:∀i σ H,i<=xs.length->Pv i σ H->SqL K H a xs/\SqL K H b ys)
  (hs:∀i u v σ H T H',xs[i]?=some u->ys[i]?=some v->Pv i σ H->Same H H'->H' T=some (.tup [u,v])->g (.ref T) σ H' fun σ2 H2=>tb {D with nx:=Pv (i+1),ct:=Pv (i+1),bk:=D.nx} σ2 H2) (hd:∀σ H,Pv xs.length σ H->D.nx σ H) :
  ∃W:Nat->Nat->St->Hp->Prop,(∃m,W 0 m σ H)/\∀i m σ H,W i m σ H->
   ((Itz K a b).stop i H/\D.nx σ H)\/((Itz K a b).go i H/\∃N:St->Hp->Prop,(∀σ' H',N σ' H'->∃m',m'<m/\W (i+1) m' σ' H')/\∀x H',(Itz K a b).yld i H x H'->g x σ H' fun σ2 H2=>tb {D with nx:=N,ct:=N,bk:=D.nx} σ2 H2):=by
 refine⟨fun i m σ H=>m=xs.length-i/\i<=xs.length/\Pv i σ H,⟨xs.length,by simp,Nat.zero_le _,h0⟩,?_⟩;rintro i m σ H ⟨rfl,hi,p⟩;obtain⟨q,q'⟩:=hl i σ H hi p;by_cases hlt:i<xs.length
 ·refine .inr ⟨⟨xs,xs[i],ys,ys[i],q,by simp[hlt],q',by simp⟩,Pv (i+1),fun σ' H' p'=>⟨xs.length-(i+1),by omega,rfl,hlt,p'⟩,fun x H' y=>?_⟩;obtain⟨T,u,v,rfl,hT,e,y,y'⟩:=y;exact hs i u v σ H T H' (y xs q) (y' ys q') p (fun b o h=>by rw[e,jg (je h hT)];exact h) (by rw[e];exact jx)
 ·have e:i=xs.length:=by omega
  subst e;exact .inl ⟨⟨xs,ys,q,q',.inl (Nat.le_refl _)⟩,hd σ H p⟩
theorem rd_iZip{K:Frg}{ta:TA}{σ:St}{H:Hp}{R:It->Hp->Prop}(h:ta σ H fun vs H1=>∃a b xs ys,vs=[.ref a,.ref b]/\SqL K H1 a xs/\SqL K H1 b ys/\R (Itz K a b) H1):iZip K ta σ H R:=h
theorem KA:entryFor table "dict.update.loop"= some Builtin.«dict.update.loop»:=entryFor_of_tree (by kernel_rfl)
theorem Z0:plainId "dict.update.loop"= true:=by decide +kernel
theorem j05:typeLookup (.type "list") "keys"= pure none:=by rw[typeLookup_type,builtinLookup_eq_fast];kernel_rfl
section
variable{prog:Program}{w:World}{A:Around}{E:Value->Shared->Prop}{s:Shared}
theorem noKeys{a:Addr}{o:Obj}{xs:Array Value}{k:Nat}{Q:Option Value->Shared->Prop}(hx:s.heap.get? a=some o)(hc:o.cls = .type "list")(hdat:o.data = .seq xs k)(hd:o.dict=none)(hA:A.handled=none)
  (h:∀h' tk,(∀b o,s.heap.get? b=some o->h'.get? b=some o)->Q none {s with heap:=h',toks:=tk}):wpAny (model prog w) A (getAttr? (.ref a) "keys") Q E s:=by
 obtain⟨c,dct,dat,sl⟩:=o;simp only at hc hdat hd;subst hc hdat hd;obtain⟨hp,g,d,tk,os⟩:=s;have hT:∀tk',(⟨hp,g,d,tk',os⟩:Shared).TypeIs (.ref a) "list":=fun _=>⟨_,hx,rfl⟩
 have f1:=sub_AttributeError;have f3:=F.slot_list_getattribute.lookup;have f4:=F.slot_list_getattribute.bind (.ref a);have f5:=am_list_getattr_none;unfold getAttr? getAttrBy? getAttrBy
 repeat (any_goals (first | assumption | exact hT _ | ((with_reducible show wpAny _ _ (call (Value.builtin "list.__getattribute__") _ _) _ _ _);refine call_meets F.slot_list_getattribute (hT _) am_entry_list_getattribute (F.args_list_getattribute_2 _ _) (meets_getattribute_miss_list a xs k sl "keys" _ j05 (by decide +kernel) (by decide +kernel)) ⟨hx,hA,fun h' tk' e hx'=>?_⟩) | wp_step))
 obtain⟨t',u',he⟩:=hx'.there;show wpAny _ _ (getattributeRaised _ _ _ _ _ _ _) _ _ _;unfold getattributeRaised
 repeat (any_goals (first | assumption | wp_step))
 exact h _ _ hx'.keeps
variable{K:Type}[DecidableEq K]{knd:KeyKind prog w K}
noncomputable def foldS(acc:List (K×Value))(ps:List (K×Value)):List (K×Value):=ps.foldl (fun acc kv=>stored acc kv.1 kv.2) acc
theorem xR(acc:List (K×Value))(k:K)(v:Value):(stored acc k v).length<=acc.length+1:=by
 unfold stored;split
 ·rw[length_map];exact Nat.le_succ _
 ·rw[List.length_append];exact Nat.le_refl _
theorem dul{R:Result->Shared->Prop}{d it l:Addr}{items:List Value}{res:Value}(hh:A.handled=none)(hdi:d≠it)(hdl:d≠l)(hil:it≠l) :
  ∀(ps:List (K×Value)) (i:Nat) (acc:List (K×Value)) (s:Shared),s.heap.IsListIter it l i->s.heap.IsList l items.toArray->(items.length=i+ps.length)->
   (∀j kv,ps[j]?=some kv->∃a key,items[i+j]?=some (.ref a)/\IsTup s.heap a #[key,kv.2]/\knd.is kv.1 key=true/\a≠d/\a≠it)->s.heap.DictOf knd d acc->acc.length+ps.length<=sizeLine->
   (∀h' tk,(∀b o,b≠d->b≠it->s.heap.get? b=some o->h'.get? b=some o)->h'.DictOf knd d (foldS acc ps)->R (.ok (.ret res)) {s with heap:=h',toks:=tk})->
   codeAny (model prog w) A (.builtin "dict.update.loop" ⟨[.ref d,.ref it,rawInt i,res],[]⟩) R s
 | [],i,acc,s,hit,hl,hn,hp,hd,hz,hR=>by
  refine codeAny_builtin KA ?_;rw[Around.under_plainId Z0 _];show wpAny _ A.in1 (pyNext (.ref it) >>= _) _ _ s;refine wpAny_bind (wpAny_pyNext_list_end (A:=A.in1) hh hit hl (by simp;simp at hn;omega) fun h' eb=>?_);show wpAny _ A.in1 (Builtin.Dict.addKeywords d [] >>= _) _ _ _;refine wpAny_bind (wpAny_pure (wpAny_pure (hR h' s.toks (fun b o _ hb e=>eb b o hb e) ?_)));exact hd.extBut eb hdi
 | kv::ps,i,acc,s,hit,hl,hn,hp,hd,hz,hR=>by
  obtain⟨a,key,ha,ht,hk,had,hai⟩:=hp 0 kv rfl;refine codeAny_builtin KA ?_;rw[Around.under_plainId Z0 _];show wpAny _ A.in1 (pyNext (.ref it) >>= _) _ _ s;refine wpAny_bind (wpAny_pyNext_list_item (A:=A.in1) hit hl (x:=.ref a) (by simpa using ha) fun h1 hit1 sb=>?_);obtain⟨ot,eo,oc,n,od⟩:=ht;have eo1:h1.get? a=some ot:=(sb.2 a hai).trans eo;show wpAny _ A.in1 (holding [Value.ref a] _ >>= _) _ _ _;refine wpAny_bind (wpAny_holding ?_);refine wpAny_bind (wpAny_tryCatch ?_);unfold Builtin.Dict.pairItems;refine wpAny_bind (wpAny_typeOf (T:="tuple") ⟨_,eo1,oc⟩ ?_);show wpAny _ A.in1 (if((Value.type "tuple"== Value.type "list")||(Value.type "tuple"== Value.type "tuple"))=true then _ else _) _ _ _;rw[if_pos (by decide)];refine wpAny_bind (wpAny_seqItems eo1 od ?_);refine wpAny_pure ?_;show wpAny _ A.in1 (holding [key,kv.2] (dictSet d key kv.2)) _ _ _;have hd1:h1.DictOf knd d acc:=hd.extBut (fun b o hb e=>(sb.2 b hb).trans e) hdi;refine wpAny_holding (wpAny_dictSet_pairs (s:={s with heap:=h1}) hk hd1 (fun h2 hd2 sb2=>?_) (by simp at hz;omega));show wpAny _ A.in1 (again _) _ _ _;refine wpAny_pure ⟨plainId_quiet Z0 _,?_⟩;have kp:∀b o,b≠d->b≠it->s.heap.get? b=some o->h2.get? b=some o:=fun b o h1' h2' e=>(sb2.2 b h1').trans ((sb.2 b h2').trans e)
  have sl:=xR acc kv.1 kv.2;refine dul hh hdi hdl hil ps (i+1) (stored acc kv.1 kv.2) _ (hit1.at fun o e=>(sb2.2 it hdi.symm).trans e) (hl.at fun o e=>kp l o hdl.symm hil.symm e) (by simp at hn;omega) (fun j kv' hj=>?_) hd2 (by simp at hz;omega) fun h3 tk k3 hd3=>?_
  ·obtain⟨a',key',ha',ht',hk',had',hai'⟩:=hp (j+1) kv' (by simpa using hj);obtain⟨o',e',r'⟩:=ht';exact⟨a',key',by rw[<-ha'];congr 1;omega,⟨o',kp _ _ had' hai' e',r'⟩,hk',had',hai'⟩
  ·exact hR h3 tk (fun b o h1' h2' e=>k3 b o h1' h2' (kp b o h1' h2' e)) hd3
end
open PySem PySem.W PyProof.Rows
section
variable{n:Nat}{key:Nat->Int}{p:Array Nat}
noncomputable def Tw(n:Nat)(key:Nat->Int){α:Type}:KasT α->(α->Prop)->Prop
 | .ret a,Q=>Q a
 | .ask i j k,Q=>i<n/\j<n/\Tw n key (k (decide (key i<key j))) Q
theorem Tw.bind{α β:Type}{f:α->KasT β}{Q:β->Prop}:∀{t:KasT α},Tw n key t (fun a=>Tw n key (f a) Q)->Tw n key (t.bind f) Q
 | .ret _,h=>h
 | .ask _ _ _,h=>⟨h.1,h.2.1,Tw.bind h.2.2⟩
theorem Tw.mono{α:Type}{Q Q':α->Prop}(hq:∀a,Q a->Q' a):∀{t:KasT α},Tw n key t Q->Tw n key t Q'
 | .ret _,h=>hq _ h
 | .ask _ _ _,h=>⟨h.1,h.2.1,Tw.mono hq h.2.2⟩
theorem Tw.run{α:Type}{cmp:Nat->Nat->(Bool->Shared->Prop)->Shared->Prop}{Q:α->Shared->Prop}{s:Shared}(hc:∀i j C,i<n->j<n->C (decide (key i<key j)) s->cmp i j C s) :
  ∀{t:KasT α},Tw n key t (fun a=>Q a s)->t.kasWp cmp Q s
 | .ret _,h=>h
 | .ask i j k,h=>hc i j _ h.1 h.2.1 (Tw.run hc h.2.2)
theorem Tw.asks{α:Type}{i j:Nat}{k:Bool->KasT α}{Q:α->Prop}(hi:i<n)(hj:j<n)(h1:key i<key j->Tw n key (k true) Q)(h2:¬key i<key j->Tw n key (k false) Q):Tw n key (.ask i j k) Q:=by
 refine⟨hi,hj,?_⟩;by_cases c:key i<key j
 ·rw[decide_eq_true c];exact h1 c
 ·rw[decide_eq_false c];exact h2 c
def Pk(n:Nat)(p:Array Nat):Prop:=p.toList.Perm (List.range n)
noncomputable def kv(key:Nat->Int)(p:Array Nat)(i:Nat):Int:=key (p.getD i 0)
def Up(key:Nat->Int)(p:Array Nat)(k:Nat):Prop:=∀i j,i<=j->j<k->kv key p i<=kv key p j
def Dn(key:Nat->Int)(p:Array Nat)(k:Nat):Prop:=∀i j,i<=j->j<k->kv key p j<=kv key p i
def Eqs(key:Nat->Int)(p:Array Nat)(m q:Nat):Prop:=∀k,m-(q+1)<=k->k<m->kv key p k=kv key p (m-1)
theorem Pk.size(h:Pk n p):p.size=n:=by have:=h.length_eq;simpa using this
theorem Pk.lt(h:Pk n p)(h0:0<n)(i:Nat):p.getD i 0<n:=by
 rw[Array.getD_eq_getD_getElem?];cases e:p[i]? with
 | none=>exact h0
 | some x=>exact mem_range.mp (h.mem_iff.mp (Array.mem_toList_iff.mpr (Array.mem_of_getElem? e)))
theorem Pk.of(h:Pk n p){q:Array Nat}(hq:q.Perm p):Pk n q:=(Array.perm_iff_toList_perm.mp hq).trans h
theorem Wo{a b:Array Nat}{i j:Nat}(h:a[i]?=b[j]?):kv key a i=kv key b j:=by
 unfold kv;rw[Array.getD_eq_getD_getElem?,Array.getD_eq_getD_getElem?,h]
theorem xr{i j:Nat}(hj:j<=p.size)(k:Nat):kv key (kas_rev p i j) k=if i<=k/\k<j then kv key p (i+j-1-k)else kv key p k:=by
 have h:=getElem?_mirror_all (xs:=p) (i:=i) hj k;split
 ·rename_i c;rw[if_pos c]at h;exact Wo h
 ·rename_i c;rw[if_neg c]at h;exact Wo h
theorem j2T{src d:Nat}(hs:src<p.size)(hd:d<=src)(k:Nat):kv key (bubble p src d) k=if k=src-d then kv key p src else if src-d<k/\k<=src then kv key p (k-1)else kv key p k:=by
 have h:=getElem?_bubble (xs:=p) hs d hd k;split
 ·rename_i c;rw[if_pos c]at h;exact Wo h
 ·rename_i c;rw[if_neg c]at h;split
  ·rename_i c';rw[if_pos c']at h;exact Wo h
  ·rename_i c';rw[if_neg c']at h;exact Wo h
theorem Up.snoc{m:Nat}(h:Up key p m)(h1:1<=m)(hc:¬kv key p m<kv key p (m-1)):Up key p (m+1):=fun i j hij hj=>by
 by_cases e:j<m
 ·exact h i j hij e
 ·have ej:j=m:=by omega
  subst ej;by_cases ei:i=j
  ·rw[ei];exact Int.le_refl _
  ·have:=h i (j-1) (by omega) (by omega);omega
theorem Dn.snoc{m:Nat}(h:Dn key p m)(h1:1<=m)(hc:kv key p m<=kv key p (m-1)):Dn key p (m+1):=fun i j hij hj=>by
 by_cases e:j<m
 ·exact h i j hij e
 ·have ej:j=m:=by omega
  subst ej;by_cases ei:i=j
  ·rw[ei];exact Int.le_refl _
  ·have:=h i (j-1) (by omega) (by omega);omega
theorem j1E(hp:Pk n p):∀f m,1<=m->m+f<=n->Up key p m->Tw n key (kas_asc p f m) fun r=>m<=r/\r<=m+f/\Up key p r/\(r<m+f->kv key p r<kv key p (r-1))
 | 0,m,h1,hn,hu=>⟨Nat.le_refl _,Nat.le_refl _,hu,fun h=>absurd h (Nat.lt_irrefl _)⟩
 | f+1,m,h1,hn,hu=>by
  refine Tw.asks (hp.lt (by omega) _) (hp.lt (by omega) _) (fun c=>?_) (fun c=>?_)<;>simp only[Bool.false_eq_true,if_true,if_false]
  ·exact⟨Nat.le_refl _,by omega,hu,fun _=>c⟩
  ·exact Tw.mono (fun r h=>⟨by omega,by omega,h.2.2.1,fun hr=>h.2.2.2 (by omega)⟩) (j1E hp f (m+1) (by omega) (by omega) (hu.snoc h1 c))
theorem Xt{m q:Nat}(hm:m<=p.size)(he:Eqs key p m q)(k:Nat):kv key (kas_rev p (m-(q+1)) m) k=kv key p k:=by
 rw[xr hm];split
 ·rename_i c;rw[he k c.1 c.2,he _ (by omega) (by omega)]
 ·rfl
theorem wP:∀f (p:Array Nat) m q,Pk n p->1<=m->m+f<=n->q+1<=m->Dn key p m->Eqs key p m q->
  Tw n key (kas_desc f p m q) fun r=>Pk n r.1/\m<=r.2.1/\r.2.1<=m+f/\Dn key r.1 r.2.1/\r.2.2+1<=r.2.1/\Eqs key r.1 r.2.1 r.2.2
 | 0,p,m,q,hp,h1,hn,hq,hd,he=>⟨hp,Nat.le_refl _,Nat.le_refl _,hd,hq,he⟩
 | f+1,p,m,q,hp,h1,hn,hq,hd,he=>by
  have sz:=hp.size;refine Tw.asks (hp.lt (by omega) _) (hp.lt (by omega) _) (fun c=>?_) (fun c=>?_)<;>simp only[Bool.false_eq_true,if_true,if_false]
  ·have c:kv key p m<kv key p (m-1):=c;split
   ·have hk:=Xt (key:=key) (p:=p) (m:=m) (q:=q) (by omega) he;have hp':Pk n (kas_rev p (m-(q+1)) m):=hp.of (mirror_perm _ _ _ _);refine Tw.mono (fun r h=>⟨h.1,by omega,by omega,h.2.2.2⟩) (wP f _ (m+1) 0 hp' (by omega) (by omega) (by omega) (fun i j hij hj=>?_) fun k k1 k2=>?_)
    ·rw[hk,hk];exact hd.snoc h1 (by omega) i j hij hj
    ·rw[show k=m+1-1 by omega]
   ·refine Tw.mono (fun r h=>⟨h.1,by omega,by omega,h.2.2.2⟩) (wP f p (m+1) 0 hp (by omega) (by omega) (by omega) (hd.snoc h1 (by omega)) fun k k1 k2=>?_);rw[show k=m+1-1 by omega]
  ·have c:¬kv key p m<kv key p (m-1):=c;refine Tw.asks (hp.lt (by omega) _) (hp.lt (by omega) _) (fun c2=>?_) (fun c2=>?_)<;>simp only[Bool.false_eq_true,if_true,if_false]
   ·exact⟨hp,Nat.le_refl _,Nat.le_add_right m (f+1),hd,hq,he⟩
   ·have c2:¬kv key p (m-1)<kv key p m:=c2;refine Tw.mono (fun r h=>⟨h.1,by omega,by omega,h.2.2.2⟩) (wP f p (m+1) (q+1) hp (by omega) (by omega) (by omega) (hd.snoc h1 (by omega)) fun k k1 k2=>?_);rw[Nat.add_sub_cancel];by_cases e:k=m
    ·rw[e]
    ·rw[he k (by omega) (by omega)];omega
theorem j1G{m:Nat}(hp:Pk n p)(h1:1<=m)(hn:m<=n)(hd:Dn key p m):Tw n key (kas_tail3 m n p) fun r=>Pk n r.2/\1<=r.1/\r.1<=n/\Up key r.2 r.1:=by
 have sz:=hp.size;have hp':Pk n (kas_rev p 0 m):=hp.of (mirror_perm _ _ _ _);have hk:=xr (key:=key) (p:=p) (i:=0) (j:=m) (by omega);refine Tw.bind (Tw.mono (fun r h=>?_) (j1E hp' (n-m) m h1 (by omega) fun i j hij hj=>?_))
 ·exact⟨hp',by omega,by omega,h.2.2.1⟩
 ·rw[hk,hk,if_pos ⟨Nat.zero_le _,by omega⟩,if_pos ⟨Nat.zero_le _,hj⟩];exact hd _ _ (by omega) (by omega)
theorem j1F{m:Nat}(hp:Pk n p)(hn:m+1<=n)(hd:Dn key p (m+1)):Tw n key (kas_descPart m n p) fun r=>Pk n r.2/\1<=r.1/\r.1<=n/\Up key r.2 r.1:=by
 refine Tw.bind (Tw.mono (fun r h=>?_) (wP (n-(m+1)) p (m+1) 0 hp (by omega) (by omega) (by omega) hd fun k k1 k2=>by rw[show k=m+1-1 by omega]));obtain⟨a,b,c,d,e,g⟩:=h;have sz:=a.size;split
 ·have hk:=Xt (key:=key) (p:=r.1) (m:=r.2.1) (q:=r.2.2) (by omega) g;exact j1G (a.of (mirror_perm _ _ _ _)) (by omega) (by omega) fun i j hij hj=>by rw[hk,hk];exact d i j hij hj
 ·exact j1G a (by omega) (by omega) d
theorem j2u(hp:Pk n p)(h1:1<=n):Tw n key (kas_count n p) fun r=>Pk n r.2/\1<=r.1/\r.1<=n/\Up key r.2 r.1:=by
 have sz:=hp.size;refine Tw.bind (Tw.mono (fun r h=>?_) (j1E (key:=key) hp (n-1) 1 (by omega) (by omega) fun i j hij hj=>by rw[show i=j by omega];exact Int.le_refl _));obtain⟨a,b,c,d⟩:=h;split
 ·exact⟨hp,a,by omega,c⟩
 rename_i hne;have hrn:r<n:=by
  have:r≠n:=fun e=>hne (by rw[e];simp)
  omega
 have d:=d (by omega);split
 ·refine Tw.asks (hp.lt (by omega) _) (hp.lt (by omega) _) (fun q=>?_) (fun q=>?_)<;>simp only[Bool.false_eq_true,if_true,if_false]
  ·exact⟨hp,a,by omega,c⟩
  ·have q:¬kv key p 0<kv key p (r-1):=q;have hk:=xr (key:=key) (p:=p) (i:=0) (j:=r) (by omega);have eqs:∀i,i<r->kv key p i=kv key p (r-1):=fun i hi=>by
    have h1:=c 0 i (Nat.zero_le _) hi;have h2:=c i (r-1) (by omega) (by omega);omega
   have eqk:∀i,kv key (kas_rev p 0 r) i=kv key p i:=fun i=>by
    rw[hk];split
    ·rename_i q';rw[eqs _ q'.2,eqs _ (by omega)]
    ·rfl
   refine j1F (hp.of (mirror_perm _ _ _ _)) (by omega) fun i j hij hj=>?_
   rw[eqk,eqk];by_cases e:j=r
   ·by_cases e2:i=r
    ·rw[e,e2];exact Int.le_refl _
    ·rw[e,eqs i (by omega)];omega
   ·rw[eqs i (by omega),eqs j (by omega)];exact Int.le_refl _
 ·have er:r=1:=by omega
  subst er;refine j1F hp (by omega) fun i j hij hj=>?_
  rcases(by omega:(i=0/\j=0)\/(i=0/\j=1)\/(i=1/\j=1))with⟨rfl,rfl⟩ | ⟨rfl,rfl⟩ | ⟨rfl,rfl⟩
  ·exact Int.le_refl _
  ·have:kv key p 1<kv key p (1-1):=d;exact Int.le_of_lt this
  ·exact Int.le_refl _
theorem wQ{k:Nat}(hp:Pk n p)(hkn:k<n)(hu:Up key p k):∀f l r,l<=r->r<=k->r-l<=f->(∀i,i<l->kv key p i<=kv key p k)->(∀i,r<=i->i<k->kv key p k<kv key p i)->
  Tw n key (kas_place p k f l r) fun m=>m<=k/\(∀i,i<m->kv key p i<=kv key p k)/\∀i,m<=i->i<k->kv key p k<kv key p i
 | 0,l,r,h1,h2,h3,a,b=>⟨by omega,a,fun i hi=>b i (by omega)⟩
 | f+1,l,r,h1,h2,h3,a,b=>by
  unfold kas_place;split
  ·exact⟨by omega,a,fun i hi=>b i (by omega)⟩
  refine Tw.asks (hp.lt (by omega) _) (hp.lt (by omega) _) (fun q=>?_) (fun q=>?_)<;>simp only[Bool.false_eq_true,if_true,if_false]
  ·have q:kv key p k<kv key p ((l+r)/2):=q;exact wQ hp hkn hu f l _ (by omega) (by omega) (by omega) a fun i hi hk=>by
    have:=hu ((l+r)/2) i hi hk;omega
  ·have q:¬kv key p k<kv key p ((l+r)/2):=q;exact wQ hp hkn hu f _ r (by omega) h2 (by omega) (fun i hi=>by
    have:=hu i ((l+r)/2) (by omega) (by omega);omega) b
theorem j2E:∀f (p:Array Nat) k,Pk n p->k+f<=n->Up key p k->Tw n key (kas_bin f p k) fun q=>Pk n q/\Up key q (k+f)
 | 0,p,k,hp,hn,hu=>⟨hp,hu⟩
 | f+1,p,k,hp,hn,hu=>by
  have sz:=hp.size;refine Tw.bind (Tw.mono (fun l h=>?_) (wQ hp (by omega) hu k 0 k (Nat.zero_le _) (Nat.le_refl _) (by omega) (fun i hi=>absurd hi (Nat.not_lt_zero _)) fun i h1 h2=>absurd h1 (by omega)));obtain⟨a,b,c⟩:=h;have hk:=j2T (key:=key) (p:=p) (src:=k) (d:=k-l) (by omega) (by omega);refine Tw.mono (fun q h=>⟨h.1,by rw[show k+(f+1)=k+1+f by omega];exact h.2⟩) (j2E f _ (k+1) (hp.of (bubble_perm _ _ _)) (by omega) fun i j hij hj=>?_);rw[hk,hk,show k-(k-l)=l by omega]
  repeat' split
  all_goals first
   | exact Int.le_refl _
   | (exfalso;omega)
   | exact Int.le_of_lt (c _ (by omega) (by omega))
   | exact b _ (by omega)
   | exact hu _ _ (by omega) (by omega)
   | (have h1:=b i (by omega);have h2:=c (j-1) (by omega) (by omega);omega)
theorem j3c(h2:1<=n):Tw n key (kas_sort n) fun q=>Pk n q/\Up key q n:=by
 have hp:Pk n (List.toArray (List.range n)):=List.Perm.refl _;refine Tw.bind (Tw.mono (fun r h=>?_) (j2u (key:=key) hp h2));obtain⟨a,b,c,d⟩:=h;split
 ·refine Tw.mono (fun q h=>⟨h.1,?_⟩) (j2E (n-max r.1 1) r.2 (max r.1 1) a (by omega) (by rw[show max r.1 1=r.1 by omega];exact d));have e:max r.1 1+(n-max r.1 1)=n:=by omega
  rw[e]at h;exact h.2
 ·have e:r.1=n:=by omega
  exact⟨a,by rw[<-e];exact d⟩
end
section
variable{prog:Program}{w:World}{A:Around}{E:Value->Shared->Prop}{s:Shared}
def PrAt(h:Heap)(as:List Addr)(key:Nat->Int):Prop:=∀i a,as[i]?=some a->∃o t u n,h.get? a=some o/\o.cls = .type "tuple"/\o.data = .seq #[.int (key i) t,u] n
theorem PrAt.keep{h h':Heap}{as:List Addr}{key:Nat->Int}(x:PrAt h as key)(k:∀a∈as,∀o,h.get? a=some o->h'.get? a=some o):PrAt h' as key:=fun i a e=>by
 obtain⟨o,t,u,n,q,r⟩:=x i a e;exact⟨o,t,u,n,k a (List.mem_of_getElem? e) _ q,r⟩
theorem j3k{as:List Addr}{key:Nat->Int}(x:PrAt s.heap as key)(inj:∀i j,i<as.length->j<as.length->key i=key j->i=j){i j:Nat}{C:Bool->Shared->Prop}(hi:i<as.length)(hj:j<as.length)
  (h:C (decide (key i<key j)) s):kas_ask prog w A (tuples' true) (as.map Value.ref) i j C s:=by
 unfold kas_ask;obtain⟨o,t,u,n,q1,c1,d1⟩:=x i _ (List.getElem?_eq_getElem hi);obtain⟨o',t',u',n',q2,c2,d2⟩:=x j _ (List.getElem?_eq_getElem hj);have e1:(as.map Value.ref).getD i Value.none = .ref as[i]:=by rw[getD_eq_getElem?_getD,List.getElem?_map,List.getElem?_eq_getElem hi];rfl
 have e2:(as.map Value.ref).getD j Value.none = .ref as[j]:=by rw[getD_eq_getElem?_getD,List.getElem?_map,List.getElem?_eq_getElem hj];rfl
 rw[e1,e2];refine kat_lt q1 d1 q2 d2 ?_;show KatLex prog w A true _ C [(.int (key i) t,.int (key j) t'),(u,u')] 0 s;refine kat_cons (wpAny_eqBool_int ?_);by_cases c:key i=key j
 ·have ij:=inj i j hi hj c;subst ij;rw[beq_self_eq_true];have eu:u=u':=by
   have e:o=o':=Option.some.inj (q1.symm.trans q2);subst e;have e:=d1.symm.trans d2;injection e with e _;have:=congrArg (fun a:Array Value=>a[1]?) e;simpa using this
  subst eu;refine kat_yes (kat_cons (SeqAt.EqAt.same _ _ _ _ _ ?_));refine kat_yes (kat_nil ?_);rw[decide_eq_false (Int.lt_irrefl _)]at h;exact h
 ·rw[beq_false_of_ne c];exact kat_no (oneLt_int h)
theorem XC{h:Heap}{key:Nat->Int}:∀{as:List Addr} (_:PrAt h as key),∃fs,KatTups h (as.map Value.ref) fs/\fs.length=as.length/\∀v∈fs,∃n t,v=Value.int n t
 | [],_=>⟨[],KatTups.nil,rfl,fun v hv=>nomatch hv⟩
 | a::r,x=>by
  obtain⟨o,t,u,n,q,c,d⟩:=x 0 a rfl;obtain⟨fs,k,l,f⟩:=XC (key:=fun i=>key (i+1)) (as:=r) fun i b e=>x (i+1) b (by simpa using e)
  refine⟨.int (key 0) t::fs,KatTups.cons q c d rfl k,by rw[length_cons,l,length_cons],fun v hv=>?_⟩;rcases mem_cons.mp hv with rfl | hv
  ·exact⟨_,_,rfl⟩
  ·exact f v hv
theorem j2y(vs:List Value):(vs.toArray.zip vs.toArray).map (·.2)=vs.toArray:=by
 apply Array.toList_inj.mp;rw[Array.toList_map,Array.toList_zip];exact List.map_snd_zip (Nat.le_refl _)
theorem j0f(vs:List Value):(List.range vs.length).map (fun i=>vs.getD i Value.none)=vs:=by
 refine ext_getElem (by simp) fun i h1 h2=>?_
 rw[getElem_map,getElem_range,getD_eq_getElem?_getD,List.getElem?_eq_getElem h2];rfl
theorem j1l:∀{l:List Int},l.length<2->l.Pairwise (·<=·)
 | [],_=>.nil
 | [_],_=>pairwise_singleton _ _
 | _::_::_,h=>absurd h (by rw[length_cons,length_cons];omega)
theorem j1B{a:Addr}{as:List Addr}{key:Nat->Int}{c0:Nat}{P:PySem.Fin->Shared->Prop}(hob:s.heap.get? a=some (seqObj "list" (as.map Value.ref).toArray c0))(hna:a∉as)(x:PrAt s.heap as key)
  (inj:∀i j,i<as.length->j<as.length->key i=key j->i=j) (h64:as.length<64)
  (hend:∀(q:List Nat) (h':Heap) (c:Nat),q.Perm (List.range as.length)->(q.map key).Pairwise (·<=·)->(∀b o,b≠a->s.heap.get? b=some o->h'.get? b=some o)->
   h'.get? a=some (seqObj "list" ((q.map fun i=>as.getD i 0).map Value.ref).toArray c)->P (.done (.ret .none)) {s with heap:=h'}) :
  wpAny (model prog w) A (Builtin.«list.sort» ⟨[.ref a],[]⟩) P E s:=by
 have hlt:a<s.heap.objs.size:=Heap.lt_size hob;obtain⟨c1,hob1⟩:∃c1,(s.heap.update a (Obj.mapSeq fun _=>(#[]:Array Value))).get? a=some (seqObj "list" #[] c1):=⟨_,get?_update_seq hob fun _=>#[]⟩
 have sb1:=Heap.SameBut.update s.heap a (Obj.mapSeq fun _=>(#[]:Array Value));rw[list_sort_plain];refine wpAny_bind (listItems_at (s:=s) hob rfl ?_);refine wpAny_bind (listUpdate_at (s:=s) hob rfl ?_ (by rw[size_toArray,length_map,sizeLine_eq];omega) (Nat.zero_le _));refine wpAny_bind (seqEpoch_at (n:=c1) hob1 rfl ?_);refine wpAny_bind (wpAny_newTuple ?_ (by show(as.map Value.ref).length<=_;rw[length_map,sizeLine_eq];omega));refine wpAny_bind (wpAny_newList ?_ (Nat.zero_le (sizeLine)));refine wpAny_holding ?_;generalize hH:((s.heap.update a (Obj.mapSeq fun _=>(#[]:Array Value))).push (seqObj "tuple" (as.map Value.ref).toArray 0)).push (seqObj "list" #[] 0)=hX;have kX:∀b o,b≠a->s.heap.get? b=some o->hX.get? b=some o:=fun b o hb e=>by
  rw[<-hH];exact Heap.get?_push_of_some _ (Heap.get?_push_of_some _ ((sb1.2 b hb).trans e))
 have oX:hX.get? a=some (seqObj "list" #[] c1):=by
  rw[<-hH];exact Heap.get?_push_of_some _ (Heap.get?_push_of_some _ hob1)
 have xX:PrAt hX as key:=x.keep fun b hb o e=>kX b o (fun z=>hna (z▸hb)) e
 show wpAny (model prog w) A _ P E {s with heap:=hX};dsimp only;have szv:(as.map Value.ref).toArray.size=as.length:=by rw[size_toArray,length_map]
 have outE:∀q:List Nat,q.Perm (List.range as.length)->(List.map (fun i=>(as.map Value.ref).getD i Value.none) q)=(q.map fun i=>as.getD i 0).map Value.ref:=fun q hq=>by
  rw[map_map];refine map_congr_left fun i hi=>?_
  have hl:i<as.length:=mem_range.mp (hq.mem_iff.mp hi);show(as.map Value.ref).getD i Value.none=Value.ref (as.getD i 0);rw[getD_eq_getElem?_getD,getD_eq_getElem?_getD,List.getElem?_map,List.getElem?_eq_getElem hl];rfl
 have done:∀(q:List Nat),q.Perm (List.range as.length)->(q.map key).Pairwise (·<=·)->∀out:Array Value,out=(List.map (fun i=>(as.map Value.ref).getD i Value.none) q).toArray->
   P (.done (.ret .none)) {s with heap:=hX.update a (Obj.mapSeq fun _=>out)}:=fun q hq hs out ho=>by
  subst ho;have o2:=get?_update_seq oX fun _=>(List.map (fun i=>(as.map Value.ref).getD i Value.none) q).toArray
  have sb2:=Heap.SameBut.update hX a (Obj.mapSeq fun _=>(List.map (fun i=>(as.map Value.ref).getD i Value.none) q).toArray);rw[outE q hq]at o2 sb2|-;exact hend q _ _ hq hs (fun b o hb e=>(sb2.2 b hb).trans (kX b o hb e)) o2
 by_cases h2:(as.map Value.ref).toArray.size<2
 ·rw[if_pos h2,if_pos h2];refine wpAny_bind (wpAny_pure ?_);rw[StateT.run_pure];refine wpAny_bind (wpAny_pure ?_);dsimp only;refine wpAny_bind (seqEpoch_at (n:=c1) oX rfl ?_);have eo:(arrOf (SortSt.mk' general' ((as.map Value.ref).toArray.zip (as.map Value.ref).toArray) #[] 7 none)).map (·.2)=(List.map (fun i=>(as.map Value.ref).getD i Value.none) (List.range as.length)).toArray:=by
   have e:=j0f (as.map Value.ref);rw[length_map]at e;rw[e];exact j2y _
  rw[eo];refine wpAny_bind (listUpdate_at (s:={s with heap:=hX}) oX rfl ?_ (Nat.zero_le _) (by rw[size_toArray,length_map,length_range,sizeLine_eq];omega));simp only[bne_self_eq_false,Bool.false_eq_true,if_false];refine wpAny_pure (done (List.range as.length) (List.Perm.refl _) ?_ _ rfl);rw[szv]at h2;exact j1l (by rw[length_map,length_range];exact h2)
 ·rw[if_neg h2,if_neg h2];rw[szv]at h2;obtain⟨fs,kt,kl,ki⟩:=XC xX;have hX':hX=({s with heap:=hX}:Shared).heap:=rfl;refine wpAny_bind (kat_kind (s:={s with heap:=hX}) (T:=Value.type "int") kt (by omega) (fun v hv=>?_) (by decide) ?_)
  ·obtain⟨m,t,rfl⟩:=ki v hv;exact Looks.of_pure rfl
  refine wpAny_bind (wpAny_mono (kat_run (s:={s with heap:=hX}) (ks:=as.map Value.ref) (vs:=as.map Value.ref) (κ:=tuples' true) (Q:=fun st' s'=>∃p:Array Nat,Pk as.length p/\Up key p as.length/\arrOf st'=p.map (kas_item ((as.map Value.ref).toArray.zip (as.map Value.ref).toArray))/\failedOf st'=none/\s'={s with heap:=hX}) (G:=fun p s'=>Pk as.length p/\Up key p as.length/\s'={s with heap:=hX})
   rfl (by rw[length_map];omega) (by rw[length_map];exact h64) (fun p st' s' _ a2 a3 a4=>⟨p,a4.1,a4.2.1,a2,a3,a4.2.2⟩) ?_) ?_ fun _ _ e=>e)
  ·rw[length_map];exact Tw.run (n:=as.length) (key:=key) (fun i j C hi hj hC=>j3k xX inj hi hj hC) (Tw.mono (fun q h=>⟨h.1,h.2,rfl⟩) (j3c (key:=key) (by omega)))
  rintro⟨⟨⟩,st'⟩ s' ⟨p,hp,hu,har,hf,rfl⟩;dsimp only;rw[kat_snds rfl har];refine wpAny_bind (seqEpoch_at (n:=c1) oX rfl ?_);have psz:=hp.size;refine wpAny_bind (listUpdate_at (s:={s with heap:=hX}) oX rfl ?_ (Nat.zero_le _) (by rw[size_toArray,length_map,Array.length_toList,psz,sizeLine_eq];omega));rw[hf];simp only[bne_self_eq_false,Bool.false_eq_true,if_false];refine wpAny_pure (done p.toList hp ?_ _ rfl);refine pairwise_map.mpr (List.pairwise_iff_getElem.mpr fun i j hi hj hij=>?_);rw[Array.length_toList]at hi hj;have:=hu i j (by omega) (by omega);unfold kv at this;rw[Array.getD_eq_getD_getElem?,Array.getD_eq_getD_getElem?,Array.getElem?_eq_getElem hi,Array.getElem?_eq_getElem hj]at this;exact this
end
open PySem PySem.Spec PySem.W PyProof.Rows
section
variable{X:Cx}{pins:List (Addr×Obj)}{σ:St}{H:Hp}{s:Shared}
def NewA(X:Cx)(pins:List (Addr×Obj))(T:Addr):Prop:=X.s₀.heap.objs.size<=T/\T≠X.env.locals/\(∀x c,X.env.cells.lookup x=some c->c≠T)/\∀p∈X.pn++pins,p.1≠T
theorem Inv.newA(I:Inv X pins σ H s){T:Addr}(hT:s.heap.objs.size<=T):NewA X pins T:=by
 obtain⟨_,f1,_,_,f4,f5⟩:=I.fpOk (H':=fun _=>none) hT rfl;exact⟨Nat.le_trans I.sz hT,f1,f4,f5⟩
theorem ObjOk.obj{P:Program}{w:World}{h:Heap}{a:Addr}{o:HO}(x:ObjOk P w H h a o):∃u,h.get? a=some u:=by
 cases o with
 | lst xs=>obtain⟨_,_,_,_,e⟩:=x;exact⟨_,e⟩
 | tup xs=>obtain⟨_,_,_,u,e,_⟩:=x;exact⟨u,e⟩
 | dK kvs=>obtain⟨_,_,_,_,u,_,_,e,_⟩:=x;exact⟨u,e⟩
 | dT kvs=>obtain⟨_,_,_,_,u,_,_,e,_⟩:=x;exact⟨u,e⟩
 | set S n=>obtain⟨u,_,_,_,e,_⟩:=x;exact⟨u,e⟩
 | ins C dx fs=>obtain⟨_,_,_,e,_⟩:=x;exact⟨_,e⟩
 | own y=>exact x
 | xd fs=>obtain⟨_,⟨u,_,_,e,_⟩,_⟩:=x;exact⟨u,e⟩
 | rng lo hi=>obtain⟨_,_,_,e⟩:=x;exact⟨_,e⟩
 | frz u v=>exact⟨_,x.1⟩
 | tbl ps=>exact⟨_,x⟩
 | met f y=>exact⟨_,x⟩
 | ext φ=>exact x.2.1
theorem Inv.none_at{h1:Heap}(I:Inv X pins σ H s)(hk:∀b o,s.heap.get? b=some o->h1.get? b=some o):H h1.objs.size=none:=by
 cases e:H h1.objs.size with
 | none=>rfl
 | some u=>
  obtain⟨v,q⟩:=(I.hok _ _ e).obj;exact absurd (Heap.lt_size (hk _ _ q)) (Nat.lt_irrefl _)
theorem Inv.newB{h1:Heap}(I:Inv X pins σ H s)(hk:∀b o,s.heap.get? b=some o->h1.get? b=some o):NewA X pins h1.objs.size:=by
 have lt:∀b o,s.heap.get? b=some o->b<h1.objs.size:=fun b o e=>Heap.lt_size (hk b o e)
 obtain⟨m,⟨o,_,_,ho,_⟩,_⟩:=I.loc;have hL:=lt _ _ ho;refine⟨Nat.le_of_lt (Nat.lt_of_le_of_lt I.ok.above hL),Nat.ne_of_gt hL,fun x c e=>?_,fun p hp=>Nat.ne_of_lt (lt _ _ (I.pin p hp).1)⟩;obtain⟨v,o,ho,_⟩:=I.cell x c e;exact Nat.ne_of_lt (lt _ _ ho)
theorem Inv.track{T:Addr}{o:HO}(I:Inv X pins σ H s)(h0:H T=none)(hn:NewA X pins T)(new:ObjOk X.prog X.w (upd H T o) s.heap T o):Inv X pins σ (upd H T o) s:=by
 have ne:∀b u,H b=some u->b≠T:=fun b u e z=>by rw[z,h0]at e;cases e
 refine I.step (h':=s.heap) (H':=upd H T o) (g':=s.gens) (d':=s.drawn) (t':=s.toks) (ch:=[T]) (fun b hb=>?_) (fun b o _ _ _ e _=>e) (fun b o _ _ _ e _=>⟨o.slots,e⟩) (fun b u hb _ n=>?_) (fun b u _ e=>⟨u,e⟩)
  (fun b xs e=>(jg (ne _ _ e)).trans e) (fun b u v e=>(jg (ne _ _ e)).trans e) (fun b ps e=>⟨#[],by rw[jg (ne _ _ e),e];simp⟩) (fun m hm=>hm) (fun b u e=>?_) I.bare
 ·have e:b=T:=by simpa using hb
  subst e;exact⟨.inr hn.1,hn.2.1,hn.2.2.1,hn.2.2.2⟩
 ·exact(jg fun z=>hb (by simp[z])).trans n
 ·by_cases z:b=T
  ·subst z;rw[jx]at e;cases e;exact new
  ·rw[jg z]at e;exact(I.hok b u e).stay (fun c v _ q=>q) (fun c q=>(jg (ne _ _ q)).trans q) fun c ys q=>(jg (ne _ _ q)).trans q
theorem Inv.trackAll:∀(ws:List (Addr×HO)) {H:Hp},Inv X pins σ H s->(∀p∈ws,H p.1=none/\NewA X pins p.1/\∀H',ObjOk X.prog X.w H' s.heap p.1 p.2)->(ws.map (·.1)).Nodup->∃H',Inv X pins σ H' s/\Same H H'/\∀p∈ws,H' p.1=some p.2
 | [],H,I,_,_=>⟨H,I,Same.refl _,fun p hp=>nomatch hp⟩
 | w::r,H,I,h,nd=>by
  obtain⟨a,b,c⟩:=h w mem_cons_self;rw[map_cons,nodup_cons]at nd;have I1:=I.track a b (c _);obtain⟨H',I2,s2,k2⟩:=Inv.trackAll r I1 (fun p hp=>by
   obtain⟨a',b',c'⟩:=h p (mem_cons_of_mem _ hp);exact⟨(jg fun z:p.1=w.1=>nd.1 (by rw[<-z];exact mem_map.mpr ⟨p,hp,rfl⟩)).trans a',b',c'⟩) nd.2
  have s1:Same H (upd H w.1 w.2):=fun b u q=>(jg (je q a)).trans q
  refine⟨H',I2,s1.trans s2,fun p hp=>?_⟩;rcases mem_cons.mp hp with rfl | hp
  ·exact s2 _ _ jx
  ·exact k2 p hp
end
section
variable{X:Cx}
theorem valsR:∀as:List Addr,Vals (as.map V.ref) (as.map Value.ref)
 | []=>.nil
 | _::r=>.cons rfl (valsR r)
theorem KV.get{κ:Type}:∀{kvs:List (κ×V)} {vs:List (κ×Value)} {i:Nat} {p:κ×V},KV kvs vs->kvs[i]?=some p->∃q,vs[i]?=some q/\p.1=q.1/\RelV p.2 q.2
 | _,_,_,_,.nil,e=>by simp at e
 | _,_,0,_,.cons r _,e=>by simp at e;subst e;exact⟨_,rfl,r⟩
 | _,_,i+1,p,.cons _ t,e=>by
  obtain⟨q,h1,h2⟩:=KV.get (i:=i) (p:=p) t (by simpa using e);exact⟨q,by simpa using h1,h2⟩
theorem j08:MtR X "dict.update" (fun x vs H Q=>∃d o kvs more,x = .ref d/\vs=[.ref o]/\H d=some (.dK kvs)/\H o=some (.dK more)/\d≠o/\kvs.length+more.length<=sizeLine/\Q .non (upd H d (.dK (mergeK kvs more)))):=by
 intro pins s σ H x vs v us Q I rx rv h;obtain⟨d,o,kvs,more,rfl,rfl,ed,eo,hne,hz,q⟩:=h;cases rx;obtain⟨u,rfl,ru⟩:=vals1 rv;cases ru;obtain⟨z1,hd1,vs1,r1,dd1⟩:=Wg I.hok ed;obtain⟨z2,hd2,vs2,r2,dd2⟩:=Wg I.hok eo;refine call_meetsIn PySem.F.slot_dict_update dd1.typeIs PySem.F.entry_dict_update (PySem.F.args_dict_update_2 _ _) (meets_dict_update (mixKind X.prog X.w) d o hne hd2) ⟨vs1,vs2,dd1,dd2,by rw[<-r1.length,<-r2.length];exact hz,fun h' dd' _ hs=>?_⟩;have he:∃q,h'.get? d=some q:=let ⟨q,_,_,hq,_⟩:=dd';⟨q,hq⟩;have hl:=zD more kvs;exact⟨.non,_,KZ (t':=s.toks) I (by rw[ed];exact True.intro) hs he (xf (by omega) hd1 (r2.merge r1) dd'),rfl,q⟩
noncomputable def IView(v d:Addr):HO:=.ext fun h=>h.get? v=some {cls:=.type "dict_items",data:=.fields #[.ref d]}
theorem j13:MtR X "dict.items" (fun x vs H Q=>∃d kvs,x = .ref d/\vs=[]/\H d=some (.dK kvs)/\∀v,H v=none->Q (.ref v) (upd H v (IView v d))):=by
 intro pins s σ H x vs v us Q I rx rv h;obtain⟨d,kvs,rfl,rfl,ed,q⟩:=h;cases rx;have hus:=rv.zero;subst hus;obtain⟨z1,hd1,vs1,r1,dd1⟩:=Wg I.hok ed;refine call_meetsIn PySem.F.slot_dict_items dd1.typeIs PySem.F.entry_dict_items (PySem.F.args_dict_items_1 (.ref d)) (meets_dict_items (mixKind X.prog X.w) d hd1) ⟨⟨vs1,dd1⟩,?_⟩;have e:(s.heap.push {cls:=.type "dict_items",data:=.fields #[.ref d]}).get? s.heap.objs.size=some {cls:=.type "dict_items",data:=.fields #[.ref d]}:=Heap.get?_push_size _ rfl;exact⟨.ref s.heap.objs.size,_,I.laid (t':=s.toks) (o:=IView s.heap.objs.size d) (fun b u q=>Heap.get?_push_of_some _ q) (Nat.le_refl _) (show ObjOk X.prog X.w _ _ _ (IView s.heap.objs.size d)from⟨e,⟨_,e⟩,fun h1 h2 q k=>k _ q⟩),rfl,q _ (I.hok.fresh (Nat.le_refl _))⟩
noncomputable def iiK(p:Int×Int):Key×V:=(Sum.inl p.1,.int p.2)
theorem KW(hc:X.calm=true):CallR X (.builtin "sorted") (fun xs H Q=>∃(v d:Addr) (kvs:List (Int×Int)),xs=[.ref v]/\H v=some (IView v d)/\H d=some (.dK (kvs.map iiK))/\kvs.length<64/\
  ∀(l:Addr) (as:List Addr) (ms:List (Int×Int)) (H':Hp),Same H H'->H l=none->H' l=some (.lst (as.map V.ref))->(∀a∈as,H a=none)->ms.Perm kvs->(ms.map (·.1)).Pairwise (·<=·)->as.length=ms.length->(∀(i:Nat) (a:Addr) (p:Int×Int),as[i]?=some a->ms[i]?=some p->H' a=some (.tup [.int p.1,.int p.2]))->Q (.ref l) H'):=by
 intro pins s σ H xs us Q I r h;obtain⟨v,d,kvs,rfl,ev,ed,h64,q⟩:=h;obtain⟨u,rfl,ru⟩:=vals1 r;cases ru;obtain⟨z1,hd1,vs1,r1,dd1⟩:=Wg I.hok ed;have hv:s.heap.get? v=some {cls:=.type "dict_items",data:=.fields #[.ref d]}:=(I.hok v _ ev).1;obtain⟨ep,da⟩:=dd1.dictAt;have lv:=r1.length;rw[length_map]at lv;have nd:(kvs.map (·.1)).Nodup:=by
  have n1:(vs1.map (·.1)).Nodup:=let ⟨_,_,_,_,_,_,_,_,hn⟩:=dd1;hn;rw[<-r1.keys,map_map]at n1;refine pairwise_map.mpr ((pairwise_map.mp n1).imp fun {a b} h e=>h ?_);show(Sum.inl a.1:Key)=Sum.inl b.1;rw[e]
 refine Calls.call_function_entry kind_sorted plain_sorted entry_sorted (args_sorted1 (.ref v)) ?_;unfold Builtin.«sorted»;refine wpAny_bind (m:=checkCount "sorted" 1 1 1) (wpAny_pure ?_);refine wpAny_bind (kdx_collect (knd:=mixKind X.prog X.w) (kvs:=vs1) (ep:=ep) (A:=X.A.in1) (I.ok.hd hc) ⟨_,hv,rfl,rfl⟩ da (by rw[<-lv,sizeLine_eq];omega) fun h1 tk as hk hl hG=>?_);rw[<-lv]at hl;refine wpAny_bind (wpAny_newList ?_ (by rw[length_map,hl,sizeLine_eq];omega));have hoL:(h1.push (seqObj "list" (as.map Value.ref).toArray 0)).get? h1.objs.size=some (seqObj "list" (as.map Value.ref).toArray 0):=Heap.get?_push_size _ rfl;have hna:h1.objs.size∉as:=fun z=>Nat.lt_irrefl _ (hG.there z)
 have key:∀i p,kvs[i]?=some p->(fun i=>(kvs.getD i (0,0)).1) i=p.1/\(fun i=>(kvs.getD i (0,0)).2) i=p.2:=fun i p e=>by
  dsimp only;rw[getD_eq_getElem?_getD,e];exact⟨rfl,rfl⟩
 have xQ:∀i a,as[i]?=some a->∃t u,(h1.push (seqObj "list" (as.map Value.ref).toArray 0)).get? a=some {cls:=.type "tuple",data:=.seq #[.int ((fun i=>(kvs.getD i (0,0)).1) i) t,.int ((fun i=>(kvs.getD i (0,0)).2) i) u]}:=fun i a e=>by
  obtain⟨ky,k,x,e1,e2,e3⟩:=hG.pairs i a e;have hi:i<kvs.length:=by rw[<-hl];exact(List.getElem?_eq_some_iff.mp e).1
  obtain⟨w',e4,rw'⟩:=KV.get r1 (i:=i) (p:=iiK kvs[i]) (by rw[List.getElem?_map,List.getElem?_eq_getElem hi];rfl);rw[e1]at e4;cases e4;obtain⟨ek,t2,ex⟩:=rw';have ek':k=Sum.inl kvs[i].1:=ek.symm;subst ek';have ex':x = .int kvs[i].2 t2:=ex;subst ex';obtain⟨g1,g2⟩:=key i _ (List.getElem?_eq_getElem hi);rw[show(fun i=>(kvs.getD i (0,0)).1) i=kvs[i].1 from g1,show(fun i=>(kvs.getD i (0,0)).2) i=kvs[i].2 from g2];rcases Js (show keyIs (Sum.inl kvs[i].1) ky=true from e2)with⟨n,t,q1,q2⟩ | ⟨n,t,q1,q2⟩
  ·cases q1;subst q2;exact⟨t,t2,Heap.get?_push_of_some _ e3⟩
  ·cases q1
 have xP:PrAt (h1.push (seqObj "list" (as.map Value.ref).toArray 0)) as (fun i=>(kvs.getD i (0,0)).1):=fun i a e=>by
  obtain⟨t,u,z⟩:=xQ i a e;exact⟨_,t,_,_,z,rfl,rfl⟩
 have inj:∀i j,i<as.length->j<as.length->(fun i=>(kvs.getD i (0,0)).1) i=(fun i=>(kvs.getD i (0,0)).1) j->i=j:=fun i j hi hj e=>by
  rw[hl]at hi hj;obtain⟨g1,_⟩:=key i _ (List.getElem?_eq_getElem hi);obtain⟨g2,_⟩:=key j _ (List.getElem?_eq_getElem hj);rw[g1,g2]at e;rcases Nat.lt_trichotomy i j with z | z | z
  ·exact absurd e (by have:=List.pairwise_iff_getElem.mp nd i j (by rw[length_map];exact hi) (by rw[length_map];exact hj) z;simpa using this)
  ·exact z
  ·exact absurd e.symm (by have:=List.pairwise_iff_getElem.mp nd j i (by rw[length_map];exact hj) (by rw[length_map];exact hi) z;simpa using this)
 refine wpAny_bind (wpAny_holding (wpAny_call_entry slot_list_sort ⟨_,hoL,rfl⟩ entry_list_sort (j1B (s:={s with heap:=h1.push (seqObj "list" (as.map Value.ref).toArray 0),toks:=tk}) hoL hna xP inj (by rw[hl];exact h64) fun qs h2 c hq hs kk o2=>⟨_,rfl,?_⟩) (args_list_sort _)));refine wpAny_pure ⟨_,rfl,?_⟩;have ltB:∀b o,s.heap.get? b=some o->b<h1.objs.size:=fun b o e=>Heap.lt_size (hk b o e)
 have k2:∀b o,s.heap.get? b=some o->h2.get? b=some o:=fun b o e=>kk b o (Nat.ne_of_lt (ltB b o e)) (Heap.get?_push_of_some _ (hk b o e))
 have I2:Inv X pins σ H {s with heap:=h2,toks:=tk}:=I.kept (t':=tk) k2;have hB:H h1.objs.size=none:=I.none_at hk;have nB:=I.newB hk;have ha:∀a∈as,H a=none/\NewA X pins a:=fun a h=>⟨I.hok.fresh (Nat.le_of_lt (hG.above a h)),I.newA (Nat.le_of_lt (hG.above a h))⟩
 have qlt:∀i∈qs,i<as.length:=fun i hi=>mem_range.mp (hq.mem_iff.mp hi)
 have ndw:(((h1.objs.size,HO.lst ((qs.map fun i=>as.getD i 0).map V.ref))::(List.range as.length).map fun i=>(as.getD i 0,HO.tup [.int (kvs.getD i (0,0)).1,.int (kvs.getD i (0,0)).2])).map (·.1)).Nodup:=by
  rw[map_cons,nodup_cons,map_map];have e2:(List.range as.length).map ((fun x=>x.1)∘fun i=>(as.getD i 0,HO.tup [.int (kvs.getD i (0,0)).1,.int (kvs.getD i (0,0)).2]))=as:=ext_getElem (by simp) fun i h1 h2=>by
   rw[getElem_map,getElem_range];show as.getD i 0=_;rw[getD_eq_getElem?_getD,List.getElem?_eq_getElem h2];rfl
  rw[e2];exact⟨hna,hG.rise.imp fun h=>Nat.ne_of_lt h⟩
 obtain⟨H',I3,s3,k3⟩:=I2.trackAll ((h1.objs.size,HO.lst ((qs.map fun i=>as.getD i 0).map V.ref))::(List.range as.length).map fun i=>(as.getD i 0,HO.tup [.int (kvs.getD i (0,0)).1,.int (kvs.getD i (0,0)).2])) (fun p hp=>by
  rcases mem_cons.mp hp with rfl | hp
  ·refine⟨hB,nB,fun H'=>⟨?_,_,c,valsR _,o2⟩⟩;rw[length_map,length_map,hq.length_eq,length_range,hl,sizeLine_eq];omega
  ·obtain⟨i,hi,rfl⟩:=mem_map.mp hp;have hi:=mem_range.mp hi;have e:as[i]?=some (as.getD i 0):=by rw[getD_eq_getElem?_getD,List.getElem?_eq_getElem hi];rfl
   obtain⟨t1,t2,eo⟩:=xQ i _ e;have hm:=List.mem_of_getElem? e;obtain⟨n1,n2⟩:=ha _ hm;exact⟨n1,n2,fun H'=>⟨(by show 2<=sizeLine;decide),[_,_],.cons ⟨t1,rfl⟩ (.cons ⟨t2,rfl⟩ .nil),⟨_,kk _ _ (fun z=>hna (z▸hm)) eo,rfl,_,rfl⟩⟩⟩) ndw
 ·refine⟨.ref h1.objs.size,H',I3,rfl,q h1.objs.size (qs.map fun i=>as.getD i 0) (qs.map fun i=>kvs.getD i (0,0)) H' s3 hB (k3 _ mem_cons_self) (fun a h=>?_) ?_ ?_ (by rw[length_map,length_map]) fun i a p e1 e2=>?_⟩
  ·obtain⟨i,hi,rfl⟩:=mem_map.mp h;have e:as[i]?=some (as.getD i 0):=by rw[getD_eq_getElem?_getD,List.getElem?_eq_getElem (qlt i hi)];rfl
   exact(ha _ (List.mem_of_getElem? e)).1
  ·have e:=hq.map fun i=>kvs.getD i (0,0)
   rw[hl]at e;have e2:(List.range kvs.length).map (fun i=>kvs.getD i (0,0))=kvs:=ext_getElem (by simp) fun i h1 h2=>by
    rw[getElem_map,getElem_range,getD_eq_getElem?_getD,List.getElem?_eq_getElem h2];rfl
   rw[e2]at e;exact e
  ·rw[map_map];exact hs
  ·rw[List.getElem?_map]at e1 e2;obtain⟨j,hj,rfl⟩:=Option.map_eq_some_iff.mp e1;rw[hj]at e2;cases e2;exact k3 _ (mem_cons_of_mem _ (mem_map.mpr ⟨j,mem_range.mpr (qlt j (List.mem_of_getElem? hj)),rfl⟩))
end
theorem YC:∀{as:List Addr} {us:List Value},Vals (as.map V.ref) us->us=as.map Value.ref
 | [],_,r=>by cases r;rfl
 | a::as,_,r=>by
  cases r with
  | cons r1 r2=>rw[YC r2,show _=Value.ref a from r1];rfl
theorem WG{h:Heap}:∀{as:List Addr} {kvs:List (Int×Int)},as.length=kvs.length->(∀(i:Nat) (a:Addr) (q:Int×Int),as[i]?=some a->kvs[i]?=some q->∃t u,IsTup h a #[.int q.1 t,.int q.2 u])->
  ∃ps:List (Key×Value),KV (kvs.map iiK) ps/\ps.length=kvs.length/\∀(j:Nat) (kv:Key×Value),ps[j]?=some kv->∃a key,as[j]?=some a/\IsTup h a #[key,kv.2]/\keyIs kv.1 key=true
 | [],[],_,_=>⟨[],.nil,rfl,fun j kv e=>by simp at e⟩
 | [],_::_,l,_=>by simp at l
 | _::_,[],l,_=>by simp at l
 | a::as,q::kvs,l,f=>by
  obtain⟨ps,h1,h2,h3⟩:=WG (as:=as) (kvs:=kvs) (by simpa using l) fun i a q e1 e2=>f (i+1) a q (by simpa using e1) (by simpa using e2)
  obtain⟨t,u,e⟩:=f 0 a q rfl rfl;refine⟨(Sum.inl q.1,.int q.2 u)::ps,.cons ⟨rfl,u,rfl⟩ h1,by rw[length_cons,h2,length_cons],fun j kv ej=>?_⟩;cases j with
  | zero=>simp at ej;subst ej;exact⟨a,_,rfl,e,KD _ _⟩
  | succ j=>obtain⟨b,ky,b1,b2,b3⟩:=h3 j kv (by simpa using ej);exact⟨b,ky,by simpa using b1,b2,b3⟩
section
variable{X:Cx}
theorem W7(hc:X.calm=true):CallR X (.type "dict") (fun xs H Q=>∃(p:Addr) (as:List Addr) (kvs:List (Int×Int)),xs=[.ref p]/\H p=some (.lst (as.map V.ref))/\as.length=kvs.length/\
  (∀(i:Nat) (a:Addr) (q:Int×Int),as[i]?=some a->kvs[i]?=some q->H a=some (.tup [.int q.1,.int q.2]))/\∀d,H d=none->Q (.ref d) (upd H d (.dK (mergeK [] (kvs.map iiK))))):=by
 intro pins s σ H xs us Q I r h;obtain⟨p,as,kvs,rfl,ep,hl,ht,q⟩:=h;obtain⟨u,rfl,ru⟩:=vals1 r;cases ru;obtain⟨z,its,n,rv,lv,e⟩:=I.lstM ep;have ei:=YC rv;subst ei;rw[length_map]at z;have hp:p<s.heap.objs.size:=Heap.lt_size e;obtain⟨ps,kp,pl,pt⟩:=WG (h:=s.heap) hl fun i a q e1 e2=>by
  obtain⟨_,its,r',t'⟩:=I.hok a _ (ht i a q e1 e2);cases r' with
  | cons ra rr=>
   cases rr with
   | cons rb rr=>
    cases rr;obtain⟨t1,rfl⟩:=ra;obtain⟨t2,rfl⟩:=rb;exact⟨t1,t2,t'⟩
 refine callType_codes (Q₁:=fun obj s₁=>obj = .ref s.heap.objs.size/\s₁={s with heap:=s.heap.push {cls:=.type "dict",data:=.dict #[]}}) PySem.F.kt_called_dict (PySem.F.kt_typeCall_dict_1 (.ref p)) PySem.F.entry_dict_init (kt_code_dict_new (.ref p) ⟨rfl,rfl⟩) ?_;rintro obj s₁ ⟨rfl,rfl⟩;have hnew:(s.heap.push {cls:=.type "dict",data:=.dict #[]}).DictOf (mixKind X.prog X.w) s.heap.objs.size []:=Heap.DictOf.new s.heap;have k0:∀b o,s.heap.get? b=some o->(s.heap.push {cls:=.type "dict",data:=.dict #[]}).get? b=some o:=fun b o e=>Heap.get?_push_of_some _ e
 generalize s.heap.push {cls:=.type "dict",data:=.dict #[]}=h0 at hnew k0;refine⟨hnew.typeIs (s:={s with heap:=h0}),PySem.F.args_dict_init_2 _ _,?_⟩;unfold Builtin.«dict.__init__»;refine wpAny_bind ?_;unfold Builtin.Dict.selfAndRest;refine wpAny_bind (wpAny_notOrdered_dict (hnew.typeIs (s:={s with heap:=h0})) ?_);show wpAny (model X.prog X.w) _ (pure (s.heap.objs.size,[Value.ref p])) _ _ _;refine wpAny_pure ?_;show wpAny (model X.prog X.w) _ (Builtin.Dict.updateFrom "dict.__init__" s.heap.objs.size (.ref p) [] .none) _ _ _;unfold Builtin.Dict.updateFrom;refine wpAny_bind (wpAny_typeOf (T:="list") ⟨_,k0 _ _ e,rfl⟩ ?_);rw[if_pos (by decide)];refine wpAny_bind (noKeys (s:={s with heap:=h0}) (k0 _ _ e) rfl rfl rfl (I.ok.hd hc) fun h1 tk k1=>?_);rw[if_pos (show(none:Option Value).isNone=true from rfl)];have k01:∀b o,s.heap.get? b=some o->h1.get? b=some o:=fun b o e=>k1 b o (k0 b o e)
 have dd1:h1.DictOf (mixKind X.prog X.w) s.heap.objs.size []:=hnew.keep k1;have ld:s.heap.objs.size<h1.objs.size:=by obtain⟨_,_,_,hg,_⟩:=dd1;exact Heap.lt_size hg
 have lp:p<h1.objs.size:=Nat.lt_trans hp ld;refine wpAny_bind (wpAny_rule ?_);refine wpAny_bind (wpAny_pyIter_list (l:=p) (items:=(as.map Value.ref).toArray) ⟨_,k01 _ _ e,rfl,n,rfl⟩ ?_);refine wpAny_pure ⟨plainId_quiet Z0 _,?_⟩;refine dul (knd:=mixKind X.prog X.w) (A:=X.A.in1) (d:=s.heap.objs.size) (it:=h1.objs.size) (l:=p) (items:=as.map Value.ref) (res:=.none) (I.ok.hd hc) (Nat.ne_of_lt ld) (Nat.ne_of_gt hp) (Nat.ne_of_gt lp) ps 0 [] _
  ⟨_,Heap.get?_push_size _ rfl,rfl,rfl⟩ ⟨_,Heap.get?_push_of_some _ (k01 _ _ e),rfl,n,rfl⟩ (by rw[length_map,hl,pl,Nat.zero_add]) (fun j kv ej=>?_) (dd1.push _) (by rw[length_nil,pl,<-hl,Nat.zero_add];exact z) fun h2 tk2 k2 dd2=>?_
 ·obtain⟨a,ky,b1,⟨o,b2,b3⟩,b4⟩:=pt j kv ej;have la:a<s.heap.objs.size:=Heap.lt_size b2;exact⟨a,ky,by rw[Nat.zero_add,List.getElem?_map,b1];rfl,⟨o,Heap.get?_push_of_some _ (k01 _ _ b2),b3⟩,b4,Nat.ne_of_lt la,Nat.ne_of_lt (Nat.lt_trans la ld)⟩
 ·refine⟨rfl,.ref s.heap.objs.size,upd H s.heap.objs.size (.dK (mergeK [] (kvs.map iiK))),I.laid (t':=tk2) (fun b o eb=>k2 b o (Nat.ne_of_lt (Heap.lt_size eb)) (Nat.ne_of_lt (Nat.lt_trans (Heap.lt_size eb) ld)) (Heap.get?_push_of_some _ (k01 _ _ eb))) (Nat.le_refl _) ?_,rfl,q _ (I.hok.fresh (Nat.le_refl _))⟩;have hm:=zD (kvs.map iiK) [];rw[length_nil,length_map]at hm;have hns:(s.heap.objs.size==sysModules)=false:=by
   rw[beq_eq_false_iff_ne];exact Nat.ne_of_gt I.big
  exact xf (by omega) hns (kp.merge .nil) dd2
end
theorem Xl{H:Hp}:∀(ks:List Int),DVs H (ks.map V.int) (ks.map PyData.int)
 | []=>.nil
 | k::r=>.cons (.int k) (Xl r)
theorem j21(ks:List Int):PyData.eqv (.list (ks.map PyData.int)) (.list [])=decide (ks=[]):=by
 cases ks<;>simp[PyData.eqv,PyData.eqvAll]
theorem j2X{X:Cx}(hu:X.A.units+64<cLine):OpR X (compareOp .In) (fun x y H Q=>∃(a l:Addr) (as:List Addr) (hs:List (List Int)),x = .ref a/\y = .ref l/\H a=some (.lst [])/\H l=some (.lst (as.map V.ref))/\as.length=hs.length/\
  (∀(i:Nat) (b:Addr) (ks:List Int),as[i]?=some b->hs[i]?=some ks->H b=some (.lst (ks.map V.int)))/\Q (.bl (hs.any fun ks=>decide (ks=[]))) H):=by
 intro pins s σ H x y v u Q I rx ry h;obtain⟨a,l,as,hs,rfl,rfl,ea,el,hl,hh,q⟩:=h;cases rx;cases ry;obtain⟨its,r,pl,hz⟩:=I.list (SqL.of el);have ei:=YC r;subst ei;obtain⟨ba,ra⟩:=zi I (DV.lst ea .nil) (show RelV (.ref a) (.ref a)from rfl)
 classical
 have rd:∀(i:Nat) (b:Addr) (ks:List Int),as[i]?=some b->hs[i]?=some ks->∃bb,Reads s.heap (.ref b) (.list (ks.map PyData.int)) bb:=fun i b ks e1 e2=>zi I (DV.lst (hh i b ks e1 e2) (Xl ks)) (show RelV (.ref b) (.ref b)from rfl)
 have fe:∀(i:Nat) (b:Addr) (ks:List Int),as[i]?=some b->hs[i]?=some ks->decide (∃bb,Reads s.heap (.ref b) (.list []) bb)=decide (ks=[]):=fun i b ks e1 e2=>by
  obtain⟨bb,rb⟩:=rd i b ks e1 e2;rw[decide_eq_decide];constructor
  ·rintro⟨cc,rc⟩;have e:=SeqAt.Reads.unique _ _ _ _ _ (show PyData.canLay0 (.list [])=true from rfl) rc rb;cases ks with
   | nil=>rfl
   | cons k r=>simp at e
  ·rintro rfl;exact⟨bb,rb⟩
 refine SeqAt.in_listAt (fun w=>decide (∃bb,Reads s.heap w (.list []) bb)) pl.isList (fun w hw=>?_) ⟨.bl _,H,I,rfl,?_⟩
 ·obtain⟨i,hi,e⟩:=mem_iff_getElem.mp (show w∈as.map Value.ref by simpa using hw);rw[getElem_map]at e;rw[length_map]at hi;subst e;have e1:as[i]?=some as[i]:=List.getElem?_eq_getElem hi;have e2:hs[i]?=some hs[i]:=List.getElem?_eq_getElem (by omega);obtain⟨bb,rb⟩:=rd i _ _ e1 e2;have z:=SeqAt.eqAt_reads _ _ X.A.in1 s _ _ _ _ rb ra (by show PyData.canLayAll0 _=true;exact ke_canLayAll0 _) rfl (by
   show X.A.in1.units+min (PyData.depthAll _+1) (0+1)<cLine;have h1:X.A.in1.units=X.A.units+1:=rfl;omega)
  rw[j21,<-fe i _ _ e1 e2]at z;exact z
 ·have e:(as.map Value.ref).toArray.any (fun w=>decide (∃bb,Reads s.heap w (.list []) bb))=hs.any fun ks=>decide (ks=[]):=by
   rw[List.any_toArray,List.any_map,Bool.eq_iff_iff,any_eq_true,any_eq_true];constructor
   ·rintro⟨b,hb,hw⟩;obtain⟨i,hi,rfl⟩:=mem_iff_getElem.mp hb;exact⟨hs[i],getElem_mem _,by rw[<-fe i _ _ (List.getElem?_eq_getElem hi) (List.getElem?_eq_getElem (by omega))];exact hw⟩
   ·rintro⟨ks,hk,hw⟩;obtain⟨i,hi,rfl⟩:=mem_iff_getElem.mp hk;refine⟨as[i],getElem_mem _,?_⟩;show decide _=true;rw[fe i _ _ (List.getElem?_eq_getElem (by omega)) (List.getElem?_eq_getElem hi)];exact hw
  rw[e];exact q
def Itv(K:Frg)(a:Addr)(n:Nat):It:=
 ⟨fun i H=>∃xs x,SqL K H a xs/\i<n/\xs[n-1-i]?=some x,fun i H x H'=>H'=H/\∀xs,SqL K H a xs->xs[n-1-i]?=some x,fun i _=>i=n⟩
theorem j1H{P:Program}{w:World}{K:Frg}{tg:Expr}(a it:Addr)(n:Nat):Turn P w K tg (Itv K a n) [it] it (fun i h=>h.IsRevIter it a ((n:Int)-1-(i:Nat))) where
 mem:=by simp
 obj:=fun i h st b hb=>by
  have e:b=it:=by simpa using hb
  subst e;obtain⟨o,e,c,d⟩:=st;exact⟨o,e,fun v z=>by rw[d]at z;cases z⟩
 keep:=fun i h h' st k=>st.at fun o e=>k it (by simp) o e
 item:=by
  intro X hP hw hK hc i pins s σ H E I hf st hg;subst hP hw hK;obtain⟨xs,x,hq,hlt,hx⟩:=hg;obtain⟨its,rv,p,hz⟩:=I.list hq;obtain⟨u,hu,ru⟩:=rv.get hx;obtain⟨f0,f1,f2,f3,f4,f5⟩:=hf it (by simp);have e:((n:Int)-1-(i:Nat))=((n-1-i:Nat):Int):=by omega
  rw[e]at st;refine wpAny_pyNext_rev_item st p.isList (x:=u) (by simpa using hu) fun h' st' sb=>?_
  have I1:Inv X pins σ H {s with heap:=h'}:=I.turned (t':=s.toks) (fun b o hb e=>(sb.2 b hb).trans e) f0 f1 f3 f4 f5;have e2:(((n-1-i:Nat):Int)-1)=((n:Int)-1-((i+1:Nat):Int)):=by omega
  rw[e2]at st';obtain⟨o,eo,c,d⟩:=id st';exact⟨u,rfl,Xn (s:={s with heap:=h'}) eo c d (by decide) ⟨x,H,I1,ru,⟨rfl,fun ys hy=>by rw[I.list_inj hy hq];exact hx⟩,st',fun b hb=>(hf b hb).1⟩⟩
 done:=by
  intro X hP hw hK hc i pins s σ H E I hf st hg;subst hP hw hK;have hg:i=n:=hg;subst hg;obtain⟨f0,f1,f2,f3,f4,f5⟩:=hf it (by simp);rw[show((i:Int)-1-(i:Nat)) = -1 by omega]at st;exact wpAny_pyNext_rev_end (I.ok.hd hc) st fun h' eb=>⟨rfl,I.turned (t':=s.toks) (fun b o hb e=>eb b o hb e) f0 f1 f3 f4 f5⟩
 self:=fun _ _ _ _ _ st h=>wpAny_pyIter_revIter st h
def iRev(K:Frg)(ta:TA):TI:=fun σ H R=>ta σ H fun vs H1=>∃a xs,vs=[.ref a]/\SqL K H1 a xs/\R (Itv K a xs.length) H1
theorem j35{X:Cx}{tg a:Expr}{ta:TA}{p pos:Pos}(hg:Gl X "reversed")(hm:X.mg "reversed"= none)(ha:PA X [a] ta)(hs:starEach [a] X.env=[(false,eval a X.env)]:=by rfl) :
  PI X tg (.Call (.Name "reversed" p) [a] [] pos) (iRev X.K ta):=by
 intro pins s σ H R I h;refine Call_ (Z9 I hg hm w6 (PyProof.Rows.callWith_type1 (thn (ha pos pins s σ H _ I h) fun us s1 ⟨vs,H1,I1,r1,q1⟩=>?_) hs rfl));obtain⟨b,xs,rfl,hq,q⟩:=q1;obtain⟨u,rfl,ru⟩:=vals1 r1;cases ru;obtain⟨its,rv,p,hz⟩:=I1.list hq;have hl:=rv.length;refine call_reversed_list p.isList ?_;have hit:(s1.heap.push (revObj b ((its.toArray.size:Int)-1))).IsRevIter s1.heap.objs.size b ((xs.length:Int)-1-((0:Nat):Int)):=⟨_,Heap.get?_push_size _ rfl,rfl,by rw[hl];simp[revObj]⟩
 refine wpAny_pyIter_revIter (s:={s1 with heap:=s1.heap.push (revObj b ((its.toArray.size:Int)-1))}) hit ?_;refine⟨s1.heap.objs.size,[s1.heap.objs.size],_,_,H1,rfl,I1.kept (t':=s1.toks) fun b o e=>Heap.get?_push_of_some _ e,j1H b _ xs.length,hit,fun c hc=>?_,q⟩;have e:c=s1.heap.objs.size:=by simpa using hc
 subst e;exact I1.fpOk (Nat.le_refl _) (I1.hok.fresh (Nat.le_refl _))
theorem j23{K:Frg}{a:Addr}{xs:List V}{g:TG}{tb:TS}{D:Ends}{σ:St}{H:Hp}(Pv:Nat->St->Hp->Prop)(h0:Pv 0 σ H)(hl:∀i σ H,i<=xs.length->Pv i σ H->SqL K H a xs)
  (hs:∀i x σ H,i<xs.length->xs[xs.length-1-i]?=some x->Pv i σ H->g x σ H fun σ2 H2=>tb {D with nx:=Pv (i+1),ct:=Pv (i+1),bk:=D.nx} σ2 H2) (hd:∀σ H,Pv xs.length σ H->D.nx σ H) :
  ∃W:Nat->Nat->St->Hp->Prop,(∃m,W 0 m σ H)/\∀i m σ H,W i m σ H->
   ((Itv K a xs.length).stop i H/\D.nx σ H)\/((Itv K a xs.length).go i H/\∃N:St->Hp->Prop,(∀σ' H',N σ' H'->∃m',m'<m/\W (i+1) m' σ' H')/\∀x H',(Itv K a xs.length).yld i H x H'->g x σ H' fun σ2 H2=>tb {D with nx:=N,ct:=N,bk:=D.nx} σ2 H2):=by
 refine⟨fun i m σ H=>m=xs.length-i/\i<=xs.length/\Pv i σ H,⟨xs.length,by simp,Nat.zero_le _,h0⟩,?_⟩;rintro i m σ H ⟨rfl,hi,p⟩;have q:=hl i σ H hi p;by_cases hlt:i<xs.length
 ·refine .inr ⟨⟨xs,xs[xs.length-1-i],q,hlt,List.getElem?_eq_getElem (by omega)⟩,Pv (i+1),fun σ' H' p'=>⟨xs.length-(i+1),by omega,rfl,hlt,p'⟩,fun x H' y=>?_⟩;obtain⟨e,y⟩:=y;subst e;exact hs i x σ _ hlt (y xs q) p
 ·have e:i=xs.length:=by omega
  subst e;exact .inl ⟨rfl,hd σ H p⟩
theorem rd_iRev{K:Frg}{ta:TA}{σ:St}{H:Hp}{R:It->Hp->Prop}(h:ta σ H fun vs H1=>∃a xs,vs=[.ref a]/\SqL K H1 a xs/\R (Itv K a xs.length) H1):iRev K ta σ H R:=h
section
variable{X:Cx}
def tTru(K:Frg)(ta:TE):TT:=fun σ H Q=>ta σ H fun x H'=>∃k,TruV K x H' k/\Q k H'
theorem xK{a:Expr}{ta:TE}(ha:PE X a ta)(he:∀whole,isTrue a X.env whole=(do let v <-whole;standAt a.pos;holding [v] (truthy v))):PT X a (tTru X.K ta):=j1j ha he
end
theorem rd_tru{K:Frg}{ta:TE}{σ:St}{H:Hp}{Q:Bool->Hp->Prop}(h:ta σ H fun x H'=>∃k,TruV K x H' k/\Q k H'):tTru K ta σ H Q:=h
theorem j0A{K:Frg}{a b:Addr}{xs zs:List V}{k:Nat}{ci:List Nat}{g:TG}{tf:TT}{te:TE}{σ:St}{H:Hp}{Z:Addr->List V->Hp->Prop}(Pv:Nat->List V->Hp->Prop)(hlen:xs.length=zs.length)(h0:Pv 0 [] H)(hl:∀i ys H,i<=xs.length->Pv i ys H->SqL K H a xs/\SqL K H b zs)
  (hs:∀i u v ys H T H',xs[i]?=some u->zs[i]?=some v->Pv i ys H->Same H H'->H' T=some (.tup [u,v])->g (.ref T) (capS k ci σ) H' fun σ2 H2=>tf σ2 H2 fun b H3=>if b=true then te σ2 H3 fun v H4=>ys.length<sizeLine/\Pv (i+1) (ys++[v]) H4 else Pv (i+1) ys H3)
  (hd:∀ys H,Pv xs.length ys H->ys.length<=sizeLine/\∀p,H p=none->Z p ys H) :
  ∃W:Nat->Nat->List V->Hp->Prop,(∃m,W 0 m [] H)/\∀i m ys H,W i m ys H->
   ((Itz K a b).stop i H/\ys.length<=sizeLine/\∀p,H p=none->Z p ys H)\/
   ((Itz K a b).go i H/\∃N:List V->Hp->Prop,(∀ys' H',N ys' H'->∃m',m'<m/\W (i+1) m' ys' H')/\∀x H',(Itz K a b).yld i H x H'->g x (capS k ci σ) H' fun σ2 H2=>tf σ2 H2 fun b H3=>
    if b=true then te σ2 H3 fun v H4=>ys.length<sizeLine/\N (ys++[v]) H4 else N ys H3):=by
 refine⟨fun i m ys H=>m=xs.length-i/\i<=xs.length/\Pv i ys H,⟨xs.length,by simp,Nat.zero_le _,h0⟩,?_⟩;rintro i m ys H ⟨rfl,hi,p⟩;obtain⟨q,q'⟩:=hl i ys H hi p;by_cases hlt:i<xs.length
 ·refine .inr ⟨⟨xs,xs[i],zs,zs[i],q,by simp[hlt],q',by simp⟩,Pv (i+1),fun ys' H' p'=>⟨xs.length-(i+1),by omega,rfl,hlt,p'⟩,fun x H' y=>?_⟩;obtain⟨T,u,v,rfl,hT,e,y,y'⟩:=y;exact hs i u v ys H T H' (y xs q) (y' zs q') p (fun b o h=>by rw[e,jg (je h hT)];exact h) (by rw[e];exact jx)
 ·have e:i=xs.length:=by omega
  subst e;exact .inl ⟨⟨xs,zs,q,q',.inl (Nat.le_refl _)⟩,hd ys H p⟩
section
variable{X:Cx}{e:Expr}{te:TE}
def tRevS(K:Frg)(te:TE)(ts:TO):TE:=fun σ H Q=>te σ H fun x H1=>ts σ H1 fun st H2=>st=some (-1)/\∃a xs,x = .ref a/\SqL K H2 a xs/\∀p,H2 p=none->Q (.ref p) (upd H2 p (.lst xs.reverse))
theorem j1M{xs:List V}{us:List Value}(h:Vals xs us):Vals xs.reverse us.reverse:=by
 induction h with
 | nil=>exact .nil
 | cons r _ ih=>rw[reverse_cons,reverse_cons];exact ih.append (.cons r .nil)
theorem j33{st:Expr}{ts:TO}{p2 pos:Pos}(he:PE X e te)(hs:PO X (some st) ts):PE X (.Subscript e (.Slice none none (some st) p2) pos) (tRevS X.K te ts):=by
 intro pins s σ H Q I h;refine Subscript_ (thn (he pins s σ H _ I h) fun v s1 ⟨x,H1,I1,r1,q1⟩=>?_);refine wpAny_Slice ?_;rw[evalPart_none];refine wpAny_pure ?_;refine wpAny_pure ?_;refine thn (hs pins s1 σ H1 _ I1 q1) fun vk s2 ⟨so,H2,I2,pk,est,a,xs,ex,hx,q⟩=>?_
 subst est ex;cases r1;have I3:Inv X pins σ H2 {s2 with heap:=s2.heap.push {cls:=.type "slice",data:=.fields #[.none,.none,vk]}}:=I2.kept (t':=s2.toks) fun b ob q=>Heap.get?_push_of_some _ q
 obtain⟨its,r,ht,hz⟩:=I3.list hx;have hlen:=r.length;show wpAny (model X.prog X.w) X.A (subscriptTail e (.Slice none none (some st) p2) (.ref a) (.ref s2.heap.objs.size)) (EP X pins σ Q) X.xe {s2 with heap:=s2.heap.push {cls:=.type "slice",data:=.fields #[.none,.none,vk]}};refine tail_any (ops:=[.ref a,.ref s2.heap.objs.size]) ht.isList.typeIs slot_list_getitem.lookup ?_ (by with_unfolding_all rfl);refine wpAny_getItem_list_slice ht.isList (Heap.IsSliceOf.new ..) .none .none pk (by decide) ?_ (by rw[size_toArray]<;>omega);rw[PySem.W.krv_pick];refine⟨.ref (s2.heap.push {cls:=.type "slice",data:=.fields #[.none,.none,vk]}).objs.size,_,I3.laid (t':=s2.toks) (o:=.lst xs.reverse) (fun b ob q=>Heap.get?_push_of_some _ q) (Nat.le_refl _) ?_,rfl,q _ (I3.hok.fresh (Nat.le_refl _))⟩;exact⟨by rw[List.length_reverse];exact hz,_,0,j1M r,Heap.get?_push_size _ rfl⟩
end
theorem rd_revS{K:Frg}{te:TE}{ts:TO}{σ:St}{H:Hp}{Q:VK}(h:te σ H fun x H1=>ts σ H1 fun st H2=>st=some (-1)/\∃a xs,x = .ref a/\SqL K H2 a xs/\∀p,H2 p=none->Q (.ref p) (upd H2 p (.lst xs.reverse))):tRevS K te ts σ H Q:=h
theorem j1n{K:Frg}{i j k:Nat}{a:Addr}{x y z:V}{σ:St}{H:Hp}{R:St->Hp->Prop}(e:SqT K H a [x,y,z])(h:gName i x σ H fun σ' H'=>gName j y σ' H' fun σ' H'=>gName k z σ' H' R):gTup K 3 (gCons (gName i) (gCons (gName j) (gCons (gName k) gNil))) (.ref a) σ H R:=
 ⟨a,[x,y,z],rfl,e,rfl,x,[y,z],rfl,y,[z],rfl,z,[],rfl,rfl,h⟩
theorem j1o{K:Frg}{i j k l:Nat}{a:Addr}{x y z w:V}{σ:St}{H:Hp}{R:St->Hp->Prop}(e:SqT K H a [x,y,z,w])(h:gName i x σ H fun σ' H'=>gName j y σ' H' fun σ' H'=>gName k z σ' H' fun σ' H'=>gName l w σ' H' R):gTup K 4 (gCons (gName i) (gCons (gName j) (gCons (gName k) (gCons (gName l) gNil)))) (.ref a) σ H R:=
 ⟨a,[x,y,z,w],rfl,e,rfl,x,[y,z,w],rfl,y,[z,w],rfl,z,[w],rfl,w,[],rfl,rfl,h⟩
section
variable{prog:Program}{w:World}{A:Around}{E:Value->Shared->Prop}{s:Shared}
end
section
variable{X:Cx}{tg:Expr}
end
section
variable{X:Cx}
theorem j07:MtR X "list.index" (fun x vs H Q=>∃(p:Addr) (xs:List V) (y z:V) (j:Nat),x = .ref p/\vs=[y]/\SqL X.K H p xs/\flatV y=true/\xs.all flatV=true/\xs[j]?=some z/\eqV z y=true/\(∀(m:Nat) (z':V),m<j->xs[m]?=some z'->eqV z' y=false)/\Q (.int j) H):=by
 intro pins s σ H x vs v us Q I rx rv h;obtain⟨p,xs,y,z,j,rfl,rfl,hx,fy,fx,hj,ez,hno,q⟩:=h;cases rx;obtain⟨u,rfl,ru⟩:=vals1 rv;obtain⟨its,r,pl,hz⟩:=I.list hx;have lx:=r.length;have jl:=(List.getElem?_eq_some_iff.mp hj).1;obtain⟨w',hw,rw'⟩:=r.get hj;have fz:flatV z=true:=all_eq_true.mp fx z (List.mem_of_getElem? hj);obtain⟨⟨cls,dd,data,sl⟩,ho,hc,n,hd⟩:=id pl.isList;simp only at hc hd;subst hc hd;have hj':j<its.toArray.size:=by rw[size_toArray];omega
 have sl62:sizeLine<2^62:=by decide
 have j62:(j:Int)<2^63-1:=by omega
 refine call_meets F.slot_list_index pl.isList.typeIs F.entry_list_index (F.args_list_index_2 _ _) (SeqAt.list_indexAt p its.toArray n dd sl u (eqU y) j hj' j62 ?_ ?_) ⟨ho,fun y' hy'=>zO ru fy r fx y' (by simpa using hy'),⟨.int j,H,I.tok _,⟨_,rfl⟩,q⟩⟩
 ·have e:its.toArray[j]=w':=by
   have:=List.getElem?_eq_some_iff.mp hw;obtain⟨h,e⟩:=this;simpa using e
  rw[e,K0 rw' fz];exact ez
 ·intro m hm hmj;have hm':m<its.length:=by rw[size_toArray]at hm;exact hm
  obtain⟨z',hz'⟩:∃z',xs[m]?=some z':=⟨_,List.getElem?_eq_getElem (by omega)⟩
  obtain⟨w2,hw2,rw2⟩:=r.get hz';have e:its.toArray[m]=w2:=by
   obtain⟨h,e⟩:=List.getElem?_eq_some_iff.mp hw2;simpa using e
  rw[e,K0 rw2 (all_eq_true.mp fx z' (List.mem_of_getElem? hz'))];exact hno m z' hmj hz'
end
section
variable{prog:Program}{w:World}{A:Around}{E:Value->Shared->Prop}{s:Shared}
end
section
variable{X:Cx}{pos:Pos}
end
section
variable{σ:St}{H:Hp}{D:Ends}{Q:VK}{ta tb te:TE}
theorem rd_seq{t u:TS}(h:t {D with nx:=u D} σ H):tSeq t u D σ H:=h
theorem rd_asg{g:TG}(h:te σ H fun x H1=>g x σ H1 D.nx):tAsg te g D σ H:=h
theorem rd_v0{v:V}{r:St}(h:Q v H):tVar 0 (some v::r) H Q:=⟨v,rfl,h⟩
theorem rd_n0{a0:Option V}{v:V}{r:St}{R:St->Hp->Prop}(h:R (some v::r) H):gName 0 v (a0::r) H R:=h
theorem rd_v1{a0:Option V}{v:V}{r:St}(h:Q v H):tVar 1 (a0::some v::r) H Q:=⟨v,rfl,h⟩
theorem rd_n1{a0 a1:Option V}{v:V}{r:St}{R:St->Hp->Prop}(h:R (a0::some v::r) H):gName 1 v (a0::a1::r) H R:=h
theorem rd_v2{a0 a1:Option V}{v:V}{r:St}(h:Q v H):tVar 2 (a0::a1::some v::r) H Q:=⟨v,rfl,h⟩
theorem rd_n2{a0 a1 a2:Option V}{v:V}{r:St}{R:St->Hp->Prop}(h:R (a0::a1::some v::r) H):gName 2 v (a0::a1::a2::r) H R:=h
theorem rd_v3{a0 a1 a2:Option V}{v:V}{r:St}(h:Q v H):tVar 3 (a0::a1::a2::some v::r) H Q:=⟨v,rfl,h⟩
theorem rd_n3{a0 a1 a2 a3:Option V}{v:V}{r:St}{R:St->Hp->Prop}(h:R (a0::a1::a2::some v::r) H):gName 3 v (a0::a1::a2::a3::r) H R:=h
theorem rd_v4{a0 a1 a2 a3:Option V}{v:V}{r:St}(h:Q v H):tVar 4 (a0::a1::a2::a3::some v::r) H Q:=⟨v,rfl,h⟩
theorem rd_n4{a0 a1 a2 a3 a4:Option V}{v:V}{r:St}{R:St->Hp->Prop}(h:R (a0::a1::a2::a3::some v::r) H):gName 4 v (a0::a1::a2::a3::a4::r) H R:=h
theorem rd_v5{a0 a1 a2 a3 a4:Option V}{v:V}{r:St}(h:Q v H):tVar 5 (a0::a1::a2::a3::a4::some v::r) H Q:=⟨v,rfl,h⟩
theorem rd_n5{a0 a1 a2 a3 a4 a5:Option V}{v:V}{r:St}{R:St->Hp->Prop}(h:R (a0::a1::a2::a3::a4::some v::r) H):gName 5 v (a0::a1::a2::a3::a4::a5::r) H R:=h
theorem rd_v6{a0 a1 a2 a3 a4 a5:Option V}{v:V}{r:St}(h:Q v H):tVar 6 (a0::a1::a2::a3::a4::a5::some v::r) H Q:=⟨v,rfl,h⟩
theorem rd_n6{a0 a1 a2 a3 a4 a5 a6:Option V}{v:V}{r:St}{R:St->Hp->Prop}(h:R (a0::a1::a2::a3::a4::a5::some v::r) H):gName 6 v (a0::a1::a2::a3::a4::a5::a6::r) H R:=h
theorem rd_v7{a0 a1 a2 a3 a4 a5 a6:Option V}{v:V}{r:St}(h:Q v H):tVar 7 (a0::a1::a2::a3::a4::a5::a6::some v::r) H Q:=⟨v,rfl,h⟩
theorem rd_n7{a0 a1 a2 a3 a4 a5 a6 a7:Option V}{v:V}{r:St}{R:St->Hp->Prop}(h:R (a0::a1::a2::a3::a4::a5::a6::some v::r) H):gName 7 v (a0::a1::a2::a3::a4::a5::a6::a7::r) H R:=h
theorem rd_v8{a0 a1 a2 a3 a4 a5 a6 a7:Option V}{v:V}{r:St}(h:Q v H):tVar 8 (a0::a1::a2::a3::a4::a5::a6::a7::some v::r) H Q:=⟨v,rfl,h⟩
theorem rd_n8{a0 a1 a2 a3 a4 a5 a6 a7 a8:Option V}{v:V}{r:St}{R:St->Hp->Prop}(h:R (a0::a1::a2::a3::a4::a5::a6::a7::some v::r) H):gName 8 v (a0::a1::a2::a3::a4::a5::a6::a7::a8::r) H R:=h
theorem rd_v9{a0 a1 a2 a3 a4 a5 a6 a7 a8:Option V}{v:V}{r:St}(h:Q v H):tVar 9 (a0::a1::a2::a3::a4::a5::a6::a7::a8::some v::r) H Q:=⟨v,rfl,h⟩
theorem rd_n9{a0 a1 a2 a3 a4 a5 a6 a7 a8 a9:Option V}{v:V}{r:St}{R:St->Hp->Prop}(h:R (a0::a1::a2::a3::a4::a5::a6::a7::a8::some v::r) H):gName 9 v (a0::a1::a2::a3::a4::a5::a6::a7::a8::a9::r) H R:=h
theorem rd_v10{a0 a1 a2 a3 a4 a5 a6 a7 a8 a9:Option V}{v:V}{r:St}(h:Q v H):tVar 10 (a0::a1::a2::a3::a4::a5::a6::a7::a8::a9::some v::r) H Q:=⟨v,rfl,h⟩
theorem rd_n10{a0 a1 a2 a3 a4 a5 a6 a7 a8 a9 a10:Option V}{v:V}{r:St}{R:St->Hp->Prop}(h:R (a0::a1::a2::a3::a4::a5::a6::a7::a8::a9::some v::r) H):gName 10 v (a0::a1::a2::a3::a4::a5::a6::a7::a8::a9::a10::r) H R:=h
theorem rd_v11{a0 a1 a2 a3 a4 a5 a6 a7 a8 a9 a10:Option V}{v:V}{r:St}(h:Q v H):tVar 11 (a0::a1::a2::a3::a4::a5::a6::a7::a8::a9::a10::some v::r) H Q:=⟨v,rfl,h⟩
theorem rd_n11{a0 a1 a2 a3 a4 a5 a6 a7 a8 a9 a10 a11:Option V}{v:V}{r:St}{R:St->Hp->Prop}(h:R (a0::a1::a2::a3::a4::a5::a6::a7::a8::a9::a10::some v::r) H):gName 11 v (a0::a1::a2::a3::a4::a5::a6::a7::a8::a9::a10::a11::r) H R:=h
theorem rd_v12{a0 a1 a2 a3 a4 a5 a6 a7 a8 a9 a10 a11:Option V}{v:V}{r:St}(h:Q v H):tVar 12 (a0::a1::a2::a3::a4::a5::a6::a7::a8::a9::a10::a11::some v::r) H Q:=⟨v,rfl,h⟩
theorem rd_n12{a0 a1 a2 a3 a4 a5 a6 a7 a8 a9 a10 a11 a12:Option V}{v:V}{r:St}{R:St->Hp->Prop}(h:R (a0::a1::a2::a3::a4::a5::a6::a7::a8::a9::a10::a11::some v::r) H):gName 12 v (a0::a1::a2::a3::a4::a5::a6::a7::a8::a9::a10::a11::a12::r) H R:=h
theorem rd_v13{a0 a1 a2 a3 a4 a5 a6 a7 a8 a9 a10 a11 a12:Option V}{v:V}{r:St}(h:Q v H):tVar 13 (a0::a1::a2::a3::a4::a5::a6::a7::a8::a9::a10::a11::a12::some v::r) H Q:=⟨v,rfl,h⟩
theorem rd_n13{a0 a1 a2 a3 a4 a5 a6 a7 a8 a9 a10 a11 a12 a13:Option V}{v:V}{r:St}{R:St->Hp->Prop}(h:R (a0::a1::a2::a3::a4::a5::a6::a7::a8::a9::a10::a11::a12::some v::r) H):gName 13 v (a0::a1::a2::a3::a4::a5::a6::a7::a8::a9::a10::a11::a12::a13::r) H R:=h
theorem rd_v14{a0 a1 a2 a3 a4 a5 a6 a7 a8 a9 a10 a11 a12 a13:Option V}{v:V}{r:St}(h:Q v H):tVar 14 (a0::a1::a2::a3::a4::a5::a6::a7::a8::a9::a10::a11::a12::a13::some v::r) H Q:=⟨v,rfl,h⟩
theorem rd_n14{a0 a1 a2 a3 a4 a5 a6 a7 a8 a9 a10 a11 a12 a13 a14:Option V}{v:V}{r:St}{R:St->Hp->Prop}(h:R (a0::a1::a2::a3::a4::a5::a6::a7::a8::a9::a10::a11::a12::a13::some v::r) H):gName 14 v (a0::a1::a2::a3::a4::a5::a6::a7::a8::a9::a10::a11::a12::a13::a14::r) H R:=h
theorem rd_v15{a0 a1 a2 a3 a4 a5 a6 a7 a8 a9 a10 a11 a12 a13 a14:Option V}{v:V}{r:St}(h:Q v H):tVar 15 (a0::a1::a2::a3::a4::a5::a6::a7::a8::a9::a10::a11::a12::a13::a14::some v::r) H Q:=⟨v,rfl,h⟩
theorem rd_n15{a0 a1 a2 a3 a4 a5 a6 a7 a8 a9 a10 a11 a12 a13 a14 a15:Option V}{v:V}{r:St}{R:St->Hp->Prop}(h:R (a0::a1::a2::a3::a4::a5::a6::a7::a8::a9::a10::a11::a12::a13::a14::some v::r) H):gName 15 v (a0::a1::a2::a3::a4::a5::a6::a7::a8::a9::a10::a11::a12::a13::a14::a15::r) H R:=h
theorem rd_v16{a0 a1 a2 a3 a4 a5 a6 a7 a8 a9 a10 a11 a12 a13 a14 a15:Option V}{v:V}{r:St}(h:Q v H):tVar 16 (a0::a1::a2::a3::a4::a5::a6::a7::a8::a9::a10::a11::a12::a13::a14::a15::some v::r) H Q:=⟨v,rfl,h⟩
theorem rd_n16{a0 a1 a2 a3 a4 a5 a6 a7 a8 a9 a10 a11 a12 a13 a14 a15 a16:Option V}{v:V}{r:St}{R:St->Hp->Prop}(h:R (a0::a1::a2::a3::a4::a5::a6::a7::a8::a9::a10::a11::a12::a13::a14::a15::some v::r) H):gName 16 v (a0::a1::a2::a3::a4::a5::a6::a7::a8::a9::a10::a11::a12::a13::a14::a15::a16::r) H R:=h
theorem rd_const{v:V}(h:Q v H):tC v σ H Q:=h
theorem rd_op{r:R2}(h:ta σ H fun x H1=>tb σ H1 fun y H2=>r x y H2 Q):tOp r ta tb σ H Q:=h
theorem rd_un{r:V->Hp->VK->Prop}(h:ta σ H fun x H1=>r x H1 Q):tUn r ta σ H Q:=h
theorem rd_i0{g:Int->Int->V}{i j:Int}(h:Q (g i j) H):rI0 g (.int i) (.int j) H Q:=⟨i,j,rfl,rfl,h⟩
theorem j3p{C:Int->Int->Prop}{g:Int->Int->V}{i j:Int}(c:C i j)(h:Q (g i j) H):rI C g (.int i) (.int j) H Q:=⟨i,j,rfl,rfl,c,h⟩
theorem rd_u{g:Int->V}{i:Int}(h:Q (g i) H):rU g (.int i) H Q:=⟨i,rfl,h⟩
theorem rd_eqI{i j:Int}(h:Q (.bl (decide (i=j))) H):rEq (.int i) (.int j) H Q:=by
 refine⟨rfl,?_⟩;rw[show decide (V.int i=V.int j)=decide (i=j) by simp];exact h
theorem rd_neI{i j:Int}(h:Q (.bl (!decide (i=j))) H):rNe (.int i) (.int j) H Q:=by
 refine⟨rfl,?_⟩;rw[show decide (V.int i=V.int j)=decide (i=j) by simp];exact h
theorem rd_eqS{i j:Str}(h:Q (.bl (decide (i=j))) H):rEq (.str i) (.str j) H Q:=by
 refine⟨rfl,?_⟩;rw[show decide (V.str i=V.str j)=decide (i=j) by simp];exact h
theorem rd_if{c:TT}{t u:TS}(h:c σ H fun b H1=>if b=true then t D σ H1 else u D σ H1):tIfS c t u D σ H:=h
theorem rd_test{R:Bool->Hp->Prop}(h:te σ H fun x H'=>∃k,x = .bl k/\R k H'):tTest te σ H R:=h
theorem rd_tB{R:Bool->Hp->Prop}(h:te σ H fun x H'=>∃k,x = .bl k/\R k H'):tB te σ H R:=h
theorem rd_blP{k:Bool}{R:Bool->Prop}(h:R k):∃k',V.bl k = .bl k'/\R k':=⟨k,rfl,h⟩
theorem rd_not{t:TT}{R:Bool->Hp->Prop}(h:t σ H fun c H1=>R (!c) H1):tNot t σ H R:=h
theorem rd_and{t u:TT}{R:Bool->Hp->Prop}(h:t σ H fun c H1=>if c=true then u σ H1 R else R false H1):tAnd t u σ H R:=h
theorem rd_or{t u:TT}{R:Bool->Hp->Prop}(h:t σ H fun c H1=>if c=true then R true H1 else u σ H1 R):tOr t u σ H R:=h
theorem rd_andV(h:ta σ H fun x H1=>∃c,x = .bl c/\if c=true then tb σ H1 Q else Q (.bl false) H1):tAndV ta tb σ H Q:=h
theorem rd_notV(h:ta σ H fun x H1=>∃c,x = .bl c/\Q (.bl (!c)) H1):tNotV ta σ H Q:=h
theorem rd_ifE{t:TT}(h:t σ H fun c H1=>if c=true then ta σ H1 Q else tb σ H1 Q):tIf t ta tb σ H Q:=h
theorem rd_ret(h:te σ H D.rt):tRet te D σ H:=h
theorem rd_next(h:D.nx σ H):tNext D σ H:=h
theorem rd_drop(h:te σ H fun _ H1=>D.nx σ H1):tDrop te D σ H:=h
theorem rd_cb{r:List V->Hp->VK->Prop}{t:TA}(h:t σ H fun vs H1=>r vs H1 Q):tCB r t σ H Q:=h
theorem rd_call{sp:Sp}{dvs:List V}{E:XK}{t:TA}(h:t σ H fun vs H1=>sp (vs++dvs) H1 Q E):tCall sp dvs E t σ H Q:=h
theorem rd_fld{K:Frg}{f:Str}(h:ta σ H fun x H1=>∃a C dx fs v,x = .ref a/\H1 a=some (.ins C dx fs)/\Cls K C/\NoAttr K C f/\fs.lookup f=some v/\Q v H1):tFld K ta f σ H Q:=h
theorem rd_sfld{K:Frg}{f:Str}(h:tb σ H fun y H1=>ta σ H1 fun x H2=>∃a C dx fs,x = .ref a/\H2 a=some (.ins C dx fs)/\Cls K C/\NoAttr K C f/\fs.length<1000/\D.nx σ (upd H2 a (.ins C dx (putF f y fs)))):sFld K ta tb f D σ H:=h
theorem rd_meth{C:Addr}{m:Str}{sp:Sp}{dvs:List V}{E:XK}{t:TA}(h:ta σ H fun x H1=>∃a dx fs,x = .ref a/\H1 a=some (.ins C dx fs)/\fs.lookup m=none/\t σ H1 fun vs H2=>sp (x::(vs++dvs)) H2 Q E):tMeth C m sp dvs E ta t σ H Q:=h
theorem rd_make{C:Addr}{sp:Sp}{dvs:List V}{E:XK}{t:TA}(h:t σ H fun vs H1=>∀x dx,H1 x=none->H1 dx=none->dx≠x->sp (.ref x::(vs++dvs)) (upd (upd H1 dx (.own x)) x (.ins C dx [])) (fun v H2=>v = .non/\Q (.ref x) H2) E):tMake C sp dvs E t σ H Q:=h
theorem rd_nil{R:List V->Hp->Prop}(h:R [] H):tNil σ H R:=h
theorem rd_cons{tr:TA}{R:List V->Hp->Prop}(h:ta σ H fun x H1=>tr σ H1 fun xs H2=>R (x::xs) H2):tCons ta tr σ H R:=h
theorem rd_lst{t:TA}(h:t σ H fun xs H1=>xs.length<=sizeLine/\∀p,H1 p=none->Q (.ref p) (upd H1 p (.lst xs))):tLst t σ H Q:=h
theorem rd_tup{t:TA}(h:t σ H fun xs H1=>xs.length<=sizeLine/\∀p,H1 p=none->Q (.ref p) (upd H1 p (.tup xs))):tTup t σ H Q:=h
theorem rd_chain{r r':R2}{tc:TE}(h:ta σ H fun x H1=>tb σ H1 fun y H2=>r x y H2 fun z H3=>∃k,z = .bl k/\(if k=true then tc σ H3 fun w' H4=>r' y w' H4 Q else Q (.bl false) H3)):tChain r r' ta tb tc σ H Q:=h
theorem rd_bm{K:Frg}{T:String}{r:V->List V->Hp->VK->Prop}{t:TA}(h:te σ H fun x H1=>tyV K T x H1/\t σ H1 fun xs H2=>r x xs H2 Q):tBM K T r te t σ H Q:=h
theorem rd_sl{r:V->Option Int->Option Int->Hp->VK->Prop}{tl th:TO}(h:te σ H fun x H1=>tl σ H1 fun l H2=>th σ H2 fun u H3=>r x l u H3 Q):tSl r te tl th σ H Q:=h
theorem rd_nopart{R:Option Int->Hp->Prop}(h:R none H):tNoPart σ H R:=h
theorem rd_part{R:Option Int->Hp->Prop}(h:te σ H fun x H1=>∃i,x = .int i/\R (some i) H1):tPart te σ H R:=h
theorem rd_int{i:Int}{R:Int->Prop}(h:R i):∃i',V.int i = .int i'/\R i':=⟨i,rfl,h⟩
theorem iteD{p A B:Prop}[Decidable p](h1:p->A)(h2:¬p->B):if decide p=true then A else B:=by
 by_cases h:p
 ·rw[if_pos (decide_eq_true h)];exact h1 h
 ·rw[if_neg (by simpa using h)];exact h2 h
theorem iteN{p A B:Prop}[Decidable p](h1:¬p->A)(h2:p->B):if(!decide p)=true then A else B:=by
 by_cases h:p
 ·rw[if_neg (by simpa using h)];exact h2 h
 ·rw[if_pos (by simpa using h)];exact h1 h
theorem rd_rng1{ta:TA}{R:It->Hp->Prop}(h:ta σ H fun vs H1=>∃j:Int,vs=[.int j]/\-(2^62)<=j/\j<2^62/\R (Itr 0 j.toNat) H1):iRng1 ta σ H R:=h
theorem rd_iList{K:Frg}{R:It->Hp->Prop}(h:te σ H fun x H1=>∃a,x = .ref a/\(∃xs,SqL K H1 a xs)/\R (Itl K a) H1):iList K te σ H R:=h
theorem rd_p18(h:Q (.int (10^18)) H):rI CPow (fun i j=>.int (i^j.toNat)) (.int 10) (.int 18) H Q:=⟨10,18,rfl,rfl,⟨by decide,by decide,by decide⟩,h⟩
theorem rd_p30(h:Q (.int (10^30)) H):rI CPow (fun i j=>.int (i^j.toNat)) (.int 10) (.int 30) H Q:=⟨10,30,rfl,rfl,⟨by decide,by decide,by decide⟩,h⟩
theorem rd_p60(h:Q (.int (10^60)) H):rI CPow (fun i j=>.int (i^j.toNat)) (.int 10) (.int 60) H Q:=⟨10,60,rfl,rfl,⟨by decide,by decide,by decide⟩,h⟩
theorem rd_aug{i:Nat}{ti:TIp}(h:tVar i σ H fun x H0=>te σ H0 fun y H1=>ti x y H1 fun z H2=>gName i z σ H2 D.nx):tAug i te ti D σ H:=h
theorem rd_ipI{f:Int->Int->Int}{i j:Int}(h:Q (.int (f i j)) H):ipI f (.int i) (.int j) H Q:=⟨i,j,rfl,rfl,h⟩
theorem rd_for{wi:TI}{g:TG}{tb:TS} (h:wi σ H fun J H1=>∃W:Nat->Nat->St->Hp->Prop,(∃m,W 0 m σ H1)/\∀i m σ H,W i m σ H->
 (J.stop i H/\D.nx σ H)\/(J.go i H/\∃N:St->Hp->Prop,(∀σ' H',N σ' H'->∃m',m'<m/\W (i+1) m' σ' H')/\∀x H',J.yld i H x H'->g x σ H' fun σ2 H2=>tb {D with nx:=N,ct:=N,bk:=D.nx} σ2 H2)):tFor wi g tb D σ H:=h
theorem rd_comp{wi:TI}{n:Nat}{ci:List Nat}{g:TG}{tf:TT} (h:wi σ H fun J H1=>∃W:Nat->Nat->List V->Hp->Prop,(∃m,W 0 m [] H1)/\∀i m ys H,W i m ys H->
 (J.stop i H/\ys.length<=sizeLine/\∀p,H p=none->Q (.ref p) (upd H p (.lst ys)))\/
 (J.go i H/\∃N:List V->Hp->Prop,(∀ys' H',N ys' H'->∃m',m'<m/\W (i+1) m' ys' H')/\∀x H',J.yld i H x H'->g x (capS n ci σ) H' fun σ2 H2=>tf σ2 H2 fun b H3=>
  if b=true then te σ2 H3 fun v H4=>ys.length<sizeLine/\N (ys++[v]) H4 else N ys H3)):tComp wi n ci g tf te σ H Q:=h
theorem rd_yes{R:Bool->Hp->Prop}(h:R true H):tYes σ H R:=h
theorem Ql{n:Nat}{ci:List Nat}{g:TG}{x:V}{σ':St}{R:St->Hp->Prop}(e:capS n ci σ=σ')(h:g x σ' H R):g x (capS n ci σ) H R:=by rw[e];exact h
theorem jz{t:TS}{σ':St}(e:σ=σ')(h:t D σ' H):t D σ H:=by subst e;exact h
theorem XH{H H':Hp}{p:Addr}{o:HO}(h:H p=none)(e:upd H p o=H'):Same H H':=fun b u q=>by rw[<-e,jg (je q h)];exact q
theorem qd{H H':Hp}{p:Addr}{o:HO}(e:upd H p o=H'):H' p=some o:=by rw[<-e];exact jx
end
theorem ixLm{K:Frg}{p:Addr}{xs:List V}{i:Int}{v:V}{H:Hp}{Q:VK}(h:SqL K H p xs)(e:atI xs i=some v)(q:Q v H):rIxL K (.ref p) (.int i) H Q:=⟨p,xs,i,v,rfl,rfl,h,e,q⟩
theorem ixTm{K:Frg}{p:Addr}{xs:List V}{i:Int}{v:V}{H:Hp}{Q:VK}(h:SqT K H p xs)(e:atI xs i=some v)(q:Q v H):rIxT K (.ref p) (.int i) H Q:=⟨p,xs,i,v,rfl,rfl,h,e,q⟩
end L2
local macro_rules | `(tactic| walk_at "side") => `(tactic| first | with_reducible assumption | exact L2.cdivB (by omega) (by omega) | exact L2.mulOk (by omega) (by omega) (by omega) (by omega) | exact L2.mulOkC (by first | assumption | exact L2.bits_ediv (by assumption) _) (by omega) (by omega) | omega)
local macro_rules | `(tactic| walk_at $s:str) => do
 let ws:=s.getString.splitOn " "
 if ws.head?==some "f" then
  let vs:=if ws.length==3 then["p"++ws.getD 1 "","hp"++ws.getD 1 "","H"++ws.getD 1 "","s"++ws.getD 1 "",ws.getD 2 ""++ws.getD 1 ""]else ws.drop 1
  let i:=fun(k:Nat)=>Lean.mkIdent (Lean.Name.mkSimple (vs.getD k ""))
  return <-`(tactic| (intro $(i 0):ident $(i 1):ident;generalize eH:L2.upd _ $(i 0) _ = $(i 2):ident;have $(i 3):ident:=L2.XH $(i 1) eH;have $(i 4):ident:=L2.qd eH;clear eH))
 let ns:=match s.getString with | "goA"=>"rd_seq rd_asg rd_op rd_const rd_i0 rd_cons rd_nil rd_call rd_ret rd_if rd_test rd_tB rd_blP rd_not rd_next" | "goB"=>"rd_un rd_u rd_and rd_or rd_andV rd_notV rd_ifE rd_drop rd_cb rd_lst rd_tup rd_chain rd_bm rd_sl rd_nopart rd_part rd_eqI rd_neI rd_eqS rd_str rd_int rd_rng1 rd_iList rd_ipI rd_aug rd_for rd_comp rd_yes rd_dget rd_iTup rd_sub rd_iEnum rd_iZip rd_dnew rd_dput rd_bm0 rd_iRev rd_tru rd_revS rd_fld rd_sfld rd_meth rd_make" | "goP"=>"rd_p18 rd_p30 rd_p60" | "goV"=>"rd_v0 rd_v1 rd_v2 rd_v3 rd_v4 rd_v5 rd_v6 rd_v7 rd_v8 rd_v9 rd_v10 rd_v11 rd_v12 rd_v13 rd_v14 rd_v15 rd_v16" | "goN"=>"rd_n0 rd_n1 rd_n2 rd_n3 rd_n4 rd_n5 rd_n6 rd_n7 rd_n8 rd_n9 rd_n10 rd_n11 rd_n12 rd_n13 rd_n14 rd_n15 rd_n16" | _=>""
 if ns == "" then Lean.Macro.throwUnsupported
 let as <-(ns.splitOn " ").toArray.mapM fun n=>`(Lean.Parser.Tactic.tacticSeq| refine $(Lean.mkIdent (Lean.Name.mkStr2 "L2" n)) ?_)
 `(tactic| with_reducible (first $[| $as]*))
local macro_rules | `(tactic| walk_at "go1") => `(tactic| first | walk_at "goA" | walk_at "goV" | walk_at "goB" | walk_at "goN" | walk_at "goP" | (with_reducible refine L2.j3p ?c ?_; (case c => ((try dsimp only); walk_at "side"))))
local macro_rules | `(tactic| walk_at "g") => `(tactic| repeat walk_at "go1")
local macro_rules | `(tactic| exists $e) => `(tactic| (walk_at "g"; refine $e))
namespace Fs
end Fs
namespace Rp
end Rp
namespace Rp
end Rp
namespace Pr
open PySem L2
noncomputable def cell(ns:List Int)(k:Int):Int:=ns.getD k.toNat 0
inductive sp_cell_at(K:Frg)(vs:List V)(H:Hp)(Q:VK)(xk:XK):Prop
 | mk (a:Addr) (ns:List Int) (k:Int) (_:vs=[.ref a,.int k]) (_:SqL K H a (ns.map V.int)) (_:ns.length<=63) (_:0<=k) (_:Q (.int (cell ns k)) H):sp_cell_at K vs H Q xk
def WN:Sp:=fun vs H Q _=>∃i,vs=[.int i]/\Q (.bl true) H
theorem j1V{ns:List Int}{k:Int}(h0:0<=k)(h:k<(ns.length:Int)):atI (ns.map V.int) k=some (.int (cell ns k)):=by
 have ek:k=((k.toNat:Nat):Int):=by omega
 have hk:k.toNat<ns.length:=by omega
 have q:atI (ns.map V.int) ((k.toNat:Nat):Int)=some (.int ns[k.toNat]):=jY (by rw[List.getElem?_map,List.getElem?_eq_getElem hk]<;>rfl);rw[<-ek]at q;rw[q];unfold cell;rw[getD_eq_getElem?_getD,List.getElem?_eq_getElem hk];rfl
end Pr
namespace Pr
open PySem L2
inductive sp_law(K:Frg)(vs:List V)(H:Hp)(Q:VK)(xk:XK):Prop
 | mk (a:Addr) (ns:List Int) (_:vs=[.ref a]) (_:SqL K H a (ns.map V.int)) (_:ns.length<=63) (_:(∀x∈ns,Builtin.Int.intBits x<=1048576)) (_:∀H',Q (.bl true) H'):sp_law K vs H Q xk
end Pr
namespace Pr
open PySem L2
end Pr
namespace Pr
open PySem L2
end Pr
namespace Pr
open PySem L2
end Pr
namespace Pr
open PySem L2
end Pr
namespace Pr
open PySem L2
end Pr
namespace Pr
open PySem L2
end Pr
namespace Ws
open PySem PySem.NumText L2
noncomputable def lets:Str:="abcdefghijklmnopqrstuvwxyz"
noncomputable def among(x z:Str):Bool:=decide (∀c∈x.cps.toList,c∈z.cps.toList)
noncomputable def isW(x:Str):Bool:=decide (1<=x.length/\x.length<=8)&&among x lets
end Ws
namespace Ws
open PySem PySem.NumText L2
end Ws
namespace Ws
open PySem L2
end Ws
namespace Rm
open PySem PySem.NumText PyProof.Rows L2
theorem j20{x:Str}{lo hi:Option Int}:(Txt.slice x lo hi).length<=x.length:=Txt.slice_le x lo hi
theorem j10{c:Nat}:c∈Ws.lets.cps.toList↔97<=c/\c<=122:=by
 rw[show Ws.lets.cps.toList=List.range' 97 26 by decide +kernel,List.mem_range'_1];omega
open PySem L2
theorem none_of{H H':Hp}{p:Addr}(s:Same H H')(h:H' p=none):H p=none:=by
 cases e:H p with
 | none=>rfl
 | some u=>rw[s _ _ e]at h;cases h
inductive Fm where
 | hold (n:Int) | ring (x:Str) (n:Int) | rise (x:Str) (h n:Int) | row (ps:List Str) | side (ps:List Str) | again (k:Int) (x:Str)
noncomputable def FormAt(H:Hp)(a:Addr):Fm->Prop
 | .hold n=>H a=some (.tup [.str "hold",.int n])
 | .ring x n=>H a=some (.tup [.str "ring",.str x,.int n])
 | .rise x h n=>H a=some (.tup [.str "raise",.str x,.int h,.int n])
 | .row ps=>∃b,H a=some (.tup [.str "row",.ref b])/\H b=some (.tup (ps.map V.str))
 | .side ps=>∃b,H a=some (.tup [.str "side",.ref b])/\H b=some (.tup (ps.map V.str))
 | .again k x=>H a=some (.tup [.str "again",.int k,.str x])
def PartAt(H:Hp)(a:Addr)(p:Str×Fm):Prop:=∃b,H a=some (.tup [.str p.1,.ref b])/\FormAt H b p.2
def LimbAt(H:Hp)(a:Addr)(p:Str×Int):Prop:=H a=some (.tup [.str p.1,.int p.2])
def All2{α:Type}(R:Addr->α->Prop)(as:List Addr)(xs:List α):Prop:=as.length=xs.length/\∀(i:Nat) (a:Addr) (x:α),as[i]?=some a->xs[i]?=some x->R a x
theorem All2.nil{α:Type}{R:Addr->α->Prop}:All2 R [] []:=⟨rfl,fun i a x h=>by simp at h⟩
theorem All2.mono{α:Type}{R S:Addr->α->Prop}{as:List Addr}{xs:List α}(h:All2 R as xs)(k:∀a x,R a x->S a x):All2 S as xs:=⟨h.1,fun i a x h1 h2=>k a x (h.2 i a x h1 h2)⟩
theorem All2.snoc{α:Type}{R:Addr->α->Prop}{as:List Addr}{xs:List α}{a:Addr}{x:α}(h:All2 R as xs)(hx:R a x):All2 R (as++[a]) (xs++[x]):=by
 have hl:=h.1;refine⟨by simp[hl],fun i b y h1 h2=>?_⟩;by_cases hi:i<as.length
 ·rw[List.getElem?_append_left hi]at h1;rw[List.getElem?_append_left (by omega)]at h2;exact h.2 i b y h1 h2
 ·rw[List.getElem?_append_right (by omega)]at h1;rw[List.getElem?_append_right (by omega)]at h2;have e:i-as.length=0:=by
   have:=(List.getElem?_eq_some_iff.mp h1).1;simp at this;omega
  rw[e]at h1;rw[show i-xs.length=0 by omega]at h2;simp at h1 h2;subst h1 h2;exact hx
theorem All2.get{α:Type}{R:Addr->α->Prop}{as:List Addr}{xs:List α}{i:Nat}{x:α}(h:All2 R as xs)(hx:xs[i]?=some x):∃a,as[i]?=some a/\R a x:=by
 have hi:=(List.getElem?_eq_some_iff.mp hx).1;have hl:=h.1;have ha:as[i]?=some as[i]:=List.getElem?_eq_getElem (by omega);exact⟨_,ha,h.2 i _ _ ha hx⟩
section
variable{H H':Hp}{z:Ra}{m:Rr}
end
section
variable{m:Rr}{f:Fm}{ks:List Int}{g:Int}
theorem getD_snoc{α:Type}{l:List α}{x d:α}{j:Nat}(h:j<l.length):(l++[x]).getD j d=l.getD j d:=by
 rw[getD_eq_getElem?_getD,getD_eq_getElem?_getD,List.getElem?_append_left h]
end
theorem getD_in{ws:List Str}{n:Nat}(h:n<ws.length):ws.getD n ⟨#[]⟩∈ws:=by
 rw[getD_eq_getElem?_getD,List.getElem?_eq_getElem h];exact getElem_mem h
theorem ZS{as:List Addr}{i:Int}{a:Addr}(h0:0<=i)(h:as[i.toNat]?=some a):atI (as.map V.ref) i=some (.ref a):=by
 have e:atI (as.map V.ref) ((i.toNat:Nat):Int)=some (.ref a):=jY (by rw[List.getElem?_map,h];rfl);rw[Int.toNat_of_nonneg h0]at e;exact e
open PySem PySem.Spec PyProof.Rows L2
theorem Yr:∀{ks:List Int} {lo hi:Int},ks.Pairwise (· < ·)->(∀k∈ks,lo<=k/\k<hi)->ks.length<=(hi-lo).toNat
 | [],_,_,_,_=>Nat.zero_le _
 | k::r,lo,hi,h,b=>by
  have h1:=Yr (ks:=r) (lo:=k+1) (hi:=hi) (pairwise_cons.mp h).2 fun x hx=>⟨(pairwise_cons.mp h).1 x hx,(b x (mem_cons_of_mem _ hx)).2⟩
  have h2:=b k mem_cons_self;rw[length_cons];omega
theorem X0{H:Hp}{a:Addr}(h:H a=some (.lst [])):DV H (.ref a) (.list []):=.lst h .nil
theorem shp0:SeqAt.shaped (.list [])=true:=PySem.W.ke_shaped_ints []
theorem Xo(n:Int):∀hs:List Int,inV (.int n) (hs.map V.int)=decide (n∈hs)
 | []=>rfl
 | h::r=>by
  have ih:=Xo n r;unfold inV at ih|-;rw[map_cons,any_cons,ih];have e:eqV (.int h) (.int n)=decide (h=n):=by
   show decide _=_;simp
  rw[e,Bool.eq_iff_iff];simp only[Bool.or_eq_true,decide_eq_true_eq,mem_cons];constructor
  ·rintro(x | x)
   ·exact .inl x.symm
   ·exact .inr x
  ·rintro(x | x)
   ·exact .inl x.symm
   ·exact .inr x
theorem inI(n:Int)(hs:List Int):(if false=true then !inV (.int n) (hs.map V.int)else inV (.int n) (hs.map V.int))=decide (n∈hs):=by rw[if_neg (by decide),Xo]
theorem flats:∀hs:List Int,(hs.map V.int).all flatV=true
 | []=>rfl
 | h::r=>by rw[map_cons,all_cons,flats r];rfl
theorem take_snoc{α:Type}{l:List α}{i:Nat}{x:α}(h:l[i]?=some x):l.take (i+1)=l.take i++[x]:=by
 rw[List.take_add_one,h];rfl
theorem j0j{ms hs:List Int}(hp:ms.Perm hs)(nd:hs.Nodup)(ho:ms.Pairwise (·<=·)):ms.Pairwise (· < ·):=
 (List.Pairwise.and ho (hp.nodup_iff.mpr nd)).imp fun {a b} h=>by have h1:=h.1;have h2:a≠b:=h.2;omega
def Shp(n:Nat)(d:PyData):Prop:=d.canLay0=true/\d.depth<=n
theorem Shp.int{i:Int}:Shp 0 (.int i):=⟨rfl,Nat.le_refl _⟩
theorem Shp.str{x:Str}(h:PyData.strOk x=true):Shp 0 (.str x):=⟨h,Nat.le_refl _⟩
theorem Shp.mono{n k:Nat}{d:PyData}(h:Shp n d)(hk:n<=k):Shp k d:=⟨h.1,Nat.le_trans h.2 hk⟩
theorem yY{n:Nat}:∀{ds:List PyData},(∀d∈ds,Shp n d)->PyData.canLayAll0 ds=true/\PyData.depthAll ds<=n
 | [],_=>⟨rfl,Nat.zero_le _⟩
 | d::r,h=>by
  have h1:=h d mem_cons_self;have h2:=yY (ds:=r) fun x hx=>h x (mem_cons_of_mem _ hx)
  constructor
  ·show(d.canLay0&&PyData.canLayAll0 r)=true;rw[h1.1,h2.1];rfl
  ·show max d.depth (PyData.depthAll r)<=n;exact Nat.max_le.mpr ⟨h1.2,h2.2⟩
theorem Shp.lst{n:Nat}{ds:List PyData}(h:∀d∈ds,Shp n d):Shp (n+1) (.list ds):=⟨(yY h).1,Nat.succ_le_succ (yY h).2⟩
theorem Shp.tup{n:Nat}{ds:List PyData}(h:∀d∈ds,Shp n d):Shp (n+1) (.tuple ds):=⟨(yY h).1,Nat.succ_le_succ (yY h).2⟩
theorem Shp.ok{n:Nat}{d:PyData}(h:Shp n d)(hn:n<=64):SeqAt.shaped d=true:=by
 unfold SeqAt.shaped;rw[h.1,Bool.true_and];exact decide_eq_true (Nat.le_trans h.2 hn)
theorem XJ{x:Str}(h:Ws.isW x=true):PyData.strOk x=true:=by
 unfold Ws.isW Ws.among at h;rw[Bool.and_eq_true]at h;have h2:=of_decide_eq_true h.2;unfold PyData.strOk;rw[Array.all_eq_true_iff_forall_mem];intro c hc;have:=j10.mp (h2 c (by simpa using hc));exact decide_eq_true (by omega)
theorem Q1{H:Hp}:∀(xs:List Str),DVs H (xs.map V.str) (xs.map PyData.str)
 | []=>.nil
 | x::r=>.cons (.str x) (Q1 r)
theorem All2.tail{α:Type}{R:Addr->α->Prop}{a:Addr}{x:α}{as:List Addr}{xs:List α}(h:All2 R (a::as) (x::xs)):R a x/\All2 R as xs:=
 ⟨h.2 0 a x rfl rfl,Nat.succ.inj h.1,fun i b y h1 h2=>h.2 (i+1) b y (by simpa using h1) (by simpa using h2)⟩
noncomputable def FmWs:Fm->Prop
 | .hold n=>0<=n/\n<=10^18
 | .ring x n=>Ws.isW x=true/\0<=n/\n<=10^18
 | .rise x h n=>Ws.isW x=true/\0<=h/\h<=10^18/\0<=n/\n<=10^18
 | .row ps=>ps.length<=8/\∀x∈ps,Ws.isW x=true
 | .side ps=>ps.length<=8/\∀x∈ps,Ws.isW x=true
 | .again k x=>0<=k/\k<=10^18/\Ws.isW x=true
theorem yZ{n:Nat}{xs:List Str}(h:∀x∈xs,Ws.isW x=true):∀d∈xs.map PyData.str,Shp n d:=fun d hd=>by
 obtain⟨x,hx,rfl⟩:=mem_map.mp hd;exact(Shp.str (XJ (h x hx))).mono (Nat.zero_le _)
structure BookAt(H:Hp)(b pl pp:Addr)(las pas:List Addr)(ls:List (Str×Int))(ps:List (Str×Fm)):Prop where
 t:H b=some (.tup [.ref pl,.ref pp])
 l:H pl=some (.lst (las.map V.ref))
 la:All2 (LimbAt H) las ls
 p:H pp=some (.lst (pas.map V.ref))
 pa:All2 (PartAt H) pas ps
theorem FormAt.same{H H':Hp}{a:Addr}{f:Fm}(s:Same H H')(h:FormAt H a f):FormAt H' a f:=by
 cases f with
 | row ps=>obtain⟨b,h1,h2⟩:=h;exact⟨b,s _ _ h1,s _ _ h2⟩
 | side ps=>obtain⟨b,h1,h2⟩:=h;exact⟨b,s _ _ h1,s _ _ h2⟩
 | hold n=>exact s _ _ h
 | ring x n=>exact s _ _ h
 | rise x g n=>exact s _ _ h
 | again x n=>exact s _ _ h
theorem PartAt.same{H H':Hp}{a:Addr}{p:Str×Fm}(s:Same H H')(h:PartAt H a p):PartAt H' a p:=by
 obtain⟨b,h1,h2⟩:=h;exact⟨b,s _ _ h1,FormAt.same s h2⟩
theorem BookAt.same{H H':Hp}{b pl pp:Addr}{las pas:List Addr}{ls:List (Str×Int)}{ps:List (Str×Fm)}(B:BookAt H b pl pp las pas ls ps)(s:Same H H'):BookAt H' b pl pp las pas ls ps:=
 ⟨s _ _ B.t,s _ _ B.l,B.la.mono fun a x h=>s _ _ h,s _ _ B.p,B.pa.mono fun a x h=>PartAt.same s h⟩
open PyProof.Rows.KTD (inKeys Dat)
theorem at0{x:V}{xs:List V}:atI (x::xs) 0=some x:=jY (j:=0) rfl
theorem iteB0{b:Bool}{A B:Prop}(e:b=false)(h:B):if b=true then A else B:=by rw[e];exact h
theorem iteB1{b:Bool}{A B:Prop}(e:b=true)(h:A):if b=true then A else B:=by rw[e];exact h
theorem All2.at_ref{α:Type}{R:Addr->α->Prop}{as:List Addr}{xs:List α}{i:Nat}{v:V}(h:All2 R as xs)(hv:(as.map V.ref)[i]?=some v):∃a x,v = .ref a/\xs[i]?=some x/\R a x:=by
 rw[List.getElem?_map]at hv;obtain⟨a,ha,rfl⟩:=Option.map_eq_some_iff.mp hv;have hi:=(List.getElem?_eq_some_iff.mp ha).1;have hl:=h.1;have hx:xs[i]?=some xs[i]:=List.getElem?_eq_getElem (by omega);exact⟨a,_,rfl,hx,h.2 i a _ ha hx⟩
theorem ZZ:∀{n:Nat} {hs:List Int},hs.Nodup->(∀k∈hs,0<=k/\k<(n:Int))->hs.length<=n
 | 0,hs,_,h=>by
  cases hs with
  | nil=>exact Nat.le_refl _
  | cons k r=>have:=h k mem_cons_self;omega
 | n+1,hs,nd,h=>by
  by_cases e:(n:Int)∈hs
  ·have i:=ZZ (n:=n) (nd.erase (n:Int)) fun k hk=>by
    have h1:=h k (List.mem_of_mem_erase hk);have h2:k≠(n:Int):=fun z=>nd.not_mem_erase (z▸hk)
    omega
   have l:=List.length_erase_of_mem e;omega
  ·have i:=ZZ (n:=n) nd fun k hk=>by
    have h1:=h k hk;have h2:k≠(n:Int):=fun z=>e (z▸hk)
    omega
   omega
noncomputable def Fm.ns:Fm->List Str
 | .row ps=>ps
 | .side ps=>ps
 | .again _ x=>[x]
 | _=>[]
noncomputable def numK(xs:List Str):List (Key×V):=xs.zipIdx.map fun p=>(Sum.inr p.1,.int (p.2:Nat))
theorem j09(xs:List Str)(x:Str):numK (xs++[x])=numK xs++[(Sum.inr x,.int (xs.length:Nat))]:=by
 unfold numK;rw[List.zipIdx_append,map_append];simp
theorem j1b(xs:List Str):(numK xs).length=xs.length:=by simp[numK]
theorem KH(xs:List Str):(numK xs).map (·.1)=xs.map Sum.inr:=by
 unfold numK;rw[map_map];have e:∀(k:Nat) (xs:List Str),(xs.zipIdx k).map ((fun x=>x.1)∘fun p:Str×Nat=>((Sum.inr p.1:Key),V.int (p.2:Nat)))=xs.map Sum.inr:=fun k xs=>by
  induction xs generalizing k with
  | nil=>rfl
  | cons x r ih=>rw[List.zipIdx_cons,map_cons,map_cons,ih];rfl
 exact e 0 xs
theorem j2j{xs:List Str}{j:Nat}{x:Str}(h:xs[j]?=some x):(numK xs)[j]?=some (Sum.inr x,.int (j:Nat)):=by
 unfold numK;rw[List.getElem?_map,List.getElem?_zipIdx,h];simp
theorem xV:∀{kvs:List (Key×V)} {j:Nat} {k:Key} {v:V},(kvs.map (·.1)).Nodup->kvs[j]?=some (k,v)->valV kvs k=some v
 | [],j,k,v,_,h=>by simp at h
 | p::r,0,k,v,_,h=>by
  simp at h;subst h;unfold valV;simp
 | p::r,j+1,k,v,nd,h=>by
  rw[map_cons,nodup_cons]at nd;have h':r[j]?=some (k,v):=by simpa using h
  have ne:p.1≠k:=fun e=>nd.1 (e▸mem_map.mpr ⟨(k,v),List.mem_of_getElem? h',rfl⟩)
  have ih:=xV nd.2 h';unfold valV at ih|-;rw[List.find?_cons,decide_eq_false ne];exact ih
theorem WB{xs:List Str}(nd:xs.Nodup){j:Nat}{x:Str}(h:xs[j]?=some x):valV (numK xs) (Sum.inr x)=some (.int (j:Nat)):=
 xV (by rw[KH];exact pairwise_map.mpr (nd.imp fun h e=>h (Sum.inr.inj e))) (j2j h)
theorem WH{kvs:List (Key×V)}{k:Key}{v:V}(h:k∉kvs.map (·.1)):putK kvs k v=kvs++[(k,v)]:=by
 unfold putK;rw[if_neg];intro e;obtain⟨p,hp,hk⟩:=any_eq_true.mp e;exact h (mem_map.mpr ⟨p,hp,of_decide_eq_true hk⟩)
noncomputable def ixOf:List Str->Str->Nat
 | [],_=>0
 | y::r,x=>if y=x then 0 else ixOf r x+1
theorem JL:∀{xs:List Str} {j:Nat} {x:Str},xs.Nodup->xs[j]?=some x->ixOf xs x=j
 | [],j,x,_,h=>by simp at h
 | y::r,0,x,_,h=>by
  simp at h;subst h;exact if_pos rfl
 | y::r,j+1,x,nd,h=>by
  rw[nodup_cons]at nd;have h':r[j]?=some x:=by simpa using h
  have ne:y≠x:=fun e=>nd.1 (e▸List.mem_of_getElem? h')
  show(if y=x then 0 else ixOf r x+1)=j+1;rw[if_neg ne,JL nd.2 h']
noncomputable def nmsOf{α:Type}(ps:List (Str×α)):List Str:=ps.map (·.1)
noncomputable def inP(ps:List (Str×Fm))(f:Fm):List Nat:=f.ns.map (ixOf (nmsOf ps))
structure WfB(ls:List (Str×Int))(ps:List (Str×Fm)):Prop where
 ln:(nmsOf ls).Nodup
 l8:ls.length<=8
 pn:(nmsOf ps).Nodup
 p61:ps.length<=61
 f:∀(i:Nat) (p:Str×Fm),ps[i]?=some p->(∀x∈p.2.ns,∃j,j<i/\(nmsOf ps)[j]?=some x)/\p.2.ns.length<=8
 r:∀(i:Nat) (y x:Str) (h n:Int),ps[i]?=some (y,.rise x h n)->∃j:Nat,(nmsOf ls)[j]?=some x
theorem WfB.inP_lt{ls:List (Str×Int)}{ps:List (Str×Fm)}(W:WfB ls ps){i:Nat}{p:Str×Fm}(h:ps[i]?=some p){j:Nat}(hj:j∈inP ps p.2):j<i:=by
 obtain⟨x,hx,rfl⟩:=mem_map.mp hj;obtain⟨k,hk,e⟩:=(W.f i p h).1 x hx;rw[JL W.pn e];exact hk
inductive sp_numbers_of(vs:List V)(H:Hp)(Q:VK)(xk:XK):Prop
 | mk (l:Addr) (as:List Addr) (xs:List Str) (_:vs=[.ref l]) (_:H l=some (.lst (as.map V.ref))) (_:as.length=xs.length) (_:(∀(i:Nat) (a:Addr) (x:Str),as[i]?=some a->xs[i]?=some x->∃r,H a=some (.tup [.str x,r]))) (_:xs.Nodup) (_:xs.length<=100) (_:∀(d:Addr) (H':Hp),Same H H'->H d=none->H' d=some (.dK (numK xs))->Q (.ref d) H'):sp_numbers_of vs H Q xk
inductive sp_names_in(vs:List V)(H:Hp)(Q:VK)(xk:XK):Prop
 | mk (a:Addr) (f:Fm) (_:vs=[.ref a]) (_:FormAt H a f) (_:∀(b:Addr) (H':Hp),Same H H'->H' b=some (.tup (f.ns.map V.str))->Q (.ref b) H'):sp_names_in vs H Q xk
def ListsAt(H:Hp)(as:List Addr)(M:List (List Int)):Prop:=All2 (fun a ks=>H a=some (.lst (ks.map V.int))) as M
theorem All2.monoM{α:Type}{R S:Addr->α->Prop}{as:List Addr}{xs:List α}(h:All2 R as xs)(k:∀a∈as,∀x,R a x->S a x):All2 S as xs:=⟨h.1,fun i a x h1 h2=>k a (List.mem_of_getElem? h1) x (h.2 i a x h1 h2)⟩
inductive sp_inner(vs:List V)(H:Hp)(Q:VK)(xk:XK):Prop
 | mk (b pl pp:Addr) (las pas:List Addr) (ls:List (Str×Int)) (ps:List (Str×Fm)) (_:vs=[.ref b]) (_:BookAt H b pl pp las pas ls ps) (_:WfB ls ps) (_:∀(l:Addr) (as:List Addr) (H':Hp),Same H H'->H l=none->H' l=some (.lst (as.map V.ref))->(∀a∈as,H a=none)->ListsAt H' as (ps.map fun p=>(inP ps p.2).map fun j:Nat=>(j:Int))->Q (.ref l) H'):sp_inner vs H Q xk
def PrsAt(H:Hp)(bs:List Addr)(e:List (Int×Int)):Prop:=All2 (fun b q=>H b=some (.tup [.int q.1,.int q.2])) bs e
def EndsAt(H:Hp)(as:List Addr)(E:List (List (Int×Int))):Prop:=All2 (fun a e=>∃bs,H a=some (.lst (bs.map V.ref))/\PrsAt H bs e) as E
def LastIn(E:List (List (Int×Int)))(is:List Nat)(k v:Int):Prop:=∃pre j post,is=pre++j::post/\(k,v)∈E.getD j []/\∀j'∈post,∀v',(k,v')∉E.getD j' []
def EndIs(ls:List (Str×Int))(ps:List (Str×Fm))(E:List (List (Int×Int)))(f:Fm)(k v:Int):Prop:=LastIn E (inP ps f) k v\/∃x n,f = .rise x v n/\k=(ixOf (nmsOf ls) x:Nat)
def EndOk(ls:List (Str×Int))(ps:List (Str×Fm))(E:List (List (Int×Int))):Prop:=∀(i:Nat) (p:Str×Fm) (e:List (Int×Int)),ps[i]?=some p->E[i]?=some e->(e.map (·.1)).Pairwise (· < ·)/\∀k v,(k,v)∈e↔EndIs ls ps E p.2 k v
inductive sp_ends(vs:List V)(H:Hp)(Q:VK)(xk:XK):Prop
 | mk (b pl pp:Addr) (las pas:List Addr) (ls:List (Str×Int)) (ps:List (Str×Fm)) (_:vs=[.ref b]) (_:BookAt H b pl pp las pas ls ps) (_:WfB ls ps) (_:∀(l:Addr) (as:List Addr) (E:List (List (Int×Int))) (H':Hp),Same H H'->H l=none->H' l=some (.lst (as.map V.ref))->(∀a∈as,H a=none)->E.length=ps.length->EndsAt H' as E->EndOk ls ps E->Q (.ref l) H'):sp_ends vs H Q xk
def MovOk(ls:List (Str×Int))(ps:List (Str×Fm))(M:List (List Int)):Prop:=∀(i:Nat) (p:Str×Fm) (ks:List Int),ps[i]?=some p->M[i]?=some ks->ks.Pairwise (· < ·)/\∀k,k∈ks↔(∃j∈inP ps p.2,k∈M.getD j [])\/∃x h n,p.2 = .rise x h n/\k=(ixOf (nmsOf ls) x:Nat)
inductive sp_moved(vs:List V)(H:Hp)(Q:VK)(xk:XK):Prop
 | mk (b pl pp:Addr) (las pas:List Addr) (ls:List (Str×Int)) (ps:List (Str×Fm)) (_:vs=[.ref b]) (_:BookAt H b pl pp las pas ls ps) (_:WfB ls ps) (_:∀(l:Addr) (as:List Addr) (M:List (List Int)) (H':Hp),Same H H'->H l=none->H' l=some (.lst (as.map V.ref))->(∀a∈as,H a=none)->M.length=ps.length->ListsAt H' as M->MovOk ls ps M->Q (.ref l) H'):sp_moved vs H Q xk
theorem j1L:∀{a b:List Int},a.Pairwise (· < ·)->b.Pairwise (· < ·)->(∀k,k∈a↔k∈b)->a=b
 | [],[],_,_,_=>rfl
 | [],y::s,_,_,h=>absurd ((h y).mpr mem_cons_self) (by simp)
 | x::r,[],_,_,h=>absurd ((h x).mp mem_cons_self) (by simp)
 | x::r,y::s,ha,hb,h=>by
  rw[pairwise_cons]at ha hb;have e:x=y:=by
   rcases mem_cons.mp ((h x).mp mem_cons_self)with q | q
   ·exact q
   ·rcases mem_cons.mp ((h y).mpr mem_cons_self)with q' | q'
    ·exact q'.symm
    ·have h1:=hb.1 x q;have h2:=ha.1 y q';omega
  subst e;congr 1;refine j1L ha.2 hb.2 fun k=>⟨fun hk=>?_,fun hk=>?_⟩
  ·rcases mem_cons.mp ((h k).mp (mem_cons_of_mem _ hk))with q | q
   ·have:=ha.1 k hk;omega
   ·exact q
  ·rcases mem_cons.mp ((h k).mpr (mem_cons_of_mem _ hk))with q | q
   ·have:=hb.1 k hk;omega
   ·exact q
theorem getD_map{E:List (List (Int×Int))}(j:Nat):(E.map fun e=>e.map (·.1)).getD j []=(E.getD j []).map (·.1):=by
 rw[getD_eq_getElem?_getD,getD_eq_getElem?_getD,List.getElem?_map];cases E[j]?<;>rfl
theorem wc{k:Int}{e:List (Int×Int)}:k∈e.map (·.1)↔∃v,(k,v)∈e:=by
 constructor
 ·intro h;obtain⟨p,hp,rfl⟩:=mem_map.mp h;exact⟨p.2,hp⟩
 ·rintro⟨v,h⟩;exact mem_map.mpr ⟨_,h,rfl⟩
theorem K2{E:List (List (Int×Int))}{k:Int}:∀{is:List Nat},(∃v,LastIn E is k v)↔∃j∈is,∃v,(k,v)∈E.getD j []
 | []=>⟨fun⟨v,pre,j,post,e,_⟩=>by cases pre<;>simp at e,fun⟨j,h,_⟩=>by simp at h⟩
 | i::r=>by
  have ih:=K2 (E:=E) (k:=k) (is:=r);constructor
  ·rintro⟨v,pre,j,post,e,h1,h2⟩;exact⟨j,by rw[e];simp,v,h1⟩
  ·rintro⟨j,hj,v,hv⟩;by_cases q:∃j∈r,∃v,(k,v)∈E.getD j []
   ·obtain⟨v',pre,j',post,e,h1,h2⟩:=ih.mpr q;exact⟨v',i::pre,j',post,by rw[e];rfl,h1,h2⟩
   ·rcases mem_cons.mp hj with rfl | hj
    ·exact⟨v,[],j,r,rfl,hv,fun j' h' v' hv'=>q ⟨j',h',v',hv'⟩⟩
    ·exact absurd ⟨j,hj,v,hv⟩ q
theorem j2U{ls:List (Str×Int)}{ps:List (Str×Fm)}{E:List (List (Int×Int))}(hl:E.length=ps.length)(h:EndOk ls ps E):MovOk ls ps (E.map fun e=>e.map (·.1)):=fun i p ks hp hk=>by
 rw[List.getElem?_map]at hk;obtain⟨e,he,rfl⟩:=Option.map_eq_some_iff.mp hk;obtain⟨a,b⟩:=h i p e hp he;refine⟨a,fun k=>?_⟩;rw[wc];constructor
 ·rintro⟨v,hv⟩;rcases(b k v).mp hv with z | ⟨x,n,e1,e2⟩
  ·obtain⟨j,hj,v',hv'⟩:=K2.mp ⟨v,z⟩;exact .inl ⟨j,hj,by rw[getD_map];exact wc.mpr ⟨v',hv'⟩⟩
  ·exact .inr ⟨x,v,n,e1,e2⟩
 ·rintro(⟨j,hj,hk⟩ | ⟨x,h,n,e1,e2⟩)
  ·rw[getD_map]at hk;obtain⟨v',hv'⟩:=wc.mp hk;obtain⟨v,z⟩:=K2.mpr ⟨j,hj,v',hv'⟩;exact⟨v,(b k v).mpr (.inl z)⟩
  ·exact⟨h,(b k h).mpr (.inr ⟨x,n,e1,e2⟩)⟩
theorem Xq{xs:List Str}{x:Str}(h:x∈xs):ixOf xs x<xs.length:=by
 induction xs with
 | nil=>exact nomatch h
 | cons y r ih=>
  show(if y=x then 0 else ixOf r x+1)<r.length+1;split
  ·omega
  ·rename_i hne;rcases mem_cons.mp h with e | e
   ·exact absurd e.symm hne
   ·have:=ih e;omega
theorem ko{ls:List (Str×Int)}{ps:List (Str×Fm)}(W:WfB ls ps){E:List (List (Int×Int))}(hl:E.length<=ps.length)(h:EndOk ls ps E):∀(i:Nat),∀q∈E.getD i [],0<=q.1/\q.1<(ls.length:Int):=by
 intro i
 induction i using Nat.strongRecOn with
 | ind i ih=>
  intro q hq;rw[getD_eq_getElem?_getD]at hq;cases e:E[i]? with
  | none=>rw[e]at hq;exact nomatch hq
  | some ev=>
   rw[e]at hq;have hi:=(List.getElem?_eq_some_iff.mp e).1;have ep:ps[i]?=some ps[i]:=List.getElem?_eq_getElem (by omega);obtain⟨_,b⟩:=h i _ ev ep e;rcases(b q.1 q.2).mp hq with⟨pre,j,post,e1,e2,_⟩ | ⟨x,n,e1,e2⟩
   ·exact ih j (W.inP_lt ep (by rw[e1];simp)) _ e2
   ·have ep':ps[i]?=some (ps[i].1,.rise x q.2 n):=by rw[ep,<-e1]
    obtain⟨j,hj⟩:=W.r i _ _ _ _ ep';have h3:=Xq (List.mem_of_getElem? hj);have h4:(nmsOf ls).length=ls.length:=length_map _;rw[e2];omega
theorem Wk{ls:List (Str×Int)}{ps:List (Str×Fm)}(W:WfB ls ps){E:List (List (Int×Int))}(hl:E.length<=ps.length)(h:EndOk ls ps E){i:Nat}{e:List (Int×Int)}(he:E[i]?=some e):e.length<=8:=by
 have hi:=(List.getElem?_eq_some_iff.mp he).1;have a:=(h i _ e (List.getElem?_eq_getElem (by omega)) he).1;have b:=ko W hl h i;rw[getD_eq_getElem?_getD,he]at b;have z:=Yr (ks:=e.map (·.1)) (lo:=0) (hi:=ls.length) a fun k hk=>by
  obtain⟨q,hq,rfl⟩:=mem_map.mp hk;exact b q hq
 rw[length_map]at z;have:=W.l8;omega
noncomputable def putI(kvs:List (Int×Int))(k v:Int):List (Int×Int):=if k∈kvs.map (·.1)then kvs.map (fun q=>if q.1=k then(q.1,v)else q)else kvs++[(k,v)]
noncomputable def mergeI(kvs more:List (Int×Int)):List (Int×Int):=more.foldl (fun acc q=>putI acc q.1 q.2) kvs
theorem j1k(kvs:List (Int×Int))(k v:Int):putK (kvs.map iiK) (Sum.inl k) (.int v)=(putI kvs k v).map iiK:=by
 have e:(((kvs.map iiK).any fun kv=>decide (kv.1=(Sum.inl k:Key)))=true)↔k∈kvs.map (·.1):=by
  rw[List.any_map,any_eq_true];constructor
  ·rintro⟨q,hq,h⟩;have h':(Sum.inl q.1:Key)=Sum.inl k:=of_decide_eq_true h;exact mem_map.mpr ⟨q,hq,Sum.inl.inj h'⟩
  ·intro h;obtain⟨q,hq,rfl⟩:=mem_map.mp h;exact⟨q,hq,decide_eq_true rfl⟩
 unfold putK putI;by_cases c:k∈kvs.map (·.1)
 ·rw[if_pos (e.mpr c),if_pos c,map_map,map_map];refine map_congr_left fun q _=>?_
  show(if(Sum.inl q.1:Key)=Sum.inl k then _ else _)=iiK (if q.1=k then(q.1,v)else q);by_cases z:q.1=k
  ·rw[if_pos z,if_pos (by rw[z])];rfl
  ·rw[if_neg z,if_neg (fun w=>z (Sum.inl.inj w))]
 ·rw[if_neg (fun w=>c (e.mp w)),if_neg c,map_append];rfl
theorem ya:∀(more kvs:List (Int×Int)),mergeK (kvs.map iiK) (more.map iiK)=(mergeI kvs more).map iiK
 | [],kvs=>rfl
 | q::r,kvs=>by
  show mergeK (putK (kvs.map iiK) (Sum.inl q.1) (.int q.2)) (r.map iiK)=(mergeI (putI kvs q.1 q.2) r).map iiK;rw[j1k,ya r]
theorem j0e(kvs:List (Int×Int))(k v:Int)(nd:(kvs.map (·.1)).Nodup):((putI kvs k v).map (·.1)).Nodup:=by
 unfold putI;split
 ·rw[map_map];have e:kvs.map ((fun x=>x.1)∘fun q=>if q.1=k then(q.1,v)else q)=kvs.map (·.1):=map_congr_left fun q _=>by
   show(if q.1=k then(q.1,v)else q).1=q.1;split<;>rfl
  rw[e];exact nd
 ·rename_i c;rw[map_append,nodup_append];exact⟨nd,pairwise_singleton _ _,fun a ha b hb e=>c (by rw[show k=b from(mem_singleton.mp hb).symm,<-e];exact ha)⟩
theorem j11{kvs:List (Int×Int)}{k v a b:Int}:(a,b)∈putI kvs k v↔(a=k/\b=v)\/(a≠k/\(a,b)∈kvs):=by
 unfold putI;split
 ·rename_i c;rw[mem_map];constructor
  ·rintro⟨q,hq,e⟩;by_cases z:q.1=k
   ·rw[if_pos z]at e;cases e;exact .inl ⟨z,rfl⟩
   ·rw[if_neg z]at e;subst e;exact .inr ⟨z,hq⟩
  ·rintro(⟨rfl,rfl⟩ | ⟨h1,h2⟩)
   ·obtain⟨q,hq,e⟩:=mem_map.mp c;exact⟨q,hq,by rw[if_pos e,e]⟩
   ·exact⟨(a,b),h2,by rw[if_neg h1]⟩
 ·rename_i c;rw[mem_append];constructor
  ·rintro(h | h)
   ·exact .inr ⟨fun e=>c (e▸mem_map.mpr ⟨(a,b),h,rfl⟩),h⟩
   ·cases mem_singleton.mp h;exact .inl ⟨rfl,rfl⟩
  ·rintro(⟨rfl,rfl⟩ | ⟨_,h⟩)
   ·exact .inr (mem_singleton.mpr rfl)
   ·exact .inl h
theorem KG:∀{more kvs:List (Int×Int)},(kvs.map (·.1)).Nodup->(more.map (·.1)).Nodup->((mergeI kvs more).map (·.1)).Nodup/\∀k v,(k,v)∈mergeI kvs more↔(k,v)∈more\/((∀v',(k,v')∉more)/\(k,v)∈kvs)
 | [],kvs,nd,_=>⟨nd,fun k v=>⟨fun h=>.inr ⟨(fun _ h=>nomatch h),h⟩,fun h=>h.elim (fun h=>nomatch h) (·.2)⟩⟩
 | q::r,kvs,nd,nm=>by
  rw[map_cons,nodup_cons]at nm;obtain⟨a,b⟩:=KG (more:=r) (kvs:=putI kvs q.1 q.2) (j0e _ _ _ nd) nm.2;refine⟨a,fun k v=>(b k v).trans ?_⟩;rw[j11];have nq:∀v',(q.1,v')∉r:=fun v' h=>nm.1 (mem_map.mpr ⟨_,h,rfl⟩)
  constructor
  ·rintro(h | ⟨h1,⟨rfl,rfl⟩ | ⟨h2,h3⟩⟩)
   ·exact .inl (mem_cons_of_mem _ h)
   ·exact .inl mem_cons_self
   ·refine .inr ⟨fun v' hv=>?_,h3⟩;rcases mem_cons.mp hv with e | e
    ·exact h2 (by rw[<-e])
    ·exact h1 v' e
  ·rintro(h | ⟨h1,h2⟩)
   ·rcases mem_cons.mp h with e | e
    ·refine .inr ⟨fun v' hv=>?_,.inl ⟨by rw[<-e],by rw[<-e]⟩⟩;rw[<-e]at nq;exact nq v' hv
    ·exact .inl e
   ·refine .inr ⟨fun v' hv=>h1 v' (mem_cons_of_mem _ hv),.inr ⟨fun e=>?_,h2⟩⟩;exact h1 q.2 (by rw[e];exact mem_cons_self)
theorem xz{ms:List (Int×Int)}(nd:(ms.map (·.1)).Nodup):mergeI [] ms=ms:=by
 have e:∀(r acc:List (Int×Int)),((acc++r).map (·.1)).Nodup->mergeI acc r=acc++r:=by
  intro r
  induction r with
  | nil=>intro acc _;exact(append_nil _).symm
  | cons q r ih=>
   intro acc nd;have c:q.1∉acc.map (·.1):=fun h=>by
    rw[map_append,nodup_append]at nd;exact nd.2.2 q.1 h q.1 (by simp) rfl
   show mergeI (putI acc q.1 q.2) r=_;unfold putI;rw[if_neg c,ih (acc++[(q.1,q.2)]) (by rw[List.append_assoc];exact nd),List.append_assoc];rfl
 exact e ms [] nd
theorem j00{E:List (List (Int×Int))}{is:List Nat}{j:Nat}{k v:Int}:LastIn E (is++[j]) k v↔(k,v)∈E.getD j []\/((∀v',(k,v')∉E.getD j [])/\LastIn E is k v):=by
 constructor
 ·rintro⟨pre,i,post,e,h1,h2⟩;rcases List.eq_nil_or_concat post with rfl | ⟨post',x,rfl⟩
  ·have e':=List.append_inj' (show is++[j]=pre++[i]from e) rfl;have ej:j=i:=by simpa using e'.2
   rw[ej];exact .inl h1
  ·have e2:is++[j]=(pre++i::post')++[x]:=by rw[e];simp
   have e':=List.append_inj' e2 rfl;have ej:j=x:=by simpa using e'.2
   subst ej;exact .inr ⟨h2 j (by simp),pre,i,post',e'.1,h1,fun j' hj'=>h2 j' (by simp[hj'])⟩
 ·rintro(h | ⟨h1,pre,i,post,e,h2,h3⟩)
  ·exact⟨is,j,[],rfl,h,(fun _ h=>nomatch h)⟩
  ·refine⟨pre,i,post++[j],by rw[e];simp,h2,fun j' hj' v'=>?_⟩;rcases mem_append.mp hj' with z | z
   ·exact h3 j' z v'
   ·rw[mem_singleton.mp z];exact h1 v'
theorem Wp{E E':List (List (Int×Int))}{is:List Nat}(h:∀j∈is,E.getD j []=E'.getD j []){k v:Int}:LastIn E is k v->LastIn E' is k v:=by
 rintro⟨pre,j,post,e,h1,h2⟩;refine⟨pre,j,post,e,by rw[<-h j (by rw[e];simp)];exact h1,fun j' hj'=>?_⟩;rw[<-h j' (by rw[e];simp[hj'])];exact h2 j' hj'
theorem EndOk.snoc{ls:List (Str×Int)}{ps:List (Str×Fm)}(W:WfB ls ps){E:List (List (Int×Int))}{p:Str×Fm}{e:List (Int×Int)}(h:EndOk ls ps E)(hp:ps[E.length]?=some p)(h1:(e.map (·.1)).Pairwise (· < ·))
  (h2:∀k v,(k,v)∈e↔EndIs ls ps E p.2 k v):EndOk ls ps (E++[e]):=fun i q f hq hf=>by
 have hle:i<=E.length:=by
  have:=(List.getElem?_eq_some_iff.mp hf).1;rw[List.length_append]at this;exact Nat.le_of_lt_succ this
 have ext:∀j∈inP ps q.2,E.getD j []=(E++[e]).getD j []:=fun j hj=>(getD_snoc (by have:=W.inP_lt hq hj;omega)).symm
 have iff:∀k v,EndIs ls ps E q.2 k v↔EndIs ls ps (E++[e]) q.2 k v:=fun k v=>by
  unfold EndIs;exact⟨fun h=>h.imp (Wp ext) id,fun h=>h.imp (Wp fun j hj=>(ext j hj).symm) id⟩
 by_cases hi:i<E.length
 ·rw[List.getElem?_append_left hi]at hf;obtain⟨a,b⟩:=h i q f hq hf;exact⟨a,fun k v=>(b k v).trans (iff k v)⟩
 ·have ei:i=E.length:=by omega
  subst ei;rw[List.getElem?_append_right (Nat.le_refl _),Nat.sub_self]at hf;have ef:e=f:=by simpa using hf
  subst ef;rw[hp]at hq;cases hq;exact⟨h1,fun k v=>(h2 k v).trans (iff k v)⟩
theorem j0N{H:Hp}{a:Addr}{f:Fm}(h:FormAt H a f)(hn:∀x v n,f≠.rise x v n):∃k xs,H a=some (.tup (.str k::xs))/\decide (k=("raise" : Str))=false:=by
 cases f with
 | hold n=>exact⟨_,_,h,by decide +kernel⟩
 | ring x n=>exact⟨_,_,h,by decide +kernel⟩
 | rise x v n=>exact absurd rfl (hn x v n)
 | row ps=>obtain⟨b,h1,_⟩:=h;exact⟨_,_,h1,by decide +kernel⟩
 | side ps=>obtain⟨b,h1,_⟩:=h;exact⟨_,_,h1,by decide +kernel⟩
 | again k x=>exact⟨_,_,h,by decide +kernel⟩
noncomputable def kv0(ls:List (Str×Int)):Fm->List (Int×Int)
 | .rise x h _=>[((ixOf (nmsOf ls) x:Nat),h)]
 | _=>[]
theorem j29{ls:List (Str×Int)}{f:Fm}(hn:∀x v n,f≠.rise x v n):kv0 ls f=[]:=by
 cases f with
 | rise x v n=>exact absurd rfl (hn x v n)
 | _=>rfl
theorem wd{ls:List (Str×Int)}{f:Fm}{k v:Int}:(k,v)∈kv0 ls f↔∃x n,f = .rise x v n/\k=(ixOf (nmsOf ls) x:Nat):=by
 cases f with
 | rise x h n=>
  constructor
  ·intro hk;cases mem_singleton.mp hk;exact⟨x,n,rfl,rfl⟩
  ·rintro⟨x',n',e,rfl⟩;injection e with e1 e2 e3;subst e1 e2;exact mem_singleton.mpr rfl
 | _=>exact⟨(fun h=>nomatch h),fun⟨_,_,e,_⟩=>nomatch e⟩
theorem j2R{ps:List (Str×Fm)}{ls:List (Str×Int)}(f:Fm):inP ps f=[]\/kv0 ls f=[]:=by
 cases f with
 | rise x h n=>exact .inl rfl
 | _=>exact .inr rfl
theorem j2S{ls:List (Str×Int)}(f:Fm):((kv0 ls f).map (·.1)).Nodup:=by
 cases f with
 | rise x h n=>exact pairwise_singleton _ _
 | _=>exact .nil
inductive sp_check_side(vs:List V)(H:Hp)(Q:VK)(xk:XK):Prop
 | mk (r:Int) (l ll:Addr) (as las:List Addr) (M:List (List Int)) (_:vs=[.int r,.ref l,.ref ll]) (_:H l=some (.lst (as.map V.ref))) (_:ListsAt H as M) (_:(∀ks∈M,ks≠[])) (_:M.length<=8) (_:H ll=some (.lst (las.map V.ref))) (_:(∀k:Int,(M.filter fun ks=>decide (k∈ks)).length<=1)) (_:∀H',Same H H'->Q .non H'):sp_check_side vs H Q xk
noncomputable def LenIs:Fm->List Int->Int->Prop
 | .hold n,_,g=>g=n
 | .ring _ n,_,g=>g=n
 | .rise _ _ n,_,g=>g=n
 | .row _,gs,g=>g=gs.sum
 | .side _,gs,g=>g∈gs/\∀x∈gs,x<=g
 | .again k _,gs,g=>∃y,gs.head?=some y/\g=k*y
noncomputable def LenPre:Fm->List Int->Prop
 | .side _,gs=>gs≠[]
 | .again k _,gs=>∃y r,gs=y::r/\0<=k/\k<=10^18/\0<=y/\y<=10^60
 | _,_=>True
inductive sp_length_of(vs:List V)(H:Hp)(Q:VK)(xk:XK):Prop
 | mk (a l:Addr) (f:Fm) (gs:List Int) (_:vs=[.ref a,.ref l]) (_:FormAt H a f) (_:H l=some (.lst (gs.map V.int))) (_:LenPre f gs) (_:∀g,LenIs f gs g->Q (.int g) H):sp_length_of vs H Q xk
structure Snd(ls:List (Str×Int))(ps:List (Str×Fm))(gs:List Int)(hs:List (List Int)):Prop where
 w:WfB ls ps
 gl:gs.length=ps.length
 gb:∀i,i<ps.length->0<=gs.getD i 0/\gs.getD i 0<=10^60
 mv:∀M:List (List Int),M.length=ps.length->MovOk ls ps M->∀i,i<ps.length->M.getD i []=hs.getD i []
 ln:∀(i:Nat) (p:Str×Fm),ps[i]?=some p->LenPre p.2 ((inP ps p.2).map fun j=>gs.getD j 0)/\∀g,LenIs p.2 ((inP ps p.2).map fun j=>gs.getD j 0) g->g=gs.getD i 0
 sd:∀(i:Nat) (p:Str×Fm) (qs:List Str),ps[i]?=some p->p.2 = .side qs->(∀j∈inP ps p.2,hs.getD j []≠[])/\∀k:Int,(((inP ps p.2).map fun j=>hs.getD j []).filter fun ks=>decide (k∈ks)).length<=1
inductive sp_lengths(vs:List V)(H:Hp)(Q:VK)(xk:XK):Prop
 | mk (b pl pp:Addr) (las pas:List Addr) (ls:List (Str×Int)) (ps:List (Str×Fm)) (gs:List Int) (hs:List (List Int)) (_:vs=[.ref b]) (_:BookAt H b pl pp las pas ls ps) (_:Snd ls ps gs hs) (_:∀(l:Addr) (H':Hp),Same H H'->H l=none->H' l=some (.lst (gs.map V.int))->Q (.ref l) H'):sp_lengths vs H Q xk
theorem any_empty{M:List (List Int)}(h:∀ks∈M,ks≠[]):(M.any fun ks=>decide (ks=[]))=false:=by
 rw[List.any_eq_false];intro ks hks;simpa using h ks hks
theorem j27{gs:List Int}{i:Nat}(h:i<gs.length):gs.take (i+1)=gs.take i++[gs.getD i 0]:=by
 refine take_snoc ?_;rw[getD_eq_getElem?_getD,List.getElem?_eq_getElem h];rfl
theorem j0J{gs:List Int}{i j:Nat}(hi:i<=gs.length)(hj:j<i):atI ((gs.take i).map V.int) (j:Int)=some (.int (gs.getD j 0)):=by
 refine jY ?_;rw[List.getElem?_map,List.getElem?_take,if_pos hj,getD_eq_getElem?_getD,List.getElem?_eq_getElem (by omega)];rfl
theorem j2h{ls:List (Str×Int)}{ps:List (Str×Fm)}(W:WfB ls ps){M:List (List Int)}(hl:M.length=ps.length)(h:MovOk ls ps M):∀(i:Nat),∀k∈M.getD i [],0<=k/\k<(ls.length:Int):=by
 intro i
 induction i using Nat.strongRecOn with
 | ind i ih=>
  intro k hk;rw[getD_eq_getElem?_getD]at hk;cases e:M[i]? with
  | none=>rw[e]at hk;exact nomatch hk
  | some ks=>
   rw[e]at hk;have hi:=(List.getElem?_eq_some_iff.mp e).1;have ep:ps[i]?=some ps[i]:=List.getElem?_eq_getElem (by omega);obtain⟨_,b⟩:=h i _ ks ep e;rcases(b k).mp hk with⟨j,hj,hk'⟩ | ⟨x,v,n,e1,rfl⟩
   ·exact ih j (W.inP_lt ep hj) k hk'
   ·obtain⟨j,hj⟩:=W.r i (ps[i]).1 x v n (by rw[ep,<-e1]);rw[JL W.ln hj];have:=(List.getElem?_eq_some_iff.mp hj).1;unfold nmsOf at this;rw[length_map]at this;omega
theorem Xv{ls:List (Str×Int)}{ps:List (Str×Fm)}(W:WfB ls ps){M:List (List Int)}(hl:M.length=ps.length)(h:MovOk ls ps M){i:Nat}{ks:List Int}(he:M[i]?=some ks):ks.length<=8:=by
 have hi:=(List.getElem?_eq_some_iff.mp he).1;have a:=(h i _ ks (List.getElem?_eq_getElem (by omega)) he).1;have b:=j2h W hl h i;rw[getD_eq_getElem?_getD,he]at b;have z:=Yr (ks:=ks) (lo:=0) (hi:=ls.length) a b;have:=W.l8;omega
theorem FormAt.keep{H H':Hp}{a:Addr}{f:Fm}(k:∀c xs,H c=some (.tup xs)->H' c=some (.tup xs))(h:FormAt H a f):FormAt H' a f:=by
 cases f with
 | row ps=>obtain⟨c,h1,h2⟩:=h;exact⟨c,k _ _ h1,k _ _ h2⟩
 | side ps=>obtain⟨c,h1,h2⟩:=h;exact⟨c,k _ _ h1,k _ _ h2⟩
 | hold n=>exact k _ _ h
 | ring x n=>exact k _ _ h
 | rise x g n=>exact k _ _ h
 | again x n=>exact k _ _ h
theorem PartAt.keep{H H':Hp}{a:Addr}{p:Str×Fm}(k:∀c xs,H c=some (.tup xs)->H' c=some (.tup xs))(h:PartAt H a p):PartAt H' a p:=by
 obtain⟨b,h1,h2⟩:=h;exact⟨b,k _ _ h1,FormAt.keep k h2⟩
section
variable{ls:List (Str×Int)}{x:Str}{f:Fm}
end
theorem j0r{xs:List Nat}{i:Int}{c:Nat}(h0:0<=i)(h:xs[i.toNat]?=some c):atI xs i=some c:=by
 have q:∀k:Nat,xs[k]?=some c->atI xs (k:Int)=some c:=fun k hk=>by
  obtain⟨hi,rfl⟩:=List.getElem?_eq_some_iff.mp hk;unfold atI ixN;simp[hi]
 have:=q i.toNat h;rw[Int.toNat_of_nonneg h0]at this;exact this
theorem ixZ{n:Nat}{k:Int}(h0:0<=k)(h1:k<n):ixN n k=some k.toNat:=by
 have q0:∀j:Nat,j<n->ixN n (j:Int)=some j:=fun j h=>by
  unfold ixN;simp[h]
 have q:=q0 k.toNat (by omega);rw[Int.toNat_of_nonneg h0]at q;exact q
noncomputable abbrev Pc:=Nat×Int×Int
noncomputable abbrev Pr4:=Nat×Int×Int×Option Int
noncomputable def rowPc(gs:List Int):List Nat->Int->List Pc
 | [],_=>[]
 | j::r,b=>(j,1,b)::rowPc gs r (b+gs.getD j 0)
noncomputable def pcsI(gs:List Int)(f:Fm)(is:List Nat):List Pc:=
 match f with
 | .again k _=>match is with
  | []=>[]
  | j::_=>(j,1,0)::(if 1<k then[(j,k-1,gs.getD j 0)]else[])
 | .row _=>rowPc gs is 0
 | _=>is.map fun j=>(j,1,0)
def PcsAt(H:Hp)(as:List Addr)(qs:List Pc):Prop:=All2 (fun a q=>H a=some (.tup [.int (q.1:Nat),.int q.2.1,.int q.2.2])) as qs
def PssAt(H:Hp)(as:List Addr)(qss:List (List Pc)):Prop:=All2 (fun a qs=>∃bs,H a=some (.lst (bs.map V.ref))/\PcsAt H bs qs) as qss
inductive sp_pieces_in(vs:List V)(H:Hp)(Q:VK)(xk:XK):Prop
 | mk (a l s:Addr) (f:Fm) (is:List Nat) (gs:List Int) (_:vs=[.ref a,.ref l,.ref s]) (_:FormAt H a f) (_:H l=some (.lst ((is.map fun j:Nat=>(j:Int)).map V.int))) (_:H s=some (.lst (gs.map V.int))) (_:is.length<=8) (_:(∀j∈is,j<gs.length)) (_:(∀k x,f = .again k x->is≠[])) (_:∀(p:Addr) (as:List Addr) (H':Hp),Same H H'->H p=none->H' p=some (.lst (as.map V.ref))->PcsAt H' as (pcsI gs f is)->Q (.ref p) H'):sp_pieces_in vs H Q xk
inductive sp_pieces_of(vs:List V)(H:Hp)(Q:VK)(xk:XK):Prop
 | mk (b pl pp s:Addr) (las pas:List Addr) (ls:List (Str×Int)) (ps:List (Str×Fm)) (gs:List Int) (_:vs=[.ref b,.ref s]) (_:BookAt H b pl pp las pas ls ps) (_:WfB ls ps) (_:H s=some (.lst (gs.map V.int))) (_:gs.length=ps.length) (_:∀(l:Addr) (as:List Addr) (H':Hp),Same H H'->H l=none->H' l=some (.lst (as.map V.ref))->PssAt H' as (ps.map fun p=>pcsI gs p.2 (inP ps p.2))->(∀a∈as,H a=none)->Q (.ref l) H'):sp_pieces_of vs H Q xk
noncomputable def ov(gs:List Int)(t:Int)(q:Pc):Int:=if q.2.1<(t-q.2.2)/gs.getD q.1 0 then q.2.1 else(t-q.2.2)/gs.getD q.1 0
noncomputable def prg1(gs:List Int)(t:Int)(q:Pc):Option Pr4:=
 if q.2.2<=t then some (q.1,q.2.2,ov gs t q,if ov gs t q<q.2.1 then some (t-q.2.2-ov gs t q*gs.getD q.1 0)else none)else none
noncomputable def prg(gs:List Int)(t:Int)(qs:List Pc):List Pr4:=qs.filterMap (prg1 gs t)
noncomputable def optV:Option Int->V
 | none=>.non
 | some r=>.int r
def PrgAt(H:Hp)(as:List Addr)(ys:List Pr4):Prop:=All2 (fun a y=>H a=some (.tup [.int (y.1:Nat),.int y.2.1,.int y.2.2.1,optV y.2.2.2])) as ys
def PcOk(gs:List Int)(q:Pc):Prop:=q.1<gs.length/\1<=gs.getD q.1 0/\gs.getD q.1 0<=10^60/\1<=q.2.1/\q.2.1<=10^18/\0<=q.2.2/\q.2.2<=10^62
inductive sp_progress(vs:List V)(H:Hp)(Q:VK)(xk:XK):Prop
 | mk (l s:Addr) (t:Int) (bs:List Addr) (qs:List Pc) (gs:List Int) (_:vs=[.ref l,.ref s,.int t]) (_:H l=some (.lst (bs.map V.ref))) (_:PcsAt H bs qs) (_:H s=some (.lst (gs.map V.int))) (_:qs.length<=8) (_:(∀q∈qs,PcOk gs q)) (_:0<=t) (_:t<=10^62) (_:∀(p:Addr) (as:List Addr) (H':Hp),Same H H'->H p=none->H' p=some (.lst (as.map V.ref))->PrgAt H' as (prg gs t qs)->Q (.ref p) H'):sp_progress vs H Q xk
def GonAt(H:Hp)(as:List Addr)(xs:List (Nat×Int)):Prop:=All2 (fun a x=>H a=some (.tup [.int (x.1:Nat),.int x.2])) as xs
noncomputable def wth1(gs:List Int)(y:Pr4):List (Nat×Int):=(if 0<y.2.2.1 then[(y.1,gs.getD y.1 0)]else[])++(match y.2.2.2 with | some r=>[(y.1,r)] | none=>[])
noncomputable def wth(gs:List Int)(t:Int)(qs:List Pc):List (Nat×Int):=(prg gs t qs).flatMap (wth1 gs)
inductive sp_within(vs:List V)(H:Hp)(Q:VK)(xk:XK):Prop
 | mk (l s:Addr) (t:Int) (bs:List Addr) (qs:List Pc) (gs:List Int) (_:vs=[.ref l,.ref s,.int t]) (_:H l=some (.lst (bs.map V.ref))) (_:PcsAt H bs qs) (_:H s=some (.lst (gs.map V.int))) (_:qs.length<=8) (_:(∀q∈qs,PcOk gs q)) (_:0<=t) (_:t<=10^62) (_:∀(p:Addr) (as:List Addr) (H':Hp),Same H H'->H p=none->H' p=some (.lst (as.map V.ref))->GonAt H' as (wth gs t qs)->Q (.ref p) H'):sp_within vs H Q xk
noncomputable def reachL(pc:Nat->List Pc)(gs:List Int):Nat->Nat->Int->List (Nat×Int)
 | 0,i,t=>[(i,t)]
 | n+1,i,t=>if gs.getD i 0<=t\/pc i=[]then[(i,t)]else(wth gs t (pc i)).flatMap fun x=>reachL pc gs n x.1 x.2
noncomputable def nodesL(pc:Nat->List Pc)(gs:List Int):Nat->Nat->Int->Nat
 | 0,_,_=>1
 | n+1,i,t=>if gs.getD i 0<=t\/pc i=[]then 1 else 1+((wth gs t (pc i)).map fun x=>nodesL pc gs n x.1 x.2).sum
noncomputable def pcB(ps:List (Str×Fm))(gs:List Int)(i:Nat):List Pc:=match ps[i]? with | some p=>pcsI gs p.2 (inP ps p.2) | none=>[]
section
variable{gs:List Int}{t:Int}
theorem ZX{is:List Nat}{b:Int}{q:Pc}(h:q∈rowPc gs is b):q.1∈is/\q.2.1=1:=by
 induction is generalizing b with
 | nil=>exact nomatch h
 | cons j r ih=>
  rcases mem_cons.mp h with rfl | h
  ·exact⟨mem_cons_self,rfl⟩
  ·obtain⟨a,b⟩:=ih h;exact⟨mem_cons_of_mem _ a,b⟩
theorem j02(is:List Nat)(b:Int):(rowPc gs is b).length=is.length:=by
 induction is generalizing b with
 | nil=>rfl
 | cons j r ih=>rw[rowPc,length_cons,length_cons,ih]
theorem YU{is:List Nat}{b:Int}{q:Pc}(hg:∀j∈is,0<=gs.getD j 0/\gs.getD j 0<=10^60)(h:q∈rowPc gs is b):b<=q.2.2/\q.2.2<=b+10^60*is.length:=by
 induction is generalizing b with
 | nil=>exact nomatch h
 | cons j r ih=>
  have g:=hg j mem_cons_self;rw[length_cons];rcases mem_cons.mp h with rfl | h
  ·have:(0:Int)<=10^60*((r.length+1:Nat):Int):=Int.mul_nonneg (by decide) (by omega);exact⟨Int.le_refl _,by show b<=_;omega⟩
  ·obtain⟨a,c⟩:=ih (fun k hk=>hg k (mem_cons_of_mem _ hk)) h;refine⟨by omega,?_⟩;rw[show((r.length+1:Nat):Int)=(r.length:Int)+1 by omega,Int.mul_add];omega
theorem Wx{f:Fm}{is:List Nat}{q:Pc}(h:q∈pcsI gs f is):q.1∈is:=by
 unfold pcsI at h;split at h
 ·split at h
  ·exact nomatch h
  ·rcases mem_cons.mp h with rfl | h
   ·exact mem_cons_self
   ·split at h
    ·rw[mem_singleton.mp h];exact mem_cons_self
    ·exact nomatch h
 ·exact(ZX h).1
 ·obtain⟨j,hj,rfl⟩:=mem_map.mp h;exact hj
theorem Wq{f:Fm}{is:List Nat}(h8:is.length<=8):(pcsI gs f is).length<=8:=by
 unfold pcsI;split
 ·split
  ·exact Nat.zero_le _
  ·split<;>simp
 ·rw[j02];exact h8
 ·rw[length_map];exact h8
theorem ZW{qs:List Pc}{y:Pr4}(h:y∈prg gs t qs):∃q∈qs,prg1 gs t q=some y:=mem_filterMap.mp h
theorem K5(qs:List Pc):(prg gs t qs).length<=qs.length:=List.length_filterMap_le _ _
theorem kJ{q:Pc}{y:Pr4}(h:prg1 gs t q=some y):y.1=q.1:=by
 unfold prg1 at h;split at h
 ·cases h;rfl
 ·cases h
theorem j2g{qs:List Pc}{x:Nat×Int}(h:x∈wth gs t qs):∃q∈qs,x.1=q.1:=by
 obtain⟨y,hy,hx⟩:=mem_flatMap.mp h;obtain⟨q,hq,e⟩:=ZW hy;refine⟨q,hq,?_⟩;rw[<-kJ e];unfold wth1 at hx;rcases mem_append.mp hx with z | z
 ·split at z
  ·rw[mem_singleton.mp z]
  ·exact nomatch z
 ·split at z
  ·rw[mem_singleton.mp z]
  ·exact nomatch z
theorem j0T(y:Pr4):(wth1 gs y).length<=2:=by
 unfold wth1;rw[List.length_append];have h1:(if 0<y.2.2.1 then[(y.1,gs.getD y.1 0)]else[]).length<=1:=by split<;>simp
 have h2:(match y.2.2.2 with | some r=>[(y.1,r)] | none=>[]:List (Nat×Int)).length<=1:=by split<;>simp
 omega
theorem j2d(qs:List Pc):(wth gs t qs).length<=2*qs.length:=by
 have h:∀ys:List Pr4,(ys.flatMap (wth1 gs)).length<=2*ys.length:=fun ys=>by
  induction ys with
  | nil=>exact Nat.zero_le _
  | cons y r ih=>
   rw[flatMap_cons,List.length_append,length_cons];have:=j0T (gs:=gs) y;omega
 have:=h (prg gs t qs);have:=K5 (gs:=gs) (t:=t) qs;unfold wth;omega
end
section
variable{ls:List (Str×Int)}{ps:List (Str×Fm)}{gs:List Int}
theorem Zj(W:WfB ls ps){i:Nat}{q:Pc}(h:q∈pcB ps gs i):q.1<i:=by
 unfold pcB at h;split at h
 ·rename_i p hp;exact W.inP_lt hp (Wx h)
 ·exact nomatch h
theorem YD(W:WfB ls ps){i:Nat}{t:Int}{x:Nat×Int}(h:x∈wth gs t (pcB ps gs i)):x.1<i:=by
 obtain⟨q,hq,e⟩:=j2g h;rw[e];exact Zj W hq
theorem zC{α β:Type}{f g:α->List β}:∀{l:List α},(∀x∈l,f x=g x)->l.flatMap f=l.flatMap g
 | [],_=>rfl
 | x::r,h=>by rw[flatMap_cons,flatMap_cons,h x mem_cons_self,zC fun y hy=>h y (mem_cons_of_mem _ hy)]
theorem kM(W:WfB ls ps):∀{n m i:Nat} {t:Int},i<n->i<m->reachL (pcB ps gs) gs n i t=reachL (pcB ps gs) gs m i t
 | 0,_,_,_,h,_=>absurd h (Nat.not_lt_zero _)
 | _,0,_,_,_,h=>absurd h (Nat.not_lt_zero _)
 | n+1,m+1,i,t,h1,h2=>by
  unfold reachL;split
  ·rfl
  ·exact zC fun x hx=>by
    have:=YD W hx;exact kM W (by omega) (by omega)
theorem kD(W:WfB ls ps):∀{n m i:Nat} {t:Int},i<n->i<m->nodesL (pcB ps gs) gs n i t=nodesL (pcB ps gs) gs m i t
 | 0,_,_,_,h,_=>absurd h (Nat.not_lt_zero _)
 | _,0,_,_,_,h=>absurd h (Nat.not_lt_zero _)
 | n+1,m+1,i,t,h1,h2=>by
  unfold nodesL;split
  ·rfl
  ·congr 2;exact map_congr_left fun x hx=>by
    have:=YD W hx;exact kD W (by omega) (by omega)
noncomputable def reach(ps:List (Str×Fm))(gs:List Int)(i:Nat)(t:Int):List (Nat×Int):=reachL (pcB ps gs) gs (i+1) i t
noncomputable def nodes(ps:List (Str×Fm))(gs:List Int)(i:Nat)(t:Int):Nat:=nodesL (pcB ps gs) gs (i+1) i t
theorem zm{i:Nat}{t:Int}(h:gs.getD i 0<=t\/pcB ps gs i=[]):reach ps gs i t=[(i,t)]:=by
 unfold reach reachL;rw[if_pos h]
theorem yi(W:WfB ls ps){i:Nat}{t:Int}(h:¬(gs.getD i 0<=t\/pcB ps gs i=[])):reach ps gs i t=(wth gs t (pcB ps gs i)).flatMap fun x=>reach ps gs x.1 x.2:=by
 unfold reach;rw[reachL,if_neg h];exact zC fun x hx=>by
  have:=YD W hx;exact kM W (by omega) (by omega)
theorem yc{i:Nat}{t:Int}(h:gs.getD i 0<=t\/pcB ps gs i=[]):nodes ps gs i t=1:=by
 unfold nodes nodesL;rw[if_pos h]
theorem kE(W:WfB ls ps){i:Nat}{t:Int}(h:¬(gs.getD i 0<=t\/pcB ps gs i=[])):nodes ps gs i t=1+((wth gs t (pcB ps gs i)).map fun x=>nodes ps gs x.1 x.2).sum:=by
 unfold nodes;rw[nodesL,if_neg h];congr 2;exact map_congr_left fun x hx=>by
  have:=YD W hx;exact kD W (by omega) (by omega)
theorem ZY(i:Nat)(t:Int):1<=nodes ps gs i t:=by
 unfold nodes nodesL;split<;>omega
end
section
variable{gs:List Int}{t:Int}
noncomputable def wq(gs:List Int)(t:Int)(q:Pc):List (Nat×Int):=match prg1 gs t q with | some y=>wth1 gs y | none=>[]
theorem j2x:wth gs t []=[]:=rfl
theorem ZP(q:Pc)(qs:List Pc):wth gs t (q::qs)=wq gs t q++wth gs t qs:=by
 unfold wth prg wq;rw[filterMap_cons];cases prg1 gs t q with
 | none=>rfl
 | some y=>rfl
theorem j2v{q:Pc}(h:t<q.2.2):wq gs t q=[]:=by
 unfold wq prg1;rw[if_neg (by omega)]
theorem xW{j:Nat}{b:Int}(hg:1<=gs.getD j 0)(h:b<=t):wq gs t (j,1,b)=if gs.getD j 0<=t-b then[(j,gs.getD j 0)]else[(j,t-b)]:=by
 have eq:wq gs t (j,1,b)=wth1 gs (j,b,ov gs t (j,1,b),if ov gs t (j,1,b)<1 then some (t-b-ov gs t (j,1,b)*gs.getD j 0)else none):=by
  unfold wq prg1;rw[if_pos (show b<=t from h)]
 rw[eq];generalize hgj:gs.getD j 0=g at hg|-;have e:ov gs t (j,1,b)=if g<=t-b then 1 else 0:=by
  show(if(1:Int)<(t-b)/gs.getD j 0 then(1:Int)else(t-b)/gs.getD j 0)=_;rw[hgj];by_cases z:g<=t-b
  ·rw[if_pos z];have:1<=(t-b)/g:=by
    rw[Int.le_ediv_iff_mul_le (by omega)];omega
   split<;>omega
  ·rw[if_neg z];have:(t-b)/g=0:=Int.ediv_eq_zero_of_lt (by omega) (by omega);rw[this];rfl
 by_cases z:g<=t-b
 ·rw[if_pos z]at e;rw[if_pos z,e];unfold wth1;simp;rw[<-getD_eq_getElem?_getD];exact hgj
 ·rw[if_neg z]at e;rw[if_neg z,e];unfold wth1;simp
theorem j2w{q:Pc}(h:q.2.2<=t):wq gs t q=(if 0<ov gs t q then[(q.1,gs.getD q.1 0)]else[])++(if ov gs t q<q.2.1 then[(q.1,t-q.2.2-ov gs t q*gs.getD q.1 0)]else[]):=by
 unfold wq prg1;rw[if_pos h];show wth1 gs _=_;unfold wth1;congr 1;show(match(if ov gs t q<q.2.1 then some (t-q.2.2-ov gs t q*gs.getD q.1 0)else none)with | some r=>[(q.1,r)] | none=>[])=_;split<;>rename_i e<;>split at e
 ·cases e;rw[if_pos (by assumption)]
 ·cases e
 ·cases e
 ·rw[if_neg (by assumption)]
theorem kU:∀{qs:List Pc},(∀q∈qs,t<q.2.2)->wth gs t qs=[]
 | [],_=>rfl
 | q::r,h=>by rw[ZP,j2v (h q mem_cons_self),kU fun q hq=>h q (mem_cons_of_mem _ hq)];rfl
theorem WI{is:List Nat}{b:Int}(hg:∀j∈is,0<=gs.getD j 0/\gs.getD j 0<=10^60)(h:t<b):wth gs t (rowPc gs is b)=[]:=
 kU fun q hq=>by have:=(YU hg hq).1;omega
theorem j1s{j:Nat}{r:List Nat}{b:Int}(hg:∀k∈j::r,1<=gs.getD k 0/\gs.getD k 0<=10^60)(h:b<=t):wth gs t (rowPc gs (j::r) b)=if gs.getD j 0<=t-b then(j,gs.getD j 0)::wth gs t (rowPc gs r (b+gs.getD j 0))else[(j,t-b)]:=by
 have g:=hg j mem_cons_self;rw[rowPc,ZP,xW g.1 h];split
 ·rfl
 ·rw[WI (fun k hk=>by have:=hg k (mem_cons_of_mem _ hk);omega) (by omega)];rfl
theorem j1D{α:Type}{f g:α->Nat}:∀{l:List α},(∀x∈l,f x<=g x)->(l.map f).sum<=(l.map g).sum
 | [],_=>Nat.le_refl _
 | x::r,h=>by
  rw[map_cons,map_cons,sum_cons,sum_cons];have:=h x mem_cons_self;have:=j1D (l:=r) fun y hy=>h y (mem_cons_of_mem _ hy)
  omega
theorem XG{N:Nat×Int->Nat}{B:Nat}:∀{is:List Nat} {b:Int},(∀k∈is,1<=gs.getD k 0/\gs.getD k 0<=10^60)->(∀k∈is,N (k,gs.getD k 0)=1)->(∀k∈is,∀r,0<=r->N (k,r)<=B)->((wth gs t (rowPc gs is b)).map N).sum<=is.length+B
 | [],b,_,_,_=>Nat.zero_le _
 | j::r,b,hg,h1,h2=>by
  by_cases h:b<=t
  ·rw[j1s hg h];split
   ·rw[map_cons,sum_cons,h1 j mem_cons_self,length_cons];have:=XG (N:=N) (B:=B) (is:=r) (b:=b+gs.getD j 0) (fun k hk=>hg k (mem_cons_of_mem _ hk)) (fun k hk=>h1 k (mem_cons_of_mem _ hk)) fun k hk=>h2 k (mem_cons_of_mem _ hk)
    omega
   ·have:=h2 j mem_cons_self (t-b) (by omega);simp;omega
  ·rw[WI (fun k hk=>by have:=hg k hk;omega) (by omega)];exact Nat.zero_le _
theorem j1y{is:List Nat}(hg:∀k∈is,1<=gs.getD k 0)(ht:0<=t):wth gs t (is.map fun j=>(j,1,0))=is.map fun j=>if gs.getD j 0<=t then(j,gs.getD j 0)else(j,t):=by
 induction is with
 | nil=>rfl
 | cons j r ih=>
  rw[map_cons,ZP,xW (hg j mem_cons_self) ht,ih fun k hk=>hg k (mem_cons_of_mem _ hk),map_cons,Int.sub_zero];split<;>rfl
theorem XS{N:Nat×Int->Nat}{B:Nat}{j:Nat}{k:Int}(hg:1<=gs.getD j 0)(ht:0<=t)(h1:N (j,gs.getD j 0)=1)(h2:∀r,0<=r->N (j,r)<=B) :
  ((wth gs t ((j,1,0)::(if 1<k then[(j,k-1,gs.getD j 0)]else[]))).map N).sum<=2+B:=by
 rw[ZP,xW hg ht,Int.sub_zero,map_append,sum_append];by_cases z:gs.getD j 0<=t
 ·rw[if_pos z];have a:((wth gs t (if 1<k then[(j,k-1,gs.getD j 0)]else[])).map N).sum<=1+B:=by
   split
   ·rw[ZP,j2x,append_nil,j2w (show gs.getD j 0<=t from z),map_append,sum_append];have b1:(((if 0<ov gs t (j,k-1,gs.getD j 0)then[(j,gs.getD j 0)]else[]):List (Nat×Int)).map N).sum<=1:=by
     split
     ·simp;rw[<-getD_eq_getElem?_getD,h1];exact Nat.le_refl _
     ·simp
    have b2:(((if ov gs t (j,k-1,gs.getD j 0)<k-1 then[(j,t-gs.getD j 0-ov gs t (j,k-1,gs.getD j 0)*gs.getD j 0)]else[]):List (Nat×Int)).map N).sum<=B:=by
     split
     ·have ho:ov gs t (j,k-1,gs.getD j 0)=(t-gs.getD j 0)/gs.getD j 0:=by
       show(if k-1<(t-gs.getD j 0)/gs.getD j 0 then k-1 else(t-gs.getD j 0)/gs.getD j 0)=_;rename_i c;have c':(if k-1<(t-gs.getD j 0)/gs.getD j 0 then k-1 else(t-gs.getD j 0)/gs.getD j 0)<k-1:=c;split at c'
       ·omega
       ·rename_i z;rw[if_neg z]
      have:=h2 (t-gs.getD j 0-ov gs t (j,k-1,gs.getD j 0)*gs.getD j 0) (by
       rw[ho];have:=Int.ediv_mul_le (t-gs.getD j 0) (show gs.getD j 0≠0 by omega);omega)
      simp;exact this
     ·simp
    have e1:((if 0<ov gs t (j,k-1,gs.getD j 0)then[((j,k-1,gs.getD j 0):Pc).1].map fun a=>(a,gs.getD a 0)else[]):List (Nat×Int))=if 0<ov gs t (j,k-1,gs.getD j 0)then[(j,gs.getD j 0)]else[]:=rfl
    exact Nat.add_le_add b1 b2
   ·exact Nat.zero_le _
  have:(([(j,gs.getD j 0)]:List (Nat×Int)).map N).sum=1:=by
   simp;rw[<-getD_eq_getElem?_getD,h1]
  omega
 ·rw[if_neg z];have e:wth gs t (if 1<k then[(j,k-1,gs.getD j 0)]else[])=[]:=by
   split
   ·exact kU fun q hq=>by rw[mem_singleton.mp hq];show t<gs.getD j 0;omega
   ·rfl
  rw[e];have:=h2 t ht;simp;omega
end
theorem len_sub{a b:List Int}(h1:a.Nodup)(h2:∀x∈a,x∈b):a.length<=b.length:=by
 induction a generalizing b with
 | nil=>exact Nat.zero_le _
 | cons x r ih=>
  rw[nodup_cons]at h1;have hx:=h2 x mem_cons_self;have:=ih (b:=b.erase x) h1.2 fun y hy=>by
   have hne:y≠x:=fun e=>h1.1 (e▸hy)
   exact(List.mem_erase_of_ne hne).mpr (h2 y (mem_cons_of_mem _ hy))
  rw[List.length_erase_of_mem hx]at this;have:0<b.length:=List.length_pos_of_mem hx;rw[length_cons];omega
section
variable{ls:List (Str×Int)}{ps:List (Str×Fm)}{gs:List Int}{hs:List (List Int)}
theorem KB(S:Snd ls ps gs hs)(hl:hs.length=ps.length){i:Nat}(hi:i<ps.length):hs[i]?=some (hs.getD i []):=by
 rw[getD_eq_getElem?_getD,List.getElem?_eq_getElem (by omega)];rfl
theorem j2V(S:Snd ls ps gs hs)(hl:hs.length=ps.length)(M:MovOk ls ps hs){i:Nat}{p:Str×Fm}(hp:ps[i]?=some p){j:Nat}(hj:j∈inP ps p.2):(hs.getD j []).length<=(hs.getD i []).length:=by
 have hi:=(List.getElem?_eq_some_iff.mp hp).1;have lj:=S.w.inP_lt hp hj;obtain⟨_,b⟩:=M i p _ hp (KB S hl hi);obtain⟨a,_⟩:=M j _ _ (List.getElem?_eq_getElem (show j<ps.length by omega)) (KB S hl (by omega));exact len_sub (a.imp fun h=>by omega) fun k hk=>(b k).mpr (.inl ⟨j,hj,hk⟩)
theorem j1x(S:Snd ls ps gs hs)(hl:hs.length=ps.length)(M:MovOk ls ps hs){i:Nat}{p:Str×Fm}{qs:List Str}(hp:ps[i]?=some p)(e:p.2 = .side qs):((inP ps p.2).map fun j=>(hs.getD j []).length).sum<=(hs.getD i []).length:=by
 have hi:=(List.getElem?_eq_some_iff.mp hp).1;obtain⟨_,one⟩:=S.sd i p qs hp e;obtain⟨_,b⟩:=M i p _ hp (KB S hl hi);have lt:=fun j=>S.w.inP_lt (j:=j) hp
 have nd:∀is:List Nat,(∀j∈is,j<ps.length)->(∀k:Int,((is.map fun j=>hs.getD j []).filter fun ks=>decide (k∈ks)).length<=1)->(is.flatMap fun j=>hs.getD j []).Nodup:=fun is=>by
  induction is with
  | nil=>exact fun _ _=>.nil
  | cons j r ih=>
   intro h1 h2;rw[flatMap_cons];have nj:(hs.getD j []).Nodup:=by
    obtain⟨a,_⟩:=M j _ _ (List.getElem?_eq_getElem (h1 j mem_cons_self)) (KB S hl (h1 j mem_cons_self));exact a.imp fun h=>by omega
   refine nodup_append.mpr ⟨nj,ih (fun k hk=>h1 k (mem_cons_of_mem _ hk)) fun k=>?_,fun a ha b hb eab=>?_⟩
   ·have:=h2 k;rw[map_cons,filter_cons]at this;split at this
    ·rw[length_cons]at this;omega
    ·exact this
   ·subst eab;obtain⟨j',hj',hk'⟩:=mem_flatMap.mp hb;have:=h2 a;rw[map_cons,filter_cons,if_pos (decide_eq_true ha),length_cons]at this;have pos:0<((r.map fun j=>hs.getD j []).filter fun ks=>decide (a∈ks)).length:=List.length_pos_of_mem (mem_filter.mpr ⟨mem_map.mpr ⟨j',hj',rfl⟩,decide_eq_true hk'⟩);omega
 have n:=nd (inP ps p.2) (fun j hj=>by have:=lt j hj;omega) one;have le:=len_sub (b:=hs.getD i []) n fun k hk=>by
  obtain⟨j,hj,hk⟩:=mem_flatMap.mp hk;exact(b k).mpr (.inl ⟨j,hj,hk⟩)
 rw[List.length_flatMap]at le;exact le
theorem XN{α:Type}{f:α->Nat}{c:Nat}:∀{l:List α},(l.map fun x=>c*f x).sum=c*(l.map f).sum
 | []=>rfl
 | x::r=>by rw[map_cons,map_cons,sum_cons,sum_cons,XN,Nat.mul_add]
theorem j1a(S:Snd ls ps gs hs)(hl:hs.length=ps.length)(M:MovOk ls ps hs)(g1:∀i,i<ps.length->1<=gs.getD i 0):∀i t,i<ps.length->0<=t->nodes ps gs i t<=9*(i+1)*max 1 (hs.getD i []).length:=by
 intro i
 induction i using Nat.strongRecOn with
 | ind i ih=>
  intro t hi ht;have W:=S.w;have m1:1<=max 1 (hs.getD i []).length:=Nat.le_max_left _ _;by_cases hleaf:gs.getD i 0<=t\/pcB ps gs i=[]
  ·rw[yc hleaf];have:1*1<=9*(i+1)*max 1 (hs.getD i []).length:=Nat.mul_le_mul (by omega) m1;omega
  rw[kE W hleaf];obtain⟨p,hp⟩:∃p,ps[i]?=some p:=⟨_,List.getElem?_eq_getElem hi⟩
  have epc:pcB ps gs i=pcsI gs p.2 (inP ps p.2):=by unfold pcB;rw[hp]
  have lt:=fun j=>W.inP_lt (j:=j) hp
  have hg:∀k∈inP ps p.2,1<=gs.getD k 0/\gs.getD k 0<=10^60:=fun k hk=>by
   have:=lt k hk;exact⟨g1 k (by omega),(S.gb k (by omega)).2⟩
  have i8:(inP ps p.2).length<=8:=by unfold inP;rw[length_map];exact(W.f i p hp).2
  have hone:∀k∈inP ps p.2,nodes ps gs k (gs.getD k 0)=1:=fun k _=>yc (.inl (Int.le_refl _))
  have hB:∀k∈inP ps p.2,∀r,0<=r->nodes ps gs k r<=9*i*max 1 (hs.getD i []).length:=fun k hk r hr=>by
   have l:=lt k hk;have:=ih k l r (by omega) hr;have s:=j2V S hl M hp hk;refine Nat.le_trans this (Nat.mul_le_mul (by omega) ?_);exact Nat.max_le.mpr ⟨Nat.le_max_left _ _,Nat.le_trans s (Nat.le_max_right _ _)⟩
  have fin:∀X:Nat,X<=8+9*i*max 1 (hs.getD i []).length->1+X<=9*(i+1)*max 1 (hs.getD i []).length:=fun X hX=>by
   rw[Nat.mul_add,Nat.add_mul];have:9*1*1<=9*1*max 1 (hs.getD i []).length:=Nat.mul_le_mul (Nat.le_refl _) m1;omega
  rw[epc];cases e:p.2 with
  | again k x=>
   have ein:inP ps p.2=[ixOf (nmsOf ps) x]:=by rw[e];rfl
   rw[e]at ein;rw[ein];have mem:ixOf (nmsOf ps) x∈inP ps p.2:=by rw[e,ein];exact mem_cons_self
   refine fin _ (Nat.le_trans (XS (N:=fun x=>nodes ps gs x.1 x.2) (hg _ mem).1 ht (hone _ mem) (hB _ mem)) (by omega))
  | row xs=>
   rw[e]at hg hone hB i8;exact fin _ (Nat.le_trans (XG (N:=fun x=>nodes ps gs x.1 x.2) hg hone hB) (by omega))
  | side xs=>
   have sl:=j1x S hl M hp e;obtain⟨ne,_⟩:=S.sd i p xs hp e;rw[show pcsI gs (.side xs) (inP ps (.side xs))=(inP ps (.side xs)).map fun j=>(j,1,0)from rfl];rw[e]at hg hone sl ne lt;rw[j1y (fun k hk=>(hg k hk).1) ht,map_map];have le:((inP ps (.side xs)).map ((fun x=>nodes ps gs x.1 x.2)∘fun j=>if gs.getD j 0<=t then(j,gs.getD j 0)else(j,t))).sum<=((inP ps (.side xs)).map fun j=>9*i*(hs.getD j []).length).sum:=by
    refine j1D fun j hj=>?_
    have l:=lt j hj;have n1:1<=(hs.getD j []).length:=length_pos_iff.mpr (ne j hj);have nd:∀r,0<=r->nodes ps gs j r<=9*i*(hs.getD j []).length:=fun r hr=>by
     have:=ih j l r (by omega) hr;rw[Nat.max_eq_right n1]at this;exact Nat.le_trans this (Nat.mul_le_mul (by omega) (Nat.le_refl _))
    show nodes ps gs (if gs.getD j 0<=t then(j,gs.getD j 0)else(j,t)).1 (if gs.getD j 0<=t then(j,gs.getD j 0)else(j,t)).2<=_;split
    ·exact nd _ (by have:=hg j hj;omega)
    ·exact nd _ ht
   rw[XN]at le;refine fin _ (Nat.le_trans le (Nat.le_trans (Nat.mul_le_mul (Nat.le_refl (9*i)) (Nat.le_trans sl (Nat.le_max_right 1 _))) (Nat.le_add_left _ _)))
  | hold n=>
   exact absurd (.inr (by rw[epc,e];rfl)) hleaf
  | ring x n=>
   exact absurd (.inr (by rw[epc,e];rfl)) hleaf
  | rise x v n=>
   exact absurd (.inr (by rw[epc,e];rfl)) hleaf
end
structure Sn(ls:List (Str×Int))(ps:List (Str×Fm))(gs:List Int)(hs:List (List Int)):Prop where
 s:Snd ls ps gs hs
 hl:hs.length=ps.length
 m:MovOk ls ps hs
 g1:∀i,i<ps.length->1<=gs.getD i 0
 ne:1<=ps.length
 l18:∀q∈ls,0<=q.2/\q.2<=10^18
 r18:∀(i:Nat) (y x:Str) (v n:Int),ps[i]?=some (y,.rise x v n)->0<=v/\v<=10^18/\1<=n/\n<=10^18
 a18:∀(i:Nat) (y x:Str) (k:Int),ps[i]?=some (y,.again k x)->1<=k/\k<=10^18
section
variable{ls:List (Str×Int)}{ps:List (Str×Fm)}{gs:List Int}{hs:List (List Int)}
theorem Sn.g(N:Sn ls ps gs hs){i:Nat}(hi:i<ps.length):1<=gs.getD i 0/\gs.getD i 0<=10^60:=⟨N.g1 i hi,(N.s.gb i hi).2⟩
theorem Sn.j0J(N:Sn ls ps gs hs){i:Nat}(hi:i<ps.length):gs[i]?=some (gs.getD i 0):=by
 rw[getD_eq_getElem?_getD,List.getElem?_eq_getElem (by rw[N.s.gl];exact hi)];rfl
theorem Sn.i8(N:Sn ls ps gs hs){i:Nat}{p:Str×Fm}(hp:ps[i]?=some p):(inP ps p.2).length<=8:=by
 unfold inP;rw[length_map];exact(N.s.w.f i p hp).2
theorem Sn.pcOk(N:Sn ls ps gs hs){i:Nat}{q:Pc}(h:q∈pcB ps gs i):PcOk gs q:=by
 have lt:=Zj N.s.w h;have h0:=h;unfold pcB at h;split at h
 case h_2=>exact nomatch h
 rename_i p hp;have hi:=(List.getElem?_eq_some_iff.mp hp).1;have g:=N.g (show q.1<ps.length by omega);have i8:=N.i8 hp;have hg:∀k∈inP ps p.2,0<=gs.getD k 0/\gs.getD k 0<=10^60:=fun k hk=>by
  have:=N.s.w.inP_lt hp hk;have:=N.g (show k<ps.length by omega);omega
 refine⟨by rw[N.s.gl];omega,g.1,g.2,?_⟩;unfold pcsI at h;split at h
 ·rename_i k x e;have k18:=N.a18 i p.1 x k (by rw[hp,<-e]);split at h
  ·exact nomatch h
  ·rename_i j r ein;have gj:=hg j (by rw[ein];exact mem_cons_self);rcases mem_cons.mp h with rfl | h
   ·exact⟨(by show(1:Int)<=1;decide),(by show(1:Int)<=10^18;decide),(by show(0:Int)<=0;decide),(by show(0:Int)<=10^62;decide)⟩
   ·split at h
    ·rw[mem_singleton.mp h];refine⟨?_,?_,gj.1,?_⟩
     ·show 1<=k-1;omega
     ·show k-1<=_;omega
     ·show gs.getD j 0<=_;omega
    ·exact nomatch h
 ·obtain⟨b0,b1⟩:=YU hg h;have e1:=(ZX h).2;refine⟨by omega,by omega,b0,?_⟩;have:(10:Int)^60*((inP ps p.2).length:Int)<=10^60*8:=Int.mul_le_mul_of_nonneg_left (by omega) (by decide);omega
 ·obtain⟨j,hj,rfl⟩:=mem_map.mp h;exact⟨(by show(1:Int)<=1;decide),(by show(1:Int)<=10^18;decide),(by show(0:Int)<=0;decide),(by show(0:Int)<=10^62;decide)⟩
theorem j1f{t:Int}{q:Pc}(ok:PcOk gs q)(h:q.2.2<=t):0<=ov gs t q/\ov gs t q<=q.2.1/\ov gs t q*gs.getD q.1 0<=t-q.2.2/\0<=ov gs t q*gs.getD q.1 0:=by
 obtain⟨_,g1,_,t1,_,_⟩:=ok;have d0:0<=(t-q.2.2)/gs.getD q.1 0:=Int.ediv_nonneg (by omega) (by omega);have dm:=Int.ediv_mul_le (t-q.2.2) (show gs.getD q.1 0≠0 by omega);have o0:0<=ov gs t q/\ov gs t q<=q.2.1/\ov gs t q<=(t-q.2.2)/gs.getD q.1 0:=by
  unfold ov;split<;>omega
 refine⟨o0.1,o0.2.1,?_,Int.mul_nonneg o0.1 (by omega)⟩;exact Int.le_trans (Int.mul_le_mul_of_nonneg_right o0.2.2 (by omega)) dm
theorem xY{t:Int}{qs:List Pc}(ok:∀q∈qs,PcOk gs q){x:Nat×Int}(h:x∈wth gs t qs):0<=x.2:=by
 obtain⟨y,hy,hx⟩:=mem_flatMap.mp h;obtain⟨q,hq,e⟩:=ZW hy;have o:=ok q hq;by_cases c:q.2.2<=t
 case neg=>unfold prg1 at e;rw[if_neg c]at e;cases e
 have b:=j1f o c;unfold prg1 at e;rw[if_pos c]at e;have e':=Option.some.inj e;subst e';unfold wth1 at hx;rcases mem_append.mp hx with z | z
 ·have z:x∈(if 0<ov gs t q then[(q.1,gs.getD q.1 0)]else[]):=z;split at z
  ·rw[mem_singleton.mp z];exact Int.le_trans (by decide) o.2.1
  ·exact nomatch z
 ·split at z
  ·rename_i r er;rw[mem_singleton.mp z];have er:(if ov gs t q<q.2.1 then some (t-q.2.2-ov gs t q*gs.getD q.1 0)else none)=some r:=er;split at er
   ·cases er;show 0<=t-q.2.2-ov gs t q*gs.getD q.1 0;omega
   ·cases er
  ·exact nomatch z
theorem Sn.nodes(N:Sn ls ps gs hs)(M8:∀i,i<ps.length->(hs.getD i []).length<=8){i:Nat}{t:Int}(hi:i<ps.length)(ht:0<=t):Rm.nodes ps gs i t<=5000:=by
 have:=j1a N.s N.hl N.m N.g1 i t hi ht;have p61:=N.s.w.p61;have m8:=M8 i hi;have:9*(i+1)*max 1 (hs.getD i []).length<=9*61*8:=Nat.mul_le_mul (by omega) (by omega);omega
end
noncomputable def ringX(ps:List (Str×Fm))(x:Nat×Int):List Str:=match ps[x.1]? with
 | some (_,.ring y _)=>if x.2=0 then[y]else[]
 | _=>[]
noncomputable def ringsW(ps:List (Str×Fm))(gs:List Int)(t:Int):List Str:=(reach ps gs (ps.length-1) t).flatMap (ringX ps)
inductive sp_ringsG(vs:List V)(H:Hp)(Q:VK)(xk:XK):Prop
 | mk (b pl pp:Addr) (las pas:List Addr) (ls:List (Str×Int)) (ps:List (Str×Fm)) (gs:List Int) (hs:List (List Int)) (t:Int) (_:vs=[.ref b,.int t]) (_:BookAt H b pl pp las pas ls ps) (_:Sn ls ps gs hs) (_:0<=t) (_:t<=gs.getD (ps.length-1) 0) (_:∀(l:Addr) (H':Hp),Same H H'->H l=none->H' l=some (.lst ((ringsW ps gs t).map V.str))->(ringsW ps gs t).length<=5000->Q (.ref l) H'):sp_ringsG vs H Q xk
theorem All2.app{α:Type}{R:Addr->α->Prop}{as bs:List Addr}{xs ys:List α}(h:All2 R as xs)(k:All2 R bs ys):All2 R (as++bs) (xs++ys):=by
 have hl:=h.1;refine⟨by rw[List.length_append,List.length_append,h.1,k.1],fun i a x h1 h2=>?_⟩;by_cases hi:i<as.length
 ·rw[List.getElem?_append_left hi]at h1;rw[List.getElem?_append_left (by omega)]at h2;exact h.2 i a x h1 h2
 ·rw[List.getElem?_append_right (by omega)]at h1;rw[List.getElem?_append_right (by omega)]at h2;exact k.2 _ a x h1 (by rw[hl];exact h2)
theorem All2.cons{α:Type}{R:Addr->α->Prop}{a:Addr}{as:List Addr}{x:α}{xs:List α}(h:R a x)(k:All2 R as xs):All2 R (a::as) (x::xs):=All2.app (as:=[a]) (xs:=[x]) (All2.snoc (as:=[]) (xs:=[]) .nil h) k
theorem All2.rev{α:Type}{R:Addr->α->Prop}:∀{as:List Addr} {xs:List α},All2 R as xs->All2 R as.reverse xs.reverse
 | [],[],_=>.nil
 | [],_::_,h=>absurd h.1 (by simp)
 | _::_,[],h=>absurd h.1 (by simp)
 | a::as,x::xs,h=>by
  rw[reverse_cons,reverse_cons];exact All2.app (All2.rev (All2.tail h).2) (All2.snoc (as:=[]) (xs:=[]) .nil (All2.tail h).1)
theorem All2.last{α:Type}{R:Addr->α->Prop}{as:List Addr}{xs:List α}{x:α}(h:All2 R as (xs++[x])):∃as' a,as=as'++[a]/\All2 R as' xs/\R a x:=by
 rcases List.eq_nil_or_concat as with rfl | ⟨as',a,rfl⟩
 ·have:=h.1;simp at this
 ·rw[List.concat_eq_append]at h|-;have hl:=h.1;rw[List.length_append,List.length_append]at hl;have hl':as'.length=xs.length:=by simpa using hl
  refine⟨as',a,rfl,⟨hl',fun i b y h1 h2=>?_⟩,?_⟩
  ·have hi:=(List.getElem?_eq_some_iff.mp h1).1;exact h.2 i b y (by rw[List.getElem?_append_left hi];exact h1) (by rw[List.getElem?_append_left (by omega)];exact h2)
  ·exact h.2 as'.length a x (by simp) (by rw[hl'];simp)
theorem Xd{gs:List Int}{n:Nat}(h:1<=n)(e:gs.length=n):atI (gs.map V.int) (-1)=some (.int (gs.getD (n-1) 0)):=by
 have i:ixN n (-1)=some (n-1):=by
  unfold ixN;simp;omega
 unfold atI;rw[length_map,e,i];show(gs.map V.int)[n-1]?=_;rw[List.getElem?_map,getD_eq_getElem?_getD,List.getElem?_eq_getElem (by omega)];rfl
section
variable{ls:List (Str×Int)}{ps:List (Str×Fm)}{gs:List Int}{hs:List (List Int)}
theorem j1q(W:WfB ls ps):∀{i:Nat} {t:Int} {x:Nat×Int},i<ps.length->x∈reach ps gs i t->x.1<ps.length:=by
 intro i
 induction i using Nat.strongRecOn with
 | ind i ih=>
  intro t x hi hx;by_cases h:gs.getD i 0<=t\/pcB ps gs i=[]
  ·rw[zm h]at hx;rw[mem_singleton.mp hx];exact hi
  ·rw[yi W h]at hx;obtain⟨y,hy,hx⟩:=mem_flatMap.mp hx;have:=YD W hy;exact ih y.1 this (by omega) hx
theorem j2L(N:Sn ls ps gs hs){E:List (List (Int×Int))}(lE:E.length=ps.length)(oE:EndOk ls ps E):∀{i:Nat},i<ps.length->∀q∈E.getD i [],0<=q.2/\q.2<=10^18:=by
 intro i
 induction i using Nat.strongRecOn with
 | ind i ih=>
  intro hi q hq;have hE:E[i]?=some (E.getD i []):=by rw[getD_eq_getElem?_getD,List.getElem?_eq_getElem (by omega)];rfl
  obtain⟨p,hp⟩:∃p,ps[i]?=some p:=⟨_,List.getElem?_eq_getElem hi⟩
  rcases((oE i p _ hp hE).2 q.1 q.2).mp hq with⟨pre,j,post,e,h1,_⟩ | ⟨x,n,e,_⟩
  ·have hj:j∈inP ps p.2:=by rw[e];simp
   have:=N.s.w.inP_lt hp hj;exact ih j this (by omega) _ h1
  ·have:=N.r18 i p.1 x q.2 n (by rw[hp,<-e]);omega
end
inductive Fn where
 | hold (n:Int) | ring (x:Str) (n:Int) | rise (x:Str) (h n:Int) | row (is:List Nat) | side (is:List Nat) | again (k:Int) (j:Nat)
noncomputable def Fn.js:Fn->List Nat
 | .row is=>is
 | .side is=>is
 | .again _ j=>[j]
 | _=>[]
def Ex(p:Addr)(H H':Hp):Prop:=∀c u,c≠p->H c=some u->H' c=some u
theorem Ex.refl{p:Addr}(H:Hp):Ex p H H:=fun _ _ _ h=>h
theorem Ex.trans{p:Addr}{H1 H2 H3:Hp}(a:Ex p H1 H2)(b:Ex p H2 H3):Ex p H1 H3:=fun c u n h=>b c u n (a c u n h)
theorem Ex.of{p:Addr}{H H':Hp}(s:Same H H'):Ex p H H':=fun c u _ h=>s c u h
noncomputable def LenN(gs:List Int):Fn->Int->Prop
 | .hold n,g=>g=n
 | .ring _ n,g=>g=n
 | .rise _ _ n,g=>g=n
 | .row is,g=>g=(is.map fun j=>gs.getD j 0).sum
 | .side is,g=>(∃j∈is,g=gs.getD j 0)/\∀j∈is,gs.getD j 0<=g
 | .again k j,g=>g=k*gs.getD j 0
def MovN(L:List Str)(M:List (List Int))(f:Fn)(ks:List Int):Prop:=ks.Pairwise (· < ·)/\∀k,k∈ks↔(∃j∈f.js,k∈M.getD j [])\/∃(x:Str) (h n:Int) (i:Nat),f = .rise x h n/\L[i]?=some x/\k=(i:Int)
def ApartN(M:List (List Int))(is:List Nat):Prop:=(∀j∈is,M.getD j []≠[])/\is.Pairwise fun a b=>∀k∈M.getD a [],¬k∈M.getD b []
noncomputable def PreN(L:List Str)(M:List (List Int))(n:Nat):Fn->Prop
 | .hold m=>1<=m/\m<=10^18
 | .ring x m=>1<=m/\m<=10^18/\Ws.isW x=true
 | .rise x h m=>(∃i:Nat,L[i]?=some x)/\0<=h/\h<=10^18/\1<=m/\m<=10^18
 | .row is=>is≠[]/\is.length<=8/\∀j∈is,j<n
 | .side is=>2<=is.length/\is.length<=8/\(∀j∈is,j<n)/\ApartN M is
 | .again k j=>1<=k/\k<=10^18/\j<n
theorem PreN.js{L:List Str}{M:List (List Int)}{n:Nat}{f:Fn}(h:PreN L M n f):f.js.length<=8/\∀j∈f.js,j<n:=by
 cases f with
 | row is=>exact h.2
 | side is=>exact⟨h.2.1,h.2.2.1⟩
 | again k j=>exact⟨by show 1<=8;omega,fun i hi=>by rw[mem_singleton.mp hi];exact h.2.2⟩
 | hold n=>exact⟨Nat.zero_le _,fun j h=>nomatch h⟩
 | ring x n=>exact⟨Nat.zero_le _,fun j h=>nomatch h⟩
 | rise x v n=>exact⟨Nat.zero_le _,fun j h=>nomatch h⟩
structure DOk(L:List Str)(fs:List Fn)(M:List (List Int))(gs:List Int):Prop where
 ml:M.length=fs.length
 gl:gs.length=fs.length
 f:∀(i:Nat) (f:Fn),fs[i]?=some f->PreN L M i f/\MovN L M f (M.getD i [])/\LenN gs f (gs.getD i 0)
 g:∀i,i<fs.length->1<=gs.getD i 0/\gs.getD i 0<=10^60
noncomputable def toldF(names:List Str):Fn->Fm
 | .hold n=>.hold n
 | .ring x n=>.ring x n
 | .rise x h n=>.rise x h n
 | .row is=>.row (is.map fun j=>names.getD j ⟨#[]⟩)
 | .side is=>.side (is.map fun j=>names.getD j ⟨#[]⟩)
 | .again k j=>.again k (names.getD j ⟨#[]⟩)
theorem Qi{α:Type}{xs:List α}{x d:α}{j:Nat}(h:j<xs.length):(xs++[x]).getD j d=xs.getD j d:=by
 rw[getD_eq_getElem?_getD,getD_eq_getElem?_getD,List.getElem?_append_left h]
theorem zj{α:Type}{xs:List α}{x d:α}:(xs++[x]).getD xs.length d=x:=by
 rw[getD_eq_getElem?_getD,List.getElem?_append_right (Nat.le_refl _),Nat.sub_self];rfl
theorem PreN.ext{L:List Str}{M:List (List Int)}{ks:List Int}{n:Nat}{f:Fn}(hn:n<=M.length)(h:PreN L M n f):PreN L (M++[ks]) n f:=by
 cases f with
 | side is=>
  obtain⟨a,b,c,d,e⟩:=h;have g:∀j∈is,(M++[ks]).getD j []=M.getD j []:=fun j hj=>Qi (by have:=c j hj;omega)
  refine⟨a,b,c,fun j hj=>by rw[g j hj];exact d j hj,?_⟩;exact(List.pairwise_iff_forall_sublist.mpr fun {x y} hs=>by
   have hx:x∈is:=hs.subset mem_cons_self;have hy:y∈is:=hs.subset (mem_cons_of_mem _ mem_cons_self);rw[g x hx,g y hy];exact List.pairwise_iff_forall_sublist.mp e hs)
 | hold m=>exact h
 | ring x m=>exact h
 | rise x v m=>exact h
 | row is=>exact h
 | again k j=>exact h
theorem MovN.ext{L:List Str}{M:List (List Int)}{ks hs:List Int}{f:Fn}(hj:∀j∈f.js,j<M.length)(h:MovN L M f hs):MovN L (M++[ks]) f hs:=by
 refine⟨h.1,fun k=>(h.2 k).trans ?_⟩;have:(∃j∈f.js,k∈M.getD j [])↔∃j∈f.js,k∈(M++[ks]).getD j []:=by
  constructor
  ·rintro⟨j,h1,h2⟩;exact⟨j,h1,by rw[Qi (hj j h1)];exact h2⟩
  ·rintro⟨j,h1,h2⟩;exact⟨j,h1,by rw[Qi (hj j h1)]at h2;exact h2⟩
 rw[this]
theorem LenN.ext{gs:List Int}{g' g:Int}{f:Fn}(hj:∀j∈f.js,j<gs.length)(h:LenN gs f g):LenN (gs++[g']) f g:=by
 have e:∀j∈f.js,(gs++[g']).getD j 0=gs.getD j 0:=fun j hj'=>Qi (hj j hj')
 cases f with
 | hold m=>exact h
 | ring x m=>exact h
 | rise x v m=>exact h
 | row is=>
  show g=(is.map fun j=>(gs++[g']).getD j 0).sum;have e2:is.map (fun j=>(gs++[g']).getD j 0)=is.map fun j=>gs.getD j 0:=map_congr_left e
  rw[e2];exact h
 | side is=>
  obtain⟨⟨j,hj',ej⟩,h2⟩:=h;exact⟨⟨j,hj',by rw[e j hj'];exact ej⟩,fun j' hj''=>by rw[e j' hj''];exact h2 j' hj''⟩
 | again k j=>
  show g=k*(gs++[g']).getD j 0;rw[e j mem_cons_self];exact h
noncomputable def drawnPs(names:List Str)(fs:List Fn):List (Str×Fm):=(List.range fs.length).map fun i=>(names.getD i ⟨#[]⟩,toldF names (fs.getD i (.hold 0)))
section
variable{L:List Str}{fs:List Fn}{M:List (List Int)}{gs:List Int}{names:List Str}{ls:List (Str×Int)}
theorem Q9:(drawnPs names fs).length=fs.length:=by unfold drawnPs;rw[length_map,length_range]
theorem Wh{i:Nat}{f:Fn}(h:fs[i]?=some f):(drawnPs names fs)[i]?=some (names.getD i ⟨#[]⟩,toldF names f):=by
 unfold drawnPs;have hi:=(List.getElem?_eq_some_iff.mp h).1;rw[List.getElem?_map,List.getElem?_range hi];have e:fs.getD i (.hold 0)=f:=by rw[getD_eq_getElem?_getD,h];rfl
 show some (names.getD i ⟨#[]⟩,toldF names (fs.getD i (.hold 0)))=_;rw[e]
theorem qU{i:Nat}{p:Str×Fm}(h:(drawnPs names fs)[i]?=some p):∃f,fs[i]?=some f/\p=(names.getD i ⟨#[]⟩,toldF names f):=by
 have hi:=(List.getElem?_eq_some_iff.mp h).1;rw[Q9]at hi;obtain⟨f,hf⟩:∃f,fs[i]?=some f:=⟨_,List.getElem?_eq_getElem hi⟩
 rw[Wh hf]at h;exact⟨f,hf,(Option.some.inj h).symm⟩
theorem Kz(hn:fs.length<=names.length):nmsOf (drawnPs names fs)=names.take fs.length:=by
 unfold nmsOf drawnPs;rw[map_map];refine ext_getElem (by rw[length_map,length_range,length_take];omega) fun i h1 h2=>?_
 rw[getElem_map,getElem_range,getElem_take];show names.getD i ⟨#[]⟩=_;rw[getD_eq_getElem?_getD,List.getElem?_eq_getElem];rfl
theorem j2B(hn:fs.length<=names.length){j:Nat}(hj:j<fs.length):(nmsOf (drawnPs names fs))[j]?=some (names.getD j ⟨#[]⟩):=by
 rw[Kz hn,List.getElem?_take,if_pos hj,getD_eq_getElem?_getD,List.getElem?_eq_getElem (by omega)];rfl
theorem Wi(hn:fs.length<=names.length)(nd:names.Nodup):(nmsOf (drawnPs names fs)).Nodup:=by
 rw[Kz hn];exact nd.sublist (take_sublist _ _)
theorem km(hn:fs.length<=names.length)(nd:names.Nodup){f:Fn}(hj:∀j∈f.js,j<fs.length):inP (drawnPs names fs) (toldF names f)=f.js:=by
 have e:∀is:List Nat,(∀j∈is,j<fs.length)->(is.map fun j=>names.getD j ⟨#[]⟩).map (ixOf (nmsOf (drawnPs names fs)))=is:=fun is h=>by
  rw[map_map]
  conv=>rhs;rw[<-List.map_id is]
  exact map_congr_left fun j hj=>JL (Wi hn nd) (j2B hn (h j hj))
 unfold inP;cases f with
 | row is=>exact e is hj
 | side is=>exact e is hj
 | again k j=>exact e [j] hj
 | hold n=>rfl
 | ring x n=>rfl
 | rise x v n=>rfl
theorem WR(f:Fn):(toldF names f).ns=f.js.map fun j=>names.getD j ⟨#[]⟩:=by cases f<;>rfl
theorem DOk.wf(D:DOk (nmsOf ls) fs M gs)(hn:fs.length<=names.length)(nd:names.Nodup)(lnd:(nmsOf ls).Nodup)(l8:ls.length<=8)(f61:fs.length<=61):WfB ls (drawnPs names fs):=by
 refine⟨lnd,l8,Wi hn nd,by rw[Q9];exact f61,fun i p hp=>?_,fun i y x h n hp=>?_⟩
 ·obtain⟨f,hf,rfl⟩:=qU hp;have hi:=(List.getElem?_eq_some_iff.mp hf).1;obtain⟨pre,_⟩:=D.f i f hf;have js:=pre.js;refine⟨fun x hx=>?_,?_⟩
  ·rw[WR]at hx;obtain⟨j,hj,rfl⟩:=mem_map.mp hx;have:=js.2 j hj;exact⟨j,this,j2B hn (by omega)⟩
  ·rw[WR,length_map];exact js.1
 ·obtain⟨f,hf,e⟩:=qU hp;obtain⟨pre,_⟩:=D.f i f hf;have e2:=(Prod.mk.inj e).2;cases f with
  | rise x' h' n'=>
   have:x=x':=by injection e2
   subst this;exact pre.1
  | hold n=>cases e2
  | ring x n=>cases e2
  | row is=>cases e2
  | side is=>cases e2
  | again k j=>cases e2
theorem DOk.mov(D:DOk (nmsOf ls) fs M gs)(hn:fs.length<=names.length)(nd:names.Nodup)(lnd:(nmsOf ls).Nodup):MovOk ls (drawnPs names fs) M:=by
 intro i p ks hp hk;obtain⟨f,hf,rfl⟩:=qU hp;have hi:=(List.getElem?_eq_some_iff.mp hf).1;obtain⟨pre,mv,_⟩:=D.f i f hf;have js:=pre.js.2;have ek:M.getD i []=ks:=by rw[getD_eq_getElem?_getD,hk];rfl
 rw[ek]at mv;refine⟨mv.1,fun k=>(mv.2 k).trans ?_⟩;rw[km hn nd fun j hj=>by have:=js j hj;omega];refine⟨fun h=>h.imp id ?_,fun h=>h.imp id ?_⟩
 ·rintro⟨x,v,n,j,rfl,hj,rfl⟩;exact⟨x,v,n,rfl,by rw[JL lnd hj]⟩
 ·rintro⟨x,v,n,e,rfl⟩;cases f with
  | rise x' h' n'=>
   have:x'=x:=by injection e
   subst this;obtain⟨j,hj⟩:=pre.1;exact⟨x',h',n',j,rfl,hj,by rw[JL lnd hj]⟩
  | hold n=>cases e
  | ring x n=>cases e
  | row is=>cases e
  | side is=>cases e
  | again k j=>cases e
theorem j2i{ps:List (Str×Fm)}{M M':List (List Int)}(W:WfB ls ps)(h:MovOk ls ps M)(h':MovOk ls ps M')(l:M.length=ps.length)(l':M'.length=ps.length):∀i,i<ps.length->M'.getD i []=M.getD i []:=by
 intro i
 induction i using Nat.strongRecOn with
 | ind i ih=>
  intro hi;have ep:ps[i]?=some ps[i]:=List.getElem?_eq_getElem hi;have eM:M[i]?=some (M.getD i []):=by rw[getD_eq_getElem?_getD,List.getElem?_eq_getElem (by omega)];rfl
  have eM':M'[i]?=some (M'.getD i []):=by rw[getD_eq_getElem?_getD,List.getElem?_eq_getElem (by omega)];rfl
  obtain⟨a,b⟩:=h i _ _ ep eM;obtain⟨a',b'⟩:=h' i _ _ ep eM';refine j1L a' a fun k=>(b' k).trans (Iff.trans ?_ (b k).symm)
  have key:(∃j∈inP ps (ps[i]).2,k∈M'.getD j [])↔∃j∈inP ps (ps[i]).2,k∈M.getD j []:=by
   constructor
   ·rintro⟨j,hj,hk⟩;have:=W.inP_lt ep hj;exact⟨j,hj,by rw[<-ih j this (by omega)];exact hk⟩
   ·rintro⟨j,hj,hk⟩;have:=W.inP_lt ep hj;exact⟨j,hj,by rw[ih j this (by omega)];exact hk⟩
  rw[key]
theorem DOk.sn(D:DOk (nmsOf ls) fs M gs)(hn:fs.length<=names.length)(nd:names.Nodup)(lnd:(nmsOf ls).Nodup)(l8:ls.length<=8)(f61:fs.length<=61)(f1:1<=fs.length)(lh:∀q∈ls,0<=q.2/\q.2<=10^18):Sn ls (drawnPs names fs) gs M:=by
 have W:=D.wf hn nd lnd l8 f61;have MV:=D.mov hn nd lnd;have dl:(drawnPs names fs).length=fs.length:=Q9;have ml:=D.ml;have gl:=D.gl;refine⟨⟨W,by omega,fun i hi=>?_,fun M' l' h' i hi=>j2i W MV h' (by omega) l' i hi,fun i p hp=>?_,fun i p qs hp e=>?_⟩,by omega,MV,fun i hi=>(D.g i (by omega)).1,by omega,lh,fun i y x v n hp=>?_,fun i y x k hp=>?_⟩
 ·have:=D.g i (by omega);omega
 ·obtain⟨f,hf,rfl⟩:=qU hp;have hi:=(List.getElem?_eq_some_iff.mp hf).1;obtain⟨pre,_,ln⟩:=D.f i f hf;have js:=pre.js.2;rw[show inP (drawnPs names fs) (names.getD i ⟨#[]⟩,toldF names f).2=f.js from km hn nd fun j hj=>by have:=js j hj;omega];cases f with
  | hold n=>exact⟨trivial,fun g h=>Eq.trans h (Eq.symm ln)⟩
  | ring x n=>exact⟨trivial,fun g h=>Eq.trans h (Eq.symm ln)⟩
  | rise x v n=>exact⟨trivial,fun g h=>Eq.trans h (Eq.symm ln)⟩
  | row is=>exact⟨trivial,fun g h=>Eq.trans h (Eq.symm ln)⟩
  | side is=>
   refine⟨fun z=>?_,fun g h=>?_⟩
   ·have p2:=pre.1;have:is.length=0:=by rw[<-length_map (f:=fun j=>gs.getD j 0)];exact congrArg List.length z
    omega
   ·obtain⟨h1,h2⟩:=h;obtain⟨j,hj,rfl⟩:=mem_map.mp h1;obtain⟨⟨j',hj',e'⟩,l2⟩:=ln;have a1:=l2 j hj;have a2:=h2 (gs.getD j' 0) (mem_map.mpr ⟨j',hj',rfl⟩);omega
  | again k j=>
   have gj:=D.g j (by have:=js j mem_cons_self;omega);refine⟨⟨gs.getD j 0,[],rfl,Int.le_trans (by decide) pre.1,pre.2.1,by omega,gj.2⟩,fun g h=>?_⟩;obtain⟨y,hy,rfl⟩:=h;cases hy;exact Eq.symm ln
 ·obtain⟨f,hf,rfl⟩:=qU hp;have hi:=(List.getElem?_eq_some_iff.mp hf).1;obtain⟨pre,_,_⟩:=D.f i f hf;have js:=pre.js.2;rw[show inP (drawnPs names fs) (names.getD i ⟨#[]⟩,toldF names f).2=f.js from km hn nd fun j hj=>by have:=js j hj;omega];cases f with
  | side is=>
   obtain⟨_,_,_,ap1,ap2⟩:=pre;refine⟨ap1,fun k=>?_⟩;have one:∀js:List Nat,js.Pairwise (fun a b=>∀k∈M.getD a [],¬k∈M.getD b [])->((js.map fun j=>M.getD j []).filter fun ks=>decide (k∈ks)).length<=1:=fun js=>by
    induction js with
    | nil=>exact fun _=>Nat.zero_le _
    | cons j r ih=>
     intro h;rw[pairwise_cons]at h;rw[map_cons,filter_cons];split
     ·rename_i c;have e:(r.map fun j=>M.getD j []).filter (fun ks=>decide (k∈ks))=[]:=by
       rw[List.filter_eq_nil_iff];intro ks hks;obtain⟨j',hj',rfl⟩:=mem_map.mp hks;have:=h.1 j' hj' k (of_decide_eq_true c);simpa using this
      rw[e];exact Nat.le_refl _
     ·exact ih h.2
   exact one is ap2
  | hold n=>cases e
  | ring x n=>cases e
  | rise x v n=>cases e
  | row is=>cases e
  | again k j=>cases e
 ·obtain⟨f,hf,e⟩:=qU hp;obtain⟨pre,_⟩:=D.f i f hf;have e2:=(Prod.mk.inj e).2;cases f with
  | rise x' h' n'=>
   injection e2 with e3 e4 e5;subst e3 e4 e5;exact pre.2
  | hold n=>cases e2
  | ring x n=>cases e2
  | row is=>cases e2
  | side is=>cases e2
  | again k j=>cases e2
 ·obtain⟨f,hf,e⟩:=qU hp;obtain⟨pre,_⟩:=D.f i f hf;have e2:=(Prod.mk.inj e).2;cases f with
  | again k' j=>
   injection e2 with e3 e4;subst e3;exact⟨pre.1,pre.2.1⟩
  | rise x' h' n'=>cases e2
  | hold n=>cases e2
  | ring x n=>cases e2
  | row is=>cases e2
  | side is=>cases e2
end
structure Sa where
 d:Addr
 f:Addr
 o:Addr
 s:Addr
 l:Addr
 p:Addr
 fb:List Addr
 la:List Addr
 pa:List Addr
noncomputable def fldS(z:Sa):List (Str×V):=putF "pieces" (.ref z.p) (putF "left" (.ref z.l) (putF "sizes" (.ref z.s) (putF "forms" (.ref z.o) (putF "first" (.ref z.f) (putF "limbs" (.ref z.d) [])))))
section
variable{z:Sa}
theorem Jc{a b:Str}{v:V}{r:List (Str×V)}(h:¬a=b):(putF b v r).lookup a=r.lookup a:=by rw[zt,if_neg h]
theorem QV{a:Str}{v:V}{r:List (Str×V)}:(putF a v r).lookup a=some v:=by rw[zt,if_pos rfl]
theorem xh:(fldS z).lookup ("pieces" : Str)=some (.ref z.p):=QV
theorem j0G:(fldS z).lookup ("left" : Str)=some (.ref z.l):=(Jc (by decide +kernel)).trans QV
theorem ZU:(fldS z).lookup ("sizes" : Str)=some (.ref z.s):=(Jc (by decide +kernel)).trans ((Jc (by decide +kernel)).trans QV)
theorem X2:(fldS z).lookup ("forms" : Str)=some (.ref z.o):=(Jc (by decide +kernel)).trans ((Jc (by decide +kernel)).trans ((Jc (by decide +kernel)).trans QV))
theorem X1:(fldS z).lookup ("first" : Str)=some (.ref z.f):=(Jc (by decide +kernel)).trans ((Jc (by decide +kernel)).trans ((Jc (by decide +kernel)).trans ((Jc (by decide +kernel)).trans QV)))
theorem j0H{m:Str}(h1:¬m = "pieces")(h2:¬m = "left")(h3:¬m = "sizes")(h4:¬m = "forms")(h5:¬m = "first")(h6:¬m = "limbs"):(fldS z).lookup m=none:=(Jc h1).trans ((Jc h2).trans ((Jc h3).trans ((Jc h4).trans ((Jc h5).trans (Jc h6)))))
theorem Ja(f:Str)(v:V):∀r:List (Str×V),(putF f v r).length<=r.length+1
 | []=>Nat.le_refl _
 | (g,u)::r=>by
  unfold putF;split
  ·exact Nat.le_succ _
  ·rw[length_cons,length_cons];have:=Ja f v r;omega
end
theorem BookAt.less{H:Hp}{a C dx:Addr}{fs:List (Str×V)}{b pl pp:Addr}{las pas:List Addr}{ls:List (Str×Int)}{ps:List (Str×Fm)}(ha:H a=some (.ins C dx fs))(B:BookAt H b pl pp las pas ls ps) :
  ∃H0:Hp,(∀H',(∀c u,c≠a->H c=some u->H' c=some u)->Same H0 H')/\(∀{c u},H0 c=some u->c≠a)/\BookAt H0 b pl pp las pas ls ps:=by
 have kt:∀{c:Addr} {xs:List V},H c=some (.tup xs)->(fun c=>if c=a then none else H c) c=some (.tup xs):=fun {c xs} h=>by
  show(if c=a then none else H c)=_;rw[if_neg (fun z=>by rw[z,ha]at h;cases h)];exact h
 have kl:∀{c:Addr} {xs:List V},H c=some (.lst xs)->(fun c=>if c=a then none else H c) c=some (.lst xs):=fun {c xs} h=>by
  show(if c=a then none else H c)=_;rw[if_neg (fun z=>by rw[z,ha]at h;cases h)];exact h
 refine⟨fun c=>if c=a then none else H c,fun H' k c u h=>?_,fun {c u} h=>?_,kt B.t,kl B.l,B.la.mono fun a x hx=>kt hx,kl B.p,B.pa.mono fun a x hx=>?_⟩
 ·have h:(if c=a then none else H c)=some u:=h;by_cases e:c=a
  ·rw[if_pos e]at h;cases h
  ·rw[if_neg e]at h;exact k c u e h
 ·have h:(if c=a then none else H c)=some u:=h;intro e;rw[if_pos e]at h;cases h
 ·obtain⟨fb,h1,h2⟩:=hx;refine⟨fb,kt h1,?_⟩;cases hx2:x.2 with
  | row r=>rw[hx2]at h2;obtain⟨c,h3,h4⟩:=h2;exact⟨c,kt h3,kt h4⟩
  | side r=>rw[hx2]at h2;obtain⟨c,h3,h4⟩:=h2;exact⟨c,kt h3,kt h4⟩
  | hold n=>rw[hx2]at h2;exact kt h2
  | ring y n=>rw[hx2]at h2;exact kt h2
  | rise y v n=>rw[hx2]at h2;exact kt h2
  | again k y=>rw[hx2]at h2;exact kt h2
theorem few{f:Str}{v:V}{r:List (Str×V)}{n:Nat}(h:(putF f v r).length<=n)(k:n<1000):(putF f v r).length<1000:=Nat.lt_of_le_of_lt h k
section
variable{a b c d e:Str}{u v w x y:V}
theorem few3:(putF c w (putF b v (putF a u []))).length<1000:=by
 have:=Ja c w (putF b v (putF a u []));have:=Ja b v (putF a u []);have:=Ja a u [];simp at *;omega
theorem few4:(putF d x (putF c w (putF b v (putF a u [])))).length<1000:=by
 have:=Ja d x (putF c w (putF b v (putF a u [])));have:=Ja c w (putF b v (putF a u []));have:=Ja b v (putF a u []);have:=Ja a u [];simp at *;omega
theorem few5:(putF e y (putF d x (putF c w (putF b v (putF a u []))))).length<1000:=by
 have:=Ja e y (putF d x (putF c w (putF b v (putF a u []))));have:=Ja d x (putF c w (putF b v (putF a u [])));have:=Ja c w (putF b v (putF a u []));have:=Ja b v (putF a u []);have:=Ja a u [];simp at *;omega
end
end Rm
namespace L2
open PySem PySem.Spec PyProof.Rows
section
variable{led:Bool}{n:Nat}{t:SetTable}
end
section
variable{led:Bool}{n:Nat}{t:SetTable}
end
section
variable{o:Array (Option Nat)}
end
section
variable{prog:Program}{w:World}{A:Around}{E:Value->Shared->Prop}{s:Shared}
end
section
variable{prog:Program}{w:World}{A:Around}{R:Result->Shared->Prop}{I:Addr}{fp wr:List Addr}{G:Array GenState->Array GenState->Prop}{n:Nat}{P:Nat->Value->Prop}{St:Nat->Shared->Prop}
end
open PySem PySem.Spec PySem.W PyProof.Rows
section
variable{prog:Program}{w:World}{A:Around}{E:Value->Shared->Prop}{s:Shared}
end
section
variable{prog:Program}{w:World}{A:Around}{E:Value->Shared->Prop}{s:Shared}
end
section
variable{X:Cx}
end
section
variable{prog:Program}{w:World}{A:Around}{E:Value->Shared->Prop}{s:Shared}
section
variable{R:Result->Shared->Prop}{I:Addr}{fp wr:List Addr}{n:Nat}{P:Nat->Value->Prop}{St:Nat->Heap->Prop}
end
end
section
variable{X:Cx}
theorem j26{K:Frg}{n i j k:Nat}(hi:i<n)(hj:j<n)(hk:k<n):GKeeps n (gTup K 3 (gCons (gName i) (gCons (gName j) (gCons (gName k) gNil)))):=fun x σ H Q q=>by
 obtain⟨a,xs,e1,e2,e3,v,r,e4,v',r',e5,v'',r'',e6,e7,q⟩:=q;refine⟨a,xs,e1,e2,e3,v,r,e4,v',r',e5,v'',r'',e6,e7,fun m u hm e=>?_,q⟩;rw[List.getElem?_set_ne (by omega),List.getElem?_set_ne (by omega),List.getElem?_set_ne (by omega)];exact e
end
end L2
namespace Rm
open PySem PySem.Spec PyProof.Rows L2
section
variable{L:List Str}{fs:List Fn}{M:List (List Int)}{gs:List Int}{names:List Str}{ls:List (Str×Int)}{n:Nat}
end
noncomputable def setE(es:List (Int×Int))(h:List Int):List Int:=es.foldl (fun h q=>h.set q.1.toNat q.2) h
section
variable{L:List Str}{fs:List Fn}{M:List (List Int)}{gs:List Int}{names:List Str}{ls:List (Str×Int)}{n:Nat}{E:List (List (Int×Int))}
end
section
variable{α β:Type}
theorem ZT{f:α->List β}{p:α->Bool}:∀{R:List α},(∀x∈R,p x=false->f x=[])->(R.filter p).flatMap f=R.flatMap f
 | [],_=>rfl
 | x::r,k=>by
  cases e:p x with
  | true=>
   rw[List.filter_cons_of_pos e,flatMap_cons,flatMap_cons,ZT fun y hy=>k y (mem_cons_of_mem _ hy)]
  | false=>
   rw[List.filter_cons_of_neg (by simp[e]),flatMap_cons,k x mem_cons_self e,ZT fun y hy=>k y (mem_cons_of_mem _ hy)];rfl
end
section
variable{ls:List (Str×Int)}{ps:List (Str×Fm)}{gs:List Int}{hs:List (List Int)}{E:List (List (Int×Int))}{t:Int}
noncomputable def ovB(gs:List Int)(x:Nat×Int):Bool:=decide (gs.getD x.1 0<=x.2)
noncomputable def leafB(ps:List (Str×Fm))(gs:List Int)(x:Nat×Int):Bool:=(pcB ps gs x.1).isEmpty
noncomputable def strH(ls:List (Str×Int))(ps:List (Str×Fm))(gs:List Int)(E:List (List (Int×Int)))(t:Int):List Int:=((reach ps gs (ps.length-1) t).filter (ovB gs)).foldl (fun h x=>setE (E.getD x.1 []) h) (ls.map (·.2))
theorem j01{x:Nat×Int}{y:Str}{n:Int}{nm:Str}(hp:ps[x.1]?=some (nm,.ring y n)):leafB ps gs x=true:=by
 unfold leafB pcB;rw[hp];rfl
theorem WO(N:Sn ls ps gs hs){P:List (Nat×Int)}(hP:P.filter (leafB ps gs)=(reach ps gs (ps.length-1) t).filter fun x=>!ovB gs x):P.flatMap (ringX ps)=ringsW ps gs t:=by
 have ne:=N.ne;unfold ringsW;rw[<-ZT (p:=leafB ps gs) (fun x _ c=>?_),hP,ZT fun x hx c=>?_]
 ·have c:ovB gs x=true:=by simpa using c
  have c:=of_decide_eq_true c;have:=(N.g (j1q N.s.w (show ps.length-1<ps.length by omega) hx)).1;unfold ringX;split
  ·rw[if_neg (by omega)]
  ·rfl
 ·unfold ringX;split
  ·rename_i hp;rw[j01 hp]at c;cases c
  ·rfl
end
structure StageAt(C:Addr)(H:Hp)(a:Addr)(z:Sa)(ls:List (Str×Int))(ps:List (Str×Fm))(gs:List Int)(E:List (List (Int×Int))):Prop where
 ob:∃dx,H a=some (.ins C dx (fldS z))
 hd:H z.d=some (.dK (numK (nmsOf ls)))
 hf:H z.f=some (.lst ((ls.map (·.2)).map V.int))
 ho:H z.o=some (.lst (z.fb.map V.ref))
 fo:All2 (fun a p=>FormAt H a p.2) z.fb ps
 hs:H z.s=some (.lst (gs.map V.int))
 hl:H z.l=some (.lst (z.la.map V.ref))
 el:E.length=ps.length
 ea:EndsAt H z.la E
 eo:EndOk ls ps E
 hp:H z.p=some (.lst (z.pa.map V.ref))
 pa:PssAt H z.pa (ps.map fun p=>pcsI gs p.2 (inP ps p.2))
theorem StageAt.same{C:Addr}{H H':Hp}{a:Addr}{z:Sa}{ls:List (Str×Int)}{ps:List (Str×Fm)}{gs:List Int}{E:List (List (Int×Int))}(A:StageAt C H a z ls ps gs E)(s:Same H H'):StageAt C H' a z ls ps gs E:=
 ⟨A.ob.imp fun dx h=>s _ _ h,s _ _ A.hd,s _ _ A.hf,s _ _ A.ho,All2.mono A.fo fun a p h=>FormAt.same s h,s _ _ A.hs,s _ _ A.hl,A.el,All2.mono A.ea fun a e ⟨bs,h1,h2⟩=>⟨bs,s _ _ h1,All2.mono h2 fun b q h=>s _ _ h⟩,A.eo,
  s _ _ A.hp,All2.mono A.pa fun a e ⟨bs,h1,h2⟩=>⟨bs,s _ _ h1,All2.mono h2 fun b q h=>s _ _ h⟩⟩
inductive sp_initS(C:Addr)(vs:List V)(H:Hp)(Q:VK)(xk:XK):Prop
 | mk (a dx b pl pp:Addr) (las pas:List Addr) (ls:List (Str×Int)) (ps:List (Str×Fm)) (gs:List Int) (hs:List (List Int)) (_:vs=[.ref a,.ref b]) (_:H a=some (.ins C dx [])) (_:BookAt H b pl pp las pas ls ps) (_:Sn ls ps gs hs) (_:∀(z:Sa) (E:List (List (Int×Int))) (H':Hp),(∀c u,c≠a->H c=some u->H' c=some u)->StageAt C H' a z ls ps gs E->Q .non H'):sp_initS C vs H Q xk
inductive sp_sceneS(C:Addr)(vs:List V)(H:Hp)(Q:VK)(xk:XK):Prop
 | mk (a:Addr) (z:Sa) (ls:List (Str×Int)) (ps:List (Str×Fm)) (gs:List Int) (hs:List (List Int)) (E:List (List (Int×Int))) (t:Int) (_:vs=[.ref a,.int t]) (_:StageAt C H a z ls ps gs E) (_:Sn ls ps gs hs) (_:0<=t) (_:t<=gs.getD (ps.length-1) 0) (_:∀(r l1 l2:Addr) (as:List Addr) (P:List (Nat×Int)) (H':Hp),Same H H'->H l1=none->H l2=none->H' r=some (.tup [.ref l1,.ref l2])->H' l1=some (.lst ((strH ls ps gs E t).map V.int))->(strH ls ps gs E t).length=ls.length->(∀h∈strH ls ps gs E t,0<=h/\h<=10^18)->H' l2=some (.lst (as.map V.ref))->l1≠l2->GonAt H' as P->P.length<=5000->(∀x∈P,x.1<ps.length/\0<=x.2/\x.2<gs.getD x.1 0)->P.filter (leafB ps gs)=((reach ps gs (ps.length-1) t).filter fun x=>!ovB gs x)->Q (.ref r) H'):sp_sceneS C vs H Q xk
inductive sp_wordsS(C:Addr)(vs:List V)(H:Hp)(Q:VK)(xk:XK):Prop
 | mk (a:Addr) (z:Sa) (ls:List (Str×Int)) (ps:List (Str×Fm)) (gs:List Int) (hs:List (List Int)) (E:List (List (Int×Int))) (t:Int) (_:vs=[.ref a,.int t]) (_:StageAt C H a z ls ps gs E) (_:Sn ls ps gs hs) (_:0<=t) (_:t<=gs.getD (ps.length-1) 0) (_:∀(l:Addr) (H':Hp),Same H H'->H l=none->H' l=some (.lst ((ringsW ps gs t).map V.str))->(ringsW ps gs t).length<=5000->Q (.ref l) H'):sp_wordsS C vs H Q xk
theorem FormAt.put{H H':Hp}{a:Addr}{f:Fm}(k:∀b xs,H b=some (.tup xs)->H' b=some (.tup xs))(h:FormAt H a f):FormAt H' a f:=by
 cases f with
 | row ps=>obtain⟨c,q1,q2⟩:=h;exact⟨c,k _ _ q1,k _ _ q2⟩
 | side ps=>obtain⟨c,q1,q2⟩:=h;exact⟨c,k _ _ q1,k _ _ q2⟩
 | hold n=>exact k _ _ h
 | ring x n=>exact k _ _ h
 | rise x v n=>exact k _ _ h
 | again k' x=>exact k _ _ h
theorem xS{α:Type}{f:α->Nat}:∀{l:List α},(∀x∈l,1<=f x)->l.length<=(l.map f).sum
 | [],_=>Nat.le_refl _
 | x::r,h=>by
  have h1:=h x mem_cons_self;have h2:=xS (l:=r) fun y hy=>h y (mem_cons_of_mem _ hy)
  rw[map_cons,sum_cons,length_cons];omega
section
variable{ls:List (Str×Int)}{ps:List (Str×Fm)}{gs:List Int}{E:List (List (Int×Int))}{D:List (Nat×Int)}{x:Nat×Int}
noncomputable def hOf(ls:List (Str×Int))(gs:List Int)(E:List (List (Int×Int)))(D:List (Nat×Int)):List Int:=(D.filter (ovB gs)).foldl (fun h x=>setE (E.getD x.1 []) h) (ls.map (·.2))
theorem kx(h:ovB gs x=false):hOf ls gs E (if leafB ps gs x=true then D++[x]else D)=hOf ls gs E D:=by
 split
 ·unfold hOf;rw[filter_append,List.filter_cons_of_neg (by rw[h];decide)];show(D.filter (ovB gs)++[]).foldl _ _=_;rw[append_nil]
 ·rfl
theorem kz(h:ovB gs x=true):hOf ls gs E (D++[x])=setE (E.getD x.1 []) (hOf ls gs E D):=by
 unfold hOf;rw[filter_append,List.filter_cons_of_pos h,List.foldl_append];rfl
theorem Yv(W:WfB ls ps){i:Nat}{t:Int}(c:t<gs.getD i 0):1+((wth gs t (pcB ps gs i)).map fun x=>nodes ps gs x.1 x.2).sum<=nodes ps gs i t:=by
 by_cases e:pcB ps gs i=[]
 ·rw[e,yc (.inr e)];exact Nat.le_refl _
 ·rw[kE W (fun h=>h.elim (fun z=>by omega) e)];exact Nat.le_refl _
end
structure ScAt(ls:List (Str×Int))(ps:List (Str×Fm))(gs:List Int)(E:List (List (Int×Int)))(t0:Int)(H H':Hp)(p1 p2 p4:Addr)(pas tas:List Addr)(D P S:List (Nat×Int)):Prop where
 sm:Same H H'
 e1:H' p1=some (.lst ((hOf ls gs E D).map V.int))
 e2:H' p2=some (.lst (pas.map V.ref))
 eT:H' p4=some (.lst (tas.map V.ref))
 gP:GonAt H' pas P
 gT:GonAt H' tas S
 inv:D++S.reverse.flatMap (fun x=>reach ps gs x.1 x.2)=reach ps gs (ps.length-1) t0
 hS:∀x∈S,x.1<ps.length/\0<=x.2
 hP:P.filter (leafB ps gs)=D.filter fun x=>!ovB gs x
 bP:∀x∈P,x.1<ps.length/\0<=x.2/\x.2<gs.getD x.1 0
 bnd:P.length+(S.map fun x=>nodes ps gs x.1 x.2).sum<=5000
 ll:(hOf ls gs E D).length=ls.length
 hb:∀h∈hOf ls gs E D,0<=h/\h<=10^18
end Rm
namespace L2
open PySem PySem.Spec PySem.W PyProof.Rows HT
section
variable{prog:Program}{w:World}{A:Around}{E:Value->Shared->Prop}{s:Shared}
theorem yG{t sl:Addr}{items:Array Value}{vl vu:Value}{lo hi:Option Int}{Q:Value->Shared->Prop}(ht:IsTup s.heap t items)(hs:s.heap.IsSliceOf sl vl vu .none)(pl:IsPart vl lo)(pu:IsPart vu hi)
  (h1:sIx items.size 0 lo=0) (h2:sIx items.size items.size hi=items.size) (h:Q (.ref t) s):wpAny (model prog w) A (getItem (.ref t) (.ref sl)) Q E s:=by
 obtain⟨os,hos,hcs,hds⟩:=id hs;have hTs:s.TypeIs (.ref sl) "slice":=⟨os,hos,hcs⟩
 unfold getItem
 try with_reducible refine wpAny_holding ?_
 first | refine wpAny_bind (wpAny_pure ?_) | skip
 refine wpAny_bind (wpAny_sequenceKey ht.typeIs (by decide) ?_);refine wpAny_bind (wpAny_callSpecial?_slot (name:=Str.ofString "__getitem__") ht.typeIs PyProof.Rows.slot_tuple_getitem (wpAny_call_entry PyProof.Rows.slot_tuple_getitem ht.typeIs entry_tuple_getitem ?_ (args_tuple_getitem _ _)));show wpAny _ _ (Builtin.Tuple.tupleItemsOf (.ref t) >>= _) _ _ s;refine wpAny_bind (tupleItemsOf_ ht ?_);refine wpAny_bind (wpAny_typeOf hTs ?_);rw[if_pos (by decide)];refine wpAny_bind (zS hs pl pu ?_);show wpAny _ _ (if(((sIx items.size 0 lo:Nat):Int)==0&&(1:Int)==1&&(sIx items.size items.size hi-sIx items.size 0 lo)==items.size)=true then _ else _) _ _ s;rw[if_pos (by rw[h1,h2];simp)];unfold Builtin.Tuple.tupleIsExact;refine wpAny_bind (wpAny_bind (wpAny_typeOf ht.typeIs (wpAny_pure ?_)));rw[if_pos (by decide)]
 first
  | exact wpAny_bind (wpAny_rule (wpAny_pure ⟨_,rfl,wpAny_pure h⟩))
  | exact wpAny_bind (wpAny_rule (wpAny_bind (wpAny_pure (wpAny_pure ⟨_,rfl,wpAny_pure h⟩))))
end
section
variable{X:Cx}
noncomputable def rSlW(K:Frg):V->Option Int->Option Int->Hp->VK->Prop:=fun x lo hi H Q=>∃a xs,x = .ref a/\SqT K H a xs/\HT.sIx xs.length 0 lo=0/\HT.sIx xs.length xs.length hi=xs.length/\Q (.ref a) H
theorem j3a:SlR X (rSlW X.K):=by
 intro pins s σ H x v vl vu lo hi sl Q I rx hs pl pu h;obtain⟨a,xs,rfl,hx,h1,h2,q⟩:=h;cases rx;obtain⟨its,r,ht,hz⟩:=I.tuple hx;have hlen:its.toArray.size=xs.length:=by rw[size_toArray];exact r.length.symm
 refine⟨"tuple",_,PyProof.Rows.slot_tuple_getitem.lookup,ht.typeIs,?_⟩;exact yG ht hs pl pu (by rw[hlen];exact h1) (by rw[hlen];exact h2) ⟨.ref a,H,I,rfl,q⟩
theorem j3b:SlR X (fun x lo hi H Q=>rSlT X.K x lo hi H Q\/rSlW X.K x lo hi H Q):=SlR.or j1A j3a
theorem j2m{K:Frg}{e:Expr}{f:Str}{pos:Pos}{ta:TE}(hk:X.K=K)(he:PE X e ta)(hb:attributeBase e f X.env (eval e X.env)=eval e X.env):PE X (.Attribute e f pos) (tFld K ta f):=hk▸Jw he hb
end
end L2
namespace Rm
open PySem PySem.Spec PyProof.Rows L2
structure Ta where
 s:Addr
 p:Addr
 w:Addr
 pa:List Addr
noncomputable def fldR(z:Ta)(g:Int):List (Str×V):=putF "wholes" (.ref z.w) (putF "pieces" (.ref z.p) (putF "last" (.int g) (putF "sizes" (.ref z.s) [])))
section
variable{z:Ta}{g:Int}
theorem ZV:(fldR z g).lookup ("wholes" : Str)=some (.ref z.w):=QV
theorem Yp:(fldR z g).lookup ("pieces" : Str)=some (.ref z.p):=(Jc (by decide +kernel)).trans QV
theorem K1:(fldR z g).lookup ("last" : Str)=some (.int g):=(Jc (by decide +kernel)).trans ((Jc (by decide +kernel)).trans QV)
theorem Wm:(fldR z g).lookup ("sizes" : Str)=some (.ref z.s):=(Jc (by decide +kernel)).trans ((Jc (by decide +kernel)).trans ((Jc (by decide +kernel)).trans QV))
end
noncomputable def ownW(x:Str):Fm->Int
 | .ring y _=>if y=x then 1 else 0
 | _=>0
noncomputable def wSum(W:List Int)(qs:List Pc):Int:=(qs.map fun q=>q.2.1*W.getD q.1 0).sum
def WPre(ps:List (Str×Fm))(gs:List Int)(x:Str)(W:List Int)(n:Nat):Prop:=W.length=n/\∀(j:Nat) (p:Str×Fm),j<n->ps[j]?=some p->W.getD j 0=ownW x p.2+wSum W (pcB ps gs j)
structure TalAt(C:Addr)(H:Hp)(a:Addr)(z:Ta)(ps:List (Str×Fm))(gs W:List Int):Prop where
 o:∃dx,H a=some (.ins C dx (fldR z (gs.getD (ps.length-1) 0)))
 s:H z.s=some (.lst (gs.map V.int))
 p:H z.p=some (.lst (z.pa.map V.ref))
 pa:PssAt H z.pa (ps.map fun p=>pcsI gs p.2 (inP ps p.2))
 w:H z.w=some (.lst (W.map V.int))
inductive sp_initR(C:Addr)(vs:List V)(H:Hp)(Q:VK)(xk:XK):Prop
 | mk (a dx b pl pp:Addr) (las pas:List Addr) (ls:List (Str×Int)) (ps:List (Str×Fm)) (gs:List Int) (hs:List (List Int)) (x:Str) (_:vs=[.ref a,.ref b,.str x]) (_:H a=some (.ins C dx [])) (_:BookAt H b pl pp las pas ls ps) (_:Sn ls ps gs hs) (_:Ws.isW x=true) (_:(∀p∈ps,FmWs p.2)) (_:∀(z:Ta) (W:List Int) (H':Hp),(∀c u,c≠a->H c=some u->H' c=some u)->WPre ps gs x W ps.length->TalAt C H' a z ps gs W->Q .non H'):sp_initR C vs H Q xk
section
variable{ls:List (Str×Int)}{ps:List (Str×Fm)}{gs:List Int}{hs:List (List Int)}{x:Str}{W:List Int}
theorem TalAt.keep{C:Addr}{H H':Hp}{a:Addr}{z:Ta}(T:TalAt C H a z ps gs W)(s:Same H H'):TalAt C H' a z ps gs W:=by
 obtain⟨⟨dx,o⟩,h1,h2,h3,h4⟩:=T;exact⟨⟨dx,s _ _ o⟩,s _ _ h1,s _ _ h2,All2.mono h3 fun c e ⟨bs,k1,k2⟩=>⟨bs,s _ _ k1,All2.mono k2 fun b q h=>s _ _ h⟩,s _ _ h4⟩
theorem j0R{l:List Int}(h:∀y∈l,0<=y){y:Int}(hy:y∈l):y<=l.sum/\0<=l.sum:=by
 induction l generalizing y with
 | nil=>exact nomatch hy
 | cons a r ih=>
  have ha:=h a mem_cons_self;have hr:0<=r.sum:=by
   cases r with
   | nil=>exact Int.le_refl _
   | cons b r'=>exact(ih (fun y hy=>h y (mem_cons_of_mem _ hy)) mem_cons_self |>.2)
  rw[sum_cons];rcases mem_cons.mp hy with rfl | hy
  ·omega
  ·have:=(ih (fun y hy=>h y (mem_cons_of_mem _ hy)) hy).1;omega
theorem j0Z:∀{l:List Int},l≠[]->∃g,g∈l/\∀y∈l,y<=g
 | [],h=>absurd rfl h
 | [a],_=>⟨a,mem_cons_self,fun y hy=>by rw[mem_singleton.mp hy];exact Int.le_refl _⟩
 | a::b::r,_=>by
  obtain⟨g,hg,hm⟩:=j0Z (l:=b::r) (List.cons_ne_nil _ _);by_cases c:a<=g
  ·exact⟨g,mem_cons_of_mem _ hg,fun y hy=>(mem_cons.mp hy).elim (fun e=>e▸c) (hm y)⟩
  ·exact⟨a,mem_cons_self,fun y hy=>(mem_cons.mp hy).elim (fun e=>e▸Int.le_refl _) fun z=>by have:=hm y z;omega⟩
theorem Sn.fit(N:Sn ls ps gs hs){i:Nat}{q:Pc}(h:q∈pcB ps gs i):q.2.1*gs.getD q.1 0<=gs.getD i 0:=by
 unfold pcB at h;split at h
 case h_2=>exact nomatch h
 rename_i p hp;have hi:=(List.getElem?_eq_some_iff.mp hp).1;have ln:=(N.s.ln i p hp).2;have pr:=(N.s.ln i p hp).1;have hg:∀k∈inP ps p.2,1<=gs.getD k 0:=fun k hk=>by
  have:=N.s.w.inP_lt hp hk;exact(N.g (show k<ps.length by omega)).1
 have hs0:∀y∈(inP ps p.2).map fun j=>gs.getD j 0,0<=y:=fun y hy=>by
  obtain⟨j,hj,rfl⟩:=mem_map.mp hy;have:=hg j hj;omega
 have mm:=Wx h;have mg:gs.getD q.1 0∈(inP ps p.2).map fun j=>gs.getD j 0:=mem_map.mpr ⟨q.1,mm,rfl⟩
 unfold pcsI at h;split at h
 ·rename_i k y e;have k18:=N.a18 i p.1 y k (by rw[hp,<-e]);split at h
  ·exact nomatch h
  ·rename_i j r ein;have gj:=hg j (by rw[ein];exact mem_cons_self);have eg:k*gs.getD j 0=gs.getD i 0:=ln _ (by rw[e]at ein|-;rw[ein];exact⟨_,rfl,rfl⟩);rw[<-eg];rcases mem_cons.mp h with rfl | h
   ·exact Int.mul_le_mul_of_nonneg_right k18.1 (by show 0<=gs.getD j 0;omega)
   ·split at h
    ·rw[mem_singleton.mp h];exact Int.mul_le_mul_of_nonneg_right (show k-1<=k by omega) (by show 0<=gs.getD j 0;omega)
    ·exact nomatch h
 ·rename_i ns e;have eg:=ln ((inP ps p.2).map fun j=>gs.getD j 0).sum (by rw[e];rfl);rw[(ZX h).2,Int.one_mul,<-eg];exact(j0R hs0 mg).1
 ·rename_i n1 n2;obtain⟨j,hj,rfl⟩:=mem_map.mp h;rw[Int.one_mul];cases e:p.2 with
  | side ns=>
   obtain⟨g,g1,g2⟩:=j0Z (l:=(inP ps p.2).map fun j=>gs.getD j 0) (fun z=>by rw[z]at mg;exact nomatch mg);have eg:=ln g (by rw[e]at g1 g2|-;exact⟨g1,g2⟩);rw[<-eg];exact g2 _ mg
  | row ns=>exact absurd e (n2 ns)
  | again k y=>exact absurd e (n1 k y)
  | hold n=>rw[e]at hj;exact nomatch hj
  | ring y n=>rw[e]at hj;exact nomatch hj
  | rise y v n=>rw[e]at hj;exact nomatch hj
theorem XM{α:Type}{f:α->Int}{B:Int}(b0:0<=B):∀{l:List α},(∀y∈l,0<=f y/\f y<=B)->0<=(l.map f).sum/\(l.map f).sum<=l.length*B
 | [],_=>by
  rw[map_nil,sum_nil];exact⟨Int.le_refl _,by show(0:Int)<=(0:Nat)*B;simp⟩
 | a::r,h=>by
  have ha:=h a mem_cons_self;have ih:=XM b0 fun y hy=>h y (mem_cons_of_mem _ hy)
  rw[map_cons,sum_cons,length_cons];have:((r.length+1:Nat):Int)*B=r.length*B+B:=by rw[show((r.length+1:Nat):Int)=(r.length:Int)+1 by omega,Int.add_mul,Int.one_mul]
  omega
theorem wB(N:Sn ls ps gs hs)(i:Nat):(pcB ps gs i).length<=8:=by
 unfold pcB;split
 ·rename_i p hp;exact Wq (N.i8 hp)
 ·exact Nat.zero_le _
theorem WPre.bnd(N:Sn ls ps gs hs){n:Nat}(hn:n<=ps.length)(O:WPre ps gs x W n):∀i,i<n->0<=W.getD i 0/\W.getD i 0<=gs.getD i 0*8^(i+1):=by
 intro i
 induction i using Nat.strongRecOn with
 | ind i ih=>
  intro hi;obtain⟨p,hp⟩:∃p,ps[i]?=some p:=⟨_,List.getElem?_eq_getElem (by omega)⟩
  have e:=O.2 i p hi hp;have gi:=N.g (show i<ps.length by omega);have p8:(0:Int)<8^i:=Int.pow_pos (by decide);have gp:1*1<=gs.getD i 0*8^i:=Int.mul_le_mul gi.1 (by omega) (by decide) (by omega);have b:=XM (f:=fun q:Pc=>q.2.1*W.getD q.1 0) (B:=gs.getD i 0*8^i) (by omega) (l:=pcB ps gs i) fun q hq=>by
   have lt:=Zj N.s.w hq;have ok:=N.pcOk hq;have w:=ih q.1 lt (by omega);refine⟨Int.mul_nonneg (by have:=ok.2.2.2.1;omega) w.1,?_⟩;have f:=N.fit hq;have pw:(8:Int)^(q.1+1)<=8^i:=by
    have:=Nat.pow_le_pow_right (show 0<8 by decide) (show q.1+1<=i by omega)
    exact_mod_cast this
   have t1:0<=q.2.1:=by have:=ok.2.2.2.1;omega
   calc q.2.1*W.getD q.1 0<=q.2.1*(gs.getD q.1 0*8^(q.1+1)):=Int.mul_le_mul_of_nonneg_left w.2 t1
    _=q.2.1*gs.getD q.1 0*8^(q.1+1):=(Int.mul_assoc ..).symm
    _<=gs.getD i 0*8^(q.1+1):=Int.mul_le_mul_of_nonneg_right f (Int.le_of_lt (Int.pow_pos (by decide)))
    _<=gs.getD i 0*8^i:=Int.mul_le_mul_of_nonneg_left pw (by omega)
  have l8:=wB N i;have o:0<=ownW x p.2/\ownW x p.2<=1/\(ownW x p.2=1->pcB ps gs i=[]):=by
   unfold ownW;split
   ·rename_i y m e';split
    ·refine⟨by decide,by decide,fun _=>?_⟩;unfold pcB;rw[hp];show pcsI gs p.2 (inP ps p.2)=[]
     rw[e'];rfl
    ·exact⟨by decide,by decide,fun z=>by cases z⟩
   ·exact⟨by decide,by decide,fun z=>by cases z⟩
  rw[e,Int.pow_succ,<-Int.mul_assoc];have b':0<=wSum W (pcB ps gs i)/\wSum W (pcB ps gs i)<=(pcB ps gs i).length*(gs.getD i 0*8^i):=b;by_cases c:ownW x p.2=1
  ·rw[o.2.2 c]at b'|-;have:wSum W []=0:=rfl;rw[this];omega
  ·have:((pcB ps gs i).length:Int)*(gs.getD i 0*8^i)<=8*(gs.getD i 0*8^i):=Int.mul_le_mul_of_nonneg_right (by omega) (by omega);omega
theorem WPre.b250(N:Sn ls ps gs hs){n:Nat}(hn:n<=ps.length)(O:WPre ps gs x W n){i:Nat}(hi:i<n):0<=W.getD i 0/\W.getD i 0<=10^200:=by
 have b:=O.bnd N hn i hi;have g:=N.g (show i<ps.length by omega);have p61:=N.s.w.p61;refine⟨b.1,Int.le_trans b.2 ?_⟩;have pw:(8:Int)^(i+1)<=8^61:=by
  have:=Nat.pow_le_pow_right (show 0<8 by decide) (show i+1<=61 by omega)
  exact_mod_cast this
 have:=Int.mul_le_mul g.2 pw (Int.le_of_lt (Int.pow_pos (by decide))) (by decide);exact Int.le_trans this (by decide)
theorem j0o{v:Int}{qs:List Pc}(h:∀q∈qs,q.1<W.length):wSum (W++[v]) qs=wSum W qs:=by
 unfold wSum;congr 1;refine map_congr_left fun q hq=>?_
 rw[getD_eq_getElem?_getD,getD_eq_getElem?_getD,List.getElem?_append_left (h q hq)]
theorem WPre.snoc(Wf:WfB ls ps){n:Nat}(O:WPre ps gs x W n){p:Str×Fm}(hp:ps[n]?=some p):WPre ps gs x (W++[ownW x p.2+wSum W (pcB ps gs n)]) (n+1):=by
 have hl:=O.1;refine⟨by rw[List.length_append,hl];rfl,fun j p' hj hp'=>?_⟩;rw[j0o fun q hq=>by have:=Zj Wf hq;omega];rcases Nat.lt_or_ge j n with z | z
 ·rw[<-O.2 j p' z hp',getD_eq_getElem?_getD,getD_eq_getElem?_getD,List.getElem?_append_left (by omega)]
 ·have:j=n:=by omega
  subst this;rw[hp]at hp';cases hp';rw[getD_eq_getElem?_getD,List.getElem?_append_right (by omega),hl,Nat.sub_self];rfl
end
theorem j1J{H:Hp}{fb:Addr}{f:Fm}{x:Str}(h:FormAt H fb f)(hf:FmWs f):∃xs:List V,H fb=some (.tup xs)/\(xs.length=2\/xs.length=3\/xs.length=4)/\
  ∀(H':Hp) (p:Addr),Same H H'->H' p=some (.tup (xs.take 2))->∃d,DV H' (.ref p) d/\SeqAt.shaped d=true/\PyData.eqv d (.tuple [.str "ring",.str x])=decide (ownW x f=1):=by
 have c:∀y:Str,Ws.isW y=true->Shp 0 (.str y):=fun y hy=>Shp.str (XJ hy)
 have two:∀{a b:PyData},Shp 1 a->Shp 1 b->SeqAt.shaped (.tuple [a,b])=true:=fun ha hb=>(Shp.tup (n:=1) fun d hd=>by
  simp only[mem_cons,List.not_mem_nil,or_false]at hd;rcases hd with rfl | rfl
  ·exact ha
  ·exact hb).ok (by decide)
 have m:∀{d:PyData},Shp 0 d->Shp 1 d:=fun h=>h.mono (by decide)
 have no:∀{y:Str} {a:PyData},(y==("ring" : Str))=false->PyData.eqv (.tuple [.str y,a]) (.tuple [.str "ring",.str x])=false:=fun {y a} e=>by
  show((y==("ring" : Str))&&_)=false;rw[e];rfl
 cases f with
 | hold n=>exact⟨_,h,.inl rfl,fun H' p s e=>⟨_,.tup e (.cons (.str _) (.cons (.int _) .nil)),two (m (c _ (by decide +kernel))) (m .int),by rw[no (by decide +kernel)];rfl⟩⟩
 | ring y n=>
  refine⟨_,h,.inr (.inl rfl),fun H' p s e=>⟨_,.tup e (.cons (.str _) (.cons (.str _) .nil)),two (m (c _ (by decide +kernel))) (m (c _ hf.1)),?_⟩⟩;show((("ring" : Str) == "ring")&&((y==x)&&true))=_;rw[beq_self_eq_true,Bool.true_and,Bool.and_true];show(y==x)=decide ((if y=x then(1:Int)else 0)=1);by_cases e:y=x
  ·rw[e,if_pos rfl];simp
  ·rw[if_neg e,beq_false_of_ne e];rfl
 | rise y v n=>exact⟨_,h,.inr (.inr rfl),fun H' p s e=>⟨_,.tup e (.cons (.str _) (.cons (.str _) .nil)),two (m (c _ (by decide +kernel))) (m (c _ hf.1)),by rw[no (by decide +kernel)];rfl⟩⟩
 | row ns=>
  obtain⟨b,h1,h2⟩:=h;exact⟨_,h1,.inl rfl,fun H' p s e=>⟨_,.tup e (.cons (.str _) (.cons (.tup (s _ _ h2) (Q1 ns)) .nil)),two (m (c _ (by decide +kernel))) (Shp.tup (yZ hf.2)),by rw[no (by decide +kernel)];rfl⟩⟩
 | side ns=>
  obtain⟨b,h1,h2⟩:=h;exact⟨_,h1,.inl rfl,fun H' p s e=>⟨_,.tup e (.cons (.str _) (.cons (.tup (s _ _ h2) (Q1 ns)) .nil)),two (m (c _ (by decide +kernel))) (Shp.tup (yZ hf.2)),by rw[no (by decide +kernel)];rfl⟩⟩
 | again k y=>exact⟨_,h,.inr (.inl rfl),fun H' p s e=>⟨_,.tup e (.cons (.str _) (.cons (.int _) .nil)),two (m (c _ (by decide +kernel))) (m .int),by rw[no (by decide +kernel)];rfl⟩⟩
theorem cut2{xs:List V}(h:xs.length=3\/xs.length=4):¬(HT.sIx xs.length 0 none=0/\HT.sIx xs.length xs.length (some 2)=xs.length)/\cutV xs none (some 2)=xs.take 2:=by
 unfold cutV;rcases h with e | e<;>rw[e]<;>exact⟨by decide,rfl⟩
theorem j2s{K:Frg}{H:Hp}{fb:Addr}{xs:List V}{Q:VK}(e:H fb=some (.tup xs))(hl:xs.length=2\/xs.length=3\/xs.length=4)(k:∀(cc:Addr) (H':Hp),Same H H'->H' cc=some (.tup (xs.take 2))->Q (.ref cc) H'):rSlT K (.ref fb) none (some 2) H Q\/rSlW K (.ref fb) none (some 2) H Q:=by
 rcases hl with h | h
 ·exact .inr ⟨fb,xs,rfl,SqT.of e,by rw[h];rfl,by rw[h];rfl,k fb H (Same.refl _) (by rw[List.take_of_length_le (by omega)];exact e)⟩
 ·exact .inl ⟨fb,xs,rfl,SqT.of e,(cut2 h).1,fun p hp=>k p _ (XH hp rfl) (by rw[(cut2 h).2];exact jx)⟩
end Rm
namespace Ct
def GB(r s g f:Int):Prop:=1<=g/\g ∣ r/\g ∣ s/\∃t,r*f=g+s*t
theorem j2b{r s g f m:Int}(G:GB r s g f):r*(s/g) ∣ m↔r ∣ m/\s ∣ m:=by
 obtain⟨g1,⟨a,ha⟩,⟨b,hb⟩,t,ht⟩:=G;have hg:g≠0:=by omega
 have eb:s/g=b:=by rw[hb,Int.mul_ediv_cancel_left _ hg]
 rw[eb];constructor
 ·rintro⟨k,rfl⟩;refine⟨⟨b*k,Int.mul_assoc _ _ _⟩,⟨a*k,?_⟩⟩;rw[ha,hb,Int.mul_assoc g a b,Int.mul_comm a b,<-Int.mul_assoc g b a,Int.mul_assoc]
 ·rintro⟨⟨p,hp⟩,q,hq⟩;refine⟨q*f-p*t,?_⟩;have e:g*m=g*(r*b*(q*f-p*t)):=by
   have e1:g*m=(r*f-s*t)*m:=by rw[ht];congr 1;omega
   have e2:r*f*m=r*f*(s*q):=by rw[<-hq]
   have e3:s*t*m=s*t*(r*p):=by rw[<-hp]
   rw[e1,Int.sub_mul,e2,e3,hb];simp only[Int.mul_sub,Int.mul_left_comm,Int.mul_comm]
  exact Int.eq_of_mul_eq_mul_left hg e
theorem j0k{r s g f:Int}(hs:1<=s)(G:GB r s g f):1<=s/g:=by
 obtain⟨g1,_,⟨c,hc⟩,_⟩:=G;have hg:g≠0:=by omega
 rw[show s/g=c by rw[hc,Int.mul_ediv_cancel_left _ hg]];by_cases z:c<=0
 ·have:=Int.mul_nonpos_of_nonpos_of_nonneg z (show 0<=g by omega);rw[Int.mul_comm]at this;omega
 ·omega
def Sol(cs:List (Int×Int))(y:Int):Prop:=∀c∈cs,c.2 ∣ y-c.1
structure Rg(cs:List (Int×Int))(B:List Int)(T:Int):Prop where
 t1:1<=T
 lc:∀m,T ∣ m↔∀c∈cs,c.2 ∣ m
 sl:(∃x,B=[x]/\0<=x/\x<T/\Sol cs x)\/(B=[]/\∀y,¬Sol cs y)
end Ct
namespace Rm
open PySem PySem.Spec PyProof.Rows L2
section
variable{ls:List (Str×Int)}{ps:List (Str×Fm)}{gs W:List Int}{hs:List (List Int)}{x:Str}
end
end Rm
namespace Ct
structure Ce(r s a b x y:Int):Prop where
 a1:1<=a
 b0:0<=b
 bs:b<=s
 ar:a<=r\/a<=s
 sg:(0<=x/\y<=0/\b*x-a*y=s)\/(x<=0/\0<=y/\a*y-b*x=s)
 x1 : -s<=x
 x2:x<=s
 y1 : -s<=y
 y2:y<=s
 rx:∃t,r*x=a+s*t
 ry:∃t,r*y=b+s*t
 dv:∀d,d ∣ a->d ∣ b->d ∣ r/\d ∣ s
theorem KE{b y s:Int}(hb:1<=b)(hy:0<=y)(h:b*y<=s):y<=s:=by
 have:=Int.mul_le_mul_of_nonneg_right hb hy;omega
theorem Ce.step{r s a b x y:Int}(C:Ce r s a b x y)(hb:1<=b):Ce r s b (a-a/b*b) y (x-a/b*y):=by
 have m0:0<=a/b:=Int.ediv_nonneg (by have:=C.a1;omega) (by omega);have e1:=Int.emod_add_mul_ediv a b;have e2:=Int.emod_nonneg a (show b≠0 by omega);have e3:=Int.emod_lt_of_pos a (show 0<b by omega);have ec:a/b*b=b*(a/b):=Int.mul_comm ..;have b0':0<=a-a/b*b:=by omega
 have b1':a-a/b*b<b:=by omega
 generalize hm:a/b=m at *;have x1:=C.x1;have x2:=C.x2;have y1:=C.y1;have y2:=C.y2;have bs:=C.bs;have key:b*(x-m*y)-(a-m*b)*y=b*x-a*y:=by
  rw[Int.mul_sub,Int.sub_mul,Int.mul_left_comm b m y,Int.mul_assoc m b y];omega
 refine⟨hb,b0',by omega,.inr bs,?_,y1,y2,?_,?_,C.ry,?_,fun d h1 h2=>?_⟩
 ·rcases C.sg with⟨h1,h2,h3⟩ | ⟨h1,h2,h3⟩
  ·refine .inr ⟨h2,?_,by omega⟩;have:=Int.mul_nonpos_of_nonneg_of_nonpos m0 h2;omega
  ·refine .inl ⟨h2,?_,by omega⟩;have:=Int.mul_nonneg m0 h2;omega
 ·rcases C.sg with⟨h1,h2,h3⟩ | ⟨h1,h2,h3⟩
  ·have:=Int.mul_nonpos_of_nonneg_of_nonpos m0 h2;omega
  ·have n1:0<=m*y-x:=by have:=Int.mul_nonneg m0 h2;omega
   have p:=Int.mul_nonneg b0' h2;have q:b*(m*y-x)<=s:=by
    rw[show m*y-x = -(x-m*y) by omega,Int.mul_neg];omega
   have:=KE hb n1 q;omega
 ·rcases C.sg with⟨h1,h2,h3⟩ | ⟨h1,h2,h3⟩
  ·have n1:0<=x-m*y:=by have:=Int.mul_nonpos_of_nonneg_of_nonpos m0 h2;omega
   have p:=Int.mul_nonpos_of_nonneg_of_nonpos b0' h2;exact KE hb n1 (by omega)
  ·have:=Int.mul_nonneg m0 h2;omega
 ·obtain⟨t,ht⟩:=C.rx;obtain⟨t',ht'⟩:=C.ry;refine⟨t-m*t',?_⟩;rw[Int.mul_sub,Int.mul_left_comm r m y,ht,ht',Int.mul_add,Int.mul_sub,Int.mul_left_comm s m t'];omega
 ·have ha:d ∣ a:=by
   have:=Int.dvd_add h2 (Int.dvd_trans h1 (Int.dvd_mul_left m b));rw[show a-m*b+m*b=a by omega]at this;exact this
  exact C.dv d ha h1
theorem Ce.done{r s a x y:Int}(C:Ce r s a 0 x y):GB r s a x:=by
 obtain⟨d1,d2⟩:=C.dv a (Int.dvd_refl a) (Int.dvd_zero a);exact⟨C.a1,d1,d2,C.rx⟩
end Ct
namespace Rm
open PySem PySem.Spec PyProof.Rows L2
section
variable{ls:List (Str×Int)}{ps:List (Str×Fm)}{gs W:List Int}{hs:List (List Int)}{R:Int->Prop}{F:List Int}{S0:List (Nat×Int)}{s:Nat×Int}{x:Str}
end
section
variable{ds:List Mb}{B:List Int}{T b:Int}
end
section
variable{fs:List Fn}{names:List Str}{x:Str}
variable{a:Int}
end
end Rm
namespace Ct
theorem j2a{r s g f:Int}(G:GB r s g f):r/g*s=r*(s/g):=by
 obtain⟨g1,⟨a,ha⟩,⟨b,hb⟩,_⟩:=G;have hg:g≠0:=by omega
 rw[ha,hb,Int.mul_ediv_cancel_left _ hg,Int.mul_ediv_cancel_left _ hg];simp only[Int.mul_left_comm,Int.mul_comm]
structure Lcm(ls:List Int)(T:Int):Prop where
 t1:1<=T
 d:∀m,T ∣ m↔∀l∈ls,l ∣ m
theorem Lcm.snoc{ls:List Int}{T s g f:Int}(h:Lcm ls T)(hs:1<=s)(G:GB T s g f):Lcm (ls++[s]) (T/g*s):=by
 rw[j2a G];have st:=j0k hs G;refine⟨by have:=Int.mul_le_mul h.t1 st (by decide) (by have:=h.t1;omega);omega,fun m=>?_⟩;rw[j2b G,h.d];constructor
 ·rintro⟨a,b⟩ l hl;rcases mem_append.mp hl with z | z
  ·exact a l z
  ·rw[mem_singleton.mp z];exact b
 ·exact fun a=>⟨fun l hl=>a l (mem_append_left _ hl),a s (mem_append_right _ mem_cons_self)⟩
end Ct
namespace Rm
open PySem PySem.Spec PyProof.Rows L2
noncomputable def stepR(W:List Int)(r:Nat->Int->Int)(y:Pr4):Int:=y.2.2.1*W.getD y.1 0+(match y.2.2.2 with | some u=>r y.1 u | none=>0)
noncomputable def raL(pc:Nat->List Pc)(gs W:List Int):Nat->Nat->Int->Int
 | 0,_,_=>0
 | n+1,i,t=>if pc i=[]then(if 0<t then W.getD i 0 else 0)else((prg gs t (pc i)).map (stepR W (raL pc gs W n))).sum
noncomputable def RA(ps:List (Str×Fm))(gs W:List Int)(i:Nat)(t:Int):Int:=raL (pcB ps gs) gs W (i+1) i t
noncomputable def cntR(x:Str)(ps:List (Str×Fm))(gs:List Int)(i:Nat)(t:Int):Int:=(((reach ps gs i t).flatMap (ringX ps)).count x:Nat)
theorem zT{α:Type}{f g:α->Int}{l:List α}(h:∀x∈l,f x=g x):(l.map f).sum=(l.map g).sum:=by rw[map_congr_left h]
section
variable{ls:List (Str×Int)}{ps:List (Str×Fm)}{gs W:List Int}{hs:List (List Int)}{x:Str}
theorem wE(Wf:WfB ls ps){i:Nat}{t:Int}{y:Pr4}(h:y∈prg gs t (pcB ps gs i)):y.1<i:=by
 obtain⟨q,hq,e⟩:=ZW h;rw[kJ e];exact Zj Wf hq
theorem wF(Wf:WfB ls ps):∀{n m i:Nat} {t:Int},i<n->i<m->raL (pcB ps gs) gs W n i t=raL (pcB ps gs) gs W m i t
 | 0,_,_,_,h,_=>absurd h (Nat.not_lt_zero _)
 | _,0,_,_,_,h=>absurd h (Nat.not_lt_zero _)
 | n+1,m+1,i,t,h1,h2=>by
  unfold raL;split
  ·rfl
  ·refine zT fun y hy=>?_
   have:=wE Wf hy;unfold stepR;split
   ·rw[wF Wf (show y.1<n by omega) (show y.1<m by omega)]
   ·rfl
theorem ZQ{i:Nat}{t:Int}(h:pcB ps gs i=[]):RA ps gs W i t=if 0<t then W.getD i 0 else 0:=by
 unfold RA raL;rw[if_pos h]
noncomputable def cQ(ps:List (Str×Fm))(gs W:List Int)(t:Int)(q:Pc):Int:=if q.2.2<=t then ov gs t q*W.getD q.1 0+(if ov gs t q<q.2.1 then RA ps gs W q.1 (t-q.2.2-ov gs t q*gs.getD q.1 0)else 0)else 0
theorem j1C{f:Pc->Option Pr4}{g:Pr4->Int}{c:Pc->Int}(h0:∀q,f q=none->c q=0)(h1:∀q y,f q=some y->c q=g y):∀qs:List Pc,((qs.filterMap f).map g).sum=(qs.map c).sum
 | []=>rfl
 | q::r=>by
  rw[map_cons,sum_cons,<-j1C h0 h1 r];cases e:f q with
  | none=>rw[filterMap_cons_none e,h0 q e,Int.zero_add]
  | some y=>rw[filterMap_cons_some e,map_cons,sum_cons,h1 q y e]
theorem yv(Wf:WfB ls ps){i:Nat}{t:Int}(h:¬pcB ps gs i=[]):RA ps gs W i t=((pcB ps gs i).map (cQ ps gs W t)).sum:=by
 have e:RA ps gs W i t=((prg gs t (pcB ps gs i)).map (stepR W (RA ps gs W))).sum:=by
  unfold RA;rw[raL,if_neg h];refine zT fun y hy=>?_
  have:=wE Wf hy;unfold stepR;split
  ·rw[wF Wf (show y.1<i by omega) (show y.1<y.1+1 by omega)]
  ·rfl
 rw[e];unfold prg;refine j1C (fun q hq=>?_) (fun q y hy=>?_) _
 ·unfold prg1 at hq;unfold cQ;split at hq
  ·cases hq
  ·rename_i c;rw[if_neg c]
 ·unfold prg1 at hy;unfold cQ;split at hy
  ·rename_i c;rw[if_pos c];injection hy with hy;subst hy;unfold stepR;dsimp only;by_cases c':ov gs t q<q.2.1
   ·rw[if_pos c',if_pos c']
   ·rw[if_neg c',if_neg c']
  ·cases hy
theorem XF{g:Nat->Int}:∀{is:List Nat} {b:Int} {q:Pc},(∀j∈is,0<=gs.getD j 0)->q∈rowPc gs is b->q.2.2+gs.getD q.1 0<=b+(is.map fun j=>gs.getD j 0).sum
 | [],_,_,_,h=>nomatch h
 | j::r,b,q,h0,h=>by
  have nn:0<=(r.map fun j=>gs.getD j 0).sum:=by
   cases r with
   | nil=>exact Int.le_refl _
   | cons a s=>
    refine(j0R (l:=(a::s).map fun j=>gs.getD j 0) (fun y hy=>?_) (mem_map.mpr ⟨a,mem_cons_self,rfl⟩)).2;obtain⟨k,hk,rfl⟩:=mem_map.mp hy;exact h0 k (mem_cons_of_mem _ hk)
  rw[map_cons,sum_cons];rcases mem_cons.mp h with rfl | h
  ·show b+gs.getD j 0<=_;omega
  ·have:=XF (g:=g) (fun k hk=>h0 k (mem_cons_of_mem _ hk)) h;omega
theorem Sn.fit2(N:Sn ls ps gs hs){i:Nat}{q:Pc}(h:q∈pcB ps gs i):q.2.2+q.2.1*gs.getD q.1 0<=gs.getD i 0:=by
 have ft:=N.fit h;by_cases b0:q.2.2=0
 ·omega
 unfold pcB at h;split at h
 case h_2=>exact nomatch h
 rename_i p hp;have ln:=(N.s.ln i p hp).2;have hg:∀k∈inP ps p.2,1<=gs.getD k 0:=fun k hk=>by
  have:=N.s.w.inP_lt hp hk;have:=(List.getElem?_eq_some_iff.mp hp).1;exact(N.g (show k<ps.length by omega)).1
 unfold pcsI at h;split at h
 ·rename_i k y e;split at h
  ·exact nomatch h
  ·rename_i j r ein;have eg:k*gs.getD j 0=gs.getD i 0:=ln _ (by rw[e]at ein|-;rw[ein];exact⟨_,rfl,rfl⟩);rcases mem_cons.mp h with rfl | h
   ·exact absurd rfl b0
   ·split at h
    ·rw[mem_singleton.mp h,<-eg];show gs.getD j 0+(k-1)*gs.getD j 0<=_;rw[Int.sub_mul];omega
    ·exact nomatch h
 ·rename_i ns e;have eg:=ln ((inP ps p.2).map fun j=>gs.getD j 0).sum (by rw[e];rfl);have:=XF (g:=fun _=>0) (fun j hj=>by have:=hg j hj;omega) h;rw[(ZX h).2,Int.one_mul,<-eg];omega
 ·obtain⟨j,hj,rfl⟩:=mem_map.mp h;exact absurd rfl b0
theorem WF{i:Nat}{p:Str×Fm}(hp:ps[i]?=some p)(h:¬pcB ps gs i=[]):ownW x p.2=0:=by
 unfold ownW;split
 ·rename_i y n e;exfalso;apply h;unfold pcB;rw[hp];show pcsI gs p.2 (inP ps p.2)=[]
  rw[e];rfl
 ·rfl
theorem YZ(N:Sn ls ps gs hs):∀i,RA ps gs W i 0=0:=by
 intro i
 induction i using Nat.strongRecOn with
 | ind i ih=>
  by_cases c:pcB ps gs i=[]
  ·rw[ZQ c];rfl
  ·rw[yv N.s.w c];have:∀q∈pcB ps gs i,cQ ps gs W 0 q=0:=fun q hq=>by
    have ok:=N.pcOk hq;have lt:=Zj N.s.w hq;unfold cQ;split
    ·have b:q.2.2=0:=by have:=ok.2.2.2.2.2.1;omega
     have o:ov gs 0 q=0:=by
      unfold ov;rw[b,show(0:Int)-0=0 from rfl,Int.zero_ediv,if_neg (by have:=ok.2.2.2.1;omega)]
     rw[o,b,if_pos (by have:=ok.2.2.2.1;omega),Int.zero_mul,Int.zero_mul,Int.zero_add,show(0:Int)-0-0=0 from rfl];exact ih q.1 lt
    ·rfl
   rw[map_congr_left this];generalize pcB ps gs i=l
   induction l with
   | nil=>rfl
   | cons a r ih2=>rw[map_cons,sum_cons,ih2];rfl
theorem wZ(N:Sn ls ps gs hs)(O:WPre ps gs x W ps.length){i:Nat}(hi:i<ps.length):RA ps gs W i (gs.getD i 0)=W.getD i 0:=by
 have gi:=(N.g hi).1;by_cases c:pcB ps gs i=[]
 ·rw[ZQ c,if_pos (by omega)]
 ·rw[yv N.s.w c,O.2 i _ hi (List.getElem?_eq_getElem hi),WF (List.getElem?_eq_getElem hi) c,Int.zero_add];unfold wSum;refine zT fun q hq=>?_
  have ok:=N.pcOk hq;have ft:=N.fit2 hq;have tg:=Int.mul_pos (show 0<q.2.1 by have:=ok.2.2.2.1;omega) (show 0<gs.getD q.1 0 by have:=ok.2.1;omega);unfold cQ;rw[if_pos (by omega)];have o:ov gs (gs.getD i 0) q=q.2.1:=by
   unfold ov;have:q.2.1<=(gs.getD i 0-q.2.2)/gs.getD q.1 0:=(Int.le_ediv_iff_mul_le (by have:=ok.2.1;omega)).mpr (by omega);split<;>omega
  rw[o,if_neg (Int.lt_irrefl _),Int.add_zero]
noncomputable def nQ(x:Str)(ps:List (Str×Fm))(gs:List Int)(t:Int)(q:Pc):Int:=if q.2.2<=t/\ov gs t q<q.2.1 then cntR x ps gs q.1 (t-q.2.2-ov gs t q*gs.getD q.1 0)else 0
theorem j1r{i:Nat}{g:Int}(h:1<=g):ringX ps (i,g)=[]:=by
 unfold ringX;split
 ·exact if_neg (by show¬g=0;omega)
 ·rfl
theorem j1Z(a b:List Str):((a++b).count x:Int)=(a.count x:Int)+(b.count x:Int):=by rw[List.count_append];omega
theorem XX(N:Sn ls ps gs hs){i:Nat}{t:Int}(h:¬(gs.getD i 0<=t\/pcB ps gs i=[])):cntR x ps gs i t=((pcB ps gs i).map (nQ x ps gs t)).sum:=by
 unfold cntR;rw[yi N.s.w h];have key:∀qs:List Pc,(∀q∈qs,q∈pcB ps gs i)->(((((qs.filterMap (prg1 gs t)).flatMap (wth1 gs)).flatMap fun y=>reach ps gs y.1 y.2).flatMap (ringX ps)).count x:Int)=(qs.map (nQ x ps gs t)).sum:=by
  intro qs
  induction qs with
  | nil=>intro _;rfl
  | cons q r ih=>
   intro hq;have ok:=N.pcOk (hq q mem_cons_self);have ih:=ih fun y hy=>hq y (mem_cons_of_mem _ hy)
   rw[map_cons,sum_cons,<-ih];unfold nQ;by_cases c:q.2.2<=t
   ·have e:prg1 gs t q=some (q.1,q.2.2,ov gs t q,if ov gs t q<q.2.1 then some (t-q.2.2-ov gs t q*gs.getD q.1 0)else none):=if_pos c;rw[filterMap_cons_some e,flatMap_cons,flatMap_append,flatMap_append,j1Z];congr 1;have e2:((wth1 gs (q.1,q.2.2,ov gs t q,if ov gs t q<q.2.1 then some (t-q.2.2-ov gs t q*gs.getD q.1 0)else none)).flatMap fun y=>reach ps gs y.1 y.2).flatMap (ringX ps)=if ov gs t q<q.2.1 then(reach ps gs q.1 (t-q.2.2-ov gs t q*gs.getD q.1 0)).flatMap (ringX ps)else[]:=by
     unfold wth1;rw[flatMap_append,flatMap_append];have z:((if 0<ov gs t q then[(q.1,gs.getD q.1 0)]else[]).flatMap fun y:Nat×Int=>reach ps gs y.1 y.2).flatMap (ringX ps)=[]:=by
      split
      ·rw[flatMap_cons,flatMap_nil,append_nil,zm (.inl (Int.le_refl _)),flatMap_cons,flatMap_nil,append_nil];exact j1r ok.2.1
      ·rfl
     have z':((if 0<(q.1,q.2.2,ov gs t q,if ov gs t q<q.2.1 then some (t-q.2.2-ov gs t q*gs.getD q.1 0)else none).2.2.1 then[((q.1,q.2.2,ov gs t q,if ov gs t q<q.2.1 then some (t-q.2.2-ov gs t q*gs.getD q.1 0)else none).1,gs.getD q.1 0)]else[]).flatMap fun y:Nat×Int=>reach ps gs y.1 y.2).flatMap (ringX ps)=[]:=z;rw[z',List.nil_append];by_cases c':ov gs t q<q.2.1
     ·rw[if_pos c',if_pos c'];show(([(q.1,t-q.2.2-ov gs t q*gs.getD q.1 0)].flatMap fun y:Nat×Int=>reach ps gs y.1 y.2).flatMap (ringX ps))=_;rw[flatMap_cons,flatMap_nil,append_nil]
     ·rw[if_neg c',if_neg c'];rfl
    rw[e2];by_cases c':ov gs t q<q.2.1
    ·rw[if_pos c',if_pos ⟨c,c'⟩];rfl
    ·rw[if_neg c',if_neg fun z=>c' z.2];rfl
   ·have e:prg1 gs t q=none:=if_neg c;rw[filterMap_cons_none e,if_neg fun z=>c z.1,Int.zero_add]
 exact key _ fun q hq=>hq
theorem XL{α:Type}{f g h:α->Int}:∀{l:List α},(∀y∈l,f y=g y+h y)->(l.map f).sum=(l.map g).sum+(l.map h).sum
 | [],_=>rfl
 | a::r,e=>by
  rw[map_cons,map_cons,map_cons,sum_cons,sum_cons,sum_cons,XL fun y hy=>e y (mem_cons_of_mem _ hy),e a mem_cons_self];omega
noncomputable def fQ(w T g:Int)(r:Int->Int)(u:Int):Int:=if u/g<T then u/g*w+r (u%g)else T*w
theorem j22{w T g:Int}{r c:Int->Int}{u:Int}(hg:0<g)(hu:0<=u)(r0:r 0=0)(rg:r g=w)(st:∀v,0<=v->v<g->r (v+1)=r v+c v):fQ w T g r (u+1)=fQ w T g r u+(if u/g<T then c (u%g)else 0):=by
 have e:=Int.emod_add_mul_ediv u g;have b0:=Int.emod_nonneg u (show g≠0 by omega);have b1:=Int.emod_lt_of_pos u hg;have sb:=st _ b0 b1;unfold fQ;rcases Int.lt_or_le (u%g+1) g with z | z
 ·have d:(u+1)/g=u/g:=by
   rw[show u+1=u%g+1+g*(u/g) by omega,Int.add_mul_ediv_left _ _ (by omega),Int.ediv_eq_zero_of_lt (by omega) z,Int.zero_add]
  have m:(u+1)%g=u%g+1:=by
   rw[show u+1=u%g+1+g*(u/g) by omega,Int.add_mul_emod_self_left,Int.emod_eq_of_lt (by omega) z]
  rw[d,m];split
  ·rw[sb];omega
  ·omega
 ·have eb:u%g+1=g:=by omega
  have d:(u+1)/g=u/g+1:=by
   rw[show u+1=0+g*(u/g+1) by rw[Int.mul_add];omega,Int.add_mul_ediv_left _ _ (by omega),Int.zero_ediv,Int.zero_add]
  have m:(u+1)%g=0:=by
   rw[show u+1=0+g*(u/g+1) by rw[Int.mul_add];omega,Int.add_mul_emod_self_left,Int.zero_emod]
  rw[d,m,r0];rw[eb,rg]at sb;by_cases c1:u/g<T
  ·rw[if_pos c1,if_pos c1];by_cases c2:u/g+1<T
   ·rw[if_pos c2,Int.add_mul];omega
   ·rw[if_neg c2,show T=u/g+1 by omega,Int.add_mul];omega
  ·rw[if_neg c1,if_neg c1,if_neg (by omega)];omega
theorem j1g{q:Pc}{t:Int}:ov gs t q=if(t-q.2.2)/gs.getD q.1 0<q.2.1 then(t-q.2.2)/gs.getD q.1 0 else q.2.1:=by
 unfold ov;split<;>split<;>omega
theorem wG{u g:Int}:u-u/g*g=u%g:=by
 have:=Int.emod_add_mul_ediv u g;rw[Int.mul_comm (u/g) g];omega
theorem j0z{q:Pc}{t:Int}(ok:PcOk gs q)(h:q.2.2<=t):cQ ps gs W t q=fQ (W.getD q.1 0) q.2.1 (gs.getD q.1 0) (RA ps gs W q.1) (t-q.2.2):=by
 unfold cQ fQ;rw[if_pos h,j1g];by_cases c:(t-q.2.2)/gs.getD q.1 0<q.2.1
 ·rw[if_pos c,if_pos c,if_pos c,wG]
 ·rw[if_neg c,if_neg c,if_neg (Int.lt_irrefl _),Int.add_zero]
theorem j3i{q:Pc}{t:Int}(ok:PcOk gs q)(h:q.2.2<=t):nQ x ps gs t q=if(t-q.2.2)/gs.getD q.1 0<q.2.1 then cntR x ps gs q.1 ((t-q.2.2)%gs.getD q.1 0)else 0:=by
 unfold nQ;rw[j1g];by_cases c:(t-q.2.2)/gs.getD q.1 0<q.2.1
 ·rw[if_pos c,if_pos ⟨h,c⟩,if_pos c,wG]
 ·rw[if_neg c,if_neg (fun z=>Int.lt_irrefl _ z.2),if_neg c]
theorem j1T(N:Sn ls ps gs hs)(O:WPre ps gs x W ps.length):∀(i:Nat),i<ps.length->∀t,0<=t->t<gs.getD i 0->RA ps gs W i (t+1)=RA ps gs W i t+cntR x ps gs i t:=by
 intro i
 induction i using Nat.strongRecOn with
 | ind i ih=>
  intro hi t t0 t1;by_cases c:pcB ps gs i=[]
  ·have ew:W.getD i 0=ownW x ps[i].2:=by
    rw[O.2 i _ hi (List.getElem?_eq_getElem hi),c];exact Int.add_zero _
   rw[ZQ c,ZQ c,if_pos (by omega),ew];unfold cntR;rw[zm (.inr c),flatMap_cons,flatMap_nil,append_nil];unfold ringX ownW;rw[List.getElem?_eq_getElem hi];generalize ps[i]=p;obtain⟨y,f⟩:=p;cases f with
   | ring z n=>
    show(if z=x then(1:Int)else 0)=(if 0<t then(if z=x then(1:Int)else 0)else 0)+(((if t=0 then[z]else[]):List Str).count x:Int);by_cases ct:t=0
    ·subst ct;rw[if_neg (Int.lt_irrefl _),if_pos rfl,Int.zero_add];by_cases cx:z=x
     ·rw[if_pos cx,cx];simp
     ·rw[if_neg cx,List.count_singleton];simp[cx]
    ·rw[if_pos (show 0<t by omega),if_neg ct];simp
   | _=>simp
  ·rw[yv N.s.w c,yv N.s.w c,XX N (fun z=>z.elim (fun z=>by omega) c)];refine XL fun q hq=>?_
   have ok:=N.pcOk hq;have lt:=Zj N.s.w hq;have ql:q.1<ps.length:=by omega
   have g1:=ok.2.1;have T1:=ok.2.2.2.1;by_cases c1:q.2.2<=t
   ·rw[j0z ok (show q.2.2<=t+1 by omega),j0z ok c1,j3i ok c1,show t+1-q.2.2=t-q.2.2+1 by omega];exact j22 (by omega) (by omega) (YZ N q.1) (wZ N O ql) (ih q.1 lt ql)
   ·have n0:nQ x ps gs t q=0:=if_neg fun z=>c1 z.1
    have c0:cQ ps gs W t q=0:=if_neg c1;rw[n0,c0];by_cases c2:q.2.2<=t+1
    ·rw[j0z ok c2,show t+1-q.2.2=0 by omega];unfold fQ;rw[Int.zero_ediv,if_pos (by omega),Int.zero_mul,Int.zero_emod,YZ N]
    ·exact if_neg c2
noncomputable def rsts(ys:List Pr4):List (Nat×Int):=ys.filterMap fun y=>y.2.2.2.map fun r=>(y.1,r)
noncomputable def ovs(W:List Int)(ys:List Pr4):Int:=(ys.map fun y=>y.2.2.1*W.getD y.1 0).sum
theorem WP(r:Nat->Int->Int):∀ys:List Pr4,(ys.map (stepR W r)).sum=ovs W ys+((rsts ys).map fun s=>r s.1 s.2).sum
 | []=>rfl
 | y::t=>by
  have ih:=WP r t;unfold ovs rsts at ih|-;rw[map_cons,sum_cons,ih,map_cons,sum_cons];unfold stepR;cases e:y.2.2.2 with
  | none=>
   rw[filterMap_cons_none (by rw[e];rfl)];show y.2.2.1*W.getD y.1 0+0+_=_;omega
  | some u=>
   rw[filterMap_cons_some (b:=(y.1,u)) (by rw[e];rfl),map_cons,sum_cons];show y.2.2.1*W.getD y.1 0+r y.1 u+_=_+(r y.1 u+_);omega
theorem j1R(Wf:WfB ls ps){i:Nat}{t:Int}:RA ps gs W i t=(if pcB ps gs i=[]then(if 0<t then W.getD i 0 else 0)else 0)+(ovs W (prg gs t (pcB ps gs i))+((rsts (prg gs t (pcB ps gs i))).map fun s=>RA ps gs W s.1 s.2).sum):=by
 by_cases h:pcB ps gs i=[]
 ·rw[ZQ h,if_pos h,h];show _=_+(0+0);omega
 ·rw[if_neg h,Int.zero_add,<-WP];unfold RA;rw[raL,if_neg h];refine zT fun y hy=>?_
  have:=wE Wf hy;unfold stepR;split
  ·rw[wF Wf (show y.1<i by omega) (show y.1<y.1+1 by omega)]
  ·rfl
theorem WJ{t:Int}{qs:List Pc}{s:Nat×Int}(h:s∈rsts (prg gs t qs)):∃q∈qs,s.1=q.1/\q.2.2<=t/\ov gs t q<q.2.1/\s.2=t-q.2.2-ov gs t q*gs.getD q.1 0:=by
 obtain⟨y,hy,e⟩:=mem_filterMap.mp h;obtain⟨q,hq,e1⟩:=ZW hy;obtain⟨r,er,rfl⟩:=Option.map_eq_some_iff.mp e;unfold prg1 at e1;split at e1
 ·rename_i c;injection e1 with e1;subst e1;dsimp only at er|-;split at er
  ·rename_i c';exact⟨q,hq,rfl,c,c',(Option.some.inj er).symm⟩
  ·cases er
 ·cases e1
theorem WK:∀ys:List Pr4,((rsts ys).map fun x=>nodes ps gs x.1 x.2).sum<=((ys.flatMap (wth1 gs)).map fun x=>nodes ps gs x.1 x.2).sum
 | []=>Nat.le_refl _
 | y::t=>by
  have ih:=WK t;unfold rsts at ih|-;rw[flatMap_cons,map_append,sum_append];unfold wth1;rw[map_append,sum_append];cases e:y.2.2.2 with
  | none=>
   rw[filterMap_cons_none (by rw[e];rfl)];unfold wth1 at ih;omega
  | some u=>
   rw[filterMap_cons_some (b:=(y.1,u)) (by rw[e];rfl),map_cons,sum_cons];show nodes ps gs y.1 u+_<=_+(nodes ps gs y.1 u+0)+_;unfold wth1 at ih;omega
theorem kN(N:Sn ls ps gs hs){i:Nat}{t:Int}:((rsts (prg gs t (pcB ps gs i))).map fun x=>nodes ps gs x.1 x.2).sum<nodes ps gs i t:=by
 by_cases c:t<gs.getD i 0
 ·have:=Yv N.s.w (gs:=gs) (i:=i) c;have:=WK (ps:=ps) (gs:=gs) (prg gs t (pcB ps gs i));unfold wth at *;omega
 ·have e:rsts (prg gs t (pcB ps gs i))=[]:=by
   apply List.eq_nil_iff_forall_not_mem.mpr;intro s hs';obtain⟨q,hq,_,c1,c2,_⟩:=WJ hs';have ok:=N.pcOk hq;have ft:=N.fit2 hq;have:q.2.1<=(t-q.2.2)/gs.getD q.1 0:=(Int.le_ediv_iff_mul_le (by have:=ok.2.1;omega)).mpr (by omega);unfold ov at c2;split at c2<;>omega
  rw[e];exact ZY i t
theorem j2o(N:Sn ls ps gs hs){i:Nat}{t:Int}(hi:i<ps.length)(h2:t<=10^61){s:Nat×Int}(h:s∈rsts (prg gs t (pcB ps gs i))):s.1<ps.length/\0<=s.2/\s.2<=10^61:=by
 obtain⟨q,hq,e1,c1,c2,e2⟩:=WJ h;have ok:=N.pcOk hq;have lt:=Zj N.s.w hq;have eo:ov gs t q=(t-q.2.2)/gs.getD q.1 0:=by
  rw[j1g]at c2|-;split at c2
  ·rename_i c;rw[if_pos c]
  ·omega
 rw[eo,wG]at e2;have b0:=Int.emod_nonneg (t-q.2.2) (show gs.getD q.1 0≠0 by have:=ok.2.1;omega);have b1:=Int.emod_lt_of_pos (t-q.2.2) (show 0<gs.getD q.1 0 by have:=ok.2.1;omega);have:=ok.2.2.1;exact⟨by omega,by omega,by omega⟩
inductive sp_aheadR(C:Addr)(vs:List V)(H:Hp)(Q:VK)(xk:XK):Prop
 | mk (a:Addr) (z:Ta) (ls:List (Str×Int)) (ps:List (Str×Fm)) (gs W:List Int) (hs:List (List Int)) (x:Str) (t:Int) (_:vs=[.ref a,.int t]) (_:TalAt C H a z ps gs W) (_:Sn ls ps gs hs) (_:WPre ps gs x W ps.length) (_:0<=t) (_:t<=gs.getD (ps.length-1) 0+1) (_:∀H',Same H H'->Q (.int (RA ps gs W (ps.length-1) t)) H'):sp_aheadR C vs H Q xk
structure AhS(ps:List (Str×Fm))(gs W:List Int)(G to:Int)(S:List (Nat×Int)):Prop where
 e:to+(S.map fun s=>RA ps gs W s.1 s.2).sum=G
 ok:∀s∈S,s.1<ps.length/\0<=s.2/\s.2<=10^61
 n:(S.map fun s=>nodes ps gs s.1 s.2).sum<=5000
theorem AhS.next(N:Sn ls ps gs hs){G to:Int}{S0:List (Nat×Int)}{s:Nat×Int}(h:AhS ps gs W G to (S0++[s])):AhS ps gs W G (to+(if pcB ps gs s.1=[]then(if 0<s.2 then W.getD s.1 0 else 0)else 0)+ovs W (prg gs s.2 (pcB ps gs s.1))) (S0++rsts (prg gs s.2 (pcB ps gs s.1))):=by
 have os:=h.ok s (mem_append_right _ mem_cons_self);have e:=h.e;have n:=h.n;have rn:=kN (i:=s.1) (t:=s.2) N;rw[map_append,sum_append,map_cons,map_nil,sum_cons,sum_nil]at e n;rw[j1R N.s.w]at e;refine⟨?_,fun y hy=>?_,?_⟩
 ·rw[map_append,sum_append];omega
 ·rcases mem_append.mp hy with z | z
  ·exact h.ok y (mem_append_left _ z)
  ·exact j2o N os.1 os.2.2 z
 ·rw[map_append,sum_append];omega
theorem j0g{ys:List Pr4}{k:Nat}{y:Pr4}(h:ys[k]?=some y)(e:y.2.2.2=none):rsts (ys.take (k+1))=rsts (ys.take k):=by
 unfold rsts;rw[take_snoc h,List.filterMap_append,filterMap_cons_none (by rw[e];rfl),List.filterMap_nil,append_nil]
theorem j0h{ys:List Pr4}{k:Nat}{y:Pr4}{r:Int}(h:ys[k]?=some y)(e:y.2.2.2=some r):rsts (ys.take (k+1))=rsts (ys.take k)++[(y.1,r)]:=by
 unfold rsts;rw[take_snoc h,List.filterMap_append,filterMap_cons_some (b:=(y.1,r)) (by rw[e];rfl),List.filterMap_nil]
theorem j1h{ys:List Pr4}{k:Nat}{y:Pr4}(h:ys[k]?=some y):ovs W (ys.take (k+1))=ovs W (ys.take k)+y.2.2.1*W.getD y.1 0:=by
 unfold ovs;rw[take_snoc h,map_append,sum_append,map_cons,map_nil,sum_cons,sum_nil,Int.add_zero]
theorem j38(N:Sn ls ps gs hs){i:Nat}{t:Int}{y:Pr4}(h:y∈prg gs t (pcB ps gs i)):0<=y.2.2.1/\y.2.2.1<=10^18:=by
 obtain⟨q,hq,e⟩:=ZW h;have ok:=N.pcOk hq;unfold prg1 at e;split at e
 ·rename_i c;injection e with e;subst e;show 0<=ov gs t q/\ov gs t q<=_;have:=Int.ediv_nonneg (show 0<=t-q.2.2 by omega) (show 0<=gs.getD q.1 0 by have:=ok.2.1;omega);have:=ok.2.2.2.1;have:=ok.2.2.2.2.1;unfold ov;split<;>omega
 ·cases e
theorem j1S(N:Sn ls ps gs hs)(O:WPre ps gs x W ps.length){i:Nat}(hi:i<ps.length){t:Int}(ht:gs.getD i 0<=t):RA ps gs W i t=W.getD i 0:=by
 have gi:=(N.g hi).1;by_cases c:pcB ps gs i=[]
 ·rw[ZQ c,if_pos (by omega)]
 ·rw[yv N.s.w c,O.2 i _ hi (List.getElem?_eq_getElem hi),WF (List.getElem?_eq_getElem hi) c,Int.zero_add];unfold wSum;refine zT fun q hq=>?_
  have ok:=N.pcOk hq;have ft:=N.fit2 hq;have tg:=Int.mul_pos (show 0<q.2.1 by have:=ok.2.2.2.1;omega) (show 0<gs.getD q.1 0 by have:=ok.2.1;omega);unfold cQ;rw[if_pos (by omega)];have o:ov gs t q=q.2.1:=by
   unfold ov;have:q.2.1<=(t-q.2.2)/gs.getD q.1 0:=(Int.le_ediv_iff_mul_le (by have:=ok.2.1;omega)).mpr (by omega);split<;>omega
  rw[o,if_neg (Int.lt_irrefl _),Int.add_zero]
noncomputable def rungN(x:Str)(ps:List (Str×Fm))(gs:List Int):Nat->Int
 | 0=>0
 | n+1=>rungN x ps gs n+(((ringsW ps gs (n:Int)).count x:Nat):Int)
theorem ZR(N:Sn ls ps gs hs)(O:WPre ps gs x W ps.length):∀n:Nat,(n:Int)<=gs.getD (ps.length-1) 0->RA ps gs W (ps.length-1) (n:Int)=rungN x ps gs n
 | 0,_=>YZ N _
 | n+1,h=>by
  have ne:=N.ne;rw[show((n+1:Nat):Int)=(n:Int)+1 by omega]at h|-;rw[j1T N O _ (by omega) n (by omega) (by omega),ZR N O n (by omega)];rfl
theorem wY(N:Sn ls ps gs hs)(O:WPre ps gs x W ps.length){t:Int}(h:0<=t):RA ps gs W (ps.length-1) t=rungN x ps gs (min t (gs.getD (ps.length-1) 0)).toNat:=by
 have ne:=N.ne;have g1:=(N.g (show ps.length-1<ps.length by omega)).1;rcases Int.le_total t (gs.getD (ps.length-1) 0)with z | z
 ·rw[show min t (gs.getD (ps.length-1) 0)=t by omega,<-ZR N O t.toNat (by omega),Int.toNat_of_nonneg h]
 ·rw[show min t (gs.getD (ps.length-1) 0)=gs.getD (ps.length-1) 0 by omega,<-ZR N O _ (by omega),Int.toNat_of_nonneg (by omega),j1S N O (by omega) z,wZ N O (by omega)]
theorem kr{z:Ta}{g:Int}:(fldR z g).lookup ("ahead" : Str)=none:=(Jc (by decide +kernel)).trans ((Jc (by decide +kernel)).trans ((Jc (by decide +kernel)).trans ((Jc (by decide +kernel)).trans rfl)))
inductive sp_ringC(vs:List V)(H:Hp)(Q:VK)(xk:XK):Prop
 | mk (b pl pp:Addr) (las pas:List Addr) (ls:List (Str×Int)) (ps:List (Str×Fm)) (gs:List Int) (hs:List (List Int)) (x:Str) (t:Int) (_:vs=[.ref b,.str x,.int t]) (_:BookAt H b pl pp las pas ls ps) (_:Sn ls ps gs hs) (_:Ws.isW x=true) (_:(∀p∈ps,FmWs p.2)) (_:0<=t) (_:t<=gs.getD (ps.length-1) 0+1) (_:∀H',Same H H'->Q (.int (rungN x ps gs (min t (gs.getD (ps.length-1) 0)).toNat)) H'):sp_ringC vs H Q xk
def BeatR(ps:List (Str×Fm))(gs W:List Int)(n:Int)(v:V):Prop:=(¬(0<=n/\n<RA ps gs W (ps.length-1) (gs.getD (ps.length-1) 0+1))/\v = .non)\/(0<=n/\n<RA ps gs W (ps.length-1) (gs.getD (ps.length-1) 0+1))/\∃b:Int,v = .int b/\0<=b/\b<=gs.getD (ps.length-1) 0/\RA ps gs W (ps.length-1) b<=n/\n<RA ps gs W (ps.length-1) (b+1)
inductive sp_beatR(C:Addr)(vs:List V)(H:Hp)(Q:VK)(xk:XK):Prop
 | mk (a:Addr) (z:Ta) (ls:List (Str×Int)) (ps:List (Str×Fm)) (gs W:List Int) (hs:List (List Int)) (x:Str) (n:Int) (_:vs=[.ref a,.int n]) (_:TalAt C H a z ps gs W) (_:Sn ls ps gs hs) (_:WPre ps gs x W ps.length) (_:∀(v:V) (H':Hp),Same H H'->BeatR ps gs W n v->Q v H'):sp_beatR C vs H Q xk
def RbR(x:Str)(ps:List (Str×Fm))(gs:List Int)(n:Int)(v:V):Prop:=(¬(0<=n/\n<rungN x ps gs (gs.getD (ps.length-1) 0).toNat)/\v = .non)\/(0<=n/\n<rungN x ps gs (gs.getD (ps.length-1) 0).toNat)/\∃b:Nat,v = .int (b:Int)/\(b:Int)<gs.getD (ps.length-1) 0/\rungN x ps gs b<=n/\n<rungN x ps gs (b+1)
theorem BeatR.rb(N:Sn ls ps gs hs)(O:WPre ps gs x W ps.length){n:Int}{v:V}(h:BeatR ps gs W n v):RbR x ps gs n v:=by
 have ne:=N.ne;have g1:=(N.g (show ps.length-1<ps.length by omega)).1;have e:RA ps gs W (ps.length-1) (gs.getD (ps.length-1) 0+1)=rungN x ps gs (gs.getD (ps.length-1) 0).toNat:=by
  rw[wY N O (by omega),show min (gs.getD (ps.length-1) 0+1) (gs.getD (ps.length-1) 0)=gs.getD (ps.length-1) 0 by omega]
 unfold BeatR at h;rw[e]at h;rcases h with h | ⟨h,b,e1,b0,b1,r1,r2⟩
 ·exact .inl h
 ·obtain⟨m,rfl⟩:∃m:Nat,b=(m:Int):=⟨b.toNat,by omega⟩
  have lt:(m:Int)<gs.getD (ps.length-1) 0:=by
   apply Int.not_le.mp;intro z;have:(m:Int)=gs.getD (ps.length-1) 0:=by omega
   rw[ZR N O m b1,show m=(gs.getD (ps.length-1) 0).toNat by omega]at r1;omega
  refine .inr ⟨h,m,e1,lt,by rw[<-ZR N O m b1];exact r1,?_⟩;rw[<-ZR N O (m+1) (by omega),show((m+1:Nat):Int)=(m:Int)+1 by omega];exact r2
inductive sp_ringB(vs:List V)(H:Hp)(Q:VK)(xk:XK):Prop
 | mk (b pl pp:Addr) (las pas:List Addr) (ls:List (Str×Int)) (ps:List (Str×Fm)) (gs:List Int) (hs:List (List Int)) (x:Str) (n:Int) (_:vs=[.ref b,.str x,.int n]) (_:BookAt H b pl pp las pas ls ps) (_:Sn ls ps gs hs) (_:Ws.isW x=true) (_:(∀p∈ps,FmWs p.2)) (_:∀(v:V) (H':Hp),Same H H'->RbR x ps gs n v->Q v H'):sp_ringB vs H Q xk
end
noncomputable def mixB(c k:Int):Int:=(c%10^30+k*k+1)*314159265358979323846264338327%(10^30+57)
theorem QT(c k:Int):0<=mixB c k/\mixB c k<10^30+57:=⟨Int.emod_nonneg _ (by decide),Int.emod_lt_of_pos _ (by decide)⟩
def y6:Sp:=fun vs H Q _=>∃c k:Int,vs=[.int c,.int k]/\0<=k/\k<=10^20/\Q (.int (mixB c k)) H
inductive sp_greatB(K:Frg)(vs:List V)(H:Hp)(Q:VK)(xk:XK):Prop
 | mk (a:Addr) (ns:List Int) (j k:Int) (_:vs=[.ref a,.int j,.int k]) (_:SqL K H a (ns.map V.int)) (_:ns.length<=63) (_:0<=j) (_:j<=60) (_:0<=k) (_:k<=10^18) (_:Q (.int (mixB (Pr.cell ns j) k*mixB (Pr.cell ns (j+1)) (k+20))) H):sp_greatB K vs H Q xk
noncomputable def tkB(x y m:Int):Int×Int×Int:=if 0<x then(x%m,x/m,y)else(mixB ((y+m)*314159265358979323846264338327%(10^30+57)) m/1000%m,x,mixB ((y+m)*314159265358979323846264338327%(10^30+57)) m)
theorem Jo{x y m:Int}(h:1<=m):0<=(tkB x y m).1/\(tkB x y m).1<m:=by
 unfold tkB;split<;>exact⟨Int.emod_nonneg _ (by omega),Int.emod_lt_of_pos _ (by omega)⟩
inductive sp_takeB(vs:List V)(H:Hp)(Q:VK)(xk:XK):Prop
 | mk (p:Addr) (x y m:Int) (_:vs=[.ref p,.int m]) (_:H p=some (.lst [.int x,.int y])) (_:1<=m) (_:m<=10^20) (_:0<=y) (_:y<10^30+57) (_:∀H',Ex p H H'->H' p=some (.lst [.int (tkB x y m).2.1,.int (tkB x y m).2.2])->Q (.int (tkB x y m).1) H'):sp_takeB vs H Q xk
noncomputable def abB:Str:=Str.ofString "abcdefghijklnopqrstuvwxyz"
noncomputable def wdB(p k:Nat):Str:=Txt.slice "mm" none (some (p:Int))++(⟨#[abB.cps.toList.getD (k%25) 97]⟩:Str)++(⟨#[if k<25 then 110 else 111]⟩:Str)++Txt.slice "mm" (some (p:Int)) none
inductive sp_wordB(vs:List V)(H:Hp)(Q:VK)(xk:XK):Prop
 | mk (p k:Nat) (_:vs=[.int (p:Nat),.int (k:Nat)]) (_:p<3) (_:k<50) (_:Q (.str (wdB p k)) H):sp_wordB vs H Q xk
theorem Wc{x:Str}{a b:Option Int}:(Txt.slice x a b).length<=x.length:=j20
noncomputable def knK(nm:List Str)(gs:List Int):List (Key×V):=(nm.zip gs).map fun p=>(Sum.inr p.1,.int p.2)
theorem Wn{nm:List Str}{gs:List Int}(h:nm.length=gs.length):(knK nm gs).map (·.1)=nm.map Sum.inr:=by
 unfold knK;rw[map_map];have e:((fun x:Key×V=>x.1)∘fun p:Str×Int=>((Sum.inr p.1:Key),V.int p.2))=(fun x:Str=>(Sum.inr x:Key))∘Prod.fst:=rfl;rw[e,<-map_map,List.map_fst_zip (by omega)]
theorem Y4{nm:List Str}{gs:List Int}(nd:nm.Nodup)(h:nm.length=gs.length){j:Nat}(hj:j<nm.length):valV (knK nm gs) (Sum.inr (nm.getD j ⟨#[]⟩))=some (.int (gs.getD j 0)):=by
 refine xV (j:=j) (by rw[Wn h];exact pairwise_map.mpr (nd.imp fun h e=>h (Sum.inr.inj e))) ?_;have hg:j<gs.length:=by omega
 have e:(nm.zip gs)[j]?=some (nm[j],gs[j]):=List.getElem?_zip_eq_some.mpr ⟨List.getElem?_eq_getElem hj,List.getElem?_eq_getElem hg⟩;unfold knK;rw[List.getElem?_map,e,getD_eq_getElem?_getD,getD_eq_getElem?_getD,List.getElem?_eq_getElem hj,List.getElem?_eq_getElem hg];rfl
inductive sp_longB(vs:List V)(H:Hp)(Q:VK)(xk:XK):Prop
 | mk (fa d:Addr) (f:Fn) (nm:List Str) (gs:List Int) (L:List Str) (M:List (List Int)) (_:vs=[.ref fa,.ref d]) (_:FormAt H fa (toldF nm f)) (_:H d=some (.dK (knK nm gs))) (_:nm.Nodup) (_:nm.length=gs.length) (_:PreN L M nm.length f) (_:(∀j,j<nm.length->1<=gs.getD j 0/\gs.getD j 0<=10^60)) (_:∀(g:Int) (H':Hp),Same H H'->LenN gs f g->Q (.int g) H'):sp_longB vs H Q xk
def StrsAt(H:Hp)(as:List Addr)(Ms:List (List Str)):Prop:=All2 (fun a ks=>H a=some (.lst (ks.map V.str))) as Ms
noncomputable def rsB:Fn->List Nat
 | .row is=>is
 | .side is=>is
 | _=>[]
def MovS(Ms:List (List Str))(f:Fn)(ks:List Str):Prop:=ks.Nodup/\∀s,s∈ks↔(∃j∈f.js,s∈Ms.getD j [])\/∃h n,f = .rise s h n
inductive sp_movesB(vs:List V)(H:Hp)(Q:VK)(xk:XK):Prop
 | mk (fa nl ml:Addr) (mas:List Addr) (f:Fn) (nm:List Str) (Ms:List (List Str)) (L:List Str) (M:List (List Int)) (_:vs=[.ref fa,.ref nl,.ref ml]) (_:FormAt H fa (toldF nm f)) (_:H nl=some (.lst (nm.map V.str))) (_:H ml=some (.lst (mas.map V.ref))) (_:StrsAt H mas Ms) (_:nm.Nodup) (_:Ms.length=nm.length) (_:nm.length<=20) (_:PreN L M nm.length f) (_:(∀ks∈Ms,ks.length<=8)) (_:∀(l:Addr) (ks:List Str) (H':Hp),Same H H'->H l=none->H' l=some (.lst (ks.map V.str))->MovS Ms f ks->ks.length<=80->Q (.ref l) H'):sp_movesB vs H Q xk
theorem Y2(n:Str):∀hs:List Str,inV (.str n) (hs.map V.str)=decide (n∈hs)
 | []=>by simp[inV]
 | h::r=>by
  have ih:=Y2 n r;unfold inV at ih|-;rw[map_cons,any_cons,ih];have e:eqV (.str h) (.str n)=decide (h=n):=by
   show(h==n)=_;by_cases c:h=n
   ·subst c;simp
   ·rw[decide_eq_false c];exact beq_eq_false_iff_ne.mpr c
  rw[e,Bool.eq_iff_iff];simp only[Bool.or_eq_true,decide_eq_true_eq,mem_cons];constructor
  ·rintro(x | x)
   ·exact .inl x.symm
   ·exact .inr x
  ·rintro(x | x)
   ·exact .inl x.symm
   ·exact .inr x
theorem flatB:∀hs:List Str,(hs.map V.str).all flatV=true
 | []=>rfl
 | h::r=>by rw[map_cons,all_cons,flatB r];rfl
theorem lidxB{xs:List Str}(nd:xs.Nodup){j:Nat}(hj:j<xs.length):(xs.map V.str)[j]?=some (.str (xs.getD j ⟨#[]⟩))/\eqV (.str (xs.getD j ⟨#[]⟩)) (.str (xs.getD j ⟨#[]⟩))=true/\∀(n:Nat) (z:V),n<j->(xs.map V.str)[n]?=some z->eqV z (.str (xs.getD j ⟨#[]⟩))=false:=by
 have h:xs[j]?=some (xs.getD j ⟨#[]⟩):=by rw[getD_eq_getElem?_getD,List.getElem?_eq_getElem hj];rfl
 refine⟨by rw[List.getElem?_map,h];rfl,(by show(xs.getD j ⟨#[]⟩==xs.getD j ⟨#[]⟩)=true;exact beq_self_eq_true _),fun n z hn hz=>?_⟩;rw[List.getElem?_map]at hz;obtain⟨w,hw,rfl⟩:=Option.map_eq_some_iff.mp hz;show(w==xs.getD j ⟨#[]⟩)=false;refine beq_eq_false_iff_ne.mpr fun e=>?_
 rw[<-e]at h;have a:=JL nd hw;have b:=JL nd h;omega
noncomputable def plB(L ks:List Str):List Int:=((List.range L.length).filter fun i=>decide (L.getD i ⟨#[]⟩∈ks)).map fun i:Nat=>(i:Int)
theorem Zk{L ks:List Str}{k:Int}:k∈plB L ks↔∃(i:Nat) (s:Str),L[i]?=some s/\s∈ks/\k=(i:Int):=by
 unfold plB;constructor
 ·intro h;obtain⟨i,hi,rfl⟩:=mem_map.mp h;obtain⟨h1,h2⟩:=mem_filter.mp hi;have il:=mem_range.mp h1;refine⟨i,L[i],List.getElem?_eq_getElem il,?_,rfl⟩;have:=of_decide_eq_true h2;rw[getD_eq_getElem?_getD,List.getElem?_eq_getElem il]at this;exact this
 ·rintro⟨i,s,h1,h2,rfl⟩;have il:=(List.getElem?_eq_some_iff.mp h1).1;refine mem_map.mpr ⟨i,mem_filter.mpr ⟨mem_range.mpr il,decide_eq_true ?_⟩,rfl⟩;rw[getD_eq_getElem?_getD,h1];exact h2
theorem j36{L ks:List Str}:(plB L ks).Pairwise (· < ·):=by
 unfold plB;refine pairwise_map.mpr ?_;refine(List.Pairwise.filter _ (List.pairwise_lt_range (n:=L.length))).imp fun {a b} h=>?_
 omega
def InL(L:List Str)(Ms:List (List Str)):Prop:=∀ks∈Ms,ks.Nodup/\∀s∈ks,s∈L
theorem InL.at'{L:List Str}{Ms:List (List Str)}(I:InL L Ms)(j:Nat):∀s∈Ms.getD j [],s∈L:=fun s hs=>by
 rw[getD_eq_getElem?_getD]at hs;cases e:Ms[j]? with
 | none=>rw[e]at hs;cases hs
 | some ks=>rw[e]at hs;exact(I ks (List.mem_of_getElem? e)).2 s hs
theorem j0S{a b:List Str}(nd:a.Nodup)(h:∀x∈a,x∈b):a.length<=b.length:=by
 induction a generalizing b with
 | nil=>exact Nat.zero_le _
 | cons x r ih=>
  rw[nodup_cons]at nd;have hx:=h x mem_cons_self;have:=ih (b:=b.erase x) nd.2 fun y hy=>by
   have hne:y≠x:=fun e=>nd.1 (e▸hy)
   exact(List.mem_erase_of_ne hne).mpr (h y (mem_cons_of_mem _ hy))
  rw[List.length_erase_of_mem hx]at this;have:0<b.length:=List.length_pos_of_mem hx;rw[length_cons];omega
theorem InL.len{L:List Str}{Ms:List (List Str)}(I:InL L Ms){ks:List Str}(h:ks∈Ms):ks.length<=L.length:=j0S (I ks h).1 (I ks h).2
theorem yV{L:List Str}{Ms:List (List Str)}(j:Nat):(Ms.map (plB L)).getD j []=plB L (Ms.getD j []):=by
 rw[getD_eq_getElem?_getD,getD_eq_getElem?_getD,List.getElem?_map];cases Ms[j]? with
 | none=>
  show[]=plB L [];refine(List.eq_nil_iff_forall_not_mem.mpr fun k hk=>?_).symm;obtain⟨_,_,_,h,_⟩:=Zk.mp hk;cases h
 | some x=>rfl
theorem j37{L ks:List Str}(h:∀s∈ks,s∈L)(n:ks≠[]):plB L ks≠[]:=fun z=>by
 obtain⟨s,hs⟩:=List.exists_mem_of_ne_nil ks n;obtain⟨i,hi⟩:=List.mem_iff_getElem?.mp (h s hs);have:=Zk.mpr ⟨i,s,hi,hs,rfl⟩;rw[z]at this;cases this
def ApartS(Ms:List (List Str))(is:List Nat):Prop:=(∀j∈is,Ms.getD j []≠[])/\is.Pairwise fun a b=>∀s∈Ms.getD a [],¬s∈Ms.getD b []
theorem ApartS.n{L:List Str}{Ms:List (List Str)}{is:List Nat}(I:InL L Ms)(h:ApartS Ms is):ApartN (Ms.map (plB L)) is:=by
 refine⟨fun j hj=>?_,h.2.imp fun {a b} d k hk hk'=>?_⟩
 ·rw[yV];exact j37 (I.at' j) (h.1 j hj)
 ·rw[yV]at hk hk';obtain⟨i,s,h1,h2,rfl⟩:=Zk.mp hk;obtain⟨i',s',h3,h4,e⟩:=Zk.mp hk';have e':i=i':=by omega
  subst e';rw[h1]at h3;cases h3;exact d s h2 h4
theorem MovS.n{L:List Str}{Ms:List (List Str)}{f:Fn}{ks:List Str}(h:MovS Ms f ks):MovN L (Ms.map (plB L)) f (plB L ks):=by
 refine⟨j36,fun k=>?_⟩;rw[Zk];constructor
 ·rintro⟨i,s,h1,h2,rfl⟩;rcases(h.2 s).mp h2 with⟨j,hj,hs⟩ | ⟨v,n,e⟩
  ·exact .inl ⟨j,hj,by rw[yV];exact Zk.mpr ⟨i,s,h1,hs,rfl⟩⟩
  ·exact .inr ⟨s,v,n,i,e,h1,rfl⟩
 ·rintro(⟨j,hj,hk⟩ | ⟨x,v,n,i,e,h1,rfl⟩)
  ·rw[yV]at hk;obtain⟨i,s,h1,h2,rfl⟩:=Zk.mp hk;exact⟨i,s,h1,(h.2 s).mpr (.inl ⟨j,hj,h2⟩),rfl⟩
  ·exact⟨i,x,h1,(h.2 x).mpr (.inr ⟨v,n,e⟩),rfl⟩
theorem MovS.inL{L:List Str}{Ms:List (List Str)}{f:Fn}{ks:List Str}{M:List (List Int)}{n:Nat}(I:InL L Ms)(p:PreN L M n f)(h:MovS Ms f ks):ks.Nodup/\∀s∈ks,s∈L:=by
 refine⟨h.1,fun s hs=>?_⟩;rcases(h.2 s).mp hs with⟨j,_,hj⟩ | ⟨v,n,e⟩
 ·exact I.at' j s hj
 ·subst e;obtain⟨⟨i,hi⟩,_⟩:=p;exact List.mem_of_getElem? hi
theorem DOk.addN{L:List Str}{fs:List Fn}{M:List (List Int)}{gs:List Int}{f:Fn}{ks:List Int}{g:Int}(D:DOk L fs M gs)(h1:PreN L M fs.length f)(h2:MovN L M f ks)(h3:LenN gs f g)(h4:1<=g/\g<=10^60):DOk L (fs++[f]) (M++[ks]) (gs++[g]):=by
 have ml:=D.ml;have gl:=D.gl;refine⟨by simp[ml],by simp[gl],fun i f' hf'=>?_,fun i hi=>?_⟩
 ·by_cases hi:i<fs.length
  ·rw[List.getElem?_append_left hi]at hf';obtain⟨a,b,c⟩:=D.f i f' hf';have js:=a.js.2;rw[Qi (by omega),Qi (by omega)];exact⟨a.ext (by omega),b.ext fun j hj=>by have:=js j hj;omega,c.ext fun j hj=>by have:=js j hj;omega⟩
  ·rw[List.getElem?_append_right (by omega)]at hf';have hi':i=fs.length:=by
    have:=(List.getElem?_eq_some_iff.mp hf').1;simp at this;omega
   subst hi';rw[Nat.sub_self]at hf';have e:f'=f:=(Option.some.inj hf').symm;subst e;have js:=h1.js.2;have e1:(M++[ks]).getD fs.length []=ks:=by rw[<-ml];exact zj
   have e2:(gs++[g]).getD fs.length 0=g:=by rw[<-gl];exact zj
   rw[e1,e2];exact⟨h1.ext (by omega),h2.ext fun j hj=>by have:=js j hj;omega,h3.ext fun j hj=>by have:=js j hj;omega⟩
 ·rw[List.length_append]at hi;have hi:i<fs.length+1:=hi;by_cases c:i<fs.length
  ·rw[Qi (by omega)];exact D.g i c
  ·have e:i=fs.length:=by omega
   subst e;have e2:(gs++[g]).getD fs.length 0=g:=by rw[<-gl];exact zj
   rw[e2];exact h4
theorem j2c{L:List Str}{M:List (List Int)}{gs:List Int}{n:Nat}{f:Fn}{g:Int}(p:PreN L M n f)(l:LenN gs f g)(b:∀j,j<n->1<=gs.getD j 0):1<=g:=by
 cases f with
 | hold m=>obtain⟨h1,h2⟩:=p;have e:g=m:=l;omega
 | ring x m=>obtain⟨h1,h2,_⟩:=p;have e:g=m:=l;omega
 | rise x v m=>obtain⟨_,_,_,h1,h2⟩:=p;have e:g=m:=l;omega
 | row is=>
  obtain⟨h1,h2,h3⟩:=p;have e:g=(is.map fun j=>gs.getD j 0).sum:=l;have q:∀js:List Nat,(∀j∈js,j<n)->0<=(js.map fun j=>gs.getD j 0).sum:=fun js=>by
   induction js with
   | nil=>exact fun _=>Int.le_refl _
   | cons j js ih=>
    intro h;rw[map_cons,sum_cons];have:=b j (h j mem_cons_self);have:=ih fun i hi=>h i (mem_cons_of_mem _ hi)
    omega
  cases is with
  | nil=>exact absurd rfl h1
  | cons j js=>
   rw[e,map_cons,sum_cons];have b1:=b j (h3 j mem_cons_self);have:=q js fun i hi=>h3 i (mem_cons_of_mem _ hi)
   omega
 | side is=>
  obtain⟨_,_,h3,_⟩:=p;obtain⟨⟨j,hj,e⟩,_⟩:=l;have:=b j (h3 j hj);omega
 | again k j=>
  obtain⟨h1,h2,h3⟩:=p;have e:g=k*gs.getD j 0:=l;have bj:=b j h3;have:=Int.mul_le_mul h1 bj (by decide) (by omega);omega
theorem LenN.uniq{gs:List Int}{f:Fn}{g g':Int}(h:LenN gs f g)(h':LenN gs f g'):g=g':=by
 cases f with
 | side is=>
  obtain⟨⟨j,hj,e⟩,m⟩:=h;obtain⟨⟨j',hj',e'⟩,m'⟩:=h';have:=m j' hj';have:=m' j hj;omega
 | hold n=>exact Eq.trans h (Eq.symm h')
 | ring x n=>exact Eq.trans h (Eq.symm h')
 | rise x v n=>exact Eq.trans h (Eq.symm h')
 | row is=>exact Eq.trans h (Eq.symm h')
 | again k j=>exact Eq.trans h (Eq.symm h')
theorem eqvB(xs:List Str):PyData.eqv (.list (xs.map PyData.str)) (.list [])=decide (xs=[]):=by
 cases xs<;>simp[PyData.eqv,PyData.eqvAll]
theorem shpB{xs:List Str}(h:∀x∈xs,Ws.isW x=true):SeqAt.shaped (.list (xs.map PyData.str))=true:=(Shp.lst (n:=0) (yZ h)).ok (by decide)
theorem inB(n:Str)(hs:List Str):(if false=true then !inV (.str n) (hs.map V.str)else inV (.str n) (hs.map V.str))=decide (n∈hs):=by rw[if_neg (by decide),Y2]
theorem ke{xs:List V}{k:Int}(h:∀v∈xs,∃w:Str,v = .str w/\Ws.isW w=true)(k0:0<=k)(k1:k<(xs.length:Int)):∃w:Str,atI xs k=some (.str w)/\Ws.isW w=true:=by
 obtain⟨j,rfl⟩:∃j:Nat,k=(j:Int):=⟨k.toNat,by omega⟩
 have hj:j<xs.length:=by omega
 obtain⟨w,e,hw⟩:=h xs[j] (getElem_mem hj);exact⟨w,L2.jY (by rw[List.getElem?_eq_getElem hj,e]),hw⟩
theorem Xg{xs:List V}{lo hi:Option Int}{v:V}(h:v∈cutV xs lo hi):v∈xs:=List.mem_of_mem_drop (List.mem_of_mem_take h)
theorem zq{nm:List Str}{j:Nat}(h:j<nm.length):atI (nm.map V.str) ((j:Nat):Int)=some (.str (nm.getD j ⟨#[]⟩)):=by
 refine L2.jY ?_;rw[List.getElem?_map,getD_eq_getElem?_getD,List.getElem?_eq_getElem h];rfl
structure NmB(nl ml:Addr)(mas:List Addr)(L nm:List Str)(Ms:List (List Str))(H:Hp):Prop where
 en:H nl=some (.lst (nm.map V.str))
 em:H ml=some (.lst (mas.map V.ref))
 am:StrsAt H mas Ms
 il:InL L Ms
 ml:Ms.length=nm.length
 n20:nm.length<=20
 l8:L.length<=8
 w:∀x∈nm,Ws.isW x=true
 lw:∀x∈L,Ws.isW x=true
theorem NmB.same{nl ml:Addr}{mas:List Addr}{L nm:List Str}{Ms:List (List Str)}{H H':Hp}(N:NmB nl ml mas L nm Ms H)(s:Same H H'):NmB nl ml mas L nm Ms H':=
 ⟨s _ _ N.en,s _ _ N.em,N.am.mono fun a x h=>s _ _ h,N.il,N.ml,N.n20,N.l8,N.w,N.lw⟩
theorem NmB.mv{nl ml:Addr}{mas:List Addr}{L nm:List Str}{Ms:List (List Str)}{H:Hp}(N:NmB nl ml mas L nm Ms H){j:Nat}(hj:j<nm.length):∃ma,mas[j]?=some ma/\H ma=some (.lst ((Ms.getD j []).map V.str))/\(Ms.getD j []).length<=8/\∀x∈Ms.getD j [],Ws.isW x=true:=by
 have e:Ms[j]?=some (Ms.getD j []):=by rw[getD_eq_getElem?_getD,List.getElem?_eq_getElem (by rw[N.ml];exact hj)];rfl
 obtain⟨ma,h1,h2⟩:=N.am.get e;have:=N.il.len (List.mem_of_getElem? e);have:=N.l8;exact⟨ma,h1,h2,by omega,fun x hx=>N.lw x (N.il.at' j x hx)⟩
def BdB(H:Hp)(bd:Addr)(b0 b1 b2 b3 b4:Int):Prop:=H bd=some (.lst [.int b0,.int b1,.int b2,.int b3,.int b4])/\1<=b0/\b0<=10^18/\1<=b1/\b1<=10^18/\1<=b2/\b2<=10^18+1/\1<=b3/\b3<=10^18/\1<=b4/\b4<=10^60
theorem at01{b0 b1 b2 b3 b4 i:Int}(h0:1<=b0/\b0<=10^18)(h1:1<=b1/\b1<=10^18)(i0:0<=i)(i1:i<2):∃b:Int,atI [V.int b0,V.int b1,V.int b2,V.int b3,V.int b4] i=some (V.int b)/\1<=b/\b<=10^18:=by
 have:i=0\/i=1:=by omega
 rcases this with rfl | rfl
 ·exact⟨b0,rfl,h0⟩
 ·exact⟨b1,rfl,h1⟩
structure LmB(pl:Addr)(las:List Addr)(ls:List (Str×Int))(H:Hp):Prop where
 el:H pl=some (.lst (las.map V.ref))
 la:All2 (LimbAt H) las ls
 l1:1<=ls.length
theorem LmB.same{pl:Addr}{las:List Addr}{ls:List (Str×Int)}{H H':Hp}(N:LmB pl las ls H)(s:Same H H'):LmB pl las ls H':=⟨s _ _ N.el,N.la.mono fun a x h=>s _ _ h,N.l1⟩
theorem j1p{H:Hp}{Q:VK}(h:Q (.int (10^12)) H):rI CPow (fun i j=>.int (i^j.toNat)) (.int 10) (.int 12) H Q:=⟨10,12,rfl,rfl,⟨by decide,by decide,by decide⟩,h⟩
inductive sp_lastB(vs:List V)(H:Hp)(Q:VK)(xk:XK):Prop
 | mk (nl d:Addr) (nm:List Str) (gs:List Int) (most:Int) (_:vs=[.ref nl,.ref d,.int most]) (_:H nl=some (.lst (nm.map V.str))) (_:H d=some (.dK (knK nm gs))) (_:nm.Nodup) (_:nm.length=gs.length) (_:1<=nm.length) (_:nm.length<=20) (_:(∀j,j<nm.length->1<=gs.getD j 0/\gs.getD j 0<=most)) (_:∀(b:Addr) (is:List Nat) (H':Hp),Same H H'->H' b=some (.tup ((is.map fun j=>nm.getD j ⟨#[]⟩).map V.str))->is≠[]->is.length<=5->(∀j∈is,j<nm.length)->Q (.ref b) H'):sp_lastB vs H Q xk
noncomputable def atB(n:Int)(len t:Nat):Nat:=(((len:Int)-1-(t:Int)*(1+n%3))%(len:Int)).toNat
noncomputable def nmS(n:Int)(len:Nat)(Ms:List (List Str))(ro:Bool):Nat->List Nat×List Str
 | 0=>([],[])
 | t+1=>if ro=true then(if(t:Int)<1+n/3%5 then((nmS n len Ms ro t).1++[atB n len t],(nmS n len Ms ro t).2)else nmS n len Ms ro t)
  else if Ms.getD (atB n len t) []≠[]/\((Ms.getD (atB n len t) []).filter fun s=>decide (s∈(nmS n len Ms ro t).2))=[]/\(nmS n len Ms ro t).1.length<4 then((nmS n len Ms ro t).1++[atB n len t],(nmS n len Ms ro t).2++Ms.getD (atB n len t) [])else nmS n len Ms ro t
section
variable{n:Int}{len:Nat}{Ms:List (List Str)}{ro:Bool}
theorem W1{t:Nat}(h:1<=len):atB n len t<len:=by
 unfold atB;have a:=Int.emod_nonneg ((len:Int)-1-(t:Int)*(1+n%3)) (show(len:Int)≠0 by omega);have b:=Int.emod_lt_of_pos ((len:Int)-1-(t:Int)*(1+n%3)) (show(0:Int)<(len:Int) by omega);omega
theorem j18(t:Nat):nmS n len Ms ro (t+1)=if ro=true then(if(t:Int)<1+n/3%5 then((nmS n len Ms ro t).1++[atB n len t],(nmS n len Ms ro t).2)else nmS n len Ms ro t)
  else if Ms.getD (atB n len t) []≠[]/\((Ms.getD (atB n len t) []).filter fun s=>decide (s∈(nmS n len Ms ro t).2))=[]/\(nmS n len Ms ro t).1.length<4 then((nmS n len Ms ro t).1++[atB n len t],(nmS n len Ms ro t).2++Ms.getD (atB n len t) [])else nmS n len Ms ro t:=rfl
theorem xA(h:1<=len):∀(t:Nat) (j:Nat),j∈(nmS n len Ms ro t).1->j<len
 | 0,j,hj=>nomatch hj
 | t+1,j,hj=>by
  have ih:=xA h t j;unfold nmS at hj;split at hj
  ·split at hj
   ·rcases mem_append.mp hj with z | z
    ·exact ih z
    ·rw[mem_singleton.mp z];exact W1 h
   ·exact ih hj
  ·split at hj
   ·rcases mem_append.mp hj with z | z
    ·exact ih z
    ·rw[mem_singleton.mp z];exact W1 h
   ·exact ih hj
theorem j19(m8:∀j,(Ms.getD j []).length<=8):∀t:Nat,(nmS n len Ms ro t).2.length<=8*(nmS n len Ms ro t).1.length
 | 0=>Nat.le_refl _
 | t+1=>by
  have ih:=j19 m8 t;have m4:=m8 (atB n len t);unfold nmS;split
  ·split
   ·rw[List.length_append];show(nmS n len Ms ro t).2.length<=8*(_+1);omega
   ·exact ih
  ·split
   ·rw[List.length_append,List.length_append];show _<=8*(_+1);omega
   ·exact ih
theorem Y5:∀t:Nat,(nmS n len Ms ro t).1.length<=t/\(nmS n len Ms ro t).1.length<=5
 | 0=>⟨Nat.le_refl _,Nat.zero_le _⟩
 | t+1=>by
  obtain⟨h1,h2⟩:=Y5 t;have m3:=Int.emod_lt_of_pos (n/3) (show(0:Int)<5 by decide);unfold nmS;split
  ·split
   ·rename_i c;rw[List.length_append];exact⟨by show _+1<=_;omega,by show _+1<=5;omega⟩
   ·omega
  ·split
   ·rename_i c;rw[List.length_append];have:=c.2.2;exact⟨by show _+1<=_;omega,by show _+1<=5;omega⟩
   ·omega
theorem j17(hr:ro=true):∀t:Nat,0<t->(nmS n len Ms ro t).1≠[]
 | 0,h=>absurd h (by omega)
 | t+1,_=>by
  have m3:=Int.emod_nonneg (n/3) (show(5:Int)≠0 by decide);unfold nmS;rw[if_pos hr];split
  ·intro z;have:=congrArg List.length z;rw[List.length_append]at this;simp at this
  ·rename_i c;exact j17 hr t (by omega)
theorem j16(hr:ro=false):∀t:Nat,ApartS Ms (nmS n len Ms ro t).1/\∀s,s∈(nmS n len Ms ro t).2↔∃j∈(nmS n len Ms ro t).1,s∈Ms.getD j []
 | 0=>⟨⟨(fun j h=>nomatch h),.nil⟩,fun s=>⟨(fun h=>nomatch h),fun⟨j,h,_⟩=>nomatch h⟩⟩
 | t+1=>by
  obtain⟨h1,h2⟩:=j16 hr t;unfold nmS;rw[if_neg (by rw[hr];exact Bool.false_ne_true)];split
  ·rename_i c;obtain⟨c1,c2,_⟩:=c;refine⟨⟨fun j hj=>?_,List.pairwise_append.mpr ⟨h1.2,pairwise_singleton ..,fun a ha b hb s hs hs'=>?_⟩⟩,fun s=>?_⟩
   ·rcases mem_append.mp hj with z | z
    ·exact h1.1 j z
    ·rw[mem_singleton.mp z];exact c1
   ·rw[mem_singleton.mp hb]at hs';have:s∈(Ms.getD (atB n len t) []).filter fun s=>decide (s∈(nmS n len Ms ro t).2):=mem_filter.mpr ⟨hs',decide_eq_true ((h2 s).mpr ⟨a,ha,hs⟩)⟩
    rw[c2]at this;cases this
   ·rw[mem_append,h2];constructor
    ·rintro(⟨j,hj,hs⟩ | hs)
     ·exact⟨j,mem_append_left _ hj,hs⟩
     ·exact⟨_,mem_append_right _ mem_cons_self,hs⟩
    ·rintro⟨j,hj,hs⟩;rcases mem_append.mp hj with z | z
     ·exact .inl ⟨j,z,hs⟩
     ·rw[mem_singleton.mp z]at hs;exact .inr hs
  ·exact⟨h1,h2⟩
end
inductive sp_namedB(vs:List V)(H:Hp)(Q:VK)(xk:XK):Prop
 | mk (n:Int) (nl ml:Addr) (mas:List Addr) (L nm:List Str) (Ms:List (List Str)) (kd:Str) (_:vs=[.int n,.ref nl,.ref ml,.str kd]) (_:NmB nl ml mas L nm Ms H) (_:1<=nm.length) (_:0<=n) (_:n<=10^40) (_:(kd = "row"\/kd = "side")) (_:∀(b:Addr) (H':Hp),Same H H'->H' b=some (.tup (((nmS n nm.length Ms (decide (kd = "row")) nm.length).1.map fun j=>nm.getD j ⟨#[]⟩).map V.str))->Q (.ref b) H'):sp_namedB vs H Q xk
inductive sp_formB(vs:List V)(H:Hp)(Q:VK)(xk:XK):Prop
 | mk (n:Int) (nl ml pl bd:Addr) (mas las:List Addr) (ls:List (Str×Int)) (nm:List Str) (Ms:List (List Str)) (b0 b1 b2 b3 b4:Int) (_:vs=[.int n,.ref nl,.ref ml,.ref pl,.ref bd]) (_:NmB nl ml mas (nmsOf ls) nm Ms H) (_:LmB pl las ls H) (_:BdB H bd b0 b1 b2 b3 b4) (_:0<=n) (_:n<=10^40) (_:∀(a:Addr) (f:Fn) (H':Hp),Same H H'->FormAt H' a (toldF nm f)->PreN (nmsOf ls) (Ms.map (plB (nmsOf ls))) nm.length f->Q (.ref a) H'):sp_formB vs H Q xk
theorem JH{x y m:Int}(h0:0<=y)(h1:y<10^30+57):0<=(tkB x y m).2.2/\(tkB x y m).2.2<10^30+57:=by
 unfold tkB;split
 ·exact⟨h0,h1⟩
 ·exact QT _ _
def Off(p:Addr)(H0 H:Hp):Prop:=∀c u,H0 c=some u->c≠p/\H c=some u
theorem Off.ex{p:Addr}{H0 H H':Hp}(o:Off p H0 H)(x:Ex p H H'):Off p H0 H':=fun c u h=>⟨(o c u h).1,x c u (o c u h).1 (o c u h).2⟩
theorem Off.same{p:Addr}{H0 H:Hp}(o:Off p H0 H):Same H0 H:=fun c u h=>(o c u h).2
inductive sp_namingB(vs:List V)(H:Hp)(Q:VK)(xk:XK):Prop
 | mk (p nl ml bd:Addr) (x y kd:Int) (H0:Hp) (mas:List Addr) (L nm:List Str) (Ms:List (List Str)) (b0 b1 b2 b3 b4:Int) (_:vs=[.ref p,.int kd,.ref nl,.ref ml,.ref bd]) (_:H p=some (.lst [.int x,.int y])) (_:0<=y) (_:y<10^30+57) (_:Off p H0 H) (_:NmB nl ml mas L nm Ms H0) (_:1<=nm.length) (_:BdB H0 bd b0 b1 b2 b3 b4) (_:∀(a:Addr) (f:Fn) (H':Hp),Ex p H H'->FormAt H' a (toldF nm f)->PreN L (Ms.map (plB L)) nm.length f->Q (.ref a) H'):sp_namingB vs H Q xk
inductive sp_formT(vs:List V)(H:Hp)(Q:VK)(xk:XK):Prop
 | mk (p nl ml pl bd:Addr) (x y:Int) (H0:Hp) (mas las:List Addr) (ls:List (Str×Int)) (nm:List Str) (Ms:List (List Str)) (b0 b1 b2 b3 b4:Int) (_:vs=[.ref p,.ref nl,.ref ml,.ref pl,.ref bd]) (_:H p=some (.lst [.int x,.int y])) (_:0<=y) (_:y<10^30+57) (_:Off p H0 H) (_:NmB nl ml mas (nmsOf ls) nm Ms H0) (_:LmB pl las ls H0) (_:BdB H0 bd b0 b1 b2 b3 b4) (_:∀(a:Addr) (f:Fn) (H':Hp),Ex p H H'->FormAt H' a (toldF nm f)->PreN (nmsOf ls) (Ms.map (plB (nmsOf ls))) nm.length f->Q (.ref a) H'):sp_formT vs H Q xk
theorem XO:∀p,p<3->(decide ((List.range 50).map (wdB p)).Nodup&&((List.range 50).map (wdB p)).all fun x=>Ws.isW x)=true:=by decide +kernel
theorem XQ{p i j:Nat}(hp:p<3)(hi:i<50)(hj:j<50)(e:wdB p i=wdB p j):i=j:=by
 have h:=XO p hp;rw[Bool.and_eq_true,decide_eq_true_eq]at h;have a:((List.range 50).map (wdB p))[i]?=some (wdB p i):=by rw[List.getElem?_map,List.getElem?_range hi];rfl
 have b:((List.range 50).map (wdB p))[j]?=some (wdB p i):=by rw[List.getElem?_map,List.getElem?_range hj,e];rfl
 have a':=JL h.1 a;have b':=JL h.1 b;omega
theorem j2F{p i:Nat}(hp:p<3)(hi:i<50):Ws.isW (wdB p i)=true:=by
 have h:=XO p hp;rw[Bool.and_eq_true,all_eq_true]at h;exact h.2 _ (mem_map.mpr ⟨i,mem_range.mpr hi,rfl⟩)
noncomputable def lmB(p m:Nat):List Str:=(List.range m).map (wdB p)
theorem j0U{p m j:Nat}(h:j<m):(lmB p m)[j]?=some (wdB p j):=by unfold lmB;rw[List.getElem?_map,List.getElem?_range h];rfl
theorem Wr{p m:Nat}:lmB p (m+1)=lmB p m++[wdB p m]:=by unfold lmB;rw[List.range_succ,map_append];rfl
theorem j0V{p m:Nat}(hp:p<3)(hm:m<=9):(lmB p m).Nodup/\∀x∈lmB p m,Ws.isW x=true:=by
 unfold lmB;refine⟨pairwise_map.mpr (List.nodup_range.imp_of_mem fun {a b} ha hb n e=>n (XQ hp (by have:=mem_range.mp ha;omega) (by have:=mem_range.mp hb;omega) e)),fun x hx=>?_⟩
 ·obtain⟨i,hi,rfl⟩:=mem_map.mp hx;have:=mem_range.mp hi;exact j2F hp (by omega)
noncomputable def ixB(st c m k:Nat):Nat:=if k=c then k%m else st+k
noncomputable def nmB(p st c m:Nat):List Str:=(List.range 17).map fun k=>wdB p (ixB st c m k)
theorem Xx{p st c m:Nat}:(nmB p st c m).length=17:=by unfold nmB;rw[length_map,length_range]
theorem Xw{p st c m k:Nat}(h:k<17):(nmB p st c m).getD k ⟨#[]⟩=wdB p (ixB st c m k):=by
 unfold nmB;rw[getD_eq_getElem?_getD,List.getElem?_map,List.getElem?_range h];rfl
theorem j15{p st c m:Nat}(hp:p<3)(hm:1<=m)(hs:m<=st)(hs':st<=9):(nmB p st c m).Nodup/\∀x∈nmB p st c m,Ws.isW x=true:=by
 have b:∀k,k<17->ixB st c m k<50:=fun k hk=>by
  unfold ixB;have:=Nat.mod_lt k (show 0<m by omega);split<;>omega
 unfold nmB;refine⟨pairwise_map.mpr (List.nodup_range.imp_of_mem fun {x y} hx hy n e=>?_),fun x hx=>?_⟩
 ·have hx:=mem_range.mp hx;have hy:=mem_range.mp hy;have:=XQ hp (b x hx) (b y hy) e;unfold ixB at this;have a1:=Nat.mod_lt x (show 0<m by omega);have a2:=Nat.mod_lt y (show 0<m by omega);refine n ?_;split at this<;>split at this<;>omega
 ·obtain⟨i,hi,rfl⟩:=mem_map.mp hx;exact j2F hp (b i (mem_range.mp hi))
theorem Wj{names:List Str}{fs:List Fn}{f:Fn}:drawnPs names (fs++[f])=drawnPs names fs++[(names.getD fs.length ⟨#[]⟩,toldF names f)]:=by
 unfold drawnPs;rw[List.length_append,length_singleton,List.range_succ,map_append];congr 1
 ·refine map_congr_left fun j hj=>?_
  rw[Qi (mem_range.mp hj)]
 ·rw[map_cons,zj];rfl
theorem kR{L:List Str}{M:List (List Int)}{names:List Str}{n:Nat}{f:Fn}(h:PreN L M n f):toldF (names.take n) f=toldF names f:=by
 have g:∀j,j<n->(names.take n).getD j ⟨#[]⟩=names.getD j ⟨#[]⟩:=fun j hj=>by
  rw[getD_eq_getElem?_getD,getD_eq_getElem?_getD,List.getElem?_take_of_lt hj]
 have js:=h.js.2;cases f with
 | row is=>exact congrArg Fm.row (map_congr_left fun j hj=>g j (js j hj))
 | side is=>exact congrArg Fm.side (map_congr_left fun j hj=>g j (js j hj))
 | again k j=>exact congrArg (Fm.again k) (g j (js j mem_cons_self))
 | hold n=>rfl
 | ring x n=>rfl
 | rise x v n=>rfl
theorem j0P{nm:List Str}{gs:List Int}{x:Str}{g:Int}(h:nm.length=gs.length):knK (nm++[x]) (gs++[g])=knK nm gs++[(Sum.inr x,.int g)]:=by
 unfold knK;rw[List.zip_append h,map_append];rfl
theorem Xs{nm:List Str}{gs:List Int}{x:Str}{g:Int}(h:nm.length=gs.length)(n:x∉nm):putK (knK nm gs) (Sum.inr x) (.int g)=knK (nm++[x]) (gs++[g]):=by
 rw[j0P h,WH];rw[Wn h];intro z;obtain⟨y,hy,e⟩:=mem_map.mp z;exact n (Sum.inr.inj e▸hy)
theorem Xr{nm:List Str}{gs:List Int}(h:nm.length=gs.length):(knK nm gs).length=nm.length:=by
 unfold knK;rw[length_map,List.length_zip];omega
structure BkB(pl nl ml d pp:Addr)(las pas mas:List Addr)(ls:List (Str×Int))(names:List Str)(fs:List Fn)(Ms:List (List Str))(gs:List Int)(b4:Int)(H:Hp):Prop where
 n:NmB nl ml mas (nmsOf ls) (names.take fs.length) Ms H
 l:LmB pl las ls H
 ed:H d=some (.dK (knK (names.take fs.length) gs))
 ep:H pp=some (.lst (pas.map V.ref))
 pa:All2 (PartAt H) pas (drawnPs names fs)
 dk:DOk (nmsOf ls) fs (Ms.map (plB (nmsOf ls))) gs
 gb:∀j,j<fs.length->gs.getD j 0<=b4
 fl:fs.length<=names.length
theorem BkB.same{pl nl ml d pp:Addr}{las pas mas:List Addr}{ls:List (Str×Int)}{names:List Str}{fs:List Fn}{Ms:List (List Str)}{gs:List Int}{b4:Int}{H H':Hp}(B:BkB pl nl ml d pp las pas mas ls names fs Ms gs b4 H)(s:Same H H'):BkB pl nl ml d pp las pas mas ls names fs Ms gs b4 H':=
 ⟨B.n.same s,B.l.same s,s _ _ B.ed,s _ _ B.ep,B.pa.mono fun a x h=>PartAt.same s h,B.dk,B.gb,B.fl⟩
structure SpB(pl nl ml pp bd:Addr)(mas:List Addr):Prop where
 ln:pl≠nl
 lm:pl≠ml
 lp:pl≠pp
 nm:nl≠ml
 np:nl≠pp
 mp:ml≠pp
 bn:bd≠nl
 bm:bd≠ml
 bp:bd≠pp
 ma:∀a∈mas,a≠nl/\a≠ml/\a≠pp
theorem SpB.add{pl nl ml pp bd l:Addr}{mas:List Addr}(S:SpB pl nl ml pp bd mas)(h:l≠nl/\l≠ml/\l≠pp):SpB pl nl ml pp bd (mas++[l]):=
 ⟨S.ln,S.lm,S.lp,S.nm,S.np,S.mp,S.bn,S.bm,S.bp,fun a ha=>by
  rcases mem_append.mp ha with z | z
  ·exact S.ma a z
  ·rw[mem_singleton.mp z];exact h⟩
theorem BkB.add{pl nl ml d pp bd fa l c:Addr}{las pas mas:List Addr}{ls:List (Str×Int)}{names:List Str}{fs:List Fn}{Ms:List (List Str)}{gs:List Int}{b4 g:Int}{f:Fn}{ks:List Str}{H H':Hp}(B:BkB pl nl ml d pp las pas mas ls names fs Ms gs b4 H)(S:SpB pl nl ml pp bd mas)
  (hf:FormAt H fa (toldF names f)) (pre:PreN (nmsOf ls) (Ms.map (plB (nmsOf ls))) fs.length f) (mv:MovS Ms f ks) (lg:LenN gs f g) (gb:g<=b4) (b60:b4<=10^60) (fn:fs.length<names.length) (n20:fs.length<20) (nw:∀x∈names,Ws.isW x=true)
  (k:∀x u,x≠ml->x≠nl->x≠pp->x≠d->H x=some u->H' x=some u) (eml:H' ml=some (.lst ((mas++[l]).map V.ref))) (el:H' l=some (.lst (ks.map V.str))) (enl:H' nl=some (.lst ((names.take (fs.length+1)).map V.str)))
  (epp:H' pp=some (.lst ((pas++[c]).map V.ref))) (ec:H' c=some (.tup [.str (names.getD fs.length ⟨#[]⟩),.ref fa])) (ed:H' d=some (.dK (knK (names.take (fs.length+1)) (gs++[g])))) :
  BkB pl nl ml d pp las (pas++[c]) (mas++[l]) ls names (fs++[f]) (Ms++[ks]) (gs++[g]) b4 H':=by
 have N:=B.n;have kt:∀c xs,H c=some (.tup xs)->H' c=some (.tup xs):=fun c xs h=>k c _ (Jv h N.em fun z=>by cases z) (Jv h N.en fun z=>by cases z) (Jv h B.ep fun z=>by cases z) (Jv h B.ed fun z=>by cases z) h
 have kl:∀{c xs},c≠ml->c≠nl->c≠pp->H c=some (.lst xs)->H' c=some (.lst xs):=fun h1 h2 h3 h=>k _ _ h1 h2 h3 (Jv h B.ed fun z=>by cases z) h
 have e1:(fs++[f]).length=fs.length+1:=by rw[List.length_append];rfl
 have D:=B.dk;have mi:=mv.inL N.il pre;have gp:=j2c pre lg fun j hj=>(D.g j hj).1
 have gl:=D.gl;refine⟨⟨?_,eml,?_,?_,?_,?_,N.l8,fun x hx=>nw x (List.mem_of_mem_take hx),N.lw⟩,⟨kl S.lm S.ln S.lp B.l.el,B.l.la.mono fun a x h=>kt _ _ h,B.l.l1⟩,?_,epp,?_,?_,fun j hj=>?_,by omega⟩
 ·rw[e1];exact enl
 ·refine All2.snoc ?_ el;exact All2.monoM N.am fun a ha ks h=>kl (S.ma a ha).2.1 (S.ma a ha).1 (S.ma a ha).2.2 h
 ·intro ks' hk;rcases mem_append.mp hk with z | z
  ·exact N.il ks' z
  ·rw[mem_singleton.mp z];exact mi
 ·have:=N.ml;rw[length_take]at this|-;rw[List.length_append,e1];show _+1=_;omega
 ·rw[length_take];omega
 ·rw[e1];exact ed
 ·rw[Wj];exact All2.snoc (B.pa.mono fun a x h=>PartAt.keep kt h) ⟨fa,ec,FormAt.keep kt hf⟩
 ·rw[map_append];exact D.addN pre mv.n lg ⟨gp,by omega⟩
 ·rw[e1]at hj;by_cases z:j<fs.length
  ·rw[Qi (by omega)];exact B.gb j z
  ·have e:j=gs.length:=by omega
   subst e;rw[zj];exact gb
inductive sp_bookB(K:Frg)(vs:List V)(H:Hp)(Q:VK)(xk:XK):Prop
 | mk (a bd:Addr) (ns:List Int) (many:Nat) (b0 b1 b2 b3 b4:Int) (_:vs=[.ref a,.int (many:Nat),.ref bd]) (_:SqL K H a (ns.map V.int)) (_:ns.length<=63) (_:2<=many) (_:many<=16) (_:BdB H bd b0 b1 b2 b3 b4) (_:∀(r b pl pp:Addr) (las pas:List Addr) (names:List Str) (ls:List (Str×Int)) (fs:List Fn) (M:List (List Int)) (gs:List Int) (H':Hp),Same H H'->H' r=some (.tup [.ref b,.int (gs.getD (fs.length-1) 0)])->BookAt H' b pl pp las pas ls (drawnPs names fs)->DOk (nmsOf ls) fs M gs->Sn ls (drawnPs names fs) gs M->fs.length=many+1->names.length=17->names.Nodup->(∀x∈names,Ws.isW x=true)->1<=ls.length->ls.length<=8->(nmsOf ls).Nodup->(∀x∈nmsOf ls,Ws.isW x=true)->pl≠pp->(∀j,j<fs.length->gs.getD j 0<=b4)->Q (.ref r) H'):sp_bookB K vs H Q xk
theorem BkB.book{b pl nl ml d pp:Addr}{las pas mas:List Addr}{ls:List (Str×Int)}{names:List Str}{fs:List Fn}{Ms:List (List Str)}{gs:List Int}{b4:Int}{H:Hp}(B:BkB pl nl ml d pp las pas mas ls names fs Ms gs b4 H)(hb:H b=some (.tup [.ref pl,.ref pp])):BookAt H b pl pp las pas ls (drawnPs names fs):=⟨hb,B.l.el,B.l.la,B.ep,B.pa⟩
theorem j0E{ls:List (Str×Int)}{names:List Str}{fs:List Fn}{M:List (List Int)}{gs:List Int}(D:DOk (nmsOf ls) fs M gs)(lW:∀x∈nmsOf ls,Ws.isW x=true)(nW:∀x∈names,Ws.isW x=true)(hn:fs.length<=names.length):∀p∈drawnPs names fs,FmWs p.2:=by
 have nm:∀{j:Nat},j<fs.length->Ws.isW (names.getD j ⟨#[]⟩)=true:=fun h=>nW _ (getD_in (by omega))
 intro p hp;obtain⟨i,hi⟩:=List.mem_iff_getElem?.mp hp;obtain⟨f,hf,rfl⟩:=qU hi;have il:=(List.getElem?_eq_some_iff.mp hf).1;have pre:=(D.f i f hf).1;cases f with
 | hold m=>exact⟨by have:=pre.1;omega,pre.2⟩
 | ring x m=>exact⟨pre.2.2,by have:=pre.1;omega,pre.2.1⟩
 | rise x v m=>
  obtain⟨⟨j,hj⟩,h1,h2,h3,h4⟩:=pre;exact⟨lW x (List.mem_of_getElem? hj),h1,h2,by omega,h4⟩
 | row is=>
  obtain⟨_,h2,h3⟩:=pre;refine⟨by rw[length_map];exact h2,fun x hx=>?_⟩;obtain⟨j,hj,rfl⟩:=mem_map.mp hx;exact nm (by have:=h3 j hj;omega)
 | side is=>
  obtain⟨_,h2,h3,_⟩:=pre;refine⟨by rw[length_map];exact h2,fun x hx=>?_⟩;obtain⟨j,hj,rfl⟩:=mem_map.mp hx;exact nm (by have:=h3 j hj;omega)
 | again k j=>
  obtain⟨h1,h2,h3⟩:=pre;exact⟨by omega,h2,nm (by omega)⟩
section
variable{x:Str}{ps:List (Str×Fm)}{gs:List Int}
theorem Z2{a:Nat}:∀{b:Nat},a<=b->rungN x ps gs a<=rungN x ps gs b
 | 0,h=>by rw[show a=0 by omega];exact Int.le_refl _
 | b+1,h=>by
  by_cases c:a=b+1
  ·subst c;exact Int.le_refl _
  ·have:=Z2 (b:=b) (show a<=b by omega);show _<=rungN x ps gs b+_;omega
theorem j2q(a:Nat):0<=rungN x ps gs a:=Z2 (a:=0) (Nat.zero_le a)
theorem j2p{b:Nat}(h:rungN x ps gs b<rungN x ps gs (b+1)):x∈ringsW ps gs (b:Int):=by
 have e:rungN x ps gs (b+1)=rungN x ps gs b+(((ringsW ps gs (b:Int)).count x:Nat):Int):=rfl;exact List.count_pos_iff.mp (by omega)
theorem RbR.uniq{n:Int}{v v':V}(h:RbR x ps gs n v)(h':RbR x ps gs n v'):v=v':=by
 rcases h with⟨a,rfl⟩ | ⟨a,b,rfl,b1,b2,b3⟩<;>rcases h' with⟨a',rfl⟩ | ⟨a',b',rfl,b1',b2',b3'⟩
 ·rfl
 ·exact absurd a' a
 ·exact absurd a a'
 ·have e:b=b':=by
   rcases Nat.lt_trichotomy b b' with z | z | z
   ·have:=Z2 (x:=x) (ps:=ps) (gs:=gs) (show b+1<=b' by omega);omega
   ·exact z
   ·have:=Z2 (x:=x) (ps:=ps) (gs:=gs) (show b'+1<=b by omega);omega
  rw[e]
end
inductive sp_rightB(vs:List V)(H:Hp)(Q:VK)(xk:XK):Prop
 | mk (b pl pp:Addr) (las pas:List Addr) (ls:List (Str×Int)) (ps:List (Str×Fm)) (gs:List Int) (hs:List (List Int)) (x:Str) (n:Int) (v:V) (_:vs=[.ref b,.str x,.int n,v,.int (gs.getD (ps.length-1) 0)]) (_:BookAt H b pl pp las pas ls ps) (_:Sn ls ps gs hs) (_:Ws.isW x=true) (_:(∀p∈ps,FmWs p.2)) (_:RbR x ps gs n v) (_:0<=n) (_:n<rungN x ps gs (gs.getD (ps.length-1) 0).toNat) (_:∀H',Same H H'->Q (.bl true) H'):sp_rightB vs H Q xk
end Rm
theorem L2.fsc{N P:List PySem.Str}{sc:PySem.Scope}(a:sc.kind = .function:=by rfl)(b:sc.isCoroutine=false:=by rfl)(c:sc.isGenerator=false:=by rfl)(d:N.Nodup:=by decide +kernel)(e:N.take P.length=P:=by rfl)(f:∀x∈P,sc.names.lookup x=some .local\/sc.names.lookup x=some .cell:=by decide +kernel)(g:∀y∈sc.names,y.2≠.free:=by decide +kernel):L2.FnScope N P sc:=⟨a,b,c,d,e,f,g⟩
structure PySem.W.Fast:Prop where
  (tw3260772007171174977 tw17283870572858343617 tw9235833635521992764 tw12871950221707266209 tw5828327931633785132 tw17561765067241957421 tw12079054615510297760 tw17831879918730767922 tw5612266829837009286 tw3538496327505193400 tw3506066249062336513 tw4007721546825542578 tw2739899979395076497 tw11711796541795954678 tw6760388516290760250 tw11768559499070387427 tw5791920805673221185 tw628161032974158950 tw11256171619556456876 tw9520166213414463368 tw1469044940207598928 tw3260420334993050929 tw4328253473149138066 tw12346851351829418209 tw13347408719851960172 tw5437318576181683516 tw2930630903645851737 tw1746828008313315451 tw17942583808581604195 tw2884115440500893720 tw12430820982912073201 tw18378746001650495355 tw18255067055841182931 tw12023670438175246728 tw758818456246592312 tw2939373904251230989 tw12719340470249078340 tw489419025470700516 tw10112063850444121254 tw1575458811105269065 tw1026182687812957614 tw18336168762465015160 tw12083264518301317709 tw10256205601307649438 tw13311318175742942895 tw4289417873810669546 tw735630178943597384 tw11596874198254595366 tw3947841037180127666 tw7852347311559888637 tw1582872392927368984 tw15068652184616335459 tw2300555329982377115 tw17770934609107340503 tw16473765987570670578 tw4317494448990456353 tw3536607133708205947 tw12008022396388150359 tw14752111737867354710 tw16256895317284267778 tw15020374057321835444 tw1811020320362607005 tw14066261914865379773 tw14956922758739187553 tw929289652902077058 tw10233262243761017123 tw5806073465442562930 tw9816081428434528216 tw15002143349527572702 tw9569324189602375295 tw12203001912048464299 tw11923084914489573197 tw17134537973775115051 tw274371528389670040 tw13079623703493038157 tw2620026249052277585 tw10249989673143439710 tw13905742472957165090 tw2205751887392058391 tw7254009230760132610 tw15006343597808996665 tw16855082110960664825 tw11368471808421006419 tw13642425270679035861 tw901726676652261517 tw18418682539472056917 tw2554569447173549612 tw13408226261222065004 tw5802962135791075401 tw9868069633620818361 tw587733403861955229 tw2656932463379272212 tw13501185577331487140 tw12422299300794316466 tw458607728139509454 tw14403522345736550093 tw13124948196517628640 tw5154859460241232596 tw9871922889688700204 tw18345882340778820933 tw8874007208567669128 tw12105993926966802860 tw12593890481080729048 tw13176324380803432469 tw16798632135881911090 tw3863536731437386455 tw12553590437596181343 tw16778986947589462154 tw7212802401472825136 tw17549824140133959506 tw17413735939433597052 tw4392619840856354501 tw8924606587546934646 tw4427451862395649739 tw8981456123118438607 tw8844027240318390117 tw15329287894684845185 tw5907028326568630149 tw12677929232995444254 tw12450597955293627202 tw12789267950336971632 tw3360841210288078560 tw15720882258957119404 tw12224743148113434902 tw11252146143472457735 tw4222215817136438862 tw11860698408904130309 tw7133959279827402637 tw1044591289553810568 tw2329594861899980371 tw11398016687773489026 tw12461941529977843672 tw968490964216462749 tw5443530781647687132 tw10277270413066202319 tw8074269461266549698 tw7425268942205187398 tw7536944836670653935 tw7249210683870310706 tw16051898788509152119 tw15838343706110146770 tw2115944081660081433 tw2175951942810182971 tw3978172534281717386 tw9398540677928841335 tw15896968877327936117 tw8315548389327204195 tw1778237207582261633 tw760190009258174095 tw11713866904467290802 tw8631874436125271450 tw6568822182155179267 tw2083068400161717001 tw6753549090439030797 tw14008750070889713668 tw10151705861091048005 tw11959674659486810209 tw15966001864234101751 tw17456495675639482621 tw5340449853941042804 tw18038831974540860187 tw1991641831036804333 tw5489911846480422156 tw17364332973033567022 tw2244214548745125196 tw18220129395763101132 tw3254032551086041517 tw12183438919875607125 tw1870316317519905851 tw8454076367678262167 tw13316431101779427100 tw12746122263938523079 tw3240193797830119626 tw10104634295472579082 tw10434012745772592137 tw2867811703752075532 tw3278470715542712818 tw13560890058999738168 tw13908116062817850291 tw2620632945635591913 tw7395240756407021909 tw3951610026418208826 tw174280491747474866 tw16636214829712025554 tw1550836304313589921 tw1041595565752562715 tw10333630934039181147 tw697821102713825087 tw12750586304406945776 tw18260990066589614587 tw7037611590254893566 tw3761347412443086372 tw8014575681943578276 tw495396409653179572 tw3444417625699342103 tw16886394901608076096 tw16590215784101208435 tw919238301173348183 tw2963250020560174417 tw9617634589160363454 tw14738551393021337974 tw5529625861153330797 tw9267913291917984811 tw9827284881911200535 tw12448487726979057717 tw15474607468743975343 tw559818217641991230 tw4360866386920168423 tw17235581430210184531 tw2698052943110058046 tw11994965058635248091 tw10441860176146075938 tw7365724491548516535 tw9668305605406890833 tw15387401544904644755 tw15824232120728041430 tw11954351068517532530 tw15609512333349070049 tw15261800733110728502:True)
theorem Rm.iteE0{b:Bool}{A B:Prop}(h:B)(e:b=false:=by decide +kernel):if b=true then A else B:=Rm.iteB0 e h
theorem Rm.iteE1{b:Bool}{A B:Prop}(h:A)(e:b=true:=by decide +kernel):if b=true then A else B:=Rm.iteB1 e h
namespace K26
open PySem L2 Rm
noncomputable def top(i:Nat):Stmt:=PySem.Challenge.pw_camplay_k26_whole_rings_found.main.body.getD i (.Pass ⟨0,0,0,0⟩)
noncomputable abbrev wH:Stmt:=top 0
theorem j3l:FnScope ["k"] ["k"] (defScope wH):=fsc
noncomputable abbrev Zr:Stmt:=top 9
theorem QF:FnScope ["named","numbers","number","one"] ["named"] (defScope Zr):=fsc
noncomputable abbrev yk:Stmt:=top 10
theorem WM:FnScope ["form"] ["form"] (defScope yk):=fsc
noncomputable abbrev Y7:Stmt:=top 12
theorem ZO:FnScope ["book","numbers","found","name","form"] ["book"] (defScope Y7):=fsc
noncomputable abbrev xN:Stmt:=top 13
theorem zz:FnScope ["book","limbs","found","part","inside","form","left","other"] ["book"] (defScope xN):=fsc
noncomputable abbrev Y8:Stmt:=top 14
theorem kP:FnScope ["book","found","left"] ["book"] (defScope Y8):=fsc
noncomputable abbrev Q5:Stmt:=top 15
theorem zH:FnScope ["row","moves","limbs","number","limb"] ["row","moves","limbs"] (defScope Q5):=fsc
noncomputable abbrev ZM:Stmt:=top 16
theorem wL:FnScope ["form","inside"] ["form","inside"] (defScope ZM):=fsc
noncomputable abbrev zR:Stmt:=top 17
theorem qH:FnScope ["book","moves","found","row","inside","form","length"] ["book"] (defScope zR):=fsc
noncomputable abbrev ZN:Stmt:=top 19
theorem J2:FnScope ["form","inside","sizes","part","later","found","begin"] ["form","inside","sizes"] (defScope ZN):=fsc
noncomputable abbrev zy:Stmt:=top 20
theorem wM:FnScope ["book","sizes"] ["book","sizes"] (defScope zy):=fsc
noncomputable abbrev yl:Stmt:=top 21
theorem qh:FnScope ["pieces","sizes","gone","found","part","turns","begin","over","rest"] ["pieces","sizes","gone"] (defScope yl):=fsc
noncomputable abbrev JE:Stmt:=(inClass (top 23) 0)
theorem Jy:FnScope ["self","book","word","part","pieces","own"] ["self","book","word"] (defScope JE):=fsc
noncomputable abbrev Qm:Stmt:=(inClass (top 23) 1)
theorem jJ:FnScope ["self","beat","told","playing","now","other","begin","over","rest"] ["self","beat"] (defScope Qm):=fsc
noncomputable abbrev yj:Stmt:=top 24
theorem WL:FnScope ["tally","beat"] ["tally","beat"] (defScope yj):=fsc
noncomputable abbrev Zs:Stmt:=top 25
theorem Ko:FnScope ["book","word","beat"] ["book","word","beat"] (defScope Zs):=fsc
noncomputable abbrev YB:Stmt:=top 27
theorem QD:FnScope ["tally","number","low","high","middle"] ["tally","number"] (defScope YB):=fsc
noncomputable abbrev qV:Stmt:=top 28
theorem wN:FnScope ["book","word","number"] ["book","word","number"] (defScope qV):=fsc
noncomputable abbrev kO:Stmt:=top 30
theorem zb:FnScope ["pieces","sizes","gone","found","part","begin","over","rest"] ["pieces","sizes","gone"] (defScope kO):=fsc
noncomputable abbrev JW:Stmt:=(inClass (top 31) 0)
theorem yW:FnScope ["self","book"] ["self","book"] (defScope JW):=fsc
noncomputable abbrev zG:Stmt:=(inClass (top 31) 1)
theorem Jx:FnScope ["self","beat","starts","playing","todo","now","limb","height"] ["self","beat"] (defScope zG):=fsc
noncomputable abbrev qG:Stmt:=(inClass (top 31) 2)
theorem WU:FnScope ["self","beat"] ["self","beat"] (defScope qG):=fsc
noncomputable abbrev QA:Stmt:=(inClass (top 31) 3)
theorem JF:FnScope ["self","beat","words","part","gone","form"] ["self","beat"] (defScope QA):=fsc
noncomputable abbrev wI:Stmt:=top 32
theorem j1w:FnScope ["book","beat"] ["book","beat"] (defScope wI):=fsc
noncomputable abbrev zn:Stmt:=top 34
theorem YX:FnScope ["_law_script","_law_k"] ["_law_script","_law_k"] (defScope zn):=fsc
noncomputable abbrev Zn:Stmt:=top 35
theorem Kl:FnScope ["_law_cell","_law_k"] ["_law_cell","_law_k"] (defScope Zn):=fsc
noncomputable abbrev Zq:Stmt:=top 36
theorem Kn:FnScope ["_law_found"] ["_law_found"] (defScope Zq):=fsc
noncomputable abbrev Zm:Stmt:=top 37
theorem Z5:FnScope ["_law_script","_law_j","_law_k","_law_first"] ["_law_script","_law_j","_law_k"] (defScope Zm):=fsc
noncomputable abbrev ZL:Stmt:=top 38
theorem wK:FnScope ["_law_place","_law_k"] ["_law_place","_law_k"] (defScope ZL):=fsc
noncomputable abbrev Q4:Stmt:=top 39
theorem JJ:FnScope ["_law_number","_law_names","_law_movers","_law_kind","_law_some","_law_used","_law_j","_law_at","_law_twice"] ["_law_number","_law_names","_law_movers","_law_kind"] (defScope Q4):=fsc
noncomputable abbrev ZI:Stmt:=top 40
theorem qt:FnScope ["_law_number","_law_names","_law_movers","_law_limbs","_law_bounds","_law_kind","_law_more","_law_beats","_law_at"] ["_law_number","_law_names","_law_movers","_law_limbs","_law_bounds"] (defScope ZI):=fsc
noncomputable abbrev QU:Stmt:=top 41
theorem wJ:FnScope ["_law_form_here","_law_known"] ["_law_form_here","_law_known"] (defScope QU):=fsc
noncomputable abbrev Zo:Stmt:=top 42
theorem JI:FnScope ["_law_form_here","_law_names","_law_movers","_law_inner","_law_found","_law_name","_law_one"] ["_law_form_here","_law_names","_law_movers"] (defScope Zo):=fsc
noncomputable abbrev ZJ:Stmt:=top 43
theorem Qn:FnScope ["_law_names","_law_known","_law_most","_law_some","_law_total","_law_name"] ["_law_names","_law_known","_law_most"] (defScope ZJ):=fsc
noncomputable abbrev ZK:Stmt:=top 44
theorem yX:FnScope ["_law_pool","_law_many","_law_found"] ["_law_pool","_law_many"] (defScope ZK):=fsc
noncomputable abbrev qB:Stmt:=top 45
theorem Jb:FnScope ["_law_pool","_law_kind","_law_names","_law_movers","_law_bounds","_law_times","_law_many","_law_some","_law_used","_law_j","_law_at","_law_twice"] ["_law_pool","_law_kind","_law_names","_law_movers","_law_bounds"] (defScope qB):=fsc
noncomputable abbrev QC:Stmt:=top 46
theorem JG:FnScope ["_law_pool","_law_names","_law_movers","_law_limbs","_law_bounds","_law_kind","_law_beats","_law_limb","_law_some"] ["_law_pool","_law_names","_law_movers","_law_limbs","_law_bounds"] (defScope QC):=fsc
noncomputable abbrev QB:Stmt:=top 47
theorem ju:FnScope ["_law_script","_law_many","_law_bounds","_law_pool","_law_place","_law_limbs","_law_k","_law_called","_law_ended","_law_names","_law_movers","_law_known","_law_parts","_law_cell","_law_own","_law_form_here","_law_name"] ["_law_script","_law_many","_law_bounds"] (defScope QB):=fsc
noncomputable abbrev ZH:Stmt:=top 48
theorem jN:FnScope ["_law_script","_law_many","_law_bounds","_law_head","_law_limbs","_law_k","_law_height","_law_names","_law_movers","_law_known","_law_parts","_law_number","_law_form_here","_law_name"] ["_law_script","_law_many","_law_bounds"] (defScope ZH):=fsc
noncomputable abbrev Zp:Stmt:=top 49
theorem Km:FnScope ["_law_book_here","_law_word_here","_law_number","_law_found","_law_beats"] ["_law_book_here","_law_word_here","_law_number","_law_found","_law_beats"] (defScope Zp):=fsc
noncomputable abbrev j1v:Stmt:=top 50
theorem zI:FnScope ["_law_script","_law_many","_law_book_here","_law_beats","_law_number","_law_word_here","_law_total","_law_one","_law_first"] ["_law_script"] (defScope j1v):=fsc
set_option genInjectivity false in
set_option genSizeOf false in
structure Ad where
 Xb:Addr
 Xh:FuncData
 J0:Addr
 J1:FuncData
 ze:Addr
 zh:FuncData
 Zc:Addr
 Ze:FuncData
 Yi:Addr
 Yn:FuncData
 yw:Addr
 yE:FuncData
 Qc:Addr
 Qh:FuncData
 QL:Addr
 QQ:FuncData
 Q7:Addr
 Q8:FuncData
 QM:Addr
 QR:FuncData
 qO:Addr
 qS:FuncData
 Qt:Addr
 Qu:FuncData
 jV:Addr
 j3:FuncData
 Jl:Addr
 Jm:FuncData
 zd:Addr
 zg:FuncData
 qk:Addr
 qp:FuncData
 zL:Addr
 zM:FuncData
 QN:Addr
 qT:FuncData
 WQ:Addr
 ZC:Addr
 ZE:FuncData
 Jt:Addr
 JQ:FuncData
 qw:Addr
 qy:FuncData
 zc:Addr
 zf:FuncData
 JM:Addr
 JR:FuncData
 yx:Addr
 yF:FuncData
 Jh:Addr
 Jj:FuncData
 JA:Addr
 JB:FuncData
 Qb:Addr
 Qg:FuncData
 qY:Addr
 Qd:FuncData
 qN:Addr
 qR:FuncData
 qZ:Addr
 Qe:FuncData
 QK:Addr
 QP:FuncData
 qM:Addr
 qQ:FuncData
 qj:Addr
 qo:FuncData
 qL:Addr
 qP:FuncData
 qc:Addr
 qf:FuncData
 qx:Addr
 qz:FuncData
 JO:Addr
 JT:FuncData
 JN:Addr
 JS:FuncData
 QJ:Addr
 QO:FuncData
 Qa:Addr
 Qf:FuncData
 Xc:Addr
 Wd:FuncData
 jE:Addr
 Jd:Addr
 qu:Addr
structure Txt(K:Frg)(mg:Str->Option Value)(t:Ad):Prop where
 j3n:Fun K "_wall" "_wall" wH t.Xb t.Xh
 j3o:mg "_wall"= some (.ref t.Xb)
 j3m:Binds K t.Xh ["k"] []
 QX:Fun K "numbers_of" "numbers_of" Zr t.J0 t.J1
 Zg:mg "numbers_of"= some (.ref t.J0)
 zV:Binds K t.J1 ["named"] []
 kb:Fun K "names_in" "names_in" yk t.ze t.zh
 xu:mg "names_in"= some (.ref t.ze)
 WX:Binds K t.zh ["form"] []
 YY:Fun K "inner" "inner" Y7 t.Zc t.Ze
 wa:mg "inner"= some (.ref t.Zc)
 KN:Binds K t.Ze ["book"] []
 WZ:Fun K "ends" "ends" xN t.Yi t.Yn
 j0W:mg "ends"= some (.ref t.Yi)
 j0p:Binds K t.Yn ["book"] []
 xZ:Fun K "moved" "moved" Y8 t.yw t.yE
 j2e:mg "moved"= some (.ref t.yw)
 j1O:Binds K t.yE ["book"] []
 yu:Fun K "check_side" "check_side" Q5 t.Qc t.Qh
 K8:mg "check_side"= some (.ref t.Qc)
 KM:Binds K t.Qh ["row","moves","limbs"] []
 YJ:Fun K "length_of" "length_of" ZM t.QL t.QQ
 Wv:mg "length_of"= some (.ref t.QL)
 wV:Binds K t.QQ ["form","inside"] []
 Yf:Fun K "lengths" "lengths" zR t.Q7 t.Q8
 KF:mg "lengths"= some (.ref t.Q7)
 Kq:Binds K t.Q8 ["book"] []
 YL:Fun K "pieces_in" "pieces_in" ZN t.QM t.QR
 Ww:mg "pieces_in"= some (.ref t.QM)
 wW:Binds K t.QR ["form","inside","sizes"] []
 Zx:Fun K "pieces_of" "pieces_of" zy t.qO t.qS
 YS:mg "pieces_of"= some (.ref t.qO)
 YF:Binds K t.qS ["book","sizes"] []
 Z6:Fun K "progress" "progress" yl t.Qt t.Qu
 kB:mg "progress"= some (.ref t.Qt)
 Y9:Binds K t.Qu ["pieces","sizes","gone"] []
 Zv:Fun K "__init__" "RingTally.__init__" JE t.jV t.j3
 wS:Meth K t.jE "__init__" t.jV
 QG:Binds K t.j3 ["self","book","word"] []
 yq:Fun K "ahead" "RingTally.ahead" Qm t.Jl t.Jm
 qE:Meth K t.jE "ahead" t.Jl
 qW:Binds K t.Jm ["self","beat"] []
 ka:Fun K "ahead_of" "ahead_of" yj t.zd t.zg
 xt:mg "ahead_of"= some (.ref t.zd)
 WW:Binds K t.zg ["tally","beat"] []
 QY:Fun K "ring_count" "ring_count" Zs t.qk t.qp
 Zh:mg "ring_count"= some (.ref t.qk)
 zW:Binds K t.qp ["book","word","beat"] []
 Kr:Fun K "beat_of" "beat_of" YB t.zL t.zM
 j04:mg "beat_of"= some (.ref t.zL)
 XR:Binds K t.zM ["tally","number"] []
 qI:FunD K "ring_beat" "ring_beat" qV t.WQ t.QN t.qT
 QS:mg "ring_beat"= some (.ref t.QN)
 Zu:Binds K t.qT ["book","word","number"] []
 kZ:∃ds,Binds K t.qT ["book","word","number"] ds/\Vals [.int 0] ds
 wX:Fun K "within" "within" kO t.ZC t.ZE
 j0X:mg "within"= some (.ref t.ZC)
 j0q:Binds K t.ZE ["pieces","sizes","gone"] []
 Yd:Fun K "__init__" "Stage.__init__" JW t.Jt t.JQ
 Xu:Meth K t.Jd "__init__" t.Jt
 y8:Binds K t.JQ ["self","book"] []
 Ka:Fun K "scene" "Stage.scene" zG t.qw t.qy
 kC:Meth K t.Jd "scene" t.qw
 kW:Binds K t.qy ["self","beat"] []
 WY:Fun K "heights_at" "Stage.heights_at" qG t.zc t.zf
 WT:Meth K t.Jd "heights_at" t.zc
 WV:Binds K t.zf ["self","beat"] []
 Ye:Fun K "words_at" "Stage.words_at" QA t.JM t.JR
 yL:Meth K t.Jd "words_at" t.JM
 y9:Binds K t.JR ["self","beat"] []
 Xa:Fun K "rings" "rings" wI t.yx t.yF
 j2f:mg "rings"= some (.ref t.yx)
 j1P:Binds K t.yF ["book","beat"] []
 j7:Fun K "_law_cell_at" "_law_cell_at" zn t.Jh t.Jj
 Jk:mg "_law_cell_at"= some (.ref t.Jh)
 Jg:Binds K t.Jj ["_law_script","_law_k"] []
 Jq:Fun K "_law_mixed" "_law_mixed" Zn t.JA t.JB
 JC:mg "_law_mixed"= some (.ref t.JA)
 Jz:Binds K t.JB ["_law_cell","_law_k"] []
 yt:Fun K "_law_whole" "_law_whole" Zq t.Qb t.Qg
 K7:mg "_law_whole"= some (.ref t.Qb)
 KL:Binds K t.Qg ["_law_found"] []
 yr:Fun K "_law_great" "_law_great" Zm t.qY t.Qd
 K6:mg "_law_great"= some (.ref t.qY)
 KK:Binds K t.Qd ["_law_script","_law_j","_law_k"] []
 QI:Fun K "_law_word" "_law_word" ZL t.qN t.qR
 zw:mg "_law_word"= some (.ref t.qN)
 zp:Binds K t.qR ["_law_place","_law_k"] []
 QW:Fun K "_law_named" "_law_named" Q4 t.qZ t.Qe
 Zf:mg "_law_named"= some (.ref t.qZ)
 zU:Binds K t.Qe ["_law_number","_law_names","_law_movers","_law_kind"] []
 YI:Fun K "_law_form" "_law_form" ZI t.QK t.QP
 Wu:mg "_law_form"= some (.ref t.QK)
 wU:Binds K t.QP ["_law_number","_law_names","_law_movers","_law_limbs","_law_bounds"] []
 QH:Fun K "_law_long" "_law_long" QU t.qM t.qQ
 zu:mg "_law_long"= some (.ref t.qM)
 zo:Binds K t.qQ ["_law_form_here","_law_known"] []
 zX:Fun K "_law_moves" "_law_moves" Zo t.qj t.qo
 yJ:mg "_law_moves"= some (.ref t.qj)
 yn:Binds K t.qo ["_law_form_here","_law_names","_law_movers"] []
 Zw:Fun K "_law_last" "_law_last" ZJ t.qL t.qP
 YR:mg "_law_last"= some (.ref t.qL)
 YE:Binds K t.qP ["_law_names","_law_known","_law_most"] []
 jI:Fun K "_law_take" "_law_take" ZK t.qc t.qf
 jL:mg "_law_take"= some (.ref t.qc)
 jK:Binds K t.qf ["_law_pool","_law_many"] []
 Z3:Fun K "_law_naming" "_law_naming" qB t.qx t.qz
 Kb:mg "_law_naming"= some (.ref t.qx)
 kY:Binds K t.qz ["_law_pool","_law_kind","_law_names","_law_movers","_law_bounds"] []
 zK:Fun K "_law_form_told" "_law_form_told" QC t.JO t.JT
 Yu:mg "_law_form_told"= some (.ref t.JO)
 Yb:Binds K t.JT ["_law_pool","_law_names","_law_movers","_law_limbs","_law_bounds"] []
 zJ:Fun K "_law_book_told" "_law_book_told" QB t.JN t.JS
 Yt:mg "_law_book_told"= some (.ref t.JN)
 Ya:Binds K t.JS ["_law_script","_law_many","_law_bounds"] []
 YG:Fun K "_law_book" "_law_book" ZH t.QJ t.QO
 Wt:mg "_law_book"= some (.ref t.QJ)
 wT:Binds K t.QO ["_law_script","_law_many","_law_bounds"] []
 zY:Fun K "_law_right" "_law_right" Zp t.Qa t.Qf
 yK:mg "_law_right"= some (.ref t.Qa)
 yp:Binds K t.Qf ["_law_book_here","_law_word_here","_law_number","_law_found","_law_beats"] []
 j2z:Fun K "law" "law" j1v t.Xc t.Wd
 j3h:mg "law"= some (.ref t.Xc)
 j3q:Binds K t.Wd ["_law_script"] []
 jC:Cls K t.jE
 YM:Mk K t.jE t.jV
 yM:mg "RingTally"= some (.ref t.jE)
 jS:NoAttr K t.jE "sizes"
 j4:NoAttr K t.jE "last"
 jX:NoAttr K t.jE "pieces"
 jQ:NoAttr K t.jE "wholes"
 Ji:Cls K t.Jd
 j1Q:Mk K t.Jd t.Jt
 j12:mg "Stage"= some (.ref t.Jd)
 qA:NoAttr K t.Jd "limbs"
 J3:NoAttr K t.Jd "first"
 qa:NoAttr K t.Jd "forms"
 j6:NoAttr K t.Jd "sizes"
 qr:NoAttr K t.Jd "left"
 JV:NoAttr K t.Jd "pieces"
 j0s:mg "abs"= none
 j2G:mg "bool"= none
 j2H:mg "dict"= none
 ZD:mg "enumerate"= none
 j3f:mg "int"= none
 yA:mg "isinstance"= none
 qe:mg "len"= none
 j0t:mg "list"= none
 j0u:mg "max"= none
 j0v:mg "min"= none
 Zd:mg "range"= none
 W2:mg "reversed"= none
 j0w:mg "sorted"= none
 j0x:mg "sum"= none
 Y0:mg "tuple"= none
 j0y:mg "zip"= none
 KU:mg "MOST_NAMES"= some (.ref t.qu)
 qq:TabK K t.qu [("row",.flat (.int 8)),("side",.flat (.int 4))]
section
variable{P:Program}{w:World}{K:Frg}{mg:Str->Option Value}{base:Heap}{t:Ad}
theorem Kj(T:Txt K mg t):FnOk P w K mg base CX0 1 t.J0 t.J1 ["named"] (sp_numbers_of):=by
 refine T.QX.ok QF (fun vs H Q E h=>?_) (fun cdv A outer s H vs Q E hr h=>?_)
 ·cases h;subst_vars;rfl
 obtain⟨l,as,xs,rfl,el,hl,ha,nd,h100,q⟩:=h;refine⟨_,(jb (jp (i:=1) QF.nd rfl (.inl rfl) yS)
  (jb (Jp PassesOwn.never rfl (wD (by rfl) T.ZD (ja (pv 0) jc)) (qg rfl (jy (jr (i:=2) QF.nd rfl (.inl rfl)) (jy (jr (i:=3) QF.nd rfl (.inl rfl)) JD)))
   (jf (Y6 (zN hr) (pv 1) (ji jw (pv 3) jd) (pv 2) rfl)))
  (jf (jv (pv 1))))),?_⟩
 refine jz (σ':=[some _,none,none,none]) rfl ?_;have sz:(200:Nat)<sizeLine:=by decide
 walk_at"g";walk_at"f d hd H1 s1 t1";exists⟨l,_,rfl,SqL.of (s1 _ _ el),?_⟩;refine kq (xs:=as.map V.ref) (fun i σ H'=>∃o2 o3:Option V,σ=[some (.ref l),some (.ref d),o2,o3]/\Same H H'/\H' d=some (.dK (numK (xs.take i)))) ⟨_,_,rfl,s1,t1⟩ ?_ ?_ ?_
 ·rintro i σ H' _ ⟨o2,o3,rfl,sm,ed⟩;exact SqL.of (sm _ _ el)
 ·rintro i v σ H' P H'' hx ⟨o2,o3,rfl,sm,ed⟩ sP tP;rw[List.getElem?_map]at hx;obtain⟨a,ea,rfl⟩:=Option.map_eq_some_iff.mp hx;have hi:=(List.getElem?_eq_some_iff.mp ea).1;have ex:xs[i]?=some xs[i]:=List.getElem?_eq_getElem (by omega);obtain⟨r,er⟩:=ha i a _ ea ex;have s2:=sm.trans sP;have tl:(xs.take i).length=i:=by rw[length_take];omega
  refine Qz (SqT.of tP) ?_;exists ixTm (SqT.of (s2 _ _ er)) rfl ?_;refine⟨d,_,rfl,DPut.k (k:=Sum.inr xs[i]) (sP _ _ ed) (by rw[j1b,tl];omega),?_⟩;have hk:(Sum.inr xs[i]:Key)∉(numK (xs.take i)).map (·.1):=fun z=>by
   rw[KH]at z;obtain⟨y,hy,e⟩:=mem_map.mp z;have e':y=xs[i]:=Sum.inr.inj e;subst e';obtain⟨j,hj,e⟩:=mem_iff_getElem.mp hy;rw[getElem_take]at e;rw[tl]at hj;exact absurd e (List.pairwise_iff_getElem.mp nd j i (by omega) (by omega) hj)
  refine⟨_,_,rfl,fun b u h=>(jg (je h hd)).trans (s2 _ _ h),?_⟩;rw[jx,WH hk,take_snoc ex,j09,tl]
 rintro σ' H' ⟨o2,o3,rfl,sm,ed⟩;rw[length_map,hl,take_length]at ed;walk_at"g";exact q d H' sm hd ed
theorem WD(T:Txt K mg t):FnOk P w K mg base CX0 1 t.ze t.zh ["form"] (sp_names_in):=by
 refine T.kb.ok WM (fun vs H Q E h=>?_) (fun cdv A outer s H vs Q E hr h=>?_)
 ·cases h;subst_vars;rfl
 obtain⟨a,f,rfl,hF,q⟩:=h;refine⟨_,(jb (jT (jk j2Y (ji jw (pv 0) jd) (j2n (v:=.ref t.qu) (by rfl) T.KU rfl) (by with_unfolding_all rfl))
   (jf (jv (ji jw (pv 0) jd)))
   jt)
  (jf (jv (yT (jk Jn (ji jw (pv 0) jd) jD (nomark _)) (zQ j1A (pv 0) (Zl jd) Z1) (jR jc))))),?_⟩
 refine jz (σ':=[some _]) rfl ?_;have sz:(200:Nat)<sizeLine:=by decide
 cases f with
 | hold n=>
  have ha:H a=some (.tup _):=hF;exists ixTm (SqT.of ha) rfl ?_;exists⟨_,_,_,rfl,rfl,T.qq,?_⟩;exists iteE0 ?_;exists ixTm (SqT.of ha) rfl ?_;exists iteE0 ?_;exists⟨Nat.zero_le _,?_⟩;walk_at"f b hb H1 s1 t1";exact q b H1 s1 t1
 | ring x n=>
  have ha:H a=some (.tup _):=hF;exists ixTm (SqT.of ha) rfl ?_;exists⟨_,_,_,rfl,rfl,T.qq,?_⟩;exists iteE0 ?_;exists ixTm (SqT.of ha) rfl ?_;exists iteE0 ?_;exists⟨Nat.zero_le _,?_⟩;walk_at"f b hb H1 s1 t1";exact q b H1 s1 t1
 | rise x v n=>
  have ha:H a=some (.tup _):=hF;exists ixTm (SqT.of ha) rfl ?_;exists⟨_,_,_,rfl,rfl,T.qq,?_⟩;exists iteE0 ?_;exists ixTm (SqT.of ha) rfl ?_;exists iteE0 ?_;exists⟨Nat.zero_le _,?_⟩;walk_at"f b hb H1 s1 t1";exact q b H1 s1 t1
 | row ps=>
  obtain⟨b,ha,hb⟩:=hF;exists ixTm (SqT.of ha) rfl ?_;exists⟨_,_,_,rfl,rfl,T.qq,?_⟩;exists iteE1 ?_;exists ixTm (SqT.of ha) rfl ?_;exact q b H (Same.refl _) hb
 | side ps=>
  obtain⟨b,ha,hb⟩:=hF;exists ixTm (SqT.of ha) rfl ?_;exists⟨_,_,_,rfl,rfl,T.qq,?_⟩;exists iteE1 ?_;exists ixTm (SqT.of ha) rfl ?_;exact q b H (Same.refl _) hb
 | again k x=>
  have ha:H a=some (.tup _):=hF;exists ixTm (SqT.of ha) rfl ?_;exists⟨_,_,_,rfl,rfl,T.qq,?_⟩;exists iteE0 ?_;exists ixTm (SqT.of ha) rfl ?_;exists iteE1 ?_;exists⟨a,_,rfl,SqT.of ha,(by show¬(HT.sIx 3 0 (some 2)=0/\HT.sIx 3 3 none=3);decide),?_⟩;walk_at"f b hb H1 s1 t1";exact q b H1 s1 t1
theorem j1c(T:Txt K mg t)(Jr:FnOk P w K mg base CX0 1 t.J0 t.J1 ["named"] (sp_numbers_of))(Z8:FnOk P w K mg base CX0 1 t.ze t.zh ["form"] (sp_names_in)):FnOk P w K mg base CX0 2 t.Zc t.Ze ["book"] (sp_inner):=by
 refine T.YY.ok ZO (fun vs H Q E h=>?_) (fun cdv A outer s H vs Q E hr h=>?_)
 ·cases h;subst_vars;rfl
 obtain⟨b,pl,pp,las,pas,ls,ps,rfl,B,W,q⟩:=h;refine⟨_,(jb (jp (i:=1) ZO.nd rfl (.inr rfl) (jh (Jr.mono (by decide)) hr (by rfl) T.Zg T.QX.kp T.zV .nil pass0 (ja (ji jw (pv 0) jd) jc)))
  (jb (jp (i:=2) ZO.nd rfl (.inl rfl) (jG jc))
  (jb (Jp PassesOwn.never rfl (Je (ji jw (pv 0) jd)) (qg rfl (jy (jr (i:=3) ZO.nd rfl (.inl rfl)) (jy (jr (i:=4) ZO.nd rfl (.inl rfl)) JD)))
   (jf (jU (JK PySem.F.plainAttrs_list PySem.F.slot_list_append PySem.F.type_list_append jH (pv 2) (ja (qC (ow:=["other"]) (ci:=[1]) rfl (CompScope.of (defScope Y7) ["book","numbers","found","name","form"] rfl rfl (by decide +kernel)) (Q2 (by decide)) (xG (jh (Z8.mono (by decide)) hr (by rfl) T.xu T.kb.kp T.WX .nil pass0 (ja (pv 4) jc))) (fun _ _ _ _ _=>⟨(jr (i:=0) (JP ["book","numbers","found","name","form"] rfl (by decide +kernel)) rfl (.inl rfl)),zl,(Q3 (zN hr) (pv 1) (pv 0))⟩)) jc)))))
  (jf (jv (pv 2)))))),?_⟩
 refine jz (σ':=[some _,none,none,none,none]) rfl ?_;have sz:(200:Nat)<sizeLine:=by decide
 have p61:=W.p61;have pa:=B.pa.1;exists ixTm (SqT.of B.t) rfl ?_;exists⟨pp,pas,nmsOf ps,rfl,B.p,by rw[nmsOf,length_map];exact pa,fun i a x ea ex=>?_,W.pn,by rw[nmsOf,length_map];omega,fun d H1 s1 hd ed=>?_⟩
 ·unfold nmsOf at ex;rw[List.getElem?_map]at ex;obtain⟨p,ep,rfl⟩:=Option.map_eq_some_iff.mp ex;obtain⟨fb,hb,_⟩:=B.pa.2 i a p ea ep;exact⟨_,hb⟩
 exists⟨Nat.zero_le _,?_⟩;walk_at"f l hl H2 s2 t2";have nl:=none_of s1 hl;have s12:=s1.trans s2;exists ixTm (SqT.of (s12 _ _ B.t)) rfl ?_;refine⟨pp,rfl,⟨_,SqL.of (s12 _ _ B.p)⟩,?_⟩;refine JU (xs:=pas.map V.ref) (fun i σ H'=>∃(as:List Addr) (o3 o4:Option V),σ=[some (.ref b),some (.ref d),some (.ref l),o3,o4]/\Same H1 H'/\H' l=some (.lst (as.map V.ref))/\(∀a∈as,H a=none/\a≠l)/\ListsAt H' as ((ps.take i).map fun p=>(inP ps p.2).map fun j:Nat=>(j:Int)))
  ⟨[],_,_,rfl,s2,t2,(fun a h=>nomatch h),.nil⟩ ?_ ?_ ?_
 ·rintro i σ H' _ ⟨as,o3,o4,rfl,sm,e1,na,la⟩;exact SqL.of ((s1.trans sm) _ _ B.p)
 ·rintro i x σ H' hx ⟨as,o3,o4,rfl,sm,e1,na,la⟩;obtain⟨a,p,rfl,hp,fb,hat,hf⟩:=B.pa.at_ref hx;have hi:=(List.getElem?_eq_some_iff.mp hp).1;have s0:=s1.trans sm;obtain⟨wn,w8⟩:=W.f i p hp;have lal:=la.1;rw[length_map,length_take]at lal;refine Qz (SqT.of (s0 _ _ hat)) ?_;exists⟨.inl ⟨rfl,_,SqL.of e1⟩,?_⟩;exists⟨fb,p.2,rfl,FormAt.same s0 hf,fun c H3 s3 hc=>?_⟩;refine⟨c,rfl,⟨_,SqT.of hc⟩,?_⟩;refine kj (xs:=p.2.ns.map V.str) (fun j ys H'=>ys=((p.2.ns.take j).map fun x=>(ixOf (nmsOf ps) x:Int)).map V.int/\H3=H') ⟨rfl,rfl⟩ ?_ ?_ ?_
  ·rintro j ys H' _ ⟨rfl,rfl⟩;exact SqT.of hc
  ·rintro j x ys H' hx ⟨rfl,rfl⟩;rw[List.getElem?_map]at hx;obtain⟨y,ey,rfl⟩:=Option.map_eq_some_iff.mp hx;have hj:=(List.getElem?_eq_some_iff.mp ey).1;obtain⟨k,hk,ek⟩:=wn y (List.mem_of_getElem? ey);refine Ql (σ':=[none,some _]) rfl ?_;exists iteT ?_;walk_at"g";have g:DGet H3 d (.str y) (some (.int (k:Nat))):=by
    have g:=DGet.k (k:=Sum.inr y) ((sm.trans s3) _ _ ed);rw[WB W.pn ek]at g;exact g
   refine⟨d,_,rfl,g,?_⟩;refine⟨by rw[length_map,length_map,length_take];omega,?_,rfl⟩;rw[take_snoc ey,map_append,map_append,<-JL W.pn ek];rfl
  rintro ys H' ⟨rfl,rfl⟩;rw[show(p.2.ns.map V.str).length=p.2.ns.length from length_map _,take_length];refine⟨by rw[length_map,length_map];omega,?_⟩;walk_at"f 4 t";have s34:=s3.trans s4;exists⟨l,_,_,rfl,rfl,s34 _ _ e1,by rw[length_map];omega,?_⟩;have hne:p4≠l:=(je (s3 _ _ e1) hp4).symm;have n4:H p4=none:=none_of (s0.trans s3) hp4;refine⟨as++[p4],_,_,rfl,fun c u h=>(jg (je h hl)).trans ((sm.trans s34) _ _ h),?_,fun c hc'=>?_,?_⟩
  ·rw[jx,map_append];rfl
  ·rcases mem_append.mp hc' with e | e
   ·exact na c e
   ·rw[mem_singleton.mp e];exact⟨n4,hne⟩
  ·rw[take_snoc hp,map_append];refine All2.snoc (All2.monoM la fun c hc' ks h=>(jg (na c hc').2).trans (s34 _ _ h)) ?_;have eq:List.map (fun j:Nat=>(j:Int)) (inP ps p.2)=p.2.ns.map fun x=>(ixOf (nmsOf ps) x:Int):=by
    unfold inP;rw[map_map];rfl
   show upd H4 l _ p4=some (.lst (List.map V.int (List.map (fun j:Nat=>(j:Int)) (inP ps p.2))));rw[jg hne,t4,eq]
 rintro σ' H3 ⟨as,o3,o4,rfl,sm,e1,na,la⟩;rw[length_map,pa,take_length]at la;walk_at"g";exact q l as H3 (s1.trans sm) nl e1 (fun a ha=>(na a ha).1) la
theorem j2l(T:Txt K mg t)(Jr:FnOk P w K mg base CX0 1 t.J0 t.J1 ["named"] (sp_numbers_of))(Q0:FnOk P w K mg base CX0 2 t.Zc t.Ze ["book"] (sp_inner)):FnOk P w K mg base CX0 3 t.Yi t.Yn ["book"] (sp_ends):=by
 refine T.WZ.ok zz (fun vs H Q E h=>?_) (fun cdv A outer s H vs Q E hr h=>?_)
 ·cases h;subst_vars;rfl
 obtain⟨b,pl,pp,las,pas,ls,ps,rfl,B,W,q⟩:=h;refine⟨_,(jb (jp (i:=1) zz.nd rfl (.inl rfl) (jh (Jr.mono (by decide)) hr (by rfl) T.Zg T.QX.kp T.zV .nil pass0 (ja (ji jw (pv 0) jd) jc)))
  (jb (jp (i:=2) zz.nd rfl (.inl rfl) (jG jc))
  (jb (Jp PassesOwn.never rfl (xH (by rfl) T.j0y (ja (ji jw (pv 0) jd) (ja (jh (Q0.mono (by decide)) hr (by rfl) T.wa T.YY.kp T.KN .nil pass0 (ja (pv 0) jc)) jc))) (qg rfl (jy (jr (i:=3) zz.nd rfl (.inl rfl)) (jy (jr (i:=4) zz.nd rfl (.inl rfl)) JD)))
   (jb (jp (i:=5) zz.nd rfl (.inl rfl) (ji jw (pv 3) jd))
   (jb (jp (i:=6) zz.nd rfl (.inl rfl) yS)
   (jb (qF (jk Jn (ji jw (pv 5) jd) jD (nomark _))
    (jf (Y6 (zN hr) (pv 6) (Q3 (zN hr) (pv 1) (ji jw (pv 5) jd)) (ji jw (pv 5) jd) rfl))
    jt)
   (jb (Jp PassesOwn.never rfl (Je (pv 4)) (jr (i:=7) zz.nd rfl (.inl rfl))
    (jf (jU (JK PySem.F.plainAttrs_dict PySem.F.slot_dict_update PySem.F.type_dict_update j08 (pv 6) (ja (Qx (W7 rfl) (by rfl) T.j2H j1Y (ja (ji jq (pv 2) (pv 7)) jc)) jc)))))
   (jf (jU (JK PySem.F.plainAttrs_list PySem.F.slot_list_append PySem.F.type_list_append jH (pv 2) (ja (jA (KW rfl) (by rfl) T.j0w XU (ja (xE PySem.F.plainAttrs_dict PySem.F.slot_dict_items PySem.F.type_dict_items j13 (pv 6)) jc)) jc)))))))))
  (jf (jv (pv 2)))))),?_⟩
 refine jz (σ':=[some _,none,none,none,none,none,none,none]) rfl ?_;have sz:(200:Nat)<sizeLine:=by decide
 have p61:=W.p61;have l8:=W.l8;have pa:=B.pa.1;have la:=B.la.1;exists ixTm (SqT.of B.t) rfl ?_;exists⟨pl,las,nmsOf ls,rfl,B.l,by rw[nmsOf,length_map];exact la,fun i a x ea ex=>?_,W.ln,by rw[nmsOf,length_map];omega,fun d H1 s1 hd ed=>?_⟩
 ·unfold nmsOf at ex;rw[List.getElem?_map]at ex;obtain⟨p,ep,rfl⟩:=Option.map_eq_some_iff.mp ex;exact⟨_,B.la.2 i a p ea ep⟩
 exists⟨Nat.zero_le _,?_⟩;walk_at"f l hl H2 s2 t2";have nl:=none_of s1 hl;have s12:=s1.trans s2;have ndl:d≠l:=je ed hl;exists ixTm (SqT.of (s12 _ _ B.t)) rfl ?_;exists⟨b,pl,pp,las,pas,ls,ps,rfl,B.same s12,W,fun li ias H3 s3 hli eli nia lia=>?_⟩;walk_at"g";have s13:=s12.trans s3;have lial:=lia.1;rw[length_map]at lial;have nli:li≠l:=fun z=>by rw[z,t2]at hli;cases hli
 refine⟨pp,li,_,_,rfl,SqL.of (s13 _ _ B.p),SqL.of eli,?_⟩;have npl:∀{c u},H c=some u->c≠l:=fun h=>je h nl
 have t3:H3 l=some (.lst []):=s3 _ _ t2;refine Xm (xs:=pas.map V.ref) (ys:=ias.map V.ref) (fun i σ H'=>∃(as:List Addr) (E:List (List (Int×Int))) (o3 o4 o5 o6 o7:Option V),σ=[some (.ref b),some (.ref d),some (.ref l),o3,o4,o5,o6,o7]/\(∀c u,c≠l->H3 c=some u->H' c=some u)/\H' l=some (.lst (as.map V.ref))/\(∀a∈as,H a=none/\a≠l)/\E.length=i/\EndsAt H' as E/\EndOk ls ps E)
  (by rw[length_map,length_map];omega) ⟨[],[],_,_,_,_,_,rfl,fun c u _ h=>h,t3,(fun a h=>nomatch h),rfl,.nil,fun i p e _ h=>by simp at h⟩ ?_ ?_ ?_
 ·rintro i σ H' _ ⟨as,E,o3,o4,o5,o6,o7,rfl,sm,e1,na,lE,aE,oE⟩;exact⟨SqL.of (sm _ _ (npl B.p) (s13 _ _ B.p)),SqL.of (sm _ _ nli eli)⟩
 ·rintro i u v σ H' P H4 hu hv ⟨as,E,o3,o4,o5,o6,o7,rfl,sm,e1,na,lE,aE,oE⟩ sP tP;obtain⟨a,p,rfl,hp,fb,hat,hf⟩:=B.pa.at_ref hu;obtain⟨ia,is,rfl,his,hia⟩:=lia.at_ref hv;rw[List.getElem?_map,hp]at his;cases his;have hi:=(List.getElem?_eq_some_iff.mp hp).1;have iam:ia∈ias:=by
   rw[List.getElem?_map]at hv;obtain⟨a',ea,e'⟩:=Option.map_eq_some_iff.mp hv;injection e' with e';subst e';exact List.mem_of_getElem? ea
  have nial:ia≠l:=fun z=>by have:=nia ia iam;rw[z,t2]at this;cases this
  have k4:∀c u,c≠l->H3 c=some u->H4 c=some u:=fun c u hc h=>sP _ _ (sm _ _ hc h)
  have hat4:H4 a=_:=k4 _ _ (npl hat) (s13 _ _ hat);have hia4:H4 ia=_:=k4 _ _ nial hia;have ed4:H4 d=_:=k4 _ _ ndl (s3 _ _ (s2 _ _ ed));have e14:=sP _ _ e1;have hf4:FormAt H4 fb p.2:=by
   have h0:=FormAt.same s13 hf;generalize p.2=f at h0;have np:∀{c:Addr} {xs:List V},H3 c=some (.tup xs)->c≠l:=fun h=>Jv h t3 (fun z=>by cases z)
   cases f with
   | row ps=>obtain⟨c,h1,h2⟩:=h0;exact⟨c,k4 _ _ (np h1) h1,k4 _ _ (np h2) h2⟩
   | side ps=>obtain⟨c,h1,h2⟩:=h0;exact⟨c,k4 _ _ (np h1) h1,k4 _ _ (np h2) h2⟩
   | hold n=>exact k4 _ _ (np h0) h0
   | ring x n=>exact k4 _ _ (np h0) h0
   | rise x g n=>exact k4 _ _ (np h0) h0
   | again x n=>exact k4 _ _ (np h0) h0
  have w8:=(W.f i p hp).2;have wr:=fun x h n (e:p.2 = .rise x h n)=>W.r i p.1 x h n (by rw[hp,<-e])
  have inl:=fun j=>W.inP_lt (j:=j) hp
  have bnd:=ko W (by omega) oE;have elen:∀(j:Nat) (e:List (Int×Int)),E[j]?=some e->e.length<=8:=fun j e h=>Wk W (by omega) oE h
  refine Qz (SqT.of tP) ?_;exists ixTm (SqT.of hat4) rfl ?_;walk_at"g";walk_at"f dl hdl H5 s5 t5";exists⟨fun σ' H6=>σ'=[some (.ref b),some (.ref d),some (.ref l),some (.ref a),some (.ref ia),some (.ref fb),some (.ref dl),o7]/\Same H4 H6/\H6 dl=some (.dK ((kv0 ls p.2).map iiK)),?_,?_⟩
  rotate_left
  ·by_cases hr':∃x h n,p.2 = .rise x h n
   ·obtain⟨x,h,n,e⟩:=hr';rw[e]at hf4;have hf5:H5 fb=some (.tup [.str "raise",.str x,.int h,.int n]):=s5 _ _ hf4;obtain⟨j,hj⟩:=wr x h n e;exists ixTm (SqT.of hf5) rfl ?_;exists iteE1 ?_;exists ixTm (SqT.of hf5) rfl ?_;exists ixTm (SqT.of hf5) rfl ?_;have g:DGet H5 d (.str x) (some (.int (j:Nat))):=by
     have g:=DGet.k (k:=Sum.inr x) (s5 _ _ ed4);rw[WB W.ln hj]at g;exact g
    refine⟨d,_,rfl,g,?_⟩;refine⟨dl,_,rfl,DPut.k (k:=Sum.inl (j:Int)) t5 (by show 0<sizeLine;omega),?_⟩;refine⟨rfl,fun c u h=>(jg (je h hdl)).trans (s5 _ _ h),?_⟩;rw[jx,e];show _=some (HO.dK [iiK ((ixOf (nmsOf ls) x:Nat),h)]);rw[JL W.ln hj];rfl
   ·obtain⟨k,xs,hk,dk⟩:=j0N hf4 fun x v n e=>hr' ⟨x,v,n,e⟩
    exists ixTm (SqT.of (s5 _ _ hk)) (at0) ?_;exists iteB0 dk ?_;exists⟨rfl,s5,?_⟩;rw[j29 fun x v n e=>hr' ⟨x,v,n,e⟩];exact t5
  rintro σ' H6 ⟨rfl,s6,t6⟩;walk_at"g";have hia6:=s6 _ _ hia4;have nlist:∀{c u},H4 c=some u->c≠dl:=fun h=>je h hdl
  refine⟨ia,rfl,⟨_,SqL.of hia6⟩,?_⟩;refine JU (xs:=((inP ps p.2).map fun j:Nat=>(j:Int)).map V.int) (fun t σ H7=>∃(kvs:List (Int×Int)) (o7:Option V),σ=[some (.ref b),some (.ref d),some (.ref l),some (.ref a),some (.ref ia),some (.ref fb),some (.ref dl),o7]/\Same H4 H7/\H7 dl=some (.dK (kvs.map iiK))/\(kvs.map (·.1)).Nodup/\∀k v,(k,v)∈kvs↔LastIn E ((inP ps p.2).take t) k v\/(k,v)∈kv0 ls p.2)
   ⟨_,_,rfl,s6,t6,j2S _,fun k v=>⟨.inr,fun h=>h.elim (fun⟨pre,j,post,e,_⟩=>by cases pre<;>simp at e) id⟩⟩ ?_ ?_ ?_
  ·rintro t σ H7 _ ⟨kvs,o7,rfl,s7,t7,nd7,m7⟩;exact SqL.of (s7 _ _ hia4)
  ·rintro t x σ H7 hx ⟨kvs,o7,rfl,s7,t7,nd7,m7⟩;rw[List.getElem?_map,List.getElem?_map]at hx;obtain⟨jj,hjj,rfl⟩:=Option.map_eq_some_iff.mp hx;obtain⟨j,hj,rfl⟩:=Option.map_eq_some_iff.mp hjj;have jlt:=inl j (List.mem_of_getElem? hj);have e0:kv0 ls p.2=[]:=by
    rcases j2R (ps:=ps) (ls:=ls) p.2 with z | z
    ·rw[z]at hj;simp at hj
    ·exact z
   rw[e0]at m7;have hE:E[j]?=some (E.getD j []):=by rw[getD_eq_getElem?_getD,List.getElem?_eq_getElem (by omega)];rfl
   obtain⟨aj,haj,bs,hbs,prs⟩:=aE.get hE;have ndE:((E.getD j []).map (·.1)).Nodup:=((oE j _ _ (List.getElem?_eq_getElem (by omega)) hE).1).imp fun h=>Int.ne_of_lt h
   have e8:=elen j _ hE;have k8:kvs.length<=8:=by
    have z:=ZZ (n:=ls.length) nd7 fun k hk=>by
     obtain⟨q',hq',rfl⟩:=mem_map.mp hk;rcases(m7 q'.1 q'.2).mp hq' with⟨pre,i',post,_,hin,_⟩ | hin
     ·exact bnd i' _ hin
     ·exact nomatch hin
    rw[length_map]at z;omega
   exists⟨.inr (.inr (.inl ⟨rfl,.inl ⟨_,t7⟩⟩)),?_⟩;exists ixLm (SqL.of (s7 _ _ e14)) (ZS (i:=(j:Int)) (by omega) haj) ?_;exists⟨aj,bs,E.getD j [],rfl,s7 _ _ (sP _ _ hbs),prs.1,fun i' c q' h1 h2=>s7 _ _ (sP _ _ (prs.2 i' c q' h1 h2)),?_⟩;walk_at"f d2 hd2 H8 s8 t8";walk_at"g";rw[show([]:List (Key×V))=([]:List (Int×Int)).map iiK from rfl,ya,xz ndE]at t8;have n2:dl≠d2:=je t7 hd2;refine⟨dl,d2,_,_,rfl,rfl,s8 _ _ t7,t8,n2,by rw[length_map,length_map];omega,?_⟩;rw[ya];obtain⟨mn,mm⟩:=KG nd7 ndE;refine⟨mergeI kvs (E.getD j []),_,rfl,fun c u h=>(jg (nlist h)).trans (s8 _ _ (s7 _ _ h)),jx,mn,fun k v=>?_⟩;rw[mm,m7,e0,take_snoc hj,j00];constructor
   ·rintro(h | ⟨h1,h | h⟩)
    ·exact .inl (.inl h)
    ·exact .inl (.inr ⟨h1,h⟩)
    ·exact nomatch h
   ·rintro((h | ⟨h1,h⟩) | h)
    ·exact .inl h
    ·exact .inr ⟨h1,.inl h⟩
    ·exact nomatch h
  rintro σ' H7 ⟨kvs,o7',rfl,s7,t7,nd7,m7⟩;rw[length_map,length_map,take_length]at m7;have k8:kvs.length<=8:=by
   have z:=ZZ (n:=ls.length) nd7 fun k hk=>by
    obtain⟨q',hq',rfl⟩:=mem_map.mp hk;rcases(m7 q'.1 q'.2).mp hq' with⟨pre,i',post,_,hin,_⟩ | hin
    ·exact bnd i' _ hin
    ·obtain⟨x,n,e,ek⟩:=wd.mp hin;obtain⟨j,hj⟩:=wr x _ n e;have h3:=Xq (List.mem_of_getElem? hj);have h4:(nmsOf ls).length=ls.length:=length_map _;rw[ek];omega
   rw[length_map]at z;omega
  exists⟨.inl ⟨rfl,_,SqL.of (s7 _ _ e14)⟩,?_⟩;exists⟨.inr (.inr (.inl ⟨rfl,.inl ⟨_,t7⟩⟩)),dl,_,rfl,rfl,t7,?_⟩;walk_at"f vw hvw H8 s8 t8";exists⟨vw,dl,kvs,rfl,t8,s8 _ _ t7,by omega,fun r cs ms H9 s9 hr9 e9 n9 perm pw len tup=>?_⟩;walk_at"g";have asl:=aE.1;refine⟨l,_,_,rfl,rfl,s9 _ _ (s8 _ _ (s7 _ _ e14)),by rw[length_map];omega,?_⟩;have s49:=s7.trans (s8.trans s9);have nrl:r≠l:=(je (s8 _ _ (s7 _ _ e14)) hr9).symm;have nr:H r=none:=by
   cases z:H r with
   | none=>rfl
   | some u=>rw[s8 _ _ (s7 _ _ (k4 _ _ nrl (s13 _ _ z)))]at hr9;cases hr9
  have ntl:∀{c:Addr} {xs:List V},H9 c=some (.tup xs)->c≠l:=fun h=>Jv h (s49 _ _ e14) (fun z=>by cases z)
  refine⟨as++[r],E++[ms],_,_,_,_,_,rfl,fun c u hc h=>(jg hc).trans (s49 _ _ (k4 _ _ hc h)),?_,fun c hc=>?_,by rw[List.length_append,lE];rfl,?_,?_⟩
  ·rw[jx,map_append];rfl
  ·rcases mem_append.mp hc with z | z
   ·exact na c z
   ·rw[mem_singleton.mp z];exact⟨nr,nrl⟩
  ·refine All2.snoc (All2.monoM aE fun c hc e h=>?_) ?_
   ·obtain⟨bs,hbs,prs⟩:=h;refine⟨bs,(jg (na c hc).2).trans (s49 _ _ (sP _ _ hbs)),All2.mono prs fun c' q' h'=>?_⟩;have h9:=s49 _ _ (sP _ _ h');exact(jg (ntl h9)).trans h9
   ·exact⟨cs,(jg nrl).trans e9,len,fun i' c q' h1 h2=>(jg (ntl (tup i' c q' h1 h2))).trans (tup i' c q' h1 h2)⟩
  ·refine EndOk.snoc W oE (p:=p) (by rw[lE];exact hp) ?_ fun k v=>?_
   ·exact j0j (perm.map _) nd7 pw
   ·rw[perm.mem_iff,m7];exact⟨fun h=>h.imp id wd.mp,fun h=>h.imp id wd.mpr⟩
 rintro σ' H' ⟨as,E,o3,o4,o5,o6,o7,rfl,sm,e1,na,lE,aE,oE⟩;rw[length_map]at lE;walk_at"g";exact q l as E H' (fun c u h=>sm _ _ (npl h) (s13 _ _ h)) nl e1 (fun a ha=>(na a ha).1) (by omega) aE oE
theorem j1d(T:Txt K mg t)(Yh:FnOk P w K mg base CX0 3 t.Yi t.Yn ["book"] (sp_ends)):FnOk P w K mg base CX0 4 t.yw t.yE ["book"] (sp_moved):=by
 refine T.xZ.ok kP (fun vs H Q E h=>?_) (fun cdv A outer s H vs Q E hr h=>?_)
 ·cases h;subst_vars;rfl
 obtain⟨b,pl,pp,las,pas,ls,ps,rfl,B,W,q⟩:=h;refine⟨_,(jb (jp (i:=1) kP.nd rfl (.inl rfl) (jG jc))
  (jb (Jp PassesOwn.never rfl (Je (jh (Yh.mono (by decide)) hr (by rfl) T.j0W T.WZ.kp T.j0p .nil pass0 (ja (pv 0) jc))) (jr (i:=2) kP.nd rfl (.inl rfl))
   (jf (jU (JK PySem.F.plainAttrs_list PySem.F.slot_list_append PySem.F.type_list_append jH (pv 1) (ja (qC (ow:=["limb","height"]) (ci:=[]) rfl (CompScope.of (defScope Y8) ["book","found","left"] rfl rfl (by decide +kernel)) (Y1 (by decide) (by decide)) (Je (pv 2)) (fun _ _ _ _ _=>⟨(qg rfl (jy (jr (i:=0) (JP ["book","found","left"] rfl (by decide +kernel)) rfl (.inl rfl)) (jy (jr (i:=1) (JP ["book","found","left"] rfl (by decide +kernel)) rfl (.inl rfl)) JD))),zl,(pv 0)⟩)) jc)))))
  (jf (jv (pv 1))))),?_⟩
 refine jz (σ':=[some _,none,none]) rfl ?_;have sz:(200:Nat)<sizeLine:=by decide
 have p61:=W.p61;exists⟨Nat.zero_le _,?_⟩;walk_at"f l hl H1 s1 t1";exists⟨b,pl,pp,las,pas,ls,ps,rfl,B.same s1,W,fun e as E H2 s2 he ee ne lE aE oE=>?_⟩;have aE1:=aE.1;have s12:=s1.trans s2;have l2:H2 l=some (.lst []):=s2 _ _ t1;have nle:l≠e:=fun z=>by rw[z,he]at t1;cases t1
 refine⟨e,rfl,⟨_,SqL.of ee⟩,?_⟩;refine JU (xs:=as.map V.ref) (fun i σ H'=>∃(cs:List Addr) (o2:Option V),σ=[some (.ref b),some (.ref l),o2]/\(∀c u,c≠l->H2 c=some u->H' c=some u)/\H' l=some (.lst (cs.map V.ref))/\(∀c∈cs,H1 c=none/\c≠l)/\ListsAt H' cs ((E.take i).map fun e=>e.map (·.1)))
  ⟨[],_,rfl,fun c u _ h=>h,l2,(fun c h=>nomatch h),.nil⟩ ?_ ?_ ?_
 ·rintro i σ H' _ ⟨cs,o2,rfl,sm,e1,na,la⟩;exact SqL.of (sm _ _ nle.symm ee)
 ·rintro i x σ H' hx ⟨cs,o2,rfl,sm,e1,na,la⟩;obtain⟨a,ev,rfl,hev,bs,hbs,prs⟩:=aE.at_ref hx;have hi:=(List.getElem?_eq_some_iff.mp hev).1;have lal:=la.1;rw[length_map,length_take]at lal;have am:a∈as:=by
   rw[List.getElem?_map]at hx;obtain⟨a',ea,e'⟩:=Option.map_eq_some_iff.mp hx;injection e' with e';subst e';exact List.mem_of_getElem? ea
  have nal:a≠l:=fun z=>by have:=ne a am;rw[z,t1]at this;cases this
  have hb':H' a=some (.lst (bs.map V.ref)):=sm _ _ nal hbs;have evl:=(oE i _ ev (List.getElem?_eq_getElem (by omega)) hev).1;have ev100:=Wk W (by omega) oE hev;exists⟨.inl ⟨rfl,_,SqL.of e1⟩,?_⟩;exists⟨a,rfl,⟨_,SqL.of hb'⟩,?_⟩;refine qm (xs:=bs.map V.ref) (fun j ys H''=>ys=((ev.take j).map (·.1)).map V.int/\H'=H'') ⟨rfl,rfl⟩ ?_ ?_ ?_
  ·rintro j ys H'' _ ⟨rfl,rfl⟩;exact SqL.of hb'
  ·rintro j x ys H'' hx2 ⟨rfl,rfl⟩;obtain⟨c,kv,rfl,hkv,ht⟩:=prs.at_ref hx2;have hj:=(List.getElem?_eq_some_iff.mp hkv).1;have ncl:c≠l:=fun z=>by rw[z,l2]at ht;cases ht
   refine Ql (σ':=[none,none]) rfl ?_;refine Qz (SqT.of (sm _ _ ncl ht)) ?_;exists iteT ?_;exists⟨by rw[length_map,length_map,length_take];omega,?_,rfl⟩;rw[take_snoc hkv,map_append,map_append];rfl
  rintro ys H'' ⟨rfl,rfl⟩;rw[show(bs.map V.ref).length=ev.length by rw[length_map];exact prs.1,take_length];refine⟨by rw[length_map,length_map];omega,?_⟩;walk_at"f 4 t";exists⟨l,_,_,rfl,rfl,s4 _ _ e1,by rw[length_map];omega,?_⟩;have hne:p4≠l:=(je e1 hp4).symm;have n4:H1 p4=none:=by
   cases z:H1 p4 with
   | none=>rfl
   | some u=>rw[sm _ _ hne (s2 _ _ z)]at hp4;cases hp4
  refine⟨cs++[p4],_,rfl,fun c u hc h=>(jg hc).trans (s4 _ _ (sm _ _ hc h)),?_,fun c hc=>?_,?_⟩
  ·rw[jx,map_append];rfl
  ·rcases mem_append.mp hc with z | z
   ·exact na c z
   ·rw[mem_singleton.mp z];exact⟨n4,hne⟩
  ·rw[take_snoc hev,map_append];exact All2.snoc (All2.monoM la fun c hc ks h=>(jg (na c hc).2).trans (s4 _ _ h)) ((jg hne).trans t4)
 rintro σ' H3 ⟨cs,o2,rfl,sm,e1,na,la⟩;rw[length_map,aE1,take_length]at la;exists q l cs (E.map fun e=>e.map (·.1)) H3 (fun c u h=>sm _ _ (je h hl) (s12 _ _ h)) hl e1 (fun c hc=>none_of s1 (na c hc).1) (by rw[length_map];exact lE) la (j2U lE oE)
theorem Ki(T:Txt K mg t):FnOk P w K mg base CX0 1 t.Qc t.Qh ["row","moves","limbs"] (sp_check_side):=by
 refine T.yu.ok zH (fun vs H Q E h=>?_) (fun cdv A outer s H vs Q E hr h=>?_)
 ·cases h;subst_vars;rfl
 obtain⟨r,l,ll,as,las,M,rfl,el,la,ne,M8,ell,one,q⟩:=h;refine⟨_,(jb (jT (jk (j2X hr.units) (jG jc) (pv 1) (by with_unfolding_all rfl))
   (jf ZG)
   jt)
  (jf (Jp PassesOwn.never rfl (wD (by rfl) T.ZD (ja (pv 2) jc)) (qg rfl (jy (jr (i:=3) zH.nd rfl (.inr rfl)) (jy (jr (i:=4) zH.nd rfl (.inl rfl)) JD)))
   (jf (jT (jk zP (jA jW (by rfl) T.qe Ju (ja (qC (ow:=["move"]) (ci:=[3]) rfl (CompScope.of (defScope Q5) ["row","moves","limbs","number","limb"] rfl rfl (by decide +kernel)) (Q2 (by decide)) (Je (pv 1)) (fun _ _ _ _ _=>⟨(jr (i:=0) (JP ["row","moves","limbs","number","limb"] rfl (by decide +kernel)) rfl (.inl rfl)),(xF (jk (yf (K:=K) rfl) (pv 1) (pv 0) (by with_unfolding_all rfl))),YT⟩)) jc)) jd (nomark _))
    (jf ZG)
    jt))))),?_⟩
 refine jz (σ':=[some _,some _,some _,none,none]) rfl ?_;have sz:(200:Nat)<sizeLine:=by decide
 have lal:=la.1;exists⟨Nat.zero_le _,?_⟩;walk_at"f 0 t";exists⟨p0,l,as,M,rfl,rfl,t0,s0 _ _ el,lal,fun i b ks e1 e2=>s0 _ _ (la.2 i b ks e1 e2),?_⟩;exists iteB0 (any_empty ne) ?_;exists⟨ll,_,rfl,SqL.of (s0 _ _ ell),?_⟩;refine kq (xs:=las.map V.ref) (fun i σ H'=>∃o3 o4:Option V,σ=[some (.int r),some (.ref l),some (.ref ll),o3,o4]/\Same H H') ⟨_,_,rfl,s0⟩ ?_ ?_ ?_
 ·rintro i σ H' _ ⟨o3,o4,rfl,sm⟩;exact SqL.of (sm _ _ ell)
 ·rintro i v σ H' P H1 hx ⟨o3,o4,rfl,sm⟩ sP tP;have s1:=sm.trans sP;refine Qz (SqT.of tP) ?_;exists⟨l,rfl,⟨_,SqL.of (s1 _ _ el)⟩,?_⟩;refine qm (xs:=as.map V.ref) (fun j ys H''=>ys.length=((M.take j).filter fun ks=>decide ((i:Int)∈ks)).length/\H1=H'') ⟨rfl,rfl⟩ ?_ ?_ ?_
  ·rintro j ys H'' _ ⟨_,rfl⟩;exact SqL.of (s1 _ _ el)
  ·rintro j x ys H'' hx2 ⟨hy,rfl⟩;obtain⟨a,ks,rfl,hks,ha⟩:=la.at_ref hx2;refine Ql (σ':=[none,some _]) rfl ?_;exists⟨a,_,rfl,.inl (SqL.of (s1 _ _ ha)),rfl,flats ks,?_⟩;rw[inI];walk_at"g";have hle:((M.take j).filter fun ks=>decide ((i:Int)∈ks)).length<=8:=Nat.le_trans (length_filter_le _ _) (Nat.le_trans (List.length_take_le' _ _) M8);refine iteD (fun d=>?_) (fun d=>?_)
   ·exists⟨by omega,?_,rfl⟩;rw[take_snoc hks,filter_append,filter_cons,if_pos (decide_eq_true d),List.length_append,List.length_append,hy];rfl
   ·refine⟨?_,rfl⟩;rw[take_snoc hks,filter_append,filter_cons,if_neg (by simpa using d),List.length_append,hy];rfl
  rintro ys H'' ⟨hy,rfl⟩;rw[length_map,lal,take_length]at hy;have o1:=one (i:Int);refine⟨by omega,?_⟩;walk_at"f 2 t";exists⟨_,_,rfl,.inl ⟨_,SqL.of t2,rfl⟩,?_⟩;exists iteD (fun d=>?_) (fun d=>?_)
  ·exfalso;omega
  ·walk_at"g";exact⟨_,_,rfl,s1.trans s2⟩
 rintro σ' H' ⟨o3,o4,rfl,sm⟩;exact q H' sm
theorem wp(T:Txt K mg t):FnOk P w K mg base CX0 1 t.QL t.QQ ["form","inside"] (sp_length_of):=by
 refine T.YJ.ok wL (fun vs H Q E h=>?_) (fun cdv A outer s H vs Q E hr h=>?_)
 ·cases h;subst_vars;rfl
 obtain⟨a,l,f,gs,rfl,hF,el,pre,q⟩:=h;refine⟨_,(jb (jT (jk Jn (ji jw (pv 0) jd) jD (nomark _))
   (jf (jv (jA (Yk rfl) (by rfl) T.j0x W6 (ja (pv 1) jc))))
   jt)
  (jb (jT (jk Jn (ji jw (pv 0) jd) jD (nomark _))
   (jf (jv (jA (Kw rfl) (by rfl) T.j0u W4 (ja (pv 1) jc))))
   jt)
  (jb (jT (jk Jn (ji jw (pv 0) jd) jD (nomark _))
   (jf (jv (jo Qj (ji jw (pv 0) jd) (ji jq (pv 1) jd))))
   jt)
  (jf (jv (ji jw (pv 0) (XA wR jd))))))),?_⟩
 refine jz (σ':=[some _,some _]) rfl ?_;have sz:(200:Nat)<sizeLine:=by decide
 cases f with
 | hold n=>
  have ha:H a=some (.tup _):=hF;exists ixTm (SqT.of ha) rfl ?_;exists iteE0 ?_;exists ixTm (SqT.of ha) rfl ?_;exists iteE0 ?_;exists ixTm (SqT.of ha) rfl ?_;exists iteE0 ?_;exists ixTm (SqT.of ha) rfl ?_;exact q _ rfl
 | ring x n=>
  have ha:H a=some (.tup _):=hF;exists ixTm (SqT.of ha) rfl ?_;exists iteE0 ?_;exists ixTm (SqT.of ha) rfl ?_;exists iteE0 ?_;exists ixTm (SqT.of ha) rfl ?_;exists iteE0 ?_;exists ixTm (SqT.of ha) rfl ?_;exact q _ rfl
 | rise x v n=>
  have ha:H a=some (.tup _):=hF;exists ixTm (SqT.of ha) rfl ?_;exists iteE0 ?_;exists ixTm (SqT.of ha) rfl ?_;exists iteE0 ?_;exists ixTm (SqT.of ha) rfl ?_;exists iteE0 ?_;exists ixTm (SqT.of ha) rfl ?_;exact q _ rfl
 | row ps=>
  obtain⟨b,ha,hb⟩:=hF;exists ixTm (SqT.of ha) rfl ?_;exists iteE1 ?_;exists⟨l,gs,rfl,SqL.of el,?_⟩;exact q _ rfl
 | side ps=>
  obtain⟨b,ha,hb⟩:=hF;exists ixTm (SqT.of ha) rfl ?_;exists iteE0 ?_;exists ixTm (SqT.of ha) rfl ?_;exists iteE1 ?_;exists⟨l,gs,rfl,SqL.of el,length_pos_iff.mpr pre,fun g h1 h2=>?_⟩;exact q g ⟨h1,h2⟩
 | again k x=>
  have ha:H a=some (.tup _):=hF;obtain⟨y,r,rfl,k1,k2,y1,y2⟩:=pre;exists ixTm (SqT.of ha) rfl ?_;exists iteE0 ?_;exists ixTm (SqT.of ha) rfl ?_;exists iteE0 ?_;exists ixTm (SqT.of ha) rfl ?_;exists iteE1 ?_;exists ixTm (SqT.of ha) rfl ?_;exists ixLm (SqL.of el) (at0) ?_;walk_at"g";exact q _ ⟨y,rfl,rfl⟩
theorem xC(T:Txt K mg t)(Q0:FnOk P w K mg base CX0 2 t.Zc t.Ze ["book"] (sp_inner))(KO:FnOk P w K mg base CX0 4 t.yw t.yE ["book"] (sp_moved))(Zb:FnOk P w K mg base CX0 1 t.Qc t.Qh ["row","moves","limbs"] (sp_check_side))(ZA:FnOk P w K mg base CX0 1 t.QL t.QQ ["form","inside"] (sp_length_of)):FnOk P w K mg base CX0 5 t.Q7 t.Q8 ["book"] (sp_lengths):=by
 refine T.Yf.ok qH (fun vs H Q E h=>?_) (fun cdv A outer s H vs Q E hr h=>?_)
 ·cases h;subst_vars;rfl
 obtain⟨b,pl,pp,las,pas,ls,ps,gs,hs,rfl,B,S,q⟩:=h;refine⟨_,(jb (jp (i:=1) qH.nd rfl (.inr rfl) (jh (KO.mono (by decide)) hr (by rfl) T.j2e T.xZ.kp T.j1O .nil pass0 (ja (pv 0) jc)))
  (jb (jp (i:=2) qH.nd rfl (.inr rfl) (jG jc))
  (jb (Jp PassesOwn.never rfl (wD (by rfl) T.ZD (ja (jh (Q0.mono (by decide)) hr (by rfl) T.wa T.YY.kp T.KN .nil pass0 (ja (pv 0) jc)) jc)) (qg rfl (jy (jr (i:=3) qH.nd rfl (.inl rfl)) (jy (jr (i:=4) qH.nd rfl (.inl rfl)) JD)))
   (jb (jp (i:=5) qH.nd rfl (.inl rfl) (ji jw (ji jq (ji jw (pv 0) jd) (pv 3)) jd))
   (jb (qF (jk Jn (ji jw (pv 5) jd) jD (nomark _))
    (jf (jU (jh (Zb.mono (by decide)) hr (by rfl) T.K8 T.yu.kp T.KM .nil pass0 (ja (pv 3) (ja (qC (ow:=["part"]) (ci:=[1]) rfl (CompScope.of (defScope zR) ["book","moves","found","row","inside","form","length"] rfl rfl (by decide +kernel)) (Q2 (by decide)) (Je (pv 4)) (fun _ _ _ _ _=>⟨(jr (i:=0) (JP ["book","moves","found","row","inside","form","length"] rfl (by decide +kernel)) rfl (.inl rfl)),zl,(ji (yI (K:=K) rfl) (pv 1) (pv 0))⟩)) (ja (ji jw (pv 0) jd) jc))))))
    jt)
   (jb (jp (i:=6) qH.nd rfl (.inl rfl) (jh (ZA.mono (by decide)) hr (by rfl) T.Wv T.YJ.kp T.wV .nil pass0 (ja (pv 5) (ja (qC (ow:=["part"]) (ci:=[2]) rfl (CompScope.of (defScope zR) ["book","moves","found","row","inside","form","length"] rfl rfl (by decide +kernel)) (Q2 (by decide)) (Je (pv 4)) (fun _ _ _ _ _=>⟨(jr (i:=0) (JP ["book","moves","found","row","inside","form","length"] rfl (by decide +kernel)) rfl (.inl rfl)),zl,(ji (yI (K:=K) rfl) (pv 1) (pv 0))⟩)) jc))))
   (jb (jT (jk zP (pv 6) (jo Qv jd jd) (nomark _))
    (jf ZG)
    jt)
   (jf (jU (JK PySem.F.plainAttrs_list PySem.F.slot_list_append PySem.F.type_list_append jH (pv 2) (ja (pv 6) jc)))))))))
  (jf (jv (pv 2)))))),?_⟩
 refine jz (σ':=[some _,none,none,none,none,none,none]) rfl ?_;have sz:(200:Nat)<sizeLine:=by decide
 have W:=S.w;have pa:=B.pa.1;have gl:=S.gl;have p61:=W.p61;exists⟨b,pl,pp,las,pas,_,_,rfl,B,W,fun lm cms M H1 s1 hlm elm nlm Ml aM oM=>?_⟩;have mg:=S.mv M Ml oM;have aMl:=aM.1;exists⟨Nat.zero_le _,?_⟩;walk_at"f l hl H2 s2 t2";have nl:=none_of s1 hl;have s12:=s1.trans s2;exists⟨b,pl,pp,las,pas,_,_,rfl,B.same s12,W,fun li ias H3 s3 hli eli nia lia=>?_⟩;walk_at"g";have s13:=s12.trans s3;have s23:=s2.trans s3;have lial:=lia.1;rw[length_map]at lial;have nli:li≠l:=fun z=>by rw[z,t2]at hli;cases hli
 have t3:H3 l=some (.lst []):=s3 _ _ t2;have npl:∀{c u},H c=some u->c≠l:=fun h=>je h nl
 have np1:∀{c u},H1 c=some u->c≠l:=fun h=>je h hl
 refine⟨li,_,rfl,SqL.of eli,?_⟩;refine kq (xs:=ias.map V.ref) (fun i σ H'=>∃(o3 o4 o5 o6:Option V),σ=[some (.ref b),some (.ref lm),some (.ref l),o3,o4,o5,o6]/\(∀c u,c≠l->H3 c=some u->H' c=some u)/\H' l=some (.lst ((gs.take i).map V.int)))
  ⟨_,_,_,_,rfl,fun c u _ h=>h,t3⟩ ?_ ?_ ?_
 ·rintro i σ H' _ ⟨o3,o4,o5,o6,rfl,sm,e1⟩;exact SqL.of (sm _ _ nli eli)
 ·rintro i v σ H' P H4 hv ⟨o3,o4,o5,o6,rfl,sm,e1⟩ sP tP;obtain⟨ia,is',rfl,his,hia⟩:=lia.at_ref hv;have hi:i<ps.length:=by
   have:=(List.getElem?_eq_some_iff.mp his).1;rw[length_map]at this;exact this
  obtain⟨p,hp⟩:∃p,ps[i]?=some p:=⟨_,List.getElem?_eq_getElem hi⟩
  rw[List.getElem?_map,hp]at his;cases his;obtain⟨a,ea,fb,hat,hf⟩:=B.pa.get hp;have iam:ia∈ias:=by
   rw[List.getElem?_map]at hv;obtain⟨a',ea',e'⟩:=Option.map_eq_some_iff.mp hv;injection e' with e';subst e';exact List.mem_of_getElem? ea'
  have nial:ia≠l:=fun z=>by have:=nia ia iam;rw[z,t2]at this;cases this
  have k4:∀c u,c≠l->H3 c=some u->H4 c=some u:=fun c u hc h=>sP _ _ (sm _ _ hc h)
  have k04:∀c u,H c=some u->H4 c=some u:=fun c u h=>k4 _ _ (npl h) (s13 _ _ h)
  have k14:∀c u,H1 c=some u->H4 c=some u:=fun c u h=>k4 _ _ (np1 h) (s23 _ _ h)
  have hia4:H4 ia=some (.lst (((inP ps p.2).map fun j:Nat=>(j:Int)).map V.int)):=k4 _ _ nial hia;have e14:=sP _ _ e1;have hf4:FormAt H4 fb p.2:=FormAt.same k04 hf;have inl:=fun j=>W.inP_lt (j:=j) hp
  have w8:(inP ps p.2).length<=8:=by unfold inP;rw[length_map];exact(W.f i p hp).2
  obtain⟨lp,lgd⟩:=S.ln i p hp;have lgi:=S.gb i hi;refine Qz (SqT.of tP) ?_;exists ixTm (SqT.of (k04 _ _ B.t)) rfl ?_;exists ixLm (SqL.of (k04 _ _ B.p)) (ZS (i:=(i:Int)) (by omega) ea) ?_;exists ixTm (SqT.of (k04 _ _ hat)) rfl ?_;exists⟨fun σ' H5=>σ'=[some (.ref b),some (.ref lm),some (.ref l),some (.int i),some (.ref ia),some (.ref fb),o6]/\Same H4 H5,?_,?_⟩
  rotate_left
  ·by_cases hs0:∃qs,p.2 = .side qs
   ·obtain⟨qs,e⟩:=hs0;have ap:=S.sd i p qs hp e;generalize inP ps p.2=is at hia4 inl ap w8;rw[e]at hf4;obtain⟨nb,hf5,_⟩:=hf4;exists ixTm (SqT.of hf5) rfl ?_;exists iteE1 ?_;exists⟨ia,rfl,⟨_,SqL.of hia4⟩,?_⟩;have cat:∀j∈is,∃c,cms[j]?=some c/\H4 c=some (.lst ((hs.getD j []).map V.int)):=fun j hj=>by
     have jl:=inl j hj;obtain⟨c,hc,h1⟩:=aM.get (i:=j) (x:=M.getD j []) (by rw[getD_eq_getElem?_getD,List.getElem?_eq_getElem (by omega)];rfl);rw[mg j (by omega)]at h1;exact⟨c,hc,k14 _ _ h1⟩
    refine qm (xs:=(is.map fun j:Nat=>(j:Int)).map V.int) (fun t ys H'=>∃cs:List Addr,ys=cs.map V.ref/\ListsAt H4 cs ((is.take t).map fun j=>hs.getD j [])/\H4=H') ⟨[],rfl,.nil,rfl⟩ ?_ ?_ ?_
    ·rintro t ys H' _ ⟨cs,rfl,lc,rfl⟩;exact SqL.of hia4
    ·rintro t x ys H' hx ⟨cs,rfl,lc,rfl⟩;rw[List.getElem?_map,List.getElem?_map]at hx;obtain⟨jj,hjj,rfl⟩:=Option.map_eq_some_iff.mp hx;obtain⟨j,hj,rfl⟩:=Option.map_eq_some_iff.mp hjj;obtain⟨c,hc,h1⟩:=cat j (List.mem_of_getElem? hj);have lcl:=lc.1;rw[length_map,length_take]at lcl;refine Ql (σ':=[none,some _]) rfl ?_;exists iteT ?_;exists ixLm (SqL.of (k14 _ _ elm)) (ZS (i:=(j:Int)) (by omega) hc) ?_;refine⟨by rw[length_map];omega,cs++[c],by rw[map_append];rfl,?_,rfl⟩;rw[take_snoc hj,map_append];exact All2.snoc lc h1
    rintro ys H' ⟨cs,rfl,lc,rfl⟩;rw[length_map,length_map,take_length]at lc;have lcl:=lc.1;rw[length_map]at lcl;refine⟨by rw[length_map];omega,?_⟩;walk_at"f 5 t";exists ixTm (SqT.of (s5 _ _ (k04 _ _ B.t))) rfl ?_;exists⟨_,p5,pl,cs,las,(is.map fun j=>hs.getD j []),rfl,t5,All2.mono lc fun c ks h=>s5 _ _ h,fun ks hks=>?_,by rw[length_map];omega,s5 _ _ (k04 _ _ B.l),ap.2,fun H6 s6=>?_⟩
    ·obtain⟨j,hj,rfl⟩:=mem_map.mp hks;exact ap.1 j hj
    walk_at"g";exact⟨rfl,s5.trans s6⟩
   ·have kd:∃k xs,H4 fb=some (.tup (.str k::xs))/\decide (k=("side" : Str))=false:=by
     generalize p.2=f at hf4 hs0;cases f with
     | side qs=>exact absurd ⟨qs,rfl⟩ hs0
     | hold n=>exact⟨_,_,hf4,by decide +kernel⟩
     | ring x n=>exact⟨_,_,hf4,by decide +kernel⟩
     | rise x v n=>exact⟨_,_,hf4,by decide +kernel⟩
     | row qs=>obtain⟨_,h1,_⟩:=hf4;exact⟨_,_,h1,by decide +kernel⟩
     | again k x=>exact⟨_,_,hf4,by decide +kernel⟩
    obtain⟨k,xs,hk,dk⟩:=kd;exists ixTm (SqT.of hk) (at0) ?_;exists iteB0 dk ?_;walk_at"g";exact⟨rfl,Same.refl _⟩
  rintro σ' H5 ⟨rfl,s5⟩;exists⟨ia,rfl,⟨_,SqL.of (s5 _ _ hia4)⟩,?_⟩;have e15:=s5 _ _ e14;refine qm (xs:=((inP ps p.2).map fun j:Nat=>(j:Int)).map V.int) (fun t ys H'=>ys=(((inP ps p.2).take t).map fun j=>gs.getD j 0).map V.int/\H5=H') ⟨rfl,rfl⟩ ?_ ?_ ?_
  ·rintro t ys H' _ ⟨rfl,rfl⟩;exact SqL.of (s5 _ _ hia4)
  ·rintro t x ys H' hx ⟨rfl,rfl⟩;rw[List.getElem?_map,List.getElem?_map]at hx;obtain⟨jj,hjj,rfl⟩:=Option.map_eq_some_iff.mp hx;obtain⟨j,hj,rfl⟩:=Option.map_eq_some_iff.mp hjj;have jl:=inl j (List.mem_of_getElem? hj);refine Ql (σ':=[none,some _]) rfl ?_;exists iteT ?_;exists ixLm (SqL.of e15) (j0J (by omega) jl) ?_;refine⟨by rw[length_map,length_map,length_take];omega,?_,rfl⟩;rw[take_snoc hj,map_append,map_append];rfl
  rintro ys H' ⟨rfl,rfl⟩;rw[show(((inP ps p.2).map fun j:Nat=>(j:Int)).map V.int).length=(inP ps p.2).length by rw[length_map,length_map],take_length];refine⟨by rw[length_map,length_map];omega,?_⟩;walk_at"f 6 t";exists⟨fb,p6,p.2,_,rfl,FormAt.same (s5.trans s6) hf4,t6,lp,fun g hg=>?_⟩;have eg:=lgd g hg;subst eg;exists iteD (fun d=>?_) (fun d=>?_)
  ·exfalso;omega
  exists⟨.inl ⟨rfl,_,SqL.of (s6 _ _ e15)⟩,?_⟩;exists⟨l,_,_,rfl,rfl,s6 _ _ e15,by rw[length_map,length_take];omega,?_⟩;refine⟨_,_,_,_,rfl,fun c u hc h=>(jg hc).trans (s6 _ _ (s5 _ _ (k4 _ _ hc h))),?_⟩;rw[jx,j27 (by omega),map_append];rfl
 rintro σ' H' ⟨o3,o4,o5,o6,rfl,sm,e1⟩;rw[length_map,lial,<-gl,take_length]at e1;walk_at"g";exact q l H' (fun c u h=>sm _ _ (npl h) (s13 _ _ h)) nl e1
theorem wt(T:Txt K mg t):FnOk P w K mg base CX0 1 t.QM t.QR ["form","inside","sizes"] (sp_pieces_in):=by
 refine T.YL.ok J2 (fun vs H Q E h=>?_) (fun cdv A outer s H vs Q E hr h=>?_)
 ·cases h;subst_vars;rfl
 obtain⟨a,l,s0,f,is,gs,rfl,hf,el,es,i8,hj,hne,q⟩:=h;refine⟨_,(jb (jT (jk Jn (ji jw (pv 0) jd) jD (nomark _))
   (jb (jp (i:=3) J2.nd rfl (.inl rfl) (ji jq (pv 1) jd))
   (jb (jp (i:=4) J2.nd rfl (.inl rfl) (yT (jk zP (ji jw (pv 0) jd) jd (nomark _)) (jG (ja (jR (ja (pv 3) (ja (jo Qw (ji jw (pv 0) jd) jd) (ja (ji jq (pv 2) (pv 3)) jc)))) jc)) (jG jc)))
   (jf (jv (jo Yx (jG (ja (jR (ja (pv 3) (ja jd (ja jd jc)))) jc)) (pv 4))))))
   jt)
  (jb (jp (i:=5) J2.nd rfl (.inl rfl) (jG jc))
  (jb (jp (i:=6) J2.nd rfl (.inl rfl) jd)
  (jb (Jp PassesOwn.never rfl (Je (pv 1)) (jr (i:=3) J2.nd rfl (.inl rfl))
   (jb (jU (JK PySem.F.plainAttrs_list PySem.F.slot_list_append PySem.F.type_list_append jH (pv 5) (ja (jR (ja (pv 3) (ja jd (ja (pv 6) jc)))) jc)))
   (jf (jT (jk Jn (ji jw (pv 0) jd) jD (nomark _))
    (jf (xJ (i:=6) J2.nd rfl (.inl rfl) (ji jq (pv 2) (pv 3)) xm))
    jt))))
  (jf (jv (pv 5))))))),?_⟩
 refine jz (σ':=[some _,some _,some _,none,none,none,none]) rfl ?_;have sz:(10000:Nat)<sizeLine:=by decide
 have gat:∀j,j<gs.length->gs[j]?=some (gs.getD j 0):=fun j h=>by
  rw[getD_eq_getElem?_getD,List.getElem?_eq_getElem h];rfl
 by_cases ha:∃k x,f = .again k x
 ·obtain⟨k,x,rfl⟩:=ha;have hf:H a=some (.tup [.str "again",.int k,.str x]):=hf;obtain⟨j,r,rfl⟩:=List.exists_cons_of_ne_nil (hne k x rfl);have lj:=hj j mem_cons_self;exists ixTm (SqT.of hf) rfl ?_;exists iteE1 ?_;exists ixLm (SqL.of el) (at0) ?_;exists ixTm (SqT.of hf) rfl ?_;exists iteD (fun c=>?_) (fun c=>?_)
  ·exists ixTm (SqT.of hf) rfl ?_;exists ixLm (SqL.of es) (jY (j:=j) (by rw[List.getElem?_map,gat j lj];rfl)) ?_;exists⟨(by show 3<=sizeLine;omega),?_⟩;walk_at"f 1 t";exists⟨(by show 1<=sizeLine;omega),?_⟩;walk_at"f 2 t";exists⟨(by show 3<=sizeLine;omega),?_⟩;walk_at"f 3 t";exists⟨(by show 1<=sizeLine;omega),?_⟩;walk_at"f 4 t";exists⟨p4,p2,_,_,rfl,rfl,t4,s4 _ _ (s3 _ _ t2),(by show 2<=sizeLine;omega),?_⟩;walk_at"f 5 t";have s15:=s1.trans (s2.trans (s3.trans (s4.trans s5)));refine q p5 [p3,p1] _ s15 (none_of (s1.trans (s2.trans (s3.trans s4))) hp5) t5 ?_;show PcsAt H5 _ ((j,1,0)::(if 1<k then[(j,k-1,gs.getD j 0)]else[]));rw[if_pos c];exact .cons (s5 _ _ (s4 _ _ t3)) (.cons (s5 _ _ (s4 _ _ (s3 _ _ (s2 _ _ t1)))) .nil)
  ·exists⟨Nat.zero_le _,?_⟩;walk_at"f 2 t";exists⟨(by show 3<=sizeLine;omega),?_⟩;walk_at"f 3 t";exists⟨(by show 1<=sizeLine;omega),?_⟩;walk_at"f 4 t";exists⟨p4,p2,_,_,rfl,rfl,t4,s4 _ _ (s3 _ _ t2),(by show 1<=sizeLine;omega),?_⟩;walk_at"f 5 t";have s15:=s2.trans (s3.trans (s4.trans s5));refine q p5 [p3] _ s15 (none_of (s2.trans (s3.trans s4)) hp5) t5 ?_;show PcsAt H5 _ ((j,1,0)::(if 1<k then[(j,k-1,gs.getD j 0)]else[]));rw[if_neg c];exact .cons (s5 _ _ (s4 _ _ t3)) .nil
 have key:∃kw xs,H a=some (.tup (.str kw::xs))/\decide (kw=("again" : Str))=false/\((decide (kw=("row" : Str))=true/\∃xs,f = .row xs)\/(decide (kw=("row" : Str))=false/\∀is,pcsI gs f is=is.map fun j=>(j,1,0))):=by
  cases f with
  | hold n=>exact⟨_,_,hf,by decide +kernel,.inr ⟨by decide +kernel,fun _=>rfl⟩⟩
  | ring x n=>exact⟨_,_,hf,by decide +kernel,.inr ⟨by decide +kernel,fun _=>rfl⟩⟩
  | rise x v n=>exact⟨_,_,hf,by decide +kernel,.inr ⟨by decide +kernel,fun _=>rfl⟩⟩
  | row ps=>obtain⟨b,h1,_⟩:=hf;exact⟨_,_,h1,by decide +kernel,.inl ⟨by decide +kernel,_,rfl⟩⟩
  | side ps=>obtain⟨b,h1,_⟩:=hf;exact⟨_,_,h1,by decide +kernel,.inr ⟨by decide +kernel,fun _=>rfl⟩⟩
  | again k x=>exact absurd ⟨k,x,rfl⟩ ha
 obtain⟨kw,xs,hk,dk,hkind⟩:=key;exists ixTm (SqT.of hk) (at0) ?_;exists iteB0 dk ?_;exists⟨Nat.zero_le _,?_⟩;walk_at"f p hp H1 s1 t1";walk_at"g";have np:∀{c u},H c=some u->c≠p:=fun h=>je h hp
 refine⟨l,rfl,⟨_,SqL.of (s1 _ _ el)⟩,?_⟩;refine JU (xs:=(is.map fun j:Nat=>(j:Int)).map V.int) (fun i σ H'=>∃(o3:Option V) (bg:Int) (as:List Addr) (qs:List Pc),σ=[some (.ref a),some (.ref l),some (.ref s0),o3,none,some (.ref p),some (.int bg)]/\Same H H'/\H' p=some (.lst (as.map V.ref))/\as.length=i/\PcsAt H' as qs/\((∃xs,f = .row xs)->rowPc gs is 0=qs++rowPc gs (is.drop i) bg)/\(¬(∃xs,f = .row xs)->bg=0/\qs=(is.take i).map fun j=>(j,1,0)))
  ⟨_,0,[],[],rfl,s1,t1,rfl,.nil,fun _=>rfl,fun _=>⟨rfl,rfl⟩⟩ ?_ ?_ ?_
 ·rintro i σ H' _ ⟨o3,bg,as,qs,rfl,sm,e1,la,hq,h1,h2⟩;exact SqL.of (sm _ _ el)
 ·rintro i v σ H' hv ⟨o3,bg,as,qs,rfl,sm,e1,la,hq,h1,h2⟩;rw[List.getElem?_map,List.getElem?_map]at hv;obtain⟨jj,hjj,rfl⟩:=Option.map_eq_some_iff.mp hv;obtain⟨j,hij,rfl⟩:=Option.map_eq_some_iff.mp hjj;have il:=(List.getElem?_eq_some_iff.mp hij).1;have ed:is.drop i=j::is.drop (i+1):=by
   obtain⟨h,rfl⟩:=List.getElem?_eq_some_iff.mp hij;exact List.drop_eq_getElem_cons h
  have lj:=hj j (List.mem_of_getElem? hij);exists⟨.inl ⟨rfl,_,SqL.of e1⟩,?_⟩;exists⟨(by show 3<=sizeLine;omega),?_⟩;walk_at"f 2 t";exists⟨p,_,_,rfl,rfl,s2 _ _ e1,by rw[length_map];omega,?_⟩;have n2:p2≠p:=fun z=>by rw[z,s2 _ _ e1]at t2;cases t2
  have s3:Same H (upd H2 p (.lst (as.map V.ref++[.ref p2]))):=fun c u h=>(jg (np h)).trans (s2 _ _ (sm _ _ h))
  have e3:upd H2 p (.lst (as.map V.ref++[.ref p2])) p=some (.lst ((as++[p2]).map V.ref)):=by rw[jx,map_append];rfl
  have hq3:PcsAt (upd H2 p (.lst (as.map V.ref++[.ref p2]))) (as++[p2]) (qs++[(j,1,bg)]):=by
   refine All2.snoc (All2.mono hq fun c x h=>?_) ((jg n2).trans t2);exact(jg (fun z=>by rw[z,e1]at h;cases h)).trans (s2 _ _ h)
  generalize upd H2 p (.lst (as.map V.ref++[.ref p2]))=H3 at s3 e3 hq3|-;exists ixTm (SqT.of (s3 _ _ hk)) (at0) ?_;walk_at"g";rcases hkind with⟨dr,xs',ef⟩ | ⟨dr,hp'⟩
  ·refine iteB1 dr ?_;exists ixLm (SqL.of (s3 _ _ es)) (jY (j:=j) (by rw[List.getElem?_map,gat j lj];rfl)) ?_;exists⟨_,_,as++[p2],qs++[(j,1,bg)],rfl,s3,e3,by rw[List.length_append,la];rfl,hq3,fun h=>?_,fun h=>absurd ⟨xs',ef⟩ h⟩;rw[h1 h,ed,List.append_assoc];rfl
  ·refine iteB0 dr ?_;exists⟨_,_,as++[p2],qs++[(j,1,bg)],rfl,s3,e3,by rw[List.length_append,la];rfl,hq3,fun h=>?_,fun h=>?_⟩
   ·obtain⟨xs',ef⟩:=h;subst ef;have:=hp' [0,0];obtain⟨bb,hb1,_⟩:=hf;rw[hb1]at hk;cases hk;exact absurd dr (by decide +kernel)
   ·obtain⟨b0,eq⟩:=h2 h;refine⟨b0,?_⟩;rw[take_snoc hij,map_append,eq,b0];rfl
 rintro σ' H' ⟨o3,bg,as,qs,rfl,sm,e1,la,hq,h1,h2⟩;rw[show((is.map fun j:Nat=>(j:Int)).map V.int).length=is.length by rw[length_map,length_map]]at h1 h2;exists q p as H' sm hp e1 ?_;have e:pcsI gs f is=qs:=by
  by_cases hr':∃xs,f = .row xs
  ·obtain⟨xs',rfl⟩:=hr';show rowPc gs is 0=qs;rw[h1 ⟨xs',rfl⟩,List.drop_length];exact append_nil _
  ·rcases hkind with⟨_,xs',ef⟩ | ⟨_,hp'⟩
   ·exact absurd ⟨xs',ef⟩ hr'
   ·rw[hp',(h2 hr').2,take_length]
 rw[e];exact hq
theorem wv(T:Txt K mg t)(Q0:FnOk P w K mg base CX0 2 t.Zc t.Ze ["book"] (sp_inner))(ZB:FnOk P w K mg base CX0 1 t.QM t.QR ["form","inside","sizes"] (sp_pieces_in)):FnOk P w K mg base CX0 3 t.qO t.qS ["book","sizes"] (sp_pieces_of):=by
 refine T.Zx.ok wM (fun vs H Q E h=>?_) (fun cdv A outer s H vs Q E hr h=>?_)
 ·cases h;subst_vars;rfl
 obtain⟨b,pl,pp,s0,las,pas,ls,ps,gs,rfl,B,W,es,gl,q⟩:=h;refine⟨_,(jf (jv (qC (ow:=["part","inside"]) (ci:=[1]) rfl (CompScope.of (defScope zy) ["book","sizes"] rfl rfl (by decide +kernel)) (Y1 (by decide) (by decide)) (xH (by rfl) T.j0y (ja (ji jw (pv 0) jd) (ja (jh (Q0.mono (by decide)) hr (by rfl) T.wa T.YY.kp T.KN .nil pass0 (ja (pv 0) jc)) jc))) (fun _ _ _ _ _=>⟨(qg rfl (jy (jr (i:=0) (JP ["book","sizes"] rfl (by decide +kernel)) rfl (.inl rfl)) (jy (jr (i:=1) (JP ["book","sizes"] rfl (by decide +kernel)) rfl (.inl rfl)) JD))),zl,(jh (ZB.mono (by decide)) hr (by rfl) T.Ww T.YL.kp T.wW .nil pass0 (ja (ji (j28 (K:=K) rfl) (pv 0) jd) (ja (pv 1) (ja (pv 2) jc))))⟩)))),?_⟩;refine jz (σ':=[some _,some _]) rfl ?_;have sz:(10000:Nat)<sizeLine:=by decide
 have p61:=W.p61;have pa:=B.pa.1;exists ixTm (SqT.of B.t) rfl ?_;exists⟨b,pl,pp,las,pas,ls,ps,rfl,B,W,fun li ias H3 s3 hli eli nia lia=>?_⟩;walk_at"g";have lial:=lia.1;rw[length_map]at lial;refine⟨pp,li,_,_,rfl,SqL.of (s3 _ _ B.p),SqL.of eli,?_⟩;refine j0A (xs:=pas.map V.ref) (zs:=ias.map V.ref) (fun i ys H'=>∃as:List Addr,ys=as.map V.ref/\as.length=i/\Same H3 H'/\(∀a∈as,H a=none)/\PssAt H' as ((ps.take i).map fun p=>pcsI gs p.2 (inP ps p.2))) (by rw[length_map,length_map];omega) ⟨[],rfl,rfl,Same.refl _,(fun a h=>nomatch h),.nil⟩ ?_ ?_ ?_
 ·rintro i ys H' _ ⟨as,rfl,hl,sm,na,ha⟩;exact⟨SqL.of (sm _ _ (s3 _ _ B.p)),SqL.of (sm _ _ eli)⟩
 ·rintro i u v ys H' T0 H4 hu hv ⟨as,rfl,hl,sm,na,ha⟩ sP tP;have hi:=(List.getElem?_eq_some_iff.mp hu).1;rw[length_map]at hi;obtain⟨a,p,rfl,hp,fb,hat,hf⟩:=B.pa.at_ref hu;obtain⟨ia,is,rfl,his,hia⟩:=lia.at_ref hv;rw[List.getElem?_map,hp]at his;cases his;have hpi:=(List.getElem?_eq_some_iff.mp hp).1;have s4:=sm.trans sP;have s04:=s3.trans s4;have i8:(inP ps p.2).length<=8:=by unfold inP;rw[length_map];exact(W.f i p hp).2
  refine Ql (σ':=[none,none,some _]) rfl ?_;refine Qz (SqT.of tP) ?_;exists iteT ?_;exists ixTm (SqT.of (s04 _ _ hat)) rfl ?_;exists⟨fb,ia,s0,p.2,inP ps p.2,gs,rfl,FormAt.same s04 hf,s4 _ _ hia,s04 _ _ es,i8,fun j hj=>by have:=W.inP_lt hp hj;omega,fun k x e=>by rw[e];exact List.cons_ne_nil _ _,fun p5 as5 H5 s5 hp5 e5 hq5=>?_⟩;refine⟨by rw[length_map];omega,as++[p5],by rw[map_append];rfl,by rw[List.length_append,hl];rfl,s4.trans s5,fun c hc=>(mem_append.mp hc).elim (na c) fun z=>by rw[mem_singleton.mp z];exact none_of s04 hp5,?_⟩;rw[take_snoc hp,map_append];refine All2.snoc (All2.mono ha fun c x h=>?_) ⟨as5,e5,hq5⟩;obtain⟨bs,h1,h2⟩:=h;exact⟨bs,s5 _ _ (sP _ _ h1),All2.mono h2 fun c x h=>s5 _ _ (sP _ _ h)⟩
 rintro ys H' ⟨as,rfl,hl,sm,na,ha⟩;rw[length_map]at hl ha;refine⟨by rw[length_map];omega,?_⟩;walk_at"f 4 t";refine q _ as _ (s3.trans (sm.trans s4)) (none_of (s3.trans sm) hp4) t4 ?_ na;rw[pa,take_length]at ha;refine All2.mono ha fun c x h=>?_
 obtain⟨bs,h1,h2⟩:=h;exact⟨bs,s4 _ _ h1,All2.mono h2 fun c x h=>s4 _ _ h⟩
theorem Zt(T:Txt K mg t)(Q6:FnOk P w K mg base CX0 5 t.Q7 t.Q8 ["book"] (sp_lengths))(qK:FnOk P w K mg base CX0 3 t.qO t.qS ["book","sizes"] (sp_pieces_of)):FnOk P w K mg base CX0 6 t.jV t.j3 ["self","book","word"] (sp_initR t.jE):=by
 refine T.Zv.ok Jy (fun vs H Q E h=>?_) (fun cdv A outer s H vs Q E hr h=>?_)
 ·cases h;subst_vars;rfl
 obtain⟨a,dx,b,pl,pp,las,pas,ls,ps,gs,hs,x,rfl,ha,B,N,wx,wf,q⟩:=h;refine⟨_,(jb (zF (pv 0) (jh (Q6.mono (by decide)) hr (by rfl) T.KF T.Yf.kp T.Kq .nil pass0 (ja (pv 1) jc)) rfl)
  (jb (zF (pv 0) (ji jq (Jw (pv 0) rfl) (XA wR jd)) rfl)
  (jb (zF (pv 0) (jh (qK.mono (by decide)) hr (by rfl) T.YS T.Zx.kp T.YF .nil pass0 (ja (pv 1) (ja (Jw (pv 0) rfl) jc))) rfl)
  (jb (zF (pv 0) (jG jc) rfl)
  (jf (Jp PassesOwn.never rfl (xH (by rfl) T.j0y (ja (ji jw (pv 1) jd) (ja (Jw (pv 0) rfl) jc))) (qg rfl (jy (jr (i:=3) Jy.nd rfl (.inl rfl)) (jy (jr (i:=4) Jy.nd rfl (.inl rfl)) JD)))
   (jb (jp (i:=5) Jy.nd rfl (.inl rfl) (yT (jk (wz hr.units) (zQ j3b (ji jw (pv 3) jd) Z1 (Zl jd)) (jR (ja jD (ja (pv 2) jc))) (nomark _)) jd jd))
   (jf (jU (JK PySem.F.plainAttrs_list PySem.F.slot_list_append PySem.F.type_list_append jH (Jw (pv 0) rfl) (ja (jo jO (pv 5) (jA (Yk rfl) (by rfl) T.j0x W6 (ja (qC (ow:=["other","turns","begin"]) (ci:=[0]) rfl (CompScope.of (defScope JE) ["self","book","word","part","pieces","own"] rfl rfl (by decide +kernel)) (j26 (by decide) (by decide) (by decide)) (Je (pv 4)) (fun _ _ _ _ _=>⟨(qg rfl (jy (jr (i:=0) (JP ["self","book","word","part","pieces","own"] rfl (by decide +kernel)) rfl (.inl rfl)) (jy (jr (i:=1) (JP ["self","book","word","part","pieces","own"] rfl (by decide +kernel)) rfl (.inl rfl)) (jy (jr (i:=2) (JP ["self","book","word","part","pieces","own"] rfl (by decide +kernel)) rfl (.inl rfl)) JD)))),zl,(jo Qj (pv 1) (ji (yI (K:=K) rfl) (j2m (K:=K) rfl (pv 3) rfl) (pv 0)))⟩)) jc))) jc))))))))))),?_⟩
 refine jz (σ':=[some _,some _,some _,none,none,none]) rfl ?_;have sz:(200:Nat)<sizeLine:=by decide
 have W:=N.s.w;have gl:=N.s.gl;have p61:=W.p61;have ne:=N.ne;have pal:=B.pa.1;obtain⟨H0,less,n0,B0⟩:=B.less ha;have z0:Same H0 H:=less H fun c u _ h=>h
 exists⟨b,pl,pp,las,pas,ls,ps,gs,hs,rfl,B,N.s,fun l5 H5 s5 hl5 e5=>?_⟩;exists⟨a,_,dx,[],rfl,s5 _ _ ha,T.jC,T.jS,(by show 0<1000;decide),?_⟩;have n5:l5≠a:=fun z=>by rw[z,ha]at hl5;cases hl5
 generalize e6:upd H5 a _=H6;have k6:∀c u,c≠a->H5 c=some u->H6 c=some u:=fun c u n h=>e6▸(jg n).trans h
 have a6:=qd e6;clear e6;have z6:Same H0 H6:=less H6 fun c u n h=>k6 _ _ n (s5 _ _ h)
 exists⟨a,_,dx,_,_,rfl,a6,T.jC,T.jS,QV,?_⟩;exists ixLm (SqL.of (k6 _ _ n5 e5)) (Xd ne gl) ?_;exists⟨a,_,dx,_,rfl,a6,T.jC,T.j4,few (Ja _ _ _) (by decide),?_⟩;generalize e7:upd H6 a _=H7;have k7:∀c u,c≠a->H6 c=some u->H7 c=some u:=fun c u n h=>e7▸(jg n).trans h
 have a7:=qd e7;clear e7;have z7:Same H0 H7:=fun c u h=>k7 _ _ (n0 h) (z6 _ _ h)
 exists⟨a,_,dx,_,_,rfl,a7,T.jC,T.jS,(Jc (by decide +kernel)).trans QV,?_⟩;exists⟨b,pl,pp,l5,las,pas,ls,ps,gs,rfl,B0.same z7,W,k7 _ _ n5 (k6 _ _ n5 e5),gl,fun l8 as8 H8 s8 hl8 e8 ha8 na8=>?_⟩;have n8:l8≠a:=fun z=>by rw[z,a7]at hl8;cases hl8
 exists⟨a,_,dx,_,rfl,s8 _ _ a7,T.jC,T.jX,Nat.lt_of_le_of_lt (Ja _ _ _) (Nat.lt_of_le_of_lt (Nat.succ_le_succ (Ja _ _ _)) (by decide)),?_⟩;generalize e9:upd H8 a _=H9;have k9:∀c u,c≠a->H8 c=some u->H9 c=some u:=fun c u n h=>e9▸(jg n).trans h
 have a9:=qd e9;clear e9;exists⟨Nat.zero_le _,?_⟩;walk_at"f pw hpw H10 s10 t10";have nw:pw≠a:=fun z=>by rw[z,a9]at hpw;cases hpw
 exists⟨a,_,dx,_,rfl,s10 _ _ a9,T.jC,T.jQ,few3,?_⟩;generalize e11:upd H10 a _=H11;have k11:∀c u,c≠a->H10 c=some u->H11 c=some u:=fun c u n h=>e11▸(jg n).trans h
 have a11:H11 a=some (.ins t.jE dx (fldR ⟨l5,l8,pw,as8⟩ (gs.getD (ps.length-1) 0))):=qd e11;clear e11;have w8:∀c u,c≠a->H8 c=some u->H11 c=some u:=fun c u n h=>k11 _ _ n (s10 _ _ (k9 _ _ n h))
 have z11:Same H0 H11:=fun c u h=>w8 _ _ (n0 h) (s8 _ _ (z7 _ _ h))
 have nh:∀{c u},c≠a->H8 c=some u->c≠pw:=fun n h=>je (k9 _ _ n h) hpw
 have nh0:∀{c u},H0 c=some u->c≠pw:=fun h=>nh (n0 h) (s8 _ _ (z7 _ _ h))
 have t11:=k11 _ _ nw t10;have B11:=B0.same z11;exists ixTm (SqT.of B11.t) rfl ?_;exists⟨a,_,dx,_,_,rfl,a11,T.jC,T.jX,Yp,?_⟩;walk_at"g";have pl8:=ha8.1;rw[length_map]at pl8;refine⟨pp,l8,_,_,rfl,SqL.of B11.p,SqL.of (w8 _ _ n8 e8),?_⟩;refine Xm (xs:=pas.map V.ref) (ys:=as8.map V.ref) (fun i σ H'=>∃(o3 o4 o5:Option V) (Wl:List Int),σ=[some (.ref a),some (.ref b),some (.str x),o3,o4,o5]/\(∀c u,c≠pw->H11 c=some u->H' c=some u)/\H' pw=some (.lst (Wl.map V.int))/\WPre ps gs x Wl i) (by rw[length_map,length_map];omega) ⟨_,_,_,[],rfl,fun c u _ h=>h,t11,rfl,fun j p h=>absurd h (Nat.not_lt_zero _)⟩ ?_ ?_ ?_
 ·rintro i σ H' _ ⟨o3,o4,o5,Wl,rfl,sm,e,O⟩;exact⟨SqL.of (sm _ _ (nh0 B0.p) B11.p),SqL.of (sm _ _ (nh n8 e8) (w8 _ _ n8 e8))⟩
 ·rintro i u v σ H' T0 H12 hu hv ⟨o3,o4,o5,Wl,rfl,sm,ew,O⟩ sP tP;obtain⟨pa,p,rfl,hp,fb,hat,hf⟩:=B0.pa.at_ref hu;obtain⟨c0,qs,rfl,hq0,bs,hbs,hbq⟩:=ha8.at_ref hv;rw[List.getElem?_map,hp]at hq0;have hpi:=(List.getElem?_eq_some_iff.mp hp).1;have eqs:qs=pcB ps gs i:=by
   unfold pcB;rw[hp];exact(Option.some.inj hq0).symm
  clear hq0;have c0m:c0∈as8:=by
   rw[List.getElem?_map]at hv;obtain⟨a',ea,e'⟩:=Option.map_eq_some_iff.mp hv;injection e' with e';subst e';exact List.mem_of_getElem? ea
  have nc0:c0≠a:=fun z=>by have:=na8 c0 c0m;rw[z,a7]at this;cases this
  have ok0:∀c u,H0 c=some u->H12 c=some u:=fun c u h=>sP _ _ (sm _ _ (nh0 h) (z11 _ _ h))
  have ok8:∀c u,c≠a->H8 c=some u->H12 c=some u:=fun c u n h=>sP _ _ (sm _ _ (nh n h) (w8 _ _ n h))
  have nta:∀{c:Addr} {xs:List V},H8 c=some (.tup xs)->c≠a:=fun h=>Jv h (s8 _ _ a7) (fun z=>by cases z)
  obtain⟨xs,efb,lxs,two⟩:=j1J (x:=x) hf (wf p (List.mem_of_getElem? hp));refine Qz (SqT.of tP) ?_;exists ixTm (SqT.of (ok0 _ _ hat)) rfl ?_;exists j2s (ok0 _ _ efb) lxs fun cc H13 s13 ecc=>?_
  exists⟨(by show 2<=sizeLine;omega),?_⟩;walk_at"f 14 t";have s1:=s13.trans s14;obtain⟨d,dv,sh,ev⟩:=two H14 cc (fun c u h=>s1 _ _ (ok0 _ _ h)) (s14 _ _ ecc);have shr:SeqAt.shaped (.tuple [.str "ring",.str x])=true:=(Shp.tup (n:=0) (yZ (xs:=["ring",x]) fun y hy=>by
   rcases mem_cons.mp hy with rfl | hy
   ·decide +kernel
   ·rw[mem_singleton.mp hy];exact wx)).ok (by decide)
  refine⟨d,_,dv,.tup t14 (.cons (.str _) (.cons (.str _) .nil)),sh,shr,?_⟩;refine⟨_,rfl,?_⟩;rw[ev];have o01:ownW x p.2=0\/ownW x p.2=1:=by
   unfold ownW;split
   ·split
    ·exact .inr rfl
    ·exact .inl rfl
   ·exact .inl rfl
  have a14:H14 a=_:=s1 _ _ (sP _ _ (sm _ _ (Ne.symm nw) a11));have w14:H14 pw=_:=s1 _ _ (sP _ _ ew);have b14:H14 c0=_:=s1 _ _ (ok8 _ _ nc0 hbs);have hbl:=hbq.1;have q8:qs.length<=8:=eqs▸wB N i;have Wll:=O.1;refine iteD (fun c=>?A) (fun c=>?B)
  case' A=>have eo:ownW x p.2=1:=c
  case' B=>have eo:ownW x p.2=0:=o01.resolve_right c
  all_goals
   exists⟨a,_,dx,_,_,rfl,a14,T.jC,T.jQ,ZV,.inl ⟨rfl,_,SqL.of w14⟩,?_⟩;exists⟨c0,rfl,⟨_,SqL.of b14⟩,?_⟩;refine qm (xs:=bs.map V.ref) (fun j ys H''=>ys=((qs.take j).map fun q=>q.2.1*Wl.getD q.1 0).map V.int/\H14=H'') ⟨rfl,rfl⟩ ?_ ?_ ?_
   ·rintro j ys H'' _ ⟨rfl,rfl⟩;exact SqL.of b14
   ·rintro j v ys H'' hv' ⟨rfl,rfl⟩;obtain⟨cq,y,rfl,hy,hc⟩:=hbq.at_ref hv';have hjl:=(List.getElem?_eq_some_iff.mp hy).1;have ym:y∈pcB ps gs i:=eqs▸List.mem_of_getElem? hy;have ylt:=Zj W ym;obtain⟨_,_,_,k4,k5,_,_⟩:=N.pcOk ym;have bw:=O.b250 N (Nat.le_of_lt hpi) ylt;have ey:Wl[y.1]?=some (Wl.getD y.1 0):=by rw[getD_eq_getElem?_getD,List.getElem?_eq_getElem (by omega)];rfl
    refine Ql (σ':=[none,none,none,some (.ref a)]) rfl ?_;refine j1n (SqT.of (s1 _ _ (ok8 _ _ (nta hc) hc))) ?_;exists iteT ?_;exists⟨a,_,dx,_,_,rfl,a14,T.jC,T.jQ,ZV,?_⟩;exists ixLm (SqL.of w14) (jY (j:=y.1) (by rw[List.getElem?_map,ey];rfl)) ?_;exists⟨by rw[length_map,length_map,length_take];omega,?_,rfl⟩;rw[take_snoc hy,map_append,map_append];rfl
   rintro ys H'' ⟨rfl,rfl⟩;rw[show(bs.map V.ref).length=qs.length from(length_map _).trans hbl,take_length];refine⟨by rw[length_map,length_map];omega,?_⟩;walk_at"f 15 t";exists⟨p15,_,rfl,SqL.of t15,?_⟩;exists⟨pw,_,_,rfl,rfl,s15 _ _ w14,by rw[length_map];omega,?_⟩;walk_at"g";have O2:=O.snoc W hp;rw[eo]at O2;refine⟨_,_,_,_,rfl,fun c u hc h=>(jg hc).trans (s15 _ _ (s1 _ _ (sP _ _ (sm _ _ hc h)))),?_,O2⟩;rw[jx,map_append,<-eqs];rfl
 ·rintro σ H' ⟨o3,o4,o5,Wl,rfl,sm,ew,O⟩;rw[length_map,pal]at O;exists q ⟨l5,l8,pw,as8⟩ Wl H' (fun c u n h=>?_) O ⟨⟨dx,sm _ _ (Ne.symm nw) a11⟩,sm _ _ (nh n5 (s8 _ _ (k7 _ _ n5 (k6 _ _ n5 e5)))) (w8 _ _ n5 (s8 _ _ (k7 _ _ n5 (k6 _ _ n5 e5)))),sm _ _ (nh n8 e8) (w8 _ _ n8 e8),?_,ew⟩
  ·have h8:=s8 _ _ (k7 _ _ n (k6 _ _ n (s5 _ _ h)));exact sm _ _ (nh n h8) (w8 _ _ n h8)
  ·refine All2.monoM ha8 fun c hc e ⟨bs,h1,h2⟩=>?_
   have nta:∀{c:Addr} {xs:List V},H8 c=some (.tup xs)->c≠a:=fun h=>Jv h (s8 _ _ a7) (fun z=>by cases z)
   have nc:c≠a:=fun z=>by have:=na8 c hc;rw[z,a7]at this;cases this
   exact⟨bs,sm _ _ (nh nc h1) (w8 _ _ nc h1),All2.mono h2 fun b' q' h=>sm _ _ (nh (nta h) h) (w8 _ _ (nta h) h)⟩
theorem WE(T:Txt K mg t):FnOk P w K mg base CX0 1 t.Qt t.Qu ["pieces","sizes","gone"] (sp_progress):=by
 refine T.Z6.ok qh (fun vs H Q E h=>?_) (fun cdv A outer s H vs Q E hr h=>?_)
 ·cases h;subst_vars;rfl
 obtain⟨l,s0,t0,bs,qs,gs,rfl,el,hq,es,q8,ok,t1,t2,q⟩:=h;refine⟨_,(jb (jp (i:=3) qh.nd rfl (.inl rfl) (jG jc))
  (jb (Jp PassesOwn.never rfl (Je (pv 0)) (qg rfl (jy (jr (i:=4) qh.nd rfl (.inl rfl)) (jy (jr (i:=5) qh.nd rfl (.inl rfl)) (jy (jr (i:=6) qh.nd rfl (.inl rfl)) JD))))
   (jf (jT (jk kH (pv 6) (pv 2) (nomark _))
    (jb (jp (i:=7) qh.nd rfl (.inl rfl) (jA (Yj rfl) (by rfl) T.j0v W5 (ja (jo Jf (jo Qw (pv 2) (pv 6)) (ji jq (pv 1) (pv 4))) (ja (pv 5) jc))))
    (jb (jp (i:=8) qh.nd rfl (.inl rfl) (yT (jk zx (pv 7) (pv 5) (nomark _)) (jo Qw (jo Qw (pv 2) (pv 6)) (jo Qj (pv 7) (ji jq (pv 1) (pv 4)))) Yy))
    (jf (jU (JK PySem.F.plainAttrs_list PySem.F.slot_list_append PySem.F.type_list_append jH (pv 3) (ja (jR (ja (pv 4) (ja (pv 6) (ja (pv 7) (ja (pv 8) jc))))) jc))))))
    jt)))
  (jf (jv (pv 3))))),?_⟩
 refine jz (σ':=[some _,some _,some _,none,none,none,none,none,none]) rfl ?_;have sz:(10000:Nat)<sizeLine:=by decide
 have gat:∀j,j<gs.length->gs[j]?=some (gs.getD j 0):=fun j h=>by
  rw[getD_eq_getElem?_getD,List.getElem?_eq_getElem h];rfl
 have bl:=hq.1;exists⟨Nat.zero_le _,?_⟩;walk_at"f p hp H1 s1 e1";have np:∀{c u},H c=some u->c≠p:=fun h=>je h hp
 exists⟨l,rfl,⟨_,SqL.of (s1 _ _ el)⟩,?_⟩;refine JU (xs:=bs.map V.ref) (fun i σ H'=>∃(o4 o5 o6 o7 o8:Option V) (as:List Addr),σ=[some (.ref l),some (.ref s0),some (.int t0),some (.ref p),o4,o5,o6,o7,o8]/\Same H H'/\H' p=some (.lst (as.map V.ref))/\as.length<=i/\PrgAt H' as (prg gs t0 (qs.take i)))
  ⟨_,_,_,_,_,[],rfl,s1,e1,Nat.le_refl _,.nil⟩ ?_ ?_ ?_
 ·rintro i σ H' _ ⟨o4,o5,o6,o7,o8,as,rfl,sm,ep,la,ha⟩;exact SqL.of (sm _ _ el)
 ·rintro i v σ H' hv ⟨o4,o5,o6,o7,o8,as,rfl,sm,ep,la,ha⟩;obtain⟨c,x,rfl,hx,hc⟩:=hq.at_ref hv;have hi:=(List.getElem?_eq_some_iff.mp hx).1;have okx:=ok x (List.mem_of_getElem? hx);have okx':=okx;obtain⟨x1,g1,g2,n1,n2,b1,b2⟩:=okx';have more:prg gs t0 (qs.take (i+1))=prg gs t0 (qs.take i)++(prg1 gs t0 x).toList:=by
   rw[take_snoc hx];unfold prg;rw[List.filterMap_append];congr 1
  refine j1n (SqT.of (sm _ _ hc)) ?_;exists iteD (fun c1=>?_) (fun c1=>?_)
  ·have ovb:=j1f okx c1;exists ixLm (SqL.of (sm _ _ es)) (jY (j:=x.1) (by rw[List.getElem?_map,gat _ x1];rfl)) ?_;walk_at"g";have eo:(if x.2.1<(t0-x.2.2)/gs.getD x.1 0 then x.2.1 else(t0-x.2.2)/gs.getD x.1 0)=ov gs t0 x:=rfl;have eo2:(if(t0-x.2.2)/gs.getD x.1 0>x.2.1 then x.2.1 else(t0-x.2.2)/gs.getD x.1 0)=ov gs t0 x:=rfl;refine⟨_,_,rfl,?_⟩;rw[eo];exists iteD (fun c2=>?_) (fun c2=>?_)
   ·exists ixLm (SqL.of (sm _ _ es)) (jY (j:=x.1) (by rw[List.getElem?_map,gat _ x1];rfl)) ?_;exists⟨.inl ⟨rfl,_,SqL.of ep⟩,?_⟩;exists⟨(by show 4<=sizeLine;omega),?_⟩;walk_at"f 2 e";exists⟨p,_,_,rfl,rfl,s2 _ _ ep,by rw[length_map];omega,?_⟩;have n2':p2≠p:=fun z=>by rw[z,s2 _ _ ep]at e2;cases e2
    refine⟨_,_,_,_,_,as++[p2],rfl,fun c u h=>(jg (np h)).trans (s2 _ _ (sm _ _ h)),by rw[jx,map_append];rfl,by rw[List.length_append];show as.length+1<=_;omega,?_⟩;have e1':prg1 gs t0 x=some (x.1,x.2.2,ov gs t0 x,some (t0-x.2.2-ov gs t0 x*gs.getD x.1 0)):=by
     unfold prg1;rw[if_pos c1,if_pos c2]
    rw[more,e1'];refine All2.snoc (All2.mono ha fun c y h=>?_) ((jg n2').trans e2);exact(jg (fun z=>by rw[z,ep]at h;cases h)).trans (s2 _ _ h)
   ·exists⟨.inl ⟨rfl,_,SqL.of ep⟩,?_⟩;exists⟨(by show 4<=sizeLine;omega),?_⟩;walk_at"f 2 e";exists⟨p,_,_,rfl,rfl,s2 _ _ ep,by rw[length_map];omega,?_⟩;have n2':p2≠p:=fun z=>by rw[z,s2 _ _ ep]at e2;cases e2
    refine⟨_,_,_,_,_,as++[p2],rfl,fun c u h=>(jg (np h)).trans (s2 _ _ (sm _ _ h)),by rw[jx,map_append];rfl,by rw[List.length_append];show as.length+1<=_;omega,?_⟩;have e1':prg1 gs t0 x=some (x.1,x.2.2,ov gs t0 x,none):=by
     unfold prg1;rw[if_pos c1,if_neg c2]
    rw[more,e1'];refine All2.snoc (All2.mono ha fun c y h=>?_) ((jg n2').trans e2);exact(jg (fun z=>by rw[z,ep]at h;cases h)).trans (s2 _ _ h)
  ·exists⟨_,_,_,_,_,as,rfl,sm,ep,by omega,?_⟩;have e1':prg1 gs t0 x=none:=by
    unfold prg1;rw[if_neg c1]
   rw[more,e1'];show PrgAt H' as (_++[]);rw[append_nil];exact ha
 rintro σ' H' ⟨o4,o5,o6,o7,o8,as,rfl,sm,ep,la,ha⟩;rw[length_map,bl,take_length]at ha;walk_at"g";exact q p as H' sm hp ep ha
theorem yd(T:Txt K mg t)(Qs:FnOk P w K mg base CX0 1 t.Qt t.Qu ["pieces","sizes","gone"] (sp_progress)):FnOk P w K mg base CX0 2 t.Jl t.Jm ["self","beat"] (sp_aheadR t.jE):=by
 refine T.yq.ok jJ (fun vs H Q E h=>?_) (fun cdv A outer s H vs Q E hr h=>?_)
 ·cases h;subst_vars;rfl
 obtain⟨a,z,ls,ps,gs,Wl,hs,x,t0,rfl,A0,N,O,b0,b1,q⟩:=h;refine⟨_,(jb (jp (i:=2) jJ.nd rfl (.inl rfl) jd)
  (jb (jp (i:=3) jJ.nd rfl (.inl rfl) (jG (ja (jR (ja (jo Qw (jA jW (by rfl) T.qe Ju (ja (Jw (pv 0) rfl) jc)) jd) (ja (pv 1) jc))) jc)))
  (jb (kK PassesOwn.never (xK (pv 3) (fun _=>rfl))
   (jb (jp (i:=4) jJ.nd rfl (.inl rfl) (xE PySem.F.plainAttrs_list PySem.F.slot_list_pop PySem.F.type_list_pop j14 (pv 3)))
   (jb (qF (PW.pt (Qk (yg (xK (ji jq (Jw (pv 0) rfl) (ji jw (pv 4) jd)) (fun _=>rfl))) (qD (jk zP (ji jw (pv 4) jd) jd (nomark _)))))
    (jf (xJ (i:=2) jJ.nd rfl (.inl rfl) (ji jq (Jw (pv 0) rfl) (ji jw (pv 4) jd)) xm))
    jt)
   (jf (Jp PassesOwn.never rfl (Je (jh (Qs.mono (by decide)) hr (by rfl) T.kB T.Z6.kp T.Y9 .nil pass0 (ja (ji jq (Jw (pv 0) rfl) (ji jw (pv 4) jd)) (ja (Jw (pv 0) rfl) (ja (ji jw (pv 4) jd) jc))))) (qg rfl (jy (jr (i:=5) jJ.nd rfl (.inl rfl)) (jy (jr (i:=6) jJ.nd rfl (.inl rfl)) (jy (jr (i:=7) jJ.nd rfl (.inl rfl)) (jy (jr (i:=8) jJ.nd rfl (.inl rfl)) JD)))))
    (jb (xJ (i:=2) jJ.nd rfl (.inl rfl) (jo Qj (pv 7) (ji jq (Jw (pv 0) rfl) (pv 5))) xm)
    (jf (jT (jk wA (pv 8) Yy (nomark _))
     (jf (jU (JK PySem.F.plainAttrs_list PySem.F.slot_list_append PySem.F.type_list_append jH (pv 3) (ja (jR (ja (pv 5) (ja (pv 8) jc))) jc))))
     jt))))))))
  (jf (jv (pv 2)))))),?_⟩
 refine jz (σ':=[some _,some _,none,none,none,none,none,none,none]) rfl ?_;have sz:(20000:Nat)<sizeLine:=by decide
 have W:=N.s.w;have gl:=N.s.gl;have ne:=N.ne;have wl:=O.1;have p61:=W.p61;have gtop:=N.g (show ps.length-1<ps.length by omega);have M8:∀i,i<ps.length->(hs.getD i []).length<=8:=fun i hi=>Xv W N.hl N.m (KB N.s N.hl hi)
 have wb:∀j,j<ps.length->0<=Wl.getD j 0/\Wl.getD j 0<=10^60*8^62:=fun j hj=>by
  have b:=O.bnd N (Nat.le_refl _) j hj;have g:=N.g hj;have e:(8:Int)^(j+1)<=8^62:=by
   have:=Nat.pow_le_pow_right (show 0<8 by decide) (show j+1<=62 by omega)
   exact_mod_cast this
  exact⟨b.1,Int.le_trans b.2 (Int.mul_le_mul g.2 e (Int.le_of_lt (Int.pow_pos (by decide))) (by decide))⟩
 obtain⟨dx,ob⟩:=A0.o;exists⟨a,_,dx,_,_,rfl,ob,T.jC,T.jS,Wm,?_⟩;exists⟨_,_,rfl,.inl ⟨_,SqL.of A0.s,rfl⟩,?_⟩;rw[length_map,gl];exists⟨(by show 2<=sizeLine;omega),?_⟩;walk_at"f 3 e";exists⟨(by show 1<=sizeLine;omega),?_⟩;walk_at"f 4 e";rw[show((ps.length:Nat):Int)-1=((ps.length-1:Nat):Int) by omega]at e3;have s04:=s3.trans s4;have m4:∀{c u},H c=some u->c≠p4:=fun h=>je (s3 _ _ h) hp4
 exists⟨fun m σ H'=>∃(o4 o5 o6 o7 o8:Option V) (tas:List Addr) (S:List (Nat×Int)) (to:Int),σ=[some (.ref a),some (.int t0),some (.int to),some (.ref p4),o4,o5,o6,o7,o8]/\Same H H'/\H' p4=some (.lst (tas.map V.ref))/\GonAt H' tas S/\AhS ps gs Wl (RA ps gs Wl (ps.length-1) t0) to S/\m=(S.map fun s=>nodes ps gs s.1 s.2).sum,
  ⟨_,none,none,none,none,none,[p3],[(ps.length-1,t0)],0,rfl,s04,e4,All2.snoc (as:=[]) (xs:=[]) .nil (s4 _ _ e3),⟨by simp,fun s hs'=>by rw[mem_singleton.mp hs'];exact⟨by show ps.length-1<_;omega,b0,by show t0<=_;omega⟩,by have:=N.nodes M8 (i:=ps.length-1) (t:=t0) (by omega) b0;simpa using this⟩,rfl⟩,?_⟩
 rintro m σ H' ⟨o4,o5,o6,o7,o8,tas,S,to,rfl,sm,eT,gT,A,rfl⟩;have tl:=gT.1;have slen:S.length<=(S.map fun x=>nodes ps gs x.1 x.2).sum:=xS fun x _=>ZY (ps:=ps) (gs:=gs) x.1 x.2
 have an:=A.n;exists⟨_,.inl ⟨_,SqL.of eT,rfl⟩,?_⟩;rcases List.eq_nil_or_concat S with rfl | ⟨S0,y,rfl⟩
 ·have et:tas=[]:=List.length_eq_zero_iff.mp tl;subst et;refine iteF ?_;walk_at"g";have e:=A.e;rw[map_nil,sum_nil,Int.add_zero]at e;rw[e];exact q _ sm
 rw[List.concat_eq_append]at *;obtain⟨tas0,ax,rfl,gT0,hax⟩:=All2.last gT;rw[map_append]at eT|-;refine iteB1 (by simp) ?_;obtain⟨y1,y2,y3⟩:=A.ok y (mem_append_right _ mem_cons_self);have A':=A.next N;have nx:=kN (i:=y.1) (t:=y.2) N;have esum:([y].map fun s:Nat×Int=>nodes ps gs s.1 s.2).sum=nodes ps gs y.1 y.2:=by simp
 rw[map_append,sum_append,esum];have t0l:=gT0.1;rw[List.length_append,length_singleton]at slen;refine⟨fun σ H'=>∃(o4 o5 o6 o7 o8:Option V) (tas:List Addr) (S:List (Nat×Int)) (to:Int),σ=[some (.ref a),some (.int t0),some (.int to),some (.ref p4),o4,o5,o6,o7,o8]/\Same H H'/\H' p4=some (.lst (tas.map V.ref))/\GonAt H' tas S/\AhS ps gs Wl (RA ps gs Wl (ps.length-1) t0) to S/\(S.map fun s=>nodes ps gs s.1 s.2).sum<(S0.map fun s=>nodes ps gs s.1 s.2).sum+nodes ps gs y.1 y.2,
  fun σ' H' ⟨o4,o5,o6,o7,o8,tas,S,to,h1,h2,h3,h4,h5,h6⟩=>⟨_,h6,o4,o5,o6,o7,o8,tas,S,to,h1,h2,h3,h4,h5,rfl⟩,?_⟩
 exists⟨.inl ⟨rfl,_,SqL.of eT⟩,?_⟩;refine⟨p4,_,.ref ax,rfl,rfl,eT,by simp,?_⟩;rw[show((tas0.map V.ref)++[ax].map V.ref).dropLast=tas0.map V.ref by simp];have naT:∀{c:Addr} {xs:List V},H' c=some (.tup xs)->c≠p4:=fun h z=>by rw[z,eT]at h;cases h
 have s5:Same H (upd H' p4 (.lst (tas0.map V.ref))):=fun c u h=>(jg (m4 h)).trans (sm _ _ h)
 have eT5:upd H' p4 (.lst (tas0.map V.ref)) p4=some (.lst (tas0.map V.ref)):=jx;have gT5:GonAt (upd H' p4 (.lst (tas0.map V.ref))) tas0 S0:=All2.mono gT0 fun c y h=>(jg (naT h)).trans h
 have ax5:=(jg (o:=HO.lst (tas0.map V.ref)) (naT hax)).trans hax;generalize upd H' p4 (.lst (tas0.map V.ref))=H5 at s5 eT5 gT5 ax5|-;clear naT;have ob5:=s5 _ _ ob;obtain⟨p,hp⟩:∃p,ps[y.1]?=some p:=⟨_,List.getElem?_eq_getElem y1⟩
 have epc:pcB ps gs y.1=pcsI gs p.2 (inP ps p.2):=by unfold pcB;rw[hp]
 have hpq:(ps.map fun p=>pcsI gs p.2 (inP ps p.2))[y.1]?=some (pcB ps gs y.1):=by rw[List.getElem?_map,hp,epc];rfl
 obtain⟨al,eal,bs,hbs,hq⟩:=A0.pa.get hpq;have hbl:=hq.1;have pc8:=wB N y.1;have iw:∀{j:Nat},j<ps.length->atI (Wl.map V.int) (j:Int)=some (.int (Wl.getD j 0)):=fun {j} hj=>jY (j:=j) (by rw[List.getElem?_map,List.getElem?_eq_getElem (by omega),getD_eq_getElem?_getD,List.getElem?_eq_getElem (by omega)];rfl)
 generalize eX:(if pcB ps gs y.1=[]then(if 0<y.2 then Wl.getD y.1 0 else 0)else 0)=X at A';exists⟨fun σ' H6=>σ'=[some (.ref a),some (.int t0),some (.int (to+X)),some (.ref p4),some (.ref ax),o5,o6,o7,o8]/\H5=H6,?_,?_⟩
 rotate_left
 ·exists⟨a,_,dx,_,_,rfl,ob5,T.jC,T.jX,Yp,?_⟩;exists ixTm (SqT.of ax5) rfl ?_;exists ixLm (SqL.of (s5 _ _ A0.p)) (jY (j:=y.1) (by rw[List.getElem?_map,eal];rfl)) ?_;exists⟨_,.inl ⟨_,SqL.of (s5 _ _ hbs),rfl⟩,?_⟩;by_cases cb:pcB ps gs y.1=[]
  ·have eb:bs=[]:=List.length_eq_zero_iff.mp (by rw[hbl,cb];rfl);subst eb;refine iteT ?_;exists ixTm (SqT.of ax5) rfl ?_;exists iteD (fun c=>?_) (fun c=>?_)
   ·exists⟨a,_,dx,_,_,rfl,ob5,T.jC,T.jQ,ZV,?_⟩;exists ixTm (SqT.of ax5) rfl ?_;exists ixLm (SqL.of (s5 _ _ A0.w)) (iw y1) ?_;walk_at"g";rw[if_pos cb,if_pos (by omega)]at eX;exact⟨by rw[eX],rfl⟩
   ·walk_at"g";rw[if_pos cb,if_neg (by omega)]at eX;exact⟨by rw[<-eX,Int.add_zero],rfl⟩
  ·have nbs:¬bs.map V.ref=[]:=fun z=>by
    have:=congrArg List.length z;rw[length_map,hbl]at this;exact cb (List.length_eq_zero_iff.mp this)
   refine iteB0 (by simpa using nbs) ?_;refine iteF ?_;walk_at"g";rw[if_neg cb]at eX;exact⟨by rw[<-eX,Int.add_zero],rfl⟩
 rintro σ' H6 ⟨rfl,rfl⟩;exists⟨a,_,dx,_,_,rfl,ob5,T.jC,T.jX,Yp,?_⟩;exists ixTm (SqT.of ax5) rfl ?_;exists ixLm (SqL.of (s5 _ _ A0.p)) (jY (j:=y.1) (by rw[List.getElem?_map,eal];rfl)) ?_;exists⟨a,_,dx,_,_,rfl,ob5,T.jC,T.jS,Wm,?_⟩;exists ixTm (SqT.of ax5) rfl ?_;exists⟨al,z.s,y.2,bs,pcB ps gs y.1,gs,rfl,s5 _ _ hbs,All2.mono hq fun c x h=>s5 _ _ h,s5 _ _ A0.s,pc8,fun u hu=>N.pcOk hu,y2,by omega,fun p6 as6 H6 s6 hp6 e6 g6=>?_⟩;have gT6:GonAt H6 tas0 S0:=All2.mono gT5 fun c y h=>s6 _ _ h
 have eT6:=s6 _ _ eT5;have as6l:=g6.1;have n6:p6≠p4:=fun z=>by rw[z,eT5]at hp6;cases hp6
 have ylen:=K5 (gs:=gs) (t:=y.2) (pcB ps gs y.1);have s06:=s5.trans s6;refine⟨p6,rfl,⟨_,SqL.of e6⟩,?_⟩;refine JU (xs:=as6.map V.ref) (fun k σ H'=>∃(o5 o6 o7 o8:Option V) (tas:List Addr),σ=[some (.ref a),some (.int t0),some (.int (to+X+ovs Wl ((prg gs y.2 (pcB ps gs y.1)).take k))),some (.ref p4),some (.ref ax),o5,o6,o7,o8]/\(∀c u,c≠p4->H6 c=some u->H' c=some u)/\H' p4=some (.lst (tas.map V.ref))/\tas.length<=tas0.length+k/\GonAt H' tas (S0++rsts ((prg gs y.2 (pcB ps gs y.1)).take k)))
  ⟨_,_,_,_,tas0,by rw[show ovs Wl ((prg gs y.2 (pcB ps gs y.1)).take 0)=0 from rfl,Int.add_zero],fun c u _ h=>h,eT6,Nat.le_refl _,by rw[show rsts ((prg gs y.2 (pcB ps gs y.1)).take 0)=[]from rfl,append_nil];exact gT6⟩ ?_ ?_ ?_
 ·rintro k σ H' _ ⟨o5,o6,o7,o8,tas,rfl,sm',_⟩;exact SqL.of (sm' _ _ n6 e6)
 ·rintro k v σ H7 hv ⟨o5,o6,o7,o8,tas,rfl,sm',eT7,tl7,gT7⟩;obtain⟨c,u,rfl,hu,hc⟩:=g6.at_ref hv;have ku:=(List.getElem?_eq_some_iff.mp hu).1;have um:=List.mem_of_getElem? hu;have ul:=wE W um;have uo:=j38 N um;have wu:=wb u.1 (by omega);have ncp:c≠p4:=fun z=>by rw[z,eT6]at hc;cases hc
  refine j1o (SqT.of (sm' _ _ ncp hc)) ?_;exists⟨a,_,dx,_,_,rfl,sm' _ _ (m4 ob) (s06 _ _ ob),T.jC,T.jQ,ZV,?_⟩;exists ixLm (SqL.of (sm' _ _ (m4 A0.w) (s06 _ _ A0.w))) (iw (by omega)) ?_;walk_at"g";have eo:=j1h (W:=Wl) hu;cases er:u.2.2.2 with
  | none=>
   refine⟨rfl,_,rfl,?_⟩;refine iteB0 (by simp[optV]) ?_;exists⟨_,_,_,_,tas,by rw[eo,Int.add_assoc],sm',eT7,by omega,?_⟩;rw[j0g hu er];exact gT7
  | some r=>
   refine⟨rfl,_,rfl,?_⟩;refine iteB1 (by simp[optV]) ?_;exists⟨.inl ⟨rfl,_,SqL.of eT7⟩,?_⟩;exists⟨(by show 2<=sizeLine;omega),?_⟩;walk_at"f 8 e";have eT8:=s8 _ _ eT7;exists⟨p4,_,_,rfl,rfl,eT8,by rw[length_map];omega,?_⟩;have nt:∀{c:Addr} {xs:List V},H8 c=some (.tup xs)->c≠p4:=fun h z=>by rw[z,eT8]at h;cases h
   exists⟨_,_,_,_,tas++[p8],by rw[eo,Int.add_assoc],fun c u hc h=>(jg hc).trans (s8 _ _ (sm' _ _ hc h)),by rw[jx,map_append];rfl,by rw[List.length_append,length_singleton];omega,?_⟩;rw[j0h hu er,<-List.append_assoc];exact All2.snoc (All2.mono gT7 fun c y h=>(jg (nt (s8 _ _ h))).trans (s8 _ _ h)) ((jg (nt e8)).trans e8)
 ·rintro σ H7 ⟨o5,o6,o7,o8,tas,rfl,sm',eT7,tl7,gT7⟩;rw[show(as6.map V.ref).length=(prg gs y.2 (pcB ps gs y.1)).length by rw[length_map];exact as6l,take_length]at gT7;rw[show(as6.map V.ref).length=(prg gs y.2 (pcB ps gs y.1)).length by rw[length_map];exact as6l,take_length];exists⟨_,_,_,_,_,tas,_,_,rfl,fun c u h=>sm' _ _ (m4 h) (s06 _ _ h),eT7,gT7,A',?_⟩;rw[map_append,sum_append];omega
theorem WC(T:Txt K mg t)(j9:FnOk P w K mg base CX0 2 t.Jl t.Jm ["self","beat"] (sp_aheadR t.jE)):FnOk P w K mg base CX0 3 t.zd t.zg ["tally","beat"] (sp_aheadR t.jE):=by
 refine T.ka.ok WL (fun vs H Q E h=>?_) (fun cdv A outer s H vs Q E hr h=>?_)
 ·cases h;subst_vars;rfl
 obtain⟨a,z,ls,ps,gs,Wl,hs,x,t0,rfl,A0,N,O,b0,b1,q⟩:=h;refine⟨_,(jb (jT (yg (kL kH kH jd (pv 1) (jo jO (Jw (pv 0) rfl) jd)))
   (jf ZG)
   jt)
  (jf (jv (yU (pv 0) T.jC T.qE (j9.mono (by decide)) hr T.qW .nil pass0 (ja (pv 1) jc))))),?_⟩
 refine jz (σ':=[some _,some _]) rfl ?_;obtain⟨dx,ob⟩:=A0.o;exists iteB1 (decide_eq_true b0) ?_;exists⟨a,_,dx,_,_,rfl,ob,T.jC,T.j4,K1,?_⟩;exists iteN (fun c=>absurd b1 c) (fun _=>?_);exists⟨a,dx,_,rfl,ob,kr,?_⟩;walk_at"g";exact⟨a,z,ls,ps,gs,Wl,hs,x,t0,rfl,A0,N,O,b0,b1,q⟩
theorem Kk(T:Txt K mg t)(j2:FnOk P w K mg base CX0 6 t.jV t.j3 ["self","book","word"] (sp_initR t.jE))(Z7:FnOk P w K mg base CX0 3 t.zd t.zg ["tally","beat"] (sp_aheadR t.jE)):FnOk P w K mg base CX0 8 t.qk t.qp ["book","word","beat"] (sp_ringC):=by
 refine T.QY.ok Ko (fun vs H Q E h=>?_) (fun cdv A outer s H vs Q E hr h=>?_)
 ·cases h;subst_vars;rfl
 obtain⟨b,pl,pp,las,pas,ls,ps,gs,hs,x,t0,rfl,Bk,N,hx,fw,b0,b1,q⟩:=h;refine⟨_,(jf (jv (jh (Z7.mono (by decide)) hr (by rfl) T.xt T.ka.kp T.WW .nil pass0 (ja (wC T.YM (j2.mono (by decide)) hr (by rfl) T.yM T.QG .nil pass0 (ja (pv 0) (ja (pv 1) jc))) (ja (pv 2) jc))))),?_⟩;refine jz (σ':=[some _,some _,some _]) rfl ?_;walk_at"g";intro o dx ho hdx ne;have s3:Same H (upd (upd H dx (.own o)) o (.ins t.jE dx [])):=fun c u h=>(jg (je h ho)).trans ((jg (je h hdx)).trans h)
 refine⟨o,dx,b,pl,pp,las,pas,ls,ps,gs,hs,x,rfl,jx,Bk.same s3,N,hx,fw,fun z W H5 k5 O A=>⟨rfl,?_⟩⟩;have s05:Same H H5:=fun c u h=>k5 _ _ (je h ho) (s3 _ _ h)
 exists⟨o,z,ls,ps,gs,W,hs,x,t0,rfl,A,N,O,b0,b1,fun H6 s6=>?_⟩;rw[wY N O b0];exact q _ (s05.trans s6)
theorem xB(T:Txt K mg t)(j9:FnOk P w K mg base CX0 2 t.Jl t.Jm ["self","beat"] (sp_aheadR t.jE)):FnOk P w K mg base CX0 3 t.zL t.zM ["tally","number"] (sp_beatR t.jE):=by
 refine T.Kr.ok QD (fun vs H Q E h=>?_) (fun cdv A outer s H vs Q E hr h=>?_)
 ·cases h;subst_vars;rfl
 obtain⟨a,z,ls,ps,gs,Wl,hs,x,n0,rfl,A0,N,O,q⟩:=h;refine⟨_,(jb (jT (yg (kL kH zx jd (pv 1) (yU (pv 0) T.jC T.qE (j9.mono (by decide)) hr T.qW .nil pass0 (ja (jo jO (Jw (pv 0) rfl) jd) jc))))
   (jf (jv Yy))
   jt)
  (jb (jp (i:=2) QD.nd rfl (.inl rfl) jd)
  (jb (jp (i:=3) QD.nd rfl (.inl rfl) (Jw (pv 0) rfl))
  (jb (kK PassesOwn.never (jk zx (pv 2) (pv 3) (nomark _))
   (jb (jp (i:=4) QD.nd rfl (.inl rfl) (jo Jf (jo jO (pv 2) (pv 3)) jd))
   (jf (jT (jk zP (yU (pv 0) T.jC T.qE (j9.mono (by decide)) hr T.qW .nil pass0 (ja (jo jO (pv 4) jd) jc)) (pv 1) (nomark _))
    (jf (jp (i:=3) QD.nd rfl (.inl rfl) (pv 4)))
    (jf (jp (i:=2) QD.nd rfl (.inl rfl) (jo jO (pv 4) jd)))))))
  (jf (jv (pv 2))))))),?_⟩
 refine jz (σ':=[some _,some _,none,none,none]) rfl ?_;have ne:=N.ne;have gt:=N.g (show ps.length-1<ps.length by omega);obtain⟨dx,ob⟩:=A0.o;walk_at"g";by_cases c0:0<=n0
 ·refine iteB1 (decide_eq_true c0) ?_;exists⟨a,dx,_,rfl,ob,kr,?_⟩;exists⟨a,_,dx,_,_,rfl,ob,T.jC,T.j4,K1,?_⟩;exists⟨a,z,ls,ps,gs,Wl,hs,x,_,rfl,A0,N,O,by omega,Int.le_refl _,fun H1 s1=>?_⟩;exists iteN (fun c=>?_) (fun c=>?_)
  ·walk_at"g";exact q _ _ s1 (.inl ⟨fun h=>c h.2,rfl⟩)
  ·exists⟨a,_,dx,_,_,rfl,s1 _ _ ob,T.jC,T.j4,K1,?_⟩;exists⟨fun m σ H'=>∃(lo hi:Int) (o4:Option V),σ=[some (.ref a),some (.int n0),some (.int lo),some (.int hi),o4]/\Same H H'/\0<=lo/\lo<=hi/\hi<=gs.getD (ps.length-1) 0/\RA ps gs Wl (ps.length-1) lo<=n0/\n0<RA ps gs Wl (ps.length-1) (hi+1)/\m=(hi-lo).toNat,
    ⟨_,0,gs.getD (ps.length-1) 0,none,rfl,s1,Int.le_refl _,by omega,Int.le_refl _,by rw[YZ N];exact c0,c,rfl⟩,?_⟩
   rintro m σ H2 ⟨lo,hi,o4,rfl,s2,l0,lh,hL,r1,r2,rfl⟩;exists iteD (fun c2=>?_) (fun c2=>?_)
   ·have mA:lo<=(lo+hi)/2:=by omega
    have mB:(lo+hi)/2<hi:=by omega
    refine⟨fun σ H'=>∃(lo' hi':Int) (o4:Option V),σ=[some (.ref a),some (.int n0),some (.int lo'),some (.int hi'),o4]/\Same H H'/\0<=lo'/\lo'<=hi'/\hi'<=gs.getD (ps.length-1) 0/\RA ps gs Wl (ps.length-1) lo'<=n0/\n0<RA ps gs Wl (ps.length-1) (hi'+1)/\(hi'-lo').toNat<(hi-lo).toNat,
     fun σ' H' ⟨lo',hi',o4,h1,h2,h3,h4,h5,h6,h7,h8⟩=>⟨_,h8,lo',hi',o4,h1,h2,h3,h4,h5,h6,h7,rfl⟩,?_⟩
    walk_at"g";generalize(lo+hi)/2=mi at mA mB|-;refine⟨a,dx,_,rfl,s2 _ _ ob,kr,?_⟩;exists⟨a,z,ls,ps,gs,Wl,hs,x,_,rfl,A0.keep s2,N,O,by omega,by omega,fun H3 s3=>?_⟩;exists iteD (fun c3=>?_) (fun c3=>?_)
    ·walk_at"g";exact⟨lo,mi,_,rfl,s2.trans s3,l0,mA,by omega,r1,by omega,by omega⟩
    ·walk_at"g";exact⟨mi+1,hi,_,rfl,s2.trans s3,by omega,by omega,hL,by omega,r2,by omega⟩
   ·walk_at"g";have e:lo=hi:=by omega
    subst e;exact q _ _ s2 (.inr ⟨⟨c0,c⟩,lo,rfl,l0,hL,r1,r2⟩)
 ·refine iteB0 (decide_eq_false c0) ?_;refine⟨_,rfl,?_⟩;refine iteT ?_;walk_at"g";exact q _ _ (Same.refl _) (.inl ⟨fun h=>c0 h.1,rfl⟩)
theorem wy(T:Txt K mg t)(j2:FnOk P w K mg base CX0 6 t.jV t.j3 ["self","book","word"] (sp_initR t.jE))(Yg:FnOk P w K mg base CX0 3 t.zL t.zM ["tally","number"] (sp_beatR t.jE)):FnOk P w K mg base CX0 8 t.QN t.qT ["book","word","number"] (sp_ringB):=by
 refine T.qI.ok wN (fun vs H Q E h=>?_) (fun cdv A outer s H vs Q E hr h=>?_)
 ·cases h;subst_vars;rfl
 obtain⟨b,pl,pp,las,pas,ls,ps,gs,hs,x,n0,rfl,Bk,N,hx,fw,q⟩:=h;refine⟨_,(jf (jv (jh (Yg.mono (by decide)) hr (by rfl) T.j04 T.Kr.kp T.XR .nil pass0 (ja (wC T.YM (j2.mono (by decide)) hr (by rfl) T.yM T.QG .nil pass0 (ja (pv 0) (ja (pv 1) jc))) (ja (pv 2) jc))))),?_⟩;refine jz (σ':=[some _,some _,some _]) rfl ?_;walk_at"g";intro o dx ho hdx ne;have s3:Same H (upd (upd H dx (.own o)) o (.ins t.jE dx [])):=fun c u h=>(jg (je h ho)).trans ((jg (je h hdx)).trans h)
 refine⟨o,dx,b,pl,pp,las,pas,ls,ps,gs,hs,x,rfl,jx,Bk.same s3,N,hx,fw,fun z W H5 k5 O A=>⟨rfl,?_⟩⟩;have s05:Same H H5:=fun c u h=>k5 _ _ (je h ho) (s3 _ _ h)
 walk_at"g";exact⟨o,z,ls,ps,gs,W,hs,x,n0,rfl,A,N,O,fun v H6 s6 r=>q v H6 (s05.trans s6) (r.rb N O)⟩
theorem YW(T:Txt K mg t):FnOk P w K mg base CX0 1 t.Jh t.Jj ["_law_script","_law_k"] (Pr.sp_cell_at K):=by
 refine T.j7.ok YX (fun vs H Q E h=>?_) (fun cdv A outer s H vs Q E hr h=>?_)
 ·cases h;subst_vars;rfl
 obtain⟨a,ns,k,rfl,hS,h63,h0,q⟩:=h;refine⟨_,(jb (jT (jk zx (pv 1) (jA jW (by rfl) T.qe Ju (ja (pv 0) jc)) (nomark _))
   (jf (jv (ji jq (pv 0) (pv 1))))
   jt)
  (jf (jv jd))),?_⟩
 refine jz (σ':=[some _,some _]) rfl ?_;exists⟨_,_,rfl,.inl ⟨_,hS,rfl⟩,?_⟩;exists iteD (fun c=>?_) (fun c=>?_)
 ·walk_at"g";exact⟨a,_,k,_,rfl,rfl,hS,Pr.j1V h0 (by rw[length_map]at c;exact c),q⟩
 ·walk_at"g";have e:Pr.cell ns k=0:=by
   rw[length_map]at c;unfold Pr.cell;rw[getD_eq_getElem?_getD,List.getElem?_eq_none (by omega)];rfl
  rw[e]at q;exact q
theorem Kd(T:Txt K mg t):FnOk P w K mg base CX0 1 t.JA t.JB ["_law_cell","_law_k"] (y6):=by
 refine T.Jq.ok Kl (fun vs H Q E h=>?_) (fun cdv A outer s H vs Q E hr h=>?_)
 ·obtain⟨c,k,rfl,k0,k1,q⟩:=h;rfl
 obtain⟨c,k,rfl,k0,k1,q⟩:=h;refine⟨_,(jf (jv (jo j5 (jo Qj (jo jO (jo jO (jo j5 (pv 0) (jo Qv jd jd)) (jo Qj (pv 1) (pv 1))) jd) jd) (jo jO (jo Qv jd jd) jd)))),?_⟩;refine jz (σ':=[some _,some _]) rfl ?_;have m0:=Int.emod_nonneg c (show(10^30:Int)≠0 by decide);have m1:=Int.emod_lt_of_pos c (show(0:Int)<10^30 by decide);have kk:0<=k*k/\k*k<=10^40:=⟨Int.mul_nonneg k0 k0,by have:=Int.mul_le_mul k1 k1 k0 (by decide);omega⟩
 walk_at"g";exact q
theorem Kc(T:Txt K mg t)(jF:FnOk P w K mg base CX0 1 t.Jh t.Jj ["_law_script","_law_k"] (Pr.sp_cell_at K))(jM:FnOk P w K mg base CX0 1 t.JA t.JB ["_law_cell","_law_k"] (y6)):FnOk P w K mg base CX0 2 t.qY t.Qd ["_law_script","_law_j","_law_k"] (sp_greatB K):=by
 refine T.yr.ok Z5 (fun vs H Q E h=>?_) (fun cdv A outer s H vs Q E hr h=>?_)
 ·cases h;subst_vars;rfl
 obtain⟨a,ns,j,k,rfl,hS,h63,j0,j1,k0,k1,q⟩:=h;refine⟨_,(jb (jp (i:=3) Z5.nd rfl (.inl rfl) (jh (jM.mono (by decide)) hr (by rfl) T.JC T.Jq.kp T.Jz .nil pass0 (ja (jh (jF.mono (by decide)) hr (by rfl) T.Jk T.j7.kp T.Jg .nil pass0 (ja (pv 0) (ja (pv 1) jc))) (ja (pv 2) jc))))
  (jf (jv (jo Qj (pv 3) (jh (jM.mono (by decide)) hr (by rfl) T.JC T.Jq.kp T.Jz .nil pass0 (ja (jh (jF.mono (by decide)) hr (by rfl) T.Jk T.j7.kp T.Jg .nil pass0 (ja (pv 0) (ja (jo jO (pv 1) jd) jc))) (ja (jo jO (pv 2) jd) jc))))))),?_⟩
 refine jz (σ':=[some _,some _,some _,none]) rfl ?_;have b1:=QT (Pr.cell ns j) k;have b2:=QT (Pr.cell ns (j+1)) (k+20);exists⟨a,ns,_,rfl,hS,h63,by omega,?_⟩;exists⟨_,_,rfl,by omega,by omega,?_⟩;exists⟨a,ns,_,rfl,hS,h63,by omega,?_⟩;exists⟨_,_,rfl,by omega,by omega,?_⟩;walk_at"g";exact q
theorem wo(T:Txt K mg t):FnOk P w K mg base CX0 1 t.qN t.qR ["_law_place","_law_k"] (sp_wordB):=by
 refine T.QI.ok wK (fun vs H Q E h=>?_) (fun cdv A outer s H vs Q E hr h=>?_)
 ·cases h;subst_vars;rfl
 obtain⟨p,k,rfl,hp,hk,q⟩:=h;refine⟨_,(jf (jv (jo ye (jo ye (jo ye (zQ j1z jD Z1 (Zl (pv 0))) (ji j0L jD (jo j5 (pv 1) jd))) (ji j0L jD (jo Jf (pv 1) jd))) (zQ j1z jD (Zl (pv 0)) Z1)))),?_⟩;refine jz (σ':=[some _,some _]) rfl ?_;have sz:(200:Nat)<sizeLine:=by decide
 have hc:(Str.ofString "abcdefghijklnopqrstuvwxyz").cps.toList[((k%25:Nat):Int).toNat]?=some (abB.cps.toList.getD (k%25) 97):=by
  have l:(Str.ofString "abcdefghijklnopqrstuvwxyz").cps.toList.length=25:=by decide +kernel
  show _=some ((Str.ofString "abcdefghijklnopqrstuvwxyz").cps.toList.getD (k%25) 97);rw[Int.toNat_natCast,getD_eq_getElem?_getD,List.getElem?_eq_getElem (by omega)];rfl
 have l1:(Txt.slice (Str.ofString "mm") none (some ((p:Nat):Int))).length<=4:=Nat.le_trans Wc (by decide +kernel);have l2:(Txt.slice (Str.ofString "mm") (some ((p:Nat):Int)) none).length<=4:=Nat.le_trans Wc (by decide +kernel);have l3:∀c,(⟨#[c]⟩:Str).length=1:=fun c=>rfl
 exists⟨(by decide +kernel),?_⟩;walk_at"g";rw[show((k:Nat):Int)%25=((k%25:Nat):Int) by omega];refine⟨_,_,_,rfl,rfl,(by decide +kernel),j0r (by omega) hc,?_⟩;refine⟨_,_,rfl,rfl,by rw[l3];omega,?_⟩;walk_at"g";have hq:atI (Str.ofString "nopq").cps.toList (((k:Nat):Int)/25)=some (if k<25 then 110 else 111):=by
  by_cases c:k<25
  ·rw[if_pos c,show((k:Nat):Int)/25=0 by omega];decide +kernel
  ·rw[if_neg c,show((k:Nat):Int)/25=1 by omega];decide +kernel
 refine⟨_,_,(if k<25 then 110 else 111),rfl,rfl,(by decide +kernel),?_,?_⟩
 ·exact hq
 refine⟨_,_,rfl,rfl,by rw[Str.length_append,l3,l3];omega,?_⟩;exists⟨(by decide +kernel),?_⟩;refine⟨_,_,rfl,rfl,by rw[Str.length_append,Str.length_append,l3,l3];omega,?_⟩;exact q
theorem Kf(T:Txt K mg t):FnOk P w K mg base CX0 1 t.qZ t.Qe ["_law_number","_law_names","_law_movers","_law_kind"] (sp_namedB):=by
 refine T.QW.ok JJ (fun vs H Q E h=>?_) (fun cdv A outer s H vs Q E hr h=>?_)
 ·cases h;subst_vars;rfl
 obtain⟨n,nl,ml,mas,L,nm,Ms,kd,rfl,N,n1,n0,n2,hk,q⟩:=h;refine⟨_,(jb (jp (i:=4) JJ.nd rfl (.inl rfl) (jG jc))
  (jb (jp (i:=5) JJ.nd rfl (.inr rfl) (jG jc))
  (jb (Jp PassesOwn.never rfl (Qy (by rfl) T.Zd (ja (jA jW (by rfl) T.qe Ju (ja (pv 1) jc)) jc)) (jr (i:=6) JJ.nd rfl (.inl rfl))
   (jb (jp (i:=7) JJ.nd rfl (.inl rfl) (jo j5 (jo Qw (jo Qw (jA jW (by rfl) T.qe Ju (ja (pv 1) jc)) jd) (jo Qj (pv 6) (jo jO jd (jo j5 (pv 0) jd)))) (jA jW (by rfl) T.qe Ju (ja (pv 1) jc))))
   (jb (XD (i:=8) (ow:=["_law_one"]) (ci:=[5]) rfl (CompScope.of (defScope Q4) ["_law_number","_law_names","_law_movers","_law_kind","_law_some","_law_used","_law_j","_law_at","_law_twice"] rfl rfl (by decide +kernel)) (Q2 (by decide)) JJ.nd rfl (.inl rfl) (Je (ji jq (pv 2) (pv 7))) (fun _ _ _ _ _=>⟨(jr (i:=0) (JP ["_law_number","_law_names","_law_movers","_law_kind","_law_some","_law_used","_law_j","_law_at","_law_twice"] rfl (by decide +kernel)) rfl (.inl rfl)),(xF (jk (yf (K:=K) rfl) (pv 0) (pv 1) (by with_unfolding_all rfl))),(pv 0)⟩))
   (jb (qF (PW.pt (Qk (jk Jn (pv 3) jD (nomark _)) (qD (jk zx (pv 6) (jo jO jd (jo j5 (jo Jf (pv 0) jd) jd)) (nomark _)))))
    (jf (jU (JK PySem.F.plainAttrs_list PySem.F.slot_list_append PySem.F.type_list_append jH (pv 4) (ja (ji jq (pv 1) (pv 7)) jc))))
    jt)
   (jf (jT (PW.pt (Qk (jk Jn (pv 3) jD (nomark _)) (Qk (jk (xD hr.units) (ji jq (pv 2) (pv 7)) (jG jc) (nomark _)) (Qk (jk (wz hr.units) (pv 8) (jG jc) (nomark _)) (qD (jk zx (jA jW (by rfl) T.qe Ju (ja (pv 4) jc)) jd (nomark _)))))))
    (jb (jU (JK PySem.F.plainAttrs_list PySem.F.slot_list_append PySem.F.type_list_append jH (pv 4) (ja (ji jq (pv 1) (pv 7)) jc)))
    (jf (jp (i:=5) JJ.nd rfl (.inr rfl) (jo Yx (pv 5) (ji jq (pv 2) (pv 7))))))
    jt))))))
  (jf (jv (Qx QE (by rfl) T.Y0 yB (ja (pv 4) jc))))))),?_⟩
 refine jz (σ':=[some _,some _,some _,some _,none,none,none,none,none]) rfl ?_;have sz:(200:Nat)<sizeLine:=by decide
 have n20:=N.n20;have m8:∀j,(Ms.getD j []).length<=8:=fun j=>by
  by_cases h:j<nm.length
  ·exact(N.mv h).choose_spec.2.2.1
  ·rw[getD_eq_getElem?_getD,List.getElem?_eq_none (by have:=N.ml;omega)];exact Nat.zero_le _
 exists⟨Nat.zero_le _,?_⟩;walk_at"f ps hps H1 s1 t1";exists⟨Nat.zero_le _,?_⟩;walk_at"f pu hpu H2 s2 t2";have s02:=s1.trans s2;have nps:∀{c u},H c=some u->c≠ps:=fun h=>je h hps
 have pus:pu≠ps:=(je t1 hpu).symm;exists⟨_,_,rfl,.inl ⟨_,SqL.of (s02 _ _ N.en),rfl⟩,?_⟩;rw[length_map];exists⟨_,rfl,by omega,by omega,?_⟩;refine za (fun t σ H'=>∃(o6 o7 o8:Option V) (pu':Addr),σ=[some (.int n),some (.ref nl),some (.ref ml),some (.str kd),some (.ref ps),some (.ref pu'),o6,o7,o8]/\pu'≠ps/\(∀c u,H c=some u->H' c=some u)/\H' ps=some (.lst (((nmS n nm.length Ms (decide (kd = "row")) t).1.map fun j=>nm.getD j ⟨#[]⟩).map V.str))/\H' pu'=some (.lst ((nmS n nm.length Ms (decide (kd = "row")) t).2.map V.str))) ⟨_,_,_,pu,rfl,pus,s02,s2 _ _ t1,t2⟩ ?_ ?_
 ·rintro t σ H3 ht ⟨o6,o7,o8,pu',rfl,npu,sm,eP,eU⟩;have m0:=Int.emod_nonneg n (show(3:Int)≠0 by decide);have m1:=Int.emod_lt_of_pos n (show(0:Int)<3 by decide);exists⟨_,_,rfl,.inl ⟨_,SqL.of (sm _ _ N.en),rfl⟩,?_⟩;rw[length_map];exists⟨_,_,rfl,.inl ⟨_,SqL.of (sm _ _ N.en),rfl⟩,?_⟩;rw[length_map];walk_at"g";have eat:((nm.length:Int)-1-(0+(t:Int))*(1+n%3))%(nm.length:Int)=((atB n nm.length t:Nat):Int):=by
   unfold atB;have a:=Int.emod_nonneg ((nm.length:Int)-1-(t:Int)*(1+n%3)) (show(nm.length:Int)≠0 by omega);rw[Int.zero_add];omega
  rw[eat];have al:=W1 (n:=n) (t:=t) n1;have stp:=j18 (n:=n) (len:=nm.length) (Ms:=Ms) (ro:=decide (kd = "row")) t;have us:=j19 (n:=n) (len:=nm.length) (ro:=decide (kd = "row")) m8 t;have sl:=Y5 (n:=n) (len:=nm.length) (Ms:=Ms) (ro:=decide (kd = "row")) t;generalize nmS n nm.length Ms (decide (kd = "row")) t=S at eP eU stp us sl;generalize atB n nm.length t=j at al stp|-;clear eat;obtain⟨ma,hma,ema,ml8,mw⟩:=N.mv al;have aM:atI (mas.map V.ref) ((j:Nat):Int)=some (.ref ma):=jY (by rw[List.getElem?_map,hma];rfl);refine ixLm (SqL.of (sm _ _ N.em)) (aM) ?_;refine⟨ma,rfl,⟨_,SqL.of (sm _ _ ema)⟩,?_⟩;refine qm (xs:=(Ms.getD j []).map V.str) (fun i ys H'=>ys=(((Ms.getD j []).take i).filter fun s=>decide (s∈S.2)).map V.str/\H3=H') ⟨rfl,rfl⟩ ?_ ?_ ?_
  ·rintro i ys H' _ ⟨rfl,rfl⟩;exact SqL.of (sm _ _ ema)
  ·rintro i x ys H' hx ⟨rfl,rfl⟩;rw[List.getElem?_map]at hx;obtain⟨k,hk',rfl⟩:=Option.map_eq_some_iff.mp hx;have ik:=(List.getElem?_eq_some_iff.mp hk').1;refine Ql (σ':=[none,some _]) rfl ?_;exists⟨pu',_,rfl,.inl (SqL.of eU),rfl,flatB _,?_⟩;rw[inB];walk_at"g";rw[take_snoc hk',filter_append];have lf:(((Ms.getD j []).take i).filter fun s=>decide (s∈S.2)).length<=8:=Nat.le_trans (length_filter_le _ _) (by rw[length_take];omega);refine iteD (fun c=>?_) (fun c=>?_)
   ·exists⟨by rw[length_map];omega,?_,rfl⟩;rw[map_append,filter_cons,if_pos (decide_eq_true c),filter_nil];rfl
   ·refine⟨?_,rfl⟩;rw[filter_cons,if_neg (by rw[decide_eq_false c];exact Bool.false_ne_true),filter_nil,append_nil]
  rintro ys H' ⟨rfl,rfl⟩;rw[show((Ms.getD j []).map V.str).length=(Ms.getD j []).length from length_map _,take_length];have lf:((Ms.getD j []).filter fun s=>decide (s∈S.2)).length<=8:=Nat.le_trans (length_filter_le _ _) ml8;have wf:∀x∈(Ms.getD j []).filter (fun s=>decide (s∈S.2)),Ws.isW x=true:=fun x hx=>mw x (mem_filter.mp hx).1
  refine⟨by rw[length_map];omega,?_⟩;walk_at"f 5 t";have k5:Same H H5:=fun c u h=>s5 _ _ (sm _ _ h)
  have eP5:=s5 _ _ eP;have eU5:=s5 _ _ eU;have n5:p5≠ps:=(je eP hp5).symm;exists⟨fun σ' H'=>∃I1:List Nat,σ'=[some (.int n),some (.ref nl),some (.ref ml),some (.str kd),some (.ref ps),some (.ref pu'),some (.int (0+(t:Int))),some (.int (j:Nat)),some (.ref p5)]/\(∀c u,c≠ps->H5 c=some u->H' c=some u)/\H' ps=some (.lst ((I1.map fun j=>nm.getD j ⟨#[]⟩).map V.str))/\(kd = "row"->I1=(nmS n nm.length Ms (decide (kd = "row")) (t+1)).1/\(nmS n nm.length Ms (decide (kd = "row")) (t+1)).2=S.2)/\(kd≠"row"->I1=S.1),?_,?_⟩
  rotate_left
  ·exists iteD (fun c=>?_) (fun c=>?_)
   ·rw[if_pos (decide_eq_true c)]at stp;exists iteD (fun c2=>?_) (fun c2=>?_)
    ·rw[if_pos (by omega)]at stp;exists⟨.inl ⟨rfl,_,SqL.of eP5⟩,?_⟩;exists ixLm (SqL.of (k5 _ _ N.en)) (zq al) ?_;exists⟨ps,_,_,rfl,rfl,eP5,by rw[length_map,length_map];omega,?_⟩;refine⟨S.1++[j],rfl,fun c u hc h=>(jg hc).trans h,?_,fun _=>by rw[stp];exact⟨rfl,rfl⟩,fun h=>absurd c h⟩;rw[jx,map_append,map_append];rfl
    ·rw[if_neg (by omega)]at stp;walk_at"g";exact⟨S.1,rfl,fun c u _ h=>h,eP5,fun _=>by rw[stp];exact⟨rfl,rfl⟩,fun h=>absurd c h⟩
   ·walk_at"g";exact⟨S.1,rfl,fun c u _ h=>h,eP5,fun h=>absurd h c,fun _=>rfl⟩
  rintro σ' H6 ⟨I1,rfl,k6,e6,hrow,hside⟩;have k06:Same H H6:=fun c u h=>k6 _ _ (nps h) (k5 _ _ h)
  exists iteD (fun c=>?_) (fun c=>?_)
  ·have nr:kd≠"row":=fun z=>by rw[z]at c;exact absurd c (by decide +kernel)
   obtain rfl:=hside nr;rw[if_neg (by rw[decide_eq_false nr];exact Bool.false_ne_true)]at stp;exists ixLm (SqL.of (k06 _ _ N.em)) (aM) ?_;exists⟨Nat.zero_le _,?_⟩;walk_at"f 7 t";refine⟨_,_,.lst (s7 _ _ (k06 _ _ ema)) (Q1 _),X0 t7,shpB mw,shp0,?_⟩;rw[eqvB];exists iteN (fun d1=>?_) (fun d1=>?_)
   ·exists⟨Nat.zero_le _,?_⟩;walk_at"f 8 t";have s68:=s7.trans s8;refine⟨_,_,.lst (s68 _ _ (k6 _ _ n5 t5)) (Q1 _),X0 t8,shpB wf,shp0,?_⟩;rw[eqvB];exists iteD (fun d2=>?_) (fun d2=>?_)
    ·exists⟨_,_,rfl,.inl ⟨_,SqL.of (s68 _ _ e6),rfl⟩,?_⟩;rw[length_map,length_map];exists iteD (fun d3=>?_) (fun d3=>?_)
     ·rw[if_pos ⟨d1,d2,by omega⟩]at stp;exists⟨.inl ⟨rfl,_,SqL.of (s68 _ _ e6)⟩,?_⟩;exists ixLm (SqL.of (s68 _ _ (k06 _ _ N.en))) (zq al) ?_;exists⟨ps,_,_,rfl,rfl,s68 _ _ e6,by rw[length_map,length_map];omega,?_⟩;generalize eG:upd H8 ps _=H9;have e9:H9 ps=some (.lst (((S.1++[j]).map fun j=>nm.getD j ⟨#[]⟩).map V.str)):=by
       rw[map_append,map_append];exact qd eG
      have k9:∀c u,c≠ps->H6 c=some u->H9 c=some u:=fun c u hc h=>eG▸(jg hc).trans (s68 c u h)
      clear eG;exists ixLm (SqL.of (k9 _ _ (nps N.em) (k06 _ _ N.em))) (aM) ?_;refine⟨pu',ma,_,_,rfl,rfl,k9 _ _ npu (k6 _ _ npu eU5),k9 _ _ (nps ema) (k06 _ _ ema),by rw[length_map,length_map];omega,?_⟩;walk_at"f 10 t";exists⟨_,_,_,p10,rfl,(je e9 hp10).symm,fun c u h=>s10 _ _ (k9 _ _ (nps h) (k06 _ _ h)),by rw[stp];exact s10 _ _ e9,by rw[stp,map_append];exact t10⟩
     ·rw[if_neg (fun z=>d3 (by omega))]at stp;walk_at"g";exact⟨_,_,_,pu',rfl,npu,fun c u h=>s68 _ _ (k06 _ _ h),by rw[stp];exact s68 _ _ e6,by rw[stp];exact s68 _ _ (k6 _ _ npu eU5)⟩
    ·rw[if_neg (fun z=>d2 z.2.1)]at stp;walk_at"g";exact⟨_,_,_,pu',rfl,npu,fun c u h=>s68 _ _ (k06 _ _ h),by rw[stp];exact s68 _ _ e6,by rw[stp];exact s68 _ _ (k6 _ _ npu eU5)⟩
   ·rw[if_neg (fun z=>z.1 d1)]at stp;walk_at"g";exact⟨_,_,_,pu',rfl,npu,fun c u h=>s7 _ _ (k06 _ _ h),by rw[stp];exact s7 _ _ e6,by rw[stp];exact s7 _ _ (k6 _ _ npu eU5)⟩
  ·have cr:kd = "row":=hk.resolve_right c;obtain⟨r1,r2⟩:=hrow cr;walk_at"g";exact⟨_,_,_,pu',rfl,npu,k06,by rw[<-r1];exact e6,by rw[r2];exact k6 _ _ npu eU5⟩
 ·rintro σ H' ⟨o6,o7,o8,pu',rfl,npu,sm,eP,eU⟩;exists⟨ps,_,rfl,.inl ⟨SqL.of eP,?_⟩⟩;walk_at"f b hb H3 s3 t3";exact q b H3 (fun c u h=>s3 _ _ (sm _ _ h)) t3
theorem wg(T:Txt K mg t)(qX:FnOk P w K mg base CX0 1 t.qZ t.Qe ["_law_number","_law_names","_law_movers","_law_kind"] (sp_namedB)):FnOk P w K mg base CX0 2 t.QK t.QP ["_law_number","_law_names","_law_movers","_law_limbs","_law_bounds"] (sp_formB):=by
 refine T.YI.ok qt (fun vs H Q E h=>?_) (fun cdv A outer s H vs Q E hr h=>?_)
 ·cases h;subst_vars;rfl
 obtain⟨n,nl,ml,pl,bd,mas,las,ls,nm,Ms,b0,b1,b2,b3,b4,rfl,N,Lm,Bd,n0,n2,q⟩:=h;refine⟨_,(jb (jp (i:=5) qt.nd rfl (.inl rfl) (jo j5 (pv 0) jd))
  (jb (jp (i:=6) qt.nd rfl (.inl rfl) (jo Jf (pv 0) jd))
  (jb (jp (i:=7) qt.nd rfl (.inl rfl) (jo jO jd (jo j5 (jo Jf (pv 0) (jo Qv jd jd)) (ji jq (pv 4) (jo j5 (jo Jf (pv 0) jd) jd)))))
  (jb (qF (PW.pt (Qk (jk (wz hr.units) (pv 1) (jG jc) (nomark _)) (qD (jk zP (pv 5) jd (nomark _)))))
   (jf (jp (i:=5) qt.nd rfl (.inl rfl) (jo j5 (jo Jf (pv 0) jd) jd)))
   jt)
  (jb (jT (jk zx (pv 5) jd (nomark _))
   (jf (jv (jR (ja jD (ja (ji jw (ji jq (pv 3) (jo j5 (pv 6) (jA jW (by rfl) T.qe Ju (ja (pv 3) jc)))) jd) (ja (jo j5 (jo Jf (pv 6) jd) (ji jq (pv 4) jd)) (ja (pv 7) jc)))))))
   jt)
  (jb (jT (jk Jn (pv 5) jd (nomark _))
   (jf (jv (jR (ja jD (ja (ji jq (jo Yx (jo Yx (jG (ja jD (ja jD jc))) (zQ XI (pv 1) Z1 (Zl jd))) (jG (ja jD jc))) (jo j5 (pv 6) jd)) (ja (pv 7) jc))))))
   jt)
  (jb (jT (jk Jn (pv 5) jd (nomark _))
   (jf (jv (jR (ja jD (ja (jh (qX.mono (by decide)) hr (by rfl) T.Zf T.QW.kp T.zU .nil pass0 (ja (pv 6) (ja (pv 1) (ja (pv 2) (ja jD jc))))) jc)))))
   jt)
  (jb (jT (PW.pt (Qk (jk Jn (pv 5) jd (nomark _)) (qD (jk zP (jA jW (by rfl) T.qe Ju (ja (jh (qX.mono (by decide)) hr (by rfl) T.Zf T.QW.kp T.zU .nil pass0 (ja (pv 6) (ja (pv 1) (ja (pv 2) (ja jD jc))))) jc)) jd (nomark _)))))
   (jf (jv (jR (ja jD (ja (jh (qX.mono (by decide)) hr (by rfl) T.Zf T.QW.kp T.zU .nil pass0 (ja (pv 6) (ja (pv 1) (ja (pv 2) (ja jD jc))))) jc)))))
   jt)
  (jb (jT (jk Jn (pv 5) jd (nomark _))
   (jb (jp (i:=8) qt.nd rfl (.inl rfl) (jo Qw (jo Qw (jA jW (by rfl) T.qe Ju (ja (pv 1) jc)) jd) (jo j5 (pv 6) (jA (Yj rfl) (by rfl) T.j0v W5 (ja jd (ja (jA jW (by rfl) T.qe Ju (ja (pv 1) jc)) jc))))))
   (jf (jv (jR (ja jD (ja (jo jO jd (jo j5 (jo Jf (pv 0) (jo Qv jd jd)) (ji jq (pv 4) jd))) (ja (ji jq (pv 1) (pv 8)) jc)))))))
   jt)
  (jf (jv (jR (ja jD (ja (pv 7) jc)))))))))))))),?_⟩
 refine jz (σ':=[some _,some _,some _,some _,some _,none,none,none,none]) rfl ?_;have sz:(200:Nat)<sizeLine:=by decide
 have n20:=N.n20;have l1:=Lm.l1;have lal:=Lm.la.1;obtain⟨eb,b01,b02,b11,b12,b21,b22,b31,b32,b41,b42⟩:=Bd;have k0:=Int.emod_nonneg n (show(8:Int)≠0 by decide);have k1:=Int.emod_lt_of_pos n (show(0:Int)<8 by decide);have i0:=Int.emod_nonneg (n/8) (show(2:Int)≠0 by decide);have i1:=Int.emod_lt_of_pos (n/8) (show(0:Int)<2 by decide);obtain⟨bx,ebx,bx1,bx2⟩:=at01 (b2:=b2) (b3:=b3) (b4:=b4) ⟨b01,b02⟩ ⟨b11,b12⟩ i0 i1;have m0:0<=n/100:=by omega
 have m1:n/100<=10^40:=by omega
 have v0:=Int.emod_nonneg (n/10^12) (show bx≠0 by omega);have v1:=Int.emod_lt_of_pos (n/10^12) (show 0<bx by omega);exists j1p ?_;exists ixLm (SqL.of eb) (ebx) ?_;exists⟨fun σ' H'=>∃kk:Int,σ'=[some (.int n),some (.ref nl),some (.ref ml),some (.ref pl),some (.ref bd),some (.int kk),some (.int (n/100)),some (.int (1+n/10^12%bx)),none]/\Same H H'/\0<=kk/\kk<8/\(4<kk->1<=nm.length),?_,?_⟩
 rotate_left
 ·exists⟨Nat.zero_le _,?_⟩;walk_at"f e3 he3 H3 s3 t3";refine⟨_,_,.lst (s3 _ _ N.en) (Q1 _),X0 t3,shpB N.w,shp0,?_⟩;rw[eqvB];exists iteD (fun c=>?_) (fun c=>?_)
  ·exists iteD (fun c2=>?_) (fun c2=>?_)
   ·walk_at"g";have w0:=Int.emod_nonneg (n/16) (show(5:Int)≠0 by decide);have w1:=Int.emod_lt_of_pos (n/16) (show(0:Int)<5 by decide);exact⟨_,rfl,s3,w0,by omega,fun h=>absurd h (by omega)⟩
   ·walk_at"g";exact⟨_,rfl,s3,k0,k1,fun h=>absurd h c2⟩
  ·walk_at"g";exact⟨_,rfl,s3,k0,k1,fun _=>length_pos_iff.mpr c⟩
 rintro σ' H1 ⟨kk,rfl,s1,kk0,kk1,kn⟩;have N1:=N.same s1;have Lm1:=Lm.same s1;have eb1:=s1 _ _ eb;exists iteD (fun c=>?_) (fun c=>?_)
 ·exists⟨_,_,rfl,.inl ⟨_,SqL.of Lm1.el,rfl⟩,?_⟩;rw[length_map,lal];walk_at"g";have w0:=Int.emod_nonneg (n/100) (show(ls.length:Int)≠0 by omega);have w1:=Int.emod_lt_of_pos (n/100) (show(0:Int)<(ls.length:Int) by omega);generalize n/100%(ls.length:Int)=r at w0 w1|-;obtain⟨j,rfl⟩:∃j:Nat,r=(j:Int):=⟨r.toNat,by omega⟩
  have jl:j<ls.length:=by omega
  obtain⟨lk,hlk,elk⟩:=Lm1.la.get (List.getElem?_eq_getElem jl);refine ixLm (SqL.of Lm1.el) (jY (j:=j) (by rw[List.getElem?_map,hlk];rfl)) ?_;exists ixTm (SqT.of elk) rfl ?_;exists ixLm (SqL.of eb1) rfl ?_;walk_at"g";have h0:=Int.emod_nonneg (n/100/10) (show b2≠0 by omega);have h1:=Int.emod_lt_of_pos (n/100/10) (show 0<b2 by omega);refine⟨(by show 4<=sizeLine;omega),?_⟩;walk_at"f b6 hb6 H6 s6 t6";refine q b6 (.rise ls[j].1 (n/100/10%b2) (1+n/10^12%bx)) H6 (s1.trans s6) t6 ⟨⟨j,?_⟩,h0,by omega,by omega,by omega⟩;unfold nmsOf;rw[List.getElem?_map,List.getElem?_eq_getElem jl];rfl
 exists iteD (fun c4=>?_) (fun c4=>?_)
 ·exists⟨(by show 2<=sizeLine;omega),?_⟩;walk_at"f b3 hb3 H3 s3 t3";exists⟨nl,_,rfl,SqL.of (s3 _ _ N1.en),?_⟩;walk_at"f b4 hb4 H4 s4 t4";have cl:=zr (nm.map V.str) none (some 1);rw[length_map]at cl;refine⟨b3,b4,_,_,rfl,rfl,s4 _ _ t3,t4,by show 2+_<=sizeLine;omega,?_⟩;walk_at"f b5 hb5 H5 s5 t5";exists⟨(by show 1<=sizeLine;omega),?_⟩;walk_at"f b6 hb6 H6 s6 t6";refine⟨b5,b6,_,_,rfl,rfl,s6 _ _ t5,t6,by rw[List.length_append];show 2+_+1<=sizeLine;omega,?_⟩;walk_at"f b7 hb7 H7 s7 t7";walk_at"g";have w0:=Int.emod_nonneg (n/100) (show(3:Int)≠0 by decide);have w1:=Int.emod_lt_of_pos (n/100) (show(0:Int)<3 by decide);have hw0:∀v∈[V.str "ding",V.str "dong"]++cutV (nm.map V.str) none (some 1)++[V.str "din"],∃w:Str,v = .str w/\Ws.isW w=true:=fun v hv=>by
   rcases mem_append.mp hv with z | z
   ·rcases mem_append.mp z with z | z
    ·rcases mem_cons.mp z with rfl | z
     ·exact⟨_,rfl,by decide +kernel⟩
     ·rw[mem_singleton.mp z];exact⟨_,rfl,by decide +kernel⟩
    ·obtain⟨w',hw',rfl⟩:=mem_map.mp (Xg z);exact⟨w',rfl,N.w w' hw'⟩
   ·rw[mem_singleton.mp z];exact⟨_,rfl,by decide +kernel⟩
  obtain⟨w',hw',ww⟩:=ke (k:=n/100%3) hw0 w0 (by rw[List.length_append,List.length_append];show _<(((2+_+1:Nat)):Int);omega);refine ixLm (SqL.of t7) (hw') ?_;exists⟨(by show 3<=sizeLine;omega),?_⟩;walk_at"f b8 hb8 H8 s8 t8";exact q b8 (.ring w' (1+n/10^12%bx)) H8 (s1.trans (s3.trans (s4.trans (s5.trans (s6.trans (s7.trans s8)))))) t8 ⟨by omega,by omega,ww⟩
 exists iteD (fun c5=>?_) (fun c5=>?_)
 ·have nm1:=kn (by omega);exists⟨_,nl,ml,mas,_,nm,Ms,"row",rfl,N1,nm1,m0,m1,.inl rfl,fun b2 H2 s2 e2=>?_⟩;exists⟨(by show 2<=sizeLine;omega),?_⟩;walk_at"f b6 hb6 H6 s6 t6";have ln:=Y5 (n:=n/100) (len:=nm.length) (Ms:=Ms) (ro:=decide (("row" : Str) = "row")) nm.length;refine q b6 (.row (nmS (n/100) nm.length Ms (decide (("row" : Str) = "row")) nm.length).1) H6 (s1.trans (s2.trans s6)) ⟨b2,t6,s6 _ _ e2⟩ ⟨j17 (by decide +kernel) _ nm1,by omega,xA nm1 _⟩
 exists iteD (fun c6=>?_) (fun c6=>?_)
 ·have nm1:=kn (by omega);exists⟨_,nl,ml,mas,_,nm,Ms,"side",rfl,N1,nm1,m0,m1,.inr rfl,fun b2 H2 s2 e2=>?_⟩;have ln:=Y5 (n:=n/100) (len:=nm.length) (Ms:=Ms) (ro:=decide (("side" : Str) = "row")) nm.length;refine⟨_,_,rfl,.inr ⟨_,SqT.of e2,rfl⟩,?_⟩;rw[length_map,length_map];exists iteD (fun c7=>?_) (fun c7=>?_)
  ·exists⟨_,nl,ml,mas,_,nm,Ms,"side",rfl,N1.same s2,nm1,m0,m1,.inr rfl,fun b3 H3 s3 e3=>?_⟩;exists⟨(by show 2<=sizeLine;omega),?_⟩;walk_at"f b6 hb6 H6 s6 t6";refine q b6 (.side (nmS (n/100) nm.length Ms (decide (("side" : Str) = "row")) nm.length).1) H6 (s1.trans (s2.trans (s3.trans s6))) ⟨b3,t6,s6 _ _ e3⟩ ⟨by omega,by omega,xA nm1 _,(j16 (by decide +kernel) _).1.n N.il⟩
  ·exists iteD (fun c8=>?_) (fun c8=>?_)
   ·exact absurd c8 (by omega)
   exists⟨(by show 2<=sizeLine;omega),?_⟩;walk_at"f b6 hb6 H6 s6 t6";exact q b6 (.hold (1+n/10^12%bx)) H6 (s1.trans (s2.trans s6)) t6 ⟨by omega,by omega⟩
 refine iteF ?_;exists iteD (fun c8=>?_) (fun c8=>?_)
 ·have nm1:=kn (by omega);exists⟨_,_,rfl,.inl ⟨_,SqL.of N1.en,rfl⟩,?_⟩;rw[length_map];exists⟨_,_,rfl,.inl ⟨_,SqL.of N1.en,rfl⟩,?_⟩;rw[length_map];refine⟨_,_,rfl,?_⟩;dsimp only;walk_at"g";obtain⟨j,ej,jl⟩:∃j:Nat,(nm.length:Int)-1-n/100%(if(nm.length:Int)<3 then(nm.length:Int)else 3)=(j:Int)/\j<nm.length:=by
   have a:=Int.emod_nonneg (n/100) (show(if(nm.length:Int)<3 then(nm.length:Int)else 3)≠0 by split<;>omega);have b:=Int.emod_lt_of_pos (n/100) (show 0<(if(nm.length:Int)<3 then(nm.length:Int)else 3) by split<;>omega);generalize n/100%(if(nm.length:Int)<3 then(nm.length:Int)else 3)=z at a b|-;refine⟨((nm.length:Int)-1-z).toNat,?_,?_⟩
   ·split at b<;>omega
   ·split at b<;>omega
  rw[ej];refine j1p ?_;exists ixLm (SqL.of eb1) rfl ?_;walk_at"g";have h0:=Int.emod_nonneg (n/10^12) (show b3≠0 by omega);have h1:=Int.emod_lt_of_pos (n/10^12) (show 0<b3 by omega);refine ixLm (SqL.of N1.en) (zq jl) ?_;exists⟨(by show 3<=sizeLine;omega),?_⟩;walk_at"f b6 hb6 H6 s6 t6";exact q b6 (.again (1+n/10^12%b3) j) H6 (s1.trans s6) t6 ⟨by omega,by omega,jl⟩
 exists⟨(by show 2<=sizeLine;omega),?_⟩;walk_at"f b6 hb6 H6 s6 t6";exact q b6 (.hold (1+n/10^12%bx)) H6 (s1.trans s6) t6 ⟨by omega,by omega⟩
theorem wk(T:Txt K mg t):FnOk P w K mg base CX0 1 t.qM t.qQ ["_law_form_here","_law_known"] (sp_longB):=by
 refine T.QH.ok wJ (fun vs H Q E h=>?_) (fun cdv A outer s H vs Q E hr h=>?_)
 ·cases h;subst_vars;rfl
 obtain⟨fa,d,f,nm,gs,L,M,rfl,hF,ed,nd,ng,pre,gb,q⟩:=h;refine⟨_,(jb (jT (jk Jn (ji jw (pv 0) jd) jD (nomark _))
   (jf (jv (jA (Yk rfl) (by rfl) T.j0x W6 (ja (qC (ow:=["_law_name"]) (ci:=[1]) rfl (CompScope.of (defScope QU) ["_law_form_here","_law_known"] rfl rfl (by decide +kernel)) (Q2 (by decide)) (xG (ji jw (pv 0) jd)) (fun _ _ _ _ _=>⟨(jr (i:=0) (JP ["_law_form_here","_law_known"] rfl (by decide +kernel)) rfl (.inl rfl)),zl,(Q3 (zN hr) (pv 1) (pv 0))⟩)) jc))))
   jt)
  (jb (jT (jk Jn (ji jw (pv 0) jd) jD (nomark _))
   (jf (jv (jA (Kw rfl) (by rfl) T.j0u W4 (ja (qC (ow:=["_law_name"]) (ci:=[1]) rfl (CompScope.of (defScope QU) ["_law_form_here","_law_known"] rfl rfl (by decide +kernel)) (Q2 (by decide)) (xG (ji jw (pv 0) jd)) (fun _ _ _ _ _=>⟨(jr (i:=0) (JP ["_law_form_here","_law_known"] rfl (by decide +kernel)) rfl (.inl rfl)),zl,(Q3 (zN hr) (pv 1) (pv 0))⟩)) jc))))
   jt)
  (jb (jT (jk Jn (ji jw (pv 0) jd) jD (nomark _))
   (jf (jv (jo Qj (ji jw (pv 0) jd) (Q3 (zN hr) (pv 1) (ji jw (pv 0) jd)))))
   jt)
  (jf (jv (ji jw (pv 0) (jo Qw (jA jW (by rfl) T.qe Ju (ja (pv 0) jc)) jd))))))),?_⟩
 refine jz (σ':=[some _,some _]) rfl ?_;have sz:(200:Nat)<sizeLine:=by decide
 have get:∀j,j<nm.length->DGet H d (.str (nm.getD j ⟨#[]⟩)) (some (.int (gs.getD j 0))):=fun j hj=>by
  have g:=DGet.k (k:=Sum.inr (nm.getD j ⟨#[]⟩)) ed;rw[Y4 nd ng hj]at g;exact g
 obtain⟨j8,jlt⟩:=pre.js;cases f with
 | hold n=>
  have ha:H fa=some (.tup _):=hF;exists ixTm (SqT.of ha) rfl ?_;exists iteE0 ?_;exists ixTm (SqT.of ha) rfl ?_;exists iteE0 ?_;exists ixTm (SqT.of ha) rfl ?_;exists iteE0 ?_;exists⟨_,_,rfl,.inr ⟨_,SqT.of ha,rfl⟩,?_⟩;exists ixTm (SqT.of ha) rfl ?_;exact q _ H (Same.refl _) rfl
 | ring x n=>
  have ha:H fa=some (.tup _):=hF;exists ixTm (SqT.of ha) rfl ?_;exists iteE0 ?_;exists ixTm (SqT.of ha) rfl ?_;exists iteE0 ?_;exists ixTm (SqT.of ha) rfl ?_;exists iteE0 ?_;exists⟨_,_,rfl,.inr ⟨_,SqT.of ha,rfl⟩,?_⟩;exists ixTm (SqT.of ha) rfl ?_;exact q _ H (Same.refl _) rfl
 | rise x h n=>
  have ha:H fa=some (.tup _):=hF;exists ixTm (SqT.of ha) rfl ?_;exists iteE0 ?_;exists ixTm (SqT.of ha) rfl ?_;exists iteE0 ?_;exists ixTm (SqT.of ha) rfl ?_;exists iteE0 ?_;exists⟨_,_,rfl,.inr ⟨_,SqT.of ha,rfl⟩,?_⟩;exists ixTm (SqT.of ha) rfl ?_;exact q _ H (Same.refl _) rfl
 | row is=>
  obtain⟨b,ha,hb⟩:=hF;have j8:is.length<=8:=j8;have jlt:∀j∈is,j<nm.length:=jlt;exists ixTm (SqT.of ha) rfl ?_;exists iteE1 ?_;exists ixTm (SqT.of ha) rfl ?_;refine⟨b,rfl,⟨_,SqT.of hb⟩,?_⟩;refine kj (xs:=(is.map fun j=>nm.getD j ⟨#[]⟩).map V.str) (fun t ys H'=>ys=((is.take t).map fun j=>gs.getD j 0).map V.int/\H=H') ⟨rfl,rfl⟩ ?_ ?_ ?_
  ·rintro t ys H' _ ⟨rfl,rfl⟩;exact SqT.of hb
  ·rintro t v ys H' hv ⟨rfl,rfl⟩;rw[List.getElem?_map,List.getElem?_map]at hv;obtain⟨x,hx,rfl⟩:=Option.map_eq_some_iff.mp hv;obtain⟨j,hj,rfl⟩:=Option.map_eq_some_iff.mp hx;have ht:=(List.getElem?_eq_some_iff.mp hj).1;refine Ql (σ':=[none,some (.ref d)]) rfl ?_;exists iteT ?_;exists⟨d,_,rfl,get j (jlt j (List.mem_of_getElem? hj)),?_⟩;refine⟨by rw[length_map,length_map,length_take];omega,?_,rfl⟩;rw[take_snoc hj,map_append,map_append];rfl
  rintro ys H' ⟨rfl,rfl⟩;rw[show((is.map fun j=>nm.getD j ⟨#[]⟩).map V.str).length=is.length by rw[length_map,length_map],take_length];refine⟨by rw[length_map,length_map];omega,?_⟩;walk_at"f 1 t";exists⟨p1,_,rfl,SqL.of t1,?_⟩;exact q _ H1 s1 rfl
 | side is=>
  obtain⟨b,ha,hb⟩:=hF;have j8:is.length<=8:=j8;have jlt:∀j∈is,j<nm.length:=jlt;have i2:=pre.1;exists ixTm (SqT.of ha) rfl ?_;exists iteE0 ?_;exists ixTm (SqT.of ha) rfl ?_;exists iteE1 ?_;exists ixTm (SqT.of ha) rfl ?_;refine⟨b,rfl,⟨_,SqT.of hb⟩,?_⟩;refine kj (xs:=(is.map fun j=>nm.getD j ⟨#[]⟩).map V.str) (fun t ys H'=>ys=((is.take t).map fun j=>gs.getD j 0).map V.int/\H=H') ⟨rfl,rfl⟩ ?_ ?_ ?_
  ·rintro t ys H' _ ⟨rfl,rfl⟩;exact SqT.of hb
  ·rintro t v ys H' hv ⟨rfl,rfl⟩;rw[List.getElem?_map,List.getElem?_map]at hv;obtain⟨x,hx,rfl⟩:=Option.map_eq_some_iff.mp hv;obtain⟨j,hj,rfl⟩:=Option.map_eq_some_iff.mp hx;have ht:=(List.getElem?_eq_some_iff.mp hj).1;refine Ql (σ':=[none,some (.ref d)]) rfl ?_;exists iteT ?_;exists⟨d,_,rfl,get j (jlt j (List.mem_of_getElem? hj)),?_⟩;refine⟨by rw[length_map,length_map,length_take];omega,?_,rfl⟩;rw[take_snoc hj,map_append,map_append];rfl
  rintro ys H' ⟨rfl,rfl⟩;rw[show((is.map fun j=>nm.getD j ⟨#[]⟩).map V.str).length=is.length by rw[length_map,length_map],take_length];refine⟨by rw[length_map,length_map];omega,?_⟩;walk_at"f 1 t";exists⟨p1,_,rfl,SqL.of t1,by rw[length_map];omega,fun g h1 h2=>?_⟩;obtain⟨j,hj,e⟩:=mem_map.mp h1;exact q g H1 s1 ⟨⟨j,hj,e.symm⟩,fun j hj=>h2 _ (mem_map.mpr ⟨j,hj,rfl⟩)⟩
 | again k j=>
  have ha:H fa=some (.tup _):=hF;have jl:=jlt j mem_cons_self;have gj:=gb j jl;have k1:=pre.1;have k2:=pre.2.1;exists ixTm (SqT.of ha) rfl ?_;exists iteE0 ?_;exists ixTm (SqT.of ha) rfl ?_;exists iteE0 ?_;exists ixTm (SqT.of ha) rfl ?_;exists iteE1 ?_;exists ixTm (SqT.of ha) rfl ?_;exists ixTm (SqT.of ha) rfl ?_;exists⟨d,_,rfl,get j jl,?_⟩;walk_at"g";exact q _ H (Same.refl _) rfl
theorem Ke(T:Txt K mg t):FnOk P w K mg base CX0 1 t.qj t.qo ["_law_form_here","_law_names","_law_movers"] (sp_movesB):=by
 refine T.zX.ok JI (fun vs H Q E h=>?_) (fun cdv A outer s H vs Q E hr h=>?_)
 ·cases h;subst_vars;rfl
 obtain⟨fa,nl,ml,mas,f,nm,Ms,L,M,rfl,hF,en,em,aM,nd,ln,n20,pre,k4,q⟩:=h;refine⟨_,(jb (jT (jk Jn (ji jw (pv 0) jd) jD (nomark _))
   (jf (jv (jG (ja (ji jw (pv 0) jd) jc))))
   jt)
  (jb (jp (i:=3) JI.nd rfl (.inl rfl) (jG jc))
  (jb (qF (PW.pt (XE (jk Jn (ji jw (pv 0) jd) jD (nomark _)) (xM (jk Jn (ji jw (pv 0) jd) jD (nomark _)))))
   (jf (jp (i:=3) JI.nd rfl (.inl rfl) (Qx yC (by rfl) T.j0t Xe (ja (ji jw (pv 0) jd) jc))))
   jt)
  (jb (qF (jk Jn (ji jw (pv 0) jd) jD (nomark _))
   (jf (jp (i:=3) JI.nd rfl (.inl rfl) (jG (ja (ji jw (pv 0) jd) jc))))
   jt)
  (jb (jp (i:=4) JI.nd rfl (.inl rfl) (jG jc))
  (jb (Jp PassesOwn.never rfl (Je (pv 3)) (jr (i:=5) JI.nd rfl (.inl rfl))
   (jf (Jp PassesOwn.never rfl (Je (ji jq (pv 2) (JK PySem.F.plainAttrs_list PySem.F.slot_list_index PySem.F.type_list_index j07 (pv 1) (ja (pv 5) jc)))) (jr (i:=6) JI.nd rfl (.inl rfl))
    (jf (jT (jk yR (pv 6) (pv 4) (by with_unfolding_all rfl))
     (jf (jU (JK PySem.F.plainAttrs_list PySem.F.slot_list_append PySem.F.type_list_append jH (pv 4) (ja (pv 6) jc))))
     jt)))))
  (jf (jv (pv 4))))))))),?_⟩
 refine jz (σ':=[some _,some _,some _,none,none,none,none]) rfl ?_;have sz:(200:Nat)<sizeLine:=by decide
 cases f
 case rise x h n=>
  have ha:H fa=some (.tup _):=hF;exists ixTm (SqT.of ha) rfl ?_;exists iteE1 ?_;exists ixTm (SqT.of ha) rfl ?_;exists⟨(by show 1<=sizeLine;omega),?_⟩;walk_at"f 1 t";refine q p1 [x] H1 s1 hp1 t1 ⟨pairwise_singleton _ _,fun s=>?_⟩ (by show 1<=80;decide);rw[mem_singleton];constructor
  ·rintro rfl;exact .inr ⟨h,n,rfl⟩
  ·rintro(⟨j,hj,_⟩ | ⟨h',n',e⟩)
   ·exact nomatch hj
   ·injection e with e1;exact e1.symm
 case' hold n=>
  have ha:H fa=some (.tup _):=hF;exists ixTm (SqT.of ha) rfl ?_;exists iteE0 ?_;exists⟨Nat.zero_le _,?_⟩;walk_at"f 1 t";have ha1:=s1 _ _ ha;exists⟨fun σ' H'=>∃pi:Addr,σ'=[some (.ref fa),some (.ref nl),some (.ref ml),some (.ref pi),none,none,none]/\Same H H'/\H' pi=some (.lst (((rsB (Fn.hold n)).map fun j=>nm.getD j ⟨#[]⟩).map V.str)),?_,?_⟩
  rotate_left
  ·exists ixTm (SqT.of ha1) rfl ?_;exists iteE0 ?_;exists ixTm (SqT.of ha1) rfl ?_;exists iteE0 ?_;walk_at"g";exact⟨p1,rfl,s1,t1⟩
  rintro σ' H2 ⟨p2,rfl,s02,e2⟩;have ha2:=s02 _ _ ha;exists⟨fun σ' H'=>∃pi:Addr,σ'=[some (.ref fa),some (.ref nl),some (.ref ml),some (.ref pi),none,none,none]/\Same H H'/\H' pi=some (.lst (((Fn.hold n).js.map fun j=>nm.getD j ⟨#[]⟩).map V.str)),?_,?_⟩
  rotate_left
  ·exists ixTm (SqT.of ha2) rfl ?_;exists iteE0 ?_;walk_at"g";exact⟨p2,rfl,s02,e2⟩
  rintro σ' H3 ⟨pi,rfl,s03,ei⟩;have nr:∀u0 u1 u2,(Fn.hold n)≠.rise u0 u1 u2:=fun _ _ _ z=>by cases z
  clear hF;generalize(Fn.hold n)=f at ei nr pre q
 case' ring x n=>
  have ha:H fa=some (.tup _):=hF;exists ixTm (SqT.of ha) rfl ?_;exists iteE0 ?_;exists⟨Nat.zero_le _,?_⟩;walk_at"f 1 t";have ha1:=s1 _ _ ha;exists⟨fun σ' H'=>∃pi:Addr,σ'=[some (.ref fa),some (.ref nl),some (.ref ml),some (.ref pi),none,none,none]/\Same H H'/\H' pi=some (.lst (((rsB (Fn.ring x n)).map fun j=>nm.getD j ⟨#[]⟩).map V.str)),?_,?_⟩
  rotate_left
  ·exists ixTm (SqT.of ha1) rfl ?_;exists iteE0 ?_;exists ixTm (SqT.of ha1) rfl ?_;exists iteE0 ?_;walk_at"g";exact⟨p1,rfl,s1,t1⟩
  rintro σ' H2 ⟨p2,rfl,s02,e2⟩;have ha2:=s02 _ _ ha;exists⟨fun σ' H'=>∃pi:Addr,σ'=[some (.ref fa),some (.ref nl),some (.ref ml),some (.ref pi),none,none,none]/\Same H H'/\H' pi=some (.lst (((Fn.ring x n).js.map fun j=>nm.getD j ⟨#[]⟩).map V.str)),?_,?_⟩
  rotate_left
  ·exists ixTm (SqT.of ha2) rfl ?_;exists iteE0 ?_;walk_at"g";exact⟨p2,rfl,s02,e2⟩
  rintro σ' H3 ⟨pi,rfl,s03,ei⟩;have nr:∀u0 u1 u2,(Fn.ring x n)≠.rise u0 u1 u2:=fun _ _ _ z=>by cases z
  clear hF;generalize(Fn.ring x n)=f at ei nr pre q
 case' row is=>
  obtain⟨b,ha,hb⟩:=hF;exists ixTm (SqT.of ha) rfl ?_;exists iteE0 ?_;exists⟨Nat.zero_le _,?_⟩;walk_at"f 1 t";have ha1:=s1 _ _ ha;exists⟨fun σ' H'=>∃pi:Addr,σ'=[some (.ref fa),some (.ref nl),some (.ref ml),some (.ref pi),none,none,none]/\Same H H'/\H' pi=some (.lst (((rsB (Fn.row is)).map fun j=>nm.getD j ⟨#[]⟩).map V.str)),?_,?_⟩
  rotate_left
  ·exists ixTm (SqT.of ha1) rfl ?_;exists iteE1 ?_;refine iteT ?_;exists ixTm (SqT.of ha1) rfl ?_;exists⟨b,_,rfl,.inr (SqT.of (s1 _ _ hb)),?_⟩;walk_at"f 2 t";walk_at"g";exact⟨p2,rfl,s1.trans s2,t2⟩
  rintro σ' H2 ⟨p2,rfl,s02,e2⟩;have ha2:=s02 _ _ ha;exists⟨fun σ' H'=>∃pi:Addr,σ'=[some (.ref fa),some (.ref nl),some (.ref ml),some (.ref pi),none,none,none]/\Same H H'/\H' pi=some (.lst (((Fn.row is).js.map fun j=>nm.getD j ⟨#[]⟩).map V.str)),?_,?_⟩
  rotate_left
  ·exists ixTm (SqT.of ha2) rfl ?_;exists iteE0 ?_;walk_at"g";exact⟨p2,rfl,s02,e2⟩
  rintro σ' H3 ⟨pi,rfl,s03,ei⟩;have nr:∀u0 u1 u2,(Fn.row is)≠.rise u0 u1 u2:=fun _ _ _ z=>by cases z
  generalize(Fn.row is)=f at ei nr pre q;clear ha hb
 case' side is=>
  obtain⟨b,ha,hb⟩:=hF;exists ixTm (SqT.of ha) rfl ?_;exists iteE0 ?_;exists⟨Nat.zero_le _,?_⟩;walk_at"f 1 t";have ha1:=s1 _ _ ha;exists⟨fun σ' H'=>∃pi:Addr,σ'=[some (.ref fa),some (.ref nl),some (.ref ml),some (.ref pi),none,none,none]/\Same H H'/\H' pi=some (.lst (((rsB (Fn.side is)).map fun j=>nm.getD j ⟨#[]⟩).map V.str)),?_,?_⟩
  rotate_left
  ·exists ixTm (SqT.of ha1) rfl ?_;exists iteE0 ?_;exists ixTm (SqT.of ha1) rfl ?_;exists iteE1 ?_;exists ixTm (SqT.of ha1) rfl ?_;exists⟨b,_,rfl,.inr (SqT.of (s1 _ _ hb)),?_⟩;walk_at"f 2 t";walk_at"g";exact⟨p2,rfl,s1.trans s2,t2⟩
  rintro σ' H2 ⟨p2,rfl,s02,e2⟩;have ha2:=s02 _ _ ha;exists⟨fun σ' H'=>∃pi:Addr,σ'=[some (.ref fa),some (.ref nl),some (.ref ml),some (.ref pi),none,none,none]/\Same H H'/\H' pi=some (.lst (((Fn.side is).js.map fun j=>nm.getD j ⟨#[]⟩).map V.str)),?_,?_⟩
  rotate_left
  ·exists ixTm (SqT.of ha2) rfl ?_;exists iteE0 ?_;walk_at"g";exact⟨p2,rfl,s02,e2⟩
  rintro σ' H3 ⟨pi,rfl,s03,ei⟩;have nr:∀u0 u1 u2,(Fn.side is)≠.rise u0 u1 u2:=fun _ _ _ z=>by cases z
  generalize(Fn.side is)=f at ei nr pre q;clear ha hb
 case' again k j=>
  have ha:H fa=some (.tup _):=hF;exists ixTm (SqT.of ha) rfl ?_;exists iteE0 ?_;exists⟨Nat.zero_le _,?_⟩;walk_at"f 1 t";have ha1:=s1 _ _ ha;exists⟨fun σ' H'=>∃pi:Addr,σ'=[some (.ref fa),some (.ref nl),some (.ref ml),some (.ref pi),none,none,none]/\Same H H'/\H' pi=some (.lst (((rsB (Fn.again k j)).map fun j=>nm.getD j ⟨#[]⟩).map V.str)),?_,?_⟩
  rotate_left
  ·exists ixTm (SqT.of ha1) rfl ?_;exists iteE0 ?_;exists ixTm (SqT.of ha1) rfl ?_;exists iteE0 ?_;walk_at"g";exact⟨p1,rfl,s1,t1⟩
  rintro σ' H2 ⟨p2,rfl,s02,e2⟩;have ha2:=s02 _ _ ha;exists⟨fun σ' H'=>∃pi:Addr,σ'=[some (.ref fa),some (.ref nl),some (.ref ml),some (.ref pi),none,none,none]/\Same H H'/\H' pi=some (.lst (((Fn.again k j).js.map fun j=>nm.getD j ⟨#[]⟩).map V.str)),?_,?_⟩
  rotate_left
  ·exists ixTm (SqT.of ha2) rfl ?_;exists iteE1 ?_;exists ixTm (SqT.of ha2) rfl ?_;exists⟨(by show 1<=sizeLine;omega),?_⟩;walk_at"f 3 t";walk_at"g";exact⟨p3,rfl,s02.trans s3,t3⟩
  rintro σ' H3 ⟨pi,rfl,s03,ei⟩;have nr:∀u0 u1 u2,(Fn.again k j)≠.rise u0 u1 u2:=fun _ _ _ z=>by cases z
  clear hF;generalize(Fn.again k j)=f at ei nr pre q
 all_goals
  obtain⟨j8,jlt⟩:=pre.js;exists⟨Nat.zero_le _,?_⟩;walk_at"f pf hpf H4 s4 t4";have s04:=s03.trans s4;have mf:∀{c u},H c=some u->c≠pf:=fun h=>je (s03 _ _ h) hpf
  have npf:pi≠pf:=je ei hpf;have aMl:=aM.1;exists⟨pi,rfl,⟨_,SqL.of (s4 _ _ ei)⟩,?_⟩;refine JU (xs:=(f.js.map fun j=>nm.getD j ⟨#[]⟩).map V.str) (fun t σ H'=>∃(o5 o6:Option V) (ks:List Str),σ=[some (.ref fa),some (.ref nl),some (.ref ml),some (.ref pi),some (.ref pf),o5,o6]/\(∀c u,c≠pf->H4 c=some u->H' c=some u)/\H' pf=some (.lst (ks.map V.str))/\ks.Nodup/\ks.length<=8*t/\∀s,s∈ks↔∃j∈f.js.take t,s∈Ms.getD j []) ⟨_,_,[],rfl,fun c u _ h=>h,t4,.nil,Nat.le_refl _,fun s=>⟨(fun h=>nomatch h),fun⟨j,hj,_⟩=>nomatch hj⟩⟩ ?_ ?_ ?_
  ·rintro t σ H' _ ⟨o5,o6,ks,rfl,sm,_⟩;exact SqL.of (sm _ _ npf (s4 _ _ ei))
  ·rintro t v σ H5 hv ⟨o5,o6,ks,rfl,sm,e5,knd,kl,mem⟩;rw[List.getElem?_map,List.getElem?_map]at hv;obtain⟨x,hx,rfl⟩:=Option.map_eq_some_iff.mp hv;obtain⟨j,hj,rfl⟩:=Option.map_eq_some_iff.mp hx;have tl:=(List.getElem?_eq_some_iff.mp hj).1;have jl:=jlt j (List.mem_of_getElem? hj);obtain⟨l1,l2,l3⟩:=lidxB nd jl;have eMj:Ms[j]?=some (Ms.getD j []):=by rw[getD_eq_getElem?_getD,List.getElem?_eq_getElem (by omega)];rfl
   have mj4:=k4 _ (List.mem_of_getElem? eMj);obtain⟨ma,hma⟩:∃ma,mas[j]?=some ma:=⟨_,List.getElem?_eq_getElem (by omega)⟩
   have ema:=aM.2 j ma _ hma eMj;have k5:∀{c u},H c=some u->H5 c=some u:=fun h=>sm _ _ (mf h) (s04 _ _ h)
   exists⟨.inl ⟨rfl,_,SqL.of (k5 en)⟩,?_⟩;exists⟨nl,_,.str _,.str _,j,rfl,rfl,SqL.of (k5 en),rfl,flatB _,l1,l2,l3,?_⟩;exists ixLm (SqL.of (k5 em)) (jY (show(mas.map V.ref)[j]?=some (.ref ma) by rw[List.getElem?_map,hma];rfl)) ?_;refine⟨ma,rfl,⟨_,SqL.of (k5 ema)⟩,?_⟩;refine JU (xs:=(Ms.getD j []).map V.str) (fun u σ H'=>∃(o6:Option V) (ks':List Str),σ=[some (.ref fa),some (.ref nl),some (.ref ml),some (.ref pi),some (.ref pf),some (.str (nm.getD j ⟨#[]⟩)),o6]/\(∀c u,c≠pf->H4 c=some u->H' c=some u)/\H' pf=some (.lst (ks'.map V.str))/\ks'.Nodup/\ks'.length<=8*t+u/\∀s,s∈ks'↔s∈ks\/s∈(Ms.getD j []).take u) ⟨_,ks,rfl,sm,e5,knd,kl,fun s=>⟨.inl,fun h=>h.elim id fun h=>nomatch h⟩⟩ ?_ ?_ ?_
   ·rintro u σ H' _ ⟨o6,ks',rfl,sm',_⟩;exact SqL.of (sm' _ _ (mf ema) (s04 _ _ ema))
   ·rintro u v σ H6 hv ⟨o6,ks',rfl,sm',e6,knd',kl',mem'⟩;rw[List.getElem?_map]at hv;obtain⟨y,hy,rfl⟩:=Option.map_eq_some_iff.mp hv;have ul:=(List.getElem?_eq_some_iff.mp hy).1;exists⟨pf,_,rfl,.inl (SqL.of e6),rfl,flatB _,?_⟩;rw[if_pos rfl,Y2];refine⟨_,rfl,?_⟩;refine iteN (fun c=>?_) (fun c=>?_)
    ·exists⟨.inl ⟨rfl,_,SqL.of e6⟩,?_⟩;exists⟨pf,_,_,rfl,rfl,e6,by rw[length_map];omega,?_⟩;refine⟨_,ks'++[y],rfl,fun c u hc h=>(jg hc).trans (sm' _ _ hc h),by rw[jx,map_append];rfl,nodup_append.mpr ⟨knd',pairwise_singleton _ _,fun a ha b hb e=>c (by rw[<-mem_singleton.mp hb,<-e];exact ha)⟩,by rw[List.length_append,length_singleton];omega,fun s=>?_⟩;rw[mem_append,mem',mem_singleton,take_snoc hy,mem_append,mem_singleton,or_assoc]
    ·exists⟨_,ks',rfl,sm',e6,knd',by omega,fun s=>?_⟩;rw[mem',take_snoc hy,mem_append,mem_singleton];refine⟨fun h=>h.elim .inl fun h=>.inr (.inl h),?_⟩;rintro(h | h | rfl)
     ·exact .inl h
     ·exact .inr h
     ·exact(mem' _).mp c
   ·rintro σ H6 ⟨o6,ks',rfl,sm',e6,knd',kl',mem'⟩;rw[length_map]at kl' mem';rw[take_length]at mem';exists⟨_,_,ks',rfl,sm',e6,knd',by omega,fun s=>?_⟩;rw[mem',mem,take_snoc hj];constructor
    ·rintro(⟨j',hj',h⟩ | h)
     ·exact⟨j',mem_append_left _ hj',h⟩
     ·exact⟨j,mem_append_right _ mem_cons_self,h⟩
    ·rintro⟨j',hj',h⟩;rcases mem_append.mp hj' with z | z
     ·exact .inl ⟨j',z,h⟩
     ·rw[mem_singleton.mp z]at h;exact .inr h
  ·rintro σ H5 ⟨o5,o6,ks,rfl,sm,e5,knd,kl,mem⟩;rw[show((f.js.map fun j=>nm.getD j ⟨#[]⟩).map V.str).length=f.js.length by rw[length_map,length_map]]at kl mem;rw[take_length]at mem;walk_at"g";exact q pf ks H5 (fun c u h=>sm _ _ (mf h) (s04 _ _ h)) (none_of s03 hpf) e5 ⟨knd,fun s=>(mem s).trans ⟨.inl,fun h=>h.elim id fun⟨h',n',e⟩=>absurd e (nr _ _ _)⟩⟩ (by omega)
theorem wj(T:Txt K mg t):FnOk P w K mg base CX0 1 t.qL t.qP ["_law_names","_law_known","_law_most"] (sp_lastB):=by
 refine T.Zw.ok Qn (fun vs H Q E h=>?_) (fun cdv A outer s H vs Q E hr h=>?_)
 ·cases h;subst_vars;rfl
 obtain⟨nl,d,nm,gs,most,rfl,en,ed,nd,ng,n1,n20,gb,q⟩:=h;refine⟨_,(jb (jp (i:=3) Qn.nd rfl (.inl rfl) (jG jc))
  (jb (jp (i:=4) Qn.nd rfl (.inl rfl) jd)
  (jb (Jp PassesOwn.never rfl (j35 (by rfl) T.W2 (ja (pv 0) jc)) (jr (i:=5) Qn.nd rfl (.inl rfl))
   (jf (jT (PW.pt (Qk (jk zx (jA jW (by rfl) T.qe Ju (ja (pv 3) jc)) jd (nomark _)) (qD (jk kH (jo jO (pv 4) (Q3 (zN hr) (pv 1) (pv 5))) (pv 2) (nomark _)))))
    (jb (jU (JK PySem.F.plainAttrs_list PySem.F.slot_list_append PySem.F.type_list_append jH (pv 3) (ja (pv 5) jc)))
    (jf (jp (i:=4) Qn.nd rfl (.inl rfl) (jo jO (pv 4) (Q3 (zN hr) (pv 1) (pv 5))))))
    jt)))
  (jf (jv (Qx QE (by rfl) T.Y0 yB (ja (pv 3) jc))))))),?_⟩
 refine jz (σ':=[some _,some _,some _,none,none,none]) rfl ?_;have sz:(200:Nat)<sizeLine:=by decide
 have get:∀(h:Hp) j,h d=some (.dK (knK nm gs))->j<nm.length->DGet h d (.str (nm.getD j ⟨#[]⟩)) (some (.int (gs.getD j 0))):=fun h j eh hj=>by
  have g:=DGet.k (k:=Sum.inr (nm.getD j ⟨#[]⟩)) eh;rw[Y4 nd ng hj]at g;exact g
 exists⟨Nat.zero_le _,?_⟩;walk_at"f ps hps H1 s1 t1";have nps:∀{c u},H c=some u->c≠ps:=fun h=>je h hps
 exists⟨nl,_,rfl,SqL.of (s1 _ _ en),?_⟩;refine j23 (xs:=nm.map V.str) (fun t σ H'=>∃(o5:Option V) (is:List Nat) (tot:Int),σ=[some (.ref nl),some (.ref d),some (.int most),some (.ref ps),some (.int tot),o5]/\(∀c u,c≠ps->H1 c=some u->H' c=some u)/\H' ps=some (.lst ((is.map fun j=>nm.getD j ⟨#[]⟩).map V.str))/\is.length<=5/\(∀j∈is,j<nm.length)/\(t=0->is=[]/\tot=0)/\(0<t->is≠[])) ⟨_,[],0,rfl,fun c u _ h=>h,t1,Nat.zero_le _,(fun j h=>nomatch h),fun _=>⟨rfl,rfl⟩,fun h=>absurd h (by omega)⟩ ?_ ?_ ?_
 ·rintro t σ H' _ ⟨o5,is,tot,rfl,sm,_⟩;exact SqL.of (sm _ _ (nps en) (s1 _ _ en))
 ·rintro t v σ H' hi hv ⟨o5,is,tot,rfl,sm,eP,il,jl,z0,z1⟩;rw[length_map]at hi hv;rw[List.getElem?_map]at hv;obtain⟨x,hx,rfl⟩:=Option.map_eq_some_iff.mp hv;have ej:x=nm.getD (nm.length-1-t) ⟨#[]⟩:=by rw[getD_eq_getElem?_getD,hx];rfl
  subst ej;have jn:nm.length-1-t<nm.length:=by omega
  clear hx hv;generalize nm.length-1-t=j at jn|-;have k':∀{c u},H c=some u->H' c=some u:=fun h=>sm _ _ (nps h) (s1 _ _ h)
  have g:=gb j jn;exists⟨_,_,rfl,.inl ⟨_,SqL.of eP,rfl⟩,?_⟩;rw[length_map,length_map];exists iteD (fun c=>?_) (fun c=>?_)
  ·exists⟨d,_,rfl,get H' j (k' ed) jn,?_⟩;exists iteD (fun c2=>?_) (fun c2=>?_)
   ·exists⟨.inl ⟨rfl,_,SqL.of eP⟩,?_⟩;exists⟨ps,_,_,rfl,rfl,eP,by rw[length_map,length_map];omega,?_⟩;generalize eU:upd H' ps _=H2;have e2:H2 ps=some (.lst (((is++[j]).map fun j=>nm.getD j ⟨#[]⟩).map V.str)):=by
     rw[map_append,map_append];exact qd eU
    have sm2:∀c u,c≠ps->H1 c=some u->H2 c=some u:=fun c u hc h=>eU▸(jg hc).trans (sm c u hc h)
    clear eU;exists⟨d,_,rfl,get H2 j (sm2 _ _ (nps ed) (s1 _ _ ed)) jn,?_⟩;exists⟨_,is++[j],_,rfl,sm2,e2,by rw[List.length_append];show _+1<=5;omega,fun j' hj'=>?_,fun h=>absurd h (by omega),fun _ h=>by simp at h⟩;rcases mem_append.mp hj' with z | z
    ·exact jl j' z
    ·rw[mem_singleton.mp z];exact jn
   ·exists⟨_,is,tot,rfl,sm,eP,il,jl,fun h=>absurd h (by omega),fun _ h=>?_⟩;rcases Nat.eq_zero_or_pos t with z | z
    ·obtain⟨_,rfl⟩:=z0 z;exact c2 (by omega)
    ·exact z1 z h
  ·exists⟨_,is,tot,rfl,sm,eP,il,jl,fun h=>absurd h (by omega),fun _ h=>?_⟩;rw[h]at c;exact c (by show((0:Nat):Int)<5;omega)
 ·rintro σ H' ⟨o5,is,tot,rfl,sm,eP,il,jl,z0,z1⟩;rw[length_map]at z1;exists⟨ps,_,rfl,.inl ⟨SqL.of eP,?_⟩⟩;walk_at"f b hb H3 s3 t3";exact q b is H3 (fun c u h=>s3 _ _ (sm _ _ (nps h) (s1 _ _ h))) t3 (z1 (by omega)) il jl
theorem wm(T:Txt K mg t)(jM:FnOk P w K mg base CX0 1 t.JA t.JB ["_law_cell","_law_k"] (y6)):FnOk P w K mg base CX0 2 t.qc t.qf ["_law_pool","_law_many"] (sp_takeB):=by
 refine T.jI.ok yX (fun vs H Q E h=>?_) (fun cdv A outer s H vs Q E hr h=>?_)
 ·cases h;subst_vars;rfl
 obtain⟨p,x,y,m,rfl,ep,m1,m2,y0,y1,q⟩:=h;refine⟨_,(jb (jT (jk zP (ji jq (pv 0) jd) jd (nomark _))
   (jb (jp (i:=2) yX.nd rfl (.inl rfl) (jo j5 (ji jq (pv 0) jd) (pv 1)))
   (jb (Yz (jo Jf (ji jq (pv 0) jd) (pv 1)) (kI (pv 0) jd set_list))
   (jf (jv (pv 2)))))
   jt)
  (jb (Yz (jo j5 (jo Qj (jo jO (ji jq (pv 0) jd) (pv 1)) jd) (jo jO (jo Qv jd jd) jd)) (kI (pv 0) jd set_list))
  (jb (Yz (jh (jM.mono (by decide)) hr (by rfl) T.JC T.Jq.kp T.Jz .nil pass0 (ja (ji jq (pv 0) jd) (ja (pv 1) jc))) (kI (pv 0) jd set_list))
  (jf (jv (jo j5 (jo Jf (ji jq (pv 0) jd) jd) (pv 1))))))),?_⟩
 refine jz (σ':=[some _,some _,none]) rfl ?_;exists ixLm (SqL.of ep) rfl ?_;exists iteD (fun c=>?_) (fun c=>?_)
 ·have e:tkB x y m=(x%m,x/m,y):=if_pos (by omega);rw[e]at q;exists ixLm (SqL.of ep) rfl ?_;exists ixLm (SqL.of ep) rfl ?_;exists⟨p,_,_,0,rfl,rfl,ep,rfl,?_⟩;walk_at"g";exact q _ (fun c u hc h=>(jg hc).trans h) jx
 ·have e:tkB x y m=(mixB ((y+m)*314159265358979323846264338327%(10^30+57)) m/1000%m,x,mixB ((y+m)*314159265358979323846264338327%(10^30+57)) m):=if_neg (by omega);rw[e]at q;exists ixLm (SqL.of ep) rfl ?_;exists⟨p,_,_,1,rfl,rfl,ep,rfl,?_⟩;have v0:=Int.emod_nonneg ((y+m)*314159265358979323846264338327) (show(10^30+57:Int)≠0 by decide);have v1:=Int.emod_lt_of_pos ((y+m)*314159265358979323846264338327) (show(0:Int)<10^30+57 by decide);generalize(y+m)*314159265358979323846264338327%(10^30+57)=v at v0 v1 q|-;generalize eU:upd H p _=H1;have e1:H1 p=some (.lst [.int x,.int v]):=qd eU;have k1:∀c u,c≠p->H c=some u->H1 c=some u:=fun c u hc h=>eU▸(jg hc).trans h
  clear eU;exists ixLm (SqL.of e1) rfl ?_;exists⟨v,m,rfl,by omega,m2,?_⟩;exists⟨p,_,_,1,rfl,rfl,e1,rfl,?_⟩;generalize eU:upd H1 p _=H2;have e2:H2 p=some (.lst [.int x,.int (mixB v m)]):=qd eU;have k2:∀c u,c≠p->H c=some u->H2 c=some u:=fun c u hc h=>eU▸(jg hc).trans (k1 c u hc h)
  clear eU;exists ixLm (SqL.of e2) rfl ?_;walk_at"g";exact q _ k2 e2
theorem kG(T:Txt K mg t)(jB:FnOk P w K mg base CX0 2 t.qc t.qf ["_law_pool","_law_many"] (sp_takeB)):FnOk P w K mg base CX0 3 t.qx t.qz ["_law_pool","_law_kind","_law_names","_law_movers","_law_bounds"] (sp_namingB):=by
 refine T.Z3.ok Jb (fun vs H Q E h=>?_) (fun cdv A outer s H vs Q E hr h=>?_)
 ·cases h;subst_vars;rfl
 obtain⟨p,nl,ml,bd,x,y,kd,H0,mas,L,nm,Ms,b0,b1,b2,b3,b4,rfl,ep,y0,y1,of,N,n1,Bd,q⟩:=h;refine⟨_,(jb (jT (jk Jn (pv 1) jd (nomark _))
   (jb (jp (i:=5) Jb.nd rfl (.inl rfl) (jo jO jd (jh (jB.mono (by decide)) hr (by rfl) T.jL T.jI.kp T.jK .nil pass0 (ja (pv 0) (ja (ji jq (pv 4) jd) jc)))))
   (jf (jv (jR (ja jD (ja (pv 5) (ja (ji jq (pv 2) (jh (jB.mono (by decide)) hr (by rfl) T.jL T.jI.kp T.jK .nil pass0 (ja (pv 0) (ja (jA jW (by rfl) T.qe Ju (ja (pv 2) jc)) jc)))) jc)))))))
   jt)
  (jb (jT (jk Jn (pv 1) jd (nomark _))
   (jb (jp (i:=6) Jb.nd rfl (.inl rfl) (jo jO jd (jh (jB.mono (by decide)) hr (by rfl) T.jL T.jI.kp T.jK .nil pass0 (ja (pv 0) (ja jd jc)))))
   (jf (jv (jR (ja jD (ja (Qx QE (by rfl) T.Y0 yB (ja (qC (ow:=["_law_j"]) (ci:=[2,0]) rfl (CompScope.of (defScope qB) ["_law_pool","_law_kind","_law_names","_law_movers","_law_bounds","_law_times","_law_many","_law_some","_law_used","_law_j","_law_at","_law_twice"] rfl rfl (by decide +kernel)) (Q2 (by decide)) (Qy (by rfl) T.Zd (ja (pv 6) jc)) (fun _ _ _ _ _=>⟨(jr (i:=0) (JP ["_law_pool","_law_kind","_law_names","_law_movers","_law_bounds","_law_times","_law_many","_law_some","_law_used","_law_j","_law_at","_law_twice"] rfl (by decide +kernel)) rfl (.inl rfl)),zl,(ji (yI (K:=K) rfl) (pv 1) (jh (jB.mono (by decide)) hr (by rfl) T.jL T.jI.kp T.jK .nil pass0 (ja (pv 2) (ja (jA (XV (K:=K) rfl) (by rfl) T.qe Ju (ja (pv 1) jc)) jc))))⟩)) jc)) jc))))))
   jt)
  (jb (jp (i:=7) Jb.nd rfl (.inl rfl) (jG jc))
  (jb (jp (i:=8) Jb.nd rfl (.inr rfl) (jG jc))
  (jb (Jp PassesOwn.never rfl (Qy (by rfl) T.Zd (ja (jo jO jd (jh (jB.mono (by decide)) hr (by rfl) T.jL T.jI.kp T.jK .nil pass0 (ja (pv 0) (ja jd jc)))) jc)) (jr (i:=9) Jb.nd rfl (.inl rfl))
   (jb (jp (i:=10) Jb.nd rfl (.inl rfl) (jh (jB.mono (by decide)) hr (by rfl) T.jL T.jI.kp T.jK .nil pass0 (ja (pv 0) (ja (jA jW (by rfl) T.qe Ju (ja (pv 2) jc)) jc))))
   (jb (XD (i:=11) (ow:=["_law_one"]) (ci:=[8]) rfl (CompScope.of (defScope qB) ["_law_pool","_law_kind","_law_names","_law_movers","_law_bounds","_law_times","_law_many","_law_some","_law_used","_law_j","_law_at","_law_twice"] rfl rfl (by decide +kernel)) (Q2 (by decide)) Jb.nd rfl (.inl rfl) (Je (ji jq (pv 3) (pv 10))) (fun _ _ _ _ _=>⟨(jr (i:=0) (JP ["_law_pool","_law_kind","_law_names","_law_movers","_law_bounds","_law_times","_law_many","_law_some","_law_used","_law_j","_law_at","_law_twice"] rfl (by decide +kernel)) rfl (.inl rfl)),(xF (jk (yf (K:=K) rfl) (pv 0) (pv 1) (by with_unfolding_all rfl))),(pv 0)⟩))
   (jf (jT (PW.pt (Qk (jk (xD hr.units) (ji jq (pv 3) (pv 10)) (jG jc) (nomark _)) (qD (jk (wz hr.units) (pv 11) (jG jc) (nomark _)))))
    (jb (jU (JK PySem.F.plainAttrs_list PySem.F.slot_list_append PySem.F.type_list_append jH (pv 7) (ja (ji jq (pv 2) (pv 10)) jc)))
    (jf (jp (i:=8) Jb.nd rfl (.inr rfl) (jo Yx (pv 8) (ji jq (pv 3) (pv 10))))))
    jt)))))
  (jb (jT (jk zx (jA jW (by rfl) T.qe Ju (ja (pv 7) jc)) jd (nomark _))
   (jf (jv (jR (ja jD (ja (jo jO jd (jh (jB.mono (by decide)) hr (by rfl) T.jL T.jI.kp T.jK .nil pass0 (ja (pv 0) (ja (ji jq (pv 4) jd) jc)))) jc)))))
   jt)
  (jf (jv (jR (ja jD (ja (Qx QE (by rfl) T.Y0 yB (ja (pv 7) jc)) jc))))))))))),?_⟩
 refine jz (σ':=[some _,some _,some _,some _,some _,none,none,none,none,none,none,none]) rfl ?_;have sz:(200:Nat)<sizeLine:=by decide
 have n20:=N.n20;obtain⟨eb,b01,b02,b11,b12,b21,b22,b31,b32,b41,b42⟩:=Bd;exists iteD (fun c=>?_) (fun c=>?_)
 ·exists ixLm (SqL.of (of _ _ eb).2) rfl ?_;walk_at"g";have r:=Jo (x:=x) (y:=y) b31;refine⟨p,x,y,_,rfl,ep,b31,by omega,y0,y1,fun H1 x1 e1=>?_⟩;have y01:=JH (x:=x) (m:=b3) y0 y1;have o1:=of.ex x1;exists⟨_,_,rfl,.inl ⟨_,SqL.of (o1 _ _ N.en).2,rfl⟩,?_⟩;rw[length_map];exists⟨p,_,_,_,rfl,e1,by omega,by omega,y01.1,y01.2,fun H2 x2 e2=>?_⟩;have r2:=Jo (x:=(tkB x y b3).2.1) (y:=(tkB x y b3).2.2) (m:=(nm.length:Int)) (by omega);have o2:=o1.ex x2;generalize tkB (tkB x y b3).2.1 (tkB x y b3).2.2 (nm.length:Int)=T2 at r2 e2|-;obtain⟨j,ej⟩:∃j:Nat,T2.1=(j:Int):=⟨T2.1.toNat,by omega⟩
  rw[ej]at r2|-;have jl:j<nm.length:=by omega
  refine ixLm (SqL.of (o2 _ _ N.en).2) (zq jl) ?_;exists⟨(by show 3<=sizeLine;omega),?_⟩;walk_at"f b6 hb6 H6 s6 t6";exact q b6 (.again (1+(tkB x y b3).1) j) H6 (x1.trans (x2.trans (.of s6))) t6 ⟨by omega,by omega,jl⟩
 exists iteD (fun c5=>?_) (fun c5=>?_)
 ·walk_at"g";have r:=Jo (x:=x) (y:=y) (m:=5) (by omega);have y01:=JH (x:=x) (m:=5) y0 y1;refine⟨p,x,y,_,rfl,ep,by omega,by omega,y0,y1,fun H1 x1 e1=>?_⟩;generalize tkB x y 5=T at r y01 e1|-;have o1:=of.ex x1;exists⟨_,rfl,by omega,by omega,?_⟩;refine xc (fun i ys H'=>∃(is:List Nat) (x y:Int),ys=is.map (fun j=>V.str (nm.getD j ⟨#[]⟩))/\is.length=i/\(∀j∈is,j<nm.length)/\Ex p H1 H'/\H' p=some (.lst [.int x,.int y])/\0<=y/\y<10^30+57) ⟨[],_,_,rfl,rfl,(fun j h=>nomatch h),.refl _,e1,y01⟩ ?_ ?_
  ·rintro i ys H' hi ⟨is,x2,y2,rfl,il,jl,xx,epx,yy⟩;have o2:=o1.ex xx;refine Ql (σ':=[none,some _,some _]) rfl ?_;exists iteT ?_;exists⟨_,_,rfl,.inl ⟨_,SqL.of (o2 _ _ N.en).2,rfl⟩,?_⟩;rw[show(nm.map V.str).length=nm.length from length_map _];walk_at"g";have r2:=Jo (x:=x2) (y:=y2) (m:=(nm.length:Int)) (by omega);have y02:=JH (x:=x2) (m:=(nm.length:Int)) yy.1 yy.2;refine⟨p,x2,y2,_,rfl,epx,by omega,by omega,yy.1,yy.2,fun H3 x3 e3=>?_⟩;generalize tkB x2 y2 (nm.length:Int)=T2 at r2 y02 e3|-;obtain⟨j,ej⟩:∃j:Nat,T2.1=(j:Int):=⟨T2.1.toNat,by omega⟩
   rw[ej]at r2|-;have jn:j<nm.length:=by omega
   refine ixLm (SqL.of (o2.ex x3 _ _ N.en).2) (zq jn) ?_;refine⟨by rw[length_map];omega,is++[j],_,_,by rw[map_append];rfl,by rw[List.length_append,il];rfl,fun j' hj'=>?_,xx.trans x3,e3,y02⟩;rcases mem_append.mp hj' with z | z
   ·exact jl j' z
   ·rw[mem_singleton.mp z];exact jn
  rintro ys H3 ⟨is,x3,y3,rfl,il,jl,xx,ep3,yy⟩;refine⟨by rw[length_map];omega,?_⟩;walk_at"f b hb H4 s4 t4";exists⟨b,_,rfl,.inl ⟨SqL.of t4,?_⟩⟩;walk_at"f b5 hb5 H5 s5 t5";exists⟨(by show 2<=sizeLine;omega),?_⟩;walk_at"f b6 hb6 H6 s6 t6";refine q b6 (.row is) H6 (x1.trans (xx.trans (.of (s4.trans (s5.trans s6))))) ⟨b5,t6,?_⟩ ⟨fun z=>?_,by omega,jl⟩
  ·rw[s6 _ _ t5,map_map];rfl
  ·rw[z]at il;have:(0:Nat)=_:=il;omega
 exists⟨Nat.zero_le _,?_⟩;walk_at"f ps hps H1 s1 t1";exists⟨Nat.zero_le _,?_⟩;walk_at"f pu hpu H2 s2 t2";have s02:=s1.trans s2;have psp:ps≠p:=(je ep hps).symm;have pup:pu≠p:=(je (s1 _ _ ep) hpu).symm;have nps:∀{c u},H c=some u->c≠ps:=fun h=>je h hps
 have pus:pu≠ps:=(je t1 hpu).symm;walk_at"g";have r:=Jo (x:=x) (y:=y) (m:=3) (by omega);have y01:=JH (x:=x) (m:=3) y0 y1;refine⟨p,x,y,_,rfl,s02 _ _ ep,by omega,by omega,y0,y1,fun H3 x3 e3=>?_⟩;generalize tkB x y 3=T at r y01 e3|-;have o3:Off p H0 H3:=fun c u h=>⟨(of c u h).1,x3 _ _ (of c u h).1 (s02 _ _ (of c u h).2)⟩
 have e3s:=x3 _ _ psp (s2 _ _ t1);have e3u:=x3 _ _ pup t2;have h3s:∀{c u},c≠p->H c=some u->H3 c=some u:=fun n h=>x3 _ _ n (s02 _ _ h)
 exists⟨_,rfl,by omega,by omega,?_⟩;refine za (fun t σ H'=>∃(o9 o10 o11:Option V) (pu':Addr) (is:List Nat) (us:List Str) (x y:Int),σ=[some (.ref p),some (.int kd),some (.ref nl),some (.ref ml),some (.ref bd),none,none,some (.ref ps),some (.ref pu'),o9,o10,o11]/\pu'≠ps/\pu'≠p/\Ex p H H'/\H' ps=some (.lst ((is.map fun j=>nm.getD j ⟨#[]⟩).map V.str))/\H' pu'=some (.lst (us.map V.str))/\H' p=some (.lst [.int x,.int y])/\0<=y/\y<10^30+57/\is.length<=t/\us.length<=8*t/\(∀j∈is,j<nm.length)/\ApartS Ms is/\∀s,s∈us↔∃j∈is,s∈Ms.getD j []) ⟨_,_,_,pu,[],[],_,_,rfl,pus,pup,fun c u n h=>h3s n h,e3s,e3u,e3,y01.1,y01.2,Nat.le_refl _,Nat.le_refl _,(fun j h=>nomatch h),⟨(fun j h=>nomatch h),.nil⟩,fun s=>⟨(fun h=>nomatch h),fun⟨j,h,_⟩=>nomatch h⟩⟩ ?_ ?_
 ·rintro t σ H4 ht ⟨o9,o10,o11,pu',is,us,x4,y4,rfl,npu,npp,x04,e4s,e4u,e4,y40,y41,il,ul,jl,ap,mem⟩;have t4:t<4:=by omega
  have o4:=of.ex x04;exists⟨_,_,rfl,.inl ⟨_,SqL.of (o4 _ _ N.en).2,rfl⟩,?_⟩;rw[length_map];walk_at"g";have r2:=Jo (x:=x4) (y:=y4) (m:=(nm.length:Int)) (by omega);have y02:=JH (x:=x4) (m:=(nm.length:Int)) y40 y41;refine⟨p,x4,y4,_,rfl,e4,by omega,by omega,y40,y41,fun H5 x5 e5=>?_⟩;generalize tkB x4 y4 (nm.length:Int)=T2 at r2 y02 e5|-;obtain⟨j,ej⟩:∃j:Nat,T2.1=(j:Int):=⟨T2.1.toNat,by omega⟩
  rw[ej]at r2|-;have al:j<nm.length:=by omega
  have x05:=x04.trans x5;have o5:=of.ex x05;have e5s:=x5 _ _ psp e4s;have e5u:=x5 _ _ npp e4u;clear x5 x04 o4 e4s e4u e4 y40 y41;obtain⟨ma,hma,ema,ml8,mw⟩:=N.mv al;have aM:atI (mas.map V.ref) ((j:Nat):Int)=some (.ref ma):=jY (by rw[List.getElem?_map,hma];rfl);exists ixLm (SqL.of (o5 _ _ N.em).2) (aM) ?_;refine⟨ma,rfl,⟨_,SqL.of (o5 _ _ ema).2⟩,?_⟩;refine qm (xs:=(Ms.getD j []).map V.str) (fun i ys H'=>ys=(((Ms.getD j []).take i).filter fun s=>decide (s∈us)).map V.str/\H5=H') ⟨rfl,rfl⟩ ?_ ?_ ?_
  ·rintro i ys H' _ ⟨rfl,rfl⟩;exact SqL.of (o5 _ _ ema).2
  ·rintro i x ys H' hx ⟨rfl,rfl⟩;rw[List.getElem?_map]at hx;obtain⟨k,hk',rfl⟩:=Option.map_eq_some_iff.mp hx;have ik:=(List.getElem?_eq_some_iff.mp hk').1;refine Ql (σ':=[none,some _]) rfl ?_;exists⟨pu',_,rfl,.inl (SqL.of e5u),rfl,flatB _,?_⟩;rw[inB];walk_at"g";rw[take_snoc hk',filter_append];have lf:(((Ms.getD j []).take i).filter fun s=>decide (s∈us)).length<=8:=Nat.le_trans (length_filter_le _ _) (by rw[length_take];omega);refine iteD (fun c=>?_) (fun c=>?_)
   ·exists⟨by rw[length_map];omega,?_,rfl⟩;rw[map_append,filter_cons,if_pos (decide_eq_true c),filter_nil];rfl
   ·refine⟨?_,rfl⟩;rw[filter_cons,if_neg (by rw[decide_eq_false c];exact Bool.false_ne_true),filter_nil,append_nil]
  rintro ys H' ⟨rfl,rfl⟩;rw[show((Ms.getD j []).map V.str).length=(Ms.getD j []).length from length_map _,take_length];have lf:((Ms.getD j []).filter fun s=>decide (s∈us)).length<=8:=Nat.le_trans (length_filter_le _ _) ml8;have wf:∀x∈(Ms.getD j []).filter (fun s=>decide (s∈us)),Ws.isW x=true:=fun x hx=>mw x (mem_filter.mp hx).1
  refine⟨by rw[length_map];omega,?_⟩;walk_at"f p5 hp5 H6 s6 t6";have o6:=o5.ex (.of s6);exists ixLm (SqL.of (o6 _ _ N.em).2) (aM) ?_;exists⟨Nat.zero_le _,?_⟩;walk_at"f 7 t";have s67:=s6.trans s7;refine⟨_,_,.lst (s7 _ _ (o6 _ _ ema).2) (Q1 _),X0 t7,shpB mw,shp0,?_⟩;rw[eqvB];exists iteN (fun d1=>?_) (fun d1=>?_)
  ·exists⟨Nat.zero_le _,?_⟩;walk_at"f 8 t";have s58:=s67.trans s8;have x08:=x05.trans (.of s58);refine⟨_,_,.lst (s8 _ _ (s7 _ _ t6)) (Q1 _),X0 t8,shpB wf,shp0,?_⟩;rw[eqvB];exists iteD (fun d2=>?_) (fun d2=>?_)
   ·exists⟨.inl ⟨rfl,_,SqL.of (s58 _ _ e5s)⟩,?_⟩;walk_at"g";have o8:=of.ex x08;refine ixLm (SqL.of (o8 _ _ N.en).2) (zq al) ?_;exists⟨ps,_,_,rfl,rfl,s58 _ _ e5s,by rw[length_map,length_map];omega,?_⟩;generalize eG:upd H8 ps _=H9;have e9:H9 ps=some (.lst (((is++[j]).map fun j=>nm.getD j ⟨#[]⟩).map V.str)):=by
     rw[map_append,map_append];exact qd eG
    have k9:∀c u,c≠ps->H8 c=some u->H9 c=some u:=fun c u hc h=>eG▸(jg hc).trans h
    clear eG;have n9:∀{c u},H0 c=some u->H9 c=some u:=fun {c u} h=>k9 _ _ (nps (of _ _ h).2) (o8 _ _ h).2
    exists ixLm (SqL.of (n9 N.em)) (aM) ?_;refine⟨pu',ma,_,_,rfl,rfl,k9 _ _ npu (s58 _ _ e5u),n9 ema,by rw[length_map,length_map];omega,?_⟩;walk_at"f 10 t";walk_at"g";have e9p:=s10 _ _ (k9 _ _ psp.symm (s58 _ _ e5));refine⟨_,_,_,p10,is++[j],us++Ms.getD j [],_,_,rfl,(je e9 hp10).symm,(je (k9 _ _ psp.symm (s58 _ _ e5)) hp10).symm,fun c u n h=>s10 _ _ (k9 _ _ (nps h) (x08 _ _ n h)),s10 _ _ e9,by rw[map_append];exact t10,e9p,y02.1,y02.2,by rw[List.length_append];show _+1<=_;omega,by rw[List.length_append];omega,fun j' hj'=>?_,⟨fun j' hj'=>?_,List.pairwise_append.mpr ⟨ap.2,pairwise_singleton ..,fun a ha b hb s hs hs'=>?_⟩⟩,fun s=>?_⟩
    ·rcases mem_append.mp hj' with z | z
     ·exact jl j' z
     ·rw[mem_singleton.mp z];exact al
    ·rcases mem_append.mp hj' with z | z
     ·exact ap.1 j' z
     ·rw[mem_singleton.mp z];exact d1
    ·rw[mem_singleton.mp hb]at hs';have:s∈(Ms.getD j []).filter fun s=>decide (s∈us):=mem_filter.mpr ⟨hs',decide_eq_true ((mem s).mpr ⟨a,ha,hs⟩)⟩
     rw[d2]at this;cases this
    ·rw[mem_append,mem];constructor
     ·rintro(⟨j',hj',hs⟩ | hs)
      ·exact⟨j',mem_append_left _ hj',hs⟩
      ·exact⟨_,mem_append_right _ mem_cons_self,hs⟩
     ·rintro⟨j',hj',hs⟩;rcases mem_append.mp hj' with z | z
      ·exact .inl ⟨j',z,hs⟩
      ·rw[mem_singleton.mp z]at hs;exact .inr hs
   ·walk_at"g";exact⟨_,_,_,pu',is,us,_,_,rfl,npu,npp,x08,s58 _ _ e5s,s58 _ _ e5u,s58 _ _ e5,y02.1,y02.2,by omega,by omega,jl,ap,mem⟩
  ·walk_at"g";exact⟨_,_,_,pu',is,us,_,_,rfl,npu,npp,x05.trans (.of s67),s67 _ _ e5s,s67 _ _ e5u,s67 _ _ e5,y02.1,y02.2,by omega,by omega,jl,ap,mem⟩
 rintro σ H4 ⟨o9,o10,o11,pu',is,us,x4,y4,rfl,npu,npp,x04,e4s,e4u,e4,y40,y41,il,ul,jl,ap,mem⟩;exists⟨_,_,rfl,.inl ⟨_,SqL.of e4s,rfl⟩,?_⟩;rw[length_map,length_map];exists iteD (fun c2=>?_) (fun c2=>?_)
 ·walk_at"g";have o4:=of.ex x04;refine ixLm (SqL.of (o4 _ _ eb).2) rfl ?_;walk_at"g";have r2:=Jo (x:=x4) (y:=y4) b01;refine⟨p,x4,y4,_,rfl,e4,by omega,by omega,y40,y41,fun H5 x5 e5=>?_⟩;exists⟨(by show 2<=sizeLine;omega),?_⟩;walk_at"f b6 hb6 H6 s6 t6";exact q b6 (.hold (1+(tkB x4 y4 b0).1)) H6 (x04.trans (x5.trans (.of s6))) t6 ⟨by omega,by omega⟩
 exists⟨ps,_,rfl,.inl ⟨SqL.of e4s,?_⟩⟩;walk_at"f b5 hb5 H5 s5 t5";exists⟨(by show 2<=sizeLine;omega),?_⟩;walk_at"f b6 hb6 H6 s6 t6";exact q b6 (.side is) H6 (x04.trans (.of (s5.trans s6))) ⟨b5,t6,s6 _ _ t5⟩ ⟨by omega,by omega,jl,ap.n N.il⟩
theorem yQ(T:Txt K mg t)(jB:FnOk P w K mg base CX0 2 t.qc t.qf ["_law_pool","_law_many"] (sp_takeB))(zB:FnOk P w K mg base CX0 3 t.qx t.qz ["_law_pool","_law_kind","_law_names","_law_movers","_law_bounds"] (sp_namingB)):FnOk P w K mg base CX0 4 t.JO t.JT ["_law_pool","_law_names","_law_movers","_law_limbs","_law_bounds"] (sp_formT):=by
 refine T.zK.ok JG (fun vs H Q E h=>?_) (fun cdv A outer s H vs Q E hr h=>?_)
 ·cases h;subst_vars;rfl
 obtain⟨p,nl,ml,pl,bd,x,y,H0,mas,las,ls,nm,Ms,b0,b1,b2,b3,b4,rfl,ep,y0,y1,of,N,Lm,Bd,q⟩:=h;refine⟨_,(jb (jp (i:=5) JG.nd rfl (.inl rfl) (jh (jB.mono (by decide)) hr (by rfl) T.jL T.jI.kp T.jK .nil pass0 (ja (pv 0) (ja jd jc))))
  (jb (jT (PW.pt (Qk (jk zP (pv 5) jd (nomark _)) (qD (jk (xD hr.units) (pv 1) (jG jc) (nomark _)))))
   (jf (jv (jh (zB.mono (by decide)) hr (by rfl) T.Kb T.Z3.kp T.kY .nil pass0 (ja (pv 0) (ja (pv 5) (ja (pv 1) (ja (pv 2) (ja (pv 4) jc))))))))
   jt)
  (jb (jp (i:=6) JG.nd rfl (.inl rfl) (jo jO jd (jh (jB.mono (by decide)) hr (by rfl) T.jL T.jI.kp T.jK .nil pass0 (ja (pv 0) (ja (ji jq (pv 4) (jh (jB.mono (by decide)) hr (by rfl) T.jL T.jI.kp T.jK .nil pass0 (ja (pv 0) (ja jd jc)))) jc)))))
  (jb (jT (jk zx (pv 5) jd (nomark _))
   (jb (jp (i:=7) JG.nd rfl (.inl rfl) (ji jw (ji jq (pv 3) (jh (jB.mono (by decide)) hr (by rfl) T.jL T.jI.kp T.jK .nil pass0 (ja (pv 0) (ja (jA jW (by rfl) T.qe Ju (ja (pv 3) jc)) jc)))) jd))
   (jf (jv (jR (ja jD (ja (pv 7) (ja (jh (jB.mono (by decide)) hr (by rfl) T.jL T.jI.kp T.jK .nil pass0 (ja (pv 0) (ja (ji jq (pv 4) jd) jc))) (ja (pv 6) jc))))))))
   jt)
  (jb (jT (jk Jn (pv 5) jd (nomark _))
   (jb (jp (i:=8) JG.nd rfl (.inl rfl) (jo Yx (jG (ja jD (ja jD (ja jD jc)))) (zQ XI (pv 1) Z1 (Zl jd))))
   (jf (jv (jR (ja jD (ja (ji jq (pv 8) (jh (jB.mono (by decide)) hr (by rfl) T.jL T.jI.kp T.jK .nil pass0 (ja (pv 0) (ja (jA jW (by rfl) T.qe Ju (ja (pv 8) jc)) jc)))) (ja (pv 6) jc)))))))
   jt)
  (jf (jv (jR (ja jD (ja (pv 6) jc)))))))))),?_⟩
 refine jz (σ':=[some _,some _,some _,some _,some _,none,none,none,none]) rfl ?_;have sz:(200:Nat)<sizeLine:=by decide
 have n20:=N.n20;obtain⟨eb,b01,b02,b11,b12,b21,b22,b31,b32,b41,b42⟩:=Bd;walk_at"g";have r:=Jo (x:=x) (y:=y) (m:=8) (by omega);have y01:=JH (x:=x) (m:=8) y0 y1;refine⟨p,x,y,_,rfl,ep,by omega,by omega,y0,y1,fun H1 x1 e1=>?_⟩;generalize tkB x y 8=T at r y01 e1|-;have o1:=of.ex x1;exists iteD (fun c=>?_) (fun c=>?_)
 ·exists⟨Nat.zero_le _,?_⟩;walk_at"f e3 he3 H3 s3 t3";have o3:=o1.ex (.of s3);refine⟨_,_,.lst (o3 _ _ N.en).2 (Q1 _),X0 t3,shpB N.w,shp0,?_⟩;rw[eqvB];exists iteN (fun d=>?_) (fun d=>?_)
  ·walk_at"g";exact⟨p,nl,ml,bd,_,_,_,H0,mas,_,nm,Ms,b0,b1,b2,b3,b4,rfl,s3 _ _ e1,y01.1,y01.2,o3,N,length_pos_iff.mpr d,⟨eb,b01,b02,b11,b12,b21,b22,b31,b32,b41,b42⟩,fun a f H' x' hf pre=>q a f H' (x1.trans ((Ex.of s3).trans x')) hf pre⟩
  ·walk_at"g";have r2:=Jo (x:=T.2.1) (y:=T.2.2) (m:=2) (by omega);have y02:=JH (x:=T.2.1) (m:=2) y01.1 y01.2;refine⟨p,_,_,_,rfl,s3 _ _ e1,by omega,by omega,y01.1,y01.2,fun H4 x4 e4=>?_⟩;generalize tkB T.2.1 T.2.2 2=T2 at r2 y02 e4|-;have o4:=o3.ex x4;obtain⟨bx,ebx,bx1,bx2⟩:=at01 (b2:=b2) (b3:=b3) (b4:=b4) ⟨b01,b02⟩ ⟨b11,b12⟩ r2.1 r2.2;refine ixLm (SqL.of (o4 _ _ eb).2) (ebx) ?_;walk_at"g";have r3:=Jo (x:=T2.2.1) (y:=T2.2.2) (m:=bx) bx1;refine⟨p,_,_,_,rfl,e4,by omega,by omega,y02.1,y02.2,fun H5 x5 e5=>?_⟩;exists iteD (fun c3=>?_) (fun c3=>?_)
   ·exact absurd c3 (by omega)
   exists iteD (fun c4=>?_) (fun c4=>?_)
   ·exact absurd c4 (by omega)
   exists⟨(by show 2<=sizeLine;omega),?_⟩;walk_at"f b6 hb6 H6 s6 t6";exact q b6 (.hold (1+(tkB T2.2.1 T2.2.2 bx).1)) H6 (x1.trans ((Ex.of s3).trans (x4.trans (x5.trans (.of s6))))) t6 ⟨by omega,by omega⟩
 refine iteF ?_;walk_at"g";have r2:=Jo (x:=T.2.1) (y:=T.2.2) (m:=2) (by omega);have y02:=JH (x:=T.2.1) (m:=2) y01.1 y01.2;refine⟨p,_,_,_,rfl,e1,by omega,by omega,y01.1,y01.2,fun H4 x4 e4=>?_⟩;generalize tkB T.2.1 T.2.2 2=T2 at r2 y02 e4|-;have o4:=o1.ex x4;obtain⟨bx,ebx,bx1,bx2⟩:=at01 (b2:=b2) (b3:=b3) (b4:=b4) ⟨b01,b02⟩ ⟨b11,b12⟩ r2.1 r2.2;refine ixLm (SqL.of (o4 _ _ eb).2) (ebx) ?_;walk_at"g";have r3:=Jo (x:=T2.2.1) (y:=T2.2.2) (m:=bx) bx1;have y03:=JH (x:=T2.2.1) (m:=bx) y02.1 y02.2;refine⟨p,_,_,_,rfl,e4,by omega,by omega,y02.1,y02.2,fun H5 x5 e5=>?_⟩;generalize tkB T2.2.1 T2.2.2 bx=T3 at r3 y03 e5|-;have o5:=o4.ex x5;have x05:=x1.trans (x4.trans x5);have l1:=Lm.l1;have lal:=Lm.la.1;have l8:=N.l8;rw[show(nmsOf ls).length=ls.length from length_map _]at l8;exists iteD (fun c3=>?_) (fun c3=>?_)
 ·exists⟨_,_,rfl,.inl ⟨_,SqL.of (o5 _ _ Lm.el).2,rfl⟩,?_⟩;rw[length_map,lal];walk_at"g";have r4:=Jo (x:=T3.2.1) (y:=T3.2.2) (m:=(ls.length:Int)) (by omega);have y04:=JH (x:=T3.2.1) (m:=(ls.length:Int)) y03.1 y03.2;refine⟨p,_,_,_,rfl,e5,by omega,by omega,y03.1,y03.2,fun H6 x6 e6=>?_⟩;generalize tkB T3.2.1 T3.2.2 (ls.length:Int)=T4 at r4 y04 e6|-;obtain⟨j,ej⟩:∃j:Nat,T4.1=(j:Int):=⟨T4.1.toNat,by omega⟩
  rw[ej]at r4|-;have jl:j<ls.length:=by omega
  have o6:=o5.ex x6;obtain⟨lk,hlk,elk⟩:=Lm.la.get (List.getElem?_eq_getElem jl);refine ixLm (SqL.of (o6 _ _ Lm.el).2) (jY (j:=j) (by rw[List.getElem?_map,hlk];rfl)) ?_;exists ixTm (SqT.of (o6 _ _ elk).2) rfl ?_;exists ixLm (SqL.of (o6 _ _ eb).2) rfl ?_;walk_at"g";have r5:=Jo (x:=T4.2.1) (y:=T4.2.2) (m:=b2) b21;refine⟨p,_,_,_,rfl,e6,by omega,by omega,y04.1,y04.2,fun H7 x7 e7=>?_⟩;generalize tkB T4.2.1 T4.2.2 b2=T5 at r5 e7|-;exists⟨(by show 4<=sizeLine;omega),?_⟩;walk_at"f b6 hb6 H8 s8 t8";refine q b6 (.rise ls[j].1 T5.1 (1+T3.1)) H8 (x05.trans (x6.trans (x7.trans (.of s8)))) t8 ⟨⟨j,?_⟩,r5.1,by omega,by omega,by omega⟩;unfold nmsOf;rw[List.getElem?_map,List.getElem?_eq_getElem jl];rfl
 exists iteD (fun c4=>?_) (fun c4=>?_)
 ·exists⟨(by show 3<=sizeLine;omega),?_⟩;walk_at"f b3' hb3' H6 s6 t6";exists⟨nl,_,rfl,SqL.of (s6 _ _ (o5 _ _ N.en).2),?_⟩;walk_at"f b4' hb4' H7 s7 t7";have cl:=zr (nm.map V.str) none (some 1);rw[length_map]at cl;refine⟨b3',b4',_,_,rfl,rfl,s7 _ _ t6,t7,by show 3+_<=sizeLine;omega,?_⟩;walk_at"f b5' hb5' H8 s8 t8";have s58:=s6.trans (s7.trans s8);have n5:b5'≠p:=(je (s7 _ _ (s6 _ _ e5)) hb5').symm;exists⟨_,_,rfl,.inl ⟨_,SqL.of t8,rfl⟩,?_⟩;walk_at"g";have r4:=Jo (x:=T3.2.1) (y:=T3.2.2) (m:=((([V.str "ding",V.str "dong",V.str "din"]++cutV (nm.map V.str) none (some 1)).length:Nat):Int)) (by rw[List.length_append];show 1<=(((3+_:Nat)):Int);omega);refine⟨p,_,_,_,rfl,s58 _ _ e5,by rw[List.length_append];show 1<=(((3+_:Nat)):Int);omega,by rw[List.length_append];show(((3+_:Nat)):Int)<=_;omega,y03.1,y03.2,fun H9 x9 e9=>?_⟩;generalize tkB T3.2.1 T3.2.2 ((([V.str "ding",V.str "dong",V.str "din"]++cutV (nm.map V.str) none (some 1)).length:Nat):Int)=T4 at r4 e9|-;have hw0:∀v∈[V.str "ding",V.str "dong",V.str "din"]++cutV (nm.map V.str) none (some 1),∃w:Str,v = .str w/\Ws.isW w=true:=fun v hv=>by
   rcases mem_append.mp hv with z | z
   ·rcases mem_cons.mp z with rfl | z
    ·exact⟨_,rfl,by decide +kernel⟩
    ·rcases mem_cons.mp z with rfl | z
     ·exact⟨_,rfl,by decide +kernel⟩
     ·rw[mem_singleton.mp z];exact⟨_,rfl,by decide +kernel⟩
   ·obtain⟨w',hw',rfl⟩:=mem_map.mp (Xg z);exact⟨w',rfl,N.w w' hw'⟩
  obtain⟨w',hw',ww⟩:=ke (k:=T4.1) hw0 r4.1 r4.2;refine ixLm (SqL.of (x9 _ _ n5 t8)) (hw') ?_;exists⟨(by show 3<=sizeLine;omega),?_⟩;walk_at"f b8 hb8 H10 s10 t10";exact q b8 (.ring w' (1+T3.1)) H10 (x05.trans ((Ex.of s58).trans (x9.trans (.of s10)))) t10 ⟨by omega,by omega,ww⟩
 exists⟨(by show 2<=sizeLine;omega),?_⟩;walk_at"f b6 hb6 H6 s6 t6";exact q b6 (.hold (1+T3.1)) H6 (x05.trans (.of s6)) t6 ⟨by omega,by omega⟩
theorem yP(T:Txt K mg t)(jF:FnOk P w K mg base CX0 1 t.Jh t.Jj ["_law_script","_law_k"] (Pr.sp_cell_at K))(jM:FnOk P w K mg base CX0 1 t.JA t.JB ["_law_cell","_law_k"] (y6))(JY:FnOk P w K mg base CX0 1 t.qN t.qR ["_law_place","_law_k"] (sp_wordB))(JX:FnOk P w K mg base CX0 1 t.qM t.qQ ["_law_form_here","_law_known"] (sp_longB))(qi:FnOk P w K mg base CX0 1 t.qj t.qo ["_law_form_here","_law_names","_law_movers"] (sp_movesB))(qJ:FnOk P w K mg base CX0 1 t.qL t.qP ["_law_names","_law_known","_law_most"] (sp_lastB))(jB:FnOk P w K mg base CX0 2 t.qc t.qf ["_law_pool","_law_many"] (sp_takeB))(Qr:FnOk P w K mg base CX0 4 t.JO t.JT ["_law_pool","_law_names","_law_movers","_law_limbs","_law_bounds"] (sp_formT)):FnOk P w K mg base CX0 5 t.JN t.JS ["_law_script","_law_many","_law_bounds"] (sp_bookB K):=by
 refine T.zJ.ok ju (fun vs H Q E h=>?_) (fun cdv A outer s H vs Q E hr h=>?_)
 ·cases h;subst_vars;rfl
 obtain⟨a,bd,ns,many,b0,b1,b2,b3,b4,rfl,hS,h63,m2,m16,Bd,q⟩:=h;refine⟨_,(jb (jp (i:=3) ju.nd rfl (.inl rfl) (jG (ja (jo Jf (jA kf (by rfl) T.j0s W3 (ja (jh (jF.mono (by decide)) hr (by rfl) T.Jk T.j7.kp T.Jg .nil pass0 (ja (pv 0) (ja jd jc))) jc)) jd) (ja jd jc))))
  (jb (jp (i:=4) ju.nd rfl (.inl rfl) (jh (jB.mono (by decide)) hr (by rfl) T.jL T.jI.kp T.jK .nil pass0 (ja (pv 3) (ja jd jc))))
  (jb (jp (i:=5) ju.nd rfl (.inl rfl) (jG jc))
  (jb (Jp PassesOwn.never rfl (Qy (by rfl) T.Zd (ja (jo jO jd (jh (jB.mono (by decide)) hr (by rfl) T.jL T.jI.kp T.jK .nil pass0 (ja (pv 3) (ja jd jc)))) jc)) (jr (i:=6) ju.nd rfl (.inl rfl))
   (jf (jU (JK PySem.F.plainAttrs_list PySem.F.slot_list_append PySem.F.type_list_append jH (pv 5) (ja (jR (ja (jh (JY.mono (by decide)) hr (by rfl) T.zw T.QI.kp T.zp .nil pass0 (ja (pv 4) (ja (pv 6) jc))) (ja (jh (jB.mono (by decide)) hr (by rfl) T.jL T.jI.kp T.jK .nil pass0 (ja (pv 3) (ja (ji jq (pv 2) jd) jc))) jc))) jc)))))
  (jb (jp (i:=7) ju.nd rfl (.inl rfl) (jh (jB.mono (by decide)) hr (by rfl) T.jL T.jI.kp T.jK .nil pass0 (ja (pv 3) (ja (jo jO (jo Qj jd (pv 1)) jd) jc))))
  (jb (jp (i:=8) ju.nd rfl (.inl rfl) (jh (jB.mono (by decide)) hr (by rfl) T.jL T.jI.kp T.jK .nil pass0 (ja (pv 3) (ja jd jc))))
  (jb (jp (i:=9) ju.nd rfl (.inl rfl) (jG jc))
  (jb (jp (i:=10) ju.nd rfl (.inl rfl) (jG jc))
  (jb (jp (i:=11) ju.nd rfl (.inl rfl) yS)
  (jb (jp (i:=12) ju.nd rfl (.inl rfl) (jG jc))
  (jb (Jp PassesOwn.never rfl (Qy (by rfl) T.Zd (ja (jo jO (pv 1) jd) jc)) (jr (i:=6) ju.nd rfl (.inl rfl))
   (jb (jp (i:=13) ju.nd rfl (.inl rfl) (jA kf (by rfl) T.j0s W3 (ja (jh (jF.mono (by decide)) hr (by rfl) T.Jk T.j7.kp T.Jg .nil pass0 (ja (pv 0) (ja (jo jO jd (pv 6)) jc))) jc)))
   (jb (jp (i:=14) ju.nd rfl (.inl rfl) (jG (ja (pv 13) (ja (jh (jM.mono (by decide)) hr (by rfl) T.JC T.Jq.kp T.Jz .nil pass0 (ja (pv 13) (ja (jo jO jd (pv 6)) jc))) jc))))
   (jb (qF (jk zx (pv 13) (jo Qv jd jd) (nomark _))
    (jf (Yz jd (kI (pv 14) jd set_list)))
    jt)
   (jb (jp (i:=15) ju.nd rfl (.inl rfl) (jh (Qr.mono (by decide)) hr (by rfl) T.Yu T.zK.kp T.Yb .nil pass0 (ja (pv 14) (ja (pv 9) (ja (pv 10) (ja (pv 5) (ja (pv 2) jc)))))))
   (jb (qF (PW.pt (Qk (jk Jn (pv 6) (pv 1) (nomark _)) (qD (jk Jn (pv 8) jd (nomark _)))))
    (jf (jp (i:=15) ju.nd rfl (.inl rfl) (jR (ja jD (ja (jh (qJ.mono (by decide)) hr (by rfl) T.YR T.Zw.kp T.YE .nil pass0 (ja (pv 9) (ja (pv 11) (ja (ji jq (pv 2) jd) jc)))) jc)))))
    jt)
   (jb (qF (jk zP (jh (JX.mono (by decide)) hr (by rfl) T.zu T.QH.kp T.zo .nil pass0 (ja (pv 15) (ja (pv 11) jc))) (ji jq (pv 2) jd) (nomark _))
    (jf (jp (i:=15) ju.nd rfl (.inl rfl) (jR (ja jD (ja jd jc)))))
    jt)
   (jb (jU (JK PySem.F.plainAttrs_list PySem.F.slot_list_append PySem.F.type_list_append jH (pv 10) (ja (jh (qi.mono (by decide)) hr (by rfl) T.yJ T.zX.kp T.yn .nil pass0 (ja (pv 15) (ja (pv 9) (ja (pv 10) jc)))) jc)))
   (jb (jp (i:=16) ju.nd rfl (.inl rfl) (jh (JY.mono (by decide)) hr (by rfl) T.zw T.QI.kp T.zp .nil pass0 (ja (pv 4) (ja (jo jO jd (pv 6)) jc))))
   (jb (qF (jk Jn (pv 6) (pv 7) (nomark _))
    (jf (jp (i:=16) ju.nd rfl (.inl rfl) (ji jw (ji jq (pv 5) (jo j5 (pv 6) (jA jW (by rfl) T.qe Ju (ja (pv 5) jc)))) jd)))
    jt)
   (jb (jU (JK PySem.F.plainAttrs_list PySem.F.slot_list_append PySem.F.type_list_append jH (pv 9) (ja (pv 16) jc)))
   (jb (jU (JK PySem.F.plainAttrs_list PySem.F.slot_list_append PySem.F.type_list_append jH (pv 12) (ja (jR (ja (pv 16) (ja (pv 15) jc))) jc)))
   (jf (Y6 (zN hr) (pv 11) (pv 16) (jh (JX.mono (by decide)) hr (by rfl) T.zu T.QH.kp T.zo .nil pass0 (ja (pv 15) (ja (pv 11) jc))) rfl))))))))))))))
  (jf (jv (jR (ja (jR (ja (pv 5) (ja (pv 12) jc))) (ja (Q3 (zN hr) (pv 11) (ji jq (pv 9) (pv 1))) jc)))))))))))))))),?_⟩
 refine jz (σ':=[some _,some _,some _,none,none,none,none,none,none,none,none,none,none,none,none,none,none]) rfl ?_;have sz:(200:Nat)<sizeLine:=by decide
 obtain⟨eb,b01,b02,b11,b12,b21,b22,b31,b32,b41,b42⟩:=Bd;exists⟨a,ns,_,rfl,hS,h63,by omega,?_⟩;refine⟨_,rfl,?_⟩;exists⟨(by show 2<=sizeLine;omega),?_⟩;walk_at"f po hpo H1 s1 t1";generalize(if Pr.cell ns 0<0 then -Pr.cell ns 0 else Pr.cell ns 0)/2=x0 at t1;walk_at"g";have r1:=Jo (x:=x0) (y:=7) (m:=3) (by omega);have y1:=JH (x:=x0) (y:=7) (m:=3) (by decide) (by decide);refine⟨po,_,_,_,rfl,t1,by omega,by omega,by omega,by omega,fun H2 x2 e2=>?_⟩;generalize tkB x0 7 3=T1 at r1 y1 e2|-;obtain⟨p,e3⟩:∃p:Nat,T1.1=(p:Int):=⟨T1.1.toNat,by omega⟩
 have hp:p<3:=by omega
 have s2:Same H H2:=fun c u h=>x2 _ _ (je h hpo) (s1 _ _ h)
 rw[e3];clear s1 x2;exists⟨Nat.zero_le _,?_⟩;walk_at"f pl hpl H3 s3 t3";have npp:pl≠po:=(je e2 hpl).symm;walk_at"g";have r2:=Jo (x:=T1.2.1) (y:=T1.2.2) (m:=4) (by omega);have y2:=JH (x:=T1.2.1) (m:=4) y1.1 y1.2;refine⟨po,_,_,_,rfl,s3 _ _ e2,by omega,by omega,y1.1,y1.2,fun H4 x4 e4=>?_⟩;generalize tkB T1.2.1 T1.2.2 4=T2 at r2 y2 e4|-;have s4:Same H H4:=fun c u h=>x4 _ _ (je h hpo) (s3 _ _ (s2 _ _ h))
 have t4:=x4 _ _ npp t3;have hpl':H pl=none:=none_of s2 hpl;clear s2 s3 x4 t3 hpl;exists⟨_,rfl,by omega,by omega,?_⟩;refine za (fun i σ H'=>∃(o6:Option V) (las:List Addr) (ls:List (Str×Int)) (x y:Int),σ=[some (.ref a),some (.int (many:Nat)),some (.ref bd),some (.ref po),some (.int (p:Nat)),some (.ref pl),o6,none,none,none,none,none,none,none,none,none,none]/\Same H H'/\H' pl=some (.lst (las.map V.ref))/\All2 (LimbAt H') las ls/\nmsOf ls=lmB p i/\ls.length=i/\(∀q∈ls,0<=q.2/\q.2<=10^18)/\H' po=some (.lst [.int x,.int y])/\0<=y/\y<10^30+57) ⟨_,[],[],_,_,rfl,s4,t4,.nil,rfl,rfl,(fun q h=>nomatch h),e4,y2⟩ ?_ ?_
 ·rintro i σ H' hi ⟨o6,las,ls,x,y,rfl,sm,el,la,nm,ll,lh,ep,y0,y1'⟩;have i4:i<4:=by omega
  have lal:=la.1;exists⟨.inl ⟨rfl,_,SqL.of el⟩,?_⟩;exists⟨p,i,by rw[Int.zero_add];rfl,hp,by omega,?_⟩;exists ixLm (SqL.of (sm _ _ eb)) rfl ?_;walk_at"g";have r3:=Jo (x:=x) (y:=y) (m:=b2) b21;have y3:=JH (x:=x) (m:=b2) y0 y1';refine⟨po,_,_,_,rfl,ep,by omega,by omega,y0,y1',fun H2 x2 e2=>?_⟩;generalize tkB x y b2=T3 at r3 y3 e2|-;have kp:∀c xs,H' c=some (.tup xs)->H2 c=some (.tup xs):=fun c xs h=>x2 _ _ (Jv h ep fun z=>by cases z) h
  have el2:=x2 _ _ npp el;exists⟨(by show 2<=sizeLine;omega),?_⟩;walk_at"f 3 t";exists⟨pl,_,_,rfl,rfl,s3 _ _ el2,by rw[length_map];omega,?_⟩;have kt:∀c xs,H3 c=some (.tup xs)->upd H3 pl (.lst (las.map V.ref++[.ref p3])) c=some (.tup xs):=fun c xs h=>(jg (Jv h (s3 _ _ el2) fun z=>by cases z)).trans h
  refine⟨_,las++[p3],ls++[(wdB p i,T3.1)],_,_,rfl,fun c u h=>?_,by rw[jx,map_append];rfl,(la.mono fun c x h=>kt _ _ (s3 _ _ (kp _ _ h))).snoc (kt _ _ t3),?_,by rw[List.length_append,ll];rfl,fun q hq=>?_,(jg npp.symm).trans (s3 _ _ e2),y3⟩
  ·exact(jg (je h hpl')).trans (s3 _ _ (x2 _ _ (je h hpo) (sm _ _ h)))
  ·rw[Wr,<-nm];unfold nmsOf;rw[map_append];rfl
  ·rcases mem_append.mp hq with z | z
   ·exact lh q z
   ·rw[mem_singleton.mp z];exact⟨r3.1,by show T3.1<=10^18;omega⟩
 rintro σ' H5 ⟨o6,las,ls,x,y,rfl,sm5,el5,la5,nm,ll,lh,ep5,y0,y1'⟩;clear s4 t4 e4 e2 H2 H3 H4;have m1:1<=ls.length:=by omega
 have m4:ls.length<=4:=by omega
 replace nm:nmsOf ls=lmB p ls.length:=by rw[nm,ll]
 obtain⟨lnd,lW⟩:=j0V (m:=ls.length) hp (by omega);rw[<-nm]at lnd lW;clear ll;have Ll:(nmsOf ls).length=ls.length:=length_map _;have lal:=la5.1;walk_at"g";have r3:=Jo (x:=x) (y:=y) (m:=2*(many:Int)+2) (by omega);have y3:=JH (x:=x) (m:=2*(many:Int)+2) y0 y1';refine⟨po,_,_,_,rfl,ep5,by omega,by omega,y0,y1',fun H6 x6 e6=>?_⟩;generalize tkB x y (2*(many:Int)+2)=T3 at r3 y3 e6|-;have r4:=Jo (x:=T3.2.1) (y:=T3.2.2) (m:=2) (by omega);exists⟨po,_,_,_,rfl,e6,by omega,by omega,y3.1,y3.2,fun H2 x7 e7=>?_⟩;generalize tkB T3.2.1 T3.2.2 2=T4 at r4 e7|-;have sm:Same H H2:=fun c u h=>x7 _ _ (je h hpo) (x6 _ _ (je h hpo) (sm5 _ _ h))
 have el:=x7 _ _ npp (x6 _ _ npp el5);have la:All2 (LimbAt H2) las ls:=la5.mono fun c x h=>x7 _ _ (Jv h ep5 fun z=>by cases z) (x6 _ _ (Jv h ep5 fun z=>by cases z) h)
 clear sm5 el5 la5 x6 x7 e6 e7 ep5 H5 H6;obtain⟨cc,ecc⟩:∃cc:Nat,T3.1=(cc:Int):=⟨T3.1.toNat,by omega⟩
 rw[ecc];generalize T4.1=en4;obtain⟨nd,nW⟩:=j15 (p:=p) (st:=5) (c:=cc) (m:=ls.length) hp m1 (by omega) (by omega);have ng:∀{k:Nat},k<17->(nmB p 5 cc ls.length).getD k ⟨#[]⟩=wdB p (ixB 5 cc ls.length k):=fun h=>Xw h
 have nL:=Xx (p:=p) (st:=5) (c:=cc) (m:=ls.length);generalize nmB p 5 cc ls.length=names at nd nW ng nL;exists⟨Nat.zero_le _,?_⟩;walk_at"f nl hnl H3 s3 t3";exists⟨Nat.zero_le _,?_⟩;walk_at"f ml hml H4 s4 t4";walk_at"g";walk_at"f d hd' H5 s5 t5";exists⟨Nat.zero_le _,?_⟩;walk_at"f pp hpp H6 s6 t6";have s36:=s4.trans (s5.trans s6);have s26:=s3.trans s36;have BB:BkB pl nl ml d pp las [] [] ls names [] [] [] b4 H6:=by
  refine⟨⟨s36 _ _ t3,s6 _ _ (s5 _ _ t4),.nil,(fun ks hk=>nomatch hk),rfl,Nat.zero_le _,by omega,(fun x hx=>nomatch hx),lW⟩,⟨s26 _ _ el,la.mono fun c x h=>s26 _ _ h,m1⟩,s6 _ _ t5,t6,.nil,⟨rfl,rfl,(fun i f h=>by simp at h),fun i h=>absurd h (Nat.not_lt_zero i)⟩,fun j hj=>absurd hj (Nat.not_lt_zero j),Nat.zero_le _⟩
 have SS:SpB pl nl ml pp bd []:=⟨je el hnl,je (s3 _ _ el) hml,je (s5 _ _ (s4 _ _ (s3 _ _ el))) hpp,je t3 hml,je (s5 _ _ (s4 _ _ t3)) hpp,je (s5 _ _ t4) hpp,je (sm _ _ eb) hnl,je (s3 _ _ (sm _ _ eb)) hml,je (s5 _ _ (s4 _ _ (s3 _ _ (sm _ _ eb)))) hpp,(fun x hx=>nomatch hx)⟩
 have hN1:H nl=none:=none_of sm hnl;have hM1:H ml=none:=none_of (sm.trans s3) hml;have hD1:H d=none:=none_of (sm.trans (s3.trans s4)) hd';have hP1:H pp=none:=none_of (sm.trans (s3.trans (s4.trans s5))) hpp;have sm6:=sm.trans s26;clear s26 s36 t3 t4 t5 t6 el la sm s3 s4 s5 s6 hnl hml hd' hpp;exists⟨_,rfl,by omega,by omega,?_⟩;refine za (fun i σ H'=>∃(o5 o11 o12 o13 o14:Option V) (pas mas:List Addr) (fs:List Fn) (Ms:List (List Str)) (gs:List Int),σ=[some (.ref a),some (.int (many:Nat)),some (.ref bd),some (.ref po),some (.int (p:Nat)),some (.ref pl),o5,some (.int (cc:Nat)),some (.int en4),some (.ref nl),some (.ref ml),some (.ref d),some (.ref pp),o11,o12,o13,o14]/\Same H H'/\BkB pl nl ml d pp las pas mas ls names fs Ms gs b4 H'/\SpB pl nl ml pp bd mas/\fs.length=i)
  ⟨_,_,_,_,_,[],[],[],[],[],rfl,sm6,BB,SS,rfl⟩ ?_ ?_
 ·rintro i σ H7 hi ⟨o5,o11,o12,o13,o14,pas,mas,fs,Ms,gs,rfl,sm,C,S,fl⟩;have i16:i<17:=by omega
  have tl:(names.take fs.length).length=fs.length:=by rw[length_take];omega
  have pal:pas.length=fs.length:=C.pa.1.trans Q9;have gl:=C.dk.gl;have Ml:Ms.length=fs.length:=by have:=C.n.ml;omega
  have mal:mas.length=fs.length:=by have:=C.n.am.1;omega
  have tnd:(names.take fs.length).Nodup:=nd.sublist (take_sublist _ _);have ng1:∀j,j<fs.length->1<=gs.getD j 0/\gs.getD j 0<=b4:=fun j hj=>⟨(C.dk.g j hj).1,C.gb j hj⟩
  exists⟨a,ns,_,rfl,sm.seq hS,h63,by omega,?_⟩;refine⟨_,rfl,?_⟩;walk_at"g";generalize(if Pr.cell ns (1+(0+(i:Int)))<0 then -Pr.cell ns (1+(0+(i:Int)))else Pr.cell ns (1+(0+(i:Int))))=num;refine⟨_,_,rfl,by omega,by omega,?_⟩;have nb:=QT num (1+(0+(i:Int)));generalize mixB num (1+(0+(i:Int)))=yo at nb|-;exists⟨(by show 2<=sizeLine;omega),?_⟩;walk_at"f ow how Ha sa ta";exists⟨fun σ' H'=>∃xo:Int,σ'=[some (.ref a),some (.int (many:Nat)),some (.ref bd),some (.ref po),some (.int (p:Nat)),some (.ref pl),some (.int (0+(i:Int))),some (.int (cc:Nat)),some (.int en4),some (.ref nl),some (.ref ml),some (.ref d),some (.ref pp),some (.int num),some (.ref ow),o13,o14]/\Same H7 H'/\H' ow=some (.lst [.int xo,.int yo]),?_,?_⟩
  rotate_left
  ·exists iteD (fun c=>?_) (fun c=>?_)
   ·exists⟨ow,_,_,0,rfl,rfl,ta,rfl,?_⟩;exact⟨0,rfl,fun c u h=>(jg (je h how)).trans (sa _ _ h),jx⟩
   ·walk_at"g";exact⟨num,rfl,sa,ta⟩
  rintro σ' Hb ⟨xo,rfl,sb,tb⟩;have ob:Off ow H7 Hb:=fun c u h=>⟨je h how,sb _ _ h⟩
  exists⟨ow,nl,ml,pl,bd,xo,yo,H7,mas,las,ls,names.take fs.length,Ms,b0,b1,b2,b3,b4,rfl,tb,nb.1,nb.2,ob,C.n,C.l,⟨sm _ _ eb,b01,b02,b11,b12,b21,b22,b31,b32,b41,b42⟩,fun fa0 f0 H8 x8 hf0 pre0=>?_⟩;have s8:Same H7 H8:=(ob.ex x8).same;rw[tl]at pre0;have C8:=C.same s8;exists⟨fun σ' H'=>∃(fa:Addr) (f:Fn),σ'=[some (.ref a),some (.int (many:Nat)),some (.ref bd),some (.ref po),some (.int (p:Nat)),some (.ref pl),some (.int (0+(i:Int))),some (.int (cc:Nat)),some (.int en4),some (.ref nl),some (.ref ml),some (.ref d),some (.ref pp),some (.int num),some (.ref ow),some (.ref fa),o14]/\Same H8 H'/\FormAt H' fa (toldF (names.take fs.length) f)/\PreN (nmsOf ls) (Ms.map (plB (nmsOf ls))) fs.length f,?_,?_⟩
  rotate_left
  ·exists iteD (fun c=>?_) (fun c=>?_)
   ·exists iteD (fun c2=>?_) (fun c2=>?_)
    ·exists ixLm (SqL.of (s8 _ _ (sm _ _ eb))) rfl ?_;exists⟨nl,d,names.take fs.length,gs,b4,rfl,C8.n.en,C8.ed,tnd,by omega,by omega,by omega,fun j hj=>ng1 j (by omega),fun b is H9 s9 e9 ne l5 jl=>?_⟩;exists⟨(by show 2<=sizeLine;omega),?_⟩;walk_at"f fa hfa H10 s10 t10";walk_at"g";exact⟨fa,.row is,rfl,s9.trans s10,⟨b,t10,s10 _ _ e9⟩,ne,by omega,fun j hj=>by have:=jl j hj;omega⟩
    ·walk_at"g";exact⟨fa0,f0,rfl,Same.refl _,hf0,pre0⟩
   ·walk_at"g";exact⟨fa0,f0,rfl,Same.refl _,hf0,pre0⟩
  rintro σ' H9 ⟨fa1,f1,rfl,s9,hf1,pre1⟩;have C9:=C8.same s9;have sm9:=sm.trans (s8.trans s9);clear C8 C hf0 pre0 s8 s9 sm;exists⟨fun σ' H'=>∃(fa:Addr) (f:Fn) (g:Int),σ'=[some (.ref a),some (.int (many:Nat)),some (.ref bd),some (.ref po),some (.int (p:Nat)),some (.ref pl),some (.int (0+(i:Int))),some (.int (cc:Nat)),some (.int en4),some (.ref nl),some (.ref ml),some (.ref d),some (.ref pp),some (.int num),some (.ref ow),some (.ref fa),o14]/\Same H9 H'/\FormAt H' fa (toldF (names.take fs.length) f)/\PreN (nmsOf ls) (Ms.map (plB (nmsOf ls))) fs.length f/\LenN gs f g/\g<=b4,?_,?_⟩
  rotate_left
  ·exists⟨fa1,d,f1,names.take fs.length,gs,nmsOf ls,Ms.map (plB (nmsOf ls)),rfl,hf1,C9.ed,tnd,by omega,by rw[tl];exact pre1,fun j hj=>by have:=ng1 j (by omega);omega,fun g H10 s10 lg=>?_⟩;exists ixLm (SqL.of (s10 _ _ (sm9 _ _ eb))) rfl ?_;exists iteD (fun c=>?_) (fun c=>?_)
   ·exists⟨(by show 2<=sizeLine;omega),?_⟩;walk_at"f fa hfa H11 s11 t11";walk_at"g";exact⟨fa,.hold 1,1,rfl,s10.trans s11,t11,⟨by decide,by decide⟩,rfl,b41⟩
   ·walk_at"g";exact⟨fa1,f1,g,rfl,s10,FormAt.same s10 hf1,pre1,lg,by omega⟩
  rintro σ' H10 ⟨fa,f,g,rfl,s10,hf,pre,lg,gb⟩;have C10:=C9.same s10;have sm10:=sm9.trans s10;clear C9 hf1 pre1 s10 sm9;exists⟨.inl ⟨rfl,_,SqL.of C10.n.em⟩,?_⟩;exists⟨fa,nl,ml,mas,f,names.take fs.length,Ms,nmsOf ls,Ms.map (plB (nmsOf ls)),rfl,hf,C10.n.en,C10.n.em,C10.n.am,tnd,by omega,by omega,by rw[tl];exact pre,fun ks hk=>by have:=C10.n.il.len hk;omega,fun l ks H11 s11 hl el mv kl=>?_⟩;exists⟨ml,_,_,rfl,rfl,s11 _ _ C10.n.em,by rw[length_map];omega,?_⟩;generalize eG:upd H11 ml _=H12;have e12:H12 ml=some (.lst ((mas++[l]).map V.ref)):=by rw[map_append];exact qd eG
  have k12:∀c u,c≠ml->H11 c=some u->H12 c=some u:=fun c u hc h=>eG▸(jg hc).trans h
  clear eG;have k2:∀c u,c≠ml->H10 c=some u->H12 c=some u:=fun c u hc h=>k12 c u hc (s11 _ _ h)
  have lne:∀{c u},H10 c=some u->l≠c:=fun h=>(je h hl).symm
  have el12:=k12 _ _ (lne C10.n.em) el;have nmd:d≠ml:=Jv C10.ed C10.n.em (fun z=>by cases z);have nnd:d≠nl:=Jv C10.ed C10.n.en (fun z=>by cases z);have npd:d≠pp:=Jv C10.ed C10.ep (fun z=>by cases z);exists⟨p,5+i,by rw[show(5+(0+(i:Int)))=((5+i:Nat):Int) by omega];rfl,hp,by omega,?_⟩;exists⟨fun σ' H'=>σ'=[some (.ref a),some (.int (many:Nat)),some (.ref bd),some (.ref po),some (.int (p:Nat)),some (.ref pl),some (.int (0+(i:Int))),some (.int (cc:Nat)),some (.int en4),some (.ref nl),some (.ref ml),some (.ref d),some (.ref pp),some (.int num),some (.ref ow),some (.ref fa),some (.str (names.getD fs.length ⟨#[]⟩))]/\H12=H',?_,?_⟩
  rotate_left
  ·have nk:=ng i16;rw[<-fl]at nk;exists iteD (fun c=>?_) (fun c=>?_)
   ·have ic:i=cc:=by omega
    exists⟨_,_,rfl,.inl ⟨_,SqL.of (k2 _ _ S.lm C10.l.el),rfl⟩,?_⟩;rw[length_map,lal];walk_at"g";rw[show(0+(i:Int))%(ls.length:Int)=((i%ls.length:Nat):Int) by rw[Int.zero_add];exact(Int.natCast_emod _ _).symm];have jm:=Nat.mod_lt i (show 0<ls.length by omega);obtain⟨lk,hlk,elk⟩:=C10.l.la.get (List.getElem?_eq_getElem jm);have elk':H10 lk=some (.tup [.str (ls[i%ls.length]).1,.int (ls[i%ls.length]).2]):=elk;refine ixLm (SqL.of (k2 _ _ S.lm C10.l.el)) (jY (j:=i%ls.length) (by rw[List.getElem?_map,hlk];rfl)) ?_;exists ixTm (SqT.of (k2 _ _ (Jv elk' C10.n.em fun z=>by cases z) elk')) rfl ?_;exists⟨?_,rfl⟩;have ew:(ls[i%ls.length]).1=wdB p (i%ls.length):=by
     have h1:(nmsOf ls)[i%ls.length]?=some (ls[i%ls.length]).1:=by unfold nmsOf;rw[List.getElem?_map,List.getElem?_eq_getElem jm];rfl
     rw[nm,j0U jm]at h1;exact(Option.some.inj h1).symm
    rw[nk,fl];unfold ixB;rw[if_pos ic,ew]
   ·exists⟨?_,rfl⟩;rw[nk,fl];unfold ixB;rw[if_neg (by omega)]
  rintro σ' H12' ⟨rfl,rfl⟩;exists⟨.inl ⟨rfl,_,SqL.of (k2 _ _ S.nm C10.n.en)⟩,?_⟩;exists⟨nl,_,_,rfl,rfl,k2 _ _ S.nm C10.n.en,by rw[length_map];omega,?_⟩;generalize eG:upd H12 nl _=H13;have e13:H13 nl=some (.lst ((names.take (fs.length+1)).map V.str)):=by
   rw[take_snoc (show names[fs.length]?=some (names.getD fs.length ⟨#[]⟩) by rw[getD_eq_getElem?_getD,List.getElem?_eq_getElem (by omega)];rfl),map_append];exact qd eG
  have k13:∀c u,c≠nl->H12 c=some u->H13 c=some u:=fun c u hc h=>eG▸(jg hc).trans h
  clear eG;have a13:atI ((names.take (fs.length+1)).map V.str) (0+(i:Int))=some (.str (names.getD fs.length ⟨#[]⟩)):=by
   rw[<-fl,Int.zero_add];refine jY ?_;rw[List.getElem?_map,List.getElem?_take_of_lt (by omega),getD_eq_getElem?_getD,List.getElem?_eq_getElem (by omega)];rfl
  have k3:∀c u,c≠ml->c≠nl->H10 c=some u->H13 c=some u:=fun c u h1 h2 h=>k13 c u h2 (k2 c u h1 h)
  exists⟨.inl ⟨rfl,_,SqL.of (k3 _ _ S.mp.symm S.np.symm C10.ep)⟩,?_⟩;exists⟨(by show 2<=sizeLine;omega),?_⟩;walk_at"f c hc H14 s14 t14";exists⟨pp,_,_,rfl,rfl,s14 _ _ (k3 _ _ S.mp.symm S.np.symm C10.ep),by rw[length_map];omega,?_⟩;generalize eG:upd H14 pp _=H15;have e15:H15 pp=some (.lst ((pas++[c]).map V.ref)):=by rw[map_append];exact qd eG
  have k15:∀c u,c≠pp->H14 c=some u->H15 c=some u:=fun c u hc h=>eG▸(jg hc).trans h
  clear eG;have k4:∀c u,c≠ml->c≠nl->c≠pp->H10 c=some u->H15 c=some u:=fun c u h1 h2 h3 h=>k15 c u h3 (s14 _ _ (k3 c u h1 h2 h))
  have kt:∀c xs,H10 c=some (.tup xs)->H15 c=some (.tup xs):=fun c xs h=>k4 c _ (Jv h C10.n.em fun z=>by cases z) (Jv h C10.n.en fun z=>by cases z) (Jv h C10.ep fun z=>by cases z) h
  have npc:c≠pp:=(je (k3 _ _ S.mp.symm S.np.symm C10.ep) hc).symm;exists⟨fa,d,f,names.take fs.length,gs,nmsOf ls,Ms.map (plB (nmsOf ls)),rfl,FormAt.keep kt hf,k4 _ _ nmd nnd npd C10.ed,tnd,by omega,by rw[tl];exact pre,fun j hj=>by have:=ng1 j (by omega);omega,fun g' H16 s16 lg'=>?_⟩;obtain rfl:=lg.uniq lg';exists⟨d,_,rfl,DPut.k (k:=Sum.inr (names.getD fs.length ⟨#[]⟩)) (s16 _ _ (k4 _ _ nmd nnd npd C10.ed)) (by rw[Xr (by omega)];omega),?_⟩;have xn:names.getD fs.length ⟨#[]⟩∉names.take fs.length:=fun z=>by
   obtain⟨j,hj,e⟩:=mem_iff_getElem.mp z;rw[getElem_take]at e;have jl:j<fs.length:=by rw[tl]at hj;exact hj
   have e2:names[j]?=some (names.getD fs.length ⟨#[]⟩):=by rw[List.getElem?_eq_getElem (by omega),e]
   have e3:names[fs.length]?=some (names.getD fs.length ⟨#[]⟩):=by rw[getD_eq_getElem?_getD,List.getElem?_eq_getElem (by omega)];rfl
   have:=JL nd e2;have:=JL nd e3;omega
  rw[Xs (by omega) xn];generalize eG:upd H16 d _=H17;have e17:H17 d=some (.dK (knK (names.take (fs.length+1)) (gs++[g]))):=by
   rw[take_snoc (show names[fs.length]?=some (names.getD fs.length ⟨#[]⟩) by rw[getD_eq_getElem?_getD,List.getElem?_eq_getElem (by omega)];rfl)];exact qd eG
  have k17:∀c u,c≠d->H15 c=some u->H17 c=some u:=fun c u hc h=>eG▸(jg hc).trans (s16 _ _ h)
  clear eG;have C17:=C10.add (fa:=fa) (l:=l) (c:=c) (f:=f) (ks:=ks) (g:=g) (H':=H17) S (by rw[<-kR pre];exact hf) pre mv lg gb b42 (by omega) (by omega) nW (fun x u h1 h2 h3 h4 h=>k17 _ _ h4 (k4 _ _ h1 h2 h3 h)) (k17 _ _ nmd.symm (k15 _ _ S.mp (s14 _ _ (k13 _ _ S.nm.symm e12)))) (k17 _ _ (lne C10.ed) (k15 _ _ (lne C10.ep) (s14 _ _ (k13 _ _ (lne C10.n.en) el12)))) (k17 _ _ nnd.symm (k15 _ _ S.np (s14 _ _ e13))) (k17 _ _ npd.symm e15) (k17 _ _ (Jv t14 (s14 _ _ (k3 _ _ nmd nnd C10.ed)) fun z=>by cases z) (k15 _ _ npc t14)) e17;exact⟨_,_,_,_,_,pas++[c],mas++[l],fs++[f],Ms++[ks],gs++[g],rfl,fun x u h=>k17 _ _ (je h hD1) (k4 _ _ (je h hM1) (je h hN1) (je h hP1) (sm10 _ _ h)),C17,S.add ⟨lne C10.n.en,lne C10.n.em,lne C10.ep⟩,by rw[List.length_append,fl];rfl⟩
 rintro σ' H7 ⟨o5,o11,o12,o13,o14,pas,mas,fs,Ms,gs,rfl,sm,C,S,fl⟩
 replace fl:fs.length=many+1:=by omega
 have gl:=C.dk.gl;have tl:(names.take fs.length).length=fs.length:=by rw[length_take];omega
 have tnd:(names.take fs.length).Nodup:=nd.sublist (take_sublist _ _);exists⟨(by show 2<=sizeLine;omega),?_⟩;walk_at"f b hbb H8 s8 t8";have C8:=C.same s8;exists ixLm (SqL.of C8.n.en) (zq (j:=many) (by omega)) ?_;have g:=DGet.k (k:=Sum.inr ((names.take fs.length).getD many ⟨#[]⟩)) C8.ed;rw[Y4 tnd (by omega) (by omega)]at g;refine⟨d,_,rfl,g,?_⟩;exists⟨(by show 2<=sizeLine;omega),?_⟩;walk_at"f r hr' H9 s9 t9";exact q r b pl pp las pas names ls fs _ gs H9 (sm.trans (s8.trans s9)) (by rw[show fs.length-1=many by omega];exact t9) ((C8.book t8).same s9) C.dk (C.dk.sn C.fl nd lnd (by omega) (by omega) (by omega) lh) fl nL nd nW m1 (by omega) lnd lW S.lp C.gb
theorem we(T:Txt K mg t)(jF:FnOk P w K mg base CX0 1 t.Jh t.Jj ["_law_script","_law_k"] (Pr.sp_cell_at K))(jM:FnOk P w K mg base CX0 1 t.JA t.JB ["_law_cell","_law_k"] (y6))(JY:FnOk P w K mg base CX0 1 t.qN t.qR ["_law_place","_law_k"] (sp_wordB))(Zz:FnOk P w K mg base CX0 2 t.QK t.QP ["_law_number","_law_names","_law_movers","_law_limbs","_law_bounds"] (sp_formB))(JX:FnOk P w K mg base CX0 1 t.qM t.qQ ["_law_form_here","_law_known"] (sp_longB))(qi:FnOk P w K mg base CX0 1 t.qj t.qo ["_law_form_here","_law_names","_law_movers"] (sp_movesB))(qJ:FnOk P w K mg base CX0 1 t.qL t.qP ["_law_names","_law_known","_law_most"] (sp_lastB))(Qq:FnOk P w K mg base CX0 5 t.JN t.JS ["_law_script","_law_many","_law_bounds"] (sp_bookB K)):FnOk P w K mg base CX0 6 t.QJ t.QO ["_law_script","_law_many","_law_bounds"] (sp_bookB K):=by
 refine T.YG.ok jN (fun vs H Q E h=>?_) (fun cdv A outer s H vs Q E hr h=>?_)
 ·cases h;subst_vars;rfl
 obtain⟨a,bd,ns,many,b0,b1,b2,b3,b4,rfl,hS,h63,m2,m16,Bd,q⟩:=h;refine⟨_,(jb (jT (jk j2C (jA kf (by rfl) T.j0s W3 (ja (jh (jF.mono (by decide)) hr (by rfl) T.Jk T.j7.kp T.Jg .nil pass0 (ja (pv 0) (ja jd jc))) jc)) (jo Qv jd jd) (nomark _))
   (jf (jv (jh (Qq.mono (by decide)) hr (by rfl) T.Yt T.zJ.kp T.Ya .nil pass0 (ja (pv 0) (ja (pv 1) (ja (pv 2) jc))))))
   jt)
  (jb (jp (i:=3) jN.nd rfl (.inl rfl) (jh (jM.mono (by decide)) hr (by rfl) T.JC T.Jq.kp T.Jz .nil pass0 (ja (jh (jM.mono (by decide)) hr (by rfl) T.JC T.Jq.kp T.Jz .nil pass0 (ja (jh (jF.mono (by decide)) hr (by rfl) T.Jk T.j7.kp T.Jg .nil pass0 (ja (pv 0) (ja jd jc))) (ja jd jc))) (ja jd jc))))
  (jb (jp (i:=4) jN.nd rfl (.inl rfl) (jG jc))
  (jb (Jp PassesOwn.never rfl (Qy (by rfl) T.Zd (ja (jo jO jd (jo j5 (jo Jf (pv 3) jd) jd)) jc)) (jr (i:=5) jN.nd rfl (.inl rfl))
   (jb (jp (i:=6) jN.nd rfl (.inl rfl) (jo j5 (jo Jf (pv 3) (ji jq (jG (ja jd (ja jd (ja jd (ja jd jc))))) (pv 5))) (ji jq (pv 2) jd)))
   (jf (jU (JK PySem.F.plainAttrs_list PySem.F.slot_list_append PySem.F.type_list_append jH (pv 4) (ja (jR (ja (jh (JY.mono (by decide)) hr (by rfl) T.zw T.QI.kp T.zp .nil pass0 (ja (jo j5 (pv 3) jd) (ja (pv 5) jc))) (ja (pv 6) jc))) jc))))))
  (jb (jp (i:=7) jN.nd rfl (.inl rfl) (jG jc))
  (jb (jp (i:=8) jN.nd rfl (.inl rfl) (jG jc))
  (jb (jp (i:=9) jN.nd rfl (.inl rfl) yS)
  (jb (jp (i:=10) jN.nd rfl (.inl rfl) (jG jc))
  (jb (Jp PassesOwn.never rfl (Qy (by rfl) T.Zd (ja (jo jO (pv 1) jd) jc)) (jr (i:=5) jN.nd rfl (.inl rfl))
   (jb (jp (i:=11) jN.nd rfl (.inl rfl) (jh (jM.mono (by decide)) hr (by rfl) T.JC T.Jq.kp T.Jz .nil pass0 (ja (jh (jM.mono (by decide)) hr (by rfl) T.JC T.Jq.kp T.Jz .nil pass0 (ja (jh (jF.mono (by decide)) hr (by rfl) T.Jk T.j7.kp T.Jg .nil pass0 (ja (pv 0) (ja (jo jO jd (pv 5)) jc))) (ja (jo jO jd (pv 5)) jc))) (ja (jo jO jd (pv 5)) jc))))
   (jb (jp (i:=12) jN.nd rfl (.inl rfl) (jh (Zz.mono (by decide)) hr (by rfl) T.Wu T.YI.kp T.wU .nil pass0 (ja (pv 11) (ja (pv 7) (ja (pv 8) (ja (pv 4) (ja (pv 2) jc)))))))
   (jb (qF (PW.pt (Qk (jk Jn (pv 5) (pv 1) (nomark _)) (qD (jk Jn (jo j5 (jo Jf (pv 3) jd) jd) jd (nomark _)))))
    (jf (jp (i:=12) jN.nd rfl (.inl rfl) (jR (ja jD (ja (jh (qJ.mono (by decide)) hr (by rfl) T.YR T.Zw.kp T.YE .nil pass0 (ja (pv 7) (ja (pv 9) (ja (ji jq (pv 2) jd) jc)))) jc)))))
    jt)
   (jb (qF (jk zP (jh (JX.mono (by decide)) hr (by rfl) T.zu T.QH.kp T.zo .nil pass0 (ja (pv 12) (ja (pv 9) jc))) (ji jq (pv 2) jd) (nomark _))
    (jf (jp (i:=12) jN.nd rfl (.inl rfl) (jR (ja jD (ja jd jc)))))
    jt)
   (jb (jU (JK PySem.F.plainAttrs_list PySem.F.slot_list_append PySem.F.type_list_append jH (pv 8) (ja (jh (qi.mono (by decide)) hr (by rfl) T.yJ T.zX.kp T.yn .nil pass0 (ja (pv 12) (ja (pv 7) (ja (pv 8) jc)))) jc)))
   (jb (jp (i:=13) jN.nd rfl (.inl rfl) (jh (JY.mono (by decide)) hr (by rfl) T.zw T.QI.kp T.zp .nil pass0 (ja (jo j5 (pv 3) jd) (ja (jo jO jd (pv 5)) jc))))
   (jb (qF (PW.pt (Qk (jk Jn (pv 5) (jo j5 (jo Jf (pv 3) jd) (jo jO (pv 1) jd)) (nomark _)) (qD (jk Jn (jo j5 (jo Jf (pv 3) jd) jd) jd (nomark _)))))
    (jf (jp (i:=13) jN.nd rfl (.inl rfl) (ji jw (ji jq (pv 4) (jo j5 (pv 5) (jA jW (by rfl) T.qe Ju (ja (pv 4) jc)))) jd)))
    jt)
   (jb (jU (JK PySem.F.plainAttrs_list PySem.F.slot_list_append PySem.F.type_list_append jH (pv 7) (ja (pv 13) jc)))
   (jb (jU (JK PySem.F.plainAttrs_list PySem.F.slot_list_append PySem.F.type_list_append jH (pv 10) (ja (jR (ja (ji jq (pv 7) (pv 5)) (ja (pv 12) jc))) jc)))
   (jf (Y6 (zN hr) (pv 9) (ji jq (pv 7) (pv 5)) (jh (JX.mono (by decide)) hr (by rfl) T.zu T.QH.kp T.zo .nil pass0 (ja (pv 12) (ja (pv 9) jc))) rfl))))))))))))
  (jf (jv (jR (ja (jR (ja (pv 4) (ja (pv 10) jc))) (ja (Q3 (zN hr) (pv 9) (ji jq (pv 7) (pv 1))) jc)))))))))))))),?_⟩
 refine jz (σ':=[some _,some _,some _,none,none,none,none,none,none,none,none,none,none,none]) rfl ?_;have sz:(200:Nat)<sizeLine:=by decide
 have Bd':=Bd;obtain⟨eb,b01,b02,b11,b12,b21,b22,b31,b32,b41,b42⟩:=Bd;exists⟨a,ns,_,rfl,hS,h63,by omega,?_⟩;refine⟨_,rfl,?_⟩;exists iteD (fun c=>?_) (fun c=>?_)
 ·walk_at"g";exact⟨a,bd,ns,many,b0,b1,b2,b3,b4,rfl,hS,h63,m2,m16,Bd',q⟩
 clear c;exists⟨a,ns,_,rfl,hS,h63,by omega,?_⟩;exists⟨_,_,rfl,by omega,by omega,?_⟩;exists⟨_,_,rfl,by omega,by omega,?_⟩;have hb:=QT (mixB (Pr.cell ns 0) 0) 90;generalize mixB (mixB (Pr.cell ns 0) 0) 90=hd at hb|-;obtain⟨p,e3⟩:∃p:Nat,hd%3=(p:Int):=⟨(hd%3).toNat,by omega⟩
 have hp:p<3:=by omega
 exists⟨Nat.zero_le _,?_⟩;walk_at"f pl hpl H1 s1 t1";exists⟨_,rfl,by omega,by omega,?_⟩;refine za (fun i σ H'=>∃(o5 o6:Option V) (las:List Addr) (ls:List (Str×Int)),σ=[some (.ref a),some (.int (many:Nat)),some (.ref bd),some (.int hd),some (.ref pl),o5,o6,none,none,none,none,none,none,none]/\Same H H'/\H' pl=some (.lst (las.map V.ref))/\All2 (LimbAt H') las ls/\nmsOf ls=lmB p i/\ls.length=i/\∀q∈ls,0<=q.2/\q.2<=10^18) ⟨_,_,[],[],rfl,s1,t1,.nil,rfl,rfl,(fun q h=>nomatch h)⟩ ?_ ?_
 ·rintro i σ H' hi ⟨o5,o6,las,ls,rfl,sm,el,la,nm,ll,lh⟩;have i4:i<4:=by omega
  have lal:=la.1;obtain⟨w',hw',w1,w2⟩:∃w':Int,atI [V.int 100,V.int 1000,V.int 10000,V.int 100000] (0+(i:Int))=some (.int w')/\100<=w'/\w'<=100000:=by
   have:i=0\/i=1\/i=2\/i=3:=by omega
   rcases this with rfl | rfl | rfl | rfl
   ·exact⟨100,rfl,by decide,by decide⟩
   ·exact⟨1000,rfl,by decide,by decide⟩
   ·exact⟨10000,rfl,by decide,by decide⟩
   ·exact⟨100000,rfl,by decide,by decide⟩
  exists⟨(by show 4<=sizeLine;omega),?_⟩;walk_at"f 2 t";exists ixLm (SqL.of t2) (hw') ?_;exists ixLm (SqL.of (s2 _ _ (sm _ _ eb))) rfl ?_;walk_at"g";have v0:=Int.emod_nonneg (hd/w') (show b2≠0 by omega);have v1:=Int.emod_lt_of_pos (hd/w') (show 0<b2 by omega);generalize hd/w'%b2=v at v0 v1|-;refine⟨.inl ⟨rfl,_,SqL.of (s2 _ _ el)⟩,?_⟩;exists⟨p,i,by rw[e3,Int.zero_add];rfl,hp,by omega,?_⟩;exists⟨(by show 2<=sizeLine;omega),?_⟩;walk_at"f 3 t";have s23:=s2.trans s3;exists⟨pl,_,_,rfl,rfl,s23 _ _ el,by rw[length_map];omega,?_⟩;have kt:∀c xs,H3 c=some (.tup xs)->upd H3 pl (.lst (las.map V.ref++[.ref p3])) c=some (.tup xs):=fun c xs h=>(jg (Jv h (s23 _ _ el) fun z=>by cases z)).trans h
  refine⟨_,_,las++[p3],ls++[(wdB p i,v)],rfl,fun c u h=>?_,by rw[jx,map_append];rfl,(la.mono fun c x h=>kt _ _ (s23 _ _ h)).snoc (kt _ _ t3),?_,by rw[List.length_append,ll];rfl,fun q hq=>?_⟩
  ·refine(jg ?_).trans (s23 _ _ (sm _ _ h));exact je h hpl
  ·rw[Wr,<-nm];unfold nmsOf;rw[map_append];rfl
  ·rcases mem_append.mp hq with z | z
   ·exact lh q z
   ·rw[mem_singleton.mp z];exact⟨v0,by show v<=10^18;omega⟩
 rintro σ' H2 ⟨o5,o6,las,ls,rfl,sm,el,la,nm,ll,lh⟩;have m1:1<=ls.length:=by omega
 have m4:ls.length<=4:=by omega
 replace nm:nmsOf ls=lmB p ls.length:=by rw[nm,ll]
 obtain⟨lnd,lW⟩:=j0V (m:=ls.length) hp (by omega);rw[<-nm]at lnd lW;clear ll s1 t1 H1;have Ll:(nmsOf ls).length=ls.length:=length_map _;have lal:=la.1;obtain⟨cc,hcc⟩:∃cc:Nat,∀i:Nat,i<=many->(i=cc↔((i:Int)=hd/48%((many:Int)+1)/\hd/24%2=0)):=by
  have u0:=Int.emod_nonneg (hd/48) (show((many:Int)+1)≠0 by omega);have u1:=Int.emod_lt_of_pos (hd/48) (show(0:Int)<(many:Int)+1 by omega);by_cases c:hd/24%2=0
  ·exact⟨(hd/48%((many:Int)+1)).toNat,fun i hi=>by omega⟩
  ·exact⟨100,fun i hi=>by omega⟩
 obtain⟨nd,nW⟩:=j15 (p:=p) (st:=5) (c:=cc) (m:=ls.length) hp m1 (by omega) (by omega);have ng:∀{k:Nat},k<17->(nmB p 5 cc ls.length).getD k ⟨#[]⟩=wdB p (ixB 5 cc ls.length k):=fun h=>Xw h
 have nL:=Xx (p:=p) (st:=5) (c:=cc) (m:=ls.length);generalize nmB p 5 cc ls.length=names at nd nW ng nL;exists⟨Nat.zero_le _,?_⟩;walk_at"f nl hnl H3 s3 t3";exists⟨Nat.zero_le _,?_⟩;walk_at"f ml hml H4 s4 t4";walk_at"g";walk_at"f d hd' H5 s5 t5";exists⟨Nat.zero_le _,?_⟩;walk_at"f pp hpp H6 s6 t6";have s36:=s4.trans (s5.trans s6);have s26:=s3.trans s36;have BB:BkB pl nl ml d pp las [] [] ls names [] [] [] b4 H6:=by
  refine⟨⟨s36 _ _ t3,s6 _ _ (s5 _ _ t4),.nil,(fun ks hk=>nomatch hk),rfl,Nat.zero_le _,by omega,(fun x hx=>nomatch hx),lW⟩,⟨s26 _ _ el,la.mono fun c x h=>s26 _ _ h,m1⟩,s6 _ _ t5,t6,.nil,⟨rfl,rfl,(fun i f h=>by simp at h),fun i h=>absurd h (Nat.not_lt_zero i)⟩,fun j hj=>absurd hj (Nat.not_lt_zero j),Nat.zero_le _⟩
 have SS:SpB pl nl ml pp bd []:=⟨je el hnl,je (s3 _ _ el) hml,je (s5 _ _ (s4 _ _ (s3 _ _ el))) hpp,je t3 hml,je (s5 _ _ (s4 _ _ t3)) hpp,je (s5 _ _ t4) hpp,je (sm _ _ eb) hnl,je (s3 _ _ (sm _ _ eb)) hml,je (s5 _ _ (s4 _ _ (s3 _ _ (sm _ _ eb)))) hpp,(fun x hx=>nomatch hx)⟩
 have hN1:H nl=none:=none_of sm hnl;have hM1:H ml=none:=none_of (sm.trans s3) hml;have hD1:H d=none:=none_of (sm.trans (s3.trans s4)) hd';have hP1:H pp=none:=none_of (sm.trans (s3.trans (s4.trans s5))) hpp;have sm6:=sm.trans s26;clear s26 s36 t3 t4 t5 t6 el la sm s3 s4 s5 s6 hnl hml hd' hpp;exists⟨_,rfl,by omega,by omega,?_⟩;refine za (fun i σ H'=>∃(o5 o11 o12 o13:Option V) (pas mas:List Addr) (fs:List Fn) (Ms:List (List Str)) (gs:List Int),σ=[some (.ref a),some (.int (many:Nat)),some (.ref bd),some (.int hd),some (.ref pl),o5,o6,some (.ref nl),some (.ref ml),some (.ref d),some (.ref pp),o11,o12,o13]/\Same H H'/\BkB pl nl ml d pp las pas mas ls names fs Ms gs b4 H'/\SpB pl nl ml pp bd mas/\fs.length=i)
  ⟨_,_,_,_,[],[],[],[],[],rfl,sm6,BB,SS,rfl⟩ ?_ ?_
 ·rintro i σ H7 hi ⟨o5,o11,o12,o13,pas,mas,fs,Ms,gs,rfl,sm,C,S,fl⟩;have i16:i<17:=by omega
  have tl:(names.take fs.length).length=fs.length:=by rw[length_take];omega
  have pal:pas.length=fs.length:=C.pa.1.trans Q9;have gl:=C.dk.gl;have Ml:Ms.length=fs.length:=by have:=C.n.ml;omega
  have mal:mas.length=fs.length:=by have:=C.n.am.1;omega
  have tnd:(names.take fs.length).Nodup:=nd.sublist (take_sublist _ _);have ng1:∀j,j<fs.length->1<=gs.getD j 0/\gs.getD j 0<=b4:=fun j hj=>⟨(C.dk.g j hj).1,C.gb j hj⟩
  exists⟨a,ns,_,rfl,sm.seq hS,h63,by omega,?_⟩;exists⟨_,_,rfl,by omega,by omega,?_⟩;exists⟨_,_,rfl,by omega,by omega,?_⟩;have nb:=QT (mixB (Pr.cell ns (1+(0+(i:Int)))) (1+(0+(i:Int)))) (91+(0+(i:Int)));generalize mixB (mixB (Pr.cell ns (1+(0+(i:Int)))) (1+(0+(i:Int)))) (91+(0+(i:Int)))=num at nb|-;exists⟨num,nl,ml,pl,bd,mas,las,ls,names.take fs.length,Ms,b0,b1,b2,b3,b4,rfl,C.n,C.l,⟨sm _ _ eb,b01,b02,b11,b12,b21,b22,b31,b32,b41,b42⟩,by omega,by omega,fun fa0 f0 H8 s8 hf0 pre0=>?_⟩;rw[tl]at pre0;have C8:=C.same s8;exists⟨fun σ' H'=>∃(fa:Addr) (f:Fn),σ'=[some (.ref a),some (.int (many:Nat)),some (.ref bd),some (.int hd),some (.ref pl),some (.int (0+(i:Int))),o6,some (.ref nl),some (.ref ml),some (.ref d),some (.ref pp),some (.int num),some (.ref fa),o13]/\Same H8 H'/\FormAt H' fa (toldF (names.take fs.length) f)/\PreN (nmsOf ls) (Ms.map (plB (nmsOf ls))) fs.length f,?_,?_⟩
  rotate_left
  ·exists iteD (fun c=>?_) (fun c=>?_)
   ·exists iteD (fun c2=>?_) (fun c2=>?_)
    ·exists ixLm (SqL.of (s8 _ _ (sm _ _ eb))) rfl ?_;exists⟨nl,d,names.take fs.length,gs,b4,rfl,C8.n.en,C8.ed,tnd,by omega,by omega,by omega,fun j hj=>ng1 j (by omega),fun b is H9 s9 e9 ne l5 jl=>?_⟩;exists⟨(by show 2<=sizeLine;omega),?_⟩;walk_at"f fa hfa H10 s10 t10";walk_at"g";exact⟨fa,.row is,rfl,s9.trans s10,⟨b,t10,s10 _ _ e9⟩,ne,by omega,fun j hj=>by have:=jl j hj;omega⟩
    ·walk_at"g";exact⟨fa0,f0,rfl,Same.refl _,hf0,pre0⟩
   ·walk_at"g";exact⟨fa0,f0,rfl,Same.refl _,hf0,pre0⟩
  rintro σ' H9 ⟨fa1,f1,rfl,s9,hf1,pre1⟩;have C9:=C8.same s9;have sm9:=sm.trans (s8.trans s9);clear C8 C hf0 pre0 s8 s9 sm;exists⟨fun σ' H'=>∃(fa:Addr) (f:Fn) (g:Int),σ'=[some (.ref a),some (.int (many:Nat)),some (.ref bd),some (.int hd),some (.ref pl),some (.int (0+(i:Int))),o6,some (.ref nl),some (.ref ml),some (.ref d),some (.ref pp),some (.int num),some (.ref fa),o13]/\Same H9 H'/\FormAt H' fa (toldF (names.take fs.length) f)/\PreN (nmsOf ls) (Ms.map (plB (nmsOf ls))) fs.length f/\LenN gs f g/\g<=b4,?_,?_⟩
  rotate_left
  ·exists⟨fa1,d,f1,names.take fs.length,gs,nmsOf ls,Ms.map (plB (nmsOf ls)),rfl,hf1,C9.ed,tnd,by omega,by rw[tl];exact pre1,fun j hj=>by have:=ng1 j (by omega);omega,fun g H10 s10 lg=>?_⟩;exists ixLm (SqL.of (s10 _ _ (sm9 _ _ eb))) rfl ?_;exists iteD (fun c=>?_) (fun c=>?_)
   ·exists⟨(by show 2<=sizeLine;omega),?_⟩;walk_at"f fa hfa H11 s11 t11";walk_at"g";exact⟨fa,.hold 1,1,rfl,s10.trans s11,t11,⟨by decide,by decide⟩,rfl,b41⟩
   ·walk_at"g";exact⟨fa1,f1,g,rfl,s10,FormAt.same s10 hf1,pre1,lg,by omega⟩
  rintro σ' H10 ⟨fa,f,g,rfl,s10,hf,pre,lg,gb⟩;have C10:=C9.same s10;have sm10:=sm9.trans s10;clear C9 hf1 pre1 s10 sm9;exists⟨.inl ⟨rfl,_,SqL.of C10.n.em⟩,?_⟩;exists⟨fa,nl,ml,mas,f,names.take fs.length,Ms,nmsOf ls,Ms.map (plB (nmsOf ls)),rfl,hf,C10.n.en,C10.n.em,C10.n.am,tnd,by omega,by omega,by rw[tl];exact pre,fun ks hk=>by have:=C10.n.il.len hk;omega,fun l ks H11 s11 hl el mv kl=>?_⟩;exists⟨ml,_,_,rfl,rfl,s11 _ _ C10.n.em,by rw[length_map];omega,?_⟩;generalize eG:upd H11 ml _=H12;have e12:H12 ml=some (.lst ((mas++[l]).map V.ref)):=by rw[map_append];exact qd eG
  have k12:∀c u,c≠ml->H11 c=some u->H12 c=some u:=fun c u hc h=>eG▸(jg hc).trans h
  clear eG;have k2:∀c u,c≠ml->H10 c=some u->H12 c=some u:=fun c u hc h=>k12 c u hc (s11 _ _ h)
  have lne:∀{c u},H10 c=some u->l≠c:=fun h=>(je h hl).symm
  have el12:=k12 _ _ (lne C10.n.em) el;have nmd:d≠ml:=Jv C10.ed C10.n.em (fun z=>by cases z);have nnd:d≠nl:=Jv C10.ed C10.n.en (fun z=>by cases z);have npd:d≠pp:=Jv C10.ed C10.ep (fun z=>by cases z);exists⟨p,5+i,by rw[e3,show(5+(0+(i:Int)))=((5+i:Nat):Int) by omega];rfl,hp,by omega,?_⟩;exists⟨fun σ' H'=>σ'=[some (.ref a),some (.int (many:Nat)),some (.ref bd),some (.int hd),some (.ref pl),some (.int (0+(i:Int))),o6,some (.ref nl),some (.ref ml),some (.ref d),some (.ref pp),some (.int num),some (.ref fa),some (.str (names.getD fs.length ⟨#[]⟩))]/\H12=H',?_,?_⟩
  rotate_left
  ·have hz:=hcc i (by omega);have nk:=ng i16;rw[<-fl]at nk;exists iteD (fun c=>?_) (fun c=>?_)
   ·exists iteD (fun c2=>?_) (fun c2=>?_)
    ·have ic:i=cc:=hz.mpr ⟨by omega,c2⟩;exists⟨_,_,rfl,.inl ⟨_,SqL.of (k2 _ _ S.lm C10.l.el),rfl⟩,?_⟩;rw[length_map,lal];walk_at"g";rw[show(0+(i:Int))%(ls.length:Int)=((i%ls.length:Nat):Int) by rw[Int.zero_add];exact(Int.natCast_emod _ _).symm];have jm:=Nat.mod_lt i (show 0<ls.length by omega);obtain⟨lk,hlk,elk⟩:=C10.l.la.get (List.getElem?_eq_getElem jm);have elk':H10 lk=some (.tup [.str (ls[i%ls.length]).1,.int (ls[i%ls.length]).2]):=elk;refine ixLm (SqL.of (k2 _ _ S.lm C10.l.el)) (jY (j:=i%ls.length) (by rw[List.getElem?_map,hlk];rfl)) ?_;exists ixTm (SqT.of (k2 _ _ (Jv elk' C10.n.em fun z=>by cases z) elk')) rfl ?_;exists⟨?_,rfl⟩;have ew:(ls[i%ls.length]).1=wdB p (i%ls.length):=by
      have h1:(nmsOf ls)[i%ls.length]?=some (ls[i%ls.length]).1:=by unfold nmsOf;rw[List.getElem?_map,List.getElem?_eq_getElem jm];rfl
      rw[nm,j0U jm]at h1;exact(Option.some.inj h1).symm
     rw[nk,fl];unfold ixB;rw[if_pos ic,ew]
    ·exists⟨?_,rfl⟩;rw[nk,fl];unfold ixB;rw[if_neg (fun z=>c2 (hz.mp z).2)]
   ·exists⟨?_,rfl⟩;rw[nk,fl];unfold ixB;rw[if_neg (fun z=>c (by have:=(hz.mp z).1;omega))]
  rintro σ' H12' ⟨rfl,rfl⟩;exists⟨.inl ⟨rfl,_,SqL.of (k2 _ _ S.nm C10.n.en)⟩,?_⟩;exists⟨nl,_,_,rfl,rfl,k2 _ _ S.nm C10.n.en,by rw[length_map];omega,?_⟩;generalize eG:upd H12 nl _=H13;have e13:H13 nl=some (.lst ((names.take (fs.length+1)).map V.str)):=by
   rw[take_snoc (show names[fs.length]?=some (names.getD fs.length ⟨#[]⟩) by rw[getD_eq_getElem?_getD,List.getElem?_eq_getElem (by omega)];rfl),map_append];exact qd eG
  have k13:∀c u,c≠nl->H12 c=some u->H13 c=some u:=fun c u hc h=>eG▸(jg hc).trans h
  clear eG;have a13:atI ((names.take (fs.length+1)).map V.str) (0+(i:Int))=some (.str (names.getD fs.length ⟨#[]⟩)):=by
   rw[<-fl,Int.zero_add];refine jY ?_;rw[List.getElem?_map,List.getElem?_take_of_lt (by omega),getD_eq_getElem?_getD,List.getElem?_eq_getElem (by omega)];rfl
  have k3:∀c u,c≠ml->c≠nl->H10 c=some u->H13 c=some u:=fun c u h1 h2 h=>k13 c u h2 (k2 c u h1 h)
  exists⟨.inl ⟨rfl,_,SqL.of (k3 _ _ S.mp.symm S.np.symm C10.ep)⟩,?_⟩;exists ixLm (SqL.of e13) (a13) ?_;exists⟨(by show 2<=sizeLine;omega),?_⟩;walk_at"f c hc H14 s14 t14";exists⟨pp,_,_,rfl,rfl,s14 _ _ (k3 _ _ S.mp.symm S.np.symm C10.ep),by rw[length_map];omega,?_⟩;generalize eG:upd H14 pp _=H15;have e15:H15 pp=some (.lst ((pas++[c]).map V.ref)):=by rw[map_append];exact qd eG
  have k15:∀c u,c≠pp->H14 c=some u->H15 c=some u:=fun c u hc h=>eG▸(jg hc).trans h
  clear eG;have k4:∀c u,c≠ml->c≠nl->c≠pp->H10 c=some u->H15 c=some u:=fun c u h1 h2 h3 h=>k15 c u h3 (s14 _ _ (k3 c u h1 h2 h))
  have kt:∀c xs,H10 c=some (.tup xs)->H15 c=some (.tup xs):=fun c xs h=>k4 c _ (Jv h C10.n.em fun z=>by cases z) (Jv h C10.n.en fun z=>by cases z) (Jv h C10.ep fun z=>by cases z) h
  have npc:c≠pp:=(je (k3 _ _ S.mp.symm S.np.symm C10.ep) hc).symm;exists⟨fa,d,f,names.take fs.length,gs,nmsOf ls,Ms.map (plB (nmsOf ls)),rfl,FormAt.keep kt hf,k4 _ _ nmd nnd npd C10.ed,tnd,by omega,by rw[tl];exact pre,fun j hj=>by have:=ng1 j (by omega);omega,fun g' H16 s16 lg'=>?_⟩;obtain rfl:=lg.uniq lg';exists ixLm (SqL.of (s16 _ _ (k15 _ _ S.np (s14 _ _ e13)))) (a13) ?_;refine⟨d,_,rfl,DPut.k (k:=Sum.inr (names.getD fs.length ⟨#[]⟩)) (s16 _ _ (k4 _ _ nmd nnd npd C10.ed)) (by rw[Xr (by omega)];omega),?_⟩;have xn:names.getD fs.length ⟨#[]⟩∉names.take fs.length:=fun z=>by
   obtain⟨j,hj,e⟩:=mem_iff_getElem.mp z;rw[getElem_take]at e;have jl:j<fs.length:=by rw[tl]at hj;exact hj
   have e2:names[j]?=some (names.getD fs.length ⟨#[]⟩):=by rw[List.getElem?_eq_getElem (by omega),e]
   have e3:names[fs.length]?=some (names.getD fs.length ⟨#[]⟩):=by rw[getD_eq_getElem?_getD,List.getElem?_eq_getElem (by omega)];rfl
   have:=JL nd e2;have:=JL nd e3;omega
  rw[Xs (by omega) xn];generalize eG:upd H16 d _=H17;have e17:H17 d=some (.dK (knK (names.take (fs.length+1)) (gs++[g]))):=by
   rw[take_snoc (show names[fs.length]?=some (names.getD fs.length ⟨#[]⟩) by rw[getD_eq_getElem?_getD,List.getElem?_eq_getElem (by omega)];rfl)];exact qd eG
  have k17:∀c u,c≠d->H15 c=some u->H17 c=some u:=fun c u hc h=>eG▸(jg hc).trans (s16 _ _ h)
  clear eG;have C17:=C10.add (fa:=fa) (l:=l) (c:=c) (f:=f) (ks:=ks) (g:=g) (H':=H17) S (by rw[<-kR pre];exact hf) pre mv lg gb b42 (by omega) (by omega) nW (fun x u h1 h2 h3 h4 h=>k17 _ _ h4 (k4 _ _ h1 h2 h3 h)) (k17 _ _ nmd.symm (k15 _ _ S.mp (s14 _ _ (k13 _ _ S.nm.symm e12)))) (k17 _ _ (lne C10.ed) (k15 _ _ (lne C10.ep) (s14 _ _ (k13 _ _ (lne C10.n.en) el12)))) (k17 _ _ nnd.symm (k15 _ _ S.np (s14 _ _ e13))) (k17 _ _ npd.symm e15) (k17 _ _ (Jv t14 (s14 _ _ (k3 _ _ nmd nnd C10.ed)) fun z=>by cases z) (k15 _ _ npc t14)) e17;exact⟨_,_,_,_,pas++[c],mas++[l],fs++[f],Ms++[ks],gs++[g],rfl,fun x u h=>k17 _ _ (je h hD1) (k4 _ _ (je h hM1) (je h hN1) (je h hP1) (sm10 _ _ h)),C17,S.add ⟨lne C10.n.en,lne C10.n.em,lne C10.ep⟩,by rw[List.length_append,fl];rfl⟩
 rintro σ' H7 ⟨o5,o11,o12,o13,pas,mas,fs,Ms,gs,rfl,sm,C,S,fl⟩
 replace fl:fs.length=many+1:=by omega
 have gl:=C.dk.gl;have tl:(names.take fs.length).length=fs.length:=by rw[length_take];omega
 have tnd:(names.take fs.length).Nodup:=nd.sublist (take_sublist _ _);exists⟨(by show 2<=sizeLine;omega),?_⟩;walk_at"f b hbb H8 s8 t8";have C8:=C.same s8;exists ixLm (SqL.of C8.n.en) (zq (j:=many) (by omega)) ?_;have g:=DGet.k (k:=Sum.inr ((names.take fs.length).getD many ⟨#[]⟩)) C8.ed;rw[Y4 tnd (by omega) (by omega)]at g;refine⟨d,_,rfl,g,?_⟩;exists⟨(by show 2<=sizeLine;omega),?_⟩;walk_at"f r hr' H9 s9 t9";exact q r b pl pp las pas names ls fs _ gs H9 (sm.trans (s8.trans s9)) (by rw[show fs.length-1=many by omega];exact t9) ((C8.book t8).same s9) C.dk (C.dk.sn C.fl nd lnd (by omega) (by omega) (by omega) lh) fl nL nd nW m1 (by omega) lnd lW S.lp C.gb
theorem yN(T:Txt K mg t)(Jr:FnOk P w K mg base CX0 1 t.J0 t.J1 ["named"] (sp_numbers_of))(Yh:FnOk P w K mg base CX0 3 t.Yi t.Yn ["book"] (sp_ends))(Q6:FnOk P w K mg base CX0 5 t.Q7 t.Q8 ["book"] (sp_lengths))(qK:FnOk P w K mg base CX0 3 t.qO t.qS ["book","sizes"] (sp_pieces_of)):FnOk P w K mg base CX0 6 t.Jt t.JQ ["self","book"] (sp_initS t.Jd):=by
 refine T.Yd.ok yW (fun vs H Q E h=>?_) (fun cdv A outer s H vs Q E hr h=>?_)
 ·cases h;subst_vars;rfl
 obtain⟨a,dx,b,pl,pp,las,pas,ls,ps,gs,hs,rfl,ha,B,N,q⟩:=h;refine⟨_,(jb (zF (pv 0) (jh (Jr.mono (by decide)) hr (by rfl) T.Zg T.QX.kp T.zV .nil pass0 (ja (ji jw (pv 1) jd) jc)) rfl)
  (jb (zF (pv 0) (qC (ow:=["name","height"]) (ci:=[]) rfl (CompScope.of (defScope JW) ["self","book"] rfl rfl (by decide +kernel)) (Y1 (by decide) (by decide)) (Je (ji jw (pv 1) jd)) (fun _ _ _ _ _=>⟨(qg rfl (jy (jr (i:=0) (JP ["self","book"] rfl (by decide +kernel)) rfl (.inl rfl)) (jy (jr (i:=1) (JP ["self","book"] rfl (by decide +kernel)) rfl (.inl rfl)) JD))),zl,(pv 1)⟩)) rfl)
  (jb (zF (pv 0) (qC (ow:=["name","form"]) (ci:=[]) rfl (CompScope.of (defScope JW) ["self","book"] rfl rfl (by decide +kernel)) (Y1 (by decide) (by decide)) (Je (ji jw (pv 1) jd)) (fun _ _ _ _ _=>⟨(qg rfl (jy (jr (i:=0) (JP ["self","book"] rfl (by decide +kernel)) rfl (.inl rfl)) (jy (jr (i:=1) (JP ["self","book"] rfl (by decide +kernel)) rfl (.inl rfl)) JD))),zl,(pv 1)⟩)) rfl)
  (jb (zF (pv 0) (jh (Q6.mono (by decide)) hr (by rfl) T.KF T.Yf.kp T.Kq .nil pass0 (ja (pv 1) jc)) rfl)
  (jb (zF (pv 0) (jh (Yh.mono (by decide)) hr (by rfl) T.j0W T.WZ.kp T.j0p .nil pass0 (ja (pv 1) jc)) rfl)
  (jf (zF (pv 0) (jh (qK.mono (by decide)) hr (by rfl) T.YS T.Zx.kp T.YF .nil pass0 (ja (pv 1) (ja (Jw (pv 0) rfl) jc))) rfl))))))),?_⟩
 refine jz (σ':=[some _,some _]) rfl ?_;have sz:(200:Nat)<sizeLine:=by decide
 have W:=N.s.w;have gl:=N.s.gl;have l8:=W.l8;have p61:=W.p61;have la:=B.la.1;have pal:=B.pa.1;obtain⟨H0,less,n0,B0⟩:=B.less ha;have z0:Same H0 H:=less H fun c u _ h=>h
 exists ixTm (SqT.of B.t) rfl ?_;exists⟨pl,las,nmsOf ls,rfl,B.l,by rw[nmsOf,length_map];exact la,fun i a x ea ex=>?_,W.ln,by rw[nmsOf,length_map];omega,fun d H1 s1 hd ed=>?_⟩
 ·unfold nmsOf at ex;rw[List.getElem?_map]at ex;obtain⟨p,ep,rfl⟩:=Option.map_eq_some_iff.mp ex;exact⟨_,B.la.2 i a p ea ep⟩
 exists⟨a,_,dx,[],rfl,s1 _ _ ha,T.Ji,T.qA,(by show 0<1000;decide),?_⟩;have nd:d≠a:=fun z=>by rw[z,ha]at hd;cases hd
 generalize e2:upd H1 a _=H2;have k2:∀c u,c≠a->H1 c=some u->H2 c=some u:=fun c u n h=>e2▸(jg n).trans h
 have a2:=qd e2;clear e2;have z2:Same H0 H2:=less H2 fun c u n h=>k2 _ _ n (s1 _ _ h)
 have B2:=B0.same z2;exists ixTm (SqT.of B2.t) rfl ?_;exists⟨pl,rfl,⟨_,SqL.of B2.l⟩,?_⟩;refine qm (xs:=las.map V.ref) (fun i ys H'=>ys=((ls.map (·.2)).take i).map V.int/\H2=H') ⟨rfl,rfl⟩ ?_ ?_ ?_
 ·rintro i ys H' _ ⟨rfl,rfl⟩;exact SqL.of B2.l
 ·rintro i v ys H' hv ⟨rfl,rfl⟩;obtain⟨a,p,rfl,hp,hat⟩:=B2.la.at_ref hv;have hi:=(List.getElem?_eq_some_iff.mp hp).1;refine Ql (σ':=[none,none]) rfl ?_;refine Qz (SqT.of hat) ?_;exists iteT ?_;exists⟨by rw[length_map,length_take,length_map];omega,?_,rfl⟩;rw[take_snoc (show(ls.map (·.2))[i]?=some p.2 by rw[List.getElem?_map,hp];rfl),map_append];rfl
 rintro ys H' ⟨rfl,rfl⟩;rw[show(las.map V.ref).length=(ls.map (·.2)).length by rw[length_map,length_map];exact la,take_length];refine⟨by rw[length_map,length_map];omega,?_⟩;walk_at"f 3 t";exists⟨a,_,dx,_,rfl,s3 _ _ a2,T.Ji,T.J3,few (Ja _ _ _) (by decide),?_⟩;have n3:p3≠a:=fun z=>by rw[z,a2]at hp3;cases hp3
 generalize e4:upd H3 a _=H4;have k4:∀c u,c≠a->H3 c=some u->H4 c=some u:=fun c u n h=>e4▸(jg n).trans h
 have a4:=qd e4;clear e4;have z4:Same H0 H4:=fun c u h=>k4 _ _ (n0 h) (s3 _ _ (z2 _ _ h))
 have B4:=B0.same z4;exists ixTm (SqT.of B4.t) rfl ?_;exists⟨pp,rfl,⟨_,SqL.of B4.p⟩,?_⟩;refine qm (xs:=pas.map V.ref) (fun i ys H'=>∃fbs:List Addr,ys=fbs.map V.ref/\All2 (fun a p=>FormAt H4 a p.2) fbs (ps.take i)/\H4=H') ⟨[],rfl,.nil,rfl⟩ ?_ ?_ ?_
 ·rintro i ys H' _ ⟨fbs,rfl,af,rfl⟩;exact SqL.of B4.p
 ·rintro i v ys H' hv ⟨fbs,rfl,af,rfl⟩;obtain⟨a',p,rfl,hp,fb,hat,hf⟩:=B4.pa.at_ref hv;have hi:=(List.getElem?_eq_some_iff.mp hp).1;have afl:=af.1;rw[length_take]at afl;refine Ql (σ':=[none,none]) rfl ?_;refine Qz (SqT.of hat) ?_;exists iteT ?_;exists⟨by rw[length_map];omega,fbs++[fb],by rw[map_append];rfl,?_,rfl⟩;rw[take_snoc hp];exact All2.snoc af hf
 rintro ys H' ⟨fbs,rfl,af,rfl⟩;rw[length_map,pal,take_length]at af;have fl:=af.1;refine⟨by rw[length_map];omega,?_⟩;walk_at"f 5 t";exists⟨a,_,dx,_,rfl,s5 _ _ a4,T.Ji,T.qa,Nat.lt_of_le_of_lt (Ja _ _ _) (Nat.lt_of_le_of_lt (Nat.succ_le_succ (Ja _ _ _)) (by decide)),?_⟩;have n5:p5≠a:=fun z=>by rw[z,a4]at hp5;cases hp5
 generalize e6:upd H5 a _=H6;have k6:∀c u,c≠a->H5 c=some u->H6 c=some u:=fun c u n h=>e6▸(jg n).trans h
 have a6:=qd e6;clear e6;have z6:Same H0 H6:=fun c u h=>k6 _ _ (n0 h) (s5 _ _ (z4 _ _ h))
 exists⟨b,pl,pp,las,pas,ls,ps,gs,hs,rfl,B0.same z6,N.s,fun l7 H7 s7 hl7 e7=>?_⟩;exists⟨a,_,dx,_,rfl,s7 _ _ a6,T.Ji,T.j6,few3,?_⟩;have n7:l7≠a:=fun z=>by rw[z,a6]at hl7;cases hl7
 generalize e8:upd H7 a _=H8;have k8:∀c u,c≠a->H7 c=some u->H8 c=some u:=fun c u n h=>e8▸(jg n).trans h
 have a8:=qd e8;clear e8;have z8:Same H0 H8:=fun c u h=>k8 _ _ (n0 h) (s7 _ _ (z6 _ _ h))
 exists⟨b,pl,pp,las,pas,ls,ps,rfl,B0.same z8,W,fun l9 as E H9 s9 hl9 e9 na lE aE oE=>?_⟩;exists⟨a,_,dx,_,rfl,s9 _ _ a8,T.Ji,T.qr,few4,?_⟩;have n9:l9≠a:=fun z=>by rw[z,a8]at hl9;cases hl9
 generalize e10:upd H9 a _=H10;have k10:∀c u,c≠a->H9 c=some u->H10 c=some u:=fun c u n h=>e10▸(jg n).trans h
 have a10:=qd e10;clear e10;have z10:Same H0 H10:=fun c u h=>k10 _ _ (n0 h) (s9 _ _ (z8 _ _ h))
 have w7:∀c u,c≠a->H7 c=some u->H10 c=some u:=fun c u n h=>k10 _ _ n (s9 _ _ (k8 _ _ n h))
 exists⟨a,_,dx,_,_,rfl,a10,T.Ji,T.j6,(Jc (by decide +kernel)).trans QV,?_⟩;exists⟨b,pl,pp,l7,las,pas,ls,ps,gs,rfl,B0.same z10,W,w7 _ _ n7 e7,gl,fun l11 as11 H11 s11 hl11 e11 ha11 _=>?_⟩;exists⟨a,_,dx,_,rfl,s11 _ _ a10,T.Ji,T.JV,few5,?_⟩;have n11:l11≠a:=fun z=>by rw[z,a10]at hl11;cases hl11
 have k12:∀c u,c≠a->H11 c=some u->upd H11 a (.ins t.Jd dx (fldS ⟨d,p3,p5,l7,l9,l11,fbs,as,as11⟩)) c=some u:=fun c u n h=>(jg n).trans h
 have u9:∀c u,c≠a->H9 c=some u->upd H11 a (.ins t.Jd dx (fldS ⟨d,p3,p5,l7,l9,l11,fbs,as,as11⟩)) c=some u:=fun c u n h=>k12 _ _ n (s11 _ _ (k10 _ _ n h))
 have u7:∀c u,c≠a->H7 c=some u->_=some u:=fun c u n h=>u9 _ _ n (s9 _ _ (k8 _ _ n h))
 have u5:∀c u,c≠a->H5 c=some u->_=some u:=fun c u n h=>u7 _ _ n (s7 _ _ (k6 _ _ n h))
 have u3:∀c u,c≠a->H3 c=some u->_=some u:=fun c u n h=>u5 _ _ n (s5 _ _ (k4 _ _ n h))
 have u1:∀c u,c≠a->H1 c=some u->_=some u:=fun c u n h=>u3 _ _ n (s3 _ _ (k2 _ _ n h))
 have nq:∀{c:Addr} {xs:List V},H11 c=some (.lst xs)->c≠a:=fun h z=>by rw[z,s11 _ _ a10]at h;cases h
 have nqt:∀{c:Addr} {xs:List V},H11 c=some (.tup xs)->c≠a:=fun h z=>by rw[z,s11 _ _ a10]at h;cases h
 have nt:∀{c:Addr} {xs:List V},H9 c=some (.tup xs)->c≠a:=fun h z=>by rw[z,s9 _ _ a8]at h;cases h
 have nl:∀{c:Addr} {xs:List V},H9 c=some (.lst xs)->c≠a:=fun h z=>by rw[z,s9 _ _ a8]at h;cases h
 have n4t:∀{c:Addr} {xs:List V},H4 c=some (.tup xs)->c≠a:=fun h z=>by rw[z,a4]at h;cases h
 exact q ⟨d,p3,p5,l7,l9,l11,fbs,as,as11⟩ E _ (fun c u n h=>u1 _ _ n (s1 _ _ h)) ⟨⟨dx,jx⟩,u1 _ _ nd ed,u3 _ _ n3 t3,u5 _ _ n5 t5,All2.mono af fun c p h=>FormAt.put (fun b xs hb=>u5 _ _ (n4t hb) (s5 _ _ hb)) h,u7 _ _ n7 e7,u9 _ _ n9 e9,lE,
  All2.mono aE fun c e ⟨bs,h1,h2⟩=>⟨bs,u9 _ _ (nl h1) h1,All2.mono h2 fun b q h=>u9 _ _ (nt h) h⟩,oE,k12 _ _ n11 e11,All2.mono ha11 fun c e ⟨bs,h1,h2⟩=>⟨bs,k12 _ _ (nq h1) h1,All2.mono h2 fun b q h=>k12 _ _ (nqt h) h⟩⟩
theorem j0b(T:Txt K mg t)(Qs:FnOk P w K mg base CX0 1 t.Qt t.Qu ["pieces","sizes","gone"] (sp_progress)):FnOk P w K mg base CX0 2 t.ZC t.ZE ["pieces","sizes","gone"] (sp_within):=by
 refine T.wX.ok zb (fun vs H Q E h=>?_) (fun cdv A outer s H vs Q E hr h=>?_)
 ·cases h;subst_vars;rfl
 obtain⟨l,s0,t0,bs,qs,gs,rfl,el,hq,es,q8,ok,t1,t2,q⟩:=h;refine⟨_,(jb (jp (i:=3) zb.nd rfl (.inl rfl) (jG jc))
  (jb (Jp PassesOwn.never rfl (Je (jh (Qs.mono (by decide)) hr (by rfl) T.kB T.Z6.kp T.Y9 .nil pass0 (ja (pv 0) (ja (pv 1) (ja (pv 2) jc))))) (qg rfl (jy (jr (i:=4) zb.nd rfl (.inl rfl)) (jy (jr (i:=5) zb.nd rfl (.inl rfl)) (jy (jr (i:=6) zb.nd rfl (.inl rfl)) (jy (jr (i:=7) zb.nd rfl (.inl rfl)) JD)))))
   (jb (qF (jk zP (pv 6) jd (nomark _))
    (jf (jU (JK PySem.F.plainAttrs_list PySem.F.slot_list_append PySem.F.type_list_append jH (pv 3) (ja (jR (ja (pv 4) (ja (ji jq (pv 1) (pv 4)) jc))) jc))))
    jt)
   (jf (jT (jk wA (pv 7) Yy (nomark _))
    (jf (jU (JK PySem.F.plainAttrs_list PySem.F.slot_list_append PySem.F.type_list_append jH (pv 3) (ja (jR (ja (pv 4) (ja (pv 7) jc))) jc))))
    jt))))
  (jf (jv (pv 3))))),?_⟩
 refine jz (σ':=[some _,some _,some _,none,none,none,none,none]) rfl ?_;have sz:(10000:Nat)<sizeLine:=by decide
 have gat:∀j,j<gs.length->gs[j]?=some (gs.getD j 0):=fun j h=>by
  rw[getD_eq_getElem?_getD,List.getElem?_eq_getElem h];rfl
 exists⟨Nat.zero_le _,?_⟩;walk_at"f p hp H1 s1 e1";have np:∀{c u},H c=some u->c≠p:=fun h=>je h hp
 exists⟨l,s0,t0,bs,qs,gs,rfl,s1 _ _ el,All2.mono hq fun c x h=>s1 _ _ h,s1 _ _ es,q8,ok,t1,t2,fun l2 as2 H2 s2 hl2 e2 ha2=>?_⟩;have lpr:=K5 (gs:=gs) (t:=t0) qs;have al2:=ha2.1;have n2p:l2≠p:=fun z=>by rw[z,e1]at hl2;cases hl2
 have e12:=s2 _ _ e1;exists⟨l2,rfl,⟨_,SqL.of e2⟩,?_⟩;refine JU (xs:=as2.map V.ref) (fun i σ H'=>∃(o4 o5 o6 o7:Option V) (as:List Addr),σ=[some (.ref l),some (.ref s0),some (.int t0),some (.ref p),o4,o5,o6,o7]/\(∀c u,c≠p->H2 c=some u->H' c=some u)/\H' p=some (.lst (as.map V.ref))/\as.length<=2*i/\GonAt H' as (((prg gs t0 qs).take i).flatMap (wth1 gs)))
  ⟨_,_,_,_,[],rfl,fun c u _ h=>h,e12,Nat.le_refl _,.nil⟩ ?_ ?_ ?_
 ·rintro i σ H' _ ⟨o4,o5,o6,o7,as,rfl,sm,ep,la,ha⟩;exact SqL.of (sm _ _ n2p e2)
 ·rintro i v σ H' hv ⟨o4,o5,o6,o7,as,rfl,sm,ep,la,ha⟩;obtain⟨c,y,rfl,hy,hc⟩:=ha2.at_ref hv;have hi:=(List.getElem?_eq_some_iff.mp hy).1;have ncp:c≠p:=fun z=>by rw[z,e12]at hc;cases hc
  obtain⟨x,hx,ex⟩:=ZW (List.mem_of_getElem? hy);have y1:y.1<gs.length:=by rw[kJ ex];exact(ok x hx).1
  have more:((prg gs t0 qs).take (i+1)).flatMap (wth1 gs)=((prg gs t0 qs).take i).flatMap (wth1 gs)++wth1 gs y:=by
   rw[take_snoc hy,flatMap_append,flatMap_cons,flatMap_nil,append_nil]
  have es':H' s0=some (.lst (gs.map V.int)):=sm _ _ (np es) (s2 _ _ (s1 _ _ es));refine j1o (SqT.of (sm _ _ ncp hc)) ?_;exists⟨fun σ' H3=>∃as3:List Addr,σ'=[some (.ref l),some (.ref s0),some (.int t0),some (.ref p),some (.int (y.1:Nat)),some (.int y.2.1),some (.int y.2.2.1),some (optV y.2.2.2)]/\(∀c u,c≠p->H' c=some u->H3 c=some u)/\H3 p=some (.lst (as3.map V.ref))/\as3.length<=2*i+1/\GonAt H3 as3 (((prg gs t0 qs).take i).flatMap (wth1 gs)++(if 0<y.2.2.1 then[(y.1,gs.getD y.1 0)]else[])),?_,?_⟩
  rotate_left
  ·exists iteD (fun c1=>?_) (fun c1=>?_)
   ·exists⟨.inl ⟨rfl,_,SqL.of ep⟩,?_⟩;exists ixLm (SqL.of es') (jY (j:=y.1) (by rw[List.getElem?_map,gat _ y1];rfl)) ?_;exists⟨(by show 2<=sizeLine;omega),?_⟩;walk_at"f p2 hp2 H3 s3 e3";exists⟨p,_,_,rfl,rfl,s3 _ _ ep,by rw[length_map];omega,?_⟩;have n2':p2≠p:=fun z=>by rw[z,s3 _ _ ep]at e3;cases e3
    refine⟨as++[p2],rfl,fun c u hc h=>(jg hc).trans (s3 _ _ h),by rw[jx,map_append];rfl,by rw[List.length_append];show as.length+1<=_;omega,?_⟩;rw[if_pos c1];refine All2.snoc (All2.mono ha fun c y h=>?_) ((jg n2').trans e3);exact(jg (fun z=>by rw[z,ep]at h;cases h)).trans (s3 _ _ h)
   ·exists⟨as,rfl,fun c u _ h=>h,ep,by omega,?_⟩;rw[if_neg c1,append_nil];exact ha
  rintro σ' H3 ⟨as3,rfl,sm3,ep3,la3,ha3⟩;have fin:wth1 gs y=(if 0<y.2.2.1 then[(y.1,gs.getD y.1 0)]else[])++(match y.2.2.2 with | some r=>[(y.1,r)] | none=>[]):=rfl;cases er:y.2.2.2 with
  | none=>
   exists⟨rfl,_,rfl,?_⟩;refine iteB0 (by simp[optV]) ?_;exists⟨_,_,_,_,as3,rfl,fun c u hc h=>sm3 _ _ hc (sm _ _ hc h),ep3,by omega,?_⟩;rw[more,fin,er,append_nil];exact ha3
  | some r=>
   exists⟨rfl,_,rfl,?_⟩;refine iteB1 (by simp[optV]) ?_;exists⟨.inl ⟨rfl,_,SqL.of ep3⟩,?_⟩;exists⟨(by show 2<=sizeLine;omega),?_⟩;walk_at"f p2 hp2 H4 s4 e4";exists⟨p,_,_,rfl,rfl,s4 _ _ ep3,by rw[length_map];omega,?_⟩;have n2':p2≠p:=fun z=>by rw[z,s4 _ _ ep3]at e4;cases e4
   refine⟨_,_,_,_,as3++[p2],rfl,fun c u hc h=>(jg hc).trans (s4 _ _ (sm3 _ _ hc (sm _ _ hc h))),by rw[jx,map_append];rfl,by rw[List.length_append];show as3.length+1<=_;omega,?_⟩;rw[more,fin,er,<-List.append_assoc];refine All2.snoc (All2.mono ha3 fun c y h=>?_) ((jg n2').trans e4);exact(jg (fun z=>by rw[z,ep3]at h;cases h)).trans (s4 _ _ h)
 rintro σ' H' ⟨o4,o5,o6,o7,as,rfl,sm,ep,la,ha⟩;rw[length_map,al2,take_length]at ha;walk_at"g";exact q p as H' (fun c u h=>sm _ _ (np h) (s2 _ _ (s1 _ _ h))) hp ep ha
theorem kF(T:Txt K mg t)(kc:FnOk P w K mg base CX0 2 t.ZC t.ZE ["pieces","sizes","gone"] (sp_within)):FnOk P w K mg base CX0 3 t.qw t.qy ["self","beat"] (sp_sceneS t.Jd):=by
 refine T.Ka.ok Jx (fun vs H Q E h=>?_) (fun cdv A outer s H vs Q E hr h=>?_)
 ·cases h;subst_vars;rfl
 obtain⟨a,z,ls,ps,gs,hs,E,t0,rfl,A,N,t1,t2,q⟩:=h;refine⟨_,(jb (jT (yg (kL kH kH jd (pv 1) (ji jq (Jw (pv 0) rfl) (XA wR jd))))
   (jf ZG)
   jt)
  (jb (jp (i:=2) Jx.nd rfl (.inl rfl) (Qx yC (by rfl) T.j0t Xe (ja (Jw (pv 0) rfl) jc)))
  (jb (jp (i:=3) Jx.nd rfl (.inl rfl) (jG jc))
  (jb (jp (i:=4) Jx.nd rfl (.inl rfl) (jG (ja (jR (ja (jo Qw (jA jW (by rfl) T.qe Ju (ja (Jw (pv 0) rfl) jc)) jd) (ja (pv 1) jc))) jc)))
  (jb (kK PassesOwn.never (xK (pv 4) (fun _=>rfl))
   (jb (jp (i:=5) Jx.nd rfl (.inl rfl) (xE PySem.F.plainAttrs_list PySem.F.slot_list_pop PySem.F.type_list_pop j14 (pv 4)))
   (jf (jT (jk zx (ji jw (pv 5) jd) (ji jq (Jw (pv 0) rfl) (ji jw (pv 5) jd)) (nomark _))
    (jb (jU (JK PySem.F.plainAttrs_list PySem.F.slot_list_append PySem.F.type_list_append jH (pv 3) (ja (pv 5) jc)))
    (jf (jU (JK PySem.F.plainAttrs_list PySem.F.slot_list_extend PySem.F.type_list_extend j06 (pv 4) (ja (j33 (jh (kc.mono (by decide)) hr (by rfl) T.j0X T.wX.kp T.j0q .nil pass0 (ja (ji jq (Jw (pv 0) rfl) (ji jw (pv 5) jd)) (ja (Jw (pv 0) rfl) (ja (ji jw (pv 5) jd) jc)))) (Zl (XA wR jd))) jc)))))
    (jf (Jp PassesOwn.never rfl (Je (ji jq (Jw (pv 0) rfl) (ji jw (pv 5) jd))) (qg rfl (jy (jr (i:=6) Jx.nd rfl (.inl rfl)) (jy (jr (i:=7) Jx.nd rfl (.inl rfl)) JD)))
     (jf (Yz (pv 7) (kI (pv 2) (pv 6) set_list)))))))))
  (jf (jv (jR (ja (pv 2) (ja (pv 3) jc)))))))))),?_⟩
 refine jz (σ':=[some _,some _,none,none,none,none,none,none]) rfl ?_;have sz:(10000:Nat)<sizeLine:=by decide
 have W:=N.s.w;have gl:=N.s.gl;have ne:=N.ne;have p61:=W.p61;have lE:=A.el;have M8:∀i,i<ps.length->(hs.getD i []).length<=8:=fun i hi=>Xv W N.hl N.m (KB N.s N.hl hi)
 have glast:atI (gs.map V.int) (-1)=some (.int (gs.getD (ps.length-1) 0)):=Xd (by omega) (by rw[gl]);have gat:∀j,j<ps.length->gs[j]?=some (gs.getD j 0):=fun j h=>N.j0J h
 obtain⟨dx,ob⟩:=A.ob;exists iteD (fun _=>?_) (fun c=>absurd t1 c);exists⟨a,_,dx,_,_,rfl,ob,T.Ji,T.j6,ZU,?_⟩;exists ixLm (SqL.of A.hs) (glast) ?_;exists iteN (fun z=>absurd t2 z) (fun _=>?_);exists⟨a,_,dx,_,_,rfl,ob,T.Ji,T.J3,X1,?_⟩;exists⟨z.f,_,rfl,.inl (SqL.of A.hf),?_⟩;walk_at"f 1 e";exists⟨Nat.zero_le _,?_⟩;walk_at"f 2 e";have s12:=s1.trans s2;exists⟨a,_,dx,_,_,rfl,s12 _ _ ob,T.Ji,T.j6,ZU,?_⟩;exists⟨_,_,rfl,.inl ⟨_,SqL.of (s12 _ _ A.hs),rfl⟩,?_⟩;rw[length_map,gl];exists⟨(by show 2<=sizeLine;omega),?_⟩;walk_at"f 3 e";exists⟨(by show 1<=sizeLine;omega),?_⟩;walk_at"f 4 e";rw[show((ps.length:Nat):Int)-1=((ps.length-1:Nat):Int) by omega]at e3;have s13:=s12.trans s3;have s14:=s13.trans s4;have n12:p1≠p2:=je e1 hp2;have n14:p1≠p4:=je (s3 _ _ (s2 _ _ e1)) hp4;have n24:p2≠p4:=je (s3 _ _ e2) hp4;have m1:∀{c u},H c=some u->c≠p1:=fun h=>je h hp1
 have m2:∀{c u},H c=some u->c≠p2:=fun h=>je (s1 _ _ h) hp2
 have m4:∀{c u},H c=some u->c≠p4:=fun h=>je (s13 _ _ h) hp4
 have root:=N.nodes M8 (i:=ps.length-1) (t:=t0) (by omega) t1;have b18:∀h∈ls.map (·.2),0<=h/\h<=10^18:=fun h hh=>by
  obtain⟨q0,hq0,rfl⟩:=mem_map.mp hh;exact N.l18 q0 hq0
 exists⟨fun m σ H'=>∃(o5 o6 o7:Option V) (pas tas:List Addr) (D P S:List (Nat×Int)),σ=[some (.ref a),some (.int t0),some (.ref p1),some (.ref p2),some (.ref p4),o5,o6,o7]/\ScAt ls ps gs E t0 H H' p1 p2 p4 pas tas D P S/\m=(S.map fun x=>nodes ps gs x.1 x.2).sum,
  ⟨_,none,none,none,[],[p3],[],[],[(ps.length-1,t0)],rfl,⟨s14,s4 _ _ (s3 _ _ (s2 _ _ e1)),s4 _ _ (s3 _ _ e2),e4,.nil,All2.snoc (as:=[]) (xs:=[]) .nil (s4 _ _ e3),by simp,fun x hx=>by rw[mem_singleton.mp hx];exact⟨by show ps.length-1<_;omega,t1⟩,rfl,(fun x hx=>nomatch hx),by simpa using root,by show(ls.map (·.2)).length=_;rw[length_map],b18⟩,rfl⟩,?_⟩
 rintro m σ H' ⟨o5,o6,o7,pas,tas,D,P,S,rfl,Sc,rfl⟩;obtain⟨sm,e1',e2',eT,gP,gT,inv,hS,hP,bP,bnd,ll,hb⟩:=Sc;have slen:S.length<=(S.map fun x=>nodes ps gs x.1 x.2).sum:=xS fun x _=>ZY (ps:=ps) (gs:=gs) x.1 x.2
 have pl:=gP.1;have tl:=gT.1;exists⟨_,.inl ⟨_,SqL.of eT,rfl⟩,?_⟩;rcases List.eq_nil_or_concat S with rfl | ⟨S0,x,rfl⟩
 ·have et:tas=[]:=List.length_eq_zero_iff.mp tl;subst et;refine iteF ?_;walk_at"g";rw[show([]:List (Nat×Int)).reverse.flatMap (fun x=>reach ps gs x.1 x.2)=[]from rfl,append_nil]at inv;subst inv;have b0:([].map fun x:Nat×Int=>nodes ps gs x.1 x.2).sum=0:=rfl;refine⟨(by show 2<=sizeLine;omega),?_⟩;walk_at"f 5 e";exact q p5 p1 p2 pas P H5 (sm.trans s5) hp1 (none_of s1 hp2) e5 (s5 _ _ e1') ll hb (s5 _ _ e2') n12 (All2.mono gP fun c y h=>s5 _ _ h) (by omega) bP hP
 rw[List.concat_eq_append]at *;obtain⟨tas0,ax,rfl,gT0,hax⟩:=All2.last gT;rw[map_append]at eT|-;refine iteB1 (by simp) ?_;obtain⟨x1,x2⟩:=hS x (mem_append_right _ mem_cons_self);have hS0:∀y∈S0,y.1<ps.length/\0<=y.2:=fun y hy=>hS y (mem_append_left _ hy)
 rw[List.reverse_append,flatMap_append,map_append,sum_append]at *;have nd1:=ZY (ps:=ps) (gs:=gs) x.1 x.2;have esum:([x].map fun x:Nat×Int=>nodes ps gs x.1 x.2).sum=nodes ps gs x.1 x.2:=by simp
 have eflat:([x].reverse.flatMap fun x=>reach ps gs x.1 x.2)=reach ps gs x.1 x.2:=by simp
 rw[esum]at slen bnd|-;have s0l:S0.length<=5000:=by rw[List.length_append]at slen;omega
 have t0l:=gT0.1;rw[eflat]at inv;refine⟨fun σ H'=>∃(o5 o6 o7:Option V) (pas tas:List Addr) (D P S:List (Nat×Int)),σ=[some (.ref a),some (.int t0),some (.ref p1),some (.ref p2),some (.ref p4),o5,o6,o7]/\ScAt ls ps gs E t0 H H' p1 p2 p4 pas tas D P S/\(S.map fun x=>nodes ps gs x.1 x.2).sum<(S0.map fun x=>nodes ps gs x.1 x.2).sum+nodes ps gs x.1 x.2,
  fun σ' H' ⟨o5,o6,o7,pas,tas,D,P,S,h1,h2,h3⟩=>⟨_,h3,o5,o6,o7,pas,tas,D,P,S,h1,h2,rfl⟩,?_⟩
 exists⟨.inl ⟨rfl,_,SqL.of eT⟩,?_⟩;refine⟨p4,_,.ref ax,rfl,rfl,eT,by simp,?_⟩;rw[show((tas0.map V.ref)++[ax].map V.ref).dropLast=tas0.map V.ref by simp];have naT:∀{c:Addr} {xs:List V},H' c=some (.tup xs)->c≠p4:=fun h z=>by rw[z,eT]at h;cases h
 have s5:Same H (upd H' p4 (.lst (tas0.map V.ref))):=fun c u h=>(jg (m4 h)).trans (sm _ _ h)
 have eT5:upd H' p4 (.lst (tas0.map V.ref)) p4=some (.lst (tas0.map V.ref)):=jx;have e15:=(jg (o:=HO.lst (tas0.map V.ref)) n14).trans e1';have e25:=(jg (o:=HO.lst (tas0.map V.ref)) n24).trans e2';have gP5:GonAt (upd H' p4 (.lst (tas0.map V.ref))) pas P:=All2.mono gP fun c y h=>(jg (naT h)).trans h
 have gT5:GonAt (upd H' p4 (.lst (tas0.map V.ref))) tas0 S0:=All2.mono gT0 fun c y h=>(jg (naT h)).trans h
 have ax5:=(jg (o:=HO.lst (tas0.map V.ref)) (naT hax)).trans hax;generalize upd H' p4 (.lst (tas0.map V.ref))=H5 at s5 eT5 e15 e25 gP5 gT5 ax5|-;clear naT;have es5:H5 z.s=some (.lst (gs.map V.int)):=s5 _ _ A.hs;have ob5:=s5 _ _ ob;exists ixTm (SqT.of ax5) rfl ?_;exists⟨a,_,dx,_,_,rfl,ob5,T.Ji,T.j6,ZU,?_⟩;exists ixTm (SqT.of ax5) rfl ?_;exists ixLm (SqL.of es5) (jY (j:=x.1) (by rw[List.getElem?_map,gat _ x1];rfl)) ?_;walk_at"g";obtain⟨p,hp⟩:∃p,ps[x.1]?=some p:=⟨_,List.getElem?_eq_getElem x1⟩
 have epc:pcB ps gs x.1=pcsI gs p.2 (inP ps p.2):=by unfold pcB;rw[hp]
 refine iteD (fun c1=>?_) (fun c1=>?_)
 ·have ovf:ovB gs x=false:=decide_eq_false (by omega);have hpq:(ps.map fun p=>pcsI gs p.2 (inP ps p.2))[x.1]?=some (pcB ps gs x.1):=by rw[List.getElem?_map,hp,epc];rfl
  obtain⟨al,eal,bs,hbs,hq⟩:=A.pa.get hpq;have g60:=(N.g x1).2;have pc8:(pcB ps gs x.1).length<=8:=by rw[epc];exact Wq (N.i8 hp)
  have wl:=j2d (gs:=gs) (t:=x.2) (pcB ps gs x.1);exists⟨.inl ⟨rfl,_,SqL.of e25⟩,?_⟩;exists⟨p2,_,_,rfl,rfl,e25,by rw[length_map];omega,?_⟩;have na2:∀{c:Addr} {xs:List V},H5 c=some (.tup xs)->c≠p2:=fun h z=>by rw[z,e25]at h;cases h
  have s6:Same H (upd H5 p2 (.lst (pas.map V.ref++[.ref ax]))):=fun c u h=>(jg (m2 h)).trans (s5 _ _ h)
  have e26:upd H5 p2 (.lst (pas.map V.ref++[.ref ax])) p2=some (.lst ((pas++[ax]).map V.ref)):=by rw[jx,map_append];rfl
  have e16:=(jg (o:=HO.lst (pas.map V.ref++[.ref ax])) n12).trans e15;have eT6:=(jg (o:=HO.lst (pas.map V.ref++[.ref ax])) n24.symm).trans eT5;have ax6:=(jg (o:=HO.lst (pas.map V.ref++[.ref ax])) (na2 ax5)).trans ax5;have gP6:GonAt (upd H5 p2 (.lst (pas.map V.ref++[.ref ax]))) (pas++[ax]) (P++[x]):=All2.snoc (All2.mono gP5 fun c y h=>(jg (na2 h)).trans h) ax6;have gT6:GonAt (upd H5 p2 (.lst (pas.map V.ref++[.ref ax]))) tas0 S0:=All2.mono gT5 fun c y h=>(jg (na2 h)).trans h
  generalize upd H5 p2 (.lst (pas.map V.ref++[.ref ax]))=H6 at s6 e26 e16 eT6 ax6 gP6 gT6|-;exists⟨.inl ⟨rfl,_,SqL.of eT6⟩,?_⟩;exists⟨a,_,dx,_,_,rfl,s6 _ _ ob,T.Ji,T.JV,xh,?_⟩;exists ixTm (SqT.of ax6) rfl ?_;exists ixLm (SqL.of (s6 _ _ A.hp)) (ZS (i:=(x.1:Int)) (by omega) eal) ?_;exists⟨a,_,dx,_,_,rfl,s6 _ _ ob,T.Ji,T.j6,ZU,?_⟩;exists ixTm (SqT.of ax6) rfl ?_;exists⟨al,z.s,x.2,bs,pcB ps gs x.1,gs,rfl,s6 _ _ hbs,All2.mono hq fun c y h=>s6 _ _ h,s6 _ _ A.hs,pc8,fun q hq=>N.pcOk hq,x2,by omega,fun lw was H7 s7 hlw ew hw=>?_⟩;exists⟨rfl,lw,_,rfl,SqL.of ew,?_⟩;walk_at"f lr hlr H8 s8 e8";have s68:=s7.trans s8;have eT8:=s68 _ _ eT6;have wal:=hw.1;refine⟨p4,lr,_,_,rfl,rfl,eT8,e8,by rw[length_map,List.length_reverse,length_map];omega,?_⟩;have naT8:∀{c:Addr} {xs:List V},H8 c=some (.tup xs)->c≠p4:=fun h z=>by rw[z,eT8]at h;cases h
  have gP9:=fun(c:Addr) (y:Nat×Int) (h:H6 c=some (.tup [.int (y.1:Nat),.int y.2]))=>(jg (o:=HO.lst (tas0.map V.ref++(was.map V.ref).reverse)) (naT8 (s68 _ _ h))).trans (s68 _ _ h)
  have bP':∀y∈P++[x],y.1<ps.length/\0<=y.2/\y.2<gs.getD y.1 0:=fun y hy=>by
   rcases mem_append.mp hy with h | h
   ·exact bP y h
   ·rw[mem_singleton.mp h];exact⟨x1,x2,c1⟩
  refine⟨_,_,_,pas++[ax],tas0++was.reverse,if leafB ps gs x=true then D++[x]else D,P++[x],S0++(wth gs x.2 (pcB ps gs x.1)).reverse,rfl,⟨fun c u h=>(jg (m4 h)).trans (s68 _ _ (s6 _ _ h)),?_,(jg n24).trans (s68 _ _ e26),by rw[jx,map_append,List.map_reverse],All2.mono gP6 gP9,?_,?_,?_,?_,bP',?_,?_,?_⟩,?_⟩
  ·rw[kx ovf];exact(jg n14).trans (s68 _ _ e16)
  ·exact All2.app (All2.mono gT6 gP9) (All2.mono (All2.rev hw) fun c y h=>(jg (naT8 (s8 _ _ h))).trans (s8 _ _ h))
  ·rw[List.reverse_append,List.reverse_reverse,flatMap_append,<-inv];by_cases lf:leafB ps gs x=true
   ·have c2:pcB ps gs x.1=[]:=List.isEmpty_iff.mp lf;rw[if_pos lf,c2,zm (.inr c2),List.append_assoc];rfl
   ·have c2:¬(gs.getD x.1 0<=x.2\/pcB ps gs x.1=[]):=fun h=>h.elim (by omega) fun e=>lf (List.isEmpty_iff.mpr e)
    rw[if_neg lf,yi W c2]
  ·intro y hy;rcases mem_append.mp hy with h | h
   ·exact hS0 y h
   ·have h:=List.mem_reverse.mp h;have:=YD W h;exact⟨by omega,xY (fun q hq=>N.pcOk hq) h⟩
  ·rw[filter_append,hP];by_cases lf:leafB ps gs x=true
   ·rw[if_pos lf,filter_append,List.filter_cons_of_pos lf,List.filter_cons_of_pos (by rw[ovf];rfl)];rfl
   ·rw[if_neg lf,List.filter_cons_of_neg lf];exact append_nil _
  ·have:=Yv W (i:=x.1) (t:=x.2) c1;rw[map_append,sum_append,List.map_reverse,List.sum_reverse,List.length_append];show P.length+1+_<=_;omega
  ·rw[kx ovf];exact ll
  ·rw[kx ovf];exact hb
  ·have:=Yv W (i:=x.1) (t:=x.2) c1;rw[map_append,sum_append,List.map_reverse,List.sum_reverse];omega
 ·have ovt:ovB gs x=true:=decide_eq_true (by omega);have hE:E[x.1]?=some (E.getD x.1 []):=by rw[getD_eq_getElem?_getD,List.getElem?_eq_getElem (by omega)];rfl
  obtain⟨ae,eae,bs,hbs,prs⟩:=A.ea.get hE;have bnd':=ko W (by omega) A.eo x.1;have eb:=j2L N lE A.eo x1;have hbs5:=s5 _ _ hbs;exists⟨a,_,dx,_,_,rfl,ob5,T.Ji,T.qr,j0G,?_⟩;exists ixTm (SqT.of ax5) rfl ?_;exists ixLm (SqL.of (s5 _ _ A.hl)) (ZS (i:=(x.1:Int)) (by omega) eae) ?_;refine⟨ae,rfl,⟨_,SqL.of hbs5⟩,?_⟩;have pl':=prs.1;have nae:ae≠p1:=m1 hbs;refine JU (xs:=bs.map V.ref) (fun k σ H7=>∃(o6 o7:Option V),σ=[some (.ref a),some (.int t0),some (.ref p1),some (.ref p2),some (.ref p4),some (.ref ax),o6,o7]/\(∀c u,c≠p1->H5 c=some u->H7 c=some u)/\H7 p1=some (.lst ((setE ((E.getD x.1 []).take k) (hOf ls gs E D)).map V.int))/\(setE ((E.getD x.1 []).take k) (hOf ls gs E D)).length=ls.length/\(∀h∈setE ((E.getD x.1 []).take k) (hOf ls gs E D),0<=h/\h<=10^18))
   ⟨_,_,rfl,fun c u _ h=>h,e15,ll,hb⟩ ?_ ?_ ?_
  ·rintro k σ H7 _ ⟨o6,o7,rfl,sm7,ep7,_⟩;exact SqL.of (sm7 _ _ nae hbs5)
  ·rintro k v σ H7 hv ⟨o6,o7,rfl,sm7,ep7,ll7,hb7⟩;obtain⟨c',y,rfl,hy,hc'⟩:=prs.at_ref hv;have hy0:=List.mem_of_getElem? hy;have yb:=bnd' y hy0;have yh:=eb y hy0;refine Qz (SqT.of (sm7 _ _ (m1 hc') (s5 _ _ hc'))) ?_;walk_at"g";have step:setE ((E.getD x.1 []).take (k+1)) (hOf ls gs E D)=(setE ((E.getD x.1 []).take k) (hOf ls gs E D)).set y.1.toNat y.2:=by
    unfold setE;rw[take_snoc hy,List.foldl_append];rfl
   refine⟨p1,_,_,y.1.toNat,rfl,rfl,ep7,ixZ yb.1 (by rw[length_map,ll7];exact yb.2),?_⟩;refine⟨_,_,rfl,fun c u hc h=>(jg hc).trans (sm7 _ _ hc h),jx.trans ?_,by rw[step,List.length_set];exact ll7,fun h hh=>?_⟩
   ·rw[step,List.map_set]
   ·rw[step]at hh;rcases List.mem_or_eq_of_mem_set hh with z | z
    ·exact hb7 h z
    ·rw[z];exact yh
  rintro σ' H7 ⟨o6,o7,rfl,sm7,ep7,ll7,hb7⟩;rw[length_map,pl',take_length]at ep7 ll7 hb7;have na1:∀{c:Addr} {xs:List V},H5 c=some (.tup xs)->c≠p1:=fun h z=>by rw[z,e15]at h;cases h
  have over:gs.getD x.1 0<=x.2:=by omega
  refine⟨_,_,_,pas,tas0,D++[x],P,S0,rfl,⟨fun c u h=>sm7 _ _ (m1 h) (s5 _ _ h),?_,sm7 _ _ n12.symm e25,sm7 _ _ n14.symm eT5,All2.mono gP5 fun c y h=>sm7 _ _ (na1 h) h,All2.mono gT5 fun c y h=>sm7 _ _ (na1 h) h,?_,hS0,?_,bP,by omega,?_,?_⟩,by omega⟩
  ·rw[kz ovt];exact ep7
  ·rw[<-inv,zm (.inl over),List.append_assoc]
  ·rw[hP,filter_append,List.filter_cons_of_neg (by rw[ovt];decide)];exact(append_nil _).symm
  ·rw[kz ovt];exact ll7
  ·rw[kz ovt];exact hb7
theorem yO(T:Txt K mg t)(zA:FnOk P w K mg base CX0 3 t.qw t.qy ["self","beat"] (sp_sceneS t.Jd)):FnOk P w K mg base CX0 4 t.JM t.JR ["self","beat"] (sp_wordsS t.Jd):=by
 refine T.Ye.ok JF (fun vs H Q E h=>?_) (fun cdv A outer s H vs Q E hr h=>?_)
 ·cases h;subst_vars;rfl
 obtain⟨a,z,ls,ps,gs,hs,E,t0,rfl,A,N,t1,t2,q⟩:=h;refine⟨_,(jb (jp (i:=2) JF.nd rfl (.inl rfl) (jG jc))
  (jb (Jp PassesOwn.never rfl (Je (ji jw (yU (pv 0) T.Ji T.kC (zA.mono (by decide)) hr T.kW .nil pass0 (ja (pv 1) jc)) jd)) (qg rfl (jy (jr (i:=3) JF.nd rfl (.inl rfl)) (jy (jr (i:=4) JF.nd rfl (.inl rfl)) JD)))
   (jb (jp (i:=5) JF.nd rfl (.inl rfl) (ji jq (Jw (pv 0) rfl) (pv 3)))
   (jf (jT (PW.pt (Qk (jk Jn (ji jw (pv 5) jd) jD (nomark _)) (qD (jk Jn (pv 4) jd (nomark _)))))
    (jf (jU (JK PySem.F.plainAttrs_list PySem.F.slot_list_append PySem.F.type_list_append jH (pv 2) (ja (ji jw (pv 5) jd) jc))))
    jt))))
  (jf (jv (pv 2))))),?_⟩
 refine jz (σ':=[some _,some _,none,none,none,none]) rfl ?_;have sz:(10000:Nat)<sizeLine:=by decide
 obtain⟨dx,ob⟩:=A.ob;exists⟨Nat.zero_le _,?_⟩;walk_at"f p1 hp1 H0 s0 e0";exists⟨a,dx,_,rfl,s0 _ _ ob,j0H (by decide +kernel) (by decide +kernel) (by decide +kernel) (by decide +kernel) (by decide +kernel) (by decide +kernel),?_⟩;exists⟨a,z,ls,ps,gs,hs,E,t0,rfl,A.same s0,N,t1,t2,fun r l1 l2 as P H1 s1 hl1 hl2 er h1 ll hb h2 n12 gP pl bP hP=>?_⟩;have fin:=WO N hP;have s01:=s0.trans s1;have e1:=s1 _ _ e0;have m1:∀{c u},H c=some u->c≠p1:=fun h=>je h hp1
 have n2:l2≠p1:=fun e=>by rw[e,e0]at hl2;cases hl2
 have al:=gP.1;have wl:∀xs:List (Nat×Int),(xs.flatMap (ringX ps)).length<=xs.length:=fun xs=>by
  induction xs with
  | nil=>exact Nat.le_refl _
  | cons x r ih=>
   rw[flatMap_cons,List.length_append,length_cons];have:(ringX ps x).length<=1:=by
    unfold ringX;split
    ·split<;>simp
    ·exact Nat.zero_le _
   omega
 exists ixTm (SqT.of er) rfl ?_;refine⟨l2,rfl,⟨_,SqL.of h2⟩,?_⟩;refine JU (xs:=as.map V.ref) (fun i σ H'=>∃(o3 o4 o5:Option V),σ=[some (.ref a),some (.int t0),some (.ref p1),o3,o4,o5]/\(∀c u,c≠p1->H1 c=some u->H' c=some u)/\H' p1=some (.lst (((P.take i).flatMap (ringX ps)).map V.str)))
  ⟨_,_,_,rfl,fun c u _ h=>h,e1⟩ ?_ ?_ ?_
 ·rintro i σ H' _ ⟨o3,o4,o5,rfl,sm,ep⟩;exact SqL.of (sm _ _ n2 h2)
 ·rintro i v σ H' hv ⟨o3,o4,o5,rfl,sm,ep⟩;obtain⟨c,x,rfl,hx,hc⟩:=gP.at_ref hv;have hi:=(List.getElem?_eq_some_iff.mp hx).1;obtain⟨x1,x0,x2⟩:=bP x (List.mem_of_getElem? hx);obtain⟨p,hp⟩:∃p,ps[x.1]?=some p:=⟨_,List.getElem?_eq_getElem x1⟩
  obtain⟨fb,efb,hf⟩:=A.fo.get hp;have more:(P.take (i+1)).flatMap (ringX ps)=(P.take i).flatMap (ringX ps)++ringX ps x:=by
   rw[take_snoc hx,flatMap_append,flatMap_cons,flatMap_nil,append_nil]
  have n3:∀{c u},H c=some u->H' c=some u:=fun h=>sm _ _ (m1 h) (s01 _ _ h)
  have nc:c≠p1:=fun z=>by rw[z,e1]at hc;cases hc
  have hf1:FormAt H' fb p.2:=FormAt.put (fun b xs hb=>n3 hb) hf;refine Qz (SqT.of (sm _ _ nc hc)) ?_;exists⟨a,_,dx,_,_,rfl,n3 ob,T.Ji,T.qa,X2,?_⟩;exists ixLm (SqL.of (n3 A.ho)) (ZS (i:=(x.1:Int)) (by omega) efb) ?_;walk_at"g";by_cases hring:∃y n,p.2 = .ring y n
  ·obtain⟨y,n,er⟩:=hring;rw[er]at hf1;have hf':H' fb=some (.tup [.str "ring",.str y,.int n]):=hf1;have ex:ringX ps x=if x.2=0 then[y]else[]:=by
    unfold ringX;rw[hp];obtain⟨pn,pf⟩:=p;have er:pf = .ring y n:=er;subst er;rfl
   refine ixTm (SqT.of hf') rfl ?_;exists iteE1 ?_;exists iteD (fun c=>?_) (fun c=>?_)
   ·exists⟨.inl ⟨rfl,_,SqL.of ep⟩,?_⟩;exists ixTm (SqT.of hf') rfl ?_;have:=wl (P.take i);rw[length_take]at this;refine⟨p1,_,_,rfl,rfl,ep,by rw[length_map];omega,?_⟩;refine⟨_,_,_,rfl,fun c u hc h=>(jg hc).trans (sm _ _ hc h),jx.trans ?_⟩;rw[more,ex,if_pos c,map_append];rfl
   ·exists⟨_,_,_,rfl,sm,?_⟩;rw[more,ex,if_neg c,append_nil];exact ep
  ·have ex:ringX ps x=[]:=by
    unfold ringX;rw[hp];obtain⟨pn,pf⟩:=p;cases pf with
    | ring y n=>exact absurd ⟨y,n,rfl⟩ hring
    | _=>rfl
   have key:∃k xs,H' fb=some (.tup (.str k::xs))/\decide (k=("ring" : Str))=false:=by
    generalize p.2=f at hf1 hring;cases f with
    | hold n=>exact⟨_,_,hf1,by decide +kernel⟩
    | ring y n=>exact absurd ⟨y,n,rfl⟩ hring
    | rise y v n=>exact⟨_,_,hf1,by decide +kernel⟩
    | row ps=>obtain⟨b',h1,_⟩:=hf1;exact⟨_,_,h1,by decide +kernel⟩
    | side ps=>obtain⟨b',h1,_⟩:=hf1;exact⟨_,_,h1,by decide +kernel⟩
    | again k y=>exact⟨_,_,hf1,by decide +kernel⟩
   obtain⟨k,xs,hk,dk⟩:=key;refine ixTm (SqT.of hk) (at0) ?_;exists iteB0 dk ?_;exists⟨_,_,_,rfl,sm,?_⟩;rw[more,ex,append_nil];exact ep
 rintro σ' H' ⟨o3,o4,o5,rfl,sm,ep⟩;rw[length_map,al,take_length,fin]at ep;walk_at"g";have w1:=wl P;rw[fin]at w1;exact q p1 H' (fun c u h=>sm _ _ (m1 h) (s01 _ _ h)) hp1 ep (by omega)
theorem j1e(T:Txt K mg t)(Qo:FnOk P w K mg base CX0 6 t.Jt t.JQ ["self","book"] (sp_initS t.Jd))(Qp:FnOk P w K mg base CX0 4 t.JM t.JR ["self","beat"] (sp_wordsS t.Jd)):FnOk P w K mg base CX0 8 t.yx t.yF ["book","beat"] (sp_ringsG):=by
 refine T.Xa.ok j1w (fun vs H Q E h=>?_) (fun cdv A outer s H vs Q E hr h=>?_)
 ·cases h;subst_vars;rfl
 obtain⟨b,pl,pp,las,pas,ls,ps,gs,hs,t0,rfl,B,N,t1,t2,q⟩:=h;refine⟨_,(jf (jv (yU (wC T.j1Q (Qo.mono (by decide)) hr (by rfl) T.j12 T.y8 .nil pass0 (ja (pv 0) jc)) T.Ji T.yL (Qp.mono (by decide)) hr T.y9 .nil pass0 (ja (pv 1) jc)))),?_⟩;refine jz (σ':=[some _,some _]) rfl ?_;walk_at"g";intro o dx ho hdx ne;have s0:Same H (upd (upd H dx (.own o)) o (.ins t.Jd dx [])):=fun c u h=>(jg (je h ho)).trans ((jg (je h hdx)).trans h)
 refine⟨o,dx,b,pl,pp,las,pas,ls,ps,gs,hs,rfl,jx,B.same s0,N,fun z E H1 k1 A=>⟨rfl,?_⟩⟩;obtain⟨dy,ob⟩:=A.ob;have s1:Same H H1:=fun c u h=>k1 _ _ (je h ho) (s0 _ _ h)
 refine⟨o,dy,_,rfl,ob,j0H (by decide +kernel) (by decide +kernel) (by decide +kernel) (by decide +kernel) (by decide +kernel) (by decide +kernel),?_⟩;exists⟨o,z,ls,ps,gs,hs,E,t0,rfl,A,N,t1,t2,fun l H2 s2 hl e2 ll=>?_⟩;exact q l H2 (s1.trans s2) (none_of s1 hl) e2 ll
theorem Kh(T:Txt K mg t):FnOk P w K mg base CX0 1 t.Qb t.Qg ["_law_found"] (Pr.WN):=by
 refine T.yt.ok Kn (fun vs H Q E h=>?_) (fun cdv A outer s H vs Q E hr h=>?_)
 ·obtain⟨i,rfl,q⟩:=h;rfl
 obtain⟨i,rfl,q⟩:=h;refine⟨_,(jf (jv (j30 (jA Wa (by rfl) T.yA Z4 (ja (pv 0) (ja (Xy (v:=.ty "int") (by rfl) T.j3f j2J rfl) jc))) (j32 (j31 (jA Wa (by rfl) T.yA Z4 (ja (pv 0) (ja (Xy (v:=.ty "bool") (by rfl) T.j2G j1X rfl) jc)))))))),?_⟩;refine jz (σ':=[some _]) rfl ?_;exists⟨_,_,_,_,rfl,.int i,X5,?_⟩;exists iteT ?_;exists⟨_,_,_,_,rfl,.int i,xl,?_⟩;walk_at"g";exact q
theorem Kg(T:Txt K mg t)(JZ:FnOk P w K mg base CX0 8 t.qk t.qp ["book","word","beat"] (sp_ringC))(KP:FnOk P w K mg base CX0 8 t.yx t.yF ["book","beat"] (sp_ringsG))(Za:FnOk P w K mg base CX0 1 t.Qb t.Qg ["_law_found"] (Pr.WN)):FnOk P w K mg base CX0 9 t.Qa t.Qf ["_law_book_here","_law_word_here","_law_number","_law_found","_law_beats"] (sp_rightB):=by
 refine T.zY.ok Km (fun vs H Q E h=>?_) (fun cdv A outer s H vs Q E hr h=>?_)
 ·cases h;subst_vars;rfl
 obtain⟨b,pl,pp,las,pas,ls,ps,gs,hs,x,n,v,rfl,Bk,N,hx,fw,R,n0,n1,q⟩:=h;refine⟨_,(jb (jT (PW.pt (XE (yg (xL (jh (Za.mono (by decide)) hr (by rfl) T.K7 T.yt.kp T.KL .nil pass0 (ja (pv 3) jc)))) (XE (jk zx (pv 3) jd (nomark _)) (xM (jk j2C (pv 3) (pv 4) (nomark _))))))
   (jf (jv YT))
   jt)
  (jb (jT (PW.pt (XE (jk yR (pv 1) (jh (KP.mono (by decide)) hr (by rfl) T.j2f T.Xa.kp T.j1P .nil pass0 (ja (pv 0) (ja (pv 3) jc))) (by with_unfolding_all rfl)) (xM (jk zP (jh (JZ.mono (by decide)) hr (by rfl) T.Zh T.QY.kp T.zW .nil pass0 (ja (pv 0) (ja (pv 1) (ja (pv 3) jc)))) (pv 2) (nomark _)))))
   (jf (jv YT))
   jt)
  (jf (jv (Xz zx (pv 2) (jh (JZ.mono (by decide)) hr (by rfl) T.Zh T.QY.kp T.zW .nil pass0 (ja (pv 0) (ja (pv 1) (ja (jo jO (pv 3) jd) jc)))) (nomark _)))))),?_⟩
 refine jz (σ':=[some _,some _,some _,some _,some _]) rfl ?_;have ne:=N.ne;rcases R with⟨h,_⟩ | ⟨_,t,rfl,t1,t2,t3⟩
 ·exact absurd ⟨n0,n1⟩ h
 exists⟨_,rfl,?_⟩;exists iteF ?_;exists iteD (fun c=>?_) (fun c=>?_)
 ·exact absurd c (by omega)
 exists iteD (fun c=>?_) (fun c=>?_)
 ·exact absurd c (by omega)
 exists⟨b,pl,pp,las,pas,ls,ps,gs,hs,_,rfl,Bk,N,by omega,by omega,fun l H1 s1 _ el l5=>?_⟩;refine⟨l,_,rfl,.inl (SqL.of el),rfl,flatB _,?_⟩;rw[if_pos rfl,Y2,decide_eq_true (j2p (by omega))];exists iteF ?_;exists⟨b,pl,pp,las,pas,ls,ps,gs,hs,x,_,rfl,Bk.same s1,N,hx,fw,by omega,by omega,fun H2 s2=>?_⟩;rw[show(min (t:Int) (gs.getD (ps.length-1) 0)).toNat=t by omega];exists iteD (fun c=>?_) (fun c=>?_)
 ·exact absurd c (by omega)
 exists⟨b,pl,pp,las,pas,ls,ps,gs,hs,x,_,rfl,Bk.same (s1.trans s2),N,hx,fw,by omega,by omega,fun H3 s3=>?_⟩;rw[show(min ((t:Int)+1) (gs.getD (ps.length-1) 0)).toNat=t+1 by omega];walk_at"g";rw[decide_eq_true t3];exact q H3 (s1.trans (s2.trans s3))
theorem j2W(T:Txt K mg t)(JZ:FnOk P w K mg base CX0 8 t.qk t.qp ["book","word","beat"] (sp_ringC))(qb:FnOk P w K mg base CX0 8 t.QN t.qT ["book","word","number"] (sp_ringB))(jF:FnOk P w K mg base CX0 1 t.Jh t.Jj ["_law_script","_law_k"] (Pr.sp_cell_at K))(zZ:FnOk P w K mg base CX0 2 t.qY t.Qd ["_law_script","_law_j","_law_k"] (sp_greatB K))(Zy:FnOk P w K mg base CX0 6 t.QJ t.QO ["_law_script","_law_many","_law_bounds"] (sp_bookB K))(QZ:FnOk P w K mg base CX0 9 t.Qa t.Qf ["_law_book_here","_law_word_here","_law_number","_law_found","_law_beats"] (sp_rightB)):FnOk P w K mg base CX0 10 t.Xc t.Wd ["_law_script"] (Pr.sp_law K):=by
 refine T.j2z.ok zI (fun vs H Q E h=>?_) (fun cdv A outer s H vs Q E hr h=>?_)
 ·cases h;subst_vars;rfl
 obtain⟨a,ns,rfl,hS,h63,hB,q⟩:=h;obtain⟨ds_ring_beat_2,hD_ring_beat_2,hV_ring_beat_2⟩:=T.kZ;refine⟨_,(jb (jp (i:=1) zI.nd rfl (.inl rfl) (jA (XW rfl) (by rfl) T.j0u W4 (ja jd (ja (jA (Yj rfl) (by rfl) T.j0v W5 (ja (jo Qw (jA jW (by rfl) T.qe Ju (ja (pv 0) jc)) jd) (ja jd jc))) jc))))
  (jb (Yz (jh (Zy.mono (by decide)) hr (by rfl) T.Wt T.YG.kp T.wT .nil pass0 (ja (pv 0) (ja (pv 1) (ja (jG (ja jd (ja (jo Qv jd jd) (ja (jo jO (jo Qv jd jd) jd) (ja (jo Qv jd jd) (ja (jo Qv jd jd) jc)))))) jc)))) (qg rfl (jy (jr (i:=2) zI.nd rfl (.inl rfl)) (jy (jr (i:=3) zI.nd rfl (.inl rfl)) JD))))
  (jb (jp (i:=4) zI.nd rfl (.inl rfl) (jh (zZ.mono (by decide)) hr (by rfl) T.K6 T.yr.kp T.KK .nil pass0 (ja (pv 0) (ja jd (ja jd jc)))))
  (jb (jp (i:=5) zI.nd rfl (.inl rfl) (ji jq (jG (ja jD (ja jD (ja (ji jw (ji jq (ji jw (pv 2) jd) jd) jd) jc)))) (jo j5 (jh (jF.mono (by decide)) hr (by rfl) T.Jk T.j7.kp T.Jg .nil pass0 (ja (pv 0) (ja jd jc))) jd)))
  (jb (jp (i:=6) zI.nd rfl (.inl rfl) (jh (JZ.mono (by decide)) hr (by rfl) T.Zh T.QY.kp T.zW .nil pass0 (ja (pv 2) (ja (pv 5) (ja (jo jO (pv 3) jd) jc)))))
  (jb (Jp PassesOwn.never rfl (Je (jG (ja (pv 6) (ja (jo jO (pv 6) (jo j5 (pv 4) (jo Qv jd jd))) jc)))) (jr (i:=7) zI.nd rfl (.inl rfl))
   (jf (jT (jk wA (jh (qb.mono (by decide)) hr (by rfl) T.QS T.qI.kp T.Zu .nil pass0 (ja (pv 2) (ja (pv 5) (ja (pv 7) jc)))) Yy (nomark _))
    (jf (jv YT))
    jt)))
  (jb (jT (jk Jn (pv 6) jd (nomark _))
   (jf (jv (Xz j2Z (jh (qb.mono (by decide)) hr (by rfl) T.QS T.qI.kp hD_ring_beat_2 hV_ring_beat_2 pass0 (ja (pv 2) (ja (pv 5) jc))) Yy (nomark _))))
   jt)
  (jb (jp (i:=8) zI.nd rfl (.inl rfl) (jh (qb.mono (by decide)) hr (by rfl) T.QS T.qI.kp hD_ring_beat_2 hV_ring_beat_2 pass0 (ja (pv 2) (ja (pv 5) jc))))
  (jb (jT (jk j3j (jh (qb.mono (by decide)) hr (by rfl) T.QS T.qI.kp T.Zu .nil pass0 (ja (pv 2) (ja (pv 5) (ja jd jc)))) (pv 8) (nomark _))
   (jf (jv YT))
   jt)
  (jb (jT (yg (xL (jh (QZ.mono (by decide)) hr (by rfl) T.yK T.zY.kp T.yp .nil pass0 (ja (pv 2) (ja (pv 5) (ja jd (ja (pv 8) (ja (pv 3) jc))))))))
   (jf (jv YT))
   jt)
  (jb (Jp PassesOwn.never rfl (Je (jG (ja (jo Qw (pv 6) jd) (ja (jo j5 (pv 4) (pv 6)) jc)))) (jr (i:=7) zI.nd rfl (.inl rfl))
   (jf (jT (yg (xL (jh (QZ.mono (by decide)) hr (by rfl) T.yK T.zY.kp T.yp .nil pass0 (ja (pv 2) (ja (pv 5) (ja (pv 7) (ja (jh (qb.mono (by decide)) hr (by rfl) T.QS T.qI.kp T.Zu .nil pass0 (ja (pv 2) (ja (pv 5) (ja (pv 7) jc)))) (ja (pv 3) jc))))))))
    (jf (jv YT))
    jt)))
  (jf (jv YT))))))))))))),?_⟩
 refine jz (σ':=[some _,none,none,none,none,none,none,none,none]) rfl ?_;have sz:(200:Nat)<sizeLine:=by decide
 exists⟨_,_,rfl,.inl ⟨_,hS,rfl⟩,?_⟩;rw[length_map];exists⟨_,_,rfl,?_⟩;exists⟨_,_,rfl,?_⟩;obtain⟨many,em,mn2,mn16⟩:∃many:Nat,(if(2:Int)<(if(16:Int)<(ns.length:Int)-1 then 16 else(ns.length:Int)-1)then(if(16:Int)<(ns.length:Int)-1 then 16 else(ns.length:Int)-1)else 2)=(many:Int)/\2<=many/\many<=16:=by
  refine⟨(if(2:Int)<(if(16:Int)<(ns.length:Int)-1 then 16 else(ns.length:Int)-1)then(if(16:Int)<(ns.length:Int)-1 then 16 else(ns.length:Int)-1)else 2).toNat,?_,?_,?_⟩<;>(split<;>split<;>omega)
 rw[em];exists⟨(by show 5<=sizeLine;omega),?_⟩;walk_at"f bd hbd H1 s1 t1";exists⟨a,bd,ns,many,30,10^18,10^18+1,10^18,10^60,rfl,s1.seq hS,h63,mn2,mn16,⟨t1,by decide,by decide,by decide,by decide,by decide,by decide,by decide,by decide,by decide,by decide⟩,fun r b pl pp las pas names ls fs M gs H2 s2 hr2 Bk D N fl nL nd nW l1 l8 lnd lW nlp gb=>?_⟩;have fw:=j0E D lW nW (by omega);have pl':(drawnPs names fs).length=fs.length:=Q9;have hp0:(drawnPs names fs)[0]?=some (names.getD 0 ⟨#[]⟩,toldF names (fs.getD 0 (.hold 0))):=Wh (by rw[getD_eq_getElem?_getD,List.getElem?_eq_getElem (by omega)];rfl);have w0:Ws.isW (names.getD 0 ⟨#[]⟩)=true:=nW _ (getD_in (by omega));rw[<-pl']at hr2;have ne:=N.ne;have g1:=(N.g (show(drawnPs names fs).length-1<(drawnPs names fs).length by omega)).1;generalize drawnPs names fs=ps at Bk N fw hp0 hr2 ne g1 pl';clear D gb nd nW lnd lW nL fl em;refine Qz (SqT.of hr2) ?_;walk_at"g";have s02:=s1.trans s2;refine⟨a,ns,1,50,rfl,s02.seq hS,h63,by omega,by omega,by omega,by omega,?_⟩;have u1:=QT (Pr.cell ns 1) 50;have u2:=QT (Pr.cell ns (1+1)) (50+20);have num0:0<=mixB (Pr.cell ns 1) 50*mixB (Pr.cell ns (1+1)) (50+20):=Int.mul_nonneg u1.1 u2.1;generalize mixB (Pr.cell ns 1) 50*mixB (Pr.cell ns (1+1)) (50+20)=num at num0|-;exists ixTm (SqT.of Bk.t) rfl ?_;walk_at"g";obtain⟨c,hc,fb,hat,hf⟩:=Bk.pa.get hp0;refine ixLm (SqL.of Bk.p) (jY (j:=0) (by rw[List.getElem?_map,hc];rfl)) ?_;exists ixTm (SqT.of hat) rfl ?_;exists⟨(by show 3<=sizeLine;omega),?_⟩;walk_at"f wl hwl H3 s3 t3";exists⟨a,ns,_,rfl,(s02.trans s3).seq hS,h63,by omega,?_⟩;walk_at"g";have i0:=Int.emod_nonneg (Pr.cell ns 2) (show(3:Int)≠0 by decide);have i1:=Int.emod_lt_of_pos (Pr.cell ns 2) (show(0:Int)<3 by decide);obtain⟨x,ex,hx⟩:=ke (xs:=[V.str "ding",V.str "dong",V.str (names.getD 0 ⟨#[]⟩)]) (k:=Pr.cell ns 2%3) (fun v hv=>by
  rcases mem_cons.mp hv with rfl | hv
  ·exact⟨_,rfl,by decide +kernel⟩
  ·rcases mem_cons.mp hv with rfl | hv
   ·exact⟨_,rfl,by decide +kernel⟩
   ·rw[mem_singleton.mp hv];exact⟨_,rfl,w0⟩) i0 i1
 refine ixLm (SqL.of t3) (ex) ?_;walk_at"g";have Bk3:=Bk.same s3;refine⟨b,pl,pp,las,pas,ls,ps,gs,M,x,_,rfl,Bk3,N,hx,fw,by omega,by omega,fun H4 s4=>?_⟩;rw[show(min (gs.getD (ps.length-1) 0+1) (gs.getD (ps.length-1) 0)).toNat=(gs.getD (ps.length-1) 0).toNat by omega];have tot0:=j2q (x:=x) (ps:=ps) (gs:=gs) (gs.getD (ps.length-1) 0).toNat;generalize eT:rungN x ps gs (gs.getD (ps.length-1) 0).toNat=tot at tot0|-;have Bk4:=Bk3.same s4;have non:∀{n:Int} {v:V},tot<=n->RbR x ps gs n v->v = .non:=fun h R=>by
  rcases R with⟨_,e⟩ | ⟨h',_⟩
  ·exact e
  ·rw[eT]at h';omega
 exists⟨(by show 2<=sizeLine;omega),?_⟩;walk_at"f l5 hl5 H5 s5 t5";have Bk5:=Bk4.same s5;have nm0:=Int.emod_nonneg num (show(10^30:Int)≠0 by decide);refine⟨l5,rfl,⟨_,SqL.of t5⟩,?_⟩;refine JU (xs:=[V.int tot,V.int (tot+num%10^30)]) (fun t σ H'=>∃o7:Option V,σ=[some (.ref a),some (.int (many:Nat)),some (.ref b),some (.int (gs.getD (ps.length-1) 0)),some (.int num),some (.str x),some (.int tot),o7,none]/\Same H5 H') ⟨_,rfl,Same.refl _⟩ ?_ ?_ ?_
 ·rintro t σ H' _ ⟨o7,rfl,sm⟩;exact SqL.of (sm _ _ t5)
 ·rintro t v σ H' hv ⟨o7,rfl,sm⟩;obtain⟨n,rfl,hn⟩:∃n:Int,v = .int n/\tot<=n:=by
   match t,hv with
   | 0,hv=>exact⟨tot,(Option.some.inj hv).symm,Int.le_refl _⟩
   | 1,hv=>exact⟨_,(Option.some.inj hv).symm,by omega⟩
  exists⟨b,pl,pp,las,pas,ls,ps,gs,M,x,n,rfl,Bk5.same sm,N,hx,fw,fun v H6 s6 R=>?_⟩;obtain rfl:=non hn R;exists⟨rfl,?_⟩;refine⟨_,rfl,?_⟩;refine iteF ?_;walk_at"g";exact⟨_,rfl,sm.trans s6⟩
 rintro σ H6 ⟨o7,rfl,sm⟩;have Bk6:=Bk5.same sm;exists iteD (fun c=>?_) (fun c=>?_)
 ·exists⟨b,pl,pp,las,pas,ls,ps,gs,M,x,0,rfl,Bk6,N,hx,fw,fun v H7 s7 R=>?_⟩;obtain rfl:=non (by omega) R;exists⟨rfl,?_⟩;exact q _
 have isn:∀{n:Int} {v:V},0<=n->n<tot->RbR x ps gs n v->∃k:Int,v = .int k:=fun h0 h1 R=>by
  rcases R with⟨h',_⟩ | ⟨_,k,e,_⟩
  ·rw[eT]at h';exact absurd ⟨h0,h1⟩ h'
  ·exact⟨_,e⟩
 exists⟨b,pl,pp,las,pas,ls,ps,gs,M,x,0,rfl,Bk6,N,hx,fw,fun v H7 s7 R=>?_⟩;obtain⟨k,rfl⟩:=isn (Int.le_refl _) (by omega) R;exists⟨b,pl,pp,las,pas,ls,ps,gs,M,x,0,rfl,Bk6.same s7,N,hx,fw,fun v' H8 s8 R'=>?_⟩;obtain rfl:=R.uniq R';have Bk8:=Bk6.same (s7.trans s8);exists iteN (fun c=>?_) (fun _=>?_)
 ·exact absurd rfl c
 exists⟨b,pl,pp,las,pas,ls,ps,gs,M,x,0,_,rfl,Bk8,N,hx,fw,R,Int.le_refl _,by omega,fun H9 s9=>?_⟩;exists iteF ?_;walk_at"g";have v0:=Int.emod_nonneg num (show tot≠0 from c);have v1:=Int.emod_lt_of_pos num (show 0<tot by omega);refine⟨(by show 2<=sizeLine;omega),?_⟩;walk_at"f la hla H10 s10 t10";have Bk10:=Bk8.same (s9.trans s10);refine⟨la,rfl,⟨_,SqL.of t10⟩,?_⟩;refine JU (xs:=[V.int (tot-1),V.int (num%tot)]) (fun t σ H'=>∃o7:Option V,σ=[some (.ref a),some (.int (many:Nat)),some (.ref b),some (.int (gs.getD (ps.length-1) 0)),some (.int num),some (.str x),some (.int tot),o7,some (.int k)]/\Same H10 H') ⟨_,rfl,Same.refl _⟩ ?_ ?_ ?_
 ·rintro t σ H' _ ⟨o7,rfl,sm⟩;exact SqL.of (sm _ _ t10)
 ·rintro t v σ H' hv ⟨o7,rfl,sm⟩;obtain⟨n,rfl,hn0,hn1⟩:∃n:Int,v = .int n/\0<=n/\n<tot:=by
   match t,hv with
   | 0,hv=>exact⟨_,(Option.some.inj hv).symm,by omega,by omega⟩
   | 1,hv=>exact⟨_,(Option.some.inj hv).symm,v0,v1⟩
  exists⟨b,pl,pp,las,pas,ls,ps,gs,M,x,n,rfl,Bk10.same sm,N,hx,fw,fun v H11 s11 R11=>?_⟩;exists⟨b,pl,pp,las,pas,ls,ps,gs,M,x,n,v,rfl,Bk10.same (sm.trans s11),N,hx,fw,R11,hn0,by omega,fun H12 s12=>?_⟩;exists iteF ?_;walk_at"g";exact⟨_,rfl,sm.trans (s11.trans s12)⟩
 rintro σ H11 ⟨o7,rfl,sm⟩;walk_at"g";exact q _
theorem j1U(T:Txt K mg t):FnOk P w K mg base CX0 10 t.Xc t.Wd ["_law_script"] (Pr.sp_law K):=by
 have Jr:FnOk P w K mg base CX0 1 t.J0 t.J1 _ _:=Kj T;have Z8:FnOk P w K mg base CX0 1 t.ze t.zh _ _:=WD T;have Q0:FnOk P w K mg base CX0 2 t.Zc t.Ze _ _:=j1c T Jr Z8;have Yh:FnOk P w K mg base CX0 3 t.Yi t.Yn _ _:=j2l T Jr Q0;have KO:FnOk P w K mg base CX0 4 t.yw t.yE _ _:=j1d T Yh;have Zb:FnOk P w K mg base CX0 1 t.Qc t.Qh _ _:=Ki T;have ZA:FnOk P w K mg base CX0 1 t.QL t.QQ _ _:=wp T;have Q6:FnOk P w K mg base CX0 5 t.Q7 t.Q8 _ _:=xC T Q0 KO Zb ZA;have ZB:FnOk P w K mg base CX0 1 t.QM t.QR _ _:=wt T;have qK:FnOk P w K mg base CX0 3 t.qO t.qS _ _:=wv T Q0 ZB;have j2:FnOk P w K mg base CX0 6 t.jV t.j3 _ _:=Zt T Q6 qK;have Qs:FnOk P w K mg base CX0 1 t.Qt t.Qu _ _:=WE T;have j9:FnOk P w K mg base CX0 2 t.Jl t.Jm _ _:=yd T Qs;have Z7:FnOk P w K mg base CX0 3 t.zd t.zg _ _:=WC T j9;have JZ:FnOk P w K mg base CX0 8 t.qk t.qp _ _:=Kk T j2 Z7;have Yg:FnOk P w K mg base CX0 3 t.zL t.zM _ _:=xB T j9;have qb:FnOk P w K mg base CX0 8 t.QN t.qT _ _:=wy T j2 Yg;have jF:FnOk P w K mg base CX0 1 t.Jh t.Jj _ _:=YW T;have jM:FnOk P w K mg base CX0 1 t.JA t.JB _ _:=Kd T;have zZ:FnOk P w K mg base CX0 2 t.qY t.Qd _ _:=Kc T jF jM;have JY:FnOk P w K mg base CX0 1 t.qN t.qR _ _:=wo T;have qX:FnOk P w K mg base CX0 1 t.qZ t.Qe _ _:=Kf T;have Zz:FnOk P w K mg base CX0 2 t.QK t.QP _ _:=wg T qX;have JX:FnOk P w K mg base CX0 1 t.qM t.qQ _ _:=wk T;have qi:FnOk P w K mg base CX0 1 t.qj t.qo _ _:=Ke T;have qJ:FnOk P w K mg base CX0 1 t.qL t.qP _ _:=wj T;have jB:FnOk P w K mg base CX0 2 t.qc t.qf _ _:=wm T jM;have zB:FnOk P w K mg base CX0 3 t.qx t.qz _ _:=kG T jB;have Qr:FnOk P w K mg base CX0 4 t.JO t.JT _ _:=yQ T jB zB;have Qq:FnOk P w K mg base CX0 5 t.JN t.JS _ _:=yP T jF jM JY JX qi qJ jB Qr;have Zy:FnOk P w K mg base CX0 6 t.QJ t.QO _ _:=we T jF jM JY Zz JX qi qJ Qq;have Qo:FnOk P w K mg base CX0 6 t.Jt t.JQ _ _:=yN T Jr Yh Q6 qK;have kc:FnOk P w K mg base CX0 2 t.ZC t.ZE _ _:=j0b T Qs;have zA:FnOk P w K mg base CX0 3 t.qw t.qy _ _:=kF T kc;have Qp:FnOk P w K mg base CX0 4 t.JM t.JR _ _:=yO T zA;have KP:FnOk P w K mg base CX0 8 t.yx t.yF _ _:=j1e T Qo Qp;have Za:FnOk P w K mg base CX0 1 t.Qb t.Qg _ _:=Kh T;have QZ:FnOk P w K mg base CX0 9 t.Qa t.Qf _ _:=Kg T JZ KP Za;exact j2W T JZ qb jF zZ Zy QZ
end
@[elab_as_elim] theorem uu1{P:List Value->Prop}(us:List Value)(hl:us.length=1)(h:∀a0,P [a0]):P us:=match us,hl with | [a0],_=>h a0
theorem bb1{K:Frg}{x q:Str}{st:Stmt}{f:Addr}{fd:FuncData}{x0:Str}(F:Fun K x q st f fd)(h:∀(kV doc pm:Value) (an:Option Addr) (cdv ct:Value) (a0:Value),bindArgs (W.fnOf x q (defArgs st) (defBody st) (defScope st) .none kV doc pm an cdv ct) ⟨[a0],[]⟩=pure ([x0].zip [a0])):Binds K fd [x0] []:=F.binds fun a b c d e g us hl=>uu1 us hl (h a b c d e g)
@[elab_as_elim] theorem uu2{P:List Value->Prop}(us:List Value)(hl:us.length=2)(h:∀a0 a1,P [a0,a1]):P us:=match us,hl with | [a0,a1],_=>h a0 a1
theorem bb2{K:Frg}{x q:Str}{st:Stmt}{f:Addr}{fd:FuncData}{x0 x1:Str}(F:Fun K x q st f fd)(h:∀(kV doc pm:Value) (an:Option Addr) (cdv ct:Value) (a0 a1:Value),bindArgs (W.fnOf x q (defArgs st) (defBody st) (defScope st) .none kV doc pm an cdv ct) ⟨[a0,a1],[]⟩=pure ([x0,x1].zip [a0,a1])):Binds K fd [x0,x1] []:=F.binds fun a b c d e g us hl=>uu2 us hl (h a b c d e g)
@[elab_as_elim] theorem uu3{P:List Value->Prop}(us:List Value)(hl:us.length=3)(h:∀a0 a1 a2,P [a0,a1,a2]):P us:=match us,hl with | [a0,a1,a2],_=>h a0 a1 a2
theorem bb3{K:Frg}{x q:Str}{st:Stmt}{f:Addr}{fd:FuncData}{x0 x1 x2:Str}(F:Fun K x q st f fd)(h:∀(kV doc pm:Value) (an:Option Addr) (cdv ct:Value) (a0 a1 a2:Value),bindArgs (W.fnOf x q (defArgs st) (defBody st) (defScope st) .none kV doc pm an cdv ct) ⟨[a0,a1,a2],[]⟩=pure ([x0,x1,x2].zip [a0,a1,a2])):Binds K fd [x0,x1,x2] []:=F.binds fun a b c d e g us hl=>uu3 us hl (h a b c d e g)
@[elab_as_elim] theorem uu4{P:List Value->Prop}(us:List Value)(hl:us.length=4)(h:∀a0 a1 a2 a3,P [a0,a1,a2,a3]):P us:=match us,hl with | [a0,a1,a2,a3],_=>h a0 a1 a2 a3
theorem bb4{K:Frg}{x q:Str}{st:Stmt}{f:Addr}{fd:FuncData}{x0 x1 x2 x3:Str}(F:Fun K x q st f fd)(h:∀(kV doc pm:Value) (an:Option Addr) (cdv ct:Value) (a0 a1 a2 a3:Value),bindArgs (W.fnOf x q (defArgs st) (defBody st) (defScope st) .none kV doc pm an cdv ct) ⟨[a0,a1,a2,a3],[]⟩=pure ([x0,x1,x2,x3].zip [a0,a1,a2,a3])):Binds K fd [x0,x1,x2,x3] []:=F.binds fun a b c d e g us hl=>uu4 us hl (h a b c d e g)
@[elab_as_elim] theorem uu5{P:List Value->Prop}(us:List Value)(hl:us.length=5)(h:∀a0 a1 a2 a3 a4,P [a0,a1,a2,a3,a4]):P us:=match us,hl with | [a0,a1,a2,a3,a4],_=>h a0 a1 a2 a3 a4
theorem bb5{K:Frg}{x q:Str}{st:Stmt}{f:Addr}{fd:FuncData}{x0 x1 x2 x3 x4:Str}(F:Fun K x q st f fd)(h:∀(kV doc pm:Value) (an:Option Addr) (cdv ct:Value) (a0 a1 a2 a3 a4:Value),bindArgs (W.fnOf x q (defArgs st) (defBody st) (defScope st) .none kV doc pm an cdv ct) ⟨[a0,a1,a2,a3,a4],[]⟩=pure ([x0,x1,x2,x3,x4].zip [a0,a1,a2,a3,a4])):Binds K fd [x0,x1,x2,x3,x4] []:=F.binds fun a b c d e g us hl=>uu5 us hl (h a b c d e g)
theorem j3e{K:Frg}{h:Heap}{mg:Str->Option Value}(X:K.In h)(G:h.Ns mainGlobals mg)
  {C_Stage:Addr}
  (aC_Stage:W.nsIn K mainGlobals "Stage"= some (some (.ref C_Stage))) (pg_Stage:W.plainGet K C_Stage Str.empty=true) (hd_Stage:W.hasDictIn K C_Stage=true) (po_Stage:W.plainOver K C_Stage=true) (sa_Stage:W.findIn K (.ref C_Stage) "__setattr__"= some (some (.builtin "object.__setattr__"))) (mk_Stage:W.makesIn K C_Stage=true) (kc_Stage:W.keepIn K (.ref C_Stage)=true) (qA:W.findIn K (.ref C_Stage) "limbs"= some none) (J3:W.findIn K (.ref C_Stage) "first"= some none) (qa:W.findIn K (.ref C_Stage) "forms"= some none) (j6:W.findIn K (.ref C_Stage) "sizes"= some none) (qr:W.findIn K (.ref C_Stage) "left"= some none) (JV:W.findIn K (.ref C_Stage) "pieces"= some none)
  {C_RingTally:Addr}
  (aC_RingTally:W.nsIn K mainGlobals "RingTally"= some (some (.ref C_RingTally))) (pg_RingTally:W.plainGet K C_RingTally Str.empty=true) (hd_RingTally:W.hasDictIn K C_RingTally=true) (po_RingTally:W.plainOver K C_RingTally=true) (sa_RingTally:W.findIn K (.ref C_RingTally) "__setattr__"= some (some (.builtin "object.__setattr__"))) (mk_RingTally:W.makesIn K C_RingTally=true) (kc_RingTally:W.keepIn K (.ref C_RingTally)=true) (jS:W.findIn K (.ref C_RingTally) "sizes"= some none) (j4:W.findIn K (.ref C_RingTally) "last"= some none) (jX:W.findIn K (.ref C_RingTally) "pieces"= some none) (jQ:W.findIn K (.ref C_RingTally) "wholes"= some none)
  {f1:Addr} {d1:FuncData}
  (a1:W.nsIn K mainGlobals "_wall"= some (some (.ref f1))) (F1:Fun K "_wall" "_wall" wH f1 d1)
  {f2:Addr} {d2:FuncData}
  (a2:W.nsIn K mainGlobals "numbers_of"= some (some (.ref f2))) (F2:Fun K "numbers_of" "numbers_of" Zr f2 d2)
  {f3:Addr} {d3:FuncData}
  (a3:W.nsIn K mainGlobals "names_in"= some (some (.ref f3))) (F3:Fun K "names_in" "names_in" yk f3 d3)
  {f4:Addr} {d4:FuncData}
  (a4:W.nsIn K mainGlobals "inner"= some (some (.ref f4))) (F4:Fun K "inner" "inner" Y7 f4 d4)
  {f5:Addr} {d5:FuncData}
  (a5:W.nsIn K mainGlobals "ends"= some (some (.ref f5))) (F5:Fun K "ends" "ends" xN f5 d5)
  {f6:Addr} {d6:FuncData}
  (a6:W.nsIn K mainGlobals "moved"= some (some (.ref f6))) (F6:Fun K "moved" "moved" Y8 f6 d6)
  {f7:Addr} {d7:FuncData}
  (a7:W.nsIn K mainGlobals "check_side"= some (some (.ref f7))) (F7:Fun K "check_side" "check_side" Q5 f7 d7)
  {f8:Addr} {d8:FuncData}
  (a8:W.nsIn K mainGlobals "length_of"= some (some (.ref f8))) (F8:Fun K "length_of" "length_of" ZM f8 d8)
  {f9:Addr} {d9:FuncData}
  (a9:W.nsIn K mainGlobals "lengths"= some (some (.ref f9))) (F9:Fun K "lengths" "lengths" zR f9 d9)
  {f10:Addr} {d10:FuncData}
  (a10:W.nsIn K mainGlobals "pieces_in"= some (some (.ref f10))) (F10:Fun K "pieces_in" "pieces_in" ZN f10 d10)
  {f11:Addr} {d11:FuncData}
  (a11:W.nsIn K mainGlobals "pieces_of"= some (some (.ref f11))) (F11:Fun K "pieces_of" "pieces_of" zy f11 d11)
  {f12:Addr} {d12:FuncData}
  (a12:W.nsIn K mainGlobals "progress"= some (some (.ref f12))) (F12:Fun K "progress" "progress" yl f12 d12)
  {f13:Addr} {d13:FuncData}
  (a13:W.findIn K (.ref C_RingTally) "__init__"= some (some (.ref f13))) (i13:W.isFn K (.ref f13)=true) (F13:Fun K "__init__" "RingTally.__init__" JE f13 d13)
  {f14:Addr} {d14:FuncData}
  (a14:W.findIn K (.ref C_RingTally) "ahead"= some (some (.ref f14))) (i14:W.isFn K (.ref f14)=true) (F14:Fun K "ahead" "RingTally.ahead" Qm f14 d14)
  {f15:Addr} {d15:FuncData}
  (a15:W.nsIn K mainGlobals "ahead_of"= some (some (.ref f15))) (F15:Fun K "ahead_of" "ahead_of" yj f15 d15)
  {f16:Addr} {d16:FuncData}
  (a16:W.nsIn K mainGlobals "ring_count"= some (some (.ref f16))) (F16:Fun K "ring_count" "ring_count" Zs f16 d16)
  {f17:Addr} {d17:FuncData}
  (a17:W.nsIn K mainGlobals "beat_of"= some (some (.ref f17))) (F17:Fun K "beat_of" "beat_of" YB f17 d17)
  {od18 an18:Option Addr} {sl18:Array (Option Value)} {oc18 kV18 dc18 pm18 cd18 ct18:Value} {f18:Addr} {T18:Addr} {ot18:Value} {otd18:Option Addr} {ost18:Array (Option Value)} {n18:Nat} {tk0_18:Tok}
  (a18:W.nsIn K mainGlobals "ring_beat"= some (some (.ref f18))) (l18:K.lookup f18=some ⟨oc18,od18,.func (W.fnOf "ring_beat" "ring_beat" (defArgs qV) (defBody qV) (defScope qV) (.ref T18) kV18 dc18 pm18 an18 cd18 ct18),sl18⟩) (c18:W.codeIn K cd18 "ring_beat"= true) (k18:W.keepIn K (.ref f18)=true) (t18:K.lookup T18=some ⟨ot18,otd18,.seq #[.int 0 tk0_18] n18,ost18⟩)
  {f19:Addr} {d19:FuncData}
  (a19:W.nsIn K mainGlobals "within"= some (some (.ref f19))) (F19:Fun K "within" "within" kO f19 d19)
  {f20:Addr} {d20:FuncData}
  (a20:W.findIn K (.ref C_Stage) "__init__"= some (some (.ref f20))) (i20:W.isFn K (.ref f20)=true) (F20:Fun K "__init__" "Stage.__init__" JW f20 d20)
  {f21:Addr} {d21:FuncData}
  (a21:W.findIn K (.ref C_Stage) "scene"= some (some (.ref f21))) (i21:W.isFn K (.ref f21)=true) (F21:Fun K "scene" "Stage.scene" zG f21 d21)
  {f22:Addr} {d22:FuncData}
  (a22:W.findIn K (.ref C_Stage) "heights_at"= some (some (.ref f22))) (i22:W.isFn K (.ref f22)=true) (F22:Fun K "heights_at" "Stage.heights_at" qG f22 d22)
  {f23:Addr} {d23:FuncData}
  (a23:W.findIn K (.ref C_Stage) "words_at"= some (some (.ref f23))) (i23:W.isFn K (.ref f23)=true) (F23:Fun K "words_at" "Stage.words_at" QA f23 d23)
  {f24:Addr} {d24:FuncData}
  (a24:W.nsIn K mainGlobals "rings"= some (some (.ref f24))) (F24:Fun K "rings" "rings" wI f24 d24)
  {f25:Addr} {d25:FuncData}
  (a25:W.nsIn K mainGlobals "_law_cell_at"= some (some (.ref f25))) (F25:Fun K "_law_cell_at" "_law_cell_at" zn f25 d25)
  {f26:Addr} {d26:FuncData}
  (a26:W.nsIn K mainGlobals "_law_mixed"= some (some (.ref f26))) (F26:Fun K "_law_mixed" "_law_mixed" Zn f26 d26)
  {f27:Addr} {d27:FuncData}
  (a27:W.nsIn K mainGlobals "_law_whole"= some (some (.ref f27))) (F27:Fun K "_law_whole" "_law_whole" Zq f27 d27)
  {f28:Addr} {d28:FuncData}
  (a28:W.nsIn K mainGlobals "_law_great"= some (some (.ref f28))) (F28:Fun K "_law_great" "_law_great" Zm f28 d28)
  {f29:Addr} {d29:FuncData}
  (a29:W.nsIn K mainGlobals "_law_word"= some (some (.ref f29))) (F29:Fun K "_law_word" "_law_word" ZL f29 d29)
  {f30:Addr} {d30:FuncData}
  (a30:W.nsIn K mainGlobals "_law_named"= some (some (.ref f30))) (F30:Fun K "_law_named" "_law_named" Q4 f30 d30)
  {f31:Addr} {d31:FuncData}
  (a31:W.nsIn K mainGlobals "_law_form"= some (some (.ref f31))) (F31:Fun K "_law_form" "_law_form" ZI f31 d31)
  {f32:Addr} {d32:FuncData}
  (a32:W.nsIn K mainGlobals "_law_long"= some (some (.ref f32))) (F32:Fun K "_law_long" "_law_long" QU f32 d32)
  {f33:Addr} {d33:FuncData}
  (a33:W.nsIn K mainGlobals "_law_moves"= some (some (.ref f33))) (F33:Fun K "_law_moves" "_law_moves" Zo f33 d33)
  {f34:Addr} {d34:FuncData}
  (a34:W.nsIn K mainGlobals "_law_last"= some (some (.ref f34))) (F34:Fun K "_law_last" "_law_last" ZJ f34 d34)
  {f35:Addr} {d35:FuncData}
  (a35:W.nsIn K mainGlobals "_law_take"= some (some (.ref f35))) (F35:Fun K "_law_take" "_law_take" ZK f35 d35)
  {f36:Addr} {d36:FuncData}
  (a36:W.nsIn K mainGlobals "_law_naming"= some (some (.ref f36))) (F36:Fun K "_law_naming" "_law_naming" qB f36 d36)
  {f37:Addr} {d37:FuncData}
  (a37:W.nsIn K mainGlobals "_law_form_told"= some (some (.ref f37))) (F37:Fun K "_law_form_told" "_law_form_told" QC f37 d37)
  {f38:Addr} {d38:FuncData}
  (a38:W.nsIn K mainGlobals "_law_book_told"= some (some (.ref f38))) (F38:Fun K "_law_book_told" "_law_book_told" QB f38 d38)
  {f39:Addr} {d39:FuncData}
  (a39:W.nsIn K mainGlobals "_law_book"= some (some (.ref f39))) (F39:Fun K "_law_book" "_law_book" ZH f39 d39)
  {f40:Addr} {d40:FuncData}
  (a40:W.nsIn K mainGlobals "_law_right"= some (some (.ref f40))) (F40:Fun K "_law_right" "_law_right" Zp f40 d40)
  {f41:Addr} {d41:FuncData}
  (a41:W.nsIn K mainGlobals "law"= some (some (.ref f41))) (F41:Fun K "law" "law" j1v f41 d41)
  {qu:Addr}
  (g_MOST_NAMES:W.nsIn K mainGlobals "MOST_NAMES"= some (some (.ref qu))) (kk_MOST_NAMES:TabK K qu [("row",.flat (.int 8)),("side",.flat (.int 4))])
  (z0:W.nsIn K mainGlobals "abs"= some none) (z1:W.nsIn K mainGlobals "bool"= some none) (z2:W.nsIn K mainGlobals "dict"= some none) (z3:W.nsIn K mainGlobals "enumerate"= some none) (z4:W.nsIn K mainGlobals "int"= some none) (z5:W.nsIn K mainGlobals "isinstance"= some none) (z6:W.nsIn K mainGlobals "len"= some none) (z7:W.nsIn K mainGlobals "list"= some none) (z8:W.nsIn K mainGlobals "max"= some none) (z9:W.nsIn K mainGlobals "min"= some none) (z10:W.nsIn K mainGlobals "range"= some none) (z11:W.nsIn K mainGlobals "reversed"= some none) (z12:W.nsIn K mainGlobals "sorted"= some none) (z13:W.nsIn K mainGlobals "sum"= some none) (z14:W.nsIn K mainGlobals "tuple"= some none) (z15:W.nsIn K mainGlobals "zip"= some none) :
  ∃t:Ad,Txt K mg t:=by
 have F18:=j24 (st:=qV) l18 c18 k18;exact⟨⟨f1,_,f2,_,f3,_,f4,_,f5,_,f6,_,f7,_,f8,_,f9,_,f10,_,f11,_,f12,_,f13,_,f14,_,f15,_,f16,_,f17,_,f18,_,T18,f19,_,f20,_,f21,_,f22,_,f23,_,f24,_,f25,_,f26,_,f27,_,f28,_,f29,_,f30,_,f31,_,f32,_,f33,_,f34,_,f35,_,f36,_,f37,_,f38,_,f39,_,f40,_,f41,_,C_RingTally,C_Stage,_⟩,⟨F1,W.mg_of X G a1,bb1 F1 fun _ _ _ _ _ _ _=>rfl,
  F2,W.mg_of X G a2,bb1 F2 fun _ _ _ _ _ _ _=>rfl,
  F3,W.mg_of X G a3,bb1 F3 fun _ _ _ _ _ _ _=>rfl,
  F4,W.mg_of X G a4,bb1 F4 fun _ _ _ _ _ _ _=>rfl,
  F5,W.mg_of X G a5,bb1 F5 fun _ _ _ _ _ _ _=>rfl,
  F6,W.mg_of X G a6,bb1 F6 fun _ _ _ _ _ _ _=>rfl,
  F7,W.mg_of X G a7,bb3 F7 fun _ _ _ _ _ _ _ _ _=>rfl,
  F8,W.mg_of X G a8,bb2 F8 fun _ _ _ _ _ _ _ _=>rfl,
  F9,W.mg_of X G a9,bb1 F9 fun _ _ _ _ _ _ _=>rfl,
  F10,W.mg_of X G a10,bb3 F10 fun _ _ _ _ _ _ _ _ _=>rfl,
  F11,W.mg_of X G a11,bb2 F11 fun _ _ _ _ _ _ _ _=>rfl,
  F12,W.mg_of X G a12,bb3 F12 fun _ _ _ _ _ _ _ _ _=>rfl,
  F13,⟨a13,i13,F13.kp⟩,bb3 F13 fun _ _ _ _ _ _ _ _ _=>rfl,
  F14,⟨a14,i14,F14.kp⟩,bb2 F14 fun _ _ _ _ _ _ _ _=>rfl,
  F15,W.mg_of X G a15,bb2 F15 fun _ _ _ _ _ _ _ _=>rfl,
  F16,W.mg_of X G a16,bb3 F16 fun _ _ _ _ _ _ _ _ _=>rfl,
  F17,W.mg_of X G a17,bb2 F17 fun _ _ _ _ _ _ _ _=>rfl,
  F18,W.mg_of X G a18,(FunD.binds (ps:=["book","word","number"]) (ds:=[]) 3 F18 t18 rfl rfl fun _ _ _ _ _ _ us hl=>match us,hl with | [_,_,_],_=>⟨_,rfl,rfl⟩),
  ⟨[.int 0 tk0_18],(FunD.binds (ps:=["book","word","number"]) 2 F18 t18 rfl rfl fun _ _ _ _ _ _ us hl=>match us,hl with | [_,_],_=>⟨_,rfl,rfl⟩),(.cons ⟨_,rfl⟩ .nil)⟩,
  F19,W.mg_of X G a19,bb3 F19 fun _ _ _ _ _ _ _ _ _=>rfl,
  F20,⟨a20,i20,F20.kp⟩,bb2 F20 fun _ _ _ _ _ _ _ _=>rfl,
  F21,⟨a21,i21,F21.kp⟩,bb2 F21 fun _ _ _ _ _ _ _ _=>rfl,
  F22,⟨a22,i22,F22.kp⟩,bb2 F22 fun _ _ _ _ _ _ _ _=>rfl,
  F23,⟨a23,i23,F23.kp⟩,bb2 F23 fun _ _ _ _ _ _ _ _=>rfl,
  F24,W.mg_of X G a24,bb2 F24 fun _ _ _ _ _ _ _ _=>rfl,
  F25,W.mg_of X G a25,bb2 F25 fun _ _ _ _ _ _ _ _=>rfl,
  F26,W.mg_of X G a26,bb2 F26 fun _ _ _ _ _ _ _ _=>rfl,
  F27,W.mg_of X G a27,bb1 F27 fun _ _ _ _ _ _ _=>rfl,
  F28,W.mg_of X G a28,bb3 F28 fun _ _ _ _ _ _ _ _ _=>rfl,
  F29,W.mg_of X G a29,bb2 F29 fun _ _ _ _ _ _ _ _=>rfl,
  F30,W.mg_of X G a30,bb4 F30 fun _ _ _ _ _ _ _ _ _ _=>rfl,
  F31,W.mg_of X G a31,bb5 F31 fun _ _ _ _ _ _ _ _ _ _ _=>rfl,
  F32,W.mg_of X G a32,bb2 F32 fun _ _ _ _ _ _ _ _=>rfl,
  F33,W.mg_of X G a33,bb3 F33 fun _ _ _ _ _ _ _ _ _=>rfl,
  F34,W.mg_of X G a34,bb3 F34 fun _ _ _ _ _ _ _ _ _=>rfl,
  F35,W.mg_of X G a35,bb2 F35 fun _ _ _ _ _ _ _ _=>rfl,
  F36,W.mg_of X G a36,bb5 F36 fun _ _ _ _ _ _ _ _ _ _ _=>rfl,
  F37,W.mg_of X G a37,bb5 F37 fun _ _ _ _ _ _ _ _ _ _ _=>rfl,
  F38,W.mg_of X G a38,bb3 F38 fun _ _ _ _ _ _ _ _ _=>rfl,
  F39,W.mg_of X G a39,bb3 F39 fun _ _ _ _ _ _ _ _ _=>rfl,
  F40,W.mg_of X G a40,bb5 F40 fun _ _ _ _ _ _ _ _ _ _ _=>rfl,
  F41,W.mg_of X G a41,bb1 F41 fun _ _ _ _ _ _ _=>rfl,
  ⟨pg_RingTally,hd_RingTally,po_RingTally,sa_RingTally⟩,⟨mk_RingTally,a13,i13,kc_RingTally⟩,W.mg_of X G aC_RingTally,jS,j4,jX,jQ,
  ⟨pg_Stage,hd_Stage,po_Stage,sa_Stage⟩,⟨mk_Stage,a20,i20,kc_Stage⟩,W.mg_of X G aC_Stage,qA,J3,qa,j6,qr,JV,
  W.mg_none_of X G z0,
  W.mg_none_of X G z1,
  W.mg_none_of X G z2,
  W.mg_none_of X G z3,
  W.mg_none_of X G z4,
  W.mg_none_of X G z5,
  W.mg_none_of X G z6,
  W.mg_none_of X G z7,
  W.mg_none_of X G z8,
  W.mg_none_of X G z9,
  W.mg_none_of X G z10,
  W.mg_none_of X G z11,
  W.mg_none_of X G z12,
  W.mg_none_of X G z13,
  W.mg_none_of X G z14,
  W.mg_none_of X G z15,
  W.mg_of X G g_MOST_NAMES,kk_MOST_NAMES⟩⟩
end K26
open PySem PySem.W PyProof.Rows
set_option maxRecDepth 100000 in
set_option maxHeartbeats 0 in
theorem PySem.Challenge.cw_camplay_k26_whole_rings_found_holds : PySem.Challenge.rw_camplay_k26_whole_rings_found.Holds := by
 w_on;o_law;k_head;(case hw=>w_witness2)
 k_fill
 refine L2.j1N (l:=PySem.Challenge.rw_camplay_k26_whole_rings_found) (n:=63) (k:=10) (x:="_law_script") (CX:=L2.CX0) (sp:=Pr.sp_law) rfl (by decide) rfl ⟨rfl,by decide,by decide⟩ (fun w h Y=>PySem.W.kIn_of Y) ?F (fun K H a ns hl hb hO hS=>⟨a,ns,rfl,hS,hl,hb,fun _=>rfl⟩) (fun _ _ _ _ z=>z)
 case F=>
  intro w mg fa h KX G hmg;have TT:∃t:K26.Ad,K26.Txt (L2.KOf KX) mg t:=by
   dsimp only[L2.KOf];refine' K26.j3e KX G ?aC_Stage ?pg_Stage ?hd_Stage ?po_Stage ?sa_Stage ?mk_Stage ?kc_Stage ?qA ?J3 ?qa ?j6 ?qr ?JV ?aC_RingTally ?pg_RingTally ?hd_RingTally ?po_RingTally ?sa_RingTally ?mk_RingTally ?kc_RingTally ?jS ?j4 ?jX ?jQ ?a1 (L2.jP ?l1 ?c1 ?k1) ?a2 (L2.jP ?l2 ?c2 ?k2) ?a3 (L2.jP ?l3 ?c3 ?k3) ?a4 (L2.jP ?l4 ?c4 ?k4) ?a5 (L2.jP ?l5 ?c5 ?k5) ?a6 (L2.jP ?l6 ?c6 ?k6) ?a7 (L2.jP ?l7 ?c7 ?k7) ?a8 (L2.jP ?l8 ?c8 ?k8) ?a9 (L2.jP ?l9 ?c9 ?k9) ?a10 (L2.jP ?l10 ?c10 ?k10) ?a11 (L2.jP ?l11 ?c11 ?k11) ?a12 (L2.jP ?l12 ?c12 ?k12) ?a13 ?i13 (L2.jP ?l13 ?c13 ?k13) ?a14 ?i14 (L2.jP ?l14 ?c14 ?k14) ?a15 (L2.jP ?l15 ?c15 ?k15) ?a16 (L2.jP ?l16 ?c16 ?k16) ?a17 (L2.jP ?l17 ?c17 ?k17) ?a18 ?l18 ?c18 ?k18 ?t18 ?a19 (L2.jP ?l19 ?c19 ?k19) ?a20 ?i20 (L2.jP ?l20 ?c20 ?k20) ?a21 ?i21 (L2.jP ?l21 ?c21 ?k21) ?a22 ?i22 (L2.jP ?l22 ?c22 ?k22) ?a23 ?i23 (L2.jP ?l23 ?c23 ?k23) ?a24 (L2.jP ?l24 ?c24 ?k24) ?a25 (L2.jP ?l25 ?c25 ?k25) ?a26 (L2.jP ?l26 ?c26 ?k26) ?a27 (L2.jP ?l27 ?c27 ?k27) ?a28 (L2.jP ?l28 ?c28 ?k28) ?a29 (L2.jP ?l29 ?c29 ?k29) ?a30 (L2.jP ?l30 ?c30 ?k30) ?a31 (L2.jP ?l31 ?c31 ?k31) ?a32 (L2.jP ?l32 ?c32 ?k32) ?a33 (L2.jP ?l33 ?c33 ?k33) ?a34 (L2.jP ?l34 ?c34 ?k34) ?a35 (L2.jP ?l35 ?c35 ?k35) ?a36 (L2.jP ?l36 ?c36 ?k36) ?a37 (L2.jP ?l37 ?c37 ?k37) ?a38 (L2.jP ?l38 ?c38 ?k38) ?a39 (L2.jP ?l39 ?c39 ?k39) ?a40 (L2.jP ?l40 ?c40 ?k40) ?a41 (L2.jP ?l41 ?c41 ?k41) ?g_MOST_NAMES ?kk_MOST_NAMES ?z0 ?z1 ?z2 ?z3 ?z4 ?z5 ?z6 ?z7 ?z8 ?z9 ?z10 ?z11 ?z12 ?z13 ?z14 ?z15
   (case aC_RingTally=>k_is);(case pg_RingTally=>k_is);(case hd_RingTally=>k_is);(case po_RingTally=>k_is);(case sa_RingTally=>k_is);(case mk_RingTally=>k_is);(case kc_RingTally=>k_is);(case jS=>k_is);(case j4=>k_is);(case jX=>k_is);(case jQ=>k_is)
   (case aC_Stage=>k_is);(case pg_Stage=>k_is);(case hd_Stage=>k_is);(case po_Stage=>k_is);(case sa_Stage=>k_is);(case mk_Stage=>k_is);(case kc_Stage=>k_is);(case qA=>k_is);(case J3=>k_is);(case qa=>k_is);(case j6=>k_is);(case qr=>k_is);(case JV=>k_is)
   (case a1=>k_is);(case l1=>k_is);(case c1=>k_is);(case k1=>k_is)
   (case a2=>k_is);(case l2=>k_is);(case c2=>k_is);(case k2=>k_is)
   (case a3=>k_is);(case l3=>k_is);(case c3=>k_is);(case k3=>k_is)
   (case a4=>k_is);(case l4=>k_is);(case c4=>k_is);(case k4=>k_is)
   (case a5=>k_is);(case l5=>k_is);(case c5=>k_is);(case k5=>k_is)
   (case a6=>k_is);(case l6=>k_is);(case c6=>k_is);(case k6=>k_is)
   (case a7=>k_is);(case l7=>k_is);(case c7=>k_is);(case k7=>k_is)
   (case a8=>k_is);(case l8=>k_is);(case c8=>k_is);(case k8=>k_is)
   (case a9=>k_is);(case l9=>k_is);(case c9=>k_is);(case k9=>k_is)
   (case a10=>k_is);(case l10=>k_is);(case c10=>k_is);(case k10=>k_is)
   (case a11=>k_is);(case l11=>k_is);(case c11=>k_is);(case k11=>k_is)
   (case a12=>k_is);(case l12=>k_is);(case c12=>k_is);(case k12=>k_is)
   (case a13=>k_is);(case i13=>k_is)
   (case l13=>k_is);(case c13=>k_is);(case k13=>k_is)
   (case a14=>k_is);(case i14=>k_is)
   (case l14=>k_is);(case c14=>k_is);(case k14=>k_is)
   (case a15=>k_is);(case l15=>k_is);(case c15=>k_is);(case k15=>k_is)
   (case a16=>k_is);(case l16=>k_is);(case c16=>k_is);(case k16=>k_is)
   (case a17=>k_is);(case l17=>k_is);(case c17=>k_is);(case k17=>k_is)
   (case a18=>k_is);(case l18=>k_is);(case c18=>k_is);(case k18=>k_is);(case t18=>k_is)
   (case a19=>k_is);(case l19=>k_is);(case c19=>k_is);(case k19=>k_is)
   (case a20=>k_is);(case i20=>k_is)
   (case l20=>k_is);(case c20=>k_is);(case k20=>k_is)
   (case a21=>k_is);(case i21=>k_is)
   (case l21=>k_is);(case c21=>k_is);(case k21=>k_is)
   (case a22=>k_is);(case i22=>k_is)
   (case l22=>k_is);(case c22=>k_is);(case k22=>k_is)
   (case a23=>k_is);(case i23=>k_is)
   (case l23=>k_is);(case c23=>k_is);(case k23=>k_is)
   (case a24=>k_is);(case l24=>k_is);(case c24=>k_is);(case k24=>k_is)
   (case a25=>k_is);(case l25=>k_is);(case c25=>k_is);(case k25=>k_is)
   (case a26=>k_is);(case l26=>k_is);(case c26=>k_is);(case k26=>k_is)
   (case a27=>k_is);(case l27=>k_is);(case c27=>k_is);(case k27=>k_is)
   (case a28=>k_is);(case l28=>k_is);(case c28=>k_is);(case k28=>k_is)
   (case a29=>k_is);(case l29=>k_is);(case c29=>k_is);(case k29=>k_is)
   (case a30=>k_is);(case l30=>k_is);(case c30=>k_is);(case k30=>k_is)
   (case a31=>k_is);(case l31=>k_is);(case c31=>k_is);(case k31=>k_is)
   (case a32=>k_is);(case l32=>k_is);(case c32=>k_is);(case k32=>k_is)
   (case a33=>k_is);(case l33=>k_is);(case c33=>k_is);(case k33=>k_is)
   (case a34=>k_is);(case l34=>k_is);(case c34=>k_is);(case k34=>k_is)
   (case a35=>k_is);(case l35=>k_is);(case c35=>k_is);(case k35=>k_is)
   (case a36=>k_is);(case l36=>k_is);(case c36=>k_is);(case k36=>k_is)
   (case a37=>k_is);(case l37=>k_is);(case c37=>k_is);(case k37=>k_is)
   (case a38=>k_is);(case l38=>k_is);(case c38=>k_is);(case k38=>k_is)
   (case a39=>k_is);(case l39=>k_is);(case c39=>k_is);(case k39=>k_is)
   (case a40=>k_is);(case l40=>k_is);(case c40=>k_is);(case k40=>k_is)
   (case a41=>k_is);(case l41=>k_is);(case c41=>k_is);(case k41=>k_is)
   (case g_MOST_NAMES=>k_is);(case kk_MOST_NAMES=>(show PyProof.Rows.KTD.tabLook _ _ _ _=true);kernel_rfl)
   (case z0=>k_is)
   (case z1=>k_is)
   (case z2=>k_is)
   (case z3=>k_is)
   (case z4=>k_is)
   (case z5=>k_is)
   (case z6=>k_is)
   (case z7=>k_is)
   (case z8=>k_is)
   (case z9=>k_is)
   (case z10=>k_is)
   (case z11=>k_is)
   (case z12=>k_is)
   (case z13=>k_is)
   (case z14=>k_is)
   (case z15=>k_is)
  obtain⟨t,T⟩:=TT;obtain⟨_,_,kV,dc,pm,an,cd,ct,_,e,_⟩:=T.j2z.ex;have e0:=hmg.symm.trans T.j3h;cases e0;refine⟨t.Wd,fun s v=>?_,fun base _ _=>K26.j1U T⟩;rw[e];exact .of_eq rfl
#print axioms PySem.Challenge.cw_camplay_k26_whole_rings_found_holds
